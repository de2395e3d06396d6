/- machine.operate, call, obey: what a command does; session.Fresh: without those that said nothing for so long (joined by program) -/
import Derived.Test.YtijilhbdbeajjaaGreatDoorTT09
import Derived.Test.YtijilhbdbeajjaaGreatDoorTT15
import Derived.Test.YtijilhbdbeajjaaGreatDoorTT26
import Derived.Test.YtijilhbdbeajjaaGreatDoorTT31
import Derived.Test.YtijilhbdbeajjaaGreatDoorTT35
import Derived.Test.YtijilhbdbeajjaaGreatDoorTT02
import Derived.Test.YtijilhbdbeajjaaGreatDoorTT19
namespace Go.Proofs.YtijilhbdbeajjaaGreatDoor

open Go.RowKit

/-- A state that lies in a block, and a reply: what a call leaves. -/
def Left (w : World) (p : Nat) (s : StateD) (r : ReplyD) (e : Ending) (w' : World) : Prop :=
  e = .returned (.agg #[.int .i64 r.code, .int .i64 r.n, .string r.text]) ∧ StB w' p s ∧ TouchG w w' (fun b => b = p)

theorem name_short {a : ByteArray} (h : nameB a = true) : a.size ≤ 140737488351232 := by
  obtain ⟨_, h2, _⟩ := nameB_yes h
  omega

theorem moper_any (p : Nat) (s : StateD) (c k : Int) (a b : ByteArray) (n : Int) (w : World) (h : StB w p s) (hl : GoodL s.locks) (hp : GoodP s.pairs) (ho : OpOk c k a b n) :
    Calls Tryz.prog 141 #[.pointer (some ⟨p, 0, none⟩), .int .i64 c, .agg #[.int .i64 k, .string a, .string b, .int .i64 n]] w (Left w p (operM s c k a b n).1 (operM s c k a b n).2) := by
  obtain ⟨c1, c2⟩ := ho.client
  obtain ⟨k1, k2⟩ := ho.kind
  have hr := hl.refuse ho.name c1 c2
  have ha := name_short ho.name
  rcases (by omega : k = 1 ∨ k = 2 ∨ k = 3 ∨ k = 4 ∨ k = 5 ∨ k = 6) with rfl | rfl | rfl | rfl | rfl | rfl
  · exact moper_try p s c a b n w h hr ha
  · exact moper_line p s c a b n w h hr ha
  · exact moper_free p s c a b n w h hr ha
  · exact moper_who p s c a b n w h hl.check
  · by_cases hw : (whoL s.locks a).1 = c ∧ (whoL s.locks a).2 = n
    · have e : operM s c 5 a b n = ({ s with pairs := (setP s.pairs a b).1 }, ⟨(setP s.pairs a b).2.1, (setP s.pairs a b).2.2, ⟨#[]⟩⟩) := by simp [operM, hw]
      have hw' : whoL s.locks a = (c, n) := Prod.ext hw.1 hw.2
      have hrp : refuseP s.pairs a b = 0 := by
        unfold refuseP
        rw [if_neg (by rw [hp.check]; simp), if_neg (by rw [ho.name]; simp), if_neg (by have := ho.value; omega)]
      rw [e]
      exact moper_set p s _ c a b n _ _ w h (fun w' h' => mset_ok p s c 5 a b n w' h' hl.check hw' hrp ha (by have := ho.value; omega))
    · have e : operM s c 5 a b n = (s, ⟨10, (whoL s.locks a).1, ⟨#[]⟩⟩) := by simp [operM, hw]
      rw [e]
      exact moper_set p s s c a b n _ _ w h (fun w' h' => (mset_held p s c 5 a b n w' h' hl.check hw).mono fun e w'' ⟨he, hb⟩ => ⟨he, h'.below hb, TouchG.of_below hb (Nat.le_refl _) _⟩)
  · exact moper_get p s c a b n w h hp.check

theorem mcall_any (p : Nat) (s : StateD) (x : CmdD) (w : World) (h : StB w p s) (hg : GoodM s) (hi : s.index < 1073741824) (hx : x.err = 0) (hk : x.kind = 2) :
    Calls Tryz.prog 98 #[.pointer (some ⟨p, 0, none⟩), cmdV x] w (Left w p (callM s x).1 (callM s x).2) := by
  obtain ⟨-, hc, h2⟩ := cmdE_parts hx
  obtain ⟨-, hq, hu, ho⟩ := h2 hk
  obtain ⟨o1, o2, o3⟩ := opE_zero ho
  have hop : OpOk x.client x.ok x.a x.b x.n := ⟨hc, o1, o2, o3⟩
  have hr : readyE s.sess s.index x.seq x.acked = 0 := readyE_ok (checkS_of hg.sess) ⟨by omega, hq, hu.1, hu.2⟩
  cases ht : (readyS s.sess s.index x.client x.session x.seq x.acked).2.2 with
  | false =>
    have e : callM s x = ({ s with sess := (readyS s.sess s.index x.client x.session x.seq x.acked).1 }, (readyS s.sess s.index x.client x.session x.seq x.acked).2.1) := by
      unfold callM
      rw [if_neg (by rw [ht]; simp)]
    rw [e]
    exact mcall_away p s x.kind x.client x.session x.seq x.acked x.ok x.a x.b x.n w h hr ht
  | true =>
    have e : callM s x = ({ (operM { s with sess := (readyS s.sess s.index x.client x.session x.seq x.acked).1 } x.client x.ok x.a x.b x.n).1 with
        sess := keepS (readyS s.sess s.index x.client x.session x.seq x.acked).1 x.client ⟨x.seq, (operM { s with sess := (readyS s.sess s.index x.client x.session x.seq x.acked).1 } x.client x.ok x.a x.b x.n).2.code, (operM { s with sess := (readyS s.sess s.index x.client x.session x.seq x.acked).1 } x.client x.ok x.a x.b x.n).2.n, (operM { s with sess := (readyS s.sess s.index x.client x.session x.seq x.acked).1 } x.client x.ok x.a x.b x.n).2.text⟩ },
      (operM { s with sess := (readyS s.sess s.index x.client x.session x.seq x.acked).1 } x.client x.ok x.a x.b x.n).2) := by
      unfold callM
      rw [if_pos ht]
    rw [e]
    obtain ⟨g1, g2, g3, g4, g5⟩ := operM_good (s := { s with sess := (readyS s.sess s.index x.client x.session x.seq x.acked).1 }) hg.locks hg.pairs hop
    obtain ⟨k1, -, -⟩ := keep_ready hg.sess hi hq.2 hu.2 ht g3
    have hyt : (operM { s with sess := (readyS s.sess s.index x.client x.session x.seq x.acked).1 } x.client x.ok x.a x.b x.n).2.text.size ≤ 140737488351232 := by have := (replyB_iff.1 g3).2.2.2.2; omega
    exact mcall_todo p s _ x.kind x.client x.session x.seq x.acked x.ok x.a x.b x.n w h hr ht hg.sess.low hi _ _ _ hyt g5 g4 (fun w' h' => moper_any p _ x.client x.ok x.a x.b x.n w' h' hg.locks hg.pairs hop) k1

set_option maxRecDepth 100000 in
set_option maxHeartbeats 1600000 in
theorem obey_step (p : Nat) (s s' : StateD) (r : ReplyD) (kk cc ss qq uu ok : Int) (aa bb : ByteArray) (nn : Int) (w : World) (h : StB w p s)
    (C : (kk = 1 ∧ ∀ w' : World, StB w' p s → Calls Tryz.prog 96 #[.pointer (some ⟨p, 0, none⟩), .int .i64 cc] w' (Left w' p s' r)) ∨ (kk = 3 ∧ ∀ w' : World, StB w' p s → Calls Tryz.prog 97 #[.pointer (some ⟨p, 0, none⟩), .int .i64 cc] w' (Left w' p s' r)) ∨
      (kk = 2 ∧ ∀ w' : World, StB w' p s → Calls Tryz.prog 98 #[.pointer (some ⟨p, 0, none⟩), .agg #[.int .i64 kk, .int .i64 cc, .int .i64 ss, .int .i64 qq, .int .i64 uu, .int .i64 ok, .string aa, .string bb, .int .i64 nn]] w' (Left w' p s' r))) :
    Calls Tryz.prog 61 #[.pointer (some ⟨p, 0, none⟩), .agg #[.int .i64 kk, .int .i64 cc, .int .i64 ss, .int .i64 qq, .int .i64 uu, .int .i64 ok, .string aa, .string bb, .int .i64 nn]] w (Left w p s' r) := by
  obtain ⟨rc, rn, rt⟩ := r
  have hb0 : Below w.heap.size w ((w.alloc (.cells #[.int .i64 kk, .int .i64 cc, .int .i64 ss, .int .i64 qq, .int .i64 uu, .int .i64 ok, .string aa, .string bb, .int .i64 nn] 67)).alloc (.cells #[.int .i64 0, .int .i64 0, .string ⟨#[]⟩] 73)) := ((Below.refl w.heap.size w).alloc (Nat.le_refl _) _).alloc (by simp) _
  have HS0 := ghid (h.below hb0)
  have HB0 := ghid hb0
  have hpl := h.lt
  have hne2' : w.heap.size + 1 ≠ p := by omega
  have hne2 : p ≠ w.heap.size + 1 := by omega
  have HC := ghid C
  clear h hb0 C
  have fin : ∀ w2 : World, Left ((w.alloc (.cells #[.int .i64 kk, .int .i64 cc, .int .i64 ss, .int .i64 qq, .int .i64 uu, .int .i64 ok, .string aa, .string bb, .int .i64 nn] 67)).alloc (.cells #[.int .i64 0, .int .i64 0, .string ⟨#[]⟩] 73)) p s' ⟨rc, rn, rt⟩ (.returned (.agg #[.int .i64 rc, .int .i64 rn, .string rt])) w2 →
      w2.heap[w.heap.size + 1]? = some (.cells #[.int .i64 0, .int .i64 0, .string ⟨#[]⟩] 73 (0, 0)) ∧ StB (((w2.setCell ⟨w.heap.size + 1, 0, none⟩ (.int .i64 rc)).setCell ⟨w.heap.size + 1, 1, none⟩ (.int .i64 rn)).setCell ⟨w.heap.size + 1, 2, none⟩ (.string rt)) p s' ∧ TouchG w (((w2.setCell ⟨w.heap.size + 1, 0, none⟩ (.int .i64 rc)).setCell ⟨w.heap.size + 1, 1, none⟩ (.int .i64 rn)).setCell ⟨w.heap.size + 1, 2, none⟩ (.string rt)) (fun b => b = p) := by
    rintro w2 ⟨-, hs2, ht2⟩
    have hr2 : w2.heap[w.heap.size + 1]? = some (.cells #[.int .i64 0, .int .i64 0, .string ⟨#[]⟩] 73 (0, 0)) := by
      rw [ht2.block _ (by simp) hne2']
      exact (two_newB (Below.refl (w.heap.size + 2) _)).1
    exact ⟨hr2, (hs2.reply hr2 hne2' rc rn rt).1, touch_reply (r := w.heap.size + 1) ((TouchG.of_below HB0.out (Nat.le_refl _) (fun b => b = p)).trans ht2 (fun _ _ h => h)) (Or.inr (by omega)) (.int .i64 rc) (.int .i64 rn) (.string rt)⟩
  have HF := ghid fin
  clear fin
  rcases HC.out with ⟨rfl, C⟩ | ⟨rfl, C⟩ | ⟨rfl, C⟩
  all_goals
    have C' := ghid (C _ HS0.out)
    clear C HC HS0
    go_enter Tryz.func61, Tryz.ntmps61
    go_wp2_with fail
    refine C'.out.mono ?_
    rintro e w2 hL
    obtain ⟨rfl, -⟩ := id hL
    obtain ⟨hr2, hs2, ht2⟩ := HF.out w2 hL
    have HS2 := ghid hs2
    have HT2 := ghid ht2
    obtain ⟨q0, q1, q2, qf, hql⟩ := reply_cells hr2
    clear hL hr2 hs2 ht2 C' HF
    simp only
    go_wp2
    exact bodyPost_ret (v := .agg #[.int .i64 rc, .int .i64 rn, .string rt]) (by simp [results, Tryz.results61, go_sem, q0, q1, q2]) rfl ⟨rfl, HS2.out, HT2.out⟩

theorem obey_any (p : Nat) (s : StateD) (x : CmdD) (w : World) (h : StB w p s) (hg : GoodM s) (hi : s.index < 1073741824) (hx : x.err = 0) :
    Calls Tryz.prog 61 #[.pointer (some ⟨p, 0, none⟩), cmdV x] w (Left w p (obeyM s x).1 (obeyM s x).2) := by
  obtain ⟨hk, hc, -⟩ := cmdE_parts hx
  refine obey_step p s _ _ x.kind x.client x.session x.seq x.acked x.ok x.a x.b x.n w h ?_
  rcases (by omega : x.kind = 1 ∨ x.kind = 3 ∨ x.kind = 2) with e | e | e
  · refine Or.inl ⟨e, fun w' h' => ?_⟩
    have eo : obeyM s x = ({ s with sess := (joinS s.sess s.index x.client).1 }, (joinS s.sess s.index x.client).2) := by simp [obeyM, e]
    rw [eo]
    refine mjoin_any p s x.client w' h' ?_
    unfold joinE
    rw [if_neg (by rw [checkS_of hg.sess]; simp), if_pos ⟨hc, by omega⟩]
  · refine Or.inr (Or.inl ⟨e, fun w' h' => ?_⟩)
    have eo : obeyM s x = ({ s with locks := goneL s.locks x.client, sess := (leaveS s.sess x.client).1 }, (leaveS s.sess x.client).2) := by simp [obeyM, e]
    rw [eo]
    exact mleave_any p s x.client w' h' (checkS_of hg.sess) (hg.locks.goneE hc.1 hc.2)
  · refine Or.inr (Or.inr ⟨e, fun w' h' => ?_⟩)
    have eo : obeyM s x = callM s x := by simp [obeyM, e]
    rw [eo]
    exact mcall_any p s x w' h' hg hi hx e

end Go.Proofs.YtijilhbdbeajjaaGreatDoor

namespace Go.Proofs.YtijilhbdbeajjaaGreatDoor

open Go.RowKit

theorem fresh1_any (c d a t : Int) (lv : Value) (i : Int) (b0 : Nat) (w : World) (hc0 : w.cell? ⟨b0, 0, none⟩ = some (.int .i64 i)) (hb0 : b0 < w.heap.size) (ht0 : 0 ≤ t) (ht1 : t ≤ 1073741824) :
    Calls Tryz.prog 51 #[.agg #[.int .i64 c, .int .i64 d, .int .i64 a, .int .i64 t, lv], .pointer (some ⟨b0, 0, none⟩)] w fun e w' => e = .returned (.bool (decide (t + 40 ≤ i))) ∧ Below w.heap.size w w' := by
  go_enter Tryz.func51, Tryz.ntmps51
  go_wp2
  go_ret
  exact ⟨rfl, (Below.refl _ _).alloc (Nat.le_refl _) _⟩

theorem freshS_eq (rs : List (SessD × Value)) (i : Int) : (rs.filter fun r => !decide (r.1.last + 40 ≤ i)).map (·.1) = freshS (rs.map (·.1)) i := by
  unfold freshS
  rw [List.filter_map]
  congr 1
  apply List.filter_congr
  intro r _
  simp only [freshP, Function.comp]
  rw [Bool.eq_iff_iff]
  simp

set_option maxHeartbeats 1600000 in
theorem Fresh_ok (v : Value) (ls : List SessD) (i : Int) (w : World) (B : Nat) (hv : SessR w B v ls) (hB : B ≤ w.heap.size) (hr : checkS ls i = 0) :
    Calls Tryz.prog 26 #[v, .int .i64 i] w fun e w' => ∃ v', e = .returned (.tuple #[v', .int .i64 0]) ∧ SessR w' w'.heap.size v' (freshS ls i) ∧ Below w.heap.size w w' := by
  have hb0 : Below w.heap.size w (w.alloc (.cells #[.int .i64 i] 3)) := (Below.refl _ _).alloc (Nat.le_refl _) _
  have C := sessCheck_any v ls i _ B (hv.below hb0 hB) (by simp; omega)
  have HGD := ghid (checkS_zero hr)
  rw [hr] at C
  have HV := ghid hv
  obtain ⟨ao, cap, rfl, -⟩ := hv
  have HB0 := ghid hb0
  clear hb0
  go_enter Tryz.func26, Tryz.ntmps26
  go_wp2_with fail
  refine C.mono ?_
  rintro e w1 ⟨rfl, hb1⟩
  have hb01 := HB0.out.trans (hb1.mono (by simp))
  have d0 : w1.cell? ⟨w.heap.size, 0, none⟩ = some (.int .i64 i) := (hb1.cell (p := ⟨w.heap.size, 0, none⟩) (by simp)).trans (by simp)
  have hz1 : w.heap.size < w1.heap.size := by have := hb1.size; simp at this; omega
  have HB01 := ghid hb01
  clear hb1 hb01 C
  go_wp2_with fail
  refine (sessCopy_any _ ls w1 B (HV.out.below HB01.out hB) (by omega)).mono ?_
  rintro e w2 ⟨rfl, rs, hrs, hown, -, hb2⟩
  have hz2 : w1.heap.size ≤ w2.heap.size := hb2.size
  have HB2 := ghid hb2
  have HRS := ghid hrs
  have CD := deleteFuncS w1.heap.size ls.length ls.length rs 51 #[.pointer (some ⟨w.heap.size, 0, none⟩)] (fun x => decide (x.last + 40 ≤ i)) w2 w1.heap.size hown (enters_of Tryz.func51 (by decide) rfl) (fun x ao n c w' hx hw => by
    rw [hrs] at hx
    have hf := rangeB_iff.1 (HGD.out.fine x hx).range
    have := HGD.out.high
    refine fresh1_any x.client x.id x.acked x.last _ i w.heap.size w' ?_ (by have := hw.size; omega) (by omega) (by omega)
    rw [World.cell?_of_block (hw.block w.heap.size (by omega) (by omega))]
    exact (HB2.out.cell (p := ⟨w.heap.size, 0, none⟩) hz1).trans d0)
  clear hown hb2 hrs
  go_wp2_with fail
  refine CD.mono ?_
  rintro e w3 ⟨m, rfl, hown3, hT⟩
  have HR3 := ghid (hown3.reads (Nat.le_refl _))
  rw [freshS_eq, HRS.out] at HR3
  have HB3 := ghid (HB01.out.trans ((HB2.out.mono (by omega)).trans (hT.below (by omega) (fun k hk => by omega))))
  clear hown3 hT CD
  go_wp2
  refine bodyPost_ret (v := .tuple #[.slice (some ⟨w1.heap.size, 0, none⟩) m ls.length, .int .i64 0]) (by simp [results, Tryz.results26, go_sem]) rfl ?_
  exact ⟨_, rfl, HR3.out, HB3.out⟩

end Go.Proofs.YtijilhbdbeajjaaGreatDoor
