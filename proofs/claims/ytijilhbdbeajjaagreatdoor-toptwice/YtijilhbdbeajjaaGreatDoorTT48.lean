/- cluster.drop, cluster.copyMail; slices.IndexFunc over clients, with whatever closure; cluster.deliver's own; slices.IndexFunc over calls that wait, with whatever closure; customer.hearCall's own; slices.Delete of one call out of a row of the call's own; customer.hearJoin, customer.hearCall, customer.Hear. (Written by gen_hear.py.); customer.hearCall. (Written by gen_hearc.py.); customer.Hear. (Written by gen_heard.py.); cluster.deliver. (Written by gen_clusdeliver.py.); cluster.doOfClient, doOfReplica, doOfMail, do. (Written by gen_clusdo.py.); customer.New, the document's CustomerOf; the walk of tackroomlaw.CustomerNews; cluster.begin; The town at first; a code put behind the codes; how many mails there may be (joined by program) -/
import Derived.Shelf.Abstract
import Derived.Deep.QuietTactic
import Derived.BigQuiet
import Derived.Deep.RegionWith
import Derived.Deep.DeepCutAuto
import Derived.Test.YtijilhbdbeajjaaGreatDoorTT47
import Derived.Test.YtijilhbdbeajjaaGreatDoorTT44
import Derived.Test.YtijilhbdbeajjaaGreatDoorTT18
import Derived.Test.YtijilhbdbeajjaaGreatDoorTT46
import Derived.Test.YtijilhbdbeajjaaGreatDoorTT40
namespace Go.Proofs.YtijilhbdbeajjaaGreatDoor

open Go.RowKit

section

variable {gh g2 ev : Value} {w : World} {p : Nat} {K : Nat → Prop} {rv cv mv tv : Value} {xs : List RepV} {cs : List CustV} {t : TownD}

/-- The row of mails, where there is one. -/
theorem TownM.mrow {ty : TypeId} {tl : List Value} (h : TownM ty tl w p K rv cv mv tv xs cs t) {k : Nat} (hk : k < t.mails.length) : ∃ g cap, mv = .slice (some ⟨g, 0, none⟩) t.mails.length cap ∧ g < w.heap.size := by
  obtain ⟨g, cap, rfl, -, hg, -⟩ := grow_some h.mails (by omega)
  exact ⟨g, cap, rfl, hg⟩

theorem TownM.mfar {ty : TypeId} {tl : List Value} (h : TownM ty tl w p K rv cv mv tv xs cs t) (ho : OddT ty) : mv.ownBlock ≠ some p := fun e => by
  obtain ⟨c, hcc⟩ := grow_tag h.mails e
  rw [h.cells] at hcc
  simp only [Option.some.injEq, Obj.cells.injEq] at hcc
  exact ho.2.2.2.2.2.2.2.1 hcc.2.1

set_option maxRecDepth 100000 in
set_option maxHeartbeats 3200000 in
theorem drop_town (h : TownM 32 [gh, g2, ev] w p K rv cv mv tv xs cs t) (hml : t.mails.length ≤ 60) {k : Nat} (hk : k < t.mails.length) :
    Calls Tryz.prog 114 #[.pointer (some ⟨p, 0, none⟩), .int .i64 (k : Int)] w fun e w' => e = .returned (.tuple #[]) ∧ MovedE 32 [gh, g2, ev] w w' p K { t with mails := t.mails.eraseIdx k } := by
  obtain ⟨g, cap, rfl, hgl⟩ := h.mrow hk
  have hfar := h.mfar odd_out
  have HH := ghid h
  obtain ⟨c0, c1, c2, c3, c4, c5, cf, hpl⟩ := six_cells h.cells
  have CD := ghid (deleteM g t.mails.length cap k t.mails w 0 h.mails rfl hk hml)
  have hpg : p ≠ g := fun e => hfar (by rw [e]; rfl)
  have HC := ghid h.cells
  have hw1 : IntKind.i64.wrap ((k : Int) + 1) = k + 1 := by rw [IntKind.wrap_i64]; omega
  have HEL : Hid ((t.mails.eraseIdx k).length = t.mails.length - 1) := by unfold Hid; rw [List.length_eraseIdx, if_pos hk]
  clear h hfar
  go_enter Tryz.func114, Tryz.ntmps114
  go_wp2_with fail
  refine CD.out.mono ?_
  rintro e w1 ⟨rfl, hown, ht⟩
  have hq := (ht.block p hpl hpg).trans HC.out
  have HF := ghid (HH.out.grewMails odd_out (w0 := w1) (mv' := .slice (some ⟨g, 0, none⟩) (t.mails.length - 1) cap) (ms := t.mails.eraseIdx k) (ht.sub fun b _ e => by rw [e]; rfl) (by rw [HEL.out]; exact hown) (fun z hz => HH.out.small z (List.mem_of_mem_eraseIdx hz)) (fun b _ e => e))
  clear hown ht c0 c1 c2 c3 c4 c5 cf hpl CD
  obtain ⟨c0, c1, c2, c3, c4, c5, cf, hpl⟩ := six_cells hq
  clear hq
  go_wp2
  refine bodyPost_end (v := .tuple #[]) (by simp [results, Tryz.results114, go_sem]) rfl ?_
  exact ⟨rfl, HF.out⟩

set_option maxRecDepth 100000 in
set_option maxHeartbeats 3200000 in
theorem copyMail_town (h : TownM 32 [gh, g2, ev] w p K rv cv mv tv xs cs t) (hml : t.mails.length ≤ 60) {k : Nat} {m : MailD} (hm : t.mails[k]? = some m) (R : TownD × Int) (hR : R = if 60 ≤ t.mails.length then (t, 8) else ({ t with mails := t.mails ++ [m] }, 0)) :
    Calls Tryz.prog 115 #[.pointer (some ⟨p, 0, none⟩), .int .i64 (k : Int)] w fun e w' => e = .returned (.int .i64 R.2) ∧ MovedE 32 [gh, g2, ev] w w' p K R.1 := by
  obtain ⟨i0, hi0, hz0, hz1, hz2⟩ := info_parts Tryz.infoMail
  have hk := (List.getElem?_eq_some_iff.1 hm).1
  obtain ⟨g, cap, rfl, hgl⟩ := h.mrow hk
  have hfar := h.mfar odd_out
  have HH := ghid h
  obtain ⟨c0, c1, c2, c3, c4, c5, cf, hpl⟩ := six_cells h.cells
  have m0 := grow_at mailCells_len h.mails rfl hm 0 (by omega)
  have m1 := grow_at mailCells_len h.mails rfl hm 1 (by omega)
  have m2 := grow_at mailCells_len h.mails rfl hm 2 (by omega)
  have m3 := grow_at mailCells_len h.mails rfl hm 3 (by omega)
  have m4 := grow_at mailCells_len h.mails rfl hm 4 (by omega)
  simp only [mailCells, Nat.add_zero, List.getElem?_cons_zero, List.getElem?_cons_succ] at m0 m1 m2 m3 m4
  have hsm := h.small m (List.mem_of_getElem? hm)
  have HSM := ghid hsm
  have CS := ghid (fun u => clone_any m.reply.text u (by omega))
  obtain ⟨ml, hmll⟩ : ∃ z, z = t.mails.length := ⟨_, rfl⟩
  rw [← hmll] at c2 hml hk hR hfar
  have HML := ghid hmll
  have HR := ghid hR
  have hki : (k : Int) < ml := by omega
  clear h hm hR hmll hsm
  by_cases h60 : 60 ≤ ml
  · have HRR : Hid (R = (t, 8)) := HR.out.trans (if_pos h60)
    have h60i : (60 : Int) ≤ ml := by omega
    clear HR h60
    go_enter Tryz.func115, Tryz.ntmps115
    go_wp2
    go_ret
    exact ⟨sret_int (by rw [HRR.out]), by rw [HRR.out]; exact MovedE.same ⟨_, _, _, _, _, _, HH.out⟩ (Below.refl _ _)⟩
  · have HRR : Hid (R = ({ t with mails := t.mails ++ [m] }, 0)) := HR.out.trans (if_neg h60)
    have h60i : ¬ (60 : Int) ≤ ml := by omega
    have hba : Below w.heap.size w (w.alloc (.cells #[.int .i64 m.client, .int .i64 m.seq, .int .i64 m.reply.code, .int .i64 m.reply.n, .string m.reply.text] 92)) := (Below.refl _ _).alloc (Nat.le_refl _) _
    have HBA := ghid hba
    have HXA := ghid (heap_alloc_new w (.cells #[.int .i64 m.client, .int .i64 m.seq, .int .i64 m.reply.code, .int .i64 m.reply.n, .string m.reply.text] 92))
    have hml2 : ml + 1 ≤ 60 := by omega
    clear HR h60 hba
    go_enter Tryz.func115, Tryz.ntmps115
    go_wp2_with fail
    refine (CS.out _).mono ?_
    rintro e w1 ⟨rfl, hb1⟩
    have HX1 := ghid ((hb1.block _ (Array.getElem?_eq_some_iff.1 HXA.out).1).trans HXA.out)
    have HB1 := ghid (HBA.out.trans (hb1.mono HBA.out.size))
    have hxs := (HX1.out)
    have HX2 : Hid ((w1.setCell ⟨w.heap.size, 4, none⟩ (.string m.reply.text)).heap[w.heap.size]? = some (.cells #[.int .i64 m.client, .int .i64 m.seq, .int .i64 m.reply.code, .int .i64 m.reply.n, .string m.reply.text] 92 (0, 0))) := by
      unfold Hid
      rw [heap_set hxs]
      rfl
    have HB2 : Hid (Below w.heap.size w (w1.setCell ⟨w.heap.size, 4, none⟩ (.string m.reply.text))) := HB1.out.setCell (Nat.le_refl _) _
    obtain ⟨x0, x1, x2, x3, x4⟩ := five_cells hxs
    have xf : ∀ j, w1.frozen? ⟨w.heap.size, j, none⟩ = false := fun j => frozen_of_row w1 _ j _ _ hxs
    obtain ⟨w2, hw2⟩ : ∃ w2, w2 = w1.setCell ⟨w.heap.size, 4, none⟩ (.string m.reply.text) := ⟨_, rfl⟩
    rw [← hw2] at HX2 HB2
    have HW2 := ghid hw2
    clear hb1 CS m0 m1 m2 m3 m4 hxs hw2 HBA HXA c0 c1 c2 c3 c4 c5 cf
    go_upto_region 5 with fail
    rw [← HW2.out]
    clear HW2 x0 x1 x2 x3 x4 xf
    have hb3 : Below w2.heap.size w2 (w2.alloc (.cells #[.int .i64 m.client, .int .i64 m.seq, .int .i64 m.reply.code, .int .i64 m.reply.n, .string m.reply.text] 92)) := (Below.refl _ _).alloc (Nat.le_refl _) _
    have HM2 := ghid (HH.out.below HB2.out)
    have HM3 := ghid (HM2.out.below hb3)
    have HB3 := ghid (HB2.out.trans (hb3.mono HB2.out.size))
    have HC3 : Hid ((w2.alloc (.cells #[.int .i64 m.client, .int .i64 m.seq, .int .i64 m.reply.code, .int .i64 m.reply.n, .string m.reply.text] 92)).heap[p]? = some (.cells #[rv, cv, .slice (some ⟨g, 0, none⟩) t.mails.length cap, tv, .int .i64 t.leader, ev] 32 (0, 0))) := HM3.out.cells
    obtain ⟨c0, c1, c2, c3, c4, c5, cf, hpl2⟩ := six_cells HM2.out.cells
    obtain ⟨x0, x1, x2, x3, x4⟩ := five_cells HX2.out
    have HOW : Hid ((w2.alloc (.cells #[.int .i64 m.client, .int .i64 m.seq, .int .i64 m.reply.code, .int .i64 m.reply.n, .string m.reply.text] 92)).ownsRow 0 92 5 (.slice (some ⟨g, 0, none⟩) t.mails.length cap) t.mails.length (flatG mailCells t.mails)) := HM3.out.mails
    have hpg : p ≠ g := fun e => hfar (by rw [e]; rfl)
    have HPG := ghid hpg
    have hp3 : p < (w2.alloc (.cells #[.int .i64 m.client, .int .i64 m.seq, .int .i64 m.reply.code, .int .i64 m.reply.n, .string m.reply.text] 92)).heap.size := (Array.getElem?_eq_some_iff.1 HC3.out).1
    have HP3 := ghid hp3
    have HZ1 : Hid (ml + 1 ≤ maxLen) := (by unfold maxLen; omega : ml + 1 ≤ maxLen)
    have HZ2 : Hid ((ml + 1) * 48 ≤ 140737488355328) := (by omega : (ml + 1) * 48 ≤ 140737488355328)
    have HFIN : Hid (∀ (W2 : World) (ao2 : Option Addr) (cap2 : Nat), W2.ownsRow 0 92 5 (.slice ao2 (ml + 1) cap2) (ml + 1) (flatG mailCells t.mails ++ mailCells m) → (w2.alloc (.cells #[.int .i64 m.client, .int .i64 m.seq, .int .i64 m.reply.code, .int .i64 m.reply.n, .string m.reply.text] 92)).drew.grownBy W2 (Value.slice (some ⟨g, 0, none⟩) ml cap).ownBlock → ((Value.slice ao2 (ml + 1) cap2).ownBlock = (Value.slice (some ⟨g, 0, none⟩) ml cap).ownBlock ∨ (Value.slice ao2 (ml + 1) cap2).ownBlock = some (w2.alloc (.cells #[.int .i64 m.client, .int .i64 m.seq, .int .i64 m.reply.code, .int .i64 m.reply.n, .string m.reply.text] 92)).heap.size) → MovedE 32 [gh, g2, ev] w (W2.setCell ⟨p, 2, none⟩ (.slice ao2 (ml + 1) cap2)) p K { t with mails := t.mails ++ [m] }) := fun W2 ao2 cap2 ho hg ha => by
      have hlen : (t.mails ++ [m]).length = ml + 1 := by rw [List.length_append, ← HML.out]; rfl
      exact (HM3.out.grewMails odd_out (w0 := W2) (mv' := .slice ao2 (ml + 1) cap2) (ms := t.mails ++ [m]) (((TouchG.refl (w2.alloc (.cells #[.int .i64 m.client, .int .i64 m.seq, .int .i64 m.reply.code, .int .i64 m.reply.n, .string m.reply.text] 92)) _).drew 1).grown hg fun k hk => .inl hk) (by rw [hlen, flatG_snoc]; exact ho) (fun z hz => by
        rcases List.mem_append.1 hz with hz | hz
        · exact HH.out.small z hz
        · simp only [List.mem_singleton] at hz
          rw [hz]; exact HSM.out) (fun g hg hb => by
        rcases ha with e | e
        · exact e ▸ hb
        · rw [hb] at e
          simp only [Option.some.injEq] at e
          omega)).behind HB3.out
    rw [← HML.out] at c2 HOW HC3
    clear hb3 hfar hpg hp3 hml hml2 hk hki hgl hpl
    go_wp2_with fail
    go_region_law (first
      | (refine step_append_go rfl (.tmp 29) (.tmp 31) 28 rfl ?_; refine wp_append_any (.tmp 29) (.tmp 31) 28 rfl 92 i0 _ 5 48 Tryz.underlying28 hi0 hz0 hz1 hz2 rfl (by decide) (.slice (some ⟨g, 0, none⟩) ml cap) ml (flatG mailCells t.mails) (by rfl) HOW.out (some ⟨w2.heap.size, 0, none⟩) 1 1 (mailCells m) (by rfl) (fun e => by cases e) rfl (fun a e => by cases e; exact World.news_of_block (heap_alloc_new w2 _)) (mailCells_one m) HZ1.out HZ2.out ?_; intro ao2 cap2 w9 hown2 hg2 hat2; have hq9 := (hg2.block p HP3.out (by simpa [Value.ownBlock] using HPG.out)).trans HC3.out; have HOWN := ghid hown2; have HG2 := ghid hg2; have HAT := ghid hat2; clear hown2 hg2 hat2 c0 c1 c2 c3 c4 c5 cf hpl2 x0 x1 x2 x3 x4; obtain ⟨c0, c1, c2, c3, c4, c5, cf, hpl⟩ := six_cells hq9; clear hq9))
    all_goals
      go_wp2
      go_ret
      exact ⟨sret_int (by rw [HRR.out]), by rw [HRR.out]; exact HFIN.out _ _ _ HOWN.out HG2.out HAT.out⟩

end

end Go.Proofs.YtijilhbdbeajjaaGreatDoor

namespace Go.Proofs.YtijilhbdbeajjaaGreatDoor

open Go.RowKit

set_option maxHeartbeats 1600000 in
theorem indexC (ao : Option Addr) (n cap : Nat) (cs : List CustV) (cl : Nat) (lb : Array Value) (p : CustD → Bool) (w : World) (h : w.ownsRow 0 55 4 (.slice ao n cap) n (flatG custCells cs)) (hn : n = cs.length) (hl : n ≤ 1000) (eg : ∀ args w, (callFunc cl args).run Tryz.prog w = .ok (.enter cl args) w)
    (hp : ∀ (x : CustV) (w' : World), Below w.heap.size w w' → Calls Tryz.prog cl (#[.agg #[.int .i64 x.d.id, .int .i64 x.d.session, .int .i64 x.d.next, .slice x.wo x.d.waits.length x.wc]] ++ lb) w' fun e w'' => e = .returned (.bool (p x.d)) ∧ Below w'.heap.size w' w'') :
    Calls Tryz.prog 158 #[.slice ao n cap, .func (.func cl) #[] lb] w fun e w' => e = .returned (.int .i64 (idxI p (cs.map (·.d)))) ∧ Below w.heap.size w w' := by
  have HP := ghid hp
  have HO := ghid h
  have HN := ghid hn
  clear hp h hn
  go_enter Tryz.func158, Tryz.ntmps158
  go_wp2
  go_loopw [8] (fun i wr => ∃ k : Nat, k ≤ n ∧ i = .int .i64 k ∧ Hid (∀ (j : Nat) (y : CustD), j < k → (cs.map (·.d))[j]? = some y → p y = false) ∧ Below w.heap.size w wr) (fun i _ => n - (intOf i).toNat)
  case atStart => exact ⟨0, Nat.zero_le _, rfl, fun j y hj => absurd hj (by omega), Below.refl _ _⟩
  case round =>
    obtain ⟨k, hk, rfl, HF, hb⟩ := hrel
    have hsz := hb.size
    by_cases hlt : k < n
    · have hown := grow_below HO.out hb (Nat.le_refl _)
      obtain ⟨x, hx⟩ : ∃ x, cs[k]? = some x := ⟨_, List.getElem?_eq_getElem (by rw [← HN.out]; exact hlt)⟩
      obtain ⟨g, cp, e, -, hgl, -⟩ := grow_some hown (by omega)
      simp only [Value.slice.injEq] at e
      obtain ⟨rfl, -, rfl⟩ := e
      have c0 := grow_at custCells_len hown HN.out hx 0 (by omega)
      have c1 := grow_at custCells_len hown HN.out hx 1 (by omega)
      have c2 := grow_at custCells_len hown HN.out hx 2 (by omega)
      have c3 := grow_at custCells_len hown HN.out hx 3 (by omega)
      simp only [custCells, Nat.add_zero, List.getElem?_cons_zero, List.getElem?_cons_succ] at c0 c1 c2 c3
      have hxd : (cs.map (·.d))[k]? = some x.d := by rw [List.getElem?_map, hx]; rfl
      have HX := ghid hxd
      have C := HP.out x wr hb
      have HB := ghid hb
      clear hx hown hb hxd
      cases hq : p x.d with
      | true =>
        rw [hq] at C
        have HQ := ghid hq
        clear hq
        go_wp2_with fail
        refine C.mono ?_
        rintro e w1 ⟨rfl, hb1⟩
        have HB2 := ghid (HB.out.trans (hb1.mono hsz))
        clear hb1 C
        go_wp2
        go_ret
        exact ⟨sret_int (idxI_found HX.out HQ.out HF.out).1.symm, HB2.out⟩
      | false =>
        rw [hq] at C
        have HNN : Hid (∀ (j : Nat) (y : CustD), j < k + 1 → (cs.map (·.d))[j]? = some y → p y = false) := fun j y hj hy => by
          by_cases e : j = k
          · subst e
            have := HX.out.symm.trans hy
            simp only [Option.some.injEq] at this
            rw [← this]; exact hq
          · exact HF.out j y (by omega) hy
        clear hq
        go_wp2_with fail
        refine C.mono ?_
        rintro e w1 ⟨rfl, hb1⟩
        have HB2 := ghid (HB.out.trans (hb1.mono hsz))
        clear hb1 C
        go_wp2
        go_roundw
        case rel => exact ⟨k + 1, by omega, by go_num, HNN, HB2.out⟩
        case measure => simp [intOf]; omega
    · have HNN : Hid (∀ (j : Nat) (y : CustD), (cs.map (·.d))[j]? = some y → p y = false) := fun j y hy => HF.out j y (by have := (List.getElem?_eq_some_iff.1 hy).1; rw [List.length_map, ← HN.out] at this; omega) hy
      clear HF
      go_wp2
      go_ret
      exact ⟨sret_int (idxI_none HNN.out).1.symm, hb⟩

theorem deliver1_any (id se nx : Int) (lv : Value) (q : Int) (b0 : Nat) (w : World) (hc0 : w.cell? ⟨b0, 0, none⟩ = some (.int .i64 q)) (hb0 : b0 < w.heap.size) :
    Calls Tryz.prog 159 #[.agg #[.int .i64 id, .int .i64 se, .int .i64 nx, lv], .pointer (some ⟨b0, 0, none⟩)] w fun e w' => e = .returned (.bool (id == q)) ∧ Below w.heap.size w w' := by
  go_enter Tryz.func159, Tryz.ntmps159
  go_wp2
  go_ret
  exact ⟨rfl, (Below.refl _ _).alloc (Nat.le_refl _) _⟩

end Go.Proofs.YtijilhbdbeajjaaGreatDoor

namespace Go.Proofs.YtijilhbdbeajjaaGreatDoor

open Go.RowKit

/-- What is asked of a closure over calls that wait. -/
def PredW (cl : Nat) (lb : Array Value) (p : WaitD → Bool) (ks : List WaitD) (S : Nat → Prop) (w : World) : Prop :=
  ∀ (x : WaitD) (w' : World), x ∈ ks → TouchG w w' S → Calls Tryz.prog cl (#[.agg #[.int .i64 x.seq, .int .i64 x.kind, .string x.a, .string x.b, .int .i64 x.n]] ++ lb) w' fun e w'' => e = .returned (.bool (p x)) ∧ Below w'.heap.size w' w''

set_option maxHeartbeats 800000 in
theorem indexW (v : Value) (ls : List WaitD) (cl : Nat) (lb : Array Value) (p : WaitD → Bool) (S : Nat → Prop) (w : World) (B : Nat) (hv : WaitsR w B v ls) (hB : B ≤ w.heap.size) (eg : ∀ args w, (callFunc cl args).run Tryz.prog w = .ok (.enter cl args) w) (hp : PredW cl lb p ls S w) :
    Calls Tryz.prog 237 #[v, .func (.func cl) #[] lb] w fun e w' => e = .returned (.int .i64 (idxI p ls)) ∧ Below w.heap.size w w' := by
  obtain ⟨ao, cap, rfl, h1, h2, h3, h4⟩ := hv
  have HP := ghid hp
  clear hp
  go_enter Tryz.func237, Tryz.ntmps237
  go_wp2
  go_loopw [8] (fun i wr => ∃ k : Nat, k ≤ ls.length ∧ i = .int .i64 k ∧ Hid (∀ (j : Nat) (y : WaitD), j < k → ls[j]? = some y → p y = false) ∧ Below w.heap.size w wr) (fun i _ => ls.length - (intOf i).toNat)
  case atStart => exact ⟨0, Nat.zero_le _, rfl, fun j y hj => absurd hj (by omega), Below.refl _ _⟩
  case round =>
    obtain ⟨k, hk, rfl, HF, hb⟩ := hrel
    have hsz := hb.size
    by_cases hlt : k < ls.length
    · obtain ⟨b, off, rfl, hbB, hc⟩ := h4 (by omega)
      obtain ⟨x, hx⟩ : ∃ x, ls[k]? = some x := ⟨_, List.getElem?_eq_getElem hlt⟩
      obtain ⟨c0, c1, c2, c3, c4, -⟩ := (hc k x hx).below (by omega) hb
      have HX := ghid hx
      have C := HP.out x wr (List.mem_of_getElem? hx) (TouchG.of_below hb (Nat.le_refl _) _)
      have HB := ghid hb
      clear hx hc h4 hb
      cases hq : p x with
      | true =>
        rw [hq] at C
        have HQ := ghid hq
        clear hq
        go_wp2_with fail
        refine C.mono ?_
        rintro e w1 ⟨rfl, hb1⟩
        have HB2 := ghid (HB.out.trans (hb1.mono hsz))
        clear hb1 C
        go_wp2
        go_ret
        exact ⟨sret_int (idxI_found HX.out HQ.out HF.out).1.symm, HB2.out⟩
      | false =>
        rw [hq] at C
        have HN : Hid (∀ (j : Nat) (y : WaitD), j < k + 1 → ls[j]? = some y → p y = false) := fun j y hj hy => by
          by_cases e : j = k
          · subst e
            have := HX.out.symm.trans hy
            simp only [Option.some.injEq] at this
            rw [← this]; exact hq
          · exact HF.out j y (by omega) hy
        clear hq
        go_wp2_with fail
        refine C.mono ?_
        rintro e w1 ⟨rfl, hb1⟩
        have HB2 := ghid (HB.out.trans (hb1.mono hsz))
        clear hb1 C
        go_wp2
        go_roundw
        case rel => exact ⟨k + 1, by omega, by go_num, HN, HB2.out⟩
        case measure => simp [intOf]; omega
    · have HN : Hid (∀ (j : Nat) (y : WaitD), ls[j]? = some y → p y = false) := fun j y hy => HF.out j y (by have := (List.getElem?_eq_some_iff.1 hy).1; omega) hy
      clear HF
      go_wp2
      go_ret
      exact ⟨sret_int (idxI_none HN.out).1.symm, hb⟩

theorem heard1_any (s xk xn : Int) (xa xb : ByteArray) (q : Int) (b0 : Nat) (w : World) (hc0 : w.cell? ⟨b0, 0, none⟩ = some (.int .i64 q)) (hb0 : b0 < w.heap.size) :
    Calls Tryz.prog 238 #[.agg #[.int .i64 s, .int .i64 xk, .string xa, .string xb, .int .i64 xn], .pointer (some ⟨b0, 0, none⟩)] w fun e w' => e = .returned (.bool (s == q)) ∧ Below w.heap.size w w' := by
  go_enter Tryz.func238, Tryz.ntmps238
  go_wp2
  go_ret
  exact ⟨rfl, (Below.refl _ _).alloc (Nat.le_refl _) _⟩

end Go.Proofs.YtijilhbdbeajjaaGreatDoor

namespace Go.Proofs.YtijilhbdbeajjaaGreatDoor

open Go.RowKit

theorem wait_zero_one : ∀ v ∈ (Builtin.zeroCells (Value.agg #[.int .i64 0, .int .i64 0, .string ⟨#[]⟩, .string ⟨#[]⟩, .int .i64 0]).cells 1).toList, v.oneCell' = true := by
  intro v hv
  simp only [Builtin.zeroCells, Value.cells, Array.toList_map, List.mem_map, Array.toList_range, List.mem_range] at hv
  obtain ⟨a, ha, rfl⟩ := hv
  have ha' : a < 5 := by simpa using ha
  rcases (by omega : a = 0 ∨ a = 1 ∨ a = 2 ∨ a = 3 ∨ a = 4) with rfl | rfl | rfl | rfl | rfl <;> rfl

set_option maxRecDepth 100000 in
set_option maxHeartbeats 3200000 in
theorem deleteW (g n i : Nat) (rs : List WaitD) (w : World) (base : Nat) (h : w.ownsRow base 156 5 (.slice (some ⟨g, 0, none⟩) n n) n (flatG waitCells rs)) (hn : n = rs.length) (hin : i < n) (h5 : n < 5) :
    Calls Tryz.prog 239 #[.slice (some ⟨g, 0, none⟩) n n, .int .i64 i, .int .i64 ((i : Int) + 1)] w fun e w' => e = .returned (.slice (some ⟨g, 0, none⟩) (n - 1) n) ∧ w'.ownsRow base 156 5 (.slice (some ⟨g, 0, none⟩) (n - 1) n) (n - 1) (flatG waitCells (rs.eraseIdx i)) ∧ TouchG w w' (fun b => b = g) := by
  have HO := ghid h
  obtain ⟨i0, hi, hz0, hz1, hz2⟩ := info_parts Tryz.infoWait
  have hrow := h
  have htk := grow_take hrow (by omega : i ≤ n)
  rw [flatG_take waitCells_len] at htk
  have HTK := ghid htk
  have HL2 : Hid ((flatG waitCells (rs.drop (i + 1))).length = (n - (i + 1)) * 5) := by unfold Hid; rw [flatG_length waitCells_len, List.length_drop, hn]
  have HONE : Hid (∀ v ∈ flatG waitCells (rs.drop (i + 1)), v.oneCell' = true) := flatG_one waitCells_one _
  have HNEW : Hid (∀ j u, (flatG waitCells (rs.drop (i + 1)))[j]? = some u → w.cell? ⟨g, (i + 1) * 5 + j, none⟩ = some u) := by
    intro j u hj
    have hjl := (List.getElem?_eq_some_iff.1 hj).1
    rw [HL2.out] at hjl
    rw [hrow.cellAt ((i + 1) * 5 + j) (by have : (i + 1) * 5 + (n - (i + 1)) * 5 = n * 5 := by rw [← Nat.add_mul]; congr 1; omega
                                          omega)]
    rw [← flatG_drop waitCells_len rs (i + 1) (by omega), List.getElem?_drop] at hj
    exact hj
  have HER : Hid (rs.take i ++ rs.drop (i + 1) = rs.eraseIdx i) := by unfold Hid; rw [List.eraseIdx_eq_take_drop_succ]
  have HEL : Hid ((rs.eraseIdx i).length = n - 1) := by unfold Hid; rw [List.length_eraseIdx, if_pos (by omega), hn]
  have hq1 : (0 : Int) ≤ (i : Int) + 1 := by omega
  have hq2 : (i : Int) + 1 ≤ n := by omega
  have hq3 : ((i : Int) == (i : Int) + 1) = false := by simpa using (show ¬ (i : Int) = (i : Int) + 1 by omega)
  have hto : ((i : Int) + 1).toNat = i + 1 := by omega
  have HN := ghid hn
  clear h hrow htk hn
  by_cases hl : i + 1 = n
  · subst hl
    have hni : ¬ i + 1 = i := by omega
    have hq4 : (i : Int) ≤ (i : Int) + 1 := by omega
    have hq5 : i ≤ i + 1 := by omega
    have HD0 : Hid (rs.drop (i + 1) = []) := by unfold Hid; exact List.drop_of_length_le (by rw [← HN.out]; exact Nat.le_refl _)
    go_enter Tryz.func239, Tryz.ntmps239
    go_wp2_with fail
    go_region_law (refine gstep_append_room rfl (.tmp 22) (.tmp 25) 53 rfl base 156 i0 5 Tryz.underlying53 hi hz1 g i (i + 1) (flatG waitCells (rs.take i)) (by simp [Act.eval, Act.put]) HTK.out ⟨g, 0, none⟩ 0 0 [] (by simp [Act.eval, Act.put]) rfl (by intro j u hj; simp at hj) (by intro u hu; simp at hu) (by omega) ?_; intro w1 hown1 hg1)
    have hb1 : w1.heap.size ≥ w.heap.size := hg1.size
    obtain ⟨cur, hcur, hcs⟩ : ∃ cur, w1.heap[g]? = some (.cells cur 156 (0, 0)) ∧ cur.size = (i + 1) * 5 := by
      rcases hown1.2 with ⟨h', _⟩ | ⟨g', cap', cur', h', _, hh, _, _, hcs', _⟩
      · cases h'
      · simp only [Value.slice.injEq, Option.some.injEq, Addr.mk.injEq, and_true, true_and] at h'
        obtain ⟨rfl, rfl⟩ := h'
        exact ⟨cur', hh, hcs'⟩
    obtain ⟨zs, hzl, hcl⟩ := run_clear_wide (P := Tryz.prog) w1 53 156 i0 _ Tryz.underlying53 hi hz0 wait_zero_one (by simp [Value.cells]) g ((i) * 5) 1 1 cur _ (by omega) hcur (by simp [Value.cells]; omega)
    obtain ⟨Wf, hWf⟩ : ∃ Wf, Wf = w1.setRow g (cur.toList.take ((i) * 5) ++ zs ++ cur.toList.drop ((i) * 5 + zs.length)).toArray := ⟨_, rfl⟩
    rw [← hWf] at hcl
    have hT1 : TouchG w w1 (fun b => b = g) := ⟨hg1.os, hg1.tape, hg1.output, hg1.size, fun k hk hs => hg1.block k hk (fun e => hs (by simpa using e))⟩
    have HT : Hid (TouchG w Wf (fun b => b = g)) := by unfold Hid; rw [hWf]; exact hT1.setRow (g := g) rfl _
    have HF : Hid (Wf.ownsRow base 156 5 (.slice (some ⟨g, 0, none⟩) (i) (i + 1)) (i) (flatG waitCells (rs.eraseIdx i))) := by
      unfold Hid
      rw [← HER.out, flatG_append, hWf]
      exact (by rw [HD0.out, flatG_nil, List.append_nil]; exact grow_behind (by simpa using hown1) hcur (by simp [Value.cells] at hzl; omega))
    clear hown1 hg1 hcur hWf hT1 hi hz0 hz1 hz2
    go_wp2
    go_ret
    exact ⟨rfl, HF.out, HT.out⟩
  · obtain ⟨m, rfl⟩ : ∃ m, n = m + 1 := ⟨n - 1, by omega⟩
    have hni : ¬ m + 1 = i := by omega
    have hnj : ¬ m + 1 = i + 1 := by omega
    have hnj2 : ¬ m = i := by omega
    have hq5 : i ≤ m + 1 := by omega
    have hq6 : i + 1 ≤ m + 1 := by omega
    have hq7 : i ≤ m := by omega
    have hq8 : (i : Int) ≤ (m : Int) + 1 := by omega
    have hq9 : (m : Int) ≤ (m : Int) + 1 := by omega
    go_enter Tryz.func239, Tryz.ntmps239
    go_wp2_with fail
    go_region_law (refine gstep_append_room rfl (.tmp 22) (.tmp 25) 53 rfl base 156 i0 5 Tryz.underlying53 hi hz1 g i (m + 1) (flatG waitCells (rs.take i)) (by simp [Act.eval, Act.put]) HTK.out ⟨g, (i + 1) * 5, none⟩ (m + 1 - (i + 1)) (m + 1 - (i + 1)) (flatG waitCells (rs.drop (i + 1))) (by simp [Act.eval, Act.put]) HL2.out (by intro j u hj; rw [gadd]; exact HNEW.out j u hj) HONE.out (by omega) ?_; intro w1 hown1 hg1)
    have hbeh : i + (m + 1 - (i + 1)) = m := by omega
    have hbeh2 : i + (m - i) = m := by omega
    rw [hbeh] at hown1
    try rw [hbeh]
    try rw [hbeh2]
    clear hbeh hbeh2
    have hb1 : w1.heap.size ≥ w.heap.size := hg1.size
    obtain ⟨cur, hcur, hcs⟩ : ∃ cur, w1.heap[g]? = some (.cells cur 156 (0, 0)) ∧ cur.size = (m + 1) * 5 := by
      rcases hown1.2 with ⟨h', _⟩ | ⟨g', cap', cur', h', _, hh, _, _, hcs', _⟩
      · cases h'
      · simp only [Value.slice.injEq, Option.some.injEq, Addr.mk.injEq, and_true, true_and] at h'
        obtain ⟨rfl, rfl⟩ := h'
        exact ⟨cur', hh, hcs'⟩
    obtain ⟨zs, hzl, hcl⟩ := run_clear_wide (P := Tryz.prog) w1 53 156 i0 _ Tryz.underlying53 hi hz0 wait_zero_one (by simp [Value.cells]) g (m * 5) 1 1 cur _ (by omega) hcur (by simp [Value.cells]; omega)
    obtain ⟨Wf, hWf⟩ : ∃ Wf, Wf = w1.setRow g (cur.toList.take (m * 5) ++ zs ++ cur.toList.drop (m * 5 + zs.length)).toArray := ⟨_, rfl⟩
    rw [← hWf] at hcl
    have hT1 : TouchG w w1 (fun b => b = g) := ⟨hg1.os, hg1.tape, hg1.output, hg1.size, fun k hk hs => hg1.block k hk (fun e => hs (by simpa using e))⟩
    have HT : Hid (TouchG w Wf (fun b => b = g)) := by unfold Hid; rw [hWf]; exact hT1.setRow (g := g) rfl _
    have HF : Hid (Wf.ownsRow base 156 5 (.slice (some ⟨g, 0, none⟩) m (m + 1)) m (flatG waitCells (rs.eraseIdx i))) := by
      unfold Hid
      rw [← HER.out, flatG_append, hWf]
      exact (by have := grow_behind hown1 hcur (zs := zs) (by simp [Value.cells] at hzl; omega); simpa using this)
    clear hown1 hg1 hcur hWf hT1 hi hz0 hz1 hz2
    go_wp2
    go_ret
    exact ⟨rfl, HF.out, HT.out⟩

end Go.Proofs.YtijilhbdbeajjaaGreatDoor

namespace Go.Proofs.YtijilhbdbeajjaaGreatDoor

open Go.RowKit

set_option maxRecDepth 100000 in
set_option maxHeartbeats 1600000 in
theorem hearJoin_bad (v : Value) (c : CustD) (rc rn : Int) (rt : ByteArray) (w : World) (B : Nat) (hv : CustR w B v c) (hB : B ≤ w.heap.size) (hs : hjE c.session rc rn ≠ 0) :
    Calls Tryz.prog 207 #[v, .agg #[.int .i64 rc, .int .i64 rn, .string rt]] w fun e w' => e = .returned (.tuple #[.agg #[.int .i64 0, .int .i64 0, .int .i64 0, .slice none 0 0], .int .i64 (hjE c.session rc rn)]) ∧ Below w.heap.size w w' := by
  have C2 := ghid (fun u (hu : Below w.heap.size w u) => custCopy_own v c u B (hv.below hu hB) (by have := hu.size; omega))
  obtain ⟨ao, cap, rfl, -⟩ := hv.shape
  obtain ⟨id, hid⟩ : ∃ z, z = c.id := ⟨_, rfl⟩
  obtain ⟨se, hse⟩ : ∃ z, z = c.session := ⟨_, rfl⟩
  obtain ⟨nx, hnx⟩ : ∃ z, z = c.next := ⟨_, rfl⟩
  obtain ⟨m, hm⟩ : ∃ z, z = c.waits.length := ⟨_, rfl⟩
  obtain ⟨fl, hfl⟩ : ∃ z, z = flatG waitCells c.waits := ⟨_, rfl⟩
  rw [← hid, ← hse, ← hnx, ← hm, ← hfl] at C2
  rw [← hse] at hs
  rw [← hse]
  rw [← hid, ← hnx, ← hm]
  have HZ : Hid (Below w.heap.size w (((w.alloc (.cells #[.int .i64 id, .int .i64 se, .int .i64 nx, .slice ao m cap] 55)).alloc (.cells #[.int .i64 rc, .int .i64 rn, .string rt] 73)).alloc (.cells #[.int .i64 0, .int .i64 0, .int .i64 0, .slice none 0 0] 55))) := (((Below.refl _ _).alloc (Nat.le_refl _) _).alloc (by simp) _).alloc (by simp; omega) _
  obtain ⟨hx0, ho0, hr0⟩ := three_newC (w := w) (A := (.cells #[.int .i64 id, .int .i64 se, .int .i64 nx, .slice ao m cap] 55)) (R := (.cells #[.int .i64 rc, .int .i64 rn, .string rt] 73)) (S := (.cells #[.int .i64 0, .int .i64 0, .int .i64 0, .slice none 0 0] 55)) (Below.refl _ _)
  have HX0 := ghid hx0
  have HO0 := ghid ho0
  have HR0 := ghid hr0
  clear hx0 ho0 hr0
  clear hv hid hse hnx hm hfl
  by_cases h1 : se = 0
  · have hrc : (rc = 0 ∨ rc = 7) ∧ ¬ (1 ≤ rn ∧ rn ≤ 1073741824) := by
      refine Classical.byContradiction fun e => hs ?_
      unfold hjE
      rw [if_neg (by simpa using h1), if_neg e]
    have HE : Hid (hjE se rc rn = 2) := by unfold Hid hjE; rw [if_neg (by simpa using h1), if_pos hrc]
    have CN := ghid (fun u => cu_no rn 1 1073741824 u hrc.2)
    subst h1
    rw [HE.out]
    have hw := hrc.1
    clear hs hrc
    go_enter Tryz.func207, Tryz.ntmps207
    go_wp2_with fail
    refine (C2.out _ HZ.out).mono ?_
    rintro e w2 ⟨rfl, hrow, hb2⟩
    obtain ⟨rb, hrb⟩ : ∃ x, x = (((w.alloc (.cells #[.int .i64 id, .int .i64 0, .int .i64 nx, .slice ao m cap] 55)).alloc (.cells #[.int .i64 rc, .int .i64 rn, .string rt] 73)).alloc (.cells #[.int .i64 0, .int .i64 0, .int .i64 0, .slice none 0 0] 55)).heap.size + 2 := ⟨_, rfl⟩
    rw [← hrb] at hrow ⊢
    have hrl : rb < w2.heap.size := (hrow.lt rb rfl).2
    have hx2 := behind HX0.out (Below.refl _ _) hb2
    have ho2 := behind HO0.out (Below.refl _ _) hb2
    have hr2 := behind HR0.out (Below.refl _ _) hb2
    have hz2' : w.heap.size + 3 ≤ w2.heap.size := by have := hb2.size; simp at this; omega
    have hrw : w.heap.size + 3 ≤ rb := by simp at hrb; omega
    have HB2 := ghid (HZ.out.trans (hb2.mono HZ.out.size))
    have HROW2 := ghid (grow_mono hrow (by omega : w.heap.size + 3 ≤ rb))
    obtain ⟨c0, c1, c2, c3, cf, cl⟩ := state_cells hx2
    obtain ⟨o0, o1, o2, of, ol⟩ := reply_cells ho2
    obtain ⟨r0, r1, r2, r3, rf, rl⟩ := state_cells hr2
    clear hrow hb2 hx2 ho2 hr2 C2 hrb
    rcases hw with hw | hw
    all_goals
      subst hw
      go_wp2_with fail
      refine (CN.out _).mono ?_
      rintro e w3 ⟨rfl, rfl⟩
      go_wp2
      refine bodyPost_ret (v := .tuple #[.agg #[.int .i64 0, .int .i64 0, .int .i64 0, .slice none 0 0], .int .i64 2]) (by simp [results, Tryz.results207, go_sem, r0, r1, r2, r3, rl]) rfl ?_
      exact ⟨rfl, (zset4 HB2.out (by omega) _ _ _ _).alloc (by simp; omega) _⟩
  · have hsb : (se != 0) = true := by simpa using h1
    have HE : Hid (hjE se rc rn = 12) := by unfold Hid hjE; rw [if_pos h1]
    rw [HE.out]
    clear hs h1
    go_enter Tryz.func207, Tryz.ntmps207
    go_wp2_with fail
    refine (C2.out _ HZ.out).mono ?_
    rintro e w2 ⟨rfl, hrow, hb2⟩
    obtain ⟨rb, hrb⟩ : ∃ x, x = (((w.alloc (.cells #[.int .i64 id, .int .i64 se, .int .i64 nx, .slice ao m cap] 55)).alloc (.cells #[.int .i64 rc, .int .i64 rn, .string rt] 73)).alloc (.cells #[.int .i64 0, .int .i64 0, .int .i64 0, .slice none 0 0] 55)).heap.size + 2 := ⟨_, rfl⟩
    rw [← hrb] at hrow ⊢
    have hrl : rb < w2.heap.size := (hrow.lt rb rfl).2
    have hx2 := behind HX0.out (Below.refl _ _) hb2
    have ho2 := behind HO0.out (Below.refl _ _) hb2
    have hr2 := behind HR0.out (Below.refl _ _) hb2
    have hz2' : w.heap.size + 3 ≤ w2.heap.size := by have := hb2.size; simp at this; omega
    have hrw : w.heap.size + 3 ≤ rb := by simp at hrb; omega
    have HB2 := ghid (HZ.out.trans (hb2.mono HZ.out.size))
    have HROW2 := ghid (grow_mono hrow (by omega : w.heap.size + 3 ≤ rb))
    obtain ⟨c0, c1, c2, c3, cf, cl⟩ := state_cells hx2
    obtain ⟨o0, o1, o2, of, ol⟩ := reply_cells ho2
    obtain ⟨r0, r1, r2, r3, rf, rl⟩ := state_cells hr2
    clear hrow hb2 hx2 ho2 hr2 C2 hrb
    go_wp2
    refine bodyPost_ret (v := .tuple #[.agg #[.int .i64 0, .int .i64 0, .int .i64 0, .slice none 0 0], .int .i64 12]) (by simp [results, Tryz.results207, go_sem, r0, r1, r2, r3, rl]) rfl ?_
    exact ⟨rfl, (zset4 HB2.out (by omega) _ _ _ _).alloc (by simp; omega) _⟩

set_option maxRecDepth 100000 in
set_option maxHeartbeats 1600000 in
theorem hearJoin_ok (v : Value) (c : CustD) (rc rn : Int) (rt : ByteArray) (w : World) (B : Nat) (hv : CustR w B v c) (hB : B ≤ w.heap.size) (hs : hjE c.session rc rn = 0) :
    Calls Tryz.prog 207 #[v, .agg #[.int .i64 rc, .int .i64 rn, .string rt]] w fun e w' => ∃ vo vc, e = .returned (.tuple #[.agg #[.int .i64 c.id, .int .i64 (hjS c.session rc rn), .int .i64 c.next, .slice vo c.waits.length vc], .int .i64 0]) ∧ w'.ownsRow w.heap.size 156 5 (.slice vo c.waits.length vc) c.waits.length (flatG waitCells c.waits) ∧ Below w.heap.size w w' := by
  have C2 := ghid (fun u (hu : Below w.heap.size w u) => custCopy_own v c u B (hv.below hu hB) (by have := hu.size; omega))
  obtain ⟨ao, cap, rfl, -⟩ := hv.shape
  obtain ⟨id, hid⟩ : ∃ z, z = c.id := ⟨_, rfl⟩
  obtain ⟨se, hse⟩ : ∃ z, z = c.session := ⟨_, rfl⟩
  obtain ⟨nx, hnx⟩ : ∃ z, z = c.next := ⟨_, rfl⟩
  obtain ⟨m, hm⟩ : ∃ z, z = c.waits.length := ⟨_, rfl⟩
  obtain ⟨fl, hfl⟩ : ∃ z, z = flatG waitCells c.waits := ⟨_, rfl⟩
  rw [← hid, ← hse, ← hnx, ← hm, ← hfl] at C2
  rw [← hse] at hs
  rw [← hid, ← hse, ← hnx, ← hm, ← hfl]
  have HZ : Hid (Below w.heap.size w (((w.alloc (.cells #[.int .i64 id, .int .i64 se, .int .i64 nx, .slice ao m cap] 55)).alloc (.cells #[.int .i64 rc, .int .i64 rn, .string rt] 73)).alloc (.cells #[.int .i64 0, .int .i64 0, .int .i64 0, .slice none 0 0] 55))) := (((Below.refl _ _).alloc (Nat.le_refl _) _).alloc (by simp) _).alloc (by simp; omega) _
  obtain ⟨hx0, ho0, hr0⟩ := three_newC (w := w) (A := (.cells #[.int .i64 id, .int .i64 se, .int .i64 nx, .slice ao m cap] 55)) (R := (.cells #[.int .i64 rc, .int .i64 rn, .string rt] 73)) (S := (.cells #[.int .i64 0, .int .i64 0, .int .i64 0, .slice none 0 0] 55)) (Below.refl _ _)
  have HX0 := ghid hx0
  have HO0 := ghid ho0
  have HR0 := ghid hr0
  clear hx0 ho0 hr0
  have h1 : se = 0 := Classical.byContradiction fun e => by unfold hjE at hs; rw [if_pos e] at hs; omega
  clear hv hid hse hnx hm hfl
  have HROWF : Hid (∀ (w2 : World) (rb : Nat), w2.ownsRow (w.heap.size + 3) 156 5 (.slice (some ⟨rb, 0, none⟩) m m) m fl → ∀ u0 u1 u2 u3 o, (((((w2.setCell ⟨w.heap.size + 1 + 1, 0, none⟩ u0).setCell ⟨w.heap.size + 1 + 1, 1, none⟩ u1).setCell ⟨w.heap.size + 1 + 1, 2, none⟩ u2).setCell ⟨w.heap.size + 1 + 1, 3, none⟩ u3).alloc o).ownsRow w.heap.size 156 5 (.slice (some ⟨rb, 0, none⟩) m m) m fl) := fun w2 rb hr u0 u1 u2 u3 o => (grow_keep (grow_mono hr (by omega)) fun j hj => by
    have e := (hr.lt j hj).1
    rw [heap_setCell_other _ _ _ _ (by simp; omega), heap_setCell_other _ _ _ _ (by simp; omega), heap_setCell_other _ _ _ _ (by simp; omega), heap_setCell_other _ _ _ _ (by simp; omega)]).alloc o
  by_cases hrc : rc = 0 ∨ rc = 7
  · have hn : 1 ≤ rn ∧ rn ≤ 1073741824 := Classical.byContradiction fun e => by unfold hjE at hs; rw [if_neg (by simpa using h1), if_pos ⟨hrc, e⟩] at hs; omega
    have HS : Hid (hjS se rc rn = rn) := if_pos hrc
    have CN := ghid (fun u => cu_yes rn 1 1073741824 u hn)
    rw [HS.out]
    subst h1
    clear hs hn
    go_enter Tryz.func207, Tryz.ntmps207
    go_wp2_with fail
    refine (C2.out _ HZ.out).mono ?_
    rintro e w2 ⟨rfl, hrow, hb2⟩
    obtain ⟨rb, hrb⟩ : ∃ x, x = (((w.alloc (.cells #[.int .i64 id, .int .i64 0, .int .i64 nx, .slice ao m cap] 55)).alloc (.cells #[.int .i64 rc, .int .i64 rn, .string rt] 73)).alloc (.cells #[.int .i64 0, .int .i64 0, .int .i64 0, .slice none 0 0] 55)).heap.size + 2 := ⟨_, rfl⟩
    rw [← hrb] at hrow ⊢
    have hrl : rb < w2.heap.size := (hrow.lt rb rfl).2
    have hx2 := behind HX0.out (Below.refl _ _) hb2
    have ho2 := behind HO0.out (Below.refl _ _) hb2
    have hr2 := behind HR0.out (Below.refl _ _) hb2
    have hz2' : w.heap.size + 3 ≤ w2.heap.size := by have := hb2.size; simp at this; omega
    have hrw : w.heap.size + 3 ≤ rb := by simp at hrb; omega
    have HB2 := ghid (HZ.out.trans (hb2.mono HZ.out.size))
    have HROW2 := ghid (grow_mono hrow (by omega : w.heap.size + 3 ≤ rb))
    obtain ⟨c0, c1, c2, c3, cf, cl⟩ := state_cells hx2
    obtain ⟨o0, o1, o2, of, ol⟩ := reply_cells ho2
    obtain ⟨r0, r1, r2, r3, rf, rl⟩ := state_cells hr2
    clear hrow hb2 hx2 ho2 hr2 C2 hrb
    rcases hrc with hrc | hrc
    all_goals
      subst hrc
      go_wp2_with fail
      refine (CN.out _).mono ?_
      rintro e w3 ⟨rfl, rfl⟩
      go_wp2
      refine bodyPost_ret (v := .tuple #[.agg #[.int .i64 id, .int .i64 rn, .int .i64 nx, .slice (some ⟨rb, 0, none⟩) m m], .int .i64 0]) (by simp [results, Tryz.results207, go_sem, r0, r1, r2, r3, rl]) rfl ?_
      exact ⟨_, _, rfl, HROWF.out _ _ HROW2.out _ _ _ _ _, (zset4 HB2.out (by omega) _ _ _ _).alloc (by simp; omega) _⟩
  · have HS : Hid (hjS se rc rn = se) := if_neg hrc
    rw [HS.out]
    have hr0' : (rc != 0) = true := by simp; exact fun e => hrc (.inl e)
    have hr7 : (rc != 7) = true := by simp; exact fun e => hrc (.inr e)
    subst h1
    clear hs hrc
    go_enter Tryz.func207, Tryz.ntmps207
    go_wp2_with fail
    refine (C2.out _ HZ.out).mono ?_
    rintro e w2 ⟨rfl, hrow, hb2⟩
    obtain ⟨rb, hrb⟩ : ∃ x, x = (((w.alloc (.cells #[.int .i64 id, .int .i64 0, .int .i64 nx, .slice ao m cap] 55)).alloc (.cells #[.int .i64 rc, .int .i64 rn, .string rt] 73)).alloc (.cells #[.int .i64 0, .int .i64 0, .int .i64 0, .slice none 0 0] 55)).heap.size + 2 := ⟨_, rfl⟩
    rw [← hrb] at hrow ⊢
    have hrl : rb < w2.heap.size := (hrow.lt rb rfl).2
    have hx2 := behind HX0.out (Below.refl _ _) hb2
    have ho2 := behind HO0.out (Below.refl _ _) hb2
    have hr2 := behind HR0.out (Below.refl _ _) hb2
    have hz2' : w.heap.size + 3 ≤ w2.heap.size := by have := hb2.size; simp at this; omega
    have hrw : w.heap.size + 3 ≤ rb := by simp at hrb; omega
    have HB2 := ghid (HZ.out.trans (hb2.mono HZ.out.size))
    have HROW2 := ghid (grow_mono hrow (by omega : w.heap.size + 3 ≤ rb))
    obtain ⟨c0, c1, c2, c3, cf, cl⟩ := state_cells hx2
    obtain ⟨o0, o1, o2, of, ol⟩ := reply_cells ho2
    obtain ⟨r0, r1, r2, r3, rf, rl⟩ := state_cells hr2
    clear hrow hb2 hx2 ho2 hr2 C2 hrb
    go_wp2
    refine bodyPost_ret (v := .tuple #[.agg #[.int .i64 id, .int .i64 0, .int .i64 nx, .slice (some ⟨rb, 0, none⟩) m m], .int .i64 0]) (by simp [results, Tryz.results207, go_sem, r0, r1, r2, r3, rl]) rfl ?_
    exact ⟨_, _, rfl, HROWF.out _ _ HROW2.out _ _ _ _ _, (zset4 HB2.out (by omega) _ _ _ _).alloc (by simp; omega) _⟩

end Go.Proofs.YtijilhbdbeajjaaGreatDoor

namespace Go.Proofs.YtijilhbdbeajjaaGreatDoor

open Go.RowKit

set_option maxRecDepth 100000 in
set_option maxHeartbeats 1600000 in
theorem hearCall_bad (v : Value) (c : CustD) (q rc : Int) (w : World) (B : Nat) (hv : CustR w B v c) (hB : B ≤ w.heap.size) (hi : idxI (fun x : WaitD => x.seq == q) c.waits = -1) :
    Calls Tryz.prog 208 #[v, .int .i64 q, .int .i64 rc] w fun e w' => e = .returned (.tuple #[.agg #[.int .i64 0, .int .i64 0, .int .i64 0, .slice none 0 0], .int .i64 12]) ∧ Below w.heap.size w w' := by
  have CI : Hid (∀ u, Below w.heap.size w u → ∀ (wv : Value) (b0 : Nat), v = .agg #[.int .i64 c.id, .int .i64 c.session, .int .i64 c.next, wv] → u.heap[b0]? = some (.cells #[.int .i64 q] 3 (0, 0)) → Calls Tryz.prog 237 #[wv, .func (.func 238) #[] #[.pointer (some ⟨b0, 0, none⟩)]] u fun e w' => e = .returned (.int .i64 (idxI (fun x => x.seq == q) c.waits)) ∧ Below u.heap.size u w') := fun u hu wv b0 he hq => by
    obtain ⟨wv', he', hw⟩ := hv
    rw [he] at he'
    simp only [Value.agg.injEq, Array.mk.injEq, List.cons.injEq, and_true, true_and] at he'
    subst he'
    exact indexW wv c.waits 238 #[.pointer (some ⟨b0, 0, none⟩)] (fun x => x.seq == q) (fun _ => False) u B (hw.below hu hB) (by have := hu.size; omega) (enters_of Tryz.func238 (by decide) rfl) (fun x w' _ hw' => by
      have hlt := (Array.getElem?_eq_some_iff.1 hq).1
      refine heard1_any x.seq x.kind x.n x.a x.b q b0 w' ?_ (by have := hw'.size; omega)
      exact (World.cell?_of_block (hw'.block b0 hlt (fun h => h))).trans (cell_of_row u b0 0 _ _ _ hq))
  rw [hi] at CI
  obtain ⟨ao, cap, rfl, -⟩ := hv.shape
  obtain ⟨id, hid⟩ : ∃ z, z = c.id := ⟨_, rfl⟩
  obtain ⟨se, hse⟩ : ∃ z, z = c.session := ⟨_, rfl⟩
  obtain ⟨nx, hnx⟩ : ∃ z, z = c.next := ⟨_, rfl⟩
  obtain ⟨m, hm⟩ : ∃ z, z = c.waits.length := ⟨_, rfl⟩
  rw [← hid, ← hse, ← hnx, ← hm] at CI
  rw [← hid, ← hse, ← hnx, ← hm]
  have HZ : Hid (Below w.heap.size w (((w.alloc (.cells #[.int .i64 id, .int .i64 se, .int .i64 nx, .slice ao m cap] 55)).alloc (.cells #[.int .i64 q] 3)).alloc (.cells #[.int .i64 0, .int .i64 0, .int .i64 0, .slice none 0 0] 55))) := (((Below.refl _ _).alloc (Nat.le_refl _) _).alloc (by simp) _).alloc (by simp; omega) _
  obtain ⟨hx0, ho0, hr0⟩ := three_newC (w := w) (A := (.cells #[.int .i64 id, .int .i64 se, .int .i64 nx, .slice ao m cap] 55)) (R := (.cells #[.int .i64 q] 3)) (S := (.cells #[.int .i64 0, .int .i64 0, .int .i64 0, .slice none 0 0] 55)) (Below.refl _ _)
  have HX0 := ghid hx0
  have HO0 := ghid ho0
  have HR0 := ghid hr0
  clear hx0 ho0 hr0
  clear hv hid hse hnx hm hi
  go_enter Tryz.func208, Tryz.ntmps208
  go_wp2_with fail
  refine (CI.out _ HZ.out _ _ rfl HO0.out).mono ?_
  rintro e w1 ⟨rfl, hb1⟩
  have HB1 := ghid (HZ.out.trans (hb1.mono HZ.out.size))
  have HX1 := ghid (behind HX0.out (Below.refl _ _) hb1)
  have HR1 := ghid (behind HR0.out (Below.refl _ _) hb1)
  have hzz1 : w.heap.size + 3 ≤ w1.heap.size := by have := hb1.size; simpa using this
  obtain ⟨c0, c1, c2, c3, cf, cl⟩ := state_cells HX1.out
  obtain ⟨r0, r1, r2, r3, rf, rl⟩ := state_cells HR1.out
  clear hb1 CI
  go_wp2
  refine bodyPost_ret (v := .tuple #[.agg #[.int .i64 0, .int .i64 0, .int .i64 0, .slice none 0 0], .int .i64 12]) (by simp [results, Tryz.results208, go_sem, r0, r1, r2, r3]) rfl ?_
  exact ⟨rfl, zset4 HB1.out (by omega) _ _ _ _⟩

set_option maxRecDepth 100000 in
set_option maxHeartbeats 3200000 in
theorem hearCall_away (v : Value) (c : CustD) (q : Int) (i : Nat) (w : World) (B : Nat) (hv : CustR w B v c) (hB : B ≤ w.heap.size) (hi : idxI (fun x : WaitD => x.seq == q) c.waits = (i : Int)) (hil : i < c.waits.length) (h5 : c.waits.length < 5) :
    Calls Tryz.prog 208 #[v, .int .i64 q, .int .i64 11] w fun e w' => e = .returned (.tuple #[.agg #[.int .i64 c.id, .int .i64 0, .int .i64 c.next, .slice none 0 0], .int .i64 0]) ∧ Below w.heap.size w w' := by
  have CI : Hid (∀ u, Below w.heap.size w u → ∀ (wv : Value) (b0 : Nat), v = .agg #[.int .i64 c.id, .int .i64 c.session, .int .i64 c.next, wv] → u.heap[b0]? = some (.cells #[.int .i64 q] 3 (0, 0)) → Calls Tryz.prog 237 #[wv, .func (.func 238) #[] #[.pointer (some ⟨b0, 0, none⟩)]] u fun e w' => e = .returned (.int .i64 (idxI (fun x => x.seq == q) c.waits)) ∧ Below u.heap.size u w') := fun u hu wv b0 he hq => by
    obtain ⟨wv', he', hw⟩ := hv
    rw [he] at he'
    simp only [Value.agg.injEq, Array.mk.injEq, List.cons.injEq, and_true, true_and] at he'
    subst he'
    exact indexW wv c.waits 238 #[.pointer (some ⟨b0, 0, none⟩)] (fun x => x.seq == q) (fun _ => False) u B (hw.below hu hB) (by have := hu.size; omega) (enters_of Tryz.func238 (by decide) rfl) (fun x w' _ hw' => by
      have hlt := (Array.getElem?_eq_some_iff.1 hq).1
      refine heard1_any x.seq x.kind x.n x.a x.b q b0 w' ?_ (by have := hw'.size; omega)
      exact (World.cell?_of_block (hw'.block b0 hlt (fun h => h))).trans (cell_of_row u b0 0 _ _ _ hq))
  have C2 := ghid (fun u (hu : Below w.heap.size w u) => custCopy_own v c u B (hv.below hu hB) (by have := hu.size; omega))
  have CD : Hid (∀ (u : World) (rb base : Nat), u.ownsRow base 156 5 (.slice (some ⟨rb, 0, none⟩) c.waits.length c.waits.length) c.waits.length (flatG waitCells c.waits) → _) := fun u rb base hr => deleteW rb c.waits.length i c.waits u base hr rfl hil h5
  rw [hi] at CI
  obtain ⟨ao, cap, rfl, -⟩ := hv.shape
  obtain ⟨id, hid⟩ : ∃ z, z = c.id := ⟨_, rfl⟩
  obtain ⟨se, hse⟩ : ∃ z, z = c.session := ⟨_, rfl⟩
  obtain ⟨nx, hnx⟩ : ∃ z, z = c.next := ⟨_, rfl⟩
  obtain ⟨m, hm⟩ : ∃ z, z = c.waits.length := ⟨_, rfl⟩
  obtain ⟨fl, hfl⟩ : ∃ z, z = flatG waitCells c.waits := ⟨_, rfl⟩
  obtain ⟨fd, hfd⟩ : ∃ z, z = flatG waitCells (c.waits.eraseIdx i) := ⟨_, rfl⟩
  rw [← hid, ← hse, ← hnx, ← hm] at CI
  rw [← hid, ← hse, ← hnx, ← hm, ← hfl] at C2
  rw [← hm, ← hfl, ← hfd] at CD
  rw [← hm] at hil h5
  rw [← hid, ← hse, ← hnx, ← hm]
  have HZ : Hid (Below w.heap.size w (((w.alloc (.cells #[.int .i64 id, .int .i64 se, .int .i64 nx, .slice ao m cap] 55)).alloc (.cells #[.int .i64 q] 3)).alloc (.cells #[.int .i64 0, .int .i64 0, .int .i64 0, .slice none 0 0] 55))) := (((Below.refl _ _).alloc (Nat.le_refl _) _).alloc (by simp) _).alloc (by simp; omega) _
  obtain ⟨hx0, ho0, hr0⟩ := three_newC (w := w) (A := (.cells #[.int .i64 id, .int .i64 se, .int .i64 nx, .slice ao m cap] 55)) (R := (.cells #[.int .i64 q] 3)) (S := (.cells #[.int .i64 0, .int .i64 0, .int .i64 0, .slice none 0 0] 55)) (Below.refl _ _)
  have HX0 := ghid hx0
  have HO0 := ghid ho0
  have HR0 := ghid hr0
  clear hx0 ho0 hr0

  have hin : ¬ (i : Int) < 0 := by omega
  have hiw : IntKind.i64.wrap ((i : Int) + 1) = (i : Int) + 1 := by rw [IntKind.wrap_i64]; omega
  clear hv hid hse hnx hm hfl hfd hi
  go_enter Tryz.func208, Tryz.ntmps208
  go_wp2_with fail
  refine (CI.out _ HZ.out _ _ rfl HO0.out).mono ?_
  rintro e w1 ⟨rfl, hb1⟩
  have HB1 := ghid (HZ.out.trans (hb1.mono HZ.out.size))
  have HX1 := ghid (behind HX0.out (Below.refl _ _) hb1)
  have HR1 := ghid (behind HR0.out (Below.refl _ _) hb1)
  have hzz1 : w.heap.size + 3 ≤ w1.heap.size := by have := hb1.size; simpa using this
  obtain ⟨c0, c1, c2, c3, cf, cl⟩ := state_cells HX1.out
  obtain ⟨r0, r1, r2, r3, rf, rl⟩ := state_cells HR1.out
  clear hb1 CI
  go_wp2_with fail
  refine (C2.out _ HB1.out).mono ?_
  rintro e w2 ⟨rfl, hrow, hb2⟩
  obtain ⟨rb, hrb⟩ : ∃ x, x = w1.heap.size + 2 := ⟨_, rfl⟩
  rw [← hrb] at hrow ⊢
  have hrl : rb < w2.heap.size := (hrow.lt rb rfl).2
  have hx2 := behind HX1.out (Below.refl _ _) hb2
  have hr2 := behind HR1.out (Below.refl _ _) hb2
  have hz2' : w.heap.size + 3 ≤ w2.heap.size := by have := hb2.size; omega
  have hrw : w.heap.size + 3 ≤ rb := by omega
  have hq : Below w2.heap.size w2 (w2.alloc (.cells #[.int .i64 id, .int .i64 se, .int .i64 nx, .slice (some ⟨rb, 0, none⟩) m m] 55)) := (Below.refl _ _).alloc (Nat.le_refl _) _
  have HB2 := ghid ((HB1.out.trans (hb2.mono HB1.out.size)).trans (hq.mono (by omega)))
  have HROW2 := ghid (grow_below (grow_mono hrow (by omega : w.heap.size + 3 ≤ rb)) hq (Nat.le_refl _))
  have HR2 : Hid ((w2.alloc (.cells #[.int .i64 id, .int .i64 se, .int .i64 nx, .slice (some ⟨rb, 0, none⟩) m m] 55)).heap[w.heap.size + 1 + 1]? = some (.cells #[.int .i64 0, .int .i64 0, .int .i64 0, .slice none 0 0] 55 (0, 0))) := (hq.block _ (by omega)).trans hr2
  have HQ2 : Hid ((w2.alloc (.cells #[.int .i64 id, .int .i64 se, .int .i64 nx, .slice (some ⟨rb, 0, none⟩) m m] 55)).heap[w2.heap.size]? = some (.cells #[.int .i64 id, .int .i64 se, .int .i64 nx, .slice (some ⟨rb, 0, none⟩) m m] 55 (0, 0))) := heap_alloc_new w2 _
  clear c0 c1 c2 c3 cf cl r0 r1 r2 r3 rf rl
  obtain ⟨c0, c1, c2, c3, cf, cl⟩ := state_cells hx2
  clear hrow hb2 hq hx2 hr2 C2 hrb
  go_wp2_with fail
  refine (CD.out _ _ _ HROW2.out).mono ?_
  rintro e w3 ⟨rfl, hown3, ht3⟩
  have hq3 : w3.heap[w2.heap.size]? = some (.cells #[.int .i64 id, .int .i64 se, .int .i64 nx, .slice (some ⟨rb, 0, none⟩) m m] 55 (0, 0)) := (ht3.block _ (by simp) (fun e => by omega)).trans HQ2.out
  have hr3 : w3.heap[w.heap.size + 1 + 1]? = some (.cells #[.int .i64 0, .int .i64 0, .int .i64 0, .slice none 0 0] 55 (0, 0)) := (ht3.block _ (by simp; omega) (fun e => by omega)).trans HR2.out
  have HB3 := ghid (HB2.out.trans ((ht3.below (B := w.heap.size) HB2.out.size (fun k e => by omega))))
  have hz3 : w2.heap.size < w3.heap.size := by have := ht3.size; simp at this; omega
  clear c0 c1 c2 c3 cf cl
  obtain ⟨y0, y1, y2, y3, yf, yl⟩ := state_cells hq3
  obtain ⟨r0, r1, r2, r3, rf, rl⟩ := state_cells hr3
  clear hown3 ht3 hq3 hr3 HROW2 HR2 HQ2 HB2 CD
  have HBF := ghid (fun u0 u1 u2 u3 u4 u5 u6 => zset4 ((HB3.out.setCell (by simp; omega) u4 : Below w.heap.size w (w3.setCell ⟨w2.heap.size, 3, none⟩ u4)).setCell (by simp; omega) u5 |>.setCell (by simp; omega) u6 : Below w.heap.size w (((w3.setCell ⟨w2.heap.size, 3, none⟩ u4).setCell ⟨w2.heap.size, 1, none⟩ u5).setCell ⟨w2.heap.size, 3, none⟩ u6)) (b := w.heap.size + 1 + 1) (by omega) u0 u1 u2 u3)
  go_wp2
  refine bodyPost_ret (v := .tuple #[.agg #[.int .i64 id, .int .i64 0, .int .i64 nx, .slice none 0 0], .int .i64 0]) (by simp [results, Tryz.results208, go_sem, r0, r1, r2, r3]) rfl ?_
  exact ⟨rfl, HBF.out _ _ _ _ _ _ _⟩

set_option maxRecDepth 100000 in
set_option maxHeartbeats 3200000 in
theorem hearCall_ok (v : Value) (c : CustD) (q rc : Int) (i : Nat) (w : World) (B : Nat) (hv : CustR w B v c) (hB : B ≤ w.heap.size) (hi : idxI (fun x : WaitD => x.seq == q) c.waits = (i : Int)) (hil : i < c.waits.length) (h5 : c.waits.length < 5) (hrc : rc ≠ 11) :
    Calls Tryz.prog 208 #[v, .int .i64 q, .int .i64 rc] w fun e w' => ∃ vo vc, e = .returned (.tuple #[.agg #[.int .i64 c.id, .int .i64 c.session, .int .i64 c.next, .slice vo (c.waits.length - 1) vc], .int .i64 0]) ∧ w'.ownsRow w.heap.size 156 5 (.slice vo (c.waits.length - 1) vc) (c.waits.length - 1) (flatG waitCells (c.waits.eraseIdx i)) ∧ Below w.heap.size w w' := by
  have CI : Hid (∀ u, Below w.heap.size w u → ∀ (wv : Value) (b0 : Nat), v = .agg #[.int .i64 c.id, .int .i64 c.session, .int .i64 c.next, wv] → u.heap[b0]? = some (.cells #[.int .i64 q] 3 (0, 0)) → Calls Tryz.prog 237 #[wv, .func (.func 238) #[] #[.pointer (some ⟨b0, 0, none⟩)]] u fun e w' => e = .returned (.int .i64 (idxI (fun x => x.seq == q) c.waits)) ∧ Below u.heap.size u w') := fun u hu wv b0 he hq => by
    obtain ⟨wv', he', hw⟩ := hv
    rw [he] at he'
    simp only [Value.agg.injEq, Array.mk.injEq, List.cons.injEq, and_true, true_and] at he'
    subst he'
    exact indexW wv c.waits 238 #[.pointer (some ⟨b0, 0, none⟩)] (fun x => x.seq == q) (fun _ => False) u B (hw.below hu hB) (by have := hu.size; omega) (enters_of Tryz.func238 (by decide) rfl) (fun x w' _ hw' => by
      have hlt := (Array.getElem?_eq_some_iff.1 hq).1
      refine heard1_any x.seq x.kind x.n x.a x.b q b0 w' ?_ (by have := hw'.size; omega)
      exact (World.cell?_of_block (hw'.block b0 hlt (fun h => h))).trans (cell_of_row u b0 0 _ _ _ hq))
  have C2 := ghid (fun u (hu : Below w.heap.size w u) => custCopy_own v c u B (hv.below hu hB) (by have := hu.size; omega))
  have CD : Hid (∀ (u : World) (rb base : Nat), u.ownsRow base 156 5 (.slice (some ⟨rb, 0, none⟩) c.waits.length c.waits.length) c.waits.length (flatG waitCells c.waits) → _) := fun u rb base hr => deleteW rb c.waits.length i c.waits u base hr rfl hil h5
  rw [hi] at CI
  obtain ⟨ao, cap, rfl, -⟩ := hv.shape
  obtain ⟨id, hid⟩ : ∃ z, z = c.id := ⟨_, rfl⟩
  obtain ⟨se, hse⟩ : ∃ z, z = c.session := ⟨_, rfl⟩
  obtain ⟨nx, hnx⟩ : ∃ z, z = c.next := ⟨_, rfl⟩
  obtain ⟨m, hm⟩ : ∃ z, z = c.waits.length := ⟨_, rfl⟩
  obtain ⟨fl, hfl⟩ : ∃ z, z = flatG waitCells c.waits := ⟨_, rfl⟩
  obtain ⟨fd, hfd⟩ : ∃ z, z = flatG waitCells (c.waits.eraseIdx i) := ⟨_, rfl⟩
  rw [← hid, ← hse, ← hnx, ← hm] at CI
  rw [← hid, ← hse, ← hnx, ← hm, ← hfl] at C2
  rw [← hm, ← hfl, ← hfd] at CD
  rw [← hm] at hil h5
  rw [← hid, ← hse, ← hnx, ← hm, ← hfd]
  have HZ : Hid (Below w.heap.size w (((w.alloc (.cells #[.int .i64 id, .int .i64 se, .int .i64 nx, .slice ao m cap] 55)).alloc (.cells #[.int .i64 q] 3)).alloc (.cells #[.int .i64 0, .int .i64 0, .int .i64 0, .slice none 0 0] 55))) := (((Below.refl _ _).alloc (Nat.le_refl _) _).alloc (by simp) _).alloc (by simp; omega) _
  obtain ⟨hx0, ho0, hr0⟩ := three_newC (w := w) (A := (.cells #[.int .i64 id, .int .i64 se, .int .i64 nx, .slice ao m cap] 55)) (R := (.cells #[.int .i64 q] 3)) (S := (.cells #[.int .i64 0, .int .i64 0, .int .i64 0, .slice none 0 0] 55)) (Below.refl _ _)
  have HX0 := ghid hx0
  have HO0 := ghid ho0
  have HR0 := ghid hr0
  clear hx0 ho0 hr0
  have hrcb : (rc == 11) = false := by simpa using hrc
  have hin : ¬ (i : Int) < 0 := by omega
  have hiw : IntKind.i64.wrap ((i : Int) + 1) = (i : Int) + 1 := by rw [IntKind.wrap_i64]; omega
  clear hv hid hse hnx hm hfl hfd hi hrc
  go_enter Tryz.func208, Tryz.ntmps208
  go_wp2_with fail
  refine (CI.out _ HZ.out _ _ rfl HO0.out).mono ?_
  rintro e w1 ⟨rfl, hb1⟩
  have HB1 := ghid (HZ.out.trans (hb1.mono HZ.out.size))
  have HX1 := ghid (behind HX0.out (Below.refl _ _) hb1)
  have HR1 := ghid (behind HR0.out (Below.refl _ _) hb1)
  have hzz1 : w.heap.size + 3 ≤ w1.heap.size := by have := hb1.size; simpa using this
  obtain ⟨c0, c1, c2, c3, cf, cl⟩ := state_cells HX1.out
  obtain ⟨r0, r1, r2, r3, rf, rl⟩ := state_cells HR1.out
  clear hb1 CI
  go_wp2_with fail
  refine (C2.out _ HB1.out).mono ?_
  rintro e w2 ⟨rfl, hrow, hb2⟩
  obtain ⟨rb, hrb⟩ : ∃ x, x = w1.heap.size + 2 := ⟨_, rfl⟩
  rw [← hrb] at hrow ⊢
  have hrl : rb < w2.heap.size := (hrow.lt rb rfl).2
  have hx2 := behind HX1.out (Below.refl _ _) hb2
  have hr2 := behind HR1.out (Below.refl _ _) hb2
  have hz2' : w.heap.size + 3 ≤ w2.heap.size := by have := hb2.size; omega
  have hrw : w.heap.size + 3 ≤ rb := by omega
  have hq : Below w2.heap.size w2 (w2.alloc (.cells #[.int .i64 id, .int .i64 se, .int .i64 nx, .slice (some ⟨rb, 0, none⟩) m m] 55)) := (Below.refl _ _).alloc (Nat.le_refl _) _
  have HB2 := ghid ((HB1.out.trans (hb2.mono HB1.out.size)).trans (hq.mono (by omega)))
  have HROW2 := ghid (grow_below (grow_mono hrow (by omega : w.heap.size + 3 ≤ rb)) hq (Nat.le_refl _))
  have HR2 : Hid ((w2.alloc (.cells #[.int .i64 id, .int .i64 se, .int .i64 nx, .slice (some ⟨rb, 0, none⟩) m m] 55)).heap[w.heap.size + 1 + 1]? = some (.cells #[.int .i64 0, .int .i64 0, .int .i64 0, .slice none 0 0] 55 (0, 0))) := (hq.block _ (by omega)).trans hr2
  have HQ2 : Hid ((w2.alloc (.cells #[.int .i64 id, .int .i64 se, .int .i64 nx, .slice (some ⟨rb, 0, none⟩) m m] 55)).heap[w2.heap.size]? = some (.cells #[.int .i64 id, .int .i64 se, .int .i64 nx, .slice (some ⟨rb, 0, none⟩) m m] 55 (0, 0))) := heap_alloc_new w2 _
  clear c0 c1 c2 c3 cf cl r0 r1 r2 r3 rf rl
  obtain ⟨c0, c1, c2, c3, cf, cl⟩ := state_cells hx2
  clear hrow hb2 hq hx2 hr2 C2 hrb
  go_wp2_with fail
  refine (CD.out _ _ _ HROW2.out).mono ?_
  rintro e w3 ⟨rfl, hown3, ht3⟩
  have hq3 : w3.heap[w2.heap.size]? = some (.cells #[.int .i64 id, .int .i64 se, .int .i64 nx, .slice (some ⟨rb, 0, none⟩) m m] 55 (0, 0)) := (ht3.block _ (by simp) (fun e => by omega)).trans HQ2.out
  have hr3 : w3.heap[w.heap.size + 1 + 1]? = some (.cells #[.int .i64 0, .int .i64 0, .int .i64 0, .slice none 0 0] 55 (0, 0)) := (ht3.block _ (by simp; omega) (fun e => by omega)).trans HR2.out
  have HB3 := ghid (HB2.out.trans ((ht3.below (B := w.heap.size) HB2.out.size (fun k e => by omega))))
  have hz3 : w2.heap.size < w3.heap.size := by have := ht3.size; simp at this; omega
  clear c0 c1 c2 c3 cf cl
  obtain ⟨y0, y1, y2, y3, yf, yl⟩ := state_cells hq3
  obtain ⟨r0, r1, r2, r3, rf, rl⟩ := state_cells hr3
  have HROW : Hid (∀ u0 u1 u2 u3 u4, (((((w3.setCell ⟨w2.heap.size, 3, none⟩ u4).setCell ⟨w.heap.size + 1 + 1, 0, none⟩ u0).setCell ⟨w.heap.size + 1 + 1, 1, none⟩ u1).setCell ⟨w.heap.size + 1 + 1, 2, none⟩ u2).setCell ⟨w.heap.size + 1 + 1, 3, none⟩ u3).ownsRow w.heap.size 156 5 (.slice (some ⟨rb, 0, none⟩) (m - 1) m) (m - 1) fd) := fun u0 u1 u2 u3 u4 => grow_keep (grow_mono hown3 (by omega)) fun j hj => by
    have e : rb = j := by simpa [Value.ownBlock] using hj
    subst e
    rw [heap_setCell_other _ _ _ _ (by simp; omega), heap_setCell_other _ _ _ _ (by simp; omega), heap_setCell_other _ _ _ _ (by simp; omega), heap_setCell_other _ _ _ _ (by simp; omega), heap_setCell_other _ _ _ _ (by simp; omega)]
  have HBF := ghid (fun u0 u1 u2 u3 u4 => zset4 (HB3.out.setCell (by simp; omega) u4 : Below w.heap.size w (w3.setCell ⟨w2.heap.size, 3, none⟩ u4)) (b := w.heap.size + 1 + 1) (by omega) u0 u1 u2 u3)
  clear hown3 ht3 hq3 hr3 HROW2 HR2 HQ2 HB2 CD
  go_wp2
  refine bodyPost_ret (v := .tuple #[.agg #[.int .i64 id, .int .i64 se, .int .i64 nx, .slice (some ⟨rb, 0, none⟩) (m - 1) m], .int .i64 0]) (by simp [results, Tryz.results208, go_sem, r0, r1, r2, r3]) rfl ?_
  exact ⟨_, _, rfl, HROW.out _ _ _ _ _, HBF.out _ _ _ _ _⟩

end Go.Proofs.YtijilhbdbeajjaaGreatDoor

namespace Go.Proofs.YtijilhbdbeajjaaGreatDoor

open Go.RowKit

/-- What an inner call answers, as a client of the call's own. -/
theorem heardJ_any (v : Value) (c : CustD) (cl rc rn : Int) (rt : ByteArray) (w : World) (B : Nat) (hv : CustR w B v c) (hB : B ≤ w.heap.size) (hc : checkC c = 0) (hcl : cl = c.id) :
    Calls Tryz.prog 207 #[v, .agg #[.int .i64 rc, .int .i64 rn, .string rt]] w fun e w' => ∃ v', e = .returned (.tuple #[v', .int .i64 (chearE c cl 0 rc rn)]) ∧ CustO w' w.heap.size v' (hearC c cl 0 rc rn) ∧ Below w.heap.size w w' := by
  have hl : c.waits.length * 56 ≤ 140737488351232 ∧ ModestW c.waits := by
    obtain ⟨wv, -, h⟩ := hv
    exact ⟨h.len, h.modest⟩
  rw [show chearE c cl 0 rc rn = hjE c.session rc rn from hear_join hc hcl]
  by_cases he : hjE c.session rc rn = 0
  · have hC : hearC c cl 0 rc rn = ⟨c.id, hjS c.session rc rn, c.next, c.waits⟩ := by unfold hearC; rw [hear_join hc hcl, if_pos he, hearL_join]
    rw [hC, he]
    exact (hearJoin_ok v c rc rn rt w B hv hB he).mono fun e w' ⟨vo, vc, h1, h2, h3⟩ => ⟨_, h1, ⟨vo, vc, rfl, h2, hl.1, hl.2⟩, h3⟩
  · have hC : hearC c cl 0 rc rn = .zero := by unfold hearC; rw [hear_join hc hcl, if_neg he]
    rw [hC]
    exact (hearJoin_bad v c rc rn rt w B hv hB he).mono fun e w' ⟨h1, h3⟩ => ⟨_, h1, CustO.zero _ _, h3⟩

theorem heardC_any (v : Value) (c : CustD) (cl q rc rn : Int) (w : World) (B : Nat) (hv : CustR w B v c) (hB : B ≤ w.heap.size) (hc : checkC c = 0) (hcl : cl = c.id) (hq : q ≠ 0) :
    Calls Tryz.prog 208 #[v, .int .i64 q, .int .i64 rc] w fun e w' => ∃ v', e = .returned (.tuple #[v', .int .i64 (chearE c cl q rc rn)]) ∧ CustO w' w.heap.size v' (hearC c cl q rc rn) ∧ Below w.heap.size w w' := by
  have G := GoodC.of hc
  have hl : c.waits.length * 56 ≤ 140737488351232 ∧ ModestW c.waits := by
    obtain ⟨wv, -, h⟩ := hv
    exact ⟨h.len, h.modest⟩
  have hlen := G.len
  have hE := hear_call (rc := rc) (rn := rn) hc hcl hq
  rcases idxI_cases (fun x : WaitD => x.seq == q) c.waits with ⟨h1, h2⟩ | ⟨i, x, h1, h2, h3, h4⟩
  · rw [h2, if_neg (by decide)] at hE
    have hC : hearC c cl q rc rn = .zero := by unfold hearC; rw [hE, if_neg (by decide)]
    rw [hC, hE]
    exact (hearCall_bad v c q rc w B hv hB h1).mono fun e w' ⟨h1, h3⟩ => ⟨_, h1, CustO.zero _ _, h3⟩
  · have hil := (List.getElem?_eq_some_iff.1 h2).1
    rw [h4, if_pos rfl] at hE
    rw [hE]
    by_cases hrc : rc = 11
    · subst hrc
      have hC : hearC c cl q 11 rn = ⟨c.id, 0, c.next, []⟩ := by unfold hearC; rw [hE, if_pos rfl, hearL_away c hq]
      rw [hC]
      exact (hearCall_away v c q i w B hv hB h1 hil (by omega)).mono fun e w' ⟨h1, h3⟩ => ⟨_, h1, ⟨none, 0, rfl, World.ownsRow_nil _ _ _ _, by show 0 * 56 ≤ _; omega, fun x hx => absurd hx (by simp)⟩, h3⟩
    · have hf := filter_erase G.order h2 (by simpa using h3)
      have hC : hearC c cl q rc rn = ⟨c.id, c.session, c.next, c.waits.eraseIdx i⟩ := by unfold hearC; rw [hE, if_pos rfl, hearL_call c hq hrc, hf]
      have hel : (c.waits.eraseIdx i).length = c.waits.length - 1 := by rw [List.length_eraseIdx, if_pos hil]
      rw [hC]
      refine (hearCall_ok v c q rc i w B hv hB h1 hil (by omega) hrc).mono fun e w' ⟨vo, vc, h1, h2, h3⟩ => ⟨_, h1, ⟨vo, vc, by rw [hel], by rw [hel]; exact h2, by rw [hel]; omega, modest_sub hl.2 fun y hy => (List.eraseIdx_sublist _ _).subset hy⟩, h3⟩

set_option maxRecDepth 100000 in
set_option maxHeartbeats 1600000 in
theorem Hear_any (v : Value) (c : CustD) (cl q rc rn : Int) (rt : ByteArray) (w : World) (B : Nat) (hv : CustR w B v c) (hB : B ≤ w.heap.size) :
    Calls Tryz.prog 160 #[v, .agg #[.int .i64 cl, .int .i64 q, .int .i64 rc, .int .i64 rn, .string rt]] w fun e w' => ∃ v', e = .returned (.tuple #[v', .int .i64 (chearE c cl q rc rn)]) ∧ CustO w' w.heap.size v' (hearC c cl q rc rn) ∧ Below w.heap.size w w' := by
  have C1 := ghid (fun u (hu : Below w.heap.size w u) => custCheck_any v c u B (hv.below hu hB) (by have := hu.size; omega))
  have CJ : Hid (checkC c = 0 → cl = c.id → q = 0 → ∀ u, Below w.heap.size w u → Calls Tryz.prog 207 #[v, .agg #[.int .i64 rc, .int .i64 rn, .string rt]] u fun e w' => ∃ v', e = .returned (.tuple #[v', .int .i64 (chearE c cl q rc rn)]) ∧ CustO w' u.heap.size v' (hearC c cl q rc rn) ∧ Below u.heap.size u w') := fun hc hcl hq u hu => by
    subst hq
    exact heardJ_any v c cl rc rn rt u B (hv.below hu hB) (by have := hu.size; omega) hc hcl
  have CC : Hid (checkC c = 0 → cl = c.id → q ≠ 0 → ∀ u, Below w.heap.size w u → Calls Tryz.prog 208 #[v, .int .i64 q, .int .i64 rc] u fun e w' => ∃ v', e = .returned (.tuple #[v', .int .i64 (chearE c cl q rc rn)]) ∧ CustO w' u.heap.size v' (hearC c cl q rc rn) ∧ Below u.heap.size u w') := fun hc hcl hq u hu => heardC_any v c cl q rc rn u B (hv.below hu hB) (by have := hu.size; omega) hc hcl hq
  have H1 : Hid (checkC c ≠ 0 → chearE c cl q rc rn = checkC c) := fun h => by unfold chearE; rw [if_pos h]
  have H2 : Hid (checkC c = 0 → cl ≠ c.id → chearE c cl q rc rn = 6) := fun h h' => by unfold chearE; rw [if_neg (by simpa using h), if_pos h']
  have HCC : Hid (chearE c cl q rc rn ≠ 0 → hearC c cl q rc rn = .zero) := fun h => if_neg h
  obtain ⟨ao, cap, rfl, -⟩ := hv.shape
  obtain ⟨cc, hcc⟩ : ∃ z, z = checkC c := ⟨_, rfl⟩
  obtain ⟨r, hre⟩ : ∃ z, z = chearE c cl q rc rn := ⟨_, rfl⟩
  obtain ⟨d, hd⟩ : ∃ z, z = hearC c cl q rc rn := ⟨_, rfl⟩
  obtain ⟨id, hid⟩ : ∃ z, z = c.id := ⟨_, rfl⟩
  obtain ⟨se, hse⟩ : ∃ z, z = c.session := ⟨_, rfl⟩
  obtain ⟨nx, hnx⟩ : ∃ z, z = c.next := ⟨_, rfl⟩
  obtain ⟨m, hm⟩ : ∃ z, z = c.waits.length := ⟨_, rfl⟩
  rw [← hcc, ← hid, ← hse, ← hnx, ← hm] at C1
  rw [← hcc, ← hre, ← hd, ← hid, ← hse, ← hnx, ← hm] at CJ CC
  rw [← hcc, ← hre] at H1
  rw [← hcc, ← hre, ← hid] at H2
  rw [← hre, ← hd] at HCC
  rw [← hre, ← hd, ← hid, ← hse, ← hnx, ← hm]
  have HZ : Hid (Below w.heap.size w (((w.alloc (.cells #[.int .i64 id, .int .i64 se, .int .i64 nx, .slice ao m cap] 55)).alloc (.cells #[.int .i64 cl, .int .i64 q, .int .i64 rc, .int .i64 rn, .string rt] 92)).alloc (.cells #[.int .i64 0, .int .i64 0, .int .i64 0, .slice none 0 0] 55))) := (((Below.refl _ _).alloc (Nat.le_refl _) _).alloc (by simp) _).alloc (by simp; omega) _
  obtain ⟨hx0, ho0, hr0⟩ := three_newC (w := w) (A := (.cells #[.int .i64 id, .int .i64 se, .int .i64 nx, .slice ao m cap] 55)) (R := (.cells #[.int .i64 cl, .int .i64 q, .int .i64 rc, .int .i64 rn, .string rt] 92)) (S := (.cells #[.int .i64 0, .int .i64 0, .int .i64 0, .slice none 0 0] 55)) (Below.refl _ _)
  have HX0 := ghid hx0
  have HO0 := ghid ho0
  have HR0 := ghid hr0
  clear hx0 ho0 hr0 hv hcc hre hd hid hse hnx hm
  by_cases h1 : cc = 0
  · by_cases h2 : cl = id
    · by_cases h3 : q = 0
      · have C2 := ghid (CJ.out h1 h2 h3)
        subst h1
        subst h3
        subst h2
        clear CC CJ H1 H2 HCC
        go_enter Tryz.func160, Tryz.ntmps160
        go_wp2_with fail
        refine (C1.out _ HZ.out).mono ?_
        rintro e w1 ⟨rfl, hb1⟩
        have HB1 := ghid (HZ.out.trans (hb1.mono HZ.out.size))
        have HR1 := ghid (behind HR0.out (Below.refl _ _) hb1)
        obtain ⟨c0, c1, c2, c3, cf, cl'⟩ := state_cells (behind HX0.out (Below.refl _ _) hb1)
        obtain ⟨o0, o1, o2, o3, o4, of, ol⟩ := five_cells (behind HO0.out (Below.refl _ _) hb1)
        have hzz1 : w.heap.size + 3 ≤ w1.heap.size := by have := hb1.size; simpa using this
        obtain ⟨r0, r1, r2, r3, rf, rl⟩ := state_cells HR1.out
        clear hb1
        clear r0 r1 r2 r3 rf rl
        go_wp2_with fail
        refine (C2.out _ HB1.out).mono ?_
        rintro e w2 ⟨v2, rfl, ho2, hb2⟩
        obtain ⟨vo, vc, rfl, -⟩ := id ho2
        have hr2 := behind HR1.out (Below.refl _ _) hb2
        have HB2 := ghid (HB1.out.trans (hb2.mono HB1.out.size))
        obtain ⟨r0, r1, r2, r3, rf, rl⟩ := state_cells hr2
        have HO2 := ghid (fun u0 u1 u2 u3 => ho2.put4 (p := w.heap.size + 1 + 1) (m := w.heap.size) (by omega) (by omega) u0 u1 u2 u3)
        obtain ⟨d0, hd0⟩ : ∃ z, z = d.id := ⟨_, rfl⟩
        obtain ⟨d1, hd1⟩ : ∃ z, z = d.session := ⟨_, rfl⟩
        obtain ⟨d2, hd2⟩ : ∃ z, z = d.next := ⟨_, rfl⟩
        obtain ⟨d3, hd3⟩ : ∃ z, z = d.waits.length := ⟨_, rfl⟩
        rw [← hd0, ← hd1, ← hd2, ← hd3] at HO2 ⊢
        clear hb2 hr2 ho2 C2 c0 c1 c2 c3 cf cl' o0 o1 o2 o3 o4 of ol hd0 hd1 hd2 hd3
        go_wp2
        refine bodyPost_ret (v := .tuple #[.agg #[.int .i64 d0, .int .i64 d1, .int .i64 d2, .slice vo d3 vc], .int .i64 r]) (by simp [results, Tryz.results160, go_sem, r0, r1, r2, r3]) rfl ?_
        exact ⟨_, rfl, HO2.out _ _ _ _, zset4 HB2.out (by omega) _ _ _ _⟩
      · have C2 := ghid (CC.out h1 h2 h3)
        have hqb : (q == 0) = false := by simpa using h3
        subst h1
        subst h2
        clear CC CJ H1 H2 HCC h3
        go_enter Tryz.func160, Tryz.ntmps160
        go_wp2_with fail
        refine (C1.out _ HZ.out).mono ?_
        rintro e w1 ⟨rfl, hb1⟩
        have HB1 := ghid (HZ.out.trans (hb1.mono HZ.out.size))
        have HR1 := ghid (behind HR0.out (Below.refl _ _) hb1)
        obtain ⟨c0, c1, c2, c3, cf, cl'⟩ := state_cells (behind HX0.out (Below.refl _ _) hb1)
        obtain ⟨o0, o1, o2, o3, o4, of, ol⟩ := five_cells (behind HO0.out (Below.refl _ _) hb1)
        have hzz1 : w.heap.size + 3 ≤ w1.heap.size := by have := hb1.size; simpa using this
        obtain ⟨r0, r1, r2, r3, rf, rl⟩ := state_cells HR1.out
        clear hb1
        clear r0 r1 r2 r3 rf rl
        go_wp2_with fail
        refine (C2.out _ HB1.out).mono ?_
        rintro e w2 ⟨v2, rfl, ho2, hb2⟩
        obtain ⟨vo, vc, rfl, -⟩ := id ho2
        have hr2 := behind HR1.out (Below.refl _ _) hb2
        have HB2 := ghid (HB1.out.trans (hb2.mono HB1.out.size))
        obtain ⟨r0, r1, r2, r3, rf, rl⟩ := state_cells hr2
        have HO2 := ghid (fun u0 u1 u2 u3 => ho2.put4 (p := w.heap.size + 1 + 1) (m := w.heap.size) (by omega) (by omega) u0 u1 u2 u3)
        obtain ⟨d0, hd0⟩ : ∃ z, z = d.id := ⟨_, rfl⟩
        obtain ⟨d1, hd1⟩ : ∃ z, z = d.session := ⟨_, rfl⟩
        obtain ⟨d2, hd2⟩ : ∃ z, z = d.next := ⟨_, rfl⟩
        obtain ⟨d3, hd3⟩ : ∃ z, z = d.waits.length := ⟨_, rfl⟩
        rw [← hd0, ← hd1, ← hd2, ← hd3] at HO2 ⊢
        clear hb2 hr2 ho2 C2 c0 c1 c2 c3 cf cl' o0 o1 o2 o3 o4 of ol hd0 hd1 hd2 hd3
        go_wp2
        refine bodyPost_ret (v := .tuple #[.agg #[.int .i64 d0, .int .i64 d1, .int .i64 d2, .slice vo d3 vc], .int .i64 r]) (by simp [results, Tryz.results160, go_sem, r0, r1, r2, r3]) rfl ?_
        exact ⟨_, rfl, HO2.out _ _ _ _, zset4 HB2.out (by omega) _ _ _ _⟩
    · have HE : Hid (r = 6) := H2.out h1 h2
      have HCZ : Hid (d = .zero) := HCC.out (by rw [HE.out]; decide)
      have hclb : (cl != id) = true := by simpa using h2
      subst h1
      clear CC CJ H1 H2 HCC h2
      go_enter Tryz.func160, Tryz.ntmps160
      go_wp2_with fail
      refine (C1.out _ HZ.out).mono ?_
      rintro e w1 ⟨rfl, hb1⟩
      have HB1 := ghid (HZ.out.trans (hb1.mono HZ.out.size))
      have HR1 := ghid (behind HR0.out (Below.refl _ _) hb1)
      obtain ⟨c0, c1, c2, c3, cf, cl'⟩ := state_cells (behind HX0.out (Below.refl _ _) hb1)
      obtain ⟨o0, o1, o2, o3, o4, of, ol⟩ := five_cells (behind HO0.out (Below.refl _ _) hb1)
      have hzz1 : w.heap.size + 3 ≤ w1.heap.size := by have := hb1.size; simpa using this
      obtain ⟨r0, r1, r2, r3, rf, rl⟩ := state_cells HR1.out
      clear hb1
      go_wp2
      refine bodyPost_ret (v := .tuple #[.agg #[.int .i64 0, .int .i64 0, .int .i64 0, .slice none 0 0], .int .i64 6]) (by simp [results, Tryz.results160, go_sem, r0, r1, r2, r3]) rfl ?_
      exact ⟨_, by rw [HE.out], by rw [HCZ.out]; exact CustO.zero _ _, zset4 HB1.out (by omega) _ _ _ _⟩
  · have HE : Hid (r = cc) := H1.out h1
    have HCZ : Hid (d = .zero) := HCC.out (by rw [HE.out]; exact h1)
    have hcb : (cc != 0) = true := by simpa using h1
    clear CC CJ H1 H2 HCC h1
    go_enter Tryz.func160, Tryz.ntmps160
    go_wp2_with fail
    refine (C1.out _ HZ.out).mono ?_
    rintro e w1 ⟨rfl, hb1⟩
    have HB1 := ghid (HZ.out.trans (hb1.mono HZ.out.size))
    have HR1 := ghid (behind HR0.out (Below.refl _ _) hb1)
    obtain ⟨c0, c1, c2, c3, cf, cl'⟩ := state_cells (behind HX0.out (Below.refl _ _) hb1)
    obtain ⟨o0, o1, o2, o3, o4, of, ol⟩ := five_cells (behind HO0.out (Below.refl _ _) hb1)
    have hzz1 : w.heap.size + 3 ≤ w1.heap.size := by have := hb1.size; simpa using this
    obtain ⟨r0, r1, r2, r3, rf, rl⟩ := state_cells HR1.out
    clear hb1
    go_wp2
    refine bodyPost_ret (v := .tuple #[.agg #[.int .i64 0, .int .i64 0, .int .i64 0, .slice none 0 0], .int .i64 cc]) (by simp [results, Tryz.results160, go_sem, r0, r1, r2, r3]) rfl ?_
    exact ⟨_, by rw [HE.out], by rw [HCZ.out]; exact CustO.zero _ _, zset4 HB1.out (by omega) _ _ _ _⟩

end Go.Proofs.YtijilhbdbeajjaaGreatDoor

namespace Go.Proofs.YtijilhbdbeajjaaGreatDoor

open Go.RowKit

section

variable {gh g2 ev : Value} {w0 : World} {p : Nat} {K : Nat → Prop} {rv cv mv tv : Value} {xs : List RepV} {cs : List CustV} {t : TownD}

theorem deliver_away {t : TownD} {m : MailD} (h : idxI (fun c : CustD => c.id == m.client) t.custs = -1) : t.deliver m = (t, 6) := by
  unfold TownD.deliver
  unfold idxI at h
  split at h
  · omega
  · rename_i h'
    rw [if_neg h']

theorem deliver_to {t : TownD} {m : MailD} {i : Nat} {c : CustD} (h : idxI (fun c : CustD => c.id == m.client) t.custs = i) (hc : t.custs[i]? = some c) : t.deliver m = if chearE c m.client m.seq m.reply.code m.reply.n ≠ 0 then (t, chearE c m.client m.seq m.reply.code m.reply.n) else (t.setCust i (chearL c m.seq m.reply.code m.reply.n), 0) := by
  unfold TownD.deliver
  unfold idxI at h
  split at h
  · rename_i h'
    rw [if_pos h']
    have e : t.custs.findIdx (fun c => c.id == m.client) = i := by omega
    simp only [e]
    rw [List.getD_eq_getElem?_getD, hc]
    rfl
  · omega

set_option maxRecDepth 100000 in
set_option maxHeartbeats 6400000 in
theorem deliver_town (h : TownM 32 [gh, g2, ev] w0 p K rv cv mv tv xs cs t) (hml : t.mails.length ≤ 60) (hcl : t.custs.length ≤ 9) {k : Nat} {m : MailD} (hm : t.mails[k]? = some m) (R : TownD × Int) (hR : R = TownD.deliver { t with mails := t.mails.eraseIdx k } m) :
    Calls Tryz.prog 113 #[.pointer (some ⟨p, 0, none⟩), .int .i64 (k : Int)] w0 fun e w' => e = .returned (.int .i64 R.2) ∧ MovedE 32 [gh, g2, ev] w0 w' p K R.1 := by
  have hk := (List.getElem?_eq_some_iff.1 hm).1
  obtain ⟨g, cap, rfl, hgl⟩ := h.mrow hk
  obtain ⟨c0, c1, c2, c3, c4, c5, cf, hpl⟩ := six_cells h.cells
  have m0 := grow_at mailCells_len h.mails rfl hm 0 (by omega)
  have m1 := grow_at mailCells_len h.mails rfl hm 1 (by omega)
  have m2 := grow_at mailCells_len h.mails rfl hm 2 (by omega)
  have m3 := grow_at mailCells_len h.mails rfl hm 3 (by omega)
  have m4 := grow_at mailCells_len h.mails rfl hm 4 (by omega)
  simp only [mailCells, Nat.add_zero, List.getElem?_cons_zero, List.getElem?_cons_succ] at m0 m1 m2 m3 m4
  have hb0 : Below w0.heap.size w0 (w0.alloc (.cells #[.int .i64 m.client, .int .i64 m.seq, .int .i64 m.reply.code, .int .i64 m.reply.n, .string m.reply.text] 92)) := (Below.refl _ _).alloc (Nat.le_refl _) _
  have HB0 := ghid hb0
  have CD := ghid (drop_town (h.below hb0) hml hk)
  have HOA := ghid (heap_alloc_new w0 (.cells #[.int .i64 m.client, .int .i64 m.seq, .int .i64 m.reply.code, .int .i64 m.reply.n, .string m.reply.text] 92))
  have HKB := ghid (fun g (hg : K g) => h.lt hg)
  have HCL := ghid hcl
  have HR := ghid hR
  obtain ⟨bo, hbo⟩ : ∃ b, b = w0.heap.size := ⟨_, rfl⟩
  rw [← hbo] at HOA
  have HBO := ghid hbo
  have hki : (k : Int) < t.mails.length := by omega
  clear h hm hR hb0 hbo hcl
  go_enter Tryz.func113, Tryz.ntmps113
  go_wp2_with fail
  refine CD.out.mono ?_
  rintro e w2 ⟨rfl, K1, ⟨rv1, cv1, mv1, tv1, xs1, cs1, h1⟩, k1, k2⟩
  have HO2 : Hid (w2.heap[bo]? = some (.cells #[.int .i64 m.client, .int .i64 m.seq, .int .i64 m.reply.code, .int .i64 m.reply.n, .string m.reply.text] 92 (0, 0))) := (k2.block bo (Array.getElem?_eq_some_iff.1 HOA.out).1 (fun e => by have := HKB.out _ e.1; have := HBO.out; omega)).trans HOA.out
  have HH2 := ghid h1
  have HMV := ghid (fun (W' : World) (t' : TownD) (hm : MovedE 32 [gh, g2, ev] w2 W' p K1 t') => (hm.next k1 k2).behind HB0.out)
  rw [← HBO.out]
  clear k1 k2 c0 c1 c2 c3 c4 c5 cf hpl m0 m1 m2 m3 m4 CD
  obtain ⟨co, cc, rfl⟩ := grow_shape h1.custs
  have hcn : cs1.length ≤ 9 := by rw [h1.clen]; exact HCL.out
  have HCT := ghid h1.clist
  obtain ⟨c0, c1, c2, c3, c4, c5, cf, hpl⟩ := six_cells h1.cells
  obtain ⟨o0, o1, o2, o3, o4⟩ := five_cells HO2.out
  have CI := ghid (indexC co cs1.length cc cs1 159 #[.pointer (some ⟨bo, 0, none⟩)] (fun c => c.id == m.client) w2 h1.custs rfl (by omega) (fun args w => by rfl) (fun x w' hb => deliver1_any x.d.id x.d.session x.d.next (.slice x.wo x.d.waits.length x.wc) m.client bo w' ((hb.cell (p := ⟨bo, 0, none⟩) (Array.getElem?_eq_some_iff.1 HO2.out).1).trans (five_cells HO2.out).1) (Nat.lt_of_lt_of_le (Array.getElem?_eq_some_iff.1 HO2.out).1 hb.size)))
  rw [show cs1.map (·.d) = t.custs from h1.clist] at CI
  clear h1
  go_wp2_with fail
  refine CI.out.mono ?_
  rintro e w ⟨rfl, hb3⟩
  have HB3 := ghid hb3
  have HH := ghid (HH2.out.below hb3)
  have HO : Hid (w.heap[bo]? = some (.cells #[.int .i64 m.client, .int .i64 m.seq, .int .i64 m.reply.code, .int .i64 m.reply.n, .string m.reply.text] 92 (0, 0))) := (hb3.block bo (Array.getElem?_eq_some_iff.1 HO2.out).1).trans HO2.out
  clear hb3 CI c0 c1 c2 c3 c4 c5 cf hpl o0 o1 o2 o3 o4
  obtain ⟨ix, hix⟩ : ∃ z, z = idxI (fun c : CustD => c.id == m.client) t.custs := ⟨_, rfl⟩
  rw [← hix]
  by_cases hneg : ix < 0
  · have hm1 : ix = -1 := by
      rw [hix] at hneg ⊢
      unfold idxI at hneg ⊢
      split at hneg
      · omega
      · rename_i h'; rw [if_neg h']
    have HRR : Hid (R = ({ t with mails := t.mails.eraseIdx k }, 6)) := HR.out.trans (deliver_away (t := { t with mails := t.mails.eraseIdx k }) (by rw [← hm1]; exact hix.symm))
    clear hix HR hm1
    go_wp2
    go_ret
    exact ⟨sret_int (by rw [HRR.out]), by rw [HRR.out]; exact HMV.out _ _ (MovedE.same ⟨_, _, _, _, _, _, HH2.out⟩ HB3.out)⟩
  · obtain ⟨i, rfl⟩ : ∃ i : Nat, ix = i := ⟨ix.toNat, by omega⟩
    have hil : i < t.custs.length := by
      unfold idxI at hix
      split at hix
      · omega
      · omega
    obtain ⟨c, hc⟩ : ∃ c, t.custs[i]? = some c := ⟨_, List.getElem?_eq_getElem hil⟩
    have hR2 := HR.out.trans (deliver_to (t := { t with mails := t.mails.eraseIdx k }) hix.symm hc)
    obtain ⟨x, hx, hxd, hxr⟩ := HH.out.cust (k := i) hc
    have hilc : i < cs1.length := (List.getElem?_eq_some_iff.1 hx).1
    obtain ⟨gc, cc2, e, hcx⟩ := HH.out.crow (k := i) hc
    simp only [Value.slice.injEq, true_and] at e
    obtain ⟨rfl, rfl⟩ := e
    obtain ⟨r0, r1, r2, r3, rf, hgl, -⟩ := HH.out.ccells rfl hx
    have HX := ghid hx
    have CS := ghid (fun (u : World) (hu : Below w.heap.size w u) => Hear_any x.val c m.client m.seq m.reply.code m.reply.n m.reply.text u u.heap.size ((hxr.below hu (Nat.le_refl _)).mono hu.size) (Nat.le_refl _))
    obtain ⟨se, hse⟩ : ∃ z, z = chearE c m.client m.seq m.reply.code m.reply.n := ⟨_, rfl⟩
    obtain ⟨sl, hsl⟩ : ∃ z, z = hearC c m.client m.seq m.reply.code m.reply.n := ⟨_, rfl⟩
    have HSL : Hid (se = 0 → sl = chearL c m.seq m.reply.code m.reply.n) := fun e => by
      rw [hsl]
      exact if_pos (hse ▸ e)
    rw [← hse] at CS hR2
    rw [← hsl] at CS
    have HR2 := ghid hR2
    obtain ⟨xd, xo, xc⟩ := x
    simp only [CustV.val] at r0 r1 r2 r3 CS
    obtain ⟨c0, c1, c2, c3, c4, c5, cf, hpl⟩ := six_cells HH.out.cells
    obtain ⟨o0, o1, o2, o3, o4⟩ := five_cells HO.out
    have hol : bo < w.heap.size := (Array.getElem?_eq_some_iff.1 HO.out).1
    have HOL := ghid hol
    have hp0 := hpl
    have hg0 := hgl
    have hbo0 := hol
    have HKL := ghid (fun g (hg : K1 g) => HH.out.lt hg)
    obtain ⟨cn, hcn2⟩ : ∃ z, z = cs1.length := ⟨_, rfl⟩
    have hk3 : (i : Int) < cn := by omega
    rw [← hcn2] at c1 HH
    clear hix hc hR2 hxd hxr hse hsl hx hil hcx HR hcn2 hcn hilc
    go_upto_region 6 with fail
    go_upto_region 7 with fail
    go_cut [7, 8] (fun pv evv wx => ∃ (bx ywc : Nat) (ywo : Option Addr), pv = .pointer (some ⟨bx, 0, none⟩) ∧ evv = .int .i64 se ∧ wx.heap[bx]? = some (.cells #[.int .i64 sl.id, .int .i64 sl.session, .int .i64 sl.next, .slice ywo sl.waits.length ywc] 55 (0, 0)) ∧ FirmK K1 wx (fun u => CustR u u.heap.size (.agg #[.int .i64 sl.id, .int .i64 sl.session, .int .i64 sl.next, .slice ywo sl.waits.length ywc]) sl) ∧ Below w.heap.size w wx)
    case first =>
      go_region_held3 (fun w' => w'.cell? ⟨p, 1, none⟩ = some (.slice (some ⟨gc, 0, none⟩) cn cc) ∧ w'.cell? ⟨gc, i * 4, none⟩ = some (.int .i64 xd.id) ∧ w'.cell? ⟨gc, i * 4 + 1, none⟩ = some (.int .i64 xd.session) ∧ w'.cell? ⟨gc, i * 4 + 2, none⟩ = some (.int .i64 xd.next) ∧ w'.cell? ⟨gc, i * 4 + 3, none⟩ = some (.slice xo xd.waits.length xc) ∧ w'.cell? ⟨bo, 0, none⟩ = some (.int .i64 m.client) ∧ w'.cell? ⟨bo, 1, none⟩ = some (.int .i64 m.seq) ∧ w'.cell? ⟨bo, 2, none⟩ = some (.int .i64 m.reply.code) ∧ w'.cell? ⟨bo, 3, none⟩ = some (.int .i64 m.reply.n) ∧ w'.cell? ⟨bo, 4, none⟩ = some (.string m.reply.text)) (go_keep)
        (first
          | (go_at_call 160; have hbu : Below w.heap.size w w.drew := (Below.refl w.heap.size w).drew; have hcs := CS.out w.drew hbu; (with_reducible refine hcs.mono ?_); clear hcs; rintro e w1 ⟨v1, rfl, hc1, hbi⟩; have HB1 := ghid (hbu.trans (hbi.mono hbu.size)); obtain ⟨ywo, ywc, rfl, -⟩ := id hc1; have HC1 := ghid hc1; have HG1 := ghid hbu.size; clear hc1; have hs1 := HB1.out.size; clear c0 c1 c2 c3 c4 c5 cf hpl r0 r1 r2 r3 rf hgl o0 o1 o2 o3 o4; obtain ⟨c0, c1, c2, c3, c4, c5, cf, hpl⟩ := six_cells (HH.out.below HB1.out).cells; obtain ⟨r0, r1, r2, r3, rf, hgl, -⟩ := (HH.out.below HB1.out).ccells rfl HX.out; obtain ⟨o0, o1, o2, o3, o4⟩ := five_cells ((HB1.out.block _ HOL.out).trans HO.out); clear hbi hbu)
          | (go_at_call 160; have hbu : Below w.heap.size w (w.alloc (.cells #[.int .i64 0, .int .i64 0, .int .i64 0, .slice none 0 0] 55)).drew := ((Below.refl w.heap.size w).alloc (Nat.le_refl _) (.cells #[.int .i64 0, .int .i64 0, .int .i64 0, .slice none 0 0] 55)).drew; have hAz : (w.alloc (.cells #[.int .i64 0, .int .i64 0, .int .i64 0, .slice none 0 0] 55)).drew.heap[w.heap.size]? = some (.cells #[.int .i64 0, .int .i64 0, .int .i64 0, .slice none 0 0] 55 (0, 0)) := heap_alloc_new w (.cells #[.int .i64 0, .int .i64 0, .int .i64 0, .slice none 0 0] 55); have hcs := CS.out (w.alloc (.cells #[.int .i64 0, .int .i64 0, .int .i64 0, .slice none 0 0] 55)).drew hbu; (with_reducible refine hcs.mono ?_); clear hcs; rintro e w1 ⟨v1, rfl, hc1, hbi⟩; have HB1 := ghid (hbu.trans (hbi.mono hbu.size)); have HLz1 := ghid (Array.getElem?_eq_some_iff.1 hAz).1; have HAz1 := ghid ((hbi.block _ (Array.getElem?_eq_some_iff.1 hAz).1).trans hAz); obtain ⟨ywo, ywc, rfl, -⟩ := id hc1; have HC1 := ghid hc1; have HG1 := ghid hbu.size; clear hc1; have hs1 := HB1.out.size; clear c0 c1 c2 c3 c4 c5 cf hpl r0 r1 r2 r3 rf hgl o0 o1 o2 o3 o4; obtain ⟨c0, c1, c2, c3, c4, c5, cf, hpl⟩ := six_cells (HH.out.below HB1.out).cells; obtain ⟨r0, r1, r2, r3, rf, hgl, -⟩ := (HH.out.below HB1.out).ccells rfl HX.out; obtain ⟨o0, o1, o2, o3, o4⟩ := five_cells ((HB1.out.block _ HOL.out).trans HO.out); obtain ⟨z0, z1, z2, z3, zf, zl⟩ := state_cells HAz1.out; have hnzp : p ≠ w.heap.size := (by omega); have hmzp : w.heap.size ≠ p := (by omega); have hnzgc : gc ≠ w.heap.size := (by omega); have hmzgc : w.heap.size ≠ gc := (by omega); have hnzbo : bo ≠ w.heap.size := (by omega); have hmzbo : w.heap.size ≠ bo := (by omega); clear hbi hbu hAz))
      all_goals
        go_wp2
        go_meet
        first
          | (have hA := heap_alloc_new w1 (.cells #[.int .i64 sl.id, .int .i64 sl.session, .int .i64 sl.next, .slice ywo sl.waits.length ywc] 55)
             have hC := ((HC1.out.keep (base' := w.heap.size) HG1.out (fun _ _ _ => rfl)).firmK (fun j hj => HKL.out j hj)).draw ((Below.refl w1.heap.size w1).alloc (Nat.le_refl _) (.cells #[.int .i64 sl.id, .int .i64 sl.session, .int .i64 sl.next, .slice ywo sl.waits.length ywc] 55))
             have hB := HB1.out.alloc HB1.out.size (.cells #[.int .i64 sl.id, .int .i64 sl.session, .int .i64 sl.next, .slice ywo sl.waits.length ywc] 55)
             with_reducible exact ⟨w1.heap.size, ywc, ywo, rfl, rfl, hA, hC, hB⟩)
          | (have hA := set4c HAz1.out (.int .i64 sl.id) (.int .i64 sl.session) (.int .i64 sl.next) (.slice ywo sl.waits.length ywc)
             have hC := ((HC1.out.put4 (m := w.heap.size) (p := w.heap.size) (by simp) HG1.out (.int .i64 sl.id) (.int .i64 sl.session) (.int .i64 sl.next) (.slice ywo sl.waits.length ywc)).keep (base' := w.heap.size) (Nat.le_refl _) (fun _ _ _ => rfl)).firmK (fun j hj => HKL.out j hj)
             have hB := zset4 HB1.out (Nat.le_refl w.heap.size) (.int .i64 sl.id) (.int .i64 sl.session) (.int .i64 sl.next) (.slice ywo sl.waits.length ywc)
             with_reducible exact ⟨w.heap.size, ywc, ywo, rfl, rfl, hA, hC, hB⟩)
    case rest =>
      obtain ⟨bx, ywc, ywo, rfl, rfl, hbx, hf, hbw⟩ := hcut
      have HBW := ghid hbw
      have HF := ghid hf
      have HM2 := ghid (HH.out.below hbw)
      clear c0 c1 c2 c3 c4 c5 cf hpl r0 r1 r2 r3 rf hgl o0 o1 o2 o3 o4
      obtain ⟨c0, c1, c2, c3, c4, c5, cf, hpl⟩ := six_cells HM2.out.cells
      obtain ⟨x0, x1, x2, x3, xf, xl⟩ := state_cells hbx
      clear hbx hf hbw CS
      by_cases he : se = 0
      · have HRR : Hid (R = (TownD.setCust { t with mails := t.mails.eraseIdx k } i (chearL c m.seq m.reply.code m.reply.n), 0)) := HR2.out.trans (if_neg (by simpa using he))
        have HSS : Hid (sl = chearL c m.seq m.reply.code m.reply.n) := HSL.out he
        subst he
        have CK := ghid (fun m => keepC_ok (HM2.out.below (g_drewN_below _ _ m)) odd_out rfl HX.out (y := ⟨sl, ywo, ywc⟩) (HF.out.draw (g_drewN_below _ _ m)))
        simp only [CustV.val] at CK
        clear HR2 HSL
        go_wp2_with fail
        go_region_with (first
          | (go_at_call 149; refine (CK.out _).mono ?_; rintro e w3 ⟨rfl, hm3⟩; have HM3 := ghid hm3; clear hm3))
        all_goals
          go_wp2
          go_ret
          exact ⟨sret_int (by rw [HRR.out]), by rw [HRR.out]; have := HMV.out _ _ (HM3.out.behind (HB3.out.trans ((HBW.out.trans (g_drewN_below _ _ _)).mono HB3.out.size))); rwa [HSS.out] at this⟩
      · have HRR : Hid (R = ({ t with mails := t.mails.eraseIdx k }, se)) := HR2.out.trans (if_pos he)
        have CK := ghid (fun u => keepC_bad ⟨gc, i * 4, none⟩ ⟨sl, ywo, ywc⟩ se he u)
        simp only [CustV.val] at CK
        clear HR2 HSL
        go_wp2_with fail
        go_region_with (first
          | (go_at_call 149; refine (CK.out _).mono ?_; rintro e w3 ⟨rfl, hm3⟩; have HM3 := ghid hm3; clear hm3))
        all_goals
          go_wp2
          go_ret
          exact ⟨sret_int (by rw [HRR.out]), by rw [HRR.out]; exact HMV.out _ _ (MovedE.same ⟨_, _, _, _, _, _, HH2.out⟩ (HB3.out.trans (((HBW.out.trans (g_drewN_below _ _ 1)).trans (HM3.out.mono HBW.out.size)).mono HB3.out.size)))⟩

end

end Go.Proofs.YtijilhbdbeajjaaGreatDoor

namespace Go.Proofs.YtijilhbdbeajjaaGreatDoor

open Go.RowKit

theorem eight_cells {w : World} {p : Nat} {x0 x1 x2 x3 x4 x5 x6 x7 : Value} {t : TypeId} (h : w.heap[p]? = some (.cells #[x0, x1, x2, x3, x4, x5, x6, x7] t (0, 0))) :
    w.cell? ⟨p, 0, none⟩ = some x0 ∧ w.cell? ⟨p, 1, none⟩ = some x1 ∧ w.cell? ⟨p, 2, none⟩ = some x2 ∧ w.cell? ⟨p, 3, none⟩ = some x3 ∧ w.cell? ⟨p, 4, none⟩ = some x4 ∧ w.cell? ⟨p, 5, none⟩ = some x5 ∧ w.cell? ⟨p, 6, none⟩ = some x6 ∧ w.cell? ⟨p, 7, none⟩ = some x7 ∧ p < w.heap.size :=
  ⟨cells_of h 0, cells_of h 1, cells_of h 2, cells_of h 3, cells_of h 4, cells_of h 5, cells_of h 6, cells_of h 7, (Array.getElem?_eq_some_iff.1 h).1⟩

theorem aquiet_at {P : Program} {f : FuncId} {args : Array Value} {v : Value} {X : Nat → World} (n : Nat) (h : Calls P f args (X n) fun e w' => e = .returned v ∧ w' = X n) :
    Calls P f args (X n) fun e w'' => e = .returned v ∧ ∃ m, w'' = X m := h.mono fun _ _ ⟨he, hm⟩ => ⟨he, n, hm⟩

/-- An act's numbers and texts are such that a machine can hold. -/
structure ActOk (a : ActD) : Prop where
  k : -9223372036854775808 ≤ a.k ∧ a.k ≤ 9223372036854775807
  oa : a.oa.size ≤ 140737488351232
  ob : a.ob.size ≤ 140737488351232

/-- An act's value. -/
def ActD.val (a : ActD) : Value := .agg #[.int .i64 a.kind, .int .i64 a.c, .int .i64 a.r, .int .i64 a.k, .int .i64 a.ok, .string a.oa, .string a.ob, .int .i64 a.on]

section

variable {gh g2 ev : Value} {w : World} {p : Nat} {K : Nat → Prop} {rv cv mv tv : Value} {xs : List RepV} {cs : List CustV} {t : TownD} {n : Nat}

set_option maxRecDepth 100000 in
set_option maxHeartbeats 6400000 in
theorem client_town (h : TownM 32 [gh, g2, ev] w p K rv cv mv tv xs cs t) (hT : TownG t n) (hn : n < 400) (a : ActD) (ha : ActOk a) (R : TownD × Int) (hR : R = t.client a) :
    Calls Tryz.prog 68 #[.pointer (some ⟨p, 0, none⟩), a.val] w fun e w' => e = .returned (.int .i64 R.2) ∧ MovedE 32 [gh, g2, ev] w w' p K R.1 := by
  obtain ⟨kind, c, r, k, ok, oa, ob, on⟩ := a
  obtain ⟨a1, a2, a3⟩ := ha
  simp only at a1 a2 a3 
  have hb0 : Below w.heap.size w (w.alloc (.cells #[.int .i64 kind, .int .i64 c, .int .i64 r, .int .i64 k, .int .i64 ok, .string oa, .string ob, .int .i64 on] 40)) := (Below.refl _ _).alloc (Nat.le_refl _) _
  have HB0 := ghid hb0
  have h1 := h.below hb0
  have HH := ghid h
  have HA0 := ghid (heap_alloc_new w (.cells #[.int .i64 kind, .int .i64 c, .int .i64 r, .int .i64 k, .int .i64 ok, .string oa, .string ob, .int .i64 on] 40))
  obtain ⟨c0, c1, c2, c3, c4, c5, cf, hpl⟩ := six_cells h.cells
  obtain ⟨b0, b1, b2, b3, b4, b5, b6, b7, bl⟩ := eight_cells HA0.out
  simp only [ActD.val]
  unfold TownD.client at hR
  simp only at hR
  obtain ⟨so, sc, rfl⟩ := grow_shape h1.custs
  have HR := ghid hR
  have hlen := h1.clen
  by_cases hp : 0 ≤ c ∧ c < cs.length
  · obtain ⟨i, rfl⟩ : ∃ i : Nat, c = i := ⟨c.toNat, by omega⟩
    have hil : i < t.custs.length := by omega
    obtain ⟨d, hd⟩ : ∃ d, t.custs[i]? = some d := ⟨_, List.getElem?_eq_getElem hil⟩
    have hgd : t.custs.getD i .zero = d := by rw [List.getD_eq_getElem?_getD, hd]; rfl
    rw [if_neg (by omega), Int.toNat_natCast, hgd] at hR
    have CP := ghid (fun u => isPlaceC_any so cs.length sc (i : Int) u)
    rw [show decide (0 ≤ (i : Int) ∧ (i : Int) < (cs.length : Int)) = true from decide_eq_true hp] at CP
    have hM := fun (m : Nat) => h1.below (g_drewN_below _ _ m)
    by_cases k1 : kind = 1
    · subst k1
      rw [if_pos rfl] at hR
      have CC := ghid (fun m => enter_town (hM m) hT.town (by omega) hd R hR)
      clear hR hM h1 h hd hgd hil hp hlen HR
      go_enter Tryz.func68, Tryz.ntmps68
      go_wp2_with fail
      go_quiet ((go_at_call 102; exact aquiet_at _ (CP.out _)))
      go_wp2_with fail
      refine (CC.out _).mono ?_
      rintro e w2 ⟨rfl, hm⟩
      have HM := ghid hm
      clear hm
      go_wp2
      go_ret
      exact ⟨rfl, HM.out.behind (HB0.out.trans (g_drewN_below _ _ _))⟩
    · by_cases k3 : kind = 3
      · subst k3
        rw [if_neg (by decide), if_pos rfl] at hR
        have CC := ghid (fun m => send_town (hM m) hT.town (by omega) hd k R hR)
        clear hR hM h1 h hd hgd hil hp hlen HR
        go_enter Tryz.func68, Tryz.ntmps68
        go_wp2_with fail
        go_quiet ((go_at_call 102; exact aquiet_at _ (CP.out _)))
        go_wp2_with fail
        refine (CC.out _).mono ?_
        rintro e w2 ⟨rfl, hm⟩
        have HM := ghid hm
        clear hm
        go_wp2
        go_ret
        exact ⟨rfl, HM.out.behind (HB0.out.trans (g_drewN_below _ _ _))⟩
      · rw [if_neg k1, if_neg k3] at hR
        have CC := ghid (fun m => start_town (hM m) hd ok on oa ob a2 a3 R hR)
        clear hR hM h1 h hd hgd hil hp hlen HR
        go_enter Tryz.func68, Tryz.ntmps68
        go_wp2_with fail
        go_quiet ((go_at_call 102; exact aquiet_at _ (CP.out _)))
        go_wp2_with fail
        refine (CC.out _).mono ?_
        rintro e w2 ⟨rfl, hm⟩
        have HM := ghid hm
        clear hm
        go_wp2
        go_ret
        exact ⟨rfl, HM.out.behind (HB0.out.trans (g_drewN_below _ _ _))⟩
  · have HRR : Hid (R = (t, 6)) := HR.out.trans (if_pos (by omega))
    have CP := ghid (fun u => isPlaceC_any so cs.length sc c u)
    rw [show decide (0 ≤ c ∧ c < (cs.length : Int)) = false from decide_eq_false hp] at CP
    clear hR h1 h hp hlen HR
    go_enter Tryz.func68, Tryz.ntmps68
    go_wp2_with fail
    go_quiet ((go_at_call 102; exact aquiet_at _ (CP.out _)))
    go_wp2
    go_ret
    exact ⟨sret_int (by rw [HRR.out]), by rw [HRR.out]; exact MovedE.same ⟨_, _, _, _, _, _, HH.out⟩ (HB0.out.trans (g_drewN_below _ _ _))⟩

set_option maxRecDepth 100000 in
set_option maxHeartbeats 6400000 in
theorem replica_town (h : TownM 32 [gh, g2, ev] w p K rv cv mv tv xs cs t) (hT : TownG t n) (hn : n < 400) (hml : t.mails.length ≤ 60) (a : ActD) (ha : ActOk a) (hkind : 4 ≤ a.kind ∧ a.kind ≤ 8) (R : TownD × Int) (hR : R = t.replica a) :
    Calls Tryz.prog 69 #[.pointer (some ⟨p, 0, none⟩), a.val] w fun e w' => e = .returned (.int .i64 R.2) ∧ MovedE 32 [gh, g2, ev] w w' p K R.1 := by
  obtain ⟨kind, c, r, k, ok, oa, ob, on⟩ := a
  obtain ⟨a1, a2, a3⟩ := ha
  simp only at a1 a2 a3 hkind
  have hb0 : Below w.heap.size w (w.alloc (.cells #[.int .i64 kind, .int .i64 c, .int .i64 r, .int .i64 k, .int .i64 ok, .string oa, .string ob, .int .i64 on] 40)) := (Below.refl _ _).alloc (Nat.le_refl _) _
  have HB0 := ghid hb0
  have h1 := h.below hb0
  have HH := ghid h
  have HA0 := ghid (heap_alloc_new w (.cells #[.int .i64 kind, .int .i64 c, .int .i64 r, .int .i64 k, .int .i64 ok, .string oa, .string ob, .int .i64 on] 40))
  obtain ⟨c0, c1, c2, c3, c4, c5, cf, hpl⟩ := six_cells h.cells
  obtain ⟨b0, b1, b2, b3, b4, b5, b6, b7, bl⟩ := eight_cells HA0.out
  simp only [ActD.val]
  unfold TownD.replica at hR
  simp only at hR
  obtain ⟨so, sc, rfl⟩ := grow_shape h1.reps
  have HR := ghid hR
  by_cases hp : 0 ≤ r ∧ r < 3
  · obtain ⟨i, rfl⟩ : ∃ i : Nat, r = i := ⟨r.toNat, by omega⟩
    have hi3 : i < 3 := by omega
    rw [if_neg (by omega), Int.toNat_natCast] at hR
    have CP := ghid (fun u => isPlaceR_any so 3 sc (i : Int) u)
    rw [show decide (0 ≤ (i : Int) ∧ (i : Int) < ((3 : Nat) : Int)) = true from decide_eq_true (by omega)] at CP
    have hM := fun (m : Nat) => h1.below (g_drewN_below _ _ m)
    have hgood := lead_good hT.town (by omega) hi3
    rcases (by omega : kind = 4 ∨ kind = 5 ∨ kind = 6 ∨ kind = 7 ∨ kind = 8) with rfl | rfl | rfl | rfl | rfl
    · rw [if_pos rfl] at hR
      have CC := ghid (fun m => ship_town (hM m) hT hn hi3 k a1 R hR)
      clear hR hM h1 h hp HR hgood
      go_enter Tryz.func69, Tryz.ntmps69
      go_wp2_with fail
      go_quiet ((go_at_call 106; exact aquiet_at _ (CP.out _)))
      go_wp2_with fail
      refine (CC.out _).mono ?_
      rintro e w2 ⟨rfl, hm⟩
      have HM := ghid hm
      clear hm
      go_wp2
      go_ret
      exact ⟨rfl, HM.out.behind (HB0.out.trans (g_drewN_below _ _ _))⟩
    · rw [if_neg (by decide), if_neg (by decide), if_pos rfl] at hR
      have CC := ghid (fun m => apply_town (hM m) hT hn hml hi3 k a1 R hR)
      clear hR hM h1 h hp HR hgood
      go_enter Tryz.func69, Tryz.ntmps69
      go_wp2_with fail
      go_quiet ((go_at_call 106; exact aquiet_at _ (CP.out _)))
      go_wp2_with fail
      refine (CC.out _).mono ?_
      rintro e w2 ⟨rfl, hm⟩
      have HM := ghid hm
      clear hm
      go_wp2
      go_ret
      exact ⟨rfl, HM.out.behind (HB0.out.trans (g_drewN_below _ _ _))⟩
    · rw [if_neg (by decide), if_neg (by decide), if_neg (by decide), if_pos rfl] at hR
      have CC := ghid (fun m => compact_town (hM m) hT.town (by omega) hi3 R hR)
      clear hR hM h1 h hp HR hgood
      go_enter Tryz.func69, Tryz.ntmps69
      go_wp2_with fail
      go_quiet ((go_at_call 106; exact aquiet_at _ (CP.out _)))
      go_wp2_with fail
      refine (CC.out _).mono ?_
      rintro e w2 ⟨rfl, hm⟩
      have HM := ghid hm
      clear hm
      go_wp2
      go_ret
      exact ⟨rfl, HM.out.behind (HB0.out.trans (g_drewN_below _ _ _))⟩
    · rw [if_neg (by decide), if_neg (by decide), if_neg (by decide), if_neg (by decide), if_neg (by simpa using hgood)] at hR
      have CC := ghid (fun m => crash_town (hM m) hT.town (by omega) hi3 R hR)
      clear hR hM h1 h hp HR hgood
      go_enter Tryz.func69, Tryz.ntmps69
      go_wp2_with fail
      go_quiet ((go_at_call 106; exact aquiet_at _ (CP.out _)))
      go_wp2_with fail
      refine (CC.out _).mono ?_
      rintro e w2 ⟨rfl, hm⟩
      have HM := ghid hm
      clear hm
      go_wp2
      go_ret
      exact ⟨rfl, HM.out.behind (HB0.out.trans (g_drewN_below _ _ _))⟩
    · rw [if_neg (by decide), if_pos rfl] at hR
      have CC := ghid (fun m => lead_town (hM m) hT.town (by omega) hi3 R hR)
      clear hR hM h1 h hp HR hgood
      go_enter Tryz.func69, Tryz.ntmps69
      go_wp2_with fail
      go_quiet ((go_at_call 106; exact aquiet_at _ (CP.out _)))
      go_wp2_with fail
      refine (CC.out _).mono ?_
      rintro e w2 ⟨rfl, hm⟩
      have HM := ghid hm
      clear hm
      go_wp2
      go_ret
      exact ⟨rfl, HM.out.behind (HB0.out.trans (g_drewN_below _ _ _))⟩
  · have HRR : Hid (R = (t, 6)) := HR.out.trans (if_pos (by omega))
    have CP := ghid (fun u => isPlaceR_any so 3 sc r u)
    rw [show decide (0 ≤ r ∧ r < ((3 : Nat) : Int)) = false from decide_eq_false (by omega)] at CP
    clear hR h1 h hp HR
    go_enter Tryz.func69, Tryz.ntmps69
    go_wp2_with fail
    go_quiet ((go_at_call 106; exact aquiet_at _ (CP.out _)))
    go_wp2
    go_ret
    exact ⟨sret_int (by rw [HRR.out]), by rw [HRR.out]; exact MovedE.same ⟨_, _, _, _, _, _, HH.out⟩ (HB0.out.trans (g_drewN_below _ _ _))⟩

set_option maxRecDepth 100000 in
set_option maxHeartbeats 6400000 in
theorem mail_town (h : TownM 32 [gh, g2, ev] w p K rv cv mv tv xs cs t) (hml : t.mails.length ≤ 60) (hcl : t.custs.length ≤ 9) (a : ActD) (ha : ActOk a) (hkind : 9 ≤ a.kind ∧ a.kind ≤ 11) (R : TownD × Int) (hR : R = t.mailed a) :
    Calls Tryz.prog 70 #[.pointer (some ⟨p, 0, none⟩), a.val] w fun e w' => e = .returned (.int .i64 R.2) ∧ MovedE 32 [gh, g2, ev] w w' p K R.1 := by
  obtain ⟨kind, c, r, k, ok, oa, ob, on⟩ := a
  obtain ⟨a1, a2, a3⟩ := ha
  simp only at a1 a2 a3 hkind
  have hb0 : Below w.heap.size w (w.alloc (.cells #[.int .i64 kind, .int .i64 c, .int .i64 r, .int .i64 k, .int .i64 ok, .string oa, .string ob, .int .i64 on] 40)) := (Below.refl _ _).alloc (Nat.le_refl _) _
  have HB0 := ghid hb0
  have h1 := h.below hb0
  have HH := ghid h
  have HA0 := ghid (heap_alloc_new w (.cells #[.int .i64 kind, .int .i64 c, .int .i64 r, .int .i64 k, .int .i64 ok, .string oa, .string ob, .int .i64 on] 40))
  obtain ⟨c0, c1, c2, c3, c4, c5, cf, hpl⟩ := six_cells h.cells
  obtain ⟨b0, b1, b2, b3, b4, b5, b6, b7, bl⟩ := eight_cells HA0.out
  simp only [ActD.val]
  unfold TownD.mailed at hR
  simp only at hR
  obtain ⟨so, sc, rfl⟩ := grow_shape h1.mails
  have HR := ghid hR
  by_cases hp : 0 ≤ k ∧ k < t.mails.length
  · obtain ⟨i, rfl⟩ : ∃ i : Nat, k = i := ⟨k.toNat, by omega⟩
    have hil : i < t.mails.length := by omega
    obtain ⟨d, hd⟩ : ∃ d, t.mails[i]? = some d := ⟨_, List.getElem?_eq_getElem hil⟩
    have hgd : t.mails.getD i ⟨0, 0, ⟨0, 0, ⟨#[]⟩⟩⟩ = d := by rw [List.getD_eq_getElem?_getD, hd]; rfl
    rw [if_neg (by omega), Int.toNat_natCast, hgd] at hR
    have CP := ghid (fun u => isPlaceM_any so t.mails.length sc (i : Int) u)
    rw [show decide (0 ≤ (i : Int) ∧ (i : Int) < (t.mails.length : Int)) = true from decide_eq_true hp] at CP
    have hM := fun (m : Nat) => h1.below (g_drewN_below _ _ m)
    rcases (by omega : kind = 9 ∨ kind = 10 ∨ kind = 11) with rfl | rfl | rfl
    · rw [if_neg (by decide), if_neg (by decide)] at hR
      have CC := ghid (fun m => deliver_town (hM m) hml hcl hd R hR)
      clear hR hM h1 h hd hgd hil hp hcl HR
      go_enter Tryz.func70, Tryz.ntmps70
      go_wp2_with fail
      go_quiet ((go_at_call 112; exact aquiet_at _ (CP.out _)))
      go_wp2_with fail
      refine (CC.out _).mono ?_
      rintro e w2 ⟨rfl, hm⟩
      have HM := ghid hm
      clear hm
      go_wp2
      go_ret
      exact ⟨rfl, HM.out.behind (HB0.out.trans (g_drewN_below _ _ _))⟩
    · rw [if_neg (by decide), if_pos rfl] at hR
      have HRR := ghid hR
      have CC := ghid (fun m => drop_town (hM m) hml hil)
      clear hR hM h1 h hd hgd hil hp hcl HR
      go_enter Tryz.func70, Tryz.ntmps70
      go_wp2_with fail
      go_quiet ((go_at_call 112; exact aquiet_at _ (CP.out _)))
      go_wp2_with fail
      refine (CC.out _).mono ?_
      rintro e w2 ⟨rfl, hm⟩
      have HM := ghid hm
      clear hm
      go_wp2
      go_ret
      exact ⟨sret_int (by rw [HRR.out]), by rw [HRR.out]; exact HM.out.behind (HB0.out.trans (g_drewN_below _ _ _))⟩
    · rw [if_pos rfl] at hR
      have CC := ghid (fun m => copyMail_town (hM m) hml hd R hR)
      clear hR hM h1 h hd hgd hil hp hcl HR
      go_enter Tryz.func70, Tryz.ntmps70
      go_wp2_with fail
      go_quiet ((go_at_call 112; exact aquiet_at _ (CP.out _)))
      go_wp2_with fail
      refine (CC.out _).mono ?_
      rintro e w2 ⟨rfl, hm⟩
      have HM := ghid hm
      clear hm
      go_wp2
      go_ret
      exact ⟨rfl, HM.out.behind (HB0.out.trans (g_drewN_below _ _ _))⟩
  · have HRR : Hid (R = (t, 6)) := HR.out.trans (if_pos (by omega))
    have CP := ghid (fun u => isPlaceM_any so t.mails.length sc k u)
    rw [show decide (0 ≤ k ∧ k < (t.mails.length : Int)) = false from decide_eq_false hp] at CP
    clear hR h1 h hp hcl HR
    go_enter Tryz.func70, Tryz.ntmps70
    go_wp2_with fail
    go_quiet ((go_at_call 112; exact aquiet_at _ (CP.out _)))
    go_wp2
    go_ret
    exact ⟨sret_int (by rw [HRR.out]), by rw [HRR.out]; exact MovedE.same ⟨_, _, _, _, _, _, HH.out⟩ (HB0.out.trans (g_drewN_below _ _ _))⟩

set_option maxRecDepth 100000 in
set_option maxHeartbeats 6400000 in
theorem do_town (h : TownM 32 [gh, g2, ev] w p K rv cv mv tv xs cs t) (hT : TownG t n) (hn : n < 400) (hml : t.mails.length ≤ 60) (hcl : t.custs.length ≤ 9) (a : ActD) (ha : ActOk a) (R : TownD × Int) (hR : R = t.step a) :
    Calls Tryz.prog 39 #[.pointer (some ⟨p, 0, none⟩), a.val] w fun e w' => e = .returned (.int .i64 R.2) ∧ MovedE 32 [gh, g2, ev] w w' p K R.1 := by
  have HH := ghid h
  have hb0 : Below w.heap.size w (w.alloc (.cells #[.int .i64 a.kind, .int .i64 a.c, .int .i64 a.r, .int .i64 a.k, .int .i64 a.ok, .string a.oa, .string a.ob, .int .i64 a.on] 40)) := (Below.refl _ _).alloc (Nat.le_refl _) _
  have HB0 := ghid hb0
  have h1 := h.below hb0
  unfold TownD.step at hR
  by_cases g1 : 1 ≤ a.kind ∧ a.kind ≤ 3
  · rw [if_pos g1] at hR
    have CC := ghid (client_town h1 hT hn a ha R hR)
    obtain ⟨kind, c, r, k, ok, oa, ob, on⟩ := a
    simp only [ActD.val] at CC g1 HB0 ⊢
    clear hR h1 h hb0 ha hml hcl
    rcases (by omega : kind = 1 ∨ kind = 2 ∨ kind = 3) with rfl | rfl | rfl
    all_goals
      clear g1
      go_enter Tryz.func39, Tryz.ntmps39
      go_wp2_with fail
      refine CC.out.mono ?_
      rintro e w2 ⟨rfl, hm⟩
      have HM := ghid hm
      clear hm
      go_wp2
      go_ret
      exact ⟨rfl, HM.out.behind HB0.out⟩
  · rw [if_neg g1] at hR
    by_cases g2 : 4 ≤ a.kind ∧ a.kind ≤ 8
    · rw [if_pos g2] at hR
      have CC := ghid (replica_town h1 hT hn hml a ha g2 R hR)
      obtain ⟨kind, c, r, k, ok, oa, ob, on⟩ := a
      simp only [ActD.val] at CC g2 HB0 ⊢
      clear hR h1 h hb0 ha hml hcl g1
      rcases (by omega : kind = 4 ∨ kind = 5 ∨ kind = 6 ∨ kind = 7 ∨ kind = 8) with rfl | rfl | rfl | rfl | rfl
      all_goals
        clear g2
        go_enter Tryz.func39, Tryz.ntmps39
        go_wp2_with fail
        refine CC.out.mono ?_
        rintro e w2 ⟨rfl, hm⟩
        have HM := ghid hm
        clear hm
        go_wp2
        go_ret
        exact ⟨rfl, HM.out.behind HB0.out⟩
    · rw [if_neg g2] at hR
      by_cases g3 : 9 ≤ a.kind ∧ a.kind ≤ 11
      · rw [if_pos g3] at hR
        have CC := ghid (mail_town h1 hml hcl a ha g3 R hR)
        obtain ⟨kind, c, r, k, ok, oa, ob, on⟩ := a
        simp only [ActD.val] at CC g3 HB0 ⊢
        clear hR h1 h hb0 ha hml hcl g1 g2
        rcases (by omega : kind = 9 ∨ kind = 10 ∨ kind = 11) with rfl | rfl | rfl
        all_goals
          clear g3
          go_enter Tryz.func39, Tryz.ntmps39
          go_wp2_with fail
          refine CC.out.mono ?_
          rintro e w2 ⟨rfl, hm⟩
          have HM := ghid hm
          clear hm
          go_wp2
          go_ret
          exact ⟨rfl, HM.out.behind HB0.out⟩
      · rw [if_neg g3] at hR
        have HR := ghid hR
        obtain ⟨kind, c, r, k, ok, oa, ob, on⟩ := a
        simp only [ActD.val] at g1 g2 g3 HB0 ⊢
        have n1 : ¬ kind = 1 := by omega
        have n2 : ¬ kind = 2 := by omega
        have n3 : ¬ kind = 3 := by omega
        have n4 : ¬ kind = 4 := by omega
        have n5 : ¬ kind = 5 := by omega
        have n6 : ¬ kind = 6 := by omega
        have n7 : ¬ kind = 7 := by omega
        have n8 : ¬ kind = 8 := by omega
        have n9 : ¬ kind = 9 := by omega
        have n10 : ¬ kind = 10 := by omega
        have n11 : ¬ kind = 11 := by omega
        clear hR h1 h hb0 ha hml hcl g1 g2 g3
        go_enter Tryz.func39, Tryz.ntmps39
        go_wp2
        go_ret
        exact ⟨sret_int (by rw [HR.out]), by rw [HR.out]; exact MovedE.same ⟨_, _, _, _, _, _, HH.out⟩ HB0.out⟩

end

end Go.Proofs.YtijilhbdbeajjaaGreatDoor

namespace Go.Proofs.YtijilhbdbeajjaaGreatDoor

open Go.RowKit

theorem New_ok (n : Int) (w : World) (h : 1 ≤ n ∧ n ≤ 9) :
    Calls Tryz.prog 67 #[.int .i64 n] w fun e w' => e = .returned (.tuple #[.agg #[.int .i64 n, .int .i64 0, .int .i64 1, .slice none 0 0], .int .i64 0]) ∧ Below w.heap.size w w' := by
  go_enter Tryz.func67, Tryz.ntmps67
  go_wp2_with fail
  refine (cuClient_yes n _ h).mono ?_
  rintro e w1 ⟨rfl, rfl⟩
  go_wp2
  refine bodyPost_ret (v := .tuple #[.agg #[.int .i64 n, .int .i64 0, .int .i64 1, .slice none 0 0], .int .i64 0]) (by simp [results, Tryz.results67, go_sem]) rfl ?_
  exact ⟨rfl, (Below.refl _ _).alloc (Nat.le_refl _) _⟩

end Go.Proofs.YtijilhbdbeajjaaGreatDoor

namespace Go.Proofs.YtijilhbdbeajjaaGreatDoor

open Go.RowKit

theorem touch6 {w : World} (p : Nat) (a0 a1 a2 a3 a4 a5 : Value) : TouchG w ((((((w.setCell ⟨p, 0, none⟩ a0).setCell ⟨p, 1, none⟩ a1).setCell ⟨p, 2, none⟩ a2).setCell ⟨p, 3, none⟩ a3).setCell ⟨p, 4, none⟩ a4).setCell ⟨p, 5, none⟩ a5) (fun b => b = p) :=
  putN_touch p [a0, a1, a2, a3, a4, a5] 0 w

theorem zset6 {B : Nat} {w0 w : World} (h : Below B w0 w) {b : Nat} (hb : B ≤ b) (a0 a1 a2 a3 a4 a5 : Value) : Below B w0 ((((((w.setCell ⟨b, 0, none⟩ a0).setCell ⟨b, 1, none⟩ a1).setCell ⟨b, 2, none⟩ a2).setCell ⟨b, 3, none⟩ a3).setCell ⟨b, 4, none⟩ a4).setCell ⟨b, 5, none⟩ a5) :=
  (((((h.setCell (by simpa using hb) a0).setCell (by simpa using hb) a1).setCell (by simpa using hb) a2).setCell (by simpa using hb) a3).setCell (by simpa using hb) a4).setCell (by simpa using hb) a5

def zrepV : RepV := ⟨.zero, none, none, none, none, 0, 0, 0, 0, 0, 0, 0⟩

def newV (n : Nat) : List CustV := (List.range n).map fun (j : Nat) => ⟨⟨(j : Int) + 1, 0, 1, []⟩, none, 0⟩

theorem Tryz.infoCustomer : (Tryz.prog.info? 55).map (fun i => (i.zero, i.size, i.bytes)) = some (some (.agg #[.int .i64 0, .int .i64 0, .int .i64 0, .slice none 0 0]), 4, 48) := by kernel_rfl

theorem Tryz.infoErrno : (Tryz.prog.info? 33).map (fun i => (i.zero, i.size, i.bytes)) = some (some (.int .i64 0), 1, 8) := by kernel_rfl

theorem newV_len (n : Nat) : (newV n).length = n := by simp [newV]

theorem newV_flat (n : Nat) : flatG custCells (newV (n + 1)) = flatG custCells (newV n) ++ [.int .i64 ((n : Int) + 1), .int .i64 0, .int .i64 1, .slice none 0 0] := by
  unfold newV
  rw [List.range_succ, List.map_append, List.map_singleton, flatG_snoc]
  rfl

theorem newV_one (n : Nat) : ∀ u ∈ ([.int .i64 ((n : Int) + 1), .int .i64 0, .int .i64 1, .slice none 0 0] : List Value), u.oneCell' = true := by
  intro u hu
  simp only [List.mem_cons, List.not_mem_nil, or_false] at hu
  rcases hu with rfl | rfl | rfl | rfl <;> rfl

set_option maxRecDepth 100000 in
set_option maxHeartbeats 3200000 in
theorem begin_any (n : Nat) (w : World) (hn : 1 ≤ n ∧ n ≤ 9) :
    Calls Tryz.prog 38 #[.int .i64 n] w fun e w' => ∃ rb co cc, e = .returned (.agg #[.slice (some ⟨rb, 0, none⟩) 3 3, .slice co n cc, .slice none 0 0, .slice none 0 0, .int .i64 0, .slice none 0 0]) ∧ w'.ownsRow w.heap.size 50 7 (.slice (some ⟨rb, 0, none⟩) 3 3) 3 (flatG repCells [zrepV, zrepV, zrepV]) ∧ w'.ownsRow w.heap.size 55 4 (.slice co n cc) n (flatG custCells (newV n)) ∧ Below w.heap.size w w' := by
  obtain ⟨i0, hi, hz0, hz1, hz2⟩ := info_parts Tryz.infoCustomer
  have hmk : ∀ u : World, (Instr.makeSlice 26 (.int .i64 3) (.int .i64 3)).run Tryz.prog u = .ok (.slice (some ⟨u.heap.size, 0, none⟩) 3 3) (u.alloc (.cells (flatG repCells [zrepV, zrepV, zrepV]).toArray 50)) := fun _ => by kernel_rfl
  obtain ⟨A0, hA0⟩ : ∃ x, x = (.cells (flatG repCells [zrepV, zrepV, zrepV]).toArray 50 : Obj) := ⟨_, rfl⟩
  rw [← hA0] at hmk
  obtain ⟨ho0, hr0, hx0⟩ := three_newC (w := w) (A := (.cells #[.slice none 0 0, .slice none 0 0, .slice none 0 0, .slice none 0 0, .int .i64 0, .slice none 0 0] 32)) (R := A0) (S := (.cells #[.slice (some ⟨w.heap.size + 1, 0, none⟩) 3 3, .slice none 0 0, .slice none 0 0, .slice none 0 0, .int .i64 0, .slice none 0 0] 32)) (Below.refl _ _)
  have HO0 := ghid ho0
  have HR0 := ghid hr0
  have HX0 := ghid hx0
  have HZ : Hid (Below w.heap.size w (((w.alloc (.cells #[.slice none 0 0, .slice none 0 0, .slice none 0 0, .slice none 0 0, .int .i64 0, .slice none 0 0] 32)).alloc A0).alloc (.cells #[.slice (some ⟨w.heap.size + 1, 0, none⟩) 3 3, .slice none 0 0, .slice none 0 0, .slice none 0 0, .int .i64 0, .slice none 0 0] 32))) := (((Below.refl _ _).alloc (Nat.le_refl _) _).alloc (by simp) _).alloc (by simp; omega) _
  have HA := ghid hA0
  clear ho0 hr0 hx0 hA0
  go_enter Tryz.func38, Tryz.ntmps38
  go_wp2_with fail
  go_loopw [4] (fun i wr => ∃ (k : Nat) (co : Option Addr) (cc : Nat), k ≤ n ∧ i = .int .i64 ((k : Int) + 1) ∧ wr.ownsRow w.heap.size 55 4 (.slice co k cc) k (flatG custCells (newV k)) ∧ wr.heap[w.heap.size]? = some (.cells #[.slice none 0 0, .slice none 0 0, .slice none 0 0, .slice none 0 0, .int .i64 0, .slice none 0 0] 32 (0, 0)) ∧ wr.heap[w.heap.size + 1]? = some A0 ∧ wr.heap[w.heap.size + 1 + 1]? = some (.cells #[.slice (some ⟨w.heap.size + 1, 0, none⟩) 3 3, .slice co k cc, .slice none 0 0, .slice none 0 0, .int .i64 0, .slice none 0 0] 32 (0, 0)) ∧ Below w.heap.size w wr) (fun i _ => n + 1 - (intOf i).toNat)
  case atStart => exact ⟨0, none, 0, by omega, rfl, ⟨rfl, .inl ⟨rfl, rfl⟩⟩, HO0.out, HR0.out, HX0.out, HZ.out⟩
  case round =>
    clear HO0 HR0 HX0 HZ hmk
    obtain ⟨k, co, cc, hk, rfl, hown, ho, hr, hx, hb⟩ := hrel
    have HO := ghid ho
    have HR := ghid hr
    have HX := ghid hx
    have HB := ghid hb
    have HW := ghid hown
    have hzr : w.heap.size ≤ wr.heap.size := hb.size
    by_cases hlt : k < n
    · have hltI : (k : Int) + 1 ≤ (n : Int) := by omega
      clear hown ho hr hx hb
      go_wp2_with fail
      refine (New_ok ((k : Int) + 1) _ (by omega)).mono ?_
      rintro e w1 ⟨rfl, hb1⟩
      have hq : Below wr.heap.size wr (w1.alloc (.cells #[.int .i64 ((k : Int) + 1), .int .i64 0, .int .i64 1, .slice none 0 0] 55)) := hb1.trans (((Below.refl _ _).alloc (Nat.le_refl _) _).mono hb1.size)
      have HW1 := ghid (grow_below HW.out hq (Nat.le_refl _))
      have HX1 := ghid (behind HX.out (Below.refl _ _) hq)
      have HO1 := ghid (behind HO.out (Below.refl _ _) hq)
      have HR1 := ghid (behind HR.out (Below.refl _ _) hq)
      have HB1 := ghid (HB.out.trans (hq.mono hzr))
      have hzw : wr.heap.size ≤ w1.heap.size := hb1.size
      obtain ⟨c0, c1, c2, c3, c4, c5, cf, cl⟩ := six_cells HX1.out
      obtain ⟨n0, n1, n2, n3, nf, nl⟩ := state_cells (heap_alloc_new w1 (.cells #[.int .i64 ((k : Int) + 1), .int .i64 0, .int .i64 1, .slice none 0 0] 55))
      have hn1 := heap_alloc_new (w1.alloc (.cells #[.int .i64 ((k : Int) + 1), .int .i64 0, .int .i64 1, .slice none 0 0] 55)) (.cells #[.int .i64 ((k : Int) + 1), .int .i64 0, .int .i64 1, .slice none 0 0] 55)
      rw [World.size_alloc] at hn1
      have HN1 := ghid hn1
      clear hb1 hq hn1
      go_wp2_with (at_builtin; refine wpList_append_lies _ rfl (.tmp 20) (.tmp 22) 27 rfl w.heap.size 55 i0 _ 4 48 Tryz.underlying27 hi hz0 hz1 hz2 rfl (by decide) (.slice co k cc) k (flatG custCells (newV k)) rfl (HW1.out.alloc _) ⟨w1.heap.size + 1, 0, none⟩ 1 1 [.int .i64 ((k : Int) + 1), .int .i64 0, .int .i64 1, .slice none 0 0] rfl rfl (World.news_of_block HN1.out) (newV_one k) (by omega) (by unfold maxLen; omega) (by omega) (by simp; omega) (w1.heap.size + 1 + 1) (by simp) ?_)
      intro gn cn w3 hown3 hg3 hat3 hlt3
      have hne : ∀ j, Value.ownBlock (.slice co k cc) = some j → ∃ c, (w1.alloc (.cells #[.int .i64 ((k : Int) + 1), .int .i64 0, .int .i64 1, .slice none 0 0] 55)).heap[j]? = some (.cells c 55 (0, 0)) := fun j hj => grow_tag HW1.out hj
      have hkeep : ∀ (j : Nat) (o : Obj), j < w1.heap.size → (∀ c, o ≠ .cells c 55 (0, 0)) → (w1.alloc (.cells #[.int .i64 ((k : Int) + 1), .int .i64 0, .int .i64 1, .slice none 0 0] 55)).heap[j]? = some o → w3.heap[j]? = some o := fun j o hj ho he => by
        refine (hg3.block j (by simp; omega) fun e => ?_).trans ((Below.heap_alloc _ _ _ (by simp; omega)).trans he)
        obtain ⟨c, hc⟩ := hne j e.symm
        rw [he] at hc
        exact ho c (by simpa using hc)
      have hl0 := (Array.getElem?_eq_some_iff.1 HX.out).1
      have HX3 := ghid (hkeep (w.heap.size + 1 + 1) _ (by omega) (by intro c e; simp at e) HX1.out)
      have HO3 := ghid (hkeep w.heap.size _ (by omega) (by intro c e; simp at e) HO1.out)
      have HR3 : Hid (w3.heap[w.heap.size + 1]? = some A0) := hkeep (w.heap.size + 1) _ (by omega) (by intro c e; rw [HA.out] at e; simp at e) HR1.out
      have HB3 := ghid ((HB1.out.alloc HB1.out.size (.cells #[.int .i64 ((k : Int) + 1), .int .i64 0, .int .i64 1, .slice none 0 0] 55)).grown hg3 (by simp; omega) (fun j hj => (HW1.out.lt j hj).1))
      have HW3 : Hid (w3.ownsRow w.heap.size 55 4 (.slice (some ⟨gn, 0, none⟩) (k + 1) cn) (k + 1) (flatG custCells (newV (k + 1)))) := by
        unfold Hid
        rw [newV_flat]
        simpa using hown3
      have hgx : gn ≠ w.heap.size + 1 + 1 := fun e => by
        obtain ⟨c, hc⟩ := grow_tag HW3.out (g := gn) rfl
        rw [e, HX3.out] at hc
        simp at hc
      clear hown3 hg3 hat3 hlt3 hkeep hne c0 c1 c2 c3 c4 c5 cf cl n0 n1 n2 n3 nf nl
      obtain ⟨c0, c1, c2, c3, c4, c5, cf, cl⟩ := six_cells HX3.out
      go_wp2
      go_roundw
      case rel =>
        refine ⟨k + 1, some ⟨gn, 0, none⟩, cn, by omega, by go_num, grow_keep HW3.out fun j hj => ?_, ?_, ?_, ?_, HB3.out.setCell (by simp; omega) _⟩
        · have e : gn = j := by simpa [Value.ownBlock] using hj
          subst e
          exact heap_setCell_other _ _ _ _ (by simpa using hgx)
        · exact (heap_setCell_other _ _ _ _ (by simp; omega)).trans HO3.out
        · exact (heap_setCell_other _ _ _ _ (by simp)).trans HR3.out
        · exact heap_set HX3.out _
      case measure => simp [intOf]; omega
    · have hkl : k = n := by omega
      subst hkl
      have hltI : ¬ (k : Int) + 1 ≤ (k : Int) := by omega
      obtain ⟨c0, c1, c2, c3, c4, c5, cf, cl⟩ := six_cells hx
      obtain ⟨o0, o1, o2, o3, o4, o5, of, ol⟩ := six_cells ho
      clear hown ho hr hx hb
      go_wp2
      refine bodyPost_ret (v := .agg #[.slice (some ⟨w.heap.size + 1, 0, none⟩) 3 3, .slice co k cc, .slice none 0 0, .slice none 0 0, .int .i64 0, .slice none 0 0]) (by simp [results, Tryz.results38, go_sem, o0, o1, o2, o3, o4, o5]) rfl ?_
      have ht := touch6 (w := wr) w.heap.size (.slice (some ⟨w.heap.size + 1, 0, none⟩) 3 3) (.slice co k cc) (.slice none 0 0) (.slice none 0 0) (.int .i64 0) (.slice none 0 0)
      have hrow : wr.ownsRow w.heap.size 50 7 (.slice (some ⟨w.heap.size + 1, 0, none⟩) 3 3) 3 (flatG repCells [zrepV, zrepV, zrepV]) := ⟨by rfl, .inr ⟨w.heap.size + 1, 3, _, rfl, by omega, HR.out.trans (congrArg some HA.out), by omega, by unfold maxLen; omega, by rfl, by rfl⟩⟩
      exact ⟨_, _, _, rfl, grow_other hrow HO.out (by decide) ht, grow_other HW.out HO.out (by decide) ht, zset6 HB.out (Nat.le_refl _) _ _ _ _ _ _⟩

end Go.Proofs.YtijilhbdbeajjaaGreatDoor

namespace Go.Proofs.YtijilhbdbeajjaaGreatDoor

open Go.RowKit

theorem mb_commit1_mails (t : TownD) (k : Nat) : (t.commit1 k).mails = t.mails := by
  unfold TownD.commit1
  split <;> rfl

theorem mb_commit_mails (t : TownD) : t.commit.mails = t.mails := by
  unfold TownD.commit
  rw [mb_commit1_mails, mb_commit1_mails, mb_commit1_mails]

theorem mb_added_mails (t : TownD) (e : Int) (s : ByteArray) : (t.added e s).1.mails = t.mails := by
  unfold TownD.added
  split
  · rfl
  · split <;> rfl

theorem mb_client_mails (t : TownD) (a : ActD) : (t.client a).1.mails = t.mails := by
  unfold TownD.client
  split
  · rfl
  · dsimp only
    split
    · exact mb_added_mails _ _ _
    · split
      · exact mb_added_mails _ _ _
      · split <;> rfl

theorem mb_ship_mails (t : TownD) (k : Nat) (m : Int) : (t.ship k m).1.mails = t.mails := by
  rw [ship_is]
  split
  · rfl
  · split
    · rfl
    · exact mb_commit_mails _

theorem mb_apply_mails (t : TownD) (k : Nat) (m : Int) (h : t.mails.length ≤ 60) : (t.apply k m).1.mails.length ≤ 60 := by
  unfold TownD.apply
  split
  · exact h
  · split
    · exact h
    · show (if k = t.leader then _ else _ : List MailD).length ≤ 60
      split
      · rw [List.length_append, List.length_take]; omega
      · exact h

theorem mb_replica_mails (t : TownD) (a : ActD) (h : t.mails.length ≤ 60) : (t.replica a).1.mails.length ≤ 60 := by
  unfold TownD.replica
  split
  · exact h
  · split
    · rw [mb_ship_mails]; exact h
    · split
      · split
        · exact h
        · rw [mb_commit_mails]; exact h
      · split
        · exact mb_apply_mails _ _ _ h
        · split
          · split
            · exact h
            · exact h
          · split
            · exact h
            · exact h

theorem mb_deliver_mails (t : TownD) (m : MailD) : (t.deliver m).1.mails = t.mails := by
  unfold TownD.deliver
  split
  · dsimp only
    split <;> rfl
  · rfl

theorem mb_mailed_mails (t : TownD) (a : ActD) (h : t.mails.length ≤ 60) : (t.mailed a).1.mails.length ≤ 60 := by
  have he : (t.mails.eraseIdx a.k.toNat).length ≤ 60 := Nat.le_trans (List.length_eraseIdx_le _ _) h
  unfold TownD.mailed
  split
  · exact h
  · dsimp only
    split
    · split
      · exact h
      · simp only [List.length_append, List.length_singleton]; omega
    · split
      · exact he
      · rw [mb_deliver_mails]; exact he

theorem mb_step_mails (t : TownD) (a : ActD) (h : t.mails.length ≤ 60) : (t.step a).1.mails.length ≤ 60 := by
  unfold TownD.step
  split
  · rw [mb_client_mails]; exact h
  · split
    · exact mb_replica_mails t a h
    · split
      · exact mb_mailed_mails t a h
      · exact h

/-- Behind one more act. -/
theorem mb_run_snoc (t : TownD) (l : List ActD) (a : ActD) : t.run (l ++ [a]) = (((t.run l).1.step a).1, (t.run l).2 ++ [((t.run l).1.step a).2]) := by
  rw [TownD.run_append]
  rfl

/-- The town at first. -/
theorem town_first {w : World} {g2 : Value} {p r rb : Nat} {co : Option Addr} {cc n : Nat} (hr : w.ownsRow 0 50 7 (.slice (some ⟨rb, 0, none⟩) 3 3) 3 (flatG repCells [zrepV, zrepV, zrepV])) (hc : w.ownsRow 0 55 4 (.slice co n cc) n (flatG custCells (newV n)))
    (hp : w.heap[p]? = some (.cells #[.slice (some ⟨rb, 0, none⟩) 3 3, .slice co n cc, .slice none 0 0, .slice none 0 0, .int .i64 0, .slice none 0 0] 32 (0, 0))) (hg : ∃ c, w.heap[r]? = some (.cells c 32 (0, 0))) (hne : r ≠ p) (hg2 : ∀ g, g2.ownBlock = some g → (∃ c fr, w.heap[g]? = some (.cells c 32 fr)) ∧ g ≠ p) :
    ∃ K, TownM 32 [.slice (some ⟨r, 0, none⟩) 0 0, g2, .slice none 0 0] w p K (.slice (some ⟨rb, 0, none⟩) 3 3) (.slice co n cc) (.slice none 0 0) (.slice none 0 0) [zrepV, zrepV, zrepV] (newV n) (town0 n) := by
  refine ⟨_, ⟨hp, fun g => Iff.rfl, hr, by rw [newV_len]; exact hc, ⟨rfl, .inl ⟨rfl, rfl⟩⟩, ⟨rfl, .inl ⟨rfl, rfl⟩⟩, fun v hv g e => ?_, fun v hv e => ?_, rfl, ?_, rfl, fun k x hx => ?_, fun k x hx => ?_, fun x hx => (by cases hx), fun x hx => (by cases hx)⟩⟩
  · simp only [List.mem_cons, List.not_mem_nil, or_false] at hv
    rcases hv with rfl | rfl | rfl
    · simp only [Value.ownBlock, Option.some.injEq] at e
      subst e
      obtain ⟨c, hc⟩ := hg
      exact ⟨_, _, _, hc, .inr rfl⟩
    · obtain ⟨⟨c, fr, hc⟩, -⟩ := hg2 g e
      exact ⟨_, _, _, hc, .inr rfl⟩
    · cases e
  · simp only [List.mem_cons, List.not_mem_nil, or_false] at hv
    rcases hv with rfl | rfl | rfl
    · simp only [Value.ownBlock, Option.some.injEq] at e
      exact hne e
    · exact (hg2 p e).2 rfl
    · cases e
  · simp [newV, town0]
  · have hm := List.mem_of_getElem? hx
    simp only [List.mem_cons, List.not_mem_nil, or_false, or_self] at hm
    subst hm
    exact fun u _ => RepR.nil u _
  · have hm := List.mem_of_getElem? hx
    simp only [newV, List.mem_map] at hm
    obtain ⟨j, -, rfl⟩ := hm
    exact fun u _ => ⟨_, rfl, WaitsR.nil _ _⟩

def codeCells (l : List Int) : List Value := l.map (.int .i64 ·)

theorem codeCells_snoc (l : List Int) (x : Int) : codeCells (l ++ [x]) = codeCells l ++ [.int .i64 x] := by simp [codeCells]

section

variable {gh g2 ev : Value} {w : World} {p : Nat} {K : Nat → Prop} {rv cv mv tv : Value} {xs : List RepV} {cs : List CustV} {t : TownD}

/-- A code more. -/
theorem TownM.code (h : TownM 32 [gh, g2, ev] w p K rv cv mv tv xs cs t) {w0 : World} {ev' : Value} {n m : Nat} {ys zs : List Value} {B : Nat} (hr : w.ownsRow B 33 1 ev n ys) (hr' : w0.ownsRow B 33 1 ev' m zs) (ht : TouchG w w0 (fun g => ev.ownBlock = some g)) (hle : ∀ g, g < w.heap.size → ev'.ownBlock = some g → ev.ownBlock = some g) (hgh : ∀ g, gh.ownBlock = some g → ∃ c fr, w.heap[g]? = some (.cells c 32 fr)) (hgi : ∀ g, g2.ownBlock = some g → ∃ c fr, w.heap[g]? = some (.cells c 32 fr)) :
    ∃ K', TownM 32 [gh, g2, ev'] (w0.setCell ⟨p, 5, none⟩ ev') p K' rv cv mv tv xs cs t ∧ (∀ g, K' g → K g ∨ w.heap.size ≤ g) ∧ (w0.setCell ⟨p, 5, none⟩ ev').ownsRow B 33 1 ev' m zs ∧ TouchG w (w0.setCell ⟨p, 5, none⟩ ev') (fun g => K g ∧ gh.ownBlock ≠ some g ∧ g2.ownBlock ≠ some g) := by
  have hp : p < w.heap.size := h.lt ((h.kdef p).2 (.inl rfl))
  have hnp : ev.ownBlock ≠ some p := fun e => h.apart ev (by simp) e
  have hp0 := (ht.block p hp hnp).trans h.cells
  have hp0' : w0.heap[p]? = some (.cells #[rv, cv, mv, tv, .int .i64 t.leader, ev] 32 (0, 0)) := hp0
  have hgp : gh.ownBlock ≠ some p := h.apart gh (by simp)
  have hgq : g2.ownBlock ≠ some p := h.apart g2 (by simp)
  have hge : ∀ gh : Value, (∀ g, gh.ownBlock = some g → ∃ c fr, w.heap[g]? = some (.cells c 32 fr)) → ∀ g, gh.ownBlock = some g → ev.ownBlock ≠ some g := fun gh hgh g e e2 => by
    obtain ⟨c, fr, hc⟩ := hgh g e
    obtain ⟨c', hc'⟩ := grow_tag hr e2
    rw [hc] at hc'
    simp only [Option.some.injEq, Obj.cells.injEq] at hc'
    exact absurd hc'.2.1 (by decide)
  have hKe : ∀ g, ev.ownBlock = some g → K g := fun g e => (h.kdef g).2 (.inr (.inr (.inr (.inr (.inr ⟨ev, by simp, e⟩)))))
  have htt : TouchG w (w0.setCell ⟨p, 5, none⟩ ev') (fun g => K g ∧ gh.ownBlock ≠ some g ∧ g2.ownBlock ≠ some g) := (ht.sub fun g _ e => ⟨hKe g e, fun e2 => hge gh hgh g e2 e, fun e2 => hge g2 hgi g e2 e⟩).trans (touch_one p 5 ev') fun g _ e => e ▸ ⟨(h.kdef p).2 (.inl rfl), hgp, hgq⟩
  have key : ∀ {e size n : Nat} {v : Value} {ys : List Value}, w.ownsRow 0 e size v n ys → e ≠ 33 → e ≠ 32 → (w0.setCell ⟨p, 5, none⟩ ev').ownsRow 0 e size v n ys := fun hr2 h1 h3 =>
    grow_other (grow_keep hr2 fun b hb => ht.block b (hr2.lt b hb).2 fun e => by
      obtain ⟨c, hc⟩ := grow_tag hr2 hb
      obtain ⟨c', hc'⟩ := grow_tag hr e
      rw [hc] at hc'
      simp only [Option.some.injEq, Obj.cells.injEq] at hc'
      exact h1 hc'.2.1) hp0 h3 (touch_one p 5 ev')
  have hK' : ∀ g, (g = p ∨ rv.ownBlock = some g ∨ cv.ownBlock = some g ∨ mv.ownBlock = some g ∨ tv.ownBlock = some g ∨ ∃ v ∈ [gh, g2, ev'], v.ownBlock = some g) → K g ∨ w.heap.size ≤ g := fun g e => by
    rcases Nat.lt_or_ge g w.heap.size with hl | hl
    · refine .inl ((h.kdef g).2 ?_)
      rcases e with e | e | e | e | e | ⟨v, hv, e⟩
      · exact .inl e
      · exact .inr (.inl e)
      · exact .inr (.inr (.inl e))
      · exact .inr (.inr (.inr (.inl e)))
      · exact .inr (.inr (.inr (.inr (.inl e))))
      · refine .inr (.inr (.inr (.inr (.inr ?_))))
        simp only [List.mem_cons, List.not_mem_nil, or_false] at hv
        rcases hv with rfl | rfl | rfl
        · exact ⟨v, by simp, e⟩
        · exact ⟨v, by simp, e⟩
        · exact ⟨ev, by simp, hle g hl e⟩
    · exact .inr hl
  have hrow : (w0.setCell ⟨p, 5, none⟩ ev').ownsRow B 33 1 ev' m zs := grow_other hr' hp0 (by decide) (touch_one p 5 ev')
  have mvf : ∀ {R : World → Prop}, FirmK K w R → FirmK (fun g => g = p ∨ rv.ownBlock = some g ∨ cv.ownBlock = some g ∨ mv.ownBlock = some g ∨ tv.ownBlock = some g ∨ ∃ v ∈ [gh, g2, ev'], v.ownBlock = some g) (w0.setCell ⟨p, 5, none⟩ ev') R := fun hR => hR.move htt (fun _ _ e => e.1) (fun g hl e => (hK' g e).elim id fun e => absurd hl (by omega))
  refine ⟨_, ⟨?_, fun g => Iff.rfl, key h.reps (by decide) (by decide), key h.custs (by decide) (by decide), key h.mails (by decide) (by decide), key h.comm (by decide) (by decide), fun v hv g e => ?_, fun v hv e => ?_, h.rlist, h.clist, h.three, fun k x hx => mvf (h.rparts k x hx), fun k x hx => mvf (h.cparts k x hx), h.modest, h.small⟩, hK', hrow, htt⟩
  · exact heap_set hp0' ev'
  · simp only [List.mem_cons, List.not_mem_nil, or_false] at hv
    rcases hv with rfl | rfl | rfl
    · obtain ⟨c, fr, hc⟩ := hgh g e
      exact ⟨c, _, fr, (htt.block g (Array.getElem?_eq_some_iff.1 hc).1 fun e2 => e2.2.1 e).trans hc, .inr rfl⟩
    · obtain ⟨c, fr, hc⟩ := hgi g e
      exact ⟨c, _, fr, (htt.block g (Array.getElem?_eq_some_iff.1 hc).1 fun e2 => e2.2.2 e).trans hc, .inr rfl⟩
    · obtain ⟨c, hc⟩ := grow_tag hrow e
      exact ⟨c, _, _, hc, .inl rfl⟩
  · simp only [List.mem_cons, List.not_mem_nil, or_false] at hv
    rcases hv with rfl | rfl | rfl
    · exact hgp e
    · exact hgq e
    · obtain ⟨c, hc⟩ := grow_tag hr' e
      rw [hp0] at hc
      simp only [Option.some.injEq, Obj.cells.injEq] at hc
      exact absurd hc.2.1 (by decide)

end

end Go.Proofs.YtijilhbdbeajjaaGreatDoor
