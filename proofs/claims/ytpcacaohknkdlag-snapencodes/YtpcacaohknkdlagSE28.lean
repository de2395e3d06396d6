/- codec.Seal and the document's SealOf: both return the four bytes of the two sums; nothing that was there has turned; The document's SnapBytes: a state's bytes, and their seal (joined by program) -/
import Derived.Test.YtpcacaohknkdlagRows
import Derived.WalkKit
import Derived.ProofKit
import Derived.OpenShut
import Derived.ShutString
import Derived.WalkLawsBesides
import Derived.Laws.BytesArg
import Derived.Deep.RegionHeld3
import Derived.Test.YtpcacaohknkdlagSE23
import Derived.Test.YtpcacaohknkdlagSE25
import Derived.Test.YtpcacaohknkdlagSE27
namespace Go.Proofs.Ytpcacaohknkdlag

open Go.RowKit

/-- 'string([]byte{a, b, c, d})' -/
theorem conv4 (W : World) (a b c d : Int) :
    (convert 44 9 (.slice (some ⟨W.heap.size, 0, none⟩) 4 4)).run Try.prog (W.alloc (.cells #[.int .u8 a, .int .u8 b, .int .u8 c, .int .u8 d] 5))
      = .ok (.string (strOfNums [a, b, c, d])) (W.alloc (.cells #[.int .u8 a, .int .u8 b, .int .u8 c, .int .u8 d] 5)) := by
  refine run_convert_bytes_arg _ 44 5 Try.underlying44 Try.underlying5 W.heap.size 0 4 4 [a, b, c, d] rfl ?_ 9 Try.underlying9
  intro i hi
  match i, hi with
  | 0, _ => simp
  | 1, _ => simp
  | 2, _ => simp
  | 3, _ => simp

set_option maxHeartbeats 400000 in
theorem seal_any (s : ByteArray) (w : World) (hs : s.size ≤ maxLen) :
    Calls Try.prog 21 #[.string s] w fun e w' => e = .returned (.string (sealOut s)) ∧ Below w.heap.size w w' := by
  unfold maxLen at hs
  have hcv := conv4
  go_enter Try.func21, Try.ntmps21
  go_wp2
  go_loop [3, 4, 8] (fun x y i => ∃ k : Nat, k ≤ s.size ∧ i = .int .i64 k ∧ x = .int .i64 (sealGo (s.data.toList.take k)).1 ∧ y = .int .i64 (sealGo (s.data.toList.take k)).2) (fun _ _ i => s.size - (intOf i).toNat)
  case atStart => exact ⟨0, Nat.zero_le _, rfl, rfl, rfl⟩
  case round =>
    obtain ⟨k, hk, rfl, rfl, rfl⟩ := hrel
    obtain ⟨b1, b2, b3, b4⟩ := sealGo_bd (s.data.toList.take k)
    by_cases hlt : k < s.size
    · have HS : Hid (sealGo (s.data.toList.take (k + 1)) = (((sealGo (s.data.toList.take k)).1 + s[k].toNat) % 65521, ((sealGo (s.data.toList.take k)).2 + ((sealGo (s.data.toList.take k)).1 + s[k].toNat) % 65521) % 65521)) := by
        rw [take_snoc s k hlt]; exact sealGo_snoc _ _
      have hby : ((s[k].toNat : Nat) : Int) ≤ 255 := by have := s[k].toNat_lt; omega
      go_wp2
      go_round
      case rel => exact ⟨k + 1, by omega, by go_num, by rw [HS.out], by rw [HS.out]⟩
      case measure => simp [intOf]; omega
    · have HA : Hid (sealGo (s.data.toList.take k) = sealGo s.data.toList) := by rw [take_all s k (by omega)]; exact rfl
      go_wp2
      go_ret
      refine ⟨?_, (Below.refl _ _).alloc (Nat.le_refl _) _⟩
      rw [HA.out]; rfl

set_option maxHeartbeats 400000 in
theorem sealOf_any (s : ByteArray) (w : World) (hs : s.size ≤ maxLen) :
    Calls Try.prog 25 #[.string s] w fun e w' => e = .returned (.string (sealOut s)) ∧ Below w.heap.size w w' := by
  unfold maxLen at hs
  have hcv := conv4
  go_enter Try.func25, Try.ntmps25
  go_wp2
  go_loop [3, 4, 5] (fun x y i => ∃ k : Nat, k ≤ s.size ∧ i = .int .i64 k ∧ x = .int .i64 (sealGo (s.data.toList.take k)).1 ∧ y = .int .i64 (sealGo (s.data.toList.take k)).2) (fun _ _ i => s.size - (intOf i).toNat)
  case atStart => exact ⟨0, Nat.zero_le _, rfl, rfl, rfl⟩
  case round =>
    obtain ⟨k, hk, rfl, rfl, rfl⟩ := hrel
    obtain ⟨b1, b2, b3, b4⟩ := sealGo_bd (s.data.toList.take k)
    by_cases hlt : k < s.size
    · have HS : Hid (sealGo (s.data.toList.take (k + 1)) = (((sealGo (s.data.toList.take k)).1 + s[k].toNat) % 65521, ((sealGo (s.data.toList.take k)).2 + ((sealGo (s.data.toList.take k)).1 + s[k].toNat) % 65521) % 65521)) := by
        rw [take_snoc s k hlt]; exact sealGo_snoc _ _
      have hby : ((s[k].toNat : Nat) : Int) ≤ 255 := by have := s[k].toNat_lt; omega
      go_wp2
      go_round
      case rel => exact ⟨k + 1, by omega, by go_num, by rw [HS.out], by rw [HS.out]⟩
      case measure => simp [intOf]; omega
    · have HA : Hid (sealGo (s.data.toList.take k) = sealGo s.data.toList) := by rw [take_all s k (by omega)]; exact rfl
      go_wp2
      go_ret
      refine ⟨?_, (Below.refl _ _).alloc (Nat.le_refl _) _⟩
      rw [HA.out]; rfl

end Go.Proofs.Ytpcacaohknkdlag

namespace Go.Proofs.Ytpcacaohknkdlag

open Go.RowKit

set_option maxRecDepth 100000 in
theorem snapBytes_bad (v : Value) (s : StateD) (w : World) (B : Nat) (hv : StateR w B v s) (hB : B ≤ w.heap.size) (hr : checkM s ≠ 0) :
    Calls Try.prog 9 #[v] w fun e w' => e = .returned (.tuple #[.string ⟨#[]⟩, .int .i64 (checkM s)]) ∧ Below w.heap.size w w' := by
  obtain ⟨lv, pv, sv, rfl, hl, hp, hs⟩ := id hv
  obtain ⟨lo, lc, rfl, -⟩ := id hl
  obtain ⟨po, pc, rfl, -⟩ := id hp
  obtain ⟨so, sc, rfl, -⟩ := id hs
  have hb0 : Below w.heap.size w (w.alloc (.cells #[.int .i64 s.index, .slice lo s.locks.length lc, .slice po s.pairs.length pc, .slice so s.sess.length sc] 26)) := (Below.refl _ _).alloc (Nat.le_refl _) _
  have CF := ghid (stateFault_any _ s _ B (hv.below hb0 hB) (by have := hb0.size; omega))
  have HB0 := ghid hb0
  obtain ⟨c, hc⟩ : ∃ c, c = checkM s := ⟨_, rfl⟩
  rw [← hc] at CF hr ⊢
  have hrn : (c == 0) = false := by simpa using hr
  clear hv hl hp hs hb0 hc
  go_enter Try.func9, Try.ntmps9
  go_wp2_with fail
  refine CF.out.mono ?_
  rintro e w1 ⟨rfl, hb1⟩
  have HF := ghid (HB0.out.trans (hb1.mono HB0.out.size))
  clear hb1 CF
  go_wp2
  refine bodyPost_ret (v := .tuple #[.string ⟨#[]⟩, .int .i64 c]) (by simp [results, Try.results9, go_sem]) rfl ?_
  exact ⟨rfl, HF.out⟩

theorem lockOut_eq (b nm : ByteArray) (h f : Int) (l : List Int) : ((b ++ textOut nm) ++ catB ([h, f, (l.length : Int)].map numOut)) ++ catB (l.map numOut) = b ++ lockOut ⟨nm, h, f, l⟩ := by
  simp only [lockOut, List.map_cons, List.map_nil, catB_cons, catB_nil, bnil, ByteArray.append_assoc]

theorem pairOut_eq (b nm v : ByteArray) (n : Int) : ((b ++ textOut nm) ++ textOut v) ++ catB ([n].map numOut) = b ++ pairOut ⟨nm, v, n⟩ := by
  simp only [pairOut, List.map_cons, List.map_nil, catB_cons, catB_nil, bnil, ByteArray.append_assoc]

theorem keptOut_eq (b : ByteArray) (q c n : Int) (t : ByteArray) : (b ++ catB ([q, c, n].map numOut)) ++ textOut t = b ++ keptOut ⟨q, c, n, t⟩ := by
  simp only [keptOut, List.map_cons, List.map_nil, catB_cons, catB_nil, bnil, ByteArray.append_assoc]

theorem sessOut_eq (b : ByteArray) (c i a l : Int) (ks : List KeptD) : (b ++ catB ([c, i, a, l, (ks.length : Int)].map numOut)) ++ catB (ks.map keptOut) = b ++ sessOut ⟨c, i, a, l, ks⟩ := by
  simp only [sessOut, List.map_cons, List.map_nil, catB_cons, catB_nil, bnil, ByteArray.append_assoc]

theorem catB_more {α : Type} (out : α → ByteArray) {xs : List α} {k : Nat} {x : α} (h : xs[k]? = some x) (pre : ByteArray) : (pre ++ catB ((xs.take k).map out)) ++ out x = pre ++ catB ((xs.take (k + 1)).map out) := by
  rw [take_more h, List.map_append, List.map_cons, List.map_nil, catB_snoc, ByteArray.append_assoc]

set_option maxRecDepth 100000 in
set_option maxHeartbeats 6400000 in
theorem snapBytes_ok (v : Value) (s : StateD) (w : World) (B : Nat) (hv : StateR w B v s) (hB : B ≤ w.heap.size) (hr : checkM s = 0) :
    Calls Try.prog 9 #[v] w fun e w' => e = .returned (.tuple #[.string (snapOut s), .int .i64 0]) ∧ Below w.heap.size w w' := by
  have hg := GoodM.of hr
  obtain ⟨lv, pv, sv, rfl, hl, hp, hs⟩ := id hv
  obtain ⟨lo, lc, rfl, -⟩ := id hl
  obtain ⟨po, pc, rfl, -⟩ := id hp
  obtain ⟨so, sc, rfl, -⟩ := id hs
  have hb0 : Below w.heap.size w (w.alloc (.cells #[.int .i64 s.index, .slice lo s.locks.length lc, .slice po s.pairs.length pc, .slice so s.sess.length sc] 26)) := (Below.refl _ _).alloc (Nat.le_refl _) _
  have CF := ghid (stateFault_any _ s _ B (hv.below hb0 hB) (by have := hb0.size; omega))
  rw [hr] at CF
  have HB0 := ghid hb0
  have HBX := ghid (heap_alloc_new w (.cells #[.int .i64 s.index, .slice lo s.locks.length lc, .slice po s.pairs.length pc, .slice so s.sess.length sc] 26))
  have HG := ghid hg
  have HL := ghid hl
  have HP := ghid hp
  have HS := ghid hs
  have hi0 := hg.sess.low
  have hi1 := hg.sess.high
  have hl5 := hg.locks.len
  have hp5 := hg.pairs.len
  have hs4 := hg.sess.len
  clear hv hl hp hs hb0 hg hr
  go_enter Try.func9, Try.ntmps9
  go_wp2_with fail
  refine CF.out.mono ?_
  rintro e w1 ⟨rfl, hb1⟩
  have hx1 := behind HBX.out (Below.refl _ _) hb1
  have HX1 := ghid hx1
  have HB1 := ghid (HB0.out.trans (hb1.mono HB0.out.size))
  obtain ⟨e0, e1, e2, e3, ef, hpl⟩ := state_cells hx1
  have hba : Below w1.heap.size w1 (w1.alloc (.cells #[.int .i64 s.index, .int .i64 (s.locks.length : Int)] 3)) := (Below.refl _ _).alloc (Nat.le_refl _) _
  have CJ := ghid (joined_any (.slice (some ⟨w1.heap.size, 0, none⟩) 2 2) [s.index, (s.locks.length : Int)] (w1.alloc (.cells #[.int .i64 s.index, .int .i64 (s.locks.length : Int)] 3)) _ (ints_lit (xs := [s.index, (s.locks.length : Int)]) (heap_alloc_new w1 _) (by simp)) (Nat.le_refl _) (by intro x hx; simp at hx; omega) (by simp))
  have hz0 := catB_size numOut 6 [s.index, (s.locks.length : Int)] (fun x _ => numOut_le x)
  obtain ⟨b0, hb0⟩ : ∃ b0, b0 = catB ([s.index, (s.locks.length : Int)].map numOut) := ⟨_, rfl⟩
  rw [← hb0] at CJ hz0
  have HB00 := ghid hb0
  have hz0' : b0.size ≤ 12 := by simpa using hz0
  have HBA := ghid hba
  obtain ⟨q, hq⟩ : ∃ q, q = w.heap.size := ⟨_, rfl⟩
  rw [← hq] at HX1 e0 e1 e2 e3 ef hpl
  have HQ := ghid hq
  clear hb1 hx1 CF hba hz0 hb0 hq
  go_upto_region 4 with fail
  rw [← HQ.out]
  go_wp2_with fail
  refine CJ.out.mono ?_
  rintro e w2 ⟨rfl, hb2⟩
  have hx2 := behind (behind HX1.out (Below.refl _ _) HBA.out) (Below.refl _ _) hb2
  have HX2 := ghid hx2
  have HB2 := ghid (HB1.out.trans ((HBA.out.trans (hb2.mono HBA.out.size)).mono HB1.out.size))
  have HL2 := ghid (HL.out.below HB2.out hB)
  have HP2 := ghid (HP.out.below HB2.out hB)
  have HS2 := ghid (HS.out.below HB2.out hB)
  have hBw : B ≤ w2.heap.size := by have := HB2.out.size; omega
  clear hb2 hx2 CJ e0 e1 e2 e3 ef hpl HL HP HS HX1 HBA
  obtain ⟨e0, e1, e2, e3, ef, hpl⟩ := state_cells HX2.out
  go_wp2
  go_loopw [5, 6] (fun t i wr => ∃ (k : Nat) (b : ByteArray), k ≤ s.locks.length ∧ i = .int .i64 k ∧ t = .string b ∧ Hid (b = b0 ++ catB ((s.locks.take k).map lockOut)) ∧ b.size ≤ 12 + k * 60 ∧ Below w2.heap.size w2 wr) (fun _ i _ => s.locks.length - (intOf i).toNat)
  case atStart => exact ⟨0, b0, Nat.zero_le _, rfl, rfl, by unfold Hid; rw [List.take_zero, List.map_nil, catB_nil, bnil], by omega, Below.refl _ _⟩
  case round =>
    obtain ⟨k, b, hk, rfl, rfl, HBB, hbz, hbr⟩ := hrel
    have hxr := behind HX2.out (Below.refl _ _) hbr
    clear e0 e1 e2 e3 ef hpl
    obtain ⟨e0, e1, e2, e3, ef, hpl⟩ := state_cells hxr
    by_cases hlt : k < s.locks.length
    · obtain ⟨x, hx⟩ : ∃ x, s.locks[k]? = some x := ⟨_, List.getElem?_eq_getElem hlt⟩
      have hok := HG.out.locks.each x (List.mem_of_getElem? hx)
      have hnm := (nameB_yes hok.1.name).2.1
      have hln := hok.1.line.len
      obtain ⟨ao, cap, he, q1, q2, q3, q4⟩ := HL2.out.below hbr hBw
      obtain ⟨lb, off, rfl, hbB, hc⟩ := q4 (by omega)
      simp only [Value.slice.injEq] at he
      obtain ⟨rfl, -, rfl⟩ := he
      obtain ⟨lv, c0, c1, c2, c3, hline, -⟩ := hc k x hx
      obtain ⟨ko, kc, rfl, -⟩ := id hline
      have HNEW := ghid (catB_more lockOut hx b0)
      have HZ := ghid (lockOut_le hok.1)
      have CW := ghid (fun W => worded_any x.name W (by omega))
      have hb3 : Below wr.heap.size wr (wr.alloc (.cells #[.string x.name, .int .i64 x.holder, .int .i64 x.fence, .slice ko x.line.length kc] 55)) := (Below.refl _ _).alloc (Nat.le_refl _) _
      have hx3 := heap_alloc_new wr (.cells #[.string x.name, .int .i64 x.holder, .int .i64 x.fence, .slice ko x.line.length kc] 55)
      have hline3 := hline.below hb3 (by have := hbr.size; omega)
      have hlow := hok.1.low
      have hhigh := hok.1.high
      have hfe1 := hok.2.1
      have hfe2 := hok.2.2
      have HEACH := ghid hok.1.line.each
      obtain ⟨xn, xh, xf, xl⟩ := x
      simp only at c0 c1 c2 c3 hnm hln hb3 hx3 hline3 hlow hhigh hfe1 hfe2 CW HEACH
      obtain ⟨W3, hW3⟩ : ∃ W3, W3 = wr.alloc (.cells #[.string xn, .int .i64 xh, .int .i64 xf, .slice ko xl.length kc] 55) := ⟨_, rfl⟩
      obtain ⟨p3, hp3⟩ : ∃ p3, p3 = wr.heap.size := ⟨_, rfl⟩
      rw [← hW3] at hb3 hx3 hline3
      rw [← hp3] at hx3
      have HX3 := ghid hx3
      have HB3 := ghid (hbr.trans (hb3.mono hbr.size))
      have CJ1 := ghid (fun (W : World) (g : Nat) (h : W.heap[g]? = some (.cells #[.int .i64 xh, .int .i64 xf, .int .i64 (xl.length : Int)] 3 (0, 0))) => joined_any (.slice (some ⟨g, 0, none⟩) 3 3) [xh, xf, (xl.length : Int)] W _ (ints_lit (xs := [xh, xf, (xl.length : Int)]) h (by simp)) (Nat.le_refl _) (by intro x hx; simp at hx; omega) (by simp))
      have CJ2 := ghid (fun (W : World) (h : Below W3.heap.size W3 W) => joined_any (.slice ko xl.length kc) xl W B (hline3.below h (by have := HB3.out.size; omega)) (by have := HB3.out.size; have := h.size; omega) (fun x hx => by have := HEACH.out x hx; omega) (by omega))
      have hz1 := textOut_le xn 6 hnm
      have hz2 : (catB ([xh, xf, (xl.length : Int)].map numOut)).size ≤ 18 := catB_size numOut 6 [xh, xf, (xl.length : Int)] (fun x _ => numOut_le x)
      have hz3 := catB_size numOut 6 xl (fun x _ => numOut_le x)
      have HEQ := ghid (lockOut_eq b xn xh xf xl)
      have HZZ : Hid ((b ++ lockOut ⟨xn, xh, xf, xl⟩).size ≤ 12 + (k + 1) * 60) := by unfold Hid; rw [ByteArray.size_append]; have := HZ.out; omega
      obtain ⟨tn, htn⟩ : ∃ t, t = textOut xn := ⟨_, rfl⟩
      obtain ⟨tj, htj⟩ : ∃ t, t = catB ([xh, xf, (xl.length : Int)].map numOut) := ⟨_, rfl⟩
      obtain ⟨tl, htl⟩ : ∃ t, t = catB (xl.map numOut) := ⟨_, rfl⟩
      rw [← htn] at CW hz1 HEQ
      rw [← htj] at CJ1 hz2 HEQ
      rw [← htl] at CJ2 hz3 HEQ
      have hs1 : ¬ 9223372036854775807 < b.size + tn.size := by omega
      have hs2 : ¬ 9223372036854775807 < b.size + tn.size + tj.size := by omega
      have hs3 : ¬ 9223372036854775807 < b.size + tn.size + tj.size + tl.size := by omega
      have HW3 := ghid hW3
      have HP3 := ghid hp3
      have HB := ghid HBB
      clear hx hok hc q4 hline hline3 hbr hb3 hx3 hW3 hp3 htn htj htl hz1 hz2 hz3 HBB hxr q3
      go_upto_region 9 with fail
      rw [← HW3.out, ← HP3.out]
      clear HW3 HP3 c0 c1 c2 c3 e0 e1 e2 e3 ef hpl
      obtain ⟨u0, u1, u2, u3, uf, hul⟩ := state_cells HX3.out
      go_region_held3 (fun w' => w'.cell? ⟨p3, 0, none⟩ = some (.string xn) ∧ w'.cell? ⟨p3, 1, none⟩ = some (.int .i64 xh) ∧ w'.cell? ⟨p3, 2, none⟩ = some (.int .i64 xf) ∧ w'.cell? ⟨p3, 3, none⟩ = some (.slice ko xl.length kc)) (go_keep)
        (first
          | (go_at_call 24; with_reducible refine (CW.out W3.drew).mono ?_; rintro e w4 ⟨rfl, hb4⟩; have hq4 := behind HX3.out ((Below.refl _ _).drew) hb4; obtain ⟨y0, y1, y2, y3, -, hyl⟩ := state_cells hq4; have hz4 : Below W3.heap.size W3 w4 := ((Below.refl W3.heap.size W3).drew).trans (hb4.mono (Nat.le_refl _)); clear hb4)
          | (go_at_call 24; with_reducible refine (CW.out (W3.alloc (.cells #[.int .i64 xh, .int .i64 xf, .int .i64 (xl.length : Int)] 3)).drew).mono ?_; rintro e w4 ⟨rfl, hb4⟩; have hq4 := behind HX3.out (((Below.refl _ _).alloc (Nat.le_refl _) _).drew) hb4; obtain ⟨y0, y1, y2, y3, -, hyl⟩ := state_cells hq4; have hz4 : Below W3.heap.size W3 w4 := (((Below.refl W3.heap.size W3).alloc (Nat.le_refl _) (.cells #[.int .i64 xh, .int .i64 xf, .int .i64 (xl.length : Int)] 3)).drew).trans (hb4.mono (by simp)); have hn4 := behind (heap_alloc_new W3 (.cells #[.int .i64 xh, .int .i64 xf, .int .i64 (xl.length : Int)] 3)) ((Below.refl _ _).drew) hb4; clear hb4)
          | (go_at_call 23; with_reducible refine (CJ1.out (w4.alloc (.cells #[.int .i64 xh, .int .i64 xf, .int .i64 (xl.length : Int)] 3)) w4.heap.size (heap_alloc_new w4 (.cells #[.int .i64 xh, .int .i64 xf, .int .i64 (xl.length : Int)] 3))).mono ?_; rintro e w5 ⟨rfl, hb5⟩; have hq5 := behind hq4 ((Below.refl _ _).alloc (Nat.le_refl _) _) hb5; obtain ⟨z0, z1, z2, z3, -, hzl⟩ := state_cells hq5; have hz5 : Below W3.heap.size W3 w5 := (hz4.alloc hz4.size _).trans (hb5.mono (by have := hz4.size; simp; omega)); clear hb5)
          | (go_at_call 23; with_reducible refine (CJ1.out w4 W3.heap.size hn4).mono ?_; rintro e w5 ⟨rfl, hb5⟩; have hq5 := behind hq4 (Below.refl _ _) hb5; obtain ⟨z0, z1, z2, z3, -, hzl⟩ := state_cells hq5; have hz5 : Below W3.heap.size W3 w5 := hz4.trans (hb5.mono hz4.size); clear hb5)
          | (go_at_call 23; with_reducible refine (CJ2.out w5 hz5).mono ?_; rintro e w6 ⟨rfl, hb6⟩; have hq6 := behind hq5 (Below.refl _ _) hb6; obtain ⟨v0, v1, v2, v3, -, hvl⟩ := state_cells hq6; have hz6 : Below W3.heap.size W3 w6 := hz5.trans (hb6.mono hz5.size); clear hb6))
      all_goals
        have HZ6 := ghid (HB3.out.trans (hz6.mono HB3.out.size))
        clear hz6 hz5 hz4 hq4 hq5 hq6
        go_wp2
        go_roundw
        case rel => exact ⟨k + 1, b ++ lockOut ⟨xn, xh, xf, xl⟩, by omega, by go_num, by rw [← HEQ.out], by unfold Hid; rw [← HNEW.out, ← HB.out], HZZ.out, HZ6.out⟩
        case measure => simp [intOf]; omega
    · have hke : k = s.locks.length := by omega
      subst hke
      rw [List.take_length] at HBB
      obtain ⟨t1, ht1⟩ : ∃ t, t = catB ([(s.pairs.length : Int)].map numOut) := ⟨_, rfl⟩
      have CJp := ghid (joined_any (.slice (some ⟨wr.heap.size, 0, none⟩) 1 1) [(s.pairs.length : Int)] (wr.alloc (.cells #[.int .i64 (s.pairs.length : Int)] 3)) _ (ints_lit (xs := [(s.pairs.length : Int)]) (heap_alloc_new wr _) (by simp)) (Nat.le_refl _) (by intro x hx; simp at hx; omega) (by simp))
      have hz1 : (catB ([(s.pairs.length : Int)].map numOut)).size ≤ 6 := catB_size numOut 6 [(s.pairs.length : Int)] (fun x _ => numOut_le x)
      rw [← ht1] at CJp hz1
      have HT1 := ghid ht1
      have HBR := ghid hbr
      have HBr1 : Hid (Below wr.heap.size wr (wr.alloc (.cells #[.int .i64 (s.pairs.length : Int)] 3))) := (Below.refl _ _).alloc (Nat.le_refl _) _
      have hs1 : b.size + t1.size ≤ 2000 := by omega
      have HXR := ghid hxr
      clear ht1 hbr hxr
      go_wp2_with fail
      refine CJp.out.mono ?_
      rintro e w3 ⟨rfl, hb3⟩
      have hx3 := behind (behind HXR.out (Below.refl _ _) HBr1.out) (Below.refl _ _) hb3
      have HX3 := ghid hx3
      have HB3 := ghid (HBR.out.trans ((HBr1.out.trans (hb3.mono HBr1.out.size)).mono HBR.out.size))
      have hBw3 : B ≤ w3.heap.size := by have := HB3.out.size; omega
      clear hb3 hx3 CJp e0 e1 e2 e3 ef hpl HXR HBr1
      obtain ⟨e0, e1, e2, e3, ef, hpl⟩ := state_cells HX3.out
      have hzb : (b ++ t1).size ≤ 320 := by rw [ByteArray.size_append]; omega
      go_wp2
      obtain ⟨b1, hb1⟩ : ∃ b1, b1 = b ++ t1 := ⟨_, rfl⟩
      rw [← hb1] at hzb ⊢
      have HB1' : Hid (b1 = (b0 ++ catB (s.locks.map lockOut)) ++ catB ([(s.pairs.length : Int)].map numOut)) := by unfold Hid; rw [hb1, HBB.out, HT1.out]
      clear hb1 hs1 hz1 hbz HBB HT1 hlt hk
      go_loopw [5, 8] (fun t i wr => ∃ (k : Nat) (b : ByteArray), k ≤ s.pairs.length ∧ i = .int .i64 k ∧ t = .string b ∧ Hid (b = b1 ++ catB ((s.pairs.take k).map pairOut)) ∧ b.size ≤ 320 + k * 40 ∧ Below w3.heap.size w3 wr) (fun _ i _ => s.pairs.length - (intOf i).toNat)
      case atStart => exact ⟨0, b1, Nat.zero_le _, rfl, rfl, by unfold Hid; rw [List.take_zero, List.map_nil, catB_nil, bnil], by omega, Below.refl _ _⟩
      case round =>
        rename World => wq
        obtain ⟨k, b, hk, rfl, rfl, HBB, hbz, hbq⟩ := hrel
        have hxr := behind HX3.out (Below.refl _ _) hbq
        clear e0 e1 e2 e3 ef hpl
        obtain ⟨e0, e1, e2, e3, ef, hpl⟩ := state_cells hxr
        by_cases hlt : k < s.pairs.length
        · obtain ⟨x, hx⟩ : ∃ x, s.pairs[k]? = some x := ⟨_, List.getElem?_eq_getElem hlt⟩
          have hok := HG.out.pairs.each x (List.mem_of_getElem? hx)
          have hnm := (nameB_yes hok.1).2.1
          have hbq2 := HB3.out.trans (hbq.mono HB3.out.size)
          obtain ⟨ao, cap, he, q1, q2, q3, q4⟩ := HP2.out.below hbq2 hBw
          obtain ⟨pb, off, rfl, hbB, hc⟩ := q4 (by omega)
          simp only [Value.slice.injEq] at he
          obtain ⟨rfl, -, rfl⟩ := he
          obtain ⟨c0, c1, c2, -⟩ := hc k x hx
          have HNEW := ghid (catB_more pairOut hx b1)
          have HZ := ghid (pairOut_le hok)
          have CW1 := ghid (fun W => worded_any x.name W (by omega))
          have CW2 := ghid (fun W => worded_any x.value W (by have := hok.2.1; omega))
          obtain ⟨-, hvv, hv1, hv2⟩ := hok
          obtain ⟨xn, xv, xe⟩ := x
          simp only at c0 c1 c2 hnm hvv hv1 hv2 CW1 CW2
          have hpbl : pb < wq.heap.size := by have := hbq2.size; omega
          have HPC : Hid (∀ W, Below wq.heap.size wq W → W.cell? ⟨q, 2, none⟩ = some (.slice (some ⟨pb, off, none⟩) s.pairs.length pc) ∧ W.cell? ⟨pb, off + k * 3, none⟩ = some (.string xn) ∧ W.cell? ⟨pb, off + k * 3 + 1, none⟩ = some (.string xv) ∧ W.cell? ⟨pb, off + k * 3 + 2, none⟩ = some (.int .i64 xe) ∧ q < W.heap.size ∧ pb < W.heap.size) := fun W hW =>
            ⟨(hW.cell (p := ⟨q, 2, none⟩) hpl).trans e2, (hW.cell (p := ⟨pb, off + k * 3, none⟩) hpbl).trans c0, (hW.cell (p := ⟨pb, off + k * 3 + 1, none⟩) hpbl).trans c1, (hW.cell (p := ⟨pb, off + k * 3 + 2, none⟩) hpbl).trans c2, by have := hW.size; omega, by have := hW.size; omega⟩
          have CJ1 := ghid (fun (W : World) (g : Nat) (h : W.heap[g]? = some (.cells #[.int .i64 xe] 3 (0, 0))) => joined_any (.slice (some ⟨g, 0, none⟩) 1 1) [xe] W _ (ints_lit (xs := [xe]) h (by simp)) (Nat.le_refl _) (by intro x hx; simp at hx; omega) (by simp))
          have hz1 := textOut_le xn 6 hnm
          have hz2 := textOut_le xv 12 hvv
          have hz3 : (catB ([xe].map numOut)).size ≤ 6 := catB_size numOut 6 [xe] (fun x _ => numOut_le x)
          have HEQ := ghid (pairOut_eq b xn xv xe)
          have HZZ : Hid ((b ++ pairOut ⟨xn, xv, xe⟩).size ≤ 320 + (k + 1) * 40) := by unfold Hid; rw [ByteArray.size_append]; have := HZ.out; omega
          obtain ⟨tn, htn⟩ : ∃ t, t = textOut xn := ⟨_, rfl⟩
          obtain ⟨tv, htv⟩ : ∃ t, t = textOut xv := ⟨_, rfl⟩
          obtain ⟨tj, htj⟩ : ∃ t, t = catB ([xe].map numOut) := ⟨_, rfl⟩
          rw [← htn] at CW1 hz1 HEQ
          rw [← htv] at CW2 hz2 HEQ
          rw [← htj] at CJ1 hz3 HEQ
          have hs1 : ¬ 9223372036854775807 < b.size + tn.size := by omega
          have hs2 : ¬ 9223372036854775807 < b.size + tn.size + tv.size := by omega
          have hs3 : ¬ 9223372036854775807 < b.size + tn.size + tv.size + tj.size := by omega
          have HB := ghid HBB
          have HBQ := ghid hbq
          clear hx hc q4 hbq hbq2 hxr htn htv htj hz1 hz2 hz3 HBB q3 e0 e1 e3
          go_upto_region 14 with fail
          go_region_held3 (fun w' => w'.cell? ⟨q, 2, none⟩ = some (.slice (some ⟨pb, off, none⟩) s.pairs.length pc) ∧ w'.cell? ⟨pb, off + k * 3, none⟩ = some (.string xn) ∧ w'.cell? ⟨pb, off + k * 3 + 1, none⟩ = some (.string xv) ∧ w'.cell? ⟨pb, off + k * 3 + 2, none⟩ = some (.int .i64 xe)) (go_keep)
            (first
              | (go_at_call 24; with_reducible refine (CW1.out wq.drew).mono ?_; rintro e w4 ⟨rfl, hb4⟩; have hz4 : Below wq.heap.size wq w4 := ((Below.refl wq.heap.size wq).drew).trans (hb4.mono (Nat.le_refl _)); obtain ⟨y0, y1, y2, y3, y4, y5⟩ := HPC.out w4 hz4; clear hb4)
              | (go_at_call 24; with_reducible refine (CW1.out (wq.alloc (.cells #[.int .i64 xe] 3)).drew).mono ?_; rintro e w4 ⟨rfl, hb4⟩; have hz4 : Below wq.heap.size wq w4 := (((Below.refl wq.heap.size wq).alloc (Nat.le_refl _) (.cells #[.int .i64 xe] 3)).drew).trans (hb4.mono (by simp)); obtain ⟨y0, y1, y2, y3, y4, y5⟩ := HPC.out w4 hz4; have hn4 := behind (heap_alloc_new wq (.cells #[.int .i64 xe] 3)) ((Below.refl _ _).drew) hb4; clear hb4)
              | (go_at_call 24; with_reducible refine (CW2.out (w4.alloc (.cells #[.int .i64 xe] 3))).mono ?_; rintro e w5 ⟨rfl, hb5⟩; have hz5 : Below wq.heap.size wq w5 := (hz4.alloc hz4.size _).trans (hb5.mono (by have := hz4.size; simp; omega)); obtain ⟨z0, z1, z2, z3, z4, z5⟩ := HPC.out w5 hz5; have hn5 := behind (heap_alloc_new w4 (.cells #[.int .i64 xe] 3)) (Below.refl _ _) hb5; clear hb5)
              | (go_at_call 24; with_reducible refine (CW2.out w4).mono ?_; rintro e w5 ⟨rfl, hb5⟩; have hz5 : Below wq.heap.size wq w5 := hz4.trans (hb5.mono hz4.size); obtain ⟨z0, z1, z2, z3, z4, z5⟩ := HPC.out w5 hz5; have hn5 := behind hn4 (Below.refl _ _) hb5; clear hb5)
              | (go_at_call 24; with_reducible refine (CW2.out w4).mono ?_; rintro e w5 ⟨rfl, hb5⟩; have hz5 : Below wq.heap.size wq w5 := hz4.trans (hb5.mono hz4.size); obtain ⟨z0, z1, z2, z3, z4, z5⟩ := HPC.out w5 hz5; clear hb5)
              | (go_at_call 23; with_reducible refine (CJ1.out (w5.alloc (.cells #[.int .i64 xe] 3)) w5.heap.size (heap_alloc_new w5 (.cells #[.int .i64 xe] 3))).mono ?_; rintro e w6 ⟨rfl, hb6⟩; have hz6 : Below wq.heap.size wq w6 := (hz5.alloc hz5.size _).trans (hb6.mono (by have := hz5.size; simp; omega)); obtain ⟨v0, v1, v2, v3, v4, v5⟩ := HPC.out w6 hz6; clear hb6)
              | (go_at_call 23; with_reducible refine (CJ1.out w5 _ hn5).mono ?_; rintro e w6 ⟨rfl, hb6⟩; have hz6 : Below wq.heap.size wq w6 := hz5.trans (hb6.mono hz5.size); obtain ⟨v0, v1, v2, v3, v4, v5⟩ := HPC.out w6 hz6; clear hb6))
          all_goals
            have HZ6 := ghid (HBQ.out.trans (hz6.mono HBQ.out.size))
            clear hz6 hz5 hz4
            go_wp2
            go_roundw
            case rel => exact ⟨k + 1, b ++ pairOut ⟨xn, xv, xe⟩, by omega, by go_num, by rw [← HEQ.out], by unfold Hid; rw [← HNEW.out, ← HB.out], HZZ.out, HZ6.out⟩
            case measure => simp [intOf]; omega
        · have hke : k = s.pairs.length := by omega
          subst hke
          rw [List.take_length] at HBB
          obtain ⟨t2, ht2⟩ : ∃ t, t = catB ([(s.sess.length : Int)].map numOut) := ⟨_, rfl⟩
          have CJs := ghid (joined_any (.slice (some ⟨wq.heap.size, 0, none⟩) 1 1) [(s.sess.length : Int)] (wq.alloc (.cells #[.int .i64 (s.sess.length : Int)] 3)) _ (ints_lit (xs := [(s.sess.length : Int)]) (heap_alloc_new wq _) (by simp)) (Nat.le_refl _) (by intro x hx; simp at hx; omega) (by simp))
          have hz1 : (catB ([(s.sess.length : Int)].map numOut)).size ≤ 6 := catB_size numOut 6 [(s.sess.length : Int)] (fun x _ => numOut_le x)
          rw [← ht2] at CJs hz1
          have HT2 := ghid ht2
          have HBQ := ghid (HB3.out.trans (hbq.mono HB3.out.size))
          have HBr1 : Hid (Below wq.heap.size wq (wq.alloc (.cells #[.int .i64 (s.sess.length : Int)] 3))) := (Below.refl _ _).alloc (Nat.le_refl _) _
          have hs1 : b.size + t2.size ≤ 2000 := by omega
          have HXR := ghid hxr
          clear ht2 hbq hxr
          go_wp2_with fail
          refine CJs.out.mono ?_
          rintro e w5 ⟨rfl, hb5⟩
          have hx5 := behind (behind HXR.out (Below.refl _ _) HBr1.out) (Below.refl _ _) hb5
          have HX5 := ghid hx5
          have HB5 := ghid (HBQ.out.trans ((HBr1.out.trans (hb5.mono HBr1.out.size)).mono HBQ.out.size))
          have hBw5 : B ≤ w5.heap.size := by have := HB5.out.size; omega
          clear hb5 hx5 CJs e0 e1 e2 e3 ef hpl HXR HBr1
          obtain ⟨e0, e1, e2, e3, ef, hpl⟩ := state_cells HX5.out
          have hzb : (b ++ t2).size ≤ 530 := by rw [ByteArray.size_append]; omega
          go_wp2
          obtain ⟨b2, hb2⟩ : ∃ b2, b2 = b ++ t2 := ⟨_, rfl⟩
          rw [← hb2] at hzb ⊢
          have HB2' : Hid (b2 = (b1 ++ catB (s.pairs.map pairOut)) ++ catB ([(s.sess.length : Int)].map numOut)) := by unfold Hid; rw [hb2, HBB.out, HT2.out]
          clear hb2 hs1 hz1 hbz HBB HT2 hlt hk
          go_loopw [5, 9] (fun t i wr => ∃ (k : Nat) (b : ByteArray), k ≤ s.sess.length ∧ i = .int .i64 k ∧ t = .string b ∧ Hid (b = b2 ++ catB ((s.sess.take k).map sessOut)) ∧ b.size ≤ 530 + k * 200 ∧ Below w5.heap.size w5 wr) (fun _ i _ => s.sess.length - (intOf i).toNat)
          case atStart => exact ⟨0, b2, Nat.zero_le _, rfl, rfl, by unfold Hid; rw [List.take_zero, List.map_nil, catB_nil, bnil], by omega, Below.refl _ _⟩
          case round =>
            rename World => wz
            obtain ⟨k, b, hk, rfl, rfl, HBB, hbz, hbq⟩ := hrel
            have hxr := behind HX5.out (Below.refl _ _) hbq
            clear e0 e1 e2 e3 ef hpl
            obtain ⟨e0, e1, e2, e3, ef, hpl⟩ := state_cells hxr
            by_cases hlt : k < s.sess.length
            · obtain ⟨x, hx⟩ : ∃ x, s.sess[k]? = some x := ⟨_, List.getElem?_eq_getElem hlt⟩
              have hok := HG.out.sess.fine x (List.mem_of_getElem? hx)
              have hrg := rangeB_iff.1 hok.range
              have hrl := sformB_len hok.form
              have HMEM := ghid (formFrom_mem hok.form)
              have hbq2 := HB5.out.trans (hbq.mono HB5.out.size)
              obtain ⟨ao, cap, he, q1, q2, q3, q4⟩ := HS2.out.below hbq2 hBw
              obtain ⟨sb, off, rfl, hbB, hc⟩ := q4 (by omega)
              simp only [Value.slice.injEq] at he
              obtain ⟨rfl, -, rfl⟩ := he
              obtain ⟨lv, c0, c1, c2, c3, c4, hkr⟩ := hc k x hx
              obtain ⟨ko, kc, rfl, -⟩ := id hkr
              have HNEW := ghid (catB_more sessOut hx b2)
              have HZ := ghid (sessOut_le hok)
              obtain ⟨xc, xi, xa, xt, xr⟩ := x
              simp only at c0 c1 c2 c3 c4 hrg hrl hkr HMEM
              have hb6 : Below wz.heap.size wz (wz.alloc (.cells #[.int .i64 xc, .int .i64 xi, .int .i64 xa, .int .i64 xt, .slice ko xr.length kc] 60)) := (Below.refl _ _).alloc (Nat.le_refl _) _
              have hx6 := heap_alloc_new wz (.cells #[.int .i64 xc, .int .i64 xi, .int .i64 xa, .int .i64 xt, .slice ko xr.length kc] 60)
              obtain ⟨W6, hW6⟩ : ∃ W6, W6 = wz.alloc (.cells #[.int .i64 xc, .int .i64 xi, .int .i64 xa, .int .i64 xt, .slice ko xr.length kc] 60) := ⟨_, rfl⟩
              obtain ⟨p6, hp6⟩ : ∃ p6, p6 = wz.heap.size := ⟨_, rfl⟩
              rw [← hW6] at hb6 hx6
              rw [← hp6] at hx6
              have HX6 := ghid hx6
              have HB6 := ghid (hbq.trans (hb6.mono hbq.size))
              have HK6 := ghid (hkr.below hb6 (by have := hbq2.size; omega))
              have hBw6 : B ≤ W6.heap.size := by have := HB6.out.size; omega
              have CJ5 := ghid (joined_any (.slice (some ⟨W6.heap.size, 0, none⟩) 5 5) [xc, xi, xa, xt, (xr.length : Int)] (W6.alloc (.cells #[.int .i64 xc, .int .i64 xi, .int .i64 xa, .int .i64 xt, .int .i64 (xr.length : Int)] 3)) _ (ints_lit (xs := [xc, xi, xa, xt, (xr.length : Int)]) (heap_alloc_new W6 _) (by simp)) (Nat.le_refl _) (by intro x hx; simp at hx; omega) (by simp))
              have hz1 : (catB ([xc, xi, xa, xt, (xr.length : Int)].map numOut)).size ≤ 30 := catB_size numOut 6 [xc, xi, xa, xt, (xr.length : Int)] (fun x _ => numOut_le x)
              have HEQ := ghid (sessOut_eq b xc xi xa xt xr)
              have HZZ : Hid ((b ++ sessOut ⟨xc, xi, xa, xt, xr⟩).size ≤ 530 + (k + 1) * 200) := by unfold Hid; rw [ByteArray.size_append]; have := HZ.out; omega
              obtain ⟨t3, ht3⟩ : ∃ t, t = catB ([xc, xi, xa, xt, (xr.length : Int)].map numOut) := ⟨_, rfl⟩
              rw [← ht3] at CJ5 hz1 HEQ
              have HW6 := ghid hW6
              have HP6 := ghid hp6
              have HB := ghid HBB
              have hs1 : b.size + t3.size ≤ 2000 := by omega
              have HBa : Hid (Below W6.heap.size W6 (W6.alloc (.cells #[.int .i64 xc, .int .i64 xi, .int .i64 xa, .int .i64 xt, .int .i64 (xr.length : Int)] 3))) := (Below.refl _ _).alloc (Nat.le_refl _) _
              clear hx hok hc q4 hkr hbq hbq2 hb6 hx6 hW6 hp6 ht3 HBB hxr q3
              go_upto_region 20 with fail
              rw [← HW6.out, ← HP6.out]
              clear HW6 HP6 c0 c1 c2 c3 c4 e0 e1 e2 e3 ef hpl
              obtain ⟨u0, u1, u2, u3, u4, uf, hul⟩ := five_cells HX6.out
              go_wp2_with fail
              refine CJ5.out.mono ?_
              rintro e w7 ⟨rfl, hb7⟩
              have hx7 := behind (behind HX6.out (Below.refl _ _) HBa.out) (Below.refl _ _) hb7
              have HX7 := ghid hx7
              have hb67 := HBa.out.trans (hb7.mono HBa.out.size)
              have HB7 := ghid (HB6.out.trans (hb67.mono HB6.out.size))
              have HK7 := ghid (HK6.out.below hb67 hBw6)
              have hBw7 : B ≤ w7.heap.size := by have := hb67.size; omega
              clear hb7 hx7 CJ5 u0 u1 u2 u3 u4 uf hul HBa HX6 hb67
              obtain ⟨u0, u1, u2, u3, u4, uf, hul⟩ := five_cells HX7.out
              have hzb3 : (b ++ t3).size ≤ 560 + k * 200 := by rw [ByteArray.size_append]; omega
              go_wp2
              obtain ⟨b3, hb3⟩ : ∃ b3, b3 = b ++ t3 := ⟨_, rfl⟩
              rw [← hb3] at hzb3 HEQ ⊢
              clear hb3 hs1 hz1
              go_loopw [5, 11] (fun t i wr => ∃ (m : Nat) (c : ByteArray), m ≤ xr.length ∧ i = .int .i64 m ∧ t = .string c ∧ Hid (c = b3 ++ catB ((xr.take m).map keptOut)) ∧ c.size ≤ 560 + k * 200 + m * 40 ∧ Below w7.heap.size w7 wr) (fun _ i _ => xr.length - (intOf i).toNat)
              case atStart => exact ⟨0, b3, Nat.zero_le _, rfl, rfl, by unfold Hid; rw [List.take_zero, List.map_nil, catB_nil, bnil], by omega, Below.refl _ _⟩
              case round =>
                rename World => wy
                obtain ⟨m, c, hm, rfl, rfl, HCC, hcz, hby⟩ := hrel
                clear u0 u1 u2 u3 u4 uf hul
                obtain ⟨u0, u1, u2, u3, u4, uf, hul⟩ := five_cells (behind HX7.out (Below.refl _ _) hby)
                by_cases hmt : m < xr.length
                · obtain ⟨y, hy⟩ : ∃ y, xr[m]? = some y := ⟨_, List.getElem?_eq_getElem hmt⟩
                  have hyk := HMEM.out y (List.mem_of_getElem? hy)
                  have hyr := replyB_iff.1 hyk.2.2
                  obtain ⟨ao, cap, he, q1, q2, q3, q4⟩ := HK7.out.below hby hBw7
                  obtain ⟨kb, koff, rfl, hbK, hc⟩ := q4 (by omega)
                  simp only [Value.slice.injEq] at he
                  obtain ⟨rfl, -, rfl⟩ := he
                  obtain ⟨c0, c1, c2, c3, -⟩ := hc m y hy
                  have HNEWK := ghid (catB_more keptOut hy b3)
                  have HZK := ghid (keptOut_le hyk.2.2)
                  have CW := ghid (fun W => worded_any y.text W (by omega))
                  obtain ⟨ys, yc, yn, yt⟩ := y
                  simp only at c0 c1 c2 c3 hyk hyr CW
                  have hb8 : Below wy.heap.size wy (wy.alloc (.cells #[.int .i64 ys, .int .i64 yc, .int .i64 yn, .string yt] 64)) := (Below.refl _ _).alloc (Nat.le_refl _) _
                  have hx8 := heap_alloc_new wy (.cells #[.int .i64 ys, .int .i64 yc, .int .i64 yn, .string yt] 64)
                  obtain ⟨W8, hW8⟩ : ∃ W8, W8 = wy.alloc (.cells #[.int .i64 ys, .int .i64 yc, .int .i64 yn, .string yt] 64) := ⟨_, rfl⟩
                  obtain ⟨p8, hp8⟩ : ∃ p8, p8 = wy.heap.size := ⟨_, rfl⟩
                  rw [← hW8] at hb8 hx8
                  rw [← hp8] at hx8
                  have HX8 := ghid hx8
                  have HB8 := ghid (hby.trans (hb8.mono hby.size))
                  obtain ⟨hy1, hy2, -⟩ := hyk
                  have CJ3 := ghid (fun (W : World) (g : Nat) (h : W.heap[g]? = some (.cells #[.int .i64 ys, .int .i64 yc, .int .i64 yn] 3 (0, 0))) => joined_any (.slice (some ⟨g, 0, none⟩) 3 3) [ys, yc, yn] W _ (ints_lit (xs := [ys, yc, yn]) h (by simp)) (Nat.le_refl _) (by intro x hx; simp at hx; omega) (by simp))
                  have hz1 := textOut_le yt 12 hyr.2.2.2.2
                  have hz2 : (catB ([ys, yc, yn].map numOut)).size ≤ 18 := catB_size numOut 6 [ys, yc, yn] (fun x _ => numOut_le x)
                  have HEQK := ghid (keptOut_eq c ys yc yn yt)
                  have HZZK : Hid ((c ++ keptOut ⟨ys, yc, yn, yt⟩).size ≤ 560 + k * 200 + (m + 1) * 40) := by unfold Hid; rw [ByteArray.size_append]; have := HZK.out; omega
                  obtain ⟨tt, htt⟩ : ∃ t, t = textOut yt := ⟨_, rfl⟩
                  obtain ⟨tj, htj⟩ : ∃ t, t = catB ([ys, yc, yn].map numOut) := ⟨_, rfl⟩
                  rw [← htt] at CW hz1 HEQK
                  rw [← htj] at CJ3 hz2 HEQK
                  have hs1 : ¬ 9223372036854775807 < c.size + tj.size := by omega
                  have hs2 : ¬ 9223372036854775807 < c.size + tj.size + tt.size := by omega
                  have HNR : Hid ((W8.alloc (.cells #[.int .i64 ys, .int .i64 yc, .int .i64 yn] 3)).drew.heap[W8.heap.size]? = some (.cells #[.int .i64 ys, .int .i64 yc, .int .i64 yn] 3 (0, 0))) := heap_alloc_new W8 (.cells #[.int .i64 ys, .int .i64 yc, .int .i64 yn] 3)
                  have HW8 := ghid hW8
                  have HP8 := ghid hp8
                  have HC := ghid HCC
                  clear hy hc q4 hby hb8 hx8 hW8 hp8 htt htj hz1 hz2 HCC q3 hyr
                  go_upto_region 25 with fail
                  rw [← HW8.out, ← HP8.out]
                  clear HW8 HP8 c0 c1 c2 c3 u0 u1 u2 u3 u4 uf hul
                  obtain ⟨u0, u1, u2, u3, uf, hul⟩ := state_cells HX8.out
                  go_region_held3 (fun w' => w'.cell? ⟨p8, 0, none⟩ = some (.int .i64 ys) ∧ w'.cell? ⟨p8, 1, none⟩ = some (.int .i64 yc) ∧ w'.cell? ⟨p8, 2, none⟩ = some (.int .i64 yn) ∧ w'.cell? ⟨p8, 3, none⟩ = some (.string yt)) (go_keep)
                    (first
                      | (go_at_call 23; with_reducible refine (CJ3.out (W8.alloc (.cells #[.int .i64 ys, .int .i64 yc, .int .i64 yn] 3)).drew W8.heap.size HNR.out).mono ?_; rintro e w9 ⟨rfl, hb9⟩; have hq9 := behind HX8.out (((Below.refl _ _).alloc (Nat.le_refl _) _).drew) hb9; obtain ⟨y0, y1, y2, y3, -, hyl⟩ := state_cells hq9; have hz9 : Below W8.heap.size W8 w9 := (((Below.refl W8.heap.size W8).alloc (Nat.le_refl _) (.cells #[.int .i64 ys, .int .i64 yc, .int .i64 yn] 3)).drew).trans (hb9.mono (by simp)); clear hb9)
                      | (go_at_call 24; with_reducible refine (CW.out w9).mono ?_; rintro e w10 ⟨rfl, hb10⟩; have hq10 := behind hq9 (Below.refl _ _) hb10; obtain ⟨z0, z1, z2, z3, -, hzl⟩ := state_cells hq10; have hz10 : Below W8.heap.size W8 w10 := hz9.trans (hb10.mono hz9.size); clear hb10))
                  all_goals
                    have HZ10 := ghid (HB8.out.trans (hz10.mono HB8.out.size))
                    clear hz10 hz9 hq9 hq10
                    go_wp2
                    go_roundw
                    case rel => exact ⟨m + 1, c ++ keptOut ⟨ys, yc, yn, yt⟩, by omega, by go_num, by rw [← HEQK.out], by unfold Hid; rw [← HNEWK.out, ← HC.out], HZZK.out, HZ10.out⟩
                    case measure => simp [intOf]; omega
                · have hme : m = xr.length := by omega
                  subst hme
                  rw [List.take_length] at HCC
                  have HZ10 := ghid (HB7.out.trans (hby.mono HB7.out.size))
                  have HC := ghid HCC
                  clear hby HCC
                  go_wp2
                  go_roundw
                  case rel => exact ⟨k + 1, b ++ sessOut ⟨xc, xi, xa, xt, xr⟩, by omega, by go_num, by rw [← HEQ.out, ← HC.out], by unfold Hid; rw [← HNEW.out, ← HB.out], HZZ.out, HZ10.out⟩
                  case measure => simp [intOf]; omega
            · have hke : k = s.sess.length := by omega
              subst hke
              rw [List.take_length] at HBB
              have CS := ghid (sealOf_any b wz (by unfold maxLen; omega))
              have hs4' := sealOut_size b
              have hsum : b.size + (sealOut b).size ≤ 3000 := by omega
              have HFIN : Hid (b ++ sealOut b = snapOut s) := by
                unfold Hid snapOut
                have e : b = snapBody s := by
                  rw [HBB.out, HB2'.out, HB1'.out, HB00.out]
                  simp only [snapBody, List.map_cons, List.map_nil, catB_cons, catB_nil, bnil, ByteArray.append_assoc]
                rw [e]
              obtain ⟨ts, hts⟩ : ∃ t, t = sealOut b := ⟨_, rfl⟩
              rw [← hts] at CS hsum HFIN
              have HZ := ghid (HB2.out.trans ((HB5.out.trans (hbq.mono HB5.out.size)).mono HB2.out.size))
              clear hts hs4' HBB hbq hxr
              go_wp2_with fail
              refine CS.out.mono ?_
              rintro e w7 ⟨rfl, hb7⟩
              have HZ7 := ghid (HZ.out.trans (hb7.mono HZ.out.size))
              clear hb7 CS
              go_wp2
              refine bodyPost_ret (v := .tuple #[.string (b ++ ts), .int .i64 0]) (by simp [results, Try.results9, go_sem]) rfl ?_
              exact ⟨by rw [HFIN.out], HZ7.out⟩

end Go.Proofs.Ytpcacaohknkdlag
