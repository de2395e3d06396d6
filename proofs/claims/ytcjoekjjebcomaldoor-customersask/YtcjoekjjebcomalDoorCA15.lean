/- codec.Number and the document's NumberBytes: both return the digits of a number from 0 to 2^40, and refuse all others; codec.Text and the document's TextBytes: the length as a number and the text itself, up to 5000 bytes; longer ones are refused (joined by program) -/
import Derived.Test.YtcjoekjjebcomalDoorRows
import Derived.WalkKit
import Derived.ProofKit
import Derived.OpenShut
import Derived.ShutString
import Derived.WalkLawsBesides
import Derived.Outline
import Derived.Laws.BytesArg
import Derived.WalkSpells
import Derived.Test.YtcjoekjjebcomalDoorCA14
namespace Go.Proofs.YtcjoekjjebcomalDoor

open Go.RowKit

set_option maxRecDepth 100000

theorem Tryd.infoU8 : (Tryd.prog.info? 5).map (fun i => (i.zero, i.size, i.bytes)) = some (some (.int .u8 0), 1, 1) := by kernel_rfl

/-- 'string(v)' of a row of bytes of the call's own. -/
theorem conv_own (W : World) (base : Nat) (v : Value) (n : Nat) (xs : List Int) (h : W.ownsRow base 5 1 v n (xs.map (Value.int .u8))) :
    (convert 71 9 v).run Tryd.prog W = .ok (.string (strOfNums xs)) W := by
  have hl : xs.length = n := by have := h.1; simpa using this
  have hc := fun g => h.cells (g := g)
  rcases h.2 with ⟨rfl, hn⟩ | ⟨g, cap, cur, rfl, _, hg, hle, _, hcs, htake⟩
  · rw [run_convert_bytes_nil W 71 5 Tryd.underlying71 Tryd.underlying5 0 0 9 Tryd.underlying9]
    have : xs = [] := by cases xs with
      | nil => rfl
      | cons a t => simp at hl; omega
    subst this
    rfl
  · refine run_convert_bytes_arg W 71 5 Tryd.underlying71 Tryd.underlying5 g 0 n cap xs hl ?_ 9 Tryd.underlying9
    intro i hi
    have := hc g rfl i (.int .u8 (xs.getD i 0)) (by simp [List.getElem?_map, List.getElem?_eq_getElem (show i < xs.length by omega)])
    have e : (⟨g, 0, none⟩ : Addr).add i = ⟨g, 0 + i, none⟩ := by unfold Addr.add; split <;> simp_all
    rw [← e]; exact this

set_option maxHeartbeats 800000 in
theorem number_ok (n : Int) (w : World) (h0 : 0 ≤ n) (h1 : n ≤ 1099511627776) :
    Calls Tryd.prog 42 #[.int .i64 n] w fun e w' => e = .returned (.tuple #[.string (strOfNums (encN n)), .int .i64 0]) ∧ Below w.heap.size w w' := by
  obtain ⟨i0, hi, hz0, hz1, hz2⟩ := info_parts Tryd.infoU8
  have h0' : ¬ n < 0 := by omega
  have h1' : ¬ 1099511627776 < n := by omega
  go_enter Tryd.func42, Tryd.ntmps42
  go_wp2
  go_loopw [0, 4] (fun x v wr => ∃ (f : Nat) (m : Int) (l : List Int), f ≤ 5 ∧ x = .int .i64 m ∧ 0 ≤ m ∧ m < reach f ∧ m ≤ 1099511627776 ∧ l.length ≤ 5 - f ∧ l ++ enc f m = encN n ∧
      wr.ownsRow w.heap.size 5 1 v l.length (l.map (Value.int .u8)) ∧ Below w.heap.size w wr)
    (fun x _ _ => (intOf x).toNat)
  case atStart => exact ⟨5, n, [], by omega, rfl, h0, by simp [reach]; omega, h1, by simp, rfl, World.ownsRow_nil _ _ _ _, Below.refl _ _⟩
  case round =>
    obtain ⟨f, m, l, hf, rfl, hm0, hm1, hm2, hl, heq, hown, hb⟩ := hrel
    have Heq : Hid (l ++ enc f m = encN n) := heq
    clear heq
    by_cases hlt : m < 128
    · have hst := enc_small f m hlt
      have Hst : Hid (enc f m = [m]) := hst
      clear hst
      go_wp2_with (at_builtin; refine wpList_append_own _ rfl (.tmp 22) (.tmp 25) 71 rfl w.heap.size 5 i0 (.int .u8 0) 1 1 Tryd.underlying71 hi hz0 hz1 hz2 rfl (by decide) _ _ _ rfl (hown.alloc _) ⟨wr.heap.size, 0, none⟩ 1 1 [.int .u8 m] rfl rfl (cell_one_new _ _ _) (by intro u hu; simp at hu; subst hu; rfl) (by unfold maxLen; omega) (by omega) (by have := hb.size; simp; omega) ?_)
      intro v1 w1 hown1 hgrow1 _
      have hcv := conv_own w1 w.heap.size v1 (l.length + 1) (l ++ [m]) (by simpa using hown1)
      have hb1 : Below w.heap.size w w1 := (hb.alloc hb.size _).grown hgrow1 (by have := hb.size; simp; omega) (fun k hk => (hown.lt k hk).1)
      clear hown1 hgrow1 hown hb
      go_wp2
      go_ret2
      exact ⟨by rw [← Heq.out, Hst.out]; rfl, hb1⟩
    · obtain ⟨g, rfl⟩ : ∃ g, f = g + 1 := by
        cases f with
        | zero => simp [reach] at hm1; omega
        | succ g => exact ⟨g, rfl⟩
      have hst := enc_step g m hlt
      have Hst : Hid (enc (g + 1) m = (m % 128 + 128) :: enc g (m / 128)) := hst
      have hrd := reach_div g m hm0 hm1
      have Hrd : Hid (0 ≤ m / 128 ∧ m / 128 < reach g) := hrd
      clear hst hrd hm1
      go_wp2_with (at_builtin; refine wpList_append_own _ rfl (.tmp 13) (.tmp 18) 71 rfl w.heap.size 5 i0 (.int .u8 0) 1 1 Tryd.underlying71 hi hz0 hz1 hz2 rfl (by decide) _ _ _ rfl (hown.alloc _) ⟨wr.heap.size, 0, none⟩ 1 1 [.int .u8 (m % 128 + 128)] rfl rfl (cell_one_new _ _ _) (by intro u hu; simp at hu; subst hu; rfl) (by unfold maxLen; omega) (by omega) (by have := hb.size; simp; omega) ?_)
      intro v1 w1 hown1 hgrow1 _
      have hb1 : Below w.heap.size w w1 := (hb.alloc hb.size _).grown hgrow1 (by have := hb.size; simp; omega) (fun k hk => (hown.lt k hk).1)
      have hown2 : w1.ownsRow w.heap.size 5 1 v1 (l ++ [m % 128 + 128]).length ((l ++ [m % 128 + 128]).map (Value.int .u8)) := by simpa using hown1
      clear hown1 hgrow1 hown hb
      go_wp2
      go_roundw
      case rel => exact ⟨g, m / 128, l ++ [m % 128 + 128], by omega, rfl, Hrd.out.1, Hrd.out.2, by omega, by simp; omega, by rw [← Heq.out, Hst.out]; simp, hown2, hb1⟩
      case measure => simp [intOf]; omega

end Go.Proofs.YtcjoekjjebcomalDoor

namespace Go.Proofs.YtcjoekjjebcomalDoor

open Go.RowKit

/-- A text's bytes: its length, and it. -/
def textOut (s : ByteArray) : ByteArray := strOfNums (encN (s.size : Int)) ++ s

theorem textOut_size (s : ByteArray) : (textOut s).size ≤ s.size + 6 := by
  have h := strOfNums_size (encN (s.size : Int))
  have := encN_length (s.size : Int)
  unfold textOut
  rw [ByteArray.size_append]
  omega

set_option maxHeartbeats 400000 in
theorem text_ok (s : ByteArray) (w : World) (h : s.size ≤ 5000) :
    Calls Tryd.prog 44 #[.string s] w fun e w' => e = .returned (.tuple #[.string (textOut s), .int .i64 0]) ∧ Below w.heap.size w w' := by
  have hz : (strOfNums (encN (s.size : Int))).size + s.size ≤ 5006 := by
    have h := strOfNums_size (encN (s.size : Int))
    have := encN_length (s.size : Int)
    omega
  go_enter Tryd.func44, Tryd.ntmps44
  go_wp2_with fail
  refine (number_ok (s.size : Int) _ (by omega) (by omega)).mono ?_
  rintro e w1 ⟨rfl, g1⟩
  go_wp2
  go_ret2
  exact ⟨rfl, g1⟩

end Go.Proofs.YtcjoekjjebcomalDoor
