/- The law's sameLocks at locks that read the same: true; The law's samePairs; a row of pairs appended to nothing (joined by program) -/
import Derived.WalkKit
import Derived.ProofKit
import Derived.Laws.CopyOwn
import Derived.Laws.AppendOwn
import Derived.RegionTactic
import Derived.Laws.StructEq
import Derived.Deep.QuietTactic
import Derived.BigQuiet
import Derived.Test.YtbmfahgekcnkaaiRC22
import Derived.Test.YtbmfahgekcnkaaiRC19
namespace Go.Proofs.Ytbmfahgekcnkaai

open Go.RowKit

/-- A callee that draws, in a world that has drawn. -/
theorem quiet_drawn {P : Program} {f : FuncId} {args : Array Value} {v : Value} {X : Nat → World} (n : Nat) (hX : ∀ n m, ∃ k, (X n).drewN m = X k) (h : Calls P f args (X n) fun e w' => e = .returned v ∧ ∃ m, w' = (X n).drewN m) :
    Calls P f args (X n) fun e w'' => e = .returned v ∧ ∃ m, w'' = X m := h.mono fun _ _ ⟨he, m, hm⟩ => ⟨he, by obtain ⟨k, hk⟩ := hX n m; exact ⟨k, hm.trans hk⟩⟩

set_option maxRecDepth 100000 in
set_option maxHeartbeats 1600000 in
theorem sameLocks_eq (v u : Value) (ls : List LockD) (w : World) (B B' : Nat) (hv : LocksR w B v ls) (hu : LocksR w B' u ls) :
    Calls Try.prog 49 #[v, u] w fun e w' => e = .returned (.bool true) ∧ ∃ n, w' = w.drewN n := by
  obtain ⟨ao, cap, rfl, h1, h2, h3, h4⟩ := hv
  obtain ⟨au, cau, rfl, g1, g2, g3, g4⟩ := hu
  go_enter Try.func49, Try.ntmps49
  go_wp2
  go_loopw [5] (fun i wr => ∃ k n : Nat, k ≤ ls.length ∧ i = .int .i64 k ∧ wr = w.drewN n) (fun i _ => ls.length - (intOf i).toNat)
  case atStart => exact ⟨0, 0, Nat.zero_le _, rfl, rfl⟩
  case round =>
    obtain ⟨k, n, hk, rfl, rfl⟩ := hrel
    by_cases hlt : k < ls.length
    · obtain ⟨b, off, rfl, hb, hc⟩ := h4 (by omega)
      obtain ⟨b', off', rfl, hb', hc'⟩ := g4 (by omega)
      obtain ⟨x, hx⟩ : ∃ x, ls[k]? = some x := ⟨_, List.getElem?_eq_getElem hlt⟩
      obtain ⟨lv, c0, c1, c2, c3, hl, hs⟩ := hc k x hx
      obtain ⟨lv', d0, d1, d2, d3, hl', hs'⟩ := hc' k x hx
      have HL : Hid (∀ m, IntsR (w.drewN m) B lv x.line) := fun m => hl.below (drewN_below B w m) (Nat.le_refl _)
      have HL' : Hid (∀ m, IntsR (w.drewN m) B' lv' x.line) := fun m => hl'.below (drewN_below B' w m) (Nat.le_refl _)
      obtain ⟨lo, lc, rfl, -⟩ := hl
      obtain ⟨lo', lc', rfl, -⟩ := hl'
      obtain ⟨xn, xh, xf, xl⟩ := x
      simp only at c0 c1 c2 c3 d0 d1 d2 d3 HL HL'
      clear hx hc h4 hc' g4
      go_wp2
      go_quiet ((go_at_call 70; exact quiet_drawn _ (fun n m => ⟨_, by simp [Nat.add_assoc]; rfl⟩) (sameInts_eq _ _ xl _ B B' (HL.out _) (HL'.out _))))
      go_wp2
      go_roundw
      case rel => exact ⟨k + 1, _, by omega, by go_num, rfl⟩
      case measure => simp [intOf]; omega
    · go_wp2
      go_ret
      exact ⟨rfl, n, rfl⟩

end Go.Proofs.Ytbmfahgekcnkaai

namespace Go.Proofs.Ytbmfahgekcnkaai

open Go.RowKit

theorem pair_neq (a s : ByteArray) (m : Int) (w : World) : (binOp .neq 78 (.agg #[.string a, .string s, .int .i64 m]) (.agg #[.string a, .string s, .int .i64 m])).run Try.prog w = .ok (.bool false) w := by
  have u3 := Try.underlying3
  have a3 := Try.isAgg3
  have z3 := Try.sizeOf3
  have u9 := Try.underlying9
  have a9 := Try.isAgg9
  have z9 := Try.sizeOf9
  have hS : Try.prog.underlying 78 = some (.struct (Try.prog.fieldsOf 78)) := by kernel_rfl
  have hp : Try.prog.stoodInHeld 78 = false := by kernel_rfl
  rw [run_neq_struct, show (10000 : Nat) = 9999 + 1 from rfl, run_equalIn_agg w 9999 78 _ _ hS hp]
  simp only [Program.fieldsOf, Try.underlying78]
  go_simp

set_option maxRecDepth 100000 in
set_option maxHeartbeats 1600000 in
theorem samePairs_eq (v u : Value) (ps : List PairD) (w : World) (B B' : Nat) (hv : PairsR w B v ps) (hu : PairsR w B' u ps) :
    Calls Try.prog 50 #[v, u] w fun e w' => e = .returned (.bool true) ∧ ∃ n, w' = w.drewN n := by
  obtain ⟨ao, cap, rfl, h1, h2, h3, h4⟩ := hv
  obtain ⟨au, cau, rfl, g1, g2, g3, g4⟩ := hu
  go_enter Try.func50, Try.ntmps50
  go_wp2
  go_loopw [5] (fun i wr => ∃ k n : Nat, k ≤ ps.length ∧ i = .int .i64 k ∧ wr = w.drewN n) (fun i _ => ps.length - (intOf i).toNat)
  case atStart => exact ⟨0, 0, Nat.zero_le _, rfl, rfl⟩
  case round =>
    obtain ⟨k, n, hk, rfl, rfl⟩ := hrel
    by_cases hlt : k < ps.length
    · obtain ⟨b, off, rfl, hb, hc⟩ := h4 (by omega)
      obtain ⟨b', off', rfl, hb', hc'⟩ := g4 (by omega)
      obtain ⟨x, hx⟩ : ∃ x, ps[k]? = some x := ⟨_, List.getElem?_eq_getElem hlt⟩
      obtain ⟨c0, c1, c2, -⟩ := hc k x hx
      obtain ⟨d0, d1, d2, -⟩ := hc' k x hx
      obtain ⟨xn, xv, xe⟩ := x
      simp only at c0 c1 c2 d0 d1 d2
      have hq := fun w => pair_neq xn xv xe w
      have hgd : Try.prog.eqGuardType Try.prog.depth 78 = false := by kernel_rfl
      clear hx hc h4 hc' g4
      go_wp2
      go_quiet (fail)
      go_wp2
      go_roundw
      case rel => exact ⟨k + 1, _, by omega, by go_num, rfl⟩
      case measure => simp [intOf]; omega
    · go_wp2
      go_ret
      exact ⟨rfl, n, rfl⟩

end Go.Proofs.Ytbmfahgekcnkaai
