/- The law's sameSessions at sessions that read the same: true; The law's sameState, at two values that read as one state (joined by program) -/
import Derived.Laws.StructEq
import Derived.Deep.QuietTactic
import Derived.BigQuiet
import Derived.Test.YtbmfahgekcnkaaiRC05
import Derived.Test.YtbmfahgekcnkaaiRC06
import Derived.Test.YtbmfahgekcnkaaiRC23
namespace Go.Proofs.Ytbmfahgekcnkaai

open Go.RowKit

theorem reply_eqIn (d : Nat) (c m : Int) (s : ByteArray) (w : World) : (Op.equalIn (d + 2) 83 (.agg #[.int .i64 c, .int .i64 m, .string s]) (.agg #[.int .i64 c, .int .i64 m, .string s])).run Try.prog w = .ok true w := by
  have u3 := Try.underlying3
  have a3 := Try.isAgg3
  have z3 := Try.sizeOf3
  have u9 := Try.underlying9
  have a9 := Try.isAgg9
  have z9 := Try.sizeOf9
  have u2 := Try.underlying25
  have a2 := Try.isAgg25
  have z2 := Try.sizeOf25
  have hS : Try.prog.underlying 83 = some (.struct (Try.prog.fieldsOf 83)) := by kernel_rfl
  have hp : Try.prog.stoodInHeld 83 = false := by kernel_rfl
  rw [run_equalIn_agg w (d + 1) 83 _ _ hS hp]
  simp only [Program.fieldsOf, Try.underlying83]
  go_simp

theorem kept_neq (q c m : Int) (s : ByteArray) (w : World) : (binOp .neq 85 (.agg #[.int .i64 q, .int .i64 c, .int .i64 m, .string s]) (.agg #[.int .i64 q, .int .i64 c, .int .i64 m, .string s])).run Try.prog w = .ok (.bool false) w := by
  have u3 := Try.underlying3
  have a3 := Try.isAgg3
  have z3 := Try.sizeOf3
  have a4 := Try.isAgg83
  have z4 := Try.sizeOf83
  have hr := reply_eqIn 9997 c m s
  have hS : Try.prog.underlying 85 = some (.struct (Try.prog.fieldsOf 85)) := by kernel_rfl
  have hp : Try.prog.stoodInHeld 85 = false := by kernel_rfl
  rw [run_neq_struct, show (10000 : Nat) = 9999 + 1 from rfl, run_equalIn_agg w 9999 85 _ _ hS hp]
  simp only [Program.fieldsOf, Try.underlying85]
  go_simp

set_option maxRecDepth 100000 in
set_option maxHeartbeats 3200000 in
theorem sameSess_eq (v u : Value) (ls : List SessD) (w : World) (B B' : Nat) (hv : SessR w B v ls) (hu : SessR w B' u ls) (hB : B ≤ w.heap.size) (hB' : B' ≤ w.heap.size) :
    Calls Try.prog 51 #[v, u] w fun e w' => e = .returned (.bool true) ∧ Below w.heap.size w w' := by
  obtain ⟨ao, cap, rfl, h1, h2, h3, h4⟩ := hv
  obtain ⟨au, cau, rfl, g1, g2, g3, g4⟩ := hu
  go_enter Try.func51, Try.ntmps51
  go_wp2
  go_loopw [5] (fun i wr => ∃ k : Nat, k ≤ ls.length ∧ i = .int .i64 k ∧ Below w.heap.size w wr) (fun i _ => ls.length - (intOf i).toNat)
  case atStart => exact ⟨0, Nat.zero_le _, rfl, Below.refl _ _⟩
  case round =>
    obtain ⟨k, hk, rfl, hb⟩ := hrel
    rename World => wq
    have hsz := hb.size
    by_cases hlt : k < ls.length
    · obtain ⟨b, off, rfl, hbB, hc⟩ := h4 (by omega)
      obtain ⟨b', off', rfl, hbB', hc'⟩ := g4 (by omega)
      obtain ⟨x, hx⟩ : ∃ x, ls[k]? = some x := ⟨_, List.getElem?_eq_getElem hlt⟩
      obtain ⟨lv, c0, c1, c2, c3, c4, hl, -⟩ := (hc k x hx).below hbB hb hB
      obtain ⟨lv', d0, d1, d2, d3, d4, hl', -⟩ := (hc' k x hx).below hbB' hb hB'
      have hbr : b < wq.heap.size := by omega
      have hbr' : b' < wq.heap.size := by omega
      obtain ⟨lo, lc, rfl, m1, m2, m3, m4⟩ := hl
      obtain ⟨lo', lc', rfl, n1, n2, n3, n4⟩ := hl'
      obtain ⟨xc, xi, xa, xt, xk⟩ := x
      simp only at c0 c1 c2 c3 c4 d0 d1 d2 d3 d4 m1 m2 m3 m4 n1 n2 n3 n4
      have HB := ghid hb
      clear hx hc h4 hc' g4 hb
      go_wp2
      go_loopw [8] (fun j wi => ∃ m n : Nat, m ≤ xk.length ∧ j = .int .i64 m ∧ wi = ((wq.alloc (.cells #[.int .i64 xc, .int .i64 xi, .int .i64 xa, .int .i64 xt, .slice lo xk.length lc] 81)).alloc (.cells #[.int .i64 xc, .int .i64 xi, .int .i64 xa, .int .i64 xt, .slice lo' xk.length lc'] 81)).drewN n) (fun j _ => xk.length - (intOf j).toNat)
      case atStart => exact ⟨0, 0, Nat.zero_le _, rfl, rfl⟩
      case round =>
        obtain ⟨m, n, hm, rfl, rfl⟩ := hrel
        by_cases hml : m < xk.length
        · obtain ⟨kb, kf, rfl, hkB, hkc⟩ := m4 (by omega)
          obtain ⟨kb', kf', rfl, hkB', hkc'⟩ := n4 (by omega)
          obtain ⟨y, hy⟩ : ∃ y, xk[m]? = some y := ⟨_, List.getElem?_eq_getElem hml⟩
          obtain ⟨e0, e1, e2, e3, -⟩ := hkc m y hy
          obtain ⟨f0, f1, f2, f3, -⟩ := hkc' m y hy
          have hkr : kb < wq.heap.size := by omega
          have hkr' : kb' < wq.heap.size := by omega
          obtain ⟨ys, yc, yn, yt⟩ := y
          simp only at e0 e1 e2 e3 f0 f1 f2 f3
          have hq := fun w => kept_neq ys yc yn yt w
          have hgd : Try.prog.eqGuardType Try.prog.depth 85 = false := by kernel_rfl
          clear hy hkc m4 hkc' n4
          go_wp2
          go_quiet (fail)
          go_wp2
          go_roundw
          case rel => exact ⟨m + 1, _, by omega, by go_num, rfl⟩
          case measure => simp [intOf]; omega
        · go_wp2
          go_roundw
          case rel => exact ⟨k + 1, by omega, by go_num, (HB.out.trans (((Below.refl _ _).alloc hsz _).alloc (by simp; omega) _)).trans (g_drewN_below _ _ _)⟩
          case measure => simp [intOf]; omega
    · go_wp2
      go_ret
      exact ⟨rfl, hb⟩

end Go.Proofs.Ytbmfahgekcnkaai

namespace Go.Proofs.Ytbmfahgekcnkaai

open Go.RowKit

set_option maxHeartbeats 1600000 in
theorem sameState_eq (v u : Value) (s : StateD) (w : World) (B B' : Nat) (hv : StateR w B v s) (hu : StateR w B' u s) (hB : B ≤ w.heap.size) (hB' : B' ≤ w.heap.size) :
    Calls Try.prog 30 #[v, u] w fun e w' => e = .returned (.bool true) ∧ Below w.heap.size w w' := by
  obtain ⟨lv, pv, sv, rfl, h1, h2, h3⟩ := hv
  obtain ⟨lu, pu, su, rfl, g1, g2, g3⟩ := hu
  have CL := ghid (fun (w' : World) (hb : Below w.heap.size w w') => sameLocks_eq lv lu s.locks w' B B' (h1.below hb hB) (g1.below hb hB'))
  have CP := ghid (fun (w' : World) (hb : Below w.heap.size w w') => samePairs_eq pv pu s.pairs w' B B' (h2.below hb hB) (g2.below hb hB'))
  have CS := ghid (fun (w' : World) (hb : Below w.heap.size w w') => sameSess_eq sv su s.sess w' B B' (h3.below hb hB) (g3.below hb hB') (by have := hb.size; omega) (by have := hb.size; omega))
  obtain ⟨lo, lc, rfl⟩ := h1.slice
  obtain ⟨po, pc, rfl⟩ := h2.slice
  obtain ⟨so, sc, rfl⟩ := h3.slice
  obtain ⟨lo', lc', rfl⟩ := g1.slice
  obtain ⟨po', pc', rfl⟩ := g2.slice
  obtain ⟨so', sc', rfl⟩ := g3.slice
  have HB0 : Hid (Below w.heap.size w ((w.alloc (.cells #[.int .i64 s.index, .slice lo s.locks.length lc, .slice po s.pairs.length pc, .slice so s.sess.length sc] 38)).alloc (.cells #[.int .i64 s.index, .slice lo' s.locks.length lc', .slice po' s.pairs.length pc', .slice so' s.sess.length sc'] 38))) := ((Below.refl w.heap.size w).alloc (Nat.le_refl _) _).alloc (by simp) _
  clear h1 h2 h3 g1 g2 g3
  go_enter Try.func30, Try.ntmps30
  go_wp2_with fail
  refine (CL.out _ HB0.out).mono ?_
  rintro e w1 ⟨rfl, n1, rfl⟩
  have HB1 := ghid (HB0.out.trans (g_drewN_below w.heap.size _ n1))
  go_wp2_with fail
  refine (CP.out _ HB1.out).mono ?_
  rintro e w2 ⟨rfl, n2, rfl⟩
  go_wp2_with fail
  refine (CS.out _ (HB0.out.trans (g_drewN_below _ _ _))).mono ?_
  rintro e w3 ⟨rfl, hb3⟩
  have HB3 := ghid ((HB0.out.trans (g_drewN_below _ _ _)).trans (hb3.mono (by simp; omega)))
  clear hb3
  go_wp2
  go_ret
  exact ⟨rfl, HB3.out⟩

end Go.Proofs.Ytbmfahgekcnkaai
