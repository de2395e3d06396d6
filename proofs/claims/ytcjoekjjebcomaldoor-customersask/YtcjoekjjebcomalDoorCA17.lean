/- The bytes of a command. It imports no program of its own; Commands held against one another (joined by program) -/
import Derived.Laws.StructEq
import Derived.Test.YtcjoekjjebcomalDoorCA15
import Derived.Test.YtcjoekjjebcomalDoorCA16
import Derived.Test.YtcjoekjjebcomalDoorCA06
import Derived.Test.YtcjoekjjebcomalDoorCA00
namespace Go.Proofs.YtcjoekjjebcomalDoor

open Go.RowKit

/-- A number's bytes. -/
def numOut (n : Int) : ByteArray := strOfNums (encN n)

/-- What a Call has behind its head. -/
def callOut (c : CmdD) : ByteArray := numOut c.session ++ (numOut c.seq ++ (numOut c.acked ++ (numOut c.ok ++ (numOut c.n ++ (textOut c.a ++ textOut c.b)))))

/-- A command's bytes. -/
def cmdOut (c : CmdD) : ByteArray := if c.kind = 2 then strOfNums [c.kind, c.client] ++ callOut c else strOfNums [c.kind, c.client]

theorem size_list (s : ByteArray) : s.data.toList.length = s.size := by simp

theorem bytes_ext {a b : ByteArray} (h : a.data.toList = b.data.toList) : a = b := ByteArray.ext (Array.toList_inj.1 h)

theorem nsize (n : Int) : (numOut n).size = (encN n).length := strOfNums_size _

theorem textOut_le (s : ByteArray) (n : Nat) (h : s.size ≤ n) : (textOut s).size ≤ n + 6 := by
  have := textOut_size s
  omega

theorem numOut_le (n : Int) : (numOut n).size ≤ 6 := by rw [nsize]; exact (encN_length n).2

end Go.Proofs.YtcjoekjjebcomalDoor

namespace Go.Proofs.YtcjoekjjebcomalDoor

open Go.RowKit

set_option maxHeartbeats 1600000 in
theorem op_eqIn (d : Nat) (k n k' n' : Int) (a b a' b' : ByteArray) (w : World) : (Op.equalIn (d + 2) 32 (.agg #[.int .i64 k, .string a, .string b, .int .i64 n]) (.agg #[.int .i64 k', .string a', .string b', .int .i64 n'])).run Tryd.prog w = .ok (k == k' && (a.toList == a'.toList && (b.toList == b'.toList && n == n'))) w := by
  have u3 := Tryd.underlying3
  have a3 := Tryd.isAgg3
  have z3 := Tryd.sizeOf3
  have u9 := Tryd.underlying9
  have a9 := Tryd.isAgg9
  have z9 := Tryd.sizeOf9
  have hS : Tryd.prog.underlying 32 = some (.struct (Tryd.prog.fieldsOf 32)) := by kernel_rfl
  have hp : Tryd.prog.stoodInHeld 32 = false := by kernel_rfl
  rw [run_equalIn_agg w (d + 1) 32 _ _ hS hp]
  simp only [Program.fieldsOf, Tryd.underlying32]
  go_simp
  by_cases h1 : k = k'
  · by_cases h2 : a.toList = a'.toList
    · by_cases h3 : b.toList = b'.toList
      · by_cases h4 : n = n'
        · simp [h1, h2, h3, h4]
        · simp [h1, h2, h3, h4]
      · simp [h1, h2, h3]
    · simp [h1, h2]
  · simp [h1]

set_option maxHeartbeats 1600000 in
/-- Two commands are equal where all their parts are. -/
theorem cmd_eqIn (d : Nat) (k c s q u ok n k' c' s' q' u' ok' n' : Int) (a b a' b' : ByteArray) (w : World) :
    (Op.equalIn (d + 3) 45 (.agg #[.int .i64 k, .int .i64 c, .int .i64 s, .int .i64 q, .int .i64 u, .int .i64 ok, .string a, .string b, .int .i64 n]) (.agg #[.int .i64 k', .int .i64 c', .int .i64 s', .int .i64 q', .int .i64 u', .int .i64 ok', .string a', .string b', .int .i64 n'])).run Tryd.prog w
      = .ok (k == k' && (c == c' && (s == s' && (q == q' && (u == u' && (ok == ok' && (a.toList == a'.toList && (b.toList == b'.toList && n == n')))))))) w := by
  have u3 := Tryd.underlying3
  have a3 := Tryd.isAgg3
  have z3 := Tryd.sizeOf3
  have a34 := Tryd.isAgg32
  have z34 := Tryd.sizeOf32
  have ho := op_eqIn d ok n ok' n' a b a' b'
  have hS : Tryd.prog.underlying 45 = some (.struct (Tryd.prog.fieldsOf 45)) := by kernel_rfl
  have hp : Tryd.prog.stoodInHeld 45 = false := by kernel_rfl
  rw [run_equalIn_agg w (d + 2) 45 _ _ hS hp]
  simp only [Program.fieldsOf, Tryd.underlying45]
  go_simp
  by_cases h1 : k = k'
  · by_cases h2 : c = c'
    · by_cases h3 : s = s'
      · by_cases h4 : q = q'
        · by_cases h5 : u = u'
          · cases h6 : (ok == ok' && (a.toList == a'.toList && (b.toList == b'.toList && n == n')))
            · simp [h1, h2, h3, h4, h5]; simpa using h6
            · simp [h1, h2, h3, h4, h5]; simpa using h6
          · simp [h1, h2, h3, h4, h5]
        · simp [h1, h2, h3, h4]
      · simp [h1, h2, h3]
    · simp [h1, h2]
  · simp [h1]

/-- Is a command empty but for its kind and its client? -/
theorem cmd_empty (k c s q u ok n : Int) (a b : ByteArray) (h : s = 0 ∧ q = 0 ∧ u = 0 ∧ ok = 0 ∧ a.size = 0 ∧ b.size = 0 ∧ n = 0) (w : World) :
    (binOp .neq 45 (.agg #[.int .i64 k, .int .i64 c, .int .i64 s, .int .i64 q, .int .i64 u, .int .i64 ok, .string a, .string b, .int .i64 n]) (.agg #[.int .i64 k, .int .i64 c, .int .i64 0, .int .i64 0, .int .i64 0, .int .i64 0, .string ⟨#[]⟩, .string ⟨#[]⟩, .int .i64 0])).run Tryd.prog w = .ok (.bool false) w := by
  obtain ⟨rfl, rfl, rfl, rfl, ha, hb, rfl⟩ := h
  obtain rfl := size_zero ha
  obtain rfl := size_zero hb
  rw [run_neq_struct, show (10000 : Nat) = 9997 + 3 from rfl, cmd_eqIn]
  simp

theorem cmd_filled (k c s q u ok n : Int) (a b : ByteArray) (h : ¬ (s = 0 ∧ q = 0 ∧ u = 0 ∧ ok = 0 ∧ a.size = 0 ∧ b.size = 0 ∧ n = 0)) (w : World) :
    (binOp .neq 45 (.agg #[.int .i64 k, .int .i64 c, .int .i64 s, .int .i64 q, .int .i64 u, .int .i64 ok, .string a, .string b, .int .i64 n]) (.agg #[.int .i64 k, .int .i64 c, .int .i64 0, .int .i64 0, .int .i64 0, .int .i64 0, .string ⟨#[]⟩, .string ⟨#[]⟩, .int .i64 0])).run Tryd.prog w = .ok (.bool true) w := by
  rw [run_neq_struct, show (10000 : Nat) = 9997 + 3 from rfl, cmd_eqIn]
  have hx : (k == k && (c == c && (s == 0 && (q == 0 && (u == 0 && (ok == 0 && (a.toList == (⟨#[]⟩ : ByteArray).toList && (b.toList == (⟨#[]⟩ : ByteArray).toList && n == 0)))))))) = false := by
    cases hc : (k == k && (c == c && (s == 0 && (q == 0 && (u == 0 && (ok == 0 && (a.toList == (⟨#[]⟩ : ByteArray).toList && (b.toList == (⟨#[]⟩ : ByteArray).toList && n == 0)))))))) with
    | false => rfl
    | true =>
      simp only [Bool.and_eq_true, beq_iff_eq, ByteArray.toList_eq] at hc
      obtain ⟨-, -, e1, e2, e3, e4, e5, e6, e7⟩ := hc
      refine absurd ⟨e1, e2, e3, e4, ?_, ?_, e7⟩ h
      · have : a.data.toList.length = a.size := by simp
        rw [← this, e5]; rfl
      · have : b.data.toList.length = b.size := by simp
        rw [← this, e6]; rfl
  rw [hx]
  rfl

end Go.Proofs.YtcjoekjjebcomalDoor
