/- The document's NumberOf and TextOf: they answer something, and what is left is no longer than what there was. -/
import Derived.Test.YtkmeiilnjkmkiahRows
import Derived.Test.YtkmeiilnjkmkiahRowG
import Derived.WalkKit
import Derived.ProofKit
import Derived.WalkLawsBesides
import Derived.WalkSpells
import Derived.Deep.QuietTactic
import Derived.BigQuiet
namespace Go.Proofs.Ytkmeiilnjkmkiah
open Go.RowKit

def pw : Nat → Int
  | 0 => 1
  | k + 1 => 128 * pw k

theorem pw_pos (k : Nat) : 1 ≤ pw k := by
  induction k with
  | zero => decide
  | succ k ih => show 1 ≤ 128 * pw k; omega

theorem pw_le {k : Nat} (h : k < 6) : pw k ≤ 34359738368 := by
  match k, h with
  | 0, _ => decide
  | 1, _ => decide
  | 2, _ => decide
  | 3, _ => decide
  | 4, _ => decide
  | 5, _ => decide

def NumSome (s : ByteArray) (w : World) (e : Ending) (w' : World) : Prop :=
  ∃ n t c, e = .returned (.tuple #[.int .i64 n, .string t, .int .i64 c]) ∧ 0 ≤ n ∧ n ≤ 1099511627776 ∧ t.size ≤ s.size ∧ Below w.heap.size w w'

def TextSome (s : ByteArray) (w : World) (e : Ending) (w' : World) : Prop :=
  ∃ a t c, e = .returned (.tuple #[.string a, .string t, .int .i64 c]) ∧ a.size ≤ s.size ∧ t.size ≤ s.size ∧ Below w.heap.size w w'

set_option maxRecDepth 100000 in
set_option maxHeartbeats 1600000 in
theorem numberOf_some (s : ByteArray) (w : World) (_hs : s.size ≤ 140737488351232) :
    Calls Try.prog 29 #[.string s] w (NumSome s w) := by
  go_enter Try.func29, Try.ntmps29
  go_wp2
  go_loop [5, 6, 7] (fun x u i => ∃ (k : Nat) (n : Int), k ≤ 6 ∧ i = .int .i64 k ∧ u = .int .i64 (pw k) ∧ x = .int .i64 n ∧ 0 ≤ n ∧ n < pw k) (fun _ _ i => 6 - (intOf i).toNat)
  case atStart => exact ⟨0, 0, by omega, rfl, rfl, rfl, by omega, by decide⟩
  case round =>
    obtain ⟨k, n, hk, rfl, rfl, rfl, hn0, hn1⟩ := hrel
    have hp1 := pw_pos k
    by_cases h6 : k < 6
    · have hp2 := pw_le h6
      by_cases hlt : k < s.size
      · have hby : ((s[k].toNat : Nat) : Int) ≤ 255 := by have := s[k].toNat_lt; omega
        have hby0 : (0 : Int) ≤ ((s[k].toNat : Nat) : Int) := by omega
        have hm0 : (0 : Int) ≤ pw k * (((s[k].toNat : Nat) : Int) % 128) := Int.mul_nonneg (by omega) (by omega)
        have hm1 : pw k * (((s[k].toNat : Nat) : Int) % 128) ≤ pw k * 127 := Int.mul_le_mul_of_nonneg_left (by omega) (by omega)
        have HPW : Hid (pw (k + 1) = 128 * pw k) := rfl
        obtain ⟨U, hU⟩ : ∃ U, U = pw k := ⟨_, rfl⟩
        rw [← hU] at hp1 hp2 hm0 hm1 hn1 HPW ⊢
        clear hU
        obtain ⟨b, hb⟩ : ∃ b : Int, b = ((s[k].toNat : Nat) : Int) := ⟨_, rfl⟩
        obtain ⟨p, hp⟩ : ∃ p : Int, p = U * (((s[k].toNat : Nat) : Int) % 128) := ⟨_, rfl⟩
        have hpb : p ≤ U * 127 := by rw [hp]; exact hm1
        have hp0 : 0 ≤ p := by rw [hp]; exact hm0
        have hi0 : (0 : Int) ≤ (k : Int) + 1 := by omega
        have hi1 : (k : Int) + 1 ≤ (s.size : Int) := by omega
        by_cases hlo : ((s[k].toNat : Nat) : Int) < 128
        · by_cases hz : 0 < k ∧ ((s[k].toNat : Nat) : Int) = 0
          · have hk0 : (0 : Int) < (k : Int) := by omega
            have hzb : (((s[k].toNat : Nat) : Int) == 0) = true := beq_iff_eq.2 hz.2
            clear hz hb hp
            go_wp2
            all_goals
              go_ret3
              exact ⟨_, _, _, rfl, by omega, by omega, Nat.zero_le _, Below.refl _ _⟩
          · by_cases hbig : 1099511627776 < n + U * (((s[k].toNat : Nat) : Int) % 128)
            · clear hz hb hp
              go_wp2
              all_goals
                go_ret3
                exact ⟨_, _, _, rfl, by omega, by omega, Nat.zero_le _, Below.refl _ _⟩
            · have hfit : n + U * (((s[k].toNat : Nat) : Int) % 128) ≤ 1099511627776 := by omega
              have hnn : 0 ≤ n + U * (((s[k].toNat : Nat) : Int) % 128) := by omega
              have hze : (s.extract ((k : Int) + 1).toNat s.size).size ≤ s.size := by rw [ByteArray.size_extract]; omega
              have hzk : (s.extract (k + 1) s.size).size ≤ s.size := by rw [ByteArray.size_extract]; omega
              have hways : (decide ((0 : Int) < (k : Int)) = false) ∨ (decide ((0 : Int) < (k : Int)) = true ∧ (((s[k].toNat : Nat) : Int) == 0) = false) := by
                by_cases h0 : 0 < k
                · right; exact ⟨by simp; omega, beq_eq_false_iff_ne.2 (fun e => hz ⟨h0, e⟩)⟩
                · left; simp; omega
              clear hz hb hp
              rcases hways with hw1 | ⟨hw1, hw2⟩
              all_goals
                go_wp2_with fail
                all_goals first
                  | (go_ret3
                     exact ⟨_, _, _, rfl, by omega, by omega, Nat.zero_le _, Below.refl _ _⟩)
                  | (go_quiet (fail)
                     go_wp2
                     go_ret3
                     exact ⟨_, _, _, rfl, hnn, hfit, by first | exact hze | exact hzk, g_drewN_below _ _ _⟩)
        · clear hb hp
          go_wp2
          go_round
          case rel => exact ⟨k + 1, n + U * (((s[k].toNat : Nat) : Int) % 128), by omega, by go_num, by rw [HPW.out, Int.mul_comm], rfl, by omega, by rw [HPW.out]; omega⟩
          case measure => simp [intOf]; omega
      · go_wp2
        go_ret3
        exact ⟨_, _, _, rfl, by omega, by omega, Nat.zero_le _, Below.refl _ _⟩
    · go_wp2
      go_ret3
      exact ⟨_, _, _, rfl, by omega, by omega, Nat.zero_le _, Below.refl _ _⟩

set_option maxRecDepth 100000 in
set_option maxHeartbeats 1600000 in
theorem textOf_some (s : ByteArray) (w : World) (hs : s.size ≤ 140737488351232) :
    Calls Try.prog 30 #[.string s] w (TextSome s w) := by
  have CN := ghid (numberOf_some s w hs)
  go_enter Try.func30, Try.ntmps30
  go_wp2_with fail
  refine CN.out.mono ?_
  rintro e w1 ⟨n, t, c, rfl, hn0, hn1, ht, hb1⟩
  have HB1 := ghid hb1
  clear hb1 CN
  by_cases hc : c = 0
  · subst hc
    by_cases h5 : 5000 < n
    · go_wp2
      go_ret3
      exact ⟨_, _, _, rfl, Nat.zero_le _, Nat.zero_le _, HB1.out⟩
    · by_cases hl : (t.size : Int) < n
      · go_wp2
        go_ret3
        exact ⟨_, _, _, rfl, Nat.zero_le _, Nat.zero_le _, HB1.out⟩
      · obtain ⟨m, rfl⟩ : ∃ m : Nat, n = m := ⟨n.toNat, by omega⟩
        have hi1 : (m : Int) ≤ (t.size : Int) := by omega
        have hx1 : (t.extract 0 m).size ≤ s.size := by rw [ByteArray.size_extract]; omega
        have hx2 : (t.extract m t.size).size ≤ s.size := by rw [ByteArray.size_extract]; omega
        go_wp2_with fail
        go_quiet (fail)
        go_wp2
        go_ret3
        exact ⟨_, _, _, rfl, hx1, hx2, HB1.out.trans (g_drewN_below _ _ _)⟩
  · have hcb : (c == 0) = false := by simpa using hc
    have hcn : (c != 0) = true := by simpa using hc
    clear hc
    go_wp2
    go_ret3
    exact ⟨_, _, _, rfl, Nat.zero_le _, Nat.zero_le _, HB1.out⟩
end Go.Proofs.Ytkmeiilnjkmkiah
