/- Builders: what stands when other memory is made; command.callBytes: what a Call has behind its head, as bytes (joined by program) -/
import Derived.Test.YtcjoekjjebcomalDoorCA18
import Derived.Test.YtcjoekjjebcomalDoorCA17
namespace Go.Proofs.YtcjoekjjebcomalDoor

open Go.RowKit

theorem grownC {w w' : World} (h : Below w.heap.size w w') (row : Option Nat) : w.grownBy w' row := ⟨h.os, h.tape, h.output, h.size, fun i hi _ => h.block i hi⟩

theorem BuilderAtF_below {T e : TypeId} {B b : Nat} {p : Value} {bs : List Value} {w w' : World} (h : Lib.BuilderAtF T e B b p bs w) (hb : Below w.heap.size w w') : Lib.BuilderAtF T e B b p bs w' := by
  have hlt := h.lt
  obtain ⟨hB, v, hbk, hown, hne⟩ := h
  refine ⟨hB, v, (hb.block b hlt).trans hbk, hown.kept (grownC hb none) ?_, hne⟩
  cases v.ownBlock with
  | none => exact Or.inl rfl
  | some x => exact Or.inr (by simp)

theorem BuiltB.below {B b : Nat} {l : List UInt8} {w w' : World} (h : BuiltB B b l w) (hb : Below w.heap.size w w') : BuiltB B b l w' := by
  rcases h with h | h
  · exact Or.inl (BuilderAtF_below h hb)
  · exact Or.inr (BuilderAtF_below h hb)

theorem BuiltB.lt {B b : Nat} {l : List UInt8} {w : World} (h : BuiltB B b l w) : B ≤ b ∧ b < w.heap.size := by
  rcases h with h | h
  · exact ⟨h.1, h.lt⟩
  · exact ⟨h.1, h.lt⟩

/-- A row that is no row of bytes stands. -/
theorem kept_row {b : Nat} {w w' : World} (h : Lib.OthersKept 5 (some b) w w') {g : Nat} {cs : Array Value} {t : TypeId} (hg : w.heap[g]? = some (.cells cs t (0, 0))) (hne : g ≠ b) (ht : t ≠ 5) : w'.heap[g]? = some (.cells cs t (0, 0)) :=
  h g _ hg (by intro e; exact hne (Option.some.inj e)) (by intro c fz e; cases e; exact ht rfl)

theorem take_snocC {α : Type} {xs : List α} {k : Nat} {x : α} (h : xs[k]? = some x) : xs.take (k + 1) = xs.take k ++ [x] := by
  rw [List.take_add_one, h]
  rfl

end Go.Proofs.YtcjoekjjebcomalDoor

namespace Go.Proofs.YtcjoekjjebcomalDoor

open Go.RowKit

/-- The bytes of numbers, one behind another. -/
def numsB (xs : List Int) : List UInt8 := xs.flatMap fun n => (strOfNums (encN n)).data.toList

theorem numsB_snoc (xs : List Int) (n : Int) : numsB (xs ++ [n]) = numsB xs ++ (strOfNums (encN n)).data.toList := by simp [numsB]

theorem numsB_len (xs : List Int) : (numsB xs).length ≤ 6 * xs.length := by
  induction xs with
  | nil => simp [numsB]
  | cons x t ih =>
    have h1 := (encN_length x).2
    have h2 := strOfNums_size (encN x)
    have h3 : (strOfNums (encN x)).data.toList.length = (strOfNums (encN x)).size := by simp
    have e : numsB (x :: t) = (strOfNums (encN x)).data.toList ++ numsB t := by simp [numsB]
    rw [e, List.length_append, List.length_cons]
    omega

set_option maxRecDepth 100000 in
set_option maxHeartbeats 6400000 in
theorem callBytes_any (k c s q u ok : Int) (a b : ByteArray) (n : Int) (w : World) (hN : ∀ x ∈ [s, q, u, ok, n], 0 ≤ x ∧ x ≤ 1099511627776) (ha : a.size ≤ 5000) (hb : b.size ≤ 5000) :
    Calls Tryd.prog 30 #[.agg #[.int .i64 k, .int .i64 c, .int .i64 s, .int .i64 q, .int .i64 u, .int .i64 ok, .string a, .string b, .int .i64 n]] w fun e w' => e = .returned (.string ⟨(numsB [s, q, u, ok, n] ++ ((textOut a).data.toList ++ (textOut b).data.toList)).toArray⟩) ∧ Below w.heap.size w w' := by
  have HBX := chid (cbox w k c s q u ok a b n)
  have HN := chid hN
  clear hN
  obtain ⟨w0, hw0⟩ : ∃ w0, w0 = w.alloc (.cells #[.int .i64 k, .int .i64 c, .int .i64 s, .int .i64 q, .int .i64 u, .int .i64 ok, .string a, .string b, .int .i64 n] 45) := ⟨_, rfl⟩
  have hz0 : w0.heap.size = w.heap.size + 1 := by rw [hw0]; simp
  have HG0 : Hid (w0.heap[w.heap.size]? = some (.cells #[.int .i64 k, .int .i64 c, .int .i64 s, .int .i64 q, .int .i64 u, .int .i64 ok, .string a, .string b, .int .i64 n] 45 (0, 0))) := by rw [hw0]; exact heap_alloc_new w _
  have HF : Hid (BuiltB w0.heap.size w0.heap.size [] (w0.alloc (.cells #[.pointer none, .slice none 0 0] 87))) := Lib.IsBuilderF.of (Lib.fresh_isBuilder 87 5 w0)
  rw [← hw0] at HBX
  have HW0 := chid hw0
  clear hw0
  go_enter Tryd.func30, Tryd.ntmps30
  go_wp2
  go_loopw [26] (fun i wr => ∃ j : Nat, j ≤ 5 ∧ i = .int .i64 j ∧ BuiltB (w.heap.size + 1) (w.heap.size + 1) (numsB ([s, q, u, ok, n].take j)) wr ∧ wr.heap[w.heap.size + 2]? = some (.cells #[.int .i64 s, .int .i64 q, .int .i64 u, .int .i64 ok, .int .i64 n] 3 (0, 0)) ∧ Below (w.heap.size + 1) w0 wr) (fun i _ => 5 - (intOf i).toNat)
  case atStart =>
    refine ⟨0, by omega, rfl, ?_, ?_, ?_⟩
    · have h := HF.out
      rw [hz0] at h
      rw [HW0.out] at h
      exact Lib.IsBuilderF.alloc h _
    · have := heap_alloc_new ((w.alloc (.cells #[.int .i64 k, .int .i64 c, .int .i64 s, .int .i64 q, .int .i64 u, .int .i64 ok, .string a, .string b, .int .i64 n] 45)).alloc (.cells #[.pointer none, .slice none 0 0] 87)) (.cells #[.int .i64 s, .int .i64 q, .int .i64 u, .int .i64 ok, .int .i64 n] 3)
      simpa using this
    · rw [HW0.out]
      exact ((Below.refl _ _).alloc (by simp) _).alloc (by simp) _
  case round =>
    obtain ⟨j, hj, rfl, hbt, hrow, hbw⟩ := hrel
    have HT := chid hbt
    have HR := chid hrow
    have HB := chid hbw
    have hzr : w.heap.size + 2 < wr.heap.size := (Array.getElem?_eq_some_iff.1 hrow).1
    clear hbt hrow hbw
    by_cases hlt : j < 5
    · obtain ⟨x, hx⟩ : ∃ x, [s, q, u, ok, n][j]? = some x := ⟨_, List.getElem?_eq_getElem (by simpa using hlt)⟩
      have hxm := HN.out x (List.mem_of_getElem? hx)
      have HX := chid hx
      have hcx : wr.cell? ⟨w.heap.size + 2, j, none⟩ = some (.int .i64 x) := by
        rw [Lib.cell_of_heap HR.out]
        have e : (#[Value.int .i64 s, .int .i64 q, .int .i64 u, .int .i64 ok, .int .i64 n])[j]? = ([s, q, u, ok, n].map (Value.int .i64))[j]? := by simp
        rw [e, List.getElem?_map, HX.out]
        rfl
      have hl : (numsB ([s, q, u, ok, n].take j)).length ≤ 30 := by
        have h1 := numsB_len ([s, q, u, ok, n].take j)
        have h2 : ([s, q, u, ok, n].take j).length ≤ 5 := by rw [List.length_take]; simp; omega
        omega
      have hsx : (strOfNums (encN x)).size ≤ 6 := by rw [strOfNums_size]; exact (encN_length x).2
      have CN := chid (fun w => number_ok x w hxm.1 hxm.2)
      obtain ⟨t, ht⟩ : ∃ t, t = strOfNums (encN x) := ⟨_, rfl⟩
      rw [← ht] at CN hsx
      have HTT := chid ht
      clear hx hxm ht
      go_wp2_with fail
      refine (CN.out _).mono ?_
      rintro e w2 ⟨rfl, hb2⟩
      have HT2 := chid (HT.out.below hb2)
      have HR2 : Hid (w2.heap[w.heap.size + 2]? = _) := (hb2.block _ hzr).trans HR.out
      have HB2 := chid (HB.out.trans (hb2.mono (by omega)))
      have hz2 : wr.heap.size ≤ w2.heap.size := hb2.size
      clear hb2 hcx
      go_wp2_with fail
      refine (writeString_any (w.heap.size + 1) (w.heap.size + 1) _ t w2 HT2.out (by omega) (by omega)).mono ?_
      rintro e w3 ⟨rfl, hb3, hb4, hk3⟩
      have HT3 := chid hb3
      have HR3 := chid (kept_row hk3 HR2.out (by omega) (by decide))
      have HB3 := chid (HB2.out.trans hb4)
      clear hb3 hb4 hk3
      go_wp2
      go_roundw
      case rel =>
        refine ⟨j + 1, by omega, by go_num, ?_, HR3.out, HB3.out⟩
        rw [take_snocC HX.out, numsB_snoc, ← HTT.out]
        exact HT3.out
      case measure => simp [intOf]; omega
    · rename World => wq
      obtain rfl : j = 5 := by omega
      have hG := (HB.out.block _ (by omega)).trans HG0.out
      have s6 : wq.cell? ⟨w.heap.size, 6, none⟩ = some (.string a) := cell_of_row wq w.heap.size 6 _ _ _ hG
      have s7 : wq.cell? ⟨w.heap.size, 7, none⟩ = some (.string b) := cell_of_row wq w.heap.size 7 _ _ _ hG
      clear hG hlt hj
      go_wp2
      go_loopw [46] (fun i wr => ∃ j : Nat, j ≤ 2 ∧ i = .int .i64 j ∧ BuiltB (w.heap.size + 1) (w.heap.size + 1) (numsB [s, q, u, ok, n] ++ ([a, b].take j).flatMap fun x => (textOut x).data.toList) wr ∧ wr.heap[wq.heap.size]? = some (.cells #[.string a, .string b] 9 (0, 0)) ∧ Below (w.heap.size + 1) w0 wr) (fun i _ => 2 - (intOf i).toNat)
      case atStart =>
        refine ⟨0, by omega, rfl, ?_, ?_, ?_⟩
        · have h := HT.out
          simp only [List.take_zero, List.flatMap_nil, List.append_nil]
          exact Lib.IsBuilderF.alloc h _
        · exact heap_alloc_new wq _
        · exact HB.out.alloc (by omega) _
      case round =>
        obtain ⟨j, hj, rfl, hbt, hrow, hbw⟩ := hrel
        have HT' := chid hbt
        have HR' := chid hrow
        have HB' := chid hbw
        have hzr' : wq.heap.size < wr.heap.size := (Array.getElem?_eq_some_iff.1 hrow).1
        clear hbt hrow hbw
        have hln : (numsB [s, q, u, ok, n]).length ≤ 30 := numsB_len [s, q, u, ok, n]
        have hta := textOut_size a
        have htb := textOut_size b
        have hda : (textOut a).data.toList.length = (textOut a).size := by simp
        have hdb : (textOut b).data.toList.length = (textOut b).size := by simp
        by_cases hlt : j < 2
        · obtain ⟨x, hx⟩ : ∃ x, [a, b][j]? = some x := ⟨_, List.getElem?_eq_getElem (by simpa using hlt)⟩
          have hxs : x.size ≤ 5000 := by
            have := List.mem_of_getElem? hx
            simp at this
            rcases this with rfl | rfl
            · exact ha
            · exact hb
          have hl : ((numsB [s, q, u, ok, n] ++ ([a, b].take j).flatMap fun x => (textOut x).data.toList)).length ≤ 20000 := by
            rw [List.length_append]
            rcases (by omega : j = 0 ∨ j = 1) with rfl | rfl
            · simp; omega
            · simp; omega
          have hcx : wr.cell? ⟨wq.heap.size, j, none⟩ = some (.string x) := by
            rw [Lib.cell_of_heap HR'.out]
            have e : (#[Value.string a, .string b])[j]? = ([a, b].map Value.string)[j]? := by simp
            rw [e, List.getElem?_map, hx]
            rfl
          have CT := chid (fun w => text_ok x w hxs)
          have hsx := textOut_size x
          obtain ⟨t, ht⟩ : ∃ t, t = textOut x := ⟨_, rfl⟩
          rw [← ht] at CT hsx
          have HTT := chid ht
          have HX := chid hx
          clear hx ht hta htb hda hdb hln
          go_wp2_with fail
          refine (CT.out _).mono ?_
          rintro e w2 ⟨rfl, hb2⟩
          have HT2 := chid (HT'.out.below hb2)
          have HR2 : Hid (w2.heap[wq.heap.size]? = _) := (hb2.block _ hzr').trans HR'.out
          have HB2 := chid (HB'.out.trans (hb2.mono (by omega)))
          have hz2 : wr.heap.size ≤ w2.heap.size := hb2.size
          clear hb2 hcx
          go_wp2_with fail
          refine (writeString_any (w.heap.size + 1) (w.heap.size + 1) _ t w2 HT2.out (by omega) (by omega)).mono ?_
          rintro e w3 ⟨rfl, hb3, hb4, hk3⟩
          have HT3 := chid hb3
          have HR3 := chid (kept_row hk3 HR2.out (by omega) (by decide))
          have HB3 := chid (HB2.out.trans hb4)
          clear hb3 hb4 hk3
          go_wp2
          go_roundw
          case rel =>
            refine ⟨_, _, _, _, _, _, _, _, _, _, _, _, _, _, _, ⟨j + 1, by omega, by go_num, ?_, HR3.out, HB3.out⟩, rfl⟩
            rw [take_snocC HX.out, List.flatMap_append, ← List.append_assoc]
            simp only [List.flatMap_cons, List.flatMap_nil, List.append_nil]
            rw [← HTT.out]
            exact HT3.out
          case measure => simp [intOf]; omega
        · obtain rfl : j = 2 := by omega
          clear hta htb hda hdb hln hlt hj
          have HL : Hid ((numsB [s, q, u, ok, n] ++ ([a, b].take 2).flatMap fun x => (textOut x).data.toList) = numsB [s, q, u, ok, n] ++ ((textOut a).data.toList ++ (textOut b).data.toList)) := (by simp : (numsB [s, q, u, ok, n] ++ ([a, b].take 2).flatMap fun x => (textOut x).data.toList) = numsB [s, q, u, ok, n] ++ ((textOut a).data.toList ++ (textOut b).data.toList))
          rw [HL.out] at HT'
          go_wp2_with fail
          refine (buildString_any (w.heap.size + 1) (w.heap.size + 1) _ wr HT'.out (by omega)).mono ?_
          rintro e w3 ⟨rfl, hb3⟩
          have HB3 := chid (HBX.out.trans ((HB'.out.trans hb3).mono (by omega)))
          clear hb3
          go_wp2
          go_ret
          exact ⟨rfl, HB3.out⟩

end Go.Proofs.YtcjoekjjebcomalDoor
