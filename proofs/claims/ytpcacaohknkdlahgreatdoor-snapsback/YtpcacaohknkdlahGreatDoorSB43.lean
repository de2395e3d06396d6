/- The bytes of a command. It imports no program of its own; strings.Builder: a text is put behind what it has; all of it is told; by the shelf's contracts; Builders: what stands when other memory is made; command.callBytes: what a Call has behind its head, as bytes; command.Encode: a command's bytes, or what is wrong with it; What codec.Number writes is in form: it is counted, read and refused as it must be, whatever stands behind it; A text that was written is read, whatever stands behind it (joined by program) -/
import Derived.Shelf.Strings.BuilderK
import Derived.Test.YtpcacaohknkdlahGreatDoorRows
import Derived.WalkKit
import Derived.ProofKit
import Derived.WalkLawsBesides
import Derived.Test.YtpcacaohknkdlahGreatDoorSB42
import Derived.Test.YtpcacaohknkdlahGreatDoorSB12
import Derived.Test.YtpcacaohknkdlahGreatDoorSB37
import Derived.Test.YtpcacaohknkdlahGreatDoorSB35
import Derived.Test.YtpcacaohknkdlahGreatDoorSB36
namespace Go.Proofs.YtpcacaohknkdlahGreatDoor

open Go.RowKit

/-- A number's bytes. -/
def numOut (n : Int) : ByteArray := strOfNums (encN n)

/-- What a Call has behind its head. -/
def callOut (c : CmdD) : ByteArray := numOut c.session ++ (numOut c.seq ++ (numOut c.acked ++ (numOut c.ok ++ (numOut c.n ++ (textOut c.a ++ textOut c.b)))))

/-- A command's bytes. -/
def cmdOut (c : CmdD) : ByteArray := if c.kind = 2 then strOfNums [c.kind, c.client] ++ callOut c else strOfNums [c.kind, c.client]

theorem size_list (s : ByteArray) : s.data.toList.length = s.size := by simp

theorem bytes_ext {a b : ByteArray} (h : a.data.toList = b.data.toList) : a = b := ByteArray.ext (Array.toList_inj.1 h)

theorem nsize (n : Int) : (numOut n).size = (encN n).length := strOfNums_size _

theorem textOut_le (s : ByteArray) (n : Nat) (h : s.size ≤ n) : (textOut s).size ≤ n + 6 := by
  have := textOut_size s
  omega

theorem numOut_le (n : Int) : (numOut n).size ≤ 6 := by rw [nsize]; exact (encN_length n).2

end Go.Proofs.YtpcacaohknkdlahGreatDoor

namespace Go.Proofs.YtpcacaohknkdlahGreatDoor

open Go.RowKit Go.Shelf

def buildRen : Go.Shelf.Ren := ⟨fun | 166 => 59 | 240 => 93 | 276 => 121 | 169 => 15 | n => n,
  fun | 0 => 0 | 3 => 3 | 4 => 4 | 5 => 5 | 9 => 9 | 20 => 20 | 37 => 39 | 70 => 56 | 72 => 58 | 75 => 122 | 80 => 62 | 127 => 97 | 164 => 192 | n => n, fun | n => n⟩

theorem buildLays166 : Go.Proofs.Lays.n166 Tryz.prog buildRen := {
  mixed := by kernel_rfl
  f166 := Tryz.func59.trans (congrArg some (by kernel_rfl))
  f240 := Tryz.func93.trans (congrArg some (by kernel_rfl))
  f276 := Tryz.func121.trans (congrArg some (by kernel_rfl))
  t0 := Tryz.underlying0
  a0 := Tryz.isAgg0
  z0 := Tryz.sizeOf0
  v0 := Tryz.zeroValue0
  t3 := Tryz.underlying3
  a3 := Tryz.isAgg3
  z3 := Tryz.sizeOf3
  v3 := Tryz.zeroValue3
  t4 := Tryz.underlying4
  a4 := Tryz.isAgg4
  z4 := Tryz.sizeOf4
  v4 := Tryz.zeroValue4
  t9 := Tryz.underlying9
  a9 := Tryz.isAgg9
  z9 := Tryz.sizeOf9
  v9 := Tryz.zeroValue9
  t20 := Tryz.underlying20
  a20 := Tryz.isAgg20
  z20 := Tryz.sizeOf20
  v20 := Tryz.zeroValue20
  t37 := Tryz.underlying39
  a37 := Tryz.isAgg39
  z37 := Tryz.sizeOf39
  v37 := Tryz.zeroValue39
  t70 := Tryz.underlying56
  a70 := Tryz.isAgg56
  z70 := Tryz.sizeOf56
  v70 := Tryz.zeroValue56
  t72 := Tryz.underlying58
  a72 := Tryz.isAgg58
  z72 := Tryz.sizeOf58
  v72 := Tryz.zeroValue58
  t75 := Tryz.underlying122
  a75 := Tryz.isAgg122
  z75 := Tryz.sizeOf122
  v75 := Tryz.zeroValue122
  t164 := Tryz.underlying192
  a164 := Tryz.isAgg192
  z164 := Tryz.sizeOf192
  v164 := Tryz.zeroValue192 }

theorem buildLays169 : Go.Proofs.Lays.n169 Tryz.prog buildRen := {
  mixed := by kernel_rfl
  f169 := Tryz.func15.trans (congrArg some (by kernel_rfl))
  t0 := Tryz.underlying0
  a0 := Tryz.isAgg0
  z0 := Tryz.sizeOf0
  v0 := Tryz.zeroValue0
  t3 := Tryz.underlying3
  a3 := Tryz.isAgg3
  z3 := Tryz.sizeOf3
  v3 := Tryz.zeroValue3
  t9 := Tryz.underlying9
  a9 := Tryz.isAgg9
  z9 := Tryz.sizeOf9
  v9 := Tryz.zeroValue9
  t37 := Tryz.underlying39
  a37 := Tryz.isAgg39
  z37 := Tryz.sizeOf39
  v37 := Tryz.zeroValue39
  t70 := Tryz.underlying56
  a70 := Tryz.isAgg56
  z70 := Tryz.sizeOf56
  v70 := Tryz.zeroValue56
  t72 := Tryz.underlying58
  a72 := Tryz.isAgg58
  z72 := Tryz.sizeOf58
  v72 := Tryz.zeroValue58
  t127 := Tryz.underlying97
  a127 := Tryz.isAgg97
  z127 := Tryz.sizeOf97
  v127 := Tryz.zeroValue97 }

theorem buildExtra : Go.Proofs.Builder.Extra Tryz.prog buildRen where
  sizeBuilder := by kernel_rfl
  liesBuilder := by kernel_rfl
  t5 := Tryz.underlying5
  a5 := Tryz.isAgg5
  z5 := Tryz.sizeOf5
  v5 := Tryz.zeroValue5
  infoByte := by kernel_rfl
  cellsByte := by kernel_rfl
  sizeByte := by kernel_rfl
  neB5 := by decide

/-- The builder at block b has these bytes. -/
def BuiltB (B b : Nat) (l : List UInt8) (w : World) : Prop := Lib.IsBuilderF 58 5 B b (Lib.byteCells l) w

theorem writeString_any (B b : Nat) (l : List UInt8) (s : ByteArray) (w : World) (h : BuiltB B b l w) (hlen : l.length + s.size ≤ 140737488355328) (hBw : B ≤ w.heap.size) :
    Calls Tryz.prog 59 #[.pointer (some ⟨b, 0, none⟩), .string s] w fun e w' => e = .returned (.tuple #[.int .i64 s.size, .nilIface]) ∧ BuiltB B b (l ++ s.data.toList) w' ∧ Below B w w' ∧ Lib.OthersKept 5 (some b) w w' := by
  refine (Any.Builder_WriteString_k buildLays166 buildExtra B b (Lib.byteCells l) s w h (by rw [Lib.byteCells_length]; exact hlen) hBw).mono ?_
  rintro e w' ⟨he, h1, h2, h3⟩
  refine ⟨he, ?_, h2, h3⟩
  unfold BuiltB
  rw [Lib.byteCells_append]
  exact Or.inr h1

theorem buildString_any (B b : Nat) (l : List UInt8) (w : World) (h : BuiltB B b l w) (hBw : B ≤ w.heap.size) :
    Calls Tryz.prog 15 #[.pointer (some ⟨b, 0, none⟩)] w fun e w' => e = .returned (.string ⟨l.toArray⟩) ∧ Below B w w' := by
  refine (Any.Builder_String_any_k buildLays169 buildExtra B b l w h hBw).mono ?_
  rintro e w' ⟨he, -, h2, -⟩
  exact ⟨he, h2⟩

end Go.Proofs.YtpcacaohknkdlahGreatDoor

namespace Go.Proofs.YtpcacaohknkdlahGreatDoor

open Go.RowKit

theorem grownC {w w' : World} (h : Below w.heap.size w w') (row : Option Nat) : w.grownBy w' row := ⟨h.os, h.tape, h.output, h.size, fun i hi _ => h.block i hi⟩

theorem BuilderAtF_below {T e : TypeId} {B b : Nat} {p : Value} {bs : List Value} {w w' : World} (h : Lib.BuilderAtF T e B b p bs w) (hb : Below w.heap.size w w') : Lib.BuilderAtF T e B b p bs w' := by
  have hlt := h.lt
  obtain ⟨hB, v, hbk, hown, hne⟩ := h
  refine ⟨hB, v, (hb.block b hlt).trans hbk, hown.kept (grownC hb none) ?_, hne⟩
  cases v.ownBlock with
  | none => exact Or.inl rfl
  | some x => exact Or.inr (by simp)

theorem BuiltB.below {B b : Nat} {l : List UInt8} {w w' : World} (h : BuiltB B b l w) (hb : Below w.heap.size w w') : BuiltB B b l w' := by
  rcases h with h | h
  · exact Or.inl (BuilderAtF_below h hb)
  · exact Or.inr (BuilderAtF_below h hb)

theorem BuiltB.lt {B b : Nat} {l : List UInt8} {w : World} (h : BuiltB B b l w) : B ≤ b ∧ b < w.heap.size := by
  rcases h with h | h
  · exact ⟨h.1, h.lt⟩
  · exact ⟨h.1, h.lt⟩

/-- A row that is no row of bytes stands. -/
theorem kept_row {b : Nat} {w w' : World} (h : Lib.OthersKept 5 (some b) w w') {g : Nat} {cs : Array Value} {t : TypeId} (hg : w.heap[g]? = some (.cells cs t (0, 0))) (hne : g ≠ b) (ht : t ≠ 5) : w'.heap[g]? = some (.cells cs t (0, 0)) :=
  h g _ hg (by intro e; exact hne (Option.some.inj e)) (by intro c fz e; cases e; exact ht rfl)

theorem take_snocC {α : Type} {xs : List α} {k : Nat} {x : α} (h : xs[k]? = some x) : xs.take (k + 1) = xs.take k ++ [x] := by
  rw [List.take_add_one, h]
  rfl

end Go.Proofs.YtpcacaohknkdlahGreatDoor

namespace Go.Proofs.YtpcacaohknkdlahGreatDoor

open Go.RowKit

/-- The bytes of numbers, one behind another. -/
def numsB (xs : List Int) : List UInt8 := xs.flatMap fun n => (strOfNums (encN n)).data.toList

theorem numsB_snoc (xs : List Int) (n : Int) : numsB (xs ++ [n]) = numsB xs ++ (strOfNums (encN n)).data.toList := by simp [numsB]

theorem numsB_len (xs : List Int) : (numsB xs).length ≤ 6 * xs.length := by
  induction xs with
  | nil => simp [numsB]
  | cons x t ih =>
    have h1 := (encN_length x).2
    have h2 := strOfNums_size (encN x)
    have h3 : (strOfNums (encN x)).data.toList.length = (strOfNums (encN x)).size := by simp
    have e : numsB (x :: t) = (strOfNums (encN x)).data.toList ++ numsB t := by simp [numsB]
    rw [e, List.length_append, List.length_cons]
    omega

set_option maxRecDepth 100000 in
set_option maxHeartbeats 6400000 in
theorem callBytes_any (k c s q u ok : Int) (a b : ByteArray) (n : Int) (w : World) (hN : ∀ x ∈ [s, q, u, ok, n], 0 ≤ x ∧ x ≤ 1099511627776) (ha : a.size ≤ 5000) (hb : b.size ≤ 5000) :
    Calls Tryz.prog 25 #[.agg #[.int .i64 k, .int .i64 c, .int .i64 s, .int .i64 q, .int .i64 u, .int .i64 ok, .string a, .string b, .int .i64 n]] w fun e w' => e = .returned (.string ⟨(numsB [s, q, u, ok, n] ++ ((textOut a).data.toList ++ (textOut b).data.toList)).toArray⟩) ∧ Below w.heap.size w w' := by
  have HBX := chid (cbox w k c s q u ok a b n)
  have HN := chid hN
  clear hN
  obtain ⟨w0, hw0⟩ : ∃ w0, w0 = w.alloc (.cells #[.int .i64 k, .int .i64 c, .int .i64 s, .int .i64 q, .int .i64 u, .int .i64 ok, .string a, .string b, .int .i64 n] 49) := ⟨_, rfl⟩
  have hz0 : w0.heap.size = w.heap.size + 1 := by rw [hw0]; simp
  have HG0 : Hid (w0.heap[w.heap.size]? = some (.cells #[.int .i64 k, .int .i64 c, .int .i64 s, .int .i64 q, .int .i64 u, .int .i64 ok, .string a, .string b, .int .i64 n] 49 (0, 0))) := by rw [hw0]; exact heap_alloc_new w _
  have HF : Hid (BuiltB w0.heap.size w0.heap.size [] (w0.alloc (.cells #[.pointer none, .slice none 0 0] 58))) := Lib.IsBuilderF.of (Lib.fresh_isBuilder 58 5 w0)
  rw [← hw0] at HBX
  have HW0 := chid hw0
  clear hw0
  go_enter Tryz.func25, Tryz.ntmps25
  go_wp2
  go_loopw [26] (fun i wr => ∃ j : Nat, j ≤ 5 ∧ i = .int .i64 j ∧ BuiltB (w.heap.size + 1) (w.heap.size + 1) (numsB ([s, q, u, ok, n].take j)) wr ∧ wr.heap[w.heap.size + 2]? = some (.cells #[.int .i64 s, .int .i64 q, .int .i64 u, .int .i64 ok, .int .i64 n] 3 (0, 0)) ∧ Below (w.heap.size + 1) w0 wr) (fun i _ => 5 - (intOf i).toNat)
  case atStart =>
    refine ⟨0, by omega, rfl, ?_, ?_, ?_⟩
    · have h := HF.out
      rw [hz0] at h
      rw [HW0.out] at h
      exact Lib.IsBuilderF.alloc h _
    · have := heap_alloc_new ((w.alloc (.cells #[.int .i64 k, .int .i64 c, .int .i64 s, .int .i64 q, .int .i64 u, .int .i64 ok, .string a, .string b, .int .i64 n] 49)).alloc (.cells #[.pointer none, .slice none 0 0] 58)) (.cells #[.int .i64 s, .int .i64 q, .int .i64 u, .int .i64 ok, .int .i64 n] 3)
      simpa using this
    · rw [HW0.out]
      exact ((Below.refl _ _).alloc (by simp) _).alloc (by simp) _
  case round =>
    obtain ⟨j, hj, rfl, hbt, hrow, hbw⟩ := hrel
    have HT := chid hbt
    have HR := chid hrow
    have HB := chid hbw
    have hzr : w.heap.size + 2 < wr.heap.size := (Array.getElem?_eq_some_iff.1 hrow).1
    clear hbt hrow hbw
    by_cases hlt : j < 5
    · obtain ⟨x, hx⟩ : ∃ x, [s, q, u, ok, n][j]? = some x := ⟨_, List.getElem?_eq_getElem (by simpa using hlt)⟩
      have hxm := HN.out x (List.mem_of_getElem? hx)
      have HX := chid hx
      have hcx : wr.cell? ⟨w.heap.size + 2, j, none⟩ = some (.int .i64 x) := by
        rw [Lib.cell_of_heap HR.out]
        have e : (#[Value.int .i64 s, .int .i64 q, .int .i64 u, .int .i64 ok, .int .i64 n])[j]? = ([s, q, u, ok, n].map (Value.int .i64))[j]? := by simp
        rw [e, List.getElem?_map, HX.out]
        rfl
      have hl : (numsB ([s, q, u, ok, n].take j)).length ≤ 30 := by
        have h1 := numsB_len ([s, q, u, ok, n].take j)
        have h2 : ([s, q, u, ok, n].take j).length ≤ 5 := by rw [List.length_take]; simp; omega
        omega
      have hsx : (strOfNums (encN x)).size ≤ 6 := by rw [strOfNums_size]; exact (encN_length x).2
      have CN := chid (fun w => number_ok x w hxm.1 hxm.2)
      obtain ⟨t, ht⟩ : ∃ t, t = strOfNums (encN x) := ⟨_, rfl⟩
      rw [← ht] at CN hsx
      have HTT := chid ht
      clear hx hxm ht
      go_wp2_with fail
      refine (CN.out _).mono ?_
      rintro e w2 ⟨rfl, hb2⟩
      have HT2 := chid (HT.out.below hb2)
      have HR2 : Hid (w2.heap[w.heap.size + 2]? = _) := (hb2.block _ hzr).trans HR.out
      have HB2 := chid (HB.out.trans (hb2.mono (by omega)))
      have hz2 : wr.heap.size ≤ w2.heap.size := hb2.size
      clear hb2 hcx
      go_wp2_with fail
      refine (writeString_any (w.heap.size + 1) (w.heap.size + 1) _ t w2 HT2.out (by omega) (by omega)).mono ?_
      rintro e w3 ⟨rfl, hb3, hb4, hk3⟩
      have HT3 := chid hb3
      have HR3 := chid (kept_row hk3 HR2.out (by omega) (by decide))
      have HB3 := chid (HB2.out.trans hb4)
      clear hb3 hb4 hk3
      go_wp2
      go_roundw
      case rel =>
        refine ⟨j + 1, by omega, by go_num, ?_, HR3.out, HB3.out⟩
        rw [take_snocC HX.out, numsB_snoc, ← HTT.out]
        exact HT3.out
      case measure => simp [intOf]; omega
    · rename World => wq
      obtain rfl : j = 5 := by omega
      have hG := (HB.out.block _ (by omega)).trans HG0.out
      have s6 : wq.cell? ⟨w.heap.size, 6, none⟩ = some (.string a) := cell_of_row wq w.heap.size 6 _ _ _ hG
      have s7 : wq.cell? ⟨w.heap.size, 7, none⟩ = some (.string b) := cell_of_row wq w.heap.size 7 _ _ _ hG
      clear hG hlt hj
      go_wp2
      go_loopw [46] (fun i wr => ∃ j : Nat, j ≤ 2 ∧ i = .int .i64 j ∧ BuiltB (w.heap.size + 1) (w.heap.size + 1) (numsB [s, q, u, ok, n] ++ ([a, b].take j).flatMap fun x => (textOut x).data.toList) wr ∧ wr.heap[wq.heap.size]? = some (.cells #[.string a, .string b] 9 (0, 0)) ∧ Below (w.heap.size + 1) w0 wr) (fun i _ => 2 - (intOf i).toNat)
      case atStart =>
        refine ⟨0, by omega, rfl, ?_, ?_, ?_⟩
        · have h := HT.out
          simp only [List.take_zero, List.flatMap_nil, List.append_nil]
          exact Lib.IsBuilderF.alloc h _
        · exact heap_alloc_new wq _
        · exact HB.out.alloc (by omega) _
      case round =>
        obtain ⟨j, hj, rfl, hbt, hrow, hbw⟩ := hrel
        have HT' := chid hbt
        have HR' := chid hrow
        have HB' := chid hbw
        have hzr' : wq.heap.size < wr.heap.size := (Array.getElem?_eq_some_iff.1 hrow).1
        clear hbt hrow hbw
        have hln : (numsB [s, q, u, ok, n]).length ≤ 30 := numsB_len [s, q, u, ok, n]
        have hta := textOut_size a
        have htb := textOut_size b
        have hda : (textOut a).data.toList.length = (textOut a).size := by simp
        have hdb : (textOut b).data.toList.length = (textOut b).size := by simp
        by_cases hlt : j < 2
        · obtain ⟨x, hx⟩ : ∃ x, [a, b][j]? = some x := ⟨_, List.getElem?_eq_getElem (by simpa using hlt)⟩
          have hxs : x.size ≤ 5000 := by
            have := List.mem_of_getElem? hx
            simp at this
            rcases this with rfl | rfl
            · exact ha
            · exact hb
          have hl : ((numsB [s, q, u, ok, n] ++ ([a, b].take j).flatMap fun x => (textOut x).data.toList)).length ≤ 20000 := by
            rw [List.length_append]
            rcases (by omega : j = 0 ∨ j = 1) with rfl | rfl
            · simp; omega
            · simp; omega
          have hcx : wr.cell? ⟨wq.heap.size, j, none⟩ = some (.string x) := by
            rw [Lib.cell_of_heap HR'.out]
            have e : (#[Value.string a, .string b])[j]? = ([a, b].map Value.string)[j]? := by simp
            rw [e, List.getElem?_map, hx]
            rfl
          have CT := chid (fun w => text_ok x w hxs)
          have hsx := textOut_size x
          obtain ⟨t, ht⟩ : ∃ t, t = textOut x := ⟨_, rfl⟩
          rw [← ht] at CT hsx
          have HTT := chid ht
          have HX := chid hx
          clear hx ht hta htb hda hdb hln
          go_wp2_with fail
          refine (CT.out _).mono ?_
          rintro e w2 ⟨rfl, hb2⟩
          have HT2 := chid (HT'.out.below hb2)
          have HR2 : Hid (w2.heap[wq.heap.size]? = _) := (hb2.block _ hzr').trans HR'.out
          have HB2 := chid (HB'.out.trans (hb2.mono (by omega)))
          have hz2 : wr.heap.size ≤ w2.heap.size := hb2.size
          clear hb2 hcx
          go_wp2_with fail
          refine (writeString_any (w.heap.size + 1) (w.heap.size + 1) _ t w2 HT2.out (by omega) (by omega)).mono ?_
          rintro e w3 ⟨rfl, hb3, hb4, hk3⟩
          have HT3 := chid hb3
          have HR3 := chid (kept_row hk3 HR2.out (by omega) (by decide))
          have HB3 := chid (HB2.out.trans hb4)
          clear hb3 hb4 hk3
          go_wp2
          go_roundw
          case rel =>
            refine ⟨_, _, _, _, _, _, _, _, _, _, _, _, _, _, _, ⟨j + 1, by omega, by go_num, ?_, HR3.out, HB3.out⟩, rfl⟩
            rw [take_snocC HX.out, List.flatMap_append, ← List.append_assoc]
            simp only [List.flatMap_cons, List.flatMap_nil, List.append_nil]
            rw [← HTT.out]
            exact HT3.out
          case measure => simp [intOf]; omega
        · obtain rfl : j = 2 := by omega
          clear hta htb hda hdb hln hlt hj
          have HL : Hid ((numsB [s, q, u, ok, n] ++ ([a, b].take 2).flatMap fun x => (textOut x).data.toList) = numsB [s, q, u, ok, n] ++ ((textOut a).data.toList ++ (textOut b).data.toList)) := (by simp : (numsB [s, q, u, ok, n] ++ ([a, b].take 2).flatMap fun x => (textOut x).data.toList) = numsB [s, q, u, ok, n] ++ ((textOut a).data.toList ++ (textOut b).data.toList))
          rw [HL.out] at HT'
          go_wp2_with fail
          refine (buildString_any (w.heap.size + 1) (w.heap.size + 1) _ wr HT'.out (by omega)).mono ?_
          rintro e w3 ⟨rfl, hb3⟩
          have HB3 := chid (HBX.out.trans ((HB'.out.trans hb3).mono (by omega)))
          clear hb3
          go_wp2
          go_ret
          exact ⟨rfl, HB3.out⟩

end Go.Proofs.YtpcacaohknkdlahGreatDoor

namespace Go.Proofs.YtpcacaohknkdlahGreatDoor

open Go.RowKit

theorem conv2 (W : World) (a b : Int) :
    (convert 39 9 (.slice (some ⟨W.heap.size, 0, none⟩) 2 2)).run Tryz.prog (W.alloc (.cells #[.int .u8 a, .int .u8 b] 5))
      = .ok (.string (strOfNums [a, b])) (W.alloc (.cells #[.int .u8 a, .int .u8 b] 5)) := by
  refine run_convert_bytes_arg _ 39 5 Tryz.underlying39 Tryz.underlying5 W.heap.size 0 2 2 [a, b] rfl ?_ 9 Tryz.underlying9
  intro i hi
  match i, hi with
  | 0, _ => simp
  | 1, _ => simp

/-- The bytes of a Call behind its head. -/
def tailOut (s q u ok : Int) (a b : ByteArray) (n : Int) : ByteArray := ⟨(numsB [s, q, u, ok, n] ++ ((textOut a).data.toList ++ (textOut b).data.toList)).toArray⟩

theorem tailOut_eq (c : CmdD) : tailOut c.session c.seq c.acked c.ok c.a c.b c.n = callOut c := by
  apply ByteArray.ext
  apply Array.toList_inj.1
  simp [tailOut, callOut, numsB, numOut]

theorem tailOut_size (s q u ok : Int) (a b : ByteArray) (n : Int) (ha : a.size ≤ 12) (hb : b.size ≤ 12) : (tailOut s q u ok a b n).size ≤ 100 := by
  have h1 : (tailOut s q u ok a b n).size = (numsB [s, q, u, ok, n] ++ ((textOut a).data.toList ++ (textOut b).data.toList)).length := by
    show (_ : Array UInt8).size = _
    simp
  have h2 := numsB_len [s, q, u, ok, n]
  have h3 := textOut_size a
  have h4 := textOut_size b
  have h5 : (textOut a).data.toList.length = (textOut a).size := by simp
  have h6 : (textOut b).data.toList.length = (textOut b).size := by simp
  rw [h1, List.length_append, List.length_append]
  simp only [List.length_cons, List.length_nil] at h2
  omega

/-- What a Call that may be is like. -/
theorem opE_ok' {k : Int} {a b : ByteArray} {n : Int} (h : opE k a b n = 0) : (1 ≤ k ∧ k ≤ 6) ∧ a.size ≤ 6 ∧ b.size ≤ 12 ∧ 0 ≤ n ∧ n ≤ 1073741824 := by
  unfold opE at h
  split at h
  · omega
  · split at h
    · omega
    · rename_i h1 h2
      have hn : nameB a = true := by
        cases hc : nameB a with
        | true => rfl
        | false => exact absurd (Or.inl hc) h2
      have hn6 := (nameB_yes hn).2.1
      split at h
      · omega
      · split at h
        · split at h
          · exact ⟨by omega, hn6, by omega, by omega, by omega⟩
          · omega
        · split at h
          · exact ⟨by omega, hn6, by omega, by omega, by omega⟩
          · omega

theorem cmdE_call' {c s q u ok : Int} {a b : ByteArray} {n : Int} (h : cmdE 2 c s q u ok a b n = 0) : (1 ≤ c ∧ c ≤ 9) ∧ (∀ x ∈ [s, q, u, ok, n], 0 ≤ x ∧ x ≤ 1099511627776) ∧ a.size ≤ 12 ∧ b.size ≤ 12 := by
  by_cases h2 : 1 ≤ c ∧ c ≤ 9
  · by_cases hc : callR s q u
    · rw [cmdE_callYes h2 hc] at h
      obtain ⟨hk, ha, hb, hn⟩ := opE_ok' h
      obtain ⟨e1, e2, e3⟩ := hc
      refine ⟨h2, fun x hx => ?_, by omega, by omega⟩
      simp at hx
      rcases hx with rfl | rfl | rfl | rfl | rfl <;> omega
    · rw [cmdE_callNo h2 hc] at h
      omega
  · rw [cmdE_client (by omega) h2] at h
    omega

theorem cmdE_head' {k c s q u ok : Int} {a b : ByteArray} {n : Int} (h : cmdE k c s q u ok a b n = 0) : (1 ≤ k ∧ k ≤ 3) ∧ (1 ≤ c ∧ c ≤ 9) := by
  by_cases h1 : 1 ≤ k ∧ k ≤ 3
  · by_cases h2 : 1 ≤ c ∧ c ≤ 9
    · exact ⟨h1, h2⟩
    · rw [cmdE_client h1 h2] at h; omega
  · rw [cmdE_kind h1] at h; omega

set_option maxHeartbeats 1600000 in
theorem encode_rest (k c s q u ok : Int) (a b : ByteArray) (n : Int) (w : World) (hq : FitsC q) (ha : ShortC a) (hb : ShortC b) (hr : cmdE k c s q u ok a b n = 0) (hk : k ≠ 2) :
    Calls Tryz.prog 11 #[.agg #[.int .i64 k, .int .i64 c, .int .i64 s, .int .i64 q, .int .i64 u, .int .i64 ok, .string a, .string b, .int .i64 n]] w fun e w' => e = .returned (.tuple #[.string (strOfNums [k, c]), .int .i64 0]) ∧ Below w.heap.size w w' := by
  have HB := chid (cbox w k c s q u ok a b n)
  have CC := chid (fun w => cmdCheck_any k c s q u ok a b n w hq ha hb)
  obtain ⟨⟨hk1, hk3⟩, hc1, hc9⟩ := cmdE_head' hr
  rw [hr] at CC
  have hk2 : (k == 2) = false := by simpa using hk
  have hcv := conv2
  clear hr ha hb hq hk
  go_enter Tryz.func11, Tryz.ntmps11
  go_wp2_with fail
  refine (CC.out _).mono ?_
  rintro e w1 ⟨rfl, hb1⟩
  have HB1 := chid (HB.out.trans (hb1.mono (by simp)))
  have g1 : w1.heap[w.heap.size]? = some (.cells #[.int .i64 k, .int .i64 c, .int .i64 s, .int .i64 q, .int .i64 u, .int .i64 ok, .string a, .string b, .int .i64 n] 49 (0, 0)) := (hb1.block _ (by simp)).trans (heap_alloc_new w _)
  have s0 : w1.cell? ⟨w.heap.size, 0, none⟩ = some (.int .i64 k) := cell_of_row w1 w.heap.size 0 _ _ _ g1
  have s1 : w1.cell? ⟨w.heap.size, 1, none⟩ = some (.int .i64 c) := cell_of_row w1 w.heap.size 1 _ _ _ g1
  have hz : w.heap.size < w1.heap.size := (Array.getElem?_eq_some_iff.1 g1).1
  have hzn : w.heap.size ≠ w1.heap.size := by omega
  clear hb1 g1
  go_wp2
  go_ret2
  exact ⟨rfl, HB1.out.alloc HB1.out.size _⟩

set_option maxHeartbeats 1600000 in
theorem encode_call (c s q u ok : Int) (a b : ByteArray) (n : Int) (w : World) (hq : FitsC q) (ha : ShortC a) (hb : ShortC b) (hr : cmdE 2 c s q u ok a b n = 0) :
    Calls Tryz.prog 11 #[.agg #[.int .i64 2, .int .i64 c, .int .i64 s, .int .i64 q, .int .i64 u, .int .i64 ok, .string a, .string b, .int .i64 n]] w fun e w' => e = .returned (.tuple #[.string (strOfNums [2, c] ++ tailOut s q u ok a b n), .int .i64 0]) ∧ Below w.heap.size w w' := by
  have HB := chid (cbox w 2 c s q u ok a b n)
  have CC := chid (fun w => cmdCheck_any 2 c s q u ok a b n w hq ha hb)
  obtain ⟨⟨hc1, hc9⟩, hN, ha12, hb12⟩ := cmdE_call' hr
  have CB := chid (fun w => callBytes_any 2 c s q u ok a b n w hN (by omega) (by omega))
  have hsz := tailOut_size s q u ok a b n ha12 hb12
  obtain ⟨t, ht⟩ : ∃ t, t = tailOut s q u ok a b n := ⟨_, rfl⟩
  have ht' : (⟨(numsB [s, q, u, ok, n] ++ ((textOut a).data.toList ++ (textOut b).data.toList)).toArray⟩ : ByteArray) = t := by rw [ht]; rfl
  rw [ht'] at CB
  rw [← ht] at hsz ⊢
  rw [hr] at CC
  have hcv := conv2
  have h2s : (strOfNums [2, c]).size = 2 := strOfNums_size _
  have hsum : (strOfNums [2, c]).size + t.size ≤ 102 := by omega
  clear hr ha hb hq hN ha12 hb12 ht ht' h2s
  go_enter Tryz.func11, Tryz.ntmps11
  go_wp2_with fail
  refine (CC.out _).mono ?_
  rintro e w1 ⟨rfl, hb1⟩
  have HB1 := chid (HB.out.trans (hb1.mono (by simp)))
  have g1 : w1.heap[w.heap.size]? = some (.cells #[.int .i64 2, .int .i64 c, .int .i64 s, .int .i64 q, .int .i64 u, .int .i64 ok, .string a, .string b, .int .i64 n] 49 (0, 0)) := (hb1.block _ (by simp)).trans (heap_alloc_new w _)
  have s0 : w1.cell? ⟨w.heap.size, 0, none⟩ = some (.int .i64 2) := cell_of_row w1 w.heap.size 0 _ _ _ g1
  have s1 : w1.cell? ⟨w.heap.size, 1, none⟩ = some (.int .i64 c) := cell_of_row w1 w.heap.size 1 _ _ _ g1
  have s2 : w1.cell? ⟨w.heap.size, 2, none⟩ = some (.int .i64 s) := cell_of_row w1 w.heap.size 2 _ _ _ g1
  have s3 : w1.cell? ⟨w.heap.size, 3, none⟩ = some (.int .i64 q) := cell_of_row w1 w.heap.size 3 _ _ _ g1
  have s4 : w1.cell? ⟨w.heap.size, 4, none⟩ = some (.int .i64 u) := cell_of_row w1 w.heap.size 4 _ _ _ g1
  have s5 : w1.cell? ⟨w.heap.size, 5, none⟩ = some (.int .i64 ok) := cell_of_row w1 w.heap.size 5 _ _ _ g1
  have s6 : w1.cell? ⟨w.heap.size, 6, none⟩ = some (.string a) := cell_of_row w1 w.heap.size 6 _ _ _ g1
  have s7 : w1.cell? ⟨w.heap.size, 7, none⟩ = some (.string b) := cell_of_row w1 w.heap.size 7 _ _ _ g1
  have s8 : w1.cell? ⟨w.heap.size, 8, none⟩ = some (.int .i64 n) := cell_of_row w1 w.heap.size 8 _ _ _ g1
  have hz : w.heap.size < w1.heap.size := (Array.getElem?_eq_some_iff.1 g1).1
  have hzn : w.heap.size ≠ w1.heap.size := by omega
  have HB1' := chid (HB1.out.alloc HB1.out.size (.cells #[.int .u8 2, .int .u8 c] 5))
  clear hb1 g1
  go_wp2_with fail
  refine (CB.out _).mono ?_
  rintro e w2 ⟨rfl, hb2⟩
  have HB2 := chid (HB1'.out.trans (hb2.mono HB1'.out.size))
  clear hb2
  go_wp2
  go_ret2
  exact ⟨rfl, HB2.out⟩

end Go.Proofs.YtpcacaohknkdlahGreatDoor

namespace Go.Proofs.YtpcacaohknkdlahGreatDoor

open Go.RowKit

/-- Numbers as bytes. -/
def u8 (l : List Int) : List UInt8 := l.map fun n => UInt8.ofNat n.toNat

theorem u8_length (l : List Int) : (u8 l).length = l.length := by simp [u8]

theorem bytes_append (l : List Int) (s : ByteArray) : (strOfNums l ++ s).data.toList = u8 l ++ s.data.toList := by
  rw [ByteArray.data_append, Array.toList_append, strOfNums_data]; rfl

theorem ofNat_toNat (n : Int) (h0 : 0 ≤ n) (h1 : n < 256) : (((UInt8.ofNat n.toNat).toNat : Nat) : Int) = n := by
  rw [UInt8.toNat_ofNat']; omega

/-- Counting digits of a written number. -/
theorem cd_enc (f : Nat) : ∀ (m : Int) (R : List UInt8), 0 ≤ m → m < reach f → cd (u8 (enc f m) ++ R) = (enc f m).length := by
  induction f with
  | zero =>
    intro m R h0 h1
    have := ofNat_toNat m h0 (by simp [reach] at h1; omega)
    simp [reach] at h1
    simp only [enc, u8, List.map_cons, List.map_nil, List.cons_append, List.nil_append, cd, List.length_cons, List.length_nil]
    rw [if_pos (by omega)]
  | succ f ih =>
    intro m R h0 h1
    by_cases h : m < 128
    · have := ofNat_toNat m h0 (by omega)
      rw [enc_small _ _ h]
      simp only [u8, List.map_cons, List.map_nil, List.cons_append, List.nil_append, cd, List.length_cons, List.length_nil]
      rw [if_pos (by omega)]
    · have hd := reach_div f m h0 h1
      have hi := ih (m / 128) R hd.1 hd.2
      have hl := (enc_length f (m / 128)).1
      have := ofNat_toNat (m % 128 + 128) (by omega) (by omega)
      rw [enc_step _ _ h]
      have e : u8 ((m % 128 + 128) :: enc f (m / 128)) ++ R = UInt8.ofNat (m % 128 + 128).toNat :: (u8 (enc f (m / 128)) ++ R) := rfl
      rw [e]
      simp only [cd, List.length_cons]
      rw [hi, if_neg (by omega), if_neg (by omega)]

theorem dec_enc (f : Nat) : ∀ (m : Int), 0 ≤ m → m < reach f → dec (u8 (enc f m)) = m := by
  induction f with
  | zero =>
    intro m h0 h1
    simp [reach] at h1
    have := ofNat_toNat m h0 (by omega)
    simp only [enc, u8, List.map_cons, List.map_nil, dec]
    omega
  | succ f ih =>
    intro m h0 h1
    by_cases h : m < 128
    · have := ofNat_toNat m h0 (by omega)
      rw [enc_small _ _ h]
      simp only [u8, List.map_cons, List.map_nil, dec]
      omega
    · have hd := reach_div f m h0 h1
      have hi := ih (m / 128) hd.1 hd.2
      have := ofNat_toNat (m % 128 + 128) (by omega) (by omega)
      rw [enc_step _ _ h]
      have e : u8 ((m % 128 + 128) :: enc f (m / 128)) = UInt8.ofNat (m % 128 + 128).toNat :: u8 (enc f (m / 128)) := rfl
      rw [e]
      simp only [dec]
      rw [hi]
      omega

/-- The last digit of a number from 1 on is not 0. -/
theorem last_enc (f : Nat) : ∀ (m : Int) (R : List UInt8), 1 ≤ m → m < reach f → ((u8 (enc f m) ++ R).getD ((enc f m).length - 1) 0).toNat ≠ 0 := by
  induction f with
  | zero =>
    intro m R h0 h1
    simp [reach] at h1
    have := ofNat_toNat m (by omega) (by omega)
    simp only [enc, u8, List.map_cons, List.map_nil, List.cons_append, List.nil_append, List.length_cons, List.length_nil]
    simp
    omega
  | succ f ih =>
    intro m R h0 h1
    by_cases h : m < 128
    · have := ofNat_toNat m (by omega) (by omega)
      rw [enc_small _ _ h]
      simp only [u8, List.map_cons, List.map_nil, List.cons_append, List.nil_append, List.length_cons, List.length_nil]
      simp
      omega
    · have hd := reach_div f m (by omega) h1
      have hi := ih (m / 128) R (by omega) hd.2
      have hl := (enc_length f (m / 128)).1
      rw [enc_step _ _ h]
      have e : u8 ((m % 128 + 128) :: enc f (m / 128)) ++ R = UInt8.ofNat (m % 128 + 128).toNat :: (u8 (enc f (m / 128)) ++ R) := rfl
      rw [e, List.length_cons, Nat.add_sub_cancel]
      obtain ⟨q, hq⟩ : ∃ q, (enc f (m / 128)).length = q + 1 := ⟨(enc f (m / 128)).length - 1, by omega⟩
      rw [hq] at hi ⊢
      simpa using hi

/-- All digits but the last have 128 and more. -/
theorem init_enc (f : Nat) : ∀ (m : Int) (j : Nat), 0 ≤ m → m < reach f → j + 1 < (enc f m).length → 128 ≤ ((u8 (enc f m)).getD j 0).toNat := by
  induction f with
  | zero => intro m j _ _ hj; simp [enc] at hj
  | succ f ih =>
    intro m j h0 h1 hj
    by_cases h : m < 128
    · rw [enc_small _ _ h] at hj; simp at hj
    · have hd := reach_div f m h0 h1
      have := ofNat_toNat (m % 128 + 128) (by omega) (by omega)
      rw [enc_step _ _ h] at hj ⊢
      have e : u8 ((m % 128 + 128) :: enc f (m / 128)) = UInt8.ofNat (m % 128 + 128).toNat :: u8 (enc f (m / 128)) := rfl
      rw [e]
      cases j with
      | zero => simp only [List.getD_cons_zero]; omega
      | succ j => simp only [List.getD_cons_succ]; exact ih (m / 128) j hd.1 hd.2 (by simpa using hj)

theorem lt_reach5 (n : Int) (h : n ≤ 1099511627776) : n < reach 5 := by rw [reach5]; omega

theorem tail_of (a b : ByteArray) (n : Nat) (h : n = a.size) : (a ++ b).extract n (a ++ b).size = b := by
  subst h
  apply ByteArray.ext
  apply Array.toList_inj.1
  rw [Lib.extract_data, ByteArray.data_append, Array.toList_append, ByteArray.size_append]
  have h1 : a.data.toList.length = a.size := by simp
  have h2 : b.data.toList.length = b.size := by simp
  rw [List.drop_left' h1]
  exact List.take_of_length_le (by omega)

end Go.Proofs.YtpcacaohknkdlahGreatDoor

namespace Go.Proofs.YtpcacaohknkdlahGreatDoor

open Go.RowKit

theorem bytes_assoc (a b c : ByteArray) : a ++ b ++ c = a ++ (b ++ c) := by
  apply ByteArray.ext
  simp [ByteArray.data_append, Array.append_assoc]

theorem mid_of (a b c : ByteArray) (n : Nat) (h : n = a.size) : (a ++ (b ++ c)).extract n (n + b.size) = b := by
  subst h
  apply ByteArray.ext
  apply Array.toList_inj.1
  rw [Lib.extract_data, ByteArray.data_append, Array.toList_append, ByteArray.data_append, Array.toList_append]
  have h1 : a.data.toList.length = a.size := by simp
  have h2 : b.data.toList.length = b.size := by simp
  rw [List.drop_left' h1, Nat.add_sub_cancel_left]
  exact List.take_left' h2

end Go.Proofs.YtpcacaohknkdlahGreatDoor
