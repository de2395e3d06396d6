/- package snap's writer: numbers and texts are put behind what it has; The parts of a state as values: what a value reads as, wherever it is kept; package snap's writeList, at its five types: how many, and each one, put behind what the writer has; package snap's writer: its methods for the parts of a state; codec.Seal and the document's SealOf: both return the four bytes of the two sums; nothing that was there has turned; snap.Encode: at a state that may be its bytes; else what is wrong with it; package snap's reader: what its number and text answer, and what is left (joined by program) -/
import Derived.Test.YtpcacaohknkdlahGreatDoorRows
import Derived.WalkKit
import Derived.ProofKit
import Derived.OpenShut
import Derived.ShutString
import Derived.WalkLawsBesides
import Derived.Laws.BytesArg
import Derived.Test.YtpcacaohknkdlahGreatDoorSB47
import Derived.Test.YtpcacaohknkdlahGreatDoorSB42
import Derived.Test.YtpcacaohknkdlahGreatDoorSB00
import Derived.Test.YtpcacaohknkdlahGreatDoorSB12
import Derived.Test.YtpcacaohknkdlahGreatDoorSB02
import Derived.Test.YtpcacaohknkdlahGreatDoorSB37
namespace Go.Proofs.YtpcacaohknkdlahGreatDoor

open Go.RowKit

/-- The writer at block b has the text t. -/
def WrT (B b : Nat) (t : ByteArray) (w : World) : Prop := WrB B b t.data.toList w

/-- Behind a call, the writer has t; what else stood stands. -/
structure WrS (B b : Nat) (t : ByteArray) (w w' : World) : Prop where
  has : WrT B b t w'
  below : Below B w w'
  kept : Lib.OthersKept 5 (some b) w w'

theorem kept_of_below {b : Option Nat} {e : TypeId} {w w' : World} (h : Below w.heap.size w w') : Lib.OthersKept e b w w' := by
  intro k o hk _ _
  exact (h.block k (Array.getElem?_eq_some_iff.1 hk).1).trans hk

theorem WrS.refl {B b : Nat} {t : ByteArray} {w : World} (h : WrT B b t w) : WrS B b t w w := ⟨h, Below.refl _ _, Lib.OthersKept.refl _ _ _⟩

theorem WrS.trans {B b : Nat} {t u : ByteArray} {w w1 w2 : World} (h : WrS B b t w w1) (k : WrS B b u w1 w2) : WrS B b u w w2 := ⟨k.has, h.below.trans k.below, h.kept.trans k.kept⟩

theorem WrS.more {B b : Nat} {t : ByteArray} {w w1 w2 : World} (h : WrS B b t w w1) (k : Below w1.heap.size w1 w2) (hB : B ≤ w1.heap.size) : WrS B b t w w2 :=
  ⟨WrB.below h.has k, h.below.trans (k.mono hB), h.kept.trans (kept_of_below k)⟩

theorem WrS.row {B b : Nat} {t : ByteArray} {w w' : World} (h : WrS B b t w w') {g : Nat} {cs : Array Value} {ty : TypeId} (hg : w.heap[g]? = some (.cells cs ty (0, 0))) (hne : g ≠ b) (ht : ty ≠ 5) : w'.heap[g]? = some (.cells cs ty (0, 0)) :=
  kept_row h.kept hg hne ht

theorem WrT.lt {B b : Nat} {t : ByteArray} {w : World} (h : WrT B b t w) : B ≤ b ∧ b < w.heap.size := WrB.lt h

set_option maxHeartbeats 800000 in
theorem wrNumber_any (B b : Nat) (t : ByteArray) (n : Int) (w : World) (h : WrT B b t w) (h0 : 0 ≤ n) (h1 : n ≤ 1099511627776) (ht : t.size ≤ 1000000000) :
    Calls Tryz.prog 31 #[.pointer (some ⟨b, 0, none⟩), .int .i64 n] w fun e w' => e = .returned (.tuple #[]) ∧ WrS B b (t ++ numOut n) w w' := by
  have hlt := h.lt
  have hsn := numOut_le n
  have CN : Hid (∀ w, Calls Tryz.prog 58 #[.int .i64 n] w fun e w' => e = .returned (.tuple #[.string (numOut n), .int .i64 0]) ∧ Below w.heap.size w w') := fun w => number_ok n w h0 h1
  obtain ⟨s, hs⟩ : ∃ s, s = numOut n := ⟨_, rfl⟩
  rw [← hs] at CN hsn ⊢
  have HT := ghid h
  have hts : t.data.toList.length = t.size := by simp
  have HTS := ghid hts
  clear hs h h0 h1 hts
  go_enter Tryz.func31, Tryz.ntmps31
  go_wp2_with fail
  refine (CN.out _).mono ?_
  rintro e w1 ⟨rfl, hb1⟩
  have hz1 := hb1.size
  have CW := ghid (wrWrite_any B b t.data.toList s w1 (WrB.below HT.out hb1) (by have := HTS.out; omega) (by omega))
  have HS1 := ghid ((WrS.refl HT.out).more hb1 (by omega))
  clear hb1
  go_wp2_with fail
  refine CW.out.mono ?_
  rintro e w2 ⟨rfl, h2, hb2, hk2⟩
  have HS2 : Hid (WrS B b (t ++ s) w w2) := HS1.out.trans ⟨by unfold WrT; simpa using h2, hb2, hk2⟩
  clear h2 hb2 hk2
  go_wp2
  go_end0
  exact ⟨rfl, HS2.out⟩

set_option maxHeartbeats 800000 in
theorem wrText_any (B b : Nat) (t : ByteArray) (x : ByteArray) (w : World) (h : WrT B b t w) (h0 : x.size ≤ 5000) (ht : t.size ≤ 1000000000) :
    Calls Tryz.prog 67 #[.pointer (some ⟨b, 0, none⟩), .string x] w fun e w' => e = .returned (.tuple #[]) ∧ WrS B b (t ++ textOut x) w w' := by
  have hlt := h.lt
  have hsn := textOut_size x
  have CN : Hid (∀ w, Calls Tryz.prog 60 #[.string x] w fun e w' => e = .returned (.tuple #[.string (textOut x), .int .i64 0]) ∧ Below w.heap.size w w') := fun w => text_ok x w h0
  obtain ⟨s, hs⟩ : ∃ s, s = textOut x := ⟨_, rfl⟩
  rw [← hs] at CN hsn ⊢
  have HT := ghid h
  have hts : t.data.toList.length = t.size := by simp
  have HTS := ghid hts
  clear hs h hts
  go_enter Tryz.func67, Tryz.ntmps67
  go_wp2_with fail
  refine (CN.out _).mono ?_
  rintro e w1 ⟨rfl, hb1⟩
  have hz1 := hb1.size
  have CW := ghid (wrWrite_any B b t.data.toList s w1 (WrB.below HT.out hb1) (by have := HTS.out; omega) (by omega))
  have HS1 := ghid ((WrS.refl HT.out).more hb1 (by omega))
  clear hb1
  go_wp2_with fail
  refine CW.out.mono ?_
  rintro e w2 ⟨rfl, h2, hb2, hk2⟩
  have HS2 : Hid (WrS B b (t ++ s) w w2) := HS1.out.trans ⟨by unfold WrT; simpa using h2, hb2, hk2⟩
  clear h2 hb2 hk2
  go_wp2
  go_end0
  exact ⟨rfl, HS2.out⟩

end Go.Proofs.YtpcacaohknkdlahGreatDoor

namespace Go.Proofs.YtpcacaohknkdlahGreatDoor

open Go.RowKit

def IntV (_ : World) (_ : Nat) (ev : Value) (x : Int) : Prop := ev = .int .i64 x

def LockV (w : World) (B : Nat) (ev : Value) (x : LockD) : Prop :=
  ∃ lv, ev = .agg #[.string x.name, .int .i64 x.holder, .int .i64 x.fence, lv] ∧ IntsR w B lv x.line ∧ x.name.size ≤ 140737488351232

def PairV (_ : World) (_ : Nat) (ev : Value) (x : PairD) : Prop :=
  ev = .agg #[.string x.name, .string x.value, .int .i64 x.version] ∧ x.name.size ≤ 140737488351232 ∧ x.value.size ≤ 140737488351232

def KeptV (_ : World) (_ : Nat) (ev : Value) (x : KeptD) : Prop :=
  ev = .agg #[.int .i64 x.seq, .int .i64 x.code, .int .i64 x.n, .string x.text] ∧ x.text.size ≤ 140737488351232

def SessV (w : World) (B : Nat) (ev : Value) (x : SessD) : Prop :=
  ∃ lv, ev = .agg #[.int .i64 x.client, .int .i64 x.id, .int .i64 x.acked, .int .i64 x.last, lv] ∧ KeptsR w B lv x.replies

/-- w' is w but for old blocks below n, and new ones. -/
def NewR (n : Nat) (w : World) (R : World → Prop) : Prop := ∀ u, TouchG w u (fun k => k < n) → R u

theorem NewR.now {n : Nat} {w : World} {R : World → Prop} (h : NewR n w R) : R w := h w (TouchG.refl _ _)

theorem NewR.touch {n : Nat} {w w' : World} {R : World → Prop} (h : NewR n w R) {S : Nat → Prop} (ht : TouchG w w' S) (hs : ∀ k, k < w.heap.size → S k → k < n) : NewR n w' R := by
  intro u hu
  refine h u ⟨hu.os.trans ht.os, hu.tape.trans ht.tape, hu.output.trans ht.output, Nat.le_trans ht.size hu.size, fun k hk hn => ?_⟩
  exact (hu.block k (by have := ht.size; omega) hn).trans (ht.block k hk (fun e => hn (hs k hk e)))

theorem NewR.mono {n m : Nat} {w : World} {R : World → Prop} (h : NewR n w R) (hm : m ≤ n) : NewR m w R :=
  fun u hu => h u ⟨hu.os, hu.tape, hu.output, hu.size, fun k hk hn => hu.block k hk (by omega)⟩

theorem NewR.imp {n : Nat} {w : World} {R Q : World → Prop} (h : NewR n w R) (hi : ∀ u, R u → Q u) : NewR n w Q := fun u hu => hi u (h u hu)

theorem NewR.of (n : Nat) (w : World) {R : World → Prop} (h : ∀ u, R u) : NewR n w R := fun u _ => h u

end Go.Proofs.YtpcacaohknkdlahGreatDoor

namespace Go.Proofs.YtpcacaohknkdlahGreatDoor

open Go.RowKit

/-- What is asked of a writing method: it puts the bytes of its argument behind what the writer has. -/
def WrC (cl : Nat) {α : Type} (out : α → ByteArray) (V : World → Nat → Value → α → Prop) (ok : α → Prop) : Prop :=
  ∀ (B b : Nat) (t : ByteArray) (ev : Value) (x : α) (w : World), V w B ev x → ok x → B ≤ w.heap.size → WrT B b t w → t.size + (out x).size ≤ 1000000000 →
    Calls Tryz.prog cl #[.pointer (some ⟨b, 0, none⟩), ev] w fun e w' => e = .returned (.tuple #[]) ∧ WrS B b (t ++ out x) w w'

theorem catB_take_le {α : Type} (out : α → ByteArray) (xs : List α) (k : Nat) : (catB ((xs.take k).map out)).size ≤ (catB (xs.map out)).size := by
  have e : xs.map out = (xs.take k).map out ++ (xs.drop k).map out := by rw [← List.map_append, List.take_append_drop]
  rw [e, catB_append, ByteArray.size_append]
  omega

theorem catB_step {α : Type} (out : α → ByteArray) {xs : List α} {k : Nat} {x : α} (h : xs[k]? = some x) (t : ByteArray) : (t ++ catB ((xs.take k).map out)) ++ out x = t ++ catB ((xs.take (k + 1)).map out) := by
  rw [take_snocC h, List.map_append, List.map_cons, List.map_nil, catB_snoc, ByteArray.append_assoc]

theorem catB_fits {α : Type} (out : α → ByteArray) {xs : List α} {k : Nat} {x : α} (h : xs[k]? = some x) (t : ByteArray) : (t ++ catB ((xs.take k).map out)).size + (out x).size ≤ t.size + (catB (xs.map out)).size := by
  rw [← ByteArray.size_append, catB_step out h t, ByteArray.size_append]
  have := catB_take_le out xs (k + 1)
  omega

theorem wr_alloc {B b : Nat} {t : ByteArray} {w w1 : World} (h : WrS B b t w w1) (hB : B ≤ w1.heap.size) (o : Obj) : WrS B b t w (w1.alloc o) := h.more ((Below.refl _ _).alloc (Nat.le_refl _) _) hB

set_option maxRecDepth 100000 in
set_option maxHeartbeats 1600000 in
theorem wlistInt (B b : Nat) (t : ByteArray) (v : Value) (xs : List Int) (cl : Nat) (out : Int → ByteArray) (w : World) (hv : IntsR w B v xs) (_hB : B ≤ w.heap.size) (hw : WrT B b t w) (hlen : (xs.length : Int) ≤ 1099511627776) (hsz : t.size + (numOut xs.length ++ catB (xs.map out)).size ≤ 1000000000)
    (eg : ∀ args w, (callFunc cl args).run Tryz.prog w = .ok (.enter cl args) w) (hc : WrC cl out IntV (fun x => x ∈ xs)) :
    Calls Tryz.prog 68 #[.pointer (some ⟨b, 0, none⟩), v, .func (.func cl) #[.pointer (some ⟨b, 0, none⟩)] #[]] w fun e w' => e = .returned (.tuple #[]) ∧ WrS B b (t ++ (numOut xs.length ++ catB (xs.map out))) w w' := by
  have hlt := hw.lt
  have HC := ghid hc
  obtain ⟨ao, cap, rfl, h1, h2, h3, h4⟩ := hv
  rw [ByteArray.size_append] at hsz
  have CN := ghid (wrNumber_any B b t xs.length w hw (by omega) hlen (by omega))
  rw [← ByteArray.append_assoc]
  have hts : (t ++ numOut xs.length).size + (catB (xs.map out)).size ≤ 1000000000 := by rw [ByteArray.size_append]; omega
  obtain ⟨tn, htn⟩ : ∃ tn, tn = t ++ numOut xs.length := ⟨_, rfl⟩
  rw [← htn] at CN hts ⊢
  clear hc htn hsz hw
  go_enter Tryz.func68, Tryz.ntmps68
  go_wp2_with fail
  refine CN.out.mono ?_
  rintro e w1 ⟨rfl, hs1⟩
  have HS1 := ghid hs1
  clear hs1 CN
  go_wp2_with fail
  go_loopw [14] (fun i wr => ∃ k : Nat, k ≤ xs.length ∧ i = .int .i64 k ∧ WrS B b (tn ++ catB ((xs.take k).map out)) w wr) (fun i _ => xs.length - (intOf i).toNat)
  case atStart => exact ⟨0, Nat.zero_le _, rfl, by rw [List.take_zero, List.map_nil, catB_nil, bnil]; exact HS1.out⟩
  case round =>
    obtain ⟨k, hk, rfl, hs⟩ := hrel
    have HS := ghid hs
    have hb := hs.below
    have hzr := hb.size
    clear hs HS1
    by_cases hlt2 : k < xs.length
    · obtain ⟨g, off, rfl, hbB, hc⟩ := h4 (by omega)
      obtain ⟨x, hx⟩ : ∃ x, xs[k]? = some x := ⟨_, List.getElem?_eq_getElem hlt2⟩
      have hm := List.mem_of_getElem? hx
      have hfit := catB_fits out hx tn
      have HST := ghid (catB_step out hx tn)
      have c0 := (hb.cell (p := ⟨g, off + k, none⟩) hbB).trans (hc k x hx)
      have HSA := HS
      have CW := ghid (HC.out B b _ (.int .i64 x) x wr rfl hm (by omega) HSA.out.has (by omega))
      clear hx hc h4 hb hm HC
      go_wp2_with fail
      refine CW.out.mono ?_
      rintro e w2 ⟨rfl, hs2⟩
      have HS2 := ghid (HSA.out.trans hs2)
      rw [HST.out] at HS2
      clear hs2 CW HST
      go_wp2
      go_roundw
      case rel => exact ⟨k + 1, by omega, by go_num, HS2.out⟩
      case measure => simp [intOf]; omega
    · have hkl : k = xs.length := by omega
      subst hkl
      rw [List.take_length] at HS
      clear h4 hb
      go_wp2
      go_end0
      exact ⟨rfl, HS.out⟩

set_option maxRecDepth 100000 in
set_option maxHeartbeats 1600000 in
theorem wlistKept (B b : Nat) (t : ByteArray) (v : Value) (xs : List KeptD) (cl : Nat) (out : KeptD → ByteArray) (w : World) (hv : KeptsR w B v xs) (hB : B ≤ w.heap.size) (hw : WrT B b t w) (hlen : (xs.length : Int) ≤ 1099511627776) (hsz : t.size + (numOut xs.length ++ catB (xs.map out)).size ≤ 1000000000)
    (eg : ∀ args w, (callFunc cl args).run Tryz.prog w = .ok (.enter cl args) w) (hc : WrC cl out KeptV (fun x => x ∈ xs)) :
    Calls Tryz.prog 69 #[.pointer (some ⟨b, 0, none⟩), v, .func (.func cl) #[.pointer (some ⟨b, 0, none⟩)] #[]] w fun e w' => e = .returned (.tuple #[]) ∧ WrS B b (t ++ (numOut xs.length ++ catB (xs.map out))) w w' := by
  have hlt := hw.lt
  have HC := ghid hc
  obtain ⟨ao, cap, rfl, h1, h2, h3, h4⟩ := hv
  rw [ByteArray.size_append] at hsz
  have CN := ghid (wrNumber_any B b t xs.length w hw (by omega) hlen (by omega))
  rw [← ByteArray.append_assoc]
  have hts : (t ++ numOut xs.length).size + (catB (xs.map out)).size ≤ 1000000000 := by rw [ByteArray.size_append]; omega
  obtain ⟨tn, htn⟩ : ∃ tn, tn = t ++ numOut xs.length := ⟨_, rfl⟩
  rw [← htn] at CN hts ⊢
  clear hc htn hsz hw
  go_enter Tryz.func69, Tryz.ntmps69
  go_wp2_with fail
  refine CN.out.mono ?_
  rintro e w1 ⟨rfl, hs1⟩
  have HS1 := ghid hs1
  clear hs1 CN
  go_wp2_with fail
  go_loopw [14] (fun i wr => ∃ k : Nat, k ≤ xs.length ∧ i = .int .i64 k ∧ WrS B b (tn ++ catB ((xs.take k).map out)) w wr) (fun i _ => xs.length - (intOf i).toNat)
  case atStart => exact ⟨0, Nat.zero_le _, rfl, by rw [List.take_zero, List.map_nil, catB_nil, bnil]; exact HS1.out⟩
  case round =>
    obtain ⟨k, hk, rfl, hs⟩ := hrel
    have HS := ghid hs
    have hb := hs.below
    have hzr := hb.size
    clear hs HS1
    by_cases hlt2 : k < xs.length
    · obtain ⟨g, off, rfl, hbB, hc⟩ := h4 (by omega)
      obtain ⟨x, hx⟩ : ∃ x, xs[k]? = some x := ⟨_, List.getElem?_eq_getElem hlt2⟩
      have hm := List.mem_of_getElem? hx
      have hfit := catB_fits out hx tn
      have HST := ghid (catB_step out hx tn)
      obtain ⟨c0, c1, c2, c3, hs⟩ := (hc k x hx).below hbB hb
      obtain ⟨xs0, xc, xn, xt⟩ := x
      simp only at c0 c1 c2 c3 hs
      have hba : Below wr.heap.size wr (wr.alloc (.cells #[.int .i64 xs0, .int .i64 xc, .int .i64 xn, .string xt] 132)) := (Below.refl _ _).alloc (Nat.le_refl _) _
      have HSA := ghid (wr_alloc HS.out (Nat.le_trans hB hzr) (.cells #[.int .i64 xs0, .int .i64 xc, .int .i64 xn, .string xt] 132))
      have CW := ghid (HC.out B b _ (.agg #[.int .i64 xs0, .int .i64 xc, .int .i64 xn, .string xt]) ⟨xs0, xc, xn, xt⟩ (wr.alloc (.cells #[.int .i64 xs0, .int .i64 xc, .int .i64 xn, .string xt] 132)) ⟨rfl, hs⟩ hm (by simp; omega) HSA.out.has (by omega))
      clear hba hx hc h4 hb hm HC
      go_wp2_with fail
      refine CW.out.mono ?_
      rintro e w2 ⟨rfl, hs2⟩
      have HS2 := ghid (HSA.out.trans hs2)
      rw [HST.out] at HS2
      clear hs2 CW HST
      go_wp2
      go_roundw
      case rel => exact ⟨k + 1, by omega, by go_num, HS2.out⟩
      case measure => simp [intOf]; omega
    · have hkl : k = xs.length := by omega
      subst hkl
      rw [List.take_length] at HS
      clear h4 hb
      go_wp2
      go_end0
      exact ⟨rfl, HS.out⟩

set_option maxRecDepth 100000 in
set_option maxHeartbeats 1600000 in
theorem wlistLock (B b : Nat) (t : ByteArray) (v : Value) (xs : List LockD) (cl : Nat) (out : LockD → ByteArray) (w : World) (hv : LocksR w B v xs) (hB : B ≤ w.heap.size) (hw : WrT B b t w) (hlen : (xs.length : Int) ≤ 1099511627776) (hsz : t.size + (numOut xs.length ++ catB (xs.map out)).size ≤ 1000000000)
    (eg : ∀ args w, (callFunc cl args).run Tryz.prog w = .ok (.enter cl args) w) (hc : WrC cl out LockV (fun x => x ∈ xs)) :
    Calls Tryz.prog 32 #[.pointer (some ⟨b, 0, none⟩), v, .func (.func cl) #[.pointer (some ⟨b, 0, none⟩)] #[]] w fun e w' => e = .returned (.tuple #[]) ∧ WrS B b (t ++ (numOut xs.length ++ catB (xs.map out))) w w' := by
  have hlt := hw.lt
  have HC := ghid hc
  obtain ⟨ao, cap, rfl, h1, h2, h3, h4⟩ := hv
  rw [ByteArray.size_append] at hsz
  have CN := ghid (wrNumber_any B b t xs.length w hw (by omega) hlen (by omega))
  rw [← ByteArray.append_assoc]
  have hts : (t ++ numOut xs.length).size + (catB (xs.map out)).size ≤ 1000000000 := by rw [ByteArray.size_append]; omega
  obtain ⟨tn, htn⟩ : ∃ tn, tn = t ++ numOut xs.length := ⟨_, rfl⟩
  rw [← htn] at CN hts ⊢
  clear hc htn hsz hw
  go_enter Tryz.func32, Tryz.ntmps32
  go_wp2_with fail
  refine CN.out.mono ?_
  rintro e w1 ⟨rfl, hs1⟩
  have HS1 := ghid hs1
  clear hs1 CN
  go_wp2_with fail
  go_loopw [14] (fun i wr => ∃ k : Nat, k ≤ xs.length ∧ i = .int .i64 k ∧ WrS B b (tn ++ catB ((xs.take k).map out)) w wr) (fun i _ => xs.length - (intOf i).toNat)
  case atStart => exact ⟨0, Nat.zero_le _, rfl, by rw [List.take_zero, List.map_nil, catB_nil, bnil]; exact HS1.out⟩
  case round =>
    obtain ⟨k, hk, rfl, hs⟩ := hrel
    have HS := ghid hs
    have hb := hs.below
    have hzr := hb.size
    clear hs HS1
    by_cases hlt2 : k < xs.length
    · obtain ⟨g, off, rfl, hbB, hc⟩ := h4 (by omega)
      obtain ⟨x, hx⟩ : ∃ x, xs[k]? = some x := ⟨_, List.getElem?_eq_getElem hlt2⟩
      have hm := List.mem_of_getElem? hx
      have hfit := catB_fits out hx tn
      have HST := ghid (catB_step out hx tn)
      obtain ⟨lv, c0, c1, c2, c3, hl, hs⟩ := (hc k x hx).below hbB hb (Nat.le_refl _)
      obtain ⟨lo, lc, rfl, -⟩ := id hl
      obtain ⟨xn, xh, xf, xl⟩ := x
      simp only at c0 c1 c2 c3 hl hs
      have hba : Below wr.heap.size wr (wr.alloc (.cells #[.string xn, .int .i64 xh, .int .i64 xf, .slice lo xl.length lc] 86)) := (Below.refl _ _).alloc (Nat.le_refl _) _
      have HSA := ghid (wr_alloc HS.out (Nat.le_trans hB hzr) (.cells #[.string xn, .int .i64 xh, .int .i64 xf, .slice lo xl.length lc] 86))
      have CW := ghid (HC.out B b _ (.agg #[.string xn, .int .i64 xh, .int .i64 xf, .slice lo xl.length lc]) ⟨xn, xh, xf, xl⟩ (wr.alloc (.cells #[.string xn, .int .i64 xh, .int .i64 xf, .slice lo xl.length lc] 86)) ⟨_, rfl, hl.below hba (Nat.le_trans hB hzr), hs⟩ hm (by simp; omega) HSA.out.has (by omega))
      clear hba hl hx hc h4 hb hm HC
      go_wp2_with fail
      refine CW.out.mono ?_
      rintro e w2 ⟨rfl, hs2⟩
      have HS2 := ghid (HSA.out.trans hs2)
      rw [HST.out] at HS2
      clear hs2 CW HST
      go_wp2
      go_roundw
      case rel => exact ⟨k + 1, by omega, by go_num, HS2.out⟩
      case measure => simp [intOf]; omega
    · have hkl : k = xs.length := by omega
      subst hkl
      rw [List.take_length] at HS
      clear h4 hb
      go_wp2
      go_end0
      exact ⟨rfl, HS.out⟩

set_option maxRecDepth 100000 in
set_option maxHeartbeats 1600000 in
theorem wlistPair (B b : Nat) (t : ByteArray) (v : Value) (xs : List PairD) (cl : Nat) (out : PairD → ByteArray) (w : World) (hv : PairsR w B v xs) (hB : B ≤ w.heap.size) (hw : WrT B b t w) (hlen : (xs.length : Int) ≤ 1099511627776) (hsz : t.size + (numOut xs.length ++ catB (xs.map out)).size ≤ 1000000000)
    (eg : ∀ args w, (callFunc cl args).run Tryz.prog w = .ok (.enter cl args) w) (hc : WrC cl out PairV (fun x => x ∈ xs)) :
    Calls Tryz.prog 34 #[.pointer (some ⟨b, 0, none⟩), v, .func (.func cl) #[.pointer (some ⟨b, 0, none⟩)] #[]] w fun e w' => e = .returned (.tuple #[]) ∧ WrS B b (t ++ (numOut xs.length ++ catB (xs.map out))) w w' := by
  have hlt := hw.lt
  have HC := ghid hc
  obtain ⟨ao, cap, rfl, h1, h2, h3, h4⟩ := hv
  rw [ByteArray.size_append] at hsz
  have CN := ghid (wrNumber_any B b t xs.length w hw (by omega) hlen (by omega))
  rw [← ByteArray.append_assoc]
  have hts : (t ++ numOut xs.length).size + (catB (xs.map out)).size ≤ 1000000000 := by rw [ByteArray.size_append]; omega
  obtain ⟨tn, htn⟩ : ∃ tn, tn = t ++ numOut xs.length := ⟨_, rfl⟩
  rw [← htn] at CN hts ⊢
  clear hc htn hsz hw
  go_enter Tryz.func34, Tryz.ntmps34
  go_wp2_with fail
  refine CN.out.mono ?_
  rintro e w1 ⟨rfl, hs1⟩
  have HS1 := ghid hs1
  clear hs1 CN
  go_wp2_with fail
  go_loopw [14] (fun i wr => ∃ k : Nat, k ≤ xs.length ∧ i = .int .i64 k ∧ WrS B b (tn ++ catB ((xs.take k).map out)) w wr) (fun i _ => xs.length - (intOf i).toNat)
  case atStart => exact ⟨0, Nat.zero_le _, rfl, by rw [List.take_zero, List.map_nil, catB_nil, bnil]; exact HS1.out⟩
  case round =>
    obtain ⟨k, hk, rfl, hs⟩ := hrel
    have HS := ghid hs
    have hb := hs.below
    have hzr := hb.size
    clear hs HS1
    by_cases hlt2 : k < xs.length
    · obtain ⟨g, off, rfl, hbB, hc⟩ := h4 (by omega)
      obtain ⟨x, hx⟩ : ∃ x, xs[k]? = some x := ⟨_, List.getElem?_eq_getElem hlt2⟩
      have hm := List.mem_of_getElem? hx
      have hfit := catB_fits out hx tn
      have HST := ghid (catB_step out hx tn)
      obtain ⟨c0, c1, c2, hs0, hs1⟩ := (hc k x hx).below hbB hb
      obtain ⟨xn, xv, xk⟩ := x
      simp only at c0 c1 c2 hs0 hs1
      have hba : Below wr.heap.size wr (wr.alloc (.cells #[.string xn, .string xv, .int .i64 xk] 90)) := (Below.refl _ _).alloc (Nat.le_refl _) _
      have HSA := ghid (wr_alloc HS.out (Nat.le_trans hB hzr) (.cells #[.string xn, .string xv, .int .i64 xk] 90))
      have CW := ghid (HC.out B b _ (.agg #[.string xn, .string xv, .int .i64 xk]) ⟨xn, xv, xk⟩ (wr.alloc (.cells #[.string xn, .string xv, .int .i64 xk] 90)) ⟨rfl, hs0, hs1⟩ hm (by simp; omega) HSA.out.has (by omega))
      clear hba hx hc h4 hb hm HC
      go_wp2_with fail
      refine CW.out.mono ?_
      rintro e w2 ⟨rfl, hs2⟩
      have HS2 := ghid (HSA.out.trans hs2)
      rw [HST.out] at HS2
      clear hs2 CW HST
      go_wp2
      go_roundw
      case rel => exact ⟨k + 1, by omega, by go_num, HS2.out⟩
      case measure => simp [intOf]; omega
    · have hkl : k = xs.length := by omega
      subst hkl
      rw [List.take_length] at HS
      clear h4 hb
      go_wp2
      go_end0
      exact ⟨rfl, HS.out⟩

set_option maxRecDepth 100000 in
set_option maxHeartbeats 1600000 in
theorem wlistSess (B b : Nat) (t : ByteArray) (v : Value) (xs : List SessD) (cl : Nat) (out : SessD → ByteArray) (w : World) (hv : SessR w B v xs) (hB : B ≤ w.heap.size) (hw : WrT B b t w) (hlen : (xs.length : Int) ≤ 1099511627776) (hsz : t.size + (numOut xs.length ++ catB (xs.map out)).size ≤ 1000000000)
    (eg : ∀ args w, (callFunc cl args).run Tryz.prog w = .ok (.enter cl args) w) (hc : WrC cl out SessV (fun x => x ∈ xs)) :
    Calls Tryz.prog 36 #[.pointer (some ⟨b, 0, none⟩), v, .func (.func cl) #[.pointer (some ⟨b, 0, none⟩)] #[]] w fun e w' => e = .returned (.tuple #[]) ∧ WrS B b (t ++ (numOut xs.length ++ catB (xs.map out))) w w' := by
  have hlt := hw.lt
  have HC := ghid hc
  obtain ⟨ao, cap, rfl, h1, h2, h3, h4⟩ := hv
  rw [ByteArray.size_append] at hsz
  have CN := ghid (wrNumber_any B b t xs.length w hw (by omega) hlen (by omega))
  rw [← ByteArray.append_assoc]
  have hts : (t ++ numOut xs.length).size + (catB (xs.map out)).size ≤ 1000000000 := by rw [ByteArray.size_append]; omega
  obtain ⟨tn, htn⟩ : ∃ tn, tn = t ++ numOut xs.length := ⟨_, rfl⟩
  rw [← htn] at CN hts ⊢
  clear hc htn hsz hw
  go_enter Tryz.func36, Tryz.ntmps36
  go_wp2_with fail
  refine CN.out.mono ?_
  rintro e w1 ⟨rfl, hs1⟩
  have HS1 := ghid hs1
  clear hs1 CN
  go_wp2_with fail
  go_loopw [14] (fun i wr => ∃ k : Nat, k ≤ xs.length ∧ i = .int .i64 k ∧ WrS B b (tn ++ catB ((xs.take k).map out)) w wr) (fun i _ => xs.length - (intOf i).toNat)
  case atStart => exact ⟨0, Nat.zero_le _, rfl, by rw [List.take_zero, List.map_nil, catB_nil, bnil]; exact HS1.out⟩
  case round =>
    obtain ⟨k, hk, rfl, hs⟩ := hrel
    have HS := ghid hs
    have hb := hs.below
    have hzr := hb.size
    clear hs HS1
    by_cases hlt2 : k < xs.length
    · obtain ⟨g, off, rfl, hbB, hc⟩ := h4 (by omega)
      obtain ⟨x, hx⟩ : ∃ x, xs[k]? = some x := ⟨_, List.getElem?_eq_getElem hlt2⟩
      have hm := List.mem_of_getElem? hx
      have hfit := catB_fits out hx tn
      have HST := ghid (catB_step out hx tn)
      obtain ⟨lv, c0, c1, c2, c3, c4, hl⟩ := (hc k x hx).below hbB hb (Nat.le_refl _)
      obtain ⟨lo, lc, rfl, -⟩ := id hl
      obtain ⟨xc, xi, xa, xz, xl⟩ := x
      simp only at c0 c1 c2 c3 c4 hl
      have hba : Below wr.heap.size wr (wr.alloc (.cells #[.int .i64 xc, .int .i64 xi, .int .i64 xa, .int .i64 xz, .slice lo xl.length lc] 95)) := (Below.refl _ _).alloc (Nat.le_refl _) _
      have HSA := ghid (wr_alloc HS.out (Nat.le_trans hB hzr) (.cells #[.int .i64 xc, .int .i64 xi, .int .i64 xa, .int .i64 xz, .slice lo xl.length lc] 95))
      have CW := ghid (HC.out B b _ (.agg #[.int .i64 xc, .int .i64 xi, .int .i64 xa, .int .i64 xz, .slice lo xl.length lc]) ⟨xc, xi, xa, xz, xl⟩ (wr.alloc (.cells #[.int .i64 xc, .int .i64 xi, .int .i64 xa, .int .i64 xz, .slice lo xl.length lc] 95)) ⟨_, rfl, hl.below hba (Nat.le_trans hB hzr)⟩ hm (by simp; omega) HSA.out.has (by omega))
      clear hba hl hx hc h4 hb hm HC
      go_wp2_with fail
      refine CW.out.mono ?_
      rintro e w2 ⟨rfl, hs2⟩
      have HS2 := ghid (HSA.out.trans hs2)
      rw [HST.out] at HS2
      clear hs2 CW HST
      go_wp2
      go_roundw
      case rel => exact ⟨k + 1, by omega, by go_num, HS2.out⟩
      case measure => simp [intOf]; omega
    · have hkl : k = xs.length := by omega
      subst hkl
      rw [List.take_length] at HS
      clear h4 hb
      go_wp2
      go_end0
      exact ⟨rfl, HS.out⟩

end Go.Proofs.YtpcacaohknkdlahGreatDoor

namespace Go.Proofs.YtpcacaohknkdlahGreatDoor

open Go.RowKit

theorem WrC.mono {cl : Nat} {α : Type} {out : α → ByteArray} {V : World → Nat → Value → α → Prop} {ok ok' : α → Prop} (h : WrC cl out V ok) (hi : ∀ x, ok' x → ok x) : WrC cl out V ok' :=
  fun B b t ev x w hv ho => h B b t ev x w hv (hi x ho)

theorem wrNumber_c {ok : Int → Prop} (h : ∀ x, ok x → 0 ≤ x ∧ x ≤ 1099511627776) : WrC 31 numOut IntV ok := by
  intro B b t ev x w hv ho hB hw hz
  obtain rfl := hv
  exact wrNumber_any B b t x w hw (h x ho).1 (h x ho).2 (by omega)

theorem wr_number_enters : ∀ args w, (callFunc 31 args).run Tryz.prog w = .ok (.enter 31 args) w := enters_of Tryz.func31 (by decide) rfl

theorem wr_kept_enters : ∀ args w, (callFunc 70 args).run Tryz.prog w = .ok (.enter 70 args) w := enters_of Tryz.func70 (by decide) rfl

theorem wr_pair_enters : ∀ args w, (callFunc 35 args).run Tryz.prog w = .ok (.enter 35 args) w := enters_of Tryz.func35 (by decide) rfl

theorem wr_lock_enters : ∀ args w, (callFunc 33 args).run Tryz.prog w = .ok (.enter 33 args) w := enters_of Tryz.func33 (by decide) rfl

theorem wr_session_enters : ∀ args w, (callFunc 37 args).run Tryz.prog w = .ok (.enter 37 args) w := enters_of Tryz.func37 (by decide) rfl

/-- The cells of a block. -/
theorem wr_cells {w : World} {b : Nat} {cs : Array Value} {t : TypeId} (h : w.heap[b]? = some (.cells cs t (0, 0))) (j : Nat) : w.cell? ⟨b, j, none⟩ = cs[j]? := Lib.cell_of_heap h j

def okK (k : KeptD) : Prop := 0 ≤ k.seq ∧ k.seq ≤ 1099511627776 ∧ 0 ≤ k.code ∧ k.code ≤ 1099511627776 ∧ 0 ≤ k.n ∧ k.n ≤ 1099511627776 ∧ k.text.size ≤ 5000

set_option maxRecDepth 100000 in
set_option maxHeartbeats 1600000 in
theorem wr_kept : WrC 70 keptOut KeptV okK := by
  intro B b t ev x w hv hok hB hw hz
  obtain ⟨rfl, -⟩ := hv
  obtain ⟨xs0, xc, xn, xt⟩ := x
  unfold okK at hok
  simp only at hok
  have hlt := hw.lt
  obtain ⟨t1, ht1⟩ : ∃ t1, t1 = t ++ numOut xs0 := ⟨_, rfl⟩
  obtain ⟨t2, ht2⟩ : ∃ t2, t2 = t1 ++ numOut xc := ⟨_, rfl⟩
  obtain ⟨t3, ht3⟩ : ∃ t3, t3 = t2 ++ numOut xn := ⟨_, rfl⟩
  obtain ⟨t4, ht4⟩ : ∃ t4, t4 = t3 ++ textOut xt := ⟨_, rfl⟩
  have hfin : t ++ keptOut ⟨xs0, xc, xn, xt⟩ = t4 := by rw [ht4, ht3, ht2, ht1]; simp only [keptOut, ByteArray.append_assoc]
  have hz' : t4.size ≤ 1000000000 := by rw [← hfin, ByteArray.size_append]; exact hz
  have hz1 : t1.size = t.size + (numOut xs0).size := by rw [ht1, ByteArray.size_append]
  have hz2 : t2.size = t1.size + (numOut xc).size := by rw [ht2, ByteArray.size_append]
  have hz3 : t3.size = t2.size + (numOut xn).size := by rw [ht3, ByteArray.size_append]
  have hz4 : t4.size = t3.size + (textOut xt).size := by rw [ht4, ByteArray.size_append]
  rw [hfin]
  have HT0 := ghid ht1
  have HT1 := ghid ht2
  have HT2 := ghid ht3
  have HT3 := ghid ht4
  have HOK0 : Hid (0 ≤ xs0 ∧ xs0 ≤ 1099511627776) := ⟨hok.1, hok.2.1⟩
  have HOK1 : Hid (0 ≤ xc ∧ xc ≤ 1099511627776) := ⟨hok.2.2.1, hok.2.2.2.1⟩
  have HOK2 : Hid (0 ≤ xn ∧ xn ≤ 1099511627776) := ⟨hok.2.2.2.2.1, hok.2.2.2.2.2.1⟩
  have HOK3 : Hid (xt.size ≤ 5000) := hok.2.2.2.2.2.2
  clear ht1 ht2 ht3 ht4 hfin hok hz
  have hba : Below w.heap.size w (w.alloc (.cells #[.int .i64 xs0, .int .i64 xc, .int .i64 xn, .string xt] 132)) := (Below.refl _ _).alloc (Nat.le_refl _) _
  have HS0 := ghid ((WrS.refl hw).more hba hB)
  have HX0 : Hid ((w.alloc (.cells #[.int .i64 xs0, .int .i64 xc, .int .i64 xn, .string xt] 132)).heap[w.heap.size]? = some (.cells #[.int .i64 xs0, .int .i64 xc, .int .i64 xn, .string xt] 132 (0, 0))) := heap_alloc_new w _
  have c0_0 : (w.alloc (.cells #[.int .i64 xs0, .int .i64 xc, .int .i64 xn, .string xt] 132)).cell? ⟨w.heap.size, 0, none⟩ = some (.int .i64 xs0) := wr_cells HX0.out 0
  have c0_1 : (w.alloc (.cells #[.int .i64 xs0, .int .i64 xc, .int .i64 xn, .string xt] 132)).cell? ⟨w.heap.size, 1, none⟩ = some (.int .i64 xc) := wr_cells HX0.out 1
  have c0_2 : (w.alloc (.cells #[.int .i64 xs0, .int .i64 xc, .int .i64 xn, .string xt] 132)).cell? ⟨w.heap.size, 2, none⟩ = some (.int .i64 xn) := wr_cells HX0.out 2
  have c0_3 : (w.alloc (.cells #[.int .i64 xs0, .int .i64 xc, .int .i64 xn, .string xt] 132)).cell? ⟨w.heap.size, 3, none⟩ = some (.string xt) := wr_cells HX0.out 3
  have hbne : w.heap.size ≠ b := by omega
  clear hw hba
  go_enter Tryz.func70, Tryz.ntmps70
  have CW0 := ghid (wrNumber_any B b t xs0 (w.alloc (.cells #[.int .i64 xs0, .int .i64 xc, .int .i64 xn, .string xt] 132)) HS0.out.has HOK0.out.1 HOK0.out.2 (by omega))
  go_wp2_with fail
  refine CW0.out.mono ?_
  rintro e w1 ⟨rfl, hs⟩
  rw [← HT0.out] at hs
  have HS1 := ghid (HS0.out.trans hs)
  have HX1 : Hid (w1.heap[w.heap.size]? = some (.cells #[.int .i64 xs0, .int .i64 xc, .int .i64 xn, .string xt] 132 (0, 0))) := hs.row HX0.out hbne (by decide)
  clear hs CW0
  have c1_0 : w1.cell? ⟨w.heap.size, 0, none⟩ = some (.int .i64 xs0) := wr_cells HX1.out 0
  have c1_1 : w1.cell? ⟨w.heap.size, 1, none⟩ = some (.int .i64 xc) := wr_cells HX1.out 1
  have c1_2 : w1.cell? ⟨w.heap.size, 2, none⟩ = some (.int .i64 xn) := wr_cells HX1.out 2
  have c1_3 : w1.cell? ⟨w.heap.size, 3, none⟩ = some (.string xt) := wr_cells HX1.out 3
  clear c0_0 c0_1 c0_2 c0_3
  have CW1 := ghid (wrNumber_any B b t1 xc w1 HS1.out.has HOK1.out.1 HOK1.out.2 (by omega))
  go_wp2_with fail
  refine CW1.out.mono ?_
  rintro e w2 ⟨rfl, hs⟩
  rw [← HT1.out] at hs
  have HS2 := ghid (HS1.out.trans hs)
  have HX2 : Hid (w2.heap[w.heap.size]? = some (.cells #[.int .i64 xs0, .int .i64 xc, .int .i64 xn, .string xt] 132 (0, 0))) := hs.row HX1.out hbne (by decide)
  clear hs CW1
  have c2_0 : w2.cell? ⟨w.heap.size, 0, none⟩ = some (.int .i64 xs0) := wr_cells HX2.out 0
  have c2_1 : w2.cell? ⟨w.heap.size, 1, none⟩ = some (.int .i64 xc) := wr_cells HX2.out 1
  have c2_2 : w2.cell? ⟨w.heap.size, 2, none⟩ = some (.int .i64 xn) := wr_cells HX2.out 2
  have c2_3 : w2.cell? ⟨w.heap.size, 3, none⟩ = some (.string xt) := wr_cells HX2.out 3
  clear c1_0 c1_1 c1_2 c1_3
  have CW2 := ghid (wrNumber_any B b t2 xn w2 HS2.out.has HOK2.out.1 HOK2.out.2 (by omega))
  go_wp2_with fail
  refine CW2.out.mono ?_
  rintro e w3 ⟨rfl, hs⟩
  rw [← HT2.out] at hs
  have HS3 := ghid (HS2.out.trans hs)
  have HX3 : Hid (w3.heap[w.heap.size]? = some (.cells #[.int .i64 xs0, .int .i64 xc, .int .i64 xn, .string xt] 132 (0, 0))) := hs.row HX2.out hbne (by decide)
  clear hs CW2
  have c3_0 : w3.cell? ⟨w.heap.size, 0, none⟩ = some (.int .i64 xs0) := wr_cells HX3.out 0
  have c3_1 : w3.cell? ⟨w.heap.size, 1, none⟩ = some (.int .i64 xc) := wr_cells HX3.out 1
  have c3_2 : w3.cell? ⟨w.heap.size, 2, none⟩ = some (.int .i64 xn) := wr_cells HX3.out 2
  have c3_3 : w3.cell? ⟨w.heap.size, 3, none⟩ = some (.string xt) := wr_cells HX3.out 3
  clear c2_0 c2_1 c2_2 c2_3
  have CW3 := ghid (wrText_any B b t3 xt w3 HS3.out.has HOK3.out (by omega))
  go_wp2_with fail
  refine CW3.out.mono ?_
  rintro e w4 ⟨rfl, hs⟩
  rw [← HT3.out] at hs
  have HS4 := ghid (HS3.out.trans hs)
  clear hs CW3
  go_wp2
  go_end0
  exact ⟨rfl, HS4.out⟩

def okP (k : PairD) : Prop := k.name.size ≤ 5000 ∧ k.value.size ≤ 5000 ∧ 0 ≤ k.version ∧ k.version ≤ 1099511627776

set_option maxRecDepth 100000 in
set_option maxHeartbeats 1600000 in
theorem wr_pair : WrC 35 pairOut PairV okP := by
  intro B b t ev x w hv hok hB hw hz
  obtain ⟨rfl, -⟩ := hv
  obtain ⟨xn, xv, xk⟩ := x
  unfold okP at hok
  simp only at hok
  have hlt := hw.lt
  obtain ⟨t1, ht1⟩ : ∃ t1, t1 = t ++ textOut xn := ⟨_, rfl⟩
  obtain ⟨t2, ht2⟩ : ∃ t2, t2 = t1 ++ textOut xv := ⟨_, rfl⟩
  obtain ⟨t3, ht3⟩ : ∃ t3, t3 = t2 ++ numOut xk := ⟨_, rfl⟩
  have hfin : t ++ pairOut ⟨xn, xv, xk⟩ = t3 := by rw [ht3, ht2, ht1]; simp only [pairOut, ByteArray.append_assoc]
  have hz' : t3.size ≤ 1000000000 := by rw [← hfin, ByteArray.size_append]; exact hz
  have hz1 : t1.size = t.size + (textOut xn).size := by rw [ht1, ByteArray.size_append]
  have hz2 : t2.size = t1.size + (textOut xv).size := by rw [ht2, ByteArray.size_append]
  have hz3 : t3.size = t2.size + (numOut xk).size := by rw [ht3, ByteArray.size_append]
  rw [hfin]
  have HT0 := ghid ht1
  have HT1 := ghid ht2
  have HT2 := ghid ht3
  have HOK0 : Hid (xn.size ≤ 5000) := hok.1
  have HOK1 : Hid (xv.size ≤ 5000) := hok.2.1
  have HOK2 : Hid (0 ≤ xk ∧ xk ≤ 1099511627776) := ⟨hok.2.2.1, hok.2.2.2⟩
  clear ht1 ht2 ht3 hfin hok hz
  have hba : Below w.heap.size w (w.alloc (.cells #[.string xn, .string xv, .int .i64 xk] 90)) := (Below.refl _ _).alloc (Nat.le_refl _) _
  have HS0 := ghid ((WrS.refl hw).more hba hB)
  have HX0 : Hid ((w.alloc (.cells #[.string xn, .string xv, .int .i64 xk] 90)).heap[w.heap.size]? = some (.cells #[.string xn, .string xv, .int .i64 xk] 90 (0, 0))) := heap_alloc_new w _
  have c0_0 : (w.alloc (.cells #[.string xn, .string xv, .int .i64 xk] 90)).cell? ⟨w.heap.size, 0, none⟩ = some (.string xn) := wr_cells HX0.out 0
  have c0_1 : (w.alloc (.cells #[.string xn, .string xv, .int .i64 xk] 90)).cell? ⟨w.heap.size, 1, none⟩ = some (.string xv) := wr_cells HX0.out 1
  have c0_2 : (w.alloc (.cells #[.string xn, .string xv, .int .i64 xk] 90)).cell? ⟨w.heap.size, 2, none⟩ = some (.int .i64 xk) := wr_cells HX0.out 2
  have hbne : w.heap.size ≠ b := by omega
  clear hw hba
  go_enter Tryz.func35, Tryz.ntmps35
  have CW0 := ghid (wrText_any B b t xn (w.alloc (.cells #[.string xn, .string xv, .int .i64 xk] 90)) HS0.out.has HOK0.out (by omega))
  go_wp2_with fail
  refine CW0.out.mono ?_
  rintro e w1 ⟨rfl, hs⟩
  rw [← HT0.out] at hs
  have HS1 := ghid (HS0.out.trans hs)
  have HX1 : Hid (w1.heap[w.heap.size]? = some (.cells #[.string xn, .string xv, .int .i64 xk] 90 (0, 0))) := hs.row HX0.out hbne (by decide)
  clear hs CW0
  have c1_0 : w1.cell? ⟨w.heap.size, 0, none⟩ = some (.string xn) := wr_cells HX1.out 0
  have c1_1 : w1.cell? ⟨w.heap.size, 1, none⟩ = some (.string xv) := wr_cells HX1.out 1
  have c1_2 : w1.cell? ⟨w.heap.size, 2, none⟩ = some (.int .i64 xk) := wr_cells HX1.out 2
  clear c0_0 c0_1 c0_2
  have CW1 := ghid (wrText_any B b t1 xv w1 HS1.out.has HOK1.out (by omega))
  go_wp2_with fail
  refine CW1.out.mono ?_
  rintro e w2 ⟨rfl, hs⟩
  rw [← HT1.out] at hs
  have HS2 := ghid (HS1.out.trans hs)
  have HX2 : Hid (w2.heap[w.heap.size]? = some (.cells #[.string xn, .string xv, .int .i64 xk] 90 (0, 0))) := hs.row HX1.out hbne (by decide)
  clear hs CW1
  have c2_0 : w2.cell? ⟨w.heap.size, 0, none⟩ = some (.string xn) := wr_cells HX2.out 0
  have c2_1 : w2.cell? ⟨w.heap.size, 1, none⟩ = some (.string xv) := wr_cells HX2.out 1
  have c2_2 : w2.cell? ⟨w.heap.size, 2, none⟩ = some (.int .i64 xk) := wr_cells HX2.out 2
  clear c1_0 c1_1 c1_2
  have CW2 := ghid (wrNumber_any B b t2 xk w2 HS2.out.has HOK2.out.1 HOK2.out.2 (by omega))
  go_wp2_with fail
  refine CW2.out.mono ?_
  rintro e w3 ⟨rfl, hs⟩
  rw [← HT2.out] at hs
  have HS3 := ghid (HS2.out.trans hs)
  clear hs CW2
  go_wp2
  go_end0
  exact ⟨rfl, HS3.out⟩

def okL (k : LockD) : Prop := k.name.size ≤ 5000 ∧ 0 ≤ k.holder ∧ k.holder ≤ 1099511627776 ∧ 0 ≤ k.fence ∧ k.fence ≤ 1099511627776 ∧ k.line.length ≤ 1000 ∧ ∀ x ∈ k.line, 0 ≤ x ∧ x ≤ 1099511627776

set_option maxRecDepth 100000 in
set_option maxHeartbeats 1600000 in
theorem wr_lock : WrC 33 lockOut LockV okL := by
  intro B b t ev x w hv hok hB hw hz
  obtain ⟨lv, rfl, hl, -⟩ := hv
  obtain ⟨lo, lc, rfl, -⟩ := id hl
  obtain ⟨xn, xh, xf, xl⟩ := x
  unfold okL at hok
  simp only at hok hl
  have hlt := hw.lt
  obtain ⟨t1, ht1⟩ : ∃ t1, t1 = t ++ textOut xn := ⟨_, rfl⟩
  obtain ⟨t2, ht2⟩ : ∃ t2, t2 = t1 ++ numOut xh := ⟨_, rfl⟩
  obtain ⟨t3, ht3⟩ : ∃ t3, t3 = t2 ++ numOut xf := ⟨_, rfl⟩
  obtain ⟨t4, ht4⟩ : ∃ t4, t4 = t3 ++ (numOut xl.length ++ catB (xl.map numOut)) := ⟨_, rfl⟩
  have hfin : t ++ lockOut ⟨xn, xh, xf, xl⟩ = t4 := by rw [ht4, ht3, ht2, ht1]; simp only [lockOut, ByteArray.append_assoc]
  have hz' : t4.size ≤ 1000000000 := by rw [← hfin, ByteArray.size_append]; exact hz
  have hz1 : t1.size = t.size + (textOut xn).size := by rw [ht1, ByteArray.size_append]
  have hz2 : t2.size = t1.size + (numOut xh).size := by rw [ht2, ByteArray.size_append]
  have hz3 : t3.size = t2.size + (numOut xf).size := by rw [ht3, ByteArray.size_append]
  have hz4 : t4.size = t3.size + ((numOut xl.length ++ catB (xl.map numOut))).size := by rw [ht4, ByteArray.size_append]
  rw [hfin]
  have HT0 := ghid ht1
  have HT1 := ghid ht2
  have HT2 := ghid ht3
  have HT3 := ghid ht4
  have HOK0 : Hid (xn.size ≤ 5000) := hok.1
  have HOK1 : Hid (0 ≤ xh ∧ xh ≤ 1099511627776) := ⟨hok.2.1, hok.2.2.1⟩
  have HOK2 : Hid (0 ≤ xf ∧ xf ≤ 1099511627776) := ⟨hok.2.2.2.1, hok.2.2.2.2.1⟩
  have hll : xl.length ≤ 1000 := hok.2.2.2.2.2.1
  have HLC3 : Hid (∀ t u, Below B w u → WrT B b t u → t.size + (numOut xl.length ++ catB (xl.map numOut)).size ≤ 1000000000 → Calls Tryz.prog 68 #[.pointer (some ⟨b, 0, none⟩), .slice lo xl.length lc, .func (.func 31) #[.pointer (some ⟨b, 0, none⟩)] #[]] u fun e w' => e = .returned (.tuple #[]) ∧ WrS B b (t ++ (numOut xl.length ++ catB (xl.map numOut))) u w') := fun t u hu hwt hzt => wlistInt B b t _ xl 31 numOut u (hl.below hu (Nat.le_refl _)) (Nat.le_trans hB hu.size) hwt (by omega) hzt wr_number_enters (wrNumber_c (fun x hx => hok.2.2.2.2.2.2 x hx))
  have HZ3 : Hid (t3.size + (numOut xl.length ++ catB (xl.map numOut)).size ≤ 1000000000) := by unfold Hid; rw [← hz4]; omega
  clear ht1 ht2 ht3 ht4 hfin hok hz
  clear hl
  have hba : Below w.heap.size w (w.alloc (.cells #[.string xn, .int .i64 xh, .int .i64 xf, .slice lo xl.length lc] 86)) := (Below.refl _ _).alloc (Nat.le_refl _) _
  have HS0 := ghid ((WrS.refl hw).more hba hB)
  have HX0 : Hid ((w.alloc (.cells #[.string xn, .int .i64 xh, .int .i64 xf, .slice lo xl.length lc] 86)).heap[w.heap.size]? = some (.cells #[.string xn, .int .i64 xh, .int .i64 xf, .slice lo xl.length lc] 86 (0, 0))) := heap_alloc_new w _
  have c0_0 : (w.alloc (.cells #[.string xn, .int .i64 xh, .int .i64 xf, .slice lo xl.length lc] 86)).cell? ⟨w.heap.size, 0, none⟩ = some (.string xn) := wr_cells HX0.out 0
  have c0_1 : (w.alloc (.cells #[.string xn, .int .i64 xh, .int .i64 xf, .slice lo xl.length lc] 86)).cell? ⟨w.heap.size, 1, none⟩ = some (.int .i64 xh) := wr_cells HX0.out 1
  have c0_2 : (w.alloc (.cells #[.string xn, .int .i64 xh, .int .i64 xf, .slice lo xl.length lc] 86)).cell? ⟨w.heap.size, 2, none⟩ = some (.int .i64 xf) := wr_cells HX0.out 2
  have c0_3 : (w.alloc (.cells #[.string xn, .int .i64 xh, .int .i64 xf, .slice lo xl.length lc] 86)).cell? ⟨w.heap.size, 3, none⟩ = some (.slice lo xl.length lc) := wr_cells HX0.out 3
  have hbne : w.heap.size ≠ b := by omega
  clear hw hba
  go_enter Tryz.func33, Tryz.ntmps33
  have CW0 := ghid (wrText_any B b t xn (w.alloc (.cells #[.string xn, .int .i64 xh, .int .i64 xf, .slice lo xl.length lc] 86)) HS0.out.has HOK0.out (by omega))
  go_wp2_with fail
  refine CW0.out.mono ?_
  rintro e w1 ⟨rfl, hs⟩
  rw [← HT0.out] at hs
  have HS1 := ghid (HS0.out.trans hs)
  have HX1 : Hid (w1.heap[w.heap.size]? = some (.cells #[.string xn, .int .i64 xh, .int .i64 xf, .slice lo xl.length lc] 86 (0, 0))) := hs.row HX0.out hbne (by decide)
  clear hs CW0
  have c1_0 : w1.cell? ⟨w.heap.size, 0, none⟩ = some (.string xn) := wr_cells HX1.out 0
  have c1_1 : w1.cell? ⟨w.heap.size, 1, none⟩ = some (.int .i64 xh) := wr_cells HX1.out 1
  have c1_2 : w1.cell? ⟨w.heap.size, 2, none⟩ = some (.int .i64 xf) := wr_cells HX1.out 2
  have c1_3 : w1.cell? ⟨w.heap.size, 3, none⟩ = some (.slice lo xl.length lc) := wr_cells HX1.out 3
  clear c0_0 c0_1 c0_2 c0_3
  have CW1 := ghid (wrNumber_any B b t1 xh w1 HS1.out.has HOK1.out.1 HOK1.out.2 (by omega))
  go_wp2_with fail
  refine CW1.out.mono ?_
  rintro e w2 ⟨rfl, hs⟩
  rw [← HT1.out] at hs
  have HS2 := ghid (HS1.out.trans hs)
  have HX2 : Hid (w2.heap[w.heap.size]? = some (.cells #[.string xn, .int .i64 xh, .int .i64 xf, .slice lo xl.length lc] 86 (0, 0))) := hs.row HX1.out hbne (by decide)
  clear hs CW1
  have c2_0 : w2.cell? ⟨w.heap.size, 0, none⟩ = some (.string xn) := wr_cells HX2.out 0
  have c2_1 : w2.cell? ⟨w.heap.size, 1, none⟩ = some (.int .i64 xh) := wr_cells HX2.out 1
  have c2_2 : w2.cell? ⟨w.heap.size, 2, none⟩ = some (.int .i64 xf) := wr_cells HX2.out 2
  have c2_3 : w2.cell? ⟨w.heap.size, 3, none⟩ = some (.slice lo xl.length lc) := wr_cells HX2.out 3
  clear c1_0 c1_1 c1_2 c1_3
  have CW2 := ghid (wrNumber_any B b t2 xf w2 HS2.out.has HOK2.out.1 HOK2.out.2 (by omega))
  go_wp2_with fail
  refine CW2.out.mono ?_
  rintro e w3 ⟨rfl, hs⟩
  rw [← HT2.out] at hs
  have HS3 := ghid (HS2.out.trans hs)
  have HX3 : Hid (w3.heap[w.heap.size]? = some (.cells #[.string xn, .int .i64 xh, .int .i64 xf, .slice lo xl.length lc] 86 (0, 0))) := hs.row HX2.out hbne (by decide)
  clear hs CW2
  have c3_0 : w3.cell? ⟨w.heap.size, 0, none⟩ = some (.string xn) := wr_cells HX3.out 0
  have c3_1 : w3.cell? ⟨w.heap.size, 1, none⟩ = some (.int .i64 xh) := wr_cells HX3.out 1
  have c3_2 : w3.cell? ⟨w.heap.size, 2, none⟩ = some (.int .i64 xf) := wr_cells HX3.out 2
  have c3_3 : w3.cell? ⟨w.heap.size, 3, none⟩ = some (.slice lo xl.length lc) := wr_cells HX3.out 3
  clear c2_0 c2_1 c2_2 c2_3
  have CW3 := ghid (HLC3.out t3 w3 HS3.out.below HS3.out.has (by have := HZ3.out; omega))
  go_wp2_with fail
  refine CW3.out.mono ?_
  rintro e w4 ⟨rfl, hs⟩
  rw [← HT3.out] at hs
  have HS4 := ghid (HS3.out.trans hs)
  clear hs CW3
  go_wp2
  go_end0
  exact ⟨rfl, HS4.out⟩

def okS (k : SessD) : Prop := 0 ≤ k.client ∧ k.client ≤ 1099511627776 ∧ 0 ≤ k.id ∧ k.id ≤ 1099511627776 ∧ 0 ≤ k.acked ∧ k.acked ≤ 1099511627776 ∧ 0 ≤ k.last ∧ k.last ≤ 1099511627776 ∧ k.replies.length ≤ 1000 ∧ ∀ x ∈ k.replies, okK x

set_option maxRecDepth 100000 in
set_option maxHeartbeats 1600000 in
theorem wr_session : WrC 37 sessOut SessV okS := by
  intro B b t ev x w hv hok hB hw hz
  obtain ⟨lv, rfl, hl⟩ := hv
  obtain ⟨lo, lc, rfl, -⟩ := id hl
  obtain ⟨xc, xi, xa, xz, xl⟩ := x
  unfold okS at hok
  simp only at hok hl
  have hlt := hw.lt
  obtain ⟨t1, ht1⟩ : ∃ t1, t1 = t ++ numOut xc := ⟨_, rfl⟩
  obtain ⟨t2, ht2⟩ : ∃ t2, t2 = t1 ++ numOut xi := ⟨_, rfl⟩
  obtain ⟨t3, ht3⟩ : ∃ t3, t3 = t2 ++ numOut xa := ⟨_, rfl⟩
  obtain ⟨t4, ht4⟩ : ∃ t4, t4 = t3 ++ numOut xz := ⟨_, rfl⟩
  obtain ⟨t5, ht5⟩ : ∃ t5, t5 = t4 ++ (numOut xl.length ++ catB (xl.map keptOut)) := ⟨_, rfl⟩
  have hfin : t ++ sessOut ⟨xc, xi, xa, xz, xl⟩ = t5 := by rw [ht5, ht4, ht3, ht2, ht1]; simp only [sessOut, ByteArray.append_assoc]
  have hz' : t5.size ≤ 1000000000 := by rw [← hfin, ByteArray.size_append]; exact hz
  have hz1 : t1.size = t.size + (numOut xc).size := by rw [ht1, ByteArray.size_append]
  have hz2 : t2.size = t1.size + (numOut xi).size := by rw [ht2, ByteArray.size_append]
  have hz3 : t3.size = t2.size + (numOut xa).size := by rw [ht3, ByteArray.size_append]
  have hz4 : t4.size = t3.size + (numOut xz).size := by rw [ht4, ByteArray.size_append]
  have hz5 : t5.size = t4.size + ((numOut xl.length ++ catB (xl.map keptOut))).size := by rw [ht5, ByteArray.size_append]
  rw [hfin]
  have HT0 := ghid ht1
  have HT1 := ghid ht2
  have HT2 := ghid ht3
  have HT3 := ghid ht4
  have HT4 := ghid ht5
  have HOK0 : Hid (0 ≤ xc ∧ xc ≤ 1099511627776) := ⟨hok.1, hok.2.1⟩
  have HOK1 : Hid (0 ≤ xi ∧ xi ≤ 1099511627776) := ⟨hok.2.2.1, hok.2.2.2.1⟩
  have HOK2 : Hid (0 ≤ xa ∧ xa ≤ 1099511627776) := ⟨hok.2.2.2.2.1, hok.2.2.2.2.2.1⟩
  have HOK3 : Hid (0 ≤ xz ∧ xz ≤ 1099511627776) := ⟨hok.2.2.2.2.2.2.1, hok.2.2.2.2.2.2.2.1⟩
  have hll : xl.length ≤ 1000 := hok.2.2.2.2.2.2.2.2.1
  have HLC4 : Hid (∀ t u, Below B w u → WrT B b t u → t.size + (numOut xl.length ++ catB (xl.map keptOut)).size ≤ 1000000000 → Calls Tryz.prog 69 #[.pointer (some ⟨b, 0, none⟩), .slice lo xl.length lc, .func (.func 70) #[.pointer (some ⟨b, 0, none⟩)] #[]] u fun e w' => e = .returned (.tuple #[]) ∧ WrS B b (t ++ (numOut xl.length ++ catB (xl.map keptOut))) u w') := fun t u hu hwt hzt => wlistKept B b t _ xl 70 keptOut u (hl.below hu (Nat.le_refl _)) (Nat.le_trans hB hu.size) hwt (by omega) hzt wr_kept_enters (wr_kept.mono (fun x hx => hok.2.2.2.2.2.2.2.2.2 x hx))
  have HZ4 : Hid (t4.size + (numOut xl.length ++ catB (xl.map keptOut)).size ≤ 1000000000) := by unfold Hid; rw [← hz5]; omega
  clear ht1 ht2 ht3 ht4 ht5 hfin hok hz
  clear hl
  have hba : Below w.heap.size w (w.alloc (.cells #[.int .i64 xc, .int .i64 xi, .int .i64 xa, .int .i64 xz, .slice lo xl.length lc] 95)) := (Below.refl _ _).alloc (Nat.le_refl _) _
  have HS0 := ghid ((WrS.refl hw).more hba hB)
  have HX0 : Hid ((w.alloc (.cells #[.int .i64 xc, .int .i64 xi, .int .i64 xa, .int .i64 xz, .slice lo xl.length lc] 95)).heap[w.heap.size]? = some (.cells #[.int .i64 xc, .int .i64 xi, .int .i64 xa, .int .i64 xz, .slice lo xl.length lc] 95 (0, 0))) := heap_alloc_new w _
  have c0_0 : (w.alloc (.cells #[.int .i64 xc, .int .i64 xi, .int .i64 xa, .int .i64 xz, .slice lo xl.length lc] 95)).cell? ⟨w.heap.size, 0, none⟩ = some (.int .i64 xc) := wr_cells HX0.out 0
  have c0_1 : (w.alloc (.cells #[.int .i64 xc, .int .i64 xi, .int .i64 xa, .int .i64 xz, .slice lo xl.length lc] 95)).cell? ⟨w.heap.size, 1, none⟩ = some (.int .i64 xi) := wr_cells HX0.out 1
  have c0_2 : (w.alloc (.cells #[.int .i64 xc, .int .i64 xi, .int .i64 xa, .int .i64 xz, .slice lo xl.length lc] 95)).cell? ⟨w.heap.size, 2, none⟩ = some (.int .i64 xa) := wr_cells HX0.out 2
  have c0_3 : (w.alloc (.cells #[.int .i64 xc, .int .i64 xi, .int .i64 xa, .int .i64 xz, .slice lo xl.length lc] 95)).cell? ⟨w.heap.size, 3, none⟩ = some (.int .i64 xz) := wr_cells HX0.out 3
  have c0_4 : (w.alloc (.cells #[.int .i64 xc, .int .i64 xi, .int .i64 xa, .int .i64 xz, .slice lo xl.length lc] 95)).cell? ⟨w.heap.size, 4, none⟩ = some (.slice lo xl.length lc) := wr_cells HX0.out 4
  have hbne : w.heap.size ≠ b := by omega
  clear hw hba
  go_enter Tryz.func37, Tryz.ntmps37
  have CW0 := ghid (wrNumber_any B b t xc (w.alloc (.cells #[.int .i64 xc, .int .i64 xi, .int .i64 xa, .int .i64 xz, .slice lo xl.length lc] 95)) HS0.out.has HOK0.out.1 HOK0.out.2 (by omega))
  go_wp2_with fail
  refine CW0.out.mono ?_
  rintro e w1 ⟨rfl, hs⟩
  rw [← HT0.out] at hs
  have HS1 := ghid (HS0.out.trans hs)
  have HX1 : Hid (w1.heap[w.heap.size]? = some (.cells #[.int .i64 xc, .int .i64 xi, .int .i64 xa, .int .i64 xz, .slice lo xl.length lc] 95 (0, 0))) := hs.row HX0.out hbne (by decide)
  clear hs CW0
  have c1_0 : w1.cell? ⟨w.heap.size, 0, none⟩ = some (.int .i64 xc) := wr_cells HX1.out 0
  have c1_1 : w1.cell? ⟨w.heap.size, 1, none⟩ = some (.int .i64 xi) := wr_cells HX1.out 1
  have c1_2 : w1.cell? ⟨w.heap.size, 2, none⟩ = some (.int .i64 xa) := wr_cells HX1.out 2
  have c1_3 : w1.cell? ⟨w.heap.size, 3, none⟩ = some (.int .i64 xz) := wr_cells HX1.out 3
  have c1_4 : w1.cell? ⟨w.heap.size, 4, none⟩ = some (.slice lo xl.length lc) := wr_cells HX1.out 4
  clear c0_0 c0_1 c0_2 c0_3 c0_4
  have CW1 := ghid (wrNumber_any B b t1 xi w1 HS1.out.has HOK1.out.1 HOK1.out.2 (by omega))
  go_wp2_with fail
  refine CW1.out.mono ?_
  rintro e w2 ⟨rfl, hs⟩
  rw [← HT1.out] at hs
  have HS2 := ghid (HS1.out.trans hs)
  have HX2 : Hid (w2.heap[w.heap.size]? = some (.cells #[.int .i64 xc, .int .i64 xi, .int .i64 xa, .int .i64 xz, .slice lo xl.length lc] 95 (0, 0))) := hs.row HX1.out hbne (by decide)
  clear hs CW1
  have c2_0 : w2.cell? ⟨w.heap.size, 0, none⟩ = some (.int .i64 xc) := wr_cells HX2.out 0
  have c2_1 : w2.cell? ⟨w.heap.size, 1, none⟩ = some (.int .i64 xi) := wr_cells HX2.out 1
  have c2_2 : w2.cell? ⟨w.heap.size, 2, none⟩ = some (.int .i64 xa) := wr_cells HX2.out 2
  have c2_3 : w2.cell? ⟨w.heap.size, 3, none⟩ = some (.int .i64 xz) := wr_cells HX2.out 3
  have c2_4 : w2.cell? ⟨w.heap.size, 4, none⟩ = some (.slice lo xl.length lc) := wr_cells HX2.out 4
  clear c1_0 c1_1 c1_2 c1_3 c1_4
  have CW2 := ghid (wrNumber_any B b t2 xa w2 HS2.out.has HOK2.out.1 HOK2.out.2 (by omega))
  go_wp2_with fail
  refine CW2.out.mono ?_
  rintro e w3 ⟨rfl, hs⟩
  rw [← HT2.out] at hs
  have HS3 := ghid (HS2.out.trans hs)
  have HX3 : Hid (w3.heap[w.heap.size]? = some (.cells #[.int .i64 xc, .int .i64 xi, .int .i64 xa, .int .i64 xz, .slice lo xl.length lc] 95 (0, 0))) := hs.row HX2.out hbne (by decide)
  clear hs CW2
  have c3_0 : w3.cell? ⟨w.heap.size, 0, none⟩ = some (.int .i64 xc) := wr_cells HX3.out 0
  have c3_1 : w3.cell? ⟨w.heap.size, 1, none⟩ = some (.int .i64 xi) := wr_cells HX3.out 1
  have c3_2 : w3.cell? ⟨w.heap.size, 2, none⟩ = some (.int .i64 xa) := wr_cells HX3.out 2
  have c3_3 : w3.cell? ⟨w.heap.size, 3, none⟩ = some (.int .i64 xz) := wr_cells HX3.out 3
  have c3_4 : w3.cell? ⟨w.heap.size, 4, none⟩ = some (.slice lo xl.length lc) := wr_cells HX3.out 4
  clear c2_0 c2_1 c2_2 c2_3 c2_4
  have CW3 := ghid (wrNumber_any B b t3 xz w3 HS3.out.has HOK3.out.1 HOK3.out.2 (by omega))
  go_wp2_with fail
  refine CW3.out.mono ?_
  rintro e w4 ⟨rfl, hs⟩
  rw [← HT3.out] at hs
  have HS4 := ghid (HS3.out.trans hs)
  have HX4 : Hid (w4.heap[w.heap.size]? = some (.cells #[.int .i64 xc, .int .i64 xi, .int .i64 xa, .int .i64 xz, .slice lo xl.length lc] 95 (0, 0))) := hs.row HX3.out hbne (by decide)
  clear hs CW3
  have c4_0 : w4.cell? ⟨w.heap.size, 0, none⟩ = some (.int .i64 xc) := wr_cells HX4.out 0
  have c4_1 : w4.cell? ⟨w.heap.size, 1, none⟩ = some (.int .i64 xi) := wr_cells HX4.out 1
  have c4_2 : w4.cell? ⟨w.heap.size, 2, none⟩ = some (.int .i64 xa) := wr_cells HX4.out 2
  have c4_3 : w4.cell? ⟨w.heap.size, 3, none⟩ = some (.int .i64 xz) := wr_cells HX4.out 3
  have c4_4 : w4.cell? ⟨w.heap.size, 4, none⟩ = some (.slice lo xl.length lc) := wr_cells HX4.out 4
  clear c3_0 c3_1 c3_2 c3_3 c3_4
  have CW4 := ghid (HLC4.out t4 w4 HS4.out.below HS4.out.has (by have := HZ4.out; omega))
  go_wp2_with fail
  refine CW4.out.mono ?_
  rintro e w5 ⟨rfl, hs⟩
  rw [← HT4.out] at hs
  have HS5 := ghid (HS4.out.trans hs)
  clear hs CW4
  go_wp2
  go_end0
  exact ⟨rfl, HS5.out⟩

end Go.Proofs.YtpcacaohknkdlahGreatDoor

namespace Go.Proofs.YtpcacaohknkdlahGreatDoor

open Go.RowKit

/-- 'string([]byte{a, b, c, d})' -/
theorem conv4 (W : World) (a b c d : Int) :
    (convert 39 9 (.slice (some ⟨W.heap.size, 0, none⟩) 4 4)).run Tryz.prog (W.alloc (.cells #[.int .u8 a, .int .u8 b, .int .u8 c, .int .u8 d] 5))
      = .ok (.string (strOfNums [a, b, c, d])) (W.alloc (.cells #[.int .u8 a, .int .u8 b, .int .u8 c, .int .u8 d] 5)) := by
  refine run_convert_bytes_arg _ 39 5 Tryz.underlying39 Tryz.underlying5 W.heap.size 0 4 4 [a, b, c, d] rfl ?_ 9 Tryz.underlying9
  intro i hi
  match i, hi with
  | 0, _ => simp
  | 1, _ => simp
  | 2, _ => simp
  | 3, _ => simp

set_option maxHeartbeats 400000 in
theorem seal_any (s : ByteArray) (w : World) (hs : s.size ≤ maxLen) :
    Calls Tryz.prog 16 #[.string s] w fun e w' => e = .returned (.string (sealOut s)) ∧ Below w.heap.size w w' := by
  unfold maxLen at hs
  have hcv := conv4
  go_enter Tryz.func16, Tryz.ntmps16
  go_wp2
  go_loop [3, 4, 8] (fun x y i => ∃ k : Nat, k ≤ s.size ∧ i = .int .i64 k ∧ x = .int .i64 (sealGo (s.data.toList.take k)).1 ∧ y = .int .i64 (sealGo (s.data.toList.take k)).2) (fun _ _ i => s.size - (intOf i).toNat)
  case atStart => exact ⟨0, Nat.zero_le _, rfl, rfl, rfl⟩
  case round =>
    obtain ⟨k, hk, rfl, rfl, rfl⟩ := hrel
    obtain ⟨b1, b2, b3, b4⟩ := sealGo_bd (s.data.toList.take k)
    by_cases hlt : k < s.size
    · have HS : Hid (sealGo (s.data.toList.take (k + 1)) = (((sealGo (s.data.toList.take k)).1 + s[k].toNat) % 65521, ((sealGo (s.data.toList.take k)).2 + ((sealGo (s.data.toList.take k)).1 + s[k].toNat) % 65521) % 65521)) := by
        rw [take_snoc s k hlt]; exact sealGo_snoc _ _
      have hby : ((s[k].toNat : Nat) : Int) ≤ 255 := by have := s[k].toNat_lt; omega
      go_wp2
      go_round
      case rel => exact ⟨k + 1, by omega, by go_num, by rw [HS.out], by rw [HS.out]⟩
      case measure => simp [intOf]; omega
    · have HA : Hid (sealGo (s.data.toList.take k) = sealGo s.data.toList) := by rw [take_all s k (by omega)]; exact rfl
      go_wp2
      go_ret
      refine ⟨?_, (Below.refl _ _).alloc (Nat.le_refl _) _⟩
      rw [HA.out]; rfl

end Go.Proofs.YtpcacaohknkdlahGreatDoor

namespace Go.Proofs.YtpcacaohknkdlahGreatDoor

open Go.RowKit

theorem okL_of {k : LockD} (h : LockOk k) (h1 : 1 ≤ k.fence) (h2 : k.fence ≤ 1073741824) : okL k := by
  have hn := (nameB_yes h.name).2.1
  have hl := h.line.len
  have h3 := h.low
  have h4 := h.high
  refine ⟨by omega, by omega, by omega, by omega, by omega, by omega, fun x hx => ?_⟩
  have := h.line.each x hx
  omega

theorem okP_of {p : PairD} (h : nameB p.name = true ∧ p.value.size ≤ 12 ∧ 1 ≤ p.version ∧ p.version ≤ 1073741824) : okP p := by
  have hn := (nameB_yes h.1).2.1
  exact ⟨by omega, by omega, by omega, by omega⟩

theorem okS_of {i : Int} {x : SessD} (hi : i ≤ 1073741824) (h : Fine i x) : okS x := by
  have hr := rangeB_iff.1 h.range
  have hl := sformB_len h.form
  have hm := formFrom_mem h.form
  refine ⟨by omega, by omega, by omega, by omega, by omega, by omega, by omega, by omega, by omega, fun k hk => ?_⟩
  have h1 := hm k hk
  have h2 := replyB_iff.1 h1.2.2
  exact ⟨by omega, by omega, by omega, by omega, by omega, by omega, by omega⟩

set_option maxRecDepth 100000 in
set_option maxHeartbeats 3200000 in
theorem wr_state (B b : Nat) (t : ByteArray) (v : Value) (s : StateD) (w : World) (hv : StateR w B v s) (hg : GoodM s) (hB : B ≤ w.heap.size) (hw : WrT B b t w) (hz : t.size ≤ 1000000) :
    Calls Tryz.prog 14 #[.pointer (some ⟨b, 0, none⟩), v] w fun e w' => e = .returned (.tuple #[]) ∧ WrS B b (t ++ snapBody s) w w' := by
  have hle := snapBody_le hg
  have hi0 := hg.sess.low
  have hi1 := hg.sess.high
  have hl1 := hg.locks.len
  have hl2 := hg.pairs.len
  have hl3 := hg.sess.len
  have hok1 : ∀ k ∈ s.locks, okL k := fun k hk => okL_of (hg.locks.each k hk).1 (hg.locks.each k hk).2.1 (hg.locks.each k hk).2.2
  have hok2 : ∀ k ∈ s.pairs, okP k := fun k hk => okP_of (hg.pairs.each k hk)
  have hok3 : ∀ k ∈ s.sess, okS k := fun k hk => okS_of hi1 (hg.sess.fine k hk)
  obtain ⟨lv, pv, sv, rfl, h1, h2, h3⟩ := hv
  obtain ⟨lo, lc, rfl, -⟩ := id h1
  obtain ⟨po, pc, rfl, -⟩ := id h2
  obtain ⟨so, sc, rfl, -⟩ := id h3
  obtain ⟨si, sl, sp, ss⟩ := s
  simp only at h1 h2 h3 hi0 hi1 hl1 hl2 hl3 hok1 hok2 hok3
  have hlt := hw.lt
  obtain ⟨t1, ht1⟩ : ∃ t1, t1 = t ++ numOut si := ⟨_, rfl⟩
  obtain ⟨t2, ht2⟩ : ∃ t2, t2 = t1 ++ (numOut sl.length ++ catB (sl.map lockOut)) := ⟨_, rfl⟩
  obtain ⟨t3, ht3⟩ : ∃ t3, t3 = t2 ++ (numOut sp.length ++ catB (sp.map pairOut)) := ⟨_, rfl⟩
  obtain ⟨t4, ht4⟩ : ∃ t4, t4 = t3 ++ (numOut ss.length ++ catB (ss.map sessOut)) := ⟨_, rfl⟩
  have hfin : t ++ snapBody ⟨si, sl, sp, ss⟩ = t4 := by rw [ht4, ht3, ht2, ht1]; simp only [snapBody, ByteArray.append_assoc]
  have hz' : t4.size ≤ 1000000000 := by rw [← hfin, ByteArray.size_append]; omega
  have hz1 : t1.size = t.size + (numOut si).size := by rw [ht1, ByteArray.size_append]
  have hz2 : t2.size = t1.size + (numOut sl.length ++ catB (sl.map lockOut)).size := by rw [ht2, ByteArray.size_append]
  have hz3 : t3.size = t2.size + (numOut sp.length ++ catB (sp.map pairOut)).size := by rw [ht3, ByteArray.size_append]
  have hz4 : t4.size = t3.size + (numOut ss.length ++ catB (ss.map sessOut)).size := by rw [ht4, ByteArray.size_append]
  rw [hfin]
  have HT0 := ghid ht1
  have HT1 := ghid ht2
  have HT2 := ghid ht3
  have HT3 := ghid ht4
  have HLC1 : Hid (∀ t u, Below B w u → WrT B b t u → t.size + (numOut sl.length ++ catB (sl.map lockOut)).size ≤ 1000000000 → Calls Tryz.prog 32 #[.pointer (some ⟨b, 0, none⟩), .slice lo sl.length lc, .func (.func 33) #[.pointer (some ⟨b, 0, none⟩)] #[]] u fun e w' => e = .returned (.tuple #[]) ∧ WrS B b (t ++ (numOut sl.length ++ catB (sl.map lockOut))) u w') := fun t u hu hwt hzt => wlistLock B b t _ sl 33 lockOut u (h1.below hu (Nat.le_refl _)) (Nat.le_trans hB hu.size) hwt (by omega) hzt wr_lock_enters (wr_lock.mono hok1)
  have HZ1 : Hid (t1.size + (numOut sl.length ++ catB (sl.map lockOut)).size ≤ 1000000000) := by unfold Hid; rw [← hz2]; omega
  have HLC2 : Hid (∀ t u, Below B w u → WrT B b t u → t.size + (numOut sp.length ++ catB (sp.map pairOut)).size ≤ 1000000000 → Calls Tryz.prog 34 #[.pointer (some ⟨b, 0, none⟩), .slice po sp.length pc, .func (.func 35) #[.pointer (some ⟨b, 0, none⟩)] #[]] u fun e w' => e = .returned (.tuple #[]) ∧ WrS B b (t ++ (numOut sp.length ++ catB (sp.map pairOut))) u w') := fun t u hu hwt hzt => wlistPair B b t _ sp 35 pairOut u (h2.below hu (Nat.le_refl _)) (Nat.le_trans hB hu.size) hwt (by omega) hzt wr_pair_enters (wr_pair.mono hok2)
  have HZ2 : Hid (t2.size + (numOut sp.length ++ catB (sp.map pairOut)).size ≤ 1000000000) := by unfold Hid; rw [← hz3]; omega
  have HLC3 : Hid (∀ t u, Below B w u → WrT B b t u → t.size + (numOut ss.length ++ catB (ss.map sessOut)).size ≤ 1000000000 → Calls Tryz.prog 36 #[.pointer (some ⟨b, 0, none⟩), .slice so ss.length sc, .func (.func 37) #[.pointer (some ⟨b, 0, none⟩)] #[]] u fun e w' => e = .returned (.tuple #[]) ∧ WrS B b (t ++ (numOut ss.length ++ catB (ss.map sessOut))) u w') := fun t u hu hwt hzt => wlistSess B b t _ ss 37 sessOut u (h3.below hu (Nat.le_refl _)) (Nat.le_trans hB hu.size) hwt (by omega) hzt wr_session_enters (wr_session.mono hok3)
  have HZ3 : Hid (t3.size + (numOut ss.length ++ catB (ss.map sessOut)).size ≤ 1000000000) := by unfold Hid; rw [← hz4]; omega
  have HOK0 : Hid (0 ≤ si ∧ si ≤ 1099511627776) := ⟨hi0, by omega⟩
  clear ht1 ht2 ht3 ht4 hfin hok1 hok2 hok3 h1 h2 h3 hg hle hz2 hz3 hz4
  have hba : Below w.heap.size w (w.alloc (.cells #[.int .i64 si, .slice lo sl.length lc, .slice po sp.length pc, .slice so ss.length sc] 27)) := (Below.refl _ _).alloc (Nat.le_refl _) _
  have HS0 := ghid ((WrS.refl hw).more hba hB)
  have HX0 : Hid ((w.alloc (.cells #[.int .i64 si, .slice lo sl.length lc, .slice po sp.length pc, .slice so ss.length sc] 27)).heap[w.heap.size]? = some (.cells #[.int .i64 si, .slice lo sl.length lc, .slice po sp.length pc, .slice so ss.length sc] 27 (0, 0))) := heap_alloc_new w _
  have c0_0 : (w.alloc (.cells #[.int .i64 si, .slice lo sl.length lc, .slice po sp.length pc, .slice so ss.length sc] 27)).cell? ⟨w.heap.size, 0, none⟩ = some (.int .i64 si) := wr_cells HX0.out 0
  have c0_1 : (w.alloc (.cells #[.int .i64 si, .slice lo sl.length lc, .slice po sp.length pc, .slice so ss.length sc] 27)).cell? ⟨w.heap.size, 1, none⟩ = some (.slice lo sl.length lc) := wr_cells HX0.out 1
  have c0_2 : (w.alloc (.cells #[.int .i64 si, .slice lo sl.length lc, .slice po sp.length pc, .slice so ss.length sc] 27)).cell? ⟨w.heap.size, 2, none⟩ = some (.slice po sp.length pc) := wr_cells HX0.out 2
  have c0_3 : (w.alloc (.cells #[.int .i64 si, .slice lo sl.length lc, .slice po sp.length pc, .slice so ss.length sc] 27)).cell? ⟨w.heap.size, 3, none⟩ = some (.slice so ss.length sc) := wr_cells HX0.out 3
  have hbne : w.heap.size ≠ b := by omega
  clear hw hba
  go_enter Tryz.func14, Tryz.ntmps14
  have CW0 := ghid (wrNumber_any B b t si (w.alloc (.cells #[.int .i64 si, .slice lo sl.length lc, .slice po sp.length pc, .slice so ss.length sc] 27)) HS0.out.has HOK0.out.1 HOK0.out.2 (by omega))
  go_wp2_with fail
  refine CW0.out.mono ?_
  rintro e w1 ⟨rfl, hs⟩
  rw [← HT0.out] at hs
  have HS1 := ghid (HS0.out.trans hs)
  have HX1 : Hid (w1.heap[w.heap.size]? = some (.cells #[.int .i64 si, .slice lo sl.length lc, .slice po sp.length pc, .slice so ss.length sc] 27 (0, 0))) := hs.row HX0.out hbne (by decide)
  clear hs CW0
  have c1_0 : w1.cell? ⟨w.heap.size, 0, none⟩ = some (.int .i64 si) := wr_cells HX1.out 0
  have c1_1 : w1.cell? ⟨w.heap.size, 1, none⟩ = some (.slice lo sl.length lc) := wr_cells HX1.out 1
  have c1_2 : w1.cell? ⟨w.heap.size, 2, none⟩ = some (.slice po sp.length pc) := wr_cells HX1.out 2
  have c1_3 : w1.cell? ⟨w.heap.size, 3, none⟩ = some (.slice so ss.length sc) := wr_cells HX1.out 3
  clear c0_0 c0_1 c0_2 c0_3
  have CW1 := ghid (HLC1.out t1 w1 HS1.out.below HS1.out.has HZ1.out)
  go_wp2_with fail
  refine CW1.out.mono ?_
  rintro e w2 ⟨rfl, hs⟩
  rw [← HT1.out] at hs
  have HS2 := ghid (HS1.out.trans hs)
  have HX2 : Hid (w2.heap[w.heap.size]? = some (.cells #[.int .i64 si, .slice lo sl.length lc, .slice po sp.length pc, .slice so ss.length sc] 27 (0, 0))) := hs.row HX1.out hbne (by decide)
  clear hs CW1
  have c2_0 : w2.cell? ⟨w.heap.size, 0, none⟩ = some (.int .i64 si) := wr_cells HX2.out 0
  have c2_1 : w2.cell? ⟨w.heap.size, 1, none⟩ = some (.slice lo sl.length lc) := wr_cells HX2.out 1
  have c2_2 : w2.cell? ⟨w.heap.size, 2, none⟩ = some (.slice po sp.length pc) := wr_cells HX2.out 2
  have c2_3 : w2.cell? ⟨w.heap.size, 3, none⟩ = some (.slice so ss.length sc) := wr_cells HX2.out 3
  clear c1_0 c1_1 c1_2 c1_3
  have CW2 := ghid (HLC2.out t2 w2 HS2.out.below HS2.out.has HZ2.out)
  go_wp2_with fail
  refine CW2.out.mono ?_
  rintro e w3 ⟨rfl, hs⟩
  rw [← HT2.out] at hs
  have HS3 := ghid (HS2.out.trans hs)
  have HX3 : Hid (w3.heap[w.heap.size]? = some (.cells #[.int .i64 si, .slice lo sl.length lc, .slice po sp.length pc, .slice so ss.length sc] 27 (0, 0))) := hs.row HX2.out hbne (by decide)
  clear hs CW2
  have c3_0 : w3.cell? ⟨w.heap.size, 0, none⟩ = some (.int .i64 si) := wr_cells HX3.out 0
  have c3_1 : w3.cell? ⟨w.heap.size, 1, none⟩ = some (.slice lo sl.length lc) := wr_cells HX3.out 1
  have c3_2 : w3.cell? ⟨w.heap.size, 2, none⟩ = some (.slice po sp.length pc) := wr_cells HX3.out 2
  have c3_3 : w3.cell? ⟨w.heap.size, 3, none⟩ = some (.slice so ss.length sc) := wr_cells HX3.out 3
  clear c2_0 c2_1 c2_2 c2_3
  have CW3 := ghid (HLC3.out t3 w3 HS3.out.below HS3.out.has HZ3.out)
  go_wp2_with fail
  refine CW3.out.mono ?_
  rintro e w4 ⟨rfl, hs⟩
  rw [← HT3.out] at hs
  have HS4 := ghid (HS3.out.trans hs)
  clear hs CW3
  go_wp2
  go_end0
  exact ⟨rfl, HS4.out⟩

set_option maxRecDepth 100000 in
set_option maxHeartbeats 1600000 in
theorem encode_ok_s (v : Value) (s : StateD) (w : World) (B : Nat) (hv : StateR w B v s) (hB : B ≤ w.heap.size) (hr : checkM s = 0) :
    Calls Tryz.prog 7 #[v] w fun e w' => e = .returned (.tuple #[.string (snapOut s), .int .i64 0]) ∧ Below w.heap.size w w' := by
  have hg := GoodM.of hr
  have hle := snapBody_le hg
  have HNE : Hid (snapBody s ≠ ⟨#[]⟩) := by
    unfold Hid
    intro e
    have h1 : (snapBody s).size = 0 := by rw [e]; rfl
    have h2 := (encN_length s.index).1
    have h3 := strOfNums_size (encN s.index)
    have h4 : (numOut s.index).size = (encN s.index).length := h3
    unfold snapBody at h1
    rw [ByteArray.size_append] at h1
    omega
  obtain ⟨lv, pv, sv, rfl, hl, hp, hs⟩ := id hv
  obtain ⟨lo, lc, rfl, -⟩ := id hl
  obtain ⟨po, pc, rfl, -⟩ := id hp
  obtain ⟨so, sc, rfl, -⟩ := id hs
  have hb0 : Below w.heap.size w (w.alloc (.cells #[.int .i64 s.index, .slice lo s.locks.length lc, .slice po s.pairs.length pc, .slice so s.sess.length sc] 27)) := (Below.refl _ _).alloc (Nat.le_refl _) _
  have HX0 : Hid ((w.alloc (.cells #[.int .i64 s.index, .slice lo s.locks.length lc, .slice po s.pairs.length pc, .slice so s.sess.length sc] 27)).heap[w.heap.size]? = some (.cells #[.int .i64 s.index, .slice lo s.locks.length lc, .slice po s.pairs.length pc, .slice so s.sess.length sc] 27 (0, 0))) := heap_alloc_new w _
  have hz0 : (w.alloc (.cells #[.int .i64 s.index, .slice lo s.locks.length lc, .slice po s.pairs.length pc, .slice so s.sess.length sc] 27)).heap.size = w.heap.size + 1 := by simp
  have CF := ghid (machCheck_any _ s _ B (hv.below hb0 hB) (by have := hb0.size; omega))
  rw [hr] at CF
  have HV := ghid hv
  have HG := ghid hg
  have HB0 := ghid hb0
  clear hv hl hp hs hb0 hg
  go_enter Tryz.func7, Tryz.ntmps7
  go_wp2_with fail
  refine CF.out.mono ?_
  rintro e w1 ⟨rfl, hb1⟩
  have hz1 : w.heap.size + 1 ≤ w1.heap.size := by have := hb1.size; omega
  have HX1 : Hid (w1.heap[w.heap.size]? = _) := (hb1.block _ (by omega)).trans HX0.out
  have HB1 := ghid (HB0.out.trans (hb1.mono HB0.out.size))
  have hba : Below w1.heap.size w1 (w1.alloc (.cells #[.pointer none, .slice none 0 0] 60)) := (Below.refl _ _).alloc (Nat.le_refl _) _
  have HW1 : Hid (WrT w1.heap.size w1.heap.size ⟨#[]⟩ (w1.alloc (.cells #[.pointer none, .slice none 0 0] 60))) := Lib.IsBuilderF.of (Lib.fresh_isBuilder 60 5 w1)
  have HX2 : Hid ((w1.alloc (.cells #[.pointer none, .slice none 0 0] 60)).heap[w.heap.size]? = _) := (hba.block _ (by omega)).trans HX1.out
  have HB2 := ghid (HB1.out.trans (hba.mono (by omega)))
  obtain ⟨c0, c1, c2, c3, cf, -⟩ := state_cells HX2.out
  have CS := ghid (wr_state w1.heap.size w1.heap.size ⟨#[]⟩ _ s (w1.alloc (.cells #[.pointer none, .slice none 0 0] 60)) ((HV.out.below HB2.out hB).mono (by omega)) HG.out (by simp) HW1.out (by decide))
  rw [nilB] at CS
  clear hb1 CF hba
  go_wp2_with fail
  refine CS.out.mono ?_
  rintro e w2 ⟨rfl, hs2⟩
  have HB3 := ghid (HB2.out.trans (hs2.below.mono (by omega)))
  have hz2 : w1.heap.size < w2.heap.size := hs2.has.lt.2
  have CT := ghid (wrString_any w1.heap.size w1.heap.size _ w2 hs2.has (by intro e; exact HNE.out (bytes_ext (by rw [e]))))
  have hbe : (⟨(snapBody s).data.toList.toArray⟩ : ByteArray) = snapBody s := bytes_ext rfl
  rw [hbe] at CT
  have CSL := ghid (fun u => seal_any (snapBody s) u (by unfold maxLen; omega))
  have hsz : (sealOut (snapBody s)).size = 4 := sealOut_size _
  have HOUT : Hid (snapBody s ++ sealOut (snapBody s) = snapOut s) := rfl
  obtain ⟨body, hbody⟩ : ∃ body, body = snapBody s := ⟨_, rfl⟩
  rw [← hbody] at CT CSL hsz HOUT hle
  obtain ⟨sl, hsl⟩ : ∃ sl, sl = sealOut body := ⟨_, rfl⟩
  rw [← hsl] at CSL hsz HOUT
  have hadd : ¬ 9223372036854775807 < body.size + sl.size := by omega
  clear hs2 CS hbe hbody hsl
  go_wp2_with fail
  refine CT.out.mono ?_
  rintro e w3 ⟨rfl, hb3, -⟩
  have HB4 := ghid (HB3.out.trans (hb3.mono (by omega)))
  clear hb3 CT
  go_wp2_with fail
  refine (CSL.out _).mono ?_
  rintro e w4 ⟨rfl, hb4⟩
  have HB5 := ghid (HB4.out.trans (hb4.mono HB4.out.size))
  clear hb4
  go_wp2
  go_ret2
  exact ⟨by rw [HOUT.out]; rfl, HB5.out⟩

end Go.Proofs.YtpcacaohknkdlahGreatDoor

namespace Go.Proofs.YtpcacaohknkdlahGreatDoor

open Go.RowKit

/-- The reader at block rb has what is left, and what was wrong. -/
def IsRs (rb : Nat) (r : ByteArray × Int) (w : World) : Prop := w.heap[rb]? = some (.cells #[.string r.1, .int .i64 r.2] 66 (0, 0))

theorem IsRs.lt {rb : Nat} {r : ByteArray × Int} {w : World} (h : IsRs rb r w) : rb < w.heap.size := (Array.getElem?_eq_some_iff.1 h).1

theorem IsRs.below {rb : Nat} {r : ByteArray × Int} {w w' : World} (h : IsRs rb r w) (hb : Below w.heap.size w w') : IsRs rb r w' := (hb.block _ h.lt).trans h

theorem touch_two {rb : Nat} {w w1 : World} (h : TouchG w w1 (fun k => k = rb)) (a b : Value) : TouchG w ((w1.setCell ⟨rb, 0, none⟩ a).setCell ⟨rb, 1, none⟩ b) (fun k => k = rb) :=
  (h.setCell (a := ⟨rb, 0, none⟩) (.inl rfl) a).setCell (a := ⟨rb, 1, none⟩) (.inl rfl) b

theorem rs_two {rb : Nat} {r : ByteArray × Int} {w : World} (h : IsRs rb r w) (s : ByteArray) (e : Int) : IsRs rb (s, e) ((w.setCell ⟨rb, 0, none⟩ (.string s)).setCell ⟨rb, 1, none⟩ (.int .i64 e)) := by
  have g1 := heap_setCell_same w rb 0 _ 66 (.string s) h
  have g2 := heap_setCell_same _ rb 1 _ 66 (.int .i64 e) g1
  unfold IsRs
  simpa using g2

set_option maxHeartbeats 800000 in
theorem rsNumber_wrong (rb : Nat) (r : ByteArray × Int) (w : World) (hr : IsRs rb r w) (he : r.2 ≠ 0) :
    Calls Tryz.prog 38 #[.pointer (some ⟨rb, 0, none⟩)] w fun x w' => x = .returned (.int .i64 0) ∧ w' = w := by
  obtain ⟨s, e⟩ := r
  have s1 : w.cell? ⟨rb, 1, none⟩ = some (.int .i64 e) := cell_of_row w rb 1 _ _ _ hr
  have heb : (e == 0) = false := by simpa using he
  clear hr he
  go_enter Tryz.func38, Tryz.ntmps38
  go_wp2
  go_ret
  exact ⟨rfl, rfl⟩

set_option maxHeartbeats 1600000 in
theorem rsNumber_ok (rb : Nat) (s : ByteArray) (w : World) (hs : s.size ≤ 140737488351232) (hr : IsRs rb (s, 0) w) :
    Calls Tryz.prog 38 #[.pointer (some ⟨rb, 0, none⟩)] w fun x w' => x = .returned (.int .i64 (readN s).1) ∧ ∃ w1, Below w.heap.size w w1 ∧ w' = (w1.setCell ⟨rb, 0, none⟩ (.string (readN s).2.1)).setCell ⟨rb, 1, none⟩ (.int .i64 (readN s).2.2) := by
  have s0 : w.cell? ⟨rb, 0, none⟩ = some (.string s) := cell_of_row w rb 0 _ _ _ hr
  have s1 : w.cell? ⟨rb, 1, none⟩ = some (.int .i64 0) := cell_of_row w rb 1 _ _ _ hr
  have CR := ghid (fun w => readNumber_any s hs w)
  obtain ⟨n, hn⟩ : ∃ n, n = (readN s).1 := ⟨_, rfl⟩
  obtain ⟨t, ht⟩ : ∃ t, t = (readN s).2.1 := ⟨_, rfl⟩
  obtain ⟨e, hee⟩ : ∃ e, e = (readN s).2.2 := ⟨_, rfl⟩
  rw [← hn, ← ht, ← hee] at CR ⊢
  have HR := ghid hr
  have hlr := hr.lt
  clear hr hn ht hee
  go_enter Tryz.func38, Tryz.ntmps38
  go_wp2_with fail
  refine (CR.out _).mono ?_
  rintro x w1 ⟨rfl, hb1⟩
  have hr1 : w1.heap[rb]? = _ := (hb1.block _ hlr).trans HR.out
  have t0 : w1.cell? ⟨rb, 0, none⟩ = some (.string s) := cell_of_row w1 rb 0 _ _ _ hr1
  have t1 : w1.cell? ⟨rb, 1, none⟩ = some (.int .i64 0) := cell_of_row w1 rb 1 _ _ _ hr1
  have f0 : ∀ j, w1.frozen? ⟨rb, j, none⟩ = false := fun j => frozen_of_row w1 rb j _ _ hr1
  have HB1 := ghid hb1
  clear hb1 hr1 s0 s1
  go_wp2
  go_ret
  exact ⟨rfl, w1, HB1.out, rfl⟩

set_option maxHeartbeats 800000 in
theorem rsText_wrong (rb : Nat) (r : ByteArray × Int) (w : World) (hr : IsRs rb r w) (he : r.2 ≠ 0) :
    Calls Tryz.prog 72 #[.pointer (some ⟨rb, 0, none⟩)] w fun x w' => x = .returned (.string ⟨#[]⟩) ∧ w' = w := by
  obtain ⟨s, e⟩ := r
  have s1 : w.cell? ⟨rb, 1, none⟩ = some (.int .i64 e) := cell_of_row w rb 1 _ _ _ hr
  have heb : (e == 0) = false := by simpa using he
  clear hr he
  go_enter Tryz.func72, Tryz.ntmps72
  go_wp2
  go_ret
  exact ⟨rfl, rfl⟩

set_option maxHeartbeats 1600000 in
theorem rsText_ok (rb : Nat) (s : ByteArray) (w : World) (hs : s.size ≤ 140737488351232) (hr : IsRs rb (s, 0) w) :
    Calls Tryz.prog 72 #[.pointer (some ⟨rb, 0, none⟩)] w fun x w' => x = .returned (.string (readT s).1) ∧ ∃ w1, Below w.heap.size w w1 ∧ w' = (w1.setCell ⟨rb, 0, none⟩ (.string (readT s).2.1)).setCell ⟨rb, 1, none⟩ (.int .i64 (readT s).2.2) := by
  have s0 : w.cell? ⟨rb, 0, none⟩ = some (.string s) := cell_of_row w rb 0 _ _ _ hr
  have s1 : w.cell? ⟨rb, 1, none⟩ = some (.int .i64 0) := cell_of_row w rb 1 _ _ _ hr
  have CR := ghid (fun w => readText_any s hs w)
  obtain ⟨n, hn⟩ : ∃ n, n = (readT s).1 := ⟨_, rfl⟩
  obtain ⟨t, ht⟩ : ∃ t, t = (readT s).2.1 := ⟨_, rfl⟩
  obtain ⟨e, hee⟩ : ∃ e, e = (readT s).2.2 := ⟨_, rfl⟩
  rw [← hn, ← ht, ← hee] at CR ⊢
  have HR := ghid hr
  have hlr := hr.lt
  clear hr hn ht hee
  go_enter Tryz.func72, Tryz.ntmps72
  go_wp2_with fail
  refine (CR.out _).mono ?_
  rintro x w1 ⟨rfl, hb1⟩
  have hr1 : w1.heap[rb]? = _ := (hb1.block _ hlr).trans HR.out
  have t0 : w1.cell? ⟨rb, 0, none⟩ = some (.string s) := cell_of_row w1 rb 0 _ _ _ hr1
  have t1 : w1.cell? ⟨rb, 1, none⟩ = some (.int .i64 0) := cell_of_row w1 rb 1 _ _ _ hr1
  have f0 : ∀ j, w1.frozen? ⟨rb, j, none⟩ = false := fun j => frozen_of_row w1 rb j _ _ hr1
  have HB1 := ghid hb1
  clear hb1 hr1 s0 s1
  go_wp2
  go_ret
  exact ⟨rfl, w1, HB1.out, rfl⟩

/-- What is asked of a reading method: it answers what f reads, in memory of its own. -/
def RdC (F : Nat) {α : Type} (f : ByteArray × Int → α × ByteArray × Int) (V : World → Nat → Value → α → Prop) : Prop :=
  ∀ (rb : Nat) (r : ByteArray × Int) (w : World), r.1.size ≤ 140737488351232 → IsRs rb r w →
    Calls Tryz.prog F #[.pointer (some ⟨rb, 0, none⟩)] w fun e w' => ∃ v, e = .returned v ∧ IsRs rb (f r).2 w' ∧ NewR w.heap.size w' (fun u => V u u.heap.size v (f r).1) ∧ TouchG w w' (fun k => k = rb)

/-- Nothing is read twice. -/
def Shrinks {α : Type} (f : ByteArray × Int → α × ByteArray × Int) : Prop := ∀ r, (f r).2.1.size ≤ r.1.size

theorem rs_readN_size (s : ByteArray) : (readN s).2.1.size ≤ s.size := by
  unfold readN
  split
  · show (s.extract _ _).size ≤ _
    rw [ByteArray.size_extract]; omega
  · exact Nat.zero_le _

theorem rs_readT_size (s : ByteArray) : (readT s).1.size ≤ s.size ∧ (readT s).2.1.size ≤ s.size := by
  unfold readT
  split
  · exact ⟨Nat.zero_le _, Nat.zero_le _⟩
  · split
    · exact ⟨Nat.zero_le _, Nat.zero_le _⟩
    · split
      · exact ⟨Nat.zero_le _, Nat.zero_le _⟩
      · constructor
        · show (s.extract _ _).size ≤ _
          rw [ByteArray.size_extract]; omega
        · show (s.extract _ _).size ≤ _
          rw [ByteArray.size_extract]; omega

theorem stepN_shrinks : Shrinks stepN := by
  intro r
  unfold stepN
  split
  · exact rs_readN_size _
  · exact Nat.le_refl _

theorem stepT_shrinks : Shrinks stepT := by
  intro r
  unfold stepT
  split
  · exact (rs_readT_size _).2
  · exact Nat.le_refl _

def TextV (_ : World) (_ : Nat) (ev : Value) (x : ByteArray) : Prop := ev = .string x ∧ x.size ≤ 140737488351232

theorem rsNumber_any : RdC 38 stepN IntV := by
  intro rb r w hs hr
  by_cases he : r.2 = 0
  · have e1 : stepN r = readN r.1 := if_pos he
    rw [e1]
    obtain ⟨s, e⟩ := r
    simp only at he
    subst he
    refine (rsNumber_ok rb s w hs hr).mono ?_
    rintro x w' ⟨hx, w1, hb1, rfl⟩
    exact ⟨_, hx, rs_two (hr.below hb1) _ _, NewR.of _ _ fun _ => rfl, touch_two (TouchG.of_below hb1 (Nat.le_refl _) _) _ _⟩
  · have e1 : stepN r = (0, r) := if_neg he
    rw [e1]
    refine (rsNumber_wrong rb r w hr he).mono ?_
    rintro x w' ⟨hx, rfl⟩
    exact ⟨_, hx, hr, NewR.of _ _ fun _ => rfl, TouchG.refl _ _⟩

theorem rsText_any : RdC 72 stepT TextV := by
  intro rb r w hs hr
  by_cases he : r.2 = 0
  · have e1 : stepT r = readT r.1 := if_pos he
    rw [e1]
    obtain ⟨s, e⟩ := r
    simp only at he
    subst he
    refine (rsText_ok rb s w hs hr).mono ?_
    rintro x w' ⟨hx, w1, hb1, rfl⟩
    have hz : (readT s).1.size ≤ 140737488351232 := Nat.le_trans (rs_readT_size s).1 hs
    exact ⟨_, hx, rs_two (hr.below hb1) _ _, NewR.of _ _ fun _ => ⟨rfl, hz⟩, touch_two (TouchG.of_below hb1 (Nat.le_refl _) _) _ _⟩
  · have e1 : stepT r = (⟨#[]⟩, r) := if_neg he
    rw [e1]
    refine (rsText_wrong rb r w hr he).mono ?_
    rintro x w' ⟨hx, rfl⟩
    exact ⟨_, hx, hr, NewR.of _ _ fun _ => ⟨rfl, Nat.zero_le _⟩, TouchG.refl _ _⟩

end Go.Proofs.YtpcacaohknkdlahGreatDoor
