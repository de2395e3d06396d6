/- From the form's reading of an argument to raw numbers as plain data; Plain mathematics of numbers as digits of seven bits. It imports no program; Plain mathematics of reading a number from the front of bytes. It imports no program; Plain mathematics of names: 1 to 6 letters from a to z. It imports no program; Plain mathematics of commands: what is wrong with an operation, or a command, first. It imports no program; Plain mathematics of reading a command from bytes: what is read, and what is wrong first. It imports no program; Logs as plain lists: what may be, what the calls do. Plain mathematics; no program; Rows of elements of several cells each: what a value reads as, and a row of a call's own. No program is named but for the seat's namespace; Texts as they lie in memory: what a value reads as; a row of texts of the call's own; A block's cells, read, and kept behind callees. It names no program; Logs in memory: what a value reads as; what is asked of package log; Locks as they lie in memory: what a value reads as (joined by program) -/
import Derived.Test.YtijilhbdbeajjaaGreatDoorRows
import Derived.WalkKit
import Derived.ProofKit
import Derived.WalkLawsBesides
import Derived.Deep.Slices
import Derived.SizedLaws
import Derived.Carry
import Derived.ChangeArms
import Derived.OpenShut
import Derived.Below
import Derived.Laws.BytesArg
import Derived.Laws.Rows
import Derived.Laws.CopyOwn
import Derived.Laws.AppendOwn
import Derived.Deep.AppendLies
namespace Go.Proofs.YtijilhbdbeajjaaGreatDoor

open Go.ChangeShapes Go.WideShapes Go.ChangeAt Go.RowKit Go.Deep

set_option maxRecDepth 100000

/-- Raw numbers, as plain data. -/
structure RawD where
  kind : Int
  a : Int
  b : Int
  c : Int

/-- A number that fits. -/
def Fits (n : Int) : Prop := -9223372036854775808 ≤ n ∧ n ≤ 9223372036854775807

/-- The value v reads in w as the raw things xs; its memory lies below block B. -/
def RawsR (w : World) (B : Nat) (v : Value) (xs : List RawD) : Prop :=
  ∃ ao cap, v = .slice ao xs.length cap ∧ xs.length ≤ cap ∧ xs.length * 32 ≤ 140737488351232 ∧ (ao = none → cap = 0) ∧
    (0 < xs.length → ∃ b off, ao = some ⟨b, off, none⟩ ∧ b < B ∧ ∀ (k : Nat) (x : RawD), xs[k]? = some x →
      w.cell? ⟨b, off + k * 4, none⟩ = some (.int .i64 x.kind) ∧ w.cell? ⟨b, off + k * 4 + 1, none⟩ = some (.int .i64 x.a) ∧ w.cell? ⟨b, off + k * 4 + 2, none⟩ = some (.int .i64 x.b) ∧ w.cell? ⟨b, off + k * 4 + 3, none⟩ = some (.int .i64 x.c) ∧ Fits x.kind ∧ Fits x.a ∧ Fits x.b ∧ Fits x.c)

theorem RawsR.below {w w' : World} {B B' : Nat} {v : Value} {xs : List RawD} (h : RawsR w B v xs) (hb : Below B' w w') (hB : B ≤ B') : RawsR w' B v xs := by
  obtain ⟨ao, cap, h0, h1, h2, h3, h4⟩ := h
  refine ⟨ao, cap, h0, h1, h2, h3, fun hp => ?_⟩
  obtain ⟨b, off, e, hlt, hc⟩ := h4 hp
  refine ⟨b, off, e, hlt, fun k x hx => ?_⟩
  obtain ⟨c0, c1, c2, c3, f⟩ := hc k x hx
  have kk : ∀ j, w'.cell? ⟨b, j, none⟩ = w.cell? ⟨b, j, none⟩ := fun j => hb.cell (p := ⟨b, j, none⟩) (by show b < B'; omega)
  exact ⟨(kk _).trans c0, (kk _).trans c1, (kk _).trans c2, (kk _).trans c3, f⟩

theorem RawsR.mono {w : World} {B B' : Nat} {v : Value} {xs : List RawD} (h : RawsR w B v xs) (hB : B ≤ B') : RawsR w B' v xs := by
  obtain ⟨ao, cap, h0, h1, h2, h3, h4⟩ := h
  refine ⟨ao, cap, h0, h1, h2, h3, fun hp => ?_⟩
  obtain ⟨b, off, e, hlt, hc⟩ := h4 hp
  exact ⟨b, off, e, by omega, hc⟩

theorem Tryz.rcellsInt : Tryz.prog.cellsOf 3 = 1 := by kernel_rfl

theorem Tryz.cellsRaw : Tryz.prog.cellsOf 100 = 4 := by kernel_rfl

theorem Tryz.bytesRaw : Tryz.prog.bytesOf 100 = 32 := by kernel_rfl

section

variable {H : Type} {enc : TypeId × Value → H} {W : World}

set_option maxRecDepth 100000 in
theorem open_raw {fuel : Nat} {cs : List Value} {d : DataW H} {p : List MemPlace} (h : DataW.trod enc Tryz.prog W 0 (fun _ => true) true fuel 100 cs = some (d, p)) :
    ∃ (x : RawD), cs = [.int .i64 x.kind, .int .i64 x.a, .int .i64 x.b, .int .i64 x.c] ∧ Fits x.kind ∧ Fits x.a ∧ Fits x.b ∧ Fits x.c := by
  obtain ⟨xs, k, _, hxy, hcl, hxl, hf⟩ := DataW.trod_struct Tryz.underlying100 h
  rw [Tryz.cellsRaw] at hcl
  match xs, hxl, cs, hcl with
  | [y0, y1, y2, y3], _, [v0, v1, v2, v3], _ =>
    have g0 := hf 0 _ rfl
    have g1 := hf 1 _ rfl
    have g2 := hf 2 _ rfl
    have g3 := hf 3 _ rfl
    simp [Tryz.rcellsInt] at g0 g1 g2 g3
    obtain ⟨n0, e0, _, f0⟩ := DataW.trod_int Tryz.underlying3 g0
    obtain ⟨n1, e1, _, f1⟩ := DataW.trod_int Tryz.underlying3 g1
    obtain ⟨n2, e2, _, f2⟩ := DataW.trod_int Tryz.underlying3 g2
    obtain ⟨n3, e3, _, f3⟩ := DataW.trod_int Tryz.underlying3 g3
    simp only [List.cons.injEq, and_true] at e0 e1 e2 e3
    subst e0 e1 e2 e3
    exact ⟨⟨n0, n1, n2, n3⟩, rfl, bounds_i64 f0, bounds_i64 f1, bounds_i64 f2, bounds_i64 f3⟩

set_option maxRecDepth 100000 in
/-- AN ARGUMENT OF RAW THINGS: it reads as plain data. -/
theorem open_rawsR {v : Value} {d : DataW H} {p : List MemPlace} (h : DataW.Trod enc Tryz.prog W 0 (fun _ => true) true 22 v d p) (hok : ∃ a len cap, v = .slice a len cap)
    (hs : ∀ n ∈ d.weights Tryz.prog 22, n ≤ reachBytes) : ∃ ls, RawsR W W.heap.size v ls := by
  obtain ⟨fuel, hf⟩ := h
  obtain ⟨a0, len0, cap0, rfl⟩ := hok
  have hf' : DataW.trod enc Tryz.prog W 0 (fun _ => true) true fuel 22 [.slice a0 len0 cap0] = some (d, p) := by simpa [Value.cells] using hf
  rcases open_slice Tryz.underlying22 hf' with ⟨hcs, hx⟩ | ⟨a, len, cap, m, n, D, Pl, hcs, _, hl, hm, hmm, hx, hel⟩
  · simp only [List.cons.injEq, and_true] at hcs
    rw [hcs]
    exact ⟨[], none, 0, rfl, Nat.le_refl _, (by decide), fun _ => rfl, fun h => absurd h (by simp)⟩
  · simp only [List.cons.injEq, and_true] at hcs
    rw [hcs]
    simp only [if_true] at hmm
    subst hmm
    have hd := (Prod.mk.injEq _ _ _ _ ▸ hx).1
    rw [Tryz.cellsRaw] at hel
    have hsz : len * 32 ≤ 140737488351232 := by
      have := hs ((len + (m - len)) * 32) (by
        rw [hd]
        simp [DataW.weights, Tryz.underlying22, Tryz.bytesRaw])
      unfold reachBytes at this
      omega
    haveI : Inhabited RawD := ⟨⟨0, 0, 0, 0⟩⟩
    obtain ⟨q, hq⟩ := choose_lt (α := RawD) (n := len) (p := fun i z => W.cells? 0 (a.add (i * 4)) 4 = some [.int .i64 z.kind, .int .i64 z.a, .int .i64 z.b, .int .i64 z.c] ∧ Fits z.kind ∧ Fits z.a ∧ Fits z.b ∧ Fits z.c)
      (fun i hi => by
        obtain ⟨cs, h1, h2⟩ := hel i (by omega)
        obtain ⟨x, rfl, h3⟩ := open_raw h2
        exact ⟨x, h1, h3⟩)
    have hlen : ((List.range len).map fun i => q i).length = len := by simp
    refine ⟨(List.range len).map fun i => q i, some a, m, by rw [hlen], by omega, by omega, (by intro h; cases h), fun hp => ?_⟩
    rw [hlen] at hp
    obtain ⟨b, off, spot⟩ := a
    have hcell : ∀ i, i < len → ∀ j, j < 4 → W.cell? ((⟨b, off, spot⟩ : Addr).add (i * 4 + j)) = [Value.int .i64 (q i).kind, .int .i64 (q i).a, .int .i64 (q i).b, .int .i64 (q i).c][j]? := fun i hi j hj => by
      obtain ⟨_, _, hc⟩ := World.cells?_some (hq i hi).1
      have := hc j hj
      rwa [add_add] at this
    have h0 := hcell 0 hp 0 (by omega)
    have hspot : spot = none := by simpa [Addr.add] using World.cell?_spot h0
    subst hspot
    refine ⟨b, off, rfl, World.block_lt_of_cell? W _ h0, fun i x hx => ?_⟩
    have hi : i < len := by have := (List.getElem?_eq_some_iff.1 hx).1; simpa using this
    have ex : q i = x := by
      rw [List.getElem?_map, List.getElem?_range hi] at hx
      simpa using hx
    have c0 := hcell i hi 0 (by omega)
    have c1 := hcell i hi 1 (by omega)
    have c2 := hcell i hi 2 (by omega)
    have c3 := hcell i hi 3 (by omega)
    rw [add_plain] at c0 c1 c2 c3
    subst ex
    exact ⟨by simpa using c0, by simpa [Nat.add_assoc] using c1, by simpa [Nat.add_assoc] using c2, by simpa [Nat.add_assoc] using c3, (hq i hi).2⟩

end

end Go.Proofs.YtijilhbdbeajjaaGreatDoor

namespace Go.Proofs.YtijilhbdbeajjaaGreatDoor

open Go.RowKit

/-- Digits of seven bits, the lowest first, 128 more on all but the last; at most f + 1 of them. -/
def enc : Nat → Int → List Int
  | 0, m => [m]
  | f + 1, m => if m < 128 then [m] else (m % 128 + 128) :: enc f (m / 128)

/-- The bytes of a number (up to 2^42). -/
def encN (n : Int) : List Int := enc 5 n

theorem enc_small (f : Nat) (m : Int) (h : m < 128) : enc f m = [m] := by
  cases f <;> simp [enc, h]

theorem enc_step (f : Nat) (m : Int) (h : ¬ m < 128) : enc (f + 1) m = (m % 128 + 128) :: enc f (m / 128) := by
  simp [enc, h]

theorem enc_length (f : Nat) : ∀ m, 1 ≤ (enc f m).length ∧ (enc f m).length ≤ f + 1 := by
  induction f with
  | zero => intro m; simp [enc]
  | succ f ih =>
    intro m
    by_cases h : m < 128
    · simp [enc, h]
    · have := ih (m / 128); simp [enc, h]; omega

theorem encN_length (n : Int) : 1 ≤ (encN n).length ∧ (encN n).length ≤ 6 := enc_length 5 n

/-- How far a number reaches with f more digits. -/
def reach : Nat → Int
  | 0 => 128
  | f + 1 => 128 * reach f

theorem reach_div (f : Nat) (m : Int) (h0 : 0 ≤ m) (h : m < reach (f + 1)) : 0 ≤ m / 128 ∧ m / 128 < reach f := by
  simp only [reach] at h
  omega

end Go.Proofs.YtijilhbdbeajjaaGreatDoor

namespace Go.Proofs.YtijilhbdbeajjaaGreatDoor

open Go.RowKit

/-- How many digits the number at the front has; 0: the bytes end within it. -/
def cd : List UInt8 → Nat
  | [] => 0
  | c :: t => if c.toNat < 128 then 1 else if cd t = 0 then 0 else cd t + 1

theorem cd_le (l : List UInt8) : cd l ≤ l.length := by
  induction l with
  | nil => simp [cd]
  | cons c t ih => simp only [cd, List.length_cons]; split <;> (try split) <;> omega

theorem cd_hit (l : List UInt8) : ∀ k, k < l.length → (∀ j, j < k → 128 ≤ (l.getD j 0).toNat) → (l.getD k 0).toNat < 128 → cd l = k + 1 := by
  induction l with
  | nil => intro k hk; simp at hk
  | cons c t ih =>
    intro k hk hall hlt
    cases k with
    | zero => simp at hlt; simp [cd, hlt]
    | succ k =>
      have h0 := hall 0 (by omega)
      have := ih k (by simpa using hk) (fun j hj => by simpa using hall (j + 1) (by omega)) (by simpa using hlt)
      simp at h0
      simp [cd, this]; omega

theorem cd_miss (l : List UInt8) : (∀ j, j < l.length → 128 ≤ (l.getD j 0).toNat) → cd l = 0 := by
  induction l with
  | nil => intro _; rfl
  | cons c t ih =>
    intro hall
    have h0 := hall 0 (by simp)
    have := ih (fun j hj => by simpa using hall (j + 1) (by simpa using hj))
    simp at h0
    simp [cd, this]; omega

/-- The number that digits tell, the lowest first. -/
def dec : List UInt8 → Int
  | [] => 0
  | c :: t => (c.toNat : Int) % 128 + 128 * dec t

theorem dec_nonneg (l : List UInt8) : 0 ≤ dec l := by
  induction l with
  | nil => simp [dec]
  | cons c t ih => simp only [dec]; omega

theorem reach_pos (f : Nat) : 0 < reach f := by
  induction f with
  | zero => simp [reach]
  | succ f ih => simp only [reach]; omega

theorem dec_lt (l : List UInt8) : ∀ f : Nat, l.length ≤ f + 1 → dec l < reach f := by
  induction l with
  | nil => intro f _; exact reach_pos f
  | cons c t ih =>
    intro f hf
    cases f with
    | zero =>
      have : t = [] := by cases t with
        | nil => rfl
        | cons a b => simp at hf
      subst this
      simp [dec, reach]; omega
    | succ f => have := ih f (by simpa using hf); simp only [dec, reach]; omega

theorem reach5 : reach 5 = 4398046511104 := by simp [reach]

theorem dec_drop (l : List UInt8) (k : Nat) (hk : k < l.length) : dec (l.drop k) = ((l.getD k 0).toNat : Int) % 128 + 128 * dec (l.drop (k + 1)) := by
  rw [List.drop_eq_getElem_cons hk, dec]
  simp [List.getElem?_eq_getElem hk]

theorem dec_end (l : List UInt8) : dec (l.drop l.length) = 0 := by simp [dec]

end Go.Proofs.YtijilhbdbeajjaaGreatDoor

namespace Go.Proofs.YtijilhbdbeajjaaGreatDoor

open Go.RowKit

/-- Is a text a name? -/
def nameB (s : ByteArray) : Bool := decide (1 ≤ s.size ∧ s.size ≤ 6 ∧ ∀ k, (h : k < s.size) → 97 ≤ s[k].toNat ∧ s[k].toNat ≤ 122)

theorem nameB_yes {s : ByteArray} (h : nameB s = true) : 1 ≤ s.size ∧ s.size ≤ 6 ∧ ∀ k, (h : k < s.size) → 97 ≤ (s[k].toNat : Int) ∧ (s[k].toNat : Int) ≤ 122 := by
  unfold nameB at h
  have := of_decide_eq_true h
  refine ⟨this.1, this.2.1, fun k hk => ?_⟩
  have := this.2.2 k hk
  omega

theorem nameB_no {s : ByteArray} (h : nameB s = false) (h1 : 1 ≤ s.size) (h2 : s.size ≤ 6) : ∃ k, ∃ h : k < s.size, (s[k].toNat : Int) < 97 ∨ 122 < (s[k].toNat : Int) := by
  unfold nameB at h
  have := of_decide_eq_false h
  apply Classical.byContradiction
  intro hn
  refine this ⟨h1, h2, fun k hk => ?_⟩
  apply Classical.byContradiction
  intro hc
  exact hn ⟨k, hk, by omega⟩

end Go.Proofs.YtijilhbdbeajjaaGreatDoor

namespace Go.Proofs.YtijilhbdbeajjaaGreatDoor

open Go.RowKit

/-- What is wrong with an operation (0: nothing). -/
def opE (k : Int) (a b : ByteArray) (n : Int) : Int :=
  if ¬ (1 ≤ k ∧ k ≤ 6) then 3
  else if nameB a = false ∨ (k ≠ 5 ∧ b.size ≠ 0) then 4
  else if 12 < b.size then 1
  else if k = 5 then (if 1 ≤ n ∧ n ≤ 1073741824 then 0 else 2)
  else if n = 0 then 0 else 2

/-- What is wrong with a command (0: nothing). -/
def cmdE (k c s q u ok : Int) (a b : ByteArray) (n : Int) : Int :=
  if ¬ (1 ≤ k ∧ k ≤ 3) then 3
  else if ¬ (1 ≤ c ∧ c ≤ 9) then 2
  else if k = 2 then (if (1 ≤ s ∧ s ≤ 1073741824) ∧ (1 ≤ q ∧ q ≤ 1048576) ∧ (0 ≤ u ∧ u ≤ q - 1) then opE ok a b n else 2)
  else if s = 0 ∧ q = 0 ∧ u = 0 ∧ ok = 0 ∧ a.size = 0 ∧ b.size = 0 ∧ n = 0 then 0 else 4

theorem size_zero {s : ByteArray} (h : s.size = 0) : s = ⟨#[]⟩ := by
  apply ByteArray.ext
  have : s.data.size = 0 := h
  exact Array.eq_empty_of_size_eq_zero this

end Go.Proofs.YtijilhbdbeajjaaGreatDoor

namespace Go.Proofs.YtijilhbdbeajjaaGreatDoor

open Go.RowKit

/-- A command, as plain data. -/
structure CmdD where
  kind : Int
  client : Int
  session : Int
  seq : Int
  acked : Int
  ok : Int
  a : ByteArray
  b : ByteArray
  n : Int

def CmdD.zero : CmdD := ⟨0, 0, 0, 0, 0, 0, ⟨#[]⟩, ⟨#[]⟩, 0⟩

def CmdD.err (c : CmdD) : Int := cmdE c.kind c.client c.session c.seq c.acked c.ok c.a c.b c.n

/-- The number at the front of bytes, how many bytes it has, what is wrong. -/
def numR (s : ByteArray) : Int × Nat × Int :=
  if cd s.data.toList = 0 then (0, 0, 5)
  else if 6 < cd s.data.toList ∨ (1 < cd s.data.toList ∧ (s.data.toList.getD (cd s.data.toList - 1) 0).toNat = 0) then (0, 0, 4)
  else if 1099511627776 < dec (s.data.toList.take (cd s.data.toList)) then (0, 0, 4)
  else (dec (s.data.toList.take (cd s.data.toList)), cd s.data.toList, 0)

/-- What ReadNumber answers. -/
def readN (s : ByteArray) : Int × ByteArray × Int := if (numR s).2.2 = 0 then ((numR s).1, s.extract (numR s).2.1 s.size, 0) else (0, ⟨#[]⟩, (numR s).2.2)

/-- What ReadText answers. -/
def readT (s : ByteArray) : ByteArray × ByteArray × Int :=
  if (numR s).2.2 ≠ 0 then (⟨#[]⟩, ⟨#[]⟩, (numR s).2.2)
  else if 5000 < (numR s).1 then (⟨#[]⟩, ⟨#[]⟩, 1)
  else if (s.size : Int) - (numR s).2.1 < (numR s).1 then (⟨#[]⟩, ⟨#[]⟩, 5)
  else (s.extract (numR s).2.1 ((numR s).2.1 + (numR s).1.toNat), s.extract ((numR s).2.1 + (numR s).1.toNat) s.size, 0)

theorem numR_err (s : ByteArray) : (numR s).2.2 = 0 ∨ (numR s).2.2 = 4 ∨ (numR s).2.2 = 5 := by
  unfold numR
  split
  · simp
  · split
    · simp
    · split
      · simp
      · simp

theorem numR_ok (s : ByteArray) (h : (numR s).2.2 = 0) : 0 ≤ (numR s).1 ∧ (numR s).1 ≤ 1099511627776 ∧ 1 ≤ (numR s).2.1 ∧ (numR s).2.1 ≤ 6 ∧ (numR s).2.1 ≤ s.size := by
  have hl := cd_le s.data.toList
  have hz : s.data.toList.length = s.size := by simp
  have hd := dec_nonneg (s.data.toList.take (cd s.data.toList))
  revert h
  unfold numR
  split
  · intro h; simp at h
  · split
    · intro h; simp at h
    · split
      · intro h; simp at h
      · intro _
        refine ⟨hd, by show dec _ ≤ _; omega, by show 1 ≤ cd _; omega, by show cd _ ≤ 6; omega, by show cd _ ≤ s.size; omega⟩

/-- A reader: what is left, and what was wrong first. One number more. -/
def stepN (r : ByteArray × Int) : Int × ByteArray × Int := if r.2 = 0 then readN r.1 else (0, r.1, r.2)

/-- One text more. -/
def stepT (r : ByteArray × Int) : ByteArray × ByteArray × Int := if r.2 = 0 then readT r.1 else (⟨#[]⟩, r.1, r.2)

/-- What of a Call is read behind its head. -/
def decCall (k c : Int) (s : ByteArray) : CmdD × ByteArray × Int :=
  let r0 := stepN (s, 0)
  let r1 := stepN r0.2
  let r2 := stepN r1.2
  let r3 := stepN r2.2
  let r4 := stepN r3.2
  let r5 := stepT r4.2
  let r6 := stepT r5.2
  (⟨k, c, r0.1, r1.1, r2.1, r3.1, r5.1, r6.1, r4.1⟩, r6.2)

/-- What was wrong behind all: also bytes that nobody read. -/
def endE (r : ByteArray × Int) : Int := if r.2 = 0 ∧ r.1.size ≠ 0 then 4 else r.2

/-- What is read behind the head. -/
def decBody (s : ByteArray) : CmdD × ByteArray × Int :=
  if ((s.data.toList.getD 0 0).toNat : Int) = 2 then decCall (s.data.toList.getD 0 0).toNat (s.data.toList.getD 1 0).toNat (s.extract 2 s.size)
  else (⟨(s.data.toList.getD 0 0).toNat, (s.data.toList.getD 1 0).toNat, 0, 0, 0, 0, ⟨#[]⟩, ⟨#[]⟩, 0⟩, s.extract 2 s.size, 0)

/-- What Decode refuses. -/
def decE (s : ByteArray) : Int :=
  if 5000 < s.size then 1 else if s.size < 2 then 5
  else if endE (decBody s).2 ≠ 0 then endE (decBody s).2 else (decBody s).1.err

/-- What Decode answers. -/
def decL (s : ByteArray) : CmdD := if decE s = 0 then (decBody s).1 else CmdD.zero

end Go.Proofs.YtijilhbdbeajjaaGreatDoor

namespace Go.Proofs.YtijilhbdbeajjaaGreatDoor

open Go.RowKit

/-- A log, as plain data. -/
structure LogD where
  base : Int
  ents : List ByteArray

/-- What Decode refuses of entries, one by one. -/
def firstE : List ByteArray → Int
  | [] => 0
  | t :: r => if decE t ≠ 0 then decE t else firstE r

theorem firstE_zero {ts : List ByteArray} : firstE ts = 0 ↔ ∀ t ∈ ts, decE t = 0 := by
  induction ts with
  | nil => simp [firstE]
  | cons t r ih =>
    unfold firstE
    by_cases h : decE t = 0
    · rw [if_neg (by simpa using h), ih]
      simp [h]
    · rw [if_pos h]
      simp [h]

theorem firstE_sub {ts us : List ByteArray} (h : firstE ts = 0) (hs : us.Sublist ts) : firstE us = 0 := firstE_zero.2 fun t ht => firstE_zero.1 h t (hs.subset ht)

/-- What is wrong with a log; 0: nothing. -/
def logE (l : LogD) : Int := if ¬ (0 ≤ l.base ∧ l.base ≤ 1073741424) then 2 else if 400 < l.ents.length then 1 else firstE l.ents

def lastL (l : LogD) : Int := l.base + l.ents.length

theorem logE_ok {l : LogD} (h0 : 0 ≤ l.base) (h1 : l.base ≤ 1073741424) (h2 : l.ents.length ≤ 400) (h3 : firstE l.ents = 0) : logE l = 0 := by
  unfold logE
  rw [if_neg (by simp; omega), if_neg (by omega), h3]

/-- Of entries that are put: those that are not passed over. -/
def overL (l : LogD) (behind : Int) (more : List ByteArray) : List ByteArray := more.drop (l.base - behind).toNat

/-- How many entries stand ahead of them. -/
def aheadL (l : LogD) (behind : Int) : Nat := (behind - l.base).toNat

/-- Do entries open with these? -/
def opens (p t : List ByteArray) : Bool := decide (p = t.take p.length)

theorem opens_iff {p t : List ByteArray} : opens p t = true ↔ p = t.take p.length := by simp [opens]

/-- The entries behind a put. -/
def newL (l : LogD) (behind : Int) (more : List ByteArray) : List ByteArray :=
  if opens (overL l behind more) (l.ents.drop (aheadL l behind)) = true then l.ents else l.ents.take (aheadL l behind) ++ overL l behind more

def putE (l : LogD) (behind : Int) (more : List ByteArray) : Int :=
  if logE l ≠ 0 then logE l else if ¬ (0 ≤ behind ∧ behind ≤ 1073741824) then 2 else if 400 < more.length then 1 else if lastL l < behind then 13
  else if firstE (overL l behind more) ≠ 0 then firstE (overL l behind more) else if 400 < (newL l behind more).length then 8 else 0

def putL (l : LogD) (behind : Int) (more : List ByteArray) : LogD := if putE l behind more = 0 then ⟨l.base, newL l behind more⟩ else ⟨0, []⟩

def behindE (l : LogD) (index many : Int) : Int := if logE l ≠ 0 then logE l else if index < l.base ∨ many < 0 then 2 else 0

def behindL (l : LogD) (index many : Int) : List ByteArray := if behindE l index many = 0 then (l.ents.drop (index - l.base).toNat).take many.toNat else []

def cutE (l : LogD) (index : Int) : Int := if logE l ≠ 0 then logE l else if ¬ (l.base ≤ index ∧ index ≤ lastL l) then 2 else if 1073741424 < index then 8 else 0

def cutL (l : LogD) (index : Int) : LogD := if cutE l index = 0 then ⟨index, l.ents.drop (index - l.base).toNat⟩ else ⟨0, []⟩

end Go.Proofs.YtijilhbdbeajjaaGreatDoor

namespace Go.Proofs.YtijilhbdbeajjaaGreatDoor

open Go.RowKit

theorem ghid {p : Prop} (h : p) : Hid p := h

theorem g_drewN_below (B : Nat) (w : World) (n : Nat) : Below B w (w.drewN n) := ⟨rfl, rfl, rfl, Nat.le_refl _, fun _ _ => rfl⟩

theorem gcell {W w1 : World} (hb : Below W.heap.size W w1) : (∀ b o, b < W.heap.size → w1.cell? ⟨b, o, none⟩ = W.cell? ⟨b, o, none⟩) ∧ (∀ b o, b < W.heap.size → w1.frozen? ⟨b, o, none⟩ = W.frozen? ⟨b, o, none⟩) :=
  ⟨fun b o h => hb.cell (p := ⟨b, o, none⟩) h, fun b o h => hb.frozen (p := ⟨b, o, none⟩) h⟩

theorem gadd (b o j : Nat) : (⟨b, o, none⟩ : Addr).add j = ⟨b, o + j, none⟩ := by unfold Addr.add; split <;> simp_all

section

variable {α : Type} {c : α → List Value} {m : Nat}

/-- The cells of elements, one behind another. -/
def flatG (c : α → List Value) (xs : List α) : List Value := xs.flatMap c

theorem flatG_length (hc : ∀ x, (c x).length = m) (xs : List α) : (flatG c xs).length = xs.length * m := by
  induction xs with
  | nil => simp [flatG]
  | cons r t ih => simp only [flatG, List.flatMap_cons, List.length_append] at ih ⊢; rw [ih, hc, List.length_cons, Nat.add_mul]; omega

theorem flatG_append (a b : List α) : flatG c (a ++ b) = flatG c a ++ flatG c b := by simp [flatG]

theorem flatG_snoc (a : List α) (x : α) : flatG c (a ++ [x]) = flatG c a ++ c x := by simp [flatG]

theorem flatG_cons (a : List α) (x : α) : flatG c (x :: a) = c x ++ flatG c a := by simp [flatG]

theorem flatG_nil : flatG c [] = [] := rfl

theorem flatG_at (hc : ∀ x, (c x).length = m) {xs : List α} {i : Nat} {r : α} (h : xs[i]? = some r) (j : Nat) (hj : j < m) : (flatG c xs)[i * m + j]? = (c r)[j]? := by
  induction xs generalizing i with
  | nil => simp at h
  | cons q t ih =>
    rw [flatG_cons]
    cases i with
    | zero =>
      have : q = r := by simpa using h
      subst this
      rw [Nat.zero_mul, Nat.zero_add, List.getElem?_append_left (by rw [hc]; exact hj)]
    | succ i =>
      rw [List.getElem?_append_right (by rw [hc, Nat.add_mul]; omega), hc, show (i + 1) * m + j - m = i * m + j by rw [Nat.add_mul]; omega]
      exact ih (by simpa using h)

theorem flatG_one (h1 : ∀ x, ∀ v ∈ c x, v.oneCell' = true) (xs : List α) : ∀ v ∈ flatG c xs, v.oneCell' = true := by
  intro v hv
  obtain ⟨r, hr, hv⟩ := List.mem_flatMap.1 hv
  exact h1 r v hv

/-- One cell of one element put anew. -/
theorem flatG_set (hc : ∀ x, (c x).length = m) {xs : List α} {i : Nat} {x x' : α} (h : xs[i]? = some x) (j : Nat) (hj : j < m) (u : Value) (hx : (c x).set j u = c x') :
    (flatG c xs).set (i * m + j) u = flatG c (xs.set i x') := by
  induction xs generalizing i with
  | nil => simp at h
  | cons q t ih =>
    cases i with
    | zero =>
      have : q = x := by simpa using h
      subst this
      rw [List.set_cons_zero, flatG_cons, flatG_cons, Nat.zero_mul, Nat.zero_add, List.set_append_left _ _ (by rw [hc]; exact hj), hx]
    | succ i =>
      rw [List.set_cons_succ, flatG_cons, flatG_cons, List.set_append_right _ _ (by rw [hc, Nat.add_mul]; omega), hc, show (i + 1) * m + j - m = i * m + j by rw [Nat.add_mul]; omega, ih (by simpa using h)]

theorem flatG_take (hc : ∀ x, (c x).length = m) (xs : List α) (i : Nat) : (flatG c xs).take (i * m) = flatG c (xs.take i) := by
  by_cases hi : i ≤ xs.length
  · have e : flatG c xs = flatG c (xs.take i) ++ flatG c (xs.drop i) := by rw [← flatG_append, List.take_append_drop]
    have hl : (flatG c (xs.take i)).length = i * m := by rw [flatG_length hc, List.length_take, Nat.min_eq_left hi]
    rw [e, ← hl, List.take_left]
  · rw [List.take_of_length_le (i := i) (by omega), List.take_of_length_le]
    rw [flatG_length hc]
    exact Nat.mul_le_mul_right _ (by omega)

theorem flatG_drop (hc : ∀ x, (c x).length = m) (xs : List α) (i : Nat) (hi : i ≤ xs.length) : (flatG c xs).drop (i * m) = flatG c (xs.drop i) := by
  have e : flatG c xs = flatG c (xs.take i) ++ flatG c (xs.drop i) := by rw [← flatG_append, List.take_append_drop]
  have hl : (flatG c (xs.take i)).length = i * m := by rw [flatG_length hc, List.length_take, Nat.min_eq_left hi]
  rw [e, ← hl, List.drop_left]

end

section

variable {w w' : World} {base : Nat} {e : TypeId} {size : Nat} {v : Value} {n : Nat} {xs : List Value}

theorem grow_shape (h : w.ownsRow base e size v n xs) : ∃ ao cap, v = .slice ao n cap := by
  rcases h.2 with ⟨rfl, rfl⟩ | ⟨g, cap, cur, rfl, _⟩
  · exact ⟨none, 0, rfl⟩
  · exact ⟨_, _, rfl⟩

theorem grow_keep (h : w.ownsRow base e size v n xs) (hk : ∀ b, v.ownBlock = some b → w'.heap[b]? = w.heap[b]?) : w'.ownsRow base e size v n xs := by
  obtain ⟨h1, h2⟩ := h
  refine ⟨h1, ?_⟩
  rcases h2 with h2 | ⟨g, cap, cur, rfl, hg, hh, r⟩
  · exact Or.inl h2
  · exact Or.inr ⟨g, cap, cur, rfl, hg, by rw [hk g rfl]; exact hh, r⟩

theorem grow_base {base' : Nat} (h : w.ownsRow base e size v n xs) (hk : ∀ b, v.ownBlock = some b → base' ≤ b) : w.ownsRow base' e size v n xs := by
  obtain ⟨h1, h2⟩ := h
  refine ⟨h1, ?_⟩
  rcases h2 with h2 | ⟨g, cap, cur, rfl, hg, hh, r⟩
  · exact Or.inl h2
  · exact Or.inr ⟨g, cap, cur, rfl, hk g rfl, hh, r⟩

theorem grow_mono {base' : Nat} (h : w.ownsRow base e size v n xs) (hb : base' ≤ base) : w.ownsRow base' e size v n xs :=
  grow_base h fun b hbk => Nat.le_trans hb (h.lt b hbk).1

theorem grow_below (h : w.ownsRow base e size v n xs) {B : Nat} (hb : Below B w w') (hB : w.heap.size ≤ B) : w'.ownsRow base e size v n xs :=
  grow_keep h fun b hbk => hb.block b (by have := (h.lt b hbk).2; omega)

/-- A row with something in it lies in a block. -/
theorem grow_some (h : w.ownsRow base e size v n xs) (hn : 0 < n) : ∃ g cap, v = .slice (some ⟨g, 0, none⟩) n cap ∧ base ≤ g ∧ g < w.heap.size ∧ n ≤ cap := by
  have hlt := h.lt
  rcases h.2 with ⟨rfl, rfl⟩ | ⟨g, cap, cur, rfl, hg, hh, hle, _⟩
  · omega
  · exact ⟨g, cap, rfl, hg, (hlt g rfl).2, hle⟩

/-- The first of a row. -/
theorem grow_take {g cap k : Nat} (h : w.ownsRow base e size (.slice (some ⟨g, 0, none⟩) n cap) n xs) (hk : k ≤ n) : w.ownsRow base e size (.slice (some ⟨g, 0, none⟩) k cap) k (xs.take (k * size)) := by
  have hm : k * size ≤ n * size := Nat.mul_le_mul_right _ hk
  rcases h.2 with ⟨h', _⟩ | ⟨g', cap', cur, h', hg, hh, hle, hcm, hcs, ht⟩
  · cases h'
  · simp only [Value.slice.injEq, Option.some.injEq, Addr.mk.injEq, and_true, true_and] at h'
    obtain ⟨rfl, rfl⟩ := h'
    refine ⟨by rw [List.length_take, h.1]; omega, Or.inr ⟨g, cap, cur, rfl, hg, hh, by omega, hcm, hcs, ?_⟩⟩
    rw [← ht, List.take_take, Nat.min_eq_left hm]

/-- A block's element type tells rows apart. -/
theorem grow_ne {e' : TypeId} {size' : Nat} {v' : Value} {n' base' : Nat} {xs' : List Value} (h : w.ownsRow base e size v n xs) (h' : w.ownsRow base' e' size' v' n' xs') (he : e ≠ e') {b : Nat} (hb : v.ownBlock = some b) : v'.ownBlock ≠ some b := by
  intro hb'
  rcases h.2 with ⟨rfl, _⟩ | ⟨g, cap, cur, rfl, _, hh, _⟩
  · cases hb
  · rcases h'.2 with ⟨rfl, _⟩ | ⟨g', cap', cur', rfl, _, hh', _⟩
    · cases hb'
    · simp only [Value.ownBlock, Option.some.injEq] at hb hb'
      subst hb
      subst hb'
      rw [hh] at hh'
      simp only [Option.some.injEq, Obj.cells.injEq] at hh'
      exact he hh'.2.1

end

/-- w' is w but for blocks in S, and new ones. -/
structure TouchG (w w' : World) (S : Nat → Prop) : Prop where
  os : w'.os = w.os
  tape : w'.tape = w.tape
  output : w'.output = w.output
  size : w.heap.size ≤ w'.heap.size
  block : ∀ k, k < w.heap.size → ¬ S k → w'.heap[k]? = w.heap[k]?

theorem TouchG.refl (w : World) (S : Nat → Prop) : TouchG w w S := ⟨rfl, rfl, rfl, Nat.le_refl _, fun _ _ _ => rfl⟩

theorem TouchG.setCell {w0 w : World} {S : Nat → Prop} (h : TouchG w0 w S) {a : Addr} (ha : S a.block ∨ w0.heap.size ≤ a.block) (u : Value) : TouchG w0 (w.setCell a u) S :=
  ⟨h.os, h.tape, h.output, by have := h.size; simpa [World.setCell] using this, fun k hk hs => (Below.heap_setCell _ _ _ _ (by rintro rfl; rcases ha with ha | ha; exact hs ha; omega)).trans (h.block k hk hs)⟩

theorem TouchG.grown {w0 w w' : World} {S : Nat → Prop} {row : Option Nat} (h : TouchG w0 w S) (hg : w.grownBy w' row) (hr : ∀ k, row = some k → S k ∨ w0.heap.size ≤ k) : TouchG w0 w' S :=
  ⟨hg.os.trans h.os, hg.tape.trans h.tape, hg.output.trans h.output, Nat.le_trans h.size hg.size, fun k hk hs => (hg.block k (by have := h.size; omega) (fun e => by rcases hr k e.symm with h' | h'; exact hs h'; omega)).trans (h.block k hk hs)⟩

theorem TouchG.of_below {w w' : World} {B : Nat} (h : Below B w w') (hB : w.heap.size ≤ B) (S : Nat → Prop) : TouchG w w' S := ⟨h.os, h.tape, h.output, h.size, fun k hk _ => h.block k (by omega)⟩

theorem TouchG.trans {a b c : World} {S T : Nat → Prop} (h : TouchG a b S) (k : TouchG b c T) (hs : ∀ i, i < a.heap.size → T i → S i) : TouchG a c S :=
  ⟨k.os.trans h.os, k.tape.trans h.tape, k.output.trans h.output, Nat.le_trans h.size k.size, fun i hi hn => (k.block i (by have := h.size; omega) (fun ht => hn (hs i hi ht))).trans (h.block i hi hn)⟩

theorem TouchG.below {w w' : World} {S : Nat → Prop} (h : TouchG w w' S) {B : Nat} (hB : B ≤ w.heap.size) (hs : ∀ k, S k → B ≤ k) : Below B w w' :=
  ⟨h.os, h.tape, h.output, h.size, fun k hk => h.block k (by omega) (fun e => by have := hs k e; omega)⟩

theorem TouchG.drew {w0 w : World} {S : Nat → Prop} (h : TouchG w0 w S) (n : Nat) : TouchG w0 (w.drewN n) S := ⟨h.os, h.tape, h.output, h.size, h.block⟩

/-- w' is w but for old blocks below n, and new ones. -/
def NewR (n : Nat) (w : World) (R : World → Prop) : Prop := ∀ u, TouchG w u (fun k => k < n) → R u

theorem NewR.now {n : Nat} {w : World} {R : World → Prop} (h : NewR n w R) : R w := h w (TouchG.refl _ _)

theorem NewR.touch {n : Nat} {w w' : World} {R : World → Prop} (h : NewR n w R) {S : Nat → Prop} (ht : TouchG w w' S) (hs : ∀ k, k < w.heap.size → S k → k < n) : NewR n w' R := by
  intro u hu
  refine h u ⟨hu.os.trans ht.os, hu.tape.trans ht.tape, hu.output.trans ht.output, Nat.le_trans ht.size hu.size, fun k hk hn => ?_⟩
  exact (hu.block k (by have := ht.size; omega) hn).trans (ht.block k hk (fun e => hn (hs k hk e)))

theorem NewR.mono {n m : Nat} {w : World} {R : World → Prop} (h : NewR n w R) (hm : m ≤ n) : NewR m w R :=
  fun u hu => h u ⟨hu.os, hu.tape, hu.output, hu.size, fun k hk hn => hu.block k hk (by omega)⟩

theorem NewR.imp {n : Nat} {w : World} {R Q : World → Prop} (h : NewR n w R) (hi : ∀ u, R u → Q u) : NewR n w Q := fun u hu => hi u (h u hu)

theorem NewR.of (n : Nat) (w : World) {R : World → Prop} (h : ∀ u, R u) : NewR n w R := fun u _ => h u

theorem NewR.below {n : Nat} {w w' : World} {R : World → Prop} (h : NewR n w R) (hb : Below w.heap.size w w') : NewR n w' R :=
  h.touch (TouchG.of_below hb (Nat.le_refl _) (fun _ => False)) (fun _ _ h => h.elim)

theorem NewR.set {n : Nat} {w : World} {R : World → Prop} (h : NewR n w R) {a : Addr} (ha : a.block < n) (u : Value) : NewR n (w.setCell a u) R :=
  h.touch ((TouchG.refl w (fun b => b = a.block)).setCell (Or.inl rfl) u) (fun k _ e => by omega)

section

variable {P : Program}

/-- clear(s), s a slice of elements of several cells. -/
theorem run_clear_wide (w : World) (t e : TypeId) (i : TypeInfo) (z : Value) (ht : P.underlying t = some (.slice e)) (hi : P.info? e = some i) (hz : i.zero = some z) (h1 : ∀ v ∈ (Builtin.zeroCells z.cells 1).toList, v.oneCell' = true) (hzs : 0 < z.cells.size)
    (g o n c : Nat) (cur : Array Value) (t' : TypeId) (hn : 0 < n) (hg : w.heap[g]? = some (.cells cur t' (0, 0))) (hfit : o + n * z.cells.size ≤ cur.size) :
    ∃ zs : List Value, zs.length = n * z.cells.size ∧ ∀ ty : TypeId, (Builtin.clear_ #[t] ty #[.slice (some ⟨g, o, none⟩) n c]).run P w = .ok (.tuple #[]) (w.setRow g (cur.toList.take o ++ zs ++ cur.toList.drop (o + zs.length)).toArray) := by
  refine ⟨(Builtin.zeroCells z.cells n).toList, by simp [size_zeroCells], fun ty => ?_⟩
  have hone : ∀ v ∈ (Builtin.zeroCells z.cells n).toList, v.oneCell' = true := by
    intro v hv
    refine h1 v ?_
    simp only [Builtin.zeroCells, Array.toList_map, List.mem_map, Array.toList_range, List.mem_range] at hv ⊢
    obtain ⟨k, hk, rfl⟩ := hv
    exact ⟨k % z.cells.size, by rw [Nat.one_mul]; exact Nat.mod_lt _ hzs, by rw [Nat.mod_mod]⟩
  have hst := run_storeCells_at P g o t' (Builtin.zeroCells z.cells n).toList 0 cur w hg (by simpa [size_zeroCells] using hfit) hone
  simp only [Nat.add_zero] at hst
  obtain ⟨m, rfl⟩ : ∃ m, n = m + 1 := ⟨n - 1, by omega⟩
  simp [Builtin.clear_, run_underlying ht, zeroValue, typeInfo, hi, hz, hst]

end

end Go.Proofs.YtijilhbdbeajjaaGreatDoor

namespace Go.Proofs.YtijilhbdbeajjaaGreatDoor

open Go.RowKit

/-- The value v reads in w as the texts ts; its memory lies below block B. -/
def TextsR (w : World) (B : Nat) (v : Value) (ts : List ByteArray) : Prop :=
  ∃ ao cap, v = .slice ao ts.length cap ∧ ts.length ≤ cap ∧ ts.length * 16 ≤ 140737488351232 ∧ (ao = none → cap = 0) ∧
    (0 < ts.length → ∃ b off, ao = some ⟨b, off, none⟩ ∧ b < B ∧ ∀ (i : Nat) (x : ByteArray), ts[i]? = some x → w.cell? ⟨b, off + i, none⟩ = some (.string x) ∧ x.size ≤ 140737488351232)

theorem TextsR.below {w w' : World} {B : Nat} {v : Value} {ts : List ByteArray} (h : TextsR w B v ts) {B' : Nat} (hb : Below B' w w') (hB : B ≤ B') : TextsR w' B v ts := by
  obtain ⟨ao, cap, rfl, h1, h2, h3, h4⟩ := h
  refine ⟨ao, cap, rfl, h1, h2, h3, fun hp => ?_⟩
  obtain ⟨b, off, rfl, hlt, hc⟩ := h4 hp
  exact ⟨b, off, rfl, hlt, fun i x hx => ⟨(hb.cell (p := ⟨b, off + i, none⟩) (by simp; omega)).trans (hc i x hx).1, (hc i x hx).2⟩⟩

theorem TextsR.mono {w : World} {B B' : Nat} {v : Value} {ts : List ByteArray} (h : TextsR w B v ts) (hB : B ≤ B') : TextsR w B' v ts := by
  obtain ⟨ao, cap, rfl, h1, h2, h3, h4⟩ := h
  refine ⟨ao, cap, rfl, h1, h2, h3, fun hp => ?_⟩
  obtain ⟨b, off, rfl, hlt, hc⟩ := h4 hp
  exact ⟨b, off, rfl, by omega, hc⟩

theorem TextsR.len {w : World} {B : Nat} {v : Value} {ts : List ByteArray} (h : TextsR w B v ts) : ts.length * 16 ≤ 140737488351232 := by
  obtain ⟨_, _, _, _, h2, _⟩ := h
  exact h2

theorem TextsR.slice {w : World} {B : Nat} {v : Value} {ts : List ByteArray} (h : TextsR w B v ts) : ∃ ao cap, v = .slice ao ts.length cap := by
  obtain ⟨ao, cap, rfl, -⟩ := h
  exact ⟨ao, cap, rfl⟩

theorem TextsR.nil (w : World) (B : Nat) : TextsR w B (.slice none 0 0) [] := ⟨none, 0, rfl, Nat.le_refl _, by simp, fun _ => rfl, fun h => absurd h (by simp)⟩

/-- The cells of texts. -/
def textCells (ts : List ByteArray) : List Value := ts.map Value.string

theorem textCells_one (ts : List ByteArray) : ∀ v ∈ textCells ts, v.oneCell' = true := by
  intro v hv
  obtain ⟨t, -, rfl⟩ := List.mem_map.1 hv
  rfl

/-- Texts that are owned read as they are. -/
theorem texts_reads {w : World} {base B : Nat} {v : Value} {ts : List ByteArray} (h : w.ownsRow base 9 1 v ts.length (textCells ts)) (hm : ∀ t ∈ ts, t.size ≤ 140737488351232) (hl : ts.length * 16 ≤ 140737488351232) (hB : w.heap.size ≤ B) : TextsR w B v ts := by
  rcases h.2 with ⟨rfl, hn⟩ | ⟨g, cap, cur, rfl, _, hg, hle, hcm, hcs, htake⟩
  · have : ts = [] := List.eq_nil_of_length_eq_zero hn
    subst this
    exact TextsR.nil _ _
  · refine ⟨some ⟨g, 0, none⟩, cap, rfl, hle, hl, (by intro h; cases h), fun _ => ⟨g, 0, rfl, ?_, fun i x hx => ⟨?_, hm x (List.mem_of_getElem? hx)⟩⟩⟩
    · have := (h.lt g rfl).2; omega
    · have hi : i < ts.length := (List.getElem?_eq_some_iff.1 hx).1
      rw [Nat.zero_add, h.cellAt i (by omega)]
      simp [textCells, hx]

theorem Tryz.infoText : (Tryz.prog.info? 9).map (fun i => (i.zero, i.size, i.bytes)) = some (some (.string ⟨#[]⟩), 1, 16) := by kernel_rfl

end Go.Proofs.YtijilhbdbeajjaaGreatDoor

namespace Go.Proofs.YtijilhbdbeajjaaGreatDoor

open Go.RowKit

/-- A block's cells, read. -/
theorem cells_of {w : World} {g : Nat} {cs : Array Value} {t : TypeId} (h : w.heap[g]? = some (.cells cs t (0, 0))) (j : Nat) : w.cell? ⟨g, j, none⟩ = cs[j]? := cell_of_row w g j _ _ _ h

theorem heap_set {w : World} {p j : Nat} {cs : Array Value} {t : TypeId} (h : w.heap[p]? = some (.cells cs t (0, 0))) (u : Value) : (w.setCell ⟨p, j, none⟩ u).heap[p]? = some (.cells (cs.setIfInBounds j u) t (0, 0)) := by
  simp only [World.setCell]
  rw [Array.getElem?_modify, h]
  simp

/-- What the walk wants of a state's block. -/
theorem state_cells {w : World} {p : Nat} {x0 x1 x2 x3 : Value} {t : TypeId} (h : w.heap[p]? = some (.cells #[x0, x1, x2, x3] t (0, 0))) :
    w.cell? ⟨p, 0, none⟩ = some x0 ∧ w.cell? ⟨p, 1, none⟩ = some x1 ∧ w.cell? ⟨p, 2, none⟩ = some x2 ∧ w.cell? ⟨p, 3, none⟩ = some x3 ∧ (∀ j, w.frozen? ⟨p, j, none⟩ = false) ∧ p < w.heap.size :=
  ⟨cells_of h 0, cells_of h 1, cells_of h 2, cells_of h 3, fun j => frozen_of_row w p j _ _ h, (Array.getElem?_eq_some_iff.1 h).1⟩

theorem reply_cells {w : World} {p : Nat} {x0 x1 x2 : Value} {t : TypeId} (h : w.heap[p]? = some (.cells #[x0, x1, x2] t (0, 0))) :
    w.cell? ⟨p, 0, none⟩ = some x0 ∧ w.cell? ⟨p, 1, none⟩ = some x1 ∧ w.cell? ⟨p, 2, none⟩ = some x2 ∧ (∀ j, w.frozen? ⟨p, j, none⟩ = false) ∧ p < w.heap.size :=
  ⟨cells_of h 0, cells_of h 1, cells_of h 2, fun j => frozen_of_row w p j _ _ h, (Array.getElem?_eq_some_iff.1 h).1⟩

/-- Behind a callee that left all that lay. -/
theorem behind {w W w2 : World} {p : Nat} {o1 : Obj} (hp : w.heap[p]? = some o1) (hW : Below w.heap.size w W) (hb : Below W.heap.size W w2) : w2.heap[p]? = some o1 := by
  have hl := (Array.getElem?_eq_some_iff.1 hp).1
  rw [hb.block p (by have := hW.size; omega), hW.block p hl, hp]

theorem two_newB {w w2 : World} {A R : Obj} (hb : Below (w.heap.size + 2) ((w.alloc A).alloc R) w2) : w2.heap[w.heap.size + 1]? = some R ∧ w2.heap[w.heap.size]? = some A := by
  have h1 := heap_alloc_new (w.alloc A) R
  rw [World.size_alloc] at h1
  have h2 : ((w.alloc A).alloc R).heap[w.heap.size]? = some A := by
    rw [Below.heap_alloc _ _ _ (by simp)]
    exact heap_alloc_new w A
  exact ⟨(hb.block _ (by omega)).trans h1, (hb.block _ (by omega)).trans h2⟩

theorem five_cells {w : World} {p : Nat} {x0 x1 x2 x3 x4 : Value} {t : TypeId} (h : w.heap[p]? = some (.cells #[x0, x1, x2, x3, x4] t (0, 0))) :
    w.cell? ⟨p, 0, none⟩ = some x0 ∧ w.cell? ⟨p, 1, none⟩ = some x1 ∧ w.cell? ⟨p, 2, none⟩ = some x2 ∧ w.cell? ⟨p, 3, none⟩ = some x3 ∧ w.cell? ⟨p, 4, none⟩ = some x4 ∧ (∀ j, w.frozen? ⟨p, j, none⟩ = false) ∧ p < w.heap.size :=
  ⟨cells_of h 0, cells_of h 1, cells_of h 2, cells_of h 3, cells_of h 4, fun j => frozen_of_row w p j _ _ h, (Array.getElem?_eq_some_iff.1 h).1⟩

theorem one_cell {w : World} {p : Nat} {x0 : Value} {t : TypeId} (h : w.heap[p]? = some (.cells #[x0] t (0, 0))) : w.cell? ⟨p, 0, none⟩ = some x0 ∧ p < w.heap.size := ⟨cells_of h 0, (Array.getElem?_eq_some_iff.1 h).1⟩

theorem two_cells {w : World} {p : Nat} {x0 x1 : Value} {t : TypeId} (h : w.heap[p]? = some (.cells #[x0, x1] t (0, 0))) : w.cell? ⟨p, 0, none⟩ = some x0 ∧ w.cell? ⟨p, 1, none⟩ = some x1 ∧ p < w.heap.size :=
  ⟨cells_of h 0, cells_of h 1, (Array.getElem?_eq_some_iff.1 h).1⟩

end Go.Proofs.YtijilhbdbeajjaaGreatDoor

namespace Go.Proofs.YtijilhbdbeajjaaGreatDoor

open Go.RowKit

/-- The value v reads in w as the log l. -/
def LogR (w : World) (B : Nat) (v : Value) (l : LogD) : Prop := ∃ ev, v = .agg #[.int .i64 l.base, ev] ∧ TextsR w B ev l.ents

theorem LogR.below {w w' : World} {B : Nat} {v : Value} {l : LogD} (h : LogR w B v l) {B' : Nat} (hb : Below B' w w') (hB : B ≤ B') : LogR w' B v l := by
  obtain ⟨ev, rfl, h1⟩ := h
  exact ⟨ev, rfl, h1.below hb hB⟩

theorem LogR.shape {w : World} {B : Nat} {v : Value} {l : LogD} (h : LogR w B v l) : ∃ eo ec, v = .agg #[.int .i64 l.base, .slice eo l.ents.length ec] ∧ TextsR w B (.slice eo l.ents.length ec) l.ents := by
  obtain ⟨ev, rfl, h1⟩ := h
  obtain ⟨eo, ec, rfl⟩ := h1.slice
  exact ⟨eo, ec, rfl, h1⟩

theorem LogR.part {w : World} {B : Nat} {b : Int} {ev : Value} {ts : List ByteArray} (h : LogR w B (.agg #[.int .i64 b, ev]) ⟨b, ts⟩) : TextsR w B ev ts := by
  obtain ⟨ev', e, h1⟩ := h
  simp only [Value.agg.injEq, Array.mk.injEq, List.cons.injEq, true_and, and_true] at e
  subst e
  exact h1

theorem TextsR.cap {w : World} {B : Nat} {eo : Option Addr} {n ec : Nat} {ts : List ByteArray} (h : TextsR w B (.slice eo n ec) ts) : n ≤ ec := by
  obtain ⟨ao, cap, e, h1, -⟩ := h
  simp only [Value.slice.injEq] at e
  obtain ⟨rfl, rfl, rfl⟩ := e
  exact h1

theorem LogR.nil (w : World) (B : Nat) : LogR w B (.agg #[.int .i64 0, .slice none 0 0]) ⟨0, []⟩ := ⟨_, rfl, TextsR.nil _ _⟩

/-- What reads as no texts does so everywhere. -/
theorem TextsR.none_all {w : World} {B : Nat} {v : Value} (h : TextsR w B v []) (u : World) (B' : Nat) : TextsR u B' v [] := by
  obtain ⟨ao, cap, rfl, h1, h2, h3, -⟩ := h
  exact ⟨ao, cap, rfl, h1, h2, h3, fun h => absurd h (by simp)⟩

theorem LogR.none_all {w : World} {B : Nat} {v : Value} {b : Int} (h : LogR w B v ⟨b, []⟩) (u : World) (B' : Nat) : LogR u B' v ⟨b, []⟩ := by
  obtain ⟨ev, rfl, h1⟩ := h
  exact ⟨ev, rfl, h1.none_all u B'⟩

/-- The front of texts. -/
theorem TextsR.front {w : World} {B : Nat} {ao : Option Addr} {n cap : Nat} {ts : List ByteArray} (h : TextsR w B (.slice ao n cap) ts) {k : Nat} (hk : k ≤ ts.length) : TextsR w B (.slice ao k cap) (ts.take k) := by
  obtain ⟨ao', cap', e, h1, h2, h3, h4⟩ := h
  simp only [Value.slice.injEq] at e
  obtain ⟨rfl, rfl, rfl⟩ := e
  have hl : (ts.take k).length = k := by rw [List.length_take]; omega
  refine ⟨ao, cap, by rw [hl], by omega, by omega, h3, fun hp => ?_⟩
  obtain ⟨b, off, rfl, hb, hc⟩ := h4 (by omega)
  refine ⟨b, off, rfl, hb, fun i x hx => hc i x ?_⟩
  have hi : i < k := by have := (List.getElem?_eq_some_iff.1 hx).1; omega
  rwa [List.getElem?_take_of_lt hi] at hx

/-- The tail of texts. -/
theorem TextsR.tail {w : World} {B : Nat} {ao : Option Addr} {n cap : Nat} {ts : List ByteArray} (h : TextsR w B (.slice ao n cap) ts) {k : Nat} (hk : k ≤ ts.length) :
    (cap = k → TextsR w B (.slice ao (ts.length - k) 0) (ts.drop k)) ∧ (¬ cap = k → TextsR w B (.slice (ao.map (fun x => x.add k)) (ts.length - k) (cap - k)) (ts.drop k)) := by
  obtain ⟨ao', cap', e, h1, h2, h3, h4⟩ := h
  simp only [Value.slice.injEq] at e
  obtain ⟨rfl, rfl, rfl⟩ := e
  have hl : (ts.drop k).length = ts.length - k := List.length_drop
  refine ⟨fun hc => ?_, fun hc => ?_⟩
  · exact ⟨ao, 0, by rw [hl], by omega, by omega, fun _ => rfl, fun hp => by omega⟩
  · refine ⟨_, _, by rw [hl], by omega, by omega, fun hn => ?_, fun hp => ?_⟩
    · cases ao with
      | none => have := h3 rfl; omega
      | some a => cases hn
    · obtain ⟨b, off, rfl, hb, hcs⟩ := h4 (by omega)
      refine ⟨b, off + k, ?_, hb, fun i x hx => ?_⟩
      · simp only [Option.map_some, gadd]
      · rw [List.getElem?_drop] at hx
        have := hcs (k + i) x hx
        rwa [show off + (k + i) = off + k + i by omega] at this

/-- The texts of a value fit. -/
theorem TextsR.sizes {w : World} {B : Nat} {v : Value} {ts : List ByteArray} (h : TextsR w B v ts) : ∀ t ∈ ts, t.size ≤ 140737488351232 := by
  intro t ht
  obtain ⟨i, hi⟩ := List.mem_iff_getElem?.1 ht
  obtain ⟨ao, cap, rfl, h1, h2, h3, h4⟩ := h
  obtain ⟨b, off, rfl, hb, hc⟩ := h4 (by have := (List.getElem?_eq_some_iff.1 hi).1; omega)
  exact (hc i t hi).2

end Go.Proofs.YtijilhbdbeajjaaGreatDoor

namespace Go.Proofs.YtijilhbdbeajjaaGreatDoor

open Go.RowKit

theorem Hid.mk' {p : Prop} (h : p) : Hid p := h

/-- A lock, as plain data. -/
structure LockD where
  name : ByteArray
  holder : Int
  fence : Int
  line : List Int

/-- The value v reads in w as the numbers xs; its memory lies below block B. -/
def IntsR (w : World) (B : Nat) (v : Value) (xs : List Int) : Prop :=
  ∃ ao cap, v = .slice ao xs.length cap ∧ xs.length ≤ cap ∧ xs.length * 8 ≤ 140737488351232 ∧ (ao = none → cap = 0) ∧
    (0 < xs.length → ∃ b off, ao = some ⟨b, off, none⟩ ∧ b < B ∧ ∀ i x, xs[i]? = some x → w.cell? ⟨b, off + i, none⟩ = some (.int .i64 x))

/-- The lock x lies at ⟨b, o, none⟩. -/
def LockAt (w : World) (B : Nat) (b o : Nat) (x : LockD) : Prop :=
  ∃ lv, w.cell? ⟨b, o, none⟩ = some (.string x.name) ∧ w.cell? ⟨b, o + 1, none⟩ = some (.int .i64 x.holder) ∧ w.cell? ⟨b, o + 2, none⟩ = some (.int .i64 x.fence) ∧
    w.cell? ⟨b, o + 3, none⟩ = some lv ∧ IntsR w B lv x.line ∧ x.name.size ≤ 140737488351232

/-- The value v reads in w as the locks ls; all their memory lies below block B. -/
def LocksR (w : World) (B : Nat) (v : Value) (ls : List LockD) : Prop :=
  ∃ ao cap, v = .slice ao ls.length cap ∧ ls.length ≤ cap ∧ ls.length * 56 ≤ 140737488351232 ∧ (ao = none → cap = 0) ∧
    (0 < ls.length → ∃ b off, ao = some ⟨b, off, none⟩ ∧ b < B ∧ ∀ i x, ls[i]? = some x → LockAt w B b (off + i * 4) x)

theorem IntsR.below {w w' : World} {B : Nat} {v : Value} {xs : List Int} (h : IntsR w B v xs) {B' : Nat} (hb : Below B' w w') (hB : B ≤ B') : IntsR w' B v xs := by
  obtain ⟨ao, cap, rfl, h1, h2, h3, h4⟩ := h
  refine ⟨ao, cap, rfl, h1, h2, h3, fun hp => ?_⟩
  obtain ⟨b, off, rfl, hlt, hc⟩ := h4 hp
  exact ⟨b, off, rfl, hlt, fun i x hx => (hb.cell (p := ⟨b, off + i, none⟩) (by simp; omega)).trans (hc i x hx)⟩

theorem IntsR.mono {w : World} {B B' : Nat} {v : Value} {xs : List Int} (h : IntsR w B v xs) (hB : B ≤ B') : IntsR w B' v xs := by
  obtain ⟨ao, cap, rfl, h1, h2, h3, h4⟩ := h
  refine ⟨ao, cap, rfl, h1, h2, h3, fun hp => ?_⟩
  obtain ⟨b, off, rfl, hlt, hc⟩ := h4 hp
  exact ⟨b, off, rfl, by omega, hc⟩

theorem LockAt.below {w w' : World} {B b o : Nat} {x : LockD} (h : LockAt w B b o x) (hlt : b < B) {B' : Nat} (hb : Below B' w w') (hB : B ≤ B') : LockAt w' B b o x := by
  obtain ⟨lv, c0, c1, c2, c3, hl, hs⟩ := h
  have key : ∀ o', w'.cell? ⟨b, o', none⟩ = w.cell? ⟨b, o', none⟩ := fun o' => hb.cell (p := ⟨b, o', none⟩) (by simp; omega)
  exact ⟨lv, (key _).trans c0, (key _).trans c1, (key _).trans c2, (key _).trans c3, hl.below hb hB, hs⟩

theorem LockAt.mono {w : World} {B B' b o : Nat} {x : LockD} (h : LockAt w B b o x) (hB : B ≤ B') : LockAt w B' b o x := by
  obtain ⟨lv, c0, c1, c2, c3, hl, hs⟩ := h
  exact ⟨lv, c0, c1, c2, c3, hl.mono hB, hs⟩

theorem LocksR.below {w w' : World} {B : Nat} {v : Value} {ls : List LockD} (h : LocksR w B v ls) {B' : Nat} (hb : Below B' w w') (hB : B ≤ B') : LocksR w' B v ls := by
  obtain ⟨ao, cap, rfl, h1, h2, h3, h4⟩ := h
  refine ⟨ao, cap, rfl, h1, h2, h3, fun hp => ?_⟩
  obtain ⟨b, off, rfl, hlt, hc⟩ := h4 hp
  exact ⟨b, off, rfl, hlt, fun i x hx => (hc i x hx).below hlt hb hB⟩

theorem LocksR.mono {w : World} {B B' : Nat} {v : Value} {ls : List LockD} (h : LocksR w B v ls) (hB : B ≤ B') : LocksR w B' v ls := by
  obtain ⟨ao, cap, rfl, h1, h2, h3, h4⟩ := h
  refine ⟨ao, cap, rfl, h1, h2, h3, fun hp => ?_⟩
  obtain ⟨b, off, rfl, hlt, hc⟩ := h4 hp
  exact ⟨b, off, rfl, by omega, fun i x hx => (hc i x hx).mono hB⟩

theorem IntsR.len {w : World} {B : Nat} {v : Value} {xs : List Int} (h : IntsR w B v xs) : xs.length * 8 ≤ 140737488351232 := by
  obtain ⟨_, _, _, _, h2, _⟩ := h
  exact h2

theorem LocksR.len {w : World} {B : Nat} {v : Value} {ls : List LockD} (h : LocksR w B v ls) : ls.length * 56 ≤ 140737488351232 := by
  obtain ⟨_, _, _, _, h2, _⟩ := h
  exact h2

theorem drewN_below (B : Nat) (w : World) (n : Nat) : Below B w (w.drewN n) := ⟨rfl, rfl, rfl, Nat.le_refl _, fun _ _ => rfl⟩

end Go.Proofs.YtijilhbdbeajjaaGreatDoor
