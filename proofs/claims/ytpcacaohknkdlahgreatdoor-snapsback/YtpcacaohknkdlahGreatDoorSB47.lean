/- Plain mathematics of package codec: digits of seven bits and the two sums of a seal. It imports no program; The seal of bytes, and that one byte changed changes it. Plain mathematics; A state as bytes. Plain mathematics; no program; A state read from bytes: what is read, what is wrong first. Plain mathematics; no program; []byte(s), one byte of it changed, and back to a text; SnapsBack, walked, over contracts of snap.Encode and snap.Decode; The strings.Builder that lies in package snap's writer: a text is put behind what it has; all of it is told (joined by program) -/
import Derived.WalkKit
import Derived.ProofKit
import Derived.Laws.BytesArg
import Derived.Lib.ConvBytes
import Derived.Laws.IdiomStrings
import Derived.Test.YtpcacaohknkdlahGreatDoorSB12
import Derived.Test.YtpcacaohknkdlahGreatDoorSB43
import Derived.Test.YtpcacaohknkdlahGreatDoorSB44
import Derived.Test.YtpcacaohknkdlahGreatDoorSB46
import Derived.Test.YtpcacaohknkdlahGreatDoorSB00
namespace Go.Proofs.YtpcacaohknkdlahGreatDoor

open Go.RowKit

/-- The two sums of a seal over a list of bytes. -/
def sealGo (l : List UInt8) : Int × Int :=
  l.foldl (fun p c => ((p.1 + c.toNat) % 65521, (p.2 + (p.1 + c.toNat) % 65521) % 65521)) (1, 0)

theorem sealGo_snoc (l : List UInt8) (c : UInt8) :
    sealGo (l ++ [c]) = (((sealGo l).1 + c.toNat) % 65521, ((sealGo l).2 + ((sealGo l).1 + c.toNat) % 65521) % 65521) := by
  simp [sealGo]

theorem sealFold_bd (l : List UInt8) : ∀ p : Int × Int, (0 ≤ p.1 ∧ p.1 < 65521 ∧ 0 ≤ p.2 ∧ p.2 < 65521) →
    let q := l.foldl (fun p c => ((p.1 + (c.toNat : Int)) % 65521, (p.2 + (p.1 + (c.toNat : Int)) % 65521) % 65521)) p
    0 ≤ q.1 ∧ q.1 < 65521 ∧ 0 ≤ q.2 ∧ q.2 < 65521 := by
  induction l with
  | nil => intro p h; exact h
  | cons c l ih => intro p h; simp only [List.foldl_cons]; exact ih _ (by simp; omega)

theorem sealGo_bd (l : List UInt8) : 0 ≤ (sealGo l).1 ∧ (sealGo l).1 < 65521 ∧ 0 ≤ (sealGo l).2 ∧ (sealGo l).2 < 65521 :=
  sealFold_bd l (1, 0) (by simp)

theorem take_snoc (s : ByteArray) (k : Nat) (h : k < s.size) : s.data.toList.take (k + 1) = s.data.toList.take k ++ [s[k]] := by
  rw [List.take_succ_eq_append_getElem (by simpa using h)]; rfl

theorem take_all (s : ByteArray) (k : Nat) (h : s.size ≤ k) : s.data.toList.take k = s.data.toList :=
  List.take_of_length_le (by simpa using h)

end Go.Proofs.YtpcacaohknkdlahGreatDoor

namespace Go.Proofs.YtpcacaohknkdlahGreatDoor

open Go.RowKit

def sealOut (s : ByteArray) : ByteArray :=
  strOfNums [(sealGo s.data.toList).2 / 256, (sealGo s.data.toList).2 % 256, (sealGo s.data.toList).1 / 256, (sealGo s.data.toList).1 % 256]

/-- All bytes together. -/
def sumB (l : List UInt8) : Int := l.foldr (fun c a => (c.toNat : Int) + a) 0

theorem sealFold_sum (l : List UInt8) : ∀ p : Int × Int, (l.foldl (fun p c => ((p.1 + (c.toNat : Int)) % 65521, (p.2 + (p.1 + (c.toNat : Int)) % 65521) % 65521)) p).1 % 65521 = (p.1 + sumB l) % 65521 := by
  induction l with
  | nil => intro p; simp [sumB]
  | cons c l ih =>
    intro p
    rw [List.foldl_cons, ih]
    show ((p.1 + (c.toNat : Int)) % 65521 + sumB l) % 65521 = (p.1 + ((c.toNat : Int) + sumB l)) % 65521
    omega

theorem sealGo_sum (l : List UInt8) : (sealGo l).1 = (1 + sumB l) % 65521 := by
  have h := sealFold_sum l (1, 0)
  have hb := sealGo_bd l
  have e : (sealGo l).1 % 65521 = (1 + sumB l) % 65521 := h
  omega

theorem sumB_set (l : List UInt8) (i : Nat) (b : UInt8) (h : i < l.length) : sumB (l.set i b) = sumB l - ((l[i]'h).toNat : Int) + (b.toNat : Int) := by
  induction l generalizing i with
  | nil => simp at h
  | cons c l ih =>
    cases i with
    | zero => simp [sumB]; omega
    | succ i =>
      have hi : i < l.length := by simpa using h
      have := ih i hi
      simp only [sumB, List.set_cons_succ, List.foldr_cons, List.getElem_cons_succ] at this ⊢
      omega

theorem sealGo_set (l : List UInt8) (i : Nat) (b : UInt8) (h : i < l.length) (hne : b ≠ l[i]'h) : (sealGo (l.set i b)).1 ≠ (sealGo l).1 := by
  rw [sealGo_sum, sealGo_sum, sumB_set l i b h]
  have h1 := (l[i]'h).toNat_lt
  have h2 := b.toNat_lt
  have h3 : b.toNat ≠ (l[i]'h).toNat := fun e => hne (UInt8.toNat_inj.1 e)
  omega

theorem sealOut_size (s : ByteArray) : (sealOut s).size = 4 := strOfNums_size _

end Go.Proofs.YtpcacaohknkdlahGreatDoor

namespace Go.Proofs.YtpcacaohknkdlahGreatDoor

open Go.RowKit

/-- One behind another. -/
def catB (xs : List ByteArray) : ByteArray := xs.foldr (fun a b => a ++ b) ⟨#[]⟩

theorem catB_nil : catB [] = ⟨#[]⟩ := rfl

theorem catB_cons (a : ByteArray) (xs : List ByteArray) : catB (a :: xs) = a ++ catB xs := rfl

theorem nilB (t : ByteArray) : (⟨#[]⟩ : ByteArray) ++ t = t := by apply bytes_ext; simp

theorem bnil (t : ByteArray) : t ++ (⟨#[]⟩ : ByteArray) = t := by apply bytes_ext; simp

theorem catB_append (xs ys : List ByteArray) : catB (xs ++ ys) = catB xs ++ catB ys := by
  induction xs with
  | nil => rw [List.nil_append, catB_nil, nilB]
  | cons a xs ih => rw [List.cons_append, catB_cons, catB_cons, ih, ByteArray.append_assoc]

theorem catB_snoc (xs : List ByteArray) (a : ByteArray) : catB (xs ++ [a]) = catB xs ++ a := by rw [catB_append, catB_cons, catB_nil, bnil]

theorem catB_size {α : Type} (out : α → ByteArray) (m : Nat) (xs : List α) (h : ∀ x ∈ xs, (out x).size ≤ m) : (catB (xs.map out)).size ≤ xs.length * m := by
  induction xs with
  | nil => exact Nat.zero_le _
  | cons x xs ih =>
    have h1 := h x (by simp)
    have h2 := ih (fun y hy => h y (by simp [hy]))
    rw [List.map_cons, catB_cons, ByteArray.size_append, List.length_cons, Nat.add_mul]
    omega

def lockOut (k : LockD) : ByteArray := textOut k.name ++ (numOut k.holder ++ (numOut k.fence ++ (numOut k.line.length ++ catB (k.line.map numOut))))

def pairOut (p : PairD) : ByteArray := textOut p.name ++ (textOut p.value ++ numOut p.version)

def keptOut (k : KeptD) : ByteArray := numOut k.seq ++ (numOut k.code ++ (numOut k.n ++ textOut k.text))

def sessOut (x : SessD) : ByteArray := numOut x.client ++ (numOut x.id ++ (numOut x.acked ++ (numOut x.last ++ (numOut x.replies.length ++ catB (x.replies.map keptOut)))))

/-- The bytes of a state, without their seal. -/
def snapBody (s : StateD) : ByteArray :=
  numOut s.index ++ (numOut s.locks.length ++ (catB (s.locks.map lockOut) ++ (numOut s.pairs.length ++ (catB (s.pairs.map pairOut) ++ (numOut s.sess.length ++ catB (s.sess.map sessOut))))))

/-- The bytes of a state. -/
def snapOut (s : StateD) : ByteArray := snapBody s ++ sealOut (snapBody s)

theorem lockOut_le {k : LockD} (h : LockOk k) : (lockOut k).size ≤ 60 := by
  have hn := (nameB_yes h.name).2.1
  have h1 := textOut_le k.name 6 hn
  have h2 := numOut_le k.holder
  have h3 := numOut_le k.fence
  have h4 := numOut_le (k.line.length : Int)
  have h5 := catB_size numOut 6 k.line (fun x _ => numOut_le x)
  have h6 := h.line.len
  unfold lockOut
  simp only [ByteArray.size_append]
  omega

theorem pairOut_le {p : PairD} (h : nameB p.name = true ∧ p.value.size ≤ 12 ∧ 1 ≤ p.version ∧ p.version ≤ 1073741824) : (pairOut p).size ≤ 40 := by
  have hn := (nameB_yes h.1).2.1
  have h1 := textOut_le p.name 6 hn
  have h2 := textOut_le p.value 12 h.2.1
  have h3 := numOut_le p.version
  unfold pairOut
  simp only [ByteArray.size_append]
  omega

theorem keptOut_le {k : KeptD} (hk : keptB k = true) : (keptOut k).size ≤ 40 := by
  have hr := replyB_iff.1 hk
  have h1 := numOut_le k.seq
  have h2 := numOut_le k.code
  have h3 := numOut_le k.n
  have h4 := textOut_le k.text 12 hr.2.2.2.2
  unfold keptOut
  simp only [ByteArray.size_append]
  omega

theorem sessOut_le {i : Int} {x : SessD} (h : Fine i x) : (sessOut x).size ≤ 200 := by
  have hl := sformB_len h.form
  have hm := formFrom_mem h.form
  have h1 := numOut_le x.client
  have h2 := numOut_le x.id
  have h3 := numOut_le x.acked
  have h4 := numOut_le x.last
  have h5 := numOut_le (x.replies.length : Int)
  have h6 := catB_size keptOut 40 x.replies (fun k hk => keptOut_le (hm k hk).2.2)
  unfold sessOut
  simp only [ByteArray.size_append]
  omega

theorem snapBody_le {s : StateD} (h : GoodM s) : (snapBody s).size ≤ 2000 := by
  have hl := h.locks.len
  have hp := h.pairs.len
  have hs := h.sess.len
  have h1 := numOut_le s.index
  have h2 := numOut_le (s.locks.length : Int)
  have h3 := numOut_le (s.pairs.length : Int)
  have h4 := numOut_le (s.sess.length : Int)
  have h5 := catB_size lockOut 60 s.locks (fun k hk => lockOut_le (h.locks.each k hk).1)
  have h6 := catB_size pairOut 40 s.pairs (fun k hk => pairOut_le (h.pairs.each k hk))
  have h7 := catB_size sessOut 200 s.sess (fun k hk => sessOut_le (h.sess.fine k hk))
  unfold snapBody
  simp only [ByteArray.size_append]
  omega

theorem snapOut_size (s : StateD) : (snapOut s).size = (snapBody s).size + 4 := by unfold snapOut; rw [ByteArray.size_append, sealOut_size]

theorem snapOut_body (s : StateD) : (snapOut s).extract 0 ((snapOut s).size - 4) = snapBody s ∧ (snapOut s).extract ((snapOut s).size - 4) (snapOut s).size = sealOut (snapBody s) := by
  have hz := snapOut_size s
  rw [hz, Nat.add_sub_cancel]
  unfold snapOut
  constructor
  · apply bytes_ext
    simp only [ByteArray.data_extract, ByteArray.data_append, Array.toList_extract, Array.toList_append, List.extract_eq_take_drop, List.drop_zero, Nat.sub_zero]
    rw [List.take_append_of_le_length (by simp), List.take_of_length_le (by simp)]
  · apply bytes_ext
    have h4 := sealOut_size (snapBody s)
    simp only [ByteArray.data_extract, ByteArray.data_append, Array.toList_extract, Array.toList_append, List.extract_eq_take_drop]
    rw [List.drop_append_of_le_length (by simp), List.drop_of_length_le (by simp), List.nil_append, List.take_of_length_le (by rw [size_list]; omega)]

end Go.Proofs.YtpcacaohknkdlahGreatDoor

namespace Go.Proofs.YtpcacaohknkdlahGreatDoor

open Go.RowKit

/-- How many: at most so many. -/
def stepM (most : Int) (r : ByteArray × Int) : Int × ByteArray × Int :=
  if (stepN r).2.2 = 0 then (if most < (stepN r).1 then (0, (stepN r).2.1, 1) else stepN r) else (0, (stepN r).2)

/-- So many things, one behind another. -/
def rowR {α : Type} (f : ByteArray × Int → α × ByteArray × Int) : Nat → ByteArray × Int → List α × ByteArray × Int
  | 0, r => ([], r)
  | n + 1, r => ((f r).1 :: (rowR f n (f r).2).1, (rowR f n (f r).2).2)

theorem rowR_snoc {α : Type} (f : ByteArray × Int → α × ByteArray × Int) (n : Nat) (r : ByteArray × Int) : rowR f (n + 1) r = ((rowR f n r).1 ++ [(f (rowR f n r).2).1], (f (rowR f n r).2).2) := by
  induction n generalizing r with
  | zero => rfl
  | succ n ih =>
    have e := ih (f r).2
    show ((f r).1 :: (rowR f (n + 1) (f r).2).1, (rowR f (n + 1) (f r).2).2) = _
    rw [e]
    rfl

theorem rowR_length {α : Type} (f : ByteArray × Int → α × ByteArray × Int) (n : Nat) (r : ByteArray × Int) : (rowR f n r).1.length = n := by
  induction n generalizing r with
  | zero => rfl
  | succ n ih => simp [rowR, ih]

theorem rowR_all {α : Type} {f : ByteArray × Int → α × ByteArray × Int} {out : α → ByteArray} (xs : List α) (h : ∀ x ∈ xs, ∀ t, f (out x ++ t, 0) = (x, t, 0)) (t : ByteArray) : rowR f xs.length (catB (xs.map out) ++ t, 0) = (xs, t, 0) := by
  induction xs with
  | nil => rw [List.map_nil, catB_nil, nilB]; rfl
  | cons x xs ih =>
    rw [List.length_cons, List.map_cons, catB_cons, ByteArray.append_assoc]
    unfold rowR
    rw [h x (by simp), ih (fun y hy => h y (by simp [hy]))]

def lockR (r : ByteArray × Int) : LockD × ByteArray × Int :=
  let a := stepT r
  let b := stepN a.2
  let c := stepN b.2
  let m := stepM 3 c.2
  let l := rowR stepN m.1.toNat m.2
  (⟨a.1, b.1, c.1, l.1⟩, l.2)

def pairR (r : ByteArray × Int) : PairD × ByteArray × Int :=
  let a := stepT r
  let b := stepT a.2
  let c := stepN b.2
  (⟨a.1, b.1, c.1⟩, c.2)

def keptR (r : ByteArray × Int) : KeptD × ByteArray × Int :=
  let a := stepN r
  let b := stepN a.2
  let c := stepN b.2
  let d := stepT c.2
  (⟨a.1, b.1, c.1, d.1⟩, d.2)

def sessR (r : ByteArray × Int) : SessD × ByteArray × Int :=
  let a := stepN r
  let b := stepN a.2
  let c := stepN b.2
  let d := stepN c.2
  let m := stepM 4 d.2
  let l := rowR keptR m.1.toNat m.2
  (⟨a.1, b.1, c.1, d.1, l.1⟩, l.2)

/-- A state, read. -/
def snapR (r : ByteArray × Int) : StateD × ByteArray × Int :=
  let a := stepN r
  let m := stepM 5 a.2
  let l := rowR lockR m.1.toNat m.2
  let n := stepM 5 l.2
  let p := rowR pairR n.1.toNat n.2
  let k := stepM 4 p.2
  let x := rowR sessR k.1.toNat k.2
  (⟨a.1, l.1, p.1, x.1⟩, x.2)

/-- What Decode refuses. -/
def snapE (s : ByteArray) : Int :=
  if 5000 < s.size then 1 else if s.size < 4 then 5 else if sealOut (s.extract 0 (s.size - 4)) ≠ s.extract (s.size - 4) s.size then 15
  else if endE (snapR (s.extract 0 (s.size - 4), 0)).2 ≠ 0 then endE (snapR (s.extract 0 (s.size - 4), 0)).2 else checkM (snapR (s.extract 0 (s.size - 4), 0)).1

/-- What Decode answers. -/
def snapL (s : ByteArray) : StateD := if snapE s = 0 then (snapR (s.extract 0 (s.size - 4), 0)).1 else ⟨0, [], [], []⟩

theorem num_all {n : Int} (h0 : 0 ≤ n) (h1 : n ≤ 1099511627776) (t : ByteArray) : stepN (numOut n ++ t, 0) = (n, t, 0) := stepN_all (part_num n h0 h1) t

theorem text_all {u : ByteArray} (h : u.size ≤ 5000) (t : ByteArray) : stepT (textOut u ++ t, 0) = (u, t, 0) := stepT_all (part_text u h) t

theorem many_all {n : Nat} {most : Int} (h : (n : Int) ≤ most) (hm : most ≤ 1000) (t : ByteArray) : stepM most (numOut n ++ t, 0) = ((n : Int), t, 0) := by
  unfold stepM
  rw [num_all (by omega) (by omega), if_pos rfl, if_neg (by show ¬ most < (n : Int); omega)]

theorem lock_all {k : LockD} (h : LockOk k) (h1 : 1 ≤ k.fence) (h2 : k.fence ≤ 1073741824) (t : ByteArray) : lockR (lockOut k ++ t, 0) = (k, t, 0) := by
  have hn := (nameB_yes h.name).2.1
  have hl := h.line.len
  unfold lockR lockOut
  simp only [ByteArray.append_assoc]
  rw [text_all (by omega)]
  simp only
  rw [num_all h.low (by have := h.high; omega)]
  simp only
  rw [num_all (by omega) (by omega)]
  simp only
  rw [many_all (by omega) (by omega)]
  simp only [Int.toNat_natCast]
  rw [rowR_all k.line (fun x hx t => num_all (by have := h.line.each x hx; omega) (by have := h.line.each x hx; omega) t)]

theorem pair_all {p : PairD} (h : nameB p.name = true ∧ p.value.size ≤ 12 ∧ 1 ≤ p.version ∧ p.version ≤ 1073741824) (t : ByteArray) : pairR (pairOut p ++ t, 0) = (p, t, 0) := by
  have hn := (nameB_yes h.1).2.1
  unfold pairR pairOut
  simp only [ByteArray.append_assoc]
  rw [text_all (by omega)]
  simp only
  rw [text_all (by omega)]
  simp only
  rw [num_all (by omega) (by omega)]

theorem kept_all {k : KeptD} (h0 : 0 ≤ k.seq) (h1 : k.seq ≤ 1073741824) (hk : keptB k = true) (t : ByteArray) : keptR (keptOut k ++ t, 0) = (k, t, 0) := by
  have hr := replyB_iff.1 hk
  unfold keptR keptOut
  simp only [ByteArray.append_assoc]
  rw [num_all h0 (by omega)]
  simp only
  rw [num_all (by omega) (by omega)]
  simp only
  rw [num_all (by omega) (by omega)]
  simp only
  rw [text_all (by omega)]

theorem sess_all {i : Int} {x : SessD} (hi : i ≤ 1073741824) (h : Fine i x) (t : ByteArray) : sessR (sessOut x ++ t, 0) = (x, t, 0) := by
  have hr := rangeB_iff.1 h.range
  have hl := sformB_len h.form
  have hm := formFrom_mem h.form
  unfold sessR sessOut
  simp only [ByteArray.append_assoc]
  rw [num_all (by omega) (by omega)]
  simp only
  rw [num_all (by omega) (by omega)]
  simp only
  rw [num_all (by omega) (by omega)]
  simp only
  rw [num_all (by omega) (by omega)]
  simp only
  rw [many_all (by omega) (by omega)]
  simp only [Int.toNat_natCast]
  rw [rowR_all x.replies (fun k hk t => kept_all (by have := hm k hk; omega) (by have := hm k hk; omega) (hm k hk).2.2 t)]

/-- A state is read as it was written. -/
theorem snapR_all {s : StateD} (h : GoodM s) (t : ByteArray) : snapR (snapBody s ++ t, 0) = (s, t, 0) := by
  have h0 := h.sess.low
  have h1 := h.sess.high
  have hl := h.locks.len
  have hp := h.pairs.len
  have hs := h.sess.len
  unfold snapR snapBody
  simp only [ByteArray.append_assoc]
  rw [num_all h0 (by omega)]
  simp only
  rw [many_all (by omega) (by omega)]
  simp only [Int.toNat_natCast]
  rw [rowR_all s.locks (fun k hk t => lock_all (h.locks.each k hk).1 (h.locks.each k hk).2.1 (h.locks.each k hk).2.2 t)]
  simp only
  rw [many_all (by omega) (by omega)]
  simp only [Int.toNat_natCast]
  rw [rowR_all s.pairs (fun k hk t => pair_all (h.pairs.each k hk) t)]
  simp only
  rw [many_all (by omega) (by omega)]
  simp only [Int.toNat_natCast]
  rw [rowR_all s.sess (fun k hk t => sess_all h1 (h.sess.fine k hk) t)]

/-- What was written is read. -/
theorem snap_all {s : StateD} (h : GoodM s) : snapE (snapOut s) = 0 ∧ snapL (snapOut s) = s := by
  have hz := snapOut_size s
  have hb := snapBody_le h
  obtain ⟨e1, e2⟩ := snapOut_body s
  have er : snapR (snapBody s, 0) = (s, ⟨#[]⟩, 0) := by
    have := snapR_all h ⟨#[]⟩
    rwa [bnil] at this
  have he : snapE (snapOut s) = 0 := by
    unfold snapE
    rw [if_neg (by omega), if_neg (by omega), e1, e2, if_neg (by simp), er]
    have : endE ((⟨#[]⟩ : ByteArray), (0 : Int)) = 0 := rfl
    simp only [this]
    rw [if_neg (by simp)]
    exact h.check
  refine ⟨he, ?_⟩
  unfold snapL
  rw [if_pos he, e1, er]

/-- Another first sum, another seal. -/
theorem sealOut_ne {a b : ByteArray} (h : (sealGo a.data.toList).1 ≠ (sealGo b.data.toList).1) : sealOut a ≠ sealOut b := by
  intro e
  have ha := sealGo_bd a.data.toList
  have hb := sealGo_bd b.data.toList
  unfold sealOut strOfNums at e
  simp only [ByteArray.mk.injEq, List.map_cons, List.map_nil, Array.mk.injEq, List.cons.injEq, and_true] at e
  obtain ⟨-, -, e1, e2⟩ := e
  have k : ∀ x : Int, 0 ≤ x → x < 256 → ∀ y : Int, 0 ≤ y → y < 256 → UInt8.ofNat x.toNat = UInt8.ofNat y.toNat → x = y := by
    intro x h0 h1 y h2 h3 e
    have := congrArg UInt8.toNat e
    simp only [UInt8.toNat_ofNat'] at this
    omega
  have q1 := k _ (by omega) (by omega) _ (by omega) (by omega) e1
  have q2 := k _ (by omega) (by omega) _ (by omega) (by omega) e2
  omega

/-- One byte changed: the seal is not that of what is ahead. -/
theorem snap_spoilt {s : StateD} (h : GoodM s) (t : ByteArray) (i : Nat) (b : UInt8) (hi : i < (snapOut s).data.toList.length) (hb : b ≠ (snapOut s).data.toList[i]) (ht : t.data.toList = (snapOut s).data.toList.set i b) : snapE t = 15 := by
  have hz := snapOut_size s
  have hle := snapBody_le h
  have hzt : t.size = (snapBody s).size + 4 := by rw [← size_list t, ht, List.length_set, size_list, hz]
  have hl : (snapBody s).data.toList.length = (snapBody s).size := size_list _
  have h4 : (sealOut (snapBody s)).data.toList.length = 4 := by rw [size_list, sealOut_size]
  have e0 : (snapOut s).data.toList = (snapBody s).data.toList ++ (sealOut (snapBody s)).data.toList := by
    unfold snapOut
    simp
  have x1 : (t.extract 0 (t.size - 4)).data.toList = t.data.toList.take (snapBody s).size := by
    rw [hzt, Nat.add_sub_cancel]
    simp [List.extract_eq_take_drop]
  have x2 : (t.extract (t.size - 4) t.size).data.toList = t.data.toList.drop (snapBody s).size := by
    have hq : t.data.toList.length = (snapBody s).size + 4 := by rw [size_list, hzt]
    rw [hzt, Nat.add_sub_cancel]
    simp only [ByteArray.data_extract, Array.toList_extract, List.extract_eq_take_drop]
    exact List.take_of_length_le (by rw [List.length_drop]; omega)
  unfold snapE
  rw [if_neg (by omega), if_neg (by omega), if_pos]
  by_cases hlt : i < (snapBody s).size
  · have y1 : t.data.toList.take (snapBody s).size = (snapBody s).data.toList.set i b := by
      rw [ht, e0, List.set_append_left _ _ (by omega), List.take_append_of_le_length (by rw [List.length_set]; omega), List.take_of_length_le (by rw [List.length_set]; omega)]
    have y2 : t.extract (t.size - 4) t.size = sealOut (snapBody s) := by
      apply bytes_ext
      rw [x2, ht, e0, List.set_append_left _ _ (by omega), List.drop_append_of_le_length (by rw [List.length_set]; omega), List.drop_of_length_le (by rw [List.length_set]; omega), List.nil_append]
    rw [y2]
    refine sealOut_ne ?_
    rw [x1, y1]
    refine sealGo_set _ _ _ (by omega) ?_
    intro e
    apply hb
    rw [e]
    simp only [e0]
    rw [List.getElem_append_left (by omega)]
  · have y1 : t.extract 0 (t.size - 4) = snapBody s := by
      apply bytes_ext
      rw [x1, ht, e0, List.set_append_right _ _ (by omega), List.take_append_of_le_length (by omega), List.take_of_length_le (by omega)]
    rw [y1]
    intro e
    have e' := congrArg (fun z : ByteArray => z.data.toList) e
    simp only [x2] at e'
    rw [ht, e0, List.set_append_right _ _ (by omega), List.drop_append_of_le_length (by omega), List.drop_of_length_le (by omega), List.nil_append] at e'
    have hi4 : i - (snapBody s).data.toList.length < 4 := by rw [size_list, hz] at hi; omega
    have : (_ : List UInt8)[i - (snapBody s).data.toList.length]? = (_ : List UInt8)[i - (snapBody s).data.toList.length]? := congrArg (fun l : List UInt8 => l[i - (snapBody s).data.toList.length]?) e'
    rw [List.getElem?_set_self (by omega), List.getElem?_eq_getElem (by omega)] at this
    apply hb
    simp only [e0]
    rw [List.getElem_append_right (by omega)]
    exact (Option.some.inj this).symm

/-- Fewer than four bytes. -/
theorem snap_short {s : ByteArray} (h : s.size < 4) : snapE s = 5 := by
  unfold snapE
  rw [if_neg (by omega), if_pos h]

end Go.Proofs.YtpcacaohknkdlahGreatDoor

namespace Go.Proofs.YtpcacaohknkdlahGreatDoor

open Go.RowKit

theorem bytes_below (w : World) (e : TypeId) (s : ByteArray) : Below w.heap.size w (Lib.bytesWorld w e s) :=
  ⟨by simp [Lib.bytesWorld, World.freeze, World.alloc, World.drew, -World.alloc_eq, -World.drew_eq], by simp [Lib.bytesWorld, World.freeze, World.alloc, World.drew, -World.alloc_eq, -World.drew_eq], by simp [Lib.bytesWorld, World.freeze, World.alloc, World.drew, -World.alloc_eq, -World.drew_eq], by rw [Lib.bytesWorld_size]; omega, fun k hk => Lib.bytesWorld_at_old w e s k hk⟩

theorem setB_size (s : ByteArray) (i : Nat) (x : UInt8) : (⟨(s.data.toList.set i x).toArray⟩ : ByteArray).size = s.size := by
  rw [← size_list, ← size_list]
  show (s.data.toList.set i x).length = s.data.toList.length
  exact List.length_set

theorem wrapU8 (n : Int) : IntKind.u8.wrap n = n % 256 := by
  unfold IntKind.wrap
  simp [IntKind.bits, IntKind.signed]

theorem front3 {s : ByteArray} (h : 4 ≤ s.size) : (s.extract 0 3).size = 3 := by
  rw [ByteArray.size_extract]
  omega

/-- What '[]byte(s)' laid. -/
structure BytesB (w : World) (g : Nat) (e : TypeId) (s : ByteArray) : Prop where
  block : ∃ cs fr, w.heap[g]? = some (.cells cs e fr) ∧ s.size ≤ fr.1
  cells : ∀ j, j < s.size → w.cell? ⟨g, j, none⟩ = some (.int .u8 (s.data.toList.getD j 0).toNat)

theorem BytesB.new (w : World) (e : TypeId) (s : ByteArray) : BytesB (Lib.bytesWorld w e s) w.heap.size e s :=
  ⟨⟨_, _, Lib.bytesWorld_at_new w e s, by simp [Lib.bytesCells]⟩, fun j hj => Lib.bytesWorld_cell w e s j hj⟩

theorem BytesB.lt {w : World} {g : Nat} {e : TypeId} {s : ByteArray} (h : BytesB w g e s) : g < w.heap.size := by
  obtain ⟨cs, fr, hb, -⟩ := h.block
  exact (Array.getElem?_eq_some_iff.1 hb).1

theorem BytesB.below {w w' : World} {g : Nat} {e : TypeId} {s : ByteArray} (h : BytesB w g e s) (hb : Below w.heap.size w w') : BytesB w' g e s := by
  obtain ⟨cs, fr, hg, hf⟩ := h.block
  have hl := h.lt
  exact ⟨⟨cs, fr, (hb.block g hl).trans hg, hf⟩, fun j hj => (hb.cell (p := ⟨g, j, none⟩) hl).trans (h.cells j hj)⟩

theorem BytesB.frozen {w : World} {g : Nat} {e : TypeId} {s : ByteArray} (h : BytesB w g e s) {j : Nat} (hj : j < s.size) : w.frozen? ⟨g, j, none⟩ = false := by
  obtain ⟨cs, fr, hg, hf⟩ := h.block
  unfold World.frozen?
  rw [hg]
  simp
  omega

/-- The bytes behind one store. -/
theorem BytesB.set {w : World} {g : Nat} {e : TypeId} {s : ByteArray} (h : BytesB w g e s) {i : Nat} (hi : i < s.size) (x : UInt8) (j : Nat) (hj : j < (s.data.toList.set i x).length) : (w.setCell ⟨g, i, none⟩ (.int .u8 (x.toNat : Int))).cell? ((⟨g, 0, none⟩ : Addr).add j) = some (.int .u8 ((s.data.toList.set i x)[j].toNat : Int)) := by
  obtain ⟨cs, fr, hg, hf⟩ := h.block
  rw [gadd, Nat.zero_add]
  have hjs : j < s.size := by rw [List.length_set, size_list] at hj; exact hj
  have hc := h.cells j hjs
  have hcell : ∀ k, w.cell? ⟨g, k, none⟩ = cs[k]? := fun k => cell_of_row w g k _ _ _ hg
  have hset : (w.setCell ⟨g, i, none⟩ (.int .u8 (x.toNat : Int))).heap[g]? = some (.cells (cs.setIfInBounds i (.int .u8 (x.toNat : Int))) e fr) := by
    simp only [World.setCell]
    rw [Array.getElem?_modify, hg]
    simp
  rw [cell_of_row _ g j _ _ _ hset]
  have hil : i < cs.size := by
    have := h.cells i hi
    rw [hcell] at this
    exact (Array.getElem?_eq_some_iff.1 this).1
  by_cases e : i = j
  · subst e
    rw [Array.getElem?_setIfInBounds_self_of_lt hil]
    simp
  · rw [Array.getElem?_setIfInBounds_ne e, ← hcell, hc, List.getElem_set_ne e]
    simp [List.getD_eq_getElem?_getD, List.getElem?_eq_getElem (by rw [size_list]; exact hjs : j < s.data.toList.length)]

end Go.Proofs.YtpcacaohknkdlahGreatDoor

namespace Go.Proofs.YtpcacaohknkdlahGreatDoor

open Go.RowKit

/-- What is asked of snap.Encode and snap.Decode. -/
structure SnapC : Prop where
  enc : ∀ (v : Value) (s : StateD) (w : World) (B : Nat), StateR w B v s → B ≤ w.heap.size → checkM s = 0 →
    Calls Tryz.prog 7 #[v] w fun e w' => e = .returned (.tuple #[.string (snapOut s), .int .i64 0]) ∧ Below w.heap.size w w'
  dec : ∀ (t : ByteArray) (w : World), t.size ≤ 140737488351232 →
    Calls Tryz.prog 8 #[.string t] w fun e w' => ∃ v', e = .returned (.tuple #[v', .int .i64 (snapE t)]) ∧ StateR w' w'.heap.size v' (snapL t) ∧ Below w.heap.size w w'

theorem StateR.shape {w : World} {B : Nat} {v : Value} {s : StateD} (h : StateR w B v s) : ∃ lo ln lc po pn pc so sn sc, v = .agg #[.int .i64 s.index, .slice lo ln lc, .slice po pn pc, .slice so sn sc] := by
  obtain ⟨lv, pv, sv, rfl, h1, h2, h3⟩ := h
  obtain ⟨lo, lc, rfl, -⟩ := h1
  obtain ⟨po, pc, rfl, -⟩ := h2
  obtain ⟨so, sc, rfl, -⟩ := h3
  exact ⟨_, _, _, _, _, _, _, _, _, rfl⟩

set_option maxRecDepth 100000 in
set_option maxHeartbeats 6400000 in
theorem snapsBack_walk (hC : SnapC) (v : Value) (rs : List RawD) (a1 a2 : Int) (w : World) (hv : RawsR w w.heap.size v rs) (f1 : -9223372036854775808 ≤ a1 ∧ a1 ≤ 9223372036854775807) (f2 : 0 ≤ a2 ∧ a2 ≤ 255) :
    Calls Tryz.prog 3 #[v, .int .i64 a1, .int .u8 a2] w fun e w' => e = .returned (.bool true) ∧ Below w.heap.size w w' := by
  have CC : Hid (Calls Tryz.prog 6 #[v, .int .i64 60] w fun e w' => ∃ (vo : Value) (out : List CmdD), e = .returned vo ∧ w'.ownsRow w.heap.size 49 9 vo out.length (flatC out) ∧ out.length = min rs.length 60 ∧ (∀ x ∈ out, KeepX 60 x) ∧ Below w.heap.size w w') := commands_upto 60 (by omega) v rs w hv
  have HC := ghid hC
  obtain ⟨ao, cap, rfl, h1, h2, h3, h4⟩ := hv
  obtain ⟨f2a, f2b⟩ := f2
  have HF1 := ghid f1
  clear h3 h4 hC f1
  go_enter Tryz.func3, Tryz.ntmps3
  go_wp2_with fail
  refine CC.out.mono ?_
  rintro e w1 ⟨vo1, out, rfl, hrow, hlen, hok, hb1⟩
  have hok' : ∀ x ∈ out, x.err = 0 := fun x hx => (hok x hx).err
  have CE := ghid (entries_any vo1 out w1 w.heap.size hrow hok' (by omega))
  have HOK := ghid hok'
  have HLEN := ghid hlen
  obtain ⟨oo, oc, rfl⟩ := crow_shape hrow
  have HB1 := ghid hb1
  clear hrow hlen hok hok' hb1 CC
  go_wp2_with fail
  refine CE.out.mono ?_
  rintro e w2 ⟨vo2, rfl, hown2, hb2⟩
  have htx := texts_reads hown2 (fun t ht => by obtain ⟨x, hx, rfl⟩ := List.mem_map.1 ht; have := cmdOut_size x (HOK.out x hx); omega) (by rw [List.length_map]; have := HLEN.out; omega) (Nat.le_refl _)
  have CA := ghid (applied_any vo2 out w2 w2.heap.size htx (Nat.le_refl _) HOK.out (by have := HLEN.out; omega))
  have hgg := runM_good out HOK.out (by have := HLEN.out; omega) out.length (Nat.le_refl _)
  rw [List.take_length] at hgg
  obtain ⟨vo2', vc2', rfl⟩ := htx.slice
  rw [List.length_map] at CA ⊢
  have HB2 := ghid (HB1.out.trans (hb2.mono HB1.out.size))
  have HGG := ghid hgg.1
  obtain ⟨s, hs⟩ : ∃ s, s = runM out := ⟨_, rfl⟩
  rw [← hs] at CA HGG
  clear hown2 hb2 htx hs hgg CE
  go_wp2_with fail
  refine CA.out.mono ?_
  rintro e w3 ⟨v3, rfl, ho3, hb3⟩
  obtain ⟨lo, po, so, ln, lc, pn, pc, sn, sc, rfl, -⟩ := id ho3
  have hb4 := (HB2.out.trans (hb3.mono HB2.out.size)).alloc (by have := HB2.out.size; have := hb3.size; omega) (.cells #[.int .i64 s.index, .slice lo ln lc, .slice po pn pc, .slice so sn sc] 27)
  have ho4 := (ho3.below ((Below.refl w3.heap.size w3).alloc (Nat.le_refl _) (.cells #[.int .i64 s.index, .slice lo ln lc, .slice po pn pc, .slice so sn sc] 27))).reads
  have hbx4 : (w3.alloc (.cells #[.int .i64 s.index, .slice lo ln lc, .slice po pn pc, .slice so sn sc] 27)).heap[w3.heap.size]? = some (.cells #[.int .i64 s.index, .slice lo ln lc, .slice po pn pc, .slice so sn sc] 27 (0, 0)) := heap_alloc_new w3 _
  obtain ⟨W4, hW4⟩ : ∃ W4, W4 = w3.alloc (.cells #[.int .i64 s.index, .slice lo ln lc, .slice po pn pc, .slice so sn sc] 27) := ⟨_, rfl⟩
  obtain ⟨p, hp⟩ : ∃ p, p = w3.heap.size := ⟨_, rfl⟩
  rw [← hW4] at hb4 ho4 hbx4
  rw [← hp] at hbx4
  have HB4 := ghid hb4
  have HW4 := ghid hW4
  have HP4 := ghid hp
  have HX4 := ghid hbx4
  obtain ⟨e0, e1, e2, e3, ef, hpl4⟩ := state_cells hbx4
  have CE1 := ghid (HC.out.enc _ s W4 W4.heap.size ho4 (Nat.le_refl _) HGG.out.check)
  have hsz := snapOut_size s
  have hle := snapBody_le HGG.out
  obtain ⟨hE0, hL0⟩ := snap_all HGG.out
  have HSP := ghid (fun t i b hi hb ht => snap_spoilt HGG.out t i b hi hb ht)
  obtain ⟨bt, hbt⟩ : ∃ bt, bt = snapOut s := ⟨_, rfl⟩
  rw [← hbt] at CE1 hsz hE0 hL0 HSP
  have HBT := ghid hbt
  have hz4 : 4 ≤ bt.size := by omega
  have hz9 : bt.size ≤ 2004 := by omega
  have HE0 := ghid hE0
  have HL0 := ghid hL0
  clear ho3 hb3 hb4 ho4 hbx4 hW4 hp CA hsz hle hE0 hL0 hbt
  go_upto_region 2 with fail
  rw [← HW4.out, ← HP4.out]
  clear HW4 HP4
  go_wp2_with fail
  refine CE1.out.mono ?_
  rintro e w5 ⟨rfl, hb5⟩
  have hx5 := behind HX4.out (Below.refl _ _) hb5
  have HX5 := ghid hx5
  have HB5 := ghid (HB4.out.trans (hb5.mono HB4.out.size))
  have CD1 := ghid (HC.out.dec bt w5 (by omega))
  rw [HE0.out, HL0.out] at CD1
  clear hb5 hx5 CE1 e0 e1 e2 e3 ef hpl4
  go_wp2_with fail
  refine CD1.out.mono ?_
  rintro e w6 ⟨v6, rfl, hr6, hb6⟩
  obtain ⟨lo6, ln6, lc6, po6, pn6, pc6, so6, sn6, sc6, rfl⟩ := hr6.shape
  have hba6 : Below w6.heap.size w6 (w6.alloc (.cells #[.int .i64 s.index, .slice lo6 ln6 lc6, .slice po6 pn6 pc6, .slice so6 sn6 sc6] 27)) := (Below.refl _ _).alloc (Nat.le_refl _) _
  have hx6 := behind (behind HX5.out (Below.refl _ _) hb6) (Below.refl _ _) hba6
  have hy6 := heap_alloc_new w6 (.cells #[.int .i64 s.index, .slice lo6 ln6 lc6, .slice po6 pn6 pc6, .slice so6 sn6 sc6] 27)
  have hr6' := hr6.below hba6 (Nat.le_refl _)
  have hB6 := HB5.out.trans ((hb6.trans (hba6.mono hb6.size)).mono HB5.out.size)
  obtain ⟨W6, hW6⟩ : ∃ W6, W6 = w6.alloc (.cells #[.int .i64 s.index, .slice lo6 ln6 lc6, .slice po6 pn6 pc6, .slice so6 sn6 sc6] 27) := ⟨_, rfl⟩
  obtain ⟨p6, hp6⟩ : ∃ p6, p6 = w6.heap.size := ⟨_, rfl⟩
  rw [← hW6] at hx6 hy6 hr6' hB6 hba6
  rw [← hp6] at hy6
  have HX6 := ghid hx6
  have HY6 := ghid hy6
  have HB6 := ghid hB6
  have HW6 := ghid hW6
  have HP6 := ghid hp6
  have CE2 := ghid (HC.out.enc _ s W6 w6.heap.size hr6' hba6.size HGG.out.check)
  rw [← HBT.out] at CE2
  clear hr6 hr6' hb6 hba6 hx6 hB6 hW6 hp6 CD1
  go_upto_region 4 with fail
  rw [← HW6.out, ← HP6.out]
  clear HW6 HP6
  obtain ⟨e0, e1, e2, e3, ef, hpl6⟩ := state_cells hy6
  go_wp2_with fail
  refine CE2.out.mono ?_
  rintro e w7 ⟨rfl, hb7⟩
  have HX7 := ghid (behind HX6.out (Below.refl _ _) hb7)
  have HY7 := ghid (behind HY6.out (Below.refl _ _) hb7)
  have HB7 := ghid (HB6.out.trans (hb7.mono HB6.out.size))
  clear hb7 CE2 e0 e1 e2 e3 ef hpl6 hy6
  have hcv : ∀ W : World, (convert 9 39 (.string bt)).run Tryz.prog W = .ok (.slice (some ⟨W.heap.size, 0, none⟩) bt.size (grownCap W bt.size 0 5)) (Lib.bytesWorld W 5 bt) := fun W => Lib.run_convert_string_bytes W 9 39 5 bt Tryz.underlying9 Tryz.underlying39 Tryz.underlying5
  have hb8 := bytes_below w7 5 bt
  have hy8 := BytesB.new w7 5 bt
  have HX8 := ghid (behind HX7.out (Below.refl _ _) hb8)
  have HY8 := ghid (behind HY7.out (Below.refl _ _) hb8)
  have HB8 := ghid (HB7.out.trans (hb8.mono HB7.out.size))
  obtain ⟨W8, hW8⟩ : ∃ W8, W8 = Lib.bytesWorld w7 5 bt := ⟨_, rfl⟩
  obtain ⟨g, hg⟩ : ∃ g, g = w7.heap.size := ⟨_, rfl⟩
  obtain ⟨cp, hcp⟩ : ∃ cp, cp = grownCap w7 bt.size 0 5 := ⟨_, rfl⟩
  rw [← hW8] at hb8 hy8 HX8 HY8 HB8
  rw [← hg] at hy8
  have HW8 := ghid hW8
  have HG8 := ghid hg
  have HCP := ghid hcp
  have hz7 := hb8.size
  have hgl : g < W8.heap.size := hy8.lt
  have hgw : w.heap.size ≤ g := by rw [hg]; exact HB7.out.size
  have hpg : p ≠ g := by rw [hg]; have := (Array.getElem?_eq_some_iff.1 HX7.out).1; omega
  have hpg6 : p6 ≠ g := by rw [hg]; have := (Array.getElem?_eq_some_iff.1 HY7.out).1; omega
  clear hb8 hW8 hg hcp hz7
  -- the place that is changed
  have hpk := pickZ_bd a1 (bt.size : Int) (by omega)
  have CP := ghid (fun w => picked_any a1 (bt.size : Int) w HF1.out.1 HF1.out.2 (by omega) (by omega))
  obtain ⟨iN, hiN⟩ : ∃ iN : Nat, (iN : Int) = pickZ a1 (bt.size : Int) := ⟨(pickZ a1 (bt.size : Int)).toNat, by omega⟩
  rw [← hiN] at CP hpk
  have hib : iN < bt.size := by omega
  have hcell := hy8.cells iN hib
  have hfz := hy8.frozen hib
  have hc255 := (bt.data.toList.getD iN 0).toNat_lt
  obtain ⟨c, hc⟩ : ∃ c : Nat, c = (bt.data.toList.getD iN 0).toNat := ⟨_, rfl⟩
  rw [← hc] at hcell hc255
  obtain ⟨x, hx⟩ : ∃ x : UInt8, (x.toNat : Int) = ((c : Int) + a2) % 256 := ⟨UInt8.ofNat (((c : Int) + a2) % 256).toNat, by
    rw [UInt8.toNat_ofNat']
    omega⟩
  have hwrap : IntKind.u8.wrap ((c : Int) + a2) = (x.toNat : Int) := by rw [hx, wrapU8]
  have HSET := ghid (fun j hj => hy8.set hib x j hj)
  obtain ⟨tb, htb⟩ : ∃ tb : ByteArray, tb = ⟨(bt.data.toList.set iN x).toArray⟩ := ⟨_, rfl⟩
  have htbs : tb.size = bt.size := by rw [htb]; exact setB_size bt iN x
  have HSPOIL : Hid (a2 ≠ 0 → snapE tb = 15) := fun h0 => by
    have hlen : iN < bt.data.toList.length := by rw [size_list]; exact hib
    refine HSP.out tb iN x hlen ?_ (by rw [htb])
    intro e
    have e2 : x.toNat = c := by
      rw [e, hc, List.getD_eq_getElem?_getD, List.getElem?_eq_getElem hlen]
      rfl
    omega
  have hconv : (convert 39 9 (.slice (some ⟨g, 0, none⟩) bt.size cp)).run Tryz.prog (W8.setCell ⟨g, iN, none⟩ (.int .u8 (x.toNat : Int))) = .ok (.string tb) (W8.setCell ⟨g, iN, none⟩ (.int .u8 (x.toNat : Int))) := by
    have := run_convert_bytes_back (P := Tryz.prog) (W8.setCell ⟨g, iN, none⟩ (.int .u8 (x.toNat : Int))) 39 9 5 ⟨g, 0, none⟩ cp (bt.data.toList.set iN x) Tryz.underlying39 Tryz.underlying5 Tryz.underlying9 HSET.out
    rw [List.length_set, size_list, ← htb] at this
    exact this
  have CD2 := ghid (fun W => HC.out.dec tb W (by omega))
  have CD3 := ghid (fun W => HC.out.dec (bt.extract 0 3) W (by rw [front3 hz4]; omega))
  rw [snap_short (s := bt.extract 0 3) (by rw [front3 hz4]; omega)] at CD3
  obtain ⟨q2, hq2⟩ : ∃ q2, q2 = snapE tb := ⟨_, rfl⟩
  rw [← hq2] at CD2 HSPOIL
  clear hiN hc hx htb HSET HSP hq2 hy8
  go_upto_region 8 with fail
  rw [← HW8.out, ← HG8.out, ← HCP.out]
  clear HW8 HG8 HCP hcv
  go_wp2_with fail
  refine (CP.out _).mono ?_
  rintro e w9 ⟨rfl, hw9⟩
  subst w9
  clear CP
  have HX9 : Hid ((W8.setCell ⟨g, iN, none⟩ (.int .u8 (x.toNat : Int))).heap[p]? = some (.cells #[.int .i64 s.index, .slice lo ln lc, .slice po pn pc, .slice so sn sc] 27 (0, 0))) := (heap_setCell_other _ _ _ _ hpg).trans HX8.out
  have HY9 : Hid ((W8.setCell ⟨g, iN, none⟩ (.int .u8 (x.toNat : Int))).heap[p6]? = some (.cells #[.int .i64 s.index, .slice lo6 ln6 lc6, .slice po6 pn6 pc6, .slice so6 sn6 sc6] 27 (0, 0))) := (heap_setCell_other _ _ _ _ hpg6).trans HY8.out
  have HB9 : Hid (Below w.heap.size w (W8.setCell ⟨g, iN, none⟩ (.int .u8 (x.toNat : Int)))) := HB8.out.setCell (p := ⟨g, iN, none⟩) hgw _
  go_wp2_with fail
  refine (CD2.out _).mono ?_
  rintro e w10 ⟨v10, rfl, hr10, hb10⟩
  obtain ⟨lo7, ln7, lc7, po7, pn7, pc7, so7, sn7, sc7, rfl⟩ := hr10.shape
  have hba : Below w10.heap.size w10 (w10.alloc (.cells #[.int .i64 (snapL tb).index, .slice lo7 ln7 lc7, .slice po7 pn7 pc7, .slice so7 sn7 sc7] 27)) := (Below.refl _ _).alloc (Nat.le_refl _) _
  have HX10 := ghid (behind (behind HX9.out (Below.refl _ _) hb10) (Below.refl _ _) hba)
  have HY10 := ghid (behind (behind HY9.out (Below.refl _ _) hb10) (Below.refl _ _) hba)
  have hB10 := HB9.out.trans (hb10.mono HB9.out.size)
  have HB10 := ghid (hB10.trans (hba.mono hB10.size))
  clear hr10 hb10 hba hB10 CD2 hcell hfz hconv
  go_wp2_with fail
  refine (CD3.out _).mono ?_
  rintro e w11 ⟨v11, rfl, hr11, hb11⟩
  obtain ⟨lo8, ln8, lc8, po8, pn8, pc8, so8, sn8, sc8, rfl⟩ := hr11.shape
  have HX11 := ghid (behind HX10.out (Below.refl _ _) hb11)
  have HY11 := ghid (behind HY10.out (Below.refl _ _) hb11)
  have HB11 := ghid ((HB10.out.trans (hb11.mono HB10.out.size)).alloc (HB10.out.trans (hb11.mono HB10.out.size)).size (.cells #[.int .i64 (snapL (bt.extract 0 3)).index, .slice lo8 ln8 lc8, .slice po8 pn8 pc8, .slice so8 sn8 sc8] 27))
  clear hr11 hb11 CD3
  obtain ⟨e0, e1, e2, e3, ef, hpl⟩ := state_cells HX11.out
  obtain ⟨g0, g1, g2, g3, gf, hgl6⟩ := state_cells HY11.out
  by_cases h0 : a2 = 0
  · subst h0
    go_wp2
    go_ret
    exact ⟨rfl, HB11.out⟩
  · have hq15 := HSPOIL.out h0
    subst hq15
    have h0b : (a2 == 0) = false := by simpa using h0
    go_wp2
    go_ret
    exact ⟨rfl, HB11.out⟩

end Go.Proofs.YtpcacaohknkdlahGreatDoor

namespace Go.Proofs.YtpcacaohknkdlahGreatDoor

open Go.RowKit Go.Shelf

/-- The writer at block b has these bytes. -/
def WrB (B b : Nat) (l : List UInt8) (w : World) : Prop := Lib.IsBuilderF 60 5 B b (Lib.byteCells l) w

theorem WrB.below {B b : Nat} {l : List UInt8} {w w' : World} (h : WrB B b l w) (hb : Below w.heap.size w w') : WrB B b l w' := by
  rcases h with h | h
  · exact Or.inl (BuilderAtF_below h hb)
  · exact Or.inr (BuilderAtF_below h hb)

theorem WrB.lt {B b : Nat} {l : List UInt8} {w : World} (h : WrB B b l w) : B ≤ b ∧ b < w.heap.size := by
  rcases h with h | h
  · exact ⟨h.1, h.lt⟩
  · exact ⟨h.1, h.lt⟩

theorem wrLies : liesAt Tryz.prog Tryz.prog.depth 60 (2 / Tryz.prog.cellsOf 60) 0 58 1 = true := by kernel_rfl

theorem wrCheck_used (b : Nat) (w : World) (h0 : w.cell? ⟨b, 0, none⟩ = some (.pointer (some ⟨b, 0, none⟩))) :
    Calls Tryz.prog 93 #[.pointer (some ⟨b, 0, none⟩)] w fun e w' => e = .returned (.tuple #[]) ∧ w' = w :=
  Any.Builder_copyCheck_used { buildLays166 with } buildExtra.toX72 b w h0

set_option maxHeartbeats 1000000 in
set_option maxRecDepth 100000 in
theorem wrCheck_fresh (b : Nat) (w : World) (h0 : w.cell? ⟨b, 0, none⟩ = some (.pointer none)) (hsh : w.shape? b = some (60, 2)) (hfz : w.frozen? ⟨b, 0, none⟩ = false) :
    Calls Tryz.prog 93 #[.pointer (some ⟨b, 0, none⟩)] w fun e w' => e = .returned (.tuple #[]) ∧ w' = w.setCell ⟨b, 0, none⟩ (.pointer (some ⟨b, 0, none⟩)) := by
  obtain ⟨j, hj, hjs⟩ := Option.map_eq_some_iff.1 buildExtra.sizeBuilder
  go_enter Tryz.func93, Tryz.ntmps93
  go_wp2
  rw [Lib.run_to_unsafe w ⟨b, 0, none⟩ Tryz.underlying56 Tryz.underlying192 hj (by rw [hjs]; decide) hsh (Nat.zero_lt_succ 1)]
  simp only [Result.andThen]
  rw [Oper.upon_value]
  go_wp2
  rw [run_callFunc_extern Tryz.func121 (by kernel_rfl) (by kernel_rfl) (by kernel_rfl) (e := Extern.AbiNoEscape.same) (by kernel_rfl)]
  rw [Lib.run_noEscape]
  simp only [Result.andThen]
  rw [Oper.upon_value]
  go_wp2
  rw [Lib.run_from_unsafe w ⟨b, 0, none⟩ Tryz.underlying192 Tryz.underlying56 hj hsh wrLies]
  simp only [Result.andThen]
  rw [Oper.upon_value]
  go_wp2
  go_end0
  exact ⟨rfl, rfl⟩

theorem wrCheck_any (B b : Nat) (bs : List Value) (w : World) (h : Lib.IsBuilderF 60 5 B b bs w) :
    Calls Tryz.prog 93 #[.pointer (some ⟨b, 0, none⟩)] w fun e w' => e = .returned (.tuple #[]) ∧ (Lib.BuilderAtF 60 5 B b (.pointer (some ⟨b, 0, none⟩)) bs w' ∧ Below B w w' ∧ Lib.OthersKept 5 (some b) w w') := by
  rcases h with h | h
  · refine (wrCheck_fresh b w h.cell0 h.shape h.frozen0).mono ?_
    rintro e w' ⟨rfl, rfl⟩
    exact ⟨rfl, h.used _, (Below.refl B w).setCell (p := ⟨b, 0, none⟩) h.1 _, (Lib.OthersKept.refl _ _ w).setCell ⟨b, 0, none⟩ rfl _⟩
  · refine (wrCheck_used b w h.cell0).mono ?_
    rintro e w' ⟨rfl, rfl⟩
    exact ⟨rfl, h, Below.refl B _, Lib.OthersKept.refl _ _ _⟩

set_option maxHeartbeats 2000000 in
set_option maxRecDepth 100000 in
theorem wrWrite_any (B b : Nat) (l : List UInt8) (s : ByteArray) (w : World) (h : WrB B b l w) (hlen : l.length + s.size ≤ 140737488355328) (hBw : B ≤ w.heap.size) :
    Calls Tryz.prog 59 #[.pointer (some ⟨b, 0, none⟩), .string s] w fun e w' => e = .returned (.tuple #[.int .i64 s.size, .nilIface]) ∧ WrB B b (l ++ s.data.toList) w' ∧ Below B w w' ∧ Lib.OthersKept 5 (some b) w w' := by
  obtain ⟨i0, hi, hz0, hz1, hz2⟩ := info_parts buildExtra.infoByte
  have hl : (Lib.byteCells l).length = l.length := Lib.byteCells_length l
  have hlen' : (Lib.byteCells l).length + s.size ≤ 140737488355328 := by omega
  unfold WrB at h ⊢
  rw [Lib.byteCells_append]
  have e0 : Lib.byteCells s.data.toList = Lib.strCells s := rfl
  rw [e0]
  obtain ⟨bs, hbs⟩ : ∃ bs, bs = Lib.byteCells l := ⟨_, rfl⟩
  rw [← hbs] at h hlen' ⊢
  have CK := ghid (wrCheck_any B b bs w h)
  clear hl hbs h
  go_enter Tryz.func59, Tryz.ntmps59
  go_wp2_with fail
  refine CK.out.mono ?_
  rintro e w1 ⟨rfl, h1, hb1, hk1⟩
  obtain ⟨hB, v, hbk, hown, hne⟩ := h1
  have c0 : w1.cell? ⟨b, 0, none⟩ = some (.pointer (some ⟨b, 0, none⟩)) := by rw [Lib.cell_of_heap hbk]; rfl
  have c1 : w1.cell? ⟨b, 1, none⟩ = some v := by rw [Lib.cell_of_heap hbk]; rfl
  go_wp2_with (at_builtin; refine Lib.wpList_append_own_stringF _ rfl _ _ 39 9 rfl B 5 i0 Tryz.underlying39 Tryz.underlying9 hi hz0 hz1 hz2 _ _ _ rfl hown s rfl ?c3 ?c4 ?c5 ?_)
  case c3 => unfold maxLen; omega
  case c4 => omega
  case c5 => have := hb1.size; omega
  intro v' w2 hown' hgrow _
  have hlt : b < w1.heap.size := (Array.getElem?_eq_some_iff.1 hbk).1
  have hb2 : w2.heap[b]? = some (.cells #[.pointer (some ⟨b, 0, none⟩), v] 60 (0, 0)) := by
    rw [hgrow.block b hlt (fun e => hne e.symm)]
    exact hbk
  have d0 : w2.cell? ⟨b, 0, none⟩ = some (.pointer (some ⟨b, 0, none⟩)) := by rw [Lib.cell_of_heap hb2]; rfl
  have d1 : w2.cell? ⟨b, 1, none⟩ = some v := by rw [Lib.cell_of_heap hb2]; rfl
  have f1 : w2.frozen? ⟨b, 1, none⟩ = false := Lib.frozen_of_heap hb2 1
  obtain ⟨ao, n', cap, rfl⟩ : ∃ ao n' cap, v' = .slice ao n' cap := by
    rcases hown'.2 with ⟨hv, _⟩ | ⟨g, cap, cur, fz, hv, _⟩
    · exact ⟨_, _, _, hv⟩
    · exact ⟨_, _, _, hv⟩
  go_wp2
  go_ret2
  refine ⟨rfl, Or.inr ?_, ?_, (hk1.grown hgrow (Lib.ownsRowF_kind hown)).setCell ⟨b, 1, none⟩ rfl _⟩
  · exact Lib.BuilderAtF.put (T := 60) (e := 5) hB hb2 (bs' := bs ++ Lib.strCells s) (by simpa [Lib.strCells_length] using hown') (by decide)
  · exact (hb1.grown hgrow (by have := hb1.size; omega) (fun k hk => (hown.lt k hk).1)).setCell (p := ⟨b, 1, none⟩) hB _

set_option maxHeartbeats 2000000 in
set_option maxRecDepth 100000 in
theorem wrString_any (B b : Nat) (l : List UInt8) (w : World) (h : WrB B b l w) (h0 : l ≠ []) :
    Calls Tryz.prog 15 #[.pointer (some ⟨b, 0, none⟩)] w fun e w' => e = .returned (.string ⟨l.toArray⟩) ∧ Below B w w' ∧ Lib.OthersKept 5 (some b) w w' := by
  obtain ⟨p, hAt⟩ : ∃ p, Lib.BuilderAtF 60 5 B b p (Lib.byteCells l) w := by
    rcases h with h | h
    · exact ⟨_, h⟩
    · exact ⟨_, h⟩
  obtain ⟨hB, v, hbk, hown, hne⟩ := hAt
  have hl0 : l.length ≠ 0 := by simpa using h0
  rw [Lib.byteCells_length] at hown
  obtain ⟨g, cap, cur, fz, rfl, hbg, hg, hfz, hnc, hcm, hcs, htake⟩ : ∃ g cap cur fz, v = .slice (some ⟨g, 0, none⟩) l.length cap ∧ B ≤ g ∧ w.heap[g]? = some (.cells cur 5 fz) ∧ fz.2 ≤ l.length * 1 ∧ l.length ≤ cap ∧ cap ≤ maxLen ∧ cur.size = cap * 1 ∧ cur.toList.take (l.length * 1) = Lib.byteCells l := by
    rcases hown.2 with ⟨_, hz⟩ | ⟨g, cap, cur, fz, hv, r⟩
    · exact absurd hz hl0
    · exact ⟨g, cap, cur, fz, hv, r⟩
  have c1 : w.drew.cell? ⟨b, 1, none⟩ = some (.slice (some ⟨g, 0, none⟩) l.length cap) := by
    have : w.drew.heap[b]? = some (.cells #[p, .slice (some ⟨g, 0, none⟩) l.length cap] 60 (0, 0)) := hbk
    rw [Lib.cell_of_heap this]; rfl
  have hSD := Lib.run_unsafeSliceData_row (P := Tryz.prog) w.drew #[39] 97 ⟨g, 0, none⟩ l.length cap (by omega)
  have hUS := Lib.run_unsafeString_row (P := Tryz.prog) w.drew 97 3 9 5 Tryz.underlying97 buildExtra.cellsByte g cur.size (by have hg' : w.drew.heap[g]? = some (.cells cur 5 fz) := hg; simp [World.shape?, hg']) l h0 (by omega) (by unfold maxLen at hcm; omega) (fun j x hx => hown.cells (g := g) rfl j (.int .u8 x.toNat) (by simp [Lib.byteCells, hx]))
  have mixed : Tryz.prog.follows .mixedOrders = true := buildLays169.mixed
  go_enter Tryz.func15, Tryz.ntmps15
  go_wp2
  go_region_o
  all_goals (go_wp2; go_ret; exact ⟨rfl, Lib.below_freeze (Below.drew (Below.refl B w)) (p := ⟨g, 0, none⟩) hbg _, ((Lib.OthersKept.refl _ _ w).drew).freeze ⟨g, 0, none⟩ _ ⟨cur, fz, hg⟩⟩)

end Go.Proofs.YtpcacaohknkdlahGreatDoor
