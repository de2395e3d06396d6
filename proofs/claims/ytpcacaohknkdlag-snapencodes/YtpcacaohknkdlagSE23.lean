/- The seal of bytes, and that one byte changed changes it. Plain mathematics; A state as bytes. Plain mathematics; no program (joined by program) -/
import Derived.Test.YtpcacaohknkdlagSE22
import Derived.Test.YtpcacaohknkdlagSE20
namespace Go.Proofs.Ytpcacaohknkdlag

open Go.RowKit

def sealOut (s : ByteArray) : ByteArray :=
  strOfNums [(sealGo s.data.toList).2 / 256, (sealGo s.data.toList).2 % 256, (sealGo s.data.toList).1 / 256, (sealGo s.data.toList).1 % 256]

theorem sealOut_size (s : ByteArray) : (sealOut s).size = 4 := strOfNums_size _

end Go.Proofs.Ytpcacaohknkdlag

namespace Go.Proofs.Ytpcacaohknkdlag

open Go.RowKit

/-- One behind another. -/
def catB (xs : List ByteArray) : ByteArray := xs.foldr (fun a b => a ++ b) ⟨#[]⟩

theorem catB_nil : catB [] = ⟨#[]⟩ := rfl

theorem catB_cons (a : ByteArray) (xs : List ByteArray) : catB (a :: xs) = a ++ catB xs := rfl

theorem nilB (t : ByteArray) : (⟨#[]⟩ : ByteArray) ++ t = t := by apply bytes_ext; simp

theorem bnil (t : ByteArray) : t ++ (⟨#[]⟩ : ByteArray) = t := by apply bytes_ext; simp

theorem catB_append (xs ys : List ByteArray) : catB (xs ++ ys) = catB xs ++ catB ys := by
  induction xs with
  | nil => rw [List.nil_append, catB_nil, nilB]
  | cons a xs ih => rw [List.cons_append, catB_cons, catB_cons, ih, ByteArray.append_assoc]

theorem catB_snoc (xs : List ByteArray) (a : ByteArray) : catB (xs ++ [a]) = catB xs ++ a := by rw [catB_append, catB_cons, catB_nil, bnil]

theorem catB_size {α : Type} (out : α → ByteArray) (m : Nat) (xs : List α) (h : ∀ x ∈ xs, (out x).size ≤ m) : (catB (xs.map out)).size ≤ xs.length * m := by
  induction xs with
  | nil => exact Nat.zero_le _
  | cons x xs ih =>
    have h1 := h x (by simp)
    have h2 := ih (fun y hy => h y (by simp [hy]))
    rw [List.map_cons, catB_cons, ByteArray.size_append, List.length_cons, Nat.add_mul]
    omega

def lockOut (k : LockD) : ByteArray := textOut k.name ++ (numOut k.holder ++ (numOut k.fence ++ (numOut k.line.length ++ catB (k.line.map numOut))))

def pairOut (p : PairD) : ByteArray := textOut p.name ++ (textOut p.value ++ numOut p.version)

def keptOut (k : KeptD) : ByteArray := numOut k.seq ++ (numOut k.code ++ (numOut k.n ++ textOut k.text))

def sessOut (x : SessD) : ByteArray := numOut x.client ++ (numOut x.id ++ (numOut x.acked ++ (numOut x.last ++ (numOut x.replies.length ++ catB (x.replies.map keptOut)))))

/-- The bytes of a state, without their seal. -/
def snapBody (s : StateD) : ByteArray :=
  numOut s.index ++ (numOut s.locks.length ++ (catB (s.locks.map lockOut) ++ (numOut s.pairs.length ++ (catB (s.pairs.map pairOut) ++ (numOut s.sess.length ++ catB (s.sess.map sessOut))))))

/-- The bytes of a state. -/
def snapOut (s : StateD) : ByteArray := snapBody s ++ sealOut (snapBody s)

theorem lockOut_le {k : LockD} (h : LockOk k) : (lockOut k).size ≤ 60 := by
  have hn := (nameB_yes h.name).2.1
  have h1 := textOut_le k.name 6 hn
  have h2 := numOut_le k.holder
  have h3 := numOut_le k.fence
  have h4 := numOut_le (k.line.length : Int)
  have h5 := catB_size numOut 6 k.line (fun x _ => numOut_le x)
  have h6 := h.line.len
  unfold lockOut
  simp only [ByteArray.size_append]
  omega

theorem pairOut_le {p : PairD} (h : nameB p.name = true ∧ p.value.size ≤ 12 ∧ 1 ≤ p.version ∧ p.version ≤ 1073741824) : (pairOut p).size ≤ 40 := by
  have hn := (nameB_yes h.1).2.1
  have h1 := textOut_le p.name 6 hn
  have h2 := textOut_le p.value 12 h.2.1
  have h3 := numOut_le p.version
  unfold pairOut
  simp only [ByteArray.size_append]
  omega

theorem keptOut_le {k : KeptD} (hk : keptB k = true) : (keptOut k).size ≤ 40 := by
  have hr := replyB_iff.1 hk
  have h1 := numOut_le k.seq
  have h2 := numOut_le k.code
  have h3 := numOut_le k.n
  have h4 := textOut_le k.text 12 hr.2.2.2.2
  unfold keptOut
  simp only [ByteArray.size_append]
  omega

theorem sessOut_le {i : Int} {x : SessD} (h : Fine i x) : (sessOut x).size ≤ 200 := by
  have hl := sformB_len h.form
  have hm := formFrom_mem h.form
  have h1 := numOut_le x.client
  have h2 := numOut_le x.id
  have h3 := numOut_le x.acked
  have h4 := numOut_le x.last
  have h5 := numOut_le (x.replies.length : Int)
  have h6 := catB_size keptOut 40 x.replies (fun k hk => keptOut_le (hm k hk).2.2)
  unfold sessOut
  simp only [ByteArray.size_append]
  omega

theorem snapBody_le {s : StateD} (h : GoodM s) : (snapBody s).size ≤ 2000 := by
  have hl := h.locks.len
  have hp := h.pairs.len
  have hs := h.sess.len
  have h1 := numOut_le s.index
  have h2 := numOut_le (s.locks.length : Int)
  have h3 := numOut_le (s.pairs.length : Int)
  have h4 := numOut_le (s.sess.length : Int)
  have h5 := catB_size lockOut 60 s.locks (fun k hk => lockOut_le (h.locks.each k hk).1)
  have h6 := catB_size pairOut 40 s.pairs (fun k hk => pairOut_le (h.pairs.each k hk))
  have h7 := catB_size sessOut 200 s.sess (fun k hk => sessOut_le (h.sess.fine k hk))
  unfold snapBody
  simp only [ByteArray.size_append]
  omega

end Go.Proofs.Ytpcacaohknkdlag
