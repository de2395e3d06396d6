/- A text that was written is read, whatever stands behind it; Plain mathematics: a command that was written is read; cut short, or longer, it is not; tackroomkeep.Applied: a state after entries; Plain mathematics of package codec: digits of seven bits and the two sums of a seal. It imports no program; The seal of bytes, and that one byte changed changes it. Plain mathematics; A state as bytes. Plain mathematics; no program; A state read from bytes: what is read, what is wrong first. Plain mathematics; no program; log.Last; Replicas as plain data: what may be, what the calls do. Plain mathematics; no program is walked; Clients as plain data: what may be, what each step answers. Plain mathematics; no program; Hear in plain lists. Plain mathematics; no program; What a client that may be becomes; a client that asks. Plain mathematics; no program (joined by program) -/
import Derived.WalkKit
import Derived.ProofKit
import Derived.Laws.BytesArg
import Derived.Test.YtijilhbdbeajjaaGreatDoorTT39
import Derived.Test.YtijilhbdbeajjaaGreatDoorTT33
import Derived.Test.YtijilhbdbeajjaaGreatDoorTT00
import Derived.Test.YtijilhbdbeajjaaGreatDoorTT35
import Derived.Test.YtijilhbdbeajjaaGreatDoorTT09
import Derived.Test.YtijilhbdbeajjaaGreatDoorTT01
import Derived.Test.YtijilhbdbeajjaaGreatDoorTT18
namespace Go.Proofs.YtijilhbdbeajjaaGreatDoor

open Go.RowKit

theorem bytes_assoc (a b c : ByteArray) : a ++ b ++ c = a ++ (b ++ c) := by
  apply ByteArray.ext
  simp [ByteArray.data_append, Array.append_assoc]

theorem mid_of (a b c : ByteArray) (n : Nat) (h : n = a.size) : (a ++ (b ++ c)).extract n (n + b.size) = b := by
  subst h
  apply ByteArray.ext
  apply Array.toList_inj.1
  rw [Lib.extract_data, ByteArray.data_append, Array.toList_append, ByteArray.data_append, Array.toList_append]
  have h1 : a.data.toList.length = a.size := by simp
  have h2 : b.data.toList.length = b.size := by simp
  rw [List.drop_left' h1, Nat.add_sub_cancel_left]
  exact List.take_left' h2

end Go.Proofs.YtijilhbdbeajjaaGreatDoor

namespace Go.Proofs.YtijilhbdbeajjaaGreatDoor

open Go.RowKit

theorem cut_lt (p t : ByteArray) (k : Nat) (h : k ≤ p.size) : (p ++ t).extract 0 k = p.extract 0 k := by
  apply bytes_ext
  rw [Lib.extract_data, Lib.extract_data, ByteArray.data_append, Array.toList_append]
  have := size_list p
  simp only [List.drop_zero, Nat.sub_zero]
  rw [List.take_append_of_le_length (by omega)]

theorem cut_ge (p t : ByteArray) (k : Nat) (h : p.size ≤ k) : (p ++ t).extract 0 k = p ++ t.extract 0 (k - p.size) := by
  apply bytes_ext
  rw [Lib.extract_data, ByteArray.data_append, Array.toList_append, ByteArray.data_append, Array.toList_append, Lib.extract_data]
  have := size_list p
  simp only [List.drop_zero, Nat.sub_zero]
  rw [List.take_append, List.take_of_length_le (by omega), this]

theorem numR_enc (n : Int) (s : ByteArray) (h0 : 0 ≤ n) (h1 : n ≤ 1099511627776) : numR (strOfNums (encN n) ++ s) = (n, (encN n).length, 0) := by
  have hr := lt_reach5 n h1
  have hc : cd (strOfNums (encN n) ++ s).data.toList = (encN n).length := by rw [bytes_append]; exact cd_enc 5 n _ h0 hr
  have hl := encN_length n
  have hf : (strOfNums (encN n) ++ s).data.toList.take (cd (strOfNums (encN n) ++ s).data.toList) = u8 (encN n) := by
    rw [hc, bytes_append]
    exact List.take_left' (u8_length _)
  have hd : dec ((strOfNums (encN n) ++ s).data.toList.take (cd (strOfNums (encN n) ++ s).data.toList)) = n := by rw [hf]; exact dec_enc 5 n h0 hr
  have hz : ¬ (1 < cd (strOfNums (encN n) ++ s).data.toList ∧ ((strOfNums (encN n) ++ s).data.toList.getD (cd (strOfNums (encN n) ++ s).data.toList - 1) 0).toNat = 0) := by
    rw [hc]
    rintro ⟨h2, h3⟩
    by_cases hn : n = 0
    · subst hn; exact absurd h2 (by decide)
    · rw [bytes_append] at h3
      exact last_enc 5 n _ (by omega) hr h3
  unfold numR
  rw [if_neg (by omega), if_neg (by intro h; rcases h with h | h; omega; exact hz h), if_neg (by omega), hd, hc]

theorem numR_cut (n : Int) (k : Nat) (h0 : 0 ≤ n) (h1 : n ≤ 1099511627776) (hk : k < (encN n).length) (s : ByteArray) (hs : s.data.toList = (u8 (encN n)).take k) : numR s = (0, 0, 5) := by
  have hc : cd s.data.toList = 0 := by
    refine cd_miss _ fun j hj => ?_
    rw [hs] at hj ⊢
    have hjk : j < k := by rw [List.length_take] at hj; omega
    have hi := init_enc 5 n j h0 (lt_reach5 n h1) (by show j + 1 < (encN n).length; omega)
    have e : ((u8 (encN n)).take k).getD j 0 = (u8 (enc 5 n)).getD j 0 := by
      simp [List.getD_eq_getElem?_getD, hjk, encN]
    rw [e]; exact hi
  unfold numR
  rw [if_pos hc]

theorem numOut_cut (n : Int) (k : Nat) (hk : k < (numOut n).size) (h0 : 0 ≤ n) (h1 : n ≤ 1099511627776) : numR ((numOut n).extract 0 k) = (0, 0, 5) := by
  rw [nsize] at hk
  refine numR_cut n k h0 h1 hk _ ?_
  rw [Lib.extract_data]
  unfold numOut
  rw [strOfNums_data]
  simp [u8]

/-- A part that is read by a step: with whatever behind it; cut short it is not. -/
structure Part {α : Type} (rd : ByteArray → α × ByteArray × Int) (p : ByteArray) (x : α) : Prop where
  all : ∀ s, rd (p ++ s) = (x, s, 0)
  cut : ∀ k, k < p.size → (rd (p.extract 0 k)).2.2 = 5

theorem part_num (n : Int) (h0 : 0 ≤ n) (h1 : n ≤ 1099511627776) : Part readN (numOut n) n := by
  refine ⟨fun s => ?_, fun k hk => ?_⟩
  · unfold readN
    unfold numOut
    rw [numR_enc n s h0 h1]
    simp only [if_true]
    rw [tail_of _ s (encN n).length (strOfNums_size _).symm]
  · unfold readN
    rw [numOut_cut n k hk h0 h1]
    simp

theorem part_text (u : ByteArray) (hu : u.size ≤ 5000) : Part readT (textOut u) u := by
  have hz : (numOut (u.size : Int)).size = (encN (u.size : Int)).length := nsize _
  have hto : textOut u = numOut (u.size : Int) ++ u := rfl
  refine ⟨fun s => ?_, fun k hk => ?_⟩
  · have e : textOut u ++ s = strOfNums (encN (u.size : Int)) ++ (u ++ s) := by rw [hto, bytes_assoc]; rfl
    have hn := numR_enc (u.size : Int) (u ++ s) (by omega) (by omega)
    have e1 := mid_of (strOfNums (encN (u.size : Int))) u s (encN (u.size : Int)).length (strOfNums_size _).symm
    have e2 : (strOfNums (encN (u.size : Int)) ++ (u ++ s)).extract ((encN (u.size : Int)).length + u.size) (strOfNums (encN (u.size : Int)) ++ (u ++ s)).size = s := by
      have := tail_of (strOfNums (encN (u.size : Int)) ++ u) s ((encN (u.size : Int)).length + u.size) (by rw [ByteArray.size_append, strOfNums_size])
      rw [bytes_assoc] at this
      exact this
    have hsz : (strOfNums (encN (u.size : Int)) ++ (u ++ s)).size = (encN (u.size : Int)).length + (u.size + s.size) := by
      rw [ByteArray.size_append, ByteArray.size_append, strOfNums_size]
    rw [e]
    unfold readT
    rw [hn]
    simp only [Int.toNat_natCast]
    rw [if_neg (by simp), if_neg (by omega), if_neg (by rw [hsz]; omega), e1, e2]
  · have hsz2 : (textOut u).size = (encN (u.size : Int)).length + u.size := by rw [hto, ByteArray.size_append, hz]
    by_cases h : k < (numOut (u.size : Int)).size
    · rw [hto, cut_lt _ _ _ (by omega)]
      unfold readT
      rw [numOut_cut _ k h (by omega) (by omega)]
      simp
    · rw [hto, cut_ge _ _ _ (by omega)]
      have hn : numR (numOut (u.size : Int) ++ u.extract 0 (k - (numOut (u.size : Int)).size)) = _ := numR_enc (u.size : Int) (u.extract 0 (k - (numOut (u.size : Int)).size)) (by omega) (by omega)
      have hs3 : (numOut (u.size : Int) ++ u.extract 0 (k - (numOut (u.size : Int)).size)).size = k := by
        rw [ByteArray.size_append, ByteArray.size_extract, hz]; omega
      unfold readT
      rw [hn, hs3]
      simp only
      rw [if_neg (by simp), if_neg (by omega), if_pos (by omega)]

theorem stepN_all {p : ByteArray} {x : Int} (h : Part readN p x) (s : ByteArray) : stepN (p ++ s, 0) = (x, s, 0) := by unfold stepN; rw [if_pos rfl]; exact h.all s

theorem stepT_all {p : ByteArray} {x : ByteArray} (h : Part readT p x) (s : ByteArray) : stepT (p ++ s, 0) = (x, s, 0) := by unfold stepT; rw [if_pos rfl]; exact h.all s

/-- The limits of a Call that may be. -/
structure CallOk (c : CmdD) : Prop where
  s : 0 ≤ c.session ∧ c.session ≤ 1099511627776
  q : 0 ≤ c.seq ∧ c.seq ≤ 1099511627776
  u : 0 ≤ c.acked ∧ c.acked ≤ 1099511627776
  k : 0 ≤ c.ok ∧ c.ok ≤ 1099511627776
  n : 0 ≤ c.n ∧ c.n ≤ 1099511627776
  a : c.a.size ≤ 12
  b : c.b.size ≤ 12

theorem cmdE_head {c : CmdD} (h : c.err = 0) : (1 ≤ c.kind ∧ c.kind ≤ 3) ∧ (1 ≤ c.client ∧ c.client ≤ 9) := cmdE_head' h

theorem cmdE_call {c : CmdD} (h : c.err = 0) (h2 : c.kind = 2) : CallOk c := by
  unfold CmdD.err at h
  rw [h2] at h
  obtain ⟨-, hN, ha, hb⟩ := cmdE_call' h
  exact ⟨hN _ (by simp), hN _ (by simp), hN _ (by simp), hN _ (by simp), hN _ (by simp), ha, hb⟩

theorem cmdE_other {c : CmdD} (h : c.err = 0) (h2 : c.kind ≠ 2) : c = ⟨c.kind, c.client, 0, 0, 0, 0, ⟨#[]⟩, ⟨#[]⟩, 0⟩ := by
  obtain ⟨hk, hc⟩ := cmdE_head h
  by_cases h3 : c.session = 0 ∧ c.seq = 0 ∧ c.acked = 0 ∧ c.ok = 0 ∧ c.a.size = 0 ∧ c.b.size = 0 ∧ c.n = 0
  · obtain ⟨k, cl, s, q, u, ok, a, b, n⟩ := c
    simp only at h3 ⊢
    obtain ⟨rfl, rfl, rfl, rfl, ha, hb, rfl⟩ := h3
    rw [size_zero ha, size_zero hb]
  · unfold CmdD.err at h
    rw [cmdE_restNo hk hc h2 h3] at h
    omega

theorem decCall_all (k c : Int) (x : CmdD) (h : CallOk x) (t : ByteArray) : decCall k c (callOut x ++ t) = (⟨k, c, x.session, x.seq, x.acked, x.ok, x.a, x.b, x.n⟩, t, 0) := by
  unfold decCall callOut
  simp only [bytes_assoc]
  rw [stepN_all (part_num x.session h.s.1 h.s.2)]
  simp only
  rw [stepN_all (part_num x.seq h.q.1 h.q.2)]
  simp only
  rw [stepN_all (part_num x.acked h.u.1 h.u.2)]
  simp only
  rw [stepN_all (part_num x.ok h.k.1 h.k.2)]
  simp only
  rw [stepN_all (part_num x.n h.n.1 h.n.2)]
  simp only
  rw [stepT_all (part_text x.a (by have := h.a; omega))]
  simp only
  rw [stepT_all (part_text x.b (by have := h.b; omega))]

theorem head_bytes (k c : Int) (t : ByteArray) (hk : 0 ≤ k ∧ k < 256) (hc : 0 ≤ c ∧ c < 256) :
    ((((strOfNums [k, c] ++ t).data.toList.getD 0 0).toNat : Int) = k) ∧ ((((strOfNums [k, c] ++ t).data.toList.getD 1 0).toNat : Int) = c) ∧ (strOfNums [k, c] ++ t).extract 2 (strOfNums [k, c] ++ t).size = t := by
  refine ⟨?_, ?_, tail_of _ t 2 (strOfNums_size [k, c]).symm⟩
  · rw [bytes_append]
    simp only [u8, List.map_cons, List.map_nil, List.cons_append, List.getD_cons_zero]
    exact ofNat_toNat k hk.1 hk.2
  · rw [bytes_append]
    simp only [u8, List.map_cons, List.map_nil, List.cons_append, List.getD_cons_succ, List.getD_cons_zero]
    exact ofNat_toNat c hc.1 hc.2

theorem decBody_all (c : CmdD) (h : c.err = 0) (t : ByteArray) : decBody (cmdOut c ++ t) = (c, t, 0) := by
  obtain ⟨hk, hc⟩ := cmdE_head h
  by_cases h2 : c.kind = 2
  · obtain ⟨e0, e1, e2⟩ := head_bytes c.kind c.client (callOut c ++ t) (by omega) (by omega)
    unfold cmdOut
    rw [if_pos h2, bytes_assoc]
    unfold decBody
    rw [e0, e1, e2, if_pos h2, decCall_all _ _ c (cmdE_call h h2) t]
  · obtain ⟨e0, e1, e2⟩ := head_bytes c.kind c.client t (by omega) (by omega)
    unfold cmdOut
    rw [if_neg h2]
    unfold decBody
    rw [e0, e1, e2, if_neg h2]
    rw [← cmdE_other h h2]

theorem cmdOut_size (c : CmdD) (h : c.err = 0) : 2 ≤ (cmdOut c).size ∧ (cmdOut c).size ≤ 100 := by
  have h0 : (strOfNums [c.kind, c.client]).size = 2 := strOfNums_size _
  unfold cmdOut
  split
  · rename_i h2
    have hc := cmdE_call h h2
    have h1 := numOut_le c.session
    have h2 := numOut_le c.seq
    have h3 := numOut_le c.acked
    have h4 := numOut_le c.ok
    have h5 := numOut_le c.n
    have h6 := textOut_le c.a 12 hc.a
    have h7 := textOut_le c.b 12 hc.b
    unfold callOut
    simp only [ByteArray.size_append]
    omega
  · omega

/-- WHAT WAS WRITTEN IS READ. -/
theorem dec_all (c : CmdD) (h : c.err = 0) : decE (cmdOut c) = 0 ∧ decL (cmdOut c) = c := by
  have hb := decBody_all c h ⟨#[]⟩
  have hz := cmdOut_size c h
  have e : cmdOut c ++ ⟨#[]⟩ = cmdOut c := by apply ByteArray.ext; simp
  rw [e] at hb
  have h0 : decE (cmdOut c) = 0 := by
    unfold decE
    rw [hb, if_neg (by omega), if_neg (by omega)]
    simp only
    rw [if_neg (by unfold endE; rw [if_neg (fun hh => hh.2 rfl)]; simp)]
    exact h
  refine ⟨h0, ?_⟩
  unfold decL
  rw [if_pos h0, hb]

end Go.Proofs.YtijilhbdbeajjaaGreatDoor

namespace Go.Proofs.YtijilhbdbeajjaaGreatDoor

open Go.RowKit

theorem goodM_nil : GoodM ⟨0, [], [], []⟩ := ⟨⟨by simp, by simp, by simp, fun x hx => (by cases hx), List.Pairwise.nil⟩, GoodL.nil, ⟨by simp, fun x hx => (by cases hx), fun i j x y _ hx => (by simp at hx)⟩⟩

end Go.Proofs.YtijilhbdbeajjaaGreatDoor

namespace Go.Proofs.YtijilhbdbeajjaaGreatDoor

open Go.RowKit

/-- The two sums of a seal over a list of bytes. -/
def sealGo (l : List UInt8) : Int × Int :=
  l.foldl (fun p c => ((p.1 + c.toNat) % 65521, (p.2 + (p.1 + c.toNat) % 65521) % 65521)) (1, 0)

theorem sealGo_snoc (l : List UInt8) (c : UInt8) :
    sealGo (l ++ [c]) = (((sealGo l).1 + c.toNat) % 65521, ((sealGo l).2 + ((sealGo l).1 + c.toNat) % 65521) % 65521) := by
  simp [sealGo]

theorem sealFold_bd (l : List UInt8) : ∀ p : Int × Int, (0 ≤ p.1 ∧ p.1 < 65521 ∧ 0 ≤ p.2 ∧ p.2 < 65521) →
    let q := l.foldl (fun p c => ((p.1 + (c.toNat : Int)) % 65521, (p.2 + (p.1 + (c.toNat : Int)) % 65521) % 65521)) p
    0 ≤ q.1 ∧ q.1 < 65521 ∧ 0 ≤ q.2 ∧ q.2 < 65521 := by
  induction l with
  | nil => intro p h; exact h
  | cons c l ih => intro p h; simp only [List.foldl_cons]; exact ih _ (by simp; omega)

theorem sealGo_bd (l : List UInt8) : 0 ≤ (sealGo l).1 ∧ (sealGo l).1 < 65521 ∧ 0 ≤ (sealGo l).2 ∧ (sealGo l).2 < 65521 :=
  sealFold_bd l (1, 0) (by simp)

theorem take_snoc (s : ByteArray) (k : Nat) (h : k < s.size) : s.data.toList.take (k + 1) = s.data.toList.take k ++ [s[k]] := by
  rw [List.take_succ_eq_append_getElem (by simpa using h)]; rfl

theorem take_all (s : ByteArray) (k : Nat) (h : s.size ≤ k) : s.data.toList.take k = s.data.toList :=
  List.take_of_length_le (by simpa using h)

end Go.Proofs.YtijilhbdbeajjaaGreatDoor

namespace Go.Proofs.YtijilhbdbeajjaaGreatDoor

open Go.RowKit

def sealOut (s : ByteArray) : ByteArray :=
  strOfNums [(sealGo s.data.toList).2 / 256, (sealGo s.data.toList).2 % 256, (sealGo s.data.toList).1 / 256, (sealGo s.data.toList).1 % 256]

theorem sealOut_size (s : ByteArray) : (sealOut s).size = 4 := strOfNums_size _

end Go.Proofs.YtijilhbdbeajjaaGreatDoor

namespace Go.Proofs.YtijilhbdbeajjaaGreatDoor

open Go.RowKit

/-- One behind another. -/
def catB (xs : List ByteArray) : ByteArray := xs.foldr (fun a b => a ++ b) ⟨#[]⟩

theorem catB_nil : catB [] = ⟨#[]⟩ := rfl

theorem catB_cons (a : ByteArray) (xs : List ByteArray) : catB (a :: xs) = a ++ catB xs := rfl

theorem nilB (t : ByteArray) : (⟨#[]⟩ : ByteArray) ++ t = t := by apply bytes_ext; simp

theorem bnil (t : ByteArray) : t ++ (⟨#[]⟩ : ByteArray) = t := by apply bytes_ext; simp

theorem catB_append (xs ys : List ByteArray) : catB (xs ++ ys) = catB xs ++ catB ys := by
  induction xs with
  | nil => rw [List.nil_append, catB_nil, nilB]
  | cons a xs ih => rw [List.cons_append, catB_cons, catB_cons, ih, ByteArray.append_assoc]

theorem catB_snoc (xs : List ByteArray) (a : ByteArray) : catB (xs ++ [a]) = catB xs ++ a := by rw [catB_append, catB_cons, catB_nil, bnil]

theorem catB_size {α : Type} (out : α → ByteArray) (m : Nat) (xs : List α) (h : ∀ x ∈ xs, (out x).size ≤ m) : (catB (xs.map out)).size ≤ xs.length * m := by
  induction xs with
  | nil => exact Nat.zero_le _
  | cons x xs ih =>
    have h1 := h x (by simp)
    have h2 := ih (fun y hy => h y (by simp [hy]))
    rw [List.map_cons, catB_cons, ByteArray.size_append, List.length_cons, Nat.add_mul]
    omega

def lockOut (k : LockD) : ByteArray := textOut k.name ++ (numOut k.holder ++ (numOut k.fence ++ (numOut k.line.length ++ catB (k.line.map numOut))))

def pairOut (p : PairD) : ByteArray := textOut p.name ++ (textOut p.value ++ numOut p.version)

def keptOut (k : KeptD) : ByteArray := numOut k.seq ++ (numOut k.code ++ (numOut k.n ++ textOut k.text))

def sessOut (x : SessD) : ByteArray := numOut x.client ++ (numOut x.id ++ (numOut x.acked ++ (numOut x.last ++ (numOut x.replies.length ++ catB (x.replies.map keptOut)))))

/-- The bytes of a state, without their seal. -/
def snapBody (s : StateD) : ByteArray :=
  numOut s.index ++ (numOut s.locks.length ++ (catB (s.locks.map lockOut) ++ (numOut s.pairs.length ++ (catB (s.pairs.map pairOut) ++ (numOut s.sess.length ++ catB (s.sess.map sessOut))))))

/-- The bytes of a state. -/
def snapOut (s : StateD) : ByteArray := snapBody s ++ sealOut (snapBody s)

theorem lockOut_le {k : LockD} (h : LockOk k) : (lockOut k).size ≤ 60 := by
  have hn := (nameB_yes h.name).2.1
  have h1 := textOut_le k.name 6 hn
  have h2 := numOut_le k.holder
  have h3 := numOut_le k.fence
  have h4 := numOut_le (k.line.length : Int)
  have h5 := catB_size numOut 6 k.line (fun x _ => numOut_le x)
  have h6 := h.line.len
  unfold lockOut
  simp only [ByteArray.size_append]
  omega

theorem pairOut_le {p : PairD} (h : nameB p.name = true ∧ p.value.size ≤ 12 ∧ 1 ≤ p.version ∧ p.version ≤ 1073741824) : (pairOut p).size ≤ 40 := by
  have hn := (nameB_yes h.1).2.1
  have h1 := textOut_le p.name 6 hn
  have h2 := textOut_le p.value 12 h.2.1
  have h3 := numOut_le p.version
  unfold pairOut
  simp only [ByteArray.size_append]
  omega

theorem keptOut_le {k : KeptD} (hk : keptB k = true) : (keptOut k).size ≤ 40 := by
  have hr := replyB_iff.1 hk
  have h1 := numOut_le k.seq
  have h2 := numOut_le k.code
  have h3 := numOut_le k.n
  have h4 := textOut_le k.text 12 hr.2.2.2.2
  unfold keptOut
  simp only [ByteArray.size_append]
  omega

theorem sessOut_le {i : Int} {x : SessD} (h : Fine i x) : (sessOut x).size ≤ 200 := by
  have hl := sformB_len h.form
  have hm := formFrom_mem h.form
  have h1 := numOut_le x.client
  have h2 := numOut_le x.id
  have h3 := numOut_le x.acked
  have h4 := numOut_le x.last
  have h5 := numOut_le (x.replies.length : Int)
  have h6 := catB_size keptOut 40 x.replies (fun k hk => keptOut_le (hm k hk).2.2)
  unfold sessOut
  simp only [ByteArray.size_append]
  omega

theorem snapBody_le {s : StateD} (h : GoodM s) : (snapBody s).size ≤ 2000 := by
  have hl := h.locks.len
  have hp := h.pairs.len
  have hs := h.sess.len
  have h1 := numOut_le s.index
  have h2 := numOut_le (s.locks.length : Int)
  have h3 := numOut_le (s.pairs.length : Int)
  have h4 := numOut_le (s.sess.length : Int)
  have h5 := catB_size lockOut 60 s.locks (fun k hk => lockOut_le (h.locks.each k hk).1)
  have h6 := catB_size pairOut 40 s.pairs (fun k hk => pairOut_le (h.pairs.each k hk))
  have h7 := catB_size sessOut 200 s.sess (fun k hk => sessOut_le (h.sess.fine k hk))
  unfold snapBody
  simp only [ByteArray.size_append]
  omega

theorem snapOut_size (s : StateD) : (snapOut s).size = (snapBody s).size + 4 := by unfold snapOut; rw [ByteArray.size_append, sealOut_size]

theorem snapOut_body (s : StateD) : (snapOut s).extract 0 ((snapOut s).size - 4) = snapBody s ∧ (snapOut s).extract ((snapOut s).size - 4) (snapOut s).size = sealOut (snapBody s) := by
  have hz := snapOut_size s
  rw [hz, Nat.add_sub_cancel]
  unfold snapOut
  constructor
  · apply bytes_ext
    simp only [ByteArray.data_extract, ByteArray.data_append, Array.toList_extract, Array.toList_append, List.extract_eq_take_drop, List.drop_zero, Nat.sub_zero]
    rw [List.take_append_of_le_length (by simp), List.take_of_length_le (by simp)]
  · apply bytes_ext
    have h4 := sealOut_size (snapBody s)
    simp only [ByteArray.data_extract, ByteArray.data_append, Array.toList_extract, Array.toList_append, List.extract_eq_take_drop]
    rw [List.drop_append_of_le_length (by simp), List.drop_of_length_le (by simp), List.nil_append, List.take_of_length_le (by rw [size_list]; omega)]

end Go.Proofs.YtijilhbdbeajjaaGreatDoor

namespace Go.Proofs.YtijilhbdbeajjaaGreatDoor

open Go.RowKit

/-- How many: at most so many. -/
def stepM (most : Int) (r : ByteArray × Int) : Int × ByteArray × Int :=
  if (stepN r).2.2 = 0 then (if most < (stepN r).1 then (0, (stepN r).2.1, 1) else stepN r) else (0, (stepN r).2)

/-- So many things, one behind another. -/
def rowR {α : Type} (f : ByteArray × Int → α × ByteArray × Int) : Nat → ByteArray × Int → List α × ByteArray × Int
  | 0, r => ([], r)
  | n + 1, r => ((f r).1 :: (rowR f n (f r).2).1, (rowR f n (f r).2).2)

theorem rowR_snoc {α : Type} (f : ByteArray × Int → α × ByteArray × Int) (n : Nat) (r : ByteArray × Int) : rowR f (n + 1) r = ((rowR f n r).1 ++ [(f (rowR f n r).2).1], (f (rowR f n r).2).2) := by
  induction n generalizing r with
  | zero => rfl
  | succ n ih =>
    have e := ih (f r).2
    show ((f r).1 :: (rowR f (n + 1) (f r).2).1, (rowR f (n + 1) (f r).2).2) = _
    rw [e]
    rfl

theorem rowR_length {α : Type} (f : ByteArray × Int → α × ByteArray × Int) (n : Nat) (r : ByteArray × Int) : (rowR f n r).1.length = n := by
  induction n generalizing r with
  | zero => rfl
  | succ n ih => simp [rowR, ih]

theorem rowR_all {α : Type} {f : ByteArray × Int → α × ByteArray × Int} {out : α → ByteArray} (xs : List α) (h : ∀ x ∈ xs, ∀ t, f (out x ++ t, 0) = (x, t, 0)) (t : ByteArray) : rowR f xs.length (catB (xs.map out) ++ t, 0) = (xs, t, 0) := by
  induction xs with
  | nil => rw [List.map_nil, catB_nil, nilB]; rfl
  | cons x xs ih =>
    rw [List.length_cons, List.map_cons, catB_cons, ByteArray.append_assoc]
    unfold rowR
    rw [h x (by simp), ih (fun y hy => h y (by simp [hy]))]

def lockR (r : ByteArray × Int) : LockD × ByteArray × Int :=
  let a := stepT r
  let b := stepN a.2
  let c := stepN b.2
  let m := stepM 3 c.2
  let l := rowR stepN m.1.toNat m.2
  (⟨a.1, b.1, c.1, l.1⟩, l.2)

def pairR (r : ByteArray × Int) : PairD × ByteArray × Int :=
  let a := stepT r
  let b := stepT a.2
  let c := stepN b.2
  (⟨a.1, b.1, c.1⟩, c.2)

def keptR (r : ByteArray × Int) : KeptD × ByteArray × Int :=
  let a := stepN r
  let b := stepN a.2
  let c := stepN b.2
  let d := stepT c.2
  (⟨a.1, b.1, c.1, d.1⟩, d.2)

def sessR (r : ByteArray × Int) : SessD × ByteArray × Int :=
  let a := stepN r
  let b := stepN a.2
  let c := stepN b.2
  let d := stepN c.2
  let m := stepM 4 d.2
  let l := rowR keptR m.1.toNat m.2
  (⟨a.1, b.1, c.1, d.1, l.1⟩, l.2)

/-- A state, read. -/
def snapR (r : ByteArray × Int) : StateD × ByteArray × Int :=
  let a := stepN r
  let m := stepM 5 a.2
  let l := rowR lockR m.1.toNat m.2
  let n := stepM 5 l.2
  let p := rowR pairR n.1.toNat n.2
  let k := stepM 4 p.2
  let x := rowR sessR k.1.toNat k.2
  (⟨a.1, l.1, p.1, x.1⟩, x.2)

/-- What Decode refuses. -/
def snapE (s : ByteArray) : Int :=
  if 5000 < s.size then 1 else if s.size < 4 then 5 else if sealOut (s.extract 0 (s.size - 4)) ≠ s.extract (s.size - 4) s.size then 15
  else if endE (snapR (s.extract 0 (s.size - 4), 0)).2 ≠ 0 then endE (snapR (s.extract 0 (s.size - 4), 0)).2 else checkM (snapR (s.extract 0 (s.size - 4), 0)).1

/-- What Decode answers. -/
def snapL (s : ByteArray) : StateD := if snapE s = 0 then (snapR (s.extract 0 (s.size - 4), 0)).1 else ⟨0, [], [], []⟩

theorem num_all {n : Int} (h0 : 0 ≤ n) (h1 : n ≤ 1099511627776) (t : ByteArray) : stepN (numOut n ++ t, 0) = (n, t, 0) := stepN_all (part_num n h0 h1) t

theorem text_all {u : ByteArray} (h : u.size ≤ 5000) (t : ByteArray) : stepT (textOut u ++ t, 0) = (u, t, 0) := stepT_all (part_text u h) t

theorem many_all {n : Nat} {most : Int} (h : (n : Int) ≤ most) (hm : most ≤ 1000) (t : ByteArray) : stepM most (numOut n ++ t, 0) = ((n : Int), t, 0) := by
  unfold stepM
  rw [num_all (by omega) (by omega), if_pos rfl, if_neg (by show ¬ most < (n : Int); omega)]

theorem lock_all {k : LockD} (h : LockOk k) (h1 : 1 ≤ k.fence) (h2 : k.fence ≤ 1073741824) (t : ByteArray) : lockR (lockOut k ++ t, 0) = (k, t, 0) := by
  have hn := (nameB_yes h.name).2.1
  have hl := h.line.len
  unfold lockR lockOut
  simp only [ByteArray.append_assoc]
  rw [text_all (by omega)]
  simp only
  rw [num_all h.low (by have := h.high; omega)]
  simp only
  rw [num_all (by omega) (by omega)]
  simp only
  rw [many_all (by omega) (by omega)]
  simp only [Int.toNat_natCast]
  rw [rowR_all k.line (fun x hx t => num_all (by have := h.line.each x hx; omega) (by have := h.line.each x hx; omega) t)]

theorem pair_all {p : PairD} (h : nameB p.name = true ∧ p.value.size ≤ 12 ∧ 1 ≤ p.version ∧ p.version ≤ 1073741824) (t : ByteArray) : pairR (pairOut p ++ t, 0) = (p, t, 0) := by
  have hn := (nameB_yes h.1).2.1
  unfold pairR pairOut
  simp only [ByteArray.append_assoc]
  rw [text_all (by omega)]
  simp only
  rw [text_all (by omega)]
  simp only
  rw [num_all (by omega) (by omega)]

theorem kept_all {k : KeptD} (h0 : 0 ≤ k.seq) (h1 : k.seq ≤ 1073741824) (hk : keptB k = true) (t : ByteArray) : keptR (keptOut k ++ t, 0) = (k, t, 0) := by
  have hr := replyB_iff.1 hk
  unfold keptR keptOut
  simp only [ByteArray.append_assoc]
  rw [num_all h0 (by omega)]
  simp only
  rw [num_all (by omega) (by omega)]
  simp only
  rw [num_all (by omega) (by omega)]
  simp only
  rw [text_all (by omega)]

theorem sess_all {i : Int} {x : SessD} (hi : i ≤ 1073741824) (h : Fine i x) (t : ByteArray) : sessR (sessOut x ++ t, 0) = (x, t, 0) := by
  have hr := rangeB_iff.1 h.range
  have hl := sformB_len h.form
  have hm := formFrom_mem h.form
  unfold sessR sessOut
  simp only [ByteArray.append_assoc]
  rw [num_all (by omega) (by omega)]
  simp only
  rw [num_all (by omega) (by omega)]
  simp only
  rw [num_all (by omega) (by omega)]
  simp only
  rw [num_all (by omega) (by omega)]
  simp only
  rw [many_all (by omega) (by omega)]
  simp only [Int.toNat_natCast]
  rw [rowR_all x.replies (fun k hk t => kept_all (by have := hm k hk; omega) (by have := hm k hk; omega) (hm k hk).2.2 t)]

/-- A state is read as it was written. -/
theorem snapR_all {s : StateD} (h : GoodM s) (t : ByteArray) : snapR (snapBody s ++ t, 0) = (s, t, 0) := by
  have h0 := h.sess.low
  have h1 := h.sess.high
  have hl := h.locks.len
  have hp := h.pairs.len
  have hs := h.sess.len
  unfold snapR snapBody
  simp only [ByteArray.append_assoc]
  rw [num_all h0 (by omega)]
  simp only
  rw [many_all (by omega) (by omega)]
  simp only [Int.toNat_natCast]
  rw [rowR_all s.locks (fun k hk t => lock_all (h.locks.each k hk).1 (h.locks.each k hk).2.1 (h.locks.each k hk).2.2 t)]
  simp only
  rw [many_all (by omega) (by omega)]
  simp only [Int.toNat_natCast]
  rw [rowR_all s.pairs (fun k hk t => pair_all (h.pairs.each k hk) t)]
  simp only
  rw [many_all (by omega) (by omega)]
  simp only [Int.toNat_natCast]
  rw [rowR_all s.sess (fun k hk t => sess_all h1 (h.sess.fine k hk) t)]

/-- What was written is read. -/
theorem snap_all {s : StateD} (h : GoodM s) : snapE (snapOut s) = 0 ∧ snapL (snapOut s) = s := by
  have hz := snapOut_size s
  have hb := snapBody_le h
  obtain ⟨e1, e2⟩ := snapOut_body s
  have er : snapR (snapBody s, 0) = (s, ⟨#[]⟩, 0) := by
    have := snapR_all h ⟨#[]⟩
    rwa [bnil] at this
  have he : snapE (snapOut s) = 0 := by
    unfold snapE
    rw [if_neg (by omega), if_neg (by omega), e1, e2, if_neg (by simp), er]
    have : endE ((⟨#[]⟩ : ByteArray), (0 : Int)) = 0 := rfl
    simp only [this]
    rw [if_neg (by simp)]
    exact h.check
  refine ⟨he, ?_⟩
  unfold snapL
  rw [if_pos he, e1, er]

end Go.Proofs.YtijilhbdbeajjaaGreatDoor

namespace Go.Proofs.YtijilhbdbeajjaaGreatDoor

open Go.RowKit

set_option maxHeartbeats 800000 in
theorem last_raw (base : Int) (eo : Option Addr) (n ec : Nat) (w : World) (h0 : 0 ≤ base ∧ base ≤ 1073741424 ∧ n ≤ 400) :
    Calls Tryz.prog 33 #[.agg #[.int .i64 base, .slice eo n ec]] w fun e w' => e = .returned (.int .i64 (base + n)) ∧ Below w.heap.size w w' := by
  have HB0 : Hid (Below w.heap.size w (w.alloc (.cells #[.int .i64 base, .slice eo n ec] 43))) := (Below.refl _ _).alloc (Nat.le_refl _) _
  go_enter Tryz.func33, Tryz.ntmps33
  go_wp2
  go_ret
  exact ⟨rfl, HB0.out⟩

/-- What a log that may be keeps to. -/
theorem logE_zero {l : LogD} (h : logE l = 0) : (0 ≤ l.base ∧ l.base ≤ 1073741424 ∧ l.ents.length ≤ 400) ∧ firstE l.ents = 0 := by
  unfold logE at h
  by_cases h1 : ¬ (0 ≤ l.base ∧ l.base ≤ 1073741424)
  · rw [if_pos h1] at h
    exact absurd h (by decide)
  · rw [if_neg h1] at h
    by_cases h2 : 400 < l.ents.length
    · rw [if_pos h2] at h
      exact absurd h (by decide)
    · rw [if_neg h2] at h
      exact ⟨by omega, h⟩

end Go.Proofs.YtijilhbdbeajjaaGreatDoor

namespace Go.Proofs.YtijilhbdbeajjaaGreatDoor

open Go.RowKit

/-- A mail, as plain data. -/
structure MailD where
  client : Int
  seq : Int
  reply : ReplyD

/-- Is it a snapshot of that base? -/
def tellsB (s : ByteArray) (base : Int) : Bool := if base = 0 then decide (s = ⟨#[]⟩) else decide (snapE s = 0 ∧ (snapL s).index = base)

/-- What is wrong with a replica; 0: nothing. -/
def repE (r : RepD) : Int :=
  if logE r.log ≠ 0 then logE r.log else if checkM r.state ≠ 0 then checkM r.state
  else if ¬ (r.log.base ≤ r.state.index ∧ r.state.index ≤ lastL r.log) then 9 else if tellsB r.snap r.log.base = false then 9 else 0

/-- The entries that were applied. -/
def doneL (r : RepD) : List ByteArray := r.log.ents.take (r.state.index - r.log.base).toNat

def hearE (r : RepD) (behind : Int) (more : List ByteArray) : Int :=
  if repE r ≠ 0 then repE r else if putE r.log behind more ≠ 0 then putE r.log behind more else if opens (doneL r) (putL r.log behind more).ents = false then 9 else 0

def hearL (r : RepD) (behind : Int) (more : List ByteArray) : RepD := if hearE r behind more = 0 then ⟨putL r.log behind more, r.snap, r.state⟩ else .zero

/-- The entries that are to be applied, up to an index. -/
def todoL (r : RepD) (upto : Int) : List ByteArray :=
  (r.log.ents.drop (r.state.index - r.log.base).toNat).take (min (max upto r.state.index) (lastL r.log) - r.state.index).toNat

/-- A state behind entries; what is replied. -/
def runE (s : StateD) (ts : List ByteArray) : StateD := ts.foldl (fun s t => (applyM s (decL t)).1) s

def mailsE : StateD → List ByteArray → List MailD
  | _, [] => []
  | s, t :: r => ⟨(decL t).client, (decL t).seq, (applyM s (decL t)).2⟩ :: mailsE (applyM s (decL t)).1 r

def goE (r : RepD) (upto : Int) : Int := if repE r ≠ 0 then repE r else if ¬ (0 ≤ upto ∧ upto ≤ 1073741824) then 2 else 0

def goL (r : RepD) (upto : Int) : RepD := if goE r upto = 0 then ⟨r.log, r.snap, runE r.state (todoL r upto)⟩ else .zero

def goM (r : RepD) (upto : Int) : List MailD := if goE r upto = 0 then mailsE r.state (todoL r upto) else []

def compE (r : RepD) : Int := if repE r ≠ 0 then repE r else if r.state.index = r.log.base then 12 else if cutE r.log r.state.index ≠ 0 then cutE r.log r.state.index else 0

def compL (r : RepD) : RepD := if compE r = 0 then ⟨cutL r.log r.state.index, snapOut r.state, r.state⟩ else .zero

def instE (r : RepD) (s : ByteArray) : Int := if repE r ≠ 0 then repE r else if snapE s ≠ 0 then snapE s else if (snapL s).index ≤ r.state.index then 12 else if 1073741424 < (snapL s).index then 8 else 0

def instL (r : RepD) (s : ByteArray) : RepD := if instE r s = 0 then ⟨⟨(snapL s).index, behindL r.log (snapL s).index 400⟩, s, snapL s⟩ else .zero

def recallL (s : ByteArray) : StateD := if s = ⟨#[]⟩ then .zero else snapL s

def recallE (s : ByteArray) : Int := if s = ⟨#[]⟩ then 0 else snapE s

def restL (r : RepD) : RepD := if repE r = 0 then ⟨r.log, r.snap, recallL r.snap⟩ else .zero

/-- What a replica that may be keeps to. -/
theorem repE_zero {r : RepD} (h : repE r = 0) : logE r.log = 0 ∧ checkM r.state = 0 ∧ (r.log.base ≤ r.state.index ∧ r.state.index ≤ lastL r.log) ∧ tellsB r.snap r.log.base = true := by
  unfold repE at h
  by_cases h1 : logE r.log = 0
  · rw [if_neg (by simpa using h1)] at h
    by_cases h2 : checkM r.state = 0
    · rw [if_neg (by simpa using h2)] at h
      by_cases h3 : r.log.base ≤ r.state.index ∧ r.state.index ≤ lastL r.log
      · rw [if_neg (by simpa using h3)] at h
        cases h4 : tellsB r.snap r.log.base with
        | true => exact ⟨h1, h2, h3, rfl⟩
        | false => rw [h4, if_pos rfl] at h; cases h
      · rw [if_pos h3] at h; cases h
    · rw [if_pos h2] at h; exact absurd h h2
  · rw [if_pos h1] at h; exact absurd h h1

theorem repE_of {r : RepD} (h1 : logE r.log = 0) (h2 : checkM r.state = 0) (h3 : r.log.base ≤ r.state.index ∧ r.state.index ≤ lastL r.log) (h4 : tellsB r.snap r.log.base = true) : repE r = 0 := by
  unfold repE
  rw [if_neg (by simpa using h1), if_neg (by simpa using h2), if_neg (by simpa using h3), if_neg (by rw [h4]; decide)]

theorem recall_zero {s : ByteArray} {b : Int} (h : tellsB s b = true) : recallE s = 0 := by
  unfold tellsB at h
  unfold recallE
  by_cases hb : b = 0
  · rw [if_pos hb] at h
    rw [if_pos (by simpa using h)]
  · rw [if_neg hb] at h
    have := (of_decide_eq_true h).1
    split
    · rfl
    · exact this

theorem runE_append (s : StateD) (a b : List ByteArray) : runE s (a ++ b) = runE (runE s a) b := List.foldl_append

theorem todo_len {r : RepD} (h : repE r = 0) (upto : Int) : r.state.index + (todoL r upto).length = min (max upto r.state.index) (lastL r.log) := by
  obtain ⟨-, -, ⟨h1, h2⟩, -⟩ := repE_zero h
  unfold todoL
  rw [List.length_take, List.length_drop]
  unfold lastL at h2 ⊢
  omega

end Go.Proofs.YtijilhbdbeajjaaGreatDoor

namespace Go.Proofs.YtijilhbdbeajjaaGreatDoor

open Go.RowKit

/-- A call that waits, as plain data. -/
structure WaitD where
  seq : Int
  kind : Int
  a : ByteArray
  b : ByteArray
  n : Int

/-- A client, as plain data. -/
structure CustD where
  id : Int
  session : Int
  next : Int
  waits : List WaitD

def CustD.zero : CustD := ⟨0, 0, 0, []⟩

/-- What is wrong with calls that wait, one by one. -/
def waitsE (next first : Int) : Int → List WaitD → Int
  | _, [] => 0
  | ahead, x :: r => if ¬ (1 ≤ x.seq ∧ x.seq ≤ next - 1) ∨ 3 < x.seq - first ∨ x.seq ≤ ahead then 9 else if opE x.kind x.a x.b x.n ≠ 0 then opE x.kind x.a x.b x.n else waitsE next first x.seq r

def firstW : List WaitD → Int
  | [] => 0
  | x :: _ => x.seq

/-- What Check answers. -/
def checkC (c : CustD) : Int :=
  if ¬ (1 ≤ c.id ∧ c.id ≤ 9) ∨ ¬ (0 ≤ c.session ∧ c.session ≤ 1073741824) ∨ ¬ (1 ≤ c.next ∧ c.next ≤ 1048577) then 2
  else if 4 < c.waits.length ∨ (0 < c.waits.length ∧ c.session = 0) then 9
  else waitsE c.next (firstW c.waits) 0 c.waits

/-- What a client knows. -/
def knownC (c : CustD) : Int := match c.waits with
  | [] => c.next - 1
  | x :: _ => x.seq - 1

/-- What Start refuses, and answers. -/
def startE (c : CustD) (k : Int) (a b : ByteArray) (n : Int) : Int :=
  if checkC c ≠ 0 then checkC c else if c.session = 0 then 11 else if opE k a b n ≠ 0 then opE k a b n else if 1048576 < c.next ∨ 4 < c.next - knownC c then 8 else 0

def startL (c : CustD) (k : Int) (a b : ByteArray) (n : Int) : CustD := ⟨c.id, c.session, c.next + 1, c.waits ++ [⟨c.next, k, a, b, n⟩]⟩

/-- What Request refuses. -/
def requestE (c : CustD) (k : Int) : Int := if checkC c ≠ 0 then checkC c else if ¬ (0 ≤ k ∧ k ≤ (c.waits.length : Int) - 1) then 6 else 0

/-- What Hear refuses, and answers. -/
def chearE (c : CustD) (cl q rc rn : Int) : Int :=
  if checkC c ≠ 0 then checkC c else if cl ≠ c.id then 6
  else if q = 0 then (if 0 < c.session then 12 else if (rc = 0 ∨ rc = 7) ∧ ¬ (1 ≤ rn ∧ rn ≤ 1073741824) then 2 else 0)
  else if c.waits.any (fun x => x.seq == q) then 0 else 12

def chearL (c : CustD) (q rc rn : Int) : CustD :=
  if q = 0 then (if rc = 0 ∨ rc = 7 then ⟨c.id, rn, c.next, c.waits⟩ else c)
  else if rc = 11 then ⟨c.id, 0, c.next, []⟩ else ⟨c.id, c.session, c.next, c.waits.filter (fun x => x.seq != q)⟩

/-- What a client that may be keeps to. -/
structure GoodC (c : CustD) : Prop where
  id : 1 ≤ c.id ∧ c.id ≤ 9
  session : 0 ≤ c.session ∧ c.session ≤ 1073741824
  next : 1 ≤ c.next ∧ c.next ≤ 1048577
  len : c.waits.length ≤ 4
  held : 0 < c.waits.length → c.session ≠ 0
  each : ∀ x ∈ c.waits, 1 ≤ x.seq ∧ x.seq ≤ c.next - 1 ∧ x.seq - firstW c.waits ≤ 3 ∧ opE x.kind x.a x.b x.n = 0
  order : c.waits.Pairwise (fun x y => x.seq < y.seq)

theorem waitsE_zero {next first : Int} : ∀ {ahead : Int} {ws : List WaitD}, waitsE next first ahead ws = 0 → (∀ x ∈ ws, 1 ≤ x.seq ∧ x.seq ≤ next - 1 ∧ x.seq - first ≤ 3 ∧ opE x.kind x.a x.b x.n = 0 ∧ ahead < x.seq) ∧ ws.Pairwise (fun x y => x.seq < y.seq)
  | _, [], _ => ⟨fun x hx => absurd hx (by simp), List.Pairwise.nil⟩
  | ahead, x :: r, h => by
    unfold waitsE at h
    split at h
    · cases h
    · rename_i h1
      split at h
      · rename_i h2; exact absurd h h2
      · rename_i h2
        have h2' : opE x.kind x.a x.b x.n = 0 := Classical.byContradiction h2
        obtain ⟨i1, i2⟩ := waitsE_zero h
        refine ⟨fun y hy => ?_, List.Pairwise.cons (fun y hy => (i1 y hy).2.2.2.2) i2⟩
        rcases List.mem_cons.1 hy with rfl | hy
        · exact ⟨by omega, by omega, by omega, h2', by omega⟩
        · have := i1 y hy
          exact ⟨this.1, this.2.1, this.2.2.1, this.2.2.2.1, by omega⟩

theorem waitsE_of {next first : Int} : ∀ {ahead : Int} {ws : List WaitD}, (∀ x ∈ ws, 1 ≤ x.seq ∧ x.seq ≤ next - 1 ∧ x.seq - first ≤ 3 ∧ opE x.kind x.a x.b x.n = 0 ∧ ahead < x.seq) → ws.Pairwise (fun x y => x.seq < y.seq) → waitsE next first ahead ws = 0
  | _, [], _, _ => rfl
  | ahead, x :: r, h, hp => by
    have hx := h x (by simp)
    unfold waitsE
    rw [if_neg (by omega), if_neg (fun e => e hx.2.2.2.1)]
    cases hp with
    | cons h1 h2 => exact waitsE_of (fun y hy => by
        have := h y (by simp [hy])
        exact ⟨this.1, this.2.1, this.2.2.1, this.2.2.2.1, h1 y hy⟩) h2

theorem GoodC.of {c : CustD} (h : checkC c = 0) : GoodC c := by
  unfold checkC at h
  split at h
  · cases h
  · rename_i h1
    split at h
    · cases h
    · rename_i h2
      obtain ⟨i1, i2⟩ := waitsE_zero h
      exact ⟨by omega, by omega, by omega, by omega, fun hl e => h2 (.inr ⟨hl, e⟩), fun x hx => by have := i1 x hx; exact ⟨this.1, this.2.1, this.2.2.1, this.2.2.2.1⟩, i2⟩

theorem GoodC.check {c : CustD} (h : GoodC c) : checkC c = 0 := by
  have h1 := h.id
  have h2 := h.session
  have h3 := h.next
  have h4 := h.len
  unfold checkC
  rw [if_neg (by omega), if_neg (by
    rintro (e | ⟨e1, e2⟩)
    · omega
    · exact h.held e1 e2)]
  exact waitsE_of (fun x hx => by have := h.each x hx; exact ⟨this.1, this.2.1, this.2.2.1, this.2.2.2, by omega⟩) h.order

theorem drop_stepW {ws : List WaitD} {k : Nat} {x : WaitD} (h : ws[k]? = some x) : ws.drop k = x :: ws.drop (k + 1) := by
  obtain ⟨hk, he⟩ := List.getElem?_eq_some_iff.1 h
  rw [List.drop_eq_getElem_cons hk, he]

theorem firstW_of {ws : List WaitD} {x : WaitD} (h : ws[0]? = some x) : firstW ws = x.seq := by
  cases ws with
  | nil => simp at h
  | cons y r => simp at h; rw [h]; rfl

end Go.Proofs.YtijilhbdbeajjaaGreatDoor

namespace Go.Proofs.YtijilhbdbeajjaaGreatDoor

open Go.RowKit

/-- What a Join's reply does: hearJoin's refusals, and what it makes of a client. -/
def hjE (se rc rn : Int) : Int := if se ≠ 0 then 12 else if (rc = 0 ∨ rc = 7) ∧ ¬ (1 ≤ rn ∧ rn ≤ 1073741824) then 2 else 0

def hjS (se rc rn : Int) : Int := if rc = 0 ∨ rc = 7 then rn else se

/-- What Hear makes of a client; of one that it refuses, nothing. -/
def hearC (c : CustD) (cl q rc rn : Int) : CustD := if chearE c cl q rc rn = 0 then chearL c q rc rn else .zero

theorem idxI_cases {α : Type} (p : α → Bool) (ls : List α) : (idxI p ls = -1 ∧ ls.any p = false) ∨ (∃ (i : Nat) (x : α), idxI p ls = i ∧ ls[i]? = some x ∧ p x = true ∧ ls.any p = true) := by
  by_cases h : ls.findIdx p < ls.length
  · right
    refine ⟨ls.findIdx p, ls[ls.findIdx p], by unfold idxI; rw [if_pos h], List.getElem?_eq_getElem h, List.findIdx_getElem (w := h), ?_⟩
    exact List.any_eq_true.2 ⟨_, List.getElem_mem h, List.findIdx_getElem (w := h)⟩
  · left
    refine ⟨by unfold idxI; rw [if_neg h], ?_⟩
    have hl : ls.findIdx p = ls.length := by have := List.findIdx_le_length (p := p) (xs := ls); omega
    rw [List.findIdx_eq_length] at hl
    exact List.any_eq_false.2 fun x hx => by simpa using hl x hx

/-- The one of that number taken out. -/
theorem filter_erase {q : Int} : ∀ {ws : List WaitD} {i : Nat} {x : WaitD}, ws.Pairwise (fun x y => x.seq < y.seq) → ws[i]? = some x → x.seq = q → ws.filter (fun x => x.seq != q) = ws.eraseIdx i
  | [], i, x, _, h, _ => by simp at h
  | y :: r, 0, x, hp, h, hq => by
    simp only [List.getElem?_cons_zero, Option.some.injEq] at h
    subst h
    cases hp with
    | cons h1 h2 =>
      rw [List.filter_cons, if_neg (by simp [hq])]
      simp only [List.eraseIdx_cons_zero]
      exact List.filter_eq_self.2 fun z hz => by have := h1 z hz; simp; omega
  | y :: r, i + 1, x, hp, h, hq => by
    rw [List.getElem?_cons_succ] at h
    cases hp with
    | cons h1 h2 =>
      have hy := h1 x (List.mem_of_getElem? h)
      rw [List.filter_cons, if_pos (by simp; omega), List.eraseIdx_cons_succ, filter_erase h2 h hq]

theorem hear_join {c : CustD} {cl rc rn : Int} (hc : checkC c = 0) (hcl : cl = c.id) : chearE c cl 0 rc rn = hjE c.session rc rn := by
  have hs := (GoodC.of hc).session
  unfold chearE hjE
  rw [if_neg (by simpa using hc), if_neg (by simpa using hcl), if_pos rfl]
  by_cases h : c.session = 0
  · rw [if_neg (show ¬ 0 < c.session by omega), if_neg (show ¬ c.session ≠ 0 from fun e => e h)]
  · rw [if_pos (show 0 < c.session by omega), if_pos h]

theorem hearL_join (c : CustD) (rc rn : Int) : chearL c 0 rc rn = ⟨c.id, hjS c.session rc rn, c.next, c.waits⟩ := by
  unfold chearL hjS
  rw [if_pos rfl]
  split <;> rfl

theorem hear_call {c : CustD} {cl q rc rn : Int} (hc : checkC c = 0) (hcl : cl = c.id) (hq : q ≠ 0) : chearE c cl q rc rn = if c.waits.any (fun x => x.seq == q) then 0 else 12 := by
  unfold chearE
  rw [if_neg (by simpa using hc), if_neg (by simpa using hcl), if_neg hq]

theorem hearL_call (c : CustD) {q rc rn : Int} (hq : q ≠ 0) (hrc : rc ≠ 11) : chearL c q rc rn = ⟨c.id, c.session, c.next, c.waits.filter (fun x => x.seq != q)⟩ := by
  unfold chearL
  rw [if_neg hq, if_neg hrc]

theorem hearL_away (c : CustD) {q rn : Int} (hq : q ≠ 0) : chearL c q 11 rn = ⟨c.id, 0, c.next, []⟩ := by
  unfold chearL
  rw [if_neg hq, if_pos rfl]

end Go.Proofs.YtijilhbdbeajjaaGreatDoor

namespace Go.Proofs.YtijilhbdbeajjaaGreatDoor

open Go.RowKit

theorem first_le {ws : List WaitD} (ho : ws.Pairwise (fun x y => x.seq < y.seq)) {x : WaitD} (hx : x ∈ ws) : firstW ws ≤ x.seq := by
  cases ws with
  | nil => cases hx
  | cons y r =>
    cases ho with
    | cons h1 h2 =>
      rcases List.mem_cons.1 hx with rfl | hx
      · exact Int.le_refl _
      · have := h1 x hx
        show y.seq ≤ _
        omega

theorem first_mem {ws : List WaitD} (h : 0 < ws.length) : ∃ x ∈ ws, firstW ws = x.seq := by
  cases ws with
  | nil => simp at h
  | cons y r => exact ⟨y, by simp, rfl⟩

/-- Fewer calls of a client that may be. -/
theorem GoodC.sub {c : CustD} (h : GoodC c) {us : List WaitD} (hs : us.Sublist c.waits) : GoodC ⟨c.id, c.session, c.next, us⟩ where
  id := h.id
  session := h.session
  next := h.next
  len := Nat.le_trans hs.length_le h.len
  held := fun hp => h.held (Nat.lt_of_lt_of_le hp hs.length_le)
  each := fun x hx => by
    have h1 := h.each x (hs.subset hx)
    obtain ⟨y, hy, he⟩ := first_mem (ws := us) (List.length_pos_of_mem hx)
    have h2 := first_le h.order (hs.subset hy)
    exact ⟨h1.1, h1.2.1, by show x.seq - firstW us ≤ 3; omega, h1.2.2.2⟩
  order := h.order.sublist hs

theorem GoodC.gone {c : CustD} (h : GoodC c) : GoodC ⟨c.id, 0, c.next, []⟩ where
  id := h.id
  session := ⟨Int.le_refl _, by show (0 : Int) ≤ _; omega⟩
  next := h.next
  len := Nat.zero_le _
  held := fun hp => absurd hp (by simp)
  each := fun x hx => absurd hx (by simp)
  order := List.Pairwise.nil

theorem GoodC.joined {c : CustD} (h : GoodC c) {s : Int} (hs : 1 ≤ s ∧ s ≤ 1073741824) : GoodC ⟨c.id, s, c.next, c.waits⟩ where
  id := h.id
  session := ⟨by show 0 ≤ s; omega, hs.2⟩
  next := h.next
  len := h.len
  held := fun _ => by show s ≠ 0; omega
  each := h.each
  order := h.order

theorem startE_zero {c : CustD} {k n : Int} {a b : ByteArray} (h : startE c k a b n = 0) : checkC c = 0 ∧ c.session ≠ 0 ∧ opE k a b n = 0 ∧ c.next ≤ 1048576 ∧ c.next - knownC c ≤ 4 := by
  unfold startE at h
  split at h
  · rename_i h1; exact absurd h h1
  · rename_i h1
    split at h
    · omega
    · rename_i h2
      split at h
      · rename_i h3; exact absurd h h3
      · rename_i h3
        split at h
        · omega
        · rename_i h4
          exact ⟨Classical.byContradiction h1, h2, Classical.byContradiction h3, by omega, by omega⟩

theorem known_first {c : CustD} (h : 0 < c.waits.length) : knownC c = firstW c.waits - 1 := by
  obtain ⟨id, se, nx, ws⟩ := c
  cases ws with
  | nil => simp at h
  | cons y r => rfl

/-- A call that was started: the client may be. -/
theorem GoodC.started {c : CustD} {k n : Int} {a b : ByteArray} (h : startE c k a b n = 0) : GoodC (startL c k a b n) := by
  obtain ⟨hc, hs, ho, hn, hk⟩ := startE_zero h
  have G := GoodC.of hc
  have hnx := G.next
  have hfirst : firstW (c.waits ++ [⟨c.next, k, a, b, n⟩]) = if 0 < c.waits.length then firstW c.waits else c.next := by
    obtain ⟨id, se, nx, ws⟩ := c
    cases ws <;> rfl
  have hfl : c.next - firstW (c.waits ++ [⟨c.next, k, a, b, n⟩]) ≤ 3 := by
    rw [hfirst]
    split
    · rename_i hp
      rw [known_first hp] at hk
      omega
    · omega
  have hlow : ∀ x ∈ c.waits, x.seq < c.next := fun x hx => by have := (G.each x hx).2.1; omega
  refine ⟨G.id, G.session, ?_, ?_, fun _ => hs, ?_, ?_⟩
  · show 1 ≤ c.next + 1 ∧ c.next + 1 ≤ 1048577
    omega
  · show (c.waits ++ [_]).length ≤ 4
    rw [List.length_append]
    by_cases hp : 0 < c.waits.length
    · -- strictly growing numbers from the first one to below Next
      have key : ∀ (ws : List WaitD) (m : Int), ws.Pairwise (fun x y => x.seq < y.seq) → (∀ x ∈ ws, m ≤ x.seq ∧ x.seq < c.next) → (ws.length : Int) ≤ max 0 (c.next - m) := by
        intro ws
        induction ws with
        | nil => intro m _ _; simp; omega
        | cons y r ih =>
          intro m hp2 hm
          cases hp2 with
          | cons h1 h2 =>
            have hy := hm y (by simp)
            have := ih (y.seq + 1) h2 (fun x hx => ⟨by have := h1 x hx; omega, (hm x (by simp [hx])).2⟩)
            simp only [List.length_cons]
            omega
      have := key c.waits (firstW c.waits) G.order (fun x hx => ⟨first_le G.order hx, hlow x hx⟩)
      rw [known_first hp] at hk
      simp only [List.length_cons, List.length_nil]
      omega
    · simp only [List.length_cons, List.length_nil]
      omega
  · intro x hx
    have hx' : x ∈ c.waits ++ [⟨c.next, k, a, b, n⟩] := hx
    show 1 ≤ x.seq ∧ x.seq ≤ c.next + 1 - 1 ∧ x.seq - firstW (c.waits ++ [⟨c.next, k, a, b, n⟩]) ≤ 3 ∧ _
    rcases List.mem_append.1 hx' with hx' | hx'
    · have h1 := G.each x hx'
      have hp : 0 < c.waits.length := List.length_pos_of_mem hx'
      rw [hfirst, if_pos hp]
      exact ⟨h1.1, by omega, h1.2.2.1, h1.2.2.2⟩
    · have : x = ⟨c.next, k, a, b, n⟩ := by simpa using hx'
      subst this
      exact ⟨hnx.1, by show c.next ≤ _; omega, hfl, ho⟩
  · show (c.waits ++ [_]).Pairwise _
    rw [List.pairwise_append]
    refine ⟨G.order, by simp, fun x hx y hy => ?_⟩
    have : y = ⟨c.next, k, a, b, n⟩ := by simpa using hy
    subst this
    exact hlow x hx

/-- A mail that was heard: the client may be. -/
theorem GoodC.heard {c : CustD} {cl q rc rn : Int} (h : chearE c cl q rc rn = 0) : GoodC (chearL c q rc rn) := by
  have hc : checkC c = 0 := by
    unfold chearE at h
    by_cases e : checkC c = 0
    · exact e
    · rw [if_pos e] at h; exact absurd h e
  have hcl : cl = c.id := by
    unfold chearE at h
    rw [if_neg (by simpa using hc)] at h
    refine Classical.byContradiction fun e => ?_
    rw [if_pos e] at h
    omega
  have G := GoodC.of hc
  by_cases hq : q = 0
  · subst hq
    rw [hear_join hc hcl] at h
    rw [hearL_join]
    unfold hjE at h
    unfold hjS
    by_cases h0 : c.session = 0
    · rw [if_neg (by simpa using h0)] at h
      by_cases hrc : rc = 0 ∨ rc = 7
      · rw [if_pos hrc]
        refine G.joined (Classical.byContradiction fun e => ?_)
        rw [if_pos ⟨hrc, e⟩] at h
        omega
      · rw [if_neg hrc]
        exact G
    · rw [if_pos h0] at h
      omega
  · by_cases hrc : rc = 11
    · subst hrc
      rw [hearL_away c hq]
      exact G.gone
    · rw [hearL_call c hq hrc]
      exact G.sub List.filter_sublist

/-- A client that has started k calls since it joined. -/
structure AskC (i : Int) (k : Nat) (c : CustD) : Prop where
  good : GoodC c
  id : c.id = i
  session : c.session = 5
  next : c.next = (k : Int) + 1
  len : c.waits.length = k
  seq : ∀ (j : Nat) (x : WaitD), c.waits[j]? = some x → x.seq = (j : Int) + 1

theorem AskC.check {i : Int} {k : Nat} {c : CustD} (h : AskC i k c) : checkC c = 0 := h.good.check

theorem AskC.known {i : Int} {k : Nat} {c : CustD} (h : AskC i k c) : knownC c = 0 := by
  have h1 := h.next
  have h2 := h.len
  have h3 := h.seq
  obtain ⟨id, se, nx, ws⟩ := c
  cases ws with
  | nil => simp at h2; subst h2; show nx - 1 = 0; simp at h1; omega
  | cons y r =>
    have := h3 0 y rfl
    show y.seq - 1 = 0
    omega

theorem AskC.startE {i : Int} {k : Nat} {c : CustD} (h : AskC i k c) {kk n : Int} {a b : ByteArray} (ho : opE kk a b n = 0) (hk : k ≤ 4) : startE c kk a b n = if k < 4 then 0 else 8 := by
  unfold Proofs.YtijilhbdbeajjaaGreatDoor.startE
  rw [if_neg (by simpa using h.check), if_neg (by rw [h.session]; decide), if_neg (by simpa using ho), h.known, h.next]
  by_cases e : k < 4
  · rw [if_neg (by omega), if_pos e]
  · rw [if_pos (by omega), if_neg e]

theorem AskC.more {i : Int} {k : Nat} {c : CustD} (h : AskC i k c) {kk n : Int} {a b : ByteArray} (ho : opE kk a b n = 0) (hk : k < 4) : AskC i (k + 1) (startL c kk a b n) := by
  have hs := h.startE ho (by omega)
  rw [if_pos hk] at hs
  refine ⟨GoodC.started hs, h.id, h.session, ?_, ?_, ?_⟩
  · show c.next + 1 = _
    rw [h.next]
    omega
  · show (c.waits ++ [_]).length = _
    rw [List.length_append, h.len]
    rfl
  · intro j x hx
    have hx' : (c.waits ++ [⟨c.next, kk, a, b, n⟩])[j]? = some x := hx
    by_cases hj : j < c.waits.length
    · rw [List.getElem?_append_left hj] at hx'
      exact h.seq j x hx'
    · rw [List.getElem?_append_right (by omega)] at hx'
      have hjl := (List.getElem?_eq_some_iff.1 hx').1
      simp at hjl
      have hje : j - c.waits.length = 0 := by omega
      rw [hje] at hx'
      simp at hx'
      subst hx'
      show c.next = _
      have := h.len
      rw [h.next]
      omega

theorem new_good {i : Int} (hi : 1 ≤ i ∧ i ≤ 9) : GoodC ⟨i, 0, 1, []⟩ where
  id := hi
  session := by show (0 : Int) ≤ 0 ∧ (0 : Int) ≤ _; omega
  next := by show (1 : Int) ≤ 1 ∧ (1 : Int) ≤ _; omega
  len := Nat.zero_le _
  held := fun hp => absurd hp (by simp)
  each := fun x hx => absurd hx (by simp)
  order := List.Pairwise.nil

end Go.Proofs.YtijilhbdbeajjaaGreatDoor
