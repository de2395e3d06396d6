/- A text that was written is read, whatever stands behind it; Plain mathematics: a command that was written is read; cut short, or longer, it is not (joined by program) -/
import Derived.Test.YtcjoekjjebcomalDoorCA30
import Derived.Test.YtcjoekjjebcomalDoorCA15
import Derived.Test.YtcjoekjjebcomalDoorCA26
import Derived.Test.YtcjoekjjebcomalDoorCA16
import Derived.Test.YtcjoekjjebcomalDoorCA20
namespace Go.Proofs.YtcjoekjjebcomalDoor

open Go.RowKit

theorem bytes_assoc (a b c : ByteArray) : a ++ b ++ c = a ++ (b ++ c) := by
  apply ByteArray.ext
  simp [ByteArray.data_append, Array.append_assoc]

theorem mid_of (a b c : ByteArray) (n : Nat) (h : n = a.size) : (a ++ (b ++ c)).extract n (n + b.size) = b := by
  subst h
  apply ByteArray.ext
  apply Array.toList_inj.1
  rw [Lib.extract_data, ByteArray.data_append, Array.toList_append, ByteArray.data_append, Array.toList_append]
  have h1 : a.data.toList.length = a.size := by simp
  have h2 : b.data.toList.length = b.size := by simp
  rw [List.drop_left' h1, Nat.add_sub_cancel_left]
  exact List.take_left' h2

end Go.Proofs.YtcjoekjjebcomalDoor

namespace Go.Proofs.YtcjoekjjebcomalDoor

open Go.RowKit

theorem cut_lt (p t : ByteArray) (k : Nat) (h : k ≤ p.size) : (p ++ t).extract 0 k = p.extract 0 k := by
  apply bytes_ext
  rw [Lib.extract_data, Lib.extract_data, ByteArray.data_append, Array.toList_append]
  have := size_list p
  simp only [List.drop_zero, Nat.sub_zero]
  rw [List.take_append_of_le_length (by omega)]

theorem cut_ge (p t : ByteArray) (k : Nat) (h : p.size ≤ k) : (p ++ t).extract 0 k = p ++ t.extract 0 (k - p.size) := by
  apply bytes_ext
  rw [Lib.extract_data, ByteArray.data_append, Array.toList_append, ByteArray.data_append, Array.toList_append, Lib.extract_data]
  have := size_list p
  simp only [List.drop_zero, Nat.sub_zero]
  rw [List.take_append, List.take_of_length_le (by omega), this]

theorem numR_enc (n : Int) (s : ByteArray) (h0 : 0 ≤ n) (h1 : n ≤ 1099511627776) : numR (strOfNums (encN n) ++ s) = (n, (encN n).length, 0) := by
  have hr := lt_reach5 n h1
  have hc : cd (strOfNums (encN n) ++ s).data.toList = (encN n).length := by rw [bytes_append]; exact cd_enc 5 n _ h0 hr
  have hl := encN_length n
  have hf : (strOfNums (encN n) ++ s).data.toList.take (cd (strOfNums (encN n) ++ s).data.toList) = u8 (encN n) := by
    rw [hc, bytes_append]
    exact List.take_left' (u8_length _)
  have hd : dec ((strOfNums (encN n) ++ s).data.toList.take (cd (strOfNums (encN n) ++ s).data.toList)) = n := by rw [hf]; exact dec_enc 5 n h0 hr
  have hz : ¬ (1 < cd (strOfNums (encN n) ++ s).data.toList ∧ ((strOfNums (encN n) ++ s).data.toList.getD (cd (strOfNums (encN n) ++ s).data.toList - 1) 0).toNat = 0) := by
    rw [hc]
    rintro ⟨h2, h3⟩
    by_cases hn : n = 0
    · subst hn; exact absurd h2 (by decide)
    · rw [bytes_append] at h3
      exact last_enc 5 n _ (by omega) hr h3
  unfold numR
  rw [if_neg (by omega), if_neg (by intro h; rcases h with h | h; omega; exact hz h), if_neg (by omega), hd, hc]

theorem numR_cut (n : Int) (k : Nat) (h0 : 0 ≤ n) (h1 : n ≤ 1099511627776) (hk : k < (encN n).length) (s : ByteArray) (hs : s.data.toList = (u8 (encN n)).take k) : numR s = (0, 0, 5) := by
  have hc : cd s.data.toList = 0 := by
    refine cd_miss _ fun j hj => ?_
    rw [hs] at hj ⊢
    have hjk : j < k := by rw [List.length_take] at hj; omega
    have hi := init_enc 5 n j h0 (lt_reach5 n h1) (by show j + 1 < (encN n).length; omega)
    have e : ((u8 (encN n)).take k).getD j 0 = (u8 (enc 5 n)).getD j 0 := by
      simp [List.getD_eq_getElem?_getD, hjk, encN]
    rw [e]; exact hi
  unfold numR
  rw [if_pos hc]

theorem numOut_cut (n : Int) (k : Nat) (hk : k < (numOut n).size) (h0 : 0 ≤ n) (h1 : n ≤ 1099511627776) : numR ((numOut n).extract 0 k) = (0, 0, 5) := by
  rw [nsize] at hk
  refine numR_cut n k h0 h1 hk _ ?_
  rw [Lib.extract_data]
  unfold numOut
  rw [strOfNums_data]
  simp [u8]

/-- A part that is read by a step: with whatever behind it; cut short it is not. -/
structure Part {α : Type} (rd : ByteArray → α × ByteArray × Int) (p : ByteArray) (x : α) : Prop where
  all : ∀ s, rd (p ++ s) = (x, s, 0)
  cut : ∀ k, k < p.size → (rd (p.extract 0 k)).2.2 = 5

theorem part_num (n : Int) (h0 : 0 ≤ n) (h1 : n ≤ 1099511627776) : Part readN (numOut n) n := by
  refine ⟨fun s => ?_, fun k hk => ?_⟩
  · unfold readN
    unfold numOut
    rw [numR_enc n s h0 h1]
    simp only [if_true]
    rw [tail_of _ s (encN n).length (strOfNums_size _).symm]
  · unfold readN
    rw [numOut_cut n k hk h0 h1]
    simp

theorem part_text (u : ByteArray) (hu : u.size ≤ 5000) : Part readT (textOut u) u := by
  have hz : (numOut (u.size : Int)).size = (encN (u.size : Int)).length := nsize _
  have hto : textOut u = numOut (u.size : Int) ++ u := rfl
  refine ⟨fun s => ?_, fun k hk => ?_⟩
  · have e : textOut u ++ s = strOfNums (encN (u.size : Int)) ++ (u ++ s) := by rw [hto, bytes_assoc]; rfl
    have hn := numR_enc (u.size : Int) (u ++ s) (by omega) (by omega)
    have e1 := mid_of (strOfNums (encN (u.size : Int))) u s (encN (u.size : Int)).length (strOfNums_size _).symm
    have e2 : (strOfNums (encN (u.size : Int)) ++ (u ++ s)).extract ((encN (u.size : Int)).length + u.size) (strOfNums (encN (u.size : Int)) ++ (u ++ s)).size = s := by
      have := tail_of (strOfNums (encN (u.size : Int)) ++ u) s ((encN (u.size : Int)).length + u.size) (by rw [ByteArray.size_append, strOfNums_size])
      rw [bytes_assoc] at this
      exact this
    have hsz : (strOfNums (encN (u.size : Int)) ++ (u ++ s)).size = (encN (u.size : Int)).length + (u.size + s.size) := by
      rw [ByteArray.size_append, ByteArray.size_append, strOfNums_size]
    rw [e]
    unfold readT
    rw [hn]
    simp only [Int.toNat_natCast]
    rw [if_neg (by simp), if_neg (by omega), if_neg (by rw [hsz]; omega), e1, e2]
  · have hsz2 : (textOut u).size = (encN (u.size : Int)).length + u.size := by rw [hto, ByteArray.size_append, hz]
    by_cases h : k < (numOut (u.size : Int)).size
    · rw [hto, cut_lt _ _ _ (by omega)]
      unfold readT
      rw [numOut_cut _ k h (by omega) (by omega)]
      simp
    · rw [hto, cut_ge _ _ _ (by omega)]
      have hn : numR (numOut (u.size : Int) ++ u.extract 0 (k - (numOut (u.size : Int)).size)) = _ := numR_enc (u.size : Int) (u.extract 0 (k - (numOut (u.size : Int)).size)) (by omega) (by omega)
      have hs3 : (numOut (u.size : Int) ++ u.extract 0 (k - (numOut (u.size : Int)).size)).size = k := by
        rw [ByteArray.size_append, ByteArray.size_extract, hz]; omega
      unfold readT
      rw [hn, hs3]
      simp only
      rw [if_neg (by simp), if_neg (by omega), if_pos (by omega)]

theorem stepN_all {p : ByteArray} {x : Int} (h : Part readN p x) (s : ByteArray) : stepN (p ++ s, 0) = (x, s, 0) := by unfold stepN; rw [if_pos rfl]; exact h.all s

theorem stepT_all {p : ByteArray} {x : ByteArray} (h : Part readT p x) (s : ByteArray) : stepT (p ++ s, 0) = (x, s, 0) := by unfold stepT; rw [if_pos rfl]; exact h.all s

/-- The limits of a Call that may be. -/
structure CallOk (c : CmdD) : Prop where
  s : 0 ≤ c.session ∧ c.session ≤ 1099511627776
  q : 0 ≤ c.seq ∧ c.seq ≤ 1099511627776
  u : 0 ≤ c.acked ∧ c.acked ≤ 1099511627776
  k : 0 ≤ c.ok ∧ c.ok ≤ 1099511627776
  n : 0 ≤ c.n ∧ c.n ≤ 1099511627776
  a : c.a.size ≤ 12
  b : c.b.size ≤ 12

theorem cmdE_head {c : CmdD} (h : c.err = 0) : (1 ≤ c.kind ∧ c.kind ≤ 3) ∧ (1 ≤ c.client ∧ c.client ≤ 9) := cmdE_head' h

theorem cmdE_call {c : CmdD} (h : c.err = 0) (h2 : c.kind = 2) : CallOk c := by
  unfold CmdD.err at h
  rw [h2] at h
  obtain ⟨-, hN, ha, hb⟩ := cmdE_call' h
  exact ⟨hN _ (by simp), hN _ (by simp), hN _ (by simp), hN _ (by simp), hN _ (by simp), ha, hb⟩

theorem cmdE_other {c : CmdD} (h : c.err = 0) (h2 : c.kind ≠ 2) : c = ⟨c.kind, c.client, 0, 0, 0, 0, ⟨#[]⟩, ⟨#[]⟩, 0⟩ := by
  obtain ⟨hk, hc⟩ := cmdE_head h
  by_cases h3 : c.session = 0 ∧ c.seq = 0 ∧ c.acked = 0 ∧ c.ok = 0 ∧ c.a.size = 0 ∧ c.b.size = 0 ∧ c.n = 0
  · obtain ⟨k, cl, s, q, u, ok, a, b, n⟩ := c
    simp only at h3 ⊢
    obtain ⟨rfl, rfl, rfl, rfl, ha, hb, rfl⟩ := h3
    rw [size_zero ha, size_zero hb]
  · unfold CmdD.err at h
    rw [cmdE_restNo hk hc h2 h3] at h
    omega

theorem decCall_all (k c : Int) (x : CmdD) (h : CallOk x) (t : ByteArray) : decCall k c (callOut x ++ t) = (⟨k, c, x.session, x.seq, x.acked, x.ok, x.a, x.b, x.n⟩, t, 0) := by
  unfold decCall callOut
  simp only [bytes_assoc]
  rw [stepN_all (part_num x.session h.s.1 h.s.2)]
  simp only
  rw [stepN_all (part_num x.seq h.q.1 h.q.2)]
  simp only
  rw [stepN_all (part_num x.acked h.u.1 h.u.2)]
  simp only
  rw [stepN_all (part_num x.ok h.k.1 h.k.2)]
  simp only
  rw [stepN_all (part_num x.n h.n.1 h.n.2)]
  simp only
  rw [stepT_all (part_text x.a (by have := h.a; omega))]
  simp only
  rw [stepT_all (part_text x.b (by have := h.b; omega))]

theorem head_bytes (k c : Int) (t : ByteArray) (hk : 0 ≤ k ∧ k < 256) (hc : 0 ≤ c ∧ c < 256) :
    ((((strOfNums [k, c] ++ t).data.toList.getD 0 0).toNat : Int) = k) ∧ ((((strOfNums [k, c] ++ t).data.toList.getD 1 0).toNat : Int) = c) ∧ (strOfNums [k, c] ++ t).extract 2 (strOfNums [k, c] ++ t).size = t := by
  refine ⟨?_, ?_, tail_of _ t 2 (strOfNums_size [k, c]).symm⟩
  · rw [bytes_append]
    simp only [u8, List.map_cons, List.map_nil, List.cons_append, List.getD_cons_zero]
    exact ofNat_toNat k hk.1 hk.2
  · rw [bytes_append]
    simp only [u8, List.map_cons, List.map_nil, List.cons_append, List.getD_cons_succ, List.getD_cons_zero]
    exact ofNat_toNat c hc.1 hc.2

theorem decBody_all (c : CmdD) (h : c.err = 0) (t : ByteArray) : decBody (cmdOut c ++ t) = (c, t, 0) := by
  obtain ⟨hk, hc⟩ := cmdE_head h
  by_cases h2 : c.kind = 2
  · obtain ⟨e0, e1, e2⟩ := head_bytes c.kind c.client (callOut c ++ t) (by omega) (by omega)
    unfold cmdOut
    rw [if_pos h2, bytes_assoc]
    unfold decBody
    rw [e0, e1, e2, if_pos h2, decCall_all _ _ c (cmdE_call h h2) t]
  · obtain ⟨e0, e1, e2⟩ := head_bytes c.kind c.client t (by omega) (by omega)
    unfold cmdOut
    rw [if_neg h2]
    unfold decBody
    rw [e0, e1, e2, if_neg h2]
    rw [← cmdE_other h h2]

theorem cmdOut_size (c : CmdD) (h : c.err = 0) : 2 ≤ (cmdOut c).size ∧ (cmdOut c).size ≤ 100 := by
  have h0 : (strOfNums [c.kind, c.client]).size = 2 := strOfNums_size _
  unfold cmdOut
  split
  · rename_i h2
    have hc := cmdE_call h h2
    have h1 := numOut_le c.session
    have h2 := numOut_le c.seq
    have h3 := numOut_le c.acked
    have h4 := numOut_le c.ok
    have h5 := numOut_le c.n
    have h6 := textOut_le c.a 12 hc.a
    have h7 := textOut_le c.b 12 hc.b
    unfold callOut
    simp only [ByteArray.size_append]
    omega
  · omega

/-- WHAT WAS WRITTEN IS READ. -/
theorem dec_all (c : CmdD) (h : c.err = 0) : decE (cmdOut c) = 0 ∧ decL (cmdOut c) = c := by
  have hb := decBody_all c h ⟨#[]⟩
  have hz := cmdOut_size c h
  have e : cmdOut c ++ ⟨#[]⟩ = cmdOut c := by apply ByteArray.ext; simp
  rw [e] at hb
  have h0 : decE (cmdOut c) = 0 := by
    unfold decE
    rw [hb, if_neg (by omega), if_neg (by omega)]
    simp only
    rw [if_neg (by unfold endE; rw [if_neg (fun hh => hh.2 rfl)]; simp)]
    exact h
  refine ⟨h0, ?_⟩
  unfold decL
  rw [if_pos h0, hb]

end Go.Proofs.YtcjoekjjebcomalDoor
