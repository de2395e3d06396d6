/- Plain mathematics: a command that was written is read; cut short, or longer, it is not; A command that may be is written as it must be; a row of commands; tackroomkeep.entries: commands, as bytes; tackroomkeep.Applied: a state after entries; tackroomkeep.picked: a number from 0 to many - 1; tackroomkeep.name: one of three names; strconv.Itoa of a number below 100: a short text (joined by program) -/
import Derived.Test.YtpcacaohknkdlahGreatDoorRows
import Derived.WalkKit
import Derived.ProofKit
import Derived.WalkLawsBesides
import Derived.Lib.Hide
import Derived.Lib.ItoaWalk
import Derived.Test.YtpcacaohknkdlahGreatDoorSB43
import Derived.Test.YtpcacaohknkdlahGreatDoorSB12
import Derived.Test.YtpcacaohknkdlahGreatDoorSB42
import Derived.Test.YtpcacaohknkdlahGreatDoorSB38
namespace Go.Proofs.YtpcacaohknkdlahGreatDoor

open Go.RowKit

theorem cut_lt (p t : ByteArray) (k : Nat) (h : k ≤ p.size) : (p ++ t).extract 0 k = p.extract 0 k := by
  apply bytes_ext
  rw [Lib.extract_data, Lib.extract_data, ByteArray.data_append, Array.toList_append]
  have := size_list p
  simp only [List.drop_zero, Nat.sub_zero]
  rw [List.take_append_of_le_length (by omega)]

theorem cut_ge (p t : ByteArray) (k : Nat) (h : p.size ≤ k) : (p ++ t).extract 0 k = p ++ t.extract 0 (k - p.size) := by
  apply bytes_ext
  rw [Lib.extract_data, ByteArray.data_append, Array.toList_append, ByteArray.data_append, Array.toList_append, Lib.extract_data]
  have := size_list p
  simp only [List.drop_zero, Nat.sub_zero]
  rw [List.take_append, List.take_of_length_le (by omega), this]

theorem numR_enc (n : Int) (s : ByteArray) (h0 : 0 ≤ n) (h1 : n ≤ 1099511627776) : numR (strOfNums (encN n) ++ s) = (n, (encN n).length, 0) := by
  have hr := lt_reach5 n h1
  have hc : cd (strOfNums (encN n) ++ s).data.toList = (encN n).length := by rw [bytes_append]; exact cd_enc 5 n _ h0 hr
  have hl := encN_length n
  have hf : (strOfNums (encN n) ++ s).data.toList.take (cd (strOfNums (encN n) ++ s).data.toList) = u8 (encN n) := by
    rw [hc, bytes_append]
    exact List.take_left' (u8_length _)
  have hd : dec ((strOfNums (encN n) ++ s).data.toList.take (cd (strOfNums (encN n) ++ s).data.toList)) = n := by rw [hf]; exact dec_enc 5 n h0 hr
  have hz : ¬ (1 < cd (strOfNums (encN n) ++ s).data.toList ∧ ((strOfNums (encN n) ++ s).data.toList.getD (cd (strOfNums (encN n) ++ s).data.toList - 1) 0).toNat = 0) := by
    rw [hc]
    rintro ⟨h2, h3⟩
    by_cases hn : n = 0
    · subst hn; exact absurd h2 (by decide)
    · rw [bytes_append] at h3
      exact last_enc 5 n _ (by omega) hr h3
  unfold numR
  rw [if_neg (by omega), if_neg (by intro h; rcases h with h | h; omega; exact hz h), if_neg (by omega), hd, hc]

theorem numR_cut (n : Int) (k : Nat) (h0 : 0 ≤ n) (h1 : n ≤ 1099511627776) (hk : k < (encN n).length) (s : ByteArray) (hs : s.data.toList = (u8 (encN n)).take k) : numR s = (0, 0, 5) := by
  have hc : cd s.data.toList = 0 := by
    refine cd_miss _ fun j hj => ?_
    rw [hs] at hj ⊢
    have hjk : j < k := by rw [List.length_take] at hj; omega
    have hi := init_enc 5 n j h0 (lt_reach5 n h1) (by show j + 1 < (encN n).length; omega)
    have e : ((u8 (encN n)).take k).getD j 0 = (u8 (enc 5 n)).getD j 0 := by
      simp [List.getD_eq_getElem?_getD, hjk, encN]
    rw [e]; exact hi
  unfold numR
  rw [if_pos hc]

theorem numOut_cut (n : Int) (k : Nat) (hk : k < (numOut n).size) (h0 : 0 ≤ n) (h1 : n ≤ 1099511627776) : numR ((numOut n).extract 0 k) = (0, 0, 5) := by
  rw [nsize] at hk
  refine numR_cut n k h0 h1 hk _ ?_
  rw [Lib.extract_data]
  unfold numOut
  rw [strOfNums_data]
  simp [u8]

/-- A part that is read by a step: with whatever behind it; cut short it is not. -/
structure Part {α : Type} (rd : ByteArray → α × ByteArray × Int) (p : ByteArray) (x : α) : Prop where
  all : ∀ s, rd (p ++ s) = (x, s, 0)
  cut : ∀ k, k < p.size → (rd (p.extract 0 k)).2.2 = 5

theorem part_num (n : Int) (h0 : 0 ≤ n) (h1 : n ≤ 1099511627776) : Part readN (numOut n) n := by
  refine ⟨fun s => ?_, fun k hk => ?_⟩
  · unfold readN
    unfold numOut
    rw [numR_enc n s h0 h1]
    simp only [if_true]
    rw [tail_of _ s (encN n).length (strOfNums_size _).symm]
  · unfold readN
    rw [numOut_cut n k hk h0 h1]
    simp

theorem part_text (u : ByteArray) (hu : u.size ≤ 5000) : Part readT (textOut u) u := by
  have hz : (numOut (u.size : Int)).size = (encN (u.size : Int)).length := nsize _
  have hto : textOut u = numOut (u.size : Int) ++ u := rfl
  refine ⟨fun s => ?_, fun k hk => ?_⟩
  · have e : textOut u ++ s = strOfNums (encN (u.size : Int)) ++ (u ++ s) := by rw [hto, bytes_assoc]; rfl
    have hn := numR_enc (u.size : Int) (u ++ s) (by omega) (by omega)
    have e1 := mid_of (strOfNums (encN (u.size : Int))) u s (encN (u.size : Int)).length (strOfNums_size _).symm
    have e2 : (strOfNums (encN (u.size : Int)) ++ (u ++ s)).extract ((encN (u.size : Int)).length + u.size) (strOfNums (encN (u.size : Int)) ++ (u ++ s)).size = s := by
      have := tail_of (strOfNums (encN (u.size : Int)) ++ u) s ((encN (u.size : Int)).length + u.size) (by rw [ByteArray.size_append, strOfNums_size])
      rw [bytes_assoc] at this
      exact this
    have hsz : (strOfNums (encN (u.size : Int)) ++ (u ++ s)).size = (encN (u.size : Int)).length + (u.size + s.size) := by
      rw [ByteArray.size_append, ByteArray.size_append, strOfNums_size]
    rw [e]
    unfold readT
    rw [hn]
    simp only [Int.toNat_natCast]
    rw [if_neg (by simp), if_neg (by omega), if_neg (by rw [hsz]; omega), e1, e2]
  · have hsz2 : (textOut u).size = (encN (u.size : Int)).length + u.size := by rw [hto, ByteArray.size_append, hz]
    by_cases h : k < (numOut (u.size : Int)).size
    · rw [hto, cut_lt _ _ _ (by omega)]
      unfold readT
      rw [numOut_cut _ k h (by omega) (by omega)]
      simp
    · rw [hto, cut_ge _ _ _ (by omega)]
      have hn : numR (numOut (u.size : Int) ++ u.extract 0 (k - (numOut (u.size : Int)).size)) = _ := numR_enc (u.size : Int) (u.extract 0 (k - (numOut (u.size : Int)).size)) (by omega) (by omega)
      have hs3 : (numOut (u.size : Int) ++ u.extract 0 (k - (numOut (u.size : Int)).size)).size = k := by
        rw [ByteArray.size_append, ByteArray.size_extract, hz]; omega
      unfold readT
      rw [hn, hs3]
      simp only
      rw [if_neg (by simp), if_neg (by omega), if_pos (by omega)]

theorem stepN_all {p : ByteArray} {x : Int} (h : Part readN p x) (s : ByteArray) : stepN (p ++ s, 0) = (x, s, 0) := by unfold stepN; rw [if_pos rfl]; exact h.all s

theorem stepT_all {p : ByteArray} {x : ByteArray} (h : Part readT p x) (s : ByteArray) : stepT (p ++ s, 0) = (x, s, 0) := by unfold stepT; rw [if_pos rfl]; exact h.all s

/-- The limits of a Call that may be. -/
structure CallOk (c : CmdD) : Prop where
  s : 0 ≤ c.session ∧ c.session ≤ 1099511627776
  q : 0 ≤ c.seq ∧ c.seq ≤ 1099511627776
  u : 0 ≤ c.acked ∧ c.acked ≤ 1099511627776
  k : 0 ≤ c.ok ∧ c.ok ≤ 1099511627776
  n : 0 ≤ c.n ∧ c.n ≤ 1099511627776
  a : c.a.size ≤ 12
  b : c.b.size ≤ 12

theorem cmdE_head {c : CmdD} (h : c.err = 0) : (1 ≤ c.kind ∧ c.kind ≤ 3) ∧ (1 ≤ c.client ∧ c.client ≤ 9) := cmdE_head' h

theorem cmdE_call {c : CmdD} (h : c.err = 0) (h2 : c.kind = 2) : CallOk c := by
  unfold CmdD.err at h
  rw [h2] at h
  obtain ⟨-, hN, ha, hb⟩ := cmdE_call' h
  exact ⟨hN _ (by simp), hN _ (by simp), hN _ (by simp), hN _ (by simp), hN _ (by simp), ha, hb⟩

theorem cmdE_other {c : CmdD} (h : c.err = 0) (h2 : c.kind ≠ 2) : c = ⟨c.kind, c.client, 0, 0, 0, 0, ⟨#[]⟩, ⟨#[]⟩, 0⟩ := by
  obtain ⟨hk, hc⟩ := cmdE_head h
  by_cases h3 : c.session = 0 ∧ c.seq = 0 ∧ c.acked = 0 ∧ c.ok = 0 ∧ c.a.size = 0 ∧ c.b.size = 0 ∧ c.n = 0
  · obtain ⟨k, cl, s, q, u, ok, a, b, n⟩ := c
    simp only at h3 ⊢
    obtain ⟨rfl, rfl, rfl, rfl, ha, hb, rfl⟩ := h3
    rw [size_zero ha, size_zero hb]
  · unfold CmdD.err at h
    rw [cmdE_restNo hk hc h2 h3] at h
    omega

theorem decCall_all (k c : Int) (x : CmdD) (h : CallOk x) (t : ByteArray) : decCall k c (callOut x ++ t) = (⟨k, c, x.session, x.seq, x.acked, x.ok, x.a, x.b, x.n⟩, t, 0) := by
  unfold decCall callOut
  simp only [bytes_assoc]
  rw [stepN_all (part_num x.session h.s.1 h.s.2)]
  simp only
  rw [stepN_all (part_num x.seq h.q.1 h.q.2)]
  simp only
  rw [stepN_all (part_num x.acked h.u.1 h.u.2)]
  simp only
  rw [stepN_all (part_num x.ok h.k.1 h.k.2)]
  simp only
  rw [stepN_all (part_num x.n h.n.1 h.n.2)]
  simp only
  rw [stepT_all (part_text x.a (by have := h.a; omega))]
  simp only
  rw [stepT_all (part_text x.b (by have := h.b; omega))]

theorem head_bytes (k c : Int) (t : ByteArray) (hk : 0 ≤ k ∧ k < 256) (hc : 0 ≤ c ∧ c < 256) :
    ((((strOfNums [k, c] ++ t).data.toList.getD 0 0).toNat : Int) = k) ∧ ((((strOfNums [k, c] ++ t).data.toList.getD 1 0).toNat : Int) = c) ∧ (strOfNums [k, c] ++ t).extract 2 (strOfNums [k, c] ++ t).size = t := by
  refine ⟨?_, ?_, tail_of _ t 2 (strOfNums_size [k, c]).symm⟩
  · rw [bytes_append]
    simp only [u8, List.map_cons, List.map_nil, List.cons_append, List.getD_cons_zero]
    exact ofNat_toNat k hk.1 hk.2
  · rw [bytes_append]
    simp only [u8, List.map_cons, List.map_nil, List.cons_append, List.getD_cons_succ, List.getD_cons_zero]
    exact ofNat_toNat c hc.1 hc.2

theorem decBody_all (c : CmdD) (h : c.err = 0) (t : ByteArray) : decBody (cmdOut c ++ t) = (c, t, 0) := by
  obtain ⟨hk, hc⟩ := cmdE_head h
  by_cases h2 : c.kind = 2
  · obtain ⟨e0, e1, e2⟩ := head_bytes c.kind c.client (callOut c ++ t) (by omega) (by omega)
    unfold cmdOut
    rw [if_pos h2, bytes_assoc]
    unfold decBody
    rw [e0, e1, e2, if_pos h2, decCall_all _ _ c (cmdE_call h h2) t]
  · obtain ⟨e0, e1, e2⟩ := head_bytes c.kind c.client t (by omega) (by omega)
    unfold cmdOut
    rw [if_neg h2]
    unfold decBody
    rw [e0, e1, e2, if_neg h2]
    rw [← cmdE_other h h2]

theorem cmdOut_size (c : CmdD) (h : c.err = 0) : 2 ≤ (cmdOut c).size ∧ (cmdOut c).size ≤ 100 := by
  have h0 : (strOfNums [c.kind, c.client]).size = 2 := strOfNums_size _
  unfold cmdOut
  split
  · rename_i h2
    have hc := cmdE_call h h2
    have h1 := numOut_le c.session
    have h2 := numOut_le c.seq
    have h3 := numOut_le c.acked
    have h4 := numOut_le c.ok
    have h5 := numOut_le c.n
    have h6 := textOut_le c.a 12 hc.a
    have h7 := textOut_le c.b 12 hc.b
    unfold callOut
    simp only [ByteArray.size_append]
    omega
  · omega

/-- WHAT WAS WRITTEN IS READ. -/
theorem dec_all (c : CmdD) (h : c.err = 0) : decE (cmdOut c) = 0 ∧ decL (cmdOut c) = c := by
  have hb := decBody_all c h ⟨#[]⟩
  have hz := cmdOut_size c h
  have e : cmdOut c ++ ⟨#[]⟩ = cmdOut c := by apply ByteArray.ext; simp
  rw [e] at hb
  have h0 : decE (cmdOut c) = 0 := by
    unfold decE
    rw [hb, if_neg (by omega), if_neg (by omega)]
    simp only
    rw [if_neg (by unfold endE; rw [if_neg (fun hh => hh.2 rfl)]; simp)]
    exact h
  refine ⟨h0, ?_⟩
  unfold decL
  rw [if_pos h0, hb]

end Go.Proofs.YtpcacaohknkdlahGreatDoor

namespace Go.Proofs.YtpcacaohknkdlahGreatDoor

open Go.RowKit Go.Maps

/-- What may be fits. -/
theorem err_fits {x : CmdD} (h : x.err = 0) : FitsC x.seq ∧ ShortC x.a ∧ ShortC x.b := by
  by_cases h2 : x.kind = 2
  · have hc := cmdE_call h h2
    have hq := hc.q
    have ha := hc.a
    have hb := hc.b
    refine ⟨⟨by omega, by omega⟩, ?_, ?_⟩
    · show x.a.size ≤ _; omega
    · show x.b.size ≤ _; omega
  · rw [cmdE_other h h2]
    exact ⟨⟨by simp, by simp⟩, Nat.zero_le _, Nat.zero_le _⟩

/-- A command that may be is written as it must be. -/
theorem encode_ok (x : CmdD) (w : World) (h : x.err = 0) :
    Calls Tryz.prog 11 #[.agg #[.int .i64 x.kind, .int .i64 x.client, .int .i64 x.session, .int .i64 x.seq, .int .i64 x.acked, .int .i64 x.ok, .string x.a, .string x.b, .int .i64 x.n]] w fun e w' => e = .returned (.tuple #[.string (cmdOut x), .int .i64 0]) ∧ Below w.heap.size w w' := by
  obtain ⟨hq, ha, hb⟩ := err_fits h
  by_cases h2 : x.kind = 2
  · have e : cmdOut x = strOfNums [2, x.client] ++ tailOut x.session x.seq x.acked x.ok x.a x.b x.n := by unfold cmdOut; rw [if_pos h2, h2, tailOut_eq]
    have h' := h
    unfold CmdD.err at h'
    rw [h2] at h' ⊢
    rw [e]
    exact encode_call x.client x.session x.seq x.acked x.ok x.a x.b x.n w hq ha hb h'
  · have e : cmdOut x = strOfNums [x.kind, x.client] := by unfold cmdOut; rw [if_neg h2]
    rw [e]
    exact encode_rest x.kind x.client x.session x.seq x.acked x.ok x.a x.b x.n w hq ha hb h h2

theorem crow_cells {w : World} {base : Nat} {g n cap i : Nat} {ps : List CmdD} {x : CmdD} (h : w.ownsRow base 49 9 (.slice (some ⟨g, 0, none⟩) n cap) n (flatC ps)) (hx : ps[i]? = some x) (hn : n = ps.length) (j : Nat) (hj : j < 9) :
    w.cell? ⟨g, i * 9 + j, none⟩ = (cmdCells x)[j]? := by
  have hi : i < ps.length := (List.getElem?_eq_some_iff.1 hx).1
  rw [h.cellAt (i * 9 + j) (by omega), flatC_at hx j hj]

end Go.Proofs.YtpcacaohknkdlahGreatDoor

namespace Go.Proofs.YtpcacaohknkdlahGreatDoor

open Go.RowKit

set_option maxRecDepth 100000 in
set_option maxHeartbeats 3200000 in
theorem entries_any (v : Value) (out : List CmdD) (w : World) (base : Nat) (hrow : w.ownsRow base 49 9 v out.length (flatC out)) (hok : ∀ x ∈ out, x.err = 0) (hlen : out.length ≤ 1000) :
    Calls Tryz.prog 5 #[v] w fun e w' => ∃ vo, e = .returned vo ∧ w'.ownsRow w.heap.size 9 1 vo (out.map cmdOut).length (textCells (out.map cmdOut)) ∧ Below w.heap.size w w' := by
  obtain ⟨i0, hi0, hz0, hz1, hz2⟩ := info_parts Tryz.infoText
  have HROW := ghid hrow
  have HOK := ghid hok
  obtain ⟨oo, oc, rfl⟩ := crow_shape hrow
  clear hrow hok
  go_enter Tryz.func5, Tryz.ntmps5
  go_wp2
  go_loopw [3, 10] (fun o i wr => ∃ k : Nat, k ≤ out.length ∧ i = .int .i64 k ∧ wr.ownsRow w.heap.size 9 1 o k (textCells ((out.take k).map cmdOut)) ∧ Below w.heap.size w wr) (fun _ i _ => out.length - (intOf i).toNat)
  case atStart => exact ⟨0, Nat.zero_le _, rfl, World.ownsRow_nil _ _ _ _, Below.refl _ _⟩
  case round =>
    obtain ⟨k, hk, rfl, hown, hb⟩ := hrel
    by_cases hlt : k < out.length
    · obtain ⟨x, hx⟩ : ∃ x, out[k]? = some x := ⟨_, List.getElem?_eq_getElem hlt⟩
      have hxe := HOK.out x (List.mem_of_getElem? hx)
      have hsz := cmdOut_size x hxe
      have HTK : Hid ((out.take (k + 1)).map cmdOut = (out.take k).map cmdOut ++ [cmdOut x]) := by
        unfold Hid
        rw [List.take_succ_eq_append_getElem hlt, List.map_append, (List.getElem?_eq_some_iff.1 hx).2]
        rfl
      have hrr := crow_below HROW.out (show Below w.heap.size w wr from hb)
      obtain ⟨g0, c0, e0, -⟩ : ∃ g c, (Value.slice oo out.length oc) = .slice (some ⟨g, 0, none⟩) out.length c ∧ True := by
        rcases hrr.2 with ⟨e, hn⟩ | ⟨g, cap, cur, e, _⟩
        · omega
        · exact ⟨g, cap, e, trivial⟩
      cases e0
      have hcell := crow_cells hrr hx rfl
      have d0 := hcell 0 (by omega)
      have d1 := hcell 1 (by omega)
      have d2 := hcell 2 (by omega)
      have d3 := hcell 3 (by omega)
      have d4 := hcell 4 (by omega)
      have d5 := hcell 5 (by omega)
      have d6 := hcell 6 (by omega)
      have d7 := hcell 7 (by omega)
      have d8 := hcell 8 (by omega)
      simp only [cmdCells, List.getElem?_cons_zero, List.getElem?_cons_succ, Nat.add_zero] at d0 d1 d2 d3 d4 d5 d6 d7 d8
      have CE := ghid (fun w => encode_ok x w hxe)
      obtain ⟨t, ht⟩ : ∃ t, t = cmdOut x := ⟨_, rfl⟩
      rw [← ht] at CE HTK hsz
      obtain ⟨xk, xc, xs, xq, xu, xo, xa, xb, xn⟩ := x
      simp only at d0 d1 d2 d3 d4 d5 d6 d7 d8 CE
      have HO := ghid hown
      have HB := ghid hb
      have hzr := hb.size
      have hltI : (k : Int) < (out.length : Int) := by omega
      obtain ⟨so, sc, rfl⟩ := grow_shape hown
      clear hx hxe hcell hrr ht hown hb
      go_wp2_with fail
      refine (CE.out _).mono ?_
      rintro e w2 ⟨rfl, hb2⟩
      have hb2' : Below wr.heap.size wr w2 := ((Below.refl wr.heap.size wr).alloc (Nat.le_refl _) (.cells #[.int .i64 xk, .int .i64 xc, .int .i64 xs, .int .i64 xq, .int .i64 xu, .int .i64 xo, .string xa, .string xb, .int .i64 xn] 49)).trans (hb2.mono (by simp))
      have HO2 := ghid (grow_below HO.out hb2' (Nat.le_refl _))
      have HB2 := ghid (HB.out.trans (hb2'.mono hzr))
      have hzz : w.heap.size ≤ w2.heap.size := HB2.out.size
      clear hb2 hb2' d0 d1 d2 d3 d4 d5 d6 d7 d8
      go_wp2_with (at_builtin; refine wpList_append_lies _ rfl (.tmp 21) (.tmp 23) 30 rfl w.heap.size 9 i0 _ 1 16 Tryz.underlying30 hi0 hz0 hz1 hz2 rfl (by decide) (.slice so k sc) k (textCells ((out.take k).map cmdOut)) rfl (HO2.out.alloc _) ⟨w2.heap.size, 0, none⟩ 1 1 [.string t] rfl rfl (World.news_of_block (heap_alloc_new w2 _)) (by intro u hu; simp at hu; subst hu; rfl) (by omega) (by unfold maxLen; omega) (by omega) (by simp; omega) (w2.heap.size + 1) (by simp) ?_)
      intro gn cn w3 hown3 hg3 hat3 hlt3
      have HO3 : Hid (w3.ownsRow w.heap.size 9 1 (.slice (some ⟨gn, 0, none⟩) (k + 1) cn) (k + 1) (textCells ((out.take (k + 1)).map cmdOut))) := by
        unfold Hid
        rw [HTK.out, textCells_snoc]
        simpa [List.map_take] using hown3
      have HB3 := ghid ((HB2.out.alloc hzz (.cells #[.string t] 9)).grown hg3 (by simp; omega) (fun j hj => (HO2.out.lt j hj).1))
      clear hown3 hg3 hat3 hlt3
      go_wp2
      go_roundw
      case rel => exact ⟨k + 1, by omega, by go_num, HO3.out, HB3.out⟩
      case measure => simp [intOf]; omega
    · have hkl : k = out.length := by omega
      subst hkl
      rw [List.take_length] at hown
      have HO := ghid hown
      obtain ⟨so, sc, rfl⟩ := grow_shape hown
      have HB := ghid hb
      clear hown hb
      go_wp2
      go_ret
      exact ⟨_, rfl, by rw [List.length_map]; exact HO.out, HB.out⟩

end Go.Proofs.YtpcacaohknkdlahGreatDoor

namespace Go.Proofs.YtpcacaohknkdlahGreatDoor

open Go.RowKit

/-- The state behind commands. -/
def runM (xs : List CmdD) : StateD := xs.foldl (fun s x => (applyM s x).1) ⟨0, [], [], []⟩

theorem runM_snoc (xs : List CmdD) (x : CmdD) : runM (xs ++ [x]) = (applyM (runM xs) x).1 := by simp [runM]

theorem goodM_nil : GoodM ⟨0, [], [], []⟩ := ⟨⟨by simp, by simp, by simp, fun x hx => (by cases hx), List.Pairwise.nil⟩, GoodL.nil, ⟨by simp, fun x hx => (by cases hx), fun i j x y _ hx => (by simp at hx)⟩⟩

theorem heldM_nil : HeldM ⟨0, [], [], []⟩ := Holds.nil _

/-- Each state on the way may be. -/
theorem runM_good (xs : List CmdD) (hok : ∀ x ∈ xs, x.err = 0) (hl : xs.length ≤ 1000) (k : Nat) (hk : k ≤ xs.length) : GoodM (runM (xs.take k)) ∧ HeldM (runM (xs.take k)) ∧ (runM (xs.take k)).index = k := by
  induction k with
  | zero => exact ⟨goodM_nil, heldM_nil, rfl⟩
  | succ k ih =>
    obtain ⟨h1, h2, h3⟩ := ih (by omega)
    have hlt : k < xs.length := by omega
    have hx := hok xs[k] (List.getElem_mem hlt)
    rw [List.take_succ_eq_append_getElem hlt, runM_snoc]
    obtain ⟨g1, g2⟩ := applyM_good h1 (by rw [h3]; omega) hx
    exact ⟨g1, g2 h2, by rw [applyM_index, h3]; omega⟩

set_option maxRecDepth 100000 in
set_option maxHeartbeats 6400000 in
theorem applied_any (v : Value) (xs : List CmdD) (w : World) (B : Nat) (hv : TextsR w B v (xs.map cmdOut)) (hB : B ≤ w.heap.size) (hok : ∀ x ∈ xs, x.err = 0) (hl : xs.length ≤ 1000) :
    Calls Tryz.prog 4 #[v] w fun e w' => ∃ v', e = .returned (.tuple #[v', .bool true]) ∧ StateO w' v' (runM xs) ∧ Below w.heap.size w w' := by
  have HV := ghid hv
  have HOK := ghid hok
  have HG := ghid (runM_good xs hok hl)
  obtain ⟨ao, cap, rfl, h1, h2, h3, h4⟩ := hv
  rw [List.length_map] at h1 h2 h4 ⊢
  have HB0 : Hid (Below w.heap.size w ((w.alloc (.cells #[.int .i64 0, .slice none 0 0, .slice none 0 0, .slice none 0 0] 27)).alloc (.cells #[.int .i64 0, .slice none 0 0, .slice none 0 0, .slice none 0 0] 27))) := ((Below.refl w.heap.size w).alloc (Nat.le_refl _) _).alloc (by simp) _
  have HS0 : Hid (StB ((w.alloc (.cells #[.int .i64 0, .slice none 0 0, .slice none 0 0, .slice none 0 0] 27)).alloc (.cells #[.int .i64 0, .slice none 0 0, .slice none 0 0, .slice none 0 0] 27)) (w.heap.size + 1) ⟨0, [], [], []⟩) := by
    have := StateO.boxed (w := w.alloc (.cells #[.int .i64 0, .slice none 0 0, .slice none 0 0, .slice none 0 0] 27)) (s := ⟨0, [], [], []⟩) ⟨none, none, none, 0, 0, 0, 0, 0, 0, rfl, LocksO.nil _, PairsR.nil _ _, SessR.nil _ _⟩
    rwa [World.size_alloc] at this
  have HR0 : Hid (((w.alloc (.cells #[.int .i64 0, .slice none 0 0, .slice none 0 0, .slice none 0 0] 27)).alloc (.cells #[.int .i64 0, .slice none 0 0, .slice none 0 0, .slice none 0 0] 27)).heap[w.heap.size]? = some (.cells #[.int .i64 0, .slice none 0 0, .slice none 0 0, .slice none 0 0] 27 (0, 0))) := (two_newB (Below.refl (w.heap.size + 2) _)).2
  clear hok
  go_enter Tryz.func4, Tryz.ntmps4
  go_wp2
  go_loopw [13] (fun i wr => ∃ k : Nat, k ≤ xs.length ∧ i = .int .i64 k ∧ StB wr (w.heap.size + 1) (runM (xs.take k)) ∧ wr.heap[w.heap.size]? = some (.cells #[.int .i64 0, .slice none 0 0, .slice none 0 0, .slice none 0 0] 27 (0, 0)) ∧ Below w.heap.size w wr) (fun i _ => xs.length - (intOf i).toNat)
  case atStart => exact ⟨0, Nat.zero_le _, rfl, HS0.out, HR0.out, HB0.out⟩
  case round =>
    obtain ⟨k, hk, rfl, hst, hres, hb⟩ := hrel
    by_cases hlt : k < xs.length
    · obtain ⟨x, hx⟩ : ∃ x, xs[k]? = some x := ⟨_, List.getElem?_eq_getElem hlt⟩
      obtain ⟨b, off, rfl, hbB, hc⟩ := h4 (by omega)
      obtain ⟨c0, hs0⟩ := hc k (cmdOut x) (by rw [List.getElem?_map, hx]; rfl)
      have d0 := (hb.cell (p := ⟨b, off + k, none⟩) (by show b < w.heap.size; omega)).trans c0
      have hxe := HOK.out x (List.mem_of_getElem? hx)
      have hall := dec_all x hxe
      obtain ⟨g1, -, g3⟩ := HG.out k hk
      have hne : nextE (runM (xs.take k)) (cmdOut x) = 0 := by
        unfold nextE
        rw [if_neg (by rw [g1.check]; simp), if_neg (by rw [g3]; omega)]
        exact hall.1
      have hrun : runM (xs.take (k + 1)) = (applyM (runM (xs.take k)) x).1 := by
        rw [List.take_succ_eq_append_getElem hlt, runM_snoc, (List.getElem?_eq_some_iff.1 hx).2]
      have HRUN := ghid hrun
      have CA := ghid (fun (v : Value) (hv : StateR wr wr.heap.size v (runM (xs.take k))) => Apply_own v (runM (xs.take k)) (cmdOut x) wr wr.heap.size hv (Nat.le_refl _) hs0 hne)
      rw [hall.2] at CA
      obtain ⟨s', hs'⟩ : ∃ s', s' = runM (xs.take k) := ⟨_, rfl⟩
      obtain ⟨⟨s2, ⟨rc, rn, rt⟩⟩, hs2⟩ : ∃ q, q = applyM (runM (xs.take k)) x := ⟨_, rfl⟩
      rw [← hs2] at CA HRUN
      rw [← hs'] at CA hst
      simp only at CA HRUN
      obtain ⟨t, ht⟩ : ∃ t, t = cmdOut x := ⟨_, rfl⟩
      rw [← ht] at CA d0
      have HST := ghid hst
      have HRES := ghid hres
      have HB := ghid hb
      have hpl := hst.lt
      have hzw := hb.size
      obtain ⟨lo, po, so, ln, lc, pn, pc, sn, sc, h0, q1, q2, q3⟩ := hst
      have CA' := ghid (CA.out _ ⟨_, _, _, rfl, q1.reads (Nat.le_refl _), q2, q3⟩)
      obtain ⟨e0, e1, e2, e3, ef, -⟩ := state_cells h0
      have hltI : (k : Int) < (xs.length : Int) := by omega
      clear hx hc h4 c0 hxe hall g1 g3 hne hrun hs' hs2 ht hres hb h0 q1 q2 q3 CA HG HV
      go_wp2_with fail
      refine CA'.out.mono ?_
      rintro e w2 ⟨v2, rfl, ho2, hb2⟩
      have hst2 := HST.out.below hb2
      obtain ⟨lo2, po2, so2, ln2, lc2, pn2, pc2, sn2, sc2, rfl, o1, o2, o3⟩ := id ho2
      have K := hst2.put ho2
      have hb4 : Below w.heap.size w ((((w2.setCell ⟨w.heap.size + 1, 0, none⟩ (.int .i64 s2.index)).setCell ⟨w.heap.size + 1, 1, none⟩ (.slice lo2 ln2 lc2)).setCell ⟨w.heap.size + 1, 2, none⟩ (.slice po2 pn2 pc2)).setCell ⟨w.heap.size + 1, 3, none⟩ (.slice so2 sn2 sc2)) := below4s (HB.out.trans (hb2.mono hzw)) (by omega) _ _ _ _
      have hr2 := behind HRES.out (Below.refl _ _) hb2
      have hr4 : ((((w2.setCell ⟨w.heap.size + 1, 0, none⟩ (.int .i64 s2.index)).setCell ⟨w.heap.size + 1, 1, none⟩ (.slice lo2 ln2 lc2)).setCell ⟨w.heap.size + 1, 2, none⟩ (.slice po2 pn2 pc2)).setCell ⟨w.heap.size + 1, 3, none⟩ (.slice so2 sn2 sc2)).heap[w.heap.size]? = some (.cells #[.int .i64 0, .slice none 0 0, .slice none 0 0, .slice none 0 0] 27 (0, 0)) := by
        rw [heap_setCell_other _ _ _ _ (by simp), heap_setCell_other _ _ _ _ (by simp), heap_setCell_other _ _ _ _ (by simp), heap_setCell_other _ _ _ _ (by simp)]
        exact hr2
      have hpl2 := hst2.lt
      obtain ⟨lo3, po3, so3, ln3, lc3, pn3, pc3, sn3, sc3, h30, -⟩ := hst2
      obtain ⟨f0, f1, f2, f3, ff, -⟩ := state_cells h30
      have hq1 : w.heap.size + 1 ≠ w2.heap.size := by omega
      have hq2 : w.heap.size + 1 ≠ w2.heap.size + 1 := by omega
      have hq3 : w2.heap.size ≠ w.heap.size + 1 := by omega
      have hq4 : w2.heap.size + 1 ≠ w.heap.size + 1 := by omega
      have hq5 : w.heap.size + 1 < w2.heap.size + 1 := by omega
      have hq6 : w.heap.size + 1 < w2.heap.size + 1 + 1 := by omega
      have HF : Hid (∀ (A R : Obj), StB ((((((w2.setCell ⟨w.heap.size + 1, 0, none⟩ (.int .i64 s2.index)).setCell ⟨w.heap.size + 1, 1, none⟩ (.slice lo2 ln2 lc2)).setCell ⟨w.heap.size + 1, 2, none⟩ (.slice po2 pn2 pc2)).setCell ⟨w.heap.size + 1, 3, none⟩ (.slice so2 sn2 sc2)).alloc A).alloc R) (w.heap.size + 1) s2 ∧ ((((((w2.setCell ⟨w.heap.size + 1, 0, none⟩ (.int .i64 s2.index)).setCell ⟨w.heap.size + 1, 1, none⟩ (.slice lo2 ln2 lc2)).setCell ⟨w.heap.size + 1, 2, none⟩ (.slice po2 pn2 pc2)).setCell ⟨w.heap.size + 1, 3, none⟩ (.slice so2 sn2 sc2)).alloc A).alloc R).heap[w.heap.size]? = some (.cells #[.int .i64 0, .slice none 0 0, .slice none 0 0, .slice none 0 0] 27 (0, 0)) ∧ Below w.heap.size w ((((((w2.setCell ⟨w.heap.size + 1, 0, none⟩ (.int .i64 s2.index)).setCell ⟨w.heap.size + 1, 1, none⟩ (.slice lo2 ln2 lc2)).setCell ⟨w.heap.size + 1, 2, none⟩ (.slice po2 pn2 pc2)).setCell ⟨w.heap.size + 1, 3, none⟩ (.slice so2 sn2 sc2)).alloc A).alloc R)) := by
        intro A R
        have a1 := (K.below ((Below.refl _ _).alloc (Nat.le_refl _) A)).below ((Below.refl _ _).alloc (Nat.le_refl _) R)
        have a2 := behind (behind hr4 (Below.refl _ _) ((Below.refl _ _).alloc (Nat.le_refl _) A)) (Below.refl _ _) ((Below.refl _ _).alloc (Nat.le_refl _) R)
        have a3 := (hb4.alloc hb4.size A).alloc (by have := hb4.size; rw [World.size_alloc]; omega) R
        exact ⟨a1, a2, a3⟩
      clear hb2 ho2 o1 o2 o3 K hb4 hr2 hr4 h30 CA' e0 e1 e2 e3 ef
      go_wp2
      go_roundw
      case rel => exact ⟨k + 1, by omega, by go_num, by rw [HRUN.out]; exact (HF.out _ _).1, (HF.out _ _).2.1, (HF.out _ _).2.2⟩
      case measure => simp [intOf]; omega
    · have hkl : k = xs.length := by omega
      subst hkl
      rw [List.take_length] at hst
      have hpl := hst.lt
      have HST := ghid hst
      obtain ⟨lo, po, so, ln, lc, pn, pc, sn, sc, h0, q1, q2, q3⟩ := hst
      obtain ⟨e0, e1, e2, e3, ef, -⟩ := state_cells h0
      obtain ⟨r0, r1, r2, r3, rf, hrl⟩ := state_cells hres
      have ht := touch_state (r := w.heap.size) (TouchG.refl wr (fun b => b = w.heap.size)) (Or.inl rfl) (.int .i64 (runM xs).index) (.slice lo ln lc) (.slice po pn pc) (.slice so sn sc)
      have hfo : ∀ g, g < wr.heap.size → g = w.heap.size → Foreign wr g := fun g _ e => e ▸ foreign_state hres
      have HO : Hid (StateO ((((wr.setCell ⟨w.heap.size, 0, none⟩ (.int .i64 (runM xs).index)).setCell ⟨w.heap.size, 1, none⟩ (.slice lo ln lc)).setCell ⟨w.heap.size, 2, none⟩ (.slice po pn pc)).setCell ⟨w.heap.size, 3, none⟩ (.slice so sn sc)) (.agg #[.int .i64 (runM xs).index, .slice lo ln lc, .slice po pn pc, .slice so sn sc]) (runM xs)) :=
        StateO.touch ⟨lo, po, so, ln, lc, pn, pc, sn, sc, rfl, q1, q2, q3⟩ ht hfo
      have HB := ghid (below4s hb (Nat.le_refl _) (.int .i64 (runM xs).index) (.slice lo ln lc) (.slice po pn pc) (.slice so sn sc))
      clear hres hb h0 q1 q2 q3 ht hfo h4
      go_wp2
      exact bodyPost_ret (v := .tuple #[.agg #[.int .i64 (runM xs).index, .slice lo ln lc, .slice po pn pc, .slice so sn sc], .bool true]) (by simp [results, Tryz.results4, go_sem, r0, r1, r2, r3]) rfl ⟨_, rfl, HO.out, HB.out⟩

end Go.Proofs.YtpcacaohknkdlahGreatDoor

namespace Go.Proofs.YtpcacaohknkdlahGreatDoor

open Go.RowKit

/-- What picked answers. -/
def pickZ (n m : Int) : Int := if n < 0 then (-(n + 1)) % m else n % m

theorem pickZ_bd (n m : Int) (h : 0 < m) : 0 ≤ pickZ n m ∧ pickZ n m < m := by
  unfold pickZ
  split
  · exact ⟨Int.emod_nonneg _ (by omega), Int.emod_lt_of_pos _ h⟩
  · exact ⟨Int.emod_nonneg _ (by omega), Int.emod_lt_of_pos _ h⟩

theorem pick_neg (n m : Int) (h : n < 0) : -((n + 1).tmod m) = pickZ n m := by
  have e : n + 1 = -(-(n + 1)) := by omega
  unfold pickZ
  rw [if_pos h]
  conv => lhs; rw [e, Int.neg_tmod, Int.tmod_eq_emod_of_nonneg (by omega)]
  omega

theorem pick_pos (n m : Int) (h : ¬ n < 0) : n % m = pickZ n m := by unfold pickZ; rw [if_neg h]

theorem picked_any (n m : Int) (w : World) (h1 : -9223372036854775808 ≤ n) (h2 : n ≤ 9223372036854775807) (h3 : 0 < m) (h4 : m ≤ 9223372036854775807) :
    Calls Tryz.prog 9 #[.int .i64 n, .int .i64 m] w fun e w' => e = .returned (.int .i64 (pickZ n m)) ∧ w' = w := by
  by_cases h : n < 0
  · have H : Hid (-((n + 1).tmod m) = pickZ n m) := pick_neg n m h
    go_enter Tryz.func9, Tryz.ntmps9
    go_wp2
    go_ret
    exact ⟨by rw [← H.out]; rfl, rfl⟩
  · have H : Hid (n % m = pickZ n m) := pick_pos n m h
    go_enter Tryz.func9, Tryz.ntmps9
    go_wp2
    go_ret
    exact ⟨by rw [← H.out]; rfl, rfl⟩

end Go.Proofs.YtpcacaohknkdlahGreatDoor

namespace Go.Proofs.YtpcacaohknkdlahGreatDoor

open Go.RowKit

/-- What name answers. -/
def nameK (n : Int) : ByteArray := if pickZ n 3 = 0 then ⟨#[97]⟩ else if pickZ n 3 = 1 then ⟨#[98]⟩ else ⟨#[107, 101, 121]⟩

theorem nameK_of (n : Int) : nameK n = ⟨#[97]⟩ ∨ nameK n = ⟨#[98]⟩ ∨ nameK n = ⟨#[107, 101, 121]⟩ := by
  unfold nameK
  split
  · exact Or.inl rfl
  · split
    · exact Or.inr (Or.inl rfl)
    · exact Or.inr (Or.inr rfl)

theorem keepName_exact (n : Int) (w : World) (h1 : -9223372036854775808 ≤ n) (h2 : n ≤ 9223372036854775807) :
    Calls Tryz.prog 26 #[.int .i64 n] w fun e w' => e = .returned (.string (nameK n)) ∧ w' = w.alloc (.cells #[.string ⟨#[97]⟩, .string ⟨#[98]⟩, .string ⟨#[107, 101, 121]⟩] 9) := by
  have hp := pickZ_bd n 3 (by omega)
  have CP := fun w => picked_any n 3 w h1 h2 (by omega) (by omega)
  unfold nameK
  obtain ⟨p, hpe⟩ : ∃ p, p = pickZ n 3 := ⟨_, rfl⟩
  rw [← hpe] at CP hp ⊢
  clear hpe
  rcases (by omega : p = 0 ∨ p = 1 ∨ p = 2) with rfl | rfl | rfl
  all_goals
    go_enter Tryz.func26, Tryz.ntmps26
    go_wp2_with fail
    refine (CP _).mono ?_
    rintro e w1 ⟨rfl, rfl⟩
    go_wp2
    go_ret
    exact ⟨by simp, rfl⟩

end Go.Proofs.YtpcacaohknkdlahGreatDoor

namespace Go.Proofs.YtpcacaohknkdlahGreatDoor

open Go.RowKit

set_option maxHeartbeats 2000000 in
set_option maxRecDepth 100000 in
theorem small_any (i : Int) (h0 : 0 ≤ i) (h1 : i < 100) (w : World) :
    Calls Tryz.prog 122 #[.int .i64 i] w fun e w' => ∃ s, e = .returned (.string s) ∧ s.size ≤ 2 ∧ w' = w := by
  go_enter Tryz.func122, Tryz.ntmps122
  go_name_bytes_deep 45 SM hSM
  have eSM : SM.size = 200 := by rw [← hSM]; decide +kernel
  clear hSM
  go_name_bytes_deep 30 DG hDG
  have eDG : DG.size = 36 := by rw [← hDG]; decide +kernel
  clear hDG
  by_cases h : i < 10
  · have hsl : ∀ w, (Instr.slice 9 (.string DG) (some (.int .i64 i)) (some (.int .i64 (i + 1))) none).run Tryz.prog w = .ok (.string (DG.extract i.toNat (i + 1).toNat)) w := fun w => by
      rw [run_slice_string w 9 DG .i64 .i64 _ _ Tryz.underlying9 (by omega) (by omega) (by rw [eDG]; omega)]
    go_wp2
    go_ret
    exact ⟨_, rfl, by simp [ByteArray.size_extract]; omega, rfl⟩
  · have hsl : ∀ w, (Instr.slice 9 (.string SM) (some (.int .i64 (i * 2))) (some (.int .i64 (i * 2 + 2))) none).run Tryz.prog w = .ok (.string (SM.extract (i * 2).toNat (i * 2 + 2).toNat)) w := fun w => by
      rw [run_slice_string w 9 SM .i64 .i64 _ _ Tryz.underlying9 (by omega) (by omega) (by rw [eSM]; omega)]
    go_wp2
    go_ret
    exact ⟨_, rfl, by simp [ByteArray.size_extract]; omega, rfl⟩

theorem formatInt_any (i : Int) (h0 : 0 ≤ i) (h1 : i < 100) (w : World) :
    Calls Tryz.prog 94 #[.int .i64 i, .int .i64 10] w fun e w' => ∃ s, e = .returned (.string s) ∧ s.size ≤ 2 ∧ w' = w := by
  go_enter Tryz.func94, Tryz.ntmps94
  go_wp2_with fail
  refine (small_any i h0 h1 _).mono ?_
  rintro e w1 ⟨s, rfl, hs, rfl⟩
  go_wp2
  go_ret
  exact ⟨_, rfl, hs, rfl⟩

theorem inItoa_any (i : Int) (h0 : 0 ≤ i) (h1 : i < 100) (w : World) :
    Calls Tryz.prog 61 #[.int .i64 i] w fun e w' => ∃ s, e = .returned (.string s) ∧ s.size ≤ 2 ∧ w' = w := by
  go_enter Tryz.func61, Tryz.ntmps61
  go_wp2_with fail
  refine (formatInt_any i h0 h1 _).mono ?_
  rintro e w1 ⟨s, rfl, hs, rfl⟩
  go_wp2
  go_ret
  exact ⟨_, rfl, hs, rfl⟩

theorem itoa_any (i : Int) (h0 : 0 ≤ i) (h1 : i < 100) (w : World) :
    Calls Tryz.prog 27 #[.int .i64 i] w fun e w' => ∃ s, e = .returned (.string s) ∧ s.size ≤ 2 ∧ w' = w := by
  go_enter Tryz.func27, Tryz.ntmps27
  go_wp2_with fail
  refine (inItoa_any i h0 h1 _).mono ?_
  rintro e w1 ⟨s, rfl, hs, rfl⟩
  go_wp2
  go_ret
  exact ⟨_, rfl, hs, rfl⟩

end Go.Proofs.YtpcacaohknkdlahGreatDoor
