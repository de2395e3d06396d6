/- MachinesGood, walked (joined by program) -/
import Derived.Deep.RegionHeld3
import Derived.Test.YtkjahjknmfjmkagGreatDoorMG46
import Derived.Test.YtkjahjknmfjmkagGreatDoorMG48
namespace Go.Proofs.YtkjahjknmfjmkagGreatDoor

open Go.RowKit

theorem mgood1_any (x : SessD) (ao : Option Addr) (n c : Nat) (cl : Int) (b0 : Nat) (w : World) (hc0 : w.cell? ⟨b0, 0, none⟩ = some (.int .i64 cl)) (hb0 : b0 < w.heap.size) :
    Calls Tryz.prog 10 #[.agg #[.int .i64 x.client, .int .i64 x.id, .int .i64 x.acked, .int .i64 x.last, .slice ao n c], .pointer (some ⟨b0, 0, none⟩)] w fun e w' => e = .returned (.bool (x.client == cl)) ∧ Below w.heap.size w w' := by
  go_enter Tryz.func10, Tryz.ntmps10
  go_wp2
  go_ret
  exact ⟨rfl, (Below.refl _ _).alloc (Nat.le_refl _) _⟩

/-- Is one of these sessions the client's? -/
theorem mgoodHas (v : Value) (ls : List SessD) (c : Int) (b0 : Nat) (w : World) (B : Nat) (hv : SessR w B v ls) (hB : B ≤ w.heap.size) (hc : w.heap[b0]? = some (.cells #[.int .i64 c] 3 (0, 0))) (hh : HasC ls c) :
    Calls Tryz.prog 9 #[v, .func (.func 10) #[] #[.pointer (some ⟨b0, 0, none⟩)]] w fun e w' => e = .returned (.bool true) ∧ Below w.heap.size w w' := by
  have hlt := (Array.getElem?_eq_some_iff.1 hc).1
  have e : ls.any (fun x : SessD => (x.client == c)) = true := by
    obtain ⟨x, hx, e⟩ := hh
    exact List.any_eq_true.2 ⟨x, hx, by simpa using e⟩
  have := containsS v ls 10 #[.pointer (some ⟨b0, 0, none⟩)] (fun x => x.client == c) (fun _ => False) w B hv hB (enters_of Tryz.func10 (by decide) rfl) (fun x ao n k w' _ hw => by
    have hz := hw.size
    refine mgood1_any x ao n k c b0 w' ?_ (by omega)
    exact (World.cell?_of_block (hw.block b0 hlt (fun h => h))).trans (cells_of hc 0))
  rw [e] at this
  exact this

set_option maxRecDepth 100000 in
set_option maxHeartbeats 6400000 in
theorem machinesGood_walk (v : Value) (rs : List RawD) (w : World) (hv : RawsR w w.heap.size v rs) :
    Calls Tryz.prog 3 #[v] w fun e w' => e = .returned (.bool true) ∧ Below w.heap.size w w' := by
  have CC : Hid (Calls Tryz.prog 7 #[v, .int .i64 80] w fun e w' => ∃ (vo : Value) (out : List CmdD), e = .returned vo ∧ w'.ownsRow w.heap.size 61 9 vo out.length (flatC out) ∧ out.length = min rs.length 80 ∧ (∀ x ∈ out, KeepX 80 x) ∧ Below w.heap.size w w') := commands_upto 80 (by omega) v rs w hv
  obtain ⟨j0, hj, hy0, hy1, hy2⟩ := info_parts Tryz.infoInt
  obtain ⟨ao, cap, rfl, h1, h2, h3, h4⟩ := hv
  clear h3 h4
  go_enter Tryz.func3, Tryz.ntmps3
  go_wp2_with fail
  refine CC.out.mono ?_
  rintro e w1 ⟨vo1, out, rfl, hrow, hlen, hok, hb1⟩
  have hok' : ∀ x ∈ out, x.err = 0 := fun x hx => (hok x hx).err
  have CE := ghid (entries_any vo1 out w1 w.heap.size hrow hok' (by omega))
  have HOK := ghid hok'
  have HLEN := ghid hlen
  obtain ⟨oo, oc, rfl⟩ := crow_shape hrow
  have HB1 := ghid hb1
  clear hrow hlen hok hok' hb1 CC
  go_wp2_with fail
  refine CE.out.mono ?_
  rintro e w2 ⟨vo2, rfl, hown2, hb2⟩
  have htx := texts_reads hown2 (fun t ht => by obtain ⟨x, hx, rfl⟩ := List.mem_map.1 ht; have := cmdOut_size x (HOK.out x hx); omega) (by rw [List.length_map]; have := HLEN.out; omega) (Nat.le_refl _)
  have CA := ghid (applied_any vo2 out w2 w2.heap.size htx (Nat.le_refl _) HOK.out (by have := HLEN.out; omega))
  have hgg := runM_good out HOK.out (by have := HLEN.out; omega) out.length (Nat.le_refl _)
  rw [List.take_length] at hgg
  obtain ⟨vo2', vc2', rfl⟩ := htx.slice
  rw [List.length_map] at CA ⊢
  have HB2 := ghid (HB1.out.trans (hb2.mono HB1.out.size))
  have HGG := ghid hgg
  obtain ⟨s, hs⟩ : ∃ s, s = runM out := ⟨_, rfl⟩
  rw [← hs] at CA HGG
  clear hown2 hb2 htx hs hgg CE
  go_wp2_with fail
  refine CA.out.mono ?_
  rintro e w3 ⟨v3, rfl, ho3, hb3⟩
  obtain ⟨lo, po, so, ln, lc, pn, pc, sn, sc, rfl, -⟩ := id ho3
  have K4 := ho3.boxed
  have hb4 := (HB2.out.trans (hb3.mono HB2.out.size)).alloc (by have := HB2.out.size; have := hb3.size; omega) (.cells #[.int .i64 s.index, .slice lo ln lc, .slice po pn pc, .slice so sn sc] 27)
  have ho4 := ho3.below ((Below.refl w3.heap.size w3).alloc (Nat.le_refl _) (.cells #[.int .i64 s.index, .slice lo ln lc, .slice po pn pc, .slice so sn sc] 27))
  have hbx4 : (w3.alloc (.cells #[.int .i64 s.index, .slice lo ln lc, .slice po pn pc, .slice so sn sc] 27)).heap[w3.heap.size]? = some (.cells #[.int .i64 s.index, .slice lo ln lc, .slice po pn pc, .slice so sn sc] 27 (0, 0)) := heap_alloc_new w3 _
  obtain ⟨W4, hW4⟩ : ∃ W4, W4 = w3.alloc (.cells #[.int .i64 s.index, .slice lo ln lc, .slice po pn pc, .slice so sn sc] 27) := ⟨_, rfl⟩
  obtain ⟨p, hp⟩ : ∃ p, p = w3.heap.size := ⟨_, rfl⟩
  rw [← hW4] at K4 hb4 ho4 hbx4
  rw [← hp] at K4 hbx4
  have HB4 := ghid hb4
  have HO4 := ghid ho4
  have HX4 := ghid hbx4
  have HW4 := ghid hW4
  have HP4 := ghid hp
  have hpl4 := K4.lt
  obtain ⟨e0, e1, e2, e3, ef, -⟩ := state_cells hbx4
  obtain ⟨lo', po', so', ln', lc', pn', pc', sn', sc', he, hl4, -, hs4⟩ := id ho4
  simp only [Value.agg.injEq, Array.mk.injEq, List.cons.injEq, Value.slice.injEq, and_true, true_and] at he
  obtain ⟨⟨rfl, rfl, rfl⟩, ⟨rfl, rfl, rfl⟩, ⟨rfl, rfl, rfl⟩⟩ := he
  have HL4 := ghid (hl4.reads (Nat.le_refl _))
  have HS4 := ghid hs4
  have hln : ln = s.locks.length := by
    obtain ⟨a, b, e⟩ := (hl4.reads (Nat.le_refl _)).slice
    simp only [Value.slice.injEq] at e
    exact e.2.1
  subst hln
  have hll := (hl4.reads (Nat.le_refl _)).len
  clear ho3 hb3 K4 hb4 ho4 hbx4 hW4 hp CA hl4 hs4
  go_upto_region 2 with fail
  rw [← HW4.out, ← HP4.out]
  clear HW4 HP4
  go_wp2
  go_loopw [19] (fun i wr => ∃ k : Nat, k ≤ s.locks.length ∧ i = .int .i64 k ∧ Below W4.heap.size W4 wr) (fun i _ => s.locks.length - (intOf i).toNat)
  case atStart => exact ⟨0, Nat.zero_le _, rfl, Below.refl _ _⟩
  case round =>
    obtain ⟨k, hk, rfl, hbr⟩ := hrel
    have hzr := hbr.size
    by_cases hlt : k < s.locks.length
    · obtain ⟨x, hx⟩ : ∃ x, s.locks[k]? = some x := ⟨_, List.getElem?_eq_getElem hlt⟩
      have hxm := List.mem_of_getElem? hx
      have hheld := HGG.out.2.1 x hxm
      have hgx := (HGG.out.1.locks.each x hxm).1
      obtain ⟨ao', cap', he, q1, q2, q3, q4⟩ := HL4.out.below hbr (Nat.le_refl _)
      obtain ⟨b, off, rfl, hbB, hc⟩ := q4 (by omega)
      simp only [Value.slice.injEq] at he
      obtain ⟨rfl, -, rfl⟩ := he
      obtain ⟨lv, c0, c1, c2, c3, hline, -⟩ := hc k x hx
      obtain ⟨ko, kc, rfl, -⟩ := id hline
      have hl3 := hgx.line.len
      obtain ⟨xn, xh, xf, xl⟩ := x
      simp only at c0 c1 c2 c3 hline hheld hl3
      have HBR := ghid hbr
      have CL := ghid (fun (W : World) (hb : Below wr.heap.size wr W) => cloneInts (.slice ko xl.length kc) xl W W4.heap.size (hline.below hb hzr) (by have := hb.size; omega))
      have HHELD := ghid hheld
      have HBX := ghid (heap_alloc_new wr (.cells #[.string xn, .int .i64 xh, .int .i64 xf, .slice ko xl.length kc] 36))
      obtain ⟨W5, hW5⟩ : ∃ W5, W5 = wr.alloc (.cells #[.string xn, .int .i64 xh, .int .i64 xf, .slice ko xl.length kc] 36) := ⟨_, rfl⟩
      rw [← hW5] at HBX
      have hb5 : Below wr.heap.size wr W5 := by rw [hW5]; exact (Below.refl _ _).alloc (Nat.le_refl _) _
      have HB5 := ghid hb5
      have HW5 := ghid hW5
      obtain ⟨f0, f1, f2, f3, -, hfl⟩ := state_cells HBX.out
      clear hc q4 hx hxm hgx hheld hline hbr hb5 hW5
      go_upto_region 5 with fail
      rw [← HW5.out]
      clear c0 c1 c2 c3 HW5
      go_cut [29, 30, 31] (fun sv lv iv wx => ∃ (gn cn : Nat), sv = .slice (some ⟨gn, 0, none⟩) (xl.length + 1) cn ∧ lv = .int .i64 ((xl.length : Int) + 1) ∧ iv = .int .i64 0 ∧ wx.ownsRow wr.heap.size 3 1 (.slice (some ⟨gn, 0, none⟩) (xl.length + 1) cn) (xl.length + 1) (intCells (xl ++ [xh])) ∧ Below wr.heap.size wr wx)
      case first =>
        go_region_held3 (fun w' => w'.cell? ⟨wr.heap.size, 1, none⟩ = some (.int .i64 xh) ∧ w'.cell? ⟨wr.heap.size, 3, none⟩ = some (.slice ko xl.length kc)) (go_keep)
          (first
            | (go_at_call 8; refine (CL.out _ (by first | exact HB5.out.drew | exact (HB5.out.alloc HB5.out.size _).drew)).mono ?_; rintro e w6 ⟨v6, rfl, hown6, hb6⟩; have hx6 := behind HBX.out (by first | exact (Below.refl _ _).drew | exact ((Below.refl _ _).alloc (Nat.le_refl _) _).drew) hb6; obtain ⟨y0, y1, y2, y3, -, hyl⟩ := state_cells hx6; obtain ⟨vo6, vc6, rfl⟩ := grow_shape hown6; have hz6 := hb6.size; have hlo6 := (fun b hb => (hown6.lt b hb).1); simp at hz6 hlo6; try (with_reducible have hn6 := behind (heap_alloc_new W5 (.cells #[.int .i64 xh] 3)) ((Below.refl _ _).drew) hb6))
            | (refine step_append_lies _ rfl (.tmp 25) (.tmp 28) 34 rfl wr.heap.size 3 j0 _ 1 8 Tryz.underlying34 hj hy0 hy1 hy2 rfl (by decide) (.slice vo6 xl.length vc6) xl.length (intCells xl) (by simp [Act.eval]) ((grow_mono hown6 (by simp; omega)).alloc _) ⟨w6.heap.size, 0, none⟩ 1 1 [.int .i64 xh] (by simp [Act.eval]) rfl (World.news_of_block (heap_alloc_new w6 _)) (by intro u hu; simp at hu; subst hu; rfl) (by omega) (by unfold maxLen; omega) (by omega) (by simp; omega) _ rfl ?_; intro gn cn w7 hown7 hg7 hat7 hlt7; have kk7 : ∀ j, w7.cell? ⟨wr.heap.size, j, none⟩ = w6.cell? ⟨wr.heap.size, j, none⟩ := (fun j => (hg7.cell_far ⟨wr.heap.size, j, none⟩ (by simp; omega) (by intro h; have := hlo6 wr.heap.size h.symm; omega)).trans (World.cell?_alloc_lt _ _ _ (by show wr.heap.size < w6.heap.size; omega))))
            | (refine step_append_lies _ rfl (.tmp 25) (.tmp 28) 34 rfl wr.heap.size 3 j0 _ 1 8 Tryz.underlying34 hj hy0 hy1 hy2 rfl (by decide) (.slice vo6 xl.length vc6) xl.length (intCells xl) (by simp [Act.eval]) (grow_mono hown6 (by simp; omega)) ⟨W5.heap.size, 0, none⟩ 1 1 [.int .i64 xh] (by simp [Act.eval]) rfl (World.news_of_block hn6) (by intro u hu; simp at hu; subst hu; rfl) (by omega) (by unfold maxLen; omega) (by omega) (by omega) _ rfl ?_; intro gn cn w7 hown7 hg7 hat7 hlt7; have kk7 : ∀ j, w7.cell? ⟨wr.heap.size, j, none⟩ = w6.cell? ⟨wr.heap.size, j, none⟩ := (fun j => hg7.cell_far ⟨wr.heap.size, j, none⟩ (by show wr.heap.size < w6.heap.size; omega) (by intro h; have := hlo6 wr.heap.size h.symm; omega))))
        all_goals
          go_wp2
          go_meet
          have e7 : intCells (xl ++ [xh]) = intCells xl ++ [.int .i64 xh] := by simp [intCells]
          refine ⟨gn, cn, rfl, rfl, rfl, by rw [e7]; exact hown7, ?_⟩
          have hbA : Below wr.heap.size wr w6 := by
            first
              | with_reducible exact (HB5.out.drew).trans (hb6.mono (by simp; omega))
              | with_reducible exact ((HB5.out.alloc HB5.out.size _).drew).trans (hb6.mono (by simp; omega))
          have hzA := hbA.size
          first
            | with_reducible exact hbA.grown hg7 hzA (fun j hj => by have := hlo6 j hj; omega)
            | with_reducible exact (hbA.alloc hzA _).grown hg7 (by simp; omega) (fun j hj => by have := hlo6 j hj; omega)
      case rest =>
        obtain ⟨gn, cn, rfl, rfl, rfl, hown, hbx⟩ := hcut
        have HOW := ghid hown
        have HBX2 := ghid hbx
        clear hown hbx hj hy0 hy1 hy2 f0 f1 f2 f3
        go_wp2_with fail
        go_loopw [31] (fun i wq => ∃ m : Nat, m ≤ xl.length + 1 ∧ i = .int .i64 m ∧ Below wc.heap.size wc wq) (fun i _ => xl.length + 1 - (intOf i).toNat)
        case atStart => exact ⟨0, Nat.zero_le _, rfl, Below.refl _ _⟩
        case round =>
          rename World => wq
          obtain ⟨m, hm, rfl, hbq⟩ := hrel
          have hzq := hbq.size
          have hzc := HBX2.out.size
          have hbq4 : Below W4.heap.size W4 wq := (HBR.out.trans (HBX2.out.mono hzr)).trans (hbq.mono (by omega))
          have hpq := behind HX4.out (Below.refl _ _) hbq4
          obtain ⟨t0, t1, t2, t3, tf, htl⟩ := state_cells hpq
          by_cases hlm : m < xl.length + 1
          · obtain ⟨who, hwho⟩ : ∃ a, (xl ++ [xh])[m]? = some a := ⟨_, List.getElem?_eq_getElem (by simp; omega)⟩
            have hoq := grow_below HOW.out hbq (Nat.le_refl _)
            have hcw : wq.cell? ⟨gn, m, none⟩ = some (.int .i64 who) := by
              rw [hoq.cellAt m (by omega), show intCells (xl ++ [xh]) = (xl ++ [xh]).map (Value.int .i64) from rfl, List.getElem?_map, hwho]
              rfl
            have hmem : who = xh ∨ who ∈ xl := by
              have := List.mem_of_getElem? hwho
              rcases List.mem_append.1 this with h | h
              · exact Or.inr h
              · exact Or.inl (by simpa using h)
            have hgl := (hoq.lt gn rfl).2
            have hlmI : (m : Int) < (xl.length : Int) + 1 := by omega
            have HBQ4 := ghid hbq4
            have HBQ := ghid hbq
            have hbi : (wq.alloc (.cells #[.int .i64 who] 3)).heap[wq.heap.size]? = some (.cells #[.int .i64 who] 3 (0, 0)) := heap_alloc_new wq _
            have hb8 : Below wq.heap.size wq (wq.alloc (.cells #[.int .i64 who] 3)) := (Below.refl _ _).alloc (Nat.le_refl _) _
            by_cases h0 : who = 0
            · subst h0
              have HF := ghid (HBQ.out.trans (hb8.mono hzq))
              clear hmem hwho hoq hbi hb8 hbq4 hbq hpq
              go_wp2
              go_roundw
              case rel => exact ⟨m + 1, by omega, by go_num, HF.out⟩
              case measure => simp [intOf]; omega
            · have hhas : HasC s.sess who := by
                rcases hmem with e | e
                · rw [e] at h0 ⊢; exact HHELD.out.1 h0
                · exact HHELD.out.2 who e
              have hn0 : (who != 0) = true := by simpa using h0
              have CH := ghid (mgoodHas (.slice so sn sc) s.sess who wq.heap.size _ W4.heap.size (HS4.out.below (hbq4.trans (hb8.mono hbq4.size)) (Nat.le_refl _)) (by have := hbq4.size; have := hb8.size; omega) hbi hhas)
              have HB8 := ghid hb8
              clear hmem hwho hoq hbi hb8 hbq4 hbq hpq hhas h0
              go_wp2_with fail
              refine CH.out.mono ?_
              rintro e w9 ⟨rfl, hb9⟩
              have HF := ghid (HBQ.out.trans ((HB8.out.trans (hb9.mono HB8.out.size)).mono hzq))
              clear hb9 CH
              go_wp2
              go_roundw
              case rel => exact ⟨m + 1, by omega, by go_num, HF.out⟩
              case measure => simp [intOf]; omega
          · have HBQ4 := ghid hbq4
            clear hbq4 hbq hpq
            go_wp2
            go_roundw
            case rel => exact ⟨k + 1, by omega, by go_num, HBQ4.out⟩
            case measure => simp [intOf]; omega
    · have hpr := behind HX4.out (Below.refl _ _) hbr
      obtain ⟨t0, t1, t2, t3, tf, htl⟩ := state_cells hpr
      have hck : checkM s = 0 := HGG.out.1.check
      have hst := (HO4.out.reads).below hbr (Nat.le_refl _)
      have C1 := ghid (fun (W : World) (hb : Below wr.heap.size wr W) => machCheck_any _ s W W4.heap.size (hst.below hb hzr) (by have := hb.size; omega))
      have C2 := ghid (fun (W : World) (hb : Below wr.heap.size wr W) => machCopy_any _ s W W4.heap.size (hst.below hb hzr) (by have := hb.size; omega))
      rw [hck] at C1
      have HIX := ghid HGG.out.2.2
      have HMIN : Hid (s.index = min (rs.length : Int) 80) := by
        unfold Hid
        rw [HIX.out]
        have := HLEN.out
        omega
      have HBR := ghid (HB4.out.trans (hbr.mono HB4.out.size))
      have HCK := ghid hck
      have HPR := ghid hpr
      clear hst hck hpr hbr HGG HIX
      go_wp2_with fail
      refine (C1.out _ (Below.refl _ _)).mono ?_
      rintro e w5 ⟨rfl, hb5⟩
      have hp5 := behind HPR.out (Below.refl _ _) hb5
      have HB5 := ghid hb5
      have HP5 := ghid hp5
      clear t0 t1 t2 t3 tf htl
      obtain ⟨t0, t1, t2, t3, tf, htl⟩ := state_cells hp5
      go_wp2_with fail
      refine (C2.out _ HB5.out).mono ?_
      rintro e w6 ⟨lo6, po6, so6, ln6, lc6, pn6, pc6, sn6, sc6, rfl, hl6, hp6, hs6, hb6⟩
      have C3 := ghid (machCheck_any (.agg #[.int .i64 s.index, .slice lo6 ln6 lc6, .slice po6 pn6 pc6, .slice so6 sn6 sc6]) s w6 w6.heap.size ⟨_, _, _, rfl, hl6.reads (Nat.le_refl _), hp6, hs6⟩ (Nat.le_refl _))
      rw [HCK.out] at C3
      have hp6' := behind HP5.out (Below.refl _ _) hb6
      have HP6 := ghid hp6'
      have HB6 := ghid (HBR.out.trans ((HB5.out.trans (hb6.mono HB5.out.size)).mono HBR.out.size))
      clear hl6 hp6 hs6 hb6 hp6' t0 t1 t2 t3 tf htl
      obtain ⟨t0, t1, t2, t3, tf, htl⟩ := state_cells HP6.out
      go_wp2_with fail
      refine C3.out.mono ?_
      rintro e w7 ⟨rfl, hb7⟩
      have hp7 := behind HP6.out (Below.refl _ _) hb7
      have HB7 := ghid (HB6.out.trans (hb7.mono HB6.out.size))
      clear t0 t1 t2 t3 tf htl
      obtain ⟨t0, t1, t2, t3, tf, htl⟩ := state_cells hp7
      have hix : (s.index == min (rs.length : Int) 80) = true := by rw [HMIN.out]; simp
      clear hb7 hp7
      go_wp2
      go_ret
      exact ⟨rfl, HB7.out⟩

end Go.Proofs.YtkjahjknmfjmkagGreatDoor
