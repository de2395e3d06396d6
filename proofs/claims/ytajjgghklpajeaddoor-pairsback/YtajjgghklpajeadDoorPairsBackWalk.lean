/- PairsBack, walked. -/
import Derived.Test.YtajjgghklpajeadDoorPairBackMap
import Derived.Test.YtajjgghklpajeadDoorPairSet
import Derived.Test.YtajjgghklpajeadDoorRawOpen
import Derived.Test.YtajjgghklpajeadDoorKeepOp
namespace Go.Proofs.YtajjgghklpajeadDoor
open Go.RowKit Go.Maps

theorem grown_of_below {w w' : World} (h : Below w.heap.size w w') (row : Option Nat) : w.grownBy w' row := ⟨h.os, h.tape, h.output, h.size, fun i hi _ => h.block i hi⟩

/-- What Op answers of a raw thing of the kind 6: a short text. -/
def OpShort : Prop := ∀ (x2 : Int) (w : World), Fits x2 → Calls Tryd.prog 4 #[.agg #[.int .i64 6, .int .i64 0, .int .i64 x2, .int .i64 0]] w fun e w' => ∃ (nm s : ByteArray) (n : Int), e = .returned (.agg #[.int .i64 5, .string nm, .string s, .int .i64 n]) ∧ s.size ≤ 3 ∧ Below w.heap.size w w'

theorem opShort : OpShort := fun x2 w f2 => by
  refine (keepOp_any 6 0 x2 0 w (by omega) (by omega) f2 (by omega)).mono ?_
  rintro e w' ⟨s, n, rfl, h5, -, hb⟩
  exact ⟨nameK 0, s, n, rfl, (h5 (by decide)).1, hb⟩

theorem opField (a b d : Value) (c' : ByteArray) (w : World) : (Instr.field 26 (.agg #[a, b, .string c', d]) 2).run Tryd.prog w = .ok (.string c') w := by
  simp [Instr.field, run_underlying Tryd.underlying26, asAgg, part, Tryd.isAgg9]

set_option maxRecDepth 100000 in
set_option maxHeartbeats 6400000 in
theorem pairsBack_walk (HOP : OpShort) (v : Value) (rs : List RawD) (a1 : Int) (w : World) (hv : RawsR w w.heap.size v rs) :
    Calls Tryd.prog 3 #[v, .int .i64 a1] w fun e w' => e = .returned (.bool true) ∧ Below w.heap.size w w' := by
  have hmm := @run_makeMap Tryd.prog
  have hfld := opField
  have HOPH := phid HOP
  clear HOP
  obtain ⟨ao, cap, rfl, h1, h2, h3, h4⟩ := hv
  go_enter Tryd.func3, Tryd.ntmps3
  go_wp2
  clear hmm
  go_loopw [5, 7] (fun o i wr => ∃ (k : Nat) (ps : List PairD) (D : DataW Unit), k ≤ rs.length ∧ k ≤ 30 ∧ i = .int .i64 k ∧ PairsR wr wr.heap.size o ps ∧ KeepP k ps ∧ wr.ownsMap Tryd.prog 9 (plainElem Tryd.prog 9) w.heap.size k D ∧ Agree D ps ∧ Below w.heap.size w wr) (fun _ i _ => rs.length - (intOf i).toNat)
  case atStart => exact ⟨0, [], .map [], by omega, by omega, rfl, PairsR.nil _ _, KeepP.nil, World.ownsMap_made _ _ _ _, Agree.nil, (Below.refl _ _).alloc (Nat.le_refl _) _⟩
  case round =>
    obtain ⟨k, ps, D, hk, hk30, rfl, hr, hkp, hown, hag, hb⟩ := hrel
    by_cases hlt : k < rs.length ∧ k < 30
    · obtain ⟨hlt, hlt2⟩ := hlt
      obtain ⟨b, off, rfl, hbB, hc⟩ := h4 (by omega)
      obtain ⟨x, hx⟩ : ∃ x, rs[k]? = some x := ⟨_, List.getElem?_eq_getElem hlt⟩
      obtain ⟨c0, c1, c2, c3, f0, f1, f2, f3⟩ := hc k x hx
      obtain ⟨x0, x1, x2, x3⟩ := x
      simp only at c0 c1 c2 c3 f0 f1 f2 f3
      have kk : ∀ (w' : World), Below w.heap.size w w' → ∀ j, w'.cell? ⟨b, j, none⟩ = w.cell? ⟨b, j, none⟩ := fun w' hb' j => hb'.cell (p := ⟨b, j, none⟩) (by show b < w.heap.size; omega)
      have KK := phid kk
      have d2 := (kk wr hb _).trans c2
      have C1 := phid c1
      have CO := phid (fun w' => HOPH.out x2 w' f2)
      have CN := phid (fun w' => keepName_any x1 w' f1.1 f1.2)
      have HNK := phid (nameK_of x1)
      obtain ⟨nm, hnme⟩ : ∃ nm, nm = nameK x1 := ⟨_, rfl⟩
      rw [← hnme] at CN HNK
      have hns : nm.size ≤ 140737488351232 := by rcases HNK.out with e | e | e <;> rw [e] <;> decide
      have HR := phid hr
      have HKP := phid hkp
      have HO := phid hown
      have HA := phid hag
      have HB := phid hb
      obtain ⟨oo, oc, rfl, -⟩ := hr
      clear hnme hx hc h4 hkp hown hag hb c0 c1 c2 c3 kk f0 f1 f2 f3 h3
      go_wp2_with fail
      refine (CO.out _).mono ?_
      rintro e w1 ⟨onm, val, on, rfl, hvs, hb1⟩
      have HB1 := phid (HB.out.trans (hb1.mono HB.out.size))
      have hv12 : val.size ≤ 12 := by omega
      have hvs2 : val.size ≤ 140737488351232 := by omega
      have HR1 := phid ((HR.out.below hb1 (Nat.le_refl _)).mono hb1.size)
      have HO1 := phid (HO.out.kept (grown_of_below hb1 none) (by simp))
      have e1 := (KK.out w1 HB1.out _).trans C1.out
      clear hb1 d2
      go_wp2_with fail
      refine (CN.out _).mono ?_
      rintro e w2 ⟨rfl, hb2⟩
      have HB2 := phid (HB1.out.trans (hb2.mono HB1.out.size))
      have HR2 := phid ((HR1.out.below hb2 (Nat.le_refl _)).mono hb2.size)
      have HO2 := phid (HO1.out.kept (grown_of_below hb2 none) (by simp))
      clear hb2 e1
      have hkI : (0 : Int) ≤ k := by omega
      have hkI2 : (k : Int) < 1073741824 := by omega
      have HS := phid (HKP.out.set hkI hkI2 HNK.out hv12)
      go_wp2_with fail
      refine (Set_ok _ ps nm val w2 _ HR2.out (Nat.le_refl _) hns hvs2 HS.out.1).mono ?_
      rintro e w3 ⟨v3, rfl, hr3, hb3⟩
      rw [HS.out.2.1]
      obtain ⟨N, hN⟩ : ∃ N, N = (setP ps nm val).2.2 := ⟨_, rfl⟩
      rw [← hN]
      obtain ⟨ps', hps⟩ : ∃ ps', ps' = (setP ps nm val).1 := ⟨_, rfl⟩
      rw [← hps] at hr3
      have HN := phid hN
      have HPS := phid hps
      clear hN hps
      simp only [replyP]
      have hb3' : Below w3.heap.size w3 (w3.alloc (.cells #[.int .i64 0, .int .i64 N, .string ⟨#[]⟩] 32)) := (Below.refl _ _).alloc (Nat.le_refl _) _
      have hb23 := hb3.trans (hb3'.mono hb3.size)
      have HB3 := phid (HB2.out.trans (hb23.mono HB2.out.size))
      have HR3 := phid ((HR2.out.below hb23 (Nat.le_refl _)).mono hb23.size)
      have HN3 := phid ((hr3.below hb3' (Nat.le_refl _)).mono hb3'.size)
      have HO3 := phid (HO2.out.kept (grown_of_below hb23 none) (by simp))
      have hz3 : w.heap.size ≤ w3.heap.size := Nat.le_trans HB2.out.size hb3.size
      have e3 := (KK.out _ HB3.out _).trans C1.out
      obtain ⟨vo3, vc3, rfl, -⟩ := hr3
      clear hb3 hb3' hb23
      go_wp2_with fail
      refine (CN.out _).mono ?_
      rintro e w4 ⟨rfl, hb4⟩
      have HB4 := phid (HB3.out.trans (hb4.mono HB3.out.size))
      have HR4 := phid ((HR3.out.below hb4 (Nat.le_refl _)).mono hb4.size)
      have HN4 := phid ((HN3.out.below hb4 (Nat.le_refl _)).mono hb4.size)
      have HO4 := phid (HO3.out.kept (grown_of_below hb4 none) (by simp))
      have HP4 : Hid (w4.heap[w3.heap.size]? = some (.cells #[.int .i64 0, .int .i64 N, .string ⟨#[]⟩] 32 (0, 0))) := (hb4.block _ (by simp)).trans (heap_alloc_new w3 _)
      have hz4 : w3.heap.size < w4.heap.size := lt_of_block HP4.out
      clear hb4 e3
      go_wp2_with fail
      refine (Get_ok _ ps nm w4 _ HR4.out (Nat.le_refl _) HKP.out.good.check).mono ?_
      rintro e w5 ⟨rfl, hb5⟩
      obtain ⟨gc, hgc⟩ : ∃ c, c = (getP ps nm).1 := ⟨_, rfl⟩
      obtain ⟨gn, hgn⟩ : ∃ c, c = (getP ps nm).2.1 := ⟨_, rfl⟩
      obtain ⟨gt, hgt⟩ : ∃ c, c = (getP ps nm).2.2 := ⟨_, rfl⟩
      rw [← hgc, ← hgn, ← hgt]
      have hNg : N = gn + 1 := by rw [HN.out, hgn]; exact HS.out.2.2.1
      have hg0 : 0 ≤ gn := by rw [hgn]; exact HS.out.2.2.2.1
      have hg1 : gn ≤ 1073741824 := by have := HS.out.2.2.2.2.1; rw [← hgn] at this; omega
      clear hgc hgn hgt
      subst hNg
      simp only [replyP]
      have hb5' : Below w5.heap.size w5 (w5.alloc (.cells #[.int .i64 gc, .int .i64 gn, .string gt] 32)) := (Below.refl _ _).alloc (Nat.le_refl _) _
      have hb45 := hb5.trans (hb5'.mono hb5.size)
      have HB5 := phid (HB4.out.trans (hb45.mono HB4.out.size))
      have HN5 := phid ((HN4.out.below hb45 (Nat.le_refl _)).mono hb45.size)
      have HO5 := phid (HO4.out.kept (grown_of_below hb45 none) (by simp))
      have g5 : w5.heap[w3.heap.size]? = some (.cells #[.int .i64 0, .int .i64 (gn + 1), .string ⟨#[]⟩] 32 (0, 0)) := (hb5.block _ hz4).trans HP4.out
      have s0 : w5.cell? ⟨w3.heap.size, 0, none⟩ = some (.int .i64 0) := cell_of_row w5 w3.heap.size 0 _ _ _ g5
      have s1 : w5.cell? ⟨w3.heap.size, 1, none⟩ = some (.int .i64 (gn + 1)) := cell_of_row w5 w3.heap.size 1 _ _ _ g5
      have hz5 : w3.heap.size < w5.heap.size := lt_of_block g5
      have hz5n : w3.heap.size ≠ w5.heap.size := by omega
      have e5 := (KK.out _ HB5.out _).trans C1.out
      have hbw5 : b < w5.heap.size := by have := HB4.out.size; have := hb5.size; omega
      have hwr : IntKind.i64.wrap (gn + 1) = gn + 1 := by rw [IntKind.wrap_i64]; omega
      clear hb5 hb5' hb45 g5
      go_wp2_with fail
      refine (CN.out _).mono ?_
      rintro e w6 ⟨rfl, hb6⟩
      have HB6 := phid (HB5.out.trans (hb6.mono HB5.out.size))
      have HN6 := phid ((HN5.out.below hb6 (Nat.le_refl _)).mono hb6.size)
      have ho6 := HO5.out.kept (grown_of_below hb6 none) (by simp)
      obtain ⟨v0, st, w7, w8, hme, hes, hown8, hgrow8⟩ := entry_own ho6 sKeyed sLaw Tryd.underlying24 sZero (by unfold maxLen; omega) (Go.WideMaps.keyOf_string_mk (s := nm) Tryd.underlying9 (by unfold maxLen; omega)) (plainElem_string (s := val) Tryd.underlying9 (by unfold maxLen; omega))
      simp only [goInt] at hme hes
      have HB8 := phid (HB6.out.grown hgrow8 HB6.out.size (fun j hj => by cases hj; exact Nat.le_refl _))
      have HO8 := phid hown8
      have HN8 := phid ((HN6.out.keptMap ho6 hgrow8).mono hgrow8.size)
      have HT := phid (ho6.tidy sKeyed)
      clear hb6 ho6 hown8 hgrow8
      go_wp2
      go_roundw
      case rel =>
        refine ⟨k + 1, ps', _, by omega, by omega, by go_num, ?_, ?_, HO8.out, ?_, HB8.out⟩
        · exact HN8.out
        · rw [HPS.out]
          exact HS.out.2.2.2.2.2.1
        · rw [HPS.out]
          exact HA.out.put HT.out HKP.out hkI hkI2 HNK.out hv12
      case measure => simp [intOf]; omega
    · rename World => wq
      have h3l := hkp.len
      have HA := phid hag
      have HKP := phid hkp
      have HB := phid hb
      have HR := phid hr
      have hso : w.heap.size < wq.heap.size := hown.lt
      obtain ⟨oo, oc, rfl, -⟩ := hr
      clear hag hkp hb h4 h3
      have hq1 : ((k : Int) < (rs.length : Int) ∧ ¬ ((k : Int) < 30)) ∨ ¬ ((k : Int) < (rs.length : Int)) := by omega
      clear hlt
      rcases hq1 with ⟨hq1, hq2⟩ | hq1
      all_goals
        go_wp2_with (first
          | (at_range; refine wpList_range_own _ rfl _ 24 rfl 9 9 sKeyed Tryd.underlying24 _ w.heap.size k _ rfl hown ?_; intro w0 hrg0 hg0 hs0)
          | go_in)
        have hb0 : Below wq.heap.size wq w0 := (Below.refl _ _).grown hg0 (Nat.le_refl _) (fun j hj => by cases hj)
        have HB0 := phid hb0
        have HRG0 := phid hrg0
        clear hown hrg0 hg0 hs0 hb0
        go_loopw [14] (fun _ wx => ∃ (left : Lit → Bool) (cnt : Nat), wx.ranges Tryd.prog 9 (plainElem Tryd.prog 9) w.heap.size wq.heap.size k D left cnt ∧ (∀ kl, left kl = true → Maps.has D kl = true) ∧ Below wq.heap.size wq wx) (fun _ wx => wx.rangeLeft w.heap.size wq.heap.size)
        case atStart => exact ⟨_, _, HRG0.out, fun _ h => h, HB0.out⟩
        case round =>
          obtain ⟨left, cnt, hrg, hleft, hbx⟩ := hrel
          have HLF := phid hleft
          have HBX := phid hbx
          have HRG := phid hrg
          clear hleft hbx hrg
          go_wp2_with (first
            | (at_next; refine wpList_next_ranges_ss _ rfl _ rfl 9 9 sKeyed Tryd.underlying9 Tryd.underlying9 w.heap.size wq.heap.size k _ _ _ rfl HRG.out ?_ ?_)
            | go_in)
          · intro _ _
            have HRX := phid ((HR.out.below HBX.out (Nat.le_refl _)).mono HBX.out.size)
            have HOX := phid HRG.out.owns
            have HZZ : Hid (getP ps ⟨#[122, 122]⟩ = (6, 0, ⟨#[]⟩)) := getP_none (thereP_false_of fun x hx => by rcases HKP.out.names x hx with e | e | e <;> rw [e] <;> decide)
            have CG := phid (Get_ok _ ps ⟨#[122, 122]⟩ wr _ HRX.out (Nat.le_refl _) HKP.out.good.check)
            rw [HZZ.out] at CG
            simp only [replyP] at CG
            have HBW := phid (HB.out.trans (HBX.out.mono HB.out.size))
            go_wp2_with fail
            refine CG.out.mono ?_
            rintro e w1 ⟨rfl, hb1⟩
            have HB1 := phid (HBW.out.trans (hb1.mono HBW.out.size))
            have HB2 := phid (HB1.out.alloc HB1.out.size (.cells #[.int .i64 6, .int .i64 0, .string ⟨#[]⟩] 32))
            have HO2 := phid ((HOX.out.kept (grown_of_below hb1 none) (by simp)).alloc (.cells #[.int .i64 6, .int .i64 0, .string ⟨#[]⟩] 32))
            clear hb1
            have hml := fun ty => HO2.out.len Tryd.underlying24 ty
            rw [HA.out.size] at hml
            go_wp2
            go_ret
            exact ⟨rfl, HB2.out⟩
          · intro x c w1 cnt1 hlx hat hrg1 hlt hg1 hs1 hen
            obtain ⟨y, hy, hyn⟩ := HA.out.has _ (HLF.out _ hlx)
            have exy : x = y.name := nameL_inj hyn
            have hcy : c = y.value := by
              have e1 := hat .nil
              rw [exy, HA.out.at' y hy] at e1
              have e2 : y.value.data.toList = c.data.toList := by simpa using e1
              have e3 : y.value.data = c.data := Array.toList_inj.1 e2
              cases hcv : c; cases hyv : y.value; rw [hcv, hyv] at e3; simp_all
            have HGY := phid (getP_mem HKP.out.good hy)
            rw [← exy, ← hcy] at HGY
            obtain ⟨yv, hyv⟩ : ∃ v, v = y.version := ⟨_, rfl⟩
            rw [← hyv] at HGY
            have hbx1 : Below wq.heap.size wq w1 := HBX.out.grown hg1 HBX.out.size (fun j hj => by cases hj; exact Nat.le_refl _)
            have HBX1 := phid hbx1
            have HRX := phid ((HR.out.below hbx1 (Nat.le_refl _)).mono hbx1.size)
            have HRG1 := phid hrg1
            have HLT := phid hlt
            have CG := phid (Get_ok _ ps x w1 _ HRX.out (Nat.le_refl _) HKP.out.good.check)
            rw [HGY.out] at CG
            simp only [replyP] at CG
            clear hlx hat hrg1 hlt hg1 hs1 hy hyn exy hcy hyv hbx1 y
            go_wp2_with fail
            refine CG.out.mono ?_
            rintro e w2 ⟨rfl, hb2⟩
            have HBX2 := phid ((HBX1.out.trans (hb2.mono HBX1.out.size)).alloc (Nat.le_trans HBX1.out.size hb2.size) (.cells #[.int .i64 0, .int .i64 yv, .string c] 32))
            have HRG2 := phid ((HRG1.out.kept (grown_of_below hb2 none) (by simp) (by simp)).alloc (.cells #[.int .i64 0, .int .i64 yv, .string c] 32))
            clear hb2
            go_wp2
            go_roundw
            case rel => exact ⟨_, cnt1, HRG2.out, fun kl hkl => HLF.out kl (by rw [Bool.and_eq_true] at hkl; exact hkl.1), HBX2.out⟩
            case measure => rw [HRG2.out.left_eq, HRG.out.left_eq]; exact HLT.out
end Go.Proofs.YtajjgghklpajeadDoor
