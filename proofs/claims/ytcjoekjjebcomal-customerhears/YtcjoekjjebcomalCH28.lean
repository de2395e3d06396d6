/- The document's CustomerFault: what is wrong with a client (joined by program) -/
import Derived.Test.YtcjoekjjebcomalCH26
import Derived.Test.YtcjoekjjebcomalCH27
namespace Go.Proofs.Ytcjoekjjebcomal

open Go.RowKit

theorem cin_no (n a b : Int) (w : World) (h : ¬ (a ≤ n ∧ n ≤ b)) :
    Calls Try.prog 12 #[.int .i64 n, .int .i64 a, .int .i64 b] w fun e w' => e = .returned (.bool false) ∧ w' = w := by
  by_cases h1 : n < a
  · exact in_low n a b w h1
  · exact in_high n a b w (by omega)

theorem cquiet_at {P : Program} {f : FuncId} {args : Array Value} {v : Value} {X : Nat → World} (n : Nat) (h : Calls P f args (X n) fun e w' => e = .returned v ∧ w' = X n) :
    Calls P f args (X n) fun e w'' => e = .returned v ∧ ∃ m, w'' = X m := h.mono fun _ _ ⟨he, hm⟩ => ⟨he, n, hm⟩

/-- The Seq of the one ahead. -/
def aheadW (ws : List WaitD) : Nat → Int
  | 0 => 0
  | k + 1 => match ws[k]? with
    | some x => x.seq
    | none => 0

theorem aheadW_succ {ws : List WaitD} {k : Nat} {x : WaitD} (h : ws[k]? = some x) : aheadW ws (k + 1) = x.seq := by simp [aheadW, h]

theorem drop_stepW {ws : List WaitD} {k : Nat} {x : WaitD} (h : ws[k]? = some x) : ws.drop k = x :: ws.drop (k + 1) := by
  obtain ⟨hk, he⟩ := List.getElem?_eq_some_iff.1 h
  rw [List.drop_eq_getElem_cons hk, he]

theorem firstW_of {ws : List WaitD} {x : WaitD} (h : ws[0]? = some x) : firstW ws = x.seq := by
  cases ws with
  | nil => simp at h
  | cons y r => simp at h; rw [h]; rfl

set_option maxRecDepth 100000 in
set_option maxHeartbeats 6400000 in
theorem customerFault_any (v : Value) (c : CustD) (w : World) (B : Nat) (hv : CustR w B v c) (hB : B ≤ w.heap.size) :
    Calls Try.prog 11 #[v] w fun e w' => e = .returned (.int .i64 (checkC c)) ∧ Below w.heap.size w w' := by
  obtain ⟨ao, cap, rfl, hw⟩ := hv.shape
  obtain ⟨id, se, nx, ws⟩ := c
  simp only at hw ⊢
  have hb0 : Below w.heap.size w (w.alloc (.cells #[.int .i64 id, .int .i64 se, .int .i64 nx, .slice ao ws.length cap] 24)) := (Below.refl _ _).alloc (Nat.le_refl _) _
  have HX0 : Hid ((w.alloc (.cells #[.int .i64 id, .int .i64 se, .int .i64 nx, .slice ao ws.length cap] 24)).heap[w.heap.size]? = some (.cells #[.int .i64 id, .int .i64 se, .int .i64 nx, .slice ao ws.length cap] 24 (0, 0))) := heap_alloc_new w _
  have HB0 := ghid hb0
  have HM := ghid hw.modest
  have HWR := ghid hw
  have hlen := hw.len
  clear hv hw hb0
  by_cases r1 : 1 ≤ id ∧ id ≤ 9
  · have C1 := ghid (fun u => in_yes id 1 9 u r1.1 r1.2)
    by_cases r2 : 0 ≤ se ∧ se ≤ 1073741824
    · have C2 := ghid (fun u => in_yes se 0 1073741824 u r2.1 r2.2)
      by_cases r3 : 1 ≤ nx ∧ nx ≤ 1048577
      · have C3 := ghid (fun u => in_yes nx 1 1048577 u r3.1 r3.2)
        by_cases r4 : 4 < ws.length ∨ (0 < ws.length ∧ se = 0)
        · have HK : Hid (checkC ⟨id, se, nx, ws⟩ = 9) := by
            unfold Hid checkC
            rw [if_neg (by simp only; omega), if_pos r4]
          have hways : ((4 : Int) < (ws.length : Int)) ∨ (¬ (4 : Int) < (ws.length : Int) ∧ (0 : Int) < (ws.length : Int) ∧ se = 0) := by omega
          clear r1 r2 r4
          go_enter Try.func11, Try.ntmps11
          go_wp2_with fail
          refine (C1.out _).mono ?_
          rintro e u1 ⟨rfl, rfl⟩
          go_wp2_with fail
          refine (C2.out _).mono ?_
          rintro e u2 ⟨rfl, rfl⟩
          go_wp2_with fail
          refine (C3.out _).mono ?_
          rintro e u3 ⟨rfl, rfl⟩
          rcases hways with q1 | ⟨q1, q2, q3⟩
          · go_wp2
            go_ret
            exact ⟨by rw [HK.out]; rfl, HB0.out⟩
          · subst q3
            go_wp2
            go_ret
            exact ⟨by rw [HK.out]; rfl, HB0.out⟩
        · have HK : Hid (checkC ⟨id, se, nx, ws⟩ = waitsE nx (firstW ws) 0 ws) := by
            unfold Hid checkC
            rw [if_neg (by simp only; omega), if_neg r4]
          have hq1 : ¬ (4 : Int) < (ws.length : Int) := by omega
          have hways : (¬ (0 : Int) < (ws.length : Int)) ∨ ((0 : Int) < (ws.length : Int) ∧ (se == 0) = false) := by
            by_cases h0 : 0 < ws.length
            · right; exact ⟨by omega, beq_eq_false_iff_ne.2 (fun e => r4 (.inr ⟨h0, e⟩))⟩
            · left; omega
          have hn0 := r3.1
          have hn1 := r3.2
          clear r1 r2 r4 r3
          go_enter Try.func11, Try.ntmps11
          go_wp2_with fail
          refine (C1.out _).mono ?_
          rintro e u1 ⟨rfl, rfl⟩
          go_wp2_with fail
          refine (C2.out _).mono ?_
          rintro e u2 ⟨rfl, rfl⟩
          go_wp2_with fail
          refine (C3.out _).mono ?_
          rintro e u3 ⟨rfl, rfl⟩
          clear C1 C2 C3
          rcases hways with q2 | ⟨q2, q3⟩
          · have hl0 : ws.length = 0 := by omega
            have hws : ws = [] := List.eq_nil_of_length_eq_zero hl0
            subst hws
            go_wp2_with fail
            go_loopw [3] (fun i wr => i = .int .i64 0 ∧ wr = (w.alloc (.cells #[.int .i64 id, .int .i64 se, .int .i64 nx, .slice ao ([] : List WaitD).length cap] 24))) (fun _ _ => 0)
            case atStart => exact ⟨rfl, rfl⟩
            case round =>
              obtain ⟨rfl, rfl⟩ := hrel
              go_wp2
              go_ret
              exact ⟨by rw [HK.out]; rfl, HB0.out⟩
          · skip
            go_wp2_with fail
            go_loopw [3] (fun i wr => ∃ k : Nat, k ≤ ws.length ∧ i = .int .i64 k ∧ wr.heap[w.heap.size]? = some (.cells #[.int .i64 id, .int .i64 se, .int .i64 nx, .slice ao ws.length cap] 24 (0, 0)) ∧ Below w.heap.size w wr ∧ (0 < k → 1 ≤ firstW ws ∧ firstW ws ≤ 1048576) ∧ Hid (waitsE nx (firstW ws) 0 ws = waitsE nx (firstW ws) (aheadW ws k) (ws.drop k))) (fun i _ => ws.length - (intOf i).toNat)
            case atStart => exact ⟨0, Nat.zero_le _, rfl, HX0.out, HB0.out, fun h => absurd h (by omega), rfl⟩
            case round =>
              obtain ⟨k, hk, rfl, hx, hb, hfst, HE⟩ := hrel
              have HX := ghid hx
              have HB := ghid hb
              obtain ⟨p0, p1, p2, p3, -⟩ := cust_cells hx
              have hlr : w.heap.size < wr.heap.size := (Array.getElem?_eq_some_iff.1 hx).1
              by_cases hlt : k < ws.length
              · obtain ⟨ao', cap', he, -, -, -, h4⟩ := HWR.out.below hb hB
                simp only [Value.slice.injEq] at he
                obtain ⟨rfl, -, rfl⟩ := he
                obtain ⟨b, off, rfl, hbB, hc⟩ := h4 (by omega)
                have hbr : b < wr.heap.size := by omega
                obtain ⟨x, hxe⟩ : ∃ x, ws[k]? = some x := ⟨_, List.getElem?_eq_getElem hlt⟩
                obtain ⟨y, hye⟩ : ∃ y, ws[0]? = some y := ⟨_, List.getElem?_eq_getElem (by omega)⟩
                obtain ⟨c0, c1, c2, c3, c4, hs1, hs2, -⟩ := hc k x hxe
                obtain ⟨f0, -⟩ := hc 0 y hye
                rw [Nat.zero_mul, Nat.add_zero, ← firstW_of hye] at f0
                have HSU : Hid (aheadW ws (k + 1) = x.seq) := aheadW_succ hxe
                rw [drop_stepW hxe] at HE
                have HF1 : Hid (k = 0 → firstW ws = x.seq) := fun e => by
                  subst e
                  exact firstW_of hxe
                obtain ⟨fs, hfs⟩ : ∃ fs, fs = firstW ws := ⟨_, rfl⟩
                rw [← hfs] at f0 hfst HE HF1 HK
                obtain ⟨ah, hah⟩ : ∃ ah, ah = aheadW ws k := ⟨_, rfl⟩
                rw [← hah] at HE
                have HAH := ghid hah
                have HAH0 : Hid (k = 0 → ah = 0) := fun e => by rw [hah, e]; rfl
                obtain ⟨rest, hrest⟩ : ∃ rest, rest = ws.drop (k + 1) := ⟨_, rfl⟩
                rw [← hrest] at HE
                have HREST := ghid hrest
                have HFS := ghid hfs
                have HCC := ghid hc
                obtain ⟨xq, xk, xa, xb, xn⟩ := x
                simp only at c0 c1 c2 c3 c4 hs1 hs2 HSU HF1 HE
                have HBA : Hid (Below w.heap.size w (wr.alloc (.cells #[.int .i64 xq, .int .i64 xk, .string xa, .string xb, .int .i64 xn] 42))) := HB.out.trans (((Below.refl _ _).alloc (Nat.le_refl _) _).mono HB.out.size)
                have HC3A := ghid (fun u => opFault_any xk xa xb xn u hs1 hs2)
                have hsz := HB.out.size
                clear hx hb hc h4 hxe hye hah hrest hfs
                by_cases k0 : k = 0
                · subst k0
                  simp only [Nat.zero_mul, Nat.add_zero] at c0 c1 c2 c3 c4
                  have hf0 : xq = fs := (HF1.out rfl).symm
                  subst hf0
                  have hah : ah = 0 := HAH0.out rfl
                  clear f0
                  by_cases s1 : 1 ≤ xq ∧ xq ≤ nx - 1
                  · by_cases s2 : 3 < xq - xq
                    · exact absurd s2 (by omega)
                    · have s2' : xq - xq ≤ 3 := by omega
                      by_cases s3 : xq ≤ ah
                      · exact absurd s3 (by omega)
                      · have HST : Hid (waitsE nx xq ah (⟨xq, xk, xa, xb, xn⟩ :: rest) = if opE xk xa xb xn ≠ 0 then opE xk xa xb xn else waitsE nx xq xq rest) := by unfold Hid; rw [waitsE.eq_2, if_neg (by simp only; omega)]
                        have s3' : ah < xq := by omega
                        clear s2 s3
                        go_wp2_with fail
                        go_quiet ((go_at_call 12; exact cquiet_at _ (in_yes xq 1 (nx - 1) _ s1.1 s1.2)))
                        go_wp2_with fail
                        refine (HC3A.out _).mono ?_
                        rintro e w2 ⟨rfl, hb2⟩
                        have HBW : Hid (w2.heap[w.heap.size]? = _) := (hb2.block _ (by simp; omega)).trans ((Below.heap_alloc wr _ _ hlr).trans HX.out)
                        have HB2 := ghid ((HBA.out.trans (g_drewN_below _ _ _)).trans (hb2.mono (by simp; omega)))
                        obtain ⟨oe, hoe⟩ : ∃ oe, oe = opE xk xa xb xn := ⟨_, rfl⟩
                        rw [← hoe] at HST ⊢
                        clear hb2 hoe HC3A
                        by_cases ho : oe = 0
                        · have HN : Hid (waitsE nx (firstW ws) 0 ws = waitsE nx (firstW ws) (aheadW ws (0 + 1)) (ws.drop (0 + 1))) := by
                            unfold Hid
                            rw [← HFS.out, HSU.out, ← HREST.out, HE.out, HST.out, if_neg (fun h => h ho)]
                          have HBD : Hid (1 ≤ firstW ws ∧ firstW ws ≤ 1048576) := by
                            unfold Hid
                            rw [← HFS.out]
                            exact ⟨s1.1, by omega⟩
                          subst ho
                          go_wp2
                          go_roundw
                          case rel => exact ⟨0 + 1, by omega, by go_num, HBW.out, HB2.out, fun _ => HBD.out, HN⟩
                          case measure => simp [intOf]; omega
                        · have hob : (oe != 0) = true := by simpa using ho
                          have HNE := ghid ho
                          clear ho
                          go_wp2
                          go_ret
                          exact ⟨by rw [HK.out, HE.out, HST.out, if_pos HNE.out]; rfl, HB2.out⟩
                  · have H9 : Hid (waitsE nx xq ah (⟨xq, xk, xa, xb, xn⟩ :: rest) = 9) := by unfold Hid waitsE; rw [if_pos (by simp only; omega)]
                    clear HC3A
                    go_wp2_with fail
                    go_quiet ((go_at_call 12; exact cquiet_at _ (cin_no xq 1 (nx - 1) _ s1)))
                    go_wp2
                    go_ret
                    exact ⟨by rw [HK.out, HE.out, H9.out]; rfl, HBA.out.trans (g_drewN_below _ _ _)⟩
                · have hk1 : (0 : Int) ≤ (k : Int) - 1 := by omega
                  have hk2 : (k : Int) - 1 < (ws.length : Int) := by omega
                  have hk0 : (0 : Int) < (k : Int) := by omega
                  have hkp : 0 < k := by omega
                  have hkd : decide (0 < k) = true := decide_eq_true hkp
                  have hk3 : (1 : Int) ≤ (k : Int) := by omega
                  have hk4 : 1 ≤ k := by omega
                  have hk6 : (k : Int) < (ws.length : Int) + 1 := by omega
                  have hk7 : ¬ (k : Int) - 1 < 0 := by omega
                  have hk8 : ¬ (ws.length : Int) ≤ (k : Int) - 1 := by omega
                  have hk9 : ((k : Int) - 1).toNat < ws.length := by omega
                  have hw2 : IntKind.i64.wrap ((k : Int) - 1) = (k : Int) - 1 := by rw [IntKind.wrap_i64]; omega
                  obtain ⟨z, hze⟩ : ∃ z, ws[((k : Int) - 1).toNat]? = some z := ⟨_, List.getElem?_eq_getElem (by omega)⟩
                  obtain ⟨a0, -⟩ := HCC.out _ z hze
                  have hah : ah = z.seq := by
                    have hkk : k = ((k : Int) - 1).toNat + 1 := by omega
                    rw [HAH.out, hkk]
                    exact aheadW_succ hze
                  rw [← hah] at a0
                  have a1 : wr.cell? ⟨b, off + (k - 1) * 5, none⟩ = some (.int .i64 ah) := by rw [← show ((k : Int) - 1).toNat = k - 1 by omega]; exact a0
                  have hfs1 := hfst (by omega)
                  clear hah hze hfst
                  by_cases s1 : 1 ≤ xq ∧ xq ≤ nx - 1
                  · by_cases s2 : 3 < xq - fs
                    · have H9 : Hid (waitsE nx fs ah (⟨xq, xk, xa, xb, xn⟩ :: rest) = 9) := by unfold Hid waitsE; rw [if_pos (by simp only; omega)]
                      have s2d : decide (3 < xq - fs) = true := decide_eq_true s2
                      clear HC3A hk1 hk2 hk3 hk4 hk6 hk7 hk8 hk9 hkp hsz hlen
                      go_wp2_with fail
                      go_quiet ((go_at_call 12; exact cquiet_at _ (in_yes xq 1 (nx - 1) _ s1.1 s1.2)))
                      go_wp2
                      go_ret
                      exact ⟨by rw [HK.out, HE.out, H9.out]; rfl, HBA.out.trans (g_drewN_below _ _ _)⟩
                    · have s2' : xq - fs ≤ 3 := by omega
                      by_cases s3 : xq ≤ ah
                      · have H9 : Hid (waitsE nx fs ah (⟨xq, xk, xa, xb, xn⟩ :: rest) = 9) := by unfold Hid waitsE; rw [if_pos (by simp only; omega)]
                        have s3d : decide (xq ≤ ah) = true := decide_eq_true s3
                        have s2d : decide (3 < xq - fs) = false := decide_eq_false s2
                        clear HC3A hk1 hk2 hk3 hk4 hk6 hk7 hk8 hk9 hkp hsz hlen
                        go_wp2_with fail
                        go_quiet ((go_at_call 12; exact cquiet_at _ (in_yes xq 1 (nx - 1) _ s1.1 s1.2)))
                        go_wp2
                        go_ret
                        exact ⟨by rw [HK.out, HE.out, H9.out]; rfl, HBA.out.trans (g_drewN_below _ _ _)⟩
                      · have HST : Hid (waitsE nx fs ah (⟨xq, xk, xa, xb, xn⟩ :: rest) = if opE xk xa xb xn ≠ 0 then opE xk xa xb xn else waitsE nx fs xq rest) := by unfold Hid; rw [waitsE.eq_2, if_neg (by simp only; omega)]
                        have s3' : ah < xq := by omega
                        have s3d : decide (xq ≤ ah) = false := decide_eq_false s3
                        have s2d : decide (3 < xq - fs) = false := decide_eq_false s2
                        clear hk1 hk2 hk3 hk4 hk6 hk7 hk8 hk9 hkp hsz hlen
                        go_wp2_with fail
                        go_quiet ((go_at_call 12; exact cquiet_at _ (in_yes xq 1 (nx - 1) _ s1.1 s1.2)))
                        go_wp2_with fail
                        refine (HC3A.out _).mono ?_
                        rintro e w2 ⟨rfl, hb2⟩
                        have HBW : Hid (w2.heap[w.heap.size]? = _) := (hb2.block _ (by simp; omega)).trans ((Below.heap_alloc wr _ _ hlr).trans HX.out)
                        have HB2 := ghid ((HBA.out.trans (g_drewN_below _ _ _)).trans (hb2.mono (by simp; omega)))
                        obtain ⟨oe, hoe⟩ : ∃ oe, oe = opE xk xa xb xn := ⟨_, rfl⟩
                        rw [← hoe] at HST ⊢
                        clear hb2 hoe HC3A
                        by_cases ho : oe = 0
                        · have HN : Hid (waitsE nx (firstW ws) 0 ws = waitsE nx (firstW ws) (aheadW ws (k + 1)) (ws.drop (k + 1))) := by
                            unfold Hid
                            rw [← HFS.out, HSU.out, ← HREST.out, HE.out, HST.out, if_neg (fun h => h ho)]
                          have HBD : Hid (1 ≤ firstW ws ∧ firstW ws ≤ 1048576) := by
                            unfold Hid
                            rw [← HFS.out]
                            exact hfs1
                          subst ho
                          go_wp2
                          go_roundw
                          case rel => exact ⟨k + 1, by omega, by go_num, HBW.out, HB2.out, fun _ => HBD.out, HN⟩
                          case measure => simp [intOf]; omega
                        · have hob : (oe != 0) = true := by simpa using ho
                          have HNE := ghid ho
                          clear ho
                          go_wp2
                          go_ret
                          exact ⟨by rw [HK.out, HE.out, HST.out, if_pos HNE.out]; rfl, HB2.out⟩
                  · have H9 : Hid (waitsE nx fs ah (⟨xq, xk, xa, xb, xn⟩ :: rest) = 9) := by unfold Hid waitsE; rw [if_pos (by simp only; omega)]
                    clear HC3A
                    go_wp2_with fail
                    go_quiet ((go_at_call 12; exact cquiet_at _ (cin_no xq 1 (nx - 1) _ s1)))
                    go_wp2
                    go_ret
                    exact ⟨by rw [HK.out, HE.out, H9.out]; rfl, HBA.out.trans (g_drewN_below _ _ _)⟩
              · have hkl : k = ws.length := by omega
                subst hkl
                rw [List.drop_length] at HE
                clear hx hb
                go_wp2
                go_ret
                exact ⟨by rw [HK.out, HE.out]; rfl, HB.out⟩
      · have C3 := ghid (fun u => cin_no nx 1 1048577 u r3)
        have HK : Hid (checkC ⟨id, se, nx, ws⟩ = 2) := by
          unfold Hid checkC
          rw [if_pos (by simp only; omega)]
        clear r1 r2 r3
        go_enter Try.func11, Try.ntmps11
        go_wp2_with fail
        refine (C1.out _).mono ?_
        rintro e u1 ⟨rfl, rfl⟩
        go_wp2_with fail
        refine (C2.out _).mono ?_
        rintro e u2 ⟨rfl, rfl⟩
        go_wp2_with fail
        refine (C3.out _).mono ?_
        rintro e u3 ⟨rfl, rfl⟩
        go_wp2
        go_ret
        exact ⟨by rw [HK.out]; rfl, HB0.out⟩
    · have C2 := ghid (fun u => cin_no se 0 1073741824 u r2)
      have HK : Hid (checkC ⟨id, se, nx, ws⟩ = 2) := by
        unfold Hid checkC
        rw [if_pos (by simp only; omega)]
      clear r1 r2
      go_enter Try.func11, Try.ntmps11
      go_wp2_with fail
      refine (C1.out _).mono ?_
      rintro e u1 ⟨rfl, rfl⟩
      go_wp2_with fail
      refine (C2.out _).mono ?_
      rintro e u2 ⟨rfl, rfl⟩
      go_wp2
      go_ret
      exact ⟨by rw [HK.out]; rfl, HB0.out⟩
  · have C1 := ghid (fun u => cin_no id 1 9 u r1)
    have HK : Hid (checkC ⟨id, se, nx, ws⟩ = 2) := by
      unfold Hid checkC
      rw [if_pos (by simp only; omega)]
    clear r1
    go_enter Try.func11, Try.ntmps11
    go_wp2_with fail
    refine (C1.out _).mono ?_
    rintro e u1 ⟨rfl, rfl⟩
    go_wp2
    go_ret
    exact ⟨by rw [HK.out]; rfl, HB0.out⟩

end Go.Proofs.Ytcjoekjjebcomal
