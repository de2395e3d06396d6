/- cluster.Run. (Written by gen_clusrun.py.); slices.Concat of lists of acts: all of them, in a row of the call's own. (Written by gen_actconcat.py out of LogConcat.); Rows of acts of the call's own, as arguments; an outcome that is kept; The acts of a script are such that a machine can hold them; tackroomtop.ran. (Written by gen_keepran.py.); slices.Equal of codes, and of mails: what reads as one list is equal; tackroomtop.TopTwice, walked (joined by program) -/
import Derived.Deep.RegionLaw
import Derived.Shelf.Spec.SlicesGrow
import Derived.Laws.AppendOwnNone
import Derived.Deep.RegionHeld3
import Derived.Laws.StructEq
import Derived.BigQuiet
import Derived.Test.YtijilhbdbeajjaaGreatDoorTT48
import Derived.Test.YtijilhbdbeajjaaGreatDoorTT44
import Derived.Test.YtijilhbdbeajjaaGreatDoorTT42
namespace Go.Proofs.YtijilhbdbeajjaaGreatDoor

open Go.RowKit

theorem code_one (x : Int) : ∀ u ∈ ([.int .i64 x] : List Value), u.oneCell' = true := by
  intro u hu
  simp only [List.mem_cons, List.not_mem_nil, or_false] at hu
  subst hu
  rfl

/-- The value v reads in w as the acts l. -/
def ActsR (w : World) (B : Nat) (v : Value) (l : List ActD) : Prop :=
  ∃ ao cap, v = .slice ao l.length cap ∧ l.length ≤ cap ∧ (∀ x ∈ l, ActOk x) ∧ (0 < l.length → ∃ b, ao = some ⟨b, 0, none⟩ ∧ b < B ∧ (∀ j, w.frozen? ⟨b, j, none⟩ = false) ∧ ∀ (k : Nat) (x : ActD), l[k]? = some x → ∀ j, j < 8 → w.cell? ⟨b, k * 8 + j, none⟩ = (actCells x)[j]?)

/-- What an outcome reads as. -/
structure OutM (w : World) (g2 : Value) (rv cv mv tv ev : Value) (xs : List RepV) (cs : List CustV) (t : TownD) (codes : List Int) : Prop where
  reps : w.ownsRow 0 50 7 rv 3 (flatG repCells xs)
  custs : w.ownsRow 0 55 4 cv cs.length (flatG custCells cs)
  mails : w.ownsRow 0 92 5 mv t.mails.length (flatG mailCells t.mails)
  comm : w.ownsRow 0 9 1 tv t.comm.length (textCells t.comm)
  codes : w.ownsRow 0 33 1 ev codes.length (codeCells codes)
  rlist : xs.map (·.d) = t.reps
  clist : cs.map (·.d) = t.custs
  three : t.reps.length = 3
  rparts : ∀ (k : Nat) (x : RepV), xs[k]? = some x → FirmK (fun g => g2.ownBlock = some g) w (fun u => RepR u u.heap.size x.val x.d)
  cparts : ∀ (k : Nat) (x : CustV), cs[k]? = some x → FirmK (fun g => g2.ownBlock = some g) w (fun u => CustR u u.heap.size x.val x.d)
  modest : ∀ x ∈ t.comm, x.size ≤ 140737488351232
  small : ∀ m ∈ t.mails, m.reply.text.size ≤ 140737488351232

theorem ActsR.below {w w' : World} {B B' : Nat} {v : Value} {l : List ActD} (h : ActsR w B v l) (hb : Below B' w w') (hB : B ≤ B') (hk : ∀ b, b < B → ∀ j, w'.frozen? ⟨b, j, none⟩ = w.frozen? ⟨b, j, none⟩) : ActsR w' B v l := by
  obtain ⟨ao, cap, e, h1, h2, h3⟩ := h
  refine ⟨ao, cap, e, h1, h2, fun hp => ?_⟩
  obtain ⟨b, hb1, hb2, hf, hc⟩ := h3 hp
  exact ⟨b, hb1, hb2, fun j => (hk b hb2 j).trans (hf j), fun k x hx j hj => (hb.cell (p := ⟨b, k * 8 + j, none⟩) (by show b < B'; omega)).trans (hc k x hx j hj)⟩

set_option maxRecDepth 100000 in
set_option maxHeartbeats 6400000 in
theorem Run_ok (m : Nat) (v : Value) (l : List ActD) (w : World) (B : Nat) (hm : 1 ≤ m ∧ m ≤ 9) (hv : ActsR w B v l) (hB : B ≤ w.heap.size) (hl : l.length ≤ 400) (g2 : Value) (hg2 : ∀ g, g2.ownBlock = some g → ∃ c fr, w.heap[g]? = some (.cells c 32 fr)) :
    Calls Tryz.prog 14 #[.int .i64 m, v] w fun e w' => ∃ rv cv mv tv ev xs cs, e = .returned (.tuple #[.agg #[rv, cv, mv, tv, .int .i64 ((town0 m).run l).1.leader, ev], .int .i64 0]) ∧ OutM w' g2 rv cv mv tv ev xs cs ((town0 m).run l).1 ((town0 m).run l).2 ∧ Below w.heap.size w w' := by
  obtain ⟨i0, hi0, hz0, hz1, hz2⟩ := info_parts Tryz.infoErrno
  obtain ⟨ao, cap, rfl, hcap, hok, hrow⟩ := hv
  have HOK := ghid hok
  have HROW := ghid hrow
  have hz : Below w.heap.size w (w.alloc (.cells #[.slice none 0 0, .slice none 0 0, .slice none 0 0, .slice none 0 0, .int .i64 0, .slice none 0 0] 32)) := (Below.refl _ _).alloc (Nat.le_refl _) _
  have HZ := ghid hz
  have hm1 : ¬ (m : Int) < 1 := by omega
  have hm2 : ¬ (m : Int) > 9 := by omega
  have hl1 : ¬ (l.length : Int) > 400 := by omega
  obtain ⟨ln, hln⟩ : ∃ x, x = l.length := ⟨_, rfl⟩
  rw [← hln] at hl1 hcap hl HROW ⊢
  have HLN := ghid hln
  clear hok hrow hz hln
  go_enter Tryz.func14, Tryz.ntmps14
  go_wp2_with fail
  refine (begin_any m _ hm).mono ?_
  rintro e w1 ⟨rb, co, cc, rfl, hr1, hc1, hb1⟩
  have hzs : w.heap.size + 1 ≤ w1.heap.size := by have := hb1.size; simpa using this
  have hq : Below w1.heap.size w1 (w1.alloc (.cells #[.slice (some ⟨rb, 0, none⟩) 3 3, .slice co m cc, .slice none 0 0, .slice none 0 0, .int .i64 0, .slice none 0 0] 32)) := (Below.refl _ _).alloc (Nat.le_refl _) _
  have hres : (w1.alloc (.cells #[.slice (some ⟨rb, 0, none⟩) 3 3, .slice co m cc, .slice none 0 0, .slice none 0 0, .int .i64 0, .slice none 0 0] 32)).heap[w.heap.size]? = some (.cells #[.slice none 0 0, .slice none 0 0, .slice none 0 0, .slice none 0 0, .int .i64 0, .slice none 0 0] 32 (0, 0)) := behind (behind (heap_alloc_new w _) (Below.refl _ _) hb1) (Below.refl _ _) hq
  have hbz : Below w.heap.size w (w1.alloc (.cells #[.slice (some ⟨rb, 0, none⟩) 3 3, .slice co m cc, .slice none 0 0, .slice none 0 0, .int .i64 0, .slice none 0 0] 32)) := (HZ.out.trans (hb1.mono (by simp))).trans (hq.mono (by omega))
  have hBg2 := hbz
  obtain ⟨K0, h0⟩ := town_first (r := w.heap.size) (p := w1.heap.size) (grow_mono (grow_below hr1 hq (Nat.le_refl _)) (Nat.zero_le _)) (grow_mono (grow_below hc1 hq (Nat.le_refl _)) (Nat.zero_le _)) (heap_alloc_new w1 _) ⟨_, hres⟩ (by omega) (g2 := g2) (fun g e => by
    obtain ⟨c, fr, hc⟩ := hg2 g e
    have hlt := (Array.getElem?_eq_some_iff.1 hc).1
    exact ⟨⟨c, fr, (hBg2.block g hlt).trans hc⟩, by omega⟩)
  have hK0 : ∀ g, K0 g → w.heap.size ≤ g ∨ g2.ownBlock = some g := fun g hg => by
    rcases (h0.kdef g).1 hg with e | e | e | e | e | ⟨v, hv, e⟩
    · exact .inl (by omega)
    · exact .inl (by have := (hr1.lt g e).1; simp at this; omega)
    · exact .inl (by have := (hc1.lt g e).1; simp at this; omega)
    · cases e
    · cases e
    · simp only [List.mem_cons, List.not_mem_nil, or_false] at hv
      rcases hv with rfl | rfl | rfl
      · exact .inl (by simp only [Value.ownBlock, Option.some.injEq] at e; omega)
      · exact .inr e
      · cases e
  have HG2 := ghid hg2
  have HH0 := ghid h0
  have HK0 := ghid hK0
  have HRES0 := ghid hres
  have HBZ := ghid hbz
  clear hr1 hc1 hb1 hq hres h0 hK0 hbz HZ hBg2 hg2
  go_wp2_with fail
  clear hm1 hm2 hl1
  go_loopw [26] (fun i wr => ∃ (k : Nat) (K : Nat → Prop) (rv cv mv tv : Value) (xs : List RepV) (cs : List CustV) (t : TownD) (rc : List Int) (eo : Option Addr) (ec : Nat), k ≤ ln ∧ i = .int .i64 k ∧ TownM 32 [.slice (some ⟨w.heap.size, 0, none⟩) 0 0, g2, .slice eo k ec] wr w1.heap.size K rv cv mv tv xs cs t ∧ (town0 m).run (l.take k) = (t, rc) ∧ wr.ownsRow (w.heap.size + 1) 33 1 (.slice eo k ec) k (codeCells rc) ∧ wr.heap[w.heap.size]? = some (.cells #[.slice none 0 0, .slice none 0 0, .slice none 0 0, .slice none 0 0, .int .i64 0, .slice none 0 0] 32 (0, 0)) ∧ (∀ g, K g → w.heap.size ≤ g ∨ g2.ownBlock = some g) ∧ Below w.heap.size w wr ∧ TownG t k ∧ t.mails.length ≤ 60 ∧ t.custs.length ≤ 9) (fun i _ => ln - (intOf i).toNat)
  case atStart => exact ⟨0, K0, _, _, _, _, _, _, town0 m, [], none, 0, Nat.zero_le _, rfl, HH0.out, by simp [TownD.run], ⟨rfl, .inl ⟨rfl, rfl⟩⟩, HRES0.out, HK0.out, HBZ.out, town0_good hm.2, by simp [town0], by simp [town0]; omega⟩
  case round =>
    clear HH0 HK0 HRES0 HBZ
    obtain ⟨k, K, rv, cv, mv, tv, xs, cs, t, rc, eo, ec, hk, rfl, hT, hrun, hcr, hres, hK, hb, hG, hml, hcl⟩ := hrel
    have HH := ghid hT
    have HRUN := ghid hrun
    have HCR := ghid hcr
    have HRES := ghid hres
    have HKB := ghid hK
    have HB := ghid hb
    have HG := ghid hG
    have hzr : w.heap.size ≤ wr.heap.size := hb.size
    have hrl : w.heap.size < wr.heap.size := (Array.getElem?_eq_some_iff.1 hres).1
    have hlen : rc.length = k := by have := hcr.1; simpa [codeCells] using this
    by_cases hlt : k < ln
    · have hltI : (k : Int) < (ln : Int) := by omega
      obtain ⟨x, hx⟩ : ∃ x, l[k]? = some x := ⟨_, List.getElem?_eq_getElem (by rw [← HLN.out]; exact hlt)⟩
      obtain ⟨⟨td, sd⟩, hR⟩ : ∃ R, R = t.step x := ⟨_, rfl⟩
      have hab : Below wr.heap.size wr (wr.alloc (.cells (actCells x).toArray 40)).drew := ((Below.refl _ _).alloc (Nat.le_refl _) _).drew
      have CD := ghid (do_town (hT.below hab) hG (by omega) hml hcl x (HOK.out x (List.mem_of_getElem? hx)) (td, sd) hR)
      have HNX : Hid (TownG td (k + 1) ∧ td.mails.length ≤ 60 ∧ td.custs.length ≤ 9 ∧ (town0 m).run (l.take (k + 1)) = (td, rc ++ [sd])) := by
        have hw := step_went hG (by omega : k < 400) x
        rw [← hR] at hw
        refine ⟨hw.town, ?_, by rw [hw.clients]; exact hcl, ?_⟩
        · have := mb_step_mails t x hml
          rw [← hR] at this
          exact this
        · obtain ⟨hk1, hk2⟩ := List.getElem?_eq_some_iff.1 hx
          rw [List.take_succ_eq_append_getElem hk1, mb_run_snoc, hrun, hk2, ← hR]
      have HKN : Hid (¬ K wr.heap.size) := fun e => by have := hT.lt e; omega
      obtain ⟨b, rfl, hbB, hfz, hc⟩ := HROW.out (by omega)
      have kk : ∀ j, j < 8 → wr.cell? ⟨b, k * 8 + j, none⟩ = (actCells x)[j]? := fun j hj => (hb.cell (p := ⟨b, k * 8 + j, none⟩) (by show b < w.heap.size; omega)).trans (hc k x hx j hj)
      have a0 := kk 0 (by omega)
      have a1 := kk 1 (by omega)
      have a2 := kk 2 (by omega)
      have a3 := kk 3 (by omega)
      have a4 := kk 4 (by omega)
      have a5 := kk 5 (by omega)
      have a6 := kk 6 (by omega)
      have a7 := kk 7 (by omega)
      have hbr : b < wr.heap.size := by omega
      obtain ⟨kind, c, r, ak, ok, oa, ob, on⟩ := x
      simp only [actCells, List.getElem?_cons_zero, List.getElem?_cons_succ, Nat.add_zero] at a0 a1 a2 a3 a4 a5 a6 a7
      simp only [ActD.val, actCells] at CD
      obtain ⟨c0, c1, c2, c3, c4, c5, cf, cl⟩ := six_cells (hT.below hab).cells
      have HAB : Hid ((wr.alloc (.cells #[.int .i64 kind, .int .i64 c, .int .i64 r, .int .i64 ak, .int .i64 ok, .string oa, .string ob, .int .i64 on] 40)).drew.heap[wr.heap.size]? = some (.cells #[.int .i64 kind, .int .i64 c, .int .i64 r, .int .i64 ak, .int .i64 ok, .string oa, .string ob, .int .i64 on] 40 (0, 0))) := heap_alloc_new wr (.cells #[.int .i64 kind, .int .i64 c, .int .i64 r, .int .i64 ak, .int .i64 ok, .string oa, .string ob, .int .i64 on] 40)
      have HDB : Hid (Below wr.heap.size wr (wr.alloc (.cells #[.int .i64 kind, .int .i64 c, .int .i64 r, .int .i64 ak, .int .i64 ok, .string oa, .string ob, .int .i64 on] 40)).drew) := ((Below.refl _ _).alloc (Nat.le_refl _) _).drew
      obtain ⟨b0, b1, b2, b3, b4, b5, b6, b7, bl⟩ := eight_cells HAB.out
      simp only [actCells] at c0 c1 c2 c3 c4 c5 cf cl
      clear hT hrun hcr hres hK hb hG hml hcl hx hR hab hc kk HOK
      go_wp2_with fail
      clear a0 a1 a2 a3 a4 a5 a6 a7
      go_region_law (first
        | (go_simp; go_at_call 39; refine CD.out.mono ?_; rintro e w4 ⟨rfl, hm4⟩; obtain ⟨K4, ⟨rv4, cv4, mv4, tv4, xs4, cs4, h4⟩, hk4, ht4⟩ := hm4; have HH4 := ghid h4; have HK4 := ghid hk4; have HT4 := ghid ht4; have HA4 := ghid ((ht4.block wr.heap.size (by simp) (fun e => HKN.out e.1)).trans HAB.out); clear c0 c1 c2 c3 c4 c5 cf cl b0 b1 b2 b3 b4 b5 b6 b7 bl; obtain ⟨b0, b1, b2, b3, b4, b5, b6, b7, bl⟩ := eight_cells HA4.out; obtain ⟨c0, c1, c2, c3, c4, c5, cf, cl⟩ := six_cells h4.cells; have hz4 : wr.heap.size + 1 ≤ w4.heap.size := (by have := ht4.size; simpa using this); have HW4 := ghid (grow_keep (grow_below HCR.out HDB.out (Nat.le_refl _)) (fun j hj => ht4.block j (by have := (HCR.out.lt j hj).2; simp; omega) (fun e => e.2 ⟨_, List.mem_cons_of_mem _ (List.mem_cons_of_mem _ (List.mem_singleton_self _)), hj⟩))); have hzb : w.heap.size + 1 ≤ w4.heap.size := (by omega); have hpl : w1.heap.size < w4.heap.size := h4.lt ((h4.kdef _).2 (.inl rfl)); clear h4 hk4 ht4)
        | (refine step_append_lies _ (by rfl) (.tmp 31) (.tmp 34) 30 (by rfl) (w.heap.size + 1) 33 i0 _ 1 8 Tryz.underlying30 hi0 hz0 hz1 hz2 rfl (by decide) (.slice eo k ec) k (codeCells rc) (by rfl) (HW4.out.alloc _) ⟨w4.heap.size, 0, none⟩ 1 1 [.int .i64 sd] (by rfl) (by rfl) (World.news_of_block (heap_alloc_new w4 _)) (code_one sd) (by omega) (by unfold maxLen; omega) (by omega) (by simp; omega) (w4.heap.size + 1) (by simp) ?_; intro gn gc w5 hown5 hg5 hat5 hlt5; have hq5 := (hg5.block w1.heap.size (by simp; omega) (fun e => HH4.out.apart _ (List.mem_cons_of_mem _ (List.mem_cons_of_mem _ (List.mem_singleton_self _))) e.symm)).trans ((Below.heap_alloc w4 _ _ hpl).trans HH4.out.cells); have HOWN := ghid hown5; have HG5 := ghid hg5; have HAT := ghid hat5; clear hown5 hg5 hat5 c0 c1 c2 c3 c4 c5 cf cl b0 b1 b2 b3 b4 b5 b6 b7 bl; obtain ⟨c0, c1, c2, c3, c4, c5, cf, cl⟩ := six_cells hq5; clear hq5))
      all_goals
        have HEB : Hid (Below w4.heap.size w4 (w4.alloc (.cells #[.int .i64 sd] 33))) := (Below.refl _ _).alloc (Nat.le_refl _) _
        have hr4 : w4.heap[w.heap.size]? = some (.cells #[.slice none 0 0, .slice none 0 0, .slice none 0 0, .slice none 0 0, .int .i64 0, .slice none 0 0] 32 (0, 0)) := (HT4.out.block w.heap.size (by have := HDB.out.size; omega) (fun e => e.2 ⟨_, List.mem_cons_self, rfl⟩)).trans (behind HRES.out (Below.refl _ _) HDB.out)
        have hb4 : Below w.heap.size wr w4 := (HDB.out.mono hzr).trans (HT4.out.below (by have := HDB.out.size; omega) (fun g e => (HKB.out g e.1).elim id fun e2 => absurd ⟨_, List.mem_cons_of_mem _ List.mem_cons_self, e2⟩ e.2))
        obtain ⟨K5, h5, hk5, hrow5, ht5⟩ := (HH4.out.below HEB.out).code (HW4.out.alloc _) HOWN.out ((TouchG.refl _ _).grown HG5.out (fun j e => .inl e)) (fun g hl e => by
          have e2 : gn = g := by simpa [Value.ownBlock] using e
          subst e2
          rcases HAT.out with e | e
          · exact e
          · simp at hl; omega) (fun g e => by
          have e2 : w.heap.size = g := by simpa [Value.ownBlock] using e
          subst e2
          exact ⟨_, _, behind hr4 (Below.refl _ _) HEB.out⟩) (fun g e => by
          obtain ⟨c, fr, hc⟩ := HG2.out g e
          have hlt := (Array.getElem?_eq_some_iff.1 hc).1
          exact ⟨c, fr, (HEB.out.block g (by omega)).trans ((hb4.block g hlt).trans ((HB.out.block g hlt).trans hc))⟩)
        have hrow5' : (w5.setCell ⟨w1.heap.size, 5, none⟩ (.slice (some ⟨gn, 0, none⟩) (k + 1) gc)).ownsRow (w.heap.size + 1) 33 1 (.slice (some ⟨gn, 0, none⟩) (k + 1) gc) (k + 1) (codeCells (rc ++ [sd])) := by rw [codeCells_snoc]; exact hrow5
        have hr5 := (ht5.block w.heap.size (by have := (Array.getElem?_eq_some_iff.1 hr4).1; simp; omega) (fun e => e.2.1 rfl)).trans (behind hr4 (Below.refl _ _) HEB.out)
        have hk5' : ∀ g, K5 g → w.heap.size ≤ g ∨ g2.ownBlock = some g := fun g e => by
          rcases hk5 g e with e | e
          · rcases HK4.out g e with e | e
            · exact HKB.out g e
            · exact .inl (by have := HDB.out.size; omega)
          · exact .inl (by simp at e; omega)
        have hb5 : Below w.heap.size w4 (w5.setCell ⟨w1.heap.size, 5, none⟩ (.slice (some ⟨gn, 0, none⟩) (k + 1) gc)) := (HEB.out.mono (by omega)).trans (ht5.below (by simp; omega) (fun g e => by
          rcases HK4.out g e.1 with e2 | e2
          · exact (HKB.out g e2).elim id fun e2 => absurd e2 e.2.2
          · have := HDB.out.size; omega))
        have HFIN := ghid (⟨h5, hrow5', hr5, hk5', (HB.out.trans hb4).trans hb5⟩ : _ ∧ _ ∧ _ ∧ _ ∧ _)
        clear h5 hk5 hrow5 ht5 hrow5' hr5 hk5' hb4 hb5 hr4
        go_wp2
        go_roundw
        case rel => exact ⟨k + 1, K5, rv4, cv4, mv4, tv4, xs4, cs4, td, rc ++ [sd], _, gc, by omega, by go_num, HFIN.out.1, HNX.out.2.2.2, HFIN.out.2.1, HFIN.out.2.2.1, HFIN.out.2.2.2.1, HFIN.out.2.2.2.2, HNX.out.1, HNX.out.2.1, HNX.out.2.2.1⟩
        case measure => simp [intOf]; omega
    · have hkl : k = ln := by omega
      subst hkl
      have hltI : ¬ (k : Int) < (k : Int) := by omega
      have HRUN2 : Hid ((town0 m).run l = (t, rc)) := by
        unfold Hid
        rw [← hrun, HLN.out, List.take_length]
      have HCL : Hid (rc.length = k) := hlen
      obtain ⟨ro, rcp, rfl⟩ := grow_shape hT.reps
      obtain ⟨qo, qc, rfl⟩ := grow_shape hT.custs
      obtain ⟨mo, mc, rfl⟩ := grow_shape hT.mails
      obtain ⟨yo, tc, rfl⟩ := grow_shape hT.comm
      obtain ⟨c0, c1, c2, c3, c4, c5, cf, cl⟩ := six_cells HH.out.cells
      obtain ⟨r0, r1, r2, r3, r4, r5, rf, rl⟩ := six_cells hres
      clear hT hrun hcr hres hK hb hG hml hcl HRUN HLN hlen
      go_wp2
      refine bodyPost_ret (v := .tuple #[.agg #[.slice ro 3 rcp, .slice qo cs.length qc, .slice mo t.mails.length mc, .slice yo t.comm.length tc, .int .i64 t.leader, .slice eo k ec], .int .i64 0]) (by simp [results, Tryz.results14, go_sem, r0, r1, r2, r3, r4, r5]) rfl ?_
      rw [HRUN2.out]
      have ht := touch6 (w := wr) w.heap.size (.slice ro 3 rcp) (.slice qo cs.length qc) (.slice mo t.mails.length mc) (.slice yo t.comm.length tc) (.int .i64 t.leader) (.slice eo k ec)
      have hkg : K w.heap.size := (HH.out.kdef _).2 (.inr (.inr (.inr (.inr (.inr ⟨_, List.mem_cons_self, rfl⟩)))))
      have hkq : ∀ g, g2.ownBlock = some g → K g := fun g e => (HH.out.kdef _).2 (.inr (.inr (.inr (.inr (.inr ⟨g2, by simp, e⟩)))))
      have hcr9 : (((((((wr.setCell ⟨w.heap.size, 0, none⟩ (.slice ro 3 rcp)).setCell ⟨w.heap.size, 1, none⟩ (.slice qo cs.length qc)).setCell ⟨w.heap.size, 2, none⟩ (.slice mo t.mails.length mc)).setCell ⟨w.heap.size, 3, none⟩ (.slice yo t.comm.length tc)).setCell ⟨w.heap.size, 4, none⟩ (.int .i64 t.leader)).setCell ⟨w.heap.size, 5, none⟩ (.slice eo k ec))).ownsRow 0 33 1 (.slice eo k ec) rc.length (codeCells rc) := by
        rw [HCL.out]
        exact grow_other (grow_mono HCR.out (Nat.zero_le _)) HRES.out (by decide) ht
      have hout : OutM ((((((wr.setCell ⟨w.heap.size, 0, none⟩ (.slice ro 3 rcp)).setCell ⟨w.heap.size, 1, none⟩ (.slice qo cs.length qc)).setCell ⟨w.heap.size, 2, none⟩ (.slice mo t.mails.length mc)).setCell ⟨w.heap.size, 3, none⟩ (.slice yo t.comm.length tc)).setCell ⟨w.heap.size, 4, none⟩ (.int .i64 t.leader)).setCell ⟨w.heap.size, 5, none⟩ (.slice eo k ec)) g2 (.slice ro 3 rcp) (.slice qo cs.length qc) (.slice mo t.mails.length mc) (.slice yo t.comm.length tc) (.slice eo k ec) xs cs t rc :=
        ⟨grow_other HH.out.reps HRES.out (by decide) ht, grow_other HH.out.custs HRES.out (by decide) ht, grow_other HH.out.mails HRES.out (by decide) ht, grow_other HH.out.comm HRES.out (by decide) ht, hcr9, HH.out.rlist, HH.out.clist, HH.out.three, fun j x hx => (HH.out.rparts j x hx).move ht (fun g _ e => e ▸ hkg) (fun g _ e => hkq g e), fun j x hx => (HH.out.cparts j x hx).move ht (fun g _ e => e ▸ hkg) (fun g _ e => hkq g e), HH.out.modest, HH.out.small⟩
      have hbz := zset6 HB.out (Nat.le_refl _) (.slice ro 3 rcp) (.slice qo cs.length qc) (.slice mo t.mails.length mc) (.slice yo t.comm.length tc) (.int .i64 t.leader) (.slice eo k ec)
      first
        | exact ⟨_, _, _, _, _, xs, cs, rfl, hout, hbz⟩
        | exact ⟨_, _, _, _, _, rfl, ⟨xs, cs, hout⟩, hbz⟩
        | exact ⟨_, _, _, _, _, rfl, xs, cs, hout, hbz⟩

namespace Go.Proofs.YtijilhbdbeajjaaGreatDoor

open Go.RowKit Go.Shelf

def growRenA : Go.Shelf.Ren := ⟨fun | 4 => 64 | n => n, fun | 0 => 0 | 3 => 3 | 4 => 4 | 9 => 9 | 20 => 20 | 22 => 23 | 25 => 40 | n => n, fun | n => n⟩

theorem growLaysA : Go.Proofs.Lays8.n4 Tryz.prog growRenA := {
  mixed := by kernel_rfl
  f4 := ⟨ "slices.Grow[[]tackroom/api.Act,tackroom/api.Act]", by decide, Tryz.func64.trans (congrArg some (by kernel_rfl))⟩
  t0 := Tryz.underlying0
  a0 := Tryz.isAgg0
  z0 := Tryz.sizeOf0
  v0 := Tryz.zeroValue0
  t3 := Tryz.underlying3
  a3 := Tryz.isAgg3
  z3 := Tryz.sizeOf3
  v3 := Tryz.zeroValue3
  t4 := Tryz.underlying4
  a4 := Tryz.isAgg4
  z4 := Tryz.sizeOf4
  v4 := Tryz.zeroValue4
  t9 := Tryz.underlying9
  a9 := Tryz.isAgg9
  z9 := Tryz.sizeOf9
  v9 := Tryz.zeroValue9
  t20 := Tryz.underlying20
  a20 := Tryz.isAgg20
  z20 := Tryz.sizeOf20
  v20 := Tryz.zeroValue20
  t22 := Tryz.underlying23
  a22 := Tryz.isAgg23
  z22 := Tryz.sizeOf23
  v22 := Tryz.zeroValue23 }

/-- slices.Grow of nothing: nothing, or a row of the call's own with room. -/
theorem growA_any (n : Nat) (w : World) (hn : n * 80 ≤ 140737488351232) :
    Calls Tryz.prog 64 #[.slice none 0 0, .int .i64 n] w fun e w' => ∃ v, e = .returned v ∧ w'.ownsRow w.heap.size 40 8 v 0 [] ∧ Below w.heap.size w w' := by
  obtain ⟨i0, hi0, hz0, hz1, hz2⟩ := info_parts Tryz.infoAct
  by_cases h0 : n = 0
  · subst h0
    refine (Any8.slices_Grow_room growLaysA none 0 0 0 w (by omega) (by omega) (by omega) (by omega)).mono ?_
    rintro e w' ⟨rfl, rfl⟩
    exact ⟨_, rfl, World.ownsRow_nil _ _ _ _, Below.refl _ _⟩
  · refine (Any8.slices_Grow_grow growLaysA i0 _ hi0 hz0 (by rw [hz1]; omega) none 0 0 n [] w (by omega) (by omega) (by rw [hz2]; omega) (by omega) (by simp) (fun _ => rfl) (fun a h => by cases h)).mono ?_
    rintro e w' ⟨rfl, rfl⟩
    refine ⟨_, rfl, World.ownsRow_made w.drew _ _ (Nat.le_refl _) (grownCap_le_maxLen w (0 + n) 0 40 (by unfold maxLen; omega)) ?_, ((g_drewN_below w.heap.size w 1).alloc (Nat.le_refl _) _)⟩
    have := grownCap_ge w (0 + n) 0 40
    have h1 : (Value.agg #[.int .i64 0, .int .i64 0, .int .i64 0, .int .i64 0, .int .i64 0, .string ⟨#[]⟩, .string ⟨#[]⟩, .int .i64 0]).cells.size = 8 := rfl
    simp [growRenA, Builtin.zeroCells, h1] at this ⊢
    omega

/-- The value v reads in w as acts (rows alone). -/
def RowA (w : World) (B : Nat) (v : Value) (l : List ActD) : Prop :=
  ∃ ao cap, v = .slice ao l.length cap ∧ l.length * 80 ≤ 140737488351232 ∧ (ao = none → cap = 0 ∧ l.length = 0) ∧ ∀ a, ao = some a → (∃ b o, a = ⟨b, o, none⟩ ∧ b < B) ∧ ∀ j u, (flatG actCells l)[j]? = some u → w.cell? (a.add j) = some u

theorem RowA.slice {w : World} {B : Nat} {v : Value} {l : List ActD} (h : RowA w B v l) : ∃ ao cap, v = .slice ao l.length cap := by
  obtain ⟨ao, cap, e, -⟩ := h
  exact ⟨ao, cap, e⟩

theorem RowA.len {w : World} {B : Nat} {v : Value} {l : List ActD} (h : RowA w B v l) : l.length * 80 ≤ 140737488351232 := by
  obtain ⟨ao, cap, e, h1, -⟩ := h
  exact h1

theorem RowA.below {w w' : World} {B B' : Nat} {v : Value} {l : List ActD} (h : RowA w B v l) (hb : Below B' w w') (hB : B ≤ B') : RowA w' B v l := by
  obtain ⟨ao, cap, e, h1, h2, h3⟩ := h
  refine ⟨ao, cap, e, h1, h2, fun a ha => ⟨(h3 a ha).1, fun j u hj => ?_⟩⟩
  have h := (h3 a ha).2 j u hj
  obtain ⟨b, o, rfl, hlt⟩ := (h3 a ha).1
  rw [gadd] at h ⊢
  exact (hb.cell (p := ⟨b, o + j, none⟩) (by show b < B'; omega)).trans h

/-- The value v reads in w as lists of acts, in a row; the row lies below block B. -/
def ListsA (w : World) (B : Nat) (v : Value) (tss : List (List ActD)) : Prop :=
  ∃ b off cap, v = .slice (some ⟨b, off, none⟩) tss.length cap ∧ b < B ∧ tss.length ≤ cap ∧ tss.length ≤ 1000 ∧ ∀ (i : Nat) (ts : List ActD), tss[i]? = some ts → ∃ lv, w.cell? ⟨b, off + i, none⟩ = some lv ∧ RowA w B lv ts

theorem flatA_take {tss : List (List ActD)} {k : Nat} {ts : List ActD} (h : tss[k]? = some ts) : (tss.take (k + 1)).flatten = (tss.take k).flatten ++ ts := by
  obtain ⟨hk, e⟩ := List.getElem?_eq_some_iff.1 h
  rw [List.take_succ_eq_append_getElem hk, e]
  simp

theorem flatA_le (tss : List (List ActD)) (k : Nat) : (tss.take k).flatten.length ≤ tss.flatten.length := by
  have h := congrArg List.flatten (List.take_append_drop k tss)
  rw [List.flatten_append] at h
  have := congrArg List.length h
  rw [List.length_append] at this
  omega

theorem listA_cells {w : World} {B : Nat} {a : Addr} {n cap : Nat} {ts : List ActD} (h : RowA w B (.slice (some a) n cap) ts) : n = ts.length ∧ ∀ j u, (flatG actCells ts)[j]? = some u → w.cell? (a.add j) = some u := by
  obtain ⟨ao, cp, e, h1, h2, h3⟩ := h
  simp only [Value.slice.injEq] at e
  obtain ⟨rfl, rfl, rfl⟩ := e
  exact ⟨rfl, (h3 a rfl).2⟩

set_option maxRecDepth 100000 in
set_option maxHeartbeats 1600000 in
theorem concatA_any (v : Value) (tss : List (List ActD)) (w : World) (B : Nat) (hv : ListsA w B v tss) (hB : B ≤ w.heap.size) (hsum : tss.flatten.length * 80 ≤ 140737488351232) :
    Calls Tryz.prog 35 #[v] w fun e w' => ∃ vo, e = .returned vo ∧ w'.ownsRow w.heap.size 40 8 vo tss.flatten.length (flatG actCells tss.flatten) ∧ Below w.heap.size w w' := by
  obtain ⟨i0, hi0, hz0, hz1, hz2⟩ := info_parts Tryz.infoAct
  obtain ⟨b, off, cap, rfl, hbB, hcap, hmany, hc⟩ := hv
  have HC := ghid hc
  have CG := ghid (fun w => growA_any tss.flatten.length w hsum)
  clear hc
  go_enter Tryz.func35, Tryz.ntmps35
  go_wp2
  go_loopw [3, 11] (fun s i wr => ∃ k n : Nat, k ≤ tss.length ∧ i = .int .i64 k ∧ s = .int .i64 ((tss.take k).flatten.length : Int) ∧ wr = w.drewN n) (fun _ i _ => tss.length - (intOf i).toNat)
  case atStart => exact ⟨0, 0, Nat.zero_le _, rfl, by simp, rfl⟩
  case round =>
    obtain ⟨k, n, hk, rfl, rfl, rfl⟩ := hrel
    by_cases hlt : k < tss.length
    · obtain ⟨ts, hts⟩ : ∃ ts, tss[k]? = some ts := ⟨_, List.getElem?_eq_getElem hlt⟩
      obtain ⟨lv, c0, hlv⟩ := HC.out k ts hts
      obtain ⟨lo, lc, rfl⟩ := hlv.slice
      have hlen := hlv.len
      have HF : Hid ((tss.take (k + 1)).flatten.length = (tss.take k).flatten.length + ts.length) := by unfold Hid; rw [flatA_take hts, List.length_append]
      have hle := flatA_le tss (k + 1)
      have hle2 := HF.out
      obtain ⟨s, hs⟩ : ∃ s, s = (tss.take k).flatten.length := ⟨_, rfl⟩
      obtain ⟨s1, hs1⟩ : ∃ s, s = (tss.take (k + 1)).flatten.length := ⟨_, rfl⟩
      rw [← hs, ← hs1] at HF hle2
      rw [← hs1] at hle
      have HS1 := ghid hs1
      rw [← hs]
      have hbd : (s : Int) + ts.length ≤ 1759218604391 := by omega
      have hge : 0 ≤ (s : Int) := by omega
      clear hts hlv hs hs1 hle hle2
      go_wp2
      go_roundw
      case rel => exact ⟨k + 1, _, by omega, by go_num, by rw [← HS1.out, HF.out]; go_num, rfl⟩
      case measure => simp [intOf]; omega
    · obtain rfl : k = tss.length := by omega
      rw [List.take_length]
      have HX := ghid hsum
      have hbd : (tss.flatten.length : Int) ≤ 1759218604391 := by omega
      obtain ⟨s, hs⟩ : ∃ s, s = tss.flatten.length := ⟨_, rfl⟩
      rw [← hs] at CG hbd ⊢
      have HS := ghid hs
      clear hs hsum
      go_wp2_with fail
      refine (CG.out _).mono ?_
      rintro e w1 ⟨v1, rfl, hown1, hb1⟩
      have HO1 := ghid hown1
      have HB1 := ghid ((g_drewN_below w.heap.size w n).trans (hb1.mono (by simp)))
      have hw1 : w.heap.size ≤ w1.heap.size := HB1.out.size
      have HO1' : Hid (w1.ownsRow w.heap.size 40 8 v1 0 []) := ghid (by have := HO1.out; simpa using this)
      clear hown1 hb1 CG HO1
      go_wp2
      go_loopw [6, 27] (fun o i wr => ∃ k : Nat, k ≤ tss.length ∧ i = .int .i64 k ∧ wr.ownsRow w.heap.size 40 8 o (tss.take k).flatten.length (flatG actCells (tss.take k).flatten) ∧ Below w.heap.size w wr) (fun _ i _ => tss.length - (intOf i).toNat)
      case atStart => exact ⟨0, Nat.zero_le _, rfl, by simpa [flatG] using HO1'.out, HB1.out⟩
      case round =>
        clear HO1' HB1 hw1
        obtain ⟨k, hk, rfl, hown, hb⟩ := hrel
        by_cases hlt : k < tss.length
        · obtain ⟨ts, hts⟩ : ∃ ts, tss[k]? = some ts := ⟨_, List.getElem?_eq_getElem hlt⟩
          obtain ⟨lv, c0', hlv'⟩ := HC.out k ts hts
          have c0 : wr.cell? ⟨b, off + k, none⟩ = some lv := (hb.cell (p := ⟨b, off + k, none⟩) (by simp; omega)).trans c0'
          have hlv := hlv'.below hb hB
          obtain ⟨lo, lc, rfl⟩ := hlv.slice
          have HF := ghid (flatA_take hts)
          have hle := flatA_le tss (k + 1)
          rw [HF.out, List.length_append] at hle
          obtain ⟨P, hP⟩ : ∃ P, P = (tss.take k).flatten := ⟨_, rfl⟩
          rw [← hP] at HF hle hown
          obtain ⟨so, sc, rfl⟩ := grow_shape hown
          have HO := ghid hown
          have HB := ghid hb
          have HLV := ghid hlv
          have hwr : w.heap.size ≤ wr.heap.size := hb.size
          have hbd : P.length + ts.length ≤ 1759218604391 := by have := HX.out; omega
          clear hts hlv hlv' c0' hown hb hP hle
          cases lo with
          | none =>
            have e0 : lc = 0 ∧ ts.length = 0 := by
              obtain ⟨ao, cp, e, h1, h3, -⟩ := HLV.out
              simp only [Value.slice.injEq] at e
              obtain ⟨rfl, -, rfl⟩ := e
              have := h3 rfl
              omega
            obtain ⟨rfl, e1⟩ := e0
            have e2 : ts = [] := List.eq_nil_of_length_eq_zero e1
            subst e2
            go_wp2_with (at_builtin; refine wpList_append_own_none rfl (.tmp 31) (.tmp 32) 23 rfl w.heap.size 40 i0 8 Tryz.underlying23 hi0 _ _ _ rfl HO.out rfl ?_)
            go_wp2
            go_roundw
            case rel => exact ⟨k + 1, by omega, by go_num, by rw [HF.out]; simpa using HO.out, HB.out⟩
            case measure => simp [intOf]; omega
          | some ad =>
            have hcl := listA_cells HLV.out
            have HCL := ghid hcl.2
            clear hcl
            go_wp2_with (at_builtin; refine wpList_append_own _ rfl (.tmp 31) (.tmp 32) 23 rfl w.heap.size 40 i0 _ 8 80 Tryz.underlying23 hi0 hz0 hz1 hz2 rfl (by decide) _ _ _ rfl HO.out ad ts.length lc (flatG actCells ts) rfl (flatG_length actCells_len _) HCL.out (acts_one ts) (by unfold maxLen; omega) (by omega) hwr ?_)
            intro v2 w2 hown2 hg2 _
            have HO2 : Hid (w2.ownsRow w.heap.size 40 8 v2 (P ++ ts).length (flatG actCells (P ++ ts))) := by
              unfold Hid
              rw [List.length_append]
              rw [flatG_append]; exact hown2
            have HB2 := ghid (HB.out.grown hg2 hwr (fun j hj => (HO.out.lt j hj).1))
            clear hown2 hg2
            go_wp2
            go_roundw
            case rel => exact ⟨k + 1, by omega, by go_num, by rw [HF.out]; exact HO2.out, HB2.out⟩
            case measure => simp [intOf]; omega
        · obtain rfl : k = tss.length := by omega
          rw [List.take_length] at hown
          have HO := ghid hown
          have HB := ghid hb
          clear hown hb
          go_wp2
          go_ret
          exact ⟨_, rfl, by rw [HS.out]; exact HO.out, HB.out⟩

end Go.Proofs.YtijilhbdbeajjaaGreatDoor

namespace Go.Proofs.YtijilhbdbeajjaaGreatDoor

open Go.RowKit

theorem own_cells {w : World} {base e size n : Nat} {v : Value} {xs : List Value} (h : w.ownsRow base e size v n xs) (hn : 0 < n) : ∃ g cap, v = .slice (some ⟨g, 0, none⟩) n cap ∧ base ≤ g ∧ g < w.heap.size ∧ n ≤ cap ∧ cap ≤ maxLen ∧ (∀ j, w.frozen? ⟨g, j, none⟩ = false) ∧ ∀ j, j < n * size → w.cell? ⟨g, j, none⟩ = xs[j]? := by
  obtain ⟨hl, h⟩ := h
  rcases h with ⟨rfl, rfl⟩ | ⟨g, cap, cur, rfl, hg, hh, h1, h2, h3, h4⟩
  · omega
  · refine ⟨g, cap, rfl, hg, (Array.getElem?_eq_some_iff.1 hh).1, h1, h2, fun j => frozen_of_row w g j _ _ hh, fun j hj => ?_⟩
    rw [cell_of_row w g j _ _ _ hh, ← h4, List.getElem?_take_of_lt hj]
    simp

theorem own_empty {w : World} {base e size : Nat} {v : Value} {xs : List Value} (h : w.ownsRow base e size v 0 xs) : (∃ cap, v = .slice none 0 cap ∧ cap = 0) ∨ ∃ g cap, v = .slice (some ⟨g, 0, none⟩) 0 cap ∧ g < w.heap.size := by
  obtain ⟨hl, h⟩ := h
  rcases h with ⟨rfl, -⟩ | ⟨g, cap, cur, rfl, hg, hh, h1, h2, h3, h4⟩
  · exact .inl ⟨0, rfl, rfl⟩
  · exact .inr ⟨g, cap, rfl, (Array.getElem?_eq_some_iff.1 hh).1⟩

theorem acts_of_row {w : World} {base : Nat} {v : Value} {l : List ActD} {n : Nat} (hn : n = l.length) (h : w.ownsRow base 40 8 v n (flatG actCells l)) (hok : ∀ x ∈ l, ActOk x) : ActsR w w.heap.size v l := by
  subst hn
  by_cases h0 : 0 < l.length
  · obtain ⟨g, cap, rfl, h1, h2, h3, h4, h5, h6⟩ := own_cells h h0
    refine ⟨_, cap, rfl, h3, hok, fun _ => ⟨g, rfl, h2, h5, fun k x hx j hj => ?_⟩⟩
    have hk := (List.getElem?_eq_some_iff.1 hx).1
    rw [h6 _ (by omega)]
    exact flatG_at actCells_len hx j hj
  · obtain ⟨ao, cap, rfl⟩ := grow_shape h
    have e : l.length = 0 := by omega
    exact ⟨_, _, rfl, by omega, hok, fun h => absurd h h0⟩

theorem rowA_of_row {w : World} {base : Nat} {v : Value} {l : List ActD} {n : Nat} (hn : n = l.length) (hl : l.length ≤ 1000) (h : w.ownsRow base 40 8 v n (flatG actCells l)) : RowA w w.heap.size v l := by
  subst hn
  by_cases h0 : 0 < l.length
  · obtain ⟨g, cap, rfl, h1, h2, h3, h4, h5, h6⟩ := own_cells h h0
    refine ⟨_, cap, rfl, by omega, fun e => (by cases e), fun a ha => ?_⟩
    cases ha
    refine ⟨⟨g, 0, rfl, h2⟩, fun j u hu => ?_⟩
    have hj := (List.getElem?_eq_some_iff.1 hu).1
    rw [flatG_length actCells_len] at hj
    rw [gadd, Nat.zero_add, h6 j hj]
    exact hu
  · have e : l.length = 0 := by omega
    obtain rfl := List.eq_nil_of_length_eq_zero e
    rcases own_empty h with ⟨cap, rfl, rfl⟩ | ⟨g, cap, rfl, hg⟩
    · exact ⟨_, _, rfl, by simp, fun _ => ⟨rfl, rfl⟩, fun a ha => (by cases ha)⟩
    · refine ⟨_, _, rfl, by simp, fun e => (by cases e), fun a ha => ?_⟩
      cases ha
      exact ⟨⟨g, 0, rfl, hg⟩, fun j u hu => by simp [flatG] at hu⟩

theorem RowA.nil (w : World) (B : Nat) : RowA w B (.slice none 0 0) [] := ⟨none, 0, rfl, by simp, fun _ => ⟨rfl, rfl⟩, fun a ha => (by cases ha)⟩

theorem RowA.mono {w : World} {B B' : Nat} {v : Value} {l : List ActD} (h : RowA w B v l) (hB : B ≤ B') : RowA w B' v l := by
  obtain ⟨ao, cap, e, h1, h2, h3⟩ := h
  exact ⟨ao, cap, e, h1, h2, fun a ha => ⟨by obtain ⟨b, o, e, hb⟩ := (h3 a ha).1; exact ⟨b, o, e, by omega⟩, (h3 a ha).2⟩⟩

/-- Three lists, in a new row. -/
theorem ListsA.three {w : World} {B : Nat} {v0 v1 v2 : Value} {l0 l1 l2 : List ActD} (h0 : RowA w B v0 l0) (h1 : RowA w B v1 l1) (h2 : RowA w B v2 l2) (hB : B ≤ w.heap.size) : ListsA (w.alloc (.cells #[v0, v1, v2] 23)) (w.heap.size + 1) (.slice (some ⟨w.heap.size, 0, none⟩) 3 3) [l0, l1, l2] := by
  refine ⟨w.heap.size, 0, 3, rfl, Nat.lt_succ_self _, Nat.le_refl _, by simp, fun i xs hi => ?_⟩
  have hi0 : i < 3 := by have := (List.getElem?_eq_some_iff.1 hi).1; simpa using this
  have hb := (Below.refl w.heap.size w).alloc (Nat.le_refl _) (.cells #[v0, v1, v2] 23)
  match i, hi0 with
  | 0, _ =>
    simp only [List.getElem?_cons_zero, Option.some.injEq] at hi
    subst hi
    exact ⟨v0, cells_of (heap_alloc_new w _) 0, (h0.below hb hB).mono (by omega)⟩
  | 1, _ =>
    simp only [List.getElem?_cons_succ, List.getElem?_cons_zero, Option.some.injEq] at hi
    subst hi
    exact ⟨v1, cells_of (heap_alloc_new w _) 1, (h1.below hb hB).mono (by omega)⟩
  | 2, _ =>
    simp only [List.getElem?_cons_succ, List.getElem?_cons_zero, Option.some.injEq] at hi
    subst hi
    exact ⟨v2, cells_of (heap_alloc_new w _) 2, (h2.below hb hB).mono (by omega)⟩

/-- Two lists, in a new row. -/
theorem ListsA.two {w : World} {B : Nat} {v0 v1 : Value} {l0 l1 : List ActD} (h0 : RowA w B v0 l0) (h1 : RowA w B v1 l1) (hB : B ≤ w.heap.size) : ListsA (w.alloc (.cells #[v0, v1] 23)) (w.heap.size + 1) (.slice (some ⟨w.heap.size, 0, none⟩) 2 2) [l0, l1] := by
  refine ⟨w.heap.size, 0, 2, rfl, Nat.lt_succ_self _, Nat.le_refl _, by simp, fun i xs hi => ?_⟩
  have hi0 : i < 2 := by have := (List.getElem?_eq_some_iff.1 hi).1; simpa using this
  have hb := (Below.refl w.heap.size w).alloc (Nat.le_refl _) (.cells #[v0, v1] 23)
  match i, hi0 with
  | 0, _ =>
    simp only [List.getElem?_cons_zero, Option.some.injEq] at hi
    subst hi
    exact ⟨v0, cells_of (heap_alloc_new w _) 0, (h0.below hb hB).mono (by omega)⟩
  | 1, _ =>
    simp only [List.getElem?_cons_succ, List.getElem?_cons_zero, Option.some.injEq] at hi
    subst hi
    exact ⟨v1, cells_of (heap_alloc_new w _) 1, (h1.below hb hB).mono (by omega)⟩

theorem OutM.below {w w' : World} {g2 rv cv mv tv ev : Value} {xs : List RepV} {cs : List CustV} {t : TownD} {codes : List Int} (h : OutM w g2 rv cv mv tv ev xs cs t codes) {B : Nat} (hb : Below B w w') (hB : w.heap.size ≤ B) : OutM w' g2 rv cv mv tv ev xs cs t codes :=
  ⟨grow_below h.reps hb hB, grow_below h.custs hb hB, grow_below h.mails hb hB, grow_below h.comm hb hB, grow_below h.codes hb hB, h.rlist, h.clist, h.three,
    fun k x hx => (h.rparts k x hx).move (TouchG.of_below hb hB (fun _ => False)) (fun _ _ e => e.elim) (fun _ _ e => e),
    fun k x hx => (h.cparts k x hx).move (TouchG.of_below hb hB (fun _ => False)) (fun _ _ e => e.elim) (fun _ _ e => e), h.modest, h.small⟩

/-- The block that was named is stored into. -/
theorem OutM.put {w w' : World} {rv cv mv tv ev : Value} {xs : List RepV} {cs : List CustV} {t : TownD} {codes : List Int} {q n m : Nat} (h : OutM w (.slice (some ⟨q, 0, none⟩) n m) rv cv mv tv ev xs cs t codes) {c : Array Value} (hq : w.heap[q]? = some (.cells c 32 (0, 0))) (ht : TouchG w w' (fun b => b = q)) : OutM w' (.slice (some ⟨q, 0, none⟩) n m) rv cv mv tv ev xs cs t codes :=
  ⟨grow_other h.reps hq (by decide) ht, grow_other h.custs hq (by decide) ht, grow_other h.mails hq (by decide) ht, grow_other h.comm hq (by decide) ht, grow_other h.codes hq (by decide) ht, h.rlist, h.clist, h.three,
    fun k x hx => (h.rparts k x hx).move ht (fun g _ e => e ▸ rfl) (fun _ _ e => e),
    fun k x hx => (h.cparts k x hx).move ht (fun g _ e => e ▸ rfl) (fun _ _ e => e), h.modest, h.small⟩

theorem OutM.plain {w : World} {g2 rv cv mv tv ev : Value} {xs : List RepV} {cs : List CustV} {t : TownD} {codes : List Int} (h : OutM w g2 rv cv mv tv ev xs cs t codes) : OutM w (.int .i64 0) rv cv mv tv ev xs cs t codes :=
  ⟨h.reps, h.custs, h.mails, h.comm, h.codes, h.rlist, h.clist, h.three,
    fun k x hx => (h.rparts k x hx).move (TouchG.refl _ (fun _ => False)) (fun _ _ e => e.elim) (fun _ _ e => (by cases e)),
    fun k x hx => (h.cparts k x hx).move (TouchG.refl _ (fun _ => False)) (fun _ _ e => e.elim) (fun _ _ e => (by cases e)), h.modest, h.small⟩

theorem six_set {W : World} {ob t : Nat} {x0 x1 x2 x3 x4 x5 : Value} (h : W.heap[ob]? = some (.cells #[x0, x1, x2, x3, x4, x5] t (0, 0))) (a0 a1 a2 a3 a4 a5 : Value) :
    ((((((W.setCell ⟨ob, 0, none⟩ a0).setCell ⟨ob, 1, none⟩ a1).setCell ⟨ob, 2, none⟩ a2).setCell ⟨ob, 3, none⟩ a3).setCell ⟨ob, 4, none⟩ a4).setCell ⟨ob, 5, none⟩ a5).heap[ob]? = some (.cells #[a0, a1, a2, a3, a4, a5] t (0, 0)) := by
  have g1 := heap_setCell_same W ob 0 _ t a0 h
  have g2 := heap_setCell_same _ ob 1 _ t a1 g1
  have g3 := heap_setCell_same _ ob 2 _ t a2 g2
  have g4 := heap_setCell_same _ ob 3 _ t a3 g3
  have g5 := heap_setCell_same _ ob 4 _ t a4 g4
  have g6 := heap_setCell_same _ ob 5 _ t a5 g5
  simpa using g6

end Go.Proofs.YtijilhbdbeajjaaGreatDoor

namespace Go.Proofs.YtijilhbdbeajjaaGreatDoor

open Go.RowKit

theorem nameK_three (n : Int) : (nameK n).size ≤ 3 := by
  rcases nameK_of n with h | h | h <;> rw [h] <;> decide

theorem actK_ok (x : RawD) : ActOk (actK 3 x) := by
  have h3 := pickZ_bd x.c 3 (by omega)
  have h6 := pickZ_bd x.c 6 (by omega)
  have hs := smallT_size (pickZ x.c 90)
  have hn := nameK_three x.b
  have hz : zeroA.size = 0 := rfl
  unfold actK
  split
  · refine ⟨⟨by simp, by simp⟩, by simp only; omega, ?_⟩
    simp only
    split
    · rw [ByteArray.size_append]
      have : (⟨#[118]⟩ : ByteArray).size = 1 := rfl
      omega
    · omega
  · split
    · exact ⟨⟨by simp only; omega, by simp only; omega⟩, by simp only; omega, by simp only; omega⟩
    · split
      · exact ⟨⟨by simp only; omega, by simp only; omega⟩, by simp only; omega, by simp only; omega⟩
      · split
        · exact ⟨⟨by simp only; omega, by simp only; omega⟩, by simp only; omega, by simp only; omega⟩
        · exact ⟨⟨by simp only; omega, by simp only; omega⟩, by simp only; omega, by simp only; omega⟩

theorem actsK_ok (xs : List RawD) (most : Nat) : ∀ x ∈ actsK xs most 3, ActOk x := by
  intro x hx
  unfold actsK at hx
  obtain ⟨y, -, rfl⟩ := List.mem_map.1 hx
  exact actK_ok y

theorem plain_ok {k : Int} (h : -9223372036854775808 ≤ k ∧ k ≤ 9223372036854775807) (a b c : Int) : ActOk ⟨a, b, c, k, 0, zeroA, zeroA, 0⟩ := ⟨h, by show (0 : Nat) ≤ _; omega, by show (0 : Nat) ≤ _; omega⟩

theorem beginK_ok (m : Nat) : ∀ x ∈ beginK m, ActOk x := by
  intro x hx
  unfold beginK at hx
  rcases List.mem_append.1 hx with h | h
  · rcases List.mem_append.1 h with h | h
    · obtain ⟨j, -, rfl⟩ := List.mem_map.1 h
      exact plain_ok (by omega) _ _ _
    · simp only [List.mem_cons, List.not_mem_nil, or_false] at h
      rcases h with rfl | rfl
      · exact plain_ok (by omega) _ _ _
      · exact plain_ok (by omega) _ _ _
  · rw [List.eq_of_mem_replicate h]
    exact plain_ok (by omega) _ _ _

/-- The script of a theorem of the whole, with what comes behind it. -/
def fullK (xs : List RawD) (most : Nat) (more : List ActD) : List ActD := beginK 3 ++ (actsK xs most 3 ++ (more ++ []))

theorem full_len (xs : List RawD) {most : Nat} (more : List ActD) (h : most ≤ 150) (hm : more.length ≤ 9) : (fullK xs most more).length ≤ 167 := by
  have h1 := acts_len xs most 3
  have h2 := begin_len 3
  unfold fullK
  simp only [List.length_append, List.length_nil]
  omega

theorem full_flat (xs : List RawD) (most : Nat) (more : List ActD) : [beginK 3, actsK xs most 3, more].flatten = fullK xs most more := rfl

theorem full_ok (xs : List RawD) (most : Nat) {more : List ActD} (h : ∀ x ∈ more, ActOk x) : ∀ x ∈ fullK xs most more, ActOk x := by
  intro x hx
  unfold fullK at hx
  rw [List.append_nil] at hx
  rcases List.mem_append.1 hx with hx | hx
  · exact beginK_ok 3 x hx
  · rcases List.mem_append.1 hx with hx | hx
    · exact actsK_ok xs most x hx
    · exact h x hx

end Go.Proofs.YtijilhbdbeajjaaGreatDoor

namespace Go.Proofs.YtijilhbdbeajjaaGreatDoor

open Go.RowKit

set_option maxRecDepth 100000 in
set_option maxHeartbeats 6400000 in
theorem ran_any (xs : List RawD) (v mv : Value) (most : Nat) (more : List ActD) (w : World) (B : Nat) (hv : RawsR w B v xs) (hB : B ≤ w.heap.size) (hm : RowA w w.heap.size mv more) (hmost : most ≤ 150) (hmore : more.length ≤ 9) (hok : ∀ x ∈ more, ActOk x) (hM : TownD) (hC : List Int) (hR : (town0 3).run (fullK xs most more) = (hM, hC)) :
    Calls Tryz.prog 22 #[v, .int .i64 most, mv] w fun e w' => ∃ rv cv mv tv ev ys cs, e = .returned (.tuple #[.agg #[rv, cv, mv, tv, .int .i64 hM.leader, ev], .bool true]) ∧ OutM w' (.int .i64 0) rv cv mv tv ev ys cs hM hC ∧ Below w.heap.size w w' := by
  have hlen := full_len xs more hmost hmore
  have hal := acts_len xs most 3
  have hbl := begin_len 3
  have hflat := full_flat xs most more
  have hall := full_ok xs most hok
  obtain ⟨mo, mc, rfl⟩ := hm.slice
  have CB : Hid (∀ u : World, Calls Tryz.prog 12 #[.int .i64 3] u fun e w' => ∃ ao cap, e = .returned (.slice ao 8 cap) ∧ w'.ownsRow u.heap.size 40 8 (.slice ao 8 cap) 8 (flatG actCells (beginK 3)) ∧ Below u.heap.size u w') := fun u => Begin_any 3 u (by omega)
  have CA : Hid (∀ u : World, Below w.heap.size w u → Calls Tryz.prog 13 #[v, .int .i64 most, .int .i64 3] u fun e w' => ∃ ao cap n, e = .returned (.slice ao n cap) ∧ n = (actsK xs most 3).length ∧ w'.ownsRow u.heap.size 40 8 (.slice ao n cap) n (flatG actCells (actsK xs most 3)) ∧ Below u.heap.size u w') := fun u hb => Acts_any xs v most 3 u B (hv.below hb hB) (by have := hb.size; omega) (by omega) (by omega)
  have CR : Hid (∀ (u : World) (z : Value), ActsR u u.heap.size z (fullK xs most more) → u.heap[w.heap.size]? = some (.cells #[.slice none 0 0, .slice none 0 0, .slice none 0 0, .slice none 0 0, .int .i64 0, .slice none 0 0] 32 (0, 0)) → Calls Tryz.prog 14 #[.int .i64 3, z] u fun e w' => ∃ rv cv mv tv ev ys cs, e = .returned (.tuple #[.agg #[rv, cv, mv, tv, .int .i64 hM.leader, ev], .int .i64 0]) ∧ OutM w' (.slice (some ⟨w.heap.size, 0, none⟩) 0 0) rv cv mv tv ev ys cs hM hC ∧ Below u.heap.size u w') := fun u z h hq => by
    have q := Run_ok 3 z (fullK xs most more) u _ (by omega) h (Nat.le_refl _) (by omega) (.slice (some ⟨w.heap.size, 0, none⟩) 0 0) (fun g e => (by simp only [Value.ownBlock, Option.some.injEq] at e; subst e; exact ⟨_, _, hq⟩))
    rw [hR] at q
    exact q
  obtain ⟨l, hl⟩ : ∃ l, l = fullK xs most more := ⟨_, rfl⟩
  rw [← hl] at CR hlen hflat hall
  obtain ⟨bk, hbk⟩ : ∃ l, l = beginK 3 := ⟨_, rfl⟩
  rw [← hbk] at CB hbl hflat
  obtain ⟨ak, hak⟩ : ∃ l, l = actsK xs most 3 := ⟨_, rfl⟩
  rw [← hak] at CA hal hflat
  obtain ⟨ao, cap, rfl, -⟩ := hv
  have hz : Below w.heap.size w (w.alloc (.cells #[.slice none 0 0, .slice none 0 0, .slice none 0 0, .slice none 0 0, .int .i64 0, .slice none 0 0] 32)) := (Below.refl _ _).alloc (Nat.le_refl _) _
  have HZ := ghid hz
  have HM := ghid hm
  have HALL := ghid hall
  have HFL := ghid hflat
  have hxs : (w.alloc (.cells #[.slice none 0 0, .slice none 0 0, .slice none 0 0, .slice none 0 0, .int .i64 0, .slice none 0 0] 32)).heap.size = w.heap.size + 1 := World.size_alloc _ _
  have HXS := ghid hxs
  have HLEN := ghid hlen
  have HAL := ghid hal
  have HBL := ghid hbl
  clear hm hz hok hR hlen hal hbl hall hflat hl hbk hak
  go_enter Tryz.func22, Tryz.ntmps22
  go_wp2_with fail
  refine (CB.out _).mono ?_
  rintro e w1 ⟨bo, bc, rfl, hb0, hb1⟩
  have HX1 := ghid hb1
  have HO1 := ghid hb0
  clear hb0 hb1
  go_wp2_with fail
  refine (CA.out _ (HZ.out.trans (HX1.out.mono HZ.out.size))).mono ?_
  rintro e w2 ⟨co, cc, n, rfl, hn, hrow, hb2⟩
  have HX2 := ghid (HX1.out.trans (hb2.mono HX1.out.size))
  have hbw2 := HZ.out.trans (HX2.out.mono HZ.out.size)
  have HL : Hid (ListsA (w2.alloc (.cells #[.slice bo 8 bc, .slice co n cc, .slice mo more.length mc] 23)) (w2.heap.size + 1) (.slice (some ⟨w2.heap.size, 0, none⟩) 3 3) [bk, ak, more]) :=
    ListsA.three (rowA_of_row (by rw [HBL.out]) (by rw [HBL.out]; omega) (grow_below HO1.out hb2 (Nat.le_refl _))) (rowA_of_row hn (by have := HAL.out; omega) hrow) ((HM.out.below hbw2 (Nat.le_refl _)).mono hbw2.size) (Nat.le_refl _)
  clear hn hrow hb2 hbw2 HO1 HM CB CA
  go_wp2_with fail
  refine (concatA_any _ _ _ _ HL.out (by simp) (by rw [HFL.out]; have := HLEN.out; omega)).mono ?_
  rintro e w3 ⟨vo, rfl, hrow3, hb3⟩
  rw [HFL.out] at hrow3
  have HX3 := ghid (HX2.out.trans (((Below.refl _ _).alloc (Nat.le_refl _) _).trans (hb3.mono (by simp)) |>.mono HX2.out.size))
  have HA3 := ghid (acts_of_row rfl hrow3 HALL.out)
  obtain ⟨vo, vc, rfl⟩ := grow_shape hrow3
  clear hrow3 hb3 HL
  go_wp2_with fail
  refine (CR.out _ _ HA3.out ((HX3.out.block _ (by rw [HXS.out]; omega)).trans (heap_alloc_new w _))).mono ?_
  rintro e w4 ⟨rv, cv, qv, tv, ev, ys, cs, rfl, ho, hb4⟩
  have HX4 := ghid (HX3.out.trans (hb4.mono HX3.out.size))
  have HO4 := ghid ho
  obtain ⟨ro, rc, rfl⟩ := grow_shape ho.reps
  obtain ⟨qo, qc, rfl⟩ := grow_shape ho.custs
  obtain ⟨lo, lc, rfl⟩ := grow_shape ho.mails
  obtain ⟨yo, tc, rfl⟩ := grow_shape ho.comm
  obtain ⟨eo, ec, rfl⟩ := grow_shape ho.codes
  have hlt4 : w.heap.size < w4.heap.size := by have := HX4.out.size; have := HXS.out; omega
  have hz5 : w4.heap[w.heap.size]? = some (.cells #[.slice none 0 0, .slice none 0 0, .slice none 0 0, .slice none 0 0, .int .i64 0, .slice none 0 0] 32 (0, 0)) :=
    (HX4.out.block _ (by rw [HXS.out]; omega)).trans (heap_alloc_new w _)
  obtain ⟨z0, z1, z2, z3, z4, z5, zf, zl⟩ := six_cells hz5
  have hne : w.heap.size ≠ w4.heap.size := by omega
  have hne2 : w4.heap.size ≠ w.heap.size := by omega
  have HZ5 := ghid hz5
  have HB4 := ghid (HZ.out.trans (HX4.out.mono HZ.out.size))
  clear ho hb4 HA3 HX3 HX2 HX1 CR hz5
  go_wp2_with fail
  go_region
  all_goals
    go_wp2
    have ht := touch6 (w := w4) w.heap.size (.slice ro 3 rc) (.slice qo cs.length qc) (.slice lo hM.mails.length lc) (.slice yo hM.comm.length tc) (.int .i64 hM.leader) (.slice eo hC.length ec)
    have hfin := fun (o : Obj) => (Below.refl _ (((((((w4.setCell ⟨w.heap.size, 0, none⟩ (.slice ro 3 rc)).setCell ⟨w.heap.size, 1, none⟩ (.slice qo cs.length qc)).setCell ⟨w.heap.size, 2, none⟩ (.slice lo hM.mails.length lc)).setCell ⟨w.heap.size, 3, none⟩ (.slice yo hM.comm.length tc)).setCell ⟨w.heap.size, 4, none⟩ (.int .i64 hM.leader)).setCell ⟨w.heap.size, 5, none⟩ (.slice eo hC.length ec)))).alloc (Nat.le_refl _) o |>.drew
    have hs := behind (six_set HZ5.out (.slice ro 3 rc) (.slice qo cs.length qc) (.slice lo hM.mails.length lc) (.slice yo hM.comm.length tc) (.int .i64 hM.leader) (.slice eo hC.length ec)) (Below.refl _ _) (hfin (.cells #[.slice ro 3 rc, .slice qo cs.length qc, .slice lo hM.mails.length lc, .slice yo hM.comm.length tc, .int .i64 hM.leader, .slice eo hC.length ec] 32))
    obtain ⟨k0, k1, k2, k3, k4, k5, -, -⟩ := six_cells hs
    refine bodyPost_ret (v := .tuple #[.agg #[.slice ro 3 rc, .slice qo cs.length qc, .slice lo hM.mails.length lc, .slice yo hM.comm.length tc, .int .i64 hM.leader, .slice eo hC.length ec], .bool true]) (by simp [results, Tryz.results22, go_sem, k0, k1, k2, k3, k4, k5]) rfl ⟨_, _, _, _, _, ys, cs, rfl, ?_, ?_⟩
    · exact ((HO4.out.put HZ5.out ht).below (hfin _) (Nat.le_refl _)).plain
    · have hb := zset6 HB4.out (Nat.le_refl _) (.slice ro 3 rc) (.slice qo cs.length qc) (.slice lo hM.mails.length lc) (.slice yo hM.comm.length tc) (.int .i64 hM.leader) (.slice eo hC.length ec)
      exact hb.trans ((hfin _).mono hb.size)

end Go.Proofs.YtijilhbdbeajjaaGreatDoor

namespace Go.Proofs.YtijilhbdbeajjaaGreatDoor

open Go.RowKit

/-- A row of elements of so many cells, to be read. -/
def CellsR {α : Type} (c : α → List Value) (m : Nat) (w : World) (v : Value) (l : List α) : Prop :=
  ∃ ao cap, v = .slice ao l.length cap ∧ (l.length ≤ cap ∧ l.length ≤ maxLen) ∧ (0 < l.length → ∃ b off, ao = some ⟨b, off, none⟩ ∧ ∀ (k : Nat) (x : α), l[k]? = some x → ∀ j, j < m → w.cell? ⟨b, off + k * m + j, none⟩ = (c x)[j]?)

theorem reply_in (d : Nat) (c m : Int) (s : ByteArray) (w : World) : (Op.equalIn (d + 4) 73 (.agg #[.int .i64 c, .int .i64 m, .string s]) (.agg #[.int .i64 c, .int .i64 m, .string s])).run Tryz.prog w = .ok true w := by
  have u3 := Tryz.underlying3
  have a3 := Tryz.isAgg3
  have z3 := Tryz.sizeOf3
  have u9 := Tryz.underlying9
  have a9 := Tryz.isAgg9
  have z9 := Tryz.sizeOf9
  have u2 := Tryz.underlying33
  have a2 := Tryz.isAgg33
  have z2 := Tryz.sizeOf33
  have hS : Tryz.prog.underlying 73 = some (.struct (Tryz.prog.fieldsOf 73)) := by kernel_rfl
  have hp : Tryz.prog.stoodInHeld 73 = false := by kernel_rfl
  rw [show d + 4 = (d + 3) + 1 from rfl, run_equalIn_agg w (d + 3) 73 _ _ hS hp]
  simp only [Program.fieldsOf, Tryz.underlying73]
  go_simp

theorem mail_ne (i q c m : Int) (s : ByteArray) (w : World) : (binOp .neq 92 (.agg #[.int .i64 i, .int .i64 q, .int .i64 c, .int .i64 m, .string s]) (.agg #[.int .i64 i, .int .i64 q, .int .i64 c, .int .i64 m, .string s])).run Tryz.prog w = .ok (.bool false) w := by
  have u3 := Tryz.underlying3
  have a3 := Tryz.isAgg3
  have z3 := Tryz.sizeOf3
  have u9 := Tryz.underlying73
  have hS : Tryz.prog.underlying 92 = some (.struct (Tryz.prog.fieldsOf 92)) := by kernel_rfl
  have hp : Tryz.prog.stoodInHeld 92 = false := by kernel_rfl
  have hr := fun w => reply_in 9995 c m s w
  rw [run_neq_struct, show (10000 : Nat) = 9999 + 1 from rfl, run_equalIn_agg w 9999 92 _ _ hS hp]
  simp only [Program.fieldsOf, Tryz.underlying92]
  go_simp

set_option maxRecDepth 100000 in
set_option maxHeartbeats 1600000 in
theorem equalCodes (v u : Value) (ps : List Int) (w : World) (hv : CellsR (fun x => [.int .i64 x]) 1 w v ps) (hu : CellsR (fun x => [.int .i64 x]) 1 w u ps) :
    Calls Tryz.prog 21 #[v, u] w fun e w' => e = .returned (.bool true) ∧ ∃ n, w' = w.drewN n := by
  obtain ⟨ao, cap, rfl, h1, h4⟩ := hv
  obtain ⟨au, cau, rfl, g1, g4⟩ := hu
  unfold maxLen at h1 g1
  go_enter Tryz.func21, Tryz.ntmps21
  go_wp2
  go_loopw [13] (fun i wr => ∃ k n : Nat, k ≤ ps.length ∧ i = .int .i64 k ∧ wr = w.drewN n) (fun i _ => ps.length - (intOf i).toNat)
  case atStart => exact ⟨0, 0, Nat.zero_le _, rfl, rfl⟩
  case round =>
    obtain ⟨k, n, hk, rfl, rfl⟩ := hrel
    by_cases hlt : k < ps.length
    · obtain ⟨b, off, rfl, hc⟩ := h4 (by omega)
      obtain ⟨b', off', rfl, hc'⟩ := g4 (by omega)
      obtain ⟨x, hx⟩ : ∃ x, ps[k]? = some x := ⟨_, List.getElem?_eq_getElem hlt⟩
      have c0 := hc k x hx 0 (by omega)
      have d0 := hc' k x hx 0 (by omega)
      simp only [List.getElem?_cons_zero, Nat.mul_one, Nat.add_zero] at c0 d0
      clear hx hc h4 hc' g4
      go_wp2
      go_quiet (fail)
      go_wp2
      go_roundw
      case rel => exact ⟨k + 1, _, by omega, by go_num, rfl⟩
      case measure => simp [intOf]; omega
    · go_wp2
      go_ret
      exact ⟨rfl, n, rfl⟩

set_option maxRecDepth 100000 in
set_option maxHeartbeats 1600000 in
theorem equalMails (v u : Value) (ps : List MailD) (w : World) (hv : CellsR mailCells 5 w v ps) (hu : CellsR mailCells 5 w u ps) :
    Calls Tryz.prog 36 #[v, u] w fun e w' => e = .returned (.bool true) ∧ ∃ n, w' = w.drewN n := by
  obtain ⟨ao, cap, rfl, h1, h4⟩ := hv
  obtain ⟨au, cau, rfl, g1, g4⟩ := hu
  unfold maxLen at h1 g1
  go_enter Tryz.func36, Tryz.ntmps36
  go_wp2
  go_loopw [13] (fun i wr => ∃ k n : Nat, k ≤ ps.length ∧ i = .int .i64 k ∧ wr = w.drewN n) (fun i _ => ps.length - (intOf i).toNat)
  case atStart => exact ⟨0, 0, Nat.zero_le _, rfl, rfl⟩
  case round =>
    obtain ⟨k, n, hk, rfl, rfl⟩ := hrel
    by_cases hlt : k < ps.length
    · obtain ⟨b, off, rfl, hc⟩ := h4 (by omega)
      obtain ⟨b', off', rfl, hc'⟩ := g4 (by omega)
      obtain ⟨x, hx⟩ : ∃ x, ps[k]? = some x := ⟨_, List.getElem?_eq_getElem hlt⟩
      obtain ⟨xi, xq, xr⟩ := x
      obtain ⟨xc, xm, xt⟩ := xr
      have hcc := hc k _ hx
      have hdd := hc' k _ hx
      have c0 := hcc 0 (by omega)
      have c1 := hcc 1 (by omega)
      have c2 := hcc 2 (by omega)
      have c3 := hcc 3 (by omega)
      have c4 := hcc 4 (by omega)
      have d0 := hdd 0 (by omega)
      have d1 := hdd 1 (by omega)
      have d2 := hdd 2 (by omega)
      have d3 := hdd 3 (by omega)
      have d4 := hdd 4 (by omega)
      simp only [mailCells, List.getElem?_cons_zero, List.getElem?_cons_succ, Nat.add_zero] at c0 c1 c2 c3 c4 d0 d1 d2 d3 d4
      have hq := fun w => mail_ne xi xq xc xm xt w
      have hgd : Tryz.prog.eqGuardType Tryz.prog.depth 92 = false := by kernel_rfl
      clear hx hc h4 hc' g4 hcc hdd
      go_wp2
      go_quiet (fail)
      go_wp2
      go_roundw
      case rel => exact ⟨k + 1, _, by omega, by go_num, rfl⟩
      case measure => simp [intOf]; omega
    · go_wp2
      go_ret
      exact ⟨rfl, n, rfl⟩

end Go.Proofs.YtijilhbdbeajjaaGreatDoor

namespace Go.Proofs.YtijilhbdbeajjaaGreatDoor

open Go.RowKit

theorem mails_read {w : World} {base n : Nat} {v : Value} {l : List MailD} (hn : n = l.length) (h : w.ownsRow base 92 5 v n (flatG mailCells l)) : CellsR mailCells 5 w v l := by
  subst hn
  by_cases h0 : 0 < l.length
  · obtain ⟨g, cap, rfl, h1, h2, h3, h4, h5, h6⟩ := own_cells h h0
    refine ⟨_, cap, rfl, ⟨h3, by omega⟩, fun _ => ⟨g, 0, rfl, fun k x hx j hj => ?_⟩⟩
    have hk := (List.getElem?_eq_some_iff.1 hx).1
    rw [Nat.zero_add, h6 _ (by omega)]
    exact flatG_at mailCells_len hx j hj
  · obtain ⟨ao, cap, rfl⟩ := grow_shape h
    exact ⟨_, _, rfl, ⟨by omega, by unfold maxLen; omega⟩, fun h => absurd h h0⟩

theorem codes_read {w : World} {base n : Nat} {v : Value} {l : List Int} (hn : n = l.length) (h : w.ownsRow base 33 1 v n (codeCells l)) : CellsR (fun x => [.int .i64 x]) 1 w v l := by
  subst hn
  by_cases h0 : 0 < l.length
  · obtain ⟨g, cap, rfl, h1, h2, h3, h4, h5, h6⟩ := own_cells h h0
    refine ⟨_, cap, rfl, ⟨h3, by omega⟩, fun _ => ⟨g, 0, rfl, fun k x hx j hj => ?_⟩⟩
    have hk := (List.getElem?_eq_some_iff.1 hx).1
    obtain rfl : j = 0 := by omega
    rw [Nat.zero_add, Nat.mul_one, Nat.add_zero, h6 _ (by omega)]
    unfold codeCells
    rw [List.getElem?_map, hx]
    rfl
  · obtain ⟨ao, cap, rfl⟩ := grow_shape h
    exact ⟨_, _, rfl, ⟨by omega, by unfold maxLen; omega⟩, fun h => absurd h h0⟩

set_option maxRecDepth 100000 in
set_option maxHeartbeats 3200000 in
theorem topTwice_walk (v : Value) (xs : List RawD) (w : World) (hv : RawsR w w.heap.size v xs) :
    Calls Tryz.prog 11 #[v] w fun e w' => e = .returned (.bool true) ∧ Below w.heap.size w w' := by
  obtain ⟨⟨T, C⟩, hR⟩ : ∃ R, (town0 3).run (fullK xs 120 []) = R := ⟨_, rfl⟩
  have CR : Hid (∀ u : World, Below w.heap.size w u → ∀ z : Value, RowA u u.heap.size z [] → Calls Tryz.prog 22 #[v, .int .i64 120, z] u fun e w' => ∃ rv cv mv tv ev ys cs, e = .returned (.tuple #[.agg #[rv, cv, mv, tv, .int .i64 T.leader, ev], .bool true]) ∧ OutM w' (.int .i64 0) rv cv mv tv ev ys cs T C ∧ Below u.heap.size u w') := fun u hb z hz => ran_any xs v z 120 [] u w.heap.size (hv.below hb (Nat.le_refl _)) hb.size hz (by omega) (by simp) (fun x hx => (by cases hx)) T C hR
  have hcl : T.comm.length ≤ 1000 := by
    have h := script_went (m := 3) (l := fullK xs 120 []) (by omega) (by have := full_len xs (most := 120) [] (by omega) (by simp); omega)
    rw [hR] at h
    have h2 : T.comm.length ≤ _ := h.town.town.few
    have := full_len xs (most := 120) [] (by omega) (by simp)
    omega
  obtain ⟨ao, cap, rfl, -⟩ := hv
  clear hR
  go_enter Tryz.func11, Tryz.ntmps11
  go_wp2_with fail
  refine (CR.out _ (Below.refl _ _) _ (RowA.nil _ _)).mono ?_
  rintro e w1 ⟨rv, cv, mv, tv, ev, ys1, cs1, rfl, ho, hb1⟩
  have HO1 := ghid ho
  obtain ⟨r1, rc1, rfl⟩ := grow_shape ho.reps
  obtain ⟨q1, qc1, rfl⟩ := grow_shape ho.custs
  obtain ⟨m1, mc1, rfl⟩ := grow_shape ho.mails
  obtain ⟨y1, yc1, rfl⟩ := grow_shape ho.comm
  obtain ⟨e1, ec1, rfl⟩ := grow_shape ho.codes
  clear ho
  have HB1 := ghid hb1
  have hz1 : Below w1.heap.size w1 (w1.alloc (.cells #[.slice r1 3 rc1, .slice q1 cs1.length qc1, .slice m1 T.mails.length mc1, .slice y1 T.comm.length yc1, .int .i64 T.leader, .slice e1 C.length ec1] 32)) := (Below.refl _ _).alloc (Nat.le_refl _) _
  have HZ1 := ghid hz1
  clear hz1 hb1
  go_wp2_with fail
  refine (CR.out _ (HB1.out.trans (HZ1.out.mono HB1.out.size)) _ (RowA.nil _ _)).mono ?_
  rintro e w2 ⟨rv, cv, mv, tv, ev, ys2, cs2, rfl, ho, hb2⟩
  have HO2 := ghid ho
  obtain ⟨r2, rc2, rfl⟩ := grow_shape ho.reps
  obtain ⟨q2, qc2, rfl⟩ := grow_shape ho.custs
  obtain ⟨m2, mc2, rfl⟩ := grow_shape ho.mails
  obtain ⟨y2, yc2, rfl⟩ := grow_shape ho.comm
  obtain ⟨e2, ec2, rfl⟩ := grow_shape ho.codes
  clear ho
  have hk1 := behind (heap_alloc_new w1 (.cells #[.slice r1 3 rc1, .slice q1 cs1.length qc1, .slice m1 T.mails.length mc1, .slice y1 T.comm.length yc1, .int .i64 T.leader, .slice e1 C.length ec1] 32)) (Below.refl _ _) hb2
  obtain ⟨c0, c1, c2, c3, c4, c5, cf, cl⟩ := six_cells hk1
  have HB2 := ghid (HZ1.out.trans (hb2.mono HZ1.out.size))
  have hne : w1.heap.size ≠ w2.heap.size := by omega
  have hz2 : Below w2.heap.size w2 (w2.alloc (.cells #[.slice r2 3 rc2, .slice q2 cs2.length qc2, .slice m2 T.mails.length mc2, .slice y2 T.comm.length yc2, .int .i64 T.leader, .slice e2 C.length ec2] 32)) := (Below.refl _ _).alloc (Nat.le_refl _) _
  have HZ2 := ghid hz2
  have HZN := ghid (fun n => hz2.trans (g_drewN_below _ (w2.alloc (.cells #[.slice r2 3 rc2, .slice q2 cs2.length qc2, .slice m2 T.mails.length mc2, .slice y2 T.comm.length yc2, .int .i64 T.leader, .slice e2 C.length ec2] 32)) n))
  have ho1 : ∀ u, Below w2.heap.size w2 u → OutM u _ _ _ _ _ _ _ _ T C := fun u hu => HO1.out.below (HB2.out.trans (hu.mono HB2.out.size)) (Nat.le_refl _)
  have ho2 : ∀ u, Below w2.heap.size w2 u → OutM u _ _ _ _ _ _ _ _ T C := fun u hu => HO2.out.below hu (Nat.le_refl _)
  have E1 := ghid (fun u hu => equalCodes _ _ C u (codes_read rfl (ho1 u hu).codes) (codes_read rfl (ho2 u hu).codes))
  have E2 := ghid (fun u hu => equalMails _ _ T.mails u (mails_read rfl (ho1 u hu).mails) (mails_read rfl (ho2 u hu).mails))
  have E3 : Hid (∀ u, Below w2.heap.size w2 u → Calls Tryz.prog 20 #[.slice y1 T.comm.length yc1, .slice y2 T.comm.length yc2] u fun e w' => e = .returned (.bool true) ∧ ∃ m, w' = u.drewN m) := fun u hu => by
    have h := equalTexts_any _ _ T.comm T.comm u _ _ (texts_reads (ho1 u hu).comm (ho1 u hu).modest (by omega) (Nat.le_refl _)) (texts_reads (ho2 u hu).comm (ho2 u hu).modest (by omega) (Nat.le_refl _))
    simpa using h
  have HB3 := ghid (HB1.out.trans (HB2.out.mono HB1.out.size))
  clear hk1 hb2 hz2 ho1 ho2 HO1 HO2 CR HZ1
  go_wp2_with fail
  refine (E1.out _ HZ2.out).mono ?_
  rintro e u1 ⟨rfl, n1, rfl⟩
  go_wp2_with fail
  refine (E2.out _ (HZN.out _)).mono ?_
  rintro e u2 ⟨rfl, n2, rfl⟩
  go_wp2_with fail
  refine (E3.out _ (HZN.out _)).mono ?_
  rintro e u3 ⟨rfl, n3, rfl⟩
  go_wp2
  go_ret
  exact ⟨rfl, HB3.out.trans ((HZN.out _).mono HB3.out.size)⟩

end Go.Proofs.YtijilhbdbeajjaaGreatDoor
