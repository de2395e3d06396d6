/- session.hear: a call is heard (joined by program) -/
import Derived.RegionTactic
import Derived.BigRegion
import Derived.Test.YtijilhbdbeajjaaGreatDoorTT20
namespace Go.Proofs.YtijilhbdbeajjaaGreatDoor

open Go.RowKit

theorem hear1_any (s c n : Int) (t : ByteArray) (ak : Int) (b0 g o : Nat) (w : World) (hc0 : w.cell? ⟨b0, 0, none⟩ = some (.pointer (some ⟨g, o, none⟩))) (hca : w.cell? ⟨g, o + 2, none⟩ = some (.int .i64 ak)) (hb0 : b0 < w.heap.size) (hg : g < w.heap.size) :
    Calls Tryz.prog 87 #[.agg #[.int .i64 s, .int .i64 c, .int .i64 n, .string t], .pointer (some ⟨b0, 0, none⟩)] w fun e w' => e = .returned (.bool (decide (s ≤ ak))) ∧ Below w.heap.size w w' := by
  go_enter Tryz.func87, Tryz.ntmps87
  go_wp2_with fail
  go_quiet (fail)
  go_wp2
  go_ret
  exact ⟨rfl, ((Below.refl _ _).alloc (Nat.le_refl _) _).trans (g_drewN_below _ _ _)⟩

set_option maxRecDepth 100000 in
set_option maxHeartbeats 3200000 in
theorem hear_any (g n cap i : Nat) (rs : List (SessD × Value)) (x : SessD) (kg kc : Nat) (en a : Int) (w : World) (base : Nat) (h : OwnS w base (.slice (some ⟨g, 0, none⟩) n cap) rs) (hr : rs[i]? = some (x, .slice (some ⟨kg, 0, none⟩) x.replies.length kc)) :
    Calls Tryz.prog 56 #[.pointer (some ⟨g, i * 5, none⟩), .int .i64 en, .int .i64 a] w fun e w' => e = .returned (.tuple #[]) ∧ (∃ m, OwnS w' base (.slice (some ⟨g, 0, none⟩) n cap) (rs.set i (hearD x en a, .slice (some ⟨kg, 0, none⟩) m kc))) ∧ TouchG w w' (fun b => b = g ∨ b = kg) := by
  obtain ⟨d0, d1, d2, d3, d4⟩ := h.cells hr
  have df := h.frozenAt
  have hg := h.block.2
  simp only at d0 d1 d2 d3 d4
  have HO := ghid h
  have HR := ghid hr
  obtain ⟨xc, xi, xa, xt, xk⟩ := x
  simp only at d0 d1 d2 d3 d4 HR
  clear h hr
  go_enter Tryz.func56, Tryz.ntmps56
  go_wp2_with fail
  go_region
  obtain ⟨W1, hW1⟩ : ∃ W1, W1 = (((w.setCell ⟨g, i * 5 + 3, none⟩ (.int .i64 en)).setCell ⟨g, i * 5 + 2, none⟩ (.int .i64 (max xa a))).alloc (.cells #[.pointer (some ⟨g, i * 5, none⟩)] 128)).drew := ⟨_, rfl⟩
  rw [← hW1]
  have hil : i < rs.length := (List.getElem?_eq_some_iff.1 HR.out).1
  have hz1 : W1.heap.size = w.heap.size + 1 := by rw [hW1]; simp [World.setCell]
  have HO1 : Hid (OwnS W1 base (.slice (some ⟨g, 0, none⟩) n cap) (rs.set i (⟨xc, xi, max xa a, en, xk⟩, .slice (some ⟨kg, 0, none⟩) xk.length kc))) := by
    have h1 := HO.out.setLast HR.out en
    have h2 := h1.setAcked (r := (⟨xc, xi, xa, en, xk⟩, .slice (some ⟨kg, 0, none⟩) xk.length kc)) (i := i) (by rw [List.getElem?_set_self hil]) (max xa a)
    rw [List.set_set] at h2
    rw [hW1]
    exact h2.below (((Below.refl _ _).alloc (Nat.le_refl _) _).drew) (Nat.le_refl _)
  have HT1 : Hid (TouchG w W1 (fun b => b = g ∨ b = kg)) := by
    unfold Hid
    rw [hW1]
    have t := ((TouchG.refl w (fun b => b = g ∨ b = kg)).setCell (a := ⟨g, i * 5 + 3, none⟩) (Or.inl (Or.inl rfl)) (.int .i64 en)).setCell (a := ⟨g, i * 5 + 2, none⟩) (Or.inl (Or.inl rfl)) (.int .i64 (max xa a))
    exact (t.trans (TouchG.of_below (((Below.refl _ _).alloc (Nat.le_refl _) _).drew) (Nat.le_refl _) (fun _ => False)) (fun _ _ h => h.elim))
  have hbx : W1.cell? ⟨w.heap.size, 0, none⟩ = some (.pointer (some ⟨g, i * 5, none⟩)) := by
    have := heap_alloc_new ((w.setCell ⟨g, i * 5 + 3, none⟩ (.int .i64 en)).setCell ⟨g, i * 5 + 2, none⟩ (.int .i64 (max xa a))) (.cells #[.pointer (some ⟨g, i * 5, none⟩)] 128)
    rw [hW1]
    rw [show ((w.setCell ⟨g, i * 5 + 3, none⟩ (.int .i64 en)).setCell ⟨g, i * 5 + 2, none⟩ (.int .i64 (max xa a))).heap.size = w.heap.size by simp [World.setCell]] at this
    exact cell_of_row _ w.heap.size 0 _ _ _ this
  clear hW1 d0 d1 d2 d3 d4 df
  have hri : (rs.set i (((⟨xc, xi, max xa a, en, xk⟩ : SessD), Value.slice (some ⟨kg, 0, none⟩) xk.length kc)))[i]? = some (⟨xc, xi, max xa a, en, xk⟩, .slice (some ⟨kg, 0, none⟩) xk.length kc) := List.getElem?_set_self hil
  obtain ⟨d0, d1, d2, d3, d4⟩ := HO1.out.cells hri
  have df := HO1.out.frozenAt
  simp only at d0 d1 d2 d3 d4
  have hok := HO1.out.reps.each _ (List.mem_of_getElem? hri)
  have hkl := hok.row.lt kg rfl
  have hkg : kg < w.heap.size := ((HO.out.reps.each _ (List.mem_of_getElem? HR.out)).row.lt kg rfl).2
  have hgk : g ≠ kg := fun e => HO.out.apart (mem_repBlocks.2 ⟨_, List.mem_of_getElem? HR.out, rfl⟩) (by rw [← e]; rfl)
  have hgk' : kg ≠ g := fun e => hgk e.symm
  have hg1 : g < W1.heap.size := by omega
  have hg2 : g ≠ w.heap.size := by omega
  have hg3 : w.heap.size ≠ g := by omega
  have HRI := ghid hri
  have HCD := ghid (fun (W' : World) (hb' : Below W1.heap.size W1 W') => deleteFuncK kg xk.length kc xk 87 #[.pointer (some ⟨w.heap.size, 0, none⟩)] (fun k => decide (k.seq ≤ max xa a)) W' base (hok.below hb' (Nat.le_refl _)) rfl (enters_of Tryz.func87 (by decide) rfl) (fun k w' _ hw => by
    have hz := hb'.size
    have hz' := hw.size
    refine hear1_any k.seq k.code k.n k.text (max xa a) w.heap.size g (i * 5) w' ?_ ?_ (by omega) (by omega)
    · exact (World.cell?_of_block (hw.block w.heap.size (by omega) (by omega))).trans ((hb'.cell (p := ⟨w.heap.size, 0, none⟩) (by show w.heap.size < W1.heap.size; omega)).trans hbx)
    · exact (World.cell?_of_block (hw.block g (by omega) hgk)).trans ((hb'.cell (p := ⟨g, i * 5 + 2, none⟩) (by show g < W1.heap.size; omega)).trans d2)))
  have hw1 : w.heap.size < W1.heap.size := by omega
  clear hri hok hkl
  go_wp2_with fail
  go_region_with (go_at_call 88; refine (HCD.out _ (Below.refl _ _).drew).mono ?_; rintro e w2 ⟨m, rfl, hok2, hT2⟩; have k1 : ∀ j, w2.cell? ⟨g, j, none⟩ = W1.cell? ⟨g, j, none⟩ := (fun j => World.cell?_of_block (hT2.block g hg1 hgk)); have k2 : ∀ j, w2.frozen? ⟨g, j, none⟩ = W1.frozen? ⟨g, j, none⟩ := (fun j => World.frozen?_of_block (hT2.block g hg1 hgk)); have k3 : w2.cell? ⟨w.heap.size, 0, none⟩ = some (.pointer (some ⟨g, i * 5, none⟩)) := ((World.cell?_of_block (hT2.block w.heap.size hw1 (by omega))).trans hbx))
  all_goals
    have hT2' : TouchG W1 w2 (fun b => (Value.slice (some ⟨kg, 0, none⟩) xk.length kc).ownBlock = some b) := ⟨hT2.os, hT2.tape, hT2.output, hT2.size, fun k hk hs => hT2.block k hk (fun e => hs (by rw [e]; rfl))⟩
    have HF := ghid (HO1.out.setReplies HRI.out hT2' hok2 (fun b hb => Or.inl hb))
    rw [List.set_set] at HF
    have HT2 : Hid (TouchG w (w2.setCell ⟨g, i * 5 + 4, none⟩ (.slice (some ⟨kg, 0, none⟩) m kc)) (fun b => b = g ∨ b = kg)) :=
      (HT1.out.trans hT2' (fun b _ hb => Or.inr (by simpa [Value.ownBlock] using hb.symm))).setCell (Or.inl (Or.inl rfl)) _
    clear hok2 hT2 hT2'
    go_wp2
    refine bodyPost_end (v := .tuple #[]) (by simp [results, Tryz.results56, go_sem]) rfl ?_
    exact ⟨rfl, ⟨m, HF.out⟩, HT2.out⟩

end Go.Proofs.YtijilhbdbeajjaaGreatDoor
