/- The document's unlined and passed. -/
import Derived.Test.YtkmkocbpclkhhacLockFree
import Derived.Test.YtkmkocbpclkhhacRefCopy
namespace Go.Proofs.Ytkmkocbpclkhhac
open Go.RowKit

theorem filter_snoc {xs : List Int} {k : Nat} {y who : Int} (h : xs[k]? = some y) : (xs.take (k + 1)).filter (· != who) = (xs.take k).filter (· != who) ++ (if y = who then [] else [y]) := by
  obtain ⟨hk, he⟩ := List.getElem?_eq_some_iff.1 h
  rw [List.take_succ_eq_append_getElem hk, List.filter_append, he]
  by_cases hy : y = who <;> simp [hy]

set_option maxHeartbeats 800000 in
theorem unlined_any (v : Value) (xs : List Int) (who : Int) (w : World) (B : Nat) (hv : IntsR w B v xs) (hB : B ≤ w.heap.size) :
    Calls Try.prog 27 #[v, .int .i64 who] w fun e w' => ∃ v', e = .returned v' ∧ w'.ownsRow w.heap.size 3 1 v' (xs.filter (· != who)).length (intCells (xs.filter (· != who))) ∧ Below w.heap.size w w' := by
  obtain ⟨i0, hi, hz0, hz1, hz2⟩ := info_parts Try.infoInt
  obtain ⟨ao, cap, rfl, h1, h2, h3, h4⟩ := hv
  go_enter Try.func27, Try.ntmps27
  go_wp2
  go_loopw [5, 6] (fun o i wr => ∃ k : Nat, k ≤ xs.length ∧ i = .int .i64 k ∧ wr.ownsRow w.heap.size 3 1 o ((xs.take k).filter (· != who)).length (intCells ((xs.take k).filter (· != who))) ∧ Below w.heap.size w wr)
    (fun _ i _ => xs.length - (intOf i).toNat)
  case atStart => exact ⟨0, Nat.zero_le _, rfl, by simpa [intCells] using World.ownsRow_nil _ _ _ _, Below.refl _ _⟩
  case round =>
    obtain ⟨k, hk, rfl, hown, hb⟩ := hrel
    have HO := Hid.mk' hown
    obtain ⟨oo, oc, rfl⟩ := ownsRow_shape hown
    have hsz := hb.size
    clear hown
    by_cases hlt : k < xs.length
    · obtain ⟨b, off, rfl, hbB, hc⟩ := h4 (by omega)
      obtain ⟨y, hy⟩ : ∃ y, xs[k]? = some y := ⟨_, List.getElem?_eq_getElem hlt⟩
      have hcell : wr.cell? ⟨b, off + k, none⟩ = some (.int .i64 y) := (hb.cell (p := ⟨b, off + k, none⟩) (by show b < w.heap.size; omega)).trans (hc k y hy)
      have hbr : b < wr.heap.size := by omega
      have HF := Hid.mk' (filter_snoc (who := who) hy)
      have hfl : ((xs.take k).filter (· != who)).length ≤ k := Nat.le_trans (List.length_filter_le _ _) (List.length_take_le _ _)
      clear hy hc h4
      obtain ⟨fs, hfs⟩ : ∃ fs, fs = (xs.take k).filter (· != who) := ⟨_, rfl⟩
      rw [← hfs] at HO HF hfl
      rw [← hfs]
      have HFS := Hid.mk' hfs
      clear hfs
      by_cases hyw : y = who
      · rw [if_pos hyw, List.append_nil] at HF
        subst hyw
        go_wp2
        go_roundw
        case rel => exact ⟨k + 1, by omega, by go_num, by rw [HF.out]; exact HO.out, hb⟩
        case measure => simp [intOf]; omega
      · rw [if_neg hyw] at HF
        have hywb : (y != who) = true := by simpa using hyw
        go_wp2_with (at_builtin; refine wpList_append_own _ rfl (.tmp 19) (.tmp 24) 43 rfl w.heap.size 3 i0 (.int .i64 0) 1 8 Try.underlying43 hi hz0 hz1 hz2 rfl (by decide) _ _ _ rfl (HO.out.alloc _) ⟨wr.heap.size, 0, none⟩ 1 1 [.int .i64 y] rfl rfl (cell_one_new _ _ _) (by intro u hu; simp at hu; subst hu; rfl) (by unfold maxLen; omega) (by omega) (by simp; omega) ?_)
        intro v1 w1 hown1 hg1 _
        have HO1 : Hid (w1.ownsRow w.heap.size 3 1 v1 (fs ++ [y]).length (intCells (fs ++ [y]))) := by unfold Hid; simpa [intCells] using hown1
        have HB1 := Hid.mk' ((hb.alloc hsz _).grown hg1 (by simp; omega) (fun c hc => (HO.out.lt c hc).1))
        clear hown1 hg1
        go_wp2
        go_roundw
        case rel => exact ⟨k + 1, by omega, by go_num, by rw [HF.out]; exact HO1.out, HB1.out⟩
        case measure => simp [intOf]; omega
    · have hkl : k = xs.length := by omega
      subst hkl
      have e : xs.take xs.length = xs := List.take_of_length_le (Nat.le_refl _)
      rw [e] at HO
      clear h4 e
      go_wp2
      go_ret
      exact ⟨_, rfl, HO.out, hb⟩

/-- The cells of a lock put anew whole, its line new. -/
theorem OwnL.putAll {w w1 : World} {base g n cap : Nat} {p s : List (LockD × Value)} {r : LockD × Value} {x : LockD} {lv : Value} (h : OwnL w base (.slice (some ⟨g, 0, none⟩) n cap) (p ++ r :: s)) (hb : Below w.heap.size w w1) (hbase : base ≤ w.heap.size) (ho : w1.ownsRow w.heap.size 3 1 lv x.line.length (intCells x.line)) (hl : x.line.length * 8 ≤ 140737488351232) (hn : x.name.size ≤ 140737488351232) :
    OwnL ((((w1.setCell ⟨g, p.length * 4, none⟩ (.string x.name)).setCell ⟨g, p.length * 4 + 1, none⟩ (.int .i64 x.holder)).setCell ⟨g, p.length * 4 + 2, none⟩ (.int .i64 x.fence)).setCell ⟨g, p.length * 4 + 3, none⟩ lv) base (.slice (some ⟨g, 0, none⟩) n cap) (p ++ (x, lv) :: s) := by
  have hg := h.block
  have hle := h.len_eq
  have hrow := ownsRow_below h.row hb (Nat.le_refl _)
  rw [flat_mid, ← hle] at hrow
  have hrow2 := put4_own (w := w1) (A := flat p) (Z := flat s) (k := p.length) (by simpa [lockCells] using hrow) (flat_length p) (.string x.name) (.int .i64 x.holder) (.int .i64 x.fence) lv
  have hlv : ∀ b, lv.ownBlock = some b → w.heap.size ≤ b := fun b hbk => (ho.lt b hbk).1
  refine h.put ?_ ?_ hl hn ?_ (fun b hbk => Or.inr (hlv b hbk))
  · have e : (p ++ (x, lv) :: s).length = n := by rw [hle]; simp
    rw [e, flat_mid]
    simpa [lockCells] using hrow2
  · exact ownsRow_keep (ownsRow_mono ho hbase) fun b hbk => put4_other _ _ _ _ _ _ _ _ (by have := hlv b hbk; show b ≠ g; omega)
  · intro b hbk
    have hbm : b ∈ lineBlocks (p ++ r :: s) := by rw [lineBlocks_mid]; rcases List.mem_append.1 hbk with hbk | hbk <;> simp [hbk]
    rw [put4_other _ _ _ _ _ _ _ _ (fun e => h.apart b hbm (by rw [e]; rfl))]
    exact hb.block b (h.lines.lt hbm).2

/-- A lock as a value. -/
def lockV2 (x : LockD) (lv : Value) : Value := .agg #[.string x.name, .int .i64 x.holder, .int .i64 x.fence, lv]
end Go.Proofs.Ytkmkocbpclkhhac
