/- Plain mathematics of a call that is asked again and again. -/
import Derived.Test.YtmcdbdcabiccnafSessEndMath
import Derived.Test.YtmcdbdcabiccnafSessReadyMath
import Derived.Test.YtmcdbdcabiccnafSessKeepMath
import Derived.Test.YtmcdbdcabiccnafSessAnswer
namespace Go.Proofs.Ytmcdbdcabiccnaf
open Go.RowKit

theorem gheap_at (W : World) (o : Obj) (n : Nat) (h : W.heap.size = n) : (W.alloc o).heap[n]? = some o := by subst h; exact heap_alloc_new W o

theorem one_there (x : SessD) : thereS [x] x.client = true ∧ placeS [x] x.client = 0 := by
  have h : placeS [x] x.client = 0 := by simp [placeS]
  exact ⟨by unfold thereS; rw [h]; simp, h⟩

theorem one_good {x : SessD} {i : Int} (h0 : 0 ≤ i) (h1 : i ≤ 1073741824) (hr : rangeB x i = true) (hf : sformB x = true) : checkS [x] i = 0 := by
  refine checkS_of ⟨h0, h1, by simp, fun y hy => ?_, List.pairwise_singleton _ _⟩
  have : y = x := by simpa using hy
  subst this
  exact ⟨hr, hf⟩

theorem one_ready {x : SessD} {i q u : Int} (h0 : 0 ≤ i) (h1 : i < 1073741824) (hr : rangeB x i = true) (hf : sformB x = true) (hq : 1 ≤ q ∧ q ≤ 1048576) (hu : 0 ≤ u ∧ u ≤ q - 1) :
    readyE [x] i q u = 0 ∧ readyS [x] i x.client x.id q u = ([hearD x (i + 1) u], answerD (hearD x (i + 1) u) q) := by
  refine ⟨readyE_ok (one_good h0 (by omega) hr hf) ⟨by omega, hq, hu.1, hu.2⟩, ?_⟩
  obtain ⟨ht, hp⟩ := one_there x
  rw [readyS_here ht (x := x) (by rw [hp]; rfl) rfl, hp]
  rfl

theorem calls_first {c k : Int} (h1 : 1 ≤ c) (h2 : c ≤ 9) (h3 : 1 ≤ k) (h4 : k ≤ 4) :
    readyE [⟨c, 1, 0, 1, []⟩] 1 k 0 = 0 ∧ readyS [⟨c, 1, 0, 1, []⟩] 1 c 1 k 0 = ([⟨c, 1, 0, 2, []⟩], ⟨0, 0, ⟨#[]⟩⟩, true) := by
  obtain ⟨a, b⟩ := one_ready (x := ⟨c, 1, 0, 1, []⟩) (i := 1) (q := k) (u := 0) (by omega) (by omega) (by rw [rangeB_iff]; simp only; omega) rfl (by omega) (by omega)
  refine ⟨a, ?_⟩
  have e : hearD ⟨c, 1, 0, 1, []⟩ (1 + 1) 0 = ⟨c, 1, 0, 2, []⟩ := by simp [hearD]
  simp only at b
  rw [b, e, answerD_todo (x := ⟨c, 1, 0, 2, []⟩) (by simp only; omega) (by rfl) (by simp only; omega)]

theorem calls_keep {c k m : Int} {t : ByteArray} (h1 : 1 ≤ c) (h2 : c ≤ 9) (h3 : 1 ≤ k) (h4 : k ≤ 4) (h5 : 0 ≤ m) (h6 : m < 100) (h7 : t.size = 1) :
    keepE [⟨c, 1, 0, 2, []⟩] 2 c ⟨k, 0, m, t⟩ = 0 ∧ keepS [⟨c, 1, 0, 2, []⟩] c ⟨k, 0, m, t⟩ = [⟨c, 1, 0, 2, [⟨k, 0, m, t⟩]⟩] := by
  obtain ⟨ht, hp⟩ := one_there ⟨c, 1, 0, 2, []⟩
  simp only at ht hp
  have hx : [(⟨c, 1, 0, 2, []⟩ : SessD)][placeS [⟨c, 1, 0, 2, []⟩] c]? = some ⟨c, 1, 0, 2, []⟩ := by rw [hp]; rfl
  have hw : withK [] ⟨k, 0, m, t⟩ = [⟨k, 0, m, t⟩] := by simp [withK]
  refine ⟨keepE_ok (x := ⟨c, 1, 0, 2, []⟩) (one_good (by omega) (by omega) (by rw [rangeB_iff]; simp only; omega) rfl) ht hx rfl ?_, ?_⟩
  · simp only [hw, formFrom_cons, formFrom_nil, keptB]
    rw [replyB_iff.2 (by omega)]
    simp
    omega
  · rw [keepS_there hx, hp]
    simp only [hw]
    rfl

theorem kept_form {c k m l : Int} {t : ByteArray} (h3 : 1 ≤ k) (h4 : k ≤ 4) (h5 : 0 ≤ m) (h6 : m < 100) (h7 : t.size = 1) : sformB ⟨c, 1, 0, l, [⟨k, 0, m, t⟩]⟩ = true := by
  simp only [sformB, formFrom_cons, formFrom_nil, keptB]
  rw [replyB_iff.2 (by omega)]
  simp
  omega

theorem calls_again {c k m : Int} {t : ByteArray} (h1 : 1 ≤ c) (h2 : c ≤ 9) (h3 : 1 ≤ k) (h4 : k ≤ 4) (h5 : 0 ≤ m) (h6 : m < 100) (h7 : t.size = 1) :
    readyE [⟨c, 1, 0, 2, [⟨k, 0, m, t⟩]⟩] 2 k 0 = 0 ∧ readyS [⟨c, 1, 0, 2, [⟨k, 0, m, t⟩]⟩] 2 c 1 k 0 = ([⟨c, 1, 0, 3, [⟨k, 0, m, t⟩]⟩], ⟨0, m, t⟩, false) := by
  obtain ⟨a, b⟩ := one_ready (x := ⟨c, 1, 0, 2, [⟨k, 0, m, t⟩]⟩) (i := 2) (q := k) (u := 0) (by omega) (by omega) (by rw [rangeB_iff]; simp only; omega) (kept_form h3 h4 h5 h6 h7) (by omega) (by omega)
  refine ⟨a, ?_⟩
  have e : hearD ⟨c, 1, 0, 2, [⟨k, 0, m, t⟩]⟩ (2 + 1) 0 = ⟨c, 1, 0, 3, [⟨k, 0, m, t⟩]⟩ := by
    have : ¬ k ≤ 0 := by omega
    simp [hearD, this]
  have hp : placeK [(⟨k, 0, m, t⟩ : KeptD)] k = 0 := by simp [placeK]
  simp only at b
  rw [b, e, answerD_kept (x := ⟨c, 1, 0, 3, [⟨k, 0, m, t⟩]⟩) (k := ⟨k, 0, m, t⟩) (by simp only; omega) (by simp only [thereK, hp]; simp) (by simp only [hp]; rfl)]

theorem calls_next {c k m : Int} {t : ByteArray} (h1 : 1 ≤ c) (h2 : c ≤ 9) (h3 : 1 ≤ k) (h4 : k ≤ 4) (h5 : 0 ≤ m) (h6 : m < 100) (h7 : t.size = 1) :
    readyE [⟨c, 1, 0, 3, [⟨k, 0, m, t⟩]⟩] 3 (k + 1) k = 0 ∧ readyS [⟨c, 1, 0, 3, [⟨k, 0, m, t⟩]⟩] 3 c 1 (k + 1) k = ([⟨c, 1, k, 4, []⟩], ⟨0, 0, ⟨#[]⟩⟩, true) ∧ readyS [⟨c, 1, 0, 3, [⟨k, 0, m, t⟩]⟩] 3 c 2 (k + 1) k = ([⟨c, 1, 0, 3, [⟨k, 0, m, t⟩]⟩], ⟨11, 0, ⟨#[]⟩⟩, false) := by
  obtain ⟨a, b⟩ := one_ready (x := ⟨c, 1, 0, 3, [⟨k, 0, m, t⟩]⟩) (i := 3) (q := k + 1) (u := k) (by omega) (by omega) (by rw [rangeB_iff]; simp only; omega) (kept_form h3 h4 h5 h6 h7) (by omega) (by omega)
  have e : hearD ⟨c, 1, 0, 3, [⟨k, 0, m, t⟩]⟩ (3 + 1) k = ⟨c, 1, k, 4, []⟩ := by
    have e1 : max 0 k = k := by omega
    simp [hearD, e1]
  refine ⟨a, ?_, ?_⟩
  · simp only at b
    rw [b, e, answerD_todo (x := ⟨c, 1, k, 4, []⟩) (by simp only; omega) (by rfl) (by simp only; omega)]
  · obtain ⟨ht, hp⟩ := one_there ⟨c, 1, 0, 3, [⟨k, 0, m, t⟩]⟩
    simp only at ht hp
    exact readyS_other ht (x := ⟨c, 1, 0, 3, [⟨k, 0, m, t⟩]⟩) (by rw [hp]; rfl) (by simp)

theorem calls_old {c k : Int} (h1 : 1 ≤ c) (h2 : c ≤ 9) (h3 : 1 ≤ k) (h4 : k ≤ 4) :
    readyE [⟨c, 1, k, 4, []⟩] 4 k 0 = 0 ∧ readyS [⟨c, 1, k, 4, []⟩] 4 c 1 k 0 = ([⟨c, 1, k, 5, []⟩], ⟨12, 0, ⟨#[]⟩⟩, false) := by
  obtain ⟨a, b⟩ := one_ready (x := ⟨c, 1, k, 4, []⟩) (i := 4) (q := k) (u := 0) (by omega) (by omega) (by rw [rangeB_iff]; simp only; omega) rfl (by omega) (by omega)
  refine ⟨a, ?_⟩
  have e : hearD ⟨c, 1, k, 4, []⟩ (4 + 1) 0 = ⟨c, 1, k, 5, []⟩ := by
    have e1 : max k 0 = k := by omega
    simp [hearD, e1]
  simp only at b
  rw [b, e, answerD_old (x := ⟨c, 1, k, 5, []⟩) (by simp only; omega)]
end Go.Proofs.Ytmcdbdcabiccnaf
