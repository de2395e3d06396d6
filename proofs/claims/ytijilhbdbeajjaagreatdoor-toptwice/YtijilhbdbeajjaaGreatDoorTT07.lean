/- lock.meet, lock.take, on one lock of a row of the call's own (joined by program) -/
import Derived.Test.YtijilhbdbeajjaaGreatDoorTT06
import Derived.Test.YtijilhbdbeajjaaGreatDoorTT02
namespace Go.Proofs.YtijilhbdbeajjaaGreatDoor

open Go.RowKit

/-- A reply, as a value. -/
def replyV (c n : Int) : Value := .agg #[.int .i64 c, .int .i64 n, .string ⟨#[]⟩]

/-- A lock that another one has. -/
def meetX (x : LockD) (who : Int) (wait : Bool) : LockD × Int × Int :=
  if wait = true ∧ hasB who x.line = false then (if x.line.length = 3 then (x, 8, 0) else ({ x with line := x.line ++ [who] }, 10, x.holder)) else (x, 10, x.holder)

/-- A lock that is taken. -/
def takeX (x : LockD) (who : Int) (wait : Bool) : LockD × Int × Int :=
  if x.holder = who then (x, 0, x.fence) else if x.holder ≠ 0 then meetX x who wait else if x.fence = 1073741824 then (x, 8, 0) else ({ x with holder := who, fence := x.fence + 1 }, 0, x.fence + 1)

theorem OwnL.setOther {w : World} {base : Nat} {v : Value} {rs : List (LockD × Value)} (h : OwnL w base v rs) {a : Addr} (h1 : v.ownBlock ≠ some a.block) (h2 : ∀ b ∈ lineBlocks rs, b ≠ a.block) (u : Value) : OwnL (w.setCell a u) base v rs :=
  h.keep (fun _ hb => heap_setCell_other _ _ _ _ (fun e => h1 (by rw [hb, e]))) (fun b hb => heap_setCell_other _ _ _ _ (h2 b hb))

/-- A block of another element type is none of the lines'. -/
theorem OwnL.notLine {w : World} {base b : Nat} {v : Value} {rs : List (LockD × Value)} {cs : Array Value} {t : TypeId} {fr : Nat × Nat} (h : OwnL w base v rs) (hb : w.heap[b]? = some (.cells cs t fr)) (ht : t ≠ 3) : b ∉ lineBlocks rs := by
  intro hm
  obtain ⟨r, hr, e⟩ := mem_lineBlocks.1 hm
  rcases (h.lines.each r hr).1.2 with ⟨e2, _⟩ | ⟨g, cap, cur, e2, _, hg, _⟩
  · rw [e2] at e; cases e
  · rw [e2] at e
    have : g = b := by simpa [Value.ownBlock] using e
    subst this
    rw [hg] at hb
    simp only [Option.some.injEq, Obj.cells.injEq] at hb
    exact ht hb.2.1.symm

theorem OwnL.lt {w : World} {base : Nat} {v : Value} {rs : List (LockD × Value)} (h : OwnL w base v rs) : (∀ b, v.ownBlock = some b → b < w.heap.size) ∧ ∀ b ∈ lineBlocks rs, b < w.heap.size :=
  ⟨fun b hb => (h.row.lt b hb).2, fun _ hb => (h.lines.lt hb).2⟩

theorem ownsRow_shape' {w : World} {base : Nat} {e : TypeId} {size : Nat} {v : Value} {n : Nat} {xs : List Value} (h : w.ownsRow base e size v n xs) : ∃ ao cap, v = .slice ao n cap := by
  rcases h.2 with ⟨rfl, rfl⟩ | ⟨g, cap, cur, rfl, _⟩
  · exact ⟨none, 0, rfl⟩
  · exact ⟨_, _, rfl⟩

set_option maxHeartbeats 800000 in
theorem meet_still (g n cap : Nat) (p s : List (LockD × Value)) (r : LockD × Value) (who c m : Int) (wait : Bool) (w : World) (base : Nat) (h : OwnL w base (.slice (some ⟨g, 0, none⟩) n cap) (p ++ r :: s)) (hx : meetX r.1 who wait = (r.1, c, m)) (hne : ¬ (wait = true ∧ hasB who r.1.line = false ∧ ¬ r.1.line.length = 3)) :
    Calls Tryz.prog 245 #[.pointer (some ⟨g, p.length * 4, none⟩), .int .i64 who, .bool wait] w fun e w' => e = .returned (replyV c m) ∧ Below w.heap.size w w' := by
  obtain ⟨⟨xn, xh, xf, xl⟩, lv⟩ := r
  simp only at hx hne
  have c1 := h.cellAt 1 (by omega)
  have c3 := h.cellAt 3 (by omega)
  simp only [lockCells, List.getElem?_cons_zero, List.getElem?_cons_succ] at c1 c3
  have hline := h.line
  simp only at hline
  have hg := h.block.2
  have HI : Hid (∀ w', Below w.heap.size w w' → IntsR w' w.heap.size lv xl) := fun w' hb => (ownsRow_ints hline.1 hline.2.1 (Nat.le_refl _)).below hb (Nat.le_refl _)
  obtain ⟨lo, lc, rfl⟩ := ownsRow_shape' hline.1
  have hlb := hline.2.1
  clear h hline
  cases wait with
  | false =>
    simp [meetX] at hx
    obtain ⟨rfl, rfl⟩ := hx
    clear hne
    go_enter Tryz.func245, Tryz.ntmps245
    go_wp2
    exact bodyPost_ret (v := replyV 10 xh) (by simp [results, Tryz.results245, go_sem, replyV]) rfl ⟨rfl, (Below.refl _ _).alloc (Nat.le_refl _) _⟩
  | true =>
    cases hh : hasB who xl with
    | true =>
      simp [meetX, hh] at hx
      obtain ⟨rfl, rfl⟩ := hx
      have HT := Hid.mk' hh
      clear hne hh
      go_enter Tryz.func245, Tryz.ntmps245
      go_wp2_with fail
      refine (contains_any _ xl who _ _ (HI.out _ ((Below.refl _ _).alloc (Nat.le_refl _) _))).mono ?_
      rintro e w1 ⟨rfl, rfl⟩
      rw [HT.out]
      go_wp2
      exact bodyPost_ret (v := replyV 10 xh) (by simp [results, Tryz.results245, go_sem, replyV]) rfl ⟨rfl, (Below.refl _ _).alloc (Nat.le_refl _) _⟩
    | false =>
      have h3 : xl.length = 3 := by
        apply Classical.byContradiction
        intro h3
        exact hne ⟨rfl, hh, h3⟩
      simp [meetX, hh, h3] at hx
      obtain ⟨rfl, rfl⟩ := hx
      have HT := Hid.mk' hh
      have h4 : ((xl.length : Int) == 3) = true := by rw [h3]; rfl
      have H3 := Hid.mk' h3
      clear hne hh h3
      go_enter Tryz.func245, Tryz.ntmps245
      go_wp2_with fail
      refine (contains_any _ xl who _ _ (HI.out _ ((Below.refl _ _).alloc (Nat.le_refl _) _))).mono ?_
      rintro e w1 ⟨rfl, rfl⟩
      rw [HT.out]
      go_wp2
      exact bodyPost_ret (v := replyV 8 0) (by simp [results, Tryz.results245, go_sem, replyV]) rfl ⟨rfl, (Below.refl _ _).alloc (Nat.le_refl _) _⟩

set_option maxHeartbeats 800000 in
theorem meet_wait (g n cap : Nat) (p s : List (LockD × Value)) (r : LockD × Value) (who : Int) (w : World) (base : Nat) (h : OwnL w base (.slice (some ⟨g, 0, none⟩) n cap) (p ++ r :: s)) (hh : hasB who r.1.line = false) (h3 : r.1.line.length < 3) :
    Calls Tryz.prog 245 #[.pointer (some ⟨g, p.length * 4, none⟩), .int .i64 who, .bool true] w fun e w' => e = .returned (replyV 10 r.1.holder) ∧ ∃ lv, OwnL w' base (.slice (some ⟨g, 0, none⟩) n cap) (p ++ ({ r.1 with line := r.1.line ++ [who] }, lv) :: s) ∧ Touch w w' (OwnB g (p ++ r :: s)) := by
  obtain ⟨i0, hi, hz0, hz1, hz2⟩ := info_parts Tryz.infoInt
  obtain ⟨⟨xn, xh, xf, xl⟩, lv⟩ := r
  simp only at hh h3
  have c1 := h.cellAt 1 (by omega)
  have c3 := h.cellAt 3 (by omega)
  have hfz := h.frozenAt
  simp only [lockCells, List.getElem?_cons_zero, List.getElem?_cons_succ] at c1 c3
  have hline := h.line
  simp only at hline
  have hg := h.block
  have HH : Hid (OwnL w base (.slice (some ⟨g, 0, none⟩) n cap) (p ++ (⟨xn, xh, xf, xl⟩, lv) :: s)) := h
  have HI : Hid (∀ w', Below w.heap.size w w' → IntsR w' w.heap.size lv xl) := fun w' hb => (ownsRow_ints hline.1 hline.2.1 (Nat.le_refl _)).below hb (Nat.le_refl _)
  have hline1 := hline.1
  obtain ⟨lo, lc, rfl⟩ := ownsRow_shape' hline1
  have HL : Hid (w.ownsRow base 3 1 (.slice lo xl.length lc) xl.length (intCells xl)) := hline1
  have hlb := hline.2.1
  clear h hline hline1
  have HT := Hid.mk' hh
  have h4 : ((xl.length : Int) == 3) = false := by simpa using (show ¬ (xl.length : Int) = 3 by omega)
  have H3 := Hid.mk' h3
  have HN : Hid (∀ j u, [Value.int .i64 who][j]? = some u → ((w.alloc (.cells #[.int .i64 0, .int .i64 0, .string ⟨#[]⟩] 73)).alloc (.cells #[.int .i64 who] 3)).cell? ((⟨w.heap.size + 1, 0, none⟩ : Addr).add j) = some u) := by
    have := cell_one_new (w.alloc (.cells #[.int .i64 0, .int .i64 0, .string ⟨#[]⟩] 73)) (.int .i64 who) 3
    have e : (w.alloc (.cells #[.int .i64 0, .int .i64 0, .string ⟨#[]⟩] 73)).heap.size = w.heap.size + 1 := by simp
    rw [e] at this
    exact this
  clear hh h3
  go_enter Tryz.func245, Tryz.ntmps245
  go_wp2_with fail
  refine (contains_any _ xl who _ _ (HI.out _ ((Below.refl _ _).alloc (Nat.le_refl _) _))).mono ?_
  rintro e w1 ⟨rfl, rfl⟩
  rw [HT.out]
  go_wp2_with (at_builtin; refine wpList_append_lies _ rfl (.tmp 28) (.tmp 30) 80 rfl base 3 i0 (.int .i64 0) 1 8 Tryz.underlying80 hi hz0 hz1 hz2 rfl (by decide) _ _ _ rfl ((HL.out.alloc _).alloc _) ⟨w.heap.size + 1, 0, none⟩ 1 1 [.int .i64 who] rfl rfl HN.out (by intro u hu; simp at hu; subst hu; rfl) (by omega) (by unfold maxLen; omega) (by omega) (by have := hg.1; simp; omega) _ rfl ?_)
  intro gn cn w2 hown hgrow hat hlt
  have hlo : ∀ b, (Value.slice lo xl.length lc).ownBlock = some b → b < w.heap.size ∧ b ≠ g := fun b hb => ⟨(HL.out.lt b hb).2, HH.out.lineNe hb⟩
  have hold : ∀ k, k < w.heap.size → ((w.alloc (.cells #[.int .i64 0, .int .i64 0, .string ⟨#[]⟩] 73)).alloc (.cells #[.int .i64 who] 3)).heap[k]? = w.heap[k]? := fun k hk => by
    rw [Below.heap_alloc _ _ _ (by simp; omega), Below.heap_alloc _ _ _ hk]
  have hg' : w.grownBy w2 (Value.slice lo xl.length lc).ownBlock := ⟨hgrow.os, hgrow.tape, hgrow.output, by have := hgrow.size; simp at this; omega, fun k hk hne => (hgrow.block k (by simp; omega) hne).trans (hold k hk)⟩
  have kg : ∀ j, w2.cell? ⟨g, j, none⟩ = w.cell? ⟨g, j, none⟩ := fun j => hg'.cell_far ⟨g, j, none⟩ hg.2 (fun e => (hlo g e.symm).2 rfl)
  have kf : ∀ j, w2.frozen? ⟨g, j, none⟩ = w.frozen? ⟨g, j, none⟩ := fun j => hg'.frozen_far ⟨g, j, none⟩ hg.2 (fun e => (hlo g e.symm).2 rfl)
  have kr : ∀ j, w2.cell? ⟨w.heap.size, j, none⟩ = ((w.alloc (.cells #[.int .i64 0, .int .i64 0, .string ⟨#[]⟩] 73)).alloc (.cells #[.int .i64 who] 3)).cell? ⟨w.heap.size, j, none⟩ := fun j => hgrow.cell_far ⟨w.heap.size, j, none⟩ (by simp; omega) (fun e => by have := (hlo w.heap.size e.symm).1; omega)
  have krf : ∀ j, w2.frozen? ⟨w.heap.size, j, none⟩ = ((w.alloc (.cells #[.int .i64 0, .int .i64 0, .string ⟨#[]⟩] 73)).alloc (.cells #[.int .i64 who] 3)).frozen? ⟨w.heap.size, j, none⟩ := fun j => hgrow.frozen_far ⟨w.heap.size, j, none⟩ (by simp; omega) (fun e => by have := (hlo w.heap.size e.symm).1; omega)
  have hgr : g ≠ w.heap.size := by omega
  have hrg : w.heap.size ≠ g := by omega
  have HO : Hid (OwnL (w2.setCell ⟨g, p.length * 4 + 3, none⟩ (.slice (some ⟨gn, 0, none⟩) (xl.length + 1) cn)) base (.slice (some ⟨g, 0, none⟩) n cap) (p ++ (⟨xn, xh, xf, xl ++ [who]⟩, .slice (some ⟨gn, 0, none⟩) (xl.length + 1) cn) :: s)) := by
    have e1 : (xl ++ [who]).length = xl.length + 1 := by simp
    have e2 : intCells (xl ++ [who]) = intCells xl ++ [.int .i64 who] := by simp [intCells]
    have hown' : w2.ownsRow base 3 1 (.slice (some ⟨gn, 0, none⟩) (xl.length + 1) cn) (xl ++ [who]).length (intCells (xl ++ [who])) := by rw [e1, e2]; exact hown
    exact HH.out.setLine hg' hown' (by have := H3.out; rw [e1]; omega) (fun b hb => by
      have hb' : gn = b := by simpa [Value.ownBlock] using hb
      subst hb'
      rcases hat with e | e
      · exact Or.inl e
      · right; omega)
  have HNB : Hid (∀ b ∈ lineBlocks (p ++ (⟨xn, xh, xf, xl ++ [who]⟩, .slice (some ⟨gn, 0, none⟩) (xl.length + 1) cn) :: s), b ≠ w.heap.size) := by
    intro b hb
    have hlt0 := HH.out.lt.2
    rw [lineBlocks_mid] at hb hlt0
    rcases List.mem_append.1 hb with hb | hb
    · have := hlt0 b (List.mem_append_left _ hb); omega
    · rcases List.mem_append.1 hb with hb | hb
      · have hb' : b = gn := by simpa [Value.ownBlock] using hb
        subst hb'
        rcases hat with e | e
        · have := (hlo b e).1; omega
        · omega
      · have := hlt0 b (List.mem_append_right _ (List.mem_append_right _ hb)); omega
  have HB : Hid (Touch w w2 (OwnB g (p ++ (⟨xn, xh, xf, xl⟩, .slice lo xl.length lc) :: s))) := (Touch.refl _ _).grown hg' (fun k hk => Or.inr (by rw [lineBlocks_mid]; simp only [hk]; simp))
  have hb0 : base ≤ w.heap.size := by omega
  clear hown hgrow hat hlt hg' hold hlo hi hz0 hz1 hz2
  go_wp2
  refine bodyPost_ret (v := replyV 10 xh) (by simp [results, Tryz.results245, go_sem, replyV, kr]) rfl ⟨rfl, .slice (some ⟨gn, 0, none⟩) (xl.length + 1) cn, ?_, ?_⟩
  · exact ((HO.out.setOther (by simpa [Value.ownBlock] using hgr) HNB.out _).setOther (by simpa [Value.ownBlock] using hgr) HNB.out _).setOther (by simpa [Value.ownBlock] using hgr) HNB.out _
  · exact ((((HB.out.setCell (Or.inl (Or.inl rfl)) _).setCell (Or.inr (Nat.le_refl _)) _).setCell (Or.inr (Nat.le_refl _)) _).setCell (Or.inr (Nat.le_refl _)) _)

theorem meet_any (g n cap : Nat) (p s : List (LockD × Value)) (r : LockD × Value) (who : Int) (wait : Bool) (w : World) (base : Nat) (h : OwnL w base (.slice (some ⟨g, 0, none⟩) n cap) (p ++ r :: s)) (hl3 : r.1.line.length ≤ 3) :
    Calls Tryz.prog 245 #[.pointer (some ⟨g, p.length * 4, none⟩), .int .i64 who, .bool wait] w fun e w' => e = .returned (replyV (meetX r.1 who wait).2.1 (meetX r.1 who wait).2.2) ∧ ∃ lv, OwnL w' base (.slice (some ⟨g, 0, none⟩) n cap) (p ++ ((meetX r.1 who wait).1, lv) :: s) ∧ Touch w w' (OwnB g (p ++ r :: s)) := by
  by_cases hc : wait = true ∧ hasB who r.1.line = false ∧ ¬ r.1.line.length = 3
  · obtain ⟨rfl, h2, h3⟩ := hc
    have e : meetX r.1 who true = ({ r.1 with line := r.1.line ++ [who] }, 10, r.1.holder) := by simp [meetX, h2, h3]
    rw [e]
    exact meet_wait g n cap p s r who w base h h2 (by omega)
  · have e : ∃ c m, meetX r.1 who wait = (r.1, c, m) := by
      unfold meetX
      by_cases h1 : wait = true ∧ hasB who r.1.line = false
      · rw [if_pos h1]
        by_cases h3 : r.1.line.length = 3
        · exact ⟨8, 0, by rw [if_pos h3]⟩
        · exact absurd ⟨h1.1, h1.2, h3⟩ hc
      · exact ⟨10, r.1.holder, by rw [if_neg h1]⟩
    obtain ⟨c, m, e⟩ := e
    rw [e]
    refine (meet_still g n cap p s r who c m wait w base h e hc).mono ?_
    rintro e' w' ⟨rfl, hb⟩
    exact ⟨rfl, r.2, h.below hb (Nat.le_refl _), Touch.of_below hb (Nat.le_refl _) _⟩

set_option maxHeartbeats 800000 in
theorem take_any (g n cap : Nat) (p s : List (LockD × Value)) (r : LockD × Value) (who : Int) (wait : Bool) (w : World) (base : Nat) (h : OwnL w base (.slice (some ⟨g, 0, none⟩) n cap) (p ++ r :: s)) (f1 : 0 ≤ r.1.fence) (f2 : r.1.fence ≤ 1073741824) (hl3 : r.1.line.length ≤ 3) :
    Calls Tryz.prog 221 #[.pointer (some ⟨g, p.length * 4, none⟩), .int .i64 who, .bool wait] w fun e w' => e = .returned (replyV (takeX r.1 who wait).2.1 (takeX r.1 who wait).2.2) ∧ ∃ lv, OwnL w' base (.slice (some ⟨g, 0, none⟩) n cap) (p ++ ((takeX r.1 who wait).1, lv) :: s) ∧ Touch w w' (OwnB g (p ++ r :: s)) := by
  have CM := fun w (h : OwnL w base (.slice (some ⟨g, 0, none⟩) n cap) (p ++ r :: s)) => meet_any g n cap p s r who wait w base h hl3
  obtain ⟨⟨xn, xh, xf, xl⟩, lv⟩ := r
  simp only at f1 f2 hl3 CM ⊢
  have c1 := h.cellAt 1 (by omega)
  have c2 := h.cellAt 2 (by omega)
  have hfz := h.frozenAt
  simp only [lockCells, List.getElem?_cons_zero, List.getElem?_cons_succ] at c1 c2
  have hg := h.block
  have hg2 := hg.2
  have hb0 : base ≤ w.heap.size := by omega
  have hgr : g ≠ w.heap.size := by omega
  have hrg : w.heap.size ≠ g := by omega
  have HH : Hid (OwnL w base (.slice (some ⟨g, 0, none⟩) n cap) (p ++ (⟨xn, xh, xf, xl⟩, lv) :: s)) := h
  clear h
  by_cases hw : xh = who
  · have e : takeX ⟨xn, xh, xf, xl⟩ who wait = (⟨xn, xh, xf, xl⟩, 0, xf) := by simp [takeX, hw]
    rw [e]
    subst hw
    clear CM
    go_enter Tryz.func221, Tryz.ntmps221
    go_wp2
    exact bodyPost_ret (v := replyV 0 xf) (by simp [results, Tryz.results221, go_sem, replyV]) rfl ⟨rfl, lv, HH.out.below ((Below.refl _ _).alloc (Nat.le_refl _) _) (Nat.le_refl _), Touch.of_below ((Below.refl _ _).alloc (Nat.le_refl _) _) (Nat.le_refl _) _⟩
  · by_cases h0 : xh = 0
    · subst h0
      by_cases hm : xf = 1073741824
      · have e : takeX ⟨xn, 0, xf, xl⟩ who wait = (⟨xn, 0, xf, xl⟩, 8, 0) := by simp [takeX, hw, hm]
        rw [e]
        subst hm
        clear CM
        go_enter Tryz.func221, Tryz.ntmps221
        go_wp2
        exact bodyPost_ret (v := replyV 8 0) (by simp [results, Tryz.results221, go_sem, replyV]) rfl ⟨rfl, lv, HH.out.below ((Below.refl _ _).alloc (Nat.le_refl _) _) (Nat.le_refl _), Touch.of_below ((Below.refl _ _).alloc (Nat.le_refl _) _) (Nat.le_refl _) _⟩
      · have e : takeX ⟨xn, 0, xf, xl⟩ who wait = (⟨xn, who, xf + 1, xl⟩, 0, xf + 1) := by simp [takeX, hw, hm]
        rw [e]
        have HO : Hid (∀ w', Below w.heap.size w w' → OwnL ((w'.setCell ⟨g, p.length * 4 + 1, none⟩ (.int .i64 who)).setCell ⟨g, p.length * 4 + 2, none⟩ (.int .i64 (xf + 1))) base (.slice (some ⟨g, 0, none⟩) n cap) (p ++ (⟨xn, who, xf + 1, xl⟩, lv) :: s)) := fun w' hb =>
          ((HH.out.below hb (Nat.le_refl _)).setHolder who).setFence (xf + 1)
        have Q : Hid (∀ w', Below w.heap.size w w' → w'.cell? ⟨g, p.length * 4 + 1, none⟩ = some (.int .i64 0) ∧ w'.cell? ⟨g, p.length * 4 + 2, none⟩ = some (.int .i64 xf) ∧ ∀ j, w'.frozen? ⟨g, j, none⟩ = false) := fun w' hb =>
          ⟨(hb.cell (p := ⟨g, p.length * 4 + 1, none⟩) hg.2).trans c1, (hb.cell (p := ⟨g, p.length * 4 + 2, none⟩) hg.2).trans c2, fun j => (hb.frozen (p := ⟨g, j, none⟩) hg.2).trans (hfz j)⟩
        have HNB : Hid (∀ b ∈ lineBlocks (p ++ (⟨xn, who, xf + 1, xl⟩, lv) :: s), b ≠ w.heap.size) := fun b hb => by
          have := HH.out.lt.2 b (by rw [lineBlocks_mid] at hb ⊢; exact hb)
          omega
        clear CM
        have hw2 : (0 == who) = false := by simpa using hw
        have hm2 : (xf == 1073741824) = false := by simpa using hm
        go_enter Tryz.func221, Tryz.ntmps221
        go_wp2_with fail
        refine (give_any g (p.length * 4) who 0 xf _ (Q.out _ ((Below.refl _ _).alloc (Nat.le_refl _) _)).1 (Q.out _ ((Below.refl _ _).alloc (Nat.le_refl _) _)).2.1 (Q.out _ ((Below.refl _ _).alloc (Nat.le_refl _) _)).2.2 f1 f2).mono ?_
        rintro e w1 ⟨rfl, rfl⟩
        go_wp2
        have hb1 : Below ((w.setCell ⟨g, p.length * 4 + 1, none⟩ (.int .i64 who)).setCell ⟨g, p.length * 4 + 2, none⟩ (.int .i64 (xf + 1))).heap.size ((w.setCell ⟨g, p.length * 4 + 1, none⟩ (.int .i64 who)).setCell ⟨g, p.length * 4 + 2, none⟩ (.int .i64 (xf + 1))) _ := (Below.refl _ _).alloc (Nat.le_refl _) (.cells #[.int .i64 0, .int .i64 (xf + 1), .string ⟨#[]⟩] 73)
        refine bodyPost_ret (v := replyV 0 (xf + 1)) (by simp [results, Tryz.results221, go_sem, replyV]) rfl ⟨rfl, lv, (HO.out w (Below.refl _ _)).below hb1 (Nat.le_refl _), ?_⟩
        exact (((Touch.refl _ _).setCell (Or.inl (Or.inl rfl)) _).setCell (Or.inl (Or.inl rfl)) _).trans (Touch.of_below hb1 (Nat.le_refl _) (fun _ => False)) (fun _ _ h => h.elim)
    · have e : takeX ⟨xn, xh, xf, xl⟩ who wait = meetX ⟨xn, xh, xf, xl⟩ who wait := by simp [takeX, hw, h0]
      rw [e]
      obtain ⟨x', c, m, hx⟩ : ∃ x' c m, meetX ⟨xn, xh, xf, xl⟩ who wait = (x', c, m) := ⟨_, _, _, rfl⟩
      rw [hx] at CM ⊢
      clear hx e
      simp only at CM ⊢
      have h02 : (xh != 0) = true := by simpa using h0
      go_enter Tryz.func221, Tryz.ntmps221
      go_wp2_with fail
      refine (CM _ (HH.out.below ((Below.refl _ _).alloc (Nat.le_refl _) _) (Nat.le_refl _))).mono ?_
      rintro e w1 ⟨rfl, lv1, ho1, ht1⟩
      have hnb : ¬ OwnB g (p ++ (⟨xn, xh, xf, xl⟩, lv) :: s) w.heap.size := fun hb => by have := (HH.out.ownB _ hb).2; omega
      have kr : ∀ j, w1.cell? ⟨w.heap.size, j, none⟩ = (w.alloc (.cells #[.int .i64 0, .int .i64 0, .string ⟨#[]⟩] 73)).cell? ⟨w.heap.size, j, none⟩ := fun j => ht1.cell (a := ⟨w.heap.size, j, none⟩) (by simp) hnb
      have krf : ∀ j, w1.frozen? ⟨w.heap.size, j, none⟩ = (w.alloc (.cells #[.int .i64 0, .int .i64 0, .string ⟨#[]⟩] 73)).frozen? ⟨w.heap.size, j, none⟩ := fun j => ht1.frozen (a := ⟨w.heap.size, j, none⟩) (by simp) hnb
      have HNB : Hid (∀ b ∈ lineBlocks (p ++ (x', lv1) :: s), b ≠ w.heap.size) := fun b hb e => by
        subst e
        exact ho1.notLine ((ht1.block _ (by simp) hnb).trans (heap_alloc_new w _)) (by decide) hb
      have HO := Hid.mk' ho1
      have HT := Hid.mk' ht1
      clear ho1 ht1 CM
      simp only [replyV]
      go_wp2
      refine bodyPost_ret (v := replyV c m) (by simp [results, Tryz.results221, go_sem, replyV, kr]) rfl ⟨rfl, lv1, ?_, ?_⟩
      · exact ((HO.out.setOther (by simpa [Value.ownBlock] using hgr) HNB.out _).setOther (by simpa [Value.ownBlock] using hgr) HNB.out _).setOther (by simpa [Value.ownBlock] using hgr) HNB.out _
      · have ht0 : Touch w w1 (OwnB g (p ++ (⟨xn, xh, xf, xl⟩, lv) :: s)) := (Touch.of_below ((Below.refl _ _).alloc (Nat.le_refl _) _) (Nat.le_refl _) _).trans HT.out (fun _ _ h => h)
        exact ((ht0.setCell (Or.inr (Nat.le_refl _)) _).setCell (Or.inr (Nat.le_refl _)) _).setCell (Or.inr (Nat.le_refl _)) _

end Go.Proofs.YtijilhbdbeajjaaGreatDoor
