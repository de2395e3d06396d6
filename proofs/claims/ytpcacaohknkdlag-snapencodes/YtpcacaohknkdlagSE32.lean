/- package snap's writer: its methods for the parts of a state; snap.Encode: at a state that may be its bytes; else what is wrong with it (joined by program) -/
import Derived.Test.YtpcacaohknkdlagSE31
import Derived.Test.YtpcacaohknkdlagSE20
import Derived.Test.YtpcacaohknkdlagSE28
import Derived.Test.YtpcacaohknkdlagSE11
import Derived.Test.YtpcacaohknkdlagSE25
namespace Go.Proofs.Ytpcacaohknkdlag

open Go.RowKit

theorem WrC.mono {cl : Nat} {α : Type} {out : α → ByteArray} {V : World → Nat → Value → α → Prop} {ok ok' : α → Prop} (h : WrC cl out V ok) (hi : ∀ x, ok' x → ok x) : WrC cl out V ok' :=
  fun B b t ev x w hv ho => h B b t ev x w hv (hi x ho)

theorem wrNumber_c {ok : Int → Prop} (h : ∀ x, ok x → 0 ≤ x ∧ x ≤ 1099511627776) : WrC 39 numOut IntV ok := by
  intro B b t ev x w hv ho hB hw hz
  obtain rfl := hv
  exact wrNumber_any B b t x w hw (h x ho).1 (h x ho).2 (by omega)

theorem wr_number_enters : ∀ args w, (callFunc 39 args).run Try.prog w = .ok (.enter 39 args) w := enters_of Try.func39 (by decide) rfl

theorem wr_kept_enters : ∀ args w, (callFunc 72 args).run Try.prog w = .ok (.enter 72 args) w := enters_of Try.func72 (by decide) rfl

theorem wr_pair_enters : ∀ args w, (callFunc 43 args).run Try.prog w = .ok (.enter 43 args) w := enters_of Try.func43 (by decide) rfl

theorem wr_lock_enters : ∀ args w, (callFunc 41 args).run Try.prog w = .ok (.enter 41 args) w := enters_of Try.func41 (by decide) rfl

theorem wr_session_enters : ∀ args w, (callFunc 45 args).run Try.prog w = .ok (.enter 45 args) w := enters_of Try.func45 (by decide) rfl

/-- The cells of a block. -/
theorem wr_cells {w : World} {b : Nat} {cs : Array Value} {t : TypeId} (h : w.heap[b]? = some (.cells cs t (0, 0))) (j : Nat) : w.cell? ⟨b, j, none⟩ = cs[j]? := Lib.cell_of_heap h j

def okK (k : KeptD) : Prop := 0 ≤ k.seq ∧ k.seq ≤ 1099511627776 ∧ 0 ≤ k.code ∧ k.code ≤ 1099511627776 ∧ 0 ≤ k.n ∧ k.n ≤ 1099511627776 ∧ k.text.size ≤ 5000

set_option maxRecDepth 100000 in
set_option maxHeartbeats 1600000 in
theorem wr_kept : WrC 72 keptOut KeptV okK := by
  intro B b t ev x w hv hok hB hw hz
  obtain ⟨rfl, -⟩ := hv
  obtain ⟨xs0, xc, xn, xt⟩ := x
  unfold okK at hok
  simp only at hok
  have hlt := hw.lt
  obtain ⟨t1, ht1⟩ : ∃ t1, t1 = t ++ numOut xs0 := ⟨_, rfl⟩
  obtain ⟨t2, ht2⟩ : ∃ t2, t2 = t1 ++ numOut xc := ⟨_, rfl⟩
  obtain ⟨t3, ht3⟩ : ∃ t3, t3 = t2 ++ numOut xn := ⟨_, rfl⟩
  obtain ⟨t4, ht4⟩ : ∃ t4, t4 = t3 ++ textOut xt := ⟨_, rfl⟩
  have hfin : t ++ keptOut ⟨xs0, xc, xn, xt⟩ = t4 := by rw [ht4, ht3, ht2, ht1]; simp only [keptOut, ByteArray.append_assoc]
  have hz' : t4.size ≤ 1000000000 := by rw [← hfin, ByteArray.size_append]; exact hz
  have hz1 : t1.size = t.size + (numOut xs0).size := by rw [ht1, ByteArray.size_append]
  have hz2 : t2.size = t1.size + (numOut xc).size := by rw [ht2, ByteArray.size_append]
  have hz3 : t3.size = t2.size + (numOut xn).size := by rw [ht3, ByteArray.size_append]
  have hz4 : t4.size = t3.size + (textOut xt).size := by rw [ht4, ByteArray.size_append]
  rw [hfin]
  have HT0 := ghid ht1
  have HT1 := ghid ht2
  have HT2 := ghid ht3
  have HT3 := ghid ht4
  have HOK0 : Hid (0 ≤ xs0 ∧ xs0 ≤ 1099511627776) := ⟨hok.1, hok.2.1⟩
  have HOK1 : Hid (0 ≤ xc ∧ xc ≤ 1099511627776) := ⟨hok.2.2.1, hok.2.2.2.1⟩
  have HOK2 : Hid (0 ≤ xn ∧ xn ≤ 1099511627776) := ⟨hok.2.2.2.2.1, hok.2.2.2.2.2.1⟩
  have HOK3 : Hid (xt.size ≤ 5000) := hok.2.2.2.2.2.2
  clear ht1 ht2 ht3 ht4 hfin hok hz
  have hba : Below w.heap.size w (w.alloc (.cells #[.int .i64 xs0, .int .i64 xc, .int .i64 xn, .string xt] 64)) := (Below.refl _ _).alloc (Nat.le_refl _) _
  have HS0 := ghid ((WrS.refl hw).more hba hB)
  have HX0 : Hid ((w.alloc (.cells #[.int .i64 xs0, .int .i64 xc, .int .i64 xn, .string xt] 64)).heap[w.heap.size]? = some (.cells #[.int .i64 xs0, .int .i64 xc, .int .i64 xn, .string xt] 64 (0, 0))) := heap_alloc_new w _
  have c0_0 : (w.alloc (.cells #[.int .i64 xs0, .int .i64 xc, .int .i64 xn, .string xt] 64)).cell? ⟨w.heap.size, 0, none⟩ = some (.int .i64 xs0) := wr_cells HX0.out 0
  have c0_1 : (w.alloc (.cells #[.int .i64 xs0, .int .i64 xc, .int .i64 xn, .string xt] 64)).cell? ⟨w.heap.size, 1, none⟩ = some (.int .i64 xc) := wr_cells HX0.out 1
  have c0_2 : (w.alloc (.cells #[.int .i64 xs0, .int .i64 xc, .int .i64 xn, .string xt] 64)).cell? ⟨w.heap.size, 2, none⟩ = some (.int .i64 xn) := wr_cells HX0.out 2
  have c0_3 : (w.alloc (.cells #[.int .i64 xs0, .int .i64 xc, .int .i64 xn, .string xt] 64)).cell? ⟨w.heap.size, 3, none⟩ = some (.string xt) := wr_cells HX0.out 3
  have hbne : w.heap.size ≠ b := by omega
  clear hw hba
  go_enter Try.func72, Try.ntmps72
  have CW0 := ghid (wrNumber_any B b t xs0 (w.alloc (.cells #[.int .i64 xs0, .int .i64 xc, .int .i64 xn, .string xt] 64)) HS0.out.has HOK0.out.1 HOK0.out.2 (by omega))
  go_wp2_with fail
  refine CW0.out.mono ?_
  rintro e w1 ⟨rfl, hs⟩
  rw [← HT0.out] at hs
  have HS1 := ghid (HS0.out.trans hs)
  have HX1 : Hid (w1.heap[w.heap.size]? = some (.cells #[.int .i64 xs0, .int .i64 xc, .int .i64 xn, .string xt] 64 (0, 0))) := hs.row HX0.out hbne (by decide)
  clear hs CW0
  have c1_0 : w1.cell? ⟨w.heap.size, 0, none⟩ = some (.int .i64 xs0) := wr_cells HX1.out 0
  have c1_1 : w1.cell? ⟨w.heap.size, 1, none⟩ = some (.int .i64 xc) := wr_cells HX1.out 1
  have c1_2 : w1.cell? ⟨w.heap.size, 2, none⟩ = some (.int .i64 xn) := wr_cells HX1.out 2
  have c1_3 : w1.cell? ⟨w.heap.size, 3, none⟩ = some (.string xt) := wr_cells HX1.out 3
  clear c0_0 c0_1 c0_2 c0_3
  have CW1 := ghid (wrNumber_any B b t1 xc w1 HS1.out.has HOK1.out.1 HOK1.out.2 (by omega))
  go_wp2_with fail
  refine CW1.out.mono ?_
  rintro e w2 ⟨rfl, hs⟩
  rw [← HT1.out] at hs
  have HS2 := ghid (HS1.out.trans hs)
  have HX2 : Hid (w2.heap[w.heap.size]? = some (.cells #[.int .i64 xs0, .int .i64 xc, .int .i64 xn, .string xt] 64 (0, 0))) := hs.row HX1.out hbne (by decide)
  clear hs CW1
  have c2_0 : w2.cell? ⟨w.heap.size, 0, none⟩ = some (.int .i64 xs0) := wr_cells HX2.out 0
  have c2_1 : w2.cell? ⟨w.heap.size, 1, none⟩ = some (.int .i64 xc) := wr_cells HX2.out 1
  have c2_2 : w2.cell? ⟨w.heap.size, 2, none⟩ = some (.int .i64 xn) := wr_cells HX2.out 2
  have c2_3 : w2.cell? ⟨w.heap.size, 3, none⟩ = some (.string xt) := wr_cells HX2.out 3
  clear c1_0 c1_1 c1_2 c1_3
  have CW2 := ghid (wrNumber_any B b t2 xn w2 HS2.out.has HOK2.out.1 HOK2.out.2 (by omega))
  go_wp2_with fail
  refine CW2.out.mono ?_
  rintro e w3 ⟨rfl, hs⟩
  rw [← HT2.out] at hs
  have HS3 := ghid (HS2.out.trans hs)
  have HX3 : Hid (w3.heap[w.heap.size]? = some (.cells #[.int .i64 xs0, .int .i64 xc, .int .i64 xn, .string xt] 64 (0, 0))) := hs.row HX2.out hbne (by decide)
  clear hs CW2
  have c3_0 : w3.cell? ⟨w.heap.size, 0, none⟩ = some (.int .i64 xs0) := wr_cells HX3.out 0
  have c3_1 : w3.cell? ⟨w.heap.size, 1, none⟩ = some (.int .i64 xc) := wr_cells HX3.out 1
  have c3_2 : w3.cell? ⟨w.heap.size, 2, none⟩ = some (.int .i64 xn) := wr_cells HX3.out 2
  have c3_3 : w3.cell? ⟨w.heap.size, 3, none⟩ = some (.string xt) := wr_cells HX3.out 3
  clear c2_0 c2_1 c2_2 c2_3
  have CW3 := ghid (wrText_any B b t3 xt w3 HS3.out.has HOK3.out (by omega))
  go_wp2_with fail
  refine CW3.out.mono ?_
  rintro e w4 ⟨rfl, hs⟩
  rw [← HT3.out] at hs
  have HS4 := ghid (HS3.out.trans hs)
  clear hs CW3
  go_wp2
  go_end0
  exact ⟨rfl, HS4.out⟩

def okP (k : PairD) : Prop := k.name.size ≤ 5000 ∧ k.value.size ≤ 5000 ∧ 0 ≤ k.version ∧ k.version ≤ 1099511627776

set_option maxRecDepth 100000 in
set_option maxHeartbeats 1600000 in
theorem wr_pair : WrC 43 pairOut PairV okP := by
  intro B b t ev x w hv hok hB hw hz
  obtain ⟨rfl, -⟩ := hv
  obtain ⟨xn, xv, xk⟩ := x
  unfold okP at hok
  simp only at hok
  have hlt := hw.lt
  obtain ⟨t1, ht1⟩ : ∃ t1, t1 = t ++ textOut xn := ⟨_, rfl⟩
  obtain ⟨t2, ht2⟩ : ∃ t2, t2 = t1 ++ textOut xv := ⟨_, rfl⟩
  obtain ⟨t3, ht3⟩ : ∃ t3, t3 = t2 ++ numOut xk := ⟨_, rfl⟩
  have hfin : t ++ pairOut ⟨xn, xv, xk⟩ = t3 := by rw [ht3, ht2, ht1]; simp only [pairOut, ByteArray.append_assoc]
  have hz' : t3.size ≤ 1000000000 := by rw [← hfin, ByteArray.size_append]; exact hz
  have hz1 : t1.size = t.size + (textOut xn).size := by rw [ht1, ByteArray.size_append]
  have hz2 : t2.size = t1.size + (textOut xv).size := by rw [ht2, ByteArray.size_append]
  have hz3 : t3.size = t2.size + (numOut xk).size := by rw [ht3, ByteArray.size_append]
  rw [hfin]
  have HT0 := ghid ht1
  have HT1 := ghid ht2
  have HT2 := ghid ht3
  have HOK0 : Hid (xn.size ≤ 5000) := hok.1
  have HOK1 : Hid (xv.size ≤ 5000) := hok.2.1
  have HOK2 : Hid (0 ≤ xk ∧ xk ≤ 1099511627776) := ⟨hok.2.2.1, hok.2.2.2⟩
  clear ht1 ht2 ht3 hfin hok hz
  have hba : Below w.heap.size w (w.alloc (.cells #[.string xn, .string xv, .int .i64 xk] 57)) := (Below.refl _ _).alloc (Nat.le_refl _) _
  have HS0 := ghid ((WrS.refl hw).more hba hB)
  have HX0 : Hid ((w.alloc (.cells #[.string xn, .string xv, .int .i64 xk] 57)).heap[w.heap.size]? = some (.cells #[.string xn, .string xv, .int .i64 xk] 57 (0, 0))) := heap_alloc_new w _
  have c0_0 : (w.alloc (.cells #[.string xn, .string xv, .int .i64 xk] 57)).cell? ⟨w.heap.size, 0, none⟩ = some (.string xn) := wr_cells HX0.out 0
  have c0_1 : (w.alloc (.cells #[.string xn, .string xv, .int .i64 xk] 57)).cell? ⟨w.heap.size, 1, none⟩ = some (.string xv) := wr_cells HX0.out 1
  have c0_2 : (w.alloc (.cells #[.string xn, .string xv, .int .i64 xk] 57)).cell? ⟨w.heap.size, 2, none⟩ = some (.int .i64 xk) := wr_cells HX0.out 2
  have hbne : w.heap.size ≠ b := by omega
  clear hw hba
  go_enter Try.func43, Try.ntmps43
  have CW0 := ghid (wrText_any B b t xn (w.alloc (.cells #[.string xn, .string xv, .int .i64 xk] 57)) HS0.out.has HOK0.out (by omega))
  go_wp2_with fail
  refine CW0.out.mono ?_
  rintro e w1 ⟨rfl, hs⟩
  rw [← HT0.out] at hs
  have HS1 := ghid (HS0.out.trans hs)
  have HX1 : Hid (w1.heap[w.heap.size]? = some (.cells #[.string xn, .string xv, .int .i64 xk] 57 (0, 0))) := hs.row HX0.out hbne (by decide)
  clear hs CW0
  have c1_0 : w1.cell? ⟨w.heap.size, 0, none⟩ = some (.string xn) := wr_cells HX1.out 0
  have c1_1 : w1.cell? ⟨w.heap.size, 1, none⟩ = some (.string xv) := wr_cells HX1.out 1
  have c1_2 : w1.cell? ⟨w.heap.size, 2, none⟩ = some (.int .i64 xk) := wr_cells HX1.out 2
  clear c0_0 c0_1 c0_2
  have CW1 := ghid (wrText_any B b t1 xv w1 HS1.out.has HOK1.out (by omega))
  go_wp2_with fail
  refine CW1.out.mono ?_
  rintro e w2 ⟨rfl, hs⟩
  rw [← HT1.out] at hs
  have HS2 := ghid (HS1.out.trans hs)
  have HX2 : Hid (w2.heap[w.heap.size]? = some (.cells #[.string xn, .string xv, .int .i64 xk] 57 (0, 0))) := hs.row HX1.out hbne (by decide)
  clear hs CW1
  have c2_0 : w2.cell? ⟨w.heap.size, 0, none⟩ = some (.string xn) := wr_cells HX2.out 0
  have c2_1 : w2.cell? ⟨w.heap.size, 1, none⟩ = some (.string xv) := wr_cells HX2.out 1
  have c2_2 : w2.cell? ⟨w.heap.size, 2, none⟩ = some (.int .i64 xk) := wr_cells HX2.out 2
  clear c1_0 c1_1 c1_2
  have CW2 := ghid (wrNumber_any B b t2 xk w2 HS2.out.has HOK2.out.1 HOK2.out.2 (by omega))
  go_wp2_with fail
  refine CW2.out.mono ?_
  rintro e w3 ⟨rfl, hs⟩
  rw [← HT2.out] at hs
  have HS3 := ghid (HS2.out.trans hs)
  clear hs CW2
  go_wp2
  go_end0
  exact ⟨rfl, HS3.out⟩

def okL (k : LockD) : Prop := k.name.size ≤ 5000 ∧ 0 ≤ k.holder ∧ k.holder ≤ 1099511627776 ∧ 0 ≤ k.fence ∧ k.fence ≤ 1099511627776 ∧ k.line.length ≤ 1000 ∧ ∀ x ∈ k.line, 0 ≤ x ∧ x ≤ 1099511627776

set_option maxRecDepth 100000 in
set_option maxHeartbeats 1600000 in
theorem wr_lock : WrC 41 lockOut LockV okL := by
  intro B b t ev x w hv hok hB hw hz
  obtain ⟨lv, rfl, hl, -⟩ := hv
  obtain ⟨lo, lc, rfl, -⟩ := id hl
  obtain ⟨xn, xh, xf, xl⟩ := x
  unfold okL at hok
  simp only at hok hl
  have hlt := hw.lt
  obtain ⟨t1, ht1⟩ : ∃ t1, t1 = t ++ textOut xn := ⟨_, rfl⟩
  obtain ⟨t2, ht2⟩ : ∃ t2, t2 = t1 ++ numOut xh := ⟨_, rfl⟩
  obtain ⟨t3, ht3⟩ : ∃ t3, t3 = t2 ++ numOut xf := ⟨_, rfl⟩
  obtain ⟨t4, ht4⟩ : ∃ t4, t4 = t3 ++ (numOut xl.length ++ catB (xl.map numOut)) := ⟨_, rfl⟩
  have hfin : t ++ lockOut ⟨xn, xh, xf, xl⟩ = t4 := by rw [ht4, ht3, ht2, ht1]; simp only [lockOut, ByteArray.append_assoc]
  have hz' : t4.size ≤ 1000000000 := by rw [← hfin, ByteArray.size_append]; exact hz
  have hz1 : t1.size = t.size + (textOut xn).size := by rw [ht1, ByteArray.size_append]
  have hz2 : t2.size = t1.size + (numOut xh).size := by rw [ht2, ByteArray.size_append]
  have hz3 : t3.size = t2.size + (numOut xf).size := by rw [ht3, ByteArray.size_append]
  have hz4 : t4.size = t3.size + ((numOut xl.length ++ catB (xl.map numOut))).size := by rw [ht4, ByteArray.size_append]
  rw [hfin]
  have HT0 := ghid ht1
  have HT1 := ghid ht2
  have HT2 := ghid ht3
  have HT3 := ghid ht4
  have HOK0 : Hid (xn.size ≤ 5000) := hok.1
  have HOK1 : Hid (0 ≤ xh ∧ xh ≤ 1099511627776) := ⟨hok.2.1, hok.2.2.1⟩
  have HOK2 : Hid (0 ≤ xf ∧ xf ≤ 1099511627776) := ⟨hok.2.2.2.1, hok.2.2.2.2.1⟩
  have hll : xl.length ≤ 1000 := hok.2.2.2.2.2.1
  have HLC3 : Hid (∀ t u, Below B w u → WrT B b t u → t.size + (numOut xl.length ++ catB (xl.map numOut)).size ≤ 1000000000 → Calls Try.prog 70 #[.pointer (some ⟨b, 0, none⟩), .slice lo xl.length lc, .func (.func 39) #[.pointer (some ⟨b, 0, none⟩)] #[]] u fun e w' => e = .returned (.tuple #[]) ∧ WrS B b (t ++ (numOut xl.length ++ catB (xl.map numOut))) u w') := fun t u hu hwt hzt => wlistInt B b t _ xl 39 numOut u (hl.below hu (Nat.le_refl _)) (Nat.le_trans hB hu.size) hwt (by omega) hzt wr_number_enters (wrNumber_c (fun x hx => hok.2.2.2.2.2.2 x hx))
  have HZ3 : Hid (t3.size + (numOut xl.length ++ catB (xl.map numOut)).size ≤ 1000000000) := by unfold Hid; rw [← hz4]; omega
  clear ht1 ht2 ht3 ht4 hfin hok hz
  clear hl
  have hba : Below w.heap.size w (w.alloc (.cells #[.string xn, .int .i64 xh, .int .i64 xf, .slice lo xl.length lc] 55)) := (Below.refl _ _).alloc (Nat.le_refl _) _
  have HS0 := ghid ((WrS.refl hw).more hba hB)
  have HX0 : Hid ((w.alloc (.cells #[.string xn, .int .i64 xh, .int .i64 xf, .slice lo xl.length lc] 55)).heap[w.heap.size]? = some (.cells #[.string xn, .int .i64 xh, .int .i64 xf, .slice lo xl.length lc] 55 (0, 0))) := heap_alloc_new w _
  have c0_0 : (w.alloc (.cells #[.string xn, .int .i64 xh, .int .i64 xf, .slice lo xl.length lc] 55)).cell? ⟨w.heap.size, 0, none⟩ = some (.string xn) := wr_cells HX0.out 0
  have c0_1 : (w.alloc (.cells #[.string xn, .int .i64 xh, .int .i64 xf, .slice lo xl.length lc] 55)).cell? ⟨w.heap.size, 1, none⟩ = some (.int .i64 xh) := wr_cells HX0.out 1
  have c0_2 : (w.alloc (.cells #[.string xn, .int .i64 xh, .int .i64 xf, .slice lo xl.length lc] 55)).cell? ⟨w.heap.size, 2, none⟩ = some (.int .i64 xf) := wr_cells HX0.out 2
  have c0_3 : (w.alloc (.cells #[.string xn, .int .i64 xh, .int .i64 xf, .slice lo xl.length lc] 55)).cell? ⟨w.heap.size, 3, none⟩ = some (.slice lo xl.length lc) := wr_cells HX0.out 3
  have hbne : w.heap.size ≠ b := by omega
  clear hw hba
  go_enter Try.func41, Try.ntmps41
  have CW0 := ghid (wrText_any B b t xn (w.alloc (.cells #[.string xn, .int .i64 xh, .int .i64 xf, .slice lo xl.length lc] 55)) HS0.out.has HOK0.out (by omega))
  go_wp2_with fail
  refine CW0.out.mono ?_
  rintro e w1 ⟨rfl, hs⟩
  rw [← HT0.out] at hs
  have HS1 := ghid (HS0.out.trans hs)
  have HX1 : Hid (w1.heap[w.heap.size]? = some (.cells #[.string xn, .int .i64 xh, .int .i64 xf, .slice lo xl.length lc] 55 (0, 0))) := hs.row HX0.out hbne (by decide)
  clear hs CW0
  have c1_0 : w1.cell? ⟨w.heap.size, 0, none⟩ = some (.string xn) := wr_cells HX1.out 0
  have c1_1 : w1.cell? ⟨w.heap.size, 1, none⟩ = some (.int .i64 xh) := wr_cells HX1.out 1
  have c1_2 : w1.cell? ⟨w.heap.size, 2, none⟩ = some (.int .i64 xf) := wr_cells HX1.out 2
  have c1_3 : w1.cell? ⟨w.heap.size, 3, none⟩ = some (.slice lo xl.length lc) := wr_cells HX1.out 3
  clear c0_0 c0_1 c0_2 c0_3
  have CW1 := ghid (wrNumber_any B b t1 xh w1 HS1.out.has HOK1.out.1 HOK1.out.2 (by omega))
  go_wp2_with fail
  refine CW1.out.mono ?_
  rintro e w2 ⟨rfl, hs⟩
  rw [← HT1.out] at hs
  have HS2 := ghid (HS1.out.trans hs)
  have HX2 : Hid (w2.heap[w.heap.size]? = some (.cells #[.string xn, .int .i64 xh, .int .i64 xf, .slice lo xl.length lc] 55 (0, 0))) := hs.row HX1.out hbne (by decide)
  clear hs CW1
  have c2_0 : w2.cell? ⟨w.heap.size, 0, none⟩ = some (.string xn) := wr_cells HX2.out 0
  have c2_1 : w2.cell? ⟨w.heap.size, 1, none⟩ = some (.int .i64 xh) := wr_cells HX2.out 1
  have c2_2 : w2.cell? ⟨w.heap.size, 2, none⟩ = some (.int .i64 xf) := wr_cells HX2.out 2
  have c2_3 : w2.cell? ⟨w.heap.size, 3, none⟩ = some (.slice lo xl.length lc) := wr_cells HX2.out 3
  clear c1_0 c1_1 c1_2 c1_3
  have CW2 := ghid (wrNumber_any B b t2 xf w2 HS2.out.has HOK2.out.1 HOK2.out.2 (by omega))
  go_wp2_with fail
  refine CW2.out.mono ?_
  rintro e w3 ⟨rfl, hs⟩
  rw [← HT2.out] at hs
  have HS3 := ghid (HS2.out.trans hs)
  have HX3 : Hid (w3.heap[w.heap.size]? = some (.cells #[.string xn, .int .i64 xh, .int .i64 xf, .slice lo xl.length lc] 55 (0, 0))) := hs.row HX2.out hbne (by decide)
  clear hs CW2
  have c3_0 : w3.cell? ⟨w.heap.size, 0, none⟩ = some (.string xn) := wr_cells HX3.out 0
  have c3_1 : w3.cell? ⟨w.heap.size, 1, none⟩ = some (.int .i64 xh) := wr_cells HX3.out 1
  have c3_2 : w3.cell? ⟨w.heap.size, 2, none⟩ = some (.int .i64 xf) := wr_cells HX3.out 2
  have c3_3 : w3.cell? ⟨w.heap.size, 3, none⟩ = some (.slice lo xl.length lc) := wr_cells HX3.out 3
  clear c2_0 c2_1 c2_2 c2_3
  have CW3 := ghid (HLC3.out t3 w3 HS3.out.below HS3.out.has (by have := HZ3.out; omega))
  go_wp2_with fail
  refine CW3.out.mono ?_
  rintro e w4 ⟨rfl, hs⟩
  rw [← HT3.out] at hs
  have HS4 := ghid (HS3.out.trans hs)
  clear hs CW3
  go_wp2
  go_end0
  exact ⟨rfl, HS4.out⟩

def okS (k : SessD) : Prop := 0 ≤ k.client ∧ k.client ≤ 1099511627776 ∧ 0 ≤ k.id ∧ k.id ≤ 1099511627776 ∧ 0 ≤ k.acked ∧ k.acked ≤ 1099511627776 ∧ 0 ≤ k.last ∧ k.last ≤ 1099511627776 ∧ k.replies.length ≤ 1000 ∧ ∀ x ∈ k.replies, okK x

set_option maxRecDepth 100000 in
set_option maxHeartbeats 1600000 in
theorem wr_session : WrC 45 sessOut SessV okS := by
  intro B b t ev x w hv hok hB hw hz
  obtain ⟨lv, rfl, hl⟩ := hv
  obtain ⟨lo, lc, rfl, -⟩ := id hl
  obtain ⟨xc, xi, xa, xz, xl⟩ := x
  unfold okS at hok
  simp only at hok hl
  have hlt := hw.lt
  obtain ⟨t1, ht1⟩ : ∃ t1, t1 = t ++ numOut xc := ⟨_, rfl⟩
  obtain ⟨t2, ht2⟩ : ∃ t2, t2 = t1 ++ numOut xi := ⟨_, rfl⟩
  obtain ⟨t3, ht3⟩ : ∃ t3, t3 = t2 ++ numOut xa := ⟨_, rfl⟩
  obtain ⟨t4, ht4⟩ : ∃ t4, t4 = t3 ++ numOut xz := ⟨_, rfl⟩
  obtain ⟨t5, ht5⟩ : ∃ t5, t5 = t4 ++ (numOut xl.length ++ catB (xl.map keptOut)) := ⟨_, rfl⟩
  have hfin : t ++ sessOut ⟨xc, xi, xa, xz, xl⟩ = t5 := by rw [ht5, ht4, ht3, ht2, ht1]; simp only [sessOut, ByteArray.append_assoc]
  have hz' : t5.size ≤ 1000000000 := by rw [← hfin, ByteArray.size_append]; exact hz
  have hz1 : t1.size = t.size + (numOut xc).size := by rw [ht1, ByteArray.size_append]
  have hz2 : t2.size = t1.size + (numOut xi).size := by rw [ht2, ByteArray.size_append]
  have hz3 : t3.size = t2.size + (numOut xa).size := by rw [ht3, ByteArray.size_append]
  have hz4 : t4.size = t3.size + (numOut xz).size := by rw [ht4, ByteArray.size_append]
  have hz5 : t5.size = t4.size + ((numOut xl.length ++ catB (xl.map keptOut))).size := by rw [ht5, ByteArray.size_append]
  rw [hfin]
  have HT0 := ghid ht1
  have HT1 := ghid ht2
  have HT2 := ghid ht3
  have HT3 := ghid ht4
  have HT4 := ghid ht5
  have HOK0 : Hid (0 ≤ xc ∧ xc ≤ 1099511627776) := ⟨hok.1, hok.2.1⟩
  have HOK1 : Hid (0 ≤ xi ∧ xi ≤ 1099511627776) := ⟨hok.2.2.1, hok.2.2.2.1⟩
  have HOK2 : Hid (0 ≤ xa ∧ xa ≤ 1099511627776) := ⟨hok.2.2.2.2.1, hok.2.2.2.2.2.1⟩
  have HOK3 : Hid (0 ≤ xz ∧ xz ≤ 1099511627776) := ⟨hok.2.2.2.2.2.2.1, hok.2.2.2.2.2.2.2.1⟩
  have hll : xl.length ≤ 1000 := hok.2.2.2.2.2.2.2.2.1
  have HLC4 : Hid (∀ t u, Below B w u → WrT B b t u → t.size + (numOut xl.length ++ catB (xl.map keptOut)).size ≤ 1000000000 → Calls Try.prog 71 #[.pointer (some ⟨b, 0, none⟩), .slice lo xl.length lc, .func (.func 72) #[.pointer (some ⟨b, 0, none⟩)] #[]] u fun e w' => e = .returned (.tuple #[]) ∧ WrS B b (t ++ (numOut xl.length ++ catB (xl.map keptOut))) u w') := fun t u hu hwt hzt => wlistKept B b t _ xl 72 keptOut u (hl.below hu (Nat.le_refl _)) (Nat.le_trans hB hu.size) hwt (by omega) hzt wr_kept_enters (wr_kept.mono (fun x hx => hok.2.2.2.2.2.2.2.2.2 x hx))
  have HZ4 : Hid (t4.size + (numOut xl.length ++ catB (xl.map keptOut)).size ≤ 1000000000) := by unfold Hid; rw [← hz5]; omega
  clear ht1 ht2 ht3 ht4 ht5 hfin hok hz
  clear hl
  have hba : Below w.heap.size w (w.alloc (.cells #[.int .i64 xc, .int .i64 xi, .int .i64 xa, .int .i64 xz, .slice lo xl.length lc] 60)) := (Below.refl _ _).alloc (Nat.le_refl _) _
  have HS0 := ghid ((WrS.refl hw).more hba hB)
  have HX0 : Hid ((w.alloc (.cells #[.int .i64 xc, .int .i64 xi, .int .i64 xa, .int .i64 xz, .slice lo xl.length lc] 60)).heap[w.heap.size]? = some (.cells #[.int .i64 xc, .int .i64 xi, .int .i64 xa, .int .i64 xz, .slice lo xl.length lc] 60 (0, 0))) := heap_alloc_new w _
  have c0_0 : (w.alloc (.cells #[.int .i64 xc, .int .i64 xi, .int .i64 xa, .int .i64 xz, .slice lo xl.length lc] 60)).cell? ⟨w.heap.size, 0, none⟩ = some (.int .i64 xc) := wr_cells HX0.out 0
  have c0_1 : (w.alloc (.cells #[.int .i64 xc, .int .i64 xi, .int .i64 xa, .int .i64 xz, .slice lo xl.length lc] 60)).cell? ⟨w.heap.size, 1, none⟩ = some (.int .i64 xi) := wr_cells HX0.out 1
  have c0_2 : (w.alloc (.cells #[.int .i64 xc, .int .i64 xi, .int .i64 xa, .int .i64 xz, .slice lo xl.length lc] 60)).cell? ⟨w.heap.size, 2, none⟩ = some (.int .i64 xa) := wr_cells HX0.out 2
  have c0_3 : (w.alloc (.cells #[.int .i64 xc, .int .i64 xi, .int .i64 xa, .int .i64 xz, .slice lo xl.length lc] 60)).cell? ⟨w.heap.size, 3, none⟩ = some (.int .i64 xz) := wr_cells HX0.out 3
  have c0_4 : (w.alloc (.cells #[.int .i64 xc, .int .i64 xi, .int .i64 xa, .int .i64 xz, .slice lo xl.length lc] 60)).cell? ⟨w.heap.size, 4, none⟩ = some (.slice lo xl.length lc) := wr_cells HX0.out 4
  have hbne : w.heap.size ≠ b := by omega
  clear hw hba
  go_enter Try.func45, Try.ntmps45
  have CW0 := ghid (wrNumber_any B b t xc (w.alloc (.cells #[.int .i64 xc, .int .i64 xi, .int .i64 xa, .int .i64 xz, .slice lo xl.length lc] 60)) HS0.out.has HOK0.out.1 HOK0.out.2 (by omega))
  go_wp2_with fail
  refine CW0.out.mono ?_
  rintro e w1 ⟨rfl, hs⟩
  rw [← HT0.out] at hs
  have HS1 := ghid (HS0.out.trans hs)
  have HX1 : Hid (w1.heap[w.heap.size]? = some (.cells #[.int .i64 xc, .int .i64 xi, .int .i64 xa, .int .i64 xz, .slice lo xl.length lc] 60 (0, 0))) := hs.row HX0.out hbne (by decide)
  clear hs CW0
  have c1_0 : w1.cell? ⟨w.heap.size, 0, none⟩ = some (.int .i64 xc) := wr_cells HX1.out 0
  have c1_1 : w1.cell? ⟨w.heap.size, 1, none⟩ = some (.int .i64 xi) := wr_cells HX1.out 1
  have c1_2 : w1.cell? ⟨w.heap.size, 2, none⟩ = some (.int .i64 xa) := wr_cells HX1.out 2
  have c1_3 : w1.cell? ⟨w.heap.size, 3, none⟩ = some (.int .i64 xz) := wr_cells HX1.out 3
  have c1_4 : w1.cell? ⟨w.heap.size, 4, none⟩ = some (.slice lo xl.length lc) := wr_cells HX1.out 4
  clear c0_0 c0_1 c0_2 c0_3 c0_4
  have CW1 := ghid (wrNumber_any B b t1 xi w1 HS1.out.has HOK1.out.1 HOK1.out.2 (by omega))
  go_wp2_with fail
  refine CW1.out.mono ?_
  rintro e w2 ⟨rfl, hs⟩
  rw [← HT1.out] at hs
  have HS2 := ghid (HS1.out.trans hs)
  have HX2 : Hid (w2.heap[w.heap.size]? = some (.cells #[.int .i64 xc, .int .i64 xi, .int .i64 xa, .int .i64 xz, .slice lo xl.length lc] 60 (0, 0))) := hs.row HX1.out hbne (by decide)
  clear hs CW1
  have c2_0 : w2.cell? ⟨w.heap.size, 0, none⟩ = some (.int .i64 xc) := wr_cells HX2.out 0
  have c2_1 : w2.cell? ⟨w.heap.size, 1, none⟩ = some (.int .i64 xi) := wr_cells HX2.out 1
  have c2_2 : w2.cell? ⟨w.heap.size, 2, none⟩ = some (.int .i64 xa) := wr_cells HX2.out 2
  have c2_3 : w2.cell? ⟨w.heap.size, 3, none⟩ = some (.int .i64 xz) := wr_cells HX2.out 3
  have c2_4 : w2.cell? ⟨w.heap.size, 4, none⟩ = some (.slice lo xl.length lc) := wr_cells HX2.out 4
  clear c1_0 c1_1 c1_2 c1_3 c1_4
  have CW2 := ghid (wrNumber_any B b t2 xa w2 HS2.out.has HOK2.out.1 HOK2.out.2 (by omega))
  go_wp2_with fail
  refine CW2.out.mono ?_
  rintro e w3 ⟨rfl, hs⟩
  rw [← HT2.out] at hs
  have HS3 := ghid (HS2.out.trans hs)
  have HX3 : Hid (w3.heap[w.heap.size]? = some (.cells #[.int .i64 xc, .int .i64 xi, .int .i64 xa, .int .i64 xz, .slice lo xl.length lc] 60 (0, 0))) := hs.row HX2.out hbne (by decide)
  clear hs CW2
  have c3_0 : w3.cell? ⟨w.heap.size, 0, none⟩ = some (.int .i64 xc) := wr_cells HX3.out 0
  have c3_1 : w3.cell? ⟨w.heap.size, 1, none⟩ = some (.int .i64 xi) := wr_cells HX3.out 1
  have c3_2 : w3.cell? ⟨w.heap.size, 2, none⟩ = some (.int .i64 xa) := wr_cells HX3.out 2
  have c3_3 : w3.cell? ⟨w.heap.size, 3, none⟩ = some (.int .i64 xz) := wr_cells HX3.out 3
  have c3_4 : w3.cell? ⟨w.heap.size, 4, none⟩ = some (.slice lo xl.length lc) := wr_cells HX3.out 4
  clear c2_0 c2_1 c2_2 c2_3 c2_4
  have CW3 := ghid (wrNumber_any B b t3 xz w3 HS3.out.has HOK3.out.1 HOK3.out.2 (by omega))
  go_wp2_with fail
  refine CW3.out.mono ?_
  rintro e w4 ⟨rfl, hs⟩
  rw [← HT3.out] at hs
  have HS4 := ghid (HS3.out.trans hs)
  have HX4 : Hid (w4.heap[w.heap.size]? = some (.cells #[.int .i64 xc, .int .i64 xi, .int .i64 xa, .int .i64 xz, .slice lo xl.length lc] 60 (0, 0))) := hs.row HX3.out hbne (by decide)
  clear hs CW3
  have c4_0 : w4.cell? ⟨w.heap.size, 0, none⟩ = some (.int .i64 xc) := wr_cells HX4.out 0
  have c4_1 : w4.cell? ⟨w.heap.size, 1, none⟩ = some (.int .i64 xi) := wr_cells HX4.out 1
  have c4_2 : w4.cell? ⟨w.heap.size, 2, none⟩ = some (.int .i64 xa) := wr_cells HX4.out 2
  have c4_3 : w4.cell? ⟨w.heap.size, 3, none⟩ = some (.int .i64 xz) := wr_cells HX4.out 3
  have c4_4 : w4.cell? ⟨w.heap.size, 4, none⟩ = some (.slice lo xl.length lc) := wr_cells HX4.out 4
  clear c3_0 c3_1 c3_2 c3_3 c3_4
  have CW4 := ghid (HLC4.out t4 w4 HS4.out.below HS4.out.has (by have := HZ4.out; omega))
  go_wp2_with fail
  refine CW4.out.mono ?_
  rintro e w5 ⟨rfl, hs⟩
  rw [← HT4.out] at hs
  have HS5 := ghid (HS4.out.trans hs)
  clear hs CW4
  go_wp2
  go_end0
  exact ⟨rfl, HS5.out⟩

end Go.Proofs.Ytpcacaohknkdlag

namespace Go.Proofs.Ytpcacaohknkdlag

open Go.RowKit

theorem okL_of {k : LockD} (h : LockOk k) (h1 : 1 ≤ k.fence) (h2 : k.fence ≤ 1073741824) : okL k := by
  have hn := (nameB_yes h.name).2.1
  have hl := h.line.len
  have h3 := h.low
  have h4 := h.high
  refine ⟨by omega, by omega, by omega, by omega, by omega, by omega, fun x hx => ?_⟩
  have := h.line.each x hx
  omega

theorem okP_of {p : PairD} (h : nameB p.name = true ∧ p.value.size ≤ 12 ∧ 1 ≤ p.version ∧ p.version ≤ 1073741824) : okP p := by
  have hn := (nameB_yes h.1).2.1
  exact ⟨by omega, by omega, by omega, by omega⟩

theorem okS_of {i : Int} {x : SessD} (hi : i ≤ 1073741824) (h : Fine i x) : okS x := by
  have hr := rangeB_iff.1 h.range
  have hl := sformB_len h.form
  have hm := formFrom_mem h.form
  refine ⟨by omega, by omega, by omega, by omega, by omega, by omega, by omega, by omega, by omega, fun k hk => ?_⟩
  have h1 := hm k hk
  have h2 := replyB_iff.1 h1.2.2
  exact ⟨by omega, by omega, by omega, by omega, by omega, by omega, by omega⟩

set_option maxRecDepth 100000 in
set_option maxHeartbeats 3200000 in
theorem wr_state (B b : Nat) (t : ByteArray) (v : Value) (s : StateD) (w : World) (hv : StateR w B v s) (hg : GoodM s) (hB : B ≤ w.heap.size) (hw : WrT B b t w) (hz : t.size ≤ 1000000) :
    Calls Try.prog 19 #[.pointer (some ⟨b, 0, none⟩), v] w fun e w' => e = .returned (.tuple #[]) ∧ WrS B b (t ++ snapBody s) w w' := by
  have hle := snapBody_le hg
  have hi0 := hg.sess.low
  have hi1 := hg.sess.high
  have hl1 := hg.locks.len
  have hl2 := hg.pairs.len
  have hl3 := hg.sess.len
  have hok1 : ∀ k ∈ s.locks, okL k := fun k hk => okL_of (hg.locks.each k hk).1 (hg.locks.each k hk).2.1 (hg.locks.each k hk).2.2
  have hok2 : ∀ k ∈ s.pairs, okP k := fun k hk => okP_of (hg.pairs.each k hk)
  have hok3 : ∀ k ∈ s.sess, okS k := fun k hk => okS_of hi1 (hg.sess.fine k hk)
  obtain ⟨lv, pv, sv, rfl, h1, h2, h3⟩ := hv
  obtain ⟨lo, lc, rfl, -⟩ := id h1
  obtain ⟨po, pc, rfl, -⟩ := id h2
  obtain ⟨so, sc, rfl, -⟩ := id h3
  obtain ⟨si, sl, sp, ss⟩ := s
  simp only at h1 h2 h3 hi0 hi1 hl1 hl2 hl3 hok1 hok2 hok3
  have hlt := hw.lt
  obtain ⟨t1, ht1⟩ : ∃ t1, t1 = t ++ numOut si := ⟨_, rfl⟩
  obtain ⟨t2, ht2⟩ : ∃ t2, t2 = t1 ++ (numOut sl.length ++ catB (sl.map lockOut)) := ⟨_, rfl⟩
  obtain ⟨t3, ht3⟩ : ∃ t3, t3 = t2 ++ (numOut sp.length ++ catB (sp.map pairOut)) := ⟨_, rfl⟩
  obtain ⟨t4, ht4⟩ : ∃ t4, t4 = t3 ++ (numOut ss.length ++ catB (ss.map sessOut)) := ⟨_, rfl⟩
  have hfin : t ++ snapBody ⟨si, sl, sp, ss⟩ = t4 := by rw [ht4, ht3, ht2, ht1]; simp only [snapBody, ByteArray.append_assoc]
  have hz' : t4.size ≤ 1000000000 := by rw [← hfin, ByteArray.size_append]; omega
  have hz1 : t1.size = t.size + (numOut si).size := by rw [ht1, ByteArray.size_append]
  have hz2 : t2.size = t1.size + (numOut sl.length ++ catB (sl.map lockOut)).size := by rw [ht2, ByteArray.size_append]
  have hz3 : t3.size = t2.size + (numOut sp.length ++ catB (sp.map pairOut)).size := by rw [ht3, ByteArray.size_append]
  have hz4 : t4.size = t3.size + (numOut ss.length ++ catB (ss.map sessOut)).size := by rw [ht4, ByteArray.size_append]
  rw [hfin]
  have HT0 := ghid ht1
  have HT1 := ghid ht2
  have HT2 := ghid ht3
  have HT3 := ghid ht4
  have HLC1 : Hid (∀ t u, Below B w u → WrT B b t u → t.size + (numOut sl.length ++ catB (sl.map lockOut)).size ≤ 1000000000 → Calls Try.prog 40 #[.pointer (some ⟨b, 0, none⟩), .slice lo sl.length lc, .func (.func 41) #[.pointer (some ⟨b, 0, none⟩)] #[]] u fun e w' => e = .returned (.tuple #[]) ∧ WrS B b (t ++ (numOut sl.length ++ catB (sl.map lockOut))) u w') := fun t u hu hwt hzt => wlistLock B b t _ sl 41 lockOut u (h1.below hu (Nat.le_refl _)) (Nat.le_trans hB hu.size) hwt (by omega) hzt wr_lock_enters (wr_lock.mono hok1)
  have HZ1 : Hid (t1.size + (numOut sl.length ++ catB (sl.map lockOut)).size ≤ 1000000000) := by unfold Hid; rw [← hz2]; omega
  have HLC2 : Hid (∀ t u, Below B w u → WrT B b t u → t.size + (numOut sp.length ++ catB (sp.map pairOut)).size ≤ 1000000000 → Calls Try.prog 42 #[.pointer (some ⟨b, 0, none⟩), .slice po sp.length pc, .func (.func 43) #[.pointer (some ⟨b, 0, none⟩)] #[]] u fun e w' => e = .returned (.tuple #[]) ∧ WrS B b (t ++ (numOut sp.length ++ catB (sp.map pairOut))) u w') := fun t u hu hwt hzt => wlistPair B b t _ sp 43 pairOut u (h2.below hu (Nat.le_refl _)) (Nat.le_trans hB hu.size) hwt (by omega) hzt wr_pair_enters (wr_pair.mono hok2)
  have HZ2 : Hid (t2.size + (numOut sp.length ++ catB (sp.map pairOut)).size ≤ 1000000000) := by unfold Hid; rw [← hz3]; omega
  have HLC3 : Hid (∀ t u, Below B w u → WrT B b t u → t.size + (numOut ss.length ++ catB (ss.map sessOut)).size ≤ 1000000000 → Calls Try.prog 44 #[.pointer (some ⟨b, 0, none⟩), .slice so ss.length sc, .func (.func 45) #[.pointer (some ⟨b, 0, none⟩)] #[]] u fun e w' => e = .returned (.tuple #[]) ∧ WrS B b (t ++ (numOut ss.length ++ catB (ss.map sessOut))) u w') := fun t u hu hwt hzt => wlistSess B b t _ ss 45 sessOut u (h3.below hu (Nat.le_refl _)) (Nat.le_trans hB hu.size) hwt (by omega) hzt wr_session_enters (wr_session.mono hok3)
  have HZ3 : Hid (t3.size + (numOut ss.length ++ catB (ss.map sessOut)).size ≤ 1000000000) := by unfold Hid; rw [← hz4]; omega
  have HOK0 : Hid (0 ≤ si ∧ si ≤ 1099511627776) := ⟨hi0, by omega⟩
  clear ht1 ht2 ht3 ht4 hfin hok1 hok2 hok3 h1 h2 h3 hg hle hz2 hz3 hz4
  have hba : Below w.heap.size w (w.alloc (.cells #[.int .i64 si, .slice lo sl.length lc, .slice po sp.length pc, .slice so ss.length sc] 26)) := (Below.refl _ _).alloc (Nat.le_refl _) _
  have HS0 := ghid ((WrS.refl hw).more hba hB)
  have HX0 : Hid ((w.alloc (.cells #[.int .i64 si, .slice lo sl.length lc, .slice po sp.length pc, .slice so ss.length sc] 26)).heap[w.heap.size]? = some (.cells #[.int .i64 si, .slice lo sl.length lc, .slice po sp.length pc, .slice so ss.length sc] 26 (0, 0))) := heap_alloc_new w _
  have c0_0 : (w.alloc (.cells #[.int .i64 si, .slice lo sl.length lc, .slice po sp.length pc, .slice so ss.length sc] 26)).cell? ⟨w.heap.size, 0, none⟩ = some (.int .i64 si) := wr_cells HX0.out 0
  have c0_1 : (w.alloc (.cells #[.int .i64 si, .slice lo sl.length lc, .slice po sp.length pc, .slice so ss.length sc] 26)).cell? ⟨w.heap.size, 1, none⟩ = some (.slice lo sl.length lc) := wr_cells HX0.out 1
  have c0_2 : (w.alloc (.cells #[.int .i64 si, .slice lo sl.length lc, .slice po sp.length pc, .slice so ss.length sc] 26)).cell? ⟨w.heap.size, 2, none⟩ = some (.slice po sp.length pc) := wr_cells HX0.out 2
  have c0_3 : (w.alloc (.cells #[.int .i64 si, .slice lo sl.length lc, .slice po sp.length pc, .slice so ss.length sc] 26)).cell? ⟨w.heap.size, 3, none⟩ = some (.slice so ss.length sc) := wr_cells HX0.out 3
  have hbne : w.heap.size ≠ b := by omega
  clear hw hba
  go_enter Try.func19, Try.ntmps19
  have CW0 := ghid (wrNumber_any B b t si (w.alloc (.cells #[.int .i64 si, .slice lo sl.length lc, .slice po sp.length pc, .slice so ss.length sc] 26)) HS0.out.has HOK0.out.1 HOK0.out.2 (by omega))
  go_wp2_with fail
  refine CW0.out.mono ?_
  rintro e w1 ⟨rfl, hs⟩
  rw [← HT0.out] at hs
  have HS1 := ghid (HS0.out.trans hs)
  have HX1 : Hid (w1.heap[w.heap.size]? = some (.cells #[.int .i64 si, .slice lo sl.length lc, .slice po sp.length pc, .slice so ss.length sc] 26 (0, 0))) := hs.row HX0.out hbne (by decide)
  clear hs CW0
  have c1_0 : w1.cell? ⟨w.heap.size, 0, none⟩ = some (.int .i64 si) := wr_cells HX1.out 0
  have c1_1 : w1.cell? ⟨w.heap.size, 1, none⟩ = some (.slice lo sl.length lc) := wr_cells HX1.out 1
  have c1_2 : w1.cell? ⟨w.heap.size, 2, none⟩ = some (.slice po sp.length pc) := wr_cells HX1.out 2
  have c1_3 : w1.cell? ⟨w.heap.size, 3, none⟩ = some (.slice so ss.length sc) := wr_cells HX1.out 3
  clear c0_0 c0_1 c0_2 c0_3
  have CW1 := ghid (HLC1.out t1 w1 HS1.out.below HS1.out.has HZ1.out)
  go_wp2_with fail
  refine CW1.out.mono ?_
  rintro e w2 ⟨rfl, hs⟩
  rw [← HT1.out] at hs
  have HS2 := ghid (HS1.out.trans hs)
  have HX2 : Hid (w2.heap[w.heap.size]? = some (.cells #[.int .i64 si, .slice lo sl.length lc, .slice po sp.length pc, .slice so ss.length sc] 26 (0, 0))) := hs.row HX1.out hbne (by decide)
  clear hs CW1
  have c2_0 : w2.cell? ⟨w.heap.size, 0, none⟩ = some (.int .i64 si) := wr_cells HX2.out 0
  have c2_1 : w2.cell? ⟨w.heap.size, 1, none⟩ = some (.slice lo sl.length lc) := wr_cells HX2.out 1
  have c2_2 : w2.cell? ⟨w.heap.size, 2, none⟩ = some (.slice po sp.length pc) := wr_cells HX2.out 2
  have c2_3 : w2.cell? ⟨w.heap.size, 3, none⟩ = some (.slice so ss.length sc) := wr_cells HX2.out 3
  clear c1_0 c1_1 c1_2 c1_3
  have CW2 := ghid (HLC2.out t2 w2 HS2.out.below HS2.out.has HZ2.out)
  go_wp2_with fail
  refine CW2.out.mono ?_
  rintro e w3 ⟨rfl, hs⟩
  rw [← HT2.out] at hs
  have HS3 := ghid (HS2.out.trans hs)
  have HX3 : Hid (w3.heap[w.heap.size]? = some (.cells #[.int .i64 si, .slice lo sl.length lc, .slice po sp.length pc, .slice so ss.length sc] 26 (0, 0))) := hs.row HX2.out hbne (by decide)
  clear hs CW2
  have c3_0 : w3.cell? ⟨w.heap.size, 0, none⟩ = some (.int .i64 si) := wr_cells HX3.out 0
  have c3_1 : w3.cell? ⟨w.heap.size, 1, none⟩ = some (.slice lo sl.length lc) := wr_cells HX3.out 1
  have c3_2 : w3.cell? ⟨w.heap.size, 2, none⟩ = some (.slice po sp.length pc) := wr_cells HX3.out 2
  have c3_3 : w3.cell? ⟨w.heap.size, 3, none⟩ = some (.slice so ss.length sc) := wr_cells HX3.out 3
  clear c2_0 c2_1 c2_2 c2_3
  have CW3 := ghid (HLC3.out t3 w3 HS3.out.below HS3.out.has HZ3.out)
  go_wp2_with fail
  refine CW3.out.mono ?_
  rintro e w4 ⟨rfl, hs⟩
  rw [← HT3.out] at hs
  have HS4 := ghid (HS3.out.trans hs)
  clear hs CW3
  go_wp2
  go_end0
  exact ⟨rfl, HS4.out⟩

set_option maxRecDepth 100000 in
set_option maxHeartbeats 1600000 in
theorem encode_bad_s (v : Value) (s : StateD) (w : World) (B : Nat) (hv : StateR w B v s) (hB : B ≤ w.heap.size) (hr : checkM s ≠ 0) :
    Calls Try.prog 8 #[v] w fun e w' => e = .returned (.tuple #[.string ⟨#[]⟩, .int .i64 (checkM s)]) ∧ Below w.heap.size w w' := by
  obtain ⟨lv, pv, sv, rfl, hl, hp, hs⟩ := id hv
  obtain ⟨lo, lc, rfl, -⟩ := id hl
  obtain ⟨po, pc, rfl, -⟩ := id hp
  obtain ⟨so, sc, rfl, -⟩ := id hs
  have hb0 : Below w.heap.size w (w.alloc (.cells #[.int .i64 s.index, .slice lo s.locks.length lc, .slice po s.pairs.length pc, .slice so s.sess.length sc] 26)) := (Below.refl _ _).alloc (Nat.le_refl _) _
  have CF := ghid (machCheck_any _ s _ B (hv.below hb0 hB) (by have := hb0.size; omega))
  have HB0 := ghid hb0
  obtain ⟨c, hc⟩ : ∃ c, c = checkM s := ⟨_, rfl⟩
  rw [← hc] at CF hr ⊢
  have hrn : (c == 0) = false := by simpa using hr
  clear hv hl hp hs hb0 hc
  go_enter Try.func8, Try.ntmps8
  go_wp2_with fail
  refine CF.out.mono ?_
  rintro e w1 ⟨rfl, hb1⟩
  have HF := ghid (HB0.out.trans (hb1.mono HB0.out.size))
  clear hb1 CF
  go_wp2
  go_ret2
  exact ⟨rfl, HF.out⟩

set_option maxRecDepth 100000 in
set_option maxHeartbeats 1600000 in
theorem encode_ok_s (v : Value) (s : StateD) (w : World) (B : Nat) (hv : StateR w B v s) (hB : B ≤ w.heap.size) (hr : checkM s = 0) :
    Calls Try.prog 8 #[v] w fun e w' => e = .returned (.tuple #[.string (snapOut s), .int .i64 0]) ∧ Below w.heap.size w w' := by
  have hg := GoodM.of hr
  have hle := snapBody_le hg
  have HNE : Hid (snapBody s ≠ ⟨#[]⟩) := by
    unfold Hid
    intro e
    have h1 : (snapBody s).size = 0 := by rw [e]; rfl
    have h2 := (encN_length s.index).1
    have h3 := strOfNums_size (encN s.index)
    have h4 : (numOut s.index).size = (encN s.index).length := h3
    unfold snapBody at h1
    rw [ByteArray.size_append] at h1
    omega
  obtain ⟨lv, pv, sv, rfl, hl, hp, hs⟩ := id hv
  obtain ⟨lo, lc, rfl, -⟩ := id hl
  obtain ⟨po, pc, rfl, -⟩ := id hp
  obtain ⟨so, sc, rfl, -⟩ := id hs
  have hb0 : Below w.heap.size w (w.alloc (.cells #[.int .i64 s.index, .slice lo s.locks.length lc, .slice po s.pairs.length pc, .slice so s.sess.length sc] 26)) := (Below.refl _ _).alloc (Nat.le_refl _) _
  have HX0 : Hid ((w.alloc (.cells #[.int .i64 s.index, .slice lo s.locks.length lc, .slice po s.pairs.length pc, .slice so s.sess.length sc] 26)).heap[w.heap.size]? = some (.cells #[.int .i64 s.index, .slice lo s.locks.length lc, .slice po s.pairs.length pc, .slice so s.sess.length sc] 26 (0, 0))) := heap_alloc_new w _
  have hz0 : (w.alloc (.cells #[.int .i64 s.index, .slice lo s.locks.length lc, .slice po s.pairs.length pc, .slice so s.sess.length sc] 26)).heap.size = w.heap.size + 1 := by simp
  have CF := ghid (machCheck_any _ s _ B (hv.below hb0 hB) (by have := hb0.size; omega))
  rw [hr] at CF
  have HV := ghid hv
  have HG := ghid hg
  have HB0 := ghid hb0
  clear hv hl hp hs hb0 hg
  go_enter Try.func8, Try.ntmps8
  go_wp2_with fail
  refine CF.out.mono ?_
  rintro e w1 ⟨rfl, hb1⟩
  have hz1 : w.heap.size + 1 ≤ w1.heap.size := by have := hb1.size; omega
  have HX1 : Hid (w1.heap[w.heap.size]? = _) := (hb1.block _ (by omega)).trans HX0.out
  have HB1 := ghid (HB0.out.trans (hb1.mono HB0.out.size))
  have hba : Below w1.heap.size w1 (w1.alloc (.cells #[.pointer none, .slice none 0 0] 48)) := (Below.refl _ _).alloc (Nat.le_refl _) _
  have HW1 : Hid (WrT w1.heap.size w1.heap.size ⟨#[]⟩ (w1.alloc (.cells #[.pointer none, .slice none 0 0] 48))) := Lib.IsBuilderF.of (Lib.fresh_isBuilder 48 5 w1)
  have HX2 : Hid ((w1.alloc (.cells #[.pointer none, .slice none 0 0] 48)).heap[w.heap.size]? = _) := (hba.block _ (by omega)).trans HX1.out
  have HB2 := ghid (HB1.out.trans (hba.mono (by omega)))
  obtain ⟨c0, c1, c2, c3, cf, -⟩ := state_cells HX2.out
  have CS := ghid (wr_state w1.heap.size w1.heap.size ⟨#[]⟩ _ s (w1.alloc (.cells #[.pointer none, .slice none 0 0] 48)) ((HV.out.below HB2.out hB).mono (by omega)) HG.out (by simp) HW1.out (by decide))
  rw [nilB] at CS
  clear hb1 CF hba
  go_wp2_with fail
  refine CS.out.mono ?_
  rintro e w2 ⟨rfl, hs2⟩
  have HB3 := ghid (HB2.out.trans (hs2.below.mono (by omega)))
  have hz2 : w1.heap.size < w2.heap.size := hs2.has.lt.2
  have CT := ghid (wrString_any w1.heap.size w1.heap.size _ w2 hs2.has (by intro e; exact HNE.out (bytes_ext (by rw [e]))))
  have hbe : (⟨(snapBody s).data.toList.toArray⟩ : ByteArray) = snapBody s := bytes_ext rfl
  rw [hbe] at CT
  have CSL := ghid (fun u => seal_any (snapBody s) u (by unfold maxLen; omega))
  have hsz : (sealOut (snapBody s)).size = 4 := sealOut_size _
  have HOUT : Hid (snapBody s ++ sealOut (snapBody s) = snapOut s) := rfl
  obtain ⟨body, hbody⟩ : ∃ body, body = snapBody s := ⟨_, rfl⟩
  rw [← hbody] at CT CSL hsz HOUT hle
  obtain ⟨sl, hsl⟩ : ∃ sl, sl = sealOut body := ⟨_, rfl⟩
  rw [← hsl] at CSL hsz HOUT
  have hadd : ¬ 9223372036854775807 < body.size + sl.size := by omega
  clear hs2 CS hbe hbody hsl
  go_wp2_with fail
  refine CT.out.mono ?_
  rintro e w3 ⟨rfl, hb3, -⟩
  have HB4 := ghid (HB3.out.trans (hb3.mono (by omega)))
  clear hb3 CT
  go_wp2_with fail
  refine (CSL.out _).mono ?_
  rintro e w4 ⟨rfl, hb4⟩
  have HB5 := ghid (HB4.out.trans (hb4.mono HB4.out.size))
  clear hb4
  go_wp2
  go_ret2
  exact ⟨by rw [HOUT.out]; rfl, HB5.out⟩

end Go.Proofs.Ytpcacaohknkdlag
