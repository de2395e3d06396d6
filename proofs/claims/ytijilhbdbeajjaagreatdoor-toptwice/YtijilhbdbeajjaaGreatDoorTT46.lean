/- package snap's writer: its methods for the parts of a state; snap.Encode: at a state that may be its bytes; else what is wrong with it; replica.Compact, at a replica that may be; replica.Restart, at a replica that may be; cluster.compact, cluster.crash. (Written by gen_cluscomp.py.); cluster.lead; Small functions of package customer: within, isClient, known, copyOp; customer.checkWaits, customer.Check; customer.known, customer.Hello; customer.known: what a client knows; customer.Request. (Written by gen_req.py.); cluster.tellLeader, cluster.enter, cluster.send. (Written by gen_clustell.py.) (joined by program) -/
import Derived.Deep.RegionWith
import Derived.Deep.QuietTactic
import Derived.BigQuiet
import Derived.Deep.RegionHeld3
import Derived.Deep.DeepCutAuto
import Derived.Test.YtijilhbdbeajjaaGreatDoorTT45
import Derived.Test.YtijilhbdbeajjaaGreatDoorTT09
import Derived.Test.YtijilhbdbeajjaaGreatDoorTT41
import Derived.Test.YtijilhbdbeajjaaGreatDoorTT02
import Derived.Test.YtijilhbdbeajjaaGreatDoorTT00
import Derived.Test.YtijilhbdbeajjaaGreatDoorTT44
import Derived.Test.YtijilhbdbeajjaaGreatDoorTT34
import Derived.Test.YtijilhbdbeajjaaGreatDoorTT39
import Derived.Test.YtijilhbdbeajjaaGreatDoorTT40
namespace Go.Proofs.YtijilhbdbeajjaaGreatDoor

open Go.RowKit

theorem WrC.mono {cl : Nat} {α : Type} {out : α → ByteArray} {V : World → Nat → Value → α → Prop} {ok ok' : α → Prop} (h : WrC cl out V ok) (hi : ∀ x, ok' x → ok x) : WrC cl out V ok' :=
  fun B b t ev x w hv ho => h B b t ev x w hv (hi x ho)

theorem wrNumber_c {ok : Int → Prop} (h : ∀ x, ok x → 0 ≤ x ∧ x ≤ 1099511627776) : WrC 120 numOut IntV ok := by
  intro B b t ev x w hv ho hB hw hz
  obtain rfl := hv
  exact wrNumber_any B b t x w hw (h x ho).1 (h x ho).2 (by omega)

theorem wr_number_enters : ∀ args w, (callFunc 120 args).run Tryz.prog w = .ok (.enter 120 args) w := enters_of Tryz.func120 (by decide) rfl

theorem wr_kept_enters : ∀ args w, (callFunc 174 args).run Tryz.prog w = .ok (.enter 174 args) w := enters_of Tryz.func174 (by decide) rfl

theorem wr_pair_enters : ∀ args w, (callFunc 124 args).run Tryz.prog w = .ok (.enter 124 args) w := enters_of Tryz.func124 (by decide) rfl

theorem wr_lock_enters : ∀ args w, (callFunc 122 args).run Tryz.prog w = .ok (.enter 122 args) w := enters_of Tryz.func122 (by decide) rfl

theorem wr_session_enters : ∀ args w, (callFunc 126 args).run Tryz.prog w = .ok (.enter 126 args) w := enters_of Tryz.func126 (by decide) rfl

/-- The cells of a block. -/
theorem wr_cells {w : World} {b : Nat} {cs : Array Value} {t : TypeId} (h : w.heap[b]? = some (.cells cs t (0, 0))) (j : Nat) : w.cell? ⟨b, j, none⟩ = cs[j]? := Lib.cell_of_heap h j

def okK (k : KeptD) : Prop := 0 ≤ k.seq ∧ k.seq ≤ 1099511627776 ∧ 0 ≤ k.code ∧ k.code ≤ 1099511627776 ∧ 0 ≤ k.n ∧ k.n ≤ 1099511627776 ∧ k.text.size ≤ 5000

set_option maxRecDepth 100000 in
set_option maxHeartbeats 1600000 in
theorem wr_kept : WrC 174 keptOut KeptV okK := by
  intro B b t ev x w hv hok hB hw hz
  obtain ⟨rfl, -⟩ := hv
  obtain ⟨xs0, xc, xn, xt⟩ := x
  unfold okK at hok
  simp only at hok
  have hlt := hw.lt
  obtain ⟨t1, ht1⟩ : ∃ t1, t1 = t ++ numOut xs0 := ⟨_, rfl⟩
  obtain ⟨t2, ht2⟩ : ∃ t2, t2 = t1 ++ numOut xc := ⟨_, rfl⟩
  obtain ⟨t3, ht3⟩ : ∃ t3, t3 = t2 ++ numOut xn := ⟨_, rfl⟩
  obtain ⟨t4, ht4⟩ : ∃ t4, t4 = t3 ++ textOut xt := ⟨_, rfl⟩
  have hfin : t ++ keptOut ⟨xs0, xc, xn, xt⟩ = t4 := by rw [ht4, ht3, ht2, ht1]; simp only [keptOut, ByteArray.append_assoc]
  have hz' : t4.size ≤ 1000000000 := by rw [← hfin, ByteArray.size_append]; exact hz
  have hz1 : t1.size = t.size + (numOut xs0).size := by rw [ht1, ByteArray.size_append]
  have hz2 : t2.size = t1.size + (numOut xc).size := by rw [ht2, ByteArray.size_append]
  have hz3 : t3.size = t2.size + (numOut xn).size := by rw [ht3, ByteArray.size_append]
  have hz4 : t4.size = t3.size + (textOut xt).size := by rw [ht4, ByteArray.size_append]
  rw [hfin]
  have HT0 := ghid ht1
  have HT1 := ghid ht2
  have HT2 := ghid ht3
  have HT3 := ghid ht4
  have HOK0 : Hid (0 ≤ xs0 ∧ xs0 ≤ 1099511627776) := ⟨hok.1, hok.2.1⟩
  have HOK1 : Hid (0 ≤ xc ∧ xc ≤ 1099511627776) := ⟨hok.2.2.1, hok.2.2.2.1⟩
  have HOK2 : Hid (0 ≤ xn ∧ xn ≤ 1099511627776) := ⟨hok.2.2.2.2.1, hok.2.2.2.2.2.1⟩
  have HOK3 : Hid (xt.size ≤ 5000) := hok.2.2.2.2.2.2
  clear ht1 ht2 ht3 ht4 hfin hok hz
  have hba : Below w.heap.size w (w.alloc (.cells #[.int .i64 xs0, .int .i64 xc, .int .i64 xn, .string xt] 168)) := (Below.refl _ _).alloc (Nat.le_refl _) _
  have HS0 := ghid ((WrS.refl hw).more hba hB)
  have HX0 : Hid ((w.alloc (.cells #[.int .i64 xs0, .int .i64 xc, .int .i64 xn, .string xt] 168)).heap[w.heap.size]? = some (.cells #[.int .i64 xs0, .int .i64 xc, .int .i64 xn, .string xt] 168 (0, 0))) := heap_alloc_new w _
  have c0_0 : (w.alloc (.cells #[.int .i64 xs0, .int .i64 xc, .int .i64 xn, .string xt] 168)).cell? ⟨w.heap.size, 0, none⟩ = some (.int .i64 xs0) := wr_cells HX0.out 0
  have c0_1 : (w.alloc (.cells #[.int .i64 xs0, .int .i64 xc, .int .i64 xn, .string xt] 168)).cell? ⟨w.heap.size, 1, none⟩ = some (.int .i64 xc) := wr_cells HX0.out 1
  have c0_2 : (w.alloc (.cells #[.int .i64 xs0, .int .i64 xc, .int .i64 xn, .string xt] 168)).cell? ⟨w.heap.size, 2, none⟩ = some (.int .i64 xn) := wr_cells HX0.out 2
  have c0_3 : (w.alloc (.cells #[.int .i64 xs0, .int .i64 xc, .int .i64 xn, .string xt] 168)).cell? ⟨w.heap.size, 3, none⟩ = some (.string xt) := wr_cells HX0.out 3
  have hbne : w.heap.size ≠ b := by omega
  clear hw hba
  go_enter Tryz.func174, Tryz.ntmps174
  have CW0 := ghid (wrNumber_any B b t xs0 (w.alloc (.cells #[.int .i64 xs0, .int .i64 xc, .int .i64 xn, .string xt] 168)) HS0.out.has HOK0.out.1 HOK0.out.2 (by omega))
  go_wp2_with fail
  refine CW0.out.mono ?_
  rintro e w1 ⟨rfl, hs⟩
  rw [← HT0.out] at hs
  have HS1 := ghid (HS0.out.trans hs)
  have HX1 : Hid (w1.heap[w.heap.size]? = some (.cells #[.int .i64 xs0, .int .i64 xc, .int .i64 xn, .string xt] 168 (0, 0))) := hs.row HX0.out hbne (by decide)
  clear hs CW0
  have c1_0 : w1.cell? ⟨w.heap.size, 0, none⟩ = some (.int .i64 xs0) := wr_cells HX1.out 0
  have c1_1 : w1.cell? ⟨w.heap.size, 1, none⟩ = some (.int .i64 xc) := wr_cells HX1.out 1
  have c1_2 : w1.cell? ⟨w.heap.size, 2, none⟩ = some (.int .i64 xn) := wr_cells HX1.out 2
  have c1_3 : w1.cell? ⟨w.heap.size, 3, none⟩ = some (.string xt) := wr_cells HX1.out 3
  clear c0_0 c0_1 c0_2 c0_3
  have CW1 := ghid (wrNumber_any B b t1 xc w1 HS1.out.has HOK1.out.1 HOK1.out.2 (by omega))
  go_wp2_with fail
  refine CW1.out.mono ?_
  rintro e w2 ⟨rfl, hs⟩
  rw [← HT1.out] at hs
  have HS2 := ghid (HS1.out.trans hs)
  have HX2 : Hid (w2.heap[w.heap.size]? = some (.cells #[.int .i64 xs0, .int .i64 xc, .int .i64 xn, .string xt] 168 (0, 0))) := hs.row HX1.out hbne (by decide)
  clear hs CW1
  have c2_0 : w2.cell? ⟨w.heap.size, 0, none⟩ = some (.int .i64 xs0) := wr_cells HX2.out 0
  have c2_1 : w2.cell? ⟨w.heap.size, 1, none⟩ = some (.int .i64 xc) := wr_cells HX2.out 1
  have c2_2 : w2.cell? ⟨w.heap.size, 2, none⟩ = some (.int .i64 xn) := wr_cells HX2.out 2
  have c2_3 : w2.cell? ⟨w.heap.size, 3, none⟩ = some (.string xt) := wr_cells HX2.out 3
  clear c1_0 c1_1 c1_2 c1_3
  have CW2 := ghid (wrNumber_any B b t2 xn w2 HS2.out.has HOK2.out.1 HOK2.out.2 (by omega))
  go_wp2_with fail
  refine CW2.out.mono ?_
  rintro e w3 ⟨rfl, hs⟩
  rw [← HT2.out] at hs
  have HS3 := ghid (HS2.out.trans hs)
  have HX3 : Hid (w3.heap[w.heap.size]? = some (.cells #[.int .i64 xs0, .int .i64 xc, .int .i64 xn, .string xt] 168 (0, 0))) := hs.row HX2.out hbne (by decide)
  clear hs CW2
  have c3_0 : w3.cell? ⟨w.heap.size, 0, none⟩ = some (.int .i64 xs0) := wr_cells HX3.out 0
  have c3_1 : w3.cell? ⟨w.heap.size, 1, none⟩ = some (.int .i64 xc) := wr_cells HX3.out 1
  have c3_2 : w3.cell? ⟨w.heap.size, 2, none⟩ = some (.int .i64 xn) := wr_cells HX3.out 2
  have c3_3 : w3.cell? ⟨w.heap.size, 3, none⟩ = some (.string xt) := wr_cells HX3.out 3
  clear c2_0 c2_1 c2_2 c2_3
  have CW3 := ghid (wrText_any B b t3 xt w3 HS3.out.has HOK3.out (by omega))
  go_wp2_with fail
  refine CW3.out.mono ?_
  rintro e w4 ⟨rfl, hs⟩
  rw [← HT3.out] at hs
  have HS4 := ghid (HS3.out.trans hs)
  clear hs CW3
  go_wp2
  go_end0
  exact ⟨rfl, HS4.out⟩

def okP (k : PairD) : Prop := k.name.size ≤ 5000 ∧ k.value.size ≤ 5000 ∧ 0 ≤ k.version ∧ k.version ≤ 1099511627776

set_option maxRecDepth 100000 in
set_option maxHeartbeats 1600000 in
theorem wr_pair : WrC 124 pairOut PairV okP := by
  intro B b t ev x w hv hok hB hw hz
  obtain ⟨rfl, -⟩ := hv
  obtain ⟨xn, xv, xk⟩ := x
  unfold okP at hok
  simp only at hok
  have hlt := hw.lt
  obtain ⟨t1, ht1⟩ : ∃ t1, t1 = t ++ textOut xn := ⟨_, rfl⟩
  obtain ⟨t2, ht2⟩ : ∃ t2, t2 = t1 ++ textOut xv := ⟨_, rfl⟩
  obtain ⟨t3, ht3⟩ : ∃ t3, t3 = t2 ++ numOut xk := ⟨_, rfl⟩
  have hfin : t ++ pairOut ⟨xn, xv, xk⟩ = t3 := by rw [ht3, ht2, ht1]; simp only [pairOut, ByteArray.append_assoc]
  have hz' : t3.size ≤ 1000000000 := by rw [← hfin, ByteArray.size_append]; exact hz
  have hz1 : t1.size = t.size + (textOut xn).size := by rw [ht1, ByteArray.size_append]
  have hz2 : t2.size = t1.size + (textOut xv).size := by rw [ht2, ByteArray.size_append]
  have hz3 : t3.size = t2.size + (numOut xk).size := by rw [ht3, ByteArray.size_append]
  rw [hfin]
  have HT0 := ghid ht1
  have HT1 := ghid ht2
  have HT2 := ghid ht3
  have HOK0 : Hid (xn.size ≤ 5000) := hok.1
  have HOK1 : Hid (xv.size ≤ 5000) := hok.2.1
  have HOK2 : Hid (0 ≤ xk ∧ xk ≤ 1099511627776) := ⟨hok.2.2.1, hok.2.2.2⟩
  clear ht1 ht2 ht3 hfin hok hz
  have hba : Below w.heap.size w (w.alloc (.cells #[.string xn, .string xv, .int .i64 xk] 89)) := (Below.refl _ _).alloc (Nat.le_refl _) _
  have HS0 := ghid ((WrS.refl hw).more hba hB)
  have HX0 : Hid ((w.alloc (.cells #[.string xn, .string xv, .int .i64 xk] 89)).heap[w.heap.size]? = some (.cells #[.string xn, .string xv, .int .i64 xk] 89 (0, 0))) := heap_alloc_new w _
  have c0_0 : (w.alloc (.cells #[.string xn, .string xv, .int .i64 xk] 89)).cell? ⟨w.heap.size, 0, none⟩ = some (.string xn) := wr_cells HX0.out 0
  have c0_1 : (w.alloc (.cells #[.string xn, .string xv, .int .i64 xk] 89)).cell? ⟨w.heap.size, 1, none⟩ = some (.string xv) := wr_cells HX0.out 1
  have c0_2 : (w.alloc (.cells #[.string xn, .string xv, .int .i64 xk] 89)).cell? ⟨w.heap.size, 2, none⟩ = some (.int .i64 xk) := wr_cells HX0.out 2
  have hbne : w.heap.size ≠ b := by omega
  clear hw hba
  go_enter Tryz.func124, Tryz.ntmps124
  have CW0 := ghid (wrText_any B b t xn (w.alloc (.cells #[.string xn, .string xv, .int .i64 xk] 89)) HS0.out.has HOK0.out (by omega))
  go_wp2_with fail
  refine CW0.out.mono ?_
  rintro e w1 ⟨rfl, hs⟩
  rw [← HT0.out] at hs
  have HS1 := ghid (HS0.out.trans hs)
  have HX1 : Hid (w1.heap[w.heap.size]? = some (.cells #[.string xn, .string xv, .int .i64 xk] 89 (0, 0))) := hs.row HX0.out hbne (by decide)
  clear hs CW0
  have c1_0 : w1.cell? ⟨w.heap.size, 0, none⟩ = some (.string xn) := wr_cells HX1.out 0
  have c1_1 : w1.cell? ⟨w.heap.size, 1, none⟩ = some (.string xv) := wr_cells HX1.out 1
  have c1_2 : w1.cell? ⟨w.heap.size, 2, none⟩ = some (.int .i64 xk) := wr_cells HX1.out 2
  clear c0_0 c0_1 c0_2
  have CW1 := ghid (wrText_any B b t1 xv w1 HS1.out.has HOK1.out (by omega))
  go_wp2_with fail
  refine CW1.out.mono ?_
  rintro e w2 ⟨rfl, hs⟩
  rw [← HT1.out] at hs
  have HS2 := ghid (HS1.out.trans hs)
  have HX2 : Hid (w2.heap[w.heap.size]? = some (.cells #[.string xn, .string xv, .int .i64 xk] 89 (0, 0))) := hs.row HX1.out hbne (by decide)
  clear hs CW1
  have c2_0 : w2.cell? ⟨w.heap.size, 0, none⟩ = some (.string xn) := wr_cells HX2.out 0
  have c2_1 : w2.cell? ⟨w.heap.size, 1, none⟩ = some (.string xv) := wr_cells HX2.out 1
  have c2_2 : w2.cell? ⟨w.heap.size, 2, none⟩ = some (.int .i64 xk) := wr_cells HX2.out 2
  clear c1_0 c1_1 c1_2
  have CW2 := ghid (wrNumber_any B b t2 xk w2 HS2.out.has HOK2.out.1 HOK2.out.2 (by omega))
  go_wp2_with fail
  refine CW2.out.mono ?_
  rintro e w3 ⟨rfl, hs⟩
  rw [← HT2.out] at hs
  have HS3 := ghid (HS2.out.trans hs)
  clear hs CW2
  go_wp2
  go_end0
  exact ⟨rfl, HS3.out⟩

def okL (k : LockD) : Prop := k.name.size ≤ 5000 ∧ 0 ≤ k.holder ∧ k.holder ≤ 1099511627776 ∧ 0 ≤ k.fence ∧ k.fence ≤ 1099511627776 ∧ k.line.length ≤ 1000 ∧ ∀ x ∈ k.line, 0 ≤ x ∧ x ≤ 1099511627776

set_option maxRecDepth 100000 in
set_option maxHeartbeats 1600000 in
theorem wr_lock : WrC 122 lockOut LockV okL := by
  intro B b t ev x w hv hok hB hw hz
  obtain ⟨lv, rfl, hl, -⟩ := hv
  obtain ⟨lo, lc, rfl, -⟩ := id hl
  obtain ⟨xn, xh, xf, xl⟩ := x
  unfold okL at hok
  simp only at hok hl
  have hlt := hw.lt
  obtain ⟨t1, ht1⟩ : ∃ t1, t1 = t ++ textOut xn := ⟨_, rfl⟩
  obtain ⟨t2, ht2⟩ : ∃ t2, t2 = t1 ++ numOut xh := ⟨_, rfl⟩
  obtain ⟨t3, ht3⟩ : ∃ t3, t3 = t2 ++ numOut xf := ⟨_, rfl⟩
  obtain ⟨t4, ht4⟩ : ∃ t4, t4 = t3 ++ (numOut xl.length ++ catB (xl.map numOut)) := ⟨_, rfl⟩
  have hfin : t ++ lockOut ⟨xn, xh, xf, xl⟩ = t4 := by rw [ht4, ht3, ht2, ht1]; simp only [lockOut, ByteArray.append_assoc]
  have hz' : t4.size ≤ 1000000000 := by rw [← hfin, ByteArray.size_append]; exact hz
  have hz1 : t1.size = t.size + (textOut xn).size := by rw [ht1, ByteArray.size_append]
  have hz2 : t2.size = t1.size + (numOut xh).size := by rw [ht2, ByteArray.size_append]
  have hz3 : t3.size = t2.size + (numOut xf).size := by rw [ht3, ByteArray.size_append]
  have hz4 : t4.size = t3.size + ((numOut xl.length ++ catB (xl.map numOut))).size := by rw [ht4, ByteArray.size_append]
  rw [hfin]
  have HT0 := ghid ht1
  have HT1 := ghid ht2
  have HT2 := ghid ht3
  have HT3 := ghid ht4
  have HOK0 : Hid (xn.size ≤ 5000) := hok.1
  have HOK1 : Hid (0 ≤ xh ∧ xh ≤ 1099511627776) := ⟨hok.2.1, hok.2.2.1⟩
  have HOK2 : Hid (0 ≤ xf ∧ xf ≤ 1099511627776) := ⟨hok.2.2.2.1, hok.2.2.2.2.1⟩
  have hll : xl.length ≤ 1000 := hok.2.2.2.2.2.1
  have HLC3 : Hid (∀ t u, Below B w u → WrT B b t u → t.size + (numOut xl.length ++ catB (xl.map numOut)).size ≤ 1000000000 → Calls Tryz.prog 172 #[.pointer (some ⟨b, 0, none⟩), .slice lo xl.length lc, .func (.func 120) #[.pointer (some ⟨b, 0, none⟩)] #[]] u fun e w' => e = .returned (.tuple #[]) ∧ WrS B b (t ++ (numOut xl.length ++ catB (xl.map numOut))) u w') := fun t u hu hwt hzt => wlistInt B b t _ xl 120 numOut u (hl.below hu (Nat.le_refl _)) (Nat.le_trans hB hu.size) hwt (by omega) hzt wr_number_enters (wrNumber_c (fun x hx => hok.2.2.2.2.2.2 x hx))
  have HZ3 : Hid (t3.size + (numOut xl.length ++ catB (xl.map numOut)).size ≤ 1000000000) := by unfold Hid; rw [← hz4]; omega
  clear ht1 ht2 ht3 ht4 hfin hok hz
  clear hl
  have hba : Below w.heap.size w (w.alloc (.cells #[.string xn, .int .i64 xh, .int .i64 xf, .slice lo xl.length lc] 82)) := (Below.refl _ _).alloc (Nat.le_refl _) _
  have HS0 := ghid ((WrS.refl hw).more hba hB)
  have HX0 : Hid ((w.alloc (.cells #[.string xn, .int .i64 xh, .int .i64 xf, .slice lo xl.length lc] 82)).heap[w.heap.size]? = some (.cells #[.string xn, .int .i64 xh, .int .i64 xf, .slice lo xl.length lc] 82 (0, 0))) := heap_alloc_new w _
  have c0_0 : (w.alloc (.cells #[.string xn, .int .i64 xh, .int .i64 xf, .slice lo xl.length lc] 82)).cell? ⟨w.heap.size, 0, none⟩ = some (.string xn) := wr_cells HX0.out 0
  have c0_1 : (w.alloc (.cells #[.string xn, .int .i64 xh, .int .i64 xf, .slice lo xl.length lc] 82)).cell? ⟨w.heap.size, 1, none⟩ = some (.int .i64 xh) := wr_cells HX0.out 1
  have c0_2 : (w.alloc (.cells #[.string xn, .int .i64 xh, .int .i64 xf, .slice lo xl.length lc] 82)).cell? ⟨w.heap.size, 2, none⟩ = some (.int .i64 xf) := wr_cells HX0.out 2
  have c0_3 : (w.alloc (.cells #[.string xn, .int .i64 xh, .int .i64 xf, .slice lo xl.length lc] 82)).cell? ⟨w.heap.size, 3, none⟩ = some (.slice lo xl.length lc) := wr_cells HX0.out 3
  have hbne : w.heap.size ≠ b := by omega
  clear hw hba
  go_enter Tryz.func122, Tryz.ntmps122
  have CW0 := ghid (wrText_any B b t xn (w.alloc (.cells #[.string xn, .int .i64 xh, .int .i64 xf, .slice lo xl.length lc] 82)) HS0.out.has HOK0.out (by omega))
  go_wp2_with fail
  refine CW0.out.mono ?_
  rintro e w1 ⟨rfl, hs⟩
  rw [← HT0.out] at hs
  have HS1 := ghid (HS0.out.trans hs)
  have HX1 : Hid (w1.heap[w.heap.size]? = some (.cells #[.string xn, .int .i64 xh, .int .i64 xf, .slice lo xl.length lc] 82 (0, 0))) := hs.row HX0.out hbne (by decide)
  clear hs CW0
  have c1_0 : w1.cell? ⟨w.heap.size, 0, none⟩ = some (.string xn) := wr_cells HX1.out 0
  have c1_1 : w1.cell? ⟨w.heap.size, 1, none⟩ = some (.int .i64 xh) := wr_cells HX1.out 1
  have c1_2 : w1.cell? ⟨w.heap.size, 2, none⟩ = some (.int .i64 xf) := wr_cells HX1.out 2
  have c1_3 : w1.cell? ⟨w.heap.size, 3, none⟩ = some (.slice lo xl.length lc) := wr_cells HX1.out 3
  clear c0_0 c0_1 c0_2 c0_3
  have CW1 := ghid (wrNumber_any B b t1 xh w1 HS1.out.has HOK1.out.1 HOK1.out.2 (by omega))
  go_wp2_with fail
  refine CW1.out.mono ?_
  rintro e w2 ⟨rfl, hs⟩
  rw [← HT1.out] at hs
  have HS2 := ghid (HS1.out.trans hs)
  have HX2 : Hid (w2.heap[w.heap.size]? = some (.cells #[.string xn, .int .i64 xh, .int .i64 xf, .slice lo xl.length lc] 82 (0, 0))) := hs.row HX1.out hbne (by decide)
  clear hs CW1
  have c2_0 : w2.cell? ⟨w.heap.size, 0, none⟩ = some (.string xn) := wr_cells HX2.out 0
  have c2_1 : w2.cell? ⟨w.heap.size, 1, none⟩ = some (.int .i64 xh) := wr_cells HX2.out 1
  have c2_2 : w2.cell? ⟨w.heap.size, 2, none⟩ = some (.int .i64 xf) := wr_cells HX2.out 2
  have c2_3 : w2.cell? ⟨w.heap.size, 3, none⟩ = some (.slice lo xl.length lc) := wr_cells HX2.out 3
  clear c1_0 c1_1 c1_2 c1_3
  have CW2 := ghid (wrNumber_any B b t2 xf w2 HS2.out.has HOK2.out.1 HOK2.out.2 (by omega))
  go_wp2_with fail
  refine CW2.out.mono ?_
  rintro e w3 ⟨rfl, hs⟩
  rw [← HT2.out] at hs
  have HS3 := ghid (HS2.out.trans hs)
  have HX3 : Hid (w3.heap[w.heap.size]? = some (.cells #[.string xn, .int .i64 xh, .int .i64 xf, .slice lo xl.length lc] 82 (0, 0))) := hs.row HX2.out hbne (by decide)
  clear hs CW2
  have c3_0 : w3.cell? ⟨w.heap.size, 0, none⟩ = some (.string xn) := wr_cells HX3.out 0
  have c3_1 : w3.cell? ⟨w.heap.size, 1, none⟩ = some (.int .i64 xh) := wr_cells HX3.out 1
  have c3_2 : w3.cell? ⟨w.heap.size, 2, none⟩ = some (.int .i64 xf) := wr_cells HX3.out 2
  have c3_3 : w3.cell? ⟨w.heap.size, 3, none⟩ = some (.slice lo xl.length lc) := wr_cells HX3.out 3
  clear c2_0 c2_1 c2_2 c2_3
  have CW3 := ghid (HLC3.out t3 w3 HS3.out.below HS3.out.has (by have := HZ3.out; omega))
  go_wp2_with fail
  refine CW3.out.mono ?_
  rintro e w4 ⟨rfl, hs⟩
  rw [← HT3.out] at hs
  have HS4 := ghid (HS3.out.trans hs)
  clear hs CW3
  go_wp2
  go_end0
  exact ⟨rfl, HS4.out⟩

def okS (k : SessD) : Prop := 0 ≤ k.client ∧ k.client ≤ 1099511627776 ∧ 0 ≤ k.id ∧ k.id ≤ 1099511627776 ∧ 0 ≤ k.acked ∧ k.acked ≤ 1099511627776 ∧ 0 ≤ k.last ∧ k.last ≤ 1099511627776 ∧ k.replies.length ≤ 1000 ∧ ∀ x ∈ k.replies, okK x

set_option maxRecDepth 100000 in
set_option maxHeartbeats 1600000 in
theorem wr_session : WrC 126 sessOut SessV okS := by
  intro B b t ev x w hv hok hB hw hz
  obtain ⟨lv, rfl, hl⟩ := hv
  obtain ⟨lo, lc, rfl, -⟩ := id hl
  obtain ⟨xc, xi, xa, xz, xl⟩ := x
  unfold okS at hok
  simp only at hok hl
  have hlt := hw.lt
  obtain ⟨t1, ht1⟩ : ∃ t1, t1 = t ++ numOut xc := ⟨_, rfl⟩
  obtain ⟨t2, ht2⟩ : ∃ t2, t2 = t1 ++ numOut xi := ⟨_, rfl⟩
  obtain ⟨t3, ht3⟩ : ∃ t3, t3 = t2 ++ numOut xa := ⟨_, rfl⟩
  obtain ⟨t4, ht4⟩ : ∃ t4, t4 = t3 ++ numOut xz := ⟨_, rfl⟩
  obtain ⟨t5, ht5⟩ : ∃ t5, t5 = t4 ++ (numOut xl.length ++ catB (xl.map keptOut)) := ⟨_, rfl⟩
  have hfin : t ++ sessOut ⟨xc, xi, xa, xz, xl⟩ = t5 := by rw [ht5, ht4, ht3, ht2, ht1]; simp only [sessOut, ByteArray.append_assoc]
  have hz' : t5.size ≤ 1000000000 := by rw [← hfin, ByteArray.size_append]; exact hz
  have hz1 : t1.size = t.size + (numOut xc).size := by rw [ht1, ByteArray.size_append]
  have hz2 : t2.size = t1.size + (numOut xi).size := by rw [ht2, ByteArray.size_append]
  have hz3 : t3.size = t2.size + (numOut xa).size := by rw [ht3, ByteArray.size_append]
  have hz4 : t4.size = t3.size + (numOut xz).size := by rw [ht4, ByteArray.size_append]
  have hz5 : t5.size = t4.size + ((numOut xl.length ++ catB (xl.map keptOut))).size := by rw [ht5, ByteArray.size_append]
  rw [hfin]
  have HT0 := ghid ht1
  have HT1 := ghid ht2
  have HT2 := ghid ht3
  have HT3 := ghid ht4
  have HT4 := ghid ht5
  have HOK0 : Hid (0 ≤ xc ∧ xc ≤ 1099511627776) := ⟨hok.1, hok.2.1⟩
  have HOK1 : Hid (0 ≤ xi ∧ xi ≤ 1099511627776) := ⟨hok.2.2.1, hok.2.2.2.1⟩
  have HOK2 : Hid (0 ≤ xa ∧ xa ≤ 1099511627776) := ⟨hok.2.2.2.2.1, hok.2.2.2.2.2.1⟩
  have HOK3 : Hid (0 ≤ xz ∧ xz ≤ 1099511627776) := ⟨hok.2.2.2.2.2.2.1, hok.2.2.2.2.2.2.2.1⟩
  have hll : xl.length ≤ 1000 := hok.2.2.2.2.2.2.2.2.1
  have HLC4 : Hid (∀ t u, Below B w u → WrT B b t u → t.size + (numOut xl.length ++ catB (xl.map keptOut)).size ≤ 1000000000 → Calls Tryz.prog 173 #[.pointer (some ⟨b, 0, none⟩), .slice lo xl.length lc, .func (.func 174) #[.pointer (some ⟨b, 0, none⟩)] #[]] u fun e w' => e = .returned (.tuple #[]) ∧ WrS B b (t ++ (numOut xl.length ++ catB (xl.map keptOut))) u w') := fun t u hu hwt hzt => wlistKept B b t _ xl 174 keptOut u (hl.below hu (Nat.le_refl _)) (Nat.le_trans hB hu.size) hwt (by omega) hzt wr_kept_enters (wr_kept.mono (fun x hx => hok.2.2.2.2.2.2.2.2.2 x hx))
  have HZ4 : Hid (t4.size + (numOut xl.length ++ catB (xl.map keptOut)).size ≤ 1000000000) := by unfold Hid; rw [← hz5]; omega
  clear ht1 ht2 ht3 ht4 ht5 hfin hok hz
  clear hl
  have hba : Below w.heap.size w (w.alloc (.cells #[.int .i64 xc, .int .i64 xi, .int .i64 xa, .int .i64 xz, .slice lo xl.length lc] 121)) := (Below.refl _ _).alloc (Nat.le_refl _) _
  have HS0 := ghid ((WrS.refl hw).more hba hB)
  have HX0 : Hid ((w.alloc (.cells #[.int .i64 xc, .int .i64 xi, .int .i64 xa, .int .i64 xz, .slice lo xl.length lc] 121)).heap[w.heap.size]? = some (.cells #[.int .i64 xc, .int .i64 xi, .int .i64 xa, .int .i64 xz, .slice lo xl.length lc] 121 (0, 0))) := heap_alloc_new w _
  have c0_0 : (w.alloc (.cells #[.int .i64 xc, .int .i64 xi, .int .i64 xa, .int .i64 xz, .slice lo xl.length lc] 121)).cell? ⟨w.heap.size, 0, none⟩ = some (.int .i64 xc) := wr_cells HX0.out 0
  have c0_1 : (w.alloc (.cells #[.int .i64 xc, .int .i64 xi, .int .i64 xa, .int .i64 xz, .slice lo xl.length lc] 121)).cell? ⟨w.heap.size, 1, none⟩ = some (.int .i64 xi) := wr_cells HX0.out 1
  have c0_2 : (w.alloc (.cells #[.int .i64 xc, .int .i64 xi, .int .i64 xa, .int .i64 xz, .slice lo xl.length lc] 121)).cell? ⟨w.heap.size, 2, none⟩ = some (.int .i64 xa) := wr_cells HX0.out 2
  have c0_3 : (w.alloc (.cells #[.int .i64 xc, .int .i64 xi, .int .i64 xa, .int .i64 xz, .slice lo xl.length lc] 121)).cell? ⟨w.heap.size, 3, none⟩ = some (.int .i64 xz) := wr_cells HX0.out 3
  have c0_4 : (w.alloc (.cells #[.int .i64 xc, .int .i64 xi, .int .i64 xa, .int .i64 xz, .slice lo xl.length lc] 121)).cell? ⟨w.heap.size, 4, none⟩ = some (.slice lo xl.length lc) := wr_cells HX0.out 4
  have hbne : w.heap.size ≠ b := by omega
  clear hw hba
  go_enter Tryz.func126, Tryz.ntmps126
  have CW0 := ghid (wrNumber_any B b t xc (w.alloc (.cells #[.int .i64 xc, .int .i64 xi, .int .i64 xa, .int .i64 xz, .slice lo xl.length lc] 121)) HS0.out.has HOK0.out.1 HOK0.out.2 (by omega))
  go_wp2_with fail
  refine CW0.out.mono ?_
  rintro e w1 ⟨rfl, hs⟩
  rw [← HT0.out] at hs
  have HS1 := ghid (HS0.out.trans hs)
  have HX1 : Hid (w1.heap[w.heap.size]? = some (.cells #[.int .i64 xc, .int .i64 xi, .int .i64 xa, .int .i64 xz, .slice lo xl.length lc] 121 (0, 0))) := hs.row HX0.out hbne (by decide)
  clear hs CW0
  have c1_0 : w1.cell? ⟨w.heap.size, 0, none⟩ = some (.int .i64 xc) := wr_cells HX1.out 0
  have c1_1 : w1.cell? ⟨w.heap.size, 1, none⟩ = some (.int .i64 xi) := wr_cells HX1.out 1
  have c1_2 : w1.cell? ⟨w.heap.size, 2, none⟩ = some (.int .i64 xa) := wr_cells HX1.out 2
  have c1_3 : w1.cell? ⟨w.heap.size, 3, none⟩ = some (.int .i64 xz) := wr_cells HX1.out 3
  have c1_4 : w1.cell? ⟨w.heap.size, 4, none⟩ = some (.slice lo xl.length lc) := wr_cells HX1.out 4
  clear c0_0 c0_1 c0_2 c0_3 c0_4
  have CW1 := ghid (wrNumber_any B b t1 xi w1 HS1.out.has HOK1.out.1 HOK1.out.2 (by omega))
  go_wp2_with fail
  refine CW1.out.mono ?_
  rintro e w2 ⟨rfl, hs⟩
  rw [← HT1.out] at hs
  have HS2 := ghid (HS1.out.trans hs)
  have HX2 : Hid (w2.heap[w.heap.size]? = some (.cells #[.int .i64 xc, .int .i64 xi, .int .i64 xa, .int .i64 xz, .slice lo xl.length lc] 121 (0, 0))) := hs.row HX1.out hbne (by decide)
  clear hs CW1
  have c2_0 : w2.cell? ⟨w.heap.size, 0, none⟩ = some (.int .i64 xc) := wr_cells HX2.out 0
  have c2_1 : w2.cell? ⟨w.heap.size, 1, none⟩ = some (.int .i64 xi) := wr_cells HX2.out 1
  have c2_2 : w2.cell? ⟨w.heap.size, 2, none⟩ = some (.int .i64 xa) := wr_cells HX2.out 2
  have c2_3 : w2.cell? ⟨w.heap.size, 3, none⟩ = some (.int .i64 xz) := wr_cells HX2.out 3
  have c2_4 : w2.cell? ⟨w.heap.size, 4, none⟩ = some (.slice lo xl.length lc) := wr_cells HX2.out 4
  clear c1_0 c1_1 c1_2 c1_3 c1_4
  have CW2 := ghid (wrNumber_any B b t2 xa w2 HS2.out.has HOK2.out.1 HOK2.out.2 (by omega))
  go_wp2_with fail
  refine CW2.out.mono ?_
  rintro e w3 ⟨rfl, hs⟩
  rw [← HT2.out] at hs
  have HS3 := ghid (HS2.out.trans hs)
  have HX3 : Hid (w3.heap[w.heap.size]? = some (.cells #[.int .i64 xc, .int .i64 xi, .int .i64 xa, .int .i64 xz, .slice lo xl.length lc] 121 (0, 0))) := hs.row HX2.out hbne (by decide)
  clear hs CW2
  have c3_0 : w3.cell? ⟨w.heap.size, 0, none⟩ = some (.int .i64 xc) := wr_cells HX3.out 0
  have c3_1 : w3.cell? ⟨w.heap.size, 1, none⟩ = some (.int .i64 xi) := wr_cells HX3.out 1
  have c3_2 : w3.cell? ⟨w.heap.size, 2, none⟩ = some (.int .i64 xa) := wr_cells HX3.out 2
  have c3_3 : w3.cell? ⟨w.heap.size, 3, none⟩ = some (.int .i64 xz) := wr_cells HX3.out 3
  have c3_4 : w3.cell? ⟨w.heap.size, 4, none⟩ = some (.slice lo xl.length lc) := wr_cells HX3.out 4
  clear c2_0 c2_1 c2_2 c2_3 c2_4
  have CW3 := ghid (wrNumber_any B b t3 xz w3 HS3.out.has HOK3.out.1 HOK3.out.2 (by omega))
  go_wp2_with fail
  refine CW3.out.mono ?_
  rintro e w4 ⟨rfl, hs⟩
  rw [← HT3.out] at hs
  have HS4 := ghid (HS3.out.trans hs)
  have HX4 : Hid (w4.heap[w.heap.size]? = some (.cells #[.int .i64 xc, .int .i64 xi, .int .i64 xa, .int .i64 xz, .slice lo xl.length lc] 121 (0, 0))) := hs.row HX3.out hbne (by decide)
  clear hs CW3
  have c4_0 : w4.cell? ⟨w.heap.size, 0, none⟩ = some (.int .i64 xc) := wr_cells HX4.out 0
  have c4_1 : w4.cell? ⟨w.heap.size, 1, none⟩ = some (.int .i64 xi) := wr_cells HX4.out 1
  have c4_2 : w4.cell? ⟨w.heap.size, 2, none⟩ = some (.int .i64 xa) := wr_cells HX4.out 2
  have c4_3 : w4.cell? ⟨w.heap.size, 3, none⟩ = some (.int .i64 xz) := wr_cells HX4.out 3
  have c4_4 : w4.cell? ⟨w.heap.size, 4, none⟩ = some (.slice lo xl.length lc) := wr_cells HX4.out 4
  clear c3_0 c3_1 c3_2 c3_3 c3_4
  have CW4 := ghid (HLC4.out t4 w4 HS4.out.below HS4.out.has (by have := HZ4.out; omega))
  go_wp2_with fail
  refine CW4.out.mono ?_
  rintro e w5 ⟨rfl, hs⟩
  rw [← HT4.out] at hs
  have HS5 := ghid (HS4.out.trans hs)
  clear hs CW4
  go_wp2
  go_end0
  exact ⟨rfl, HS5.out⟩

end Go.Proofs.YtijilhbdbeajjaaGreatDoor

namespace Go.Proofs.YtijilhbdbeajjaaGreatDoor

open Go.RowKit

theorem okL_of {k : LockD} (h : LockOk k) (h1 : 1 ≤ k.fence) (h2 : k.fence ≤ 1073741824) : okL k := by
  have hn := (nameB_yes h.name).2.1
  have hl := h.line.len
  have h3 := h.low
  have h4 := h.high
  refine ⟨by omega, by omega, by omega, by omega, by omega, by omega, fun x hx => ?_⟩
  have := h.line.each x hx
  omega

theorem okP_of {p : PairD} (h : nameB p.name = true ∧ p.value.size ≤ 12 ∧ 1 ≤ p.version ∧ p.version ≤ 1073741824) : okP p := by
  have hn := (nameB_yes h.1).2.1
  exact ⟨by omega, by omega, by omega, by omega⟩

theorem okS_of {i : Int} {x : SessD} (hi : i ≤ 1073741824) (h : Fine i x) : okS x := by
  have hr := rangeB_iff.1 h.range
  have hl := sformB_len h.form
  have hm := formFrom_mem h.form
  refine ⟨by omega, by omega, by omega, by omega, by omega, by omega, by omega, by omega, by omega, fun k hk => ?_⟩
  have h1 := hm k hk
  have h2 := replyB_iff.1 h1.2.2
  exact ⟨by omega, by omega, by omega, by omega, by omega, by omega, by omega⟩

set_option maxRecDepth 100000 in
set_option maxHeartbeats 3200000 in
theorem wr_state (B b : Nat) (t : ByteArray) (v : Value) (s : StateD) (w : World) (hv : StateR w B v s) (hg : GoodM s) (hB : B ≤ w.heap.size) (hw : WrT B b t w) (hz : t.size ≤ 1000000) :
    Calls Tryz.prog 74 #[.pointer (some ⟨b, 0, none⟩), v] w fun e w' => e = .returned (.tuple #[]) ∧ WrS B b (t ++ snapBody s) w w' := by
  have hle := snapBody_le hg
  have hi0 := hg.sess.low
  have hi1 := hg.sess.high
  have hl1 := hg.locks.len
  have hl2 := hg.pairs.len
  have hl3 := hg.sess.len
  have hok1 : ∀ k ∈ s.locks, okL k := fun k hk => okL_of (hg.locks.each k hk).1 (hg.locks.each k hk).2.1 (hg.locks.each k hk).2.2
  have hok2 : ∀ k ∈ s.pairs, okP k := fun k hk => okP_of (hg.pairs.each k hk)
  have hok3 : ∀ k ∈ s.sess, okS k := fun k hk => okS_of hi1 (hg.sess.fine k hk)
  obtain ⟨lv, pv, sv, rfl, h1, h2, h3⟩ := hv
  obtain ⟨lo, lc, rfl, -⟩ := id h1
  obtain ⟨po, pc, rfl, -⟩ := id h2
  obtain ⟨so, sc, rfl, -⟩ := id h3
  obtain ⟨si, sl, sp, ss⟩ := s
  simp only at h1 h2 h3 hi0 hi1 hl1 hl2 hl3 hok1 hok2 hok3
  have hlt := hw.lt
  obtain ⟨t1, ht1⟩ : ∃ t1, t1 = t ++ numOut si := ⟨_, rfl⟩
  obtain ⟨t2, ht2⟩ : ∃ t2, t2 = t1 ++ (numOut sl.length ++ catB (sl.map lockOut)) := ⟨_, rfl⟩
  obtain ⟨t3, ht3⟩ : ∃ t3, t3 = t2 ++ (numOut sp.length ++ catB (sp.map pairOut)) := ⟨_, rfl⟩
  obtain ⟨t4, ht4⟩ : ∃ t4, t4 = t3 ++ (numOut ss.length ++ catB (ss.map sessOut)) := ⟨_, rfl⟩
  have hfin : t ++ snapBody ⟨si, sl, sp, ss⟩ = t4 := by rw [ht4, ht3, ht2, ht1]; simp only [snapBody, ByteArray.append_assoc]
  have hz' : t4.size ≤ 1000000000 := by rw [← hfin, ByteArray.size_append]; omega
  have hz1 : t1.size = t.size + (numOut si).size := by rw [ht1, ByteArray.size_append]
  have hz2 : t2.size = t1.size + (numOut sl.length ++ catB (sl.map lockOut)).size := by rw [ht2, ByteArray.size_append]
  have hz3 : t3.size = t2.size + (numOut sp.length ++ catB (sp.map pairOut)).size := by rw [ht3, ByteArray.size_append]
  have hz4 : t4.size = t3.size + (numOut ss.length ++ catB (ss.map sessOut)).size := by rw [ht4, ByteArray.size_append]
  rw [hfin]
  have HT0 := ghid ht1
  have HT1 := ghid ht2
  have HT2 := ghid ht3
  have HT3 := ghid ht4
  have HLC1 : Hid (∀ t u, Below B w u → WrT B b t u → t.size + (numOut sl.length ++ catB (sl.map lockOut)).size ≤ 1000000000 → Calls Tryz.prog 121 #[.pointer (some ⟨b, 0, none⟩), .slice lo sl.length lc, .func (.func 122) #[.pointer (some ⟨b, 0, none⟩)] #[]] u fun e w' => e = .returned (.tuple #[]) ∧ WrS B b (t ++ (numOut sl.length ++ catB (sl.map lockOut))) u w') := fun t u hu hwt hzt => wlistLock B b t _ sl 122 lockOut u (h1.below hu (Nat.le_refl _)) (Nat.le_trans hB hu.size) hwt (by omega) hzt wr_lock_enters (wr_lock.mono hok1)
  have HZ1 : Hid (t1.size + (numOut sl.length ++ catB (sl.map lockOut)).size ≤ 1000000000) := by unfold Hid; rw [← hz2]; omega
  have HLC2 : Hid (∀ t u, Below B w u → WrT B b t u → t.size + (numOut sp.length ++ catB (sp.map pairOut)).size ≤ 1000000000 → Calls Tryz.prog 123 #[.pointer (some ⟨b, 0, none⟩), .slice po sp.length pc, .func (.func 124) #[.pointer (some ⟨b, 0, none⟩)] #[]] u fun e w' => e = .returned (.tuple #[]) ∧ WrS B b (t ++ (numOut sp.length ++ catB (sp.map pairOut))) u w') := fun t u hu hwt hzt => wlistPair B b t _ sp 124 pairOut u (h2.below hu (Nat.le_refl _)) (Nat.le_trans hB hu.size) hwt (by omega) hzt wr_pair_enters (wr_pair.mono hok2)
  have HZ2 : Hid (t2.size + (numOut sp.length ++ catB (sp.map pairOut)).size ≤ 1000000000) := by unfold Hid; rw [← hz3]; omega
  have HLC3 : Hid (∀ t u, Below B w u → WrT B b t u → t.size + (numOut ss.length ++ catB (ss.map sessOut)).size ≤ 1000000000 → Calls Tryz.prog 125 #[.pointer (some ⟨b, 0, none⟩), .slice so ss.length sc, .func (.func 126) #[.pointer (some ⟨b, 0, none⟩)] #[]] u fun e w' => e = .returned (.tuple #[]) ∧ WrS B b (t ++ (numOut ss.length ++ catB (ss.map sessOut))) u w') := fun t u hu hwt hzt => wlistSess B b t _ ss 126 sessOut u (h3.below hu (Nat.le_refl _)) (Nat.le_trans hB hu.size) hwt (by omega) hzt wr_session_enters (wr_session.mono hok3)
  have HZ3 : Hid (t3.size + (numOut ss.length ++ catB (ss.map sessOut)).size ≤ 1000000000) := by unfold Hid; rw [← hz4]; omega
  have HOK0 : Hid (0 ≤ si ∧ si ≤ 1099511627776) := ⟨hi0, by omega⟩
  clear ht1 ht2 ht3 ht4 hfin hok1 hok2 hok3 h1 h2 h3 hg hle hz2 hz3 hz4
  have hba : Below w.heap.size w (w.alloc (.cells #[.int .i64 si, .slice lo sl.length lc, .slice po sp.length pc, .slice so ss.length sc] 48)) := (Below.refl _ _).alloc (Nat.le_refl _) _
  have HS0 := ghid ((WrS.refl hw).more hba hB)
  have HX0 : Hid ((w.alloc (.cells #[.int .i64 si, .slice lo sl.length lc, .slice po sp.length pc, .slice so ss.length sc] 48)).heap[w.heap.size]? = some (.cells #[.int .i64 si, .slice lo sl.length lc, .slice po sp.length pc, .slice so ss.length sc] 48 (0, 0))) := heap_alloc_new w _
  have c0_0 : (w.alloc (.cells #[.int .i64 si, .slice lo sl.length lc, .slice po sp.length pc, .slice so ss.length sc] 48)).cell? ⟨w.heap.size, 0, none⟩ = some (.int .i64 si) := wr_cells HX0.out 0
  have c0_1 : (w.alloc (.cells #[.int .i64 si, .slice lo sl.length lc, .slice po sp.length pc, .slice so ss.length sc] 48)).cell? ⟨w.heap.size, 1, none⟩ = some (.slice lo sl.length lc) := wr_cells HX0.out 1
  have c0_2 : (w.alloc (.cells #[.int .i64 si, .slice lo sl.length lc, .slice po sp.length pc, .slice so ss.length sc] 48)).cell? ⟨w.heap.size, 2, none⟩ = some (.slice po sp.length pc) := wr_cells HX0.out 2
  have c0_3 : (w.alloc (.cells #[.int .i64 si, .slice lo sl.length lc, .slice po sp.length pc, .slice so ss.length sc] 48)).cell? ⟨w.heap.size, 3, none⟩ = some (.slice so ss.length sc) := wr_cells HX0.out 3
  have hbne : w.heap.size ≠ b := by omega
  clear hw hba
  go_enter Tryz.func74, Tryz.ntmps74
  have CW0 := ghid (wrNumber_any B b t si (w.alloc (.cells #[.int .i64 si, .slice lo sl.length lc, .slice po sp.length pc, .slice so ss.length sc] 48)) HS0.out.has HOK0.out.1 HOK0.out.2 (by omega))
  go_wp2_with fail
  refine CW0.out.mono ?_
  rintro e w1 ⟨rfl, hs⟩
  rw [← HT0.out] at hs
  have HS1 := ghid (HS0.out.trans hs)
  have HX1 : Hid (w1.heap[w.heap.size]? = some (.cells #[.int .i64 si, .slice lo sl.length lc, .slice po sp.length pc, .slice so ss.length sc] 48 (0, 0))) := hs.row HX0.out hbne (by decide)
  clear hs CW0
  have c1_0 : w1.cell? ⟨w.heap.size, 0, none⟩ = some (.int .i64 si) := wr_cells HX1.out 0
  have c1_1 : w1.cell? ⟨w.heap.size, 1, none⟩ = some (.slice lo sl.length lc) := wr_cells HX1.out 1
  have c1_2 : w1.cell? ⟨w.heap.size, 2, none⟩ = some (.slice po sp.length pc) := wr_cells HX1.out 2
  have c1_3 : w1.cell? ⟨w.heap.size, 3, none⟩ = some (.slice so ss.length sc) := wr_cells HX1.out 3
  clear c0_0 c0_1 c0_2 c0_3
  have CW1 := ghid (HLC1.out t1 w1 HS1.out.below HS1.out.has HZ1.out)
  go_wp2_with fail
  refine CW1.out.mono ?_
  rintro e w2 ⟨rfl, hs⟩
  rw [← HT1.out] at hs
  have HS2 := ghid (HS1.out.trans hs)
  have HX2 : Hid (w2.heap[w.heap.size]? = some (.cells #[.int .i64 si, .slice lo sl.length lc, .slice po sp.length pc, .slice so ss.length sc] 48 (0, 0))) := hs.row HX1.out hbne (by decide)
  clear hs CW1
  have c2_0 : w2.cell? ⟨w.heap.size, 0, none⟩ = some (.int .i64 si) := wr_cells HX2.out 0
  have c2_1 : w2.cell? ⟨w.heap.size, 1, none⟩ = some (.slice lo sl.length lc) := wr_cells HX2.out 1
  have c2_2 : w2.cell? ⟨w.heap.size, 2, none⟩ = some (.slice po sp.length pc) := wr_cells HX2.out 2
  have c2_3 : w2.cell? ⟨w.heap.size, 3, none⟩ = some (.slice so ss.length sc) := wr_cells HX2.out 3
  clear c1_0 c1_1 c1_2 c1_3
  have CW2 := ghid (HLC2.out t2 w2 HS2.out.below HS2.out.has HZ2.out)
  go_wp2_with fail
  refine CW2.out.mono ?_
  rintro e w3 ⟨rfl, hs⟩
  rw [← HT2.out] at hs
  have HS3 := ghid (HS2.out.trans hs)
  have HX3 : Hid (w3.heap[w.heap.size]? = some (.cells #[.int .i64 si, .slice lo sl.length lc, .slice po sp.length pc, .slice so ss.length sc] 48 (0, 0))) := hs.row HX2.out hbne (by decide)
  clear hs CW2
  have c3_0 : w3.cell? ⟨w.heap.size, 0, none⟩ = some (.int .i64 si) := wr_cells HX3.out 0
  have c3_1 : w3.cell? ⟨w.heap.size, 1, none⟩ = some (.slice lo sl.length lc) := wr_cells HX3.out 1
  have c3_2 : w3.cell? ⟨w.heap.size, 2, none⟩ = some (.slice po sp.length pc) := wr_cells HX3.out 2
  have c3_3 : w3.cell? ⟨w.heap.size, 3, none⟩ = some (.slice so ss.length sc) := wr_cells HX3.out 3
  clear c2_0 c2_1 c2_2 c2_3
  have CW3 := ghid (HLC3.out t3 w3 HS3.out.below HS3.out.has HZ3.out)
  go_wp2_with fail
  refine CW3.out.mono ?_
  rintro e w4 ⟨rfl, hs⟩
  rw [← HT3.out] at hs
  have HS4 := ghid (HS3.out.trans hs)
  clear hs CW3
  go_wp2
  go_end0
  exact ⟨rfl, HS4.out⟩

set_option maxRecDepth 100000 in
set_option maxHeartbeats 1600000 in
theorem encode_ok_s (v : Value) (s : StateD) (w : World) (B : Nat) (hv : StateR w B v s) (hB : B ≤ w.heap.size) (hr : checkM s = 0) :
    Calls Tryz.prog 43 #[v] w fun e w' => e = .returned (.tuple #[.string (snapOut s), .int .i64 0]) ∧ Below w.heap.size w w' := by
  have hg := GoodM.of hr
  have hle := snapBody_le hg
  have HNE : Hid (snapBody s ≠ ⟨#[]⟩) := by
    unfold Hid
    intro e
    have h1 : (snapBody s).size = 0 := by rw [e]; rfl
    have h2 := (encN_length s.index).1
    have h3 := strOfNums_size (encN s.index)
    have h4 : (numOut s.index).size = (encN s.index).length := h3
    unfold snapBody at h1
    rw [ByteArray.size_append] at h1
    omega
  obtain ⟨lv, pv, sv, rfl, hl, hp, hs⟩ := id hv
  obtain ⟨lo, lc, rfl, -⟩ := id hl
  obtain ⟨po, pc, rfl, -⟩ := id hp
  obtain ⟨so, sc, rfl, -⟩ := id hs
  have hb0 : Below w.heap.size w (w.alloc (.cells #[.int .i64 s.index, .slice lo s.locks.length lc, .slice po s.pairs.length pc, .slice so s.sess.length sc] 48)) := (Below.refl _ _).alloc (Nat.le_refl _) _
  have HX0 : Hid ((w.alloc (.cells #[.int .i64 s.index, .slice lo s.locks.length lc, .slice po s.pairs.length pc, .slice so s.sess.length sc] 48)).heap[w.heap.size]? = some (.cells #[.int .i64 s.index, .slice lo s.locks.length lc, .slice po s.pairs.length pc, .slice so s.sess.length sc] 48 (0, 0))) := heap_alloc_new w _
  have hz0 : (w.alloc (.cells #[.int .i64 s.index, .slice lo s.locks.length lc, .slice po s.pairs.length pc, .slice so s.sess.length sc] 48)).heap.size = w.heap.size + 1 := by simp
  have CF := ghid (machCheck_any _ s _ B (hv.below hb0 hB) (by have := hb0.size; omega))
  rw [hr] at CF
  have HV := ghid hv
  have HG := ghid hg
  have HB0 := ghid hb0
  clear hv hl hp hs hb0 hg
  go_enter Tryz.func43, Tryz.ntmps43
  go_wp2_with fail
  refine CF.out.mono ?_
  rintro e w1 ⟨rfl, hb1⟩
  have hz1 : w.heap.size + 1 ≤ w1.heap.size := by have := hb1.size; omega
  have HX1 : Hid (w1.heap[w.heap.size]? = _) := (hb1.block _ (by omega)).trans HX0.out
  have HB1 := ghid (HB0.out.trans (hb1.mono HB0.out.size))
  have hba : Below w1.heap.size w1 (w1.alloc (.cells #[.pointer none, .slice none 0 0] 151)) := (Below.refl _ _).alloc (Nat.le_refl _) _
  have HW1 : Hid (WrT w1.heap.size w1.heap.size ⟨#[]⟩ (w1.alloc (.cells #[.pointer none, .slice none 0 0] 151))) := Lib.IsBuilderF.of (Lib.fresh_isBuilder 151 5 w1)
  have HX2 : Hid ((w1.alloc (.cells #[.pointer none, .slice none 0 0] 151)).heap[w.heap.size]? = _) := (hba.block _ (by omega)).trans HX1.out
  have HB2 := ghid (HB1.out.trans (hba.mono (by omega)))
  obtain ⟨c0, c1, c2, c3, cf, -⟩ := state_cells HX2.out
  have CS := ghid (wr_state w1.heap.size w1.heap.size ⟨#[]⟩ _ s (w1.alloc (.cells #[.pointer none, .slice none 0 0] 151)) ((HV.out.below HB2.out hB).mono (by omega)) HG.out (by simp) HW1.out (by decide))
  rw [nilB] at CS
  clear hb1 CF hba
  go_wp2_with fail
  refine CS.out.mono ?_
  rintro e w2 ⟨rfl, hs2⟩
  have HB3 := ghid (HB2.out.trans (hs2.below.mono (by omega)))
  have hz2 : w1.heap.size < w2.heap.size := hs2.has.lt.2
  have CT := ghid (wrString_any w1.heap.size w1.heap.size _ w2 hs2.has (by intro e; exact HNE.out (bytes_ext (by rw [e]))))
  have hbe : (⟨(snapBody s).data.toList.toArray⟩ : ByteArray) = snapBody s := bytes_ext rfl
  rw [hbe] at CT
  have CSL := ghid (fun u => seal_any (snapBody s) u (by unfold maxLen; omega))
  have hsz : (sealOut (snapBody s)).size = 4 := sealOut_size _
  have HOUT : Hid (snapBody s ++ sealOut (snapBody s) = snapOut s) := rfl
  obtain ⟨body, hbody⟩ : ∃ body, body = snapBody s := ⟨_, rfl⟩
  rw [← hbody] at CT CSL hsz HOUT hle
  obtain ⟨sl, hsl⟩ : ∃ sl, sl = sealOut body := ⟨_, rfl⟩
  rw [← hsl] at CSL hsz HOUT
  have hadd : ¬ 9223372036854775807 < body.size + sl.size := by omega
  clear hs2 CS hbe hbody hsl
  go_wp2_with fail
  refine CT.out.mono ?_
  rintro e w3 ⟨rfl, hb3, -⟩
  have HB4 := ghid (HB3.out.trans (hb3.mono (by omega)))
  clear hb3 CT
  go_wp2_with fail
  refine (CSL.out _).mono ?_
  rintro e w4 ⟨rfl, hb4⟩
  have HB5 := ghid (HB4.out.trans (hb4.mono HB4.out.size))
  clear hb4
  go_wp2
  go_ret2
  exact ⟨by rw [HOUT.out]; rfl, HB5.out⟩

end Go.Proofs.YtijilhbdbeajjaaGreatDoor

namespace Go.Proofs.YtijilhbdbeajjaaGreatDoor

open Go.RowKit

set_option maxRecDepth 100000 in
set_option maxHeartbeats 3200000 in
theorem compact_any (v : Value) (r : RepD) (w : World) (B : Nat) (hv : RepR w B v r) (hB : B ≤ w.heap.size) (hr : repE r = 0) :
    Calls Tryz.prog 155 #[v] w fun e w' => ∃ v', e = .returned (.tuple #[v', .int .i64 (compE r)]) ∧ Firm w.heap.size w' (fun u => RepR u u.heap.size v' (compL r)) ∧ Below w.heap.size w w' := by
  obtain ⟨k1, k2, ⟨k3, k4⟩, k5⟩ := repE_zero hr
  obtain ⟨⟨l1, l2, l3⟩, -⟩ := logE_zero k1
  obtain ⟨eo, lo, po, so, ec, ln, lc, pn, pc, sn, sc, rfl, hl, hs, hst⟩ := hv.parts
  have HE : Hid (compE r = if r.state.index = r.log.base then 12 else if cutE r.log r.state.index ≠ 0 then cutE r.log r.state.index else 0) := by
    unfold Hid compE
    rw [if_neg (by simpa using hr)]
  have HLZ : Hid (compE r ≠ 0 → compL r = .zero) := fun h => if_neg h
  have HLO : Hid (compE r = 0 → compL r = ⟨cutL r.log r.state.index, snapOut r.state, r.state⟩) := fun h => if_pos h
  have hso : (snapOut r.state).size ≤ 140737488351232 := by have := snapBody_le (GoodM.of k2); have := snapOut_size r.state; omega
  unfold lastL at k4
  obtain ⟨E, hE⟩ : ∃ E, E = compE r := ⟨_, rfl⟩
  obtain ⟨L, hL⟩ : ∃ L, L = compL r := ⟨_, rfl⟩
  have HV := ghid hv
  obtain ⟨⟨base, ts⟩, sp, s⟩ := r
  rw [← hE] at HE
  rw [← hE, ← hL] at HLZ HLO
  rw [← hE, ← hL]
  simp only at l1 l2 l3 k3 k4 k2 hso HE HLO HV hl hs hst ⊢
  obtain ⟨ix, hix⟩ : ∃ ix, ix = s.index := ⟨_, rfl⟩
  obtain ⟨n, hn⟩ : ∃ n, n = ts.length := ⟨_, rfl⟩
  rw [← hix] at HE HLO HV hst k3 k4 ⊢
  rw [← hn] at k4 l3 hl HV ⊢
  obtain ⟨pe, hpe⟩ : ∃ pe, pe = cutE ⟨base, ts⟩ ix := ⟨_, rfl⟩
  obtain ⟨⟨pb, pt⟩, hpl⟩ : ∃ pl, pl = cutL ⟨base, ts⟩ ix := ⟨_, rfl⟩
  rw [← hpe] at HE
  rw [← hpl] at HLO
  have HZ : Hid (Below w.heap.size w ((w.alloc (.cells #[.int .i64 base, .slice eo n ec, .string sp, .int .i64 ix, .slice lo ln lc, .slice po pn pc, .slice so sn sc] 50)).alloc (.cells #[.int .i64 0, .slice none 0 0, .string ⟨#[]⟩, .int .i64 0, .slice none 0 0, .slice none 0 0, .slice none 0 0] 50))) := (((Below.refl _ _).alloc (Nat.le_refl _) _).alloc (by simp) _)
  have CC := ghid (repCheck_ok _ _ _ B (HV.out.below HZ.out hB) (by have := HZ.out.size; omega) hr)
  have CP := ghid (fun u (hu : Below w.heap.size w u) => cut_new _ ⟨base, ts⟩ ix u B (hl.below hu hB) (by have := hu.size; omega) ⟨by omega, by omega⟩)
  rw [← hpe, ← hpl] at CP
  have CE := ghid (fun u (hu : Below w.heap.size w u) => encode_ok_s _ s u B (hst.below hu hB) (by have := hu.size; omega) k2)
  have CM := ghid (fun u (hu : Below w.heap.size w u) => machCopy_own _ s u B (hst.below hu hB) (by have := hu.size; omega))
  obtain ⟨ns, hns⟩ : ∃ ns, ns = snapOut s := ⟨_, rfl⟩
  rw [← hns] at CE HLO hso
  rw [← hix] at CM
  have HS := ghid hso
  have HI := ghid hix
  clear hl hs hst hv hr k1 k2 k5 HV hE hL hix hn hpe hpl l3 hso hns hB
  go_enter Tryz.func155, Tryz.ntmps155
  go_wp2_with fail
  refine CC.out.mono ?_
  rintro e w1 ⟨rfl, hb⟩
  obtain ⟨hx, hrr, hbw⟩ := boxes7 (by simpa using hb)
  have HB := ghid hbw
  have HX := ghid hx
  have HR := ghid hrr
  clear hb hx hrr hbw CC
  obtain ⟨c0, c1, c2, c3, c4, c5, c6, cf, hpl⟩ := seven_cells HX.out
  by_cases hib : ix = base
  · have HE2 : Hid (E = 12) := HE.out.trans (if_pos hib)
    have HZ2 := ghid (HLZ.out (by rw [HE2.out]; decide))
    obtain ⟨r0, r1, r2, r3, r4, r5, r6, rf, rl⟩ := seven_cells HR.out
    subst hib
    clear HE
    have HF := ghid (zset7 (b := w.heap.size + 1) HB.out (by omega) (.int .i64 0) (.slice none 0 0) (.string ⟨#[]⟩) (.int .i64 0) (.slice none 0 0) (.slice none 0 0) (.slice none 0 0))
    go_wp2
    refine bodyPost_ret (v := .tuple #[.agg #[.int .i64 0, .slice none 0 0, .string ⟨#[]⟩, .int .i64 0, .slice none 0 0, .slice none 0 0, .slice none 0 0], .int .i64 12]) (by simp [results, Tryz.results155, go_sem, r0, r1, r2, r3, r4, r5, r6]) rfl ?_
    exact ⟨_, by rw [HE2.out], by rw [HZ2.out]; exact Firm.of fun _ => RepR.nil _ _, HF.out⟩
  · have hibb : (ix == base) = false := by simpa using hib
    have HE1 := ghid (HE.out.trans (if_neg hib))
    clear hib HE
    go_wp2_with fail
    refine (CP.out _ HB.out).mono ?_
    rintro e w2 ⟨v2, rfl, hl2, hb2⟩
    obtain ⟨ho, hc, rfl, ht2⟩ := hl2.now.shape
    simp only at ht2 ⊢
    have hba : Below w2.heap.size w2 (w2.alloc (.cells #[.int .i64 pb, .slice ho pt.length hc] 43)) := (Below.refl _ _).alloc (Nat.le_refl _) _
    have hb1z := HB.out.size
    have hrl1 : w.heap.size + 1 < w1.heap.size := (Array.getElem?_eq_some_iff.1 HR.out).1
    have HB3 := ghid (HB.out.trans ((hb2.trans (hba.mono hb2.size)).mono hb1z))
    have HX3 := ghid (behind (behind HX.out (Below.refl _ _) hb2) (Below.refl _ _) hba)
    have HR3 := ghid (behind (behind HR.out (Below.refl _ _) hb2) (Below.refl _ _) hba)
    have HY3 := ghid (heap_alloc_new w2 (.cells #[.int .i64 pb, .slice ho pt.length hc] 43))
    have HL3 := ghid (hl2.below hba)
    obtain ⟨w3, hw3⟩ : ∃ w3, w3 = w2.alloc (.cells #[.int .i64 pb, .slice ho pt.length hc] 43) := ⟨_, rfl⟩
    obtain ⟨y, hy⟩ : ∃ y, y = w2.heap.size := ⟨_, rfl⟩
    have HYZ : Hid (w.heap.size + 1 < y) := (by have := hb2.size; omega : w.heap.size + 1 < y)
    rw [← hw3] at HB3 HX3 HR3 HY3 HL3
    rw [← hy] at HY3
    have HW3 := ghid hw3
    have HY := ghid hy
    clear hl2 ht2 hb2 hba hw3 hy HX HR CP c0 c1 c2 c3 c4 c5 c6 cf hpl hb1z
    by_cases hp0 : pe = 0
    · have HE2 : Hid (E = 0) := HE1.out.trans (if_neg (by simpa using hp0))
      subst hp0
      have HLF := ghid (HLO.out HE2.out)
      clear HE1 HLO HLZ
      go_upto_region 7 with fail
      rw [← HW3.out, ← HY.out]
      clear HW3 HY
      obtain ⟨d0, d1, dl⟩ := two_cells HY3.out
      obtain ⟨c0, c1, c2, c3, c4, c5, c6, cf, hpl⟩ := seven_cells HX3.out
      go_wp2_with fail
      refine (CE.out _ HB3.out).mono ?_
      rintro e w4 ⟨rfl, hb4⟩
      have HB4 := ghid (HB3.out.trans (hb4.mono HB3.out.size))
      have HX4 := ghid (behind HX3.out (Below.refl _ _) hb4)
      have HR4 := ghid (behind HR3.out (Below.refl _ _) hb4)
      have HY4 := ghid (behind HY3.out (Below.refl _ _) hb4)
      have HL4 := ghid (HL3.out.below hb4)
      clear hb4 HX3 HR3 HY3 HL3 HB3 CE
      obtain ⟨c0, c1, c2, c3, c4, c5, c6, cf, hpl⟩ := seven_cells HX4.out
      obtain ⟨d0, d1, dl⟩ := two_cells HY4.out
      have hyn1 : y ≠ w.heap.size + 1 := by have := HYZ.out; omega
      have hyn2 : w.heap.size + 1 ≠ y := fun e => hyn1 e.symm
      go_wp2
      go_region_held3 (fun w' => w'.cell? ⟨w.heap.size, 0, none⟩ = some (.int .i64 base) ∧ w'.cell? ⟨w.heap.size, 1, none⟩ = some (.slice eo n ec) ∧ w'.cell? ⟨w.heap.size, 2, none⟩ = some (.string sp) ∧ w'.cell? ⟨w.heap.size, 3, none⟩ = some (.int .i64 ix) ∧ w'.cell? ⟨w.heap.size, 4, none⟩ = some (.slice lo ln lc) ∧ w'.cell? ⟨w.heap.size, 5, none⟩ = some (.slice po pn pc) ∧ w'.cell? ⟨w.heap.size, 6, none⟩ = some (.slice so sn sc) ∧ w'.cell? ⟨y, 0, none⟩ = some (.int .i64 pb) ∧ w'.cell? ⟨y, 1, none⟩ = some (.slice ho pt.length hc)) (go_keep)
        (first
          | (go_at_call 59; have hd := (Below.refl w4.heap.size w4).drew; refine (CM.out _ (HB4.out.trans (hd.mono HB4.out.size))).mono ?_; rintro e w7 ⟨lo7, po7, so7, ln7, lc7, pn7, pc7, sn7, sc7, rfl, hs7, hb7⟩; have hbd := hd.trans hb7; have HB7 := ghid (HB4.out.trans (hbd.mono HB4.out.size)); have HR7 := ghid (behind HR4.out (Below.refl _ _) hbd); have HL7 := ghid (HL4.out.below hbd); have HS7 := ghid hs7; obtain ⟨c0, c1, c2, c3, c4, c5, c6, cf, hpl⟩ := seven_cells (behind HX4.out (Below.refl _ _) hbd); obtain ⟨d0, d1, dl⟩ := two_cells (behind HY4.out (Below.refl _ _) hbd); clear hd hbd hb7 hs7; obtain ⟨r0, r1, r2, r3, r4, r5, r6, rf, rl⟩ := seven_cells HR7.out))
      all_goals
        have HF := ghid (zset7 (b := w.heap.size + 1) HB7.out (by omega) (.int .i64 pb) (.slice ho pt.length hc) (.string ns) (.int .i64 ix) (.slice lo7 ln7 lc7) (.slice po7 pn7 pc7) (.slice so7 sn7 sc7))
        have HA := ghid ((HL7.out.set7 (p := w.heap.size + 1) hrl1 (.int .i64 pb) (.slice ho pt.length hc) (.string ns) (.int .i64 ix) (.slice lo7 ln7 lc7) (.slice po7 pn7 pc7) (.slice so7 sn7 sc7)).mono (by omega : w.heap.size ≤ w1.heap.size)).firm
        have HC := ghid ((HS7.out.set7 HR7.out (.int .i64 pb) (.slice ho pt.length hc) (.string ns) (.int .i64 ix) (.slice lo7 ln7 lc7) (.slice po7 pn7 pc7) (.slice so7 sn7 sc7)).firm w.heap.size)
        go_wp2
        refine bodyPost_ret (v := .tuple #[.agg #[.int .i64 pb, .slice ho pt.length hc, .string ns, .int .i64 ix, .slice lo7 ln7 lc7, .slice po7 pn7 pc7, .slice so7 sn7 sc7], .int .i64 0]) (by simp [results, Tryz.results155, go_sem, r0, r1, r2, r3, r4, r5, r6]) rfl ?_
        exact ⟨_, by rw [HE2.out], by rw [HLF.out]; exact RepR.firm (fun u hu => (HA.out u hu).part) HS.out HC.out, HF.out⟩
    · have HE2 : Hid (E = pe) := HE1.out.trans (if_pos hp0)
      have hpb : (pe != 0) = true := by simpa using hp0
      have HZ2 := ghid (HLZ.out (by rw [HE2.out]; exact hp0))
      obtain ⟨r0, r1, r2, r3, r4, r5, r6, rf, rl⟩ := seven_cells HR3.out
      clear HE1 hp0
      go_upto_region 7 with fail
      rw [← HW3.out, ← HY.out]
      clear HW3 HY
      have HF := ghid (zset7 (b := w.heap.size + 1) HB3.out (by omega) (.int .i64 0) (.slice none 0 0) (.string ⟨#[]⟩) (.int .i64 0) (.slice none 0 0) (.slice none 0 0) (.slice none 0 0))
      go_wp2
      refine bodyPost_ret (v := .tuple #[.agg #[.int .i64 0, .slice none 0 0, .string ⟨#[]⟩, .int .i64 0, .slice none 0 0, .slice none 0 0, .slice none 0 0], .int .i64 pe]) (by simp [results, Tryz.results155, go_sem, r0, r1, r2, r3, r4, r5, r6]) rfl ?_
      exact ⟨_, by rw [HE2.out], by rw [HZ2.out]; exact Firm.of fun _ => RepR.nil _ _, HF.out⟩

end Go.Proofs.YtijilhbdbeajjaaGreatDoor

namespace Go.Proofs.YtijilhbdbeajjaaGreatDoor

open Go.RowKit

set_option maxRecDepth 100000 in
set_option maxHeartbeats 3200000 in
theorem restart_any (v : Value) (r : RepD) (w : World) (B : Nat) (hv : RepR w B v r) (hB : B ≤ w.heap.size) (hr : repE r = 0) :
    Calls Tryz.prog 157 #[v] w fun e w' => ∃ v', e = .returned (.tuple #[v', .int .i64 0]) ∧ Firm w.heap.size w' (fun u => RepR u u.heap.size v' (restL r)) ∧ Below w.heap.size w w' := by
  obtain ⟨-, -, -, k5⟩ := repE_zero hr
  obtain ⟨eo, lo, po, so, ec, ln, lc, pn, pc, sn, sc, rfl, hl, hs, hst⟩ := hv.parts
  have HLF : Hid (restL r = ⟨r.log, r.snap, recallL r.snap⟩) := if_pos hr
  obtain ⟨L, hL⟩ : ∃ L, L = restL r := ⟨_, rfl⟩
  have HV := ghid hv
  have hre := recall_zero k5
  obtain ⟨⟨base, ts⟩, sp, s⟩ := r
  rw [← hL] at HLF ⊢
  simp only at HLF HV hl hs hst hre ⊢
  obtain ⟨ix, hix⟩ : ∃ ix, ix = s.index := ⟨_, rfl⟩
  obtain ⟨n, hn⟩ : ∃ n, n = ts.length := ⟨_, rfl⟩
  rw [← hix] at HV hst ⊢
  rw [← hn] at hl HV ⊢
  have HZ : Hid (Below w.heap.size w ((w.alloc (.cells #[.int .i64 base, .slice eo n ec, .string sp, .int .i64 ix, .slice lo ln lc, .slice po pn pc, .slice so sn sc] 50)).alloc (.cells #[.int .i64 0, .slice none 0 0, .string ⟨#[]⟩, .int .i64 0, .slice none 0 0, .slice none 0 0, .slice none 0 0] 50))) := (((Below.refl _ _).alloc (Nat.le_refl _) _).alloc (by simp) _)
  have CC := ghid (repCheck_ok _ _ _ B (HV.out.below HZ.out hB) (by have := HZ.out.size; omega) hr)
  have CR := ghid (fun u => recall_any sp u hs)
  rw [hre] at CR
  have CL := ghid (fun u (hu : Below w.heap.size w u) => logCopy_new _ ⟨base, ts⟩ u B (hl.below hu hB) (by have := hu.size; omega))
  simp only at CL
  rw [← hn] at CL
  have CS := ghid (fun u => clone_any sp u (by omega))
  obtain ⟨x, hx⟩ : ∃ x, x = recallL sp := ⟨_, rfl⟩
  rw [← hx] at CR HLF
  have HS := ghid hs
  have HN := ghid hn
  clear hl hs hst hv hr k5 HV hL hix hn hre hx hB
  go_enter Tryz.func157, Tryz.ntmps157
  go_wp2_with fail
  refine CC.out.mono ?_
  rintro e w1 ⟨rfl, hb⟩
  obtain ⟨hx, hrr, hbw⟩ := boxes7 (by simpa using hb)
  have HB := ghid hbw
  have HX := ghid hx
  have HR := ghid hrr
  clear hb hx hrr hbw CC
  obtain ⟨c0, c1, c2, c3, c4, c5, c6, cf, hpl⟩ := seven_cells HX.out
  go_wp2_with fail
  refine (CR.out _).mono ?_
  rintro e w2 ⟨v2, rfl, hl2, hb2⟩
  obtain ⟨lo2, ln2, lc2, po2, pn2, pc2, so2, sn2, sc2, rfl⟩ := hl2.now.shape
  have hba : Below w2.heap.size w2 (w2.alloc (.cells #[.int .i64 x.index, .slice lo2 ln2 lc2, .slice po2 pn2 pc2, .slice so2 sn2 sc2] 48)) := (Below.refl _ _).alloc (Nat.le_refl _) _
  have hb1z := HB.out.size
  have hrl1 : w.heap.size + 1 < w1.heap.size := (Array.getElem?_eq_some_iff.1 HR.out).1
  have HB3 := ghid (HB.out.trans ((hb2.trans (hba.mono hb2.size)).mono hb1z))
  have HX3 := ghid (behind (behind HX.out (Below.refl _ _) hb2) (Below.refl _ _) hba)
  have HR3 := ghid (behind (behind HR.out (Below.refl _ _) hb2) (Below.refl _ _) hba)
  have HY3 := ghid (heap_alloc_new w2 (.cells #[.int .i64 x.index, .slice lo2 ln2 lc2, .slice po2 pn2 pc2, .slice so2 sn2 sc2] 48))
  have HL3 := ghid (hl2.below hba)
  obtain ⟨w3, hw3⟩ : ∃ w3, w3 = w2.alloc (.cells #[.int .i64 x.index, .slice lo2 ln2 lc2, .slice po2 pn2 pc2, .slice so2 sn2 sc2] 48) := ⟨_, rfl⟩
  obtain ⟨y, hy⟩ : ∃ y, y = w2.heap.size := ⟨_, rfl⟩
  have HYZ : Hid (w.heap.size + 1 < y) := (by have := hb2.size; omega : w.heap.size + 1 < y)
  rw [← hw3] at HB3 HX3 HR3 HY3 HL3
  rw [← hy] at HY3
  have HW3 := ghid hw3
  have HY := ghid hy
  have hz3 : w.heap.size + 1 < w3.heap.size := (Array.getElem?_eq_some_iff.1 HR3.out).1
  clear hl2 hb2 hba hw3 hy HX HR CR c0 c1 c2 c3 c4 c5 c6 cf hpl hb1z
  go_upto_region 5 with fail
  rw [← HW3.out, ← HY.out]
  clear HW3 HY
  obtain ⟨d0, d1, d2, d3, df, dl⟩ := state_cells HY3.out
  obtain ⟨c0, c1, c2, c3, c4, c5, c6, cf, hpl⟩ := seven_cells HX3.out
  have hyn1 : y ≠ w.heap.size + 1 := by have := HYZ.out; omega
  have hyn2 : w.heap.size + 1 ≠ y := fun e => hyn1 e.symm
  go_wp2
  go_region_held3 (fun w' => w'.cell? ⟨w.heap.size, 0, none⟩ = some (.int .i64 base) ∧ w'.cell? ⟨w.heap.size, 1, none⟩ = some (.slice eo n ec) ∧ w'.cell? ⟨w.heap.size, 2, none⟩ = some (.string sp) ∧ w'.cell? ⟨w.heap.size, 3, none⟩ = some (.int .i64 ix) ∧ w'.cell? ⟨w.heap.size, 4, none⟩ = some (.slice lo ln lc) ∧ w'.cell? ⟨w.heap.size, 5, none⟩ = some (.slice po pn pc) ∧ w'.cell? ⟨w.heap.size, 6, none⟩ = some (.slice so sn sc) ∧ w'.cell? ⟨y, 0, none⟩ = some (.int .i64 x.index) ∧ w'.cell? ⟨y, 1, none⟩ = some (.slice lo2 ln2 lc2) ∧ w'.cell? ⟨y, 2, none⟩ = some (.slice po2 pn2 pc2) ∧ w'.cell? ⟨y, 3, none⟩ = some (.slice so2 sn2 sc2)) (go_keep)
    (first
      | (go_at_call 206; have hd := (Below.refl w3.heap.size w3).drew; refine (CL.out _ (HB3.out.trans (hd.mono HB3.out.size))).mono ?_; rintro e w4 ⟨vo, vc, rfl, ho4, hb4⟩; have hbd := hd.trans hb4; have HB4 := ghid (HB3.out.trans (hbd.mono HB3.out.size)); have HX4 := ghid (behind HX3.out (Below.refl _ _) hbd); have HR4 := ghid (behind HR3.out (Below.refl _ _) hbd); have HY4 := ghid (behind HY3.out (Below.refl _ _) hbd); have HL4 := ghid (HL3.out.below hbd); have HO4 := ghid (ho4.mono (Nat.le_succ w3.heap.size)); clear hd hbd hb4 ho4; obtain ⟨c0, c1, c2, c3, c4, c5, c6, cf, hpl⟩ := seven_cells HX4.out; obtain ⟨d0, d1, d2, d3, df, dl⟩ := state_cells HY4.out)
      | (go_at_call 134; refine (CS.out _).mono ?_; rintro e w5 ⟨rfl, hb5⟩; have HB5 := ghid (HB4.out.trans (hb5.mono HB4.out.size)); have HR5 := ghid (behind HR4.out (Below.refl _ _) hb5); have HL5 := ghid (HL4.out.below hb5); have HO5 := ghid (HO4.out.below hb5); obtain ⟨c0, c1, c2, c3, c4, c5, c6, cf, hpl⟩ := seven_cells (behind HX4.out (Below.refl _ _) hb5); obtain ⟨d0, d1, d2, d3, df, dl⟩ := state_cells (behind HY4.out (Below.refl _ _) hb5); clear hb5; obtain ⟨r0, r1, r2, r3, r4, r5, r6, rf, rl⟩ := seven_cells HR5.out))
  all_goals
    have HF := ghid (zset7 (b := w.heap.size + 1) HB5.out (by omega) (.int .i64 base) (.slice vo n vc) (.string sp) (.int .i64 x.index) (.slice lo2 ln2 lc2) (.slice po2 pn2 pc2) (.slice so2 sn2 sc2))
    have HA := ghid ((HL5.out.set7 (p := w.heap.size + 1) hrl1 (.int .i64 base) (.slice vo n vc) (.string sp) (.int .i64 x.index) (.slice lo2 ln2 lc2) (.slice po2 pn2 pc2) (.slice so2 sn2 sc2)).mono (by omega : w.heap.size ≤ w1.heap.size)).firm
    have HC := ghid (((HO5.out.touch (touch7 (w.heap.size + 1) (.int .i64 base) (.slice vo n vc) (.string sp) (.int .i64 x.index) (.slice lo2 ln2 lc2) (.slice po2 pn2 pc2) (.slice so2 sn2 sc2)) fun _ _ e => e ▸ rep_alien HR5.out).mono (m := w.heap.size) (by omega)).firm)
    go_wp2
    refine bodyPost_ret (v := .tuple #[.agg #[.int .i64 base, .slice vo n vc, .string sp, .int .i64 x.index, .slice lo2 ln2 lc2, .slice po2 pn2 pc2, .slice so2 sn2 sc2], .int .i64 0]) (by simp [results, Tryz.results157, go_sem, r0, r1, r2, r3, r4, r5, r6]) rfl ?_
    exact ⟨_, rfl, by rw [HLF.out]; exact RepR.firm HC.out HS.out HA.out, HF.out⟩

end Go.Proofs.YtijilhbdbeajjaaGreatDoor

namespace Go.Proofs.YtijilhbdbeajjaaGreatDoor

open Go.RowKit

section

variable {gh g2 ev : Value} {w : World} {p : Nat} {K : Nat → Prop} {rv cv mv tv : Value} {xs : List RepV} {cs : List CustV} {t : TownD} {n : Nat}

set_option maxRecDepth 100000 in
set_option maxHeartbeats 3200000 in
theorem compact_town (h : TownM 32 [gh, g2, ev] w p K rv cv mv tv xs cs t) (hG : TownR t n) (hn : n ≤ 400) {k : Nat} (hk : k < 3) (R : TownD × Int) (hR : R = if compE (t.rep k) ≠ 0 then (t, compE (t.rep k)) else (t.setRep k (compL (t.rep k)), 0)) :
    Calls Tryz.prog 109 #[.pointer (some ⟨p, 0, none⟩), .int .i64 (k : Int)] w fun e w' => e = .returned (.int .i64 R.2) ∧ MovedE 32 [gh, g2, ev] w w' p K R.1 := by
  obtain ⟨g, cap, rfl, hcap, -⟩ := h.rrow
  have HH := ghid h
  obtain ⟨x, hx, hxd, hxr⟩ := h.rep hk
  obtain ⟨r0, r1, r2, r3, r4, r5, r6, rf, hgl⟩ := h.rcells rfl hx
  have CC := ghid (compact_any x.val (t.rep k) w w.heap.size hxr (Nat.le_refl _) (lead_good hG hn hk))
  obtain ⟨ce, hce⟩ : ∃ z, z = compE (t.rep k) := ⟨_, rfl⟩
  obtain ⟨cl, hcl⟩ : ∃ z, z = compL (t.rep k) := ⟨_, rfl⟩
  rw [← hce, ← hcl] at CC hR
  have HR := ghid hR
  obtain ⟨xd, eo, lo, po, so, ec, ln, lc, pn, pc, sn, sc⟩ := x
  simp only [RepV.val] at r0 r1 r2 r3 r4 r5 r6 CC
  obtain ⟨c0, c1, c2, c3, c4, c5, cf, hpl⟩ := six_cells h.cells
  have hk3 : (k : Int) < 3 := by omega
  have hkk := hk
  clear h hx hxd hxr hce hcl hR hk
  go_enter Tryz.func109, Tryz.ntmps109
  go_wp2_with fail
  refine CC.out.mono ?_
  rintro e w1 ⟨v1, rfl, hf1, hb1⟩
  obtain ⟨⟨yd, yeo, ylo, ypo, yso, yec, yln, ylc, ypn, ypc, ysn, ysc⟩, rfl, hyd, hy⟩ := HH.out.firmR hb1 hf1
  simp only [RepV.val] at hyd ⊢
  have hba : Below w1.heap.size w1 (w1.alloc (.cells #[.int .i64 yd.log.base, .slice yeo yd.log.ents.length yec, .string yd.snap, .int .i64 yd.state.index, .slice ylo yln ylc, .slice ypo ypn ypc, .slice yso ysn ysc] 50)) := (Below.refl _ _).alloc (Nat.le_refl _) _
  have HB2 := ghid (hb1.trans (hba.mono hb1.size))
  have HX2 := ghid (heap_alloc_new w1 (.cells #[.int .i64 yd.log.base, .slice yeo yd.log.ents.length yec, .string yd.snap, .int .i64 yd.state.index, .slice ylo yln ylc, .slice ypo ypn ypc, .slice yso ysn ysc] 50))
  have HY2 := ghid (hy.draw hba)
  obtain ⟨w2, hw2⟩ : ∃ w2, w2 = w1.alloc (.cells #[.int .i64 yd.log.base, .slice yeo yd.log.ents.length yec, .string yd.snap, .int .i64 yd.state.index, .slice ylo yln ylc, .slice ypo ypn ypc, .slice yso ysn ysc] 50) := ⟨_, rfl⟩
  obtain ⟨b, hb⟩ : ∃ b, b = w1.heap.size := ⟨_, rfl⟩
  have HYD := ghid hyd
  rw [← hw2] at HB2 HX2 HY2
  rw [← hb] at HX2
  have HW2 := ghid hw2
  have HBB := ghid hb
  clear hb1 hf1 hy hba hw2 hb CC r0 r1 r2 r3 r4 r5 r6 rf c0 c1 c2 c3 c4 c5 cf hpl hyd
  go_upto_region 2 with fail
  rw [← HW2.out, ← HBB.out]
  have HM2 := ghid (HH.out.below HB2.out)
  obtain ⟨c0, c1, c2, c3, c4, c5, cf, hpl⟩ := six_cells HM2.out.cells
  obtain ⟨r0, r1, r2, r3, r4, r5, r6, rf, hbl⟩ := seven_cells HX2.out
  by_cases h0 : ce = 0
  · have HRR : Hid (R = (t.setRep k cl, 0)) := HR.out.trans (if_neg (by simpa using h0))
    subst h0
    have CK := ghid (fun m => keepR_ok (w := w2.drewN m) (HM2.out.below (g_drewN_below _ _ m)) odd_out rfl hkk (y := ⟨yd, yeo, ylo, ypo, yso, yec, yln, ylc, ypn, ypc, ysn, ysc⟩) (HY2.out.draw (g_drewN_below _ _ m)))
    simp only [RepV.val] at CK
    clear HR
    go_wp2_with fail
    go_region_with (first
      | (go_at_call 156; refine (CK.out _).mono ?_; rintro e w3 ⟨rfl, hm3⟩; have HM3 := ghid hm3; clear hm3))
    all_goals
      go_wp2
      go_ret
      exact ⟨sret_int (by rw [HRR.out]), by rw [HRR.out]; have := HM3.out.behind (HB2.out.trans (g_drewN_below _ _ _)); rwa [HYD.out] at this⟩
  · have HRR : Hid (R = (t, ce)) := HR.out.trans (if_pos h0)
    have CK := ghid (fun m => keepR_bad ⟨g, k * 7, none⟩ ⟨yd, yeo, ylo, ypo, yso, yec, yln, ylc, ypn, ypc, ysn, ysc⟩ ce h0 (w2.drewN m))
    simp only [RepV.val] at CK
    clear HR
    go_wp2_with fail
    go_region_with (first
      | (go_at_call 156; refine (CK.out _).mono ?_; rintro e w3 ⟨rfl, hm3⟩; have HM3 := ghid hm3; clear hm3))
    all_goals
      go_wp2
      go_ret
      exact ⟨sret_int (by rw [HRR.out]), by rw [HRR.out]; exact MovedE.same ⟨_, _, _, _, _, _, HH.out⟩ ((HB2.out.trans (g_drewN_below _ _ 1)).trans (HM3.out.mono HB2.out.size))⟩

set_option maxRecDepth 100000 in
set_option maxHeartbeats 3200000 in
theorem crash_town (h : TownM 32 [gh, g2, ev] w p K rv cv mv tv xs cs t) (hG : TownR t n) (hn : n ≤ 400) {k : Nat} (hk : k < 3) (R : TownD × Int) (hR : R = (t.setRep k (restL (t.rep k)), 0)) :
    Calls Tryz.prog 110 #[.pointer (some ⟨p, 0, none⟩), .int .i64 (k : Int)] w fun e w' => e = .returned (.int .i64 R.2) ∧ MovedE 32 [gh, g2, ev] w w' p K R.1 := by
  obtain ⟨g, cap, rfl, hcap, -⟩ := h.rrow
  have HH := ghid h
  obtain ⟨x, hx, hxd, hxr⟩ := h.rep hk
  obtain ⟨r0, r1, r2, r3, r4, r5, r6, rf, hgl⟩ := h.rcells rfl hx
  have CC := ghid (restart_any x.val (t.rep k) w w.heap.size hxr (Nat.le_refl _) (lead_good hG hn hk))
  obtain ⟨cl, hcl⟩ : ∃ z, z = restL (t.rep k) := ⟨_, rfl⟩
  rw [← hcl] at CC hR
  have HR := ghid hR
  obtain ⟨xd, eo, lo, po, so, ec, ln, lc, pn, pc, sn, sc⟩ := x
  simp only [RepV.val] at r0 r1 r2 r3 r4 r5 r6 CC
  obtain ⟨c0, c1, c2, c3, c4, c5, cf, hpl⟩ := six_cells h.cells
  have hk3 : (k : Int) < 3 := by omega
  have hkk := hk
  clear h hx hxd hxr hcl hR hk
  go_enter Tryz.func110, Tryz.ntmps110
  go_wp2_with fail
  refine CC.out.mono ?_
  rintro e w1 ⟨v1, rfl, hf1, hb1⟩
  obtain ⟨⟨yd, yeo, ylo, ypo, yso, yec, yln, ylc, ypn, ypc, ysn, ysc⟩, rfl, hyd, hy⟩ := HH.out.firmR hb1 hf1
  simp only [RepV.val] at hyd ⊢
  have hba : Below w1.heap.size w1 (w1.alloc (.cells #[.int .i64 yd.log.base, .slice yeo yd.log.ents.length yec, .string yd.snap, .int .i64 yd.state.index, .slice ylo yln ylc, .slice ypo ypn ypc, .slice yso ysn ysc] 50)) := (Below.refl _ _).alloc (Nat.le_refl _) _
  have HB2 := ghid (hb1.trans (hba.mono hb1.size))
  have HX2 := ghid (heap_alloc_new w1 (.cells #[.int .i64 yd.log.base, .slice yeo yd.log.ents.length yec, .string yd.snap, .int .i64 yd.state.index, .slice ylo yln ylc, .slice ypo ypn ypc, .slice yso ysn ysc] 50))
  have HY2 := ghid (hy.draw hba)
  obtain ⟨w2, hw2⟩ : ∃ w2, w2 = w1.alloc (.cells #[.int .i64 yd.log.base, .slice yeo yd.log.ents.length yec, .string yd.snap, .int .i64 yd.state.index, .slice ylo yln ylc, .slice ypo ypn ypc, .slice yso ysn ysc] 50) := ⟨_, rfl⟩
  obtain ⟨b, hb⟩ : ∃ b, b = w1.heap.size := ⟨_, rfl⟩
  have HYD := ghid hyd
  rw [← hw2] at HB2 HX2 HY2
  rw [← hb] at HX2
  have HW2 := ghid hw2
  have HBB := ghid hb
  clear hb1 hf1 hy hba hw2 hb CC r0 r1 r2 r3 r4 r5 r6 rf c0 c1 c2 c3 c4 c5 cf hpl hyd
  go_upto_region 2 with fail
  rw [← HW2.out, ← HBB.out]
  have HM2 := ghid (HH.out.below HB2.out)
  obtain ⟨c0, c1, c2, c3, c4, c5, cf, hpl⟩ := six_cells HM2.out.cells
  obtain ⟨r0, r1, r2, r3, r4, r5, r6, rf, hbl⟩ := seven_cells HX2.out
  have HRR := ghid HR.out
  have CK := ghid (fun m => keepR_ok (w := w2.drewN m) (HM2.out.below (g_drewN_below _ _ m)) odd_out rfl hkk (y := ⟨yd, yeo, ylo, ypo, yso, yec, yln, ylc, ypn, ypc, ysn, ysc⟩) (HY2.out.draw (g_drewN_below _ _ m)))
  simp only [RepV.val] at CK
  clear HR
  go_wp2_with fail
  go_region_with (first
    | (go_at_call 156; refine (CK.out _).mono ?_; rintro e w3 ⟨rfl, hm3⟩; have HM3 := ghid hm3; clear hm3))
  all_goals
    go_wp2
    go_ret
    exact ⟨sret_int (by rw [HRR.out]), by rw [HRR.out]; have := HM3.out.behind (HB2.out.trans (g_drewN_below _ _ _)); rwa [HYD.out] at this⟩

end

end Go.Proofs.YtijilhbdbeajjaaGreatDoor

namespace Go.Proofs.YtijilhbdbeajjaaGreatDoor

open Go.RowKit

section

variable {gh g2 ev : Value} {w : World} {p : Nat} {K : Nat → Prop} {rv cv mv tv : Value} {xs : List RepV} {cs : List CustV} {t : TownD} {n : Nat}

set_option maxRecDepth 100000 in
set_option maxHeartbeats 3200000 in
theorem lead_town (h : TownM 32 [gh, g2, ev] w p K rv cv mv tv xs cs t) (hG : TownR t n) (hn : n ≤ 400) {k : Nat} (hk : k < 3) (R : TownD × Int) (hR : R = if (t.right (t.rep k)) < t.comm.length then (t, 9) else ({ t with leader := k }.commit, 0)) :
    Calls Tryz.prog 111 #[.pointer (some ⟨p, 0, none⟩), .int .i64 (k : Int)] w fun e w' => e = .returned (.int .i64 R.2) ∧ MovedE 32 [gh, g2, ev] w w' p K R.1 := by
  have hfew := hG.few
  have htx := h.texts (by omega)
  obtain ⟨qo, qc, rfl⟩ := htx.slice
  obtain ⟨g, cap, rfl, hcap, -⟩ := h.rrow
  have HH := ghid h
  obtain ⟨x, hx, hxd, hxr⟩ := h.rep hk
  obtain ⟨r0, r1, r2, r3, r4, r5, r6, rf, hgl⟩ := h.rcells rfl hx
  have HX := ghid hx
  have CD := ghid (fun (u : World) (hu : Below w.heap.size w u) => due_any (h.below hu) hG hn)
  have CR := ghid (fun (dv : Value) (u : World) (hu : Below w.heap.size w u) (hd : TextsR u u.heap.size dv t.due) => right_any hG hn hk x hxd dv u u.heap.size ((hxr.below hu (Nat.le_refl _)).mono hu.size) hd (Nat.le_refl _))
  have HLO := ghid (fun hr => lead_ok hG hk hr)
  obtain ⟨rk, hrk⟩ : ∃ z, z = t.right (t.rep k) := ⟨_, rfl⟩
  rw [← hrk] at CR HLO hR
  have HR := ghid hR
  obtain ⟨cl, hcl⟩ : ∃ z, z = t.comm.length := ⟨_, rfl⟩
  rw [← hcl] at HR HLO hfew
  obtain ⟨xd, eo, lo, po, so, ec, ln, lc, pn, pc, sn, sc⟩ := x
  simp only [RepV.val] at r0 r1 r2 r3 r4 r5 r6 CR
  obtain ⟨c0, c1, c2, c3, c4, c5, cf, hpl⟩ := six_cells h.cells
  rw [← hcl] at c3
  have HCL := ghid hcl
  have hk3 : (k : Int) < 3 := by omega
  clear h hx hxd hxr hrk hR hcl htx hfew
  go_enter Tryz.func111, Tryz.ntmps111
  go_wp2_with fail
  go_region_held3 (fun w' => w'.cell? ⟨p, 0, none⟩ = some (.slice (some ⟨g, 0, none⟩) 3 cap) ∧ w'.cell? ⟨p, 3, none⟩ = some (.slice qo cl qc) ∧ w'.cell? ⟨g, k * 7, none⟩ = some (.int .i64 xd.log.base) ∧ w'.cell? ⟨g, k * 7 + 1, none⟩ = some (.slice eo xd.log.ents.length ec) ∧ w'.cell? ⟨g, k * 7 + 2, none⟩ = some (.string xd.snap) ∧ w'.cell? ⟨g, k * 7 + 3, none⟩ = some (.int .i64 xd.state.index) ∧ w'.cell? ⟨g, k * 7 + 4, none⟩ = some (.slice lo ln lc) ∧ w'.cell? ⟨g, k * 7 + 5, none⟩ = some (.slice po pn pc) ∧ w'.cell? ⟨g, k * 7 + 6, none⟩ = some (.slice so sn sc)) (go_keep)
    (first
      | (go_at_call 152; have hd := (Below.refl w.heap.size w).drew; refine (CD.out _ hd).mono ?_; rintro e w1 ⟨v1, rfl, hn1, hb1⟩; have HD1 := ghid hn1; have HB1 := ghid (hd.trans hb1); clear hn1 hb1 hd c0 c1 c2 c3 c4 c5 cf hpl r0 r1 r2 r3 r4 r5 r6 rf hgl; obtain ⟨c0, c1, c2, c3, c4, c5, cf, hpl⟩ := six_cells (HH.out.below HB1.out).cells; obtain ⟨r0, r1, r2, r3, r4, r5, r6, rf, hgl⟩ := (HH.out.below HB1.out).rcells rfl HX.out; rw [← HCL.out] at c3)
      | (go_at_call 151; refine (CR.out _ _ HB1.out HD1.out).mono ?_; rintro e w2 ⟨rfl, hb2⟩; have HB2 := ghid (HB1.out.trans (hb2.mono HB1.out.size)); clear hb2 c0 c1 c2 c3 c4 c5 cf hpl r0 r1 r2 r3 r4 r5 r6 rf hgl; obtain ⟨c0, c1, c2, c3, c4, c5, cf, hpl⟩ := six_cells (HH.out.below HB2.out).cells; obtain ⟨r0, r1, r2, r3, r4, r5, r6, rf, hgl⟩ := (HH.out.below HB2.out).rcells rfl HX.out; rw [← HCL.out] at c3))
  all_goals
    clear HX CD CR HCL r0 r1 r2 r3 r4 r5 r6 rf hgl
    by_cases hlt : rk < cl
    · have HRR : Hid (R = (t, 9)) := HR.out.trans (if_pos hlt)
      have hli : (rk : Int) < cl := by omega
      go_wp2
      go_ret
      exact ⟨sret_int (by rw [HRR.out]), by rw [HRR.out]; exact MovedE.same ⟨_, _, _, _, _, _, HH.out⟩ HB2.out⟩
    · have HRR : Hid (R = ({ t with leader := k }.commit, 0)) := HR.out.trans (if_neg hlt)
      have hli : ¬ (rk : Int) < cl := by omega
      have HG2 := ghid (HLO.out hlt)
      obtain ⟨K1, ⟨rv1, cv1, mv1, tv1, xs1, cs1, hM1⟩, k1, k2⟩ := (HH.out.below HB2.out).setLead odd_out k
      have CM := ghid (commit_any hM1 HG2.out hn)
      have HMV := ghid (fun W' (hm : MovedE 32 [gh, g2, ev] (w2.setCell ⟨p, 4, none⟩ (.int .i64 (k : Int))) W' p K1 ({ t with leader := k }.commit)) => (hm.next k1 k2).behind HB2.out)
      clear k1 k2 hM1 HR HG2 HLO
      go_wp2_with fail
      refine CM.out.mono ?_
      rintro e w3 ⟨rfl, hm3⟩
      have HM3 := ghid (HMV.out _ hm3)
      clear hm3 CM HMV
      go_wp2
      go_ret
      exact ⟨sret_int (by rw [HRR.out]), by rw [HRR.out]; exact HM3.out⟩

end

end Go.Proofs.YtijilhbdbeajjaaGreatDoor

namespace Go.Proofs.YtijilhbdbeajjaaGreatDoor

open Go.RowKit

theorem cu_yes (n a b : Int) (w : World) (h : a ≤ n ∧ n ≤ b) :
    Calls Tryz.prog 45 #[.int .i64 n, .int .i64 a, .int .i64 b] w fun e w' => e = .returned (.bool true) ∧ w' = w := by
  obtain ⟨h1, h2⟩ := h
  go_enter Tryz.func45, Tryz.ntmps45
  go_wp2
  go_ret
  exact ⟨rfl, rfl⟩

theorem cu_no (n a b : Int) (w : World) (h : ¬ (a ≤ n ∧ n ≤ b)) :
    Calls Tryz.prog 45 #[.int .i64 n, .int .i64 a, .int .i64 b] w fun e w' => e = .returned (.bool false) ∧ w' = w := by
  by_cases h1 : a ≤ n
  · have h2 : ¬ n ≤ b := fun h2 => h ⟨h1, h2⟩
    clear h
    go_enter Tryz.func45, Tryz.ntmps45
    go_wp2
    go_ret
    exact ⟨rfl, rfl⟩
  · clear h
    go_enter Tryz.func45, Tryz.ntmps45
    go_wp2
    go_ret
    exact ⟨rfl, rfl⟩

theorem cuClient_yes (n : Int) (w : World) (h : 1 ≤ n ∧ n ≤ 9) :
    Calls Tryz.prog 44 #[.int .i64 n] w fun e w' => e = .returned (.bool true) ∧ w' = w := by
  go_enter Tryz.func44, Tryz.ntmps44
  go_wp2_with fail
  refine (cu_yes n 1 9 _ h).mono ?_
  rintro e w1 ⟨rfl, rfl⟩
  go_wp2
  go_ret
  exact ⟨rfl, rfl⟩

theorem cuClient_no (n : Int) (w : World) (h : ¬ (1 ≤ n ∧ n ≤ 9)) :
    Calls Tryz.prog 44 #[.int .i64 n] w fun e w' => e = .returned (.bool false) ∧ w' = w := by
  go_enter Tryz.func44, Tryz.ntmps44
  go_wp2_with fail
  refine (cu_no n 1 9 _ h).mono ?_
  rintro e w1 ⟨rfl, rfl⟩
  go_wp2
  go_ret
  exact ⟨rfl, rfl⟩

set_option maxHeartbeats 1600000 in
theorem copyOp_any (k n : Int) (a b : ByteArray) (w : World) (ha : a.size ≤ 140737488351232) (hb : b.size ≤ 140737488351232) :
    Calls Tryz.prog 197 #[.agg #[.int .i64 k, .string a, .string b, .int .i64 n]] w fun e w' => e = .returned (.agg #[.int .i64 k, .string a, .string b, .int .i64 n]) ∧ Below w.heap.size w w' := by
  have HZ : Hid (Below w.heap.size w ((w.alloc (.cells #[.int .i64 k, .string a, .string b, .int .i64 n] 38)).alloc (.cells #[.int .i64 0, .string ⟨#[]⟩, .string ⟨#[]⟩, .int .i64 0] 38)).drew) := (((Below.refl _ _).alloc (Nat.le_refl _) _).alloc (by simp) _).drew
  have HX0 : Hid (((w.alloc (.cells #[.int .i64 k, .string a, .string b, .int .i64 n] 38)).alloc (.cells #[.int .i64 0, .string ⟨#[]⟩, .string ⟨#[]⟩, .int .i64 0] 38)).drew.heap[w.heap.size]? = some (.cells #[.int .i64 k, .string a, .string b, .int .i64 n] 38 (0, 0))) := (two_newB (Below.refl _ _)).2
  have HR0 : Hid (((w.alloc (.cells #[.int .i64 k, .string a, .string b, .int .i64 n] 38)).alloc (.cells #[.int .i64 0, .string ⟨#[]⟩, .string ⟨#[]⟩, .int .i64 0] 38)).drew.heap[w.heap.size + 1]? = some (.cells #[.int .i64 0, .string ⟨#[]⟩, .string ⟨#[]⟩, .int .i64 0] 38 (0, 0))) := (two_newB (Below.refl _ _)).1
  have CA := ghid (fun u => clone_any a u (by omega))
  have CB := ghid (fun u => clone_any b u (by omega))
  go_enter Tryz.func197, Tryz.ntmps197
  go_wp2_with fail
  go_region_with (first
    | (go_at_call 134; with_reducible refine (CA.out _).mono ?_; rintro e w1 ⟨rfl, hb1⟩; have HB1 := ghid (HZ.out.trans (hb1.mono HZ.out.size)); have HX1 := ghid (behind HX0.out (Below.refl _ _) hb1); have HR1 := ghid (behind HR0.out (Below.refl _ _) hb1); have hz1 : w.heap.size + 2 ≤ w1.heap.size := (by have := hb1.size; simpa using this); clear hb1; obtain ⟨c0, c1, c2, c3, cf, cl⟩ := state_cells HX1.out; obtain ⟨r0, r1, r2, r3, rf, rl⟩ := state_cells HR1.out)
    | (go_at_call 134; with_reducible refine (CB.out _).mono ?_; rintro e w2 ⟨rfl, hb2⟩; have HB2 := ghid (HB1.out.trans (hb2.mono HB1.out.size)); have HX2 := ghid (behind HX1.out (Below.refl _ _) hb2); have HR2 := ghid (behind HR1.out (Below.refl _ _) hb2); have hz2 : w.heap.size + 2 ≤ w2.heap.size := (by have := hb2.size; omega); clear hb2 c0 c1 c2 c3 cf cl r0 r1 r2 r3 rf rl; obtain ⟨c0, c1, c2, c3, cf, cl⟩ := state_cells HX2.out; obtain ⟨r0, r1, r2, r3, rf, rl⟩ := state_cells HR2.out))
  all_goals
    go_wp2
    refine bodyPost_ret (v := .agg #[.int .i64 k, .string a, .string b, .int .i64 n]) (by simp [results, Tryz.results197, go_sem, r0, r1, r2, r3]) rfl ?_
    exact ⟨rfl, zset4 ((HB2.out.setCell (by simp) _).setCell (by simp) _) (by omega) _ _ _ _⟩

end Go.Proofs.YtijilhbdbeajjaaGreatDoor

namespace Go.Proofs.YtijilhbdbeajjaaGreatDoor

open Go.RowKit

theorem kquiet_at {P : Program} {f : FuncId} {args : Array Value} {v : Value} {X : Nat → World} (n : Nat) (h : Calls P f args (X n) fun e w' => e = .returned v ∧ w' = X n) :
    Calls P f args (X n) fun e w'' => e = .returned v ∧ ∃ m, w'' = X m := h.mono fun _ _ ⟨he, hm⟩ => ⟨he, n, hm⟩

set_option maxRecDepth 100000 in
set_option maxHeartbeats 3200000 in
theorem checkWaits_any (v : Value) (c : CustD) (w : World) (B : Nat) (hv : CustR w B v c) (hB : B ≤ w.heap.size) (hn : 1 ≤ c.next ∧ c.next ≤ 1048577) :
    Calls Tryz.prog 46 #[v] w fun e w' => e = .returned (.int .i64 (waitsE c.next (firstW c.waits) 0 c.waits)) ∧ Below w.heap.size w w' := by
  obtain ⟨ao, cap, rfl, hw⟩ := hv.shape
  obtain ⟨id, se, nx, ws⟩ := c
  simp only at hw hn ⊢
  have hb0 : Below w.heap.size w (w.alloc (.cells #[.int .i64 id, .int .i64 se, .int .i64 nx, .slice ao ws.length cap] 55)) := (Below.refl _ _).alloc (Nat.le_refl _) _
  have HX0 := ghid (heap_alloc_new w (.cells #[.int .i64 id, .int .i64 se, .int .i64 nx, .slice ao ws.length cap] 55))
  have HB0 := ghid hb0
  have HWR := ghid hw
  have hlen := hw.len
  have hn0 := hn.1
  have hn1 := hn.2
  clear hv hw hb0 hn
  go_enter Tryz.func46, Tryz.ntmps46
  go_wp2_with fail
  go_loopw [3, 10] (fun a i wr => ∃ (k : Nat) (ah : Int), k ≤ ws.length ∧ i = .int .i64 k ∧ a = .int .i64 ah ∧ 0 ≤ ah ∧ ah ≤ 1048576 ∧ (k = 0 → ah = 0) ∧ (0 < k → 1 ≤ firstW ws ∧ firstW ws ≤ 1048576) ∧ wr.heap[w.heap.size]? = some (.cells #[.int .i64 id, .int .i64 se, .int .i64 nx, .slice ao ws.length cap] 55 (0, 0)) ∧ Below w.heap.size w wr ∧ Hid (waitsE nx (firstW ws) 0 ws = waitsE nx (firstW ws) ah (ws.drop k))) (fun _ i _ => ws.length - (intOf i).toNat)
  case atStart => exact ⟨0, 0, Nat.zero_le _, rfl, rfl, Int.le_refl _, by omega, fun _ => rfl, fun h => absurd h (by omega), HX0.out, HB0.out, rfl⟩
  case round =>
    obtain ⟨k, ah, hk, rfl, rfl, ha0, ha1, hah, hfst, hx, hb, HE⟩ := hrel
    have HB := ghid hb
    have HX := ghid hx
    have hlr : w.heap.size < wr.heap.size := (Array.getElem?_eq_some_iff.1 hx).1
    by_cases hlt : k < ws.length
    · obtain ⟨ao', cap', he, -, -, -, h4⟩ := HWR.out.below hb hB
      simp only [Value.slice.injEq] at he
      obtain ⟨rfl, -, rfl⟩ := he
      obtain ⟨b, off, rfl, hbB, hc⟩ := h4 (by omega)
      have hbr : b < wr.heap.size := by omega
      obtain ⟨x, hxe⟩ : ∃ x, ws[k]? = some x := ⟨_, List.getElem?_eq_getElem hlt⟩
      obtain ⟨y, hye⟩ : ∃ y, ws[0]? = some y := ⟨_, List.getElem?_eq_getElem (by omega)⟩
      obtain ⟨c0, c1, c2, c3, c4, hs1, hs2, -⟩ := hc k x hxe
      obtain ⟨f0, -⟩ := hc 0 y hye
      rw [Nat.zero_mul, Nat.add_zero, ← firstW_of hye] at f0
      rw [drop_stepW hxe] at HE
      have HF1 : Hid (k = 0 → firstW ws = x.seq) := fun e => by
        subst e
        exact firstW_of hxe
      obtain ⟨fs, hfs⟩ : ∃ fs, fs = firstW ws := ⟨_, rfl⟩
      rw [← hfs] at f0 hfst HE HF1
      rw [← hfs]
      obtain ⟨rest, hrest⟩ : ∃ rest, rest = ws.drop (k + 1) := ⟨_, rfl⟩
      rw [← hrest] at HE
      have HREST := ghid hrest
      have HFS := ghid hfs
      obtain ⟨xq, xk, xa, xb, xn⟩ := x
      simp only at c0 c1 c2 c3 c4 hs1 hs2 HF1 HE
      have hba : Below wr.heap.size wr (wr.alloc (.cells #[.int .i64 xq, .int .i64 xk, .string xa, .string xb, .int .i64 xn] 156)) := (Below.refl _ _).alloc (Nat.le_refl _) _
      have HBA : Hid (Below w.heap.size w (wr.alloc (.cells #[.int .i64 xq, .int .i64 xk, .string xa, .string xb, .int .i64 xn] 156))) := HB.out.trans (hba.mono HB.out.size)
      have hxa : (wr.alloc (.cells #[.int .i64 xq, .int .i64 xk, .string xa, .string xb, .int .i64 xn] 156)).heap[w.heap.size]? = _ := (Below.heap_alloc wr _ _ hlr).trans HX.out
      have HXA := ghid hxa
      have HC3A := ghid (fun u => checkOp_any xk xa xb xn u hs1 hs2)
      obtain ⟨p0, p1, p2, p3, -, -⟩ := state_cells hx
      have hsz := HB.out.size
      have hae : IntKind.i64.wrap (ah + 1) = ah + 1 := by rw [IntKind.wrap_i64]; omega
      clear hb hc h4 hxe hye hrest hfs hba hx hxa
      by_cases s1 : ah + 1 ≤ xq ∧ xq ≤ nx - 1
      · have hfb : 1 ≤ fs ∧ fs ≤ 1048576 := by
          by_cases e : k = 0
          · rw [HF1.out e]; omega
          · exact hfst (by omega)
        clear hfst
        have hq1 := s1.1
        have hq2 := s1.2
        by_cases s2 : 4 ≤ xq - fs
        · have H9 : Hid (waitsE nx fs ah (⟨xq, xk, xa, xb, xn⟩ :: rest) = 9) := by unfold Hid waitsE; rw [if_pos (by simp only; omega)]
          clear HC3A
          go_wp2_with fail
          go_quiet ((go_at_call 45; exact kquiet_at _ (cu_yes xq (ah + 1) (nx - 1) _ s1)))
          go_wp2
          go_ret
          exact ⟨by rw [← HFS.out, HE.out, H9.out]; rfl, HBA.out.trans (g_drewN_below _ _ _)⟩
        · have HST : Hid (waitsE nx fs ah (⟨xq, xk, xa, xb, xn⟩ :: rest) = if opE xk xa xb xn ≠ 0 then opE xk xa xb xn else waitsE nx fs xq rest) := by unfold Hid; rw [waitsE.eq_2, if_neg (by simp only; omega)]
          go_wp2_with fail
          go_quiet ((go_at_call 45; exact kquiet_at _ (cu_yes xq (ah + 1) (nx - 1) _ s1)))
          go_wp2_with fail
          refine (HC3A.out _).mono ?_
          rintro e w2 ⟨rfl, hb2⟩
          have HB2 := ghid ((HBA.out.trans (g_drewN_below _ _ _)).trans (hb2.mono (by simp; omega)))
          have HX2 : Hid (w2.heap[w.heap.size]? = _) := (hb2.block _ (by simp; omega)).trans HXA.out
          obtain ⟨oe, hoe⟩ : ∃ oe, oe = opE xk xa xb xn := ⟨_, rfl⟩
          rw [← hoe] at HST ⊢
          have g2 : w2.heap[wr.heap.size]? = some (.cells #[.int .i64 xq, .int .i64 xk, .string xa, .string xb, .int .i64 xn] 156 (0, 0)) := (hb2.block _ (by simp)).trans (heap_alloc_new wr _)
          obtain ⟨q0, -⟩ := five_cells g2
          clear hb2 hoe HC3A c0 c1 c2 c3 c4 f0 p0 p1 p2 p3 g2
          by_cases ho : oe = 0
          · have HN : Hid (waitsE nx fs 0 ws = waitsE nx fs xq (ws.drop (k + 1))) := by
              unfold Hid
              rw [← HREST.out, HE.out, HST.out, if_neg (fun h => h ho)]
            subst ho
            go_wp2
            go_roundw
            case rel => exact ⟨k + 1, xq, by omega, by go_num, rfl, by omega, by omega, fun e => absurd e (by omega), fun _ => hfb, HX2.out, HB2.out, HN⟩
            case measure => simp [intOf]; omega
          · have hob : (oe != 0) = true := by simpa using ho
            have HNE := ghid ho
            clear ho
            go_wp2
            go_ret
            exact ⟨by rw [← HFS.out, HE.out, HST.out, if_pos HNE.out]; rfl, HB2.out⟩
      · have H9 : Hid (waitsE nx fs ah (⟨xq, xk, xa, xb, xn⟩ :: rest) = 9) := by unfold Hid waitsE; rw [if_pos (by simp only; omega)]
        clear HC3A hfst
        go_wp2_with fail
        go_quiet ((go_at_call 45; exact kquiet_at _ (cu_no xq (ah + 1) (nx - 1) _ s1)))
        go_wp2
        go_ret
        exact ⟨by rw [← HFS.out, HE.out, H9.out]; rfl, HBA.out.trans (g_drewN_below _ _ _)⟩
    · have hkl : k = ws.length := by omega
      subst hkl
      rw [List.drop_length] at HE
      go_wp2
      go_ret
      exact ⟨by rw [HE.out]; rfl, HB.out⟩

set_option maxRecDepth 100000 in
set_option maxHeartbeats 1600000 in
theorem custCheck_any (v : Value) (c : CustD) (w : World) (B : Nat) (hv : CustR w B v c) (hB : B ≤ w.heap.size) :
    Calls Tryz.prog 19 #[v] w fun e w' => e = .returned (.int .i64 (checkC c)) ∧ Below w.heap.size w w' := by
  have HV := ghid hv
  obtain ⟨ao, cap, rfl, hw⟩ := hv.shape
  have hlen := hw.len
  have HC : Hid (checkC c = if ¬ (1 ≤ c.id ∧ c.id ≤ 9) ∨ ¬ (0 ≤ c.session ∧ c.session ≤ 1073741824) ∨ ¬ (1 ≤ c.next ∧ c.next ≤ 1048577) then 2 else if 4 < c.waits.length ∨ (0 < c.waits.length ∧ c.session = 0) then 9 else waitsE c.next (firstW c.waits) 0 c.waits) := rfl
  have HCW : Hid (∀ u, Below w.heap.size w u → 1 ≤ c.next ∧ c.next ≤ 1048577 → Calls Tryz.prog 46 #[.agg #[.int .i64 c.id, .int .i64 c.session, .int .i64 c.next, .slice ao c.waits.length cap]] u fun e w' => e = .returned (.int .i64 (waitsE c.next (firstW c.waits) 0 c.waits)) ∧ Below u.heap.size u w') := fun u hu hn => checkWaits_any _ c u B (HV.out.below hu hB) (by have := hu.size; omega) hn
  obtain ⟨id, hid⟩ : ∃ z, z = c.id := ⟨_, rfl⟩
  obtain ⟨se, hse⟩ : ∃ z, z = c.session := ⟨_, rfl⟩
  obtain ⟨nx, hnx⟩ : ∃ z, z = c.next := ⟨_, rfl⟩
  obtain ⟨n, hn⟩ : ∃ z, z = c.waits.length := ⟨_, rfl⟩
  obtain ⟨we, hwe⟩ : ∃ z, z = waitsE c.next (firstW c.waits) 0 c.waits := ⟨_, rfl⟩
  rw [← hwe, ← hid, ← hse, ← hnx, ← hn] at HC
  rw [← hwe, ← hid, ← hse, ← hnx, ← hn] at HCW
  rw [← hid, ← hse, ← hnx, ← hn]
  rw [← hn] at hlen
  have hb0 : Below w.heap.size w (w.alloc (.cells #[.int .i64 id, .int .i64 se, .int .i64 nx, .slice ao n cap] 55)) := (Below.refl _ _).alloc (Nat.le_refl _) _
  have HB0 := ghid hb0
  clear hv hw hb0 HV hid hse hnx hn hwe
  by_cases r1 : 1 ≤ id ∧ id ≤ 9
  · by_cases r2 : 0 ≤ se ∧ se ≤ 1073741824
    · by_cases r3 : 1 ≤ nx ∧ nx ≤ 1048577
      · by_cases r4 : 4 < n ∨ (0 < n ∧ se = 0)
        · have HK : Hid (checkC c = 9) := by
            unfold Hid
            rw [HC.out, if_neg (by omega), if_pos r4]
          rw [HK.out]
          have C1 := ghid r1
          have C2 := ghid r2
          have C3 := ghid r3
          have hways : ((4 : Int) < (n : Int)) ∨ (¬ (4 : Int) < (n : Int) ∧ (0 : Int) < (n : Int) ∧ se = 0) := by omega
          clear r1 r2 r3 r4 HC
          go_enter Tryz.func19, Tryz.ntmps19
          go_wp2_with fail
          refine (cuClient_yes _ _ C1.out).mono ?_
          rintro e u1 ⟨rfl, rfl⟩
          go_wp2_with fail
          refine (cu_yes _ _ _ _ C2.out).mono ?_
          rintro e u2 ⟨rfl, rfl⟩
          go_wp2_with fail
          refine (cu_yes _ _ _ _ C3.out).mono ?_
          rintro e u3 ⟨rfl, rfl⟩
          rcases hways with q1 | ⟨q1, q2, q3⟩
          · go_wp2
            go_ret
            exact ⟨rfl, HB0.out⟩
          · subst q3
            go_wp2
            go_ret
            exact ⟨rfl, HB0.out⟩
        · have HK : Hid (checkC c = we) := by
            unfold Hid
            rw [HC.out, if_neg (by omega), if_neg r4]
          rw [HK.out]
          have C1 := ghid r1
          have C2 := ghid r2
          have C3 := ghid r3
          have hways : (¬ (4 : Int) < (n : Int) ∧ (se == 0) = false) ∨ (¬ (4 : Int) < (n : Int) ∧ ¬ (0 : Int) < (n : Int)) := by
            by_cases e : se = 0
            · right; omega
            · left; exact ⟨by omega, beq_eq_false_iff_ne.2 e⟩
          clear r1 r2 r3 r4 HC
          go_enter Tryz.func19, Tryz.ntmps19
          go_wp2_with fail
          refine (cuClient_yes _ _ C1.out).mono ?_
          rintro e u1 ⟨rfl, rfl⟩
          go_wp2_with fail
          refine (cu_yes _ _ _ _ C2.out).mono ?_
          rintro e u2 ⟨rfl, rfl⟩
          go_wp2_with fail
          refine (cu_yes _ _ _ _ C3.out).mono ?_
          rintro e u3 ⟨rfl, rfl⟩
          rcases hways with ⟨q1, q2⟩ | ⟨q1, q2⟩
          · go_wp2_with fail
            refine (HCW.out _ HB0.out C3.out).mono ?_
            rintro e w2 ⟨rfl, hb2⟩
            have HB2 := ghid (HB0.out.trans (hb2.mono HB0.out.size))
            clear hb2
            go_wp2
            go_ret
            exact ⟨rfl, HB2.out⟩
          · by_cases q3 : (se == 0) = true
            · go_wp2_with fail
              refine (HCW.out _ HB0.out C3.out).mono ?_
              rintro e w2 ⟨rfl, hb2⟩
              have HB2 := ghid (HB0.out.trans (hb2.mono HB0.out.size))
              clear hb2
              go_wp2
              go_ret
              exact ⟨rfl, HB2.out⟩
            · have q4 : (se == 0) = false := by simpa using q3
              clear q3
              go_wp2_with fail
              refine (HCW.out _ HB0.out C3.out).mono ?_
              rintro e w2 ⟨rfl, hb2⟩
              have HB2 := ghid (HB0.out.trans (hb2.mono HB0.out.size))
              clear hb2
              go_wp2
              go_ret
              exact ⟨rfl, HB2.out⟩
      · have HK : Hid (checkC c = 2) := by
          unfold Hid
          rw [HC.out, if_pos (by omega)]
        rw [HK.out]
        have C1 := ghid r1
        have C2 := ghid r2
        have C3 := ghid r3
        clear r1 r2 r3 HC HCW
        go_enter Tryz.func19, Tryz.ntmps19
        go_wp2_with fail
        refine (cuClient_yes _ _ C1.out).mono ?_
        rintro e u1 ⟨rfl, rfl⟩
        go_wp2_with fail
        refine (cu_yes _ _ _ _ C2.out).mono ?_
        rintro e u2 ⟨rfl, rfl⟩
        go_wp2_with fail
        refine (cu_no _ _ _ _ C3.out).mono ?_
        rintro e u3 ⟨rfl, rfl⟩
        go_wp2
        go_ret
        exact ⟨rfl, HB0.out⟩
    · have HK : Hid (checkC c = 2) := by
        unfold Hid
        rw [HC.out, if_pos (by omega)]
      rw [HK.out]
      have C1 := ghid r1
      have C2 := ghid r2
      clear r1 r2 HC HCW
      go_enter Tryz.func19, Tryz.ntmps19
      go_wp2_with fail
      refine (cuClient_yes _ _ C1.out).mono ?_
      rintro e u1 ⟨rfl, rfl⟩
      go_wp2_with fail
      refine (cu_no _ _ _ _ C2.out).mono ?_
      rintro e u2 ⟨rfl, rfl⟩
      go_wp2
      go_ret
      exact ⟨rfl, HB0.out⟩
  · have HK : Hid (checkC c = 2) := by
      unfold Hid
      rw [HC.out, if_pos (by omega)]
    rw [HK.out]
    have C1 := ghid r1
    clear r1 HC HCW
    go_enter Tryz.func19, Tryz.ntmps19
    go_wp2_with fail
    refine (cuClient_no _ _ C1.out).mono ?_
    rintro e u1 ⟨rfl, rfl⟩
    go_wp2
    go_ret
    exact ⟨rfl, HB0.out⟩

end Go.Proofs.YtijilhbdbeajjaaGreatDoor

namespace Go.Proofs.YtijilhbdbeajjaaGreatDoor

open Go.RowKit

theorem cmdE_join {id : Int} (h : 1 ≤ id ∧ id ≤ 9) : cmdE 1 id 0 0 0 0 ⟨#[]⟩ ⟨#[]⟩ 0 = 0 := by
  unfold cmdE
  rw [if_neg (by omega), if_neg (by omega), if_neg (by omega), if_pos ⟨rfl, rfl, rfl, rfl, rfl, rfl, rfl⟩]

set_option maxRecDepth 100000 in
set_option maxHeartbeats 1600000 in
theorem Hello_bad (v : Value) (c : CustD) (w : World) (B : Nat) (hv : CustR w B v c) (hB : B ≤ w.heap.size) (hc : checkC c ≠ 0) :
    Calls Tryz.prog 145 #[v] w fun e w' => e = .returned (.tuple #[.string ⟨#[]⟩, .int .i64 (checkC c)]) ∧ Below w.heap.size w w' := by
  have C1 := ghid (fun u (hu : Below w.heap.size w u) => custCheck_any v c u B (hv.below hu hB) (by have := hu.size; omega))
  obtain ⟨ao, cap, rfl, -⟩ := hv.shape
  obtain ⟨r, hr⟩ : ∃ r, r = checkC c := ⟨_, rfl⟩
  obtain ⟨id, se, nx, ws⟩ := c
  simp only at C1 ⊢
  obtain ⟨n, hn⟩ : ∃ n, n = ws.length := ⟨_, rfl⟩
  rw [← hn, ← hr] at C1
  rw [← hr] at hc
  rw [← hn, ← hr]
  have HB0 : Hid (Below w.heap.size w (w.alloc (.cells #[.int .i64 id, .int .i64 se, .int .i64 nx, .slice ao n cap] 55))) := (Below.refl _ _).alloc (Nat.le_refl _) _
  have hcb : (r != 0) = true := by simpa using hc
  clear hv hr hn hc
  go_enter Tryz.func145, Tryz.ntmps145
  go_wp2_with fail
  refine (C1.out _ HB0.out).mono ?_
  rintro e w1 ⟨rfl, hb1⟩
  have HB1 := ghid (HB0.out.trans (hb1.mono HB0.out.size))
  clear hb1
  go_wp2
  refine bodyPost_ret (v := .tuple #[.string ⟨#[]⟩, .int .i64 r]) (by simp [results, Tryz.results145, go_sem]) rfl ?_
  exact ⟨rfl, HB1.out⟩

set_option maxRecDepth 100000 in
set_option maxHeartbeats 1600000 in
theorem Hello_ok (v : Value) (c : CustD) (w : World) (B : Nat) (hv : CustR w B v c) (hB : B ≤ w.heap.size) (hc : checkC c = 0) :
    Calls Tryz.prog 145 #[v] w fun e w' => e = .returned (.tuple #[.string (strOfNums [1, c.id]), .int .i64 0]) ∧ Below w.heap.size w w' := by
  have C1 := ghid (fun u (hu : Below w.heap.size w u) => custCheck_any v c u B (hv.below hu hB) (by have := hu.size; omega))
  have hid := (GoodC.of hc).id
  rw [hc] at C1
  obtain ⟨ao, cap, rfl, -⟩ := hv.shape
  obtain ⟨id, se, nx, ws⟩ := c
  simp only at C1 hid ⊢
  obtain ⟨n, hn⟩ : ∃ n, n = ws.length := ⟨_, rfl⟩
  rw [← hn] at C1 ⊢
  have HX0 := ghid (heap_alloc_new w (.cells #[.int .i64 id, .int .i64 se, .int .i64 nx, .slice ao n cap] 55))
  have HB0 : Hid (Below w.heap.size w (w.alloc (.cells #[.int .i64 id, .int .i64 se, .int .i64 nx, .slice ao n cap] 55))) := (Below.refl _ _).alloc (Nat.le_refl _) _
  have C2 := ghid (fun u => encode_rest 1 id 0 0 0 0 ⟨#[]⟩ ⟨#[]⟩ 0 u (by unfold FitsC; omega) (by unfold ShortC; show (0 : Nat) ≤ _; omega) (by unfold ShortC; show (0 : Nat) ≤ _; omega) (cmdE_join hid) (by omega))
  clear hv hn hc hid
  go_enter Tryz.func145, Tryz.ntmps145
  go_wp2_with fail
  refine (C1.out _ HB0.out).mono ?_
  rintro e w1 ⟨rfl, hb1⟩
  have HB1 := ghid (HB0.out.trans (hb1.mono HB0.out.size))
  obtain ⟨c0, c1, c2, c3, cf, cl⟩ := state_cells (behind HX0.out (Below.refl _ _) hb1)
  clear hb1
  go_wp2_with fail
  refine (C2.out _).mono ?_
  rintro e w2 ⟨rfl, hb2⟩
  have HB2 := ghid (HB1.out.trans (hb2.mono HB1.out.size))
  clear hb2
  go_wp2
  refine bodyPost_ret (v := .tuple #[.string (strOfNums [1, id]), .int .i64 0]) (by simp [results, Tryz.results145, go_sem]) rfl ?_
  exact ⟨rfl, HB2.out⟩

end Go.Proofs.YtijilhbdbeajjaaGreatDoor

namespace Go.Proofs.YtijilhbdbeajjaaGreatDoor

open Go.RowKit

set_option maxHeartbeats 800000 in
theorem known_any (v : Value) (c : CustD) (w : World) (B : Nat) (hv : CustR w B v c) (hB : B ≤ w.heap.size) (hn : 1 ≤ c.next ∧ c.next ≤ 1048577) (hf : ∀ x ∈ c.waits, 1 ≤ x.seq ∧ x.seq ≤ 1048577) :
    Calls Tryz.prog 194 #[v] w fun e w' => e = .returned (.int .i64 (knownC c)) ∧ Below w.heap.size w w' := by
  obtain ⟨ao, cap, rfl, hw⟩ := hv.shape
  obtain ⟨id, se, nx, ws⟩ := c
  simp only at hw hn hf ⊢
  have HB0 : Hid (Below w.heap.size w (w.alloc (.cells #[.int .i64 id, .int .i64 se, .int .i64 nx, .slice ao ws.length cap] 55))) := (Below.refl _ _).alloc (Nat.le_refl _) _
  cases ws with
  | nil =>
    clear hv hw
    go_enter Tryz.func194, Tryz.ntmps194
    go_wp2
    go_ret
    exact ⟨rfl, HB0.out⟩
  | cons x r =>
    obtain ⟨ao', cap', he, -, -, -, h4⟩ := hw
    simp only [Value.slice.injEq] at he
    obtain ⟨rfl, -, rfl⟩ := he
    obtain ⟨b, off, rfl, hlt, hc⟩ := h4 (by simp)
    obtain ⟨c0, -⟩ := hc 0 x rfl
    rw [Nat.zero_mul, Nat.add_zero] at c0
    have hbw : b < w.heap.size := by omega
    have hx := hf x (by simp)
    have hl : (((x :: r).length : Nat) : Int) = (r.length : Int) + 1 := by simp
    have hle : ((((x :: r).length : Nat) : Int) == 0) = false := by rw [hl]; exact beq_eq_false_iff_ne.2 (by omega)
    have hlp : (0 : Int) < (((x :: r).length : Nat) : Int) := by rw [hl]; omega
    obtain ⟨n, hne⟩ : ∃ n, n = (x :: r).length := ⟨_, rfl⟩
    rw [← hne] at hle hlp HB0 ⊢
    obtain ⟨sq, hsq⟩ : ∃ sq, sq = x.seq := ⟨_, rfl⟩
    have HK : Hid (knownC ⟨id, se, nx, x :: r⟩ = sq - 1) := by rw [hsq]; exact rfl
    rw [← hsq] at c0 hx
    clear hv hc h4 hne hl hf hsq hlt
    go_enter Tryz.func194, Tryz.ntmps194
    go_wp2
    go_ret
    exact ⟨by rw [HK.out]; rfl, HB0.out⟩

/-- Of a client that may be. -/
theorem GoodC.seqs {c : CustD} (h : GoodC c) : ∀ x ∈ c.waits, 1 ≤ x.seq ∧ x.seq ≤ 1048577 := fun x hx => by
  have h1 := h.each x hx
  have h2 := h.next
  omega

theorem GoodC.known {c : CustD} (h : GoodC c) : 0 ≤ knownC c ∧ knownC c ≤ c.next - 1 := by
  have h2 := h.next
  have h1 := h.each
  unfold knownC
  split
  · omega
  · rename_i x r e
    have := h1 x (by rw [e]; simp)
    omega

end Go.Proofs.YtijilhbdbeajjaaGreatDoor

namespace Go.Proofs.YtijilhbdbeajjaaGreatDoor

open Go.RowKit

theorem callR_of {id se q kn k n : Int} {a b : ByteArray} (h1 : 1 ≤ id ∧ id ≤ 9) (h2 : 1 ≤ se ∧ se ≤ 1073741824) (h3 : 1 ≤ q ∧ q ≤ 1048576) (h4 : 0 ≤ kn ∧ kn ≤ q - 1) : cmdE 2 id se q kn k a b n = opE k a b n := by
  unfold cmdE
  rw [if_neg (by omega), if_neg (by omega), if_pos rfl, if_pos ⟨h2, h3, h4⟩]

/-- What a client that may be asks may be. -/
theorem asked_ok {c : CustD} {k : Nat} {x : WaitD} (hc : checkC c = 0) (hx : c.waits[k]? = some x) : cmdE 2 c.id c.session x.seq (knownC c) x.kind x.a x.b x.n = 0 := by
  have G := GoodC.of hc
  have hm := List.mem_of_getElem? hx
  obtain ⟨h1, h2, h3, h4⟩ := G.each x hm
  have hs := G.session
  have hn := G.next
  have hp : 0 < c.waits.length := List.length_pos_of_mem hm
  have he := G.held hp
  have hk := G.known
  have hf : knownC c ≤ x.seq - 1 := by
    have ho := G.order
    unfold knownC
    split
    · rename_i e
      rw [e] at hm
      cases hm
    · rename_i y r e
      rw [e] at hm ho
      rcases List.mem_cons.1 hm with rfl | hm
      · omega
      · cases ho with
        | cons h1 h2 => have := h1 x hm; omega
  rw [callR_of G.id (by omega) (by omega) (by omega)]
  exact h4

set_option maxRecDepth 100000 in
set_option maxHeartbeats 1600000 in
theorem Request_bad (v : Value) (c : CustD) (k : Int) (w : World) (B : Nat) (hv : CustR w B v c) (hB : B ≤ w.heap.size) (hr : requestE c k ≠ 0) :
    Calls Tryz.prog 147 #[v, .int .i64 k] w fun e w' => e = .returned (.tuple #[.string ⟨#[]⟩, .int .i64 (requestE c k)]) ∧ Below w.heap.size w w' := by
  have C1 := ghid (fun u (hu : Below w.heap.size w u) => custCheck_any v c u B (hv.below hu hB) (by have := hu.size; omega))
  have HRQ : Hid (requestE c k = if checkC c ≠ 0 then checkC c else if ¬ (0 ≤ k ∧ k ≤ (c.waits.length : Int) - 1) then 6 else 0) := rfl
  have hlen : c.waits.length * 56 ≤ 140737488351232 := by
    obtain ⟨wv, -, h⟩ := hv
    exact h.len
  obtain ⟨ao, cap, rfl, -⟩ := hv.shape
  obtain ⟨cc, hcc⟩ : ∃ z, z = checkC c := ⟨_, rfl⟩
  obtain ⟨r, hre⟩ : ∃ z, z = requestE c k := ⟨_, rfl⟩
  obtain ⟨id, hid⟩ : ∃ z, z = c.id := ⟨_, rfl⟩
  obtain ⟨se, hse⟩ : ∃ z, z = c.session := ⟨_, rfl⟩
  obtain ⟨nx, hnx⟩ : ∃ z, z = c.next := ⟨_, rfl⟩
  obtain ⟨m, hm⟩ : ∃ z, z = c.waits.length := ⟨_, rfl⟩
  rw [← hcc, ← hid, ← hse, ← hnx, ← hm] at C1
  rw [← hcc, ← hm, ← hre] at HRQ
  rw [← hm] at hlen
  rw [← hre] at hr
  rw [← hre, ← hid, ← hse, ← hnx, ← hm]
  have HB0 : Hid (Below w.heap.size w (w.alloc (.cells #[.int .i64 id, .int .i64 se, .int .i64 nx, .slice ao m cap] 55))) := (Below.refl _ _).alloc (Nat.le_refl _) _
  have HX0 := ghid (heap_alloc_new w (.cells #[.int .i64 id, .int .i64 se, .int .i64 nx, .slice ao m cap] 55))
  clear hv hcc hre hid hse hnx hm
  by_cases h1 : cc = 0
  · subst h1
    have h2 : ¬ (0 ≤ k ∧ k ≤ (m : Int) - 1) := fun e => hr (by rw [HRQ.out, if_neg (by simp), if_neg (fun h => h e)])
    have HE : Hid (r = 6) := by unfold Hid; rw [HRQ.out, if_neg (by simp), if_pos h2]
    have C2 := ghid (fun u => cu_no k 0 ((m : Int) - 1) u h2)
    have hmw : IntKind.i64.wrap ((m : Int) - 1) = (m : Int) - 1 := by rw [IntKind.wrap_i64]; omega
    clear h2 hr HRQ
    go_enter Tryz.func147, Tryz.ntmps147
    go_wp2_with fail
    refine (C1.out _ HB0.out).mono ?_
    rintro e w1 ⟨rfl, hb1⟩
    have HB1 := ghid (HB0.out.trans (hb1.mono HB0.out.size))
    have HX1 := ghid (behind HX0.out (Below.refl _ _) hb1)
    obtain ⟨c0, c1, c2, c3, cf, cl⟩ := state_cells HX1.out
    clear hb1
    go_wp2_with fail
    refine (C2.out _).mono ?_
    rintro e w2 ⟨rfl, rfl⟩
    go_wp2
    refine bodyPost_ret (v := .tuple #[.string ⟨#[]⟩, .int .i64 r]) (by simp [results, Tryz.results147, go_sem, HE.out]) rfl ?_
    exact ⟨rfl, HB1.out⟩
  · have hcb : (cc != 0) = true := by simpa using h1
    have hcd : (cc == 0) = false := by simpa using h1
    have HE : Hid (r = cc) := by unfold Hid; rw [HRQ.out, if_pos h1]
    clear h1 hr HRQ
    go_enter Tryz.func147, Tryz.ntmps147
    go_wp2_with fail
    refine (C1.out _ HB0.out).mono ?_
    rintro e w1 ⟨rfl, hb1⟩
    have HB1 := ghid (HB0.out.trans (hb1.mono HB0.out.size))
    have HX1 := ghid (behind HX0.out (Below.refl _ _) hb1)
    obtain ⟨c0, c1, c2, c3, cf, cl⟩ := state_cells HX1.out
    clear hb1
    go_wp2
    refine bodyPost_ret (v := .tuple #[.string ⟨#[]⟩, .int .i64 r]) (by simp [results, Tryz.results147, go_sem, HE.out]) rfl ?_
    exact ⟨rfl, HB1.out⟩

set_option maxRecDepth 100000 in
set_option maxHeartbeats 3200000 in
theorem Request_ok (v : Value) (c : CustD) (k : Nat) (x : WaitD) (w : World) (B : Nat) (hv : CustR w B v c) (hB : B ≤ w.heap.size) (hc : checkC c = 0) (hx : c.waits[k]? = some x) :
    Calls Tryz.prog 147 #[v, .int .i64 (k : Int)] w fun e w' => e = .returned (.tuple #[.string (strOfNums [2, c.id] ++ tailOut c.session x.seq (knownC c) x.kind x.a x.b x.n), .int .i64 0]) ∧ Below w.heap.size w w' := by
  have C1 := ghid (fun u (hu : Below w.heap.size w u) => custCheck_any v c u B (hv.below hu hB) (by have := hu.size; omega))
  have CK := ghid (fun u (hu : Below w.heap.size w u) => known_any v c u B (hv.below hu hB) (by have := hu.size; omega) (GoodC.of hc).next (GoodC.of hc).seqs)
  have hok := asked_ok hc hx
  have hlen := (GoodC.of hc).len
  have hk : k < c.waits.length := (List.getElem?_eq_some_iff.1 hx).1
  rw [hc] at C1
  obtain ⟨ao, cap, rfl, hw⟩ := hv.shape
  obtain ⟨ao', cap', he, hcap0, -, -, h4⟩ := id hw
  simp only [Value.slice.injEq] at he
  obtain ⟨rfl, -, rfl⟩ := he
  obtain ⟨b, off, rfl, hbB, hcs⟩ := h4 (by omega)
  obtain ⟨b0, b1, b2, b3, b4, hs1, hs2, -⟩ := hcs k x hx
  have hq : FitsC x.seq := by have h1 := (GoodC.of hc).seqs x (List.mem_of_getElem? hx); unfold FitsC; omega
  have CE := ghid (fun u => encode_call c.id c.session x.seq (knownC c) x.kind x.a x.b x.n u hq hs1 hs2 hok)
  obtain ⟨id, hid⟩ : ∃ z, z = c.id := ⟨_, rfl⟩
  obtain ⟨se, hse⟩ : ∃ z, z = c.session := ⟨_, rfl⟩
  obtain ⟨nx, hnx⟩ : ∃ z, z = c.next := ⟨_, rfl⟩
  obtain ⟨m, hm⟩ : ∃ z, z = c.waits.length := ⟨_, rfl⟩
  obtain ⟨kn, hkn⟩ : ∃ z, z = knownC c := ⟨_, rfl⟩
  obtain ⟨q, xk, xa, xb, xn⟩ := x
  simp only at b0 b1 b2 b3 b4 hs1 hs2 CE ⊢
  rw [← hid, ← hse, ← hnx, ← hm] at C1 CK
  rw [← hkn] at CK
  rw [← hid, ← hse, ← hkn] at CE
  rw [← hm] at hlen hk
  rw [← hid, ← hse, ← hnx, ← hm, ← hkn]
  obtain ⟨out, hout⟩ : ∃ z, z = strOfNums [2, id] ++ tailOut se q kn xk xa xb xn := ⟨_, rfl⟩
  rw [← hout] at CE ⊢
  have C2 := ghid (fun u => cu_yes (k : Int) 0 ((m : Int) - 1) u (by omega))
  have HB0 : Hid (Below w.heap.size w (w.alloc (.cells #[.int .i64 id, .int .i64 se, .int .i64 nx, .slice (some ⟨b, off, none⟩) m cap] 55))) := (Below.refl _ _).alloc (Nat.le_refl _) _
  have HX0 := ghid (heap_alloc_new w (.cells #[.int .i64 id, .int .i64 se, .int .i64 nx, .slice (some ⟨b, off, none⟩) m cap] 55))
  have HW : Hid (∀ u, Below w.heap.size w u → u.cell? ⟨b, off + k * 5, none⟩ = some (.int .i64 q) ∧ u.cell? ⟨b, off + k * 5 + 1, none⟩ = some (.int .i64 xk) ∧ u.cell? ⟨b, off + k * 5 + 2, none⟩ = some (.string xa) ∧ u.cell? ⟨b, off + k * 5 + 3, none⟩ = some (.string xb) ∧ u.cell? ⟨b, off + k * 5 + 4, none⟩ = some (.int .i64 xn)) := fun u hu => by
    have kk : ∀ j, u.cell? ⟨b, j, none⟩ = w.cell? ⟨b, j, none⟩ := fun j => hu.cell (p := ⟨b, j, none⟩) (by show b < _; omega)
    exact ⟨(kk _).trans b0, (kk _).trans b1, (kk _).trans b2, (kk _).trans b3, (kk _).trans b4⟩
  have hmw : IntKind.i64.wrap ((m : Int) - 1) = (m : Int) - 1 := by rw [IntKind.wrap_i64]; omega
  have hki : (k : Int) < (m : Int) := by omega
  have hbw : b < w.heap.size := by omega
  clear hv hw hc hx h4 hcs hok hid hse hnx hm hkn hout hq b0 b1 b2 b3 b4 hcap0
  go_enter Tryz.func147, Tryz.ntmps147
  go_wp2_with fail
  refine (C1.out _ HB0.out).mono ?_
  rintro e w1 ⟨rfl, hb1⟩
  have HB1 := ghid (HB0.out.trans (hb1.mono HB0.out.size))
  have HX1 := ghid (behind HX0.out (Below.refl _ _) hb1)
  obtain ⟨c0, c1, c2, c3, cf, cl⟩ := state_cells HX1.out
  clear hb1
  obtain ⟨b0, b1, b2, b3, b4⟩ := HW.out _ HB1.out
  go_wp2_with fail
  refine (C2.out _).mono ?_
  rintro e w2 ⟨rfl, rfl⟩
  have hwz : Below w2.heap.size w2 (w2.alloc (.cells #[.int .i64 q, .int .i64 xk, .string xa, .string xb, .int .i64 xn] 156)).drew := ((Below.refl _ _).alloc (Nat.le_refl _) _).drew
  have HB2 := ghid (HB1.out.trans (hwz.mono HB1.out.size))
  have HX2 : Hid ((w2.alloc (.cells #[.int .i64 q, .int .i64 xk, .string xa, .string xb, .int .i64 xn] 156)).drew.heap[w.heap.size]? = _) := behind HX1.out (Below.refl _ _) hwz
  have HY2 : Hid ((w2.alloc (.cells #[.int .i64 q, .int .i64 xk, .string xa, .string xb, .int .i64 xn] 156)).drew.heap[w2.heap.size]? = some (.cells #[.int .i64 q, .int .i64 xk, .string xa, .string xb, .int .i64 xn] 156 (0, 0))) := heap_alloc_new w2 _
  clear hwz
  go_wp2_with fail
  clear c0 c1 c2 c3 cf cl b0 b1 b2 b3 b4
  obtain ⟨c0, c1, c2, c3, cf, cl⟩ := state_cells HX2.out
  obtain ⟨y0, y1, y2, y3, y4, yf, yl⟩ := five_cells HY2.out
  go_region_held3 (fun w' => w'.cell? ⟨w.heap.size, 0, none⟩ = some (.int .i64 id) ∧ w'.cell? ⟨w.heap.size, 1, none⟩ = some (.int .i64 se) ∧ w'.cell? ⟨w.heap.size, 2, none⟩ = some (.int .i64 nx) ∧ w'.cell? ⟨w.heap.size, 3, none⟩ = some (.slice (some ⟨b, off, none⟩) m cap) ∧ w'.cell? ⟨w2.heap.size, 0, none⟩ = some (.int .i64 q) ∧ w'.cell? ⟨w2.heap.size, 1, none⟩ = some (.int .i64 xk) ∧ w'.cell? ⟨w2.heap.size, 2, none⟩ = some (.string xa) ∧ w'.cell? ⟨w2.heap.size, 3, none⟩ = some (.string xb) ∧ w'.cell? ⟨w2.heap.size, 4, none⟩ = some (.int .i64 xn)) (go_keep)
    (first
      | (go_at_call 194; refine (CK.out _ HB2.out).mono ?_; rintro e w3 ⟨rfl, hb3⟩; have HB3 := ghid (HB2.out.trans (hb3.mono HB2.out.size)); have HX3 := ghid (behind HX2.out (Below.refl _ _) hb3); have HY3 := ghid (behind HY2.out (Below.refl _ _) hb3); clear hb3 c0 c1 c2 c3 cf cl y0 y1 y2 y3 y4 yf yl; obtain ⟨c0, c1, c2, c3, cf, cl⟩ := state_cells HX3.out; obtain ⟨y0, y1, y2, y3, y4, yf, yl⟩ := five_cells HY3.out)
      | (go_at_call 192; refine (CE.out _).mono ?_; rintro e w4 ⟨rfl, hb4⟩; have HB4 := ghid (HB3.out.trans (hb4.mono HB3.out.size)); have hx4 := behind HX3.out (Below.refl _ _) hb4; have hy4 := behind HY3.out (Below.refl _ _) hb4; clear hb4 c0 c1 c2 c3 cf cl y0 y1 y2 y3 y4 yf yl; obtain ⟨c0, c1, c2, c3, cf, cl⟩ := state_cells hx4; obtain ⟨y0, y1, y2, y3, y4, yf, yl⟩ := five_cells hy4))
  all_goals
    go_wp2
    refine bodyPost_ret (v := .tuple #[.string out, .int .i64 0]) (by simp [results, Tryz.results147, go_sem]) rfl ?_
    exact ⟨rfl, HB4.out⟩

end Go.Proofs.YtijilhbdbeajjaaGreatDoor

namespace Go.Proofs.YtijilhbdbeajjaaGreatDoor

open Go.RowKit

/-- One text, in a row. -/
theorem TextsR.single {w : World} {b : Nat} {s : ByteArray} {ty : TypeId} {fr : Nat × Nat} (h : w.heap[b]? = some (.cells #[.string s] ty fr)) (hs : s.size ≤ 140737488351232) : TextsR w w.heap.size (.slice (some ⟨b, 0, none⟩) 1 1) [s] := by
  refine ⟨some ⟨b, 0, none⟩, 1, rfl, Nat.le_refl _, by simp, (fun e => by cases e), fun _ => ⟨b, 0, rfl, (Array.getElem?_eq_some_iff.1 h).1, fun i t hi => ?_⟩⟩
  have hi0 : i = 0 := by have := (List.getElem?_eq_some_iff.1 hi).1; simpa using this
  subst hi0
  simp only [List.getElem?_cons_zero, Option.some.injEq] at hi
  subst hi
  exact ⟨cell_of_row w b 0 _ _ _ h, hs⟩

section

variable {gh g2 ev : Value} {p : Nat} {K : Nat → Prop} {rv cv mv tv : Value} {xs : List RepV} {cs : List CustV} {t : TownD} {n : Nat}

set_option maxRecDepth 100000 in
set_option maxHeartbeats 6400000 in
theorem tell_town {w0 : World} (h0 : TownM 32 [gh, g2, ev] w0 p K rv cv mv tv xs cs t) (hG : TownR t n) (hn : n ≤ 400) (s : ByteArray) (hs : s.size ≤ 140737488351232) (R : TownD × Int) (hR : R = t.added 0 s) :
    Calls Tryz.prog 146 #[.pointer (some ⟨p, 0, none⟩), .string s] w0 fun e w' => e = .returned (.int .i64 R.2) ∧ MovedE 32 [gh, g2, ev] w0 w' p K R.1 := by
  obtain ⟨g, cap, rfl, hcap, -⟩ := h0.rrow
  have hlead := hG.lead
  have hgood := lead_good hG hn hlead
  have hb0 : Below w0.heap.size w0 w0.drew := (Below.refl _ _).drew
  have h := h0.below hb0
  have HHB := ghid h0
  obtain ⟨c0, c1, c2, c3, c4, c5, cf, hpl⟩ := six_cells h0.cells
  obtain ⟨w, hw⟩ : ∃ w, w = w0.drew := ⟨_, rfl⟩
  rw [← hw] at h hb0
  have HB0 := ghid hb0
  have HH := ghid h
  obtain ⟨x, hx, hxd, hxr⟩ := h.rep hlead
  obtain ⟨r0, r1, r2, r3, r4, r5, r6, rf, hgl⟩ := h.rcells rfl hx
  have HX := ghid hx
  have hll : (t.rep t.leader) = t.lead := rfl
  rw [hll] at hxd hxr hgood
  obtain ⟨k1, -, -, -⟩ := repE_zero hgood
  obtain ⟨⟨l1, l2, l3⟩, -⟩ := logE_zero k1
  obtain ⟨li, hli⟩ : ∃ z, z = lastL t.lead.log := ⟨_, rfl⟩
  have CL := ghid (fun (u : World) => last_raw t.lead.log.base x.eo t.lead.log.ents.length x.ec u ⟨l1, l2, l3⟩)
  rw [show t.lead.log.base + (t.lead.log.ents.length : Int) = lastL t.lead.log from rfl, ← hli] at CL
  have CH := ghid (fun (u : World) (hu : Below w.heap.size w u) (rb : Nat) (hr : u.heap[rb]? = some (.cells #[.string s] 9 (0, 0))) => repHear_any x.val t.lead li (.slice (some ⟨rb, 0, none⟩) 1 1) [s] u u.heap.size ((hxr.below hu (Nat.le_refl _)).mono hu.size) (TextsR.single hr hs) (Nat.le_refl _) (by rw [hli]; unfold lastL; omega) hgood)
  obtain ⟨he, hhe⟩ : ∃ z, z = hearE t.lead li [s] := ⟨_, rfl⟩
  obtain ⟨hl, hhl⟩ : ∃ z, z = hearL t.lead li [s] := ⟨_, rfl⟩
  rw [← hhe, ← hhl] at CH
  unfold TownD.added at hR
  rw [if_neg (by simp), ← hli, ← hhe, ← hhl] at hR
  have HR := ghid hR
  rw [← hxd] at CL
  obtain ⟨xd, eo, lo, po, so, ec, ln, lc, pn, pc, sn, sc⟩ := x
  simp only [RepV.val] at r0 r1 r2 r3 r4 r5 r6 CL CH
  have HKL := ghid (fun g (hg : K g) => h.lt hg)
  have hg0 := hgl
  obtain ⟨ld, hld⟩ : ∃ z, z = t.leader := ⟨_, rfl⟩
  rw [← hld] at r0 r1 r2 r3 r4 r5 r6 c4 hlead HX HR
  have hl1 : (ld : Int) < 3 := by omega
  have hl2 : (0 : Int) ≤ ld := by omega
  have hlk := hlead
  have HWW := ghid hw
  clear h h0 hx hxd hxr hhe hhl hR hb0 hw hgood k1 l1 l2 l3 hli hld hll hlead
  go_enter Tryz.func146, Tryz.ntmps146
  go_wp2_with fail
  go_region_held3 (fun w' => w'.cell? ⟨p, 0, none⟩ = some (.slice (some ⟨g, 0, none⟩) 3 cap) ∧ w'.cell? ⟨p, 4, none⟩ = some (.int .i64 (ld : Int))) (go_keep) (fail)
  clear c0 c1 c2 c3 c4 c5 cf
  go_upto_region 2 with fail
  rw [← HWW.out]
  go_upto_region 3 with fail
  go_cut [6, 7] (fun pv evv wx => ∃ (bx yec yln ylc ypn ypc ysn ysc : Nat) (yeo ylo ypo yso : Option Addr), pv = .pointer (some ⟨bx, 0, none⟩) ∧ evv = .int .i64 he ∧ wx.heap[bx]? = some (.cells #[.int .i64 hl.log.base, .slice yeo hl.log.ents.length yec, .string hl.snap, .int .i64 hl.state.index, .slice ylo yln ylc, .slice ypo ypn ypc, .slice yso ysn ysc] 50 (0, 0)) ∧ FirmK K wx (fun u => RepR u u.heap.size (.agg #[.int .i64 hl.log.base, .slice yeo hl.log.ents.length yec, .string hl.snap, .int .i64 hl.state.index, .slice ylo yln ylc, .slice ypo ypn ypc, .slice yso ysn ysc]) hl) ∧ Below w.heap.size w wx)
  case first =>
    go_region_held3 (fun w' => w'.cell? ⟨g, ld * 7, none⟩ = some (.int .i64 xd.log.base) ∧ w'.cell? ⟨g, ld * 7 + 1, none⟩ = some (.slice eo xd.log.ents.length ec) ∧ w'.cell? ⟨g, ld * 7 + 2, none⟩ = some (.string xd.snap) ∧ w'.cell? ⟨g, ld * 7 + 3, none⟩ = some (.int .i64 xd.state.index) ∧ w'.cell? ⟨g, ld * 7 + 4, none⟩ = some (.slice lo ln lc) ∧ w'.cell? ⟨g, ld * 7 + 5, none⟩ = some (.slice po pn pc) ∧ w'.cell? ⟨g, ld * 7 + 6, none⟩ = some (.slice so sn sc)) (go_keep)
      (first
        | (go_at_call 33; have hbu : Below w.heap.size w w.drew := (Below.refl w.heap.size w).drew; have hcs := CL.out w.drew; (with_reducible refine hcs.mono ?_); clear hcs; rintro e w1 ⟨rfl, hbi⟩; have HB1 := ghid (hbu.trans (hbi.mono hbu.size)); have hs1 := HB1.out.size; clear r0 r1 r2 r3 r4 r5 r6 rf hgl; obtain ⟨r0, r1, r2, r3, r4, r5, r6, rf, hgl⟩ := (HH.out.below HB1.out).rcells rfl HX.out; clear hbi hbu)
        | (go_at_call 33; have hbu : Below w.heap.size w (w.alloc (.cells #[.int .i64 0, .slice none 0 0, .string ⟨#[]⟩, .int .i64 0, .slice none 0 0, .slice none 0 0, .slice none 0 0] 50)).drew := ((Below.refl w.heap.size w).alloc (Nat.le_refl _) (.cells #[.int .i64 0, .slice none 0 0, .string ⟨#[]⟩, .int .i64 0, .slice none 0 0, .slice none 0 0, .slice none 0 0] 50)).drew; have hAz : (w.alloc (.cells #[.int .i64 0, .slice none 0 0, .string ⟨#[]⟩, .int .i64 0, .slice none 0 0, .slice none 0 0, .slice none 0 0] 50)).drew.heap[w.heap.size]? = some (.cells #[.int .i64 0, .slice none 0 0, .string ⟨#[]⟩, .int .i64 0, .slice none 0 0, .slice none 0 0, .slice none 0 0] 50 (0, 0)) := heap_alloc_new w (.cells #[.int .i64 0, .slice none 0 0, .string ⟨#[]⟩, .int .i64 0, .slice none 0 0, .slice none 0 0, .slice none 0 0] 50); have hcs := CL.out (w.alloc (.cells #[.int .i64 0, .slice none 0 0, .string ⟨#[]⟩, .int .i64 0, .slice none 0 0, .slice none 0 0, .slice none 0 0] 50)).drew; (with_reducible refine hcs.mono ?_); clear hcs; rintro e w1 ⟨rfl, hbi⟩; have HB1 := ghid (hbu.trans (hbi.mono hbu.size)); have HLz1 := ghid (Array.getElem?_eq_some_iff.1 hAz).1; have HAz1 := ghid ((hbi.block _ (Array.getElem?_eq_some_iff.1 hAz).1).trans hAz); have hs1 := HB1.out.size; clear r0 r1 r2 r3 r4 r5 r6 rf hgl; obtain ⟨r0, r1, r2, r3, r4, r5, r6, rf, hgl⟩ := (HH.out.below HB1.out).rcells rfl HX.out; obtain ⟨z0, z1, z2, z3, z4, z5, z6, zf, zl⟩ := seven_cells HAz1.out; have hnzg : g ≠ w.heap.size := (by omega); have hmzg : w.heap.size ≠ g := (by omega); clear hbi hbu hAz)
        | (go_at_call 33; have hbu : Below w.heap.size w (w.alloc (.cells #[.string s] 9)).drew := ((Below.refl w.heap.size w).alloc (Nat.le_refl _) (.cells #[.string s] 9)).drew; have hAr : (w.alloc (.cells #[.string s] 9)).drew.heap[w.heap.size]? = some (.cells #[.string s] 9 (0, 0)) := heap_alloc_new w (.cells #[.string s] 9); have hcs := CL.out (w.alloc (.cells #[.string s] 9)).drew; (with_reducible refine hcs.mono ?_); clear hcs; rintro e w1 ⟨rfl, hbi⟩; have HB1 := ghid (hbu.trans (hbi.mono hbu.size)); have HLr1 := ghid (Array.getElem?_eq_some_iff.1 hAr).1; have HAr1 := ghid ((hbi.block _ (Array.getElem?_eq_some_iff.1 hAr).1).trans hAr); have hs1 := HB1.out.size; clear r0 r1 r2 r3 r4 r5 r6 rf hgl; obtain ⟨r0, r1, r2, r3, r4, r5, r6, rf, hgl⟩ := (HH.out.below HB1.out).rcells rfl HX.out; obtain ⟨ra, rl⟩ := one_cell HAr1.out; have hnrg : g ≠ w.heap.size := (by omega); have hmrg : w.heap.size ≠ g := (by omega); clear hbi hbu hAr)
        | (go_at_call 33; have hbu : Below w.heap.size w ((w.alloc (.cells #[.int .i64 0, .slice none 0 0, .string ⟨#[]⟩, .int .i64 0, .slice none 0 0, .slice none 0 0, .slice none 0 0] 50)).alloc (.cells #[.string s] 9)).drew := (((Below.refl w.heap.size w).alloc (Nat.le_refl _) (.cells #[.int .i64 0, .slice none 0 0, .string ⟨#[]⟩, .int .i64 0, .slice none 0 0, .slice none 0 0, .slice none 0 0] 50)).alloc (by first | (simp; done) | (simp; omega)) (.cells #[.string s] 9)).drew; have hAz : ((w.alloc (.cells #[.int .i64 0, .slice none 0 0, .string ⟨#[]⟩, .int .i64 0, .slice none 0 0, .slice none 0 0, .slice none 0 0] 50)).alloc (.cells #[.string s] 9)).drew.heap[w.heap.size]? = some (.cells #[.int .i64 0, .slice none 0 0, .string ⟨#[]⟩, .int .i64 0, .slice none 0 0, .slice none 0 0, .slice none 0 0] 50 (0, 0)) := (Below.heap_alloc (w.alloc (.cells #[.int .i64 0, .slice none 0 0, .string ⟨#[]⟩, .int .i64 0, .slice none 0 0, .slice none 0 0, .slice none 0 0] 50)) _ _ (by simp)).trans (heap_alloc_new w (.cells #[.int .i64 0, .slice none 0 0, .string ⟨#[]⟩, .int .i64 0, .slice none 0 0, .slice none 0 0, .slice none 0 0] 50)); have hAr : ((w.alloc (.cells #[.int .i64 0, .slice none 0 0, .string ⟨#[]⟩, .int .i64 0, .slice none 0 0, .slice none 0 0, .slice none 0 0] 50)).alloc (.cells #[.string s] 9)).drew.heap[w.heap.size + 1]? = some (.cells #[.string s] 9 (0, 0)) := (by have h := heap_alloc_new (w.alloc (.cells #[.int .i64 0, .slice none 0 0, .string ⟨#[]⟩, .int .i64 0, .slice none 0 0, .slice none 0 0, .slice none 0 0] 50)) (.cells #[.string s] 9); rw [show (w.alloc (.cells #[.int .i64 0, .slice none 0 0, .string ⟨#[]⟩, .int .i64 0, .slice none 0 0, .slice none 0 0, .slice none 0 0] 50)).heap.size = w.heap.size + 1 by simp] at h; exact h); have hcs := CL.out ((w.alloc (.cells #[.int .i64 0, .slice none 0 0, .string ⟨#[]⟩, .int .i64 0, .slice none 0 0, .slice none 0 0, .slice none 0 0] 50)).alloc (.cells #[.string s] 9)).drew; (with_reducible refine hcs.mono ?_); clear hcs; rintro e w1 ⟨rfl, hbi⟩; have HB1 := ghid (hbu.trans (hbi.mono hbu.size)); have HLz1 := ghid (Array.getElem?_eq_some_iff.1 hAz).1; have HLr1 := ghid (Array.getElem?_eq_some_iff.1 hAr).1; have HAz1 := ghid ((hbi.block _ (Array.getElem?_eq_some_iff.1 hAz).1).trans hAz); have HAr1 := ghid ((hbi.block _ (Array.getElem?_eq_some_iff.1 hAr).1).trans hAr); have hs1 := HB1.out.size; clear r0 r1 r2 r3 r4 r5 r6 rf hgl; obtain ⟨r0, r1, r2, r3, r4, r5, r6, rf, hgl⟩ := (HH.out.below HB1.out).rcells rfl HX.out; obtain ⟨z0, z1, z2, z3, z4, z5, z6, zf, zl⟩ := seven_cells HAz1.out; have hnzg : g ≠ w.heap.size := (by omega); have hmzg : w.heap.size ≠ g := (by omega); obtain ⟨ra, rl⟩ := one_cell HAr1.out; have hnrg : g ≠ w.heap.size + 1 := (by omega); have hmrg : w.heap.size + 1 ≠ g := (by omega); clear hbi hbu hAz hAr)
        | (go_at_call 33; have hbu : Below w.heap.size w ((w.alloc (.cells #[.string s] 9)).alloc (.cells #[.int .i64 0, .slice none 0 0, .string ⟨#[]⟩, .int .i64 0, .slice none 0 0, .slice none 0 0, .slice none 0 0] 50)).drew := (((Below.refl w.heap.size w).alloc (Nat.le_refl _) (.cells #[.string s] 9)).alloc (by first | (simp; done) | (simp; omega)) (.cells #[.int .i64 0, .slice none 0 0, .string ⟨#[]⟩, .int .i64 0, .slice none 0 0, .slice none 0 0, .slice none 0 0] 50)).drew; have hAr : ((w.alloc (.cells #[.string s] 9)).alloc (.cells #[.int .i64 0, .slice none 0 0, .string ⟨#[]⟩, .int .i64 0, .slice none 0 0, .slice none 0 0, .slice none 0 0] 50)).drew.heap[w.heap.size]? = some (.cells #[.string s] 9 (0, 0)) := (Below.heap_alloc (w.alloc (.cells #[.string s] 9)) _ _ (by simp)).trans (heap_alloc_new w (.cells #[.string s] 9)); have hAz : ((w.alloc (.cells #[.string s] 9)).alloc (.cells #[.int .i64 0, .slice none 0 0, .string ⟨#[]⟩, .int .i64 0, .slice none 0 0, .slice none 0 0, .slice none 0 0] 50)).drew.heap[w.heap.size + 1]? = some (.cells #[.int .i64 0, .slice none 0 0, .string ⟨#[]⟩, .int .i64 0, .slice none 0 0, .slice none 0 0, .slice none 0 0] 50 (0, 0)) := (by have h := heap_alloc_new (w.alloc (.cells #[.string s] 9)) (.cells #[.int .i64 0, .slice none 0 0, .string ⟨#[]⟩, .int .i64 0, .slice none 0 0, .slice none 0 0, .slice none 0 0] 50); rw [show (w.alloc (.cells #[.string s] 9)).heap.size = w.heap.size + 1 by simp] at h; exact h); have hcs := CL.out ((w.alloc (.cells #[.string s] 9)).alloc (.cells #[.int .i64 0, .slice none 0 0, .string ⟨#[]⟩, .int .i64 0, .slice none 0 0, .slice none 0 0, .slice none 0 0] 50)).drew; (with_reducible refine hcs.mono ?_); clear hcs; rintro e w1 ⟨rfl, hbi⟩; have HB1 := ghid (hbu.trans (hbi.mono hbu.size)); have HLr1 := ghid (Array.getElem?_eq_some_iff.1 hAr).1; have HLz1 := ghid (Array.getElem?_eq_some_iff.1 hAz).1; have HAr1 := ghid ((hbi.block _ (Array.getElem?_eq_some_iff.1 hAr).1).trans hAr); have HAz1 := ghid ((hbi.block _ (Array.getElem?_eq_some_iff.1 hAz).1).trans hAz); have hs1 := HB1.out.size; clear r0 r1 r2 r3 r4 r5 r6 rf hgl; obtain ⟨r0, r1, r2, r3, r4, r5, r6, rf, hgl⟩ := (HH.out.below HB1.out).rcells rfl HX.out; obtain ⟨ra, rl⟩ := one_cell HAr1.out; have hnrg : g ≠ w.heap.size := (by omega); have hmrg : w.heap.size ≠ g := (by omega); obtain ⟨z0, z1, z2, z3, z4, z5, z6, zf, zl⟩ := seven_cells HAz1.out; have hnzg : g ≠ w.heap.size + 1 := (by omega); have hmzg : w.heap.size + 1 ≠ g := (by omega); clear hbi hbu hAr hAz)
        | (go_at_call 193; have hbu : Below w.heap.size w w1 := HB1.out; have hAz : w1.heap[w.heap.size]? = some (.cells #[.int .i64 0, .slice none 0 0, .string ⟨#[]⟩, .int .i64 0, .slice none 0 0, .slice none 0 0, .slice none 0 0] 50 (0, 0)) := HAz1.out; have hAr : w1.heap[w.heap.size + 1]? = some (.cells #[.string s] 9 (0, 0)) := HAr1.out; have hcs := CH.out w1 hbu _ hAr; (with_reducible refine hcs.mono ?_); clear hcs; rintro e w2 ⟨v1, rfl, hf1, hbi⟩; have HB2 := ghid (hbu.trans (hbi.mono hbu.size)); have HLz2 := ghid (Array.getElem?_eq_some_iff.1 hAz).1; have HLr2 := ghid (Array.getElem?_eq_some_iff.1 hAr).1; have HAz2 := ghid ((hbi.block _ (Array.getElem?_eq_some_iff.1 hAz).1).trans hAz); have HAr2 := ghid ((hbi.block _ (Array.getElem?_eq_some_iff.1 hAr).1).trans hAr); obtain ⟨yeo, ylo, ypo, yso, yec, yln, ylc, ypn, ypc, ysn, ysc, rfl, -⟩ := id hf1.now; have HF := ghid hf1; have HG := ghid hbu.size; clear hf1; have hs2 := HB2.out.size; clear r0 r1 r2 r3 r4 r5 r6 rf hgl; obtain ⟨r0, r1, r2, r3, r4, r5, r6, rf, hgl⟩ := (HH.out.below HB2.out).rcells rfl HX.out; obtain ⟨z0, z1, z2, z3, z4, z5, z6, zf, zl⟩ := seven_cells HAz2.out; have hnzg : g ≠ w.heap.size := (by omega); have hmzg : w.heap.size ≠ g := (by omega); obtain ⟨ra, rl⟩ := one_cell HAr2.out; have hnrg : g ≠ w.heap.size + 1 := (by omega); have hmrg : w.heap.size + 1 ≠ g := (by omega); clear hbi hbu hAz hAr)
        | (go_at_call 193; have hbu : Below w.heap.size w w1 := HB1.out; have hAr : w1.heap[w.heap.size]? = some (.cells #[.string s] 9 (0, 0)) := HAr1.out; have hAz : w1.heap[w.heap.size + 1]? = some (.cells #[.int .i64 0, .slice none 0 0, .string ⟨#[]⟩, .int .i64 0, .slice none 0 0, .slice none 0 0, .slice none 0 0] 50 (0, 0)) := HAz1.out; have hcs := CH.out w1 hbu _ hAr; (with_reducible refine hcs.mono ?_); clear hcs; rintro e w2 ⟨v1, rfl, hf1, hbi⟩; have HB2 := ghid (hbu.trans (hbi.mono hbu.size)); have HLr2 := ghid (Array.getElem?_eq_some_iff.1 hAr).1; have HLz2 := ghid (Array.getElem?_eq_some_iff.1 hAz).1; have HAr2 := ghid ((hbi.block _ (Array.getElem?_eq_some_iff.1 hAr).1).trans hAr); have HAz2 := ghid ((hbi.block _ (Array.getElem?_eq_some_iff.1 hAz).1).trans hAz); obtain ⟨yeo, ylo, ypo, yso, yec, yln, ylc, ypn, ypc, ysn, ysc, rfl, -⟩ := id hf1.now; have HF := ghid hf1; have HG := ghid hbu.size; clear hf1; have hs2 := HB2.out.size; clear r0 r1 r2 r3 r4 r5 r6 rf hgl; obtain ⟨r0, r1, r2, r3, r4, r5, r6, rf, hgl⟩ := (HH.out.below HB2.out).rcells rfl HX.out; obtain ⟨ra, rl⟩ := one_cell HAr2.out; have hnrg : g ≠ w.heap.size := (by omega); have hmrg : w.heap.size ≠ g := (by omega); obtain ⟨z0, z1, z2, z3, z4, z5, z6, zf, zl⟩ := seven_cells HAz2.out; have hnzg : g ≠ w.heap.size + 1 := (by omega); have hmzg : w.heap.size + 1 ≠ g := (by omega); clear hbi hbu hAr hAz)
        | (go_at_call 193; have hbu : Below w.heap.size w (w1.alloc (.cells #[.string s] 9)) := (HB1.out.alloc HB1.out.size (.cells #[.string s] 9)); have hAz : (w1.alloc (.cells #[.string s] 9)).heap[w.heap.size]? = some (.cells #[.int .i64 0, .slice none 0 0, .string ⟨#[]⟩, .int .i64 0, .slice none 0 0, .slice none 0 0, .slice none 0 0] 50 (0, 0)) := (Below.heap_alloc w1 _ _ ((Array.getElem?_eq_some_iff.1 (HAz1.out)).1 |> fun h => (by first | exact h | (simp; omega)))).trans (HAz1.out); have hAr : (w1.alloc (.cells #[.string s] 9)).heap[w1.heap.size]? = some (.cells #[.string s] 9 (0, 0)) := heap_alloc_new w1 (.cells #[.string s] 9); have hcs := CH.out (w1.alloc (.cells #[.string s] 9)) hbu _ hAr; (with_reducible refine hcs.mono ?_); clear hcs; rintro e w2 ⟨v1, rfl, hf1, hbi⟩; have HB2 := ghid (hbu.trans (hbi.mono hbu.size)); have HLz2 := ghid (Array.getElem?_eq_some_iff.1 hAz).1; have HLr2 := ghid (Array.getElem?_eq_some_iff.1 hAr).1; have HAz2 := ghid ((hbi.block _ (Array.getElem?_eq_some_iff.1 hAz).1).trans hAz); have HAr2 := ghid ((hbi.block _ (Array.getElem?_eq_some_iff.1 hAr).1).trans hAr); obtain ⟨yeo, ylo, ypo, yso, yec, yln, ylc, ypn, ypc, ysn, ysc, rfl, -⟩ := id hf1.now; have HF := ghid hf1; have HG := ghid hbu.size; clear hf1; have hs2 := HB2.out.size; clear r0 r1 r2 r3 r4 r5 r6 rf hgl; obtain ⟨r0, r1, r2, r3, r4, r5, r6, rf, hgl⟩ := (HH.out.below HB2.out).rcells rfl HX.out; obtain ⟨z0, z1, z2, z3, z4, z5, z6, zf, zl⟩ := seven_cells HAz2.out; have hnzg : g ≠ w.heap.size := (by omega); have hmzg : w.heap.size ≠ g := (by omega); obtain ⟨ra, rl⟩ := one_cell HAr2.out; have hnrg : g ≠ w1.heap.size := (by omega); have hmrg : w1.heap.size ≠ g := (by omega); clear hbi hbu hAz hAr)
        | (go_at_call 193; have hbu : Below w.heap.size w w1 := HB1.out; have hAr : w1.heap[w.heap.size]? = some (.cells #[.string s] 9 (0, 0)) := HAr1.out; have hcs := CH.out w1 hbu _ hAr; (with_reducible refine hcs.mono ?_); clear hcs; rintro e w2 ⟨v1, rfl, hf1, hbi⟩; have HB2 := ghid (hbu.trans (hbi.mono hbu.size)); have HLr2 := ghid (Array.getElem?_eq_some_iff.1 hAr).1; have HAr2 := ghid ((hbi.block _ (Array.getElem?_eq_some_iff.1 hAr).1).trans hAr); obtain ⟨yeo, ylo, ypo, yso, yec, yln, ylc, ypn, ypc, ysn, ysc, rfl, -⟩ := id hf1.now; have HF := ghid hf1; have HG := ghid hbu.size; clear hf1; have hs2 := HB2.out.size; clear r0 r1 r2 r3 r4 r5 r6 rf hgl; obtain ⟨r0, r1, r2, r3, r4, r5, r6, rf, hgl⟩ := (HH.out.below HB2.out).rcells rfl HX.out; obtain ⟨ra, rl⟩ := one_cell HAr2.out; have hnrg : g ≠ w.heap.size := (by omega); have hmrg : w.heap.size ≠ g := (by omega); clear hbi hbu hAr)
        | (go_at_call 193; have hbu : Below w.heap.size w (w1.alloc (.cells #[.int .i64 0, .slice none 0 0, .string ⟨#[]⟩, .int .i64 0, .slice none 0 0, .slice none 0 0, .slice none 0 0] 50)) := (HB1.out.alloc HB1.out.size (.cells #[.int .i64 0, .slice none 0 0, .string ⟨#[]⟩, .int .i64 0, .slice none 0 0, .slice none 0 0, .slice none 0 0] 50)); have hAr : (w1.alloc (.cells #[.int .i64 0, .slice none 0 0, .string ⟨#[]⟩, .int .i64 0, .slice none 0 0, .slice none 0 0, .slice none 0 0] 50)).heap[w.heap.size]? = some (.cells #[.string s] 9 (0, 0)) := (Below.heap_alloc w1 _ _ ((Array.getElem?_eq_some_iff.1 (HAr1.out)).1 |> fun h => (by first | exact h | (simp; omega)))).trans (HAr1.out); have hAz : (w1.alloc (.cells #[.int .i64 0, .slice none 0 0, .string ⟨#[]⟩, .int .i64 0, .slice none 0 0, .slice none 0 0, .slice none 0 0] 50)).heap[w1.heap.size]? = some (.cells #[.int .i64 0, .slice none 0 0, .string ⟨#[]⟩, .int .i64 0, .slice none 0 0, .slice none 0 0, .slice none 0 0] 50 (0, 0)) := heap_alloc_new w1 (.cells #[.int .i64 0, .slice none 0 0, .string ⟨#[]⟩, .int .i64 0, .slice none 0 0, .slice none 0 0, .slice none 0 0] 50); have hcs := CH.out (w1.alloc (.cells #[.int .i64 0, .slice none 0 0, .string ⟨#[]⟩, .int .i64 0, .slice none 0 0, .slice none 0 0, .slice none 0 0] 50)) hbu _ hAr; (with_reducible refine hcs.mono ?_); clear hcs; rintro e w2 ⟨v1, rfl, hf1, hbi⟩; have HB2 := ghid (hbu.trans (hbi.mono hbu.size)); have HLr2 := ghid (Array.getElem?_eq_some_iff.1 hAr).1; have HLz2 := ghid (Array.getElem?_eq_some_iff.1 hAz).1; have HAr2 := ghid ((hbi.block _ (Array.getElem?_eq_some_iff.1 hAr).1).trans hAr); have HAz2 := ghid ((hbi.block _ (Array.getElem?_eq_some_iff.1 hAz).1).trans hAz); obtain ⟨yeo, ylo, ypo, yso, yec, yln, ylc, ypn, ypc, ysn, ysc, rfl, -⟩ := id hf1.now; have HF := ghid hf1; have HG := ghid hbu.size; clear hf1; have hs2 := HB2.out.size; clear r0 r1 r2 r3 r4 r5 r6 rf hgl; obtain ⟨r0, r1, r2, r3, r4, r5, r6, rf, hgl⟩ := (HH.out.below HB2.out).rcells rfl HX.out; obtain ⟨ra, rl⟩ := one_cell HAr2.out; have hnrg : g ≠ w.heap.size := (by omega); have hmrg : w.heap.size ≠ g := (by omega); obtain ⟨z0, z1, z2, z3, z4, z5, z6, zf, zl⟩ := seven_cells HAz2.out; have hnzg : g ≠ w1.heap.size := (by omega); have hmzg : w1.heap.size ≠ g := (by omega); clear hbi hbu hAr hAz)
        | (go_at_call 193; have hbu : Below w.heap.size w (w1.alloc (.cells #[.string s] 9)) := (HB1.out.alloc HB1.out.size (.cells #[.string s] 9)); have hAr : (w1.alloc (.cells #[.string s] 9)).heap[w1.heap.size]? = some (.cells #[.string s] 9 (0, 0)) := heap_alloc_new w1 (.cells #[.string s] 9); have hcs := CH.out (w1.alloc (.cells #[.string s] 9)) hbu _ hAr; (with_reducible refine hcs.mono ?_); clear hcs; rintro e w2 ⟨v1, rfl, hf1, hbi⟩; have HB2 := ghid (hbu.trans (hbi.mono hbu.size)); have HLr2 := ghid (Array.getElem?_eq_some_iff.1 hAr).1; have HAr2 := ghid ((hbi.block _ (Array.getElem?_eq_some_iff.1 hAr).1).trans hAr); obtain ⟨yeo, ylo, ypo, yso, yec, yln, ylc, ypn, ypc, ysn, ysc, rfl, -⟩ := id hf1.now; have HF := ghid hf1; have HG := ghid hbu.size; clear hf1; have hs2 := HB2.out.size; clear r0 r1 r2 r3 r4 r5 r6 rf hgl; obtain ⟨r0, r1, r2, r3, r4, r5, r6, rf, hgl⟩ := (HH.out.below HB2.out).rcells rfl HX.out; obtain ⟨ra, rl⟩ := one_cell HAr2.out; have hnrg : g ≠ w1.heap.size := (by omega); have hmrg : w1.heap.size ≠ g := (by omega); clear hbi hbu hAr)
        | (go_at_call 193; have hbu : Below w.heap.size w ((w1.alloc (.cells #[.int .i64 0, .slice none 0 0, .string ⟨#[]⟩, .int .i64 0, .slice none 0 0, .slice none 0 0, .slice none 0 0] 50)).alloc (.cells #[.string s] 9)) := ((HB1.out.alloc HB1.out.size (.cells #[.int .i64 0, .slice none 0 0, .string ⟨#[]⟩, .int .i64 0, .slice none 0 0, .slice none 0 0, .slice none 0 0] 50)).alloc (by first | (simp; done) | (simp; omega)) (.cells #[.string s] 9)); have hAz : ((w1.alloc (.cells #[.int .i64 0, .slice none 0 0, .string ⟨#[]⟩, .int .i64 0, .slice none 0 0, .slice none 0 0, .slice none 0 0] 50)).alloc (.cells #[.string s] 9)).heap[w1.heap.size]? = some (.cells #[.int .i64 0, .slice none 0 0, .string ⟨#[]⟩, .int .i64 0, .slice none 0 0, .slice none 0 0, .slice none 0 0] 50 (0, 0)) := (Below.heap_alloc (w1.alloc (.cells #[.int .i64 0, .slice none 0 0, .string ⟨#[]⟩, .int .i64 0, .slice none 0 0, .slice none 0 0, .slice none 0 0] 50)) _ _ (by simp)).trans (heap_alloc_new w1 (.cells #[.int .i64 0, .slice none 0 0, .string ⟨#[]⟩, .int .i64 0, .slice none 0 0, .slice none 0 0, .slice none 0 0] 50)); have hAr : ((w1.alloc (.cells #[.int .i64 0, .slice none 0 0, .string ⟨#[]⟩, .int .i64 0, .slice none 0 0, .slice none 0 0, .slice none 0 0] 50)).alloc (.cells #[.string s] 9)).heap[w1.heap.size + 1]? = some (.cells #[.string s] 9 (0, 0)) := (by have h := heap_alloc_new (w1.alloc (.cells #[.int .i64 0, .slice none 0 0, .string ⟨#[]⟩, .int .i64 0, .slice none 0 0, .slice none 0 0, .slice none 0 0] 50)) (.cells #[.string s] 9); rw [show (w1.alloc (.cells #[.int .i64 0, .slice none 0 0, .string ⟨#[]⟩, .int .i64 0, .slice none 0 0, .slice none 0 0, .slice none 0 0] 50)).heap.size = w1.heap.size + 1 by simp] at h; exact h); have hcs := CH.out ((w1.alloc (.cells #[.int .i64 0, .slice none 0 0, .string ⟨#[]⟩, .int .i64 0, .slice none 0 0, .slice none 0 0, .slice none 0 0] 50)).alloc (.cells #[.string s] 9)) hbu _ hAr; (with_reducible refine hcs.mono ?_); clear hcs; rintro e w2 ⟨v1, rfl, hf1, hbi⟩; have HB2 := ghid (hbu.trans (hbi.mono hbu.size)); have HLz2 := ghid (Array.getElem?_eq_some_iff.1 hAz).1; have HLr2 := ghid (Array.getElem?_eq_some_iff.1 hAr).1; have HAz2 := ghid ((hbi.block _ (Array.getElem?_eq_some_iff.1 hAz).1).trans hAz); have HAr2 := ghid ((hbi.block _ (Array.getElem?_eq_some_iff.1 hAr).1).trans hAr); obtain ⟨yeo, ylo, ypo, yso, yec, yln, ylc, ypn, ypc, ysn, ysc, rfl, -⟩ := id hf1.now; have HF := ghid hf1; have HG := ghid hbu.size; clear hf1; have hs2 := HB2.out.size; clear r0 r1 r2 r3 r4 r5 r6 rf hgl; obtain ⟨r0, r1, r2, r3, r4, r5, r6, rf, hgl⟩ := (HH.out.below HB2.out).rcells rfl HX.out; obtain ⟨z0, z1, z2, z3, z4, z5, z6, zf, zl⟩ := seven_cells HAz2.out; have hnzg : g ≠ w1.heap.size := (by omega); have hmzg : w1.heap.size ≠ g := (by omega); obtain ⟨ra, rl⟩ := one_cell HAr2.out; have hnrg : g ≠ w1.heap.size + 1 := (by omega); have hmrg : w1.heap.size + 1 ≠ g := (by omega); clear hbi hbu hAz hAr)
        | (go_at_call 193; have hbu : Below w.heap.size w ((w1.alloc (.cells #[.string s] 9)).alloc (.cells #[.int .i64 0, .slice none 0 0, .string ⟨#[]⟩, .int .i64 0, .slice none 0 0, .slice none 0 0, .slice none 0 0] 50)) := ((HB1.out.alloc HB1.out.size (.cells #[.string s] 9)).alloc (by first | (simp; done) | (simp; omega)) (.cells #[.int .i64 0, .slice none 0 0, .string ⟨#[]⟩, .int .i64 0, .slice none 0 0, .slice none 0 0, .slice none 0 0] 50)); have hAr : ((w1.alloc (.cells #[.string s] 9)).alloc (.cells #[.int .i64 0, .slice none 0 0, .string ⟨#[]⟩, .int .i64 0, .slice none 0 0, .slice none 0 0, .slice none 0 0] 50)).heap[w1.heap.size]? = some (.cells #[.string s] 9 (0, 0)) := (Below.heap_alloc (w1.alloc (.cells #[.string s] 9)) _ _ (by simp)).trans (heap_alloc_new w1 (.cells #[.string s] 9)); have hAz : ((w1.alloc (.cells #[.string s] 9)).alloc (.cells #[.int .i64 0, .slice none 0 0, .string ⟨#[]⟩, .int .i64 0, .slice none 0 0, .slice none 0 0, .slice none 0 0] 50)).heap[w1.heap.size + 1]? = some (.cells #[.int .i64 0, .slice none 0 0, .string ⟨#[]⟩, .int .i64 0, .slice none 0 0, .slice none 0 0, .slice none 0 0] 50 (0, 0)) := (by have h := heap_alloc_new (w1.alloc (.cells #[.string s] 9)) (.cells #[.int .i64 0, .slice none 0 0, .string ⟨#[]⟩, .int .i64 0, .slice none 0 0, .slice none 0 0, .slice none 0 0] 50); rw [show (w1.alloc (.cells #[.string s] 9)).heap.size = w1.heap.size + 1 by simp] at h; exact h); have hcs := CH.out ((w1.alloc (.cells #[.string s] 9)).alloc (.cells #[.int .i64 0, .slice none 0 0, .string ⟨#[]⟩, .int .i64 0, .slice none 0 0, .slice none 0 0, .slice none 0 0] 50)) hbu _ hAr; (with_reducible refine hcs.mono ?_); clear hcs; rintro e w2 ⟨v1, rfl, hf1, hbi⟩; have HB2 := ghid (hbu.trans (hbi.mono hbu.size)); have HLr2 := ghid (Array.getElem?_eq_some_iff.1 hAr).1; have HLz2 := ghid (Array.getElem?_eq_some_iff.1 hAz).1; have HAr2 := ghid ((hbi.block _ (Array.getElem?_eq_some_iff.1 hAr).1).trans hAr); have HAz2 := ghid ((hbi.block _ (Array.getElem?_eq_some_iff.1 hAz).1).trans hAz); obtain ⟨yeo, ylo, ypo, yso, yec, yln, ylc, ypn, ypc, ysn, ysc, rfl, -⟩ := id hf1.now; have HF := ghid hf1; have HG := ghid hbu.size; clear hf1; have hs2 := HB2.out.size; clear r0 r1 r2 r3 r4 r5 r6 rf hgl; obtain ⟨r0, r1, r2, r3, r4, r5, r6, rf, hgl⟩ := (HH.out.below HB2.out).rcells rfl HX.out; obtain ⟨ra, rl⟩ := one_cell HAr2.out; have hnrg : g ≠ w1.heap.size := (by omega); have hmrg : w1.heap.size ≠ g := (by omega); obtain ⟨z0, z1, z2, z3, z4, z5, z6, zf, zl⟩ := seven_cells HAz2.out; have hnzg : g ≠ w1.heap.size + 1 := (by omega); have hmzg : w1.heap.size + 1 ≠ g := (by omega); clear hbi hbu hAr hAz))
    all_goals
      go_wp2
      go_meet
      first
        | (have hA := heap_alloc_new w2 (.cells #[.int .i64 hl.log.base, .slice yeo hl.log.ents.length yec, .string hl.snap, .int .i64 hl.state.index, .slice ylo yln ylc, .slice ypo ypn ypc, .slice yso ysn ysc] 50)
           have hB := HB2.out.alloc HB2.out.size (.cells #[.int .i64 hl.log.base, .slice yeo hl.log.ents.length yec, .string hl.snap, .int .i64 hl.state.index, .slice ylo yln ylc, .slice ypo ypn ypc, .slice yso ysn ysc] 50)
           have hC := (HF.out.below ((Below.refl w2.heap.size w2).alloc (Nat.le_refl _) (.cells #[.int .i64 hl.log.base, .slice yeo hl.log.ents.length yec, .string hl.snap, .int .i64 hl.state.index, .slice ylo yln ylc, .slice ypo ypn ypc, .slice yso ysn ysc] 50))).k fun j _ hj => ⟨Nat.lt_of_lt_of_le (HKL.out j hj) HG.out, (HH.out.below hB).odd odd_out hj⟩
           with_reducible exact ⟨w2.heap.size, yec, yln, ylc, ypn, ypc, ysn, ysc, yeo, ylo, ypo, yso, rfl, rfl, hA, hC, hB⟩)
        | (have hA := set7 HAz2.out (.int .i64 hl.log.base) (.slice yeo hl.log.ents.length yec) (.string hl.snap) (.int .i64 hl.state.index) (.slice ylo yln ylc) (.slice ypo ypn ypc) (.slice yso ysn ysc)
           have hB := zset7 (b := w1.heap.size) HB2.out (by omega) (.int .i64 hl.log.base) (.slice yeo hl.log.ents.length yec) (.string hl.snap) (.int .i64 hl.state.index) (.slice ylo yln ylc) (.slice ypo ypn ypc) (.slice yso ysn ysc)
           have hC := (HF.out.touch (touch7 (w1.heap.size) (.int .i64 hl.log.base) (.slice yeo hl.log.ents.length yec) (.string hl.snap) (.int .i64 hl.state.index) (.slice ylo yln ylc) (.slice ypo ypn ypc) (.slice yso ysn ysc)) fun _ _ e => e ▸ ⟨HLz2.out, rep_alien HAz2.out⟩).k fun j _ hj => ⟨Nat.lt_of_lt_of_le (HKL.out j hj) HG.out, (HH.out.below hB).odd odd_out hj⟩
           with_reducible exact ⟨w1.heap.size, yec, yln, ylc, ypn, ypc, ysn, ysc, yeo, ylo, ypo, yso, rfl, rfl, hA, hC, hB⟩)
        | (have hA := set7 HAz2.out (.int .i64 hl.log.base) (.slice yeo hl.log.ents.length yec) (.string hl.snap) (.int .i64 hl.state.index) (.slice ylo yln ylc) (.slice ypo ypn ypc) (.slice yso ysn ysc)
           have hB := zset7 (b := w1.heap.size + 1) HB2.out (by omega) (.int .i64 hl.log.base) (.slice yeo hl.log.ents.length yec) (.string hl.snap) (.int .i64 hl.state.index) (.slice ylo yln ylc) (.slice ypo ypn ypc) (.slice yso ysn ysc)
           have hC := (HF.out.touch (touch7 (w1.heap.size + 1) (.int .i64 hl.log.base) (.slice yeo hl.log.ents.length yec) (.string hl.snap) (.int .i64 hl.state.index) (.slice ylo yln ylc) (.slice ypo ypn ypc) (.slice yso ysn ysc)) fun _ _ e => e ▸ ⟨HLz2.out, rep_alien HAz2.out⟩).k fun j _ hj => ⟨Nat.lt_of_lt_of_le (HKL.out j hj) HG.out, (HH.out.below hB).odd odd_out hj⟩
           with_reducible exact ⟨w1.heap.size + 1, yec, yln, ylc, ypn, ypc, ysn, ysc, yeo, ylo, ypo, yso, rfl, rfl, hA, hC, hB⟩)
        | (have hA := set7 HAz2.out (.int .i64 hl.log.base) (.slice yeo hl.log.ents.length yec) (.string hl.snap) (.int .i64 hl.state.index) (.slice ylo yln ylc) (.slice ypo ypn ypc) (.slice yso ysn ysc)
           have hB := zset7 (b := w.heap.size) HB2.out (by omega) (.int .i64 hl.log.base) (.slice yeo hl.log.ents.length yec) (.string hl.snap) (.int .i64 hl.state.index) (.slice ylo yln ylc) (.slice ypo ypn ypc) (.slice yso ysn ysc)
           have hC := (HF.out.touch (touch7 (w.heap.size) (.int .i64 hl.log.base) (.slice yeo hl.log.ents.length yec) (.string hl.snap) (.int .i64 hl.state.index) (.slice ylo yln ylc) (.slice ypo ypn ypc) (.slice yso ysn ysc)) fun _ _ e => e ▸ ⟨HLz2.out, rep_alien HAz2.out⟩).k fun j _ hj => ⟨Nat.lt_of_lt_of_le (HKL.out j hj) HG.out, (HH.out.below hB).odd odd_out hj⟩
           with_reducible exact ⟨w.heap.size, yec, yln, ylc, ypn, ypc, ysn, ysc, yeo, ylo, ypo, yso, rfl, rfl, hA, hC, hB⟩)
        | (have hA := set7 HAz2.out (.int .i64 hl.log.base) (.slice yeo hl.log.ents.length yec) (.string hl.snap) (.int .i64 hl.state.index) (.slice ylo yln ylc) (.slice ypo ypn ypc) (.slice yso ysn ysc)
           have hB := zset7 (b := w.heap.size + 1) HB2.out (by omega) (.int .i64 hl.log.base) (.slice yeo hl.log.ents.length yec) (.string hl.snap) (.int .i64 hl.state.index) (.slice ylo yln ylc) (.slice ypo ypn ypc) (.slice yso ysn ysc)
           have hC := (HF.out.touch (touch7 (w.heap.size + 1) (.int .i64 hl.log.base) (.slice yeo hl.log.ents.length yec) (.string hl.snap) (.int .i64 hl.state.index) (.slice ylo yln ylc) (.slice ypo ypn ypc) (.slice yso ysn ysc)) fun _ _ e => e ▸ ⟨HLz2.out, rep_alien HAz2.out⟩).k fun j _ hj => ⟨Nat.lt_of_lt_of_le (HKL.out j hj) HG.out, (HH.out.below hB).odd odd_out hj⟩
           with_reducible exact ⟨w.heap.size + 1, yec, yln, ylc, ypn, ypc, ysn, ysc, yeo, ylo, ypo, yso, rfl, rfl, hA, hC, hB⟩)
  case rest =>
    obtain ⟨bx, yec, yln, ylc, ypn, ypc, ysn, ysc, yeo, ylo, ypo, yso, rfl, rfl, hbx, hf, hbw⟩ := hcut
    have HBW := ghid hbw
    have HM2 := ghid (HH.out.below hbw)
    have HB2 := ghid (HB0.out.trans (hbw.mono HB0.out.size))
    have HF := ghid hf
    clear r0 r1 r2 r3 r4 r5 r6 rf hgl
    obtain ⟨x0, x1, x2, x3, x4, x5, x6, xf, xl⟩ := seven_cells hbx
    clear hbx hf hbw CL CH
    by_cases h0 : he = 0
    · have HRR : Hid (R = (t.setRep ld hl, 0)) := HR.out.trans (if_neg (by simpa using h0))
      subst h0
      have CK := ghid (keepR_ok HM2.out odd_out rfl hlk (y := ⟨hl, yeo, ylo, ypo, yso, yec, yln, ylc, ypn, ypc, ysn, ysc⟩) HF.out)
      simp only [RepV.val] at CK
      clear HR
      go_wp2_with fail
      refine CK.out.mono ?_
      rintro e w3 ⟨rfl, hm3⟩
      have HM3 := ghid hm3
      clear hm3
      go_wp2
      go_ret
      exact ⟨sret_int (by rw [HRR.out]), by rw [HRR.out]; exact HM3.out.behind HB2.out⟩
    · have HRR : Hid (R = (t, he)) := HR.out.trans (if_pos h0)
      have CK := ghid (fun u => keepR_bad ⟨g, ld * 7, none⟩ ⟨hl, yeo, ylo, ypo, yso, yec, yln, ylc, ypn, ypc, ysn, ysc⟩ he h0 u)
      simp only [RepV.val] at CK
      clear HR
      go_wp2_with fail
      refine (CK.out _).mono ?_
      rintro e w3 ⟨rfl, hm3⟩
      have HM3 := ghid hm3
      clear hm3
      go_wp2
      go_ret
      exact ⟨sret_int (by rw [HRR.out]), by rw [HRR.out]; exact MovedE.same ⟨_, _, _, _, _, _, HHB.out⟩ (HB2.out.trans (HM3.out.mono HB2.out.size))⟩

end

end Go.Proofs.YtijilhbdbeajjaaGreatDoor
