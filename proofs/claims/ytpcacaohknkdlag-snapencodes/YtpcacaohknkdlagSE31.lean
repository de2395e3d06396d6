/- The parts of a state as values: what a value reads as, wherever it is kept; package snap's writeList, at its five types: how many, and each one, put behind what the writer has (joined by program) -/
import Derived.Test.YtpcacaohknkdlagSE02
import Derived.Test.YtpcacaohknkdlagSE30
namespace Go.Proofs.Ytpcacaohknkdlag

open Go.RowKit

def IntV (_ : World) (_ : Nat) (ev : Value) (x : Int) : Prop := ev = .int .i64 x

def LockV (w : World) (B : Nat) (ev : Value) (x : LockD) : Prop :=
  ∃ lv, ev = .agg #[.string x.name, .int .i64 x.holder, .int .i64 x.fence, lv] ∧ IntsR w B lv x.line ∧ x.name.size ≤ 140737488351232

def PairV (_ : World) (_ : Nat) (ev : Value) (x : PairD) : Prop :=
  ev = .agg #[.string x.name, .string x.value, .int .i64 x.version] ∧ x.name.size ≤ 140737488351232 ∧ x.value.size ≤ 140737488351232

def KeptV (_ : World) (_ : Nat) (ev : Value) (x : KeptD) : Prop :=
  ev = .agg #[.int .i64 x.seq, .int .i64 x.code, .int .i64 x.n, .string x.text] ∧ x.text.size ≤ 140737488351232

def SessV (w : World) (B : Nat) (ev : Value) (x : SessD) : Prop :=
  ∃ lv, ev = .agg #[.int .i64 x.client, .int .i64 x.id, .int .i64 x.acked, .int .i64 x.last, lv] ∧ KeptsR w B lv x.replies

/-- w' is w but for old blocks below n, and new ones. -/
def NewR (n : Nat) (w : World) (R : World → Prop) : Prop := ∀ u, TouchG w u (fun k => k < n) → R u

theorem NewR.mono {n m : Nat} {w : World} {R : World → Prop} (h : NewR n w R) (hm : m ≤ n) : NewR m w R :=
  fun u hu => h u ⟨hu.os, hu.tape, hu.output, hu.size, fun k hk hn => hu.block k hk (by omega)⟩

theorem NewR.of (n : Nat) (w : World) {R : World → Prop} (h : ∀ u, R u) : NewR n w R := fun u _ => h u

end Go.Proofs.Ytpcacaohknkdlag

namespace Go.Proofs.Ytpcacaohknkdlag

open Go.RowKit

/-- What is asked of a writing method: it puts the bytes of its argument behind what the writer has. -/
def WrC (cl : Nat) {α : Type} (out : α → ByteArray) (V : World → Nat → Value → α → Prop) (ok : α → Prop) : Prop :=
  ∀ (B b : Nat) (t : ByteArray) (ev : Value) (x : α) (w : World), V w B ev x → ok x → B ≤ w.heap.size → WrT B b t w → t.size + (out x).size ≤ 1000000000 →
    Calls Try.prog cl #[.pointer (some ⟨b, 0, none⟩), ev] w fun e w' => e = .returned (.tuple #[]) ∧ WrS B b (t ++ out x) w w'

theorem catB_take_le {α : Type} (out : α → ByteArray) (xs : List α) (k : Nat) : (catB ((xs.take k).map out)).size ≤ (catB (xs.map out)).size := by
  have e : xs.map out = (xs.take k).map out ++ (xs.drop k).map out := by rw [← List.map_append, List.take_append_drop]
  rw [e, catB_append, ByteArray.size_append]
  omega

theorem catB_step {α : Type} (out : α → ByteArray) {xs : List α} {k : Nat} {x : α} (h : xs[k]? = some x) (t : ByteArray) : (t ++ catB ((xs.take k).map out)) ++ out x = t ++ catB ((xs.take (k + 1)).map out) := by
  rw [take_snocC h, List.map_append, List.map_cons, List.map_nil, catB_snoc, ByteArray.append_assoc]

theorem catB_fits {α : Type} (out : α → ByteArray) {xs : List α} {k : Nat} {x : α} (h : xs[k]? = some x) (t : ByteArray) : (t ++ catB ((xs.take k).map out)).size + (out x).size ≤ t.size + (catB (xs.map out)).size := by
  rw [← ByteArray.size_append, catB_step out h t, ByteArray.size_append]
  have := catB_take_le out xs (k + 1)
  omega

theorem wr_alloc {B b : Nat} {t : ByteArray} {w w1 : World} (h : WrS B b t w w1) (hB : B ≤ w1.heap.size) (o : Obj) : WrS B b t w (w1.alloc o) := h.more ((Below.refl _ _).alloc (Nat.le_refl _) _) hB

set_option maxRecDepth 100000 in
set_option maxHeartbeats 1600000 in
theorem wlistInt (B b : Nat) (t : ByteArray) (v : Value) (xs : List Int) (cl : Nat) (out : Int → ByteArray) (w : World) (hv : IntsR w B v xs) (_hB : B ≤ w.heap.size) (hw : WrT B b t w) (hlen : (xs.length : Int) ≤ 1099511627776) (hsz : t.size + (numOut xs.length ++ catB (xs.map out)).size ≤ 1000000000)
    (eg : ∀ args w, (callFunc cl args).run Try.prog w = .ok (.enter cl args) w) (hc : WrC cl out IntV (fun x => x ∈ xs)) :
    Calls Try.prog 70 #[.pointer (some ⟨b, 0, none⟩), v, .func (.func cl) #[.pointer (some ⟨b, 0, none⟩)] #[]] w fun e w' => e = .returned (.tuple #[]) ∧ WrS B b (t ++ (numOut xs.length ++ catB (xs.map out))) w w' := by
  have hlt := hw.lt
  have HC := ghid hc
  obtain ⟨ao, cap, rfl, h1, h2, h3, h4⟩ := hv
  rw [ByteArray.size_append] at hsz
  have CN := ghid (wrNumber_any B b t xs.length w hw (by omega) hlen (by omega))
  rw [← ByteArray.append_assoc]
  have hts : (t ++ numOut xs.length).size + (catB (xs.map out)).size ≤ 1000000000 := by rw [ByteArray.size_append]; omega
  obtain ⟨tn, htn⟩ : ∃ tn, tn = t ++ numOut xs.length := ⟨_, rfl⟩
  rw [← htn] at CN hts ⊢
  clear hc htn hsz hw
  go_enter Try.func70, Try.ntmps70
  go_wp2_with fail
  refine CN.out.mono ?_
  rintro e w1 ⟨rfl, hs1⟩
  have HS1 := ghid hs1
  clear hs1 CN
  go_wp2_with fail
  go_loopw [14] (fun i wr => ∃ k : Nat, k ≤ xs.length ∧ i = .int .i64 k ∧ WrS B b (tn ++ catB ((xs.take k).map out)) w wr) (fun i _ => xs.length - (intOf i).toNat)
  case atStart => exact ⟨0, Nat.zero_le _, rfl, by rw [List.take_zero, List.map_nil, catB_nil, bnil]; exact HS1.out⟩
  case round =>
    obtain ⟨k, hk, rfl, hs⟩ := hrel
    have HS := ghid hs
    have hb := hs.below
    have hzr := hb.size
    clear hs HS1
    by_cases hlt2 : k < xs.length
    · obtain ⟨g, off, rfl, hbB, hc⟩ := h4 (by omega)
      obtain ⟨x, hx⟩ : ∃ x, xs[k]? = some x := ⟨_, List.getElem?_eq_getElem hlt2⟩
      have hm := List.mem_of_getElem? hx
      have hfit := catB_fits out hx tn
      have HST := ghid (catB_step out hx tn)
      have c0 := (hb.cell (p := ⟨g, off + k, none⟩) hbB).trans (hc k x hx)
      have HSA := HS
      have CW := ghid (HC.out B b _ (.int .i64 x) x wr rfl hm (by omega) HSA.out.has (by omega))
      clear hx hc h4 hb hm HC
      go_wp2_with fail
      refine CW.out.mono ?_
      rintro e w2 ⟨rfl, hs2⟩
      have HS2 := ghid (HSA.out.trans hs2)
      rw [HST.out] at HS2
      clear hs2 CW HST
      go_wp2
      go_roundw
      case rel => exact ⟨k + 1, by omega, by go_num, HS2.out⟩
      case measure => simp [intOf]; omega
    · have hkl : k = xs.length := by omega
      subst hkl
      rw [List.take_length] at HS
      clear h4 hb
      go_wp2
      go_end0
      exact ⟨rfl, HS.out⟩

set_option maxRecDepth 100000 in
set_option maxHeartbeats 1600000 in
theorem wlistKept (B b : Nat) (t : ByteArray) (v : Value) (xs : List KeptD) (cl : Nat) (out : KeptD → ByteArray) (w : World) (hv : KeptsR w B v xs) (hB : B ≤ w.heap.size) (hw : WrT B b t w) (hlen : (xs.length : Int) ≤ 1099511627776) (hsz : t.size + (numOut xs.length ++ catB (xs.map out)).size ≤ 1000000000)
    (eg : ∀ args w, (callFunc cl args).run Try.prog w = .ok (.enter cl args) w) (hc : WrC cl out KeptV (fun x => x ∈ xs)) :
    Calls Try.prog 71 #[.pointer (some ⟨b, 0, none⟩), v, .func (.func cl) #[.pointer (some ⟨b, 0, none⟩)] #[]] w fun e w' => e = .returned (.tuple #[]) ∧ WrS B b (t ++ (numOut xs.length ++ catB (xs.map out))) w w' := by
  have hlt := hw.lt
  have HC := ghid hc
  obtain ⟨ao, cap, rfl, h1, h2, h3, h4⟩ := hv
  rw [ByteArray.size_append] at hsz
  have CN := ghid (wrNumber_any B b t xs.length w hw (by omega) hlen (by omega))
  rw [← ByteArray.append_assoc]
  have hts : (t ++ numOut xs.length).size + (catB (xs.map out)).size ≤ 1000000000 := by rw [ByteArray.size_append]; omega
  obtain ⟨tn, htn⟩ : ∃ tn, tn = t ++ numOut xs.length := ⟨_, rfl⟩
  rw [← htn] at CN hts ⊢
  clear hc htn hsz hw
  go_enter Try.func71, Try.ntmps71
  go_wp2_with fail
  refine CN.out.mono ?_
  rintro e w1 ⟨rfl, hs1⟩
  have HS1 := ghid hs1
  clear hs1 CN
  go_wp2_with fail
  go_loopw [14] (fun i wr => ∃ k : Nat, k ≤ xs.length ∧ i = .int .i64 k ∧ WrS B b (tn ++ catB ((xs.take k).map out)) w wr) (fun i _ => xs.length - (intOf i).toNat)
  case atStart => exact ⟨0, Nat.zero_le _, rfl, by rw [List.take_zero, List.map_nil, catB_nil, bnil]; exact HS1.out⟩
  case round =>
    obtain ⟨k, hk, rfl, hs⟩ := hrel
    have HS := ghid hs
    have hb := hs.below
    have hzr := hb.size
    clear hs HS1
    by_cases hlt2 : k < xs.length
    · obtain ⟨g, off, rfl, hbB, hc⟩ := h4 (by omega)
      obtain ⟨x, hx⟩ : ∃ x, xs[k]? = some x := ⟨_, List.getElem?_eq_getElem hlt2⟩
      have hm := List.mem_of_getElem? hx
      have hfit := catB_fits out hx tn
      have HST := ghid (catB_step out hx tn)
      obtain ⟨c0, c1, c2, c3, hs⟩ := (hc k x hx).below hbB hb
      obtain ⟨xs0, xc, xn, xt⟩ := x
      simp only at c0 c1 c2 c3 hs
      have hba : Below wr.heap.size wr (wr.alloc (.cells #[.int .i64 xs0, .int .i64 xc, .int .i64 xn, .string xt] 64)) := (Below.refl _ _).alloc (Nat.le_refl _) _
      have HSA := ghid (wr_alloc HS.out (Nat.le_trans hB hzr) (.cells #[.int .i64 xs0, .int .i64 xc, .int .i64 xn, .string xt] 64))
      have CW := ghid (HC.out B b _ (.agg #[.int .i64 xs0, .int .i64 xc, .int .i64 xn, .string xt]) ⟨xs0, xc, xn, xt⟩ (wr.alloc (.cells #[.int .i64 xs0, .int .i64 xc, .int .i64 xn, .string xt] 64)) ⟨rfl, hs⟩ hm (by simp; omega) HSA.out.has (by omega))
      clear hba hx hc h4 hb hm HC
      go_wp2_with fail
      refine CW.out.mono ?_
      rintro e w2 ⟨rfl, hs2⟩
      have HS2 := ghid (HSA.out.trans hs2)
      rw [HST.out] at HS2
      clear hs2 CW HST
      go_wp2
      go_roundw
      case rel => exact ⟨k + 1, by omega, by go_num, HS2.out⟩
      case measure => simp [intOf]; omega
    · have hkl : k = xs.length := by omega
      subst hkl
      rw [List.take_length] at HS
      clear h4 hb
      go_wp2
      go_end0
      exact ⟨rfl, HS.out⟩

set_option maxRecDepth 100000 in
set_option maxHeartbeats 1600000 in
theorem wlistLock (B b : Nat) (t : ByteArray) (v : Value) (xs : List LockD) (cl : Nat) (out : LockD → ByteArray) (w : World) (hv : LocksR w B v xs) (hB : B ≤ w.heap.size) (hw : WrT B b t w) (hlen : (xs.length : Int) ≤ 1099511627776) (hsz : t.size + (numOut xs.length ++ catB (xs.map out)).size ≤ 1000000000)
    (eg : ∀ args w, (callFunc cl args).run Try.prog w = .ok (.enter cl args) w) (hc : WrC cl out LockV (fun x => x ∈ xs)) :
    Calls Try.prog 40 #[.pointer (some ⟨b, 0, none⟩), v, .func (.func cl) #[.pointer (some ⟨b, 0, none⟩)] #[]] w fun e w' => e = .returned (.tuple #[]) ∧ WrS B b (t ++ (numOut xs.length ++ catB (xs.map out))) w w' := by
  have hlt := hw.lt
  have HC := ghid hc
  obtain ⟨ao, cap, rfl, h1, h2, h3, h4⟩ := hv
  rw [ByteArray.size_append] at hsz
  have CN := ghid (wrNumber_any B b t xs.length w hw (by omega) hlen (by omega))
  rw [← ByteArray.append_assoc]
  have hts : (t ++ numOut xs.length).size + (catB (xs.map out)).size ≤ 1000000000 := by rw [ByteArray.size_append]; omega
  obtain ⟨tn, htn⟩ : ∃ tn, tn = t ++ numOut xs.length := ⟨_, rfl⟩
  rw [← htn] at CN hts ⊢
  clear hc htn hsz hw
  go_enter Try.func40, Try.ntmps40
  go_wp2_with fail
  refine CN.out.mono ?_
  rintro e w1 ⟨rfl, hs1⟩
  have HS1 := ghid hs1
  clear hs1 CN
  go_wp2_with fail
  go_loopw [14] (fun i wr => ∃ k : Nat, k ≤ xs.length ∧ i = .int .i64 k ∧ WrS B b (tn ++ catB ((xs.take k).map out)) w wr) (fun i _ => xs.length - (intOf i).toNat)
  case atStart => exact ⟨0, Nat.zero_le _, rfl, by rw [List.take_zero, List.map_nil, catB_nil, bnil]; exact HS1.out⟩
  case round =>
    obtain ⟨k, hk, rfl, hs⟩ := hrel
    have HS := ghid hs
    have hb := hs.below
    have hzr := hb.size
    clear hs HS1
    by_cases hlt2 : k < xs.length
    · obtain ⟨g, off, rfl, hbB, hc⟩ := h4 (by omega)
      obtain ⟨x, hx⟩ : ∃ x, xs[k]? = some x := ⟨_, List.getElem?_eq_getElem hlt2⟩
      have hm := List.mem_of_getElem? hx
      have hfit := catB_fits out hx tn
      have HST := ghid (catB_step out hx tn)
      obtain ⟨lv, c0, c1, c2, c3, hl, hs⟩ := (hc k x hx).below hbB hb (Nat.le_refl _)
      obtain ⟨lo, lc, rfl, -⟩ := id hl
      obtain ⟨xn, xh, xf, xl⟩ := x
      simp only at c0 c1 c2 c3 hl hs
      have hba : Below wr.heap.size wr (wr.alloc (.cells #[.string xn, .int .i64 xh, .int .i64 xf, .slice lo xl.length lc] 55)) := (Below.refl _ _).alloc (Nat.le_refl _) _
      have HSA := ghid (wr_alloc HS.out (Nat.le_trans hB hzr) (.cells #[.string xn, .int .i64 xh, .int .i64 xf, .slice lo xl.length lc] 55))
      have CW := ghid (HC.out B b _ (.agg #[.string xn, .int .i64 xh, .int .i64 xf, .slice lo xl.length lc]) ⟨xn, xh, xf, xl⟩ (wr.alloc (.cells #[.string xn, .int .i64 xh, .int .i64 xf, .slice lo xl.length lc] 55)) ⟨_, rfl, hl.below hba (Nat.le_trans hB hzr), hs⟩ hm (by simp; omega) HSA.out.has (by omega))
      clear hba hl hx hc h4 hb hm HC
      go_wp2_with fail
      refine CW.out.mono ?_
      rintro e w2 ⟨rfl, hs2⟩
      have HS2 := ghid (HSA.out.trans hs2)
      rw [HST.out] at HS2
      clear hs2 CW HST
      go_wp2
      go_roundw
      case rel => exact ⟨k + 1, by omega, by go_num, HS2.out⟩
      case measure => simp [intOf]; omega
    · have hkl : k = xs.length := by omega
      subst hkl
      rw [List.take_length] at HS
      clear h4 hb
      go_wp2
      go_end0
      exact ⟨rfl, HS.out⟩

set_option maxRecDepth 100000 in
set_option maxHeartbeats 1600000 in
theorem wlistPair (B b : Nat) (t : ByteArray) (v : Value) (xs : List PairD) (cl : Nat) (out : PairD → ByteArray) (w : World) (hv : PairsR w B v xs) (hB : B ≤ w.heap.size) (hw : WrT B b t w) (hlen : (xs.length : Int) ≤ 1099511627776) (hsz : t.size + (numOut xs.length ++ catB (xs.map out)).size ≤ 1000000000)
    (eg : ∀ args w, (callFunc cl args).run Try.prog w = .ok (.enter cl args) w) (hc : WrC cl out PairV (fun x => x ∈ xs)) :
    Calls Try.prog 42 #[.pointer (some ⟨b, 0, none⟩), v, .func (.func cl) #[.pointer (some ⟨b, 0, none⟩)] #[]] w fun e w' => e = .returned (.tuple #[]) ∧ WrS B b (t ++ (numOut xs.length ++ catB (xs.map out))) w w' := by
  have hlt := hw.lt
  have HC := ghid hc
  obtain ⟨ao, cap, rfl, h1, h2, h3, h4⟩ := hv
  rw [ByteArray.size_append] at hsz
  have CN := ghid (wrNumber_any B b t xs.length w hw (by omega) hlen (by omega))
  rw [← ByteArray.append_assoc]
  have hts : (t ++ numOut xs.length).size + (catB (xs.map out)).size ≤ 1000000000 := by rw [ByteArray.size_append]; omega
  obtain ⟨tn, htn⟩ : ∃ tn, tn = t ++ numOut xs.length := ⟨_, rfl⟩
  rw [← htn] at CN hts ⊢
  clear hc htn hsz hw
  go_enter Try.func42, Try.ntmps42
  go_wp2_with fail
  refine CN.out.mono ?_
  rintro e w1 ⟨rfl, hs1⟩
  have HS1 := ghid hs1
  clear hs1 CN
  go_wp2_with fail
  go_loopw [14] (fun i wr => ∃ k : Nat, k ≤ xs.length ∧ i = .int .i64 k ∧ WrS B b (tn ++ catB ((xs.take k).map out)) w wr) (fun i _ => xs.length - (intOf i).toNat)
  case atStart => exact ⟨0, Nat.zero_le _, rfl, by rw [List.take_zero, List.map_nil, catB_nil, bnil]; exact HS1.out⟩
  case round =>
    obtain ⟨k, hk, rfl, hs⟩ := hrel
    have HS := ghid hs
    have hb := hs.below
    have hzr := hb.size
    clear hs HS1
    by_cases hlt2 : k < xs.length
    · obtain ⟨g, off, rfl, hbB, hc⟩ := h4 (by omega)
      obtain ⟨x, hx⟩ : ∃ x, xs[k]? = some x := ⟨_, List.getElem?_eq_getElem hlt2⟩
      have hm := List.mem_of_getElem? hx
      have hfit := catB_fits out hx tn
      have HST := ghid (catB_step out hx tn)
      obtain ⟨c0, c1, c2, hs0, hs1⟩ := (hc k x hx).below hbB hb
      obtain ⟨xn, xv, xk⟩ := x
      simp only at c0 c1 c2 hs0 hs1
      have hba : Below wr.heap.size wr (wr.alloc (.cells #[.string xn, .string xv, .int .i64 xk] 57)) := (Below.refl _ _).alloc (Nat.le_refl _) _
      have HSA := ghid (wr_alloc HS.out (Nat.le_trans hB hzr) (.cells #[.string xn, .string xv, .int .i64 xk] 57))
      have CW := ghid (HC.out B b _ (.agg #[.string xn, .string xv, .int .i64 xk]) ⟨xn, xv, xk⟩ (wr.alloc (.cells #[.string xn, .string xv, .int .i64 xk] 57)) ⟨rfl, hs0, hs1⟩ hm (by simp; omega) HSA.out.has (by omega))
      clear hba hx hc h4 hb hm HC
      go_wp2_with fail
      refine CW.out.mono ?_
      rintro e w2 ⟨rfl, hs2⟩
      have HS2 := ghid (HSA.out.trans hs2)
      rw [HST.out] at HS2
      clear hs2 CW HST
      go_wp2
      go_roundw
      case rel => exact ⟨k + 1, by omega, by go_num, HS2.out⟩
      case measure => simp [intOf]; omega
    · have hkl : k = xs.length := by omega
      subst hkl
      rw [List.take_length] at HS
      clear h4 hb
      go_wp2
      go_end0
      exact ⟨rfl, HS.out⟩

set_option maxRecDepth 100000 in
set_option maxHeartbeats 1600000 in
theorem wlistSess (B b : Nat) (t : ByteArray) (v : Value) (xs : List SessD) (cl : Nat) (out : SessD → ByteArray) (w : World) (hv : SessR w B v xs) (hB : B ≤ w.heap.size) (hw : WrT B b t w) (hlen : (xs.length : Int) ≤ 1099511627776) (hsz : t.size + (numOut xs.length ++ catB (xs.map out)).size ≤ 1000000000)
    (eg : ∀ args w, (callFunc cl args).run Try.prog w = .ok (.enter cl args) w) (hc : WrC cl out SessV (fun x => x ∈ xs)) :
    Calls Try.prog 44 #[.pointer (some ⟨b, 0, none⟩), v, .func (.func cl) #[.pointer (some ⟨b, 0, none⟩)] #[]] w fun e w' => e = .returned (.tuple #[]) ∧ WrS B b (t ++ (numOut xs.length ++ catB (xs.map out))) w w' := by
  have hlt := hw.lt
  have HC := ghid hc
  obtain ⟨ao, cap, rfl, h1, h2, h3, h4⟩ := hv
  rw [ByteArray.size_append] at hsz
  have CN := ghid (wrNumber_any B b t xs.length w hw (by omega) hlen (by omega))
  rw [← ByteArray.append_assoc]
  have hts : (t ++ numOut xs.length).size + (catB (xs.map out)).size ≤ 1000000000 := by rw [ByteArray.size_append]; omega
  obtain ⟨tn, htn⟩ : ∃ tn, tn = t ++ numOut xs.length := ⟨_, rfl⟩
  rw [← htn] at CN hts ⊢
  clear hc htn hsz hw
  go_enter Try.func44, Try.ntmps44
  go_wp2_with fail
  refine CN.out.mono ?_
  rintro e w1 ⟨rfl, hs1⟩
  have HS1 := ghid hs1
  clear hs1 CN
  go_wp2_with fail
  go_loopw [14] (fun i wr => ∃ k : Nat, k ≤ xs.length ∧ i = .int .i64 k ∧ WrS B b (tn ++ catB ((xs.take k).map out)) w wr) (fun i _ => xs.length - (intOf i).toNat)
  case atStart => exact ⟨0, Nat.zero_le _, rfl, by rw [List.take_zero, List.map_nil, catB_nil, bnil]; exact HS1.out⟩
  case round =>
    obtain ⟨k, hk, rfl, hs⟩ := hrel
    have HS := ghid hs
    have hb := hs.below
    have hzr := hb.size
    clear hs HS1
    by_cases hlt2 : k < xs.length
    · obtain ⟨g, off, rfl, hbB, hc⟩ := h4 (by omega)
      obtain ⟨x, hx⟩ : ∃ x, xs[k]? = some x := ⟨_, List.getElem?_eq_getElem hlt2⟩
      have hm := List.mem_of_getElem? hx
      have hfit := catB_fits out hx tn
      have HST := ghid (catB_step out hx tn)
      obtain ⟨lv, c0, c1, c2, c3, c4, hl⟩ := (hc k x hx).below hbB hb (Nat.le_refl _)
      obtain ⟨lo, lc, rfl, -⟩ := id hl
      obtain ⟨xc, xi, xa, xz, xl⟩ := x
      simp only at c0 c1 c2 c3 c4 hl
      have hba : Below wr.heap.size wr (wr.alloc (.cells #[.int .i64 xc, .int .i64 xi, .int .i64 xa, .int .i64 xz, .slice lo xl.length lc] 60)) := (Below.refl _ _).alloc (Nat.le_refl _) _
      have HSA := ghid (wr_alloc HS.out (Nat.le_trans hB hzr) (.cells #[.int .i64 xc, .int .i64 xi, .int .i64 xa, .int .i64 xz, .slice lo xl.length lc] 60))
      have CW := ghid (HC.out B b _ (.agg #[.int .i64 xc, .int .i64 xi, .int .i64 xa, .int .i64 xz, .slice lo xl.length lc]) ⟨xc, xi, xa, xz, xl⟩ (wr.alloc (.cells #[.int .i64 xc, .int .i64 xi, .int .i64 xa, .int .i64 xz, .slice lo xl.length lc] 60)) ⟨_, rfl, hl.below hba (Nat.le_trans hB hzr)⟩ hm (by simp; omega) HSA.out.has (by omega))
      clear hba hl hx hc h4 hb hm HC
      go_wp2_with fail
      refine CW.out.mono ?_
      rintro e w2 ⟨rfl, hs2⟩
      have HS2 := ghid (HSA.out.trans hs2)
      rw [HST.out] at HS2
      clear hs2 CW HST
      go_wp2
      go_roundw
      case rel => exact ⟨k + 1, by omega, by go_num, HS2.out⟩
      case measure => simp [intOf]; omega
    · have hkl : k = xs.length := by omega
      subst hkl
      rw [List.take_length] at HS
      clear h4 hb
      go_wp2
      go_end0
      exact ⟨rfl, HS.out⟩

end Go.Proofs.Ytpcacaohknkdlag
