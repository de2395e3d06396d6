/- package snap's readList, at its five types: how many, and each one, in memory of its own; package snap's reader: its methods for the parts of a state; snap.unseal: all ahead of the seal; what is wrong first; snap.Decode: what it answers at every text; What snap.Encode and snap.Decode answer, as SnapsBack asks it (joined by program) -/
import Derived.OwnWalk
import Derived.Deep.RegionWith
import Derived.Deep.RegionHeld3
import Derived.Test.YtpcacaohknkdlahGreatDoorSB48
import Derived.Test.YtpcacaohknkdlahGreatDoorSB02
import Derived.Test.YtpcacaohknkdlahGreatDoorSB12
import Derived.Test.YtpcacaohknkdlahGreatDoorSB47
namespace Go.Proofs.YtpcacaohknkdlahGreatDoor

open Go.RowKit

/-- How many, and each one. -/
def listR {α : Type} (most : Int) (f : ByteArray × Int → α × ByteArray × Int) (r : ByteArray × Int) : List α × ByteArray × Int := rowR f (stepM most r).1.toNat (stepM most r).2

theorem stepN_bounds (r : ByteArray × Int) : 0 ≤ (stepN r).1 ∧ (stepN r).1 ≤ 1099511627776 ∧ ((stepN r).2.2 ≠ 0 → (stepN r).1 = 0) := by
  unfold stepN
  split
  · unfold readN
    split
    · rename_i h
      have := numR_ok _ h
      exact ⟨this.1, this.2.1, fun e => absurd rfl e⟩
    · exact ⟨by simp, by simp, fun _ => rfl⟩
  · exact ⟨by simp, by simp, fun _ => rfl⟩

theorem stepM_le {most : Int} {r : ByteArray × Int} (h : (stepN r).1 ≤ most) : stepM most r = stepN r := by
  have hb := stepN_bounds r
  unfold stepM
  split
  · rw [if_neg (by omega)]
  · rename_i e
    rw [← hb.2.2 e]

theorem stepM_gt {most : Int} {r : ByteArray × Int} (h0 : 0 ≤ most) (h : most < (stepN r).1) : stepM most r = (0, (stepN r).2.1, 1) := by
  have hb := stepN_bounds r
  unfold stepM
  rw [if_pos (by
    apply Classical.byContradiction
    intro e
    have := hb.2.2 e
    omega), if_pos h]

theorem rowR_shrinks {α : Type} {f : ByteArray × Int → α × ByteArray × Int} (h : Shrinks f) (n : Nat) : Shrinks (rowR f n) := by
  induction n with
  | zero => exact fun _ => Nat.le_refl _
  | succ n ih => exact fun r => Nat.le_trans (ih (f r).2) (h r)

theorem listR_shrinks {α : Type} {f : ByteArray × Int → α × ByteArray × Int} (h : Shrinks f) (most : Int) (h0 : 0 ≤ most) : Shrinks (listR most f) := by
  intro r
  refine Nat.le_trans (rowR_shrinks h _ _) ?_
  by_cases hm : (stepN r).1 ≤ most
  · rw [stepM_le hm]; exact stepN_shrinks r
  · rw [stepM_gt h0 (by omega)]; exact stepN_shrinks r

theorem rs_set {rb : Nat} {r : ByteArray × Int} {w : World} (h : IsRs rb r w) (e : Int) : IsRs rb (r.1, e) (w.setCell ⟨rb, 1, none⟩ (.int .i64 e)) := by
  have g2 := heap_setCell_same w rb 1 _ 66 (.int .i64 e) h
  unfold IsRs
  simpa using g2

theorem rset1 {α : Type} (A Z : List α) (z0 a0 : α) (n : Nat) (hA : A.length = n) : (A ++ z0 :: Z).set n a0 = A ++ a0 :: Z := by
  subst hA
  simp

theorem rof1 {α : Type} (Z : List α) (h : 1 ≤ Z.length) : ∃ z0 Z', Z = z0 :: Z' := by
  match Z, h with
  | z0 :: Z', _ => exact ⟨z0, Z', rfl⟩

theorem rput1 {w : World} {base : Nat} {e : TypeId} {g n cap k : Nat} {A Z : List Value} {z0 : Value} (h : w.ownsRow base e 1 (.slice (some ⟨g, 0, none⟩) n cap) n (A ++ z0 :: Z)) (hA : A.length = k) (a0 : Value) :
    (w.setCell ⟨g, k, none⟩ a0).ownsRow base e 1 (.slice (some ⟨g, 0, none⟩) n cap) n (A ++ a0 :: Z) := by
  have h0 := (h.stored (k) a0).1
  rwa [rset1 A Z z0 a0 (k) hA] at h0

theorem rtouch1 {w0 w : World} {S : Nat → Prop} (h : TouchG w0 w S) {g k : Nat} (hg : S g ∨ w0.heap.size ≤ g) (a0 : Value) : TouchG w0 (w.setCell ⟨g, k, none⟩ a0) S :=
  h.setCell (a := ⟨g, k, none⟩) hg a0

theorem rset3 {α : Type} (A Z : List α) (z0 z1 z2 a0 a1 a2 : α) (n : Nat) (hA : A.length = n) : (((A ++ z0 :: z1 :: z2 :: Z).set n a0).set (n + 1) a1).set (n + 2) a2 = A ++ a0 :: a1 :: a2 :: Z := by
  subst hA
  simp

theorem rof3 {α : Type} (Z : List α) (h : 3 ≤ Z.length) : ∃ z0 z1 z2 Z', Z = z0 :: z1 :: z2 :: Z' := by
  match Z, h with
  | z0 :: z1 :: z2 :: Z', _ => exact ⟨z0, z1, z2, Z', rfl⟩

theorem rput3 {w : World} {base : Nat} {e : TypeId} {g n cap k : Nat} {A Z : List Value} {z0 z1 z2 : Value} (h : w.ownsRow base e 3 (.slice (some ⟨g, 0, none⟩) n cap) n (A ++ z0 :: z1 :: z2 :: Z)) (hA : A.length = k * 3) (a0 a1 a2 : Value) :
    (((w.setCell ⟨g, k * 3, none⟩ a0).setCell ⟨g, k * 3 + 1, none⟩ a1).setCell ⟨g, k * 3 + 2, none⟩ a2).ownsRow base e 3 (.slice (some ⟨g, 0, none⟩) n cap) n (A ++ a0 :: a1 :: a2 :: Z) := by
  have h0 := (h.stored (k * 3) a0).1
  have h1 := (h0.stored (k * 3 + 1) a1).1
  have h2 := (h1.stored (k * 3 + 2) a2).1
  rwa [rset3 A Z z0 z1 z2 a0 a1 a2 (k * 3) hA] at h2

theorem rtouch3 {w0 w : World} {S : Nat → Prop} (h : TouchG w0 w S) {g k : Nat} (hg : S g ∨ w0.heap.size ≤ g) (a0 a1 a2 : Value) : TouchG w0 (((w.setCell ⟨g, k * 3, none⟩ a0).setCell ⟨g, k * 3 + 1, none⟩ a1).setCell ⟨g, k * 3 + 2, none⟩ a2) S :=
  ((h.setCell (a := ⟨g, k * 3, none⟩) hg a0).setCell (a := ⟨g, k * 3 + 1, none⟩) hg a1).setCell (a := ⟨g, k * 3 + 2, none⟩) hg a2

theorem rset4 {α : Type} (A Z : List α) (z0 z1 z2 z3 a0 a1 a2 a3 : α) (n : Nat) (hA : A.length = n) : ((((A ++ z0 :: z1 :: z2 :: z3 :: Z).set n a0).set (n + 1) a1).set (n + 2) a2).set (n + 3) a3 = A ++ a0 :: a1 :: a2 :: a3 :: Z := by
  subst hA
  simp

theorem rof4 {α : Type} (Z : List α) (h : 4 ≤ Z.length) : ∃ z0 z1 z2 z3 Z', Z = z0 :: z1 :: z2 :: z3 :: Z' := by
  match Z, h with
  | z0 :: z1 :: z2 :: z3 :: Z', _ => exact ⟨z0, z1, z2, z3, Z', rfl⟩

theorem rput4 {w : World} {base : Nat} {e : TypeId} {g n cap k : Nat} {A Z : List Value} {z0 z1 z2 z3 : Value} (h : w.ownsRow base e 4 (.slice (some ⟨g, 0, none⟩) n cap) n (A ++ z0 :: z1 :: z2 :: z3 :: Z)) (hA : A.length = k * 4) (a0 a1 a2 a3 : Value) :
    ((((w.setCell ⟨g, k * 4, none⟩ a0).setCell ⟨g, k * 4 + 1, none⟩ a1).setCell ⟨g, k * 4 + 2, none⟩ a2).setCell ⟨g, k * 4 + 3, none⟩ a3).ownsRow base e 4 (.slice (some ⟨g, 0, none⟩) n cap) n (A ++ a0 :: a1 :: a2 :: a3 :: Z) := by
  have h0 := (h.stored (k * 4) a0).1
  have h1 := (h0.stored (k * 4 + 1) a1).1
  have h2 := (h1.stored (k * 4 + 2) a2).1
  have h3 := (h2.stored (k * 4 + 3) a3).1
  rwa [rset4 A Z z0 z1 z2 z3 a0 a1 a2 a3 (k * 4) hA] at h3

theorem rtouch4 {w0 w : World} {S : Nat → Prop} (h : TouchG w0 w S) {g k : Nat} (hg : S g ∨ w0.heap.size ≤ g) (a0 a1 a2 a3 : Value) : TouchG w0 ((((w.setCell ⟨g, k * 4, none⟩ a0).setCell ⟨g, k * 4 + 1, none⟩ a1).setCell ⟨g, k * 4 + 2, none⟩ a2).setCell ⟨g, k * 4 + 3, none⟩ a3) S :=
  (((h.setCell (a := ⟨g, k * 4, none⟩) hg a0).setCell (a := ⟨g, k * 4 + 1, none⟩) hg a1).setCell (a := ⟨g, k * 4 + 2, none⟩) hg a2).setCell (a := ⟨g, k * 4 + 3, none⟩) hg a3

theorem rset5 {α : Type} (A Z : List α) (z0 z1 z2 z3 z4 a0 a1 a2 a3 a4 : α) (n : Nat) (hA : A.length = n) : (((((A ++ z0 :: z1 :: z2 :: z3 :: z4 :: Z).set n a0).set (n + 1) a1).set (n + 2) a2).set (n + 3) a3).set (n + 4) a4 = A ++ a0 :: a1 :: a2 :: a3 :: a4 :: Z := by
  subst hA
  simp

theorem rof5 {α : Type} (Z : List α) (h : 5 ≤ Z.length) : ∃ z0 z1 z2 z3 z4 Z', Z = z0 :: z1 :: z2 :: z3 :: z4 :: Z' := by
  match Z, h with
  | z0 :: z1 :: z2 :: z3 :: z4 :: Z', _ => exact ⟨z0, z1, z2, z3, z4, Z', rfl⟩

theorem rput5 {w : World} {base : Nat} {e : TypeId} {g n cap k : Nat} {A Z : List Value} {z0 z1 z2 z3 z4 : Value} (h : w.ownsRow base e 5 (.slice (some ⟨g, 0, none⟩) n cap) n (A ++ z0 :: z1 :: z2 :: z3 :: z4 :: Z)) (hA : A.length = k * 5) (a0 a1 a2 a3 a4 : Value) :
    (((((w.setCell ⟨g, k * 5, none⟩ a0).setCell ⟨g, k * 5 + 1, none⟩ a1).setCell ⟨g, k * 5 + 2, none⟩ a2).setCell ⟨g, k * 5 + 3, none⟩ a3).setCell ⟨g, k * 5 + 4, none⟩ a4).ownsRow base e 5 (.slice (some ⟨g, 0, none⟩) n cap) n (A ++ a0 :: a1 :: a2 :: a3 :: a4 :: Z) := by
  have h0 := (h.stored (k * 5) a0).1
  have h1 := (h0.stored (k * 5 + 1) a1).1
  have h2 := (h1.stored (k * 5 + 2) a2).1
  have h3 := (h2.stored (k * 5 + 3) a3).1
  have h4 := (h3.stored (k * 5 + 4) a4).1
  rwa [rset5 A Z z0 z1 z2 z3 z4 a0 a1 a2 a3 a4 (k * 5) hA] at h4

theorem rtouch5 {w0 w : World} {S : Nat → Prop} (h : TouchG w0 w S) {g k : Nat} (hg : S g ∨ w0.heap.size ≤ g) (a0 a1 a2 a3 a4 : Value) : TouchG w0 (((((w.setCell ⟨g, k * 5, none⟩ a0).setCell ⟨g, k * 5 + 1, none⟩ a1).setCell ⟨g, k * 5 + 2, none⟩ a2).setCell ⟨g, k * 5 + 3, none⟩ a3).setCell ⟨g, k * 5 + 4, none⟩ a4) S :=
  ((((h.setCell (a := ⟨g, k * 5, none⟩) hg a0).setCell (a := ⟨g, k * 5 + 1, none⟩) hg a1).setCell (a := ⟨g, k * 5 + 2, none⟩) hg a2).setCell (a := ⟨g, k * 5 + 3, none⟩) hg a3).setCell (a := ⟨g, k * 5 + 4, none⟩) hg a4

def riCells (p : Int × Value) : List Value := [.int .i64 p.1]

theorem riCells_len (p : Int × Value) : (riCells p).length = 1 := rfl

def riCellsW (_u : World) (_p : Int × Value) : Prop := True

theorem riCells_open {k : Nat} {w : World} {ev : Value} {x : Int} (h : NewR k w (fun u => IntV u u.heap.size ev x)) : ∃ lv : Value, ev = (.int .i64 x) ∧ NewR k w (fun u => riCellsW u (x, lv)) := by
  exact ⟨.nilIface, h.now, NewR.of _ _ fun _ => trivial⟩

theorem riCells_reads {u : World} {base g n : Nat} {rs : List (Int × Value)} (h : u.ownsRow base 3 1 (.slice (some ⟨g, 0, none⟩) n n) n (flatG riCells rs)) (hn : rs.length = n) (hsm : n ≤ 1000) (hW : ∀ p ∈ rs, riCellsW u p) : IntsR u u.heap.size (.slice (some ⟨g, 0, none⟩) n n) (rs.map (·.1)) := by
  subst hn
  have hl : (rs.map (·.1)).length = rs.length := List.length_map _
  refine ⟨some ⟨g, 0, none⟩, rs.length, by rw [hl], by omega, by omega, (by intro h; cases h), fun _ => ⟨g, 0, rfl, (h.lt g rfl).2, fun i x hx => ?_⟩⟩
  rw [List.getElem?_map] at hx
  obtain ⟨p, hp, rfl⟩ := Option.map_eq_some_iff.1 hx
  have hi : i < rs.length := (List.getElem?_eq_some_iff.1 hp).1
  have hw := hW p (List.mem_of_getElem? hp)
  have key : ∀ j, j < 1 → u.cell? ⟨g, 0 + i + j, none⟩ = (riCells p)[j]? := fun j hj => by
    rw [Nat.zero_add, h.cellAt (i + j) (by omega)]
    have := flatG_at riCells_len hp j hj
    simpa using this
  exact by simpa [riCells] using key 0 (by omega)

theorem Tryz.rinfoInt : (Tryz.prog.info? 3).map (fun i => (i.zero, i.size, i.bytes)) = some (some (.int .i64 0), 1, 8) := by kernel_rfl

set_option maxRecDepth 100000 in
set_option maxHeartbeats 1600000 in
theorem rlistInt (cl : Nat) (f : ByteArray × Int → Int × ByteArray × Int) (most : Int) (hm0 : 0 ≤ most) (hm1 : most ≤ 1000) (hc : RdC cl f IntV) (hsh : Shrinks f) (eg : ∀ args w, (callFunc cl args).run Tryz.prog w = .ok (.enter cl args) w)
    (rb : Nat) (r : ByteArray × Int) (w : World) (hs : r.1.size ≤ 140737488351232) (hr : IsRs rb r w) :
    Calls Tryz.prog 73 #[.pointer (some ⟨rb, 0, none⟩), .int .i64 most, .func (.func cl) #[.pointer (some ⟨rb, 0, none⟩)] #[]] w fun e w' => ∃ v, e = .returned v ∧ IsRs rb (listR most f r).2 w' ∧ NewR w.heap.size w' (fun u => IntsR u u.heap.size v (listR most f r).1) ∧ TouchG w w' (fun k => k = rb) := by
  have CN := ghid (rsNumber_any rb r w hs hr)
  have hbd := stepN_bounds r
  have hsq := stepN_shrinks r
  have hlr := hr.lt
  unfold listR
  by_cases hgt : most < (stepN r).1
  · rw [stepM_gt hm0 hgt]
    obtain ⟨mn, hmn⟩ : ∃ mn, mn = (stepN r).1 := ⟨_, rfl⟩
    obtain ⟨q, hq⟩ : ∃ q, q = (stepN r).2 := ⟨_, rfl⟩
    rw [← hmn] at CN hgt
    rw [← hq] at CN ⊢
    clear hbd hmn hq hc hr hsh
    go_enter Tryz.func73, Tryz.ntmps73
    go_wp2_with fail
    refine CN.out.mono ?_
    rintro e w1 ⟨v1, rfl, hr1, hn1, ht1⟩
    obtain rfl : v1 = .int .i64 mn := hn1.now
    have c1 : w1.cell? ⟨rb, 1, none⟩ = some (.int .i64 q.2) := cell_of_row w1 rb 1 _ _ _ hr1
    have f1 : w1.frozen? ⟨rb, 1, none⟩ = false := frozen_of_row w1 rb 1 _ _ hr1
    have HR1 := ghid hr1
    have HT1 := ghid ht1
    clear hr1 hn1 ht1 CN
    go_wp2
    go_ret
    exact ⟨_, rfl, rs_set HR1.out 1, NewR.of _ _ fun u => ⟨none, 0, rfl, Nat.le_refl _, by simp [rowR], fun _ => rfl, fun h => absurd h (by simp [rowR])⟩, HT1.out.setCell (a := ⟨rb, 1, none⟩) (.inl rfl) _⟩
  · rw [stepM_le (by omega)]
    obtain ⟨n, hn⟩ : ∃ n : Nat, (stepN r).1 = n := ⟨(stepN r).1.toNat, by omega⟩
    obtain ⟨q, hq⟩ : ∃ q, q = (stepN r).2 := ⟨_, rfl⟩
    have hqs : q.1.size ≤ 140737488351232 := by rw [hq]; omega
    rw [hn] at CN hgt ⊢
    rw [← hq] at CN ⊢
    rw [Int.toNat_natCast]
    have HC := ghid hc
    have HSH := ghid hsh
    obtain ⟨i0, hi, hz0, hz1, hz2⟩ := info_parts Tryz.rinfoInt
    clear hbd hn hq hc hr hsh hsq
    go_enter Tryz.func73, Tryz.ntmps73
    go_wp2_with fail
    refine CN.out.mono ?_
    rintro e w1 ⟨v1, rfl, hr1, hn1, ht1⟩
    obtain rfl : v1 = .int .i64 n := hn1.now
    have HR1 := ghid hr1
    have HT1 := ghid ht1
    have hz1w := ht1.size
    clear hr1 hn1 ht1 CN
    go_wp2_with (at_make; refine wpList_make_full _ rfl (.tmp 18) (.tmp 18) 77 rfl w1.heap.size 3 i0 _ 1 Tryz.underlying77 hi hz0 hz1 .i64 .i64 _ _ n rfl rfl rfl rfl (by rw [hz2]; omega) (by unfold maxLen; omega) (Nat.le_refl _) ?_)
    intro w2 hown2 hgrow2
    have hb2 : Below w1.heap.size w1 w2 := (Below.refl _ _).grown hgrow2 (Nat.le_refl _) (fun k hk => by cases hk)
    obtain ⟨Z, HO2, hZl⟩ : ∃ Z : List Value, Hid (w2.ownsRow w1.heap.size 3 1 (.slice (some ⟨w1.heap.size, 0, none⟩) n n) n Z) ∧ Z.length = n * 1 := ⟨_, hown2, by simp [size_madeCells]⟩
    have HR2 := ghid (HR1.out.below hb2)
    have HT2 := ghid (HT1.out.trans (TouchG.of_below hb2 (Nat.le_refl _) (fun k => k = rb)) (fun _ _ h => h))
    obtain ⟨g, hg⟩ : ∃ g, g = w1.heap.size := ⟨_, rfl⟩
    rw [← hg] at HO2 ⊢
    have hwg : w.heap.size ≤ g := by omega
    clear hown2 hgrow2 hi hz0 hz1 hz2 hb2 HR1 HT1 hg hz1w
    go_wp2_with fail
    go_loopw [22] (fun i wr => ∃ (k : Nat) (rs : List (Int × Value)) (Z : List Value), k ≤ n ∧ i = .int .i64 k ∧ rs.map (·.1) = (rowR f k q).1 ∧ IsRs rb (rowR f k q).2 wr ∧ Z.length = (n - k) * 1 ∧
        wr.ownsRow g 3 1 (.slice (some ⟨g, 0, none⟩) n n) n (flatG riCells rs ++ Z) ∧ (∀ p ∈ rs, NewR (g + 1) wr (fun u => riCellsW u p)) ∧ TouchG w wr (fun k => k = rb))
      (fun i _ => n - (intOf i).toNat)
    case atStart => exact ⟨0, [], Z, Nat.zero_le _, rfl, rfl, HR2.out, by simpa using hZl, by simpa [flatG] using HO2.out, fun p hp => absurd hp (by simp), HT2.out⟩
    case round =>
      clear HO2 HR2 HT2
      obtain ⟨k, rs, Z, hk, rfl, hrs, hrd, hZl, hown, hnew, htw⟩ := hrel
      have hrl : rs.length = k := by have := congrArg List.length hrs; rw [List.length_map, rowR_length] at this; exact this
      have hkl : (flatG riCells rs).length = k := by rw [flatG_length riCells_len, hrl]; omega
      have hgr : g < wr.heap.size := (hown.lt _ rfl).2
      have hrg : rb ≠ g := by omega
      by_cases hlt : k < n
      · obtain ⟨z0, Z', hZe⟩ := rof1 Z (by omega)
        subst hZe
        have CR := ghid (HC.out rb (rowR f k q).2 wr (Nat.le_trans (rowR_shrinks HSH.out k q) hqs) hrd)
        have HRS := ghid (rowR_snoc f k q)
        obtain ⟨x, hx⟩ : ∃ x, x = (f (rowR f k q).2).1 := ⟨_, rfl⟩
        obtain ⟨q', hq'⟩ : ∃ q', q' = (f (rowR f k q).2).2 := ⟨_, rfl⟩
        rw [← hx, ← hq'] at CR HRS
        have HO := ghid hown
        have HNW := ghid hnew
        have HTW := ghid htw
        have HKL := ghid hkl
        have HIR := ghid hrs
        clear hrs hown hnew htw hkl hrd hx hq' hqs
        go_wp2_with fail
        refine CR.out.mono ?_
        rintro e w3 ⟨ev, rfl, hr3, hn3, ht3⟩
        obtain ⟨lv, rfl, hw3⟩ := riCells_open hn3
        have ho3 : w3.ownsRow g 3 1 (.slice (some ⟨g, 0, none⟩) n n) n (flatG riCells rs ++ z0 :: Z') := grow_keep HO.out fun b hb => by
          have hbg : b = g := by simpa [Value.ownBlock] using hb.symm
          rw [hbg]
          exact ht3.block g hgr (fun e => hrg e.symm)
        have y : ∀ j z, (z0 :: Z')[j]? = some z → j < 1 → w3.cell? ⟨g, k + j, none⟩ = some z := fun j z hz hj => by
          rw [ho3.cellAt (k + j) (by omega), List.getElem?_append_right (by have := HKL.out; omega), HKL.out, show k + j - k = j by omega]
          exact hz
        have y0 := y 0 z0 rfl (by omega)
        rw [Nat.add_zero] at y0
        have yf : ∀ j, w3.frozen? ⟨g, j, none⟩ = false := fun j => ho3.frozenAt j
        have HO3 := ghid (rput1 ho3 HKL.out (.int .i64 x))
        have hz3 := ht3.size
        have HT3 := ghid (rtouch1 (k := k) (HTW.out.trans ht3 (fun _ _ h => h)) (.inr hwg) (.int .i64 x))
        have HT4 := ghid (rtouch1 (k := k) (TouchG.mk ht3.os ht3.tape ht3.output ht3.size (fun i hi hn => ht3.block i hi (fun e => hn (.inl e))) : TouchG wr w3 (fun i => i = rb ∨ i = g)) (.inl (.inr rfl)) (.int .i64 x))
        have HT5 := ghid (rtouch1 (k := k) (TouchG.refl w3 (fun i => i = g)) (.inl rfl) (.int .i64 x))
        have HR3 := ghid hr3
        have HW3 := ghid hw3
        clear ho3 y hr3 hn3 ht3 hw3 CR
        go_wp2
        go_roundw
        case rel =>
          refine ⟨k + 1, rs ++ [(x, lv)], Z', by omega, by go_num, ?_, ?_, by simp at hZl; omega, ?_, ?_, HT3.out⟩
          · rw [HRS.out, List.map_append, HIR.out]; rfl
          · rw [HRS.out]
            exact (HT5.out.block rb (by have := (Array.getElem?_eq_some_iff.1 HR3.out).1; exact this) hrg).trans HR3.out
          · have := HO3.out
            rw [flatG_snoc, List.append_assoc]
            exact this
          · intro p hp
            rcases List.mem_append.1 hp with hp | hp
            · exact (HNW.out p hp).touch HT4.out (fun i _ h => by rcases h with h | h <;> omega)
            · obtain rfl : p = (x, lv) := by simpa using hp
              exact ((HW3.out).touch HT5.out (fun i _ h => by omega)).mono (by omega)
        case measure => simp [intOf]; omega
      · have hke : k = n := by omega
        subst hke
        have hZ0 : Z = [] := List.eq_nil_of_length_eq_zero (by omega)
        subst hZ0
        rw [List.append_nil] at hown
        have HO := ghid hown
        have HNW := ghid hnew
        have HTW := ghid htw
        have HIR := ghid hrs
        have HRD := ghid hrd
        clear hrs hown hnew htw hkl hrd
        go_wp2
        go_ret
        refine ⟨_, rfl, HRD.out, fun u hu => ?_, HTW.out⟩
        rw [← HIR.out]
        refine riCells_reads (grow_keep HO.out fun b hb => ?_) hrl (by omega) (fun p hp => (HNW.out p hp).mono (by omega) u hu)
        have hbg : b = g := by simpa [Value.ownBlock] using hb.symm
        rw [hbg]
        exact hu.block g hgr (by omega)

def rkCells (p : KeptD × Value) : List Value := [.int .i64 p.1.seq, .int .i64 p.1.code, .int .i64 p.1.n, .string p.1.text]

theorem rkCells_len (p : KeptD × Value) : (rkCells p).length = 4 := rfl

def rkCellsW (_u : World) (p : KeptD × Value) : Prop := p.1.text.size ≤ 140737488351232

theorem rkCells_open {k : Nat} {w : World} {ev : Value} {x : KeptD} (h : NewR k w (fun u => KeptV u u.heap.size ev x)) : ∃ lv : Value, ev = (.agg #[.int .i64 x.seq, .int .i64 x.code, .int .i64 x.n, .string x.text]) ∧ NewR k w (fun u => rkCellsW u (x, lv)) := by
  exact ⟨.nilIface, h.now.1, NewR.of _ _ fun _ => h.now.2⟩

theorem rkCells_reads {u : World} {base g n : Nat} {rs : List (KeptD × Value)} (h : u.ownsRow base 132 4 (.slice (some ⟨g, 0, none⟩) n n) n (flatG rkCells rs)) (hn : rs.length = n) (hsm : n ≤ 1000) (hW : ∀ p ∈ rs, rkCellsW u p) : KeptsR u u.heap.size (.slice (some ⟨g, 0, none⟩) n n) (rs.map (·.1)) := by
  subst hn
  have hl : (rs.map (·.1)).length = rs.length := List.length_map _
  refine ⟨some ⟨g, 0, none⟩, rs.length, by rw [hl], by omega, by omega, (by intro h; cases h), fun _ => ⟨g, 0, rfl, (h.lt g rfl).2, fun i x hx => ?_⟩⟩
  rw [List.getElem?_map] at hx
  obtain ⟨p, hp, rfl⟩ := Option.map_eq_some_iff.1 hx
  have hi : i < rs.length := (List.getElem?_eq_some_iff.1 hp).1
  have hw := hW p (List.mem_of_getElem? hp)
  have key : ∀ j, j < 4 → u.cell? ⟨g, 0 + i * 4 + j, none⟩ = (rkCells p)[j]? := fun j hj => by
    rw [Nat.zero_add, h.cellAt (i * 4 + j) (by omega)]
    have := flatG_at rkCells_len hp j hj
    simpa using this
  exact ⟨by simpa [rkCells] using key 0 (by omega), by simpa [rkCells] using key 1 (by omega), by simpa [rkCells] using key 2 (by omega), by simpa [rkCells] using key 3 (by omega), hw⟩

theorem Tryz.rinfoKept : (Tryz.prog.info? 132).map (fun i => (i.zero, i.size, i.bytes)) = some (some (.agg #[.int .i64 0, .int .i64 0, .int .i64 0, .string ⟨#[]⟩]), 4, 40) := by kernel_rfl

set_option maxRecDepth 100000 in
set_option maxHeartbeats 1600000 in
theorem rlistKept (cl : Nat) (f : ByteArray × Int → KeptD × ByteArray × Int) (most : Int) (hm0 : 0 ≤ most) (hm1 : most ≤ 1000) (hc : RdC cl f KeptV) (hsh : Shrinks f) (eg : ∀ args w, (callFunc cl args).run Tryz.prog w = .ok (.enter cl args) w)
    (rb : Nat) (r : ByteArray × Int) (w : World) (hs : r.1.size ≤ 140737488351232) (hr : IsRs rb r w) :
    Calls Tryz.prog 74 #[.pointer (some ⟨rb, 0, none⟩), .int .i64 most, .func (.func cl) #[.pointer (some ⟨rb, 0, none⟩)] #[]] w fun e w' => ∃ v, e = .returned v ∧ IsRs rb (listR most f r).2 w' ∧ NewR w.heap.size w' (fun u => KeptsR u u.heap.size v (listR most f r).1) ∧ TouchG w w' (fun k => k = rb) := by
  have CN := ghid (rsNumber_any rb r w hs hr)
  have hbd := stepN_bounds r
  have hsq := stepN_shrinks r
  have hlr := hr.lt
  unfold listR
  by_cases hgt : most < (stepN r).1
  · rw [stepM_gt hm0 hgt]
    obtain ⟨mn, hmn⟩ : ∃ mn, mn = (stepN r).1 := ⟨_, rfl⟩
    obtain ⟨q, hq⟩ : ∃ q, q = (stepN r).2 := ⟨_, rfl⟩
    rw [← hmn] at CN hgt
    rw [← hq] at CN ⊢
    clear hbd hmn hq hc hr hsh
    go_enter Tryz.func74, Tryz.ntmps74
    go_wp2_with fail
    refine CN.out.mono ?_
    rintro e w1 ⟨v1, rfl, hr1, hn1, ht1⟩
    obtain rfl : v1 = .int .i64 mn := hn1.now
    have c1 : w1.cell? ⟨rb, 1, none⟩ = some (.int .i64 q.2) := cell_of_row w1 rb 1 _ _ _ hr1
    have f1 : w1.frozen? ⟨rb, 1, none⟩ = false := frozen_of_row w1 rb 1 _ _ hr1
    have HR1 := ghid hr1
    have HT1 := ghid ht1
    clear hr1 hn1 ht1 CN
    go_wp2
    go_ret
    exact ⟨_, rfl, rs_set HR1.out 1, NewR.of _ _ fun u => ⟨none, 0, rfl, Nat.le_refl _, by simp [rowR], fun _ => rfl, fun h => absurd h (by simp [rowR])⟩, HT1.out.setCell (a := ⟨rb, 1, none⟩) (.inl rfl) _⟩
  · rw [stepM_le (by omega)]
    obtain ⟨n, hn⟩ : ∃ n : Nat, (stepN r).1 = n := ⟨(stepN r).1.toNat, by omega⟩
    obtain ⟨q, hq⟩ : ∃ q, q = (stepN r).2 := ⟨_, rfl⟩
    have hqs : q.1.size ≤ 140737488351232 := by rw [hq]; omega
    rw [hn] at CN hgt ⊢
    rw [← hq] at CN ⊢
    rw [Int.toNat_natCast]
    have HC := ghid hc
    have HSH := ghid hsh
    obtain ⟨i0, hi, hz0, hz1, hz2⟩ := info_parts Tryz.rinfoKept
    clear hbd hn hq hc hr hsh hsq
    go_enter Tryz.func74, Tryz.ntmps74
    go_wp2_with fail
    refine CN.out.mono ?_
    rintro e w1 ⟨v1, rfl, hr1, hn1, ht1⟩
    obtain rfl : v1 = .int .i64 n := hn1.now
    have HR1 := ghid hr1
    have HT1 := ghid ht1
    have hz1w := ht1.size
    clear hr1 hn1 ht1 CN
    go_wp2_with (at_make; refine wpList_make_full _ rfl (.tmp 18) (.tmp 18) 93 rfl w1.heap.size 132 i0 _ 4 Tryz.underlying93 hi hz0 hz1 .i64 .i64 _ _ n rfl rfl rfl rfl (by rw [hz2]; omega) (by unfold maxLen; omega) (Nat.le_refl _) ?_)
    intro w2 hown2 hgrow2
    have hb2 : Below w1.heap.size w1 w2 := (Below.refl _ _).grown hgrow2 (Nat.le_refl _) (fun k hk => by cases hk)
    obtain ⟨Z, HO2, hZl⟩ : ∃ Z : List Value, Hid (w2.ownsRow w1.heap.size 132 4 (.slice (some ⟨w1.heap.size, 0, none⟩) n n) n Z) ∧ Z.length = n * 4 := ⟨_, hown2, by simp [size_madeCells]⟩
    have HR2 := ghid (HR1.out.below hb2)
    have HT2 := ghid (HT1.out.trans (TouchG.of_below hb2 (Nat.le_refl _) (fun k => k = rb)) (fun _ _ h => h))
    obtain ⟨g, hg⟩ : ∃ g, g = w1.heap.size := ⟨_, rfl⟩
    rw [← hg] at HO2 ⊢
    have hwg : w.heap.size ≤ g := by omega
    clear hown2 hgrow2 hi hz0 hz1 hz2 hb2 HR1 HT1 hg hz1w
    go_wp2_with fail
    go_loopw [22] (fun i wr => ∃ (k : Nat) (rs : List (KeptD × Value)) (Z : List Value), k ≤ n ∧ i = .int .i64 k ∧ rs.map (·.1) = (rowR f k q).1 ∧ IsRs rb (rowR f k q).2 wr ∧ Z.length = (n - k) * 4 ∧
        wr.ownsRow g 132 4 (.slice (some ⟨g, 0, none⟩) n n) n (flatG rkCells rs ++ Z) ∧ (∀ p ∈ rs, NewR (g + 1) wr (fun u => rkCellsW u p)) ∧ TouchG w wr (fun k => k = rb))
      (fun i _ => n - (intOf i).toNat)
    case atStart => exact ⟨0, [], Z, Nat.zero_le _, rfl, rfl, HR2.out, by simpa using hZl, by simpa [flatG] using HO2.out, fun p hp => absurd hp (by simp), HT2.out⟩
    case round =>
      clear HO2 HR2 HT2
      obtain ⟨k, rs, Z, hk, rfl, hrs, hrd, hZl, hown, hnew, htw⟩ := hrel
      have hrl : rs.length = k := by have := congrArg List.length hrs; rw [List.length_map, rowR_length] at this; exact this
      have hkl : (flatG rkCells rs).length = k * 4 := by rw [flatG_length rkCells_len, hrl]
      have hgr : g < wr.heap.size := (hown.lt _ rfl).2
      have hrg : rb ≠ g := by omega
      by_cases hlt : k < n
      · obtain ⟨z0, z1, z2, z3, Z', hZe⟩ := rof4 Z (by omega)
        subst hZe
        have CR := ghid (HC.out rb (rowR f k q).2 wr (Nat.le_trans (rowR_shrinks HSH.out k q) hqs) hrd)
        have HRS := ghid (rowR_snoc f k q)
        obtain ⟨x, hx⟩ : ∃ x, x = (f (rowR f k q).2).1 := ⟨_, rfl⟩
        obtain ⟨q', hq'⟩ : ∃ q', q' = (f (rowR f k q).2).2 := ⟨_, rfl⟩
        rw [← hx, ← hq'] at CR HRS
        have HO := ghid hown
        have HNW := ghid hnew
        have HTW := ghid htw
        have HKL := ghid hkl
        have HIR := ghid hrs
        clear hrs hown hnew htw hkl hrd hx hq' hqs
        go_wp2_with fail
        refine CR.out.mono ?_
        rintro e w3 ⟨ev, rfl, hr3, hn3, ht3⟩
        obtain ⟨lv, rfl, hw3⟩ := rkCells_open hn3
        have ho3 : w3.ownsRow g 132 4 (.slice (some ⟨g, 0, none⟩) n n) n (flatG rkCells rs ++ z0 :: z1 :: z2 :: z3 :: Z') := grow_keep HO.out fun b hb => by
          have hbg : b = g := by simpa [Value.ownBlock] using hb.symm
          rw [hbg]
          exact ht3.block g hgr (fun e => hrg e.symm)
        have y : ∀ j z, (z0 :: z1 :: z2 :: z3 :: Z')[j]? = some z → j < 4 → w3.cell? ⟨g, k * 4 + j, none⟩ = some z := fun j z hz hj => by
          rw [ho3.cellAt (k * 4 + j) (by omega), List.getElem?_append_right (by have := HKL.out; omega), HKL.out, show k * 4 + j - k * 4 = j by omega]
          exact hz
        have y0 := y 0 z0 rfl (by omega)
        have y1 := y 1 z1 rfl (by omega)
        have y2 := y 2 z2 rfl (by omega)
        have y3 := y 3 z3 rfl (by omega)
        rw [Nat.add_zero] at y0
        have yf : ∀ j, w3.frozen? ⟨g, j, none⟩ = false := fun j => ho3.frozenAt j
        have HO3 := ghid (rput4 ho3 HKL.out (.int .i64 x.seq) (.int .i64 x.code) (.int .i64 x.n) (.string x.text))
        have hz3 := ht3.size
        have HT3 := ghid (rtouch4 (k := k) (HTW.out.trans ht3 (fun _ _ h => h)) (.inr hwg) (.int .i64 x.seq) (.int .i64 x.code) (.int .i64 x.n) (.string x.text))
        have HT4 := ghid (rtouch4 (k := k) (TouchG.mk ht3.os ht3.tape ht3.output ht3.size (fun i hi hn => ht3.block i hi (fun e => hn (.inl e))) : TouchG wr w3 (fun i => i = rb ∨ i = g)) (.inl (.inr rfl)) (.int .i64 x.seq) (.int .i64 x.code) (.int .i64 x.n) (.string x.text))
        have HT5 := ghid (rtouch4 (k := k) (TouchG.refl w3 (fun i => i = g)) (.inl rfl) (.int .i64 x.seq) (.int .i64 x.code) (.int .i64 x.n) (.string x.text))
        have HR3 := ghid hr3
        have HW3 := ghid hw3
        clear ho3 y hr3 hn3 ht3 hw3 CR
        go_wp2
        go_roundw
        case rel =>
          refine ⟨k + 1, rs ++ [(x, lv)], Z', by omega, by go_num, ?_, ?_, by simp at hZl; omega, ?_, ?_, HT3.out⟩
          · rw [HRS.out, List.map_append, HIR.out]; rfl
          · rw [HRS.out]
            exact (HT5.out.block rb (by have := (Array.getElem?_eq_some_iff.1 HR3.out).1; exact this) hrg).trans HR3.out
          · have := HO3.out
            rw [flatG_snoc, List.append_assoc]
            exact this
          · intro p hp
            rcases List.mem_append.1 hp with hp | hp
            · exact (HNW.out p hp).touch HT4.out (fun i _ h => by rcases h with h | h <;> omega)
            · obtain rfl : p = (x, lv) := by simpa using hp
              exact ((HW3.out).touch HT5.out (fun i _ h => by omega)).mono (by omega)
        case measure => simp [intOf]; omega
      · have hke : k = n := by omega
        subst hke
        have hZ0 : Z = [] := List.eq_nil_of_length_eq_zero (by omega)
        subst hZ0
        rw [List.append_nil] at hown
        have HO := ghid hown
        have HNW := ghid hnew
        have HTW := ghid htw
        have HIR := ghid hrs
        have HRD := ghid hrd
        clear hrs hown hnew htw hkl hrd
        go_wp2
        go_ret
        refine ⟨_, rfl, HRD.out, fun u hu => ?_, HTW.out⟩
        rw [← HIR.out]
        refine rkCells_reads (grow_keep HO.out fun b hb => ?_) hrl (by omega) (fun p hp => (HNW.out p hp).mono (by omega) u hu)
        have hbg : b = g := by simpa [Value.ownBlock] using hb.symm
        rw [hbg]
        exact hu.block g hgr (by omega)

def rlCells (p : LockD × Value) : List Value := [.string p.1.name, .int .i64 p.1.holder, .int .i64 p.1.fence, p.2]

theorem rlCells_len (p : LockD × Value) : (rlCells p).length = 4 := rfl

def rlCellsW (u : World) (p : LockD × Value) : Prop := IntsR u u.heap.size p.2 p.1.line ∧ p.1.name.size ≤ 140737488351232

theorem rlCells_open {k : Nat} {w : World} {ev : Value} {x : LockD} (h : NewR k w (fun u => LockV u u.heap.size ev x)) : ∃ lv : Value, ev = (.agg #[.string x.name, .int .i64 x.holder, .int .i64 x.fence, lv]) ∧ NewR k w (fun u => rlCellsW u (x, lv)) := by
  obtain ⟨lv, hev, -, hs⟩ := h.now
  refine ⟨lv, hev, fun u hu => ?_⟩
  obtain ⟨lv', hev', hl', hs'⟩ := h u hu
  rw [hev] at hev'
  simp at hev'
  subst hev'
  exact ⟨hl', hs'⟩

theorem rlCells_reads {u : World} {base g n : Nat} {rs : List (LockD × Value)} (h : u.ownsRow base 86 4 (.slice (some ⟨g, 0, none⟩) n n) n (flatG rlCells rs)) (hn : rs.length = n) (hsm : n ≤ 1000) (hW : ∀ p ∈ rs, rlCellsW u p) : LocksR u u.heap.size (.slice (some ⟨g, 0, none⟩) n n) (rs.map (·.1)) := by
  subst hn
  have hl : (rs.map (·.1)).length = rs.length := List.length_map _
  refine ⟨some ⟨g, 0, none⟩, rs.length, by rw [hl], by omega, by omega, (by intro h; cases h), fun _ => ⟨g, 0, rfl, (h.lt g rfl).2, fun i x hx => ?_⟩⟩
  rw [List.getElem?_map] at hx
  obtain ⟨p, hp, rfl⟩ := Option.map_eq_some_iff.1 hx
  have hi : i < rs.length := (List.getElem?_eq_some_iff.1 hp).1
  have hw := hW p (List.mem_of_getElem? hp)
  have key : ∀ j, j < 4 → u.cell? ⟨g, 0 + i * 4 + j, none⟩ = (rlCells p)[j]? := fun j hj => by
    rw [Nat.zero_add, h.cellAt (i * 4 + j) (by omega)]
    have := flatG_at rlCells_len hp j hj
    simpa using this
  exact ⟨p.2, by simpa [rlCells] using key 0 (by omega), by simpa [rlCells] using key 1 (by omega), by simpa [rlCells] using key 2 (by omega), by simpa [rlCells] using key 3 (by omega), hw.1, hw.2⟩

theorem Tryz.rinfoLock : (Tryz.prog.info? 86).map (fun i => (i.zero, i.size, i.bytes)) = some (some (.agg #[.string ⟨#[]⟩, .int .i64 0, .int .i64 0, .slice none 0 0]), 4, 56) := by kernel_rfl

set_option maxRecDepth 100000 in
set_option maxHeartbeats 1600000 in
theorem rlistLock (cl : Nat) (f : ByteArray × Int → LockD × ByteArray × Int) (most : Int) (hm0 : 0 ≤ most) (hm1 : most ≤ 1000) (hc : RdC cl f LockV) (hsh : Shrinks f) (eg : ∀ args w, (callFunc cl args).run Tryz.prog w = .ok (.enter cl args) w)
    (rb : Nat) (r : ByteArray × Int) (w : World) (hs : r.1.size ≤ 140737488351232) (hr : IsRs rb r w) :
    Calls Tryz.prog 39 #[.pointer (some ⟨rb, 0, none⟩), .int .i64 most, .func (.func cl) #[.pointer (some ⟨rb, 0, none⟩)] #[]] w fun e w' => ∃ v, e = .returned v ∧ IsRs rb (listR most f r).2 w' ∧ NewR w.heap.size w' (fun u => LocksR u u.heap.size v (listR most f r).1) ∧ TouchG w w' (fun k => k = rb) := by
  have CN := ghid (rsNumber_any rb r w hs hr)
  have hbd := stepN_bounds r
  have hsq := stepN_shrinks r
  have hlr := hr.lt
  unfold listR
  by_cases hgt : most < (stepN r).1
  · rw [stepM_gt hm0 hgt]
    obtain ⟨mn, hmn⟩ : ∃ mn, mn = (stepN r).1 := ⟨_, rfl⟩
    obtain ⟨q, hq⟩ : ∃ q, q = (stepN r).2 := ⟨_, rfl⟩
    rw [← hmn] at CN hgt
    rw [← hq] at CN ⊢
    clear hbd hmn hq hc hr hsh
    go_enter Tryz.func39, Tryz.ntmps39
    go_wp2_with fail
    refine CN.out.mono ?_
    rintro e w1 ⟨v1, rfl, hr1, hn1, ht1⟩
    obtain rfl : v1 = .int .i64 mn := hn1.now
    have c1 : w1.cell? ⟨rb, 1, none⟩ = some (.int .i64 q.2) := cell_of_row w1 rb 1 _ _ _ hr1
    have f1 : w1.frozen? ⟨rb, 1, none⟩ = false := frozen_of_row w1 rb 1 _ _ hr1
    have HR1 := ghid hr1
    have HT1 := ghid ht1
    clear hr1 hn1 ht1 CN
    go_wp2
    go_ret
    exact ⟨_, rfl, rs_set HR1.out 1, NewR.of _ _ fun u => ⟨none, 0, rfl, Nat.le_refl _, by simp [rowR], fun _ => rfl, fun h => absurd h (by simp [rowR])⟩, HT1.out.setCell (a := ⟨rb, 1, none⟩) (.inl rfl) _⟩
  · rw [stepM_le (by omega)]
    obtain ⟨n, hn⟩ : ∃ n : Nat, (stepN r).1 = n := ⟨(stepN r).1.toNat, by omega⟩
    obtain ⟨q, hq⟩ : ∃ q, q = (stepN r).2 := ⟨_, rfl⟩
    have hqs : q.1.size ≤ 140737488351232 := by rw [hq]; omega
    rw [hn] at CN hgt ⊢
    rw [← hq] at CN ⊢
    rw [Int.toNat_natCast]
    have HC := ghid hc
    have HSH := ghid hsh
    obtain ⟨i0, hi, hz0, hz1, hz2⟩ := info_parts Tryz.rinfoLock
    clear hbd hn hq hc hr hsh hsq
    go_enter Tryz.func39, Tryz.ntmps39
    go_wp2_with fail
    refine CN.out.mono ?_
    rintro e w1 ⟨v1, rfl, hr1, hn1, ht1⟩
    obtain rfl : v1 = .int .i64 n := hn1.now
    have HR1 := ghid hr1
    have HT1 := ghid ht1
    have hz1w := ht1.size
    clear hr1 hn1 ht1 CN
    go_wp2_with (at_make; refine wpList_make_full _ rfl (.tmp 18) (.tmp 18) 23 rfl w1.heap.size 86 i0 _ 4 Tryz.underlying23 hi hz0 hz1 .i64 .i64 _ _ n rfl rfl rfl rfl (by rw [hz2]; omega) (by unfold maxLen; omega) (Nat.le_refl _) ?_)
    intro w2 hown2 hgrow2
    have hb2 : Below w1.heap.size w1 w2 := (Below.refl _ _).grown hgrow2 (Nat.le_refl _) (fun k hk => by cases hk)
    obtain ⟨Z, HO2, hZl⟩ : ∃ Z : List Value, Hid (w2.ownsRow w1.heap.size 86 4 (.slice (some ⟨w1.heap.size, 0, none⟩) n n) n Z) ∧ Z.length = n * 4 := ⟨_, hown2, by simp [size_madeCells]⟩
    have HR2 := ghid (HR1.out.below hb2)
    have HT2 := ghid (HT1.out.trans (TouchG.of_below hb2 (Nat.le_refl _) (fun k => k = rb)) (fun _ _ h => h))
    obtain ⟨g, hg⟩ : ∃ g, g = w1.heap.size := ⟨_, rfl⟩
    rw [← hg] at HO2 ⊢
    have hwg : w.heap.size ≤ g := by omega
    clear hown2 hgrow2 hi hz0 hz1 hz2 hb2 HR1 HT1 hg hz1w
    go_wp2_with fail
    go_loopw [22] (fun i wr => ∃ (k : Nat) (rs : List (LockD × Value)) (Z : List Value), k ≤ n ∧ i = .int .i64 k ∧ rs.map (·.1) = (rowR f k q).1 ∧ IsRs rb (rowR f k q).2 wr ∧ Z.length = (n - k) * 4 ∧
        wr.ownsRow g 86 4 (.slice (some ⟨g, 0, none⟩) n n) n (flatG rlCells rs ++ Z) ∧ (∀ p ∈ rs, NewR (g + 1) wr (fun u => rlCellsW u p)) ∧ TouchG w wr (fun k => k = rb))
      (fun i _ => n - (intOf i).toNat)
    case atStart => exact ⟨0, [], Z, Nat.zero_le _, rfl, rfl, HR2.out, by simpa using hZl, by simpa [flatG] using HO2.out, fun p hp => absurd hp (by simp), HT2.out⟩
    case round =>
      clear HO2 HR2 HT2
      obtain ⟨k, rs, Z, hk, rfl, hrs, hrd, hZl, hown, hnew, htw⟩ := hrel
      have hrl : rs.length = k := by have := congrArg List.length hrs; rw [List.length_map, rowR_length] at this; exact this
      have hkl : (flatG rlCells rs).length = k * 4 := by rw [flatG_length rlCells_len, hrl]
      have hgr : g < wr.heap.size := (hown.lt _ rfl).2
      have hrg : rb ≠ g := by omega
      by_cases hlt : k < n
      · obtain ⟨z0, z1, z2, z3, Z', hZe⟩ := rof4 Z (by omega)
        subst hZe
        have CR := ghid (HC.out rb (rowR f k q).2 wr (Nat.le_trans (rowR_shrinks HSH.out k q) hqs) hrd)
        have HRS := ghid (rowR_snoc f k q)
        obtain ⟨x, hx⟩ : ∃ x, x = (f (rowR f k q).2).1 := ⟨_, rfl⟩
        obtain ⟨q', hq'⟩ : ∃ q', q' = (f (rowR f k q).2).2 := ⟨_, rfl⟩
        rw [← hx, ← hq'] at CR HRS
        have HO := ghid hown
        have HNW := ghid hnew
        have HTW := ghid htw
        have HKL := ghid hkl
        have HIR := ghid hrs
        clear hrs hown hnew htw hkl hrd hx hq' hqs
        go_wp2_with fail
        refine CR.out.mono ?_
        rintro e w3 ⟨ev, rfl, hr3, hn3, ht3⟩
        obtain ⟨lv, rfl, hw3⟩ := rlCells_open hn3
        obtain ⟨lo, lc, hlv, -⟩ := id hw3.now.1
        simp only at hlv
        subst hlv
        have ho3 : w3.ownsRow g 86 4 (.slice (some ⟨g, 0, none⟩) n n) n (flatG rlCells rs ++ z0 :: z1 :: z2 :: z3 :: Z') := grow_keep HO.out fun b hb => by
          have hbg : b = g := by simpa [Value.ownBlock] using hb.symm
          rw [hbg]
          exact ht3.block g hgr (fun e => hrg e.symm)
        have y : ∀ j z, (z0 :: z1 :: z2 :: z3 :: Z')[j]? = some z → j < 4 → w3.cell? ⟨g, k * 4 + j, none⟩ = some z := fun j z hz hj => by
          rw [ho3.cellAt (k * 4 + j) (by omega), List.getElem?_append_right (by have := HKL.out; omega), HKL.out, show k * 4 + j - k * 4 = j by omega]
          exact hz
        have y0 := y 0 z0 rfl (by omega)
        have y1 := y 1 z1 rfl (by omega)
        have y2 := y 2 z2 rfl (by omega)
        have y3 := y 3 z3 rfl (by omega)
        rw [Nat.add_zero] at y0
        have yf : ∀ j, w3.frozen? ⟨g, j, none⟩ = false := fun j => ho3.frozenAt j
        have HO3 := ghid (rput4 ho3 HKL.out (.string x.name) (.int .i64 x.holder) (.int .i64 x.fence) (.slice lo x.line.length lc))
        have hz3 := ht3.size
        have HT3 := ghid (rtouch4 (k := k) (HTW.out.trans ht3 (fun _ _ h => h)) (.inr hwg) (.string x.name) (.int .i64 x.holder) (.int .i64 x.fence) (.slice lo x.line.length lc))
        have HT4 := ghid (rtouch4 (k := k) (TouchG.mk ht3.os ht3.tape ht3.output ht3.size (fun i hi hn => ht3.block i hi (fun e => hn (.inl e))) : TouchG wr w3 (fun i => i = rb ∨ i = g)) (.inl (.inr rfl)) (.string x.name) (.int .i64 x.holder) (.int .i64 x.fence) (.slice lo x.line.length lc))
        have HT5 := ghid (rtouch4 (k := k) (TouchG.refl w3 (fun i => i = g)) (.inl rfl) (.string x.name) (.int .i64 x.holder) (.int .i64 x.fence) (.slice lo x.line.length lc))
        have HR3 := ghid hr3
        have HW3 := ghid hw3
        clear ho3 y hr3 hn3 ht3 hw3 CR
        go_wp2
        go_roundw
        case rel =>
          refine ⟨k + 1, rs ++ [(x, .slice lo x.line.length lc)], Z', by omega, by go_num, ?_, ?_, by simp at hZl; omega, ?_, ?_, HT3.out⟩
          · rw [HRS.out, List.map_append, HIR.out]; rfl
          · rw [HRS.out]
            exact (HT5.out.block rb (by have := (Array.getElem?_eq_some_iff.1 HR3.out).1; exact this) hrg).trans HR3.out
          · have := HO3.out
            rw [flatG_snoc, List.append_assoc]
            exact this
          · intro p hp
            rcases List.mem_append.1 hp with hp | hp
            · exact (HNW.out p hp).touch HT4.out (fun i _ h => by rcases h with h | h <;> omega)
            · obtain rfl : p = (x, .slice lo x.line.length lc) := by simpa using hp
              exact ((HW3.out).touch HT5.out (fun i _ h => by omega)).mono (by omega)
        case measure => simp [intOf]; omega
      · have hke : k = n := by omega
        subst hke
        have hZ0 : Z = [] := List.eq_nil_of_length_eq_zero (by omega)
        subst hZ0
        rw [List.append_nil] at hown
        have HO := ghid hown
        have HNW := ghid hnew
        have HTW := ghid htw
        have HIR := ghid hrs
        have HRD := ghid hrd
        clear hrs hown hnew htw hkl hrd
        go_wp2
        go_ret
        refine ⟨_, rfl, HRD.out, fun u hu => ?_, HTW.out⟩
        rw [← HIR.out]
        refine rlCells_reads (grow_keep HO.out fun b hb => ?_) hrl (by omega) (fun p hp => (HNW.out p hp).mono (by omega) u hu)
        have hbg : b = g := by simpa [Value.ownBlock] using hb.symm
        rw [hbg]
        exact hu.block g hgr (by omega)

def rpCells (p : PairD × Value) : List Value := [.string p.1.name, .string p.1.value, .int .i64 p.1.version]

theorem rpCells_len (p : PairD × Value) : (rpCells p).length = 3 := rfl

def rpCellsW (_u : World) (p : PairD × Value) : Prop := p.1.name.size ≤ 140737488351232 ∧ p.1.value.size ≤ 140737488351232

theorem rpCells_open {k : Nat} {w : World} {ev : Value} {x : PairD} (h : NewR k w (fun u => PairV u u.heap.size ev x)) : ∃ lv : Value, ev = (.agg #[.string x.name, .string x.value, .int .i64 x.version]) ∧ NewR k w (fun u => rpCellsW u (x, lv)) := by
  exact ⟨.nilIface, h.now.1, NewR.of _ _ fun _ => h.now.2⟩

theorem rpCells_reads {u : World} {base g n : Nat} {rs : List (PairD × Value)} (h : u.ownsRow base 90 3 (.slice (some ⟨g, 0, none⟩) n n) n (flatG rpCells rs)) (hn : rs.length = n) (hsm : n ≤ 1000) (hW : ∀ p ∈ rs, rpCellsW u p) : PairsR u u.heap.size (.slice (some ⟨g, 0, none⟩) n n) (rs.map (·.1)) := by
  subst hn
  have hl : (rs.map (·.1)).length = rs.length := List.length_map _
  refine ⟨some ⟨g, 0, none⟩, rs.length, by rw [hl], by omega, by omega, (by intro h; cases h), fun _ => ⟨g, 0, rfl, (h.lt g rfl).2, fun i x hx => ?_⟩⟩
  rw [List.getElem?_map] at hx
  obtain ⟨p, hp, rfl⟩ := Option.map_eq_some_iff.1 hx
  have hi : i < rs.length := (List.getElem?_eq_some_iff.1 hp).1
  have hw := hW p (List.mem_of_getElem? hp)
  have key : ∀ j, j < 3 → u.cell? ⟨g, 0 + i * 3 + j, none⟩ = (rpCells p)[j]? := fun j hj => by
    rw [Nat.zero_add, h.cellAt (i * 3 + j) (by omega)]
    have := flatG_at rpCells_len hp j hj
    simpa using this
  exact ⟨by simpa [rpCells] using key 0 (by omega), by simpa [rpCells] using key 1 (by omega), by simpa [rpCells] using key 2 (by omega), hw.1, hw.2⟩

theorem Tryz.rinfoPair : (Tryz.prog.info? 90).map (fun i => (i.zero, i.size, i.bytes)) = some (some (.agg #[.string ⟨#[]⟩, .string ⟨#[]⟩, .int .i64 0]), 3, 40) := by kernel_rfl

set_option maxRecDepth 100000 in
set_option maxHeartbeats 1600000 in
theorem rlistPair (cl : Nat) (f : ByteArray × Int → PairD × ByteArray × Int) (most : Int) (hm0 : 0 ≤ most) (hm1 : most ≤ 1000) (hc : RdC cl f PairV) (hsh : Shrinks f) (eg : ∀ args w, (callFunc cl args).run Tryz.prog w = .ok (.enter cl args) w)
    (rb : Nat) (r : ByteArray × Int) (w : World) (hs : r.1.size ≤ 140737488351232) (hr : IsRs rb r w) :
    Calls Tryz.prog 41 #[.pointer (some ⟨rb, 0, none⟩), .int .i64 most, .func (.func cl) #[.pointer (some ⟨rb, 0, none⟩)] #[]] w fun e w' => ∃ v, e = .returned v ∧ IsRs rb (listR most f r).2 w' ∧ NewR w.heap.size w' (fun u => PairsR u u.heap.size v (listR most f r).1) ∧ TouchG w w' (fun k => k = rb) := by
  have CN := ghid (rsNumber_any rb r w hs hr)
  have hbd := stepN_bounds r
  have hsq := stepN_shrinks r
  have hlr := hr.lt
  unfold listR
  by_cases hgt : most < (stepN r).1
  · rw [stepM_gt hm0 hgt]
    obtain ⟨mn, hmn⟩ : ∃ mn, mn = (stepN r).1 := ⟨_, rfl⟩
    obtain ⟨q, hq⟩ : ∃ q, q = (stepN r).2 := ⟨_, rfl⟩
    rw [← hmn] at CN hgt
    rw [← hq] at CN ⊢
    clear hbd hmn hq hc hr hsh
    go_enter Tryz.func41, Tryz.ntmps41
    go_wp2_with fail
    refine CN.out.mono ?_
    rintro e w1 ⟨v1, rfl, hr1, hn1, ht1⟩
    obtain rfl : v1 = .int .i64 mn := hn1.now
    have c1 : w1.cell? ⟨rb, 1, none⟩ = some (.int .i64 q.2) := cell_of_row w1 rb 1 _ _ _ hr1
    have f1 : w1.frozen? ⟨rb, 1, none⟩ = false := frozen_of_row w1 rb 1 _ _ hr1
    have HR1 := ghid hr1
    have HT1 := ghid ht1
    clear hr1 hn1 ht1 CN
    go_wp2
    go_ret
    exact ⟨_, rfl, rs_set HR1.out 1, NewR.of _ _ fun u => ⟨none, 0, rfl, Nat.le_refl _, by simp [rowR], fun _ => rfl, fun h => absurd h (by simp [rowR])⟩, HT1.out.setCell (a := ⟨rb, 1, none⟩) (.inl rfl) _⟩
  · rw [stepM_le (by omega)]
    obtain ⟨n, hn⟩ : ∃ n : Nat, (stepN r).1 = n := ⟨(stepN r).1.toNat, by omega⟩
    obtain ⟨q, hq⟩ : ∃ q, q = (stepN r).2 := ⟨_, rfl⟩
    have hqs : q.1.size ≤ 140737488351232 := by rw [hq]; omega
    rw [hn] at CN hgt ⊢
    rw [← hq] at CN ⊢
    rw [Int.toNat_natCast]
    have HC := ghid hc
    have HSH := ghid hsh
    obtain ⟨i0, hi, hz0, hz1, hz2⟩ := info_parts Tryz.rinfoPair
    clear hbd hn hq hc hr hsh hsq
    go_enter Tryz.func41, Tryz.ntmps41
    go_wp2_with fail
    refine CN.out.mono ?_
    rintro e w1 ⟨v1, rfl, hr1, hn1, ht1⟩
    obtain rfl : v1 = .int .i64 n := hn1.now
    have HR1 := ghid hr1
    have HT1 := ghid ht1
    have hz1w := ht1.size
    clear hr1 hn1 ht1 CN
    go_wp2_with (at_make; refine wpList_make_full _ rfl (.tmp 18) (.tmp 18) 24 rfl w1.heap.size 90 i0 _ 3 Tryz.underlying24 hi hz0 hz1 .i64 .i64 _ _ n rfl rfl rfl rfl (by rw [hz2]; omega) (by unfold maxLen; omega) (Nat.le_refl _) ?_)
    intro w2 hown2 hgrow2
    have hb2 : Below w1.heap.size w1 w2 := (Below.refl _ _).grown hgrow2 (Nat.le_refl _) (fun k hk => by cases hk)
    obtain ⟨Z, HO2, hZl⟩ : ∃ Z : List Value, Hid (w2.ownsRow w1.heap.size 90 3 (.slice (some ⟨w1.heap.size, 0, none⟩) n n) n Z) ∧ Z.length = n * 3 := ⟨_, hown2, by simp [size_madeCells]⟩
    have HR2 := ghid (HR1.out.below hb2)
    have HT2 := ghid (HT1.out.trans (TouchG.of_below hb2 (Nat.le_refl _) (fun k => k = rb)) (fun _ _ h => h))
    obtain ⟨g, hg⟩ : ∃ g, g = w1.heap.size := ⟨_, rfl⟩
    rw [← hg] at HO2 ⊢
    have hwg : w.heap.size ≤ g := by omega
    clear hown2 hgrow2 hi hz0 hz1 hz2 hb2 HR1 HT1 hg hz1w
    go_wp2_with fail
    go_loopw [22] (fun i wr => ∃ (k : Nat) (rs : List (PairD × Value)) (Z : List Value), k ≤ n ∧ i = .int .i64 k ∧ rs.map (·.1) = (rowR f k q).1 ∧ IsRs rb (rowR f k q).2 wr ∧ Z.length = (n - k) * 3 ∧
        wr.ownsRow g 90 3 (.slice (some ⟨g, 0, none⟩) n n) n (flatG rpCells rs ++ Z) ∧ (∀ p ∈ rs, NewR (g + 1) wr (fun u => rpCellsW u p)) ∧ TouchG w wr (fun k => k = rb))
      (fun i _ => n - (intOf i).toNat)
    case atStart => exact ⟨0, [], Z, Nat.zero_le _, rfl, rfl, HR2.out, by simpa using hZl, by simpa [flatG] using HO2.out, fun p hp => absurd hp (by simp), HT2.out⟩
    case round =>
      clear HO2 HR2 HT2
      obtain ⟨k, rs, Z, hk, rfl, hrs, hrd, hZl, hown, hnew, htw⟩ := hrel
      have hrl : rs.length = k := by have := congrArg List.length hrs; rw [List.length_map, rowR_length] at this; exact this
      have hkl : (flatG rpCells rs).length = k * 3 := by rw [flatG_length rpCells_len, hrl]
      have hgr : g < wr.heap.size := (hown.lt _ rfl).2
      have hrg : rb ≠ g := by omega
      by_cases hlt : k < n
      · obtain ⟨z0, z1, z2, Z', hZe⟩ := rof3 Z (by omega)
        subst hZe
        have CR := ghid (HC.out rb (rowR f k q).2 wr (Nat.le_trans (rowR_shrinks HSH.out k q) hqs) hrd)
        have HRS := ghid (rowR_snoc f k q)
        obtain ⟨x, hx⟩ : ∃ x, x = (f (rowR f k q).2).1 := ⟨_, rfl⟩
        obtain ⟨q', hq'⟩ : ∃ q', q' = (f (rowR f k q).2).2 := ⟨_, rfl⟩
        rw [← hx, ← hq'] at CR HRS
        have HO := ghid hown
        have HNW := ghid hnew
        have HTW := ghid htw
        have HKL := ghid hkl
        have HIR := ghid hrs
        clear hrs hown hnew htw hkl hrd hx hq' hqs
        go_wp2_with fail
        refine CR.out.mono ?_
        rintro e w3 ⟨ev, rfl, hr3, hn3, ht3⟩
        obtain ⟨lv, rfl, hw3⟩ := rpCells_open hn3
        have ho3 : w3.ownsRow g 90 3 (.slice (some ⟨g, 0, none⟩) n n) n (flatG rpCells rs ++ z0 :: z1 :: z2 :: Z') := grow_keep HO.out fun b hb => by
          have hbg : b = g := by simpa [Value.ownBlock] using hb.symm
          rw [hbg]
          exact ht3.block g hgr (fun e => hrg e.symm)
        have y : ∀ j z, (z0 :: z1 :: z2 :: Z')[j]? = some z → j < 3 → w3.cell? ⟨g, k * 3 + j, none⟩ = some z := fun j z hz hj => by
          rw [ho3.cellAt (k * 3 + j) (by omega), List.getElem?_append_right (by have := HKL.out; omega), HKL.out, show k * 3 + j - k * 3 = j by omega]
          exact hz
        have y0 := y 0 z0 rfl (by omega)
        have y1 := y 1 z1 rfl (by omega)
        have y2 := y 2 z2 rfl (by omega)
        rw [Nat.add_zero] at y0
        have yf : ∀ j, w3.frozen? ⟨g, j, none⟩ = false := fun j => ho3.frozenAt j
        have HO3 := ghid (rput3 ho3 HKL.out (.string x.name) (.string x.value) (.int .i64 x.version))
        have hz3 := ht3.size
        have HT3 := ghid (rtouch3 (k := k) (HTW.out.trans ht3 (fun _ _ h => h)) (.inr hwg) (.string x.name) (.string x.value) (.int .i64 x.version))
        have HT4 := ghid (rtouch3 (k := k) (TouchG.mk ht3.os ht3.tape ht3.output ht3.size (fun i hi hn => ht3.block i hi (fun e => hn (.inl e))) : TouchG wr w3 (fun i => i = rb ∨ i = g)) (.inl (.inr rfl)) (.string x.name) (.string x.value) (.int .i64 x.version))
        have HT5 := ghid (rtouch3 (k := k) (TouchG.refl w3 (fun i => i = g)) (.inl rfl) (.string x.name) (.string x.value) (.int .i64 x.version))
        have HR3 := ghid hr3
        have HW3 := ghid hw3
        clear ho3 y hr3 hn3 ht3 hw3 CR
        go_wp2
        go_roundw
        case rel =>
          refine ⟨k + 1, rs ++ [(x, lv)], Z', by omega, by go_num, ?_, ?_, by simp at hZl; omega, ?_, ?_, HT3.out⟩
          · rw [HRS.out, List.map_append, HIR.out]; rfl
          · rw [HRS.out]
            exact (HT5.out.block rb (by have := (Array.getElem?_eq_some_iff.1 HR3.out).1; exact this) hrg).trans HR3.out
          · have := HO3.out
            rw [flatG_snoc, List.append_assoc]
            exact this
          · intro p hp
            rcases List.mem_append.1 hp with hp | hp
            · exact (HNW.out p hp).touch HT4.out (fun i _ h => by rcases h with h | h <;> omega)
            · obtain rfl : p = (x, lv) := by simpa using hp
              exact ((HW3.out).touch HT5.out (fun i _ h => by omega)).mono (by omega)
        case measure => simp [intOf]; omega
      · have hke : k = n := by omega
        subst hke
        have hZ0 : Z = [] := List.eq_nil_of_length_eq_zero (by omega)
        subst hZ0
        rw [List.append_nil] at hown
        have HO := ghid hown
        have HNW := ghid hnew
        have HTW := ghid htw
        have HIR := ghid hrs
        have HRD := ghid hrd
        clear hrs hown hnew htw hkl hrd
        go_wp2
        go_ret
        refine ⟨_, rfl, HRD.out, fun u hu => ?_, HTW.out⟩
        rw [← HIR.out]
        refine rpCells_reads (grow_keep HO.out fun b hb => ?_) hrl (by omega) (fun p hp => (HNW.out p hp).mono (by omega) u hu)
        have hbg : b = g := by simpa [Value.ownBlock] using hb.symm
        rw [hbg]
        exact hu.block g hgr (by omega)

def rsCells (p : SessD × Value) : List Value := [.int .i64 p.1.client, .int .i64 p.1.id, .int .i64 p.1.acked, .int .i64 p.1.last, p.2]

theorem rsCells_len (p : SessD × Value) : (rsCells p).length = 5 := rfl

def rsCellsW (u : World) (p : SessD × Value) : Prop := KeptsR u u.heap.size p.2 p.1.replies

theorem rsCells_open {k : Nat} {w : World} {ev : Value} {x : SessD} (h : NewR k w (fun u => SessV u u.heap.size ev x)) : ∃ lv : Value, ev = (.agg #[.int .i64 x.client, .int .i64 x.id, .int .i64 x.acked, .int .i64 x.last, lv]) ∧ NewR k w (fun u => rsCellsW u (x, lv)) := by
  obtain ⟨lv, hev, -⟩ := h.now
  refine ⟨lv, hev, fun u hu => ?_⟩
  obtain ⟨lv', hev', hl'⟩ := h u hu
  rw [hev] at hev'
  simp at hev'
  subst hev'
  exact hl'

theorem rsCells_reads {u : World} {base g n : Nat} {rs : List (SessD × Value)} (h : u.ownsRow base 95 5 (.slice (some ⟨g, 0, none⟩) n n) n (flatG rsCells rs)) (hn : rs.length = n) (hsm : n ≤ 1000) (hW : ∀ p ∈ rs, rsCellsW u p) : SessR u u.heap.size (.slice (some ⟨g, 0, none⟩) n n) (rs.map (·.1)) := by
  subst hn
  have hl : (rs.map (·.1)).length = rs.length := List.length_map _
  refine ⟨some ⟨g, 0, none⟩, rs.length, by rw [hl], by omega, by omega, (by intro h; cases h), fun _ => ⟨g, 0, rfl, (h.lt g rfl).2, fun i x hx => ?_⟩⟩
  rw [List.getElem?_map] at hx
  obtain ⟨p, hp, rfl⟩ := Option.map_eq_some_iff.1 hx
  have hi : i < rs.length := (List.getElem?_eq_some_iff.1 hp).1
  have hw := hW p (List.mem_of_getElem? hp)
  have key : ∀ j, j < 5 → u.cell? ⟨g, 0 + i * 5 + j, none⟩ = (rsCells p)[j]? := fun j hj => by
    rw [Nat.zero_add, h.cellAt (i * 5 + j) (by omega)]
    have := flatG_at rsCells_len hp j hj
    simpa using this
  exact ⟨p.2, by simpa [rsCells] using key 0 (by omega), by simpa [rsCells] using key 1 (by omega), by simpa [rsCells] using key 2 (by omega), by simpa [rsCells] using key 3 (by omega), by simpa [rsCells] using key 4 (by omega), hw⟩

theorem Tryz.rinfoSess : (Tryz.prog.info? 95).map (fun i => (i.zero, i.size, i.bytes)) = some (some (.agg #[.int .i64 0, .int .i64 0, .int .i64 0, .int .i64 0, .slice none 0 0]), 5, 56) := by kernel_rfl

set_option maxRecDepth 100000 in
set_option maxHeartbeats 1600000 in
theorem rlistSess (cl : Nat) (f : ByteArray × Int → SessD × ByteArray × Int) (most : Int) (hm0 : 0 ≤ most) (hm1 : most ≤ 1000) (hc : RdC cl f SessV) (hsh : Shrinks f) (eg : ∀ args w, (callFunc cl args).run Tryz.prog w = .ok (.enter cl args) w)
    (rb : Nat) (r : ByteArray × Int) (w : World) (hs : r.1.size ≤ 140737488351232) (hr : IsRs rb r w) :
    Calls Tryz.prog 43 #[.pointer (some ⟨rb, 0, none⟩), .int .i64 most, .func (.func cl) #[.pointer (some ⟨rb, 0, none⟩)] #[]] w fun e w' => ∃ v, e = .returned v ∧ IsRs rb (listR most f r).2 w' ∧ NewR w.heap.size w' (fun u => SessR u u.heap.size v (listR most f r).1) ∧ TouchG w w' (fun k => k = rb) := by
  have CN := ghid (rsNumber_any rb r w hs hr)
  have hbd := stepN_bounds r
  have hsq := stepN_shrinks r
  have hlr := hr.lt
  unfold listR
  by_cases hgt : most < (stepN r).1
  · rw [stepM_gt hm0 hgt]
    obtain ⟨mn, hmn⟩ : ∃ mn, mn = (stepN r).1 := ⟨_, rfl⟩
    obtain ⟨q, hq⟩ : ∃ q, q = (stepN r).2 := ⟨_, rfl⟩
    rw [← hmn] at CN hgt
    rw [← hq] at CN ⊢
    clear hbd hmn hq hc hr hsh
    go_enter Tryz.func43, Tryz.ntmps43
    go_wp2_with fail
    refine CN.out.mono ?_
    rintro e w1 ⟨v1, rfl, hr1, hn1, ht1⟩
    obtain rfl : v1 = .int .i64 mn := hn1.now
    have c1 : w1.cell? ⟨rb, 1, none⟩ = some (.int .i64 q.2) := cell_of_row w1 rb 1 _ _ _ hr1
    have f1 : w1.frozen? ⟨rb, 1, none⟩ = false := frozen_of_row w1 rb 1 _ _ hr1
    have HR1 := ghid hr1
    have HT1 := ghid ht1
    clear hr1 hn1 ht1 CN
    go_wp2
    go_ret
    exact ⟨_, rfl, rs_set HR1.out 1, NewR.of _ _ fun u => ⟨none, 0, rfl, Nat.le_refl _, by simp [rowR], fun _ => rfl, fun h => absurd h (by simp [rowR])⟩, HT1.out.setCell (a := ⟨rb, 1, none⟩) (.inl rfl) _⟩
  · rw [stepM_le (by omega)]
    obtain ⟨n, hn⟩ : ∃ n : Nat, (stepN r).1 = n := ⟨(stepN r).1.toNat, by omega⟩
    obtain ⟨q, hq⟩ : ∃ q, q = (stepN r).2 := ⟨_, rfl⟩
    have hqs : q.1.size ≤ 140737488351232 := by rw [hq]; omega
    rw [hn] at CN hgt ⊢
    rw [← hq] at CN ⊢
    rw [Int.toNat_natCast]
    have HC := ghid hc
    have HSH := ghid hsh
    obtain ⟨i0, hi, hz0, hz1, hz2⟩ := info_parts Tryz.rinfoSess
    clear hbd hn hq hc hr hsh hsq
    go_enter Tryz.func43, Tryz.ntmps43
    go_wp2_with fail
    refine CN.out.mono ?_
    rintro e w1 ⟨v1, rfl, hr1, hn1, ht1⟩
    obtain rfl : v1 = .int .i64 n := hn1.now
    have HR1 := ghid hr1
    have HT1 := ghid ht1
    have hz1w := ht1.size
    clear hr1 hn1 ht1 CN
    go_wp2_with (at_make; refine wpList_make_full _ rfl (.tmp 18) (.tmp 18) 25 rfl w1.heap.size 95 i0 _ 5 Tryz.underlying25 hi hz0 hz1 .i64 .i64 _ _ n rfl rfl rfl rfl (by rw [hz2]; omega) (by unfold maxLen; omega) (Nat.le_refl _) ?_)
    intro w2 hown2 hgrow2
    have hb2 : Below w1.heap.size w1 w2 := (Below.refl _ _).grown hgrow2 (Nat.le_refl _) (fun k hk => by cases hk)
    obtain ⟨Z, HO2, hZl⟩ : ∃ Z : List Value, Hid (w2.ownsRow w1.heap.size 95 5 (.slice (some ⟨w1.heap.size, 0, none⟩) n n) n Z) ∧ Z.length = n * 5 := ⟨_, hown2, by simp [size_madeCells]⟩
    have HR2 := ghid (HR1.out.below hb2)
    have HT2 := ghid (HT1.out.trans (TouchG.of_below hb2 (Nat.le_refl _) (fun k => k = rb)) (fun _ _ h => h))
    obtain ⟨g, hg⟩ : ∃ g, g = w1.heap.size := ⟨_, rfl⟩
    rw [← hg] at HO2 ⊢
    have hwg : w.heap.size ≤ g := by omega
    clear hown2 hgrow2 hi hz0 hz1 hz2 hb2 HR1 HT1 hg hz1w
    go_wp2_with fail
    go_loopw [22] (fun i wr => ∃ (k : Nat) (rs : List (SessD × Value)) (Z : List Value), k ≤ n ∧ i = .int .i64 k ∧ rs.map (·.1) = (rowR f k q).1 ∧ IsRs rb (rowR f k q).2 wr ∧ Z.length = (n - k) * 5 ∧
        wr.ownsRow g 95 5 (.slice (some ⟨g, 0, none⟩) n n) n (flatG rsCells rs ++ Z) ∧ (∀ p ∈ rs, NewR (g + 1) wr (fun u => rsCellsW u p)) ∧ TouchG w wr (fun k => k = rb))
      (fun i _ => n - (intOf i).toNat)
    case atStart => exact ⟨0, [], Z, Nat.zero_le _, rfl, rfl, HR2.out, by simpa using hZl, by simpa [flatG] using HO2.out, fun p hp => absurd hp (by simp), HT2.out⟩
    case round =>
      clear HO2 HR2 HT2
      obtain ⟨k, rs, Z, hk, rfl, hrs, hrd, hZl, hown, hnew, htw⟩ := hrel
      have hrl : rs.length = k := by have := congrArg List.length hrs; rw [List.length_map, rowR_length] at this; exact this
      have hkl : (flatG rsCells rs).length = k * 5 := by rw [flatG_length rsCells_len, hrl]
      have hgr : g < wr.heap.size := (hown.lt _ rfl).2
      have hrg : rb ≠ g := by omega
      by_cases hlt : k < n
      · obtain ⟨z0, z1, z2, z3, z4, Z', hZe⟩ := rof5 Z (by omega)
        subst hZe
        have CR := ghid (HC.out rb (rowR f k q).2 wr (Nat.le_trans (rowR_shrinks HSH.out k q) hqs) hrd)
        have HRS := ghid (rowR_snoc f k q)
        obtain ⟨x, hx⟩ : ∃ x, x = (f (rowR f k q).2).1 := ⟨_, rfl⟩
        obtain ⟨q', hq'⟩ : ∃ q', q' = (f (rowR f k q).2).2 := ⟨_, rfl⟩
        rw [← hx, ← hq'] at CR HRS
        have HO := ghid hown
        have HNW := ghid hnew
        have HTW := ghid htw
        have HKL := ghid hkl
        have HIR := ghid hrs
        clear hrs hown hnew htw hkl hrd hx hq' hqs
        go_wp2_with fail
        refine CR.out.mono ?_
        rintro e w3 ⟨ev, rfl, hr3, hn3, ht3⟩
        obtain ⟨lv, rfl, hw3⟩ := rsCells_open hn3
        obtain ⟨lo, lc, hlv, -⟩ := id hw3.now
        simp only at hlv
        subst hlv
        have ho3 : w3.ownsRow g 95 5 (.slice (some ⟨g, 0, none⟩) n n) n (flatG rsCells rs ++ z0 :: z1 :: z2 :: z3 :: z4 :: Z') := grow_keep HO.out fun b hb => by
          have hbg : b = g := by simpa [Value.ownBlock] using hb.symm
          rw [hbg]
          exact ht3.block g hgr (fun e => hrg e.symm)
        have y : ∀ j z, (z0 :: z1 :: z2 :: z3 :: z4 :: Z')[j]? = some z → j < 5 → w3.cell? ⟨g, k * 5 + j, none⟩ = some z := fun j z hz hj => by
          rw [ho3.cellAt (k * 5 + j) (by omega), List.getElem?_append_right (by have := HKL.out; omega), HKL.out, show k * 5 + j - k * 5 = j by omega]
          exact hz
        have y0 := y 0 z0 rfl (by omega)
        have y1 := y 1 z1 rfl (by omega)
        have y2 := y 2 z2 rfl (by omega)
        have y3 := y 3 z3 rfl (by omega)
        have y4 := y 4 z4 rfl (by omega)
        rw [Nat.add_zero] at y0
        have yf : ∀ j, w3.frozen? ⟨g, j, none⟩ = false := fun j => ho3.frozenAt j
        have HO3 := ghid (rput5 ho3 HKL.out (.int .i64 x.client) (.int .i64 x.id) (.int .i64 x.acked) (.int .i64 x.last) (.slice lo x.replies.length lc))
        have hz3 := ht3.size
        have HT3 := ghid (rtouch5 (k := k) (HTW.out.trans ht3 (fun _ _ h => h)) (.inr hwg) (.int .i64 x.client) (.int .i64 x.id) (.int .i64 x.acked) (.int .i64 x.last) (.slice lo x.replies.length lc))
        have HT4 := ghid (rtouch5 (k := k) (TouchG.mk ht3.os ht3.tape ht3.output ht3.size (fun i hi hn => ht3.block i hi (fun e => hn (.inl e))) : TouchG wr w3 (fun i => i = rb ∨ i = g)) (.inl (.inr rfl)) (.int .i64 x.client) (.int .i64 x.id) (.int .i64 x.acked) (.int .i64 x.last) (.slice lo x.replies.length lc))
        have HT5 := ghid (rtouch5 (k := k) (TouchG.refl w3 (fun i => i = g)) (.inl rfl) (.int .i64 x.client) (.int .i64 x.id) (.int .i64 x.acked) (.int .i64 x.last) (.slice lo x.replies.length lc))
        have HR3 := ghid hr3
        have HW3 := ghid hw3
        clear ho3 y hr3 hn3 ht3 hw3 CR
        go_wp2
        go_roundw
        case rel =>
          refine ⟨k + 1, rs ++ [(x, .slice lo x.replies.length lc)], Z', by omega, by go_num, ?_, ?_, by simp at hZl; omega, ?_, ?_, HT3.out⟩
          · rw [HRS.out, List.map_append, HIR.out]; rfl
          · rw [HRS.out]
            exact (HT5.out.block rb (by have := (Array.getElem?_eq_some_iff.1 HR3.out).1; exact this) hrg).trans HR3.out
          · have := HO3.out
            rw [flatG_snoc, List.append_assoc]
            exact this
          · intro p hp
            rcases List.mem_append.1 hp with hp | hp
            · exact (HNW.out p hp).touch HT4.out (fun i _ h => by rcases h with h | h <;> omega)
            · obtain rfl : p = (x, .slice lo x.replies.length lc) := by simpa using hp
              exact ((HW3.out).touch HT5.out (fun i _ h => by omega)).mono (by omega)
        case measure => simp [intOf]; omega
      · have hke : k = n := by omega
        subst hke
        have hZ0 : Z = [] := List.eq_nil_of_length_eq_zero (by omega)
        subst hZ0
        rw [List.append_nil] at hown
        have HO := ghid hown
        have HNW := ghid hnew
        have HTW := ghid htw
        have HIR := ghid hrs
        have HRD := ghid hrd
        clear hrs hown hnew htw hkl hrd
        go_wp2
        go_ret
        refine ⟨_, rfl, HRD.out, fun u hu => ?_, HTW.out⟩
        rw [← HIR.out]
        refine rsCells_reads (grow_keep HO.out fun b hb => ?_) hrl (by omega) (fun p hp => (HNW.out p hp).mono (by omega) u hu)
        have hbg : b = g := by simpa [Value.ownBlock] using hb.symm
        rw [hbg]
        exact hu.block g hgr (by omega)

end Go.Proofs.YtpcacaohknkdlahGreatDoor

namespace Go.Proofs.YtpcacaohknkdlahGreatDoor

open Go.RowKit

def replyR (r : ByteArray × Int) : (Int × Int × ByteArray) × ByteArray × Int :=
  let a := stepN r
  let b := stepN a.2
  let c := stepT b.2
  ((a.1, b.1, c.1), c.2)

def ReplyV (_ : World) (_ : Nat) (ev : Value) (x : Int × Int × ByteArray) : Prop := ev = .agg #[.int .i64 x.1, .int .i64 x.2.1, .string x.2.2] ∧ x.2.2.size ≤ 140737488351232

def StateV (w : World) (B : Nat) (ev : Value) (s : StateD) : Prop := StateR w B ev s

theorem keptR_shrinks : Shrinks keptR := fun r => Nat.le_trans (stepT_shrinks (stepN (stepN (stepN r).2).2).2) (Nat.le_trans (stepN_shrinks (stepN (stepN r).2).2) (Nat.le_trans (stepN_shrinks (stepN r).2) (stepN_shrinks r)))

theorem pairR_shrinks : Shrinks pairR := fun r => Nat.le_trans (stepN_shrinks (stepT (stepT r).2).2) (Nat.le_trans (stepT_shrinks (stepT r).2) (stepT_shrinks r))

theorem lockR_shrinks : Shrinks lockR := fun r => Nat.le_trans (listR_shrinks stepN_shrinks 3 (by decide) (stepN (stepN (stepT r).2).2).2) (Nat.le_trans (stepN_shrinks (stepN (stepT r).2).2) (Nat.le_trans (stepN_shrinks (stepT r).2) (stepT_shrinks r)))

theorem sessR_shrinks : Shrinks sessR := fun r => Nat.le_trans (listR_shrinks keptR_shrinks 4 (by decide) (stepN (stepN (stepN (stepN r).2).2).2).2) (Nat.le_trans (stepN_shrinks (stepN (stepN (stepN r).2).2).2) (Nat.le_trans (stepN_shrinks (stepN (stepN r).2).2) (Nat.le_trans (stepN_shrinks (stepN r).2) (stepN_shrinks r))))

theorem rs_touch {rb : Nat} {r : ByteArray × Int} {w w' : World} (h : IsRs rb r w) {bx : Nat} (ht : TouchG w w' (fun k => k = bx)) (hne : rb ≠ bx) : IsRs rb r w' := (ht.block rb h.lt hne).trans h

theorem rs_number_enters : ∀ args w, (callFunc 38 args).run Tryz.prog w = .ok (.enter 38 args) w := enters_of Tryz.func38 (by decide) rfl

theorem rs_kept_enters : ∀ args w, (callFunc 75 args).run Tryz.prog w = .ok (.enter 75 args) w := enters_of Tryz.func75 (by decide) rfl

theorem rs_pair_enters : ∀ args w, (callFunc 42 args).run Tryz.prog w = .ok (.enter 42 args) w := enters_of Tryz.func42 (by decide) rfl

theorem rs_lock_enters : ∀ args w, (callFunc 40 args).run Tryz.prog w = .ok (.enter 40 args) w := enters_of Tryz.func40 (by decide) rfl

theorem rs_session_enters : ∀ args w, (callFunc 44 args).run Tryz.prog w = .ok (.enter 44 args) w := enters_of Tryz.func44 (by decide) rfl

theorem rtouchz3 {w0 w : World} {S : Nat → Prop} (h : TouchG w0 w S) {bx : Nat} (hg : S bx ∨ w0.heap.size ≤ bx) (a0 a1 a2 : Value) : TouchG w0 (((w.setCell ⟨bx, 0, none⟩ a0).setCell ⟨bx, 1, none⟩ a1).setCell ⟨bx, 2, none⟩ a2) S :=
  ((h.setCell (a := ⟨bx, 0, none⟩) hg a0).setCell (a := ⟨bx, 1, none⟩) hg a1).setCell (a := ⟨bx, 2, none⟩) hg a2

theorem rtouchz4 {w0 w : World} {S : Nat → Prop} (h : TouchG w0 w S) {bx : Nat} (hg : S bx ∨ w0.heap.size ≤ bx) (a0 a1 a2 a3 : Value) : TouchG w0 ((((w.setCell ⟨bx, 0, none⟩ a0).setCell ⟨bx, 1, none⟩ a1).setCell ⟨bx, 2, none⟩ a2).setCell ⟨bx, 3, none⟩ a3) S :=
  (((h.setCell (a := ⟨bx, 0, none⟩) hg a0).setCell (a := ⟨bx, 1, none⟩) hg a1).setCell (a := ⟨bx, 2, none⟩) hg a2).setCell (a := ⟨bx, 3, none⟩) hg a3

theorem rtouchz5 {w0 w : World} {S : Nat → Prop} (h : TouchG w0 w S) {bx : Nat} (hg : S bx ∨ w0.heap.size ≤ bx) (a0 a1 a2 a3 a4 : Value) : TouchG w0 (((((w.setCell ⟨bx, 0, none⟩ a0).setCell ⟨bx, 1, none⟩ a1).setCell ⟨bx, 2, none⟩ a2).setCell ⟨bx, 3, none⟩ a3).setCell ⟨bx, 4, none⟩ a4) S :=
  ((((h.setCell (a := ⟨bx, 0, none⟩) hg a0).setCell (a := ⟨bx, 1, none⟩) hg a1).setCell (a := ⟨bx, 2, none⟩) hg a2).setCell (a := ⟨bx, 3, none⟩) hg a3).setCell (a := ⟨bx, 4, none⟩) hg a4

set_option maxRecDepth 100000 in
set_option maxHeartbeats 1600000 in
theorem rs_reply : RdC 100 replyR ReplyV := by
  intro rb r0 w hs0 hr
  have hlr := hr.lt
  obtain ⟨x0, hx0⟩ : ∃ x, x = (stepN r0).1 := ⟨_, rfl⟩
  obtain ⟨r1, hr1⟩ : ∃ r, r = (stepN r0).2 := ⟨_, rfl⟩
  have hs1 : r1.1.size ≤ 140737488351232 := by rw [hr1]; exact Nat.le_trans (stepN_shrinks r0) hs0
  obtain ⟨x1, hx1⟩ : ∃ x, x = (stepN r1).1 := ⟨_, rfl⟩
  obtain ⟨r2, hr2⟩ : ∃ r, r = (stepN r1).2 := ⟨_, rfl⟩
  have hs2 : r2.1.size ≤ 140737488351232 := by rw [hr2]; exact Nat.le_trans (stepN_shrinks r1) hs1
  obtain ⟨x2, hx2⟩ : ∃ x, x = (stepT r2).1 := ⟨_, rfl⟩
  obtain ⟨r3, hr3⟩ : ∃ r, r = (stepT r2).2 := ⟨_, rfl⟩
  have hfin : replyR r0 = ((x0, x1, x2), r3) := by subst hx2 hr3 hx1 hr2 hx0 hr1; rfl
  rw [hfin]
  have hba : Below w.heap.size w (w.alloc (.cells #[.int .i64 0, .int .i64 0, .string ⟨#[]⟩] 43)) := (Below.refl _ _).alloc (Nat.le_refl _) _
  have HX0 : Hid ((w.alloc (.cells #[.int .i64 0, .int .i64 0, .string ⟨#[]⟩] 43)).heap[w.heap.size]? = some (.cells #[.int .i64 0, .int .i64 0, .string ⟨#[]⟩] 43 (0, 0))) := heap_alloc_new w _
  have hw0 : (w.alloc (.cells #[.int .i64 0, .int .i64 0, .string ⟨#[]⟩] 43)).heap.size = w.heap.size + 1 := by simp
  have HR0 := ghid (hr.below hba)
  have HT0 := ghid (TouchG.of_below hba (Nat.le_refl _) (fun k => k = rb))
  have hne : rb ≠ w.heap.size := by omega
  have CC0 : Hid (∀ u, IsRs rb r0 u → Calls Tryz.prog 38 #[.pointer (some ⟨rb, 0, none⟩)] u fun e w' => ∃ v, e = .returned v ∧ IsRs rb r1 w' ∧ NewR u.heap.size w' (fun u => IntV u u.heap.size v x0) ∧ TouchG u w' (fun k => k = rb)) := by unfold Hid; rw [hr1, hx0]; exact fun u hu => rsNumber_any rb r0 u hs0 hu
  have CC1 : Hid (∀ u, IsRs rb r1 u → Calls Tryz.prog 38 #[.pointer (some ⟨rb, 0, none⟩)] u fun e w' => ∃ v, e = .returned v ∧ IsRs rb r2 w' ∧ NewR u.heap.size w' (fun u => IntV u u.heap.size v x1) ∧ TouchG u w' (fun k => k = rb)) := by unfold Hid; rw [hr2, hx1]; exact fun u hu => rsNumber_any rb r1 u hs1 hu
  have CC2 : Hid (∀ u, IsRs rb r2 u → Calls Tryz.prog 72 #[.pointer (some ⟨rb, 0, none⟩)] u fun e w' => ∃ v, e = .returned v ∧ IsRs rb r3 w' ∧ NewR u.heap.size w' (fun u => TextV u u.heap.size v x2) ∧ TouchG u w' (fun k => k = rb)) := by unfold Hid; rw [hr3, hx2]; exact fun u hu => rsText_any rb r2 u hs2 hu
  clear hx0 hr1 hx1 hr2 hx2 hr3 hs0 hs1 hs2 hfin hr hba
  go_enter Tryz.func100, Tryz.ntmps100
  go_wp2_with fail
  refine (CC0.out _ HR0.out).mono ?_
  rintro e w1 ⟨v0, rfl, hr', hn', ht'⟩
  obtain rfl : v0 = .int .i64 x0 := hn'.now
  have hz1 := ht'.size
  have HX1 : Hid (w1.heap[w.heap.size]? = some (.cells #[.int .i64 0, .int .i64 0, .string ⟨#[]⟩] 43 (0, 0))) := (ht'.block _ (by omega) (fun e => hne e.symm)).trans HX0.out
  have HR1 := ghid hr'
  have HT1 := ghid (HT0.out.trans ht' (fun _ _ h => h))
  clear hr' hn' ht'
  go_wp2_with fail
  refine (CC1.out _ HR1.out).mono ?_
  rintro e w2 ⟨v1, rfl, hr', hn', ht'⟩
  obtain rfl : v1 = .int .i64 x1 := hn'.now
  have hz2 := ht'.size
  have HX2 : Hid (w2.heap[w.heap.size]? = some (.cells #[.int .i64 0, .int .i64 0, .string ⟨#[]⟩] 43 (0, 0))) := (ht'.block _ (by omega) (fun e => hne e.symm)).trans HX1.out
  have HR2 := ghid hr'
  have HT2 := ghid (HT1.out.trans ht' (fun _ _ h => h))
  clear hr' hn' ht'
  go_wp2_with fail
  refine (CC2.out _ HR2.out).mono ?_
  rintro e w3 ⟨v2, rfl, hr', hn', ht'⟩
  have hq2 : x2.size ≤ 140737488351232 := hn'.now.2
  obtain rfl : v2 = .string x2 := hn'.now.1
  have hz3 := ht'.size
  have HX3 : Hid (w3.heap[w.heap.size]? = some (.cells #[.int .i64 0, .int .i64 0, .string ⟨#[]⟩] 43 (0, 0))) := (ht'.block _ (by omega) (fun e => hne e.symm)).trans HX2.out
  have HR3 := ghid hr'
  have HT3 := ghid (HT2.out.trans ht' (fun _ _ h => h))
  clear hr' hn' ht'
  have c0 : w3.cell? ⟨w.heap.size, 0, none⟩ = some (.int .i64 0) := Lib.cell_of_heap HX3.out 0
  have c1 : w3.cell? ⟨w.heap.size, 1, none⟩ = some (.int .i64 0) := Lib.cell_of_heap HX3.out 1
  have c2 : w3.cell? ⟨w.heap.size, 2, none⟩ = some (.string ⟨#[]⟩) := Lib.cell_of_heap HX3.out 2
  have cf : ∀ j, w3.frozen? ⟨w.heap.size, j, none⟩ = false := fun j => Lib.frozen_of_heap HX3.out j
  have HTA := ghid (rtouchz3 HT3.out (.inr (Nat.le_refl _)) (.int .i64 x0) (.int .i64 x1) (.string x2))
  have HTB := ghid (rtouchz3 (TouchG.refl w3 (fun k => k = w.heap.size)) (.inl rfl) (.int .i64 x0) (.int .i64 x1) (.string x2))
  go_wp2
  refine bodyPost_ret (v := .agg #[.int .i64 x0, .int .i64 x1, .string x2]) (by simp [results, Tryz.results100, go_sem, c0, c1, c2]) rfl ?_
  refine ⟨_, rfl, rs_touch HR3.out HTB.out hne, ?_, HTA.out⟩
  exact NewR.of _ _ fun _ => ⟨rfl, hq2⟩

set_option maxRecDepth 100000 in
set_option maxHeartbeats 1600000 in
theorem rs_kept : RdC 75 keptR KeptV := by
  intro rb r0 w hs0 hr
  have hlr := hr.lt
  obtain ⟨x0, hx0⟩ : ∃ x, x = (stepN r0).1 := ⟨_, rfl⟩
  obtain ⟨r1, hr1⟩ : ∃ r, r = (stepN r0).2 := ⟨_, rfl⟩
  have hs1 : r1.1.size ≤ 140737488351232 := by rw [hr1]; exact Nat.le_trans (stepN_shrinks r0) hs0
  obtain ⟨x1, hx1⟩ : ∃ x, x = (replyR r1).1 := ⟨_, rfl⟩
  obtain ⟨r2, hr2⟩ : ∃ r, r = (replyR r1).2 := ⟨_, rfl⟩
  have hfin : keptR r0 = (⟨x0, x1.1, x1.2.1, x1.2.2⟩, r2) := by subst hx1 hr2 hx0 hr1; rfl
  rw [hfin]
  have hba : Below w.heap.size w (w.alloc (.cells #[.int .i64 0, .int .i64 0, .int .i64 0, .string ⟨#[]⟩] 132)) := (Below.refl _ _).alloc (Nat.le_refl _) _
  have HX0 : Hid ((w.alloc (.cells #[.int .i64 0, .int .i64 0, .int .i64 0, .string ⟨#[]⟩] 132)).heap[w.heap.size]? = some (.cells #[.int .i64 0, .int .i64 0, .int .i64 0, .string ⟨#[]⟩] 132 (0, 0))) := heap_alloc_new w _
  have hw0 : (w.alloc (.cells #[.int .i64 0, .int .i64 0, .int .i64 0, .string ⟨#[]⟩] 132)).heap.size = w.heap.size + 1 := by simp
  have HR0 := ghid (hr.below hba)
  have HT0 := ghid (TouchG.of_below hba (Nat.le_refl _) (fun k => k = rb))
  have hne : rb ≠ w.heap.size := by omega
  have CC0 : Hid (∀ u, IsRs rb r0 u → Calls Tryz.prog 38 #[.pointer (some ⟨rb, 0, none⟩)] u fun e w' => ∃ v, e = .returned v ∧ IsRs rb r1 w' ∧ NewR u.heap.size w' (fun u => IntV u u.heap.size v x0) ∧ TouchG u w' (fun k => k = rb)) := by unfold Hid; rw [hr1, hx0]; exact fun u hu => rsNumber_any rb r0 u hs0 hu
  have CC1 : Hid (∀ u, IsRs rb r1 u → Calls Tryz.prog 100 #[.pointer (some ⟨rb, 0, none⟩)] u fun e w' => ∃ v, e = .returned v ∧ IsRs rb r2 w' ∧ NewR u.heap.size w' (fun u => ReplyV u u.heap.size v x1) ∧ TouchG u w' (fun k => k = rb)) := by unfold Hid; rw [hr2, hx1]; exact fun u hu => rs_reply rb r1 u hs1 hu
  clear hx0 hr1 hx1 hr2 hs0 hs1 hfin hr hba
  go_enter Tryz.func75, Tryz.ntmps75
  go_wp2_with fail
  refine (CC0.out _ HR0.out).mono ?_
  rintro e w1 ⟨v0, rfl, hr', hn', ht'⟩
  obtain rfl : v0 = .int .i64 x0 := hn'.now
  have hz1 := ht'.size
  have HX1 : Hid (w1.heap[w.heap.size]? = some (.cells #[.int .i64 0, .int .i64 0, .int .i64 0, .string ⟨#[]⟩] 132 (0, 0))) := (ht'.block _ (by omega) (fun e => hne e.symm)).trans HX0.out
  have HR1 := ghid hr'
  have HT1 := ghid (HT0.out.trans ht' (fun _ _ h => h))
  clear hr' hn' ht'
  go_wp2_with fail
  refine (CC1.out _ HR1.out).mono ?_
  rintro e w2 ⟨v1, rfl, hr', hn', ht'⟩
  have hq1 : x1.2.2.size ≤ 140737488351232 := hn'.now.2
  obtain rfl : v1 = .agg #[.int .i64 x1.1, .int .i64 x1.2.1, .string x1.2.2] := hn'.now.1
  have hz2 := ht'.size
  have HX2 : Hid (w2.heap[w.heap.size]? = some (.cells #[.int .i64 0, .int .i64 0, .int .i64 0, .string ⟨#[]⟩] 132 (0, 0))) := (ht'.block _ (by omega) (fun e => hne e.symm)).trans HX1.out
  have HR2 := ghid hr'
  have HT2 := ghid (HT1.out.trans ht' (fun _ _ h => h))
  clear hr' hn' ht'
  have c0 : w2.cell? ⟨w.heap.size, 0, none⟩ = some (.int .i64 0) := Lib.cell_of_heap HX2.out 0
  have c1 : w2.cell? ⟨w.heap.size, 1, none⟩ = some (.int .i64 0) := Lib.cell_of_heap HX2.out 1
  have c2 : w2.cell? ⟨w.heap.size, 2, none⟩ = some (.int .i64 0) := Lib.cell_of_heap HX2.out 2
  have c3 : w2.cell? ⟨w.heap.size, 3, none⟩ = some (.string ⟨#[]⟩) := Lib.cell_of_heap HX2.out 3
  have cf : ∀ j, w2.frozen? ⟨w.heap.size, j, none⟩ = false := fun j => Lib.frozen_of_heap HX2.out j
  have HTA := ghid (rtouchz4 HT2.out (.inr (Nat.le_refl _)) (.int .i64 x0) (.int .i64 x1.1) (.int .i64 x1.2.1) (.string x1.2.2))
  have HTB := ghid (rtouchz4 (TouchG.refl w2 (fun k => k = w.heap.size)) (.inl rfl) (.int .i64 x0) (.int .i64 x1.1) (.int .i64 x1.2.1) (.string x1.2.2))
  go_wp2
  refine bodyPost_ret (v := .agg #[.int .i64 x0, .int .i64 x1.1, .int .i64 x1.2.1, .string x1.2.2]) (by simp [results, Tryz.results75, go_sem, c0, c1, c2, c3]) rfl ?_
  refine ⟨_, rfl, rs_touch HR2.out HTB.out hne, ?_, HTA.out⟩
  exact NewR.of _ _ fun _ => ⟨rfl, hq1⟩

set_option maxRecDepth 100000 in
set_option maxHeartbeats 1600000 in
theorem rs_pair : RdC 42 pairR PairV := by
  intro rb r0 w hs0 hr
  have hlr := hr.lt
  obtain ⟨x0, hx0⟩ : ∃ x, x = (stepT r0).1 := ⟨_, rfl⟩
  obtain ⟨r1, hr1⟩ : ∃ r, r = (stepT r0).2 := ⟨_, rfl⟩
  have hs1 : r1.1.size ≤ 140737488351232 := by rw [hr1]; exact Nat.le_trans (stepT_shrinks r0) hs0
  obtain ⟨x1, hx1⟩ : ∃ x, x = (stepT r1).1 := ⟨_, rfl⟩
  obtain ⟨r2, hr2⟩ : ∃ r, r = (stepT r1).2 := ⟨_, rfl⟩
  have hs2 : r2.1.size ≤ 140737488351232 := by rw [hr2]; exact Nat.le_trans (stepT_shrinks r1) hs1
  obtain ⟨x2, hx2⟩ : ∃ x, x = (stepN r2).1 := ⟨_, rfl⟩
  obtain ⟨r3, hr3⟩ : ∃ r, r = (stepN r2).2 := ⟨_, rfl⟩
  have hfin : pairR r0 = (⟨x0, x1, x2⟩, r3) := by subst hx2 hr3 hx1 hr2 hx0 hr1; rfl
  rw [hfin]
  have hba : Below w.heap.size w (w.alloc (.cells #[.string ⟨#[]⟩, .string ⟨#[]⟩, .int .i64 0] 90)) := (Below.refl _ _).alloc (Nat.le_refl _) _
  have HX0 : Hid ((w.alloc (.cells #[.string ⟨#[]⟩, .string ⟨#[]⟩, .int .i64 0] 90)).heap[w.heap.size]? = some (.cells #[.string ⟨#[]⟩, .string ⟨#[]⟩, .int .i64 0] 90 (0, 0))) := heap_alloc_new w _
  have hw0 : (w.alloc (.cells #[.string ⟨#[]⟩, .string ⟨#[]⟩, .int .i64 0] 90)).heap.size = w.heap.size + 1 := by simp
  have HR0 := ghid (hr.below hba)
  have HT0 := ghid (TouchG.of_below hba (Nat.le_refl _) (fun k => k = rb))
  have hne : rb ≠ w.heap.size := by omega
  have CC0 : Hid (∀ u, IsRs rb r0 u → Calls Tryz.prog 72 #[.pointer (some ⟨rb, 0, none⟩)] u fun e w' => ∃ v, e = .returned v ∧ IsRs rb r1 w' ∧ NewR u.heap.size w' (fun u => TextV u u.heap.size v x0) ∧ TouchG u w' (fun k => k = rb)) := by unfold Hid; rw [hr1, hx0]; exact fun u hu => rsText_any rb r0 u hs0 hu
  have CC1 : Hid (∀ u, IsRs rb r1 u → Calls Tryz.prog 72 #[.pointer (some ⟨rb, 0, none⟩)] u fun e w' => ∃ v, e = .returned v ∧ IsRs rb r2 w' ∧ NewR u.heap.size w' (fun u => TextV u u.heap.size v x1) ∧ TouchG u w' (fun k => k = rb)) := by unfold Hid; rw [hr2, hx1]; exact fun u hu => rsText_any rb r1 u hs1 hu
  have CC2 : Hid (∀ u, IsRs rb r2 u → Calls Tryz.prog 38 #[.pointer (some ⟨rb, 0, none⟩)] u fun e w' => ∃ v, e = .returned v ∧ IsRs rb r3 w' ∧ NewR u.heap.size w' (fun u => IntV u u.heap.size v x2) ∧ TouchG u w' (fun k => k = rb)) := by unfold Hid; rw [hr3, hx2]; exact fun u hu => rsNumber_any rb r2 u hs2 hu
  clear hx0 hr1 hx1 hr2 hx2 hr3 hs0 hs1 hs2 hfin hr hba
  go_enter Tryz.func42, Tryz.ntmps42
  go_wp2_with fail
  refine (CC0.out _ HR0.out).mono ?_
  rintro e w1 ⟨v0, rfl, hr', hn', ht'⟩
  have hq0 : x0.size ≤ 140737488351232 := hn'.now.2
  obtain rfl : v0 = .string x0 := hn'.now.1
  have hz1 := ht'.size
  have HX1 : Hid (w1.heap[w.heap.size]? = some (.cells #[.string ⟨#[]⟩, .string ⟨#[]⟩, .int .i64 0] 90 (0, 0))) := (ht'.block _ (by omega) (fun e => hne e.symm)).trans HX0.out
  have HR1 := ghid hr'
  have HT1 := ghid (HT0.out.trans ht' (fun _ _ h => h))
  clear hr' hn' ht'
  go_wp2_with fail
  refine (CC1.out _ HR1.out).mono ?_
  rintro e w2 ⟨v1, rfl, hr', hn', ht'⟩
  have hq1 : x1.size ≤ 140737488351232 := hn'.now.2
  obtain rfl : v1 = .string x1 := hn'.now.1
  have hz2 := ht'.size
  have HX2 : Hid (w2.heap[w.heap.size]? = some (.cells #[.string ⟨#[]⟩, .string ⟨#[]⟩, .int .i64 0] 90 (0, 0))) := (ht'.block _ (by omega) (fun e => hne e.symm)).trans HX1.out
  have HR2 := ghid hr'
  have HT2 := ghid (HT1.out.trans ht' (fun _ _ h => h))
  clear hr' hn' ht'
  go_wp2_with fail
  refine (CC2.out _ HR2.out).mono ?_
  rintro e w3 ⟨v2, rfl, hr', hn', ht'⟩
  obtain rfl : v2 = .int .i64 x2 := hn'.now
  have hz3 := ht'.size
  have HX3 : Hid (w3.heap[w.heap.size]? = some (.cells #[.string ⟨#[]⟩, .string ⟨#[]⟩, .int .i64 0] 90 (0, 0))) := (ht'.block _ (by omega) (fun e => hne e.symm)).trans HX2.out
  have HR3 := ghid hr'
  have HT3 := ghid (HT2.out.trans ht' (fun _ _ h => h))
  clear hr' hn' ht'
  have c0 : w3.cell? ⟨w.heap.size, 0, none⟩ = some (.string ⟨#[]⟩) := Lib.cell_of_heap HX3.out 0
  have c1 : w3.cell? ⟨w.heap.size, 1, none⟩ = some (.string ⟨#[]⟩) := Lib.cell_of_heap HX3.out 1
  have c2 : w3.cell? ⟨w.heap.size, 2, none⟩ = some (.int .i64 0) := Lib.cell_of_heap HX3.out 2
  have cf : ∀ j, w3.frozen? ⟨w.heap.size, j, none⟩ = false := fun j => Lib.frozen_of_heap HX3.out j
  have HTA := ghid (rtouchz3 HT3.out (.inr (Nat.le_refl _)) (.string x0) (.string x1) (.int .i64 x2))
  have HTB := ghid (rtouchz3 (TouchG.refl w3 (fun k => k = w.heap.size)) (.inl rfl) (.string x0) (.string x1) (.int .i64 x2))
  go_wp2
  refine bodyPost_ret (v := .agg #[.string x0, .string x1, .int .i64 x2]) (by simp [results, Tryz.results42, go_sem, c0, c1, c2]) rfl ?_
  refine ⟨_, rfl, rs_touch HR3.out HTB.out hne, ?_, HTA.out⟩
  exact NewR.of _ _ fun _ => ⟨rfl, hq0, hq1⟩

set_option maxRecDepth 100000 in
set_option maxHeartbeats 1600000 in
theorem rs_lock : RdC 40 lockR LockV := by
  intro rb r0 w hs0 hr
  have hlr := hr.lt
  obtain ⟨x0, hx0⟩ : ∃ x, x = (stepT r0).1 := ⟨_, rfl⟩
  obtain ⟨r1, hr1⟩ : ∃ r, r = (stepT r0).2 := ⟨_, rfl⟩
  have hs1 : r1.1.size ≤ 140737488351232 := by rw [hr1]; exact Nat.le_trans (stepT_shrinks r0) hs0
  obtain ⟨x1, hx1⟩ : ∃ x, x = (stepN r1).1 := ⟨_, rfl⟩
  obtain ⟨r2, hr2⟩ : ∃ r, r = (stepN r1).2 := ⟨_, rfl⟩
  have hs2 : r2.1.size ≤ 140737488351232 := by rw [hr2]; exact Nat.le_trans (stepN_shrinks r1) hs1
  obtain ⟨x2, hx2⟩ : ∃ x, x = (stepN r2).1 := ⟨_, rfl⟩
  obtain ⟨r3, hr3⟩ : ∃ r, r = (stepN r2).2 := ⟨_, rfl⟩
  have hs3 : r3.1.size ≤ 140737488351232 := by rw [hr3]; exact Nat.le_trans (stepN_shrinks r2) hs2
  obtain ⟨x3, hx3⟩ : ∃ x, x = (listR 3 stepN r3).1 := ⟨_, rfl⟩
  obtain ⟨r4, hr4⟩ : ∃ r, r = (listR 3 stepN r3).2 := ⟨_, rfl⟩
  have hfin : lockR r0 = (⟨x0, x1, x2, x3⟩, r4) := by subst hx3 hr4 hx2 hr3 hx1 hr2 hx0 hr1; rfl
  rw [hfin]
  have hba : Below w.heap.size w (w.alloc (.cells #[.string ⟨#[]⟩, .int .i64 0, .int .i64 0, .slice none 0 0] 86)) := (Below.refl _ _).alloc (Nat.le_refl _) _
  have HX0 : Hid ((w.alloc (.cells #[.string ⟨#[]⟩, .int .i64 0, .int .i64 0, .slice none 0 0] 86)).heap[w.heap.size]? = some (.cells #[.string ⟨#[]⟩, .int .i64 0, .int .i64 0, .slice none 0 0] 86 (0, 0))) := heap_alloc_new w _
  have hw0 : (w.alloc (.cells #[.string ⟨#[]⟩, .int .i64 0, .int .i64 0, .slice none 0 0] 86)).heap.size = w.heap.size + 1 := by simp
  have HR0 := ghid (hr.below hba)
  have HT0 := ghid (TouchG.of_below hba (Nat.le_refl _) (fun k => k = rb))
  have hne : rb ≠ w.heap.size := by omega
  have CC0 : Hid (∀ u, IsRs rb r0 u → Calls Tryz.prog 72 #[.pointer (some ⟨rb, 0, none⟩)] u fun e w' => ∃ v, e = .returned v ∧ IsRs rb r1 w' ∧ NewR u.heap.size w' (fun u => TextV u u.heap.size v x0) ∧ TouchG u w' (fun k => k = rb)) := by unfold Hid; rw [hr1, hx0]; exact fun u hu => rsText_any rb r0 u hs0 hu
  have CC1 : Hid (∀ u, IsRs rb r1 u → Calls Tryz.prog 38 #[.pointer (some ⟨rb, 0, none⟩)] u fun e w' => ∃ v, e = .returned v ∧ IsRs rb r2 w' ∧ NewR u.heap.size w' (fun u => IntV u u.heap.size v x1) ∧ TouchG u w' (fun k => k = rb)) := by unfold Hid; rw [hr2, hx1]; exact fun u hu => rsNumber_any rb r1 u hs1 hu
  have CC2 : Hid (∀ u, IsRs rb r2 u → Calls Tryz.prog 38 #[.pointer (some ⟨rb, 0, none⟩)] u fun e w' => ∃ v, e = .returned v ∧ IsRs rb r3 w' ∧ NewR u.heap.size w' (fun u => IntV u u.heap.size v x2) ∧ TouchG u w' (fun k => k = rb)) := by unfold Hid; rw [hr3, hx2]; exact fun u hu => rsNumber_any rb r2 u hs2 hu
  have CC3 : Hid (∀ u, IsRs rb r3 u → Calls Tryz.prog 73 #[.pointer (some ⟨rb, 0, none⟩), .int .i64 3, .func (.func 38) #[.pointer (some ⟨rb, 0, none⟩)] #[]] u fun e w' => ∃ v, e = .returned v ∧ IsRs rb r4 w' ∧ NewR u.heap.size w' (fun u => IntsR u u.heap.size v x3) ∧ TouchG u w' (fun k => k = rb)) := by unfold Hid; rw [hr4, hx3]; exact fun u hu => rlistInt _ stepN 3 (by decide) (by decide) rsNumber_any stepN_shrinks rs_number_enters rb r3 u hs3 hu
  clear hx0 hr1 hx1 hr2 hx2 hr3 hx3 hr4 hs0 hs1 hs2 hs3 hfin hr hba
  go_enter Tryz.func40, Tryz.ntmps40
  go_wp2_with fail
  refine (CC0.out _ HR0.out).mono ?_
  rintro e w1 ⟨v0, rfl, hr', hn', ht'⟩
  have hq0 : x0.size ≤ 140737488351232 := hn'.now.2
  obtain rfl : v0 = .string x0 := hn'.now.1
  have hz1 := ht'.size
  have HX1 : Hid (w1.heap[w.heap.size]? = some (.cells #[.string ⟨#[]⟩, .int .i64 0, .int .i64 0, .slice none 0 0] 86 (0, 0))) := (ht'.block _ (by omega) (fun e => hne e.symm)).trans HX0.out
  have HR1 := ghid hr'
  have HT1 := ghid (HT0.out.trans ht' (fun _ _ h => h))
  clear hr' hn' ht'
  go_wp2_with fail
  refine (CC1.out _ HR1.out).mono ?_
  rintro e w2 ⟨v1, rfl, hr', hn', ht'⟩
  obtain rfl : v1 = .int .i64 x1 := hn'.now
  have hz2 := ht'.size
  have HX2 : Hid (w2.heap[w.heap.size]? = some (.cells #[.string ⟨#[]⟩, .int .i64 0, .int .i64 0, .slice none 0 0] 86 (0, 0))) := (ht'.block _ (by omega) (fun e => hne e.symm)).trans HX1.out
  have HR2 := ghid hr'
  have HT2 := ghid (HT1.out.trans ht' (fun _ _ h => h))
  clear hr' hn' ht'
  go_wp2_with fail
  refine (CC2.out _ HR2.out).mono ?_
  rintro e w3 ⟨v2, rfl, hr', hn', ht'⟩
  obtain rfl : v2 = .int .i64 x2 := hn'.now
  have hz3 := ht'.size
  have HX3 : Hid (w3.heap[w.heap.size]? = some (.cells #[.string ⟨#[]⟩, .int .i64 0, .int .i64 0, .slice none 0 0] 86 (0, 0))) := (ht'.block _ (by omega) (fun e => hne e.symm)).trans HX2.out
  have HR3 := ghid hr'
  have HT3 := ghid (HT2.out.trans ht' (fun _ _ h => h))
  clear hr' hn' ht'
  go_wp2_with fail
  refine (CC3.out _ HR3.out).mono ?_
  rintro e w4 ⟨v3, rfl, hr', hn', ht'⟩
  obtain ⟨lo3, lc3, rfl, -⟩ := id hn'.now
  have hz4 := ht'.size
  have HX4 : Hid (w4.heap[w.heap.size]? = some (.cells #[.string ⟨#[]⟩, .int .i64 0, .int .i64 0, .slice none 0 0] 86 (0, 0))) := (ht'.block _ (by omega) (fun e => hne e.symm)).trans HX3.out
  have HN3_4 := ghid (hn'.mono (by omega : w.heap.size + 1 ≤ _))
  have HR4 := ghid hr'
  have HT4 := ghid (HT3.out.trans ht' (fun _ _ h => h))
  clear hr' hn' ht'
  have c0 : w4.cell? ⟨w.heap.size, 0, none⟩ = some (.string ⟨#[]⟩) := Lib.cell_of_heap HX4.out 0
  have c1 : w4.cell? ⟨w.heap.size, 1, none⟩ = some (.int .i64 0) := Lib.cell_of_heap HX4.out 1
  have c2 : w4.cell? ⟨w.heap.size, 2, none⟩ = some (.int .i64 0) := Lib.cell_of_heap HX4.out 2
  have c3 : w4.cell? ⟨w.heap.size, 3, none⟩ = some (.slice none 0 0) := Lib.cell_of_heap HX4.out 3
  have cf : ∀ j, w4.frozen? ⟨w.heap.size, j, none⟩ = false := fun j => Lib.frozen_of_heap HX4.out j
  have HTA := ghid (rtouchz4 HT4.out (.inr (Nat.le_refl _)) (.string x0) (.int .i64 x1) (.int .i64 x2) (.slice lo3 x3.length lc3))
  have HTB := ghid (rtouchz4 (TouchG.refl w4 (fun k => k = w.heap.size)) (.inl rfl) (.string x0) (.int .i64 x1) (.int .i64 x2) (.slice lo3 x3.length lc3))
  go_wp2
  refine bodyPost_ret (v := .agg #[.string x0, .int .i64 x1, .int .i64 x2, .slice lo3 x3.length lc3]) (by simp [results, Tryz.results40, go_sem, c0, c1, c2, c3]) rfl ?_
  refine ⟨_, rfl, rs_touch HR4.out HTB.out hne, ?_, HTA.out⟩
  exact ((HN3_4.out.touch HTB.out (fun k _ h => by omega)).mono (by omega)).imp fun u hu => ⟨_, rfl, hu, hq0⟩

set_option maxRecDepth 100000 in
set_option maxHeartbeats 1600000 in
theorem rs_session : RdC 44 sessR SessV := by
  intro rb r0 w hs0 hr
  have hlr := hr.lt
  obtain ⟨x0, hx0⟩ : ∃ x, x = (stepN r0).1 := ⟨_, rfl⟩
  obtain ⟨r1, hr1⟩ : ∃ r, r = (stepN r0).2 := ⟨_, rfl⟩
  have hs1 : r1.1.size ≤ 140737488351232 := by rw [hr1]; exact Nat.le_trans (stepN_shrinks r0) hs0
  obtain ⟨x1, hx1⟩ : ∃ x, x = (stepN r1).1 := ⟨_, rfl⟩
  obtain ⟨r2, hr2⟩ : ∃ r, r = (stepN r1).2 := ⟨_, rfl⟩
  have hs2 : r2.1.size ≤ 140737488351232 := by rw [hr2]; exact Nat.le_trans (stepN_shrinks r1) hs1
  obtain ⟨x2, hx2⟩ : ∃ x, x = (stepN r2).1 := ⟨_, rfl⟩
  obtain ⟨r3, hr3⟩ : ∃ r, r = (stepN r2).2 := ⟨_, rfl⟩
  have hs3 : r3.1.size ≤ 140737488351232 := by rw [hr3]; exact Nat.le_trans (stepN_shrinks r2) hs2
  obtain ⟨x3, hx3⟩ : ∃ x, x = (stepN r3).1 := ⟨_, rfl⟩
  obtain ⟨r4, hr4⟩ : ∃ r, r = (stepN r3).2 := ⟨_, rfl⟩
  have hs4 : r4.1.size ≤ 140737488351232 := by rw [hr4]; exact Nat.le_trans (stepN_shrinks r3) hs3
  obtain ⟨x4, hx4⟩ : ∃ x, x = (listR 4 keptR r4).1 := ⟨_, rfl⟩
  obtain ⟨r5, hr5⟩ : ∃ r, r = (listR 4 keptR r4).2 := ⟨_, rfl⟩
  have hfin : sessR r0 = (⟨x0, x1, x2, x3, x4⟩, r5) := by subst hx4 hr5 hx3 hr4 hx2 hr3 hx1 hr2 hx0 hr1; rfl
  rw [hfin]
  have hba : Below w.heap.size w (w.alloc (.cells #[.int .i64 0, .int .i64 0, .int .i64 0, .int .i64 0, .slice none 0 0] 95)) := (Below.refl _ _).alloc (Nat.le_refl _) _
  have HX0 : Hid ((w.alloc (.cells #[.int .i64 0, .int .i64 0, .int .i64 0, .int .i64 0, .slice none 0 0] 95)).heap[w.heap.size]? = some (.cells #[.int .i64 0, .int .i64 0, .int .i64 0, .int .i64 0, .slice none 0 0] 95 (0, 0))) := heap_alloc_new w _
  have hw0 : (w.alloc (.cells #[.int .i64 0, .int .i64 0, .int .i64 0, .int .i64 0, .slice none 0 0] 95)).heap.size = w.heap.size + 1 := by simp
  have HR0 := ghid (hr.below hba)
  have HT0 := ghid (TouchG.of_below hba (Nat.le_refl _) (fun k => k = rb))
  have hne : rb ≠ w.heap.size := by omega
  have CC0 : Hid (∀ u, IsRs rb r0 u → Calls Tryz.prog 38 #[.pointer (some ⟨rb, 0, none⟩)] u fun e w' => ∃ v, e = .returned v ∧ IsRs rb r1 w' ∧ NewR u.heap.size w' (fun u => IntV u u.heap.size v x0) ∧ TouchG u w' (fun k => k = rb)) := by unfold Hid; rw [hr1, hx0]; exact fun u hu => rsNumber_any rb r0 u hs0 hu
  have CC1 : Hid (∀ u, IsRs rb r1 u → Calls Tryz.prog 38 #[.pointer (some ⟨rb, 0, none⟩)] u fun e w' => ∃ v, e = .returned v ∧ IsRs rb r2 w' ∧ NewR u.heap.size w' (fun u => IntV u u.heap.size v x1) ∧ TouchG u w' (fun k => k = rb)) := by unfold Hid; rw [hr2, hx1]; exact fun u hu => rsNumber_any rb r1 u hs1 hu
  have CC2 : Hid (∀ u, IsRs rb r2 u → Calls Tryz.prog 38 #[.pointer (some ⟨rb, 0, none⟩)] u fun e w' => ∃ v, e = .returned v ∧ IsRs rb r3 w' ∧ NewR u.heap.size w' (fun u => IntV u u.heap.size v x2) ∧ TouchG u w' (fun k => k = rb)) := by unfold Hid; rw [hr3, hx2]; exact fun u hu => rsNumber_any rb r2 u hs2 hu
  have CC3 : Hid (∀ u, IsRs rb r3 u → Calls Tryz.prog 38 #[.pointer (some ⟨rb, 0, none⟩)] u fun e w' => ∃ v, e = .returned v ∧ IsRs rb r4 w' ∧ NewR u.heap.size w' (fun u => IntV u u.heap.size v x3) ∧ TouchG u w' (fun k => k = rb)) := by unfold Hid; rw [hr4, hx3]; exact fun u hu => rsNumber_any rb r3 u hs3 hu
  have CC4 : Hid (∀ u, IsRs rb r4 u → Calls Tryz.prog 74 #[.pointer (some ⟨rb, 0, none⟩), .int .i64 4, .func (.func 75) #[.pointer (some ⟨rb, 0, none⟩)] #[]] u fun e w' => ∃ v, e = .returned v ∧ IsRs rb r5 w' ∧ NewR u.heap.size w' (fun u => KeptsR u u.heap.size v x4) ∧ TouchG u w' (fun k => k = rb)) := by unfold Hid; rw [hr5, hx4]; exact fun u hu => rlistKept _ keptR 4 (by decide) (by decide) rs_kept keptR_shrinks rs_kept_enters rb r4 u hs4 hu
  clear hx0 hr1 hx1 hr2 hx2 hr3 hx3 hr4 hx4 hr5 hs0 hs1 hs2 hs3 hs4 hfin hr hba
  go_enter Tryz.func44, Tryz.ntmps44
  go_wp2_with fail
  refine (CC0.out _ HR0.out).mono ?_
  rintro e w1 ⟨v0, rfl, hr', hn', ht'⟩
  obtain rfl : v0 = .int .i64 x0 := hn'.now
  have hz1 := ht'.size
  have HX1 : Hid (w1.heap[w.heap.size]? = some (.cells #[.int .i64 0, .int .i64 0, .int .i64 0, .int .i64 0, .slice none 0 0] 95 (0, 0))) := (ht'.block _ (by omega) (fun e => hne e.symm)).trans HX0.out
  have HR1 := ghid hr'
  have HT1 := ghid (HT0.out.trans ht' (fun _ _ h => h))
  clear hr' hn' ht'
  go_wp2_with fail
  refine (CC1.out _ HR1.out).mono ?_
  rintro e w2 ⟨v1, rfl, hr', hn', ht'⟩
  obtain rfl : v1 = .int .i64 x1 := hn'.now
  have hz2 := ht'.size
  have HX2 : Hid (w2.heap[w.heap.size]? = some (.cells #[.int .i64 0, .int .i64 0, .int .i64 0, .int .i64 0, .slice none 0 0] 95 (0, 0))) := (ht'.block _ (by omega) (fun e => hne e.symm)).trans HX1.out
  have HR2 := ghid hr'
  have HT2 := ghid (HT1.out.trans ht' (fun _ _ h => h))
  clear hr' hn' ht'
  go_wp2_with fail
  refine (CC2.out _ HR2.out).mono ?_
  rintro e w3 ⟨v2, rfl, hr', hn', ht'⟩
  obtain rfl : v2 = .int .i64 x2 := hn'.now
  have hz3 := ht'.size
  have HX3 : Hid (w3.heap[w.heap.size]? = some (.cells #[.int .i64 0, .int .i64 0, .int .i64 0, .int .i64 0, .slice none 0 0] 95 (0, 0))) := (ht'.block _ (by omega) (fun e => hne e.symm)).trans HX2.out
  have HR3 := ghid hr'
  have HT3 := ghid (HT2.out.trans ht' (fun _ _ h => h))
  clear hr' hn' ht'
  go_wp2_with fail
  refine (CC3.out _ HR3.out).mono ?_
  rintro e w4 ⟨v3, rfl, hr', hn', ht'⟩
  obtain rfl : v3 = .int .i64 x3 := hn'.now
  have hz4 := ht'.size
  have HX4 : Hid (w4.heap[w.heap.size]? = some (.cells #[.int .i64 0, .int .i64 0, .int .i64 0, .int .i64 0, .slice none 0 0] 95 (0, 0))) := (ht'.block _ (by omega) (fun e => hne e.symm)).trans HX3.out
  have HR4 := ghid hr'
  have HT4 := ghid (HT3.out.trans ht' (fun _ _ h => h))
  clear hr' hn' ht'
  go_wp2_with fail
  refine (CC4.out _ HR4.out).mono ?_
  rintro e w5 ⟨v4, rfl, hr', hn', ht'⟩
  obtain ⟨lo4, lc4, rfl, -⟩ := id hn'.now
  have hz5 := ht'.size
  have HX5 : Hid (w5.heap[w.heap.size]? = some (.cells #[.int .i64 0, .int .i64 0, .int .i64 0, .int .i64 0, .slice none 0 0] 95 (0, 0))) := (ht'.block _ (by omega) (fun e => hne e.symm)).trans HX4.out
  have HN4_5 := ghid (hn'.mono (by omega : w.heap.size + 1 ≤ _))
  have HR5 := ghid hr'
  have HT5 := ghid (HT4.out.trans ht' (fun _ _ h => h))
  clear hr' hn' ht'
  have c0 : w5.cell? ⟨w.heap.size, 0, none⟩ = some (.int .i64 0) := Lib.cell_of_heap HX5.out 0
  have c1 : w5.cell? ⟨w.heap.size, 1, none⟩ = some (.int .i64 0) := Lib.cell_of_heap HX5.out 1
  have c2 : w5.cell? ⟨w.heap.size, 2, none⟩ = some (.int .i64 0) := Lib.cell_of_heap HX5.out 2
  have c3 : w5.cell? ⟨w.heap.size, 3, none⟩ = some (.int .i64 0) := Lib.cell_of_heap HX5.out 3
  have c4 : w5.cell? ⟨w.heap.size, 4, none⟩ = some (.slice none 0 0) := Lib.cell_of_heap HX5.out 4
  have cf : ∀ j, w5.frozen? ⟨w.heap.size, j, none⟩ = false := fun j => Lib.frozen_of_heap HX5.out j
  have HTA := ghid (rtouchz5 HT5.out (.inr (Nat.le_refl _)) (.int .i64 x0) (.int .i64 x1) (.int .i64 x2) (.int .i64 x3) (.slice lo4 x4.length lc4))
  have HTB := ghid (rtouchz5 (TouchG.refl w5 (fun k => k = w.heap.size)) (.inl rfl) (.int .i64 x0) (.int .i64 x1) (.int .i64 x2) (.int .i64 x3) (.slice lo4 x4.length lc4))
  go_wp2
  refine bodyPost_ret (v := .agg #[.int .i64 x0, .int .i64 x1, .int .i64 x2, .int .i64 x3, .slice lo4 x4.length lc4]) (by simp [results, Tryz.results44, go_sem, c0, c1, c2, c3, c4]) rfl ?_
  refine ⟨_, rfl, rs_touch HR5.out HTB.out hne, ?_, HTA.out⟩
  exact ((HN4_5.out.touch HTB.out (fun k _ h => by omega)).mono (by omega)).imp fun u hu => ⟨_, rfl, hu⟩

set_option maxRecDepth 100000 in
set_option maxHeartbeats 1600000 in
theorem rs_state : RdC 18 snapR StateV := by
  intro rb r0 w hs0 hr
  have hlr := hr.lt
  obtain ⟨x0, hx0⟩ : ∃ x, x = (stepN r0).1 := ⟨_, rfl⟩
  obtain ⟨r1, hr1⟩ : ∃ r, r = (stepN r0).2 := ⟨_, rfl⟩
  have hs1 : r1.1.size ≤ 140737488351232 := by rw [hr1]; exact Nat.le_trans (stepN_shrinks r0) hs0
  obtain ⟨x1, hx1⟩ : ∃ x, x = (listR 5 lockR r1).1 := ⟨_, rfl⟩
  obtain ⟨r2, hr2⟩ : ∃ r, r = (listR 5 lockR r1).2 := ⟨_, rfl⟩
  have hs2 : r2.1.size ≤ 140737488351232 := by rw [hr2]; exact Nat.le_trans ((listR_shrinks lockR_shrinks 5 (by decide)) r1) hs1
  obtain ⟨x2, hx2⟩ : ∃ x, x = (listR 5 pairR r2).1 := ⟨_, rfl⟩
  obtain ⟨r3, hr3⟩ : ∃ r, r = (listR 5 pairR r2).2 := ⟨_, rfl⟩
  have hs3 : r3.1.size ≤ 140737488351232 := by rw [hr3]; exact Nat.le_trans ((listR_shrinks pairR_shrinks 5 (by decide)) r2) hs2
  obtain ⟨x3, hx3⟩ : ∃ x, x = (listR 4 sessR r3).1 := ⟨_, rfl⟩
  obtain ⟨r4, hr4⟩ : ∃ r, r = (listR 4 sessR r3).2 := ⟨_, rfl⟩
  have hfin : snapR r0 = (⟨x0, x1, x2, x3⟩, r4) := by subst hx3 hr4 hx2 hr3 hx1 hr2 hx0 hr1; rfl
  rw [hfin]
  have hba : Below w.heap.size w (w.alloc (.cells #[.int .i64 0, .slice none 0 0, .slice none 0 0, .slice none 0 0] 27)) := (Below.refl _ _).alloc (Nat.le_refl _) _
  have HX0 : Hid ((w.alloc (.cells #[.int .i64 0, .slice none 0 0, .slice none 0 0, .slice none 0 0] 27)).heap[w.heap.size]? = some (.cells #[.int .i64 0, .slice none 0 0, .slice none 0 0, .slice none 0 0] 27 (0, 0))) := heap_alloc_new w _
  have hw0 : (w.alloc (.cells #[.int .i64 0, .slice none 0 0, .slice none 0 0, .slice none 0 0] 27)).heap.size = w.heap.size + 1 := by simp
  have HR0 := ghid (hr.below hba)
  have HT0 := ghid (TouchG.of_below hba (Nat.le_refl _) (fun k => k = rb))
  have hne : rb ≠ w.heap.size := by omega
  have CC0 : Hid (∀ u, IsRs rb r0 u → Calls Tryz.prog 38 #[.pointer (some ⟨rb, 0, none⟩)] u fun e w' => ∃ v, e = .returned v ∧ IsRs rb r1 w' ∧ NewR u.heap.size w' (fun u => IntV u u.heap.size v x0) ∧ TouchG u w' (fun k => k = rb)) := by unfold Hid; rw [hr1, hx0]; exact fun u hu => rsNumber_any rb r0 u hs0 hu
  have CC1 : Hid (∀ u, IsRs rb r1 u → Calls Tryz.prog 39 #[.pointer (some ⟨rb, 0, none⟩), .int .i64 5, .func (.func 40) #[.pointer (some ⟨rb, 0, none⟩)] #[]] u fun e w' => ∃ v, e = .returned v ∧ IsRs rb r2 w' ∧ NewR u.heap.size w' (fun u => LocksR u u.heap.size v x1) ∧ TouchG u w' (fun k => k = rb)) := by unfold Hid; rw [hr2, hx1]; exact fun u hu => rlistLock _ lockR 5 (by decide) (by decide) rs_lock lockR_shrinks rs_lock_enters rb r1 u hs1 hu
  have CC2 : Hid (∀ u, IsRs rb r2 u → Calls Tryz.prog 41 #[.pointer (some ⟨rb, 0, none⟩), .int .i64 5, .func (.func 42) #[.pointer (some ⟨rb, 0, none⟩)] #[]] u fun e w' => ∃ v, e = .returned v ∧ IsRs rb r3 w' ∧ NewR u.heap.size w' (fun u => PairsR u u.heap.size v x2) ∧ TouchG u w' (fun k => k = rb)) := by unfold Hid; rw [hr3, hx2]; exact fun u hu => rlistPair _ pairR 5 (by decide) (by decide) rs_pair pairR_shrinks rs_pair_enters rb r2 u hs2 hu
  have CC3 : Hid (∀ u, IsRs rb r3 u → Calls Tryz.prog 43 #[.pointer (some ⟨rb, 0, none⟩), .int .i64 4, .func (.func 44) #[.pointer (some ⟨rb, 0, none⟩)] #[]] u fun e w' => ∃ v, e = .returned v ∧ IsRs rb r4 w' ∧ NewR u.heap.size w' (fun u => SessR u u.heap.size v x3) ∧ TouchG u w' (fun k => k = rb)) := by unfold Hid; rw [hr4, hx3]; exact fun u hu => rlistSess _ sessR 4 (by decide) (by decide) rs_session sessR_shrinks rs_session_enters rb r3 u hs3 hu
  clear hx0 hr1 hx1 hr2 hx2 hr3 hx3 hr4 hs0 hs1 hs2 hs3 hfin hr hba
  go_enter Tryz.func18, Tryz.ntmps18
  go_wp2_with fail
  refine (CC0.out _ HR0.out).mono ?_
  rintro e w1 ⟨v0, rfl, hr', hn', ht'⟩
  obtain rfl : v0 = .int .i64 x0 := hn'.now
  have hz1 := ht'.size
  have HX1 : Hid (w1.heap[w.heap.size]? = some (.cells #[.int .i64 0, .slice none 0 0, .slice none 0 0, .slice none 0 0] 27 (0, 0))) := (ht'.block _ (by omega) (fun e => hne e.symm)).trans HX0.out
  have HR1 := ghid hr'
  have HT1 := ghid (HT0.out.trans ht' (fun _ _ h => h))
  clear hr' hn' ht'
  go_wp2_with fail
  refine (CC1.out _ HR1.out).mono ?_
  rintro e w2 ⟨v1, rfl, hr', hn', ht'⟩
  obtain ⟨lo1, lc1, rfl, -⟩ := id hn'.now
  have hz2 := ht'.size
  have HX2 : Hid (w2.heap[w.heap.size]? = some (.cells #[.int .i64 0, .slice none 0 0, .slice none 0 0, .slice none 0 0] 27 (0, 0))) := (ht'.block _ (by omega) (fun e => hne e.symm)).trans HX1.out
  have HN1_2 := ghid (hn'.mono (by omega : w.heap.size + 1 ≤ _))
  have HR2 := ghid hr'
  have HT2 := ghid (HT1.out.trans ht' (fun _ _ h => h))
  clear hr' hn' ht'
  go_wp2_with fail
  refine (CC2.out _ HR2.out).mono ?_
  rintro e w3 ⟨v2, rfl, hr', hn', ht'⟩
  obtain ⟨lo2, lc2, rfl, -⟩ := id hn'.now
  have hz3 := ht'.size
  have HX3 : Hid (w3.heap[w.heap.size]? = some (.cells #[.int .i64 0, .slice none 0 0, .slice none 0 0, .slice none 0 0] 27 (0, 0))) := (ht'.block _ (by omega) (fun e => hne e.symm)).trans HX2.out
  have HN1_3 := ghid (HN1_2.out.touch ht' (fun k _ h => by omega))
  have HN2_3 := ghid (hn'.mono (by omega : w.heap.size + 1 ≤ _))
  have HR3 := ghid hr'
  have HT3 := ghid (HT2.out.trans ht' (fun _ _ h => h))
  clear hr' hn' ht'
  go_wp2_with fail
  refine (CC3.out _ HR3.out).mono ?_
  rintro e w4 ⟨v3, rfl, hr', hn', ht'⟩
  obtain ⟨lo3, lc3, rfl, -⟩ := id hn'.now
  have hz4 := ht'.size
  have HX4 : Hid (w4.heap[w.heap.size]? = some (.cells #[.int .i64 0, .slice none 0 0, .slice none 0 0, .slice none 0 0] 27 (0, 0))) := (ht'.block _ (by omega) (fun e => hne e.symm)).trans HX3.out
  have HN1_4 := ghid (HN1_3.out.touch ht' (fun k _ h => by omega))
  have HN2_4 := ghid (HN2_3.out.touch ht' (fun k _ h => by omega))
  have HN3_4 := ghid (hn'.mono (by omega : w.heap.size + 1 ≤ _))
  have HR4 := ghid hr'
  have HT4 := ghid (HT3.out.trans ht' (fun _ _ h => h))
  clear hr' hn' ht'
  have c0 : w4.cell? ⟨w.heap.size, 0, none⟩ = some (.int .i64 0) := Lib.cell_of_heap HX4.out 0
  have c1 : w4.cell? ⟨w.heap.size, 1, none⟩ = some (.slice none 0 0) := Lib.cell_of_heap HX4.out 1
  have c2 : w4.cell? ⟨w.heap.size, 2, none⟩ = some (.slice none 0 0) := Lib.cell_of_heap HX4.out 2
  have c3 : w4.cell? ⟨w.heap.size, 3, none⟩ = some (.slice none 0 0) := Lib.cell_of_heap HX4.out 3
  have cf : ∀ j, w4.frozen? ⟨w.heap.size, j, none⟩ = false := fun j => Lib.frozen_of_heap HX4.out j
  have HTA := ghid (rtouchz4 HT4.out (.inr (Nat.le_refl _)) (.int .i64 x0) (.slice lo1 x1.length lc1) (.slice lo2 x2.length lc2) (.slice lo3 x3.length lc3))
  have HTB := ghid (rtouchz4 (TouchG.refl w4 (fun k => k = w.heap.size)) (.inl rfl) (.int .i64 x0) (.slice lo1 x1.length lc1) (.slice lo2 x2.length lc2) (.slice lo3 x3.length lc3))
  go_wp2
  refine bodyPost_ret (v := .agg #[.int .i64 x0, .slice lo1 x1.length lc1, .slice lo2 x2.length lc2, .slice lo3 x3.length lc3]) (by simp [results, Tryz.results18, go_sem, c0, c1, c2, c3]) rfl ?_
  refine ⟨_, rfl, rs_touch HR4.out HTB.out hne, ?_, HTA.out⟩
  have hA := (HN1_4.out.touch HTB.out (fun k _ h => by omega)).mono (Nat.le_succ _)
  have hB := (HN2_4.out.touch HTB.out (fun k _ h => by omega)).mono (Nat.le_succ _)
  have hC := (HN3_4.out.touch HTB.out (fun k _ h => by omega)).mono (Nat.le_succ _)
  exact fun u hu => ⟨_, _, _, rfl, hA u hu, hB u hu, hC u hu⟩

end Go.Proofs.YtpcacaohknkdlahGreatDoor

namespace Go.Proofs.YtpcacaohknkdlahGreatDoor

open Go.RowKit

set_option maxHeartbeats 800000 in
theorem unseal_long (s : ByteArray) (w : World) (hs : s.size ≤ 140737488351232) (h : 5000 < s.size) :
    Calls Tryz.prog 17 #[.string s] w fun e w' => e = .returned (.tuple #[.string ⟨#[]⟩, .int .i64 1]) ∧ Below w.heap.size w w' := by
  go_enter Tryz.func17, Tryz.ntmps17
  go_wp2
  go_ret2
  exact ⟨rfl, Below.refl _ _⟩

set_option maxHeartbeats 800000 in
theorem unseal_short (s : ByteArray) (w : World) (h : s.size < 4) :
    Calls Tryz.prog 17 #[.string s] w fun e w' => e = .returned (.tuple #[.string ⟨#[]⟩, .int .i64 5]) ∧ Below w.heap.size w w' := by
  go_enter Tryz.func17, Tryz.ntmps17
  go_wp2
  go_ret2
  exact ⟨rfl, Below.refl _ _⟩

set_option maxRecDepth 100000 in
set_option maxHeartbeats 1600000 in
theorem unseal_ok (s : ByteArray) (w : World) (h1 : s.size ≤ 5000) (h2 : 4 ≤ s.size) (h3 : sealOut (s.extract 0 (s.size - 4)) = s.extract (s.size - 4) s.size) :
    Calls Tryz.prog 17 #[.string s] w fun e w' => e = .returned (.tuple #[.string (s.extract 0 (s.size - 4)), .int .i64 0]) ∧ Below w.heap.size w w' := by
  have HT : Hid (((s.size : Int) - 4).toNat = s.size - 4) := (by omega : ((s.size : Int) - 4).toNat = s.size - 4)
  have hmx : (s.extract 0 (s.size - 4)).size ≤ maxLen := by rw [ByteArray.size_extract]; unfold maxLen; omega
  have CT : Hid (∀ u, Calls Tryz.prog 16 #[.string (s.extract 0 ((s.size : Int) - 4).toNat)] u fun e w' => e = .returned (.string (s.extract ((s.size : Int) - 4).toNat s.size)) ∧ Below u.heap.size u w') := by unfold Hid; rw [HT.out, ← h3]; exact fun u => seal_any _ u hmx
  clear h3
  have hi0 : (0 : Int) ≤ (s.size : Int) - 4 := by omega
  have hi1 : (s.size : Int) - 4 ≤ (s.size : Int) := by omega
  clear hmx
  go_enter Tryz.func17, Tryz.ntmps17
  go_wp2_with fail
  go_region_held3 (fun _ => True) (go_keep) (first
      | (go_at_call 16; refine (CT.out _).mono ?_; rintro e w1 ⟨rfl, hb1⟩))
  all_goals
    have HB1 : Hid (Below w.heap.size w w1) := ((Below.refl w.heap.size w).drew).trans hb1
    clear hb1 CT
    go_wp2
    go_ret2
    exact ⟨by rw [HT.out]; rfl, HB1.out⟩

set_option maxRecDepth 100000 in
set_option maxHeartbeats 1600000 in
theorem unseal_sum (s : ByteArray) (w : World) (h1 : s.size ≤ 5000) (h2 : 4 ≤ s.size) (h3 : sealOut (s.extract 0 (s.size - 4)) ≠ s.extract (s.size - 4) s.size) :
    Calls Tryz.prog 17 #[.string s] w fun e w' => e = .returned (.tuple #[.string ⟨#[]⟩, .int .i64 15]) ∧ Below w.heap.size w w' := by
  have HT : Hid (((s.size : Int) - 4).toNat = s.size - 4) := (by omega : ((s.size : Int) - 4).toNat = s.size - 4)
  have hmx : (s.extract 0 (s.size - 4)).size ≤ maxLen := by rw [ByteArray.size_extract]; unfold maxLen; omega
  obtain ⟨so, hso⟩ : ∃ so, so = sealOut (s.extract 0 (s.size - 4)) := ⟨_, rfl⟩
  have CS : Hid (∀ u, Calls Tryz.prog 16 #[.string (s.extract 0 (s.size - 4))] u fun e w' => e = .returned (.string so) ∧ Below u.heap.size u w') := by unfold Hid; rw [hso]; exact fun u => seal_any _ u hmx
  have CT : Hid (∀ u, Calls Tryz.prog 16 #[.string (s.extract 0 ((s.size : Int) - 4).toNat)] u fun e w' => e = .returned (.string so) ∧ Below u.heap.size u w') := by unfold Hid; rw [HT.out]; exact CS.out
  clear CS
  rw [← hso] at h3
  have hnq : (so.toList == (s.extract ((s.size : Int) - 4).toNat s.size).toList) = false := by
    rw [HT.out, beq_eq_false_iff_ne]
    intro e
    rw [ByteArray.toList_eq, ByteArray.toList_eq] at e
    exact h3 (bytes_ext e)
  clear h3 hso
  have hi0 : (0 : Int) ≤ (s.size : Int) - 4 := by omega
  have hi1 : (s.size : Int) - 4 ≤ (s.size : Int) := by omega
  clear hmx
  go_enter Tryz.func17, Tryz.ntmps17
  go_wp2_with fail
  go_region_held3 (fun _ => True) (go_keep) (first
      | (go_at_call 16; refine (CT.out _).mono ?_; rintro e w1 ⟨rfl, hb1⟩))
  all_goals
    have HB1 : Hid (Below w.heap.size w w1) := ((Below.refl w.heap.size w).drew).trans hb1
    clear hb1 CT
    go_wp2
    go_ret2
    exact ⟨rfl, HB1.out⟩

end Go.Proofs.YtpcacaohknkdlahGreatDoor

namespace Go.Proofs.YtpcacaohknkdlahGreatDoor

open Go.RowKit

theorem rs_str_ne {b : ByteArray} (h : b.size ≠ 0) : b.toList.isEmpty = false := by
  rw [ByteArray.toList_eq]
  cases hb : b.data.toList with
  | nil =>
    have : b.data.toList.length = b.size := by simp
    rw [hb] at this
    exact absurd this.symm h
  | cons x t => rfl

theorem rsEnd_any (rb : Nat) (r : ByteArray × Int) (w : World) (hr : IsRs rb r w) :
    Calls Tryz.prog 19 #[.pointer (some ⟨rb, 0, none⟩)] w fun x w' => x = .returned (.int .i64 (endE r)) ∧ w' = w := by
  have s0 : w.cell? ⟨rb, 0, none⟩ = some (.string r.1) := cell_of_row w rb 0 _ _ _ hr
  have s1 : w.cell? ⟨rb, 1, none⟩ = some (.int .i64 r.2) := cell_of_row w rb 1 _ _ _ hr
  clear hr
  unfold endE
  obtain ⟨s, e⟩ := r
  simp only at s0 s1 ⊢
  by_cases he : e = 0
  · subst he
    by_cases hz : s.size = 0
    · obtain rfl := size_zero hz
      rw [if_neg (fun h => h.2 hz)]
      clear hz
      go_enter Tryz.func19, Tryz.ntmps19
      go_wp2
      go_ret
      exact ⟨rfl, rfl⟩
    · rw [if_pos ⟨rfl, hz⟩]
      have hne := rs_str_ne hz
      clear hz
      go_enter Tryz.func19, Tryz.ntmps19
      go_wp2
      go_ret
      exact ⟨rfl, rfl⟩
  · rw [if_neg (fun h => he h.1)]
    have heb : (e == 0) = false := by simpa using he
    clear he
    go_enter Tryz.func19, Tryz.ntmps19
    go_wp2
    go_ret
    exact ⟨rfl, rfl⟩

/-- A state of nothing. -/
theorem state_nil (w : World) (B : Nat) : StateR w B (.agg #[.int .i64 0, .slice none 0 0, .slice none 0 0, .slice none 0 0]) ⟨0, [], [], []⟩ :=
  ⟨_, _, _, rfl, ⟨none, 0, rfl, Nat.le_refl _, by simp, fun _ => rfl, fun h => absurd h (by simp)⟩, PairsR.nil _ _, SessR.nil _ _⟩

theorem zbelow4 {B : Nat} {w0 w : World} (h : Below B w0 w) {b : Nat} (hb : B ≤ b) (a0 a1 a2 a3 : Value) : Below B w0 ((((w.setCell ⟨b, 0, none⟩ a0).setCell ⟨b, 1, none⟩ a1).setCell ⟨b, 2, none⟩ a2).setCell ⟨b, 3, none⟩ a3) :=
  (((h.setCell (by simpa using hb) a0).setCell (by simpa using hb) a1).setCell (by simpa using hb) a2).setCell (by simpa using hb) a3

/-- What unseal refuses: so Decode. -/
theorem decode_unsealed (t : ByteArray) (e0 : Int) (w : World) (he : e0 ≠ 0) (hu : ∀ u, Calls Tryz.prog 17 #[.string t] u fun e w' => e = .returned (.tuple #[.string ⟨#[]⟩, .int .i64 e0]) ∧ Below u.heap.size u w') :
    Calls Tryz.prog 8 #[.string t] w fun e w' => e = .returned (.tuple #[.agg #[.int .i64 0, .slice none 0 0, .slice none 0 0, .slice none 0 0], .int .i64 e0]) ∧ Below w.heap.size w w' := by
  have CU := ghid hu
  have heb : (e0 != 0) = true := by simpa using he
  have hb0 : Below w.heap.size w (w.alloc (.cells #[.int .i64 0, .slice none 0 0, .slice none 0 0, .slice none 0 0] 27)) := (Below.refl _ _).alloc (Nat.le_refl _) _
  have HX0 : Hid ((w.alloc (.cells #[.int .i64 0, .slice none 0 0, .slice none 0 0, .slice none 0 0] 27)).heap[w.heap.size]? = some (.cells #[.int .i64 0, .slice none 0 0, .slice none 0 0, .slice none 0 0] 27 (0, 0))) := heap_alloc_new w _
  have hz0 : (w.alloc (.cells #[.int .i64 0, .slice none 0 0, .slice none 0 0, .slice none 0 0] 27)).heap.size = w.heap.size + 1 := by simp
  have HB0 := ghid hb0
  clear hu he hb0
  go_enter Tryz.func8, Tryz.ntmps8
  go_wp2_with fail
  refine (CU.out _).mono ?_
  rintro e w1 ⟨rfl, hb1⟩
  have HX1 : Hid (w1.heap[w.heap.size]? = _) := (hb1.block _ (by omega)).trans HX0.out
  have HB1 := ghid (HB0.out.trans (hb1.mono HB0.out.size))
  obtain ⟨c0, c1, c2, c3, cf, -⟩ := state_cells HX1.out
  clear hb1 CU
  go_wp2
  refine bodyPost_ret (v := .tuple #[.agg #[.int .i64 0, .slice none 0 0, .slice none 0 0, .slice none 0 0], .int .i64 e0]) (by simp [results, Tryz.results8, go_sem, c0, c1, c2, c3]) rfl ?_
  exact ⟨rfl, zbelow4 HB1.out (Nat.le_refl _) _ _ _ _⟩

set_option maxRecDepth 100000 in
set_option maxHeartbeats 3200000 in
theorem decode_read (t body : ByteArray) (w : World) (hz : body.size ≤ 140737488351232) (hu : ∀ u, Calls Tryz.prog 17 #[.string t] u fun e w' => e = .returned (.tuple #[.string body, .int .i64 0]) ∧ Below u.heap.size u w') (c : Int)
    (hc : c = if endE (snapR (body, 0)).2 ≠ 0 then endE (snapR (body, 0)).2 else checkM (snapR (body, 0)).1) :
    Calls Tryz.prog 8 #[.string t] w fun e w' => ∃ v', e = .returned (.tuple #[v', .int .i64 c]) ∧ StateR w' w'.heap.size v' (if c = 0 then (snapR (body, 0)).1 else ⟨0, [], [], []⟩) ∧ Below w.heap.size w w' := by
  have CU := ghid hu
  have HZ := ghid hz
  obtain ⟨x, hx⟩ : ∃ x, x = (snapR (body, 0)).1 := ⟨_, rfl⟩
  obtain ⟨r, hr⟩ : ∃ r, r = (snapR (body, 0)).2 := ⟨_, rfl⟩
  rw [← hx, ← hr] at hc
  rw [← hx]
  obtain ⟨y, hy⟩ : ∃ y, y = if c = 0 then x else (⟨0, [], [], []⟩ : StateD) := ⟨_, rfl⟩
  rw [← hy]
  have HXX := ghid hx
  have HRR := ghid hr
  have HY0 : Hid (c = 0 → y = x) := fun h => by rw [hy, if_pos h]
  have HY1 : Hid (c ≠ 0 → y = ⟨0, [], [], []⟩) := fun h => by rw [hy, if_neg h]
  clear hx hr hy
  have hb0 : Below w.heap.size w (w.alloc (.cells #[.int .i64 0, .slice none 0 0, .slice none 0 0, .slice none 0 0] 27)) := (Below.refl _ _).alloc (Nat.le_refl _) _
  have HX0 : Hid ((w.alloc (.cells #[.int .i64 0, .slice none 0 0, .slice none 0 0, .slice none 0 0] 27)).heap[w.heap.size]? = some (.cells #[.int .i64 0, .slice none 0 0, .slice none 0 0, .slice none 0 0] 27 (0, 0))) := heap_alloc_new w _
  have hz0 : (w.alloc (.cells #[.int .i64 0, .slice none 0 0, .slice none 0 0, .slice none 0 0] 27)).heap.size = w.heap.size + 1 := by simp
  have HB0 := ghid hb0
  clear hu hz hb0
  go_enter Tryz.func8, Tryz.ntmps8
  go_wp2_with fail
  refine (CU.out _).mono ?_
  rintro e w1 ⟨rfl, hb1⟩
  have hz1 : w.heap.size + 1 ≤ w1.heap.size := by have := hb1.size; omega
  have HX1 : Hid (w1.heap[w.heap.size]? = _) := (hb1.block _ (by omega)).trans HX0.out
  have HB1 := ghid (HB0.out.trans (hb1.mono HB0.out.size))
  have hba : Below w1.heap.size w1 (w1.alloc (.cells #[.string body, .int .i64 0] 66)) := (Below.refl _ _).alloc (Nat.le_refl _) _
  have hz2 : (w1.alloc (.cells #[.string body, .int .i64 0] 66)).heap.size = w1.heap.size + 1 := by simp
  have HX2 : Hid ((w1.alloc (.cells #[.string body, .int .i64 0] 66)).heap[w.heap.size]? = _) := (hba.block _ (by omega)).trans HX1.out
  have HB2 := ghid (HB1.out.trans (hba.mono (by omega)))
  have hrs : IsRs w1.heap.size (body, 0) (w1.alloc (.cells #[.string body, .int .i64 0] 66)) := heap_alloc_new w1 _
  have CR := ghid (rs_state w1.heap.size (body, 0) _ HZ.out hrs)
  rw [← HXX.out, ← HRR.out] at CR
  clear hb1 CU hba hrs HXX HRR
  go_wp2_with fail
  refine CR.out.mono ?_
  rintro e w2 ⟨v, rfl, hr2, hn2, ht2⟩
  have hz3 := ht2.size
  have hst : StateR w2 w2.heap.size v x := hn2.now
  obtain ⟨lv, pv, sv, rfl, h1, h2, h3⟩ := id hst
  obtain ⟨lo, lc, rfl, -⟩ := id h1
  obtain ⟨po, pc, rfl, -⟩ := id h2
  obtain ⟨so, sc, rfl, -⟩ := id h3
  have HX3 : Hid (w2.heap[w.heap.size]? = _) := (ht2.block _ (by omega) (by omega)).trans HX2.out
  have HB3 := ghid (HB2.out.trans (ht2.below (B := w.heap.size) (by omega) (fun k hk => by omega)))
  have HR2 := ghid hr2
  have HST := ghid hst
  have HN2 := ghid (hn2.mono (by omega : w.heap.size + 1 ≤ _))
  have HN4 := ghid (HN2.out.touch (TouchG.of_below ((Below.refl w2.heap.size w2).alloc (Nat.le_refl _) (.cells #[.int .i64 x.index, .slice lo x.locks.length lc, .slice po x.pairs.length pc, .slice so x.sess.length sc] 27)) (Nat.le_refl _) (fun _ => False)) (fun _ _ h => h.elim))
  clear hst h1 h2 h3 hr2 hn2 ht2 CR HN2
  have hbb : Below w2.heap.size w2 (w2.alloc (.cells #[.int .i64 x.index, .slice lo x.locks.length lc, .slice po x.pairs.length pc, .slice so x.sess.length sc] 27)) := (Below.refl _ _).alloc (Nat.le_refl _) _
  have HX4 : Hid ((w2.alloc (.cells #[.int .i64 x.index, .slice lo x.locks.length lc, .slice po x.pairs.length pc, .slice so x.sess.length sc] 27)).heap[w.heap.size]? = _) := (hbb.block _ (by omega)).trans HX3.out
  have HY4 : Hid ((w2.alloc (.cells #[.int .i64 x.index, .slice lo x.locks.length lc, .slice po x.pairs.length pc, .slice so x.sess.length sc] 27)).heap[w2.heap.size]? = some (.cells #[.int .i64 x.index, .slice lo x.locks.length lc, .slice po x.pairs.length pc, .slice so x.sess.length sc] 27 (0, 0))) := heap_alloc_new w2 _
  have HB4 := ghid (HB3.out.trans (hbb.mono (by omega)))
  have HR4 := ghid (HR2.out.below hbb)
  have HST4 := ghid (HST.out.below hbb (Nat.le_refl _))
  have hz4 : (w2.alloc (.cells #[.int .i64 x.index, .slice lo x.locks.length lc, .slice po x.pairs.length pc, .slice so x.sess.length sc] 27)).heap.size = w2.heap.size + 1 := by simp
  obtain ⟨w3, hw3⟩ : ∃ w3, w3 = w2.alloc (.cells #[.int .i64 x.index, .slice lo x.locks.length lc, .slice po x.pairs.length pc, .slice so x.sess.length sc] 27) := ⟨_, rfl⟩
  obtain ⟨yb, hyb⟩ : ∃ yb, yb = w2.heap.size := ⟨_, rfl⟩
  have CE := ghid (rsEnd_any w1.heap.size r _ HR4.out)
  rw [← hw3] at HX4 HB4 HR4 HST4 hz4 CE HN4
  rw [← hw3, ← hyb] at HY4
  rw [← hyb] at hz4 HST4
  have hzy : w.heap.size + 1 ≤ yb := by omega
  have HW3 := ghid hw3
  have HYB := ghid hyb
  clear hbb hw3 hyb
  go_wp2_with fail
  rw [← HW3.out]
  refine CE.out.mono ?_
  rintro e w4 ⟨rfl, rfl⟩
  rw [← HYB.out]
  clear CE HR4 HW3
  by_cases hE : endE r = 0
  · rw [if_neg (fun h => h hE)] at hc
    rw [hE]
    obtain ⟨d0, d1, d2, d3, df, hyl⟩ := state_cells HY4.out
    have CK := ghid (machCheck_any _ x w4 yb HST4.out (by omega))
    rw [← hc] at CK
    clear hE hc
    go_wp2_with fail
    refine CK.out.mono ?_
    rintro e w5 ⟨rfl, hb5⟩
    have HX5 : Hid (w5.heap[w.heap.size]? = _) := (hb5.block _ (by omega)).trans HX4.out
    have HY5 : Hid (w5.heap[yb]? = _) := (hb5.block _ (by omega)).trans HY4.out
    have HB5 := ghid (HB4.out.trans (hb5.mono HB4.out.size))
    have HST5 := ghid (HST4.out.below hb5 (by omega))
    have hz5 := hb5.size
    have HN5 := ghid (HN4.out.touch (TouchG.of_below hb5 (Nat.le_refl _) (fun _ => False)) (fun _ _ h => h.elim))
    obtain ⟨c0, c1, c2, c3, cf, -⟩ := state_cells HX5.out
    obtain ⟨d0, d1, d2, d3, df, hyl⟩ := state_cells HY5.out
    clear hb5 CK
    by_cases hc0 : c = 0
    · subst hc0
      have HY := ghid (HY0.out rfl)
      go_wp2
      refine bodyPost_ret (v := .tuple #[.agg #[.int .i64 x.index, .slice lo x.locks.length lc, .slice po x.pairs.length pc, .slice so x.sess.length sc], .int .i64 0]) (by simp [results, Tryz.results8, go_sem, c0, c1, c2, c3]) rfl ?_
      refine ⟨_, rfl, ?_, zbelow4 HB5.out (Nat.le_refl _) _ _ _ _⟩
      rw [HY.out]
      exact (HN5.out.touch (rtouchz4 (TouchG.refl w5 (fun k => k = w.heap.size)) (.inl rfl) _ _ _ _) (fun k _ h => by omega)).now
    · have HY := ghid (HY1.out hc0)
      have hcb : (c != 0) = true := by simpa using hc0
      clear hc0
      go_wp2
      refine bodyPost_ret (v := .tuple #[.agg #[.int .i64 0, .slice none 0 0, .slice none 0 0, .slice none 0 0], .int .i64 c]) (by simp [results, Tryz.results8, go_sem, c0, c1, c2, c3]) rfl ?_
      exact ⟨_, rfl, by rw [HY.out]; exact state_nil _ _, zbelow4 HB5.out (Nat.le_refl _) _ _ _ _⟩
  · rw [if_pos hE] at hc
    rw [← hc] at hE ⊢
    have HY := ghid (HY1.out hE)
    have hcb : (c != 0) = true := by simpa using hE
    obtain ⟨c0, c1, c2, c3, cf, -⟩ := state_cells HX4.out
    clear hE hc
    go_wp2
    refine bodyPost_ret (v := .tuple #[.agg #[.int .i64 0, .slice none 0 0, .slice none 0 0, .slice none 0 0], .int .i64 c]) (by simp [results, Tryz.results8, go_sem, c0, c1, c2, c3]) rfl ?_
    exact ⟨_, rfl, by rw [HY.out]; exact state_nil _ _, zbelow4 HB4.out (Nat.le_refl _) _ _ _ _⟩

theorem decode_s (t : ByteArray) (w : World) (ht : t.size ≤ 140737488351232) :
    Calls Tryz.prog 8 #[.string t] w fun e w' => ∃ v', e = .returned (.tuple #[v', .int .i64 (snapE t)]) ∧ StateR w' w'.heap.size v' (snapL t) ∧ Below w.heap.size w w' := by
  by_cases h1 : 5000 < t.size
  · have e1 : snapE t = 1 := by unfold snapE; rw [if_pos h1]
    have e2 : snapL t = ⟨0, [], [], []⟩ := by unfold snapL; rw [if_neg (by rw [e1]; decide)]
    rw [e1, e2]
    refine (decode_unsealed t 1 w (by decide) (fun u => unseal_long t u ht h1)).mono ?_
    rintro e w' ⟨rfl, hb⟩
    exact ⟨_, rfl, state_nil _ _, hb⟩
  · by_cases h2 : t.size < 4
    · have e1 : snapE t = 5 := by unfold snapE; rw [if_neg h1, if_pos h2]
      have e2 : snapL t = ⟨0, [], [], []⟩ := by unfold snapL; rw [if_neg (by rw [e1]; decide)]
      rw [e1, e2]
      refine (decode_unsealed t 5 w (by decide) (fun u => unseal_short t u h2)).mono ?_
      rintro e w' ⟨rfl, hb⟩
      exact ⟨_, rfl, state_nil _ _, hb⟩
    · by_cases h3 : sealOut (t.extract 0 (t.size - 4)) = t.extract (t.size - 4) t.size
      · have e1 : snapE t = if endE (snapR (t.extract 0 (t.size - 4), 0)).2 ≠ 0 then endE (snapR (t.extract 0 (t.size - 4), 0)).2 else checkM (snapR (t.extract 0 (t.size - 4), 0)).1 := by
          unfold snapE; rw [if_neg h1, if_neg h2, if_neg (fun h => h h3)]
        exact decode_read t (t.extract 0 (t.size - 4)) w (by rw [ByteArray.size_extract]; omega) (fun u => unseal_ok t u (by omega) (by omega) h3) (snapE t) e1
      · have e1 : snapE t = 15 := by unfold snapE; rw [if_neg h1, if_neg h2, if_pos h3]
        have e2 : snapL t = ⟨0, [], [], []⟩ := by unfold snapL; rw [if_neg (by rw [e1]; decide)]
        rw [e1, e2]
        refine (decode_unsealed t 15 w (by decide) (fun u => unseal_sum t u (by omega) (by omega) h3)).mono ?_
        rintro e w' ⟨rfl, hb⟩
        exact ⟨_, rfl, state_nil _ _, hb⟩

end Go.Proofs.YtpcacaohknkdlahGreatDoor

namespace Go.Proofs.YtpcacaohknkdlahGreatDoor

open Go.RowKit

theorem snapC : SnapC := ⟨fun v s w B hv hB hr => encode_ok_s v s w B hv hB hr, fun t w ht => decode_s t w ht⟩

end Go.Proofs.YtpcacaohknkdlahGreatDoor
