/- lock.named, lock.above, slices.IndexFunc with them; the document's lockAt (joined by program) -/
import Derived.Laws.Cover1
import Derived.Test.YtijilhbdbeajjaaGreatDoorTT01
namespace Go.Proofs.YtijilhbdbeajjaaGreatDoor

open Go.RowKit

/-- Are two texts one? -/
def eqN (a b : ByteArray) : Bool := a.toList == b.toList

theorem named_any (nm : ByteArray) (w : World) :
    Calls Tryz.prog 63 #[.string nm] w fun e w' => e = .returned (.func (.func 100) #[] #[.pointer (some ⟨w.heap.size, 0, none⟩)]) ∧ w' = w.alloc (.cells #[.string nm] 9) := by
  go_enter Tryz.func63, Tryz.ntmps63
  go_wp2
  go_ret
  exact ⟨rfl, rfl⟩

theorem named1_any (nm xn : ByteArray) (xh xf : Int) (lo : Option Addr) (ll lc b : Nat) (w : World) (hc : w.cell? ⟨b, 0, none⟩ = some (.string nm)) (hb : b < w.heap.size) :
    Calls Tryz.prog 100 #[.agg #[.string xn, .int .i64 xh, .int .i64 xf, .slice lo ll lc], .pointer (some ⟨b, 0, none⟩)] w fun e w' => e = .returned (.bool (eqN xn nm)) ∧ Below w.heap.size w w' := by
  go_enter Tryz.func100, Tryz.ntmps100
  go_wp2
  go_ret
  exact ⟨rfl, (Below.refl _ _).alloc (Nat.le_refl _) _⟩

set_option maxHeartbeats 800000 in
theorem indexNamed_found (v : Value) (ls : List LockD) (nm : ByteArray) (b0 n : Nat) (x0 : LockD) (w : World) (B : Nat) (hv : LocksR w B v ls) (hB : B ≤ w.heap.size) (hc0 : w.cell? ⟨b0, 0, none⟩ = some (.string nm)) (hb0 : b0 < w.heap.size)
    (hn : ls[n]? = some x0) (hx0 : eqN x0.name nm = true) (hm : ∀ j x, j < n → ls[j]? = some x → eqN x.name nm = false) :
    Calls Tryz.prog 30 #[v, .func (.func 100) #[] #[.pointer (some ⟨b0, 0, none⟩)]] w fun e w' => e = .returned (.int .i64 n) ∧ Below w.heap.size w w' := by
  obtain ⟨ao, cap, rfl, h1, h2, h3, h4⟩ := hv
  have HN : Hid (ls[n]? = some x0) := hn
  have HM : Hid (∀ j x, j < n → ls[j]? = some x → eqN x.name nm = false) := hm
  have H0 : Hid (eqN x0.name nm = true) := hx0
  have hnl : n < ls.length := (List.getElem?_eq_some_iff.1 hn).1
  clear hn hm hx0
  go_enter Tryz.func30, Tryz.ntmps30
  go_wp2
  go_loopw [8] (fun i wr => ∃ k : Nat, k ≤ n ∧ i = .int .i64 k ∧ Below w.heap.size w wr) (fun i _ => ls.length - (intOf i).toNat)
  case atStart => exact ⟨0, Nat.zero_le _, rfl, Below.refl _ _⟩
  case round =>
    obtain ⟨k, hk, rfl, hb⟩ := hrel
    have hlt : k < ls.length := by omega
    obtain ⟨b, off, rfl, hbB, hc⟩ := h4 (by omega)
    obtain ⟨x, hx⟩ : ∃ x, ls[k]? = some x := ⟨_, List.getElem?_eq_getElem hlt⟩
    obtain ⟨lv, c0, c1, c2, c3, hl, hs⟩ := (hc k x hx).below hbB hb hB
    obtain ⟨lo, lc, rfl, -⟩ := hl
    have HX : Hid (ls[k]? = some x) := hx
    have C := named1_any nm x.name x.holder x.fence lo x.line.length lc b0 wr ((hb.cell (p := ⟨b0, 0, none⟩) hb0).trans hc0) (by have := hb.size; omega)
    have hsz := hb.size
    clear hx hc h4 hs
    by_cases hkn : k = n
    · subst hkn
      have e : x = x0 := by have := HX.out; rw [HN.out] at this; simpa using this.symm
      subst e
      rw [H0.out] at C
      go_wp2_with fail
      refine C.mono ?_
      rintro e w1 ⟨rfl, hb1⟩
      have hb2 := hb.trans (hb1.mono hsz)
      clear hb1 C
      go_wp2
      go_ret
      exact ⟨rfl, hb2⟩
    · have hkn' : k < n := by omega
      rw [HM.out k x hkn' HX.out] at C
      clear hkn
      go_wp2_with fail
      refine C.mono ?_
      rintro e w1 ⟨rfl, hb1⟩
      have hb2 := hb.trans (hb1.mono hsz)
      clear hb1 C
      go_wp2
      go_roundw
      case rel => exact ⟨k + 1, by omega, by go_num, hb2⟩
      case measure => simp [intOf]; omega

set_option maxHeartbeats 800000 in
theorem indexNamed_none (v : Value) (ls : List LockD) (nm : ByteArray) (b0 : Nat) (w : World) (B : Nat) (hv : LocksR w B v ls) (hB : B ≤ w.heap.size) (hc0 : w.cell? ⟨b0, 0, none⟩ = some (.string nm)) (hb0 : b0 < w.heap.size)
    (hm : ∀ (j : Nat) (x : LockD), ls[j]? = some x → eqN x.name nm = false) :
    Calls Tryz.prog 30 #[v, .func (.func 100) #[] #[.pointer (some ⟨b0, 0, none⟩)]] w fun e w' => e = .returned (.int .i64 (-1)) ∧ Below w.heap.size w w' := by
  obtain ⟨ao, cap, rfl, h1, h2, h3, h4⟩ := hv
  have HM : Hid (∀ (j : Nat) (x : LockD), ls[j]? = some x → eqN x.name nm = false) := hm
  clear hm
  go_enter Tryz.func30, Tryz.ntmps30
  go_wp2
  go_loopw [8] (fun i wr => ∃ k : Nat, k ≤ ls.length ∧ i = .int .i64 k ∧ Below w.heap.size w wr) (fun i _ => ls.length - (intOf i).toNat)
  case atStart => exact ⟨0, Nat.zero_le _, rfl, Below.refl _ _⟩
  case round =>
    obtain ⟨k, hk, rfl, hb⟩ := hrel
    by_cases hlt : k < ls.length
    · obtain ⟨b, off, rfl, hbB, hc⟩ := h4 (by omega)
      obtain ⟨x, hx⟩ : ∃ x, ls[k]? = some x := ⟨_, List.getElem?_eq_getElem hlt⟩
      obtain ⟨lv, c0, c1, c2, c3, hl, hs⟩ := (hc k x hx).below hbB hb hB
      obtain ⟨lo, lc, rfl, -⟩ := hl
      have C := named1_any nm x.name x.holder x.fence lo x.line.length lc b0 wr ((hb.cell (p := ⟨b0, 0, none⟩) hb0).trans hc0) (by have := hb.size; omega)
      have hsz := hb.size
      rw [HM.out k x hx] at C
      clear hx hc h4 hs
      go_wp2_with fail
      refine C.mono ?_
      rintro e w1 ⟨rfl, hb1⟩
      have hb2 := hb.trans (hb1.mono hsz)
      clear hb1 C
      go_wp2
      go_roundw
      case rel => exact ⟨k + 1, by omega, by go_num, hb2⟩
      case measure => simp [intOf]; omega
    · go_wp2
      go_ret
      exact ⟨rfl, hb⟩

/-- Is a text above another one? -/
def gtN (a b : ByteArray) : Bool := !leN a b

theorem above_any (nm : ByteArray) (w : World) :
    Calls Tryz.prog 243 #[.string nm] w fun e w' => e = .returned (.func (.func 259) #[] #[.pointer (some ⟨w.heap.size, 0, none⟩)]) ∧ w' = w.alloc (.cells #[.string nm] 9) := by
  go_enter Tryz.func243, Tryz.ntmps243
  go_wp2
  go_ret
  exact ⟨rfl, rfl⟩

theorem above1_any (nm xn : ByteArray) (xh xf : Int) (lo : Option Addr) (ll lc b : Nat) (w : World) (hc : w.cell? ⟨b, 0, none⟩ = some (.string nm)) (hb : b < w.heap.size) :
    Calls Tryz.prog 259 #[.agg #[.string xn, .int .i64 xh, .int .i64 xf, .slice lo ll lc], .pointer (some ⟨b, 0, none⟩)] w fun e w' => e = .returned (.bool (gtN xn nm)) ∧ Below w.heap.size w w' := by
  go_enter Tryz.func259, Tryz.ntmps259
  go_wp2
  go_ret
  exact ⟨ret_bool (by simp [gtN, leN]), (Below.refl _ _).alloc (Nat.le_refl _) _⟩

set_option maxHeartbeats 800000 in
theorem indexAbove_found (v : Value) (ls : List LockD) (nm : ByteArray) (b0 n : Nat) (x0 : LockD) (w : World) (B : Nat) (hv : LocksR w B v ls) (hB : B ≤ w.heap.size) (hc0 : w.cell? ⟨b0, 0, none⟩ = some (.string nm)) (hb0 : b0 < w.heap.size)
    (hn : ls[n]? = some x0) (hx0 : gtN x0.name nm = true) (hm : ∀ j x, j < n → ls[j]? = some x → gtN x.name nm = false) :
    Calls Tryz.prog 30 #[v, .func (.func 259) #[] #[.pointer (some ⟨b0, 0, none⟩)]] w fun e w' => e = .returned (.int .i64 n) ∧ Below w.heap.size w w' := by
  obtain ⟨ao, cap, rfl, h1, h2, h3, h4⟩ := hv
  have HN : Hid (ls[n]? = some x0) := hn
  have HM : Hid (∀ j x, j < n → ls[j]? = some x → gtN x.name nm = false) := hm
  have H0 : Hid (gtN x0.name nm = true) := hx0
  have hnl : n < ls.length := (List.getElem?_eq_some_iff.1 hn).1
  clear hn hm hx0
  go_enter Tryz.func30, Tryz.ntmps30
  go_wp2
  go_loopw [8] (fun i wr => ∃ k : Nat, k ≤ n ∧ i = .int .i64 k ∧ Below w.heap.size w wr) (fun i _ => ls.length - (intOf i).toNat)
  case atStart => exact ⟨0, Nat.zero_le _, rfl, Below.refl _ _⟩
  case round =>
    obtain ⟨k, hk, rfl, hb⟩ := hrel
    have hlt : k < ls.length := by omega
    obtain ⟨b, off, rfl, hbB, hc⟩ := h4 (by omega)
    obtain ⟨x, hx⟩ : ∃ x, ls[k]? = some x := ⟨_, List.getElem?_eq_getElem hlt⟩
    obtain ⟨lv, c0, c1, c2, c3, hl, hs⟩ := (hc k x hx).below hbB hb hB
    obtain ⟨lo, lc, rfl, -⟩ := hl
    have HX : Hid (ls[k]? = some x) := hx
    have C := above1_any nm x.name x.holder x.fence lo x.line.length lc b0 wr ((hb.cell (p := ⟨b0, 0, none⟩) hb0).trans hc0) (by have := hb.size; omega)
    have hsz := hb.size
    clear hx hc h4 hs
    by_cases hkn : k = n
    · subst hkn
      have e : x = x0 := by have := HX.out; rw [HN.out] at this; simpa using this.symm
      subst e
      rw [H0.out] at C
      go_wp2_with fail
      refine C.mono ?_
      rintro e w1 ⟨rfl, hb1⟩
      have hb2 := hb.trans (hb1.mono hsz)
      clear hb1 C
      go_wp2
      go_ret
      exact ⟨rfl, hb2⟩
    · have hkn' : k < n := by omega
      rw [HM.out k x hkn' HX.out] at C
      clear hkn
      go_wp2_with fail
      refine C.mono ?_
      rintro e w1 ⟨rfl, hb1⟩
      have hb2 := hb.trans (hb1.mono hsz)
      clear hb1 C
      go_wp2
      go_roundw
      case rel => exact ⟨k + 1, by omega, by go_num, hb2⟩
      case measure => simp [intOf]; omega

set_option maxHeartbeats 800000 in
theorem indexAbove_none (v : Value) (ls : List LockD) (nm : ByteArray) (b0 : Nat) (w : World) (B : Nat) (hv : LocksR w B v ls) (hB : B ≤ w.heap.size) (hc0 : w.cell? ⟨b0, 0, none⟩ = some (.string nm)) (hb0 : b0 < w.heap.size)
    (hm : ∀ (j : Nat) (x : LockD), ls[j]? = some x → gtN x.name nm = false) :
    Calls Tryz.prog 30 #[v, .func (.func 259) #[] #[.pointer (some ⟨b0, 0, none⟩)]] w fun e w' => e = .returned (.int .i64 (-1)) ∧ Below w.heap.size w w' := by
  obtain ⟨ao, cap, rfl, h1, h2, h3, h4⟩ := hv
  have HM : Hid (∀ (j : Nat) (x : LockD), ls[j]? = some x → gtN x.name nm = false) := hm
  clear hm
  go_enter Tryz.func30, Tryz.ntmps30
  go_wp2
  go_loopw [8] (fun i wr => ∃ k : Nat, k ≤ ls.length ∧ i = .int .i64 k ∧ Below w.heap.size w wr) (fun i _ => ls.length - (intOf i).toNat)
  case atStart => exact ⟨0, Nat.zero_le _, rfl, Below.refl _ _⟩
  case round =>
    obtain ⟨k, hk, rfl, hb⟩ := hrel
    by_cases hlt : k < ls.length
    · obtain ⟨b, off, rfl, hbB, hc⟩ := h4 (by omega)
      obtain ⟨x, hx⟩ : ∃ x, ls[k]? = some x := ⟨_, List.getElem?_eq_getElem hlt⟩
      obtain ⟨lv, c0, c1, c2, c3, hl, hs⟩ := (hc k x hx).below hbB hb hB
      obtain ⟨lo, lc, rfl, -⟩ := hl
      have C := above1_any nm x.name x.holder x.fence lo x.line.length lc b0 wr ((hb.cell (p := ⟨b0, 0, none⟩) hb0).trans hc0) (by have := hb.size; omega)
      have hsz := hb.size
      rw [HM.out k x hx] at C
      clear hx hc h4 hs
      go_wp2_with fail
      refine C.mono ?_
      rintro e w1 ⟨rfl, hb1⟩
      have hb2 := hb.trans (hb1.mono hsz)
      clear hb1 C
      go_wp2
      go_roundw
      case rel => exact ⟨k + 1, by omega, by go_num, hb2⟩
      case measure => simp [intOf]; omega
    · go_wp2
      go_ret
      exact ⟨rfl, hb⟩

end Go.Proofs.YtijilhbdbeajjaaGreatDoor
