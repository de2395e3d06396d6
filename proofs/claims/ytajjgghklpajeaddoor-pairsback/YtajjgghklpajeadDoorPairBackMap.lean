/- A map beside pairs: it has just their names, each with its value; one store by an entry. -/
import Derived.Test.YtajjgghklpajeadDoorPairKeepMath
import Derived.Maps.RangeWalk
import Derived.Maps.OwnSet
import Derived.Maps.StringElems
import Derived.WideKeyEntry
import Derived.StringKeys
import Derived.Deep.AppendLies
namespace Go.Proofs.YtajjgghklpajeadDoor
open Go.RowKit Go.Maps

section
variable {H : Type}

/-- A store by an entry is a store. -/
theorem entry_own {P : Program} {w : World} {t k e : TypeId} {R : Value → Option (DataW H × List MemPlace)} {b n : Nat} {D : DataW H} (h : w.ownsMap P k R b n D) (K : Keyed P k) (KL : Go.WideMaps.KeyLaw P k) (ht : P.underlying t = some (.map k e)) {z : Value} (hz : ∀ u : World, (zeroValue e).run P u = .ok z u) (hn : n < maxLen)
    {key val : Value} {kl : Lit} {d : DataW H} {ps : List MemPlace} (hkey : keyOf P k key = some kl) (hv : R val = some (d, ps)) :
    ∃ v0 st w1 w', (Instr.mapEntry t (.map (some b)) key).run P w = .ok (.tuple #[v0, goInt st]) w1 ∧ (Instr.entryStore t (.map (some b)) (goInt st) val).run P w1 = .ok () w' ∧ w'.ownsMap P k R b (n + 1) (D.put kl d) ∧ w.grownBy w' (some b) := by
  obtain ⟨w', hU, hown', hgrow'⟩ := h.update K ht hn hkey hv
  obtain ⟨es, clock, hb, F, hs, rfl⟩ := h
  obtain ⟨v0, st, es1, clock1, hrun1, -, hst⟩ := Go.WideElems.entry_then_store KL ht hz hb F hkey
  obtain ⟨es', clock', hrun2, hupd⟩ := hst (Go.ChangeMaps.setBlock w b (.map es1 clock1)) val (Go.ChangeMaps.heap_setBlock_same hb _)
  rw [hU] at hupd
  have hw : w' = Go.ChangeMaps.setBlock w b (.map es' clock') := by simpa using hupd
  have hset : Go.ChangeMaps.setBlock (Go.ChangeMaps.setBlock w b (.map es1 clock1)) b (.map es' clock') = Go.ChangeMaps.setBlock w b (.map es' clock') := by
    simp [Go.ChangeMaps.setBlock]
  rw [hset, ← hw] at hrun2
  exact ⟨v0, st, _, w', hrun1, hrun2, hown', hgrow'⟩

def nameL (s : ByteArray) : Lit := .string s.data.toList

theorem nameL_inj {a b : ByteArray} (h : nameL a = nameL b) : a = b := by
  unfold nameL at h
  have : a.data = b.data := Array.toList_inj.1 (by simpa using h)
  cases a; cases b; simp_all

/-- The map has just the pairs' names, each with its value. -/
structure Agree (D : DataW H) (ps : List PairD) : Prop where
  at' : ∀ x ∈ ps, ∀ zd, D.atKey (nameL x.name) zd = .lit (.string x.value.data.toList)
  has : ∀ kl, Maps.has D kl = true → ∃ x ∈ ps, kl = nameL x.name
  size : Maps.size D = ps.length

theorem Agree.nil : Agree (.map [] : DataW H) [] := ⟨fun x hx => (by cases hx), fun kl h => (by simp [Maps.has] at h), rfl⟩

theorem Agree.put {D : DataW H} {ps : List PairD} (h : Agree D ps) (ht : Tidy D) {m : Int} (hk : KeepP m ps) (hm : 0 ≤ m) (hm2 : m < 1073741824) {nm val : ByteArray} (hn : nm = ⟨#[97]⟩ ∨ nm = ⟨#[98]⟩ ∨ nm = ⟨#[107, 101, 121]⟩) (hv : val.size ≤ 12) :
    Agree (D.put (nameL nm) (.lit (.string val.data.toList))) (setP ps nm val).1 := by
  obtain ⟨-, -, -, -, -, -, ⟨n, hnew⟩, hall, hold, hlen⟩ := hk.set hm hm2 hn hv
  refine ⟨fun y hy zd => ?_, fun kl hkl => ?_, ?_⟩
  · rcases hall y hy with ⟨e1, e2⟩ | ⟨hy', hne⟩
    · rw [e1, e2]
      exact atKey_put_same (k := nameL nm) ht.isMap (by unfold nameL; trivial) _ _
    · rw [atKey_put_other (fun e => hne (nameL_inj e))]
      exact h.at' y hy' zd
  · by_cases e : kl = nameL nm
    · exact ⟨_, hnew, e⟩
    · rw [has_put_other e] at hkl
      obtain ⟨x, hx, ex⟩ := h.has kl hkl
      exact ⟨x, hold x hx (fun en => e (by rw [ex, en])), ex⟩
  · rw [size_put ht, hlen, h.size]
    cases hth : thereP ps nm with
    | true =>
      obtain ⟨x, hx, he⟩ := thereP_yes hth
      have : Maps.has D (nameL nm) = true := has_true_of_atKey (fun z => by rw [← he]; exact h.at' x (List.mem_of_getElem? hx) z)
      rw [this]
    | false =>
      have : Maps.has D (nameL nm) = false := by
        cases hh : Maps.has D (nameL nm) with
        | false => rfl
        | true =>
          obtain ⟨x, hx, ex⟩ := h.has _ hh
          obtain ⟨j, hj⟩ := List.mem_iff_getElem?.1 hx
          exact absurd (nameL_inj ex).symm (thereP_no hk.good hth j x hj)
      rw [this]
end

/-- Pairs stay while a map is written. -/
theorem PairsR.keptMap {H : Type} {P : Program} {k : TypeId} {R : Value → Option (DataW H × List MemPlace)} {w w' : World} {B b n : Nat} {D : DataW H} {v : Value} {ps : List PairD} (h : PairsR w B v ps) (ho : w.ownsMap P k R b n D) (hg : w.grownBy w' (some b)) : PairsR w' B v ps := by
  obtain ⟨ao, cap, rfl, h1, h2, h3, h4⟩ := h
  obtain ⟨es, clock, hb, -⟩ := ho
  refine ⟨ao, cap, rfl, h1, h2, h3, fun hp => ?_⟩
  obtain ⟨c, off, rfl, hlt, hc⟩ := h4 hp
  refine ⟨c, off, rfl, hlt, fun i x hx => ?_⟩
  obtain ⟨c0, c1, c2, hs⟩ := hc i x hx
  have hne : c ≠ b := fun e => by subst e; simp [World.cell?, hb] at c0
  have hlt' : c < w.heap.size := World.block_lt_of_cell? w _ c0
  have kk : ∀ o, w'.cell? ⟨c, o, none⟩ = w.cell? ⟨c, o, none⟩ := fun o => hg.cell_far ⟨c, o, none⟩ hlt' (by intro e; cases e; exact hne rfl)
  exact ⟨(kk _).trans c0, (kk _).trans c1, (kk _).trans c2, hs⟩

theorem sKeyed : Keyed Tryd.prog 9 := string_keyed Tryd.underlying9
theorem sLaw : Go.WideMaps.KeyLaw Tryd.prog 9 := Go.WideMaps.string_law Tryd.underlying9
theorem sZero (u : World) : (zeroValue 9).run Tryd.prog u = .ok (.string ⟨#[]⟩) u := by kernel_rfl

/-- The step of a range over a map of texts by texts. -/
theorem wpList_next_ranges_ss {H : Type} {P : Program} (w : World) {ops : Array Oper} {rest : List Oper} {o : Oper} {a : Act} {Q : Exit → Act → World → Prop}
    (hg : o.guard = none) (it : Operand) (hop : o.op = Op.next it false) (k e : TypeId) (K : Keyed P k) (hk : P.underlying k = some .string) (he : P.underlying e = some .string)
    (b r n : Nat) (D : DataW H) (left : Lit → Bool) (cnt : Nat) (hit : a.eval it = .pointer (some ⟨r, 0, none⟩)) (h : w.ranges P k (plainElem P e) b r n D left cnt)
    (hDone : cnt = 0 → (∀ kl, left kl = false) → wpList P ops Q rest (a.put o.dst (.tuple #[.bool false])) w)
    (hMore : ∀ (x c : ByteArray) (w' : World) (cnt' : Nat), left (nameL x) = true → (∀ zd, D.atKey (nameL x) zd = .lit (.string c.data.toList)) → w'.ranges P k (plainElem P e) b r n D (fun z => left z && !z.sameKey (nameL x)) cnt' → cnt' < cnt →
      w.grownBy w' (some r) → w'.heap.size = w.heap.size → (Instr.entry (.pointer (some ⟨r, 0, none⟩))).run P w' = .ok (.tuple #[.string x, .string c]) w' → wpList P ops Q rest (a.put o.dst (.tuple #[.bool true, .string x, .string c])) w') :
    wpList P ops Q (o :: rest) a w :=
  wpList_next_ranges w hg it hop k K (plainElem P e) Value.string Value.string (fun key kl hkey => by cases key <;> simp [keyOf, hk, mapKey] at hkey; exact ⟨_, rfl⟩) (fun v y hv => by obtain ⟨c, rfl, _⟩ := plainElem_string_inv he hv; exact ⟨c, rfl⟩)
    b r n D left cnt hit h hDone (fun x c kl y w' cnt' hkey hlk hv hat hrg hlt hgr hsz hen => by
      have ekl : kl = nameL x := by simp [keyOf, hk, mapKey] at hkey; exact hkey.2.symm
      subst ekl
      obtain ⟨c', ec, rfl, hwc⟩ := plainElem_string_inv he hv
      cases ec
      exact hMore x c w' cnt' hlk hat hrg hlt hgr hsz hen)
end Go.Proofs.YtajjgghklpajeadDoor
