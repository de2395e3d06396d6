/- Sessions in memory of a call's own: a row of sessions, each with a row of replies of its own (joined by program) -/
import Derived.Test.YtijilhbdbeajjaaGreatDoorTT01
namespace Go.Proofs.YtijilhbdbeajjaaGreatDoor

open Go.RowKit

/-- The cells of a session, its replies at a value. -/
def sessCells (r : SessD × Value) : List Value := [.int .i64 r.1.client, .int .i64 r.1.id, .int .i64 r.1.acked, .int .i64 r.1.last, r.2]

theorem sessCells_len (r : SessD × Value) : (sessCells r).length = 5 := rfl

theorem sessCells_one (r : SessD × Value) (h : r.2.oneCell' = true) : ∀ v ∈ sessCells r, v.oneCell' = true := by
  intro v hv
  simp only [sessCells, List.mem_cons, List.not_mem_nil, or_false] at hv
  rcases hv with rfl | rfl | rfl | rfl | rfl
  · rfl
  · rfl
  · rfl
  · rfl
  · exact h

/-- Texts that are not too long for any machine. -/
def ModestK (ks : List KeptD) : Prop := ∀ k ∈ ks, k.text.size ≤ 140737488351232

/-- The value v owns the replies ks. -/
structure OwnK (w : World) (base : Nat) (v : Value) (ks : List KeptD) : Prop where
  row : w.ownsRow base 168 4 v ks.length (flatG keptCells ks)
  len : ks.length * 40 ≤ 140737488351232
  modest : ModestK ks

theorem OwnK.reads {w : World} {base B : Nat} {v : Value} {ks : List KeptD} (o : OwnK w base v ks) (hB : w.heap.size ≤ B) : KeptsR w B v ks := by
  have h := o.row
  rcases h.2 with ⟨rfl, hn⟩ | ⟨g, cap, cur, rfl, _, hg, hle, hcm, hcs, htake⟩
  · have : ks = [] := List.eq_nil_of_length_eq_zero hn
    subst this
    exact KeptsR.nil _ _
  · refine ⟨some ⟨g, 0, none⟩, cap, rfl, hle, o.len, (by intro h; cases h), fun _ => ⟨g, 0, rfl, ?_, fun i x hx => ?_⟩⟩
    · have := (h.lt g rfl).2; omega
    · have hi : i < ks.length := (List.getElem?_eq_some_iff.1 hx).1
      have key : ∀ j, j < 4 → w.cell? ⟨g, 0 + i * 4 + j, none⟩ = (keptCells x)[j]? := fun j hj => by
        rw [Nat.zero_add, h.cellAt (i * 4 + j) (by omega), flatG_at keptCells_len hx j hj]
      exact ⟨by simpa [keptCells] using key 0 (by omega), by simpa [keptCells] using key 1 (by omega), by simpa [keptCells] using key 2 (by omega), by simpa [keptCells] using key 3 (by omega), o.modest x (List.mem_of_getElem? hx), TagB.of hg⟩

theorem KeptsR.modest {w : World} {B : Nat} {v : Value} {ks : List KeptD} (h : KeptsR w B v ks) : ModestK ks := by
  obtain ⟨ao, cap, rfl, h1, h2, h3, h4⟩ := h
  intro x hx
  obtain ⟨i, hi⟩ := List.mem_iff_getElem?.1 hx
  obtain ⟨b, off, rfl, hlt, hc⟩ := h4 (by have := (List.getElem?_eq_some_iff.1 hi).1; omega)
  exact (hc i x hi).2.2.2.2.1

theorem OwnK.keep {w w' : World} {base : Nat} {v : Value} {ks : List KeptD} (h : OwnK w base v ks) (hk : ∀ b, v.ownBlock = some b → w'.heap[b]? = w.heap[b]?) : OwnK w' base v ks := ⟨grow_keep h.row hk, h.len, h.modest⟩

theorem OwnK.mono {w : World} {base base' : Nat} {v : Value} {ks : List KeptD} (h : OwnK w base v ks) (hb : base' ≤ base) : OwnK w base' v ks := ⟨grow_mono h.row hb, h.len, h.modest⟩

theorem OwnK.below {w w' : World} {base : Nat} {v : Value} {ks : List KeptD} (h : OwnK w base v ks) {B : Nat} (hb : Below B w w') (hB : w.heap.size ≤ B) : OwnK w' base v ks := ⟨grow_below h.row hb hB, h.len, h.modest⟩

theorem OwnK.nil (w : World) (base : Nat) : OwnK w base (.slice none 0 0) [] := ⟨World.ownsRow_nil _ _ _ _, by simp, fun k hk => absurd hk (by simp)⟩

/-- The blocks of the replies. -/
def repBlocks (rs : List (SessD × Value)) : List Nat := rs.flatMap fun r => r.2.ownBlock.toList

/-- Each session's replies are owned, in a block of their own. -/
structure Reps (w : World) (base : Nat) (rs : List (SessD × Value)) : Prop where
  each : ∀ r ∈ rs, OwnK w base r.2 r.1.replies
  nodup : (repBlocks rs).Nodup

/-- The value v owns the sessions rs: the row, and a row of replies each. -/
structure OwnS (w : World) (base : Nat) (v : Value) (rs : List (SessD × Value)) : Prop where
  row : w.ownsRow base 121 5 v rs.length (flatG sessCells rs)
  reps : Reps w base rs
  len : rs.length * 56 ≤ 140737488351232

theorem mem_repBlocks {rs : List (SessD × Value)} {b : Nat} : b ∈ repBlocks rs ↔ ∃ r ∈ rs, r.2.ownBlock = some b := by
  unfold repBlocks
  rw [List.mem_flatMap]
  constructor
  · rintro ⟨r, hr, hb⟩
    exact ⟨r, hr, by simpa using hb⟩
  · rintro ⟨r, hr, hb⟩
    exact ⟨r, hr, by simp [hb]⟩

theorem Reps.lt {w : World} {base : Nat} {rs : List (SessD × Value)} (h : Reps w base rs) {b : Nat} (hb : b ∈ repBlocks rs) : base ≤ b ∧ b < w.heap.size := by
  obtain ⟨r, hr, hbk⟩ := mem_repBlocks.1 hb
  exact (h.each r hr).row.lt b hbk

theorem Reps.keep {w w' : World} {base : Nat} {rs : List (SessD × Value)} (h : Reps w base rs) (hk : ∀ b ∈ repBlocks rs, w'.heap[b]? = w.heap[b]?) : Reps w' base rs :=
  ⟨fun r hr => (h.each r hr).keep fun b hb => hk b (mem_repBlocks.2 ⟨r, hr, hb⟩), h.nodup⟩

theorem Reps.mono {w : World} {base base' : Nat} {rs : List (SessD × Value)} (h : Reps w base rs) (hb : base' ≤ base) : Reps w base' rs :=
  ⟨fun r hr => (h.each r hr).mono hb, h.nodup⟩

theorem Reps.below {w w' : World} {base : Nat} {rs : List (SessD × Value)} (h : Reps w base rs) {B : Nat} (hb : Below B w w') (hB : w.heap.size ≤ B) : Reps w' base rs :=
  h.keep fun b hbk => hb.block b (by have := (h.lt hbk).2; omega)

theorem Reps.nil (w : World) (base : Nat) : Reps w base [] := ⟨fun r hr => absurd hr (by simp), by simp [repBlocks]⟩

theorem repBlocks_sub : ∀ {a b : List (SessD × Value)}, a.Sublist b → (repBlocks a).Sublist (repBlocks b)
  | _, _, .slnil => List.Sublist.refl _
  | a, _, .cons x h => by
    have := repBlocks_sub h
    simp only [repBlocks, List.flatMap_cons] at this ⊢
    exact this.trans (List.sublist_append_right _ _)
  | _, _, .cons_cons x h => by
    have := repBlocks_sub h
    simp only [repBlocks, List.flatMap_cons] at this ⊢
    exact List.Sublist.append (List.Sublist.refl _) this

theorem Reps.sub {w : World} {base : Nat} {a b : List (SessD × Value)} (h : Reps w base b) (hs : a.Sublist b) : Reps w base a :=
  ⟨fun r hr => h.each r (hs.subset hr), (repBlocks_sub hs).nodup h.nodup⟩

theorem repBlocks_append (a b : List (SessD × Value)) : repBlocks (a ++ b) = repBlocks a ++ repBlocks b := by simp [repBlocks]

theorem repBlocks_cons (r : SessD × Value) (b : List (SessD × Value)) : repBlocks (r :: b) = r.2.ownBlock.toList ++ repBlocks b := by simp [repBlocks]

/-- One element more, or another in its place. -/
theorem Reps.mid {w : World} {base : Nat} {p s : List (SessD × Value)} {r : SessD × Value} (h : Reps w base (p ++ s)) (hr : OwnK w base r.2 r.1.replies) (hne : ∀ b, r.2.ownBlock = some b → b ∉ repBlocks (p ++ s)) : Reps w base (p ++ r :: s) := by
  have hnd := h.nodup
  rw [repBlocks_append] at hnd
  have h1 := List.nodup_append.1 hnd
  refine ⟨fun q hq => ?_, ?_⟩
  · rcases List.mem_append.1 hq with hq | hq
    · exact h.each q (by simp [hq])
    · rcases List.mem_cons.1 hq with rfl | hq
      · exact hr
      · exact h.each q (by simp [hq])
  · rw [repBlocks_append, repBlocks_cons]
    refine List.nodup_append.2 ⟨h1.1, List.nodup_append.2 ⟨?_, h1.2.1, ?_⟩, ?_⟩
    · cases r.2.ownBlock <;> simp
    · intro a ha b hb hab
      subst hab
      exact hne a (by simpa using ha) (by rw [repBlocks_append]; exact List.mem_append_right _ hb)
    · intro a ha b hb hab
      subst hab
      rcases List.mem_append.1 hb with hb | hb
      · exact hne a (by simpa using hb) (by rw [repBlocks_append]; exact List.mem_append_left _ ha)
      · exact h1.2.2 a ha a hb rfl

theorem Reps.snoc {w : World} {base : Nat} {rs : List (SessD × Value)} {r : SessD × Value} (h : Reps w base rs) (hr : OwnK w base r.2 r.1.replies) (hne : ∀ b, r.2.ownBlock = some b → b ∉ repBlocks rs) : Reps w base (rs ++ [r]) :=
  Reps.mid (s := []) (by simpa using h) hr (by simpa using hne)

section

variable {w w' : World} {base g n cap i : Nat} {v : Value} {rs : List (SessD × Value)} {r r' : SessD × Value}

theorem OwnS.apart (h : OwnS w base v rs) {b : Nat} (hb : b ∈ repBlocks rs) : v.ownBlock ≠ some b := by
  obtain ⟨r, hr, hbk⟩ := mem_repBlocks.1 hb
  exact grow_ne (h.reps.each r hr).row h.row (by decide) hbk

theorem OwnS.reads {B : Nat} (h : OwnS w base v rs) (hB : w.heap.size ≤ B) : SessR w B v (rs.map (·.1)) := by
  have hrow := h.row
  rcases hrow.2 with ⟨rfl, hn⟩ | ⟨g, cap, cur, rfl, _, hg, hle, hcm, hcs, htake⟩
  · have : rs = [] := List.eq_nil_of_length_eq_zero hn
    subst this
    exact SessR.nil _ _
  · refine ⟨some ⟨g, 0, none⟩, cap, by rw [List.length_map], by rw [List.length_map]; exact hle, by rw [List.length_map]; exact h.len, (by intro h; cases h), fun _ => ⟨g, 0, rfl, ?_, fun i x hx => ?_⟩⟩
    · have := (hrow.lt g rfl).2; omega
    · rw [List.getElem?_map] at hx
      obtain ⟨r, hr, rfl⟩ := Option.map_eq_some_iff.1 hx
      have hi : i < rs.length := (List.getElem?_eq_some_iff.1 hr).1
      have key : ∀ j, j < 5 → w.cell? ⟨g, 0 + i * 5 + j, none⟩ = (sessCells r)[j]? := fun j hj => by
        rw [Nat.zero_add, hrow.cellAt (i * 5 + j) (by omega), flatG_at sessCells_len hr j hj]
      have he := h.reps.each r (List.mem_of_getElem? hr)
      exact ⟨r.2, by simpa [sessCells] using key 0 (by omega), by simpa [sessCells] using key 1 (by omega), by simpa [sessCells] using key 2 (by omega), by simpa [sessCells] using key 3 (by omega), by simpa [sessCells] using key 4 (by omega), he.reads hB, TagB.of hg⟩

theorem OwnS.keep (h : OwnS w base v rs) (hr : ∀ b, v.ownBlock = some b → w'.heap[b]? = w.heap[b]?) (hk : ∀ b ∈ repBlocks rs, w'.heap[b]? = w.heap[b]?) : OwnS w' base v rs :=
  ⟨grow_keep h.row hr, h.reps.keep hk, h.len⟩

theorem OwnS.below (h : OwnS w base v rs) {B : Nat} (hb : Below B w w') (hB : w.heap.size ≤ B) : OwnS w' base v rs :=
  h.keep (fun b hbk => hb.block b (by have := (h.row.lt b hbk).2; omega)) (fun b hbk => hb.block b (by have := (h.reps.lt hbk).2; omega))

theorem OwnS.mono {base' : Nat} (h : OwnS w base v rs) (hb : base' ≤ base) : OwnS w base' v rs :=
  ⟨grow_mono h.row hb, h.reps.mono hb, h.len⟩

theorem OwnS.nil (w : World) (base : Nat) : OwnS w base (.slice none 0 0) [] := ⟨World.ownsRow_nil _ _ _ _, Reps.nil _ _, by simp⟩

theorem OwnS.len_eq (h : OwnS w base (.slice (some ⟨g, 0, none⟩) n cap) rs) : n = rs.length := by
  rcases h.row.2 with ⟨e, _⟩ | ⟨_, _, _, e, _⟩
  · cases e
  · simp only [Value.slice.injEq] at e; exact e.2.1

theorem OwnS.cellAt (h : OwnS w base (.slice (some ⟨g, 0, none⟩) n cap) rs) (hr : rs[i]? = some r) (j : Nat) (hj : j < 5) : w.cell? ⟨g, i * 5 + j, none⟩ = (sessCells r)[j]? := by
  have hrow := h.row
  have hn := h.len_eq
  subst hn
  have hi : i < rs.length := (List.getElem?_eq_some_iff.1 hr).1
  rw [hrow.cellAt (i * 5 + j) (by omega), flatG_at sessCells_len hr j hj]

theorem OwnS.cells (h : OwnS w base (.slice (some ⟨g, 0, none⟩) n cap) rs) (hr : rs[i]? = some r) :
    w.cell? ⟨g, i * 5, none⟩ = some (.int .i64 r.1.client) ∧ w.cell? ⟨g, i * 5 + 1, none⟩ = some (.int .i64 r.1.id) ∧ w.cell? ⟨g, i * 5 + 2, none⟩ = some (.int .i64 r.1.acked) ∧ w.cell? ⟨g, i * 5 + 3, none⟩ = some (.int .i64 r.1.last) ∧ w.cell? ⟨g, i * 5 + 4, none⟩ = some r.2 :=
  ⟨by simpa [sessCells] using h.cellAt hr 0 (by omega), by simpa [sessCells] using h.cellAt hr 1 (by omega), by simpa [sessCells] using h.cellAt hr 2 (by omega), by simpa [sessCells] using h.cellAt hr 3 (by omega), by simpa [sessCells] using h.cellAt hr 4 (by omega)⟩

theorem OwnS.frozenAt (h : OwnS w base (.slice (some ⟨g, 0, none⟩) n cap) rs) (j : Nat) : w.frozen? ⟨g, j, none⟩ = false := by
  have hn := h.len_eq
  have := h.row
  rw [← hn] at this
  exact this.frozenAt j

theorem OwnS.block (h : OwnS w base (.slice (some ⟨g, 0, none⟩) n cap) rs) : base ≤ g ∧ g < w.heap.size := h.row.lt g rfl

theorem sess_split (hr : rs[i]? = some r) : ∃ p s, rs = p ++ r :: s ∧ p.length = i ∧ ∀ q, rs.set i q = p ++ q :: s := by
  obtain ⟨hi, he⟩ := List.getElem?_eq_some_iff.1 hr
  have hl : (rs.take i).length = i := by rw [List.length_take]; omega
  have e : rs = rs.take i ++ r :: rs.drop (i + 1) := by rw [← he, ← List.drop_eq_getElem_cons hi, List.take_append_drop]
  refine ⟨rs.take i, rs.drop (i + 1), e, hl, fun q => ?_⟩
  conv => lhs; rw [e]
  rw [List.set_append_right _ _ (by omega), hl]
  simp

/-- The row put anew at one session, the others' replies left alone. -/
theorem OwnS.put (h : OwnS w base v rs) (hr : rs[i]? = some r) (hrow : w'.ownsRow base 121 5 v (rs.set i r').length (flatG sessCells (rs.set i r')))
    (ho : OwnK w' base r'.2 r'.1.replies) (hk : ∀ b ∈ repBlocks rs, r.2.ownBlock ≠ some b → w'.heap[b]? = w.heap[b]?)
    (hnew : ∀ b, r'.2.ownBlock = some b → r.2.ownBlock = some b ∨ w.heap.size ≤ b) : OwnS w' base v (rs.set i r') := by
  obtain ⟨p, s, hrs, hp, hset⟩ := sess_split hr
  refine ⟨hrow, ?_, by rw [List.length_set]; exact h.len⟩
  rw [hset]
  have hnd := h.reps.nodup
  rw [hrs, repBlocks_append, repBlocks_cons] at hnd
  have h1 := List.nodup_append.1 hnd
  have h2 := List.nodup_append.1 h1.2.1
  have hps : Reps w base (p ++ s) := h.reps.sub (by rw [hrs]; exact List.Sublist.append (List.Sublist.refl _) (List.sublist_cons_self _ _))
  have hsep : ∀ b ∈ repBlocks (p ++ s), r.2.ownBlock ≠ some b := by
    intro b hb e
    rw [repBlocks_append] at hb
    rcases List.mem_append.1 hb with hb | hb
    · exact h1.2.2 b hb b (by simp [e]) rfl
    · exact h2.2.2 b (by simp [e]) b hb rfl
  have hsub : ∀ b ∈ repBlocks (p ++ s), b ∈ repBlocks rs := by
    intro b hb
    rw [repBlocks_append] at hb
    rw [hrs, repBlocks_append, repBlocks_cons]
    rcases List.mem_append.1 hb with hb | hb
    · exact List.mem_append_left _ hb
    · exact List.mem_append_right _ (List.mem_append_right _ hb)
  refine Reps.mid (hps.keep fun b hb => hk b (hsub b hb) (hsep b hb)) ho fun b hb hin => ?_
  rcases hnew b hb with e | e
  · exact hsep b hin e
  · have := (hps.lt hin).2
    omega

/-- One cell of a session put anew: the row. -/
theorem OwnS.row_set (h : OwnS w base (.slice (some ⟨g, 0, none⟩) n cap) rs) (hr : rs[i]? = some r) (hg : w'.heap[g]? = w.heap[g]?) (j : Nat) (u : Value) (hj : j < 5) (hx : (sessCells r).set j u = sessCells r') :
    (w'.setCell ⟨g, i * 5 + j, none⟩ u).ownsRow base 121 5 (.slice (some ⟨g, 0, none⟩) n cap) (rs.set i r').length (flatG sessCells (rs.set i r')) := by
  have hn := h.len_eq
  have hrow := grow_keep (w' := w') h.row (fun b hb => by
    have : g = b := by simpa [Value.ownBlock] using hb
    rw [← this]; exact hg)
  rw [List.length_set, ← hn]
  rw [← hn] at hrow
  have := (hrow.stored (i * 5 + j) u).1
  rwa [flatG_set sessCells_len hr j hj u hx] at this

theorem OwnS.setInt (h : OwnS w base (.slice (some ⟨g, 0, none⟩) n cap) rs) (hr : rs[i]? = some r) (j : Nat) (u : Value) (hj : j < 5) (x' : SessD) (hx : (sessCells r).set j u = sessCells (x', r.2)) (hrep : x'.replies = r.1.replies) :
    OwnS (w.setCell ⟨g, i * 5 + j, none⟩ u) base (.slice (some ⟨g, 0, none⟩) n cap) (rs.set i (x', r.2)) := by
  have key : ∀ b, b ≠ g → (w.setCell ⟨g, i * 5 + j, none⟩ u).heap[b]? = w.heap[b]? := fun b hb => heap_setCell_other _ _ _ _ (by simpa using hb)
  have hne : ∀ b ∈ repBlocks rs, b ≠ g := fun b hb e => h.apart hb (by rw [e]; rfl)
  refine h.put hr (h.row_set hr rfl j u hj hx) ?_ (fun b hb _ => key b (hne b hb)) (fun b hb => Or.inl hb)
  rw [hrep]
  exact (h.reps.each r (List.mem_of_getElem? hr)).keep fun b hb => key b (hne b (mem_repBlocks.2 ⟨r, List.mem_of_getElem? hr, hb⟩))

theorem OwnS.setLast (h : OwnS w base (.slice (some ⟨g, 0, none⟩) n cap) rs) (hr : rs[i]? = some r) (a : Int) :
    OwnS (w.setCell ⟨g, i * 5 + 3, none⟩ (.int .i64 a)) base (.slice (some ⟨g, 0, none⟩) n cap) (rs.set i ({ r.1 with last := a }, r.2)) := h.setInt hr 3 _ (by omega) _ rfl rfl

theorem OwnS.setAcked (h : OwnS w base (.slice (some ⟨g, 0, none⟩) n cap) rs) (hr : rs[i]? = some r) (a : Int) :
    OwnS (w.setCell ⟨g, i * 5 + 2, none⟩ (.int .i64 a)) base (.slice (some ⟨g, 0, none⟩) n cap) (rs.set i ({ r.1 with acked := a }, r.2)) := h.setInt hr 2 _ (by omega) _ rfl rfl

/-- The replies put anew, behind a step that wrote the old replies' block alone, and new ones. -/
theorem OwnS.setReplies {w1 : World} {lv : Value} {ks : List KeptD} (h : OwnS w base (.slice (some ⟨g, 0, none⟩) n cap) rs) (hr : rs[i]? = some r) (hg : TouchG w w1 (fun b => r.2.ownBlock = some b)) (ho : OwnK w1 base lv ks)
    (hnew : ∀ b, lv.ownBlock = some b → r.2.ownBlock = some b ∨ w.heap.size ≤ b) :
    OwnS (w1.setCell ⟨g, i * 5 + 4, none⟩ lv) base (.slice (some ⟨g, 0, none⟩) n cap) (rs.set i ({ r.1 with replies := ks }, lv)) := by
  have hgb := h.block
  have hrm := List.mem_of_getElem? hr
  have hne : ∀ b ∈ repBlocks rs, b ≠ g := fun b hb e => h.apart hb (by rw [e]; rfl)
  have hrne : r.2.ownBlock ≠ some g := fun e => hne g (mem_repBlocks.2 ⟨r, hrm, e⟩) rfl
  have key : ∀ b, b ≠ g → (w1.setCell ⟨g, i * 5 + 4, none⟩ lv).heap[b]? = w1.heap[b]? := fun b hb => heap_setCell_other _ _ _ _ (by simpa using hb)
  refine h.put hr (h.row_set hr (hg.block g hgb.2 hrne) 4 lv (by omega) rfl) (ho.keep fun b hb => key b ?_) (fun b hb hnb => ?_) hnew
  · rcases hnew b hb with e | e
    · exact hne b (mem_repBlocks.2 ⟨r, hrm, e⟩)
    · omega
  · rw [key b (hne b hb)]
    exact hg.block b (h.reps.lt hb).2 hnb

end

end Go.Proofs.YtijilhbdbeajjaaGreatDoor
