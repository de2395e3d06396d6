/- cluster.due, cluster.right: what is due to a replica, and how much of it a replica has; append at large, as a step of a region that draws; what more mails, more committed texts, another leader leave of the town; cluster.commit: all entries are committed up to which a replica but the leader is right; log.refusePut, log.passedOver; log.Put; log.Put, where nothing is refused; log.Cut; What is asked of package log: it answers so; replica.Hear, at a replica that may be; The strings.Builder that lies in package snap's writer: a text is put behind what it has; all of it is told; package snap's writer: numbers and texts are put behind what it has; package snap's writeList, at its five types: how many, and each one, put behind what the writer has (joined by program) -/
import Derived.Deep.QuietTactic
import Derived.BigQuiet
import Derived.Deep.RegionHeld3
import Derived.BigRegion
import Derived.Deep.AppendLies
import Derived.Laws.OwnMore
import Derived.Deep.RegionLaw
import Derived.Deep.RegionWith
import Derived.Test.YtijilhbdbeajjaaGreatDoorTT44
import Derived.Test.YtijilhbdbeajjaaGreatDoorTT42
import Derived.Test.YtijilhbdbeajjaaGreatDoorTT41
import Derived.Test.YtijilhbdbeajjaaGreatDoorTT39
import Derived.Test.YtijilhbdbeajjaaGreatDoorTT00
import Derived.Test.YtijilhbdbeajjaaGreatDoorTT40
namespace Go.Proofs.YtijilhbdbeajjaaGreatDoor

open Go.RowKit

/-- slices.Concat of two lists, in a new row. -/
theorem concat_two (w : World) (B : Nat) (lv mv : Value) (ts us : List ByteArray) (h : TextsR w B lv ts) (k : TextsR w B mv us) (hB : B ≤ w.heap.size) (hl : (ts.length + us.length) * 16 ≤ 140737488351232) :
    Calls Tryz.prog 200 #[.slice (some ⟨w.heap.size, 0, none⟩) 2 2] (w.alloc (.cells #[lv, mv] 29)) fun e w' => ∃ vo, e = .returned vo ∧ TextsR w' w'.heap.size vo (ts ++ us) ∧ Below w.heap.size w w' := by
  have hm := h.sizes
  have hm2 := k.sizes
  refine (concat_any _ [ts, us] _ _ (ListsR.two h k hB) (by simp) (by simpa using hl)).mono ?_
  rintro e w' ⟨vo, rfl, hown, hb⟩
  simp only [List.flatten_cons, List.flatten_nil, List.append_nil] at hown
  refine ⟨vo, rfl, texts_reads hown (fun t ht => ?_) (by simpa using hl) (Nat.le_refl _), ((Below.refl w.heap.size w).alloc (Nat.le_refl _) _).trans (hb.mono (by simp))⟩
  rcases List.mem_append.1 ht with ht | ht
  · exact hm t ht
  · exact hm2 t ht

/-- The cells of the town's own block. -/
theorem six_cells {w : World} {p : Nat} {x0 x1 x2 x3 x4 x5 : Value} {t : TypeId} (h : w.heap[p]? = some (.cells #[x0, x1, x2, x3, x4, x5] t (0, 0))) :
    w.cell? ⟨p, 0, none⟩ = some x0 ∧ w.cell? ⟨p, 1, none⟩ = some x1 ∧ w.cell? ⟨p, 2, none⟩ = some x2 ∧ w.cell? ⟨p, 3, none⟩ = some x3 ∧ w.cell? ⟨p, 4, none⟩ = some x4 ∧ w.cell? ⟨p, 5, none⟩ = some x5 ∧ (∀ j, w.frozen? ⟨p, j, none⟩ = false) ∧ p < w.heap.size :=
  ⟨cells_of h 0, cells_of h 1, cells_of h 2, cells_of h 3, cells_of h 4, cells_of h 5, fun j => frozen_of_row w p j _ _ h, (Array.getElem?_eq_some_iff.1 h).1⟩

theorem odd_out : OddT 32 := ⟨by decide, by decide, by decide, by decide, by decide, by decide, by decide, by decide, by decide, by decide, by decide⟩

section

variable {gh g2 ev : Value} {w : World} {p : Nat} {K : Nat → Prop} {rv cv mv tv : Value} {xs : List RepV} {cs : List CustV} {t : TownD} {n : Nat}

/-- The texts that are committed, read. -/
theorem TownM.texts {ty : TypeId} {tl : List Value} (h : TownM ty tl w p K rv cv mv tv xs cs t) (hl : t.comm.length ≤ 400) : TextsR w w.heap.size tv t.comm := texts_reads h.comm h.modest (by omega) (Nat.le_refl _)

theorem lead_good (h : TownR t n) (hn : n ≤ 400) {k : Nat} (hk : k < 3) : repE (t.rep k) = 0 := by
  obtain ⟨b, i, hr⟩ := h.reps k hk
  exact hr.good h.comm (by have := h.few; omega) hn

theorem due_behind (h : TownR t n) (hn : n ≤ 400) : behindE t.lead.log t.comm.length 400 = 0 ∧ t.comm ++ behindL t.lead.log t.comm.length 400 = t.due := by
  obtain ⟨bl, il, hl⟩ := h.reps t.leader h.lead
  have hl0 : RepT t.comm n t.lead bl il := hl
  have hlow := hl0.low
  have hdone := hl0.done
  have htop := hl0.top
  obtain ⟨g1, -, -, -⟩ := repE_zero (lead_good h hn h.lead)
  have e : behindE t.lead.log t.comm.length 400 = 0 := by
    unfold behindE
    rw [show logE t.lead.log = 0 from g1, if_neg (by simp), hl0.base, if_neg (by omega)]
  refine ⟨e, ?_⟩
  unfold behindL TownD.due
  rw [if_pos e, hl0.base, List.take_of_length_le]
  · congr 2
    simp only [Int.toNat_natCast]
    omega
  · rw [List.length_drop]
    show _ ≤ 400
    omega

set_option maxRecDepth 100000 in
set_option maxHeartbeats 3200000 in
theorem due_any (h : TownM 32 [gh, g2, ev] w p K rv cv mv tv xs cs t) (hG : TownR t n) (hn : n ≤ 400) :
    Calls Tryz.prog 152 #[.pointer (some ⟨p, 0, none⟩)] w fun e w' => ∃ vo, e = .returned vo ∧ TextsR w' w'.heap.size vo t.due ∧ Below w.heap.size w w' := by
  obtain ⟨hbe, hdu⟩ := due_behind hG hn
  have hfew := hG.few
  have hlead := hG.lead
  have htx := h.texts (by omega)
  have hdl := (due_len hG).2
  obtain ⟨x, hx, hxd, hxr⟩ := h.rep hlead
  obtain ⟨g, cap, rfl, hcap, -⟩ := h.rrow
  obtain ⟨r0, r1, -, -, -, -, -, -, hgl⟩ := h.rcells rfl hx
  obtain ⟨c0, c1, c2, c3, c4, c5, cf, hpl⟩ := six_cells h.cells
  obtain ⟨xd, eo, lo, po, so, ec, ln, lc, pn, pc, sn, sc⟩ := x
  simp only at hxd r0 r1
  subst hxd
  obtain ⟨eo', _, _, _, ec', _, _, _, _, _, _, he, hlog, -, -⟩ := hxr.parts
  simp only [RepV.val, Value.agg.injEq, Array.mk.injEq, List.cons.injEq, Value.slice.injEq, true_and, and_true] at he
  obtain ⟨⟨rfl, rfl⟩, -⟩ := he
  have hlr : LogR w w.heap.size (.agg #[.int .i64 t.lead.log.base, .slice eo t.lead.log.ents.length ec]) t.lead.log := hlog
  have hrb : (t.rep t.leader) = t.lead := rfl
  rw [hrb] at r0 r1
  obtain ⟨qo, qc, rfl⟩ := htx.slice
  have CB := ghid (fun (u : World) (hu : Below w.heap.size w u) => behind_new _ t.lead.log t.comm.length 400 u w.heap.size (hlr.below hu (Nat.le_refl _)) hu.size (by omega) (by omega))
  have HT := ghid htx
  rw [hbe] at CB
  have HC3 := ghid h.cells
  have CC := ghid (fun (u : World) (mv : Value) (hu : Below w.heap.size w u) (hm : TextsR u u.heap.size mv (behindL t.lead.log t.comm.length 400)) => concat_two u u.heap.size (.slice qo t.comm.length qc) mv _ _ ((HT.out.below hu (Nat.le_refl _)).mono hu.size) hm (Nat.le_refl _) (by rw [← List.length_append, hdu]; omega))
  rw [hdu] at CC
  obtain ⟨bs, hbs⟩ : ∃ z, z = behindL t.lead.log t.comm.length 400 := ⟨_, rfl⟩
  rw [← hbs] at CB CC
  obtain ⟨lb, hlb⟩ : ∃ z, z = t.lead.log.base := ⟨_, rfl⟩
  obtain ⟨le, hle⟩ : ∃ z, z = t.lead.log.ents.length := ⟨_, rfl⟩
  rw [← hlb] at r0 CB
  rw [← hle] at r1 CB
  obtain ⟨ld, hld⟩ : ∃ z, z = t.leader := ⟨_, rfl⟩
  rw [← hld] at r0 r1 c4 hlead HC3
  obtain ⟨cl, hcl⟩ : ∃ z, z = t.comm.length := ⟨_, rfl⟩
  rw [← hcl] at CB CC c3 hfew HC3
  obtain ⟨du, hdue⟩ : ∃ z, z = t.due := ⟨_, rfl⟩
  rw [← hdue] at CC ⊢
  have hl1 : (ld : Int) < 3 := by omega
  have hl0 : (0 : Int) ≤ ld := by omega
  clear h hG htx hdu hbe hxr hlog hlr hrb hbs hlb hle hld hcl hdue hx hdl
  go_enter Tryz.func152, Tryz.ntmps152
  go_wp2_with fail
  go_region_held3 (fun w' => w'.cell? ⟨p, 0, none⟩ = some (.slice (some ⟨g, 0, none⟩) 3 cap) ∧ w'.cell? ⟨p, 3, none⟩ = some (.slice qo cl qc) ∧ w'.cell? ⟨p, 4, none⟩ = some (.int .i64 (ld : Int)) ∧ w'.cell? ⟨g, ld * 7, none⟩ = some (.int .i64 lb) ∧ w'.cell? ⟨g, ld * 7 + 1, none⟩ = some (.slice eo le ec)) (go_keep)
    (first
      | (go_at_call 199; have hd := (Below.refl w.heap.size w).drew; refine (CB.out _ hd).mono ?_; rintro e w1 ⟨v1, rfl, hn1, hb1⟩; have HN1 := ghid hn1; have HB1 := ghid (hd.trans hb1); obtain ⟨c0, c1, c2, c3, c4, c5, cf, hpl⟩ := six_cells ((HB1.out.block p hpl).trans HC3.out); have r0 := (HB1.out.cell (p := ⟨g, ld * 7, none⟩) hgl).trans r0; have r1 := (HB1.out.cell (p := ⟨g, ld * 7 + 1, none⟩) hgl).trans r1; clear hn1 hb1 hd))
  obtain ⟨mo, mc, rfl⟩ := HN1.out.now.slice
  go_wp2_with fail
  refine (CC.out _ _ HB1.out HN1.out.now).mono ?_
  rintro e w2 ⟨vo, rfl, ht2, hb2⟩
  have HT2 := ghid ht2
  have HB2 := ghid (HB1.out.trans (hb2.mono HB1.out.size))
  clear ht2 hb2
  go_wp2
  go_ret
  exact ⟨vo, rfl, HT2.out, HB2.out⟩

set_option maxRecDepth 100000 in
set_option maxHeartbeats 3200000 in
theorem right_raw (x : RepV) (dv : Value) (du : List ByteArray) (w : World) (B : Nat) (hx : RepR w B x.val x.d) (hd : TextsR w B dv du) (hB : B ≤ w.heap.size) (b : Nat) (hb : x.d.log.base = b) (hbd : b ≤ du.length) (hdl : du.length ≤ 400) (hel : x.d.log.ents.length ≤ 400) :
    Calls Tryz.prog 151 #[x.val, dv] w fun e w' => e = .returned (.int .i64 ((b + sameN x.d.log.ents (du.drop b) : Nat) : Int)) ∧ Below w.heap.size w w' := by
  obtain ⟨eo', _, _, _, ec', _, _, _, _, _, _, he, hlog, -, -⟩ := hx.parts
  obtain ⟨⟨⟨base, ents⟩, sp, s⟩, eo, lo, po, so, ec, ln, lc, pn, pc, sn, sc⟩ := x
  simp only at hb hel
  subst hb
  simp only [RepV.val, Value.agg.injEq, Array.mk.injEq, List.cons.injEq, Value.slice.injEq, true_and, and_true] at he
  obtain ⟨⟨rfl, rfl⟩, -⟩ := he
  have hte := hlog.part
  obtain ⟨qo, qc, rfl⟩ := hd.slice
  have hqc := hd.cap
  have hec := hte.cap
  obtain ⟨tl1, tl2⟩ := hd.tail hbd
  obtain ⟨ix, hix⟩ : ∃ z, z = s.index := ⟨_, rfl⟩
  simp only [RepV.val]
  rw [← hix]
  clear hx hlog hix
  have hbd0 : (0 : Int) ≤ b := by omega
  have hbd1 : (b : Int) ≤ du.length := by omega
  go_enter Tryz.func151, Tryz.ntmps151
  have hel0 : (0 : Int) ≤ ents.length := by omega
  go_wp2
  all_goals first | have HD := ghid (tl1 (by assumption)) | have HD := ghid (tl2 (by assumption))
  all_goals
    clear tl1 tl2 h hqc
    generalize Option.map (fun (x : Addr) => x.add b) qo = X at *
    generalize qc - b = C at *
    have HE := ghid hte
    clear hd hte
    go_loopw [5] (fun i wr => ∃ k : Nat, k ≤ ents.length ∧ k ≤ du.length - b ∧ i = .int .i64 k ∧ Hid (∀ j, j < k → ents[j]? = (du.drop b)[j]?) ∧ wr.heap[w.heap.size]? = some (.cells #[.int .i64 b, .slice eo ents.length ec, .string sp, .int .i64 ix, .slice lo ln lc, .slice po pn pc, .slice so sn sc] 50 (0, 0)) ∧ Below w.heap.size w wr) (fun i _ => ents.length - (intOf i).toNat)
    case atStart => exact ⟨0, Nat.zero_le _, Nat.zero_le _, rfl, fun j hj => absurd hj (by omega), heap_alloc_new w _, (Below.refl _ _).alloc (Nat.le_refl _) _⟩
    case round =>
      obtain ⟨k, hk1, hk2, rfl, HS, hx0, hbw⟩ := hrel
      have HX0 := ghid hx0
      have HBW := ghid hbw
      obtain ⟨p0, p1, p2, p3, p4, p5, p6, pf, pl⟩ := seven_cells hx0
      clear hx0 hbw
      by_cases hlk : k < du.length - b ∧ k < ents.length
      · obtain ⟨hl1, hl2⟩ := hlk
        have hlt : (k : Int) < min ((du.length - b : Nat) : Int) (ents.length : Int) := Int.lt_min.2 ⟨by omega, by omega⟩
        obtain ⟨x, hx⟩ : ∃ x, ents[k]? = some x := ⟨_, List.getElem?_eq_getElem (by omega)⟩
        obtain ⟨y, hy⟩ : ∃ y, (du.drop b)[k]? = some y := ⟨_, List.getElem?_eq_getElem (by rw [List.length_drop]; omega)⟩
        obtain ⟨ao1, cp1, e1, -, -, -, f1⟩ := HE.out.below HBW.out hB
        obtain ⟨ao2, cp2, e2, -, -, -, f2⟩ := HD.out.below HBW.out hB
        simp only [Value.slice.injEq] at e1 e2
        obtain ⟨rfl, -, rfl⟩ := e1
        obtain ⟨rfl, -, rfl⟩ := e2
        obtain ⟨b1, o1, rfl, hb1, q1⟩ := f1 (by omega)
        obtain ⟨b2, o2, rfl, hb2, q2⟩ := f2 (by rw [List.length_drop]; omega)
        have d1 := (q1 k x hx).1
        have d2 := (q2 k y hy).1
        have hk3 : (k : Int) < ents.length := by omega
        have hk4 : (k : Int) < ((du.length - b : Nat) : Int) := by omega
        have hk5 : (0 : Int) ≤ k := by omega
        have HX := ghid hx
        have HY := ghid hy
        clear hx hy q1 q2 f1 f2
        have HBD := ghid (HBW.out.trans (g_drewN_below _ wr 1))
        by_cases hxy : x = y
        · have HN : Hid (∀ j, j < k + 1 → ents[j]? = (du.drop b)[j]?) := fun j hj => by
            by_cases e : j = k
            · rw [e, HX.out, HY.out, hxy]
            · exact HS.out j (by omega)
          subst hxy
          go_wp2_with fail
          go_region_held3 (fun w' => w'.cell? ⟨w.heap.size, 1, none⟩ = some (.slice (some ⟨b1, o1, none⟩) ents.length ec) ∧ w'.cell? ⟨b1, o1 + k, none⟩ = some (.string x) ∧ w'.cell? ⟨b2, o2 + k, none⟩ = some (.string x)) (go_keep) (fail)
          go_wp2
          go_roundw
          case rel => exact ⟨k + 1, by omega, by omega, by go_num, HN, HX0.out, HBD.out⟩
          case measure => simp [intOf]; omega
        · have HN : Hid (sameN ents (du.drop b) = k) := sameN_of _ _ _ hk1 (by rw [List.length_drop]; omega) HS.out (.inr (.inr (by rw [HX.out, HY.out]; simpa using hxy)))
          have hxb : (x.toList == y.toList) = false := by
            rw [beq_eq_false_iff_ne]
            intro e
            rw [ByteArray.toList_eq, ByteArray.toList_eq] at e
            exact hxy (ByteArray.ext (Array.toList_inj.1 e))
          have hw5 : IntKind.i64.wrap ((b : Int) + k) = b + k := by rw [IntKind.wrap_i64]; omega
          go_wp2_with fail
          go_region_held3 (fun w' => w'.cell? ⟨w.heap.size, 1, none⟩ = some (.slice (some ⟨b1, o1, none⟩) ents.length ec) ∧ w'.cell? ⟨b1, o1 + k, none⟩ = some (.string x) ∧ w'.cell? ⟨b2, o2 + k, none⟩ = some (.string y)) (go_keep) (fail)
          go_wp2
          go_ret
          exact ⟨sret_int (by rw [HN.out, Int.natCast_add]), HBD.out⟩
      · have HN : Hid (sameN ents (du.drop b) = k) := sameN_of _ _ _ hk1 (by rw [List.length_drop]; omega) HS.out (by rw [List.length_drop]; omega)
        have hmin : min ((du.length - b : Nat) : Int) (ents.length : Int) = k := by rw [Int.min_def]; split <;> omega
        have hw5 : IntKind.i64.wrap ((b : Int) + k) = b + k := by rw [IntKind.wrap_i64]; omega
        have HBD := ghid (fun m => HBW.out.trans (g_drewN_below _ wr m))
        go_wp2_with fail
        go_region
        go_wp2
        go_ret
        exact ⟨sret_int (by rw [HN.out, Int.natCast_add]), HBD.out _⟩

end

end Go.Proofs.YtijilhbdbeajjaaGreatDoor

namespace Go.Proofs.YtijilhbdbeajjaaGreatDoor

open Go.RowKit

section

variable {P : Program}

/-- append of a row's elements, or of nothing, onto a row that the call owns. -/
theorem run_append_any (w : World) (t ty e : TypeId) (i : TypeInfo) (z : Value) (size bytes : Nat) (ht : P.underlying t = some (.slice e)) (hi : P.info? e = some i) (hz : i.zero = some z) (hsize : i.size = size) (hby : i.bytes = bytes) (hzs : z.cells.size = size) (hsz : 0 < size)
    (v : Value) (n : Nat) (xs : List Value) (hown : w.ownsRow 0 e size v n xs) (xo : Option Addr) (m c : Nat) (news : List Value) (hno : xo = none → m = 0 ∧ c = 0) (hl : news.length = m * size) (hnews : ∀ a, xo = some a → ∀ j u, news[j]? = some u → w.cell? (a.add j) = some u) (h1 : ∀ u ∈ news, u.oneCell' = true) (h63 : n + m ≤ maxLen) (hbytes : (n + m) * bytes ≤ 140737488355328) :
    ∃ v' w', (Builtin.append_ #[t, t] ty #[v, .slice xo m c]).run P w = .ok v' w' ∧ w'.ownsRow 0 e size v' (n + m) (xs ++ news) ∧ w.grownBy w' v.ownBlock ∧ (v'.ownBlock = v.ownBlock ∨ v'.ownBlock = some w.heap.size) := by
  cases xo with
  | none =>
    obtain ⟨rfl, rfl⟩ := hno rfl
    have hn : news = [] := List.eq_nil_of_length_eq_zero (by simpa using hl)
    subst hn
    exact ⟨v, w, run_append_owned_none w 0 t ty e i size ht hi v n xs hown, by simpa using hown, World.grownBy.refl _ _, .inl rfl⟩
  | some a =>
    obtain ⟨v', w', hr, h2, h3, _, h5⟩ := run_append_own_at (P := P) w 0 t ty e i z size bytes ht hi hz hsize hby hzs hsz v n xs hown a m c news hl (hnews a rfl) h1 h63 hbytes (Nat.zero_le _)
    exact ⟨v', w', hr, h2, h3, h5⟩

theorem wp_append_any {w : World} {o : Oper} {a : Act} {K : Act → World → Prop} {Q : Exit → Act → World → Prop} (s x : Operand) (t : TypeId)
    (ho : o.op = .call { callee := .builtin .append, args := #[s, x], argTypes := #[t, t] }) (e : TypeId) (i : TypeInfo) (z : Value) (size bytes : Nat) (ht : P.underlying t = some (.slice e)) (hi : P.info? e = some i) (hz : i.zero = some z) (hsize : i.size = size) (hby : i.bytes = bytes) (hzs : z.cells.size = size) (hsz : 0 < size)
    (v : Value) (n : Nat) (xs : List Value) (hs : a.eval s = v) (hown : w.ownsRow 0 e size v n xs) (xo : Option Addr) (m c : Nat) (news : List Value) (hx : a.eval x = .slice xo m c) (hno : xo = none → m = 0 ∧ c = 0) (hl : news.length = m * size) (hnews : ∀ a, xo = some a → ∀ j u, news[j]? = some u → w.cell? (a.add j) = some u) (h1 : ∀ u ∈ news, u.oneCell' = true) (h63 : n + m ≤ maxLen) (hbytes : (n + m) * bytes ≤ 140737488355328)
    (h : ∀ ao cap w', w'.ownsRow 0 e size (.slice ao (n + m) cap) (n + m) (xs ++ news) → w.grownBy w' v.ownBlock → ((Value.slice ao (n + m) cap).ownBlock = v.ownBlock ∨ (Value.slice ao (n + m) cap).ownBlock = some w.heap.size) → K (a.put o.dst (.slice ao (n + m) cap)) w') : o.wp P a w K Q := by
  obtain ⟨v', w', hr, h2, h3, h4⟩ := run_append_any (P := P) w t o.type e i z size bytes ht hi hz hsize hby hzs hsz v n xs hown xo m c news hno hl hnews h1 h63 hbytes
  obtain ⟨ao, cap, rfl⟩ := grow_shape h2
  unfold Oper.wp execOp
  simp only [ho, resolve, invoke, builtin, Sem.run_bind, Sem.run_pure, Result.andThen_ok, List.map_toArray, List.map_cons, List.map_nil, hs, hx, hr]
  exact h ao cap w' h2 h3 h4

/-- At a step of a region that draws its order. -/
theorem step_append_any {w : World} {ops : Array Oper} {o : Oper} {a : Act} {K : Act → World → Prop} {Q : Exit → Act → World → Prop} {E : Prop} (hgd : o.guard = none) (s x : Operand) (t : TypeId)
    (ho : o.op = .call { callee := .builtin .append, args := #[s, x], argTypes := #[t, t] }) (e : TypeId) (i : TypeInfo) (z : Value) (size bytes : Nat) (ht : P.underlying t = some (.slice e)) (hi : P.info? e = some i) (hz : i.zero = some z) (hsize : i.size = size) (hby : i.bytes = bytes) (hzs : z.cells.size = size) (hsz : 0 < size)
    (v : Value) (n : Nat) (xs : List Value) (hs : a.eval s = v) (hown : w.ownsRow 0 e size v n xs) (xo : Option Addr) (m c : Nat) (news : List Value) (hx : a.eval x = .slice xo m c) (hno : xo = none → m = 0 ∧ c = 0) (hl : news.length = m * size) (hnews : ∀ a, xo = some a → ∀ j u, news[j]? = some u → w.cell? (a.add j) = some u) (h1 : ∀ u ∈ news, u.oneCell' = true) (h63 : n + m ≤ maxLen) (hbytes : (n + m) * bytes ≤ 140737488355328)
    (h : ∀ ao cap w', w'.ownsRow 0 e size (.slice ao (n + m) cap) (n + m) (xs ++ news) → w.grownBy w' v.ownBlock → ((Value.slice ao (n + m) cap).ownBlock = v.ownBlock ∨ (Value.slice ao (n + m) cap).ownBlock = some w.heap.size) → K (a.put o.dst (.slice ao (n + m) cap)) w') :
    if Region.wanted o (yielded ops a.tmps) = true then Oper.wp P o a w K Q else E := by
  have hw : Region.wanted o (yielded ops a.tmps) = true := by simp [Region.wanted, hgd]
  rw [if_pos hw]
  exact wp_append_any s x t ho e i z size bytes ht hi hz hsize hby hzs hsz v n xs hs hown xo m c news hx hno hl hnews h1 h63 hbytes h

end

section

variable {ty : TypeId} {tl : List Value} {w : World} {p : Nat} {K : Nat → Prop} {rv cv mv tv : Value} {xs : List RepV} {cs : List CustV} {t : TownD}

theorem touch_one {w : World} (p j : Nat) (u : Value) : TouchG w (w.setCell ⟨p, j, none⟩ u) (fun b => b = p) := (TouchG.refl w (fun b => b = p)).setCell (a := ⟨p, j, none⟩) (Or.inl rfl) u

/-- More texts, or others, are committed. -/
theorem TownM.grewComm (h : TownM ty tl w p K rv cv mv tv xs cs t) (ho : OddT ty) {w0 : World} {tv' : Value} {cm : List ByteArray} (ht : TouchG w w0 (fun g => tv.ownBlock = some g)) (hc : w0.ownsRow 0 9 1 tv' cm.length (textCells cm)) (hcs : ∀ x ∈ cm, x.size ≤ 140737488351232) (hat : ∀ g, g < w.heap.size → tv'.ownBlock = some g → tv.ownBlock = some g) :
    MovedE ty tl w (w0.setCell ⟨p, 3, none⟩ tv') p K { t with comm := cm } := by
  have hp : p < w.heap.size := h.lt ((h.kdef p).2 (.inl rfl))
  have hnp : tv.ownBlock ≠ some p := fun e => by
    obtain ⟨c, hcc⟩ := grow_tag h.comm e
    rw [h.cells] at hcc
    simp only [Option.some.injEq, Obj.cells.injEq] at hcc
    exact ho.2.2.2.2.2.2.2.2.1 hcc.2.1
  have hp0 := (ht.block p hp hnp).trans h.cells
  have hm : w0.ownsRow 0 92 5 mv t.mails.length (flatG mailCells t.mails) := grow_keep h.mails fun b hb => ht.block b (h.mails.lt b hb).2 fun e => grow_ne h.mails h.comm (by decide) hb e
  refine ⟨fun g => g = p ∨ rv.ownBlock = some g ∨ cv.ownBlock = some g ∨ mv.ownBlock = some g ∨ tv'.ownBlock = some g ∨ ∃ v ∈ tl, v.ownBlock = some g, ⟨_, _, _, _, _, _, h.own ho ht (fun g _ e => .inr e) hm hc h.small hcs (fun _ _ e => e) hat (fun g => Iff.rfl) (touch_one p 3 tv') ?_⟩, fun g e => ?_, ?_⟩
  · rw [heap_set hp0]; simp
  · rcases Nat.lt_or_ge g w.heap.size with hl | hl
    · refine .inl ((h.kdef g).2 ?_)
      rcases e with e | e | e | e | e | e
      · exact .inl e
      · exact .inr (.inl e)
      · exact .inr (.inr (.inl e))
      · exact .inr (.inr (.inr (.inl e)))
      · exact .inr (.inr (.inr (.inr (.inl (hat g hl e)))))
      · exact .inr (.inr (.inr (.inr (.inr e))))
    · exact .inr hl
  · refine (ht.sub fun g hg e => ?_).trans (touch_one p 3 tv') fun g hg e => ?_
    · obtain ⟨c, hcc⟩ := grow_tag h.comm e
      exact ⟨(h.kdef g).2 (.inr (.inr (.inr (.inr (.inl e))))), h.notTail hcc (by decide) (by decide)⟩
    · subst e
      exact ⟨(h.kdef g).2 (.inl rfl), h.selfTail⟩

/-- More mails, or fewer, are on their way. -/
theorem TownM.grewMails (h : TownM ty tl w p K rv cv mv tv xs cs t) (ho : OddT ty) {w0 : World} {mv' : Value} {ms : List MailD} (ht : TouchG w w0 (fun g => mv.ownBlock = some g)) (hc : w0.ownsRow 0 92 5 mv' ms.length (flatG mailCells ms)) (hcs : ∀ m ∈ ms, m.reply.text.size ≤ 140737488351232) (hat : ∀ g, g < w.heap.size → mv'.ownBlock = some g → mv.ownBlock = some g) :
    MovedE ty tl w (w0.setCell ⟨p, 2, none⟩ mv') p K { t with mails := ms } := by
  have hp : p < w.heap.size := h.lt ((h.kdef p).2 (.inl rfl))
  have hnp : mv.ownBlock ≠ some p := fun e => by
    obtain ⟨c, hcc⟩ := grow_tag h.mails e
    rw [h.cells] at hcc
    simp only [Option.some.injEq, Obj.cells.injEq] at hcc
    exact ho.2.2.2.2.2.2.2.1 hcc.2.1
  have hp0 := (ht.block p hp hnp).trans h.cells
  have hm : w0.ownsRow 0 9 1 tv t.comm.length (textCells t.comm) := grow_keep h.comm fun b hb => ht.block b (h.comm.lt b hb).2 fun e => grow_ne h.comm h.mails (by decide) hb e
  refine ⟨fun g => g = p ∨ rv.ownBlock = some g ∨ cv.ownBlock = some g ∨ mv'.ownBlock = some g ∨ tv.ownBlock = some g ∨ ∃ v ∈ tl, v.ownBlock = some g, ⟨_, _, _, _, _, _, h.own ho ht (fun g _ e => .inl e) hc hm hcs h.modest hat (fun _ _ e => e) (fun g => Iff.rfl) (touch_one p 2 mv') ?_⟩, fun g e => ?_, ?_⟩
  · rw [heap_set hp0]; simp
  · rcases Nat.lt_or_ge g w.heap.size with hl | hl
    · refine .inl ((h.kdef g).2 ?_)
      rcases e with e | e | e | e | e | e
      · exact .inl e
      · exact .inr (.inl e)
      · exact .inr (.inr (.inl e))
      · exact .inr (.inr (.inr (.inl (hat g hl e))))
      · exact .inr (.inr (.inr (.inr (.inl e))))
      · exact .inr (.inr (.inr (.inr (.inr e))))
    · exact .inr hl
  · refine (ht.sub fun g hg e => ?_).trans (touch_one p 2 mv') fun g hg e => ?_
    · obtain ⟨c, hcc⟩ := grow_tag h.mails e
      exact ⟨(h.kdef g).2 (.inr (.inr (.inr (.inl e)))), h.notTail hcc (by decide) (by decide)⟩
    · subst e
      exact ⟨(h.kdef g).2 (.inl rfl), h.selfTail⟩

/-- Another leader. -/
theorem TownM.setLead (h : TownM ty tl w p K rv cv mv tv xs cs t) (ho : OddT ty) (k : Nat) : MovedE ty tl w (w.setCell ⟨p, 4, none⟩ (.int .i64 k)) p K { t with leader := k } := by
  refine ⟨K, ⟨_, _, _, _, _, _, h.own ho (TouchG.refl w (fun _ => False)) (fun _ _ e => e.elim) h.mails h.comm h.small h.modest (fun _ _ e => e) (fun _ _ e => e) h.kdef (touch_one p 4 _) ?_⟩, fun _ e => .inl e, (touch_one p 4 _).sub fun g _ e => ?_⟩
  · rw [heap_set h.cells]; simp
  · subst e
    exact ⟨(h.kdef g).2 (.inl rfl), h.selfTail⟩

end

end Go.Proofs.YtijilhbdbeajjaaGreatDoor

namespace Go.Proofs.YtijilhbdbeajjaaGreatDoor

open Go.RowKit

section

variable {gh g2 ev : Value} {w : World} {p : Nat} {K : Nat → Prop} {rv cv mv tv : Value} {xs : List RepV} {cs : List CustV} {t : TownD} {n : Nat}

/-- What a call of package replica answers, kept by the town. -/
theorem TownM.firmR {w1 : World} {v : Value} {r : RepD} (h : TownM 32 [gh, g2, ev] w p K rv cv mv tv xs cs t) (hb : Below w.heap.size w w1) (hf : Firm w.heap.size w1 (fun u => RepR u u.heap.size v r)) : ∃ y : RepV, v = y.val ∧ y.d = r ∧ FirmK K w1 (fun u => RepR u u.heap.size y.val y.d) := by
  obtain ⟨y, rfl, rfl⟩ := hf.now.v
  exact ⟨y, rfl, rfl, hf.k fun g _ hk => ⟨h.lt hk, (h.below hb).odd odd_out hk⟩⟩

/-- How far a replica of the town is right. -/
theorem right_any (h : TownR t n) (hn : n ≤ 400) {k : Nat} (hk : k < 3) (x : RepV) (hx : x.d = t.rep k) (dv : Value) (u : World) (B : Nat) (hr : RepR u B x.val (t.rep k)) (hd : TextsR u B dv t.due) (hB : B ≤ u.heap.size) :
    Calls Tryz.prog 151 #[x.val, dv] u fun e w' => e = .returned (.int .i64 ((t.right (t.rep k) : Nat) : Int)) ∧ Below u.heap.size u w' := by
  obtain ⟨b, i, hrep⟩ := h.reps k hk
  have hlow := hrep.low
  have hdone := hrep.done
  have htop := hrep.top
  have hdl := due_len h
  have hb := hrep.base
  have := right_raw x dv t.due u B (hx ▸ hr) hd hB b (by rw [hx]; exact hb) (by omega) (by omega) (by rw [hx]; omega)
  rw [right_due h, hb]
  rw [hx] at this
  exact this

theorem right_bound (h : TownR t n) {k : Nat} (hk : k < 3) : t.right (t.rep k) ≤ n := by
  obtain ⟨b, i, hr⟩ := h.reps k hk
  have := hr.right_le
  have := hr.top
  omega

theorem commit_is (h : TownR t n) : t.commit = { t with comm := t.comm ++ (t.due.drop t.comm.length).take (t.uptoK 3 - t.comm.length) } := by
  rw [← commit_more h, commit_due h]

/-- What lies at a slice of texts, to be appended. -/
theorem texts_news {w : World} {B : Nat} {ao : Option Addr} {m cap : Nat} {ts : List ByteArray} (h : TextsR w B (.slice ao m cap) ts) : (ao = none → m = 0 ∧ cap = 0) ∧ (textCells ts).length = m * 1 ∧ (∀ a, ao = some a → ∀ j u, (textCells ts)[j]? = some u → w.cell? (a.add j) = some u) := by
  obtain ⟨ao', cp, e, h1, h2, h3, h4⟩ := id h
  simp only [Value.slice.injEq] at e
  obtain ⟨rfl, rfl, rfl⟩ := e
  refine ⟨fun e => ⟨?_, h3 e⟩, by simp [textCells], fun a e => ?_⟩
  · refine Classical.byContradiction fun h0 => ?_
    obtain ⟨b, off, e', -⟩ := h4 (by omega)
    rw [e] at e'
    cases e'
  · subst e
    exact (texts_cells h).2

theorem uptoK_next (t : TownD) (k : Nat) : t.uptoK (k + 1) = if k = t.leader then t.uptoK k else max (t.uptoK k) (t.right (t.rep k)) := rfl

set_option maxRecDepth 100000 in
set_option maxHeartbeats 3200000 in
theorem commit_any (h : TownM 32 [gh, g2, ev] w p K rv cv mv tv xs cs t) (hG : TownR t n) (hn : n ≤ 400) :
    Calls Tryz.prog 153 #[.pointer (some ⟨p, 0, none⟩)] w fun e w' => e = .returned (.tuple #[]) ∧ MovedE 32 [gh, g2, ev] w w' p K t.commit := by
  obtain ⟨i0, hi0, hz0, hz1, hz2⟩ := info_parts Tryz.infoText
  have hlead := hG.lead
  have hfew := hG.few
  have hup1 := uptoK_ge t 3
  have hup2 := uptoK_le hG 3 (Nat.le_refl _)
  have hdl := due_len hG
  have htx := h.texts (by omega)
  obtain ⟨qo, qc, rfl⟩ := htx.slice
  obtain ⟨g, cap, rfl, hcap, -⟩ := h.rrow
  have HC := ghid h.cells
  have HH := ghid h
  have HCM := ghid (commit_is hG)
  have CD := ghid (fun (u : World) (hu : Below w.heap.size w u) => due_any (h.below hu) hG hn)
  have CR := ghid (fun (k : Nat) (hk : k < 3) (x : RepV) (hx : x.d = t.rep k) (dv : Value) (u : World) (hr : RepR u u.heap.size x.val (t.rep k)) (hd : TextsR u u.heap.size dv t.due) => right_any hG hn hk x hx dv u u.heap.size hr hd (Nat.le_refl _))
  have HRB := ghid (fun (k : Nat) (hk : k < 3) => right_bound hG hk)
  have HUL := ghid (fun (k : Nat) (hk : k ≤ 3) => Nat.le_trans (uptoK_le hG k hk) hdl.2)
  obtain ⟨c0, c1, c2, c3, c4, c5, cf, hpl⟩ := six_cells h.cells
  have hl1 : (t.leader : Int) < 3 := by omega
  clear h htx
  go_enter Tryz.func153, Tryz.ntmps153
  go_wp2_with fail
  go_region_held3 (fun w' => w'.cell? ⟨p, 3, none⟩ = some (.slice qo t.comm.length qc)) (go_keep)
    (first
      | (go_at_call 152; have hd := (Below.refl w.heap.size w).drew; refine (CD.out _ hd).mono ?_; rintro e w1 ⟨v1, rfl, hn1, hb1⟩; have HD1 := ghid hn1; have HB1 := ghid (hd.trans hb1); clear c0 c1 c2 c3 c4 c5 cf hpl; obtain ⟨c0, c1, c2, c3, c4, c5, cf, hpl⟩ := six_cells ((HB1.out.block p (HH.out.lt ((HH.out.kdef p).2 (.inl rfl)))).trans HC.out); clear hn1 hb1 hd))
  obtain ⟨ao, ac, rfl⟩ := HD1.out.slice
  have hac := HD1.out.cap
  clear CD c0 c1 c2 c3 c4 c5 cf hpl
  have HC1 := ghid ((HB1.out.block p (HH.out.lt ((HH.out.kdef p).2 (.inl rfl)))).trans HC.out)
  obtain ⟨c0, c1, c2, c3, c4, c5, cf, hpl⟩ := six_cells HC1.out
  go_wp2
  go_loopw [3, 18] (fun u i wr => ∃ k : Nat, k ≤ 3 ∧ i = .int .i64 k ∧ u = .int .i64 (t.uptoK k : Nat) ∧ Below w1.heap.size w1 wr) (fun _ i _ => 3 - (intOf i).toNat)
  case atStart => exact ⟨0, Nat.zero_le _, rfl, rfl, Below.refl _ _⟩
  case round =>
    obtain ⟨k, hk, rfl, rfl, hb⟩ := hrel
    have HBR := ghid hb
    have HBW := ghid (HB1.out.trans (hb.mono HB1.out.size))
    clear c0 c1 c2 c3 c4 c5 cf hpl
    have HCR := ghid ((HBW.out.block p (HH.out.lt ((HH.out.kdef p).2 (.inl rfl)))).trans HC.out)
    obtain ⟨c0, c1, c2, c3, c4, c5, cf, hpl⟩ := six_cells HCR.out
    clear hb
    by_cases hlt : k < 3
    · obtain ⟨x, hx, hxd, hxr⟩ := (HH.out.below HBW.out).rep hlt
      obtain ⟨r0, r1, r2, r3, r4, r5, r6, rf, hgl⟩ := (HH.out.below HBW.out).rcells rfl hx
      have CRk := CR.out k hlt x hxd (.slice ao t.due.length ac)
      rw [← hxd] at hxr
      have HXR := ghid hxr
      have h1 := HUL.out k hk
      have h2 := HRB.out k hlt
      have hd2 := (HD1.out.below HBR.out (Nat.le_refl _)).mono HBR.out.size
      obtain ⟨u, hu⟩ : ∃ z, z = t.uptoK k := ⟨_, rfl⟩
      obtain ⟨rk, hrk⟩ : ∃ z, z = t.right (t.rep k) := ⟨_, rfl⟩
      rw [← hrk] at CRk h2
      rw [← hu] at h1 ⊢
      have HU := ghid hu
      have HRK := ghid hrk
      have CRK := ghid (fun (W : World) (hW : Below wr.heap.size wr W) => CRk W (hxd ▸ (HXR.out.below hW (Nat.le_refl _)).mono hW.size) ((hd2.below hW (Nat.le_refl _)).mono hW.size))
      obtain ⟨xd, eo, lo, po, so, ec, ln, lc, pn, pc, sn, sc⟩ := x
      simp only [RepV.val] at r0 r1 r2 r3 r4 r5 r6 CRK
      have hk3 : (k : Int) < 3 := by omega
      have HBA : Hid (Below w1.heap.size w1 (wr.alloc (.cells #[.int .i64 xd.log.base, .slice eo xd.log.ents.length ec, .string xd.snap, .int .i64 xd.state.index, .slice lo ln lc, .slice po pn pc, .slice so sn sc] 50))) := HBR.out.alloc HBR.out.size _
      clear hx hxd hxr CRk hu hrk hd2
      by_cases hkl : (k : Int) = t.leader
      · have HN : Hid (t.uptoK (k + 1) = u) := by
          unfold Hid
          rw [uptoK_next, if_pos (by omega), HU.out]
        have hke : k = t.leader := by omega
        subst hke
        clear hkl
        go_wp2
        go_roundw
        case rel => exact ⟨t.leader + 1, by omega, by go_num, by rw [HN.out], HBA.out⟩
        case measure => simp [intOf]; omega
      · have HN : Hid (t.uptoK (k + 1) = max u rk) := by
          unfold Hid
          rw [uptoK_next, if_neg (by omega), HU.out, HRK.out]
        go_wp2_with fail
        refine (CRK.out _ ((Below.refl _ _).alloc (Nat.le_refl _) _)).mono ?_
        rintro e w3 ⟨rfl, hb3⟩
        have HB3 := ghid (HBA.out.trans (hb3.mono HBA.out.size))
        clear hb3
        go_wp2
        go_roundw
        case rel => exact ⟨k + 1, by omega, by go_num, congrArg (Value.int .i64) (by rw [HN.out]; omega), HB3.out⟩
        case measure => simp [intOf]; omega
    · obtain rfl : k = 3 := by omega
      have htl := ((HD1.out.below HBR.out (Nat.le_refl _)).mono HBR.out.size).tail (k := t.comm.length) hdl.1
      have HWR := ghid (HH.out.below HBW.out)
      have HML := ghid (HH.out.modest)
      have HDM := ghid HD1.out.sizes
      obtain ⟨u, hu⟩ : ∃ z, z = t.uptoK 3 := ⟨_, rfl⟩
      obtain ⟨dl, hdll⟩ : ∃ z, z = t.due.length := ⟨_, rfl⟩
      obtain ⟨cl, hcl⟩ : ∃ z, z = t.comm.length := ⟨_, rfl⟩
      have HOW := ghid HWR.out.comm
      have HNP : Hid ((Value.slice qo t.comm.length qc).ownBlock ≠ some p) := fun e => by
        obtain ⟨c, hcc⟩ := grow_tag HWR.out.comm e
        rw [HCR.out] at hcc
        simp only [Option.some.injEq, Obj.cells.injEq] at hcc
        exact absurd hcc.2.1 (by decide)
      rw [← hcl, ← hu] at HCM
      rw [← hu] at hup1 hup2 ⊢
      rw [← hdll] at hup2 hac hdl htl
      rw [← hcl] at hup1 hdl htl c3 hfew HWR HOW HNP HCR
      have hq1 : (cl : Int) ≤ u := by omega
      have hq2 : (u : Int) ≤ ac := by omega
      have hq3 : (0 : Int) ≤ cl := by omega
      have HLEN : Hid ((t.comm ++ (t.due.drop cl).take (u - cl)).length = cl + (u - cl)) := by unfold Hid; rw [List.length_append, List.length_take, List.length_drop, ← hdll, ← hcl]; omega
      have HMM : Hid (∀ x ∈ t.comm ++ (t.due.drop cl).take (u - cl), x.size ≤ 140737488351232) := fun x hx => by
        rcases List.mem_append.1 hx with hx | hx
        · exact HML.out x hx
        · exact HDM.out x (List.mem_of_mem_drop (List.mem_of_mem_take hx))
      have hz : cl + (u - cl) ≤ 400 := by omega
      have hdd : (t.due.drop cl).length = dl - cl := by rw [List.length_drop, ← hdll]
      have hud : u - cl ≤ dl - cl := by omega
      have HFIN : Hid (∀ (m : Nat), m = u - cl → ∀ (W2 : World) (ao2 : Option Addr) (cap2 : Nat), W2.ownsRow 0 9 1 (.slice ao2 (cl + m) cap2) (cl + m) (textCells t.comm ++ textCells ((t.due.drop cl).take m)) → wr.drew.grownBy W2 (Value.slice qo cl qc).ownBlock → ((Value.slice ao2 (cl + m) cap2).ownBlock = (Value.slice qo cl qc).ownBlock ∨ (Value.slice ao2 (cl + m) cap2).ownBlock = some wr.heap.size) → MovedE 32 [gh, g2, ev] w (W2.setCell ⟨p, 3, none⟩ (.slice ao2 (cl + m) cap2)) p K t.commit) := fun m hm W2 ao2 cap2 ho hg ha => by
        subst hm
        rw [HCM.out]
        refine (HWR.out.grewComm odd_out (((TouchG.refl wr _).drew 1).grown hg fun k hk => .inl hk) ?_ HMM.out ?_).behind HBW.out
        · rw [HLEN.out, show textCells (t.comm ++ (t.due.drop cl).take (u - cl)) = textCells t.comm ++ textCells ((t.due.drop cl).take (u - cl)) by simp [textCells]]
          exact ho
        · intro g hg hb
          rcases ha with e | e
          · exact e ▸ hb
          · rw [hb] at e
            simp only [Option.some.injEq] at e
            omega
      clear hu hdll hcl HCM
      by_cases hacl : ac = cl
      · obtain rfl : u = cl := by omega
        subst hacl
        clear htl hdd hdl hud
        go_wp2_with fail
        go_region_law (first
        | (refine step_append_any rfl (.tmp 39) (.tmp 47) 29 rfl 9 i0 _ 1 16 Tryz.underlying29 hi0 hz0 hz1 hz2 rfl (by decide) (.slice qo ac qc) ac (textCells t.comm) (by rfl) HOW.out ao 0 0 [] (by rfl) (fun _ => ⟨rfl, rfl⟩) rfl (by intro a _ j u hj; cases hj) (by intro u hu; cases hu) (by unfold maxLen; omega) (by omega) ?_; intro ao2 cap2 w2 hown2 hg2 hat2; have hq := (hg2.block p hpl (fun e => HNP.out e.symm)).trans HCR.out; have HOWN := ghid hown2; have HG := ghid hg2; have HAT := ghid hat2; clear hown2 hg2 hat2 c0 c1 c2 c3 c4 c5 cf hpl; obtain ⟨c0, c1, c2, c3, c4, c5, cf, hpl⟩ := six_cells hq; clear hq))
        all_goals
          go_wp2
          refine bodyPost_end (v := .tuple #[]) (by simp [results, Tryz.results153, go_sem]) rfl ?_
          exact ⟨rfl, HFIN.out 0 (by omega) _ _ _ (by simpa [textCells] using HOWN.out) HG.out HAT.out⟩
      · have HX := ghid (texts_news ((htl.2 hacl).front (n := dl - cl) (k := u - cl) (by rw [hdd]; exact hud)))
        clear htl hdd hdl hud
        go_wp2_with fail
        go_region_law (first
        | (refine step_append_any rfl (.tmp 39) (.tmp 47) 29 rfl 9 i0 _ 1 16 Tryz.underlying29 hi0 hz0 hz1 hz2 rfl (by decide) (.slice qo cl qc) cl (textCells t.comm) (by rfl) HOW.out _ (u - cl) _ (textCells ((t.due.drop cl).take (u - cl))) (by rfl) HX.out.1 HX.out.2.1 HX.out.2.2 (textCells_one _) (by unfold maxLen; omega) (by omega) ?_; intro ao2 cap2 w2 hown2 hg2 hat2; have hq := (hg2.block p hpl (fun e => HNP.out e.symm)).trans HCR.out; have HOWN := ghid hown2; have HG := ghid hg2; have HAT := ghid hat2; clear hown2 hg2 hat2 c0 c1 c2 c3 c4 c5 cf hpl; obtain ⟨c0, c1, c2, c3, c4, c5, cf, hpl⟩ := six_cells hq; clear hq))
        all_goals
          go_wp2
          refine bodyPost_end (v := .tuple #[]) (by simp [results, Tryz.results153, go_sem]) rfl ?_
          exact ⟨rfl, by have := HFIN.out _ rfl _ _ _ HOWN.out HG.out HAT.out; rwa [show cl + (u - cl) = u by omega] at this⟩

end

end Go.Proofs.YtijilhbdbeajjaaGreatDoor

namespace Go.Proofs.YtijilhbdbeajjaaGreatDoor

open Go.RowKit

/-- What Put refuses, whatever the entries are. -/
def refE (l : LogD) (behind : Int) (n : Nat) : Int :=
  if logE l ≠ 0 then logE l else if ¬ (0 ≤ behind ∧ behind ≤ 1073741824) then 2 else if 400 < n then 1 else if lastL l < behind then 13 else 0

set_option maxRecDepth 100000 in
set_option maxHeartbeats 1600000 in
theorem refusePut_any (v : Value) (l : LogD) (i : Int) (mo : Option Addr) (mn mc : Nat) (w : World) (B : Nat) (hv : LogR w B v l) (hB : B ≤ w.heap.size) (hi : -9223372036854775808 ≤ i ∧ i ≤ 9223372036854775807) (hmn : mn * 16 ≤ 140737488351232) :
    Calls Tryz.prog 255 #[v, .int .i64 i, .slice mo mn mc] w fun e w' => e = .returned (.int .i64 (refE l i mn)) ∧ Below w.heap.size w w' := by
  obtain ⟨eo, ec, rfl, ht⟩ := hv.shape
  have hbx : Below w.heap.size w (w.alloc (.cells #[.int .i64 l.base, .slice eo l.ents.length ec] 43)) := (Below.refl _ _).alloc (Nat.le_refl _) _
  have CC := ghid (logCheck_any _ l (w.alloc (.cells #[.int .i64 l.base, .slice eo l.ents.length ec] 43)) B (hv.below hbx hB) (by have := hbx.size; omega))
  clear hv ht hbx
  by_cases h0 : logE l = 0
  · obtain ⟨⟨hb0, hb1, hln⟩, -⟩ := logE_zero h0
    rw [h0] at CC
    have CL := ghid (fun u => last_raw l.base eo l.ents.length ec u ⟨hb0, hb1, hln⟩)
    have HE0 := ghid h0
    clear h0
    by_cases h1 : 0 ≤ i ∧ i ≤ 1073741824
    · by_cases h2 : 400 < mn
      · have HE : Hid (refE l i mn = 1) := by
          unfold Hid refE
          rw [HE0.out, if_neg (by simp), if_neg (by simpa using h1), if_pos h2]
        rw [HE.out]
        go_enter Tryz.func255, Tryz.ntmps255
        go_wp2_with fail
        refine CC.out.mono ?_
        rintro e w1 ⟨rfl, hb⟩
        obtain ⟨hx, hbw⟩ := box_after (by simpa using hb)
        have HB := ghid hbw
        clear hb hx hbw CC
        go_wp2
        go_ret
        exact ⟨rfl, HB.out⟩
      · by_cases h3 : l.base + l.ents.length < i
        · have HE : Hid (refE l i mn = 13) := by
            unfold Hid refE lastL
            rw [HE0.out, if_neg (by simp), if_neg (by simpa using h1), if_neg h2, if_pos h3]
          rw [HE.out]
          go_enter Tryz.func255, Tryz.ntmps255
          go_wp2_with fail
          refine CC.out.mono ?_
          rintro e w1 ⟨rfl, hb⟩
          obtain ⟨hx, hbw⟩ := box_after (by simpa using hb)
          obtain ⟨c0, c1, hcl⟩ := two_cells hx
          have HB := ghid hbw
          clear hb hx hbw CC
          go_wp2_with fail
          refine (CL.out _).mono ?_
          rintro e w2 ⟨rfl, hb2⟩
          have HB2 := ghid (HB.out.trans (hb2.mono HB.out.size))
          clear hb2
          go_wp2
          go_ret
          exact ⟨rfl, HB2.out⟩
        · have HE : Hid (refE l i mn = 0) := by
            unfold Hid refE lastL
            rw [HE0.out, if_neg (by simp), if_neg (by simpa using h1), if_neg h2, if_neg h3]
          rw [HE.out]
          go_enter Tryz.func255, Tryz.ntmps255
          go_wp2_with fail
          refine CC.out.mono ?_
          rintro e w1 ⟨rfl, hb⟩
          obtain ⟨hx, hbw⟩ := box_after (by simpa using hb)
          obtain ⟨c0, c1, hcl⟩ := two_cells hx
          have HB := ghid hbw
          clear hb hx hbw CC
          go_wp2_with fail
          refine (CL.out _).mono ?_
          rintro e w2 ⟨rfl, hb2⟩
          have HB2 := ghid (HB.out.trans (hb2.mono HB.out.size))
          clear hb2
          go_wp2
          go_ret
          exact ⟨rfl, HB2.out⟩
    · have HE : Hid (refE l i mn = 2) := by
        unfold Hid refE
        rw [HE0.out, if_neg (by simp), if_pos h1]
      rw [HE.out]
      by_cases h2 : i < 0
      · clear h1
        go_enter Tryz.func255, Tryz.ntmps255
        go_wp2_with fail
        refine CC.out.mono ?_
        rintro e w1 ⟨rfl, hb⟩
        obtain ⟨hx, hbw⟩ := box_after (by simpa using hb)
        have HB := ghid hbw
        clear hb hx hbw CC
        go_wp2
        go_ret
        exact ⟨rfl, HB.out⟩
      · have h3 : 1073741824 < i := by omega
        clear h1
        go_enter Tryz.func255, Tryz.ntmps255
        go_wp2_with fail
        refine CC.out.mono ?_
        rintro e w1 ⟨rfl, hb⟩
        obtain ⟨hx, hbw⟩ := box_after (by simpa using hb)
        have HB := ghid hbw
        clear hb hx hbw CC
        go_wp2
        go_ret
        exact ⟨rfl, HB.out⟩
  · have HE : Hid (refE l i mn = logE l) := if_pos h0
    rw [HE.out]
    obtain ⟨c, hc⟩ : ∃ c, c = logE l := ⟨_, rfl⟩
    rw [← hc] at CC h0 ⊢
    have hcb : (c != 0) = true := by simpa using h0
    clear h0 hc
    go_enter Tryz.func255, Tryz.ntmps255
    go_wp2_with fail
    refine CC.out.mono ?_
    rintro e w1 ⟨rfl, hb⟩
    obtain ⟨-, hbw⟩ := box_after (by simpa using hb)
    have HB := ghid hbw
    clear hb hbw CC
    go_wp2
    go_ret
    exact ⟨rfl, HB.out⟩

set_option maxHeartbeats 800000 in
theorem passedOver_any (base i : Int) (eo mo : Option Addr) (n ec mn mc k : Nat) (w : World) (h0 : 0 ≤ base ∧ base ≤ 1073741424) (hi : 0 ≤ i ∧ i ≤ 1073741824) (hk : min (max (base - i) 0) (mn : Int) = (k : Int)) :
    Calls Tryz.prog 256 #[.agg #[.int .i64 base, .slice eo n ec], .int .i64 i, .slice mo mn mc] w fun e w' => e = .returned (.int .i64 k) ∧ Below w.heap.size w w' := by
  have HB0 : Hid (Below w.heap.size w (w.alloc (.cells #[.int .i64 base, .slice eo n ec] 43))) := (Below.refl _ _).alloc (Nat.le_refl _) _
  go_enter Tryz.func256, Tryz.ntmps256
  go_wp2
  go_ret
  exact ⟨rfl, HB0.out⟩

end Go.Proofs.YtijilhbdbeajjaaGreatDoor

namespace Go.Proofs.YtijilhbdbeajjaaGreatDoor

open Go.RowKit

theorem refE_zero {l : LogD} {i : Int} {n : Nat} (h : refE l i n = 0) : logE l = 0 ∧ (0 ≤ i ∧ i ≤ 1073741824) ∧ n ≤ 400 ∧ i ≤ l.base + l.ents.length := by
  unfold refE at h
  by_cases h0 : logE l = 0
  · rw [h0, if_neg (by simp)] at h
    by_cases h1 : 0 ≤ i ∧ i ≤ 1073741824
    · rw [if_neg (not_not_intro h1)] at h
      by_cases h2 : 400 < n
      · rw [if_pos h2] at h; exact absurd h (by decide)
      · rw [if_neg h2] at h
        by_cases h3 : lastL l < i
        · rw [if_pos h3] at h; exact absurd h (by decide)
        · unfold lastL at h3
          exact ⟨h0, h1, by omega, by omega⟩
    · rw [if_pos h1] at h; exact absurd h (by decide)
  · rw [if_pos h0] at h
    exact absurd h h0

theorem putE_ref {l : LogD} {i : Int} {more : List ByteArray} : putE l i more = if refE l i more.length ≠ 0 then refE l i more.length else if firstE (overL l i more) ≠ 0 then firstE (overL l i more) else if 400 < (newL l i more).length then 8 else 0 := by
  unfold putE refE
  by_cases h0 : logE l = 0
  · by_cases h1 : ¬ (0 ≤ i ∧ i ≤ 1073741824)
    · simp [h0, h1]
    · by_cases h2 : 400 < more.length
      · simp [h0, h1, h2]
      · by_cases h3 : lastL l < i
        · simp [h0, h1, h2, h3]
        · simp [h0, h1, h2, h3]
  · simp [h0]

theorem putL_bad {l : LogD} {i : Int} {more : List ByteArray} (h : putE l i more ≠ 0) : putL l i more = ⟨0, []⟩ := if_neg h

set_option maxRecDepth 100000 in
set_option maxHeartbeats 3200000 in
theorem put_refused (v : Value) (l : LogD) (i : Int) (mv : Value) (more : List ByteArray) (w : World) (B : Nat) (hv : LogR w B v l) (hmv : TextsR w B mv more) (hB : B ≤ w.heap.size) (hi : -9223372036854775808 ≤ i ∧ i ≤ 9223372036854775807) (he : refE l i more.length ≠ 0) :
    Calls Tryz.prog 232 #[v, .int .i64 i, mv] w fun e w' => ∃ v', e = .returned (.tuple #[v', .int .i64 (refE l i more.length)]) ∧ LogR w' w'.heap.size v' ⟨0, []⟩ ∧ Below w.heap.size w w' := by
  have HV := ghid hv
  obtain ⟨eo, ec, rfl, ht⟩ := hv.shape
  have hmn := hmv.len
  have HMV := ghid hmv
  obtain ⟨mo, mc, rfl⟩ := hmv.slice
  have hmc := hmv.cap
  have hbx : Below w.heap.size w ((w.alloc (.cells #[.int .i64 l.base, .slice eo l.ents.length ec] 43)).alloc (.cells #[.int .i64 0, .slice none 0 0] 43)) := ((Below.refl _ _).alloc (Nat.le_refl _) _).alloc (by simp) _
  have CC := ghid (refusePut_any _ l i mo more.length mc ((w.alloc (.cells #[.int .i64 l.base, .slice eo l.ents.length ec] 43)).alloc (.cells #[.int .i64 0, .slice none 0 0] 43)) B (hv.below hbx hB) (by have := hbx.size; omega) hi hmn)
  clear hv ht hbx hmv
  obtain ⟨c, hc⟩ : ∃ c, c = refE l i more.length := ⟨_, rfl⟩
  rw [← hc] at CC he ⊢
  have hcb : (c != 0) = true := by simpa using he
  clear he hc
  go_enter Tryz.func232, Tryz.ntmps232
  go_wp2_with fail
  refine CC.out.mono ?_
  rintro e w1 ⟨rfl, hb⟩
  obtain ⟨-, hr, hbw⟩ := boxes_after (by simpa using hb)
  obtain ⟨z0, z1, zf, zl⟩ := two_free hr
  have HF := ghid (zset2 (b := w.heap.size + 1) hbw (by omega) (.int .i64 0) (.slice none 0 0))
  clear hb hbw hr CC
  go_wp2
  refine bodyPost_ret (v := .tuple #[.agg #[.int .i64 0, .slice none 0 0], .int .i64 c]) (by simp [results, Tryz.results232, go_sem, z0, z1]) rfl ?_
  exact ⟨_, rfl, LogR.nil _ _, HF.out⟩

set_option maxRecDepth 100000 in
set_option maxHeartbeats 3200000 in
theorem put_bad (v : Value) (l : LogD) (i : Int) (mv : Value) (more : List ByteArray) (w : World) (B : Nat) (hv : LogR w B v l) (hmv : TextsR w B mv more) (hB : B ≤ w.heap.size) (hi : -9223372036854775808 ≤ i ∧ i ≤ 9223372036854775807) (he : refE l i more.length = 0) (hfe : firstE (overL l i more) ≠ 0) :
    Calls Tryz.prog 232 #[v, .int .i64 i, mv] w fun e w' => ∃ v', e = .returned (.tuple #[v', .int .i64 (firstE (overL l i more))]) ∧ LogR w' w'.heap.size v' ⟨0, []⟩ ∧ Below w.heap.size w w' := by
  have HV := ghid hv
  obtain ⟨eo, ec, rfl, ht⟩ := hv.shape
  have hmn := hmv.len
  have HMV := ghid hmv
  obtain ⟨mo, mc, rfl⟩ := hmv.slice
  have hmc := hmv.cap
  have hbx : Below w.heap.size w ((w.alloc (.cells #[.int .i64 l.base, .slice eo l.ents.length ec] 43)).alloc (.cells #[.int .i64 0, .slice none 0 0] 43)) := ((Below.refl _ _).alloc (Nat.le_refl _) _).alloc (by simp) _
  have CC := ghid (refusePut_any _ l i mo more.length mc ((w.alloc (.cells #[.int .i64 l.base, .slice eo l.ents.length ec] 43)).alloc (.cells #[.int .i64 0, .slice none 0 0] 43)) B (hv.below hbx hB) (by have := hbx.size; omega) hi hmn)
  clear hv ht hbx
  obtain ⟨h0, hib, hml, hil⟩ := refE_zero he
  obtain ⟨⟨hb0, hb1, hln⟩, -⟩ := logE_zero h0
  rw [he] at CC
  obtain ⟨base, ts⟩ := l
  simp only at CC HV hb0 hb1 hln hil ⊢
  obtain ⟨p, hp⟩ : ∃ p : Nat, min (max (base - i) 0) (more.length : Int) = (p : Int) := ⟨(min (max (base - i) 0) (more.length : Int)).toNat, by omega⟩
  have hpl : p ≤ more.length := by omega
  have CO := ghid (fun u => passedOver_any base i eo mo ts.length ec more.length mc p u ⟨hb0, hb1⟩ hib hp)
  have hov : overL ⟨base, ts⟩ i more = more.drop p := by
    unfold overL
    simp only
    by_cases hle : (base - i).toNat ≤ more.length
    · rw [show (base - i).toNat = p by omega]
    · rw [List.drop_of_length_le (by omega), List.drop_of_length_le (by omega)]
  obtain ⟨f, hf⟩ : ∃ f : Nat, max (i - base) 0 = (f : Int) := ⟨(max (i - base) 0).toNat, by omega⟩
  have hfl : f ≤ ts.length := by omega
  have hah : aheadL ⟨base, ts⟩ i = f := by unfold aheadL; simp only; omega
  have HAH := ghid hah
  have HOV := ghid hov
  have hec := HV.out.part.cap
  clear h0 he hp hah hov hmv
  rw [HOV.out] at hfe ⊢
  obtain ⟨c, hc⟩ : ∃ c, c = firstE (more.drop p) := ⟨_, rfl⟩
  rw [← hc] at hfe ⊢
  have HFE := ghid hc
  have hcb : (c != 0) = true := by simpa using hfe
  clear hfe hc
  go_enter Tryz.func232, Tryz.ntmps232
  go_wp2_with fail
  refine CC.out.mono ?_
  rintro e w1 ⟨rfl, hb⟩
  obtain ⟨hx, hr, hbw⟩ := boxes_after (by simpa using hb)
  obtain ⟨c0, c1, hcl⟩ := two_cells hx
  have HB := ghid hbw
  have HX := ghid hx
  have HR := ghid hr
  clear hb hx hr hbw CC
  go_wp2_with fail
  refine (CO.out _).mono ?_
  rintro e w2 ⟨rfl, hb2⟩
  have hx2 := (hb2.block w.heap.size hcl).trans HX.out
  have HX2 := ghid hx2
  have hb02 := HB.out.trans (hb2.mono HB.out.size)
  have HB2 := ghid hb02
  have HR2 : Hid (w2.heap[w.heap.size + 1]? = _) := (hb2.block _ (Array.getElem?_eq_some_iff.1 HR.out).1).trans HR.out
  clear hb2 hx2 hb02 c0 c1 hcl CO
  go_wp2_with fail
  all_goals
    have htl := (HMV.out.below HB2.out hB).tail (k := p) hpl
    have HU := ghid (show TextsR w2 B _ (more.drop p) by first | exact htl.1 (by assumption) | exact htl.1 rfl | exact htl.2 (by assumption) | exact htl.2 (by omega))
    have hw2 : B ≤ w2.heap.size := by have := HB2.out.size; omega
    have CK := ghid (checkEntries_any _ (more.drop p) w2 B HU.out hw2)
    rw [← HFE.out] at CK
    clear htl
    refine CK.out.mono ?_
    rintro e w3 ⟨rfl, hb3⟩
    have hx3 := (hb3.block w.heap.size (Array.getElem?_eq_some_iff.1 HX2.out).1).trans HX2.out
    have hr3 := (hb3.block (w.heap.size + 1) (Array.getElem?_eq_some_iff.1 HR2.out).1).trans HR2.out
    have HX3 := ghid hx3
    have HR3 := ghid hr3
    have HB3 := ghid (HB2.out.trans (hb3.mono HB2.out.size))
    have HU3 := ghid (HU.out.below hb3 hw2)
    have hw3 : B ≤ w3.heap.size := by have := HB3.out.size; omega
    clear hb3 CK hw2
    obtain ⟨z0, z1, zf, zl⟩ := two_free hr3
    have HF := ghid (zset2 (b := w.heap.size + 1) HB3.out (by omega) (.int .i64 0) (.slice none 0 0))
    clear hx3 hr3
    go_wp2
    refine bodyPost_ret (v := .tuple #[.agg #[.int .i64 0, .slice none 0 0], .int .i64 c]) (by simp [results, Tryz.results232, go_sem, z0, z1]) rfl ?_
    exact ⟨_, rfl, LogR.nil _ _, HF.out⟩

set_option maxRecDepth 100000 in
set_option maxHeartbeats 3200000 in
theorem put_full (v : Value) (l : LogD) (i : Int) (mv : Value) (more : List ByteArray) (w : World) (B : Nat) (hv : LogR w B v l) (hmv : TextsR w B mv more) (hB : B ≤ w.heap.size) (hi : -9223372036854775808 ≤ i ∧ i ≤ 9223372036854775807) (he : refE l i more.length = 0) (hfe : firstE (overL l i more) = 0) (hfu : 400 < aheadL l i + (overL l i more).length) :
    Calls Tryz.prog 232 #[v, .int .i64 i, mv] w fun e w' => ∃ v', e = .returned (.tuple #[v', .int .i64 8]) ∧ LogR w' w'.heap.size v' ⟨0, []⟩ ∧ Below w.heap.size w w' := by
  have HV := ghid hv
  obtain ⟨eo, ec, rfl, ht⟩ := hv.shape
  have hmn := hmv.len
  have HMV := ghid hmv
  obtain ⟨mo, mc, rfl⟩ := hmv.slice
  have hmc := hmv.cap
  have hbx : Below w.heap.size w ((w.alloc (.cells #[.int .i64 l.base, .slice eo l.ents.length ec] 43)).alloc (.cells #[.int .i64 0, .slice none 0 0] 43)) := ((Below.refl _ _).alloc (Nat.le_refl _) _).alloc (by simp) _
  have CC := ghid (refusePut_any _ l i mo more.length mc ((w.alloc (.cells #[.int .i64 l.base, .slice eo l.ents.length ec] 43)).alloc (.cells #[.int .i64 0, .slice none 0 0] 43)) B (hv.below hbx hB) (by have := hbx.size; omega) hi hmn)
  clear hv ht hbx
  obtain ⟨h0, hib, hml, hil⟩ := refE_zero he
  obtain ⟨⟨hb0, hb1, hln⟩, -⟩ := logE_zero h0
  rw [he] at CC
  obtain ⟨base, ts⟩ := l
  simp only at CC HV hb0 hb1 hln hil ⊢
  obtain ⟨p, hp⟩ : ∃ p : Nat, min (max (base - i) 0) (more.length : Int) = (p : Int) := ⟨(min (max (base - i) 0) (more.length : Int)).toNat, by omega⟩
  have hpl : p ≤ more.length := by omega
  have CO := ghid (fun u => passedOver_any base i eo mo ts.length ec more.length mc p u ⟨hb0, hb1⟩ hib hp)
  have hov : overL ⟨base, ts⟩ i more = more.drop p := by
    unfold overL
    simp only
    by_cases hle : (base - i).toNat ≤ more.length
    · rw [show (base - i).toNat = p by omega]
    · rw [List.drop_of_length_le (by omega), List.drop_of_length_le (by omega)]
  obtain ⟨f, hf⟩ : ∃ f : Nat, max (i - base) 0 = (f : Int) := ⟨(max (i - base) 0).toNat, by omega⟩
  have hfl : f ≤ ts.length := by omega
  have hah : aheadL ⟨base, ts⟩ i = f := by unfold aheadL; simp only; omega
  have HAH := ghid hah
  have HOV := ghid hov
  have hec := HV.out.part.cap
  clear h0 he hp hah hov hmv
  rw [HOV.out] at hfe
  have HFE : Hid (0 = firstE (more.drop p)) := hfe.symm
  clear hfe
  rw [HOV.out, HAH.out, List.length_drop] at hfu
  have hfi : (400 : Int) < (f : Int) + ((more.length - p : Nat) : Int) := by omega
  go_enter Tryz.func232, Tryz.ntmps232
  go_wp2_with fail
  refine CC.out.mono ?_
  rintro e w1 ⟨rfl, hb⟩
  obtain ⟨hx, hr, hbw⟩ := boxes_after (by simpa using hb)
  obtain ⟨c0, c1, hcl⟩ := two_cells hx
  have HB := ghid hbw
  have HX := ghid hx
  have HR := ghid hr
  clear hb hx hr hbw CC
  go_wp2_with fail
  refine (CO.out _).mono ?_
  rintro e w2 ⟨rfl, hb2⟩
  have hx2 := (hb2.block w.heap.size hcl).trans HX.out
  have HX2 := ghid hx2
  have hb02 := HB.out.trans (hb2.mono HB.out.size)
  have HB2 := ghid hb02
  have HR2 : Hid (w2.heap[w.heap.size + 1]? = _) := (hb2.block _ (Array.getElem?_eq_some_iff.1 HR.out).1).trans HR.out
  clear hb2 hx2 hb02 c0 c1 hcl CO
  go_wp2_with fail
  all_goals
    have htl := (HMV.out.below HB2.out hB).tail (k := p) hpl
    have HU := ghid (show TextsR w2 B _ (more.drop p) by first | exact htl.1 (by assumption) | exact htl.1 rfl | exact htl.2 (by assumption) | exact htl.2 (by omega))
    have hw2 : B ≤ w2.heap.size := by have := HB2.out.size; omega
    have CK := ghid (checkEntries_any _ (more.drop p) w2 B HU.out hw2)
    rw [← HFE.out] at CK
    clear htl
    refine CK.out.mono ?_
    rintro e w3 ⟨rfl, hb3⟩
    have hx3 := (hb3.block w.heap.size (Array.getElem?_eq_some_iff.1 HX2.out).1).trans HX2.out
    have hr3 := (hb3.block (w.heap.size + 1) (Array.getElem?_eq_some_iff.1 HR2.out).1).trans HR2.out
    have HX3 := ghid hx3
    have HR3 := ghid hr3
    have HB3 := ghid (HB2.out.trans (hb3.mono HB2.out.size))
    have HU3 := ghid (HU.out.below hb3 hw2)
    have hw3 : B ≤ w3.heap.size := by have := HB3.out.size; omega
    clear hb3 CK hw2
    obtain ⟨z0, z1, zf, zl⟩ := two_free hr3
    obtain ⟨d0, d1, hdl⟩ := two_cells hx3
    have HF := ghid (zset2 (b := w.heap.size + 1) HB3.out (by omega) (.int .i64 0) (.slice none 0 0))
    clear hx3 hr3
    go_wp2
    refine bodyPost_ret (v := .tuple #[.agg #[.int .i64 0, .slice none 0 0], .int .i64 8]) (by simp [results, Tryz.results232, go_sem, z0, z1]) rfl ?_
    exact ⟨_, rfl, LogR.nil _ _, HF.out⟩

end Go.Proofs.YtijilhbdbeajjaaGreatDoor

namespace Go.Proofs.YtijilhbdbeajjaaGreatDoor

open Go.RowKit

set_option maxRecDepth 100000 in
set_option maxHeartbeats 3200000 in
theorem put_stands (v : Value) (l : LogD) (i : Int) (mv : Value) (more : List ByteArray) (w : World) (B : Nat) (hv : LogR w B v l) (hmv : TextsR w B mv more) (hB : B ≤ w.heap.size) (hi : -9223372036854775808 ≤ i ∧ i ≤ 9223372036854775807) (he : refE l i more.length = 0) (hfe : firstE (overL l i more) = 0) (hop : opens (overL l i more) (l.ents.drop (aheadL l i)) = true) :
    Calls Tryz.prog 232 #[v, .int .i64 i, mv] w fun e w' => ∃ v', e = .returned (.tuple #[v', .int .i64 0]) ∧ NewR w.heap.size w' (fun u => LogR u u.heap.size v' l) ∧ Below w.heap.size w w' := by
  have HV := ghid hv
  obtain ⟨eo, ec, rfl, ht⟩ := hv.shape
  have hmn := hmv.len
  have HMV := ghid hmv
  obtain ⟨mo, mc, rfl⟩ := hmv.slice
  have hmc := hmv.cap
  have hbx : Below w.heap.size w ((w.alloc (.cells #[.int .i64 l.base, .slice eo l.ents.length ec] 43)).alloc (.cells #[.int .i64 0, .slice none 0 0] 43)) := ((Below.refl _ _).alloc (Nat.le_refl _) _).alloc (by simp) _
  have CC := ghid (refusePut_any _ l i mo more.length mc ((w.alloc (.cells #[.int .i64 l.base, .slice eo l.ents.length ec] 43)).alloc (.cells #[.int .i64 0, .slice none 0 0] 43)) B (hv.below hbx hB) (by have := hbx.size; omega) hi hmn)
  clear hv ht hbx
  obtain ⟨h0, hib, hml, hil⟩ := refE_zero he
  obtain ⟨⟨hb0, hb1, hln⟩, -⟩ := logE_zero h0
  rw [he] at CC
  obtain ⟨base, ts⟩ := l
  simp only at CC HV hb0 hb1 hln hil ⊢
  obtain ⟨p, hp⟩ : ∃ p : Nat, min (max (base - i) 0) (more.length : Int) = (p : Int) := ⟨(min (max (base - i) 0) (more.length : Int)).toNat, by omega⟩
  have hpl : p ≤ more.length := by omega
  have CO := ghid (fun u => passedOver_any base i eo mo ts.length ec more.length mc p u ⟨hb0, hb1⟩ hib hp)
  have hov : overL ⟨base, ts⟩ i more = more.drop p := by
    unfold overL
    simp only
    by_cases hle : (base - i).toNat ≤ more.length
    · rw [show (base - i).toNat = p by omega]
    · rw [List.drop_of_length_le (by omega), List.drop_of_length_le (by omega)]
  obtain ⟨f, hf⟩ : ∃ f : Nat, max (i - base) 0 = (f : Int) := ⟨(max (i - base) 0).toNat, by omega⟩
  have hfl : f ≤ ts.length := by omega
  have hah : aheadL ⟨base, ts⟩ i = f := by unfold aheadL; simp only; omega
  have HAH := ghid hah
  have HOV := ghid hov
  have hec := HV.out.part.cap
  clear h0 he hp hah hov hmv
  rw [HOV.out] at hfe
  have HFE : Hid (0 = firstE (more.drop p)) := hfe.symm
  clear hfe
  rw [HOV.out, HAH.out] at hop
  have hfu : f + (more.length - p) ≤ 400 := by
    have := congrArg List.length (opens_iff.1 hop)
    simp only [List.length_take, List.length_drop] at this
    omega
  have hfi : (f : Int) + ((more.length - p : Nat) : Int) ≤ 400 := by omega
  have HOP := ghid hop
  clear hop
  go_enter Tryz.func232, Tryz.ntmps232
  go_wp2_with fail
  refine CC.out.mono ?_
  rintro e w1 ⟨rfl, hb⟩
  obtain ⟨hx, hr, hbw⟩ := boxes_after (by simpa using hb)
  obtain ⟨c0, c1, hcl⟩ := two_cells hx
  have HB := ghid hbw
  have HX := ghid hx
  have HR := ghid hr
  clear hb hx hr hbw CC
  go_wp2_with fail
  refine (CO.out _).mono ?_
  rintro e w2 ⟨rfl, hb2⟩
  have hx2 := (hb2.block w.heap.size hcl).trans HX.out
  have HX2 := ghid hx2
  have hb02 := HB.out.trans (hb2.mono HB.out.size)
  have HB2 := ghid hb02
  have HR2 : Hid (w2.heap[w.heap.size + 1]? = _) := (hb2.block _ (Array.getElem?_eq_some_iff.1 HR.out).1).trans HR.out
  clear hb2 hx2 hb02 c0 c1 hcl CO
  go_wp2_with fail
  all_goals
    have htl := (HMV.out.below HB2.out hB).tail (k := p) hpl
    have HU := ghid (show TextsR w2 B _ (more.drop p) by first | exact htl.1 (by assumption) | exact htl.1 rfl | exact htl.2 (by assumption) | exact htl.2 (by omega))
    have hw2 : B ≤ w2.heap.size := by have := HB2.out.size; omega
    have CK := ghid (checkEntries_any _ (more.drop p) w2 B HU.out hw2)
    rw [← HFE.out] at CK
    clear htl
    refine CK.out.mono ?_
    rintro e w3 ⟨rfl, hb3⟩
    have hx3 := (hb3.block w.heap.size (Array.getElem?_eq_some_iff.1 HX2.out).1).trans HX2.out
    have hr3 := (hb3.block (w.heap.size + 1) (Array.getElem?_eq_some_iff.1 HR2.out).1).trans HR2.out
    have HX3 := ghid hx3
    have HR3 := ghid hr3
    have HB3 := ghid (HB2.out.trans (hb3.mono HB2.out.size))
    have HU3 := ghid (HU.out.below hb3 hw2)
    have hw3 : B ≤ w3.heap.size := by have := HB3.out.size; omega
    clear hb3 CK hw2
    obtain ⟨d0, d1, hdl⟩ := two_cells hx3
    clear hx3 hr3
    go_wp2_with fail
    all_goals
      have htl2 := (HV.out.part.below HB3.out hB).tail (k := f) hfl
      have HT := ghid (show TextsR w3 B _ (ts.drop f) by first | exact htl2.1 (by assumption) | exact htl2.1 rfl | exact htl2.2 (by assumption) | exact htl2.2 (by omega))
      clear htl2
      first
        | (have hef : f = ec := Eq.symm (by assumption)
           subst hef)
        | skip
      refine (beginsWith_below _ _ (ts.drop f) (more.drop p) w3 B B HT.out HU3.out).mono ?_
      rintro e w4 ⟨rfl, hb4⟩
      rw [HOP.out]
      have hx4 := (hb4.block w.heap.size (Array.getElem?_eq_some_iff.1 HX3.out).1).trans HX3.out
      have hr4 := (hb4.block (w.heap.size + 1) (Array.getElem?_eq_some_iff.1 HR3.out).1).trans HR3.out
      have HX4 := ghid hx4
      have HR4 := ghid hr4
      have HB4 := ghid (HB3.out.trans (hb4.mono HB3.out.size))
      have HU4 := ghid (HU3.out.below hb4 hw3)
      have hw4 : B ≤ w4.heap.size := by have := HB4.out.size; omega
      have hrl : w.heap.size + 1 < w4.heap.size := (Array.getElem?_eq_some_iff.1 hr4).1
      clear hb4 HX3 HR3 HU3 HT hw3 d0 d1 hdl
      obtain ⟨d0, d1, hdl⟩ := two_cells hx4
      have CP := ghid (logCopy_own _ ⟨base, ts⟩ w4 B (HV.out.below HB4.out hB) hw4)
      simp only at CP
      go_wp2_with fail
      refine CP.out.mono ?_
      rintro e w5 ⟨vo, vc, rfl, hown5, hb5⟩
      have hr5 := (hb5.block (w.heap.size + 1) hrl).trans HR4.out
      obtain ⟨z0, z1, zf, zl⟩ := two_free hr5
      have HR1 := ghid (row_reads2 (b := w.heap.size + 1) hown5 HV.out.part.sizes HV.out.part.len (by omega) (.int .i64 base) (.slice vo ts.length vc))
      have HB5 := ghid (zset2 (b := w.heap.size + 1) (HB4.out.trans (hb5.mono HB4.out.size)) (by omega) (.int .i64 base) (.slice vo ts.length vc))
      clear hown5 hb5 hr5 CP
      go_wp2
      refine bodyPost_ret (v := .tuple #[.agg #[.int .i64 base, .slice vo ts.length vc], .int .i64 0]) (by simp [results, Tryz.results232, go_sem, z0, z1]) rfl ?_
      exact ⟨_, rfl, (HR1.out.mono (by omega)).imp fun _ h => ⟨_, rfl, h⟩, HB5.out⟩

set_option maxRecDepth 100000 in
set_option maxHeartbeats 3200000 in
theorem put_anew (v : Value) (l : LogD) (i : Int) (mv : Value) (more : List ByteArray) (w : World) (B : Nat) (hv : LogR w B v l) (hmv : TextsR w B mv more) (hB : B ≤ w.heap.size) (hi : -9223372036854775808 ≤ i ∧ i ≤ 9223372036854775807) (he : refE l i more.length = 0) (hfe : firstE (overL l i more) = 0) (hop : opens (overL l i more) (l.ents.drop (aheadL l i)) = false) (hfu : aheadL l i + (overL l i more).length ≤ 400) :
    Calls Tryz.prog 232 #[v, .int .i64 i, mv] w fun e w' => ∃ v', e = .returned (.tuple #[v', .int .i64 0]) ∧ NewR w.heap.size w' (fun u => LogR u u.heap.size v' ⟨l.base, l.ents.take (aheadL l i) ++ overL l i more⟩) ∧ Below w.heap.size w w' := by
  have HV := ghid hv
  obtain ⟨eo, ec, rfl, ht⟩ := hv.shape
  have hmn := hmv.len
  have HMV := ghid hmv
  obtain ⟨mo, mc, rfl⟩ := hmv.slice
  have hmc := hmv.cap
  have hbx : Below w.heap.size w ((w.alloc (.cells #[.int .i64 l.base, .slice eo l.ents.length ec] 43)).alloc (.cells #[.int .i64 0, .slice none 0 0] 43)) := ((Below.refl _ _).alloc (Nat.le_refl _) _).alloc (by simp) _
  have CC := ghid (refusePut_any _ l i mo more.length mc ((w.alloc (.cells #[.int .i64 l.base, .slice eo l.ents.length ec] 43)).alloc (.cells #[.int .i64 0, .slice none 0 0] 43)) B (hv.below hbx hB) (by have := hbx.size; omega) hi hmn)
  clear hv ht hbx
  obtain ⟨h0, hib, hml, hil⟩ := refE_zero he
  obtain ⟨⟨hb0, hb1, hln⟩, -⟩ := logE_zero h0
  rw [he] at CC
  obtain ⟨base, ts⟩ := l
  simp only at CC HV hb0 hb1 hln hil ⊢
  obtain ⟨p, hp⟩ : ∃ p : Nat, min (max (base - i) 0) (more.length : Int) = (p : Int) := ⟨(min (max (base - i) 0) (more.length : Int)).toNat, by omega⟩
  have hpl : p ≤ more.length := by omega
  have CO := ghid (fun u => passedOver_any base i eo mo ts.length ec more.length mc p u ⟨hb0, hb1⟩ hib hp)
  have hov : overL ⟨base, ts⟩ i more = more.drop p := by
    unfold overL
    simp only
    by_cases hle : (base - i).toNat ≤ more.length
    · rw [show (base - i).toNat = p by omega]
    · rw [List.drop_of_length_le (by omega), List.drop_of_length_le (by omega)]
  obtain ⟨f, hf⟩ : ∃ f : Nat, max (i - base) 0 = (f : Int) := ⟨(max (i - base) 0).toNat, by omega⟩
  have hfl : f ≤ ts.length := by omega
  have hah : aheadL ⟨base, ts⟩ i = f := by unfold aheadL; simp only; omega
  have HAH := ghid hah
  have HOV := ghid hov
  have hec := HV.out.part.cap
  clear h0 he hp hah hov hmv
  rw [HOV.out] at hfe
  have HFE : Hid (0 = firstE (more.drop p)) := hfe.symm
  clear hfe
  rw [HOV.out, HAH.out] at hop
  rw [HOV.out, HAH.out, List.length_drop] at hfu
  rw [HOV.out, HAH.out]
  have hfi : (f : Int) + ((more.length - p : Nat) : Int) ≤ 400 := by omega
  have hfc : (f : Int) ≤ (ec : Int) := by omega
  have hfp : 0 ≤ (f : Int) := by omega
  have HOP := ghid hop
  have HLU : Hid ((ts.take f ++ more.drop p).length * 16 ≤ 140737488351232) := (by rw [List.length_append, List.length_take, List.length_drop]; omega : (ts.take f ++ more.drop p).length * 16 ≤ 140737488351232)
  have HMU : Hid (∀ t ∈ ts.take f ++ more.drop p, t.size ≤ 140737488351232) := fun t ht => by
    rcases List.mem_append.1 ht with h | h
    · exact HV.out.part.sizes t (List.mem_of_mem_take h)
    · exact HMV.out.sizes t (List.mem_of_mem_drop h)
  clear hop
  go_enter Tryz.func232, Tryz.ntmps232
  go_wp2_with fail
  refine CC.out.mono ?_
  rintro e w1 ⟨rfl, hb⟩
  obtain ⟨hx, hr, hbw⟩ := boxes_after (by simpa using hb)
  obtain ⟨c0, c1, hcl⟩ := two_cells hx
  have HB := ghid hbw
  have HX := ghid hx
  have HR := ghid hr
  clear hb hx hr hbw CC
  go_wp2_with fail
  refine (CO.out _).mono ?_
  rintro e w2 ⟨rfl, hb2⟩
  have hx2 := (hb2.block w.heap.size hcl).trans HX.out
  have HX2 := ghid hx2
  have hb02 := HB.out.trans (hb2.mono HB.out.size)
  have HB2 := ghid hb02
  have HR2 : Hid (w2.heap[w.heap.size + 1]? = _) := (hb2.block _ (Array.getElem?_eq_some_iff.1 HR.out).1).trans HR.out
  clear hb2 hx2 hb02 c0 c1 hcl CO
  go_wp2_with fail
  all_goals
    have htl := (HMV.out.below HB2.out hB).tail (k := p) hpl
    have HU := ghid (show TextsR w2 B _ (more.drop p) by first | exact htl.1 (by assumption) | exact htl.1 rfl | exact htl.2 (by assumption) | exact htl.2 (by omega))
    have hw2 : B ≤ w2.heap.size := by have := HB2.out.size; omega
    have CK := ghid (checkEntries_any _ (more.drop p) w2 B HU.out hw2)
    rw [← HFE.out] at CK
    clear htl
    refine CK.out.mono ?_
    rintro e w3 ⟨rfl, hb3⟩
    have hx3 := (hb3.block w.heap.size (Array.getElem?_eq_some_iff.1 HX2.out).1).trans HX2.out
    have hr3 := (hb3.block (w.heap.size + 1) (Array.getElem?_eq_some_iff.1 HR2.out).1).trans HR2.out
    have HX3 := ghid hx3
    have HR3 := ghid hr3
    have HB3 := ghid (HB2.out.trans (hb3.mono HB2.out.size))
    have HU3 := ghid (HU.out.below hb3 hw2)
    have hw3 : B ≤ w3.heap.size := by have := HB3.out.size; omega
    clear hb3 CK hw2
    obtain ⟨d0, d1, hdl⟩ := two_cells hx3
    clear hx3 hr3
    go_wp2_with fail
    all_goals
      have htl2 := (HV.out.part.below HB3.out hB).tail (k := f) hfl
      have HT := ghid (show TextsR w3 B _ (ts.drop f) by first | exact htl2.1 (by assumption) | exact htl2.1 rfl | exact htl2.2 (by assumption) | exact htl2.2 (by omega))
      clear htl2
      first
        | (have hef : f = ec := Eq.symm (by assumption)
           subst hef)
        | skip
      refine (beginsWith_below _ _ (ts.drop f) (more.drop p) w3 B B HT.out HU3.out).mono ?_
      rintro e w4 ⟨rfl, hb4⟩
      rw [HOP.out]
      have hx4 := (hb4.block w.heap.size (Array.getElem?_eq_some_iff.1 HX3.out).1).trans HX3.out
      have hr4 := (hb4.block (w.heap.size + 1) (Array.getElem?_eq_some_iff.1 HR3.out).1).trans HR3.out
      have HX4 := ghid hx4
      have HR4 := ghid hr4
      have HB4 := ghid (HB3.out.trans (hb4.mono HB3.out.size))
      have HU4 := ghid (HU3.out.below hb4 hw3)
      have hw4 : B ≤ w4.heap.size := by have := HB4.out.size; omega
      have hrl : w.heap.size + 1 < w4.heap.size := (Array.getElem?_eq_some_iff.1 hr4).1
      clear hb4 HX3 HR3 HU3 HT hw3 d0 d1 hdl
      obtain ⟨d0, d1, hdl⟩ := two_cells hx4
      have CJ := ghid (join_twoD w4 B _ _ (ts.take f) (more.drop p) ((HV.out.part.below HB4.out hB).front (k := f) hfl) HU4.out hw4 (by rw [List.length_take, List.length_drop]; omega))
      obtain ⟨n, hn⟩ : ∃ n, n = (ts.take f ++ more.drop p).length := ⟨_, rfl⟩
      rw [← hn] at CJ
      have HN := ghid hn
      clear hn
      go_wp2_with fail
      first
        | (go_region_held3 (fun w' => w'.cell? ⟨w.heap.size, 0, none⟩ = some (.int .i64 base) ∧ w'.cell? ⟨w.heap.size, 1, none⟩ = some (.slice eo ts.length ec)) (go_keep)
             (first
             | (go_at_call 235; refine CJ.out.mono ?_; rintro e w5 ⟨vo, vc, rfl, hown5, hb5⟩; have hx5 := (hb5.block w.heap.size hdl).trans HX4.out; obtain ⟨x0, x1, xl⟩ := two_cells hx5; have hr5 := (hb5.block (w.heap.size + 1) hrl).trans HR4.out; obtain ⟨z0, z1, zf, zl⟩ := two_free hr5)))
        | (go_region_held3 (fun w' => w'.cell? ⟨w.heap.size, 0, none⟩ = some (.int .i64 base) ∧ w'.cell? ⟨w.heap.size, 1, none⟩ = some (.slice eo ts.length f)) (go_keep)
             (first
             | (go_at_call 235; refine CJ.out.mono ?_; rintro e w5 ⟨vo, vc, rfl, hown5, hb5⟩; have hx5 := (hb5.block w.heap.size hdl).trans HX4.out; obtain ⟨x0, x1, xl⟩ := two_cells hx5; have hr5 := (hb5.block (w.heap.size + 1) hrl).trans HR4.out; obtain ⟨z0, z1, zf, zl⟩ := two_free hr5)))
      have HR1 := ghid (row_reads2 (b := w.heap.size + 1) (HN.out ▸ hown5) HMU.out HLU.out (by omega) (.int .i64 base) (.slice vo n vc))
      rw [← HN.out] at HR1
      have HB5 := ghid (zset2 (b := w.heap.size + 1) (HB4.out.trans (hb5.mono HB4.out.size)) (by omega) (.int .i64 base) (.slice vo n vc))
      clear hown5 hb5 hr5 CJ
      go_wp2
      refine bodyPost_ret (v := .tuple #[.agg #[.int .i64 base, .slice vo n vc], .int .i64 0]) (by simp [results, Tryz.results232, go_sem, z0, z1]) rfl ?_
      exact ⟨_, rfl, (HR1.out.mono (by omega)).imp fun _ h => ⟨_, rfl, h⟩, HB5.out⟩

end Go.Proofs.YtijilhbdbeajjaaGreatDoor

namespace Go.Proofs.YtijilhbdbeajjaaGreatDoor

open Go.RowKit

set_option maxRecDepth 100000 in
set_option maxHeartbeats 1600000 in
theorem cut_new (v : Value) (l : LogD) (i : Int) (w : World) (B : Nat) (hv : LogR w B v l) (hB : B ≤ w.heap.size) (hi : -9223372036854775808 ≤ i ∧ i ≤ 9223372036854775807) :
    Calls Tryz.prog 204 #[v, .int .i64 i] w fun e w' => ∃ v', e = .returned (.tuple #[v', .int .i64 (cutE l i)]) ∧ NewR w.heap.size w' (fun u => LogR u u.heap.size v' (cutL l i)) ∧ Below w.heap.size w w' := by
  have HV := ghid hv
  obtain ⟨eo, ec, rfl, ht⟩ := hv.shape
  have hbx : Below w.heap.size w ((w.alloc (.cells #[.int .i64 l.base, .slice eo l.ents.length ec] 43)).alloc (.cells #[.int .i64 0, .slice none 0 0] 43)) := ((Below.refl _ _).alloc (Nat.le_refl _) _).alloc (by simp) _
  have CC := ghid (logCheck_any _ l ((w.alloc (.cells #[.int .i64 l.base, .slice eo l.ents.length ec] 43)).alloc (.cells #[.int .i64 0, .slice none 0 0] 43)) B (hv.below hbx hB) (by have := hbx.size; omega))
  clear hv ht hbx
  by_cases h0 : logE l = 0
  · obtain ⟨⟨hb0, hb1, hln⟩, -⟩ := logE_zero h0
    rw [h0] at CC
    have CL := ghid (fun u => last_raw l.base eo l.ents.length ec u ⟨hb0, hb1, hln⟩)
    obtain ⟨base, ts⟩ := l
    simp only at CC CL HV hb0 hb1 hln ⊢
    have HE0 := ghid h0
    clear h0
    by_cases h1 : i < base
    · have HE : Hid (cutE ⟨base, ts⟩ i = 2) := by
        unfold Hid cutE lastL
        rw [HE0.out, if_neg (by simp), if_pos (by simp only; omega)]
      have HL : Hid (cutL ⟨base, ts⟩ i = ⟨0, []⟩) := by
        unfold Hid cutL
        rw [if_neg (by rw [HE.out]; decide)]
      rw [HE.out, HL.out]
      go_enter Tryz.func204, Tryz.ntmps204
      go_wp2_with fail
      refine CC.out.mono ?_
      rintro e w1 ⟨rfl, hb⟩
      obtain ⟨hx, hr, hbw⟩ := boxes_after (by simpa using hb)
      obtain ⟨c0, c1, hcl⟩ := two_cells hx
      have HB := ghid hbw
      obtain ⟨z0, z1, zf, zl⟩ := two_free hr
      have HF := ghid (zset2 (b := w.heap.size + 1) HB.out (by omega) (.int .i64 0) (.slice none 0 0))
      clear hb hx hr hbw CC
      go_wp2
      refine bodyPost_ret (v := .tuple #[.agg #[.int .i64 0, .slice none 0 0], .int .i64 2]) (by simp [results, Tryz.results204, go_sem, z0, z1]) rfl ?_
      exact ⟨_, rfl, NewR.of _ _ fun _ => LogR.nil _ _, HF.out⟩
    · by_cases h2 : base + ts.length < i
      · have HE : Hid (cutE ⟨base, ts⟩ i = 2) := by
          unfold Hid cutE lastL
          rw [HE0.out, if_neg (by simp), if_pos (by simp only; omega)]
        have HL : Hid (cutL ⟨base, ts⟩ i = ⟨0, []⟩) := by
          unfold Hid cutL
          rw [if_neg (by rw [HE.out]; decide)]
        rw [HE.out, HL.out]
        go_enter Tryz.func204, Tryz.ntmps204
        go_wp2_with fail
        refine CC.out.mono ?_
        rintro e w1 ⟨rfl, hb⟩
        obtain ⟨hx, hr, hbw⟩ := boxes_after (by simpa using hb)
        obtain ⟨c0, c1, hcl⟩ := two_cells hx
        have HB := ghid hbw
        have HR := ghid hr
        clear hb hx hr hbw CC
        go_wp2_with fail
        refine (CL.out _).mono ?_
        rintro e w2 ⟨rfl, hb2⟩
        have hr2 : w2.heap[w.heap.size + 1]? = _ := (hb2.block _ (Array.getElem?_eq_some_iff.1 HR.out).1).trans HR.out
        obtain ⟨z0, z1, zf, zl⟩ := two_free hr2
        have HF := ghid (zset2 (b := w.heap.size + 1) (HB.out.trans (hb2.mono HB.out.size)) (by omega) (.int .i64 0) (.slice none 0 0))
        clear hb2 hr2 c0 c1 hcl
        go_wp2
        refine bodyPost_ret (v := .tuple #[.agg #[.int .i64 0, .slice none 0 0], .int .i64 2]) (by simp [results, Tryz.results204, go_sem, z0, z1]) rfl ?_
        exact ⟨_, rfl, NewR.of _ _ fun _ => LogR.nil _ _, HF.out⟩
      · by_cases h3 : 1073741424 < i
        · have HE : Hid (cutE ⟨base, ts⟩ i = 8) := by
            unfold Hid cutE lastL
            rw [HE0.out, if_neg (by simp), if_neg (by simp only; omega), if_pos h3]
          have HL : Hid (cutL ⟨base, ts⟩ i = ⟨0, []⟩) := by
            unfold Hid cutL
            rw [if_neg (by rw [HE.out]; decide)]
          rw [HE.out, HL.out]
          go_enter Tryz.func204, Tryz.ntmps204
          go_wp2_with fail
          refine CC.out.mono ?_
          rintro e w1 ⟨rfl, hb⟩
          obtain ⟨hx, hr, hbw⟩ := boxes_after (by simpa using hb)
          obtain ⟨c0, c1, hcl⟩ := two_cells hx
          have HB := ghid hbw
          have HR := ghid hr
          clear hb hx hr hbw CC
          go_wp2_with fail
          refine (CL.out _).mono ?_
          rintro e w2 ⟨rfl, hb2⟩
          have hr2 : w2.heap[w.heap.size + 1]? = _ := (hb2.block _ (Array.getElem?_eq_some_iff.1 HR.out).1).trans HR.out
          obtain ⟨z0, z1, zf, zl⟩ := two_free hr2
          have HF := ghid (zset2 (b := w.heap.size + 1) (HB.out.trans (hb2.mono HB.out.size)) (by omega) (.int .i64 0) (.slice none 0 0))
          clear hb2 hr2 c0 c1 hcl
          go_wp2
          refine bodyPost_ret (v := .tuple #[.agg #[.int .i64 0, .slice none 0 0], .int .i64 8]) (by simp [results, Tryz.results204, go_sem, z0, z1]) rfl ?_
          exact ⟨_, rfl, NewR.of _ _ fun _ => LogR.nil _ _, HF.out⟩
        · have HE : Hid (cutE ⟨base, ts⟩ i = 0) := by
            unfold Hid cutE lastL
            rw [HE0.out, if_neg (by simp), if_neg (by simp only; omega), if_neg h3]
          have HL : Hid (cutL ⟨base, ts⟩ i = ⟨i, ts.drop (i - base).toNat⟩) := by
            unfold Hid cutL
            rw [if_pos HE.out]
          rw [HE.out, HL.out]
          have hi1 : 0 ≤ i - base := by omega
          have hi2 : i - base ≤ (ts.length : Int) := by omega
          have hec := HV.out.part.cap
          have HM := ghid HV.out.part.sizes
          go_enter Tryz.func204, Tryz.ntmps204
          go_wp2_with fail
          refine CC.out.mono ?_
          rintro e w1 ⟨rfl, hb⟩
          obtain ⟨hx, hr, hbw⟩ := boxes_after (by simpa using hb)
          obtain ⟨c0, c1, hcl⟩ := two_cells hx
          have HB := ghid hbw
          have HX := ghid hx
          have HR := ghid hr
          clear hb hx hr hbw CC
          go_wp2_with fail
          refine (CL.out _).mono ?_
          rintro e w2 ⟨rfl, hb2⟩
          have hx2 := (hb2.block w.heap.size hcl).trans HX.out
          obtain ⟨d0, d1, hdl⟩ := two_cells hx2
          have hb02 := HB.out.trans (hb2.mono HB.out.size)
          have HB2 := ghid hb02
          have HR2 : Hid (w2.heap[w.heap.size + 1]? = _) := (hb2.block _ (Array.getElem?_eq_some_iff.1 HR.out).1).trans HR.out
          clear hb2 hx2 hb02 c0 c1 hcl
          go_wp2_with fail
          all_goals
            have htl := (HV.out.part.below HB2.out hB).tail (k := (i - base).toNat) (by omega)
            have CJ := ghid (join_one w2 B _ _ (by first | exact htl.1 (by assumption) | exact htl.2 (by assumption)) (by have := HB2.out.size; omega))
            have HLD : Hid ((ts.drop (i - base).toNat).length * 16 ≤ 140737488351232) := (by rw [List.length_drop]; omega : (ts.drop (i - base).toNat).length * 16 ≤ 140737488351232)
            clear htl d0 d1 hdl
            refine CJ.out.mono ?_
            rintro e w3 ⟨vo, vc, rfl, hown, hb3⟩
            have hrx : w3.heap[w.heap.size + 1]? = _ := (hb3.block _ (Array.getElem?_eq_some_iff.1 HR2.out).1).trans HR2.out
            obtain ⟨z0, z1, zf, zl⟩ := two_free hrx
            have HR1 := ghid (row_reads2 (b := w.heap.size + 1) hown (fun t ht => HM.out t (List.mem_of_mem_drop ht)) HLD.out (by have := (Array.getElem?_eq_some_iff.1 HR2.out).1; omega) (.int .i64 i) (.slice vo (ts.drop (i - base).toNat).length vc))
            have HB3 := ghid (zset2 (b := w.heap.size + 1) (HB2.out.trans (hb3.mono HB2.out.size)) (by omega) (.int .i64 i) (.slice vo (ts.drop (i - base).toNat).length vc))
            obtain ⟨n3, hn3⟩ : ∃ n3, n3 = (ts.drop (i - base).toNat).length := ⟨_, rfl⟩
            rw [← hn3] at HR1 HB3 ⊢
            clear hrx hown hb3 CJ hn3
            go_wp2
            refine bodyPost_ret (v := .tuple #[.agg #[.int .i64 i, .slice vo n3 vc], .int .i64 0]) (by simp [results, Tryz.results204, go_sem, z0, z1]) rfl ?_
            exact ⟨_, rfl, (HR1.out.mono (by have := HB2.out.size; omega)).imp fun _ h => ⟨_, rfl, h⟩, HB3.out⟩
  · have HE : Hid (cutE l i = logE l) := if_pos h0
    have HL : Hid (cutL l i = ⟨0, []⟩) := by
      unfold Hid cutL
      rw [if_neg (by rw [HE.out]; exact h0)]
    rw [HE.out, HL.out]
    obtain ⟨c, hc⟩ : ∃ c, c = logE l := ⟨_, rfl⟩
    rw [← hc] at CC h0 ⊢
    have hcb : (c != 0) = true := by simpa using h0
    clear h0 hc
    go_enter Tryz.func204, Tryz.ntmps204
    go_wp2_with fail
    refine CC.out.mono ?_
    rintro e w1 ⟨rfl, hb⟩
    obtain ⟨-, hr, hbw⟩ := boxes_after (by simpa using hb)
    obtain ⟨z0, z1, zf, zl⟩ := two_free hr
    have HF := ghid (zset2 (b := w.heap.size + 1) hbw (by omega) (.int .i64 0) (.slice none 0 0))
    clear hb hbw hr CC
    go_wp2
    refine bodyPost_ret (v := .tuple #[.agg #[.int .i64 0, .slice none 0 0], .int .i64 c]) (by simp [results, Tryz.results204, go_sem, z0, z1]) rfl ?_
    exact ⟨_, rfl, NewR.of _ _ fun _ => LogR.nil _ _, HF.out⟩

end Go.Proofs.YtijilhbdbeajjaaGreatDoor

namespace Go.Proofs.YtijilhbdbeajjaaGreatDoor

open Go.RowKit

theorem newL_len {l : LogD} {i : Int} {more : List ByteArray} (hi : i ≤ l.base + l.ents.length) (ho : opens (overL l i more) (l.ents.drop (aheadL l i)) = false) : (newL l i more).length = aheadL l i + (overL l i more).length := by
  unfold newL
  rw [if_neg (by rw [ho]; decide), List.length_append, List.length_take]
  have : aheadL l i ≤ l.ents.length := by unfold aheadL; omega
  omega

theorem new_nil {w : World} {F : Nat} {args : Array Value} {c : Int} (h : Calls Tryz.prog F args w fun e w' => ∃ v', e = .returned (.tuple #[v', .int .i64 c]) ∧ LogR w' w'.heap.size v' ⟨0, []⟩ ∧ Below w.heap.size w w') :
    Calls Tryz.prog F args w fun e w' => ∃ v', e = .returned (.tuple #[v', .int .i64 c]) ∧ NewR w.heap.size w' (fun u => LogR u u.heap.size v' ⟨0, []⟩) ∧ Below w.heap.size w w' :=
  h.mono fun _ _ ⟨v', e, h1, h2⟩ => ⟨v', e, NewR.of _ _ fun u => h1.none_all u _, h2⟩

/-- PUT, AT EVERY ARGUMENT. -/
theorem put_new (v : Value) (l : LogD) (i : Int) (mv : Value) (more : List ByteArray) (w : World) (B : Nat) (hv : LogR w B v l) (hmv : TextsR w B mv more) (hB : B ≤ w.heap.size) (hi : -9223372036854775808 ≤ i ∧ i ≤ 9223372036854775807) :
    Calls Tryz.prog 232 #[v, .int .i64 i, mv] w fun e w' => ∃ v', e = .returned (.tuple #[v', .int .i64 (putE l i more)]) ∧ NewR w.heap.size w' (fun u => LogR u u.heap.size v' (putL l i more)) ∧ Below w.heap.size w w' := by
  by_cases he : refE l i more.length = 0
  · obtain ⟨h0, -, -, hil⟩ := refE_zero he
    by_cases hfe : firstE (overL l i more) = 0
    · by_cases hop : opens (overL l i more) (l.ents.drop (aheadL l i)) = true
      · have hn : newL l i more = l.ents := if_pos hop
        have hE : putE l i more = 0 := by
          rw [putE_ref, he, hfe, hn, if_neg (by simp), if_neg (by simp), if_neg]
          have := (logE_zero h0).1.2.2
          omega
        have hL : putL l i more = l := by
          unfold putL
          rw [if_pos hE, hn]
        rw [hE, hL]
        exact put_stands v l i mv more w B hv hmv hB hi he hfe hop
      · have hop' : opens (overL l i more) (l.ents.drop (aheadL l i)) = false := by simpa using hop
        have hlen := newL_len hil hop'
        by_cases hfu : 400 < aheadL l i + (overL l i more).length
        · have hE : putE l i more = 8 := by
            rw [putE_ref, he, hfe, if_neg (by simp), if_neg (by simp), if_pos (by omega)]
          rw [putL_bad (by rw [hE]; decide), hE]
          exact new_nil (put_full v l i mv more w B hv hmv hB hi he hfe hfu)
        · have hE : putE l i more = 0 := by
            rw [putE_ref, he, hfe, if_neg (by simp), if_neg (by simp), if_neg (by omega)]
          have hL : putL l i more = ⟨l.base, l.ents.take (aheadL l i) ++ overL l i more⟩ := by
            unfold putL newL
            rw [if_pos hE, if_neg hop]
          rw [hE, hL]
          exact put_anew v l i mv more w B hv hmv hB hi he hfe hop' (by omega)
    · have hE : putE l i more = firstE (overL l i more) := by
        rw [putE_ref, he, if_neg (by simp), if_pos hfe]
      rw [putL_bad (by rw [hE]; exact hfe), hE]
      exact new_nil (put_bad v l i mv more w B hv hmv hB hi he hfe)
  · have hE : putE l i more = refE l i more.length := by rw [putE_ref, if_pos he]
    rw [putL_bad (by rw [hE]; exact he), hE]
    exact new_nil (put_refused v l i mv more w B hv hmv hB hi he)

end Go.Proofs.YtijilhbdbeajjaaGreatDoor

namespace Go.Proofs.YtijilhbdbeajjaaGreatDoor

open Go.RowKit

set_option maxRecDepth 100000 in
set_option maxHeartbeats 3200000 in
theorem repHear_any (v : Value) (r : RepD) (i : Int) (mv : Value) (more : List ByteArray) (w : World) (B : Nat) (hv : RepR w B v r) (hmv : TextsR w B mv more) (hB : B ≤ w.heap.size) (hi : -9223372036854775808 ≤ i ∧ i ≤ 9223372036854775807) (hr : repE r = 0) :
    Calls Tryz.prog 193 #[v, .int .i64 i, mv] w fun e w' => ∃ v', e = .returned (.tuple #[v', .int .i64 (hearE r i more)]) ∧ Firm w.heap.size w' (fun u => RepR u u.heap.size v' (hearL r i more)) ∧ Below w.heap.size w w' := by
  obtain ⟨k1, k2, ⟨k3, k4⟩, k5⟩ := repE_zero hr
  obtain ⟨⟨l1, l2, l3⟩, -⟩ := logE_zero k1
  have HV := ghid hv
  obtain ⟨eo, lo, po, so, ec, ln, lc, pn, pc, sn, sc, rfl, hl, hs, hst⟩ := hv.parts
  have hec := hl.part.cap
  have HE : Hid (hearE r i more = if putE r.log i more ≠ 0 then putE r.log i more else if opens (doneL r) (putL r.log i more).ents = false then 9 else 0) := by
    unfold Hid hearE
    rw [if_neg (by simpa using hr)]
  have HLZ : Hid (hearE r i more ≠ 0 → hearL r i more = .zero) := fun h => if_neg h
  have HLO : Hid (hearE r i more = 0 → hearL r i more = ⟨putL r.log i more, r.snap, r.state⟩) := fun h => if_pos h
  obtain ⟨mo, mc, rfl⟩ := hmv.slice
  have HMV := ghid hmv
  unfold lastL at k4
  have HDL : Hid (doneL r = r.log.ents.take (r.state.index - r.log.base).toNat) := rfl
  obtain ⟨E, hE⟩ : ∃ E, E = hearE r i more := ⟨_, rfl⟩
  obtain ⟨L, hL⟩ : ∃ L, L = hearL r i more := ⟨_, rfl⟩
  obtain ⟨D, hD⟩ : ∃ D, D = doneL r := ⟨_, rfl⟩
  obtain ⟨⟨base, ts⟩, sp, s⟩ := r
  rw [← hE, ← hD] at HE
  rw [← hE, ← hL] at HLZ HLO
  rw [← hD] at HDL
  rw [← hE, ← hL]
  simp only at l1 l2 l3 k3 k4 hec HE HLO HDL hl hs hst ⊢
  obtain ⟨ix, hix⟩ : ∃ ix, ix = s.index := ⟨_, rfl⟩
  obtain ⟨n, hn⟩ : ∃ n, n = ts.length := ⟨_, rfl⟩
  obtain ⟨m, hm⟩ : ∃ m, m = more.length := ⟨_, rfl⟩
  obtain ⟨pe, hpe⟩ : ∃ pe, pe = putE ⟨base, ts⟩ i more := ⟨_, rfl⟩
  obtain ⟨⟨pb, pt⟩, hpl⟩ : ∃ pl, pl = putL ⟨base, ts⟩ i more := ⟨_, rfl⟩
  rw [← hix] at k3 k4 hst HDL ⊢
  rw [← hn] at k4 l3 hl hec ⊢
  rw [← hm] at HMV ⊢
  rw [← hpe, ← hpl] at HE
  rw [← hpl] at HLO
  simp only at HE
  have HZ : Hid (Below w.heap.size w ((w.alloc (.cells #[.int .i64 base, .slice eo n ec, .string sp, .int .i64 ix, .slice lo ln lc, .slice po pn pc, .slice so sn sc] 50)).alloc (.cells #[.int .i64 0, .slice none 0 0, .string ⟨#[]⟩, .int .i64 0, .slice none 0 0, .slice none 0 0, .slice none 0 0] 50))) := (((Below.refl _ _).alloc (Nat.le_refl _) _).alloc (by simp) _)
  have HV2 := HV.out
  simp only at HV2
  rw [← hix, ← hn] at HV2
  have CC := ghid (repCheck_ok _ _ _ B (HV2.below HZ.out hB) (by have := HZ.out.size; omega) hr)
  have CP := ghid (fun u (hu : Below w.heap.size w u) => put_new _ ⟨base, ts⟩ i _ more u B (hl.below hu hB) (HMV.out.below hu hB) (by have := hu.size; omega) hi)
  rw [← hpe, ← hpl] at CP
  obtain ⟨k, hk⟩ : ∃ k : Nat, ix - base = k := ⟨(ix - base).toNat, by omega⟩
  have CA := ghid (fun u => applied_rep base ix eo lo po so n ec ln lc pn pc sn sc sp u ⟨l1, k3, k4, l2, l3, hec⟩ k hk)
  have hkn : k ≤ ts.length := by omega
  have CB := ghid (fun u (hu : Below w.heap.size w u) po (pc : Nat) (ht : TextsR u u.heap.size (.slice po pt.length pc) pt) => repBegins_below _ _ pt (ts.take k) u u.heap.size B ht ((hl.part.below hu hB).front (k := k) hkn))
  rw [show (ix - base).toNat = k by omega] at HDL
  rw [← HDL.out] at CB
  have CM := ghid (fun u (hu : Below w.heap.size w u) => machCopy_own _ s u B (hst.below hu hB) (by have := hu.size; omega))
  rw [← hix] at CM
  have CS := ghid (fun u => clone_any sp u (by omega))
  have HS := ghid hs
  have HI := ghid hix
  have HIN := ghid hn
  have hpk := hk
  clear hl hs hst hv hmv hi hr k1 k2 k5 HV HV2 hE hL hD hix hn hm hpe hpl hec l3 HDL hk hB
  go_enter Tryz.func193, Tryz.ntmps193
  go_wp2_with fail
  refine CC.out.mono ?_
  rintro e w1 ⟨rfl, hb⟩
  obtain ⟨hx, hrr, hbw⟩ := boxes7 (by simpa using hb)
  obtain ⟨c0, c1, c2, c3, c4, c5, c6, cf, hpl⟩ := seven_cells hx
  have HB := ghid hbw
  have HX := ghid hx
  have HR := ghid hrr
  clear hb hx hrr hbw CC
  go_wp2_with fail
  refine (CP.out _ HB.out).mono ?_
  rintro e w2 ⟨v2, rfl, hl2, hb2⟩
  obtain ⟨ho, hc, rfl, ht2⟩ := hl2.now.shape
  simp only at ht2 ⊢
  have hba : Below w2.heap.size w2 (w2.alloc (.cells #[.int .i64 pb, .slice ho pt.length hc] 43)) := (Below.refl _ _).alloc (Nat.le_refl _) _
  have hb1z := HB.out.size
  have hrl1 : w.heap.size + 1 < w1.heap.size := (Array.getElem?_eq_some_iff.1 HR.out).1
  have HB3 := ghid (HB.out.trans ((hb2.trans (hba.mono hb2.size)).mono hb1z))
  have HX3 := ghid (behind (behind HX.out (Below.refl _ _) hb2) (Below.refl _ _) hba)
  have HR3 := ghid (behind (behind HR.out (Below.refl _ _) hb2) (Below.refl _ _) hba)
  have HY3 := ghid (heap_alloc_new w2 (.cells #[.int .i64 pb, .slice ho pt.length hc] 43))
  have HL3 := ghid (hl2.below hba)
  obtain ⟨w3, hw3⟩ : ∃ w3, w3 = w2.alloc (.cells #[.int .i64 pb, .slice ho pt.length hc] 43) := ⟨_, rfl⟩
  obtain ⟨y, hy⟩ : ∃ y, y = w2.heap.size := ⟨_, rfl⟩
  have HYZ : Hid (w.heap.size + 1 < y) := (by have := hb2.size; omega : w.heap.size + 1 < y)
  rw [← hw3] at HB3 HX3 HR3 HY3 HL3
  rw [← hy] at HY3
  have HW3 := ghid hw3
  have HY := ghid hy
  clear hl2 ht2 hb2 hba hw3 hy HX HR CP c0 c1 c2 c3 c4 c5 c6 cf hpl hb1z
  by_cases hp0 : pe = 0
  · have HE2 : Hid (E = if opens D pt = false then 9 else 0) := HE.out.trans (if_neg (by simpa using hp0))
    subst hp0
    clear HE
    go_upto_region 5 with fail
    rw [← HW3.out, ← HY.out]
    clear HW3 HY
    obtain ⟨d0, d1, dl⟩ := two_cells HY3.out
    obtain ⟨c0, c1, c2, c3, c4, c5, c6, cf, hpl⟩ := seven_cells HX3.out
    go_wp2
    go_region_held3 (fun w' => w'.cell? ⟨w.heap.size, 0, none⟩ = some (.int .i64 base) ∧ w'.cell? ⟨w.heap.size, 1, none⟩ = some (.slice eo n ec) ∧ w'.cell? ⟨w.heap.size, 2, none⟩ = some (.string sp) ∧ w'.cell? ⟨w.heap.size, 3, none⟩ = some (.int .i64 ix) ∧ w'.cell? ⟨w.heap.size, 4, none⟩ = some (.slice lo ln lc) ∧ w'.cell? ⟨w.heap.size, 5, none⟩ = some (.slice po pn pc) ∧ w'.cell? ⟨w.heap.size, 6, none⟩ = some (.slice so sn sc) ∧ w'.cell? ⟨y, 0, none⟩ = some (.int .i64 pb) ∧ w'.cell? ⟨y, 1, none⟩ = some (.slice ho pt.length hc)) (go_keep)
      (first
        | (go_at_call 234; refine (CA.out _).mono ?_; rintro e w4 ⟨rfl, hb4⟩; have hbd := (Below.refl w3.heap.size w3).drew.trans hb4; have HB4 := ghid (HB3.out.trans (hbd.mono HB3.out.size)); have HX4 := ghid (behind HX3.out (Below.refl _ _) hbd); have HR4 := ghid (behind HR3.out (Below.refl _ _) hbd); have HY4 := ghid (behind HY3.out (Below.refl _ _) hbd); have HL4 := ghid (HL3.out.below hbd); clear hb4 hbd; obtain ⟨c0, c1, c2, c3, c4, c5, c6, cf, hpl⟩ := seven_cells HX4.out; obtain ⟨d0, d1, dl⟩ := two_cells HY4.out)
        | (go_at_call 233; refine (CB.out _ HB4.out ho hc HL4.out.now.part).mono ?_; rintro e w5 ⟨rfl, hb5⟩; have HB5 := ghid (HB4.out.trans (hb5.mono HB4.out.size)); have HX5 := ghid (behind HX4.out (Below.refl _ _) hb5); have HR5 := ghid (behind HR4.out (Below.refl _ _) hb5); have HY5 := ghid (behind HY4.out (Below.refl _ _) hb5); have HL5 := ghid (HL4.out.below hb5); clear hb5; obtain ⟨c0, c1, c2, c3, c4, c5, c6, cf, hpl⟩ := seven_cells HX5.out; obtain ⟨d0, d1, dl⟩ := two_cells HY5.out))
    clear CA CB HX4 HR4 HY4 HL4 HB4 HX3 HR3 HY3 HL3 HB3 HMV HZ
    obtain ⟨b, hb⟩ : ∃ b, b = opens D pt := ⟨_, rfl⟩
    rw [← hb] at HE2 ⊢
    clear hb
    obtain ⟨r0, r1, r2, r3, r4, r5, r6, rf, rl⟩ := seven_cells HR5.out
    cases b with
    | false =>
      have HE3 : Hid (E = 9) := HE2.out
      have HZ2 := ghid (HLZ.out (by rw [HE3.out]; decide))
      have HF := ghid (zset7 (b := w.heap.size + 1) HB5.out (by omega) (.int .i64 0) (.slice none 0 0) (.string ⟨#[]⟩) (.int .i64 0) (.slice none 0 0) (.slice none 0 0) (.slice none 0 0))
      go_wp2
      refine bodyPost_ret (v := .tuple #[.agg #[.int .i64 0, .slice none 0 0, .string ⟨#[]⟩, .int .i64 0, .slice none 0 0, .slice none 0 0, .slice none 0 0], .int .i64 9]) (by simp [results, Tryz.results193, go_sem, r0, r1, r2, r3, r4, r5, r6]) rfl ?_
      exact ⟨_, by rw [HE3.out], by rw [HZ2.out]; exact Firm.of fun _ => RepR.nil _ _, HF.out⟩
    | true =>
      have HE3 : Hid (E = 0) := HE2.out
      have HLF := ghid (HLO.out HE3.out)
      clear HLZ HLO HE2
      have hyn1 : y ≠ w.heap.size + 1 := by have := HYZ.out; omega
      have hyn2 : w.heap.size + 1 ≠ y := fun e => hyn1 e.symm
      go_wp2
      go_region_held3 (fun w' => w'.cell? ⟨w.heap.size, 0, none⟩ = some (.int .i64 base) ∧ w'.cell? ⟨w.heap.size, 1, none⟩ = some (.slice eo n ec) ∧ w'.cell? ⟨w.heap.size, 2, none⟩ = some (.string sp) ∧ w'.cell? ⟨w.heap.size, 3, none⟩ = some (.int .i64 ix) ∧ w'.cell? ⟨w.heap.size, 4, none⟩ = some (.slice lo ln lc) ∧ w'.cell? ⟨w.heap.size, 5, none⟩ = some (.slice po pn pc) ∧ w'.cell? ⟨w.heap.size, 6, none⟩ = some (.slice so sn sc) ∧ w'.cell? ⟨y, 0, none⟩ = some (.int .i64 pb) ∧ w'.cell? ⟨y, 1, none⟩ = some (.slice ho pt.length hc)) (go_keep)
        (first
          | (go_at_call 134; refine (CS.out _).mono ?_; rintro e w6 ⟨rfl, hb6⟩; have hbd := (Below.refl w5.heap.size w5).drew.trans hb6; have HB6 := ghid (HB5.out.trans (hbd.mono HB5.out.size)); have HX6 := ghid (behind HX5.out (Below.refl _ _) hbd); have HR6 := ghid (behind HR5.out (Below.refl _ _) hbd); have HY6 := ghid (behind HY5.out (Below.refl _ _) hbd); have HL6 := ghid (HL5.out.below hbd); clear hb6 hbd; obtain ⟨c0, c1, c2, c3, c4, c5, c6, cf, hpl⟩ := seven_cells HX6.out; obtain ⟨d0, d1, dl⟩ := two_cells HY6.out)
          | (go_at_call 59; refine (CM.out _ HB6.out).mono ?_; rintro e w7 ⟨lo7, po7, so7, ln7, lc7, pn7, pc7, sn7, sc7, rfl, hs7, hb7⟩; have HB7 := ghid (HB6.out.trans (hb7.mono HB6.out.size)); have HR7 := ghid (behind HR6.out (Below.refl _ _) hb7); have HL7 := ghid (HL6.out.below hb7); have HS7 := ghid hs7; obtain ⟨c0, c1, c2, c3, c4, c5, c6, cf, hpl⟩ := seven_cells (behind HX6.out (Below.refl _ _) hb7); obtain ⟨d0, d1, dl⟩ := two_cells (behind HY6.out (Below.refl _ _) hb7); clear hb7 hs7; obtain ⟨r0, r1, r2, r3, r4, r5, r6, rf, rl⟩ := seven_cells HR7.out))
      all_goals
        have HF := ghid (zset7 (b := w.heap.size + 1) HB7.out (by omega) (.int .i64 pb) (.slice ho pt.length hc) (.string sp) (.int .i64 ix) (.slice lo7 ln7 lc7) (.slice po7 pn7 pc7) (.slice so7 sn7 sc7))
        have HA := ghid ((HL7.out.set7 (p := w.heap.size + 1) hrl1 (.int .i64 pb) (.slice ho pt.length hc) (.string sp) (.int .i64 ix) (.slice lo7 ln7 lc7) (.slice po7 pn7 pc7) (.slice so7 sn7 sc7)).mono (by omega : w.heap.size ≤ w1.heap.size)).firm
        have HC := ghid ((HS7.out.set7 HR7.out (.int .i64 pb) (.slice ho pt.length hc) (.string sp) (.int .i64 ix) (.slice lo7 ln7 lc7) (.slice po7 pn7 pc7) (.slice so7 sn7 sc7)).firm w.heap.size)
        go_wp2
        refine bodyPost_ret (v := .tuple #[.agg #[.int .i64 pb, .slice ho pt.length hc, .string sp, .int .i64 ix, .slice lo7 ln7 lc7, .slice po7 pn7 pc7, .slice so7 sn7 sc7], .int .i64 0]) (by simp [results, Tryz.results193, go_sem, r0, r1, r2, r3, r4, r5, r6]) rfl ?_
        exact ⟨_, by rw [HE3.out], by rw [HLF.out]; exact RepR.firm (fun u hu => (HA.out u hu).part) HS.out HC.out, HF.out⟩
  · have HE2 : Hid (E = pe) := HE.out.trans (if_pos hp0)
    have hpb : (pe != 0) = true := by simpa using hp0
    have HZ2 := ghid (HLZ.out (by rw [HE2.out]; exact hp0))
    have HF := ghid (zset7 (b := w.heap.size + 1) HB3.out (by omega) (.int .i64 0) (.slice none 0 0) (.string ⟨#[]⟩) (.int .i64 0) (.slice none 0 0) (.slice none 0 0) (.slice none 0 0))
    obtain ⟨r0, r1, r2, r3, r4, r5, r6, rf, rl⟩ := seven_cells HR3.out
    clear HE hp0
    go_upto_region 5 with fail
    rw [← HW3.out, ← HY.out]
    clear HW3 HY
    go_wp2
    refine bodyPost_ret (v := .tuple #[.agg #[.int .i64 0, .slice none 0 0, .string ⟨#[]⟩, .int .i64 0, .slice none 0 0, .slice none 0 0, .slice none 0 0], .int .i64 pe]) (by simp [results, Tryz.results193, go_sem, r0, r1, r2, r3, r4, r5, r6]) rfl ?_
    exact ⟨_, by rw [HE2.out], by rw [HZ2.out]; exact Firm.of fun _ => RepR.nil _ _, HF.out⟩

end Go.Proofs.YtijilhbdbeajjaaGreatDoor

namespace Go.Proofs.YtijilhbdbeajjaaGreatDoor

open Go.RowKit Go.Shelf

/-- The writer at block b has these bytes. -/
def WrB (B b : Nat) (l : List UInt8) (w : World) : Prop := Lib.IsBuilderF 151 5 B b (Lib.byteCells l) w

theorem WrB.below {B b : Nat} {l : List UInt8} {w w' : World} (h : WrB B b l w) (hb : Below w.heap.size w w') : WrB B b l w' := by
  rcases h with h | h
  · exact Or.inl (BuilderAtF_below h hb)
  · exact Or.inr (BuilderAtF_below h hb)

theorem WrB.lt {B b : Nat} {l : List UInt8} {w : World} (h : WrB B b l w) : B ≤ b ∧ b < w.heap.size := by
  rcases h with h | h
  · exact ⟨h.1, h.lt⟩
  · exact ⟨h.1, h.lt⟩

theorem wrLies : liesAt Tryz.prog Tryz.prog.depth 151 (2 / Tryz.prog.cellsOf 151) 0 149 1 = true := by kernel_rfl

theorem wrCheck_used (b : Nat) (w : World) (h0 : w.cell? ⟨b, 0, none⟩ = some (.pointer (some ⟨b, 0, none⟩))) :
    Calls Tryz.prog 213 #[.pointer (some ⟨b, 0, none⟩)] w fun e w' => e = .returned (.tuple #[]) ∧ w' = w :=
  Any.Builder_copyCheck_used { buildLays166 with } buildExtra.toX72 b w h0

set_option maxHeartbeats 1000000 in
set_option maxRecDepth 100000 in
theorem wrCheck_fresh (b : Nat) (w : World) (h0 : w.cell? ⟨b, 0, none⟩ = some (.pointer none)) (hsh : w.shape? b = some (151, 2)) (hfz : w.frozen? ⟨b, 0, none⟩ = false) :
    Calls Tryz.prog 213 #[.pointer (some ⟨b, 0, none⟩)] w fun e w' => e = .returned (.tuple #[]) ∧ w' = w.setCell ⟨b, 0, none⟩ (.pointer (some ⟨b, 0, none⟩)) := by
  obtain ⟨j, hj, hjs⟩ := Option.map_eq_some_iff.1 buildExtra.sizeBuilder
  go_enter Tryz.func213, Tryz.ntmps213
  go_wp2
  rw [Lib.run_to_unsafe w ⟨b, 0, none⟩ Tryz.underlying146 Tryz.underlying322 hj (by rw [hjs]; decide) hsh (Nat.zero_lt_succ 1)]
  simp only [Result.andThen]
  rw [Oper.upon_value]
  go_wp2
  rw [run_callFunc_extern Tryz.func241 (by kernel_rfl) (by kernel_rfl) (by kernel_rfl) (e := Extern.AbiNoEscape.same) (by kernel_rfl)]
  rw [Lib.run_noEscape]
  simp only [Result.andThen]
  rw [Oper.upon_value]
  go_wp2
  rw [Lib.run_from_unsafe w ⟨b, 0, none⟩ Tryz.underlying322 Tryz.underlying146 hj hsh wrLies]
  simp only [Result.andThen]
  rw [Oper.upon_value]
  go_wp2
  go_end0
  exact ⟨rfl, rfl⟩

theorem wrCheck_any (B b : Nat) (bs : List Value) (w : World) (h : Lib.IsBuilderF 151 5 B b bs w) :
    Calls Tryz.prog 213 #[.pointer (some ⟨b, 0, none⟩)] w fun e w' => e = .returned (.tuple #[]) ∧ (Lib.BuilderAtF 151 5 B b (.pointer (some ⟨b, 0, none⟩)) bs w' ∧ Below B w w' ∧ Lib.OthersKept 5 (some b) w w') := by
  rcases h with h | h
  · refine (wrCheck_fresh b w h.cell0 h.shape h.frozen0).mono ?_
    rintro e w' ⟨rfl, rfl⟩
    exact ⟨rfl, h.used _, (Below.refl B w).setCell (p := ⟨b, 0, none⟩) h.1 _, (Lib.OthersKept.refl _ _ w).setCell ⟨b, 0, none⟩ rfl _⟩
  · refine (wrCheck_used b w h.cell0).mono ?_
    rintro e w' ⟨rfl, rfl⟩
    exact ⟨rfl, h, Below.refl B _, Lib.OthersKept.refl _ _ _⟩

set_option maxHeartbeats 2000000 in
set_option maxRecDepth 100000 in
theorem wrWrite_any (B b : Nat) (l : List UInt8) (s : ByteArray) (w : World) (h : WrB B b l w) (hlen : l.length + s.size ≤ 140737488355328) (hBw : B ≤ w.heap.size) :
    Calls Tryz.prog 170 #[.pointer (some ⟨b, 0, none⟩), .string s] w fun e w' => e = .returned (.tuple #[.int .i64 s.size, .nilIface]) ∧ WrB B b (l ++ s.data.toList) w' ∧ Below B w w' ∧ Lib.OthersKept 5 (some b) w w' := by
  obtain ⟨i0, hi, hz0, hz1, hz2⟩ := info_parts buildExtra.infoByte
  have hl : (Lib.byteCells l).length = l.length := Lib.byteCells_length l
  have hlen' : (Lib.byteCells l).length + s.size ≤ 140737488355328 := by omega
  unfold WrB at h ⊢
  rw [Lib.byteCells_append]
  have e0 : Lib.byteCells s.data.toList = Lib.strCells s := rfl
  rw [e0]
  obtain ⟨bs, hbs⟩ : ∃ bs, bs = Lib.byteCells l := ⟨_, rfl⟩
  rw [← hbs] at h hlen' ⊢
  have CK := ghid (wrCheck_any B b bs w h)
  clear hl hbs h
  go_enter Tryz.func170, Tryz.ntmps170
  go_wp2_with fail
  refine CK.out.mono ?_
  rintro e w1 ⟨rfl, h1, hb1, hk1⟩
  obtain ⟨hB, v, hbk, hown, hne⟩ := h1
  have c0 : w1.cell? ⟨b, 0, none⟩ = some (.pointer (some ⟨b, 0, none⟩)) := by rw [Lib.cell_of_heap hbk]; rfl
  have c1 : w1.cell? ⟨b, 1, none⟩ = some v := by rw [Lib.cell_of_heap hbk]; rfl
  go_wp2_with (at_builtin; refine Lib.wpList_append_own_stringF _ rfl _ _ 147 9 rfl B 5 i0 Tryz.underlying147 Tryz.underlying9 hi hz0 hz1 hz2 _ _ _ rfl hown s rfl ?c3 ?c4 ?c5 ?_)
  case c3 => unfold maxLen; omega
  case c4 => omega
  case c5 => have := hb1.size; omega
  intro v' w2 hown' hgrow _
  have hlt : b < w1.heap.size := (Array.getElem?_eq_some_iff.1 hbk).1
  have hb2 : w2.heap[b]? = some (.cells #[.pointer (some ⟨b, 0, none⟩), v] 151 (0, 0)) := by
    rw [hgrow.block b hlt (fun e => hne e.symm)]
    exact hbk
  have d0 : w2.cell? ⟨b, 0, none⟩ = some (.pointer (some ⟨b, 0, none⟩)) := by rw [Lib.cell_of_heap hb2]; rfl
  have d1 : w2.cell? ⟨b, 1, none⟩ = some v := by rw [Lib.cell_of_heap hb2]; rfl
  have f1 : w2.frozen? ⟨b, 1, none⟩ = false := Lib.frozen_of_heap hb2 1
  obtain ⟨ao, n', cap, rfl⟩ : ∃ ao n' cap, v' = .slice ao n' cap := by
    rcases hown'.2 with ⟨hv, _⟩ | ⟨g, cap, cur, fz, hv, _⟩
    · exact ⟨_, _, _, hv⟩
    · exact ⟨_, _, _, hv⟩
  go_wp2
  go_ret2
  refine ⟨rfl, Or.inr ?_, ?_, (hk1.grown hgrow (Lib.ownsRowF_kind hown)).setCell ⟨b, 1, none⟩ rfl _⟩
  · exact Lib.BuilderAtF.put (T := 151) (e := 5) hB hb2 (bs' := bs ++ Lib.strCells s) (by simpa [Lib.strCells_length] using hown') (by decide)
  · exact (hb1.grown hgrow (by have := hb1.size; omega) (fun k hk => (hown.lt k hk).1)).setCell (p := ⟨b, 1, none⟩) hB _

set_option maxHeartbeats 2000000 in
set_option maxRecDepth 100000 in
theorem wrString_any (B b : Nat) (l : List UInt8) (w : World) (h : WrB B b l w) (h0 : l ≠ []) :
    Calls Tryz.prog 75 #[.pointer (some ⟨b, 0, none⟩)] w fun e w' => e = .returned (.string ⟨l.toArray⟩) ∧ Below B w w' ∧ Lib.OthersKept 5 (some b) w w' := by
  obtain ⟨p, hAt⟩ : ∃ p, Lib.BuilderAtF 151 5 B b p (Lib.byteCells l) w := by
    rcases h with h | h
    · exact ⟨_, h⟩
    · exact ⟨_, h⟩
  obtain ⟨hB, v, hbk, hown, hne⟩ := hAt
  have hl0 : l.length ≠ 0 := by simpa using h0
  rw [Lib.byteCells_length] at hown
  obtain ⟨g, cap, cur, fz, rfl, hbg, hg, hfz, hnc, hcm, hcs, htake⟩ : ∃ g cap cur fz, v = .slice (some ⟨g, 0, none⟩) l.length cap ∧ B ≤ g ∧ w.heap[g]? = some (.cells cur 5 fz) ∧ fz.2 ≤ l.length * 1 ∧ l.length ≤ cap ∧ cap ≤ maxLen ∧ cur.size = cap * 1 ∧ cur.toList.take (l.length * 1) = Lib.byteCells l := by
    rcases hown.2 with ⟨_, hz⟩ | ⟨g, cap, cur, fz, hv, r⟩
    · exact absurd hz hl0
    · exact ⟨g, cap, cur, fz, hv, r⟩
  have c1 : w.drew.cell? ⟨b, 1, none⟩ = some (.slice (some ⟨g, 0, none⟩) l.length cap) := by
    have : w.drew.heap[b]? = some (.cells #[p, .slice (some ⟨g, 0, none⟩) l.length cap] 151 (0, 0)) := hbk
    rw [Lib.cell_of_heap this]; rfl
  have hSD := Lib.run_unsafeSliceData_row (P := Tryz.prog) w.drew #[147] 200 ⟨g, 0, none⟩ l.length cap (by omega)
  have hUS := Lib.run_unsafeString_row (P := Tryz.prog) w.drew 200 3 9 5 Tryz.underlying200 buildExtra.cellsByte g cur.size (by have hg' : w.drew.heap[g]? = some (.cells cur 5 fz) := hg; simp [World.shape?, hg']) l h0 (by omega) (by unfold maxLen at hcm; omega) (fun j x hx => hown.cells (g := g) rfl j (.int .u8 x.toNat) (by simp [Lib.byteCells, hx]))
  have mixed : Tryz.prog.follows .mixedOrders = true := buildLays169.mixed
  go_enter Tryz.func75, Tryz.ntmps75
  go_wp2
  go_region_o
  all_goals (go_wp2; go_ret; exact ⟨rfl, Lib.below_freeze (Below.drew (Below.refl B w)) (p := ⟨g, 0, none⟩) hbg _, ((Lib.OthersKept.refl _ _ w).drew).freeze ⟨g, 0, none⟩ _ ⟨cur, fz, hg⟩⟩)

end Go.Proofs.YtijilhbdbeajjaaGreatDoor

namespace Go.Proofs.YtijilhbdbeajjaaGreatDoor

open Go.RowKit

/-- The writer at block b has the text t. -/
def WrT (B b : Nat) (t : ByteArray) (w : World) : Prop := WrB B b t.data.toList w

/-- Behind a call, the writer has t; what else stood stands. -/
structure WrS (B b : Nat) (t : ByteArray) (w w' : World) : Prop where
  has : WrT B b t w'
  below : Below B w w'
  kept : Lib.OthersKept 5 (some b) w w'

theorem kept_of_below {b : Option Nat} {e : TypeId} {w w' : World} (h : Below w.heap.size w w') : Lib.OthersKept e b w w' := by
  intro k o hk _ _
  exact (h.block k (Array.getElem?_eq_some_iff.1 hk).1).trans hk

theorem WrS.refl {B b : Nat} {t : ByteArray} {w : World} (h : WrT B b t w) : WrS B b t w w := ⟨h, Below.refl _ _, Lib.OthersKept.refl _ _ _⟩

theorem WrS.trans {B b : Nat} {t u : ByteArray} {w w1 w2 : World} (h : WrS B b t w w1) (k : WrS B b u w1 w2) : WrS B b u w w2 := ⟨k.has, h.below.trans k.below, h.kept.trans k.kept⟩

theorem WrS.more {B b : Nat} {t : ByteArray} {w w1 w2 : World} (h : WrS B b t w w1) (k : Below w1.heap.size w1 w2) (hB : B ≤ w1.heap.size) : WrS B b t w w2 :=
  ⟨WrB.below h.has k, h.below.trans (k.mono hB), h.kept.trans (kept_of_below k)⟩

theorem WrS.row {B b : Nat} {t : ByteArray} {w w' : World} (h : WrS B b t w w') {g : Nat} {cs : Array Value} {ty : TypeId} (hg : w.heap[g]? = some (.cells cs ty (0, 0))) (hne : g ≠ b) (ht : ty ≠ 5) : w'.heap[g]? = some (.cells cs ty (0, 0)) :=
  kept_row h.kept hg hne ht

theorem WrT.lt {B b : Nat} {t : ByteArray} {w : World} (h : WrT B b t w) : B ≤ b ∧ b < w.heap.size := WrB.lt h

set_option maxHeartbeats 800000 in
theorem wrNumber_any (B b : Nat) (t : ByteArray) (n : Int) (w : World) (h : WrT B b t w) (h0 : 0 ≤ n) (h1 : n ≤ 1099511627776) (ht : t.size ≤ 1000000000) :
    Calls Tryz.prog 120 #[.pointer (some ⟨b, 0, none⟩), .int .i64 n] w fun e w' => e = .returned (.tuple #[]) ∧ WrS B b (t ++ numOut n) w w' := by
  have hlt := h.lt
  have hsn := numOut_le n
  have CN : Hid (∀ w, Calls Tryz.prog 169 #[.int .i64 n] w fun e w' => e = .returned (.tuple #[.string (numOut n), .int .i64 0]) ∧ Below w.heap.size w w') := fun w => number_ok n w h0 h1
  obtain ⟨s, hs⟩ : ∃ s, s = numOut n := ⟨_, rfl⟩
  rw [← hs] at CN hsn ⊢
  have HT := ghid h
  have hts : t.data.toList.length = t.size := by simp
  have HTS := ghid hts
  clear hs h h0 h1 hts
  go_enter Tryz.func120, Tryz.ntmps120
  go_wp2_with fail
  refine (CN.out _).mono ?_
  rintro e w1 ⟨rfl, hb1⟩
  have hz1 := hb1.size
  have CW := ghid (wrWrite_any B b t.data.toList s w1 (WrB.below HT.out hb1) (by have := HTS.out; omega) (by omega))
  have HS1 := ghid ((WrS.refl HT.out).more hb1 (by omega))
  clear hb1
  go_wp2_with fail
  refine CW.out.mono ?_
  rintro e w2 ⟨rfl, h2, hb2, hk2⟩
  have HS2 : Hid (WrS B b (t ++ s) w w2) := HS1.out.trans ⟨by unfold WrT; simpa using h2, hb2, hk2⟩
  clear h2 hb2 hk2
  go_wp2
  go_end0
  exact ⟨rfl, HS2.out⟩

set_option maxHeartbeats 800000 in
theorem wrText_any (B b : Nat) (t : ByteArray) (x : ByteArray) (w : World) (h : WrT B b t w) (h0 : x.size ≤ 5000) (ht : t.size ≤ 1000000000) :
    Calls Tryz.prog 171 #[.pointer (some ⟨b, 0, none⟩), .string x] w fun e w' => e = .returned (.tuple #[]) ∧ WrS B b (t ++ textOut x) w w' := by
  have hlt := h.lt
  have hsn := textOut_size x
  have CN : Hid (∀ w, Calls Tryz.prog 214 #[.string x] w fun e w' => e = .returned (.tuple #[.string (textOut x), .int .i64 0]) ∧ Below w.heap.size w w') := fun w => text_ok x w h0
  obtain ⟨s, hs⟩ : ∃ s, s = textOut x := ⟨_, rfl⟩
  rw [← hs] at CN hsn ⊢
  have HT := ghid h
  have hts : t.data.toList.length = t.size := by simp
  have HTS := ghid hts
  clear hs h hts
  go_enter Tryz.func171, Tryz.ntmps171
  go_wp2_with fail
  refine (CN.out _).mono ?_
  rintro e w1 ⟨rfl, hb1⟩
  have hz1 := hb1.size
  have CW := ghid (wrWrite_any B b t.data.toList s w1 (WrB.below HT.out hb1) (by have := HTS.out; omega) (by omega))
  have HS1 := ghid ((WrS.refl HT.out).more hb1 (by omega))
  clear hb1
  go_wp2_with fail
  refine CW.out.mono ?_
  rintro e w2 ⟨rfl, h2, hb2, hk2⟩
  have HS2 : Hid (WrS B b (t ++ s) w w2) := HS1.out.trans ⟨by unfold WrT; simpa using h2, hb2, hk2⟩
  clear h2 hb2 hk2
  go_wp2
  go_end0
  exact ⟨rfl, HS2.out⟩

end Go.Proofs.YtijilhbdbeajjaaGreatDoor

namespace Go.Proofs.YtijilhbdbeajjaaGreatDoor

open Go.RowKit

/-- What is asked of a writing method: it puts the bytes of its argument behind what the writer has. -/
def WrC (cl : Nat) {α : Type} (out : α → ByteArray) (V : World → Nat → Value → α → Prop) (ok : α → Prop) : Prop :=
  ∀ (B b : Nat) (t : ByteArray) (ev : Value) (x : α) (w : World), V w B ev x → ok x → B ≤ w.heap.size → WrT B b t w → t.size + (out x).size ≤ 1000000000 →
    Calls Tryz.prog cl #[.pointer (some ⟨b, 0, none⟩), ev] w fun e w' => e = .returned (.tuple #[]) ∧ WrS B b (t ++ out x) w w'

theorem catB_take_le {α : Type} (out : α → ByteArray) (xs : List α) (k : Nat) : (catB ((xs.take k).map out)).size ≤ (catB (xs.map out)).size := by
  have e : xs.map out = (xs.take k).map out ++ (xs.drop k).map out := by rw [← List.map_append, List.take_append_drop]
  rw [e, catB_append, ByteArray.size_append]
  omega

theorem catB_step {α : Type} (out : α → ByteArray) {xs : List α} {k : Nat} {x : α} (h : xs[k]? = some x) (t : ByteArray) : (t ++ catB ((xs.take k).map out)) ++ out x = t ++ catB ((xs.take (k + 1)).map out) := by
  rw [take_snocC h, List.map_append, List.map_cons, List.map_nil, catB_snoc, ByteArray.append_assoc]

theorem catB_fits {α : Type} (out : α → ByteArray) {xs : List α} {k : Nat} {x : α} (h : xs[k]? = some x) (t : ByteArray) : (t ++ catB ((xs.take k).map out)).size + (out x).size ≤ t.size + (catB (xs.map out)).size := by
  rw [← ByteArray.size_append, catB_step out h t, ByteArray.size_append]
  have := catB_take_le out xs (k + 1)
  omega

theorem wr_alloc {B b : Nat} {t : ByteArray} {w w1 : World} (h : WrS B b t w w1) (hB : B ≤ w1.heap.size) (o : Obj) : WrS B b t w (w1.alloc o) := h.more ((Below.refl _ _).alloc (Nat.le_refl _) _) hB

set_option maxRecDepth 100000 in
set_option maxHeartbeats 1600000 in
theorem wlistInt (B b : Nat) (t : ByteArray) (v : Value) (xs : List Int) (cl : Nat) (out : Int → ByteArray) (w : World) (hv : IntsR w B v xs) (_hB : B ≤ w.heap.size) (hw : WrT B b t w) (hlen : (xs.length : Int) ≤ 1099511627776) (hsz : t.size + (numOut xs.length ++ catB (xs.map out)).size ≤ 1000000000)
    (eg : ∀ args w, (callFunc cl args).run Tryz.prog w = .ok (.enter cl args) w) (hc : WrC cl out IntV (fun x => x ∈ xs)) :
    Calls Tryz.prog 172 #[.pointer (some ⟨b, 0, none⟩), v, .func (.func cl) #[.pointer (some ⟨b, 0, none⟩)] #[]] w fun e w' => e = .returned (.tuple #[]) ∧ WrS B b (t ++ (numOut xs.length ++ catB (xs.map out))) w w' := by
  have hlt := hw.lt
  have HC := ghid hc
  obtain ⟨ao, cap, rfl, h1, h2, h3, h4⟩ := hv
  rw [ByteArray.size_append] at hsz
  have CN := ghid (wrNumber_any B b t xs.length w hw (by omega) hlen (by omega))
  rw [← ByteArray.append_assoc]
  have hts : (t ++ numOut xs.length).size + (catB (xs.map out)).size ≤ 1000000000 := by rw [ByteArray.size_append]; omega
  obtain ⟨tn, htn⟩ : ∃ tn, tn = t ++ numOut xs.length := ⟨_, rfl⟩
  rw [← htn] at CN hts ⊢
  clear hc htn hsz hw
  go_enter Tryz.func172, Tryz.ntmps172
  go_wp2_with fail
  refine CN.out.mono ?_
  rintro e w1 ⟨rfl, hs1⟩
  have HS1 := ghid hs1
  clear hs1 CN
  go_wp2_with fail
  go_loopw [14] (fun i wr => ∃ k : Nat, k ≤ xs.length ∧ i = .int .i64 k ∧ WrS B b (tn ++ catB ((xs.take k).map out)) w wr) (fun i _ => xs.length - (intOf i).toNat)
  case atStart => exact ⟨0, Nat.zero_le _, rfl, by rw [List.take_zero, List.map_nil, catB_nil, bnil]; exact HS1.out⟩
  case round =>
    obtain ⟨k, hk, rfl, hs⟩ := hrel
    have HS := ghid hs
    have hb := hs.below
    have hzr := hb.size
    clear hs HS1
    by_cases hlt2 : k < xs.length
    · obtain ⟨g, off, rfl, hbB, hc⟩ := h4 (by omega)
      obtain ⟨x, hx⟩ : ∃ x, xs[k]? = some x := ⟨_, List.getElem?_eq_getElem hlt2⟩
      have hm := List.mem_of_getElem? hx
      have hfit := catB_fits out hx tn
      have HST := ghid (catB_step out hx tn)
      have c0 := (hb.cell (p := ⟨g, off + k, none⟩) hbB).trans (hc k x hx)
      have HSA := HS
      have CW := ghid (HC.out B b _ (.int .i64 x) x wr rfl hm (by omega) HSA.out.has (by omega))
      clear hx hc h4 hb hm HC
      go_wp2_with fail
      refine CW.out.mono ?_
      rintro e w2 ⟨rfl, hs2⟩
      have HS2 := ghid (HSA.out.trans hs2)
      rw [HST.out] at HS2
      clear hs2 CW HST
      go_wp2
      go_roundw
      case rel => exact ⟨k + 1, by omega, by go_num, HS2.out⟩
      case measure => simp [intOf]; omega
    · have hkl : k = xs.length := by omega
      subst hkl
      rw [List.take_length] at HS
      clear h4 hb
      go_wp2
      go_end0
      exact ⟨rfl, HS.out⟩

set_option maxRecDepth 100000 in
set_option maxHeartbeats 1600000 in
theorem wlistKept (B b : Nat) (t : ByteArray) (v : Value) (xs : List KeptD) (cl : Nat) (out : KeptD → ByteArray) (w : World) (hv : KeptsR w B v xs) (hB : B ≤ w.heap.size) (hw : WrT B b t w) (hlen : (xs.length : Int) ≤ 1099511627776) (hsz : t.size + (numOut xs.length ++ catB (xs.map out)).size ≤ 1000000000)
    (eg : ∀ args w, (callFunc cl args).run Tryz.prog w = .ok (.enter cl args) w) (hc : WrC cl out KeptV (fun x => x ∈ xs)) :
    Calls Tryz.prog 173 #[.pointer (some ⟨b, 0, none⟩), v, .func (.func cl) #[.pointer (some ⟨b, 0, none⟩)] #[]] w fun e w' => e = .returned (.tuple #[]) ∧ WrS B b (t ++ (numOut xs.length ++ catB (xs.map out))) w w' := by
  have hlt := hw.lt
  have HC := ghid hc
  obtain ⟨ao, cap, rfl, h1, h2, h3, h4⟩ := hv
  rw [ByteArray.size_append] at hsz
  have CN := ghid (wrNumber_any B b t xs.length w hw (by omega) hlen (by omega))
  rw [← ByteArray.append_assoc]
  have hts : (t ++ numOut xs.length).size + (catB (xs.map out)).size ≤ 1000000000 := by rw [ByteArray.size_append]; omega
  obtain ⟨tn, htn⟩ : ∃ tn, tn = t ++ numOut xs.length := ⟨_, rfl⟩
  rw [← htn] at CN hts ⊢
  clear hc htn hsz hw
  go_enter Tryz.func173, Tryz.ntmps173
  go_wp2_with fail
  refine CN.out.mono ?_
  rintro e w1 ⟨rfl, hs1⟩
  have HS1 := ghid hs1
  clear hs1 CN
  go_wp2_with fail
  go_loopw [14] (fun i wr => ∃ k : Nat, k ≤ xs.length ∧ i = .int .i64 k ∧ WrS B b (tn ++ catB ((xs.take k).map out)) w wr) (fun i _ => xs.length - (intOf i).toNat)
  case atStart => exact ⟨0, Nat.zero_le _, rfl, by rw [List.take_zero, List.map_nil, catB_nil, bnil]; exact HS1.out⟩
  case round =>
    obtain ⟨k, hk, rfl, hs⟩ := hrel
    have HS := ghid hs
    have hb := hs.below
    have hzr := hb.size
    clear hs HS1
    by_cases hlt2 : k < xs.length
    · obtain ⟨g, off, rfl, hbB, hc⟩ := h4 (by omega)
      obtain ⟨x, hx⟩ : ∃ x, xs[k]? = some x := ⟨_, List.getElem?_eq_getElem hlt2⟩
      have hm := List.mem_of_getElem? hx
      have hfit := catB_fits out hx tn
      have HST := ghid (catB_step out hx tn)
      obtain ⟨c0, c1, c2, c3, hs, -⟩ := (hc k x hx).below hbB hb
      obtain ⟨xs0, xc, xn, xt⟩ := x
      simp only at c0 c1 c2 c3 hs
      have hba : Below wr.heap.size wr (wr.alloc (.cells #[.int .i64 xs0, .int .i64 xc, .int .i64 xn, .string xt] 168)) := (Below.refl _ _).alloc (Nat.le_refl _) _
      have HSA := ghid (wr_alloc HS.out (Nat.le_trans hB hzr) (.cells #[.int .i64 xs0, .int .i64 xc, .int .i64 xn, .string xt] 168))
      have CW := ghid (HC.out B b _ (.agg #[.int .i64 xs0, .int .i64 xc, .int .i64 xn, .string xt]) ⟨xs0, xc, xn, xt⟩ (wr.alloc (.cells #[.int .i64 xs0, .int .i64 xc, .int .i64 xn, .string xt] 168)) ⟨rfl, hs⟩ hm (by simp; omega) HSA.out.has (by omega))
      clear hba hx hc h4 hb hm HC
      go_wp2_with fail
      refine CW.out.mono ?_
      rintro e w2 ⟨rfl, hs2⟩
      have HS2 := ghid (HSA.out.trans hs2)
      rw [HST.out] at HS2
      clear hs2 CW HST
      go_wp2
      go_roundw
      case rel => exact ⟨k + 1, by omega, by go_num, HS2.out⟩
      case measure => simp [intOf]; omega
    · have hkl : k = xs.length := by omega
      subst hkl
      rw [List.take_length] at HS
      clear h4 hb
      go_wp2
      go_end0
      exact ⟨rfl, HS.out⟩

set_option maxRecDepth 100000 in
set_option maxHeartbeats 1600000 in
theorem wlistLock (B b : Nat) (t : ByteArray) (v : Value) (xs : List LockD) (cl : Nat) (out : LockD → ByteArray) (w : World) (hv : LocksR w B v xs) (hB : B ≤ w.heap.size) (hw : WrT B b t w) (hlen : (xs.length : Int) ≤ 1099511627776) (hsz : t.size + (numOut xs.length ++ catB (xs.map out)).size ≤ 1000000000)
    (eg : ∀ args w, (callFunc cl args).run Tryz.prog w = .ok (.enter cl args) w) (hc : WrC cl out LockV (fun x => x ∈ xs)) :
    Calls Tryz.prog 121 #[.pointer (some ⟨b, 0, none⟩), v, .func (.func cl) #[.pointer (some ⟨b, 0, none⟩)] #[]] w fun e w' => e = .returned (.tuple #[]) ∧ WrS B b (t ++ (numOut xs.length ++ catB (xs.map out))) w w' := by
  have hlt := hw.lt
  have HC := ghid hc
  obtain ⟨ao, cap, rfl, h1, h2, h3, h4⟩ := hv
  rw [ByteArray.size_append] at hsz
  have CN := ghid (wrNumber_any B b t xs.length w hw (by omega) hlen (by omega))
  rw [← ByteArray.append_assoc]
  have hts : (t ++ numOut xs.length).size + (catB (xs.map out)).size ≤ 1000000000 := by rw [ByteArray.size_append]; omega
  obtain ⟨tn, htn⟩ : ∃ tn, tn = t ++ numOut xs.length := ⟨_, rfl⟩
  rw [← htn] at CN hts ⊢
  clear hc htn hsz hw
  go_enter Tryz.func121, Tryz.ntmps121
  go_wp2_with fail
  refine CN.out.mono ?_
  rintro e w1 ⟨rfl, hs1⟩
  have HS1 := ghid hs1
  clear hs1 CN
  go_wp2_with fail
  go_loopw [14] (fun i wr => ∃ k : Nat, k ≤ xs.length ∧ i = .int .i64 k ∧ WrS B b (tn ++ catB ((xs.take k).map out)) w wr) (fun i _ => xs.length - (intOf i).toNat)
  case atStart => exact ⟨0, Nat.zero_le _, rfl, by rw [List.take_zero, List.map_nil, catB_nil, bnil]; exact HS1.out⟩
  case round =>
    obtain ⟨k, hk, rfl, hs⟩ := hrel
    have HS := ghid hs
    have hb := hs.below
    have hzr := hb.size
    clear hs HS1
    by_cases hlt2 : k < xs.length
    · obtain ⟨g, off, rfl, hbB, hc⟩ := h4 (by omega)
      obtain ⟨x, hx⟩ : ∃ x, xs[k]? = some x := ⟨_, List.getElem?_eq_getElem hlt2⟩
      have hm := List.mem_of_getElem? hx
      have hfit := catB_fits out hx tn
      have HST := ghid (catB_step out hx tn)
      obtain ⟨lv, c0, c1, c2, c3, hl, hs⟩ := (hc k x hx).below hbB hb (Nat.le_refl _)
      obtain ⟨lo, lc, rfl, -⟩ := id hl
      obtain ⟨xn, xh, xf, xl⟩ := x
      simp only at c0 c1 c2 c3 hl hs
      have hba : Below wr.heap.size wr (wr.alloc (.cells #[.string xn, .int .i64 xh, .int .i64 xf, .slice lo xl.length lc] 82)) := (Below.refl _ _).alloc (Nat.le_refl _) _
      have HSA := ghid (wr_alloc HS.out (Nat.le_trans hB hzr) (.cells #[.string xn, .int .i64 xh, .int .i64 xf, .slice lo xl.length lc] 82))
      have CW := ghid (HC.out B b _ (.agg #[.string xn, .int .i64 xh, .int .i64 xf, .slice lo xl.length lc]) ⟨xn, xh, xf, xl⟩ (wr.alloc (.cells #[.string xn, .int .i64 xh, .int .i64 xf, .slice lo xl.length lc] 82)) ⟨_, rfl, hl.below hba (Nat.le_trans hB hzr), hs⟩ hm (by simp; omega) HSA.out.has (by omega))
      clear hba hl hx hc h4 hb hm HC
      go_wp2_with fail
      refine CW.out.mono ?_
      rintro e w2 ⟨rfl, hs2⟩
      have HS2 := ghid (HSA.out.trans hs2)
      rw [HST.out] at HS2
      clear hs2 CW HST
      go_wp2
      go_roundw
      case rel => exact ⟨k + 1, by omega, by go_num, HS2.out⟩
      case measure => simp [intOf]; omega
    · have hkl : k = xs.length := by omega
      subst hkl
      rw [List.take_length] at HS
      clear h4 hb
      go_wp2
      go_end0
      exact ⟨rfl, HS.out⟩

set_option maxRecDepth 100000 in
set_option maxHeartbeats 1600000 in
theorem wlistPair (B b : Nat) (t : ByteArray) (v : Value) (xs : List PairD) (cl : Nat) (out : PairD → ByteArray) (w : World) (hv : PairsR w B v xs) (hB : B ≤ w.heap.size) (hw : WrT B b t w) (hlen : (xs.length : Int) ≤ 1099511627776) (hsz : t.size + (numOut xs.length ++ catB (xs.map out)).size ≤ 1000000000)
    (eg : ∀ args w, (callFunc cl args).run Tryz.prog w = .ok (.enter cl args) w) (hc : WrC cl out PairV (fun x => x ∈ xs)) :
    Calls Tryz.prog 123 #[.pointer (some ⟨b, 0, none⟩), v, .func (.func cl) #[.pointer (some ⟨b, 0, none⟩)] #[]] w fun e w' => e = .returned (.tuple #[]) ∧ WrS B b (t ++ (numOut xs.length ++ catB (xs.map out))) w w' := by
  have hlt := hw.lt
  have HC := ghid hc
  obtain ⟨ao, cap, rfl, h1, h2, h3, h4⟩ := hv
  rw [ByteArray.size_append] at hsz
  have CN := ghid (wrNumber_any B b t xs.length w hw (by omega) hlen (by omega))
  rw [← ByteArray.append_assoc]
  have hts : (t ++ numOut xs.length).size + (catB (xs.map out)).size ≤ 1000000000 := by rw [ByteArray.size_append]; omega
  obtain ⟨tn, htn⟩ : ∃ tn, tn = t ++ numOut xs.length := ⟨_, rfl⟩
  rw [← htn] at CN hts ⊢
  clear hc htn hsz hw
  go_enter Tryz.func123, Tryz.ntmps123
  go_wp2_with fail
  refine CN.out.mono ?_
  rintro e w1 ⟨rfl, hs1⟩
  have HS1 := ghid hs1
  clear hs1 CN
  go_wp2_with fail
  go_loopw [14] (fun i wr => ∃ k : Nat, k ≤ xs.length ∧ i = .int .i64 k ∧ WrS B b (tn ++ catB ((xs.take k).map out)) w wr) (fun i _ => xs.length - (intOf i).toNat)
  case atStart => exact ⟨0, Nat.zero_le _, rfl, by rw [List.take_zero, List.map_nil, catB_nil, bnil]; exact HS1.out⟩
  case round =>
    obtain ⟨k, hk, rfl, hs⟩ := hrel
    have HS := ghid hs
    have hb := hs.below
    have hzr := hb.size
    clear hs HS1
    by_cases hlt2 : k < xs.length
    · obtain ⟨g, off, rfl, hbB, hc⟩ := h4 (by omega)
      obtain ⟨x, hx⟩ : ∃ x, xs[k]? = some x := ⟨_, List.getElem?_eq_getElem hlt2⟩
      have hm := List.mem_of_getElem? hx
      have hfit := catB_fits out hx tn
      have HST := ghid (catB_step out hx tn)
      obtain ⟨c0, c1, c2, hs0, hs1, -⟩ := (hc k x hx).below hbB hb
      obtain ⟨xn, xv, xk⟩ := x
      simp only at c0 c1 c2 hs0 hs1
      have hba : Below wr.heap.size wr (wr.alloc (.cells #[.string xn, .string xv, .int .i64 xk] 89)) := (Below.refl _ _).alloc (Nat.le_refl _) _
      have HSA := ghid (wr_alloc HS.out (Nat.le_trans hB hzr) (.cells #[.string xn, .string xv, .int .i64 xk] 89))
      have CW := ghid (HC.out B b _ (.agg #[.string xn, .string xv, .int .i64 xk]) ⟨xn, xv, xk⟩ (wr.alloc (.cells #[.string xn, .string xv, .int .i64 xk] 89)) ⟨rfl, hs0, hs1⟩ hm (by simp; omega) HSA.out.has (by omega))
      clear hba hx hc h4 hb hm HC
      go_wp2_with fail
      refine CW.out.mono ?_
      rintro e w2 ⟨rfl, hs2⟩
      have HS2 := ghid (HSA.out.trans hs2)
      rw [HST.out] at HS2
      clear hs2 CW HST
      go_wp2
      go_roundw
      case rel => exact ⟨k + 1, by omega, by go_num, HS2.out⟩
      case measure => simp [intOf]; omega
    · have hkl : k = xs.length := by omega
      subst hkl
      rw [List.take_length] at HS
      clear h4 hb
      go_wp2
      go_end0
      exact ⟨rfl, HS.out⟩

set_option maxRecDepth 100000 in
set_option maxHeartbeats 1600000 in
theorem wlistSess (B b : Nat) (t : ByteArray) (v : Value) (xs : List SessD) (cl : Nat) (out : SessD → ByteArray) (w : World) (hv : SessR w B v xs) (hB : B ≤ w.heap.size) (hw : WrT B b t w) (hlen : (xs.length : Int) ≤ 1099511627776) (hsz : t.size + (numOut xs.length ++ catB (xs.map out)).size ≤ 1000000000)
    (eg : ∀ args w, (callFunc cl args).run Tryz.prog w = .ok (.enter cl args) w) (hc : WrC cl out SessV (fun x => x ∈ xs)) :
    Calls Tryz.prog 125 #[.pointer (some ⟨b, 0, none⟩), v, .func (.func cl) #[.pointer (some ⟨b, 0, none⟩)] #[]] w fun e w' => e = .returned (.tuple #[]) ∧ WrS B b (t ++ (numOut xs.length ++ catB (xs.map out))) w w' := by
  have hlt := hw.lt
  have HC := ghid hc
  obtain ⟨ao, cap, rfl, h1, h2, h3, h4⟩ := hv
  rw [ByteArray.size_append] at hsz
  have CN := ghid (wrNumber_any B b t xs.length w hw (by omega) hlen (by omega))
  rw [← ByteArray.append_assoc]
  have hts : (t ++ numOut xs.length).size + (catB (xs.map out)).size ≤ 1000000000 := by rw [ByteArray.size_append]; omega
  obtain ⟨tn, htn⟩ : ∃ tn, tn = t ++ numOut xs.length := ⟨_, rfl⟩
  rw [← htn] at CN hts ⊢
  clear hc htn hsz hw
  go_enter Tryz.func125, Tryz.ntmps125
  go_wp2_with fail
  refine CN.out.mono ?_
  rintro e w1 ⟨rfl, hs1⟩
  have HS1 := ghid hs1
  clear hs1 CN
  go_wp2_with fail
  go_loopw [14] (fun i wr => ∃ k : Nat, k ≤ xs.length ∧ i = .int .i64 k ∧ WrS B b (tn ++ catB ((xs.take k).map out)) w wr) (fun i _ => xs.length - (intOf i).toNat)
  case atStart => exact ⟨0, Nat.zero_le _, rfl, by rw [List.take_zero, List.map_nil, catB_nil, bnil]; exact HS1.out⟩
  case round =>
    obtain ⟨k, hk, rfl, hs⟩ := hrel
    have HS := ghid hs
    have hb := hs.below
    have hzr := hb.size
    clear hs HS1
    by_cases hlt2 : k < xs.length
    · obtain ⟨g, off, rfl, hbB, hc⟩ := h4 (by omega)
      obtain ⟨x, hx⟩ : ∃ x, xs[k]? = some x := ⟨_, List.getElem?_eq_getElem hlt2⟩
      have hm := List.mem_of_getElem? hx
      have hfit := catB_fits out hx tn
      have HST := ghid (catB_step out hx tn)
      obtain ⟨lv, c0, c1, c2, c3, c4, hl, -⟩ := (hc k x hx).below hbB hb (Nat.le_refl _)
      obtain ⟨lo, lc, rfl, -⟩ := id hl
      obtain ⟨xc, xi, xa, xz, xl⟩ := x
      simp only at c0 c1 c2 c3 c4 hl
      have hba : Below wr.heap.size wr (wr.alloc (.cells #[.int .i64 xc, .int .i64 xi, .int .i64 xa, .int .i64 xz, .slice lo xl.length lc] 121)) := (Below.refl _ _).alloc (Nat.le_refl _) _
      have HSA := ghid (wr_alloc HS.out (Nat.le_trans hB hzr) (.cells #[.int .i64 xc, .int .i64 xi, .int .i64 xa, .int .i64 xz, .slice lo xl.length lc] 121))
      have CW := ghid (HC.out B b _ (.agg #[.int .i64 xc, .int .i64 xi, .int .i64 xa, .int .i64 xz, .slice lo xl.length lc]) ⟨xc, xi, xa, xz, xl⟩ (wr.alloc (.cells #[.int .i64 xc, .int .i64 xi, .int .i64 xa, .int .i64 xz, .slice lo xl.length lc] 121)) ⟨_, rfl, hl.below hba (Nat.le_trans hB hzr)⟩ hm (by simp; omega) HSA.out.has (by omega))
      clear hba hl hx hc h4 hb hm HC
      go_wp2_with fail
      refine CW.out.mono ?_
      rintro e w2 ⟨rfl, hs2⟩
      have HS2 := ghid (HSA.out.trans hs2)
      rw [HST.out] at HS2
      clear hs2 CW HST
      go_wp2
      go_roundw
      case rel => exact ⟨k + 1, by omega, by go_num, HS2.out⟩
      case measure => simp [intOf]; omega
    · have hkl : k = xs.length := by omega
      subst hkl
      rw [List.take_length] at HS
      clear h4 hb
      go_wp2
      go_end0
      exact ⟨rfl, HS.out⟩

end Go.Proofs.YtijilhbdbeajjaaGreatDoor
