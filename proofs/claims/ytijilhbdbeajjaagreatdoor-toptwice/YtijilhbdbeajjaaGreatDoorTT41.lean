/- The cluster as plain data: what each act does, by the document (P11). Plain mathematics; no program is walked; slices.Concat of lists of texts: all of them, in a row of the call's own. slices.Grow by the shelf's contract; log.join: lists of texts to one, in memory of its own; A replica in memory of a call's own: what stores elsewhere leave of it; log.checkEntries, log.Check; The parts of a state as values: what a value reads as, wherever it is kept; package snap's reader: what its number and text answer, and what is left; package snap's readList, at its five types: how many, and each one, in memory of its own; package snap's reader: its methods for the parts of a state; codec.Seal and the document's SealOf: both return the four bytes of the two sums; nothing that was there has turned; snap.unseal: all ahead of the seal; what is wrong first; snap.Decode: what it answers at every text (joined by program) -/
import Derived.Shelf.Spec.SlicesGrow
import Derived.Laws.AppendOwnNone
import Derived.WalkKit
import Derived.ProofKit
import Derived.OwnWalk
import Derived.Test.YtijilhbdbeajjaaGreatDoorRows
import Derived.OpenShut
import Derived.ShutString
import Derived.WalkLawsBesides
import Derived.Laws.BytesArg
import Derived.Deep.RegionWith
import Derived.Deep.RegionHeld3
import Derived.Test.YtijilhbdbeajjaaGreatDoorTT40
import Derived.Test.YtijilhbdbeajjaaGreatDoorTT00
import Derived.Test.YtijilhbdbeajjaaGreatDoorTT02
import Derived.Test.YtijilhbdbeajjaaGreatDoorTT01
import Derived.Test.YtijilhbdbeajjaaGreatDoorTT39
import Derived.Test.YtijilhbdbeajjaaGreatDoorTT34
namespace Go.Proofs.YtijilhbdbeajjaaGreatDoor

open Go.RowKit

/-- An act, as plain data. -/
structure ActD where
  kind : Int
  c : Int
  r : Int
  k : Int
  ok : Int
  oa : ByteArray
  ob : ByteArray
  on : Int

/-- Replicas, clients, mails on their way, entries that are committed, the leader's place. -/
structure TownD where
  reps : List RepD
  custs : List CustD
  mails : List MailD
  comm : List ByteArray
  leader : Nat

def TownD.rep (t : TownD) (k : Nat) : RepD := t.reps.getD k .zero

def TownD.lead (t : TownD) : RepD := t.rep t.leader

/-- What the entry at an index must be: what is committed, else what the leader has. -/
def TownD.must (t : TownD) (i : Nat) : Option ByteArray :=
  if i ≤ t.comm.length then t.comm[i - 1]? else if t.lead.log.base < i then t.lead.log.ents[i - 1 - t.lead.log.base.toNat]? else none

/-- Up to where entries behind i are those that they must be. -/
def agreeT (f : Nat → Option ByteArray) : Nat → List ByteArray → Nat
  | i, [] => i
  | i, x :: r => if f (i + 1) = some x then agreeT f (i + 1) r else i

/-- Up to where a replica is right. -/
def TownD.right (t : TownD) (r : RepD) : Nat := agreeT t.must r.log.base.toNat r.log.ents

/-- What is committed, once all entries up to an index are. -/
def TownD.upto (t : TownD) (n : Nat) : List ByteArray := t.comm ++ ((List.range (n - t.comm.length)).filterMap fun j => t.must (t.comm.length + 1 + j))

def TownD.commit1 (t : TownD) (k : Nat) : TownD := if k = t.leader then t else { t with comm := t.upto (t.right (t.rep k)) }

/-- What can be is committed. -/
def TownD.commit (t : TownD) : TownD := ((t.commit1 0).commit1 1).commit1 2

def TownD.setRep (t : TownD) (k : Nat) (r : RepD) : TownD := { t with reps := t.reps.set k r }

def TownD.setCust (t : TownD) (k : Nat) (c : CustD) : TownD := { t with custs := t.custs.set k c }

/-- An entry put behind all of the leader. -/
def TownD.added (t : TownD) (e : Int) (s : ByteArray) : TownD × Int :=
  if e ≠ 0 then (t, e)
  else if hearE t.lead (lastL t.lead.log) [s] ≠ 0 then (t, hearE t.lead (lastL t.lead.log) [s])
  else (t.setRep t.leader (hearL t.lead (lastL t.lead.log) [s]), 0)

/-- A client's Join, and a call that waits, as bytes. -/
def helloT (c : CustD) : ByteArray := cmdOut ⟨1, c.id, 0, 0, 0, 0, ⟨#[]⟩, ⟨#[]⟩, 0⟩

def askT (c : CustD) (k : Nat) : ByteArray := match c.waits[k]? with
  | some x => cmdOut ⟨2, c.id, c.session, x.seq, knownC c, x.kind, x.a, x.b, x.n⟩
  | none => ⟨#[]⟩

def TownD.client (t : TownD) (a : ActD) : TownD × Int :=
  if ¬ (0 ≤ a.c ∧ a.c ≤ (t.custs.length : Int) - 1) then (t, 6)
  else
    let c := t.custs.getD a.c.toNat .zero
    if a.kind = 1 then t.added (checkC c) (helloT c)
    else if a.kind = 3 then t.added (requestE c a.k) (askT c a.k.toNat)
    else if startE c a.ok a.oa a.ob a.on ≠ 0 then (t, startE c a.ok a.oa a.ob a.on)
    else (t.setCust a.c.toNat (startL c a.ok a.oa a.ob a.on), 0)

/-- The leader tells a replica what it lacks. -/
def TownD.ship (t : TownD) (k : Nat) (many : Int) : TownD × Int :=
  if k = t.leader ∨ many < 0 then (t, 2)
  else if (t.right (t.rep k) : Int) < t.lead.log.base then
    if instE (t.rep k) t.lead.snap ≠ 0 then (t, instE (t.rep k) t.lead.snap) else ((t.setRep k (instL (t.rep k) t.lead.snap)).commit, 0)
  else if behindE t.lead.log (t.right (t.rep k)) many ≠ 0 then (t, behindE t.lead.log (t.right (t.rep k)) many)
  else if hearE (t.rep k) (t.right (t.rep k)) (behindL t.lead.log (t.right (t.rep k)) many) ≠ 0 then (t, hearE (t.rep k) (t.right (t.rep k)) (behindL t.lead.log (t.right (t.rep k)) many))
  else ((t.setRep k (hearL (t.rep k) (t.right (t.rep k)) (behindL t.lead.log (t.right (t.rep k)) many))).commit, 0)

/-- Up to where a replica may apply. -/
def TownD.may (t : TownD) (k : Nat) (many : Int) : Int := min (min ((t.rep k).state.index + min many 400) t.comm.length) (t.right (t.rep k))

def TownD.apply (t : TownD) (k : Nat) (many : Int) : TownD × Int :=
  if many < 0 then (t, 2)
  else if goE (t.rep k) (t.may k many) ≠ 0 then (t, goE (t.rep k) (t.may k many))
  else ({ (t.setRep k (goL (t.rep k) (t.may k many))) with mails := if k = t.leader then t.mails ++ (goM (t.rep k) (t.may k many)).take (60 - t.mails.length) else t.mails }, 0)

def TownD.replica (t : TownD) (a : ActD) : TownD × Int :=
  if ¬ (0 ≤ a.r ∧ a.r ≤ 2) then (t, 6)
  else if a.kind = 4 then t.ship a.r.toNat a.k
  else if a.kind = 8 then (if (t.right (t.rep a.r.toNat)) < t.comm.length then (t, 9) else ({ t with leader := a.r.toNat }.commit, 0))
  else if a.kind = 5 then t.apply a.r.toNat a.k
  else if a.kind = 6 then (if compE (t.rep a.r.toNat) ≠ 0 then (t, compE (t.rep a.r.toNat)) else (t.setRep a.r.toNat (compL (t.rep a.r.toNat)), 0))
  else if repE (t.rep a.r.toNat) ≠ 0 then (t, repE (t.rep a.r.toNat))
  else (t.setRep a.r.toNat (restL (t.rep a.r.toNat)), 0)

/-- A mail comes to its client. -/
def TownD.deliver (t : TownD) (m : MailD) : TownD × Int :=
  if t.custs.findIdx (fun c => c.id == m.client) < t.custs.length then
    let i := t.custs.findIdx (fun c => c.id == m.client)
    let c := t.custs.getD i .zero
    if chearE c m.client m.seq m.reply.code m.reply.n ≠ 0 then (t, chearE c m.client m.seq m.reply.code m.reply.n)
    else (t.setCust i (chearL c m.seq m.reply.code m.reply.n), 0)
  else (t, 6)

def TownD.mailed (t : TownD) (a : ActD) : TownD × Int :=
  if ¬ (0 ≤ a.k ∧ a.k ≤ (t.mails.length : Int) - 1) then (t, 6)
  else
    let m := t.mails.getD a.k.toNat ⟨0, 0, ⟨0, 0, ⟨#[]⟩⟩⟩
    if a.kind = 11 then (if 60 ≤ t.mails.length then (t, 8) else ({ t with mails := t.mails ++ [m] }, 0))
    else if a.kind = 10 then ({ t with mails := t.mails.eraseIdx a.k.toNat }, 0)
    else ({ t with mails := t.mails.eraseIdx a.k.toNat }).deliver m

/-- One act. -/
def TownD.step (t : TownD) (a : ActD) : TownD × Int :=
  if 1 ≤ a.kind ∧ a.kind ≤ 3 then t.client a
  else if 4 ≤ a.kind ∧ a.kind ≤ 8 then t.replica a
  else if 9 ≤ a.kind ∧ a.kind ≤ 11 then t.mailed a
  else (t, 3)

/-- At first. -/
def town0 (n : Nat) : TownD := ⟨[.zero, .zero, .zero], (List.range n).map fun (j : Nat) => ⟨(j : Int) + 1, 0, 1, []⟩, [], [], 0⟩

/-- All acts, one by one; a code for each. -/
def TownD.run : TownD → List ActD → TownD × List Int
  | t, [] => (t, [])
  | t, a :: r => (((t.step a).1.run r).1, (t.step a).2 :: ((t.step a).1.run r).2)

theorem TownD.run_append (t : TownD) (a b : List ActD) : t.run (a ++ b) = (((t.run a).1.run b).1, (t.run a).2 ++ ((t.run a).1.run b).2) := by
  induction a generalizing t with
  | nil => rfl
  | cons x r ih =>
    show (((t.step x).1.run (r ++ b)).1, _) = _
    rw [ih]
    simp [TownD.run, ih]

end Go.Proofs.YtijilhbdbeajjaaGreatDoor

namespace Go.Proofs.YtijilhbdbeajjaaGreatDoor

open Go.RowKit Go.Shelf

def growRen : Go.Shelf.Ren := ⟨fun | 4 => 236 | n => n, fun | 0 => 0 | 3 => 3 | 4 => 4 | 9 => 9 | 20 => 20 | 22 => 29 | 25 => 9 | n => n, fun | n => n⟩

theorem growLays : Go.Proofs.Lays8.n4 Tryz.prog growRen := {
  mixed := by kernel_rfl
  f4 := ⟨ "slices.Grow[[]string,string]", by decide, Tryz.func236.trans (congrArg some (by kernel_rfl))⟩
  t0 := Tryz.underlying0
  a0 := Tryz.isAgg0
  z0 := Tryz.sizeOf0
  v0 := Tryz.zeroValue0
  t3 := Tryz.underlying3
  a3 := Tryz.isAgg3
  z3 := Tryz.sizeOf3
  v3 := Tryz.zeroValue3
  t4 := Tryz.underlying4
  a4 := Tryz.isAgg4
  z4 := Tryz.sizeOf4
  v4 := Tryz.zeroValue4
  t9 := Tryz.underlying9
  a9 := Tryz.isAgg9
  z9 := Tryz.sizeOf9
  v9 := Tryz.zeroValue9
  t20 := Tryz.underlying20
  a20 := Tryz.isAgg20
  z20 := Tryz.sizeOf20
  v20 := Tryz.zeroValue20
  t22 := Tryz.underlying29
  a22 := Tryz.isAgg29
  z22 := Tryz.sizeOf29
  v22 := Tryz.zeroValue29 }

/-- slices.Grow of nothing: nothing, or a row of the call's own with room. -/
theorem grow_any (n : Nat) (w : World) (hn : n * 16 ≤ 140737488351232) :
    Calls Tryz.prog 236 #[.slice none 0 0, .int .i64 n] w fun e w' => ∃ v, e = .returned v ∧ w'.ownsRow w.heap.size 9 1 v 0 [] ∧ Below w.heap.size w w' := by
  obtain ⟨i0, hi0, hz0, hz1, hz2⟩ := info_parts Tryz.infoText
  by_cases h0 : n = 0
  · subst h0
    refine (Any8.slices_Grow_room growLays none 0 0 0 w (by omega) (by omega) (by omega) (by omega)).mono ?_
    rintro e w' ⟨rfl, rfl⟩
    exact ⟨_, rfl, World.ownsRow_nil _ _ _ _, Below.refl _ _⟩
  · refine (Any8.slices_Grow_grow growLays i0 _ hi0 hz0 (by rw [hz1]; omega) none 0 0 n [] w (by omega) (by omega) (by rw [hz2]; omega) (by omega) (by simp) (fun _ => rfl) (fun a h => by cases h)).mono ?_
    rintro e w' ⟨rfl, rfl⟩
    refine ⟨_, rfl, World.ownsRow_made w.drew _ _ (Nat.le_refl _) (grownCap_le_maxLen w (0 + n) 0 9 (by unfold maxLen; omega)) ?_, ((g_drewN_below w.heap.size w 1).alloc (Nat.le_refl _) _)⟩
    have := grownCap_ge w (0 + n) 0 9
    have h1 : (Value.string { data := #[] }).cells.size = 1 := rfl
    simp [growRen, Builtin.zeroCells, h1] at this ⊢
    omega

/-- The value v reads in w as lists of texts, in a row; the row lies below block B. -/
def ListsR (w : World) (B : Nat) (v : Value) (tss : List (List ByteArray)) : Prop :=
  ∃ b off cap, v = .slice (some ⟨b, off, none⟩) tss.length cap ∧ b < B ∧ tss.length ≤ cap ∧ tss.length ≤ 1000 ∧ ∀ (i : Nat) (ts : List ByteArray), tss[i]? = some ts → ∃ lv, w.cell? ⟨b, off + i, none⟩ = some lv ∧ TextsR w B lv ts

theorem flat_take {tss : List (List ByteArray)} {k : Nat} {ts : List ByteArray} (h : tss[k]? = some ts) : (tss.take (k + 1)).flatten = (tss.take k).flatten ++ ts := by
  obtain ⟨hk, e⟩ := List.getElem?_eq_some_iff.1 h
  rw [List.take_succ_eq_append_getElem hk, e]
  simp

theorem flat_take_le (tss : List (List ByteArray)) (k : Nat) : (tss.take k).flatten.length ≤ tss.flatten.length := by
  have h := congrArg List.flatten (List.take_append_drop k tss)
  rw [List.flatten_append] at h
  have := congrArg List.length h
  rw [List.length_append] at this
  omega

theorem texts_cells {w : World} {B : Nat} {a : Addr} {n cap : Nat} {ts : List ByteArray} (h : TextsR w B (.slice (some a) n cap) ts) : n = ts.length ∧ ∀ j u, (textCells ts)[j]? = some u → w.cell? (a.add j) = some u := by
  obtain ⟨ao, cp, e, h1, h2, h3, h4⟩ := h
  simp only [Value.slice.injEq] at e
  obtain ⟨rfl, rfl, rfl⟩ := e
  refine ⟨rfl, fun j u hj => ?_⟩
  have hl : j < ts.length := by have := (List.getElem?_eq_some_iff.1 hj).1; simpa [textCells] using this
  obtain ⟨b, off, e, hb, hc⟩ := h4 (by omega)
  simp only [Option.some.injEq] at e
  subst e
  rw [gadd]
  simp only [textCells, List.getElem?_map, Option.map_eq_some_iff] at hj
  obtain ⟨t, ht, rfl⟩ := hj
  exact (hc j t ht).1

set_option maxRecDepth 100000 in
set_option maxHeartbeats 1600000 in
theorem concat_any (v : Value) (tss : List (List ByteArray)) (w : World) (B : Nat) (hv : ListsR w B v tss) (hB : B ≤ w.heap.size) (hsum : tss.flatten.length * 16 ≤ 140737488351232) :
    Calls Tryz.prog 200 #[v] w fun e w' => ∃ vo, e = .returned vo ∧ w'.ownsRow w.heap.size 9 1 vo tss.flatten.length (textCells tss.flatten) ∧ Below w.heap.size w w' := by
  obtain ⟨i0, hi0, hz0, hz1, hz2⟩ := info_parts Tryz.infoText
  obtain ⟨b, off, cap, rfl, hbB, hcap, hmany, hc⟩ := hv
  have HC := ghid hc
  have CG := ghid (fun w => grow_any tss.flatten.length w hsum)
  clear hc
  go_enter Tryz.func200, Tryz.ntmps200
  go_wp2
  go_loopw [3, 11] (fun s i wr => ∃ k n : Nat, k ≤ tss.length ∧ i = .int .i64 k ∧ s = .int .i64 ((tss.take k).flatten.length : Int) ∧ wr = w.drewN n) (fun _ i _ => tss.length - (intOf i).toNat)
  case atStart => exact ⟨0, 0, Nat.zero_le _, rfl, by simp, rfl⟩
  case round =>
    obtain ⟨k, n, hk, rfl, rfl, rfl⟩ := hrel
    by_cases hlt : k < tss.length
    · obtain ⟨ts, hts⟩ : ∃ ts, tss[k]? = some ts := ⟨_, List.getElem?_eq_getElem hlt⟩
      obtain ⟨lv, c0, hlv⟩ := HC.out k ts hts
      obtain ⟨lo, lc, rfl⟩ := hlv.slice
      have hlen := hlv.len
      have HF : Hid ((tss.take (k + 1)).flatten.length = (tss.take k).flatten.length + ts.length) := by unfold Hid; rw [flat_take hts, List.length_append]
      have hle := flat_take_le tss (k + 1)
      have hle2 := HF.out
      obtain ⟨s, hs⟩ : ∃ s, s = (tss.take k).flatten.length := ⟨_, rfl⟩
      obtain ⟨s1, hs1⟩ : ∃ s, s = (tss.take (k + 1)).flatten.length := ⟨_, rfl⟩
      rw [← hs, ← hs1] at HF hle2
      rw [← hs1] at hle
      have HS1 := ghid hs1
      rw [← hs]
      have hbd : (s : Int) + ts.length ≤ 8796093021952 := by omega
      have hge : 0 ≤ (s : Int) := by omega
      clear hts hlv hs hs1 hle hle2
      go_wp2
      go_roundw
      case rel => exact ⟨k + 1, _, by omega, by go_num, by rw [← HS1.out, HF.out]; go_num, rfl⟩
      case measure => simp [intOf]; omega
    · obtain rfl : k = tss.length := by omega
      rw [List.take_length]
      have HX := ghid hsum
      have hbd : (tss.flatten.length : Int) ≤ 8796093021952 := by omega
      obtain ⟨s, hs⟩ : ∃ s, s = tss.flatten.length := ⟨_, rfl⟩
      rw [← hs] at CG hbd ⊢
      have HS := ghid hs
      clear hs hsum
      go_wp2_with fail
      refine (CG.out _).mono ?_
      rintro e w1 ⟨v1, rfl, hown1, hb1⟩
      have HO1 := ghid hown1
      have HB1 := ghid ((g_drewN_below w.heap.size w n).trans (hb1.mono (by simp)))
      have hw1 : w.heap.size ≤ w1.heap.size := HB1.out.size
      have HO1' : Hid (w1.ownsRow w.heap.size 9 1 v1 0 []) := ghid (by have := HO1.out; simpa using this)
      clear hown1 hb1 CG HO1
      go_wp2
      go_loopw [6, 27] (fun o i wr => ∃ k : Nat, k ≤ tss.length ∧ i = .int .i64 k ∧ wr.ownsRow w.heap.size 9 1 o (tss.take k).flatten.length (textCells (tss.take k).flatten) ∧ Below w.heap.size w wr) (fun _ i _ => tss.length - (intOf i).toNat)
      case atStart => exact ⟨0, Nat.zero_le _, rfl, by simpa [textCells] using HO1'.out, HB1.out⟩
      case round =>
        clear HO1' HB1 hw1
        obtain ⟨k, hk, rfl, hown, hb⟩ := hrel
        by_cases hlt : k < tss.length
        · obtain ⟨ts, hts⟩ : ∃ ts, tss[k]? = some ts := ⟨_, List.getElem?_eq_getElem hlt⟩
          obtain ⟨lv, c0', hlv'⟩ := HC.out k ts hts
          have c0 : wr.cell? ⟨b, off + k, none⟩ = some lv := (hb.cell (p := ⟨b, off + k, none⟩) (by simp; omega)).trans c0'
          have hlv := hlv'.below hb hB
          obtain ⟨lo, lc, rfl⟩ := hlv.slice
          have HF := ghid (flat_take hts)
          have hle := flat_take_le tss (k + 1)
          rw [HF.out, List.length_append] at hle
          obtain ⟨P, hP⟩ : ∃ P, P = (tss.take k).flatten := ⟨_, rfl⟩
          rw [← hP] at HF hle hown
          obtain ⟨so, sc, rfl⟩ := grow_shape hown
          have HO := ghid hown
          have HB := ghid hb
          have HLV := ghid hlv
          have hwr : w.heap.size ≤ wr.heap.size := hb.size
          have hbd : P.length + ts.length ≤ 8796093021952 := by have := HX.out; omega
          clear hts hlv hlv' c0' hown hb hP hle
          cases lo with
          | none =>
            have e0 : lc = 0 ∧ ts.length = 0 := by
              obtain ⟨ao, cp, e, h1, h2, h3, h4⟩ := HLV.out
              simp only [Value.slice.injEq] at e
              obtain ⟨rfl, -, rfl⟩ := e
              have := h3 rfl
              omega
            obtain ⟨rfl, e1⟩ := e0
            have e2 : ts = [] := List.eq_nil_of_length_eq_zero e1
            subst e2
            go_wp2_with (at_builtin; refine wpList_append_own_none rfl (.tmp 31) (.tmp 32) 29 rfl w.heap.size 9 i0 1 Tryz.underlying29 hi0 _ _ _ rfl HO.out rfl ?_)
            go_wp2
            go_roundw
            case rel => exact ⟨k + 1, by omega, by go_num, by rw [HF.out]; simpa using HO.out, HB.out⟩
            case measure => simp [intOf]; omega
          | some ad =>
            have hcl := texts_cells HLV.out
            have HCL := ghid hcl.2
            clear hcl
            go_wp2_with (at_builtin; refine wpList_append_own _ rfl (.tmp 31) (.tmp 32) 29 rfl w.heap.size 9 i0 _ 1 16 Tryz.underlying29 hi0 hz0 hz1 hz2 rfl (by decide) _ _ _ rfl HO.out ad ts.length lc (textCells ts) rfl (by simp [textCells]) HCL.out (textCells_one ts) (by unfold maxLen; omega) (by omega) hwr ?_)
            intro v2 w2 hown2 hg2 _
            have HO2 : Hid (w2.ownsRow w.heap.size 9 1 v2 (P ++ ts).length (textCells (P ++ ts))) := by
              unfold Hid
              rw [List.length_append]
              simpa [textCells] using hown2
            have HB2 := ghid (HB.out.grown hg2 hwr (fun j hj => (HO.out.lt j hj).1))
            clear hown2 hg2
            go_wp2
            go_roundw
            case rel => exact ⟨k + 1, by omega, by go_num, by rw [HF.out]; exact HO2.out, HB2.out⟩
            case measure => simp [intOf]; omega
        · obtain rfl : k = tss.length := by omega
          rw [List.take_length] at hown
          have HO := ghid hown
          have HB := ghid hb
          clear hown hb
          go_wp2
          go_ret
          exact ⟨_, rfl, by rw [HS.out]; exact HO.out, HB.out⟩

end Go.Proofs.YtijilhbdbeajjaaGreatDoor

namespace Go.Proofs.YtijilhbdbeajjaaGreatDoor

open Go.RowKit

theorem textCells_same {ts : List ByteArray} {k : Nat} {t : ByteArray} (h : ts[k]? = some t) : (textCells ts).set k (.string t) = textCells ts := by
  apply List.ext_getElem?
  intro j
  rw [List.getElem?_set]
  by_cases hj : k = j
  · subst hj
    have := (List.getElem?_eq_some_iff.1 h).1
    rw [if_pos rfl, if_pos (by simpa [textCells] using this)]
    simp [textCells, h]
  · rw [if_neg hj]

set_option maxRecDepth 100000 in
set_option maxHeartbeats 1600000 in
theorem join_own (v : Value) (tss : List (List ByteArray)) (w : World) (B : Nat) (hv : ListsR w B v tss) (hB : B ≤ w.heap.size) (hsum : tss.flatten.length * 16 ≤ 140737488351232) (hm : ∀ t ∈ tss.flatten, t.size ≤ 140737488351232) :
    Calls Tryz.prog 235 #[v] w fun e w' => ∃ vo, e = .returned vo ∧ w'.ownsRow w.heap.size 9 1 vo tss.flatten.length (textCells tss.flatten) ∧ Below w.heap.size w w' := by
  have CC := ghid (concat_any v tss w B hv hB hsum)
  obtain ⟨b, off, cap, rfl, -⟩ := hv
  obtain ⟨ts, hts⟩ : ∃ ts, ts = tss.flatten := ⟨_, rfl⟩
  rw [← hts] at CC hsum hm ⊢
  have HM := ghid hm
  clear hts hm
  go_enter Tryz.func235, Tryz.ntmps235
  go_wp2_with fail
  refine CC.out.mono ?_
  rintro e w1 ⟨vo, rfl, hown, hb⟩
  have HO1 := ghid hown
  have HB1 := ghid hb
  obtain ⟨lo, lc, rfl⟩ := grow_shape hown
  clear hown hb CC
  go_wp2
  go_loopw [10] (fun i wr => ∃ k : Nat, k ≤ ts.length ∧ i = .int .i64 k ∧ wr.ownsRow w.heap.size 9 1 (.slice lo ts.length lc) ts.length (textCells ts) ∧ Below w.heap.size w wr) (fun i _ => ts.length - (intOf i).toNat)
  case atStart => exact ⟨0, Nat.zero_le _, rfl, HO1.out, HB1.out⟩
  case round =>
    clear HO1 HB1
    obtain ⟨k, hk, rfl, hown, hb⟩ := hrel
    by_cases hlt : k < ts.length
    · obtain ⟨t, ht⟩ : ∃ t, ts[k]? = some t := ⟨_, List.getElem?_eq_getElem hlt⟩
      obtain ⟨g, cp, e, hg, hgl, hcp⟩ := grow_some hown (by omega)
      simp only [Value.slice.injEq] at e
      obtain ⟨rfl, -, rfl⟩ := e
      have c0 : wr.cell? ⟨g, 0 + k, none⟩ = some (.string t) := by
        rw [Nat.zero_add, hown.cellAt k (by omega)]
        simp [textCells, ht]
      rw [Nat.zero_add] at c0
      have HO := ghid hown
      have HB := ghid hb
      have CL := ghid (fun w => clone_any t w (by have := HM.out t (List.mem_of_getElem? ht); omega))
      have HS := ghid (textCells_same ht)
      clear ht hown hb
      go_wp2_with fail
      refine (CL.out _).mono ?_
      rintro e w2 ⟨rfl, hb2⟩
      have HO2 := ghid (grow_below HO.out hb2 (Nat.le_refl _))
      have HB2 := ghid (HB.out.trans (hb2.mono HB.out.size))
      have hg2 : g < w2.heap.size := (HO2.out.lt g rfl).2
      have f2 : ∀ j, w2.frozen? ⟨g, j, none⟩ = false := fun j => HO2.out.frozenAt j
      have d0 : w2.cell? ⟨g, k, none⟩ = some (.string t) := (hb2.cell (p := ⟨g, k, none⟩) hgl).trans c0
      have HO3 := ghid (HO2.out.stored k (.string t)).1
      rw [HS.out] at HO3
      have HB3 := ghid (HB2.out.setCell (p := ⟨g, k, none⟩) hg (.string t))
      clear hb2 CL
      go_wp2
      go_roundw
      case rel => exact ⟨k + 1, by omega, by go_num, HO3.out, HB3.out⟩
      case measure => simp [intOf]; omega
    · have HO := ghid hown
      have HB := ghid hb
      clear hown hb
      go_wp2
      go_ret
      exact ⟨_, rfl, HO.out, HB.out⟩

theorem ListsR.below {w w' : World} {B : Nat} {v : Value} {tss : List (List ByteArray)} (h : ListsR w B v tss) {B' : Nat} (hb : Below B' w w') (hB : B ≤ B') : ListsR w' B v tss := by
  obtain ⟨b, off, cap, rfl, h1, h2, h3, hc⟩ := h
  refine ⟨b, off, cap, rfl, h1, h2, h3, fun i ts hi => ?_⟩
  obtain ⟨lv, c, ht⟩ := hc i ts hi
  exact ⟨lv, (hb.cell (p := ⟨b, off + i, none⟩) (by simp; omega)).trans c, ht.below hb hB⟩

/-- One list, in a new row. -/
theorem ListsR.one {w : World} {B : Nat} {lv : Value} {ts : List ByteArray} (h : TextsR w B lv ts) (hB : B ≤ w.heap.size) : ListsR (w.alloc (.cells #[lv] 29)) (w.heap.size + 1) (.slice (some ⟨w.heap.size, 0, none⟩) 1 1) [ts] := by
  refine ⟨w.heap.size, 0, 1, rfl, Nat.lt_succ_self _, Nat.le_refl _, by simp, fun i us hi => ?_⟩
  have hi0 : i = 0 := by have := (List.getElem?_eq_some_iff.1 hi).1; simpa using this
  subst hi0
  simp only [List.getElem?_cons_zero, Option.some.injEq] at hi
  subst hi
  exact ⟨lv, cells_of (heap_alloc_new w _) 0, (h.below ((Below.refl w.heap.size w).alloc (Nat.le_refl _) _) hB).mono (by omega)⟩

/-- join of one list, in a new row. -/
theorem join_one (w : World) (B : Nat) (lv : Value) (ts : List ByteArray) (h : TextsR w B lv ts) (hB : B ≤ w.heap.size) :
    Calls Tryz.prog 235 #[.slice (some ⟨w.heap.size, 0, none⟩) 1 1] (w.alloc (.cells #[lv] 29)) fun e w' => ∃ vo vc, e = .returned (.slice vo ts.length vc) ∧ w'.ownsRow (w.heap.size + 1) 9 1 (.slice vo ts.length vc) ts.length (textCells ts) ∧ Below w.heap.size w w' := by
  have hln := h.len
  have hm := h.sizes
  refine (join_own _ [ts] _ _ (ListsR.one h hB) (by simp) (by simpa using hln) (by simpa using hm)).mono ?_
  rintro e w' ⟨vo, rfl, hown, hb⟩
  simp only [List.flatten_cons, List.flatten_nil, List.append_nil] at hown
  obtain ⟨vo, vc, rfl⟩ := grow_shape hown
  exact ⟨vo, vc, rfl, grow_mono hown (by simp), ((Below.refl w.heap.size w).alloc (Nat.le_refl _) _).trans (hb.mono (by simp))⟩

/-- Two lists, in a new row. -/
theorem ListsR.two {w : World} {B : Nat} {lv mv : Value} {ts us : List ByteArray} (h : TextsR w B lv ts) (k : TextsR w B mv us) (hB : B ≤ w.heap.size) : ListsR (w.alloc (.cells #[lv, mv] 29)) (w.heap.size + 1) (.slice (some ⟨w.heap.size, 0, none⟩) 2 2) [ts, us] := by
  refine ⟨w.heap.size, 0, 2, rfl, Nat.lt_succ_self _, Nat.le_refl _, by simp, fun i xs hi => ?_⟩
  have hi0 : i < 2 := by have := (List.getElem?_eq_some_iff.1 hi).1; simpa using this
  have hb := (Below.refl w.heap.size w).alloc (Nat.le_refl _) (.cells #[lv, mv] 29)
  match i, hi0 with
  | 0, _ =>
    simp only [List.getElem?_cons_zero, Option.some.injEq] at hi
    subst hi
    exact ⟨lv, cells_of (heap_alloc_new w _) 0, (h.below hb hB).mono (by omega)⟩
  | 1, _ =>
    simp only [List.getElem?_cons_succ, List.getElem?_cons_zero, Option.some.injEq] at hi
    subst hi
    exact ⟨mv, cells_of (heap_alloc_new w _) 1, (k.below hb hB).mono (by omega)⟩

theorem zset2 {B : Nat} {w0 w : World} (h : Below B w0 w) {b : Nat} (hb : B ≤ b) (a0 a1 : Value) : Below B w0 ((w.setCell ⟨b, 0, none⟩ a0).setCell ⟨b, 1, none⟩ a1) :=
  (h.setCell (by simpa using hb) a0).setCell (by simpa using hb) a1

theorem two_free {w : World} {p : Nat} {x0 x1 : Value} {t : TypeId} (h : w.heap[p]? = some (.cells #[x0, x1] t (0, 0))) :
    w.cell? ⟨p, 0, none⟩ = some x0 ∧ w.cell? ⟨p, 1, none⟩ = some x1 ∧ (∀ j, w.frozen? ⟨p, j, none⟩ = false) ∧ p < w.heap.size :=
  ⟨cells_of h 0, cells_of h 1, fun j => frozen_of_row w p j _ _ h, (Array.getElem?_eq_some_iff.1 h).1⟩

theorem zset2_row {w : World} {base : Nat} {e : TypeId} {size : Nat} {v : Value} {n : Nat} {xs : List Value} (h : w.ownsRow base e size v n xs) {b : Nat} (hb : b < base) (a0 a1 : Value) : ((w.setCell ⟨b, 0, none⟩ a0).setCell ⟨b, 1, none⟩ a1).ownsRow base e size v n xs :=
  grow_keep h fun c hc => by
    have := (h.lt c hc).1
    rw [heap_setCell_other _ _ _ _ (by simp; omega), heap_setCell_other _ _ _ _ (by simp; omega)]

theorem join_twoD (w : World) (B : Nat) (lv mv : Value) (ts us : List ByteArray) (h : TextsR w B lv ts) (k : TextsR w B mv us) (hB : B ≤ w.heap.size) (hl : (ts.length + us.length) * 16 ≤ 140737488351232) :
    Calls Tryz.prog 235 #[.slice (some ⟨w.heap.size, 0, none⟩) 2 2] (w.alloc (.cells #[lv, mv] 29)).drew fun e w' => ∃ vo vc, e = .returned (.slice vo (ts ++ us).length vc) ∧ w'.ownsRow (w.heap.size + 1) 9 1 (.slice vo (ts ++ us).length vc) (ts ++ us).length (textCells (ts ++ us)) ∧ Below w.heap.size w w' := by
  have hm := h.sizes
  have hm2 := k.sizes
  refine (join_own _ [ts, us] (w.alloc (.cells #[lv, mv] 29)).drew _ ((ListsR.two h k hB).below (g_drewN_below _ _ 1) (Nat.le_refl _)) (by simp) (by simpa using hl) (fun t ht => ?_)).mono ?_
  · simp only [List.flatten_cons, List.flatten_nil, List.append_nil, List.mem_append] at ht
    rcases ht with ht | ht
    · exact hm t ht
    · exact hm2 t ht
  rintro e w' ⟨vo, rfl, hown, hb⟩
  simp only [List.flatten_cons, List.flatten_nil, List.append_nil] at hown
  obtain ⟨vo, vc, rfl⟩ := grow_shape hown
  exact ⟨vo, vc, rfl, grow_mono hown (by simp), ((Below.refl w.heap.size w).alloc (Nat.le_refl _) _).drew.trans (hb.mono (by simp))⟩

/-- A row of the call's own reads as it does, whatever older blocks hold. -/
theorem row_new {w : World} {base : Nat} {v : Value} {ts : List ByteArray} (h : w.ownsRow base 9 1 v ts.length (textCells ts)) (hm : ∀ t ∈ ts, t.size ≤ 140737488351232) (hl : ts.length * 16 ≤ 140737488351232) : NewR base w (fun u => TextsR u u.heap.size v ts) :=
  fun _ hu => texts_reads (grow_keep h fun b hb => hu.block b (h.lt b hb).2 (by have := (h.lt b hb).1; omega)) hm hl (Nat.le_refl _)

/-- What join answers of one list, read behind the result's two cells. -/
theorem row_reads2 {w : World} {base : Nat} {v : Value} {ts : List ByteArray} (h : w.ownsRow base 9 1 v ts.length (textCells ts)) (hm : ∀ t ∈ ts, t.size ≤ 140737488351232) (hl : ts.length * 16 ≤ 140737488351232) {b : Nat} (hb : b < base) (a0 a1 : Value) :
    NewR base ((w.setCell ⟨b, 0, none⟩ a0).setCell ⟨b, 1, none⟩ a1) (fun u => TextsR u u.heap.size v ts) :=
  row_new (zset2_row h hb a0 a1) hm hl

end Go.Proofs.YtijilhbdbeajjaaGreatDoor

namespace Go.Proofs.YtijilhbdbeajjaaGreatDoor

open Go.RowKit

/-- A block of another type than all rows of a state. -/
def Odd (w : World) (g : Nat) : Prop :=
  ∃ cs t fr, w.heap[g]? = some (.cells cs t fr) ∧ t ≠ 89 ∧ t ≠ 168 ∧ t ≠ 121 ∧ t ≠ 82 ∧ t ≠ 3

theorem Odd.foreign {w : World} {g : Nat} (h : Odd w g) : Foreign w g := by
  obtain ⟨cs, t, fr, h, h1, h2, h3, h4, h5⟩ := h
  exact ⟨fun o x hx => h1 (hx.2.2.2.2.2.not h), fun o x hx => h2 (hx.2.2.2.2.2.not h), fun B o x ⟨_, _, _, _, _, _, _, ht⟩ => h3 (ht.not h), ⟨cs, t, fr, h, h4, h5⟩⟩

/-- A block of another type than all rows of a replica. -/
def Alien (w : World) (g : Nat) : Prop :=
  ∃ cs t fr, w.heap[g]? = some (.cells cs t fr) ∧ t ≠ 89 ∧ t ≠ 168 ∧ t ≠ 121 ∧ t ≠ 82 ∧ t ≠ 3 ∧ t ≠ 9

theorem Alien.odd {w : World} {g : Nat} (h : Alien w g) : Odd w g := by
  obtain ⟨cs, t, fr, h, h1, h2, h3, h4, h5, -⟩ := h
  exact ⟨cs, t, fr, h, h1, h2, h3, h4, h5⟩

theorem Alien.foreign {w : World} {g : Nat} (h : Alien w g) : Foreign w g := h.odd.foreign

theorem Alien.row {w : World} {base g n size : Nat} {t : TypeId} {xs : List Value} {v : Value} (h : w.ownsRow base t size v n xs) (hv : v.ownBlock = some g) (h1 : t ≠ 89) (h2 : t ≠ 168) (h3 : t ≠ 121) (h4 : t ≠ 82) (h5 : t ≠ 3) (h6 : t ≠ 9) : Alien w g := by
  rcases h.2 with ⟨rfl, _⟩ | ⟨g', cap, cur, rfl, _, hh, _⟩
  · cases hv
  · simp only [Value.ownBlock, Option.some.injEq] at hv
    subst hv
    exact ⟨_, _, _, hh, h1, h2, h3, h4, h5, h6⟩

/-- Texts of a call's own. -/
structure TextsO (w : World) (n : Nat) (v : Value) (ts : List ByteArray) : Prop where
  row : w.ownsRow n 9 1 v ts.length (textCells ts)
  modest : ∀ t ∈ ts, t.size ≤ 140737488351232
  len : ts.length * 16 ≤ 140737488351232

theorem TextsO.reads {w : World} {n B : Nat} {v : Value} {ts : List ByteArray} (h : TextsO w n v ts) (hB : w.heap.size ≤ B) : TextsR w B v ts := texts_reads h.row h.modest h.len hB

theorem TextsO.touch {w w' : World} {n : Nat} {v : Value} {ts : List ByteArray} {S : Nat → Prop} (h : TextsO w n v ts) (ht : TouchG w w' S) (hf : ∀ g, g < w.heap.size → S g → Alien w g) : TextsO w' n v ts :=
  ⟨grow_keep h.row fun b hb => ht.block b (h.row.lt b hb).2 fun hs => by
    obtain ⟨cs, t, fr, hg, -, -, -, -, -, h6⟩ := hf b (h.row.lt b hb).2 hs
    rcases h.row.2 with ⟨e, _⟩ | ⟨g', cap, cur, e, _, hh, _⟩
    · rw [e] at hb; cases hb
    · rw [e] at hb
      simp only [Value.ownBlock, Option.some.injEq] at hb
      subst hb
      rw [hg] at hh
      simp only [Option.some.injEq, Obj.cells.injEq] at hh
      exact h6 hh.2.1, h.modest, h.len⟩

/-- The value v is the replica r, in memory of the call's own. -/
def RepO (w : World) (n : Nat) (v : Value) (r : RepD) : Prop :=
  ∃ (eo lo po so : Option Addr) (ec ln lc pn pc sn sc : Nat), v = .agg #[.int .i64 r.log.base, .slice eo r.log.ents.length ec, .string r.snap, .int .i64 r.state.index, .slice lo ln lc, .slice po pn pc, .slice so sn sc] ∧
    TextsO w n (.slice eo r.log.ents.length ec) r.log.ents ∧ r.snap.size ≤ 140737488351232 ∧ StateO w (.agg #[.int .i64 r.state.index, .slice lo ln lc, .slice po pn pc, .slice so sn sc]) r.state

theorem RepO.reads {w : World} {n : Nat} {v : Value} {r : RepD} (h : RepO w n v r) : RepR w w.heap.size v r := by
  obtain ⟨eo, lo, po, so, ec, ln, lc, pn, pc, sn, sc, rfl, h1, h2, h3⟩ := h
  exact RepR.of (r := r) ⟨_, rfl, h1.reads (Nat.le_refl _)⟩ h2 h3.reads rfl

theorem RepO.touch {w w' : World} {n : Nat} {v : Value} {r : RepD} {S : Nat → Prop} (h : RepO w n v r) (ht : TouchG w w' S) (hf : ∀ g, g < w.heap.size → S g → Alien w g) : RepO w' n v r := by
  obtain ⟨eo, lo, po, so, ec, ln, lc, pn, pc, sn, sc, rfl, h1, h2, h3⟩ := h
  exact ⟨eo, lo, po, so, ec, ln, lc, pn, pc, sn, sc, rfl, h1.touch ht hf, h2, h3.touch ht fun g hg hs => (hf g hg hs).foreign⟩

theorem RepO.below {w w' : World} {n : Nat} {v : Value} {r : RepD} (h : RepO w n v r) (hb : Below w.heap.size w w') : RepO w' n v r :=
  h.touch (TouchG.of_below hb (Nat.le_refl _) (fun _ => False)) (fun _ _ h => h.elim)

/-- A replica's block. -/
theorem rep_alien {w : World} {p : Nat} {cs : Array Value} (h : w.heap[p]? = some (.cells cs 50 (0, 0))) : Alien w p := ⟨_, _, _, h, by decide, by decide, by decide, by decide, by decide, by decide⟩

/-- A state, behind a result put into a replica's block. -/
theorem StateO.set7 {w : World} {p : Nat} {v : Value} {s : StateD} (h : StateO w v s) {cs : Array Value} (hp : w.heap[p]? = some (.cells cs 50 (0, 0))) (a0 a1 a2 a3 a4 a5 a6 : Value) : StateO (((((((w.setCell ⟨p, 0, none⟩ a0).setCell ⟨p, 1, none⟩ a1).setCell ⟨p, 2, none⟩ a2).setCell ⟨p, 3, none⟩ a3).setCell ⟨p, 4, none⟩ a4).setCell ⟨p, 5, none⟩ a5).setCell ⟨p, 6, none⟩ a6) v s :=
  h.touch (touch7 p a0 a1 a2 a3 a4 a5 a6) fun _ _ e => e ▸ (rep_alien hp).foreign

theorem TextsO.mono {w : World} {n m : Nat} {v : Value} {ts : List ByteArray} (h : TextsO w n v ts) (hm : m ≤ n) : TextsO w m v ts := ⟨grow_mono h.row hm, h.modest, h.len⟩

theorem TextsO.below {w w' : World} {n : Nat} {v : Value} {ts : List ByteArray} (h : TextsO w n v ts) (hb : Below w.heap.size w w') : TextsO w' n v ts :=
  h.touch (TouchG.of_below hb (Nat.le_refl _) (fun _ => False)) (fun _ _ h => h.elim)

/-- A replica of owned parts, put into a block of its type. -/
theorem RepO.made {w : World} {n m p k vc ln lc pn pc sn sc : Nat} {base ix : Int} {ts : List ByteArray} {sp : ByteArray} {s : StateD} {vo lo po so : Option Addr} {cs : Array Value} (ht : TextsO w n (.slice vo k vc) ts) (hk : k = ts.length) (hz : sp.size ≤ 140737488351232)
    (hs : StateO w (.agg #[.int .i64 ix, .slice lo ln lc, .slice po pn pc, .slice so sn sc]) s) (hi : ix = s.index) (hp : w.heap[p]? = some (.cells cs 50 (0, 0))) (hm : m ≤ n) :
    RepO (((((((w.setCell ⟨p, 0, none⟩ (.int .i64 base)).setCell ⟨p, 1, none⟩ (.slice vo k vc)).setCell ⟨p, 2, none⟩ (.string sp)).setCell ⟨p, 3, none⟩ (.int .i64 ix)).setCell ⟨p, 4, none⟩ (.slice lo ln lc)).setCell ⟨p, 5, none⟩ (.slice po pn pc)).setCell ⟨p, 6, none⟩ (.slice so sn sc)) m
      (.agg #[.int .i64 base, .slice vo k vc, .string sp, .int .i64 ix, .slice lo ln lc, .slice po pn pc, .slice so sn sc]) ⟨⟨base, ts⟩, sp, s⟩ := by
  subst hk
  subst hi
  exact ⟨vo, lo, po, so, vc, ln, lc, pn, pc, sn, sc, rfl, (ht.touch (touch7 p _ _ _ _ _ _ _) fun _ _ e => e ▸ rep_alien hp).mono hm, hz, hs.set7 hp _ _ _ _ _ _ _⟩

/-- R holds of w, and of each world that differs from it only in new blocks, and in blocks below n of other types than a state's rows. -/
def Firm (n : Nat) (w : World) (R : World → Prop) : Prop := ∀ u, TouchG w u (fun g => g < n ∧ Odd w g) → R u

theorem Firm.now {n : Nat} {w : World} {R : World → Prop} (h : Firm n w R) : R w := h w (TouchG.refl _ _)

theorem Firm.of {n : Nat} {w : World} {R : World → Prop} (h : ∀ u, R u) : Firm n w R := fun u _ => h u

theorem Firm.touch {n : Nat} {w w' : World} {R : World → Prop} (h : Firm n w R) {S : Nat → Prop} (ht : TouchG w w' S) (hs : ∀ g, g < w.heap.size → S g → g < n ∧ Alien w g) : Firm n w' R := by
  intro u hu
  refine h u ⟨hu.os.trans ht.os, hu.tape.trans ht.tape, hu.output.trans ht.output, Nat.le_trans ht.size hu.size, fun k hk hn => ?_⟩
  have e := ht.block k hk (fun e => hn ⟨(hs k hk e).1, (hs k hk e).2.odd⟩)
  refine (hu.block k (Nat.lt_of_lt_of_le hk ht.size) (fun hh => hn ⟨hh.1, ?_⟩)).trans e
  obtain ⟨cs, t, fr, h', r⟩ := hh.2
  exact ⟨cs, t, fr, e ▸ h', r⟩

theorem Firm.below {n : Nat} {w w' : World} {R : World → Prop} (h : Firm n w R) (hb : Below w.heap.size w w') : Firm n w' R :=
  h.touch (TouchG.of_below hb (Nat.le_refl _) (fun _ => False)) (fun _ _ h => h.elim)

theorem NewR.firm {n : Nat} {w : World} {R : World → Prop} (h : NewR n w R) : Firm n w R :=
  fun u hu => h u ⟨hu.os, hu.tape, hu.output, hu.size, fun k hk hn => hu.block k hk fun e => hn e.1⟩

theorem StateO.firm {w : World} {v : Value} {s : StateD} (h : StateO w v s) (n : Nat) : Firm n w (fun u => StateR u u.heap.size v s) :=
  fun _ hu => (h.touch hu fun _ _ e => e.2.foreign).reads

theorem TextsO.firm {w : World} {n : Nat} {v : Value} {ts : List ByteArray} (h : TextsO w n v ts) : Firm n w (fun u => TextsR u u.heap.size v ts) :=
  fun _ hu => TextsO.reads (n := n) ⟨grow_keep h.row fun b hb => hu.block b (h.row.lt b hb).2 fun e => by have := (h.row.lt b hb).1; omega, h.modest, h.len⟩ (Nat.le_refl _)

theorem RepO.firm {w : World} {n : Nat} {v : Value} {r : RepD} (h : RepO w n v r) : Firm n w (fun u => RepR u u.heap.size v r) := by
  obtain ⟨eo, lo, po, so, ec, ln, lc, pn, pc, sn, sc, rfl, h1, h2, h3⟩ := h
  exact fun u hu => RepR.of (r := r) ⟨_, rfl, h1.firm u hu⟩ h2 (h3.firm n u hu) rfl

theorem RepR.of7 {w : World} {B k ec ln lc pn pc sn sc : Nat} {eo lo po so : Option Addr} {base ix : Int} {ts : List ByteArray} {sp : ByteArray} {s : StateD} (h1 : TextsR w B (.slice eo k ec) ts) (h2 : sp.size ≤ 140737488351232) (h3 : StateR w B (.agg #[.int .i64 ix, .slice lo ln lc, .slice po pn pc, .slice so sn sc]) s) :
    RepR w B (.agg #[.int .i64 base, .slice eo k ec, .string sp, .int .i64 ix, .slice lo ln lc, .slice po pn pc, .slice so sn sc]) ⟨⟨base, ts⟩, sp, s⟩ := RepR.of (r := ⟨⟨base, ts⟩, sp, s⟩) ⟨_, rfl, h1⟩ h2 h3 rfl

/-- A replica of firm parts. -/
theorem RepR.firm {w : World} {n k ec ln lc pn pc sn sc : Nat} {eo lo po so : Option Addr} {base ix : Int} {ts : List ByteArray} {sp : ByteArray} {s : StateD} (h1 : Firm n w (fun u => TextsR u u.heap.size (.slice eo k ec) ts)) (h2 : sp.size ≤ 140737488351232) (h3 : Firm n w (fun u => StateR u u.heap.size (.agg #[.int .i64 ix, .slice lo ln lc, .slice po pn pc, .slice so sn sc]) s)) :
    Firm n w (fun u => RepR u u.heap.size (.agg #[.int .i64 base, .slice eo k ec, .string sp, .int .i64 ix, .slice lo ln lc, .slice po pn pc, .slice so sn sc]) ⟨⟨base, ts⟩, sp, s⟩) :=
  fun u hu => RepR.of7 (h1 u hu) h2 (h3 u hu)

end Go.Proofs.YtijilhbdbeajjaaGreatDoor

namespace Go.Proofs.YtijilhbdbeajjaaGreatDoor

open Go.RowKit

theorem firstE_drop {ts : List ByteArray} {k : Nat} {t : ByteArray} (h : ts[k]? = some t) : firstE (ts.drop k) = if decE t ≠ 0 then decE t else firstE (ts.drop (k + 1)) := by
  obtain ⟨hk, e⟩ := List.getElem?_eq_some_iff.1 h
  rw [List.drop_eq_getElem_cons hk, e]
  rfl

set_option maxRecDepth 100000 in
set_option maxHeartbeats 1600000 in
theorem checkEntries_any (v : Value) (ts : List ByteArray) (w : World) (B : Nat) (hv : TextsR w B v ts) (hB : B ≤ w.heap.size) :
    Calls Tryz.prog 71 #[v] w fun e w' => e = .returned (.int .i64 (firstE ts)) ∧ Below w.heap.size w w' := by
  have HV := ghid hv
  have HM := ghid hv.sizes
  have hlen := hv.len
  obtain ⟨ao, cap, rfl⟩ := hv.slice
  clear hv
  go_enter Tryz.func71, Tryz.ntmps71
  go_wp2
  go_loopw [9] (fun i wr => ∃ k : Nat, k ≤ ts.length ∧ i = .int .i64 k ∧ firstE (ts.drop k) = firstE ts ∧ Below w.heap.size w wr) (fun i _ => ts.length - (intOf i).toNat)
  case atStart => exact ⟨0, Nat.zero_le _, rfl, rfl, Below.refl _ _⟩
  case round =>
    obtain ⟨k, hk, rfl, hf, hb⟩ := hrel
    have HF := ghid hf
    have HB := ghid hb
    clear hf
    by_cases hlt : k < ts.length
    · obtain ⟨t, ht⟩ : ∃ t, ts[k]? = some t := ⟨_, List.getElem?_eq_getElem hlt⟩
      have hv2 := HV.out.below hb hB
      obtain ⟨ao', cap', e, h1, h2, h3, h4⟩ := hv2
      simp only [Value.slice.injEq] at e
      obtain ⟨rfl, -, rfl⟩ := e
      obtain ⟨b, off, rfl, hbB, hc⟩ := h4 (by omega)
      have c0 := (hc k t ht).1
      have HN := ghid (firstE_drop ht)
      have CD := ghid (fun u => decode_any t u (HM.out t (List.mem_of_getElem? ht)))
      obtain ⟨d, hd⟩ : ∃ d, d = decE t := ⟨_, rfl⟩
      obtain ⟨c, hcd⟩ : ∃ c, c = decL t := ⟨_, rfl⟩
      rw [← hd] at HN CD
      rw [← hcd] at CD
      obtain ⟨xk, xc, xs, xq, xu, xo, xa, xb, xn⟩ := c
      simp only [cmdV] at CD
      clear ht hc h4 h3 h1 h2 hd hcd hb
      go_wp2_with fail
      refine (CD.out _).mono ?_
      rintro e w2 ⟨rfl, hb2⟩
      have HB2 := ghid ((HB.out.trans (hb2.mono HB.out.size)).alloc (by have := HB.out.size; have := hb2.size; omega) (.cells #[.int .i64 xk, .int .i64 xc, .int .i64 xs, .int .i64 xq, .int .i64 xu, .int .i64 xo, .string xa, .string xb, .int .i64 xn] 67))
      clear hb2 CD
      by_cases hd0 : d = 0
      · subst hd0
        go_wp2
        go_roundw
        case rel => exact ⟨k + 1, by omega, by go_num, by rw [← HF.out, HN.out]; simp, HB2.out⟩
        case measure => simp [intOf]; omega
      · have hdb : (d != 0) = true := by simpa using hd0
        have HD := ghid hd0
        clear hd0
        go_wp2
        go_ret
        exact ⟨by rw [← HF.out, HN.out, if_pos HD.out]; rfl, HB2.out⟩
    · obtain rfl : k = ts.length := by omega
      rw [List.drop_length] at HF
      clear hb
      go_wp2
      go_ret
      exact ⟨by rw [← HF.out]; rfl, HB.out⟩

set_option maxRecDepth 100000 in
set_option maxHeartbeats 1600000 in
theorem logCheck_any (v : Value) (l : LogD) (w : World) (B : Nat) (hv : LogR w B v l) (hB : B ≤ w.heap.size) :
    Calls Tryz.prog 40 #[v] w fun e w' => e = .returned (.int .i64 (logE l)) ∧ Below w.heap.size w w' := by
  obtain ⟨eo, ec, rfl, ht⟩ := hv.shape
  obtain ⟨base, ts⟩ := l
  simp only at ht ⊢
  have hlen := ht.len
  have hb0 : Below w.heap.size w (w.alloc (.cells #[.int .i64 base, .slice eo ts.length ec] 43)) := (Below.refl _ _).alloc (Nat.le_refl _) _
  have CE := ghid (checkEntries_any _ ts (w.alloc (.cells #[.int .i64 base, .slice eo ts.length ec] 43)) B (ht.below hb0 hB) (by have := hb0.size; omega))
  have HB0 := ghid hb0
  clear hv ht hb0
  by_cases h0 : base < 0
  · have HE : Hid (logE ⟨base, ts⟩ = 2) := if_pos (by simp only; omega)
    rw [HE.out]
    go_enter Tryz.func40, Tryz.ntmps40
    go_wp2
    go_ret
    exact ⟨rfl, HB0.out⟩
  · by_cases h1 : 1073741424 < base
    · have HE : Hid (logE ⟨base, ts⟩ = 2) := if_pos (by simp only; omega)
      rw [HE.out]
      go_enter Tryz.func40, Tryz.ntmps40
      go_wp2
      go_ret
      exact ⟨rfl, HB0.out⟩
    · by_cases h2 : 400 < ts.length
      · have HE : Hid (logE ⟨base, ts⟩ = 1) := by unfold Hid logE; rw [if_neg (by simp only; omega), if_pos h2]
        rw [HE.out]
        go_enter Tryz.func40, Tryz.ntmps40
        go_wp2
        go_ret
        exact ⟨rfl, HB0.out⟩
      · have HE : Hid (logE ⟨base, ts⟩ = firstE ts) := by unfold Hid logE; rw [if_neg (by simp only; omega), if_neg h2]
        rw [HE.out]
        go_enter Tryz.func40, Tryz.ntmps40
        go_wp2_with fail
        refine CE.out.mono ?_
        rintro e w1 ⟨rfl, hb1⟩
        have HB1 := ghid (HB0.out.trans (hb1.mono HB0.out.size))
        clear hb1 CE
        go_wp2
        go_ret
        exact ⟨rfl, HB1.out⟩

end Go.Proofs.YtijilhbdbeajjaaGreatDoor

namespace Go.Proofs.YtijilhbdbeajjaaGreatDoor

open Go.RowKit

def IntV (_ : World) (_ : Nat) (ev : Value) (x : Int) : Prop := ev = .int .i64 x

def LockV (w : World) (B : Nat) (ev : Value) (x : LockD) : Prop :=
  ∃ lv, ev = .agg #[.string x.name, .int .i64 x.holder, .int .i64 x.fence, lv] ∧ IntsR w B lv x.line ∧ x.name.size ≤ 140737488351232

def PairV (_ : World) (_ : Nat) (ev : Value) (x : PairD) : Prop :=
  ev = .agg #[.string x.name, .string x.value, .int .i64 x.version] ∧ x.name.size ≤ 140737488351232 ∧ x.value.size ≤ 140737488351232

def KeptV (_ : World) (_ : Nat) (ev : Value) (x : KeptD) : Prop :=
  ev = .agg #[.int .i64 x.seq, .int .i64 x.code, .int .i64 x.n, .string x.text] ∧ x.text.size ≤ 140737488351232

def SessV (w : World) (B : Nat) (ev : Value) (x : SessD) : Prop :=
  ∃ lv, ev = .agg #[.int .i64 x.client, .int .i64 x.id, .int .i64 x.acked, .int .i64 x.last, lv] ∧ KeptsR w B lv x.replies

end Go.Proofs.YtijilhbdbeajjaaGreatDoor

namespace Go.Proofs.YtijilhbdbeajjaaGreatDoor

open Go.RowKit

/-- The reader at block rb has what is left, and what was wrong. -/
def IsRs (rb : Nat) (r : ByteArray × Int) (w : World) : Prop := w.heap[rb]? = some (.cells #[.string r.1, .int .i64 r.2] 190 (0, 0))

theorem IsRs.lt {rb : Nat} {r : ByteArray × Int} {w : World} (h : IsRs rb r w) : rb < w.heap.size := (Array.getElem?_eq_some_iff.1 h).1

theorem IsRs.below {rb : Nat} {r : ByteArray × Int} {w w' : World} (h : IsRs rb r w) (hb : Below w.heap.size w w') : IsRs rb r w' := (hb.block _ h.lt).trans h

theorem touch_two {rb : Nat} {w w1 : World} (h : TouchG w w1 (fun k => k = rb)) (a b : Value) : TouchG w ((w1.setCell ⟨rb, 0, none⟩ a).setCell ⟨rb, 1, none⟩ b) (fun k => k = rb) :=
  (h.setCell (a := ⟨rb, 0, none⟩) (.inl rfl) a).setCell (a := ⟨rb, 1, none⟩) (.inl rfl) b

theorem rs_two {rb : Nat} {r : ByteArray × Int} {w : World} (h : IsRs rb r w) (s : ByteArray) (e : Int) : IsRs rb (s, e) ((w.setCell ⟨rb, 0, none⟩ (.string s)).setCell ⟨rb, 1, none⟩ (.int .i64 e)) := by
  have g1 := heap_setCell_same w rb 0 _ 190 (.string s) h
  have g2 := heap_setCell_same _ rb 1 _ 190 (.int .i64 e) g1
  unfold IsRs
  simpa using g2

set_option maxHeartbeats 800000 in
theorem rsNumber_wrong (rb : Nat) (r : ByteArray × Int) (w : World) (hr : IsRs rb r w) (he : r.2 ≠ 0) :
    Calls Tryz.prog 162 #[.pointer (some ⟨rb, 0, none⟩)] w fun x w' => x = .returned (.int .i64 0) ∧ w' = w := by
  obtain ⟨s, e⟩ := r
  have s1 : w.cell? ⟨rb, 1, none⟩ = some (.int .i64 e) := cell_of_row w rb 1 _ _ _ hr
  have heb : (e == 0) = false := by simpa using he
  clear hr he
  go_enter Tryz.func162, Tryz.ntmps162
  go_wp2
  go_ret
  exact ⟨rfl, rfl⟩

set_option maxHeartbeats 1600000 in
theorem rsNumber_ok (rb : Nat) (s : ByteArray) (w : World) (hs : s.size ≤ 140737488351232) (hr : IsRs rb (s, 0) w) :
    Calls Tryz.prog 162 #[.pointer (some ⟨rb, 0, none⟩)] w fun x w' => x = .returned (.int .i64 (readN s).1) ∧ ∃ w1, Below w.heap.size w w1 ∧ w' = (w1.setCell ⟨rb, 0, none⟩ (.string (readN s).2.1)).setCell ⟨rb, 1, none⟩ (.int .i64 (readN s).2.2) := by
  have s0 : w.cell? ⟨rb, 0, none⟩ = some (.string s) := cell_of_row w rb 0 _ _ _ hr
  have s1 : w.cell? ⟨rb, 1, none⟩ = some (.int .i64 0) := cell_of_row w rb 1 _ _ _ hr
  have CR := ghid (fun w => readNumber_any s hs w)
  obtain ⟨n, hn⟩ : ∃ n, n = (readN s).1 := ⟨_, rfl⟩
  obtain ⟨t, ht⟩ : ∃ t, t = (readN s).2.1 := ⟨_, rfl⟩
  obtain ⟨e, hee⟩ : ∃ e, e = (readN s).2.2 := ⟨_, rfl⟩
  rw [← hn, ← ht, ← hee] at CR ⊢
  have HR := ghid hr
  have hlr := hr.lt
  clear hr hn ht hee
  go_enter Tryz.func162, Tryz.ntmps162
  go_wp2_with fail
  refine (CR.out _).mono ?_
  rintro x w1 ⟨rfl, hb1⟩
  have hr1 : w1.heap[rb]? = _ := (hb1.block _ hlr).trans HR.out
  have t0 : w1.cell? ⟨rb, 0, none⟩ = some (.string s) := cell_of_row w1 rb 0 _ _ _ hr1
  have t1 : w1.cell? ⟨rb, 1, none⟩ = some (.int .i64 0) := cell_of_row w1 rb 1 _ _ _ hr1
  have f0 : ∀ j, w1.frozen? ⟨rb, j, none⟩ = false := fun j => frozen_of_row w1 rb j _ _ hr1
  have HB1 := ghid hb1
  clear hb1 hr1 s0 s1
  go_wp2
  go_ret
  exact ⟨rfl, w1, HB1.out, rfl⟩

set_option maxHeartbeats 800000 in
theorem rsText_wrong (rb : Nat) (r : ByteArray × Int) (w : World) (hr : IsRs rb r w) (he : r.2 ≠ 0) :
    Calls Tryz.prog 209 #[.pointer (some ⟨rb, 0, none⟩)] w fun x w' => x = .returned (.string ⟨#[]⟩) ∧ w' = w := by
  obtain ⟨s, e⟩ := r
  have s1 : w.cell? ⟨rb, 1, none⟩ = some (.int .i64 e) := cell_of_row w rb 1 _ _ _ hr
  have heb : (e == 0) = false := by simpa using he
  clear hr he
  go_enter Tryz.func209, Tryz.ntmps209
  go_wp2
  go_ret
  exact ⟨rfl, rfl⟩

set_option maxHeartbeats 1600000 in
theorem rsText_ok (rb : Nat) (s : ByteArray) (w : World) (hs : s.size ≤ 140737488351232) (hr : IsRs rb (s, 0) w) :
    Calls Tryz.prog 209 #[.pointer (some ⟨rb, 0, none⟩)] w fun x w' => x = .returned (.string (readT s).1) ∧ ∃ w1, Below w.heap.size w w1 ∧ w' = (w1.setCell ⟨rb, 0, none⟩ (.string (readT s).2.1)).setCell ⟨rb, 1, none⟩ (.int .i64 (readT s).2.2) := by
  have s0 : w.cell? ⟨rb, 0, none⟩ = some (.string s) := cell_of_row w rb 0 _ _ _ hr
  have s1 : w.cell? ⟨rb, 1, none⟩ = some (.int .i64 0) := cell_of_row w rb 1 _ _ _ hr
  have CR := ghid (fun w => readText_any s hs w)
  obtain ⟨n, hn⟩ : ∃ n, n = (readT s).1 := ⟨_, rfl⟩
  obtain ⟨t, ht⟩ : ∃ t, t = (readT s).2.1 := ⟨_, rfl⟩
  obtain ⟨e, hee⟩ : ∃ e, e = (readT s).2.2 := ⟨_, rfl⟩
  rw [← hn, ← ht, ← hee] at CR ⊢
  have HR := ghid hr
  have hlr := hr.lt
  clear hr hn ht hee
  go_enter Tryz.func209, Tryz.ntmps209
  go_wp2_with fail
  refine (CR.out _).mono ?_
  rintro x w1 ⟨rfl, hb1⟩
  have hr1 : w1.heap[rb]? = _ := (hb1.block _ hlr).trans HR.out
  have t0 : w1.cell? ⟨rb, 0, none⟩ = some (.string s) := cell_of_row w1 rb 0 _ _ _ hr1
  have t1 : w1.cell? ⟨rb, 1, none⟩ = some (.int .i64 0) := cell_of_row w1 rb 1 _ _ _ hr1
  have f0 : ∀ j, w1.frozen? ⟨rb, j, none⟩ = false := fun j => frozen_of_row w1 rb j _ _ hr1
  have HB1 := ghid hb1
  clear hb1 hr1 s0 s1
  go_wp2
  go_ret
  exact ⟨rfl, w1, HB1.out, rfl⟩

/-- What is asked of a reading method: it answers what f reads, in memory of its own. -/
def RdC (F : Nat) {α : Type} (f : ByteArray × Int → α × ByteArray × Int) (V : World → Nat → Value → α → Prop) : Prop :=
  ∀ (rb : Nat) (r : ByteArray × Int) (w : World), r.1.size ≤ 140737488351232 → IsRs rb r w →
    Calls Tryz.prog F #[.pointer (some ⟨rb, 0, none⟩)] w fun e w' => ∃ v, e = .returned v ∧ IsRs rb (f r).2 w' ∧ NewR w.heap.size w' (fun u => V u u.heap.size v (f r).1) ∧ TouchG w w' (fun k => k = rb)

/-- Nothing is read twice. -/
def Shrinks {α : Type} (f : ByteArray × Int → α × ByteArray × Int) : Prop := ∀ r, (f r).2.1.size ≤ r.1.size

theorem rs_readN_size (s : ByteArray) : (readN s).2.1.size ≤ s.size := by
  unfold readN
  split
  · show (s.extract _ _).size ≤ _
    rw [ByteArray.size_extract]; omega
  · exact Nat.zero_le _

theorem rs_readT_size (s : ByteArray) : (readT s).1.size ≤ s.size ∧ (readT s).2.1.size ≤ s.size := by
  unfold readT
  split
  · exact ⟨Nat.zero_le _, Nat.zero_le _⟩
  · split
    · exact ⟨Nat.zero_le _, Nat.zero_le _⟩
    · split
      · exact ⟨Nat.zero_le _, Nat.zero_le _⟩
      · constructor
        · show (s.extract _ _).size ≤ _
          rw [ByteArray.size_extract]; omega
        · show (s.extract _ _).size ≤ _
          rw [ByteArray.size_extract]; omega

theorem stepN_shrinks : Shrinks stepN := by
  intro r
  unfold stepN
  split
  · exact rs_readN_size _
  · exact Nat.le_refl _

theorem stepT_shrinks : Shrinks stepT := by
  intro r
  unfold stepT
  split
  · exact (rs_readT_size _).2
  · exact Nat.le_refl _

def TextV (_ : World) (_ : Nat) (ev : Value) (x : ByteArray) : Prop := ev = .string x ∧ x.size ≤ 140737488351232

theorem rsNumber_any : RdC 162 stepN IntV := by
  intro rb r w hs hr
  by_cases he : r.2 = 0
  · have e1 : stepN r = readN r.1 := if_pos he
    rw [e1]
    obtain ⟨s, e⟩ := r
    simp only at he
    subst he
    refine (rsNumber_ok rb s w hs hr).mono ?_
    rintro x w' ⟨hx, w1, hb1, rfl⟩
    exact ⟨_, hx, rs_two (hr.below hb1) _ _, NewR.of _ _ fun _ => rfl, touch_two (TouchG.of_below hb1 (Nat.le_refl _) _) _ _⟩
  · have e1 : stepN r = (0, r) := if_neg he
    rw [e1]
    refine (rsNumber_wrong rb r w hr he).mono ?_
    rintro x w' ⟨hx, rfl⟩
    exact ⟨_, hx, hr, NewR.of _ _ fun _ => rfl, TouchG.refl _ _⟩

theorem rsText_any : RdC 209 stepT TextV := by
  intro rb r w hs hr
  by_cases he : r.2 = 0
  · have e1 : stepT r = readT r.1 := if_pos he
    rw [e1]
    obtain ⟨s, e⟩ := r
    simp only at he
    subst he
    refine (rsText_ok rb s w hs hr).mono ?_
    rintro x w' ⟨hx, w1, hb1, rfl⟩
    have hz : (readT s).1.size ≤ 140737488351232 := Nat.le_trans (rs_readT_size s).1 hs
    exact ⟨_, hx, rs_two (hr.below hb1) _ _, NewR.of _ _ fun _ => ⟨rfl, hz⟩, touch_two (TouchG.of_below hb1 (Nat.le_refl _) _) _ _⟩
  · have e1 : stepT r = (⟨#[]⟩, r) := if_neg he
    rw [e1]
    refine (rsText_wrong rb r w hr he).mono ?_
    rintro x w' ⟨hx, rfl⟩
    exact ⟨_, hx, hr, NewR.of _ _ fun _ => ⟨rfl, Nat.zero_le _⟩, TouchG.refl _ _⟩

end Go.Proofs.YtijilhbdbeajjaaGreatDoor

namespace Go.Proofs.YtijilhbdbeajjaaGreatDoor

open Go.RowKit

/-- How many, and each one. -/
def listR {α : Type} (most : Int) (f : ByteArray × Int → α × ByteArray × Int) (r : ByteArray × Int) : List α × ByteArray × Int := rowR f (stepM most r).1.toNat (stepM most r).2

theorem stepN_bounds (r : ByteArray × Int) : 0 ≤ (stepN r).1 ∧ (stepN r).1 ≤ 1099511627776 ∧ ((stepN r).2.2 ≠ 0 → (stepN r).1 = 0) := by
  unfold stepN
  split
  · unfold readN
    split
    · rename_i h
      have := numR_ok _ h
      exact ⟨this.1, this.2.1, fun e => absurd rfl e⟩
    · exact ⟨by simp, by simp, fun _ => rfl⟩
  · exact ⟨by simp, by simp, fun _ => rfl⟩

theorem stepM_le {most : Int} {r : ByteArray × Int} (h : (stepN r).1 ≤ most) : stepM most r = stepN r := by
  have hb := stepN_bounds r
  unfold stepM
  split
  · rw [if_neg (by omega)]
  · rename_i e
    rw [← hb.2.2 e]

theorem stepM_gt {most : Int} {r : ByteArray × Int} (h0 : 0 ≤ most) (h : most < (stepN r).1) : stepM most r = (0, (stepN r).2.1, 1) := by
  have hb := stepN_bounds r
  unfold stepM
  rw [if_pos (by
    apply Classical.byContradiction
    intro e
    have := hb.2.2 e
    omega), if_pos h]

theorem rowR_shrinks {α : Type} {f : ByteArray × Int → α × ByteArray × Int} (h : Shrinks f) (n : Nat) : Shrinks (rowR f n) := by
  induction n with
  | zero => exact fun _ => Nat.le_refl _
  | succ n ih => exact fun r => Nat.le_trans (ih (f r).2) (h r)

theorem listR_shrinks {α : Type} {f : ByteArray × Int → α × ByteArray × Int} (h : Shrinks f) (most : Int) (h0 : 0 ≤ most) : Shrinks (listR most f) := by
  intro r
  refine Nat.le_trans (rowR_shrinks h _ _) ?_
  by_cases hm : (stepN r).1 ≤ most
  · rw [stepM_le hm]; exact stepN_shrinks r
  · rw [stepM_gt h0 (by omega)]; exact stepN_shrinks r

theorem rs_set {rb : Nat} {r : ByteArray × Int} {w : World} (h : IsRs rb r w) (e : Int) : IsRs rb (r.1, e) (w.setCell ⟨rb, 1, none⟩ (.int .i64 e)) := by
  have g2 := heap_setCell_same w rb 1 _ 190 (.int .i64 e) h
  unfold IsRs
  simpa using g2

theorem rset1 {α : Type} (A Z : List α) (z0 a0 : α) (n : Nat) (hA : A.length = n) : (A ++ z0 :: Z).set n a0 = A ++ a0 :: Z := by
  subst hA
  simp

theorem rof1 {α : Type} (Z : List α) (h : 1 ≤ Z.length) : ∃ z0 Z', Z = z0 :: Z' := by
  match Z, h with
  | z0 :: Z', _ => exact ⟨z0, Z', rfl⟩

theorem rput1 {w : World} {base : Nat} {e : TypeId} {g n cap k : Nat} {A Z : List Value} {z0 : Value} (h : w.ownsRow base e 1 (.slice (some ⟨g, 0, none⟩) n cap) n (A ++ z0 :: Z)) (hA : A.length = k) (a0 : Value) :
    (w.setCell ⟨g, k, none⟩ a0).ownsRow base e 1 (.slice (some ⟨g, 0, none⟩) n cap) n (A ++ a0 :: Z) := by
  have h0 := (h.stored (k) a0).1
  rwa [rset1 A Z z0 a0 (k) hA] at h0

theorem rtouch1 {w0 w : World} {S : Nat → Prop} (h : TouchG w0 w S) {g k : Nat} (hg : S g ∨ w0.heap.size ≤ g) (a0 : Value) : TouchG w0 (w.setCell ⟨g, k, none⟩ a0) S :=
  h.setCell (a := ⟨g, k, none⟩) hg a0

theorem rset3 {α : Type} (A Z : List α) (z0 z1 z2 a0 a1 a2 : α) (n : Nat) (hA : A.length = n) : (((A ++ z0 :: z1 :: z2 :: Z).set n a0).set (n + 1) a1).set (n + 2) a2 = A ++ a0 :: a1 :: a2 :: Z := by
  subst hA
  simp

theorem rof3 {α : Type} (Z : List α) (h : 3 ≤ Z.length) : ∃ z0 z1 z2 Z', Z = z0 :: z1 :: z2 :: Z' := by
  match Z, h with
  | z0 :: z1 :: z2 :: Z', _ => exact ⟨z0, z1, z2, Z', rfl⟩

theorem rput3 {w : World} {base : Nat} {e : TypeId} {g n cap k : Nat} {A Z : List Value} {z0 z1 z2 : Value} (h : w.ownsRow base e 3 (.slice (some ⟨g, 0, none⟩) n cap) n (A ++ z0 :: z1 :: z2 :: Z)) (hA : A.length = k * 3) (a0 a1 a2 : Value) :
    (((w.setCell ⟨g, k * 3, none⟩ a0).setCell ⟨g, k * 3 + 1, none⟩ a1).setCell ⟨g, k * 3 + 2, none⟩ a2).ownsRow base e 3 (.slice (some ⟨g, 0, none⟩) n cap) n (A ++ a0 :: a1 :: a2 :: Z) := by
  have h0 := (h.stored (k * 3) a0).1
  have h1 := (h0.stored (k * 3 + 1) a1).1
  have h2 := (h1.stored (k * 3 + 2) a2).1
  rwa [rset3 A Z z0 z1 z2 a0 a1 a2 (k * 3) hA] at h2

theorem rtouch3 {w0 w : World} {S : Nat → Prop} (h : TouchG w0 w S) {g k : Nat} (hg : S g ∨ w0.heap.size ≤ g) (a0 a1 a2 : Value) : TouchG w0 (((w.setCell ⟨g, k * 3, none⟩ a0).setCell ⟨g, k * 3 + 1, none⟩ a1).setCell ⟨g, k * 3 + 2, none⟩ a2) S :=
  ((h.setCell (a := ⟨g, k * 3, none⟩) hg a0).setCell (a := ⟨g, k * 3 + 1, none⟩) hg a1).setCell (a := ⟨g, k * 3 + 2, none⟩) hg a2

theorem rset4 {α : Type} (A Z : List α) (z0 z1 z2 z3 a0 a1 a2 a3 : α) (n : Nat) (hA : A.length = n) : ((((A ++ z0 :: z1 :: z2 :: z3 :: Z).set n a0).set (n + 1) a1).set (n + 2) a2).set (n + 3) a3 = A ++ a0 :: a1 :: a2 :: a3 :: Z := by
  subst hA
  simp

theorem rof4 {α : Type} (Z : List α) (h : 4 ≤ Z.length) : ∃ z0 z1 z2 z3 Z', Z = z0 :: z1 :: z2 :: z3 :: Z' := by
  match Z, h with
  | z0 :: z1 :: z2 :: z3 :: Z', _ => exact ⟨z0, z1, z2, z3, Z', rfl⟩

theorem rput4 {w : World} {base : Nat} {e : TypeId} {g n cap k : Nat} {A Z : List Value} {z0 z1 z2 z3 : Value} (h : w.ownsRow base e 4 (.slice (some ⟨g, 0, none⟩) n cap) n (A ++ z0 :: z1 :: z2 :: z3 :: Z)) (hA : A.length = k * 4) (a0 a1 a2 a3 : Value) :
    ((((w.setCell ⟨g, k * 4, none⟩ a0).setCell ⟨g, k * 4 + 1, none⟩ a1).setCell ⟨g, k * 4 + 2, none⟩ a2).setCell ⟨g, k * 4 + 3, none⟩ a3).ownsRow base e 4 (.slice (some ⟨g, 0, none⟩) n cap) n (A ++ a0 :: a1 :: a2 :: a3 :: Z) := by
  have h0 := (h.stored (k * 4) a0).1
  have h1 := (h0.stored (k * 4 + 1) a1).1
  have h2 := (h1.stored (k * 4 + 2) a2).1
  have h3 := (h2.stored (k * 4 + 3) a3).1
  rwa [rset4 A Z z0 z1 z2 z3 a0 a1 a2 a3 (k * 4) hA] at h3

theorem rtouch4 {w0 w : World} {S : Nat → Prop} (h : TouchG w0 w S) {g k : Nat} (hg : S g ∨ w0.heap.size ≤ g) (a0 a1 a2 a3 : Value) : TouchG w0 ((((w.setCell ⟨g, k * 4, none⟩ a0).setCell ⟨g, k * 4 + 1, none⟩ a1).setCell ⟨g, k * 4 + 2, none⟩ a2).setCell ⟨g, k * 4 + 3, none⟩ a3) S :=
  (((h.setCell (a := ⟨g, k * 4, none⟩) hg a0).setCell (a := ⟨g, k * 4 + 1, none⟩) hg a1).setCell (a := ⟨g, k * 4 + 2, none⟩) hg a2).setCell (a := ⟨g, k * 4 + 3, none⟩) hg a3

theorem rset5 {α : Type} (A Z : List α) (z0 z1 z2 z3 z4 a0 a1 a2 a3 a4 : α) (n : Nat) (hA : A.length = n) : (((((A ++ z0 :: z1 :: z2 :: z3 :: z4 :: Z).set n a0).set (n + 1) a1).set (n + 2) a2).set (n + 3) a3).set (n + 4) a4 = A ++ a0 :: a1 :: a2 :: a3 :: a4 :: Z := by
  subst hA
  simp

theorem rof5 {α : Type} (Z : List α) (h : 5 ≤ Z.length) : ∃ z0 z1 z2 z3 z4 Z', Z = z0 :: z1 :: z2 :: z3 :: z4 :: Z' := by
  match Z, h with
  | z0 :: z1 :: z2 :: z3 :: z4 :: Z', _ => exact ⟨z0, z1, z2, z3, z4, Z', rfl⟩

theorem rput5 {w : World} {base : Nat} {e : TypeId} {g n cap k : Nat} {A Z : List Value} {z0 z1 z2 z3 z4 : Value} (h : w.ownsRow base e 5 (.slice (some ⟨g, 0, none⟩) n cap) n (A ++ z0 :: z1 :: z2 :: z3 :: z4 :: Z)) (hA : A.length = k * 5) (a0 a1 a2 a3 a4 : Value) :
    (((((w.setCell ⟨g, k * 5, none⟩ a0).setCell ⟨g, k * 5 + 1, none⟩ a1).setCell ⟨g, k * 5 + 2, none⟩ a2).setCell ⟨g, k * 5 + 3, none⟩ a3).setCell ⟨g, k * 5 + 4, none⟩ a4).ownsRow base e 5 (.slice (some ⟨g, 0, none⟩) n cap) n (A ++ a0 :: a1 :: a2 :: a3 :: a4 :: Z) := by
  have h0 := (h.stored (k * 5) a0).1
  have h1 := (h0.stored (k * 5 + 1) a1).1
  have h2 := (h1.stored (k * 5 + 2) a2).1
  have h3 := (h2.stored (k * 5 + 3) a3).1
  have h4 := (h3.stored (k * 5 + 4) a4).1
  rwa [rset5 A Z z0 z1 z2 z3 z4 a0 a1 a2 a3 a4 (k * 5) hA] at h4

theorem rtouch5 {w0 w : World} {S : Nat → Prop} (h : TouchG w0 w S) {g k : Nat} (hg : S g ∨ w0.heap.size ≤ g) (a0 a1 a2 a3 a4 : Value) : TouchG w0 (((((w.setCell ⟨g, k * 5, none⟩ a0).setCell ⟨g, k * 5 + 1, none⟩ a1).setCell ⟨g, k * 5 + 2, none⟩ a2).setCell ⟨g, k * 5 + 3, none⟩ a3).setCell ⟨g, k * 5 + 4, none⟩ a4) S :=
  ((((h.setCell (a := ⟨g, k * 5, none⟩) hg a0).setCell (a := ⟨g, k * 5 + 1, none⟩) hg a1).setCell (a := ⟨g, k * 5 + 2, none⟩) hg a2).setCell (a := ⟨g, k * 5 + 3, none⟩) hg a3).setCell (a := ⟨g, k * 5 + 4, none⟩) hg a4

def riCells (p : Int × Value) : List Value := [.int .i64 p.1]

theorem riCells_len (p : Int × Value) : (riCells p).length = 1 := rfl

def riCellsW (_u : World) (_p : Int × Value) : Prop := True

theorem riCells_open {k : Nat} {w : World} {ev : Value} {x : Int} (h : NewR k w (fun u => IntV u u.heap.size ev x)) : ∃ lv : Value, ev = (.int .i64 x) ∧ NewR k w (fun u => riCellsW u (x, lv)) := by
  exact ⟨.nilIface, h.now, NewR.of _ _ fun _ => trivial⟩

theorem riCells_reads {u : World} {base g n : Nat} {rs : List (Int × Value)} (h : u.ownsRow base 3 1 (.slice (some ⟨g, 0, none⟩) n n) n (flatG riCells rs)) (hn : rs.length = n) (hsm : n ≤ 1000) (hW : ∀ p ∈ rs, riCellsW u p) : IntsR u u.heap.size (.slice (some ⟨g, 0, none⟩) n n) (rs.map (·.1)) := by
  subst hn
  have hl : (rs.map (·.1)).length = rs.length := List.length_map _
  refine ⟨some ⟨g, 0, none⟩, rs.length, by rw [hl], by omega, by omega, (by intro h; cases h), fun _ => ⟨g, 0, rfl, (h.lt g rfl).2, fun i x hx => ?_⟩⟩
  rw [List.getElem?_map] at hx
  obtain ⟨p, hp, rfl⟩ := Option.map_eq_some_iff.1 hx
  have hi : i < rs.length := (List.getElem?_eq_some_iff.1 hp).1
  have hw := hW p (List.mem_of_getElem? hp)
  have key : ∀ j, j < 1 → u.cell? ⟨g, 0 + i + j, none⟩ = (riCells p)[j]? := fun j hj => by
    rw [Nat.zero_add, h.cellAt (i + j) (by omega)]
    have := flatG_at riCells_len hp j hj
    simpa using this
  exact by simpa [riCells] using key 0 (by omega)

theorem Tryz.rinfoInt : (Tryz.prog.info? 3).map (fun i => (i.zero, i.size, i.bytes)) = some (some (.int .i64 0), 1, 8) := by kernel_rfl

set_option maxRecDepth 100000 in
set_option maxHeartbeats 1600000 in
theorem rlistInt (cl : Nat) (f : ByteArray × Int → Int × ByteArray × Int) (most : Int) (hm0 : 0 ≤ most) (hm1 : most ≤ 1000) (hc : RdC cl f IntV) (hsh : Shrinks f) (eg : ∀ args w, (callFunc cl args).run Tryz.prog w = .ok (.enter cl args) w)
    (rb : Nat) (r : ByteArray × Int) (w : World) (hs : r.1.size ≤ 140737488351232) (hr : IsRs rb r w) :
    Calls Tryz.prog 210 #[.pointer (some ⟨rb, 0, none⟩), .int .i64 most, .func (.func cl) #[.pointer (some ⟨rb, 0, none⟩)] #[]] w fun e w' => ∃ v, e = .returned v ∧ IsRs rb (listR most f r).2 w' ∧ NewR w.heap.size w' (fun u => IntsR u u.heap.size v (listR most f r).1) ∧ TouchG w w' (fun k => k = rb) := by
  have CN := ghid (rsNumber_any rb r w hs hr)
  have hbd := stepN_bounds r
  have hsq := stepN_shrinks r
  have hlr := hr.lt
  unfold listR
  by_cases hgt : most < (stepN r).1
  · rw [stepM_gt hm0 hgt]
    obtain ⟨mn, hmn⟩ : ∃ mn, mn = (stepN r).1 := ⟨_, rfl⟩
    obtain ⟨q, hq⟩ : ∃ q, q = (stepN r).2 := ⟨_, rfl⟩
    rw [← hmn] at CN hgt
    rw [← hq] at CN ⊢
    clear hbd hmn hq hc hr hsh
    go_enter Tryz.func210, Tryz.ntmps210
    go_wp2_with fail
    refine CN.out.mono ?_
    rintro e w1 ⟨v1, rfl, hr1, hn1, ht1⟩
    obtain rfl : v1 = .int .i64 mn := hn1.now
    have c1 : w1.cell? ⟨rb, 1, none⟩ = some (.int .i64 q.2) := cell_of_row w1 rb 1 _ _ _ hr1
    have f1 : w1.frozen? ⟨rb, 1, none⟩ = false := frozen_of_row w1 rb 1 _ _ hr1
    have HR1 := ghid hr1
    have HT1 := ghid ht1
    clear hr1 hn1 ht1 CN
    go_wp2
    go_ret
    exact ⟨_, rfl, rs_set HR1.out 1, NewR.of _ _ fun u => ⟨none, 0, rfl, Nat.le_refl _, by simp [rowR], fun _ => rfl, fun h => absurd h (by simp [rowR])⟩, HT1.out.setCell (a := ⟨rb, 1, none⟩) (.inl rfl) _⟩
  · rw [stepM_le (by omega)]
    obtain ⟨n, hn⟩ : ∃ n : Nat, (stepN r).1 = n := ⟨(stepN r).1.toNat, by omega⟩
    obtain ⟨q, hq⟩ : ∃ q, q = (stepN r).2 := ⟨_, rfl⟩
    have hqs : q.1.size ≤ 140737488351232 := by rw [hq]; omega
    rw [hn] at CN hgt ⊢
    rw [← hq] at CN ⊢
    rw [Int.toNat_natCast]
    have HC := ghid hc
    have HSH := ghid hsh
    obtain ⟨i0, hi, hz0, hz1, hz2⟩ := info_parts Tryz.rinfoInt
    clear hbd hn hq hc hr hsh hsq
    go_enter Tryz.func210, Tryz.ntmps210
    go_wp2_with fail
    refine CN.out.mono ?_
    rintro e w1 ⟨v1, rfl, hr1, hn1, ht1⟩
    obtain rfl : v1 = .int .i64 n := hn1.now
    have HR1 := ghid hr1
    have HT1 := ghid ht1
    have hz1w := ht1.size
    clear hr1 hn1 ht1 CN
    go_wp2_with (at_make; refine wpList_make_full _ rfl (.tmp 18) (.tmp 18) 80 rfl w1.heap.size 3 i0 _ 1 Tryz.underlying80 hi hz0 hz1 .i64 .i64 _ _ n rfl rfl rfl rfl (by rw [hz2]; omega) (by unfold maxLen; omega) (Nat.le_refl _) ?_)
    intro w2 hown2 hgrow2
    have hb2 : Below w1.heap.size w1 w2 := (Below.refl _ _).grown hgrow2 (Nat.le_refl _) (fun k hk => by cases hk)
    obtain ⟨Z, HO2, hZl⟩ : ∃ Z : List Value, Hid (w2.ownsRow w1.heap.size 3 1 (.slice (some ⟨w1.heap.size, 0, none⟩) n n) n Z) ∧ Z.length = n * 1 := ⟨_, hown2, by simp [size_madeCells]⟩
    have HR2 := ghid (HR1.out.below hb2)
    have HT2 := ghid (HT1.out.trans (TouchG.of_below hb2 (Nat.le_refl _) (fun k => k = rb)) (fun _ _ h => h))
    obtain ⟨g, hg⟩ : ∃ g, g = w1.heap.size := ⟨_, rfl⟩
    rw [← hg] at HO2 ⊢
    have hwg : w.heap.size ≤ g := by omega
    clear hown2 hgrow2 hi hz0 hz1 hz2 hb2 HR1 HT1 hg hz1w
    go_wp2_with fail
    go_loopw [22] (fun i wr => ∃ (k : Nat) (rs : List (Int × Value)) (Z : List Value), k ≤ n ∧ i = .int .i64 k ∧ rs.map (·.1) = (rowR f k q).1 ∧ IsRs rb (rowR f k q).2 wr ∧ Z.length = (n - k) * 1 ∧
        wr.ownsRow g 3 1 (.slice (some ⟨g, 0, none⟩) n n) n (flatG riCells rs ++ Z) ∧ (∀ p ∈ rs, NewR (g + 1) wr (fun u => riCellsW u p)) ∧ TouchG w wr (fun k => k = rb))
      (fun i _ => n - (intOf i).toNat)
    case atStart => exact ⟨0, [], Z, Nat.zero_le _, rfl, rfl, HR2.out, by simpa using hZl, by simpa [flatG] using HO2.out, fun p hp => absurd hp (by simp), HT2.out⟩
    case round =>
      clear HO2 HR2 HT2
      obtain ⟨k, rs, Z, hk, rfl, hrs, hrd, hZl, hown, hnew, htw⟩ := hrel
      have hrl : rs.length = k := by have := congrArg List.length hrs; rw [List.length_map, rowR_length] at this; exact this
      have hkl : (flatG riCells rs).length = k := by rw [flatG_length riCells_len, hrl]; omega
      have hgr : g < wr.heap.size := (hown.lt _ rfl).2
      have hrg : rb ≠ g := by omega
      by_cases hlt : k < n
      · obtain ⟨z0, Z', hZe⟩ := rof1 Z (by omega)
        subst hZe
        have CR := ghid (HC.out rb (rowR f k q).2 wr (Nat.le_trans (rowR_shrinks HSH.out k q) hqs) hrd)
        have HRS := ghid (rowR_snoc f k q)
        obtain ⟨x, hx⟩ : ∃ x, x = (f (rowR f k q).2).1 := ⟨_, rfl⟩
        obtain ⟨q', hq'⟩ : ∃ q', q' = (f (rowR f k q).2).2 := ⟨_, rfl⟩
        rw [← hx, ← hq'] at CR HRS
        have HO := ghid hown
        have HNW := ghid hnew
        have HTW := ghid htw
        have HKL := ghid hkl
        have HIR := ghid hrs
        clear hrs hown hnew htw hkl hrd hx hq' hqs
        go_wp2_with fail
        refine CR.out.mono ?_
        rintro e w3 ⟨ev, rfl, hr3, hn3, ht3⟩
        obtain ⟨lv, rfl, hw3⟩ := riCells_open hn3
        have ho3 : w3.ownsRow g 3 1 (.slice (some ⟨g, 0, none⟩) n n) n (flatG riCells rs ++ z0 :: Z') := grow_keep HO.out fun b hb => by
          have hbg : b = g := by simpa [Value.ownBlock] using hb.symm
          rw [hbg]
          exact ht3.block g hgr (fun e => hrg e.symm)
        have y : ∀ j z, (z0 :: Z')[j]? = some z → j < 1 → w3.cell? ⟨g, k + j, none⟩ = some z := fun j z hz hj => by
          rw [ho3.cellAt (k + j) (by omega), List.getElem?_append_right (by have := HKL.out; omega), HKL.out, show k + j - k = j by omega]
          exact hz
        have y0 := y 0 z0 rfl (by omega)
        rw [Nat.add_zero] at y0
        have yf : ∀ j, w3.frozen? ⟨g, j, none⟩ = false := fun j => ho3.frozenAt j
        have HO3 := ghid (rput1 ho3 HKL.out (.int .i64 x))
        have hz3 := ht3.size
        have HT3 := ghid (rtouch1 (k := k) (HTW.out.trans ht3 (fun _ _ h => h)) (.inr hwg) (.int .i64 x))
        have HT4 := ghid (rtouch1 (k := k) (TouchG.mk ht3.os ht3.tape ht3.output ht3.size (fun i hi hn => ht3.block i hi (fun e => hn (.inl e))) : TouchG wr w3 (fun i => i = rb ∨ i = g)) (.inl (.inr rfl)) (.int .i64 x))
        have HT5 := ghid (rtouch1 (k := k) (TouchG.refl w3 (fun i => i = g)) (.inl rfl) (.int .i64 x))
        have HR3 := ghid hr3
        have HW3 := ghid hw3
        clear ho3 y hr3 hn3 ht3 hw3 CR
        go_wp2
        go_roundw
        case rel =>
          refine ⟨k + 1, rs ++ [(x, lv)], Z', by omega, by go_num, ?_, ?_, by simp at hZl; omega, ?_, ?_, HT3.out⟩
          · rw [HRS.out, List.map_append, HIR.out]; rfl
          · rw [HRS.out]
            exact (HT5.out.block rb (by have := (Array.getElem?_eq_some_iff.1 HR3.out).1; exact this) hrg).trans HR3.out
          · have := HO3.out
            rw [flatG_snoc, List.append_assoc]
            exact this
          · intro p hp
            rcases List.mem_append.1 hp with hp | hp
            · exact (HNW.out p hp).touch HT4.out (fun i _ h => by rcases h with h | h <;> omega)
            · obtain rfl : p = (x, lv) := by simpa using hp
              exact ((HW3.out).touch HT5.out (fun i _ h => by omega)).mono (by omega)
        case measure => simp [intOf]; omega
      · have hke : k = n := by omega
        subst hke
        have hZ0 : Z = [] := List.eq_nil_of_length_eq_zero (by omega)
        subst hZ0
        rw [List.append_nil] at hown
        have HO := ghid hown
        have HNW := ghid hnew
        have HTW := ghid htw
        have HIR := ghid hrs
        have HRD := ghid hrd
        clear hrs hown hnew htw hkl hrd
        go_wp2
        go_ret
        refine ⟨_, rfl, HRD.out, fun u hu => ?_, HTW.out⟩
        rw [← HIR.out]
        refine riCells_reads (grow_keep HO.out fun b hb => ?_) hrl (by omega) (fun p hp => (HNW.out p hp).mono (by omega) u hu)
        have hbg : b = g := by simpa [Value.ownBlock] using hb.symm
        rw [hbg]
        exact hu.block g hgr (by omega)

def rkCells (p : KeptD × Value) : List Value := [.int .i64 p.1.seq, .int .i64 p.1.code, .int .i64 p.1.n, .string p.1.text]

theorem rkCells_len (p : KeptD × Value) : (rkCells p).length = 4 := rfl

def rkCellsW (_u : World) (p : KeptD × Value) : Prop := p.1.text.size ≤ 140737488351232

theorem rkCells_open {k : Nat} {w : World} {ev : Value} {x : KeptD} (h : NewR k w (fun u => KeptV u u.heap.size ev x)) : ∃ lv : Value, ev = (.agg #[.int .i64 x.seq, .int .i64 x.code, .int .i64 x.n, .string x.text]) ∧ NewR k w (fun u => rkCellsW u (x, lv)) := by
  exact ⟨.nilIface, h.now.1, NewR.of _ _ fun _ => h.now.2⟩

theorem rkCells_reads {u : World} {base g n : Nat} {rs : List (KeptD × Value)} (h : u.ownsRow base 168 4 (.slice (some ⟨g, 0, none⟩) n n) n (flatG rkCells rs)) (hn : rs.length = n) (hsm : n ≤ 1000) (hW : ∀ p ∈ rs, rkCellsW u p) : KeptsR u u.heap.size (.slice (some ⟨g, 0, none⟩) n n) (rs.map (·.1)) := by
  subst hn
  have hl : (rs.map (·.1)).length = rs.length := List.length_map _
  refine ⟨some ⟨g, 0, none⟩, rs.length, by rw [hl], by omega, by omega, (by intro h; cases h), fun _ => ⟨g, 0, rfl, (h.lt g rfl).2, fun i x hx => ?_⟩⟩
  rw [List.getElem?_map] at hx
  obtain ⟨p, hp, rfl⟩ := Option.map_eq_some_iff.1 hx
  have hi : i < rs.length := (List.getElem?_eq_some_iff.1 hp).1
  have hw := hW p (List.mem_of_getElem? hp)
  have key : ∀ j, j < 4 → u.cell? ⟨g, 0 + i * 4 + j, none⟩ = (rkCells p)[j]? := fun j hj => by
    rw [Nat.zero_add, h.cellAt (i * 4 + j) (by omega)]
    have := flatG_at rkCells_len hp j hj
    simpa using this
  exact ⟨by simpa [rkCells] using key 0 (by omega), by simpa [rkCells] using key 1 (by omega), by simpa [rkCells] using key 2 (by omega), by simpa [rkCells] using key 3 (by omega), hw, TagB.row h⟩

theorem Tryz.rinfoKept : (Tryz.prog.info? 168).map (fun i => (i.zero, i.size, i.bytes)) = some (some (.agg #[.int .i64 0, .int .i64 0, .int .i64 0, .string ⟨#[]⟩]), 4, 40) := by kernel_rfl

set_option maxRecDepth 100000 in
set_option maxHeartbeats 1600000 in
theorem rlistKept (cl : Nat) (f : ByteArray × Int → KeptD × ByteArray × Int) (most : Int) (hm0 : 0 ≤ most) (hm1 : most ≤ 1000) (hc : RdC cl f KeptV) (hsh : Shrinks f) (eg : ∀ args w, (callFunc cl args).run Tryz.prog w = .ok (.enter cl args) w)
    (rb : Nat) (r : ByteArray × Int) (w : World) (hs : r.1.size ≤ 140737488351232) (hr : IsRs rb r w) :
    Calls Tryz.prog 211 #[.pointer (some ⟨rb, 0, none⟩), .int .i64 most, .func (.func cl) #[.pointer (some ⟨rb, 0, none⟩)] #[]] w fun e w' => ∃ v, e = .returned v ∧ IsRs rb (listR most f r).2 w' ∧ NewR w.heap.size w' (fun u => KeptsR u u.heap.size v (listR most f r).1) ∧ TouchG w w' (fun k => k = rb) := by
  have CN := ghid (rsNumber_any rb r w hs hr)
  have hbd := stepN_bounds r
  have hsq := stepN_shrinks r
  have hlr := hr.lt
  unfold listR
  by_cases hgt : most < (stepN r).1
  · rw [stepM_gt hm0 hgt]
    obtain ⟨mn, hmn⟩ : ∃ mn, mn = (stepN r).1 := ⟨_, rfl⟩
    obtain ⟨q, hq⟩ : ∃ q, q = (stepN r).2 := ⟨_, rfl⟩
    rw [← hmn] at CN hgt
    rw [← hq] at CN ⊢
    clear hbd hmn hq hc hr hsh
    go_enter Tryz.func211, Tryz.ntmps211
    go_wp2_with fail
    refine CN.out.mono ?_
    rintro e w1 ⟨v1, rfl, hr1, hn1, ht1⟩
    obtain rfl : v1 = .int .i64 mn := hn1.now
    have c1 : w1.cell? ⟨rb, 1, none⟩ = some (.int .i64 q.2) := cell_of_row w1 rb 1 _ _ _ hr1
    have f1 : w1.frozen? ⟨rb, 1, none⟩ = false := frozen_of_row w1 rb 1 _ _ hr1
    have HR1 := ghid hr1
    have HT1 := ghid ht1
    clear hr1 hn1 ht1 CN
    go_wp2
    go_ret
    exact ⟨_, rfl, rs_set HR1.out 1, NewR.of _ _ fun u => ⟨none, 0, rfl, Nat.le_refl _, by simp [rowR], fun _ => rfl, fun h => absurd h (by simp [rowR])⟩, HT1.out.setCell (a := ⟨rb, 1, none⟩) (.inl rfl) _⟩
  · rw [stepM_le (by omega)]
    obtain ⟨n, hn⟩ : ∃ n : Nat, (stepN r).1 = n := ⟨(stepN r).1.toNat, by omega⟩
    obtain ⟨q, hq⟩ : ∃ q, q = (stepN r).2 := ⟨_, rfl⟩
    have hqs : q.1.size ≤ 140737488351232 := by rw [hq]; omega
    rw [hn] at CN hgt ⊢
    rw [← hq] at CN ⊢
    rw [Int.toNat_natCast]
    have HC := ghid hc
    have HSH := ghid hsh
    obtain ⟨i0, hi, hz0, hz1, hz2⟩ := info_parts Tryz.rinfoKept
    clear hbd hn hq hc hr hsh hsq
    go_enter Tryz.func211, Tryz.ntmps211
    go_wp2_with fail
    refine CN.out.mono ?_
    rintro e w1 ⟨v1, rfl, hr1, hn1, ht1⟩
    obtain rfl : v1 = .int .i64 n := hn1.now
    have HR1 := ghid hr1
    have HT1 := ghid ht1
    have hz1w := ht1.size
    clear hr1 hn1 ht1 CN
    go_wp2_with (at_make; refine wpList_make_full _ rfl (.tmp 18) (.tmp 18) 119 rfl w1.heap.size 168 i0 _ 4 Tryz.underlying119 hi hz0 hz1 .i64 .i64 _ _ n rfl rfl rfl rfl (by rw [hz2]; omega) (by unfold maxLen; omega) (Nat.le_refl _) ?_)
    intro w2 hown2 hgrow2
    have hb2 : Below w1.heap.size w1 w2 := (Below.refl _ _).grown hgrow2 (Nat.le_refl _) (fun k hk => by cases hk)
    obtain ⟨Z, HO2, hZl⟩ : ∃ Z : List Value, Hid (w2.ownsRow w1.heap.size 168 4 (.slice (some ⟨w1.heap.size, 0, none⟩) n n) n Z) ∧ Z.length = n * 4 := ⟨_, hown2, by simp [size_madeCells]⟩
    have HR2 := ghid (HR1.out.below hb2)
    have HT2 := ghid (HT1.out.trans (TouchG.of_below hb2 (Nat.le_refl _) (fun k => k = rb)) (fun _ _ h => h))
    obtain ⟨g, hg⟩ : ∃ g, g = w1.heap.size := ⟨_, rfl⟩
    rw [← hg] at HO2 ⊢
    have hwg : w.heap.size ≤ g := by omega
    clear hown2 hgrow2 hi hz0 hz1 hz2 hb2 HR1 HT1 hg hz1w
    go_wp2_with fail
    go_loopw [22] (fun i wr => ∃ (k : Nat) (rs : List (KeptD × Value)) (Z : List Value), k ≤ n ∧ i = .int .i64 k ∧ rs.map (·.1) = (rowR f k q).1 ∧ IsRs rb (rowR f k q).2 wr ∧ Z.length = (n - k) * 4 ∧
        wr.ownsRow g 168 4 (.slice (some ⟨g, 0, none⟩) n n) n (flatG rkCells rs ++ Z) ∧ (∀ p ∈ rs, NewR (g + 1) wr (fun u => rkCellsW u p)) ∧ TouchG w wr (fun k => k = rb))
      (fun i _ => n - (intOf i).toNat)
    case atStart => exact ⟨0, [], Z, Nat.zero_le _, rfl, rfl, HR2.out, by simpa using hZl, by simpa [flatG] using HO2.out, fun p hp => absurd hp (by simp), HT2.out⟩
    case round =>
      clear HO2 HR2 HT2
      obtain ⟨k, rs, Z, hk, rfl, hrs, hrd, hZl, hown, hnew, htw⟩ := hrel
      have hrl : rs.length = k := by have := congrArg List.length hrs; rw [List.length_map, rowR_length] at this; exact this
      have hkl : (flatG rkCells rs).length = k * 4 := by rw [flatG_length rkCells_len, hrl]
      have hgr : g < wr.heap.size := (hown.lt _ rfl).2
      have hrg : rb ≠ g := by omega
      by_cases hlt : k < n
      · obtain ⟨z0, z1, z2, z3, Z', hZe⟩ := rof4 Z (by omega)
        subst hZe
        have CR := ghid (HC.out rb (rowR f k q).2 wr (Nat.le_trans (rowR_shrinks HSH.out k q) hqs) hrd)
        have HRS := ghid (rowR_snoc f k q)
        obtain ⟨x, hx⟩ : ∃ x, x = (f (rowR f k q).2).1 := ⟨_, rfl⟩
        obtain ⟨q', hq'⟩ : ∃ q', q' = (f (rowR f k q).2).2 := ⟨_, rfl⟩
        rw [← hx, ← hq'] at CR HRS
        have HO := ghid hown
        have HNW := ghid hnew
        have HTW := ghid htw
        have HKL := ghid hkl
        have HIR := ghid hrs
        clear hrs hown hnew htw hkl hrd hx hq' hqs
        go_wp2_with fail
        refine CR.out.mono ?_
        rintro e w3 ⟨ev, rfl, hr3, hn3, ht3⟩
        obtain ⟨lv, rfl, hw3⟩ := rkCells_open hn3
        have ho3 : w3.ownsRow g 168 4 (.slice (some ⟨g, 0, none⟩) n n) n (flatG rkCells rs ++ z0 :: z1 :: z2 :: z3 :: Z') := grow_keep HO.out fun b hb => by
          have hbg : b = g := by simpa [Value.ownBlock] using hb.symm
          rw [hbg]
          exact ht3.block g hgr (fun e => hrg e.symm)
        have y : ∀ j z, (z0 :: z1 :: z2 :: z3 :: Z')[j]? = some z → j < 4 → w3.cell? ⟨g, k * 4 + j, none⟩ = some z := fun j z hz hj => by
          rw [ho3.cellAt (k * 4 + j) (by omega), List.getElem?_append_right (by have := HKL.out; omega), HKL.out, show k * 4 + j - k * 4 = j by omega]
          exact hz
        have y0 := y 0 z0 rfl (by omega)
        have y1 := y 1 z1 rfl (by omega)
        have y2 := y 2 z2 rfl (by omega)
        have y3 := y 3 z3 rfl (by omega)
        rw [Nat.add_zero] at y0
        have yf : ∀ j, w3.frozen? ⟨g, j, none⟩ = false := fun j => ho3.frozenAt j
        have HO3 := ghid (rput4 ho3 HKL.out (.int .i64 x.seq) (.int .i64 x.code) (.int .i64 x.n) (.string x.text))
        have hz3 := ht3.size
        have HT3 := ghid (rtouch4 (k := k) (HTW.out.trans ht3 (fun _ _ h => h)) (.inr hwg) (.int .i64 x.seq) (.int .i64 x.code) (.int .i64 x.n) (.string x.text))
        have HT4 := ghid (rtouch4 (k := k) (TouchG.mk ht3.os ht3.tape ht3.output ht3.size (fun i hi hn => ht3.block i hi (fun e => hn (.inl e))) : TouchG wr w3 (fun i => i = rb ∨ i = g)) (.inl (.inr rfl)) (.int .i64 x.seq) (.int .i64 x.code) (.int .i64 x.n) (.string x.text))
        have HT5 := ghid (rtouch4 (k := k) (TouchG.refl w3 (fun i => i = g)) (.inl rfl) (.int .i64 x.seq) (.int .i64 x.code) (.int .i64 x.n) (.string x.text))
        have HR3 := ghid hr3
        have HW3 := ghid hw3
        clear ho3 y hr3 hn3 ht3 hw3 CR
        go_wp2
        go_roundw
        case rel =>
          refine ⟨k + 1, rs ++ [(x, lv)], Z', by omega, by go_num, ?_, ?_, by simp at hZl; omega, ?_, ?_, HT3.out⟩
          · rw [HRS.out, List.map_append, HIR.out]; rfl
          · rw [HRS.out]
            exact (HT5.out.block rb (by have := (Array.getElem?_eq_some_iff.1 HR3.out).1; exact this) hrg).trans HR3.out
          · have := HO3.out
            rw [flatG_snoc, List.append_assoc]
            exact this
          · intro p hp
            rcases List.mem_append.1 hp with hp | hp
            · exact (HNW.out p hp).touch HT4.out (fun i _ h => by rcases h with h | h <;> omega)
            · obtain rfl : p = (x, lv) := by simpa using hp
              exact ((HW3.out).touch HT5.out (fun i _ h => by omega)).mono (by omega)
        case measure => simp [intOf]; omega
      · have hke : k = n := by omega
        subst hke
        have hZ0 : Z = [] := List.eq_nil_of_length_eq_zero (by omega)
        subst hZ0
        rw [List.append_nil] at hown
        have HO := ghid hown
        have HNW := ghid hnew
        have HTW := ghid htw
        have HIR := ghid hrs
        have HRD := ghid hrd
        clear hrs hown hnew htw hkl hrd
        go_wp2
        go_ret
        refine ⟨_, rfl, HRD.out, fun u hu => ?_, HTW.out⟩
        rw [← HIR.out]
        refine rkCells_reads (grow_keep HO.out fun b hb => ?_) hrl (by omega) (fun p hp => (HNW.out p hp).mono (by omega) u hu)
        have hbg : b = g := by simpa [Value.ownBlock] using hb.symm
        rw [hbg]
        exact hu.block g hgr (by omega)

def rlCells (p : LockD × Value) : List Value := [.string p.1.name, .int .i64 p.1.holder, .int .i64 p.1.fence, p.2]

theorem rlCells_len (p : LockD × Value) : (rlCells p).length = 4 := rfl

def rlCellsW (u : World) (p : LockD × Value) : Prop := IntsR u u.heap.size p.2 p.1.line ∧ p.1.name.size ≤ 140737488351232

theorem rlCells_open {k : Nat} {w : World} {ev : Value} {x : LockD} (h : NewR k w (fun u => LockV u u.heap.size ev x)) : ∃ lv : Value, ev = (.agg #[.string x.name, .int .i64 x.holder, .int .i64 x.fence, lv]) ∧ NewR k w (fun u => rlCellsW u (x, lv)) := by
  obtain ⟨lv, hev, -, hs⟩ := h.now
  refine ⟨lv, hev, fun u hu => ?_⟩
  obtain ⟨lv', hev', hl', hs'⟩ := h u hu
  rw [hev] at hev'
  simp at hev'
  subst hev'
  exact ⟨hl', hs'⟩

theorem rlCells_reads {u : World} {base g n : Nat} {rs : List (LockD × Value)} (h : u.ownsRow base 82 4 (.slice (some ⟨g, 0, none⟩) n n) n (flatG rlCells rs)) (hn : rs.length = n) (hsm : n ≤ 1000) (hW : ∀ p ∈ rs, rlCellsW u p) : LocksR u u.heap.size (.slice (some ⟨g, 0, none⟩) n n) (rs.map (·.1)) := by
  subst hn
  have hl : (rs.map (·.1)).length = rs.length := List.length_map _
  refine ⟨some ⟨g, 0, none⟩, rs.length, by rw [hl], by omega, by omega, (by intro h; cases h), fun _ => ⟨g, 0, rfl, (h.lt g rfl).2, fun i x hx => ?_⟩⟩
  rw [List.getElem?_map] at hx
  obtain ⟨p, hp, rfl⟩ := Option.map_eq_some_iff.1 hx
  have hi : i < rs.length := (List.getElem?_eq_some_iff.1 hp).1
  have hw := hW p (List.mem_of_getElem? hp)
  have key : ∀ j, j < 4 → u.cell? ⟨g, 0 + i * 4 + j, none⟩ = (rlCells p)[j]? := fun j hj => by
    rw [Nat.zero_add, h.cellAt (i * 4 + j) (by omega)]
    have := flatG_at rlCells_len hp j hj
    simpa using this
  exact ⟨p.2, by simpa [rlCells] using key 0 (by omega), by simpa [rlCells] using key 1 (by omega), by simpa [rlCells] using key 2 (by omega), by simpa [rlCells] using key 3 (by omega), hw.1, hw.2⟩

theorem Tryz.rinfoLock : (Tryz.prog.info? 82).map (fun i => (i.zero, i.size, i.bytes)) = some (some (.agg #[.string ⟨#[]⟩, .int .i64 0, .int .i64 0, .slice none 0 0]), 4, 56) := by kernel_rfl

set_option maxRecDepth 100000 in
set_option maxHeartbeats 1600000 in
theorem rlistLock (cl : Nat) (f : ByteArray × Int → LockD × ByteArray × Int) (most : Int) (hm0 : 0 ≤ most) (hm1 : most ≤ 1000) (hc : RdC cl f LockV) (hsh : Shrinks f) (eg : ∀ args w, (callFunc cl args).run Tryz.prog w = .ok (.enter cl args) w)
    (rb : Nat) (r : ByteArray × Int) (w : World) (hs : r.1.size ≤ 140737488351232) (hr : IsRs rb r w) :
    Calls Tryz.prog 163 #[.pointer (some ⟨rb, 0, none⟩), .int .i64 most, .func (.func cl) #[.pointer (some ⟨rb, 0, none⟩)] #[]] w fun e w' => ∃ v, e = .returned v ∧ IsRs rb (listR most f r).2 w' ∧ NewR w.heap.size w' (fun u => LocksR u u.heap.size v (listR most f r).1) ∧ TouchG w w' (fun k => k = rb) := by
  have CN := ghid (rsNumber_any rb r w hs hr)
  have hbd := stepN_bounds r
  have hsq := stepN_shrinks r
  have hlr := hr.lt
  unfold listR
  by_cases hgt : most < (stepN r).1
  · rw [stepM_gt hm0 hgt]
    obtain ⟨mn, hmn⟩ : ∃ mn, mn = (stepN r).1 := ⟨_, rfl⟩
    obtain ⟨q, hq⟩ : ∃ q, q = (stepN r).2 := ⟨_, rfl⟩
    rw [← hmn] at CN hgt
    rw [← hq] at CN ⊢
    clear hbd hmn hq hc hr hsh
    go_enter Tryz.func163, Tryz.ntmps163
    go_wp2_with fail
    refine CN.out.mono ?_
    rintro e w1 ⟨v1, rfl, hr1, hn1, ht1⟩
    obtain rfl : v1 = .int .i64 mn := hn1.now
    have c1 : w1.cell? ⟨rb, 1, none⟩ = some (.int .i64 q.2) := cell_of_row w1 rb 1 _ _ _ hr1
    have f1 : w1.frozen? ⟨rb, 1, none⟩ = false := frozen_of_row w1 rb 1 _ _ hr1
    have HR1 := ghid hr1
    have HT1 := ghid ht1
    clear hr1 hn1 ht1 CN
    go_wp2
    go_ret
    exact ⟨_, rfl, rs_set HR1.out 1, NewR.of _ _ fun u => ⟨none, 0, rfl, Nat.le_refl _, by simp [rowR], fun _ => rfl, fun h => absurd h (by simp [rowR])⟩, HT1.out.setCell (a := ⟨rb, 1, none⟩) (.inl rfl) _⟩
  · rw [stepM_le (by omega)]
    obtain ⟨n, hn⟩ : ∃ n : Nat, (stepN r).1 = n := ⟨(stepN r).1.toNat, by omega⟩
    obtain ⟨q, hq⟩ : ∃ q, q = (stepN r).2 := ⟨_, rfl⟩
    have hqs : q.1.size ≤ 140737488351232 := by rw [hq]; omega
    rw [hn] at CN hgt ⊢
    rw [← hq] at CN ⊢
    rw [Int.toNat_natCast]
    have HC := ghid hc
    have HSH := ghid hsh
    obtain ⟨i0, hi, hz0, hz1, hz2⟩ := info_parts Tryz.rinfoLock
    clear hbd hn hq hc hr hsh hsq
    go_enter Tryz.func163, Tryz.ntmps163
    go_wp2_with fail
    refine CN.out.mono ?_
    rintro e w1 ⟨v1, rfl, hr1, hn1, ht1⟩
    obtain rfl : v1 = .int .i64 n := hn1.now
    have HR1 := ghid hr1
    have HT1 := ghid ht1
    have hz1w := ht1.size
    clear hr1 hn1 ht1 CN
    go_wp2_with (at_make; refine wpList_make_full _ rfl (.tmp 18) (.tmp 18) 44 rfl w1.heap.size 82 i0 _ 4 Tryz.underlying44 hi hz0 hz1 .i64 .i64 _ _ n rfl rfl rfl rfl (by rw [hz2]; omega) (by unfold maxLen; omega) (Nat.le_refl _) ?_)
    intro w2 hown2 hgrow2
    have hb2 : Below w1.heap.size w1 w2 := (Below.refl _ _).grown hgrow2 (Nat.le_refl _) (fun k hk => by cases hk)
    obtain ⟨Z, HO2, hZl⟩ : ∃ Z : List Value, Hid (w2.ownsRow w1.heap.size 82 4 (.slice (some ⟨w1.heap.size, 0, none⟩) n n) n Z) ∧ Z.length = n * 4 := ⟨_, hown2, by simp [size_madeCells]⟩
    have HR2 := ghid (HR1.out.below hb2)
    have HT2 := ghid (HT1.out.trans (TouchG.of_below hb2 (Nat.le_refl _) (fun k => k = rb)) (fun _ _ h => h))
    obtain ⟨g, hg⟩ : ∃ g, g = w1.heap.size := ⟨_, rfl⟩
    rw [← hg] at HO2 ⊢
    have hwg : w.heap.size ≤ g := by omega
    clear hown2 hgrow2 hi hz0 hz1 hz2 hb2 HR1 HT1 hg hz1w
    go_wp2_with fail
    go_loopw [22] (fun i wr => ∃ (k : Nat) (rs : List (LockD × Value)) (Z : List Value), k ≤ n ∧ i = .int .i64 k ∧ rs.map (·.1) = (rowR f k q).1 ∧ IsRs rb (rowR f k q).2 wr ∧ Z.length = (n - k) * 4 ∧
        wr.ownsRow g 82 4 (.slice (some ⟨g, 0, none⟩) n n) n (flatG rlCells rs ++ Z) ∧ (∀ p ∈ rs, NewR (g + 1) wr (fun u => rlCellsW u p)) ∧ TouchG w wr (fun k => k = rb))
      (fun i _ => n - (intOf i).toNat)
    case atStart => exact ⟨0, [], Z, Nat.zero_le _, rfl, rfl, HR2.out, by simpa using hZl, by simpa [flatG] using HO2.out, fun p hp => absurd hp (by simp), HT2.out⟩
    case round =>
      clear HO2 HR2 HT2
      obtain ⟨k, rs, Z, hk, rfl, hrs, hrd, hZl, hown, hnew, htw⟩ := hrel
      have hrl : rs.length = k := by have := congrArg List.length hrs; rw [List.length_map, rowR_length] at this; exact this
      have hkl : (flatG rlCells rs).length = k * 4 := by rw [flatG_length rlCells_len, hrl]
      have hgr : g < wr.heap.size := (hown.lt _ rfl).2
      have hrg : rb ≠ g := by omega
      by_cases hlt : k < n
      · obtain ⟨z0, z1, z2, z3, Z', hZe⟩ := rof4 Z (by omega)
        subst hZe
        have CR := ghid (HC.out rb (rowR f k q).2 wr (Nat.le_trans (rowR_shrinks HSH.out k q) hqs) hrd)
        have HRS := ghid (rowR_snoc f k q)
        obtain ⟨x, hx⟩ : ∃ x, x = (f (rowR f k q).2).1 := ⟨_, rfl⟩
        obtain ⟨q', hq'⟩ : ∃ q', q' = (f (rowR f k q).2).2 := ⟨_, rfl⟩
        rw [← hx, ← hq'] at CR HRS
        have HO := ghid hown
        have HNW := ghid hnew
        have HTW := ghid htw
        have HKL := ghid hkl
        have HIR := ghid hrs
        clear hrs hown hnew htw hkl hrd hx hq' hqs
        go_wp2_with fail
        refine CR.out.mono ?_
        rintro e w3 ⟨ev, rfl, hr3, hn3, ht3⟩
        obtain ⟨lv, rfl, hw3⟩ := rlCells_open hn3
        obtain ⟨lo, lc, hlv, -⟩ := id hw3.now.1
        simp only at hlv
        subst hlv
        have ho3 : w3.ownsRow g 82 4 (.slice (some ⟨g, 0, none⟩) n n) n (flatG rlCells rs ++ z0 :: z1 :: z2 :: z3 :: Z') := grow_keep HO.out fun b hb => by
          have hbg : b = g := by simpa [Value.ownBlock] using hb.symm
          rw [hbg]
          exact ht3.block g hgr (fun e => hrg e.symm)
        have y : ∀ j z, (z0 :: z1 :: z2 :: z3 :: Z')[j]? = some z → j < 4 → w3.cell? ⟨g, k * 4 + j, none⟩ = some z := fun j z hz hj => by
          rw [ho3.cellAt (k * 4 + j) (by omega), List.getElem?_append_right (by have := HKL.out; omega), HKL.out, show k * 4 + j - k * 4 = j by omega]
          exact hz
        have y0 := y 0 z0 rfl (by omega)
        have y1 := y 1 z1 rfl (by omega)
        have y2 := y 2 z2 rfl (by omega)
        have y3 := y 3 z3 rfl (by omega)
        rw [Nat.add_zero] at y0
        have yf : ∀ j, w3.frozen? ⟨g, j, none⟩ = false := fun j => ho3.frozenAt j
        have HO3 := ghid (rput4 ho3 HKL.out (.string x.name) (.int .i64 x.holder) (.int .i64 x.fence) (.slice lo x.line.length lc))
        have hz3 := ht3.size
        have HT3 := ghid (rtouch4 (k := k) (HTW.out.trans ht3 (fun _ _ h => h)) (.inr hwg) (.string x.name) (.int .i64 x.holder) (.int .i64 x.fence) (.slice lo x.line.length lc))
        have HT4 := ghid (rtouch4 (k := k) (TouchG.mk ht3.os ht3.tape ht3.output ht3.size (fun i hi hn => ht3.block i hi (fun e => hn (.inl e))) : TouchG wr w3 (fun i => i = rb ∨ i = g)) (.inl (.inr rfl)) (.string x.name) (.int .i64 x.holder) (.int .i64 x.fence) (.slice lo x.line.length lc))
        have HT5 := ghid (rtouch4 (k := k) (TouchG.refl w3 (fun i => i = g)) (.inl rfl) (.string x.name) (.int .i64 x.holder) (.int .i64 x.fence) (.slice lo x.line.length lc))
        have HR3 := ghid hr3
        have HW3 := ghid hw3
        clear ho3 y hr3 hn3 ht3 hw3 CR
        go_wp2
        go_roundw
        case rel =>
          refine ⟨k + 1, rs ++ [(x, .slice lo x.line.length lc)], Z', by omega, by go_num, ?_, ?_, by simp at hZl; omega, ?_, ?_, HT3.out⟩
          · rw [HRS.out, List.map_append, HIR.out]; rfl
          · rw [HRS.out]
            exact (HT5.out.block rb (by have := (Array.getElem?_eq_some_iff.1 HR3.out).1; exact this) hrg).trans HR3.out
          · have := HO3.out
            rw [flatG_snoc, List.append_assoc]
            exact this
          · intro p hp
            rcases List.mem_append.1 hp with hp | hp
            · exact (HNW.out p hp).touch HT4.out (fun i _ h => by rcases h with h | h <;> omega)
            · obtain rfl : p = (x, .slice lo x.line.length lc) := by simpa using hp
              exact ((HW3.out).touch HT5.out (fun i _ h => by omega)).mono (by omega)
        case measure => simp [intOf]; omega
      · have hke : k = n := by omega
        subst hke
        have hZ0 : Z = [] := List.eq_nil_of_length_eq_zero (by omega)
        subst hZ0
        rw [List.append_nil] at hown
        have HO := ghid hown
        have HNW := ghid hnew
        have HTW := ghid htw
        have HIR := ghid hrs
        have HRD := ghid hrd
        clear hrs hown hnew htw hkl hrd
        go_wp2
        go_ret
        refine ⟨_, rfl, HRD.out, fun u hu => ?_, HTW.out⟩
        rw [← HIR.out]
        refine rlCells_reads (grow_keep HO.out fun b hb => ?_) hrl (by omega) (fun p hp => (HNW.out p hp).mono (by omega) u hu)
        have hbg : b = g := by simpa [Value.ownBlock] using hb.symm
        rw [hbg]
        exact hu.block g hgr (by omega)

def rpCells (p : PairD × Value) : List Value := [.string p.1.name, .string p.1.value, .int .i64 p.1.version]

theorem rpCells_len (p : PairD × Value) : (rpCells p).length = 3 := rfl

def rpCellsW (_u : World) (p : PairD × Value) : Prop := p.1.name.size ≤ 140737488351232 ∧ p.1.value.size ≤ 140737488351232

theorem rpCells_open {k : Nat} {w : World} {ev : Value} {x : PairD} (h : NewR k w (fun u => PairV u u.heap.size ev x)) : ∃ lv : Value, ev = (.agg #[.string x.name, .string x.value, .int .i64 x.version]) ∧ NewR k w (fun u => rpCellsW u (x, lv)) := by
  exact ⟨.nilIface, h.now.1, NewR.of _ _ fun _ => h.now.2⟩

theorem rpCells_reads {u : World} {base g n : Nat} {rs : List (PairD × Value)} (h : u.ownsRow base 89 3 (.slice (some ⟨g, 0, none⟩) n n) n (flatG rpCells rs)) (hn : rs.length = n) (hsm : n ≤ 1000) (hW : ∀ p ∈ rs, rpCellsW u p) : PairsR u u.heap.size (.slice (some ⟨g, 0, none⟩) n n) (rs.map (·.1)) := by
  subst hn
  have hl : (rs.map (·.1)).length = rs.length := List.length_map _
  refine ⟨some ⟨g, 0, none⟩, rs.length, by rw [hl], by omega, by omega, (by intro h; cases h), fun _ => ⟨g, 0, rfl, (h.lt g rfl).2, fun i x hx => ?_⟩⟩
  rw [List.getElem?_map] at hx
  obtain ⟨p, hp, rfl⟩ := Option.map_eq_some_iff.1 hx
  have hi : i < rs.length := (List.getElem?_eq_some_iff.1 hp).1
  have hw := hW p (List.mem_of_getElem? hp)
  have key : ∀ j, j < 3 → u.cell? ⟨g, 0 + i * 3 + j, none⟩ = (rpCells p)[j]? := fun j hj => by
    rw [Nat.zero_add, h.cellAt (i * 3 + j) (by omega)]
    have := flatG_at rpCells_len hp j hj
    simpa using this
  exact ⟨by simpa [rpCells] using key 0 (by omega), by simpa [rpCells] using key 1 (by omega), by simpa [rpCells] using key 2 (by omega), hw.1, hw.2, TagB.row h⟩

theorem Tryz.rinfoPair : (Tryz.prog.info? 89).map (fun i => (i.zero, i.size, i.bytes)) = some (some (.agg #[.string ⟨#[]⟩, .string ⟨#[]⟩, .int .i64 0]), 3, 40) := by kernel_rfl

set_option maxRecDepth 100000 in
set_option maxHeartbeats 1600000 in
theorem rlistPair (cl : Nat) (f : ByteArray × Int → PairD × ByteArray × Int) (most : Int) (hm0 : 0 ≤ most) (hm1 : most ≤ 1000) (hc : RdC cl f PairV) (hsh : Shrinks f) (eg : ∀ args w, (callFunc cl args).run Tryz.prog w = .ok (.enter cl args) w)
    (rb : Nat) (r : ByteArray × Int) (w : World) (hs : r.1.size ≤ 140737488351232) (hr : IsRs rb r w) :
    Calls Tryz.prog 165 #[.pointer (some ⟨rb, 0, none⟩), .int .i64 most, .func (.func cl) #[.pointer (some ⟨rb, 0, none⟩)] #[]] w fun e w' => ∃ v, e = .returned v ∧ IsRs rb (listR most f r).2 w' ∧ NewR w.heap.size w' (fun u => PairsR u u.heap.size v (listR most f r).1) ∧ TouchG w w' (fun k => k = rb) := by
  have CN := ghid (rsNumber_any rb r w hs hr)
  have hbd := stepN_bounds r
  have hsq := stepN_shrinks r
  have hlr := hr.lt
  unfold listR
  by_cases hgt : most < (stepN r).1
  · rw [stepM_gt hm0 hgt]
    obtain ⟨mn, hmn⟩ : ∃ mn, mn = (stepN r).1 := ⟨_, rfl⟩
    obtain ⟨q, hq⟩ : ∃ q, q = (stepN r).2 := ⟨_, rfl⟩
    rw [← hmn] at CN hgt
    rw [← hq] at CN ⊢
    clear hbd hmn hq hc hr hsh
    go_enter Tryz.func165, Tryz.ntmps165
    go_wp2_with fail
    refine CN.out.mono ?_
    rintro e w1 ⟨v1, rfl, hr1, hn1, ht1⟩
    obtain rfl : v1 = .int .i64 mn := hn1.now
    have c1 : w1.cell? ⟨rb, 1, none⟩ = some (.int .i64 q.2) := cell_of_row w1 rb 1 _ _ _ hr1
    have f1 : w1.frozen? ⟨rb, 1, none⟩ = false := frozen_of_row w1 rb 1 _ _ hr1
    have HR1 := ghid hr1
    have HT1 := ghid ht1
    clear hr1 hn1 ht1 CN
    go_wp2
    go_ret
    exact ⟨_, rfl, rs_set HR1.out 1, NewR.of _ _ fun u => ⟨none, 0, rfl, Nat.le_refl _, by simp [rowR], fun _ => rfl, fun h => absurd h (by simp [rowR])⟩, HT1.out.setCell (a := ⟨rb, 1, none⟩) (.inl rfl) _⟩
  · rw [stepM_le (by omega)]
    obtain ⟨n, hn⟩ : ∃ n : Nat, (stepN r).1 = n := ⟨(stepN r).1.toNat, by omega⟩
    obtain ⟨q, hq⟩ : ∃ q, q = (stepN r).2 := ⟨_, rfl⟩
    have hqs : q.1.size ≤ 140737488351232 := by rw [hq]; omega
    rw [hn] at CN hgt ⊢
    rw [← hq] at CN ⊢
    rw [Int.toNat_natCast]
    have HC := ghid hc
    have HSH := ghid hsh
    obtain ⟨i0, hi, hz0, hz1, hz2⟩ := info_parts Tryz.rinfoPair
    clear hbd hn hq hc hr hsh hsq
    go_enter Tryz.func165, Tryz.ntmps165
    go_wp2_with fail
    refine CN.out.mono ?_
    rintro e w1 ⟨v1, rfl, hr1, hn1, ht1⟩
    obtain rfl : v1 = .int .i64 n := hn1.now
    have HR1 := ghid hr1
    have HT1 := ghid ht1
    have hz1w := ht1.size
    clear hr1 hn1 ht1 CN
    go_wp2_with (at_make; refine wpList_make_full _ rfl (.tmp 18) (.tmp 18) 45 rfl w1.heap.size 89 i0 _ 3 Tryz.underlying45 hi hz0 hz1 .i64 .i64 _ _ n rfl rfl rfl rfl (by rw [hz2]; omega) (by unfold maxLen; omega) (Nat.le_refl _) ?_)
    intro w2 hown2 hgrow2
    have hb2 : Below w1.heap.size w1 w2 := (Below.refl _ _).grown hgrow2 (Nat.le_refl _) (fun k hk => by cases hk)
    obtain ⟨Z, HO2, hZl⟩ : ∃ Z : List Value, Hid (w2.ownsRow w1.heap.size 89 3 (.slice (some ⟨w1.heap.size, 0, none⟩) n n) n Z) ∧ Z.length = n * 3 := ⟨_, hown2, by simp [size_madeCells]⟩
    have HR2 := ghid (HR1.out.below hb2)
    have HT2 := ghid (HT1.out.trans (TouchG.of_below hb2 (Nat.le_refl _) (fun k => k = rb)) (fun _ _ h => h))
    obtain ⟨g, hg⟩ : ∃ g, g = w1.heap.size := ⟨_, rfl⟩
    rw [← hg] at HO2 ⊢
    have hwg : w.heap.size ≤ g := by omega
    clear hown2 hgrow2 hi hz0 hz1 hz2 hb2 HR1 HT1 hg hz1w
    go_wp2_with fail
    go_loopw [22] (fun i wr => ∃ (k : Nat) (rs : List (PairD × Value)) (Z : List Value), k ≤ n ∧ i = .int .i64 k ∧ rs.map (·.1) = (rowR f k q).1 ∧ IsRs rb (rowR f k q).2 wr ∧ Z.length = (n - k) * 3 ∧
        wr.ownsRow g 89 3 (.slice (some ⟨g, 0, none⟩) n n) n (flatG rpCells rs ++ Z) ∧ (∀ p ∈ rs, NewR (g + 1) wr (fun u => rpCellsW u p)) ∧ TouchG w wr (fun k => k = rb))
      (fun i _ => n - (intOf i).toNat)
    case atStart => exact ⟨0, [], Z, Nat.zero_le _, rfl, rfl, HR2.out, by simpa using hZl, by simpa [flatG] using HO2.out, fun p hp => absurd hp (by simp), HT2.out⟩
    case round =>
      clear HO2 HR2 HT2
      obtain ⟨k, rs, Z, hk, rfl, hrs, hrd, hZl, hown, hnew, htw⟩ := hrel
      have hrl : rs.length = k := by have := congrArg List.length hrs; rw [List.length_map, rowR_length] at this; exact this
      have hkl : (flatG rpCells rs).length = k * 3 := by rw [flatG_length rpCells_len, hrl]
      have hgr : g < wr.heap.size := (hown.lt _ rfl).2
      have hrg : rb ≠ g := by omega
      by_cases hlt : k < n
      · obtain ⟨z0, z1, z2, Z', hZe⟩ := rof3 Z (by omega)
        subst hZe
        have CR := ghid (HC.out rb (rowR f k q).2 wr (Nat.le_trans (rowR_shrinks HSH.out k q) hqs) hrd)
        have HRS := ghid (rowR_snoc f k q)
        obtain ⟨x, hx⟩ : ∃ x, x = (f (rowR f k q).2).1 := ⟨_, rfl⟩
        obtain ⟨q', hq'⟩ : ∃ q', q' = (f (rowR f k q).2).2 := ⟨_, rfl⟩
        rw [← hx, ← hq'] at CR HRS
        have HO := ghid hown
        have HNW := ghid hnew
        have HTW := ghid htw
        have HKL := ghid hkl
        have HIR := ghid hrs
        clear hrs hown hnew htw hkl hrd hx hq' hqs
        go_wp2_with fail
        refine CR.out.mono ?_
        rintro e w3 ⟨ev, rfl, hr3, hn3, ht3⟩
        obtain ⟨lv, rfl, hw3⟩ := rpCells_open hn3
        have ho3 : w3.ownsRow g 89 3 (.slice (some ⟨g, 0, none⟩) n n) n (flatG rpCells rs ++ z0 :: z1 :: z2 :: Z') := grow_keep HO.out fun b hb => by
          have hbg : b = g := by simpa [Value.ownBlock] using hb.symm
          rw [hbg]
          exact ht3.block g hgr (fun e => hrg e.symm)
        have y : ∀ j z, (z0 :: z1 :: z2 :: Z')[j]? = some z → j < 3 → w3.cell? ⟨g, k * 3 + j, none⟩ = some z := fun j z hz hj => by
          rw [ho3.cellAt (k * 3 + j) (by omega), List.getElem?_append_right (by have := HKL.out; omega), HKL.out, show k * 3 + j - k * 3 = j by omega]
          exact hz
        have y0 := y 0 z0 rfl (by omega)
        have y1 := y 1 z1 rfl (by omega)
        have y2 := y 2 z2 rfl (by omega)
        rw [Nat.add_zero] at y0
        have yf : ∀ j, w3.frozen? ⟨g, j, none⟩ = false := fun j => ho3.frozenAt j
        have HO3 := ghid (rput3 ho3 HKL.out (.string x.name) (.string x.value) (.int .i64 x.version))
        have hz3 := ht3.size
        have HT3 := ghid (rtouch3 (k := k) (HTW.out.trans ht3 (fun _ _ h => h)) (.inr hwg) (.string x.name) (.string x.value) (.int .i64 x.version))
        have HT4 := ghid (rtouch3 (k := k) (TouchG.mk ht3.os ht3.tape ht3.output ht3.size (fun i hi hn => ht3.block i hi (fun e => hn (.inl e))) : TouchG wr w3 (fun i => i = rb ∨ i = g)) (.inl (.inr rfl)) (.string x.name) (.string x.value) (.int .i64 x.version))
        have HT5 := ghid (rtouch3 (k := k) (TouchG.refl w3 (fun i => i = g)) (.inl rfl) (.string x.name) (.string x.value) (.int .i64 x.version))
        have HR3 := ghid hr3
        have HW3 := ghid hw3
        clear ho3 y hr3 hn3 ht3 hw3 CR
        go_wp2
        go_roundw
        case rel =>
          refine ⟨k + 1, rs ++ [(x, lv)], Z', by omega, by go_num, ?_, ?_, by simp at hZl; omega, ?_, ?_, HT3.out⟩
          · rw [HRS.out, List.map_append, HIR.out]; rfl
          · rw [HRS.out]
            exact (HT5.out.block rb (by have := (Array.getElem?_eq_some_iff.1 HR3.out).1; exact this) hrg).trans HR3.out
          · have := HO3.out
            rw [flatG_snoc, List.append_assoc]
            exact this
          · intro p hp
            rcases List.mem_append.1 hp with hp | hp
            · exact (HNW.out p hp).touch HT4.out (fun i _ h => by rcases h with h | h <;> omega)
            · obtain rfl : p = (x, lv) := by simpa using hp
              exact ((HW3.out).touch HT5.out (fun i _ h => by omega)).mono (by omega)
        case measure => simp [intOf]; omega
      · have hke : k = n := by omega
        subst hke
        have hZ0 : Z = [] := List.eq_nil_of_length_eq_zero (by omega)
        subst hZ0
        rw [List.append_nil] at hown
        have HO := ghid hown
        have HNW := ghid hnew
        have HTW := ghid htw
        have HIR := ghid hrs
        have HRD := ghid hrd
        clear hrs hown hnew htw hkl hrd
        go_wp2
        go_ret
        refine ⟨_, rfl, HRD.out, fun u hu => ?_, HTW.out⟩
        rw [← HIR.out]
        refine rpCells_reads (grow_keep HO.out fun b hb => ?_) hrl (by omega) (fun p hp => (HNW.out p hp).mono (by omega) u hu)
        have hbg : b = g := by simpa [Value.ownBlock] using hb.symm
        rw [hbg]
        exact hu.block g hgr (by omega)

def rsCells (p : SessD × Value) : List Value := [.int .i64 p.1.client, .int .i64 p.1.id, .int .i64 p.1.acked, .int .i64 p.1.last, p.2]

theorem rsCells_len (p : SessD × Value) : (rsCells p).length = 5 := rfl

def rsCellsW (u : World) (p : SessD × Value) : Prop := KeptsR u u.heap.size p.2 p.1.replies

theorem rsCells_open {k : Nat} {w : World} {ev : Value} {x : SessD} (h : NewR k w (fun u => SessV u u.heap.size ev x)) : ∃ lv : Value, ev = (.agg #[.int .i64 x.client, .int .i64 x.id, .int .i64 x.acked, .int .i64 x.last, lv]) ∧ NewR k w (fun u => rsCellsW u (x, lv)) := by
  obtain ⟨lv, hev, -⟩ := h.now
  refine ⟨lv, hev, fun u hu => ?_⟩
  obtain ⟨lv', hev', hl'⟩ := h u hu
  rw [hev] at hev'
  simp at hev'
  subst hev'
  exact hl'

theorem rsCells_reads {u : World} {base g n : Nat} {rs : List (SessD × Value)} (h : u.ownsRow base 121 5 (.slice (some ⟨g, 0, none⟩) n n) n (flatG rsCells rs)) (hn : rs.length = n) (hsm : n ≤ 1000) (hW : ∀ p ∈ rs, rsCellsW u p) : SessR u u.heap.size (.slice (some ⟨g, 0, none⟩) n n) (rs.map (·.1)) := by
  subst hn
  have hl : (rs.map (·.1)).length = rs.length := List.length_map _
  refine ⟨some ⟨g, 0, none⟩, rs.length, by rw [hl], by omega, by omega, (by intro h; cases h), fun _ => ⟨g, 0, rfl, (h.lt g rfl).2, fun i x hx => ?_⟩⟩
  rw [List.getElem?_map] at hx
  obtain ⟨p, hp, rfl⟩ := Option.map_eq_some_iff.1 hx
  have hi : i < rs.length := (List.getElem?_eq_some_iff.1 hp).1
  have hw := hW p (List.mem_of_getElem? hp)
  have key : ∀ j, j < 5 → u.cell? ⟨g, 0 + i * 5 + j, none⟩ = (rsCells p)[j]? := fun j hj => by
    rw [Nat.zero_add, h.cellAt (i * 5 + j) (by omega)]
    have := flatG_at rsCells_len hp j hj
    simpa using this
  exact ⟨p.2, by simpa [rsCells] using key 0 (by omega), by simpa [rsCells] using key 1 (by omega), by simpa [rsCells] using key 2 (by omega), by simpa [rsCells] using key 3 (by omega), by simpa [rsCells] using key 4 (by omega), hw, TagB.row h⟩

theorem Tryz.rinfoSess : (Tryz.prog.info? 121).map (fun i => (i.zero, i.size, i.bytes)) = some (some (.agg #[.int .i64 0, .int .i64 0, .int .i64 0, .int .i64 0, .slice none 0 0]), 5, 56) := by kernel_rfl

set_option maxRecDepth 100000 in
set_option maxHeartbeats 1600000 in
theorem rlistSess (cl : Nat) (f : ByteArray × Int → SessD × ByteArray × Int) (most : Int) (hm0 : 0 ≤ most) (hm1 : most ≤ 1000) (hc : RdC cl f SessV) (hsh : Shrinks f) (eg : ∀ args w, (callFunc cl args).run Tryz.prog w = .ok (.enter cl args) w)
    (rb : Nat) (r : ByteArray × Int) (w : World) (hs : r.1.size ≤ 140737488351232) (hr : IsRs rb r w) :
    Calls Tryz.prog 167 #[.pointer (some ⟨rb, 0, none⟩), .int .i64 most, .func (.func cl) #[.pointer (some ⟨rb, 0, none⟩)] #[]] w fun e w' => ∃ v, e = .returned v ∧ IsRs rb (listR most f r).2 w' ∧ NewR w.heap.size w' (fun u => SessR u u.heap.size v (listR most f r).1) ∧ TouchG w w' (fun k => k = rb) := by
  have CN := ghid (rsNumber_any rb r w hs hr)
  have hbd := stepN_bounds r
  have hsq := stepN_shrinks r
  have hlr := hr.lt
  unfold listR
  by_cases hgt : most < (stepN r).1
  · rw [stepM_gt hm0 hgt]
    obtain ⟨mn, hmn⟩ : ∃ mn, mn = (stepN r).1 := ⟨_, rfl⟩
    obtain ⟨q, hq⟩ : ∃ q, q = (stepN r).2 := ⟨_, rfl⟩
    rw [← hmn] at CN hgt
    rw [← hq] at CN ⊢
    clear hbd hmn hq hc hr hsh
    go_enter Tryz.func167, Tryz.ntmps167
    go_wp2_with fail
    refine CN.out.mono ?_
    rintro e w1 ⟨v1, rfl, hr1, hn1, ht1⟩
    obtain rfl : v1 = .int .i64 mn := hn1.now
    have c1 : w1.cell? ⟨rb, 1, none⟩ = some (.int .i64 q.2) := cell_of_row w1 rb 1 _ _ _ hr1
    have f1 : w1.frozen? ⟨rb, 1, none⟩ = false := frozen_of_row w1 rb 1 _ _ hr1
    have HR1 := ghid hr1
    have HT1 := ghid ht1
    clear hr1 hn1 ht1 CN
    go_wp2
    go_ret
    exact ⟨_, rfl, rs_set HR1.out 1, NewR.of _ _ fun u => ⟨none, 0, rfl, Nat.le_refl _, by simp [rowR], fun _ => rfl, fun h => absurd h (by simp [rowR])⟩, HT1.out.setCell (a := ⟨rb, 1, none⟩) (.inl rfl) _⟩
  · rw [stepM_le (by omega)]
    obtain ⟨n, hn⟩ : ∃ n : Nat, (stepN r).1 = n := ⟨(stepN r).1.toNat, by omega⟩
    obtain ⟨q, hq⟩ : ∃ q, q = (stepN r).2 := ⟨_, rfl⟩
    have hqs : q.1.size ≤ 140737488351232 := by rw [hq]; omega
    rw [hn] at CN hgt ⊢
    rw [← hq] at CN ⊢
    rw [Int.toNat_natCast]
    have HC := ghid hc
    have HSH := ghid hsh
    obtain ⟨i0, hi, hz0, hz1, hz2⟩ := info_parts Tryz.rinfoSess
    clear hbd hn hq hc hr hsh hsq
    go_enter Tryz.func167, Tryz.ntmps167
    go_wp2_with fail
    refine CN.out.mono ?_
    rintro e w1 ⟨v1, rfl, hr1, hn1, ht1⟩
    obtain rfl : v1 = .int .i64 n := hn1.now
    have HR1 := ghid hr1
    have HT1 := ghid ht1
    have hz1w := ht1.size
    clear hr1 hn1 ht1 CN
    go_wp2_with (at_make; refine wpList_make_full _ rfl (.tmp 18) (.tmp 18) 46 rfl w1.heap.size 121 i0 _ 5 Tryz.underlying46 hi hz0 hz1 .i64 .i64 _ _ n rfl rfl rfl rfl (by rw [hz2]; omega) (by unfold maxLen; omega) (Nat.le_refl _) ?_)
    intro w2 hown2 hgrow2
    have hb2 : Below w1.heap.size w1 w2 := (Below.refl _ _).grown hgrow2 (Nat.le_refl _) (fun k hk => by cases hk)
    obtain ⟨Z, HO2, hZl⟩ : ∃ Z : List Value, Hid (w2.ownsRow w1.heap.size 121 5 (.slice (some ⟨w1.heap.size, 0, none⟩) n n) n Z) ∧ Z.length = n * 5 := ⟨_, hown2, by simp [size_madeCells]⟩
    have HR2 := ghid (HR1.out.below hb2)
    have HT2 := ghid (HT1.out.trans (TouchG.of_below hb2 (Nat.le_refl _) (fun k => k = rb)) (fun _ _ h => h))
    obtain ⟨g, hg⟩ : ∃ g, g = w1.heap.size := ⟨_, rfl⟩
    rw [← hg] at HO2 ⊢
    have hwg : w.heap.size ≤ g := by omega
    clear hown2 hgrow2 hi hz0 hz1 hz2 hb2 HR1 HT1 hg hz1w
    go_wp2_with fail
    go_loopw [22] (fun i wr => ∃ (k : Nat) (rs : List (SessD × Value)) (Z : List Value), k ≤ n ∧ i = .int .i64 k ∧ rs.map (·.1) = (rowR f k q).1 ∧ IsRs rb (rowR f k q).2 wr ∧ Z.length = (n - k) * 5 ∧
        wr.ownsRow g 121 5 (.slice (some ⟨g, 0, none⟩) n n) n (flatG rsCells rs ++ Z) ∧ (∀ p ∈ rs, NewR (g + 1) wr (fun u => rsCellsW u p)) ∧ TouchG w wr (fun k => k = rb))
      (fun i _ => n - (intOf i).toNat)
    case atStart => exact ⟨0, [], Z, Nat.zero_le _, rfl, rfl, HR2.out, by simpa using hZl, by simpa [flatG] using HO2.out, fun p hp => absurd hp (by simp), HT2.out⟩
    case round =>
      clear HO2 HR2 HT2
      obtain ⟨k, rs, Z, hk, rfl, hrs, hrd, hZl, hown, hnew, htw⟩ := hrel
      have hrl : rs.length = k := by have := congrArg List.length hrs; rw [List.length_map, rowR_length] at this; exact this
      have hkl : (flatG rsCells rs).length = k * 5 := by rw [flatG_length rsCells_len, hrl]
      have hgr : g < wr.heap.size := (hown.lt _ rfl).2
      have hrg : rb ≠ g := by omega
      by_cases hlt : k < n
      · obtain ⟨z0, z1, z2, z3, z4, Z', hZe⟩ := rof5 Z (by omega)
        subst hZe
        have CR := ghid (HC.out rb (rowR f k q).2 wr (Nat.le_trans (rowR_shrinks HSH.out k q) hqs) hrd)
        have HRS := ghid (rowR_snoc f k q)
        obtain ⟨x, hx⟩ : ∃ x, x = (f (rowR f k q).2).1 := ⟨_, rfl⟩
        obtain ⟨q', hq'⟩ : ∃ q', q' = (f (rowR f k q).2).2 := ⟨_, rfl⟩
        rw [← hx, ← hq'] at CR HRS
        have HO := ghid hown
        have HNW := ghid hnew
        have HTW := ghid htw
        have HKL := ghid hkl
        have HIR := ghid hrs
        clear hrs hown hnew htw hkl hrd hx hq' hqs
        go_wp2_with fail
        refine CR.out.mono ?_
        rintro e w3 ⟨ev, rfl, hr3, hn3, ht3⟩
        obtain ⟨lv, rfl, hw3⟩ := rsCells_open hn3
        obtain ⟨lo, lc, hlv, -⟩ := id hw3.now
        simp only at hlv
        subst hlv
        have ho3 : w3.ownsRow g 121 5 (.slice (some ⟨g, 0, none⟩) n n) n (flatG rsCells rs ++ z0 :: z1 :: z2 :: z3 :: z4 :: Z') := grow_keep HO.out fun b hb => by
          have hbg : b = g := by simpa [Value.ownBlock] using hb.symm
          rw [hbg]
          exact ht3.block g hgr (fun e => hrg e.symm)
        have y : ∀ j z, (z0 :: z1 :: z2 :: z3 :: z4 :: Z')[j]? = some z → j < 5 → w3.cell? ⟨g, k * 5 + j, none⟩ = some z := fun j z hz hj => by
          rw [ho3.cellAt (k * 5 + j) (by omega), List.getElem?_append_right (by have := HKL.out; omega), HKL.out, show k * 5 + j - k * 5 = j by omega]
          exact hz
        have y0 := y 0 z0 rfl (by omega)
        have y1 := y 1 z1 rfl (by omega)
        have y2 := y 2 z2 rfl (by omega)
        have y3 := y 3 z3 rfl (by omega)
        have y4 := y 4 z4 rfl (by omega)
        rw [Nat.add_zero] at y0
        have yf : ∀ j, w3.frozen? ⟨g, j, none⟩ = false := fun j => ho3.frozenAt j
        have HO3 := ghid (rput5 ho3 HKL.out (.int .i64 x.client) (.int .i64 x.id) (.int .i64 x.acked) (.int .i64 x.last) (.slice lo x.replies.length lc))
        have hz3 := ht3.size
        have HT3 := ghid (rtouch5 (k := k) (HTW.out.trans ht3 (fun _ _ h => h)) (.inr hwg) (.int .i64 x.client) (.int .i64 x.id) (.int .i64 x.acked) (.int .i64 x.last) (.slice lo x.replies.length lc))
        have HT4 := ghid (rtouch5 (k := k) (TouchG.mk ht3.os ht3.tape ht3.output ht3.size (fun i hi hn => ht3.block i hi (fun e => hn (.inl e))) : TouchG wr w3 (fun i => i = rb ∨ i = g)) (.inl (.inr rfl)) (.int .i64 x.client) (.int .i64 x.id) (.int .i64 x.acked) (.int .i64 x.last) (.slice lo x.replies.length lc))
        have HT5 := ghid (rtouch5 (k := k) (TouchG.refl w3 (fun i => i = g)) (.inl rfl) (.int .i64 x.client) (.int .i64 x.id) (.int .i64 x.acked) (.int .i64 x.last) (.slice lo x.replies.length lc))
        have HR3 := ghid hr3
        have HW3 := ghid hw3
        clear ho3 y hr3 hn3 ht3 hw3 CR
        go_wp2
        go_roundw
        case rel =>
          refine ⟨k + 1, rs ++ [(x, .slice lo x.replies.length lc)], Z', by omega, by go_num, ?_, ?_, by simp at hZl; omega, ?_, ?_, HT3.out⟩
          · rw [HRS.out, List.map_append, HIR.out]; rfl
          · rw [HRS.out]
            exact (HT5.out.block rb (by have := (Array.getElem?_eq_some_iff.1 HR3.out).1; exact this) hrg).trans HR3.out
          · have := HO3.out
            rw [flatG_snoc, List.append_assoc]
            exact this
          · intro p hp
            rcases List.mem_append.1 hp with hp | hp
            · exact (HNW.out p hp).touch HT4.out (fun i _ h => by rcases h with h | h <;> omega)
            · obtain rfl : p = (x, .slice lo x.replies.length lc) := by simpa using hp
              exact ((HW3.out).touch HT5.out (fun i _ h => by omega)).mono (by omega)
        case measure => simp [intOf]; omega
      · have hke : k = n := by omega
        subst hke
        have hZ0 : Z = [] := List.eq_nil_of_length_eq_zero (by omega)
        subst hZ0
        rw [List.append_nil] at hown
        have HO := ghid hown
        have HNW := ghid hnew
        have HTW := ghid htw
        have HIR := ghid hrs
        have HRD := ghid hrd
        clear hrs hown hnew htw hkl hrd
        go_wp2
        go_ret
        refine ⟨_, rfl, HRD.out, fun u hu => ?_, HTW.out⟩
        rw [← HIR.out]
        refine rsCells_reads (grow_keep HO.out fun b hb => ?_) hrl (by omega) (fun p hp => (HNW.out p hp).mono (by omega) u hu)
        have hbg : b = g := by simpa [Value.ownBlock] using hb.symm
        rw [hbg]
        exact hu.block g hgr (by omega)

end Go.Proofs.YtijilhbdbeajjaaGreatDoor

namespace Go.Proofs.YtijilhbdbeajjaaGreatDoor

open Go.RowKit

def replyR (r : ByteArray × Int) : (Int × Int × ByteArray) × ByteArray × Int :=
  let a := stepN r
  let b := stepN a.2
  let c := stepT b.2
  ((a.1, b.1, c.1), c.2)

def ReplyV (_ : World) (_ : Nat) (ev : Value) (x : Int × Int × ByteArray) : Prop := ev = .agg #[.int .i64 x.1, .int .i64 x.2.1, .string x.2.2] ∧ x.2.2.size ≤ 140737488351232

def StateV (w : World) (B : Nat) (ev : Value) (s : StateD) : Prop := StateR w B ev s

theorem keptR_shrinks : Shrinks keptR := fun r => Nat.le_trans (stepT_shrinks (stepN (stepN (stepN r).2).2).2) (Nat.le_trans (stepN_shrinks (stepN (stepN r).2).2) (Nat.le_trans (stepN_shrinks (stepN r).2) (stepN_shrinks r)))

theorem pairR_shrinks : Shrinks pairR := fun r => Nat.le_trans (stepN_shrinks (stepT (stepT r).2).2) (Nat.le_trans (stepT_shrinks (stepT r).2) (stepT_shrinks r))

theorem lockR_shrinks : Shrinks lockR := fun r => Nat.le_trans (listR_shrinks stepN_shrinks 3 (by decide) (stepN (stepN (stepT r).2).2).2) (Nat.le_trans (stepN_shrinks (stepN (stepT r).2).2) (Nat.le_trans (stepN_shrinks (stepT r).2) (stepT_shrinks r)))

theorem sessR_shrinks : Shrinks sessR := fun r => Nat.le_trans (listR_shrinks keptR_shrinks 4 (by decide) (stepN (stepN (stepN (stepN r).2).2).2).2) (Nat.le_trans (stepN_shrinks (stepN (stepN (stepN r).2).2).2) (Nat.le_trans (stepN_shrinks (stepN (stepN r).2).2) (Nat.le_trans (stepN_shrinks (stepN r).2) (stepN_shrinks r))))

theorem rs_touch {rb : Nat} {r : ByteArray × Int} {w w' : World} (h : IsRs rb r w) {bx : Nat} (ht : TouchG w w' (fun k => k = bx)) (hne : rb ≠ bx) : IsRs rb r w' := (ht.block rb h.lt hne).trans h

theorem rs_number_enters : ∀ args w, (callFunc 162 args).run Tryz.prog w = .ok (.enter 162 args) w := enters_of Tryz.func162 (by decide) rfl

theorem rs_kept_enters : ∀ args w, (callFunc 212 args).run Tryz.prog w = .ok (.enter 212 args) w := enters_of Tryz.func212 (by decide) rfl

theorem rs_pair_enters : ∀ args w, (callFunc 166 args).run Tryz.prog w = .ok (.enter 166 args) w := enters_of Tryz.func166 (by decide) rfl

theorem rs_lock_enters : ∀ args w, (callFunc 164 args).run Tryz.prog w = .ok (.enter 164 args) w := enters_of Tryz.func164 (by decide) rfl

theorem rs_session_enters : ∀ args w, (callFunc 168 args).run Tryz.prog w = .ok (.enter 168 args) w := enters_of Tryz.func168 (by decide) rfl

theorem rtouchz3 {w0 w : World} {S : Nat → Prop} (h : TouchG w0 w S) {bx : Nat} (hg : S bx ∨ w0.heap.size ≤ bx) (a0 a1 a2 : Value) : TouchG w0 (((w.setCell ⟨bx, 0, none⟩ a0).setCell ⟨bx, 1, none⟩ a1).setCell ⟨bx, 2, none⟩ a2) S :=
  ((h.setCell (a := ⟨bx, 0, none⟩) hg a0).setCell (a := ⟨bx, 1, none⟩) hg a1).setCell (a := ⟨bx, 2, none⟩) hg a2

theorem rtouchz4 {w0 w : World} {S : Nat → Prop} (h : TouchG w0 w S) {bx : Nat} (hg : S bx ∨ w0.heap.size ≤ bx) (a0 a1 a2 a3 : Value) : TouchG w0 ((((w.setCell ⟨bx, 0, none⟩ a0).setCell ⟨bx, 1, none⟩ a1).setCell ⟨bx, 2, none⟩ a2).setCell ⟨bx, 3, none⟩ a3) S :=
  (((h.setCell (a := ⟨bx, 0, none⟩) hg a0).setCell (a := ⟨bx, 1, none⟩) hg a1).setCell (a := ⟨bx, 2, none⟩) hg a2).setCell (a := ⟨bx, 3, none⟩) hg a3

theorem rtouchz5 {w0 w : World} {S : Nat → Prop} (h : TouchG w0 w S) {bx : Nat} (hg : S bx ∨ w0.heap.size ≤ bx) (a0 a1 a2 a3 a4 : Value) : TouchG w0 (((((w.setCell ⟨bx, 0, none⟩ a0).setCell ⟨bx, 1, none⟩ a1).setCell ⟨bx, 2, none⟩ a2).setCell ⟨bx, 3, none⟩ a3).setCell ⟨bx, 4, none⟩ a4) S :=
  ((((h.setCell (a := ⟨bx, 0, none⟩) hg a0).setCell (a := ⟨bx, 1, none⟩) hg a1).setCell (a := ⟨bx, 2, none⟩) hg a2).setCell (a := ⟨bx, 3, none⟩) hg a3).setCell (a := ⟨bx, 4, none⟩) hg a4

set_option maxRecDepth 100000 in
set_option maxHeartbeats 1600000 in
theorem rs_reply : RdC 240 replyR ReplyV := by
  intro rb r0 w hs0 hr
  have hlr := hr.lt
  obtain ⟨x0, hx0⟩ : ∃ x, x = (stepN r0).1 := ⟨_, rfl⟩
  obtain ⟨r1, hr1⟩ : ∃ r, r = (stepN r0).2 := ⟨_, rfl⟩
  have hs1 : r1.1.size ≤ 140737488351232 := by rw [hr1]; exact Nat.le_trans (stepN_shrinks r0) hs0
  obtain ⟨x1, hx1⟩ : ∃ x, x = (stepN r1).1 := ⟨_, rfl⟩
  obtain ⟨r2, hr2⟩ : ∃ r, r = (stepN r1).2 := ⟨_, rfl⟩
  have hs2 : r2.1.size ≤ 140737488351232 := by rw [hr2]; exact Nat.le_trans (stepN_shrinks r1) hs1
  obtain ⟨x2, hx2⟩ : ∃ x, x = (stepT r2).1 := ⟨_, rfl⟩
  obtain ⟨r3, hr3⟩ : ∃ r, r = (stepT r2).2 := ⟨_, rfl⟩
  have hfin : replyR r0 = ((x0, x1, x2), r3) := by subst hx2 hr3 hx1 hr2 hx0 hr1; rfl
  rw [hfin]
  have hba : Below w.heap.size w (w.alloc (.cells #[.int .i64 0, .int .i64 0, .string ⟨#[]⟩] 73)) := (Below.refl _ _).alloc (Nat.le_refl _) _
  have HX0 : Hid ((w.alloc (.cells #[.int .i64 0, .int .i64 0, .string ⟨#[]⟩] 73)).heap[w.heap.size]? = some (.cells #[.int .i64 0, .int .i64 0, .string ⟨#[]⟩] 73 (0, 0))) := heap_alloc_new w _
  have hw0 : (w.alloc (.cells #[.int .i64 0, .int .i64 0, .string ⟨#[]⟩] 73)).heap.size = w.heap.size + 1 := by simp
  have HR0 := ghid (hr.below hba)
  have HT0 := ghid (TouchG.of_below hba (Nat.le_refl _) (fun k => k = rb))
  have hne : rb ≠ w.heap.size := by omega
  have CC0 : Hid (∀ u, IsRs rb r0 u → Calls Tryz.prog 162 #[.pointer (some ⟨rb, 0, none⟩)] u fun e w' => ∃ v, e = .returned v ∧ IsRs rb r1 w' ∧ NewR u.heap.size w' (fun u => IntV u u.heap.size v x0) ∧ TouchG u w' (fun k => k = rb)) := by unfold Hid; rw [hr1, hx0]; exact fun u hu => rsNumber_any rb r0 u hs0 hu
  have CC1 : Hid (∀ u, IsRs rb r1 u → Calls Tryz.prog 162 #[.pointer (some ⟨rb, 0, none⟩)] u fun e w' => ∃ v, e = .returned v ∧ IsRs rb r2 w' ∧ NewR u.heap.size w' (fun u => IntV u u.heap.size v x1) ∧ TouchG u w' (fun k => k = rb)) := by unfold Hid; rw [hr2, hx1]; exact fun u hu => rsNumber_any rb r1 u hs1 hu
  have CC2 : Hid (∀ u, IsRs rb r2 u → Calls Tryz.prog 209 #[.pointer (some ⟨rb, 0, none⟩)] u fun e w' => ∃ v, e = .returned v ∧ IsRs rb r3 w' ∧ NewR u.heap.size w' (fun u => TextV u u.heap.size v x2) ∧ TouchG u w' (fun k => k = rb)) := by unfold Hid; rw [hr3, hx2]; exact fun u hu => rsText_any rb r2 u hs2 hu
  clear hx0 hr1 hx1 hr2 hx2 hr3 hs0 hs1 hs2 hfin hr hba
  go_enter Tryz.func240, Tryz.ntmps240
  go_wp2_with fail
  refine (CC0.out _ HR0.out).mono ?_
  rintro e w1 ⟨v0, rfl, hr', hn', ht'⟩
  obtain rfl : v0 = .int .i64 x0 := hn'.now
  have hz1 := ht'.size
  have HX1 : Hid (w1.heap[w.heap.size]? = some (.cells #[.int .i64 0, .int .i64 0, .string ⟨#[]⟩] 73 (0, 0))) := (ht'.block _ (by omega) (fun e => hne e.symm)).trans HX0.out
  have HR1 := ghid hr'
  have HT1 := ghid (HT0.out.trans ht' (fun _ _ h => h))
  clear hr' hn' ht'
  go_wp2_with fail
  refine (CC1.out _ HR1.out).mono ?_
  rintro e w2 ⟨v1, rfl, hr', hn', ht'⟩
  obtain rfl : v1 = .int .i64 x1 := hn'.now
  have hz2 := ht'.size
  have HX2 : Hid (w2.heap[w.heap.size]? = some (.cells #[.int .i64 0, .int .i64 0, .string ⟨#[]⟩] 73 (0, 0))) := (ht'.block _ (by omega) (fun e => hne e.symm)).trans HX1.out
  have HR2 := ghid hr'
  have HT2 := ghid (HT1.out.trans ht' (fun _ _ h => h))
  clear hr' hn' ht'
  go_wp2_with fail
  refine (CC2.out _ HR2.out).mono ?_
  rintro e w3 ⟨v2, rfl, hr', hn', ht'⟩
  have hq2 : x2.size ≤ 140737488351232 := hn'.now.2
  obtain rfl : v2 = .string x2 := hn'.now.1
  have hz3 := ht'.size
  have HX3 : Hid (w3.heap[w.heap.size]? = some (.cells #[.int .i64 0, .int .i64 0, .string ⟨#[]⟩] 73 (0, 0))) := (ht'.block _ (by omega) (fun e => hne e.symm)).trans HX2.out
  have HR3 := ghid hr'
  have HT3 := ghid (HT2.out.trans ht' (fun _ _ h => h))
  clear hr' hn' ht'
  have c0 : w3.cell? ⟨w.heap.size, 0, none⟩ = some (.int .i64 0) := Lib.cell_of_heap HX3.out 0
  have c1 : w3.cell? ⟨w.heap.size, 1, none⟩ = some (.int .i64 0) := Lib.cell_of_heap HX3.out 1
  have c2 : w3.cell? ⟨w.heap.size, 2, none⟩ = some (.string ⟨#[]⟩) := Lib.cell_of_heap HX3.out 2
  have cf : ∀ j, w3.frozen? ⟨w.heap.size, j, none⟩ = false := fun j => Lib.frozen_of_heap HX3.out j
  have HTA := ghid (rtouchz3 HT3.out (.inr (Nat.le_refl _)) (.int .i64 x0) (.int .i64 x1) (.string x2))
  have HTB := ghid (rtouchz3 (TouchG.refl w3 (fun k => k = w.heap.size)) (.inl rfl) (.int .i64 x0) (.int .i64 x1) (.string x2))
  go_wp2
  refine bodyPost_ret (v := .agg #[.int .i64 x0, .int .i64 x1, .string x2]) (by simp [results, Tryz.results240, go_sem, c0, c1, c2]) rfl ?_
  refine ⟨_, rfl, rs_touch HR3.out HTB.out hne, ?_, HTA.out⟩
  exact NewR.of _ _ fun _ => ⟨rfl, hq2⟩

set_option maxRecDepth 100000 in
set_option maxHeartbeats 1600000 in
theorem rs_kept : RdC 212 keptR KeptV := by
  intro rb r0 w hs0 hr
  have hlr := hr.lt
  obtain ⟨x0, hx0⟩ : ∃ x, x = (stepN r0).1 := ⟨_, rfl⟩
  obtain ⟨r1, hr1⟩ : ∃ r, r = (stepN r0).2 := ⟨_, rfl⟩
  have hs1 : r1.1.size ≤ 140737488351232 := by rw [hr1]; exact Nat.le_trans (stepN_shrinks r0) hs0
  obtain ⟨x1, hx1⟩ : ∃ x, x = (replyR r1).1 := ⟨_, rfl⟩
  obtain ⟨r2, hr2⟩ : ∃ r, r = (replyR r1).2 := ⟨_, rfl⟩
  have hfin : keptR r0 = (⟨x0, x1.1, x1.2.1, x1.2.2⟩, r2) := by subst hx1 hr2 hx0 hr1; rfl
  rw [hfin]
  have hba : Below w.heap.size w (w.alloc (.cells #[.int .i64 0, .int .i64 0, .int .i64 0, .string ⟨#[]⟩] 168)) := (Below.refl _ _).alloc (Nat.le_refl _) _
  have HX0 : Hid ((w.alloc (.cells #[.int .i64 0, .int .i64 0, .int .i64 0, .string ⟨#[]⟩] 168)).heap[w.heap.size]? = some (.cells #[.int .i64 0, .int .i64 0, .int .i64 0, .string ⟨#[]⟩] 168 (0, 0))) := heap_alloc_new w _
  have hw0 : (w.alloc (.cells #[.int .i64 0, .int .i64 0, .int .i64 0, .string ⟨#[]⟩] 168)).heap.size = w.heap.size + 1 := by simp
  have HR0 := ghid (hr.below hba)
  have HT0 := ghid (TouchG.of_below hba (Nat.le_refl _) (fun k => k = rb))
  have hne : rb ≠ w.heap.size := by omega
  have CC0 : Hid (∀ u, IsRs rb r0 u → Calls Tryz.prog 162 #[.pointer (some ⟨rb, 0, none⟩)] u fun e w' => ∃ v, e = .returned v ∧ IsRs rb r1 w' ∧ NewR u.heap.size w' (fun u => IntV u u.heap.size v x0) ∧ TouchG u w' (fun k => k = rb)) := by unfold Hid; rw [hr1, hx0]; exact fun u hu => rsNumber_any rb r0 u hs0 hu
  have CC1 : Hid (∀ u, IsRs rb r1 u → Calls Tryz.prog 240 #[.pointer (some ⟨rb, 0, none⟩)] u fun e w' => ∃ v, e = .returned v ∧ IsRs rb r2 w' ∧ NewR u.heap.size w' (fun u => ReplyV u u.heap.size v x1) ∧ TouchG u w' (fun k => k = rb)) := by unfold Hid; rw [hr2, hx1]; exact fun u hu => rs_reply rb r1 u hs1 hu
  clear hx0 hr1 hx1 hr2 hs0 hs1 hfin hr hba
  go_enter Tryz.func212, Tryz.ntmps212
  go_wp2_with fail
  refine (CC0.out _ HR0.out).mono ?_
  rintro e w1 ⟨v0, rfl, hr', hn', ht'⟩
  obtain rfl : v0 = .int .i64 x0 := hn'.now
  have hz1 := ht'.size
  have HX1 : Hid (w1.heap[w.heap.size]? = some (.cells #[.int .i64 0, .int .i64 0, .int .i64 0, .string ⟨#[]⟩] 168 (0, 0))) := (ht'.block _ (by omega) (fun e => hne e.symm)).trans HX0.out
  have HR1 := ghid hr'
  have HT1 := ghid (HT0.out.trans ht' (fun _ _ h => h))
  clear hr' hn' ht'
  go_wp2_with fail
  refine (CC1.out _ HR1.out).mono ?_
  rintro e w2 ⟨v1, rfl, hr', hn', ht'⟩
  have hq1 : x1.2.2.size ≤ 140737488351232 := hn'.now.2
  obtain rfl : v1 = .agg #[.int .i64 x1.1, .int .i64 x1.2.1, .string x1.2.2] := hn'.now.1
  have hz2 := ht'.size
  have HX2 : Hid (w2.heap[w.heap.size]? = some (.cells #[.int .i64 0, .int .i64 0, .int .i64 0, .string ⟨#[]⟩] 168 (0, 0))) := (ht'.block _ (by omega) (fun e => hne e.symm)).trans HX1.out
  have HR2 := ghid hr'
  have HT2 := ghid (HT1.out.trans ht' (fun _ _ h => h))
  clear hr' hn' ht'
  have c0 : w2.cell? ⟨w.heap.size, 0, none⟩ = some (.int .i64 0) := Lib.cell_of_heap HX2.out 0
  have c1 : w2.cell? ⟨w.heap.size, 1, none⟩ = some (.int .i64 0) := Lib.cell_of_heap HX2.out 1
  have c2 : w2.cell? ⟨w.heap.size, 2, none⟩ = some (.int .i64 0) := Lib.cell_of_heap HX2.out 2
  have c3 : w2.cell? ⟨w.heap.size, 3, none⟩ = some (.string ⟨#[]⟩) := Lib.cell_of_heap HX2.out 3
  have cf : ∀ j, w2.frozen? ⟨w.heap.size, j, none⟩ = false := fun j => Lib.frozen_of_heap HX2.out j
  have HTA := ghid (rtouchz4 HT2.out (.inr (Nat.le_refl _)) (.int .i64 x0) (.int .i64 x1.1) (.int .i64 x1.2.1) (.string x1.2.2))
  have HTB := ghid (rtouchz4 (TouchG.refl w2 (fun k => k = w.heap.size)) (.inl rfl) (.int .i64 x0) (.int .i64 x1.1) (.int .i64 x1.2.1) (.string x1.2.2))
  go_wp2
  refine bodyPost_ret (v := .agg #[.int .i64 x0, .int .i64 x1.1, .int .i64 x1.2.1, .string x1.2.2]) (by simp [results, Tryz.results212, go_sem, c0, c1, c2, c3]) rfl ?_
  refine ⟨_, rfl, rs_touch HR2.out HTB.out hne, ?_, HTA.out⟩
  exact NewR.of _ _ fun _ => ⟨rfl, hq1⟩

set_option maxRecDepth 100000 in
set_option maxHeartbeats 1600000 in
theorem rs_pair : RdC 166 pairR PairV := by
  intro rb r0 w hs0 hr
  have hlr := hr.lt
  obtain ⟨x0, hx0⟩ : ∃ x, x = (stepT r0).1 := ⟨_, rfl⟩
  obtain ⟨r1, hr1⟩ : ∃ r, r = (stepT r0).2 := ⟨_, rfl⟩
  have hs1 : r1.1.size ≤ 140737488351232 := by rw [hr1]; exact Nat.le_trans (stepT_shrinks r0) hs0
  obtain ⟨x1, hx1⟩ : ∃ x, x = (stepT r1).1 := ⟨_, rfl⟩
  obtain ⟨r2, hr2⟩ : ∃ r, r = (stepT r1).2 := ⟨_, rfl⟩
  have hs2 : r2.1.size ≤ 140737488351232 := by rw [hr2]; exact Nat.le_trans (stepT_shrinks r1) hs1
  obtain ⟨x2, hx2⟩ : ∃ x, x = (stepN r2).1 := ⟨_, rfl⟩
  obtain ⟨r3, hr3⟩ : ∃ r, r = (stepN r2).2 := ⟨_, rfl⟩
  have hfin : pairR r0 = (⟨x0, x1, x2⟩, r3) := by subst hx2 hr3 hx1 hr2 hx0 hr1; rfl
  rw [hfin]
  have hba : Below w.heap.size w (w.alloc (.cells #[.string ⟨#[]⟩, .string ⟨#[]⟩, .int .i64 0] 89)) := (Below.refl _ _).alloc (Nat.le_refl _) _
  have HX0 : Hid ((w.alloc (.cells #[.string ⟨#[]⟩, .string ⟨#[]⟩, .int .i64 0] 89)).heap[w.heap.size]? = some (.cells #[.string ⟨#[]⟩, .string ⟨#[]⟩, .int .i64 0] 89 (0, 0))) := heap_alloc_new w _
  have hw0 : (w.alloc (.cells #[.string ⟨#[]⟩, .string ⟨#[]⟩, .int .i64 0] 89)).heap.size = w.heap.size + 1 := by simp
  have HR0 := ghid (hr.below hba)
  have HT0 := ghid (TouchG.of_below hba (Nat.le_refl _) (fun k => k = rb))
  have hne : rb ≠ w.heap.size := by omega
  have CC0 : Hid (∀ u, IsRs rb r0 u → Calls Tryz.prog 209 #[.pointer (some ⟨rb, 0, none⟩)] u fun e w' => ∃ v, e = .returned v ∧ IsRs rb r1 w' ∧ NewR u.heap.size w' (fun u => TextV u u.heap.size v x0) ∧ TouchG u w' (fun k => k = rb)) := by unfold Hid; rw [hr1, hx0]; exact fun u hu => rsText_any rb r0 u hs0 hu
  have CC1 : Hid (∀ u, IsRs rb r1 u → Calls Tryz.prog 209 #[.pointer (some ⟨rb, 0, none⟩)] u fun e w' => ∃ v, e = .returned v ∧ IsRs rb r2 w' ∧ NewR u.heap.size w' (fun u => TextV u u.heap.size v x1) ∧ TouchG u w' (fun k => k = rb)) := by unfold Hid; rw [hr2, hx1]; exact fun u hu => rsText_any rb r1 u hs1 hu
  have CC2 : Hid (∀ u, IsRs rb r2 u → Calls Tryz.prog 162 #[.pointer (some ⟨rb, 0, none⟩)] u fun e w' => ∃ v, e = .returned v ∧ IsRs rb r3 w' ∧ NewR u.heap.size w' (fun u => IntV u u.heap.size v x2) ∧ TouchG u w' (fun k => k = rb)) := by unfold Hid; rw [hr3, hx2]; exact fun u hu => rsNumber_any rb r2 u hs2 hu
  clear hx0 hr1 hx1 hr2 hx2 hr3 hs0 hs1 hs2 hfin hr hba
  go_enter Tryz.func166, Tryz.ntmps166
  go_wp2_with fail
  refine (CC0.out _ HR0.out).mono ?_
  rintro e w1 ⟨v0, rfl, hr', hn', ht'⟩
  have hq0 : x0.size ≤ 140737488351232 := hn'.now.2
  obtain rfl : v0 = .string x0 := hn'.now.1
  have hz1 := ht'.size
  have HX1 : Hid (w1.heap[w.heap.size]? = some (.cells #[.string ⟨#[]⟩, .string ⟨#[]⟩, .int .i64 0] 89 (0, 0))) := (ht'.block _ (by omega) (fun e => hne e.symm)).trans HX0.out
  have HR1 := ghid hr'
  have HT1 := ghid (HT0.out.trans ht' (fun _ _ h => h))
  clear hr' hn' ht'
  go_wp2_with fail
  refine (CC1.out _ HR1.out).mono ?_
  rintro e w2 ⟨v1, rfl, hr', hn', ht'⟩
  have hq1 : x1.size ≤ 140737488351232 := hn'.now.2
  obtain rfl : v1 = .string x1 := hn'.now.1
  have hz2 := ht'.size
  have HX2 : Hid (w2.heap[w.heap.size]? = some (.cells #[.string ⟨#[]⟩, .string ⟨#[]⟩, .int .i64 0] 89 (0, 0))) := (ht'.block _ (by omega) (fun e => hne e.symm)).trans HX1.out
  have HR2 := ghid hr'
  have HT2 := ghid (HT1.out.trans ht' (fun _ _ h => h))
  clear hr' hn' ht'
  go_wp2_with fail
  refine (CC2.out _ HR2.out).mono ?_
  rintro e w3 ⟨v2, rfl, hr', hn', ht'⟩
  obtain rfl : v2 = .int .i64 x2 := hn'.now
  have hz3 := ht'.size
  have HX3 : Hid (w3.heap[w.heap.size]? = some (.cells #[.string ⟨#[]⟩, .string ⟨#[]⟩, .int .i64 0] 89 (0, 0))) := (ht'.block _ (by omega) (fun e => hne e.symm)).trans HX2.out
  have HR3 := ghid hr'
  have HT3 := ghid (HT2.out.trans ht' (fun _ _ h => h))
  clear hr' hn' ht'
  have c0 : w3.cell? ⟨w.heap.size, 0, none⟩ = some (.string ⟨#[]⟩) := Lib.cell_of_heap HX3.out 0
  have c1 : w3.cell? ⟨w.heap.size, 1, none⟩ = some (.string ⟨#[]⟩) := Lib.cell_of_heap HX3.out 1
  have c2 : w3.cell? ⟨w.heap.size, 2, none⟩ = some (.int .i64 0) := Lib.cell_of_heap HX3.out 2
  have cf : ∀ j, w3.frozen? ⟨w.heap.size, j, none⟩ = false := fun j => Lib.frozen_of_heap HX3.out j
  have HTA := ghid (rtouchz3 HT3.out (.inr (Nat.le_refl _)) (.string x0) (.string x1) (.int .i64 x2))
  have HTB := ghid (rtouchz3 (TouchG.refl w3 (fun k => k = w.heap.size)) (.inl rfl) (.string x0) (.string x1) (.int .i64 x2))
  go_wp2
  refine bodyPost_ret (v := .agg #[.string x0, .string x1, .int .i64 x2]) (by simp [results, Tryz.results166, go_sem, c0, c1, c2]) rfl ?_
  refine ⟨_, rfl, rs_touch HR3.out HTB.out hne, ?_, HTA.out⟩
  exact NewR.of _ _ fun _ => ⟨rfl, hq0, hq1⟩

set_option maxRecDepth 100000 in
set_option maxHeartbeats 1600000 in
theorem rs_lock : RdC 164 lockR LockV := by
  intro rb r0 w hs0 hr
  have hlr := hr.lt
  obtain ⟨x0, hx0⟩ : ∃ x, x = (stepT r0).1 := ⟨_, rfl⟩
  obtain ⟨r1, hr1⟩ : ∃ r, r = (stepT r0).2 := ⟨_, rfl⟩
  have hs1 : r1.1.size ≤ 140737488351232 := by rw [hr1]; exact Nat.le_trans (stepT_shrinks r0) hs0
  obtain ⟨x1, hx1⟩ : ∃ x, x = (stepN r1).1 := ⟨_, rfl⟩
  obtain ⟨r2, hr2⟩ : ∃ r, r = (stepN r1).2 := ⟨_, rfl⟩
  have hs2 : r2.1.size ≤ 140737488351232 := by rw [hr2]; exact Nat.le_trans (stepN_shrinks r1) hs1
  obtain ⟨x2, hx2⟩ : ∃ x, x = (stepN r2).1 := ⟨_, rfl⟩
  obtain ⟨r3, hr3⟩ : ∃ r, r = (stepN r2).2 := ⟨_, rfl⟩
  have hs3 : r3.1.size ≤ 140737488351232 := by rw [hr3]; exact Nat.le_trans (stepN_shrinks r2) hs2
  obtain ⟨x3, hx3⟩ : ∃ x, x = (listR 3 stepN r3).1 := ⟨_, rfl⟩
  obtain ⟨r4, hr4⟩ : ∃ r, r = (listR 3 stepN r3).2 := ⟨_, rfl⟩
  have hfin : lockR r0 = (⟨x0, x1, x2, x3⟩, r4) := by subst hx3 hr4 hx2 hr3 hx1 hr2 hx0 hr1; rfl
  rw [hfin]
  have hba : Below w.heap.size w (w.alloc (.cells #[.string ⟨#[]⟩, .int .i64 0, .int .i64 0, .slice none 0 0] 82)) := (Below.refl _ _).alloc (Nat.le_refl _) _
  have HX0 : Hid ((w.alloc (.cells #[.string ⟨#[]⟩, .int .i64 0, .int .i64 0, .slice none 0 0] 82)).heap[w.heap.size]? = some (.cells #[.string ⟨#[]⟩, .int .i64 0, .int .i64 0, .slice none 0 0] 82 (0, 0))) := heap_alloc_new w _
  have hw0 : (w.alloc (.cells #[.string ⟨#[]⟩, .int .i64 0, .int .i64 0, .slice none 0 0] 82)).heap.size = w.heap.size + 1 := by simp
  have HR0 := ghid (hr.below hba)
  have HT0 := ghid (TouchG.of_below hba (Nat.le_refl _) (fun k => k = rb))
  have hne : rb ≠ w.heap.size := by omega
  have CC0 : Hid (∀ u, IsRs rb r0 u → Calls Tryz.prog 209 #[.pointer (some ⟨rb, 0, none⟩)] u fun e w' => ∃ v, e = .returned v ∧ IsRs rb r1 w' ∧ NewR u.heap.size w' (fun u => TextV u u.heap.size v x0) ∧ TouchG u w' (fun k => k = rb)) := by unfold Hid; rw [hr1, hx0]; exact fun u hu => rsText_any rb r0 u hs0 hu
  have CC1 : Hid (∀ u, IsRs rb r1 u → Calls Tryz.prog 162 #[.pointer (some ⟨rb, 0, none⟩)] u fun e w' => ∃ v, e = .returned v ∧ IsRs rb r2 w' ∧ NewR u.heap.size w' (fun u => IntV u u.heap.size v x1) ∧ TouchG u w' (fun k => k = rb)) := by unfold Hid; rw [hr2, hx1]; exact fun u hu => rsNumber_any rb r1 u hs1 hu
  have CC2 : Hid (∀ u, IsRs rb r2 u → Calls Tryz.prog 162 #[.pointer (some ⟨rb, 0, none⟩)] u fun e w' => ∃ v, e = .returned v ∧ IsRs rb r3 w' ∧ NewR u.heap.size w' (fun u => IntV u u.heap.size v x2) ∧ TouchG u w' (fun k => k = rb)) := by unfold Hid; rw [hr3, hx2]; exact fun u hu => rsNumber_any rb r2 u hs2 hu
  have CC3 : Hid (∀ u, IsRs rb r3 u → Calls Tryz.prog 210 #[.pointer (some ⟨rb, 0, none⟩), .int .i64 3, .func (.func 162) #[.pointer (some ⟨rb, 0, none⟩)] #[]] u fun e w' => ∃ v, e = .returned v ∧ IsRs rb r4 w' ∧ NewR u.heap.size w' (fun u => IntsR u u.heap.size v x3) ∧ TouchG u w' (fun k => k = rb)) := by unfold Hid; rw [hr4, hx3]; exact fun u hu => rlistInt _ stepN 3 (by decide) (by decide) rsNumber_any stepN_shrinks rs_number_enters rb r3 u hs3 hu
  clear hx0 hr1 hx1 hr2 hx2 hr3 hx3 hr4 hs0 hs1 hs2 hs3 hfin hr hba
  go_enter Tryz.func164, Tryz.ntmps164
  go_wp2_with fail
  refine (CC0.out _ HR0.out).mono ?_
  rintro e w1 ⟨v0, rfl, hr', hn', ht'⟩
  have hq0 : x0.size ≤ 140737488351232 := hn'.now.2
  obtain rfl : v0 = .string x0 := hn'.now.1
  have hz1 := ht'.size
  have HX1 : Hid (w1.heap[w.heap.size]? = some (.cells #[.string ⟨#[]⟩, .int .i64 0, .int .i64 0, .slice none 0 0] 82 (0, 0))) := (ht'.block _ (by omega) (fun e => hne e.symm)).trans HX0.out
  have HR1 := ghid hr'
  have HT1 := ghid (HT0.out.trans ht' (fun _ _ h => h))
  clear hr' hn' ht'
  go_wp2_with fail
  refine (CC1.out _ HR1.out).mono ?_
  rintro e w2 ⟨v1, rfl, hr', hn', ht'⟩
  obtain rfl : v1 = .int .i64 x1 := hn'.now
  have hz2 := ht'.size
  have HX2 : Hid (w2.heap[w.heap.size]? = some (.cells #[.string ⟨#[]⟩, .int .i64 0, .int .i64 0, .slice none 0 0] 82 (0, 0))) := (ht'.block _ (by omega) (fun e => hne e.symm)).trans HX1.out
  have HR2 := ghid hr'
  have HT2 := ghid (HT1.out.trans ht' (fun _ _ h => h))
  clear hr' hn' ht'
  go_wp2_with fail
  refine (CC2.out _ HR2.out).mono ?_
  rintro e w3 ⟨v2, rfl, hr', hn', ht'⟩
  obtain rfl : v2 = .int .i64 x2 := hn'.now
  have hz3 := ht'.size
  have HX3 : Hid (w3.heap[w.heap.size]? = some (.cells #[.string ⟨#[]⟩, .int .i64 0, .int .i64 0, .slice none 0 0] 82 (0, 0))) := (ht'.block _ (by omega) (fun e => hne e.symm)).trans HX2.out
  have HR3 := ghid hr'
  have HT3 := ghid (HT2.out.trans ht' (fun _ _ h => h))
  clear hr' hn' ht'
  go_wp2_with fail
  refine (CC3.out _ HR3.out).mono ?_
  rintro e w4 ⟨v3, rfl, hr', hn', ht'⟩
  obtain ⟨lo3, lc3, rfl, -⟩ := id hn'.now
  have hz4 := ht'.size
  have HX4 : Hid (w4.heap[w.heap.size]? = some (.cells #[.string ⟨#[]⟩, .int .i64 0, .int .i64 0, .slice none 0 0] 82 (0, 0))) := (ht'.block _ (by omega) (fun e => hne e.symm)).trans HX3.out
  have HN3_4 := ghid (hn'.mono (by omega : w.heap.size + 1 ≤ _))
  have HR4 := ghid hr'
  have HT4 := ghid (HT3.out.trans ht' (fun _ _ h => h))
  clear hr' hn' ht'
  have c0 : w4.cell? ⟨w.heap.size, 0, none⟩ = some (.string ⟨#[]⟩) := Lib.cell_of_heap HX4.out 0
  have c1 : w4.cell? ⟨w.heap.size, 1, none⟩ = some (.int .i64 0) := Lib.cell_of_heap HX4.out 1
  have c2 : w4.cell? ⟨w.heap.size, 2, none⟩ = some (.int .i64 0) := Lib.cell_of_heap HX4.out 2
  have c3 : w4.cell? ⟨w.heap.size, 3, none⟩ = some (.slice none 0 0) := Lib.cell_of_heap HX4.out 3
  have cf : ∀ j, w4.frozen? ⟨w.heap.size, j, none⟩ = false := fun j => Lib.frozen_of_heap HX4.out j
  have HTA := ghid (rtouchz4 HT4.out (.inr (Nat.le_refl _)) (.string x0) (.int .i64 x1) (.int .i64 x2) (.slice lo3 x3.length lc3))
  have HTB := ghid (rtouchz4 (TouchG.refl w4 (fun k => k = w.heap.size)) (.inl rfl) (.string x0) (.int .i64 x1) (.int .i64 x2) (.slice lo3 x3.length lc3))
  go_wp2
  refine bodyPost_ret (v := .agg #[.string x0, .int .i64 x1, .int .i64 x2, .slice lo3 x3.length lc3]) (by simp [results, Tryz.results164, go_sem, c0, c1, c2, c3]) rfl ?_
  refine ⟨_, rfl, rs_touch HR4.out HTB.out hne, ?_, HTA.out⟩
  exact ((HN3_4.out.touch HTB.out (fun k _ h => by omega)).mono (by omega)).imp fun u hu => ⟨_, rfl, hu, hq0⟩

set_option maxRecDepth 100000 in
set_option maxHeartbeats 1600000 in
theorem rs_session : RdC 168 sessR SessV := by
  intro rb r0 w hs0 hr
  have hlr := hr.lt
  obtain ⟨x0, hx0⟩ : ∃ x, x = (stepN r0).1 := ⟨_, rfl⟩
  obtain ⟨r1, hr1⟩ : ∃ r, r = (stepN r0).2 := ⟨_, rfl⟩
  have hs1 : r1.1.size ≤ 140737488351232 := by rw [hr1]; exact Nat.le_trans (stepN_shrinks r0) hs0
  obtain ⟨x1, hx1⟩ : ∃ x, x = (stepN r1).1 := ⟨_, rfl⟩
  obtain ⟨r2, hr2⟩ : ∃ r, r = (stepN r1).2 := ⟨_, rfl⟩
  have hs2 : r2.1.size ≤ 140737488351232 := by rw [hr2]; exact Nat.le_trans (stepN_shrinks r1) hs1
  obtain ⟨x2, hx2⟩ : ∃ x, x = (stepN r2).1 := ⟨_, rfl⟩
  obtain ⟨r3, hr3⟩ : ∃ r, r = (stepN r2).2 := ⟨_, rfl⟩
  have hs3 : r3.1.size ≤ 140737488351232 := by rw [hr3]; exact Nat.le_trans (stepN_shrinks r2) hs2
  obtain ⟨x3, hx3⟩ : ∃ x, x = (stepN r3).1 := ⟨_, rfl⟩
  obtain ⟨r4, hr4⟩ : ∃ r, r = (stepN r3).2 := ⟨_, rfl⟩
  have hs4 : r4.1.size ≤ 140737488351232 := by rw [hr4]; exact Nat.le_trans (stepN_shrinks r3) hs3
  obtain ⟨x4, hx4⟩ : ∃ x, x = (listR 4 keptR r4).1 := ⟨_, rfl⟩
  obtain ⟨r5, hr5⟩ : ∃ r, r = (listR 4 keptR r4).2 := ⟨_, rfl⟩
  have hfin : sessR r0 = (⟨x0, x1, x2, x3, x4⟩, r5) := by subst hx4 hr5 hx3 hr4 hx2 hr3 hx1 hr2 hx0 hr1; rfl
  rw [hfin]
  have hba : Below w.heap.size w (w.alloc (.cells #[.int .i64 0, .int .i64 0, .int .i64 0, .int .i64 0, .slice none 0 0] 121)) := (Below.refl _ _).alloc (Nat.le_refl _) _
  have HX0 : Hid ((w.alloc (.cells #[.int .i64 0, .int .i64 0, .int .i64 0, .int .i64 0, .slice none 0 0] 121)).heap[w.heap.size]? = some (.cells #[.int .i64 0, .int .i64 0, .int .i64 0, .int .i64 0, .slice none 0 0] 121 (0, 0))) := heap_alloc_new w _
  have hw0 : (w.alloc (.cells #[.int .i64 0, .int .i64 0, .int .i64 0, .int .i64 0, .slice none 0 0] 121)).heap.size = w.heap.size + 1 := by simp
  have HR0 := ghid (hr.below hba)
  have HT0 := ghid (TouchG.of_below hba (Nat.le_refl _) (fun k => k = rb))
  have hne : rb ≠ w.heap.size := by omega
  have CC0 : Hid (∀ u, IsRs rb r0 u → Calls Tryz.prog 162 #[.pointer (some ⟨rb, 0, none⟩)] u fun e w' => ∃ v, e = .returned v ∧ IsRs rb r1 w' ∧ NewR u.heap.size w' (fun u => IntV u u.heap.size v x0) ∧ TouchG u w' (fun k => k = rb)) := by unfold Hid; rw [hr1, hx0]; exact fun u hu => rsNumber_any rb r0 u hs0 hu
  have CC1 : Hid (∀ u, IsRs rb r1 u → Calls Tryz.prog 162 #[.pointer (some ⟨rb, 0, none⟩)] u fun e w' => ∃ v, e = .returned v ∧ IsRs rb r2 w' ∧ NewR u.heap.size w' (fun u => IntV u u.heap.size v x1) ∧ TouchG u w' (fun k => k = rb)) := by unfold Hid; rw [hr2, hx1]; exact fun u hu => rsNumber_any rb r1 u hs1 hu
  have CC2 : Hid (∀ u, IsRs rb r2 u → Calls Tryz.prog 162 #[.pointer (some ⟨rb, 0, none⟩)] u fun e w' => ∃ v, e = .returned v ∧ IsRs rb r3 w' ∧ NewR u.heap.size w' (fun u => IntV u u.heap.size v x2) ∧ TouchG u w' (fun k => k = rb)) := by unfold Hid; rw [hr3, hx2]; exact fun u hu => rsNumber_any rb r2 u hs2 hu
  have CC3 : Hid (∀ u, IsRs rb r3 u → Calls Tryz.prog 162 #[.pointer (some ⟨rb, 0, none⟩)] u fun e w' => ∃ v, e = .returned v ∧ IsRs rb r4 w' ∧ NewR u.heap.size w' (fun u => IntV u u.heap.size v x3) ∧ TouchG u w' (fun k => k = rb)) := by unfold Hid; rw [hr4, hx3]; exact fun u hu => rsNumber_any rb r3 u hs3 hu
  have CC4 : Hid (∀ u, IsRs rb r4 u → Calls Tryz.prog 211 #[.pointer (some ⟨rb, 0, none⟩), .int .i64 4, .func (.func 212) #[.pointer (some ⟨rb, 0, none⟩)] #[]] u fun e w' => ∃ v, e = .returned v ∧ IsRs rb r5 w' ∧ NewR u.heap.size w' (fun u => KeptsR u u.heap.size v x4) ∧ TouchG u w' (fun k => k = rb)) := by unfold Hid; rw [hr5, hx4]; exact fun u hu => rlistKept _ keptR 4 (by decide) (by decide) rs_kept keptR_shrinks rs_kept_enters rb r4 u hs4 hu
  clear hx0 hr1 hx1 hr2 hx2 hr3 hx3 hr4 hx4 hr5 hs0 hs1 hs2 hs3 hs4 hfin hr hba
  go_enter Tryz.func168, Tryz.ntmps168
  go_wp2_with fail
  refine (CC0.out _ HR0.out).mono ?_
  rintro e w1 ⟨v0, rfl, hr', hn', ht'⟩
  obtain rfl : v0 = .int .i64 x0 := hn'.now
  have hz1 := ht'.size
  have HX1 : Hid (w1.heap[w.heap.size]? = some (.cells #[.int .i64 0, .int .i64 0, .int .i64 0, .int .i64 0, .slice none 0 0] 121 (0, 0))) := (ht'.block _ (by omega) (fun e => hne e.symm)).trans HX0.out
  have HR1 := ghid hr'
  have HT1 := ghid (HT0.out.trans ht' (fun _ _ h => h))
  clear hr' hn' ht'
  go_wp2_with fail
  refine (CC1.out _ HR1.out).mono ?_
  rintro e w2 ⟨v1, rfl, hr', hn', ht'⟩
  obtain rfl : v1 = .int .i64 x1 := hn'.now
  have hz2 := ht'.size
  have HX2 : Hid (w2.heap[w.heap.size]? = some (.cells #[.int .i64 0, .int .i64 0, .int .i64 0, .int .i64 0, .slice none 0 0] 121 (0, 0))) := (ht'.block _ (by omega) (fun e => hne e.symm)).trans HX1.out
  have HR2 := ghid hr'
  have HT2 := ghid (HT1.out.trans ht' (fun _ _ h => h))
  clear hr' hn' ht'
  go_wp2_with fail
  refine (CC2.out _ HR2.out).mono ?_
  rintro e w3 ⟨v2, rfl, hr', hn', ht'⟩
  obtain rfl : v2 = .int .i64 x2 := hn'.now
  have hz3 := ht'.size
  have HX3 : Hid (w3.heap[w.heap.size]? = some (.cells #[.int .i64 0, .int .i64 0, .int .i64 0, .int .i64 0, .slice none 0 0] 121 (0, 0))) := (ht'.block _ (by omega) (fun e => hne e.symm)).trans HX2.out
  have HR3 := ghid hr'
  have HT3 := ghid (HT2.out.trans ht' (fun _ _ h => h))
  clear hr' hn' ht'
  go_wp2_with fail
  refine (CC3.out _ HR3.out).mono ?_
  rintro e w4 ⟨v3, rfl, hr', hn', ht'⟩
  obtain rfl : v3 = .int .i64 x3 := hn'.now
  have hz4 := ht'.size
  have HX4 : Hid (w4.heap[w.heap.size]? = some (.cells #[.int .i64 0, .int .i64 0, .int .i64 0, .int .i64 0, .slice none 0 0] 121 (0, 0))) := (ht'.block _ (by omega) (fun e => hne e.symm)).trans HX3.out
  have HR4 := ghid hr'
  have HT4 := ghid (HT3.out.trans ht' (fun _ _ h => h))
  clear hr' hn' ht'
  go_wp2_with fail
  refine (CC4.out _ HR4.out).mono ?_
  rintro e w5 ⟨v4, rfl, hr', hn', ht'⟩
  obtain ⟨lo4, lc4, rfl, -⟩ := id hn'.now
  have hz5 := ht'.size
  have HX5 : Hid (w5.heap[w.heap.size]? = some (.cells #[.int .i64 0, .int .i64 0, .int .i64 0, .int .i64 0, .slice none 0 0] 121 (0, 0))) := (ht'.block _ (by omega) (fun e => hne e.symm)).trans HX4.out
  have HN4_5 := ghid (hn'.mono (by omega : w.heap.size + 1 ≤ _))
  have HR5 := ghid hr'
  have HT5 := ghid (HT4.out.trans ht' (fun _ _ h => h))
  clear hr' hn' ht'
  have c0 : w5.cell? ⟨w.heap.size, 0, none⟩ = some (.int .i64 0) := Lib.cell_of_heap HX5.out 0
  have c1 : w5.cell? ⟨w.heap.size, 1, none⟩ = some (.int .i64 0) := Lib.cell_of_heap HX5.out 1
  have c2 : w5.cell? ⟨w.heap.size, 2, none⟩ = some (.int .i64 0) := Lib.cell_of_heap HX5.out 2
  have c3 : w5.cell? ⟨w.heap.size, 3, none⟩ = some (.int .i64 0) := Lib.cell_of_heap HX5.out 3
  have c4 : w5.cell? ⟨w.heap.size, 4, none⟩ = some (.slice none 0 0) := Lib.cell_of_heap HX5.out 4
  have cf : ∀ j, w5.frozen? ⟨w.heap.size, j, none⟩ = false := fun j => Lib.frozen_of_heap HX5.out j
  have HTA := ghid (rtouchz5 HT5.out (.inr (Nat.le_refl _)) (.int .i64 x0) (.int .i64 x1) (.int .i64 x2) (.int .i64 x3) (.slice lo4 x4.length lc4))
  have HTB := ghid (rtouchz5 (TouchG.refl w5 (fun k => k = w.heap.size)) (.inl rfl) (.int .i64 x0) (.int .i64 x1) (.int .i64 x2) (.int .i64 x3) (.slice lo4 x4.length lc4))
  go_wp2
  refine bodyPost_ret (v := .agg #[.int .i64 x0, .int .i64 x1, .int .i64 x2, .int .i64 x3, .slice lo4 x4.length lc4]) (by simp [results, Tryz.results168, go_sem, c0, c1, c2, c3, c4]) rfl ?_
  refine ⟨_, rfl, rs_touch HR5.out HTB.out hne, ?_, HTA.out⟩
  exact ((HN4_5.out.touch HTB.out (fun k _ h => by omega)).mono (by omega)).imp fun u hu => ⟨_, rfl, hu⟩

set_option maxRecDepth 100000 in
set_option maxHeartbeats 1600000 in
theorem rs_state : RdC 118 snapR StateV := by
  intro rb r0 w hs0 hr
  have hlr := hr.lt
  obtain ⟨x0, hx0⟩ : ∃ x, x = (stepN r0).1 := ⟨_, rfl⟩
  obtain ⟨r1, hr1⟩ : ∃ r, r = (stepN r0).2 := ⟨_, rfl⟩
  have hs1 : r1.1.size ≤ 140737488351232 := by rw [hr1]; exact Nat.le_trans (stepN_shrinks r0) hs0
  obtain ⟨x1, hx1⟩ : ∃ x, x = (listR 5 lockR r1).1 := ⟨_, rfl⟩
  obtain ⟨r2, hr2⟩ : ∃ r, r = (listR 5 lockR r1).2 := ⟨_, rfl⟩
  have hs2 : r2.1.size ≤ 140737488351232 := by rw [hr2]; exact Nat.le_trans ((listR_shrinks lockR_shrinks 5 (by decide)) r1) hs1
  obtain ⟨x2, hx2⟩ : ∃ x, x = (listR 5 pairR r2).1 := ⟨_, rfl⟩
  obtain ⟨r3, hr3⟩ : ∃ r, r = (listR 5 pairR r2).2 := ⟨_, rfl⟩
  have hs3 : r3.1.size ≤ 140737488351232 := by rw [hr3]; exact Nat.le_trans ((listR_shrinks pairR_shrinks 5 (by decide)) r2) hs2
  obtain ⟨x3, hx3⟩ : ∃ x, x = (listR 4 sessR r3).1 := ⟨_, rfl⟩
  obtain ⟨r4, hr4⟩ : ∃ r, r = (listR 4 sessR r3).2 := ⟨_, rfl⟩
  have hfin : snapR r0 = (⟨x0, x1, x2, x3⟩, r4) := by subst hx3 hr4 hx2 hr3 hx1 hr2 hx0 hr1; rfl
  rw [hfin]
  have hba : Below w.heap.size w (w.alloc (.cells #[.int .i64 0, .slice none 0 0, .slice none 0 0, .slice none 0 0] 48)) := (Below.refl _ _).alloc (Nat.le_refl _) _
  have HX0 : Hid ((w.alloc (.cells #[.int .i64 0, .slice none 0 0, .slice none 0 0, .slice none 0 0] 48)).heap[w.heap.size]? = some (.cells #[.int .i64 0, .slice none 0 0, .slice none 0 0, .slice none 0 0] 48 (0, 0))) := heap_alloc_new w _
  have hw0 : (w.alloc (.cells #[.int .i64 0, .slice none 0 0, .slice none 0 0, .slice none 0 0] 48)).heap.size = w.heap.size + 1 := by simp
  have HR0 := ghid (hr.below hba)
  have HT0 := ghid (TouchG.of_below hba (Nat.le_refl _) (fun k => k = rb))
  have hne : rb ≠ w.heap.size := by omega
  have CC0 : Hid (∀ u, IsRs rb r0 u → Calls Tryz.prog 162 #[.pointer (some ⟨rb, 0, none⟩)] u fun e w' => ∃ v, e = .returned v ∧ IsRs rb r1 w' ∧ NewR u.heap.size w' (fun u => IntV u u.heap.size v x0) ∧ TouchG u w' (fun k => k = rb)) := by unfold Hid; rw [hr1, hx0]; exact fun u hu => rsNumber_any rb r0 u hs0 hu
  have CC1 : Hid (∀ u, IsRs rb r1 u → Calls Tryz.prog 163 #[.pointer (some ⟨rb, 0, none⟩), .int .i64 5, .func (.func 164) #[.pointer (some ⟨rb, 0, none⟩)] #[]] u fun e w' => ∃ v, e = .returned v ∧ IsRs rb r2 w' ∧ NewR u.heap.size w' (fun u => LocksR u u.heap.size v x1) ∧ TouchG u w' (fun k => k = rb)) := by unfold Hid; rw [hr2, hx1]; exact fun u hu => rlistLock _ lockR 5 (by decide) (by decide) rs_lock lockR_shrinks rs_lock_enters rb r1 u hs1 hu
  have CC2 : Hid (∀ u, IsRs rb r2 u → Calls Tryz.prog 165 #[.pointer (some ⟨rb, 0, none⟩), .int .i64 5, .func (.func 166) #[.pointer (some ⟨rb, 0, none⟩)] #[]] u fun e w' => ∃ v, e = .returned v ∧ IsRs rb r3 w' ∧ NewR u.heap.size w' (fun u => PairsR u u.heap.size v x2) ∧ TouchG u w' (fun k => k = rb)) := by unfold Hid; rw [hr3, hx2]; exact fun u hu => rlistPair _ pairR 5 (by decide) (by decide) rs_pair pairR_shrinks rs_pair_enters rb r2 u hs2 hu
  have CC3 : Hid (∀ u, IsRs rb r3 u → Calls Tryz.prog 167 #[.pointer (some ⟨rb, 0, none⟩), .int .i64 4, .func (.func 168) #[.pointer (some ⟨rb, 0, none⟩)] #[]] u fun e w' => ∃ v, e = .returned v ∧ IsRs rb r4 w' ∧ NewR u.heap.size w' (fun u => SessR u u.heap.size v x3) ∧ TouchG u w' (fun k => k = rb)) := by unfold Hid; rw [hr4, hx3]; exact fun u hu => rlistSess _ sessR 4 (by decide) (by decide) rs_session sessR_shrinks rs_session_enters rb r3 u hs3 hu
  clear hx0 hr1 hx1 hr2 hx2 hr3 hx3 hr4 hs0 hs1 hs2 hs3 hfin hr hba
  go_enter Tryz.func118, Tryz.ntmps118
  go_wp2_with fail
  refine (CC0.out _ HR0.out).mono ?_
  rintro e w1 ⟨v0, rfl, hr', hn', ht'⟩
  obtain rfl : v0 = .int .i64 x0 := hn'.now
  have hz1 := ht'.size
  have HX1 : Hid (w1.heap[w.heap.size]? = some (.cells #[.int .i64 0, .slice none 0 0, .slice none 0 0, .slice none 0 0] 48 (0, 0))) := (ht'.block _ (by omega) (fun e => hne e.symm)).trans HX0.out
  have HR1 := ghid hr'
  have HT1 := ghid (HT0.out.trans ht' (fun _ _ h => h))
  clear hr' hn' ht'
  go_wp2_with fail
  refine (CC1.out _ HR1.out).mono ?_
  rintro e w2 ⟨v1, rfl, hr', hn', ht'⟩
  obtain ⟨lo1, lc1, rfl, -⟩ := id hn'.now
  have hz2 := ht'.size
  have HX2 : Hid (w2.heap[w.heap.size]? = some (.cells #[.int .i64 0, .slice none 0 0, .slice none 0 0, .slice none 0 0] 48 (0, 0))) := (ht'.block _ (by omega) (fun e => hne e.symm)).trans HX1.out
  have HN1_2 := ghid (hn'.mono (by omega : w.heap.size + 1 ≤ _))
  have HR2 := ghid hr'
  have HT2 := ghid (HT1.out.trans ht' (fun _ _ h => h))
  clear hr' hn' ht'
  go_wp2_with fail
  refine (CC2.out _ HR2.out).mono ?_
  rintro e w3 ⟨v2, rfl, hr', hn', ht'⟩
  obtain ⟨lo2, lc2, rfl, -⟩ := id hn'.now
  have hz3 := ht'.size
  have HX3 : Hid (w3.heap[w.heap.size]? = some (.cells #[.int .i64 0, .slice none 0 0, .slice none 0 0, .slice none 0 0] 48 (0, 0))) := (ht'.block _ (by omega) (fun e => hne e.symm)).trans HX2.out
  have HN1_3 := ghid (HN1_2.out.touch ht' (fun k _ h => by omega))
  have HN2_3 := ghid (hn'.mono (by omega : w.heap.size + 1 ≤ _))
  have HR3 := ghid hr'
  have HT3 := ghid (HT2.out.trans ht' (fun _ _ h => h))
  clear hr' hn' ht'
  go_wp2_with fail
  refine (CC3.out _ HR3.out).mono ?_
  rintro e w4 ⟨v3, rfl, hr', hn', ht'⟩
  obtain ⟨lo3, lc3, rfl, -⟩ := id hn'.now
  have hz4 := ht'.size
  have HX4 : Hid (w4.heap[w.heap.size]? = some (.cells #[.int .i64 0, .slice none 0 0, .slice none 0 0, .slice none 0 0] 48 (0, 0))) := (ht'.block _ (by omega) (fun e => hne e.symm)).trans HX3.out
  have HN1_4 := ghid (HN1_3.out.touch ht' (fun k _ h => by omega))
  have HN2_4 := ghid (HN2_3.out.touch ht' (fun k _ h => by omega))
  have HN3_4 := ghid (hn'.mono (by omega : w.heap.size + 1 ≤ _))
  have HR4 := ghid hr'
  have HT4 := ghid (HT3.out.trans ht' (fun _ _ h => h))
  clear hr' hn' ht'
  have c0 : w4.cell? ⟨w.heap.size, 0, none⟩ = some (.int .i64 0) := Lib.cell_of_heap HX4.out 0
  have c1 : w4.cell? ⟨w.heap.size, 1, none⟩ = some (.slice none 0 0) := Lib.cell_of_heap HX4.out 1
  have c2 : w4.cell? ⟨w.heap.size, 2, none⟩ = some (.slice none 0 0) := Lib.cell_of_heap HX4.out 2
  have c3 : w4.cell? ⟨w.heap.size, 3, none⟩ = some (.slice none 0 0) := Lib.cell_of_heap HX4.out 3
  have cf : ∀ j, w4.frozen? ⟨w.heap.size, j, none⟩ = false := fun j => Lib.frozen_of_heap HX4.out j
  have HTA := ghid (rtouchz4 HT4.out (.inr (Nat.le_refl _)) (.int .i64 x0) (.slice lo1 x1.length lc1) (.slice lo2 x2.length lc2) (.slice lo3 x3.length lc3))
  have HTB := ghid (rtouchz4 (TouchG.refl w4 (fun k => k = w.heap.size)) (.inl rfl) (.int .i64 x0) (.slice lo1 x1.length lc1) (.slice lo2 x2.length lc2) (.slice lo3 x3.length lc3))
  go_wp2
  refine bodyPost_ret (v := .agg #[.int .i64 x0, .slice lo1 x1.length lc1, .slice lo2 x2.length lc2, .slice lo3 x3.length lc3]) (by simp [results, Tryz.results118, go_sem, c0, c1, c2, c3]) rfl ?_
  refine ⟨_, rfl, rs_touch HR4.out HTB.out hne, ?_, HTA.out⟩
  have hA := (HN1_4.out.touch HTB.out (fun k _ h => by omega)).mono (Nat.le_succ _)
  have hB := (HN2_4.out.touch HTB.out (fun k _ h => by omega)).mono (Nat.le_succ _)
  have hC := (HN3_4.out.touch HTB.out (fun k _ h => by omega)).mono (Nat.le_succ _)
  exact fun u hu => ⟨_, _, _, rfl, hA u hu, hB u hu, hC u hu⟩

end Go.Proofs.YtijilhbdbeajjaaGreatDoor

namespace Go.Proofs.YtijilhbdbeajjaaGreatDoor

open Go.RowKit

/-- 'string([]byte{a, b, c, d})' -/
theorem conv4 (W : World) (a b c d : Int) :
    (convert 147 9 (.slice (some ⟨W.heap.size, 0, none⟩) 4 4)).run Tryz.prog (W.alloc (.cells #[.int .u8 a, .int .u8 b, .int .u8 c, .int .u8 d] 5))
      = .ok (.string (strOfNums [a, b, c, d])) (W.alloc (.cells #[.int .u8 a, .int .u8 b, .int .u8 c, .int .u8 d] 5)) := by
  refine run_convert_bytes_arg _ 147 5 Tryz.underlying147 Tryz.underlying5 W.heap.size 0 4 4 [a, b, c, d] rfl ?_ 9 Tryz.underlying9
  intro i hi
  match i, hi with
  | 0, _ => simp
  | 1, _ => simp
  | 2, _ => simp
  | 3, _ => simp

set_option maxHeartbeats 400000 in
theorem seal_any (s : ByteArray) (w : World) (hs : s.size ≤ maxLen) :
    Calls Tryz.prog 76 #[.string s] w fun e w' => e = .returned (.string (sealOut s)) ∧ Below w.heap.size w w' := by
  unfold maxLen at hs
  have hcv := conv4
  go_enter Tryz.func76, Tryz.ntmps76
  go_wp2
  go_loop [3, 4, 8] (fun x y i => ∃ k : Nat, k ≤ s.size ∧ i = .int .i64 k ∧ x = .int .i64 (sealGo (s.data.toList.take k)).1 ∧ y = .int .i64 (sealGo (s.data.toList.take k)).2) (fun _ _ i => s.size - (intOf i).toNat)
  case atStart => exact ⟨0, Nat.zero_le _, rfl, rfl, rfl⟩
  case round =>
    obtain ⟨k, hk, rfl, rfl, rfl⟩ := hrel
    obtain ⟨b1, b2, b3, b4⟩ := sealGo_bd (s.data.toList.take k)
    by_cases hlt : k < s.size
    · have HS : Hid (sealGo (s.data.toList.take (k + 1)) = (((sealGo (s.data.toList.take k)).1 + s[k].toNat) % 65521, ((sealGo (s.data.toList.take k)).2 + ((sealGo (s.data.toList.take k)).1 + s[k].toNat) % 65521) % 65521)) := by
        rw [take_snoc s k hlt]; exact sealGo_snoc _ _
      have hby : ((s[k].toNat : Nat) : Int) ≤ 255 := by have := s[k].toNat_lt; omega
      go_wp2
      go_round
      case rel => exact ⟨k + 1, by omega, by go_num, by rw [HS.out], by rw [HS.out]⟩
      case measure => simp [intOf]; omega
    · have HA : Hid (sealGo (s.data.toList.take k) = sealGo s.data.toList) := by rw [take_all s k (by omega)]; exact rfl
      go_wp2
      go_ret
      refine ⟨?_, (Below.refl _ _).alloc (Nat.le_refl _) _⟩
      rw [HA.out]; rfl

end Go.Proofs.YtijilhbdbeajjaaGreatDoor

namespace Go.Proofs.YtijilhbdbeajjaaGreatDoor

open Go.RowKit

set_option maxHeartbeats 800000 in
theorem unseal_long (s : ByteArray) (w : World) (hs : s.size ≤ 140737488351232) (h : 5000 < s.size) :
    Calls Tryz.prog 117 #[.string s] w fun e w' => e = .returned (.tuple #[.string ⟨#[]⟩, .int .i64 1]) ∧ Below w.heap.size w w' := by
  go_enter Tryz.func117, Tryz.ntmps117
  go_wp2
  go_ret2
  exact ⟨rfl, Below.refl _ _⟩

set_option maxHeartbeats 800000 in
theorem unseal_short (s : ByteArray) (w : World) (h : s.size < 4) :
    Calls Tryz.prog 117 #[.string s] w fun e w' => e = .returned (.tuple #[.string ⟨#[]⟩, .int .i64 5]) ∧ Below w.heap.size w w' := by
  go_enter Tryz.func117, Tryz.ntmps117
  go_wp2
  go_ret2
  exact ⟨rfl, Below.refl _ _⟩

set_option maxRecDepth 100000 in
set_option maxHeartbeats 1600000 in
theorem unseal_ok (s : ByteArray) (w : World) (h1 : s.size ≤ 5000) (h2 : 4 ≤ s.size) (h3 : sealOut (s.extract 0 (s.size - 4)) = s.extract (s.size - 4) s.size) :
    Calls Tryz.prog 117 #[.string s] w fun e w' => e = .returned (.tuple #[.string (s.extract 0 (s.size - 4)), .int .i64 0]) ∧ Below w.heap.size w w' := by
  have HT : Hid (((s.size : Int) - 4).toNat = s.size - 4) := (by omega : ((s.size : Int) - 4).toNat = s.size - 4)
  have hmx : (s.extract 0 (s.size - 4)).size ≤ maxLen := by rw [ByteArray.size_extract]; unfold maxLen; omega
  have CT : Hid (∀ u, Calls Tryz.prog 76 #[.string (s.extract 0 ((s.size : Int) - 4).toNat)] u fun e w' => e = .returned (.string (s.extract ((s.size : Int) - 4).toNat s.size)) ∧ Below u.heap.size u w') := by unfold Hid; rw [HT.out, ← h3]; exact fun u => seal_any _ u hmx
  clear h3
  have hi0 : (0 : Int) ≤ (s.size : Int) - 4 := by omega
  have hi1 : (s.size : Int) - 4 ≤ (s.size : Int) := by omega
  clear hmx
  go_enter Tryz.func117, Tryz.ntmps117
  go_wp2_with fail
  go_region_held3 (fun _ => True) (go_keep) (first
      | (go_at_call 76; refine (CT.out _).mono ?_; rintro e w1 ⟨rfl, hb1⟩))
  all_goals
    have HB1 : Hid (Below w.heap.size w w1) := ((Below.refl w.heap.size w).drew).trans hb1
    clear hb1 CT
    go_wp2
    go_ret2
    exact ⟨by rw [HT.out]; rfl, HB1.out⟩

set_option maxRecDepth 100000 in
set_option maxHeartbeats 1600000 in
theorem unseal_sum (s : ByteArray) (w : World) (h1 : s.size ≤ 5000) (h2 : 4 ≤ s.size) (h3 : sealOut (s.extract 0 (s.size - 4)) ≠ s.extract (s.size - 4) s.size) :
    Calls Tryz.prog 117 #[.string s] w fun e w' => e = .returned (.tuple #[.string ⟨#[]⟩, .int .i64 15]) ∧ Below w.heap.size w w' := by
  have HT : Hid (((s.size : Int) - 4).toNat = s.size - 4) := (by omega : ((s.size : Int) - 4).toNat = s.size - 4)
  have hmx : (s.extract 0 (s.size - 4)).size ≤ maxLen := by rw [ByteArray.size_extract]; unfold maxLen; omega
  obtain ⟨so, hso⟩ : ∃ so, so = sealOut (s.extract 0 (s.size - 4)) := ⟨_, rfl⟩
  have CS : Hid (∀ u, Calls Tryz.prog 76 #[.string (s.extract 0 (s.size - 4))] u fun e w' => e = .returned (.string so) ∧ Below u.heap.size u w') := by unfold Hid; rw [hso]; exact fun u => seal_any _ u hmx
  have CT : Hid (∀ u, Calls Tryz.prog 76 #[.string (s.extract 0 ((s.size : Int) - 4).toNat)] u fun e w' => e = .returned (.string so) ∧ Below u.heap.size u w') := by unfold Hid; rw [HT.out]; exact CS.out
  clear CS
  rw [← hso] at h3
  have hnq : (so.toList == (s.extract ((s.size : Int) - 4).toNat s.size).toList) = false := by
    rw [HT.out, beq_eq_false_iff_ne]
    intro e
    rw [ByteArray.toList_eq, ByteArray.toList_eq] at e
    exact h3 (bytes_ext e)
  clear h3 hso
  have hi0 : (0 : Int) ≤ (s.size : Int) - 4 := by omega
  have hi1 : (s.size : Int) - 4 ≤ (s.size : Int) := by omega
  clear hmx
  go_enter Tryz.func117, Tryz.ntmps117
  go_wp2_with fail
  go_region_held3 (fun _ => True) (go_keep) (first
      | (go_at_call 76; refine (CT.out _).mono ?_; rintro e w1 ⟨rfl, hb1⟩))
  all_goals
    have HB1 : Hid (Below w.heap.size w w1) := ((Below.refl w.heap.size w).drew).trans hb1
    clear hb1 CT
    go_wp2
    go_ret2
    exact ⟨rfl, HB1.out⟩

end Go.Proofs.YtijilhbdbeajjaaGreatDoor

namespace Go.Proofs.YtijilhbdbeajjaaGreatDoor

open Go.RowKit

theorem rs_str_ne {b : ByteArray} (h : b.size ≠ 0) : b.toList.isEmpty = false := by
  rw [ByteArray.toList_eq]
  cases hb : b.data.toList with
  | nil =>
    have : b.data.toList.length = b.size := by simp
    rw [hb] at this
    exact absurd this.symm h
  | cons x t => rfl

theorem rsEnd_any (rb : Nat) (r : ByteArray × Int) (w : World) (hr : IsRs rb r w) :
    Calls Tryz.prog 119 #[.pointer (some ⟨rb, 0, none⟩)] w fun x w' => x = .returned (.int .i64 (endE r)) ∧ w' = w := by
  have s0 : w.cell? ⟨rb, 0, none⟩ = some (.string r.1) := cell_of_row w rb 0 _ _ _ hr
  have s1 : w.cell? ⟨rb, 1, none⟩ = some (.int .i64 r.2) := cell_of_row w rb 1 _ _ _ hr
  clear hr
  unfold endE
  obtain ⟨s, e⟩ := r
  simp only at s0 s1 ⊢
  by_cases he : e = 0
  · subst he
    by_cases hz : s.size = 0
    · obtain rfl := size_zero hz
      rw [if_neg (fun h => h.2 hz)]
      clear hz
      go_enter Tryz.func119, Tryz.ntmps119
      go_wp2
      go_ret
      exact ⟨rfl, rfl⟩
    · rw [if_pos ⟨rfl, hz⟩]
      have hne := rs_str_ne hz
      clear hz
      go_enter Tryz.func119, Tryz.ntmps119
      go_wp2
      go_ret
      exact ⟨rfl, rfl⟩
  · rw [if_neg (fun h => he h.1)]
    have heb : (e == 0) = false := by simpa using he
    clear he
    go_enter Tryz.func119, Tryz.ntmps119
    go_wp2
    go_ret
    exact ⟨rfl, rfl⟩

/-- A state of nothing. -/
theorem state_nil (w : World) (B : Nat) : StateR w B (.agg #[.int .i64 0, .slice none 0 0, .slice none 0 0, .slice none 0 0]) ⟨0, [], [], []⟩ :=
  ⟨_, _, _, rfl, ⟨none, 0, rfl, Nat.le_refl _, by simp, fun _ => rfl, fun h => absurd h (by simp)⟩, PairsR.nil _ _, SessR.nil _ _⟩

theorem zbelow4 {B : Nat} {w0 w : World} (h : Below B w0 w) {b : Nat} (hb : B ≤ b) (a0 a1 a2 a3 : Value) : Below B w0 ((((w.setCell ⟨b, 0, none⟩ a0).setCell ⟨b, 1, none⟩ a1).setCell ⟨b, 2, none⟩ a2).setCell ⟨b, 3, none⟩ a3) :=
  (((h.setCell (by simpa using hb) a0).setCell (by simpa using hb) a1).setCell (by simpa using hb) a2).setCell (by simpa using hb) a3

/-- What unseal refuses: so Decode. -/
theorem decode_unsealed (t : ByteArray) (e0 : Int) (w : World) (he : e0 ≠ 0) (hu : ∀ u, Calls Tryz.prog 117 #[.string t] u fun e w' => e = .returned (.tuple #[.string ⟨#[]⟩, .int .i64 e0]) ∧ Below u.heap.size u w') :
    Calls Tryz.prog 73 #[.string t] w fun e w' => e = .returned (.tuple #[.agg #[.int .i64 0, .slice none 0 0, .slice none 0 0, .slice none 0 0], .int .i64 e0]) ∧ Below w.heap.size w w' := by
  have CU := ghid hu
  have heb : (e0 != 0) = true := by simpa using he
  have hb0 : Below w.heap.size w (w.alloc (.cells #[.int .i64 0, .slice none 0 0, .slice none 0 0, .slice none 0 0] 48)) := (Below.refl _ _).alloc (Nat.le_refl _) _
  have HX0 : Hid ((w.alloc (.cells #[.int .i64 0, .slice none 0 0, .slice none 0 0, .slice none 0 0] 48)).heap[w.heap.size]? = some (.cells #[.int .i64 0, .slice none 0 0, .slice none 0 0, .slice none 0 0] 48 (0, 0))) := heap_alloc_new w _
  have hz0 : (w.alloc (.cells #[.int .i64 0, .slice none 0 0, .slice none 0 0, .slice none 0 0] 48)).heap.size = w.heap.size + 1 := by simp
  have HB0 := ghid hb0
  clear hu he hb0
  go_enter Tryz.func73, Tryz.ntmps73
  go_wp2_with fail
  refine (CU.out _).mono ?_
  rintro e w1 ⟨rfl, hb1⟩
  have HX1 : Hid (w1.heap[w.heap.size]? = _) := (hb1.block _ (by omega)).trans HX0.out
  have HB1 := ghid (HB0.out.trans (hb1.mono HB0.out.size))
  obtain ⟨c0, c1, c2, c3, cf, -⟩ := state_cells HX1.out
  clear hb1 CU
  go_wp2
  refine bodyPost_ret (v := .tuple #[.agg #[.int .i64 0, .slice none 0 0, .slice none 0 0, .slice none 0 0], .int .i64 e0]) (by simp [results, Tryz.results73, go_sem, c0, c1, c2, c3]) rfl ?_
  exact ⟨rfl, zbelow4 HB1.out (Nat.le_refl _) _ _ _ _⟩

set_option maxRecDepth 100000 in
set_option maxHeartbeats 3200000 in
theorem decode_read (t body : ByteArray) (w : World) (hz : body.size ≤ 140737488351232) (hu : ∀ u, Calls Tryz.prog 117 #[.string t] u fun e w' => e = .returned (.tuple #[.string body, .int .i64 0]) ∧ Below u.heap.size u w') (c : Int)
    (hc : c = if endE (snapR (body, 0)).2 ≠ 0 then endE (snapR (body, 0)).2 else checkM (snapR (body, 0)).1) :
    Calls Tryz.prog 73 #[.string t] w fun e w' => ∃ v', e = .returned (.tuple #[v', .int .i64 c]) ∧ NewR w.heap.size w' (fun u => StateR u u.heap.size v' (if c = 0 then (snapR (body, 0)).1 else ⟨0, [], [], []⟩)) ∧ Below w.heap.size w w' := by
  have CU := ghid hu
  have HZ := ghid hz
  obtain ⟨x, hx⟩ : ∃ x, x = (snapR (body, 0)).1 := ⟨_, rfl⟩
  obtain ⟨r, hr⟩ : ∃ r, r = (snapR (body, 0)).2 := ⟨_, rfl⟩
  rw [← hx, ← hr] at hc
  rw [← hx]
  obtain ⟨y, hy⟩ : ∃ y, y = if c = 0 then x else (⟨0, [], [], []⟩ : StateD) := ⟨_, rfl⟩
  rw [← hy]
  have HXX := ghid hx
  have HRR := ghid hr
  have HY0 : Hid (c = 0 → y = x) := fun h => by rw [hy, if_pos h]
  have HY1 : Hid (c ≠ 0 → y = ⟨0, [], [], []⟩) := fun h => by rw [hy, if_neg h]
  clear hx hr hy
  have hb0 : Below w.heap.size w (w.alloc (.cells #[.int .i64 0, .slice none 0 0, .slice none 0 0, .slice none 0 0] 48)) := (Below.refl _ _).alloc (Nat.le_refl _) _
  have HX0 : Hid ((w.alloc (.cells #[.int .i64 0, .slice none 0 0, .slice none 0 0, .slice none 0 0] 48)).heap[w.heap.size]? = some (.cells #[.int .i64 0, .slice none 0 0, .slice none 0 0, .slice none 0 0] 48 (0, 0))) := heap_alloc_new w _
  have hz0 : (w.alloc (.cells #[.int .i64 0, .slice none 0 0, .slice none 0 0, .slice none 0 0] 48)).heap.size = w.heap.size + 1 := by simp
  have HB0 := ghid hb0
  clear hu hz hb0
  go_enter Tryz.func73, Tryz.ntmps73
  go_wp2_with fail
  refine (CU.out _).mono ?_
  rintro e w1 ⟨rfl, hb1⟩
  have hz1 : w.heap.size + 1 ≤ w1.heap.size := by have := hb1.size; omega
  have HX1 : Hid (w1.heap[w.heap.size]? = _) := (hb1.block _ (by omega)).trans HX0.out
  have HB1 := ghid (HB0.out.trans (hb1.mono HB0.out.size))
  have hba : Below w1.heap.size w1 (w1.alloc (.cells #[.string body, .int .i64 0] 190)) := (Below.refl _ _).alloc (Nat.le_refl _) _
  have hz2 : (w1.alloc (.cells #[.string body, .int .i64 0] 190)).heap.size = w1.heap.size + 1 := by simp
  have HX2 : Hid ((w1.alloc (.cells #[.string body, .int .i64 0] 190)).heap[w.heap.size]? = _) := (hba.block _ (by omega)).trans HX1.out
  have HB2 := ghid (HB1.out.trans (hba.mono (by omega)))
  have hrs : IsRs w1.heap.size (body, 0) (w1.alloc (.cells #[.string body, .int .i64 0] 190)) := heap_alloc_new w1 _
  have CR := ghid (rs_state w1.heap.size (body, 0) _ HZ.out hrs)
  rw [← HXX.out, ← HRR.out] at CR
  clear hb1 CU hba hrs HXX HRR
  go_wp2_with fail
  refine CR.out.mono ?_
  rintro e w2 ⟨v, rfl, hr2, hn2, ht2⟩
  have hz3 := ht2.size
  have hst : StateR w2 w2.heap.size v x := hn2.now
  obtain ⟨lv, pv, sv, rfl, h1, h2, h3⟩ := id hst
  obtain ⟨lo, lc, rfl, -⟩ := id h1
  obtain ⟨po, pc, rfl, -⟩ := id h2
  obtain ⟨so, sc, rfl, -⟩ := id h3
  have HX3 : Hid (w2.heap[w.heap.size]? = _) := (ht2.block _ (by omega) (by omega)).trans HX2.out
  have HB3 := ghid (HB2.out.trans (ht2.below (B := w.heap.size) (by omega) (fun k hk => by omega)))
  have HR2 := ghid hr2
  have HST := ghid hst
  have HN2 := ghid (hn2.mono (by omega : w.heap.size + 1 ≤ _))
  have HN4 := ghid (HN2.out.touch (TouchG.of_below ((Below.refl w2.heap.size w2).alloc (Nat.le_refl _) (.cells #[.int .i64 x.index, .slice lo x.locks.length lc, .slice po x.pairs.length pc, .slice so x.sess.length sc] 48)) (Nat.le_refl _) (fun _ => False)) (fun _ _ h => h.elim))
  clear hst h1 h2 h3 hr2 hn2 ht2 CR HN2
  have hbb : Below w2.heap.size w2 (w2.alloc (.cells #[.int .i64 x.index, .slice lo x.locks.length lc, .slice po x.pairs.length pc, .slice so x.sess.length sc] 48)) := (Below.refl _ _).alloc (Nat.le_refl _) _
  have HX4 : Hid ((w2.alloc (.cells #[.int .i64 x.index, .slice lo x.locks.length lc, .slice po x.pairs.length pc, .slice so x.sess.length sc] 48)).heap[w.heap.size]? = _) := (hbb.block _ (by omega)).trans HX3.out
  have HY4 : Hid ((w2.alloc (.cells #[.int .i64 x.index, .slice lo x.locks.length lc, .slice po x.pairs.length pc, .slice so x.sess.length sc] 48)).heap[w2.heap.size]? = some (.cells #[.int .i64 x.index, .slice lo x.locks.length lc, .slice po x.pairs.length pc, .slice so x.sess.length sc] 48 (0, 0))) := heap_alloc_new w2 _
  have HB4 := ghid (HB3.out.trans (hbb.mono (by omega)))
  have HR4 := ghid (HR2.out.below hbb)
  have HST4 := ghid (HST.out.below hbb (Nat.le_refl _))
  have hz4 : (w2.alloc (.cells #[.int .i64 x.index, .slice lo x.locks.length lc, .slice po x.pairs.length pc, .slice so x.sess.length sc] 48)).heap.size = w2.heap.size + 1 := by simp
  obtain ⟨w3, hw3⟩ : ∃ w3, w3 = w2.alloc (.cells #[.int .i64 x.index, .slice lo x.locks.length lc, .slice po x.pairs.length pc, .slice so x.sess.length sc] 48) := ⟨_, rfl⟩
  obtain ⟨yb, hyb⟩ : ∃ yb, yb = w2.heap.size := ⟨_, rfl⟩
  have CE := ghid (rsEnd_any w1.heap.size r _ HR4.out)
  rw [← hw3] at HX4 HB4 HR4 HST4 hz4 CE HN4
  rw [← hw3, ← hyb] at HY4
  rw [← hyb] at hz4 HST4
  have hzy : w.heap.size + 1 ≤ yb := by omega
  have HW3 := ghid hw3
  have HYB := ghid hyb
  clear hbb hw3 hyb
  go_wp2_with fail
  rw [← HW3.out]
  refine CE.out.mono ?_
  rintro e w4 ⟨rfl, rfl⟩
  rw [← HYB.out]
  clear CE HR4 HW3
  by_cases hE : endE r = 0
  · rw [if_neg (fun h => h hE)] at hc
    rw [hE]
    obtain ⟨d0, d1, d2, d3, df, hyl⟩ := state_cells HY4.out
    have CK := ghid (machCheck_any _ x w4 yb HST4.out (by omega))
    rw [← hc] at CK
    clear hE hc
    go_wp2_with fail
    refine CK.out.mono ?_
    rintro e w5 ⟨rfl, hb5⟩
    have HX5 : Hid (w5.heap[w.heap.size]? = _) := (hb5.block _ (by omega)).trans HX4.out
    have HY5 : Hid (w5.heap[yb]? = _) := (hb5.block _ (by omega)).trans HY4.out
    have HB5 := ghid (HB4.out.trans (hb5.mono HB4.out.size))
    have HST5 := ghid (HST4.out.below hb5 (by omega))
    have hz5 := hb5.size
    have HN5 := ghid (HN4.out.touch (TouchG.of_below hb5 (Nat.le_refl _) (fun _ => False)) (fun _ _ h => h.elim))
    obtain ⟨c0, c1, c2, c3, cf, -⟩ := state_cells HX5.out
    obtain ⟨d0, d1, d2, d3, df, hyl⟩ := state_cells HY5.out
    clear hb5 CK
    by_cases hc0 : c = 0
    · subst hc0
      have HY := ghid (HY0.out rfl)
      go_wp2
      refine bodyPost_ret (v := .tuple #[.agg #[.int .i64 x.index, .slice lo x.locks.length lc, .slice po x.pairs.length pc, .slice so x.sess.length sc], .int .i64 0]) (by simp [results, Tryz.results73, go_sem, c0, c1, c2, c3]) rfl ?_
      refine ⟨_, rfl, ?_, zbelow4 HB5.out (Nat.le_refl _) _ _ _ _⟩
      rw [HY.out]
      exact (HN5.out.touch (rtouchz4 (TouchG.refl w5 (fun k => k = w.heap.size)) (.inl rfl) _ _ _ _) (fun k _ h => by omega)).mono (by omega)
    · have HY := ghid (HY1.out hc0)
      have hcb : (c != 0) = true := by simpa using hc0
      clear hc0
      go_wp2
      refine bodyPost_ret (v := .tuple #[.agg #[.int .i64 0, .slice none 0 0, .slice none 0 0, .slice none 0 0], .int .i64 c]) (by simp [results, Tryz.results73, go_sem, c0, c1, c2, c3]) rfl ?_
      exact ⟨_, rfl, by rw [HY.out]; exact NewR.of _ _ fun _ => state_nil _ _, zbelow4 HB5.out (Nat.le_refl _) _ _ _ _⟩
  · rw [if_pos hE] at hc
    rw [← hc] at hE ⊢
    have HY := ghid (HY1.out hE)
    have hcb : (c != 0) = true := by simpa using hE
    obtain ⟨c0, c1, c2, c3, cf, -⟩ := state_cells HX4.out
    clear hE hc
    go_wp2
    refine bodyPost_ret (v := .tuple #[.agg #[.int .i64 0, .slice none 0 0, .slice none 0 0, .slice none 0 0], .int .i64 c]) (by simp [results, Tryz.results73, go_sem, c0, c1, c2, c3]) rfl ?_
    exact ⟨_, rfl, by rw [HY.out]; exact NewR.of _ _ fun _ => state_nil _ _, zbelow4 HB4.out (Nat.le_refl _) _ _ _ _⟩

theorem decode_new (t : ByteArray) (w : World) (ht : t.size ≤ 140737488351232) :
    Calls Tryz.prog 73 #[.string t] w fun e w' => ∃ v', e = .returned (.tuple #[v', .int .i64 (snapE t)]) ∧ NewR w.heap.size w' (fun u => StateR u u.heap.size v' (snapL t)) ∧ Below w.heap.size w w' := by
  by_cases h1 : 5000 < t.size
  · have e1 : snapE t = 1 := by unfold snapE; rw [if_pos h1]
    have e2 : snapL t = ⟨0, [], [], []⟩ := by unfold snapL; rw [if_neg (by rw [e1]; decide)]
    rw [e1, e2]
    refine (decode_unsealed t 1 w (by decide) (fun u => unseal_long t u ht h1)).mono ?_
    rintro e w' ⟨rfl, hb⟩
    exact ⟨_, rfl, NewR.of _ _ fun _ => state_nil _ _, hb⟩
  · by_cases h2 : t.size < 4
    · have e1 : snapE t = 5 := by unfold snapE; rw [if_neg h1, if_pos h2]
      have e2 : snapL t = ⟨0, [], [], []⟩ := by unfold snapL; rw [if_neg (by rw [e1]; decide)]
      rw [e1, e2]
      refine (decode_unsealed t 5 w (by decide) (fun u => unseal_short t u h2)).mono ?_
      rintro e w' ⟨rfl, hb⟩
      exact ⟨_, rfl, NewR.of _ _ fun _ => state_nil _ _, hb⟩
    · by_cases h3 : sealOut (t.extract 0 (t.size - 4)) = t.extract (t.size - 4) t.size
      · have e1 : snapE t = if endE (snapR (t.extract 0 (t.size - 4), 0)).2 ≠ 0 then endE (snapR (t.extract 0 (t.size - 4), 0)).2 else checkM (snapR (t.extract 0 (t.size - 4), 0)).1 := by
          unfold snapE; rw [if_neg h1, if_neg h2, if_neg (fun h => h h3)]
        exact decode_read t (t.extract 0 (t.size - 4)) w (by rw [ByteArray.size_extract]; omega) (fun u => unseal_ok t u (by omega) (by omega) h3) (snapE t) e1
      · have e1 : snapE t = 15 := by unfold snapE; rw [if_neg h1, if_neg h2, if_pos h3]
        have e2 : snapL t = ⟨0, [], [], []⟩ := by unfold snapL; rw [if_neg (by rw [e1]; decide)]
        rw [e1, e2]
        refine (decode_unsealed t 15 w (by decide) (fun u => unseal_sum t u (by omega) (by omega) h3)).mono ?_
        rintro e w' ⟨rfl, hb⟩
        exact ⟨_, rfl, NewR.of _ _ fun _ => state_nil _ _, hb⟩

theorem decode_s (t : ByteArray) (w : World) (ht : t.size ≤ 140737488351232) :
    Calls Tryz.prog 73 #[.string t] w fun e w' => ∃ v', e = .returned (.tuple #[v', .int .i64 (snapE t)]) ∧ StateR w' w'.heap.size v' (snapL t) ∧ Below w.heap.size w w' :=
  (decode_new t w ht).mono fun _ _ ⟨v', e, h1, h2⟩ => ⟨v', e, h1.now, h2⟩

end Go.Proofs.YtijilhbdbeajjaaGreatDoor
