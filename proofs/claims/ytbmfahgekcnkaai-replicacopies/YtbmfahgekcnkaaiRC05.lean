/- Sessions as plain data: what may be, and what the calls do. Plain mathematics; no program; Sessions as they lie in memory: what a value reads as (joined by program) -/
import Derived.Test.YtbmfahgekcnkaaiRows
import Derived.Test.YtbmfahgekcnkaaiRC01
import Derived.Test.YtbmfahgekcnkaaiRC04
namespace Go.Proofs.Ytbmfahgekcnkaai

/-- A kept reply, as plain data. -/
structure KeptD where
  seq : Int
  code : Int
  n : Int
  text : ByteArray

/-- A session, as plain data. -/
structure SessD where
  client : Int
  id : Int
  acked : Int
  last : Int
  replies : List KeptD

end Go.Proofs.Ytbmfahgekcnkaai

namespace Go.Proofs.Ytbmfahgekcnkaai

open Go.RowKit

/-- The cells of a kept reply. -/
def keptCells (k : KeptD) : List Value := [.int .i64 k.seq, .int .i64 k.code, .int .i64 k.n, .string k.text]

theorem keptCells_len (k : KeptD) : (keptCells k).length = 4 := rfl

/-- The kept reply k lies at ⟨b, o, none⟩. -/
def KeptAt (w : World) (b o : Nat) (k : KeptD) : Prop :=
  w.cell? ⟨b, o, none⟩ = some (.int .i64 k.seq) ∧ w.cell? ⟨b, o + 1, none⟩ = some (.int .i64 k.code) ∧ w.cell? ⟨b, o + 2, none⟩ = some (.int .i64 k.n) ∧ w.cell? ⟨b, o + 3, none⟩ = some (.string k.text) ∧
    k.text.size ≤ 140737488351232 ∧ TagB 85 w b

/-- The value v reads in w as the kept replies ks; all their memory lies below block B. -/
def KeptsR (w : World) (B : Nat) (v : Value) (ks : List KeptD) : Prop :=
  ∃ ao cap, v = .slice ao ks.length cap ∧ ks.length ≤ cap ∧ ks.length * 40 ≤ 140737488351232 ∧ (ao = none → cap = 0) ∧
    (0 < ks.length → ∃ b off, ao = some ⟨b, off, none⟩ ∧ b < B ∧ ∀ (i : Nat) (x : KeptD), ks[i]? = some x → KeptAt w b (off + i * 4) x)

/-- The session x lies at ⟨b, o, none⟩. -/
def SessAt (w : World) (B : Nat) (b o : Nat) (x : SessD) : Prop :=
  ∃ lv, w.cell? ⟨b, o, none⟩ = some (.int .i64 x.client) ∧ w.cell? ⟨b, o + 1, none⟩ = some (.int .i64 x.id) ∧ w.cell? ⟨b, o + 2, none⟩ = some (.int .i64 x.acked) ∧
    w.cell? ⟨b, o + 3, none⟩ = some (.int .i64 x.last) ∧ w.cell? ⟨b, o + 4, none⟩ = some lv ∧ KeptsR w B lv x.replies ∧ TagB 81 w b

/-- The value v reads in w as the sessions ls; all their memory lies below block B. -/
def SessR (w : World) (B : Nat) (v : Value) (ls : List SessD) : Prop :=
  ∃ ao cap, v = .slice ao ls.length cap ∧ ls.length ≤ cap ∧ ls.length * 56 ≤ 140737488351232 ∧ (ao = none → cap = 0) ∧
    (0 < ls.length → ∃ b off, ao = some ⟨b, off, none⟩ ∧ b < B ∧ ∀ (i : Nat) (x : SessD), ls[i]? = some x → SessAt w B b (off + i * 5) x)

theorem KeptAt.below {w w' : World} {B b o : Nat} {x : KeptD} (h : KeptAt w b o x) (hlt : b < B) (hb : Below B w w') : KeptAt w' b o x := by
  obtain ⟨c0, c1, c2, c3, hs⟩ := h
  have key : ∀ o', w'.cell? ⟨b, o', none⟩ = w.cell? ⟨b, o', none⟩ := fun o' => hb.cell (p := ⟨b, o', none⟩) hlt
  exact ⟨(key _).trans c0, (key _).trans c1, (key _).trans c2, (key _).trans c3, hs.1, hs.2.block (hb.block b hlt)⟩

theorem KeptsR.below {w w' : World} {B : Nat} {v : Value} {xs : List KeptD} (h : KeptsR w B v xs) {B' : Nat} (hb : Below B' w w') (hB : B ≤ B') : KeptsR w' B v xs := by
  obtain ⟨ao, cap, rfl, h1, h2, h3, h4⟩ := h
  refine ⟨ao, cap, rfl, h1, h2, h3, fun hp => ?_⟩
  obtain ⟨b, off, rfl, hlt, hc⟩ := h4 hp
  exact ⟨b, off, rfl, hlt, fun i x hx => (hc i x hx).below (by omega) hb⟩

theorem KeptsR.mono {w : World} {B B' : Nat} {v : Value} {xs : List KeptD} (h : KeptsR w B v xs) (hB : B ≤ B') : KeptsR w B' v xs := by
  obtain ⟨ao, cap, rfl, h1, h2, h3, h4⟩ := h
  refine ⟨ao, cap, rfl, h1, h2, h3, fun hp => ?_⟩
  obtain ⟨b, off, rfl, hlt, hc⟩ := h4 hp
  exact ⟨b, off, rfl, by omega, hc⟩

theorem KeptsR.len {w : World} {B : Nat} {v : Value} {xs : List KeptD} (h : KeptsR w B v xs) : xs.length * 40 ≤ 140737488351232 := by
  obtain ⟨_, _, _, _, h2, _⟩ := h
  exact h2

theorem KeptsR.nil (w : World) (B : Nat) : KeptsR w B (.slice none 0 0) [] := ⟨none, 0, rfl, Nat.le_refl _, by simp, fun _ => rfl, fun h => absurd h (by simp)⟩

theorem SessAt.below {w w' : World} {B b o : Nat} {x : SessD} (h : SessAt w B b o x) (hlt : b < B) {B' : Nat} (hb : Below B' w w') (hB : B ≤ B') : SessAt w' B b o x := by
  obtain ⟨lv, c0, c1, c2, c3, c4, hl⟩ := h
  have key : ∀ o', w'.cell? ⟨b, o', none⟩ = w.cell? ⟨b, o', none⟩ := fun o' => hb.cell (p := ⟨b, o', none⟩) (by simp; omega)
  exact ⟨lv, (key _).trans c0, (key _).trans c1, (key _).trans c2, (key _).trans c3, (key _).trans c4, hl.1.below hb hB, hl.2.block (hb.block b (by omega))⟩

theorem SessAt.mono {w : World} {B B' b o : Nat} {x : SessD} (h : SessAt w B b o x) (hB : B ≤ B') : SessAt w B' b o x := by
  obtain ⟨lv, c0, c1, c2, c3, c4, hl⟩ := h
  exact ⟨lv, c0, c1, c2, c3, c4, hl.1.mono hB, hl.2⟩

theorem SessR.below {w w' : World} {B : Nat} {v : Value} {ls : List SessD} (h : SessR w B v ls) {B' : Nat} (hb : Below B' w w') (hB : B ≤ B') : SessR w' B v ls := by
  obtain ⟨ao, cap, rfl, h1, h2, h3, h4⟩ := h
  refine ⟨ao, cap, rfl, h1, h2, h3, fun hp => ?_⟩
  obtain ⟨b, off, rfl, hlt, hc⟩ := h4 hp
  exact ⟨b, off, rfl, hlt, fun i x hx => (hc i x hx).below hlt hb hB⟩

theorem SessR.mono {w : World} {B B' : Nat} {v : Value} {ls : List SessD} (h : SessR w B v ls) (hB : B ≤ B') : SessR w B' v ls := by
  obtain ⟨ao, cap, rfl, h1, h2, h3, h4⟩ := h
  refine ⟨ao, cap, rfl, h1, h2, h3, fun hp => ?_⟩
  obtain ⟨b, off, rfl, hlt, hc⟩ := h4 hp
  exact ⟨b, off, rfl, by omega, fun i x hx => (hc i x hx).mono hB⟩

theorem SessR.len {w : World} {B : Nat} {v : Value} {ls : List SessD} (h : SessR w B v ls) : ls.length * 56 ≤ 140737488351232 := by
  obtain ⟨_, _, _, _, h2, _⟩ := h
  exact h2

theorem SessR.nil (w : World) (B : Nat) : SessR w B (.slice none 0 0) [] := ⟨none, 0, rfl, Nat.le_refl _, by simp, fun _ => rfl, fun h => absurd h (by simp)⟩

theorem Try.infoKept : (Try.prog.info? 85).map (fun i => (i.zero, i.size, i.bytes)) = some (some (.agg #[.int .i64 0, .int .i64 0, .int .i64 0, .string ⟨#[]⟩]), 4, 40) := by kernel_rfl

theorem Try.infoSess : (Try.prog.info? 81).map (fun i => (i.zero, i.size, i.bytes)) = some (some (.agg #[.int .i64 0, .int .i64 0, .int .i64 0, .int .i64 0, .slice none 0 0]), 5, 56) := by kernel_rfl

end Go.Proofs.Ytbmfahgekcnkaai
