/- Plain mathematics of reading a command from bytes: what is read, and what is wrong first. It imports no program; What an entry does to a state, in plain lists: it stays one that may be, and who has a lock has a session (joined by program) -/
import Derived.Test.YtpcacaohknkdlagSE19
import Derived.Test.YtpcacaohknkdlagSE05
import Derived.Test.YtpcacaohknkdlagSE11
import Derived.Test.YtpcacaohknkdlagSE18
import Derived.Test.YtpcacaohknkdlagSE09
namespace Go.Proofs.Ytpcacaohknkdlag

open Go.RowKit

/-- A command, as plain data. -/
structure CmdD where
  kind : Int
  client : Int
  session : Int
  seq : Int
  acked : Int
  ok : Int
  a : ByteArray
  b : ByteArray
  n : Int

def CmdD.zero : CmdD := ⟨0, 0, 0, 0, 0, 0, ⟨#[]⟩, ⟨#[]⟩, 0⟩

end Go.Proofs.Ytpcacaohknkdlag

namespace Go.Proofs.Ytpcacaohknkdlag

open Go.RowKit

/-- Has the client one of these sessions? -/
def hasS (ls : List SessD) (c : Int) : Bool := ls.any fun x => decide (x.client = c)

theorem hasS_iff {ls : List SessD} {c : Int} : hasS ls c = true ↔ HasC ls c := by
  unfold hasS HasC
  rw [List.any_eq_true]
  constructor
  · rintro ⟨x, hx, e⟩
    exact ⟨x, hx, by simpa using e⟩
  · rintro ⟨x, hx, e⟩
    exact ⟨x, hx, by simpa using e⟩

/-- The locks behind clients of whom no session is fresh. -/
def dropL (fresh : List SessD) (ks : List LockD) (ss : List SessD) : List LockD := ss.foldl (fun ks x => if hasS fresh x.client = true then ks else goneL ks x.client) ks

/-- Without what is idle. -/
def dropM (s : StateD) : StateD := { s with locks := dropL (freshS s.sess s.index) s.locks s.sess, sess := freshS s.sess s.index }

/-- A state that may be. -/
structure GoodM (s : StateD) : Prop where
  sess : GoodS s.sess s.index
  locks : GoodL s.locks
  pairs : GoodP s.pairs

theorem GoodM.of {s : StateD} (h : checkM s = 0) : GoodM s := by
  obtain ⟨h1, h2, h3⟩ := checkM_zero h
  exact ⟨checkS_zero h1, GoodL.of h2, checkP_good h3⟩

theorem GoodL.drop {fresh : List SessD} {ss : List SessD} : ∀ {ks : List LockD}, GoodL ks → GoodL (dropL fresh ks ss) := by
  induction ss with
  | nil => intro ks h; exact h
  | cons x r ih =>
    intro ks h
    unfold dropL
    rw [List.foldl_cons]
    refine ih ?_
    split
    · exact h
    · exact h.gone _

/-- Behind the idle ones all that have locks are fresh, or had no session. -/
theorem holds_drop {fresh : List SessD} {ss : List SessD} : ∀ {ks : List LockD} {H : Int → Prop}, GoodL ks → (∀ x ∈ ss, 1 ≤ x.client) → Holds H ks → Holds (fun a => H a ∧ ∀ x ∈ ss, hasS fresh x.client = false → a ≠ x.client) (dropL fresh ks ss) := by
  induction ss with
  | nil => intro ks H _ _ h; exact h.mono fun a ha => ⟨ha, fun x hx => by cases hx⟩
  | cons x r ih =>
    intro ks H hg hc h
    unfold dropL
    rw [List.foldl_cons]
    split
    · rename_i hf
      refine (ih hg (fun y hy => hc y (by simp [hy])) h).mono fun a ha => ⟨ha.1, fun y hy hn => ?_⟩
      rcases List.mem_cons.1 hy with rfl | hy
      · rw [hf] at hn; cases hn
      · exact ha.2 y hy hn
    · refine (ih (hg.gone _) (fun y hy => hc y (by simp [hy])) (h.gone hg (hc x (by simp)))).mono fun a ha => ⟨ha.1.1, fun y hy hn => ?_⟩
      rcases List.mem_cons.1 hy with rfl | hy
      · exact ha.1.2
      · exact ha.2 y hy hn

/-- All that have a lock, or stand in a line, have a session. -/
def HeldM (s : StateD) : Prop := Holds (HasC s.sess) s.locks

theorem GoodM.drop {s : StateD} (h : GoodM s) : GoodM (dropM s) := ⟨h.sess.fresh _, h.locks.drop, h.pairs⟩

theorem HeldM.drop {s : StateD} (h : HeldM s) (hg : GoodM s) : HeldM (dropM s) := by
  refine (holds_drop hg.locks (fun x hx => ?_) h).mono fun a ha => ?_
  · have := rangeB_iff.1 (hg.sess.fine x hx).range
    exact this.1
  · obtain ⟨⟨x, hx, e⟩, h2⟩ := ha
    show HasC (freshS s.sess s.index) a
    rw [← hasS_iff]
    cases hn : hasS (freshS s.sess s.index) a with
    | true => rfl
    | false => exact absurd e.symm (h2 x hx (by rw [e]; exact hn))

end Go.Proofs.Ytpcacaohknkdlag
