/- machine.Check; Locks in memory of a call's own: a row of locks, each with a line of its own; One lock of a row put anew; Two laws on builtins at elements of several cells: copy into a row that is known; append of zero elements that grows. They import no program; slices.Clone of numbers: the same numbers, in new memory; strings.Clone: the same bytes, in new memory; by the shelf's contract on the library's inner function (joined by program) -/
import Derived.Laws.Rows
import Derived.WalkKit
import Derived.ProofKit
import Derived.Laws.CopyOwn
import Derived.Laws.AppendOwn
import Derived.RegionTactic
import Derived.Lib.SliceRun
import Derived.Shelf.LaysM
import Derived.Shelf.Strconv.Clone
import Derived.Test.YtbmfahgekcnkaajGreatDoorRows
import Derived.WalkLawsBesides
import Derived.Test.YtbmfahgekcnkaajGreatDoorRS00
import Derived.Test.YtbmfahgekcnkaajGreatDoorRS01
namespace Go.Proofs.YtbmfahgekcnkaajGreatDoor
open Go.RowKit
def checkM (s:StateD):Int:=if checkS s.sess s.index≠0 then checkS s.sess s.index else if checkL s.locks≠0 then checkL s.locks else checkP s.pairs
theorem checkM_sess {s:StateD} (h:checkS s.sess s.index≠0):checkM s=checkS s.sess s.index:=by unfold checkM;rw [if_pos h]
theorem checkM_locks {s:StateD} (h:checkS s.sess s.index=0) (h2:checkL s.locks≠0):checkM s=checkL s.locks:=by unfold checkM;rw [if_neg (by simpa using h),if_pos h2]
theorem checkM_pairs {s:StateD} (h:checkS s.sess s.index=0) (h2:checkL s.locks=0):checkM s=checkP s.pairs:=by unfold checkM;rw [if_neg (by simpa using h),if_neg (by simpa using h2)]
theorem checkM_zero {s:StateD} (h:checkM s=0):checkS s.sess s.index=0∧checkL s.locks=0∧checkP s.pairs=0:=by
 by_cases h1:checkS s.sess s.index=0
 ·by_cases h2:checkL s.locks=0
  ·exact ⟨h1,h2,by rw [checkM_pairs h1 h2] at h;exact h⟩
  ·rw [checkM_locks h1 h2] at h;exact absurd h h2
 ·rw [checkM_sess h1] at h;exact absurd h h1
theorem checkM_cases (s:StateD):(checkS s.sess s.index≠0∧checkM s=checkS s.sess s.index)∨(checkS s.sess s.index=0∧checkL s.locks≠0∧checkM s=checkL s.locks)∨(checkS s.sess s.index=0∧checkL s.locks=0∧checkM s=checkP s.pairs):=by
 by_cases h1:checkS s.sess s.index=0
 ·by_cases h2:checkL s.locks=0
  ·exact Or.inr (Or.inr ⟨h1,h2,checkM_pairs h1 h2⟩)
  ·exact Or.inr (Or.inl ⟨h1,h2,checkM_locks h1 h2⟩)
 ·exact Or.inl ⟨h1,checkM_sess h1⟩
set_option maxHeartbeats 800000 in
theorem machCheck_any (v:Value) (s:StateD) (w:World) (B:Nat) (hv:StateR w B v s) (hB:B≤w.heap.size) :
  Calls Tryz.prog 32 #[v] w fun e w'=>e=.returned (.int .i64 (checkM s))∧Below w.heap.size w w':=by
 obtain ⟨lv,pv,sv,rfl,h1,h2,h3⟩:=hv
 have CS:=ghid (fun (w':World) (hb:Below w.heap.size w w')=>sessCheck_any sv s.sess s.index w' B (h3.below hb hB) (by have:=hb.size;omega))
 have CL:=ghid (fun (w':World) (hb:Below w.heap.size w w')=>check_any lv s.locks w' B (h1.below hb hB) (by have:=hb.size;omega))
 have CP:=ghid (fun (w':World) (hb:Below w.heap.size w w')=>pairCheck_any pv s.pairs w' B (h2.below hb hB) (by have:=hb.size;omega))
 have HC:=ghid (checkM_cases s)
 obtain ⟨lo,lc,rfl⟩:=h1.slice
 obtain ⟨po,pc,rfl⟩:=h2.slice
 obtain ⟨so,sc,rfl⟩:=h3.slice
 obtain ⟨ln,hln⟩:∃ n,n=s.locks.length:=⟨_,rfl⟩
 obtain ⟨pn,hpn⟩:∃ n,n=s.pairs.length:=⟨_,rfl⟩
 obtain ⟨sn,hsn⟩:∃ n,n=s.sess.length:=⟨_,rfl⟩
 obtain ⟨ix,hix⟩:∃ n,n=s.index:=⟨_,rfl⟩
 obtain ⟨c1,hc1⟩:∃ n,n=checkS s.sess s.index:=⟨_,rfl⟩
 obtain ⟨c2,hc2⟩:∃ n,n=checkL s.locks:=⟨_,rfl⟩
 obtain ⟨c3,hc3⟩:∃ n,n=checkP s.pairs:=⟨_,rfl⟩
 obtain ⟨c0,hc0⟩:∃ n,n=checkM s:=⟨_,rfl⟩
 rw [←hsn,←hc1,←hix] at CS
 rw [←hln,←hc2] at CL
 rw [←hpn,←hc3] at CP
 rw [←hc1,←hc2,←hc3,←hc0] at HC
 rw [←hc0,←hix,←hln,←hpn,←hsn]
 have hb0:Below w.heap.size w (w.alloc (.cells #[.int .i64 ix,.slice lo ln lc,.slice po pn pc,.slice so sn sc] 34)):=(Below.refl _ _).alloc (Nat.le_refl _) _
 have HB0:=ghid hb0
 clear h1 h2 h3 hln hpn hsn hix hc1 hc2 hc3 hc0 hb0
 rcases HC.out with ⟨e1,e0⟩ | ⟨e1,e2,e0⟩ | ⟨e1,e2,e0⟩
 ·subst e0
  have hn:(c0 != 0)=true:=by simpa using e1
  clear HC e1
  go_enter Tryz.func32,Tryz.ntmps32
  go_wp2_with fail
  refine (CS.out _ HB0.out).mono ?_
  rintro e w1 ⟨rfl,hb1⟩
  have HB1:=ghid (HB0.out.trans (hb1.mono (by simp)))
  clear hb1
  go_wp2
  go_ret
  exact ⟨rfl,HB1.out⟩
 ·subst e0 e1
  have hn:(c0 != 0)=true:=by simpa using e2
  clear HC e2
  go_enter Tryz.func32,Tryz.ntmps32
  go_wp2_with fail
  refine (CS.out _ HB0.out).mono ?_
  rintro e w1 ⟨rfl,hb1⟩
  have HB1:=ghid (HB0.out.trans (hb1.mono (by simp)))
  obtain ⟨k1,k2⟩:=gcell hb1
  clear hb1
  go_wp2_with fail
  refine (CL.out _ HB1.out).mono ?_
  rintro e w2 ⟨rfl,hb2⟩
  have HB2:=ghid (HB1.out.trans (hb2.mono HB1.out.size))
  clear hb2
  go_wp2
  go_ret
  exact ⟨rfl,HB2.out⟩
 ·subst e0 e1 e2
  clear HC
  go_enter Tryz.func32,Tryz.ntmps32
  go_wp2_with fail
  refine (CS.out _ HB0.out).mono ?_
  rintro e w1 ⟨rfl,hb1⟩
  have HB1:=ghid (HB0.out.trans (hb1.mono (by simp)))
  obtain ⟨k1,k2⟩:=gcell hb1
  have hz1:w.heap.size < w1.heap.size:=by have:=hb1.size;simp at this;omega
  clear hb1
  go_wp2_with fail
  refine (CL.out _ HB1.out).mono ?_
  rintro e w2 ⟨rfl,hb2⟩
  have HB2:=ghid (HB1.out.trans (hb2.mono HB1.out.size))
  obtain ⟨k3,k4⟩:=gcell hb2
  clear hb2
  go_wp2_with fail
  refine (CP.out _ HB2.out).mono ?_
  rintro e w3 ⟨rfl,hb3⟩
  have HB3:=ghid (HB2.out.trans (hb3.mono HB2.out.size))
  clear hb3
  go_wp2
  go_ret
  exact ⟨rfl,HB3.out⟩
end Go.Proofs.YtbmfahgekcnkaajGreatDoor
namespace Go.Proofs.YtbmfahgekcnkaajGreatDoor
open Go.RowKit
def intCells (xs:List Int):List Value:=xs.map (Value.int .i64)
def lockCells (r:LockD × Value):List Value:=[.string r.1.name,.int .i64 r.1.holder,.int .i64 r.1.fence,r.2]
def flat (rs:List (LockD × Value)):List Value:=rs.flatMap lockCells
def lineBlocks (rs:List (LockD × Value)):List Nat:=rs.flatMap fun r=>r.2.ownBlock.toList
structure Lines (w:World) (base:Nat) (rs:List (LockD × Value)):Prop where
 each:∀ r∈rs,w.ownsRow base 3 1 r.2 r.1.line.length (intCells r.1.line)∧r.1.line.length*8≤140737488351232∧r.1.name.size≤140737488351232
 nodup:(lineBlocks rs).Nodup
structure OwnL (w:World) (base:Nat) (v:Value) (rs:List (LockD × Value)):Prop where
 row:w.ownsRow base 126 4 v rs.length (flat rs)
 lines:Lines w base rs
 apart:∀ b∈lineBlocks rs,v.ownBlock≠some b
 len:rs.length*56≤140737488351232
theorem ownsRow_keep {w w':World} {base:Nat} {e:TypeId} {size:Nat} {v:Value} {n:Nat} {xs:List Value} (h:w.ownsRow base e size v n xs) (hk:∀ b,v.ownBlock=some b→w'.heap[b]?=w.heap[b]?):w'.ownsRow base e size v n xs:=by
 obtain ⟨h1,h2⟩:=h
 refine ⟨h1,?_⟩
 rcases h2 with h2 | ⟨g,cap,cur,rfl,hg,hh,r⟩
 ·exact Or.inl h2
 ·exact Or.inr ⟨g,cap,cur,rfl,hg,by rw [hk g rfl];exact hh,r⟩
theorem ownsRow_base {w:World} {base base':Nat} {e:TypeId} {size:Nat} {v:Value} {n:Nat} {xs:List Value} (h:w.ownsRow base e size v n xs) (hk:∀ b,v.ownBlock=some b→base'≤b):w.ownsRow base' e size v n xs:=by
 obtain ⟨h1,h2⟩:=h
 refine ⟨h1,?_⟩
 rcases h2 with h2 | ⟨g,cap,cur,rfl,hg,hh,r⟩
 ·exact Or.inl h2
 ·exact Or.inr ⟨g,cap,cur,rfl,hk g rfl,hh,r⟩
theorem ownsRow_mono {w:World} {base base':Nat} {e:TypeId} {size:Nat} {v:Value} {n:Nat} {xs:List Value} (h:w.ownsRow base e size v n xs) (hb:base'≤base):w.ownsRow base' e size v n xs :=
 ownsRow_base h fun b hbk=>Nat.le_trans hb (h.lt b hbk).1
theorem ownsRow_below {w w':World} {base:Nat} {e:TypeId} {size:Nat} {v:Value} {n:Nat} {xs:List Value} (h:w.ownsRow base e size v n xs) {B:Nat} (hb:Below B w w') (hB:w.heap.size≤B):w'.ownsRow base e size v n xs :=
 ownsRow_keep h fun b hbk=>hb.block b (by have:=(h.lt b hbk).2;omega)
theorem mem_lineBlocks {rs:List (LockD × Value)} {b:Nat}:b∈lineBlocks rs ↔ ∃ r∈rs,r.2.ownBlock=some b:=by
 unfold lineBlocks
 rw [List.mem_flatMap]
 constructor
 ·rintro ⟨r,hr,hb⟩
  exact ⟨r,hr,by simpa using hb⟩
 ·rintro ⟨r,hr,hb⟩
  exact ⟨r,hr,by simp [hb]⟩
theorem Lines.lt {w:World} {base:Nat} {rs:List (LockD × Value)} (h:Lines w base rs) {b:Nat} (hb:b∈lineBlocks rs):base≤b∧b < w.heap.size:=by
 obtain ⟨r,hr,hbk⟩:=mem_lineBlocks.1 hb
 exact (h.each r hr).1.lt b hbk
theorem Lines.keep {w w':World} {base:Nat} {rs:List (LockD × Value)} (h:Lines w base rs) (hk:∀ b∈lineBlocks rs,w'.heap[b]?=w.heap[b]?):Lines w' base rs :=
 ⟨fun r hr=>⟨ownsRow_keep (h.each r hr).1 fun b hb=>hk b (mem_lineBlocks.2 ⟨r,hr,hb⟩),(h.each r hr).2⟩,h.nodup⟩
theorem Lines.mono {w:World} {base base':Nat} {rs:List (LockD × Value)} (h:Lines w base rs) (hb:base'≤base):Lines w base' rs :=
 ⟨fun r hr=>⟨ownsRow_mono (h.each r hr).1 hb,(h.each r hr).2⟩,h.nodup⟩
theorem Lines.below {w w':World} {base:Nat} {rs:List (LockD × Value)} (h:Lines w base rs) {B:Nat} (hb:Below B w w') (hB:w.heap.size≤B):Lines w' base rs :=
 h.keep fun b hbk=>hb.block b (by have:=(h.lt hbk).2;omega)
theorem Lines.nil (w:World) (base:Nat):Lines w base []:=⟨fun r hr=>absurd hr (by simp),by simp [lineBlocks]⟩
theorem lineBlocks_snoc (rs:List (LockD × Value)) (r:LockD × Value):lineBlocks (rs++[r])=lineBlocks rs++r.2.ownBlock.toList:=by simp [lineBlocks]
theorem flat_snoc (rs:List (LockD × Value)) (r:LockD × Value):flat (rs++[r])=flat rs++lockCells r:=by simp [flat]
theorem flat_length (rs:List (LockD × Value)):(flat rs).length=rs.length*4:=by
 induction rs with
 | nil=>rfl
 | cons r t ih=>simp only [flat,List.flatMap_cons,List.length_append] at ih ⊢;simp only [lockCells,List.length_cons,List.length_nil,ih];omega
theorem Lines.snoc {w:World} {base:Nat} {rs:List (LockD × Value)} {r:LockD × Value} (h:Lines w base rs) (hr:w.ownsRow base 3 1 r.2 r.1.line.length (intCells r.1.line)) (hl:r.1.line.length*8≤140737488351232) (hn:r.1.name.size≤140737488351232)
  (hne:∀ b,r.2.ownBlock=some b→b ∉ lineBlocks rs):Lines w base (rs++[r]):=by
 refine ⟨fun q hq=>?_,?_⟩
 ·rcases List.mem_append.1 hq with hq | hq
  ·exact h.each q hq
  ·have:q=r:=by simpa using hq
   subst this
   exact ⟨hr,hl,hn⟩
 ·rw [lineBlocks_snoc]
  refine List.nodup_append.2 ⟨h.nodup,?_,?_⟩
  ·cases hb:r.2.ownBlock <;> simp
  ·intro a ha b hb hab
   subst hab
   exact hne a (by simpa using hb) ha
theorem ownsRow_ints {w:World} {base B:Nat} {v:Value} {xs:List Int} (h:w.ownsRow base 3 1 v xs.length (intCells xs)) (hl:xs.length*8≤140737488351232) (hB:w.heap.size≤B):IntsR w B v xs:=by
 rcases h.2 with ⟨rfl,hn⟩ | ⟨g,cap,cur,rfl,_,hg,hle,hcm,hcs,htake⟩
 ·have:xs=[]:=List.eq_nil_of_length_eq_zero hn
  subst this
  exact ⟨none,0,rfl,Nat.le_refl _,hl,fun _=>rfl,fun h=>absurd h (by simp)⟩
 ·refine ⟨some ⟨g,0,none⟩,cap,rfl,hle,hl,(by intro h;cases h),fun _=>⟨g,0,rfl,?_,fun i x hx=>?_⟩⟩
  ·have:=(h.lt g rfl).2;omega
  ·have hi:i < xs.length:=(List.getElem?_eq_some_iff.1 hx).1
   have:=h.cellAt i (by omega)
   rw [Nat.zero_add,this]
   simp [intCells,hx]
theorem flat_at {rs:List (LockD × Value)} {i:Nat} {r:LockD × Value} (h:rs[i]?=some r) (j:Nat) (hj:j < 4):(flat rs)[i*4+j]?=(lockCells r)[j]?:=by
 induction rs generalizing i with
 | nil=>simp at h
 | cons q t ih =>
  have e:flat (q :: t)=lockCells q++flat t:=by simp [flat]
  have hl:(lockCells q).length=4:=rfl
  rw [e]
  cases i with
  | zero =>
   have:q=r:=by simpa using h
   subst this
   rw [Nat.zero_mul,Nat.zero_add,List.getElem?_append_left (by omega)]
  | succ i =>
   rw [List.getElem?_append_right (by omega),hl,show (i+1)*4+j - 4=i*4+j by omega]
   exact ih (by simpa using h)
theorem OwnL.reads {w:World} {base B:Nat} {v:Value} {rs:List (LockD × Value)} (h:OwnL w base v rs) (hB:w.heap.size≤B):LocksR w B v (rs.map (·.1)):=by
 have hrow:=h.row
 rcases hrow.2 with ⟨rfl,hn⟩ | ⟨g,cap,cur,rfl,_,hg,hle,hcm,hcs,htake⟩
 ·have:rs=[]:=List.eq_nil_of_length_eq_zero hn
  subst this
  exact ⟨none,0,rfl,Nat.le_refl _,by simp,fun _=>rfl,fun h=>absurd h (by simp)⟩
 ·refine ⟨some ⟨g,0,none⟩,cap,by rw [List.length_map],by rw [List.length_map];exact hle,by rw [List.length_map];exact h.len,(by intro h;cases h),fun _=>⟨g,0,rfl,?_,fun i x hx=>?_⟩⟩
  ·have:=(hrow.lt g rfl).2;omega
  ·rw [List.getElem?_map] at hx
   obtain ⟨r,hr,rfl⟩:=Option.map_eq_some_iff.1 hx
   have hi:i < rs.length:=(List.getElem?_eq_some_iff.1 hr).1
   have key:∀ j,j < 4→w.cell? ⟨g,0+i*4+j,none⟩=(lockCells r)[j]?:=fun j hj=>by
    rw [Nat.zero_add,hrow.cellAt (i*4+j) (by omega),flat_at hr j hj]
   have he:=h.lines.each r (List.mem_of_getElem? hr)
   exact ⟨r.2,by simpa [lockCells] using key 0 (by omega),by simpa [lockCells] using key 1 (by omega),by simpa [lockCells] using key 2 (by omega),by simpa [lockCells] using key 3 (by omega),ownsRow_ints he.1 he.2.1 hB,he.2.2⟩
theorem OwnL.keep {w w':World} {base:Nat} {v:Value} {rs:List (LockD × Value)} (h:OwnL w base v rs) (hr:∀ b,v.ownBlock=some b→w'.heap[b]?=w.heap[b]?) (hk:∀ b∈lineBlocks rs,w'.heap[b]?=w.heap[b]?):OwnL w' base v rs :=
 ⟨ownsRow_keep h.row hr,h.lines.keep hk,h.apart,h.len⟩
theorem OwnL.below {w w':World} {base:Nat} {v:Value} {rs:List (LockD × Value)} (h:OwnL w base v rs) {B:Nat} (hb:Below B w w') (hB:w.heap.size≤B):OwnL w' base v rs :=
 h.keep (fun b hbk=>hb.block b (by have:=(h.row.lt b hbk).2;omega)) (fun b hbk=>hb.block b (by have:=(h.lines.lt hbk).2;omega))
theorem OwnL.mono {w:World} {base base':Nat} {v:Value} {rs:List (LockD × Value)} (h:OwnL w base v rs) (hb:base'≤base):OwnL w base' v rs :=
 ⟨ownsRow_mono h.row hb,h.lines.mono hb,h.apart,h.len⟩
def LocksO (w:World) (base:Nat) (v:Value) (ls:List LockD):Prop:=∃ rs,rs.map (·.1)=ls∧OwnL w base v rs
theorem LocksO.reads {w:World} {base B:Nat} {v:Value} {ls:List LockD} (h:LocksO w base v ls) (hB:w.heap.size≤B):LocksR w B v ls:=by
 obtain ⟨rs,rfl,h⟩:=h
 exact h.reads hB
theorem LocksO.below {w w':World} {base:Nat} {v:Value} {ls:List LockD} (h:LocksO w base v ls) {B:Nat} (hb:Below B w w') (hB:w.heap.size≤B):LocksO w' base v ls:=by
 obtain ⟨rs,rfl,h⟩:=h
 exact ⟨rs,rfl,h.below hb hB⟩
theorem LocksO.mono {w:World} {base base':Nat} {v:Value} {ls:List LockD} (h:LocksO w base v ls) (hb:base'≤base):LocksO w base' v ls:=by
 obtain ⟨rs,rfl,h⟩:=h
 exact ⟨rs,rfl,h.mono hb⟩
end Go.Proofs.YtbmfahgekcnkaajGreatDoor
namespace Go.Proofs.YtbmfahgekcnkaajGreatDoor
open Go.RowKit
structure Touch (w w':World) (S:Nat→Prop):Prop where
 os:w'.os=w.os
 tape:w'.tape=w.tape
 output:w'.output=w.output
 size:w.heap.size≤w'.heap.size
 block:∀ k,k < w.heap.size→¬ S k→w'.heap[k]?=w.heap[k]?
def OwnB (g:Nat) (rs:List (LockD × Value)) (k:Nat):Prop:=k=g∨k∈lineBlocks rs
theorem Touch.refl (w:World) (S:Nat→Prop):Touch w w S:=⟨rfl,rfl,rfl,Nat.le_refl _,fun _ _ _=>rfl⟩
theorem Touch.setCell {w0 w:World} {S:Nat→Prop} (h:Touch w0 w S) {a:Addr} (ha:S a.block∨w0.heap.size≤a.block) (u:Value):Touch w0 (w.setCell a u) S :=
 ⟨h.os,h.tape,h.output,by have:=h.size;simpa [World.setCell] using this,fun k hk hs=>(Below.heap_setCell _ _ _ _ (by rintro rfl;rcases ha with ha | ha;exact hs ha;omega)).trans (h.block k hk hs)⟩
theorem Touch.grown {w0 w w':World} {S:Nat→Prop} {row:Option Nat} (h:Touch w0 w S) (hg:w.grownBy w' row) (hr:∀ k,row=some k→S k):Touch w0 w' S :=
 ⟨hg.os.trans h.os,hg.tape.trans h.tape,hg.output.trans h.output,Nat.le_trans h.size hg.size,fun k hk hs=>(hg.block k (by have:=h.size;omega) (fun e=>hs (hr k e.symm))).trans (h.block k hk hs)⟩
theorem Touch.of_below {w w':World} {B:Nat} (h:Below B w w') (hB:w.heap.size≤B) (S:Nat→Prop):Touch w w' S:=⟨h.os,h.tape,h.output,h.size,fun k hk _=>h.block k (by omega)⟩
theorem Touch.trans {a b c:World} {S T:Nat→Prop} (h:Touch a b S) (k:Touch b c T) (hs:∀ i,i < a.heap.size→T i→S i):Touch a c S :=
 ⟨k.os.trans h.os,k.tape.trans h.tape,k.output.trans h.output,Nat.le_trans h.size k.size,fun i hi hn=>(k.block i (by have:=h.size;omega) (fun ht=>hn (hs i hi ht))).trans (h.block i hi hn)⟩
theorem Touch.below {w w':World} {S:Nat→Prop} (h:Touch w w' S) {B:Nat} (hB:B≤w.heap.size) (hs:∀ k,S k→B≤k):Below B w w' :=
 ⟨h.os,h.tape,h.output,h.size,fun k hk=>h.block k (by omega) (fun e=>by have:=hs k e;omega)⟩
theorem Touch.cell {w w':World} {S:Nat→Prop} (h:Touch w w' S) {a:Addr} (ha:a.block < w.heap.size) (hs:¬ S a.block):w'.cell? a=w.cell? a:=World.cell?_of_block (w:=w) (h.block a.block ha hs)
theorem Touch.frozen {w w':World} {S:Nat→Prop} (h:Touch w w' S) {a:Addr} (ha:a.block < w.heap.size) (hs:¬ S a.block):w'.frozen? a=w.frozen? a:=World.frozen?_of_block (w:=w) (h.block a.block ha hs)
theorem flat_mid (p s:List (LockD × Value)) (r:LockD × Value):flat (p++r :: s)=flat p++(lockCells r++flat s):=by simp [flat]
theorem lineBlocks_mid (p s:List (LockD × Value)) (r:LockD × Value):lineBlocks (p++r :: s)=lineBlocks p++(r.2.ownBlock.toList++lineBlocks s):=by simp [lineBlocks]
theorem mid_at {p s:List (LockD × Value)} {r:LockD × Value}:(p++r :: s)[p.length]?=some r:=by simp
theorem split_at {rs:List (LockD × Value)} {i:Nat} {r:LockD × Value} (h:rs[i]?=some r):∃ p s,rs=p++r :: s∧p.length=i:=by
 obtain ⟨hi,he⟩:=List.getElem?_eq_some_iff.1 h
 refine ⟨rs.take i,rs.drop (i+1),?_,by rw [List.length_take];omega⟩
 rw [←he,←List.drop_eq_getElem_cons hi,List.take_append_drop]
section
variable {w w' : World} {base g n cap : Nat} {v : Value} {p s rs : List (LockD × Value)} {r r' : LockD × Value}
theorem OwnL.cellAt (h:OwnL w base (.slice (some ⟨g,0,none⟩) n cap) (p++r :: s)) (j:Nat) (hj:j < 4):w.cell? ⟨g,p.length*4+j,none⟩=(lockCells r)[j]?:=by
 have hrow:=h.row
 have hn:n=(p++r :: s).length:=by
  rcases hrow.2 with ⟨e,_⟩ | ⟨_,_,_,e,_⟩
  ·cases e
  ·simp only [Value.slice.injEq] at e;exact e.2.1
 subst hn
 rw [hrow.cellAt (p.length*4+j) (by simp;omega),flat_at mid_at j hj]
theorem OwnL.len_eq (h:OwnL w base (.slice (some ⟨g,0,none⟩) n cap) (p++r :: s)):n=(p++r :: s).length:=by
 rcases h.row.2 with ⟨e,_⟩ | ⟨_,_,_,e,_⟩
 ·cases e
 ·simp only [Value.slice.injEq] at e;exact e.2.1
theorem OwnL.frozenAt (h:OwnL w base (.slice (some ⟨g,0,none⟩) n cap) (p++r :: s)) (j:Nat):w.frozen? ⟨g,j,none⟩=false:=by
 have hn:=h.len_eq
 have:=h.row
 rw [←hn] at this
 exact this.frozenAt j
theorem OwnL.block (h:OwnL w base (.slice (some ⟨g,0,none⟩) n cap) (p++r :: s)):base≤g∧g < w.heap.size:=h.row.lt g rfl
theorem OwnL.line (h:OwnL w base v (p++r :: s)):w.ownsRow base 3 1 r.2 r.1.line.length (intCells r.1.line)∧r.1.line.length*8≤140737488351232∧r.1.name.size≤140737488351232 :=
 h.lines.each r (by simp)
theorem OwnL.lineNe (h:OwnL w base (.slice (some ⟨g,0,none⟩) n cap) (p++r :: s)) {b:Nat} (hb:r.2.ownBlock=some b):b≠g:=by
 intro e
 subst e
 exact h.apart b (mem_lineBlocks.2 ⟨r,by simp,hb⟩) rfl
theorem OwnL.put (h:OwnL w base v (p++r :: s)) (hrow:w'.ownsRow base 126 4 v (p++r' :: s).length (flat (p++r' :: s)))
  (hr:w'.ownsRow base 3 1 r'.2 r'.1.line.length (intCells r'.1.line)) (hl:r'.1.line.length*8≤140737488351232) (hn:r'.1.name.size≤140737488351232)
  (hk:∀ b∈lineBlocks p++lineBlocks s,w'.heap[b]?=w.heap[b]?)
  (hnew:∀ b,r'.2.ownBlock=some b→r.2.ownBlock=some b∨w.heap.size≤b):OwnL w' base v (p++r' :: s):=by
 have hnd:=h.lines.nodup
 rw [lineBlocks_mid] at hnd
 have hlt:∀ b∈lineBlocks (p++r :: s),b < w.heap.size:=fun b hb=>(h.lines.lt hb).2
 rw [lineBlocks_mid] at hlt
 have hfresh:∀ b,r'.2.ownBlock=some b→b ∉ lineBlocks p∧b ∉ lineBlocks s:=by
  intro b hb
  rcases hnew b hb with e | e
  ·rw [e] at hnd
   simp only [Option.toList_some,List.singleton_append] at hnd
   have h1:=List.nodup_append.1 hnd
   exact ⟨fun hm=>h1.2.2 b hm b (by simp) rfl,(List.nodup_cons.1 h1.2.1).1⟩
  ·exact ⟨fun hm=>absurd (hlt b (by simp [hm])) (by omega),fun hm=>absurd (hlt b (by simp [hm])) (by omega)⟩
 refine ⟨hrow,⟨fun q hq=>?_,?_⟩,?_,?_⟩
 ·rcases List.mem_append.1 hq with hq | hq
  ·have he:=h.lines.each q (by simp [hq])
   exact ⟨ownsRow_keep he.1 fun b hb=>hk b (List.mem_append_left _ (mem_lineBlocks.2 ⟨q,hq,hb⟩)),he.2⟩
  ·rcases List.mem_cons.1 hq with rfl | hq
   ·exact ⟨hr,hl,hn⟩
   ·have he:=h.lines.each q (by simp [hq])
    exact ⟨ownsRow_keep he.1 fun b hb=>hk b (List.mem_append_right _ (mem_lineBlocks.2 ⟨q,hq,hb⟩)),he.2⟩
 ·rw [lineBlocks_mid]
  have h1:=List.nodup_append.1 hnd
  have h2:=List.nodup_append.1 h1.2.1
  refine List.nodup_append.2 ⟨h1.1,List.nodup_append.2 ⟨?_,h2.2.1,?_⟩,?_⟩
  ·cases r'.2.ownBlock <;> simp
  ·intro a ha b hb hab
   subst hab
   exact (hfresh a (by simpa using ha)).2 hb
  ·intro a ha b hb hab
   subst hab
   rcases List.mem_append.1 hb with hb | hb
   ·exact (hfresh a (by simpa using hb)).1 ha
   ·exact h1.2.2 a ha a (List.mem_append_right _ hb) rfl
 ·intro b hb e
  rw [lineBlocks_mid] at hb
  rcases List.mem_append.1 hb with hb | hb
  ·exact h.apart b (by rw [lineBlocks_mid];exact List.mem_append_left _ hb) e
  ·rcases List.mem_append.1 hb with hb | hb
   ·rcases hnew b (by simpa using hb) with e2 | e2
    ·exact h.apart b (by rw [lineBlocks_mid];simp [e2]) e
    ·have:=(h.row.lt b e).2
     omega
   ·exact h.apart b (by rw [lineBlocks_mid];exact List.mem_append_right _ (List.mem_append_right _ hb)) e
 ·have:=h.len
  simpa using this
theorem set_mid (p s:List (LockD × Value)) (r:LockD × Value) (j:Nat) (u:Value) (hj:j < 4):(flat (p++r :: s)).set (p.length*4+j) u=flat p++((lockCells r).set j u++flat s):=by
 have hl:(lockCells r).length=4:=rfl
 rw [flat_mid,List.set_append_right _ _ (by rw [flat_length];omega),flat_length,show p.length*4+j - p.length*4=j by omega,List.set_append_left _ _ (by omega)]
theorem row_set (h:w.ownsRow base 126 4 (.slice (some ⟨g,0,none⟩) n cap) (p++r :: s).length (flat (p++r :: s))) (hn:n=(p++r :: s).length) (j:Nat) (u:Value) (hj:j < 4) (hr:(lockCells r).set j u=lockCells r') :
  (w.setCell ⟨g,p.length*4+j,none⟩ u).ownsRow base 126 4 (.slice (some ⟨g,0,none⟩) n cap) (p++r' :: s).length (flat (p++r' :: s)):=by
 subst hn
 have:=(h.stored (p.length*4+j) u).1
 rw [set_mid p s r j u hj,hr,←flat_mid] at this
 have e:(p++r' :: s).length=(p++r :: s).length:=by simp
 rw [e]
 exact this
theorem OwnL.setHolder (h:OwnL w base (.slice (some ⟨g,0,none⟩) n cap) (p++r :: s)) (a:Int) :
  OwnL (w.setCell ⟨g,p.length*4+1,none⟩ (.int .i64 a)) base (.slice (some ⟨g,0,none⟩) n cap) (p++({ r.1 with holder:=a },r.2) :: s):=by
 have hl:=h.line
 have key:∀ b,b≠g→(w.setCell ⟨g,p.length*4+1,none⟩ (.int .i64 a)).heap[b]?=w.heap[b]?:=fun b hb=>heap_setCell_other _ _ _ _ (by simpa using hb)
 refine h.put (row_set h.row h.len_eq 1 _ (by omega) rfl) (ownsRow_keep hl.1 fun b hb=>key b (h.lineNe hb)) hl.2.1 hl.2.2 (fun b hb=>key b ?_) (fun b hb=>Or.inl hb)
 intro e
 exact h.apart b (by rw [lineBlocks_mid];rcases List.mem_append.1 hb with hb | hb <;> simp [hb]) (by rw [e];rfl)
theorem OwnL.setFence (h:OwnL w base (.slice (some ⟨g,0,none⟩) n cap) (p++r :: s)) (a:Int) :
  OwnL (w.setCell ⟨g,p.length*4+2,none⟩ (.int .i64 a)) base (.slice (some ⟨g,0,none⟩) n cap) (p++({ r.1 with fence:=a },r.2) :: s):=by
 have hl:=h.line
 have key:∀ b,b≠g→(w.setCell ⟨g,p.length*4+2,none⟩ (.int .i64 a)).heap[b]?=w.heap[b]?:=fun b hb=>heap_setCell_other _ _ _ _ (by simpa using hb)
 refine h.put (row_set h.row h.len_eq 2 _ (by omega) rfl) (ownsRow_keep hl.1 fun b hb=>key b (h.lineNe hb)) hl.2.1 hl.2.2 (fun b hb=>key b ?_) (fun b hb=>Or.inl hb)
 intro e
 exact h.apart b (by rw [lineBlocks_mid];rcases List.mem_append.1 hb with hb | hb <;> simp [hb]) (by rw [e];rfl)
theorem OwnL.setLine {w1:World} {lv:Value} {xs:List Int} (h:OwnL w base (.slice (some ⟨g,0,none⟩) n cap) (p++r :: s)) (hg:w.grownBy w1 r.2.ownBlock) (ho:w1.ownsRow base 3 1 lv xs.length (intCells xs)) (hl:xs.length*8≤140737488351232)
  (hnew:∀ b,lv.ownBlock=some b→r.2.ownBlock=some b∨w.heap.size≤b) :
  OwnL (w1.setCell ⟨g,p.length*4+3,none⟩ lv) base (.slice (some ⟨g,0,none⟩) n cap) (p++({ r.1 with line:=xs },lv) :: s):=by
 have hgb:=h.block
 have hln:=h.line
 have hrne:r.2.ownBlock≠some g:=fun e=>h.lineNe e rfl
 have hgrow:w1.heap[g]?=w.heap[g]?:=hg.block g hgb.2 (Ne.symm hrne)
 have key:∀ b,b≠g→(w1.setCell ⟨g,p.length*4+3,none⟩ lv).heap[b]?=w1.heap[b]?:=fun b hb=>heap_setCell_other _ _ _ _ (by simpa using hb)
 refine h.put (row_set (ownsRow_keep h.row fun b hb=>?_) h.len_eq 3 _ (by omega) rfl) (ownsRow_keep ho fun b hb=>key b ?_) hl hln.2.2 (fun b hb=>?_) hnew
 ·have:g=b:=by simpa [Value.ownBlock] using hb
  rw [←this];exact hgrow
 ·rcases hnew b hb with e | e
  ·exact h.lineNe e
  ·omega
 ·have hbm:b∈lineBlocks (p++r :: s):=by rw [lineBlocks_mid];rcases List.mem_append.1 hb with hb | hb <;> simp [hb]
  rw [key b (fun e=>h.apart b hbm (by rw [e];rfl))]
  refine hg.block b (h.lines.lt hbm).2 fun e=>?_
  have hnd:=h.lines.nodup
  rw [lineBlocks_mid,←e] at hnd
  simp only [Option.toList_some,List.singleton_append] at hnd
  have h1:=List.nodup_append.1 hnd
  rcases List.mem_append.1 hb with hb | hb
  ·exact h1.2.2 b hb b (by simp) rfl
  ·exact (List.nodup_cons.1 h1.2.1).1 hb
theorem OwnL.ownB (h:OwnL w base (.slice (some ⟨g,0,none⟩) n cap) rs):∀ k,OwnB g rs k→base≤k∧k < w.heap.size:=by
 rintro k (rfl | hk)
 ·exact h.row.lt k rfl
 ·exact h.lines.lt hk
end
end Go.Proofs.YtbmfahgekcnkaajGreatDoor
namespace Go.Proofs.YtbmfahgekcnkaajGreatDoor
open Go.RowKit
section
variable {P : Program}
theorem run_copy_wide (w:World) (dT sT ty elem:TypeId) (i:TypeInfo) (g o dLen dCap:Nat) (a:Addr) (sLen sCap m:Nat) (cur:Array Value) (t:TypeId) (cs:List Value)
  (hu:P.underlying dT=some (.slice elem)) (hi:P.info? elem=some i) (hg:w.heap[g]?=some (.cells cur t (0,0))) (hm:Nat.min sLen dLen=m) (hn:cs.length=m*i.size)
  (hsrc:∀ j v,cs[j]?=some v→w.cell? (a.add j)=some v) (hfit:o+cs.length≤cur.size) (h1:∀ v∈cs,v.oneCell'=true) :
  (Builtin.copy_ #[dT,sT] ty #[.slice (some ⟨g,o,none⟩) dLen dCap,.slice (some a) sLen sCap]).run P w =
   .ok (goInt m) (w.setRow g (cur.toList.take o++cs++cur.toList.drop (o+cs.length)).toArray):=by
 have hl:=run_firstCells_some (P:=P) w i.size m a sLen sCap cs hn hsrc
 have hst:=run_storeCells_at P g o t cs 0 cur w hg (by simpa using hfit) h1
 simp only [Nat.add_zero] at hst
 have hm':min sLen dLen=m:=hm
 simp [Builtin.copy_,run_underlying hu,Builtin.lenOf,sizeOf,typeInfo,hi,hm',hl,hst]
theorem wp_copy_wide {w:World} {o:Oper} {a:Act} {K:Act→World→Prop} {Q:Exit→Act→World→Prop} (d s:Operand) (dT sT:TypeId)
  (ho:o.op=.call { callee:=.builtin .copy,args:=#[d,s],argTypes:=#[dT,sT] }) (elem:TypeId) (i:TypeInfo) (hu:P.underlying dT=some (.slice elem)) (hi:P.info? elem=some i)
  (g off dLen dCap:Nat) (ad:Addr) (sLen sCap m:Nat) (hd:a.eval d=.slice (some ⟨g,off,none⟩) dLen dCap) (hs:a.eval s=.slice (some ad) sLen sCap)
  (cur:Array Value) (t:TypeId) (hg:w.heap[g]?=some (.cells cur t (0,0))) (cs:List Value) (hm:Nat.min sLen dLen=m) (hn:cs.length=m*i.size)
  (hsrc:∀ j v,cs[j]?=some v→w.cell? (ad.add j)=some v) (hfit:off+cs.length≤cur.size) (h1:∀ v∈cs,v.oneCell'=true)
  (h:K (a.put o.dst (goInt m)) (w.setRow g (cur.toList.take off++cs++cur.toList.drop (off+cs.length)).toArray)):o.wp P a w K Q:=by
 have hrun:=run_copy_wide (P:=P) w dT sT o.type elem i g off dLen dCap ad sLen sCap m cur t cs hu hi hg hm hn hsrc hfit h1
 unfold Oper.wp execOp
 simp only [ho,resolve,invoke,builtin,Sem.run_bind,Sem.run_pure,Result.andThen_ok,List.map_toArray,List.map_cons,List.map_nil,hd,hs,hrun]
 exact h
theorem wpList_copy_wide {w:World} {ops:Array Oper} {rest:List Oper} {o:Oper} {a:Act} {Q:Exit→Act→World→Prop} (hgd:o.guard=none) (d s:Operand) (dT sT:TypeId)
  (ho:o.op=.call { callee:=.builtin .copy,args:=#[d,s],argTypes:=#[dT,sT] }) (elem:TypeId) (i:TypeInfo) (hu:P.underlying dT=some (.slice elem)) (hi:P.info? elem=some i)
  (g off dLen dCap:Nat) (ad:Addr) (sLen sCap m:Nat) (hd:a.eval d=.slice (some ⟨g,off,none⟩) dLen dCap) (hs:a.eval s=.slice (some ad) sLen sCap)
  (cur:Array Value) (t:TypeId) (hg:w.heap[g]?=some (.cells cur t (0,0))) (cs:List Value) (hm:Nat.min sLen dLen=m) (hn:cs.length=m*i.size)
  (hsrc:∀ j v,cs[j]?=some v→w.cell? (ad.add j)=some v) (hfit:off+cs.length≤cur.size) (h1:∀ v∈cs,v.oneCell'=true)
  (h:wpList P ops Q rest (a.put o.dst (goInt m)) (w.setRow g (cur.toList.take off++cs++cur.toList.drop (off+cs.length)).toArray)):wpList P ops Q (o :: rest) a w :=
 wpList_plain hgd fun _ hK=>wp_copy_wide d s dT sT ho elem i hu hi g off dLen dCap ad sLen sCap m hd hs cur t hg cs hm hn hsrc hfit h1 (hK _ _ h)
theorem step_copy_wide {w:World} {ops:Array Oper} {o:Oper} {a:Act} {K:Act→World→Prop} {Q:Exit→Act→World→Prop} {E:Prop} (hgd:o.guard=none) (d s:Operand) (dT sT:TypeId)
  (ho:o.op=.call { callee:=.builtin .copy,args:=#[d,s],argTypes:=#[dT,sT] }) (elem:TypeId) (i:TypeInfo) (hu:P.underlying dT=some (.slice elem)) (hi:P.info? elem=some i)
  (g off dLen dCap:Nat) (ad:Addr) (sLen sCap m:Nat) (hd:a.eval d=.slice (some ⟨g,off,none⟩) dLen dCap) (hs:a.eval s=.slice (some ad) sLen sCap)
  (cur:Array Value) (t:TypeId) (hg:w.heap[g]?=some (.cells cur t (0,0))) (cs:List Value) (hm:Nat.min sLen dLen=m) (hn:cs.length=m*i.size)
  (hsrc:∀ j v,cs[j]?=some v→w.cell? (ad.add j)=some v) (hfit:off+cs.length≤cur.size) (h1:∀ v∈cs,v.oneCell'=true)
  (h:K (a.put o.dst (goInt m)) (w.setRow g (cur.toList.take off++cs++cur.toList.drop (off+cs.length)).toArray)) :
  if Region.wanted o (yielded ops a.tmps)=true then Oper.wp P o a w K Q else E:=by
 have hw:Region.wanted o (yielded ops a.tmps)=true:=by simp [Region.wanted,hgd]
 rw [if_pos hw]
 exact wp_copy_wide d s dT sT ho elem i hu hi g off dLen dCap ad sLen sCap m hd hs cur t hg cs hm hn hsrc hfit h1 h
theorem run_append_zeros (w:World) (t ti ty e:TypeId) (i:TypeInfo) (z:Value) (ht:P.underlying t=some (.slice e)) (hti:P.underlying ti=some (.int .i64)) (hi:P.info? e=some i) (hz:i.zero=some z)
  (b:Addr) (sLen sCap:Nat) (olds:List Value) (hlo:olds.length=sLen*i.size) (holds:∀ j v,olds[j]?=some v→w.cell? (b.add j)=some v) (n:Nat) (hsz:0 < i.size) (hn0:0 < n)
  (hn1:(n:Int)≤9223372036854775807) (hn2:n*i.bytes≤281474976710656)
  (hg:sCap < sLen+n) (h63:((sLen+n:Nat):Int)≤9223372036854775807) (hfit:Builtin.nextslicecap (sLen+n) sCap*i.bytes≤281474976710656) :
  (Builtin.append_ #[t,ti] ty #[.slice (some b) sLen sCap,.int .i64 (n:Int)]).run P w =
   .ok (.slice (some ⟨w.heap.size,0,none⟩) (sLen+n) (grownCap w (sLen+n) sCap e))
    (w.drew.alloc (.cells (olds.toArray++Builtin.zeroCells z.cells n++Builtin.zeroCells z.cells (grownCap w (sLen+n) sCap e - (sLen+n))) e)):=by
 have hn:¬ (sLen+n≤sCap):=by omega
 have h63':¬ (9223372036854775807 < ((sLen:Int)+(n:Int))):=by omega
 have h48':¬ (281474976710656 < Builtin.nextslicecap (sLen+n) sCap*i.bytes):=by omega
 have hfo:=run_firstCells_some (P:=P) w.drew i.size sLen b sLen sCap olds hlo (by simpa using holds)
 have hw:IntKind.i64.wrap (n:Int)=(n:Int):=by rw [IntKind.wrap_i64];omega
 have h0:¬ ((n:Int) < 0):=by omega
 have hb:¬ (281474976710656 < (n:Int)*(i.bytes:Int)):=by
  have:((n*i.bytes:Nat):Int)≤281474976710656:=by omega
  rw [Int.natCast_mul] at this
  omega
 have hne:¬ (n=0∨i.size=0):=by omega
 simp [Builtin.append_,run_underlying ht,run_underlying hti,sizeOf,typeInfo,zeroValue,hi,hz,hn,h63',h48',Question.forced,hfo,newRow,grownCap,asInt,asIntOf,hw,h0,hb]
 intro h
 exact absurd (Nat.mul_eq_zero.1 h) hne
theorem wpList_append_zeros {w : World} {ops : Array Oper} {rest : List Oper} {o : Oper} {a : Act} {Q : Exit → Act → World → Prop} (hgd : o.guard = none) (s x : Operand) (t ti : TypeId)
    (ho : o.op = .call { callee := .builtin .append, args := #[s, x], argTypes := #[t, ti] })
    (e : TypeId) (i : TypeInfo) (z : Value) (size bytes : Nat) (ht : P.underlying t = some (.slice e)) (hti : P.underlying ti = some (.int .i64)) (hi : P.info? e = some i) (hz : i.zero = some z) (hsize : i.size = size) (hby : i.bytes = bytes) (hzs : z.cells.size = size) (hsz : 0 < size)
    (b : Addr) (sLen sCap : Nat) (olds : List Value) (hs : a.eval s = .slice (some b) sLen sCap) (hlo : olds.length = sLen * size) (holds : ∀ j v, olds[j]? = some v → w.cell? (b.add j) = some v) (n : Nat) (X : Int) (hx : a.eval x = .int .i64 X) (hX : X = (n : Int)) (hn0 : 0 < n)
    (hg : sCap < sLen + n) (h63 : sLen + n ≤ maxLen) (hbytes : (sLen + n) * bytes ≤ 140737488355328)
    (h : ∀ (C : Nat) (Z : List Value), sLen + n ≤ C → C ≤ maxLen → Z.length = (C - sLen) * size → wpList P ops Q rest (a.put o.dst (.slice (some ⟨w.heap.size, 0, none⟩) (sLen + n) C)) (w.drew.alloc (.cells (olds ++ Z).toArray e))) : wpList P ops Q (o :: rest) a w := by
  subst hX
  subst hsize
  subst hby
  have h63' : sLen + n ≤ 9223372036854775807 := by unfold maxLen at h63; exact h63
  have hnb : n * i.bytes ≤ (sLen + n) * i.bytes := Nat.mul_le_mul_right _ (by omega)
  have hr := run_append_zeros (P := P) w t ti o.type e i z ht hti hi hz b sLen sCap olds hlo holds n hsz hn0 (by omega) (by omega) hg (by omega) (growslice_fits hg hbytes)
  refine wpList_plain hgd fun K hK => ?_
  have hge := grownCap_ge w (sLen + n) sCap e
  have hle := grownCap_le_maxLen w (sLen + n) sCap e h63
  obtain ⟨C, hC⟩ : ∃ C, C = grownCap w (sLen + n) sCap e := ⟨_, rfl⟩
  rw [← hC] at hr hge hle
  unfold Oper.wp execOp
  simp only [ho, resolve, invoke, builtin, Sem.run_bind, Sem.run_pure, Result.andThen_ok, List.map_toArray, List.map_cons, List.map_nil, hs, hx, hr]
  have := h C ((Builtin.zeroCells z.cells n).toList ++ (Builtin.zeroCells z.cells (C - (sLen + n))).toList) hge hle (by
    simp only [List.length_append, Array.length_toList, size_zeroCells, hzs]
    rw [← Nat.add_mul]
    congr 1
    omega)
  refine hK _ _ ?_
  have e1 : (olds ++ ((Builtin.zeroCells z.cells n).toList ++ (Builtin.zeroCells z.cells (C - (sLen + n))).toList)).toArray = olds.toArray ++ Builtin.zeroCells z.cells n ++ Builtin.zeroCells z.cells (C - (sLen + n)) := by
    apply Array.ext'
    simp
  rw [e1] at this
  exact this
end
end Go.Proofs.YtbmfahgekcnkaajGreatDoor
namespace Go.Proofs.YtbmfahgekcnkaajGreatDoor
open Go.RowKit
theorem Tryz.infoInt:(Tryz.prog.info? 3).map (fun i=>(i.zero,i.size,i.bytes))=some (some (.int .i64 0),1,8):=by kernel_rfl
theorem intCells_one (xs:List Int):∀ u∈intCells xs,u.oneCell'=true:=by
 intro u hu
 obtain ⟨x,_,rfl⟩:=List.mem_map.1 hu
 rfl
theorem intCells_at {w:World} {a:Addr} {xs:List Int} (h:0 < xs.length→∃ b off,a=⟨b,off,none⟩∧∀ i x,xs[i]?=some x→w.cell? ⟨b,off+i,none⟩=some (.int .i64 x)) :
  ∀ j u,(intCells xs)[j]?=some u→w.cell? (a.add j)=some u:=by
 intro j u hu
 unfold intCells at hu
 rw [List.getElem?_map] at hu
 obtain ⟨x,hx,rfl⟩:=Option.map_eq_some_iff.1 hu
 have hj:j < xs.length:=(List.getElem?_eq_some_iff.1 hx).1
 obtain ⟨b,off,rfl,hc⟩:=h (by omega)
 have e:(⟨b,off,none⟩:Addr).add j=⟨b,off+j,none⟩:=by unfold Addr.add;split <;> simp_all
 rw [e]
 exact hc j x hx
set_option maxHeartbeats 800000 in
theorem cloneInts (v:Value) (xs:List Int) (w:World) (B:Nat) (hv:IntsR w B v xs) (hB:B≤w.heap.size) :
  Calls Tryz.prog 69 #[v] w fun e w'=>∃ v',e=.returned v'∧w'.ownsRow w.heap.size 3 1 v' xs.length (intCells xs)∧Below w.heap.size w w':=by
 obtain ⟨i0,hi,hz0,hz1,hz2⟩:=info_parts Tryz.infoInt
 have q22:∀ (w:World) (a:Option Addr) (n c n' c':Nat),(binOp .eql 87 (.slice a n c) (.slice none n' c')).run Tryz.prog w=.ok (.bool a.isNone) w:=fun w a n c n' c'=>Lib.run_eql_slice_nil w _ _ a n c n' c' Tryz.underlying87
 obtain ⟨ao,cap,rfl,h1,h2,h3,h4⟩:=hv
 cases ao with
 | none =>
  have hc0:=h3 rfl
  have hx:xs=[]:=List.eq_nil_of_length_eq_zero (by omega)
  subst hx
  subst hc0
  clear h4 h3 h1 h2
  simp only [List.length_nil]
  go_enter Tryz.func69,Tryz.ntmps69
  go_wp2
  go_ret
  exact ⟨_,rfl,World.ownsRow_nil _ _ _ _,Below.refl _ _⟩
 | some a =>
  have hn:∀ j u,(intCells xs)[j]?=some u→(w.alloc (.cells #[] 3)).cell? (a.add j)=some u:=intCells_at fun hp=>by
   obtain ⟨b,off,e,hlt,hc⟩:=h4 hp
   exact ⟨b,off,by simpa using e,fun i x hx=>(((Below.refl w.heap.size w).alloc (Nat.le_refl _) (.cells #[] 3)).cell (p:=⟨b,off+i,none⟩) (by simp;omega)).trans (hc i x hx)⟩
  have HN:Hid (∀ j u,(intCells xs)[j]?=some u→(w.alloc (.cells #[] 3)).cell? (a.add j)=some u):=hn
  have HO:Hid ((w.alloc (.cells #[] 3)).ownsRow w.heap.size 3 1 (.slice (some ⟨w.heap.size,0,none⟩) 0 0) 0 []):=World.ownsRow_lit w #[] 0 (Nat.le_refl _) (by unfold maxLen;omega) rfl
  clear hn h4 h3
  go_enter Tryz.func69,Tryz.ntmps69
  go_wp2_with (at_builtin;refine wpList_append_own _ rfl (.tmp 5) (.tmp 6) 87 rfl w.heap.size 3 i0 (.int .i64 0) 1 8 Tryz.underlying87 hi hz0 hz1 hz2 rfl (by decide) _ _ _ rfl HO.out a xs.length cap (intCells xs) rfl (by simp [intCells]) HN.out (intCells_one xs) (by unfold maxLen;omega) (by omega) (by simp) ?_)
  intro v1 w1 hown hgrow _
  have hb1:Below w.heap.size w w1:=((Below.refl w.heap.size w).alloc (Nat.le_refl _) (.cells #[] 3)).grown hgrow (by simp) (fun k hk=>by simp [Value.ownBlock] at hk;omega)
  have hown2:Hid (w1.ownsRow w.heap.size 3 1 v1 xs.length (intCells xs)):=by unfold Hid;simpa using hown
  clear hown hgrow
  go_wp2
  go_ret
  exact ⟨_,rfl,hown2.out,hb1⟩
end Go.Proofs.YtbmfahgekcnkaajGreatDoor
namespace Go.Proofs.YtbmfahgekcnkaajGreatDoor
open Go.RowKit Go.Shelf
def cloneRen:Go.Shelf.Ren:=⟨fun | 316=>45 | n=>n,fun | 9=>9 | 3=>3 | 4=>4 | 37=>85 | 0=>0 | 127=>124 | 5=>5 | n=>n,fun | n=>n⟩
theorem cloneLays:Go.Proofs.LaysM.n316 Tryz.prog cloneRen:={
 mixed:=by kernel_rfl
 f316:=Tryz.func45.trans (congrArg some (by kernel_rfl))
 t0:=Tryz.underlying0
 a0:=Tryz.isAgg0
 z0:=Tryz.sizeOf0
 v0:=Tryz.zeroValue0
 t3:=Tryz.underlying3
 a3:=Tryz.isAgg3
 z3:=Tryz.sizeOf3
 v3:=Tryz.zeroValue3
 t4:=Tryz.underlying4
 a4:=Tryz.isAgg4
 z4:=Tryz.sizeOf4
 v4:=Tryz.zeroValue4
 t9:=Tryz.underlying9
 a9:=Tryz.isAgg9
 z9:=Tryz.sizeOf9
 v9:=Tryz.zeroValue9
 t37:=Tryz.underlying85
 a37:=Tryz.isAgg85
 z37:=Tryz.sizeOf85
 v37:=Tryz.zeroValue85
 t127:=Tryz.underlying124
 a127:=Tryz.isAgg124
 z127:=Tryz.sizeOf124
 v127:=Tryz.zeroValue124
 t5:=Tryz.underlying5
 a5:=Tryz.isAgg5
 z5:=Tryz.sizeOf5
 v5:=Tryz.zeroValue5
 i0:=by kernel_rfl
 i3:=by kernel_rfl
 i4:=by kernel_rfl
 i5:=by kernel_rfl
 i9:=by kernel_rfl
 i37:=by kernel_rfl
 i127:=by kernel_rfl }
theorem liteClone (s:ByteArray) (w:World) (hlim:s.size≤281474976710656) :
  Calls Tryz.prog 45 #[.string s] w fun e w'=>e=.returned (.string s)∧Below w.heap.size w w' :=
 Any.stringslite_Clone cloneLays s w hlim
theorem clone_any (s:ByteArray) (w:World) (hlim:s.size≤281474976710656) :
  Calls Tryz.prog 19 #[.string s] w fun e w'=>e=.returned (.string s)∧Below w.heap.size w w':=by
 go_enter Tryz.func19,Tryz.ntmps19
 go_wp2_with fail
 refine (liteClone s _ hlim).mono ?_
 rintro e w1 ⟨rfl,g1⟩
 go_wp2
 go_ret
 exact ⟨rfl,g1⟩
end Go.Proofs.YtbmfahgekcnkaajGreatDoor
