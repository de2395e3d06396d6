/- Locks as they lie in memory: what a value reads as; Rows of elements of several cells each: what a value reads as, and a row of a call's own. No program is named but for the seat's namespace; The block of a row is of its elements' type. (Its sister KTagFree.lean, laid in its place, asks nothing: for the laws that open such rows as arguments.); Pairs as they lie in memory: what a value reads as; a row of pairs that a call owns; Sessions as plain data: what may be, and what the calls do. Plain mathematics; no program; Sessions as they lie in memory: what a value reads as; A state as it lies in memory: what a value reads as; Plain mathematics of names: 1 to 6 letters from a to z. It imports no program; Lists of numbers that are only read: the document's has, slices.Index, slices.Contains, the law's sameInts (joined by program) -/
import Derived.Test.YtbmfahgekcnkaajGreatDoorRows
import Derived.WalkKit
import Derived.ProofKit
import Derived.WalkLawsBesides
import Derived.Deep.AppendLies
import Derived.Laws.Rows
import Derived.Laws.CopyOwn
import Derived.Laws.AppendOwn
import Derived.Below
import Derived.Deep.QuietTactic
import Derived.BigQuiet
namespace Go.Proofs.YtbmfahgekcnkaajGreatDoor
open Go.RowKit
theorem Hid.mk' {p:Prop} (h:p):Hid p:=h
structure LockD where
 name:ByteArray
 holder:Int
 fence:Int
 line:List Int
def IntsR (w:World) (B:Nat) (v:Value) (xs:List Int):Prop :=
 ∃ ao cap,v=.slice ao xs.length cap∧xs.length≤cap∧xs.length*8≤140737488351232∧(ao=none→cap=0) ∧
  (0 < xs.length→∃ b off,ao=some ⟨b,off,none⟩∧b < B∧∀ i x,xs[i]?=some x→w.cell? ⟨b,off+i,none⟩=some (.int .i64 x))
def LockAt (w:World) (B:Nat) (b o:Nat) (x:LockD):Prop :=
 ∃ lv,w.cell? ⟨b,o,none⟩=some (.string x.name)∧w.cell? ⟨b,o+1,none⟩=some (.int .i64 x.holder)∧w.cell? ⟨b,o+2,none⟩=some (.int .i64 x.fence) ∧
  w.cell? ⟨b,o+3,none⟩=some lv∧IntsR w B lv x.line∧x.name.size≤140737488351232
def LocksR (w:World) (B:Nat) (v:Value) (ls:List LockD):Prop :=
 ∃ ao cap,v=.slice ao ls.length cap∧ls.length≤cap∧ls.length*56≤140737488351232∧(ao=none→cap=0) ∧
  (0 < ls.length→∃ b off,ao=some ⟨b,off,none⟩∧b < B∧∀ i x,ls[i]?=some x→LockAt w B b (off+i*4) x)
theorem IntsR.below {w w':World} {B:Nat} {v:Value} {xs:List Int} (h:IntsR w B v xs) {B':Nat} (hb:Below B' w w') (hB:B≤B'):IntsR w' B v xs:=by
 obtain ⟨ao,cap,rfl,h1,h2,h3,h4⟩:=h
 refine ⟨ao,cap,rfl,h1,h2,h3,fun hp=>?_⟩
 obtain ⟨b,off,rfl,hlt,hc⟩:=h4 hp
 exact ⟨b,off,rfl,hlt,fun i x hx=>(hb.cell (p:=⟨b,off+i,none⟩) (by simp;omega)).trans (hc i x hx)⟩
theorem IntsR.mono {w:World} {B B':Nat} {v:Value} {xs:List Int} (h:IntsR w B v xs) (hB:B≤B'):IntsR w B' v xs:=by
 obtain ⟨ao,cap,rfl,h1,h2,h3,h4⟩:=h
 refine ⟨ao,cap,rfl,h1,h2,h3,fun hp=>?_⟩
 obtain ⟨b,off,rfl,hlt,hc⟩:=h4 hp
 exact ⟨b,off,rfl,by omega,hc⟩
theorem LockAt.below {w w':World} {B b o:Nat} {x:LockD} (h:LockAt w B b o x) (hlt:b < B) {B':Nat} (hb:Below B' w w') (hB:B≤B'):LockAt w' B b o x:=by
 obtain ⟨lv,c0,c1,c2,c3,hl,hs⟩:=h
 have key:∀ o',w'.cell? ⟨b,o',none⟩=w.cell? ⟨b,o',none⟩:=fun o'=>hb.cell (p:=⟨b,o',none⟩) (by simp;omega)
 exact ⟨lv,(key _).trans c0,(key _).trans c1,(key _).trans c2,(key _).trans c3,hl.below hb hB,hs⟩
theorem LockAt.mono {w:World} {B B' b o:Nat} {x:LockD} (h:LockAt w B b o x) (hB:B≤B'):LockAt w B' b o x:=by
 obtain ⟨lv,c0,c1,c2,c3,hl,hs⟩:=h
 exact ⟨lv,c0,c1,c2,c3,hl.mono hB,hs⟩
theorem LocksR.below {w w':World} {B:Nat} {v:Value} {ls:List LockD} (h:LocksR w B v ls) {B':Nat} (hb:Below B' w w') (hB:B≤B'):LocksR w' B v ls:=by
 obtain ⟨ao,cap,rfl,h1,h2,h3,h4⟩:=h
 refine ⟨ao,cap,rfl,h1,h2,h3,fun hp=>?_⟩
 obtain ⟨b,off,rfl,hlt,hc⟩:=h4 hp
 exact ⟨b,off,rfl,hlt,fun i x hx=>(hc i x hx).below hlt hb hB⟩
theorem LocksR.mono {w:World} {B B':Nat} {v:Value} {ls:List LockD} (h:LocksR w B v ls) (hB:B≤B'):LocksR w B' v ls:=by
 obtain ⟨ao,cap,rfl,h1,h2,h3,h4⟩:=h
 refine ⟨ao,cap,rfl,h1,h2,h3,fun hp=>?_⟩
 obtain ⟨b,off,rfl,hlt,hc⟩:=h4 hp
 exact ⟨b,off,rfl,by omega,fun i x hx=>(hc i x hx).mono hB⟩
theorem IntsR.len {w:World} {B:Nat} {v:Value} {xs:List Int} (h:IntsR w B v xs):xs.length*8≤140737488351232:=by
 obtain ⟨_,_,_,_,h2,_⟩:=h
 exact h2
theorem LocksR.len {w:World} {B:Nat} {v:Value} {ls:List LockD} (h:LocksR w B v ls):ls.length*56≤140737488351232:=by
 obtain ⟨_,_,_,_,h2,_⟩:=h
 exact h2
theorem drewN_below (B:Nat) (w:World) (n:Nat):Below B w (w.drewN n):=⟨rfl,rfl,rfl,Nat.le_refl _,fun _ _=>rfl⟩
end Go.Proofs.YtbmfahgekcnkaajGreatDoor
namespace Go.Proofs.YtbmfahgekcnkaajGreatDoor
open Go.RowKit
theorem ghid {p:Prop} (h:p):Hid p:=h
theorem g_drewN_below (B:Nat) (w:World) (n:Nat):Below B w (w.drewN n):=⟨rfl,rfl,rfl,Nat.le_refl _,fun _ _=>rfl⟩
theorem gcell {W w1:World} (hb:Below W.heap.size W w1):(∀ b o,b < W.heap.size→w1.cell? ⟨b,o,none⟩=W.cell? ⟨b,o,none⟩)∧(∀ b o,b < W.heap.size→w1.frozen? ⟨b,o,none⟩=W.frozen? ⟨b,o,none⟩) :=
 ⟨fun b o h=>hb.cell (p:=⟨b,o,none⟩) h,fun b o h=>hb.frozen (p:=⟨b,o,none⟩) h⟩
theorem gadd (b o j:Nat):(⟨b,o,none⟩:Addr).add j=⟨b,o+j,none⟩:=by unfold Addr.add;split <;> simp_all
section
variable {α : Type} {c : α → List Value} {m : Nat}
def flatG (c:α→List Value) (xs:List α):List Value:=xs.flatMap c
theorem flatG_length (hc:∀ x,(c x).length=m) (xs:List α):(flatG c xs).length=xs.length*m:=by
 induction xs with
 | nil=>simp [flatG]
 | cons r t ih=>simp only [flatG,List.flatMap_cons,List.length_append] at ih ⊢;rw [ih,hc,List.length_cons,Nat.add_mul];omega
theorem flatG_append (a b:List α):flatG c (a++b)=flatG c a++flatG c b:=by simp [flatG]
theorem flatG_snoc (a:List α) (x:α):flatG c (a++[x])=flatG c a++c x:=by simp [flatG]
theorem flatG_cons (a:List α) (x:α):flatG c (x :: a)=c x++flatG c a:=by simp [flatG]
theorem flatG_nil:flatG c []=[]:=rfl
theorem flatG_at (hc:∀ x,(c x).length=m) {xs:List α} {i:Nat} {r:α} (h:xs[i]?=some r) (j:Nat) (hj:j < m):(flatG c xs)[i*m+j]?=(c r)[j]?:=by
 induction xs generalizing i with
 | nil=>simp at h
 | cons q t ih =>
  rw [flatG_cons]
  cases i with
  | zero =>
   have:q=r:=by simpa using h
   subst this
   rw [Nat.zero_mul,Nat.zero_add,List.getElem?_append_left (by rw [hc];exact hj)]
  | succ i =>
   rw [List.getElem?_append_right (by rw [hc,Nat.add_mul];omega),hc,show (i+1)*m+j - m=i*m+j by rw [Nat.add_mul];omega]
   exact ih (by simpa using h)
theorem flatG_one (h1:∀ x,∀ v∈c x,v.oneCell'=true) (xs:List α):∀ v∈flatG c xs,v.oneCell'=true:=by
 intro v hv
 obtain ⟨r,hr,hv⟩:=List.mem_flatMap.1 hv
 exact h1 r v hv
theorem flatG_set (hc:∀ x,(c x).length=m) {xs:List α} {i:Nat} {x x':α} (h:xs[i]?=some x) (j:Nat) (hj:j < m) (u:Value) (hx:(c x).set j u=c x') :
  (flatG c xs).set (i*m+j) u=flatG c (xs.set i x'):=by
 induction xs generalizing i with
 | nil=>simp at h
 | cons q t ih =>
  cases i with
  | zero =>
   have:q=x:=by simpa using h
   subst this
   rw [List.set_cons_zero,flatG_cons,flatG_cons,Nat.zero_mul,Nat.zero_add,List.set_append_left _ _ (by rw [hc];exact hj),hx]
  | succ i =>
   rw [List.set_cons_succ,flatG_cons,flatG_cons,List.set_append_right _ _ (by rw [hc,Nat.add_mul];omega),hc,show (i+1)*m+j - m=i*m+j by rw [Nat.add_mul];omega,ih (by simpa using h)]
theorem flatG_take (hc:∀ x,(c x).length=m) (xs:List α) (i:Nat):(flatG c xs).take (i*m)=flatG c (xs.take i):=by
 by_cases hi:i≤xs.length
 ·have e:flatG c xs=flatG c (xs.take i)++flatG c (xs.drop i):=by rw [←flatG_append,List.take_append_drop]
  have hl:(flatG c (xs.take i)).length=i*m:=by rw [flatG_length hc,List.length_take,Nat.min_eq_left hi]
  rw [e,←hl,List.take_left]
 ·rw [List.take_of_length_le (i:=i) (by omega),List.take_of_length_le]
  rw [flatG_length hc]
  exact Nat.mul_le_mul_right _ (by omega)
theorem flatG_drop (hc:∀ x,(c x).length=m) (xs:List α) (i:Nat) (hi:i≤xs.length):(flatG c xs).drop (i*m)=flatG c (xs.drop i):=by
 have e:flatG c xs=flatG c (xs.take i)++flatG c (xs.drop i):=by rw [←flatG_append,List.take_append_drop]
 have hl:(flatG c (xs.take i)).length=i*m:=by rw [flatG_length hc,List.length_take,Nat.min_eq_left hi]
 rw [e,←hl,List.drop_left]
end
section
variable {w w' : World} {base : Nat} {e : TypeId} {size : Nat} {v : Value} {n : Nat} {xs : List Value}
theorem grow_shape (h:w.ownsRow base e size v n xs):∃ ao cap,v=.slice ao n cap:=by
 rcases h.2 with ⟨rfl,rfl⟩ | ⟨g,cap,cur,rfl,_⟩
 ·exact ⟨none,0,rfl⟩
 ·exact ⟨_,_,rfl⟩
theorem grow_keep (h:w.ownsRow base e size v n xs) (hk:∀ b,v.ownBlock=some b→w'.heap[b]?=w.heap[b]?):w'.ownsRow base e size v n xs:=by
 obtain ⟨h1,h2⟩:=h
 refine ⟨h1,?_⟩
 rcases h2 with h2 | ⟨g,cap,cur,rfl,hg,hh,r⟩
 ·exact Or.inl h2
 ·exact Or.inr ⟨g,cap,cur,rfl,hg,by rw [hk g rfl];exact hh,r⟩
theorem grow_base {base':Nat} (h:w.ownsRow base e size v n xs) (hk:∀ b,v.ownBlock=some b→base'≤b):w.ownsRow base' e size v n xs:=by
 obtain ⟨h1,h2⟩:=h
 refine ⟨h1,?_⟩
 rcases h2 with h2 | ⟨g,cap,cur,rfl,hg,hh,r⟩
 ·exact Or.inl h2
 ·exact Or.inr ⟨g,cap,cur,rfl,hk g rfl,hh,r⟩
theorem grow_mono {base':Nat} (h:w.ownsRow base e size v n xs) (hb:base'≤base):w.ownsRow base' e size v n xs :=
 grow_base h fun b hbk=>Nat.le_trans hb (h.lt b hbk).1
theorem grow_below (h:w.ownsRow base e size v n xs) {B:Nat} (hb:Below B w w') (hB:w.heap.size≤B):w'.ownsRow base e size v n xs :=
 grow_keep h fun b hbk=>hb.block b (by have:=(h.lt b hbk).2;omega)
theorem grow_some (h:w.ownsRow base e size v n xs) (hn:0 < n):∃ g cap,v=.slice (some ⟨g,0,none⟩) n cap∧base≤g∧g < w.heap.size∧n≤cap:=by
 have hlt:=h.lt
 rcases h.2 with ⟨rfl,rfl⟩ | ⟨g,cap,cur,rfl,hg,hh,hle,_⟩
 ·omega
 ·exact ⟨g,cap,rfl,hg,(hlt g rfl).2,hle⟩
theorem grow_take {g cap k:Nat} (h:w.ownsRow base e size (.slice (some ⟨g,0,none⟩) n cap) n xs) (hk:k≤n):w.ownsRow base e size (.slice (some ⟨g,0,none⟩) k cap) k (xs.take (k*size)):=by
 have hm:k*size≤n*size:=Nat.mul_le_mul_right _ hk
 rcases h.2 with ⟨h',_⟩ | ⟨g',cap',cur,h',hg,hh,hle,hcm,hcs,ht⟩
 ·cases h'
 ·simp only [Value.slice.injEq,Option.some.injEq,Addr.mk.injEq,and_true,true_and] at h'
  obtain ⟨rfl,rfl⟩:=h'
  refine ⟨by rw [List.length_take,h.1];omega,Or.inr ⟨g,cap,cur,rfl,hg,hh,by omega,hcm,hcs,?_⟩⟩
  rw [←ht,List.take_take,Nat.min_eq_left hm]
theorem grow_ne {e':TypeId} {size':Nat} {v':Value} {n' base':Nat} {xs':List Value} (h:w.ownsRow base e size v n xs) (h':w.ownsRow base' e' size' v' n' xs') (he:e≠e') {b:Nat} (hb:v.ownBlock=some b):v'.ownBlock≠some b:=by
 intro hb'
 rcases h.2 with ⟨rfl,_⟩ | ⟨g,cap,cur,rfl,_,hh,_⟩
 ·cases hb
 ·rcases h'.2 with ⟨rfl,_⟩ | ⟨g',cap',cur',rfl,_,hh',_⟩
  ·cases hb'
  ·simp only [Value.ownBlock,Option.some.injEq] at hb hb'
   subst hb
   subst hb'
   rw [hh] at hh'
   simp only [Option.some.injEq,Obj.cells.injEq] at hh'
   exact he hh'.2.1
end
structure TouchG (w w':World) (S:Nat→Prop):Prop where
 os:w'.os=w.os
 tape:w'.tape=w.tape
 output:w'.output=w.output
 size:w.heap.size≤w'.heap.size
 block:∀ k,k < w.heap.size→¬ S k→w'.heap[k]?=w.heap[k]?
theorem TouchG.refl (w:World) (S:Nat→Prop):TouchG w w S:=⟨rfl,rfl,rfl,Nat.le_refl _,fun _ _ _=>rfl⟩
theorem TouchG.setCell {w0 w:World} {S:Nat→Prop} (h:TouchG w0 w S) {a:Addr} (ha:S a.block∨w0.heap.size≤a.block) (u:Value):TouchG w0 (w.setCell a u) S :=
 ⟨h.os,h.tape,h.output,by have:=h.size;simpa [World.setCell] using this,fun k hk hs=>(Below.heap_setCell _ _ _ _ (by rintro rfl;rcases ha with ha | ha;exact hs ha;omega)).trans (h.block k hk hs)⟩
theorem TouchG.grown {w0 w w':World} {S:Nat→Prop} {row:Option Nat} (h:TouchG w0 w S) (hg:w.grownBy w' row) (hr:∀ k,row=some k→S k∨w0.heap.size≤k):TouchG w0 w' S :=
 ⟨hg.os.trans h.os,hg.tape.trans h.tape,hg.output.trans h.output,Nat.le_trans h.size hg.size,fun k hk hs=>(hg.block k (by have:=h.size;omega) (fun e=>by rcases hr k e.symm with h' | h';exact hs h';omega)).trans (h.block k hk hs)⟩
theorem TouchG.of_below {w w':World} {B:Nat} (h:Below B w w') (hB:w.heap.size≤B) (S:Nat→Prop):TouchG w w' S:=⟨h.os,h.tape,h.output,h.size,fun k hk _=>h.block k (by omega)⟩
theorem TouchG.trans {a b c:World} {S T:Nat→Prop} (h:TouchG a b S) (k:TouchG b c T) (hs:∀ i,i < a.heap.size→T i→S i):TouchG a c S :=
 ⟨k.os.trans h.os,k.tape.trans h.tape,k.output.trans h.output,Nat.le_trans h.size k.size,fun i hi hn=>(k.block i (by have:=h.size;omega) (fun ht=>hn (hs i hi ht))).trans (h.block i hi hn)⟩
theorem TouchG.below {w w':World} {S:Nat→Prop} (h:TouchG w w' S) {B:Nat} (hB:B≤w.heap.size) (hs:∀ k,S k→B≤k):Below B w w' :=
 ⟨h.os,h.tape,h.output,h.size,fun k hk=>h.block k (by omega) (fun e=>by have:=hs k e;omega)⟩
theorem TouchG.drew {w0 w:World} {S:Nat→Prop} (h:TouchG w0 w S) (n:Nat):TouchG w0 (w.drewN n) S:=⟨h.os,h.tape,h.output,h.size,h.block⟩
def NewR (n:Nat) (w:World) (R:World→Prop):Prop:=∀ u,TouchG w u (fun k=>k < n)→R u
theorem NewR.now {n:Nat} {w:World} {R:World→Prop} (h:NewR n w R):R w:=h w (TouchG.refl _ _)
theorem NewR.touch {n:Nat} {w w':World} {R:World→Prop} (h:NewR n w R) {S:Nat→Prop} (ht:TouchG w w' S) (hs:∀ k,k < w.heap.size→S k→k < n):NewR n w' R:=by
 intro u hu
 refine h u ⟨hu.os.trans ht.os,hu.tape.trans ht.tape,hu.output.trans ht.output,Nat.le_trans ht.size hu.size,fun k hk hn=>?_⟩
 exact (hu.block k (by have:=ht.size;omega) hn).trans (ht.block k hk (fun e=>hn (hs k hk e)))
theorem NewR.mono {n m:Nat} {w:World} {R:World→Prop} (h:NewR n w R) (hm:m≤n):NewR m w R :=
 fun u hu=>h u ⟨hu.os,hu.tape,hu.output,hu.size,fun k hk hn=>hu.block k hk (by omega)⟩
theorem NewR.imp {n:Nat} {w:World} {R Q:World→Prop} (h:NewR n w R) (hi:∀ u,R u→Q u):NewR n w Q:=fun u hu=>hi u (h u hu)
theorem NewR.of (n:Nat) (w:World) {R:World→Prop} (h:∀ u,R u):NewR n w R:=fun u _=>h u
theorem NewR.below {n:Nat} {w w':World} {R:World→Prop} (h:NewR n w R) (hb:Below w.heap.size w w'):NewR n w' R :=
 h.touch (TouchG.of_below hb (Nat.le_refl _) (fun _=>False)) (fun _ _ h=>h.elim)
theorem NewR.set {n:Nat} {w:World} {R:World→Prop} (h:NewR n w R) {a:Addr} (ha:a.block < n) (u:Value):NewR n (w.setCell a u) R :=
 h.touch ((TouchG.refl w (fun b=>b=a.block)).setCell (Or.inl rfl) u) (fun k _ e=>by omega)
section
variable {P : Program}
theorem run_clear_wide (w:World) (t e:TypeId) (i:TypeInfo) (z:Value) (ht:P.underlying t=some (.slice e)) (hi:P.info? e=some i) (hz:i.zero=some z) (h1:∀ v∈(Builtin.zeroCells z.cells 1).toList,v.oneCell'=true) (hzs:0 < z.cells.size)
  (g o n c:Nat) (cur:Array Value) (t':TypeId) (hn:0 < n) (hg:w.heap[g]?=some (.cells cur t' (0,0))) (hfit:o+n*z.cells.size≤cur.size) :
  ∃ zs:List Value,zs.length=n*z.cells.size∧∀ ty:TypeId,(Builtin.clear_ #[t] ty #[.slice (some ⟨g,o,none⟩) n c]).run P w=.ok (.tuple #[]) (w.setRow g (cur.toList.take o++zs++cur.toList.drop (o+zs.length)).toArray):=by
 refine ⟨(Builtin.zeroCells z.cells n).toList,by simp [size_zeroCells],fun ty=>?_⟩
 have hone:∀ v∈(Builtin.zeroCells z.cells n).toList,v.oneCell'=true:=by
  intro v hv
  refine h1 v ?_
  simp only [Builtin.zeroCells,Array.toList_map,List.mem_map,Array.toList_range,List.mem_range] at hv ⊢
  obtain ⟨k,hk,rfl⟩:=hv
  exact ⟨k % z.cells.size,by rw [Nat.one_mul];exact Nat.mod_lt _ hzs,by rw [Nat.mod_mod]⟩
 have hst:=run_storeCells_at P g o t' (Builtin.zeroCells z.cells n).toList 0 cur w hg (by simpa [size_zeroCells] using hfit) hone
 simp only [Nat.add_zero] at hst
 obtain ⟨m,rfl⟩:∃ m,n=m+1:=⟨n - 1,by omega⟩
 simp [Builtin.clear_,run_underlying ht,zeroValue,typeInfo,hi,hz,hst]
end
end Go.Proofs.YtbmfahgekcnkaajGreatDoor
namespace Go.Proofs.YtbmfahgekcnkaajGreatDoor
open Go.RowKit
def TagB (t:TypeId) (w:World) (b:Nat):Prop:=∃ cs fr,w.heap[b]?=some (.cells cs t fr)
theorem TagB.block {t:TypeId} {w w':World} {b:Nat} (h:TagB t w b) (e:w'.heap[b]?=w.heap[b]?):TagB t w' b:=by
 obtain ⟨cs,fr,h⟩:=h
 exact ⟨cs,fr,e.trans h⟩
theorem TagB.of {t:TypeId} {w:World} {b:Nat} {cs:Array Value} {fr:Nat × Nat} (h:w.heap[b]?=some (.cells cs t fr)):TagB t w b:=⟨cs,fr,h⟩
theorem TagB.not {t t':TypeId} {w:World} {b:Nat} {cs:Array Value} {fr:Nat × Nat} (h:TagB t w b) (hb:w.heap[b]?=some (.cells cs t' fr)):t'=t:=by
 obtain ⟨cs',fr',h'⟩:=h
 rw [hb] at h'
 simp only [Option.some.injEq,Obj.cells.injEq] at h'
 exact h'.2.1
theorem TagB.row {t:TypeId} {w:World} {base m g n c n':Nat} {xs:List Value} (h:w.ownsRow base t m (.slice (some ⟨g,0,none⟩) n c) n' xs):TagB t w g:=by
 rcases h.2 with ⟨e,_⟩ | ⟨g',cap,cur,e,_,hg,_⟩
 ·cases e
 ·simp only [Value.slice.injEq,Option.some.injEq,Addr.mk.injEq,and_true] at e
  obtain ⟨rfl,-⟩:=e
  exact TagB.of hg
end Go.Proofs.YtbmfahgekcnkaajGreatDoor
namespace Go.Proofs.YtbmfahgekcnkaajGreatDoor
open Go.RowKit
theorem phid {p:Prop} (h:p):Hid p:=h
structure PairD where
 name:ByteArray
 value:ByteArray
 version:Int
def pairCells (x:PairD):List Value:=[.string x.name,.string x.value,.int .i64 x.version]
def flatP (ps:List PairD):List Value:=ps.flatMap pairCells
def PairAt (w:World) (b o:Nat) (x:PairD):Prop :=
 w.cell? ⟨b,o,none⟩=some (.string x.name)∧w.cell? ⟨b,o+1,none⟩=some (.string x.value)∧w.cell? ⟨b,o+2,none⟩=some (.int .i64 x.version) ∧
  x.name.size≤140737488351232∧x.value.size≤140737488351232∧TagB 129 w b
def PairsR (w:World) (B:Nat) (v:Value) (ps:List PairD):Prop :=
 ∃ ao cap,v=.slice ao ps.length cap∧ps.length≤cap∧ps.length*40≤140737488351232∧(ao=none→cap=0) ∧
  (0 < ps.length→∃ b off,ao=some ⟨b,off,none⟩∧b < B∧∀ (i:Nat) (x:PairD),ps[i]?=some x→PairAt w b (off+i*3) x)
theorem PairAt.below {w w':World} {B b o:Nat} {x:PairD} (h:PairAt w b o x) (hlt:b < B) (hb:Below B w w'):PairAt w' b o x:=by
 obtain ⟨c0,c1,c2,hs⟩:=h
 have key:∀ o',w'.cell? ⟨b,o',none⟩=w.cell? ⟨b,o',none⟩:=fun o'=>hb.cell (p:=⟨b,o',none⟩) hlt
 exact ⟨(key _).trans c0,(key _).trans c1,(key _).trans c2,hs.1,hs.2.1,hs.2.2.block (hb.block b hlt)⟩
theorem PairsR.below {w w':World} {B:Nat} {v:Value} {ps:List PairD} (h:PairsR w B v ps) {B':Nat} (hb:Below B' w w') (hB:B≤B'):PairsR w' B v ps:=by
 obtain ⟨ao,cap,rfl,h1,h2,h3,h4⟩:=h
 refine ⟨ao,cap,rfl,h1,h2,h3,fun hp=>?_⟩
 obtain ⟨b,off,rfl,hlt,hc⟩:=h4 hp
 exact ⟨b,off,rfl,hlt,fun i x hx=>(hc i x hx).below (by omega) hb⟩
theorem PairsR.mono {w:World} {B B':Nat} {v:Value} {ps:List PairD} (h:PairsR w B v ps) (hB:B≤B'):PairsR w B' v ps:=by
 obtain ⟨ao,cap,rfl,h1,h2,h3,h4⟩:=h
 refine ⟨ao,cap,rfl,h1,h2,h3,fun hp=>?_⟩
 obtain ⟨b,off,rfl,hlt,hc⟩:=h4 hp
 exact ⟨b,off,rfl,by omega,hc⟩
theorem PairsR.len {w:World} {B:Nat} {v:Value} {ps:List PairD} (h:PairsR w B v ps):ps.length*40≤140737488351232:=by
 obtain ⟨_,_,_,_,h2,_⟩:=h
 exact h2
theorem PairsR.nil (w:World) (B:Nat):PairsR w B (.slice none 0 0) []:=⟨none,0,rfl,Nat.le_refl _,by simp,fun _=>rfl,fun h=>absurd h (by simp)⟩
def Modest (ps:List PairD):Prop:=∀ x∈ps,x.name.size≤140737488351232∧x.value.size≤140737488351232
theorem PairsR.modest {w:World} {B:Nat} {v:Value} {ps:List PairD} (h:PairsR w B v ps):Modest ps:=by
 obtain ⟨ao,cap,rfl,h1,h2,h3,h4⟩:=h
 intro x hx
 obtain ⟨i,hi⟩:=List.mem_iff_getElem?.1 hx
 obtain ⟨b,off,rfl,hlt,hc⟩:=h4 (by have:=(List.getElem?_eq_some_iff.1 hi).1;omega)
 exact ⟨(hc i x hi).2.2.2.1,(hc i x hi).2.2.2.2.1⟩
theorem pairs_drewN_below (B:Nat) (w:World) (n:Nat):Below B w (w.drewN n):=⟨rfl,rfl,rfl,Nat.le_refl _,fun _ _=>rfl⟩
theorem flatP_length (ps:List PairD):(flatP ps).length=ps.length*3:=by
 induction ps with
 | nil=>rfl
 | cons r t ih=>simp only [flatP,List.flatMap_cons,List.length_append] at ih ⊢;simp only [pairCells,List.length_cons,List.length_nil,ih];omega
theorem flatP_append (a b:List PairD):flatP (a++b)=flatP a++flatP b:=by simp [flatP]
theorem flatP_snoc (a:List PairD) (x:PairD):flatP (a++[x])=flatP a++pairCells x:=by simp [flatP]
theorem flatP_at {ps:List PairD} {i:Nat} {r:PairD} (h:ps[i]?=some r) (j:Nat) (hj:j < 3):(flatP ps)[i*3+j]?=(pairCells r)[j]?:=by
 induction ps generalizing i with
 | nil=>simp at h
 | cons q t ih =>
  have e:flatP (q :: t)=pairCells q++flatP t:=by simp [flatP]
  have hl:(pairCells q).length=3:=rfl
  rw [e]
  cases i with
  | zero =>
   have:q=r:=by simpa using h
   subst this
   rw [Nat.zero_mul,Nat.zero_add,List.getElem?_append_left (by omega)]
  | succ i =>
   rw [List.getElem?_append_right (by omega),hl,show (i+1)*3+j - 3=i*3+j by omega]
   exact ih (by simpa using h)
theorem pairCells_one (x:PairD):∀ v∈pairCells x,v.oneCell'=true:=by
 intro v hv
 simp only [pairCells,List.mem_cons,List.not_mem_nil,or_false] at hv
 rcases hv with rfl | rfl | rfl <;> rfl
theorem flatP_one (ps:List PairD):∀ v∈flatP ps,v.oneCell'=true:=by
 intro v hv
 obtain ⟨r,hr,hv⟩:=List.mem_flatMap.1 hv
 exact pairCells_one r v hv
theorem pairs_reads {w:World} {base B:Nat} {v:Value} {ps:List PairD} (h:w.ownsRow base 129 3 v ps.length (flatP ps)) (hm:Modest ps) (hl:ps.length*40≤140737488351232) (hB:w.heap.size≤B):PairsR w B v ps:=by
 rcases h.2 with ⟨rfl,hn⟩ | ⟨g,cap,cur,rfl,_,hg,hle,hcm,hcs,htake⟩
 ·have:ps=[]:=List.eq_nil_of_length_eq_zero hn
  subst this
  exact PairsR.nil _ _
 ·refine ⟨some ⟨g,0,none⟩,cap,rfl,hle,hl,(by intro h;cases h),fun _=>⟨g,0,rfl,?_,fun i x hx=>?_⟩⟩
  ·have:=(h.lt g rfl).2;omega
  ·have hi:i < ps.length:=(List.getElem?_eq_some_iff.1 hx).1
   have key:∀ j,j < 3→w.cell? ⟨g,0+i*3+j,none⟩=(pairCells x)[j]?:=fun j hj=>by
    rw [Nat.zero_add,h.cellAt (i*3+j) (by omega),flatP_at hx j hj]
   exact ⟨by simpa [pairCells] using key 0 (by omega),by simpa [pairCells] using key 1 (by omega),by simpa [pairCells] using key 2 (by omega),(hm x (List.mem_of_getElem? hx)).1,(hm x (List.mem_of_getElem? hx)).2,TagB.of hg⟩
theorem Tryz.infoPair:(Tryz.prog.info? 129).map (fun i=>(i.zero,i.size,i.bytes))=some (some (.agg #[.string ⟨#[]⟩,.string ⟨#[]⟩,.int .i64 0]),3,40):=by kernel_rfl
theorem PairsR.cells {w:World} {b off:Nat} {ps:List PairD} (hc:∀ (i:Nat) (x:PairD),ps[i]?=some x→PairAt w b (off+i*3) x):∀ (j:Nat) (u:Value),(flatP ps)[j]?=some u→w.cell? ⟨b,off+j,none⟩=some u:=by
 intro j u hj
 have hjl:j < ps.length*3:=by rw [←flatP_length];exact (List.getElem?_eq_some_iff.1 hj).1
 obtain ⟨x,hx⟩:∃ x,ps[j / 3]?=some x:=⟨_,List.getElem?_eq_getElem (by omega)⟩
 obtain ⟨c0,c1,c2,-⟩:=hc _ x hx
 have e:=flatP_at hx (j % 3) (by omega)
 rw [show j / 3*3+j % 3=j by omega,hj] at e
 rcases (by omega:j % 3=0∨j % 3=1∨j % 3=2) with h | h | h
 ·rw [h] at e
  rw [show off+j=off+j / 3*3 by omega,c0,e];rfl
 ·rw [h] at e
  rw [show off+j=off+j / 3*3+1 by omega,c1,e];rfl
 ·rw [h] at e
  rw [show off+j=off+j / 3*3+2 by omega,c2,e];rfl
end Go.Proofs.YtbmfahgekcnkaajGreatDoor
namespace Go.Proofs.YtbmfahgekcnkaajGreatDoor
structure KeptD where
 seq:Int
 code:Int
 n:Int
 text:ByteArray
structure SessD where
 client:Int
 id:Int
 acked:Int
 last:Int
 replies:List KeptD
def replyB (code n:Int) (size:Nat):Bool:=decide (0≤code∧code≤15∧0≤n∧n≤1073741824∧size≤12)
def keptB (k:KeptD):Bool:=replyB k.code k.n k.text.size
def formFrom (acked:Int):Int→List KeptD→Bool
 | _,[]=>true
 | ahead,k :: r=>decide (ahead+1≤k.seq) && (decide (k.seq≤acked+4) && (keptB k && formFrom acked k.seq r))
def sformB (x:SessD):Bool:=formFrom x.acked x.acked x.replies
def rangeB (x:SessD) (index:Int):Bool :=
 decide (1≤x.client∧x.client≤9∧0≤x.acked∧x.acked≤1048576∧1≤x.id∧x.id≤index∧x.id≤x.last∧x.last≤index)
def checkFromS (index:Int):Int→List SessD→Int
 | _,[]=>0
 | ahead,x :: r=>if rangeB x index=false then 2 else if sformB x=false then 4 else if x.client≤ahead then 14 else checkFromS index x.client r
def checkS (ls:List SessD) (index:Int):Int :=
 if index < 0∨1073741824 < index then 2 else if 4 < ls.length then 1 else checkFromS index 0 ls
theorem checkFromS_nil (i h:Int):checkFromS i h []=0:=rfl
theorem checkFromS_range {i h:Int} {x:SessD} {r:List SessD} (h1:rangeB x i=false):checkFromS i h (x :: r)=2:=by unfold checkFromS;rw [if_pos h1]
theorem checkFromS_form {i h:Int} {x:SessD} {r:List SessD} (h1:rangeB x i=true) (h2:sformB x=false):checkFromS i h (x :: r)=4:=by unfold checkFromS;rw [if_neg (by simp [h1]),if_pos h2]
theorem checkFromS_order {i h:Int} {x:SessD} {r:List SessD} (h1:rangeB x i=true) (h2:sformB x=true) (h3:x.client≤h):checkFromS i h (x :: r)=14:=by unfold checkFromS;rw [if_neg (by simp [h1]),if_neg (by simp [h2]),if_pos h3]
theorem checkFromS_next {i h:Int} {x:SessD} {r:List SessD} (h1:rangeB x i=true) (h2:sformB x=true) (h3:¬ x.client≤h):checkFromS i h (x :: r)=checkFromS i x.client r:=by rw [checkFromS,if_neg (by simp [h1]),if_neg (by simp [h2]),if_neg h3]
theorem formFrom_nil (a h:Int):formFrom a h []=true:=rfl
theorem formFrom_cons (a h:Int) (k:KeptD) (r:List KeptD):formFrom a h (k :: r)=(decide (h+1≤k.seq) && (decide (k.seq≤a+4) && (keptB k && formFrom a k.seq r))):=rfl
theorem replyB_iff {c n:Int} {z:Nat}:replyB c n z=true ↔ 0≤c∧c≤15∧0≤n∧n≤1073741824∧z≤12:=by simp [replyB]
theorem rangeB_iff {x:SessD} {i:Int}:rangeB x i=true ↔ 1≤x.client∧x.client≤9∧0≤x.acked∧x.acked≤1048576∧1≤x.id∧x.id≤i∧x.id≤x.last∧x.last≤i:=by simp [rangeB]
structure Fine (index:Int) (x:SessD):Prop where
 range:rangeB x index=true
 form:sformB x=true
theorem checkFromS_zero {index:Int}:∀ {ahead:Int} {ls:List SessD},checkFromS index ahead ls=0→(∀ x∈ls,Fine index x∧ahead < x.client)∧ls.Pairwise (fun a b=>a.client < b.client)
 | _,[],_=>⟨fun x hx=>absurd hx (by simp),List.Pairwise.nil⟩
 | ahead,x :: r,h=>by
  unfold checkFromS at h
  by_cases h1:rangeB x index=false
  ·simp [h1] at h
  ·by_cases h2:sformB x=false
   ·simp [h1,h2] at h
   ·by_cases h3:x.client≤ahead
    ·simp [h1,h2,h3] at h
    ·simp only [h1,h2,h3,if_false] at h
     obtain ⟨ha,hp⟩:=checkFromS_zero h
     refine ⟨fun y hy=>?_,List.Pairwise.cons (fun y hy=>(ha y hy).2) hp⟩
     rcases List.mem_cons.1 hy with rfl | hy
     ·exact ⟨⟨by simpa using h1,by simpa using h2⟩,by omega⟩
     ·exact ⟨(ha y hy).1,by have:=(ha y hy).2;omega⟩
structure GoodS (ls:List SessD) (index:Int):Prop where
 low:0≤index
 high:index≤1073741824
 len:ls.length≤4
 fine:∀ x∈ls,Fine index x
 order:ls.Pairwise (fun a b=>a.client < b.client)
theorem checkS_zero {ls:List SessD} {index:Int} (h:checkS ls index=0):GoodS ls index:=by
 unfold checkS at h
 by_cases h1:index < 0∨1073741824 < index
 ·simp [h1] at h
 ·by_cases h2:4 < ls.length
  ·simp [h1,h2] at h
  ·simp only [h1,h2,if_false] at h
   obtain ⟨ha,hp⟩:=checkFromS_zero h
   exact ⟨by omega,by omega,by omega,fun x hx=>(ha x hx).1,hp⟩
theorem checkFromS_of {index:Int}:∀ {ahead:Int} {ls:List SessD},(∀ x∈ls,Fine index x∧ahead < x.client)→ls.Pairwise (fun a b=>a.client < b.client)→checkFromS index ahead ls=0
 | _,[],_,_=>rfl
 | ahead,x :: r,h,hp=>by
  unfold checkFromS
  have hx:=h x (by simp)
  rw [hx.1.range,hx.1.form]
  have h3:¬ x.client≤ahead:=by omega
  rw [List.pairwise_cons] at hp
  simp [h3]
  exact checkFromS_of (fun y hy=>⟨(h y (by simp [hy])).1,hp.1 y hy⟩) hp.2
theorem checkS_of {ls:List SessD} {index:Int} (h:GoodS ls index):checkS ls index=0:=by
 unfold checkS
 rw [if_neg (by have:=h.low;have:=h.high;omega),if_neg (by have:=h.len;omega)]
 exact checkFromS_of (fun x hx=>⟨h.fine x hx,by have:=rangeB_iff.1 (h.fine x hx).range;omega⟩) h.order
theorem formFrom_len {a:Int}:∀ {h:Int} {ks:List KeptD},formFrom a h ks=true→(ks.length:Int)≤max (a+4 - h) 0
 | _,[],_=>by simp;omega
 | h,k :: r,hf=>by
  rw [formFrom_cons] at hf
  simp only [Bool.and_eq_true,decide_eq_true_eq] at hf
  have:=formFrom_len hf.2.2.2
  simp only [List.length_cons]
  omega
theorem sformB_len {x:SessD} (h:sformB x=true):x.replies.length≤4:=by
 have:=formFrom_len h
 omega
theorem formFrom_mem {a:Int}:∀ {h:Int} {ks:List KeptD},formFrom a h ks=true→∀ k∈ks,h < k.seq∧k.seq≤a+4∧keptB k=true
 | _,[],_,k,hk=>absurd hk (by simp)
 | h,q :: r,hf,k,hk=>by
  rw [formFrom_cons] at hf
  simp only [Bool.and_eq_true,decide_eq_true_eq] at hf
  rcases List.mem_cons.1 hk with rfl | hk
  ·exact ⟨by omega,hf.2.1,hf.2.2.1⟩
  ·have:=formFrom_mem hf.2.2.2 k hk
   exact ⟨by omega,this.2⟩
theorem formFrom_rise {a:Int}:∀ {h:Int} {ks:List KeptD},formFrom a h ks=true→ks.Pairwise (fun x y=>x.seq < y.seq)
 | _,[],_=>List.Pairwise.nil
 | h,q :: r,hf=>by
  rw [formFrom_cons] at hf
  simp only [Bool.and_eq_true,decide_eq_true_eq] at hf
  exact List.Pairwise.cons (fun y hy=>(formFrom_mem hf.2.2.2 y hy).1) (formFrom_rise hf.2.2.2)
theorem formFrom_of {a:Int}:∀ {h:Int} {ks:List KeptD},(∀ k∈ks,h < k.seq∧k.seq≤a+4∧keptB k=true)→ks.Pairwise (fun x y=>x.seq < y.seq)→formFrom a h ks=true
 | _,[],_,_=>rfl
 | h,q :: r,hk,hp=>by
  rw [formFrom_cons]
  have:=hk q (by simp)
  rw [List.pairwise_cons] at hp
  simp only [Bool.and_eq_true,decide_eq_true_eq]
  exact ⟨by omega,this.2.1,this.2.2,formFrom_of (fun y hy=>⟨hp.1 y hy,(hk y (by simp [hy])).2⟩) hp.2⟩
def freshP (index:Int) (x:SessD):Bool:=decide (index < x.last+40)
def freshS (ls:List SessD) (index:Int):List SessD:=ls.filter (freshP index)
def placeS (ls:List SessD) (client:Int):Nat:=ls.findIdx fun x=>decide (client≤x.client)
def thereS (ls:List SessD) (client:Int):Bool:=match ls[placeS ls client]? with
 | some x=>decide (x.client=client)
 | none=>false
def placeK (ks:List KeptD) (seq:Int):Nat:=ks.findIdx fun k=>decide (seq≤k.seq)
def thereK (ks:List KeptD) (seq:Int):Bool:=match ks[placeK ks seq]? with
 | some k=>decide (k.seq=seq)
 | none=>false
def joinE (ls:List SessD) (index client:Int):Int :=
 if checkS ls index≠0 then checkS ls index else if (1≤client∧client≤9)∧index≠1073741824 then 0 else 2
structure ReplyD where
 code:Int
 n:Int
 text:ByteArray
def joinS (ls:List SessD) (index client:Int):List SessD × ReplyD :=
 match thereS ls client,ls[placeS ls client]? with
 | true,some x=>(ls.set (placeS ls client) { x with last:=index+1 },⟨7,x.id,⟨#[]⟩⟩)
 | _,_=>if ls.length=4 then (ls,⟨8,0,⟨#[]⟩⟩) else (ls.take (placeS ls client)++⟨client,index+1,0,index+1,[]⟩ :: ls.drop (placeS ls client),⟨0,index+1,⟨#[]⟩⟩)
def leaveS (ls:List SessD) (client:Int):List SessD × ReplyD :=
 if thereS ls client=true then (ls.eraseIdx (placeS ls client),⟨0,0,⟨#[]⟩⟩) else (ls,⟨11,0,⟨#[]⟩⟩)
def readyE (ls:List SessD) (index seq acked:Int):Int :=
 if checkS ls index≠0 then checkS ls index else if index≠1073741824∧(1≤seq∧seq≤1048576)∧0≤acked∧acked≤seq - 1 then 0 else 2
def hearD (x:SessD) (entry acked:Int):SessD :=
 { x with last:=entry,acked:=max x.acked acked,replies:=x.replies.filter fun k=>!decide (k.seq≤max x.acked acked) }
def answerD (x:SessD) (seq:Int):ReplyD × Bool :=
 if seq≤x.acked then (⟨12,0,⟨#[]⟩⟩,false)
 else match thereK x.replies seq,x.replies[placeK x.replies seq]? with
  | true,some k=>(⟨k.code,k.n,k.text⟩,false)
  | _,_=>if x.acked+4 < seq then (⟨2,0,⟨#[]⟩⟩,false) else (⟨0,0,⟨#[]⟩⟩,true)
def readyS (ls:List SessD) (index client session seq acked:Int):List SessD × ReplyD × Bool :=
 match thereS ls client,ls[placeS ls client]? with
 | true,some x=>if x.id=session then (ls.set (placeS ls client) (hearD x (index+1) acked),answerD (hearD x (index+1) acked) seq) else (ls,⟨11,0,⟨#[]⟩⟩,false)
 | _,_=>(ls,⟨11,0,⟨#[]⟩⟩,false)
def withK (ks:List KeptD) (k:KeptD):List KeptD:=ks.take (placeK ks k.seq)++k :: ks.drop (placeK ks k.seq)
def keepE (ls:List SessD) (index client:Int) (k:KeptD):Int :=
 if checkS ls index≠0 then checkS ls index
 else match thereS ls client,ls[placeS ls client]? with
  | true,some x=>if thereK x.replies k.seq=true then 7 else if sformB { x with replies:=withK x.replies k }=true then 0 else 2
  | _,_=>11
def keepS (ls:List SessD) (client:Int) (k:KeptD):List SessD :=
 match ls[placeS ls client]? with
 | some x=>ls.set (placeS ls client) { x with replies:=withK x.replies k }
 | none=>ls
end Go.Proofs.YtbmfahgekcnkaajGreatDoor
namespace Go.Proofs.YtbmfahgekcnkaajGreatDoor
open Go.RowKit
def keptCells (k:KeptD):List Value:=[.int .i64 k.seq,.int .i64 k.code,.int .i64 k.n,.string k.text]
theorem keptCells_len (k:KeptD):(keptCells k).length=4:=rfl
theorem keptCells_one (x:KeptD):∀ v∈keptCells x,v.oneCell'=true:=by
 intro v hv
 simp only [keptCells,List.mem_cons,List.not_mem_nil,or_false] at hv
 rcases hv with rfl | rfl | rfl | rfl <;> rfl
def KeptAt (w:World) (b o:Nat) (k:KeptD):Prop :=
 w.cell? ⟨b,o,none⟩=some (.int .i64 k.seq)∧w.cell? ⟨b,o+1,none⟩=some (.int .i64 k.code)∧w.cell? ⟨b,o+2,none⟩=some (.int .i64 k.n)∧w.cell? ⟨b,o+3,none⟩=some (.string k.text) ∧
  k.text.size≤140737488351232∧TagB 170 w b
def KeptsR (w:World) (B:Nat) (v:Value) (ks:List KeptD):Prop :=
 ∃ ao cap,v=.slice ao ks.length cap∧ks.length≤cap∧ks.length*40≤140737488351232∧(ao=none→cap=0) ∧
  (0 < ks.length→∃ b off,ao=some ⟨b,off,none⟩∧b < B∧∀ (i:Nat) (x:KeptD),ks[i]?=some x→KeptAt w b (off+i*4) x)
def SessAt (w:World) (B:Nat) (b o:Nat) (x:SessD):Prop :=
 ∃ lv,w.cell? ⟨b,o,none⟩=some (.int .i64 x.client)∧w.cell? ⟨b,o+1,none⟩=some (.int .i64 x.id)∧w.cell? ⟨b,o+2,none⟩=some (.int .i64 x.acked) ∧
  w.cell? ⟨b,o+3,none⟩=some (.int .i64 x.last)∧w.cell? ⟨b,o+4,none⟩=some lv∧KeptsR w B lv x.replies∧TagB 132 w b
def SessR (w:World) (B:Nat) (v:Value) (ls:List SessD):Prop :=
 ∃ ao cap,v=.slice ao ls.length cap∧ls.length≤cap∧ls.length*56≤140737488351232∧(ao=none→cap=0) ∧
  (0 < ls.length→∃ b off,ao=some ⟨b,off,none⟩∧b < B∧∀ (i:Nat) (x:SessD),ls[i]?=some x→SessAt w B b (off+i*5) x)
theorem KeptAt.below {w w':World} {B b o:Nat} {x:KeptD} (h:KeptAt w b o x) (hlt:b < B) (hb:Below B w w'):KeptAt w' b o x:=by
 obtain ⟨c0,c1,c2,c3,hs⟩:=h
 have key:∀ o',w'.cell? ⟨b,o',none⟩=w.cell? ⟨b,o',none⟩:=fun o'=>hb.cell (p:=⟨b,o',none⟩) hlt
 exact ⟨(key _).trans c0,(key _).trans c1,(key _).trans c2,(key _).trans c3,hs.1,hs.2.block (hb.block b hlt)⟩
theorem KeptsR.below {w w':World} {B:Nat} {v:Value} {xs:List KeptD} (h:KeptsR w B v xs) {B':Nat} (hb:Below B' w w') (hB:B≤B'):KeptsR w' B v xs:=by
 obtain ⟨ao,cap,rfl,h1,h2,h3,h4⟩:=h
 refine ⟨ao,cap,rfl,h1,h2,h3,fun hp=>?_⟩
 obtain ⟨b,off,rfl,hlt,hc⟩:=h4 hp
 exact ⟨b,off,rfl,hlt,fun i x hx=>(hc i x hx).below (by omega) hb⟩
theorem KeptsR.mono {w:World} {B B':Nat} {v:Value} {xs:List KeptD} (h:KeptsR w B v xs) (hB:B≤B'):KeptsR w B' v xs:=by
 obtain ⟨ao,cap,rfl,h1,h2,h3,h4⟩:=h
 refine ⟨ao,cap,rfl,h1,h2,h3,fun hp=>?_⟩
 obtain ⟨b,off,rfl,hlt,hc⟩:=h4 hp
 exact ⟨b,off,rfl,by omega,hc⟩
theorem KeptsR.len {w:World} {B:Nat} {v:Value} {xs:List KeptD} (h:KeptsR w B v xs):xs.length*40≤140737488351232:=by
 obtain ⟨_,_,_,_,h2,_⟩:=h
 exact h2
theorem KeptsR.nil (w:World) (B:Nat):KeptsR w B (.slice none 0 0) []:=⟨none,0,rfl,Nat.le_refl _,by simp,fun _=>rfl,fun h=>absurd h (by simp)⟩
theorem SessAt.below {w w':World} {B b o:Nat} {x:SessD} (h:SessAt w B b o x) (hlt:b < B) {B':Nat} (hb:Below B' w w') (hB:B≤B'):SessAt w' B b o x:=by
 obtain ⟨lv,c0,c1,c2,c3,c4,hl⟩:=h
 have key:∀ o',w'.cell? ⟨b,o',none⟩=w.cell? ⟨b,o',none⟩:=fun o'=>hb.cell (p:=⟨b,o',none⟩) (by simp;omega)
 exact ⟨lv,(key _).trans c0,(key _).trans c1,(key _).trans c2,(key _).trans c3,(key _).trans c4,hl.1.below hb hB,hl.2.block (hb.block b (by omega))⟩
theorem SessAt.mono {w:World} {B B' b o:Nat} {x:SessD} (h:SessAt w B b o x) (hB:B≤B'):SessAt w B' b o x:=by
 obtain ⟨lv,c0,c1,c2,c3,c4,hl⟩:=h
 exact ⟨lv,c0,c1,c2,c3,c4,hl.1.mono hB,hl.2⟩
theorem SessR.below {w w':World} {B:Nat} {v:Value} {ls:List SessD} (h:SessR w B v ls) {B':Nat} (hb:Below B' w w') (hB:B≤B'):SessR w' B v ls:=by
 obtain ⟨ao,cap,rfl,h1,h2,h3,h4⟩:=h
 refine ⟨ao,cap,rfl,h1,h2,h3,fun hp=>?_⟩
 obtain ⟨b,off,rfl,hlt,hc⟩:=h4 hp
 exact ⟨b,off,rfl,hlt,fun i x hx=>(hc i x hx).below hlt hb hB⟩
theorem SessR.mono {w:World} {B B':Nat} {v:Value} {ls:List SessD} (h:SessR w B v ls) (hB:B≤B'):SessR w B' v ls:=by
 obtain ⟨ao,cap,rfl,h1,h2,h3,h4⟩:=h
 refine ⟨ao,cap,rfl,h1,h2,h3,fun hp=>?_⟩
 obtain ⟨b,off,rfl,hlt,hc⟩:=h4 hp
 exact ⟨b,off,rfl,by omega,fun i x hx=>(hc i x hx).mono hB⟩
theorem SessR.len {w:World} {B:Nat} {v:Value} {ls:List SessD} (h:SessR w B v ls):ls.length*56≤140737488351232:=by
 obtain ⟨_,_,_,_,h2,_⟩:=h
 exact h2
theorem SessR.nil (w:World) (B:Nat):SessR w B (.slice none 0 0) []:=⟨none,0,rfl,Nat.le_refl _,by simp,fun _=>rfl,fun h=>absurd h (by simp)⟩
theorem Tryz.infoKept:(Tryz.prog.info? 170).map (fun i=>(i.zero,i.size,i.bytes))=some (some (.agg #[.int .i64 0,.int .i64 0,.int .i64 0,.string ⟨#[]⟩]),4,40):=by kernel_rfl
theorem Tryz.infoSess:(Tryz.prog.info? 132).map (fun i=>(i.zero,i.size,i.bytes))=some (some (.agg #[.int .i64 0,.int .i64 0,.int .i64 0,.int .i64 0,.slice none 0 0]),5,56):=by kernel_rfl
end Go.Proofs.YtbmfahgekcnkaajGreatDoor
namespace Go.Proofs.YtbmfahgekcnkaajGreatDoor
open Go.RowKit
structure StateD where
 index:Int
 locks:List LockD
 pairs:List PairD
 sess:List SessD
def StateR (w:World) (B:Nat) (v:Value) (s:StateD):Prop :=
 ∃ lv pv sv,v=.agg #[.int .i64 s.index,lv,pv,sv]∧LocksR w B lv s.locks∧PairsR w B pv s.pairs∧SessR w B sv s.sess
theorem StateR.below {w w':World} {B:Nat} {v:Value} {s:StateD} (h:StateR w B v s) {B':Nat} (hb:Below B' w w') (hB:B≤B'):StateR w' B v s:=by
 obtain ⟨lv,pv,sv,rfl,h1,h2,h3⟩:=h
 exact ⟨lv,pv,sv,rfl,h1.below hb hB,h2.below hb hB,h3.below hb hB⟩
theorem StateR.mono {w:World} {B B':Nat} {v:Value} {s:StateD} (h:StateR w B v s) (hB:B≤B'):StateR w B' v s:=by
 obtain ⟨lv,pv,sv,rfl,h1,h2,h3⟩:=h
 exact ⟨lv,pv,sv,rfl,h1.mono hB,h2.mono hB,h3.mono hB⟩
theorem LocksR.slice {w:World} {B:Nat} {v:Value} {ls:List LockD} (h:LocksR w B v ls):∃ ao cap,v=.slice ao ls.length cap:=by
 obtain ⟨ao,cap,rfl,-⟩:=h
 exact ⟨ao,cap,rfl⟩
theorem PairsR.slice {w:World} {B:Nat} {v:Value} {ls:List PairD} (h:PairsR w B v ls):∃ ao cap,v=.slice ao ls.length cap:=by
 obtain ⟨ao,cap,rfl,-⟩:=h
 exact ⟨ao,cap,rfl⟩
theorem SessR.slice {w:World} {B:Nat} {v:Value} {ls:List SessD} (h:SessR w B v ls):∃ ao cap,v=.slice ao ls.length cap:=by
 obtain ⟨ao,cap,rfl,-⟩:=h
 exact ⟨ao,cap,rfl⟩
end Go.Proofs.YtbmfahgekcnkaajGreatDoor
namespace Go.Proofs.YtbmfahgekcnkaajGreatDoor
open Go.RowKit
def nameB (s:ByteArray):Bool:=decide (1≤s.size∧s.size≤6∧∀ k,(h:k < s.size)→97≤s[k].toNat∧s[k].toNat≤122)
theorem nameB_yes {s:ByteArray} (h:nameB s=true):1≤s.size∧s.size≤6∧∀ k,(h:k < s.size)→97≤(s[k].toNat:Int)∧(s[k].toNat:Int)≤122:=by
 unfold nameB at h
 have:=of_decide_eq_true h
 refine ⟨this.1,this.2.1,fun k hk=>?_⟩
 have:=this.2.2 k hk
 omega
theorem nameB_no {s:ByteArray} (h:nameB s=false) (h1:1≤s.size) (h2:s.size≤6):∃ k,∃ h:k < s.size,(s[k].toNat:Int) < 97∨122 < (s[k].toNat:Int):=by
 unfold nameB at h
 have:=of_decide_eq_false h
 apply Classical.byContradiction
 intro hn
 refine this ⟨h1,h2,fun k hk=>?_⟩
 apply Classical.byContradiction
 intro hc
 exact hn ⟨k,hk,by omega⟩
end Go.Proofs.YtbmfahgekcnkaajGreatDoor
namespace Go.Proofs.YtbmfahgekcnkaajGreatDoor
open Go.RowKit
def hasB (x:Int) (xs:List Int):Bool:=decide (x∈xs)
theorem hasB_first {x:Int} {xs:List Int} (h:hasB x xs=true):∃ i:Nat,xs[i]?=some x∧∀ j:Nat,j < i→xs[j]?≠some x:=by
 obtain ⟨j,hj⟩:=List.mem_iff_getElem?.1 (of_decide_eq_true h)
 induction j using Nat.strongRecOn with
 | ind j ih =>
  by_cases hm:∃ i:Nat,i < j∧xs[i]?=some x
  ·obtain ⟨i,hi,hx⟩:=hm
   exact ih i hi hx
  ·exact ⟨j,hj,fun i hi hx=>hm ⟨i,hi,hx⟩⟩
theorem hasB_none {x:Int} {xs:List Int} (h:hasB x xs=false) (j:Nat):xs[j]?≠some x:=fun hj=>of_decide_eq_false h (List.mem_of_getElem? hj)
theorem ret_bool {a b:Bool} (h:a=b):Ending.returned (.bool a)=.returned (.bool b):=by rw [h]
set_option maxHeartbeats 400000 in
theorem index_found (v:Value) (xs:List Int) (x:Int) (n:Nat) (w:World) (B:Nat) (hv:IntsR w B v xs) (hn:xs[n]?=some x) (hm:∀ j,j < n→xs[j]?≠some x) :
  Calls Tryz.prog 136 #[v,.int .i64 x] w fun e w'=>e=.returned (.int .i64 n)∧w'=w:=by
 obtain ⟨ao,cap,rfl,h1,h2,h3,h4⟩:=hv
 have HN:Hid (xs[n]?=some x):=hn
 have HM:Hid (∀ j,j < n→xs[j]?≠some x):=hm
 have hnl:n < xs.length:=(List.getElem?_eq_some_iff.1 hn).1
 clear hn hm
 go_enter Tryz.func136,Tryz.ntmps136
 go_wp2
 go_loop [8] (fun i=>∃ k:Nat,k≤n∧i=.int .i64 k) (fun i=>xs.length - (intOf i).toNat)
 case atStart=>exact ⟨0,Nat.zero_le _,rfl⟩
 case round =>
  obtain ⟨k,hk,rfl⟩:=hrel
  have hlt:k < xs.length:=by omega
  obtain ⟨b,off,rfl,hb,hc⟩:=h4 (by omega)
  obtain ⟨y,hy⟩:∃ y,xs[k]?=some y:=⟨_,List.getElem?_eq_getElem hlt⟩
  have hcell:=hc k y hy
  have HY:Hid (xs[k]?=some y):=hy
  clear hy hc h4
  by_cases hkn:k=n
  ·subst hkn
   have hyx:x=y:=by have:=HY.out;rw [HN.out] at this;simpa using this
   clear HN HY
   subst hyx
   go_wp2
   go_ret
   exact ⟨rfl,rfl⟩
  ·have hkn':k < n:=by omega
   have hyx:¬ x=y:=by rintro rfl;exact HM.out k hkn' HY.out
   clear hkn
   go_wp2
   go_round
   case rel=>exact ⟨k+1,by omega,by go_num⟩
   case measure=>simp [intOf];omega
set_option maxHeartbeats 400000 in
theorem index_none (v:Value) (xs:List Int) (x:Int) (w:World) (B:Nat) (hv:IntsR w B v xs) (hm:∀ j:Nat,xs[j]?≠some x) :
  Calls Tryz.prog 136 #[v,.int .i64 x] w fun e w'=>e=.returned (.int .i64 (-1))∧w'=w:=by
 obtain ⟨ao,cap,rfl,h1,h2,h3,h4⟩:=hv
 have HM:Hid (∀ j:Nat,xs[j]?≠some x):=hm
 clear hm
 go_enter Tryz.func136,Tryz.ntmps136
 go_wp2
 go_loop [8] (fun i=>∃ k:Nat,k≤xs.length∧i=.int .i64 k) (fun i=>xs.length - (intOf i).toNat)
 case atStart=>exact ⟨0,Nat.zero_le _,rfl⟩
 case round =>
  obtain ⟨k,hk,rfl⟩:=hrel
  by_cases hlt:k < xs.length
  ·obtain ⟨b,off,rfl,hb,hc⟩:=h4 (by omega)
   obtain ⟨y,hy⟩:∃ y,xs[k]?=some y:=⟨_,List.getElem?_eq_getElem hlt⟩
   have hcell:=hc k y hy
   have hyx:¬ x=y:=by rintro rfl;exact HM.out k hy
   clear hy hc h4
   go_wp2
   go_round
   case rel=>exact ⟨k+1,by omega,by go_num⟩
   case measure=>simp [intOf];omega
  ·go_wp2
   go_ret
   exact ⟨rfl,rfl⟩
theorem contains_any (v:Value) (xs:List Int) (x:Int) (w:World) (B:Nat) (hv:IntsR w B v xs) :
  Calls Tryz.prog 153 #[v,.int .i64 x] w fun e w'=>e=.returned (.bool (hasB x xs))∧w'=w:=by
 cases h:hasB x xs with
 | true =>
  obtain ⟨n,hn,hm⟩:=hasB_first h
  have hnl:n < xs.length:=(List.getElem?_eq_some_iff.1 hn).1
  have hlen:=hv.len
  have C:=index_found v xs x n w B hv hn hm
  clear hv hn hm h
  go_enter Tryz.func153,Tryz.ntmps153
  go_wp2_with fail
  refine C.mono ?_
  rintro e w1 ⟨rfl,rfl⟩
  go_wp2
  go_ret
  exact ⟨rfl,rfl⟩
 | false =>
  have C:=index_none v xs x w B hv (hasB_none h)
  clear hv h
  go_enter Tryz.func153,Tryz.ntmps153
  go_wp2_with fail
  refine C.mono ?_
  rintro e w1 ⟨rfl,rfl⟩
  go_wp2
  go_ret
  exact ⟨rfl,rfl⟩
end Go.Proofs.YtbmfahgekcnkaajGreatDoor
