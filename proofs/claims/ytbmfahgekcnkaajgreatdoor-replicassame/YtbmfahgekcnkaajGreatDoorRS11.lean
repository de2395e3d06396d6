/- A block's cells, read, and kept behind callees. It names no program; A state in a block of its own: what it reads as, and what stores leave of it; A row of pairs of the call's own: kept, put anew; pair.place, by slices.IndexFunc with its closure; the document's pairAt; Rows of pairs, put anew one by one (joined by program) -/
import Derived.Laws.Cover1
import Derived.Deep.QuietTactic
import Derived.BigQuiet
import Derived.Deep.DeepCutAuto
import Derived.Deep.RegionWith
import Derived.Test.YtbmfahgekcnkaajGreatDoorRS00
import Derived.Test.YtbmfahgekcnkaajGreatDoorRS02
import Derived.Test.YtbmfahgekcnkaajGreatDoorRS01
namespace Go.Proofs.YtbmfahgekcnkaajGreatDoor
open Go.RowKit
theorem cells_of {w:World} {g:Nat} {cs:Array Value} {t:TypeId} (h:w.heap[g]?=some (.cells cs t (0,0))) (j:Nat):w.cell? ⟨g,j,none⟩=cs[j]?:=cell_of_row w g j _ _ _ h
theorem heap_set {w:World} {p j:Nat} {cs:Array Value} {t:TypeId} (h:w.heap[p]?=some (.cells cs t (0,0))) (u:Value):(w.setCell ⟨p,j,none⟩ u).heap[p]?=some (.cells (cs.setIfInBounds j u) t (0,0)):=by
 simp only [World.setCell]
 rw [Array.getElem?_modify,h]
 simp
theorem state_cells {w:World} {p:Nat} {x0 x1 x2 x3:Value} {t:TypeId} (h:w.heap[p]?=some (.cells #[x0,x1,x2,x3] t (0,0))) :
  w.cell? ⟨p,0,none⟩=some x0∧w.cell? ⟨p,1,none⟩=some x1∧w.cell? ⟨p,2,none⟩=some x2∧w.cell? ⟨p,3,none⟩=some x3∧(∀ j,w.frozen? ⟨p,j,none⟩=false)∧p < w.heap.size :=
 ⟨cells_of h 0,cells_of h 1,cells_of h 2,cells_of h 3,fun j=>frozen_of_row w p j _ _ h,(Array.getElem?_eq_some_iff.1 h).1⟩
theorem reply_cells {w:World} {p:Nat} {x0 x1 x2:Value} {t:TypeId} (h:w.heap[p]?=some (.cells #[x0,x1,x2] t (0,0))) :
  w.cell? ⟨p,0,none⟩=some x0∧w.cell? ⟨p,1,none⟩=some x1∧w.cell? ⟨p,2,none⟩=some x2∧(∀ j,w.frozen? ⟨p,j,none⟩=false)∧p < w.heap.size :=
 ⟨cells_of h 0,cells_of h 1,cells_of h 2,fun j=>frozen_of_row w p j _ _ h,(Array.getElem?_eq_some_iff.1 h).1⟩
theorem behind {w W w2:World} {p:Nat} {o1:Obj} (hp:w.heap[p]?=some o1) (hW:Below w.heap.size w W) (hb:Below W.heap.size W w2):w2.heap[p]?=some o1:=by
 have hl:=(Array.getElem?_eq_some_iff.1 hp).1
 rw [hb.block p (by have:=hW.size;omega),hW.block p hl,hp]
theorem two_newB {w w2:World} {A R:Obj} (hb:Below (w.heap.size+2) ((w.alloc A).alloc R) w2):w2.heap[w.heap.size+1]?=some R∧w2.heap[w.heap.size]?=some A:=by
 have h1:=heap_alloc_new (w.alloc A) R
 rw [World.size_alloc] at h1
 have h2:((w.alloc A).alloc R).heap[w.heap.size]?=some A:=by
  rw [Below.heap_alloc _ _ _ (by simp)]
  exact heap_alloc_new w A
 exact ⟨(hb.block _ (by omega)).trans h1,(hb.block _ (by omega)).trans h2⟩
theorem five_cells {w:World} {p:Nat} {x0 x1 x2 x3 x4:Value} {t:TypeId} (h:w.heap[p]?=some (.cells #[x0,x1,x2,x3,x4] t (0,0))) :
  w.cell? ⟨p,0,none⟩=some x0∧w.cell? ⟨p,1,none⟩=some x1∧w.cell? ⟨p,2,none⟩=some x2∧w.cell? ⟨p,3,none⟩=some x3∧w.cell? ⟨p,4,none⟩=some x4∧(∀ j,w.frozen? ⟨p,j,none⟩=false)∧p < w.heap.size :=
 ⟨cells_of h 0,cells_of h 1,cells_of h 2,cells_of h 3,cells_of h 4,fun j=>frozen_of_row w p j _ _ h,(Array.getElem?_eq_some_iff.1 h).1⟩
theorem two_cells {w:World} {p:Nat} {x0 x1:Value} {t:TypeId} (h:w.heap[p]?=some (.cells #[x0,x1] t (0,0))):w.cell? ⟨p,0,none⟩=some x0∧w.cell? ⟨p,1,none⟩=some x1∧p < w.heap.size :=
 ⟨cells_of h 0,cells_of h 1,(Array.getElem?_eq_some_iff.1 h).1⟩
end Go.Proofs.YtbmfahgekcnkaajGreatDoor
namespace Go.Proofs.YtbmfahgekcnkaajGreatDoor
open Go.RowKit
structure Foreign (w:World) (g:Nat):Prop where
 pair:∀ o x,¬ PairAt w g o x
 kept:∀ o x,¬ KeptAt w g o x
 sess:∀ B o x,¬ SessAt w B g o x
 kind:∃ cs t fr,w.heap[g]?=some (.cells cs t fr)∧t≠126∧t≠3
theorem touch_cell {w w':World} {S:Nat→Prop} (ht:TouchG w w' S) {b:Nat} (hb:b < w.heap.size) (hs:¬ S b) (o:Nat):w'.cell? ⟨b,o,none⟩=w.cell? ⟨b,o,none⟩ :=
 World.cell?_of_block (ht.block b hb hs)
theorem PairsR.touch {w w':World} {B:Nat} {v:Value} {ps:List PairD} {S:Nat→Prop} (h:PairsR w B v ps) (hB:B≤w.heap.size) (ht:TouchG w w' S) (hf:∀ g,g < w.heap.size→S g→Foreign w g):PairsR w' B v ps:=by
 obtain ⟨ao,cap,rfl,h1,h2,h3,h4⟩:=h
 refine ⟨ao,cap,rfl,h1,h2,h3,fun hp=>?_⟩
 obtain ⟨b,off,rfl,hlt,hc⟩:=h4 hp
 have hs:¬ S b:=fun hs=>by
  obtain ⟨x,hx⟩:∃ x,ps[0]?=some x:=⟨_,List.getElem?_eq_getElem hp⟩
  exact (hf b (by omega) hs).pair _ x (hc 0 x hx)
 refine ⟨b,off,rfl,hlt,fun i x hx=>?_⟩
 obtain ⟨c0,c1,c2,h5⟩:=hc i x hx
 have key:=touch_cell ht (b:=b) (by omega) hs
 exact ⟨(key _).trans c0,(key _).trans c1,(key _).trans c2,h5.1,h5.2.1,h5.2.2.block (ht.block b (by omega) hs)⟩
theorem KeptsR.touch {w w':World} {B:Nat} {v:Value} {ks:List KeptD} {S:Nat→Prop} (h:KeptsR w B v ks) (hB:B≤w.heap.size) (ht:TouchG w w' S) (hf:∀ g,g < w.heap.size→S g→Foreign w g):KeptsR w' B v ks:=by
 obtain ⟨ao,cap,rfl,h1,h2,h3,h4⟩:=h
 refine ⟨ao,cap,rfl,h1,h2,h3,fun hp=>?_⟩
 obtain ⟨b,off,rfl,hlt,hc⟩:=h4 hp
 have hs:¬ S b:=fun hs=>by
  obtain ⟨x,hx⟩:∃ x,ks[0]?=some x:=⟨_,List.getElem?_eq_getElem hp⟩
  exact (hf b (by omega) hs).kept _ x (hc 0 x hx)
 refine ⟨b,off,rfl,hlt,fun i x hx=>?_⟩
 obtain ⟨c0,c1,c2,c3,h5⟩:=hc i x hx
 have key:=touch_cell ht (b:=b) (by omega) hs
 exact ⟨(key _).trans c0,(key _).trans c1,(key _).trans c2,(key _).trans c3,h5.1,h5.2.block (ht.block b (by omega) hs)⟩
theorem SessR.touch {w w':World} {B:Nat} {v:Value} {ls:List SessD} {S:Nat→Prop} (h:SessR w B v ls) (hB:B≤w.heap.size) (ht:TouchG w w' S) (hf:∀ g,g < w.heap.size→S g→Foreign w g):SessR w' B v ls:=by
 obtain ⟨ao,cap,rfl,h1,h2,h3,h4⟩:=h
 refine ⟨ao,cap,rfl,h1,h2,h3,fun hp=>?_⟩
 obtain ⟨b,off,rfl,hlt,hc⟩:=h4 hp
 have hs:¬ S b:=fun hs=>by
  obtain ⟨x,hx⟩:∃ x,ls[0]?=some x:=⟨_,List.getElem?_eq_getElem hp⟩
  exact (hf b (by omega) hs).sess B _ x (hc 0 x hx)
 refine ⟨b,off,rfl,hlt,fun i x hx=>?_⟩
 obtain ⟨lv,c0,c1,c2,c3,c4,h5⟩:=hc i x hx
 have key:=touch_cell ht (b:=b) (by omega) hs
 exact ⟨lv,(key _).trans c0,(key _).trans c1,(key _).trans c2,(key _).trans c3,(key _).trans c4,h5.1.touch hB ht hf,h5.2.block (ht.block b (by omega) hs)⟩
theorem LocksO.touch {w w':World} {base:Nat} {v:Value} {ls:List LockD} {S:Nat→Prop} (h:LocksO w base v ls) (ht:TouchG w w' S) (hf:∀ g,g < w.heap.size→S g→Foreign w g):LocksO w' base v ls:=by
 obtain ⟨rs,rfl,h⟩:=h
 refine ⟨rs,rfl,h.keep (fun b hb=>?_) (fun b hb=>?_)⟩
 ·have hlt:=(h.row.lt b hb).2
  refine ht.block b hlt (fun hs=>?_)
  obtain ⟨cs,t,fr,hg,t1,-⟩:=(hf b hlt hs).kind
  rcases h.row.2 with ⟨e,_⟩ | ⟨g,cap,cur,e,_,hg',_⟩
  ·rw [e] at hb;cases hb
  ·rw [e] at hb
   have:g=b:=by simpa [Value.ownBlock] using hb
   subst this
   rw [hg'] at hg
   simp only [Option.some.injEq,Obj.cells.injEq] at hg
   exact t1 hg.2.1.symm
 ·have hlt:=(h.lines.lt hb).2
  refine ht.block b hlt (fun hs=>?_)
  obtain ⟨cs,t,fr,hg,-,t2⟩:=(hf b hlt hs).kind
  obtain ⟨r,hr,e⟩:=mem_lineBlocks.1 hb
  rcases (h.lines.each r hr).1.2 with ⟨e2,_⟩ | ⟨g,cap,cur,e2,_,hg',_⟩
  ·rw [e2] at e;cases e
  ·rw [e2] at e
   have:g=b:=by simpa [Value.ownBlock] using e
   subst this
   rw [hg'] at hg
   simp only [Option.some.injEq,Obj.cells.injEq] at hg
   exact t2 hg.2.1.symm
theorem foreign_state {w:World} {g:Nat} {i:Int} {lo po so:Option Addr} {ln lc pn pc sn sc:Nat} (h:w.heap[g]?=some (.cells #[.int .i64 i,.slice lo ln lc,.slice po pn pc,.slice so sn sc] 34 (0,0))):Foreign w g:=by
 have hc:=cells_of h
 refine ⟨fun o x hx=>?_,fun o x hx=>?_,fun B o x hx=>?_,⟨_,_,_,h,by decide,by decide⟩⟩
 ·have:=hx.1
  rw [hc] at this
  match o,this with
  | 0,e=>simp at e
  | 1,e=>simp at e
  | 2,e=>simp at e
  | 3,e=>simp at e
  | n+4,e=>simp at e
 ·have h1:=hx.1
  have h2:=hx.2.1
  rw [hc] at h1 h2
  match o,h1,h2 with
  | 0,_,e=>simp at e
  | 1,e,_=>simp at e
  | 2,e,_=>simp at e
  | 3,e,_=>simp at e
  | n+4,e,_=>simp at e
 ·obtain ⟨lv,h1,h2,-⟩:=hx
  rw [hc] at h1 h2
  match o,h1,h2 with
  | 0,_,e=>simp at e
  | 1,e,_=>simp at e
  | 2,e,_=>simp at e
  | 3,e,_=>simp at e
  | n+4,e,_=>simp at e
theorem foreign_reply {w:World} {g:Nat} {c n:Int} {s:ByteArray} (h:w.heap[g]?=some (.cells #[.int .i64 c,.int .i64 n,.string s] 67 (0,0))):Foreign w g:=by
 have hc:=cells_of h
 refine ⟨fun o x hx=>?_,fun o x hx=>?_,fun B o x hx=>?_,⟨_,_,_,h,by decide,by decide⟩⟩
 ·have h1:=hx.1
  have h2:=hx.2.1
  rw [hc] at h1 h2
  match o,h1,h2 with
  | 0,e,_=>simp at e
  | 1,e,_=>simp at e
  | 2,_,e=>simp at e
  | n+3,e,_=>simp at e
 ·have h1:=hx.1
  have h3:=hx.2.2.1
  rw [hc] at h1 h3
  match o,h1,h3 with
  | 0,_,e=>simp at e
  | 1,_,e=>simp at e
  | 2,e,_=>simp at e
  | n+3,e,_=>simp at e
 ·obtain ⟨lv,h1,h2,h3,-⟩:=hx
  rw [hc] at h1 h3
  match o,h1,h3 with
  | 0,_,e=>simp at e
  | 1,_,e=>simp at e
  | 2,e,_=>simp at e
  | n+3,e,_=>simp at e
def StB (w:World) (p:Nat) (s:StateD):Prop :=
 ∃ (lo po so:Option Addr) (ln lc pn pc sn sc:Nat),w.heap[p]?=some (.cells #[.int .i64 s.index,.slice lo ln lc,.slice po pn pc,.slice so sn sc] 34 (0,0)) ∧
  LocksO w 0 (.slice lo ln lc) s.locks∧PairsR w w.heap.size (.slice po pn pc) s.pairs∧SessR w w.heap.size (.slice so sn sc) s.sess
theorem StB.lt {w:World} {p:Nat} {s:StateD} (h:StB w p s):p < w.heap.size:=by
 obtain ⟨_,_,_,_,_,_,_,_,_,h,-⟩:=h
 exact (Array.getElem?_eq_some_iff.1 h).1
theorem StB.foreign {w:World} {p:Nat} {s:StateD} (h:StB w p s):Foreign w p:=by
 obtain ⟨_,_,_,_,_,_,_,_,_,h,-⟩:=h
 exact foreign_state h
theorem StB.touch {w w':World} {p:Nat} {s:StateD} {S:Nat→Prop} (h:StB w p s) (ht:TouchG w w' S) (hp:¬ S p) (hf:∀ g,g < w.heap.size→S g→Foreign w g):StB w' p s:=by
 have hlt:=h.lt
 obtain ⟨lo,po,so,ln,lc,pn,pc,sn,sc,h0,h1,h2,h3⟩:=h
 exact ⟨lo,po,so,ln,lc,pn,pc,sn,sc,(ht.block p hlt hp).trans h0,h1.touch ht hf,(h2.touch (Nat.le_refl _) ht hf).mono ht.size,(h3.touch (Nat.le_refl _) ht hf).mono ht.size⟩
theorem StB.below {w w':World} {p:Nat} {s:StateD} (h:StB w p s) (hb:Below w.heap.size w w'):StB w' p s :=
 h.touch (TouchG.of_below hb (Nat.le_refl _) (fun _=>False)) (fun h=>h) (fun _ _ h=>h.elim)
theorem StB.setLocks {w:World} {p:Nat} {s:StateD} {lo:Option Addr} {ln lc:Nat} {ls:List LockD} (h:StB w p s) (hl:LocksO w 0 (.slice lo ln lc) ls):StB (w.setCell ⟨p,1,none⟩ (.slice lo ln lc)) p { s with locks:=ls }:=by
 have hf:=h.foreign
 obtain ⟨lo',po,so,ln',lc',pn,pc,sn,sc,h0,h1,h2,h3⟩:=h
 have ht:=(TouchG.refl w (fun b=>b=p)).setCell (a:=⟨p,1,none⟩) (Or.inl rfl) (.slice lo ln lc)
 have hf':∀ g,g < w.heap.size→g=p→Foreign w g:=fun g _ e=>e ▸ hf
 exact ⟨lo,po,so,ln,lc,pn,pc,sn,sc,by rw [heap_set h0];rfl,hl.touch ht hf',(h2.touch (Nat.le_refl _) ht hf').mono ht.size,(h3.touch (Nat.le_refl _) ht hf').mono ht.size⟩
theorem StB.setPairs {w:World} {p:Nat} {s:StateD} {po:Option Addr} {pn pc:Nat} {ps:List PairD} (h:StB w p s) (hp:PairsR w w.heap.size (.slice po pn pc) ps):StB (w.setCell ⟨p,2,none⟩ (.slice po pn pc)) p { s with pairs:=ps }:=by
 have hf:=h.foreign
 obtain ⟨lo,po',so,ln,lc,pn',pc',sn,sc,h0,h1,h2,h3⟩:=h
 have ht:=(TouchG.refl w (fun b=>b=p)).setCell (a:=⟨p,2,none⟩) (Or.inl rfl) (.slice po pn pc)
 have hf':∀ g,g < w.heap.size→g=p→Foreign w g:=fun g _ e=>e ▸ hf
 exact ⟨lo,po,so,ln,lc,pn,pc,sn,sc,by rw [heap_set h0];rfl,h1.touch ht hf',(hp.touch (Nat.le_refl _) ht hf').mono ht.size,(h3.touch (Nat.le_refl _) ht hf').mono ht.size⟩
theorem StB.setSess {w:World} {p:Nat} {s:StateD} {so:Option Addr} {sn sc:Nat} {ss:List SessD} (h:StB w p s) (hs:SessR w w.heap.size (.slice so sn sc) ss):StB (w.setCell ⟨p,3,none⟩ (.slice so sn sc)) p { s with sess:=ss }:=by
 have hf:=h.foreign
 obtain ⟨lo,po,so',ln,lc,pn,pc,sn',sc',h0,h1,h2,h3⟩:=h
 have ht:=(TouchG.refl w (fun b=>b=p)).setCell (a:=⟨p,3,none⟩) (Or.inl rfl) (.slice so sn sc)
 have hf':∀ g,g < w.heap.size→g=p→Foreign w g:=fun g _ e=>e ▸ hf
 exact ⟨lo,po,so,ln,lc,pn,pc,sn,sc,by rw [heap_set h0];rfl,h1.touch ht hf',(h2.touch (Nat.le_refl _) ht hf').mono ht.size,(hs.touch (Nat.le_refl _) ht hf').mono ht.size⟩
theorem StB.setIndex {w:World} {p:Nat} {s:StateD} (h:StB w p s) (i:Int):StB (w.setCell ⟨p,0,none⟩ (.int .i64 i)) p { s with index:=i }:=by
 have hf:=h.foreign
 obtain ⟨lo,po,so,ln,lc,pn,pc,sn,sc,h0,h1,h2,h3⟩:=h
 have ht:=(TouchG.refl w (fun b=>b=p)).setCell (a:=⟨p,0,none⟩) (Or.inl rfl) (.int .i64 i)
 have hf':∀ g,g < w.heap.size→g=p→Foreign w g:=fun g _ e=>e ▸ hf
 exact ⟨lo,po,so,ln,lc,pn,pc,sn,sc,by rw [heap_set h0];rfl,h1.touch ht hf',(h2.touch (Nat.le_refl _) ht hf').mono ht.size,(h3.touch (Nat.le_refl _) ht hf').mono ht.size⟩
theorem StB.reply {w:World} {p r:Nat} {s:StateD} {c0 n0:Int} {t0:ByteArray} (h:StB w p s) (hr:w.heap[r]?=some (.cells #[.int .i64 c0,.int .i64 n0,.string t0] 67 (0,0))) (hne:r≠p) (c n:Int) (t:ByteArray) :
  StB (((w.setCell ⟨r,0,none⟩ (.int .i64 c)).setCell ⟨r,1,none⟩ (.int .i64 n)).setCell ⟨r,2,none⟩ (.string t)) p s∧(((w.setCell ⟨r,0,none⟩ (.int .i64 c)).setCell ⟨r,1,none⟩ (.int .i64 n)).setCell ⟨r,2,none⟩ (.string t)).heap[r]?=some (.cells #[.int .i64 c,.int .i64 n,.string t] 67 (0,0)):=by
 refine ⟨h.touch (S:=fun b=>b=r) ((((TouchG.refl w (fun b=>b=r)).setCell (a:=⟨r,0,none⟩) (Or.inl rfl) _).setCell (a:=⟨r,1,none⟩) (Or.inl rfl) _).setCell (a:=⟨r,2,none⟩) (Or.inl rfl) _) (fun e=>hne e.symm) (fun g _ e=>e ▸ foreign_reply hr),?_⟩
 rw [heap_set (heap_set (heap_set hr _) _) _]
 rfl
theorem touch_reply {w0 w:World} {S:Nat→Prop} {r:Nat} (h:TouchG w0 w S) (hr:S r∨w0.heap.size≤r) (x y z:Value):TouchG w0 (((w.setCell ⟨r,0,none⟩ x).setCell ⟨r,1,none⟩ y).setCell ⟨r,2,none⟩ z) S :=
 ((h.setCell (a:=⟨r,0,none⟩) hr x).setCell (a:=⟨r,1,none⟩) hr y).setCell (a:=⟨r,2,none⟩) hr z
theorem two_new {w w2:World} {A R:Obj} (hb:Below (((w.alloc A).alloc R).drew).heap.size ((w.alloc A).alloc R).drew w2):w2.heap[w.heap.size+1]?=some R∧w2.heap[w.heap.size]?=some A:=by
 have h1:=heap_alloc_new (w.alloc A) R
 rw [World.size_alloc] at h1
 have h2:((w.alloc A).alloc R).heap[w.heap.size]?=some A:=by
  rw [Below.heap_alloc _ _ _ (by simp)]
  exact heap_alloc_new w A
 exact ⟨(hb.block _ (by simp)).trans h1,(hb.block _ (by simp;omega)).trans h2⟩
def StateO (w:World) (v:Value) (s:StateD):Prop :=
 ∃ (lo po so:Option Addr) (ln lc pn pc sn sc:Nat),v=.agg #[.int .i64 s.index,.slice lo ln lc,.slice po pn pc,.slice so sn sc] ∧
  LocksO w 0 (.slice lo ln lc) s.locks∧PairsR w w.heap.size (.slice po pn pc) s.pairs∧SessR w w.heap.size (.slice so sn sc) s.sess
theorem StateO.reads {w:World} {v:Value} {s:StateD} (h:StateO w v s):StateR w w.heap.size v s:=by
 obtain ⟨lo,po,so,ln,lc,pn,pc,sn,sc,rfl,h1,h2,h3⟩:=h
 exact ⟨_,_,_,rfl,h1.reads (Nat.le_refl _),h2,h3⟩
theorem StateO.touch {w w':World} {v:Value} {s:StateD} {S:Nat→Prop} (h:StateO w v s) (ht:TouchG w w' S) (hf:∀ g,g < w.heap.size→S g→Foreign w g):StateO w' v s:=by
 obtain ⟨lo,po,so,ln,lc,pn,pc,sn,sc,rfl,h1,h2,h3⟩:=h
 exact ⟨lo,po,so,ln,lc,pn,pc,sn,sc,rfl,h1.touch ht hf,(h2.touch (Nat.le_refl _) ht hf).mono ht.size,(h3.touch (Nat.le_refl _) ht hf).mono ht.size⟩
theorem StateO.below {w w':World} {v:Value} {s:StateD} (h:StateO w v s) (hb:Below w.heap.size w w'):StateO w' v s :=
 h.touch (TouchG.of_below hb (Nat.le_refl _) (fun _=>False)) (fun _ _ h=>h.elim)
theorem LocksO.nil (w:World):LocksO w 0 (.slice none 0 0) []:=⟨[],rfl,⟨World.ownsRow_nil _ _ _ _,Lines.nil _ _,by simp [lineBlocks],by simp⟩⟩
theorem StB.put {w:World} {p:Nat} {s s':StateD} {x0 x1 x2 x3:Value} (h:StB w p s) (ho:StateO w (.agg #[x0,x1,x2,x3]) s'):StB ((((w.setCell ⟨p,0,none⟩ x0).setCell ⟨p,1,none⟩ x1).setCell ⟨p,2,none⟩ x2).setCell ⟨p,3,none⟩ x3) p s':=by
 have hf:=h.foreign
 obtain ⟨lo',po',so',ln',lc',pn',pc',sn',sc',h0,-⟩:=h
 obtain ⟨lo,po,so,ln,lc,pn,pc,sn,sc,e,h1,h2,h3⟩:=ho
 simp only [Value.agg.injEq,Array.mk.injEq,List.cons.injEq,and_true] at e
 obtain ⟨rfl,rfl,rfl,rfl⟩:=e
 have ht:=((((TouchG.refl w (fun b=>b=p)).setCell (a:=⟨p,0,none⟩) (Or.inl rfl) (.int .i64 s'.index)).setCell (a:=⟨p,1,none⟩) (Or.inl rfl) (.slice lo ln lc)).setCell (a:=⟨p,2,none⟩) (Or.inl rfl) (.slice po pn pc)).setCell (a:=⟨p,3,none⟩) (Or.inl rfl) (.slice so sn sc)
 have hf':∀ g,g < w.heap.size→g=p→Foreign w g:=fun g _ e=>e ▸ hf
 exact ⟨lo,po,so,ln,lc,pn,pc,sn,sc,by rw [heap_set (heap_set (heap_set (heap_set h0 _) _) _) _];rfl,h1.touch ht hf',(h2.touch (Nat.le_refl _) ht hf').mono ht.size,(h3.touch (Nat.le_refl _) ht hf').mono ht.size⟩
end Go.Proofs.YtbmfahgekcnkaajGreatDoor
namespace Go.Proofs.YtbmfahgekcnkaajGreatDoor
open Go.RowKit
theorem prow_keep {w w':World} {base:Nat} {e:TypeId} {size:Nat} {v:Value} {n:Nat} {xs:List Value} (h:w.ownsRow base e size v n xs) (hk:∀ b,v.ownBlock=some b→w'.heap[b]?=w.heap[b]?):w'.ownsRow base e size v n xs:=by
 obtain ⟨h1,h2⟩:=h
 refine ⟨h1,?_⟩
 rcases h2 with h2 | ⟨g,cap,cur,rfl,hg,hh,r⟩
 ·exact Or.inl h2
 ·exact Or.inr ⟨g,cap,cur,rfl,hg,by rw [hk g rfl];exact hh,r⟩
theorem prow_below {w w':World} {base:Nat} {e:TypeId} {size:Nat} {v:Value} {n:Nat} {xs:List Value} (h:w.ownsRow base e size v n xs) {B:Nat} (hb:Below B w w') (hB:w.heap.size≤B):w'.ownsRow base e size v n xs :=
 prow_keep h fun b hbk=>hb.block b (by have:=(h.lt b hbk).2;omega)
theorem prow_some {w:World} {base:Nat} {e:TypeId} {size:Nat} {v:Value} {n:Nat} {xs:List Value} (h:w.ownsRow base e size v n xs) (hn:0 < n):∃ g cap,v=.slice (some ⟨g,0,none⟩) n cap∧base≤g∧g < w.heap.size∧n≤cap:=by
 have hlt:=h.lt
 rcases h.2 with ⟨rfl,rfl⟩ | ⟨g,cap,cur,rfl,hg,hh,hle,_⟩
 ·omega
 ·exact ⟨g,cap,rfl,hg,(hlt g rfl).2,hle⟩
theorem prow_low3 {w:World} {base:Nat} {e:TypeId} {size:Nat} {v:Value} {n:Nat} {xs:List Value} (h:w.ownsRow base e size v n xs) {b:Nat} (hb:b < base) (x y z:Value):(((w.setCell ⟨b,0,none⟩ x).setCell ⟨b,1,none⟩ y).setCell ⟨b,2,none⟩ z).ownsRow base e size v n xs :=
 prow_keep h fun c hc=>by
  have:=(h.lt c hc).1
  rw [heap_setCell_other _ _ _ _ (by simp;omega),heap_setCell_other _ _ _ _ (by simp;omega),heap_setCell_other _ _ _ _ (by simp;omega)]
theorem flatP_set {ps:List PairD} {i:Nat} {x:PairD} (h:ps[i]?=some x) (val:ByteArray) (ver:Int):((flatP ps).set (i*3+1) (.string val)).set (i*3+2) (.int .i64 ver)=flatP (ps.set i ⟨x.name,val,ver⟩):=by
 induction ps generalizing i with
 | nil=>simp at h
 | cons q t ih =>
  have e:∀ q t,flatP (q :: t)=pairCells q++flatP t:=fun q t=>by simp [flatP]
  cases i with
  | zero =>
   have:q=x:=by simpa using h
   subst this
   rw [List.set_cons_zero,e,e]
   simp [pairCells]
  | succ i =>
   rw [List.set_cons_succ,e,e]
   have hl:(pairCells q).length=3:=rfl
   have:=ih (i:=i) (by simpa using h)
   rw [←this]
   rw [List.set_append_right _ _ (by omega),List.set_append_right _ _ (by omega),hl,show (i+1)*3+1 - 3=i*3+1 by omega,show (i+1)*3+2 - 3=i*3+2 by omega]
theorem prow_put {w:World} {base:Nat} {g n cap i:Nat} {ps:List PairD} {x:PairD} (h:w.ownsRow base 129 3 (.slice (some ⟨g,0,none⟩) n cap) n (flatP ps)) (hx:ps[i]?=some x) (val:ByteArray) (ver:Int) :
  ((w.setCell ⟨g,i*3+1,none⟩ (.string val)).setCell ⟨g,i*3+2,none⟩ (.int .i64 ver)).ownsRow base 129 3 (.slice (some ⟨g,0,none⟩) n cap) n (flatP (ps.set i ⟨x.name,val,ver⟩)):=by
 have h1:=(h.stored (i*3+1) (.string val)).1
 have h2:=(h1.stored (i*3+2) (.int .i64 ver)).1
 rwa [flatP_set hx] at h2
theorem prow_cells {w:World} {base:Nat} {g n cap i:Nat} {ps:List PairD} {x:PairD} (h:w.ownsRow base 129 3 (.slice (some ⟨g,0,none⟩) n cap) n (flatP ps)) (hx:ps[i]?=some x) (hn:n=ps.length) :
  w.cell? ⟨g,i*3,none⟩=some (.string x.name)∧w.cell? ⟨g,i*3+1,none⟩=some (.string x.value)∧w.cell? ⟨g,i*3+2,none⟩=some (.int .i64 x.version)∧∀ j,w.frozen? ⟨g,j,none⟩=false:=by
 have hi:i < ps.length:=(List.getElem?_eq_some_iff.1 hx).1
 have key:∀ j,j < 3→w.cell? ⟨g,i*3+j,none⟩=(pairCells x)[j]?:=fun j hj=>by
  rw [h.cellAt (i*3+j) (by omega),flatP_at hx j hj]
 exact ⟨by simpa [pairCells] using key 0 (by omega),by simpa [pairCells] using key 1 (by omega),by simpa [pairCells] using key 2 (by omega),fun j=>h.frozenAt j⟩
end Go.Proofs.YtbmfahgekcnkaajGreatDoor
namespace Go.Proofs.YtbmfahgekcnkaajGreatDoor
open Go.RowKit
theorem pret_bool {a b:Bool} (h:a=b):Ending.returned (.bool a)=.returned (.bool b):=by rw [h]
theorem place1_any (nm xn xv:ByteArray) (xe:Int) (b:Nat) (w:World) (hc:w.cell? ⟨b,0,none⟩=some (.string nm)) (hb:b < w.heap.size) :
  Calls Tryz.prog 189 #[.agg #[.string xn,.string xv,.int .i64 xe],.pointer (some ⟨b,0,none⟩)] w fun e w'=>e=.returned (.bool (!ltP xn nm))∧Below w.heap.size w w':=by
 go_enter Tryz.func189,Tryz.ntmps189
 go_wp2
 go_ret
 exact ⟨pret_bool (by simp [ltP]),(Below.refl _ _).alloc (Nat.le_refl _) _⟩
set_option maxHeartbeats 800000 in
theorem indexPlace (v:Value) (ps:List PairD) (nm:ByteArray) (b0:Nat) (w:World) (B:Nat) (hv:PairsR w B v ps) (hB:B≤w.heap.size) (hc0:w.cell? ⟨b0,0,none⟩=some (.string nm)) (hb0:b0 < w.heap.size) (hn:placeP ps nm < ps.length) :
  Calls Tryz.prog 188 #[v,.func (.func 189) #[] #[.pointer (some ⟨b0,0,none⟩)]] w fun e w'=>e=.returned (.int .i64 (placeP ps nm:Nat))∧Below w.heap.size w w':=by
 obtain ⟨ao,cap,rfl,h1,h2,h3,h4⟩:=hv
 have HN:Hid (∀ x,ps[placeP ps nm]?=some x→ltP x.name nm=false):=fun x hx=>placeP_at hx
 have HM:Hid (∀ (j:Nat) (x:PairD),j < placeP ps nm→ps[j]?=some x→ltP x.name nm=true):=fun j x hj hx=>placeP_before hj hx
 obtain ⟨n,hne⟩:∃ n,n=placeP ps nm:=⟨_,rfl⟩
 rw [←hne] at HN HM hn ⊢
 clear hne
 go_enter Tryz.func188,Tryz.ntmps188
 go_wp2
 go_loopw [8] (fun i wr=>∃ k:Nat,k≤n∧i=.int .i64 k∧Below w.heap.size w wr) (fun i _=>ps.length - (intOf i).toNat)
 case atStart=>exact ⟨0,Nat.zero_le _,rfl,Below.refl _ _⟩
 case round =>
  obtain ⟨k,hk,rfl,hb⟩:=hrel
  have hlt:k < ps.length:=by omega
  obtain ⟨b,off,rfl,hbB,hc⟩:=h4 (by omega)
  obtain ⟨x,hx⟩:∃ x,ps[k]?=some x:=⟨_,List.getElem?_eq_getElem hlt⟩
  obtain ⟨c0,c1,c2,hs⟩:=(hc k x hx).below (by omega) hb
  have HX:Hid (ps[k]?=some x):=hx
  have C:=place1_any nm x.name x.value x.version b0 wr ((hb.cell (p:=⟨b0,0,none⟩) hb0).trans hc0) (by have:=hb.size;omega)
  have hsz:=hb.size
  clear hx hc h4 hs
  by_cases hkn:k=n
  ·subst hkn
   rw [HN.out x HX.out] at C
   go_wp2_with fail
   refine C.mono ?_
   rintro e w1 ⟨rfl,hb1⟩
   have hb2:=hb.trans (hb1.mono hsz)
   clear hb1 C
   go_wp2
   go_ret
   exact ⟨rfl,hb2⟩
  ·have hkn':k < n:=by omega
   rw [HM.out k x hkn' HX.out] at C
   clear hkn
   go_wp2_with fail
   refine C.mono ?_
   rintro e w1 ⟨rfl,hb1⟩
   have hb2:=hb.trans (hb1.mono hsz)
   clear hb1 C
   go_wp2
   go_roundw
   case rel=>exact ⟨k+1,by omega,by go_num,hb2⟩
   case measure=>simp [intOf];omega
set_option maxHeartbeats 800000 in
theorem indexPlace_none (v:Value) (ps:List PairD) (nm:ByteArray) (b0:Nat) (w:World) (B:Nat) (hv:PairsR w B v ps) (hB:B≤w.heap.size) (hc0:w.cell? ⟨b0,0,none⟩=some (.string nm)) (hb0:b0 < w.heap.size) (hn:¬ placeP ps nm < ps.length) :
  Calls Tryz.prog 188 #[v,.func (.func 189) #[] #[.pointer (some ⟨b0,0,none⟩)]] w fun e w'=>e=.returned (.int .i64 (-1))∧Below w.heap.size w w':=by
 obtain ⟨ao,cap,rfl,h1,h2,h3,h4⟩:=hv
 have HM:Hid (∀ (j:Nat) (x:PairD),ps[j]?=some x→ltP x.name nm=true):=fun j x hx=>placeP_before (by have:=(List.getElem?_eq_some_iff.1 hx).1;omega) hx
 clear hn
 go_enter Tryz.func188,Tryz.ntmps188
 go_wp2
 go_loopw [8] (fun i wr=>∃ k:Nat,k≤ps.length∧i=.int .i64 k∧Below w.heap.size w wr) (fun i _=>ps.length - (intOf i).toNat)
 case atStart=>exact ⟨0,Nat.zero_le _,rfl,Below.refl _ _⟩
 case round =>
  obtain ⟨k,hk,rfl,hb⟩:=hrel
  by_cases hlt:k < ps.length
  ·obtain ⟨b,off,rfl,hbB,hc⟩:=h4 (by omega)
   obtain ⟨x,hx⟩:∃ x,ps[k]?=some x:=⟨_,List.getElem?_eq_getElem hlt⟩
   obtain ⟨c0,c1,c2,hs⟩:=(hc k x hx).below (by omega) hb
   have C:=place1_any nm x.name x.value x.version b0 wr ((hb.cell (p:=⟨b0,0,none⟩) hb0).trans hc0) (by have:=hb.size;omega)
   have hsz:=hb.size
   rw [HM.out k x hx] at C
   clear hx hc h4 hs
   go_wp2_with fail
   refine C.mono ?_
   rintro e w1 ⟨rfl,hb1⟩
   have hb2:=hb.trans (hb1.mono hsz)
   clear hb1 C
   go_wp2
   go_roundw
   case rel=>exact ⟨k+1,by omega,by go_num,hb2⟩
   case measure=>simp [intOf];omega
  ·go_wp2
   go_ret
   exact ⟨rfl,hb⟩
set_option maxHeartbeats 800000 in
theorem place_any (v:Value) (ps:List PairD) (nm:ByteArray) (w:World) (B:Nat) (hv:PairsR w B v ps) (hB:B≤w.heap.size) :
  Calls Tryz.prog 171 #[v,.string nm] w fun e w'=>e=.returned (.tuple #[.int .i64 (placeP ps nm:Nat),.bool (thereP ps nm)])∧Below w.heap.size w w':=by
 have hlen:=hv.len
 by_cases hn:placeP ps nm < ps.length
 ·obtain ⟨x,hx⟩:∃ x,ps[placeP ps nm]?=some x:=⟨_,List.getElem?_eq_getElem hn⟩
  have ht:thereP ps nm=(x.name.toList == nm.toList):=by unfold thereP;rw [hx];rfl
  have C:=fun w' (hb:Below w.heap.size w w') b0 hc0 hb0=>indexPlace v ps nm b0 w' B (hv.below hb hB) (by have:=hb.size;omega) hc0 hb0 hn
  have HC:=phid C
  obtain ⟨ao,cap,rfl,h1,h2,h3,h4⟩:=hv
  obtain ⟨b,off,rfl,hbB,hc⟩:=h4 (by omega)
  obtain ⟨c0,-⟩:=hc _ x hx
  rw [ht]
  obtain ⟨n,hne⟩:∃ n,n=placeP ps nm:=⟨_,rfl⟩
  rw [←hne] at HC hn c0 ⊢
  obtain ⟨xn,xv,xe⟩:=x
  simp only at c0 ⊢
  clear C hx ht h4 hc hne
  go_enter Tryz.func171,Tryz.ntmps171
  go_wp2_with fail
  refine (HC.out _ ((Below.refl _ _).alloc (Nat.le_refl _) _) w.heap.size (by simp) (by simp)).mono ?_
  rintro e w1 ⟨rfl,hb1⟩
  have HB:=phid (((Below.refl w.heap.size w).alloc (Nat.le_refl _) (.cells #[.string nm] 9)).trans (hb1.mono (by simp)))
  have d0:w1.cell? ⟨b,off+n*3,none⟩=some (.string xn):=(HB.out.cell (p:=⟨b,off+n*3,none⟩) (by show b < w.heap.size;omega)).trans c0
  have d1:w1.cell? ⟨w.heap.size,0,none⟩=some (.string nm):=(hb1.cell (p:=⟨w.heap.size,0,none⟩) (by simp)).trans (by simp)
  have hz1:w.heap.size < w1.heap.size:=by have:=hb1.size;simp at this;omega
  clear hb1 c0
  go_wp2_with fail
  go_quiet (fail)
  go_wp2
  refine bodyPost_ret (v:=.tuple #[.int .i64 n,.bool (xn.toList == nm.toList)]) (by simp [results,Tryz.results171,go_sem]) rfl ?_
  exact ⟨rfl,HB.out.trans (pairs_drewN_below _ _ _)⟩
 ·have ht:thereP ps nm=false:=by unfold thereP;rw [List.getElem?_eq_none (by omega)]
  have hpe:placeP ps nm=ps.length:=by have:=placeP_le ps nm;omega
  have C:=fun w' (hb:Below w.heap.size w w') b0 hc0 hb0=>indexPlace_none v ps nm b0 w' B (hv.below hb hB) (by have:=hb.size;omega) hc0 hb0 hn
  have HC:=phid C
  obtain ⟨ao,cap,rfl,h1,h2,h3,h4⟩:=hv
  rw [ht,hpe]
  clear C ht h4 hpe hn
  go_enter Tryz.func171,Tryz.ntmps171
  go_wp2_with fail
  refine (HC.out _ ((Below.refl _ _).alloc (Nat.le_refl _) _) w.heap.size (by simp) (by simp)).mono ?_
  rintro e w1 ⟨rfl,hb1⟩
  have HB:=phid (((Below.refl w.heap.size w).alloc (Nat.le_refl _) (.cells #[.string nm] 9)).trans (hb1.mono (by simp)))
  clear hb1
  go_wp2
  refine bodyPost_ret (v:=.tuple #[.int .i64 ps.length,.bool false]) (by simp [results,Tryz.results171,go_sem]) rfl ?_
  exact ⟨rfl,HB.out⟩
end Go.Proofs.YtbmfahgekcnkaajGreatDoor
namespace Go.Proofs.YtbmfahgekcnkaajGreatDoor
open Go.RowKit
theorem pbcell {W w1:World} (hb:Below W.heap.size W w1):(∀ b o,b < W.heap.size→w1.cell? ⟨b,o,none⟩=W.cell? ⟨b,o,none⟩)∧(∀ b o,b < W.heap.size→w1.frozen? ⟨b,o,none⟩=W.frozen? ⟨b,o,none⟩) :=
 ⟨fun b o h=>hb.cell (p:=⟨b,o,none⟩) h,fun b o h=>hb.frozen (p:=⟨b,o,none⟩) h⟩
theorem three_of {α:Type} (Z:List α) (h:3≤Z.length):∃ z0 z1 z2 Z',Z=z0 :: z1 :: z2 :: Z':=by
 match Z,h with
 | z0 :: z1 :: z2 :: Z',_=>exact ⟨z0,z1,z2,Z',rfl⟩
theorem set3 {α:Type} (A Z:List α) (z0 z1 z2 a b c:α) (n:Nat) (hA:A.length=n) :
  (((A++z0 :: z1 :: z2 :: Z).set n a).set (n+1) b).set (n+2) c=A++a :: b :: c :: Z:=by
 subst hA
 simp
theorem put3_own {w:World} {base:Nat} {e:TypeId} {g n cap k:Nat} {A Z:List Value} {z0 z1 z2:Value} (h:w.ownsRow base e 3 (.slice (some ⟨g,0,none⟩) n cap) n (A++z0 :: z1 :: z2 :: Z)) (hA:A.length=k*3) (a b c:Value) :
  (((w.setCell ⟨g,k*3,none⟩ a).setCell ⟨g,k*3+1,none⟩ b).setCell ⟨g,k*3+2,none⟩ c).ownsRow base e 3 (.slice (some ⟨g,0,none⟩) n cap) n (A++a :: b :: c :: Z):=by
 have h1:=(h.stored (k*3) a).1
 have h2:=(h1.stored (k*3+1) b).1
 have h3:=(h2.stored (k*3+2) c).1
 rwa [set3 A Z z0 z1 z2 a b c (k*3) hA] at h3
theorem put3_below {B:Nat} {w0 w:World} (h:Below B w0 w) {g k:Nat} (hg:B≤g) (a b c:Value) :
  Below B w0 (((w.setCell ⟨g,k*3,none⟩ a).setCell ⟨g,k*3+1,none⟩ b).setCell ⟨g,k*3+2,none⟩ c) :=
 ((h.setCell (by simpa using hg) a).setCell (by simpa using hg) b).setCell (by simpa using hg) c
theorem pclone_cell {wr w1 w2:World} {xn xv:ByteArray} {xe:Int}
  (hb1:Below (wr.heap.size+1) (wr.alloc (.cells #[.string xn,.string xv,.int .i64 xe] 129)) w1) (hb2:Below w1.heap.size w1 w2) :
  ((w2.setCell ⟨wr.heap.size,0,none⟩ (.string xn)).setCell ⟨wr.heap.size,1,none⟩ (.string xv)).heap[wr.heap.size]?=some (.cells #[.string xn,.string xv,.int .i64 xe] 129 (0,0)) ∧
  Below wr.heap.size wr ((w2.setCell ⟨wr.heap.size,0,none⟩ (.string xn)).setCell ⟨wr.heap.size,1,none⟩ (.string xv)):=by
 have hz1:wr.heap.size+1≤w1.heap.size:=by have:=hb1.size;simpa using this
 have g2:w2.heap[wr.heap.size]?=some (.cells #[.string xn,.string xv,.int .i64 xe] 129 (0,0)):=by
  rw [hb2.block _ (by omega),hb1.block _ (by omega)]
  exact heap_alloc_new wr _
 have g3:=heap_setCell_same w2 wr.heap.size 0 _ 129 (.string xn) g2
 have g4:=heap_setCell_same _ wr.heap.size 1 _ 129 (.string xv) g3
 refine ⟨by simpa using g4,?_⟩
 exact ((((Below.refl wr.heap.size wr).alloc (Nat.le_refl _) _).trans (hb1.mono (by omega))).trans (hb2.mono (by omega))).setCell (by simp) _ |>.setCell (by simp) _
end Go.Proofs.YtbmfahgekcnkaajGreatDoor
