/- Plain mathematics of Ready. (Written by gen_ready.py.); Plain mathematics of Keep. (Written by gen_keep.py.); Sessions that may be, and what the calls keep of them; whose sessions there are. Plain lists; Setting keeps pairs such that may be; what is replied may be kept. Plain lists; Plain mathematics of numbers as digits of seven bits. It imports no program; Plain mathematics of reading a number from the front of bytes. It imports no program; Plain mathematics of commands: what is wrong with an operation, or a command, first. It imports no program; Plain mathematics of reading a command from bytes: what is read, and what is wrong first. It imports no program; What an entry does to a state, in plain lists: it stays one that may be, and who has a lock has a session (joined by program) -/
import Derived.WalkKit
import Derived.ProofKit
import Derived.Laws.BytesArg
import Derived.Test.YtbmfahgekcnkaajGreatDoorRS09
import Derived.Test.YtbmfahgekcnkaajGreatDoorRS01
import Derived.Test.YtbmfahgekcnkaajGreatDoorRS00
import Derived.Test.YtbmfahgekcnkaajGreatDoorRS02
namespace Go.Proofs.YtbmfahgekcnkaajGreatDoor
open Go.RowKit
theorem readyE_check {ls:List SessD} {i q u:Int} (h:checkS ls i≠0):readyE ls i q u=checkS ls i:=by unfold readyE;rw [if_pos h]
theorem readyE_range {ls:List SessD} {i q u:Int} (h:checkS ls i=0) (h2:¬ (i≠1073741824∧(1≤q∧q≤1048576)∧0≤u∧u≤q - 1)):readyE ls i q u=2:=by unfold readyE;rw [if_neg (by simpa using h),if_neg h2]
theorem readyE_ok {ls:List SessD} {i q u:Int} (h:checkS ls i=0) (h2:i≠1073741824∧(1≤q∧q≤1048576)∧0≤u∧u≤q - 1):readyE ls i q u=0:=by unfold readyE;rw [if_neg (by simpa using h),if_pos h2]
theorem readyE_zero {ls:List SessD} {i q u:Int} (h:readyE ls i q u=0):checkS ls i=0∧i≠1073741824∧(1≤q∧q≤1048576)∧0≤u∧u≤q - 1:=by
 by_cases h1:checkS ls i=0
 ·by_cases h2:i≠1073741824∧(1≤q∧q≤1048576)∧0≤u∧u≤q - 1
  ·exact ⟨h1,h2⟩
  ·rw [readyE_range h1 h2] at h
   cases h
 ·rw [readyE_check h1] at h
  exact absurd h h1
theorem readyS_away {ls:List SessD} {i c s q u:Int} (ht:thereS ls c=false):readyS ls i c s q u=(ls,⟨11,0,⟨#[]⟩⟩,false):=by unfold readyS;rw [ht]
theorem readyS_other {ls:List SessD} {i c s q u:Int} {x:SessD} (ht:thereS ls c=true) (hx:ls[placeS ls c]?=some x) (h:x.id≠s):readyS ls i c s q u=(ls,⟨11,0,⟨#[]⟩⟩,false):=by unfold readyS;rw [ht,hx];simp [h]
theorem readyS_here {ls:List SessD} {i c s q u:Int} {x:SessD} (ht:thereS ls c=true) (hx:ls[placeS ls c]?=some x) (h:x.id=s):readyS ls i c s q u=(ls.set (placeS ls c) (hearD x (i+1) u),answerD (hearD x (i+1) u) q):=by unfold readyS;rw [ht,hx];simp [h]
end Go.Proofs.YtbmfahgekcnkaajGreatDoor
namespace Go.Proofs.YtbmfahgekcnkaajGreatDoor
open Go.RowKit
theorem keepE_check {ls:List SessD} {i c:Int} {k:KeptD} (h:checkS ls i≠0):keepE ls i c k=checkS ls i:=by unfold keepE;rw [if_pos h]
theorem keepE_away {ls:List SessD} {i c:Int} {k:KeptD} (h:checkS ls i=0) (ht:thereS ls c=false):keepE ls i c k=11:=by unfold keepE;rw [if_neg (by simpa using h),ht]
theorem keepE_twice {ls:List SessD} {i c:Int} {k:KeptD} {x:SessD} (h:checkS ls i=0) (ht:thereS ls c=true) (hx:ls[placeS ls c]?=some x) (hk:thereK x.replies k.seq=true):keepE ls i c k=7:=by unfold keepE;rw [if_neg (by simpa using h),ht,hx];simp [hk]
theorem keepE_form {ls:List SessD} {i c:Int} {k:KeptD} {x:SessD} (h:checkS ls i=0) (ht:thereS ls c=true) (hx:ls[placeS ls c]?=some x) (hk:thereK x.replies k.seq=false) (hf:formFrom x.acked x.acked (withK x.replies k)=false):keepE ls i c k=2:=by
 unfold keepE;rw [if_neg (by simpa using h),ht,hx]
 have e:sformB { x with replies:=withK x.replies k }=false:=hf
 simp [hk,e]
theorem keepE_ok {ls:List SessD} {i c:Int} {k:KeptD} {x:SessD} (h:checkS ls i=0) (ht:thereS ls c=true) (hx:ls[placeS ls c]?=some x) (hk:thereK x.replies k.seq=false) (hf:formFrom x.acked x.acked (withK x.replies k)=true):keepE ls i c k=0:=by
 unfold keepE;rw [if_neg (by simpa using h),ht,hx]
 have e:sformB { x with replies:=withK x.replies k }=true:=hf
 simp [hk,e]
theorem keepS_there {ls:List SessD} {c:Int} {k:KeptD} {x:SessD} (hx:ls[placeS ls c]?=some x):keepS ls c k=ls.set (placeS ls c) { x with replies:=withK x.replies k }:=by unfold keepS;rw [hx]
theorem keep_cases (ls:List SessD) (i c:Int) (k:KeptD):(checkS ls i≠0∧keepE ls i c k=checkS ls i)∨(checkS ls i=0∧thereS ls c=false∧keepE ls i c k=11) ∨
  ∃ x,checkS ls i=0∧thereS ls c=true∧ls[placeS ls c]?=some x∧((thereK x.replies k.seq=true∧keepE ls i c k=7)∨(thereK x.replies k.seq=false∧formFrom x.acked x.acked (withK x.replies k)=false∧keepE ls i c k=2)∨(thereK x.replies k.seq=false∧formFrom x.acked x.acked (withK x.replies k)=true∧keepE ls i c k=0)):=by
 by_cases h:checkS ls i=0
 ·cases ht:thereS ls c with
  | false=>exact Or.inr (Or.inl ⟨h,rfl,keepE_away h ht⟩)
  | true =>
   obtain ⟨x,hx,-⟩:=thereS_some ht
   refine Or.inr (Or.inr ⟨x,h,rfl,hx,?_⟩)
   cases hk:thereK x.replies k.seq with
   | true=>exact Or.inl ⟨rfl,keepE_twice h ht hx hk⟩
   | false =>
    cases hf:formFrom x.acked x.acked (withK x.replies k) with
    | false=>exact Or.inr (Or.inl ⟨rfl,rfl,keepE_form h ht hx hk hf⟩)
    | true=>exact Or.inr (Or.inr ⟨rfl,rfl,keepE_ok h ht hx hk hf⟩)
 ·exact Or.inl ⟨h,keepE_check h⟩
end Go.Proofs.YtbmfahgekcnkaajGreatDoor
namespace Go.Proofs.YtbmfahgekcnkaajGreatDoor
open Go.RowKit
def HasC (ls:List SessD) (c:Int):Prop:=∃ x∈ls,x.client=c
theorem placeS_leq (ls:List SessD) (c:Int):placeS ls c≤ls.length:=List.findIdx_le_length
theorem placeS_lt {ls:List SessD} {c:Int} {j:Nat} {x:SessD} (hj:j < placeS ls c) (hx:ls[j]?=some x):x.client < c:=by
 have:=List.not_of_lt_findIdx (p:=fun x:SessD=>decide (c≤x.client)) (xs:=ls) hj
 obtain ⟨hl,he⟩:=List.getElem?_eq_some_iff.1 hx
 rw [he] at this
 simpa using this
theorem placeS_ge {ls:List SessD} {c:Int} {x:SessD} (hx:ls[placeS ls c]?=some x):c≤x.client:=by
 obtain ⟨hl,he⟩:=List.getElem?_eq_some_iff.1 hx
 have h:decide (c≤(ls[placeS ls c]'hl).client)=true:=List.findIdx_getElem (w:=hl)
 rw [he] at h
 simpa using h
theorem order_at {ls:List SessD} (h:ls.Pairwise (fun a b=>a.client < b.client)) {i j:Nat} {x y:SessD} (hij:i < j) (hx:ls[i]?=some x) (hy:ls[j]?=some y):x.client < y.client:=by
 obtain ⟨hi,rfl⟩:=List.getElem?_eq_some_iff.1 hx
 obtain ⟨hj,rfl⟩:=List.getElem?_eq_some_iff.1 hy
 exact List.pairwise_iff_getElem.1 h i j hi hj hij
theorem after_place {ls:List SessD} (h:ls.Pairwise (fun a b=>a.client < b.client)) {c:Int} (ht:thereS ls c=false) {j:Nat} {x:SessD} (hj:placeS ls c≤j) (hx:ls[j]?=some x):c < x.client:=by
 have hl:j < ls.length:=(List.getElem?_eq_some_iff.1 hx).1
 have hp:placeS ls c < ls.length:=by omega
 have hy:ls[placeS ls c]?=some ls[placeS ls c]:=List.getElem?_eq_getElem hp
 have h1:=placeS_ge hy
 have h2:ls[placeS ls c].client≠c:=by
  unfold thereS at ht
  rw [hy] at ht
  simpa using ht
 by_cases e:placeS ls c=j
 ·subst e
  rw [hy] at hx
  cases hx
  omega
 ·have:=order_at h (by omega) hy hx
  omega
theorem Fine.step {i j:Int} {x:SessD} (h:Fine i x) (hij:i≤j):Fine j x:=by
 refine ⟨?_,h.form⟩
 have:=rangeB_iff.1 h.range
 exact rangeB_iff.2 (by omega)
theorem GoodS.step {ls:List SessD} {i j:Int} (h:GoodS ls i) (hij:i≤j) (hj:j≤1073741824):GoodS ls j :=
 ⟨by have:=h.low;omega,hj,h.len,fun x hx=>(h.fine x hx).step hij,h.order⟩
theorem GoodS.sub {ls xs:List SessD} {i:Int} (h:GoodS ls i) (hs:xs.Sublist ls):GoodS xs i :=
 ⟨h.low,h.high,by have:=h.len;have:=hs.length_le;omega,fun x hx=>h.fine x (hs.subset hx),h.order.sublist hs⟩
theorem GoodS.fresh {ls:List SessD} {i:Int} (h:GoodS ls i) (j:Int):GoodS (freshS ls j) i:=h.sub List.filter_sublist
theorem GoodS.leave {ls:List SessD} {i:Int} (h:GoodS ls i) (c:Int):GoodS (leaveS ls c).1 i:=by
 unfold leaveS
 split
 ·exact h.sub (List.eraseIdx_sublist ..)
 ·exact h
theorem GoodS.put {ls:List SessD} {i:Int} (h:GoodS ls i) {p:Nat} {x y:SessD} (hx:ls[p]?=some x) (hc:y.client=x.client) (hy:Fine i y):GoodS (ls.set p y) i:=by
 refine ⟨h.low,h.high,by simpa using h.len,fun z hz=>?_,?_⟩
 ·rcases List.mem_or_eq_of_mem_set hz with hz | rfl
  ·exact h.fine z hz
  ·exact hy
 ·have e:∀ (j:Nat) (z:SessD),(ls.set p y)[j]?=some z→∃ u:SessD,ls[j]?=some u∧u.client=z.client:=by
   intro j z hz
   by_cases e:p=j
   ·subst e
    rw [List.getElem?_set_self (List.getElem?_eq_some_iff.1 hx).1] at hz
    cases hz
    exact ⟨x,hx,hc.symm⟩
   ·rw [List.getElem?_set_ne e] at hz
    exact ⟨z,hz,rfl⟩
  refine List.pairwise_iff_getElem.2 fun a b ha hb hab=>?_
  obtain ⟨u,hu,eu⟩:=e a _ (List.getElem?_eq_getElem ha)
  obtain ⟨v,hv,ev⟩:=e b _ (List.getElem?_eq_getElem hb)
  rw [←eu,←ev]
  exact order_at h.order hab hu hv
theorem hasC_put {ls:List SessD} {p:Nat} {x y:SessD} (hx:ls[p]?=some x) (hc:y.client=x.client) (c:Int):HasC (ls.set p y) c ↔ HasC ls c:=by
 have hp:=(List.getElem?_eq_some_iff.1 hx).1
 constructor
 ·rintro ⟨z,hz,e⟩
  rcases List.mem_or_eq_of_mem_set hz with hz | rfl
  ·exact ⟨z,hz,e⟩
  ·exact ⟨x,List.mem_of_getElem? hx,by omega⟩
 ·rintro ⟨z,hz,e⟩
  obtain ⟨j,hj⟩:=List.mem_iff_getElem?.1 hz
  by_cases ej:p=j
  ·subst ej
   rw [hx] at hj
   cases hj
   exact ⟨y,List.mem_iff_getElem?.2 ⟨p,List.getElem?_set_self hp⟩,by omega⟩
  ·exact ⟨z,List.mem_iff_getElem?.2 ⟨j,by rw [List.getElem?_set_ne ej];exact hj⟩,e⟩
theorem GoodS.join {ls:List SessD} {i:Int} (h:GoodS ls i) (hi:i < 1073741824) {c:Int} (c1:1≤c) (c2:c≤9):GoodS (joinS ls i c).1 (i+1):=by
 have hs:=h.step (j:=i+1) (by omega) (by omega)
 have h0:=h.low
 cases ht:thereS ls c with
 | true =>
  obtain ⟨x,hx,e⟩:=thereS_some ht
  rw [joinS_there ht hx]
  have hf:=hs.fine x (List.mem_of_getElem? hx)
  refine hs.put hx rfl ⟨?_,hf.form⟩
  have:=rangeB_iff.1 hf.range
  refine rangeB_iff.2 ?_
  simp only
  omega
 | false =>
  by_cases h4:ls.length=4
  ·rw [joinS_full ht h4];exact hs
  ·rw [joinS_new ht h4]
   have hp:=placeS_leq ls c
   have hl:=h.len
   refine ⟨hs.low,hs.high,by simp [List.length_take,List.length_drop];omega,fun x hx=>?_,?_⟩
   ·rcases List.mem_append.1 hx with hx | hx
    ·exact hs.fine x (List.mem_of_mem_take hx)
    ·rcases List.mem_cons.1 hx with rfl | hx
     ·exact ⟨rangeB_iff.2 (by simp only;omega),rfl⟩
     ·exact hs.fine x (List.mem_of_mem_drop hx)
   ·refine List.pairwise_append.2 ⟨h.order.sublist (List.take_sublist _ _),List.pairwise_cons.2 ⟨fun y hy=>?_,h.order.sublist (List.drop_sublist _ _)⟩,fun x hx y hy=>?_⟩
    ·obtain ⟨j,hj⟩:=List.mem_iff_getElem?.1 hy
     rw [List.getElem?_drop] at hj
     exact after_place h.order ht (by omega) hj
    ·obtain ⟨a,ha⟩:=List.mem_iff_getElem?.1 hx
     have hal:a < placeS ls c:=by have:=(List.getElem?_eq_some_iff.1 ha).1;rw [List.length_take] at this;omega
     rw [List.getElem?_take_of_lt hal] at ha
     have h1:=placeS_lt hal ha
     rcases List.mem_cons.1 hy with rfl | hy
     ·exact h1
     ·obtain ⟨j,hj⟩:=List.mem_iff_getElem?.1 hy
      rw [List.getElem?_drop] at hj
      have:=after_place h.order ht (by omega) hj
      omega
theorem hasC_join {ls:List SessD} {i c a:Int} (ha:HasC ls a):HasC (joinS ls i c).1 a:=by
 cases ht:thereS ls c with
 | true =>
  obtain ⟨x,hx,e⟩:=thereS_some ht
  rw [joinS_there ht hx]
  exact (hasC_put (y:={ x with last:=i+1 }) hx rfl a).2 ha
 | false =>
  by_cases h4:ls.length=4
  ·rw [joinS_full ht h4];exact ha
  ·rw [joinS_new ht h4]
   obtain ⟨x,hx,e⟩:=ha
   refine ⟨x,?_,e⟩
   rw [←List.take_append_drop (placeS ls c) ls] at hx
   rcases List.mem_append.1 hx with hx | hx
   ·exact List.mem_append_left _ hx
   ·exact List.mem_append_right _ (List.mem_cons_of_mem _ hx)
theorem hasC_leave {ls:List SessD} {c a:Int} (ha:HasC ls a) (hne:a≠c):HasC (leaveS ls c).1 a:=by
 cases ht:thereS ls c with
 | false=>rw [leaveS_away ht];exact ha
 | true =>
  rw [leaveS_there ht]
  obtain ⟨y,hy,ey⟩:=thereS_some ht
  obtain ⟨x,hx,e⟩:=ha
  obtain ⟨j,hj⟩:=List.mem_iff_getElem?.1 hx
  refine ⟨x,?_,e⟩
  have hjn:j≠placeS ls c:=by
   rintro rfl
   rw [hy] at hj
   cases hj
   omega
  exact List.mem_eraseIdx_iff_getElem?.2 ⟨j,hjn,hj⟩
theorem hearD_fine {i q u:Int} {x:SessD} (h:Fine i x) (hq:q≤1048576) (hu:u≤q - 1):Fine (i+1) (hearD x (i+1) u):=by
 have hr:=rangeB_iff.1 h.range
 refine ⟨rangeB_iff.2 (by unfold hearD;simp only;omega),?_⟩
 have hm:=formFrom_mem h.form
 refine formFrom_of (fun k hk=>?_) ((formFrom_rise h.form).filter _)
 obtain ⟨h1,h2⟩:=List.mem_filter.1 hk
 have h3:=hm k h1
 have h4:¬ k.seq≤max x.acked u:=by simpa using h2
 refine ⟨?_,?_,h3.2.2⟩
 ·show max x.acked u < k.seq;omega
 ·show k.seq≤max x.acked u+4;omega
theorem placeK_lt {ks:List KeptD} {q:Int} {j:Nat} {k:KeptD} (hj:j < placeK ks q) (hk:ks[j]?=some k):k.seq < q:=by
 have:=List.not_of_lt_findIdx (p:=fun k:KeptD=>decide (q≤k.seq)) (xs:=ks) hj
 obtain ⟨hl,he⟩:=List.getElem?_eq_some_iff.1 hk
 rw [he] at this
 simpa using this
theorem placeK_ge {ks:List KeptD} {q:Int} {k:KeptD} (hk:ks[placeK ks q]?=some k):q≤k.seq:=by
 obtain ⟨hl,he⟩:=List.getElem?_eq_some_iff.1 hk
 have h:decide (q≤(ks[placeK ks q]'hl).seq)=true:=List.findIdx_getElem (w:=hl)
 rw [he] at h
 simpa using h
theorem orderK_at {ks:List KeptD} (h:ks.Pairwise (fun a b=>a.seq < b.seq)) {i j:Nat} {x y:KeptD} (hij:i < j) (hx:ks[i]?=some x) (hy:ks[j]?=some y):x.seq < y.seq:=by
 obtain ⟨hi,rfl⟩:=List.getElem?_eq_some_iff.1 hx
 obtain ⟨hj,rfl⟩:=List.getElem?_eq_some_iff.1 hy
 exact List.pairwise_iff_getElem.1 h i j hi hj hij
theorem afterK {ks:List KeptD} (h:ks.Pairwise (fun a b=>a.seq < b.seq)) {q:Int} (ht:thereK ks q=false) {j:Nat} {k:KeptD} (hj:placeK ks q≤j) (hk:ks[j]?=some k):q < k.seq:=by
 have hl:j < ks.length:=(List.getElem?_eq_some_iff.1 hk).1
 have hp:placeK ks q < ks.length:=by omega
 have hy:ks[placeK ks q]?=some ks[placeK ks q]:=List.getElem?_eq_getElem hp
 have h1:=placeK_ge hy
 have h2:ks[placeK ks q].seq≠q:=by
  unfold thereK at ht
  rw [hy] at ht
  simpa using ht
 by_cases e:placeK ks q=j
 ·subst e
  rw [hy] at hk
  cases hk
  omega
 ·have:=orderK_at h (by omega) hy hk
  omega
theorem withK_form {a:Int} {ks:List KeptD} {k:KeptD} (h:formFrom a a ks=true) (ht:thereK ks k.seq=false) (h1:a < k.seq) (h2:k.seq≤a+4) (hk:keptB k=true):formFrom a a (withK ks k)=true:=by
 have hm:=formFrom_mem h
 have hr:=formFrom_rise h
 have hp:placeK ks k.seq≤ks.length:=List.findIdx_le_length
 unfold withK
 refine formFrom_of (fun y hy=>?_) ?_
 ·rcases List.mem_append.1 hy with hy | hy
  ·exact hm y (List.mem_of_mem_take hy)
  ·rcases List.mem_cons.1 hy with rfl | hy
   ·exact ⟨h1,h2,hk⟩
   ·exact hm y (List.mem_of_mem_drop hy)
 ·refine List.pairwise_append.2 ⟨hr.sublist (List.take_sublist _ _),List.pairwise_cons.2 ⟨fun y hy=>?_,hr.sublist (List.drop_sublist _ _)⟩,fun x hx y hy=>?_⟩
  ·obtain ⟨j,hj⟩:=List.mem_iff_getElem?.1 hy
   rw [List.getElem?_drop] at hj
   exact afterK hr ht (by omega) hj
  ·obtain ⟨b,hb⟩:=List.mem_iff_getElem?.1 hx
   have hbl:b < placeK ks k.seq:=by have:=(List.getElem?_eq_some_iff.1 hb).1;rw [List.length_take] at this;omega
   rw [List.getElem?_take_of_lt hbl] at hb
   have h1:=placeK_lt hbl hb
   rcases List.mem_cons.1 hy with rfl | hy
   ·exact h1
   ·obtain ⟨j,hj⟩:=List.mem_iff_getElem?.1 hy
    rw [List.getElem?_drop] at hj
    have:=afterK hr ht (by omega) hj
    omega
theorem answerD_yes {x:SessD} {q:Int} (h:(answerD x q).2=true):x.acked < q∧q≤x.acked+4∧thereK x.replies q=false:=by
 unfold answerD at h
 split at h
 ·cases h
 ·rename_i h1
  split at h
  ·cases h
  ·rename_i h2
   split at h
   ·cases h
   ·refine ⟨by omega,by omega,?_⟩
    cases ht:thereK x.replies q with
    | false=>rfl
    | true =>
     exfalso
     unfold thereK at ht
     cases hk:x.replies[placeK x.replies q]? with
     | none=>rw [hk] at ht;cases ht
     | some k=>exact h2 k (by unfold thereK;rw [hk] at ht ⊢;exact ht) hk
theorem readyS_todo {ls:List SessD} {i c s q u:Int} (h:(readyS ls i c s q u).2.2=true):∃ x,thereS ls c=true∧ls[placeS ls c]?=some x∧x.client=c∧x.id=s∧(readyS ls i c s q u).1=ls.set (placeS ls c) (hearD x (i+1) u)∧(answerD (hearD x (i+1) u) q).2=true∧(readyS ls i c s q u).2=answerD (hearD x (i+1) u) q:=by
 cases ht:thereS ls c with
 | false=>rw [readyS_away ht] at h;cases h
 | true =>
  obtain ⟨x,hx,e⟩:=thereS_some ht
  by_cases hs:x.id=s
  ·have er:=readyS_here (i:=i) (q:=q) (u:=u) ht hx hs
   rw [er] at h
   exact ⟨x,rfl,hx,e,hs,by rw [er],h,by rw [er]⟩
  ·rw [readyS_other ht hx hs] at h;cases h
theorem GoodS.ready {ls:List SessD} {i:Int} (h:GoodS ls i) (hi:i < 1073741824) (c s:Int) {q u:Int} (hq:q≤1048576) (hu:u≤q - 1):GoodS (readyS ls i c s q u).1 (i+1):=by
 have hs:=h.step (j:=i+1) (by omega) (by omega)
 cases ht:thereS ls c with
 | false=>rw [readyS_away ht];exact hs
 | true =>
  obtain ⟨x,hx,e⟩:=thereS_some ht
  by_cases hsn:x.id=s
  ·rw [readyS_here ht hx hsn]
   exact hs.put hx rfl (hearD_fine (h.fine x (List.mem_of_getElem? hx)) hq hu)
  ·rw [readyS_other ht hx hsn];exact hs
theorem hasC_ready {ls:List SessD} {i c s q u:Int} (a:Int):HasC (readyS ls i c s q u).1 a ↔ HasC ls a:=by
 cases ht:thereS ls c with
 | false=>rw [readyS_away ht]
 | true =>
  obtain ⟨x,hx,e⟩:=thereS_some ht
  by_cases hsn:x.id=s
  ·rw [readyS_here ht hx hsn];exact hasC_put (y:=hearD x (i+1) u) hx rfl a
  ·rw [readyS_other ht hx hsn]
theorem place_put {ls:List SessD} (h:ls.Pairwise (fun a b=>a.client < b.client)) {p:Nat} {x y:SessD} (hx:ls[p]?=some x) (hc:y.client=x.client):placeS (ls.set p y) x.client=p∧(ls.set p y)[p]?=some y∧thereS (ls.set p y) x.client=true:=by
 have hp:=(List.getElem?_eq_some_iff.1 hx).1
 have hself:(ls.set p y)[p]?=some y:=List.getElem?_set_self hp
 have e:placeS (ls.set p y) x.client=p:=by
  have hlt:placeS (ls.set p y) x.client≤p:=by
   by_cases hh:p < placeS (ls.set p y) x.client
   ·have:=placeS_lt hh hself;omega
   ·omega
  have hge:p≤placeS (ls.set p y) x.client:=by
   by_cases hh:placeS (ls.set p y) x.client < p
   ·exfalso
    have hl:placeS (ls.set p y) x.client < (ls.set p y).length:=by rw [List.length_set];omega
    have hz:=List.getElem?_eq_getElem hl
    have h1:=placeS_ge hz
    have hz':ls[placeS (ls.set p y) x.client]?=some (ls.set p y)[placeS (ls.set p y) x.client]:=by
     rw [←hz,List.getElem?_set_ne (by omega)]
    have:=order_at h hh hz' hx
    omega
   ·omega
  omega
 refine ⟨e,hself,?_⟩
 unfold thereS
 rw [e,hself]
 simpa using hc
theorem keep_ready {ls:List SessD} {i:Int} (h:GoodS ls i) (hi:i < 1073741824) {c s q u:Int} (hq:q≤1048576) (hu:u≤q - 1) (ht:(readyS ls i c s q u).2.2=true) {rc rn:Int} {rt:ByteArray} (hr:replyB rc rn rt.size=true) :
  keepE (readyS ls i c s q u).1 (i+1) c ⟨q,rc,rn,rt⟩=0∧GoodS (keepS (readyS ls i c s q u).1 c ⟨q,rc,rn,rt⟩) (i+1)∧∀ a,HasC (keepS (readyS ls i c s q u).1 c ⟨q,rc,rn,rt⟩) a ↔ HasC ls a:=by
 have hg:=h.ready hi c s hq hu
 obtain ⟨x,-,hx,e,-,er,ha,-⟩:=readyS_todo ht
 obtain ⟨a1,a2,a3⟩:=answerD_yes ha
 have hf:=hearD_fine (u:=u) (h.fine x (List.mem_of_getElem? hx)) hq hu
 have hhc:=hasC_ready (ls:=ls) (i:=i) (c:=c) (s:=s) (q:=q) (u:=u)
 rw [er] at hg hhc ⊢
 obtain ⟨p1,p2,p3⟩:=place_put h.order hx (y:=hearD x (i+1) u) rfl
 rw [e] at p1 p3
 have p2':(ls.set (placeS ls c) (hearD x (i+1) u))[placeS (ls.set (placeS ls c) (hearD x (i+1) u)) c]?=some (hearD x (i+1) u):=by rw [p1];exact p2
 have hw:formFrom (hearD x (i+1) u).acked (hearD x (i+1) u).acked (withK (hearD x (i+1) u).replies ⟨q,rc,rn,rt⟩)=true:=withK_form hf.form a3 a1 a2 hr
 refine ⟨keepE_ok (checkS_of hg) p3 p2' a3 hw,?_,fun a=>?_⟩
 ·rw [keepS_there p2']
  exact hg.put p2' rfl ⟨hf.range,hw⟩
 ·rw [keepS_there p2',hasC_put (y:={ hearD x (i+1) u with replies:=withK (hearD x (i+1) u).replies ⟨q,rc,rn,rt⟩ }) p2' rfl a]
  exact hhc a
end Go.Proofs.YtbmfahgekcnkaajGreatDoor
namespace Go.Proofs.YtbmfahgekcnkaajGreatDoor
open Go.RowKit
theorem PairD.ext' {x y:PairD} (h1:x.name=y.name) (h2:x.value=y.value) (h3:x.version=y.version):x=y:=by
 cases x;cases y;simp_all
theorem setP_good {ps:List PairD} {nm val:ByteArray} (h:GoodP ps) (hn:nameB nm=true) (hv:val.size≤12):GoodP (setP ps nm val).1:=by
 cases ht:thereP ps nm with
 | true =>
  obtain ⟨x,hx,he⟩:=thereP_yes ht
  have hxx:=h.each x (List.mem_of_getElem? hx)
  by_cases hf:x.version=1073741824
  ·rw [setP_full hx he hf];exact h
  ·rw [setP_there hx he hf]
   have key:∀ (j:Nat) (y:PairD),(ps.set (placeP ps nm) ⟨x.name,val,x.version+1⟩)[j]?=some y→∃ z,ps[j]?=some z∧z.name=y.name:=by
    intro j y hy
    by_cases e:placeP ps nm=j
    ·subst e
     have hl:=(List.getElem?_eq_some_iff.1 hx).1
     rw [List.getElem?_set_self hl] at hy
     cases hy
     exact ⟨x,hx,rfl⟩
    ·rw [List.getElem?_set_ne e] at hy
     exact ⟨y,hy,rfl⟩
   refine ⟨by rw [List.length_set];exact h.len,fun y hy=>?_,fun i j y z hij hy hz=>?_⟩
   ·rcases List.mem_or_eq_of_mem_set hy with hy | rfl
    ·exact h.each y hy
    ·exact ⟨hxx.1,hv,by show 1≤x.version+1;omega,by show x.version+1≤1073741824;omega⟩
   ·obtain ⟨y',hy',ey⟩:=key i y hy
    obtain ⟨z',hz',ez⟩:=key j z hz
    rw [←ey,←ez]
    exact h.order i j y' z' hij hy' hz'
 | false =>
  by_cases hf:ps.length=5
  ·rw [setP_noroom ht hf];exact h
  ·rw [setP_new ht hf]
   have hle:=placeP_le ps nm
   have hlen:=h.len
   refine ⟨?_,fun y hy=>?_,fun i j y z hij hy hz=>?_⟩
   ·simp only [List.length_append,List.length_take,List.length_cons,List.length_drop];omega
   ·rcases List.mem_append.1 hy with hy | hy
    ·exact h.each y (List.mem_of_mem_take hy)
    ·rcases List.mem_cons.1 hy with rfl | hy
     ·exact ⟨hn,hv,by show (1:Int)≤1;omega,by show (1:Int)≤1073741824;omega⟩
     ·exact h.each y (List.mem_of_mem_drop hy)
   ·have get:∀ (k:Nat) (u:PairD),(ps.take (placeP ps nm)++⟨nm,val,1⟩ :: ps.drop (placeP ps nm))[k]?=some u→(k < placeP ps nm∧ps[k]?=some u)∨(k=placeP ps nm∧u=⟨nm,val,1⟩)∨(placeP ps nm < k∧ps[k - 1]?=some u):=by
     intro k u hu
     have hlt:(ps.take (placeP ps nm)).length=placeP ps nm:=by rw [List.length_take];omega
     by_cases a:k < placeP ps nm
     ·rw [List.getElem?_append_left (by omega),List.getElem?_take_of_lt a] at hu
      exact Or.inl ⟨a,hu⟩
     ·rw [List.getElem?_append_right (by omega),hlt] at hu
      by_cases b:k=placeP ps nm
      ·subst b
       rw [Nat.sub_self,List.getElem?_cons_zero] at hu
       exact Or.inr (Or.inl ⟨rfl,by simpa using hu.symm⟩)
      ·rw [show k - placeP ps nm=(k - placeP ps nm - 1)+1 by omega,List.getElem?_cons_succ,List.getElem?_drop,show placeP ps nm+(k - placeP ps nm - 1)=k - 1 by omega] at hu
       exact Or.inr (Or.inr ⟨by omega,hu⟩)
    have above:∀ (k:Nat) (u:PairD),placeP ps nm≤k→ps[k]?=some u→ltP nm u.name=true:=by
     intro k u hk hu
     have hkl:k < ps.length:=(List.getElem?_eq_some_iff.1 hu).1
     have hpl:placeP ps nm < ps.length:=by omega
     have hx:ps[placeP ps nm]?=some ps[placeP ps nm]:=List.getElem?_eq_getElem hpl
     have hgt:ltP nm ps[placeP ps nm].name=true:=ltP_total (placeP_at hx) (thereP_no h ht _ _ hx)
     by_cases e:placeP ps nm=k
     ·subst e
      rw [hx] at hu
      cases hu
      exact hgt
     ·exact ltP_trans hgt (h.order _ k _ u (by omega) hx hu)
    rcases get i y hy with ⟨a1,a2⟩ | ⟨a1,rfl⟩ | ⟨a1,a2⟩
    ·rcases get j z hz with ⟨b1,b2⟩ | ⟨b1,rfl⟩ | ⟨b1,b2⟩
     ·exact h.order i j y z hij a2 b2
     ·exact placeP_before a1 a2
     ·exact h.order i (j - 1) y z (by omega) a2 b2
    ·rcases get j z hz with ⟨b1,b2⟩ | ⟨b1,rfl⟩ | ⟨b1,b2⟩
     ·omega
     ·omega
     ·exact above (j - 1) z (by omega) b2
    ·rcases get j z hz with ⟨b1,b2⟩ | ⟨b1,rfl⟩ | ⟨b1,b2⟩
     ·omega
     ·omega
     ·exact h.order (i - 1) (j - 1) y z (by omega) a2 b2
theorem setP_rep {ps:List PairD} {nm val:ByteArray} (h:GoodP ps):0≤(setP ps nm val).2.1∧(setP ps nm val).2.1≤15∧0≤(setP ps nm val).2.2∧(setP ps nm val).2.2≤1073741824:=by
 unfold setP
 split
 ·rename_i x hx
  have hxx:=h.each x (List.mem_of_getElem? hx)
  split
  ·split
   ·simp
   ·simp only;omega
  ·split <;> simp
 ·split <;> simp
theorem getP_rep {ps:List PairD} {nm:ByteArray} (h:GoodP ps):0≤(getP ps nm).1∧(getP ps nm).1≤15∧0≤(getP ps nm).2.1∧(getP ps nm).2.1≤1073741824∧(getP ps nm).2.2.size≤12:=by
 have e0:(⟨#[]⟩:ByteArray).size=0:=rfl
 unfold getP
 split
 ·rename_i x hx
  have hxx:=h.each x (List.mem_of_getElem? hx)
  split
  ·simp only;omega
  ·simp [e0]
 ·simp [e0]
end Go.Proofs.YtbmfahgekcnkaajGreatDoor
namespace Go.Proofs.YtbmfahgekcnkaajGreatDoor
open Go.RowKit
def enc:Nat→Int→List Int
 | 0,m=>[m]
 | f+1,m=>if m < 128 then [m] else (m % 128+128) :: enc f (m / 128)
def encN (n:Int):List Int:=enc 5 n
theorem enc_small (f:Nat) (m:Int) (h:m < 128):enc f m=[m]:=by
 cases f <;> simp [enc,h]
theorem enc_step (f:Nat) (m:Int) (h:¬ m < 128):enc (f+1) m=(m % 128+128) :: enc f (m / 128):=by
 simp [enc,h]
theorem enc_length (f:Nat):∀ m,1≤(enc f m).length∧(enc f m).length≤f+1:=by
 induction f with
 | zero=>intro m;simp [enc]
 | succ f ih =>
  intro m
  by_cases h:m < 128
  ·simp [enc,h]
  ·have:=ih (m / 128);simp [enc,h];omega
theorem encN_length (n:Int):1≤(encN n).length∧(encN n).length≤6:=enc_length 5 n
def reach:Nat→Int
 | 0=>128
 | f+1=>128*reach f
theorem reach_div (f:Nat) (m:Int) (h0:0≤m) (h:m < reach (f+1)):0≤m / 128∧m / 128 < reach f:=by
 simp only [reach] at h
 omega
end Go.Proofs.YtbmfahgekcnkaajGreatDoor
namespace Go.Proofs.YtbmfahgekcnkaajGreatDoor
open Go.RowKit
def cd:List UInt8→Nat
 | []=>0
 | c :: t=>if c.toNat < 128 then 1 else if cd t=0 then 0 else cd t+1
theorem cd_le (l:List UInt8):cd l≤l.length:=by
 induction l with
 | nil=>simp [cd]
 | cons c t ih=>simp only [cd,List.length_cons];split <;> (try split) <;> omega
theorem cd_hit (l:List UInt8):∀ k,k < l.length→(∀ j,j < k→128≤(l.getD j 0).toNat)→(l.getD k 0).toNat < 128→cd l=k+1:=by
 induction l with
 | nil=>intro k hk;simp at hk
 | cons c t ih =>
  intro k hk hall hlt
  cases k with
  | zero=>simp at hlt;simp [cd,hlt]
  | succ k =>
   have h0:=hall 0 (by omega)
   have:=ih k (by simpa using hk) (fun j hj=>by simpa using hall (j+1) (by omega)) (by simpa using hlt)
   simp at h0
   simp [cd,this];omega
theorem cd_miss (l:List UInt8):(∀ j,j < l.length→128≤(l.getD j 0).toNat)→cd l=0:=by
 induction l with
 | nil=>intro _;rfl
 | cons c t ih =>
  intro hall
  have h0:=hall 0 (by simp)
  have:=ih (fun j hj=>by simpa using hall (j+1) (by simpa using hj))
  simp at h0
  simp [cd,this];omega
def dec:List UInt8→Int
 | []=>0
 | c :: t=>(c.toNat:Int) % 128+128*dec t
theorem dec_nonneg (l:List UInt8):0≤dec l:=by
 induction l with
 | nil=>simp [dec]
 | cons c t ih=>simp only [dec];omega
theorem reach_pos (f:Nat):0 < reach f:=by
 induction f with
 | zero=>simp [reach]
 | succ f ih=>simp only [reach];omega
theorem dec_lt (l:List UInt8):∀ f:Nat,l.length≤f+1→dec l < reach f:=by
 induction l with
 | nil=>intro f _;exact reach_pos f
 | cons c t ih =>
  intro f hf
  cases f with
  | zero =>
   have:t=[]:=by cases t with
    | nil=>rfl
    | cons a b=>simp at hf
   subst this
   simp [dec,reach];omega
  | succ f=>have:=ih f (by simpa using hf);simp only [dec,reach];omega
theorem reach5:reach 5=4398046511104:=by simp [reach]
theorem dec_drop (l:List UInt8) (k:Nat) (hk:k < l.length):dec (l.drop k)=((l.getD k 0).toNat:Int) % 128+128*dec (l.drop (k+1)):=by
 rw [List.drop_eq_getElem_cons hk,dec]
 simp [List.getElem?_eq_getElem hk]
theorem dec_end (l:List UInt8):dec (l.drop l.length)=0:=by simp [dec]
end Go.Proofs.YtbmfahgekcnkaajGreatDoor
namespace Go.Proofs.YtbmfahgekcnkaajGreatDoor
open Go.RowKit
def opE (k:Int) (a b:ByteArray) (n:Int):Int :=
 if ¬ (1≤k∧k≤6) then 3
 else if nameB a=false∨(k≠5∧b.size≠0) then 4
 else if 12 < b.size then 1
 else if k=5 then (if 1≤n∧n≤1073741824 then 0 else 2)
 else if n=0 then 0 else 2
def cmdE (k c s q u ok:Int) (a b:ByteArray) (n:Int):Int :=
 if ¬ (1≤k∧k≤3) then 3
 else if ¬ (1≤c∧c≤9) then 2
 else if k=2 then (if (1≤s∧s≤1073741824)∧(1≤q∧q≤1048576)∧(0≤u∧u≤q - 1) then opE ok a b n else 2)
 else if s=0∧q=0∧u=0∧ok=0∧a.size=0∧b.size=0∧n=0 then 0 else 4
theorem size_zero {s:ByteArray} (h:s.size=0):s=⟨#[]⟩:=by
 apply ByteArray.ext
 have:s.data.size=0:=h
 exact Array.eq_empty_of_size_eq_zero this
end Go.Proofs.YtbmfahgekcnkaajGreatDoor
namespace Go.Proofs.YtbmfahgekcnkaajGreatDoor
open Go.RowKit
structure CmdD where
 kind:Int
 client:Int
 session:Int
 seq:Int
 acked:Int
 ok:Int
 a:ByteArray
 b:ByteArray
 n:Int
def CmdD.zero:CmdD:=⟨0,0,0,0,0,0,⟨#[]⟩,⟨#[]⟩,0⟩
def CmdD.err (c:CmdD):Int:=cmdE c.kind c.client c.session c.seq c.acked c.ok c.a c.b c.n
def numR (s:ByteArray):Int × Nat × Int :=
 if cd s.data.toList=0 then (0,0,5)
 else if 6 < cd s.data.toList∨(1 < cd s.data.toList∧(s.data.toList.getD (cd s.data.toList - 1) 0).toNat=0) then (0,0,4)
 else if 1099511627776 < dec (s.data.toList.take (cd s.data.toList)) then (0,0,4)
 else (dec (s.data.toList.take (cd s.data.toList)),cd s.data.toList,0)
def readN (s:ByteArray):Int × ByteArray × Int:=if (numR s).2.2=0 then ((numR s).1,s.extract (numR s).2.1 s.size,0) else (0,⟨#[]⟩,(numR s).2.2)
def readT (s:ByteArray):ByteArray × ByteArray × Int :=
 if (numR s).2.2≠0 then (⟨#[]⟩,⟨#[]⟩,(numR s).2.2)
 else if 5000 < (numR s).1 then (⟨#[]⟩,⟨#[]⟩,1)
 else if (s.size:Int) - (numR s).2.1 < (numR s).1 then (⟨#[]⟩,⟨#[]⟩,5)
 else (s.extract (numR s).2.1 ((numR s).2.1+(numR s).1.toNat),s.extract ((numR s).2.1+(numR s).1.toNat) s.size,0)
theorem numR_err (s:ByteArray):(numR s).2.2=0∨(numR s).2.2=4∨(numR s).2.2=5:=by
 unfold numR
 split
 ·simp
 ·split
  ·simp
  ·split
   ·simp
   ·simp
theorem numR_ok (s:ByteArray) (h:(numR s).2.2=0):0≤(numR s).1∧(numR s).1≤1099511627776∧1≤(numR s).2.1∧(numR s).2.1≤6∧(numR s).2.1≤s.size:=by
 have hl:=cd_le s.data.toList
 have hz:s.data.toList.length=s.size:=by simp
 have hd:=dec_nonneg (s.data.toList.take (cd s.data.toList))
 revert h
 unfold numR
 split
 ·intro h;simp at h
 ·split
  ·intro h;simp at h
  ·split
   ·intro h;simp at h
   ·intro _
    refine ⟨hd,by show dec _≤_;omega,by show 1≤cd _;omega,by show cd _≤6;omega,by show cd _≤s.size;omega⟩
def stepN (r:ByteArray × Int):Int × ByteArray × Int:=if r.2=0 then readN r.1 else (0,r.1,r.2)
def stepT (r:ByteArray × Int):ByteArray × ByteArray × Int:=if r.2=0 then readT r.1 else (⟨#[]⟩,r.1,r.2)
def decCall (k c:Int) (s:ByteArray):CmdD × ByteArray × Int :=
 let r0:=stepN (s,0)
 let r1:=stepN r0.2
 let r2:=stepN r1.2
 let r3:=stepN r2.2
 let r4:=stepN r3.2
 let r5:=stepT r4.2
 let r6:=stepT r5.2
 (⟨k,c,r0.1,r1.1,r2.1,r3.1,r5.1,r6.1,r4.1⟩,r6.2)
def endE (r:ByteArray × Int):Int:=if r.2=0∧r.1.size≠0 then 4 else r.2
def decBody (s:ByteArray):CmdD × ByteArray × Int :=
 if ((s.data.toList.getD 0 0).toNat:Int)=2 then decCall (s.data.toList.getD 0 0).toNat (s.data.toList.getD 1 0).toNat (s.extract 2 s.size)
 else (⟨(s.data.toList.getD 0 0).toNat,(s.data.toList.getD 1 0).toNat,0,0,0,0,⟨#[]⟩,⟨#[]⟩,0⟩,s.extract 2 s.size,0)
def decE (s:ByteArray):Int :=
 if 5000 < s.size then 1 else if s.size < 2 then 5
 else if endE (decBody s).2≠0 then endE (decBody s).2 else (decBody s).1.err
def decL (s:ByteArray):CmdD:=if decE s=0 then (decBody s).1 else CmdD.zero
end Go.Proofs.YtbmfahgekcnkaajGreatDoor
namespace Go.Proofs.YtbmfahgekcnkaajGreatDoor
open Go.RowKit
def hasS (ls:List SessD) (c:Int):Bool:=ls.any fun x=>decide (x.client=c)
theorem hasS_iff {ls:List SessD} {c:Int}:hasS ls c=true ↔ HasC ls c:=by
 unfold hasS HasC
 rw [List.any_eq_true]
 constructor
 ·rintro ⟨x,hx,e⟩
  exact ⟨x,hx,by simpa using e⟩
 ·rintro ⟨x,hx,e⟩
  exact ⟨x,hx,by simpa using e⟩
def dropL (fresh:List SessD) (ks:List LockD) (ss:List SessD):List LockD:=ss.foldl (fun ks x=>if hasS fresh x.client=true then ks else goneL ks x.client) ks
def dropM (s:StateD):StateD:={ s with locks:=dropL (freshS s.sess s.index) s.locks s.sess,sess:=freshS s.sess s.index }
def operM (s:StateD) (c k:Int) (a b:ByteArray) (n:Int):StateD × ReplyD :=
 if k=1 then ({ s with locks:=(takeL s.locks a c false).1 },⟨(takeL s.locks a c false).2.1,(takeL s.locks a c false).2.2,⟨#[]⟩⟩)
 else if k=2 then ({ s with locks:=(takeL s.locks a c true).1 },⟨(takeL s.locks a c true).2.1,(takeL s.locks a c true).2.2,⟨#[]⟩⟩)
 else if k=3 then ({ s with locks:=(freeL s.locks a c).1 },⟨(freeL s.locks a c).2.1,(freeL s.locks a c).2.2,⟨#[]⟩⟩)
 else if k=4 then (s,⟨0,(whoL s.locks a).1,⟨#[]⟩⟩)
 else if k=5 then (if (whoL s.locks a).1=c∧(whoL s.locks a).2=n then ({ s with pairs:=(setP s.pairs a b).1 },⟨(setP s.pairs a b).2.1,(setP s.pairs a b).2.2,⟨#[]⟩⟩) else (s,⟨10,(whoL s.locks a).1,⟨#[]⟩⟩))
 else (s,⟨(getP s.pairs a).1,(getP s.pairs a).2.1,(getP s.pairs a).2.2⟩)
def callM (s:StateD) (x:CmdD):StateD × ReplyD :=
 if (readyS s.sess s.index x.client x.session x.seq x.acked).2.2=true then
  ({ (operM { s with sess:=(readyS s.sess s.index x.client x.session x.seq x.acked).1 } x.client x.ok x.a x.b x.n).1 with
    sess:=keepS (readyS s.sess s.index x.client x.session x.seq x.acked).1 x.client ⟨x.seq,(operM { s with sess:=(readyS s.sess s.index x.client x.session x.seq x.acked).1 } x.client x.ok x.a x.b x.n).2.code,(operM { s with sess:=(readyS s.sess s.index x.client x.session x.seq x.acked).1 } x.client x.ok x.a x.b x.n).2.n,(operM { s with sess:=(readyS s.sess s.index x.client x.session x.seq x.acked).1 } x.client x.ok x.a x.b x.n).2.text⟩ },
   (operM { s with sess:=(readyS s.sess s.index x.client x.session x.seq x.acked).1 } x.client x.ok x.a x.b x.n).2)
 else ({ s with sess:=(readyS s.sess s.index x.client x.session x.seq x.acked).1 },(readyS s.sess s.index x.client x.session x.seq x.acked).2.1)
def obeyM (s:StateD) (x:CmdD):StateD × ReplyD :=
 if x.kind=1 then ({ s with sess:=(joinS s.sess s.index x.client).1 },(joinS s.sess s.index x.client).2)
 else if x.kind=3 then ({ s with locks:=goneL s.locks x.client,sess:=(leaveS s.sess x.client).1 },(leaveS s.sess x.client).2)
 else callM s x
def applyM (s:StateD) (x:CmdD):StateD × ReplyD :=
 ({ (obeyM (dropM s) x).1 with index:=s.index+1 },(obeyM (dropM s) x).2)
structure GoodM (s:StateD):Prop where
 sess:GoodS s.sess s.index
 locks:GoodL s.locks
 pairs:GoodP s.pairs
theorem GoodM.of {s:StateD} (h:checkM s=0):GoodM s:=by
 obtain ⟨h1,h2,h3⟩:=checkM_zero h
 exact ⟨checkS_zero h1,GoodL.of h2,checkP_good h3⟩
theorem GoodM.check {s:StateD} (h:GoodM s):checkM s=0:=by
 rw [checkM_pairs (checkS_of h.sess) h.locks.check]
 exact h.pairs.check
theorem GoodL.drop {fresh:List SessD} {ss:List SessD}:∀ {ks:List LockD},GoodL ks→GoodL (dropL fresh ks ss):=by
 induction ss with
 | nil=>intro ks h;exact h
 | cons x r ih =>
  intro ks h
  unfold dropL
  rw [List.foldl_cons]
  refine ih ?_
  split
  ·exact h
  ·exact h.gone _
theorem holds_drop {fresh:List SessD} {ss:List SessD}:∀ {ks:List LockD} {H:Int→Prop},GoodL ks→(∀ x∈ss,1≤x.client)→Holds H ks→Holds (fun a=>H a∧∀ x∈ss,hasS fresh x.client=false→a≠x.client) (dropL fresh ks ss):=by
 induction ss with
 | nil=>intro ks H _ _ h;exact h.mono fun a ha=>⟨ha,fun x hx=>by cases hx⟩
 | cons x r ih =>
  intro ks H hg hc h
  unfold dropL
  rw [List.foldl_cons]
  split
  ·rename_i hf
   refine (ih hg (fun y hy=>hc y (by simp [hy])) h).mono fun a ha=>⟨ha.1,fun y hy hn=>?_⟩
   rcases List.mem_cons.1 hy with rfl | hy
   ·rw [hf] at hn;cases hn
   ·exact ha.2 y hy hn
  ·refine (ih (hg.gone _) (fun y hy=>hc y (by simp [hy])) (h.gone hg (hc x (by simp)))).mono fun a ha=>⟨ha.1.1,fun y hy hn=>?_⟩
   rcases List.mem_cons.1 hy with rfl | hy
   ·exact ha.1.2
   ·exact ha.2 y hy hn
def HeldM (s:StateD):Prop:=Holds (HasC s.sess) s.locks
theorem GoodM.drop {s:StateD} (h:GoodM s):GoodM (dropM s):=⟨h.sess.fresh _,h.locks.drop,h.pairs⟩
theorem HeldM.drop {s:StateD} (h:HeldM s) (hg:GoodM s):HeldM (dropM s):=by
 refine (holds_drop hg.locks (fun x hx=>?_) h).mono fun a ha=>?_
 ·have:=rangeB_iff.1 (hg.sess.fine x hx).range
  exact this.1
 ·obtain ⟨⟨x,hx,e⟩,h2⟩:=ha
  show HasC (freshS s.sess s.index) a
  rw [←hasS_iff]
  cases hn:hasS (freshS s.sess s.index) a with
  | true=>rfl
  | false=>exact absurd e.symm (h2 x hx (by rw [e];exact hn))
structure OpOk (c k:Int) (a b:ByteArray) (n:Int):Prop where
 client:1≤c∧c≤9
 kind:1≤k∧k≤6
 name:nameB a=true
 value:b.size≤12
theorem opE_zero {k:Int} {a b:ByteArray} {n:Int} (h:opE k a b n=0):(1≤k∧k≤6)∧nameB a=true∧b.size≤12:=by
 unfold opE at h
 by_cases h1:1≤k∧k≤6
 ·rw [if_neg (by simpa using h1)] at h
  by_cases h2:nameB a=false∨(k≠5∧b.size≠0)
  ·rw [if_pos h2] at h;cases h
  ·rw [if_neg h2] at h
   by_cases h3:12 < b.size
   ·rw [if_pos h3] at h;cases h
   ·refine ⟨h1,?_,by omega⟩
    cases hn:nameB a with
    | true=>rfl
    | false=>exact absurd (Or.inl hn) h2
 ·rw [if_pos h1] at h;cases h
theorem cmdE_parts {k c s q u ok:Int} {a b:ByteArray} {n:Int} (h:cmdE k c s q u ok a b n=0):(1≤k∧k≤3)∧(1≤c∧c≤9)∧(k=2→(1≤s∧s≤1073741824)∧(1≤q∧q≤1048576)∧(0≤u∧u≤q - 1)∧opE ok a b n=0):=by
 unfold cmdE at h
 by_cases h1:1≤k∧k≤3
 ·rw [if_neg (by simpa using h1)] at h
  by_cases h2:1≤c∧c≤9
  ·rw [if_neg (by simpa using h2)] at h
   refine ⟨h1,h2,fun hk=>?_⟩
   rw [if_pos hk] at h
   by_cases h3:(1≤s∧s≤1073741824)∧(1≤q∧q≤1048576)∧(0≤u∧u≤q - 1)
   ·rw [if_pos h3] at h
    exact ⟨h3.1,h3.2.1,h3.2.2,h⟩
   ·rw [if_neg h3] at h;cases h
  ·rw [if_pos h2] at h;cases h
 ·rw [if_pos h1] at h;cases h
theorem operM_good {s:StateD} (hl:GoodL s.locks) (hp:GoodP s.pairs) {c k:Int} {a b:ByteArray} {n:Int} (ho:OpOk c k a b n) :
  GoodL (operM s c k a b n).1.locks∧GoodP (operM s c k a b n).1.pairs∧replyB (operM s c k a b n).2.code (operM s c k a b n).2.n (operM s c k a b n).2.text.size=true∧(operM s c k a b n).1.index=s.index∧(operM s c k a b n).1.sess=s.sess:=by
 obtain ⟨c1,c2⟩:=ho.client
 have e0:(⟨#[]⟩:ByteArray).size=0:=rfl
 unfold operM
 split
 ·have:=hl.takeRep a c false
  exact ⟨hl.take ho.name c1 c2 false,hp,replyB_iff.2 ⟨this.1,this.2.1,this.2.2.1,this.2.2.2,by simp only;omega⟩,rfl,rfl⟩
 ·split
  ·have:=hl.takeRep a c true
   exact ⟨hl.take ho.name c1 c2 true,hp,replyB_iff.2 ⟨this.1,this.2.1,this.2.2.1,this.2.2.2,by simp only;omega⟩,rfl,rfl⟩
  ·split
   ·have:=hl.freeRep a c
    exact ⟨hl.free a c,hp,replyB_iff.2 ⟨this.1,this.2.1,this.2.2.1,this.2.2.2,by simp only;omega⟩,rfl,rfl⟩
   ·split
    ·have:=hl.whoRep a
     exact ⟨hl,hp,replyB_iff.2 (by simp only;omega),rfl,rfl⟩
    ·split
     ·split
      ·have:=setP_rep (val:=b) hp (nm:=a)
       exact ⟨hl,setP_good hp ho.name ho.value,replyB_iff.2 (by simp only;omega),rfl,rfl⟩
      ·have:=hl.whoRep a
       exact ⟨hl,hp,replyB_iff.2 (by simp only;omega),rfl,rfl⟩
     ·have:=getP_rep hp (nm:=a)
      exact ⟨hl,hp,replyB_iff.2 (by simp only;omega),rfl,rfl⟩
theorem operM_holds {H:Int→Prop} {s:StateD} (h:Holds H s.locks) {c k:Int} {a b:ByteArray} {n:Int} (hc:H c):Holds H (operM s c k a b n).1.locks:=by
 unfold operM
 split
 ·exact h.take a hc false
 ·split
  ·exact h.take a hc true
  ·split
   ·exact h.free a c
   ·split
    ·exact h
    ·split
     ·split
      ·exact h
      ·exact h
     ·exact h
theorem callM_good {s:StateD} (h:GoodM s) (hi:s.index < 1073741824) {x:CmdD} (hx:x.err=0) (hk:x.kind=2) :
  GoodM { (callM s x).1 with index:=s.index+1 }∧(HeldM s→HeldM { (callM s x).1 with index:=s.index+1 }):=by
 obtain ⟨-,hc,h2⟩:=cmdE_parts hx
 obtain ⟨-,hq,hu,ho⟩:=h2 hk
 obtain ⟨o1,o2,o3⟩:=opE_zero ho
 have hop:OpOk x.client x.ok x.a x.b x.n:=⟨hc,o1,o2,o3⟩
 have hr:=h.sess.ready hi x.client x.session (q:=x.seq) (u:=x.acked) hq.2 hu.2
 have hrc:=fun a=>hasC_ready (ls:=s.sess) (i:=s.index) (c:=x.client) (s:=x.session) (q:=x.seq) (u:=x.acked) a
 unfold callM
 split
 ·rename_i ht
  obtain ⟨g1,g2,g3,g4,g5⟩:=operM_good (s:={ s with sess:=(readyS s.sess s.index x.client x.session x.seq x.acked).1 }) h.locks h.pairs hop
  obtain ⟨k1,k2,k3⟩:=keep_ready h.sess hi hq.2 hu.2 ht g3
  refine ⟨⟨k2,g1,g2⟩,fun hh=>?_⟩
  obtain ⟨y,-,hy,e,-⟩:=readyS_todo ht
  have hcc:HasC s.sess x.client:=⟨y,List.mem_of_getElem? hy,e⟩
  exact (operM_holds (H:=HasC s.sess) (s:={ s with sess:=(readyS s.sess s.index x.client x.session x.seq x.acked).1 }) hh hcc).mono fun a ha=>(k3 a).2 ha
 ·exact ⟨⟨hr,h.locks,h.pairs⟩,fun hh=>hh.mono fun a ha=>(hrc a).2 ha⟩
theorem obeyM_good {s:StateD} (h:GoodM s) (hi:s.index < 1073741824) {x:CmdD} (hx:x.err=0) :
  GoodM { (obeyM s x).1 with index:=s.index+1 }∧(HeldM s→HeldM { (obeyM s x).1 with index:=s.index+1 }):=by
 obtain ⟨hk,hc,-⟩:=cmdE_parts hx
 unfold obeyM
 split
 ·refine ⟨⟨h.sess.join hi hc.1 hc.2,h.locks,h.pairs⟩,fun hh=>hh.mono fun a ha=>hasC_join ha⟩
 ·split
  ·have hs:GoodS (leaveS s.sess x.client).1 (s.index+1):=(h.sess.leave _).step (by omega) (by omega)
   refine ⟨⟨hs,h.locks.gone _,h.pairs⟩,fun hh=>?_⟩
   exact (Holds.gone hh h.locks hc.1).mono fun a ha=>hasC_leave ha.1 ha.2
  ·exact callM_good h hi hx (by omega)
theorem applyM_good {s:StateD} (h:GoodM s) (hi:s.index < 1073741824) {x:CmdD} (hx:x.err=0):GoodM (applyM s x).1∧(HeldM s→HeldM (applyM s x).1):=by
 have k:=obeyM_good (s:=dropM s) h.drop hi hx
 exact ⟨k.1,fun hh=>k.2 (hh.drop h)⟩
theorem applyM_index (s:StateD) (x:CmdD):(applyM s x).1.index=s.index+1:=rfl
end Go.Proofs.YtbmfahgekcnkaajGreatDoor
