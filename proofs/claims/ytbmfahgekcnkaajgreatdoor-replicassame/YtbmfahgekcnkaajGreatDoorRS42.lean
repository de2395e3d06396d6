/- Builders: what stands when other memory is made; command.callBytes: what a Call has behind its head, as bytes; command.Encode: a command's bytes, or what is wrong with it; What codec.Number writes is in form: it is counted, read and refused as it must be, whatever stands behind it; A text that was written is read, whatever stands behind it; Plain mathematics: a command that was written is read; cut short, or longer, it is not; A command that may be is written as it must be; a row of commands; tackroomkeep.entries: commands, as bytes; tackroomkeep.Applied: a state after entries; Plain mathematics of package codec: digits of seven bits and the two sums of a seal. It imports no program; The seal of bytes, and that one byte changed changes it. Plain mathematics; A state as bytes. Plain mathematics; no program; A state read from bytes: what is read, what is wrong first. Plain mathematics; no program; Logs as plain lists: what may be, what the calls do. Plain mathematics; no program; Logs in memory: what a value reads as; what is asked of package log; log.Last; Replicas as plain data: what may be, what the calls do. Plain mathematics; no program is walked; A state's value, by its parts (joined by program) -/
import Derived.WalkKit
import Derived.ProofKit
import Derived.Laws.BytesArg
import Derived.Test.YtbmfahgekcnkaajGreatDoorRS41
import Derived.Test.YtbmfahgekcnkaajGreatDoorRS36
import Derived.Test.YtbmfahgekcnkaajGreatDoorRS34
import Derived.Test.YtbmfahgekcnkaajGreatDoorRS35
import Derived.Test.YtbmfahgekcnkaajGreatDoorRS10
import Derived.Test.YtbmfahgekcnkaajGreatDoorRS37
import Derived.Test.YtbmfahgekcnkaajGreatDoorRS11
import Derived.Test.YtbmfahgekcnkaajGreatDoorRS00
namespace Go.Proofs.YtbmfahgekcnkaajGreatDoor
open Go.RowKit
theorem grownC {w w':World} (h:Below w.heap.size w w') (row:Option Nat):w.grownBy w' row:=⟨h.os,h.tape,h.output,h.size,fun i hi _=>h.block i hi⟩
theorem BuilderAtF_below {T e:TypeId} {B b:Nat} {p:Value} {bs:List Value} {w w':World} (h:Lib.BuilderAtF T e B b p bs w) (hb:Below w.heap.size w w'):Lib.BuilderAtF T e B b p bs w':=by
 have hlt:=h.lt
 obtain ⟨hB,v,hbk,hown,hne⟩:=h
 refine ⟨hB,v,(hb.block b hlt).trans hbk,hown.kept (grownC hb none) ?_,hne⟩
 cases v.ownBlock with
 | none=>exact Or.inl rfl
 | some x=>exact Or.inr (by simp)
theorem BuiltB.below {B b:Nat} {l:List UInt8} {w w':World} (h:BuiltB B b l w) (hb:Below w.heap.size w w'):BuiltB B b l w':=by
 rcases h with h | h
 ·exact Or.inl (BuilderAtF_below h hb)
 ·exact Or.inr (BuilderAtF_below h hb)
theorem BuiltB.lt {B b:Nat} {l:List UInt8} {w:World} (h:BuiltB B b l w):B≤b∧b < w.heap.size:=by
 rcases h with h | h
 ·exact ⟨h.1,h.lt⟩
 ·exact ⟨h.1,h.lt⟩
theorem kept_row {b:Nat} {w w':World} (h:Lib.OthersKept 5 (some b) w w') {g:Nat} {cs:Array Value} {t:TypeId} (hg:w.heap[g]?=some (.cells cs t (0,0))) (hne:g≠b) (ht:t≠5):w'.heap[g]?=some (.cells cs t (0,0)) :=
 h g _ hg (by intro e;exact hne (Option.some.inj e)) (by intro c fz e;cases e;exact ht rfl)
theorem take_snocC {α:Type} {xs:List α} {k:Nat} {x:α} (h:xs[k]?=some x):xs.take (k+1)=xs.take k++[x]:=by
 rw [List.take_add_one,h]
 rfl
end Go.Proofs.YtbmfahgekcnkaajGreatDoor
namespace Go.Proofs.YtbmfahgekcnkaajGreatDoor
open Go.RowKit
def numsB (xs:List Int):List UInt8:=xs.flatMap fun n=>(strOfNums (encN n)).data.toList
theorem numsB_snoc (xs:List Int) (n:Int):numsB (xs++[n])=numsB xs++(strOfNums (encN n)).data.toList:=by simp [numsB]
theorem numsB_len (xs:List Int):(numsB xs).length≤6*xs.length:=by
 induction xs with
 | nil=>simp [numsB]
 | cons x t ih =>
  have h1:=(encN_length x).2
  have h2:=strOfNums_size (encN x)
  have h3:(strOfNums (encN x)).data.toList.length=(strOfNums (encN x)).size:=by simp
  have e:numsB (x :: t)=(strOfNums (encN x)).data.toList++numsB t:=by simp [numsB]
  rw [e,List.length_append,List.length_cons]
  omega
set_option maxRecDepth 100000 in
set_option maxHeartbeats 6400000 in
theorem callBytes_any (k c s q u ok:Int) (a b:ByteArray) (n:Int) (w:World) (hN:∀ x∈[s,q,u,ok,n],0≤x∧x≤1099511627776) (ha:a.size≤5000) (hb:b.size≤5000) :
  Calls Tryz.prog 36 #[.agg #[.int .i64 k,.int .i64 c,.int .i64 s,.int .i64 q,.int .i64 u,.int .i64 ok,.string a,.string b,.int .i64 n]] w fun e w'=>e=.returned (.string ⟨(numsB [s,q,u,ok,n]++((textOut a).data.toList++(textOut b).data.toList)).toArray⟩)∧Below w.heap.size w w':=by
 have HBX:=chid (cbox w k c s q u ok a b n)
 have HN:=chid hN
 clear hN
 obtain ⟨w0,hw0⟩:∃ w0,w0=w.alloc (.cells #[.int .i64 k,.int .i64 c,.int .i64 s,.int .i64 q,.int .i64 u,.int .i64 ok,.string a,.string b,.int .i64 n] 51):=⟨_,rfl⟩
 have hz0:w0.heap.size=w.heap.size+1:=by rw [hw0];simp
 have HG0:Hid (w0.heap[w.heap.size]?=some (.cells #[.int .i64 k,.int .i64 c,.int .i64 s,.int .i64 q,.int .i64 u,.int .i64 ok,.string a,.string b,.int .i64 n] 51 (0,0))):=by rw [hw0];exact heap_alloc_new w _
 have HF:Hid (BuiltB w0.heap.size w0.heap.size [] (w0.alloc (.cells #[.pointer none,.slice none 0 0] 104))):=Lib.IsBuilderF.of (Lib.fresh_isBuilder 104 5 w0)
 rw [←hw0] at HBX
 have HW0:=chid hw0
 clear hw0
 go_enter Tryz.func36,Tryz.ntmps36
 go_wp2
 go_loopw [26] (fun i wr=>∃ j:Nat,j≤5∧i=.int .i64 j∧BuiltB (w.heap.size+1) (w.heap.size+1) (numsB ([s,q,u,ok,n].take j)) wr∧wr.heap[w.heap.size+2]?=some (.cells #[.int .i64 s,.int .i64 q,.int .i64 u,.int .i64 ok,.int .i64 n] 3 (0,0))∧Below (w.heap.size+1) w0 wr) (fun i _=>5 - (intOf i).toNat)
 case atStart =>
  refine ⟨0,by omega,rfl,?_,?_,?_⟩
  ·have h:=HF.out
   rw [hz0] at h
   rw [HW0.out] at h
   exact Lib.IsBuilderF.alloc h _
  ·have:=heap_alloc_new ((w.alloc (.cells #[.int .i64 k,.int .i64 c,.int .i64 s,.int .i64 q,.int .i64 u,.int .i64 ok,.string a,.string b,.int .i64 n] 51)).alloc (.cells #[.pointer none,.slice none 0 0] 104)) (.cells #[.int .i64 s,.int .i64 q,.int .i64 u,.int .i64 ok,.int .i64 n] 3)
   simpa using this
  ·rw [HW0.out]
   exact ((Below.refl _ _).alloc (by simp) _).alloc (by simp) _
 case round =>
  obtain ⟨j,hj,rfl,hbt,hrow,hbw⟩:=hrel
  have HT:=chid hbt
  have HR:=chid hrow
  have HB:=chid hbw
  have hzr:w.heap.size+2 < wr.heap.size:=(Array.getElem?_eq_some_iff.1 hrow).1
  clear hbt hrow hbw
  by_cases hlt:j < 5
  ·obtain ⟨x,hx⟩:∃ x,[s,q,u,ok,n][j]?=some x:=⟨_,List.getElem?_eq_getElem (by simpa using hlt)⟩
   have hxm:=HN.out x (List.mem_of_getElem? hx)
   have HX:=chid hx
   have hcx:wr.cell? ⟨w.heap.size+2,j,none⟩=some (.int .i64 x):=by
    rw [Lib.cell_of_heap HR.out]
    have e:(#[Value.int .i64 s,.int .i64 q,.int .i64 u,.int .i64 ok,.int .i64 n])[j]?=([s,q,u,ok,n].map (Value.int .i64))[j]?:=by simp
    rw [e,List.getElem?_map,HX.out]
    rfl
   have hl:(numsB ([s,q,u,ok,n].take j)).length≤30:=by
    have h1:=numsB_len ([s,q,u,ok,n].take j)
    have h2:([s,q,u,ok,n].take j).length≤5:=by rw [List.length_take];simp;omega
    omega
   have hsx:(strOfNums (encN x)).size≤6:=by rw [strOfNums_size];exact (encN_length x).2
   have CN:=chid (fun w=>number_ok x w hxm.1 hxm.2)
   obtain ⟨t,ht⟩:∃ t,t=strOfNums (encN x):=⟨_,rfl⟩
   rw [←ht] at CN hsx
   have HTT:=chid ht
   clear hx hxm ht
   go_wp2_with fail
   refine (CN.out _).mono ?_
   rintro e w2 ⟨rfl,hb2⟩
   have HT2:=chid (HT.out.below hb2)
   have HR2:Hid (w2.heap[w.heap.size+2]?=_):=(hb2.block _ hzr).trans HR.out
   have HB2:=chid (HB.out.trans (hb2.mono (by omega)))
   have hz2:wr.heap.size≤w2.heap.size:=hb2.size
   clear hb2 hcx
   go_wp2_with fail
   refine (writeString_any (w.heap.size+1) (w.heap.size+1) _ t w2 HT2.out (by omega) (by omega)).mono ?_
   rintro e w3 ⟨rfl,hb3,hb4,hk3⟩
   have HT3:=chid hb3
   have HR3:=chid (kept_row hk3 HR2.out (by omega) (by decide))
   have HB3:=chid (HB2.out.trans hb4)
   clear hb3 hb4 hk3
   go_wp2
   go_roundw
   case rel =>
    refine ⟨j+1,by omega,by go_num,?_,HR3.out,HB3.out⟩
    rw [take_snocC HX.out,numsB_snoc,←HTT.out]
    exact HT3.out
   case measure=>simp [intOf];omega
  ·rename World=>wq
   obtain rfl:j=5:=by omega
   have hG:=(HB.out.block _ (by omega)).trans HG0.out
   have s6:wq.cell? ⟨w.heap.size,6,none⟩=some (.string a):=cell_of_row wq w.heap.size 6 _ _ _ hG
   have s7:wq.cell? ⟨w.heap.size,7,none⟩=some (.string b):=cell_of_row wq w.heap.size 7 _ _ _ hG
   clear hG hlt hj
   go_wp2
   go_loopw [46] (fun i wr=>∃ j:Nat,j≤2∧i=.int .i64 j∧BuiltB (w.heap.size+1) (w.heap.size+1) (numsB [s,q,u,ok,n]++([a,b].take j).flatMap fun x=>(textOut x).data.toList) wr∧wr.heap[wq.heap.size]?=some (.cells #[.string a,.string b] 9 (0,0))∧Below (w.heap.size+1) w0 wr) (fun i _=>2 - (intOf i).toNat)
   case atStart =>
    refine ⟨0,by omega,rfl,?_,?_,?_⟩
    ·have h:=HT.out
     simp only [List.take_zero,List.flatMap_nil,List.append_nil]
     exact Lib.IsBuilderF.alloc h _
    ·exact heap_alloc_new wq _
    ·exact HB.out.alloc (by omega) _
   case round =>
    obtain ⟨j,hj,rfl,hbt,hrow,hbw⟩:=hrel
    have HT':=chid hbt
    have HR':=chid hrow
    have HB':=chid hbw
    have hzr':wq.heap.size < wr.heap.size:=(Array.getElem?_eq_some_iff.1 hrow).1
    clear hbt hrow hbw
    have hln:(numsB [s,q,u,ok,n]).length≤30:=numsB_len [s,q,u,ok,n]
    have hta:=textOut_size a
    have htb:=textOut_size b
    have hda:(textOut a).data.toList.length=(textOut a).size:=by simp
    have hdb:(textOut b).data.toList.length=(textOut b).size:=by simp
    by_cases hlt:j < 2
    ·obtain ⟨x,hx⟩:∃ x,[a,b][j]?=some x:=⟨_,List.getElem?_eq_getElem (by simpa using hlt)⟩
     have hxs:x.size≤5000:=by
      have:=List.mem_of_getElem? hx
      simp at this
      rcases this with rfl | rfl
      ·exact ha
      ·exact hb
     have hl:((numsB [s,q,u,ok,n]++([a,b].take j).flatMap fun x=>(textOut x).data.toList)).length≤20000:=by
      rw [List.length_append]
      rcases (by omega:j=0∨j=1) with rfl | rfl
      ·simp;omega
      ·simp;omega
     have hcx:wr.cell? ⟨wq.heap.size,j,none⟩=some (.string x):=by
      rw [Lib.cell_of_heap HR'.out]
      have e:(#[Value.string a,.string b])[j]?=([a,b].map Value.string)[j]?:=by simp
      rw [e,List.getElem?_map,hx]
      rfl
     have CT:=chid (fun w=>text_ok x w hxs)
     have hsx:=textOut_size x
     obtain ⟨t,ht⟩:∃ t,t=textOut x:=⟨_,rfl⟩
     rw [←ht] at CT hsx
     have HTT:=chid ht
     have HX:=chid hx
     clear hx ht hta htb hda hdb hln
     go_wp2_with fail
     refine (CT.out _).mono ?_
     rintro e w2 ⟨rfl,hb2⟩
     have HT2:=chid (HT'.out.below hb2)
     have HR2:Hid (w2.heap[wq.heap.size]?=_):=(hb2.block _ hzr').trans HR'.out
     have HB2:=chid (HB'.out.trans (hb2.mono (by omega)))
     have hz2:wr.heap.size≤w2.heap.size:=hb2.size
     clear hb2 hcx
     go_wp2_with fail
     refine (writeString_any (w.heap.size+1) (w.heap.size+1) _ t w2 HT2.out (by omega) (by omega)).mono ?_
     rintro e w3 ⟨rfl,hb3,hb4,hk3⟩
     have HT3:=chid hb3
     have HR3:=chid (kept_row hk3 HR2.out (by omega) (by decide))
     have HB3:=chid (HB2.out.trans hb4)
     clear hb3 hb4 hk3
     go_wp2
     go_roundw
     case rel =>
      refine ⟨_,_,_,_,_,_,_,_,_,_,_,_,_,_,_,⟨j+1,by omega,by go_num,?_,HR3.out,HB3.out⟩,rfl⟩
      rw [take_snocC HX.out,List.flatMap_append,←List.append_assoc]
      simp only [List.flatMap_cons,List.flatMap_nil,List.append_nil]
      rw [←HTT.out]
      exact HT3.out
     case measure=>simp [intOf];omega
    ·obtain rfl:j=2:=by omega
     clear hta htb hda hdb hln hlt hj
     have HL:Hid ((numsB [s,q,u,ok,n]++([a,b].take 2).flatMap fun x=>(textOut x).data.toList)=numsB [s,q,u,ok,n]++((textOut a).data.toList++(textOut b).data.toList)):=(by simp:(numsB [s,q,u,ok,n]++([a,b].take 2).flatMap fun x=>(textOut x).data.toList)=numsB [s,q,u,ok,n]++((textOut a).data.toList++(textOut b).data.toList))
     rw [HL.out] at HT'
     go_wp2_with fail
     refine (buildString_any (w.heap.size+1) (w.heap.size+1) _ wr HT'.out (by omega)).mono ?_
     rintro e w3 ⟨rfl,hb3⟩
     have HB3:=chid (HBX.out.trans ((HB'.out.trans hb3).mono (by omega)))
     clear hb3
     go_wp2
     go_ret
     exact ⟨rfl,HB3.out⟩
end Go.Proofs.YtbmfahgekcnkaajGreatDoor
namespace Go.Proofs.YtbmfahgekcnkaajGreatDoor
open Go.RowKit
theorem conv2 (W:World) (a b:Int) :
  (convert 85 9 (.slice (some ⟨W.heap.size,0,none⟩) 2 2)).run Tryz.prog (W.alloc (.cells #[.int .u8 a,.int .u8 b] 5))
   = .ok (.string (strOfNums [a,b])) (W.alloc (.cells #[.int .u8 a,.int .u8 b] 5)):=by
 refine run_convert_bytes_arg _ 85 5 Tryz.underlying85 Tryz.underlying5 W.heap.size 0 2 2 [a,b] rfl ?_ 9 Tryz.underlying9
 intro i hi
 match i,hi with
 | 0,_=>simp
 | 1,_=>simp
def tailOut (s q u ok:Int) (a b:ByteArray) (n:Int):ByteArray:=⟨(numsB [s,q,u,ok,n]++((textOut a).data.toList++(textOut b).data.toList)).toArray⟩
theorem tailOut_eq (c:CmdD):tailOut c.session c.seq c.acked c.ok c.a c.b c.n=callOut c:=by
 apply ByteArray.ext
 apply Array.toList_inj.1
 simp [tailOut,callOut,numsB,numOut]
theorem tailOut_size (s q u ok:Int) (a b:ByteArray) (n:Int) (ha:a.size≤12) (hb:b.size≤12):(tailOut s q u ok a b n).size≤100:=by
 have h1:(tailOut s q u ok a b n).size=(numsB [s,q,u,ok,n]++((textOut a).data.toList++(textOut b).data.toList)).length:=by
  show (_:Array UInt8).size=_
  simp
 have h2:=numsB_len [s,q,u,ok,n]
 have h3:=textOut_size a
 have h4:=textOut_size b
 have h5:(textOut a).data.toList.length=(textOut a).size:=by simp
 have h6:(textOut b).data.toList.length=(textOut b).size:=by simp
 rw [h1,List.length_append,List.length_append]
 simp only [List.length_cons,List.length_nil] at h2
 omega
theorem opE_ok' {k:Int} {a b:ByteArray} {n:Int} (h:opE k a b n=0):(1≤k∧k≤6)∧a.size≤6∧b.size≤12∧0≤n∧n≤1073741824:=by
 unfold opE at h
 split at h
 ·omega
 ·split at h
  ·omega
  ·rename_i h1 h2
   have hn:nameB a=true:=by
    cases hc:nameB a with
    | true=>rfl
    | false=>exact absurd (Or.inl hc) h2
   have hn6:=(nameB_yes hn).2.1
   split at h
   ·omega
   ·split at h
    ·split at h
     ·exact ⟨by omega,hn6,by omega,by omega,by omega⟩
     ·omega
    ·split at h
     ·exact ⟨by omega,hn6,by omega,by omega,by omega⟩
     ·omega
theorem cmdE_call' {c s q u ok:Int} {a b:ByteArray} {n:Int} (h:cmdE 2 c s q u ok a b n=0):(1≤c∧c≤9)∧(∀ x∈[s,q,u,ok,n],0≤x∧x≤1099511627776)∧a.size≤12∧b.size≤12:=by
 by_cases h2:1≤c∧c≤9
 ·by_cases hc:callR s q u
  ·rw [cmdE_callYes h2 hc] at h
   obtain ⟨hk,ha,hb,hn⟩:=opE_ok' h
   obtain ⟨e1,e2,e3⟩:=hc
   refine ⟨h2,fun x hx=>?_,by omega,by omega⟩
   simp at hx
   rcases hx with rfl | rfl | rfl | rfl | rfl <;> omega
  ·rw [cmdE_callNo h2 hc] at h
   omega
 ·rw [cmdE_client (by omega) h2] at h
  omega
theorem cmdE_head' {k c s q u ok:Int} {a b:ByteArray} {n:Int} (h:cmdE k c s q u ok a b n=0):(1≤k∧k≤3)∧(1≤c∧c≤9):=by
 by_cases h1:1≤k∧k≤3
 ·by_cases h2:1≤c∧c≤9
  ·exact ⟨h1,h2⟩
  ·rw [cmdE_client h1 h2] at h;omega
 ·rw [cmdE_kind h1] at h;omega
set_option maxHeartbeats 1600000 in
theorem encode_rest (k c s q u ok:Int) (a b:ByteArray) (n:Int) (w:World) (hq:FitsC q) (ha:ShortC a) (hb:ShortC b) (hr:cmdE k c s q u ok a b n=0) (hk:k≠2) :
  Calls Tryz.prog 14 #[.agg #[.int .i64 k,.int .i64 c,.int .i64 s,.int .i64 q,.int .i64 u,.int .i64 ok,.string a,.string b,.int .i64 n]] w fun e w'=>e=.returned (.tuple #[.string (strOfNums [k,c]),.int .i64 0])∧Below w.heap.size w w':=by
 have HB:=chid (cbox w k c s q u ok a b n)
 have CC:=chid (fun w=>cmdCheck_any k c s q u ok a b n w hq ha hb)
 obtain ⟨⟨hk1,hk3⟩,hc1,hc9⟩:=cmdE_head' hr
 rw [hr] at CC
 have hk2:(k == 2)=false:=by simpa using hk
 have hcv:=conv2
 clear hr ha hb hq hk
 go_enter Tryz.func14,Tryz.ntmps14
 go_wp2_with fail
 refine (CC.out _).mono ?_
 rintro e w1 ⟨rfl,hb1⟩
 have HB1:=chid (HB.out.trans (hb1.mono (by simp)))
 have g1:w1.heap[w.heap.size]?=some (.cells #[.int .i64 k,.int .i64 c,.int .i64 s,.int .i64 q,.int .i64 u,.int .i64 ok,.string a,.string b,.int .i64 n] 51 (0,0)):=(hb1.block _ (by simp)).trans (heap_alloc_new w _)
 have s0:w1.cell? ⟨w.heap.size,0,none⟩=some (.int .i64 k):=cell_of_row w1 w.heap.size 0 _ _ _ g1
 have s1:w1.cell? ⟨w.heap.size,1,none⟩=some (.int .i64 c):=cell_of_row w1 w.heap.size 1 _ _ _ g1
 have hz:w.heap.size < w1.heap.size:=(Array.getElem?_eq_some_iff.1 g1).1
 have hzn:w.heap.size≠w1.heap.size:=by omega
 clear hb1 g1
 go_wp2
 go_ret2
 exact ⟨rfl,HB1.out.alloc HB1.out.size _⟩
set_option maxHeartbeats 1600000 in
theorem encode_call (c s q u ok:Int) (a b:ByteArray) (n:Int) (w:World) (hq:FitsC q) (ha:ShortC a) (hb:ShortC b) (hr:cmdE 2 c s q u ok a b n=0) :
  Calls Tryz.prog 14 #[.agg #[.int .i64 2,.int .i64 c,.int .i64 s,.int .i64 q,.int .i64 u,.int .i64 ok,.string a,.string b,.int .i64 n]] w fun e w'=>e=.returned (.tuple #[.string (strOfNums [2,c]++tailOut s q u ok a b n),.int .i64 0])∧Below w.heap.size w w':=by
 have HB:=chid (cbox w 2 c s q u ok a b n)
 have CC:=chid (fun w=>cmdCheck_any 2 c s q u ok a b n w hq ha hb)
 obtain ⟨⟨hc1,hc9⟩,hN,ha12,hb12⟩:=cmdE_call' hr
 have CB:=chid (fun w=>callBytes_any 2 c s q u ok a b n w hN (by omega) (by omega))
 have hsz:=tailOut_size s q u ok a b n ha12 hb12
 obtain ⟨t,ht⟩:∃ t,t=tailOut s q u ok a b n:=⟨_,rfl⟩
 have ht':(⟨(numsB [s,q,u,ok,n]++((textOut a).data.toList++(textOut b).data.toList)).toArray⟩:ByteArray)=t:=by rw [ht];rfl
 rw [ht'] at CB
 rw [←ht] at hsz ⊢
 rw [hr] at CC
 have hcv:=conv2
 have h2s:(strOfNums [2,c]).size=2:=strOfNums_size _
 have hsum:(strOfNums [2,c]).size+t.size≤102:=by omega
 clear hr ha hb hq hN ha12 hb12 ht ht' h2s
 go_enter Tryz.func14,Tryz.ntmps14
 go_wp2_with fail
 refine (CC.out _).mono ?_
 rintro e w1 ⟨rfl,hb1⟩
 have HB1:=chid (HB.out.trans (hb1.mono (by simp)))
 have g1:w1.heap[w.heap.size]?=some (.cells #[.int .i64 2,.int .i64 c,.int .i64 s,.int .i64 q,.int .i64 u,.int .i64 ok,.string a,.string b,.int .i64 n] 51 (0,0)):=(hb1.block _ (by simp)).trans (heap_alloc_new w _)
 have s0:w1.cell? ⟨w.heap.size,0,none⟩=some (.int .i64 2):=cell_of_row w1 w.heap.size 0 _ _ _ g1
 have s1:w1.cell? ⟨w.heap.size,1,none⟩=some (.int .i64 c):=cell_of_row w1 w.heap.size 1 _ _ _ g1
 have s2:w1.cell? ⟨w.heap.size,2,none⟩=some (.int .i64 s):=cell_of_row w1 w.heap.size 2 _ _ _ g1
 have s3:w1.cell? ⟨w.heap.size,3,none⟩=some (.int .i64 q):=cell_of_row w1 w.heap.size 3 _ _ _ g1
 have s4:w1.cell? ⟨w.heap.size,4,none⟩=some (.int .i64 u):=cell_of_row w1 w.heap.size 4 _ _ _ g1
 have s5:w1.cell? ⟨w.heap.size,5,none⟩=some (.int .i64 ok):=cell_of_row w1 w.heap.size 5 _ _ _ g1
 have s6:w1.cell? ⟨w.heap.size,6,none⟩=some (.string a):=cell_of_row w1 w.heap.size 6 _ _ _ g1
 have s7:w1.cell? ⟨w.heap.size,7,none⟩=some (.string b):=cell_of_row w1 w.heap.size 7 _ _ _ g1
 have s8:w1.cell? ⟨w.heap.size,8,none⟩=some (.int .i64 n):=cell_of_row w1 w.heap.size 8 _ _ _ g1
 have hz:w.heap.size < w1.heap.size:=(Array.getElem?_eq_some_iff.1 g1).1
 have hzn:w.heap.size≠w1.heap.size:=by omega
 have HB1':=chid (HB1.out.alloc HB1.out.size (.cells #[.int .u8 2,.int .u8 c] 5))
 clear hb1 g1
 go_wp2_with fail
 refine (CB.out _).mono ?_
 rintro e w2 ⟨rfl,hb2⟩
 have HB2:=chid (HB1'.out.trans (hb2.mono HB1'.out.size))
 clear hb2
 go_wp2
 go_ret2
 exact ⟨rfl,HB2.out⟩
end Go.Proofs.YtbmfahgekcnkaajGreatDoor
namespace Go.Proofs.YtbmfahgekcnkaajGreatDoor
open Go.RowKit
def u8 (l:List Int):List UInt8:=l.map fun n=>UInt8.ofNat n.toNat
theorem u8_length (l:List Int):(u8 l).length=l.length:=by simp [u8]
theorem bytes_append (l:List Int) (s:ByteArray):(strOfNums l++s).data.toList=u8 l++s.data.toList:=by
 rw [ByteArray.data_append,Array.toList_append,strOfNums_data];rfl
theorem ofNat_toNat (n:Int) (h0:0≤n) (h1:n < 256):(((UInt8.ofNat n.toNat).toNat:Nat):Int)=n:=by
 rw [UInt8.toNat_ofNat'];omega
theorem cd_enc (f:Nat):∀ (m:Int) (R:List UInt8),0≤m→m < reach f→cd (u8 (enc f m)++R)=(enc f m).length:=by
 induction f with
 | zero =>
  intro m R h0 h1
  have:=ofNat_toNat m h0 (by simp [reach] at h1;omega)
  simp [reach] at h1
  simp only [enc,u8,List.map_cons,List.map_nil,List.cons_append,List.nil_append,cd,List.length_cons,List.length_nil]
  rw [if_pos (by omega)]
 | succ f ih =>
  intro m R h0 h1
  by_cases h:m < 128
  ·have:=ofNat_toNat m h0 (by omega)
   rw [enc_small _ _ h]
   simp only [u8,List.map_cons,List.map_nil,List.cons_append,List.nil_append,cd,List.length_cons,List.length_nil]
   rw [if_pos (by omega)]
  ·have hd:=reach_div f m h0 h1
   have hi:=ih (m / 128) R hd.1 hd.2
   have hl:=(enc_length f (m / 128)).1
   have:=ofNat_toNat (m % 128+128) (by omega) (by omega)
   rw [enc_step _ _ h]
   have e:u8 ((m % 128+128) :: enc f (m / 128))++R=UInt8.ofNat (m % 128+128).toNat :: (u8 (enc f (m / 128))++R):=rfl
   rw [e]
   simp only [cd,List.length_cons]
   rw [hi,if_neg (by omega),if_neg (by omega)]
theorem dec_enc (f:Nat):∀ (m:Int),0≤m→m < reach f→dec (u8 (enc f m))=m:=by
 induction f with
 | zero =>
  intro m h0 h1
  simp [reach] at h1
  have:=ofNat_toNat m h0 (by omega)
  simp only [enc,u8,List.map_cons,List.map_nil,dec]
  omega
 | succ f ih =>
  intro m h0 h1
  by_cases h:m < 128
  ·have:=ofNat_toNat m h0 (by omega)
   rw [enc_small _ _ h]
   simp only [u8,List.map_cons,List.map_nil,dec]
   omega
  ·have hd:=reach_div f m h0 h1
   have hi:=ih (m / 128) hd.1 hd.2
   have:=ofNat_toNat (m % 128+128) (by omega) (by omega)
   rw [enc_step _ _ h]
   have e:u8 ((m % 128+128) :: enc f (m / 128))=UInt8.ofNat (m % 128+128).toNat :: u8 (enc f (m / 128)):=rfl
   rw [e]
   simp only [dec]
   rw [hi]
   omega
theorem last_enc (f:Nat):∀ (m:Int) (R:List UInt8),1≤m→m < reach f→((u8 (enc f m)++R).getD ((enc f m).length - 1) 0).toNat≠0:=by
 induction f with
 | zero =>
  intro m R h0 h1
  simp [reach] at h1
  have:=ofNat_toNat m (by omega) (by omega)
  simp only [enc,u8,List.map_cons,List.map_nil,List.cons_append,List.nil_append,List.length_cons,List.length_nil]
  simp
  omega
 | succ f ih =>
  intro m R h0 h1
  by_cases h:m < 128
  ·have:=ofNat_toNat m (by omega) (by omega)
   rw [enc_small _ _ h]
   simp only [u8,List.map_cons,List.map_nil,List.cons_append,List.nil_append,List.length_cons,List.length_nil]
   simp
   omega
  ·have hd:=reach_div f m (by omega) h1
   have hi:=ih (m / 128) R (by omega) hd.2
   have hl:=(enc_length f (m / 128)).1
   rw [enc_step _ _ h]
   have e:u8 ((m % 128+128) :: enc f (m / 128))++R=UInt8.ofNat (m % 128+128).toNat :: (u8 (enc f (m / 128))++R):=rfl
   rw [e,List.length_cons,Nat.add_sub_cancel]
   obtain ⟨q,hq⟩:∃ q,(enc f (m / 128)).length=q+1:=⟨(enc f (m / 128)).length - 1,by omega⟩
   rw [hq] at hi ⊢
   simpa using hi
theorem init_enc (f:Nat):∀ (m:Int) (j:Nat),0≤m→m < reach f→j+1 < (enc f m).length→128≤((u8 (enc f m)).getD j 0).toNat:=by
 induction f with
 | zero=>intro m j _ _ hj;simp [enc] at hj
 | succ f ih =>
  intro m j h0 h1 hj
  by_cases h:m < 128
  ·rw [enc_small _ _ h] at hj;simp at hj
  ·have hd:=reach_div f m h0 h1
   have:=ofNat_toNat (m % 128+128) (by omega) (by omega)
   rw [enc_step _ _ h] at hj ⊢
   have e:u8 ((m % 128+128) :: enc f (m / 128))=UInt8.ofNat (m % 128+128).toNat :: u8 (enc f (m / 128)):=rfl
   rw [e]
   cases j with
   | zero=>simp only [List.getD_cons_zero];omega
   | succ j=>simp only [List.getD_cons_succ];exact ih (m / 128) j hd.1 hd.2 (by simpa using hj)
theorem lt_reach5 (n:Int) (h:n≤1099511627776):n < reach 5:=by rw [reach5];omega
theorem tail_of (a b:ByteArray) (n:Nat) (h:n=a.size):(a++b).extract n (a++b).size=b:=by
 subst h
 apply ByteArray.ext
 apply Array.toList_inj.1
 rw [Lib.extract_data,ByteArray.data_append,Array.toList_append,ByteArray.size_append]
 have h1:a.data.toList.length=a.size:=by simp
 have h2:b.data.toList.length=b.size:=by simp
 rw [List.drop_left' h1]
 exact List.take_of_length_le (by omega)
end Go.Proofs.YtbmfahgekcnkaajGreatDoor
namespace Go.Proofs.YtbmfahgekcnkaajGreatDoor
open Go.RowKit
theorem bytes_assoc (a b c:ByteArray):a++b++c=a++(b++c):=by
 apply ByteArray.ext
 simp [ByteArray.data_append,Array.append_assoc]
theorem mid_of (a b c:ByteArray) (n:Nat) (h:n=a.size):(a++(b++c)).extract n (n+b.size)=b:=by
 subst h
 apply ByteArray.ext
 apply Array.toList_inj.1
 rw [Lib.extract_data,ByteArray.data_append,Array.toList_append,ByteArray.data_append,Array.toList_append]
 have h1:a.data.toList.length=a.size:=by simp
 have h2:b.data.toList.length=b.size:=by simp
 rw [List.drop_left' h1,Nat.add_sub_cancel_left]
 exact List.take_left' h2
end Go.Proofs.YtbmfahgekcnkaajGreatDoor
namespace Go.Proofs.YtbmfahgekcnkaajGreatDoor
open Go.RowKit
theorem cut_lt (p t:ByteArray) (k:Nat) (h:k≤p.size):(p++t).extract 0 k=p.extract 0 k:=by
 apply bytes_ext
 rw [Lib.extract_data,Lib.extract_data,ByteArray.data_append,Array.toList_append]
 have:=size_list p
 simp only [List.drop_zero,Nat.sub_zero]
 rw [List.take_append_of_le_length (by omega)]
theorem cut_ge (p t:ByteArray) (k:Nat) (h:p.size≤k):(p++t).extract 0 k=p++t.extract 0 (k - p.size):=by
 apply bytes_ext
 rw [Lib.extract_data,ByteArray.data_append,Array.toList_append,ByteArray.data_append,Array.toList_append,Lib.extract_data]
 have:=size_list p
 simp only [List.drop_zero,Nat.sub_zero]
 rw [List.take_append,List.take_of_length_le (by omega),this]
theorem numR_enc (n:Int) (s:ByteArray) (h0:0≤n) (h1:n≤1099511627776):numR (strOfNums (encN n)++s)=(n,(encN n).length,0):=by
 have hr:=lt_reach5 n h1
 have hc:cd (strOfNums (encN n)++s).data.toList=(encN n).length:=by rw [bytes_append];exact cd_enc 5 n _ h0 hr
 have hl:=encN_length n
 have hf:(strOfNums (encN n)++s).data.toList.take (cd (strOfNums (encN n)++s).data.toList)=u8 (encN n):=by
  rw [hc,bytes_append]
  exact List.take_left' (u8_length _)
 have hd:dec ((strOfNums (encN n)++s).data.toList.take (cd (strOfNums (encN n)++s).data.toList))=n:=by rw [hf];exact dec_enc 5 n h0 hr
 have hz:¬ (1 < cd (strOfNums (encN n)++s).data.toList∧((strOfNums (encN n)++s).data.toList.getD (cd (strOfNums (encN n)++s).data.toList - 1) 0).toNat=0):=by
  rw [hc]
  rintro ⟨h2,h3⟩
  by_cases hn:n=0
  ·subst hn;exact absurd h2 (by decide)
  ·rw [bytes_append] at h3
   exact last_enc 5 n _ (by omega) hr h3
 unfold numR
 rw [if_neg (by omega),if_neg (by intro h;rcases h with h | h;omega;exact hz h),if_neg (by omega),hd,hc]
theorem numR_cut (n:Int) (k:Nat) (h0:0≤n) (h1:n≤1099511627776) (hk:k < (encN n).length) (s:ByteArray) (hs:s.data.toList=(u8 (encN n)).take k):numR s=(0,0,5):=by
 have hc:cd s.data.toList=0:=by
  refine cd_miss _ fun j hj=>?_
  rw [hs] at hj ⊢
  have hjk:j < k:=by rw [List.length_take] at hj;omega
  have hi:=init_enc 5 n j h0 (lt_reach5 n h1) (by show j+1 < (encN n).length;omega)
  have e:((u8 (encN n)).take k).getD j 0=(u8 (enc 5 n)).getD j 0:=by
   simp [List.getD_eq_getElem?_getD,hjk,encN]
  rw [e];exact hi
 unfold numR
 rw [if_pos hc]
theorem numOut_cut (n:Int) (k:Nat) (hk:k < (numOut n).size) (h0:0≤n) (h1:n≤1099511627776):numR ((numOut n).extract 0 k)=(0,0,5):=by
 rw [nsize] at hk
 refine numR_cut n k h0 h1 hk _ ?_
 rw [Lib.extract_data]
 unfold numOut
 rw [strOfNums_data]
 simp [u8]
structure Part {α:Type} (rd:ByteArray→α × ByteArray × Int) (p:ByteArray) (x:α):Prop where
 all:∀ s,rd (p++s)=(x,s,0)
 cut:∀ k,k < p.size→(rd (p.extract 0 k)).2.2=5
theorem part_num (n:Int) (h0:0≤n) (h1:n≤1099511627776):Part readN (numOut n) n:=by
 refine ⟨fun s=>?_,fun k hk=>?_⟩
 ·unfold readN
  unfold numOut
  rw [numR_enc n s h0 h1]
  simp only [if_true]
  rw [tail_of _ s (encN n).length (strOfNums_size _).symm]
 ·unfold readN
  rw [numOut_cut n k hk h0 h1]
  simp
theorem part_text (u:ByteArray) (hu:u.size≤5000):Part readT (textOut u) u:=by
 have hz:(numOut (u.size:Int)).size=(encN (u.size:Int)).length:=nsize _
 have hto:textOut u=numOut (u.size:Int)++u:=rfl
 refine ⟨fun s=>?_,fun k hk=>?_⟩
 ·have e:textOut u++s=strOfNums (encN (u.size:Int))++(u++s):=by rw [hto,bytes_assoc];rfl
  have hn:=numR_enc (u.size:Int) (u++s) (by omega) (by omega)
  have e1:=mid_of (strOfNums (encN (u.size:Int))) u s (encN (u.size:Int)).length (strOfNums_size _).symm
  have e2:(strOfNums (encN (u.size:Int))++(u++s)).extract ((encN (u.size:Int)).length+u.size) (strOfNums (encN (u.size:Int))++(u++s)).size=s:=by
   have:=tail_of (strOfNums (encN (u.size:Int))++u) s ((encN (u.size:Int)).length+u.size) (by rw [ByteArray.size_append,strOfNums_size])
   rw [bytes_assoc] at this
   exact this
  have hsz:(strOfNums (encN (u.size:Int))++(u++s)).size=(encN (u.size:Int)).length+(u.size+s.size):=by
   rw [ByteArray.size_append,ByteArray.size_append,strOfNums_size]
  rw [e]
  unfold readT
  rw [hn]
  simp only [Int.toNat_natCast]
  rw [if_neg (by simp),if_neg (by omega),if_neg (by rw [hsz];omega),e1,e2]
 ·have hsz2:(textOut u).size=(encN (u.size:Int)).length+u.size:=by rw [hto,ByteArray.size_append,hz]
  by_cases h:k < (numOut (u.size:Int)).size
  ·rw [hto,cut_lt _ _ _ (by omega)]
   unfold readT
   rw [numOut_cut _ k h (by omega) (by omega)]
   simp
  ·rw [hto,cut_ge _ _ _ (by omega)]
   have hn:numR (numOut (u.size:Int)++u.extract 0 (k - (numOut (u.size:Int)).size))=_:=numR_enc (u.size:Int) (u.extract 0 (k - (numOut (u.size:Int)).size)) (by omega) (by omega)
   have hs3:(numOut (u.size:Int)++u.extract 0 (k - (numOut (u.size:Int)).size)).size=k:=by
    rw [ByteArray.size_append,ByteArray.size_extract,hz];omega
   unfold readT
   rw [hn,hs3]
   simp only
   rw [if_neg (by simp),if_neg (by omega),if_pos (by omega)]
theorem stepN_all {p:ByteArray} {x:Int} (h:Part readN p x) (s:ByteArray):stepN (p++s,0)=(x,s,0):=by unfold stepN;rw [if_pos rfl];exact h.all s
theorem stepT_all {p:ByteArray} {x:ByteArray} (h:Part readT p x) (s:ByteArray):stepT (p++s,0)=(x,s,0):=by unfold stepT;rw [if_pos rfl];exact h.all s
structure CallOk (c:CmdD):Prop where
 s:0≤c.session∧c.session≤1099511627776
 q:0≤c.seq∧c.seq≤1099511627776
 u:0≤c.acked∧c.acked≤1099511627776
 k:0≤c.ok∧c.ok≤1099511627776
 n:0≤c.n∧c.n≤1099511627776
 a:c.a.size≤12
 b:c.b.size≤12
theorem cmdE_head {c:CmdD} (h:c.err=0):(1≤c.kind∧c.kind≤3)∧(1≤c.client∧c.client≤9):=cmdE_head' h
theorem cmdE_call {c:CmdD} (h:c.err=0) (h2:c.kind=2):CallOk c:=by
 unfold CmdD.err at h
 rw [h2] at h
 obtain ⟨-,hN,ha,hb⟩:=cmdE_call' h
 exact ⟨hN _ (by simp),hN _ (by simp),hN _ (by simp),hN _ (by simp),hN _ (by simp),ha,hb⟩
theorem cmdE_other {c:CmdD} (h:c.err=0) (h2:c.kind≠2):c=⟨c.kind,c.client,0,0,0,0,⟨#[]⟩,⟨#[]⟩,0⟩:=by
 obtain ⟨hk,hc⟩:=cmdE_head h
 by_cases h3:c.session=0∧c.seq=0∧c.acked=0∧c.ok=0∧c.a.size=0∧c.b.size=0∧c.n=0
 ·obtain ⟨k,cl,s,q,u,ok,a,b,n⟩:=c
  simp only at h3 ⊢
  obtain ⟨rfl,rfl,rfl,rfl,ha,hb,rfl⟩:=h3
  rw [size_zero ha,size_zero hb]
 ·unfold CmdD.err at h
  rw [cmdE_restNo hk hc h2 h3] at h
  omega
theorem decCall_all (k c:Int) (x:CmdD) (h:CallOk x) (t:ByteArray):decCall k c (callOut x++t)=(⟨k,c,x.session,x.seq,x.acked,x.ok,x.a,x.b,x.n⟩,t,0):=by
 unfold decCall callOut
 simp only [bytes_assoc]
 rw [stepN_all (part_num x.session h.s.1 h.s.2)]
 simp only
 rw [stepN_all (part_num x.seq h.q.1 h.q.2)]
 simp only
 rw [stepN_all (part_num x.acked h.u.1 h.u.2)]
 simp only
 rw [stepN_all (part_num x.ok h.k.1 h.k.2)]
 simp only
 rw [stepN_all (part_num x.n h.n.1 h.n.2)]
 simp only
 rw [stepT_all (part_text x.a (by have:=h.a;omega))]
 simp only
 rw [stepT_all (part_text x.b (by have:=h.b;omega))]
theorem head_bytes (k c:Int) (t:ByteArray) (hk:0≤k∧k < 256) (hc:0≤c∧c < 256) :
  ((((strOfNums [k,c]++t).data.toList.getD 0 0).toNat:Int)=k)∧((((strOfNums [k,c]++t).data.toList.getD 1 0).toNat:Int)=c)∧(strOfNums [k,c]++t).extract 2 (strOfNums [k,c]++t).size=t:=by
 refine ⟨?_,?_,tail_of _ t 2 (strOfNums_size [k,c]).symm⟩
 ·rw [bytes_append]
  simp only [u8,List.map_cons,List.map_nil,List.cons_append,List.getD_cons_zero]
  exact ofNat_toNat k hk.1 hk.2
 ·rw [bytes_append]
  simp only [u8,List.map_cons,List.map_nil,List.cons_append,List.getD_cons_succ,List.getD_cons_zero]
  exact ofNat_toNat c hc.1 hc.2
theorem decBody_all (c:CmdD) (h:c.err=0) (t:ByteArray):decBody (cmdOut c++t)=(c,t,0):=by
 obtain ⟨hk,hc⟩:=cmdE_head h
 by_cases h2:c.kind=2
 ·obtain ⟨e0,e1,e2⟩:=head_bytes c.kind c.client (callOut c++t) (by omega) (by omega)
  unfold cmdOut
  rw [if_pos h2,bytes_assoc]
  unfold decBody
  rw [e0,e1,e2,if_pos h2,decCall_all _ _ c (cmdE_call h h2) t]
 ·obtain ⟨e0,e1,e2⟩:=head_bytes c.kind c.client t (by omega) (by omega)
  unfold cmdOut
  rw [if_neg h2]
  unfold decBody
  rw [e0,e1,e2,if_neg h2]
  rw [←cmdE_other h h2]
theorem cmdOut_size (c:CmdD) (h:c.err=0):2≤(cmdOut c).size∧(cmdOut c).size≤100:=by
 have h0:(strOfNums [c.kind,c.client]).size=2:=strOfNums_size _
 unfold cmdOut
 split
 ·rename_i h2
  have hc:=cmdE_call h h2
  have h1:=numOut_le c.session
  have h2:=numOut_le c.seq
  have h3:=numOut_le c.acked
  have h4:=numOut_le c.ok
  have h5:=numOut_le c.n
  have h6:=textOut_le c.a 12 hc.a
  have h7:=textOut_le c.b 12 hc.b
  unfold callOut
  simp only [ByteArray.size_append]
  omega
 ·omega
theorem dec_all (c:CmdD) (h:c.err=0):decE (cmdOut c)=0∧decL (cmdOut c)=c:=by
 have hb:=decBody_all c h ⟨#[]⟩
 have hz:=cmdOut_size c h
 have e:cmdOut c++⟨#[]⟩=cmdOut c:=by apply ByteArray.ext;simp
 rw [e] at hb
 have h0:decE (cmdOut c)=0:=by
  unfold decE
  rw [hb,if_neg (by omega),if_neg (by omega)]
  simp only
  rw [if_neg (by unfold endE;rw [if_neg (fun hh=>hh.2 rfl)];simp)]
  exact h
 refine ⟨h0,?_⟩
 unfold decL
 rw [if_pos h0,hb]
end Go.Proofs.YtbmfahgekcnkaajGreatDoor
namespace Go.Proofs.YtbmfahgekcnkaajGreatDoor
open Go.RowKit Go.Maps
theorem err_fits {x:CmdD} (h:x.err=0):FitsC x.seq∧ShortC x.a∧ShortC x.b:=by
 by_cases h2:x.kind=2
 ·have hc:=cmdE_call h h2
  have hq:=hc.q
  have ha:=hc.a
  have hb:=hc.b
  refine ⟨⟨by omega,by omega⟩,?_,?_⟩
  ·show x.a.size≤_;omega
  ·show x.b.size≤_;omega
 ·rw [cmdE_other h h2]
  exact ⟨⟨by simp,by simp⟩,Nat.zero_le _,Nat.zero_le _⟩
theorem encode_ok (x:CmdD) (w:World) (h:x.err=0) :
  Calls Tryz.prog 14 #[.agg #[.int .i64 x.kind,.int .i64 x.client,.int .i64 x.session,.int .i64 x.seq,.int .i64 x.acked,.int .i64 x.ok,.string x.a,.string x.b,.int .i64 x.n]] w fun e w'=>e=.returned (.tuple #[.string (cmdOut x),.int .i64 0])∧Below w.heap.size w w':=by
 obtain ⟨hq,ha,hb⟩:=err_fits h
 by_cases h2:x.kind=2
 ·have e:cmdOut x=strOfNums [2,x.client]++tailOut x.session x.seq x.acked x.ok x.a x.b x.n:=by unfold cmdOut;rw [if_pos h2,h2,tailOut_eq]
  have h':=h
  unfold CmdD.err at h'
  rw [h2] at h' ⊢
  rw [e]
  exact encode_call x.client x.session x.seq x.acked x.ok x.a x.b x.n w hq ha hb h'
 ·have e:cmdOut x=strOfNums [x.kind,x.client]:=by unfold cmdOut;rw [if_neg h2]
  rw [e]
  exact encode_rest x.kind x.client x.session x.seq x.acked x.ok x.a x.b x.n w hq ha hb h h2
theorem crow_cells {w:World} {base:Nat} {g n cap i:Nat} {ps:List CmdD} {x:CmdD} (h:w.ownsRow base 51 9 (.slice (some ⟨g,0,none⟩) n cap) n (flatC ps)) (hx:ps[i]?=some x) (hn:n=ps.length) (j:Nat) (hj:j < 9) :
  w.cell? ⟨g,i*9+j,none⟩=(cmdCells x)[j]?:=by
 have hi:i < ps.length:=(List.getElem?_eq_some_iff.1 hx).1
 rw [h.cellAt (i*9+j) (by omega),flatC_at hx j hj]
end Go.Proofs.YtbmfahgekcnkaajGreatDoor
namespace Go.Proofs.YtbmfahgekcnkaajGreatDoor
open Go.RowKit
set_option maxRecDepth 100000 in
set_option maxHeartbeats 3200000 in
theorem entries_any (v:Value) (out:List CmdD) (w:World) (base:Nat) (hrow:w.ownsRow base 51 9 v out.length (flatC out)) (hok:∀ x∈out,x.err=0) (hlen:out.length≤1000) :
  Calls Tryz.prog 4 #[v] w fun e w'=>∃ vo,e=.returned vo∧w'.ownsRow w.heap.size 9 1 vo (out.map cmdOut).length (textCells (out.map cmdOut))∧Below w.heap.size w w':=by
 obtain ⟨i0,hi0,hz0,hz1,hz2⟩:=info_parts Tryz.infoText
 have HROW:=ghid hrow
 have HOK:=ghid hok
 obtain ⟨oo,oc,rfl⟩:=crow_shape hrow
 clear hrow hok
 go_enter Tryz.func4,Tryz.ntmps4
 go_wp2
 go_loopw [3,10] (fun o i wr=>∃ k:Nat,k≤out.length∧i=.int .i64 k∧wr.ownsRow w.heap.size 9 1 o k (textCells ((out.take k).map cmdOut))∧Below w.heap.size w wr) (fun _ i _=>out.length - (intOf i).toNat)
 case atStart=>exact ⟨0,Nat.zero_le _,rfl,World.ownsRow_nil _ _ _ _,Below.refl _ _⟩
 case round =>
  obtain ⟨k,hk,rfl,hown,hb⟩:=hrel
  by_cases hlt:k < out.length
  ·obtain ⟨x,hx⟩:∃ x,out[k]?=some x:=⟨_,List.getElem?_eq_getElem hlt⟩
   have hxe:=HOK.out x (List.mem_of_getElem? hx)
   have hsz:=cmdOut_size x hxe
   have HTK:Hid ((out.take (k+1)).map cmdOut=(out.take k).map cmdOut++[cmdOut x]):=by
    unfold Hid
    rw [List.take_succ_eq_append_getElem hlt,List.map_append,(List.getElem?_eq_some_iff.1 hx).2]
    rfl
   have hrr:=crow_below HROW.out (show Below w.heap.size w wr from hb)
   obtain ⟨g0,c0,e0,-⟩:∃ g c,(Value.slice oo out.length oc)=.slice (some ⟨g,0,none⟩) out.length c∧True:=by
    rcases hrr.2 with ⟨e,hn⟩ | ⟨g,cap,cur,e,_⟩
    ·omega
    ·exact ⟨g,cap,e,trivial⟩
   cases e0
   have hcell:=crow_cells hrr hx rfl
   have d0:=hcell 0 (by omega)
   have d1:=hcell 1 (by omega)
   have d2:=hcell 2 (by omega)
   have d3:=hcell 3 (by omega)
   have d4:=hcell 4 (by omega)
   have d5:=hcell 5 (by omega)
   have d6:=hcell 6 (by omega)
   have d7:=hcell 7 (by omega)
   have d8:=hcell 8 (by omega)
   simp only [cmdCells,List.getElem?_cons_zero,List.getElem?_cons_succ,Nat.add_zero] at d0 d1 d2 d3 d4 d5 d6 d7 d8
   have CE:=ghid (fun w=>encode_ok x w hxe)
   obtain ⟨t,ht⟩:∃ t,t=cmdOut x:=⟨_,rfl⟩
   rw [←ht] at CE HTK hsz
   obtain ⟨xk,xc,xs,xq,xu,xo,xa,xb,xn⟩:=x
   simp only at d0 d1 d2 d3 d4 d5 d6 d7 d8 CE
   have HO:=ghid hown
   have HB:=ghid hb
   have hzr:=hb.size
   have hltI:(k:Int) < (out.length:Int):=by omega
   obtain ⟨so,sc,rfl⟩:=grow_shape hown
   clear hx hxe hcell hrr ht hown hb
   go_wp2_with fail
   refine (CE.out _).mono ?_
   rintro e w2 ⟨rfl,hb2⟩
   have hb2':Below wr.heap.size wr w2:=((Below.refl wr.heap.size wr).alloc (Nat.le_refl _) (.cells #[.int .i64 xk,.int .i64 xc,.int .i64 xs,.int .i64 xq,.int .i64 xu,.int .i64 xo,.string xa,.string xb,.int .i64 xn] 51)).trans (hb2.mono (by simp))
   have HO2:=ghid (grow_below HO.out hb2' (Nat.le_refl _))
   have HB2:=ghid (HB.out.trans (hb2'.mono hzr))
   have hzz:w.heap.size≤w2.heap.size:=HB2.out.size
   clear hb2 hb2' d0 d1 d2 d3 d4 d5 d6 d7 d8
   go_wp2_with (at_builtin;refine wpList_append_lies _ rfl (.tmp 21) (.tmp 23) 23 rfl w.heap.size 9 i0 _ 1 16 Tryz.underlying23 hi0 hz0 hz1 hz2 rfl (by decide) (.slice so k sc) k (textCells ((out.take k).map cmdOut)) rfl (HO2.out.alloc _) ⟨w2.heap.size,0,none⟩ 1 1 [.string t] rfl rfl (World.news_of_block (heap_alloc_new w2 _)) (by intro u hu;simp at hu;subst hu;rfl) (by omega) (by unfold maxLen;omega) (by omega) (by simp;omega) (w2.heap.size+1) (by simp) ?_)
   intro gn cn w3 hown3 hg3 hat3 hlt3
   have HO3:Hid (w3.ownsRow w.heap.size 9 1 (.slice (some ⟨gn,0,none⟩) (k+1) cn) (k+1) (textCells ((out.take (k+1)).map cmdOut))):=by
    unfold Hid
    rw [HTK.out,textCells_snoc]
    simpa [List.map_take] using hown3
   have HB3:=ghid ((HB2.out.alloc hzz (.cells #[.string t] 9)).grown hg3 (by simp;omega) (fun j hj=>(HO2.out.lt j hj).1))
   clear hown3 hg3 hat3 hlt3
   go_wp2
   go_roundw
   case rel=>exact ⟨k+1,by omega,by go_num,HO3.out,HB3.out⟩
   case measure=>simp [intOf];omega
  ·have hkl:k=out.length:=by omega
   subst hkl
   rw [List.take_length] at hown
   have HO:=ghid hown
   obtain ⟨so,sc,rfl⟩:=grow_shape hown
   have HB:=ghid hb
   clear hown hb
   go_wp2
   go_ret
   exact ⟨_,rfl,by rw [List.length_map];exact HO.out,HB.out⟩
end Go.Proofs.YtbmfahgekcnkaajGreatDoor
namespace Go.Proofs.YtbmfahgekcnkaajGreatDoor
open Go.RowKit
theorem goodM_nil:GoodM ⟨0,[],[],[]⟩:=⟨⟨by simp,by simp,by simp,fun x hx=>(by cases hx),List.Pairwise.nil⟩,GoodL.nil,⟨by simp,fun x hx=>(by cases hx),fun i j x y _ hx=>(by simp at hx)⟩⟩
end Go.Proofs.YtbmfahgekcnkaajGreatDoor
namespace Go.Proofs.YtbmfahgekcnkaajGreatDoor
open Go.RowKit
def sealGo (l:List UInt8):Int × Int :=
 l.foldl (fun p c=>((p.1+c.toNat) % 65521,(p.2+(p.1+c.toNat) % 65521) % 65521)) (1,0)
theorem sealGo_snoc (l:List UInt8) (c:UInt8) :
  sealGo (l++[c])=(((sealGo l).1+c.toNat) % 65521,((sealGo l).2+((sealGo l).1+c.toNat) % 65521) % 65521):=by
 simp [sealGo]
theorem sealFold_bd (l:List UInt8):∀ p:Int × Int,(0≤p.1∧p.1 < 65521∧0≤p.2∧p.2 < 65521) →
  let q:=l.foldl (fun p c=>((p.1+(c.toNat:Int)) % 65521,(p.2+(p.1+(c.toNat:Int)) % 65521) % 65521)) p
  0≤q.1∧q.1 < 65521∧0≤q.2∧q.2 < 65521:=by
 induction l with
 | nil=>intro p h;exact h
 | cons c l ih=>intro p h;simp only [List.foldl_cons];exact ih _ (by simp;omega)
theorem sealGo_bd (l:List UInt8):0≤(sealGo l).1∧(sealGo l).1 < 65521∧0≤(sealGo l).2∧(sealGo l).2 < 65521 :=
 sealFold_bd l (1,0) (by simp)
theorem take_snoc (s:ByteArray) (k:Nat) (h:k < s.size):s.data.toList.take (k+1)=s.data.toList.take k++[s[k]]:=by
 rw [List.take_succ_eq_append_getElem (by simpa using h)];rfl
theorem take_all (s:ByteArray) (k:Nat) (h:s.size≤k):s.data.toList.take k=s.data.toList :=
 List.take_of_length_le (by simpa using h)
end Go.Proofs.YtbmfahgekcnkaajGreatDoor
namespace Go.Proofs.YtbmfahgekcnkaajGreatDoor
open Go.RowKit
def sealOut (s:ByteArray):ByteArray :=
 strOfNums [(sealGo s.data.toList).2 / 256,(sealGo s.data.toList).2 % 256,(sealGo s.data.toList).1 / 256,(sealGo s.data.toList).1 % 256]
theorem sealOut_size (s:ByteArray):(sealOut s).size=4:=strOfNums_size _
end Go.Proofs.YtbmfahgekcnkaajGreatDoor
namespace Go.Proofs.YtbmfahgekcnkaajGreatDoor
open Go.RowKit
def catB (xs:List ByteArray):ByteArray:=xs.foldr (fun a b=>a++b) ⟨#[]⟩
theorem catB_nil:catB []=⟨#[]⟩:=rfl
theorem catB_cons (a:ByteArray) (xs:List ByteArray):catB (a :: xs)=a++catB xs:=rfl
theorem nilB (t:ByteArray):(⟨#[]⟩:ByteArray)++t=t:=by apply bytes_ext;simp
theorem bnil (t:ByteArray):t++(⟨#[]⟩:ByteArray)=t:=by apply bytes_ext;simp
theorem catB_append (xs ys:List ByteArray):catB (xs++ys)=catB xs++catB ys:=by
 induction xs with
 | nil=>rw [List.nil_append,catB_nil,nilB]
 | cons a xs ih=>rw [List.cons_append,catB_cons,catB_cons,ih,ByteArray.append_assoc]
theorem catB_snoc (xs:List ByteArray) (a:ByteArray):catB (xs++[a])=catB xs++a:=by rw [catB_append,catB_cons,catB_nil,bnil]
theorem catB_size {α:Type} (out:α→ByteArray) (m:Nat) (xs:List α) (h:∀ x∈xs,(out x).size≤m):(catB (xs.map out)).size≤xs.length*m:=by
 induction xs with
 | nil=>exact Nat.zero_le _
 | cons x xs ih =>
  have h1:=h x (by simp)
  have h2:=ih (fun y hy=>h y (by simp [hy]))
  rw [List.map_cons,catB_cons,ByteArray.size_append,List.length_cons,Nat.add_mul]
  omega
def lockOut (k:LockD):ByteArray:=textOut k.name++(numOut k.holder++(numOut k.fence++(numOut k.line.length++catB (k.line.map numOut))))
def pairOut (p:PairD):ByteArray:=textOut p.name++(textOut p.value++numOut p.version)
def keptOut (k:KeptD):ByteArray:=numOut k.seq++(numOut k.code++(numOut k.n++textOut k.text))
def sessOut (x:SessD):ByteArray:=numOut x.client++(numOut x.id++(numOut x.acked++(numOut x.last++(numOut x.replies.length++catB (x.replies.map keptOut)))))
def snapBody (s:StateD):ByteArray :=
 numOut s.index++(numOut s.locks.length++(catB (s.locks.map lockOut)++(numOut s.pairs.length++(catB (s.pairs.map pairOut)++(numOut s.sess.length++catB (s.sess.map sessOut))))))
def snapOut (s:StateD):ByteArray:=snapBody s++sealOut (snapBody s)
theorem lockOut_le {k:LockD} (h:LockOk k):(lockOut k).size≤60:=by
 have hn:=(nameB_yes h.name).2.1
 have h1:=textOut_le k.name 6 hn
 have h2:=numOut_le k.holder
 have h3:=numOut_le k.fence
 have h4:=numOut_le (k.line.length:Int)
 have h5:=catB_size numOut 6 k.line (fun x _=>numOut_le x)
 have h6:=h.line.len
 unfold lockOut
 simp only [ByteArray.size_append]
 omega
theorem pairOut_le {p:PairD} (h:nameB p.name=true∧p.value.size≤12∧1≤p.version∧p.version≤1073741824):(pairOut p).size≤40:=by
 have hn:=(nameB_yes h.1).2.1
 have h1:=textOut_le p.name 6 hn
 have h2:=textOut_le p.value 12 h.2.1
 have h3:=numOut_le p.version
 unfold pairOut
 simp only [ByteArray.size_append]
 omega
theorem keptOut_le {k:KeptD} (hk:keptB k=true):(keptOut k).size≤40:=by
 have hr:=replyB_iff.1 hk
 have h1:=numOut_le k.seq
 have h2:=numOut_le k.code
 have h3:=numOut_le k.n
 have h4:=textOut_le k.text 12 hr.2.2.2.2
 unfold keptOut
 simp only [ByteArray.size_append]
 omega
theorem sessOut_le {i:Int} {x:SessD} (h:Fine i x):(sessOut x).size≤200:=by
 have hl:=sformB_len h.form
 have hm:=formFrom_mem h.form
 have h1:=numOut_le x.client
 have h2:=numOut_le x.id
 have h3:=numOut_le x.acked
 have h4:=numOut_le x.last
 have h5:=numOut_le (x.replies.length:Int)
 have h6:=catB_size keptOut 40 x.replies (fun k hk=>keptOut_le (hm k hk).2.2)
 unfold sessOut
 simp only [ByteArray.size_append]
 omega
theorem snapBody_le {s:StateD} (h:GoodM s):(snapBody s).size≤2000:=by
 have hl:=h.locks.len
 have hp:=h.pairs.len
 have hs:=h.sess.len
 have h1:=numOut_le s.index
 have h2:=numOut_le (s.locks.length:Int)
 have h3:=numOut_le (s.pairs.length:Int)
 have h4:=numOut_le (s.sess.length:Int)
 have h5:=catB_size lockOut 60 s.locks (fun k hk=>lockOut_le (h.locks.each k hk).1)
 have h6:=catB_size pairOut 40 s.pairs (fun k hk=>pairOut_le (h.pairs.each k hk))
 have h7:=catB_size sessOut 200 s.sess (fun k hk=>sessOut_le (h.sess.fine k hk))
 unfold snapBody
 simp only [ByteArray.size_append]
 omega
theorem snapOut_size (s:StateD):(snapOut s).size=(snapBody s).size+4:=by unfold snapOut;rw [ByteArray.size_append,sealOut_size]
theorem snapOut_body (s:StateD):(snapOut s).extract 0 ((snapOut s).size - 4)=snapBody s∧(snapOut s).extract ((snapOut s).size - 4) (snapOut s).size=sealOut (snapBody s):=by
 have hz:=snapOut_size s
 rw [hz,Nat.add_sub_cancel]
 unfold snapOut
 constructor
 ·apply bytes_ext
  simp only [ByteArray.data_extract,ByteArray.data_append,Array.toList_extract,Array.toList_append,List.extract_eq_take_drop,List.drop_zero,Nat.sub_zero]
  rw [List.take_append_of_le_length (by simp),List.take_of_length_le (by simp)]
 ·apply bytes_ext
  have h4:=sealOut_size (snapBody s)
  simp only [ByteArray.data_extract,ByteArray.data_append,Array.toList_extract,Array.toList_append,List.extract_eq_take_drop]
  rw [List.drop_append_of_le_length (by simp),List.drop_of_length_le (by simp),List.nil_append,List.take_of_length_le (by rw [size_list];omega)]
end Go.Proofs.YtbmfahgekcnkaajGreatDoor
namespace Go.Proofs.YtbmfahgekcnkaajGreatDoor
open Go.RowKit
def stepM (most:Int) (r:ByteArray × Int):Int × ByteArray × Int :=
 if (stepN r).2.2=0 then (if most < (stepN r).1 then (0,(stepN r).2.1,1) else stepN r) else (0,(stepN r).2)
def rowR {α:Type} (f:ByteArray × Int→α × ByteArray × Int):Nat→ByteArray × Int→List α × ByteArray × Int
 | 0,r=>([],r)
 | n+1,r=>((f r).1 :: (rowR f n (f r).2).1,(rowR f n (f r).2).2)
theorem rowR_snoc {α:Type} (f:ByteArray × Int→α × ByteArray × Int) (n:Nat) (r:ByteArray × Int):rowR f (n+1) r=((rowR f n r).1++[(f (rowR f n r).2).1],(f (rowR f n r).2).2):=by
 induction n generalizing r with
 | zero=>rfl
 | succ n ih =>
  have e:=ih (f r).2
  show ((f r).1 :: (rowR f (n+1) (f r).2).1,(rowR f (n+1) (f r).2).2)=_
  rw [e]
  rfl
theorem rowR_length {α:Type} (f:ByteArray × Int→α × ByteArray × Int) (n:Nat) (r:ByteArray × Int):(rowR f n r).1.length=n:=by
 induction n generalizing r with
 | zero=>rfl
 | succ n ih=>simp [rowR,ih]
theorem rowR_all {α:Type} {f:ByteArray × Int→α × ByteArray × Int} {out:α→ByteArray} (xs:List α) (h:∀ x∈xs,∀ t,f (out x++t,0)=(x,t,0)) (t:ByteArray):rowR f xs.length (catB (xs.map out)++t,0)=(xs,t,0):=by
 induction xs with
 | nil=>rw [List.map_nil,catB_nil,nilB];rfl
 | cons x xs ih =>
  rw [List.length_cons,List.map_cons,catB_cons,ByteArray.append_assoc]
  unfold rowR
  rw [h x (by simp),ih (fun y hy=>h y (by simp [hy]))]
def lockR (r:ByteArray × Int):LockD × ByteArray × Int :=
 let a:=stepT r
 let b:=stepN a.2
 let c:=stepN b.2
 let m:=stepM 3 c.2
 let l:=rowR stepN m.1.toNat m.2
 (⟨a.1,b.1,c.1,l.1⟩,l.2)
def pairR (r:ByteArray × Int):PairD × ByteArray × Int :=
 let a:=stepT r
 let b:=stepT a.2
 let c:=stepN b.2
 (⟨a.1,b.1,c.1⟩,c.2)
def keptR (r:ByteArray × Int):KeptD × ByteArray × Int :=
 let a:=stepN r
 let b:=stepN a.2
 let c:=stepN b.2
 let d:=stepT c.2
 (⟨a.1,b.1,c.1,d.1⟩,d.2)
def sessR (r:ByteArray × Int):SessD × ByteArray × Int :=
 let a:=stepN r
 let b:=stepN a.2
 let c:=stepN b.2
 let d:=stepN c.2
 let m:=stepM 4 d.2
 let l:=rowR keptR m.1.toNat m.2
 (⟨a.1,b.1,c.1,d.1,l.1⟩,l.2)
def snapR (r:ByteArray × Int):StateD × ByteArray × Int :=
 let a:=stepN r
 let m:=stepM 5 a.2
 let l:=rowR lockR m.1.toNat m.2
 let n:=stepM 5 l.2
 let p:=rowR pairR n.1.toNat n.2
 let k:=stepM 4 p.2
 let x:=rowR sessR k.1.toNat k.2
 (⟨a.1,l.1,p.1,x.1⟩,x.2)
def snapE (s:ByteArray):Int :=
 if 5000 < s.size then 1 else if s.size < 4 then 5 else if sealOut (s.extract 0 (s.size - 4))≠s.extract (s.size - 4) s.size then 15
 else if endE (snapR (s.extract 0 (s.size - 4),0)).2≠0 then endE (snapR (s.extract 0 (s.size - 4),0)).2 else checkM (snapR (s.extract 0 (s.size - 4),0)).1
def snapL (s:ByteArray):StateD:=if snapE s=0 then (snapR (s.extract 0 (s.size - 4),0)).1 else ⟨0,[],[],[]⟩
theorem num_all {n:Int} (h0:0≤n) (h1:n≤1099511627776) (t:ByteArray):stepN (numOut n++t,0)=(n,t,0):=stepN_all (part_num n h0 h1) t
theorem text_all {u:ByteArray} (h:u.size≤5000) (t:ByteArray):stepT (textOut u++t,0)=(u,t,0):=stepT_all (part_text u h) t
theorem many_all {n:Nat} {most:Int} (h:(n:Int)≤most) (hm:most≤1000) (t:ByteArray):stepM most (numOut n++t,0)=((n:Int),t,0):=by
 unfold stepM
 rw [num_all (by omega) (by omega),if_pos rfl,if_neg (by show ¬ most < (n:Int);omega)]
theorem lock_all {k:LockD} (h:LockOk k) (h1:1≤k.fence) (h2:k.fence≤1073741824) (t:ByteArray):lockR (lockOut k++t,0)=(k,t,0):=by
 have hn:=(nameB_yes h.name).2.1
 have hl:=h.line.len
 unfold lockR lockOut
 simp only [ByteArray.append_assoc]
 rw [text_all (by omega)]
 simp only
 rw [num_all h.low (by have:=h.high;omega)]
 simp only
 rw [num_all (by omega) (by omega)]
 simp only
 rw [many_all (by omega) (by omega)]
 simp only [Int.toNat_natCast]
 rw [rowR_all k.line (fun x hx t=>num_all (by have:=h.line.each x hx;omega) (by have:=h.line.each x hx;omega) t)]
theorem pair_all {p:PairD} (h:nameB p.name=true∧p.value.size≤12∧1≤p.version∧p.version≤1073741824) (t:ByteArray):pairR (pairOut p++t,0)=(p,t,0):=by
 have hn:=(nameB_yes h.1).2.1
 unfold pairR pairOut
 simp only [ByteArray.append_assoc]
 rw [text_all (by omega)]
 simp only
 rw [text_all (by omega)]
 simp only
 rw [num_all (by omega) (by omega)]
theorem kept_all {k:KeptD} (h0:0≤k.seq) (h1:k.seq≤1073741824) (hk:keptB k=true) (t:ByteArray):keptR (keptOut k++t,0)=(k,t,0):=by
 have hr:=replyB_iff.1 hk
 unfold keptR keptOut
 simp only [ByteArray.append_assoc]
 rw [num_all h0 (by omega)]
 simp only
 rw [num_all (by omega) (by omega)]
 simp only
 rw [num_all (by omega) (by omega)]
 simp only
 rw [text_all (by omega)]
theorem sess_all {i:Int} {x:SessD} (hi:i≤1073741824) (h:Fine i x) (t:ByteArray):sessR (sessOut x++t,0)=(x,t,0):=by
 have hr:=rangeB_iff.1 h.range
 have hl:=sformB_len h.form
 have hm:=formFrom_mem h.form
 unfold sessR sessOut
 simp only [ByteArray.append_assoc]
 rw [num_all (by omega) (by omega)]
 simp only
 rw [num_all (by omega) (by omega)]
 simp only
 rw [num_all (by omega) (by omega)]
 simp only
 rw [num_all (by omega) (by omega)]
 simp only
 rw [many_all (by omega) (by omega)]
 simp only [Int.toNat_natCast]
 rw [rowR_all x.replies (fun k hk t=>kept_all (by have:=hm k hk;omega) (by have:=hm k hk;omega) (hm k hk).2.2 t)]
theorem snapR_all {s:StateD} (h:GoodM s) (t:ByteArray):snapR (snapBody s++t,0)=(s,t,0):=by
 have h0:=h.sess.low
 have h1:=h.sess.high
 have hl:=h.locks.len
 have hp:=h.pairs.len
 have hs:=h.sess.len
 unfold snapR snapBody
 simp only [ByteArray.append_assoc]
 rw [num_all h0 (by omega)]
 simp only
 rw [many_all (by omega) (by omega)]
 simp only [Int.toNat_natCast]
 rw [rowR_all s.locks (fun k hk t=>lock_all (h.locks.each k hk).1 (h.locks.each k hk).2.1 (h.locks.each k hk).2.2 t)]
 simp only
 rw [many_all (by omega) (by omega)]
 simp only [Int.toNat_natCast]
 rw [rowR_all s.pairs (fun k hk t=>pair_all (h.pairs.each k hk) t)]
 simp only
 rw [many_all (by omega) (by omega)]
 simp only [Int.toNat_natCast]
 rw [rowR_all s.sess (fun k hk t=>sess_all h1 (h.sess.fine k hk) t)]
theorem snap_all {s:StateD} (h:GoodM s):snapE (snapOut s)=0∧snapL (snapOut s)=s:=by
 have hz:=snapOut_size s
 have hb:=snapBody_le h
 obtain ⟨e1,e2⟩:=snapOut_body s
 have er:snapR (snapBody s,0)=(s,⟨#[]⟩,0):=by
  have:=snapR_all h ⟨#[]⟩
  rwa [bnil] at this
 have he:snapE (snapOut s)=0:=by
  unfold snapE
  rw [if_neg (by omega),if_neg (by omega),e1,e2,if_neg (by simp),er]
  have:endE ((⟨#[]⟩:ByteArray),(0:Int))=0:=rfl
  simp only [this]
  rw [if_neg (by simp)]
  exact h.check
 refine ⟨he,?_⟩
 unfold snapL
 rw [if_pos he,e1,er]
end Go.Proofs.YtbmfahgekcnkaajGreatDoor
namespace Go.Proofs.YtbmfahgekcnkaajGreatDoor
open Go.RowKit
structure LogD where
 base:Int
 ents:List ByteArray
def firstE:List ByteArray→Int
 | []=>0
 | t :: r=>if decE t≠0 then decE t else firstE r
theorem firstE_zero {ts:List ByteArray}:firstE ts=0 ↔ ∀ t∈ts,decE t=0:=by
 induction ts with
 | nil=>simp [firstE]
 | cons t r ih =>
  unfold firstE
  by_cases h:decE t=0
  ·rw [if_neg (by simpa using h),ih]
   simp [h]
  ·rw [if_pos h]
   simp [h]
theorem firstE_sub {ts us:List ByteArray} (h:firstE ts=0) (hs:us.Sublist ts):firstE us=0:=firstE_zero.2 fun t ht=>firstE_zero.1 h t (hs.subset ht)
def logE (l:LogD):Int:=if ¬ (0≤l.base∧l.base≤1073741424) then 2 else if 400 < l.ents.length then 1 else firstE l.ents
def lastL (l:LogD):Int:=l.base+l.ents.length
theorem logE_ok {l:LogD} (h0:0≤l.base) (h1:l.base≤1073741424) (h2:l.ents.length≤400) (h3:firstE l.ents=0):logE l=0:=by
 unfold logE
 rw [if_neg (by simp;omega),if_neg (by omega),h3]
def overL (l:LogD) (behind:Int) (more:List ByteArray):List ByteArray:=more.drop (l.base - behind).toNat
def aheadL (l:LogD) (behind:Int):Nat:=(behind - l.base).toNat
def opens (p t:List ByteArray):Bool:=decide (p=t.take p.length)
theorem opens_iff {p t:List ByteArray}:opens p t=true ↔ p=t.take p.length:=by simp [opens]
def newL (l:LogD) (behind:Int) (more:List ByteArray):List ByteArray :=
 if opens (overL l behind more) (l.ents.drop (aheadL l behind))=true then l.ents else l.ents.take (aheadL l behind)++overL l behind more
def putE (l:LogD) (behind:Int) (more:List ByteArray):Int :=
 if logE l≠0 then logE l else if ¬ (0≤behind∧behind≤1073741824) then 2 else if 400 < more.length then 1 else if lastL l < behind then 13
 else if firstE (overL l behind more)≠0 then firstE (overL l behind more) else if 400 < (newL l behind more).length then 8 else 0
def putL (l:LogD) (behind:Int) (more:List ByteArray):LogD:=if putE l behind more=0 then ⟨l.base,newL l behind more⟩ else ⟨0,[]⟩
def behindE (l:LogD) (index many:Int):Int:=if logE l≠0 then logE l else if index < l.base∨many < 0 then 2 else 0
def behindL (l:LogD) (index many:Int):List ByteArray:=if behindE l index many=0 then (l.ents.drop (index - l.base).toNat).take many.toNat else []
def cutE (l:LogD) (index:Int):Int:=if logE l≠0 then logE l else if ¬ (l.base≤index∧index≤lastL l) then 2 else if 1073741424 < index then 8 else 0
def cutL (l:LogD) (index:Int):LogD:=if cutE l index=0 then ⟨index,l.ents.drop (index - l.base).toNat⟩ else ⟨0,[]⟩
theorem newL_facts {a b:List ByteArray} {k:Nat} (hk:k≤a.length):(newL ⟨0,a⟩ k b).take k=a.take k∧((newL ⟨0,a⟩ k b).drop k).take b.length=b∧opens b ((newL ⟨0,a⟩ k b).drop k)=true∧k+b.length≤(newL ⟨0,a⟩ k b).length∧(newL ⟨0,a⟩ k b).length≤a.length+b.length∧∀ t∈newL ⟨0,a⟩ k b,t∈a∨t∈b:=by
 have e1:overL ⟨0,a⟩ k b=b:=by unfold overL;simp
 have e2:aheadL ⟨0,a⟩ k=k:=by unfold aheadL;simp
 unfold newL
 rw [e1,e2]
 by_cases h:opens b (a.drop k)=true
 ·rw [if_pos h]
  have hp:=opens_iff.1 h
  have hl:b.length≤a.length - k:=by
   have:=congrArg List.length hp
   rw [List.length_take,List.length_drop] at this
   omega
  exact ⟨rfl,hp.symm,h,by simp only;omega,by simp only;omega,fun t ht=>Or.inl ht⟩
 ·rw [if_neg h]
  have hlk:(a.take k).length=k:=by rw [List.length_take];omega
  have ed:(a.take k++b).drop k=b:=by
   have:=List.drop_left (l₁:=a.take k) (l₂:=b)
   rwa [hlk] at this
  refine ⟨?_,?_,?_,?_,?_,fun t ht=>?_⟩
  ·have:=List.take_left (l₁:=a.take k) (l₂:=b)
   rwa [hlk] at this
  ·rw [ed,List.take_length]
  ·rw [ed];exact opens_iff.2 (List.take_length).symm
  ·rw [List.length_append,hlk];omega
  ·rw [List.length_append,hlk];omega
  ·rcases List.mem_append.1 ht with ht | ht
   ·exact Or.inl (List.mem_of_mem_take ht)
   ·exact Or.inr ht
theorem put_ok {a b:List ByteArray} {k:Nat} (hk:k≤a.length) (ha:firstE a=0) (hb:firstE b=0) (hla:a.length≤100) (hlb:b.length≤100):putE ⟨0,a⟩ k b=0∧putL ⟨0,a⟩ k b=⟨0,newL ⟨0,a⟩ k b⟩:=by
 have hf:=newL_facts (b:=b) hk
 have e1:overL ⟨0,a⟩ k b=b:=by unfold overL;simp
 have he:putE ⟨0,a⟩ k b=0:=by
  unfold putE
  rw [logE_ok (l:=⟨0,a⟩) (by simp) (by simp) (by simp only;omega) ha,if_neg (by simp),if_neg (by simp;omega),if_neg (by omega),if_neg (by unfold lastL;simp only;omega),e1,hb,if_neg (by simp),if_neg (by omega)]
 exact ⟨he,by unfold putL;rw [if_pos he]⟩
theorem put_first {a:List ByteArray} (ha:firstE a=0) (hla:a.length≤100):putE ⟨0,[]⟩ 0 a=0∧putL ⟨0,[]⟩ 0 a=⟨0,a⟩:=by
 have h:=put_ok (a:=[]) (b:=a) (k:=0) (by simp) rfl ha (by simp) hla
 have e:newL ⟨0,[]⟩ ((0:Nat):Int) a=a:=by
  have hf:=newL_facts (a:=[]) (b:=a) (k:=0) (by simp)
  have h2:=hf.2.1
  rw [List.drop_zero,List.take_of_length_le (by have:=hf.2.2.2.2.1;simpa using this)] at h2
  exact h2
 rw [e] at h
 exact h
theorem behind_ok {a:List ByteArray} {i m:Nat} (ha:firstE a=0) (hla:a.length≤400):behindE ⟨0,a⟩ i m=0∧behindL ⟨0,a⟩ i m=(a.drop i).take m:=by
 have he:behindE ⟨0,a⟩ i m=0:=by
  unfold behindE
  rw [logE_ok (l:=⟨0,a⟩) (by simp) (by simp) hla ha,if_neg (by simp),if_neg (by simp only;omega)]
 exact ⟨he,by unfold behindL;rw [if_pos he];simp⟩
theorem cut_ok {a:List ByteArray} {k:Nat} (hk:k≤a.length) (ha:firstE a=0) (hla:a.length≤400):cutE ⟨0,a⟩ k=0∧cutL ⟨0,a⟩ k=⟨k,a.drop k⟩:=by
 have he:cutE ⟨0,a⟩ k=0:=by
  unfold cutE
  rw [logE_ok (l:=⟨0,a⟩) (by simp) (by simp) hla ha,if_neg (by simp),if_neg (by unfold lastL;simp only;omega),if_neg (by omega)]
 exact ⟨he,by unfold cutL;rw [if_pos he];simp⟩
end Go.Proofs.YtbmfahgekcnkaajGreatDoor
namespace Go.Proofs.YtbmfahgekcnkaajGreatDoor
open Go.RowKit
def LogR (w:World) (B:Nat) (v:Value) (l:LogD):Prop:=∃ ev,v=.agg #[.int .i64 l.base,ev]∧TextsR w B ev l.ents
theorem LogR.below {w w':World} {B:Nat} {v:Value} {l:LogD} (h:LogR w B v l) {B':Nat} (hb:Below B' w w') (hB:B≤B'):LogR w' B v l:=by
 obtain ⟨ev,rfl,h1⟩:=h
 exact ⟨ev,rfl,h1.below hb hB⟩
theorem LogR.shape {w:World} {B:Nat} {v:Value} {l:LogD} (h:LogR w B v l):∃ eo ec,v=.agg #[.int .i64 l.base,.slice eo l.ents.length ec]∧TextsR w B (.slice eo l.ents.length ec) l.ents:=by
 obtain ⟨ev,rfl,h1⟩:=h
 obtain ⟨eo,ec,rfl⟩:=h1.slice
 exact ⟨eo,ec,rfl,h1⟩
theorem LogR.part {w:World} {B:Nat} {b:Int} {ev:Value} {ts:List ByteArray} (h:LogR w B (.agg #[.int .i64 b,ev]) ⟨b,ts⟩):TextsR w B ev ts:=by
 obtain ⟨ev',e,h1⟩:=h
 simp only [Value.agg.injEq,Array.mk.injEq,List.cons.injEq,true_and,and_true] at e
 subst e
 exact h1
theorem TextsR.cap {w:World} {B:Nat} {eo:Option Addr} {n ec:Nat} {ts:List ByteArray} (h:TextsR w B (.slice eo n ec) ts):n≤ec:=by
 obtain ⟨ao,cap,e,h1,-⟩:=h
 simp only [Value.slice.injEq] at e
 obtain ⟨rfl,rfl,rfl⟩:=e
 exact h1
theorem LogR.nil (w:World) (B:Nat):LogR w B (.agg #[.int .i64 0,.slice none 0 0]) ⟨0,[]⟩:=⟨_,rfl,TextsR.nil _ _⟩
theorem TextsR.none_all {w:World} {B:Nat} {v:Value} (h:TextsR w B v []) (u:World) (B':Nat):TextsR u B' v []:=by
 obtain ⟨ao,cap,rfl,h1,h2,h3,-⟩:=h
 exact ⟨ao,cap,rfl,h1,h2,h3,fun h=>absurd h (by simp)⟩
theorem LogR.none_all {w:World} {B:Nat} {v:Value} {b:Int} (h:LogR w B v ⟨b,[]⟩) (u:World) (B':Nat):LogR u B' v ⟨b,[]⟩:=by
 obtain ⟨ev,rfl,h1⟩:=h
 exact ⟨ev,rfl,h1.none_all u B'⟩
theorem TextsR.front {w:World} {B:Nat} {ao:Option Addr} {n cap:Nat} {ts:List ByteArray} (h:TextsR w B (.slice ao n cap) ts) {k:Nat} (hk:k≤ts.length):TextsR w B (.slice ao k cap) (ts.take k):=by
 obtain ⟨ao',cap',e,h1,h2,h3,h4⟩:=h
 simp only [Value.slice.injEq] at e
 obtain ⟨rfl,rfl,rfl⟩:=e
 have hl:(ts.take k).length=k:=by rw [List.length_take];omega
 refine ⟨ao,cap,by rw [hl],by omega,by omega,h3,fun hp=>?_⟩
 obtain ⟨b,off,rfl,hb,hc⟩:=h4 (by omega)
 refine ⟨b,off,rfl,hb,fun i x hx=>hc i x ?_⟩
 have hi:i < k:=by have:=(List.getElem?_eq_some_iff.1 hx).1;omega
 rwa [List.getElem?_take_of_lt hi] at hx
theorem TextsR.tail {w:World} {B:Nat} {ao:Option Addr} {n cap:Nat} {ts:List ByteArray} (h:TextsR w B (.slice ao n cap) ts) {k:Nat} (hk:k≤ts.length) :
  (cap=k→TextsR w B (.slice ao (ts.length - k) 0) (ts.drop k))∧(¬ cap=k→TextsR w B (.slice (ao.map (fun x=>x.add k)) (ts.length - k) (cap - k)) (ts.drop k)):=by
 obtain ⟨ao',cap',e,h1,h2,h3,h4⟩:=h
 simp only [Value.slice.injEq] at e
 obtain ⟨rfl,rfl,rfl⟩:=e
 have hl:(ts.drop k).length=ts.length - k:=List.length_drop
 refine ⟨fun hc=>?_,fun hc=>?_⟩
 ·exact ⟨ao,0,by rw [hl],by omega,by omega,fun _=>rfl,fun hp=>by omega⟩
 ·refine ⟨_,_,by rw [hl],by omega,by omega,fun hn=>?_,fun hp=>?_⟩
  ·cases ao with
   | none=>have:=h3 rfl;omega
   | some a=>cases hn
  ·obtain ⟨b,off,rfl,hb,hcs⟩:=h4 (by omega)
   refine ⟨b,off+k,?_,hb,fun i x hx=>?_⟩
   ·simp only [Option.map_some,gadd]
   ·rw [List.getElem?_drop] at hx
    have:=hcs (k+i) x hx
    rwa [show off+(k+i)=off+k+i by omega] at this
theorem TextsR.sizes {w:World} {B:Nat} {v:Value} {ts:List ByteArray} (h:TextsR w B v ts):∀ t∈ts,t.size≤140737488351232:=by
 intro t ht
 obtain ⟨i,hi⟩:=List.mem_iff_getElem?.1 ht
 obtain ⟨ao,cap,rfl,h1,h2,h3,h4⟩:=h
 obtain ⟨b,off,rfl,hb,hc⟩:=h4 (by have:=(List.getElem?_eq_some_iff.1 hi).1;omega)
 exact (hc i t hi).2
end Go.Proofs.YtbmfahgekcnkaajGreatDoor
namespace Go.Proofs.YtbmfahgekcnkaajGreatDoor
open Go.RowKit
set_option maxHeartbeats 800000 in
theorem last_raw (base:Int) (eo:Option Addr) (n ec:Nat) (w:World) (h0:0≤base∧base≤1073741424∧n≤400) :
  Calls Tryz.prog 33 #[.agg #[.int .i64 base,.slice eo n ec]] w fun e w'=>e=.returned (.int .i64 (base+n))∧Below w.heap.size w w':=by
 have HB0:Hid (Below w.heap.size w (w.alloc (.cells #[.int .i64 base,.slice eo n ec] 29))):=(Below.refl _ _).alloc (Nat.le_refl _) _
 go_enter Tryz.func33,Tryz.ntmps33
 go_wp2
 go_ret
 exact ⟨rfl,HB0.out⟩
theorem logE_zero {l:LogD} (h:logE l=0):(0≤l.base∧l.base≤1073741424∧l.ents.length≤400)∧firstE l.ents=0:=by
 unfold logE at h
 by_cases h1:¬ (0≤l.base∧l.base≤1073741424)
 ·rw [if_pos h1] at h
  exact absurd h (by decide)
 ·rw [if_neg h1] at h
  by_cases h2:400 < l.ents.length
  ·rw [if_pos h2] at h
   exact absurd h (by decide)
  ·rw [if_neg h2] at h
   exact ⟨by omega,h⟩
end Go.Proofs.YtbmfahgekcnkaajGreatDoor
namespace Go.Proofs.YtbmfahgekcnkaajGreatDoor
open Go.RowKit
def StateD.zero:StateD:=⟨0,[],[],[]⟩
structure RepD where
 log:LogD
 snap:ByteArray
 state:StateD
def RepD.zero:RepD:=⟨⟨0,[]⟩,⟨#[]⟩,.zero⟩
structure MailD where
 client:Int
 seq:Int
 reply:ReplyD
def tellsB (s:ByteArray) (base:Int):Bool:=if base=0 then decide (s=⟨#[]⟩) else decide (snapE s=0∧(snapL s).index=base)
def repE (r:RepD):Int :=
 if logE r.log≠0 then logE r.log else if checkM r.state≠0 then checkM r.state
 else if ¬ (r.log.base≤r.state.index∧r.state.index≤lastL r.log) then 9 else if tellsB r.snap r.log.base=false then 9 else 0
def doneL (r:RepD):List ByteArray:=r.log.ents.take (r.state.index - r.log.base).toNat
def hearE (r:RepD) (behind:Int) (more:List ByteArray):Int :=
 if repE r≠0 then repE r else if putE r.log behind more≠0 then putE r.log behind more else if opens (doneL r) (putL r.log behind more).ents=false then 9 else 0
def hearL (r:RepD) (behind:Int) (more:List ByteArray):RepD:=if hearE r behind more=0 then ⟨putL r.log behind more,r.snap,r.state⟩ else .zero
def todoL (r:RepD) (upto:Int):List ByteArray :=
 (r.log.ents.drop (r.state.index - r.log.base).toNat).take (min (max upto r.state.index) (lastL r.log) - r.state.index).toNat
def runE (s:StateD) (ts:List ByteArray):StateD:=ts.foldl (fun s t=>(applyM s (decL t)).1) s
def mailsE:StateD→List ByteArray→List MailD
 | _,[]=>[]
 | s,t :: r=>⟨(decL t).client,(decL t).seq,(applyM s (decL t)).2⟩ :: mailsE (applyM s (decL t)).1 r
def goE (r:RepD) (upto:Int):Int:=if repE r≠0 then repE r else if ¬ (0≤upto∧upto≤1073741824) then 2 else 0
def goL (r:RepD) (upto:Int):RepD:=if goE r upto=0 then ⟨r.log,r.snap,runE r.state (todoL r upto)⟩ else .zero
def goM (r:RepD) (upto:Int):List MailD:=if goE r upto=0 then mailsE r.state (todoL r upto) else []
def compE (r:RepD):Int:=if repE r≠0 then repE r else if r.state.index=r.log.base then 12 else if cutE r.log r.state.index≠0 then cutE r.log r.state.index else 0
def compL (r:RepD):RepD:=if compE r=0 then ⟨cutL r.log r.state.index,snapOut r.state,r.state⟩ else .zero
def instE (r:RepD) (s:ByteArray):Int:=if repE r≠0 then repE r else if snapE s≠0 then snapE s else if (snapL s).index≤r.state.index then 12 else if 1073741424 < (snapL s).index then 8 else 0
def instL (r:RepD) (s:ByteArray):RepD:=if instE r s=0 then ⟨⟨(snapL s).index,behindL r.log (snapL s).index 400⟩,s,snapL s⟩ else .zero
def recallL (s:ByteArray):StateD:=if s=⟨#[]⟩ then .zero else snapL s
def recallE (s:ByteArray):Int:=if s=⟨#[]⟩ then 0 else snapE s
def restL (r:RepD):RepD:=if repE r=0 then ⟨r.log,r.snap,recallL r.snap⟩ else .zero
theorem repE_zero {r:RepD} (h:repE r=0):logE r.log=0∧checkM r.state=0∧(r.log.base≤r.state.index∧r.state.index≤lastL r.log)∧tellsB r.snap r.log.base=true:=by
 unfold repE at h
 by_cases h1:logE r.log=0
 ·rw [if_neg (by simpa using h1)] at h
  by_cases h2:checkM r.state=0
  ·rw [if_neg (by simpa using h2)] at h
   by_cases h3:r.log.base≤r.state.index∧r.state.index≤lastL r.log
   ·rw [if_neg (by simpa using h3)] at h
    cases h4:tellsB r.snap r.log.base with
    | true=>exact ⟨h1,h2,h3,rfl⟩
    | false=>rw [h4,if_pos rfl] at h;cases h
   ·rw [if_pos h3] at h;cases h
  ·rw [if_pos h2] at h;exact absurd h h2
 ·rw [if_pos h1] at h;exact absurd h h1
theorem repE_of {r:RepD} (h1:logE r.log=0) (h2:checkM r.state=0) (h3:r.log.base≤r.state.index∧r.state.index≤lastL r.log) (h4:tellsB r.snap r.log.base=true):repE r=0:=by
 unfold repE
 rw [if_neg (by simpa using h1),if_neg (by simpa using h2),if_neg (by simpa using h3),if_neg (by rw [h4];decide)]
theorem recall_zero {s:ByteArray} {b:Int} (h:tellsB s b=true):recallE s=0:=by
 unfold tellsB at h
 unfold recallE
 by_cases hb:b=0
 ·rw [if_pos hb] at h
  rw [if_pos (by simpa using h)]
 ·rw [if_neg hb] at h
  have:=(of_decide_eq_true h).1
  split
  ·rfl
  ·exact this
theorem runE_append (s:StateD) (a b:List ByteArray):runE s (a++b)=runE (runE s a) b:=List.foldl_append
theorem todo_len {r:RepD} (h:repE r=0) (upto:Int):r.state.index+(todoL r upto).length=min (max upto r.state.index) (lastL r.log):=by
 obtain ⟨-,-,⟨h1,h2⟩,-⟩:=repE_zero h
 unfold todoL
 rw [List.length_take,List.length_drop]
 unfold lastL at h2 ⊢
 omega
end Go.Proofs.YtbmfahgekcnkaajGreatDoor
namespace Go.Proofs.YtbmfahgekcnkaajGreatDoor
open Go.RowKit
theorem StateR.shape {w:World} {B:Nat} {v:Value} {s:StateD} (h:StateR w B v s):∃ lo ln lc po pn pc so sn sc,v=.agg #[.int .i64 s.index,.slice lo ln lc,.slice po pn pc,.slice so sn sc]:=by
 obtain ⟨lv,pv,sv,rfl,h1,h2,h3⟩:=h
 obtain ⟨lo,lc,rfl,-⟩:=h1
 obtain ⟨po,pc,rfl,-⟩:=h2
 obtain ⟨so,sc,rfl,-⟩:=h3
 exact ⟨_,_,_,_,_,_,_,_,_,rfl⟩
end Go.Proofs.YtbmfahgekcnkaajGreatDoor
