/- replica.Hear, at a replica that may be; The strings.Builder that lies in package snap's writer: a text is put behind what it has; all of it is told; package snap's writer: numbers and texts are put behind what it has; package snap's writeList, at its five types: how many, and each one, put behind what the writer has; package snap's writer: its methods for the parts of a state; snap.Encode: at a state that may be its bytes; else what is wrong with it; replica.Compact, at a replica that may be; replica.Restart, at a replica that may be; replica.Install, at a replica that may be (joined by program) -/
import Derived.Test.YtbmfahgekcnkaajGreatDoorRS44
import Derived.Test.YtbmfahgekcnkaajGreatDoorRS45
import Derived.Test.YtbmfahgekcnkaajGreatDoorRS42
import Derived.Test.YtbmfahgekcnkaajGreatDoorRS00
import Derived.Test.YtbmfahgekcnkaajGreatDoorRS41
import Derived.Test.YtbmfahgekcnkaajGreatDoorRS43
import Derived.Test.YtbmfahgekcnkaajGreatDoorRS10
import Derived.Test.YtbmfahgekcnkaajGreatDoorRS02
import Derived.Test.YtbmfahgekcnkaajGreatDoorRS11
namespace Go.Proofs.YtbmfahgekcnkaajGreatDoor
open Go.RowKit
set_option maxRecDepth 100000 in
set_option maxHeartbeats 3200000 in
theorem repHear_any (v:Value) (r:RepD) (i:Int) (mv:Value) (more:List ByteArray) (w:World) (B:Nat) (hv:RepR w B v r) (hmv:TextsR w B mv more) (hB:B≤w.heap.size) (hi:-9223372036854775808≤i∧i≤9223372036854775807) (hr:repE r=0) :
  Calls Tryz.prog 7 #[v,.int .i64 i,mv] w fun e w'=>∃ v',e=.returned (.tuple #[v',.int .i64 (hearE r i more)])∧Firm w.heap.size w' (fun u=>RepR u u.heap.size v' (hearL r i more))∧Below w.heap.size w w':=by
 obtain ⟨k1,k2,⟨k3,k4⟩,k5⟩:=repE_zero hr
 obtain ⟨⟨l1,l2,l3⟩,-⟩:=logE_zero k1
 have HV:=ghid hv
 obtain ⟨eo,lo,po,so,ec,ln,lc,pn,pc,sn,sc,rfl,hl,hs,hst⟩:=hv.parts
 have hec:=hl.part.cap
 have HE:Hid (hearE r i more=if putE r.log i more≠0 then putE r.log i more else if opens (doneL r) (putL r.log i more).ents=false then 9 else 0):=by
  unfold Hid hearE
  rw [if_neg (by simpa using hr)]
 have HLZ:Hid (hearE r i more≠0→hearL r i more=.zero):=fun h=>if_neg h
 have HLO:Hid (hearE r i more=0→hearL r i more=⟨putL r.log i more,r.snap,r.state⟩):=fun h=>if_pos h
 obtain ⟨mo,mc,rfl⟩:=hmv.slice
 have HMV:=ghid hmv
 unfold lastL at k4
 have HDL:Hid (doneL r=r.log.ents.take (r.state.index - r.log.base).toNat):=rfl
 obtain ⟨E,hE⟩:∃ E,E=hearE r i more:=⟨_,rfl⟩
 obtain ⟨L,hL⟩:∃ L,L=hearL r i more:=⟨_,rfl⟩
 obtain ⟨D,hD⟩:∃ D,D=doneL r:=⟨_,rfl⟩
 obtain ⟨⟨base,ts⟩,sp,s⟩:=r
 rw [←hE,←hD] at HE
 rw [←hE,←hL] at HLZ HLO
 rw [←hD] at HDL
 rw [←hE,←hL]
 simp only at l1 l2 l3 k3 k4 hec HE HLO HDL hl hs hst ⊢
 obtain ⟨ix,hix⟩:∃ ix,ix=s.index:=⟨_,rfl⟩
 obtain ⟨n,hn⟩:∃ n,n=ts.length:=⟨_,rfl⟩
 obtain ⟨m,hm⟩:∃ m,m=more.length:=⟨_,rfl⟩
 obtain ⟨pe,hpe⟩:∃ pe,pe=putE ⟨base,ts⟩ i more:=⟨_,rfl⟩
 obtain ⟨⟨pb,pt⟩,hpl⟩:∃ pl,pl=putL ⟨base,ts⟩ i more:=⟨_,rfl⟩
 rw [←hix] at k3 k4 hst HDL ⊢
 rw [←hn] at k4 l3 hl hec ⊢
 rw [←hm] at HMV ⊢
 rw [←hpe,←hpl] at HE
 rw [←hpl] at HLO
 simp only at HE
 have HZ:Hid (Below w.heap.size w ((w.alloc (.cells #[.int .i64 base,.slice eo n ec,.string sp,.int .i64 ix,.slice lo ln lc,.slice po pn pc,.slice so sn sc] 36)).alloc (.cells #[.int .i64 0,.slice none 0 0,.string ⟨#[]⟩,.int .i64 0,.slice none 0 0,.slice none 0 0,.slice none 0 0] 36))):=(((Below.refl _ _).alloc (Nat.le_refl _) _).alloc (by simp) _)
 have HV2:=HV.out
 simp only at HV2
 rw [←hix,←hn] at HV2
 have CC:=ghid (repCheck_ok _ _ _ B (HV2.below HZ.out hB) (by have:=HZ.out.size;omega) hr)
 have CP:=ghid (fun u (hu:Below w.heap.size w u)=>put_new _ ⟨base,ts⟩ i _ more u B (hl.below hu hB) (HMV.out.below hu hB) (by have:=hu.size;omega) hi)
 rw [←hpe,←hpl] at CP
 obtain ⟨k,hk⟩:∃ k:Nat,ix - base=k:=⟨(ix - base).toNat,by omega⟩
 have CA:=ghid (fun u=>applied_rep base ix eo lo po so n ec ln lc pn pc sn sc sp u ⟨l1,k3,k4,l2,l3,hec⟩ k hk)
 have hkn:k≤ts.length:=by omega
 have CB:=ghid (fun u (hu:Below w.heap.size w u) po (pc:Nat) (ht:TextsR u u.heap.size (.slice po pt.length pc) pt)=>repBegins_below _ _ pt (ts.take k) u u.heap.size B ht ((hl.part.below hu hB).front (k:=k) hkn))
 rw [show (ix - base).toNat=k by omega] at HDL
 rw [←HDL.out] at CB
 have CM:=ghid (fun u (hu:Below w.heap.size w u)=>machCopy_own _ s u B (hst.below hu hB) (by have:=hu.size;omega))
 rw [←hix] at CM
 have CS:=ghid (fun u=>clone_any sp u (by omega))
 have HS:=ghid hs
 have HI:=ghid hix
 have HIN:=ghid hn
 have hpk:=hk
 clear hl hs hst hv hmv hi hr k1 k2 k5 HV HV2 hE hL hD hix hn hm hpe hpl hec l3 HDL hk hB
 go_enter Tryz.func7,Tryz.ntmps7
 go_wp2_with fail
 refine CC.out.mono ?_
 rintro e w1 ⟨rfl,hb⟩
 obtain ⟨hx,hrr,hbw⟩:=boxes7 (by simpa using hb)
 obtain ⟨c0,c1,c2,c3,c4,c5,c6,cf,hpl⟩:=seven_cells hx
 have HB:=ghid hbw
 have HX:=ghid hx
 have HR:=ghid hrr
 clear hb hx hrr hbw CC
 go_wp2_with fail
 refine (CP.out _ HB.out).mono ?_
 rintro e w2 ⟨v2,rfl,hl2,hb2⟩
 obtain ⟨ho,hc,rfl,ht2⟩:=hl2.now.shape
 simp only at ht2 ⊢
 have hba:Below w2.heap.size w2 (w2.alloc (.cells #[.int .i64 pb,.slice ho pt.length hc] 29)):=(Below.refl _ _).alloc (Nat.le_refl _) _
 have hb1z:=HB.out.size
 have hrl1:w.heap.size+1 < w1.heap.size:=(Array.getElem?_eq_some_iff.1 HR.out).1
 have HB3:=ghid (HB.out.trans ((hb2.trans (hba.mono hb2.size)).mono hb1z))
 have HX3:=ghid (behind (behind HX.out (Below.refl _ _) hb2) (Below.refl _ _) hba)
 have HR3:=ghid (behind (behind HR.out (Below.refl _ _) hb2) (Below.refl _ _) hba)
 have HY3:=ghid (heap_alloc_new w2 (.cells #[.int .i64 pb,.slice ho pt.length hc] 29))
 have HL3:=ghid (hl2.below hba)
 obtain ⟨w3,hw3⟩:∃ w3,w3=w2.alloc (.cells #[.int .i64 pb,.slice ho pt.length hc] 29):=⟨_,rfl⟩
 obtain ⟨y,hy⟩:∃ y,y=w2.heap.size:=⟨_,rfl⟩
 have HYZ:Hid (w.heap.size+1 < y):=(by have:=hb2.size;omega:w.heap.size+1 < y)
 rw [←hw3] at HB3 HX3 HR3 HY3 HL3
 rw [←hy] at HY3
 have HW3:=ghid hw3
 have HY:=ghid hy
 clear hl2 ht2 hb2 hba hw3 hy HX HR CP c0 c1 c2 c3 c4 c5 c6 cf hpl hb1z
 by_cases hp0:pe=0
 ·have HE2:Hid (E=if opens D pt=false then 9 else 0):=HE.out.trans (if_neg (by simpa using hp0))
  subst hp0
  clear HE
  go_upto_region 5 with fail
  rw [←HW3.out,←HY.out]
  clear HW3 HY
  obtain ⟨d0,d1,dl⟩:=two_cells HY3.out
  obtain ⟨c0,c1,c2,c3,c4,c5,c6,cf,hpl⟩:=seven_cells HX3.out
  go_wp2
  go_region_held3 (fun w'=>w'.cell? ⟨w.heap.size,0,none⟩=some (.int .i64 base)∧w'.cell? ⟨w.heap.size,1,none⟩=some (.slice eo n ec)∧w'.cell? ⟨w.heap.size,2,none⟩=some (.string sp)∧w'.cell? ⟨w.heap.size,3,none⟩=some (.int .i64 ix)∧w'.cell? ⟨w.heap.size,4,none⟩=some (.slice lo ln lc)∧w'.cell? ⟨w.heap.size,5,none⟩=some (.slice po pn pc)∧w'.cell? ⟨w.heap.size,6,none⟩=some (.slice so sn sc)∧w'.cell? ⟨y,0,none⟩=some (.int .i64 pb)∧w'.cell? ⟨y,1,none⟩=some (.slice ho pt.length hc)) (go_keep)
   (first
    | (go_at_call 18;refine (CA.out _).mono ?_;rintro e w4 ⟨rfl,hb4⟩;have hbd:=(Below.refl w3.heap.size w3).drew.trans hb4;have HB4:=ghid (HB3.out.trans (hbd.mono HB3.out.size));have HX4:=ghid (behind HX3.out (Below.refl _ _) hbd);have HR4:=ghid (behind HR3.out (Below.refl _ _) hbd);have HY4:=ghid (behind HY3.out (Below.refl _ _) hbd);have HL4:=ghid (HL3.out.below hbd);clear hb4 hbd;obtain ⟨c0,c1,c2,c3,c4,c5,c6,cf,hpl⟩:=seven_cells HX4.out;obtain ⟨d0,d1,dl⟩:=two_cells HY4.out)
    | (go_at_call 17;refine (CB.out _ HB4.out ho hc HL4.out.now.part).mono ?_;rintro e w5 ⟨rfl,hb5⟩;have HB5:=ghid (HB4.out.trans (hb5.mono HB4.out.size));have HX5:=ghid (behind HX4.out (Below.refl _ _) hb5);have HR5:=ghid (behind HR4.out (Below.refl _ _) hb5);have HY5:=ghid (behind HY4.out (Below.refl _ _) hb5);have HL5:=ghid (HL4.out.below hb5);clear hb5;obtain ⟨c0,c1,c2,c3,c4,c5,c6,cf,hpl⟩:=seven_cells HX5.out;obtain ⟨d0,d1,dl⟩:=two_cells HY5.out))
  clear CA CB HX4 HR4 HY4 HL4 HB4 HX3 HR3 HY3 HL3 HB3 HMV HZ
  obtain ⟨b,hb⟩:∃ b,b=opens D pt:=⟨_,rfl⟩
  rw [←hb] at HE2 ⊢
  clear hb
  obtain ⟨r0,r1,r2,r3,r4,r5,r6,rf,rl⟩:=seven_cells HR5.out
  cases b with
  | false =>
   have HE3:Hid (E=9):=HE2.out
   have HZ2:=ghid (HLZ.out (by rw [HE3.out];decide))
   have HF:=ghid (zset7 (b:=w.heap.size+1) HB5.out (by omega) (.int .i64 0) (.slice none 0 0) (.string ⟨#[]⟩) (.int .i64 0) (.slice none 0 0) (.slice none 0 0) (.slice none 0 0))
   go_wp2
   refine bodyPost_ret (v:=.tuple #[.agg #[.int .i64 0,.slice none 0 0,.string ⟨#[]⟩,.int .i64 0,.slice none 0 0,.slice none 0 0,.slice none 0 0],.int .i64 9]) (by simp [results,Tryz.results7,go_sem,r0,r1,r2,r3,r4,r5,r6]) rfl ?_
   exact ⟨_,by rw [HE3.out],by rw [HZ2.out];exact Firm.of fun _=>RepR.nil _ _,HF.out⟩
  | true =>
   have HE3:Hid (E=0):=HE2.out
   have HLF:=ghid (HLO.out HE3.out)
   clear HLZ HLO HE2
   have hyn1:y≠w.heap.size+1:=by have:=HYZ.out;omega
   have hyn2:w.heap.size+1≠y:=fun e=>hyn1 e.symm
   go_wp2
   go_region_held3 (fun w'=>w'.cell? ⟨w.heap.size,0,none⟩=some (.int .i64 base)∧w'.cell? ⟨w.heap.size,1,none⟩=some (.slice eo n ec)∧w'.cell? ⟨w.heap.size,2,none⟩=some (.string sp)∧w'.cell? ⟨w.heap.size,3,none⟩=some (.int .i64 ix)∧w'.cell? ⟨w.heap.size,4,none⟩=some (.slice lo ln lc)∧w'.cell? ⟨w.heap.size,5,none⟩=some (.slice po pn pc)∧w'.cell? ⟨w.heap.size,6,none⟩=some (.slice so sn sc)∧w'.cell? ⟨y,0,none⟩=some (.int .i64 pb)∧w'.cell? ⟨y,1,none⟩=some (.slice ho pt.length hc)) (go_keep)
    (first
     | (go_at_call 19;refine (CS.out _).mono ?_;rintro e w6 ⟨rfl,hb6⟩;have hbd:=(Below.refl w5.heap.size w5).drew.trans hb6;have HB6:=ghid (HB5.out.trans (hbd.mono HB5.out.size));have HX6:=ghid (behind HX5.out (Below.refl _ _) hbd);have HR6:=ghid (behind HR5.out (Below.refl _ _) hbd);have HY6:=ghid (behind HY5.out (Below.refl _ _) hbd);have HL6:=ghid (HL5.out.below hbd);clear hb6 hbd;obtain ⟨c0,c1,c2,c3,c4,c5,c6,cf,hpl⟩:=seven_cells HX6.out;obtain ⟨d0,d1,dl⟩:=two_cells HY6.out)
     | (go_at_call 20;refine (CM.out _ HB6.out).mono ?_;rintro e w7 ⟨lo7,po7,so7,ln7,lc7,pn7,pc7,sn7,sc7,rfl,hs7,hb7⟩;have HB7:=ghid (HB6.out.trans (hb7.mono HB6.out.size));have HR7:=ghid (behind HR6.out (Below.refl _ _) hb7);have HL7:=ghid (HL6.out.below hb7);have HS7:=ghid hs7;obtain ⟨c0,c1,c2,c3,c4,c5,c6,cf,hpl⟩:=seven_cells (behind HX6.out (Below.refl _ _) hb7);obtain ⟨d0,d1,dl⟩:=two_cells (behind HY6.out (Below.refl _ _) hb7);clear hb7 hs7;obtain ⟨r0,r1,r2,r3,r4,r5,r6,rf,rl⟩:=seven_cells HR7.out))
   all_goals
    have HF:=ghid (zset7 (b:=w.heap.size+1) HB7.out (by omega) (.int .i64 pb) (.slice ho pt.length hc) (.string sp) (.int .i64 ix) (.slice lo7 ln7 lc7) (.slice po7 pn7 pc7) (.slice so7 sn7 sc7))
    have HA:=ghid ((HL7.out.set7 (p:=w.heap.size+1) hrl1 (.int .i64 pb) (.slice ho pt.length hc) (.string sp) (.int .i64 ix) (.slice lo7 ln7 lc7) (.slice po7 pn7 pc7) (.slice so7 sn7 sc7)).mono (by omega:w.heap.size≤w1.heap.size)).firm
    have HC:=ghid ((HS7.out.set7 HR7.out (.int .i64 pb) (.slice ho pt.length hc) (.string sp) (.int .i64 ix) (.slice lo7 ln7 lc7) (.slice po7 pn7 pc7) (.slice so7 sn7 sc7)).firm w.heap.size)
    go_wp2
    refine bodyPost_ret (v:=.tuple #[.agg #[.int .i64 pb,.slice ho pt.length hc,.string sp,.int .i64 ix,.slice lo7 ln7 lc7,.slice po7 pn7 pc7,.slice so7 sn7 sc7],.int .i64 0]) (by simp [results,Tryz.results7,go_sem,r0,r1,r2,r3,r4,r5,r6]) rfl ?_
    exact ⟨_,by rw [HE3.out],by rw [HLF.out];exact RepR.firm (fun u hu=>(HA.out u hu).part) HS.out HC.out,HF.out⟩
 ·have HE2:Hid (E=pe):=HE.out.trans (if_pos hp0)
  have hpb:(pe != 0)=true:=by simpa using hp0
  have HZ2:=ghid (HLZ.out (by rw [HE2.out];exact hp0))
  have HF:=ghid (zset7 (b:=w.heap.size+1) HB3.out (by omega) (.int .i64 0) (.slice none 0 0) (.string ⟨#[]⟩) (.int .i64 0) (.slice none 0 0) (.slice none 0 0) (.slice none 0 0))
  obtain ⟨r0,r1,r2,r3,r4,r5,r6,rf,rl⟩:=seven_cells HR3.out
  clear HE hp0
  go_upto_region 5 with fail
  rw [←HW3.out,←HY.out]
  clear HW3 HY
  go_wp2
  refine bodyPost_ret (v:=.tuple #[.agg #[.int .i64 0,.slice none 0 0,.string ⟨#[]⟩,.int .i64 0,.slice none 0 0,.slice none 0 0,.slice none 0 0],.int .i64 pe]) (by simp [results,Tryz.results7,go_sem,r0,r1,r2,r3,r4,r5,r6]) rfl ?_
  exact ⟨_,by rw [HE2.out],by rw [HZ2.out];exact Firm.of fun _=>RepR.nil _ _,HF.out⟩
end Go.Proofs.YtbmfahgekcnkaajGreatDoor
namespace Go.Proofs.YtbmfahgekcnkaajGreatDoor
open Go.RowKit Go.Shelf
def WrB (B b:Nat) (l:List UInt8) (w:World):Prop:=Lib.IsBuilderF 106 5 B b (Lib.byteCells l) w
theorem WrB.below {B b:Nat} {l:List UInt8} {w w':World} (h:WrB B b l w) (hb:Below w.heap.size w w'):WrB B b l w':=by
 rcases h with h | h
 ·exact Or.inl (BuilderAtF_below h hb)
 ·exact Or.inr (BuilderAtF_below h hb)
theorem WrB.lt {B b:Nat} {l:List UInt8} {w:World} (h:WrB B b l w):B≤b∧b < w.heap.size:=by
 rcases h with h | h
 ·exact ⟨h.1,h.lt⟩
 ·exact ⟨h.1,h.lt⟩
theorem wrLies:liesAt Tryz.prog Tryz.prog.depth 106 (2 / Tryz.prog.cellsOf 106) 0 104 1=true:=by kernel_rfl
theorem wrCheck_used (b:Nat) (w:World) (h0:w.cell? ⟨b,0,none⟩=some (.pointer (some ⟨b,0,none⟩))) :
  Calls Tryz.prog 100 #[.pointer (some ⟨b,0,none⟩)] w fun e w'=>e=.returned (.tuple #[])∧w'=w :=
 Any.Builder_copyCheck_used { buildLays166 with } buildExtra.toX72 b w h0
set_option maxHeartbeats 1000000 in
set_option maxRecDepth 100000 in
theorem wrCheck_fresh (b:Nat) (w:World) (h0:w.cell? ⟨b,0,none⟩=some (.pointer none)) (hsh:w.shape? b=some (106,2)) (hfz:w.frozen? ⟨b,0,none⟩=false) :
  Calls Tryz.prog 100 #[.pointer (some ⟨b,0,none⟩)] w fun e w'=>e=.returned (.tuple #[])∧w'=w.setCell ⟨b,0,none⟩ (.pointer (some ⟨b,0,none⟩)):=by
 obtain ⟨j,hj,hjs⟩:=Option.map_eq_some_iff.1 buildExtra.sizeBuilder
 go_enter Tryz.func100,Tryz.ntmps100
 go_wp2
 rw [Lib.run_to_unsafe w ⟨b,0,none⟩ Tryz.underlying102 Tryz.underlying201 hj (by rw [hjs];decide) hsh (Nat.zero_lt_succ 1)]
 simp only [Result.andThen]
 rw [Oper.upon_value]
 go_wp2
 rw [run_callFunc_extern Tryz.func130 (by kernel_rfl) (by kernel_rfl) (by kernel_rfl) (e:=Extern.AbiNoEscape.same) (by kernel_rfl)]
 rw [Lib.run_noEscape]
 simp only [Result.andThen]
 rw [Oper.upon_value]
 go_wp2
 rw [Lib.run_from_unsafe w ⟨b,0,none⟩ Tryz.underlying201 Tryz.underlying102 hj hsh wrLies]
 simp only [Result.andThen]
 rw [Oper.upon_value]
 go_wp2
 go_end0
 exact ⟨rfl,rfl⟩
theorem wrCheck_any (B b:Nat) (bs:List Value) (w:World) (h:Lib.IsBuilderF 106 5 B b bs w) :
  Calls Tryz.prog 100 #[.pointer (some ⟨b,0,none⟩)] w fun e w'=>e=.returned (.tuple #[])∧(Lib.BuilderAtF 106 5 B b (.pointer (some ⟨b,0,none⟩)) bs w'∧Below B w w'∧Lib.OthersKept 5 (some b) w w'):=by
 rcases h with h | h
 ·refine (wrCheck_fresh b w h.cell0 h.shape h.frozen0).mono ?_
  rintro e w' ⟨rfl,rfl⟩
  exact ⟨rfl,h.used _,(Below.refl B w).setCell (p:=⟨b,0,none⟩) h.1 _,(Lib.OthersKept.refl _ _ w).setCell ⟨b,0,none⟩ rfl _⟩
 ·refine (wrCheck_used b w h.cell0).mono ?_
  rintro e w' ⟨rfl,rfl⟩
  exact ⟨rfl,h,Below.refl B _,Lib.OthersKept.refl _ _ _⟩
set_option maxHeartbeats 2000000 in
set_option maxRecDepth 100000 in
theorem wrWrite_any (B b:Nat) (l:List UInt8) (s:ByteArray) (w:World) (h:WrB B b l w) (hlen:l.length+s.size≤140737488355328) (hBw:B≤w.heap.size) :
  Calls Tryz.prog 65 #[.pointer (some ⟨b,0,none⟩),.string s] w fun e w'=>e=.returned (.tuple #[.int .i64 s.size,.nilIface])∧WrB B b (l++s.data.toList) w'∧Below B w w'∧Lib.OthersKept 5 (some b) w w':=by
 obtain ⟨i0,hi,hz0,hz1,hz2⟩:=info_parts buildExtra.infoByte
 have hl:(Lib.byteCells l).length=l.length:=Lib.byteCells_length l
 have hlen':(Lib.byteCells l).length+s.size≤140737488355328:=by omega
 unfold WrB at h ⊢
 rw [Lib.byteCells_append]
 have e0:Lib.byteCells s.data.toList=Lib.strCells s:=rfl
 rw [e0]
 obtain ⟨bs,hbs⟩:∃ bs,bs=Lib.byteCells l:=⟨_,rfl⟩
 rw [←hbs] at h hlen' ⊢
 have CK:=ghid (wrCheck_any B b bs w h)
 clear hl hbs h
 go_enter Tryz.func65,Tryz.ntmps65
 go_wp2_with fail
 refine CK.out.mono ?_
 rintro e w1 ⟨rfl,h1,hb1,hk1⟩
 obtain ⟨hB,v,hbk,hown,hne⟩:=h1
 have c0:w1.cell? ⟨b,0,none⟩=some (.pointer (some ⟨b,0,none⟩)):=by rw [Lib.cell_of_heap hbk];rfl
 have c1:w1.cell? ⟨b,1,none⟩=some v:=by rw [Lib.cell_of_heap hbk];rfl
 go_wp2_with (at_builtin;refine Lib.wpList_append_own_stringF _ rfl _ _ 85 9 rfl B 5 i0 Tryz.underlying85 Tryz.underlying9 hi hz0 hz1 hz2 _ _ _ rfl hown s rfl ?c3 ?c4 ?c5 ?_)
 case c3=>unfold maxLen;omega
 case c4=>omega
 case c5=>have:=hb1.size;omega
 intro v' w2 hown' hgrow _
 have hlt:b < w1.heap.size:=(Array.getElem?_eq_some_iff.1 hbk).1
 have hb2:w2.heap[b]?=some (.cells #[.pointer (some ⟨b,0,none⟩),v] 106 (0,0)):=by
  rw [hgrow.block b hlt (fun e=>hne e.symm)]
  exact hbk
 have d0:w2.cell? ⟨b,0,none⟩=some (.pointer (some ⟨b,0,none⟩)):=by rw [Lib.cell_of_heap hb2];rfl
 have d1:w2.cell? ⟨b,1,none⟩=some v:=by rw [Lib.cell_of_heap hb2];rfl
 have f1:w2.frozen? ⟨b,1,none⟩=false:=Lib.frozen_of_heap hb2 1
 obtain ⟨ao,n',cap,rfl⟩:∃ ao n' cap,v'=.slice ao n' cap:=by
  rcases hown'.2 with ⟨hv,_⟩ | ⟨g,cap,cur,fz,hv,_⟩
  ·exact ⟨_,_,_,hv⟩
  ·exact ⟨_,_,_,hv⟩
 go_wp2
 go_ret2
 refine ⟨rfl,Or.inr ?_,?_,(hk1.grown hgrow (Lib.ownsRowF_kind hown)).setCell ⟨b,1,none⟩ rfl _⟩
 ·exact Lib.BuilderAtF.put (T:=106) (e:=5) hB hb2 (bs':=bs++Lib.strCells s) (by simpa [Lib.strCells_length] using hown') (by decide)
 ·exact (hb1.grown hgrow (by have:=hb1.size;omega) (fun k hk=>(hown.lt k hk).1)).setCell (p:=⟨b,1,none⟩) hB _
set_option maxHeartbeats 2000000 in
set_option maxRecDepth 100000 in
theorem wrString_any (B b:Nat) (l:List UInt8) (w:World) (h:WrB B b l w) (h0:l≠[]) :
  Calls Tryz.prog 54 #[.pointer (some ⟨b,0,none⟩)] w fun e w'=>e=.returned (.string ⟨l.toArray⟩)∧Below B w w'∧Lib.OthersKept 5 (some b) w w':=by
 obtain ⟨p,hAt⟩:∃ p,Lib.BuilderAtF 106 5 B b p (Lib.byteCells l) w:=by
  rcases h with h | h
  ·exact ⟨_,h⟩
  ·exact ⟨_,h⟩
 obtain ⟨hB,v,hbk,hown,hne⟩:=hAt
 have hl0:l.length≠0:=by simpa using h0
 rw [Lib.byteCells_length] at hown
 obtain ⟨g,cap,cur,fz,rfl,hbg,hg,hfz,hnc,hcm,hcs,htake⟩:∃ g cap cur fz,v=.slice (some ⟨g,0,none⟩) l.length cap∧B≤g∧w.heap[g]?=some (.cells cur 5 fz)∧fz.2≤l.length*1∧l.length≤cap∧cap≤maxLen∧cur.size=cap*1∧cur.toList.take (l.length*1)=Lib.byteCells l:=by
  rcases hown.2 with ⟨_,hz⟩ | ⟨g,cap,cur,fz,hv,r⟩
  ·exact absurd hz hl0
  ·exact ⟨g,cap,cur,fz,hv,r⟩
 have c1:w.drew.cell? ⟨b,1,none⟩=some (.slice (some ⟨g,0,none⟩) l.length cap):=by
  have:w.drew.heap[b]?=some (.cells #[p,.slice (some ⟨g,0,none⟩) l.length cap] 106 (0,0)):=hbk
  rw [Lib.cell_of_heap this];rfl
 have hSD:=Lib.run_unsafeSliceData_row (P:=Tryz.prog) w.drew #[85] 124 ⟨g,0,none⟩ l.length cap (by omega)
 have hUS:=Lib.run_unsafeString_row (P:=Tryz.prog) w.drew 124 3 9 5 Tryz.underlying124 buildExtra.cellsByte g cur.size (by have hg':w.drew.heap[g]?=some (.cells cur 5 fz):=hg;simp [World.shape?,hg']) l h0 (by omega) (by unfold maxLen at hcm;omega) (fun j x hx=>hown.cells (g:=g) rfl j (.int .u8 x.toNat) (by simp [Lib.byteCells,hx]))
 have mixed:Tryz.prog.follows .mixedOrders=true:=buildLays169.mixed
 go_enter Tryz.func54,Tryz.ntmps54
 go_wp2
 go_region_o
 all_goals (go_wp2;go_ret;exact ⟨rfl,Lib.below_freeze (Below.drew (Below.refl B w)) (p:=⟨g,0,none⟩) hbg _,((Lib.OthersKept.refl _ _ w).drew).freeze ⟨g,0,none⟩ _ ⟨cur,fz,hg⟩⟩)
end Go.Proofs.YtbmfahgekcnkaajGreatDoor
namespace Go.Proofs.YtbmfahgekcnkaajGreatDoor
open Go.RowKit
def WrT (B b:Nat) (t:ByteArray) (w:World):Prop:=WrB B b t.data.toList w
structure WrS (B b:Nat) (t:ByteArray) (w w':World):Prop where
 has:WrT B b t w'
 below:Below B w w'
 kept:Lib.OthersKept 5 (some b) w w'
theorem kept_of_below {b:Option Nat} {e:TypeId} {w w':World} (h:Below w.heap.size w w'):Lib.OthersKept e b w w':=by
 intro k o hk _ _
 exact (h.block k (Array.getElem?_eq_some_iff.1 hk).1).trans hk
theorem WrS.refl {B b:Nat} {t:ByteArray} {w:World} (h:WrT B b t w):WrS B b t w w:=⟨h,Below.refl _ _,Lib.OthersKept.refl _ _ _⟩
theorem WrS.trans {B b:Nat} {t u:ByteArray} {w w1 w2:World} (h:WrS B b t w w1) (k:WrS B b u w1 w2):WrS B b u w w2:=⟨k.has,h.below.trans k.below,h.kept.trans k.kept⟩
theorem WrS.more {B b:Nat} {t:ByteArray} {w w1 w2:World} (h:WrS B b t w w1) (k:Below w1.heap.size w1 w2) (hB:B≤w1.heap.size):WrS B b t w w2 :=
 ⟨WrB.below h.has k,h.below.trans (k.mono hB),h.kept.trans (kept_of_below k)⟩
theorem WrS.row {B b:Nat} {t:ByteArray} {w w':World} (h:WrS B b t w w') {g:Nat} {cs:Array Value} {ty:TypeId} (hg:w.heap[g]?=some (.cells cs ty (0,0))) (hne:g≠b) (ht:ty≠5):w'.heap[g]?=some (.cells cs ty (0,0)) :=
 kept_row h.kept hg hne ht
theorem WrT.lt {B b:Nat} {t:ByteArray} {w:World} (h:WrT B b t w):B≤b∧b < w.heap.size:=WrB.lt h
set_option maxHeartbeats 800000 in
theorem wrNumber_any (B b:Nat) (t:ByteArray) (n:Int) (w:World) (h:WrT B b t w) (h0:0≤n) (h1:n≤1099511627776) (ht:t.size≤1000000000) :
  Calls Tryz.prog 80 #[.pointer (some ⟨b,0,none⟩),.int .i64 n] w fun e w'=>e=.returned (.tuple #[])∧WrS B b (t++numOut n) w w':=by
 have hlt:=h.lt
 have hsn:=numOut_le n
 have CN:Hid (∀ w,Calls Tryz.prog 64 #[.int .i64 n] w fun e w'=>e=.returned (.tuple #[.string (numOut n),.int .i64 0])∧Below w.heap.size w w'):=fun w=>number_ok n w h0 h1
 obtain ⟨s,hs⟩:∃ s,s=numOut n:=⟨_,rfl⟩
 rw [←hs] at CN hsn ⊢
 have HT:=ghid h
 have hts:t.data.toList.length=t.size:=by simp
 have HTS:=ghid hts
 clear hs h h0 h1 hts
 go_enter Tryz.func80,Tryz.ntmps80
 go_wp2_with fail
 refine (CN.out _).mono ?_
 rintro e w1 ⟨rfl,hb1⟩
 have hz1:=hb1.size
 have CW:=ghid (wrWrite_any B b t.data.toList s w1 (WrB.below HT.out hb1) (by have:=HTS.out;omega) (by omega))
 have HS1:=ghid ((WrS.refl HT.out).more hb1 (by omega))
 clear hb1
 go_wp2_with fail
 refine CW.out.mono ?_
 rintro e w2 ⟨rfl,h2,hb2,hk2⟩
 have HS2:Hid (WrS B b (t++s) w w2):=HS1.out.trans ⟨by unfold WrT;simpa using h2,hb2,hk2⟩
 clear h2 hb2 hk2
 go_wp2
 go_end0
 exact ⟨rfl,HS2.out⟩
set_option maxHeartbeats 800000 in
theorem wrText_any (B b:Nat) (t:ByteArray) (x:ByteArray) (w:World) (h:WrT B b t w) (h0:x.size≤5000) (ht:t.size≤1000000000) :
  Calls Tryz.prog 117 #[.pointer (some ⟨b,0,none⟩),.string x] w fun e w'=>e=.returned (.tuple #[])∧WrS B b (t++textOut x) w w':=by
 have hlt:=h.lt
 have hsn:=textOut_size x
 have CN:Hid (∀ w,Calls Tryz.prog 66 #[.string x] w fun e w'=>e=.returned (.tuple #[.string (textOut x),.int .i64 0])∧Below w.heap.size w w'):=fun w=>text_ok x w h0
 obtain ⟨s,hs⟩:∃ s,s=textOut x:=⟨_,rfl⟩
 rw [←hs] at CN hsn ⊢
 have HT:=ghid h
 have hts:t.data.toList.length=t.size:=by simp
 have HTS:=ghid hts
 clear hs h hts
 go_enter Tryz.func117,Tryz.ntmps117
 go_wp2_with fail
 refine (CN.out _).mono ?_
 rintro e w1 ⟨rfl,hb1⟩
 have hz1:=hb1.size
 have CW:=ghid (wrWrite_any B b t.data.toList s w1 (WrB.below HT.out hb1) (by have:=HTS.out;omega) (by omega))
 have HS1:=ghid ((WrS.refl HT.out).more hb1 (by omega))
 clear hb1
 go_wp2_with fail
 refine CW.out.mono ?_
 rintro e w2 ⟨rfl,h2,hb2,hk2⟩
 have HS2:Hid (WrS B b (t++s) w w2):=HS1.out.trans ⟨by unfold WrT;simpa using h2,hb2,hk2⟩
 clear h2 hb2 hk2
 go_wp2
 go_end0
 exact ⟨rfl,HS2.out⟩
end Go.Proofs.YtbmfahgekcnkaajGreatDoor
namespace Go.Proofs.YtbmfahgekcnkaajGreatDoor
open Go.RowKit
def WrC (cl:Nat) {α:Type} (out:α→ByteArray) (V:World→Nat→Value→α→Prop) (ok:α→Prop):Prop :=
 ∀ (B b:Nat) (t:ByteArray) (ev:Value) (x:α) (w:World),V w B ev x→ok x→B≤w.heap.size→WrT B b t w→t.size+(out x).size≤1000000000 →
  Calls Tryz.prog cl #[.pointer (some ⟨b,0,none⟩),ev] w fun e w'=>e=.returned (.tuple #[])∧WrS B b (t++out x) w w'
theorem catB_take_le {α:Type} (out:α→ByteArray) (xs:List α) (k:Nat):(catB ((xs.take k).map out)).size≤(catB (xs.map out)).size:=by
 have e:xs.map out=(xs.take k).map out++(xs.drop k).map out:=by rw [←List.map_append,List.take_append_drop]
 rw [e,catB_append,ByteArray.size_append]
 omega
theorem catB_step {α:Type} (out:α→ByteArray) {xs:List α} {k:Nat} {x:α} (h:xs[k]?=some x) (t:ByteArray):(t++catB ((xs.take k).map out))++out x=t++catB ((xs.take (k+1)).map out):=by
 rw [take_snocC h,List.map_append,List.map_cons,List.map_nil,catB_snoc,ByteArray.append_assoc]
theorem catB_fits {α:Type} (out:α→ByteArray) {xs:List α} {k:Nat} {x:α} (h:xs[k]?=some x) (t:ByteArray):(t++catB ((xs.take k).map out)).size+(out x).size≤t.size+(catB (xs.map out)).size:=by
 rw [←ByteArray.size_append,catB_step out h t,ByteArray.size_append]
 have:=catB_take_le out xs (k+1)
 omega
theorem wr_alloc {B b:Nat} {t:ByteArray} {w w1:World} (h:WrS B b t w w1) (hB:B≤w1.heap.size) (o:Obj):WrS B b t w (w1.alloc o):=h.more ((Below.refl _ _).alloc (Nat.le_refl _) _) hB
set_option maxRecDepth 100000 in
set_option maxHeartbeats 1600000 in
theorem wlistInt (B b:Nat) (t:ByteArray) (v:Value) (xs:List Int) (cl:Nat) (out:Int→ByteArray) (w:World) (hv:IntsR w B v xs) (_hB:B≤w.heap.size) (hw:WrT B b t w) (hlen:(xs.length:Int)≤1099511627776) (hsz:t.size+(numOut xs.length++catB (xs.map out)).size≤1000000000)
  (eg:∀ args w,(callFunc cl args).run Tryz.prog w=.ok (.enter cl args) w) (hc:WrC cl out IntV (fun x=>x∈xs)) :
  Calls Tryz.prog 118 #[.pointer (some ⟨b,0,none⟩),v,.func (.func cl) #[.pointer (some ⟨b,0,none⟩)] #[]] w fun e w'=>e=.returned (.tuple #[])∧WrS B b (t++(numOut xs.length++catB (xs.map out))) w w':=by
 have hlt:=hw.lt
 have HC:=ghid hc
 obtain ⟨ao,cap,rfl,h1,h2,h3,h4⟩:=hv
 rw [ByteArray.size_append] at hsz
 have CN:=ghid (wrNumber_any B b t xs.length w hw (by omega) hlen (by omega))
 rw [←ByteArray.append_assoc]
 have hts:(t++numOut xs.length).size+(catB (xs.map out)).size≤1000000000:=by rw [ByteArray.size_append];omega
 obtain ⟨tn,htn⟩:∃ tn,tn=t++numOut xs.length:=⟨_,rfl⟩
 rw [←htn] at CN hts ⊢
 clear hc htn hsz hw
 go_enter Tryz.func118,Tryz.ntmps118
 go_wp2_with fail
 refine CN.out.mono ?_
 rintro e w1 ⟨rfl,hs1⟩
 have HS1:=ghid hs1
 clear hs1 CN
 go_wp2_with fail
 go_loopw [14] (fun i wr=>∃ k:Nat,k≤xs.length∧i=.int .i64 k∧WrS B b (tn++catB ((xs.take k).map out)) w wr) (fun i _=>xs.length - (intOf i).toNat)
 case atStart=>exact ⟨0,Nat.zero_le _,rfl,by rw [List.take_zero,List.map_nil,catB_nil,bnil];exact HS1.out⟩
 case round =>
  obtain ⟨k,hk,rfl,hs⟩:=hrel
  have HS:=ghid hs
  have hb:=hs.below
  have hzr:=hb.size
  clear hs HS1
  by_cases hlt2:k < xs.length
  ·obtain ⟨g,off,rfl,hbB,hc⟩:=h4 (by omega)
   obtain ⟨x,hx⟩:∃ x,xs[k]?=some x:=⟨_,List.getElem?_eq_getElem hlt2⟩
   have hm:=List.mem_of_getElem? hx
   have hfit:=catB_fits out hx tn
   have HST:=ghid (catB_step out hx tn)
   have c0:=(hb.cell (p:=⟨g,off+k,none⟩) hbB).trans (hc k x hx)
   have HSA:=HS
   have CW:=ghid (HC.out B b _ (.int .i64 x) x wr rfl hm (by omega) HSA.out.has (by omega))
   clear hx hc h4 hb hm HC
   go_wp2_with fail
   refine CW.out.mono ?_
   rintro e w2 ⟨rfl,hs2⟩
   have HS2:=ghid (HSA.out.trans hs2)
   rw [HST.out] at HS2
   clear hs2 CW HST
   go_wp2
   go_roundw
   case rel=>exact ⟨k+1,by omega,by go_num,HS2.out⟩
   case measure=>simp [intOf];omega
  ·have hkl:k=xs.length:=by omega
   subst hkl
   rw [List.take_length] at HS
   clear h4 hb
   go_wp2
   go_end0
   exact ⟨rfl,HS.out⟩
set_option maxRecDepth 100000 in
set_option maxHeartbeats 1600000 in
theorem wlistKept (B b:Nat) (t:ByteArray) (v:Value) (xs:List KeptD) (cl:Nat) (out:KeptD→ByteArray) (w:World) (hv:KeptsR w B v xs) (hB:B≤w.heap.size) (hw:WrT B b t w) (hlen:(xs.length:Int)≤1099511627776) (hsz:t.size+(numOut xs.length++catB (xs.map out)).size≤1000000000)
  (eg:∀ args w,(callFunc cl args).run Tryz.prog w=.ok (.enter cl args) w) (hc:WrC cl out KeptV (fun x=>x∈xs)) :
  Calls Tryz.prog 119 #[.pointer (some ⟨b,0,none⟩),v,.func (.func cl) #[.pointer (some ⟨b,0,none⟩)] #[]] w fun e w'=>e=.returned (.tuple #[])∧WrS B b (t++(numOut xs.length++catB (xs.map out))) w w':=by
 have hlt:=hw.lt
 have HC:=ghid hc
 obtain ⟨ao,cap,rfl,h1,h2,h3,h4⟩:=hv
 rw [ByteArray.size_append] at hsz
 have CN:=ghid (wrNumber_any B b t xs.length w hw (by omega) hlen (by omega))
 rw [←ByteArray.append_assoc]
 have hts:(t++numOut xs.length).size+(catB (xs.map out)).size≤1000000000:=by rw [ByteArray.size_append];omega
 obtain ⟨tn,htn⟩:∃ tn,tn=t++numOut xs.length:=⟨_,rfl⟩
 rw [←htn] at CN hts ⊢
 clear hc htn hsz hw
 go_enter Tryz.func119,Tryz.ntmps119
 go_wp2_with fail
 refine CN.out.mono ?_
 rintro e w1 ⟨rfl,hs1⟩
 have HS1:=ghid hs1
 clear hs1 CN
 go_wp2_with fail
 go_loopw [14] (fun i wr=>∃ k:Nat,k≤xs.length∧i=.int .i64 k∧WrS B b (tn++catB ((xs.take k).map out)) w wr) (fun i _=>xs.length - (intOf i).toNat)
 case atStart=>exact ⟨0,Nat.zero_le _,rfl,by rw [List.take_zero,List.map_nil,catB_nil,bnil];exact HS1.out⟩
 case round =>
  obtain ⟨k,hk,rfl,hs⟩:=hrel
  have HS:=ghid hs
  have hb:=hs.below
  have hzr:=hb.size
  clear hs HS1
  by_cases hlt2:k < xs.length
  ·obtain ⟨g,off,rfl,hbB,hc⟩:=h4 (by omega)
   obtain ⟨x,hx⟩:∃ x,xs[k]?=some x:=⟨_,List.getElem?_eq_getElem hlt2⟩
   have hm:=List.mem_of_getElem? hx
   have hfit:=catB_fits out hx tn
   have HST:=ghid (catB_step out hx tn)
   obtain ⟨c0,c1,c2,c3,hs,-⟩:=(hc k x hx).below hbB hb
   obtain ⟨xs0,xc,xn,xt⟩:=x
   simp only at c0 c1 c2 c3 hs
   have hba:Below wr.heap.size wr (wr.alloc (.cells #[.int .i64 xs0,.int .i64 xc,.int .i64 xn,.string xt] 170)):=(Below.refl _ _).alloc (Nat.le_refl _) _
   have HSA:=ghid (wr_alloc HS.out (Nat.le_trans hB hzr) (.cells #[.int .i64 xs0,.int .i64 xc,.int .i64 xn,.string xt] 170))
   have CW:=ghid (HC.out B b _ (.agg #[.int .i64 xs0,.int .i64 xc,.int .i64 xn,.string xt]) ⟨xs0,xc,xn,xt⟩ (wr.alloc (.cells #[.int .i64 xs0,.int .i64 xc,.int .i64 xn,.string xt] 170)) ⟨rfl,hs⟩ hm (by simp;omega) HSA.out.has (by omega))
   clear hba hx hc h4 hb hm HC
   go_wp2_with fail
   refine CW.out.mono ?_
   rintro e w2 ⟨rfl,hs2⟩
   have HS2:=ghid (HSA.out.trans hs2)
   rw [HST.out] at HS2
   clear hs2 CW HST
   go_wp2
   go_roundw
   case rel=>exact ⟨k+1,by omega,by go_num,HS2.out⟩
   case measure=>simp [intOf];omega
  ·have hkl:k=xs.length:=by omega
   subst hkl
   rw [List.take_length] at HS
   clear h4 hb
   go_wp2
   go_end0
   exact ⟨rfl,HS.out⟩
set_option maxRecDepth 100000 in
set_option maxHeartbeats 1600000 in
theorem wlistLock (B b:Nat) (t:ByteArray) (v:Value) (xs:List LockD) (cl:Nat) (out:LockD→ByteArray) (w:World) (hv:LocksR w B v xs) (hB:B≤w.heap.size) (hw:WrT B b t w) (hlen:(xs.length:Int)≤1099511627776) (hsz:t.size+(numOut xs.length++catB (xs.map out)).size≤1000000000)
  (eg:∀ args w,(callFunc cl args).run Tryz.prog w=.ok (.enter cl args) w) (hc:WrC cl out LockV (fun x=>x∈xs)) :
  Calls Tryz.prog 81 #[.pointer (some ⟨b,0,none⟩),v,.func (.func cl) #[.pointer (some ⟨b,0,none⟩)] #[]] w fun e w'=>e=.returned (.tuple #[])∧WrS B b (t++(numOut xs.length++catB (xs.map out))) w w':=by
 have hlt:=hw.lt
 have HC:=ghid hc
 obtain ⟨ao,cap,rfl,h1,h2,h3,h4⟩:=hv
 rw [ByteArray.size_append] at hsz
 have CN:=ghid (wrNumber_any B b t xs.length w hw (by omega) hlen (by omega))
 rw [←ByteArray.append_assoc]
 have hts:(t++numOut xs.length).size+(catB (xs.map out)).size≤1000000000:=by rw [ByteArray.size_append];omega
 obtain ⟨tn,htn⟩:∃ tn,tn=t++numOut xs.length:=⟨_,rfl⟩
 rw [←htn] at CN hts ⊢
 clear hc htn hsz hw
 go_enter Tryz.func81,Tryz.ntmps81
 go_wp2_with fail
 refine CN.out.mono ?_
 rintro e w1 ⟨rfl,hs1⟩
 have HS1:=ghid hs1
 clear hs1 CN
 go_wp2_with fail
 go_loopw [14] (fun i wr=>∃ k:Nat,k≤xs.length∧i=.int .i64 k∧WrS B b (tn++catB ((xs.take k).map out)) w wr) (fun i _=>xs.length - (intOf i).toNat)
 case atStart=>exact ⟨0,Nat.zero_le _,rfl,by rw [List.take_zero,List.map_nil,catB_nil,bnil];exact HS1.out⟩
 case round =>
  obtain ⟨k,hk,rfl,hs⟩:=hrel
  have HS:=ghid hs
  have hb:=hs.below
  have hzr:=hb.size
  clear hs HS1
  by_cases hlt2:k < xs.length
  ·obtain ⟨g,off,rfl,hbB,hc⟩:=h4 (by omega)
   obtain ⟨x,hx⟩:∃ x,xs[k]?=some x:=⟨_,List.getElem?_eq_getElem hlt2⟩
   have hm:=List.mem_of_getElem? hx
   have hfit:=catB_fits out hx tn
   have HST:=ghid (catB_step out hx tn)
   obtain ⟨lv,c0,c1,c2,c3,hl,hs⟩:=(hc k x hx).below hbB hb (Nat.le_refl _)
   obtain ⟨lo,lc,rfl,-⟩:=id hl
   obtain ⟨xn,xh,xf,xl⟩:=x
   simp only at c0 c1 c2 c3 hl hs
   have hba:Below wr.heap.size wr (wr.alloc (.cells #[.string xn,.int .i64 xh,.int .i64 xf,.slice lo xl.length lc] 126)):=(Below.refl _ _).alloc (Nat.le_refl _) _
   have HSA:=ghid (wr_alloc HS.out (Nat.le_trans hB hzr) (.cells #[.string xn,.int .i64 xh,.int .i64 xf,.slice lo xl.length lc] 126))
   have CW:=ghid (HC.out B b _ (.agg #[.string xn,.int .i64 xh,.int .i64 xf,.slice lo xl.length lc]) ⟨xn,xh,xf,xl⟩ (wr.alloc (.cells #[.string xn,.int .i64 xh,.int .i64 xf,.slice lo xl.length lc] 126)) ⟨_,rfl,hl.below hba (Nat.le_trans hB hzr),hs⟩ hm (by simp;omega) HSA.out.has (by omega))
   clear hba hl hx hc h4 hb hm HC
   go_wp2_with fail
   refine CW.out.mono ?_
   rintro e w2 ⟨rfl,hs2⟩
   have HS2:=ghid (HSA.out.trans hs2)
   rw [HST.out] at HS2
   clear hs2 CW HST
   go_wp2
   go_roundw
   case rel=>exact ⟨k+1,by omega,by go_num,HS2.out⟩
   case measure=>simp [intOf];omega
  ·have hkl:k=xs.length:=by omega
   subst hkl
   rw [List.take_length] at HS
   clear h4 hb
   go_wp2
   go_end0
   exact ⟨rfl,HS.out⟩
set_option maxRecDepth 100000 in
set_option maxHeartbeats 1600000 in
theorem wlistPair (B b:Nat) (t:ByteArray) (v:Value) (xs:List PairD) (cl:Nat) (out:PairD→ByteArray) (w:World) (hv:PairsR w B v xs) (hB:B≤w.heap.size) (hw:WrT B b t w) (hlen:(xs.length:Int)≤1099511627776) (hsz:t.size+(numOut xs.length++catB (xs.map out)).size≤1000000000)
  (eg:∀ args w,(callFunc cl args).run Tryz.prog w=.ok (.enter cl args) w) (hc:WrC cl out PairV (fun x=>x∈xs)) :
  Calls Tryz.prog 83 #[.pointer (some ⟨b,0,none⟩),v,.func (.func cl) #[.pointer (some ⟨b,0,none⟩)] #[]] w fun e w'=>e=.returned (.tuple #[])∧WrS B b (t++(numOut xs.length++catB (xs.map out))) w w':=by
 have hlt:=hw.lt
 have HC:=ghid hc
 obtain ⟨ao,cap,rfl,h1,h2,h3,h4⟩:=hv
 rw [ByteArray.size_append] at hsz
 have CN:=ghid (wrNumber_any B b t xs.length w hw (by omega) hlen (by omega))
 rw [←ByteArray.append_assoc]
 have hts:(t++numOut xs.length).size+(catB (xs.map out)).size≤1000000000:=by rw [ByteArray.size_append];omega
 obtain ⟨tn,htn⟩:∃ tn,tn=t++numOut xs.length:=⟨_,rfl⟩
 rw [←htn] at CN hts ⊢
 clear hc htn hsz hw
 go_enter Tryz.func83,Tryz.ntmps83
 go_wp2_with fail
 refine CN.out.mono ?_
 rintro e w1 ⟨rfl,hs1⟩
 have HS1:=ghid hs1
 clear hs1 CN
 go_wp2_with fail
 go_loopw [14] (fun i wr=>∃ k:Nat,k≤xs.length∧i=.int .i64 k∧WrS B b (tn++catB ((xs.take k).map out)) w wr) (fun i _=>xs.length - (intOf i).toNat)
 case atStart=>exact ⟨0,Nat.zero_le _,rfl,by rw [List.take_zero,List.map_nil,catB_nil,bnil];exact HS1.out⟩
 case round =>
  obtain ⟨k,hk,rfl,hs⟩:=hrel
  have HS:=ghid hs
  have hb:=hs.below
  have hzr:=hb.size
  clear hs HS1
  by_cases hlt2:k < xs.length
  ·obtain ⟨g,off,rfl,hbB,hc⟩:=h4 (by omega)
   obtain ⟨x,hx⟩:∃ x,xs[k]?=some x:=⟨_,List.getElem?_eq_getElem hlt2⟩
   have hm:=List.mem_of_getElem? hx
   have hfit:=catB_fits out hx tn
   have HST:=ghid (catB_step out hx tn)
   obtain ⟨c0,c1,c2,hs0,hs1,-⟩:=(hc k x hx).below hbB hb
   obtain ⟨xn,xv,xk⟩:=x
   simp only at c0 c1 c2 hs0 hs1
   have hba:Below wr.heap.size wr (wr.alloc (.cells #[.string xn,.string xv,.int .i64 xk] 129)):=(Below.refl _ _).alloc (Nat.le_refl _) _
   have HSA:=ghid (wr_alloc HS.out (Nat.le_trans hB hzr) (.cells #[.string xn,.string xv,.int .i64 xk] 129))
   have CW:=ghid (HC.out B b _ (.agg #[.string xn,.string xv,.int .i64 xk]) ⟨xn,xv,xk⟩ (wr.alloc (.cells #[.string xn,.string xv,.int .i64 xk] 129)) ⟨rfl,hs0,hs1⟩ hm (by simp;omega) HSA.out.has (by omega))
   clear hba hx hc h4 hb hm HC
   go_wp2_with fail
   refine CW.out.mono ?_
   rintro e w2 ⟨rfl,hs2⟩
   have HS2:=ghid (HSA.out.trans hs2)
   rw [HST.out] at HS2
   clear hs2 CW HST
   go_wp2
   go_roundw
   case rel=>exact ⟨k+1,by omega,by go_num,HS2.out⟩
   case measure=>simp [intOf];omega
  ·have hkl:k=xs.length:=by omega
   subst hkl
   rw [List.take_length] at HS
   clear h4 hb
   go_wp2
   go_end0
   exact ⟨rfl,HS.out⟩
set_option maxRecDepth 100000 in
set_option maxHeartbeats 1600000 in
theorem wlistSess (B b:Nat) (t:ByteArray) (v:Value) (xs:List SessD) (cl:Nat) (out:SessD→ByteArray) (w:World) (hv:SessR w B v xs) (hB:B≤w.heap.size) (hw:WrT B b t w) (hlen:(xs.length:Int)≤1099511627776) (hsz:t.size+(numOut xs.length++catB (xs.map out)).size≤1000000000)
  (eg:∀ args w,(callFunc cl args).run Tryz.prog w=.ok (.enter cl args) w) (hc:WrC cl out SessV (fun x=>x∈xs)) :
  Calls Tryz.prog 85 #[.pointer (some ⟨b,0,none⟩),v,.func (.func cl) #[.pointer (some ⟨b,0,none⟩)] #[]] w fun e w'=>e=.returned (.tuple #[])∧WrS B b (t++(numOut xs.length++catB (xs.map out))) w w':=by
 have hlt:=hw.lt
 have HC:=ghid hc
 obtain ⟨ao,cap,rfl,h1,h2,h3,h4⟩:=hv
 rw [ByteArray.size_append] at hsz
 have CN:=ghid (wrNumber_any B b t xs.length w hw (by omega) hlen (by omega))
 rw [←ByteArray.append_assoc]
 have hts:(t++numOut xs.length).size+(catB (xs.map out)).size≤1000000000:=by rw [ByteArray.size_append];omega
 obtain ⟨tn,htn⟩:∃ tn,tn=t++numOut xs.length:=⟨_,rfl⟩
 rw [←htn] at CN hts ⊢
 clear hc htn hsz hw
 go_enter Tryz.func85,Tryz.ntmps85
 go_wp2_with fail
 refine CN.out.mono ?_
 rintro e w1 ⟨rfl,hs1⟩
 have HS1:=ghid hs1
 clear hs1 CN
 go_wp2_with fail
 go_loopw [14] (fun i wr=>∃ k:Nat,k≤xs.length∧i=.int .i64 k∧WrS B b (tn++catB ((xs.take k).map out)) w wr) (fun i _=>xs.length - (intOf i).toNat)
 case atStart=>exact ⟨0,Nat.zero_le _,rfl,by rw [List.take_zero,List.map_nil,catB_nil,bnil];exact HS1.out⟩
 case round =>
  obtain ⟨k,hk,rfl,hs⟩:=hrel
  have HS:=ghid hs
  have hb:=hs.below
  have hzr:=hb.size
  clear hs HS1
  by_cases hlt2:k < xs.length
  ·obtain ⟨g,off,rfl,hbB,hc⟩:=h4 (by omega)
   obtain ⟨x,hx⟩:∃ x,xs[k]?=some x:=⟨_,List.getElem?_eq_getElem hlt2⟩
   have hm:=List.mem_of_getElem? hx
   have hfit:=catB_fits out hx tn
   have HST:=ghid (catB_step out hx tn)
   obtain ⟨lv,c0,c1,c2,c3,c4,hl,-⟩:=(hc k x hx).below hbB hb (Nat.le_refl _)
   obtain ⟨lo,lc,rfl,-⟩:=id hl
   obtain ⟨xc,xi,xa,xz,xl⟩:=x
   simp only at c0 c1 c2 c3 c4 hl
   have hba:Below wr.heap.size wr (wr.alloc (.cells #[.int .i64 xc,.int .i64 xi,.int .i64 xa,.int .i64 xz,.slice lo xl.length lc] 132)):=(Below.refl _ _).alloc (Nat.le_refl _) _
   have HSA:=ghid (wr_alloc HS.out (Nat.le_trans hB hzr) (.cells #[.int .i64 xc,.int .i64 xi,.int .i64 xa,.int .i64 xz,.slice lo xl.length lc] 132))
   have CW:=ghid (HC.out B b _ (.agg #[.int .i64 xc,.int .i64 xi,.int .i64 xa,.int .i64 xz,.slice lo xl.length lc]) ⟨xc,xi,xa,xz,xl⟩ (wr.alloc (.cells #[.int .i64 xc,.int .i64 xi,.int .i64 xa,.int .i64 xz,.slice lo xl.length lc] 132)) ⟨_,rfl,hl.below hba (Nat.le_trans hB hzr)⟩ hm (by simp;omega) HSA.out.has (by omega))
   clear hba hl hx hc h4 hb hm HC
   go_wp2_with fail
   refine CW.out.mono ?_
   rintro e w2 ⟨rfl,hs2⟩
   have HS2:=ghid (HSA.out.trans hs2)
   rw [HST.out] at HS2
   clear hs2 CW HST
   go_wp2
   go_roundw
   case rel=>exact ⟨k+1,by omega,by go_num,HS2.out⟩
   case measure=>simp [intOf];omega
  ·have hkl:k=xs.length:=by omega
   subst hkl
   rw [List.take_length] at HS
   clear h4 hb
   go_wp2
   go_end0
   exact ⟨rfl,HS.out⟩
end Go.Proofs.YtbmfahgekcnkaajGreatDoor
namespace Go.Proofs.YtbmfahgekcnkaajGreatDoor
open Go.RowKit
theorem WrC.mono {cl:Nat} {α:Type} {out:α→ByteArray} {V:World→Nat→Value→α→Prop} {ok ok':α→Prop} (h:WrC cl out V ok) (hi:∀ x,ok' x→ok x):WrC cl out V ok' :=
 fun B b t ev x w hv ho=>h B b t ev x w hv (hi x ho)
theorem wrNumber_c {ok:Int→Prop} (h:∀ x,ok x→0≤x∧x≤1099511627776):WrC 80 numOut IntV ok:=by
 intro B b t ev x w hv ho hB hw hz
 obtain rfl:=hv
 exact wrNumber_any B b t x w hw (h x ho).1 (h x ho).2 (by omega)
theorem wr_number_enters:∀ args w,(callFunc 80 args).run Tryz.prog w=.ok (.enter 80 args) w:=enters_of Tryz.func80 (by decide) rfl
theorem wr_kept_enters:∀ args w,(callFunc 120 args).run Tryz.prog w=.ok (.enter 120 args) w:=enters_of Tryz.func120 (by decide) rfl
theorem wr_pair_enters:∀ args w,(callFunc 84 args).run Tryz.prog w=.ok (.enter 84 args) w:=enters_of Tryz.func84 (by decide) rfl
theorem wr_lock_enters:∀ args w,(callFunc 82 args).run Tryz.prog w=.ok (.enter 82 args) w:=enters_of Tryz.func82 (by decide) rfl
theorem wr_session_enters:∀ args w,(callFunc 86 args).run Tryz.prog w=.ok (.enter 86 args) w:=enters_of Tryz.func86 (by decide) rfl
theorem wr_cells {w:World} {b:Nat} {cs:Array Value} {t:TypeId} (h:w.heap[b]?=some (.cells cs t (0,0))) (j:Nat):w.cell? ⟨b,j,none⟩=cs[j]?:=Lib.cell_of_heap h j
def okK (k:KeptD):Prop:=0≤k.seq∧k.seq≤1099511627776∧0≤k.code∧k.code≤1099511627776∧0≤k.n∧k.n≤1099511627776∧k.text.size≤5000
set_option maxRecDepth 100000 in
set_option maxHeartbeats 1600000 in
theorem wr_kept:WrC 120 keptOut KeptV okK:=by
 intro B b t ev x w hv hok hB hw hz
 obtain ⟨rfl,-⟩:=hv
 obtain ⟨xs0,xc,xn,xt⟩:=x
 unfold okK at hok
 simp only at hok
 have hlt:=hw.lt
 obtain ⟨t1,ht1⟩:∃ t1,t1=t++numOut xs0:=⟨_,rfl⟩
 obtain ⟨t2,ht2⟩:∃ t2,t2=t1++numOut xc:=⟨_,rfl⟩
 obtain ⟨t3,ht3⟩:∃ t3,t3=t2++numOut xn:=⟨_,rfl⟩
 obtain ⟨t4,ht4⟩:∃ t4,t4=t3++textOut xt:=⟨_,rfl⟩
 have hfin:t++keptOut ⟨xs0,xc,xn,xt⟩=t4:=by rw [ht4,ht3,ht2,ht1];simp only [keptOut,ByteArray.append_assoc]
 have hz':t4.size≤1000000000:=by rw [←hfin,ByteArray.size_append];exact hz
 have hz1:t1.size=t.size+(numOut xs0).size:=by rw [ht1,ByteArray.size_append]
 have hz2:t2.size=t1.size+(numOut xc).size:=by rw [ht2,ByteArray.size_append]
 have hz3:t3.size=t2.size+(numOut xn).size:=by rw [ht3,ByteArray.size_append]
 have hz4:t4.size=t3.size+(textOut xt).size:=by rw [ht4,ByteArray.size_append]
 rw [hfin]
 have HT0:=ghid ht1
 have HT1:=ghid ht2
 have HT2:=ghid ht3
 have HT3:=ghid ht4
 have HOK0:Hid (0≤xs0∧xs0≤1099511627776):=⟨hok.1,hok.2.1⟩
 have HOK1:Hid (0≤xc∧xc≤1099511627776):=⟨hok.2.2.1,hok.2.2.2.1⟩
 have HOK2:Hid (0≤xn∧xn≤1099511627776):=⟨hok.2.2.2.2.1,hok.2.2.2.2.2.1⟩
 have HOK3:Hid (xt.size≤5000):=hok.2.2.2.2.2.2
 clear ht1 ht2 ht3 ht4 hfin hok hz
 have hba:Below w.heap.size w (w.alloc (.cells #[.int .i64 xs0,.int .i64 xc,.int .i64 xn,.string xt] 170)):=(Below.refl _ _).alloc (Nat.le_refl _) _
 have HS0:=ghid ((WrS.refl hw).more hba hB)
 have HX0:Hid ((w.alloc (.cells #[.int .i64 xs0,.int .i64 xc,.int .i64 xn,.string xt] 170)).heap[w.heap.size]?=some (.cells #[.int .i64 xs0,.int .i64 xc,.int .i64 xn,.string xt] 170 (0,0))):=heap_alloc_new w _
 have c0_0:(w.alloc (.cells #[.int .i64 xs0,.int .i64 xc,.int .i64 xn,.string xt] 170)).cell? ⟨w.heap.size,0,none⟩=some (.int .i64 xs0):=wr_cells HX0.out 0
 have c0_1:(w.alloc (.cells #[.int .i64 xs0,.int .i64 xc,.int .i64 xn,.string xt] 170)).cell? ⟨w.heap.size,1,none⟩=some (.int .i64 xc):=wr_cells HX0.out 1
 have c0_2:(w.alloc (.cells #[.int .i64 xs0,.int .i64 xc,.int .i64 xn,.string xt] 170)).cell? ⟨w.heap.size,2,none⟩=some (.int .i64 xn):=wr_cells HX0.out 2
 have c0_3:(w.alloc (.cells #[.int .i64 xs0,.int .i64 xc,.int .i64 xn,.string xt] 170)).cell? ⟨w.heap.size,3,none⟩=some (.string xt):=wr_cells HX0.out 3
 have hbne:w.heap.size≠b:=by omega
 clear hw hba
 go_enter Tryz.func120,Tryz.ntmps120
 have CW0:=ghid (wrNumber_any B b t xs0 (w.alloc (.cells #[.int .i64 xs0,.int .i64 xc,.int .i64 xn,.string xt] 170)) HS0.out.has HOK0.out.1 HOK0.out.2 (by omega))
 go_wp2_with fail
 refine CW0.out.mono ?_
 rintro e w1 ⟨rfl,hs⟩
 rw [←HT0.out] at hs
 have HS1:=ghid (HS0.out.trans hs)
 have HX1:Hid (w1.heap[w.heap.size]?=some (.cells #[.int .i64 xs0,.int .i64 xc,.int .i64 xn,.string xt] 170 (0,0))):=hs.row HX0.out hbne (by decide)
 clear hs CW0
 have c1_0:w1.cell? ⟨w.heap.size,0,none⟩=some (.int .i64 xs0):=wr_cells HX1.out 0
 have c1_1:w1.cell? ⟨w.heap.size,1,none⟩=some (.int .i64 xc):=wr_cells HX1.out 1
 have c1_2:w1.cell? ⟨w.heap.size,2,none⟩=some (.int .i64 xn):=wr_cells HX1.out 2
 have c1_3:w1.cell? ⟨w.heap.size,3,none⟩=some (.string xt):=wr_cells HX1.out 3
 clear c0_0 c0_1 c0_2 c0_3
 have CW1:=ghid (wrNumber_any B b t1 xc w1 HS1.out.has HOK1.out.1 HOK1.out.2 (by omega))
 go_wp2_with fail
 refine CW1.out.mono ?_
 rintro e w2 ⟨rfl,hs⟩
 rw [←HT1.out] at hs
 have HS2:=ghid (HS1.out.trans hs)
 have HX2:Hid (w2.heap[w.heap.size]?=some (.cells #[.int .i64 xs0,.int .i64 xc,.int .i64 xn,.string xt] 170 (0,0))):=hs.row HX1.out hbne (by decide)
 clear hs CW1
 have c2_0:w2.cell? ⟨w.heap.size,0,none⟩=some (.int .i64 xs0):=wr_cells HX2.out 0
 have c2_1:w2.cell? ⟨w.heap.size,1,none⟩=some (.int .i64 xc):=wr_cells HX2.out 1
 have c2_2:w2.cell? ⟨w.heap.size,2,none⟩=some (.int .i64 xn):=wr_cells HX2.out 2
 have c2_3:w2.cell? ⟨w.heap.size,3,none⟩=some (.string xt):=wr_cells HX2.out 3
 clear c1_0 c1_1 c1_2 c1_3
 have CW2:=ghid (wrNumber_any B b t2 xn w2 HS2.out.has HOK2.out.1 HOK2.out.2 (by omega))
 go_wp2_with fail
 refine CW2.out.mono ?_
 rintro e w3 ⟨rfl,hs⟩
 rw [←HT2.out] at hs
 have HS3:=ghid (HS2.out.trans hs)
 have HX3:Hid (w3.heap[w.heap.size]?=some (.cells #[.int .i64 xs0,.int .i64 xc,.int .i64 xn,.string xt] 170 (0,0))):=hs.row HX2.out hbne (by decide)
 clear hs CW2
 have c3_0:w3.cell? ⟨w.heap.size,0,none⟩=some (.int .i64 xs0):=wr_cells HX3.out 0
 have c3_1:w3.cell? ⟨w.heap.size,1,none⟩=some (.int .i64 xc):=wr_cells HX3.out 1
 have c3_2:w3.cell? ⟨w.heap.size,2,none⟩=some (.int .i64 xn):=wr_cells HX3.out 2
 have c3_3:w3.cell? ⟨w.heap.size,3,none⟩=some (.string xt):=wr_cells HX3.out 3
 clear c2_0 c2_1 c2_2 c2_3
 have CW3:=ghid (wrText_any B b t3 xt w3 HS3.out.has HOK3.out (by omega))
 go_wp2_with fail
 refine CW3.out.mono ?_
 rintro e w4 ⟨rfl,hs⟩
 rw [←HT3.out] at hs
 have HS4:=ghid (HS3.out.trans hs)
 clear hs CW3
 go_wp2
 go_end0
 exact ⟨rfl,HS4.out⟩
def okP (k:PairD):Prop:=k.name.size≤5000∧k.value.size≤5000∧0≤k.version∧k.version≤1099511627776
set_option maxRecDepth 100000 in
set_option maxHeartbeats 1600000 in
theorem wr_pair:WrC 84 pairOut PairV okP:=by
 intro B b t ev x w hv hok hB hw hz
 obtain ⟨rfl,-⟩:=hv
 obtain ⟨xn,xv,xk⟩:=x
 unfold okP at hok
 simp only at hok
 have hlt:=hw.lt
 obtain ⟨t1,ht1⟩:∃ t1,t1=t++textOut xn:=⟨_,rfl⟩
 obtain ⟨t2,ht2⟩:∃ t2,t2=t1++textOut xv:=⟨_,rfl⟩
 obtain ⟨t3,ht3⟩:∃ t3,t3=t2++numOut xk:=⟨_,rfl⟩
 have hfin:t++pairOut ⟨xn,xv,xk⟩=t3:=by rw [ht3,ht2,ht1];simp only [pairOut,ByteArray.append_assoc]
 have hz':t3.size≤1000000000:=by rw [←hfin,ByteArray.size_append];exact hz
 have hz1:t1.size=t.size+(textOut xn).size:=by rw [ht1,ByteArray.size_append]
 have hz2:t2.size=t1.size+(textOut xv).size:=by rw [ht2,ByteArray.size_append]
 have hz3:t3.size=t2.size+(numOut xk).size:=by rw [ht3,ByteArray.size_append]
 rw [hfin]
 have HT0:=ghid ht1
 have HT1:=ghid ht2
 have HT2:=ghid ht3
 have HOK0:Hid (xn.size≤5000):=hok.1
 have HOK1:Hid (xv.size≤5000):=hok.2.1
 have HOK2:Hid (0≤xk∧xk≤1099511627776):=⟨hok.2.2.1,hok.2.2.2⟩
 clear ht1 ht2 ht3 hfin hok hz
 have hba:Below w.heap.size w (w.alloc (.cells #[.string xn,.string xv,.int .i64 xk] 129)):=(Below.refl _ _).alloc (Nat.le_refl _) _
 have HS0:=ghid ((WrS.refl hw).more hba hB)
 have HX0:Hid ((w.alloc (.cells #[.string xn,.string xv,.int .i64 xk] 129)).heap[w.heap.size]?=some (.cells #[.string xn,.string xv,.int .i64 xk] 129 (0,0))):=heap_alloc_new w _
 have c0_0:(w.alloc (.cells #[.string xn,.string xv,.int .i64 xk] 129)).cell? ⟨w.heap.size,0,none⟩=some (.string xn):=wr_cells HX0.out 0
 have c0_1:(w.alloc (.cells #[.string xn,.string xv,.int .i64 xk] 129)).cell? ⟨w.heap.size,1,none⟩=some (.string xv):=wr_cells HX0.out 1
 have c0_2:(w.alloc (.cells #[.string xn,.string xv,.int .i64 xk] 129)).cell? ⟨w.heap.size,2,none⟩=some (.int .i64 xk):=wr_cells HX0.out 2
 have hbne:w.heap.size≠b:=by omega
 clear hw hba
 go_enter Tryz.func84,Tryz.ntmps84
 have CW0:=ghid (wrText_any B b t xn (w.alloc (.cells #[.string xn,.string xv,.int .i64 xk] 129)) HS0.out.has HOK0.out (by omega))
 go_wp2_with fail
 refine CW0.out.mono ?_
 rintro e w1 ⟨rfl,hs⟩
 rw [←HT0.out] at hs
 have HS1:=ghid (HS0.out.trans hs)
 have HX1:Hid (w1.heap[w.heap.size]?=some (.cells #[.string xn,.string xv,.int .i64 xk] 129 (0,0))):=hs.row HX0.out hbne (by decide)
 clear hs CW0
 have c1_0:w1.cell? ⟨w.heap.size,0,none⟩=some (.string xn):=wr_cells HX1.out 0
 have c1_1:w1.cell? ⟨w.heap.size,1,none⟩=some (.string xv):=wr_cells HX1.out 1
 have c1_2:w1.cell? ⟨w.heap.size,2,none⟩=some (.int .i64 xk):=wr_cells HX1.out 2
 clear c0_0 c0_1 c0_2
 have CW1:=ghid (wrText_any B b t1 xv w1 HS1.out.has HOK1.out (by omega))
 go_wp2_with fail
 refine CW1.out.mono ?_
 rintro e w2 ⟨rfl,hs⟩
 rw [←HT1.out] at hs
 have HS2:=ghid (HS1.out.trans hs)
 have HX2:Hid (w2.heap[w.heap.size]?=some (.cells #[.string xn,.string xv,.int .i64 xk] 129 (0,0))):=hs.row HX1.out hbne (by decide)
 clear hs CW1
 have c2_0:w2.cell? ⟨w.heap.size,0,none⟩=some (.string xn):=wr_cells HX2.out 0
 have c2_1:w2.cell? ⟨w.heap.size,1,none⟩=some (.string xv):=wr_cells HX2.out 1
 have c2_2:w2.cell? ⟨w.heap.size,2,none⟩=some (.int .i64 xk):=wr_cells HX2.out 2
 clear c1_0 c1_1 c1_2
 have CW2:=ghid (wrNumber_any B b t2 xk w2 HS2.out.has HOK2.out.1 HOK2.out.2 (by omega))
 go_wp2_with fail
 refine CW2.out.mono ?_
 rintro e w3 ⟨rfl,hs⟩
 rw [←HT2.out] at hs
 have HS3:=ghid (HS2.out.trans hs)
 clear hs CW2
 go_wp2
 go_end0
 exact ⟨rfl,HS3.out⟩
def okL (k:LockD):Prop:=k.name.size≤5000∧0≤k.holder∧k.holder≤1099511627776∧0≤k.fence∧k.fence≤1099511627776∧k.line.length≤1000∧∀ x∈k.line,0≤x∧x≤1099511627776
set_option maxRecDepth 100000 in
set_option maxHeartbeats 1600000 in
theorem wr_lock:WrC 82 lockOut LockV okL:=by
 intro B b t ev x w hv hok hB hw hz
 obtain ⟨lv,rfl,hl,-⟩:=hv
 obtain ⟨lo,lc,rfl,-⟩:=id hl
 obtain ⟨xn,xh,xf,xl⟩:=x
 unfold okL at hok
 simp only at hok hl
 have hlt:=hw.lt
 obtain ⟨t1,ht1⟩:∃ t1,t1=t++textOut xn:=⟨_,rfl⟩
 obtain ⟨t2,ht2⟩:∃ t2,t2=t1++numOut xh:=⟨_,rfl⟩
 obtain ⟨t3,ht3⟩:∃ t3,t3=t2++numOut xf:=⟨_,rfl⟩
 obtain ⟨t4,ht4⟩:∃ t4,t4=t3++(numOut xl.length++catB (xl.map numOut)):=⟨_,rfl⟩
 have hfin:t++lockOut ⟨xn,xh,xf,xl⟩=t4:=by rw [ht4,ht3,ht2,ht1];simp only [lockOut,ByteArray.append_assoc]
 have hz':t4.size≤1000000000:=by rw [←hfin,ByteArray.size_append];exact hz
 have hz1:t1.size=t.size+(textOut xn).size:=by rw [ht1,ByteArray.size_append]
 have hz2:t2.size=t1.size+(numOut xh).size:=by rw [ht2,ByteArray.size_append]
 have hz3:t3.size=t2.size+(numOut xf).size:=by rw [ht3,ByteArray.size_append]
 have hz4:t4.size=t3.size+((numOut xl.length++catB (xl.map numOut))).size:=by rw [ht4,ByteArray.size_append]
 rw [hfin]
 have HT0:=ghid ht1
 have HT1:=ghid ht2
 have HT2:=ghid ht3
 have HT3:=ghid ht4
 have HOK0:Hid (xn.size≤5000):=hok.1
 have HOK1:Hid (0≤xh∧xh≤1099511627776):=⟨hok.2.1,hok.2.2.1⟩
 have HOK2:Hid (0≤xf∧xf≤1099511627776):=⟨hok.2.2.2.1,hok.2.2.2.2.1⟩
 have hll:xl.length≤1000:=hok.2.2.2.2.2.1
 have HLC3:Hid (∀ t u,Below B w u→WrT B b t u→t.size+(numOut xl.length++catB (xl.map numOut)).size≤1000000000→Calls Tryz.prog 118 #[.pointer (some ⟨b,0,none⟩),.slice lo xl.length lc,.func (.func 80) #[.pointer (some ⟨b,0,none⟩)] #[]] u fun e w'=>e=.returned (.tuple #[])∧WrS B b (t++(numOut xl.length++catB (xl.map numOut))) u w'):=fun t u hu hwt hzt=>wlistInt B b t _ xl 80 numOut u (hl.below hu (Nat.le_refl _)) (Nat.le_trans hB hu.size) hwt (by omega) hzt wr_number_enters (wrNumber_c (fun x hx=>hok.2.2.2.2.2.2 x hx))
 have HZ3:Hid (t3.size+(numOut xl.length++catB (xl.map numOut)).size≤1000000000):=by unfold Hid;rw [←hz4];omega
 clear ht1 ht2 ht3 ht4 hfin hok hz
 clear hl
 have hba:Below w.heap.size w (w.alloc (.cells #[.string xn,.int .i64 xh,.int .i64 xf,.slice lo xl.length lc] 126)):=(Below.refl _ _).alloc (Nat.le_refl _) _
 have HS0:=ghid ((WrS.refl hw).more hba hB)
 have HX0:Hid ((w.alloc (.cells #[.string xn,.int .i64 xh,.int .i64 xf,.slice lo xl.length lc] 126)).heap[w.heap.size]?=some (.cells #[.string xn,.int .i64 xh,.int .i64 xf,.slice lo xl.length lc] 126 (0,0))):=heap_alloc_new w _
 have c0_0:(w.alloc (.cells #[.string xn,.int .i64 xh,.int .i64 xf,.slice lo xl.length lc] 126)).cell? ⟨w.heap.size,0,none⟩=some (.string xn):=wr_cells HX0.out 0
 have c0_1:(w.alloc (.cells #[.string xn,.int .i64 xh,.int .i64 xf,.slice lo xl.length lc] 126)).cell? ⟨w.heap.size,1,none⟩=some (.int .i64 xh):=wr_cells HX0.out 1
 have c0_2:(w.alloc (.cells #[.string xn,.int .i64 xh,.int .i64 xf,.slice lo xl.length lc] 126)).cell? ⟨w.heap.size,2,none⟩=some (.int .i64 xf):=wr_cells HX0.out 2
 have c0_3:(w.alloc (.cells #[.string xn,.int .i64 xh,.int .i64 xf,.slice lo xl.length lc] 126)).cell? ⟨w.heap.size,3,none⟩=some (.slice lo xl.length lc):=wr_cells HX0.out 3
 have hbne:w.heap.size≠b:=by omega
 clear hw hba
 go_enter Tryz.func82,Tryz.ntmps82
 have CW0:=ghid (wrText_any B b t xn (w.alloc (.cells #[.string xn,.int .i64 xh,.int .i64 xf,.slice lo xl.length lc] 126)) HS0.out.has HOK0.out (by omega))
 go_wp2_with fail
 refine CW0.out.mono ?_
 rintro e w1 ⟨rfl,hs⟩
 rw [←HT0.out] at hs
 have HS1:=ghid (HS0.out.trans hs)
 have HX1:Hid (w1.heap[w.heap.size]?=some (.cells #[.string xn,.int .i64 xh,.int .i64 xf,.slice lo xl.length lc] 126 (0,0))):=hs.row HX0.out hbne (by decide)
 clear hs CW0
 have c1_0:w1.cell? ⟨w.heap.size,0,none⟩=some (.string xn):=wr_cells HX1.out 0
 have c1_1:w1.cell? ⟨w.heap.size,1,none⟩=some (.int .i64 xh):=wr_cells HX1.out 1
 have c1_2:w1.cell? ⟨w.heap.size,2,none⟩=some (.int .i64 xf):=wr_cells HX1.out 2
 have c1_3:w1.cell? ⟨w.heap.size,3,none⟩=some (.slice lo xl.length lc):=wr_cells HX1.out 3
 clear c0_0 c0_1 c0_2 c0_3
 have CW1:=ghid (wrNumber_any B b t1 xh w1 HS1.out.has HOK1.out.1 HOK1.out.2 (by omega))
 go_wp2_with fail
 refine CW1.out.mono ?_
 rintro e w2 ⟨rfl,hs⟩
 rw [←HT1.out] at hs
 have HS2:=ghid (HS1.out.trans hs)
 have HX2:Hid (w2.heap[w.heap.size]?=some (.cells #[.string xn,.int .i64 xh,.int .i64 xf,.slice lo xl.length lc] 126 (0,0))):=hs.row HX1.out hbne (by decide)
 clear hs CW1
 have c2_0:w2.cell? ⟨w.heap.size,0,none⟩=some (.string xn):=wr_cells HX2.out 0
 have c2_1:w2.cell? ⟨w.heap.size,1,none⟩=some (.int .i64 xh):=wr_cells HX2.out 1
 have c2_2:w2.cell? ⟨w.heap.size,2,none⟩=some (.int .i64 xf):=wr_cells HX2.out 2
 have c2_3:w2.cell? ⟨w.heap.size,3,none⟩=some (.slice lo xl.length lc):=wr_cells HX2.out 3
 clear c1_0 c1_1 c1_2 c1_3
 have CW2:=ghid (wrNumber_any B b t2 xf w2 HS2.out.has HOK2.out.1 HOK2.out.2 (by omega))
 go_wp2_with fail
 refine CW2.out.mono ?_
 rintro e w3 ⟨rfl,hs⟩
 rw [←HT2.out] at hs
 have HS3:=ghid (HS2.out.trans hs)
 have HX3:Hid (w3.heap[w.heap.size]?=some (.cells #[.string xn,.int .i64 xh,.int .i64 xf,.slice lo xl.length lc] 126 (0,0))):=hs.row HX2.out hbne (by decide)
 clear hs CW2
 have c3_0:w3.cell? ⟨w.heap.size,0,none⟩=some (.string xn):=wr_cells HX3.out 0
 have c3_1:w3.cell? ⟨w.heap.size,1,none⟩=some (.int .i64 xh):=wr_cells HX3.out 1
 have c3_2:w3.cell? ⟨w.heap.size,2,none⟩=some (.int .i64 xf):=wr_cells HX3.out 2
 have c3_3:w3.cell? ⟨w.heap.size,3,none⟩=some (.slice lo xl.length lc):=wr_cells HX3.out 3
 clear c2_0 c2_1 c2_2 c2_3
 have CW3:=ghid (HLC3.out t3 w3 HS3.out.below HS3.out.has (by have:=HZ3.out;omega))
 go_wp2_with fail
 refine CW3.out.mono ?_
 rintro e w4 ⟨rfl,hs⟩
 rw [←HT3.out] at hs
 have HS4:=ghid (HS3.out.trans hs)
 clear hs CW3
 go_wp2
 go_end0
 exact ⟨rfl,HS4.out⟩
def okS (k:SessD):Prop:=0≤k.client∧k.client≤1099511627776∧0≤k.id∧k.id≤1099511627776∧0≤k.acked∧k.acked≤1099511627776∧0≤k.last∧k.last≤1099511627776∧k.replies.length≤1000∧∀ x∈k.replies,okK x
set_option maxRecDepth 100000 in
set_option maxHeartbeats 1600000 in
theorem wr_session:WrC 86 sessOut SessV okS:=by
 intro B b t ev x w hv hok hB hw hz
 obtain ⟨lv,rfl,hl⟩:=hv
 obtain ⟨lo,lc,rfl,-⟩:=id hl
 obtain ⟨xc,xi,xa,xz,xl⟩:=x
 unfold okS at hok
 simp only at hok hl
 have hlt:=hw.lt
 obtain ⟨t1,ht1⟩:∃ t1,t1=t++numOut xc:=⟨_,rfl⟩
 obtain ⟨t2,ht2⟩:∃ t2,t2=t1++numOut xi:=⟨_,rfl⟩
 obtain ⟨t3,ht3⟩:∃ t3,t3=t2++numOut xa:=⟨_,rfl⟩
 obtain ⟨t4,ht4⟩:∃ t4,t4=t3++numOut xz:=⟨_,rfl⟩
 obtain ⟨t5,ht5⟩:∃ t5,t5=t4++(numOut xl.length++catB (xl.map keptOut)):=⟨_,rfl⟩
 have hfin:t++sessOut ⟨xc,xi,xa,xz,xl⟩=t5:=by rw [ht5,ht4,ht3,ht2,ht1];simp only [sessOut,ByteArray.append_assoc]
 have hz':t5.size≤1000000000:=by rw [←hfin,ByteArray.size_append];exact hz
 have hz1:t1.size=t.size+(numOut xc).size:=by rw [ht1,ByteArray.size_append]
 have hz2:t2.size=t1.size+(numOut xi).size:=by rw [ht2,ByteArray.size_append]
 have hz3:t3.size=t2.size+(numOut xa).size:=by rw [ht3,ByteArray.size_append]
 have hz4:t4.size=t3.size+(numOut xz).size:=by rw [ht4,ByteArray.size_append]
 have hz5:t5.size=t4.size+((numOut xl.length++catB (xl.map keptOut))).size:=by rw [ht5,ByteArray.size_append]
 rw [hfin]
 have HT0:=ghid ht1
 have HT1:=ghid ht2
 have HT2:=ghid ht3
 have HT3:=ghid ht4
 have HT4:=ghid ht5
 have HOK0:Hid (0≤xc∧xc≤1099511627776):=⟨hok.1,hok.2.1⟩
 have HOK1:Hid (0≤xi∧xi≤1099511627776):=⟨hok.2.2.1,hok.2.2.2.1⟩
 have HOK2:Hid (0≤xa∧xa≤1099511627776):=⟨hok.2.2.2.2.1,hok.2.2.2.2.2.1⟩
 have HOK3:Hid (0≤xz∧xz≤1099511627776):=⟨hok.2.2.2.2.2.2.1,hok.2.2.2.2.2.2.2.1⟩
 have hll:xl.length≤1000:=hok.2.2.2.2.2.2.2.2.1
 have HLC4:Hid (∀ t u,Below B w u→WrT B b t u→t.size+(numOut xl.length++catB (xl.map keptOut)).size≤1000000000→Calls Tryz.prog 119 #[.pointer (some ⟨b,0,none⟩),.slice lo xl.length lc,.func (.func 120) #[.pointer (some ⟨b,0,none⟩)] #[]] u fun e w'=>e=.returned (.tuple #[])∧WrS B b (t++(numOut xl.length++catB (xl.map keptOut))) u w'):=fun t u hu hwt hzt=>wlistKept B b t _ xl 120 keptOut u (hl.below hu (Nat.le_refl _)) (Nat.le_trans hB hu.size) hwt (by omega) hzt wr_kept_enters (wr_kept.mono (fun x hx=>hok.2.2.2.2.2.2.2.2.2 x hx))
 have HZ4:Hid (t4.size+(numOut xl.length++catB (xl.map keptOut)).size≤1000000000):=by unfold Hid;rw [←hz5];omega
 clear ht1 ht2 ht3 ht4 ht5 hfin hok hz
 clear hl
 have hba:Below w.heap.size w (w.alloc (.cells #[.int .i64 xc,.int .i64 xi,.int .i64 xa,.int .i64 xz,.slice lo xl.length lc] 132)):=(Below.refl _ _).alloc (Nat.le_refl _) _
 have HS0:=ghid ((WrS.refl hw).more hba hB)
 have HX0:Hid ((w.alloc (.cells #[.int .i64 xc,.int .i64 xi,.int .i64 xa,.int .i64 xz,.slice lo xl.length lc] 132)).heap[w.heap.size]?=some (.cells #[.int .i64 xc,.int .i64 xi,.int .i64 xa,.int .i64 xz,.slice lo xl.length lc] 132 (0,0))):=heap_alloc_new w _
 have c0_0:(w.alloc (.cells #[.int .i64 xc,.int .i64 xi,.int .i64 xa,.int .i64 xz,.slice lo xl.length lc] 132)).cell? ⟨w.heap.size,0,none⟩=some (.int .i64 xc):=wr_cells HX0.out 0
 have c0_1:(w.alloc (.cells #[.int .i64 xc,.int .i64 xi,.int .i64 xa,.int .i64 xz,.slice lo xl.length lc] 132)).cell? ⟨w.heap.size,1,none⟩=some (.int .i64 xi):=wr_cells HX0.out 1
 have c0_2:(w.alloc (.cells #[.int .i64 xc,.int .i64 xi,.int .i64 xa,.int .i64 xz,.slice lo xl.length lc] 132)).cell? ⟨w.heap.size,2,none⟩=some (.int .i64 xa):=wr_cells HX0.out 2
 have c0_3:(w.alloc (.cells #[.int .i64 xc,.int .i64 xi,.int .i64 xa,.int .i64 xz,.slice lo xl.length lc] 132)).cell? ⟨w.heap.size,3,none⟩=some (.int .i64 xz):=wr_cells HX0.out 3
 have c0_4:(w.alloc (.cells #[.int .i64 xc,.int .i64 xi,.int .i64 xa,.int .i64 xz,.slice lo xl.length lc] 132)).cell? ⟨w.heap.size,4,none⟩=some (.slice lo xl.length lc):=wr_cells HX0.out 4
 have hbne:w.heap.size≠b:=by omega
 clear hw hba
 go_enter Tryz.func86,Tryz.ntmps86
 have CW0:=ghid (wrNumber_any B b t xc (w.alloc (.cells #[.int .i64 xc,.int .i64 xi,.int .i64 xa,.int .i64 xz,.slice lo xl.length lc] 132)) HS0.out.has HOK0.out.1 HOK0.out.2 (by omega))
 go_wp2_with fail
 refine CW0.out.mono ?_
 rintro e w1 ⟨rfl,hs⟩
 rw [←HT0.out] at hs
 have HS1:=ghid (HS0.out.trans hs)
 have HX1:Hid (w1.heap[w.heap.size]?=some (.cells #[.int .i64 xc,.int .i64 xi,.int .i64 xa,.int .i64 xz,.slice lo xl.length lc] 132 (0,0))):=hs.row HX0.out hbne (by decide)
 clear hs CW0
 have c1_0:w1.cell? ⟨w.heap.size,0,none⟩=some (.int .i64 xc):=wr_cells HX1.out 0
 have c1_1:w1.cell? ⟨w.heap.size,1,none⟩=some (.int .i64 xi):=wr_cells HX1.out 1
 have c1_2:w1.cell? ⟨w.heap.size,2,none⟩=some (.int .i64 xa):=wr_cells HX1.out 2
 have c1_3:w1.cell? ⟨w.heap.size,3,none⟩=some (.int .i64 xz):=wr_cells HX1.out 3
 have c1_4:w1.cell? ⟨w.heap.size,4,none⟩=some (.slice lo xl.length lc):=wr_cells HX1.out 4
 clear c0_0 c0_1 c0_2 c0_3 c0_4
 have CW1:=ghid (wrNumber_any B b t1 xi w1 HS1.out.has HOK1.out.1 HOK1.out.2 (by omega))
 go_wp2_with fail
 refine CW1.out.mono ?_
 rintro e w2 ⟨rfl,hs⟩
 rw [←HT1.out] at hs
 have HS2:=ghid (HS1.out.trans hs)
 have HX2:Hid (w2.heap[w.heap.size]?=some (.cells #[.int .i64 xc,.int .i64 xi,.int .i64 xa,.int .i64 xz,.slice lo xl.length lc] 132 (0,0))):=hs.row HX1.out hbne (by decide)
 clear hs CW1
 have c2_0:w2.cell? ⟨w.heap.size,0,none⟩=some (.int .i64 xc):=wr_cells HX2.out 0
 have c2_1:w2.cell? ⟨w.heap.size,1,none⟩=some (.int .i64 xi):=wr_cells HX2.out 1
 have c2_2:w2.cell? ⟨w.heap.size,2,none⟩=some (.int .i64 xa):=wr_cells HX2.out 2
 have c2_3:w2.cell? ⟨w.heap.size,3,none⟩=some (.int .i64 xz):=wr_cells HX2.out 3
 have c2_4:w2.cell? ⟨w.heap.size,4,none⟩=some (.slice lo xl.length lc):=wr_cells HX2.out 4
 clear c1_0 c1_1 c1_2 c1_3 c1_4
 have CW2:=ghid (wrNumber_any B b t2 xa w2 HS2.out.has HOK2.out.1 HOK2.out.2 (by omega))
 go_wp2_with fail
 refine CW2.out.mono ?_
 rintro e w3 ⟨rfl,hs⟩
 rw [←HT2.out] at hs
 have HS3:=ghid (HS2.out.trans hs)
 have HX3:Hid (w3.heap[w.heap.size]?=some (.cells #[.int .i64 xc,.int .i64 xi,.int .i64 xa,.int .i64 xz,.slice lo xl.length lc] 132 (0,0))):=hs.row HX2.out hbne (by decide)
 clear hs CW2
 have c3_0:w3.cell? ⟨w.heap.size,0,none⟩=some (.int .i64 xc):=wr_cells HX3.out 0
 have c3_1:w3.cell? ⟨w.heap.size,1,none⟩=some (.int .i64 xi):=wr_cells HX3.out 1
 have c3_2:w3.cell? ⟨w.heap.size,2,none⟩=some (.int .i64 xa):=wr_cells HX3.out 2
 have c3_3:w3.cell? ⟨w.heap.size,3,none⟩=some (.int .i64 xz):=wr_cells HX3.out 3
 have c3_4:w3.cell? ⟨w.heap.size,4,none⟩=some (.slice lo xl.length lc):=wr_cells HX3.out 4
 clear c2_0 c2_1 c2_2 c2_3 c2_4
 have CW3:=ghid (wrNumber_any B b t3 xz w3 HS3.out.has HOK3.out.1 HOK3.out.2 (by omega))
 go_wp2_with fail
 refine CW3.out.mono ?_
 rintro e w4 ⟨rfl,hs⟩
 rw [←HT3.out] at hs
 have HS4:=ghid (HS3.out.trans hs)
 have HX4:Hid (w4.heap[w.heap.size]?=some (.cells #[.int .i64 xc,.int .i64 xi,.int .i64 xa,.int .i64 xz,.slice lo xl.length lc] 132 (0,0))):=hs.row HX3.out hbne (by decide)
 clear hs CW3
 have c4_0:w4.cell? ⟨w.heap.size,0,none⟩=some (.int .i64 xc):=wr_cells HX4.out 0
 have c4_1:w4.cell? ⟨w.heap.size,1,none⟩=some (.int .i64 xi):=wr_cells HX4.out 1
 have c4_2:w4.cell? ⟨w.heap.size,2,none⟩=some (.int .i64 xa):=wr_cells HX4.out 2
 have c4_3:w4.cell? ⟨w.heap.size,3,none⟩=some (.int .i64 xz):=wr_cells HX4.out 3
 have c4_4:w4.cell? ⟨w.heap.size,4,none⟩=some (.slice lo xl.length lc):=wr_cells HX4.out 4
 clear c3_0 c3_1 c3_2 c3_3 c3_4
 have CW4:=ghid (HLC4.out t4 w4 HS4.out.below HS4.out.has (by have:=HZ4.out;omega))
 go_wp2_with fail
 refine CW4.out.mono ?_
 rintro e w5 ⟨rfl,hs⟩
 rw [←HT4.out] at hs
 have HS5:=ghid (HS4.out.trans hs)
 clear hs CW4
 go_wp2
 go_end0
 exact ⟨rfl,HS5.out⟩
end Go.Proofs.YtbmfahgekcnkaajGreatDoor
namespace Go.Proofs.YtbmfahgekcnkaajGreatDoor
open Go.RowKit
theorem okL_of {k:LockD} (h:LockOk k) (h1:1≤k.fence) (h2:k.fence≤1073741824):okL k:=by
 have hn:=(nameB_yes h.name).2.1
 have hl:=h.line.len
 have h3:=h.low
 have h4:=h.high
 refine ⟨by omega,by omega,by omega,by omega,by omega,by omega,fun x hx=>?_⟩
 have:=h.line.each x hx
 omega
theorem okP_of {p:PairD} (h:nameB p.name=true∧p.value.size≤12∧1≤p.version∧p.version≤1073741824):okP p:=by
 have hn:=(nameB_yes h.1).2.1
 exact ⟨by omega,by omega,by omega,by omega⟩
theorem okS_of {i:Int} {x:SessD} (hi:i≤1073741824) (h:Fine i x):okS x:=by
 have hr:=rangeB_iff.1 h.range
 have hl:=sformB_len h.form
 have hm:=formFrom_mem h.form
 refine ⟨by omega,by omega,by omega,by omega,by omega,by omega,by omega,by omega,by omega,fun k hk=>?_⟩
 have h1:=hm k hk
 have h2:=replyB_iff.1 h1.2.2
 exact ⟨by omega,by omega,by omega,by omega,by omega,by omega,by omega⟩
set_option maxRecDepth 100000 in
set_option maxHeartbeats 3200000 in
theorem wr_state (B b:Nat) (t:ByteArray) (v:Value) (s:StateD) (w:World) (hv:StateR w B v s) (hg:GoodM s) (hB:B≤w.heap.size) (hw:WrT B b t w) (hz:t.size≤1000000) :
  Calls Tryz.prog 53 #[.pointer (some ⟨b,0,none⟩),v] w fun e w'=>e=.returned (.tuple #[])∧WrS B b (t++snapBody s) w w':=by
 have hle:=snapBody_le hg
 have hi0:=hg.sess.low
 have hi1:=hg.sess.high
 have hl1:=hg.locks.len
 have hl2:=hg.pairs.len
 have hl3:=hg.sess.len
 have hok1:∀ k∈s.locks,okL k:=fun k hk=>okL_of (hg.locks.each k hk).1 (hg.locks.each k hk).2.1 (hg.locks.each k hk).2.2
 have hok2:∀ k∈s.pairs,okP k:=fun k hk=>okP_of (hg.pairs.each k hk)
 have hok3:∀ k∈s.sess,okS k:=fun k hk=>okS_of hi1 (hg.sess.fine k hk)
 obtain ⟨lv,pv,sv,rfl,h1,h2,h3⟩:=hv
 obtain ⟨lo,lc,rfl,-⟩:=id h1
 obtain ⟨po,pc,rfl,-⟩:=id h2
 obtain ⟨so,sc,rfl,-⟩:=id h3
 obtain ⟨si,sl,sp,ss⟩:=s
 simp only at h1 h2 h3 hi0 hi1 hl1 hl2 hl3 hok1 hok2 hok3
 have hlt:=hw.lt
 obtain ⟨t1,ht1⟩:∃ t1,t1=t++numOut si:=⟨_,rfl⟩
 obtain ⟨t2,ht2⟩:∃ t2,t2=t1++(numOut sl.length++catB (sl.map lockOut)):=⟨_,rfl⟩
 obtain ⟨t3,ht3⟩:∃ t3,t3=t2++(numOut sp.length++catB (sp.map pairOut)):=⟨_,rfl⟩
 obtain ⟨t4,ht4⟩:∃ t4,t4=t3++(numOut ss.length++catB (ss.map sessOut)):=⟨_,rfl⟩
 have hfin:t++snapBody ⟨si,sl,sp,ss⟩=t4:=by rw [ht4,ht3,ht2,ht1];simp only [snapBody,ByteArray.append_assoc]
 have hz':t4.size≤1000000000:=by rw [←hfin,ByteArray.size_append];omega
 have hz1:t1.size=t.size+(numOut si).size:=by rw [ht1,ByteArray.size_append]
 have hz2:t2.size=t1.size+(numOut sl.length++catB (sl.map lockOut)).size:=by rw [ht2,ByteArray.size_append]
 have hz3:t3.size=t2.size+(numOut sp.length++catB (sp.map pairOut)).size:=by rw [ht3,ByteArray.size_append]
 have hz4:t4.size=t3.size+(numOut ss.length++catB (ss.map sessOut)).size:=by rw [ht4,ByteArray.size_append]
 rw [hfin]
 have HT0:=ghid ht1
 have HT1:=ghid ht2
 have HT2:=ghid ht3
 have HT3:=ghid ht4
 have HLC1:Hid (∀ t u,Below B w u→WrT B b t u→t.size+(numOut sl.length++catB (sl.map lockOut)).size≤1000000000→Calls Tryz.prog 81 #[.pointer (some ⟨b,0,none⟩),.slice lo sl.length lc,.func (.func 82) #[.pointer (some ⟨b,0,none⟩)] #[]] u fun e w'=>e=.returned (.tuple #[])∧WrS B b (t++(numOut sl.length++catB (sl.map lockOut))) u w'):=fun t u hu hwt hzt=>wlistLock B b t _ sl 82 lockOut u (h1.below hu (Nat.le_refl _)) (Nat.le_trans hB hu.size) hwt (by omega) hzt wr_lock_enters (wr_lock.mono hok1)
 have HZ1:Hid (t1.size+(numOut sl.length++catB (sl.map lockOut)).size≤1000000000):=by unfold Hid;rw [←hz2];omega
 have HLC2:Hid (∀ t u,Below B w u→WrT B b t u→t.size+(numOut sp.length++catB (sp.map pairOut)).size≤1000000000→Calls Tryz.prog 83 #[.pointer (some ⟨b,0,none⟩),.slice po sp.length pc,.func (.func 84) #[.pointer (some ⟨b,0,none⟩)] #[]] u fun e w'=>e=.returned (.tuple #[])∧WrS B b (t++(numOut sp.length++catB (sp.map pairOut))) u w'):=fun t u hu hwt hzt=>wlistPair B b t _ sp 84 pairOut u (h2.below hu (Nat.le_refl _)) (Nat.le_trans hB hu.size) hwt (by omega) hzt wr_pair_enters (wr_pair.mono hok2)
 have HZ2:Hid (t2.size+(numOut sp.length++catB (sp.map pairOut)).size≤1000000000):=by unfold Hid;rw [←hz3];omega
 have HLC3:Hid (∀ t u,Below B w u→WrT B b t u→t.size+(numOut ss.length++catB (ss.map sessOut)).size≤1000000000→Calls Tryz.prog 85 #[.pointer (some ⟨b,0,none⟩),.slice so ss.length sc,.func (.func 86) #[.pointer (some ⟨b,0,none⟩)] #[]] u fun e w'=>e=.returned (.tuple #[])∧WrS B b (t++(numOut ss.length++catB (ss.map sessOut))) u w'):=fun t u hu hwt hzt=>wlistSess B b t _ ss 86 sessOut u (h3.below hu (Nat.le_refl _)) (Nat.le_trans hB hu.size) hwt (by omega) hzt wr_session_enters (wr_session.mono hok3)
 have HZ3:Hid (t3.size+(numOut ss.length++catB (ss.map sessOut)).size≤1000000000):=by unfold Hid;rw [←hz4];omega
 have HOK0:Hid (0≤si∧si≤1099511627776):=⟨hi0,by omega⟩
 clear ht1 ht2 ht3 ht4 hfin hok1 hok2 hok3 h1 h2 h3 hg hle hz2 hz3 hz4
 have hba:Below w.heap.size w (w.alloc (.cells #[.int .i64 si,.slice lo sl.length lc,.slice po sp.length pc,.slice so ss.length sc] 34)):=(Below.refl _ _).alloc (Nat.le_refl _) _
 have HS0:=ghid ((WrS.refl hw).more hba hB)
 have HX0:Hid ((w.alloc (.cells #[.int .i64 si,.slice lo sl.length lc,.slice po sp.length pc,.slice so ss.length sc] 34)).heap[w.heap.size]?=some (.cells #[.int .i64 si,.slice lo sl.length lc,.slice po sp.length pc,.slice so ss.length sc] 34 (0,0))):=heap_alloc_new w _
 have c0_0:(w.alloc (.cells #[.int .i64 si,.slice lo sl.length lc,.slice po sp.length pc,.slice so ss.length sc] 34)).cell? ⟨w.heap.size,0,none⟩=some (.int .i64 si):=wr_cells HX0.out 0
 have c0_1:(w.alloc (.cells #[.int .i64 si,.slice lo sl.length lc,.slice po sp.length pc,.slice so ss.length sc] 34)).cell? ⟨w.heap.size,1,none⟩=some (.slice lo sl.length lc):=wr_cells HX0.out 1
 have c0_2:(w.alloc (.cells #[.int .i64 si,.slice lo sl.length lc,.slice po sp.length pc,.slice so ss.length sc] 34)).cell? ⟨w.heap.size,2,none⟩=some (.slice po sp.length pc):=wr_cells HX0.out 2
 have c0_3:(w.alloc (.cells #[.int .i64 si,.slice lo sl.length lc,.slice po sp.length pc,.slice so ss.length sc] 34)).cell? ⟨w.heap.size,3,none⟩=some (.slice so ss.length sc):=wr_cells HX0.out 3
 have hbne:w.heap.size≠b:=by omega
 clear hw hba
 go_enter Tryz.func53,Tryz.ntmps53
 have CW0:=ghid (wrNumber_any B b t si (w.alloc (.cells #[.int .i64 si,.slice lo sl.length lc,.slice po sp.length pc,.slice so ss.length sc] 34)) HS0.out.has HOK0.out.1 HOK0.out.2 (by omega))
 go_wp2_with fail
 refine CW0.out.mono ?_
 rintro e w1 ⟨rfl,hs⟩
 rw [←HT0.out] at hs
 have HS1:=ghid (HS0.out.trans hs)
 have HX1:Hid (w1.heap[w.heap.size]?=some (.cells #[.int .i64 si,.slice lo sl.length lc,.slice po sp.length pc,.slice so ss.length sc] 34 (0,0))):=hs.row HX0.out hbne (by decide)
 clear hs CW0
 have c1_0:w1.cell? ⟨w.heap.size,0,none⟩=some (.int .i64 si):=wr_cells HX1.out 0
 have c1_1:w1.cell? ⟨w.heap.size,1,none⟩=some (.slice lo sl.length lc):=wr_cells HX1.out 1
 have c1_2:w1.cell? ⟨w.heap.size,2,none⟩=some (.slice po sp.length pc):=wr_cells HX1.out 2
 have c1_3:w1.cell? ⟨w.heap.size,3,none⟩=some (.slice so ss.length sc):=wr_cells HX1.out 3
 clear c0_0 c0_1 c0_2 c0_3
 have CW1:=ghid (HLC1.out t1 w1 HS1.out.below HS1.out.has HZ1.out)
 go_wp2_with fail
 refine CW1.out.mono ?_
 rintro e w2 ⟨rfl,hs⟩
 rw [←HT1.out] at hs
 have HS2:=ghid (HS1.out.trans hs)
 have HX2:Hid (w2.heap[w.heap.size]?=some (.cells #[.int .i64 si,.slice lo sl.length lc,.slice po sp.length pc,.slice so ss.length sc] 34 (0,0))):=hs.row HX1.out hbne (by decide)
 clear hs CW1
 have c2_0:w2.cell? ⟨w.heap.size,0,none⟩=some (.int .i64 si):=wr_cells HX2.out 0
 have c2_1:w2.cell? ⟨w.heap.size,1,none⟩=some (.slice lo sl.length lc):=wr_cells HX2.out 1
 have c2_2:w2.cell? ⟨w.heap.size,2,none⟩=some (.slice po sp.length pc):=wr_cells HX2.out 2
 have c2_3:w2.cell? ⟨w.heap.size,3,none⟩=some (.slice so ss.length sc):=wr_cells HX2.out 3
 clear c1_0 c1_1 c1_2 c1_3
 have CW2:=ghid (HLC2.out t2 w2 HS2.out.below HS2.out.has HZ2.out)
 go_wp2_with fail
 refine CW2.out.mono ?_
 rintro e w3 ⟨rfl,hs⟩
 rw [←HT2.out] at hs
 have HS3:=ghid (HS2.out.trans hs)
 have HX3:Hid (w3.heap[w.heap.size]?=some (.cells #[.int .i64 si,.slice lo sl.length lc,.slice po sp.length pc,.slice so ss.length sc] 34 (0,0))):=hs.row HX2.out hbne (by decide)
 clear hs CW2
 have c3_0:w3.cell? ⟨w.heap.size,0,none⟩=some (.int .i64 si):=wr_cells HX3.out 0
 have c3_1:w3.cell? ⟨w.heap.size,1,none⟩=some (.slice lo sl.length lc):=wr_cells HX3.out 1
 have c3_2:w3.cell? ⟨w.heap.size,2,none⟩=some (.slice po sp.length pc):=wr_cells HX3.out 2
 have c3_3:w3.cell? ⟨w.heap.size,3,none⟩=some (.slice so ss.length sc):=wr_cells HX3.out 3
 clear c2_0 c2_1 c2_2 c2_3
 have CW3:=ghid (HLC3.out t3 w3 HS3.out.below HS3.out.has HZ3.out)
 go_wp2_with fail
 refine CW3.out.mono ?_
 rintro e w4 ⟨rfl,hs⟩
 rw [←HT3.out] at hs
 have HS4:=ghid (HS3.out.trans hs)
 clear hs CW3
 go_wp2
 go_end0
 exact ⟨rfl,HS4.out⟩
set_option maxRecDepth 100000 in
set_option maxHeartbeats 1600000 in
theorem encode_ok_s (v:Value) (s:StateD) (w:World) (B:Nat) (hv:StateR w B v s) (hB:B≤w.heap.size) (hr:checkM s=0) :
  Calls Tryz.prog 26 #[v] w fun e w'=>e=.returned (.tuple #[.string (snapOut s),.int .i64 0])∧Below w.heap.size w w':=by
 have hg:=GoodM.of hr
 have hle:=snapBody_le hg
 have HNE:Hid (snapBody s≠⟨#[]⟩):=by
  unfold Hid
  intro e
  have h1:(snapBody s).size=0:=by rw [e];rfl
  have h2:=(encN_length s.index).1
  have h3:=strOfNums_size (encN s.index)
  have h4:(numOut s.index).size=(encN s.index).length:=h3
  unfold snapBody at h1
  rw [ByteArray.size_append] at h1
  omega
 obtain ⟨lv,pv,sv,rfl,hl,hp,hs⟩:=id hv
 obtain ⟨lo,lc,rfl,-⟩:=id hl
 obtain ⟨po,pc,rfl,-⟩:=id hp
 obtain ⟨so,sc,rfl,-⟩:=id hs
 have hb0:Below w.heap.size w (w.alloc (.cells #[.int .i64 s.index,.slice lo s.locks.length lc,.slice po s.pairs.length pc,.slice so s.sess.length sc] 34)):=(Below.refl _ _).alloc (Nat.le_refl _) _
 have HX0:Hid ((w.alloc (.cells #[.int .i64 s.index,.slice lo s.locks.length lc,.slice po s.pairs.length pc,.slice so s.sess.length sc] 34)).heap[w.heap.size]?=some (.cells #[.int .i64 s.index,.slice lo s.locks.length lc,.slice po s.pairs.length pc,.slice so s.sess.length sc] 34 (0,0))):=heap_alloc_new w _
 have hz0:(w.alloc (.cells #[.int .i64 s.index,.slice lo s.locks.length lc,.slice po s.pairs.length pc,.slice so s.sess.length sc] 34)).heap.size=w.heap.size+1:=by simp
 have CF:=ghid (machCheck_any _ s _ B (hv.below hb0 hB) (by have:=hb0.size;omega))
 rw [hr] at CF
 have HV:=ghid hv
 have HG:=ghid hg
 have HB0:=ghid hb0
 clear hv hl hp hs hb0 hg
 go_enter Tryz.func26,Tryz.ntmps26
 go_wp2_with fail
 refine CF.out.mono ?_
 rintro e w1 ⟨rfl,hb1⟩
 have hz1:w.heap.size+1≤w1.heap.size:=by have:=hb1.size;omega
 have HX1:Hid (w1.heap[w.heap.size]?=_):=(hb1.block _ (by omega)).trans HX0.out
 have HB1:=ghid (HB0.out.trans (hb1.mono HB0.out.size))
 have hba:Below w1.heap.size w1 (w1.alloc (.cells #[.pointer none,.slice none 0 0] 106)):=(Below.refl _ _).alloc (Nat.le_refl _) _
 have HW1:Hid (WrT w1.heap.size w1.heap.size ⟨#[]⟩ (w1.alloc (.cells #[.pointer none,.slice none 0 0] 106))):=Lib.IsBuilderF.of (Lib.fresh_isBuilder 106 5 w1)
 have HX2:Hid ((w1.alloc (.cells #[.pointer none,.slice none 0 0] 106)).heap[w.heap.size]?=_):=(hba.block _ (by omega)).trans HX1.out
 have HB2:=ghid (HB1.out.trans (hba.mono (by omega)))
 obtain ⟨c0,c1,c2,c3,cf,-⟩:=state_cells HX2.out
 have CS:=ghid (wr_state w1.heap.size w1.heap.size ⟨#[]⟩ _ s (w1.alloc (.cells #[.pointer none,.slice none 0 0] 106)) ((HV.out.below HB2.out hB).mono (by omega)) HG.out (by simp) HW1.out (by decide))
 rw [nilB] at CS
 clear hb1 CF hba
 go_wp2_with fail
 refine CS.out.mono ?_
 rintro e w2 ⟨rfl,hs2⟩
 have HB3:=ghid (HB2.out.trans (hs2.below.mono (by omega)))
 have hz2:w1.heap.size < w2.heap.size:=hs2.has.lt.2
 have CT:=ghid (wrString_any w1.heap.size w1.heap.size _ w2 hs2.has (by intro e;exact HNE.out (bytes_ext (by rw [e]))))
 have hbe:(⟨(snapBody s).data.toList.toArray⟩:ByteArray)=snapBody s:=bytes_ext rfl
 rw [hbe] at CT
 have CSL:=ghid (fun u=>seal_any (snapBody s) u (by unfold maxLen;omega))
 have hsz:(sealOut (snapBody s)).size=4:=sealOut_size _
 have HOUT:Hid (snapBody s++sealOut (snapBody s)=snapOut s):=rfl
 obtain ⟨body,hbody⟩:∃ body,body=snapBody s:=⟨_,rfl⟩
 rw [←hbody] at CT CSL hsz HOUT hle
 obtain ⟨sl,hsl⟩:∃ sl,sl=sealOut body:=⟨_,rfl⟩
 rw [←hsl] at CSL hsz HOUT
 have hadd:¬ 9223372036854775807 < body.size+sl.size:=by omega
 clear hs2 CS hbe hbody hsl
 go_wp2_with fail
 refine CT.out.mono ?_
 rintro e w3 ⟨rfl,hb3,-⟩
 have HB4:=ghid (HB3.out.trans (hb3.mono (by omega)))
 clear hb3 CT
 go_wp2_with fail
 refine (CSL.out _).mono ?_
 rintro e w4 ⟨rfl,hb4⟩
 have HB5:=ghid (HB4.out.trans (hb4.mono HB4.out.size))
 clear hb4
 go_wp2
 go_ret2
 exact ⟨by rw [HOUT.out];rfl,HB5.out⟩
end Go.Proofs.YtbmfahgekcnkaajGreatDoor
namespace Go.Proofs.YtbmfahgekcnkaajGreatDoor
open Go.RowKit
set_option maxRecDepth 100000 in
set_option maxHeartbeats 3200000 in
theorem compact_any (v:Value) (r:RepD) (w:World) (B:Nat) (hv:RepR w B v r) (hB:B≤w.heap.size) (hr:repE r=0) :
  Calls Tryz.prog 9 #[v] w fun e w'=>∃ v',e=.returned (.tuple #[v',.int .i64 (compE r)])∧Firm w.heap.size w' (fun u=>RepR u u.heap.size v' (compL r))∧Below w.heap.size w w':=by
 obtain ⟨k1,k2,⟨k3,k4⟩,k5⟩:=repE_zero hr
 obtain ⟨⟨l1,l2,l3⟩,-⟩:=logE_zero k1
 obtain ⟨eo,lo,po,so,ec,ln,lc,pn,pc,sn,sc,rfl,hl,hs,hst⟩:=hv.parts
 have HE:Hid (compE r=if r.state.index=r.log.base then 12 else if cutE r.log r.state.index≠0 then cutE r.log r.state.index else 0):=by
  unfold Hid compE
  rw [if_neg (by simpa using hr)]
 have HLZ:Hid (compE r≠0→compL r=.zero):=fun h=>if_neg h
 have HLO:Hid (compE r=0→compL r=⟨cutL r.log r.state.index,snapOut r.state,r.state⟩):=fun h=>if_pos h
 have hso:(snapOut r.state).size≤140737488351232:=by have:=snapBody_le (GoodM.of k2);have:=snapOut_size r.state;omega
 unfold lastL at k4
 obtain ⟨E,hE⟩:∃ E,E=compE r:=⟨_,rfl⟩
 obtain ⟨L,hL⟩:∃ L,L=compL r:=⟨_,rfl⟩
 have HV:=ghid hv
 obtain ⟨⟨base,ts⟩,sp,s⟩:=r
 rw [←hE] at HE
 rw [←hE,←hL] at HLZ HLO
 rw [←hE,←hL]
 simp only at l1 l2 l3 k3 k4 k2 hso HE HLO HV hl hs hst ⊢
 obtain ⟨ix,hix⟩:∃ ix,ix=s.index:=⟨_,rfl⟩
 obtain ⟨n,hn⟩:∃ n,n=ts.length:=⟨_,rfl⟩
 rw [←hix] at HE HLO HV hst k3 k4 ⊢
 rw [←hn] at k4 l3 hl HV ⊢
 obtain ⟨pe,hpe⟩:∃ pe,pe=cutE ⟨base,ts⟩ ix:=⟨_,rfl⟩
 obtain ⟨⟨pb,pt⟩,hpl⟩:∃ pl,pl=cutL ⟨base,ts⟩ ix:=⟨_,rfl⟩
 rw [←hpe] at HE
 rw [←hpl] at HLO
 have HZ:Hid (Below w.heap.size w ((w.alloc (.cells #[.int .i64 base,.slice eo n ec,.string sp,.int .i64 ix,.slice lo ln lc,.slice po pn pc,.slice so sn sc] 36)).alloc (.cells #[.int .i64 0,.slice none 0 0,.string ⟨#[]⟩,.int .i64 0,.slice none 0 0,.slice none 0 0,.slice none 0 0] 36))):=(((Below.refl _ _).alloc (Nat.le_refl _) _).alloc (by simp) _)
 have CC:=ghid (repCheck_ok _ _ _ B (HV.out.below HZ.out hB) (by have:=HZ.out.size;omega) hr)
 have CP:=ghid (fun u (hu:Below w.heap.size w u)=>cut_new _ ⟨base,ts⟩ ix u B (hl.below hu hB) (by have:=hu.size;omega) ⟨by omega,by omega⟩)
 rw [←hpe,←hpl] at CP
 have CE:=ghid (fun u (hu:Below w.heap.size w u)=>encode_ok_s _ s u B (hst.below hu hB) (by have:=hu.size;omega) k2)
 have CM:=ghid (fun u (hu:Below w.heap.size w u)=>machCopy_own _ s u B (hst.below hu hB) (by have:=hu.size;omega))
 obtain ⟨ns,hns⟩:∃ ns,ns=snapOut s:=⟨_,rfl⟩
 rw [←hns] at CE HLO hso
 rw [←hix] at CM
 have HS:=ghid hso
 have HI:=ghid hix
 clear hl hs hst hv hr k1 k2 k5 HV hE hL hix hn hpe hpl l3 hso hns hB
 go_enter Tryz.func9,Tryz.ntmps9
 go_wp2_with fail
 refine CC.out.mono ?_
 rintro e w1 ⟨rfl,hb⟩
 obtain ⟨hx,hrr,hbw⟩:=boxes7 (by simpa using hb)
 have HB:=ghid hbw
 have HX:=ghid hx
 have HR:=ghid hrr
 clear hb hx hrr hbw CC
 obtain ⟨c0,c1,c2,c3,c4,c5,c6,cf,hpl⟩:=seven_cells HX.out
 by_cases hib:ix=base
 ·have HE2:Hid (E=12):=HE.out.trans (if_pos hib)
  have HZ2:=ghid (HLZ.out (by rw [HE2.out];decide))
  obtain ⟨r0,r1,r2,r3,r4,r5,r6,rf,rl⟩:=seven_cells HR.out
  subst hib
  clear HE
  have HF:=ghid (zset7 (b:=w.heap.size+1) HB.out (by omega) (.int .i64 0) (.slice none 0 0) (.string ⟨#[]⟩) (.int .i64 0) (.slice none 0 0) (.slice none 0 0) (.slice none 0 0))
  go_wp2
  refine bodyPost_ret (v:=.tuple #[.agg #[.int .i64 0,.slice none 0 0,.string ⟨#[]⟩,.int .i64 0,.slice none 0 0,.slice none 0 0,.slice none 0 0],.int .i64 12]) (by simp [results,Tryz.results9,go_sem,r0,r1,r2,r3,r4,r5,r6]) rfl ?_
  exact ⟨_,by rw [HE2.out],by rw [HZ2.out];exact Firm.of fun _=>RepR.nil _ _,HF.out⟩
 ·have hibb:(ix == base)=false:=by simpa using hib
  have HE1:=ghid (HE.out.trans (if_neg hib))
  clear hib HE
  go_wp2_with fail
  refine (CP.out _ HB.out).mono ?_
  rintro e w2 ⟨v2,rfl,hl2,hb2⟩
  obtain ⟨ho,hc,rfl,ht2⟩:=hl2.now.shape
  simp only at ht2 ⊢
  have hba:Below w2.heap.size w2 (w2.alloc (.cells #[.int .i64 pb,.slice ho pt.length hc] 29)):=(Below.refl _ _).alloc (Nat.le_refl _) _
  have hb1z:=HB.out.size
  have hrl1:w.heap.size+1 < w1.heap.size:=(Array.getElem?_eq_some_iff.1 HR.out).1
  have HB3:=ghid (HB.out.trans ((hb2.trans (hba.mono hb2.size)).mono hb1z))
  have HX3:=ghid (behind (behind HX.out (Below.refl _ _) hb2) (Below.refl _ _) hba)
  have HR3:=ghid (behind (behind HR.out (Below.refl _ _) hb2) (Below.refl _ _) hba)
  have HY3:=ghid (heap_alloc_new w2 (.cells #[.int .i64 pb,.slice ho pt.length hc] 29))
  have HL3:=ghid (hl2.below hba)
  obtain ⟨w3,hw3⟩:∃ w3,w3=w2.alloc (.cells #[.int .i64 pb,.slice ho pt.length hc] 29):=⟨_,rfl⟩
  obtain ⟨y,hy⟩:∃ y,y=w2.heap.size:=⟨_,rfl⟩
  have HYZ:Hid (w.heap.size+1 < y):=(by have:=hb2.size;omega:w.heap.size+1 < y)
  rw [←hw3] at HB3 HX3 HR3 HY3 HL3
  rw [←hy] at HY3
  have HW3:=ghid hw3
  have HY:=ghid hy
  clear hl2 ht2 hb2 hba hw3 hy HX HR CP c0 c1 c2 c3 c4 c5 c6 cf hpl hb1z
  by_cases hp0:pe=0
  ·have HE2:Hid (E=0):=HE1.out.trans (if_neg (by simpa using hp0))
   subst hp0
   have HLF:=ghid (HLO.out HE2.out)
   clear HE1 HLO HLZ
   go_upto_region 7 with fail
   rw [←HW3.out,←HY.out]
   clear HW3 HY
   obtain ⟨d0,d1,dl⟩:=two_cells HY3.out
   obtain ⟨c0,c1,c2,c3,c4,c5,c6,cf,hpl⟩:=seven_cells HX3.out
   go_wp2_with fail
   refine (CE.out _ HB3.out).mono ?_
   rintro e w4 ⟨rfl,hb4⟩
   have HB4:=ghid (HB3.out.trans (hb4.mono HB3.out.size))
   have HX4:=ghid (behind HX3.out (Below.refl _ _) hb4)
   have HR4:=ghid (behind HR3.out (Below.refl _ _) hb4)
   have HY4:=ghid (behind HY3.out (Below.refl _ _) hb4)
   have HL4:=ghid (HL3.out.below hb4)
   clear hb4 HX3 HR3 HY3 HL3 HB3 CE
   obtain ⟨c0,c1,c2,c3,c4,c5,c6,cf,hpl⟩:=seven_cells HX4.out
   obtain ⟨d0,d1,dl⟩:=two_cells HY4.out
   have hyn1:y≠w.heap.size+1:=by have:=HYZ.out;omega
   have hyn2:w.heap.size+1≠y:=fun e=>hyn1 e.symm
   go_wp2
   go_region_held3 (fun w'=>w'.cell? ⟨w.heap.size,0,none⟩=some (.int .i64 base)∧w'.cell? ⟨w.heap.size,1,none⟩=some (.slice eo n ec)∧w'.cell? ⟨w.heap.size,2,none⟩=some (.string sp)∧w'.cell? ⟨w.heap.size,3,none⟩=some (.int .i64 ix)∧w'.cell? ⟨w.heap.size,4,none⟩=some (.slice lo ln lc)∧w'.cell? ⟨w.heap.size,5,none⟩=some (.slice po pn pc)∧w'.cell? ⟨w.heap.size,6,none⟩=some (.slice so sn sc)∧w'.cell? ⟨y,0,none⟩=some (.int .i64 pb)∧w'.cell? ⟨y,1,none⟩=some (.slice ho pt.length hc)) (go_keep)
    (first
     | (go_at_call 20;have hd:=(Below.refl w4.heap.size w4).drew;refine (CM.out _ (HB4.out.trans (hd.mono HB4.out.size))).mono ?_;rintro e w7 ⟨lo7,po7,so7,ln7,lc7,pn7,pc7,sn7,sc7,rfl,hs7,hb7⟩;have hbd:=hd.trans hb7;have HB7:=ghid (HB4.out.trans (hbd.mono HB4.out.size));have HR7:=ghid (behind HR4.out (Below.refl _ _) hbd);have HL7:=ghid (HL4.out.below hbd);have HS7:=ghid hs7;obtain ⟨c0,c1,c2,c3,c4,c5,c6,cf,hpl⟩:=seven_cells (behind HX4.out (Below.refl _ _) hbd);obtain ⟨d0,d1,dl⟩:=two_cells (behind HY4.out (Below.refl _ _) hbd);clear hd hbd hb7 hs7;obtain ⟨r0,r1,r2,r3,r4,r5,r6,rf,rl⟩:=seven_cells HR7.out))
   all_goals
    have HF:=ghid (zset7 (b:=w.heap.size+1) HB7.out (by omega) (.int .i64 pb) (.slice ho pt.length hc) (.string ns) (.int .i64 ix) (.slice lo7 ln7 lc7) (.slice po7 pn7 pc7) (.slice so7 sn7 sc7))
    have HA:=ghid ((HL7.out.set7 (p:=w.heap.size+1) hrl1 (.int .i64 pb) (.slice ho pt.length hc) (.string ns) (.int .i64 ix) (.slice lo7 ln7 lc7) (.slice po7 pn7 pc7) (.slice so7 sn7 sc7)).mono (by omega:w.heap.size≤w1.heap.size)).firm
    have HC:=ghid ((HS7.out.set7 HR7.out (.int .i64 pb) (.slice ho pt.length hc) (.string ns) (.int .i64 ix) (.slice lo7 ln7 lc7) (.slice po7 pn7 pc7) (.slice so7 sn7 sc7)).firm w.heap.size)
    go_wp2
    refine bodyPost_ret (v:=.tuple #[.agg #[.int .i64 pb,.slice ho pt.length hc,.string ns,.int .i64 ix,.slice lo7 ln7 lc7,.slice po7 pn7 pc7,.slice so7 sn7 sc7],.int .i64 0]) (by simp [results,Tryz.results9,go_sem,r0,r1,r2,r3,r4,r5,r6]) rfl ?_
    exact ⟨_,by rw [HE2.out],by rw [HLF.out];exact RepR.firm (fun u hu=>(HA.out u hu).part) HS.out HC.out,HF.out⟩
  ·have HE2:Hid (E=pe):=HE1.out.trans (if_pos hp0)
   have hpb:(pe != 0)=true:=by simpa using hp0
   have HZ2:=ghid (HLZ.out (by rw [HE2.out];exact hp0))
   obtain ⟨r0,r1,r2,r3,r4,r5,r6,rf,rl⟩:=seven_cells HR3.out
   clear HE1 hp0
   go_upto_region 7 with fail
   rw [←HW3.out,←HY.out]
   clear HW3 HY
   have HF:=ghid (zset7 (b:=w.heap.size+1) HB3.out (by omega) (.int .i64 0) (.slice none 0 0) (.string ⟨#[]⟩) (.int .i64 0) (.slice none 0 0) (.slice none 0 0) (.slice none 0 0))
   go_wp2
   refine bodyPost_ret (v:=.tuple #[.agg #[.int .i64 0,.slice none 0 0,.string ⟨#[]⟩,.int .i64 0,.slice none 0 0,.slice none 0 0,.slice none 0 0],.int .i64 pe]) (by simp [results,Tryz.results9,go_sem,r0,r1,r2,r3,r4,r5,r6]) rfl ?_
   exact ⟨_,by rw [HE2.out],by rw [HZ2.out];exact Firm.of fun _=>RepR.nil _ _,HF.out⟩
end Go.Proofs.YtbmfahgekcnkaajGreatDoor
namespace Go.Proofs.YtbmfahgekcnkaajGreatDoor
open Go.RowKit
set_option maxRecDepth 100000 in
set_option maxHeartbeats 3200000 in
theorem restart_any (v:Value) (r:RepD) (w:World) (B:Nat) (hv:RepR w B v r) (hB:B≤w.heap.size) (hr:repE r=0) :
  Calls Tryz.prog 10 #[v] w fun e w'=>∃ v',e=.returned (.tuple #[v',.int .i64 0])∧Firm w.heap.size w' (fun u=>RepR u u.heap.size v' (restL r))∧Below w.heap.size w w':=by
 obtain ⟨-,-,-,k5⟩:=repE_zero hr
 obtain ⟨eo,lo,po,so,ec,ln,lc,pn,pc,sn,sc,rfl,hl,hs,hst⟩:=hv.parts
 have HLF:Hid (restL r=⟨r.log,r.snap,recallL r.snap⟩):=if_pos hr
 obtain ⟨L,hL⟩:∃ L,L=restL r:=⟨_,rfl⟩
 have HV:=ghid hv
 have hre:=recall_zero k5
 obtain ⟨⟨base,ts⟩,sp,s⟩:=r
 rw [←hL] at HLF ⊢
 simp only at HLF HV hl hs hst hre ⊢
 obtain ⟨ix,hix⟩:∃ ix,ix=s.index:=⟨_,rfl⟩
 obtain ⟨n,hn⟩:∃ n,n=ts.length:=⟨_,rfl⟩
 rw [←hix] at HV hst ⊢
 rw [←hn] at hl HV ⊢
 have HZ:Hid (Below w.heap.size w ((w.alloc (.cells #[.int .i64 base,.slice eo n ec,.string sp,.int .i64 ix,.slice lo ln lc,.slice po pn pc,.slice so sn sc] 36)).alloc (.cells #[.int .i64 0,.slice none 0 0,.string ⟨#[]⟩,.int .i64 0,.slice none 0 0,.slice none 0 0,.slice none 0 0] 36))):=(((Below.refl _ _).alloc (Nat.le_refl _) _).alloc (by simp) _)
 have CC:=ghid (repCheck_ok _ _ _ B (HV.out.below HZ.out hB) (by have:=HZ.out.size;omega) hr)
 have CR:=ghid (fun u=>recall_any sp u hs)
 rw [hre] at CR
 have CL:=ghid (fun u (hu:Below w.heap.size w u)=>logCopy_new _ ⟨base,ts⟩ u B (hl.below hu hB) (by have:=hu.size;omega))
 simp only at CL
 rw [←hn] at CL
 have CS:=ghid (fun u=>clone_any sp u (by omega))
 obtain ⟨x,hx⟩:∃ x,x=recallL sp:=⟨_,rfl⟩
 rw [←hx] at CR HLF
 have HS:=ghid hs
 have HN:=ghid hn
 clear hl hs hst hv hr k5 HV hL hix hn hre hx hB
 go_enter Tryz.func10,Tryz.ntmps10
 go_wp2_with fail
 refine CC.out.mono ?_
 rintro e w1 ⟨rfl,hb⟩
 obtain ⟨hx,hrr,hbw⟩:=boxes7 (by simpa using hb)
 have HB:=ghid hbw
 have HX:=ghid hx
 have HR:=ghid hrr
 clear hb hx hrr hbw CC
 obtain ⟨c0,c1,c2,c3,c4,c5,c6,cf,hpl⟩:=seven_cells HX.out
 go_wp2_with fail
 refine (CR.out _).mono ?_
 rintro e w2 ⟨v2,rfl,hl2,hb2⟩
 obtain ⟨lo2,ln2,lc2,po2,pn2,pc2,so2,sn2,sc2,rfl⟩:=hl2.now.shape
 have hba:Below w2.heap.size w2 (w2.alloc (.cells #[.int .i64 x.index,.slice lo2 ln2 lc2,.slice po2 pn2 pc2,.slice so2 sn2 sc2] 34)):=(Below.refl _ _).alloc (Nat.le_refl _) _
 have hb1z:=HB.out.size
 have hrl1:w.heap.size+1 < w1.heap.size:=(Array.getElem?_eq_some_iff.1 HR.out).1
 have HB3:=ghid (HB.out.trans ((hb2.trans (hba.mono hb2.size)).mono hb1z))
 have HX3:=ghid (behind (behind HX.out (Below.refl _ _) hb2) (Below.refl _ _) hba)
 have HR3:=ghid (behind (behind HR.out (Below.refl _ _) hb2) (Below.refl _ _) hba)
 have HY3:=ghid (heap_alloc_new w2 (.cells #[.int .i64 x.index,.slice lo2 ln2 lc2,.slice po2 pn2 pc2,.slice so2 sn2 sc2] 34))
 have HL3:=ghid (hl2.below hba)
 obtain ⟨w3,hw3⟩:∃ w3,w3=w2.alloc (.cells #[.int .i64 x.index,.slice lo2 ln2 lc2,.slice po2 pn2 pc2,.slice so2 sn2 sc2] 34):=⟨_,rfl⟩
 obtain ⟨y,hy⟩:∃ y,y=w2.heap.size:=⟨_,rfl⟩
 have HYZ:Hid (w.heap.size+1 < y):=(by have:=hb2.size;omega:w.heap.size+1 < y)
 rw [←hw3] at HB3 HX3 HR3 HY3 HL3
 rw [←hy] at HY3
 have HW3:=ghid hw3
 have HY:=ghid hy
 have hz3:w.heap.size+1 < w3.heap.size:=(Array.getElem?_eq_some_iff.1 HR3.out).1
 clear hl2 hb2 hba hw3 hy HX HR CR c0 c1 c2 c3 c4 c5 c6 cf hpl hb1z
 go_upto_region 5 with fail
 rw [←HW3.out,←HY.out]
 clear HW3 HY
 obtain ⟨d0,d1,d2,d3,df,dl⟩:=state_cells HY3.out
 obtain ⟨c0,c1,c2,c3,c4,c5,c6,cf,hpl⟩:=seven_cells HX3.out
 have hyn1:y≠w.heap.size+1:=by have:=HYZ.out;omega
 have hyn2:w.heap.size+1≠y:=fun e=>hyn1 e.symm
 go_wp2
 go_region_held3 (fun w'=>w'.cell? ⟨w.heap.size,0,none⟩=some (.int .i64 base)∧w'.cell? ⟨w.heap.size,1,none⟩=some (.slice eo n ec)∧w'.cell? ⟨w.heap.size,2,none⟩=some (.string sp)∧w'.cell? ⟨w.heap.size,3,none⟩=some (.int .i64 ix)∧w'.cell? ⟨w.heap.size,4,none⟩=some (.slice lo ln lc)∧w'.cell? ⟨w.heap.size,5,none⟩=some (.slice po pn pc)∧w'.cell? ⟨w.heap.size,6,none⟩=some (.slice so sn sc)∧w'.cell? ⟨y,0,none⟩=some (.int .i64 x.index)∧w'.cell? ⟨y,1,none⟩=some (.slice lo2 ln2 lc2)∧w'.cell? ⟨y,2,none⟩=some (.slice po2 pn2 pc2)∧w'.cell? ⟨y,3,none⟩=some (.slice so2 sn2 sc2)) (go_keep)
  (first
   | (go_at_call 28;have hd:=(Below.refl w3.heap.size w3).drew;refine (CL.out _ (HB3.out.trans (hd.mono HB3.out.size))).mono ?_;rintro e w4 ⟨vo,vc,rfl,ho4,hb4⟩;have hbd:=hd.trans hb4;have HB4:=ghid (HB3.out.trans (hbd.mono HB3.out.size));have HX4:=ghid (behind HX3.out (Below.refl _ _) hbd);have HR4:=ghid (behind HR3.out (Below.refl _ _) hbd);have HY4:=ghid (behind HY3.out (Below.refl _ _) hbd);have HL4:=ghid (HL3.out.below hbd);have HO4:=ghid (ho4.mono (Nat.le_succ w3.heap.size));clear hd hbd hb4 ho4;obtain ⟨c0,c1,c2,c3,c4,c5,c6,cf,hpl⟩:=seven_cells HX4.out;obtain ⟨d0,d1,d2,d3,df,dl⟩:=state_cells HY4.out)
   | (go_at_call 19;refine (CS.out _).mono ?_;rintro e w5 ⟨rfl,hb5⟩;have HB5:=ghid (HB4.out.trans (hb5.mono HB4.out.size));have HR5:=ghid (behind HR4.out (Below.refl _ _) hb5);have HL5:=ghid (HL4.out.below hb5);have HO5:=ghid (HO4.out.below hb5);obtain ⟨c0,c1,c2,c3,c4,c5,c6,cf,hpl⟩:=seven_cells (behind HX4.out (Below.refl _ _) hb5);obtain ⟨d0,d1,d2,d3,df,dl⟩:=state_cells (behind HY4.out (Below.refl _ _) hb5);clear hb5;obtain ⟨r0,r1,r2,r3,r4,r5,r6,rf,rl⟩:=seven_cells HR5.out))
 all_goals
  have HF:=ghid (zset7 (b:=w.heap.size+1) HB5.out (by omega) (.int .i64 base) (.slice vo n vc) (.string sp) (.int .i64 x.index) (.slice lo2 ln2 lc2) (.slice po2 pn2 pc2) (.slice so2 sn2 sc2))
  have HA:=ghid ((HL5.out.set7 (p:=w.heap.size+1) hrl1 (.int .i64 base) (.slice vo n vc) (.string sp) (.int .i64 x.index) (.slice lo2 ln2 lc2) (.slice po2 pn2 pc2) (.slice so2 sn2 sc2)).mono (by omega:w.heap.size≤w1.heap.size)).firm
  have HC:=ghid ((HO5.out.touch (touch7 (w.heap.size+1) (.int .i64 base) (.slice vo n vc) (.string sp) (.int .i64 x.index) (.slice lo2 ln2 lc2) (.slice po2 pn2 pc2) (.slice so2 sn2 sc2)) fun _ _ e=>e ▸ rep_alien HR5.out).firm w.heap.size)
  go_wp2
  refine bodyPost_ret (v:=.tuple #[.agg #[.int .i64 base,.slice vo n vc,.string sp,.int .i64 x.index,.slice lo2 ln2 lc2,.slice po2 pn2 pc2,.slice so2 sn2 sc2],.int .i64 0]) (by simp [results,Tryz.results10,go_sem,r0,r1,r2,r3,r4,r5,r6]) rfl ?_
  exact ⟨_,rfl,by rw [HLF.out];exact RepR.firm HC.out HS.out HA.out,HF.out⟩
end Go.Proofs.YtbmfahgekcnkaajGreatDoor
namespace Go.Proofs.YtbmfahgekcnkaajGreatDoor
open Go.RowKit
set_option maxRecDepth 100000 in
set_option maxHeartbeats 3200000 in
theorem install_any (v:Value) (r:RepD) (nt:ByteArray) (w:World) (B:Nat) (hv:RepR w B v r) (hB:B≤w.heap.size) (hr:repE r=0) (hnt:nt.size≤140737488351232) :
  Calls Tryz.prog 11 #[v,.string nt] w fun e w'=>∃ v',e=.returned (.tuple #[v',.int .i64 (instE r nt)])∧Firm w.heap.size w' (fun u=>RepR u u.heap.size v' (instL r nt))∧Below w.heap.size w w':=by
 obtain ⟨k1,-,⟨k3,-⟩,-⟩:=repE_zero hr
 obtain ⟨eo,lo,po,so,ec,ln,lc,pn,pc,sn,sc,rfl,hl,hs,hst⟩:=hv.parts
 have HE:Hid (instE r nt=if snapE nt≠0 then snapE nt else if (snapL nt).index≤r.state.index then 12 else if 1073741424 < (snapL nt).index then 8 else 0):=by
  unfold Hid instE
  rw [if_neg (by simpa using hr)]
 have HLZ:Hid (instE r nt≠0→instL r nt=.zero):=fun h=>if_neg h
 have HLO:Hid (instE r nt=0→instL r nt=⟨⟨(snapL nt).index,behindL r.log (snapL nt).index 400⟩,nt,snapL nt⟩):=fun h=>if_pos h
 have HBE:Hid (r.log.base≤(snapL nt).index→behindE r.log (snapL nt).index 400=0):=fun h=>by
  unfold behindE
  rw [if_neg (by simpa using k1),if_neg (by omega)]
 obtain ⟨E,hE⟩:∃ E,E=instE r nt:=⟨_,rfl⟩
 obtain ⟨L,hL⟩:∃ L,L=instL r nt:=⟨_,rfl⟩
 obtain ⟨x,hx⟩:∃ x,x=snapL nt:=⟨_,rfl⟩
 obtain ⟨c,hc⟩:∃ c,c=snapE nt:=⟨_,rfl⟩
 have HV:=ghid hv
 obtain ⟨⟨base,ts⟩,sp,s⟩:=r
 rw [←hE,←hc,←hx] at HE
 rw [←hE,←hL] at HLZ
 rw [←hE,←hL,←hx] at HLO
 rw [←hx] at HBE
 rw [←hE,←hL]
 simp only at k3 HE HLO HBE HV hl hs hst ⊢
 obtain ⟨ix,hix⟩:∃ ix,ix=s.index:=⟨_,rfl⟩
 obtain ⟨n,hn⟩:∃ n,n=ts.length:=⟨_,rfl⟩
 rw [←hix] at HE HV hst k3 ⊢
 rw [←hn] at hl HV ⊢
 have HZ:Hid (Below w.heap.size w ((w.alloc (.cells #[.int .i64 base,.slice eo n ec,.string sp,.int .i64 ix,.slice lo ln lc,.slice po pn pc,.slice so sn sc] 36)).alloc (.cells #[.int .i64 0,.slice none 0 0,.string ⟨#[]⟩,.int .i64 0,.slice none 0 0,.slice none 0 0,.slice none 0 0] 36))):=(((Below.refl _ _).alloc (Nat.le_refl _) _).alloc (by simp) _)
 have CC:=ghid (repCheck_ok _ _ _ B (HV.out.below HZ.out hB) (by have:=HZ.out.size;omega) hr)
 have CD:=ghid (fun u=>decode_new nt u hnt)
 rw [←hx,←hc] at CD
 have CB:=ghid (fun u (hu:Below w.heap.size w u) (hi:-9223372036854775808≤x.index∧x.index≤9223372036854775807)=>behind_new _ ⟨base,ts⟩ x.index 400 u B (hl.below hu hB) (by have:=hu.size;omega) hi ⟨by omega,by omega⟩)
 have CS:=ghid (fun u=>clone_any nt u (by omega))
 obtain ⟨bl,hbl⟩:∃ bl,bl=behindL ⟨base,ts⟩ x.index 400:=⟨_,rfl⟩
 rw [←hbl] at HLO CB
 have HNT:=ghid hnt
 have HC0:Hid (c=0→0≤x.index):=fun h=>by
  rw [hc] at h
  rw [hx]
  unfold snapL
  rw [if_pos h]
  unfold snapE at h
  split at h
  ·cases h
  ·split at h
   ·cases h
   ·split at h
    ·cases h
    ·split at h
     ·rename_i h4;exact absurd h h4
     ·exact (GoodM.of h).sess.low
 clear hl hs hst hv hr k1 HV hE hL hix hn hx hc hbl hnt hB
 go_enter Tryz.func11,Tryz.ntmps11
 go_wp2_with fail
 refine CC.out.mono ?_
 rintro e w1 ⟨rfl,hb⟩
 obtain ⟨hx,hrr,hbw⟩:=boxes7 (by simpa using hb)
 have HB:=ghid hbw
 have HX:=ghid hx
 have HR:=ghid hrr
 clear hb hx hrr hbw CC
 obtain ⟨c0,c1,c2,c3,c4,c5,c6,cf,hpl⟩:=seven_cells HX.out
 go_wp2_with fail
 refine (CD.out _).mono ?_
 rintro e w2 ⟨v2,rfl,hl2,hb2⟩
 obtain ⟨lo2,ln2,lc2,po2,pn2,pc2,so2,sn2,sc2,rfl⟩:=hl2.now.shape
 have hba:Below w2.heap.size w2 (w2.alloc (.cells #[.int .i64 x.index,.slice lo2 ln2 lc2,.slice po2 pn2 pc2,.slice so2 sn2 sc2] 34)):=(Below.refl _ _).alloc (Nat.le_refl _) _
 have hb1z:=HB.out.size
 have hrl1:w.heap.size+1 < w1.heap.size:=(Array.getElem?_eq_some_iff.1 HR.out).1
 have HB3:=ghid (HB.out.trans ((hb2.trans (hba.mono hb2.size)).mono hb1z))
 have HX3:=ghid (behind (behind HX.out (Below.refl _ _) hb2) (Below.refl _ _) hba)
 have HR3:=ghid (behind (behind HR.out (Below.refl _ _) hb2) (Below.refl _ _) hba)
 have HY3:=ghid (heap_alloc_new w2 (.cells #[.int .i64 x.index,.slice lo2 ln2 lc2,.slice po2 pn2 pc2,.slice so2 sn2 sc2] 34))
 have HL3:=ghid (hl2.below hba)
 obtain ⟨w3,hw3⟩:∃ w3,w3=w2.alloc (.cells #[.int .i64 x.index,.slice lo2 ln2 lc2,.slice po2 pn2 pc2,.slice so2 sn2 sc2] 34):=⟨_,rfl⟩
 obtain ⟨y,hy⟩:∃ y,y=w2.heap.size:=⟨_,rfl⟩
 have HYZ:Hid (w.heap.size+1 < y):=(by have:=hb2.size;omega:w.heap.size+1 < y)
 rw [←hw3] at HB3 HX3 HR3 HY3 HL3
 rw [←hy] at HY3
 have HW3:=ghid hw3
 have HY:=ghid hy
 have hz3:w.heap.size+1 < w3.heap.size:=(Array.getElem?_eq_some_iff.1 HR3.out).1
 clear hl2 hb2 hba hw3 hy HX HR CD c0 c1 c2 c3 c4 c5 c6 cf hpl hb1z
 obtain ⟨d0,d1,d2,d3,df,dl⟩:=state_cells HY3.out
 obtain ⟨c0,c1,c2,c3,c4,c5,c6,cf,hpl⟩:=seven_cells HX3.out
 obtain ⟨r0,r1,r2,r3,r4,r5,r6,rf,rl⟩:=seven_cells HR3.out
 by_cases hc0:c=0
 ·have HE1:=ghid (HE.out.trans (if_neg (by simpa using hc0)))
  have hx0:=HC0.out hc0
  subst hc0
  clear HE HC0
  by_cases h1:x.index≤ix
  ·have HE2:Hid (E=12):=HE1.out.trans (if_pos h1)
   have HZ2:=ghid (HLZ.out (by rw [HE2.out];decide))
   clear HE1
   go_upto_region 5 with fail
   rw [←HW3.out,←HY.out]
   clear HW3 HY
   have HF:=ghid (zset7 (b:=w.heap.size+1) HB3.out (by omega) (.int .i64 0) (.slice none 0 0) (.string ⟨#[]⟩) (.int .i64 0) (.slice none 0 0) (.slice none 0 0) (.slice none 0 0))
   go_wp2
   refine bodyPost_ret (v:=.tuple #[.agg #[.int .i64 0,.slice none 0 0,.string ⟨#[]⟩,.int .i64 0,.slice none 0 0,.slice none 0 0,.slice none 0 0],.int .i64 12]) (by simp [results,Tryz.results11,go_sem,r0,r1,r2,r3,r4,r5,r6]) rfl ?_
   exact ⟨_,by rw [HE2.out],by rw [HZ2.out];exact Firm.of fun _=>RepR.nil _ _,HF.out⟩
  ·have HE2:=ghid (HE1.out.trans (if_neg h1))
   clear HE1
   by_cases h2:1073741424 < x.index
   ·have HE3:Hid (E=8):=HE2.out.trans (if_pos h2)
    have HZ2:=ghid (HLZ.out (by rw [HE3.out];decide))
    clear HE2
    go_upto_region 5 with fail
    rw [←HW3.out,←HY.out]
    clear HW3 HY
    have HF:=ghid (zset7 (b:=w.heap.size+1) HB3.out (by omega) (.int .i64 0) (.slice none 0 0) (.string ⟨#[]⟩) (.int .i64 0) (.slice none 0 0) (.slice none 0 0) (.slice none 0 0))
    go_wp2
    refine bodyPost_ret (v:=.tuple #[.agg #[.int .i64 0,.slice none 0 0,.string ⟨#[]⟩,.int .i64 0,.slice none 0 0,.slice none 0 0,.slice none 0 0],.int .i64 8]) (by simp [results,Tryz.results11,go_sem,r0,r1,r2,r3,r4,r5,r6]) rfl ?_
    exact ⟨_,by rw [HE3.out],by rw [HZ2.out];exact Firm.of fun _=>RepR.nil _ _,HF.out⟩
   ·have HE3:Hid (E=0):=HE2.out.trans (if_neg h2)
    have HLF:=ghid (HLO.out HE3.out)
    have CB2:=ghid (fun u (hu:Below w.heap.size w u)=>CB.out u hu ⟨by omega,by omega⟩)
    have hbe:=HBE.out (by omega)
    rw [hbe] at CB2
    clear HE2 HLO HLZ CB HBE hbe
    go_upto_region 5 with fail
    rw [←HW3.out,←HY.out]
    clear HW3 HY
    go_wp2_with fail
    refine (CB2.out _ HB3.out).mono ?_
    rintro e w4 ⟨v4,rfl,hl4,hb4⟩
    obtain ⟨vo,vc,rfl⟩:=hl4.now.slice
    have HB4:=ghid (HB3.out.trans (hb4.mono HB3.out.size))
    have HX4:=ghid (behind HX3.out (Below.refl _ _) hb4)
    have HR4:=ghid (behind HR3.out (Below.refl _ _) hb4)
    have HY4:=ghid (behind HY3.out (Below.refl _ _) hb4)
    have HL4:=ghid (HL3.out.below hb4)
    have HT4:=ghid hl4
    clear hb4 hl4 HX3 HR3 HY3 HL3 HB3 CB2
    obtain ⟨c0,c1,c2,c3,c4,c5,c6,cf,hpl⟩:=seven_cells HX4.out
    obtain ⟨d0,d1,d2,d3,df,dl⟩:=state_cells HY4.out
    have hyn1:y≠w.heap.size+1:=by have:=HYZ.out;omega
    have hyn2:w.heap.size+1≠y:=fun e=>hyn1 e.symm
    go_wp2
    go_region_held3 (fun w'=>w'.cell? ⟨y,0,none⟩=some (.int .i64 x.index)∧w'.cell? ⟨y,1,none⟩=some (.slice lo2 ln2 lc2)∧w'.cell? ⟨y,2,none⟩=some (.slice po2 pn2 pc2)∧w'.cell? ⟨y,3,none⟩=some (.slice so2 sn2 sc2)) (go_keep)
     (first
      | (go_at_call 19;refine (CS.out _).mono ?_;rintro e w5 ⟨rfl,hb5⟩;have hbd:=(Below.refl w4.heap.size w4).drew.trans hb5;have HB5:=ghid (HB4.out.trans (hbd.mono HB4.out.size));have HR5:=ghid (behind HR4.out (Below.refl _ _) hbd);have HL5:=ghid (HL4.out.below hbd);have HT5:=ghid (HT4.out.below hbd);obtain ⟨d0,d1,d2,d3,df,dl⟩:=state_cells (behind HY4.out (Below.refl _ _) hbd);clear hb5 hbd;obtain ⟨r0,r1,r2,r3,r4,r5,r6,rf,rl⟩:=seven_cells HR5.out))
    all_goals
     have HF:=ghid (zset7 (b:=w.heap.size+1) HB5.out (by omega) (.int .i64 x.index) (.slice vo bl.length vc) (.string nt) (.int .i64 x.index) (.slice lo2 ln2 lc2) (.slice po2 pn2 pc2) (.slice so2 sn2 sc2))
     have HA:=ghid ((HL5.out.set7 (p:=w.heap.size+1) hrl1 (.int .i64 x.index) (.slice vo bl.length vc) (.string nt) (.int .i64 x.index) (.slice lo2 ln2 lc2) (.slice po2 pn2 pc2) (.slice so2 sn2 sc2)).mono (by omega:w.heap.size≤w1.heap.size)).firm
     have HC:=ghid ((HT5.out.set7 (p:=w.heap.size+1) hz3 (.int .i64 x.index) (.slice vo bl.length vc) (.string nt) (.int .i64 x.index) (.slice lo2 ln2 lc2) (.slice po2 pn2 pc2) (.slice so2 sn2 sc2)).mono (by omega:w.heap.size≤w3.heap.size)).firm
     go_wp2
     refine bodyPost_ret (v:=.tuple #[.agg #[.int .i64 x.index,.slice vo bl.length vc,.string nt,.int .i64 x.index,.slice lo2 ln2 lc2,.slice po2 pn2 pc2,.slice so2 sn2 sc2],.int .i64 0]) (by simp [results,Tryz.results11,go_sem,r0,r1,r2,r3,r4,r5,r6]) rfl ?_
     exact ⟨_,by rw [HE3.out],by rw [HLF.out];exact RepR.firm HC.out HNT.out HA.out,HF.out⟩
 ·have HE2:Hid (E=c):=HE.out.trans (if_pos hc0)
  have hcb:(c != 0)=true:=by simpa using hc0
  have HZ2:=ghid (HLZ.out (by rw [HE2.out];exact hc0))
  clear HE hc0
  go_upto_region 5 with fail
  rw [←HW3.out,←HY.out]
  clear HW3 HY
  have HF:=ghid (zset7 (b:=w.heap.size+1) HB3.out (by omega) (.int .i64 0) (.slice none 0 0) (.string ⟨#[]⟩) (.int .i64 0) (.slice none 0 0) (.slice none 0 0) (.slice none 0 0))
  go_wp2
  refine bodyPost_ret (v:=.tuple #[.agg #[.int .i64 0,.slice none 0 0,.string ⟨#[]⟩,.int .i64 0,.slice none 0 0,.slice none 0 0,.slice none 0 0],.int .i64 c]) (by simp [results,Tryz.results11,go_sem,r0,r1,r2,r3,r4,r5,r6]) rfl ?_
  exact ⟨_,by rw [HE2.out],by rw [HZ2.out];exact Firm.of fun _=>RepR.nil _ _,HF.out⟩
end Go.Proofs.YtbmfahgekcnkaajGreatDoor
