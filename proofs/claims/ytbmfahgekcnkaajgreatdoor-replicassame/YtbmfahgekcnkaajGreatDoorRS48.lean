/- tackroomkeep.Commands: commands of raw things (joined by program) -/
import Derived.Test.YtbmfahgekcnkaajGreatDoorRS41
import Derived.Test.YtbmfahgekcnkaajGreatDoorRS47
import Derived.Test.YtbmfahgekcnkaajGreatDoorRS42
namespace Go.Proofs.YtbmfahgekcnkaajGreatDoor
open Go.RowKit Go.Maps
theorem row_not_map {b n m base size:Nat} {f:Int→Int} {w:World} {e:TypeId} {v:Value} {xs:List Value} (h:MapI b n f w) (ho:w.ownsRow base e size v m xs):v.ownBlock≠some b:=by
 intro hv
 obtain ⟨D,⟨es,clock,hb,-⟩,-⟩:=h
 rcases ho.2 with ⟨rfl,-⟩ | ⟨g,cap,cur,rfl,-,hg,-⟩
 ·cases hv
 ·cases hv
  rw [hb] at hg
  cases hg
theorem row_not_box {b m base size:Nat} {w:World} {e t:TypeId} {v:Value} {xs:List Value} {cs:Array Value} {fz:Nat × Nat} (h:w.heap[b]?=some (.cells cs t fz)) (ht:t≠e) (ho:w.ownsRow base e size v m xs):v.ownBlock≠some b:=by
 intro hv
 rcases ho.2 with ⟨rfl,-⟩ | ⟨g,cap,cur,rfl,-,hg,-⟩
 ·cases hv
 ·cases hv
  rw [h] at hg
  cases hg
  exact ht rfl
structure RndC (w:World) (br k:Nat) (f g:Int→Int) (x0 x1 x2 x3:Int) (w':World):Prop where
 mn:MapI w.heap.size k g w'
 ms:MapI (w.heap.size+1) k f w'
 box:w'.heap[br]?=some (.cells #[.int .i64 x0,.int .i64 x1,.int .i64 x2,.int .i64 x3] 56 (0,0))
 below:Below w.heap.size w w'
theorem RndC.step {w:World} {br k:Nat} {f g:Int→Int} {x0 x1 x2 x3:Int} {w1 w2:World} (h:RndC w br k f g x0 x1 x2 x3 w1) (hb:Below w1.heap.size w1 w2):RndC w br k f g x0 x1 x2 x3 w2 :=
 ⟨h.mn.below hb,h.ms.below hb,(hb.block _ (Array.getElem?_eq_some_iff.1 h.box).1).trans h.box,h.below.trans (hb.mono h.below.size)⟩
theorem RndC.drew {w:World} {br k:Nat} {f g:Int→Int} {x0 x1 x2 x3:Int} {w1:World} (h:RndC w br k f g x0 x1 x2 x3 w1):RndC w br k f g x0 x1 x2 x3 w1.drew:=⟨h.mn,h.ms,h.box,h.below.drew⟩
theorem box_cells {b:Nat} {w:World} {x0 x1 x2 x3:Int} (h:w.heap[b]?=some (.cells #[.int .i64 x0,.int .i64 x1,.int .i64 x2,.int .i64 x3] 56 (0,0))):w.cell? ⟨b,0,none⟩=some (.int .i64 x0)∧w.cell? ⟨b,1,none⟩=some (.int .i64 x1)∧w.cell? ⟨b,2,none⟩=some (.int .i64 x2)∧w.cell? ⟨b,3,none⟩=some (.int .i64 x3) :=
 ⟨cell_of_row w b 0 _ _ _ h,cell_of_row w b 1 _ _ _ h,cell_of_row w b 2 _ _ _ h,cell_of_row w b 3 _ _ _ h⟩
theorem nameK_name (n:Int):nameB (nameK n)=true:=by
 rcases nameK_of n with e | e | e <;> rw [e] <;> decide
theorem keepOp_ok (x0 x1 x3:Int) (s:ByteArray) (n:Int) (h5:opK (pickZ x0 9)=5→s.size≤3∧n=1+pickZ x3 4) (hn:opK (pickZ x0 9)≠5→s=⟨#[]⟩∧n=0):opE (opK (pickZ x0 9)) (nameK x1) s n=0:=by
 have hb:=opK_bd (pickZ x0 9)
 have hp:=pickZ_bd x3 4 (by omega)
 by_cases h:opK (pickZ x0 9)=5
 ·obtain ⟨hs,rfl⟩:=h5 h
  rw [opE_past hb (nameK_name x1) (.inl h),if_neg (by omega),if_pos h,if_pos (by omega)]
 ·obtain ⟨rfl,rfl⟩:=hn h
  rw [opE_past hb (nameK_name x1) (.inr rfl),if_neg (by decide),if_neg h,if_pos rfl]
theorem keepCall_ok {m:Nat} (hm:m≤100) {c s q u ok:Int} {a b:ByteArray} {n:Int} (hc:1≤c∧c≤4) (hs:1≤s∧s≤m) (hq:1≤q∧q≤m+1) (hu:0≤u∧u≤q - 1) (ho:opE ok a b n=0) (ha:a=⟨#[97]⟩∨a=⟨#[98]⟩∨a=⟨#[107,101,121]⟩):KeepX m (⟨2,c,s,q,u,ok,a,b,n⟩:CmdD):=by
 refine ⟨?_,hc.2,hq.2,fun _=>ha⟩
 show cmdE 2 c s q u ok a b n=0
 rw [cmdE_callYes (by omega) ⟨⟨by omega,by omega⟩,⟨by omega,by omega⟩,hu⟩]
 exact ho
theorem RndC.grown {w:World} {br k:Nat} {f g:Int→Int} {x0 x1 x2 x3:Int} {w1 w2:World} {v:Value} {m:Nat} {xs:List Value} (h:RndC w br k f g x0 x1 x2 x3 w1) (ho:w1.ownsRow w.heap.size 51 9 v m xs) (hg:w1.grownBy w2 v.ownBlock):RndC w br k f g x0 x1 x2 x3 w2:=by
 refine ⟨h.mn.kept hg (fun e=>row_not_map h.mn ho e.symm),h.ms.kept hg (fun e=>row_not_map h.ms ho e.symm),(hg.block _ (Array.getElem?_eq_some_iff.1 h.box).1 (fun e=>row_not_box h.box (by decide) ho e.symm)).trans h.box,?_⟩
 exact h.below.grown hg h.below.size (fun j hj=>(ho.lt j hj).1)
set_option maxRecDepth 100000 in
set_option maxHeartbeats 6400000 in
theorem commands_upto (mo:Nat) (hm:mo≤100) (v:Value) (rs:List RawD) (w:World) (hv:RawsR w w.heap.size v rs) :
    Calls Tryz.prog 5 #[v,.int .i64 mo] w fun e w'=>∃ (vo:Value) (out:List CmdD),e=.returned vo∧w'.ownsRow w.heap.size 51 9 vo out.length (flatC out)∧out.length=min rs.length mo∧(∀ x∈out,KeepX mo x)∧Below w.heap.size w w':=by
  have hmm:=@run_makeMap Tryz.prog
  obtain ⟨i0,hi0,hz0,hz1,hz2⟩:=info_parts Tryz.infoCmd
  obtain ⟨ao,cap,rfl,h1,h2,h3,h4⟩:=hv
  go_enter Tryz.func5,Tryz.ntmps5
  go_wp2
  clear hmm
  go_loopw [5,8] (fun o i wr=>∃ (k:Nat) (out:List CmdD) (f g:Int→Int),k≤rs.length∧k≤mo∧i=.int .i64 k∧wr.ownsRow w.heap.size 51 9 o out.length (flatC out)∧MapI w.heap.size k g wr∧MapI (w.heap.size+1) k f wr∧KeepC mo k out f g∧Below w.heap.size w wr) (fun _ i _=>rs.length - (intOf i).toNat)
  case atStart =>
    refine ⟨0,[],_,_,by omega,by omega,rfl,World.ownsRow_nil _ _ _ _,(MapI.made w).kept (World.grownBy_alloc _ _ none) (by simp),?_,KeepC.nil,((Below.refl _ _).alloc (Nat.le_refl _) _).alloc (by simp) _⟩
    have:=MapI.made (w.alloc (.map #[] 0))
    simpa using this
  case round =>
    obtain ⟨k,out,f,g,hk,hk20,rfl,hrow,hmn,hms,hkc,hb⟩:=hrel
    by_cases hlt:k < rs.length∧k < mo
    · obtain ⟨hlt,hlt2⟩:=hlt
      obtain ⟨b,off,rfl,hbB,hc⟩:=h4 (by omega)
      obtain ⟨x,hx⟩:∃ x,rs[k]?=some x:=⟨_,List.getElem?_eq_getElem hlt⟩
      obtain ⟨c0,c1,c2,c3,q0,q1,q2,q3⟩:=hc k x hx
      obtain ⟨x0,x1,x2,x3⟩:=x
      simp only at c0 c1 c2 c3 q0 q1 q2 q3
      have kk:∀ j,wr.cell? ⟨b,j,none⟩=w.cell? ⟨b,j,none⟩:=fun j=>hb.cell (p:=⟨b,j,none⟩) (by show b < w.heap.size;omega)
      have d0:=(kk _).trans c0
      have d1:=(kk _).trans c1
      have d2:=(kk _).trans c2
      have d3:=(kk _).trans c3
      have HRW:=ohid hrow
      have HMN:=ohid hmn
      have HMS:=ohid hms
      have HKC:=ohid hkc
      have HB:=ohid hb
      have HLEN:=ohid hkc.len
      have hp3:=pickZ_bd x3 4 (by omega)
      have CP3:=ohid (fun w=>picked_any x3 4 w q3.1 q3.2 (by omega) (by omega))
      have hq9:-9223372036854775808≤x0.tdiv 9∧x0.tdiv 9≤9223372036854775807:=by
        obtain ⟨qa,qb⟩:=q0
        rcases Int.le_total 0 x0 with h | h
        · rw [Int.tdiv_eq_ediv_of_nonneg h];omega
        · have e:x0 = -(-x0):=by omega
          rw [e,Int.neg_tdiv,Int.tdiv_eq_ediv_of_nonneg (by omega)];omega
      have CPK:=ohid (fun w=>picked_any (x0.tdiv 9) 16 w hq9.1 hq9.2 (by omega) (by omega))
      have hpk:=pickZ_bd (x0.tdiv 9) 16 (by omega)
      obtain ⟨p3,e3⟩:∃ p,p=pickZ x3 4:=⟨_,rfl⟩
      obtain ⟨pk,ek⟩:∃ p,p=pickZ (x0.tdiv 9) 16:=⟨_,rfl⟩
      rw [←e3] at CP3 hp3
      rw [←ek] at CPK hpk
      have HRS:=ohid (show RndC w wr.heap.size k f g x0 x1 x2 x3 (wr.alloc (.cells #[.int .i64 x0,.int .i64 x1,.int .i64 x2,.int .i64 x3] 56)) from
        ⟨hmn.kept (World.grownBy_alloc _ _ none) (by simp),hms.kept (World.grownBy_alloc _ _ none) (by simp),heap_alloc_new wr _,hb.alloc hb.size _⟩)
      have HRWA:=ohid (hrow.alloc (.cells #[.int .i64 x0,.int .i64 x1,.int .i64 x2,.int .i64 x3] 56))
      obtain ⟨oo,oc,rfl⟩:=crow_shape hrow
      obtain ⟨wa,hwa⟩:∃ wa,wa=wr.alloc (.cells #[.int .i64 x0,.int .i64 x1,.int .i64 x2,.int .i64 x3] 56):=⟨_,rfl⟩
      rw [←hwa] at HRS HRWA
      have HWA:=ohid hwa
      have hza:wr.heap.size < wa.heap.size:=by rw [hwa];simp
      have hzw:w.heap.size≤wr.heap.size:=hb.size
      have HJ:Hid (KeepX mo (⟨1,1+p3,0,0,0,0,⟨#[]⟩,⟨#[]⟩,0⟩:CmdD)):=⟨(cmdE_restYes (k:=1) (c:=1+p3) (by omega) (by omega) (by omega) ⟨rfl,rfl,rfl,rfl,rfl,rfl,rfl⟩:cmdE 1 (1+p3) 0 0 0 0 ⟨#[]⟩ ⟨#[]⟩ 0=0),by simp only;omega,by simp only;omega,fun h=>by simp at h⟩
      have HL:Hid (KeepX mo (⟨3,1+p3,0,0,0,0,⟨#[]⟩,⟨#[]⟩,0⟩:CmdD)):=⟨(cmdE_restYes (k:=3) (c:=1+p3) (by omega) (by omega) (by omega) ⟨rfl,rfl,rfl,rfl,rfl,rfl,rfl⟩:cmdE 3 (1+p3) 0 0 0 0 ⟨#[]⟩ ⟨#[]⟩ 0=0),by simp only;omega,by simp only;omega,fun h=>by simp at h⟩
      have hlf:=HRS.out.ms.look (c:=1+p3) (by omega)
      have hlg:=HRS.out.mn.look (c:=1+p3) (by omega)
      have HK20:=ohid hk20
      have HK:=ohid hk
      have H1:=ohid h1
      have H2:=ohid h2
      clear hx hc h4 hrow hmn hms hkc hb c0 c1 c2 c3 kk e3 ek hq9 h3 hwa hk20 hk h1 h2
      obtain ⟨q0a,q0b⟩:=q0
      have Q3:=ohid q3
      go_wp2_with fail
      refine (CP3.out _).mono ?_
      rintro e w1 ⟨rfl,rfl⟩
      rw [←HWA.out]
      have t0:wa.cell? ⟨wr.heap.size,0,none⟩=some (.int .i64 x0):=cell_of_row wa wr.heap.size 0 _ _ _ HRS.out.box
      go_wp2_with fail
      refine (CPK.out _).mono ?_
      rintro e wz ⟨rfl,hwz⟩
      rw [hwz]
      clear hwz wz
      clear CP3 CPK d0 d1 d2 d3 t0
      by_cases hf0:f (1+p3)=0
      · rw [hf0] at hlf
        have hzn:w.heap.size≤wa.heap.size:=by omega
        go_wp2_with (at_builtin;refine wpList_append_lies _ rfl (.tmp 73) (.tmp 76) 25 rfl w.heap.size 51 i0 _ 9 88 Tryz.underlying25 hi0 hz0 hz1 hz2 rfl (by decide) (.slice oo out.length oc) out.length (flatC out) rfl (HRWA.out.alloc _) ⟨wa.heap.size,0,none⟩ 1 1 (cmdCells ⟨1,1+p3,0,0,0,0,⟨#[]⟩,⟨#[]⟩,0⟩) rfl rfl (World.news_of_block (heap_alloc_new wa _)) (cmdCells_one _) (by omega) (by have:=HLEN.out;unfold maxLen;omega) (by have:=HLEN.out;omega) (by simp;omega) (wa.heap.size+1) (by simp) ?_)
        intro gn cn w2 hown2 hg2 hat2 hlt2
        have hr2:=(HRS.out.step ((Below.refl _ _).alloc (Nat.le_refl _) _)).grown (HRWA.out.alloc _) hg2
        have hlf2:=hr2.ms.look (c:=1+p3) (by omega)
        rw [hf0] at hlf2
        obtain ⟨w3,hs3,hm3,hg3⟩:=hr2.ms.store (by have:=HK20.out;omega) (c:=1+p3) (v:=((out.length:Int)+1)) (by omega) (by have:=HLEN.out;have:=HK20.out;omega)
        obtain ⟨w4,hs4,hm4,hg4⟩:=(hr2.mn.kept hg3 (by simp)).store (by have:=HK20.out;omega) (c:=1+p3) (v:=1) (by omega) (by omega)
        have HM4:=ohid hm4
        have HM3:=ohid (hm3.kept hg4 (by simp))
        have ho2:w2.ownsRow w.heap.size 51 9 (.slice (some ⟨gn,0,none⟩) (out.length+1) cn) (out++[(⟨1,1+p3,0,0,0,0,⟨#[]⟩,⟨#[]⟩,0⟩:CmdD)]).length (flatC (out++[⟨1,1+p3,0,0,0,0,⟨#[]⟩,⟨#[]⟩,0⟩])):=by rw [flatC_snoc];simpa using hown2
        have ho4:=crow_keep (crow_keep ho2 (fun b hb=>hg3.block b (ho2.lt b hb).2 (fun e=>row_not_map hr2.ms ho2 (hb.trans e)))) (fun b hb=>hg4.block b (by have:=(ho2.lt b hb).2;have:=hg3.size;omega) (fun e=>row_not_map hr2.mn ho2 (hb.trans e)))
        have HO4:=ohid ho4
        have HB4:=ohid ((hr2.below.grown hg3 hr2.below.size (fun j hj=>by cases hj;omega)).grown hg4 (Nat.le_trans hr2.below.size hg3.size) (fun j hj=>by cases hj;omega))
        have HC4:=ohid ((HKC.out.more HJ.out).begin (by omega) (1+p3) ((out.length:Int)+1) (by have:=HLEN.out;omega))
        clear hm3 hm4 hg3 hg4 hr2 ho2 ho4 hown2 hg2 hat2 hlt2
        go_wp2
        go_roundw
        case rel=>exact ⟨k+1,_,_,_,by have:=HK.out;omega,by omega,by go_num,HO4.out,HM4.out,HM3.out,HC4.out,HB4.out⟩
        case measure=>simp [intOf];omega
      · obtain ⟨sv,hsv⟩:∃ s,s=f (1+p3):=⟨_,rfl⟩
        obtain ⟨gv,hgv⟩:∃ s,s=g (1+p3):=⟨_,rfl⟩
        rw [←hsv] at hlf hf0
        rw [←hgv] at hlg
        have HSV:=ohid hsv
        have HGV:=ohid hgv
        have hsb:1≤sv∧sv≤mo:=by have:=HKC.out.f0 (1+p3);have:=HK20.out;omega
        have hgb:1≤gv∧gv≤mo+1:=by have:=HKC.out.g0 (1+p3);have:=HKC.out.fg (1+p3) (by omega);have:=HK20.out;omega
        have hsn:(sv == 0)=false:=by simpa using hf0
        have hzn:w.heap.size≤wa.heap.size:=by omega
        clear hsv hgv hf0
        by_cases hk0:pk=0
        · subst hk0
          go_wp2_with (at_builtin;refine wpList_append_lies _ rfl (.tmp 73) (.tmp 76) 25 rfl w.heap.size 51 i0 _ 9 88 Tryz.underlying25 hi0 hz0 hz1 hz2 rfl (by decide) (.slice oo out.length oc) out.length (flatC out) rfl (HRWA.out.alloc _) ⟨wa.heap.size,0,none⟩ 1 1 (cmdCells ⟨1,1+p3,0,0,0,0,⟨#[]⟩,⟨#[]⟩,0⟩) rfl rfl (World.news_of_block (heap_alloc_new wa _)) (cmdCells_one _) (by omega) (by have:=HLEN.out;unfold maxLen;omega) (by have:=HLEN.out;omega) (by simp;omega) (wa.heap.size+1) (by simp) ?_)
          intro gn cn w2 hown2 hg2 hat2 hlt2
          have hr2:=(HRS.out.step ((Below.refl _ _).alloc (Nat.le_refl _) _)).grown (HRWA.out.alloc _) hg2
          have hlf2:=hr2.ms.look (c:=1+p3) (by omega)
          rw [←HSV.out] at hlf2
          have ho2:w2.ownsRow w.heap.size 51 9 (.slice (some ⟨gn,0,none⟩) (out.length+1) cn) (out++[(⟨1,1+p3,0,0,0,0,⟨#[]⟩,⟨#[]⟩,0⟩:CmdD)]).length (flatC (out++[⟨1,1+p3,0,0,0,0,⟨#[]⟩,⟨#[]⟩,0⟩])):=by rw [flatC_snoc];simpa using hown2
          have HO2:=ohid ho2
          have HR2:=ohid hr2
          have HC2:=ohid (HKC.out.more HJ.out)
          clear hr2 ho2 hown2 hg2 hat2 hlt2
          go_wp2
          go_roundw
          case rel=>exact ⟨k+1,_,_,_,by have:=HK.out;omega,by omega,by go_num,HO2.out,HR2.out.mn.mono (by omega),HR2.out.ms.mono (by omega),HC2.out,HR2.out.below⟩
          case measure=>simp [intOf];omega
        · by_cases hk1:pk=1
          · subst hk1
            go_wp2_with (at_builtin;refine wpList_append_lies _ rfl (.tmp 91) (.tmp 94) 25 rfl w.heap.size 51 i0 _ 9 88 Tryz.underlying25 hi0 hz0 hz1 hz2 rfl (by decide) (.slice oo out.length oc) out.length (flatC out) rfl (HRWA.out.alloc _) ⟨wa.heap.size,0,none⟩ 1 1 (cmdCells ⟨3,1+p3,0,0,0,0,⟨#[]⟩,⟨#[]⟩,0⟩) rfl rfl (World.news_of_block (heap_alloc_new wa _)) (cmdCells_one _) (by omega) (by have:=HLEN.out;unfold maxLen;omega) (by have:=HLEN.out;omega) (by simp;omega) (wa.heap.size+1) (by simp) ?_)
            intro gn cn w2 hown2 hg2 hat2 hlt2
            have hr2:=(HRS.out.step ((Below.refl _ _).alloc (Nat.le_refl _) _)).grown (HRWA.out.alloc _) hg2
            obtain ⟨w3,hs3,hm3,hg3⟩:=hr2.ms.store (by have:=HK20.out;omega) (c:=1+p3) (v:=0) (by omega) (by omega)
            have HM4:=ohid ((hr2.mn.kept hg3 (by simp)).mono (Nat.le_succ k))
            have HM3:=ohid hm3
            have ho2:w2.ownsRow w.heap.size 51 9 (.slice (some ⟨gn,0,none⟩) (out.length+1) cn) (out++[(⟨3,1+p3,0,0,0,0,⟨#[]⟩,⟨#[]⟩,0⟩:CmdD)]).length (flatC (out++[⟨3,1+p3,0,0,0,0,⟨#[]⟩,⟨#[]⟩,0⟩])):=by rw [flatC_snoc];simpa using hown2
            have HO4:=ohid (crow_keep ho2 (fun b hb=>hg3.block b (ho2.lt b hb).2 (fun e=>row_not_map hr2.ms ho2 (hb.trans e))))
            have HB4:=ohid (hr2.below.grown hg3 hr2.below.size (fun j hj=>by cases hj;omega))
            have HC4:=ohid ((HKC.out.more HL.out).leave (1+p3))
            clear hm3 hg3 hr2 ho2 hown2 hg2 hat2 hlt2
            go_wp2
            go_roundw
            case rel=>exact ⟨k+1,_,_,_,by have:=HK.out;omega,by omega,by go_num,HO4.out,HM4.out,HM3.out,HC4.out,HB4.out⟩
            case measure=>simp [intOf];omega
          · have hkb0:(pk == 0)=false:=by simpa using hk0
            have hkb1:(pk == 1)=false:=by simpa using hk1
            have CP1:=ohid (fun w=>picked_any x1 3 w q1.1 q1.2 (by omega) (by omega))
            have CP2:=ohid (fun w=>picked_any x2 3 w q2.1 q2.2 (by omega) (by omega))
            have hp1:=pickZ_bd x1 3 (by omega)
            have hp2:=pickZ_bd x2 3 (by omega)
            obtain ⟨okk,nm,HNM,CO⟩:∃ (okk:Int) (nm:ByteArray),Hid (nm=⟨#[97]⟩∨nm=⟨#[98]⟩∨nm=⟨#[107,101,121]⟩)∧Hid (∀ w:World,Calls Tryz.prog 15 #[.agg #[.int .i64 x0,.int .i64 x1,.int .i64 x2,.int .i64 x3]] w fun e w'=>∃ (s:ByteArray) (n:Int),e=.returned (.agg #[.int .i64 okk,.string nm,.string s,.int .i64 n])∧opE okk nm s n=0∧Below w.heap.size w w') :=
              ⟨_,_,nameK_of x1,fun w=>(keepOp_any x0 x1 x2 x3 w ⟨q0a,q0b⟩ q1 q2 Q3.out).mono fun e w' ⟨s,n,he,h5,hn,hb⟩=>⟨s,n,he,keepOp_ok x0 x1 x3 s n h5 hn,hb⟩⟩
            obtain ⟨p1,e1⟩:∃ p,p=pickZ x1 3:=⟨_,rfl⟩
            obtain ⟨p2,e2⟩:∃ p,p=pickZ x2 3:=⟨_,rfl⟩
            rw [←e1] at CP1 hp1
            rw [←e2] at CP2 hp2
            clear e1 e2 hk0 hk1
            have hwg:IntKind.i64.wrap (gv - 1)=gv - 1:=by rw [IntKind.wrap_i64];omega
            have hw1:IntKind.i64.wrap (gv - 1 - p1)=gv - 1 - p1:=by rw [IntKind.wrap_i64];omega
            have hw2:IntKind.i64.wrap (gv - 1 - p2)=gv - 1 - p2:=by rw [IntKind.wrap_i64];omega
            by_cases hA:pk < 5∧1 < gv
            · obtain ⟨hA1,hA2⟩:=hA
              go_wp2_with fail
              refine wp_region_held_drew (S:=RndC w wr.heap.size k f g x0 x1 x2 x3) (by kernel_rfl) HRS.out.drew (fun hHeld=>?_)
              refine' wpAnyH_take (i := 0) (oi := { dst := some 107, op := Go.Op.move (Go.Operand.tmp 6), type := 54, pos := "raw.go:52", after := #[], guard := none }) (v := _) rfl (by kernel_rfl) (by kernel_rfl) (by kernel_rfl) (fun _ _ _ h => h) (Or.inl ⟨by rfl, ?hy1⟩) (by assumption) ?rest1
              case hy1 =>
                intro wy hSy
                clear hSy
                go_simp
                try rfl
              simp only [Act.put,List.setIfInBounds_toArray,List.set_cons_zero,List.set_cons_succ]
              refine' wpAnyH_take (i := 1) (oi := { dst := some 108, op := Go.Op.move (Go.Operand.tmp 10), type := 3, pos := "raw.go:52", after := #[], guard := none }) (v := _) rfl (by kernel_rfl) (by kernel_rfl) (by kernel_rfl) (fun _ _ _ h => h) (Or.inl ⟨by rfl, ?hy2⟩) (by assumption) ?rest2
              case hy2 =>
                intro wy hSy
                clear hSy
                go_simp
                try rfl
              simp only [Act.put,List.setIfInBounds_toArray,List.set_cons_zero,List.set_cons_succ]
              refine' wpAnyH_take (i := 2) (oi := { dst := some 109, op := Go.Op.lookup 54 (Go.Operand.tmp 107) (Go.Operand.tmp 108) false, type := 3, pos := "raw.go:52", after := #[{ on := 0, ground := Go.Ground.data }, { on := 1, ground := Go.Ground.data }], guard := none }) (v := _) rfl (by kernel_rfl) (by kernel_rfl) (by kernel_rfl) (fun _ _ _ h => h) (Or.inl ⟨by rfl, ?hy3⟩) (by assumption) ?rest3
              case hy3 =>
                intro wy hSy
                have hlk:=hSy.mn.look (c:=1+p3) (by omega)
                rw [←HGV.out] at hlk
                clear hSy
                go_simp
                try rfl
              simp only [Act.put,List.setIfInBounds_toArray,List.set_cons_zero,List.set_cons_succ]
              refine' wpAnyH_take (i := 3) (oi := { dst := some 110, op := Go.Op.binOp Go.BinOp.sub 3 (Go.Operand.tmp 109) (Go.Operand.const (Go.Value.int Go.IntKind.i64 1)) 3, type := 3, pos := "raw.go:52", after := #[{ on := 2, ground := Go.Ground.data }], guard := none }) (v := _) rfl (by kernel_rfl) (by kernel_rfl) (by kernel_rfl) (fun _ _ _ h => h) (Or.inl ⟨by rfl, ?hy4⟩) (by assumption) ?rest4
              case hy4 =>
                intro wy hSy
                clear hSy
                go_simp
                try rfl
              simp only [Act.put,List.setIfInBounds_toArray,List.set_cons_zero,List.set_cons_succ]
              refine' wpAnyH_take (i := 4) (oi := { dst := some 111, op := Go.Op.fieldAddr 56 (Go.Operand.tmp 9) 2, type := 0, pos := "raw.go:52", after := #[], guard := none }) (v := _) rfl (by kernel_rfl) (by kernel_rfl) (by kernel_rfl) (fun _ _ _ h => h) (Or.inl ⟨by rfl, ?hy5⟩) (by assumption) ?rest5
              case hy5 =>
                intro wy hSy
                clear hSy
                go_simp
                try rfl
              simp only [Act.put,List.setIfInBounds_toArray,List.set_cons_zero,List.set_cons_succ]
              refine' wpAnyH_take (i := 5) (oi := { dst := some 112, op := Go.Op.load 3 (Go.Operand.tmp 111), type := 3, pos := "raw.go:52", after := #[{ on := 4, ground := Go.Ground.data }], guard := none }) (v := _) rfl (by kernel_rfl) (by kernel_rfl) (by kernel_rfl) (fun _ _ _ h => h) (Or.inl ⟨by rfl, ?hy6⟩) (by assumption) ?rest6
              case hy6 =>
                intro wy hSy
                have hld:=cell_of_row wy wr.heap.size 2 _ _ _ hSy.box
                simp only [List.getElem?_toArray,List.getElem?_cons_succ,List.getElem?_cons_zero] at hld
                clear hSy
                go_simp
                try rfl
              simp only [Act.put,List.setIfInBounds_toArray,List.set_cons_zero,List.set_cons_succ]
              refine wpAnyH_ready (rs:=[6]) (by kernel_rfl) (by simp) ?_
              refine AllReadyH.cons (o := { dst := some 113, op := Go.Op.call { callee := Go.Callee.value (Go.Operand.func 6), args := #[Go.Operand.tmp 112, Go.Operand.const (Go.Value.int Go.IntKind.i64 3)], argTypes := #[3, 3] }, type := 3, pos := "raw.go:52", after := #[{ on := 5, ground := Go.Ground.data }], guard := none }) rfl (fun K hK => ?_) AllReadyH.nil
              go_simp
              refine (CP2.out _).mono ?_
              rintro e wz ⟨rfl,hwz⟩
              rw [hwz]
              clear hwz wz
              refine hK.out _ _ HRS.out.drew (fun hHeld=>?_)
              clear hK K
              try simp only [Act.put,List.setIfInBounds_toArray,List.set_cons_zero,List.set_cons_succ]
              refine' wpAnyH_take (i := 7) (oi := { dst := some 114, op := Go.Op.binOp Go.BinOp.sub 3 (Go.Operand.tmp 110) (Go.Operand.tmp 113) 3, type := 3, pos := "raw.go:52", after := #[{ on := 3, ground := Go.Ground.data }, { on := 6, ground := Go.Ground.data }], guard := none }) (v := _) rfl (by kernel_rfl) (by kernel_rfl) (by kernel_rfl) (fun _ _ _ h => h) (Or.inl ⟨by rfl, ?hy7⟩) (by assumption) ?rest7
              case hy7 =>
                intro wy hSy
                clear hSy
                go_simp
                try rfl
              simp only [Act.put,List.setIfInBounds_toArray,List.set_cons_zero,List.set_cons_succ]
              refine' wpAnyH_take (i := 8) (oi := { dst := some 115, op := Go.Op.call { callee := Go.Callee.builtin Go.Builtin.max, args := #[Go.Operand.const (Go.Value.int Go.IntKind.i64 1), Go.Operand.tmp 114], argTypes := #[3, 3] }, type := 3, pos := "raw.go:52", after := #[{ on := 7, ground := Go.Ground.data }], guard := none }) (v := _) rfl (by kernel_rfl) (by kernel_rfl) (by kernel_rfl) (fun _ _ _ h => h) (Or.inl ⟨by rfl, ?hy8⟩) (by assumption) ?rest8
              case hy8 =>
                intro wy hSy
                clear hSy
                go_simp
                try rfl
              simp only [Act.put,List.setIfInBounds_toArray,List.set_cons_zero,List.set_cons_succ]
              refine' wpAnyH_take (i := 9) (oi := { dst := some 12, op := Go.Op.assign (Go.Operand.tmp 115), type := 3, pos := "raw.go:52", after := #[{ on := 8, ground := Go.Ground.data }, { on := 6, ground := Go.Ground.chain }, { on := 0, ground := Go.Ground.phase }, { on := 1, ground := Go.Ground.phase }, { on := 2, ground := Go.Ground.phase }, { on := 3, ground := Go.Ground.phase }, { on := 4, ground := Go.Ground.phase }, { on := 5, ground := Go.Ground.phase }, { on := 6, ground := Go.Ground.phase }, { on := 7, ground := Go.Ground.phase }, { on := 8, ground := Go.Ground.phase }], guard := none }) (v := _) rfl (by kernel_rfl) (by kernel_rfl) (by kernel_rfl) (fun _ _ _ h => h) (Or.inl ⟨by rfl, ?hy9⟩) (by assumption) ?rest9
              case hy9 =>
                intro wy hSy
                clear hSy
                go_simp
                try rfl
              simp only [Act.put,List.setIfInBounds_toArray,List.set_cons_zero,List.set_cons_succ]
              refine wpAnyH_done (by kernel_rfl) ?_ _
              have hmb:1≤max 1 (gv - 1 - p2)∧max 1 (gv - 1 - p2)≤mo+1:=by omega
              obtain ⟨m,hm⟩:∃ m,m=max 1 (gv - 1 - p2):=⟨_,rfl⟩
              rw [←hm] at hmb ⊢
              clear hm hHeld
              have hwm:IntKind.i64.wrap (m - 2)=m - 2:=by rw [IntKind.wrap_i64];omega
              go_wp2_with fail
              refine wp_region_held_drew (S:=RndC w wr.heap.size k f g x0 x1 x2 x3) (by kernel_rfl) HRS.out.drew.drew (fun hHeld=>?_)
              refine' wpAnyH_take (i := 0) (oi := { dst := some 116, op := Go.Op.move (Go.Operand.tmp 5), type := 25, pos := "raw.go:53", after := #[], guard := none }) (v := _) rfl (by kernel_rfl) (by kernel_rfl) (by kernel_rfl) (fun _ _ _ h => h) (Or.inl ⟨by rfl, ?hy10⟩) (by assumption) ?rest10
              case hy10 =>
                intro wy hSy
                clear hSy
                go_simp
                try rfl
              simp only [Act.put,List.setIfInBounds_toArray,List.set_cons_zero,List.set_cons_succ]
              refine' wpAnyH_take (i := 1) (oi := { dst := some 117, op := Go.Op.move (Go.Operand.tmp 10), type := 3, pos := "raw.go:53", after := #[], guard := none }) (v := _) rfl (by kernel_rfl) (by kernel_rfl) (by kernel_rfl) (fun _ _ _ h => h) (Or.inl ⟨by rfl, ?hy11⟩) (by assumption) ?rest11
              case hy11 =>
                intro wy hSy
                clear hSy
                go_simp
                try rfl
              simp only [Act.put,List.setIfInBounds_toArray,List.set_cons_zero,List.set_cons_succ]
              refine' wpAnyH_take (i := 2) (oi := { dst := some 118, op := Go.Op.move (Go.Operand.tmp 7), type := 54, pos := "raw.go:53", after := #[], guard := none }) (v := _) rfl (by kernel_rfl) (by kernel_rfl) (by kernel_rfl) (fun _ _ _ h => h) (Or.inl ⟨by rfl, ?hy12⟩) (by assumption) ?rest12
              case hy12 =>
                intro wy hSy
                clear hSy
                go_simp
                try rfl
              simp only [Act.put,List.setIfInBounds_toArray,List.set_cons_zero,List.set_cons_succ]
              refine' wpAnyH_take (i := 3) (oi := { dst := some 119, op := Go.Op.move (Go.Operand.tmp 10), type := 3, pos := "raw.go:53", after := #[], guard := none }) (v := _) rfl (by kernel_rfl) (by kernel_rfl) (by kernel_rfl) (fun _ _ _ h => h) (Or.inl ⟨by rfl, ?hy13⟩) (by assumption) ?rest13
              case hy13 =>
                intro wy hSy
                clear hSy
                go_simp
                try rfl
              simp only [Act.put,List.setIfInBounds_toArray,List.set_cons_zero,List.set_cons_succ]
              refine' wpAnyH_take (i := 4) (oi := { dst := some 120, op := Go.Op.lookup 54 (Go.Operand.tmp 118) (Go.Operand.tmp 119) false, type := 3, pos := "raw.go:53", after := #[{ on := 2, ground := Go.Ground.data }, { on := 3, ground := Go.Ground.data }], guard := none }) (v := _) rfl (by kernel_rfl) (by kernel_rfl) (by kernel_rfl) (fun _ _ _ h => h) (Or.inl ⟨by rfl, ?hy14⟩) (by assumption) ?rest14
              case hy14 =>
                intro wy hSy
                have hlk:=hSy.ms.look (c:=1+p3) (by omega)
                rw [←HSV.out] at hlk
                clear hSy
                go_simp
                try rfl
              simp only [Act.put,List.setIfInBounds_toArray,List.set_cons_zero,List.set_cons_succ]
              refine' wpAnyH_take (i := 5) (oi := { dst := some 121, op := Go.Op.move (Go.Operand.tmp 12), type := 3, pos := "raw.go:53", after := #[], guard := none }) (v := _) rfl (by kernel_rfl) (by kernel_rfl) (by kernel_rfl) (fun _ _ _ h => h) (Or.inl ⟨by rfl, ?hy15⟩) (by assumption) ?rest15
              case hy15 =>
                intro wy hSy
                clear hSy
                go_simp
                try rfl
              simp only [Act.put,List.setIfInBounds_toArray,List.set_cons_zero,List.set_cons_succ]
              refine' wpAnyH_take (i := 6) (oi := { dst := some 122, op := Go.Op.move (Go.Operand.tmp 12), type := 3, pos := "raw.go:53", after := #[], guard := none }) (v := _) rfl (by kernel_rfl) (by kernel_rfl) (by kernel_rfl) (fun _ _ _ h => h) (Or.inl ⟨by rfl, ?hy16⟩) (by assumption) ?rest16
              case hy16 =>
                intro wy hSy
                clear hSy
                go_simp
                try rfl
              simp only [Act.put,List.setIfInBounds_toArray,List.set_cons_zero,List.set_cons_succ]
              refine' wpAnyH_take (i := 7) (oi := { dst := some 123, op := Go.Op.binOp Go.BinOp.sub 3 (Go.Operand.tmp 122) (Go.Operand.const (Go.Value.int Go.IntKind.i64 2)) 3, type := 3, pos := "raw.go:53", after := #[{ on := 6, ground := Go.Ground.data }], guard := none }) (v := _) rfl (by kernel_rfl) (by kernel_rfl) (by kernel_rfl) (fun _ _ _ h => h) (Or.inl ⟨by rfl, ?hy17⟩) (by assumption) ?rest17
              case hy17 =>
                intro wy hSy
                clear hSy
                go_simp
                try rfl
              simp only [Act.put,List.setIfInBounds_toArray,List.set_cons_zero,List.set_cons_succ]
              refine' wpAnyH_take (i := 8) (oi := { dst := some 124, op := Go.Op.call { callee := Go.Callee.builtin Go.Builtin.max, args := #[Go.Operand.const (Go.Value.int Go.IntKind.i64 0), Go.Operand.tmp 123], argTypes := #[3, 3] }, type := 3, pos := "raw.go:53", after := #[{ on := 7, ground := Go.Ground.data }], guard := none }) (v := _) rfl (by kernel_rfl) (by kernel_rfl) (by kernel_rfl) (fun _ _ _ h => h) (Or.inl ⟨by rfl, ?hy18⟩) (by assumption) ?rest18
              case hy18 =>
                intro wy hSy
                clear hSy
                go_simp
                try rfl
              simp only [Act.put,List.setIfInBounds_toArray,List.set_cons_zero,List.set_cons_succ]
              refine' wpAnyH_take (i := 9) (oi := { dst := some 125, op := Go.Op.load 56 (Go.Operand.tmp 9), type := 56, pos := "raw.go:53", after := #[], guard := none }) (v := _) rfl (by kernel_rfl) (by kernel_rfl) (by kernel_rfl) (fun _ _ _ h => h) (Or.inl ⟨by rfl, ?hy19⟩) (by assumption) ?rest19
              case hy19 =>
                intro wy hSy
                obtain ⟨l0,l1,l2,l3⟩:=box_cells hSy.box
                clear hSy
                go_simp
                try rfl
              simp only [Act.put,List.setIfInBounds_toArray,List.set_cons_zero,List.set_cons_succ]
              refine wpAnyH_ready (rs:=[10]) (by kernel_rfl) (by simp) ?_
              refine AllReadyH.cons (o := { dst := some 126, op := Go.Op.call { callee := Go.Callee.value (Go.Operand.func 15), args := #[Go.Operand.tmp 125], argTypes := #[56] }, type := 49, pos := "raw.go:53", after := #[{ on := 9, ground := Go.Ground.data }], guard := none }) rfl (fun K hK => ?_) AllReadyH.nil
              go_simp
              refine (CO.out _).mono ?_
              rintro e w2 ⟨os,on,rfl,hoe,hb2⟩
              have HRW2:=ohid (crow_below HRWA.out (show Below wa.heap.size wa w2 from (Below.refl _ _).drew.drew.trans hb2))
              have hz2':w.heap.size≤w2.heap.size:=by have:=hb2.size;have hq:wa.drew.drew.heap.size=wa.heap.size:=rfl;omega
              have hS2:=HRS.out.drew.drew.step hb2
              have HS2:=ohid hS2
              clear hb2
              refine hK.out _ _ hS2 (fun hHeld=>?_)
              clear hK K
              try simp only [Act.put,List.setIfInBounds_toArray,List.set_cons_zero,List.set_cons_succ]
              refine' wpAnyH_take (i := 11) (oi := { dst := some 127, op := Go.Op.build 51 #[(0, Go.Operand.const (Go.Value.int Go.IntKind.i64 2)), (1, Go.Operand.tmp 117), (2, Go.Operand.tmp 120), (3, Go.Operand.tmp 121), (4, Go.Operand.tmp 124), (5, Go.Operand.tmp 126)], type := 51, pos := "raw.go:53", after := #[{ on := 1, ground := Go.Ground.data }, { on := 4, ground := Go.Ground.data }, { on := 5, ground := Go.Ground.data }, { on := 8, ground := Go.Ground.data }, { on := 10, ground := Go.Ground.data }], guard := none }) (v := _) rfl (by kernel_rfl) (by kernel_rfl) (by kernel_rfl) (fun _ _ _ h => h) (Or.inl ⟨by rfl, ?hy20⟩) (by assumption) ?rest20
              case hy20 =>
                intro wy hSy
                clear hSy
                go_simp
                try rfl
              simp only [Act.put,List.setIfInBounds_toArray,List.set_cons_zero,List.set_cons_succ]
              refine wpAnyH_ready (rs:=[12]) (by kernel_rfl) (by simp) ?_
              refine AllReadyH.cons (o := { dst := some 128, op := Go.Op.buildSlice 25 1 #[(0, Go.Operand.tmp 127)], type := 25, pos := "raw.go:53", after := #[{ on := 11, ground := Go.Ground.data }], guard := none }) rfl (fun K hK => ?_) AllReadyH.nil
              go_simp
              refine hK.out _ _ (HS2.out.step ((Below.refl _ _).alloc (Nat.le_refl _) _)) (fun hHeld=>?_)
              clear hK K
              try simp only [Act.put,List.setIfInBounds_toArray,List.set_cons_zero,List.set_cons_succ]
              refine wpAnyH_ready (rs:=[13]) (by kernel_rfl) (by simp) ?_
              refine AllReadyH.cons (o := { dst := some 129, op := Go.Op.call { callee := Go.Callee.builtin Go.Builtin.append, args := #[Go.Operand.tmp 116, Go.Operand.tmp 128], argTypes := #[25, 25] }, type := 25, pos := "raw.go:53", after := #[{ on := 0, ground := Go.Ground.data }, { on := 12, ground := Go.Ground.data }, { on := 10, ground := Go.Ground.chain }], guard := none }) rfl (fun K hK => ?_) AllReadyH.nil
              refine step_append_lies _ (by rfl) (.tmp 116) (.tmp 128) 25 (by rfl) w.heap.size 51 i0 _ 9 88 Tryz.underlying25 hi0 hz0 hz1 hz2 rfl (by decide) (.slice oo out.length oc) out.length (flatC out) (by rfl) (HRW2.out.alloc _) ⟨w2.heap.size,0,none⟩ 1 1 (cmdCells ⟨2,1+p3,sv,m,max 0 (m - 2),okk,nm,os,on⟩) (by rfl) (by rfl) (World.news_of_block (heap_alloc_new w2 _)) (cmdCells_one _) (by omega) (by have:=HLEN.out;unfold maxLen;omega) (by have:=HLEN.out;omega) (by simp;omega) (w2.heap.size+1) (by simp) ?_
              intro gn cn w3 hown3 hg3 hat3 hlt3
              have hr3:=hHeld.grown (HRW2.out.alloc _) hg3
              refine hK.out _ _ hr3 (fun hHeld=>?_)
              clear hK K
              try simp only [Act.put,List.setIfInBounds_toArray,List.set_cons_zero,List.set_cons_succ]
              refine' wpAnyH_take (i := 14) (oi := { dst := some 5, op := Go.Op.assign (Go.Operand.tmp 129), type := 25, pos := "raw.go:53", after := #[{ on := 13, ground := Go.Ground.data }, { on := 13, ground := Go.Ground.chain }, { on := 0, ground := Go.Ground.phase }, { on := 1, ground := Go.Ground.phase }, { on := 2, ground := Go.Ground.phase }, { on := 3, ground := Go.Ground.phase }, { on := 4, ground := Go.Ground.phase }, { on := 5, ground := Go.Ground.phase }, { on := 6, ground := Go.Ground.phase }, { on := 7, ground := Go.Ground.phase }, { on := 8, ground := Go.Ground.phase }, { on := 9, ground := Go.Ground.phase }, { on := 10, ground := Go.Ground.phase }, { on := 11, ground := Go.Ground.phase }, { on := 12, ground := Go.Ground.phase }, { on := 13, ground := Go.Ground.phase }], guard := none }) (v := _) rfl (by kernel_rfl) (by kernel_rfl) (by kernel_rfl) (fun _ _ _ h => h) (Or.inl ⟨by rfl, ?hy21⟩) (by assumption) ?rest21
              case hy21 =>
                intro wy hSy
                clear hSy
                go_simp
                try rfl
              simp only [Act.put,List.setIfInBounds_toArray,List.set_cons_zero,List.set_cons_succ]
              refine wpAnyH_done (by kernel_rfl) ?_ _
              have ho3:w3.ownsRow w.heap.size 51 9 (.slice (some ⟨gn,0,none⟩) (out.length+1) cn) (out++[(⟨2,1+p3,sv,m,max 0 (m - 2),okk,nm,os,on⟩:CmdD)]).length (flatC (out++[⟨2,1+p3,sv,m,max 0 (m - 2),okk,nm,os,on⟩])):=by rw [flatC_snoc];simpa using hown3
              have HX:=ohid (keepCall_ok hm (c:=1+p3) (s:=sv) (q:=m) (u:=max 0 (m - 2)) (by omega) hsb hmb (by omega) hoe HNM.out)
              have HO3:=ohid ho3
              have HR3:=ohid hr3
              have HC3:=ohid (HKC.out.more HX.out)
              clear hr3 ho3 hown3 hg3 hat3 hlt3 hHeld
              go_wp2
              go_roundw
              case rel=>exact ⟨k+1,_,_,_,by have:=HK.out;omega,by omega,by go_num,HO3.out,HR3.out.mn.mono (by omega),HR3.out.ms.mono (by omega),HC3.out,HR3.out.below⟩
              case measure=>simp [intOf];omega
            · have hA':(pk < 5∧¬ 1 < gv)∨¬ pk < 5:=by omega
              clear hA
              rcases hA' with ⟨hA1,hA2⟩ | hA1
              · go_wp2_with fail
                refine wp_region_held_drew (S:=RndC w wr.heap.size k f g x0 x1 x2 x3) (by kernel_rfl) HRS.out.drew (fun hHeld=>?_)
                refine' wpAnyH_take (i := 0) (oi := { dst := some 38, op := Go.Op.move (Go.Operand.tmp 5), type := 25, pos := "raw.go:55", after := #[], guard := none }) (v := _) rfl (by kernel_rfl) (by kernel_rfl) (by kernel_rfl) (fun _ _ _ h => h) (Or.inl ⟨by rfl, ?hy22⟩) (by assumption) ?rest22
                case hy22 =>
                  intro wy hSy
                  clear hSy
                  go_simp
                  try rfl
                simp only [Act.put,List.setIfInBounds_toArray,List.set_cons_zero,List.set_cons_succ]
                refine' wpAnyH_take (i := 1) (oi := { dst := some 39, op := Go.Op.move (Go.Operand.tmp 10), type := 3, pos := "raw.go:55", after := #[], guard := none }) (v := _) rfl (by kernel_rfl) (by kernel_rfl) (by kernel_rfl) (fun _ _ _ h => h) (Or.inl ⟨by rfl, ?hy23⟩) (by assumption) ?rest23
                case hy23 =>
                  intro wy hSy
                  clear hSy
                  go_simp
                  try rfl
                simp only [Act.put,List.setIfInBounds_toArray,List.set_cons_zero,List.set_cons_succ]
                refine' wpAnyH_take (i := 2) (oi := { dst := some 40, op := Go.Op.move (Go.Operand.tmp 7), type := 54, pos := "raw.go:55", after := #[], guard := none }) (v := _) rfl (by kernel_rfl) (by kernel_rfl) (by kernel_rfl) (fun _ _ _ h => h) (Or.inl ⟨by rfl, ?hy24⟩) (by assumption) ?rest24
                case hy24 =>
                  intro wy hSy
                  clear hSy
                  go_simp
                  try rfl
                simp only [Act.put,List.setIfInBounds_toArray,List.set_cons_zero,List.set_cons_succ]
                refine' wpAnyH_take (i := 3) (oi := { dst := some 41, op := Go.Op.move (Go.Operand.tmp 10), type := 3, pos := "raw.go:55", after := #[], guard := none }) (v := _) rfl (by kernel_rfl) (by kernel_rfl) (by kernel_rfl) (fun _ _ _ h => h) (Or.inl ⟨by rfl, ?hy25⟩) (by assumption) ?rest25
                case hy25 =>
                  intro wy hSy
                  clear hSy
                  go_simp
                  try rfl
                simp only [Act.put,List.setIfInBounds_toArray,List.set_cons_zero,List.set_cons_succ]
                refine' wpAnyH_take (i := 4) (oi := { dst := some 42, op := Go.Op.lookup 54 (Go.Operand.tmp 40) (Go.Operand.tmp 41) false, type := 3, pos := "raw.go:55", after := #[{ on := 2, ground := Go.Ground.data }, { on := 3, ground := Go.Ground.data }], guard := none }) (v := _) rfl (by kernel_rfl) (by kernel_rfl) (by kernel_rfl) (fun _ _ _ h => h) (Or.inl ⟨by rfl, ?hy26⟩) (by assumption) ?rest26
                case hy26 =>
                  intro wy hSy
                  have hlk:=hSy.ms.look (c:=1+p3) (by omega)
                  rw [←HSV.out] at hlk
                  clear hSy
                  go_simp
                  try rfl
                simp only [Act.put,List.setIfInBounds_toArray,List.set_cons_zero,List.set_cons_succ]
                refine' wpAnyH_take (i := 5) (oi := { dst := some 43, op := Go.Op.move (Go.Operand.tmp 6), type := 54, pos := "raw.go:55", after := #[], guard := none }) (v := _) rfl (by kernel_rfl) (by kernel_rfl) (by kernel_rfl) (fun _ _ _ h => h) (Or.inl ⟨by rfl, ?hy27⟩) (by assumption) ?rest27
                case hy27 =>
                  intro wy hSy
                  clear hSy
                  go_simp
                  try rfl
                simp only [Act.put,List.setIfInBounds_toArray,List.set_cons_zero,List.set_cons_succ]
                refine' wpAnyH_take (i := 6) (oi := { dst := some 44, op := Go.Op.move (Go.Operand.tmp 10), type := 3, pos := "raw.go:55", after := #[], guard := none }) (v := _) rfl (by kernel_rfl) (by kernel_rfl) (by kernel_rfl) (fun _ _ _ h => h) (Or.inl ⟨by rfl, ?hy28⟩) (by assumption) ?rest28
                case hy28 =>
                  intro wy hSy
                  clear hSy
                  go_simp
                  try rfl
                simp only [Act.put,List.setIfInBounds_toArray,List.set_cons_zero,List.set_cons_succ]
                refine' wpAnyH_take (i := 7) (oi := { dst := some 45, op := Go.Op.lookup 54 (Go.Operand.tmp 43) (Go.Operand.tmp 44) false, type := 3, pos := "raw.go:55", after := #[{ on := 5, ground := Go.Ground.data }, { on := 6, ground := Go.Ground.data }], guard := none }) (v := _) rfl (by kernel_rfl) (by kernel_rfl) (by kernel_rfl) (fun _ _ _ h => h) (Or.inl ⟨by rfl, ?hy29⟩) (by assumption) ?rest29
                case hy29 =>
                  intro wy hSy
                  have hlk:=hSy.mn.look (c:=1+p3) (by omega)
                  rw [←HGV.out] at hlk
                  clear hSy
                  go_simp
                  try rfl
                simp only [Act.put,List.setIfInBounds_toArray,List.set_cons_zero,List.set_cons_succ]
                refine' wpAnyH_take (i := 8) (oi := { dst := some 46, op := Go.Op.move (Go.Operand.tmp 6), type := 54, pos := "raw.go:55", after := #[], guard := none }) (v := _) rfl (by kernel_rfl) (by kernel_rfl) (by kernel_rfl) (fun _ _ _ h => h) (Or.inl ⟨by rfl, ?hy30⟩) (by assumption) ?rest30
                case hy30 =>
                  intro wy hSy
                  clear hSy
                  go_simp
                  try rfl
                simp only [Act.put,List.setIfInBounds_toArray,List.set_cons_zero,List.set_cons_succ]
                refine' wpAnyH_take (i := 9) (oi := { dst := some 47, op := Go.Op.move (Go.Operand.tmp 10), type := 3, pos := "raw.go:55", after := #[], guard := none }) (v := _) rfl (by kernel_rfl) (by kernel_rfl) (by kernel_rfl) (fun _ _ _ h => h) (Or.inl ⟨by rfl, ?hy31⟩) (by assumption) ?rest31
                case hy31 =>
                  intro wy hSy
                  clear hSy
                  go_simp
                  try rfl
                simp only [Act.put,List.setIfInBounds_toArray,List.set_cons_zero,List.set_cons_succ]
                refine' wpAnyH_take (i := 10) (oi := { dst := some 48, op := Go.Op.lookup 54 (Go.Operand.tmp 46) (Go.Operand.tmp 47) false, type := 3, pos := "raw.go:55", after := #[{ on := 8, ground := Go.Ground.data }, { on := 9, ground := Go.Ground.data }], guard := none }) (v := _) rfl (by kernel_rfl) (by kernel_rfl) (by kernel_rfl) (fun _ _ _ h => h) (Or.inl ⟨by rfl, ?hy32⟩) (by assumption) ?rest32
                case hy32 =>
                  intro wy hSy
                  have hlk:=hSy.mn.look (c:=1+p3) (by omega)
                  rw [←HGV.out] at hlk
                  clear hSy
                  go_simp
                  try rfl
                simp only [Act.put,List.setIfInBounds_toArray,List.set_cons_zero,List.set_cons_succ]
                refine' wpAnyH_take (i := 11) (oi := { dst := some 49, op := Go.Op.binOp Go.BinOp.sub 3 (Go.Operand.tmp 48) (Go.Operand.const (Go.Value.int Go.IntKind.i64 1)) 3, type := 3, pos := "raw.go:55", after := #[{ on := 10, ground := Go.Ground.data }], guard := none }) (v := _) rfl (by kernel_rfl) (by kernel_rfl) (by kernel_rfl) (fun _ _ _ h => h) (Or.inl ⟨by rfl, ?hy33⟩) (by assumption) ?rest33
                case hy33 =>
                  intro wy hSy
                  clear hSy
                  go_simp
                  try rfl
                simp only [Act.put,List.setIfInBounds_toArray,List.set_cons_zero,List.set_cons_succ]
                refine' wpAnyH_take (i := 12) (oi := { dst := some 50, op := Go.Op.fieldAddr 56 (Go.Operand.tmp 9) 1, type := 0, pos := "raw.go:55", after := #[], guard := none }) (v := _) rfl (by kernel_rfl) (by kernel_rfl) (by kernel_rfl) (fun _ _ _ h => h) (Or.inl ⟨by rfl, ?hy34⟩) (by assumption) ?rest34
                case hy34 =>
                  intro wy hSy
                  clear hSy
                  go_simp
                  try rfl
                simp only [Act.put,List.setIfInBounds_toArray,List.set_cons_zero,List.set_cons_succ]
                refine' wpAnyH_take (i := 13) (oi := { dst := some 51, op := Go.Op.load 3 (Go.Operand.tmp 50), type := 3, pos := "raw.go:55", after := #[{ on := 12, ground := Go.Ground.data }], guard := none }) (v := _) rfl (by kernel_rfl) (by kernel_rfl) (by kernel_rfl) (fun _ _ _ h => h) (Or.inl ⟨by rfl, ?hy35⟩) (by assumption) ?rest35
                case hy35 =>
                  intro wy hSy
                  have hld:=cell_of_row wy wr.heap.size 1 _ _ _ hSy.box
                  simp only [List.getElem?_toArray,List.getElem?_cons_succ,List.getElem?_cons_zero] at hld
                  clear hSy
                  go_simp
                  try rfl
                simp only [Act.put,List.setIfInBounds_toArray,List.set_cons_zero,List.set_cons_succ]
                refine' wpAnyH_take (i := 17) (oi := { dst := some 55, op := Go.Op.load 56 (Go.Operand.tmp 9), type := 56, pos := "raw.go:55", after := #[], guard := none }) (v := _) rfl (by kernel_rfl) (by kernel_rfl) (by kernel_rfl) (fun _ _ _ h => h) (Or.inl ⟨by rfl, ?hy36⟩) (by assumption) ?rest36
                case hy36 =>
                  intro wy hSy
                  obtain ⟨l0,l1,l2,l3⟩:=box_cells hSy.box
                  clear hSy
                  go_simp
                  try rfl
                simp only [Act.put,List.setIfInBounds_toArray,List.set_cons_zero,List.set_cons_succ]
                refine wpAnyH_ready (rs:=[14]) (by kernel_rfl) (by simp) ?_
                refine AllReadyH.cons (o := { dst := some 52, op := Go.Op.call { callee := Go.Callee.value (Go.Operand.func 6), args := #[Go.Operand.tmp 51, Go.Operand.const (Go.Value.int Go.IntKind.i64 3)], argTypes := #[3, 3] }, type := 3, pos := "raw.go:55", after := #[{ on := 13, ground := Go.Ground.data }], guard := none }) rfl (fun K hK => ?_) AllReadyH.nil
                go_simp
                refine (CP1.out _).mono ?_
                rintro e wz ⟨rfl,hwz⟩
                rw [hwz]
                clear hwz wz
                refine hK.out _ _ HRS.out.drew (fun hHeld=>?_)
                clear hK K
                try simp only [Act.put,List.setIfInBounds_toArray,List.set_cons_zero,List.set_cons_succ]
                refine' wpAnyH_take (i := 15) (oi := { dst := some 53, op := Go.Op.binOp Go.BinOp.sub 3 (Go.Operand.tmp 49) (Go.Operand.tmp 52) 3, type := 3, pos := "raw.go:55", after := #[{ on := 11, ground := Go.Ground.data }, { on := 14, ground := Go.Ground.data }], guard := none }) (v := _) rfl (by kernel_rfl) (by kernel_rfl) (by kernel_rfl) (fun _ _ _ h => h) (Or.inl ⟨by rfl, ?hy37⟩) (by assumption) ?rest37
                case hy37 =>
                  intro wy hSy
                  clear hSy
                  go_simp
                  try rfl
                simp only [Act.put,List.setIfInBounds_toArray,List.set_cons_zero,List.set_cons_succ]
                refine' wpAnyH_take (i := 16) (oi := { dst := some 54, op := Go.Op.call { callee := Go.Callee.builtin Go.Builtin.max, args := #[Go.Operand.const (Go.Value.int Go.IntKind.i64 0), Go.Operand.tmp 53], argTypes := #[3, 3] }, type := 3, pos := "raw.go:55", after := #[{ on := 15, ground := Go.Ground.data }], guard := none }) (v := _) rfl (by kernel_rfl) (by kernel_rfl) (by kernel_rfl) (fun _ _ _ h => h) (Or.inl ⟨by rfl, ?hy38⟩) (by assumption) ?rest38
                case hy38 =>
                  intro wy hSy
                  clear hSy
                  go_simp
                  try rfl
                simp only [Act.put,List.setIfInBounds_toArray,List.set_cons_zero,List.set_cons_succ]
                refine wpAnyH_ready (rs:=[18]) (by kernel_rfl) (by simp) ?_
                refine AllReadyH.cons (o := { dst := some 56, op := Go.Op.call { callee := Go.Callee.value (Go.Operand.func 15), args := #[Go.Operand.tmp 55], argTypes := #[56] }, type := 49, pos := "raw.go:55", after := #[{ on := 17, ground := Go.Ground.data }, { on := 14, ground := Go.Ground.chain }], guard := none }) rfl (fun K hK => ?_) AllReadyH.nil
                go_simp
                refine (CO.out _).mono ?_
                rintro e w2 ⟨os,on,rfl,hoe,hb2⟩
                have HRW2:=ohid (crow_below HRWA.out (show Below wa.heap.size wa w2 from (Below.refl _ _).drew.trans hb2))
                have hz2':w.heap.size≤w2.heap.size:=by have:=hb2.size;have hq:wa.drew.heap.size=wa.heap.size:=rfl;omega
                have hS2:=HRS.out.drew.step hb2
                have HS2:=ohid hS2
                clear hb2
                refine hK.out _ _ hS2 (fun hHeld=>?_)
                clear hK K
                try simp only [Act.put,List.setIfInBounds_toArray,List.set_cons_zero,List.set_cons_succ]
                refine' wpAnyH_take (i := 19) (oi := { dst := some 57, op := Go.Op.build 51 #[(0, Go.Operand.const (Go.Value.int Go.IntKind.i64 2)), (1, Go.Operand.tmp 39), (2, Go.Operand.tmp 42), (3, Go.Operand.tmp 45), (4, Go.Operand.tmp 54), (5, Go.Operand.tmp 56)], type := 51, pos := "raw.go:55", after := #[{ on := 1, ground := Go.Ground.data }, { on := 4, ground := Go.Ground.data }, { on := 7, ground := Go.Ground.data }, { on := 16, ground := Go.Ground.data }, { on := 18, ground := Go.Ground.data }], guard := none }) (v := _) rfl (by kernel_rfl) (by kernel_rfl) (by kernel_rfl) (fun _ _ _ h => h) (Or.inl ⟨by rfl, ?hy39⟩) (by assumption) ?rest39
                case hy39 =>
                  intro wy hSy
                  clear hSy
                  go_simp
                  try rfl
                simp only [Act.put,List.setIfInBounds_toArray,List.set_cons_zero,List.set_cons_succ]
                refine wpAnyH_ready (rs:=[20]) (by kernel_rfl) (by simp) ?_
                refine AllReadyH.cons (o := { dst := some 58, op := Go.Op.buildSlice 25 1 #[(0, Go.Operand.tmp 57)], type := 25, pos := "raw.go:55", after := #[{ on := 19, ground := Go.Ground.data }], guard := none }) rfl (fun K hK => ?_) AllReadyH.nil
                go_simp
                refine hK.out _ _ (HS2.out.step ((Below.refl _ _).alloc (Nat.le_refl _) _)) (fun hHeld=>?_)
                clear hK K
                try simp only [Act.put,List.setIfInBounds_toArray,List.set_cons_zero,List.set_cons_succ]
                refine wpAnyH_ready (rs:=[21]) (by kernel_rfl) (by simp) ?_
                refine AllReadyH.cons (o := { dst := some 59, op := Go.Op.call { callee := Go.Callee.builtin Go.Builtin.append, args := #[Go.Operand.tmp 38, Go.Operand.tmp 58], argTypes := #[25, 25] }, type := 25, pos := "raw.go:55", after := #[{ on := 0, ground := Go.Ground.data }, { on := 20, ground := Go.Ground.data }, { on := 18, ground := Go.Ground.chain }], guard := none }) rfl (fun K hK => ?_) AllReadyH.nil
                refine step_append_lies _ (by rfl) (.tmp 38) (.tmp 58) 25 (by rfl) w.heap.size 51 i0 _ 9 88 Tryz.underlying25 hi0 hz0 hz1 hz2 rfl (by decide) (.slice oo out.length oc) out.length (flatC out) (by rfl) (HRW2.out.alloc _) ⟨w2.heap.size,0,none⟩ 1 1 (cmdCells ⟨2,1+p3,sv,gv,max 0 (gv - 1 - p1),okk,nm,os,on⟩) (by rfl) (by rfl) (World.news_of_block (heap_alloc_new w2 _)) (cmdCells_one _) (by omega) (by have:=HLEN.out;unfold maxLen;omega) (by have:=HLEN.out;omega) (by simp;omega) (w2.heap.size+1) (by simp) ?_
                intro gn cn w3 hown3 hg3 hat3 hlt3
                have hr3:=hHeld.grown (HRW2.out.alloc _) hg3
                refine hK.out _ _ hr3 (fun hHeld=>?_)
                clear hK K
                try simp only [Act.put,List.setIfInBounds_toArray,List.set_cons_zero,List.set_cons_succ]
                refine' wpAnyH_take (i := 22) (oi := { dst := some 5, op := Go.Op.assign (Go.Operand.tmp 59), type := 25, pos := "raw.go:55", after := #[{ on := 21, ground := Go.Ground.data }, { on := 21, ground := Go.Ground.chain }, { on := 0, ground := Go.Ground.phase }, { on := 1, ground := Go.Ground.phase }, { on := 2, ground := Go.Ground.phase }, { on := 3, ground := Go.Ground.phase }, { on := 4, ground := Go.Ground.phase }, { on := 5, ground := Go.Ground.phase }, { on := 6, ground := Go.Ground.phase }, { on := 7, ground := Go.Ground.phase }, { on := 8, ground := Go.Ground.phase }, { on := 9, ground := Go.Ground.phase }, { on := 10, ground := Go.Ground.phase }, { on := 11, ground := Go.Ground.phase }, { on := 12, ground := Go.Ground.phase }, { on := 13, ground := Go.Ground.phase }, { on := 14, ground := Go.Ground.phase }, { on := 15, ground := Go.Ground.phase }, { on := 16, ground := Go.Ground.phase }, { on := 17, ground := Go.Ground.phase }, { on := 18, ground := Go.Ground.phase }, { on := 19, ground := Go.Ground.phase }, { on := 20, ground := Go.Ground.phase }, { on := 21, ground := Go.Ground.phase }], guard := none }) (v := _) rfl (by kernel_rfl) (by kernel_rfl) (by kernel_rfl) (fun _ _ _ h => h) (Or.inl ⟨by rfl, ?hy40⟩) (by assumption) ?rest40
                case hy40 =>
                  intro wy hSy
                  clear hSy
                  go_simp
                  try rfl
                simp only [Act.put,List.setIfInBounds_toArray,List.set_cons_zero,List.set_cons_succ]
                refine wpAnyH_done (by kernel_rfl) ?_ _
                have ho3:w3.ownsRow w.heap.size 51 9 (.slice (some ⟨gn,0,none⟩) (out.length+1) cn) (out++[(⟨2,1+p3,sv,gv,max 0 (gv - 1 - p1),okk,nm,os,on⟩:CmdD)]).length (flatC (out++[⟨2,1+p3,sv,gv,max 0 (gv - 1 - p1),okk,nm,os,on⟩])):=by rw [flatC_snoc];simpa using hown3
                have HX:=ohid (keepCall_ok hm (c:=1+p3) (s:=sv) (q:=gv) (u:=max 0 (gv - 1 - p1)) (by omega) hsb hgb (by omega) hoe HNM.out)
                have hlg3:=hr3.mn.look (c:=1+p3) (by omega)
                rw [←HGV.out] at hlg3
                obtain ⟨w4,hs4,hm4,hg4⟩:=hr3.mn.store (by have:=HK20.out;omega) (c:=1+p3) (v:=gv+1) (by omega) (by omega)
                have HM4:=ohid hm4
                have HM3:=ohid ((hr3.ms.kept hg4 (by simp)).mono (Nat.le_succ k))
                have HO4:=ohid (crow_keep ho3 (fun b hb=>hg4.block b (ho3.lt b hb).2 (fun e=>row_not_map hr3.mn ho3 (hb.trans e))))
                have HB4:=ohid (hr3.below.grown hg4 hr3.below.size (fun j hj=>by cases hj;omega))
                have HC4:=ohid (HKC.out.next HX.out (1+p3))
                rw [←HGV.out] at HC4
                clear hm4 hg4 hr3 ho3 hown3 hg3 hat3 hlt3 hHeld
                go_wp2
                go_roundw
                case rel=>exact ⟨k+1,_,_,_,by have:=HK.out;omega,by omega,by go_num,HO4.out,HM4.out,HM3.out,HC4.out,HB4.out⟩
                case measure=>simp [intOf];omega
              · go_wp2_with fail
                refine wp_region_held_drew (S:=RndC w wr.heap.size k f g x0 x1 x2 x3) (by kernel_rfl) HRS.out.drew (fun hHeld=>?_)
                refine' wpAnyH_take (i := 0) (oi := { dst := some 38, op := Go.Op.move (Go.Operand.tmp 5), type := 25, pos := "raw.go:55", after := #[], guard := none }) (v := _) rfl (by kernel_rfl) (by kernel_rfl) (by kernel_rfl) (fun _ _ _ h => h) (Or.inl ⟨by rfl, ?hy41⟩) (by assumption) ?rest41
                case hy41 =>
                  intro wy hSy
                  clear hSy
                  go_simp
                  try rfl
                simp only [Act.put,List.setIfInBounds_toArray,List.set_cons_zero,List.set_cons_succ]
                refine' wpAnyH_take (i := 1) (oi := { dst := some 39, op := Go.Op.move (Go.Operand.tmp 10), type := 3, pos := "raw.go:55", after := #[], guard := none }) (v := _) rfl (by kernel_rfl) (by kernel_rfl) (by kernel_rfl) (fun _ _ _ h => h) (Or.inl ⟨by rfl, ?hy42⟩) (by assumption) ?rest42
                case hy42 =>
                  intro wy hSy
                  clear hSy
                  go_simp
                  try rfl
                simp only [Act.put,List.setIfInBounds_toArray,List.set_cons_zero,List.set_cons_succ]
                refine' wpAnyH_take (i := 2) (oi := { dst := some 40, op := Go.Op.move (Go.Operand.tmp 7), type := 54, pos := "raw.go:55", after := #[], guard := none }) (v := _) rfl (by kernel_rfl) (by kernel_rfl) (by kernel_rfl) (fun _ _ _ h => h) (Or.inl ⟨by rfl, ?hy43⟩) (by assumption) ?rest43
                case hy43 =>
                  intro wy hSy
                  clear hSy
                  go_simp
                  try rfl
                simp only [Act.put,List.setIfInBounds_toArray,List.set_cons_zero,List.set_cons_succ]
                refine' wpAnyH_take (i := 3) (oi := { dst := some 41, op := Go.Op.move (Go.Operand.tmp 10), type := 3, pos := "raw.go:55", after := #[], guard := none }) (v := _) rfl (by kernel_rfl) (by kernel_rfl) (by kernel_rfl) (fun _ _ _ h => h) (Or.inl ⟨by rfl, ?hy44⟩) (by assumption) ?rest44
                case hy44 =>
                  intro wy hSy
                  clear hSy
                  go_simp
                  try rfl
                simp only [Act.put,List.setIfInBounds_toArray,List.set_cons_zero,List.set_cons_succ]
                refine' wpAnyH_take (i := 4) (oi := { dst := some 42, op := Go.Op.lookup 54 (Go.Operand.tmp 40) (Go.Operand.tmp 41) false, type := 3, pos := "raw.go:55", after := #[{ on := 2, ground := Go.Ground.data }, { on := 3, ground := Go.Ground.data }], guard := none }) (v := _) rfl (by kernel_rfl) (by kernel_rfl) (by kernel_rfl) (fun _ _ _ h => h) (Or.inl ⟨by rfl, ?hy45⟩) (by assumption) ?rest45
                case hy45 =>
                  intro wy hSy
                  have hlk:=hSy.ms.look (c:=1+p3) (by omega)
                  rw [←HSV.out] at hlk
                  clear hSy
                  go_simp
                  try rfl
                simp only [Act.put,List.setIfInBounds_toArray,List.set_cons_zero,List.set_cons_succ]
                refine' wpAnyH_take (i := 5) (oi := { dst := some 43, op := Go.Op.move (Go.Operand.tmp 6), type := 54, pos := "raw.go:55", after := #[], guard := none }) (v := _) rfl (by kernel_rfl) (by kernel_rfl) (by kernel_rfl) (fun _ _ _ h => h) (Or.inl ⟨by rfl, ?hy46⟩) (by assumption) ?rest46
                case hy46 =>
                  intro wy hSy
                  clear hSy
                  go_simp
                  try rfl
                simp only [Act.put,List.setIfInBounds_toArray,List.set_cons_zero,List.set_cons_succ]
                refine' wpAnyH_take (i := 6) (oi := { dst := some 44, op := Go.Op.move (Go.Operand.tmp 10), type := 3, pos := "raw.go:55", after := #[], guard := none }) (v := _) rfl (by kernel_rfl) (by kernel_rfl) (by kernel_rfl) (fun _ _ _ h => h) (Or.inl ⟨by rfl, ?hy47⟩) (by assumption) ?rest47
                case hy47 =>
                  intro wy hSy
                  clear hSy
                  go_simp
                  try rfl
                simp only [Act.put,List.setIfInBounds_toArray,List.set_cons_zero,List.set_cons_succ]
                refine' wpAnyH_take (i := 7) (oi := { dst := some 45, op := Go.Op.lookup 54 (Go.Operand.tmp 43) (Go.Operand.tmp 44) false, type := 3, pos := "raw.go:55", after := #[{ on := 5, ground := Go.Ground.data }, { on := 6, ground := Go.Ground.data }], guard := none }) (v := _) rfl (by kernel_rfl) (by kernel_rfl) (by kernel_rfl) (fun _ _ _ h => h) (Or.inl ⟨by rfl, ?hy48⟩) (by assumption) ?rest48
                case hy48 =>
                  intro wy hSy
                  have hlk:=hSy.mn.look (c:=1+p3) (by omega)
                  rw [←HGV.out] at hlk
                  clear hSy
                  go_simp
                  try rfl
                simp only [Act.put,List.setIfInBounds_toArray,List.set_cons_zero,List.set_cons_succ]
                refine' wpAnyH_take (i := 8) (oi := { dst := some 46, op := Go.Op.move (Go.Operand.tmp 6), type := 54, pos := "raw.go:55", after := #[], guard := none }) (v := _) rfl (by kernel_rfl) (by kernel_rfl) (by kernel_rfl) (fun _ _ _ h => h) (Or.inl ⟨by rfl, ?hy49⟩) (by assumption) ?rest49
                case hy49 =>
                  intro wy hSy
                  clear hSy
                  go_simp
                  try rfl
                simp only [Act.put,List.setIfInBounds_toArray,List.set_cons_zero,List.set_cons_succ]
                refine' wpAnyH_take (i := 9) (oi := { dst := some 47, op := Go.Op.move (Go.Operand.tmp 10), type := 3, pos := "raw.go:55", after := #[], guard := none }) (v := _) rfl (by kernel_rfl) (by kernel_rfl) (by kernel_rfl) (fun _ _ _ h => h) (Or.inl ⟨by rfl, ?hy50⟩) (by assumption) ?rest50
                case hy50 =>
                  intro wy hSy
                  clear hSy
                  go_simp
                  try rfl
                simp only [Act.put,List.setIfInBounds_toArray,List.set_cons_zero,List.set_cons_succ]
                refine' wpAnyH_take (i := 10) (oi := { dst := some 48, op := Go.Op.lookup 54 (Go.Operand.tmp 46) (Go.Operand.tmp 47) false, type := 3, pos := "raw.go:55", after := #[{ on := 8, ground := Go.Ground.data }, { on := 9, ground := Go.Ground.data }], guard := none }) (v := _) rfl (by kernel_rfl) (by kernel_rfl) (by kernel_rfl) (fun _ _ _ h => h) (Or.inl ⟨by rfl, ?hy51⟩) (by assumption) ?rest51
                case hy51 =>
                  intro wy hSy
                  have hlk:=hSy.mn.look (c:=1+p3) (by omega)
                  rw [←HGV.out] at hlk
                  clear hSy
                  go_simp
                  try rfl
                simp only [Act.put,List.setIfInBounds_toArray,List.set_cons_zero,List.set_cons_succ]
                refine' wpAnyH_take (i := 11) (oi := { dst := some 49, op := Go.Op.binOp Go.BinOp.sub 3 (Go.Operand.tmp 48) (Go.Operand.const (Go.Value.int Go.IntKind.i64 1)) 3, type := 3, pos := "raw.go:55", after := #[{ on := 10, ground := Go.Ground.data }], guard := none }) (v := _) rfl (by kernel_rfl) (by kernel_rfl) (by kernel_rfl) (fun _ _ _ h => h) (Or.inl ⟨by rfl, ?hy52⟩) (by assumption) ?rest52
                case hy52 =>
                  intro wy hSy
                  clear hSy
                  go_simp
                  try rfl
                simp only [Act.put,List.setIfInBounds_toArray,List.set_cons_zero,List.set_cons_succ]
                refine' wpAnyH_take (i := 12) (oi := { dst := some 50, op := Go.Op.fieldAddr 56 (Go.Operand.tmp 9) 1, type := 0, pos := "raw.go:55", after := #[], guard := none }) (v := _) rfl (by kernel_rfl) (by kernel_rfl) (by kernel_rfl) (fun _ _ _ h => h) (Or.inl ⟨by rfl, ?hy53⟩) (by assumption) ?rest53
                case hy53 =>
                  intro wy hSy
                  clear hSy
                  go_simp
                  try rfl
                simp only [Act.put,List.setIfInBounds_toArray,List.set_cons_zero,List.set_cons_succ]
                refine' wpAnyH_take (i := 13) (oi := { dst := some 51, op := Go.Op.load 3 (Go.Operand.tmp 50), type := 3, pos := "raw.go:55", after := #[{ on := 12, ground := Go.Ground.data }], guard := none }) (v := _) rfl (by kernel_rfl) (by kernel_rfl) (by kernel_rfl) (fun _ _ _ h => h) (Or.inl ⟨by rfl, ?hy54⟩) (by assumption) ?rest54
                case hy54 =>
                  intro wy hSy
                  have hld:=cell_of_row wy wr.heap.size 1 _ _ _ hSy.box
                  simp only [List.getElem?_toArray,List.getElem?_cons_succ,List.getElem?_cons_zero] at hld
                  clear hSy
                  go_simp
                  try rfl
                simp only [Act.put,List.setIfInBounds_toArray,List.set_cons_zero,List.set_cons_succ]
                refine' wpAnyH_take (i := 17) (oi := { dst := some 55, op := Go.Op.load 56 (Go.Operand.tmp 9), type := 56, pos := "raw.go:55", after := #[], guard := none }) (v := _) rfl (by kernel_rfl) (by kernel_rfl) (by kernel_rfl) (fun _ _ _ h => h) (Or.inl ⟨by rfl, ?hy55⟩) (by assumption) ?rest55
                case hy55 =>
                  intro wy hSy
                  obtain ⟨l0,l1,l2,l3⟩:=box_cells hSy.box
                  clear hSy
                  go_simp
                  try rfl
                simp only [Act.put,List.setIfInBounds_toArray,List.set_cons_zero,List.set_cons_succ]
                refine wpAnyH_ready (rs:=[14]) (by kernel_rfl) (by simp) ?_
                refine AllReadyH.cons (o := { dst := some 52, op := Go.Op.call { callee := Go.Callee.value (Go.Operand.func 6), args := #[Go.Operand.tmp 51, Go.Operand.const (Go.Value.int Go.IntKind.i64 3)], argTypes := #[3, 3] }, type := 3, pos := "raw.go:55", after := #[{ on := 13, ground := Go.Ground.data }], guard := none }) rfl (fun K hK => ?_) AllReadyH.nil
                go_simp
                refine (CP1.out _).mono ?_
                rintro e wz ⟨rfl,hwz⟩
                rw [hwz]
                clear hwz wz
                refine hK.out _ _ HRS.out.drew (fun hHeld=>?_)
                clear hK K
                try simp only [Act.put,List.setIfInBounds_toArray,List.set_cons_zero,List.set_cons_succ]
                refine' wpAnyH_take (i := 15) (oi := { dst := some 53, op := Go.Op.binOp Go.BinOp.sub 3 (Go.Operand.tmp 49) (Go.Operand.tmp 52) 3, type := 3, pos := "raw.go:55", after := #[{ on := 11, ground := Go.Ground.data }, { on := 14, ground := Go.Ground.data }], guard := none }) (v := _) rfl (by kernel_rfl) (by kernel_rfl) (by kernel_rfl) (fun _ _ _ h => h) (Or.inl ⟨by rfl, ?hy56⟩) (by assumption) ?rest56
                case hy56 =>
                  intro wy hSy
                  clear hSy
                  go_simp
                  try rfl
                simp only [Act.put,List.setIfInBounds_toArray,List.set_cons_zero,List.set_cons_succ]
                refine' wpAnyH_take (i := 16) (oi := { dst := some 54, op := Go.Op.call { callee := Go.Callee.builtin Go.Builtin.max, args := #[Go.Operand.const (Go.Value.int Go.IntKind.i64 0), Go.Operand.tmp 53], argTypes := #[3, 3] }, type := 3, pos := "raw.go:55", after := #[{ on := 15, ground := Go.Ground.data }], guard := none }) (v := _) rfl (by kernel_rfl) (by kernel_rfl) (by kernel_rfl) (fun _ _ _ h => h) (Or.inl ⟨by rfl, ?hy57⟩) (by assumption) ?rest57
                case hy57 =>
                  intro wy hSy
                  clear hSy
                  go_simp
                  try rfl
                simp only [Act.put,List.setIfInBounds_toArray,List.set_cons_zero,List.set_cons_succ]
                refine wpAnyH_ready (rs:=[18]) (by kernel_rfl) (by simp) ?_
                refine AllReadyH.cons (o := { dst := some 56, op := Go.Op.call { callee := Go.Callee.value (Go.Operand.func 15), args := #[Go.Operand.tmp 55], argTypes := #[56] }, type := 49, pos := "raw.go:55", after := #[{ on := 17, ground := Go.Ground.data }, { on := 14, ground := Go.Ground.chain }], guard := none }) rfl (fun K hK => ?_) AllReadyH.nil
                go_simp
                refine (CO.out _).mono ?_
                rintro e w2 ⟨os,on,rfl,hoe,hb2⟩
                have HRW2:=ohid (crow_below HRWA.out (show Below wa.heap.size wa w2 from (Below.refl _ _).drew.trans hb2))
                have hz2':w.heap.size≤w2.heap.size:=by have:=hb2.size;have hq:wa.drew.heap.size=wa.heap.size:=rfl;omega
                have hS2:=HRS.out.drew.step hb2
                have HS2:=ohid hS2
                clear hb2
                refine hK.out _ _ hS2 (fun hHeld=>?_)
                clear hK K
                try simp only [Act.put,List.setIfInBounds_toArray,List.set_cons_zero,List.set_cons_succ]
                refine' wpAnyH_take (i := 19) (oi := { dst := some 57, op := Go.Op.build 51 #[(0, Go.Operand.const (Go.Value.int Go.IntKind.i64 2)), (1, Go.Operand.tmp 39), (2, Go.Operand.tmp 42), (3, Go.Operand.tmp 45), (4, Go.Operand.tmp 54), (5, Go.Operand.tmp 56)], type := 51, pos := "raw.go:55", after := #[{ on := 1, ground := Go.Ground.data }, { on := 4, ground := Go.Ground.data }, { on := 7, ground := Go.Ground.data }, { on := 16, ground := Go.Ground.data }, { on := 18, ground := Go.Ground.data }], guard := none }) (v := _) rfl (by kernel_rfl) (by kernel_rfl) (by kernel_rfl) (fun _ _ _ h => h) (Or.inl ⟨by rfl, ?hy58⟩) (by assumption) ?rest58
                case hy58 =>
                  intro wy hSy
                  clear hSy
                  go_simp
                  try rfl
                simp only [Act.put,List.setIfInBounds_toArray,List.set_cons_zero,List.set_cons_succ]
                refine wpAnyH_ready (rs:=[20]) (by kernel_rfl) (by simp) ?_
                refine AllReadyH.cons (o := { dst := some 58, op := Go.Op.buildSlice 25 1 #[(0, Go.Operand.tmp 57)], type := 25, pos := "raw.go:55", after := #[{ on := 19, ground := Go.Ground.data }], guard := none }) rfl (fun K hK => ?_) AllReadyH.nil
                go_simp
                refine hK.out _ _ (HS2.out.step ((Below.refl _ _).alloc (Nat.le_refl _) _)) (fun hHeld=>?_)
                clear hK K
                try simp only [Act.put,List.setIfInBounds_toArray,List.set_cons_zero,List.set_cons_succ]
                refine wpAnyH_ready (rs:=[21]) (by kernel_rfl) (by simp) ?_
                refine AllReadyH.cons (o := { dst := some 59, op := Go.Op.call { callee := Go.Callee.builtin Go.Builtin.append, args := #[Go.Operand.tmp 38, Go.Operand.tmp 58], argTypes := #[25, 25] }, type := 25, pos := "raw.go:55", after := #[{ on := 0, ground := Go.Ground.data }, { on := 20, ground := Go.Ground.data }, { on := 18, ground := Go.Ground.chain }], guard := none }) rfl (fun K hK => ?_) AllReadyH.nil
                refine step_append_lies _ (by rfl) (.tmp 38) (.tmp 58) 25 (by rfl) w.heap.size 51 i0 _ 9 88 Tryz.underlying25 hi0 hz0 hz1 hz2 rfl (by decide) (.slice oo out.length oc) out.length (flatC out) (by rfl) (HRW2.out.alloc _) ⟨w2.heap.size,0,none⟩ 1 1 (cmdCells ⟨2,1+p3,sv,gv,max 0 (gv - 1 - p1),okk,nm,os,on⟩) (by rfl) (by rfl) (World.news_of_block (heap_alloc_new w2 _)) (cmdCells_one _) (by omega) (by have:=HLEN.out;unfold maxLen;omega) (by have:=HLEN.out;omega) (by simp;omega) (w2.heap.size+1) (by simp) ?_
                intro gn cn w3 hown3 hg3 hat3 hlt3
                have hr3:=hHeld.grown (HRW2.out.alloc _) hg3
                refine hK.out _ _ hr3 (fun hHeld=>?_)
                clear hK K
                try simp only [Act.put,List.setIfInBounds_toArray,List.set_cons_zero,List.set_cons_succ]
                refine' wpAnyH_take (i := 22) (oi := { dst := some 5, op := Go.Op.assign (Go.Operand.tmp 59), type := 25, pos := "raw.go:55", after := #[{ on := 21, ground := Go.Ground.data }, { on := 21, ground := Go.Ground.chain }, { on := 0, ground := Go.Ground.phase }, { on := 1, ground := Go.Ground.phase }, { on := 2, ground := Go.Ground.phase }, { on := 3, ground := Go.Ground.phase }, { on := 4, ground := Go.Ground.phase }, { on := 5, ground := Go.Ground.phase }, { on := 6, ground := Go.Ground.phase }, { on := 7, ground := Go.Ground.phase }, { on := 8, ground := Go.Ground.phase }, { on := 9, ground := Go.Ground.phase }, { on := 10, ground := Go.Ground.phase }, { on := 11, ground := Go.Ground.phase }, { on := 12, ground := Go.Ground.phase }, { on := 13, ground := Go.Ground.phase }, { on := 14, ground := Go.Ground.phase }, { on := 15, ground := Go.Ground.phase }, { on := 16, ground := Go.Ground.phase }, { on := 17, ground := Go.Ground.phase }, { on := 18, ground := Go.Ground.phase }, { on := 19, ground := Go.Ground.phase }, { on := 20, ground := Go.Ground.phase }, { on := 21, ground := Go.Ground.phase }], guard := none }) (v := _) rfl (by kernel_rfl) (by kernel_rfl) (by kernel_rfl) (fun _ _ _ h => h) (Or.inl ⟨by rfl, ?hy59⟩) (by assumption) ?rest59
                case hy59 =>
                  intro wy hSy
                  clear hSy
                  go_simp
                  try rfl
                simp only [Act.put,List.setIfInBounds_toArray,List.set_cons_zero,List.set_cons_succ]
                refine wpAnyH_done (by kernel_rfl) ?_ _
                have ho3:w3.ownsRow w.heap.size 51 9 (.slice (some ⟨gn,0,none⟩) (out.length+1) cn) (out++[(⟨2,1+p3,sv,gv,max 0 (gv - 1 - p1),okk,nm,os,on⟩:CmdD)]).length (flatC (out++[⟨2,1+p3,sv,gv,max 0 (gv - 1 - p1),okk,nm,os,on⟩])):=by rw [flatC_snoc];simpa using hown3
                have HX:=ohid (keepCall_ok hm (c:=1+p3) (s:=sv) (q:=gv) (u:=max 0 (gv - 1 - p1)) (by omega) hsb hgb (by omega) hoe HNM.out)
                have hlg3:=hr3.mn.look (c:=1+p3) (by omega)
                rw [←HGV.out] at hlg3
                obtain ⟨w4,hs4,hm4,hg4⟩:=hr3.mn.store (by have:=HK20.out;omega) (c:=1+p3) (v:=gv+1) (by omega) (by omega)
                have HM4:=ohid hm4
                have HM3:=ohid ((hr3.ms.kept hg4 (by simp)).mono (Nat.le_succ k))
                have HO4:=ohid (crow_keep ho3 (fun b hb=>hg4.block b (ho3.lt b hb).2 (fun e=>row_not_map hr3.mn ho3 (hb.trans e))))
                have HB4:=ohid (hr3.below.grown hg4 hr3.below.size (fun j hj=>by cases hj;omega))
                have HC4:=ohid (HKC.out.next HX.out (1+p3))
                rw [←HGV.out] at HC4
                clear hm4 hg4 hr3 ho3 hown3 hg3 hat3 hlt3 hHeld
                go_wp2
                go_roundw
                case rel=>exact ⟨k+1,_,_,_,by have:=HK.out;omega,by omega,by go_num,HO4.out,HM4.out,HM3.out,HC4.out,HB4.out⟩
                case measure=>simp [intOf];omega
    · have h19:((k:Int) < (rs.length:Int)∧¬ ((k:Int) < (mo:Int)))∨¬ ((k:Int) < (rs.length:Int)):=by omega
      have HRW:=ohid hrow
      have HKC:=ohid hkc
      have HB:=ohid hb
      have HK20:=ohid hk20
      have HKL:=ohid hk
      clear hlt hrow hkc hb h4 h3 hmn hms
      rcases h19 with ⟨hq1,hq2⟩ | hq1
      all_goals
        go_wp2
        go_ret
        exact ⟨_,rfl,out,HRW.out,by have:=HKC.out.len;have:=HK20.out;have:=HKL.out;omega,HKC.out.ok,HB.out⟩
end Go.Proofs.YtbmfahgekcnkaajGreatDoor
