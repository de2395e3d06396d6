/- codec.Seal and the document's SealOf: both return the four bytes of the two sums; nothing that was there has turned; snap.unseal: all ahead of the seal; what is wrong first; snap.Decode: what it answers at every text; replica.tells, replica.Check; slices.Equal of texts; log.beginsWith; Small functions of package replica: recall, applied, toApply, beginsWith, mailOf; log.Copy: the same log, in memory of its own; replica.Copy: the same replica, in memory of its own; replica.Apply, at a replica that may be: the loop over what is to be applied (joined by program) -/
import Derived.Test.YtbmfahgekcnkaajGreatDoorRows
import Derived.WalkKit
import Derived.ProofKit
import Derived.OpenShut
import Derived.ShutString
import Derived.WalkLawsBesides
import Derived.Laws.BytesArg
import Derived.Deep.RegionWith
import Derived.Deep.RegionHeld3
import Derived.BigQuiet
import Derived.Laws.StructEq
import Derived.Test.YtbmfahgekcnkaajGreatDoorRS42
import Derived.Test.YtbmfahgekcnkaajGreatDoorRS43
import Derived.Test.YtbmfahgekcnkaajGreatDoorRS02
import Derived.Test.YtbmfahgekcnkaajGreatDoorRS11
import Derived.Test.YtbmfahgekcnkaajGreatDoorRS41
import Derived.Test.YtbmfahgekcnkaajGreatDoorRS00
namespace Go.Proofs.YtbmfahgekcnkaajGreatDoor
open Go.RowKit
theorem conv4 (W:World) (a b c d:Int) :
  (convert 85 9 (.slice (some ⟨W.heap.size,0,none⟩) 4 4)).run Tryz.prog (W.alloc (.cells #[.int .u8 a,.int .u8 b,.int .u8 c,.int .u8 d] 5))
   = .ok (.string (strOfNums [a,b,c,d])) (W.alloc (.cells #[.int .u8 a,.int .u8 b,.int .u8 c,.int .u8 d] 5)):=by
 refine run_convert_bytes_arg _ 85 5 Tryz.underlying85 Tryz.underlying5 W.heap.size 0 4 4 [a,b,c,d] rfl ?_ 9 Tryz.underlying9
 intro i hi
 match i,hi with
 | 0,_=>simp
 | 1,_=>simp
 | 2,_=>simp
 | 3,_=>simp
set_option maxHeartbeats 400000 in
theorem seal_any (s:ByteArray) (w:World) (hs:s.size≤maxLen) :
  Calls Tryz.prog 55 #[.string s] w fun e w'=>e=.returned (.string (sealOut s))∧Below w.heap.size w w':=by
 unfold maxLen at hs
 have hcv:=conv4
 go_enter Tryz.func55,Tryz.ntmps55
 go_wp2
 go_loop [3,4,8] (fun x y i=>∃ k:Nat,k≤s.size∧i=.int .i64 k∧x=.int .i64 (sealGo (s.data.toList.take k)).1∧y=.int .i64 (sealGo (s.data.toList.take k)).2) (fun _ _ i=>s.size - (intOf i).toNat)
 case atStart=>exact ⟨0,Nat.zero_le _,rfl,rfl,rfl⟩
 case round =>
  obtain ⟨k,hk,rfl,rfl,rfl⟩:=hrel
  obtain ⟨b1,b2,b3,b4⟩:=sealGo_bd (s.data.toList.take k)
  by_cases hlt:k < s.size
  ·have HS:Hid (sealGo (s.data.toList.take (k+1))=(((sealGo (s.data.toList.take k)).1+s[k].toNat) % 65521,((sealGo (s.data.toList.take k)).2+((sealGo (s.data.toList.take k)).1+s[k].toNat) % 65521) % 65521)):=by
    rw [take_snoc s k hlt];exact sealGo_snoc _ _
   have hby:((s[k].toNat:Nat):Int)≤255:=by have:=s[k].toNat_lt;omega
   go_wp2
   go_round
   case rel=>exact ⟨k+1,by omega,by go_num,by rw [HS.out],by rw [HS.out]⟩
   case measure=>simp [intOf];omega
  ·have HA:Hid (sealGo (s.data.toList.take k)=sealGo s.data.toList):=by rw [take_all s k (by omega)];exact rfl
   go_wp2
   go_ret
   refine ⟨?_,(Below.refl _ _).alloc (Nat.le_refl _) _⟩
   rw [HA.out];rfl
end Go.Proofs.YtbmfahgekcnkaajGreatDoor
namespace Go.Proofs.YtbmfahgekcnkaajGreatDoor
open Go.RowKit
set_option maxHeartbeats 800000 in
theorem unseal_long (s:ByteArray) (w:World) (hs:s.size≤140737488351232) (h:5000 < s.size) :
  Calls Tryz.prog 56 #[.string s] w fun e w'=>e=.returned (.tuple #[.string ⟨#[]⟩,.int .i64 1])∧Below w.heap.size w w':=by
 go_enter Tryz.func56,Tryz.ntmps56
 go_wp2
 go_ret2
 exact ⟨rfl,Below.refl _ _⟩
set_option maxHeartbeats 800000 in
theorem unseal_short (s:ByteArray) (w:World) (h:s.size < 4) :
  Calls Tryz.prog 56 #[.string s] w fun e w'=>e=.returned (.tuple #[.string ⟨#[]⟩,.int .i64 5])∧Below w.heap.size w w':=by
 go_enter Tryz.func56,Tryz.ntmps56
 go_wp2
 go_ret2
 exact ⟨rfl,Below.refl _ _⟩
set_option maxRecDepth 100000 in
set_option maxHeartbeats 1600000 in
theorem unseal_ok (s:ByteArray) (w:World) (h1:s.size≤5000) (h2:4≤s.size) (h3:sealOut (s.extract 0 (s.size - 4))=s.extract (s.size - 4) s.size) :
  Calls Tryz.prog 56 #[.string s] w fun e w'=>e=.returned (.tuple #[.string (s.extract 0 (s.size - 4)),.int .i64 0])∧Below w.heap.size w w':=by
 have HT:Hid (((s.size:Int) - 4).toNat=s.size - 4):=(by omega:((s.size:Int) - 4).toNat=s.size - 4)
 have hmx:(s.extract 0 (s.size - 4)).size≤maxLen:=by rw [ByteArray.size_extract];unfold maxLen;omega
 have CT:Hid (∀ u,Calls Tryz.prog 55 #[.string (s.extract 0 ((s.size:Int) - 4).toNat)] u fun e w'=>e=.returned (.string (s.extract ((s.size:Int) - 4).toNat s.size))∧Below u.heap.size u w'):=by unfold Hid;rw [HT.out,←h3];exact fun u=>seal_any _ u hmx
 clear h3
 have hi0:(0:Int)≤(s.size:Int) - 4:=by omega
 have hi1:(s.size:Int) - 4≤(s.size:Int):=by omega
 clear hmx
 go_enter Tryz.func56,Tryz.ntmps56
 go_wp2_with fail
 go_region_held3 (fun _=>True) (go_keep) (first
   | (go_at_call 55;refine (CT.out _).mono ?_;rintro e w1 ⟨rfl,hb1⟩))
 all_goals
  have HB1:Hid (Below w.heap.size w w1):=((Below.refl w.heap.size w).drew).trans hb1
  clear hb1 CT
  go_wp2
  go_ret2
  exact ⟨by rw [HT.out];rfl,HB1.out⟩
set_option maxRecDepth 100000 in
set_option maxHeartbeats 1600000 in
theorem unseal_sum (s:ByteArray) (w:World) (h1:s.size≤5000) (h2:4≤s.size) (h3:sealOut (s.extract 0 (s.size - 4))≠s.extract (s.size - 4) s.size) :
  Calls Tryz.prog 56 #[.string s] w fun e w'=>e=.returned (.tuple #[.string ⟨#[]⟩,.int .i64 15])∧Below w.heap.size w w':=by
 have HT:Hid (((s.size:Int) - 4).toNat=s.size - 4):=(by omega:((s.size:Int) - 4).toNat=s.size - 4)
 have hmx:(s.extract 0 (s.size - 4)).size≤maxLen:=by rw [ByteArray.size_extract];unfold maxLen;omega
 obtain ⟨so,hso⟩:∃ so,so=sealOut (s.extract 0 (s.size - 4)):=⟨_,rfl⟩
 have CS:Hid (∀ u,Calls Tryz.prog 55 #[.string (s.extract 0 (s.size - 4))] u fun e w'=>e=.returned (.string so)∧Below u.heap.size u w'):=by unfold Hid;rw [hso];exact fun u=>seal_any _ u hmx
 have CT:Hid (∀ u,Calls Tryz.prog 55 #[.string (s.extract 0 ((s.size:Int) - 4).toNat)] u fun e w'=>e=.returned (.string so)∧Below u.heap.size u w'):=by unfold Hid;rw [HT.out];exact CS.out
 clear CS
 rw [←hso] at h3
 have hnq:(so.toList == (s.extract ((s.size:Int) - 4).toNat s.size).toList)=false:=by
  rw [HT.out,beq_eq_false_iff_ne]
  intro e
  rw [ByteArray.toList_eq,ByteArray.toList_eq] at e
  exact h3 (bytes_ext e)
 clear h3 hso
 have hi0:(0:Int)≤(s.size:Int) - 4:=by omega
 have hi1:(s.size:Int) - 4≤(s.size:Int):=by omega
 clear hmx
 go_enter Tryz.func56,Tryz.ntmps56
 go_wp2_with fail
 go_region_held3 (fun _=>True) (go_keep) (first
   | (go_at_call 55;refine (CT.out _).mono ?_;rintro e w1 ⟨rfl,hb1⟩))
 all_goals
  have HB1:Hid (Below w.heap.size w w1):=((Below.refl w.heap.size w).drew).trans hb1
  clear hb1 CT
  go_wp2
  go_ret2
  exact ⟨rfl,HB1.out⟩
end Go.Proofs.YtbmfahgekcnkaajGreatDoor
namespace Go.Proofs.YtbmfahgekcnkaajGreatDoor
open Go.RowKit
theorem rs_str_ne {b:ByteArray} (h:b.size≠0):b.toList.isEmpty=false:=by
 rw [ByteArray.toList_eq]
 cases hb:b.data.toList with
 | nil =>
  have:b.data.toList.length=b.size:=by simp
  rw [hb] at this
  exact absurd this.symm h
 | cons x t=>rfl
theorem rsEnd_any (rb:Nat) (r:ByteArray × Int) (w:World) (hr:IsRs rb r w) :
  Calls Tryz.prog 58 #[.pointer (some ⟨rb,0,none⟩)] w fun x w'=>x=.returned (.int .i64 (endE r))∧w'=w:=by
 have s0:w.cell? ⟨rb,0,none⟩=some (.string r.1):=cell_of_row w rb 0 _ _ _ hr
 have s1:w.cell? ⟨rb,1,none⟩=some (.int .i64 r.2):=cell_of_row w rb 1 _ _ _ hr
 clear hr
 unfold endE
 obtain ⟨s,e⟩:=r
 simp only at s0 s1 ⊢
 by_cases he:e=0
 ·subst he
  by_cases hz:s.size=0
  ·obtain rfl:=size_zero hz
   rw [if_neg (fun h=>h.2 hz)]
   clear hz
   go_enter Tryz.func58,Tryz.ntmps58
   go_wp2
   go_ret
   exact ⟨rfl,rfl⟩
  ·rw [if_pos ⟨rfl,hz⟩]
   have hne:=rs_str_ne hz
   clear hz
   go_enter Tryz.func58,Tryz.ntmps58
   go_wp2
   go_ret
   exact ⟨rfl,rfl⟩
 ·rw [if_neg (fun h=>he h.1)]
  have heb:(e == 0)=false:=by simpa using he
  clear he
  go_enter Tryz.func58,Tryz.ntmps58
  go_wp2
  go_ret
  exact ⟨rfl,rfl⟩
theorem state_nil (w:World) (B:Nat):StateR w B (.agg #[.int .i64 0,.slice none 0 0,.slice none 0 0,.slice none 0 0]) ⟨0,[],[],[]⟩ :=
 ⟨_,_,_,rfl,⟨none,0,rfl,Nat.le_refl _,by simp,fun _=>rfl,fun h=>absurd h (by simp)⟩,PairsR.nil _ _,SessR.nil _ _⟩
theorem zbelow4 {B:Nat} {w0 w:World} (h:Below B w0 w) {b:Nat} (hb:B≤b) (a0 a1 a2 a3:Value):Below B w0 ((((w.setCell ⟨b,0,none⟩ a0).setCell ⟨b,1,none⟩ a1).setCell ⟨b,2,none⟩ a2).setCell ⟨b,3,none⟩ a3) :=
 (((h.setCell (by simpa using hb) a0).setCell (by simpa using hb) a1).setCell (by simpa using hb) a2).setCell (by simpa using hb) a3
theorem decode_unsealed (t:ByteArray) (e0:Int) (w:World) (he:e0≠0) (hu:∀ u,Calls Tryz.prog 56 #[.string t] u fun e w'=>e=.returned (.tuple #[.string ⟨#[]⟩,.int .i64 e0])∧Below u.heap.size u w') :
  Calls Tryz.prog 29 #[.string t] w fun e w'=>e=.returned (.tuple #[.agg #[.int .i64 0,.slice none 0 0,.slice none 0 0,.slice none 0 0],.int .i64 e0])∧Below w.heap.size w w':=by
 have CU:=ghid hu
 have heb:(e0 != 0)=true:=by simpa using he
 have hb0:Below w.heap.size w (w.alloc (.cells #[.int .i64 0,.slice none 0 0,.slice none 0 0,.slice none 0 0] 34)):=(Below.refl _ _).alloc (Nat.le_refl _) _
 have HX0:Hid ((w.alloc (.cells #[.int .i64 0,.slice none 0 0,.slice none 0 0,.slice none 0 0] 34)).heap[w.heap.size]?=some (.cells #[.int .i64 0,.slice none 0 0,.slice none 0 0,.slice none 0 0] 34 (0,0))):=heap_alloc_new w _
 have hz0:(w.alloc (.cells #[.int .i64 0,.slice none 0 0,.slice none 0 0,.slice none 0 0] 34)).heap.size=w.heap.size+1:=by simp
 have HB0:=ghid hb0
 clear hu he hb0
 go_enter Tryz.func29,Tryz.ntmps29
 go_wp2_with fail
 refine (CU.out _).mono ?_
 rintro e w1 ⟨rfl,hb1⟩
 have HX1:Hid (w1.heap[w.heap.size]?=_):=(hb1.block _ (by omega)).trans HX0.out
 have HB1:=ghid (HB0.out.trans (hb1.mono HB0.out.size))
 obtain ⟨c0,c1,c2,c3,cf,-⟩:=state_cells HX1.out
 clear hb1 CU
 go_wp2
 refine bodyPost_ret (v:=.tuple #[.agg #[.int .i64 0,.slice none 0 0,.slice none 0 0,.slice none 0 0],.int .i64 e0]) (by simp [results,Tryz.results29,go_sem,c0,c1,c2,c3]) rfl ?_
 exact ⟨rfl,zbelow4 HB1.out (Nat.le_refl _) _ _ _ _⟩
set_option maxRecDepth 100000 in
set_option maxHeartbeats 3200000 in
theorem decode_read (t body:ByteArray) (w:World) (hz:body.size≤140737488351232) (hu:∀ u,Calls Tryz.prog 56 #[.string t] u fun e w'=>e=.returned (.tuple #[.string body,.int .i64 0])∧Below u.heap.size u w') (c:Int)
  (hc:c=if endE (snapR (body,0)).2≠0 then endE (snapR (body,0)).2 else checkM (snapR (body,0)).1) :
  Calls Tryz.prog 29 #[.string t] w fun e w'=>∃ v',e=.returned (.tuple #[v',.int .i64 c])∧NewR w.heap.size w' (fun u=>StateR u u.heap.size v' (if c=0 then (snapR (body,0)).1 else ⟨0,[],[],[]⟩))∧Below w.heap.size w w':=by
 have CU:=ghid hu
 have HZ:=ghid hz
 obtain ⟨x,hx⟩:∃ x,x=(snapR (body,0)).1:=⟨_,rfl⟩
 obtain ⟨r,hr⟩:∃ r,r=(snapR (body,0)).2:=⟨_,rfl⟩
 rw [←hx,←hr] at hc
 rw [←hx]
 obtain ⟨y,hy⟩:∃ y,y=if c=0 then x else (⟨0,[],[],[]⟩:StateD):=⟨_,rfl⟩
 rw [←hy]
 have HXX:=ghid hx
 have HRR:=ghid hr
 have HY0:Hid (c=0→y=x):=fun h=>by rw [hy,if_pos h]
 have HY1:Hid (c≠0→y=⟨0,[],[],[]⟩):=fun h=>by rw [hy,if_neg h]
 clear hx hr hy
 have hb0:Below w.heap.size w (w.alloc (.cells #[.int .i64 0,.slice none 0 0,.slice none 0 0,.slice none 0 0] 34)):=(Below.refl _ _).alloc (Nat.le_refl _) _
 have HX0:Hid ((w.alloc (.cells #[.int .i64 0,.slice none 0 0,.slice none 0 0,.slice none 0 0] 34)).heap[w.heap.size]?=some (.cells #[.int .i64 0,.slice none 0 0,.slice none 0 0,.slice none 0 0] 34 (0,0))):=heap_alloc_new w _
 have hz0:(w.alloc (.cells #[.int .i64 0,.slice none 0 0,.slice none 0 0,.slice none 0 0] 34)).heap.size=w.heap.size+1:=by simp
 have HB0:=ghid hb0
 clear hu hz hb0
 go_enter Tryz.func29,Tryz.ntmps29
 go_wp2_with fail
 refine (CU.out _).mono ?_
 rintro e w1 ⟨rfl,hb1⟩
 have hz1:w.heap.size+1≤w1.heap.size:=by have:=hb1.size;omega
 have HX1:Hid (w1.heap[w.heap.size]?=_):=(hb1.block _ (by omega)).trans HX0.out
 have HB1:=ghid (HB0.out.trans (hb1.mono HB0.out.size))
 have hba:Below w1.heap.size w1 (w1.alloc (.cells #[.string body,.int .i64 0] 111)):=(Below.refl _ _).alloc (Nat.le_refl _) _
 have hz2:(w1.alloc (.cells #[.string body,.int .i64 0] 111)).heap.size=w1.heap.size+1:=by simp
 have HX2:Hid ((w1.alloc (.cells #[.string body,.int .i64 0] 111)).heap[w.heap.size]?=_):=(hba.block _ (by omega)).trans HX1.out
 have HB2:=ghid (HB1.out.trans (hba.mono (by omega)))
 have hrs:IsRs w1.heap.size (body,0) (w1.alloc (.cells #[.string body,.int .i64 0] 111)):=heap_alloc_new w1 _
 have CR:=ghid (rs_state w1.heap.size (body,0) _ HZ.out hrs)
 rw [←HXX.out,←HRR.out] at CR
 clear hb1 CU hba hrs HXX HRR
 go_wp2_with fail
 refine CR.out.mono ?_
 rintro e w2 ⟨v,rfl,hr2,hn2,ht2⟩
 have hz3:=ht2.size
 have hst:StateR w2 w2.heap.size v x:=hn2.now
 obtain ⟨lv,pv,sv,rfl,h1,h2,h3⟩:=id hst
 obtain ⟨lo,lc,rfl,-⟩:=id h1
 obtain ⟨po,pc,rfl,-⟩:=id h2
 obtain ⟨so,sc,rfl,-⟩:=id h3
 have HX3:Hid (w2.heap[w.heap.size]?=_):=(ht2.block _ (by omega) (by omega)).trans HX2.out
 have HB3:=ghid (HB2.out.trans (ht2.below (B:=w.heap.size) (by omega) (fun k hk=>by omega)))
 have HR2:=ghid hr2
 have HST:=ghid hst
 have HN2:=ghid (hn2.mono (by omega:w.heap.size+1≤_))
 have HN4:=ghid (HN2.out.touch (TouchG.of_below ((Below.refl w2.heap.size w2).alloc (Nat.le_refl _) (.cells #[.int .i64 x.index,.slice lo x.locks.length lc,.slice po x.pairs.length pc,.slice so x.sess.length sc] 34)) (Nat.le_refl _) (fun _=>False)) (fun _ _ h=>h.elim))
 clear hst h1 h2 h3 hr2 hn2 ht2 CR HN2
 have hbb:Below w2.heap.size w2 (w2.alloc (.cells #[.int .i64 x.index,.slice lo x.locks.length lc,.slice po x.pairs.length pc,.slice so x.sess.length sc] 34)):=(Below.refl _ _).alloc (Nat.le_refl _) _
 have HX4:Hid ((w2.alloc (.cells #[.int .i64 x.index,.slice lo x.locks.length lc,.slice po x.pairs.length pc,.slice so x.sess.length sc] 34)).heap[w.heap.size]?=_):=(hbb.block _ (by omega)).trans HX3.out
 have HY4:Hid ((w2.alloc (.cells #[.int .i64 x.index,.slice lo x.locks.length lc,.slice po x.pairs.length pc,.slice so x.sess.length sc] 34)).heap[w2.heap.size]?=some (.cells #[.int .i64 x.index,.slice lo x.locks.length lc,.slice po x.pairs.length pc,.slice so x.sess.length sc] 34 (0,0))):=heap_alloc_new w2 _
 have HB4:=ghid (HB3.out.trans (hbb.mono (by omega)))
 have HR4:=ghid (HR2.out.below hbb)
 have HST4:=ghid (HST.out.below hbb (Nat.le_refl _))
 have hz4:(w2.alloc (.cells #[.int .i64 x.index,.slice lo x.locks.length lc,.slice po x.pairs.length pc,.slice so x.sess.length sc] 34)).heap.size=w2.heap.size+1:=by simp
 obtain ⟨w3,hw3⟩:∃ w3,w3=w2.alloc (.cells #[.int .i64 x.index,.slice lo x.locks.length lc,.slice po x.pairs.length pc,.slice so x.sess.length sc] 34):=⟨_,rfl⟩
 obtain ⟨yb,hyb⟩:∃ yb,yb=w2.heap.size:=⟨_,rfl⟩
 have CE:=ghid (rsEnd_any w1.heap.size r _ HR4.out)
 rw [←hw3] at HX4 HB4 HR4 HST4 hz4 CE HN4
 rw [←hw3,←hyb] at HY4
 rw [←hyb] at hz4 HST4
 have hzy:w.heap.size+1≤yb:=by omega
 have HW3:=ghid hw3
 have HYB:=ghid hyb
 clear hbb hw3 hyb
 go_wp2_with fail
 rw [←HW3.out]
 refine CE.out.mono ?_
 rintro e w4 ⟨rfl,rfl⟩
 rw [←HYB.out]
 clear CE HR4 HW3
 by_cases hE:endE r=0
 ·rw [if_neg (fun h=>h hE)] at hc
  rw [hE]
  obtain ⟨d0,d1,d2,d3,df,hyl⟩:=state_cells HY4.out
  have CK:=ghid (machCheck_any _ x w4 yb HST4.out (by omega))
  rw [←hc] at CK
  clear hE hc
  go_wp2_with fail
  refine CK.out.mono ?_
  rintro e w5 ⟨rfl,hb5⟩
  have HX5:Hid (w5.heap[w.heap.size]?=_):=(hb5.block _ (by omega)).trans HX4.out
  have HY5:Hid (w5.heap[yb]?=_):=(hb5.block _ (by omega)).trans HY4.out
  have HB5:=ghid (HB4.out.trans (hb5.mono HB4.out.size))
  have HST5:=ghid (HST4.out.below hb5 (by omega))
  have hz5:=hb5.size
  have HN5:=ghid (HN4.out.touch (TouchG.of_below hb5 (Nat.le_refl _) (fun _=>False)) (fun _ _ h=>h.elim))
  obtain ⟨c0,c1,c2,c3,cf,-⟩:=state_cells HX5.out
  obtain ⟨d0,d1,d2,d3,df,hyl⟩:=state_cells HY5.out
  clear hb5 CK
  by_cases hc0:c=0
  ·subst hc0
   have HY:=ghid (HY0.out rfl)
   go_wp2
   refine bodyPost_ret (v:=.tuple #[.agg #[.int .i64 x.index,.slice lo x.locks.length lc,.slice po x.pairs.length pc,.slice so x.sess.length sc],.int .i64 0]) (by simp [results,Tryz.results29,go_sem,c0,c1,c2,c3]) rfl ?_
   refine ⟨_,rfl,?_,zbelow4 HB5.out (Nat.le_refl _) _ _ _ _⟩
   rw [HY.out]
   exact (HN5.out.touch (rtouchz4 (TouchG.refl w5 (fun k=>k=w.heap.size)) (.inl rfl) _ _ _ _) (fun k _ h=>by omega)).mono (by omega)
  ·have HY:=ghid (HY1.out hc0)
   have hcb:(c != 0)=true:=by simpa using hc0
   clear hc0
   go_wp2
   refine bodyPost_ret (v:=.tuple #[.agg #[.int .i64 0,.slice none 0 0,.slice none 0 0,.slice none 0 0],.int .i64 c]) (by simp [results,Tryz.results29,go_sem,c0,c1,c2,c3]) rfl ?_
   exact ⟨_,rfl,by rw [HY.out];exact NewR.of _ _ fun _=>state_nil _ _,zbelow4 HB5.out (Nat.le_refl _) _ _ _ _⟩
 ·rw [if_pos hE] at hc
  rw [←hc] at hE ⊢
  have HY:=ghid (HY1.out hE)
  have hcb:(c != 0)=true:=by simpa using hE
  obtain ⟨c0,c1,c2,c3,cf,-⟩:=state_cells HX4.out
  clear hE hc
  go_wp2
  refine bodyPost_ret (v:=.tuple #[.agg #[.int .i64 0,.slice none 0 0,.slice none 0 0,.slice none 0 0],.int .i64 c]) (by simp [results,Tryz.results29,go_sem,c0,c1,c2,c3]) rfl ?_
  exact ⟨_,rfl,by rw [HY.out];exact NewR.of _ _ fun _=>state_nil _ _,zbelow4 HB4.out (Nat.le_refl _) _ _ _ _⟩
theorem decode_new (t:ByteArray) (w:World) (ht:t.size≤140737488351232) :
  Calls Tryz.prog 29 #[.string t] w fun e w'=>∃ v',e=.returned (.tuple #[v',.int .i64 (snapE t)])∧NewR w.heap.size w' (fun u=>StateR u u.heap.size v' (snapL t))∧Below w.heap.size w w':=by
 by_cases h1:5000 < t.size
 ·have e1:snapE t=1:=by unfold snapE;rw [if_pos h1]
  have e2:snapL t=⟨0,[],[],[]⟩:=by unfold snapL;rw [if_neg (by rw [e1];decide)]
  rw [e1,e2]
  refine (decode_unsealed t 1 w (by decide) (fun u=>unseal_long t u ht h1)).mono ?_
  rintro e w' ⟨rfl,hb⟩
  exact ⟨_,rfl,NewR.of _ _ fun _=>state_nil _ _,hb⟩
 ·by_cases h2:t.size < 4
  ·have e1:snapE t=5:=by unfold snapE;rw [if_neg h1,if_pos h2]
   have e2:snapL t=⟨0,[],[],[]⟩:=by unfold snapL;rw [if_neg (by rw [e1];decide)]
   rw [e1,e2]
   refine (decode_unsealed t 5 w (by decide) (fun u=>unseal_short t u h2)).mono ?_
   rintro e w' ⟨rfl,hb⟩
   exact ⟨_,rfl,NewR.of _ _ fun _=>state_nil _ _,hb⟩
  ·by_cases h3:sealOut (t.extract 0 (t.size - 4))=t.extract (t.size - 4) t.size
   ·have e1:snapE t=if endE (snapR (t.extract 0 (t.size - 4),0)).2≠0 then endE (snapR (t.extract 0 (t.size - 4),0)).2 else checkM (snapR (t.extract 0 (t.size - 4),0)).1:=by
     unfold snapE;rw [if_neg h1,if_neg h2,if_neg (fun h=>h h3)]
    exact decode_read t (t.extract 0 (t.size - 4)) w (by rw [ByteArray.size_extract];omega) (fun u=>unseal_ok t u (by omega) (by omega) h3) (snapE t) e1
   ·have e1:snapE t=15:=by unfold snapE;rw [if_neg h1,if_neg h2,if_pos h3]
    have e2:snapL t=⟨0,[],[],[]⟩:=by unfold snapL;rw [if_neg (by rw [e1];decide)]
    rw [e1,e2]
    refine (decode_unsealed t 15 w (by decide) (fun u=>unseal_sum t u (by omega) (by omega) h3)).mono ?_
    rintro e w' ⟨rfl,hb⟩
    exact ⟨_,rfl,NewR.of _ _ fun _=>state_nil _ _,hb⟩
theorem decode_s (t:ByteArray) (w:World) (ht:t.size≤140737488351232) :
  Calls Tryz.prog 29 #[.string t] w fun e w'=>∃ v',e=.returned (.tuple #[v',.int .i64 (snapE t)])∧StateR w' w'.heap.size v' (snapL t)∧Below w.heap.size w w' :=
 (decode_new t w ht).mono fun _ _ ⟨v',e,h1,h2⟩=>⟨v',e,h1.now,h2⟩
end Go.Proofs.YtbmfahgekcnkaajGreatDoor
namespace Go.Proofs.YtbmfahgekcnkaajGreatDoor
open Go.RowKit
theorem str_nil (s:ByteArray):s.toList.isEmpty=decide (s=⟨#[]⟩):=by
 by_cases h:s=⟨#[]⟩
 ·subst h
  rw [ByteArray.toList_eq]
  rfl
 ·rw [decide_eq_false h]
  exact rs_str_ne fun e=>h (by cases s with | mk d=>congr 1;exact Array.eq_empty_of_size_eq_zero e)
set_option maxRecDepth 100000 in
set_option maxHeartbeats 1600000 in
theorem tells_any (s:ByteArray) (base:Int) (w:World) (hs:s.size≤140737488351232) :
  Calls Tryz.prog 34 #[.string s,.int .i64 base] w fun e w'=>e=.returned (.bool (tellsB s base))∧Below w.heap.size w w':=by
 by_cases hb:base=0
 ·subst hb
  have HT:Hid (tellsB s 0=decide (s=⟨#[]⟩)):=if_pos rfl
  rw [HT.out]
  go_enter Tryz.func34,Tryz.ntmps34
  go_wp2
  go_ret
  exact ⟨by rw [str_nil];rfl,Below.refl _ _⟩
 ·have HT:Hid (tellsB s base=decide (snapE s=0∧(snapL s).index=base)):=if_neg hb
  rw [HT.out]
  have hbb:(base == 0)=false:=by simpa using hb
  have CD:=ghid (decode_s s w hs)
  obtain ⟨x,hx⟩:∃ x,x=snapL s:=⟨_,rfl⟩
  obtain ⟨c,hc⟩:∃ c,c=snapE s:=⟨_,rfl⟩
  rw [←hx,←hc] at CD ⊢
  clear hb HT hx hc
  go_enter Tryz.func34,Tryz.ntmps34
  go_wp2_with fail
  refine CD.out.mono ?_
  rintro e w1 ⟨v1,rfl,hr1,hb1⟩
  obtain ⟨lo,ln,lc,po,pn,pc,so,sn,sc,rfl⟩:=hr1.shape
  have HB1:=ghid (hb1.alloc hb1.size (.cells #[.int .i64 x.index,.slice lo ln lc,.slice po pn pc,.slice so sn sc] 34))
  clear hr1 hb1 CD
  by_cases hc:c=0
  ·subst hc
   go_wp2
   go_ret
   exact ⟨by simp;rfl,HB1.out⟩
  ·have hcb:(c == 0)=false:=by simpa using hc
   go_wp2
   go_ret
   exact ⟨by simp [hc],HB1.out⟩
set_option maxRecDepth 100000 in
set_option maxHeartbeats 1600000 in
theorem repCheck_ok (v:Value) (r:RepD) (w:World) (B:Nat) (hv:RepR w B v r) (hB:B≤w.heap.size) (hr:repE r=0) :
  Calls Tryz.prog 13 #[v] w fun e w'=>e=.returned (.int .i64 0)∧Below w.heap.size w w':=by
 obtain ⟨k1,k2,⟨k3,k4⟩,k5⟩:=repE_zero hr
 obtain ⟨⟨l1,l2,l3⟩,-⟩:=logE_zero k1
 obtain ⟨eo,lo,po,so,ec,ln,lc,pn,pc,sn,sc,rfl,hl,hs,hst⟩:=hv.parts
 have hb0:Below w.heap.size w (w.alloc (.cells #[.int .i64 r.log.base,.slice eo r.log.ents.length ec,.string r.snap,.int .i64 r.state.index,.slice lo ln lc,.slice po pn pc,.slice so sn sc] 36)):=(Below.refl _ _).alloc (Nat.le_refl _) _
 have hx0:=heap_alloc_new w (.cells #[.int .i64 r.log.base,.slice eo r.log.ents.length ec,.string r.snap,.int .i64 r.state.index,.slice lo ln lc,.slice po pn pc,.slice so sn sc] 36)
 have CL:=ghid (logCheck_any _ r.log _ B (hl.below hb0 hB) (by have:=hb0.size;omega))
 have CM:=ghid (fun u (hu:Below w.heap.size w u)=>machCheck_any _ r.state u B (hst.below hu hB) (by have:=hu.size;omega))
 have CA:=ghid (fun u=>last_raw r.log.base eo r.log.ents.length ec u ⟨l1,l2,l3⟩)
 have CT:=ghid (fun u=>tells_any r.snap r.log.base u hs)
 unfold lastL at k4
 rw [k1] at CL
 rw [k2] at CM
 rw [k5] at CT
 obtain ⟨⟨base,ts⟩,sp,⟨ix,ks,ps,ss⟩⟩:=r
 simp only at CL CM CA CT hb0 hx0 k3 k4 ⊢
 obtain ⟨n,hn⟩:∃ n,n=ts.length:=⟨_,rfl⟩
 rw [←hn] at CL CA hb0 hx0 k4 ⊢
 have HB0:=ghid hb0
 have HX0:=ghid hx0
 have hd2:decide (ix < base)=false:=decide_eq_false (by omega)
 have hd3:decide (base+(n:Int) < ix)=false:=decide_eq_false (by omega)
 clear hl hs hst hb0 hx0 hv hr k1 k2 k5 hn l3
 go_enter Tryz.func13,Tryz.ntmps13
 go_wp2_with fail
 refine CL.out.mono ?_
 rintro e w1 ⟨rfl,hb1⟩
 have HB1:=ghid (HB0.out.trans (hb1.mono HB0.out.size))
 have HX1:=ghid (behind HX0.out (Below.refl _ _) hb1)
 obtain ⟨c0,c1,c2,c3,c4,c5,c6,cf,hpl⟩:=seven_cells HX1.out
 clear hb1 CL
 go_wp2_with fail
 refine (CM.out _ HB1.out).mono ?_
 rintro e w2 ⟨rfl,hb2⟩
 have HB2:=ghid (HB1.out.trans (hb2.mono HB1.out.size))
 have HX2:=ghid (behind HX1.out (Below.refl _ _) hb2)
 clear hb2 CM c0 c1 c2 c3 c4 c5 c6 cf hpl
 obtain ⟨c0,c1,c2,c3,c4,c5,c6,cf,hpl⟩:=seven_cells HX2.out
 go_wp2
 go_region_held3 (fun w'=>w'.cell? ⟨w.heap.size,0,none⟩=some (.int .i64 base)∧w'.cell? ⟨w.heap.size,1,none⟩=some (.slice eo n ec)∧w'.cell? ⟨w.heap.size,2,none⟩=some (.string sp)∧w'.cell? ⟨w.heap.size,3,none⟩=some (.int .i64 ix)) (go_keep)
  (first
   | (go_at_call 33;refine (CA.out _).mono ?_;rintro e w3 ⟨rfl,hb3⟩;have HB3:=ghid (HB2.out.trans (((Below.refl _ _).drew.trans (hb3.mono (by simp))).mono HB2.out.size));have HX3:=ghid (behind HX2.out ((Below.refl _ _).drew) hb3);obtain ⟨c0,c1,c2,c3,c4,c5,c6,cf,hpl⟩:=seven_cells HX3.out)
   | (go_at_call 34;refine (CT.out _).mono ?_;rintro e w4 ⟨rfl,hb4⟩;have HB4:=ghid (HB3.out.trans (hb4.mono HB3.out.size));obtain ⟨c0,c1,c2,c3,c4,c5,c6,cf,hpl⟩:=seven_cells (behind HX3.out (Below.refl _ _) hb4)))
 go_wp2
 go_ret
 exact ⟨rfl,HB4.out⟩
end Go.Proofs.YtbmfahgekcnkaajGreatDoor
namespace Go.Proofs.YtbmfahgekcnkaajGreatDoor
open Go.RowKit
set_option maxRecDepth 100000 in
set_option maxHeartbeats 1600000 in
theorem equalTexts_any (v u:Value) (ps qs:List ByteArray) (w:World) (B B':Nat) (hv:TextsR w B v ps) (hu:TextsR w B' u qs) :
  Calls Tryz.prog 44 #[v,u] w fun e w'=>e=.returned (.bool (decide (ps=qs)))∧∃ n,w'=w.drewN n:=by
 obtain ⟨ao,cap,rfl,h1,h2,h3,h4⟩:=hv
 obtain ⟨au,cau,rfl,g1,g2,g3,g4⟩:=hu
 by_cases hl:ps.length=qs.length
 ·have HL:=ghid hl
  obtain ⟨n,hn⟩:∃ n,n=ps.length:=⟨_,rfl⟩
  have HN:=ghid hn
  rw [←hn] at hl
  rw [←hl] at g1 g2 g4 ⊢
  rw [←hn] at h1 h2 h4 ⊢
  have HQ:Hid (qs.length=n):=hl.symm
  clear hl hn
  go_enter Tryz.func44,Tryz.ntmps44
  go_wp2
  go_loopw [13] (fun i wr=>∃ k m:Nat,k≤n∧i=.int .i64 k∧ps.take k=qs.take k∧wr=w.drewN m) (fun i _=>n - (intOf i).toNat)
  case atStart=>exact ⟨0,0,Nat.zero_le _,rfl,by simp,rfl⟩
  case round =>
   obtain ⟨k,m,hk,rfl,htk,rfl⟩:=hrel
   have HT:=ghid htk
   clear htk
   by_cases hlt:k < n
   ·obtain ⟨b,off,rfl,hb,hc⟩:=h4 (by omega)
    obtain ⟨b',off',rfl,hb',hc'⟩:=g4 (by omega)
    obtain ⟨x,hx⟩:∃ x,ps[k]?=some x:=⟨_,List.getElem?_eq_getElem (by have:=HN.out;omega)⟩
    obtain ⟨y,hy⟩:∃ y,qs[k]?=some y:=⟨_,List.getElem?_eq_getElem (by have:=HQ.out;omega)⟩
    obtain ⟨c0,-⟩:=hc k x hx
    obtain ⟨d0,-⟩:=hc' k y hy
    have HX:=ghid hx
    have HY:=ghid hy
    clear hx hy hc h4 hc' g4
    by_cases hxy:x=y
    ·subst hxy
     have HT2:Hid (ps.take (k+1)=qs.take (k+1)):=by
      unfold Hid
      rw [List.take_add_one,List.take_add_one,HX.out,HY.out,HT.out]
     go_wp2
     go_quiet (fail)
     go_wp2
     go_roundw
     case rel=>exact ⟨k+1,_,by omega,by go_num,HT2.out,rfl⟩
     case measure=>simp [intOf];omega
    ·have hne:(x.toList == y.toList)=false:=by
      rw [beq_eq_false_iff_ne]
      intro e
      rw [ByteArray.toList_eq,ByteArray.toList_eq] at e
      exact hxy (ByteArray.ext (Array.toList_inj.1 e))
     have HD:Hid (decide (ps=qs)=false):=by
      unfold Hid
      rw [decide_eq_false_iff_not]
      intro e
      rw [e,HY.out] at HX
      have:=HX.out
      simp only [Option.some.injEq] at this
      exact hxy this.symm
     clear hxy
     go_wp2
     go_quiet (fail)
     go_wp2
     go_ret
     exact ⟨by rw [HD.out];rfl,m+nq,by rw [World.drewN_drewN]⟩
   ·have HD:Hid (decide (ps=qs)=true):=by
     unfold Hid
     rw [decide_eq_true_iff]
     have h:=HT.out
     rwa [List.take_of_length_le (by have:=HN.out;omega),List.take_of_length_le (by have:=HQ.out;omega)] at h
    go_wp2
    go_ret
    exact ⟨by rw [HD.out];rfl,m,rfl⟩
 ·have HD:Hid (decide (ps=qs)=false):=by
   unfold Hid
   rw [decide_eq_false_iff_not]
   intro e
   exact hl (congrArg List.length e)
  have hli:¬ ((ps.length:Int)=(qs.length:Int)):=by omega
  have hlb:((ps.length:Int) != (qs.length:Int))=true:=bne_iff_ne.2 hli
  clear hl
  go_enter Tryz.func44,Tryz.ntmps44
  go_wp2
  go_ret
  exact ⟨by rw [HD.out];rfl,0,rfl⟩
set_option maxRecDepth 100000 in
set_option maxHeartbeats 1600000 in
theorem beginsWith_any (v u:Value) (ts front:List ByteArray) (w:World) (B B':Nat) (hv:TextsR w B v ts) (hu:TextsR w B' u front) :
  Calls Tryz.prog 42 #[v,u] w fun e w'=>e=.returned (.bool (opens front ts))∧∃ n,w'=w.drewN n:=by
 obtain ⟨ao,cap,rfl⟩:=hv.slice
 obtain ⟨au,cau,rfl⟩:=hu.slice
 have hlen:=hv.len
 have hlen2:=hu.len
 have hcap:=hv.cap
 have hcap2:=hu.cap
 by_cases hl:front.length≤ts.length
 ·have HO:Hid (opens front ts=decide (ts.take front.length=front)):=by
   unfold Hid opens
   exact decide_eq_decide.2 ⟨Eq.symm,Eq.symm⟩
  have CE:=ghid (fun w (h1:TextsR w B (.slice ao front.length cap) (ts.take front.length)) (h2:TextsR w B' (.slice au front.length cau) front)=>equalTexts_any _ _ _ _ w B B' h1 h2)
  have HV:=ghid (hv.front hl)
  have HU:=ghid hu
  clear hv hu
  go_enter Tryz.func42,Tryz.ntmps42
  go_wp2_with fail
  refine (CE.out _ HV.out HU.out).mono ?_
  rintro e w1 ⟨rfl,n,rfl⟩
  go_wp2
  go_ret
  exact ⟨by rw [HO.out];rfl,n,rfl⟩
 ·have HO:Hid (opens front ts=false):=by
   unfold Hid opens
   rw [decide_eq_false_iff_not]
   intro e
   have:=congrArg List.length e
   rw [List.length_take] at this
   omega
  clear hv hu
  go_enter Tryz.func42,Tryz.ntmps42
  go_wp2
  go_ret
  exact ⟨by rw [HO.out];rfl,0,rfl⟩
theorem beginsWith_below (v u:Value) (ts front:List ByteArray) (w:World) (B B':Nat) (hv:TextsR w B v ts) (hu:TextsR w B' u front) :
  Calls Tryz.prog 42 #[v,u] w fun e w'=>e=.returned (.bool (opens front ts))∧Below w.heap.size w w' :=
 (beginsWith_any v u ts front w B B' hv hu).mono fun _ _ ⟨h,n,hw⟩=>⟨h,by subst hw;exact g_drewN_below _ _ _⟩
end Go.Proofs.YtbmfahgekcnkaajGreatDoor
namespace Go.Proofs.YtbmfahgekcnkaajGreatDoor
open Go.RowKit
theorem touchS4 {w:World} (p:Nat) (a0 a1 a2 a3:Value):TouchG w ((((w.setCell ⟨p,0,none⟩ a0).setCell ⟨p,1,none⟩ a1).setCell ⟨p,2,none⟩ a2).setCell ⟨p,3,none⟩ a3) (fun b=>b=p) :=
 ((((TouchG.refl w (fun b=>b=p)).setCell (a:=⟨p,0,none⟩) (Or.inl rfl) a0).setCell (a:=⟨p,1,none⟩) (Or.inl rfl) a1).setCell (a:=⟨p,2,none⟩) (Or.inl rfl) a2).setCell (a:=⟨p,3,none⟩) (Or.inl rfl) a3
set_option maxRecDepth 100000 in
set_option maxHeartbeats 1600000 in
theorem recall_any (s:ByteArray) (w:World) (hs:s.size≤140737488351232) :
  Calls Tryz.prog 27 #[.string s] w fun e w'=>∃ v',e=.returned (.tuple #[v',.int .i64 (recallE s)])∧NewR w.heap.size w' (fun u=>StateR u u.heap.size v' (recallL s))∧Below w.heap.size w w':=by
 have hb0:Below w.heap.size w (w.alloc (.cells #[.int .i64 0,.slice none 0 0,.slice none 0 0,.slice none 0 0] 34)):=(Below.refl _ _).alloc (Nat.le_refl _) _
 have hx0:=heap_alloc_new w (.cells #[.int .i64 0,.slice none 0 0,.slice none 0 0,.slice none 0 0] 34)
 have HB0:=ghid hb0
 have HX0:=ghid hx0
 by_cases hb:s=⟨#[]⟩
 ·subst hb
  have HT:Hid (recallE ⟨#[]⟩=0):=if_pos rfl
  have HL:Hid (recallL ⟨#[]⟩=.zero):=if_pos rfl
  rw [HT.out,HL.out]
  obtain ⟨c0,c1,c2,c3,cf,-⟩:=state_cells hx0
  clear hb0 hx0
  go_enter Tryz.func27,Tryz.ntmps27
  go_wp2
  refine bodyPost_ret (v:=.tuple #[.agg #[.int .i64 0,.slice none 0 0,.slice none 0 0,.slice none 0 0],.int .i64 0]) (by simp [results,Tryz.results27,go_sem,c0,c1,c2,c3]) rfl ?_
  exact ⟨_,rfl,NewR.of _ _ fun _=>state_nil _ _,HB0.out⟩
 ·have HT:Hid (recallE s=snapE s):=if_neg hb
  have HL:Hid (recallL s=snapL s):=if_neg hb
  rw [HT.out,HL.out]
  obtain ⟨x,hx⟩:∃ x,x=snapL s:=⟨_,rfl⟩
  obtain ⟨c,hc⟩:∃ c,c=snapE s:=⟨_,rfl⟩
  have hsb:s.toList.isEmpty=false:=by rw [str_nil,decide_eq_false hb]
  have CD:=ghid (decode_new s (w.alloc (.cells #[.int .i64 0,.slice none 0 0,.slice none 0 0,.slice none 0 0] 34)) hs)
  rw [←hx,←hc] at CD ⊢
  clear hb hb0 hx0 HT HL hx hc
  go_enter Tryz.func27,Tryz.ntmps27
  go_wp2_with fail
  refine CD.out.mono ?_
  rintro e w1 ⟨v1,rfl,hr1,hb1⟩
  obtain ⟨lo,ln,lc,po,pn,pc,so,sn,sc,rfl⟩:=hr1.now.shape
  have hx1:=behind HX0.out (Below.refl _ _) hb1
  obtain ⟨c0,c1,c2,c3,cf,-⟩:=state_cells hx1
  have HB1:=ghid (HB0.out.trans (hb1.mono HB0.out.size))
  have HR1:=ghid ((hr1.touch (touchS4 w.heap.size (.int .i64 x.index) (.slice lo ln lc) (.slice po pn pc) (.slice so sn sc)) (fun k _ e=>by rw [e];simp)).mono (Nat.le_of_lt (show w.heap.size < (w.alloc _).heap.size by simp)))
  clear hr1 hb1 CD hx1
  go_wp2
  refine bodyPost_ret (v:=.tuple #[.agg #[.int .i64 x.index,.slice lo ln lc,.slice po pn pc,.slice so sn sc],.int .i64 c]) (by simp [results,Tryz.results27,go_sem,c0,c1,c2,c3]) rfl ?_
  exact ⟨_,rfl,HR1.out,zbelow4 HB1.out (Nat.le_refl _) _ _ _ _⟩
set_option maxRecDepth 100000 in
set_option maxHeartbeats 1600000 in
theorem applied_rep (base ix:Int) (eo lo po so:Option Addr) (n ec ln lc pn pc sn sc:Nat) (s:ByteArray) (w:World) (h0:0≤base∧base≤ix∧ix≤base+n∧base≤1073741424∧n≤400∧n≤ec) (k:Nat) (hk:ix - base=k) :
  Calls Tryz.prog 18 #[.agg #[.int .i64 base,.slice eo n ec,.string s,.int .i64 ix,.slice lo ln lc,.slice po pn pc,.slice so sn sc]] w fun e w'=>e=.returned (.slice eo k ec)∧Below w.heap.size w w':=by
 obtain ⟨h1,h2,h3,h4,h5,h6⟩:=h0
 have HB0:Hid (Below w.heap.size w (w.alloc (.cells #[.int .i64 base,.slice eo n ec,.string s,.int .i64 ix,.slice lo ln lc,.slice po pn pc,.slice so sn sc] 36))):=(Below.refl _ _).alloc (Nat.le_refl _) _
 have hkt:(ix - base).toNat=k:=by omega
 have hkc:(k:Int)≤(ec:Int):=by omega
 go_enter Tryz.func18,Tryz.ntmps18
 go_wp2
 go_ret
 exact ⟨rfl,HB0.out⟩
set_option maxRecDepth 100000 in
set_option maxHeartbeats 1600000 in
theorem repBegins_any (v u:Value) (ts front:List ByteArray) (w:World) (B B':Nat) (hv:TextsR w B v ts) (hu:TextsR w B' u front) :
  Calls Tryz.prog 17 #[v,u] w fun e w'=>e=.returned (.bool (opens front ts))∧∃ n,w'=w.drewN n:=by
 obtain ⟨ao,cap,rfl⟩:=hv.slice
 obtain ⟨au,cau,rfl⟩:=hu.slice
 have hlen:=hv.len
 have hlen2:=hu.len
 have hcap:=hv.cap
 have hcap2:=hu.cap
 by_cases hl:front.length≤ts.length
 ·have HO:Hid (opens front ts=decide (ts.take front.length=front)):=by
   unfold Hid opens
   exact decide_eq_decide.2 ⟨Eq.symm,Eq.symm⟩
  have CE:=ghid (fun w (h1:TextsR w B (.slice ao front.length cap) (ts.take front.length)) (h2:TextsR w B' (.slice au front.length cau) front)=>equalTexts_any _ _ _ _ w B B' h1 h2)
  have HV:=ghid (hv.front hl)
  have HU:=ghid hu
  clear hv hu
  go_enter Tryz.func17,Tryz.ntmps17
  go_wp2_with fail
  refine (CE.out _ HV.out HU.out).mono ?_
  rintro e w1 ⟨rfl,n,rfl⟩
  go_wp2
  go_ret
  exact ⟨by rw [HO.out];rfl,n,rfl⟩
 ·have HO:Hid (opens front ts=false):=by
   unfold Hid opens
   rw [decide_eq_false_iff_not]
   intro e
   have:=congrArg List.length e
   rw [List.length_take] at this
   omega
  clear hv hu
  go_enter Tryz.func17,Tryz.ntmps17
  go_wp2
  go_ret
  exact ⟨by rw [HO.out];rfl,0,rfl⟩
theorem repBegins_below (v u:Value) (ts front:List ByteArray) (w:World) (B B':Nat) (hv:TextsR w B v ts) (hu:TextsR w B' u front) :
  Calls Tryz.prog 17 #[v,u] w fun e w'=>e=.returned (.bool (opens front ts))∧Below w.heap.size w w' :=
 (repBegins_any v u ts front w B B' hv hu).mono fun _ _ ⟨h,n,hw⟩=>⟨h,by subst hw;exact g_drewN_below _ _ _⟩
set_option maxRecDepth 100000 in
set_option maxHeartbeats 3200000 in
theorem toApply_any (v : Value) (r : RepD) (upto : Int) (w : World) (B : Nat) (hv : RepR w B v r) (hB : B ≤ w.heap.size) (hr : repE r = 0) :
    Calls Tryz.prog 22 #[v, .int .i64 upto] w fun e w' => ∃ vo vc, e = .returned (.slice vo (todoL r upto).length vc) ∧ TextsR w' B (.slice vo (todoL r upto).length vc) (todoL r upto) ∧ Below w.heap.size w w' := by
  obtain ⟨h1, -, ⟨h3, h4⟩, -⟩ := repE_zero hr
  obtain ⟨⟨hb0, hb1, hln⟩, -⟩ := logE_zero h1
  have hlen := todo_len hr upto
  have HD : Hid (todoL r upto = (r.log.ents.drop (r.state.index - r.log.base).toNat).take (min (max upto r.state.index) (lastL r.log) - r.state.index).toNat) := rfl
  obtain ⟨d, hd⟩ : ∃ d, d = (todoL r upto).length := ⟨_, rfl⟩
  rw [← hd] at hlen ⊢
  have HDN := ghid hd
  obtain ⟨td, htd⟩ : ∃ td, td = todoL r upto := ⟨_, rfl⟩
  rw [← htd] at HD HDN ⊢
  obtain ⟨eo, lo, po, so, ec, ln, lc, pn, pc, sn, sc, rfl, ht, -⟩ := hv
  obtain ⟨⟨base, ts⟩, sp, ⟨ix, ks, ps, ss⟩⟩ := r
  unfold lastL at hlen h4 HD
  simp only at ht hb0 hb1 hln h3 h4 hlen HD ⊢
  obtain ⟨n, hn⟩ : ∃ n, n = ts.length := ⟨_, rfl⟩
  have hec := ht.cap
  rw [← hn] at hlen h4 HD hec hln ⊢
  obtain ⟨k, hk⟩ : ∃ k : Nat, ix - base = k := ⟨(ix - base).toNat, by omega⟩
  obtain ⟨q, hq⟩ : ∃ q, min (max upto ix) (base + (n : Int)) = q := ⟨_, rfl⟩
  rw [hq] at hlen HD
  rw [show (ix - base).toNat = k by omega, show (q - ix).toNat = d by omega] at HD
  have hkn : k + d ≤ n := by omega
  have hk2 : q - base = ((k + d : Nat) : Int) := by omega
  have HT := ghid ht
  have HN := ghid hn
  have CA := ghid (fun u => last_raw base eo n ec u ⟨hb0, hb1, hln⟩)
  have hb00 : Below w.heap.size w (w.alloc (.cells #[.int .i64 base, .slice eo n ec, .string sp, .int .i64 ix, .slice lo ln lc, .slice po pn pc, .slice so sn sc] 36)) := (Below.refl _ _).alloc (Nat.le_refl _) _
  have HX0 := ghid (heap_alloc_new w (.cells #[.int .i64 base, .slice eo n ec, .string sp, .int .i64 ix, .slice lo ln lc, .slice po pn pc, .slice so sn sc] 36))
  have HB0 := ghid hb00
  have hdi : (k : Int) ≤ ((k + d : Nat) : Int) := by omega
  have HKN := ghid hkn
  have hde : ((k + d : Nat) : Int) ≤ (ec : Int) := by omega
  clear ht hn hlen hb00 hd htd h1 hr hkn
  go_enter Tryz.func22, Tryz.ntmps22
  go_wp2_with fail
  go_region_held3 (fun w' => w'.cell? ⟨w.heap.size, 0, none⟩ = some (.int .i64 base) ∧ w'.cell? ⟨w.heap.size, 1, none⟩ = some (.slice eo n ec) ∧ w'.cell? ⟨w.heap.size, 3, none⟩ = some (.int .i64 ix)) (go_keep)
    (first
      | (go_at_call 33; refine (CA.out _).mono ?_; rintro e w1 ⟨rfl, hb1⟩; have hb2 := HB0.out.trans (((Below.refl _ _).drew.trans (hb1.mono (by simp))).mono HB0.out.size); have hx1 := behind HX0.out ((Below.refl _ _).drew) hb1; obtain ⟨c0, c1, c2, c3, c4, c5, c6, cf, hpl⟩ := seven_cells hx1))
  all_goals
    have htl := (HT.out.below hb2 hB).tail (k := k) (by rw [← HN.out]; omega)
    rw [← HN.out] at htl
    have HTL := ghid htl
    clear hb1 hx1 htl CA
    go_wp2
  all_goals
    go_ret
    have hlk : d ≤ (ts.drop k).length := by rw [List.length_drop, ← HN.out]; have := HKN.out; omega
    exact ⟨_, _, rfl, by
      rw [HD.out]
      first
        | exact TextsR.front (HTL.out.1 (by assumption)) hlk
        | exact TextsR.front (HTL.out.2 (by assumption)) hlk, hb2⟩
set_option maxRecDepth 100000 in
set_option maxHeartbeats 1600000 in
theorem mailOf_any (t:ByteArray) (c n:Int) (x:ByteArray) (w:World) (ht:t.size≤140737488351232) :
  Calls Tryz.prog 24 #[.string t,.agg #[.int .i64 c,.int .i64 n,.string x]] w fun e w'=>e=.returned (.agg #[.int .i64 (decL t).client,.int .i64 (decL t).seq,.int .i64 c,.int .i64 n,.string x])∧Below w.heap.size w w':=by
 have HB0:Hid (Below w.heap.size w ((w.alloc (.cells #[.int .i64 c,.int .i64 n,.string x] 67)).alloc (.cells #[.int .i64 0,.int .i64 0,.int .i64 0,.int .i64 0,.string ⟨#[]⟩] 71))):=((Below.refl _ _).alloc (Nat.le_refl _) _).alloc (by simp) _
 have CD:=ghid (fun u=>decode_any t u ht)
 obtain ⟨y,hy⟩:∃ y,y=decL t:=⟨_,rfl⟩
 rw [←hy] at CD ⊢
 obtain ⟨xk,xc,xs,xq,xu,xo,xa,xb,xn⟩:=y
 simp only [cmdV] at CD ⊢
 obtain ⟨d,hd⟩:∃ d,d=decE t:=⟨_,rfl⟩
 rw [←hd] at CD
 clear hy hd
 go_enter Tryz.func24,Tryz.ntmps24
 go_wp2_with fail
 refine (CD.out _).mono ?_
 rintro e w1 ⟨rfl,hb1⟩
 obtain ⟨hx,hr,hbw⟩:=boxes7 (by simpa using hb1)
 obtain ⟨c0,c1,c2,cf,hpl⟩:=reply_cells hx
 obtain ⟨r0,r1,r2,r3,r4,rf,hrl⟩:=five_cells hr
 have HB1:=ghid hbw
 have hs:=set5 hr (.int .i64 xc) (.int .i64 xq) (.int .i64 c) (.int .i64 n) (.string x)
 have hba:=(zset5 hbw (Nat.le_succ _:w.heap.size≤w.heap.size+1) (.int .i64 xc) (.int .i64 xq) (.int .i64 c) (.int .i64 n) (.string x)).alloc (by have:=hbw.size;simpa using this) (.cells #[.int .i64 xk,.int .i64 xc,.int .i64 xs,.int .i64 xq,.int .i64 xu,.int .i64 xo,.string xa,.string xb,.int .i64 xn] 51)
 have hsa:=behind hs (Below.refl _ _) ((Below.refl _ _).alloc (Nat.le_refl _) (.cells #[.int .i64 xk,.int .i64 xc,.int .i64 xs,.int .i64 xq,.int .i64 xu,.int .i64 xo,.string xa,.string xb,.int .i64 xn] 51))
 obtain ⟨q0,q1,q2,q3,q4,qf,ql⟩:=five_cells hsa
 have HBA:=ghid hba
 clear hb1 hx hr hbw CD hs hba hsa
 go_wp2
 refine bodyPost_ret (v:=.agg #[.int .i64 xc,.int .i64 xq,.int .i64 c,.int .i64 n,.string x]) (by simp [results,Tryz.results24,go_sem,q0,q1,q2,q3,q4]) rfl ?_
 exact ⟨rfl,HBA.out⟩
end Go.Proofs.YtbmfahgekcnkaajGreatDoor
namespace Go.Proofs.YtbmfahgekcnkaajGreatDoor
open Go.RowKit
set_option maxRecDepth 100000 in
set_option maxHeartbeats 1600000 in
theorem logCopy_own (v:Value) (l:LogD) (w:World) (B:Nat) (hv:LogR w B v l) (hB:B≤w.heap.size) :
  Calls Tryz.prog 28 #[v] w fun e w'=>∃ vo vc,e=.returned (.agg #[.int .i64 l.base,.slice vo l.ents.length vc])∧w'.ownsRow (w.heap.size+1) 9 1 (.slice vo l.ents.length vc) l.ents.length (textCells l.ents)∧Below w.heap.size w w':=by
 obtain ⟨eo,ec,rfl,ht⟩:=hv.shape
 obtain ⟨base,ts⟩:=l
 simp only at ht ⊢
 have hm:=ht.sizes
 have hln:=ht.len
 have hb0:Below w.heap.size w ((w.alloc (.cells #[.int .i64 base,.slice eo ts.length ec] 29)).alloc (.cells #[.int .i64 0,.slice none 0 0] 29)):=(((Below.refl _ _).alloc (Nat.le_refl _) _).alloc (by simp) _)
 have hL:=(ListsR.one (ht.below hb0 hB) (by have:=hb0.size;omega)).below (g_drewN_below _ _ 1) (Nat.le_refl _)
 have CJ:=join_own _ [ts] _ _ hL (by simp) (by simpa using hln) (by simpa using hm)
 have hb1:Below w.heap.size w (((w.alloc (.cells #[.int .i64 base,.slice eo ts.length ec] 29)).alloc (.cells #[.int .i64 0,.slice none 0 0] 29)).alloc (.cells #[.slice eo ts.length ec] 23)).drew:=(hb0.alloc (by simp;omega) _).drew
 have hX:(((w.alloc (.cells #[.int .i64 base,.slice eo ts.length ec] 29)).alloc (.cells #[.int .i64 0,.slice none 0 0] 29)).alloc (.cells #[.slice eo ts.length ec] 23)).drew.heap[w.heap.size]?=some (.cells #[.int .i64 base,.slice eo ts.length ec] 29 (0,0)):=by
  show (World.alloc _ _).heap[_]?=_
  rw [Below.heap_alloc _ _ _ (by simp;omega),Below.heap_alloc _ _ _ (by simp)]
  exact heap_alloc_new w _
 have hR:(((w.alloc (.cells #[.int .i64 base,.slice eo ts.length ec] 29)).alloc (.cells #[.int .i64 0,.slice none 0 0] 29)).alloc (.cells #[.slice eo ts.length ec] 23)).drew.heap[w.heap.size+1]?=some (.cells #[.int .i64 0,.slice none 0 0] 29 (0,0)):=by
  show (World.alloc _ _).heap[_]?=_
  rw [Below.heap_alloc _ _ _ (by simp)]
  have:=heap_alloc_new (w.alloc (.cells #[.int .i64 base,.slice eo ts.length ec] 29)) (.cells #[.int .i64 0,.slice none 0 0] 29)
  rw [show (w.alloc (.cells #[.int .i64 base,.slice eo ts.length ec] 29)).heap.size=w.heap.size+1 by simp] at this
  exact this
 obtain ⟨X,hXe⟩:∃ X,X=(((w.alloc (.cells #[.int .i64 base,.slice eo ts.length ec] 29)).alloc (.cells #[.int .i64 0,.slice none 0 0] 29)).alloc (.cells #[.slice eo ts.length ec] 23)).drew:=⟨_,rfl⟩
 have hXs:X.heap.size=w.heap.size+3:=by rw [hXe];simp
 have ea:((w.alloc (.cells #[.int .i64 base,.slice eo ts.length ec] 29)).alloc (.cells #[.int .i64 0,.slice none 0 0] 29)).heap.size=w.heap.size+1+1:=by simp
 have CJ2:Hid (Calls Tryz.prog 43 #[.slice (some ⟨w.heap.size+1+1,0,none⟩) 1 1] (((w.alloc (.cells #[.int .i64 base,.slice eo ts.length ec] 29)).alloc (.cells #[.int .i64 0,.slice none 0 0] 29)).alloc (.cells #[.slice eo ts.length ec] 23)).drew fun e w'=>∃ vo vc,e=.returned (.slice vo ts.length vc)∧w'.ownsRow (w.heap.size+3) 9 1 (.slice vo ts.length vc) ts.length (textCells ts)∧Below w.heap.size w w'∧w'.heap[w.heap.size]?=some (.cells #[.int .i64 base,.slice eo ts.length ec] 29 (0,0))∧w'.heap[w.heap.size+1]?=some (.cells #[.int .i64 0,.slice none 0 0] 29 (0,0))):=by
  rw [ea] at CJ
  have e1:World.drewN ((w.alloc (.cells #[.int .i64 base,.slice eo ts.length ec] 29)).alloc (.cells #[.int .i64 0,.slice none 0 0] 29) |>.alloc (.cells #[.slice eo ts.length ec] 23)) 1=X:=hXe.symm
  rw [e1] at CJ
  rw [←hXe] at hb1 hX hR ⊢
  refine CJ.mono ?_
  rintro e w' ⟨vo,rfl,hown,hb⟩
  simp only [List.flatten_cons,List.flatten_nil,List.append_nil] at hown
  obtain ⟨vo,vc,rfl⟩:=grow_shape hown
  exact ⟨vo,vc,rfl,grow_mono hown (by omega),hb1.trans (hb.mono (by omega)),(hb.block _ (by omega)).trans hX,(hb.block _ (by omega)).trans hR⟩
 clear hv ht hb0 hX hR hm hln hL hb1 ea CJ hXe hXs
 go_enter Tryz.func28,Tryz.ntmps28
 go_wp2_with fail
 go_region_held3 (fun w'=>w'.cell? ⟨w.heap.size,0,none⟩=some (.int .i64 base)∧w'.cell? ⟨w.heap.size,1,none⟩=some (.slice eo ts.length ec)) (go_keep)
  (first
   | (go_at_call 43;refine CJ2.out.mono ?_;rintro e w1 ⟨vo,vc,rfl,hown1,hb1,hbx,hrx⟩;obtain ⟨b0,b1,bf,bl⟩:=two_free hbx;obtain ⟨z0,z1,zf,zl⟩:=two_free hrx))
 have HR1:=ghid (grow_mono (zset2_row (b:=w.heap.size+1) hown1 (by omega) (.int .i64 base) (.slice vo ts.length vc)) (by omega:w.heap.size+1≤w.heap.size+3))
 have HB1:=ghid (zset2 (b:=w.heap.size+1) hb1 (by omega) (.int .i64 base) (.slice vo ts.length vc))
 clear hown1 hb1 hbx hrx
 go_wp2
 refine bodyPost_ret (v:=.agg #[.int .i64 base,.slice vo ts.length vc]) (by simp [results,Tryz.results28,go_sem,z0,z1]) rfl ?_
 exact ⟨_,_,rfl,HR1.out,HB1.out⟩
end Go.Proofs.YtbmfahgekcnkaajGreatDoor
namespace Go.Proofs.YtbmfahgekcnkaajGreatDoor
open Go.RowKit
theorem logCopy_new (v:Value) (l:LogD) (w:World) (B:Nat) (hv:LogR w B v l) (hB:B≤w.heap.size) :
  Calls Tryz.prog 28 #[v] w fun e w'=>∃ vo vc,e=.returned (.agg #[.int .i64 l.base,.slice vo l.ents.length vc])∧TextsO w' (w.heap.size+1) (.slice vo l.ents.length vc) l.ents∧Below w.heap.size w w':=by
 obtain ⟨ev,-,ht⟩:=id hv
 refine (logCopy_own v l w B hv hB).mono ?_
 rintro e w' ⟨vo,vc,rfl,hown,hb⟩
 exact ⟨vo,vc,rfl,⟨hown,ht.sizes,ht.len⟩,hb⟩
theorem machCopy_own (v:Value) (s:StateD) (w:World) (B:Nat) (hv:StateR w B v s) (hB:B≤w.heap.size) :
  Calls Tryz.prog 20 #[v] w fun e w'=>∃ lo po so ln lc pn pc sn sc,e=.returned (.agg #[.int .i64 s.index,.slice lo ln lc,.slice po pn pc,.slice so sn sc])∧StateO w' (.agg #[.int .i64 s.index,.slice lo ln lc,.slice po pn pc,.slice so sn sc]) s∧Below w.heap.size w w' :=
 (machCopy_any v s w B hv hB).mono fun _ _ ⟨lo,po,so,ln,lc,pn,pc,sn,sc,e,h1,h2,h3,hb⟩=>⟨lo,po,so,ln,lc,pn,pc,sn,sc,e,⟨lo,po,so,ln,lc,pn,pc,sn,sc,rfl,h1,h2,h3⟩,hb⟩
set_option maxRecDepth 100000 in
set_option maxHeartbeats 1600000 in
theorem repCopy_own (v:Value) (r:RepD) (w:World) (B:Nat) (hv:RepR w B v r) (hB:B≤w.heap.size) :
  Calls Tryz.prog 21 #[v] w fun e w'=>∃ v',e=.returned v'∧RepO w' w.heap.size v' r∧Below w.heap.size w w':=by
 obtain ⟨eo,lo,po,so,ec,ln,lc,pn,pc,sn,sc,rfl,hl,hs,hst⟩:=hv.parts
 obtain ⟨⟨base,ts⟩,sp,s⟩:=r
 simp only at hl hs hst ⊢
 obtain ⟨ix,hix⟩:∃ ix,ix=s.index:=⟨_,rfl⟩
 obtain ⟨n,hn⟩:∃ n,n=ts.length:=⟨_,rfl⟩
 have HZ:Hid (Below w.heap.size w ((w.alloc (.cells #[.int .i64 base,.slice eo n ec,.string sp,.int .i64 ix,.slice lo ln lc,.slice po pn pc,.slice so sn sc] 36)).alloc (.cells #[.int .i64 0,.slice none 0 0,.string ⟨#[]⟩,.int .i64 0,.slice none 0 0,.slice none 0 0,.slice none 0 0] 36)).drew):=(((Below.refl _ _).alloc (Nat.le_refl _) _).alloc (by simp) _).drew
 have CL:=ghid (fun u (hu:Below w.heap.size w u)=>logCopy_new _ ⟨base,ts⟩ u B (hl.below hu hB) (by have:=hu.size;omega))
 have CM:=ghid (fun u (hu:Below w.heap.size w u)=>machCopy_own _ s u B (hst.below hu hB) (by have:=hu.size;omega))
 have CS:=ghid (fun u=>clone_any sp u (by omega))
 have HS:=ghid hs
 simp only at CL
 rw [←hn] at CL ⊢
 rw [←hix] at CM ⊢
 have HN:=ghid hn
 have HI:=ghid hix
 obtain ⟨hr0,hx0⟩:=two_new (w:=w) (A:=.cells #[.int .i64 base,.slice eo n ec,.string sp,.int .i64 ix,.slice lo ln lc,.slice po pn pc,.slice so sn sc] 36) (R:=.cells #[.int .i64 0,.slice none 0 0,.string ⟨#[]⟩,.int .i64 0,.slice none 0 0,.slice none 0 0,.slice none 0 0] 36) (Below.refl _ _)
 have HX0:=ghid hx0
 have HR0:=ghid hr0
 have HZS:Hid (((w.alloc (.cells #[.int .i64 base,.slice eo n ec,.string sp,.int .i64 ix,.slice lo ln lc,.slice po pn pc,.slice so sn sc] 36)).alloc (.cells #[.int .i64 0,.slice none 0 0,.string ⟨#[]⟩,.int .i64 0,.slice none 0 0,.slice none 0 0,.slice none 0 0] 36)).drew.heap.size=w.heap.size+2):=by unfold Hid;simp
 clear hl hs hst hv hn hix hx0 hr0
 go_enter Tryz.func21,Tryz.ntmps21
 go_wp2_with fail
 go_region_held3 (fun w'=>w'.cell? ⟨w.heap.size,0,none⟩=some (.int .i64 base)∧w'.cell? ⟨w.heap.size,1,none⟩=some (.slice eo n ec)∧w'.cell? ⟨w.heap.size,2,none⟩=some (.string sp)∧w'.cell? ⟨w.heap.size,3,none⟩=some (.int .i64 ix)∧w'.cell? ⟨w.heap.size,4,none⟩=some (.slice lo ln lc)∧w'.cell? ⟨w.heap.size,5,none⟩=some (.slice po pn pc)∧w'.cell? ⟨w.heap.size,6,none⟩=some (.slice so sn sc)) (go_keep)
  (first
   | (go_at_call 28;refine (CL.out _ HZ.out).mono ?_;rintro e w1 ⟨vo,vc,rfl,ho1,hb1⟩;have HB1:=ghid (HZ.out.trans (hb1.mono HZ.out.size));have HO1:=ghid ho1;have HX1:=ghid (behind HX0.out (Below.refl _ _) hb1);have HR1:=ghid (behind HR0.out (Below.refl _ _) hb1);have hzz:=hb1.size;have hz1:w.heap.size+2≤w1.heap.size:=HZS.out ▸ hzz;clear hzz hb1 ho1;obtain ⟨c0,c1,c2,c3,c4,c5,c6,cf,hpl⟩:=seven_cells HX1.out)
   | (go_at_call 19;refine (CS.out _).mono ?_;rintro e w2 ⟨rfl,hb2⟩;have HB2:=ghid (HB1.out.trans (hb2.mono HB1.out.size));have HO2:=ghid (HO1.out.touch (TouchG.of_below hb2 (Nat.le_refl _) (fun _=>False)) (fun _ _ h=>h.elim));have HX2:=ghid (behind HX1.out (Below.refl _ _) hb2);have HR2:=ghid (behind HR1.out (Below.refl _ _) hb2);have hz2:=hb2.size;clear hb2;obtain ⟨c0,c1,c2,c3,c4,c5,c6,cf,hpl⟩:=seven_cells HX2.out)
   | (go_at_call 20;refine (CM.out _ HB2.out).mono ?_;rintro e w3 ⟨lo3,po3,so3,ln3,lc3,pn3,pc3,sn3,sc3,rfl,hs3,hb3⟩;have HB3:=ghid (HB2.out.trans (hb3.mono HB2.out.size));have HO3:=ghid (HO2.out.touch (TouchG.of_below hb3 (Nat.le_refl _) (fun _=>False)) (fun _ _ h=>h.elim));have HS3:=ghid hs3;have HR3:=ghid (behind HR2.out (Below.refl _ _) hb3);obtain ⟨c0,c1,c2,c3,c4,c5,c6,cf,hpl⟩:=seven_cells (behind HX2.out (Below.refl _ _) hb3);clear hb3 hs3;obtain ⟨r0,r1,r2,r3,r4,r5,r6,rf,rl⟩:=seven_cells HR3.out))
 all_goals
  have HF:=ghid (RepO.made (m:=w.heap.size) (base:=base) HO3.out HN.out HS.out HS3.out HI.out HR3.out (by rw [HZS.out];omega))
  have HB:=ghid (zset7 (b:=w.heap.size+1) HB3.out (by omega) (.int .i64 base) (.slice vo n vc) (.string sp) (.int .i64 ix) (.slice lo3 ln3 lc3) (.slice po3 pn3 pc3) (.slice so3 sn3 sc3))
  clear HO3 HS3 HR3 HB3 HR1 HX1 HR2 HX2 c0 c1 c2 c3 c4 c5 c6 cf hpl
  go_wp2
  refine bodyPost_ret (v:=.agg #[.int .i64 base,.slice vo n vc,.string sp,.int .i64 ix,.slice lo3 ln3 lc3,.slice po3 pn3 pc3,.slice so3 sn3 sc3]) (by simp [results,Tryz.results21,go_sem,r0,r1,r2,r3,r4,r5,r6]) rfl ?_
  exact ⟨_,rfl,HF.out,HB.out⟩
end Go.Proofs.YtbmfahgekcnkaajGreatDoor
namespace Go.Proofs.YtbmfahgekcnkaajGreatDoor
open Go.RowKit
def mailCells (m:MailD):List Value:=[.int .i64 m.client,.int .i64 m.seq,.int .i64 m.reply.code,.int .i64 m.reply.n,.string m.reply.text]
theorem mailCells_one (m:MailD):∀ v∈mailCells m,v.oneCell'=true:=by
 intro v hv
 simp only [mailCells,List.mem_cons,List.not_mem_nil,or_false] at hv
 rcases hv with rfl | rfl | rfl | rfl | rfl <;> rfl
theorem Tryz.infoMail:(Tryz.prog.info? 71).map (fun i=>(i.zero,i.size,i.bytes))=some (some (.agg #[.int .i64 0,.int .i64 0,.int .i64 0,.int .i64 0,.string ⟨#[]⟩]),5,48):=by kernel_rfl
theorem mailsE_snoc (s:StateD) (ts:List ByteArray) (t:ByteArray):mailsE s (ts++[t])=mailsE s ts++[⟨(decL t).client,(decL t).seq,(applyM (runE s ts) (decL t)).2⟩]:=by
 induction ts generalizing s with
 | nil=>rfl
 | cons u r ih =>
  show (⟨_,_,_⟩:MailD) :: mailsE _ (r++[t])=_
  rw [ih]
  rfl
theorem mailsE_length (s:StateD) (ts:List ByteArray):(mailsE s ts).length=ts.length:=by
 induction ts generalizing s with
 | nil=>rfl
 | cons u r ih=>simp [mailsE,ih]
theorem runE_good {s:StateD} {ts:List ByteArray} (h:GoodM s) (hd:∀ t∈ts,decE t=0) (hl:s.index+ts.length≤1073741824) (k:Nat) (hk:k≤ts.length):GoodM (runE s (ts.take k))∧(runE s (ts.take k)).index=s.index+k:=by
 induction k with
 | zero=>exact ⟨h,by simp [runE]⟩
 | succ k ih =>
  obtain ⟨h1,h2⟩:=ih (by omega)
  have hlt:k < ts.length:=by omega
  rw [List.take_succ_eq_append_getElem hlt,runE_append]
  obtain ⟨g1,-⟩:=applyM_good h1 (by rw [h2];omega) (decL_err (hd ts[k] (List.getElem_mem hlt)))
  exact ⟨g1,by show (applyM _ _).1.index=_;rw [applyM_index,h2];omega⟩
def RepB (w:World) (p n:Nat) (r:RepD):Prop :=
 ∃ (eo lo po so:Option Addr) (ec ln lc pn pc sn sc:Nat),w.heap[p]?=some (.cells #[.int .i64 r.log.base,.slice eo r.log.ents.length ec,.string r.snap,.int .i64 r.state.index,.slice lo ln lc,.slice po pn pc,.slice so sn sc] 36 (0,0)) ∧
  TextsO w n (.slice eo r.log.ents.length ec) r.log.ents∧r.snap.size≤140737488351232∧StateO w (.agg #[.int .i64 r.state.index,.slice lo ln lc,.slice po pn pc,.slice so sn sc]) r.state
theorem RepB.touch {w w':World} {p n:Nat} {r:RepD} {S:Nat→Prop} (h:RepB w p n r) (ht:TouchG w w' S) (hp:¬ S p) (hf:∀ g,g < w.heap.size→S g→Alien w g):RepB w' p n r:=by
 obtain ⟨eo,lo,po,so,ec,ln,lc,pn,pc,sn,sc,h0,h1,h2,h3⟩:=h
 exact ⟨eo,lo,po,so,ec,ln,lc,pn,pc,sn,sc,(ht.block p (Array.getElem?_eq_some_iff.1 h0).1 hp).trans h0,h1.touch ht hf,h2,h3.touch ht fun g hg hs=>(hf g hg hs).foreign⟩
theorem RepB.below {w w':World} {p n:Nat} {r:RepD} (h:RepB w p n r) (hb:Below w.heap.size w w'):RepB w' p n r :=
 h.touch (TouchG.of_below hb (Nat.le_refl _) (fun _=>False)) (fun h=>h) (fun _ _ h=>h.elim)
theorem RepB.lt {w:World} {p n:Nat} {r:RepD} (h:RepB w p n r):p < w.heap.size:=by
 obtain ⟨_,_,_,_,_,_,_,_,_,_,_,h,-⟩:=h
 exact (Array.getElem?_eq_some_iff.1 h).1
theorem RepB.put {w:World} {p n:Nat} {r:RepD} {s:StateD} {x0 x1 x2 x3:Value} (h:RepB w p n r) (ho:StateO w (.agg #[x0,x1,x2,x3]) s) :
  RepB ((((w.setCell ⟨p,3,none⟩ x0).setCell ⟨p,4,none⟩ x1).setCell ⟨p,5,none⟩ x2).setCell ⟨p,6,none⟩ x3) p n ⟨r.log,r.snap,s⟩:=by
 obtain ⟨eo,lo',po',so',ec,ln',lc',pn',pc',sn',sc',h0,h1,h2,-⟩:=h
 obtain ⟨lo,po,so,ln,lc,pn,pc,sn,sc,e,k⟩:=id ho
 simp only [Value.agg.injEq,Array.mk.injEq,List.cons.injEq,and_true] at e
 obtain ⟨rfl,rfl,rfl,rfl⟩:=e
 have ht:=((((TouchG.refl w (fun b=>b=p)).setCell (a:=⟨p,3,none⟩) (Or.inl rfl) (.int .i64 s.index)).setCell (a:=⟨p,4,none⟩) (Or.inl rfl) (.slice lo ln lc)).setCell (a:=⟨p,5,none⟩) (Or.inl rfl) (.slice po pn pc)).setCell (a:=⟨p,6,none⟩) (Or.inl rfl) (.slice so sn sc)
 have hf:∀ g,g < w.heap.size→g=p→Alien w g:=fun g _ e=>e ▸ rep_alien h0
 exact ⟨eo,lo,po,so,ec,ln,lc,pn,pc,sn,sc,by rw [heap_set (heap_set (heap_set (heap_set h0 _) _) _) _];rfl,h1.touch ht hf,h2,ho.touch ht fun g hg hs=>(hf g hg hs).foreign⟩
theorem RepO.mono {w:World} {n m:Nat} {v:Value} {r:RepD} (h:RepO w n v r) (hm:m≤n):RepO w m v r:=by
 obtain ⟨eo,lo,po,so,ec,ln,lc,pn,pc,sn,sc,rfl,h1,h2,h3⟩:=h
 exact ⟨eo,lo,po,so,ec,ln,lc,pn,pc,sn,sc,rfl,h1.mono hm,h2,h3⟩
theorem res_not_row {w:World} {base p k:Nat} {v:Value} {xs:List Value} {cs:Array Value} (h0:w.heap[p]?=some (.cells cs 36 (0,0))) (h:w.ownsRow base 71 5 v k xs):v.ownBlock≠some p:=fun hbk=>by
 rcases h.2 with ⟨e,_⟩ | ⟨g,cap,cur,e,_,hh,_⟩
 ·rw [e] at hbk;cases hbk
 ·rw [e] at hbk
  simp only [Value.ownBlock,Option.some.injEq] at hbk
  subst hbk
  rw [h0] at hh
  simp at hh
theorem rep_not_row {w:World} {base n p k:Nat} {v:Value} {xs:List Value} {r:RepD} (hp:RepB w p n r) (h:w.ownsRow base 71 5 v k xs):v.ownBlock≠some p:=fun hbk=>by
 obtain ⟨_,_,_,_,_,_,_,_,_,_,_,h0,-⟩:=hp
 exact res_not_row h0 h hbk
theorem row_rep {w w5 w6:World} {base n p:Nat} {v:Value} {k:Nat} {xs:List Value} {r:RepD} (h:w.ownsRow base 71 5 v k xs) (hp:RepB w p n r) (hb:Below w.heap.size w w5) (ht:TouchG w5 w6 (fun b=>b=p)):w6.ownsRow base 71 5 v k xs:=by
 have h5:=grow_below h hb (Nat.le_refl _)
 refine grow_keep h5 fun b hbk=>ht.block b (h5.lt b hbk).2 fun e=>?_
 subst e
 exact rep_not_row (hp.below hb) h5 hbk
set_option maxRecDepth 100000 in
set_option maxHeartbeats 6400000 in
theorem repApply_any (v:Value) (r:RepD) (upto:Int) (w:World) (B:Nat) (hv:RepR w B v r) (hB:B≤w.heap.size) (hr:repE r=0) (hu:0≤upto∧upto≤1073741824) :
  Calls Tryz.prog 8 #[v,.int .i64 upto] w fun e w'=>∃ v' mv,e=.returned (.tuple #[v',mv,.int .i64 0])∧RepO w' w.heap.size v' (goL r upto)∧w'.ownsRow w.heap.size 71 5 mv (goM r upto).length (flatG mailCells (goM r upto))∧Below w.heap.size w w':=by
 obtain ⟨i0,hi0,hz0,hz1,hz2⟩:=info_parts Tryz.infoMail
 obtain ⟨k1,k2,⟨k3,k4⟩,-⟩:=repE_zero hr
 obtain ⟨⟨l1,l2,l3⟩,lf⟩:=logE_zero k1
 have htl:=todo_len hr upto
 have hgo:goE r upto=0:=by unfold goE;rw [if_neg (by simpa using hr),if_neg (by simpa using hu)]
 have hGL:goL r upto=⟨r.log,r.snap,runE r.state (todoL r upto)⟩:=if_pos hgo
 have hGM:goM r upto=mailsE r.state (todoL r upto):=if_pos hgo
 have hdec:∀ t∈todoL r upto,decE t=0:=fun t ht=>firstE_zero.1 lf t (List.mem_of_mem_drop (List.mem_of_mem_take ht))
 unfold lastL at k4 htl
 have HG:=ghid (runE_good (GoodM.of k2) hdec (by omega))
 have HD:=ghid hdec
 have HMX:Hid (r.state.index+(todoL r upto).length≤1073741824):=(by omega:r.state.index+(todoL r upto).length≤1073741824)
 have CT:=ghid (fun u (hu:Below w.heap.size w u)=>toApply_any v r upto u B (hv.below hu hB) (by have:=hu.size;omega) hr)
 have CY:=ghid (fun u (hu:Below w.heap.size w u)=>repCopy_own v r u B (hv.below hu hB) (by have:=hu.size;omega))
 have CC:=ghid (fun u (hu:Below w.heap.size w u)=>repCheck_ok v r u B (hv.below hu hB) (by have:=hu.size;omega) hr)
 rw [hGL,hGM,mailsE_length]
 have hdl:(todoL r upto).length≤400:=by omega
 obtain ⟨td,htd⟩:∃ td,td=todoL r upto:=⟨_,rfl⟩
 rw [←htd] at HG HD HMX CT hdl ⊢
 clear hGL hGM hdec htl htd hgo k1 k2 lf
 obtain ⟨eo,lo,po,so,ec,ln,lc,pn,pc,sn,sc,rfl,-,hs,-⟩:=hv.parts
 obtain ⟨n,hn⟩:∃ n,n=r.log.ents.length:=⟨_,rfl⟩
 rw [←hn] at CT CY CC ⊢
 clear hn hv
 have HZ:Hid (Below w.heap.size w ((w.alloc (.cells #[.int .i64 r.log.base,.slice eo n ec,.string r.snap,.int .i64 r.state.index,.slice lo ln lc,.slice po pn pc,.slice so sn sc] 36)).alloc (.cells #[.int .i64 0,.slice none 0 0,.string ⟨#[]⟩,.int .i64 0,.slice none 0 0,.slice none 0 0,.slice none 0 0] 36))):=(((Below.refl _ _).alloc (Nat.le_refl _) _).alloc (by simp) _)
 have hu1:=hu.1
 have hu2:=hu.2
 clear hu
 go_enter Tryz.func8,Tryz.ntmps8
 go_wp2_with fail
 refine (CC.out _ HZ.out).mono ?_
 rintro e w1 ⟨rfl,hb⟩
 obtain ⟨hx,hrr,hbw⟩:=boxes7 (by simpa using hb)
 have HB:=ghid hbw
 have HX:=ghid hx
 have HR:=ghid hrr
 clear hb hx hrr hbw CC
 obtain ⟨c0,c1,c2,c3,c4,c5,c6,cf,hpl⟩:=seven_cells HX.out
 go_wp2_with fail
 refine (CY.out _ HB.out).mono ?_
 rintro e w2 ⟨v2,rfl,ho2,hb2⟩
 obtain ⟨eo2,lo2,po2,so2,ec2,ln2,lc2,pn2,pc2,sn2,sc2,rfl,q1,q2,q3⟩:=id ho2
 have hb1z:=HB.out.size
 have hba:Below w2.heap.size w2 (w2.alloc (.cells #[.int .i64 r.log.base,.slice eo2 r.log.ents.length ec2,.string r.snap,.int .i64 r.state.index,.slice lo2 ln2 lc2,.slice po2 pn2 pc2,.slice so2 sn2 sc2] 36)):=(Below.refl _ _).alloc (Nat.le_refl _) _
 have HB3:=ghid (HB.out.trans ((hb2.trans (hba.mono hb2.size)).mono hb1z))
 have HX3:=ghid (behind (behind HX.out (Below.refl _ _) hb2) (Below.refl _ _) hba)
 have HR3:=ghid (behind (behind HR.out (Below.refl _ _) hb2) (Below.refl _ _) hba)
 have hrl1:w.heap.size+1 < w1.heap.size:=(Array.getElem?_eq_some_iff.1 HR.out).1
 have HP3:Hid (RepB (w2.alloc (.cells #[.int .i64 r.log.base,.slice eo2 r.log.ents.length ec2,.string r.snap,.int .i64 r.state.index,.slice lo2 ln2 lc2,.slice po2 pn2 pc2,.slice so2 sn2 sc2] 36)) w2.heap.size w.heap.size r) :=
  ⟨eo2,lo2,po2,so2,ec2,ln2,lc2,pn2,pc2,sn2,sc2,heap_alloc_new w2 _,(q1.below hba).mono hb1z,q2,q3.below hba⟩
 obtain ⟨w3,hw3⟩:∃ w3,w3=w2.alloc (.cells #[.int .i64 r.log.base,.slice eo2 r.log.ents.length ec2,.string r.snap,.int .i64 r.state.index,.slice lo2 ln2 lc2,.slice po2 pn2 pc2,.slice so2 sn2 sc2] 36):=⟨_,rfl⟩
 obtain ⟨y,hy⟩:∃ y,y=w2.heap.size:=⟨_,rfl⟩
 have hyz:w.heap.size+1 < y:=by have:=hb2.size;omega
 rw [←hw3] at HB3 HX3 HR3 HP3
 rw [←hy] at HP3
 have HW3:=ghid hw3
 have HY:=ghid hy
 clear ho2 q1 q2 q3 hb2 hba hw3 hy HX HR CY c0 c1 c2 c3 c4 c5 c6 cf hpl hb1z
 obtain ⟨c0,c1,c2,c3,c4,c5,c6,cf,hpl⟩:=seven_cells HX3.out
 go_upto_region 7 with fail
 rw [←HW3.out,←HY.out]
 clear HW3 HY
 go_wp2_with fail
 refine (CT.out _ HB3.out).mono ?_
 rintro e w4 ⟨tp,tc,rfl,ht4,hb4⟩
 have HB4:=ghid (HB3.out.trans (hb4.mono HB3.out.size))
 have HR4:=ghid (behind HR3.out (Below.refl _ _) hb4)
 have HP4:=ghid (HP3.out.below hb4)
 have HT4:=ghid ht4
 have hz4:y < w4.heap.size:=HP4.out.lt
 clear hb4 HX3 HR3 HP3 HB3 CT c0 c1 c2 c3 c4 c5 c6 cf hpl
 go_wp2
 go_loopw [9,34] (fun o i wr=>∃ k:Nat,k≤td.length∧i=.int .i64 k∧wr.ownsRow w.heap.size 71 5 o k (flatG mailCells (mailsE r.state (td.take k)))∧RepB wr y w.heap.size ⟨r.log,r.snap,runE r.state (td.take k)⟩∧wr.heap[w.heap.size+1]?=some (.cells #[.int .i64 0,.slice none 0 0,.string ⟨#[]⟩,.int .i64 0,.slice none 0 0,.slice none 0 0,.slice none 0 0] 36 (0,0))∧Below w.heap.size w4 wr) (fun _ i _=>td.length - (intOf i).toNat)
 case atStart=>exact ⟨0,Nat.zero_le _,rfl,World.ownsRow_nil _ _ _ _,HP4.out,HR4.out,Below.refl _ _⟩
 case round =>
  obtain ⟨k,hk,rfl,hown,hrp,hres,hb⟩:=hrel
  by_cases hlt:k < td.length
  ·obtain ⟨t,ht⟩:∃ t,td[k]?=some t:=⟨_,List.getElem?_eq_getElem hlt⟩
   have hbz:=HB4.out.size
   obtain ⟨ao',cap',e,h1,h2,h3,h4⟩:=HT4.out.below hb hB
   simp only [Value.slice.injEq] at e
   obtain ⟨rfl,-,rfl⟩:=e
   obtain ⟨b,off,rfl,hbB,hc⟩:=h4 (by omega)
   obtain ⟨c0,hts⟩:=hc k t ht
   have hde:=HD.out t (List.mem_of_getElem? ht)
   obtain ⟨g1,g2⟩:=HG.out k hk
   have hne:nextE (runE r.state (td.take k)) t=0:=by
    unfold nextE
    rw [if_neg (by rw [g1.check];simp),if_neg (by rw [g2];have:=HMX.out;omega)]
    exact hde
   have hte:td.take (k+1)=td.take k++[t]:=by rw [List.take_succ_eq_append_getElem hlt,(List.getElem?_eq_some_iff.1 ht).2]
   have HRUN:Hid (runE r.state (td.take (k+1))=(applyM (runE r.state (td.take k)) (decL t)).1):=by
    unfold Hid
    rw [hte,runE_append]
    rfl
   have HMS:Hid (mailsE r.state (td.take (k+1))=mailsE r.state (td.take k)++[⟨(decL t).client,(decL t).seq,(applyM (runE r.state (td.take k)) (decL t)).2⟩]):=by
    unfold Hid
    rw [hte,mailsE_snoc]
   have CA:=ghid (fun (v:Value) (hv:StateR wr wr.heap.size v (runE r.state (td.take k)))=>Apply_own v (runE r.state (td.take k)) t wr wr.heap.size hv (Nat.le_refl _) hts hne)
   obtain ⟨ms,hms⟩:∃ ms,ms=mailsE r.state (td.take k):=⟨_,rfl⟩
   have hml:ms.length=k:=by rw [hms,mailsE_length,List.length_take];omega
   obtain ⟨s',hs'⟩:∃ s',s'=runE r.state (td.take k):=⟨_,rfl⟩
   obtain ⟨⟨s2,⟨rc,rn,rt⟩⟩,hs2⟩:∃ q,q=applyM (runE r.state (td.take k)) (decL t):=⟨_,rfl⟩
   rw [←hs2] at CA HRUN HMS
   rw [←hs'] at CA hrp
   rw [←hms] at HMS hown
   simp only at CA HRUN HMS
   have CM:=ghid (fun u=>mailOf_any t rc rn rt u hts)
   obtain ⟨mc,hmc⟩:∃ mc,mc=(decL t).client:=⟨_,rfl⟩
   obtain ⟨mq,hmq⟩:∃ mq,mq=(decL t).seq:=⟨_,rfl⟩
   rw [←hmc,←hmq] at CM HMS
   have HOWN:=ghid hown
   have HRP:=ghid hrp
   have HRES:=ghid hres
   have HB:=ghid hb
   have hypl:=hrp.lt
   have hzw:=hb.size
   obtain ⟨fo,lo5,po5,so5,fc,ln5,lc5,pn5,pc5,sn5,sc5,h0,-,-,q3⟩:=hrp
   have CA':=ghid (CA.out _ q3.reads)
   obtain ⟨e0,e1,e2,e3,e4,e5,e6,ef,-⟩:=seven_cells h0
   simp only at e3 e4 e5 e6 CA'
   obtain ⟨oo,oc,rfl⟩:=grow_shape hown
   have hltI:(k:Int) < (td.length:Int):=by omega
   clear ht hc h4 h1 h2 h3 hde g1 g2 hne hte hms hml hs' hs2 hmc hmq hown hres hb h0 q3 CA
   go_wp2_with fail
   refine CA'.out.mono ?_
   rintro e w5 ⟨v5,rfl,ho5,hb5⟩
   obtain ⟨lo6,po6,so6,ln6,lc6,pn6,pc6,sn6,sc6,rfl,-⟩:=id ho5
   have hz5:=hb5.size
   have K:=(HRP.out.below hb5).put ho5
   have ht4:TouchG w5 ((((w5.setCell ⟨y,3,none⟩ (.int .i64 s2.index)).setCell ⟨y,4,none⟩ (.slice lo6 ln6 lc6)).setCell ⟨y,5,none⟩ (.slice po6 pn6 pc6)).setCell ⟨y,6,none⟩ (.slice so6 sn6 sc6)) (fun b=>b=y):=((((TouchG.refl w5 (fun b=>b=y)).setCell (a:=⟨y,3,none⟩) (Or.inl rfl) _).setCell (a:=⟨y,4,none⟩) (Or.inl rfl) _).setCell (a:=⟨y,5,none⟩) (Or.inl rfl) _).setCell (a:=⟨y,6,none⟩) (Or.inl rfl) _
   have ho4:=row_rep (HOWN.out) (HRP.out) hb5 ht4
   have hr4:((((w5.setCell ⟨y,3,none⟩ (.int .i64 s2.index)).setCell ⟨y,4,none⟩ (.slice lo6 ln6 lc6)).setCell ⟨y,5,none⟩ (.slice po6 pn6 pc6)).setCell ⟨y,6,none⟩ (.slice so6 sn6 sc6)).heap[w.heap.size+1]?=some (.cells #[.int .i64 0,.slice none 0 0,.string ⟨#[]⟩,.int .i64 0,.slice none 0 0,.slice none 0 0,.slice none 0 0] 36 (0,0)):=(ht4.block _ (by omega) (by omega)).trans (behind HRES.out (Below.refl _ _) hb5)
   have hb4:Below w.heap.size w4 ((((w5.setCell ⟨y,3,none⟩ (.int .i64 s2.index)).setCell ⟨y,4,none⟩ (.slice lo6 ln6 lc6)).setCell ⟨y,5,none⟩ (.slice po6 pn6 pc6)).setCell ⟨y,6,none⟩ (.slice so6 sn6 sc6)):=(HB.out.trans (hb5.mono (by omega))).trans (ht4.below (B:=w.heap.size) (by omega) (fun k e=>by rw [e];omega))
   have hb4':w.heap.size≤((((w5.setCell ⟨y,3,none⟩ (.int .i64 s2.index)).setCell ⟨y,4,none⟩ (.slice lo6 ln6 lc6)).setCell ⟨y,5,none⟩ (.slice po6 pn6 pc6)).setCell ⟨y,6,none⟩ (.slice so6 sn6 sc6)).heap.size:=by have:=hb4.size;omega
   have HF:Hid (∀ A R:Obj,RepB ((((((w5.setCell ⟨y,3,none⟩ (.int .i64 s2.index)).setCell ⟨y,4,none⟩ (.slice lo6 ln6 lc6)).setCell ⟨y,5,none⟩ (.slice po6 pn6 pc6)).setCell ⟨y,6,none⟩ (.slice so6 sn6 sc6)).alloc A).alloc R) y w.heap.size ⟨r.log,r.snap,s2⟩∧((((((w5.setCell ⟨y,3,none⟩ (.int .i64 s2.index)).setCell ⟨y,4,none⟩ (.slice lo6 ln6 lc6)).setCell ⟨y,5,none⟩ (.slice po6 pn6 pc6)).setCell ⟨y,6,none⟩ (.slice so6 sn6 sc6)).alloc A).alloc R).ownsRow w.heap.size 71 5 (.slice oo k oc) k (flatG mailCells ms)∧((((((w5.setCell ⟨y,3,none⟩ (.int .i64 s2.index)).setCell ⟨y,4,none⟩ (.slice lo6 ln6 lc6)).setCell ⟨y,5,none⟩ (.slice po6 pn6 pc6)).setCell ⟨y,6,none⟩ (.slice so6 sn6 sc6)).alloc A).alloc R).heap[w.heap.size+1]?=some (.cells #[.int .i64 0,.slice none 0 0,.string ⟨#[]⟩,.int .i64 0,.slice none 0 0,.slice none 0 0,.slice none 0 0] 36 (0,0))∧Below w.heap.size w4 ((((((w5.setCell ⟨y,3,none⟩ (.int .i64 s2.index)).setCell ⟨y,4,none⟩ (.slice lo6 ln6 lc6)).setCell ⟨y,5,none⟩ (.slice po6 pn6 pc6)).setCell ⟨y,6,none⟩ (.slice so6 sn6 sc6)).alloc A).alloc R)):=by
    intro A R
    exact ⟨(K.below ((Below.refl _ _).alloc (Nat.le_refl _) A)).below ((Below.refl _ _).alloc (Nat.le_refl _) R),(ho4.alloc A).alloc R,behind (behind hr4 (Below.refl _ _) ((Below.refl _ _).alloc (Nat.le_refl _) A)) (Below.refl _ _) ((Below.refl _ _).alloc (Nat.le_refl _) R),(hb4.alloc hb4' A).alloc (by have:=hb4';rw [World.size_alloc];omega) R⟩
   obtain ⟨f0,l0,p0,s0,fc0,ln0,lc0,pn0,pc0,sn0,sc0,hy5,-⟩:=HRP.out.below hb5
   obtain ⟨e0,e1,e2,e3,e4,e5,e6,ef,hyl⟩:=seven_cells hy5
   have hq1:y≠w5.heap.size:=by omega
   have hq2:y≠w5.heap.size+1:=by omega
   have hq3:w5.heap.size≠y:=by omega
   have hq4:w5.heap.size+1≠y:=by omega
   clear hb5 ho5 K ht4 ho4 hr4 hb4 hy5 CA'
   go_wp2_with fail
   refine (CM.out _).mono ?_
   rintro e w7 ⟨rfl,hb7⟩
   obtain ⟨g1,g2,g3,g4⟩:=HF.out (.cells #[.int .i64 s2.index,.slice lo6 ln6 lc6,.slice po6 pn6 pc6,.slice so6 sn6 sc6] 34) (.cells #[.int .i64 rc,.int .i64 rn,.string rt] 67)
   have HP7:=ghid (g1.below hb7)
   have HO7:=ghid (grow_below g2 hb7 (Nat.le_refl _))
   have HR7:=ghid (behind g3 (Below.refl _ _) hb7)
   have hzW:=g4.size
   have HB7:=ghid (g4.trans (hb7.mono (by omega)))
   have hz7:w.heap.size≤w7.heap.size:=by have:=HB7.out.size;omega
   clear g1 g2 g3 g4 hb7 HF hzW e0 e1 e2 e3 e4 e5 e6 ef hyl
   go_wp2_with (at_builtin;refine wpList_append_lies _ rfl (.tmp 52) (.tmp 56) 40 rfl w.heap.size 71 i0 _ 5 48 Tryz.underlying40 hi0 hz0 hz1 hz2 rfl (by decide) (.slice oo k oc) k (flatG mailCells ms) rfl (HO7.out.alloc _) ⟨w7.heap.size,0,none⟩ 1 1 (mailCells ⟨mc,mq,⟨rc,rn,rt⟩⟩) rfl rfl (World.news_of_block (heap_alloc_new w7 _)) (mailCells_one _) (by omega) (by unfold maxLen;omega) (by omega) (by simp;omega) (w7.heap.size+1) (by simp) ?_)
   intro gn cn w8 hown8 hg8 hat8 hlt8
   have hba:=(Below.refl w7.heap.size w7).alloc (Nat.le_refl _) (.cells #[.int .i64 mc,.int .i64 mq,.int .i64 rc,.int .i64 rn,.string rt] 71)
   have ht8:=(TouchG.refl _ (fun b=>(Value.slice oo k oc).ownBlock=some b)).grown hg8 (fun b e=>Or.inl e)
   have HP8:=ghid ((HP7.out.below hba).touch ht8 (fun e=>rep_not_row (HP7.out.below hba) (HO7.out.alloc _) e) (fun g _ e=>Alien.row (HO7.out.alloc _) e (by decide) (by decide) (by decide) (by decide) (by decide) (by decide)))
   have HR8:Hid (w8.heap[w.heap.size+1]?=_):=(ht8.block _ (by have:=(Array.getElem?_eq_some_iff.1 HR7.out).1;rw [World.size_alloc];omega) (fun e=>res_not_row HR7.out HO7.out e)).trans (behind HR7.out (Below.refl _ _) hba)
   have HB8:=ghid ((HB7.out.alloc hz7 (.cells #[.int .i64 mc,.int .i64 mq,.int .i64 rc,.int .i64 rn,.string rt] 71)).grown hg8 (by simp;omega) (fun j hj=>(HO7.out.lt j hj).1))
   have HO8:Hid (w8.ownsRow w.heap.size 71 5 (.slice (some ⟨gn,0,none⟩) (k+1) cn) (k+1) (flatG mailCells (mailsE r.state (td.take (k+1))))):=by
    unfold Hid
    rw [HMS.out,flatG_snoc]
    exact hown8
   clear hown8 hg8 hat8 hlt8 ht8 hba
   go_wp2
   go_roundw
   case rel=>exact ⟨k+1,by omega,by go_num,HO8.out,by rw [HRUN.out];exact HP8.out,HR8.out,HB8.out⟩
   case measure=>simp [intOf];omega
  ·obtain rfl:k=td.length:=by omega
   rw [List.take_length] at hown hrp
   obtain ⟨eo3,lo3,po3,so3,ec3,ln3,lc3,pn3,pc3,sn3,sc3,h0,q1,q2,q3⟩:=hrp
   obtain ⟨e0,e1,e2,e3,e4,e5,e6,ef,hyl⟩:=seven_cells h0
   obtain ⟨r0,r1,r2,r3,r4,r5,r6,rf,rl⟩:=seven_cells hres
   simp only at e0 e1 e2 e3 e4 e5 e6 q1 q2 q3
   have hq1:y≠w.heap.size+1:=by omega
   have hq2:w.heap.size+1≠y:=by omega
   have HF:=ghid (zset7 (b:=w.heap.size+1) (HB4.out.trans (hb.mono (Nat.le_refl _))) (by omega) (.int .i64 r.log.base) (.slice eo3 r.log.ents.length ec3) (.string r.snap) (.int .i64 (runE r.state td).index) (.slice lo3 ln3 lc3) (.slice po3 pn3 pc3) (.slice so3 sn3 sc3))
   have HO:=ghid (RepO.touch (r:=⟨r.log,r.snap,runE r.state td⟩) (n:=w.heap.size) ⟨eo3,lo3,po3,so3,ec3,ln3,lc3,pn3,pc3,sn3,sc3,rfl,q1,q2,q3⟩ (touch7 (w.heap.size+1) (.int .i64 r.log.base) (.slice eo3 r.log.ents.length ec3) (.string r.snap) (.int .i64 (runE r.state td).index) (.slice lo3 ln3 lc3) (.slice po3 pn3 pc3) (.slice so3 sn3 sc3)) fun _ _ e=>e ▸ rep_alien hres)
   have HM:=ghid (grow_keep hown fun b hbk=>(touch7 (w.heap.size+1) (.int .i64 r.log.base) (.slice eo3 r.log.ents.length ec3) (.string r.snap) (.int .i64 (runE r.state td).index) (.slice lo3 ln3 lc3) (.slice po3 pn3 pc3) (.slice so3 sn3 sc3)).block b (hown.lt b hbk).2 fun e=>res_not_row hres hown (e ▸ hbk))
   obtain ⟨oo,oc,rfl⟩:=grow_shape hown
   clear h0 q1 q2 q3 hres hown hb
   go_wp2
   refine bodyPost_ret (v:=.tuple #[.agg #[.int .i64 r.log.base,.slice eo3 r.log.ents.length ec3,.string r.snap,.int .i64 (runE r.state td).index,.slice lo3 ln3 lc3,.slice po3 pn3 pc3,.slice so3 sn3 sc3],.slice oo td.length oc,.int .i64 0]) (by simp [results,Tryz.results8,go_sem,r0,r1,r2,r3,r4,r5,r6]) rfl ?_
   exact ⟨_,_,rfl,HO.out,HM.out,HF.out⟩
end Go.Proofs.YtbmfahgekcnkaajGreatDoor
