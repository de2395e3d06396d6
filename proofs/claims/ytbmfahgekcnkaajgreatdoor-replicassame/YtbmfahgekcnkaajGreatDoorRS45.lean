/- Entries that were made may be; A replica that was compacted, began anew, was told a snapshot: plain mathematics; log.At; log.refusePut, log.passedOver; log.Put; log.Put, where nothing is refused; log.Cut; log.Behind; What is asked of package log: it answers so (joined by program) -/
import Derived.Deep.RegionWith
import Derived.Deep.RegionHeld3
import Derived.Test.YtbmfahgekcnkaajGreatDoorRS42
import Derived.Test.YtbmfahgekcnkaajGreatDoorRS11
import Derived.Test.YtbmfahgekcnkaajGreatDoorRS44
import Derived.Test.YtbmfahgekcnkaajGreatDoorRS43
import Derived.Test.YtbmfahgekcnkaajGreatDoorRS02
namespace Go.Proofs.YtbmfahgekcnkaajGreatDoor
open Go.RowKit
theorem made_first {out:List CmdD} (h:∀ x∈out,x.err=0):firstE (out.map cmdOut)=0:=firstE_zero.2 fun t ht=>by
 obtain ⟨x,hx,rfl⟩:=List.mem_map.1 ht
 exact (dec_all x (h x hx)).1
end Go.Proofs.YtbmfahgekcnkaajGreatDoor
namespace Go.Proofs.YtbmfahgekcnkaajGreatDoor
open Go.RowKit
theorem rep_ok {b:Int} {ts:List ByteArray} {sp:ByteArray} {s:StateD} (hts:firstE ts=0) (h0:0≤b) (hb:b≤1073741424) (hl:ts.length≤400) (hs:GoodM s) (h1:b≤s.index) (h2:s.index≤b+ts.length) (ht:tellsB sp b=true):repE ⟨⟨b,ts⟩,sp,s⟩=0 :=
 repE_of (logE_ok h0 hb hl hts) hs.check ⟨h1,h2⟩ ht
theorem tells_none:tellsB ⟨#[]⟩ 0=true:=by unfold tellsB;rw [if_pos rfl];rfl
theorem tells_snap {s:StateD} {b:Int} (hs:GoodM s) (h:s.index=b) (hb:b≠0):tellsB (snapOut s) b=true:=by
 unfold tellsB
 rw [if_neg hb,(snap_all hs).1,(snap_all hs).2]
 exact decide_eq_true ⟨rfl,h⟩
theorem snapOut_some (s:StateD):snapOut s≠⟨#[]⟩:=fun e=>by
 have h:=snapOut_size s
 rw [e] at h
 have:(⟨#[]⟩:ByteArray).size=0:=rfl
 omega
theorem rep_zero:repE .zero=0:=rep_ok (ts:=[]) rfl (by omega) (by omega) (by simp) goodM_nil (by show (0:Int)≤0;omega) (by show (0:Int)≤_;simp) tells_none
def upS (a:List ByteArray) (k:Nat):StateD:=runE .zero (a.take k)
theorem upS_good {a:List ByteArray} (ha:firstE a=0) (hl:a.length≤50) {k:Nat} (hk:k≤a.length):GoodM (upS a k)∧(upS a k).index=k:=by
 have h:=runE_good (s:=.zero) (ts:=a) goodM_nil (fun t ht=>firstE_zero.1 ha t ht) (by show (0:Int)+_≤_;omega) k hk
 exact ⟨h.1,h.2.trans (by show (0:Int)+k=k;omega)⟩
theorem upS_more (a:List ByteArray) (k:Nat):runE (upS a k) (a.drop k)=upS a a.length:=by
 unfold upS
 rw [←runE_append,List.take_append_drop,List.take_length]
theorem same_hear {a:List ByteArray} (ha:firstE a=0) (hl:a.length≤50):hearE .zero 0 a=0∧hearL .zero 0 a=⟨⟨0,a⟩,⟨#[]⟩,.zero⟩:=by
 obtain ⟨p1,p2⟩:=put_first ha (by omega)
 have he:hearE .zero 0 a=0:=by
  unfold hearE
  rw [if_neg (by rw [rep_zero];simp)]
  show (if putE ⟨0,[]⟩ 0 a≠0 then _ else if opens [] (putL ⟨0,[]⟩ 0 a).ents=false then _ else _)=_
  rw [p1,if_neg (by simp),p2,if_neg (by rw [opens_iff.2 (by simp)];decide)]
 refine ⟨he,?_⟩
 unfold hearL
 rw [if_pos he]
 show (⟨putL ⟨0,[]⟩ 0 a,_,_⟩:RepD)=_
 rw [p2]
 rfl
theorem same_ok {a:List ByteArray} {k:Nat} (ha:firstE a=0) (hl:a.length≤50) (hk:k≤a.length):repE ⟨⟨0,a⟩,⟨#[]⟩,upS a k⟩=0:=by
 obtain ⟨g1,g2⟩:=upS_good ha hl hk
 exact rep_ok ha (by omega) (by omega) (by omega) g1 (by rw [g2];omega) (by rw [g2];omega) tells_none
theorem same_go {a:List ByteArray} {k:Nat} (ha:firstE a=0) (hl:a.length≤50) (hk:k≤a.length):goL ⟨⟨0,a⟩,⟨#[]⟩,.zero⟩ k=⟨⟨0,a⟩,⟨#[]⟩,upS a k⟩:=by
 have h0:=same_ok ha hl (Nat.zero_le a.length)
 have hgo:goE ⟨⟨0,a⟩,⟨#[]⟩,.zero⟩ k=0:=by unfold goE;rw [if_neg (fun h=>h h0),if_neg (by omega)]
 unfold goL
 rw [if_pos hgo]
 have:todoL ⟨⟨0,a⟩,⟨#[]⟩,.zero⟩ k=a.take k:=by
  unfold todoL lastL
  show (a.drop (0 - 0:Int).toNat).take (min (max (k:Int) 0) (0+a.length) - 0).toNat=_
  rw [show (min (max (k:Int) 0) (0+a.length) - 0).toNat=k by omega]
  rfl
 rw [this]
 rfl
theorem same_more {a:List ByteArray} {k:Nat} (ha:firstE a=0) (hl:a.length≤50) (hk:k≤a.length) (b:Int) (ts:List ByteArray) (sp:ByteArray) (hb:(b=0∧ts=a)∨(b=k∧ts=a.drop k)) (hr:repE ⟨⟨b,ts⟩,sp,upS a k⟩=0):goL ⟨⟨b,ts⟩,sp,upS a k⟩ a.length=⟨⟨b,ts⟩,sp,upS a a.length⟩:=by
 obtain ⟨g1,g2⟩:=upS_good ha hl hk
 have hgo:goE ⟨⟨b,ts⟩,sp,upS a k⟩ a.length=0:=by unfold goE;rw [if_neg (by simpa using hr),if_neg (by omega)]
 unfold goL
 rw [if_pos hgo]
 have:todoL ⟨⟨b,ts⟩,sp,upS a k⟩ a.length=a.drop k:=by
  unfold todoL lastL
  simp only
  rw [g2]
  rcases hb with ⟨rfl,rfl⟩ | ⟨rfl,rfl⟩
  ·rw [show ((k:Int) - 0).toNat=k by omega,List.take_of_length_le (by rw [List.length_drop];omega)]
  ·rw [show ((k:Int) - k).toNat=0 by omega,List.drop_zero,List.take_of_length_le (by simp only [List.length_drop];omega)]
 rw [this]
 show (⟨_,_,runE (upS a k) (a.drop k)⟩:RepD)=_
 rw [upS_more]
theorem same_okC {a:List ByteArray} {k:Nat} (ha:firstE a=0) (hl:a.length≤50) (hk:k≤a.length) (hk0:k≠0) {n:Nat} (hn:n≤a.length) (hkn:k≤n):repE ⟨⟨k,a.drop k⟩,snapOut (upS a k),upS a n⟩=0:=by
 obtain ⟨g1,g2⟩:=upS_good ha hl hk
 obtain ⟨m1,m2⟩:=upS_good ha hl hn
 exact rep_ok (firstE_sub ha (List.drop_sublist _ _)) (by omega) (by omega) (by rw [List.length_drop];omega) m1 (by rw [m2];omega) (by rw [m2,List.length_drop];omega) (tells_snap g1 g2 (by omega))
theorem same_comp0 {a:List ByteArray} (ha:firstE a=0) (hl:a.length≤50):compE ⟨⟨0,a⟩,⟨#[]⟩,upS a 0⟩=12:=by
 unfold compE
 rw [if_neg (by rw [same_ok ha hl (Nat.zero_le _)];simp),if_pos (show (upS a 0).index=0 from (upS_good ha hl (Nat.zero_le _)).2)]
theorem same_comp {a:List ByteArray} {k:Nat} (ha:firstE a=0) (hl:a.length≤50) (hk:k≤a.length) (hk0:k≠0):compE ⟨⟨0,a⟩,⟨#[]⟩,upS a k⟩=0∧compL ⟨⟨0,a⟩,⟨#[]⟩,upS a k⟩=⟨⟨k,a.drop k⟩,snapOut (upS a k),upS a k⟩:=by
 obtain ⟨g1,g2⟩:=upS_good ha hl hk
 obtain ⟨c1,c2⟩:=cut_ok hk ha (by omega)
 have he:compE ⟨⟨0,a⟩,⟨#[]⟩,upS a k⟩=0:=by
  unfold compE
  rw [if_neg (by rw [same_ok ha hl hk];simp)]
  simp only
  rw [g2,if_neg (by omega),c1,if_neg (by simp)]
 refine ⟨he,?_⟩
 unfold compL
 rw [if_pos he]
 simp only
 rw [g2,c2]
theorem same_rest {a:List ByteArray} {k:Nat} (ha:firstE a=0) (hl:a.length≤50) (hk:k≤a.length) (hk0:k≠0):restL ⟨⟨k,a.drop k⟩,snapOut (upS a k),upS a k⟩=⟨⟨k,a.drop k⟩,snapOut (upS a k),upS a k⟩:=by
 obtain ⟨g1,-⟩:=upS_good ha hl hk
 unfold restL
 rw [if_pos (same_okC ha hl hk hk0 hk (Nat.le_refl _))]
 unfold recallL
 simp only
 rw [if_neg (snapOut_some _),(snap_all g1).2]
theorem same_inst {a:List ByteArray} {k:Nat} (ha:firstE a=0) (hl:a.length≤50) (hk:k≤a.length) (hk0:k≠0):instE .zero (snapOut (upS a k))=0∧instL .zero (snapOut (upS a k))=⟨⟨k,[]⟩,snapOut (upS a k),upS a k⟩:=by
 obtain ⟨g1,g2⟩:=upS_good ha hl hk
 obtain ⟨s1,s2⟩:=snap_all g1
 have he:instE .zero (snapOut (upS a k))=0:=by
  unfold instE
  rw [if_neg (by rw [rep_zero];simp),s1,if_neg (by simp),s2,g2,if_neg (by show ¬ (k:Int)≤0;omega),if_neg (by omega)]
 refine ⟨he,?_⟩
 unfold instL
 rw [if_pos he,s2,g2]
 have:behindL RepD.zero.log k 400=[]:=by
  have:=behind_ok (a:=[]) (i:=k) (m:=400) rfl (by simp)
  exact this.2.trans (by simp)
 rw [this]
theorem same_okT {a:List ByteArray} {k:Nat} (ha:firstE a=0) (hl:a.length≤50) (hk:k≤a.length) (hk0:k≠0):repE ⟨⟨k,[]⟩,snapOut (upS a k),upS a k⟩=0:=by
 obtain ⟨g1,g2⟩:=upS_good ha hl hk
 exact rep_ok (ts:=[]) rfl (by omega) (by omega) (by simp) g1 (by rw [g2];omega) (by rw [g2];simp) (tells_snap g1 g2 (by omega))
theorem same_told {a:List ByteArray} {k:Nat} (ha:firstE a=0) (hl:a.length≤50) (hk:k≤a.length) (hk0:k≠0):hearE ⟨⟨k,[]⟩,snapOut (upS a k),upS a k⟩ k (a.drop k)=0∧hearL ⟨⟨k,[]⟩,snapOut (upS a k),upS a k⟩ k (a.drop k)=⟨⟨k,a.drop k⟩,snapOut (upS a k),upS a k⟩:=by
 obtain ⟨g1,g2⟩:=upS_good ha hl hk
 have hf:=firstE_sub ha (List.drop_sublist k a)
 have e1:overL ⟨(k:Int),[]⟩ k (a.drop k)=a.drop k:=by unfold overL;simp
 have e2:newL ⟨(k:Int),[]⟩ k (a.drop k)=a.drop k:=by
  unfold newL
  rw [e1]
  by_cases h:opens (a.drop k) (List.drop (aheadL ⟨(k:Int),[]⟩ k) [])=true
  ·have:=opens_iff.1 h
   simp only [List.drop_nil,List.take_nil] at this
   rw [if_pos h,this]
  ·rw [if_neg h]
   simp
 have p1:putE ⟨(k:Int),[]⟩ k (a.drop k)=0:=by
  unfold putE
  rw [logE_ok (l:=⟨(k:Int),[]⟩) (by simp only;omega) (by simp only;omega) (by simp) rfl,if_neg (by simp),if_neg (by simp;omega),if_neg (by rw [List.length_drop];omega),if_neg (by unfold lastL;simp),e1,hf,if_neg (by simp),e2,if_neg (by rw [List.length_drop];omega)]
 have p2:putL ⟨(k:Int),[]⟩ k (a.drop k)=⟨k,a.drop k⟩:=by unfold putL;rw [if_pos p1,e2]
 have he:hearE ⟨⟨k,[]⟩,snapOut (upS a k),upS a k⟩ k (a.drop k)=0:=by
  unfold hearE
  rw [if_neg (by rw [same_okT ha hl hk hk0];simp)]
  simp only
  rw [p1,if_neg (by simp),p2,if_neg (by rw [opens_iff.2 (by unfold doneL;simp)];decide)]
 refine ⟨he,?_⟩
 unfold hearL
 rw [if_pos he]
 simp only
 rw [p2]
end Go.Proofs.YtbmfahgekcnkaajGreatDoor
namespace Go.Proofs.YtbmfahgekcnkaajGreatDoor
open Go.RowKit
theorem box_after {w w1:World} {o:Obj} (hb1:Below (w.heap.size+1) (w.alloc o) w1):w1.heap[w.heap.size]?=some o∧Below w.heap.size w w1 :=
 ⟨(hb1.block _ (by omega)).trans (heap_alloc_new w o),((Below.refl w.heap.size w).alloc (Nat.le_refl _) o).trans (hb1.mono (by omega))⟩
theorem boxes_after {w w1:World} {o r:Obj} (hb1:Below (w.heap.size+1+1) ((w.alloc o).alloc r) w1):w1.heap[w.heap.size]?=some o∧w1.heap[w.heap.size+1]?=some r∧Below w.heap.size w w1:=by
 obtain ⟨h1,h2⟩:=two_newB hb1
 exact ⟨h2,h1,(((Below.refl w.heap.size w).alloc (Nat.le_refl _) o).alloc (by simp) r).trans (hb1.mono (by omega))⟩
end Go.Proofs.YtbmfahgekcnkaajGreatDoor
namespace Go.Proofs.YtbmfahgekcnkaajGreatDoor
open Go.RowKit
def refE (l:LogD) (behind:Int) (n:Nat):Int :=
 if logE l≠0 then logE l else if ¬ (0≤behind∧behind≤1073741824) then 2 else if 400 < n then 1 else if lastL l < behind then 13 else 0
set_option maxRecDepth 100000 in
set_option maxHeartbeats 1600000 in
theorem refusePut_any (v:Value) (l:LogD) (i:Int) (mo:Option Addr) (mn mc:Nat) (w:World) (B:Nat) (hv:LogR w B v l) (hB:B≤w.heap.size) (hi:-9223372036854775808≤i∧i≤9223372036854775807) (hmn:mn*16≤140737488351232) :
  Calls Tryz.prog 39 #[v,.int .i64 i,.slice mo mn mc] w fun e w'=>e=.returned (.int .i64 (refE l i mn))∧Below w.heap.size w w':=by
 obtain ⟨eo,ec,rfl,ht⟩:=hv.shape
 have hbx:Below w.heap.size w (w.alloc (.cells #[.int .i64 l.base,.slice eo l.ents.length ec] 29)):=(Below.refl _ _).alloc (Nat.le_refl _) _
 have CC:=ghid (logCheck_any _ l (w.alloc (.cells #[.int .i64 l.base,.slice eo l.ents.length ec] 29)) B (hv.below hbx hB) (by have:=hbx.size;omega))
 clear hv ht hbx
 by_cases h0:logE l=0
 ·obtain ⟨⟨hb0,hb1,hln⟩,-⟩:=logE_zero h0
  rw [h0] at CC
  have CL:=ghid (fun u=>last_raw l.base eo l.ents.length ec u ⟨hb0,hb1,hln⟩)
  have HE0:=ghid h0
  clear h0
  by_cases h1:0≤i∧i≤1073741824
  ·by_cases h2:400 < mn
   ·have HE:Hid (refE l i mn=1):=by
     unfold Hid refE
     rw [HE0.out,if_neg (by simp),if_neg (by simpa using h1),if_pos h2]
    rw [HE.out]
    go_enter Tryz.func39,Tryz.ntmps39
    go_wp2_with fail
    refine CC.out.mono ?_
    rintro e w1 ⟨rfl,hb⟩
    obtain ⟨hx,hbw⟩:=box_after (by simpa using hb)
    have HB:=ghid hbw
    clear hb hx hbw CC
    go_wp2
    go_ret
    exact ⟨rfl,HB.out⟩
   ·by_cases h3:l.base+l.ents.length < i
    ·have HE:Hid (refE l i mn=13):=by
      unfold Hid refE lastL
      rw [HE0.out,if_neg (by simp),if_neg (by simpa using h1),if_neg h2,if_pos h3]
     rw [HE.out]
     go_enter Tryz.func39,Tryz.ntmps39
     go_wp2_with fail
     refine CC.out.mono ?_
     rintro e w1 ⟨rfl,hb⟩
     obtain ⟨hx,hbw⟩:=box_after (by simpa using hb)
     obtain ⟨c0,c1,hcl⟩:=two_cells hx
     have HB:=ghid hbw
     clear hb hx hbw CC
     go_wp2_with fail
     refine (CL.out _).mono ?_
     rintro e w2 ⟨rfl,hb2⟩
     have HB2:=ghid (HB.out.trans (hb2.mono HB.out.size))
     clear hb2
     go_wp2
     go_ret
     exact ⟨rfl,HB2.out⟩
    ·have HE:Hid (refE l i mn=0):=by
      unfold Hid refE lastL
      rw [HE0.out,if_neg (by simp),if_neg (by simpa using h1),if_neg h2,if_neg h3]
     rw [HE.out]
     go_enter Tryz.func39,Tryz.ntmps39
     go_wp2_with fail
     refine CC.out.mono ?_
     rintro e w1 ⟨rfl,hb⟩
     obtain ⟨hx,hbw⟩:=box_after (by simpa using hb)
     obtain ⟨c0,c1,hcl⟩:=two_cells hx
     have HB:=ghid hbw
     clear hb hx hbw CC
     go_wp2_with fail
     refine (CL.out _).mono ?_
     rintro e w2 ⟨rfl,hb2⟩
     have HB2:=ghid (HB.out.trans (hb2.mono HB.out.size))
     clear hb2
     go_wp2
     go_ret
     exact ⟨rfl,HB2.out⟩
  ·have HE:Hid (refE l i mn=2):=by
    unfold Hid refE
    rw [HE0.out,if_neg (by simp),if_pos h1]
   rw [HE.out]
   by_cases h2:i < 0
   ·clear h1
    go_enter Tryz.func39,Tryz.ntmps39
    go_wp2_with fail
    refine CC.out.mono ?_
    rintro e w1 ⟨rfl,hb⟩
    obtain ⟨hx,hbw⟩:=box_after (by simpa using hb)
    have HB:=ghid hbw
    clear hb hx hbw CC
    go_wp2
    go_ret
    exact ⟨rfl,HB.out⟩
   ·have h3:1073741824 < i:=by omega
    clear h1
    go_enter Tryz.func39,Tryz.ntmps39
    go_wp2_with fail
    refine CC.out.mono ?_
    rintro e w1 ⟨rfl,hb⟩
    obtain ⟨hx,hbw⟩:=box_after (by simpa using hb)
    have HB:=ghid hbw
    clear hb hx hbw CC
    go_wp2
    go_ret
    exact ⟨rfl,HB.out⟩
 ·have HE:Hid (refE l i mn=logE l):=if_pos h0
  rw [HE.out]
  obtain ⟨c,hc⟩:∃ c,c=logE l:=⟨_,rfl⟩
  rw [←hc] at CC h0 ⊢
  have hcb:(c != 0)=true:=by simpa using h0
  clear h0 hc
  go_enter Tryz.func39,Tryz.ntmps39
  go_wp2_with fail
  refine CC.out.mono ?_
  rintro e w1 ⟨rfl,hb⟩
  obtain ⟨-,hbw⟩:=box_after (by simpa using hb)
  have HB:=ghid hbw
  clear hb hbw CC
  go_wp2
  go_ret
  exact ⟨rfl,HB.out⟩
set_option maxHeartbeats 800000 in
theorem passedOver_any (base i:Int) (eo mo:Option Addr) (n ec mn mc k:Nat) (w:World) (h0:0≤base∧base≤1073741424) (hi:0≤i∧i≤1073741824) (hk:min (max (base - i) 0) (mn:Int)=(k:Int)) :
  Calls Tryz.prog 40 #[.agg #[.int .i64 base,.slice eo n ec],.int .i64 i,.slice mo mn mc] w fun e w'=>e=.returned (.int .i64 k)∧Below w.heap.size w w':=by
 have HB0:Hid (Below w.heap.size w (w.alloc (.cells #[.int .i64 base,.slice eo n ec] 29))):=(Below.refl _ _).alloc (Nat.le_refl _) _
 go_enter Tryz.func40,Tryz.ntmps40
 go_wp2
 go_ret
 exact ⟨rfl,HB0.out⟩
end Go.Proofs.YtbmfahgekcnkaajGreatDoor
namespace Go.Proofs.YtbmfahgekcnkaajGreatDoor
open Go.RowKit
theorem refE_zero {l:LogD} {i:Int} {n:Nat} (h:refE l i n=0):logE l=0∧(0≤i∧i≤1073741824)∧n≤400∧i≤l.base+l.ents.length:=by
 unfold refE at h
 by_cases h0:logE l=0
 ·rw [h0,if_neg (by simp)] at h
  by_cases h1:0≤i∧i≤1073741824
  ·rw [if_neg (not_not_intro h1)] at h
   by_cases h2:400 < n
   ·rw [if_pos h2] at h;exact absurd h (by decide)
   ·rw [if_neg h2] at h
    by_cases h3:lastL l < i
    ·rw [if_pos h3] at h;exact absurd h (by decide)
    ·unfold lastL at h3
     exact ⟨h0,h1,by omega,by omega⟩
  ·rw [if_pos h1] at h;exact absurd h (by decide)
 ·rw [if_pos h0] at h
  exact absurd h h0
theorem putE_ref {l:LogD} {i:Int} {more:List ByteArray}:putE l i more=if refE l i more.length≠0 then refE l i more.length else if firstE (overL l i more)≠0 then firstE (overL l i more) else if 400 < (newL l i more).length then 8 else 0:=by
 unfold putE refE
 by_cases h0:logE l=0
 ·by_cases h1:¬ (0≤i∧i≤1073741824)
  ·simp [h0,h1]
  ·by_cases h2:400 < more.length
   ·simp [h0,h1,h2]
   ·by_cases h3:lastL l < i
    ·simp [h0,h1,h2,h3]
    ·simp [h0,h1,h2,h3]
 ·simp [h0]
theorem putL_bad {l:LogD} {i:Int} {more:List ByteArray} (h:putE l i more≠0):putL l i more=⟨0,[]⟩:=if_neg h
set_option maxRecDepth 100000 in
set_option maxHeartbeats 3200000 in
theorem put_refused (v:Value) (l:LogD) (i:Int) (mv:Value) (more:List ByteArray) (w:World) (B:Nat) (hv:LogR w B v l) (hmv:TextsR w B mv more) (hB:B≤w.heap.size) (hi:-9223372036854775808≤i∧i≤9223372036854775807) (he:refE l i more.length≠0) :
  Calls Tryz.prog 16 #[v,.int .i64 i,mv] w fun e w'=>∃ v',e=.returned (.tuple #[v',.int .i64 (refE l i more.length)])∧LogR w' w'.heap.size v' ⟨0,[]⟩∧Below w.heap.size w w':=by
 have HV:=ghid hv
 obtain ⟨eo,ec,rfl,ht⟩:=hv.shape
 have hmn:=hmv.len
 have HMV:=ghid hmv
 obtain ⟨mo,mc,rfl⟩:=hmv.slice
 have hmc:=hmv.cap
 have hbx:Below w.heap.size w ((w.alloc (.cells #[.int .i64 l.base,.slice eo l.ents.length ec] 29)).alloc (.cells #[.int .i64 0,.slice none 0 0] 29)):=((Below.refl _ _).alloc (Nat.le_refl _) _).alloc (by simp) _
 have CC:=ghid (refusePut_any _ l i mo more.length mc ((w.alloc (.cells #[.int .i64 l.base,.slice eo l.ents.length ec] 29)).alloc (.cells #[.int .i64 0,.slice none 0 0] 29)) B (hv.below hbx hB) (by have:=hbx.size;omega) hi hmn)
 clear hv ht hbx hmv
 obtain ⟨c,hc⟩:∃ c,c=refE l i more.length:=⟨_,rfl⟩
 rw [←hc] at CC he ⊢
 have hcb:(c != 0)=true:=by simpa using he
 clear he hc
 go_enter Tryz.func16,Tryz.ntmps16
 go_wp2_with fail
 refine CC.out.mono ?_
 rintro e w1 ⟨rfl,hb⟩
 obtain ⟨-,hr,hbw⟩:=boxes_after (by simpa using hb)
 obtain ⟨z0,z1,zf,zl⟩:=two_free hr
 have HF:=ghid (zset2 (b:=w.heap.size+1) hbw (by omega) (.int .i64 0) (.slice none 0 0))
 clear hb hbw hr CC
 go_wp2
 refine bodyPost_ret (v:=.tuple #[.agg #[.int .i64 0,.slice none 0 0],.int .i64 c]) (by simp [results,Tryz.results16,go_sem,z0,z1]) rfl ?_
 exact ⟨_,rfl,LogR.nil _ _,HF.out⟩
set_option maxRecDepth 100000 in
set_option maxHeartbeats 3200000 in
theorem put_bad (v:Value) (l:LogD) (i:Int) (mv:Value) (more:List ByteArray) (w:World) (B:Nat) (hv:LogR w B v l) (hmv:TextsR w B mv more) (hB:B≤w.heap.size) (hi:-9223372036854775808≤i∧i≤9223372036854775807) (he:refE l i more.length=0) (hfe:firstE (overL l i more)≠0) :
  Calls Tryz.prog 16 #[v,.int .i64 i,mv] w fun e w'=>∃ v',e=.returned (.tuple #[v',.int .i64 (firstE (overL l i more))])∧LogR w' w'.heap.size v' ⟨0,[]⟩∧Below w.heap.size w w':=by
 have HV:=ghid hv
 obtain ⟨eo,ec,rfl,ht⟩:=hv.shape
 have hmn:=hmv.len
 have HMV:=ghid hmv
 obtain ⟨mo,mc,rfl⟩:=hmv.slice
 have hmc:=hmv.cap
 have hbx:Below w.heap.size w ((w.alloc (.cells #[.int .i64 l.base,.slice eo l.ents.length ec] 29)).alloc (.cells #[.int .i64 0,.slice none 0 0] 29)):=((Below.refl _ _).alloc (Nat.le_refl _) _).alloc (by simp) _
 have CC:=ghid (refusePut_any _ l i mo more.length mc ((w.alloc (.cells #[.int .i64 l.base,.slice eo l.ents.length ec] 29)).alloc (.cells #[.int .i64 0,.slice none 0 0] 29)) B (hv.below hbx hB) (by have:=hbx.size;omega) hi hmn)
 clear hv ht hbx
 obtain ⟨h0,hib,hml,hil⟩:=refE_zero he
 obtain ⟨⟨hb0,hb1,hln⟩,-⟩:=logE_zero h0
 rw [he] at CC
 obtain ⟨base,ts⟩:=l
 simp only at CC HV hb0 hb1 hln hil ⊢
 obtain ⟨p,hp⟩:∃ p:Nat,min (max (base - i) 0) (more.length:Int)=(p:Int):=⟨(min (max (base - i) 0) (more.length:Int)).toNat,by omega⟩
 have hpl:p≤more.length:=by omega
 have CO:=ghid (fun u=>passedOver_any base i eo mo ts.length ec more.length mc p u ⟨hb0,hb1⟩ hib hp)
 have hov:overL ⟨base,ts⟩ i more=more.drop p:=by
  unfold overL
  simp only
  by_cases hle:(base - i).toNat≤more.length
  ·rw [show (base - i).toNat=p by omega]
  ·rw [List.drop_of_length_le (by omega),List.drop_of_length_le (by omega)]
 obtain ⟨f,hf⟩:∃ f:Nat,max (i - base) 0=(f:Int):=⟨(max (i - base) 0).toNat,by omega⟩
 have hfl:f≤ts.length:=by omega
 have hah:aheadL ⟨base,ts⟩ i=f:=by unfold aheadL;simp only;omega
 have HAH:=ghid hah
 have HOV:=ghid hov
 have hec:=HV.out.part.cap
 clear h0 he hp hah hov hmv
 rw [HOV.out] at hfe ⊢
 obtain ⟨c,hc⟩:∃ c,c=firstE (more.drop p):=⟨_,rfl⟩
 rw [←hc] at hfe ⊢
 have HFE:=ghid hc
 have hcb:(c != 0)=true:=by simpa using hfe
 clear hfe hc
 go_enter Tryz.func16,Tryz.ntmps16
 go_wp2_with fail
 refine CC.out.mono ?_
 rintro e w1 ⟨rfl,hb⟩
 obtain ⟨hx,hr,hbw⟩:=boxes_after (by simpa using hb)
 obtain ⟨c0,c1,hcl⟩:=two_cells hx
 have HB:=ghid hbw
 have HX:=ghid hx
 have HR:=ghid hr
 clear hb hx hr hbw CC
 go_wp2_with fail
 refine (CO.out _).mono ?_
 rintro e w2 ⟨rfl,hb2⟩
 have hx2:=(hb2.block w.heap.size hcl).trans HX.out
 have HX2:=ghid hx2
 have hb02:=HB.out.trans (hb2.mono HB.out.size)
 have HB2:=ghid hb02
 have HR2:Hid (w2.heap[w.heap.size+1]?=_):=(hb2.block _ (Array.getElem?_eq_some_iff.1 HR.out).1).trans HR.out
 clear hb2 hx2 hb02 c0 c1 hcl CO
 go_wp2_with fail
 all_goals
  have htl:=(HMV.out.below HB2.out hB).tail (k:=p) hpl
  have HU:=ghid (show TextsR w2 B _ (more.drop p) by first | exact htl.1 (by assumption) | exact htl.1 rfl | exact htl.2 (by assumption) | exact htl.2 (by omega))
  have hw2:B≤w2.heap.size:=by have:=HB2.out.size;omega
  have CK:=ghid (checkEntries_any _ (more.drop p) w2 B HU.out hw2)
  rw [←HFE.out] at CK
  clear htl
  refine CK.out.mono ?_
  rintro e w3 ⟨rfl,hb3⟩
  have hx3:=(hb3.block w.heap.size (Array.getElem?_eq_some_iff.1 HX2.out).1).trans HX2.out
  have hr3:=(hb3.block (w.heap.size+1) (Array.getElem?_eq_some_iff.1 HR2.out).1).trans HR2.out
  have HX3:=ghid hx3
  have HR3:=ghid hr3
  have HB3:=ghid (HB2.out.trans (hb3.mono HB2.out.size))
  have HU3:=ghid (HU.out.below hb3 hw2)
  have hw3:B≤w3.heap.size:=by have:=HB3.out.size;omega
  clear hb3 CK hw2
  obtain ⟨z0,z1,zf,zl⟩:=two_free hr3
  have HF:=ghid (zset2 (b:=w.heap.size+1) HB3.out (by omega) (.int .i64 0) (.slice none 0 0))
  clear hx3 hr3
  go_wp2
  refine bodyPost_ret (v:=.tuple #[.agg #[.int .i64 0,.slice none 0 0],.int .i64 c]) (by simp [results,Tryz.results16,go_sem,z0,z1]) rfl ?_
  exact ⟨_,rfl,LogR.nil _ _,HF.out⟩
set_option maxRecDepth 100000 in
set_option maxHeartbeats 3200000 in
theorem put_full (v:Value) (l:LogD) (i:Int) (mv:Value) (more:List ByteArray) (w:World) (B:Nat) (hv:LogR w B v l) (hmv:TextsR w B mv more) (hB:B≤w.heap.size) (hi:-9223372036854775808≤i∧i≤9223372036854775807) (he:refE l i more.length=0) (hfe:firstE (overL l i more)=0) (hfu:400 < aheadL l i+(overL l i more).length) :
  Calls Tryz.prog 16 #[v,.int .i64 i,mv] w fun e w'=>∃ v',e=.returned (.tuple #[v',.int .i64 8])∧LogR w' w'.heap.size v' ⟨0,[]⟩∧Below w.heap.size w w':=by
 have HV:=ghid hv
 obtain ⟨eo,ec,rfl,ht⟩:=hv.shape
 have hmn:=hmv.len
 have HMV:=ghid hmv
 obtain ⟨mo,mc,rfl⟩:=hmv.slice
 have hmc:=hmv.cap
 have hbx:Below w.heap.size w ((w.alloc (.cells #[.int .i64 l.base,.slice eo l.ents.length ec] 29)).alloc (.cells #[.int .i64 0,.slice none 0 0] 29)):=((Below.refl _ _).alloc (Nat.le_refl _) _).alloc (by simp) _
 have CC:=ghid (refusePut_any _ l i mo more.length mc ((w.alloc (.cells #[.int .i64 l.base,.slice eo l.ents.length ec] 29)).alloc (.cells #[.int .i64 0,.slice none 0 0] 29)) B (hv.below hbx hB) (by have:=hbx.size;omega) hi hmn)
 clear hv ht hbx
 obtain ⟨h0,hib,hml,hil⟩:=refE_zero he
 obtain ⟨⟨hb0,hb1,hln⟩,-⟩:=logE_zero h0
 rw [he] at CC
 obtain ⟨base,ts⟩:=l
 simp only at CC HV hb0 hb1 hln hil ⊢
 obtain ⟨p,hp⟩:∃ p:Nat,min (max (base - i) 0) (more.length:Int)=(p:Int):=⟨(min (max (base - i) 0) (more.length:Int)).toNat,by omega⟩
 have hpl:p≤more.length:=by omega
 have CO:=ghid (fun u=>passedOver_any base i eo mo ts.length ec more.length mc p u ⟨hb0,hb1⟩ hib hp)
 have hov:overL ⟨base,ts⟩ i more=more.drop p:=by
  unfold overL
  simp only
  by_cases hle:(base - i).toNat≤more.length
  ·rw [show (base - i).toNat=p by omega]
  ·rw [List.drop_of_length_le (by omega),List.drop_of_length_le (by omega)]
 obtain ⟨f,hf⟩:∃ f:Nat,max (i - base) 0=(f:Int):=⟨(max (i - base) 0).toNat,by omega⟩
 have hfl:f≤ts.length:=by omega
 have hah:aheadL ⟨base,ts⟩ i=f:=by unfold aheadL;simp only;omega
 have HAH:=ghid hah
 have HOV:=ghid hov
 have hec:=HV.out.part.cap
 clear h0 he hp hah hov hmv
 rw [HOV.out] at hfe
 have HFE:Hid (0=firstE (more.drop p)):=hfe.symm
 clear hfe
 rw [HOV.out,HAH.out,List.length_drop] at hfu
 have hfi:(400:Int) < (f:Int)+((more.length - p:Nat):Int):=by omega
 go_enter Tryz.func16,Tryz.ntmps16
 go_wp2_with fail
 refine CC.out.mono ?_
 rintro e w1 ⟨rfl,hb⟩
 obtain ⟨hx,hr,hbw⟩:=boxes_after (by simpa using hb)
 obtain ⟨c0,c1,hcl⟩:=two_cells hx
 have HB:=ghid hbw
 have HX:=ghid hx
 have HR:=ghid hr
 clear hb hx hr hbw CC
 go_wp2_with fail
 refine (CO.out _).mono ?_
 rintro e w2 ⟨rfl,hb2⟩
 have hx2:=(hb2.block w.heap.size hcl).trans HX.out
 have HX2:=ghid hx2
 have hb02:=HB.out.trans (hb2.mono HB.out.size)
 have HB2:=ghid hb02
 have HR2:Hid (w2.heap[w.heap.size+1]?=_):=(hb2.block _ (Array.getElem?_eq_some_iff.1 HR.out).1).trans HR.out
 clear hb2 hx2 hb02 c0 c1 hcl CO
 go_wp2_with fail
 all_goals
  have htl:=(HMV.out.below HB2.out hB).tail (k:=p) hpl
  have HU:=ghid (show TextsR w2 B _ (more.drop p) by first | exact htl.1 (by assumption) | exact htl.1 rfl | exact htl.2 (by assumption) | exact htl.2 (by omega))
  have hw2:B≤w2.heap.size:=by have:=HB2.out.size;omega
  have CK:=ghid (checkEntries_any _ (more.drop p) w2 B HU.out hw2)
  rw [←HFE.out] at CK
  clear htl
  refine CK.out.mono ?_
  rintro e w3 ⟨rfl,hb3⟩
  have hx3:=(hb3.block w.heap.size (Array.getElem?_eq_some_iff.1 HX2.out).1).trans HX2.out
  have hr3:=(hb3.block (w.heap.size+1) (Array.getElem?_eq_some_iff.1 HR2.out).1).trans HR2.out
  have HX3:=ghid hx3
  have HR3:=ghid hr3
  have HB3:=ghid (HB2.out.trans (hb3.mono HB2.out.size))
  have HU3:=ghid (HU.out.below hb3 hw2)
  have hw3:B≤w3.heap.size:=by have:=HB3.out.size;omega
  clear hb3 CK hw2
  obtain ⟨z0,z1,zf,zl⟩:=two_free hr3
  obtain ⟨d0,d1,hdl⟩:=two_cells hx3
  have HF:=ghid (zset2 (b:=w.heap.size+1) HB3.out (by omega) (.int .i64 0) (.slice none 0 0))
  clear hx3 hr3
  go_wp2
  refine bodyPost_ret (v:=.tuple #[.agg #[.int .i64 0,.slice none 0 0],.int .i64 8]) (by simp [results,Tryz.results16,go_sem,z0,z1]) rfl ?_
  exact ⟨_,rfl,LogR.nil _ _,HF.out⟩
end Go.Proofs.YtbmfahgekcnkaajGreatDoor
namespace Go.Proofs.YtbmfahgekcnkaajGreatDoor
open Go.RowKit
set_option maxRecDepth 100000 in
set_option maxHeartbeats 3200000 in
theorem put_stands (v : Value) (l : LogD) (i : Int) (mv : Value) (more : List ByteArray) (w : World) (B : Nat) (hv : LogR w B v l) (hmv : TextsR w B mv more) (hB : B ≤ w.heap.size) (hi : -9223372036854775808 ≤ i ∧ i ≤ 9223372036854775807) (he : refE l i more.length = 0) (hfe : firstE (overL l i more) = 0) (hop : opens (overL l i more) (l.ents.drop (aheadL l i)) = true) :
    Calls Tryz.prog 16 #[v, .int .i64 i, mv] w fun e w' => ∃ v', e = .returned (.tuple #[v', .int .i64 0]) ∧ NewR w.heap.size w' (fun u => LogR u u.heap.size v' l) ∧ Below w.heap.size w w' := by
  have HV := ghid hv
  obtain ⟨eo, ec, rfl, ht⟩ := hv.shape
  have hmn := hmv.len
  have HMV := ghid hmv
  obtain ⟨mo, mc, rfl⟩ := hmv.slice
  have hmc := hmv.cap
  have hbx : Below w.heap.size w ((w.alloc (.cells #[.int .i64 l.base, .slice eo l.ents.length ec] 29)).alloc (.cells #[.int .i64 0, .slice none 0 0] 29)) := ((Below.refl _ _).alloc (Nat.le_refl _) _).alloc (by simp) _
  have CC := ghid (refusePut_any _ l i mo more.length mc ((w.alloc (.cells #[.int .i64 l.base, .slice eo l.ents.length ec] 29)).alloc (.cells #[.int .i64 0, .slice none 0 0] 29)) B (hv.below hbx hB) (by have := hbx.size; omega) hi hmn)
  clear hv ht hbx
  obtain ⟨h0, hib, hml, hil⟩ := refE_zero he
  obtain ⟨⟨hb0, hb1, hln⟩, -⟩ := logE_zero h0
  rw [he] at CC
  obtain ⟨base, ts⟩ := l
  simp only at CC HV hb0 hb1 hln hil ⊢
  obtain ⟨p, hp⟩ : ∃ p : Nat, min (max (base - i) 0) (more.length : Int) = (p : Int) := ⟨(min (max (base - i) 0) (more.length : Int)).toNat, by omega⟩
  have hpl : p ≤ more.length := by omega
  have CO := ghid (fun u => passedOver_any base i eo mo ts.length ec more.length mc p u ⟨hb0, hb1⟩ hib hp)
  have hov : overL ⟨base, ts⟩ i more = more.drop p := by
    unfold overL
    simp only
    by_cases hle : (base - i).toNat ≤ more.length
    · rw [show (base - i).toNat = p by omega]
    · rw [List.drop_of_length_le (by omega), List.drop_of_length_le (by omega)]
  obtain ⟨f, hf⟩ : ∃ f : Nat, max (i - base) 0 = (f : Int) := ⟨(max (i - base) 0).toNat, by omega⟩
  have hfl : f ≤ ts.length := by omega
  have hah : aheadL ⟨base, ts⟩ i = f := by unfold aheadL; simp only; omega
  have HAH := ghid hah
  have HOV := ghid hov
  have hec := HV.out.part.cap
  clear h0 he hp hah hov hmv
  rw [HOV.out] at hfe
  have HFE : Hid (0 = firstE (more.drop p)) := hfe.symm
  clear hfe
  rw [HOV.out, HAH.out] at hop
  have hfu : f + (more.length - p) ≤ 400 := by
    have := congrArg List.length (opens_iff.1 hop)
    simp only [List.length_take, List.length_drop] at this
    omega
  have hfi : (f : Int) + ((more.length - p : Nat) : Int) ≤ 400 := by omega
  have HOP := ghid hop
  clear hop
  go_enter Tryz.func16, Tryz.ntmps16
  go_wp2_with fail
  refine CC.out.mono ?_
  rintro e w1 ⟨rfl, hb⟩
  obtain ⟨hx, hr, hbw⟩ := boxes_after (by simpa using hb)
  obtain ⟨c0, c1, hcl⟩ := two_cells hx
  have HB := ghid hbw
  have HX := ghid hx
  have HR := ghid hr
  clear hb hx hr hbw CC
  go_wp2_with fail
  refine (CO.out _).mono ?_
  rintro e w2 ⟨rfl, hb2⟩
  have hx2 := (hb2.block w.heap.size hcl).trans HX.out
  have HX2 := ghid hx2
  have hb02 := HB.out.trans (hb2.mono HB.out.size)
  have HB2 := ghid hb02
  have HR2 : Hid (w2.heap[w.heap.size + 1]? = _) := (hb2.block _ (Array.getElem?_eq_some_iff.1 HR.out).1).trans HR.out
  clear hb2 hx2 hb02 c0 c1 hcl CO
  go_wp2_with fail
  all_goals
    have htl := (HMV.out.below HB2.out hB).tail (k := p) hpl
    have HU := ghid (show TextsR w2 B _ (more.drop p) by first | exact htl.1 (by assumption) | exact htl.1 rfl | exact htl.2 (by assumption) | exact htl.2 (by omega))
    have hw2 : B ≤ w2.heap.size := by have := HB2.out.size; omega
    have CK := ghid (checkEntries_any _ (more.drop p) w2 B HU.out hw2)
    rw [← HFE.out] at CK
    clear htl
    refine CK.out.mono ?_
    rintro e w3 ⟨rfl, hb3⟩
    have hx3 := (hb3.block w.heap.size (Array.getElem?_eq_some_iff.1 HX2.out).1).trans HX2.out
    have hr3 := (hb3.block (w.heap.size + 1) (Array.getElem?_eq_some_iff.1 HR2.out).1).trans HR2.out
    have HX3 := ghid hx3
    have HR3 := ghid hr3
    have HB3 := ghid (HB2.out.trans (hb3.mono HB2.out.size))
    have HU3 := ghid (HU.out.below hb3 hw2)
    have hw3 : B ≤ w3.heap.size := by have := HB3.out.size; omega
    clear hb3 CK hw2
    obtain ⟨d0, d1, hdl⟩ := two_cells hx3
    clear hx3 hr3
    go_wp2_with fail
    all_goals
      have htl2 := (HV.out.part.below HB3.out hB).tail (k := f) hfl
      have HT := ghid (show TextsR w3 B _ (ts.drop f) by first | exact htl2.1 (by assumption) | exact htl2.1 rfl | exact htl2.2 (by assumption) | exact htl2.2 (by omega))
      clear htl2
      first
        | (have hef : f = ec := Eq.symm (by assumption)
           subst hef)
        | skip
      refine (beginsWith_below _ _ (ts.drop f) (more.drop p) w3 B B HT.out HU3.out).mono ?_
      rintro e w4 ⟨rfl, hb4⟩
      rw [HOP.out]
      have hx4 := (hb4.block w.heap.size (Array.getElem?_eq_some_iff.1 HX3.out).1).trans HX3.out
      have hr4 := (hb4.block (w.heap.size + 1) (Array.getElem?_eq_some_iff.1 HR3.out).1).trans HR3.out
      have HX4 := ghid hx4
      have HR4 := ghid hr4
      have HB4 := ghid (HB3.out.trans (hb4.mono HB3.out.size))
      have HU4 := ghid (HU3.out.below hb4 hw3)
      have hw4 : B ≤ w4.heap.size := by have := HB4.out.size; omega
      have hrl : w.heap.size + 1 < w4.heap.size := (Array.getElem?_eq_some_iff.1 hr4).1
      clear hb4 HX3 HR3 HU3 HT hw3 d0 d1 hdl
      obtain ⟨d0, d1, hdl⟩ := two_cells hx4
      have CP := ghid (logCopy_own _ ⟨base, ts⟩ w4 B (HV.out.below HB4.out hB) hw4)
      simp only at CP
      go_wp2_with fail
      refine CP.out.mono ?_
      rintro e w5 ⟨vo, vc, rfl, hown5, hb5⟩
      have hr5 := (hb5.block (w.heap.size + 1) hrl).trans HR4.out
      obtain ⟨z0, z1, zf, zl⟩ := two_free hr5
      have HR1 := ghid (row_reads2 (b := w.heap.size + 1) hown5 HV.out.part.sizes HV.out.part.len (by omega) (.int .i64 base) (.slice vo ts.length vc))
      have HB5 := ghid (zset2 (b := w.heap.size + 1) (HB4.out.trans (hb5.mono HB4.out.size)) (by omega) (.int .i64 base) (.slice vo ts.length vc))
      clear hown5 hb5 hr5 CP
      go_wp2
      refine bodyPost_ret (v := .tuple #[.agg #[.int .i64 base, .slice vo ts.length vc], .int .i64 0]) (by simp [results, Tryz.results16, go_sem, z0, z1]) rfl ?_
      exact ⟨_, rfl, (HR1.out.mono (by omega)).imp fun _ h => ⟨_, rfl, h⟩, HB5.out⟩
set_option maxRecDepth 100000 in
set_option maxHeartbeats 3200000 in
theorem put_anew (v : Value) (l : LogD) (i : Int) (mv : Value) (more : List ByteArray) (w : World) (B : Nat) (hv : LogR w B v l) (hmv : TextsR w B mv more) (hB : B ≤ w.heap.size) (hi : -9223372036854775808 ≤ i ∧ i ≤ 9223372036854775807) (he : refE l i more.length = 0) (hfe : firstE (overL l i more) = 0) (hop : opens (overL l i more) (l.ents.drop (aheadL l i)) = false) (hfu : aheadL l i + (overL l i more).length ≤ 400) :
    Calls Tryz.prog 16 #[v, .int .i64 i, mv] w fun e w' => ∃ v', e = .returned (.tuple #[v', .int .i64 0]) ∧ NewR w.heap.size w' (fun u => LogR u u.heap.size v' ⟨l.base, l.ents.take (aheadL l i) ++ overL l i more⟩) ∧ Below w.heap.size w w' := by
  have HV := ghid hv
  obtain ⟨eo, ec, rfl, ht⟩ := hv.shape
  have hmn := hmv.len
  have HMV := ghid hmv
  obtain ⟨mo, mc, rfl⟩ := hmv.slice
  have hmc := hmv.cap
  have hbx : Below w.heap.size w ((w.alloc (.cells #[.int .i64 l.base, .slice eo l.ents.length ec] 29)).alloc (.cells #[.int .i64 0, .slice none 0 0] 29)) := ((Below.refl _ _).alloc (Nat.le_refl _) _).alloc (by simp) _
  have CC := ghid (refusePut_any _ l i mo more.length mc ((w.alloc (.cells #[.int .i64 l.base, .slice eo l.ents.length ec] 29)).alloc (.cells #[.int .i64 0, .slice none 0 0] 29)) B (hv.below hbx hB) (by have := hbx.size; omega) hi hmn)
  clear hv ht hbx
  obtain ⟨h0, hib, hml, hil⟩ := refE_zero he
  obtain ⟨⟨hb0, hb1, hln⟩, -⟩ := logE_zero h0
  rw [he] at CC
  obtain ⟨base, ts⟩ := l
  simp only at CC HV hb0 hb1 hln hil ⊢
  obtain ⟨p, hp⟩ : ∃ p : Nat, min (max (base - i) 0) (more.length : Int) = (p : Int) := ⟨(min (max (base - i) 0) (more.length : Int)).toNat, by omega⟩
  have hpl : p ≤ more.length := by omega
  have CO := ghid (fun u => passedOver_any base i eo mo ts.length ec more.length mc p u ⟨hb0, hb1⟩ hib hp)
  have hov : overL ⟨base, ts⟩ i more = more.drop p := by
    unfold overL
    simp only
    by_cases hle : (base - i).toNat ≤ more.length
    · rw [show (base - i).toNat = p by omega]
    · rw [List.drop_of_length_le (by omega), List.drop_of_length_le (by omega)]
  obtain ⟨f, hf⟩ : ∃ f : Nat, max (i - base) 0 = (f : Int) := ⟨(max (i - base) 0).toNat, by omega⟩
  have hfl : f ≤ ts.length := by omega
  have hah : aheadL ⟨base, ts⟩ i = f := by unfold aheadL; simp only; omega
  have HAH := ghid hah
  have HOV := ghid hov
  have hec := HV.out.part.cap
  clear h0 he hp hah hov hmv
  rw [HOV.out] at hfe
  have HFE : Hid (0 = firstE (more.drop p)) := hfe.symm
  clear hfe
  rw [HOV.out, HAH.out] at hop
  rw [HOV.out, HAH.out, List.length_drop] at hfu
  rw [HOV.out, HAH.out]
  have hfi : (f : Int) + ((more.length - p : Nat) : Int) ≤ 400 := by omega
  have hfc : (f : Int) ≤ (ec : Int) := by omega
  have hfp : 0 ≤ (f : Int) := by omega
  have HOP := ghid hop
  have HLU : Hid ((ts.take f ++ more.drop p).length * 16 ≤ 140737488351232) := (by rw [List.length_append, List.length_take, List.length_drop]; omega : (ts.take f ++ more.drop p).length * 16 ≤ 140737488351232)
  have HMU : Hid (∀ t ∈ ts.take f ++ more.drop p, t.size ≤ 140737488351232) := fun t ht => by
    rcases List.mem_append.1 ht with h | h
    · exact HV.out.part.sizes t (List.mem_of_mem_take h)
    · exact HMV.out.sizes t (List.mem_of_mem_drop h)
  clear hop
  go_enter Tryz.func16, Tryz.ntmps16
  go_wp2_with fail
  refine CC.out.mono ?_
  rintro e w1 ⟨rfl, hb⟩
  obtain ⟨hx, hr, hbw⟩ := boxes_after (by simpa using hb)
  obtain ⟨c0, c1, hcl⟩ := two_cells hx
  have HB := ghid hbw
  have HX := ghid hx
  have HR := ghid hr
  clear hb hx hr hbw CC
  go_wp2_with fail
  refine (CO.out _).mono ?_
  rintro e w2 ⟨rfl, hb2⟩
  have hx2 := (hb2.block w.heap.size hcl).trans HX.out
  have HX2 := ghid hx2
  have hb02 := HB.out.trans (hb2.mono HB.out.size)
  have HB2 := ghid hb02
  have HR2 : Hid (w2.heap[w.heap.size + 1]? = _) := (hb2.block _ (Array.getElem?_eq_some_iff.1 HR.out).1).trans HR.out
  clear hb2 hx2 hb02 c0 c1 hcl CO
  go_wp2_with fail
  all_goals
    have htl := (HMV.out.below HB2.out hB).tail (k := p) hpl
    have HU := ghid (show TextsR w2 B _ (more.drop p) by first | exact htl.1 (by assumption) | exact htl.1 rfl | exact htl.2 (by assumption) | exact htl.2 (by omega))
    have hw2 : B ≤ w2.heap.size := by have := HB2.out.size; omega
    have CK := ghid (checkEntries_any _ (more.drop p) w2 B HU.out hw2)
    rw [← HFE.out] at CK
    clear htl
    refine CK.out.mono ?_
    rintro e w3 ⟨rfl, hb3⟩
    have hx3 := (hb3.block w.heap.size (Array.getElem?_eq_some_iff.1 HX2.out).1).trans HX2.out
    have hr3 := (hb3.block (w.heap.size + 1) (Array.getElem?_eq_some_iff.1 HR2.out).1).trans HR2.out
    have HX3 := ghid hx3
    have HR3 := ghid hr3
    have HB3 := ghid (HB2.out.trans (hb3.mono HB2.out.size))
    have HU3 := ghid (HU.out.below hb3 hw2)
    have hw3 : B ≤ w3.heap.size := by have := HB3.out.size; omega
    clear hb3 CK hw2
    obtain ⟨d0, d1, hdl⟩ := two_cells hx3
    clear hx3 hr3
    go_wp2_with fail
    all_goals
      have htl2 := (HV.out.part.below HB3.out hB).tail (k := f) hfl
      have HT := ghid (show TextsR w3 B _ (ts.drop f) by first | exact htl2.1 (by assumption) | exact htl2.1 rfl | exact htl2.2 (by assumption) | exact htl2.2 (by omega))
      clear htl2
      first
        | (have hef : f = ec := Eq.symm (by assumption)
           subst hef)
        | skip
      refine (beginsWith_below _ _ (ts.drop f) (more.drop p) w3 B B HT.out HU3.out).mono ?_
      rintro e w4 ⟨rfl, hb4⟩
      rw [HOP.out]
      have hx4 := (hb4.block w.heap.size (Array.getElem?_eq_some_iff.1 HX3.out).1).trans HX3.out
      have hr4 := (hb4.block (w.heap.size + 1) (Array.getElem?_eq_some_iff.1 HR3.out).1).trans HR3.out
      have HX4 := ghid hx4
      have HR4 := ghid hr4
      have HB4 := ghid (HB3.out.trans (hb4.mono HB3.out.size))
      have HU4 := ghid (HU3.out.below hb4 hw3)
      have hw4 : B ≤ w4.heap.size := by have := HB4.out.size; omega
      have hrl : w.heap.size + 1 < w4.heap.size := (Array.getElem?_eq_some_iff.1 hr4).1
      clear hb4 HX3 HR3 HU3 HT hw3 d0 d1 hdl
      obtain ⟨d0, d1, hdl⟩ := two_cells hx4
      have CJ := ghid (join_twoD w4 B _ _ (ts.take f) (more.drop p) ((HV.out.part.below HB4.out hB).front (k := f) hfl) HU4.out hw4 (by rw [List.length_take, List.length_drop]; omega))
      obtain ⟨n, hn⟩ : ∃ n, n = (ts.take f ++ more.drop p).length := ⟨_, rfl⟩
      rw [← hn] at CJ
      have HN := ghid hn
      clear hn
      go_wp2_with fail
      first
        | (go_region_held3 (fun w' => w'.cell? ⟨w.heap.size, 0, none⟩ = some (.int .i64 base) ∧ w'.cell? ⟨w.heap.size, 1, none⟩ = some (.slice eo ts.length ec)) (go_keep)
             (first
             | (go_at_call 43; refine CJ.out.mono ?_; rintro e w5 ⟨vo, vc, rfl, hown5, hb5⟩; have hx5 := (hb5.block w.heap.size hdl).trans HX4.out; obtain ⟨x0, x1, xl⟩ := two_cells hx5; have hr5 := (hb5.block (w.heap.size + 1) hrl).trans HR4.out; obtain ⟨z0, z1, zf, zl⟩ := two_free hr5)))
        | (go_region_held3 (fun w' => w'.cell? ⟨w.heap.size, 0, none⟩ = some (.int .i64 base) ∧ w'.cell? ⟨w.heap.size, 1, none⟩ = some (.slice eo ts.length f)) (go_keep)
             (first
             | (go_at_call 43; refine CJ.out.mono ?_; rintro e w5 ⟨vo, vc, rfl, hown5, hb5⟩; have hx5 := (hb5.block w.heap.size hdl).trans HX4.out; obtain ⟨x0, x1, xl⟩ := two_cells hx5; have hr5 := (hb5.block (w.heap.size + 1) hrl).trans HR4.out; obtain ⟨z0, z1, zf, zl⟩ := two_free hr5)))
      have HR1 := ghid (row_reads2 (b := w.heap.size + 1) (HN.out ▸ hown5) HMU.out HLU.out (by omega) (.int .i64 base) (.slice vo n vc))
      rw [← HN.out] at HR1
      have HB5 := ghid (zset2 (b := w.heap.size + 1) (HB4.out.trans (hb5.mono HB4.out.size)) (by omega) (.int .i64 base) (.slice vo n vc))
      clear hown5 hb5 hr5 CJ
      go_wp2
      refine bodyPost_ret (v := .tuple #[.agg #[.int .i64 base, .slice vo n vc], .int .i64 0]) (by simp [results, Tryz.results16, go_sem, z0, z1]) rfl ?_
      exact ⟨_, rfl, (HR1.out.mono (by omega)).imp fun _ h => ⟨_, rfl, h⟩, HB5.out⟩
end Go.Proofs.YtbmfahgekcnkaajGreatDoor
namespace Go.Proofs.YtbmfahgekcnkaajGreatDoor
open Go.RowKit
set_option maxRecDepth 100000 in
set_option maxHeartbeats 1600000 in
theorem cut_new (v:Value) (l:LogD) (i:Int) (w:World) (B:Nat) (hv:LogR w B v l) (hB:B≤w.heap.size) (hi:-9223372036854775808≤i∧i≤9223372036854775807) :
  Calls Tryz.prog 25 #[v,.int .i64 i] w fun e w'=>∃ v',e=.returned (.tuple #[v',.int .i64 (cutE l i)])∧NewR w.heap.size w' (fun u=>LogR u u.heap.size v' (cutL l i))∧Below w.heap.size w w':=by
 have HV:=ghid hv
 obtain ⟨eo,ec,rfl,ht⟩:=hv.shape
 have hbx:Below w.heap.size w ((w.alloc (.cells #[.int .i64 l.base,.slice eo l.ents.length ec] 29)).alloc (.cells #[.int .i64 0,.slice none 0 0] 29)):=((Below.refl _ _).alloc (Nat.le_refl _) _).alloc (by simp) _
 have CC:=ghid (logCheck_any _ l ((w.alloc (.cells #[.int .i64 l.base,.slice eo l.ents.length ec] 29)).alloc (.cells #[.int .i64 0,.slice none 0 0] 29)) B (hv.below hbx hB) (by have:=hbx.size;omega))
 clear hv ht hbx
 by_cases h0:logE l=0
 ·obtain ⟨⟨hb0,hb1,hln⟩,-⟩:=logE_zero h0
  rw [h0] at CC
  have CL:=ghid (fun u=>last_raw l.base eo l.ents.length ec u ⟨hb0,hb1,hln⟩)
  obtain ⟨base,ts⟩:=l
  simp only at CC CL HV hb0 hb1 hln ⊢
  have HE0:=ghid h0
  clear h0
  by_cases h1:i < base
  ·have HE:Hid (cutE ⟨base,ts⟩ i=2):=by
    unfold Hid cutE lastL
    rw [HE0.out,if_neg (by simp),if_pos (by simp only;omega)]
   have HL:Hid (cutL ⟨base,ts⟩ i=⟨0,[]⟩):=by
    unfold Hid cutL
    rw [if_neg (by rw [HE.out];decide)]
   rw [HE.out,HL.out]
   go_enter Tryz.func25,Tryz.ntmps25
   go_wp2_with fail
   refine CC.out.mono ?_
   rintro e w1 ⟨rfl,hb⟩
   obtain ⟨hx,hr,hbw⟩:=boxes_after (by simpa using hb)
   obtain ⟨c0,c1,hcl⟩:=two_cells hx
   have HB:=ghid hbw
   obtain ⟨z0,z1,zf,zl⟩:=two_free hr
   have HF:=ghid (zset2 (b:=w.heap.size+1) HB.out (by omega) (.int .i64 0) (.slice none 0 0))
   clear hb hx hr hbw CC
   go_wp2
   refine bodyPost_ret (v:=.tuple #[.agg #[.int .i64 0,.slice none 0 0],.int .i64 2]) (by simp [results,Tryz.results25,go_sem,z0,z1]) rfl ?_
   exact ⟨_,rfl,NewR.of _ _ fun _=>LogR.nil _ _,HF.out⟩
  ·by_cases h2:base+ts.length < i
   ·have HE:Hid (cutE ⟨base,ts⟩ i=2):=by
     unfold Hid cutE lastL
     rw [HE0.out,if_neg (by simp),if_pos (by simp only;omega)]
    have HL:Hid (cutL ⟨base,ts⟩ i=⟨0,[]⟩):=by
     unfold Hid cutL
     rw [if_neg (by rw [HE.out];decide)]
    rw [HE.out,HL.out]
    go_enter Tryz.func25,Tryz.ntmps25
    go_wp2_with fail
    refine CC.out.mono ?_
    rintro e w1 ⟨rfl,hb⟩
    obtain ⟨hx,hr,hbw⟩:=boxes_after (by simpa using hb)
    obtain ⟨c0,c1,hcl⟩:=two_cells hx
    have HB:=ghid hbw
    have HR:=ghid hr
    clear hb hx hr hbw CC
    go_wp2_with fail
    refine (CL.out _).mono ?_
    rintro e w2 ⟨rfl,hb2⟩
    have hr2:w2.heap[w.heap.size+1]?=_:=(hb2.block _ (Array.getElem?_eq_some_iff.1 HR.out).1).trans HR.out
    obtain ⟨z0,z1,zf,zl⟩:=two_free hr2
    have HF:=ghid (zset2 (b:=w.heap.size+1) (HB.out.trans (hb2.mono HB.out.size)) (by omega) (.int .i64 0) (.slice none 0 0))
    clear hb2 hr2 c0 c1 hcl
    go_wp2
    refine bodyPost_ret (v:=.tuple #[.agg #[.int .i64 0,.slice none 0 0],.int .i64 2]) (by simp [results,Tryz.results25,go_sem,z0,z1]) rfl ?_
    exact ⟨_,rfl,NewR.of _ _ fun _=>LogR.nil _ _,HF.out⟩
   ·by_cases h3:1073741424 < i
    ·have HE:Hid (cutE ⟨base,ts⟩ i=8):=by
      unfold Hid cutE lastL
      rw [HE0.out,if_neg (by simp),if_neg (by simp only;omega),if_pos h3]
     have HL:Hid (cutL ⟨base,ts⟩ i=⟨0,[]⟩):=by
      unfold Hid cutL
      rw [if_neg (by rw [HE.out];decide)]
     rw [HE.out,HL.out]
     go_enter Tryz.func25,Tryz.ntmps25
     go_wp2_with fail
     refine CC.out.mono ?_
     rintro e w1 ⟨rfl,hb⟩
     obtain ⟨hx,hr,hbw⟩:=boxes_after (by simpa using hb)
     obtain ⟨c0,c1,hcl⟩:=two_cells hx
     have HB:=ghid hbw
     have HR:=ghid hr
     clear hb hx hr hbw CC
     go_wp2_with fail
     refine (CL.out _).mono ?_
     rintro e w2 ⟨rfl,hb2⟩
     have hr2:w2.heap[w.heap.size+1]?=_:=(hb2.block _ (Array.getElem?_eq_some_iff.1 HR.out).1).trans HR.out
     obtain ⟨z0,z1,zf,zl⟩:=two_free hr2
     have HF:=ghid (zset2 (b:=w.heap.size+1) (HB.out.trans (hb2.mono HB.out.size)) (by omega) (.int .i64 0) (.slice none 0 0))
     clear hb2 hr2 c0 c1 hcl
     go_wp2
     refine bodyPost_ret (v:=.tuple #[.agg #[.int .i64 0,.slice none 0 0],.int .i64 8]) (by simp [results,Tryz.results25,go_sem,z0,z1]) rfl ?_
     exact ⟨_,rfl,NewR.of _ _ fun _=>LogR.nil _ _,HF.out⟩
    ·have HE:Hid (cutE ⟨base,ts⟩ i=0):=by
      unfold Hid cutE lastL
      rw [HE0.out,if_neg (by simp),if_neg (by simp only;omega),if_neg h3]
     have HL:Hid (cutL ⟨base,ts⟩ i=⟨i,ts.drop (i - base).toNat⟩):=by
      unfold Hid cutL
      rw [if_pos HE.out]
     rw [HE.out,HL.out]
     have hi1:0≤i - base:=by omega
     have hi2:i - base≤(ts.length:Int):=by omega
     have hec:=HV.out.part.cap
     have HM:=ghid HV.out.part.sizes
     go_enter Tryz.func25,Tryz.ntmps25
     go_wp2_with fail
     refine CC.out.mono ?_
     rintro e w1 ⟨rfl,hb⟩
     obtain ⟨hx,hr,hbw⟩:=boxes_after (by simpa using hb)
     obtain ⟨c0,c1,hcl⟩:=two_cells hx
     have HB:=ghid hbw
     have HX:=ghid hx
     have HR:=ghid hr
     clear hb hx hr hbw CC
     go_wp2_with fail
     refine (CL.out _).mono ?_
     rintro e w2 ⟨rfl,hb2⟩
     have hx2:=(hb2.block w.heap.size hcl).trans HX.out
     obtain ⟨d0,d1,hdl⟩:=two_cells hx2
     have hb02:=HB.out.trans (hb2.mono HB.out.size)
     have HB2:=ghid hb02
     have HR2:Hid (w2.heap[w.heap.size+1]?=_):=(hb2.block _ (Array.getElem?_eq_some_iff.1 HR.out).1).trans HR.out
     clear hb2 hx2 hb02 c0 c1 hcl
     go_wp2_with fail
     all_goals
      have htl:=(HV.out.part.below HB2.out hB).tail (k:=(i - base).toNat) (by omega)
      have CJ:=ghid (join_one w2 B _ _ (by first | exact htl.1 (by assumption) | exact htl.2 (by assumption)) (by have:=HB2.out.size;omega))
      have HLD:Hid ((ts.drop (i - base).toNat).length*16≤140737488351232):=(by rw [List.length_drop];omega:(ts.drop (i - base).toNat).length*16≤140737488351232)
      clear htl d0 d1 hdl
      refine CJ.out.mono ?_
      rintro e w3 ⟨vo,vc,rfl,hown,hb3⟩
      have hrx:w3.heap[w.heap.size+1]?=_:=(hb3.block _ (Array.getElem?_eq_some_iff.1 HR2.out).1).trans HR2.out
      obtain ⟨z0,z1,zf,zl⟩:=two_free hrx
      have HR1:=ghid (row_reads2 (b:=w.heap.size+1) hown (fun t ht=>HM.out t (List.mem_of_mem_drop ht)) HLD.out (by have:=(Array.getElem?_eq_some_iff.1 HR2.out).1;omega) (.int .i64 i) (.slice vo (ts.drop (i - base).toNat).length vc))
      have HB3:=ghid (zset2 (b:=w.heap.size+1) (HB2.out.trans (hb3.mono HB2.out.size)) (by omega) (.int .i64 i) (.slice vo (ts.drop (i - base).toNat).length vc))
      obtain ⟨n3,hn3⟩:∃ n3,n3=(ts.drop (i - base).toNat).length:=⟨_,rfl⟩
      rw [←hn3] at HR1 HB3 ⊢
      clear hrx hown hb3 CJ hn3
      go_wp2
      refine bodyPost_ret (v:=.tuple #[.agg #[.int .i64 i,.slice vo n3 vc],.int .i64 0]) (by simp [results,Tryz.results25,go_sem,z0,z1]) rfl ?_
      exact ⟨_,rfl,(HR1.out.mono (by have:=HB2.out.size;omega)).imp fun _ h=>⟨_,rfl,h⟩,HB3.out⟩
 ·have HE:Hid (cutE l i=logE l):=if_pos h0
  have HL:Hid (cutL l i=⟨0,[]⟩):=by
   unfold Hid cutL
   rw [if_neg (by rw [HE.out];exact h0)]
  rw [HE.out,HL.out]
  obtain ⟨c,hc⟩:∃ c,c=logE l:=⟨_,rfl⟩
  rw [←hc] at CC h0 ⊢
  have hcb:(c != 0)=true:=by simpa using h0
  clear h0 hc
  go_enter Tryz.func25,Tryz.ntmps25
  go_wp2_with fail
  refine CC.out.mono ?_
  rintro e w1 ⟨rfl,hb⟩
  obtain ⟨-,hr,hbw⟩:=boxes_after (by simpa using hb)
  obtain ⟨z0,z1,zf,zl⟩:=two_free hr
  have HF:=ghid (zset2 (b:=w.heap.size+1) hbw (by omega) (.int .i64 0) (.slice none 0 0))
  clear hb hbw hr CC
  go_wp2
  refine bodyPost_ret (v:=.tuple #[.agg #[.int .i64 0,.slice none 0 0],.int .i64 c]) (by simp [results,Tryz.results25,go_sem,z0,z1]) rfl ?_
  exact ⟨_,rfl,NewR.of _ _ fun _=>LogR.nil _ _,HF.out⟩
end Go.Proofs.YtbmfahgekcnkaajGreatDoor
namespace Go.Proofs.YtbmfahgekcnkaajGreatDoor
open Go.RowKit
set_option maxRecDepth 100000 in
set_option maxHeartbeats 1600000 in
theorem behind_new (v:Value) (l:LogD) (i m:Int) (w:World) (B:Nat) (hv:LogR w B v l) (hB:B≤w.heap.size) (hi:-9223372036854775808≤i∧i≤9223372036854775807) (hm:-9223372036854775808≤m∧m≤9223372036854775807) :
  Calls Tryz.prog 30 #[v,.int .i64 i,.int .i64 m] w fun e w'=>∃ v',e=.returned (.tuple #[v',.int .i64 (behindE l i m)])∧NewR w.heap.size w' (fun u=>TextsR u u.heap.size v' (behindL l i m))∧Below w.heap.size w w':=by
 have HV:=ghid hv
 obtain ⟨eo,ec,rfl,ht⟩:=hv.shape
 have hbx:Below w.heap.size w (w.alloc (.cells #[.int .i64 l.base,.slice eo l.ents.length ec] 29)):=(Below.refl _ _).alloc (Nat.le_refl _) _
 have CC:=ghid (logCheck_any _ l (w.alloc (.cells #[.int .i64 l.base,.slice eo l.ents.length ec] 29)) B (hv.below hbx hB) (by have:=hbx.size;omega))
 clear hv ht hbx
 by_cases h0:logE l=0
 ·obtain ⟨⟨hb0,hb1,hln⟩,-⟩:=logE_zero h0
  rw [h0] at CC
  obtain ⟨base,ts⟩:=l
  simp only at CC HV hb0 hb1 hln ⊢
  have HE0:=ghid h0
  clear h0
  by_cases h1:i < base
  ·have HE:Hid (behindE ⟨base,ts⟩ i m=2):=by
    unfold Hid behindE
    rw [HE0.out,if_neg (by simp),if_pos (Or.inl h1)]
   have HL:Hid (behindL ⟨base,ts⟩ i m=[]):=by
    unfold Hid behindL
    rw [if_neg (by rw [HE.out];decide)]
   rw [HE.out,HL.out]
   go_enter Tryz.func30,Tryz.ntmps30
   go_wp2_with fail
   refine CC.out.mono ?_
   rintro e w1 ⟨rfl,hb⟩
   obtain ⟨hx,hbw⟩:=box_after (by simpa using hb)
   obtain ⟨c0,c1,hcl⟩:=two_cells hx
   have HB:=ghid hbw
   clear hb hx hbw CC
   go_wp2
   go_ret2
   exact ⟨_,rfl,NewR.of _ _ fun _=>TextsR.nil _ _,HB.out⟩
  ·by_cases h2:m < 0
   ·have HE:Hid (behindE ⟨base,ts⟩ i m=2):=by
     unfold Hid behindE
     rw [HE0.out,if_neg (by simp),if_pos (Or.inr h2)]
    have HL:Hid (behindL ⟨base,ts⟩ i m=[]):=by
     unfold Hid behindL
     rw [if_neg (by rw [HE.out];decide)]
    rw [HE.out,HL.out]
    go_enter Tryz.func30,Tryz.ntmps30
    go_wp2_with fail
    refine CC.out.mono ?_
    rintro e w1 ⟨rfl,hb⟩
    obtain ⟨hx,hbw⟩:=box_after (by simpa using hb)
    obtain ⟨c0,c1,hcl⟩:=two_cells hx
    have HB:=ghid hbw
    clear hb hx hbw CC
    go_wp2
    go_ret2
    exact ⟨_,rfl,NewR.of _ _ fun _=>TextsR.nil _ _,HB.out⟩
   ·obtain ⟨k,hk⟩:∃ k:Nat,min (i - base) (ts.length:Int)=(k:Int):=⟨(min (i - base) (ts.length:Int)).toNat,by omega⟩
    have hkl:k≤ts.length:=by omega
    obtain ⟨q,hq⟩:∃ q:Nat,min m ((ts.length - k:Nat):Int)=(q:Int):=⟨(min m ((ts.length - k:Nat):Int)).toNat,by omega⟩
    have hql:q≤ts.length - k:=by omega
    have HE:Hid (behindE ⟨base,ts⟩ i m=0):=by
     unfold Hid behindE
     rw [HE0.out,if_neg (by simp),if_neg (by simp only;omega)]
    have HL:Hid (behindL ⟨base,ts⟩ i m=(ts.drop k).take q):=by
     unfold Hid behindL
     rw [if_pos HE.out]
     simp only
     have e1:ts.drop (i - base).toNat=ts.drop k:=by
      by_cases hle:(i - base).toNat≤ts.length
      ·rw [show (i - base).toNat=k by omega]
      ·rw [List.drop_of_length_le (by omega),List.drop_of_length_le (by omega)]
     rw [e1]
     by_cases hle:m.toNat≤ts.length - k
     ·rw [show m.toNat=q by omega]
     ·rw [List.take_of_length_le (by rw [List.length_drop];omega),List.take_of_length_le (by rw [List.length_drop];omega)]
    rw [HE.out,HL.out]
    have hec:=HV.out.part.cap
    have HM:=ghid HV.out.part.sizes
    go_enter Tryz.func30,Tryz.ntmps30
    go_wp2_with fail
    refine CC.out.mono ?_
    rintro e w1 ⟨rfl,hb⟩
    obtain ⟨hx,hbw⟩:=box_after (by simpa using hb)
    obtain ⟨c0,c1,hcl⟩:=two_cells hx
    have HB:=ghid hbw
    clear hb hx hbw CC
    go_wp2_with fail
    all_goals
     have htl:=(HV.out.part.below HB.out hB).tail (k:=k) hkl
     have CJ:=ghid (join_one w1 B _ ((ts.drop k).take q) (TextsR.front (k:=q) (n:=ts.length - k) (by first | exact htl.1 (by assumption) | exact htl.1 rfl | exact htl.2 (by assumption)) (by rw [List.length_drop];exact hql)) (by have:=HB.out.size;omega))
     have HLD:Hid (((ts.drop k).take q).length*16≤140737488351232):=(by rw [List.length_take,List.length_drop];omega:((ts.drop k).take q).length*16≤140737488351232)
     clear htl
     refine CJ.out.mono ?_
     rintro e w3 ⟨vo,vc,rfl,hown,hb3⟩
     have HR1:=ghid (row_new hown (fun t ht=>HM.out t (List.mem_of_mem_drop (List.mem_of_mem_take ht))) HLD.out)
     have HB3:=ghid (HB.out.trans (hb3.mono HB.out.size))
     obtain ⟨n3,hn3⟩:∃ n3,n3=((ts.drop k).take q).length:=⟨_,rfl⟩
     rw [←hn3] at HR1 ⊢
     clear hown hb3 CJ hn3
     go_wp2
     go_ret2
     exact ⟨_,rfl,HR1.out.mono (by have:=HB.out.size;omega),HB3.out⟩
 ·have HE:Hid (behindE l i m=logE l):=if_pos h0
  have HL:Hid (behindL l i m=[]):=by
   unfold Hid behindL
   rw [if_neg (by rw [HE.out];exact h0)]
  rw [HE.out,HL.out]
  obtain ⟨c,hc⟩:∃ c,c=logE l:=⟨_,rfl⟩
  rw [←hc] at CC h0 ⊢
  have hcb:(c != 0)=true:=by simpa using h0
  clear h0 hc
  go_enter Tryz.func30,Tryz.ntmps30
  go_wp2_with fail
  refine CC.out.mono ?_
  rintro e w1 ⟨rfl,hb⟩
  obtain ⟨-,hbw⟩:=box_after (by simpa using hb)
  have HB:=ghid hbw
  clear hb hbw CC
  go_wp2
  go_ret2
  exact ⟨_,rfl,NewR.of _ _ fun _=>TextsR.nil _ _,HB.out⟩
end Go.Proofs.YtbmfahgekcnkaajGreatDoor
namespace Go.Proofs.YtbmfahgekcnkaajGreatDoor
open Go.RowKit
theorem newL_len {l:LogD} {i:Int} {more:List ByteArray} (hi:i≤l.base+l.ents.length) (ho:opens (overL l i more) (l.ents.drop (aheadL l i))=false):(newL l i more).length=aheadL l i+(overL l i more).length:=by
 unfold newL
 rw [if_neg (by rw [ho];decide),List.length_append,List.length_take]
 have:aheadL l i≤l.ents.length:=by unfold aheadL;omega
 omega
theorem new_nil {w:World} {F:Nat} {args:Array Value} {c:Int} (h:Calls Tryz.prog F args w fun e w'=>∃ v',e=.returned (.tuple #[v',.int .i64 c])∧LogR w' w'.heap.size v' ⟨0,[]⟩∧Below w.heap.size w w') :
  Calls Tryz.prog F args w fun e w'=>∃ v',e=.returned (.tuple #[v',.int .i64 c])∧NewR w.heap.size w' (fun u=>LogR u u.heap.size v' ⟨0,[]⟩)∧Below w.heap.size w w' :=
 h.mono fun _ _ ⟨v',e,h1,h2⟩=>⟨v',e,NewR.of _ _ fun u=>h1.none_all u _,h2⟩
theorem put_new (v:Value) (l:LogD) (i:Int) (mv:Value) (more:List ByteArray) (w:World) (B:Nat) (hv:LogR w B v l) (hmv:TextsR w B mv more) (hB:B≤w.heap.size) (hi:-9223372036854775808≤i∧i≤9223372036854775807) :
  Calls Tryz.prog 16 #[v,.int .i64 i,mv] w fun e w'=>∃ v',e=.returned (.tuple #[v',.int .i64 (putE l i more)])∧NewR w.heap.size w' (fun u=>LogR u u.heap.size v' (putL l i more))∧Below w.heap.size w w':=by
 by_cases he:refE l i more.length=0
 ·obtain ⟨h0,-,-,hil⟩:=refE_zero he
  by_cases hfe:firstE (overL l i more)=0
  ·by_cases hop:opens (overL l i more) (l.ents.drop (aheadL l i))=true
   ·have hn:newL l i more=l.ents:=if_pos hop
    have hE:putE l i more=0:=by
     rw [putE_ref,he,hfe,hn,if_neg (by simp),if_neg (by simp),if_neg]
     have:=(logE_zero h0).1.2.2
     omega
    have hL:putL l i more=l:=by
     unfold putL
     rw [if_pos hE,hn]
    rw [hE,hL]
    exact put_stands v l i mv more w B hv hmv hB hi he hfe hop
   ·have hop':opens (overL l i more) (l.ents.drop (aheadL l i))=false:=by simpa using hop
    have hlen:=newL_len hil hop'
    by_cases hfu:400 < aheadL l i+(overL l i more).length
    ·have hE:putE l i more=8:=by
      rw [putE_ref,he,hfe,if_neg (by simp),if_neg (by simp),if_pos (by omega)]
     rw [putL_bad (by rw [hE];decide),hE]
     exact new_nil (put_full v l i mv more w B hv hmv hB hi he hfe hfu)
    ·have hE:putE l i more=0:=by
      rw [putE_ref,he,hfe,if_neg (by simp),if_neg (by simp),if_neg (by omega)]
     have hL:putL l i more=⟨l.base,l.ents.take (aheadL l i)++overL l i more⟩:=by
      unfold putL newL
      rw [if_pos hE,if_neg hop]
     rw [hE,hL]
     exact put_anew v l i mv more w B hv hmv hB hi he hfe hop' (by omega)
  ·have hE:putE l i more=firstE (overL l i more):=by
    rw [putE_ref,he,if_neg (by simp),if_pos hfe]
   rw [putL_bad (by rw [hE];exact hfe),hE]
   exact new_nil (put_bad v l i mv more w B hv hmv hB hi he hfe)
 ·have hE:putE l i more=refE l i more.length:=by rw [putE_ref,if_pos he]
  rw [putL_bad (by rw [hE];exact he),hE]
  exact new_nil (put_refused v l i mv more w B hv hmv hB hi he)
end Go.Proofs.YtbmfahgekcnkaajGreatDoor
