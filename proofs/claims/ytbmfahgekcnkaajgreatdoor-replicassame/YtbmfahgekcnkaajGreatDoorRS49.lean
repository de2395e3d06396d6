/- tackroomkeep.ReplicasSame, walked. Written by gen_repsame.py (joined by program) -/
import Derived.Test.YtbmfahgekcnkaajGreatDoorRS45
import Derived.Test.YtbmfahgekcnkaajGreatDoorRS46
import Derived.Test.YtbmfahgekcnkaajGreatDoorRS42
import Derived.Test.YtbmfahgekcnkaajGreatDoorRS48
import Derived.Test.YtbmfahgekcnkaajGreatDoorRS47
namespace Go.Proofs.YtbmfahgekcnkaajGreatDoor
open Go.RowKit
set_option maxRecDepth 100000 in
set_option maxHeartbeats 1600000 in
theorem keepSame_any (v u:Value) (s:StateD) (w:World) (B:Nat) (hv:StateR w B v s) (hu:StateR w B u s) (hB:B≤w.heap.size) (hs:checkM s=0) :
  Calls Tryz.prog 12 #[v,u] w fun e w'=>e=.returned (.bool true)∧Below w.heap.size w w':=by
 have HV:=ghid hv
 have HU:=ghid hu
 obtain ⟨lo,ln,lc,po,pn,pc,so,sn,sc,rfl⟩:=hv.shape
 obtain ⟨lo2,ln2,lc2,po2,pn2,pc2,so2,sn2,sc2,rfl⟩:=hu.shape
 have CE:=ghid (fun u (hu:Below w.heap.size w u)=>encode_ok_s _ s u B (HV.out.below hu hB) (by have:=hu.size;omega) hs)
 have CF:=ghid (fun u (hu:Below w.heap.size w u)=>encode_ok_s _ s u B (HU.out.below hu hB) (by have:=hu.size;omega) hs)
 have HZ:Hid (Below w.heap.size w ((w.alloc (.cells #[.int .i64 s.index,.slice lo ln lc,.slice po pn pc,.slice so sn sc] 34)).alloc (.cells #[.int .i64 s.index,.slice lo2 ln2 lc2,.slice po2 pn2 pc2,.slice so2 sn2 sc2] 34))):=((Below.refl _ _).alloc (Nat.le_refl _) _).alloc (by simp) _
 obtain ⟨t,ht⟩:∃ t,t=snapOut s:=⟨_,rfl⟩
 rw [←ht] at CE CF
 clear hv hu hs ht
 go_enter Tryz.func12,Tryz.ntmps12
 go_wp2_with fail
 refine (CE.out _ HZ.out).mono ?_
 rintro e w1 ⟨rfl,hb1⟩
 obtain ⟨-,hx,hbw⟩:=boxes7 (by simpa using hb1)
 have HB1:=ghid (HZ.out.trans (hb1.mono HZ.out.size))
 obtain ⟨h1,-⟩:=two_newB (by simpa using hb1:Below (w.heap.size+2) _ w1)
 obtain ⟨c0,c1,c2,c3,cf,cl⟩:=state_cells h1
 clear hb1 hx hbw h1
 go_wp2_with fail
 refine (CF.out _ HB1.out).mono ?_
 rintro e w2 ⟨rfl,hb2⟩
 have HB2:=ghid (HB1.out.trans (hb2.mono HB1.out.size))
 clear hb2
 go_wp2
 go_ret
 exact ⟨rfl,HB2.out⟩
def BoxR (w:World) (p:Nat) (r:RepD):Prop :=
 ∃ (eo lo po so:Option Addr) (ec ln lc pn pc sn sc:Nat),w.heap[p]?=some (.cells #[.int .i64 r.log.base,.slice eo r.log.ents.length ec,.string r.snap,.int .i64 r.state.index,.slice lo ln lc,.slice po pn pc,.slice so sn sc] 36 (0,0)) ∧
  RepR w w.heap.size (.agg #[.int .i64 r.log.base,.slice eo r.log.ents.length ec,.string r.snap,.int .i64 r.state.index,.slice lo ln lc,.slice po pn pc,.slice so sn sc]) r
theorem BoxR.below {w w':World} {p:Nat} {r:RepD} (h:BoxR w p r) (hb:Below w.heap.size w w'):BoxR w' p r:=by
 obtain ⟨eo,lo,po,so,ec,ln,lc,pn,pc,sn,sc,h0,h1⟩:=h
 exact ⟨eo,lo,po,so,ec,ln,lc,pn,pc,sn,sc,behind h0 (Below.refl _ _) hb,(h1.below hb (Nat.le_refl _)).mono hb.size⟩
theorem RepR.shape {w:World} {B:Nat} {v:Value} {r:RepD} (h:RepR w B v r):∃ (eo lo po so:Option Addr) (ec ln lc pn pc sn sc:Nat),v=.agg #[.int .i64 r.log.base,.slice eo r.log.ents.length ec,.string r.snap,.int .i64 r.state.index,.slice lo ln lc,.slice po pn pc,.slice so sn sc]:=by
 obtain ⟨eo,lo,po,so,ec,ln,lc,pn,pc,sn,sc,rfl,-⟩:=h
 exact ⟨eo,lo,po,so,ec,ln,lc,pn,pc,sn,sc,rfl⟩
theorem BoxR.new {w:World} {r:RepD} {eo lo po so:Option Addr} {ec ln lc pn pc sn sc:Nat} (h:RepR w w.heap.size (.agg #[.int .i64 r.log.base,.slice eo r.log.ents.length ec,.string r.snap,.int .i64 r.state.index,.slice lo ln lc,.slice po pn pc,.slice so sn sc]) r) :
  BoxR (w.alloc (.cells #[.int .i64 r.log.base,.slice eo r.log.ents.length ec,.string r.snap,.int .i64 r.state.index,.slice lo ln lc,.slice po pn pc,.slice so sn sc] 36)) w.heap.size r:=by
 have hb:=(Below.refl w.heap.size w).alloc (Nat.le_refl _) (.cells #[.int .i64 r.log.base,.slice eo r.log.ents.length ec,.string r.snap,.int .i64 r.state.index,.slice lo ln lc,.slice po pn pc,.slice so sn sc] 36)
 exact ⟨eo,lo,po,so,ec,ln,lc,pn,pc,sn,sc,heap_alloc_new w _,(h.below hb (Nat.le_refl _)).mono hb.size⟩
theorem RepR.state {w:World} {B k ec ln lc pn pc sn sc:Nat} {eo lo po so:Option Addr} {b i:Int} {sp:ByteArray} {r:RepD} (h:RepR w B (.agg #[.int .i64 b,.slice eo k ec,.string sp,.int .i64 i,.slice lo ln lc,.slice po pn pc,.slice so sn sc]) r):StateR w B (.agg #[.int .i64 i,.slice lo ln lc,.slice po pn pc,.slice so sn sc]) r.state:=by
 obtain ⟨eo',lo',po',so',ec',ln',lc',pn',pc',sn',sc',e,-,-,h3,h4,h5⟩:=h
 simp only [Value.agg.injEq,Array.mk.injEq,List.cons.injEq,Value.int.injEq,Value.slice.injEq,Value.string.injEq,true_and,and_true] at e
 obtain ⟨-,-,-,rfl,⟨rfl,rfl,rfl⟩,⟨rfl,rfl,rfl⟩,rfl,rfl,rfl⟩:=e
 exact ⟨_,_,_,rfl,h3,h4,h5⟩
theorem StateR.of_eq {w:World} {B:Nat} {v:Value} {s s':StateD} (h:StateR w B v s) (e:s'=s):StateR w B v s':=e ▸ h
set_option maxRecDepth 100000 in
set_option maxHeartbeats 12800000 in
theorem replicasSame_walk (v : Value) (rs : List RawD) (a1 : Int) (w : World) (hv : RawsR w w.heap.size v rs) (f1 : -9223372036854775808 ≤ a1 ∧ a1 ≤ 9223372036854775807) :
    Calls Tryz.prog 3 #[v, .int .i64 a1] w fun e w' => e = .returned (.bool true) ∧ Below w.heap.size w w' := by
  have CC : Hid (Calls Tryz.prog 5 #[v, .int .i64 50] w fun e w' => ∃ (vo : Value) (out : List CmdD), e = .returned vo ∧ w'.ownsRow w.heap.size 51 9 vo out.length (flatC out) ∧ out.length = min rs.length 50 ∧ (∀ x ∈ out, KeepX 50 x) ∧ Below w.heap.size w w') := commands_upto 50 (by omega) v rs w hv
  have HF1 := ghid f1
  obtain ⟨ao, cap, rfl, -⟩ := hv
  clear f1
  go_enter Tryz.func3, Tryz.ntmps3
  go_wp2_with fail
  refine CC.out.mono ?_
  rintro e w1 ⟨vo1, out, rfl, hrow, hlen, hok, hb1⟩
  have hok' : ∀ x ∈ out, x.err = 0 := fun x hx => (hok x hx).err
  have CE := ghid (entries_any vo1 out w1 w.heap.size hrow hok' (by omega))
  have HOK := ghid hok'
  have hlen' : out.length ≤ 50 := by omega
  obtain ⟨oo, oc, rfl⟩ := crow_shape hrow
  have HB1 := ghid hb1
  clear hrow hlen hok hok' hb1 CC
  go_wp2_with fail
  refine CE.out.mono ?_
  rintro e w2 ⟨vo2, rfl, hown2, hb2⟩
  have hta := texts_reads hown2 (fun t ht => by obtain ⟨x, hx, rfl⟩ := List.mem_map.1 ht; have := cmdOut_size x (HOK.out x hx); omega) (by rw [List.length_map]; omega) (Nat.le_refl _)
  have hfa := made_first HOK.out
  have hla : (out.map cmdOut).length ≤ 50 := by rw [List.length_map]; exact hlen'
  obtain ⟨a, hae⟩ : ∃ a, a = out.map cmdOut := ⟨_, rfl⟩
  rw [← hae] at hta hfa hla
  obtain ⟨av, ac, rfl⟩ := hta.slice
  have HB2 := ghid (HB1.out.trans (hb2.mono HB1.out.size))
  have HTA := ghid hta
  have HFA := ghid hfa
  have hpk := pickZ_bd a1 ((a.length : Int) + 1) (by omega)
  have CK := ghid (fun w => picked_any a1 ((a.length : Int) + 1) w HF1.out.1 HF1.out.2 (by omega) (by omega))
  obtain ⟨k, hk⟩ : ∃ k : Nat, (k : Int) = pickZ a1 ((a.length : Int) + 1) := ⟨(pickZ a1 ((a.length : Int) + 1)).toNat, by omega⟩
  rw [← hk] at CK hpk
  have hka : k ≤ a.length := by omega
  clear hown2 hb2 hta hfa hae CE hk hpk HF1 HB1
  go_wp2_with fail
  refine (CK.out _).mono ?_
  rintro e w3 ⟨rfl, hw3⟩
  subst w3
  clear CK
  obtain ⟨q1, q2⟩ := same_hear HFA.out hla
  have CH := ghid (repHear_any _ _ 0 _ a w2 w2.heap.size (RepR.nil _ _) HTA.out (Nat.le_refl _) ⟨by omega, by omega⟩ rep_zero)
  rw [q1, q2] at CH
  clear q1 q2
  have hgA := same_ok HFA.out hla (Nat.zero_le _)
  obtain ⟨rA, hrA⟩ : ∃ r, r = (⟨⟨0, a⟩, ⟨#[]⟩, .zero⟩ : RepD) := ⟨_, rfl⟩
  obtain ⟨rK, hrK⟩ : ∃ r, r = (⟨⟨0, a⟩, ⟨#[]⟩, upS a k⟩ : RepD) := ⟨_, rfl⟩
  have hrA0 : repE rA = 0 := hrA ▸ hgA
  have hrK0 : repE rK = 0 := hrK ▸ same_ok HFA.out hla hka
  have HGO : Hid (goL rA k = rK) := by rw [hrA, hrK]; exact same_go HFA.out hla hka
  rw [← hrA] at CH
  have HRA := ghid hrA
  have HRK := ghid hrK
  have HA0 := ghid hrA0
  have HK0 := ghid hrK0
  clear hgA hrA hrK hrA0 hrK0
  go_wp2_with fail
  refine CH.out.mono ?_
  rintro e w3 ⟨v3, rfl, hr3, hb3⟩
  obtain ⟨eor, lor, por, sor, ecr, lnr, lcr, pnr, pcr, snr, scr, rfl⟩ := (hr3.now).shape
  have hx := BoxR.new (hr3.now)
  have hba := (Below.refl w3.heap.size w3).alloc (Nat.le_refl _) (.cells #[.int .i64 (rA).log.base, .slice eor (rA).log.ents.length ecr, .string (rA).snap, .int .i64 (rA).state.index, .slice lor lnr lcr, .slice por pnr pcr, .slice sor snr scr] 36)
  have hbd := hb3.trans (hba.mono hb3.size)
  obtain ⟨W3, hW⟩ : ∃ W, W = w3.alloc (.cells #[.int .i64 (rA).log.base, .slice eor (rA).log.ents.length ecr, .string (rA).snap, .int .i64 (rA).state.index, .slice lor lnr lcr, .slice por pnr pcr, .slice sor snr scr] 36) := ⟨_, rfl⟩
  obtain ⟨pr, hp⟩ : ∃ p, p = w3.heap.size := ⟨_, rfl⟩
  have HPR : Hid (w2.heap.size ≤ pr) := hp ▸ hb3.size
  rw [← hW] at hx hbd
  rw [← hp] at hx
  have HXr3 := ghid hx
  have HP3 := ghid hbd
  have HW := ghid hW
  have HY := ghid hp
  clear hr3 hb3 hba hbd hx hW hp CH
  go_upto_region 4 with fail
  rw [← HW.out, ← HY.out]
  clear HW HY
  obtain ⟨eor0, lor0, por0, sor0, ecr0, lnr0, lcr0, pnr0, pcr0, snr0, scr0, h0r0, hRr0⟩ := id HXr3.out
  obtain ⟨c0r0, c1r0, c2r0, c3r0, c4r0, c5r0, c6r0, cfr0, clr0⟩ := seven_cells h0r0
  have CA := ghid (repApply_any _ rA k W3 _ hRr0 (Nat.le_refl _) HA0.out ⟨by omega, by omega⟩)
  rw [HGO.out] at CA
  go_wp2_with fail
  refine CA.out.mono ?_
  rintro e w4 ⟨v4, m4, rfl, hr4, hm4, hb4⟩
  obtain ⟨mo4, mc4, rfl⟩ := grow_shape hm4
  obtain ⟨eok, lok, pok, sok, eck, lnk, lck, pnk, pck, snk, sck, rfl⟩ := hr4.reads.shape
  have h04 := behind h0r0 (Below.refl _ _) hb4
  have hx : BoxR (((((((w4.setCell ⟨pr, 0, none⟩ (.int .i64 (rK).log.base)).setCell ⟨pr, 1, none⟩ (.slice eok (rK).log.ents.length eck)).setCell ⟨pr, 2, none⟩ (.string (rK).snap)).setCell ⟨pr, 3, none⟩ (.int .i64 (rK).state.index)).setCell ⟨pr, 4, none⟩ (.slice lok lnk lck)).setCell ⟨pr, 5, none⟩ (.slice pok pnk pck)).setCell ⟨pr, 6, none⟩ (.slice sok snk sck)) pr rK := ⟨eok, lok, pok, sok, eck, lnk, lck, pnk, pck, snk, sck, set7 h04 _ _ _ _ _ _ _, (hr4.touch (touch7 pr _ _ _ _ _ _ _) fun _ _ e => e ▸ rep_alien h04).reads⟩
  have hbd : Below w2.heap.size w2 (((((((w4.setCell ⟨pr, 0, none⟩ (.int .i64 (rK).log.base)).setCell ⟨pr, 1, none⟩ (.slice eok (rK).log.ents.length eck)).setCell ⟨pr, 2, none⟩ (.string (rK).snap)).setCell ⟨pr, 3, none⟩ (.int .i64 (rK).state.index)).setCell ⟨pr, 4, none⟩ (.slice lok lnk lck)).setCell ⟨pr, 5, none⟩ (.slice pok pnk pck)).setCell ⟨pr, 6, none⟩ (.slice sok snk sck)) := zset7 (HP3.out.trans (hb4.mono HP3.out.size)) HPR.out _ _ _ _ _ _ _
  obtain ⟨d0, d1, d2, d3, d4, d5, d6, df, dl⟩ := seven_cells h04
  obtain ⟨W4, hW⟩ : ∃ W, W = (((((((w4.setCell ⟨pr, 0, none⟩ (.int .i64 (rK).log.base)).setCell ⟨pr, 1, none⟩ (.slice eok (rK).log.ents.length eck)).setCell ⟨pr, 2, none⟩ (.string (rK).snap)).setCell ⟨pr, 3, none⟩ (.int .i64 (rK).state.index)).setCell ⟨pr, 4, none⟩ (.slice lok lnk lck)).setCell ⟨pr, 5, none⟩ (.slice pok pnk pck)).setCell ⟨pr, 6, none⟩ (.slice sok snk sck)) := ⟨_, rfl⟩
  rw [← hW] at hx hbd
  have HXr4 := ghid hx
  have HP4 := ghid hbd
  have HW := ghid hW
  clear hr4 hm4 hb4 hx hbd hW CA HXr3 HP3 HPR h04 HGO hRr0
  clear c0r0 c1r0 c2r0 c3r0 c4r0 c5r0 c6r0 cfr0 clr0 h0r0
  go_upto_region 5 with fail
  rw [← HW.out]
  clear HW
  clear d0 d1 d2 d3 d4 d5 d6 df dl
  obtain ⟨eor1, lor1, por1, sor1, ecr1, lnr1, lcr1, pnr1, pcr1, snr1, scr1, h0r1, hRr1⟩ := id HXr4.out
  obtain ⟨c0r1, c1r1, c2r1, c3r1, c4r1, c5r1, c6r1, cfr1, clr1⟩ := seven_cells h0r1
  have CA := ghid (compact_any _ rK W4 _ hRr1 (Nat.le_refl _) HK0.out)
  by_cases hk0 : k = 0
  · subst hk0
    have hce : compE rK = 12 := by rw [HRK.out]; exact same_comp0 HFA.out hla
    rw [hce] at CA
    go_wp2_with fail
    refine CA.out.mono ?_
    rintro e w5 ⟨v5, rfl, hr5, hb5⟩
    obtain ⟨eoz, loz, poz, soz, ecz, lnz, lcz, pnz, pcz, snz, scz, rfl⟩ := hr5.now.shape
    have HF := ghid (HB2.out.trans ((HP4.out.trans ((hb5.alloc hb5.size (.cells #[.int .i64 (compL rK).log.base, .slice eoz (compL rK).log.ents.length ecz, .string (compL rK).snap, .int .i64 (compL rK).state.index, .slice loz lnz lcz, .slice poz pnz pcz, .slice soz snz scz] 36)).mono HP4.out.size)).mono HB2.out.size))
    clear hr5 hb5
    go_wp2
    go_ret
    exact ⟨rfl, HF.out⟩
  · have hkb : ((k : Int) == 0) = false := by simp; omega
    obtain ⟨q1, q2⟩ := same_comp HFA.out hla hka hk0
    rw [← HRK.out] at q1 q2
    obtain ⟨rC, hrC⟩ : ∃ r, r = (⟨⟨k, a.drop k⟩, snapOut (upS a k), upS a k⟩ : RepD) := ⟨_, rfl⟩
    obtain ⟨rX, hrX⟩ : ∃ r, r = (⟨⟨k, a.drop k⟩, snapOut (upS a k), upS a a.length⟩ : RepD) := ⟨_, rfl⟩
    obtain ⟨rY, hrY⟩ : ∃ r, r = (⟨⟨0, a⟩, ⟨#[]⟩, upS a a.length⟩ : RepD) := ⟨_, rfl⟩
    obtain ⟨rT, hrT⟩ : ∃ r, r = (⟨⟨k, []⟩, snapOut (upS a k), upS a k⟩ : RepD) := ⟨_, rfl⟩
    rw [← hrC] at q2
    rw [q1, q2] at CA
    have HC0 : Hid (repE rC = 0) := hrC ▸ same_okC HFA.out hla hka hk0 hka (Nat.le_refl _)
    have HX0 : Hid (repE rX = 0) := hrX ▸ same_okC HFA.out hla hka hk0 (Nat.le_refl _) hka
    have HT0 : Hid (repE rT = 0) := hrT ▸ same_okT HFA.out hla hka hk0
    have HRE : Hid (restL rC = rC) := hrC ▸ same_rest HFA.out hla hka hk0
    have HGX : Hid (goL rC a.length = rX) := by rw [hrC, hrX]; exact same_more HFA.out hla hka _ _ _ (Or.inr ⟨rfl, rfl⟩) (hrC ▸ HC0.out)
    have HGY : Hid (goL rK a.length = rY) := by rw [HRK.out, hrY]; exact same_more HFA.out hla hka _ _ _ (Or.inl ⟨rfl, rfl⟩) (HRK.out ▸ HK0.out)
    have HIN : Hid (instE .zero rC.snap = 0 ∧ instL .zero rC.snap = rT) := by rw [hrC, hrT]; exact same_inst HFA.out hla hka hk0
    have HTO : Hid (hearE rT k (a.drop k) = 0 ∧ hearL rT k (a.drop k) = rC) := by rw [hrC, hrT]; exact same_told HFA.out hla hka hk0
    have HSK : Hid (rC.state = rK.state) := by rw [hrC, HRK.out]; rfl
    have HSX : Hid (rX.state = rY.state) := by rw [hrX, hrY]; rfl
    have HSZ : Hid (rC.snap.size ≤ 140737488351232) := by rw [hrC]; have := snapBody_le (upS_good HFA.out hla hka).1; have := snapOut_size (upS a k); show (snapOut (upS a k)).size ≤ _; omega
    have HLN : Hid ((rC.log.ents.length : Int) = (a.length : Int) - (k : Int)) := by rw [hrC]; show ((a.drop k).length : Int) = _; rw [List.length_drop]; omega
    clear hrC hrX hrY hrT q1 q2 HRK HRA HA0
    go_wp2_with fail
    refine CA.out.mono ?_
    rintro e w5 ⟨v5, rfl, hr5, hb5⟩
    obtain ⟨eoc, loc, poc, soc, ecc, lnc, lcc, pnc, pcc, snc, scc, rfl⟩ := (hr5.now).shape
    have hx := BoxR.new (hr5.now)
    have hba := (Below.refl w5.heap.size w5).alloc (Nat.le_refl _) (.cells #[.int .i64 (rC).log.base, .slice eoc (rC).log.ents.length ecc, .string (rC).snap, .int .i64 (rC).state.index, .slice loc lnc lcc, .slice poc pnc pcc, .slice soc snc scc] 36)
    have hbd := hb5.trans (hba.mono hb5.size)
    obtain ⟨W5, hW⟩ : ∃ W, W = w5.alloc (.cells #[.int .i64 (rC).log.base, .slice eoc (rC).log.ents.length ecc, .string (rC).snap, .int .i64 (rC).state.index, .slice loc lnc lcc, .slice poc pnc pcc, .slice soc snc scc] 36) := ⟨_, rfl⟩
    obtain ⟨pc, hp⟩ : ∃ p, p = w5.heap.size := ⟨_, rfl⟩
    rw [← hW] at hx hbd
    rw [← hp] at hx
    have HXc5 := ghid hx
    have HXr5 := ghid (HXr4.out.below hbd)
    have HP5 := ghid (HP4.out.trans (hbd.mono HP4.out.size))
    have HW := ghid hW
    have HY := ghid hp
    clear hr5 hb5 hba hbd hx hW hp HXr4 HP4 CA hRr1 c0r1 c1r1 c2r1 c3r1 c4r1 c5r1 c6r1 cfr1 clr1 h0r1
    go_upto_region 6 with fail
    rw [← HW.out, ← HY.out]
    clear HW HY
    obtain ⟨eoc0, loc0, poc0, soc0, ecc0, lnc0, lcc0, pnc0, pcc0, snc0, scc0, h0c0, hRc0⟩ := id HXc5.out
    obtain ⟨c0c0, c1c0, c2c0, c3c0, c4c0, c5c0, c6c0, cfc0, clc0⟩ := seven_cells h0c0
    have CA := ghid (restart_any _ rC W5 _ hRc0 (Nat.le_refl _) HC0.out)
    rw [HRE.out] at CA
    go_wp2_with fail
    refine CA.out.mono ?_
    rintro e w6 ⟨v6, rfl, hr6, hb6⟩
    obtain ⟨eod, lod, pod, sod, ecd, lnd, lcd, pnd, pcd, snd, scd, rfl⟩ := (hr6.now).shape
    have hx := BoxR.new (hr6.now)
    have hba := (Below.refl w6.heap.size w6).alloc (Nat.le_refl _) (.cells #[.int .i64 (rC).log.base, .slice eod (rC).log.ents.length ecd, .string (rC).snap, .int .i64 (rC).state.index, .slice lod lnd lcd, .slice pod pnd pcd, .slice sod snd scd] 36)
    have hbd := hb6.trans (hba.mono hb6.size)
    obtain ⟨W6, hW⟩ : ∃ W, W = w6.alloc (.cells #[.int .i64 (rC).log.base, .slice eod (rC).log.ents.length ecd, .string (rC).snap, .int .i64 (rC).state.index, .slice lod lnd lcd, .slice pod pnd pcd, .slice sod snd scd] 36) := ⟨_, rfl⟩
    obtain ⟨pd, hp⟩ : ∃ p, p = w6.heap.size := ⟨_, rfl⟩
    rw [← hW] at hx hbd
    rw [← hp] at hx
    have HXd6 := ghid hx
    have HXr6 := ghid (HXr5.out.below hbd)
    have HXc6 := ghid (HXc5.out.below hbd)
    have HP6 := ghid (HP5.out.trans (hbd.mono HP5.out.size))
    have HW := ghid hW
    have HY := ghid hp
    clear hr6 hb6 hba hbd hx hW hp HXr5 HXc5 HP5 CA hRc0 HRE c0c0 c1c0 c2c0 c3c0 c4c0 c5c0 c6c0 cfc0 clc0 h0c0
    go_upto_region 9 with fail
    rw [← HW.out, ← HY.out]
    clear HW HY
    obtain ⟨eod0, lod0, pod0, sod0, ecd0, lnd0, lcd0, pnd0, pcd0, snd0, scd0, h0d0, hRd0⟩ := id HXd6.out
    obtain ⟨c0d0, c1d0, c2d0, c3d0, c4d0, c5d0, c6d0, cfd0, cld0⟩ := seven_cells h0d0
    have CA := ghid (repApply_any _ rC a.length W6 _ hRd0 (Nat.le_refl _) HC0.out ⟨by omega, by omega⟩)
    rw [HGX.out] at CA
    go_wp2_with fail
    refine CA.out.mono ?_
    rintro e w7 ⟨v7, m7, rfl, hr7, hm7, hb7⟩
    obtain ⟨mo7, mc7, rfl⟩ := grow_shape hm7
    obtain ⟨eox, lox, pox, sox, ecx, lnx, lcx, pnx, pcx, snx, scx, rfl⟩ := (hr7.reads).shape
    have hx := BoxR.new (hr7.reads)
    have hba := (Below.refl w7.heap.size w7).alloc (Nat.le_refl _) (.cells #[.int .i64 (rX).log.base, .slice eox (rX).log.ents.length ecx, .string (rX).snap, .int .i64 (rX).state.index, .slice lox lnx lcx, .slice pox pnx pcx, .slice sox snx scx] 36)
    have hbd := hb7.trans (hba.mono hb7.size)
    obtain ⟨W7, hW⟩ : ∃ W, W = w7.alloc (.cells #[.int .i64 (rX).log.base, .slice eox (rX).log.ents.length ecx, .string (rX).snap, .int .i64 (rX).state.index, .slice lox lnx lcx, .slice pox pnx pcx, .slice sox snx scx] 36) := ⟨_, rfl⟩
    obtain ⟨px, hp⟩ : ∃ p, p = w7.heap.size := ⟨_, rfl⟩
    rw [← hW] at hx hbd
    rw [← hp] at hx
    have HXx7 := ghid hx
    have HXr7 := ghid (HXr6.out.below hbd)
    have HXc7 := ghid (HXc6.out.below hbd)
    have HXd7 := ghid (HXd6.out.below hbd)
    have HP7 := ghid (HP6.out.trans (hbd.mono HP6.out.size))
    have HW := ghid hW
    have HY := ghid hp
    clear hr7 hb7 hba hbd hx hW hp hm7 HXr6 HXc6 HXd6 HP6 CA hRd0 c0d0 c1d0 c2d0 c3d0 c4d0 c5d0 c6d0 cfd0 cld0 h0d0
    go_upto_region 10 with fail
    rw [← HW.out, ← HY.out]
    clear HW HY
    obtain ⟨eor2, lor2, por2, sor2, ecr2, lnr2, lcr2, pnr2, pcr2, snr2, scr2, h0r2, hRr2⟩ := id HXr7.out
    obtain ⟨c0r2, c1r2, c2r2, c3r2, c4r2, c5r2, c6r2, cfr2, clr2⟩ := seven_cells h0r2
    have CA := ghid (repApply_any _ rK a.length W7 _ hRr2 (Nat.le_refl _) HK0.out ⟨by omega, by omega⟩)
    rw [HGY.out] at CA
    go_wp2_with fail
    refine CA.out.mono ?_
    rintro e w8 ⟨v8, m8, rfl, hr8, hm8, hb8⟩
    obtain ⟨mo8, mc8, rfl⟩ := grow_shape hm8
    obtain ⟨eoy, loy, poy, soy, ecy, lny, lcy, pny, pcy, sny, scy, rfl⟩ := (hr8.reads).shape
    have hx := BoxR.new (hr8.reads)
    have hba := (Below.refl w8.heap.size w8).alloc (Nat.le_refl _) (.cells #[.int .i64 (rY).log.base, .slice eoy (rY).log.ents.length ecy, .string (rY).snap, .int .i64 (rY).state.index, .slice loy lny lcy, .slice poy pny pcy, .slice soy sny scy] 36)
    have hbd := hb8.trans (hba.mono hb8.size)
    obtain ⟨W8, hW⟩ : ∃ W, W = w8.alloc (.cells #[.int .i64 (rY).log.base, .slice eoy (rY).log.ents.length ecy, .string (rY).snap, .int .i64 (rY).state.index, .slice loy lny lcy, .slice poy pny pcy, .slice soy sny scy] 36) := ⟨_, rfl⟩
    obtain ⟨py, hp⟩ : ∃ p, p = w8.heap.size := ⟨_, rfl⟩
    rw [← hW] at hx hbd
    rw [← hp] at hx
    have HXy8 := ghid hx
    have HXr8 := ghid (HXr7.out.below hbd)
    have HXc8 := ghid (HXc7.out.below hbd)
    have HXd8 := ghid (HXd7.out.below hbd)
    have HXx8 := ghid (HXx7.out.below hbd)
    have HP8 := ghid (HP7.out.trans (hbd.mono HP7.out.size))
    have HW := ghid hW
    have HY := ghid hp
    clear hr8 hb8 hba hbd hx hW hp hm8 HXr7 HXc7 HXd7 HXx7 HP7 CA hRr2 HGY c0r2 c1r2 c2r2 c3r2 c4r2 c5r2 c6r2 cfr2 clr2 h0r2
    go_upto_region 11 with fail
    rw [← HW.out, ← HY.out]
    clear HW HY
    obtain ⟨eoc1, loc1, poc1, soc1, ecc1, lnc1, lcc1, pnc1, pcc1, snc1, scc1, h0c1, hRc1⟩ := id HXc8.out
    obtain ⟨c0c1, c1c1, c2c1, c3c1, c4c1, c5c1, c6c1, cfc1, clc1⟩ := seven_cells h0c1
    have CA := ghid (install_any _ _ rC.snap W8 _ (RepR.nil W8 W8.heap.size) (Nat.le_refl _) rep_zero HSZ.out)
    rw [HIN.out.1, HIN.out.2] at CA
    go_wp2_with fail
    refine CA.out.mono ?_
    rintro e w9 ⟨v9, rfl, hr9, hb9⟩
    obtain ⟨eot, lot, pot, sot, ect, lnt, lct, pnt, pct, snt, sct, rfl⟩ := (hr9.now).shape
    have hx := BoxR.new (hr9.now)
    have hba := (Below.refl w9.heap.size w9).alloc (Nat.le_refl _) (.cells #[.int .i64 (rT).log.base, .slice eot (rT).log.ents.length ect, .string (rT).snap, .int .i64 (rT).state.index, .slice lot lnt lct, .slice pot pnt pct, .slice sot snt sct] 36)
    have hbd := hb9.trans (hba.mono hb9.size)
    obtain ⟨W9, hW⟩ : ∃ W, W = w9.alloc (.cells #[.int .i64 (rT).log.base, .slice eot (rT).log.ents.length ect, .string (rT).snap, .int .i64 (rT).state.index, .slice lot lnt lct, .slice pot pnt pct, .slice sot snt sct] 36) := ⟨_, rfl⟩
    obtain ⟨pt, hp⟩ : ∃ p, p = w9.heap.size := ⟨_, rfl⟩
    rw [← hW] at hx hbd
    rw [← hp] at hx
    have HXt9 := ghid hx
    have HXr9 := ghid (HXr8.out.below hbd)
    have HXc9 := ghid (HXc8.out.below hbd)
    have HXd9 := ghid (HXd8.out.below hbd)
    have HXx9 := ghid (HXx8.out.below hbd)
    have HXy9 := ghid (HXy8.out.below hbd)
    have HP9 := ghid (HP8.out.trans (hbd.mono HP8.out.size))
    have HW := ghid hW
    have HY := ghid hp
    clear hr9 hb9 hba hbd hx hW hp HXr8 HXc8 HXd8 HXx8 HXy8 HP8 CA hRc1 HIN c0c1 c1c1 c2c1 c3c1 c4c1 c5c1 c6c1 cfc1 clc1 h0c1
    go_upto_region 12 with fail
    rw [← HW.out, ← HY.out]
    clear HW HY
    obtain ⟨eot0, lot0, pot0, sot0, ect0, lnt0, lct0, pnt0, pct0, snt0, sct0, h0t0, hRt0⟩ := id HXt9.out
    obtain ⟨c0t0, c1t0, c2t0, c3t0, c4t0, c5t0, c6t0, cft0, clt0⟩ := seven_cells h0t0
    have CA := ghid (fun u (hu : Below W9.heap.size W9 u) tv (ht : TextsR u u.heap.size tv (a.drop k)) => repHear_any _ rT k tv (a.drop k) u u.heap.size ((hRt0.below hu (Nat.le_refl _)).mono hu.size) ht (Nat.le_refl _) ⟨by omega, by omega⟩ HT0.out)
    rw [HTO.out.1, HTO.out.2] at CA
    have htl := fun u (hu : Below W9.heap.size W9 u) => (((HTA.out.below HP9.out (Nat.le_refl _)).mono HP9.out.size).below hu (Nat.le_refl _)).tail hka
    have hac := HTA.out.cap
    have hqt : pt ≠ W9.heap.size := Nat.ne_of_lt clt0
    have hqt2 : W9.heap.size ≠ pt := fun e => hqt e.symm
    have hki : (k : Int) ≤ (a.length : Int) := by omega
    have hkc : (a.length : Int) ≤ (ac : Int) := by omega
    have HTL := ghid htl
    clear HTO htl hRt0 HSZ
    go_cut [23, 24] (fun p ev wx => ∃ q, p = .pointer (some ⟨q, 0, none⟩) ∧ ev = .int .i64 0 ∧ BoxR wx q rC ∧ Below W9.heap.size W9 wx)
    case first =>
      by_cases hck : ac = k
      · have hnk : a.length = k := by omega
        have HT : Hid (∀ u, Below W9.heap.size W9 u → TextsR u W9.heap.size (.slice av 0 0) (a.drop k)) := fun u hu => by
          have := (HTL.out u hu).1 hck
          rwa [show a.length - k = 0 by omega] at this
        subst hck
        clear HTL hnk
        have H0T := ghid h0t0
        clear h0t0
        go_region_held3 (fun w' => w'.cell? ⟨pt, 0, none⟩ = some (.int .i64 rT.log.base) ∧ w'.cell? ⟨pt, 1, none⟩ = some (.slice eot0 rT.log.ents.length ect0) ∧ w'.cell? ⟨pt, 2, none⟩ = some (.string rT.snap) ∧ w'.cell? ⟨pt, 3, none⟩ = some (.int .i64 rT.state.index) ∧ w'.cell? ⟨pt, 4, none⟩ = some (.slice lot0 lnt0 lct0) ∧ w'.cell? ⟨pt, 5, none⟩ = some (.slice pot0 pnt0 pct0) ∧ w'.cell? ⟨pt, 6, none⟩ = some (.slice sot0 snt0 sct0)) (go_keep)
          (first
            | (go_at_call 7; have hu := (Below.refl W9.heap.size W9).drew; have hz := (CA.out _ hu _ ((HT.out _ hu).mono hu.size)); (with_reducible refine hz.mono ?_); clear hz; rintro e w10 ⟨v10, rfl, hr10, hb10⟩; have hbu := hu.trans hb10; have HBU := ghid hbu; have HR10 := ghid hr10; clear hr10 hb10 hu hbu; obtain ⟨k0, k1, k2, k3, k4, k5, k6, kf, kl⟩ := seven_cells (behind H0T.out (Below.refl _ _) HBU.out); have hq1 : pt ≠ w10.heap.size := Nat.ne_of_lt kl; have hq2 : w10.heap.size ≠ pt := fun e => hq1 e.symm; obtain ⟨eou, lou, pou, sou, ecu, lnu, lcu, pnu, pcu, snu, scu, rfl⟩ := HR10.out.now.shape)
            | (go_at_call 7; have hu := ((Below.refl W9.heap.size W9).alloc (Nat.le_refl _) (.cells #[.int .i64 0, .slice none 0 0, .string ⟨#[]⟩, .int .i64 0, .slice none 0 0, .slice none 0 0, .slice none 0 0] 36)).drew; have hz := (CA.out _ hu _ ((HT.out _ hu).mono hu.size)); (with_reducible refine hz.mono ?_); clear hz; rintro e w10 ⟨v10, rfl, hr10, hb10⟩; have hbu := hu.trans (hb10.mono hu.size); have HBU := ghid hbu; have HR10 := ghid hr10; have hq0 := behind (heap_alloc_new W9 (.cells #[.int .i64 0, .slice none 0 0, .string ⟨#[]⟩, .int .i64 0, .slice none 0 0, .slice none 0 0, .slice none 0 0] 36)) ((Below.refl _ _).drew) hb10; have HQ := ghid hq0; clear hr10 hb10 hu hbu hq0; obtain ⟨j0, j1, j2, j3, j4, j5, j6, jf, jl⟩ := seven_cells HQ.out; obtain ⟨k0, k1, k2, k3, k4, k5, k6, kf, kl⟩ := seven_cells (behind H0T.out (Below.refl _ _) HBU.out); obtain ⟨eou, lou, pou, sou, ecu, lnu, lcu, pnu, pcu, snu, scu, rfl⟩ := HR10.out.now.shape))
        all_goals
          go_wp2
          go_meet
          first
            | (have hA := BoxR.new HR10.out.now
               have hB := HBU.out.alloc HBU.out.size (.cells #[.int .i64 (rC).log.base, .slice eou (rC).log.ents.length ecu, .string (rC).snap, .int .i64 (rC).state.index, .slice lou lnu lcu, .slice pou pnu pcu, .slice sou snu scu] 36)
               with_reducible exact ⟨w10.heap.size, rfl, rfl, hA, hB⟩)
            | (have hC : BoxR (((((((w10.setCell ⟨W9.heap.size, 0, none⟩ (.int .i64 rC.log.base)).setCell ⟨W9.heap.size, 1, none⟩ (.slice eou rC.log.ents.length ecu)).setCell ⟨W9.heap.size, 2, none⟩ (.string rC.snap)).setCell ⟨W9.heap.size, 3, none⟩ (.int .i64 rC.state.index)).setCell ⟨W9.heap.size, 4, none⟩ (.slice lou lnu lcu)).setCell ⟨W9.heap.size, 5, none⟩ (.slice pou pnu pcu)).setCell ⟨W9.heap.size, 6, none⟩ (.slice sou snu scu)) W9.heap.size rC := ⟨eou, lou, pou, sou, ecu, lnu, lcu, pnu, pcu, snu, scu, set7 HQ.out _ _ _ _ _ _ _, (HR10.out.touch (touch7 W9.heap.size _ _ _ _ _ _ _) (fun g _ e => by subst e; exact ⟨by simp, rep_alien HQ.out⟩)).now⟩
               have hD : Below W9.heap.size W9 (((((((w10.setCell ⟨W9.heap.size, 0, none⟩ (.int .i64 rC.log.base)).setCell ⟨W9.heap.size, 1, none⟩ (.slice eou rC.log.ents.length ecu)).setCell ⟨W9.heap.size, 2, none⟩ (.string rC.snap)).setCell ⟨W9.heap.size, 3, none⟩ (.int .i64 rC.state.index)).setCell ⟨W9.heap.size, 4, none⟩ (.slice lou lnu lcu)).setCell ⟨W9.heap.size, 5, none⟩ (.slice pou pnu pcu)).setCell ⟨W9.heap.size, 6, none⟩ (.slice sou snu scu)) := zset7 HBU.out (Nat.le_refl _) _ _ _ _ _ _ _
               with_reducible exact ⟨W9.heap.size, rfl, rfl, hC, hD⟩)
      · have HT : Hid (∀ u, Below W9.heap.size W9 u → TextsR u W9.heap.size (.slice (av.map (fun x => x.add k)) (a.length - k) (ac - k)) (a.drop k)) := fun u hu => (HTL.out u hu).2 hck
        clear HTL
        have H0T := ghid h0t0
        clear h0t0
        go_region_held3 (fun w' => w'.cell? ⟨pt, 0, none⟩ = some (.int .i64 rT.log.base) ∧ w'.cell? ⟨pt, 1, none⟩ = some (.slice eot0 rT.log.ents.length ect0) ∧ w'.cell? ⟨pt, 2, none⟩ = some (.string rT.snap) ∧ w'.cell? ⟨pt, 3, none⟩ = some (.int .i64 rT.state.index) ∧ w'.cell? ⟨pt, 4, none⟩ = some (.slice lot0 lnt0 lct0) ∧ w'.cell? ⟨pt, 5, none⟩ = some (.slice pot0 pnt0 pct0) ∧ w'.cell? ⟨pt, 6, none⟩ = some (.slice sot0 snt0 sct0)) (go_keep)
          (first
            | (go_at_call 7; have hu := (Below.refl W9.heap.size W9).drew; have hz := (CA.out _ hu _ ((HT.out _ hu).mono hu.size)); (with_reducible refine hz.mono ?_); clear hz; rintro e w10 ⟨v10, rfl, hr10, hb10⟩; have hbu := hu.trans hb10; have HBU := ghid hbu; have HR10 := ghid hr10; clear hr10 hb10 hu hbu; obtain ⟨k0, k1, k2, k3, k4, k5, k6, kf, kl⟩ := seven_cells (behind H0T.out (Below.refl _ _) HBU.out); have hq1 : pt ≠ w10.heap.size := Nat.ne_of_lt kl; have hq2 : w10.heap.size ≠ pt := fun e => hq1 e.symm; obtain ⟨eou, lou, pou, sou, ecu, lnu, lcu, pnu, pcu, snu, scu, rfl⟩ := HR10.out.now.shape)
            | (go_at_call 7; have hu := ((Below.refl W9.heap.size W9).alloc (Nat.le_refl _) (.cells #[.int .i64 0, .slice none 0 0, .string ⟨#[]⟩, .int .i64 0, .slice none 0 0, .slice none 0 0, .slice none 0 0] 36)).drew; have hz := (CA.out _ hu _ ((HT.out _ hu).mono hu.size)); (with_reducible refine hz.mono ?_); clear hz; rintro e w10 ⟨v10, rfl, hr10, hb10⟩; have hbu := hu.trans (hb10.mono hu.size); have HBU := ghid hbu; have HR10 := ghid hr10; have hq0 := behind (heap_alloc_new W9 (.cells #[.int .i64 0, .slice none 0 0, .string ⟨#[]⟩, .int .i64 0, .slice none 0 0, .slice none 0 0, .slice none 0 0] 36)) ((Below.refl _ _).drew) hb10; have HQ := ghid hq0; clear hr10 hb10 hu hbu hq0; obtain ⟨j0, j1, j2, j3, j4, j5, j6, jf, jl⟩ := seven_cells HQ.out; obtain ⟨k0, k1, k2, k3, k4, k5, k6, kf, kl⟩ := seven_cells (behind H0T.out (Below.refl _ _) HBU.out); obtain ⟨eou, lou, pou, sou, ecu, lnu, lcu, pnu, pcu, snu, scu, rfl⟩ := HR10.out.now.shape))
        all_goals
          go_wp2
          go_meet
          first
            | (have hA := BoxR.new HR10.out.now
               have hB := HBU.out.alloc HBU.out.size (.cells #[.int .i64 (rC).log.base, .slice eou (rC).log.ents.length ecu, .string (rC).snap, .int .i64 (rC).state.index, .slice lou lnu lcu, .slice pou pnu pcu, .slice sou snu scu] 36)
               with_reducible exact ⟨w10.heap.size, rfl, rfl, hA, hB⟩)
            | (have hC : BoxR (((((((w10.setCell ⟨W9.heap.size, 0, none⟩ (.int .i64 rC.log.base)).setCell ⟨W9.heap.size, 1, none⟩ (.slice eou rC.log.ents.length ecu)).setCell ⟨W9.heap.size, 2, none⟩ (.string rC.snap)).setCell ⟨W9.heap.size, 3, none⟩ (.int .i64 rC.state.index)).setCell ⟨W9.heap.size, 4, none⟩ (.slice lou lnu lcu)).setCell ⟨W9.heap.size, 5, none⟩ (.slice pou pnu pcu)).setCell ⟨W9.heap.size, 6, none⟩ (.slice sou snu scu)) W9.heap.size rC := ⟨eou, lou, pou, sou, ecu, lnu, lcu, pnu, pcu, snu, scu, set7 HQ.out _ _ _ _ _ _ _, (HR10.out.touch (touch7 W9.heap.size _ _ _ _ _ _ _) (fun g _ e => by subst e; exact ⟨by simp, rep_alien HQ.out⟩)).now⟩
               have hD : Below W9.heap.size W9 (((((((w10.setCell ⟨W9.heap.size, 0, none⟩ (.int .i64 rC.log.base)).setCell ⟨W9.heap.size, 1, none⟩ (.slice eou rC.log.ents.length ecu)).setCell ⟨W9.heap.size, 2, none⟩ (.string rC.snap)).setCell ⟨W9.heap.size, 3, none⟩ (.int .i64 rC.state.index)).setCell ⟨W9.heap.size, 4, none⟩ (.slice lou lnu lcu)).setCell ⟨W9.heap.size, 5, none⟩ (.slice pou pnu pcu)).setCell ⟨W9.heap.size, 6, none⟩ (.slice sou snu scu)) := zset7 HBU.out (Nat.le_refl _) _ _ _ _ _ _ _
               with_reducible exact ⟨W9.heap.size, rfl, rfl, hC, hD⟩)
    case rest =>
      obtain ⟨pu, rfl, rfl, hxu, hbx⟩ := hcut
      have HXr10 := ghid (HXr9.out.below hbx)
      have HXc10 := ghid (HXc9.out.below hbx)
      have HXd10 := ghid (HXd9.out.below hbx)
      have HXx10 := ghid (HXx9.out.below hbx)
      have HXy10 := ghid (HXy9.out.below hbx)
      have HXt10 := ghid (HXt9.out.below hbx)
      have HXu10 := ghid hxu
      have HP10 := ghid (HP9.out.trans (hbx.mono HP9.out.size))
      clear hxu hbx h0t0 CA HTL hqt hqt2 HXr9 HXc9 HXd9 HXx9 HXy9 HXt9 HP9 c0t0 c1t0 c2t0 c3t0 c4t0 c5t0 c6t0 cft0 clt0
      obtain ⟨eou0, lou0, pou0, sou0, ecu0, lnu0, lcu0, pnu0, pcu0, snu0, scu0, h0u0, hRu0⟩ := id HXu10.out
      obtain ⟨c0u0, c1u0, c2u0, c3u0, c4u0, c5u0, c6u0, cfu0, clu0⟩ := seven_cells h0u0
      have CA := ghid (repApply_any _ rC a.length _ _ hRu0 (Nat.le_refl _) HC0.out ⟨by omega, by omega⟩)
      rw [HGX.out] at CA
      go_wp2_with fail
      refine CA.out.mono ?_
      rintro e w11 ⟨v11, m11, rfl, hr11, hm11, hb11⟩
      obtain ⟨mo11, mc11, rfl⟩ := grow_shape hm11
      obtain ⟨eov, lov, pov, sov, ecv, lnv, lcv, pnv, pcv, snv, scv, rfl⟩ := hr11.reads.shape
      have hx := BoxR.new hr11.reads
      have hba := (Below.refl w11.heap.size w11).alloc (Nat.le_refl _) (.cells #[.int .i64 (rX).log.base, .slice eov (rX).log.ents.length ecv, .string (rX).snap, .int .i64 (rX).state.index, .slice lov lnv lcv, .slice pov pnv pcv, .slice sov snv scv] 36)
      have hbd := hb11.trans (hba.mono hb11.size)
      have HXv11 := ghid hx
      have HXr11 := ghid (HXr10.out.below hbd)
      have HXc11 := ghid (HXc10.out.below hbd)
      have HXd11 := ghid (HXd10.out.below hbd)
      have HXx11 := ghid (HXx10.out.below hbd)
      have HXy11 := ghid (HXy10.out.below hbd)
      have HP11 := ghid (HP10.out.trans (hbd.mono HP10.out.size))
      clear hr11 hm11 hb11 hx hba hbd CA hRu0 HP10 HXr10 HXc10 HXd10 HXx10 HXy10 HXt10 HXu10 c0u0 c1u0 c2u0 c3u0 c4u0 c5u0 c6u0 cfu0 clu0 h0u0
      obtain ⟨eodp, lodp, podp, sodp, ecdp, lndp, lcdp, pndp, pcdp, sndp, scdp, h0dp, hRdp⟩ := id HXd11.out
      obtain ⟨c0dp, c1dp, c2dp, c3dp, c4dp, c5dp, c6dp, cfdp, cldp⟩ := seven_cells h0dp
      obtain ⟨eorp, lorp, porp, sorp, ecrp, lnrp, lcrp, pnrp, pcrp, snrp, scrp, h0rp, hRrp⟩ := id HXr11.out
      obtain ⟨c0rp, c1rp, c2rp, c3rp, c4rp, c5rp, c6rp, cfrp, clrp⟩ := seven_cells h0rp
      have CS := ghid (keepSame_any _ _ rC.state _ _ hRdp.state (StateR.of_eq hRrp.state HSK.out) (Nat.le_refl _) (repE_zero HC0.out).2.1)
      clear hRdp hRrp h0dp h0rp
      go_wp2_with fail
      refine CS.out.mono ?_
      rintro e w12 ⟨rfl, hb12⟩
      have HXx12 := ghid (HXx11.out.below hb12)
      have HXy12 := ghid (HXy11.out.below hb12)
      have HXc12 := ghid (HXc11.out.below hb12)
      have HXv12 := ghid (HXv11.out.below hb12)
      have HP12 := ghid (HP11.out.trans (hb12.mono HP11.out.size))
      clear hb12 CS HP11 HXr11 HXd11 HXx11 HXy11 HXc11 HXv11
      clear c0dp c1dp c2dp c3dp c4dp c5dp c6dp cfdp cldp
      clear c0rp c1rp c2rp c3rp c4rp c5rp c6rp cfrp clrp
      obtain ⟨eoxq, loxq, poxq, soxq, ecxq, lnxq, lcxq, pnxq, pcxq, snxq, scxq, h0xq, hRxq⟩ := id HXx12.out
      obtain ⟨c0xq, c1xq, c2xq, c3xq, c4xq, c5xq, c6xq, cfxq, clxq⟩ := seven_cells h0xq
      obtain ⟨eoyq, loyq, poyq, soyq, ecyq, lnyq, lcyq, pnyq, pcyq, snyq, scyq, h0yq, hRyq⟩ := id HXy12.out
      obtain ⟨c0yq, c1yq, c2yq, c3yq, c4yq, c5yq, c6yq, cfyq, clyq⟩ := seven_cells h0yq
      have CS := ghid (keepSame_any _ _ rX.state _ _ hRxq.state (StateR.of_eq hRyq.state HSX.out) (Nat.le_refl _) (repE_zero HX0.out).2.1)
      clear hRxq hRyq h0xq h0yq
      go_wp2_with fail
      refine CS.out.mono ?_
      rintro e w13 ⟨rfl, hb13⟩
      have HXy13 := ghid (HXy12.out.below hb13)
      have HXc13 := ghid (HXc12.out.below hb13)
      have HXv13 := ghid (HXv12.out.below hb13)
      have HP13 := ghid (HP12.out.trans (hb13.mono HP12.out.size))
      clear hb13 CS HP12 HXx12 HXy12 HXc12 HXv12
      clear c0xq c1xq c2xq c3xq c4xq c5xq c6xq cfxq clxq
      clear c0yq c1yq c2yq c3yq c4yq c5yq c6yq cfyq clyq
      obtain ⟨eovs, lovs, povs, sovs, ecvs, lnvs, lcvs, pnvs, pcvs, snvs, scvs, h0vs, hRvs⟩ := id HXv13.out
      obtain ⟨c0vs, c1vs, c2vs, c3vs, c4vs, c5vs, c6vs, cfvs, clvs⟩ := seven_cells h0vs
      obtain ⟨eoys, loys, poys, soys, ecys, lnys, lcys, pnys, pcys, snys, scys, h0ys, hRys⟩ := id HXy13.out
      obtain ⟨c0ys, c1ys, c2ys, c3ys, c4ys, c5ys, c6ys, cfys, clys⟩ := seven_cells h0ys
      have CS := ghid (keepSame_any _ _ rX.state _ _ hRvs.state (StateR.of_eq hRys.state HSX.out) (Nat.le_refl _) (repE_zero HX0.out).2.1)
      clear hRvs hRys h0vs h0ys
      go_wp2_with fail
      refine CS.out.mono ?_
      rintro e w14 ⟨rfl, hb14⟩
      have HXc14 := ghid (HXc13.out.below hb14)
      have HXv14 := ghid (HXv13.out.below hb14)
      have HP14 := ghid (HP13.out.trans (hb14.mono HP13.out.size))
      clear hb14 CS HP13 HXy13 HXc13 HXv13
      clear c0vs c1vs c2vs c3vs c4vs c5vs c6vs cfvs clvs
      clear c0ys c1ys c2ys c3ys c4ys c5ys c6ys cfys clys
      obtain ⟨eovw, lovw, povw, sovw, ecvw, lnvw, lcvw, pnvw, pcvw, snvw, scvw, h0vw, hRvw⟩ := id HXv14.out
      obtain ⟨c0vw, c1vw, c2vw, c3vw, c4vw, c5vw, c6vw, cfvw, clvw⟩ := seven_cells h0vw
      have CK := ghid (repCheck_ok _ rX w14 _ hRvw (Nat.le_refl _) HX0.out)
      clear hRvw h0vw
      go_wp2_with fail
      refine CK.out.mono ?_
      rintro e w15 ⟨rfl, hb15⟩
      have HXc15 := ghid (HXc14.out.below hb15)
      have HF := ghid (HB2.out.trans ((HP14.out.trans (hb15.mono HP14.out.size)).mono HB2.out.size))
      clear hb15 CK HXc14 HXv14 HP14
      obtain ⟨eocw, locw, pocw, socw, eccw, lncw, lccw, pncw, pccw, sncw, sccw, h0cw, hRcw⟩ := id HXc15.out
      obtain ⟨c0cw, c1cw, c2cw, c3cw, c4cw, c5cw, c6cw, cfcw, clcw⟩ := seven_cells h0cw
      have hln := HLN.out
      clear hRcw h0cw
      go_wp2
      go_ret
      exact ⟨rfl, HF.out⟩
end Go.Proofs.YtbmfahgekcnkaajGreatDoor
