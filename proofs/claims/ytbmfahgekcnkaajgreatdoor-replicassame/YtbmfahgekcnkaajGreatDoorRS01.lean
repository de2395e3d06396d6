/- Plain mathematics of locks: when may they be; what is wrong first; lock.Name and the document's NameMay: both tell whether a text is a name, at every text; lock.isClient, lock.lineInForm, lock.inForm: may the name, the holder and the line be those of a lock?; lock.inForm: may the name, the holder and the line be those of a lock?; lock.Check: what is wrong with locks; Plain mathematics of pairs: when may they be; where a name stands; what is set, what is got; pair.Check, and the document's PairsFault: what is wrong with pairs; session.within, isClient, inRange, mayBeKept, inForm, Check; session.inForm, session.Check (joined by program) -/
import Derived.Test.YtbmfahgekcnkaajGreatDoorRows
import Derived.WalkKit
import Derived.ProofKit
import Derived.WalkLawsBesides
import Derived.Laws.Cover1
import Derived.Deep.QuietTactic
import Derived.BigQuiet
import Derived.Test.YtbmfahgekcnkaajGreatDoorRS00
namespace Go.Proofs.YtbmfahgekcnkaajGreatDoor
open Go.RowKit
def badB (xs:List Int) (h:Int) (i:Nat):Bool :=
 match xs[i]? with
 | none=>false
 | some x=>!decide (1≤x∧x≤9) || decide (x=h) || hasB x (xs.take i)
def lineB (xs:List Int) (h:Int):Bool:=decide (xs.length≤3∧¬ (h=0∧0 < xs.length)) && (List.range xs.length).all fun i=>!badB xs h i
def formB (x:LockD):Bool:=nameB x.name && decide (0≤x.holder∧x.holder≤9) && lineB x.line x.holder
def leN (a b:ByteArray):Bool:=Op.bytesLess a.toList b.toList || a.toList == b.toList
def checkFrom:ByteArray→List LockD→Int
 | _,[]=>0
 | p,x :: t=>if formB x=false then 4 else if x.fence < 1∨1073741824 < x.fence then 2 else if leN x.name p=true then 14 else checkFrom x.name t
def checkL (ls:List LockD):Int:=if 5 < ls.length then 1 else checkFrom ⟨#[]⟩ ls
theorem lineB_yes {xs:List Int} {h:Int} (hl:lineB xs h=true):xs.length≤3∧¬ (h=0∧0 < xs.length)∧∀ i x,xs[i]?=some x→1≤x∧x≤9∧x≠h∧hasB x (xs.take i)=false:=by
 unfold lineB at hl
 rw [Bool.and_eq_true] at hl
 obtain ⟨h1,h2⟩:=hl
 have h1:=of_decide_eq_true h1
 refine ⟨h1.1,h1.2,fun i x hx=>?_⟩
 have hi:i < xs.length:=(List.getElem?_eq_some_iff.1 hx).1
 have:=List.all_eq_true.1 h2 i (List.mem_range.2 hi)
 simp only [badB,hx,Bool.not_eq_true',Bool.or_eq_false_iff,Bool.not_eq_false'] at this
 have h3:=of_decide_eq_true this.1.1
 exact ⟨h3.1,h3.2,of_decide_eq_false this.1.2,this.2⟩
theorem lineB_no {xs:List Int} {h:Int} (hl:lineB xs h=false) (h1:xs.length≤3) (h2:¬ (h=0∧0 < xs.length)) :
  ∃ i x,xs[i]?=some x∧(x < 1∨9 < x∨x=h∨hasB x (xs.take i)=true):=by
 unfold lineB at hl
 rw [decide_eq_true (p:=xs.length≤3∧¬ (h=0∧0 < xs.length)) ⟨h1,h2⟩,Bool.true_and] at hl
 obtain ⟨i,hi,hb⟩:=List.all_eq_false.1 hl
 have hi':=List.mem_range.1 hi
 refine ⟨i,xs[i],List.getElem?_eq_getElem hi',?_⟩
 simp only [badB,List.getElem?_eq_getElem hi',Bool.not_eq_true',Bool.or_eq_false_iff,not_and] at hb
 cases hh:hasB xs[i] (xs.take i) with
 | true=>exact Or.inr (Or.inr (Or.inr rfl))
 | false =>
  rw [hh] at hb
  simp at hb
  omega
theorem ints_take {w:World} {B b off k cap:Nat} {xs:List Int} (hk:k≤xs.length) (h1:xs.length≤cap) (h2:xs.length*8≤140737488351232) (hb:b < B)
  (hc:∀ i x,xs[i]?=some x→w.cell? ⟨b,off+i,none⟩=some (.int .i64 x)):IntsR w B (.slice (some ⟨b,off,none⟩) k cap) (xs.take k):=by
 refine ⟨some ⟨b,off,none⟩,cap,by rw [List.length_take,Nat.min_eq_left hk],by rw [List.length_take];omega,by rw [List.length_take];omega,(by intro h;cases h),fun _=>⟨b,off,rfl,hb,fun i x hx=>hc i x ?_⟩⟩
 rw [List.getElem?_take] at hx
 split at hx
 ·exact hx
 ·cases hx
end Go.Proofs.YtbmfahgekcnkaajGreatDoor
namespace Go.Proofs.YtbmfahgekcnkaajGreatDoor
open Go.RowKit
set_option maxHeartbeats 400000 in
theorem name_yes (s:ByteArray) (w:World) (h:nameB s=true) :
  Calls Tryz.prog 98 #[.string s] w fun e w'=>e=.returned (.bool true)∧w'=w:=by
 obtain ⟨h1,h2,h3⟩:=nameB_yes h
 clear h
 go_enter Tryz.func98,Tryz.ntmps98
 go_wp2
 go_loop [14] (fun i=>∃ k:Nat,k≤s.size∧i=.int .i64 k) (fun i=>s.size - (intOf i).toNat)
 case atStart=>exact ⟨0,Nat.zero_le _,rfl⟩
 case round =>
  obtain ⟨k,hk,rfl⟩:=hrel
  by_cases hlt:k < s.size
  ·obtain ⟨h4,h5⟩:=h3 k hlt
   go_wp2
   go_round
   case rel=>exact ⟨k+1,by omega,by go_num⟩
   case measure=>simp [intOf];omega
  ·go_wp2
   go_ret
   exact ⟨rfl,rfl⟩
set_option maxHeartbeats 400000 in
theorem name_no (s:ByteArray) (w:World) (hs:s.size≤9223372036854775807) (h:nameB s=false) :
  Calls Tryz.prog 98 #[.string s] w fun e w'=>e=.returned (.bool false)∧w'=w:=by
 by_cases h1:s.size < 1
 ·go_enter Tryz.func98,Tryz.ntmps98
  go_wp2
  go_ret
  exact ⟨rfl,rfl⟩
 ·by_cases h2:6 < s.size
  ·go_enter Tryz.func98,Tryz.ntmps98
   go_wp2
   go_ret
   exact ⟨rfl,rfl⟩
  ·obtain ⟨j,hj,hbad⟩:=nameB_no h (by omega) (by omega)
   clear h
   go_enter Tryz.func98,Tryz.ntmps98
   go_wp2
   go_loop [14] (fun i=>∃ k:Nat,k≤j∧i=.int .i64 k) (fun i=>s.size - (intOf i).toNat)
   case atStart=>exact ⟨0,Nat.zero_le _,rfl⟩
   case round =>
    obtain ⟨k,hk,rfl⟩:=hrel
    have hlt:k < s.size:=by omega
    by_cases h4:(s[k].toNat:Int) < 97
    ·clear hbad
     go_wp2
     go_ret
     exact ⟨rfl,rfl⟩
    ·by_cases h5:122 < (s[k].toNat:Int)
     ·clear hbad
      go_wp2
      go_ret
      exact ⟨rfl,rfl⟩
     ·have hne:k≠j:=by rintro rfl;omega
      clear hbad
      have hkj:k < j:=by omega
      clear hne
      go_wp2
      go_round
      case rel=>exact ⟨k+1,by omega,by go_num⟩
      case measure=>simp [intOf];omega
theorem name_any (s:ByteArray) (w:World) (hs:s.size≤9223372036854775807) :
  Calls Tryz.prog 98 #[.string s] w fun e w'=>e=.returned (.bool (nameB s))∧w'=w:=by
 cases h:nameB s with
 | true=>exact name_yes s w h
 | false=>exact name_no s w hs h
end Go.Proofs.YtbmfahgekcnkaajGreatDoor
namespace Go.Proofs.YtbmfahgekcnkaajGreatDoor
open Go.RowKit
theorem isClient_yes (n:Int) (w:World) (h1:1≤n) (h2:n≤9) :
  Calls Tryz.prog 108 #[.int .i64 n] w fun e w'=>e=.returned (.bool true)∧w'=w:=by
 go_enter Tryz.func108,Tryz.ntmps108
 go_wp2
 go_ret
 exact ⟨rfl,rfl⟩
theorem isClient_no (n:Int) (w:World) (h:n < 1∨9 < n) :
  Calls Tryz.prog 108 #[.int .i64 n] w fun e w'=>e=.returned (.bool false)∧w'=w:=by
 rcases h with h | h
 ·have h1:¬ 1≤n:=by omega
  go_enter Tryz.func108,Tryz.ntmps108
  go_wp2
  go_ret
  exact ⟨rfl,rfl⟩
 ·have h1:1≤n:=by omega
  have h2:¬ n≤9:=by omega
  go_enter Tryz.func108,Tryz.ntmps108
  go_wp2
  go_ret
  exact ⟨rfl,rfl⟩
set_option maxHeartbeats 800000 in
theorem line_yes (v : Value) (xs : List Int) (h : Int) (w : World) (B : Nat) (hv : IntsR w B v xs) (hl : lineB xs h = true) :
    Calls Tryz.prog 128 #[v, .int .i64 h] w fun e w' => e = .returned (.bool true) ∧ w' = w := by
  obtain ⟨l1, l2, l3⟩ := lineB_yes hl
  have H3 : Hid (∀ i x, xs[i]? = some x → 1 ≤ x ∧ x ≤ 9 ∧ x ≠ h ∧ hasB x (xs.take i) = false) := l3
  clear hl l3
  obtain ⟨ao, cap, rfl, h1, h2, h3, h4⟩ := hv
  by_cases hyp : h = 0
  · have hx : xs = [] := List.eq_nil_of_length_eq_zero (by
      by_cases hp : 0 < xs.length
      · exact absurd ⟨hyp, hp⟩ l2
      · exact Nat.eq_zero_of_not_pos hp)
    subst hx
    subst hyp
    clear l2 h4 H3
    simp only [List.length_nil]
    go_enter Tryz.func128, Tryz.ntmps128
    go_wp2
    go_loop [21] (fun i => i = .int .i64 0) (fun i => 0)
    case atStart => rfl
    case round =>
      subst hrel
      go_wp2
      go_ret
      exact ⟨rfl, rfl⟩
  · clear l2
    go_enter Tryz.func128, Tryz.ntmps128
    go_wp2
    go_loop [21] (fun i => ∃ k : Nat, k ≤ xs.length ∧ i = .int .i64 k) (fun i => xs.length - (intOf i).toNat)
    case atStart => exact ⟨0, Nat.zero_le _, rfl⟩
    case round =>
      obtain ⟨k, hk, rfl⟩ := hrel
      by_cases hlt : k < xs.length
      · obtain ⟨b, off, rfl, hb, hc⟩ := h4 (by omega)
        obtain ⟨y, hy⟩ : ∃ y, xs[k]? = some y := ⟨_, List.getElem?_eq_getElem hlt⟩
        have hcell := hc k y hy
        obtain ⟨y1, y2, y3, y4⟩ := H3.out k y hy
        have hkc : k ≤ cap := by omega
        have HT : Hid (IntsR w B (.slice (some ⟨b, off, none⟩) k cap) (xs.take k)) := ints_take hk h1 h2 hb hc
        have HH : Hid (hasB y (xs.take k) = false) := y4
        clear hy hc h4 y4
        go_wp2_with fail
        refine (isClient_yes y _ y1 y2).mono ?_
        rintro e w1 ⟨rfl, rfl⟩
        go_wp2_with fail
        refine (contains_any _ _ y _ B HT.out).mono ?_
        rintro e w1 ⟨rfl, rfl⟩
        rw [HH.out]
        go_wp2
        go_round
        case rel => exact ⟨k + 1, by omega, by go_num⟩
        case measure => simp [intOf]; omega
      · go_wp2
        go_ret
        exact ⟨rfl, rfl⟩
set_option maxHeartbeats 800000 in
theorem line_no (v:Value) (xs:List Int) (h:Int) (w:World) (B:Nat) (hv:IntsR w B v xs) (hl:lineB xs h=false) :
  Calls Tryz.prog 128 #[v,.int .i64 h] w fun e w'=>e=.returned (.bool false)∧w'=w:=by
 obtain ⟨ao,cap,rfl,h1,h2,h3,h4⟩:=hv
 by_cases c1:3 < xs.length
 ·go_enter Tryz.func128,Tryz.ntmps128
  go_wp2
  go_ret
  exact ⟨rfl,rfl⟩
 ·by_cases c2:h=0∧0 < xs.length
  ·obtain ⟨c2,c3⟩:=c2
   subst c2
   go_enter Tryz.func128,Tryz.ntmps128
   go_wp2
   go_ret
   exact ⟨rfl,rfl⟩
  ·obtain ⟨j,z,hz,hbad⟩:=lineB_no hl (by omega) c2
   have hjl:j < xs.length:=(List.getElem?_eq_some_iff.1 hz).1
   have hh0:¬ h=0:=fun e=>c2 ⟨e,by omega⟩
   have HB:Hid (z < 1∨9 < z∨z=h∨hasB z (xs.take j)=true):=hbad
   have HZ:Hid (xs[j]?=some z):=hz
   clear hl c2 hbad hz
   go_enter Tryz.func128,Tryz.ntmps128
   go_wp2
   go_loop [21] (fun i=>∃ k:Nat,k≤j∧i=.int .i64 k) (fun i=>xs.length - (intOf i).toNat)
   case atStart=>exact ⟨0,Nat.zero_le _,rfl⟩
   case round =>
    obtain ⟨k,hk,rfl⟩:=hrel
    have hlt:k < xs.length:=by omega
    obtain ⟨b,off,rfl,hb,hc⟩:=h4 (by omega)
    obtain ⟨y,hy⟩:∃ y,xs[k]?=some y:=⟨_,List.getElem?_eq_getElem hlt⟩
    have hcell:=hc k y hy
    have hkc:k≤cap:=by omega
    have HT:Hid (IntsR w B (.slice (some ⟨b,off,none⟩) k cap) (xs.take k)):=ints_take (by omega) h1 h2 hb hc
    have HY:Hid (xs[k]?=some y):=hy
    clear hy hc h4
    by_cases y1:y < 1∨9 < y
    ·have HC:=isClient_no y w y1
     clear y1
     go_wp2_with fail
     refine HC.mono ?_
     rintro e w1 ⟨rfl,rfl⟩
     go_wp2
     go_ret
     exact ⟨rfl,rfl⟩
    ·have y2:1≤y:=by omega
     have y3:y≤9:=by omega
     clear y1
     by_cases y4:y=h
     ·subst y4
      go_wp2_with fail
      refine (isClient_yes y _ y2 y3).mono ?_
      rintro e w1 ⟨rfl,rfl⟩
      go_wp2
      go_ret
      exact ⟨rfl,rfl⟩
     ·cases y5:hasB y (xs.take k) with
      | true =>
       have H5:Hid (hasB y (xs.take k)=true):=y5
       clear y5
       go_wp2_with fail
       refine (isClient_yes y _ y2 y3).mono ?_
       rintro e w1 ⟨rfl,rfl⟩
       go_wp2_with fail
       refine (contains_any _ _ y _ B HT.out).mono ?_
       rintro e w1 ⟨rfl,rfl⟩
       rw [H5.out]
       go_wp2
       go_ret
       exact ⟨rfl,rfl⟩
      | false =>
       have hkj:k < j:=by
        by_cases e:k=j
        ·subst e
         have e2:y=z:=by have:=HY.out;rw [HZ.out] at this;simpa using this.symm
         subst e2
         rcases HB.out with q | q | q | q
         ·omega
         ·omega
         ·exact absurd q y4
         ·rw [y5] at q;cases q
        ·omega
       have H5:Hid (hasB y (xs.take k)=false):=y5
       clear y5
       go_wp2_with fail
       refine (isClient_yes y _ y2 y3).mono ?_
       rintro e w1 ⟨rfl,rfl⟩
       go_wp2_with fail
       refine (contains_any _ _ y _ B HT.out).mono ?_
       rintro e w1 ⟨rfl,rfl⟩
       rw [H5.out]
       go_wp2
       go_round
       case rel=>exact ⟨k+1,by omega,by go_num⟩
       case measure=>simp [intOf];omega
theorem line_any (v:Value) (xs:List Int) (h:Int) (w:World) (B:Nat) (hv:IntsR w B v xs) :
  Calls Tryz.prog 128 #[v,.int .i64 h] w fun e w'=>e=.returned (.bool (lineB xs h))∧w'=w:=by
 cases hl:lineB xs h with
 | true=>exact line_yes v xs h w B hv hl
 | false=>exact line_no v xs h w B hv hl
end Go.Proofs.YtbmfahgekcnkaajGreatDoor
namespace Go.Proofs.YtbmfahgekcnkaajGreatDoor
open Go.RowKit
theorem formB_name {x:LockD} (h:nameB x.name=false):formB x=false:=by simp [formB,h]
theorem formB_holder {x:LockD} (h:x.holder < 0∨9 < x.holder):formB x=false:=by
 have:decide (0≤x.holder∧x.holder≤9)=false:=decide_eq_false (by omega)
 simp [formB,this]
theorem formB_line {x:LockD} (hn:nameB x.name=true) (h1:0≤x.holder) (h2:x.holder≤9):formB x=lineB x.line x.holder:=by
 have:decide (0≤x.holder∧x.holder≤9)=true:=decide_eq_true (by omega)
 simp [formB,hn,this]
set_option maxHeartbeats 800000 in
theorem inForm_any (nm:ByteArray) (hd fe:Int) (line:List Int) (lv:Value) (w:World) (B:Nat) (hl:IntsR w B lv line) (hB:B≤w.heap.size) (hs:nm.size≤140737488351232) :
  Calls Tryz.prog 97 #[.agg #[.string nm,.int .i64 hd,.int .i64 fe,lv]] w fun e w'=>e=.returned (.bool (formB ⟨nm,hd,fe,line⟩))∧Below w.heap.size w w':=by
 have HL:Hid (∀ w',Below w.heap.size w w'→IntsR w' B lv line):=fun w' hb=>hl.below hb hB
 obtain ⟨ao,cap,rfl,h1,h2,h3,h4⟩:=hl
 clear h4
 cases hn:nameB nm with
 | false =>
  rw [formB_name (x:=⟨nm,hd,fe,line⟩) hn]
  go_enter Tryz.func97,Tryz.ntmps97
  go_wp2_with fail
  refine (name_any nm _ (by omega)).mono ?_
  rintro e w1 ⟨rfl,rfl⟩
  rw [hn]
  go_wp2
  go_ret
  exact ⟨rfl,(Below.refl _ _).alloc (Nat.le_refl _) _⟩
 | true =>
  by_cases hr:hd < 0∨9 < hd
  ·rw [formB_holder (x:=⟨nm,hd,fe,line⟩) hr]
   have h0:¬ hd=0:=by omega
   have HC:=fun w=>isClient_no hd w (by omega)
   clear hr
   go_enter Tryz.func97,Tryz.ntmps97
   go_wp2_with fail
   refine (name_any nm _ (by omega)).mono ?_
   rintro e w1 ⟨rfl,rfl⟩
   rw [hn]
   go_wp2_with fail
   refine (HC _).mono ?_
   rintro e w1 ⟨rfl,rfl⟩
   go_wp2
   go_ret
   exact ⟨rfl,(Below.refl _ _).alloc (Nat.le_refl _) _⟩
  ·rw [formB_line (x:=⟨nm,hd,fe,line⟩) hn (by simp;omega) (by simp;omega)]
   by_cases h0:hd=0
   ·subst h0
    clear hr
    go_enter Tryz.func97,Tryz.ntmps97
    go_wp2_with fail
    refine (name_any nm _ (by omega)).mono ?_
    rintro e w1 ⟨rfl,rfl⟩
    rw [hn]
    go_wp2_with fail
    refine (line_any _ line 0 _ B (HL.out _ ((Below.refl _ _).alloc (Nat.le_refl _) _))).mono ?_
    rintro e w1 ⟨rfl,rfl⟩
    go_wp2
    go_ret
    exact ⟨rfl,(Below.refl _ _).alloc (Nat.le_refl _) _⟩
   ·have h5:1≤hd:=by omega
    have h6:hd≤9:=by omega
    clear hr
    go_enter Tryz.func97,Tryz.ntmps97
    go_wp2_with fail
    refine (name_any nm _ (by omega)).mono ?_
    rintro e w1 ⟨rfl,rfl⟩
    rw [hn]
    go_wp2_with fail
    refine (isClient_yes hd _ h5 h6).mono ?_
    rintro e w1 ⟨rfl,rfl⟩
    go_wp2_with fail
    refine (line_any _ line hd _ B (HL.out _ ((Below.refl _ _).alloc (Nat.le_refl _) _))).mono ?_
    rintro e w1 ⟨rfl,rfl⟩
    go_wp2
    go_ret
    exact ⟨rfl,(Below.refl _ _).alloc (Nat.le_refl _) _⟩
end Go.Proofs.YtbmfahgekcnkaajGreatDoor
namespace Go.Proofs.YtbmfahgekcnkaajGreatDoor
open Go.RowKit
theorem drop_cons {α:Type} {l:List α} {k:Nat} {x:α} (h:l[k]?=some x):l.drop k=x :: l.drop (k+1):=by
 obtain ⟨hk,he⟩:=List.getElem?_eq_some_iff.1 h
 rw [List.drop_eq_getElem_cons hk,he]
theorem ret_i64 {a b:Int} (h:a=b):Ending.returned (.int .i64 a)=.returned (.int .i64 b):=by rw [h]
theorem bcell {W w1:World} (hb:Below W.heap.size W w1):(∀ b o,b < W.heap.size→w1.cell? ⟨b,o,none⟩=W.cell? ⟨b,o,none⟩)∧(∀ b o,b < W.heap.size→w1.frozen? ⟨b,o,none⟩=W.frozen? ⟨b,o,none⟩) :=
 ⟨fun b o h=>hb.cell (p:=⟨b,o,none⟩) h,fun b o h=>hb.frozen (p:=⟨b,o,none⟩) h⟩
set_option maxHeartbeats 1600000 in
theorem check_any (v:Value) (ls:List LockD) (w:World) (B:Nat) (hv:LocksR w B v ls) (hB:B≤w.heap.size) :
  Calls Tryz.prog 60 #[v] w fun e w'=>e=.returned (.int .i64 (checkL ls))∧Below w.heap.size w w':=by
 obtain ⟨ao,cap,rfl,h1,h2,h3,h4⟩:=hv
 by_cases c1:5 < ls.length
 ·have e1:checkL ls=1:=by simp [checkL,c1]
  rw [e1]
  clear e1
  go_enter Tryz.func60,Tryz.ntmps60
  go_wp2
  go_ret
  exact ⟨rfl,Below.refl _ _⟩
 ·have e1:checkL ls=checkFrom ⟨#[]⟩ ls:=by simp [checkL,c1]
  rw [e1]
  clear e1
  go_enter Tryz.func60,Tryz.ntmps60
  go_wp2
  go_loopw [3,11] (fun p i wr=>∃ (k:Nat) (nm:ByteArray),k≤ls.length∧i=.int .i64 k∧p=.string nm∧checkFrom nm (ls.drop k)=checkFrom ⟨#[]⟩ ls∧Below w.heap.size w wr)
   (fun _ i _=>ls.length - (intOf i).toNat)
  case atStart=>exact ⟨0,⟨#[]⟩,Nat.zero_le _,rfl,rfl,by simp,Below.refl _ _⟩
  case round =>
   obtain ⟨k,nm,hk,rfl,rfl,heq,hb⟩:=hrel
   have HE:Hid (checkFrom nm (ls.drop k)=checkFrom ⟨#[]⟩ ls):=heq
   clear heq
   by_cases hlt:k < ls.length
   ·obtain ⟨b,off,rfl,hbB,hc⟩:=h4 (by omega)
    obtain ⟨x,hx⟩:∃ x,ls[k]?=some x:=⟨_,List.getElem?_eq_getElem hlt⟩
    have HX:Hid (ls.drop k=x :: ls.drop (k+1)):=drop_cons hx
    obtain ⟨lv,c0,c1,c2,c3,hl,hs⟩:=(hc k x hx).below hbB hb hB
    have HL:Hid (∀ w',Below wr.heap.size wr w'→IntsR w' B lv x.line):=fun w' h=>hl.below h (by have:=hb.size;omega)
    obtain ⟨lo,lc,rfl,hl1,hl2,-⟩:=hl
    have hsz:=hb.size
    clear hx hc h4
    obtain ⟨xn,xh,xf,xl⟩:=x
    simp only at c0 c1 c2 c3 hs HL hl1 hl2
    have HF:Hid (checkFrom nm (ls.drop k)=if formB ⟨xn,xh,xf,xl⟩=false then 4 else if xf < 1∨1073741824 < xf then 2 else if leN xn nm=true then 14 else checkFrom xn (ls.drop (k+1))):=by
     unfold Hid;rw [HX.out];rfl
    clear HX
    go_wp2_with fail
    refine (inForm_any xn xh xf xl _ _ B (HL.out _ ((Below.refl _ _).alloc (Nat.le_refl _) _)) (by simp;omega) hs).mono ?_
    rintro e w1 ⟨rfl,hb1⟩
    have hb2:Below w.heap.size w w1:=(hb.alloc hb.size _).trans (hb1.mono (by simp;omega))
    obtain ⟨hcc,hff⟩:=bcell hb1
    have hsz1:=hb1.size
    cases hform:formB ⟨xn,xh,xf,xl⟩ with
    | false =>
     rw [hform] at HF
     clear hb1
     go_wp2
     go_ret
     exact ⟨ret_i64 (by rw [←HE.out,HF.out];rfl),hb2⟩
    | true =>
     rw [hform] at HF
     clear hb1
     by_cases f1:xf < 1
     ·go_wp2
      go_ret
      exact ⟨ret_i64 (by rw [←HE.out,HF.out];simp [f1]),hb2⟩
     ·by_cases f2:1073741824 < xf
      ·go_wp2
       go_ret
       exact ⟨ret_i64 (by rw [←HE.out,HF.out];simp [f2]),hb2⟩
      ·have HF2:Hid (checkFrom nm (ls.drop k)=if leN xn nm=true then 14 else checkFrom xn (ls.drop (k+1))):=by
        unfold Hid;rw [HF.out,if_neg (by simp),if_neg (by omega)]
       clear HF
       cases hle:leN xn nm with
       | true =>
        rw [hle] at HF2
        have hle2:(Op.bytesLess xn.toList nm.toList || xn.toList == nm.toList)=true:=hle
        clear hle
        go_wp2
        go_ret
        exact ⟨ret_i64 (by rw [←HE.out,HF2.out];rfl),hb2⟩
       | false =>
        rw [hle] at HF2
        have hle2:(Op.bytesLess xn.toList nm.toList || xn.toList == nm.toList)=false:=hle
        clear hle
        go_wp2
        go_roundw
        case rel=>exact ⟨k+1,xn,by omega,by go_num,rfl,by rw [←HE.out,HF2.out];rfl,hb2⟩
        case measure=>simp [intOf];omega
   ·go_wp2
    go_ret
    exact ⟨ret_i64 (by rw [←HE.out,List.drop_of_length_le (by omega)];rfl),hb⟩
end Go.Proofs.YtbmfahgekcnkaajGreatDoor
namespace Go.Proofs.YtbmfahgekcnkaajGreatDoor
open Go.RowKit
def ltP (a b:ByteArray):Bool:=Op.bytesLess a.toList b.toList
def eqP (a b:ByteArray):Bool:=a.toList == b.toList
def leP (a b:ByteArray):Bool:=Op.bytesLess a.toList b.toList || a.toList == b.toList
theorem less_irrefl:∀ (x:List UInt8),Op.bytesLess x x=false
 | []=>rfl
 | a :: x=>by simp [Op.bytesLess,less_irrefl x]
theorem less_trans:∀ (x y z:List UInt8),Op.bytesLess x y=true→Op.bytesLess y z=true→Op.bytesLess x z=true
 | _,[],_,h,_=>by simp [Op.bytesLess] at h
 | _,_ :: _,[],_,h=>by simp [Op.bytesLess] at h
 | [],_ :: _,_ :: _,_,_=>by simp [Op.bytesLess]
 | a :: x,b :: y,c :: z,h1,h2=>by
  simp only [Op.bytesLess,Bool.or_eq_true,decide_eq_true_eq,Bool.and_eq_true,beq_iff_eq] at h1 h2 ⊢
  rcases h1 with h1 | ⟨rfl,h1⟩
  ·rcases h2 with h2 | ⟨rfl,h2⟩
   ·exact Or.inl (UInt8.lt_trans h1 h2)
   ·exact Or.inl h1
  ·rcases h2 with h2 | ⟨rfl,h2⟩
   ·exact Or.inl h2
   ·exact Or.inr ⟨rfl,less_trans x y z h1 h2⟩
theorem less_total:∀ (x y:List UInt8),Op.bytesLess x y=false→x≠y→Op.bytesLess y x=true
 | [],[],_,h=>absurd rfl h
 | _ :: _,[],_,_=>by simp [Op.bytesLess]
 | [],_ :: _,h,_=>by simp [Op.bytesLess] at h
 | a :: x,b :: y,h,hne=>by
  simp only [Op.bytesLess,Bool.or_eq_false_iff,decide_eq_false_iff_not,Bool.and_eq_false_iff,beq_eq_false_iff_ne] at h
  simp only [Op.bytesLess,Bool.or_eq_true,decide_eq_true_eq,Bool.and_eq_true,beq_iff_eq]
  obtain ⟨h1,h2⟩:=h
  by_cases e:a=b
  ·subst e
   right
   refine ⟨rfl,less_total x y ?_ (fun e=>hne (by rw [e]))⟩
   rcases h2 with h2 | h2
   ·exact absurd rfl h2
   ·exact h2
  ·left
   rw [UInt8.lt_iff_toNat_lt] at h1 ⊢
   have:a.toNat≠b.toNat:=fun h=>e (UInt8.toNat_inj.1 h)
   omega
theorem toList_inj {a b:ByteArray} (h:a.toList=b.toList):a=b:=by
 rw [ByteArray.toList_eq,ByteArray.toList_eq] at h
 have:a.data=b.data:=Array.toList_inj.1 (by simpa using h)
 cases a;cases b;simp_all
theorem eqP_iff {a b:ByteArray}:eqP a b=true ↔ a=b:=by
 unfold eqP
 rw [beq_iff_eq]
 exact ⟨toList_inj,fun h=>by rw [h]⟩
theorem eqP_false {a b:ByteArray}:eqP a b=false ↔ a≠b:=by
 rw [←Bool.not_eq_true,eqP_iff]
theorem ltP_irrefl (a:ByteArray):ltP a a=false:=less_irrefl _
theorem ltP_trans {a b c:ByteArray} (h1:ltP a b=true) (h2:ltP b c=true):ltP a c=true:=less_trans _ _ _ h1 h2
theorem ltP_total {a b:ByteArray} (h:ltP a b=false) (hne:a≠b):ltP b a=true:=less_total _ _ h (fun e=>hne (toList_inj e))
theorem ltP_ne {a b:ByteArray} (h:ltP a b=true):a≠b:=by rintro rfl;rw [ltP_irrefl] at h;cases h
theorem leP_false {a b:ByteArray} (h:leP a b=false):ltP b a=true:=by
 unfold leP at h
 rw [Bool.or_eq_false_iff] at h
 exact ltP_total h.1 (fun e=>by rw [e] at h;simp at h)
theorem leP_of_lt {a b:ByteArray} (h:ltP b a=true):leP a b=false:=by
 unfold leP
 rw [Bool.or_eq_false_iff]
 refine ⟨?_,?_⟩
 ·cases hx:Op.bytesLess a.toList b.toList with
  | false=>rfl
  | true =>
   have:=ltP_trans h hx
   rw [ltP_irrefl] at this
   cases this
 ·have:=ltP_ne h
  cases hx:(a.toList == b.toList) with
  | false=>rfl
  | true=>exact absurd (toList_inj (beq_iff_eq.1 hx)).symm this
def checkPF:ByteArray→List PairD→Int
 | _,[]=>0
 | p,x :: t=>if nameB x.name=false then 4 else if 12 < x.value.size then 1 else if x.version < 1∨1073741824 < x.version then 2 else if leP x.name p=true then 14 else checkPF x.name t
def checkP (ps:List PairD):Int:=if 5 < ps.length then 1 else checkPF ⟨#[]⟩ ps
def refuseP (ps:List PairD) (nm val:ByteArray):Int:=if checkP ps≠0 then checkP ps else if nameB nm=false then 4 else if 12 < val.size then 1 else 0
theorem checkPF_each {p:ByteArray} {ps:List PairD} (h:checkPF p ps=0) :
  (∀ x∈ps,nameB x.name=true∧x.value.size≤12∧1≤x.version∧x.version≤1073741824∧ltP p x.name=true)∧∀ (i j:Nat) (x y:PairD),i < j→ps[i]?=some x→ps[j]?=some y→ltP x.name y.name=true:=by
 induction ps generalizing p with
 | nil=>exact ⟨fun x hx=>(by cases hx),fun i j x y _ hx=>(by simp at hx)⟩
 | cons a t ih =>
  unfold checkPF at h
  split at h
  ·cases h
  ·rename_i h1
   split at h
   ·cases h
   ·rename_i h2
    split at h
    ·cases h
    ·rename_i h3
     split at h
     ·cases h
     ·rename_i h4
      obtain ⟨e1,e2⟩:=ih h
      have h4':ltP p a.name=true:=leP_false (by simpa using h4)
      refine ⟨fun x hx=>?_,fun i j x y hij hx hy=>?_⟩
      ·rcases List.mem_cons.1 hx with rfl | hx
       ·exact ⟨by simpa using h1,by omega,by omega,by omega,h4'⟩
       ·obtain ⟨g1,g2,g3,g4,g5⟩:=e1 x hx
        exact ⟨g1,g2,g3,g4,ltP_trans h4' g5⟩
      ·cases j with
       | zero=>omega
       | succ j =>
        rw [List.getElem?_cons_succ] at hy
        cases i with
        | zero =>
         rw [List.getElem?_cons_zero] at hx
         cases hx
         exact (e1 y (List.mem_of_getElem? hy)).2.2.2.2
        | succ i =>
         rw [List.getElem?_cons_succ] at hx
         exact e2 i j x y (by omega) hx hy
theorem checkPF_of {p:ByteArray} {ps:List PairD} (h1:∀ x∈ps,nameB x.name=true∧x.value.size≤12∧1≤x.version∧x.version≤1073741824∧ltP p x.name=true)
  (h2:∀ (i j:Nat) (x y:PairD),i < j→ps[i]?=some x→ps[j]?=some y→ltP x.name y.name=true):checkPF p ps=0:=by
 induction ps generalizing p with
 | nil=>rfl
 | cons a t ih =>
  obtain ⟨g1,g2,g3,g4,g5⟩:=h1 a (by simp)
  unfold checkPF
  rw [if_neg (by rw [g1];simp),if_neg (by omega),if_neg (by omega),if_neg (by rw [leP_of_lt g5];simp)]
  refine ih (fun x hx=>?_) (fun i j x y hij hx hy=>h2 (i+1) (j+1) x y (by omega) hx hy)
  obtain ⟨k1,k2,k3,k4,_⟩:=h1 x (by simp [hx])
  obtain ⟨j,hj⟩:=List.mem_iff_getElem?.1 hx
  exact ⟨k1,k2,k3,k4,h2 0 (j+1) a x (by omega) rfl hj⟩
theorem ltP_empty {a:ByteArray} (h:nameB a=true):ltP ⟨#[]⟩ a=true:=by
 obtain ⟨h1,_,_⟩:=nameB_yes h
 have e:(⟨#[]⟩:ByteArray).toList=[]:=by rw [ByteArray.toList_eq]
 unfold ltP
 rw [e]
 cases hl:a.toList with
 | nil =>
  rw [ByteArray.toList_eq] at hl
  have:=congrArg List.length hl
  simp at this
  have h2:a.size=0:=by rw [←ByteArray.size_data];simpa using this
  omega
 | cons c t=>simp [Op.bytesLess]
theorem leP_empty {a:ByteArray} (h:nameB a=true):leP a ⟨#[]⟩=false:=leP_of_lt (ltP_empty h)
structure GoodP (ps:List PairD):Prop where
 len:ps.length≤5
 each:∀ x∈ps,nameB x.name=true∧x.value.size≤12∧1≤x.version∧x.version≤1073741824
 order:∀ (i j:Nat) (x y:PairD),i < j→ps[i]?=some x→ps[j]?=some y→ltP x.name y.name=true
theorem checkP_good {ps:List PairD} (h:checkP ps=0):GoodP ps:=by
 unfold checkP at h
 split at h
 ·cases h
 ·obtain ⟨h1,h2⟩:=checkPF_each h
  exact ⟨by omega,fun x hx=>by obtain ⟨a,b,c,d,_⟩:=h1 x hx;exact ⟨a,b,c,d⟩,h2⟩
theorem GoodP.check {ps:List PairD} (h:GoodP ps):checkP ps=0:=by
 unfold checkP
 rw [if_neg (by have:=h.len;omega)]
 exact checkPF_of (fun x hx=>by obtain ⟨a,b,c,d⟩:=h.each x hx;exact ⟨a,b,c,d,ltP_empty a⟩) h.order
def placeP (ps:List PairD) (nm:ByteArray):Nat:=ps.findIdx fun x=>!ltP x.name nm
def thereP (ps:List PairD) (nm:ByteArray):Bool :=
 match ps[placeP ps nm]? with
 | some x=>eqP x.name nm
 | none=>false
theorem placeP_le (ps:List PairD) (nm:ByteArray):placeP ps nm≤ps.length:=List.findIdx_le_length
theorem placeP_before {ps:List PairD} {nm:ByteArray} {j:Nat} {x:PairD} (hj:j < placeP ps nm) (hx:ps[j]?=some x):ltP x.name nm=true:=by
 have hl:j < ps.length:=(List.getElem?_eq_some_iff.1 hx).1
 have:=List.not_of_lt_findIdx hj
 rw [(List.getElem?_eq_some_iff.1 hx).2] at this
 simpa using this
theorem placeP_at {ps:List PairD} {nm:ByteArray} {x:PairD} (hx:ps[placeP ps nm]?=some x):ltP x.name nm=false:=by
 obtain ⟨hl,he⟩:=List.getElem?_eq_some_iff.1 hx
 have h:(!ltP (ps[placeP ps nm]'hl).name nm)=true:=List.findIdx_getElem (w:=hl)
 rw [he] at h
 simpa using h
theorem thereP_yes {ps:List PairD} {nm:ByteArray} (h:thereP ps nm=true):∃ x,ps[placeP ps nm]?=some x∧x.name=nm:=by
 unfold thereP at h
 split at h
 ·rename_i x hx
  exact ⟨x,hx,eqP_iff.1 h⟩
 ·cases h
theorem thereP_no {ps:List PairD} {nm:ByteArray} (hg:GoodP ps) (h:thereP ps nm=false) (j:Nat) (y:PairD) (hy:ps[j]?=some y):y.name≠nm:=by
 by_cases a:j < placeP ps nm
 ·exact ltP_ne (placeP_before a hy)
 ·have hjl:j < ps.length:=(List.getElem?_eq_some_iff.1 hy).1
  have hpl:placeP ps nm < ps.length:=by omega
  have hx:ps[placeP ps nm]?=some ps[placeP ps nm]:=List.getElem?_eq_getElem hpl
  have hne:ps[placeP ps nm].name≠nm:=by
   unfold thereP at h
   rw [hx] at h
   exact eqP_false.1 h
  have hgt:ltP nm ps[placeP ps nm].name=true:=ltP_total (placeP_at hx) hne
  by_cases b:j=placeP ps nm
  ·subst b
   rw [hx] at hy
   cases hy
   exact hne
  ·have:=hg.order _ j _ y (by omega) hx hy
   exact (ltP_ne (ltP_trans hgt this)).symm
def setP (ps:List PairD) (nm val:ByteArray):List PairD × Int × Int :=
 match ps[placeP ps nm]? with
 | some x =>
  if eqP x.name nm=true then
   if x.version=1073741824 then (ps,8,0) else (ps.set (placeP ps nm) ⟨x.name,val,x.version+1⟩,0,x.version+1)
  else if ps.length=5 then (ps,8,0) else (ps.take (placeP ps nm)++⟨nm,val,1⟩ :: ps.drop (placeP ps nm),0,1)
 | none=>if ps.length=5 then (ps,8,0) else (ps.take (placeP ps nm)++⟨nm,val,1⟩ :: ps.drop (placeP ps nm),0,1)
theorem setP_there {ps:List PairD} {nm val:ByteArray} {x:PairD} (hx:ps[placeP ps nm]?=some x) (he:x.name=nm) (hv:¬ x.version=1073741824):setP ps nm val=(ps.set (placeP ps nm) ⟨x.name,val,x.version+1⟩,0,x.version+1):=by
 unfold setP
 rw [hx]
 simp only
 rw [if_pos (eqP_iff.2 he),if_neg hv]
theorem setP_full {ps:List PairD} {nm val:ByteArray} {x:PairD} (hx:ps[placeP ps nm]?=some x) (he:x.name=nm) (hv:x.version=1073741824):setP ps nm val=(ps,8,0):=by
 unfold setP
 rw [hx]
 simp only
 rw [if_pos (eqP_iff.2 he),if_pos hv]
theorem setP_new {ps:List PairD} {nm val:ByteArray} (h:thereP ps nm=false) (hl:¬ ps.length=5):setP ps nm val=(ps.take (placeP ps nm)++⟨nm,val,1⟩ :: ps.drop (placeP ps nm),0,1):=by
 unfold setP
 unfold thereP at h
 split
 ·rename_i x hx
  rw [hx] at h
  simp only at h
  rw [if_neg (by rw [h];simp),if_neg hl]
 ·rw [if_neg hl]
theorem setP_noroom {ps:List PairD} {nm val:ByteArray} (h:thereP ps nm=false) (hl:ps.length=5):setP ps nm val=(ps,8,0):=by
 unfold setP
 unfold thereP at h
 split
 ·rename_i x hx
  rw [hx] at h
  simp only at h
  rw [if_neg (by rw [h];simp),if_pos hl]
 ·rw [if_pos hl]
def getP (ps:List PairD) (nm:ByteArray):Int × Int × ByteArray :=
 match ps[placeP ps nm]? with
 | some x=>if eqP x.name nm=true then (0,x.version,x.value) else (6,0,⟨#[]⟩)
 | none=>(6,0,⟨#[]⟩)
theorem getP_there {ps:List PairD} {nm:ByteArray} {x:PairD} (hx:ps[placeP ps nm]?=some x) (he:x.name=nm):getP ps nm=(0,x.version,x.value):=by
 unfold getP
 rw [hx]
 simp only
 rw [if_pos (eqP_iff.2 he)]
theorem getP_none {ps:List PairD} {nm:ByteArray} (h:thereP ps nm=false):getP ps nm=(6,0,⟨#[]⟩):=by
 unfold getP
 unfold thereP at h
 split
 ·rename_i x hx
  rw [hx] at h
  simp only at h
  rw [if_neg (by rw [h];simp)]
 ·rfl
end Go.Proofs.YtbmfahgekcnkaajGreatDoor
namespace Go.Proofs.YtbmfahgekcnkaajGreatDoor
open Go.RowKit
theorem pdrop_cons {α:Type} {l:List α} {k:Nat} {x:α} (h:l[k]?=some x):l.drop k=x :: l.drop (k+1):=by
 obtain ⟨hk,he⟩:=List.getElem?_eq_some_iff.1 h
 rw [List.drop_eq_getElem_cons hk,he]
theorem pret_i64 {a b:Int} (h:a=b):Ending.returned (.int .i64 a)=.returned (.int .i64 b):=by rw [h]
set_option maxRecDepth 100000 in
set_option maxHeartbeats 1600000 in
theorem pairCheck_any (v:Value) (ps:List PairD) (w:World) (B:Nat) (hv:PairsR w B v ps) (hB:B≤w.heap.size) :
  Calls Tryz.prog 61 #[v] w fun e w'=>e=.returned (.int .i64 (checkP ps))∧Below w.heap.size w w':=by
 obtain ⟨ao,cap,rfl,h1,h2,h3,h4⟩:=hv
 by_cases c1:5 < ps.length
 ·have e1:checkP ps=1:=by simp [checkP,c1]
  rw [e1]
  clear e1
  go_enter Tryz.func61,Tryz.ntmps61
  go_wp2
  go_ret
  exact ⟨rfl,Below.refl _ _⟩
 ·have e1:checkP ps=checkPF ⟨#[]⟩ ps:=by simp [checkP,c1]
  rw [e1]
  clear e1
  go_enter Tryz.func61,Tryz.ntmps61
  go_wp2
  go_loopw [3,11] (fun p i wr=>∃ (k:Nat) (nm:ByteArray),k≤ps.length∧i=.int .i64 k∧p=.string nm∧checkPF nm (ps.drop k)=checkPF ⟨#[]⟩ ps∧Below w.heap.size w wr)
   (fun _ i _=>ps.length - (intOf i).toNat)
  case atStart=>exact ⟨0,⟨#[]⟩,Nat.zero_le _,rfl,rfl,by simp,Below.refl _ _⟩
  case round =>
   obtain ⟨k,nm,hk,rfl,rfl,heq,hb⟩:=hrel
   have HE:Hid (checkPF nm (ps.drop k)=checkPF ⟨#[]⟩ ps):=heq
   clear heq
   by_cases hlt:k < ps.length
   ·obtain ⟨b,off,rfl,hbB,hc⟩:=h4 (by omega)
    obtain ⟨x,hx⟩:∃ x,ps[k]?=some x:=⟨_,List.getElem?_eq_getElem hlt⟩
    have HX:Hid (ps.drop k=x :: ps.drop (k+1)):=pdrop_cons hx
    obtain ⟨c0,c1,c2,hs0,hs1,-⟩:=(hc k x hx).below (by omega) hb
    have hsz:=hb.size
    clear hx hc h4
    obtain ⟨xn,xv,xe⟩:=x
    simp only at c0 c1 c2 hs0 hs1
    have HF:Hid (checkPF nm (ps.drop k)=if nameB xn=false then 4 else if 12 < xv.size then 1 else if xe < 1∨1073741824 < xe then 2 else if leP xn nm=true then 14 else checkPF xn (ps.drop (k+1))):=by
     unfold Hid;rw [HX.out];rfl
    clear HX
    go_wp2_with fail
    refine (name_any xn _ (by omega)).mono ?_
    rintro e w1 ⟨rfl,rfl⟩
    have HB:=phid (hb.alloc hb.size (.cells #[.string xn,.string xv,.int .i64 xe] 129))
    clear hb
    cases hform:nameB xn with
    | false =>
     rw [hform] at HF
     go_wp2
     go_ret
     exact ⟨pret_i64 (by rw [←HE.out,HF.out];rfl),HB.out⟩
    | true =>
     rw [hform] at HF
     by_cases f0:12 < xv.size
     ·go_wp2
      go_ret
      exact ⟨pret_i64 (by rw [←HE.out,HF.out];simp [f0]),HB.out⟩
     ·by_cases f1:xe < 1
      ·go_wp2
       go_ret
       exact ⟨pret_i64 (by rw [←HE.out,HF.out];simp [f0,f1]),HB.out⟩
      ·by_cases f2:1073741824 < xe
       ·go_wp2
        go_ret
        exact ⟨pret_i64 (by rw [←HE.out,HF.out];simp [f0,f2]),HB.out⟩
       ·have HF2:Hid (checkPF nm (ps.drop k)=if leP xn nm=true then 14 else checkPF xn (ps.drop (k+1))):=by
         unfold Hid;rw [HF.out,if_neg (by simp),if_neg f0,if_neg (by omega)]
        clear HF
        cases hle:leP xn nm with
        | true =>
         rw [hle] at HF2
         have hle2:(Op.bytesLess xn.toList nm.toList || xn.toList == nm.toList)=true:=hle
         clear hle
         go_wp2
         go_ret
         exact ⟨pret_i64 (by rw [←HE.out,HF2.out];rfl),HB.out⟩
        | false =>
         rw [hle] at HF2
         have hle2:(Op.bytesLess xn.toList nm.toList || xn.toList == nm.toList)=false:=hle
         clear hle
         go_wp2
         go_roundw
         case rel=>exact ⟨k+1,xn,by omega,by go_num,rfl,by rw [←HE.out,HF2.out];rfl,HB.out⟩
         case measure=>simp [intOf];omega
   ·go_wp2
    go_ret
    exact ⟨pret_i64 (by rw [←HE.out,List.drop_of_length_le (by omega)];rfl),hb⟩
end Go.Proofs.YtbmfahgekcnkaajGreatDoor
namespace Go.Proofs.YtbmfahgekcnkaajGreatDoor
open Go.RowKit
theorem sret_bool {a b:Bool} (h:a=b):Ending.returned (.bool a)=.returned (.bool b):=by rw [h]
theorem swithin_yes (n a b:Int) (w:World) (h1:a≤n) (h2:n≤b) :
  Calls Tryz.prog 94 #[.int .i64 n,.int .i64 a,.int .i64 b] w fun e w'=>e=.returned (.bool true)∧w'=w:=by
 go_enter Tryz.func94,Tryz.ntmps94
 go_wp2
 go_ret
 exact ⟨rfl,rfl⟩
theorem swithin_no (n a b:Int) (w:World) (h:n < a∨b < n) :
  Calls Tryz.prog 94 #[.int .i64 n,.int .i64 a,.int .i64 b] w fun e w'=>e=.returned (.bool false)∧w'=w:=by
 by_cases h1:a≤n
 ·have h2:¬ n≤b:=by omega
  go_enter Tryz.func94,Tryz.ntmps94
  go_wp2
  go_ret
  exact ⟨rfl,rfl⟩
 ·go_enter Tryz.func94,Tryz.ntmps94
  go_wp2
  go_ret
  exact ⟨rfl,rfl⟩
theorem sclient_yes (n:Int) (w:World) (h1:1≤n) (h2:n≤9) :
  Calls Tryz.prog 126 #[.int .i64 n] w fun e w'=>e=.returned (.bool true)∧w'=w:=by
 go_enter Tryz.func126,Tryz.ntmps126
 go_wp2_with fail
 refine (swithin_yes n 1 9 _ h1 h2).mono ?_
 rintro e w' ⟨rfl,hw⟩
 subst hw
 go_wp2
 go_ret
 exact ⟨rfl,rfl⟩
theorem sclient_no (n:Int) (w:World) (h:n < 1∨9 < n) :
  Calls Tryz.prog 126 #[.int .i64 n] w fun e w'=>e=.returned (.bool false)∧w'=w:=by
 go_enter Tryz.func126,Tryz.ntmps126
 go_wp2_with fail
 refine (swithin_no n 1 9 _ h).mono ?_
 rintro e w' ⟨rfl,hw⟩
 subst hw
 go_wp2
 go_ret
 exact ⟨rfl,rfl⟩
set_option maxHeartbeats 800000 in
theorem inRange_yes (c d a t i:Int) (lv:Value) (w:World) (h:(1≤c∧c≤9)∧(0≤a∧a≤1048576)∧(1≤d∧d≤i)∧d≤t∧t≤i) :
  Calls Tryz.prog 95 #[.agg #[.int .i64 c,.int .i64 d,.int .i64 a,.int .i64 t,lv],.int .i64 i] w fun e w'=>e=.returned (.bool true)∧Below w.heap.size w w':=by
 obtain ⟨⟨h1,h2⟩,⟨h3,h4⟩,⟨h5,h6⟩,h7,h8⟩:=h
 go_enter Tryz.func95,Tryz.ntmps95
 go_wp2_with fail
 refine (sclient_yes c _ h1 h2).mono ?_
 rintro e w1 ⟨rfl,hw⟩
 subst hw
 go_wp2_with fail
 refine (swithin_yes a 0 1048576 _ h3 h4).mono ?_
 rintro e w1 ⟨rfl,hw⟩
 subst hw
 go_wp2_with fail
 refine (swithin_yes d 1 i _ h5 h6).mono ?_
 rintro e w1 ⟨rfl,hw⟩
 subst hw
 go_wp2_with fail
 refine (swithin_yes t d i _ h7 h8).mono ?_
 rintro e w1 ⟨rfl,hw⟩
 subst hw
 go_wp2
 go_ret
 exact ⟨rfl,(Below.refl _ _).alloc (Nat.le_refl _) _⟩
set_option maxHeartbeats 1600000 in
theorem inRange_no (c d a t i:Int) (lv:Value) (w:World) (h:¬ ((1≤c∧c≤9)∧(0≤a∧a≤1048576)∧(1≤d∧d≤i)∧d≤t∧t≤i)) :
  Calls Tryz.prog 95 #[.agg #[.int .i64 c,.int .i64 d,.int .i64 a,.int .i64 t,lv],.int .i64 i] w fun e w'=>e=.returned (.bool false)∧Below w.heap.size w w':=by
 by_cases k1:1≤c∧c≤9
 ·obtain ⟨h1,h2⟩:=k1
  by_cases k2:0≤a∧a≤1048576
  ·obtain ⟨h3,h4⟩:=k2
   by_cases k3:1≤d∧d≤i
   ·obtain ⟨h5,h6⟩:=k3
    have h7:t < d∨i < t:=by omega
    clear h
    go_enter Tryz.func95,Tryz.ntmps95
    go_wp2_with fail
    refine (sclient_yes c _ h1 h2).mono ?_
    rintro e w1 ⟨rfl,hw⟩
    subst hw
    go_wp2_with fail
    refine (swithin_yes a 0 1048576 _ h3 h4).mono ?_
    rintro e w1 ⟨rfl,hw⟩
    subst hw
    go_wp2_with fail
    refine (swithin_yes d 1 i _ h5 h6).mono ?_
    rintro e w1 ⟨rfl,hw⟩
    subst hw
    go_wp2_with fail
    refine (swithin_no t d i _ h7).mono ?_
    rintro e w1 ⟨rfl,hw⟩
    subst hw
    go_wp2
    go_ret
    exact ⟨rfl,(Below.refl _ _).alloc (Nat.le_refl _) _⟩
   ·have h5:d < 1∨i < d:=by omega
    clear h k3
    go_enter Tryz.func95,Tryz.ntmps95
    go_wp2_with fail
    refine (sclient_yes c _ h1 h2).mono ?_
    rintro e w1 ⟨rfl,hw⟩
    subst hw
    go_wp2_with fail
    refine (swithin_yes a 0 1048576 _ h3 h4).mono ?_
    rintro e w1 ⟨rfl,hw⟩
    subst hw
    go_wp2_with fail
    refine (swithin_no d 1 i _ h5).mono ?_
    rintro e w1 ⟨rfl,hw⟩
    subst hw
    go_wp2
    go_ret
    exact ⟨rfl,(Below.refl _ _).alloc (Nat.le_refl _) _⟩
  ·have h3:a < 0∨1048576 < a:=by omega
   clear h k2
   go_enter Tryz.func95,Tryz.ntmps95
   go_wp2_with fail
   refine (sclient_yes c _ h1 h2).mono ?_
   rintro e w1 ⟨rfl,hw⟩
   subst hw
   go_wp2_with fail
   refine (swithin_no a 0 1048576 _ h3).mono ?_
   rintro e w1 ⟨rfl,hw⟩
   subst hw
   go_wp2
   go_ret
   exact ⟨rfl,(Below.refl _ _).alloc (Nat.le_refl _) _⟩
 ·have h1:c < 1∨9 < c:=by omega
  clear h k1
  go_enter Tryz.func95,Tryz.ntmps95
  go_wp2_with fail
  refine (sclient_no c _ h1).mono ?_
  rintro e w1 ⟨rfl,hw⟩
  subst hw
  go_wp2
  go_ret
  exact ⟨rfl,(Below.refl _ _).alloc (Nat.le_refl _) _⟩
set_option maxHeartbeats 800000 in
theorem mayBe_yes (c n:Int) (s:ByteArray) (w:World) (h:replyB c n s.size=true) :
  Calls Tryz.prog 127 #[.agg #[.int .i64 c,.int .i64 n,.string s]] w fun e w'=>e=.returned (.bool true)∧Below w.heap.size w w':=by
 obtain ⟨h1,h2,h3,h4,h5⟩:=replyB_iff.1 h
 clear h
 go_enter Tryz.func127,Tryz.ntmps127
 go_wp2_with (go_at_call 94;refine (swithin_yes _ _ _ _ h3 h4).mono ?_;rintro e w' ⟨rfl,hw⟩;subst hw)
 go_ret
 exact ⟨sret_bool (a:=decide ((s.size:Int)≤12)) (by simp;omega),(Below.refl _ _).alloc (Nat.le_refl _) _⟩
set_option maxHeartbeats 1600000 in
theorem mayBe_no (c n:Int) (s:ByteArray) (w:World) (hs:s.size≤140737488351232) (h:replyB c n s.size=false) :
  Calls Tryz.prog 127 #[.agg #[.int .i64 c,.int .i64 n,.string s]] w fun e w'=>e=.returned (.bool false)∧Below w.heap.size w w':=by
 have h':¬ (0≤c∧c≤15∧0≤n∧n≤1073741824∧s.size≤12):=fun k=>by rw [replyB_iff.2 k] at h;cases h
 clear h
 by_cases h1:0≤c
 ·by_cases h2:c≤15
  ·by_cases k:0≤n∧n≤1073741824
   ·obtain ⟨h3,h4⟩:=k
    have h5:¬ s.size≤12:=by omega
    clear h'
    go_enter Tryz.func127,Tryz.ntmps127
    go_wp2_with (go_at_call 94;refine (swithin_yes _ _ _ _ h3 h4).mono ?_;rintro e w' ⟨rfl,hw⟩;subst hw)
    go_ret
    exact ⟨sret_bool (a:=decide ((s.size:Int)≤12)) (by simp;omega),(Below.refl _ _).alloc (Nat.le_refl _) _⟩
   ·have h3:n < 0∨1073741824 < n:=by omega
    clear h' k
    go_enter Tryz.func127,Tryz.ntmps127
    go_wp2_with (go_at_call 94;refine (swithin_no _ _ _ _ h3).mono ?_;rintro e w' ⟨rfl,hw⟩;subst hw)
    go_ret
    exact ⟨rfl,(Below.refl _ _).alloc (Nat.le_refl _) _⟩
  ·clear h'
   go_enter Tryz.func127,Tryz.ntmps127
   go_wp2
   go_ret
   exact ⟨rfl,(Below.refl _ _).alloc (Nat.le_refl _) _⟩
 ·clear h'
  go_enter Tryz.func127,Tryz.ntmps127
  go_wp2
  go_ret
  exact ⟨rfl,(Below.refl _ _).alloc (Nat.le_refl _) _⟩
end Go.Proofs.YtbmfahgekcnkaajGreatDoor
namespace Go.Proofs.YtbmfahgekcnkaajGreatDoor
open Go.RowKit
theorem kdrop {ks:List KeptD} {k:Nat} {y:KeptD} (h:ks[k]?=some y):ks.drop k=y :: ks.drop (k+1):=by
 obtain ⟨hi,he⟩:=List.getElem?_eq_some_iff.1 h
 rw [←he,←List.drop_eq_getElem_cons hi]
set_option maxRecDepth 100000 in
set_option maxHeartbeats 1600000 in
theorem sinForm_any (c d a t:Int) (lv:Value) (ks:List KeptD) (w:World) (B:Nat) (hv:KeptsR w B lv ks) (hB:B≤w.heap.size) (ha0:0≤a) (ha1:a≤1048576) :
  Calls Tryz.prog 96 #[.agg #[.int .i64 c,.int .i64 d,.int .i64 a,.int .i64 t,lv]] w fun e w'=>e=.returned (.bool (formFrom a a ks))∧Below w.heap.size w w':=by
 obtain ⟨ao,cap,rfl,h1,h2,h3,h4⟩:=hv
 obtain ⟨W1,hW1⟩:∃ W1,W1=w.alloc (.cells #[.int .i64 c,.int .i64 d,.int .i64 a,.int .i64 t,.slice ao ks.length cap] 132):=⟨_,rfl⟩
 have hb0:Below w.heap.size w W1:=by rw [hW1];exact (Below.refl _ _).alloc (Nat.le_refl _) _
 have hg0:W1.heap[w.heap.size]?=some (.cells #[.int .i64 c,.int .i64 d,.int .i64 a,.int .i64 t,.slice ao ks.length cap] 132 (0,0)):=by rw [hW1];exact heap_alloc_new w _
 have hz0:W1.heap.size=w.heap.size+1:=by rw [hW1];simp
 have HB0:=ghid hb0
 have HG0:=ghid hg0
 go_enter Tryz.func96,Tryz.ntmps96
 go_wp2
 rw [←hW1]
 clear hW1 hb0 hg0
 go_loopw [3,11] (fun s i wr=>∃ (k:Nat) (hd:Int),k≤ks.length∧s=.int .i64 hd∧i=.int .i64 k∧Hid (formFrom a hd (ks.drop k)=formFrom a a ks)∧a≤hd∧hd≤a+4∧Below (w.heap.size+1) W1 wr) (fun _ i _=>ks.length - (intOf i).toNat)
 case atStart=>exact ⟨0,a,Nat.zero_le _,rfl,rfl,by simp [Hid],Int.le_refl _,by omega,Below.refl _ _⟩
 case round =>
  obtain ⟨k,hd,hk,rfl,rfl,HF,hd1,hd2,hb⟩:=hrel
  have hsz:w.heap.size+1≤wr.heap.size:=by have:=hb.size;omega
  have hba:Below w.heap.size w wr:=HB0.out.trans (hb.mono (by omega))
  have HBA:=ghid hba
  by_cases hlt:k < ks.length
  ·obtain ⟨b,off,rfl,hbB,hc⟩:=h4 (by omega)
   obtain ⟨y,hy⟩:∃ y,ks[k]?=some y:=⟨_,List.getElem?_eq_getElem hlt⟩
   obtain ⟨c0,c1,c2,c3,hs,-⟩:=(hc k y hy).below (by omega) hba
   have xa:wr.cell? ⟨w.heap.size,2,none⟩=some (.int .i64 a):=cell_of_row wr w.heap.size 2 _ _ _ ((hb.block _ (by omega)).trans HG0.out)
   have HD:Hid (formFrom a hd (y :: ks.drop (k+1))=formFrom a a ks):=by unfold Hid;rw [←kdrop hy];exact HF.out
   have HB:=ghid hb
   clear hy hc h4 HF hb hba
   have hbr:b < wr.heap.size:=by omega
   have hwr:w.heap.size < wr.heap.size:=by omega
   obtain ⟨ys,yc,yn,yt⟩:=y
   simp only at c0 c1 c2 c3 hs
   by_cases q1:hd+1≤ys∧ys≤a+4
   ·obtain ⟨q2,q3⟩:=q1
    by_cases q4:replyB yc yn yt.size=true
    ·have HN:Hid (formFrom a ys (ks.drop (k+1))=formFrom a a ks):=by
      have:=HD.out
      unfold Hid
      rw [formFrom_cons] at this
      simp only [keptB,q4,decide_eq_true q2,decide_eq_true q3,Bool.true_and] at this
      exact this
     have Q4:=ghid q4
     clear q4 HD
     go_wp2_with fail
     refine (swithin_yes ys (hd+1) (a+4) _ q2 q3).mono ?_
     rintro e w1 ⟨rfl,hw⟩
     subst hw
     go_wp2_with fail
     refine (mayBe_yes yc yn yt _ Q4.out).mono ?_
     rintro e w1 ⟨rfl,hb1⟩
     obtain ⟨hc1,hf1⟩:=gcell hb1
     have hz1:wr.heap.size < w1.heap.size:=by have:=hb1.size;simp at this;omega
     go_wp2
     go_roundw
     case rel=>exact ⟨k+1,ys,by omega,rfl,by go_num,HN,by omega,by omega,(HB.out.trans (((Below.refl _ _).alloc (by omega) _).trans (hb1.mono (by simp;omega))))⟩
     case measure=>simp [intOf];omega
    ·have q5:replyB yc yn yt.size=false:=by simpa using q4
     have HN:Hid (formFrom a a ks=false):=by
      have:=HD.out
      unfold Hid
      rw [formFrom_cons] at this
      simp only [keptB,q5,decide_eq_true q2,decide_eq_true q3,Bool.true_and,Bool.false_and] at this
      exact this.symm
     have Q5:=ghid q5
     clear q4 q5 HD
     go_wp2_with fail
     refine (swithin_yes ys (hd+1) (a+4) _ q2 q3).mono ?_
     rintro e w1 ⟨rfl,hw⟩
     subst hw
     go_wp2_with fail
     refine (mayBe_no yc yn yt _ hs Q5.out).mono ?_
     rintro e w1 ⟨rfl,hb1⟩
     go_wp2
     go_ret
     exact ⟨by rw [HN.out];rfl,HBA.out.trans (((Below.refl _ _).alloc (by omega) _).trans (hb1.mono (by simp;omega)))⟩
   ·have HN:Hid (formFrom a a ks=false):=by
     have:=HD.out
     unfold Hid
     rw [formFrom_cons] at this
     by_cases q2:hd+1≤ys
     ·have q3:¬ ys≤a+4:=fun e=>q1 ⟨q2,e⟩
      simp only [decide_eq_true q2,decide_eq_false q3,Bool.true_and,Bool.false_and] at this
      exact this.symm
     ·simp only [decide_eq_false q2,Bool.false_and] at this
      exact this.symm
    have q2:ys < hd+1∨a+4 < ys:=by omega
    clear HD q1
    go_wp2_with fail
    refine (swithin_no ys (hd+1) (a+4) _ q2).mono ?_
    rintro e w1 ⟨rfl,hw⟩
    subst hw
    go_wp2
    go_ret
    exact ⟨by rw [HN.out];rfl,HBA.out.trans ((Below.refl _ _).alloc (by omega) _)⟩
  ·have HN:Hid (formFrom a a ks=true):=by
    have:=HF.out
    unfold Hid
    rw [List.drop_of_length_le (by omega),formFrom_nil] at this
    exact this.symm
   clear HF
   go_wp2
   go_ret
   exact ⟨by rw [HN.out];rfl,hba⟩
theorem sdrop {ks:List SessD} {k:Nat} {y:SessD} (h:ks[k]?=some y):ks.drop k=y :: ks.drop (k+1):=by
 obtain ⟨hi,he⟩:=List.getElem?_eq_some_iff.1 h
 rw [←he,←List.drop_eq_getElem_cons hi]
set_option maxRecDepth 100000 in
set_option maxHeartbeats 3200000 in
theorem sessCheck_any (v:Value) (ls:List SessD) (i:Int) (w:World) (B:Nat) (hv:SessR w B v ls) (hB:B≤w.heap.size) :
  Calls Tryz.prog 59 #[v,.int .i64 i] w fun e w'=>e=.returned (.int .i64 (checkS ls i))∧Below w.heap.size w w':=by
 obtain ⟨ao,cap,rfl,h1,h2,h3,h4⟩:=hv
 by_cases k1:0≤i∧i≤1073741824
 ·obtain ⟨g1,g2⟩:=k1
  by_cases k2:4 < ls.length
  ·have e:checkS ls i=1:=by unfold checkS;rw [if_neg (by omega),if_pos k2]
   rw [e]
   clear e h4
   go_enter Tryz.func59,Tryz.ntmps59
   go_wp2_with fail
   refine (swithin_yes i 0 1073741824 _ g1 g2).mono ?_
   rintro e w1 ⟨rfl,hw⟩
   subst hw
   go_wp2
   go_ret
   exact ⟨rfl,Below.refl _ _⟩
  ·have e:checkS ls i=checkFromS i 0 ls:=by unfold checkS;rw [if_neg (by omega),if_neg k2]
   rw [e]
   clear e
   go_enter Tryz.func59,Tryz.ntmps59
   go_wp2_with fail
   refine (swithin_yes i 0 1073741824 _ g1 g2).mono ?_
   rintro e w1 ⟨rfl,hw⟩
   subst hw
   go_wp2
   go_loopw [5,16] (fun s j wr=>∃ (k:Nat) (hd:Int),k≤ls.length∧s=.int .i64 hd∧j=.int .i64 k∧Hid (checkFromS i hd (ls.drop k)=checkFromS i 0 ls)∧Below w1.heap.size w1 wr) (fun _ j _=>ls.length - (intOf j).toNat)
   case atStart=>exact ⟨0,0,Nat.zero_le _,rfl,rfl,by simp [Hid],Below.refl _ _⟩
   case round =>
    obtain ⟨k,hd,hk,rfl,rfl,HF,hb⟩:=hrel
    have hsz:=hb.size
    by_cases hlt:k < ls.length
    ·obtain ⟨b,off,rfl,hbB,hc⟩:=h4 (by omega)
     obtain ⟨y,hy⟩:∃ y,ls[k]?=some y:=⟨_,List.getElem?_eq_getElem hlt⟩
     obtain ⟨lv,c0,c1,c2,c3,c4,hl,-⟩:=(hc k y hy).below (by omega) hb hB
     have HD:Hid (checkFromS i hd (y :: ls.drop (k+1))=checkFromS i 0 ls):=by unfold Hid;rw [←sdrop hy];exact HF.out
     have HB:=ghid hb
     have HL:=ghid hl
     clear hy hc h4 HF hb
     have hbr:b < wr.heap.size:=by omega
     obtain ⟨yc,yi,ya,yl,yk⟩:=y
     obtain ⟨lo,lc,rfl,-⟩:=hl
     simp only at c0 c1 c2 c3 c4 HL
     have hba:Below wr.heap.size wr (wr.alloc (.cells #[.int .i64 yc,.int .i64 yi,.int .i64 ya,.int .i64 yl,.slice lo yk.length lc] 132)):=(Below.refl _ _).alloc (Nat.le_refl _) _
     have HBA:=ghid hba
     clear hba
     by_cases q1:(1≤yc∧yc≤9)∧(0≤ya∧ya≤1048576)∧(1≤yi∧yi≤i)∧yi≤yl∧yl≤i
     ·have r1:rangeB ⟨yc,yi,ya,yl,yk⟩ i=true:=by rw [rangeB_iff];simp only;omega
      have C:=sinForm_any yc yi ya yl (.slice lo yk.length lc) yk
      cases hf:formFrom ya ya yk with
      | true =>
       have f1:sformB ⟨yc,yi,ya,yl,yk⟩=true:=hf
       rw [hf] at C
       have HC:=ghid C
       clear C hf
       by_cases q3:yc≤hd
       ·have HN:Hid (checkFromS i 0 ls=14):=HD.out.symm.trans (checkFromS_order r1 f1 q3)
        clear HD r1 f1
        go_wp2_with fail
        refine (inRange_yes yc yi ya yl i _ _ q1).mono ?_
        rintro e w2 ⟨rfl,hb2⟩
        obtain ⟨hc2,hf2⟩:=gcell hb2
        have hz2:wr.heap.size < w2.heap.size:=by have:=hb2.size;simp at this;omega
        go_wp2_with fail
        refine (HC.out _ B ((HL.out.below HBA.out (by omega)).below hb2 (by simp;omega)) (by omega) q1.2.1.1 q1.2.1.2).mono ?_
        rintro e w3 ⟨rfl,hb3⟩
        obtain ⟨hc3,hf3⟩:=gcell hb3
        have hz3:w2.heap.size≤w3.heap.size:=hb3.size
        have hz4:wr.heap.size < w3.heap.size:=by omega
        have HB3:=ghid (HB.out.trans ((HBA.out.mono hsz).trans ((hb2.mono (by simp;omega)).trans (hb3.mono (by omega)))))
        go_wp2
        go_ret
        exact ⟨by rw [HN.out];rfl,HB3.out⟩
       ·have HN:Hid (checkFromS i yc (ls.drop (k+1))=checkFromS i 0 ls):=(checkFromS_next r1 f1 q3).symm.trans HD.out
        clear HD r1 f1
        go_wp2_with fail
        refine (inRange_yes yc yi ya yl i _ _ q1).mono ?_
        rintro e w2 ⟨rfl,hb2⟩
        obtain ⟨hc2,hf2⟩:=gcell hb2
        have hz2:wr.heap.size < w2.heap.size:=by have:=hb2.size;simp at this;omega
        go_wp2_with fail
        refine (HC.out _ B ((HL.out.below HBA.out (by omega)).below hb2 (by simp;omega)) (by omega) q1.2.1.1 q1.2.1.2).mono ?_
        rintro e w3 ⟨rfl,hb3⟩
        obtain ⟨hc3,hf3⟩:=gcell hb3
        have hz3:w2.heap.size≤w3.heap.size:=hb3.size
        have hz4:wr.heap.size < w3.heap.size:=by omega
        have HB3:=ghid (HB.out.trans ((HBA.out.mono hsz).trans ((hb2.mono (by simp;omega)).trans (hb3.mono (by omega)))))
        go_wp2
        go_roundw
        case rel=>exact ⟨k+1,yc,by omega,rfl,by go_num,HN,HB3.out⟩
        case measure=>simp [intOf];omega
      | false =>
       have f1:sformB ⟨yc,yi,ya,yl,yk⟩=false:=hf
       rw [hf] at C
       have HC:=ghid C
       have HN:Hid (checkFromS i 0 ls=4):=HD.out.symm.trans (checkFromS_form r1 f1)
       clear C hf HD r1 f1
       go_wp2_with fail
       refine (inRange_yes yc yi ya yl i _ _ q1).mono ?_
       rintro e w2 ⟨rfl,hb2⟩
       obtain ⟨hc2,hf2⟩:=gcell hb2
       have hz2:wr.heap.size < w2.heap.size:=by have:=hb2.size;simp at this;omega
       go_wp2_with fail
       refine (HC.out _ B ((HL.out.below HBA.out (by omega)).below hb2 (by simp;omega)) (by omega) q1.2.1.1 q1.2.1.2).mono ?_
       rintro e w3 ⟨rfl,hb3⟩
       obtain ⟨hc3,hf3⟩:=gcell hb3
       have hz3:w2.heap.size≤w3.heap.size:=hb3.size
       have hz4:wr.heap.size < w3.heap.size:=by omega
       have HB3:=ghid (HB.out.trans ((HBA.out.mono hsz).trans ((hb2.mono (by simp;omega)).trans (hb3.mono (by omega)))))
       go_wp2
       go_ret
       exact ⟨by rw [HN.out];rfl,HB3.out⟩
     ·have r1:rangeB ⟨yc,yi,ya,yl,yk⟩ i=false:=by
       cases h:rangeB ⟨yc,yi,ya,yl,yk⟩ i
       ·rfl
       ·exact absurd (rangeB_iff.1 h) (by simp only;omega)
      have HN:Hid (checkFromS i 0 ls=2):=HD.out.symm.trans (checkFromS_range r1)
      clear HD r1
      go_wp2_with fail
      refine (inRange_no yc yi ya yl i _ _ q1).mono ?_
      rintro e w2 ⟨rfl,hb2⟩
      have HB3:=ghid (HB.out.trans ((HBA.out.mono hsz).trans (hb2.mono (by simp;omega))))
      go_wp2
      go_ret
      exact ⟨by rw [HN.out];rfl,HB3.out⟩
    ·have HN:Hid (checkFromS i 0 ls=0):=by
      have:=HF.out
      unfold Hid
      rw [List.drop_of_length_le (by omega),checkFromS_nil] at this
      exact this.symm
     clear HF
     go_wp2
     go_ret
     exact ⟨by rw [HN.out];rfl,hb⟩
 ·have e:checkS ls i=2:=by unfold checkS;rw [if_pos (by omega)]
  rw [e]
  have g1:i < 0∨1073741824 < i:=by omega
  clear e h4 k1
  go_enter Tryz.func59,Tryz.ntmps59
  go_wp2_with fail
  refine (swithin_no i 0 1073741824 _ g1).mono ?_
  rintro e w1 ⟨rfl,hw⟩
  subst hw
  go_wp2
  go_ret
  exact ⟨rfl,Below.refl _ _⟩
end Go.Proofs.YtbmfahgekcnkaajGreatDoor
