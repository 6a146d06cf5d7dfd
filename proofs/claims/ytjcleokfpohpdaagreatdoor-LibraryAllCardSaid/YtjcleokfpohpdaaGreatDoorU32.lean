/-
  Whether a text is a word, and one of those that begin items, by package chars. Each call makes new memory alone.
  One function more, by package sign: Add.
  Functions as keys of a set: what such a key reads as, and which functions a set has.
  Sets of functions, by package sign: put, setOf, has; and the function that a term begins with: symbol.
  Functions that are few, with short names.
  What Join of package sign must answer, as a definition.
  Two rows of functions joined, by package sign: Join.
  A theory as a value: a row of functions, a row of rules. No function of the program.
-/
import Derived.Test.YtjcleokfpohpdaaGreatDoorU03
import Derived.Test.YtjcleokfpohpdaaGreatDoorU31
import Derived.Test.YtjcleokfpohpdaaGreatDoorShelf
import Derived.Deep.QuietTactic
import Derived.BigQuiet
import Derived.Test.YtjcleokfpohpdaaGreatDoorU08
import Derived.Test.YtjcleokfpohpdaaGreatDoorU07
import Derived.Test.YtjcleokfpohpdaaGreatDoorProg
import Derived.Maps.OwnSet
import Derived.Maps.Views
import Derived.Lib.Hide
import Derived.ProofKit
import Derived.DeepKeys4
import Derived.Test.YtjcleokfpohpdaaGreatDoorU17
import Derived.Test.YtjcleokfpohpdaaGreatDoorU01
import Derived.WalkKit
import Derived.WalkMore
import Derived.Test.YtjcleokfpohpdaaGreatDoorU02
import Derived.Deep.RegionHeld3
namespace Go.Proofs.YtjcleokfpohpdaaGreatDoor
open Go.RowKit
set_option maxHeartbeats 400000 in
theorem keys_any (w:World) :
    Calls Tryz.prog 205 #[] w fun e w'=>∃ v,e=.returned v∧Strs w' v keyList∧Below w.heap.size w w':=by
  go_enter Tryz.func205,Tryz.ntmps205
  go_wp2
  go_ret
  exact ⟨_,rfl,strs_alloc w keyList 9 (by decide),(Below.refl _ _).alloc (Nat.le_refl _) _⟩
theorem contains_any (v:Value) (zs:List ByteArray) (x:ByteArray) (w:World) (hv:Strs w v zs) :
    Calls Tryz.prog 148 #[v,.string x] w fun e w'=>e=.returned (.bool (Lib.containsS zs x))∧w=w':=by
  obtain ⟨a,c,rfl,hl,h⟩:=hv
  rcases h with rfl | ⟨b,off,rfl,hlt,hc⟩
  · refine (Tryz.slices_Contains_string_empty a c x w).mono ?_
    rintro e w' ⟨rfl,rfl⟩
    exact ⟨rfl,rfl⟩
  · refine (Tryz.slices_Contains_string b off zs.length c zs x w (Nat.le_refl _) (by omega) hc).mono ?_
    rintro e w' ⟨rfl,rfl⟩
    rw [List.take_length]
    exact ⟨rfl,rfl⟩
set_option maxHeartbeats 400000 in
theorem key_any (s:ByteArray) (w:World) :
    Calls Tryz.prog 180 #[.string s] w fun e w'=>e=.returned (.bool (Lib.containsS keyList s))∧Below w.heap.size w w':=by
  go_enter Tryz.func180,Tryz.ntmps180
  go_wp2_with (first | (go_at_call 205;refine (keys_any _).mono ?_;rintro e w1 ⟨v,rfl,hv,hb⟩;replace hv:=Lib.hid hv) | (go_at_call 148;refine (contains_any _ _ _ _ (Hid.out (by assumption))).mono ?_;rintro e w2 ⟨rfl,rfl⟩))
  go_ret
  exact ⟨rfl,hb⟩
set_option maxHeartbeats 400000 in
theorem fits_any (s:ByteArray) (f:Int) (k:Nat) (hk:k < s.size) (hs:s.size≤9223372036854775806) (w:World) :
    Calls Tryz.prog 211 #[.agg #[.string s,.int .i64 f],.int .i64 k] w fun e w'=>e=.returned (.bool (fitAt s f k))∧Below w.heap.size w w':=by
  by_cases h0:k=0
  · subst h0
    have hq:(((0:Nat):Int)==0)=true:=rfl
    have HF:=Lib.hid (fitAt_zero (f:=f) hk)
    have hi:(0:Int) < (s.size:Int):=by omega
    go_enter Tryz.func211,Tryz.ntmps211
    go_wp2_with fail
    go_quiet ((go_at_call 155;exact Calls.quiet_of_same ((class_any _ _).mono fun e w' h=>⟨h.1,h.2.symm⟩)))
    go_wp2
    go_ret
    exact ⟨ret_bool HF.out.symm,below_drewN ((Below.refl _ _).alloc (Nat.le_refl _) _) _⟩
  · have hq:((k:Int)==0)=false:=by rw [beq_eq_false_iff_ne];omega
    have HF:=Lib.hid (fitAt_next (f:=f) hk h0)
    clear h0
    go_enter Tryz.func211,Tryz.ntmps211
    go_wp2_with (go_at_call 208;refine (part_any _ _).mono ?_;rintro e w' ⟨rfl,rfl⟩)
    go_ret
    exact ⟨ret_bool HF.out.symm,(Below.refl _ _).alloc (Nat.le_refl _) _⟩
set_option maxHeartbeats 400000 in
theorem every_any (s:ByteArray) (f:Int) (hs:s.size≤9223372036854775806) (w:World) :
    Calls Tryz.prog 210 #[.int .i64 s.size,.func (Fn.func 211) #[.agg #[.string s,.int .i64 f]] #[]] w fun e w'=>e=.returned (.bool (fitsAll s f))∧Below w.heap.size w w':=by
  go_enter Tryz.func210,Tryz.ntmps210
  go_wp2
  go_loopw [7] (fun i wr=>∃ k:Nat,k≤s.size∧i=.int .i64 k∧FitsTo s f k∧Below w.heap.size w wr) (fun i _=>s.size - (intOf i).toNat)
  case atStart=>exact ⟨0,Nat.zero_le _,rfl,(fun j hj=>by omega),Below.refl _ _⟩
  case round =>
    obtain ⟨k,hk,rfl,ha,hb⟩:=hrel
    have HA:=Lib.hid ha
    clear ha
    by_cases hlt:k < s.size
    · cases hp:fitAt s f k with
      | true =>
        have HP:=Lib.hid hp
        clear hp
        go_wp2_with (go_at_call 211;refine (fits_any s f k hlt hs _).mono ?_;rintro e w' ⟨rfl,hb2⟩;rw [HP.out])
        go_roundw
        case rel=>exact ⟨k + 1,by omega,by go_num,HA.out.succ HP.out,hb.trans (hb2.mono hb.size)⟩
        case measure=>simp [intOf];omega
      | false =>
        have HP:=Lib.hid hp
        clear hp
        go_wp2_with (go_at_call 211;refine (fits_any s f k hlt hs _).mono ?_;rintro e w' ⟨rfl,hb2⟩;rw [HP.out])
        go_ret
        exact ⟨ret_bool (fitsAll_bad hlt HP.out).symm,hb.trans (hb2.mono hb.size)⟩
    · obtain rfl:k=s.size:=by omega
      go_wp2
      go_ret
      exact ⟨ret_bool HA.out.all.symm,hb⟩
set_option maxHeartbeats 400000 in
theorem spelt_any (s:ByteArray) (f:Int) (hs:s.size≤9223372036854775806) (w:World) :
    Calls Tryz.prog 196 #[.string s,.int .i64 f] w fun e w'=>e=.returned (.bool (speltB s f))∧Below w.heap.size w w':=by
  by_cases h0:1≤s.size
  · have h3:=toList_some h0
    have h4:(s.toList==[])=false:=by rw [beq_eq_false_iff_ne];intro e;rw [e] at h3;cases h3
    by_cases h1:s.size≤20
    · have HF:=Lib.hid (show speltB s f=fitsAll s f from by unfold speltB;rw [decide_eq_true ⟨h0,h1⟩];rfl)
      have C:=Lib.hid (fun w=>every_any s f hs w)
      go_enter Tryz.func196,Tryz.ntmps196
      go_wp2_with (go_at_call 210;refine (C.out _).mono ?_;rintro e w' ⟨rfl,hb⟩)
      go_ret
      exact ⟨ret_bool HF.out.symm,hb⟩
    · have HF:=Lib.hid (show speltB s f=false from by unfold speltB;rw [decide_eq_false (by omega)];rfl)
      go_enter Tryz.func196,Tryz.ntmps196
      go_wp2_with fail
      go_ret
      exact ⟨ret_bool HF.out.symm,Below.refl _ _⟩
  · have HF:=Lib.hid (show speltB s f=false from by unfold speltB;rw [decide_eq_false (by omega)];rfl)
    have h3:=toList_empty (s:=s) (by omega)
    have h4:(s.toList==[])=true:=by rw [h3];rfl
    have h5:s.toList.isEmpty=true:=by rw [h3];rfl
    have H3:=Lib.hid h3
    clear h3 h0
    go_enter Tryz.func196,Tryz.ntmps196
    go_wp2_with fail
    go_ret
    exact ⟨ret_bool HF.out.symm,Below.refl _ _⟩
set_option maxHeartbeats 400000 in
theorem word_any (s:ByteArray) (hs:s.size≤9223372036854775806) (w:World) :
    Calls Tryz.prog 171 #[.string s] w fun e w'=>e=.returned (.bool (wordB s))∧Below w.heap.size w w':=by
  have HW:=Lib.hid (show wordB s=(speltB s 1 && !Lib.containsS keyList s) from rfl)
  have C:=Lib.hid (fun w=>spelt_any s 1 hs w)
  have K:=Lib.hid (fun w=>key_any s w)
  cases hp:speltB s 1 with
  | true =>
    have HP:=Lib.hid hp
    clear hp
    go_enter Tryz.func171,Tryz.ntmps171
    go_wp2_with (first | (go_at_call 196;refine (C.out _).mono ?_;rintro e w1 ⟨rfl,hb⟩;rw [HP.out]) | (go_at_call 180;refine (K.out _).mono ?_;rintro e w2 ⟨rfl,hb2⟩))
    go_ret
    exact ⟨ret_bool (by rw [HW.out,HP.out];rfl),hb.trans (hb2.mono hb.size)⟩
  | false =>
    have HP:=Lib.hid hp
    clear hp
    go_enter Tryz.func171,Tryz.ntmps171
    go_wp2_with (go_at_call 196;refine (C.out _).mono ?_;rintro e w1 ⟨rfl,hb⟩;rw [HP.out])
    go_ret
    exact ⟨ret_bool (by rw [HW.out,HP.out];rfl),hb⟩
end Go.Proofs.YtjcleokfpohpdaaGreatDoor
namespace Go.Proofs.YtjcleokfpohpdaaGreatDoor
open Go.RowKit
theorem fus_one (w:World) (f:Fn) (hf:FnOk f):Fus (w.alloc (.cells #[.string f.1,.int .i64 f.2] 140)) (.slice (some ⟨w.heap.size,0,none⟩) 1 1) [f]:=by
  refine ⟨_,1,rfl,by simp,.inr ⟨w.heap.size,0,rfl,by simp,fun j x hj=>?_⟩⟩
  have h0:j=0:=by have hl:=(List.getElem?_eq_some_iff.1 hj).1;simp at hl;omega
  subst h0
  obtain rfl:f=x:=Option.some.inj hj
  exact ⟨hf,World.cell?_alloc_mark w #[.string f.1,.int .i64 f.2] 140 (0,0) 0,World.cell?_alloc_mark w #[.string f.1,.int .i64 f.2] 140 (0,0) 1⟩
theorem rowsF_two (w:World) (v:Value) (fs:List Fn) (f:Fn) (hv:Fus w v fs) (hf:FnOk f) :
    RowsF ((w.alloc (.cells #[.string f.1,.int .i64 f.2] 140)).alloc (.cells #[v,.slice (some ⟨w.heap.size,0,none⟩) 1 1] 23)) (w.heap.size + 1) [(v,fs),(.slice (some ⟨w.heap.size,0,none⟩) 1 1,[f])]:=by
  have hb1:Below w.heap.size w (w.alloc (.cells #[.string f.1,.int .i64 f.2] 140)):=(Below.refl _ _).alloc (Nat.le_refl _) _
  have hz:(w.alloc (.cells #[.string f.1,.int .i64 f.2] 140)).heap.size=w.heap.size + 1:=by simp
  have hb2:Below (w.alloc (.cells #[.string f.1,.int .i64 f.2] 140)).heap.size (w.alloc (.cells #[.string f.1,.int .i64 f.2] 140)) ((w.alloc (.cells #[.string f.1,.int .i64 f.2] 140)).alloc (.cells #[v,.slice (some ⟨w.heap.size,0,none⟩) 1 1] 23)):=(Below.refl _ _).alloc (Nat.le_refl _) _
  have hc:=fun o=>World.cell?_alloc_mark (w.alloc (.cells #[.string f.1,.int .i64 f.2] 140)) #[v,.slice (some ⟨w.heap.size,0,none⟩) 1 1] 23 (0,0) o
  rw [hz] at hc
  refine ⟨by simp,fun k hk=>?_⟩
  match k,hk with
  | 0,_=>exact ⟨hc 0,(hv.below hb1).below hb2⟩
  | 1,_=>exact ⟨hc 1,(fus_one w f hf).below hb2⟩
  | k + 2,h=>exact absurd (show k + 2 < 2 from h) (by omega)
set_option maxRecDepth 100000 in
set_option maxHeartbeats 2000000 in
theorem padd_any (v:Value) (fs:List Fn) (f:Fn) (w:World) (hv:Fus w v fs) (hf:FnOk f) (hs:f.1.size≤100000) (hl:fs.length≤1000) :
    Calls Tryz.prog 131 #[v,fnVal f] w (AddPost fs f w):=by
  have AR:=Lib.hid (fun (W:World) (h:Below w.heap.size w W)=>pfind_fn v fs f.1 W (hv.below h))
  have WD:=Lib.hid (fun (W:World)=>word_any f.1 (by omega) W)
  have RW:=Lib.hid (fun (W:World) (h:Below w.heap.size w W)=>rowsF_two W v fs f (hv.below h) hf)
  obtain ⟨a,n,c,rfl⟩:∃ a n c,v=.slice a n c:=by obtain ⟨a,c,h,_⟩:=hv;exact ⟨a,_,c,h⟩
  obtain rfl:=hv.news.1
  have CC:=Lib.hid (fun (W:World) (h:Below w.heap.size w W)=>pconcat_fn [(.slice a fs.length c,fs),(.slice (some ⟨W.heap.size,0,none⟩) 1 1,[f])] (W.heap.size + 1) 2 _ (RW.out W h) (by simp) (by simp) (by simp [flatF];omega))
  clear hv
  obtain ⟨ys,yn⟩:=f
  have HP:=Lib.hid (fun wr (h:Below (w.heap.size + 1) (w.alloc (.cells #[.string ys,.int .i64 yn] 140)) wr)=>pair_after h)
  unfold fnVal
  simp only at AR WD CC
  have hw0:Below w.heap.size w (w.alloc (.cells #[.string ys,.int .i64 yn] 140)):=(Below.refl _ _).alloc (Nat.le_refl _) _
  have HW0:=Lib.hid hw0
  clear hw0
  cases hwd:wordB ys with
  | false =>
    rw [hwd] at WD
    have HE:=Lib.hid (addE_arg (fs:=fs) (f:=(ys,yn)) (by unfold argOk;show (wordB ys&&_)=false;rw [hwd];rfl))
    clear hwd
    go_enter Tryz.func131,Tryz.ntmps131
    go_wp2_with fail
    refine (WD.out _).mono ?_;rintro e w1 ⟨rfl,hb1⟩
    have HB1:=Lib.hid (HW0.out.trans (hb1.mono (by simp)))
    obtain ⟨q0,q1,_,_⟩:=HP.out w1 (hb1.mono (by simp))
    clear hb1
    go_wp2_with fail
    go_ret2
    exact add_bad HE.out (by decide) HB1.out
  | true =>
    rw [hwd] at WD
    rcases Int.lt_or_le yn 0 with h0 | h0
    · have hd0:decide (yn < 0)=true:=decide_eq_true h0
      have HE:=Lib.hid (addE_arg (fs:=fs) (f:=(ys,yn)) (by unfold argOk;show (wordB ys&&(decide (0≤yn)&&decide (yn≤6)))=false;rw [decide_eq_false (by omega)];simp))
      clear hwd
      go_enter Tryz.func131,Tryz.ntmps131
      go_wp2_with fail
      refine (WD.out _).mono ?_;rintro e w1 ⟨rfl,hb1⟩
      have HB1:=Lib.hid (HW0.out.trans (hb1.mono (by simp)))
      have HBP:=Lib.hid (hb1.mono (show w.heap.size + 1≤(w.alloc (.cells #[.string ys,.int .i64 yn] 140)).heap.size by simp))
      have hs1:w.heap.size + 1≤w1.heap.size:=by have:=hb1.size;simpa using this
      obtain ⟨q0,q1,_,_⟩:=HP.out w1 HBP.out
      clear hb1
      go_wp2_with fail
      go_ret2
      exact add_bad HE.out (by decide) HB1.out
    have hd0:decide (yn < 0)=false:=decide_eq_false (by omega)
    rcases Int.lt_or_le 6 yn with h6 | h6
    · have hd6:decide (6 < yn)=true:=decide_eq_true h6
      have HE:=Lib.hid (addE_arg (fs:=fs) (f:=(ys,yn)) (by unfold argOk;show (wordB ys&&(decide (0≤yn)&&decide (yn≤6)))=false;rw [decide_eq_false (show ¬ yn≤6 by omega)];simp))
      clear hwd
      go_enter Tryz.func131,Tryz.ntmps131
      go_wp2_with fail
      refine (WD.out _).mono ?_;rintro e w1 ⟨rfl,hb1⟩
      have HB1:=Lib.hid (HW0.out.trans (hb1.mono (by simp)))
      have HBP:=Lib.hid (hb1.mono (show w.heap.size + 1≤(w.alloc (.cells #[.string ys,.int .i64 yn] 140)).heap.size by simp))
      have hs1:w.heap.size + 1≤w1.heap.size:=by have:=hb1.size;simpa using this
      obtain ⟨q0,q1,_,_⟩:=HP.out w1 HBP.out
      clear hb1
      go_wp2_with fail
      go_ret2
      exact add_bad HE.out (by decide) HB1.out
    have hd6:decide (6 < yn)=false:=decide_eq_false (by omega)
    have HA:=Lib.hid (show argOk (ys,yn)=true by unfold argOk;show (wordB ys&&(decide (0≤yn)&&decide (yn≤6)))=true;rw [hwd,decide_eq_true h0,decide_eq_true h6];rfl)
    clear hwd
    go_enter Tryz.func131,Tryz.ntmps131
    go_wp2_with fail
    refine (WD.out _).mono ?_;rintro e w1 ⟨rfl,hb1⟩
    have HB1:=Lib.hid (HW0.out.trans (hb1.mono (by simp)))
    have HBP:=Lib.hid (hb1.mono (show w.heap.size + 1≤(w.alloc (.cells #[.string ys,.int .i64 yn] 140)).heap.size by simp))
    have hs1:w.heap.size + 1≤w1.heap.size:=by have:=hb1.size;simpa using this
    obtain ⟨q0,q1,_,_⟩:=HP.out w1 HBP.out
    clear hb1
    go_wp2_with fail
    refine (AR.out _ HB1.out).mono ?_;rintro e w2 ⟨he,hb2⟩
    have HB2:=Lib.hid (below_next HB1.out hb2)
    have HBP2:=Lib.hid (HBP.out.trans (hb2.mono hs1))
    obtain ⟨q0,q1,_,_⟩:=HP.out w2 HBP2.out
    clear hb2
    rcases he with ⟨rfl,har⟩ | ⟨k,x,rfl,_,har⟩
    · have HAR:=Lib.hid (show (arF fs ys).isSome=false by rw [har];rfl)
      clear har
      by_cases h40:40≤fs.length
      · have hd40:decide (40≤(fs.length:Int))=true:=decide_eq_true (by omega)
        have HE:=Lib.hid (addE_long (fs:=fs) (f:=(ys,yn)) HA.out HAR.out h40)
        go_wp2_with fail
        go_ret2
        exact add_bad HE.out (by decide) HB2.out
      · have hd40:decide (40≤(fs.length:Int))=false:=decide_eq_false (by omega)
        have HE:=Lib.hid (addE_ok (fs:=fs) (f:=(ys,yn)) HA.out HAR.out h40)
        have C2:=Lib.hid (CC.out w2 HB2.out)
        have HBB:=Lib.hid (show Below w.heap.size w ((w2.alloc (.cells #[.string ys,.int .i64 yn] 140)).alloc (.cells #[.slice a fs.length c,.slice (some ⟨w2.heap.size,0,none⟩) 1 1] 23)) from (HB2.out.alloc HB2.out.size _).alloc (by have:=HB2.out.size;simp;omega) _)
        go_wp2_with fail
        refine C2.out.mono ?_;rintro e w3 ⟨u,rfl,hu,hb3⟩
        have HB3:=Lib.hid (below_next HBB.out hb3)
        have HU:=Lib.hid (show Fus w3 u (fs ++ [(ys,yn)]) from by
          have e:flatF [(Value.slice a fs.length c,fs),(Value.slice (some ⟨w2.heap.size,0,none⟩) 1 1,[(ys,yn)])]=fs ++ [(ys,yn)]:=by simp [flatF]
          rw [e] at hu
          exact hu.fus (by rw [List.length_append,List.length_singleton];omega))
        clear hu hb3
        go_wp2_with fail
        go_ret2
        exact ⟨u,by rw [HE.out];rfl,by rw [addL_ok HE.out];exact HU.out,HB3.out⟩
    · have hk0:decide (0≤(k:Int))=true:=decide_eq_true (by omega)
      have HE:=Lib.hid (addE_twice (fs:=fs) (f:=(ys,yn)) HA.out (by show (arF fs ys).isSome=true;rw [har];rfl))
      clear har
      go_wp2_with fail
      go_ret2
      exact add_bad HE.out (by decide) HB2.out
end Go.Proofs.YtjcleokfpohpdaaGreatDoor
namespace Go.Proofs.YtjcleokfpohpdaaGreatDoor
open Go.RowKit Go.Maps
theorem keyTypeFn : Tryz.prog.keyTypeAt 9 140=true:=by kernel_rfl
theorem keyTypeOfFn : Tryz.prog.keyType 140=true:=by kernel_rfl
theorem keyLaidFn:laidOutB Tryz.prog=true:=by kernel_rfl
theorem keyRowFn:140 < Tryz.prog.types.size:=of_decide_eq_true (by kernel_rfl)
theorem keyed_fn:Keyed Tryz.prog 140:=Keyed.of_law (deep_law_laid keyLaidFn (m:=9) (by omega) keyRowFn keyTypeFn (by rw [Tryz.underlying140]))
theorem keyCellIF : Tryz.prog.cellsOf 3=1:=by kernel_rfl
theorem keyCellSF : Tryz.prog.cellsOf 9=1:=by kernel_rfl
theorem cellsKeyFn : Tryz.prog.cellsOf 140=2:=by kernel_rfl
def fnLit (f:Fn):Lit:=.string (keyBytes [.string f.1.data.toList,.int .i64 f.2])
structure FnKey (f:Fn):Prop where
  ok:FnOk f
  len:f.1.size≤maxLen
theorem fnKey_of {f:Fn} (h:FnOk f) (hs:f.1.size≤100000):FnKey f:=⟨h,by unfold maxLen;omega⟩
theorem keyOf_fn {f:Fn} (h:FnKey f):keyOf Tryz.prog 140 (fnVal f)=some (fnLit f):=by
  unfold keyOf
  rw [Tryz.underlying140]
  simp only [keyTypeOfFn,Bool.true_and]
  have hf:(fnVal f).formed Tryz.prog 140=true:=by
    unfold fnVal Value.formed
    simp only [Tryz.underlying140,cellsKeyFn];rfl
  rw [if_pos hf]
  obtain ⟨d,hd⟩:∃ d,Tryz.prog.types.size=d + 1:=⟨Tryz.prog.types.size - 1,by have:=keyRowFn;omega⟩
  rw [hd]
  have e1 : Tryz.prog.keyLits (d + 1) 3 [.int .i64 f.2]=some [.int .i64 f.2]:=by
    unfold Program.keyLits
    simp only [Tryz.underlying3]
    rw [if_pos ⟨trivial,WalkArith.wf_i64 ⟨h.ok.lo,h.ok.hi⟩⟩]
  have e2 : Tryz.prog.keyLits (d + 1) 9 [.string f.1]=some [.string f.1.data.toList]:=by
    unfold Program.keyLits
    simp only [Tryz.underlying9]
    rw [if_pos h.len]
  unfold Program.keyLits
  simp only [Tryz.underlying140,fnVal,Value.cells]
  rw [if_pos ⟨by rw [cellsKeyFn];rfl,by simp⟩]
  simp [e1,e2,keyCellIF,keyCellSF,fnLit]
theorem fnVal_inj {f g:Fn} (h:fnVal f=fnVal g):f=g:=by
  unfold fnVal at h
  simp only [Value.agg.injEq,Array.mk.injEq,List.cons.injEq,Value.int.injEq,true_and,Value.string.injEq,and_true] at h
  exact Prod.ext h.1 h.2
theorem fnLit_inj {f g:Fn} (hf:FnKey f) (hg:FnKey g) (h:fnLit f=fnLit g):f=g:=by
  have e1:=keyOf_fn hf
  have e2:=keyOf_fn hg
  rw [h] at e1
  exact fnVal_inj (keyed_fn.inj e1 e2)
def fnSet (fs:List Fn):DataW Unit:=Maps.setOf (.agg []) (fs.map fnLit)
theorem fnSet_has {fs:List Fn} {f:Fn} (hfs:∀ x ∈ fs,FnKey x) (hf:FnKey f):Maps.has (fnSet fs) (fnLit f)=hasFn fs f:=by
  unfold fnSet
  rw [Maps.has_setOf _ _ _ (by
    intro x hx
    obtain ⟨z,_,rfl⟩:=List.mem_map.1 hx
    simp [WideAt.IsKeyLit,fnLit])]
  rw [Bool.eq_iff_iff,List.any_eq_true]
  have hh:hasFn fs f=true ↔ f ∈ fs:=@decide_eq_true_iff _ (Classical.propDecidable _)
  rw [hh]
  constructor
  · rintro ⟨x,hx,he⟩
    obtain ⟨z,hz,rfl⟩:=List.mem_map.1 hx
    have e:fnLit z=fnLit f:=by
      unfold fnLit at he ⊢
      simpa [Lit.sameKey] using he
    rw [← fnLit_inj (hfs z hz) hf e];exact hz
  · intro h
    exact ⟨_,List.mem_map.2 ⟨f,h,rfl⟩,by simp [Lit.sameKey,fnLit]⟩
theorem fnSet_put (fs:List Fn) (f:Fn):(fnSet fs).put (fnLit f) (.agg [])=fnSet (fs ++ [f]):=by
  unfold fnSet
  rw [List.map_append,← Maps.setOf_snoc];rfl
end Go.Proofs.YtjcleokfpohpdaaGreatDoor
namespace Go.Proofs.YtjcleokfpohpdaaGreatDoor
open Go.RowKit
theorem zero_unitF (w:World):(zeroValue 205).run Tryz.prog w=.ok (.agg #[]) w:=by kernel_rfl
set_option maxRecDepth 100000 in
set_option maxHeartbeats 1000000 in
theorem pput_fn (b n:Nat) (D:DataW Unit) (f:Fn) (w:World) (hm:w.ownsMap Tryz.prog 140 (unitElem (H:=Unit)) b n D) (hf:FnKey f) (hn:n≤1000000) :
    Calls Tryz.prog 170 #[.map (some b),fnVal f] w fun e w'=>(∃ v,e=.returned v)∧w'.ownsMap Tryz.prog 140 (unitElem (H:=Unit)) b (n + 1) (D.put (fnLit f) (.agg []))∧w.grownBy w' (some b):=by
  have hkey:=keyOf_fn hf
  obtain ⟨s,k⟩:=f
  obtain ⟨l,hll⟩:∃ l,fnLit (s,k)=l:=⟨_,rfl⟩
  rw [hll] at hkey ⊢
  unfold fnVal at hkey ⊢
  simp only at hkey ⊢
  have hb:=hm.lt
  have hm1:=hm.kept (grown_of_below ((Below.refl w.heap.size w).alloc (Nat.le_refl _) (.cells #[.string s,.int .i64 k] 140))) (by simp)
  have HGA:=Lib.hid (World.grownBy_alloc w (.cells #[.string s,.int .i64 k] 140) (some b))
  clear hm hll
  go_enter Tryz.func170,Tryz.ntmps170
  go_wp2_with (first
    | (at_mapUpdate;refine wpList_mapUpdate_own _ rfl _ _ _ 188 rfl 140 205 keyed_fn Tryz.underlying188 (unitElem (H:=Unit)) b n _ rfl hm1 (by unfold maxLen;omega) _ _ _ rfl rfl hkey (.agg []) [] unitElem_mk ?_;intro w1 hown1 hgrow1)
    | go_in)
  go_end0
  exact ⟨⟨_,rfl⟩,hown1,HGA.out.trans hgrow1⟩
set_option maxRecDepth 100000 in
set_option maxHeartbeats 2000000 in
theorem psetOf_any (v:Value) (fs:List Fn) (w:World) (hv:Fus w v fs) (hk:∀ f ∈ fs,FnKey f) (hl:fs.length≤100000) :
    Calls Tryz.prog 129 #[v] w fun e w'=>∃ b,e=.returned (.map (some b))∧w'.ownsMap Tryz.prog 140 (unitElem (H:=Unit)) b fs.length (fnSet fs)∧Below w.heap.size w w':=by
  have hmm:=@run_makeMap Tryz.prog
  obtain ⟨a,n,c,rfl⟩:∃ a n c,v=.slice a n c:=by obtain ⟨a,c,h,_⟩:=hv;exact ⟨a,_,c,h⟩
  obtain rfl:=hv.news.1
  obtain ⟨a',c',hv',_,hrow⟩:=hv
  cases hv'
  have HR:=Lib.hid hrow
  have HK:=Lib.hid hk
  clear hrow hk
  go_enter Tryz.func129,Tryz.ntmps129
  go_wp2
  go_loopw [9] (fun i wr=>∃ k:Nat,k≤fs.length∧i=.int .i64 k∧wr.ownsMap Tryz.prog 140 (unitElem (H:=Unit)) w.heap.size k (fnSet (fs.take k))∧Below w.heap.size w wr) (fun i _=>fs.length - (intOf i).toNat)
  case atStart=>exact ⟨0,Nat.zero_le _,rfl,World.ownsMap_made _ _ _ _,(Below.refl _ _).alloc (Nat.le_refl _) _⟩
  case round =>
    obtain ⟨k,hk,rfl,hown,hb⟩:=hrel
    by_cases hkl:k < fs.length
    · obtain ⟨b,o,rfl,hlt,hat⟩:=HR.out.resolve_left (by intro h;rw [h] at hkl;simp at hkl)
      obtain ⟨x,hx⟩:∃ x,fs[k]? = some x:=⟨_,List.getElem?_eq_getElem hkl⟩
      have hA:=hat k x hx
      have m0:=(hb.cell (p:=⟨b,o + k * 2,none⟩) hlt).trans hA.c0
      have m1:=(hb.cell (p:=⟨b,o + k * 2 + 1,none⟩) hlt).trans hA.c1
      have hxk:=HK.out x (List.mem_of_getElem? hx)
      have HT:=Lib.hid (show fnSet (fs.take (k + 1))=(fnSet (fs.take k)).put (fnLit x) (.agg []) from by
        obtain ⟨hl,hx⟩:=List.getElem?_eq_some_iff.1 hx
        rw [fnSet_put,List.take_succ_eq_append_getElem hl,hx])
      have hk0:(0:Int)≤(k:Int):=by omega
      have hk1:(k:Int) < (fs.length:Int):=by omega
      have hown1:=hown.kept (grown_of_below ((Below.refl wr.heap.size wr).alloc (Nat.le_refl _) (.cells #[.string x.1,.int .i64 x.2] 140))) (by simp)
      have HBA:=Lib.hid (hb.alloc hb.size (.cells #[.string x.1,.int .i64 x.2] 140))
      have C:=Lib.hid (pput_fn w.heap.size k _ x _ hown1 hxk (by omega))
      clear hat hx hA hxk hown hown1
      obtain ⟨xs,xn⟩:=x
      unfold fnVal at C
      simp only at m0 m1 C HBA
      go_wp2_with fail
      refine C.out.mono ?_;rintro e w1 ⟨⟨v1,rfl⟩,hown2,hg⟩
      have HO:=Lib.hid hown2
      have HB1:=Lib.hid (HBA.out.grown hg (by have:=HBA.out.size;exact this) (fun j hj=>by cases hj;exact Nat.le_refl _))
      clear hown2 hg
      go_wp2_with fail
      go_roundw
      case rel=>exact ⟨k + 1,by omega,by go_num,by rw [HT.out];exact HO.out,HB1.out⟩
      case measure=>simp [intOf];omega
    · obtain rfl:k=fs.length:=by omega
      rw [List.take_length] at hown
      go_wp2_with fail
      go_ret
      exact ⟨w.heap.size,rfl,hown,hb⟩
set_option maxRecDepth 100000 in
set_option maxHeartbeats 1000000 in
theorem phas_fn (b n:Nat) (fs:List Fn) (f:Fn) (w:World) (hm:w.ownsMap Tryz.prog 140 (unitElem (H:=Unit)) b n (fnSet fs)) (hfs:∀ x ∈ fs,FnKey x) (hf:FnKey f) :
    Calls Tryz.prog 130 #[.map (some b),fnVal f] w fun e w'=>e=.returned (.bool (hasFn fs f))∧Below w.heap.size w w':=by
  have hkey:=keyOf_fn hf
  have hh:=fnSet_has hfs hf
  obtain ⟨r,hr⟩:∃ r,hasFn fs f=r:=⟨_,rfl⟩
  rw [hr] at hh ⊢
  obtain ⟨s,k⟩:=f
  obtain ⟨l,hll⟩:∃ l,fnLit (s,k)=l:=⟨_,rfl⟩
  rw [hll] at hkey hh
  unfold fnVal at hkey ⊢
  simp only at hkey ⊢
  have hb:=hm.lt
  have hm1:=hm.kept (grown_of_below ((Below.refl w.heap.size w).alloc (Nat.le_refl _) (.cells #[.string s,.int .i64 k] 140))) (by simp)
  have HB:=Lib.hid ((Below.refl w.heap.size w).alloc (Nat.le_refl _) (.cells #[.string s,.int .i64 k] 140))
  clear hm hll hr
  go_enter Tryz.func130,Tryz.ntmps130
  go_wp2_with (first
    | (at_lookup;refine wpList_lookup_own_unit _ rfl _ _ 188 rfl 140 205 keyed_fn Tryz.underlying188 (zero_unitF _) b n _ rfl hm1 _ _ rfl hkey ?_)
    | go_in)
  go_ret
  exact ⟨rfl,HB.out.alloc (by simp) _⟩
end Go.Proofs.YtjcleokfpohpdaaGreatDoor
namespace Go.Proofs.YtjcleokfpohpdaaGreatDoor
open Go.RowKit
structure ModF (fs:List Fn):Prop where
  len:fs.length≤900
  size:∀ f ∈ fs,f.1.size≤1000
theorem modF_few {fs:List Fn} (h:fewF fs=true):ModF fs:=⟨by have:=(fewF_of h).1;omega,fun f hf=>by have:=(fewF_of h).2 f hf;omega⟩
end Go.Proofs.YtjcleokfpohpdaaGreatDoor
namespace Go.Proofs.YtjcleokfpohpdaaGreatDoor
open Go.RowKit
def JoinI:Prop:=∀ (va vb:Value) (fs bs:List Fn) (W:World),Fus W va fs→Fus W vb bs→ModF fs→ModF bs →
    Calls Tryz.prog 77 #[va,vb] W (JoinPost fs bs W)
end Go.Proofs.YtjcleokfpohpdaaGreatDoor
namespace Go.Proofs.YtjcleokfpohpdaaGreatDoor
open Go.RowKit Go.Maps
def HasRow (va:Value) (V:World) (g:Nat):Prop:=g < V.heap.size∧V.cell? ⟨g,0,none⟩=some va
theorem hasRow_new (va:Value) (V:World):HasRow va (V.alloc (.cells #[va] 23)) V.heap.size:=by
  refine ⟨by simp,?_⟩
  rw [World.cell?_alloc_new];rfl
theorem HasRow.below {va:Value} {V V':World} {g:Nat} (h:HasRow va V g) (hb:Below V.heap.size V V'):HasRow va V' g :=
  ⟨Nat.lt_of_lt_of_le h.1 hb.size,(hb.cell (p:=⟨g,0,none⟩) h.1).trans h.2⟩
def SetG (fs:List Fn) (V:World) (b:Nat):Prop:=V.ownsMap Tryz.prog 140 (unitElem (H:=Unit)) b fs.length (fnSet fs)
theorem SetG.below {fs:List Fn} {V V':World} {b:Nat} (h:SetG fs V b) (hb:Below V.heap.size V V'):SetG fs V' b:=World.ownsMap.kept h (grown_of_below hb) (by simp)
set_option maxRecDepth 100000 in
set_option maxHeartbeats 4000000 in
theorem joinI_any:JoinI:=by
  intro va vb fs bs w ha hb hma hmb
  have HFA:=Lib.hid ha
  obtain ⟨aa,na,ca,rfl⟩:∃ a n c,va=.slice a n c:=by obtain ⟨a,c,h,_⟩:=ha;exact ⟨a,_,c,h⟩
  obtain rfl:=ha.news.1
  have hka:∀ f ∈ fs,FnKey f:=fun f hf=>fnKey_of (ha.ok f hf) (by have:=hma.size f hf;omega)
  have HKA:=Lib.hid hka
  have HKB:=Lib.hid (show ∀ f ∈ bs,FnKey f from fun f hf=>fnKey_of (hb.ok f hf) (by have:=hmb.size f hf;omega))
  have hla:=hma.len
  have CAT:=fun (V:World) (g:Nat) (h:Below w.heap.size w V) (hr:HasRow (.slice aa fs.length ca) V g) =>
    pconcat_fn [(.slice aa fs.length ca,fs)] g 1 V ⟨hr.1,fun k hk=>by
      match k,hk with
      | 0,_=>exact ⟨hr.2,ha.below h⟩
      | k + 1,h=>exact absurd (show k + 1 < 1 from h) (by omega)⟩ (by simp) (by simp) (by simp [flatF];omega)
  have FL:flatF [((.slice aa fs.length ca:Value),fs)]=fs:=by simp [flatF]
  rw [FL] at CAT
  have C1:=Lib.hid (fun (V:World) (g:Nat) (h:Below w.heap.size w V) (hr:HasRow (.slice aa fs.length ca) V g)=>(CAT V g h hr).mono fun e V' hh=>(show ∃ u n c,e=.returned (.slice u n c)∧Below w.heap.size w V'∧Fus V' (.slice u n c) fs from by
    obtain ⟨u,h1,h2,h3⟩:=hh
    have h4:=h2.fus (by omega)
    obtain ⟨a,c,rfl,_⟩:=id h4
    exact ⟨a,_,c,h1,below_next h h3,h4⟩))
  have S3:=Lib.hid (fun (V:World) (u:Value) (h:Below w.heap.size w V) (hr:Fus V u fs)=>(psetOf_any _ fs V (ha.below h) hka (by omega)).mono fun e V' hh=>(show ∃ b,e=.returned (.map (some b))∧Below w.heap.size w V'∧SetG fs V' b∧Fus V' u fs from by
    obtain ⟨b,h1,h2,h3⟩:=hh
    exact ⟨b,h1,below_next h h3,h2,hr.below h3⟩))
  have HAS:=Lib.hid (fun (V:World) (b:Nat) (x:Fn) (hx:FnKey x) (h:SetG fs V b)=>phas_fn b fs.length fs x V h hka hx)
  have ADD:=Lib.hid (fun (V:World) (u:Value) (os:List Fn) (x:Fn) (hu:Fus V u os) (hx:FnOk x) (hs:x.1.size≤1000) (hl:os.length≤1000)=>padd_any u os x V hu hx (by omega) hl)
  have HA0:=Lib.hid (show Below w.heap.size w (w.alloc (.cells #[.slice aa fs.length ca] 23)) from (Below.refl _ _).alloc (Nat.le_refl _) _)
  have HR0:=Lib.hid (hasRow_new (.slice aa fs.length ca) w)
  have HMS:=Lib.hid (fun (f:Fn) (hf:f ∈ bs)=>hmb.size f hf)
  have HBO:=Lib.hid hb.ok
  obtain ⟨ab,nb,cb,rfl⟩:∃ a n c,vb=.slice a n c:=by obtain ⟨a,c,h,_⟩:=hb;exact ⟨a,_,c,h⟩
  obtain ⟨ab',cb',hvb',hlb,hrow⟩:=hb
  cases hvb'
  have HRB:=Lib.hid hrow
  have HMA:=Lib.hid hma
  clear CAT FL hka ha hma hmb hrow HKA
  go_enter Tryz.func77,Tryz.ntmps77
  go_wp2_with fail
  refine (C1.out _ _ HA0.out HR0.out).mono ?_;rintro e w1 ⟨au,nu,cu,rfl,hb1,hu1⟩
  go_wp2_with fail
  refine (S3.out _ _ hb1 hu1).mono ?_;rintro e w2 ⟨bm,rfl,hb2,hs2,hu2⟩
  have HB2:=Lib.hid hb2
  have HS2:=Lib.hid hs2
  have HU2:=Lib.hid hu2
  clear hb1 hu1 hb2 hs2 hu2 C1 S3 HA0 HR0
  go_wp2_with fail
  go_loopw [6,19] (fun u i wr=>∃ (k:Nat) (os:List Fn),k≤bs.length∧i=.int .i64 k∧Hid (Fus wr u os)∧Hid (joinR fs fs bs=joinR fs os (bs.drop k))∧os.length≤940∧Hid (SetG fs wr bm)∧Hid (Below w.heap.size w wr)) (fun _ i _=>bs.length - (intOf i).toNat)
  case atStart=>exact ⟨0,fs,Nat.zero_le _,rfl,HU2,Lib.hid rfl,by omega,HS2,HB2⟩
  case round =>
    obtain ⟨k,os,hk,rfl,HU,HJ,ho,HS,HB⟩:=hrel
    by_cases hkl:k < bs.length
    · obtain ⟨b,o,rfl,hlt,hat⟩:=HRB.out.resolve_left (by intro h;rw [h] at hkl;simp at hkl)
      obtain ⟨x,hx⟩:∃ x,bs[k]? = some x:=⟨_,List.getElem?_eq_getElem hkl⟩
      have hA:=hat k x hx
      have m0:=(HB.out.cell (p:=⟨b,o + k * 2,none⟩) hlt).trans hA.c0
      have m1:=(HB.out.cell (p:=⟨b,o + k * 2 + 1,none⟩) hlt).trans hA.c1
      have hk0:(0:Int)≤(k:Int):=by omega
      have hk1:(k:Int) < (bs.length:Int):=by omega
      have hBA:=(Below.refl wr.heap.size wr).alloc (Nat.le_refl _) (.cells #[.string x.1,.int .i64 x.2] 140)
      have HBA:=Lib.hid hBA
      have HX:=Lib.hid hx
      have C:=Lib.hid (HAS.out _ bm x (HKB.out x (List.mem_of_getElem? hx)) (HS.out.below hBA))
      have AD:=Lib.hid (fun (W:World) (h:Below wr.heap.size wr W)=>ADD.out W u6 os x (HU.out.below h) (HBO.out x (List.mem_of_getElem? hx)) (HMS.out x (List.mem_of_getElem? hx)) (by omega))
      have HP:=Lib.hid (fun W (h:Below (wr.heap.size + 1) (wr.alloc (.cells #[.string x.1,.int .i64 x.2] 140)) W)=>pair_after h)
      have J1:=Lib.hid (fun h=>HJ.out.trans (join_has (os:=os) hx h))
      have J2:=Lib.hid (fun (h:hasFn fs x=false) (h0:addE os x=0)=>HJ.out.trans (join_add hx h h0))
      have J3:=Lib.hid (fun (h:hasFn fs x=false) (h0:addE os x≠0)=>HJ.out.trans (join_err hx h h0))
      have HL:=Lib.hid (fun h0:addE os x=0=>(show os.length + 1≤940 by have:=(addE_zero.1 h0).2.2;omega))
      clear hat hx hA hBA
      obtain ⟨a6,n6,c6,rfl⟩:∃ a n c,u6=Value.slice a n c:=by obtain ⟨a,c,h,_⟩:=HU.out;exact ⟨a,_,c,h⟩
      obtain ⟨xs,xn⟩:=x
      simp only at m0 m1 HBA HP
      unfold fnVal at C AD
      simp only at C AD
      cases hh:hasFn fs (xs,xn) with
      | true =>
        rw [hh] at C
        have HJ1:=Lib.hid (J1.out hh)
        clear hh J1 J2 J3 AD
        go_wp2_with fail
        refine C.out.mono ?_;rintro e w3 ⟨rfl,hb3⟩
        have HB3:=Lib.hid (below_next HBA.out hb3)
        clear hb3
        go_wp2_with fail
        go_roundw
        case rel=>exact ⟨k + 1,os,by omega,by go_num,Lib.hid (HU.out.below HB3.out),HJ1,ho,Lib.hid (HS.out.below HB3.out),Lib.hid (below_next HB.out HB3.out)⟩
        case measure=>simp [intOf];omega
      | false =>
        rw [hh] at C
        have HJ2:=Lib.hid (J2.out hh)
        have HJ3:=Lib.hid (J3.out hh)
        clear hh J1 J2 J3
        go_wp2_with fail
        refine C.out.mono ?_;rintro e w3 ⟨rfl,hb3⟩
        have HB3:=Lib.hid (below_next HBA.out hb3)
        obtain ⟨q0,q1,_,_⟩:=HP.out w3 (hb3.mono (by simp))
        have A1:=Lib.hid (AD.out w3 HB3.out)
        clear hb3
        go_wp2_with fail
        refine A1.out.mono ?_;rintro e w4 ⟨u,rfl,hu,hb4⟩
        have HU4:=Lib.hid hu
        have HB4:=Lib.hid (below_next HB3.out hb4)
        clear hu hb4
        by_cases h0:addE os (xs,xn)=0
        · have HJ4:=Lib.hid (HJ2.out h0)
          have HO:=Lib.hid (HL.out h0)
          have HU5:=Lib.hid (show Fus w4 u (os ++ [(xs,xn)]) from by rw [← addL_ok h0];exact HU4.out)
          rw [h0]
          clear h0
          go_wp2_with fail
          go_roundw
          case rel=>exact ⟨k + 1,os ++ [(xs,xn)],by omega,by go_num,HU5,HJ4,by rw [List.length_append,List.length_singleton];exact HO.out,Lib.hid (HS.out.below HB4.out),Lib.hid (below_next HB.out HB4.out)⟩
          case measure=>simp [intOf];omega
        · have HJ4:=Lib.hid (HJ3.out h0)
          obtain ⟨n,hn⟩:∃ n,addE os (xs,xn)=n:=⟨_,rfl⟩
          rw [hn] at h0 HJ4 ⊢
          have h0':(n != 0)=true:=by simpa using h0
          clear hn h0 HL HJ2 HJ3
          have HB5:=Lib.hid (below_next HB.out HB4.out)
          go_wp2_with fail
          go_ret2
          exact ⟨.slice none 0 0,by rw [show joinE fs bs=n from by unfold joinE;rw [HJ4.out]];rfl,by rw [show joinL fs bs=[] from by unfold joinL;rw [HJ4.out]];exact Fus.none_ _ _ _,HB5.out⟩
    · have hke:k=bs.length:=by omega
      have HJ0:=Lib.hid (show joinR fs fs bs=(0,os) by rw [HJ.out,hke,List.drop_length,joinR])
      clear hke
      go_wp2_with fail
      go_ret2
      exact ⟨u6,by rw [show joinE fs bs=0 from by unfold joinE;rw [HJ0.out]];rfl,by rw [show joinL fs bs=os from by unfold joinL;rw [HJ0.out]];exact HU.out,HB.out⟩
end Go.Proofs.YtjcleokfpohpdaaGreatDoor
namespace Go.Proofs.YtjcleokfpohpdaaGreatDoor
open Go.RowKit
structure Yv where
  vf:Value
  vr:Value
  fs:List Fn
  rs:List Rl
def Yv.val (y:Yv):Value:=.agg #[y.vf,y.vr]
structure Yv.ok (w:World) (y:Yv):Prop where
  funs:Fus w y.vf y.fs
  rules:Rls w y.vr y.rs
theorem Yv.ok.below {w w':World} {y:Yv} (h:y.ok w) (hb:Below w.heap.size w w'):y.ok w':=⟨h.funs.below hb,h.rules.below hb⟩
end Go.Proofs.YtjcleokfpohpdaaGreatDoor
