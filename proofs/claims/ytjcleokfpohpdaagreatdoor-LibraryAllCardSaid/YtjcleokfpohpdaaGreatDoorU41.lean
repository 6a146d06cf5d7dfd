/-
  The arity of the first function of a name, and whether a function is in a row, by the reference of layer 10: Arity, Has, Few.
  One function more, by the reference of layer 10: Add.
  Whether a function is in a row, by the reference of layer 10: Has.
  Two rows of functions joined, by the reference of layer 10: Join.
  What a name stands for, by the reference of layer 5: Get.
-/
import Derived.Test.YtjcleokfpohpdaaGreatDoorU07
import Derived.Lib.Hide
import Derived.WalkKit
import Derived.BigQuiet
import Derived.Test.YtjcleokfpohpdaaGreatDoorU08
import Derived.Test.YtjcleokfpohpdaaGreatDoorU04
import Derived.Test.YtjcleokfpohpdaaGreatDoorU10
namespace Go.Proofs.YtjcleokfpohpdaaGreatDoor
open Go.RowKit
set_option maxRecDepth 100000 in
set_option maxHeartbeats 1000000 in
theorem rarity_any (v:Value) (fs:List Fn) (s:ByteArray) (w:World) (hv:Fus w v fs) :
    Calls Tryz.prog 27 #[v,.string s] w fun e w'=>e=arEnd (arF fs s)∧Below w.heap.size w w':=by
  obtain ⟨a,c,rfl,hl,hrow⟩:=hv
  have HR:=Lib.hid hrow
  clear hrow
  go_enter Tryz.func27,Tryz.ntmps27
  go_wp2_with fail
  go_loopw [10] (fun i wr=>∃ k:Nat,k≤fs.length∧i=.int .i64 k∧Hid (arF (fs.take k) s=none)∧Below w.heap.size w wr) (fun i _=>fs.length - (intOf i).toNat)
  case atStart=>exact ⟨0,Nat.zero_le _,rfl,Lib.hid (by rw [List.take_zero];rfl),Below.refl _ _⟩
  case round =>
    obtain ⟨k,hk,rfl,HN,hb⟩:=hrel
    by_cases hkl:k < fs.length
    · obtain ⟨b,o,rfl,hlt,hat⟩:=HR.out.resolve_left (by intro h;rw [h] at hkl;simp at hkl)
      obtain ⟨x,hx⟩:∃ x,fs[k]? = some x:=⟨_,List.getElem?_eq_getElem hkl⟩
      have hA:=hat k x hx
      have m0:=(hb.cell (p:=⟨b,o + k * 2,none⟩) hlt).trans hA.c0
      have m1:=(hb.cell (p:=⟨b,o + k * 2 + 1,none⟩) hlt).trans hA.c1
      have hstep:=Lib.hid (arF_take HN.out hx)
      have hk0:(0:Int)≤(k:Int):=by omega
      have hk1:(k:Int) < (fs.length:Int):=by omega
      clear hat hx hA
      obtain ⟨xs,xn⟩:=x
      simp only at m0 m1
      cases he:(xs.toList==s.toList) with
      | true =>
        have HG:=Lib.hid (show arF fs s=some xn from arF_some (k:=k + 1) (by rw [hstep.out,if_pos he]))
        go_wp2_with fail
        go_ret2
        exact ⟨by rw [HG.out];rfl,hb.alloc hb.size _⟩
      | false =>
        have HNN:=Lib.hid (show arF (fs.take (k + 1)) s=none by rw [hstep.out,if_neg (by rw [he];simp)])
        go_wp2_with fail
        go_roundw
        case rel=>exact ⟨k + 1,by omega,by go_num,HNN,hb.alloc hb.size _⟩
        case measure=>simp [intOf];omega
    · have hke:k=fs.length:=by omega
      have HG:=Lib.hid (show arF fs s=none by have h:=HN.out;rw [hke,List.take_length] at h;exact h)
      clear hke
      go_wp2_with fail
      go_ret2
      exact ⟨by rw [HG.out];rfl,hb⟩
end Go.Proofs.YtjcleokfpohpdaaGreatDoor
namespace Go.Proofs.YtjcleokfpohpdaaGreatDoor
open Go.RowKit
set_option maxRecDepth 100000 in
set_option maxHeartbeats 2000000 in
theorem radd_any (v:Value) (fs:List Fn) (f:Fn) (w:World) (hv:Fus w v fs) (hf:FnOk f) (hs:f.1.size≤100000) (hl:fs.length≤1000) :
    Calls Tryz.prog 137 #[v,fnVal f] w (AddPost fs f w):=by
  obtain ⟨i0,hi,hz0,hz1,hz2⟩:=info_parts funInfo
  have AR:=Lib.hid (fun (W:World) (h:Below w.heap.size w W)=>rarity_any v fs f.1 W (hv.below h))
  have WD:=Lib.hid (fun (W:World)=>rword_any f.1 (by omega) W)
  obtain ⟨a,n,c,rfl⟩:∃ a n c,v=.slice a n c:=by obtain ⟨a,c,h,_⟩:=hv;exact ⟨a,_,c,h⟩
  obtain ⟨rfl,hn0,hnl,hnew,hok⟩:=hv.news
  have HNEW:=Lib.hid hnew
  have HNL:=Lib.hid hnl
  have HN0:=Lib.hid hn0
  have hall:∀ x ∈ fs ++ [f],FnOk x:=fun x hx=>by
    rcases List.mem_append.1 hx with hx | hx
    · exact hok x hx
    · rw [List.mem_singleton] at hx;rw [hx];exact hf
  have HOK:=Lib.hid hall
  have HONE:=Lib.hid (fn_one f)
  have HROW1:=Lib.hid (rowFn_one' fs)
  clear hnew hnl hn0 hok hall hv
  obtain ⟨ys,yn⟩:=f
  have HP:=Lib.hid (fun wr (h:Below (w.heap.size + 1) (w.alloc (.cells #[.string ys,.int .i64 yn] 140)) wr)=>pair_after h)
  unfold fnVal
  simp only at AR WD HONE
  have hw0:Below w.heap.size w (w.alloc (.cells #[.string ys,.int .i64 yn] 140)):=(Below.refl _ _).alloc (Nat.le_refl _) _
  have HW0:=Lib.hid hw0
  clear hw0
  cases hwd:wordB ys with
  | false =>
    rw [hwd] at WD
    have HE:=Lib.hid (addE_arg (fs:=fs) (f:=(ys,yn)) (by unfold argOk;show (wordB ys&&_)=false;rw [hwd];rfl))
    clear hwd
    go_enter Tryz.func137,Tryz.ntmps137
    go_wp2_with fail
    refine (WD.out _).mono ?_;rintro e w1 ⟨rfl,hb1⟩
    have HB1:=Lib.hid (HW0.out.trans (hb1.mono (by simp)))
    obtain ⟨q0,q1,_,_⟩:=HP.out w1 (hb1.mono (by simp))
    clear hb1
    go_wp2_with fail
    go_ret2
    exact add_bad HE.out (by decide) HB1.out
  | true =>
    rw [hwd] at WD
    rcases Int.lt_or_le yn 0 with h0 | h0
    · have hd0:decide (yn < 0)=true:=decide_eq_true h0
      have HE:=Lib.hid (addE_arg (fs:=fs) (f:=(ys,yn)) (by unfold argOk;show (wordB ys&&(decide (0≤yn)&&decide (yn≤6)))=false;rw [decide_eq_false (by omega)];simp))
      clear hwd
      go_enter Tryz.func137,Tryz.ntmps137
      go_wp2_with fail
      refine (WD.out _).mono ?_;rintro e w1 ⟨rfl,hb1⟩
      have HB1:=Lib.hid (HW0.out.trans (hb1.mono (by simp)))
      have HBP:=Lib.hid (hb1.mono (show w.heap.size + 1≤(w.alloc (.cells #[.string ys,.int .i64 yn] 140)).heap.size by simp))
      have hs1:w.heap.size + 1≤w1.heap.size:=by have:=hb1.size;simpa using this
      obtain ⟨q0,q1,_,_⟩:=HP.out w1 HBP.out
      clear hb1
      go_wp2_with fail
      go_ret2
      exact add_bad HE.out (by decide) HB1.out
    have hd0:decide (yn < 0)=false:=decide_eq_false (by omega)
    rcases Int.lt_or_le 6 yn with h6 | h6
    · have hd6:decide (6 < yn)=true:=decide_eq_true h6
      have HE:=Lib.hid (addE_arg (fs:=fs) (f:=(ys,yn)) (by unfold argOk;show (wordB ys&&(decide (0≤yn)&&decide (yn≤6)))=false;rw [decide_eq_false (show ¬ yn≤6 by omega)];simp))
      clear hwd
      go_enter Tryz.func137,Tryz.ntmps137
      go_wp2_with fail
      refine (WD.out _).mono ?_;rintro e w1 ⟨rfl,hb1⟩
      have HB1:=Lib.hid (HW0.out.trans (hb1.mono (by simp)))
      have HBP:=Lib.hid (hb1.mono (show w.heap.size + 1≤(w.alloc (.cells #[.string ys,.int .i64 yn] 140)).heap.size by simp))
      have hs1:w.heap.size + 1≤w1.heap.size:=by have:=hb1.size;simpa using this
      obtain ⟨q0,q1,_,_⟩:=HP.out w1 HBP.out
      clear hb1
      go_wp2_with fail
      go_ret2
      exact add_bad HE.out (by decide) HB1.out
    have hd6:decide (6 < yn)=false:=decide_eq_false (by omega)
    have HA:=Lib.hid (show argOk (ys,yn)=true by unfold argOk;show (wordB ys&&(decide (0≤yn)&&decide (yn≤6)))=true;rw [hwd,decide_eq_true h0,decide_eq_true h6];rfl)
    clear hwd
    cases har:arF fs ys with
    | some n =>
      rw [har] at AR
      have HE:=Lib.hid (addE_twice (fs:=fs) HA.out (by show (arF fs ys).isSome=true;rw [har];rfl))
      clear har
      go_enter Tryz.func137,Tryz.ntmps137
      go_wp2_with fail
      refine (WD.out _).mono ?_;rintro e w1 ⟨rfl,hb1⟩
      have HB1:=Lib.hid (HW0.out.trans (hb1.mono (by simp)))
      have HBP:=Lib.hid (hb1.mono (show w.heap.size + 1≤(w.alloc (.cells #[.string ys,.int .i64 yn] 140)).heap.size by simp))
      have hs1:w.heap.size + 1≤w1.heap.size:=by have:=hb1.size;simpa using this
      obtain ⟨q0,q1,_,_⟩:=HP.out w1 HBP.out
      clear hb1
      go_wp2_with fail
      refine (AR.out _ HB1.out).mono ?_;rintro e w2 ⟨rfl,hb2⟩
      have HB2:=Lib.hid (below_next HB1.out hb2)
      clear hb2
      unfold arEnd
      go_wp2_with fail
      go_ret2
      exact add_bad HE.out (by decide) HB2.out
    | none =>
      rw [har] at AR
      have HAR:=Lib.hid (show (arF fs ys).isSome=false by rw [har];rfl)
      clear har
      by_cases h40:40≤fs.length
      · have hd40:decide (40≤(fs.length:Int))=true:=decide_eq_true (by omega)
        have HE:=Lib.hid (addE_long (fs:=fs) (f:=(ys,yn)) HA.out HAR.out h40)
        go_enter Tryz.func137,Tryz.ntmps137
        go_wp2_with fail
        refine (WD.out _).mono ?_;rintro e w1 ⟨rfl,hb1⟩
        have HB1:=Lib.hid (HW0.out.trans (hb1.mono (by simp)))
        have HBP:=Lib.hid (hb1.mono (show w.heap.size + 1≤(w.alloc (.cells #[.string ys,.int .i64 yn] 140)).heap.size by simp))
        have hs1:w.heap.size + 1≤w1.heap.size:=by have:=hb1.size;simpa using this
        obtain ⟨q0,q1,_,_⟩:=HP.out w1 HBP.out
        clear hb1
        go_wp2_with fail
        refine (AR.out _ HB1.out).mono ?_;rintro e w2 ⟨rfl,hb2⟩
        have HB2:=Lib.hid (below_next HB1.out hb2)
        clear hb2
        unfold arEnd
        go_wp2_with fail
        go_ret2
        exact add_bad HE.out (by decide) HB2.out
      · have hd40:decide (40≤(fs.length:Int))=false:=decide_eq_false (by omega)
        have HE:=Lib.hid (addE_ok (fs:=fs) (f:=(ys,yn)) HA.out HAR.out h40)
        go_enter Tryz.func137,Tryz.ntmps137
        go_wp2_with fail
        refine (WD.out _).mono ?_;rintro e w1 ⟨rfl,hb1⟩
        have HB1:=Lib.hid (HW0.out.trans (hb1.mono (by simp)))
        have HBP:=Lib.hid (hb1.mono (show w.heap.size + 1≤(w.alloc (.cells #[.string ys,.int .i64 yn] 140)).heap.size by simp))
        have hs1:w.heap.size + 1≤w1.heap.size:=by have:=hb1.size;simpa using this
        obtain ⟨q0,q1,_,_⟩:=HP.out w1 HBP.out
        clear hb1
        go_wp2_with fail
        refine (AR.out _ HB1.out).mono ?_;rintro e w2 ⟨rfl,hb2⟩
        have HB2:=Lib.hid (below_next HB1.out hb2)
        have HBP2:=Lib.hid (HBP.out.trans (hb2.mono hs1))
        obtain ⟨q0,q1,_,_⟩:=HP.out w2 HBP2.out
        have HOWN:=Lib.hid (World.ownsRow_nil w2 w2.heap.size 140 2)
        clear hb2
        unfold arEnd
        go_wp2_with (at_builtin;refine wpList_append_opt rfl _ _ 23 rfl w2.heap.size 140 i0 (.agg #[.string ⟨#[]⟩,.int .i64 0]) 2 24 Tryz.underlying23 hi hz0 hz1 hz2 rfl (by decide) _ 0 _ rfl HOWN.out a fs.length c (rowFn fs) rfl HN0.out HNL.out (HNEW.out _ HB2.out) HROW1.out ?ap3 ?ap4 ?ap5 ?_)
        case ap3=>unfold maxLen;omega
        case ap4=>omega
        case ap5=>exact Nat.le_refl _
        intro v3 w3 hown3 hgrow3 _
        have HB3:=Lib.hid (HB2.out.grown hgrow3 (by have:=HB2.out.size;omega) (fun g e=>by cases e))
        have hbp3:=HBP2.out.grown hgrow3 (by have:=HBP2.out.size;simp at this;omega) (fun g e=>by cases e)
        obtain ⟨q0,q1,_,_⟩:=HP.out w3 hbp3
        have hs3:w2.heap.size≤w3.heap.size:=hgrow3.size
        have HOWN3:=Lib.hid (own_below hown3 ((Below.refl _ _).alloc (Nat.le_refl _) (.cells #[.string ys,.int .i64 yn] 140)))
        have HR3:=Lib.hid (own_row_ge hown3)
        clear hown3 hgrow3 hbp3
        go_wp2_with (at_builtin;refine wpList_append_opt rfl _ _ 23 rfl w2.heap.size 140 i0 (.agg #[.string ⟨#[]⟩,.int .i64 0]) 2 24 Tryz.underlying23 hi hz0 hz1 hz2 rfl (by decide) _ fs.length _ rfl HOWN3.out (some ⟨w3.heap.size,0,none⟩) 1 1 [.string ys,.int .i64 yn] rfl (fun e=>by cases e) rfl (fun ad e=>by cases e;exact new_row2 _ _ rfl _ _ _) HONE.out ?ap3 ?ap4 ?ap5 ?_)
        case ap3=>unfold maxLen;omega
        case ap4=>omega
        case ap5=>first | omega | (simp;omega)
        intro v4 w4 hown4 hgrow4 _
        have HB4:=Lib.hid ((HB3.out.alloc (by have:=HB3.out.size;omega) _).grown hgrow4 (by have:=HB3.out.size;simp;omega) (fun g e=>by have:=HR3.out g e;have:=HB2.out.size;omega))
        have HF:=Lib.hid (show Fus w4 v4 (fs ++ [(ys,yn)]) from OwnFn.fus (base:=w2.heap.size) ⟨HOK.out,by rw [rowFn_append,rowFn_one,List.length_append];exact hown4⟩ (by rw [List.length_append,List.length_singleton];omega))
        clear hown4 hgrow4
        go_wp2_with fail
        go_ret2
        exact ⟨v4,by rw [HE.out];rfl,by rw [addL_ok HE.out];exact HF.out,HB4.out⟩
end Go.Proofs.YtjcleokfpohpdaaGreatDoor
namespace Go.Proofs.YtjcleokfpohpdaaGreatDoor
open Go.RowKit
def NotFn (fs:List Fn) (f:Fn) (k:Nat):Prop:=∀ j x,j < k→fs[j]? = some x→x≠f
theorem NotFn.succ {fs:List Fn} {f:Fn} {k:Nat} {x:Fn} (h:NotFn fs f k) (hk:fs[k]? = some x) (hx:x≠f):NotFn fs f (k + 1):=by
  intro j y hj hy
  by_cases e:j=k
  · subst e;rw [hk] at hy;rw [← Option.some.inj hy];exact hx
  · exact h j y (by omega) hy
theorem NotFn.all {fs:List Fn} {f:Fn} (h:NotFn fs f fs.length):hasFn fs f=false:=by
  refine @decide_eq_false _ (Classical.propDecidable _) fun hm=>?_
  obtain ⟨j,hj,e⟩:=List.getElem_of_mem hm
  exact h j _ hj (List.getElem?_eq_getElem hj) e
theorem hasFn_here {fs:List Fn} {f:Fn} {k:Nat} (hk:fs[k]? = some f):hasFn fs f=true:=by
  exact @decide_eq_true _ (Classical.propDecidable _) (List.mem_of_getElem? hk)
set_option maxRecDepth 100000 in
set_option maxHeartbeats 1000000 in
theorem rhas_any (v:Value) (fs:List Fn) (f:Fn) (w:World) (hv:Fus w v fs) :
    Calls Tryz.prog 136 #[v,fnVal f] w fun e w'=>e=.returned (.bool (hasFn fs f))∧Below w.heap.size w w':=by
  obtain ⟨a,c,rfl,hl,hrow⟩:=hv
  have HR:=Lib.hid hrow
  clear hrow
  obtain ⟨ys,yn⟩:=f
  unfold fnVal
  have p0:∀ wr,Below (w.heap.size + 1) (w.alloc (.cells #[.string ys,.int .i64 yn] 140)) wr→Pair wr w.heap.size (.string ys) (.int .i64 yn):=fun wr h=>pair_after h
  have HP:=Lib.hid p0
  clear p0
  go_enter Tryz.func136,Tryz.ntmps136
  go_wp2_with fail
  go_loopw [9] (fun i wr=>∃ k:Nat,k≤fs.length∧i=.int .i64 k∧Hid (NotFn fs (ys,yn) k)∧Below (w.heap.size + 1) (w.alloc (.cells #[.string ys,.int .i64 yn] 140)) wr) (fun i _=>fs.length - (intOf i).toNat)
  case atStart=>exact ⟨0,Nat.zero_le _,rfl,Lib.hid (fun j x hj=>by omega),Below.refl _ _⟩
  case round =>
    obtain ⟨k,hk,rfl,HN,hb⟩:=hrel
    have hbb:=below_pair hb
    obtain ⟨q0,q1,_,_⟩:=HP.out wr hb
    have hbs:w.heap.size + 1≤wr.heap.size:=by have:=hb.size;simpa using this
    have hbs1:w.heap.size < wr.heap.size:=by omega
    have hbs2:w.heap.size < wr.heap.size + 1:=by omega
    by_cases hkl:k < fs.length
    · obtain ⟨b,o,rfl,hlt,hat⟩:=HR.out.resolve_left (by intro h;rw [h] at hkl;simp at hkl)
      obtain ⟨x,hx⟩:∃ x,fs[k]? = some x:=⟨_,List.getElem?_eq_getElem hkl⟩
      have hA:=hat k x hx
      have m0:=(hbb.cell (p:=⟨b,o + k * 2,none⟩) hlt).trans hA.c0
      have m1:=(hbb.cell (p:=⟨b,o + k * 2 + 1,none⟩) hlt).trans hA.c1
      have hk0:(0:Int)≤(k:Int):=by omega
      have hk1:(k:Int) < (fs.length:Int):=by omega
      have HX:=Lib.hid hx
      clear hat hx hA
      obtain ⟨xs,xn⟩:=x
      simp only at m0 m1
      have HE:=Lib.hid (show (xs,xn)=(ys,yn) ↔ ((xs.toList==ys.toList)=true∧(xn==yn)=true) by rw [toList_iff,beq_iff_eq,Prod.mk.injEq])
      cases he:(xs.toList==ys.toList) with
      | true =>
        cases hn:(xn==yn) with
        | true =>
          have HG:=Lib.hid (show hasFn fs (ys,yn)=true from hasFn_here (k:=k) (by rw [HX.out,HE.out.2 ⟨he,hn⟩]))
          go_wp2_with fail
          go_ret
          exact ⟨ret_bool HG.out.symm,hbb.alloc (by omega) _⟩
        | false =>
          have HNN:=Lib.hid (HN.out.succ HX.out (fun e=>by have:=HE.out.1 e;rw [hn] at this;cases this.2))
          go_wp2_with fail
          go_roundw
          case rel=>exact ⟨k + 1,by omega,by go_num,HNN,hb.alloc (by omega) _⟩
          case measure=>simp [intOf];omega
      | false =>
        have HNN:=Lib.hid (HN.out.succ HX.out (fun e=>by have:=HE.out.1 e;rw [he] at this;cases this.1))
        go_wp2_with fail
        go_roundw
        case rel=>exact ⟨k + 1,by omega,by go_num,HNN,hb.alloc (by omega) _⟩
        case measure=>simp [intOf];omega
    · have hke:k=fs.length:=by omega
      have HG:=Lib.hid (show hasFn fs (ys,yn)=false from (show NotFn fs (ys,yn) fs.length by have h:=HN.out;rw [hke] at h;exact h).all)
      clear hke
      go_wp2_with fail
      go_ret
      exact ⟨ret_bool HG.out.symm,hbb⟩
end Go.Proofs.YtjcleokfpohpdaaGreatDoor
namespace Go.Proofs.YtjcleokfpohpdaaGreatDoor
open Go.RowKit
set_option maxRecDepth 100000 in
set_option maxHeartbeats 2000000 in
theorem rjoin_any (va vb:Value) (fs bs:List Fn) (w:World) (ha:Fus w va fs) (hb:Fus w vb bs) (hzb:∀ f ∈ bs,f.1.size≤100000) (hl:fs.length≤900) :
    Calls Tryz.prog 80 #[va,vb] w (JoinPost fs bs w):=by
  have HH:=Lib.hid (fun (f:Fn) (W:World) (h:Below w.heap.size w W)=>rhas_any va fs f W (ha.below h))
  have RA:=Lib.hid (fun (v:Value) (os:List Fn) (f:Fn) (W:World) (hv:Fus W v os) (hf:FnOk f) (hs:f.1.size≤100000) (hl:os.length≤1000)=>radd_any v os f W hv hf hs hl)
  have HA:=Lib.hid ha
  obtain ⟨ab,cb,rfl,hlb,hrb⟩:=hb
  have HB:=Lib.hid hrb
  obtain ⟨aa,na,ca,rfl⟩:∃ a n c,va=.slice a n c:=by obtain ⟨a,c,h,_⟩:=ha;exact ⟨a,_,c,h⟩
  clear hrb ha
  go_enter Tryz.func80,Tryz.ntmps80
  go_wp2_with fail
  go_loopw [6,14] (fun t i wr=>∃ (k:Nat) (os:List Fn),k≤bs.length∧i=.int .i64 k∧Fus wr t os∧os.length≤1000∧Hid (joinR fs fs bs=joinR fs os (bs.drop k))∧Below w.heap.size w wr) (fun _ i _=>bs.length - (intOf i).toNat)
  case atStart=>exact ⟨0,fs,Nat.zero_le _,rfl,HA.out,by omega,Lib.hid rfl,Below.refl _ _⟩
  case round =>
    obtain ⟨k,os,hk,rfl,ho,hlo,HJ,hb⟩:=hrel
    by_cases hkl:k < bs.length
    · obtain ⟨b,o,rfl,hlt,hat⟩:=HB.out.resolve_left (by intro h;rw [h] at hkl;simp at hkl)
      obtain ⟨x,hx⟩:∃ x,bs[k]? = some x:=⟨_,List.getElem?_eq_getElem hkl⟩
      have hA:=hat k x hx
      have m0:=(hb.cell (p:=⟨b,o + k * 2,none⟩) hlt).trans hA.c0
      have m1:=(hb.cell (p:=⟨b,o + k * 2 + 1,none⟩) hlt).trans hA.c1
      have hok:=hA.ok
      have hsz:=hzb x (List.mem_of_getElem? hx)
      have hk0:(0:Int)≤(k:Int):=by omega
      have hk1:(k:Int) < (bs.length:Int):=by omega
      have HX:=Lib.hid hx
      clear hat hx hA
      have HHX:=Lib.hid (HH.out x)
      have HP:=Lib.hid (fun w1 (h:Below (wr.heap.size + 1) (wr.alloc (.cells #[.string x.1,.int .i64 x.2] 140)) w1)=>pair_after h)
      have HBA:=Lib.hid (hb.alloc hb.size (.cells #[.string x.1,.int .i64 x.2] 140))
      have HO:=Lib.hid (ho.below ((Below.refl wr.heap.size wr).alloc (Nat.le_refl _) (.cells #[.string x.1,.int .i64 x.2] 140)))
      have hzw:w.heap.size≤wr.heap.size:=hb.size
      obtain ⟨ao,no,co,rfl⟩:∃ a n c,u6=Value.slice a n c:=by obtain ⟨a,c,h,_⟩:=ho;exact ⟨a,_,c,h⟩
      clear hb ho
      cases hh:hasFn fs x with
      | true =>
        rw [hh] at HHX
        have HJ2:=Lib.hid (HJ.out.trans (join_has HX.out hh))
        clear hh
        obtain ⟨xs,xn⟩:=x
        simp only at m0 m1 hsz
        unfold fnVal at HHX
        go_wp2_with fail
        refine (HHX.out _ HBA.out).mono ?_;rintro e w1 ⟨rfl,hb1⟩
        have HB1:=Lib.hid (HBA.out.trans (hb1.mono (by simp;omega)))
        have HO1:=HO.out.below hb1
        clear hb1
        go_wp2_with fail
        go_roundw
        case rel=>exact ⟨k + 1,os,by omega,by go_num,HO1,hlo,HJ2,HB1.out⟩
        case measure=>simp [intOf];omega
      | false =>
        rw [hh] at HHX
        have HNO:=Lib.hid hh
        clear hh
        have RX:=Lib.hid (fun (W:World) (h:Fus W (.slice ao no co) os)=>RA.out _ os x W h hok hsz hlo)
        obtain ⟨xs,xn⟩:=x
        simp only at m0 m1 hsz
        unfold fnVal at HHX RX
        go_wp2_with fail
        refine (HHX.out _ HBA.out).mono ?_;rintro e w1 ⟨rfl,hb1⟩
        have HB1:=Lib.hid (HBA.out.trans (hb1.mono (by simp;omega)))
        have HO1:=Lib.hid (HO.out.below hb1)
        obtain ⟨q0,q1,_,_⟩:=HP.out w1 (hb1.mono (by simp))
        clear hb1
        go_wp2_with fail
        refine (RX.out _ HO1.out).mono ?_;rintro e w2 ⟨v2,rfl,hv2,hb2⟩
        have HB2:=Lib.hid (below_next HB1.out hb2)
        have HV2:=Lib.hid hv2
        clear hb2 hv2
        by_cases h0:addE os (xs,xn)=0
        · have HJ2:=Lib.hid (HJ.out.trans (join_add HX.out HNO.out h0))
          have HV3:=Lib.hid (show Fus w2 v2 (os ++ [(xs,xn)]) by rw [← addL_ok h0];exact HV2.out)
          have hlo2:(os ++ [(xs,xn)]).length≤1000:=by have:=(addE_zero.1 h0).2.2;rw [List.length_append,List.length_singleton];omega
          rw [h0]
          clear h0
          go_wp2_with fail
          go_roundw
          case rel=>exact ⟨k + 1,_,by omega,by go_num,HV3.out,hlo2,HJ2,HB2.out⟩
          case measure=>simp [intOf];omega
        · have HJ2:=Lib.hid (HJ.out.trans (join_err HX.out HNO.out h0))
          obtain ⟨n,hn⟩:∃ n,addE os (xs,xn)=n:=⟨_,rfl⟩
          rw [hn] at h0 HJ2 ⊢
          have h0':(n != 0)=true:=by simpa using h0
          clear hn h0
          go_wp2_with fail
          go_ret2
          exact ⟨_,by unfold joinE;rw [HJ2.out];rfl,by unfold joinL;rw [HJ2.out];exact Fus.none_ _ _ _,HB2.out⟩
    · have hke:k=bs.length:=by omega
      have HJ2:=Lib.hid (show joinR fs fs bs=(0,os) by have h:=HJ.out;rw [hke,List.drop_length] at h;rw [h,joinR])
      have HO:=Lib.hid ho
      have HBB:=Lib.hid hb
      obtain ⟨ao,no,co,rfl⟩:∃ a n c,u6=Value.slice a n c:=by obtain ⟨a,c,h,_⟩:=ho;exact ⟨a,_,c,h⟩
      clear hke ho hb
      go_wp2_with fail
      go_ret2
      exact ⟨_,by unfold joinE;rw [HJ2.out];rfl,by unfold joinL;rw [HJ2.out];exact HO.out,HBB.out⟩
end Go.Proofs.YtjcleokfpohpdaaGreatDoor
namespace Go.Proofs.YtjcleokfpohpdaaGreatDoor
open Go.RowKit
def BdsOk (w0 wv:World) (v:Value) (bs:List Bn):Prop:=∃ a c,v=.slice a bs.length c∧bs.length≤9223372036854775807∧(bs=[]∨∃ b o,a=some ⟨b,o,none⟩∧b < wv.heap.size∧∀ (j:Nat) x,bs[j]? = some x→∃ y:Bv,y.bn=x∧y.v.ok w0∧y.s.size≤9223372036854775807∧BvAt wv b (o + j * 5) y)
theorem Bds.toOk {w0:World} {v:Value} {bs:List Bn} (h:Bds w0 v bs):BdsOk w0 w0 v bs:=by
  obtain ⟨a,c,hv,hl,h⟩:=h
  refine ⟨a,c,hv,hl.1,?_⟩
  rcases h with h | ⟨b,o,ha,hlt,h⟩
  · exact .inl h
  · refine .inr ⟨b,o,ha,hlt,fun j x hj=>?_⟩
    obtain ⟨y,h1,h2,h3⟩:=bdAt_bv (h j x hj)
    exact ⟨y,h1,h2,by have:=(h j x hj).1;rw [← h1] at this;exact this,h3⟩
set_option maxRecDepth 100000 in
set_option maxHeartbeats 4000000 in
theorem rget_ok (v:Value) (bs:List Bn) (s:ByteArray) (w0 wv w:World) (hv:BdsOk w0 wv v bs) (hb0:Below wv.heap.size wv w) :
    Calls Tryz.prog 204 #[v,.string s] w (AtPost (getB bs s) w0 w):=by
  obtain ⟨a,c,rfl,hlm,hrow⟩:=hv
  have hw:Below w.heap.size w (w.alloc (.cells #[.int .i64 0,.string ⟨#[]⟩,.int .i64 0,.slice none 0 0] 70)):=(Below.refl _ _).alloc (Nat.le_refl _) _
  have bR:=box_new w (.int .i64 0) (.string ⟨#[]⟩) (.int .i64 0) (.slice none 0 0) 70
  have HB:=Lib.hid hb0
  have HR:=Lib.hid hrow
  clear hb0 hrow
  go_enter Tryz.func204,Tryz.ntmps204
  go_wp2_with fail
  go_loopw [10] (fun i wr=>∃ k:Nat,k≤bs.length∧i=.int .i64 k∧Hid (getB (bs.take k) s=none)∧Below w.heap.size w wr∧w.heap.size + 1≤wr.heap.size∧Hid (Box wr w.heap.size (.int .i64 0) (.string ⟨#[]⟩) (.int .i64 0) (.slice none 0 0))) (fun i _=>bs.length - (intOf i).toNat)
  case atStart=>exact ⟨0,Nat.zero_le _,rfl,Lib.hid (by rw [List.take_zero];rfl),hw,by simp,Lib.hid bR⟩
  case round =>
    obtain ⟨k,hk,rfl,HN,hb,hsz,HBR⟩:=hrel
    clear bR hw
    by_cases hkl:k < bs.length
    · obtain ⟨b,o,rfl,hlt,hat⟩:=HR.out.resolve_left (by intro h;rw [h] at hkl;simp at hkl)
      obtain ⟨x,hx⟩:∃ x,bs[k]? = some x:=⟨_,List.getElem?_eq_getElem hkl⟩
      obtain ⟨y,hyx,hyo,_,hy⟩:=hat k x hx
      have hb0r:=HB.out.trans (hb.mono HB.out.size)
      obtain ⟨m0,m1,m2,m3,m4⟩:BvAt wr b (o + k * 5) y:=⟨(hb0r.cell (p:=⟨b,o + k * 5,none⟩) hlt).trans hy.c0,(hb0r.cell (p:=⟨b,o + k * 5 + 1,none⟩) hlt).trans hy.c1,(hb0r.cell (p:=⟨b,o + k * 5 + 2,none⟩) hlt).trans hy.c2,(hb0r.cell (p:=⟨b,o + k * 5 + 3,none⟩) hlt).trans hy.c3,(hb0r.cell (p:=⟨b,o + k * 5 + 4,none⟩) hlt).trans hy.c4⟩
      have hstep:=getB_take HN.out hx
      have hL:Below wr.heap.size wr (wr.alloc (.cells #[.string y.s,.int .i64 y.v.t.kind,.string y.v.t.name,.int .i64 y.v.t.n,.slice y.v.a y.v.t.args.length y.v.c] 233)):=(Below.refl _ _).alloc (Nat.le_refl _) _
      have hbL:=hb.trans (hL.mono hb.size)
      have hr:=HBR.out.below hL (by omega)
      have hzL:(wr.alloc (.cells #[.string y.s,.int .i64 y.v.t.kind,.string y.v.t.name,.int .i64 y.v.t.n,.slice y.v.a y.v.t.args.length y.v.c] 233)).heap.size=wr.heap.size + 1:=by simp
      obtain ⟨ys,⟨yt,ya,yc⟩⟩:=y
      obtain rfl:(ys,yt)=x:=hyx
      have HST:=Lib.hid hstep
      have HYO:=Lib.hid hyo
      have HBL:=Lib.hid hbL
      have HRR:=Lib.hid hr
      have hk0:(0:Int)≤(k:Int):=by omega
      have hk1:(k:Int) < (bs.length:Int):=by omega
      simp only at m0 m1 m2 m3 m4
      clear hstep hyo hy hat hx hbL hr
      cases he:(ys.toList==s.toList) with
      | true =>
        have hg:getB bs s=some yt:=getB_some (k:=k + 1) (by rw [HST.out,if_pos he])
        have HG:=Lib.hid hg
        have HB2:=Lib.hid (HRR.out.sets (.int .i64 yt.kind) (.string yt.name) (.int .i64 yt.n) (.slice ya yt.args.length yc))
        obtain ⟨q0,q1,q2,q3,f0,f1,f2,f3⟩:=HRR.out
        clear hg
        go_wp2_with fail
        obtain ⟨q0,q1,q2,q3,f0,f1,f2,f3⟩:=HB2.out
        refine bodyPost_ret (v:=.tuple #[.agg #[.int .i64 yt.kind,.string yt.name,.int .i64 yt.n,.slice ya yt.args.length yc],.bool true]) (by simp [results,Tryz.results204,go_sem,q0,q1,q2,q3]) rfl ?_
        rw [HG.out]
        exact ⟨⟨yt,ya,yc⟩,rfl,rfl,HYO.out,below_sets HBL.out (Nat.le_refl _) _ _ _ _⟩
      | false =>
        have HNN:=Lib.hid (show getB (bs.take (k + 1)) s=none by rw [HST.out,if_neg (by rw [he];simp)])
        go_wp2_with fail
        go_roundw
        case rel=>exact ⟨k + 1,by omega,by go_num,HNN,HBL.out,by rw [hzL];omega,HRR⟩
        case measure=>simp [intOf];omega
    · have hke:k=bs.length:=by omega
      have hkd:decide ((k:Int) < (bs.length:Int))=false:=decide_eq_false (by omega)
      have hkl1:bs.length≤k:=by omega
      have HG:=Lib.hid (show getB bs s=none by have h:=HN.out;rw [hke,List.take_length] at h;exact h)
      have HB2:=Lib.hid (HBR.out.sets (.int .i64 0) (.string ⟨#[]⟩) (.int .i64 0) (.slice none 0 0))
      have HBE:=Lib.hid hb
      obtain ⟨q0,q1,q2,q3,f0,f1,f2,f3⟩:=HBR.out
      clear hke hb
      go_wp2_with fail
      obtain ⟨q0,q1,q2,q3,f0,f1,f2,f3⟩:=HB2.out
      refine bodyPost_ret (v:=.tuple #[.agg #[.int .i64 0,.string ⟨#[]⟩,.int .i64 0,.slice none 0 0],.bool false]) (by simp [results,Tryz.results204,go_sem,q0,q1,q2,q3]) rfl ?_
      rw [HG.out]
      exact ⟨zeroV,rfl,rfl,zeroV_ok _,below_sets HBE.out (Nat.le_refl _) _ _ _ _⟩
end Go.Proofs.YtjcleokfpohpdaaGreatDoor
