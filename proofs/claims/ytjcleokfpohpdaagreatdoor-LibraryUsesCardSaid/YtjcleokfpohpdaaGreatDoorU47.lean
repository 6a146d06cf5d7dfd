/-
  Whether a theory is small: the reference's Few.
  Any theory with a primitive behind: the law answers true, from what the program's Use and the reference's answer.
  LibraryUses holds for package library as it landed.
  The program's types are laid out in memory. Nothing of its functions.
  An argument that is a term reads as a term; one that is a slice of terms, as a row of terms.
  An argument that is a function reads as a function; one that is a slice of functions, as a row of functions.
  An argument that is a theory reads as functions and rules.
-/
import Derived.Test.YtjcleokfpohpdaaGreatDoorU33
import Derived.Test.YtjcleokfpohpdaaGreatDoorU45
import Derived.Test.YtjcleokfpohpdaaGreatDoorRows
import Derived.Deep.Slices
import Derived.ChangeSame
import Derived.Carry
import Derived.OpenShut
import Derived.Test.YtjcleokfpohpdaaGreatDoorU01
import Derived.Test.YtjcleokfpohpdaaGreatDoorU07
import Derived.Test.YtjcleokfpohpdaaGreatDoorU32
namespace Go.Proofs.YtjcleokfpohpdaaGreatDoor
open Go.RowKit
set_option maxRecDepth 100000 in
set_option maxHeartbeats 4000000 in
theorem rfewt_any (x:Yv) (w:World) (hx:x.ok w) :
    Calls Tryz.prog 41 #[x.val] w fun e w'=>e=.returned (.bool (fewT x.fs x.rs))∧Below w.heap.size w w':=by
  obtain ⟨vf,vr,fs,rs⟩:=x
  obtain ⟨hf,hr⟩:=hx
  simp only at hf hr
  unfold Yv.val
  simp only
  have CF:=Lib.hid (fun (W:World) (hb:Below w.heap.size w W)=>rfewf_any vf fs W (hf.below hb))
  obtain ⟨a1,c1,rfl,_⟩:=hf
  obtain ⟨a3,c3,rfl,_,hro⟩:=hr
  have HRO:=Lib.hid hro
  have hB0:Below w.heap.size w (w.alloc (.cells #[.slice a1 fs.length c1,.slice a3 rs.length c3] 26)):=(Below.refl _ _).alloc (Nat.le_refl _) _
  have HB0:=Lib.hid hB0
  have HC1:=Lib.hid (fun (W:World) (h:Below (w.alloc (.cells #[.slice a1 fs.length c1,.slice a3 rs.length c3] 26)).heap.size (w.alloc (.cells #[.slice a1 fs.length c1,.slice a3 rs.length c3] 26)) W)=>(h.cell (p:=⟨w.heap.size,1,none⟩) (by simp)).trans (World.cell?_alloc_mark w #[.slice a1 fs.length c1,.slice a3 rs.length c3] 26 (0,0) 1))
  have HFT:=Lib.hid (show fewT fs rs=(fewF fs&&(decide ((rs.length:Int)≤30)&&rs.all shortRl)) from rfl)
  clear hro hB0
  cases hq:fewF fs with
  | false =>
    rw [hq] at CF HFT
    clear hq HC1
    go_enter Tryz.func41,Tryz.ntmps41
    go_wp2_with fail
    refine (CF.out _ HB0.out).mono ?_;rintro e w1 ⟨rfl,hb1⟩
    go_wp2_with fail
    go_ret
    exact ⟨ret_bool (by rw [HFT.out];rfl),below_next HB0.out hb1⟩
  | true =>
    rw [hq] at CF HFT
    clear hq
    by_cases hl:(30:Int) < (rs.length:Int)
    · have HT:=Lib.hid (show fewT fs rs=false by rw [HFT.out,decide_eq_false (show ¬ (rs.length:Int)≤30 by omega)];rfl)
      have hgt:decide ((30:Int) < (rs.length:Int))=true:=decide_eq_true hl
      go_enter Tryz.func41,Tryz.ntmps41
      go_wp2_with fail
      refine (CF.out _ HB0.out).mono ?_;rintro e w1 ⟨rfl,hb1⟩
      have k1:=HC1.out w1 hb1
      have HB1:=Lib.hid (below_next HB0.out hb1)
      clear hb1
      go_wp2_with fail
      go_ret
      exact ⟨ret_bool HT.out.symm,HB1.out⟩
    · have HA:=Lib.hid (show fewT fs rs=rs.all shortRl by rw [HFT.out,decide_eq_true (show (rs.length:Int)≤30 by omega)];rfl)
      go_enter Tryz.func41,Tryz.ntmps41
      go_wp2_with fail
      refine (CF.out _ HB0.out).mono ?_;rintro e w1 ⟨rfl,hb1⟩
      have k1:=HC1.out w1 hb1
      have HB1:=Lib.hid (below_next HB0.out hb1)
      clear hb1
      go_wp2_with fail
      go_loopw [18] (fun i wr=>∃ j:Nat,j≤rs.length∧i=.int .i64 j∧Hid (ShortRs rs j)∧Below w.heap.size w wr) (fun i _=>rs.length - (intOf i).toNat)
      case atStart=>exact ⟨0,Nat.zero_le _,rfl,Lib.hid (fun j x hj=>by omega),HB1.out⟩
      case round =>
        obtain ⟨j,hj,rfl,HSH,hb⟩:=hrel
        have HB:=Lib.hid hb
        by_cases hj1:j < rs.length
        · have hi1:(j:Int) < (rs.length:Int):=by omega
          have hi0:(0:Int)≤(j:Int):=by omega
          rcases HRO.out with h | ⟨b,o,rfl,hlt,hX⟩
          · rw [h] at hj1;cases hj1
          obtain ⟨y,hyt,hyk,hya⟩:=rlAt_qv (hX j _ (List.getElem?_eq_getElem hj1))
          obtain ⟨m0,m1,m2,m3,m4,m5,m6,m7⟩:=hya.below hb
          have hba:Below wr.heap.size wr (wr.alloc (.cells y.cells.toArray 82)):=(Below.refl _ _).alloc (Nat.le_refl _) _
          have hbx:=eight_box wr y 82
          have HK:=Lib.hid (show rs[j]? = some y.rl by rw [List.getElem?_eq_getElem hj1,hyt])
          have CL:=Lib.hid (fun (W:World) (h:Below w.heap.size w W)=>within_tm y.l 100 (by decide) (by decide) W (hyk.1.below h))
          have CR:=Lib.hid (fun (W:World) (h:Below w.heap.size w W)=>within_tm y.r 100 (by decide) (by decide) W (hyk.2.below h))
          have HQ:=Lib.hid (show shortRl y.rl=(withinB y.l.t 100&&withinB y.r.t 100) from rfl)
          unfold Tv.val at CL CR
          unfold Qv.cells at hba hbx
          have HBA:=Lib.hid (below_next HB.out hba)
          have HBX:=Lib.hid (fun (W:World) (h:Below (wr.alloc (.cells [.int .i64 y.l.t.kind,.string y.l.t.name,.int .i64 y.l.t.n,.slice y.l.a y.l.t.args.length y.l.c,.int .i64 y.r.t.kind,.string y.r.t.name,.int .i64 y.r.t.n,.slice y.r.a y.r.t.args.length y.r.c].toArray 82)).heap.size (wr.alloc (.cells [.int .i64 y.l.t.kind,.string y.l.t.name,.int .i64 y.l.t.n,.slice y.l.a y.l.t.args.length y.l.c,.int .i64 y.r.t.kind,.string y.r.t.name,.int .i64 y.r.t.n,.slice y.r.a y.r.t.args.length y.r.c].toArray 82)) W)=>hbx.below h)
          obtain ⟨p,hp⟩:∃ p,withinB y.l.t 100=p:=⟨_,rfl⟩
          obtain ⟨q,hqq⟩:∃ q,withinB y.r.t 100=q:=⟨_,rfl⟩
          rw [hp] at CL HQ
          rw [hqq] at CR HQ
          clear hX hyt hyk hya hba hbx hp hqq hb
          cases p with
          | false =>
            have HT:=Lib.hid (show fewT fs rs=false by rw [HA.out];exact shortRs_bad HK.out (by rw [HQ.out];rfl))
            clear CR
            go_wp2_with fail
            refine (CL.out _ HBA.out).mono ?_;rintro e w2 ⟨rfl,hb2⟩
            have HB2:=Lib.hid (below_next HBA.out hb2)
            clear hb2
            go_wp2_with fail
            go_ret
            exact ⟨ret_bool HT.out.symm,HB2.out⟩
          | true =>
            go_wp2_with fail
            refine (CL.out _ HBA.out).mono ?_;rintro e w2 ⟨rfl,hb2⟩
            obtain ⟨p0,p1,p2,p3,p4,p5,p6,p7⟩:=HBX.out w2 hb2
            have HB2:=Lib.hid (below_next HBA.out hb2)
            clear hb2
            go_wp2_with fail
            refine (CR.out _ HB2.out).mono ?_;rintro e w3 ⟨rfl,hb3⟩
            have HB3:=Lib.hid (below_next HB2.out hb3)
            clear hb3
            cases q with
            | false =>
              have HT:=Lib.hid (show fewT fs rs=false by rw [HA.out];exact shortRs_bad HK.out (by rw [HQ.out];rfl))
              go_wp2_with fail
              go_ret
              exact ⟨ret_bool HT.out.symm,HB3.out⟩
            | true =>
              have HN:=Lib.hid (HSH.out.succ HK.out (by rw [HQ.out];rfl))
              go_wp2_with fail
              go_roundw
              case rel=>exact ⟨j + 1,by omega,by go_num,HN,HB3.out⟩
              case measure=>simp [intOf];omega
        · obtain rfl:j=rs.length:=by omega
          have hi1:decide ((rs.length:Int) < (rs.length:Int))=false:=decide_eq_false (by omega)
          have HT:=Lib.hid (show fewT fs rs=true by rw [HA.out];exact HSH.out.all)
          go_wp2_with fail
          go_ret
          exact ⟨ret_bool HT.out.symm,HB.out⟩
end Go.Proofs.YtjcleokfpohpdaaGreatDoor
namespace Go.Proofs.YtjcleokfpohpdaaGreatDoor
open Go.RowKit
def AskUse (w:World):Prop:=∀ (y:Yv) (s:ByteArray) (W:World),Below w.heap.size w W→y.ok W→fewT y.fs y.rs=true→s.size≤100→Calls Tryz.prog 42 #[y.val,.string s] W (UsePost y.fs y.rs s W)
def AskRUse (w:World):Prop:=∀ (y:Yv) (s:ByteArray) (W:World),Below w.heap.size w W→y.ok W→fewT y.fs y.rs=true→s.size≤100→Calls Tryz.prog 43 #[y.val,.string s] W (UsePost y.fs y.rs s W)
def Awake12 (w:World):Prop:=∀ W,Below w.heap.size w W→Calls Tryz.prog 33 #[] W fun e w'=>e=.returned (.bool true)∧Below W.heap.size W w'
set_option maxRecDepth 100000 in
set_option maxHeartbeats 4000000 in
theorem lawUses12_of (w:World) (AW0:Awake12 w) (U:AskUse w) (R:AskRUse w) (y:Yv) (s:ByteArray) (hy:y.ok w) :
    Calls Tryz.prog 8 #[y.val,.string s] w fun e w'=>e=.returned (.bool true)∧Below w.heap.size w w':=by
  have AW:=Lib.hid AW0
  unfold Awake12 at AW
  have FW:=Lib.hid (fun (W:World) (hb:Below w.heap.size w W)=>rfewt_any y W (hy.below hb))
  obtain ⟨bf,hbf⟩:∃ b,fewT y.fs y.rs=b:=⟨_,rfl⟩
  rw [hbf] at FW
  have HY:=Lib.hid hy
  obtain ⟨a1,c1,e1,_⟩:=hy.funs
  obtain ⟨a2,c2,e2,_⟩:=hy.rules
  have hval:y.val=.agg #[.slice a1 y.fs.length c1,.slice a2 y.rs.length c2]:=by unfold Yv.val;rw [e1,e2]
  have hB0:Below w.heap.size w (w.alloc (.cells #[.slice a1 y.fs.length c1,.slice a2 y.rs.length c2] 26)):=(Below.refl _ _).alloc (Nat.le_refl _) _
  have h0:=World.cell?_alloc_mark w #[.slice a1 y.fs.length c1,.slice a2 y.rs.length c2] 26 (0,0) 0
  have h1:=World.cell?_alloc_mark w #[.slice a1 y.fs.length c1,.slice a2 y.rs.length c2] 26 (0,0) 1
  have hz:(w.alloc (.cells #[.slice a1 y.fs.length c1,.slice a2 y.rs.length c2] 26)).heap.size=w.heap.size + 1:=by simp
  obtain ⟨wz,hwz⟩:∃ wz,w.alloc (.cells #[.slice a1 y.fs.length c1,.slice a2 y.rs.length c2] 26)=wz:=⟨_,rfl⟩
  rw [hwz] at hB0 h0 h1 hz
  have HC:=Lib.hid (fun (W:World) (h:Below wz.heap.size wz W)=>(show Below w.heap.size w W∧W.cell? ⟨w.heap.size,0,none⟩=some (.slice a1 y.fs.length c1)∧W.cell? ⟨w.heap.size,1,none⟩=some (.slice a2 y.rs.length c2) from
    ⟨below_next hB0 h,(h.cell (p:=⟨w.heap.size,0,none⟩) (by show w.heap.size < _;omega)).trans h0,(h.cell (p:=⟨w.heap.size,1,none⟩) (by show w.heap.size < _;omega)).trans h1⟩))
  have HW:=Lib.hid hwz
  have B0:=Lib.hid (Below.refl wz.heap.size wz)
  clear hB0 h0 h1 hz hwz
  cases bf with
  | false =>
    rw [hval] at FW ⊢
    clear U R AW0 hbf
    go_enter Tryz.func8,Tryz.ntmps8
    go_wp2_with fail
    rw [HW.out]
    obtain ⟨hb0,_,_⟩:=HC.out _ B0.out
    refine (AW.out _ hb0).mono ?_;rintro e w1 ⟨rfl,hb1⟩
    have HB1:=Lib.hid (below_next B0.out hb1)
    obtain ⟨hw1,k0,k1⟩:=HC.out _ HB1.out
    clear hb1 hb0
    go_wp2_with fail
    refine (FW.out _ hw1).mono ?_;rintro e w2 ⟨rfl,hb2⟩
    have HB2:=Lib.hid (below_next HB1.out hb2)
    clear hb2 k0 k1 hw1
    obtain ⟨hw2,k0,k1⟩:=HC.out _ HB2.out
    go_wp2_with fail
    go_ret
    exact ⟨rfl,hw2⟩
  | true =>
    rcases Int.lt_or_le 100 (s.size:Int) with hs | hs
    · have hd:decide ((100:Int) < (s.size:Int))=true:=decide_eq_true hs
      rw [hval] at FW ⊢
      clear U R AW0 hbf
      go_enter Tryz.func8,Tryz.ntmps8
      go_wp2_with fail
      rw [HW.out]
      obtain ⟨hb0,_,_⟩:=HC.out _ B0.out
      refine (AW.out _ hb0).mono ?_;rintro e w1 ⟨rfl,hb1⟩
      have HB1:=Lib.hid (below_next B0.out hb1)
      obtain ⟨hw1,k0,k1⟩:=HC.out _ HB1.out
      clear hb1 hb0
      go_wp2_with fail
      refine (FW.out _ hw1).mono ?_;rintro e w2 ⟨rfl,hb2⟩
      have HB2:=Lib.hid (below_next HB1.out hb2)
      clear hb2 k0 k1 hw1
      obtain ⟨hw2,k0,k1⟩:=HC.out _ HB2.out
      go_wp2_with fail
      go_ret
      exact ⟨rfl,hw2⟩
    · have hd:decide ((100:Int) < (s.size:Int))=false:=decide_eq_false (by omega)
      have CU:=Lib.hid (fun (W:World) (hb:Below w.heap.size w W)=>U y s W hb (HY.out.below hb) hbf (by omega))
      have CR:=Lib.hid (fun (W:World) (hb:Below w.heap.size w W)=>R y s W hb (HY.out.below hb) hbf (by omega))
      unfold UsePost at CU CR
      obtain ⟨⟨ee,ff,rr⟩,hu⟩:∃ u,useS y.fs y.rs s=u:=⟨_,rfl⟩
      rw [hu] at CU CR
      simp only at CU CR
      have q0:(ee==ee)=true:=by simp
      have TH:=Lib.hid (fun (W:World) (u v:Yv) (h1:u.fs=ff) (h2:u.rs=rr) (h3:v.fs=ff) (h4:v.rs=rr) (hu:u.ok W) (hv:v.ok W)=>(rthy_any u v W hu hv).mono fun e w' hh=>(show e=.returned (.bool true)∧Below W.heap.size W w' from ⟨by rw [hh.1,h1,h2,h3,h4,eqF_yes rfl,eqRs_true rfl];rfl,hh.2⟩))
      rw [hval] at FW CU CR ⊢
      clear U R AW0 hbf hu
      go_enter Tryz.func8,Tryz.ntmps8
      go_wp2_with fail
      rw [HW.out]
      obtain ⟨hb0,_,_⟩:=HC.out _ B0.out
      refine (AW.out _ hb0).mono ?_;rintro e w1 ⟨rfl,hb1⟩
      have HB1:=Lib.hid (below_next B0.out hb1)
      obtain ⟨hw1,k0,k1⟩:=HC.out _ HB1.out
      clear hb1 hb0
      go_wp2_with fail
      refine (FW.out _ hw1).mono ?_;rintro e w2 ⟨rfl,hb2⟩
      have HB2:=Lib.hid (below_next HB1.out hb2)
      clear hb2 k0 k1 hw1
      obtain ⟨hw2,k0,k1⟩:=HC.out _ HB2.out
      go_wp2_with fail
      refine (CU.out _ hw2).mono ?_;rintro e w3 ⟨u,rfl,hu1,hu2,huo,hb3⟩
      have HB3:=Lib.hid (below_next HB2.out hb3)
      obtain ⟨a3,c3,e3,_⟩:=huo.funs
      obtain ⟨a4,c4,e4,_⟩:=huo.rules
      have hvu:u.val=.agg #[.slice a3 u.fs.length c3,.slice a4 u.rs.length c4]:=by unfold Yv.val;rw [e3,e4]
      have HU:=Lib.hid huo
      have HVU:=Lib.hid hvu
      have HU1:=Lib.hid hu1
      have HU2:=Lib.hid hu2
      rw [hvu]
      have HB4:=Lib.hid (HB3.out.alloc HB3.out.size (.cells #[.slice a3 u.fs.length c3,.slice a4 u.rs.length c4] 26))
      have g0:=World.cell?_alloc_mark w3 #[.slice a3 u.fs.length c3,.slice a4 u.rs.length c4] 26 (0,0) 0
      have g1:=World.cell?_alloc_mark w3 #[.slice a3 u.fs.length c3,.slice a4 u.rs.length c4] 26 (0,0) 1
      have hz3:(w3.alloc (.cells #[.slice a3 u.fs.length c3,.slice a4 u.rs.length c4] 26)).heap.size=w3.heap.size + 1:=by simp
      have hu4:u.ok (w3.alloc (.cells #[.slice a3 u.fs.length c3,.slice a4 u.rs.length c4] 26)):=huo.below ((Below.refl _ _).alloc (Nat.le_refl _) _)
      have HG:=Lib.hid (fun (W:World) (h:Below (w3.alloc (.cells #[.slice a3 u.fs.length c3,.slice a4 u.rs.length c4] 26)).heap.size (w3.alloc (.cells #[.slice a3 u.fs.length c3,.slice a4 u.rs.length c4] 26)) W)=>(show W.cell? ⟨w3.heap.size,0,none⟩=some (.slice a3 u.fs.length c3)∧W.cell? ⟨w3.heap.size,1,none⟩=some (.slice a4 u.rs.length c4)∧u.ok W from
        ⟨(h.cell (p:=⟨w3.heap.size,0,none⟩) (by show w3.heap.size < _;omega)).trans g0,(h.cell (p:=⟨w3.heap.size,1,none⟩) (by show w3.heap.size < _;omega)).trans g1,hu4.below h⟩))
      clear hb3 huo hu1 hu2 hvu e3 e4 k0 k1 hw2 g0 g1 hu4 HU
      obtain ⟨hw4,k0,k1⟩:=HC.out _ HB4.out
      go_wp2_with fail
      refine (CR.out _ hw4).mono ?_;rintro e w5 ⟨v,rfl,hv1,hv2,hvo,hb5⟩
      obtain ⟨j0,j1,hu5⟩:=HG.out w5 hb5
      obtain ⟨a5,c5,e5,_⟩:=hvo.funs
      obtain ⟨a6,c6,e6,_⟩:=hvo.rules
      have hvv:v.val=.agg #[.slice a5 v.fs.length c5,.slice a6 v.rs.length c6]:=by unfold Yv.val;rw [e5,e6]
      have HB5:=Lib.hid (below_next HB4.out hb5)
      have hb6:Below w5.heap.size w5 (w5.alloc (.cells #[.slice a5 v.fs.length c5,.slice a6 v.rs.length c6] 26)):=(Below.refl _ _).alloc (Nat.le_refl _) _
      obtain ⟨i0,i1,hu6⟩:=HG.out _ (below_next hb5 hb6)
      have T:=TH.out _ u v HU1.out HU2.out hv1 hv2 hu6 (hvo.below hb6)
      rw [HVU.out,hvv] at T
      have HT:=Lib.hid T
      have HB6:=Lib.hid (below_next HB5.out hb6)
      rw [hvv]
      clear k0 k1 hw4 hb5 hb6 hu5 hu6 hvo hv1 hv2 hvv e5 e6 T HG hz3
      go_wp2_with fail
      refine HT.out.mono ?_;rintro e w7 ⟨rfl,hb7⟩
      go_wp2_with fail
      go_ret
      exact ⟨rfl,(HC.out _ (below_next HB6.out hb7)).1⟩
end Go.Proofs.YtjcleokfpohpdaaGreatDoor
namespace Go.Proofs.YtjcleokfpohpdaaGreatDoor
open Go.RowKit
theorem lawUses12_any (y:Yv) (s:ByteArray) (w:World) (hy:y.ok w) (hT:Pow w) :
    Calls Tryz.prog 8 #[y.val,.string s] w fun e w'=>e=.returned (.bool true)∧Below w.heap.size w w' :=
  lawUses12_of w (fun W hb=>awake12_any W (hT.below hb)) (fun y s W hb hy hf _=>puse_any y s W (hT.below hb) hy (modY_few hf)) (fun y s W _ hy hf _=>ruse_any y s W hy (modY_few hf)) y s hy
end Go.Proofs.YtjcleokfpohpdaaGreatDoor
namespace Go.Proofs.YtjcleokfpohpdaaGreatDoor
open Go.ChangeShapes Go.WideShapes Go.RowKit Go.Deep
theorem laidOut:laidOutB Tryz.prog=true:=by kernel_rfl
end Go.Proofs.YtjcleokfpohpdaaGreatDoor
namespace Go.Proofs.YtjcleokfpohpdaaGreatDoor
open Go.ChangeShapes Go.WideShapes Go.RowKit Go.Deep
theorem cellsTerm : Tryz.prog.cellsOf 70=4:=by kernel_rfl
theorem cellsInt : Tryz.prog.cellsOf 3=1:=by kernel_rfl
theorem cellsString : Tryz.prog.cellsOf 9=1:=by kernel_rfl
theorem cellsTerms : Tryz.prog.cellsOf 63=1:=by kernel_rfl
instance:Inhabited Tv:=⟨⟨default,none,0⟩⟩
section
variable {H:Type} {enc:TypeId × Value→H} {w:World} {base:Nat} {spare:Nat→Bool} {held:Bool}
theorem tvAt_cells {a:Addr} {v:Tv} (h:w.cells? base a 4=some v.cells):w.cell? (a.add 0)=some (.int .i64 v.t.kind)∧w.cell? (a.add 1)=some (.string v.t.name)∧w.cell? (a.add 2)=some (.int .i64 v.t.n)∧w.cell? (a.add 3)=some (.slice v.a v.t.args.length v.c):=by
  obtain ⟨_,_,hat⟩:=World.cells?_some h
  exact ⟨by rw [hat 0 (by omega)];rfl,by rw [hat 1 (by omega)];rfl,by rw [hat 2 (by omega)];rfl,by rw [hat 3 (by omega)];rfl⟩
theorem args_of {fuel:Nat} (ih:∀ n,n < fuel→∀ (cs:List Value) (x:DataW H × List MemPlace),DataW.trod enc Tryz.prog w base spare held n 70 cs=some x→∃ v:Tv,cs=v.cells∧v.ok w)
    {u:Value} {x:DataW H × List MemPlace} (h:DataW.trod enc Tryz.prog w base spare held fuel 63 [u]=some x):∃ (a:Option Addr) (c:Nat) (ts:List Tm),u=.slice a ts.length c∧Args w a c ts:=by
  rcases DataW.trod_slice Tryz.underlying63 h with ⟨hcs,_⟩ | ⟨a,len,cap,elems,rest,n,rfl,hcs,_,_,hl,hm,hlen,hel,_,_⟩
  · simp at hcs
    subst hcs
    exact ⟨none,0,[],rfl,by simp,.inl rfl⟩
  · simp at hcs
    subst hcs
    have each:∀ i,i < len→∃ v:Tv,v.ok w∧w.cells? base (a.add (i * 4)) 4=some v.cells:=fun i hi=>by
      have h1:=hel i hi
      rw [List.getElem?_eq_getElem (by omega),cellsTerm] at h1
      obtain ⟨cs',h2,h3⟩:=Option.bind_eq_some_iff.1 h1
      obtain ⟨v,rfl,hv⟩:=ih n (by omega) cs' _ h3
      exact ⟨v,hv,h2⟩
    obtain ⟨T,hT⟩:=choose_lt each
    refine ⟨some a,cap,(List.range len).map fun i=>(T i).t,by simp,⟨by simp;unfold maxLen at hm;omega,by simpa using hl⟩,?_⟩
    by_cases h0:len=0
    · left;simp [h0]
    · right
      obtain ⟨b,off,spot⟩:=a
      have hspot:spot=none:=by
        have:=World.cell?_spot (tvAt_cells (hT 0 (by omega)).2).1
        simpa [Addr.add] using this
      subst hspot
      have cells:∀ i,i < len→TvAt w b (off + i * 4) (T i):=fun i hi=>by
        obtain ⟨c0,c1,c2,c3⟩:=tvAt_cells (hT i hi).2
        rw [add_plain,add_plain] at c0 c1 c2 c3
        exact ⟨by simpa using c0,c1,c2,c3⟩
      refine ⟨b,off,rfl,lt_of_cell (cells 0 (by omega)).c0,rowAt_of fun {j} hj=>?_⟩
      have hjl:j < len:=by simpa using hj
      rw [List.getElem_map,List.getElem_range]
      exact tv_tmAt (hT j hjl).1 (cells j hjl)
set_option maxRecDepth 100000 in
theorem tv_of_trod:∀ (fuel:Nat) (cs:List Value) (x:DataW H × List MemPlace),DataW.trod enc Tryz.prog w base spare held fuel 70 cs=some x→∃ v:Tv,cs=v.cells∧v.ok w:=by
  intro fuel
  induction fuel using Nat.strongRecOn with
  | ind fuel ih =>
    intro cs x h
    have hl:cs.length=4:=by
      obtain ⟨xs,m,_,_,hl,_⟩:=DataW.trod_struct Tryz.underlying70 h
      rw [hl,cellsTerm]
    obtain ⟨xs,m,hm,_,_,hxl,hf⟩:=DataW.trod_struct Tryz.underlying70 h
    match cs,hl with
    | [c0,c1,c2,c3],_ =>
      match xs,hxl with
      | [x0,x1,x2,x3],_ =>
        have f0:DataW.trod enc Tryz.prog w base spare held m 3 (([c0,c1,c2,c3].drop 0).take (Tryz.prog.cellsOf 3))=some x0:=hf 0 _ rfl
        have f1:DataW.trod enc Tryz.prog w base spare held m 9 (([c0,c1,c2,c3].drop 1).take (Tryz.prog.cellsOf 9))=some x1:=hf 1 _ rfl
        have f2:DataW.trod enc Tryz.prog w base spare held m 3 (([c0,c1,c2,c3].drop 2).take (Tryz.prog.cellsOf 3))=some x2:=hf 2 _ rfl
        have f3:DataW.trod enc Tryz.prog w base spare held m 63 (([c0,c1,c2,c3].drop 3).take (Tryz.prog.cellsOf 63))=some x3:=hf 3 _ rfl
        rw [cellsInt] at f0 f2
        rw [cellsString] at f1
        rw [cellsTerms] at f3
        obtain ⟨k,e0,_,wk⟩:=DataW.trod_int Tryz.underlying3 f0
        obtain ⟨s,e1,_,ws⟩:=DataW.trod_string Tryz.underlying9 f1
        obtain ⟨n,e2,_,wn⟩:=DataW.trod_int Tryz.underlying3 f2
        have f3':DataW.trod enc Tryz.prog w base spare held m 63 [c3]=some x3:=f3
        obtain ⟨a,c,ts,e3,ha⟩:=args_of (fun q hq=>ih q (by omega)) f3'
        obtain rfl:c0=.int .i64 k:=by simpa using e0
        obtain rfl:c1=.string s:=by simpa using e1
        obtain rfl:c2=.int .i64 n:=by simpa using e2
        have bk:=bounds_i64 wk
        have bn:=bounds_i64 wn
        subst e3
        exact ⟨⟨.mk k s n ts,a,c⟩,rfl,⟨bk.1,bk.2,bn.1,bn.2,by unfold maxLen at ws;exact ws⟩,ha⟩
end
end Go.Proofs.YtjcleokfpohpdaaGreatDoor
namespace Go.Proofs.YtjcleokfpohpdaaGreatDoor
open Go.ChangeShapes Go.WideShapes Go.RowKit Go.Deep
theorem cellsFun : Tryz.prog.cellsOf 140=2:=by kernel_rfl
def fnCells (f:Fn):List Value:=[.string f.1,.int .i64 f.2]
instance inhabFnOpen:Inhabited Fn:=⟨(ByteArray.empty,0)⟩
section
variable {H:Type} {enc:TypeId × Value→H} {w:World}
theorem fnAt_cells {a:Addr} {f:Fn} {base:Nat} (h:w.cells? base a 2=some (fnCells f)):w.cell? (a.add 0)=some (.string f.1)∧w.cell? (a.add 1)=some (.int .i64 f.2):=by
  obtain ⟨_,_,hat⟩:=World.cells?_some h
  exact ⟨by rw [hat 0 (by omega)];rfl,by rw [hat 1 (by omega)];rfl⟩
set_option maxRecDepth 100000 in
theorem fn_of_trod (fuel:Nat) (cs:List Value) (x:DataW H × List MemPlace) (h:DataW.trod enc Tryz.prog w 0 (fun _=>true) true fuel 140 cs=some x):∃ f:Fn,cs=fnCells f∧FnOk f:=by
  have hl:cs.length=2:=by
    obtain ⟨xs,m,_,_,hl,_⟩:=DataW.trod_struct Tryz.underlying140 h
    rw [hl,cellsFun]
  obtain ⟨xs,m,hm,_,_,hxl,hf⟩:=DataW.trod_struct Tryz.underlying140 h
  match cs,hl with
  | [c0,c1],_ =>
    match xs,hxl with
    | [x0,x1],_ =>
      have f0:DataW.trod enc Tryz.prog w 0 (fun _=>true) true m 9 (([c0,c1].drop 0).take (Tryz.prog.cellsOf 9))=some x0:=hf 0 _ rfl
      have f1:DataW.trod enc Tryz.prog w 0 (fun _=>true) true m 3 (([c0,c1].drop 1).take (Tryz.prog.cellsOf 3))=some x1:=hf 1 _ rfl
      rw [cellsString] at f0
      rw [cellsInt] at f1
      obtain ⟨s,e0,_,ws⟩:=DataW.trod_string Tryz.underlying9 f0
      obtain ⟨n,e1,_,wn⟩:=DataW.trod_int Tryz.underlying3 f1
      obtain rfl:c0=.string s:=by simpa using e0
      obtain rfl:c1=.int .i64 n:=by simpa using e1
      have bn:=bounds_i64 wn
      exact ⟨(s,n),rfl,⟨by unfold maxLen at ws;exact ws,bn.1,bn.2⟩⟩
end
end Go.Proofs.YtjcleokfpohpdaaGreatDoor
namespace Go.Proofs.YtjcleokfpohpdaaGreatDoor
open Go.ChangeShapes Go.WideShapes Go.RowKit Go.Deep
theorem cellsRule : Tryz.prog.cellsOf 82=8:=by kernel_rfl
theorem cellsThy : Tryz.prog.cellsOf 26=2:=by kernel_rfl
theorem cellsFuns : Tryz.prog.cellsOf 23=1:=by kernel_rfl
theorem cellsRules : Tryz.prog.cellsOf 24=1:=by kernel_rfl
instance inhabQvOpen:Inhabited Qv:=⟨⟨default,default⟩⟩
section
variable {H:Type} {enc:TypeId × Value→H} {w:World} {base:Nat} {spare:Nat→Bool} {held:Bool}
theorem qvAt_cells {a:Addr} {v:Qv} (h:w.cells? base a 8=some v.cells):w.cell? (a.add 0)=some (.int .i64 v.l.t.kind)∧w.cell? (a.add 1)=some (.string v.l.t.name)∧w.cell? (a.add 2)=some (.int .i64 v.l.t.n)∧w.cell? (a.add 3)=some (.slice v.l.a v.l.t.args.length v.l.c) ∧
    w.cell? (a.add 4)=some (.int .i64 v.r.t.kind)∧w.cell? (a.add 5)=some (.string v.r.t.name)∧w.cell? (a.add 6)=some (.int .i64 v.r.t.n)∧w.cell? (a.add 7)=some (.slice v.r.a v.r.t.args.length v.r.c):=by
  obtain ⟨_,_,hat⟩:=World.cells?_some h
  exact ⟨by rw [hat 0 (by omega)];rfl,by rw [hat 1 (by omega)];rfl,by rw [hat 2 (by omega)];rfl,by rw [hat 3 (by omega)];rfl,by rw [hat 4 (by omega)];rfl,by rw [hat 5 (by omega)];rfl,by rw [hat 6 (by omega)];rfl,by rw [hat 7 (by omega)];rfl⟩
set_option maxRecDepth 100000 in
theorem qv_of_trod (fuel:Nat) (cs:List Value) (x:DataW H × List MemPlace) (h:DataW.trod enc Tryz.prog w base spare held fuel 82 cs=some x):∃ v:Qv,cs=v.cells∧v.ok w:=by
  have hl:cs.length=8:=by
    obtain ⟨xs,m,_,_,hl,_⟩:=DataW.trod_struct Tryz.underlying82 h
    rw [hl,cellsRule]
  obtain ⟨xs,m,hm,_,_,hxl,hf⟩:=DataW.trod_struct Tryz.underlying82 h
  match cs,hl with
  | [c0,c1,c2,c3,c4,c5,c6,c7],_ =>
    match xs,hxl with
    | [x0,x1],_ =>
      have f0:DataW.trod enc Tryz.prog w base spare held m 70 (([c0,c1,c2,c3,c4,c5,c6,c7].drop 0).take (Tryz.prog.cellsOf 70))=some x0:=hf 0 _ rfl
      have f1:DataW.trod enc Tryz.prog w base spare held m 70 (([c0,c1,c2,c3,c4,c5,c6,c7].drop 4).take (Tryz.prog.cellsOf 70))=some x1:=hf 1 _ rfl
      rw [cellsTerm] at f0 f1
      obtain ⟨u,e0,hu⟩:=tv_of_trod m _ _ f0
      obtain ⟨v,e1,hv⟩:=tv_of_trod m _ _ f1
      have e2:[c0,c1,c2,c3]=u.cells:=e0
      have e3:[c4,c5,c6,c7]=v.cells:=e1
      refine ⟨⟨u,v⟩,?_,hu,hv⟩
      show [c0,c1,c2,c3] ++ [c4,c5,c6,c7]=_
      rw [e2,e3];rfl
end
section
variable {H:Type} {enc:TypeId × Value→H} {W:World}
set_option maxRecDepth 100000 in
theorem rules_of_trod (fuel:Nat) (c:Value) (x:DataW H × List MemPlace) (hf:DataW.trod enc Tryz.prog W 0 (fun _=>true) true fuel 24 [c]=some x):∃ rs,Rls W c rs:=by
  rcases DataW.trod_slice Tryz.underlying24 hf with ⟨hcs,_⟩ | ⟨a,len,cap,elems,rest,n,rfl,hcs,_,_,hl,hm,hlen,hel,_,_⟩
  · rw [List.singleton_inj.1 hcs]
    exact ⟨[],Rls.none_ _ _ _⟩
  · obtain rfl:=List.singleton_inj.1 hcs
    have each:∀ i,i < len→∃ v:Qv,v.ok W∧W.cells? 0 (a.add (i * 8)) 8=some v.cells:=fun i hi=>by
      have h1:=hel i hi
      rw [List.getElem?_eq_getElem (by omega),cellsRule] at h1
      obtain ⟨cs',h2,h3⟩:=Option.bind_eq_some_iff.1 h1
      obtain ⟨v,rfl,hv⟩:=qv_of_trod n cs' _ h3
      exact ⟨v,hv,h2⟩
    obtain ⟨T,hT⟩:=choose_lt each
    refine ⟨(List.range len).map fun i=>(T i).rl,some a,cap,by simp,by simp;unfold maxLen at hm;omega,?_⟩
    by_cases h0:len=0
    · left;simp [h0]
    · right
      obtain ⟨b,off,spot⟩:=a
      have hspot:spot=none:=by
        have:=World.cell?_spot (qvAt_cells (hT 0 (by omega)).2).1
        simpa [Addr.add] using this
      subst hspot
      have cells:∀ i,i < len→QvAt W b (off + i * 8) (T i):=fun i hi=>by
        obtain ⟨c0,c1,c2,c3,c4,c5,c6,c7⟩:=qvAt_cells (hT i hi).2
        rw [add_plain,add_plain] at c0 c1 c2 c3 c4 c5 c6 c7
        exact ⟨by simpa using c0,c1,c2,c3,c4,c5,c6,c7⟩
      refine ⟨b,off,rfl,lt_of_cell (cells 0 (by omega)).c0,fun j x hj=>?_⟩
      rw [List.getElem?_map] at hj
      obtain ⟨i,hi,rfl⟩:=Option.map_eq_some_iff.1 hj
      obtain ⟨hil,rfl⟩:=List.getElem?_eq_some_iff.1 hi
      have hjl:j < len:=by simpa using hil
      rw [List.getElem_range]
      exact qv_rlAt (hT j hjl).1 (cells j hjl)
set_option maxRecDepth 100000 in
theorem funs_of_trod (fuel:Nat) (c:Value) (x:DataW H × List MemPlace) (hf:DataW.trod enc Tryz.prog W 0 (fun _=>true) true fuel 23 [c]=some x):∃ fs,Fus W c fs:=by
  rcases DataW.trod_slice Tryz.underlying23 hf with ⟨hcs,_⟩ | ⟨a,len,cap,elems,rest,n,rfl,hcs,_,_,hl,hm,hlen,hel,_,_⟩
  · rw [List.singleton_inj.1 hcs]
    exact ⟨[],Fus.none_ _ _ _⟩
  · obtain rfl:=List.singleton_inj.1 hcs
    have each:∀ i,i < len→∃ f:Fn,FnOk f∧W.cells? 0 (a.add (i * 2)) 2=some (fnCells f):=fun i hi=>by
      have h1:=hel i hi
      rw [List.getElem?_eq_getElem (by omega),cellsFun] at h1
      obtain ⟨cs',h2,h3⟩:=Option.bind_eq_some_iff.1 h1
      obtain ⟨f,rfl,hf⟩:=fn_of_trod n cs' _ h3
      exact ⟨f,hf,h2⟩
    obtain ⟨T,hT⟩:=choose_lt each
    refine ⟨(List.range len).map fun i=>T i,some a,cap,by simp,by simp;unfold maxLen at hm;omega,?_⟩
    by_cases h0:len=0
    · left;simp [h0]
    · right
      obtain ⟨b,off,spot⟩:=a
      have hspot:spot=none:=by
        have:=World.cell?_spot (fnAt_cells (hT 0 (by omega)).2).1
        simpa [Addr.add] using this
      subst hspot
      have cells:∀ i,i < len→FnAt W (T i) b (off + i * 2):=fun i hi=>by
        obtain ⟨c0,c1⟩:=fnAt_cells (hT i hi).2
        rw [add_plain,add_plain] at c0 c1
        exact ⟨(hT i hi).1,by simpa using c0,c1⟩
      refine ⟨b,off,rfl,(cells 0 (by omega)).lt,fun j x hj=>?_⟩
      rw [List.getElem?_map] at hj
      obtain ⟨i,hi,rfl⟩:=Option.map_eq_some_iff.1 hj
      obtain ⟨hil,rfl⟩:=List.getElem?_eq_some_iff.1 hi
      have hjl:j < len:=by simpa using hil
      rw [List.getElem_range]
      exact cells j hjl
set_option maxRecDepth 100000 in
theorem open_thy {r:Reach} {b0:Nat} {v:Value} {d:DataW H} {p:List MemPlace} (hv:Value.okWide Tryz.prog W r b0 26 v)
    (h:DataW.Trod enc Tryz.prog W 0 (fun _=>true) true 26 v d p) (_hlt:∀ x ∈ p,x.block < W.heap.size):∃ y:Yv,v=y.val∧y.ok W:=by
  obtain ⟨cs,rfl,_⟩:=okWide_struct Tryz.underlying26 hv
  obtain ⟨fuel,hf⟩:=h
  have hf:DataW.trod enc Tryz.prog W 0 (fun _=>true) true fuel 26 cs.toList=some (d,p):=by simpa [Value.cells] using hf
  have hl:cs.toList.length=2:=by
    obtain ⟨xs,m,_,_,hl,_⟩:=DataW.trod_struct Tryz.underlying26 hf
    rw [hl,cellsThy]
  obtain ⟨xs,m,hm,_,_,hxl,hg⟩:=DataW.trod_struct Tryz.underlying26 hf
  obtain ⟨cl⟩:=cs
  simp only at hl hf hg
  match cl,hl with
  | [c0,c1],_ =>
    match xs,hxl with
    | [x0,x1],_ =>
      have f0:DataW.trod enc Tryz.prog W 0 (fun _=>true) true m 23 (([c0,c1].drop 0).take (Tryz.prog.cellsOf 23))=some x0:=hg 0 _ rfl
      have f1:DataW.trod enc Tryz.prog W 0 (fun _=>true) true m 24 (([c0,c1].drop 1).take (Tryz.prog.cellsOf 24))=some x1:=hg 1 _ rfl
      rw [cellsFuns] at f0
      rw [cellsRules] at f1
      obtain ⟨fs,hfs⟩:=funs_of_trod m c0 _ f0
      obtain ⟨rs,hrs⟩:=rules_of_trod m c1 _ f1
      exact ⟨⟨c0,c1,fs,rs⟩,rfl,hfs,hrs⟩
end
end Go.Proofs.YtjcleokfpohpdaaGreatDoor
