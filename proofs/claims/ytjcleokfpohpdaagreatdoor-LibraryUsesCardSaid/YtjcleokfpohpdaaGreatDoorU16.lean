/-
  The program's library, the primitive wrap: its method. (printed by tools/genfill.py)
  The program's library, a primitive by its name: Get.
-/
import Derived.Test.YtjcleokfpohpdaaGreatDoorU10
import Derived.Test.YtjcleokfpohpdaaGreatDoorU07
import Derived.Deep.RegionHeld3
import Derived.Test.YtjcleokfpohpdaaGreatDoorU11
import Derived.Test.YtjcleokfpohpdaaGreatDoorU12
import Derived.Test.YtjcleokfpohpdaaGreatDoorU13
import Derived.Test.YtjcleokfpohpdaaGreatDoorU14
import Derived.Test.YtjcleokfpohpdaaGreatDoorU15
namespace Go.Proofs.YtjcleokfpohpdaaGreatDoor
open Go.RowKit
set_option maxRecDepth 100000 in
set_option maxHeartbeats 4000000 in
theorem fill_wrap (w0 W:World) (eb:Nat) (nm:ByteArray) (h:E0 W eb nm) :
    Calls Tryz.prog 126 #[.pointer (some ⟨eb,0,none⟩)] W (FillPost w0 W eb nm fsWrap rsWrap):=by
  have VR:=Lib.hid (fun (s:ByteArray) (W:World)=>pvar_any s W)
  have HE0:=Lib.hid h
  have hlt:=h.lt
  clear h
  unfold FillPost fsWrap rsWrap
  go_enter Tryz.func126,Tryz.ntmps126
  go_wp2_with fail
  refine (VR.out ⟨#[88]⟩ _).mono ?_;rintro e w1 ⟨rfl,hv1⟩
  go_wp2_with fail
  refine (VR.out ⟨#[75]⟩ _).mono ?_;rintro e w2 ⟨rfl,hv2⟩
  have hV1:=hv1
  have hV2:=below_next hV1 hv2
  have hA1:Below w2.heap.size w2 (w2.alloc (.cells #[.int .i64 1,.string ⟨#[88]⟩,.int .i64 0,.slice none 0 0] 70)):=(Below.refl _ _).alloc (Nat.le_refl _) _
  have hx1:=varB_new w2 ⟨#[88]⟩ 70 _ rfl
  have hA2:Below (w2.alloc (.cells #[.int .i64 1,.string ⟨#[88]⟩,.int .i64 0,.slice none 0 0] 70)).heap.size (w2.alloc (.cells #[.int .i64 1,.string ⟨#[88]⟩,.int .i64 0,.slice none 0 0] 70)) ((w2.alloc (.cells #[.int .i64 1,.string ⟨#[88]⟩,.int .i64 0,.slice none 0 0] 70)).alloc (.cells #[.int .i64 1,.string ⟨#[75]⟩,.int .i64 0,.slice none 0 0] 70)):=(Below.refl _ _).alloc (Nat.le_refl _) _
  have hx2:=varB_new (w2.alloc (.cells #[.int .i64 1,.string ⟨#[88]⟩,.int .i64 0,.slice none 0 0] 70)) ⟨#[75]⟩ 70 _ rfl
  rw [show (w2.alloc (.cells #[.int .i64 1,.string ⟨#[88]⟩,.int .i64 0,.slice none 0 0] 70)).heap.size=w2.heap.size + 1 from by simp] at hx2
  have hx1:=hx1.below hA2
  have hB:=hV2
  have HWV:=Lib.hid hV2.size
  have hB:=below_next hB hA1
  have hB:=below_next hB hA2
  have hz:((w2.alloc (.cells #[.int .i64 1,.string ⟨#[88]⟩,.int .i64 0,.slice none 0 0] 70)).alloc (.cells #[.int .i64 1,.string ⟨#[75]⟩,.int .i64 0,.slice none 0 0] 70)).heap.size=w2.heap.size + 1 + 1:=by simp
  have HPK:=Lib.hid (And.intro hB (And.intro hz (And.intro hx1 hx2)))
  clear hB hz hV1 hv1 hA1 hx1 hA2 hx2 hV2 hv2
  go_wp2_with fail
  obtain ⟨hB,hz,⟨hx1,hx2⟩⟩:=HPK.out
  obtain ⟨W3,hW3⟩:∃ W3,((w2.alloc (.cells #[.int .i64 1,.string ⟨#[88]⟩,.int .i64 0,.slice none 0 0] 70)).alloc (.cells #[.int .i64 1,.string ⟨#[75]⟩,.int .i64 0,.slice none 0 0] 70))=W3:=⟨_,rfl⟩
  rw [hW3] at hB hz hx1 hx2 ⊢
  have hwv:W.heap.size≤w2.heap.size:=HWV.out
  have hE:=HE0.out.start w0 W3 hB
  have hO:SinceE W3 W3 eb W3.heap.size:=⟨OnlyE.refl _ _ _,Nat.le_refl _⟩
  have hq1:w2.heap.size < W3.heap.size:=by omega
  have hne1:w2.heap.size≠eb:=by omega
  have hq2:w2.heap.size + 1 < W3.heap.size:=by omega
  have hne2:w2.heap.size + 1≠eb:=by omega
  have HOB:=Lib.hid hB
  obtain ⟨base,hbase⟩:∃ base,W3.heap.size=base:=⟨_,rfl⟩
  rw [hbase] at hE hO hq1 hq2
  have HBS:=Lib.hid (show W.heap.size≤base from by rw [← hbase];exact hB.size)
  clear hB hz hwv hbase hW3 HPK
  refine (pent_fun w0 W3 eb base nm [] [] _ _ (⟨#[119,114,97,112]⟩,2) hE ⟨by decide,by decide,by decide⟩ (by simp)).mono ?_;rintro e u1 ⟨rfl,⟨f1,hE⟩,ho⟩
  have hO:=hO.next ho
  have hx1:=hx1.only ho hq1 hne1
  have hx2:=hx2.only ho hq2 hne2
  clear ho
  go_wp2_with fail
  refine (pent_fun w0 u1 eb base nm [(⟨#[119,114,97,112]⟩,2)] [] _ _ (⟨#[117,110,119,114,97,112]⟩,2) hE ⟨by decide,by decide,by decide⟩ (by simp)).mono ?_;rintro e u2 ⟨rfl,⟨f2,hE⟩,ho⟩
  have hO:=hO.next ho
  have hx1:=hx1.only ho hq1 hne1
  have hx2:=hx2.only ho hq2 hne2
  clear ho
  go_wp2_with fail
  refine (pent_fun w0 u2 eb base nm [(⟨#[119,114,97,112]⟩,2),(⟨#[117,110,119,114,97,112]⟩,2)] [] _ _ (⟨#[112,114,111,98,101]⟩,2) hE ⟨by decide,by decide,by decide⟩ (by simp)).mono ?_;rintro e u3 ⟨rfl,⟨f3,hE⟩,ho⟩
  have hO:=hO.next ho
  have hx1:=hx1.only ho hq1 hne1
  have hx2:=hx2.only ho hq2 hne2
  clear ho
  go_wp2_with fail
  refine (pent_fun w0 u3 eb base nm [(⟨#[119,114,97,112]⟩,2),(⟨#[117,110,119,114,97,112]⟩,2),(⟨#[112,114,111,98,101]⟩,2)] [] _ _ (⟨#[121,101,115]⟩,0) hE ⟨by decide,by decide,by decide⟩ (by simp)).mono ?_;rintro e u4 ⟨rfl,⟨f4,hE⟩,ho⟩
  have hO:=hO.next ho
  have hx1:=hx1.only ho hq1 hne1
  have hx2:=hx2.only ho hq2 hne2
  clear ho
  simp only [List.nil_append,List.cons_append] at hE
  go_wp2_with fail
  have hle:=hE.le
  have hS0:SinceE u4 u4 eb base:=⟨OnlyE.refl _ _ _,hle⟩
  have KX:=Lib.hid (fun (Q:World) (h:SinceE u4 Q eb base)=>(show SinceE u4 Q eb base∧(Q.cell? ⟨w2.heap.size,0,none⟩=some (.int .i64 1)∧Q.cell? ⟨w2.heap.size,1,none⟩=some (.string ⟨#[88]⟩)∧Q.cell? ⟨w2.heap.size,2,none⟩=some (.int .i64 0)∧Q.cell? ⟨w2.heap.size,3,none⟩=some (.slice none 0 0))∧(Q.cell? ⟨w2.heap.size + 1,0,none⟩=some (.int .i64 1)∧Q.cell? ⟨w2.heap.size + 1,1,none⟩=some (.string ⟨#[75]⟩)∧Q.cell? ⟨w2.heap.size + 1,2,none⟩=some (.int .i64 0)∧Q.cell? ⟨w2.heap.size + 1,3,none⟩=some (.slice none 0 0)) from ⟨h,(hx1.only h.only hq1 hne1).all,(hx2.only h.only hq2 hne2).all⟩))
  have KA:=Lib.hid (fun (Q:World) (o:Obj) (h:SinceE u4 Q eb base∧(Q.cell? ⟨w2.heap.size,0,none⟩=some (.int .i64 1)∧Q.cell? ⟨w2.heap.size,1,none⟩=some (.string ⟨#[88]⟩)∧Q.cell? ⟨w2.heap.size,2,none⟩=some (.int .i64 0)∧Q.cell? ⟨w2.heap.size,3,none⟩=some (.slice none 0 0))∧(Q.cell? ⟨w2.heap.size + 1,0,none⟩=some (.int .i64 1)∧Q.cell? ⟨w2.heap.size + 1,1,none⟩=some (.string ⟨#[75]⟩)∧Q.cell? ⟨w2.heap.size + 1,2,none⟩=some (.int .i64 0)∧Q.cell? ⟨w2.heap.size + 1,3,none⟩=some (.slice none 0 0)))=>KX.out (Q.alloc o) (h.1.below ((Below.refl _ _).alloc (Nat.le_refl _) _)))
  have KD:=Lib.hid (fun (Q:World) (o:Obj) (h:SinceE u4 Q.drew eb base∧(Q.drew.cell? ⟨w2.heap.size,0,none⟩=some (.int .i64 1)∧Q.drew.cell? ⟨w2.heap.size,1,none⟩=some (.string ⟨#[88]⟩)∧Q.drew.cell? ⟨w2.heap.size,2,none⟩=some (.int .i64 0)∧Q.drew.cell? ⟨w2.heap.size,3,none⟩=some (.slice none 0 0))∧(Q.drew.cell? ⟨w2.heap.size + 1,0,none⟩=some (.int .i64 1)∧Q.drew.cell? ⟨w2.heap.size + 1,1,none⟩=some (.string ⟨#[75]⟩)∧Q.drew.cell? ⟨w2.heap.size + 1,2,none⟩=some (.int .i64 0)∧Q.drew.cell? ⟨w2.heap.size + 1,3,none⟩=some (.slice none 0 0)))=>KX.out ((Q.alloc o).drew) (h.1.below (show Below Q.drew.heap.size Q.drew (Q.drew.alloc o) from (Below.refl _ _).alloc (Nat.le_refl _) _)))
  have KD2:=Lib.hid (fun (Q:World) (o:Obj) (h:SinceE u4 Q eb base∧(Q.cell? ⟨w2.heap.size,0,none⟩=some (.int .i64 1)∧Q.cell? ⟨w2.heap.size,1,none⟩=some (.string ⟨#[88]⟩)∧Q.cell? ⟨w2.heap.size,2,none⟩=some (.int .i64 0)∧Q.cell? ⟨w2.heap.size,3,none⟩=some (.slice none 0 0))∧(Q.cell? ⟨w2.heap.size + 1,0,none⟩=some (.int .i64 1)∧Q.cell? ⟨w2.heap.size + 1,1,none⟩=some (.string ⟨#[75]⟩)∧Q.cell? ⟨w2.heap.size + 1,2,none⟩=some (.int .i64 0)∧Q.cell? ⟨w2.heap.size + 1,3,none⟩=some (.slice none 0 0)))=>KX.out ((Q.alloc o).drew) (h.1.below (W:=Q) (((Below.refl _ _).alloc (Nat.le_refl _) _).drew)))
  have K0:=Lib.hid (KX.out u4.drew (hS0.below ((Below.refl _ _).drew)))
  have hEr:=hE
  have KS:=Lib.hid (fun (Q:World) (h:SinceE u4 Q eb base∧(Q.cell? ⟨w2.heap.size,0,none⟩=some (.int .i64 1)∧Q.cell? ⟨w2.heap.size,1,none⟩=some (.string ⟨#[88]⟩)∧Q.cell? ⟨w2.heap.size,2,none⟩=some (.int .i64 0)∧Q.cell? ⟨w2.heap.size,3,none⟩=some (.slice none 0 0))∧(Q.cell? ⟨w2.heap.size + 1,0,none⟩=some (.int .i64 1)∧Q.cell? ⟨w2.heap.size + 1,1,none⟩=some (.string ⟨#[75]⟩)∧Q.cell? ⟨w2.heap.size + 1,2,none⟩=some (.int .i64 0)∧Q.cell? ⟨w2.heap.size + 1,3,none⟩=some (.slice none 0 0)))=>h.1)
  have KL:=Lib.hid (fun (Q:World) (h:SinceE u4 Q eb base∧(Q.cell? ⟨w2.heap.size,0,none⟩=some (.int .i64 1)∧Q.cell? ⟨w2.heap.size,1,none⟩=some (.string ⟨#[88]⟩)∧Q.cell? ⟨w2.heap.size,2,none⟩=some (.int .i64 0)∧Q.cell? ⟨w2.heap.size,3,none⟩=some (.slice none 0 0))∧(Q.cell? ⟨w2.heap.size + 1,0,none⟩=some (.int .i64 1)∧Q.cell? ⟨w2.heap.size + 1,1,none⟩=some (.string ⟨#[75]⟩)∧Q.cell? ⟨w2.heap.size + 1,2,none⟩=some (.int .i64 0)∧Q.cell? ⟨w2.heap.size + 1,3,none⟩=some (.slice none 0 0)))=>h.1.only.size)
  go_region_held3 (fun Q=>SinceE u4 Q eb base∧(Q.cell? ⟨w2.heap.size,0,none⟩=some (.int .i64 1)∧Q.cell? ⟨w2.heap.size,1,none⟩=some (.string ⟨#[88]⟩)∧Q.cell? ⟨w2.heap.size,2,none⟩=some (.int .i64 0)∧Q.cell? ⟨w2.heap.size,3,none⟩=some (.slice none 0 0))∧(Q.cell? ⟨w2.heap.size + 1,0,none⟩=some (.int .i64 1)∧Q.cell? ⟨w2.heap.size + 1,1,none⟩=some (.string ⟨#[75]⟩)∧Q.cell? ⟨w2.heap.size + 1,2,none⟩=some (.int .i64 0)∧Q.cell? ⟨w2.heap.size + 1,3,none⟩=some (.slice none 0 0)))
    (first | exact K0.out | assumption | exact KA.out _ _ (by assumption) | exact KD.out _ _ (by assumption) | exact KD2.out _ _ (by assumption))
    (first
      | (go_at_call 167;refine (erule w0 u4 u4 _ eb base nm [(⟨#[119,114,97,112]⟩,2),(⟨#[117,110,119,114,97,112]⟩,2),(⟨#[112,114,111,98,101]⟩,2),(⟨#[121,101,115]⟩,0)] [] _ _ hEr ?_ ?_ (⟨.mk 5 ⟨#[117,110,119,114,97,112]⟩ 0 [.mk 5 ⟨#[119,114,97,112]⟩ 0 [.mk 1 ⟨#[88]⟩ 0 [],.mk 1 ⟨#[75]⟩ 0 []],.mk 1 ⟨#[75]⟩ 0 []],za2_1,zc2_1⟩:Tv) (varV ⟨#[88]⟩) ?_ ?_ ?_ (by simp)).mono ?_;(· exact (hE.below (by first | exact Below.refl _ _ | exact (Below.refl _ _).drew | exact (Below.refl _ _).alloc (Nat.le_refl _) _ | exact ((Below.refl _ _).alloc (Nat.le_refl _) _).drew | exact (((Below.refl _ _).alloc (Nat.le_refl _) _).alloc (by simp) _).drew | exact ((Below.refl _ _).alloc (Nat.le_refl _) _).alloc (by simp) _)));(· exact KS.out _ (by assumption));(· exact fresh_below hz2_1 (by first | exact Below.refl _ _ | exact (Below.refl _ _).drew | exact (Below.refl _ _).alloc (Nat.le_refl _) _ | exact ((Below.refl _ _).alloc (Nat.le_refl _) _).drew | exact (((Below.refl _ _).alloc (Nat.le_refl _) _).alloc (by simp) _).drew | exact ((Below.refl _ _).alloc (Nat.le_refl _) _).alloc (by simp) _));(· exact fresh_var ⟨#[88]⟩ (by decide) _ _ _);(· exact KL.out _ (by assumption));rintro e x1 ⟨rfl,⟨g1,hE⟩,hs1r⟩;have hSr:=KX.out _ hs1r)
      | (have hq:=hz1_1;clear hq;go_at_call 168;refine (efun w0 u4 u4 eb base ⟨#[117,110,119,114,97,112]⟩ _ 2 [(⟨.mk 5 ⟨#[119,114,97,112]⟩ 0 [.mk 1 ⟨#[88]⟩ 0 [],.mk 1 ⟨#[75]⟩ 0 []],za1_1,zc1_1⟩:Tv),(varV ⟨#[75]⟩)] _ rfl (by decide) (by simp) ?_ ?_ ?_ ?_).mono ?_;(· exact KS.out _ (by assumption));(· exact KL.out _ (by assumption));(· (first | exact rowV_new _ _ _ _ rfl | exact (rowV_new _ _ _ _ rfl).drew | exact (rowV_new _ _ _ _ (by simp)).drew | exact rowV_new _ _ _ _ (by simp)));(· exact (by intro x hx;simp only [List.mem_cons,List.not_mem_nil,or_false] at hx;rcases hx with rfl | rfl<;>first | exact fresh_var _ (by decide) _ _ _ | exact fresh_below hz1_1 (by first | exact Below.refl _ _ | exact (Below.refl _ _).drew | exact (Below.refl _ _).alloc (Nat.le_refl _) _ | exact ((Below.refl _ _).alloc (Nat.le_refl _) _).drew | exact (((Below.refl _ _).alloc (Nat.le_refl _) _).alloc (by simp) _).drew | exact ((Below.refl _ _).alloc (Nat.le_refl _) _).alloc (by simp) _)));rintro e v2_1 ⟨za2_1,zc2_1,rfl,hz2_1,hb2_1,hs2_1⟩;have hn20_1:=below_next (show Below v1_1.heap.size v1_1 _ from (by first | exact Below.refl _ _ | exact (Below.refl _ _).drew | exact (Below.refl _ _).alloc (Nat.le_refl _) _ | exact ((Below.refl _ _).alloc (Nat.le_refl _) _).drew | exact (((Below.refl _ _).alloc (Nat.le_refl _) _).alloc (by simp) _).drew | exact ((Below.refl _ _).alloc (Nat.le_refl _) _).alloc (by simp) _)) hb2_1;have hE:=hE.below hn20_1;have hz1_1:=fresh_below hz1_1 hn20_1;have hS2_1:=KX.out _ hs2_1)
      | (go_at_call 168;refine (efun w0 u4 u4 eb base ⟨#[119,114,97,112]⟩ _ 2 [(varV ⟨#[88]⟩),(varV ⟨#[75]⟩)] _ rfl (by decide) (by simp) ?_ ?_ ?_ ?_).mono ?_;(· exact KS.out _ (by assumption));(· exact KL.out _ (by assumption));(· (first | exact rowV_new _ _ _ _ rfl | exact (rowV_new _ _ _ _ rfl).drew | exact (rowV_new _ _ _ _ (by simp)).drew | exact rowV_new _ _ _ _ (by simp)));(· exact (by intro x hx;simp only [List.mem_cons,List.not_mem_nil,or_false] at hx;rcases hx with rfl | rfl<;>first | exact fresh_var _ (by decide) _ _ _));rintro e v1_1 ⟨za1_1,zc1_1,rfl,hz1_1,hb1_1,hs1_1⟩;have hn10_1:=below_next (show Below u4.heap.size u4 _ from (by first | exact Below.refl _ _ | exact (Below.refl _ _).drew | exact (Below.refl _ _).alloc (Nat.le_refl _) _ | exact ((Below.refl _ _).alloc (Nat.le_refl _) _).drew | exact (((Below.refl _ _).alloc (Nat.le_refl _) _).alloc (by simp) _).drew | exact ((Below.refl _ _).alloc (Nat.le_refl _) _).alloc (by simp) _)) hb1_1;have hE:=hE.below hn10_1;have hS1_1:=KX.out _ hs1_1)
      | fail)
  have ho:=hs1r.only
  have hO:=hO.next ho
  have hx1:=hx1.only ho hq1 hne1
  have hx2:=hx2.only ho hq2 hne2
  simp only [List.nil_append] at hE
  clear ho KX KA KD KD2 K0 KS KL hEr hS0 hSr hs1r hle hb1_1 hs1_1 hz1_1 hS1_1 hn10_1 hb2_1 hs2_1 hz2_1 hS2_1 hn20_1
  go_wp2_with fail
  have hle:=hE.le
  have hS0:SinceE x1 x1 eb base:=⟨OnlyE.refl _ _ _,hle⟩
  have KX:=Lib.hid (fun (Q:World) (h:SinceE x1 Q eb base)=>(show SinceE x1 Q eb base∧(Q.cell? ⟨w2.heap.size,0,none⟩=some (.int .i64 1)∧Q.cell? ⟨w2.heap.size,1,none⟩=some (.string ⟨#[88]⟩)∧Q.cell? ⟨w2.heap.size,2,none⟩=some (.int .i64 0)∧Q.cell? ⟨w2.heap.size,3,none⟩=some (.slice none 0 0))∧(Q.cell? ⟨w2.heap.size + 1,0,none⟩=some (.int .i64 1)∧Q.cell? ⟨w2.heap.size + 1,1,none⟩=some (.string ⟨#[75]⟩)∧Q.cell? ⟨w2.heap.size + 1,2,none⟩=some (.int .i64 0)∧Q.cell? ⟨w2.heap.size + 1,3,none⟩=some (.slice none 0 0)) from ⟨h,(hx1.only h.only hq1 hne1).all,(hx2.only h.only hq2 hne2).all⟩))
  have KA:=Lib.hid (fun (Q:World) (o:Obj) (h:SinceE x1 Q eb base∧(Q.cell? ⟨w2.heap.size,0,none⟩=some (.int .i64 1)∧Q.cell? ⟨w2.heap.size,1,none⟩=some (.string ⟨#[88]⟩)∧Q.cell? ⟨w2.heap.size,2,none⟩=some (.int .i64 0)∧Q.cell? ⟨w2.heap.size,3,none⟩=some (.slice none 0 0))∧(Q.cell? ⟨w2.heap.size + 1,0,none⟩=some (.int .i64 1)∧Q.cell? ⟨w2.heap.size + 1,1,none⟩=some (.string ⟨#[75]⟩)∧Q.cell? ⟨w2.heap.size + 1,2,none⟩=some (.int .i64 0)∧Q.cell? ⟨w2.heap.size + 1,3,none⟩=some (.slice none 0 0)))=>KX.out (Q.alloc o) (h.1.below ((Below.refl _ _).alloc (Nat.le_refl _) _)))
  have KD:=Lib.hid (fun (Q:World) (o:Obj) (h:SinceE x1 Q.drew eb base∧(Q.drew.cell? ⟨w2.heap.size,0,none⟩=some (.int .i64 1)∧Q.drew.cell? ⟨w2.heap.size,1,none⟩=some (.string ⟨#[88]⟩)∧Q.drew.cell? ⟨w2.heap.size,2,none⟩=some (.int .i64 0)∧Q.drew.cell? ⟨w2.heap.size,3,none⟩=some (.slice none 0 0))∧(Q.drew.cell? ⟨w2.heap.size + 1,0,none⟩=some (.int .i64 1)∧Q.drew.cell? ⟨w2.heap.size + 1,1,none⟩=some (.string ⟨#[75]⟩)∧Q.drew.cell? ⟨w2.heap.size + 1,2,none⟩=some (.int .i64 0)∧Q.drew.cell? ⟨w2.heap.size + 1,3,none⟩=some (.slice none 0 0)))=>KX.out ((Q.alloc o).drew) (h.1.below (show Below Q.drew.heap.size Q.drew (Q.drew.alloc o) from (Below.refl _ _).alloc (Nat.le_refl _) _)))
  have KD2:=Lib.hid (fun (Q:World) (o:Obj) (h:SinceE x1 Q eb base∧(Q.cell? ⟨w2.heap.size,0,none⟩=some (.int .i64 1)∧Q.cell? ⟨w2.heap.size,1,none⟩=some (.string ⟨#[88]⟩)∧Q.cell? ⟨w2.heap.size,2,none⟩=some (.int .i64 0)∧Q.cell? ⟨w2.heap.size,3,none⟩=some (.slice none 0 0))∧(Q.cell? ⟨w2.heap.size + 1,0,none⟩=some (.int .i64 1)∧Q.cell? ⟨w2.heap.size + 1,1,none⟩=some (.string ⟨#[75]⟩)∧Q.cell? ⟨w2.heap.size + 1,2,none⟩=some (.int .i64 0)∧Q.cell? ⟨w2.heap.size + 1,3,none⟩=some (.slice none 0 0)))=>KX.out ((Q.alloc o).drew) (h.1.below (W:=Q) (((Below.refl _ _).alloc (Nat.le_refl _) _).drew)))
  have K0:=Lib.hid (KX.out x1.drew (hS0.below ((Below.refl _ _).drew)))
  have hEr:=hE
  have KS:=Lib.hid (fun (Q:World) (h:SinceE x1 Q eb base∧(Q.cell? ⟨w2.heap.size,0,none⟩=some (.int .i64 1)∧Q.cell? ⟨w2.heap.size,1,none⟩=some (.string ⟨#[88]⟩)∧Q.cell? ⟨w2.heap.size,2,none⟩=some (.int .i64 0)∧Q.cell? ⟨w2.heap.size,3,none⟩=some (.slice none 0 0))∧(Q.cell? ⟨w2.heap.size + 1,0,none⟩=some (.int .i64 1)∧Q.cell? ⟨w2.heap.size + 1,1,none⟩=some (.string ⟨#[75]⟩)∧Q.cell? ⟨w2.heap.size + 1,2,none⟩=some (.int .i64 0)∧Q.cell? ⟨w2.heap.size + 1,3,none⟩=some (.slice none 0 0)))=>h.1)
  have KL:=Lib.hid (fun (Q:World) (h:SinceE x1 Q eb base∧(Q.cell? ⟨w2.heap.size,0,none⟩=some (.int .i64 1)∧Q.cell? ⟨w2.heap.size,1,none⟩=some (.string ⟨#[88]⟩)∧Q.cell? ⟨w2.heap.size,2,none⟩=some (.int .i64 0)∧Q.cell? ⟨w2.heap.size,3,none⟩=some (.slice none 0 0))∧(Q.cell? ⟨w2.heap.size + 1,0,none⟩=some (.int .i64 1)∧Q.cell? ⟨w2.heap.size + 1,1,none⟩=some (.string ⟨#[75]⟩)∧Q.cell? ⟨w2.heap.size + 1,2,none⟩=some (.int .i64 0)∧Q.cell? ⟨w2.heap.size + 1,3,none⟩=some (.slice none 0 0)))=>h.1.only.size)
  go_region_held3 (fun Q=>SinceE x1 Q eb base∧(Q.cell? ⟨w2.heap.size,0,none⟩=some (.int .i64 1)∧Q.cell? ⟨w2.heap.size,1,none⟩=some (.string ⟨#[88]⟩)∧Q.cell? ⟨w2.heap.size,2,none⟩=some (.int .i64 0)∧Q.cell? ⟨w2.heap.size,3,none⟩=some (.slice none 0 0))∧(Q.cell? ⟨w2.heap.size + 1,0,none⟩=some (.int .i64 1)∧Q.cell? ⟨w2.heap.size + 1,1,none⟩=some (.string ⟨#[75]⟩)∧Q.cell? ⟨w2.heap.size + 1,2,none⟩=some (.int .i64 0)∧Q.cell? ⟨w2.heap.size + 1,3,none⟩=some (.slice none 0 0)))
    (first | exact K0.out | assumption | exact KA.out _ _ (by assumption) | exact KD.out _ _ (by assumption) | exact KD2.out _ _ (by assumption))
    (first
      | (go_at_call 167;refine (erule w0 x1 x1 _ eb base nm [(⟨#[119,114,97,112]⟩,2),(⟨#[117,110,119,114,97,112]⟩,2),(⟨#[112,114,111,98,101]⟩,2),(⟨#[121,101,115]⟩,0)] [(.mk 5 ⟨#[117,110,119,114,97,112]⟩ 0 [.mk 5 ⟨#[119,114,97,112]⟩ 0 [.mk 1 ⟨#[88]⟩ 0 [],.mk 1 ⟨#[75]⟩ 0 []],.mk 1 ⟨#[75]⟩ 0 []],.mk 1 ⟨#[88]⟩ 0 [])] _ _ hEr ?_ ?_ (⟨.mk 5 ⟨#[112,114,111,98,101]⟩ 0 [.mk 5 ⟨#[119,114,97,112]⟩ 0 [.mk 1 ⟨#[88]⟩ 0 [],.mk 1 ⟨#[75]⟩ 0 []],.mk 1 ⟨#[75]⟩ 0 []],za2_2,zc2_2⟩:Tv) (⟨.mk 5 ⟨#[121,101,115]⟩ 0 [],za3_2,zc3_2⟩:Tv) ?_ ?_ ?_ (by simp)).mono ?_;(· exact (hE.below (by first | exact Below.refl _ _ | exact (Below.refl _ _).drew | exact (Below.refl _ _).alloc (Nat.le_refl _) _ | exact ((Below.refl _ _).alloc (Nat.le_refl _) _).drew | exact (((Below.refl _ _).alloc (Nat.le_refl _) _).alloc (by simp) _).drew | exact ((Below.refl _ _).alloc (Nat.le_refl _) _).alloc (by simp) _)));(· exact KS.out _ (by assumption));(· exact fresh_below hz2_2 (by first | exact Below.refl _ _ | exact (Below.refl _ _).drew | exact (Below.refl _ _).alloc (Nat.le_refl _) _ | exact ((Below.refl _ _).alloc (Nat.le_refl _) _).drew | exact (((Below.refl _ _).alloc (Nat.le_refl _) _).alloc (by simp) _).drew | exact ((Below.refl _ _).alloc (Nat.le_refl _) _).alloc (by simp) _));(· exact fresh_below hz3_2 (by first | exact Below.refl _ _ | exact (Below.refl _ _).drew | exact (Below.refl _ _).alloc (Nat.le_refl _) _ | exact ((Below.refl _ _).alloc (Nat.le_refl _) _).drew | exact (((Below.refl _ _).alloc (Nat.le_refl _) _).alloc (by simp) _).drew | exact ((Below.refl _ _).alloc (Nat.le_refl _) _).alloc (by simp) _));(· exact KL.out _ (by assumption));rintro e x2 ⟨rfl,⟨g2,hE⟩,hs2r⟩;have hSr:=KX.out _ hs2r)
      | (have hq:=hz2_2;clear hq;go_at_call 168;refine (efun_none w0 x1 x1 eb base ⟨#[121,101,115]⟩ _ (by decide) ?_).mono ?_;(· exact KS.out _ (by assumption));rintro e v3_2 ⟨za3_2,zc3_2,rfl,hz3_2,hb3_2,hs3_2⟩;have hn30_2:=below_next (show Below v2_2.heap.size v2_2 _ from (by first | exact Below.refl _ _ | exact (Below.refl _ _).drew | exact (Below.refl _ _).alloc (Nat.le_refl _) _ | exact ((Below.refl _ _).alloc (Nat.le_refl _) _).drew | exact (((Below.refl _ _).alloc (Nat.le_refl _) _).alloc (by simp) _).drew | exact ((Below.refl _ _).alloc (Nat.le_refl _) _).alloc (by simp) _)) hb3_2;have hE:=hE.below hn30_2;have hz1_2:=fresh_below hz1_2 hn30_2;have hz2_2:=fresh_below hz2_2 hn30_2;have hS3_2:=KX.out _ hs3_2)
      | (have hq:=hz1_2;clear hq;go_at_call 168;refine (efun w0 x1 x1 eb base ⟨#[112,114,111,98,101]⟩ _ 2 [(⟨.mk 5 ⟨#[119,114,97,112]⟩ 0 [.mk 1 ⟨#[88]⟩ 0 [],.mk 1 ⟨#[75]⟩ 0 []],za1_2,zc1_2⟩:Tv),(varV ⟨#[75]⟩)] _ rfl (by decide) (by simp) ?_ ?_ ?_ ?_).mono ?_;(· exact KS.out _ (by assumption));(· exact KL.out _ (by assumption));(· (first | exact rowV_new _ _ _ _ rfl | exact (rowV_new _ _ _ _ rfl).drew | exact (rowV_new _ _ _ _ (by simp)).drew | exact rowV_new _ _ _ _ (by simp)));(· exact (by intro x hx;simp only [List.mem_cons,List.not_mem_nil,or_false] at hx;rcases hx with rfl | rfl<;>first | exact fresh_var _ (by decide) _ _ _ | exact fresh_below hz1_2 (by first | exact Below.refl _ _ | exact (Below.refl _ _).drew | exact (Below.refl _ _).alloc (Nat.le_refl _) _ | exact ((Below.refl _ _).alloc (Nat.le_refl _) _).drew | exact (((Below.refl _ _).alloc (Nat.le_refl _) _).alloc (by simp) _).drew | exact ((Below.refl _ _).alloc (Nat.le_refl _) _).alloc (by simp) _)));rintro e v2_2 ⟨za2_2,zc2_2,rfl,hz2_2,hb2_2,hs2_2⟩;have hn20_2:=below_next (show Below v1_2.heap.size v1_2 _ from (by first | exact Below.refl _ _ | exact (Below.refl _ _).drew | exact (Below.refl _ _).alloc (Nat.le_refl _) _ | exact ((Below.refl _ _).alloc (Nat.le_refl _) _).drew | exact (((Below.refl _ _).alloc (Nat.le_refl _) _).alloc (by simp) _).drew | exact ((Below.refl _ _).alloc (Nat.le_refl _) _).alloc (by simp) _)) hb2_2;have hE:=hE.below hn20_2;have hz1_2:=fresh_below hz1_2 hn20_2;have hS2_2:=KX.out _ hs2_2)
      | (go_at_call 168;refine (efun w0 x1 x1 eb base ⟨#[119,114,97,112]⟩ _ 2 [(varV ⟨#[88]⟩),(varV ⟨#[75]⟩)] _ rfl (by decide) (by simp) ?_ ?_ ?_ ?_).mono ?_;(· exact KS.out _ (by assumption));(· exact KL.out _ (by assumption));(· (first | exact rowV_new _ _ _ _ rfl | exact (rowV_new _ _ _ _ rfl).drew | exact (rowV_new _ _ _ _ (by simp)).drew | exact rowV_new _ _ _ _ (by simp)));(· exact (by intro x hx;simp only [List.mem_cons,List.not_mem_nil,or_false] at hx;rcases hx with rfl | rfl<;>first | exact fresh_var _ (by decide) _ _ _));rintro e v1_2 ⟨za1_2,zc1_2,rfl,hz1_2,hb1_2,hs1_2⟩;have hn10_2:=below_next (show Below x1.heap.size x1 _ from (by first | exact Below.refl _ _ | exact (Below.refl _ _).drew | exact (Below.refl _ _).alloc (Nat.le_refl _) _ | exact ((Below.refl _ _).alloc (Nat.le_refl _) _).drew | exact (((Below.refl _ _).alloc (Nat.le_refl _) _).alloc (by simp) _).drew | exact ((Below.refl _ _).alloc (Nat.le_refl _) _).alloc (by simp) _)) hb1_2;have hE:=hE.below hn10_2;have hS1_2:=KX.out _ hs1_2)
      | fail)
  have ho:=hs2r.only
  have hO:=hO.next ho
  have hx1:=hx1.only ho hq1 hne1
  have hx2:=hx2.only ho hq2 hne2
  simp only [List.nil_append,List.cons_append] at hE
  clear ho KX KA KD KD2 K0 KS KL hEr hS0 hSr hs2r hle hb1_2 hs1_2 hz1_2 hS1_2 hn10_2 hb2_2 hs2_2 hz2_2 hS2_2 hn20_2 hb3_2 hs3_2 hz3_2 hS3_2 hn30_2
  (try go_wp2_with fail)
  go_end0
  exact ⟨rfl,⟨_,_,_,hE⟩,(onlyE_below HOB.out (Nat.le_refl _)).trans (hO.only.less HBS.out)⟩
end Go.Proofs.YtjcleokfpohpdaaGreatDoor
namespace Go.Proofs.YtjcleokfpohpdaaGreatDoor
open Go.RowKit
def entN (s:ByteArray):ByteArray:=if isEnt s then s else ⟨#[]⟩
def PGetPost (s:ByteArray) (w:World) (e:Ending) (w':World):Prop :=
  ∃ vf vr,e=.returned (.tuple #[.agg #[.string (entN s),vf,vr],.bool (isEnt s)])∧Fus w' vf (entF s)∧Rls w' vr (entR s)∧Below w.heap.size w w'
theorem ent_none12 {s:ByteArray} (h:isEnt s=false):entF s=[]∧entR s=[]:=by
  have ht:libT s=⟨#[]⟩:=by
    unfold isEnt at h
    have h0:(libT s).toList.isEmpty=true:=by simpa using h
    have h1:(libT s).toList=(⟨#[]⟩:ByteArray).toList:=(List.isEmpty_iff.1 h0).trans (by kernel_rfl)
    exact toList_iff.1 (by rw [h1];exact beq_self_eq_true _)
  unfold entF entR
  rw [ht]
  exact ⟨by kernel_rfl,by kernel_rfl⟩
theorem Ent.ahead {w0 W W':World} {Z:Nat→Prop} {ef eq:TypeId} {base:Nat} {vf vr:Value} {fs:List Fn} {rs:List Rl} (h:Ent w0 W Z ef eq base vf fs vr rs) (hs:W.heap.size≤W'.heap.size) (hk:∀ k,base≤k→W'.heap[k]? = W.heap[k]?):Ent w0 W' Z ef eq base vf fs vr rs:=by
  obtain ⟨h0,h1,⟨us,k1,k2,k3⟩,ha,ho⟩:=h
  refine ⟨h0,own_at h1 fun g q=>hk g (own_row_ge h1 g q),⟨us,k1,fun x hx=>?_,own_at k3 fun g q=>hk g (own_row_ge k3 g q)⟩,ha,ho⟩
  obtain ⟨lo,hi,q1,q2,q3,q4,q5⟩:=k2 x hx
  exact ⟨lo,hi,q1,q2,Nat.le_trans q3 hs,q4,fun W2 r0 r1 r2=>q5 W2 r0 r1 fun k j1 j2=>(r2 k j1 j2).trans (hk k (by omega))⟩
def FillI (k:Nat):Prop:=∀ (w0 W:World) (eb:Nat) (nm:ByteArray),E0 W eb nm→∀ f,fillAt k=.func (.func f) #[] #[]→Calls Tryz.prog f #[.pointer (some ⟨eb,0,none⟩)] W (FillPost w0 W eb nm (entF (nmAt k)) (entR (nmAt k)))
theorem fill_any (k:Nat) (hk:k < 9):FillI k:=by
  have key:∀ {f g:FuncId},(.func (.func g) #[] #[]:Value)=.func (.func f) #[] #[]→g=f:=fun h=>by injection h with h _ _;injection h
  intro w0 W eb nm h f hf
  match k,hk with
  | 0,_=>obtain rfl:=key hf;rw [show nmAt 0=nmPair from rfl,entF_pair,entR_pair];exact fill_pair w0 W eb nm h
  | 1,_=>obtain rfl:=key hf;rw [show nmAt 1=nmSenc from rfl,entF_senc,entR_senc];exact fill_senc w0 W eb nm h
  | 2,_=>obtain rfl:=key hf;rw [show nmAt 2=nmRenc from rfl,entF_renc,entR_renc];exact fill_renc w0 W eb nm h
  | 3,_=>obtain rfl:=key hf;rw [show nmAt 3=nmAenc from rfl,entF_aenc,entR_aenc];exact fill_aenc w0 W eb nm h
  | 4,_=>obtain rfl:=key hf;rw [show nmAt 4=nmRaenc from rfl,entF_raenc,entR_raenc];exact fill_raenc w0 W eb nm h
  | 5,_=>obtain rfl:=key hf;rw [show nmAt 5=nmSign from rfl,entF_sign,entR_sign];exact fill_sign w0 W eb nm h
  | 6,_=>obtain rfl:=key hf;rw [show nmAt 6=nmHash from rfl,entF_hash,entR_hash];exact fill_hash w0 W eb nm h
  | 7,_=>obtain rfl:=key hf;rw [show nmAt 7=nmBlind from rfl,entF_blind,entR_blind];exact fill_blind w0 W eb nm h
  | 8,_=>obtain rfl:=key hf;rw [show nmAt 8=nmWrap from rfl,entF_wrap,entR_wrap];exact fill_wrap w0 W eb nm h
theorem fillAt_two (k:Nat) (hk:k < 9):∃ f,fillAt k=.func (.func f) #[] #[]∧∀ (v:Value) (W:World),(callFunc f #[v]).run Tryz.prog W=.ok (.enter f #[v]) W:=by
  match k,hk with
  | 0,_=>exact ⟨_,rfl,fun _ _=>by kernel_rfl⟩
  | 1,_=>exact ⟨_,rfl,fun _ _=>by kernel_rfl⟩
  | 2,_=>exact ⟨_,rfl,fun _ _=>by kernel_rfl⟩
  | 3,_=>exact ⟨_,rfl,fun _ _=>by kernel_rfl⟩
  | 4,_=>exact ⟨_,rfl,fun _ _=>by kernel_rfl⟩
  | 5,_=>exact ⟨_,rfl,fun _ _=>by kernel_rfl⟩
  | 6,_=>exact ⟨_,rfl,fun _ _=>by kernel_rfl⟩
  | 7,_=>exact ⟨_,rfl,fun _ _=>by kernel_rfl⟩
  | 8,_=>exact ⟨_,rfl,fun _ _=>by kernel_rfl⟩
structure Box3 (w:World) (g:Nat) (x0 x1 x2:Value):Prop where
  c0:w.cell? ⟨g,0,none⟩=some x0
  c1:w.cell? ⟨g,1,none⟩=some x1
  c2:w.cell? ⟨g,2,none⟩=some x2
  f0:w.frozen? ⟨g,0,none⟩=false
  f1:w.frozen? ⟨g,1,none⟩=false
  f2:w.frozen? ⟨g,2,none⟩=false
theorem box3_new (w:World) (x0 x1 x2:Value) (t:TypeId):Box3 (w.alloc (.cells #[x0,x1,x2] t)) w.heap.size x0 x1 x2 where
  c0:=World.cell?_alloc_mark w #[x0,x1,x2] t (0,0) 0
  c1:=World.cell?_alloc_mark w #[x0,x1,x2] t (0,0) 1
  c2:=World.cell?_alloc_mark w #[x0,x1,x2] t (0,0) 2
  f0:=by simp
  f1:=by simp
  f2:=by simp
theorem Box3.block {w w':World} {g:Nat} {x0 x1 x2:Value} (h:Box3 w g x0 x1 x2) (hk:w'.heap[g]? = w.heap[g]?):Box3 w' g x0 x1 x2 :=
  ⟨(World.cell?_of_block hk).trans h.c0,(World.cell?_of_block hk).trans h.c1,(World.cell?_of_block hk).trans h.c2,(World.frozen?_of_block hk).trans h.f0,(World.frozen?_of_block hk).trans h.f1,(World.frozen?_of_block hk).trans h.f2⟩
theorem Box3.lt {w:World} {g:Nat} {x0 x1 x2:Value} (h:Box3 w g x0 x1 x2):g < w.heap.size:=World.block_lt_of_cell? w _ h.c0
theorem Box3.below {w w':World} {g:Nat} {x0 x1 x2:Value} (h:Box3 w g x0 x1 x2) (hb:Below w.heap.size w w'):Box3 w' g x0 x1 x2:=h.block (hb.block g h.lt)
set_option maxRecDepth 100000 in
set_option maxHeartbeats 2000000 in
theorem pget12_any (s:ByteArray) (w:World) :
    Calls Tryz.prog 34 #[.string s] w (PGetPost s w):=by
  have PR:=Lib.hid (fun (W:World)=>pprims_any W)
  have FL:=Lib.hid (fun (k:Nat) (hk:k < 9)=>fill_any k hk)
  unfold FillI FillPost at FL
  unfold PGetPost
  have hbR:Below w.heap.size w (w.alloc (.cells #[.string ⟨#[]⟩,.slice none 0 0,.slice none 0 0] 88)):=(Below.refl _ _).alloc (Nat.le_refl _) _
  have hbx:=box3_new w (.string ⟨#[]⟩) (.slice none 0 0) (.slice none 0 0) 88
  have HBX:=Lib.hid (fun (W:World) (h:Below (w.alloc (.cells #[.string ⟨#[]⟩,.slice none 0 0,.slice none 0 0] 88)).heap.size (w.alloc (.cells #[.string ⟨#[]⟩,.slice none 0 0,.slice none 0 0] 88)) W)=>(show Box3 W w.heap.size (.string ⟨#[]⟩) (.slice none 0 0) (.slice none 0 0)∧Below w.heap.size w W from ⟨hbx.below h,below_next hbR h⟩))
  clear hbx hbR
  go_enter Tryz.func34,Tryz.ntmps34
  go_wp2_with fail
  refine (PR.out _).mono ?_;rintro e w1 ⟨rfl,hp,hb1⟩
  obtain ⟨hx1,hw1⟩:=HBX.out w1 hb1
  have HX1:=Lib.hid hx1
  have HW1:=Lib.hid hw1
  have hgl:=hx1.lt
  obtain ⟨pb,hpb⟩:∃ pb,(w.alloc (.cells #[.string ⟨#[]⟩,.slice none 0 0,.slice none 0 0] 88)).heap.size=pb:=⟨_,rfl⟩
  rw [hpb] at hp ⊢
  have HP:=Lib.hid hp
  clear hx1 hw1 hb1 hp hpb HBX
  go_wp2_with fail
  go_loopw [9] (fun i wr=>∃ k:Nat,i=.int .i64 k∧k≤9∧(∀ j,j < k→((nmAt j).toList==s.toList)=false)∧Below w1.heap.size w1 wr) (fun i _=>9 - (intOf i).toNat)
  case atStart=>exact ⟨0,rfl,by omega,(fun j hj=>by omega),Below.refl _ _⟩
  case round =>
    obtain ⟨k,rfl,hk,hno,hb⟩:=hrel
    by_cases hk1:k < 9
    · have hkc:(k:Int) < 9:=by omega
      have hk0:(0:Int)≤(k:Int):=by omega
      obtain ⟨c0,c1⟩:=(HP.out.below hb).2 k hk1
      obtain ⟨f,hf,hcf⟩:=fillAt_two k hk1
      have FK:=Lib.hid (fun W eb nm h=>FL.out k hk1 w W eb nm h f hf)
      rw [hf] at c1
      have hlib:=libN_at k
      have HB:=Lib.hid hb
      have hbxr:=HX1.out.below hb
      cases hcmp:((nmAt k).toList==s.toList) with
      | true =>
        have hns:nmAt k=s:=toList_iff.1 hcmp
        rw [hns] at c0 hlib hcmp FK
        have HI:=Lib.hid (isEnt_iff.2 hlib)
        have hb1:Below wr.heap.size wr (wr.alloc (.cells #[.string s,.func (.func f) #[] #[]] 148)):=(Below.refl _ _).alloc (Nat.le_refl _) _
        have hb2:Below (wr.heap.size + 1) (wr.alloc (.cells #[.string s,.func (.func f) #[] #[]] 148)) ((wr.alloc (.cells #[.string s,.func (.func f) #[] #[]] 148)).alloc (.cells #[.string s,.slice none 0 0,.slice none 0 0] 88)):=(Below.refl _ _).alloc (by simp) _
        have hbe:=box3_new (wr.alloc (.cells #[.string s,.func (.func f) #[] #[]] 148)) (.string s) (.slice none 0 0) (.slice none 0 0) 88
        rw [show (wr.alloc (.cells #[.string s,.func (.func f) #[] #[]] 148)).heap.size=wr.heap.size + 1 from by simp] at hbe
        have hz2:((wr.alloc (.cells #[.string s,.func (.func f) #[] #[]] 148)).alloc (.cells #[.string s,.slice none 0 0,.slice none 0 0] 88)).heap.size=wr.heap.size + 1 + 1:=by simp
        have hbw:=hb1.trans (hb2.mono (Nat.le_succ _))
        have hx2:=hbxr.below hbw
        have HPK:=Lib.hid (And.intro hbe (And.intro hz2 (And.intro (below_next hb hbw) hx2)))
        have hws:w.heap.size < wr.heap.size:=hbxr.lt
        clear hb1 hb2 hbe hz2 hbw hx2 hbxr hno hlib hf hb HB
        go_wp2_with fail
        obtain ⟨hbe,hz2,hb2,hx2⟩:=HPK.out
        obtain ⟨W2,hW2⟩:∃ W2,((wr.alloc (.cells #[.string s,.func (.func f) #[] #[]] 148)).alloc (.cells #[.string s,.slice none 0 0,.slice none 0 0] 88))=W2:=⟨_,rfl⟩
        rw [hW2] at hbe hz2 hb2 hx2 ⊢
        have HB2:=Lib.hid hb2
        refine (FK.out W2 (wr.heap.size + 1) s ⟨hbe.c0,hbe.c1,hbe.c2,hbe.f1,hbe.f2⟩).mono ?_;rintro e w3 ⟨rfl,⟨base,vf,vr,hE⟩,hO⟩
        have hle:=hE.le
        have hlt:=hE.lt
        have hrd:Reads w w3:=reads_below ((below_next HW1.out hb2).trans (hO.below (by have:=HW1.out.size;omega) (by have:=HW1.out.size;have:=hb2.size;omega)))
        obtain ⟨q0,q1,q2,q3,q4,q5⟩:=hx2.block (hO.block w.heap.size (by omega) (by omega))
        have e0:=hE.c0
        have e1:=hE.c1
        have e2:=hE.c2
        obtain ⟨⟨av,cv,rfl⟩,⟨ar,cr,rfl⟩⟩:=hE.ent.slices
        have HE:=Lib.hid hE
        have HO:=Lib.hid hO
        have HRD:=Lib.hid hrd
        have HWW:=Lib.hid ((below_next HW1.out hb2).trans (hO.below (n:=w.heap.size) (by have:=HW1.out.size;omega) (by have:=HW1.out.size;have:=hb2.size;omega)))
        have hwb:w.heap.size < base:=by omega
        clear hrd hE hO hbe hx2 hz2 hb2 HPK hW2
        go_wp2_with fail
        have hset:∀ k,base≤k→(((w3.setCell ⟨w.heap.size,0,none⟩ (.string s)).setCell ⟨w.heap.size,1,none⟩ (.slice av (entF s).length cv)).setCell ⟨w.heap.size,2,none⟩ (.slice ar (entR s).length cr)).heap[k]? = w3.heap[k]? := fun k hk=>by
          rw [Below.heap_setCell _ _ _ _ (by show k≠w.heap.size;omega),Below.heap_setCell _ _ _ _ (by show k≠w.heap.size;omega),Below.heap_setCell _ _ _ _ (by show k≠w.heap.size;omega)]
        have hent:=HE.out.ent.ahead (W':=(((w3.setCell ⟨w.heap.size,0,none⟩ (.string s)).setCell ⟨w.heap.size,1,none⟩ (.slice av (entF s).length cv)).setCell ⟨w.heap.size,2,none⟩ (.slice ar (entR s).length cr))) (by simp) hset
        have hbf:Below w.heap.size w (((w3.setCell ⟨w.heap.size,0,none⟩ (.string s)).setCell ⟨w.heap.size,1,none⟩ (.slice av (entF s).length cv)).setCell ⟨w.heap.size,2,none⟩ (.slice ar (entR s).length cr)) :=
          ((HWW.out.setCell (p:=⟨w.heap.size,0,none⟩) (Nat.le_refl _) _).setCell (p:=⟨w.heap.size,1,none⟩) (Nat.le_refl _) _).setCell (p:=⟨w.heap.size,2,none⟩) (Nat.le_refl _) _
        have hlr:=lib_right s
        obtain ⟨r1,r2⟩:=hent.reads (reads_below hbf) (by unfold entF;have:=hlr.lenF;omega) (by unfold entR;have:=hlr.lenR;omega)
        refine bodyPost_ret (v:=.tuple #[.agg #[.string s,.slice av (entF s).length cv,.slice ar (entR s).length cr],.bool true]) (by simp [results,Tryz.results34,go_sem,q0,q1,q2]) rfl ⟨.slice av (entF s).length cv,.slice ar (entR s).length cr,?_,r1,r2,hbf⟩
        unfold entN
        rw [HI.out];rfl
      | false =>
        have hne:∀ j,j < k + 1→((nmAt j).toList==s.toList)=false:=fun j hj=>by
          by_cases e:j=k
          · rw [e];exact hcmp
          · exact hno j (by omega)
        have HNE:=Lib.hid hne
        have HB3:=Lib.hid (fun o=>hb.alloc hb.size o)
        clear hne hno hb hlib FK HB
        obtain ⟨nm,hnm⟩:∃ nm,nmAt k=nm:=⟨_,rfl⟩
        rw [hnm] at hcmp c0
        clear hnm hf hbxr
        go_wp2_with fail
        go_roundw
        case rel=>exact ⟨k + 1,by go_num,by omega,HNE.out,HB3.out _⟩
        case measure=>simp [intOf];omega
    · obtain rfl:k=9:=by omega
      have hE:isEnt s=false:=by
        rw [← Bool.not_eq_true,isEnt_iff]
        intro hm
        obtain ⟨j,hj,hje⟩:=List.getElem_of_mem hm
        have:=hno j hj
        unfold nmAt at this
        rw [List.getElem?_eq_getElem hj,hje] at this
        simp at this
      obtain ⟨t1,t2⟩:=ent_none12 hE
      obtain ⟨q0,q1,q2,q3,q4,q5⟩:=HX1.out.below hb
      have HB:=Lib.hid hb
      have HEN:=Lib.hid (And.intro hE (And.intro t1 t2))
      clear hb hno hE t1 t2
      go_wp2_with fail
      refine bodyPost_ret (v:=.tuple #[.agg #[.string ⟨#[]⟩,.slice none 0 0,.slice none 0 0],.bool false]) (by simp [results,Tryz.results34,go_sem,q0,q1,q2]) rfl ⟨.slice none 0 0,.slice none 0 0,?_,?_,?_,?_⟩
      · unfold entN;rw [HEN.out.1];rfl
      · rw [HEN.out.2.1];exact Fus.none_ _ _ _
      · rw [HEN.out.2.2];exact Rls.none_ _ _ _
      · exact (((HW1.out.trans (HB.out.mono HW1.out.size)).setCell (p:=⟨w.heap.size,0,none⟩) (Nat.le_refl _) _).setCell (p:=⟨w.heap.size,1,none⟩) (Nat.le_refl _) _).setCell (p:=⟨w.heap.size,2,none⟩) (Nat.le_refl _) _
end Go.Proofs.YtjcleokfpohpdaaGreatDoor
