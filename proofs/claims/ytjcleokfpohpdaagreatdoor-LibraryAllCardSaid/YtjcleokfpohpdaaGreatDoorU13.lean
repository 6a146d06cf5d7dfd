/-
  The program's library, the primitive aenc: its method. (printed by tools/genfill.py)
  The program's library, the primitive raenc: its method. (printed by tools/genfill.py)
-/
import Derived.Test.YtjcleokfpohpdaaGreatDoorU10
import Derived.Test.YtjcleokfpohpdaaGreatDoorU07
import Derived.Deep.RegionHeld3
namespace Go.Proofs.YtjcleokfpohpdaaGreatDoor
open Go.RowKit
set_option maxRecDepth 100000 in
set_option maxHeartbeats 4000000 in
theorem fill_aenc (w0 W:World) (eb:Nat) (nm:ByteArray) (h:E0 W eb nm) :
    Calls Tryz.prog 121 #[.pointer (some ⟨eb,0,none⟩)] W (FillPost w0 W eb nm fsAenc rsAenc):=by
  have VR:=Lib.hid (fun (s:ByteArray) (W:World)=>pvar_any s W)
  have HE0:=Lib.hid h
  have hlt:=h.lt
  clear h
  unfold FillPost fsAenc rsAenc
  go_enter Tryz.func121,Tryz.ntmps121
  go_wp2_with fail
  refine (VR.out ⟨#[88]⟩ _).mono ?_;rintro e w1 ⟨rfl,hv1⟩
  go_wp2_with fail
  refine (VR.out ⟨#[75]⟩ _).mono ?_;rintro e w2 ⟨rfl,hv2⟩
  have hV1:=hv1
  have hV2:=below_next hV1 hv2
  have hA1:Below w2.heap.size w2 (w2.alloc (.cells #[.int .i64 1,.string ⟨#[88]⟩,.int .i64 0,.slice none 0 0] 70)):=(Below.refl _ _).alloc (Nat.le_refl _) _
  have hx1:=varB_new w2 ⟨#[88]⟩ 70 _ rfl
  have hA2:Below (w2.alloc (.cells #[.int .i64 1,.string ⟨#[88]⟩,.int .i64 0,.slice none 0 0] 70)).heap.size (w2.alloc (.cells #[.int .i64 1,.string ⟨#[88]⟩,.int .i64 0,.slice none 0 0] 70)) ((w2.alloc (.cells #[.int .i64 1,.string ⟨#[88]⟩,.int .i64 0,.slice none 0 0] 70)).alloc (.cells #[.int .i64 1,.string ⟨#[75]⟩,.int .i64 0,.slice none 0 0] 70)):=(Below.refl _ _).alloc (Nat.le_refl _) _
  have hx2:=varB_new (w2.alloc (.cells #[.int .i64 1,.string ⟨#[88]⟩,.int .i64 0,.slice none 0 0] 70)) ⟨#[75]⟩ 70 _ rfl
  rw [show (w2.alloc (.cells #[.int .i64 1,.string ⟨#[88]⟩,.int .i64 0,.slice none 0 0] 70)).heap.size=w2.heap.size + 1 from by simp] at hx2
  have hx1:=hx1.below hA2
  have hB:=hV2
  have HWV:=Lib.hid hV2.size
  have hB:=below_next hB hA1
  have hB:=below_next hB hA2
  have hz:((w2.alloc (.cells #[.int .i64 1,.string ⟨#[88]⟩,.int .i64 0,.slice none 0 0] 70)).alloc (.cells #[.int .i64 1,.string ⟨#[75]⟩,.int .i64 0,.slice none 0 0] 70)).heap.size=w2.heap.size + 1 + 1:=by simp
  have HPK:=Lib.hid (And.intro hB (And.intro hz (And.intro hx1 hx2)))
  clear hB hz hV1 hv1 hA1 hx1 hA2 hx2 hV2 hv2
  go_wp2_with fail
  obtain ⟨hB,hz,⟨hx1,hx2⟩⟩:=HPK.out
  obtain ⟨W3,hW3⟩:∃ W3,((w2.alloc (.cells #[.int .i64 1,.string ⟨#[88]⟩,.int .i64 0,.slice none 0 0] 70)).alloc (.cells #[.int .i64 1,.string ⟨#[75]⟩,.int .i64 0,.slice none 0 0] 70))=W3:=⟨_,rfl⟩
  rw [hW3] at hB hz hx1 hx2 ⊢
  have hwv:W.heap.size≤w2.heap.size:=HWV.out
  have hE:=HE0.out.start w0 W3 hB
  have hO:SinceE W3 W3 eb W3.heap.size:=⟨OnlyE.refl _ _ _,Nat.le_refl _⟩
  have hq1:w2.heap.size < W3.heap.size:=by omega
  have hne1:w2.heap.size≠eb:=by omega
  have hq2:w2.heap.size + 1 < W3.heap.size:=by omega
  have hne2:w2.heap.size + 1≠eb:=by omega
  have HOB:=Lib.hid hB
  obtain ⟨base,hbase⟩:∃ base,W3.heap.size=base:=⟨_,rfl⟩
  rw [hbase] at hE hO hq1 hq2
  have HBS:=Lib.hid (show W.heap.size≤base from by rw [← hbase];exact hB.size)
  clear hB hz hwv hbase hW3 HPK
  refine (pent_fun w0 W3 eb base nm [] [] _ _ (⟨#[97,101,110,99]⟩,2) hE ⟨by decide,by decide,by decide⟩ (by simp)).mono ?_;rintro e u1 ⟨rfl,⟨f1,hE⟩,ho⟩
  have hO:=hO.next ho
  have hx1:=hx1.only ho hq1 hne1
  have hx2:=hx2.only ho hq2 hne2
  clear ho
  go_wp2_with fail
  refine (pent_fun w0 u1 eb base nm [(⟨#[97,101,110,99]⟩,2)] [] _ _ (⟨#[97,100,101,99]⟩,2) hE ⟨by decide,by decide,by decide⟩ (by simp)).mono ?_;rintro e u2 ⟨rfl,⟨f2,hE⟩,ho⟩
  have hO:=hO.next ho
  have hx1:=hx1.only ho hq1 hne1
  have hx2:=hx2.only ho hq2 hne2
  clear ho
  go_wp2_with fail
  refine (pent_fun w0 u2 eb base nm [(⟨#[97,101,110,99]⟩,2),(⟨#[97,100,101,99]⟩,2)] [] _ _ (⟨#[112,107]⟩,1) hE ⟨by decide,by decide,by decide⟩ (by simp)).mono ?_;rintro e u3 ⟨rfl,⟨f3,hE⟩,ho⟩
  have hO:=hO.next ho
  have hx1:=hx1.only ho hq1 hne1
  have hx2:=hx2.only ho hq2 hne2
  clear ho
  simp only [List.nil_append,List.cons_append] at hE
  go_wp2_with fail
  have hle:=hE.le
  have hS0:SinceE u3 u3 eb base:=⟨OnlyE.refl _ _ _,hle⟩
  have KX:=Lib.hid (fun (Q:World) (h:SinceE u3 Q eb base)=>(show SinceE u3 Q eb base∧(Q.cell? ⟨w2.heap.size,0,none⟩=some (.int .i64 1)∧Q.cell? ⟨w2.heap.size,1,none⟩=some (.string ⟨#[88]⟩)∧Q.cell? ⟨w2.heap.size,2,none⟩=some (.int .i64 0)∧Q.cell? ⟨w2.heap.size,3,none⟩=some (.slice none 0 0))∧(Q.cell? ⟨w2.heap.size + 1,0,none⟩=some (.int .i64 1)∧Q.cell? ⟨w2.heap.size + 1,1,none⟩=some (.string ⟨#[75]⟩)∧Q.cell? ⟨w2.heap.size + 1,2,none⟩=some (.int .i64 0)∧Q.cell? ⟨w2.heap.size + 1,3,none⟩=some (.slice none 0 0)) from ⟨h,(hx1.only h.only hq1 hne1).all,(hx2.only h.only hq2 hne2).all⟩))
  have KA:=Lib.hid (fun (Q:World) (o:Obj) (h:SinceE u3 Q eb base∧(Q.cell? ⟨w2.heap.size,0,none⟩=some (.int .i64 1)∧Q.cell? ⟨w2.heap.size,1,none⟩=some (.string ⟨#[88]⟩)∧Q.cell? ⟨w2.heap.size,2,none⟩=some (.int .i64 0)∧Q.cell? ⟨w2.heap.size,3,none⟩=some (.slice none 0 0))∧(Q.cell? ⟨w2.heap.size + 1,0,none⟩=some (.int .i64 1)∧Q.cell? ⟨w2.heap.size + 1,1,none⟩=some (.string ⟨#[75]⟩)∧Q.cell? ⟨w2.heap.size + 1,2,none⟩=some (.int .i64 0)∧Q.cell? ⟨w2.heap.size + 1,3,none⟩=some (.slice none 0 0)))=>KX.out (Q.alloc o) (h.1.below ((Below.refl _ _).alloc (Nat.le_refl _) _)))
  have KD:=Lib.hid (fun (Q:World) (o:Obj) (h:SinceE u3 Q.drew eb base∧(Q.drew.cell? ⟨w2.heap.size,0,none⟩=some (.int .i64 1)∧Q.drew.cell? ⟨w2.heap.size,1,none⟩=some (.string ⟨#[88]⟩)∧Q.drew.cell? ⟨w2.heap.size,2,none⟩=some (.int .i64 0)∧Q.drew.cell? ⟨w2.heap.size,3,none⟩=some (.slice none 0 0))∧(Q.drew.cell? ⟨w2.heap.size + 1,0,none⟩=some (.int .i64 1)∧Q.drew.cell? ⟨w2.heap.size + 1,1,none⟩=some (.string ⟨#[75]⟩)∧Q.drew.cell? ⟨w2.heap.size + 1,2,none⟩=some (.int .i64 0)∧Q.drew.cell? ⟨w2.heap.size + 1,3,none⟩=some (.slice none 0 0)))=>KX.out ((Q.alloc o).drew) (h.1.below (show Below Q.drew.heap.size Q.drew (Q.drew.alloc o) from (Below.refl _ _).alloc (Nat.le_refl _) _)))
  have KD2:=Lib.hid (fun (Q:World) (o:Obj) (h:SinceE u3 Q eb base∧(Q.cell? ⟨w2.heap.size,0,none⟩=some (.int .i64 1)∧Q.cell? ⟨w2.heap.size,1,none⟩=some (.string ⟨#[88]⟩)∧Q.cell? ⟨w2.heap.size,2,none⟩=some (.int .i64 0)∧Q.cell? ⟨w2.heap.size,3,none⟩=some (.slice none 0 0))∧(Q.cell? ⟨w2.heap.size + 1,0,none⟩=some (.int .i64 1)∧Q.cell? ⟨w2.heap.size + 1,1,none⟩=some (.string ⟨#[75]⟩)∧Q.cell? ⟨w2.heap.size + 1,2,none⟩=some (.int .i64 0)∧Q.cell? ⟨w2.heap.size + 1,3,none⟩=some (.slice none 0 0)))=>KX.out ((Q.alloc o).drew) (h.1.below (W:=Q) (((Below.refl _ _).alloc (Nat.le_refl _) _).drew)))
  have K0:=Lib.hid (KX.out u3.drew (hS0.below ((Below.refl _ _).drew)))
  have hEr:=hE
  have KS:=Lib.hid (fun (Q:World) (h:SinceE u3 Q eb base∧(Q.cell? ⟨w2.heap.size,0,none⟩=some (.int .i64 1)∧Q.cell? ⟨w2.heap.size,1,none⟩=some (.string ⟨#[88]⟩)∧Q.cell? ⟨w2.heap.size,2,none⟩=some (.int .i64 0)∧Q.cell? ⟨w2.heap.size,3,none⟩=some (.slice none 0 0))∧(Q.cell? ⟨w2.heap.size + 1,0,none⟩=some (.int .i64 1)∧Q.cell? ⟨w2.heap.size + 1,1,none⟩=some (.string ⟨#[75]⟩)∧Q.cell? ⟨w2.heap.size + 1,2,none⟩=some (.int .i64 0)∧Q.cell? ⟨w2.heap.size + 1,3,none⟩=some (.slice none 0 0)))=>h.1)
  have KL:=Lib.hid (fun (Q:World) (h:SinceE u3 Q eb base∧(Q.cell? ⟨w2.heap.size,0,none⟩=some (.int .i64 1)∧Q.cell? ⟨w2.heap.size,1,none⟩=some (.string ⟨#[88]⟩)∧Q.cell? ⟨w2.heap.size,2,none⟩=some (.int .i64 0)∧Q.cell? ⟨w2.heap.size,3,none⟩=some (.slice none 0 0))∧(Q.cell? ⟨w2.heap.size + 1,0,none⟩=some (.int .i64 1)∧Q.cell? ⟨w2.heap.size + 1,1,none⟩=some (.string ⟨#[75]⟩)∧Q.cell? ⟨w2.heap.size + 1,2,none⟩=some (.int .i64 0)∧Q.cell? ⟨w2.heap.size + 1,3,none⟩=some (.slice none 0 0)))=>h.1.only.size)
  go_region_held3 (fun Q=>SinceE u3 Q eb base∧(Q.cell? ⟨w2.heap.size,0,none⟩=some (.int .i64 1)∧Q.cell? ⟨w2.heap.size,1,none⟩=some (.string ⟨#[88]⟩)∧Q.cell? ⟨w2.heap.size,2,none⟩=some (.int .i64 0)∧Q.cell? ⟨w2.heap.size,3,none⟩=some (.slice none 0 0))∧(Q.cell? ⟨w2.heap.size + 1,0,none⟩=some (.int .i64 1)∧Q.cell? ⟨w2.heap.size + 1,1,none⟩=some (.string ⟨#[75]⟩)∧Q.cell? ⟨w2.heap.size + 1,2,none⟩=some (.int .i64 0)∧Q.cell? ⟨w2.heap.size + 1,3,none⟩=some (.slice none 0 0)))
    (first | exact K0.out | assumption | exact KA.out _ _ (by assumption) | exact KD.out _ _ (by assumption) | exact KD2.out _ _ (by assumption))
    (first
      | (go_at_call 167;refine (erule w0 u3 u3 _ eb base nm [(⟨#[97,101,110,99]⟩,2),(⟨#[97,100,101,99]⟩,2),(⟨#[112,107]⟩,1)] [] _ _ hEr ?_ ?_ (⟨.mk 5 ⟨#[97,100,101,99]⟩ 0 [.mk 5 ⟨#[97,101,110,99]⟩ 0 [.mk 1 ⟨#[88]⟩ 0 [],.mk 5 ⟨#[112,107]⟩ 0 [.mk 1 ⟨#[75]⟩ 0 []]],.mk 1 ⟨#[75]⟩ 0 []],za3_1,zc3_1⟩:Tv) (varV ⟨#[88]⟩) ?_ ?_ ?_ (by simp)).mono ?_;(· exact (hE.below (by first | exact Below.refl _ _ | exact (Below.refl _ _).drew | exact (Below.refl _ _).alloc (Nat.le_refl _) _ | exact ((Below.refl _ _).alloc (Nat.le_refl _) _).drew | exact (((Below.refl _ _).alloc (Nat.le_refl _) _).alloc (by simp) _).drew | exact ((Below.refl _ _).alloc (Nat.le_refl _) _).alloc (by simp) _)));(· exact KS.out _ (by assumption));(· exact fresh_below hz3_1 (by first | exact Below.refl _ _ | exact (Below.refl _ _).drew | exact (Below.refl _ _).alloc (Nat.le_refl _) _ | exact ((Below.refl _ _).alloc (Nat.le_refl _) _).drew | exact (((Below.refl _ _).alloc (Nat.le_refl _) _).alloc (by simp) _).drew | exact ((Below.refl _ _).alloc (Nat.le_refl _) _).alloc (by simp) _));(· exact fresh_var ⟨#[88]⟩ (by decide) _ _ _);(· exact KL.out _ (by assumption));rintro e x1 ⟨rfl,⟨g1,hE⟩,hs1r⟩;have hSr:=KX.out _ hs1r)
      | (have hq:=hz2_1;clear hq;go_at_call 168;refine (efun w0 u3 u3 eb base ⟨#[97,100,101,99]⟩ _ 2 [(⟨.mk 5 ⟨#[97,101,110,99]⟩ 0 [.mk 1 ⟨#[88]⟩ 0 [],.mk 5 ⟨#[112,107]⟩ 0 [.mk 1 ⟨#[75]⟩ 0 []]],za2_1,zc2_1⟩:Tv),(varV ⟨#[75]⟩)] _ rfl (by decide) (by simp) ?_ ?_ ?_ ?_).mono ?_;(· exact KS.out _ (by assumption));(· exact KL.out _ (by assumption));(· (first | exact rowV_new _ _ _ _ rfl | exact (rowV_new _ _ _ _ rfl).drew | exact (rowV_new _ _ _ _ (by simp)).drew | exact rowV_new _ _ _ _ (by simp)));(· exact (by intro x hx;simp only [List.mem_cons,List.not_mem_nil,or_false] at hx;rcases hx with rfl | rfl<;>first | exact fresh_var _ (by decide) _ _ _ | exact fresh_below hz1_1 (by first | exact Below.refl _ _ | exact (Below.refl _ _).drew | exact (Below.refl _ _).alloc (Nat.le_refl _) _ | exact ((Below.refl _ _).alloc (Nat.le_refl _) _).drew | exact (((Below.refl _ _).alloc (Nat.le_refl _) _).alloc (by simp) _).drew | exact ((Below.refl _ _).alloc (Nat.le_refl _) _).alloc (by simp) _) | exact fresh_below hz2_1 (by first | exact Below.refl _ _ | exact (Below.refl _ _).drew | exact (Below.refl _ _).alloc (Nat.le_refl _) _ | exact ((Below.refl _ _).alloc (Nat.le_refl _) _).drew | exact (((Below.refl _ _).alloc (Nat.le_refl _) _).alloc (by simp) _).drew | exact ((Below.refl _ _).alloc (Nat.le_refl _) _).alloc (by simp) _)));rintro e v3_1 ⟨za3_1,zc3_1,rfl,hz3_1,hb3_1,hs3_1⟩;have hn30_1:=below_next (show Below v2_1.heap.size v2_1 _ from (by first | exact Below.refl _ _ | exact (Below.refl _ _).drew | exact (Below.refl _ _).alloc (Nat.le_refl _) _ | exact ((Below.refl _ _).alloc (Nat.le_refl _) _).drew | exact (((Below.refl _ _).alloc (Nat.le_refl _) _).alloc (by simp) _).drew | exact ((Below.refl _ _).alloc (Nat.le_refl _) _).alloc (by simp) _)) hb3_1;have hE:=hE.below hn30_1;have hz1_1:=fresh_below hz1_1 hn30_1;have hz2_1:=fresh_below hz2_1 hn30_1;have hS3_1:=KX.out _ hs3_1)
      | (have hq:=hz1_1;clear hq;go_at_call 168;refine (efun w0 u3 u3 eb base ⟨#[97,101,110,99]⟩ _ 2 [(varV ⟨#[88]⟩),(⟨.mk 5 ⟨#[112,107]⟩ 0 [.mk 1 ⟨#[75]⟩ 0 []],za1_1,zc1_1⟩:Tv)] _ rfl (by decide) (by simp) ?_ ?_ ?_ ?_).mono ?_;(· exact KS.out _ (by assumption));(· exact KL.out _ (by assumption));(· (first | exact rowV_new _ _ _ _ rfl | exact (rowV_new _ _ _ _ rfl).drew | exact (rowV_new _ _ _ _ (by simp)).drew | exact rowV_new _ _ _ _ (by simp)));(· exact (by intro x hx;simp only [List.mem_cons,List.not_mem_nil,or_false] at hx;rcases hx with rfl | rfl<;>first | exact fresh_var _ (by decide) _ _ _ | exact fresh_below hz1_1 (by first | exact Below.refl _ _ | exact (Below.refl _ _).drew | exact (Below.refl _ _).alloc (Nat.le_refl _) _ | exact ((Below.refl _ _).alloc (Nat.le_refl _) _).drew | exact (((Below.refl _ _).alloc (Nat.le_refl _) _).alloc (by simp) _).drew | exact ((Below.refl _ _).alloc (Nat.le_refl _) _).alloc (by simp) _)));rintro e v2_1 ⟨za2_1,zc2_1,rfl,hz2_1,hb2_1,hs2_1⟩;have hn20_1:=below_next (show Below v1_1.heap.size v1_1 _ from (by first | exact Below.refl _ _ | exact (Below.refl _ _).drew | exact (Below.refl _ _).alloc (Nat.le_refl _) _ | exact ((Below.refl _ _).alloc (Nat.le_refl _) _).drew | exact (((Below.refl _ _).alloc (Nat.le_refl _) _).alloc (by simp) _).drew | exact ((Below.refl _ _).alloc (Nat.le_refl _) _).alloc (by simp) _)) hb2_1;have hE:=hE.below hn20_1;have hz1_1:=fresh_below hz1_1 hn20_1;have hS2_1:=KX.out _ hs2_1)
      | (go_at_call 168;refine (efun w0 u3 u3 eb base ⟨#[112,107]⟩ _ 1 [(varV ⟨#[75]⟩)] _ rfl (by decide) (by simp) ?_ ?_ ?_ ?_).mono ?_;(· exact KS.out _ (by assumption));(· exact KL.out _ (by assumption));(· (first | exact rowV_new _ _ _ _ rfl | exact (rowV_new _ _ _ _ rfl).drew | exact (rowV_new _ _ _ _ (by simp)).drew | exact rowV_new _ _ _ _ (by simp)));(· exact (by intro x hx;simp only [List.mem_cons,List.not_mem_nil,or_false] at hx;rcases hx with rfl<;>first | exact fresh_var _ (by decide) _ _ _));rintro e v1_1 ⟨za1_1,zc1_1,rfl,hz1_1,hb1_1,hs1_1⟩;have hn10_1:=below_next (show Below u3.heap.size u3 _ from (by first | exact Below.refl _ _ | exact (Below.refl _ _).drew | exact (Below.refl _ _).alloc (Nat.le_refl _) _ | exact ((Below.refl _ _).alloc (Nat.le_refl _) _).drew | exact (((Below.refl _ _).alloc (Nat.le_refl _) _).alloc (by simp) _).drew | exact ((Below.refl _ _).alloc (Nat.le_refl _) _).alloc (by simp) _)) hb1_1;have hE:=hE.below hn10_1;have hS1_1:=KX.out _ hs1_1)
      | fail)
  have ho:=hs1r.only
  have hO:=hO.next ho
  have hx1:=hx1.only ho hq1 hne1
  have hx2:=hx2.only ho hq2 hne2
  simp only [List.nil_append] at hE
  clear ho KX KA KD KD2 K0 KS KL hEr hS0 hSr hs1r hle hb1_1 hs1_1 hz1_1 hS1_1 hn10_1 hb2_1 hs2_1 hz2_1 hS2_1 hn20_1 hb3_1 hs3_1 hz3_1 hS3_1 hn30_1
  (try go_wp2_with fail)
  go_end0
  exact ⟨rfl,⟨_,_,_,hE⟩,(onlyE_below HOB.out (Nat.le_refl _)).trans (hO.only.less HBS.out)⟩
end Go.Proofs.YtjcleokfpohpdaaGreatDoor
namespace Go.Proofs.YtjcleokfpohpdaaGreatDoor
open Go.RowKit
set_option maxRecDepth 100000 in
set_option maxHeartbeats 4000000 in
theorem fill_raenc (w0 W:World) (eb:Nat) (nm:ByteArray) (h:E0 W eb nm) :
    Calls Tryz.prog 122 #[.pointer (some ⟨eb,0,none⟩)] W (FillPost w0 W eb nm fsRaenc rsRaenc):=by
  have VR:=Lib.hid (fun (s:ByteArray) (W:World)=>pvar_any s W)
  have HE0:=Lib.hid h
  have hlt:=h.lt
  clear h
  unfold FillPost fsRaenc rsRaenc
  go_enter Tryz.func122,Tryz.ntmps122
  go_wp2_with fail
  refine (VR.out ⟨#[88]⟩ _).mono ?_;rintro e w1 ⟨rfl,hv1⟩
  go_wp2_with fail
  refine (VR.out ⟨#[82]⟩ _).mono ?_;rintro e w2 ⟨rfl,hv2⟩
  go_wp2_with fail
  refine (VR.out ⟨#[75]⟩ _).mono ?_;rintro e w3 ⟨rfl,hv3⟩
  have hV1:=hv1
  have hV2:=below_next hV1 hv2
  have hV3:=below_next hV2 hv3
  have hA1:Below w3.heap.size w3 (w3.alloc (.cells #[.int .i64 1,.string ⟨#[88]⟩,.int .i64 0,.slice none 0 0] 70)):=(Below.refl _ _).alloc (Nat.le_refl _) _
  have hx1:=varB_new w3 ⟨#[88]⟩ 70 _ rfl
  have hA2:Below (w3.alloc (.cells #[.int .i64 1,.string ⟨#[88]⟩,.int .i64 0,.slice none 0 0] 70)).heap.size (w3.alloc (.cells #[.int .i64 1,.string ⟨#[88]⟩,.int .i64 0,.slice none 0 0] 70)) ((w3.alloc (.cells #[.int .i64 1,.string ⟨#[88]⟩,.int .i64 0,.slice none 0 0] 70)).alloc (.cells #[.int .i64 1,.string ⟨#[82]⟩,.int .i64 0,.slice none 0 0] 70)):=(Below.refl _ _).alloc (Nat.le_refl _) _
  have hx2:=varB_new (w3.alloc (.cells #[.int .i64 1,.string ⟨#[88]⟩,.int .i64 0,.slice none 0 0] 70)) ⟨#[82]⟩ 70 _ rfl
  rw [show (w3.alloc (.cells #[.int .i64 1,.string ⟨#[88]⟩,.int .i64 0,.slice none 0 0] 70)).heap.size=w3.heap.size + 1 from by simp] at hx2
  have hA3:Below ((w3.alloc (.cells #[.int .i64 1,.string ⟨#[88]⟩,.int .i64 0,.slice none 0 0] 70)).alloc (.cells #[.int .i64 1,.string ⟨#[82]⟩,.int .i64 0,.slice none 0 0] 70)).heap.size ((w3.alloc (.cells #[.int .i64 1,.string ⟨#[88]⟩,.int .i64 0,.slice none 0 0] 70)).alloc (.cells #[.int .i64 1,.string ⟨#[82]⟩,.int .i64 0,.slice none 0 0] 70)) (((w3.alloc (.cells #[.int .i64 1,.string ⟨#[88]⟩,.int .i64 0,.slice none 0 0] 70)).alloc (.cells #[.int .i64 1,.string ⟨#[82]⟩,.int .i64 0,.slice none 0 0] 70)).alloc (.cells #[.int .i64 1,.string ⟨#[75]⟩,.int .i64 0,.slice none 0 0] 70)):=(Below.refl _ _).alloc (Nat.le_refl _) _
  have hx3:=varB_new ((w3.alloc (.cells #[.int .i64 1,.string ⟨#[88]⟩,.int .i64 0,.slice none 0 0] 70)).alloc (.cells #[.int .i64 1,.string ⟨#[82]⟩,.int .i64 0,.slice none 0 0] 70)) ⟨#[75]⟩ 70 _ rfl
  rw [show ((w3.alloc (.cells #[.int .i64 1,.string ⟨#[88]⟩,.int .i64 0,.slice none 0 0] 70)).alloc (.cells #[.int .i64 1,.string ⟨#[82]⟩,.int .i64 0,.slice none 0 0] 70)).heap.size=w3.heap.size + 1 + 1 from by simp] at hx3
  have hx1:=hx1.below hA2
  have hx1:=hx1.below hA3
  have hx2:=hx2.below hA3
  have hB:=hV3
  have HWV:=Lib.hid hV3.size
  have hB:=below_next hB hA1
  have hB:=below_next hB hA2
  have hB:=below_next hB hA3
  have hz:(((w3.alloc (.cells #[.int .i64 1,.string ⟨#[88]⟩,.int .i64 0,.slice none 0 0] 70)).alloc (.cells #[.int .i64 1,.string ⟨#[82]⟩,.int .i64 0,.slice none 0 0] 70)).alloc (.cells #[.int .i64 1,.string ⟨#[75]⟩,.int .i64 0,.slice none 0 0] 70)).heap.size=w3.heap.size + 1 + 1 + 1:=by simp
  have HPK:=Lib.hid (And.intro hB (And.intro hz (And.intro (And.intro hx1 hx2) hx3)))
  clear hB hz hV1 hv1 hA1 hx1 hA2 hx2 hA3 hx3 hV2 hv2 hV3 hv3
  go_wp2_with fail
  obtain ⟨hB,hz,⟨⟨hx1,hx2⟩,hx3⟩⟩:=HPK.out
  obtain ⟨W3,hW3⟩:∃ W3,(((w3.alloc (.cells #[.int .i64 1,.string ⟨#[88]⟩,.int .i64 0,.slice none 0 0] 70)).alloc (.cells #[.int .i64 1,.string ⟨#[82]⟩,.int .i64 0,.slice none 0 0] 70)).alloc (.cells #[.int .i64 1,.string ⟨#[75]⟩,.int .i64 0,.slice none 0 0] 70))=W3:=⟨_,rfl⟩
  rw [hW3] at hB hz hx1 hx2 hx3 ⊢
  have hwv:W.heap.size≤w3.heap.size:=HWV.out
  have hE:=HE0.out.start w0 W3 hB
  have hO:SinceE W3 W3 eb W3.heap.size:=⟨OnlyE.refl _ _ _,Nat.le_refl _⟩
  have hq1:w3.heap.size < W3.heap.size:=by omega
  have hne1:w3.heap.size≠eb:=by omega
  have hq2:w3.heap.size + 1 < W3.heap.size:=by omega
  have hne2:w3.heap.size + 1≠eb:=by omega
  have hq3:w3.heap.size + 1 + 1 < W3.heap.size:=by omega
  have hne3:w3.heap.size + 1 + 1≠eb:=by omega
  have HOB:=Lib.hid hB
  obtain ⟨base,hbase⟩:∃ base,W3.heap.size=base:=⟨_,rfl⟩
  rw [hbase] at hE hO hq1 hq2 hq3
  have HBS:=Lib.hid (show W.heap.size≤base from by rw [← hbase];exact hB.size)
  clear hB hz hwv hbase hW3 HPK
  refine (pent_fun w0 W3 eb base nm [] [] _ _ (⟨#[114,97,101,110,99]⟩,3) hE ⟨by decide,by decide,by decide⟩ (by simp)).mono ?_;rintro e u1 ⟨rfl,⟨f1,hE⟩,ho⟩
  have hO:=hO.next ho
  have hx1:=hx1.only ho hq1 hne1
  have hx2:=hx2.only ho hq2 hne2
  have hx3:=hx3.only ho hq3 hne3
  clear ho
  go_wp2_with fail
  refine (pent_fun w0 u1 eb base nm [(⟨#[114,97,101,110,99]⟩,3)] [] _ _ (⟨#[114,97,100,101,99]⟩,2) hE ⟨by decide,by decide,by decide⟩ (by simp)).mono ?_;rintro e u2 ⟨rfl,⟨f2,hE⟩,ho⟩
  have hO:=hO.next ho
  have hx1:=hx1.only ho hq1 hne1
  have hx2:=hx2.only ho hq2 hne2
  have hx3:=hx3.only ho hq3 hne3
  clear ho
  go_wp2_with fail
  refine (pent_fun w0 u2 eb base nm [(⟨#[114,97,101,110,99]⟩,3),(⟨#[114,97,100,101,99]⟩,2)] [] _ _ (⟨#[112,107]⟩,1) hE ⟨by decide,by decide,by decide⟩ (by simp)).mono ?_;rintro e u3 ⟨rfl,⟨f3,hE⟩,ho⟩
  have hO:=hO.next ho
  have hx1:=hx1.only ho hq1 hne1
  have hx2:=hx2.only ho hq2 hne2
  have hx3:=hx3.only ho hq3 hne3
  clear ho
  simp only [List.nil_append,List.cons_append] at hE
  go_wp2_with fail
  have hle:=hE.le
  have hS0:SinceE u3 u3 eb base:=⟨OnlyE.refl _ _ _,hle⟩
  have KX:=Lib.hid (fun (Q:World) (h:SinceE u3 Q eb base)=>(show SinceE u3 Q eb base∧(Q.cell? ⟨w3.heap.size,0,none⟩=some (.int .i64 1)∧Q.cell? ⟨w3.heap.size,1,none⟩=some (.string ⟨#[88]⟩)∧Q.cell? ⟨w3.heap.size,2,none⟩=some (.int .i64 0)∧Q.cell? ⟨w3.heap.size,3,none⟩=some (.slice none 0 0))∧(Q.cell? ⟨w3.heap.size + 1,0,none⟩=some (.int .i64 1)∧Q.cell? ⟨w3.heap.size + 1,1,none⟩=some (.string ⟨#[82]⟩)∧Q.cell? ⟨w3.heap.size + 1,2,none⟩=some (.int .i64 0)∧Q.cell? ⟨w3.heap.size + 1,3,none⟩=some (.slice none 0 0))∧(Q.cell? ⟨w3.heap.size + 1 + 1,0,none⟩=some (.int .i64 1)∧Q.cell? ⟨w3.heap.size + 1 + 1,1,none⟩=some (.string ⟨#[75]⟩)∧Q.cell? ⟨w3.heap.size + 1 + 1,2,none⟩=some (.int .i64 0)∧Q.cell? ⟨w3.heap.size + 1 + 1,3,none⟩=some (.slice none 0 0)) from ⟨h,(hx1.only h.only hq1 hne1).all,(hx2.only h.only hq2 hne2).all,(hx3.only h.only hq3 hne3).all⟩))
  have KA:=Lib.hid (fun (Q:World) (o:Obj) (h:SinceE u3 Q eb base∧(Q.cell? ⟨w3.heap.size,0,none⟩=some (.int .i64 1)∧Q.cell? ⟨w3.heap.size,1,none⟩=some (.string ⟨#[88]⟩)∧Q.cell? ⟨w3.heap.size,2,none⟩=some (.int .i64 0)∧Q.cell? ⟨w3.heap.size,3,none⟩=some (.slice none 0 0))∧(Q.cell? ⟨w3.heap.size + 1,0,none⟩=some (.int .i64 1)∧Q.cell? ⟨w3.heap.size + 1,1,none⟩=some (.string ⟨#[82]⟩)∧Q.cell? ⟨w3.heap.size + 1,2,none⟩=some (.int .i64 0)∧Q.cell? ⟨w3.heap.size + 1,3,none⟩=some (.slice none 0 0))∧(Q.cell? ⟨w3.heap.size + 1 + 1,0,none⟩=some (.int .i64 1)∧Q.cell? ⟨w3.heap.size + 1 + 1,1,none⟩=some (.string ⟨#[75]⟩)∧Q.cell? ⟨w3.heap.size + 1 + 1,2,none⟩=some (.int .i64 0)∧Q.cell? ⟨w3.heap.size + 1 + 1,3,none⟩=some (.slice none 0 0)))=>KX.out (Q.alloc o) (h.1.below ((Below.refl _ _).alloc (Nat.le_refl _) _)))
  have KD:=Lib.hid (fun (Q:World) (o:Obj) (h:SinceE u3 Q.drew eb base∧(Q.drew.cell? ⟨w3.heap.size,0,none⟩=some (.int .i64 1)∧Q.drew.cell? ⟨w3.heap.size,1,none⟩=some (.string ⟨#[88]⟩)∧Q.drew.cell? ⟨w3.heap.size,2,none⟩=some (.int .i64 0)∧Q.drew.cell? ⟨w3.heap.size,3,none⟩=some (.slice none 0 0))∧(Q.drew.cell? ⟨w3.heap.size + 1,0,none⟩=some (.int .i64 1)∧Q.drew.cell? ⟨w3.heap.size + 1,1,none⟩=some (.string ⟨#[82]⟩)∧Q.drew.cell? ⟨w3.heap.size + 1,2,none⟩=some (.int .i64 0)∧Q.drew.cell? ⟨w3.heap.size + 1,3,none⟩=some (.slice none 0 0))∧(Q.drew.cell? ⟨w3.heap.size + 1 + 1,0,none⟩=some (.int .i64 1)∧Q.drew.cell? ⟨w3.heap.size + 1 + 1,1,none⟩=some (.string ⟨#[75]⟩)∧Q.drew.cell? ⟨w3.heap.size + 1 + 1,2,none⟩=some (.int .i64 0)∧Q.drew.cell? ⟨w3.heap.size + 1 + 1,3,none⟩=some (.slice none 0 0)))=>KX.out ((Q.alloc o).drew) (h.1.below (show Below Q.drew.heap.size Q.drew (Q.drew.alloc o) from (Below.refl _ _).alloc (Nat.le_refl _) _)))
  have KD2:=Lib.hid (fun (Q:World) (o:Obj) (h:SinceE u3 Q eb base∧(Q.cell? ⟨w3.heap.size,0,none⟩=some (.int .i64 1)∧Q.cell? ⟨w3.heap.size,1,none⟩=some (.string ⟨#[88]⟩)∧Q.cell? ⟨w3.heap.size,2,none⟩=some (.int .i64 0)∧Q.cell? ⟨w3.heap.size,3,none⟩=some (.slice none 0 0))∧(Q.cell? ⟨w3.heap.size + 1,0,none⟩=some (.int .i64 1)∧Q.cell? ⟨w3.heap.size + 1,1,none⟩=some (.string ⟨#[82]⟩)∧Q.cell? ⟨w3.heap.size + 1,2,none⟩=some (.int .i64 0)∧Q.cell? ⟨w3.heap.size + 1,3,none⟩=some (.slice none 0 0))∧(Q.cell? ⟨w3.heap.size + 1 + 1,0,none⟩=some (.int .i64 1)∧Q.cell? ⟨w3.heap.size + 1 + 1,1,none⟩=some (.string ⟨#[75]⟩)∧Q.cell? ⟨w3.heap.size + 1 + 1,2,none⟩=some (.int .i64 0)∧Q.cell? ⟨w3.heap.size + 1 + 1,3,none⟩=some (.slice none 0 0)))=>KX.out ((Q.alloc o).drew) (h.1.below (W:=Q) (((Below.refl _ _).alloc (Nat.le_refl _) _).drew)))
  have K0:=Lib.hid (KX.out u3.drew (hS0.below ((Below.refl _ _).drew)))
  have hEr:=hE
  have KS:=Lib.hid (fun (Q:World) (h:SinceE u3 Q eb base∧(Q.cell? ⟨w3.heap.size,0,none⟩=some (.int .i64 1)∧Q.cell? ⟨w3.heap.size,1,none⟩=some (.string ⟨#[88]⟩)∧Q.cell? ⟨w3.heap.size,2,none⟩=some (.int .i64 0)∧Q.cell? ⟨w3.heap.size,3,none⟩=some (.slice none 0 0))∧(Q.cell? ⟨w3.heap.size + 1,0,none⟩=some (.int .i64 1)∧Q.cell? ⟨w3.heap.size + 1,1,none⟩=some (.string ⟨#[82]⟩)∧Q.cell? ⟨w3.heap.size + 1,2,none⟩=some (.int .i64 0)∧Q.cell? ⟨w3.heap.size + 1,3,none⟩=some (.slice none 0 0))∧(Q.cell? ⟨w3.heap.size + 1 + 1,0,none⟩=some (.int .i64 1)∧Q.cell? ⟨w3.heap.size + 1 + 1,1,none⟩=some (.string ⟨#[75]⟩)∧Q.cell? ⟨w3.heap.size + 1 + 1,2,none⟩=some (.int .i64 0)∧Q.cell? ⟨w3.heap.size + 1 + 1,3,none⟩=some (.slice none 0 0)))=>h.1)
  have KL:=Lib.hid (fun (Q:World) (h:SinceE u3 Q eb base∧(Q.cell? ⟨w3.heap.size,0,none⟩=some (.int .i64 1)∧Q.cell? ⟨w3.heap.size,1,none⟩=some (.string ⟨#[88]⟩)∧Q.cell? ⟨w3.heap.size,2,none⟩=some (.int .i64 0)∧Q.cell? ⟨w3.heap.size,3,none⟩=some (.slice none 0 0))∧(Q.cell? ⟨w3.heap.size + 1,0,none⟩=some (.int .i64 1)∧Q.cell? ⟨w3.heap.size + 1,1,none⟩=some (.string ⟨#[82]⟩)∧Q.cell? ⟨w3.heap.size + 1,2,none⟩=some (.int .i64 0)∧Q.cell? ⟨w3.heap.size + 1,3,none⟩=some (.slice none 0 0))∧(Q.cell? ⟨w3.heap.size + 1 + 1,0,none⟩=some (.int .i64 1)∧Q.cell? ⟨w3.heap.size + 1 + 1,1,none⟩=some (.string ⟨#[75]⟩)∧Q.cell? ⟨w3.heap.size + 1 + 1,2,none⟩=some (.int .i64 0)∧Q.cell? ⟨w3.heap.size + 1 + 1,3,none⟩=some (.slice none 0 0)))=>h.1.only.size)
  go_region_held3 (fun Q=>SinceE u3 Q eb base∧(Q.cell? ⟨w3.heap.size,0,none⟩=some (.int .i64 1)∧Q.cell? ⟨w3.heap.size,1,none⟩=some (.string ⟨#[88]⟩)∧Q.cell? ⟨w3.heap.size,2,none⟩=some (.int .i64 0)∧Q.cell? ⟨w3.heap.size,3,none⟩=some (.slice none 0 0))∧(Q.cell? ⟨w3.heap.size + 1,0,none⟩=some (.int .i64 1)∧Q.cell? ⟨w3.heap.size + 1,1,none⟩=some (.string ⟨#[82]⟩)∧Q.cell? ⟨w3.heap.size + 1,2,none⟩=some (.int .i64 0)∧Q.cell? ⟨w3.heap.size + 1,3,none⟩=some (.slice none 0 0))∧(Q.cell? ⟨w3.heap.size + 1 + 1,0,none⟩=some (.int .i64 1)∧Q.cell? ⟨w3.heap.size + 1 + 1,1,none⟩=some (.string ⟨#[75]⟩)∧Q.cell? ⟨w3.heap.size + 1 + 1,2,none⟩=some (.int .i64 0)∧Q.cell? ⟨w3.heap.size + 1 + 1,3,none⟩=some (.slice none 0 0)))
    (first | exact K0.out | assumption | exact KA.out _ _ (by assumption) | exact KD.out _ _ (by assumption) | exact KD2.out _ _ (by assumption))
    (first
      | (go_at_call 167;refine (erule w0 u3 u3 _ eb base nm [(⟨#[114,97,101,110,99]⟩,3),(⟨#[114,97,100,101,99]⟩,2),(⟨#[112,107]⟩,1)] [] _ _ hEr ?_ ?_ (⟨.mk 5 ⟨#[114,97,100,101,99]⟩ 0 [.mk 5 ⟨#[114,97,101,110,99]⟩ 0 [.mk 1 ⟨#[88]⟩ 0 [],.mk 1 ⟨#[82]⟩ 0 [],.mk 5 ⟨#[112,107]⟩ 0 [.mk 1 ⟨#[75]⟩ 0 []]],.mk 1 ⟨#[75]⟩ 0 []],za3_1,zc3_1⟩:Tv) (varV ⟨#[88]⟩) ?_ ?_ ?_ (by simp)).mono ?_;(· exact (hE.below (by first | exact Below.refl _ _ | exact (Below.refl _ _).drew | exact (Below.refl _ _).alloc (Nat.le_refl _) _ | exact ((Below.refl _ _).alloc (Nat.le_refl _) _).drew | exact (((Below.refl _ _).alloc (Nat.le_refl _) _).alloc (by simp) _).drew | exact ((Below.refl _ _).alloc (Nat.le_refl _) _).alloc (by simp) _)));(· exact KS.out _ (by assumption));(· exact fresh_below hz3_1 (by first | exact Below.refl _ _ | exact (Below.refl _ _).drew | exact (Below.refl _ _).alloc (Nat.le_refl _) _ | exact ((Below.refl _ _).alloc (Nat.le_refl _) _).drew | exact (((Below.refl _ _).alloc (Nat.le_refl _) _).alloc (by simp) _).drew | exact ((Below.refl _ _).alloc (Nat.le_refl _) _).alloc (by simp) _));(· exact fresh_var ⟨#[88]⟩ (by decide) _ _ _);(· exact KL.out _ (by assumption));rintro e x1 ⟨rfl,⟨g1,hE⟩,hs1r⟩;have hSr:=KX.out _ hs1r)
      | (have hq:=hz2_1;clear hq;go_at_call 168;refine (efun w0 u3 u3 eb base ⟨#[114,97,100,101,99]⟩ _ 2 [(⟨.mk 5 ⟨#[114,97,101,110,99]⟩ 0 [.mk 1 ⟨#[88]⟩ 0 [],.mk 1 ⟨#[82]⟩ 0 [],.mk 5 ⟨#[112,107]⟩ 0 [.mk 1 ⟨#[75]⟩ 0 []]],za2_1,zc2_1⟩:Tv),(varV ⟨#[75]⟩)] _ rfl (by decide) (by simp) ?_ ?_ ?_ ?_).mono ?_;(· exact KS.out _ (by assumption));(· exact KL.out _ (by assumption));(· (first | exact rowV_new _ _ _ _ rfl | exact (rowV_new _ _ _ _ rfl).drew | exact (rowV_new _ _ _ _ (by simp)).drew | exact rowV_new _ _ _ _ (by simp)));(· exact (by intro x hx;simp only [List.mem_cons,List.not_mem_nil,or_false] at hx;rcases hx with rfl | rfl<;>first | exact fresh_var _ (by decide) _ _ _ | exact fresh_below hz1_1 (by first | exact Below.refl _ _ | exact (Below.refl _ _).drew | exact (Below.refl _ _).alloc (Nat.le_refl _) _ | exact ((Below.refl _ _).alloc (Nat.le_refl _) _).drew | exact (((Below.refl _ _).alloc (Nat.le_refl _) _).alloc (by simp) _).drew | exact ((Below.refl _ _).alloc (Nat.le_refl _) _).alloc (by simp) _) | exact fresh_below hz2_1 (by first | exact Below.refl _ _ | exact (Below.refl _ _).drew | exact (Below.refl _ _).alloc (Nat.le_refl _) _ | exact ((Below.refl _ _).alloc (Nat.le_refl _) _).drew | exact (((Below.refl _ _).alloc (Nat.le_refl _) _).alloc (by simp) _).drew | exact ((Below.refl _ _).alloc (Nat.le_refl _) _).alloc (by simp) _)));rintro e v3_1 ⟨za3_1,zc3_1,rfl,hz3_1,hb3_1,hs3_1⟩;have hn30_1:=below_next (show Below v2_1.heap.size v2_1 _ from (by first | exact Below.refl _ _ | exact (Below.refl _ _).drew | exact (Below.refl _ _).alloc (Nat.le_refl _) _ | exact ((Below.refl _ _).alloc (Nat.le_refl _) _).drew | exact (((Below.refl _ _).alloc (Nat.le_refl _) _).alloc (by simp) _).drew | exact ((Below.refl _ _).alloc (Nat.le_refl _) _).alloc (by simp) _)) hb3_1;have hE:=hE.below hn30_1;have hz1_1:=fresh_below hz1_1 hn30_1;have hz2_1:=fresh_below hz2_1 hn30_1;have hS3_1:=KX.out _ hs3_1)
      | (have hq:=hz1_1;clear hq;go_at_call 168;refine (efun w0 u3 u3 eb base ⟨#[114,97,101,110,99]⟩ _ 3 [(varV ⟨#[88]⟩),(varV ⟨#[82]⟩),(⟨.mk 5 ⟨#[112,107]⟩ 0 [.mk 1 ⟨#[75]⟩ 0 []],za1_1,zc1_1⟩:Tv)] _ rfl (by decide) (by simp) ?_ ?_ ?_ ?_).mono ?_;(· exact KS.out _ (by assumption));(· exact KL.out _ (by assumption));(· (first | exact rowV_new _ _ _ _ rfl | exact (rowV_new _ _ _ _ rfl).drew | exact (rowV_new _ _ _ _ (by simp)).drew | exact rowV_new _ _ _ _ (by simp)));(· exact (by intro x hx;simp only [List.mem_cons,List.not_mem_nil,or_false] at hx;rcases hx with rfl | rfl | rfl<;>first | exact fresh_var _ (by decide) _ _ _ | exact fresh_below hz1_1 (by first | exact Below.refl _ _ | exact (Below.refl _ _).drew | exact (Below.refl _ _).alloc (Nat.le_refl _) _ | exact ((Below.refl _ _).alloc (Nat.le_refl _) _).drew | exact (((Below.refl _ _).alloc (Nat.le_refl _) _).alloc (by simp) _).drew | exact ((Below.refl _ _).alloc (Nat.le_refl _) _).alloc (by simp) _)));rintro e v2_1 ⟨za2_1,zc2_1,rfl,hz2_1,hb2_1,hs2_1⟩;have hn20_1:=below_next (show Below v1_1.heap.size v1_1 _ from (by first | exact Below.refl _ _ | exact (Below.refl _ _).drew | exact (Below.refl _ _).alloc (Nat.le_refl _) _ | exact ((Below.refl _ _).alloc (Nat.le_refl _) _).drew | exact (((Below.refl _ _).alloc (Nat.le_refl _) _).alloc (by simp) _).drew | exact ((Below.refl _ _).alloc (Nat.le_refl _) _).alloc (by simp) _)) hb2_1;have hE:=hE.below hn20_1;have hz1_1:=fresh_below hz1_1 hn20_1;have hS2_1:=KX.out _ hs2_1)
      | (go_at_call 168;refine (efun w0 u3 u3 eb base ⟨#[112,107]⟩ _ 1 [(varV ⟨#[75]⟩)] _ rfl (by decide) (by simp) ?_ ?_ ?_ ?_).mono ?_;(· exact KS.out _ (by assumption));(· exact KL.out _ (by assumption));(· (first | exact rowV_new _ _ _ _ rfl | exact (rowV_new _ _ _ _ rfl).drew | exact (rowV_new _ _ _ _ (by simp)).drew | exact rowV_new _ _ _ _ (by simp)));(· exact (by intro x hx;simp only [List.mem_cons,List.not_mem_nil,or_false] at hx;rcases hx with rfl<;>first | exact fresh_var _ (by decide) _ _ _));rintro e v1_1 ⟨za1_1,zc1_1,rfl,hz1_1,hb1_1,hs1_1⟩;have hn10_1:=below_next (show Below u3.heap.size u3 _ from (by first | exact Below.refl _ _ | exact (Below.refl _ _).drew | exact (Below.refl _ _).alloc (Nat.le_refl _) _ | exact ((Below.refl _ _).alloc (Nat.le_refl _) _).drew | exact (((Below.refl _ _).alloc (Nat.le_refl _) _).alloc (by simp) _).drew | exact ((Below.refl _ _).alloc (Nat.le_refl _) _).alloc (by simp) _)) hb1_1;have hE:=hE.below hn10_1;have hS1_1:=KX.out _ hs1_1)
      | fail)
  have ho:=hs1r.only
  have hO:=hO.next ho
  have hx1:=hx1.only ho hq1 hne1
  have hx2:=hx2.only ho hq2 hne2
  have hx3:=hx3.only ho hq3 hne3
  simp only [List.nil_append] at hE
  clear ho KX KA KD KD2 K0 KS KL hEr hS0 hSr hs1r hle hb1_1 hs1_1 hz1_1 hS1_1 hn10_1 hb2_1 hs2_1 hz2_1 hS2_1 hn20_1 hb3_1 hs3_1 hz3_1 hS3_1 hn30_1
  (try go_wp2_with fail)
  go_end0
  exact ⟨rfl,⟨_,_,_,hE⟩,(onlyE_below HOB.out (Nat.le_refl _)).trans (hO.only.less HBS.out)⟩
end Go.Proofs.YtjcleokfpohpdaaGreatDoor
