/-
  The primitives' texts are right: each item has what it is asked for. No function of the program.
  The program's library, the primitive pair: its method. (printed by tools/genfill.py)
-/
import Derived.Test.YtjcleokfpohpdaaGreatDoorU07
import Derived.Test.YtjcleokfpohpdaaGreatDoorU10
import Derived.Deep.RegionHeld3
namespace Go.Proofs.YtjcleokfpohpdaaGreatDoor
open Go.RowKit
def okI (x:It):Bool:=if (x.key.toList==(⟨#[102,117,110]⟩:ByteArray).toList)=true then decide (2≤x.words.length) else decide (2≤x.trees.length)&&x.trees.all fun t=>decide (t.parts≤1000)
def okIs (s:ByteArray):Bool:=(parseS s).2.2.all okI&&decide ((parseS s).2.2.length≤20)&&decide (s.size≤1000)&&decide ((itemF (parseS s).2.2).length≤20)&&decide ((itemR (parseS s).2.2).length≤20)
theorem okPair:okIs txPair=true:=by kernel_rfl
theorem okSenc:okIs txSenc=true:=by kernel_rfl
theorem okRenc:okIs txRenc=true:=by kernel_rfl
theorem okAenc:okIs txAenc=true:=by kernel_rfl
theorem okRaenc:okIs txRaenc=true:=by kernel_rfl
theorem okSign:okIs txSign=true:=by kernel_rfl
theorem okHash:okIs txHash=true:=by kernel_rfl
theorem okBlind:okIs txBlind=true:=by kernel_rfl
theorem okWrap:okIs txWrap=true:=by kernel_rfl
theorem okNone:okIs ⟨#[]⟩=true:=by kernel_rfl
theorem lib_ok (s:ByteArray):okIs (libT s)=true:=by
  unfold libT
  split
  · exact okPair
  split
  · exact okSenc
  split
  · exact okRenc
  split
  · exact okAenc
  split
  · exact okRaenc
  split
  · exact okSign
  split
  · exact okHash
  split
  · exact okBlind
  split
  · exact okWrap
  · exact okNone
structure LibOk (s:ByteArray):Prop where
  all:∀ x ∈ (parseS s).2.2,okI x=true
  len:(parseS s).2.2.length≤20
  size:s.size≤1000
  lenF:(itemF (parseS s).2.2).length≤20
  lenR:(itemR (parseS s).2.2).length≤20
theorem lib_right (s:ByteArray):LibOk (libT s):=by
  have h:=lib_ok s
  unfold okIs at h
  simp only [Bool.and_eq_true,decide_eq_true_eq,List.all_eq_true] at h
  exact ⟨h.1.1.1.1,h.1.1.1.2,h.1.1.2,h.1.2,h.2⟩
theorem okI_fun {x:It} (h:okI x=true) (k:(x.key.toList==(⟨#[102,117,110]⟩:ByteArray).toList)=true):2≤x.words.length:=by
  unfold okI at h;rw [if_pos k] at h;simpa using h
theorem okI_rule {x:It} (h:okI x=true) (k:(x.key.toList==(⟨#[102,117,110]⟩:ByteArray).toList)=false):2≤x.trees.length∧∀ t ∈ x.trees,t.parts≤1000:=by
  unfold okI at h;rw [if_neg (by rw [k];decide)] at h
  simp only [Bool.and_eq_true,decide_eq_true_eq,List.all_eq_true] at h
  exact h
theorem itemF_snoc (xs:List It) (x:It):itemF (xs ++ [x])=itemF xs ++ (if (x.key.toList==(⟨#[102,117,110]⟩:ByteArray).toList)=true then [((x.words.headD default).text,(x.words.tail.headD default).n)] else []):=by
  unfold itemF
  rw [List.filterMap_append]
  by_cases h:(x.key.toList==(⟨#[102,117,110]⟩:ByteArray).toList)=true
  · rw [if_pos h];simp only [List.filterMap_cons,if_pos h,List.filterMap_nil]
  · rw [if_neg h];simp only [List.filterMap_cons,if_neg h,List.filterMap_nil]
theorem itemR_snoc (xs:List It) (x:It):itemR (xs ++ [x])=itemR xs ++ (if (x.key.toList==(⟨#[102,117,110]⟩:ByteArray).toList)=true then [] else [(plainR (x.trees.headD default),plainR (x.trees.tail.headD default))]):=by
  unfold itemR
  rw [List.filterMap_append]
  by_cases h:(x.key.toList==(⟨#[102,117,110]⟩:ByteArray).toList)=true
  · rw [if_pos h];simp only [List.filterMap_cons,if_pos h,List.filterMap_nil]
  · rw [if_neg h];simp only [List.filterMap_cons,if_neg h,List.filterMap_nil]
theorem itemF_le (xs:List It):(itemF xs).length≤xs.length:=List.length_filterMap_le _ _
theorem itemR_le (xs:List It):(itemR xs).length≤xs.length:=List.length_filterMap_le _ _
end Go.Proofs.YtjcleokfpohpdaaGreatDoor
namespace Go.Proofs.YtjcleokfpohpdaaGreatDoor
open Go.RowKit
set_option maxRecDepth 100000 in
set_option maxHeartbeats 4000000 in
theorem fill_pair (w0 W:World) (eb:Nat) (nm:ByteArray) (h:E0 W eb nm) :
    Calls Tryz.prog 118 #[.pointer (some ⟨eb,0,none⟩)] W (FillPost w0 W eb nm fsPair rsPair):=by
  have VR:=Lib.hid (fun (s:ByteArray) (W:World)=>pvar_any s W)
  have HE0:=Lib.hid h
  have hlt:=h.lt
  clear h
  unfold FillPost fsPair rsPair
  go_enter Tryz.func118,Tryz.ntmps118
  go_wp2_with fail
  refine (VR.out ⟨#[88]⟩ _).mono ?_;rintro e w1 ⟨rfl,hv1⟩
  go_wp2_with fail
  refine (VR.out ⟨#[89]⟩ _).mono ?_;rintro e w2 ⟨rfl,hv2⟩
  have hV1:=hv1
  have hV2:=below_next hV1 hv2
  have hA1:Below w2.heap.size w2 (w2.alloc (.cells #[.int .i64 1,.string ⟨#[88]⟩,.int .i64 0,.slice none 0 0] 70)):=(Below.refl _ _).alloc (Nat.le_refl _) _
  have hx1:=varB_new w2 ⟨#[88]⟩ 70 _ rfl
  have hA2:Below (w2.alloc (.cells #[.int .i64 1,.string ⟨#[88]⟩,.int .i64 0,.slice none 0 0] 70)).heap.size (w2.alloc (.cells #[.int .i64 1,.string ⟨#[88]⟩,.int .i64 0,.slice none 0 0] 70)) ((w2.alloc (.cells #[.int .i64 1,.string ⟨#[88]⟩,.int .i64 0,.slice none 0 0] 70)).alloc (.cells #[.int .i64 1,.string ⟨#[89]⟩,.int .i64 0,.slice none 0 0] 70)):=(Below.refl _ _).alloc (Nat.le_refl _) _
  have hx2:=varB_new (w2.alloc (.cells #[.int .i64 1,.string ⟨#[88]⟩,.int .i64 0,.slice none 0 0] 70)) ⟨#[89]⟩ 70 _ rfl
  rw [show (w2.alloc (.cells #[.int .i64 1,.string ⟨#[88]⟩,.int .i64 0,.slice none 0 0] 70)).heap.size=w2.heap.size + 1 from by simp] at hx2
  have hx1:=hx1.below hA2
  have hB:=hV2
  have HWV:=Lib.hid hV2.size
  have hB:=below_next hB hA1
  have hB:=below_next hB hA2
  have hz:((w2.alloc (.cells #[.int .i64 1,.string ⟨#[88]⟩,.int .i64 0,.slice none 0 0] 70)).alloc (.cells #[.int .i64 1,.string ⟨#[89]⟩,.int .i64 0,.slice none 0 0] 70)).heap.size=w2.heap.size + 1 + 1:=by simp
  have HPK:=Lib.hid (And.intro hB (And.intro hz (And.intro hx1 hx2)))
  clear hB hz hV1 hv1 hA1 hx1 hA2 hx2 hV2 hv2
  go_wp2_with fail
  obtain ⟨hB,hz,⟨hx1,hx2⟩⟩:=HPK.out
  obtain ⟨W3,hW3⟩:∃ W3,((w2.alloc (.cells #[.int .i64 1,.string ⟨#[88]⟩,.int .i64 0,.slice none 0 0] 70)).alloc (.cells #[.int .i64 1,.string ⟨#[89]⟩,.int .i64 0,.slice none 0 0] 70))=W3:=⟨_,rfl⟩
  rw [hW3] at hB hz hx1 hx2 ⊢
  have hwv:W.heap.size≤w2.heap.size:=HWV.out
  have hE:=HE0.out.start w0 W3 hB
  have hO:SinceE W3 W3 eb W3.heap.size:=⟨OnlyE.refl _ _ _,Nat.le_refl _⟩
  have hq1:w2.heap.size < W3.heap.size:=by omega
  have hne1:w2.heap.size≠eb:=by omega
  have hq2:w2.heap.size + 1 < W3.heap.size:=by omega
  have hne2:w2.heap.size + 1≠eb:=by omega
  have HOB:=Lib.hid hB
  obtain ⟨base,hbase⟩:∃ base,W3.heap.size=base:=⟨_,rfl⟩
  rw [hbase] at hE hO hq1 hq2
  have HBS:=Lib.hid (show W.heap.size≤base from by rw [← hbase];exact hB.size)
  clear hB hz hwv hbase hW3 HPK
  refine (pent_fun w0 W3 eb base nm [] [] _ _ (⟨#[112,97,105,114]⟩,2) hE ⟨by decide,by decide,by decide⟩ (by simp)).mono ?_;rintro e u1 ⟨rfl,⟨f1,hE⟩,ho⟩
  have hO:=hO.next ho
  have hx1:=hx1.only ho hq1 hne1
  have hx2:=hx2.only ho hq2 hne2
  clear ho
  go_wp2_with fail
  refine (pent_fun w0 u1 eb base nm [(⟨#[112,97,105,114]⟩,2)] [] _ _ (⟨#[102,115,116]⟩,1) hE ⟨by decide,by decide,by decide⟩ (by simp)).mono ?_;rintro e u2 ⟨rfl,⟨f2,hE⟩,ho⟩
  have hO:=hO.next ho
  have hx1:=hx1.only ho hq1 hne1
  have hx2:=hx2.only ho hq2 hne2
  clear ho
  go_wp2_with fail
  refine (pent_fun w0 u2 eb base nm [(⟨#[112,97,105,114]⟩,2),(⟨#[102,115,116]⟩,1)] [] _ _ (⟨#[115,110,100]⟩,1) hE ⟨by decide,by decide,by decide⟩ (by simp)).mono ?_;rintro e u3 ⟨rfl,⟨f3,hE⟩,ho⟩
  have hO:=hO.next ho
  have hx1:=hx1.only ho hq1 hne1
  have hx2:=hx2.only ho hq2 hne2
  clear ho
  simp only [List.nil_append,List.cons_append] at hE
  go_wp2_with fail
  have hle:=hE.le
  have hS0:SinceE u3 u3 eb base:=⟨OnlyE.refl _ _ _,hle⟩
  have KX:=Lib.hid (fun (Q:World) (h:SinceE u3 Q eb base)=>(show SinceE u3 Q eb base∧(Q.cell? ⟨w2.heap.size,0,none⟩=some (.int .i64 1)∧Q.cell? ⟨w2.heap.size,1,none⟩=some (.string ⟨#[88]⟩)∧Q.cell? ⟨w2.heap.size,2,none⟩=some (.int .i64 0)∧Q.cell? ⟨w2.heap.size,3,none⟩=some (.slice none 0 0))∧(Q.cell? ⟨w2.heap.size + 1,0,none⟩=some (.int .i64 1)∧Q.cell? ⟨w2.heap.size + 1,1,none⟩=some (.string ⟨#[89]⟩)∧Q.cell? ⟨w2.heap.size + 1,2,none⟩=some (.int .i64 0)∧Q.cell? ⟨w2.heap.size + 1,3,none⟩=some (.slice none 0 0)) from ⟨h,(hx1.only h.only hq1 hne1).all,(hx2.only h.only hq2 hne2).all⟩))
  have KA:=Lib.hid (fun (Q:World) (o:Obj) (h:SinceE u3 Q eb base∧(Q.cell? ⟨w2.heap.size,0,none⟩=some (.int .i64 1)∧Q.cell? ⟨w2.heap.size,1,none⟩=some (.string ⟨#[88]⟩)∧Q.cell? ⟨w2.heap.size,2,none⟩=some (.int .i64 0)∧Q.cell? ⟨w2.heap.size,3,none⟩=some (.slice none 0 0))∧(Q.cell? ⟨w2.heap.size + 1,0,none⟩=some (.int .i64 1)∧Q.cell? ⟨w2.heap.size + 1,1,none⟩=some (.string ⟨#[89]⟩)∧Q.cell? ⟨w2.heap.size + 1,2,none⟩=some (.int .i64 0)∧Q.cell? ⟨w2.heap.size + 1,3,none⟩=some (.slice none 0 0)))=>KX.out (Q.alloc o) (h.1.below ((Below.refl _ _).alloc (Nat.le_refl _) _)))
  have KD:=Lib.hid (fun (Q:World) (o:Obj) (h:SinceE u3 Q.drew eb base∧(Q.drew.cell? ⟨w2.heap.size,0,none⟩=some (.int .i64 1)∧Q.drew.cell? ⟨w2.heap.size,1,none⟩=some (.string ⟨#[88]⟩)∧Q.drew.cell? ⟨w2.heap.size,2,none⟩=some (.int .i64 0)∧Q.drew.cell? ⟨w2.heap.size,3,none⟩=some (.slice none 0 0))∧(Q.drew.cell? ⟨w2.heap.size + 1,0,none⟩=some (.int .i64 1)∧Q.drew.cell? ⟨w2.heap.size + 1,1,none⟩=some (.string ⟨#[89]⟩)∧Q.drew.cell? ⟨w2.heap.size + 1,2,none⟩=some (.int .i64 0)∧Q.drew.cell? ⟨w2.heap.size + 1,3,none⟩=some (.slice none 0 0)))=>KX.out ((Q.alloc o).drew) (h.1.below (show Below Q.drew.heap.size Q.drew (Q.drew.alloc o) from (Below.refl _ _).alloc (Nat.le_refl _) _)))
  have KD2:=Lib.hid (fun (Q:World) (o:Obj) (h:SinceE u3 Q eb base∧(Q.cell? ⟨w2.heap.size,0,none⟩=some (.int .i64 1)∧Q.cell? ⟨w2.heap.size,1,none⟩=some (.string ⟨#[88]⟩)∧Q.cell? ⟨w2.heap.size,2,none⟩=some (.int .i64 0)∧Q.cell? ⟨w2.heap.size,3,none⟩=some (.slice none 0 0))∧(Q.cell? ⟨w2.heap.size + 1,0,none⟩=some (.int .i64 1)∧Q.cell? ⟨w2.heap.size + 1,1,none⟩=some (.string ⟨#[89]⟩)∧Q.cell? ⟨w2.heap.size + 1,2,none⟩=some (.int .i64 0)∧Q.cell? ⟨w2.heap.size + 1,3,none⟩=some (.slice none 0 0)))=>KX.out ((Q.alloc o).drew) (h.1.below (W:=Q) (((Below.refl _ _).alloc (Nat.le_refl _) _).drew)))
  have K0:=Lib.hid (KX.out u3.drew (hS0.below ((Below.refl _ _).drew)))
  have hEr:=hE
  have KS:=Lib.hid (fun (Q:World) (h:SinceE u3 Q eb base∧(Q.cell? ⟨w2.heap.size,0,none⟩=some (.int .i64 1)∧Q.cell? ⟨w2.heap.size,1,none⟩=some (.string ⟨#[88]⟩)∧Q.cell? ⟨w2.heap.size,2,none⟩=some (.int .i64 0)∧Q.cell? ⟨w2.heap.size,3,none⟩=some (.slice none 0 0))∧(Q.cell? ⟨w2.heap.size + 1,0,none⟩=some (.int .i64 1)∧Q.cell? ⟨w2.heap.size + 1,1,none⟩=some (.string ⟨#[89]⟩)∧Q.cell? ⟨w2.heap.size + 1,2,none⟩=some (.int .i64 0)∧Q.cell? ⟨w2.heap.size + 1,3,none⟩=some (.slice none 0 0)))=>h.1)
  have KL:=Lib.hid (fun (Q:World) (h:SinceE u3 Q eb base∧(Q.cell? ⟨w2.heap.size,0,none⟩=some (.int .i64 1)∧Q.cell? ⟨w2.heap.size,1,none⟩=some (.string ⟨#[88]⟩)∧Q.cell? ⟨w2.heap.size,2,none⟩=some (.int .i64 0)∧Q.cell? ⟨w2.heap.size,3,none⟩=some (.slice none 0 0))∧(Q.cell? ⟨w2.heap.size + 1,0,none⟩=some (.int .i64 1)∧Q.cell? ⟨w2.heap.size + 1,1,none⟩=some (.string ⟨#[89]⟩)∧Q.cell? ⟨w2.heap.size + 1,2,none⟩=some (.int .i64 0)∧Q.cell? ⟨w2.heap.size + 1,3,none⟩=some (.slice none 0 0)))=>h.1.only.size)
  go_region_held3 (fun Q=>SinceE u3 Q eb base∧(Q.cell? ⟨w2.heap.size,0,none⟩=some (.int .i64 1)∧Q.cell? ⟨w2.heap.size,1,none⟩=some (.string ⟨#[88]⟩)∧Q.cell? ⟨w2.heap.size,2,none⟩=some (.int .i64 0)∧Q.cell? ⟨w2.heap.size,3,none⟩=some (.slice none 0 0))∧(Q.cell? ⟨w2.heap.size + 1,0,none⟩=some (.int .i64 1)∧Q.cell? ⟨w2.heap.size + 1,1,none⟩=some (.string ⟨#[89]⟩)∧Q.cell? ⟨w2.heap.size + 1,2,none⟩=some (.int .i64 0)∧Q.cell? ⟨w2.heap.size + 1,3,none⟩=some (.slice none 0 0)))
    (first | exact K0.out | assumption | exact KA.out _ _ (by assumption) | exact KD.out _ _ (by assumption) | exact KD2.out _ _ (by assumption))
    (first
      | (go_at_call 167;refine (erule w0 u3 u3 _ eb base nm [(⟨#[112,97,105,114]⟩,2),(⟨#[102,115,116]⟩,1),(⟨#[115,110,100]⟩,1)] [] _ _ hEr ?_ ?_ (⟨.mk 5 ⟨#[102,115,116]⟩ 0 [.mk 5 ⟨#[112,97,105,114]⟩ 0 [.mk 1 ⟨#[88]⟩ 0 [],.mk 1 ⟨#[89]⟩ 0 []]],za2_1,zc2_1⟩:Tv) (varV ⟨#[88]⟩) ?_ ?_ ?_ (by simp)).mono ?_;(· exact (hE.below (by first | exact Below.refl _ _ | exact (Below.refl _ _).drew | exact (Below.refl _ _).alloc (Nat.le_refl _) _ | exact ((Below.refl _ _).alloc (Nat.le_refl _) _).drew | exact (((Below.refl _ _).alloc (Nat.le_refl _) _).alloc (by simp) _).drew | exact ((Below.refl _ _).alloc (Nat.le_refl _) _).alloc (by simp) _)));(· exact KS.out _ (by assumption));(· exact fresh_below hz2_1 (by first | exact Below.refl _ _ | exact (Below.refl _ _).drew | exact (Below.refl _ _).alloc (Nat.le_refl _) _ | exact ((Below.refl _ _).alloc (Nat.le_refl _) _).drew | exact (((Below.refl _ _).alloc (Nat.le_refl _) _).alloc (by simp) _).drew | exact ((Below.refl _ _).alloc (Nat.le_refl _) _).alloc (by simp) _));(· exact fresh_var ⟨#[88]⟩ (by decide) _ _ _);(· exact KL.out _ (by assumption));rintro e x1 ⟨rfl,⟨g1,hE⟩,hs1r⟩;have hSr:=KX.out _ hs1r)
      | (have hq:=hz1_1;clear hq;go_at_call 168;refine (efun w0 u3 u3 eb base ⟨#[102,115,116]⟩ _ 1 [(⟨.mk 5 ⟨#[112,97,105,114]⟩ 0 [.mk 1 ⟨#[88]⟩ 0 [],.mk 1 ⟨#[89]⟩ 0 []],za1_1,zc1_1⟩:Tv)] _ rfl (by decide) (by simp) ?_ ?_ ?_ ?_).mono ?_;(· exact KS.out _ (by assumption));(· exact KL.out _ (by assumption));(· (first | exact rowV_new _ _ _ _ rfl | exact (rowV_new _ _ _ _ rfl).drew | exact (rowV_new _ _ _ _ (by simp)).drew | exact rowV_new _ _ _ _ (by simp)));(· exact (by intro x hx;simp only [List.mem_cons,List.not_mem_nil,or_false] at hx;rcases hx with rfl<;>first | exact fresh_var _ (by decide) _ _ _ | exact fresh_below hz1_1 (by first | exact Below.refl _ _ | exact (Below.refl _ _).drew | exact (Below.refl _ _).alloc (Nat.le_refl _) _ | exact ((Below.refl _ _).alloc (Nat.le_refl _) _).drew | exact (((Below.refl _ _).alloc (Nat.le_refl _) _).alloc (by simp) _).drew | exact ((Below.refl _ _).alloc (Nat.le_refl _) _).alloc (by simp) _)));rintro e v2_1 ⟨za2_1,zc2_1,rfl,hz2_1,hb2_1,hs2_1⟩;have hn20_1:=below_next (show Below v1_1.heap.size v1_1 _ from (by first | exact Below.refl _ _ | exact (Below.refl _ _).drew | exact (Below.refl _ _).alloc (Nat.le_refl _) _ | exact ((Below.refl _ _).alloc (Nat.le_refl _) _).drew | exact (((Below.refl _ _).alloc (Nat.le_refl _) _).alloc (by simp) _).drew | exact ((Below.refl _ _).alloc (Nat.le_refl _) _).alloc (by simp) _)) hb2_1;have hE:=hE.below hn20_1;have hz1_1:=fresh_below hz1_1 hn20_1;have hS2_1:=KX.out _ hs2_1)
      | (go_at_call 168;refine (efun w0 u3 u3 eb base ⟨#[112,97,105,114]⟩ _ 2 [(varV ⟨#[88]⟩),(varV ⟨#[89]⟩)] _ rfl (by decide) (by simp) ?_ ?_ ?_ ?_).mono ?_;(· exact KS.out _ (by assumption));(· exact KL.out _ (by assumption));(· (first | exact rowV_new _ _ _ _ rfl | exact (rowV_new _ _ _ _ rfl).drew | exact (rowV_new _ _ _ _ (by simp)).drew | exact rowV_new _ _ _ _ (by simp)));(· exact (by intro x hx;simp only [List.mem_cons,List.not_mem_nil,or_false] at hx;rcases hx with rfl | rfl<;>first | exact fresh_var _ (by decide) _ _ _));rintro e v1_1 ⟨za1_1,zc1_1,rfl,hz1_1,hb1_1,hs1_1⟩;have hn10_1:=below_next (show Below u3.heap.size u3 _ from (by first | exact Below.refl _ _ | exact (Below.refl _ _).drew | exact (Below.refl _ _).alloc (Nat.le_refl _) _ | exact ((Below.refl _ _).alloc (Nat.le_refl _) _).drew | exact (((Below.refl _ _).alloc (Nat.le_refl _) _).alloc (by simp) _).drew | exact ((Below.refl _ _).alloc (Nat.le_refl _) _).alloc (by simp) _)) hb1_1;have hE:=hE.below hn10_1;have hS1_1:=KX.out _ hs1_1)
      | fail)
  have ho:=hs1r.only
  have hO:=hO.next ho
  have hx1:=hx1.only ho hq1 hne1
  have hx2:=hx2.only ho hq2 hne2
  simp only [List.nil_append] at hE
  clear ho KX KA KD KD2 K0 KS KL hEr hS0 hSr hs1r hle hb1_1 hs1_1 hz1_1 hS1_1 hn10_1 hb2_1 hs2_1 hz2_1 hS2_1 hn20_1
  go_wp2_with fail
  have hle:=hE.le
  have hS0:SinceE x1 x1 eb base:=⟨OnlyE.refl _ _ _,hle⟩
  have KX:=Lib.hid (fun (Q:World) (h:SinceE x1 Q eb base)=>(show SinceE x1 Q eb base∧(Q.cell? ⟨w2.heap.size,0,none⟩=some (.int .i64 1)∧Q.cell? ⟨w2.heap.size,1,none⟩=some (.string ⟨#[88]⟩)∧Q.cell? ⟨w2.heap.size,2,none⟩=some (.int .i64 0)∧Q.cell? ⟨w2.heap.size,3,none⟩=some (.slice none 0 0))∧(Q.cell? ⟨w2.heap.size + 1,0,none⟩=some (.int .i64 1)∧Q.cell? ⟨w2.heap.size + 1,1,none⟩=some (.string ⟨#[89]⟩)∧Q.cell? ⟨w2.heap.size + 1,2,none⟩=some (.int .i64 0)∧Q.cell? ⟨w2.heap.size + 1,3,none⟩=some (.slice none 0 0)) from ⟨h,(hx1.only h.only hq1 hne1).all,(hx2.only h.only hq2 hne2).all⟩))
  have KA:=Lib.hid (fun (Q:World) (o:Obj) (h:SinceE x1 Q eb base∧(Q.cell? ⟨w2.heap.size,0,none⟩=some (.int .i64 1)∧Q.cell? ⟨w2.heap.size,1,none⟩=some (.string ⟨#[88]⟩)∧Q.cell? ⟨w2.heap.size,2,none⟩=some (.int .i64 0)∧Q.cell? ⟨w2.heap.size,3,none⟩=some (.slice none 0 0))∧(Q.cell? ⟨w2.heap.size + 1,0,none⟩=some (.int .i64 1)∧Q.cell? ⟨w2.heap.size + 1,1,none⟩=some (.string ⟨#[89]⟩)∧Q.cell? ⟨w2.heap.size + 1,2,none⟩=some (.int .i64 0)∧Q.cell? ⟨w2.heap.size + 1,3,none⟩=some (.slice none 0 0)))=>KX.out (Q.alloc o) (h.1.below ((Below.refl _ _).alloc (Nat.le_refl _) _)))
  have KD:=Lib.hid (fun (Q:World) (o:Obj) (h:SinceE x1 Q.drew eb base∧(Q.drew.cell? ⟨w2.heap.size,0,none⟩=some (.int .i64 1)∧Q.drew.cell? ⟨w2.heap.size,1,none⟩=some (.string ⟨#[88]⟩)∧Q.drew.cell? ⟨w2.heap.size,2,none⟩=some (.int .i64 0)∧Q.drew.cell? ⟨w2.heap.size,3,none⟩=some (.slice none 0 0))∧(Q.drew.cell? ⟨w2.heap.size + 1,0,none⟩=some (.int .i64 1)∧Q.drew.cell? ⟨w2.heap.size + 1,1,none⟩=some (.string ⟨#[89]⟩)∧Q.drew.cell? ⟨w2.heap.size + 1,2,none⟩=some (.int .i64 0)∧Q.drew.cell? ⟨w2.heap.size + 1,3,none⟩=some (.slice none 0 0)))=>KX.out ((Q.alloc o).drew) (h.1.below (show Below Q.drew.heap.size Q.drew (Q.drew.alloc o) from (Below.refl _ _).alloc (Nat.le_refl _) _)))
  have KD2:=Lib.hid (fun (Q:World) (o:Obj) (h:SinceE x1 Q eb base∧(Q.cell? ⟨w2.heap.size,0,none⟩=some (.int .i64 1)∧Q.cell? ⟨w2.heap.size,1,none⟩=some (.string ⟨#[88]⟩)∧Q.cell? ⟨w2.heap.size,2,none⟩=some (.int .i64 0)∧Q.cell? ⟨w2.heap.size,3,none⟩=some (.slice none 0 0))∧(Q.cell? ⟨w2.heap.size + 1,0,none⟩=some (.int .i64 1)∧Q.cell? ⟨w2.heap.size + 1,1,none⟩=some (.string ⟨#[89]⟩)∧Q.cell? ⟨w2.heap.size + 1,2,none⟩=some (.int .i64 0)∧Q.cell? ⟨w2.heap.size + 1,3,none⟩=some (.slice none 0 0)))=>KX.out ((Q.alloc o).drew) (h.1.below (W:=Q) (((Below.refl _ _).alloc (Nat.le_refl _) _).drew)))
  have K0:=Lib.hid (KX.out x1.drew (hS0.below ((Below.refl _ _).drew)))
  have hEr:=hE
  have KS:=Lib.hid (fun (Q:World) (h:SinceE x1 Q eb base∧(Q.cell? ⟨w2.heap.size,0,none⟩=some (.int .i64 1)∧Q.cell? ⟨w2.heap.size,1,none⟩=some (.string ⟨#[88]⟩)∧Q.cell? ⟨w2.heap.size,2,none⟩=some (.int .i64 0)∧Q.cell? ⟨w2.heap.size,3,none⟩=some (.slice none 0 0))∧(Q.cell? ⟨w2.heap.size + 1,0,none⟩=some (.int .i64 1)∧Q.cell? ⟨w2.heap.size + 1,1,none⟩=some (.string ⟨#[89]⟩)∧Q.cell? ⟨w2.heap.size + 1,2,none⟩=some (.int .i64 0)∧Q.cell? ⟨w2.heap.size + 1,3,none⟩=some (.slice none 0 0)))=>h.1)
  have KL:=Lib.hid (fun (Q:World) (h:SinceE x1 Q eb base∧(Q.cell? ⟨w2.heap.size,0,none⟩=some (.int .i64 1)∧Q.cell? ⟨w2.heap.size,1,none⟩=some (.string ⟨#[88]⟩)∧Q.cell? ⟨w2.heap.size,2,none⟩=some (.int .i64 0)∧Q.cell? ⟨w2.heap.size,3,none⟩=some (.slice none 0 0))∧(Q.cell? ⟨w2.heap.size + 1,0,none⟩=some (.int .i64 1)∧Q.cell? ⟨w2.heap.size + 1,1,none⟩=some (.string ⟨#[89]⟩)∧Q.cell? ⟨w2.heap.size + 1,2,none⟩=some (.int .i64 0)∧Q.cell? ⟨w2.heap.size + 1,3,none⟩=some (.slice none 0 0)))=>h.1.only.size)
  go_region_held3 (fun Q=>SinceE x1 Q eb base∧(Q.cell? ⟨w2.heap.size,0,none⟩=some (.int .i64 1)∧Q.cell? ⟨w2.heap.size,1,none⟩=some (.string ⟨#[88]⟩)∧Q.cell? ⟨w2.heap.size,2,none⟩=some (.int .i64 0)∧Q.cell? ⟨w2.heap.size,3,none⟩=some (.slice none 0 0))∧(Q.cell? ⟨w2.heap.size + 1,0,none⟩=some (.int .i64 1)∧Q.cell? ⟨w2.heap.size + 1,1,none⟩=some (.string ⟨#[89]⟩)∧Q.cell? ⟨w2.heap.size + 1,2,none⟩=some (.int .i64 0)∧Q.cell? ⟨w2.heap.size + 1,3,none⟩=some (.slice none 0 0)))
    (first | exact K0.out | assumption | exact KA.out _ _ (by assumption) | exact KD.out _ _ (by assumption) | exact KD2.out _ _ (by assumption))
    (first
      | (go_at_call 167;refine (erule w0 x1 x1 _ eb base nm [(⟨#[112,97,105,114]⟩,2),(⟨#[102,115,116]⟩,1),(⟨#[115,110,100]⟩,1)] [(.mk 5 ⟨#[102,115,116]⟩ 0 [.mk 5 ⟨#[112,97,105,114]⟩ 0 [.mk 1 ⟨#[88]⟩ 0 [],.mk 1 ⟨#[89]⟩ 0 []]],.mk 1 ⟨#[88]⟩ 0 [])] _ _ hEr ?_ ?_ (⟨.mk 5 ⟨#[115,110,100]⟩ 0 [.mk 5 ⟨#[112,97,105,114]⟩ 0 [.mk 1 ⟨#[88]⟩ 0 [],.mk 1 ⟨#[89]⟩ 0 []]],za2_2,zc2_2⟩:Tv) (varV ⟨#[89]⟩) ?_ ?_ ?_ (by simp)).mono ?_;(· exact (hE.below (by first | exact Below.refl _ _ | exact (Below.refl _ _).drew | exact (Below.refl _ _).alloc (Nat.le_refl _) _ | exact ((Below.refl _ _).alloc (Nat.le_refl _) _).drew | exact (((Below.refl _ _).alloc (Nat.le_refl _) _).alloc (by simp) _).drew | exact ((Below.refl _ _).alloc (Nat.le_refl _) _).alloc (by simp) _)));(· exact KS.out _ (by assumption));(· exact fresh_below hz2_2 (by first | exact Below.refl _ _ | exact (Below.refl _ _).drew | exact (Below.refl _ _).alloc (Nat.le_refl _) _ | exact ((Below.refl _ _).alloc (Nat.le_refl _) _).drew | exact (((Below.refl _ _).alloc (Nat.le_refl _) _).alloc (by simp) _).drew | exact ((Below.refl _ _).alloc (Nat.le_refl _) _).alloc (by simp) _));(· exact fresh_var ⟨#[89]⟩ (by decide) _ _ _);(· exact KL.out _ (by assumption));rintro e x2 ⟨rfl,⟨g2,hE⟩,hs2r⟩;have hSr:=KX.out _ hs2r)
      | (have hq:=hz1_2;clear hq;go_at_call 168;refine (efun w0 x1 x1 eb base ⟨#[115,110,100]⟩ _ 1 [(⟨.mk 5 ⟨#[112,97,105,114]⟩ 0 [.mk 1 ⟨#[88]⟩ 0 [],.mk 1 ⟨#[89]⟩ 0 []],za1_2,zc1_2⟩:Tv)] _ rfl (by decide) (by simp) ?_ ?_ ?_ ?_).mono ?_;(· exact KS.out _ (by assumption));(· exact KL.out _ (by assumption));(· (first | exact rowV_new _ _ _ _ rfl | exact (rowV_new _ _ _ _ rfl).drew | exact (rowV_new _ _ _ _ (by simp)).drew | exact rowV_new _ _ _ _ (by simp)));(· exact (by intro x hx;simp only [List.mem_cons,List.not_mem_nil,or_false] at hx;rcases hx with rfl<;>first | exact fresh_var _ (by decide) _ _ _ | exact fresh_below hz1_2 (by first | exact Below.refl _ _ | exact (Below.refl _ _).drew | exact (Below.refl _ _).alloc (Nat.le_refl _) _ | exact ((Below.refl _ _).alloc (Nat.le_refl _) _).drew | exact (((Below.refl _ _).alloc (Nat.le_refl _) _).alloc (by simp) _).drew | exact ((Below.refl _ _).alloc (Nat.le_refl _) _).alloc (by simp) _)));rintro e v2_2 ⟨za2_2,zc2_2,rfl,hz2_2,hb2_2,hs2_2⟩;have hn20_2:=below_next (show Below v1_2.heap.size v1_2 _ from (by first | exact Below.refl _ _ | exact (Below.refl _ _).drew | exact (Below.refl _ _).alloc (Nat.le_refl _) _ | exact ((Below.refl _ _).alloc (Nat.le_refl _) _).drew | exact (((Below.refl _ _).alloc (Nat.le_refl _) _).alloc (by simp) _).drew | exact ((Below.refl _ _).alloc (Nat.le_refl _) _).alloc (by simp) _)) hb2_2;have hE:=hE.below hn20_2;have hz1_2:=fresh_below hz1_2 hn20_2;have hS2_2:=KX.out _ hs2_2)
      | (go_at_call 168;refine (efun w0 x1 x1 eb base ⟨#[112,97,105,114]⟩ _ 2 [(varV ⟨#[88]⟩),(varV ⟨#[89]⟩)] _ rfl (by decide) (by simp) ?_ ?_ ?_ ?_).mono ?_;(· exact KS.out _ (by assumption));(· exact KL.out _ (by assumption));(· (first | exact rowV_new _ _ _ _ rfl | exact (rowV_new _ _ _ _ rfl).drew | exact (rowV_new _ _ _ _ (by simp)).drew | exact rowV_new _ _ _ _ (by simp)));(· exact (by intro x hx;simp only [List.mem_cons,List.not_mem_nil,or_false] at hx;rcases hx with rfl | rfl<;>first | exact fresh_var _ (by decide) _ _ _));rintro e v1_2 ⟨za1_2,zc1_2,rfl,hz1_2,hb1_2,hs1_2⟩;have hn10_2:=below_next (show Below x1.heap.size x1 _ from (by first | exact Below.refl _ _ | exact (Below.refl _ _).drew | exact (Below.refl _ _).alloc (Nat.le_refl _) _ | exact ((Below.refl _ _).alloc (Nat.le_refl _) _).drew | exact (((Below.refl _ _).alloc (Nat.le_refl _) _).alloc (by simp) _).drew | exact ((Below.refl _ _).alloc (Nat.le_refl _) _).alloc (by simp) _)) hb1_2;have hE:=hE.below hn10_2;have hS1_2:=KX.out _ hs1_2)
      | fail)
  have ho:=hs2r.only
  have hO:=hO.next ho
  have hx1:=hx1.only ho hq1 hne1
  have hx2:=hx2.only ho hq2 hne2
  simp only [List.nil_append,List.cons_append] at hE
  clear ho KX KA KD KD2 K0 KS KL hEr hS0 hSr hs2r hle hb1_2 hs1_2 hz1_2 hS1_2 hn10_2 hb2_2 hs2_2 hz2_2 hS2_2 hn20_2
  (try go_wp2_with fail)
  go_end0
  exact ⟨rfl,⟨_,_,_,hE⟩,(onlyE_below HOB.out (Nat.le_refl _)).trans (hO.only.less HBS.out)⟩
end Go.Proofs.YtjcleokfpohpdaaGreatDoor
