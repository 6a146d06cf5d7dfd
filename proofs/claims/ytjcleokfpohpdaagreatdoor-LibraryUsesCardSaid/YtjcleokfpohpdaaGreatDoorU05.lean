/-
  Whether a token is a sign, a term by itself, a word, by the reference of layer 11: is, leaf, word, step.
  A box of five cells. No function of the program.
  A tree made of a token, in whatever order the box and the call come up: a region of the reference of layer 11.
-/
import Derived.Test.YtjcleokfpohpdaaGreatDoorU04
import Derived.Deep.RegionHeld3
import Derived.BigQuiet
import Derived.Test.YtjcleokfpohpdaaGreatDoorU02
import Derived.Sort.AtCall
namespace Go.Proofs.YtjcleokfpohpdaaGreatDoor
open Go.RowKit
def tokVal (t:Tok):Value:=.agg #[.int .i64 t.kind,.string t.text,.int .i64 t.n,.int .i64 t.place]
set_option maxRecDepth 100000 in
set_option maxHeartbeats 1000000 in
theorem ris_any (t:Tok) (s:ByteArray) (w:World) :
    Calls Tryz.prog 110 #[tokVal t,.string s] w fun e w'=>e=.returned (.bool (isS t s))∧Below w.heap.size w w':=by
  obtain ⟨k,x,n,p⟩:=t
  unfold tokVal
  have bx:=box_new w (.int .i64 k) (.string x) (.int .i64 n) (.int .i64 p) 129
  obtain ⟨c0,c1,c2,c3,_,_,_,_⟩:=bx
  have hb:=(Below.refl w.heap.size w).alloc (Nat.le_refl _) (.cells #[.int .i64 k,.string x,.int .i64 n,.int .i64 p] 129)
  have HI:=Lib.hid (show isS ⟨k,x,n,p⟩ s=((k==6)&&(x.toList==s.toList)) from rfl)
  cases hk:(k==6) with
  | false =>
    rw [hk] at HI
    go_enter Tryz.func110,Tryz.ntmps110
    go_wp2_with fail
    go_ret
    exact ⟨ret_bool (by rw [HI.out];rfl),hb⟩
  | true =>
    rw [hk] at HI
    cases hx:(x.toList==s.toList) with
    | false =>
      rw [hx] at HI
      go_enter Tryz.func110,Tryz.ntmps110
      go_wp2_with fail
      go_ret
      exact ⟨ret_bool (by rw [HI.out];rfl),hb⟩
    | true =>
      rw [hx] at HI
      go_enter Tryz.func110,Tryz.ntmps110
      go_wp2_with fail
      go_ret
      exact ⟨ret_bool (by rw [HI.out];rfl),hb⟩
set_option maxRecDepth 100000 in
set_option maxHeartbeats 1000000 in
theorem rleaf_any (t:Tok) (w:World) :
    Calls Tryz.prog 109 #[tokVal t] w fun e w'=>e=.returned (.int .i64 (leafK t))∧Below w.heap.size w w':=by
  obtain ⟨k,x,n,p⟩:=t
  unfold tokVal
  have hb:=(Below.refl w.heap.size w).alloc (Nat.le_refl _) (.cells #[.int .i64 k,.string x,.int .i64 n,.int .i64 p] 129)
  have HI:=Lib.hid (show leafK ⟨k,x,n,p⟩=if k=2 then 1 else if k=4 then 3 else if k=5 then 4 else 0 from rfl)
  cases h2:(k==2) with
  | true =>
    have HV:=Lib.hid (show leafK ⟨k,x,n,p⟩=1 by rw [HI.out,if_pos (by simpa using h2)])
    go_enter Tryz.func109,Tryz.ntmps109
    go_wp2_with fail
    go_ret
    exact ⟨by rw [HV.out];rfl,hb⟩
  | false =>
    cases h4:(k==4) with
    | true =>
      have HV:=Lib.hid (show leafK ⟨k,x,n,p⟩=3 by rw [HI.out,if_neg (by simpa using h2),if_pos (by simpa using h4)])
      go_enter Tryz.func109,Tryz.ntmps109
      go_wp2_with fail
      go_ret
      exact ⟨by rw [HV.out];rfl,hb⟩
    | false =>
      cases h5:(k==5) with
      | true =>
        have HV:=Lib.hid (show leafK ⟨k,x,n,p⟩=4 by rw [HI.out,if_neg (by simpa using h2),if_neg (by simpa using h4),if_pos (by simpa using h5)])
        go_enter Tryz.func109,Tryz.ntmps109
        go_wp2_with fail
        go_ret
        exact ⟨by rw [HV.out];rfl,hb⟩
      | false =>
        have HV:=Lib.hid (show leafK ⟨k,x,n,p⟩=0 by rw [HI.out,if_neg (by simpa using h2),if_neg (by simpa using h4),if_neg (by simpa using h5)])
        go_enter Tryz.func109,Tryz.ntmps109
        go_wp2_with fail
        go_ret
        exact ⟨by rw [HV.out];rfl,hb⟩
set_option maxRecDepth 100000 in
set_option maxHeartbeats 2000000 in
theorem rwordk_any (t:Tok) (w:World) :
    Calls Tryz.prog 84 #[tokVal t] w fun e w'=>e=.returned (.bool (wordK t))∧Below w.heap.size w w':=by
  obtain ⟨k,x,n,p⟩:=t
  unfold tokVal
  have hb:=(Below.refl w.heap.size w).alloc (Nat.le_refl _) (.cells #[.int .i64 k,.string x,.int .i64 n,.int .i64 p] 129)
  have HB:=Lib.hid hb
  have HI:=Lib.hid (show wordK ⟨k,x,n,p⟩=((k==1) && !Lib.containsS keyList x) from rfl)
  have bx:=box_new w (.int .i64 k) (.string x) (.int .i64 n) (.int .i64 p) 129
  cases hk:(k==1) with
  | false =>
    rw [hk] at HI
    obtain ⟨c0,c1,c2,c3,_,_,_,_⟩:=bx
    go_enter Tryz.func84,Tryz.ntmps84
    go_wp2_with fail
    go_region
    go_wp2_with fail
    go_ret
    exact ⟨ret_bool (by rw [HI.out];rfl),below_drewN HB.out _⟩
  | true =>
    rw [hk] at HI
    obtain ⟨wc,hwc⟩:∃ wc,wc=w.alloc (.cells #[.int .i64 k,.string x,.int .i64 n,.int .i64 p] 129):=⟨_,rfl⟩
    rw [← hwc] at HB bx
    have hlt:w.heap.size < wc.heap.size:=by rw [hwc];simp
    have KEEP:=Lib.hid (fun (W:World) (h:Below wc.heap.size wc W)=>(show Below wc.heap.size wc W∧W.cell? ⟨w.heap.size,0,none⟩=some (.int .i64 k)∧W.cell? ⟨w.heap.size,1,none⟩=some (.string x) from ⟨h,(bx.below h hlt).c0,(bx.below h hlt).c1⟩))
    have RK:=Lib.hid (fun (W:World) (h:Below wc.heap.size wc W)=>(rkeys_any W).mono fun e w' hh=>(show ∃ v,e=.returned v∧Strs w' v keyList∧Below wc.heap.size wc w' by obtain ⟨v,h1,h2,h3⟩:=hh;exact ⟨v,h1,h2,below_next h h3⟩))
    have RI:=Lib.hid (fun (v:Value) (W:World) (hv:Strs W v keyList) (h:Below wc.heap.size wc W)=>(rin_any v keyList x W hv).mono fun e w' hh=>(show e=.returned (.bool (Lib.containsS keyList x))∧Below wc.heap.size wc w' by obtain ⟨h1,h2⟩:=hh;exact ⟨h1,by rw [← h2];exact h⟩))
    have hd:Below wc.heap.size wc wc.drew:=(Below.refl _ _).drew
    clear hb
    go_enter Tryz.func84,Tryz.ntmps84
    go_wp2_with fail
    rw [← hwc]
    clear hwc
    go_region_held3 (fun W=>Below wc.heap.size wc W∧W.cell? ⟨w.heap.size,0,none⟩=some (.int .i64 k)∧W.cell? ⟨w.heap.size,1,none⟩=some (.string x)) (exact KEEP.out _ (by assumption))
      ((first
        | (go_at_call 68;refine (RK.out _ (by assumption)).mono ?_;rintro e w' ⟨v,rfl,hv,hn⟩)
        | (go_at_call 28;refine (RI.out _ _ (by assumption) (by assumption)).mono ?_;rintro e w' ⟨rfl,hn⟩)))
    go_wp2_with fail
    go_ret
    exact ⟨ret_bool (by rw [HI.out];rfl),below_next HB.out (by assumption)⟩
set_option maxHeartbeats 400000 in
theorem rstep_any (i:Nat) (ok:Bool) (hi:i≤1000000) (w:World) :
    Calls Tryz.prog 141 #[.int .i64 i,.bool ok] w fun e w'=>e=.returned (.int .i64 ((if ok=true then i + 1 else i:Nat):Int))∧w=w':=by
  cases ok with
  | true =>
    go_enter Tryz.func141,Tryz.ntmps141
    go_wp2_with fail
    go_ret
    exact ⟨rfl,rfl⟩
  | false =>
    go_enter Tryz.func141,Tryz.ntmps141
    go_wp2_with fail
    go_ret
    exact ⟨rfl,rfl⟩
end Go.Proofs.YtjcleokfpohpdaaGreatDoor
namespace Go.Proofs.YtjcleokfpohpdaaGreatDoor
open Go.RowKit
structure Box5 (w:World) (g:Nat) (x0 x1 x2 x3 x4:Value):Prop where
  c0:w.cell? ⟨g,0,none⟩=some x0
  c1:w.cell? ⟨g,1,none⟩=some x1
  c2:w.cell? ⟨g,2,none⟩=some x2
  c3:w.cell? ⟨g,3,none⟩=some x3
  c4:w.cell? ⟨g,4,none⟩=some x4
  f0:w.frozen? ⟨g,0,none⟩=false
  f1:w.frozen? ⟨g,1,none⟩=false
  f2:w.frozen? ⟨g,2,none⟩=false
  f3:w.frozen? ⟨g,3,none⟩=false
  f4:w.frozen? ⟨g,4,none⟩=false
theorem box5_new (w:World) (x0 x1 x2 x3 x4:Value) (t:TypeId):Box5 (w.alloc (.cells #[x0,x1,x2,x3,x4] t)) w.heap.size x0 x1 x2 x3 x4 where
  c0:=World.cell?_alloc_mark w #[x0,x1,x2,x3,x4] t (0,0) 0
  c1:=World.cell?_alloc_mark w #[x0,x1,x2,x3,x4] t (0,0) 1
  c2:=World.cell?_alloc_mark w #[x0,x1,x2,x3,x4] t (0,0) 2
  c3:=World.cell?_alloc_mark w #[x0,x1,x2,x3,x4] t (0,0) 3
  c4:=World.cell?_alloc_mark w #[x0,x1,x2,x3,x4] t (0,0) 4
  f0:=by simp
  f1:=by simp
  f2:=by simp
  f3:=by simp
  f4:=by simp
theorem Box5.below {w w1:World} {g B:Nat} {x0 x1 x2 x3 x4:Value} (h:Box5 w g x0 x1 x2 x3 x4) (hb:Below B w w1) (hg:g < B):Box5 w1 g x0 x1 x2 x3 x4 where
  c0:=(hb.cell (p:=⟨g,0,none⟩) hg).trans h.c0
  c1:=(hb.cell (p:=⟨g,1,none⟩) hg).trans h.c1
  c2:=(hb.cell (p:=⟨g,2,none⟩) hg).trans h.c2
  c3:=(hb.cell (p:=⟨g,3,none⟩) hg).trans h.c3
  c4:=(hb.cell (p:=⟨g,4,none⟩) hg).trans h.c4
  f0:=(hb.frozen (p:=⟨g,0,none⟩) hg).trans h.f0
  f1:=(hb.frozen (p:=⟨g,1,none⟩) hg).trans h.f1
  f2:=(hb.frozen (p:=⟨g,2,none⟩) hg).trans h.f2
  f3:=(hb.frozen (p:=⟨g,3,none⟩) hg).trans h.f3
  f4:=(hb.frozen (p:=⟨g,4,none⟩) hg).trans h.f4
theorem cell_off5 {W:World} {u:Value} (g i j:Nat) (h:i≠j):(W.setCell ⟨g,i,none⟩ u).cell? ⟨g,j,none⟩=W.cell? ⟨g,j,none⟩:=World.cell?_setCell_other _ _ _ _ (fun e=>h (by cases e;rfl))
theorem Box5.sets {w:World} {g:Nat} {x0 x1 x2 x3 x4:Value} (h:Box5 w g x0 x1 x2 x3 x4) (y0 y1 y2 y3 y4:Value) :
    Box5 (((((w.setCell ⟨g,0,none⟩ y0).setCell ⟨g,1,none⟩ y1).setCell ⟨g,2,none⟩ y2).setCell ⟨g,3,none⟩ y3).setCell ⟨g,4,none⟩ y4) g y0 y1 y2 y3 y4 where
  c0:=by
    rw [cell_off5 g 4 0 (by decide),cell_off5 g 3 0 (by decide),cell_off5 g 2 0 (by decide),cell_off5 g 1 0 (by decide)]
    exact World.cell?_setCell_same _ _ _ h.c0
  c1:=by
    rw [cell_off5 g 4 1 (by decide),cell_off5 g 3 1 (by decide),cell_off5 g 2 1 (by decide)]
    refine World.cell?_setCell_same (u:=x1) _ _ _ ?_
    rw [cell_off5 g 0 1 (by decide)];exact h.c1
  c2:=by
    rw [cell_off5 g 4 2 (by decide),cell_off5 g 3 2 (by decide)]
    refine World.cell?_setCell_same (u:=x2) _ _ _ ?_
    rw [cell_off5 g 1 2 (by decide),cell_off5 g 0 2 (by decide)];exact h.c2
  c3:=by
    rw [cell_off5 g 4 3 (by decide)]
    refine World.cell?_setCell_same (u:=x3) _ _ _ ?_
    rw [cell_off5 g 2 3 (by decide),cell_off5 g 1 3 (by decide),cell_off5 g 0 3 (by decide)];exact h.c3
  c4:=by
    refine World.cell?_setCell_same (u:=x4) _ _ _ ?_
    rw [cell_off5 g 3 4 (by decide),cell_off5 g 2 4 (by decide),cell_off5 g 1 4 (by decide),cell_off5 g 0 4 (by decide)];exact h.c4
  f0:=by simp [h.f0]
  f1:=by simp [h.f1]
  f2:=by simp [h.f2]
  f3:=by simp [h.f3]
  f4:=by simp [h.f4]
theorem below_sets5 {B:Nat} {a w:World} (h:Below B a w) {g:Nat} (hg:B≤g) (y0 y1 y2 y3 y4:Value):Below B a (((((w.setCell ⟨g,0,none⟩ y0).setCell ⟨g,1,none⟩ y1).setCell ⟨g,2,none⟩ y2).setCell ⟨g,3,none⟩ y3).setCell ⟨g,4,none⟩ y4) :=
  ((((h.setCell (p:=⟨g,0,none⟩) hg _).setCell (p:=⟨g,1,none⟩) hg _).setCell (p:=⟨g,2,none⟩) hg _).setCell (p:=⟨g,3,none⟩) hg _).setCell (p:=⟨g,4,none⟩) hg _
end Go.Proofs.YtjcleokfpohpdaaGreatDoor
namespace Go.Proofs.YtjcleokfpohpdaaGreatDoor
open Go.RowKit
def leafOps : Array Oper := #[{ dst := some 18, op := Op.load 129 (Operand.tmp 9), type := 129, pos := "ref.go:51", after := #[], guard := none },
  { dst := some 19, op := Op.call { callee := Callee.value (Operand.func 109), args := #[Operand.tmp 18], argTypes := #[129] }, type := 3, pos := "ref.go:51", after := #[{ on := 0, ground := Ground.data }], guard := none },
  { dst := some 20, op := Op.fieldAddr 129 (Operand.tmp 9) 1, type := 0, pos := "ref.go:51", after := #[], guard := none },
  { dst := some 21, op := Op.load 9 (Operand.tmp 20), type := 9, pos := "ref.go:51", after := #[{ on := 2, ground := Ground.data }], guard := none },
  { dst := some 22, op := Op.fieldAddr 129 (Operand.tmp 9) 2, type := 0, pos := "ref.go:51", after := #[], guard := none },
  { dst := some 23, op := Op.load 3 (Operand.tmp 22), type := 3, pos := "ref.go:51", after := #[{ on := 4, ground := Ground.data }], guard := none },
  { dst := some 24, op := Op.fieldAddr 129 (Operand.tmp 9) 3, type := 0, pos := "ref.go:51", after := #[], guard := none },
  { dst := some 25, op := Op.load 3 (Operand.tmp 24), type := 3, pos := "ref.go:51", after := #[{ on := 6, ground := Ground.data }], guard := none },
  { dst := some 26, op := Op.build 51 #[(0, Operand.tmp 19), (1, Operand.tmp 21), (2, Operand.tmp 23), (3, Operand.tmp 25)], type := 51, pos := "ref.go:51", after := #[{ on := 1, ground := Ground.data }, { on := 3, ground := Ground.data }, { on := 5, ground := Ground.data }, { on := 7, ground := Ground.data }], guard := none },
  { dst := some 10, op := Op.alloc 51, type := 0, pos := "ref.go:51", after := #[], guard := none },
  { dst := none, op := Op.store 51 (Operand.tmp 10) (Operand.tmp 26), type := 0, pos := "ref.go:51", after := #[{ on := 9, ground := Ground.data }, { on := 8, ground := Ground.data }, { on := 1, ground := Ground.chain }, { on := 0, ground := Ground.phase }, { on := 1, ground := Ground.phase }, { on := 2, ground := Ground.phase }, { on := 3, ground := Ground.phase }, { on := 4, ground := Ground.phase }, { on := 5, ground := Ground.phase }, { on := 6, ground := Ground.phase }, { on := 7, ground := Ground.phase }, { on := 8, ground := Ground.phase }, { on := 9, ground := Ground.phase }], guard := none }]
set_option maxRecDepth 100000 in
set_option maxHeartbeats 4000000 in
theorem leaf_region (Q:Exit→Act→World→Prop) (wb:World) (g9:Nat) (tk:Int) (tx:ByteArray) (tn tp lk:Int) (y0 y1 y2 y3 y4 y5 y6 y7 y8 y14 y15 y16 y17:Value) (hlk:leafK ⟨tk,tx,tn,tp⟩=lk)
    (KEEP:Hid (∀ V:World,Below wb.heap.size wb V→V.cell? ⟨g9,0,none⟩=some (.int .i64 tk)∧V.cell? ⟨g9,1,none⟩=some (.string tx)∧V.cell? ⟨g9,2,none⟩=some (.int .i64 tn)∧V.cell? ⟨g9,3,none⟩=some (.int .i64 tp)))
    (HQ:∀ c (i:Nat) v (a:Act) w,Q (.panic c) (a.put (some i) v) w→Q (.panic c) a w)
    (REST:∀ (V:World) (g:Nat),Below wb.heap.size wb V→wb.heap.size≤g→Box5 V g (.int .i64 lk) (.string tx) (.int .i64 tn) (.int .i64 tp) (.slice none 0 0)→Q .normal { tmps:=(y0 :: y1 :: y2 :: y3 :: y4 :: y5 :: y6 :: y7 :: y8 :: .pointer (some ⟨g9,0,none⟩) :: .pointer (some ⟨g,0,none⟩) :: undef :: undef :: undef :: y14 :: y15 :: y16 :: y17 :: .agg #[.int .i64 tk,.string tx,.int .i64 tn,.int .i64 tp] :: .int .i64 lk :: .pointer (some ⟨g9,1,none⟩) :: .string tx :: .pointer (some ⟨g9,2,none⟩) :: .int .i64 tn :: .pointer (some ⟨g9,3,none⟩) :: .int .i64 tp :: .agg #[.int .i64 lk,.string tx,.int .i64 tn,.int .i64 tp,.slice none 0 0] :: undef :: undef :: undef :: undef :: undef :: undef :: undef :: undef :: undef :: undef :: undef :: undef :: undef :: undef :: undef :: undef :: undef :: undef :: undef :: undef :: undef :: undef :: undef :: undef :: undef :: undef :: undef :: undef :: undef :: undef :: undef :: undef :: undef :: undef :: undef :: undef :: undef :: undef :: undef :: undef :: undef :: undef :: undef :: undef :: undef :: undef :: undef :: undef :: undef :: undef :: undef :: undef :: undef :: undef :: undef :: []).toArray,defers:=[] } V) :
    Code.wp Tryz.prog (Code.region 2 leafOps true) Q { tmps:=(y0 :: y1 :: y2 :: y3 :: y4 :: y5 :: y6 :: y7 :: y8 :: .pointer (some ⟨g9,0,none⟩) :: undef :: undef :: undef :: undef :: y14 :: y15 :: y16 :: y17 :: undef :: undef :: undef :: undef :: undef :: undef :: undef :: undef :: undef :: undef :: undef :: undef :: undef :: undef :: undef :: undef :: undef :: undef :: undef :: undef :: undef :: undef :: undef :: undef :: undef :: undef :: undef :: undef :: undef :: undef :: undef :: undef :: undef :: undef :: undef :: undef :: undef :: undef :: undef :: undef :: undef :: undef :: undef :: undef :: undef :: undef :: undef :: undef :: undef :: undef :: undef :: undef :: undef :: undef :: undef :: undef :: undef :: undef :: undef :: undef :: undef :: undef :: undef :: undef :: []).toArray,defers:=[] } wb:=by
  have LF:=Lib.hid (fun (V:World)=>rleaf_any ⟨tk,tx,tn,tp⟩ V)
  unfold tokVal at LF
  rw [hlk] at LF
  simp only at LF
  clear hlk
  obtain ⟨S,hS⟩:∃ S:World→Prop,S=(fun V=>V.cell? ⟨g9,0,none⟩=some (.int .i64 tk)∧V.cell? ⟨g9,1,none⟩=some (.string tx)∧V.cell? ⟨g9,2,none⟩=some (.int .i64 tn)∧V.cell? ⟨g9,3,none⟩=some (.int .i64 tp)):=⟨_,rfl⟩
  have s11:∀ (U:World) (g:Nat) ,Below wb.heap.size wb U→wb.heap.size≤g→Box5 U g (.int .i64 0) (.string ⟨#[]⟩) (.int .i64 0) (.int .i64 0) (.slice none 0 0)→wpAnyH Tryz.prog .any leafOps Q S 1 #[true,true,true,true,true,true,true,true,true,true,false] { tmps:=(y0 :: y1 :: y2 :: y3 :: y4 :: y5 :: y6 :: y7 :: y8 :: .pointer (some ⟨g9,0,none⟩) :: .pointer (some ⟨g,0,none⟩) :: undef :: undef :: undef :: y14 :: y15 :: y16 :: y17 :: .agg #[.int .i64 tk,.string tx,.int .i64 tn,.int .i64 tp] :: .int .i64 lk :: .pointer (some ⟨g9,1,none⟩) :: .string tx :: .pointer (some ⟨g9,2,none⟩) :: .int .i64 tn :: .pointer (some ⟨g9,3,none⟩) :: .int .i64 tp :: .agg #[.int .i64 lk,.string tx,.int .i64 tn,.int .i64 tp,.slice none 0 0] :: undef :: undef :: undef :: undef :: undef :: undef :: undef :: undef :: undef :: undef :: undef :: undef :: undef :: undef :: undef :: undef :: undef :: undef :: undef :: undef :: undef :: undef :: undef :: undef :: undef :: undef :: undef :: undef :: undef :: undef :: undef :: undef :: undef :: undef :: undef :: undef :: undef :: undef :: undef :: undef :: undef :: undef :: undef :: undef :: undef :: undef :: undef :: undef :: undef :: undef :: undef :: undef :: undef :: undef :: undef :: []).toArray,defers:=[] } U:=by
    intro U g hB hg hx
    have HX:=Lib.hid (hx.sets (.int .i64 lk) (.string tx) (.int .i64 tn) (.int .i64 tp) (.slice none 0 0))
    have hB3:Below wb.heap.size wb (((((U.setCell ⟨g,0,none⟩ (.int .i64 lk)).setCell ⟨g,1,none⟩ (.string tx)).setCell ⟨g,2,none⟩ (.int .i64 tn)).setCell ⟨g,3,none⟩ (.int .i64 tp)).setCell ⟨g,4,none⟩ (.slice none 0 0)):=below_sets5 hB hg _ _ _ _ _
    have S1:S (((((U.setCell ⟨g,0,none⟩ (.int .i64 lk)).setCell ⟨g,1,none⟩ (.string tx)).setCell ⟨g,2,none⟩ (.int .i64 tn)).setCell ⟨g,3,none⟩ (.int .i64 tp)).setCell ⟨g,4,none⟩ (.slice none 0 0)):=by rw [hS];exact KEEP.out _ hB3
    obtain ⟨z0,z1,z2,z3,z4,f0,f1,f2,f3,f4⟩:=id hx
    refine wpAnyH_ready (rs:=[10]) (by kernel_rfl) (by simp) ?_
    refine AllReadyH.cons (o := { dst := none, op := Op.store 51 (Operand.tmp 10) (Operand.tmp 26), type := 0, pos := "ref.go:51", after := #[{ on := 9, ground := Ground.data }, { on := 8, ground := Ground.data }, { on := 1, ground := Ground.chain }, { on := 0, ground := Ground.phase }, { on := 1, ground := Ground.phase }, { on := 2, ground := Ground.phase }, { on := 3, ground := Ground.phase }, { on := 4, ground := Ground.phase }, { on := 5, ground := Ground.phase }, { on := 6, ground := Ground.phase }, { on := 7, ground := Ground.phase }, { on := 8, ground := Ground.phase }, { on := 9, ground := Ground.phase }], guard := none }) rfl (fun K hK => ?_) (AllReadyH.nil)
    go_simp
    refine hK.out _ _ S1 (fun hHeld=>?_)
    clear hK K z0 z1 z2 z3 z4 f0 f1 f2 f3 f4
    try simp only [List.setIfInBounds_toArray,List.set_cons_zero,List.set_cons_succ]
    refine wpAnyH_done (by kernel_rfl) ?_ _
    exact REST _ g hB3 hg HX.out
  have s10:∀ (U:World) ,Below wb.heap.size wb U→wpAnyH Tryz.prog .any leafOps Q S 2 #[true,true,true,true,true,true,true,true,true,false,false] { tmps:=(y0 :: y1 :: y2 :: y3 :: y4 :: y5 :: y6 :: y7 :: y8 :: .pointer (some ⟨g9,0,none⟩) :: undef :: undef :: undef :: undef :: y14 :: y15 :: y16 :: y17 :: .agg #[.int .i64 tk,.string tx,.int .i64 tn,.int .i64 tp] :: .int .i64 lk :: .pointer (some ⟨g9,1,none⟩) :: .string tx :: .pointer (some ⟨g9,2,none⟩) :: .int .i64 tn :: .pointer (some ⟨g9,3,none⟩) :: .int .i64 tp :: .agg #[.int .i64 lk,.string tx,.int .i64 tn,.int .i64 tp,.slice none 0 0] :: undef :: undef :: undef :: undef :: undef :: undef :: undef :: undef :: undef :: undef :: undef :: undef :: undef :: undef :: undef :: undef :: undef :: undef :: undef :: undef :: undef :: undef :: undef :: undef :: undef :: undef :: undef :: undef :: undef :: undef :: undef :: undef :: undef :: undef :: undef :: undef :: undef :: undef :: undef :: undef :: undef :: undef :: undef :: undef :: undef :: undef :: undef :: undef :: undef :: undef :: undef :: undef :: undef :: undef :: undef :: []).toArray,defers:=[] } U:=by
    intro U hB
    refine wpAnyH_ready (rs:=[9]) (by kernel_rfl) (by simp) ?_
    refine AllReadyH.cons (o := { dst := some 10, op := Op.alloc 51, type := 0, pos := "ref.go:51", after := #[], guard := none }) rfl (fun K hK => ?_) (AllReadyH.nil)
    · go_simp
      have hbU:Below U.heap.size U (U.alloc (.cells #[.int .i64 0,.string ⟨#[]⟩,.int .i64 0,.int .i64 0,.slice none 0 0] 51)):=(Below.refl _ _).alloc (Nat.le_refl _) _
      have hB1:=below_next hB hbU
      have hn:=box5_new U (.int .i64 0) (.string ⟨#[]⟩) (.int .i64 0) (.int .i64 0) (.slice none 0 0) 51
      refine hK.out _ _ (by rw [hS];exact KEEP.out _ hB1) (fun hHeld=>?_)
      clear hK K
      try simp only [List.setIfInBounds_toArray,List.set_cons_zero,List.set_cons_succ]
      exact s11 _ U.heap.size hB1 hB.size hn
  have s01:∀ (U:World) (g:Nat) ,Below wb.heap.size wb U→wb.heap.size≤g→Box5 U g (.int .i64 0) (.string ⟨#[]⟩) (.int .i64 0) (.int .i64 0) (.slice none 0 0)→wpAnyH Tryz.prog .any leafOps Q S 3 #[true,false,true,true,true,true,true,true,false,true,false] { tmps:=(y0 :: y1 :: y2 :: y3 :: y4 :: y5 :: y6 :: y7 :: y8 :: .pointer (some ⟨g9,0,none⟩) :: .pointer (some ⟨g,0,none⟩) :: undef :: undef :: undef :: y14 :: y15 :: y16 :: y17 :: .agg #[.int .i64 tk,.string tx,.int .i64 tn,.int .i64 tp] :: undef :: .pointer (some ⟨g9,1,none⟩) :: .string tx :: .pointer (some ⟨g9,2,none⟩) :: .int .i64 tn :: .pointer (some ⟨g9,3,none⟩) :: .int .i64 tp :: undef :: undef :: undef :: undef :: undef :: undef :: undef :: undef :: undef :: undef :: undef :: undef :: undef :: undef :: undef :: undef :: undef :: undef :: undef :: undef :: undef :: undef :: undef :: undef :: undef :: undef :: undef :: undef :: undef :: undef :: undef :: undef :: undef :: undef :: undef :: undef :: undef :: undef :: undef :: undef :: undef :: undef :: undef :: undef :: undef :: undef :: undef :: undef :: undef :: undef :: undef :: undef :: undef :: undef :: undef :: undef :: []).toArray,defers:=[] } U:=by
    intro U g hB hg hx
    refine wpAnyH_ready (rs:=[1]) (by kernel_rfl) (by simp) ?_
    refine AllReadyH.cons (o := { dst := some 19, op := Op.call { callee := Callee.value (Operand.func 109), args := #[Operand.tmp 18], argTypes := #[129] }, type := 3, pos := "ref.go:51", after := #[{ on := 0, ground := Ground.data }], guard := none }) rfl (fun K hK => ?_) (AllReadyH.nil)
    · go_simp
      go_at_call 109
      refine (LF.out _).mono ?_;rintro e U1 ⟨rfl,hbU⟩
      have hB1:=below_next hB hbU
      have hl:g < U.heap.size:=lt_of_cellR hx.c0
      replace hx:=hx.below hbU hl
      refine hK.out _ _ (by rw [hS];exact KEEP.out _ hB1) (fun hHeld=>?_)
      clear hK K
      try simp only [List.setIfInBounds_toArray,List.set_cons_zero,List.set_cons_succ]
      refine wpAnyH_take (i := 8) (oi := { dst := some 26, op := Op.build 51 #[(0, Operand.tmp 19), (1, Operand.tmp 21), (2, Operand.tmp 23), (3, Operand.tmp 25)], type := 51, pos := "ref.go:51", after := #[{ on := 1, ground := Ground.data }, { on := 3, ground := Ground.data }, { on := 5, ground := Ground.data }, { on := 7, ground := Ground.data }], guard := none }) (v := ?v81) rfl (by kernel_rfl) (by kernel_rfl) (by kernel_rfl) (fun _ _ _ h => HQ _ _ _ _ _ h) (Or.inl ⟨by rfl, ?hy81⟩) (by assumption) ?rest81
      case hy81=>(intro w hSw;go_simp;(try with_reducible rfl))
      try simp only [Act.put,List.setIfInBounds_toArray,List.set_cons_zero,List.set_cons_succ]
      exact s11 U1 g hB1 hg hx
  have s00:∀ (U:World) ,Below wb.heap.size wb U→wpAnyH Tryz.prog .any leafOps Q S 4 #[true,false,true,true,true,true,true,true,false,false,false] { tmps:=(y0 :: y1 :: y2 :: y3 :: y4 :: y5 :: y6 :: y7 :: y8 :: .pointer (some ⟨g9,0,none⟩) :: undef :: undef :: undef :: undef :: y14 :: y15 :: y16 :: y17 :: .agg #[.int .i64 tk,.string tx,.int .i64 tn,.int .i64 tp] :: undef :: .pointer (some ⟨g9,1,none⟩) :: .string tx :: .pointer (some ⟨g9,2,none⟩) :: .int .i64 tn :: .pointer (some ⟨g9,3,none⟩) :: .int .i64 tp :: undef :: undef :: undef :: undef :: undef :: undef :: undef :: undef :: undef :: undef :: undef :: undef :: undef :: undef :: undef :: undef :: undef :: undef :: undef :: undef :: undef :: undef :: undef :: undef :: undef :: undef :: undef :: undef :: undef :: undef :: undef :: undef :: undef :: undef :: undef :: undef :: undef :: undef :: undef :: undef :: undef :: undef :: undef :: undef :: undef :: undef :: undef :: undef :: undef :: undef :: undef :: undef :: undef :: undef :: undef :: undef :: []).toArray,defers:=[] } U:=by
    intro U hB
    refine wpAnyH_ready (rs:=[1,9]) (by kernel_rfl) (by simp) ?_
    refine AllReadyH.cons (o := { dst := some 19, op := Op.call { callee := Callee.value (Operand.func 109), args := #[Operand.tmp 18], argTypes := #[129] }, type := 3, pos := "ref.go:51", after := #[{ on := 0, ground := Ground.data }], guard := none }) rfl (fun K hK => ?_) (AllReadyH.cons (o := { dst := some 10, op := Op.alloc 51, type := 0, pos := "ref.go:51", after := #[], guard := none }) rfl (fun K hK => ?_) (AllReadyH.nil))
    · go_simp
      go_at_call 109
      refine (LF.out _).mono ?_;rintro e U1 ⟨rfl,hbU⟩
      have hB1:=below_next hB hbU
      refine hK.out _ _ (by rw [hS];exact KEEP.out _ hB1) (fun hHeld=>?_)
      clear hK K
      try simp only [List.setIfInBounds_toArray,List.set_cons_zero,List.set_cons_succ]
      refine wpAnyH_take (i := 8) (oi := { dst := some 26, op := Op.build 51 #[(0, Operand.tmp 19), (1, Operand.tmp 21), (2, Operand.tmp 23), (3, Operand.tmp 25)], type := 51, pos := "ref.go:51", after := #[{ on := 1, ground := Ground.data }, { on := 3, ground := Ground.data }, { on := 5, ground := Ground.data }, { on := 7, ground := Ground.data }], guard := none }) (v := ?v80) rfl (by kernel_rfl) (by kernel_rfl) (by kernel_rfl) (fun _ _ _ h => HQ _ _ _ _ _ h) (Or.inl ⟨by rfl, ?hy80⟩) (by assumption) ?rest80
      case hy80=>(intro w hSw;go_simp;(try with_reducible rfl))
      try simp only [Act.put,List.setIfInBounds_toArray,List.set_cons_zero,List.set_cons_succ]
      exact s10 U1 hB1
    · go_simp
      have hbU:Below U.heap.size U (U.alloc (.cells #[.int .i64 0,.string ⟨#[]⟩,.int .i64 0,.int .i64 0,.slice none 0 0] 51)):=(Below.refl _ _).alloc (Nat.le_refl _) _
      have hB1:=below_next hB hbU
      have hn:=box5_new U (.int .i64 0) (.string ⟨#[]⟩) (.int .i64 0) (.int .i64 0) (.slice none 0 0) 51
      refine hK.out _ _ (by rw [hS];exact KEEP.out _ hB1) (fun hHeld=>?_)
      clear hK K
      try simp only [List.setIfInBounds_toArray,List.set_cons_zero,List.set_cons_succ]
      exact s01 _ U.heap.size hB1 hB.size hn
  refine wp_region_held_drew (S:=S) (by kernel_rfl) (by rw [hS];exact KEEP.out _ (Below.refl _ _).drew) (fun hHeld=>?_)
  have hbd:Below wb.heap.size wb wb.drew:=(Below.refl _ _).drew
  rw [hS] at hHeld
  refine wpAnyH_take (i := 0) (oi := { dst := some 18, op := Op.load 129 (Operand.tmp 9), type := 129, pos := "ref.go:51", after := #[], guard := none }) (v := ?v0) rfl (by kernel_rfl) (by kernel_rfl) (by kernel_rfl) (fun _ _ _ h => HQ _ _ _ _ _ h) (Or.inl ⟨by rfl, ?hy0⟩) (by rw [hS]; exact hHeld) ?rest0
  case hy0=>(intro w hSw;rw [hS] at hSw;(try dsimp only at hSw);go_simp;(try with_reducible rfl))
  try simp only [Act.put,List.setIfInBounds_toArray,List.set_cons_zero,List.set_cons_succ]
  refine wpAnyH_take (i := 2) (oi := { dst := some 20, op := Op.fieldAddr 129 (Operand.tmp 9) 1, type := 0, pos := "ref.go:51", after := #[], guard := none }) (v := ?v2) rfl (by kernel_rfl) (by kernel_rfl) (by kernel_rfl) (fun _ _ _ h => HQ _ _ _ _ _ h) (Or.inl ⟨by rfl, ?hy2⟩) (by rw [hS]; exact hHeld) ?rest2
  case hy2=>(intro w hSw;rw [hS] at hSw;(try dsimp only at hSw);go_simp;(try with_reducible rfl))
  try simp only [Act.put,List.setIfInBounds_toArray,List.set_cons_zero,List.set_cons_succ]
  refine wpAnyH_take (i := 3) (oi := { dst := some 21, op := Op.load 9 (Operand.tmp 20), type := 9, pos := "ref.go:51", after := #[{ on := 2, ground := Ground.data }], guard := none }) (v := ?v3) rfl (by kernel_rfl) (by kernel_rfl) (by kernel_rfl) (fun _ _ _ h => HQ _ _ _ _ _ h) (Or.inl ⟨by rfl, ?hy3⟩) (by rw [hS]; exact hHeld) ?rest3
  case hy3=>(intro w hSw;rw [hS] at hSw;(try dsimp only at hSw);go_simp;(try with_reducible rfl))
  try simp only [Act.put,List.setIfInBounds_toArray,List.set_cons_zero,List.set_cons_succ]
  refine wpAnyH_take (i := 4) (oi := { dst := some 22, op := Op.fieldAddr 129 (Operand.tmp 9) 2, type := 0, pos := "ref.go:51", after := #[], guard := none }) (v := ?v4) rfl (by kernel_rfl) (by kernel_rfl) (by kernel_rfl) (fun _ _ _ h => HQ _ _ _ _ _ h) (Or.inl ⟨by rfl, ?hy4⟩) (by rw [hS]; exact hHeld) ?rest4
  case hy4=>(intro w hSw;rw [hS] at hSw;(try dsimp only at hSw);go_simp;(try with_reducible rfl))
  try simp only [Act.put,List.setIfInBounds_toArray,List.set_cons_zero,List.set_cons_succ]
  refine wpAnyH_take (i := 5) (oi := { dst := some 23, op := Op.load 3 (Operand.tmp 22), type := 3, pos := "ref.go:51", after := #[{ on := 4, ground := Ground.data }], guard := none }) (v := ?v5) rfl (by kernel_rfl) (by kernel_rfl) (by kernel_rfl) (fun _ _ _ h => HQ _ _ _ _ _ h) (Or.inl ⟨by rfl, ?hy5⟩) (by rw [hS]; exact hHeld) ?rest5
  case hy5=>(intro w hSw;rw [hS] at hSw;(try dsimp only at hSw);go_simp;(try with_reducible rfl))
  try simp only [Act.put,List.setIfInBounds_toArray,List.set_cons_zero,List.set_cons_succ]
  refine wpAnyH_take (i := 6) (oi := { dst := some 24, op := Op.fieldAddr 129 (Operand.tmp 9) 3, type := 0, pos := "ref.go:51", after := #[], guard := none }) (v := ?v6) rfl (by kernel_rfl) (by kernel_rfl) (by kernel_rfl) (fun _ _ _ h => HQ _ _ _ _ _ h) (Or.inl ⟨by rfl, ?hy6⟩) (by rw [hS]; exact hHeld) ?rest6
  case hy6=>(intro w hSw;rw [hS] at hSw;(try dsimp only at hSw);go_simp;(try with_reducible rfl))
  try simp only [Act.put,List.setIfInBounds_toArray,List.set_cons_zero,List.set_cons_succ]
  refine wpAnyH_take (i := 7) (oi := { dst := some 25, op := Op.load 3 (Operand.tmp 24), type := 3, pos := "ref.go:51", after := #[{ on := 6, ground := Ground.data }], guard := none }) (v := ?v7) rfl (by kernel_rfl) (by kernel_rfl) (by kernel_rfl) (fun _ _ _ h => HQ _ _ _ _ _ h) (Or.inl ⟨by rfl, ?hy7⟩) (by rw [hS]; exact hHeld) ?rest7
  case hy7=>(intro w hSw;rw [hS] at hSw;(try dsimp only at hSw);go_simp;(try with_reducible rfl))
  try simp only [Act.put,List.setIfInBounds_toArray,List.set_cons_zero,List.set_cons_succ]
  exact s00 _ hbd
end Go.Proofs.YtjcleokfpohpdaaGreatDoor
