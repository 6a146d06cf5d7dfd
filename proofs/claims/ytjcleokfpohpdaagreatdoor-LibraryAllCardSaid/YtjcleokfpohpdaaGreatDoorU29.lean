/-
  Names within a term that stands in memory are no longer than a text can be. No function of the program. (parted from PPutV: the two clash)
  A field of a value that a call has answered.
  Terms with their variables by number, by the program: together, vars, put, Canon.
  Which of two terms is first, by the program's Compare, and whether they are alike, by its Same: for any two terms in memory. Nothing is drawn; new memory alone.
-/
import Derived.Test.YtjcleokfpohpdaaGreatDoorU02
import Derived.Test.YtjcleokfpohpdaaGreatDoorU01
import Derived.WalkKit
import Derived.Test.YtjcleokfpohpdaaGreatDoorU10
import Derived.Test.YtjcleokfpohpdaaGreatDoorU17
import Derived.Test.YtjcleokfpohpdaaGreatDoorU28
import Derived.Test.YtjcleokfpohpdaaGreatDoorU20
namespace Go.Proofs.YtjcleokfpohpdaaGreatDoor
open Go.RowKit
mutual
theorem tm_names {w:World}:∀ {t:Tm} {b o:Nat},TmAt w t b o→∀ y ∈ t.all,y.name.size≤9223372036854775807
  | .mk k s n xs,b,o,h,y,hy=>by
    rw [TmAt] at h
    obtain ⟨hf,_,_,_,a,c,_,_,hr⟩:=h
    rw [all_eq] at hy
    rcases List.mem_cons.1 hy with rfl | hy
    · exact hf.len
    · rcases hr with rfl | ⟨b',o',_,_,hr⟩
      · simp only [Tm.args,allL] at hy;cases hy
      · exact row_names hr y hy
theorem row_names {w:World}:∀ {xs:List Tm} {b o:Nat},RowAt w xs b o→∀ y ∈ allL xs,y.name.size≤9223372036854775807
  | [],_,_,_,y,hy=>by rw [allL] at hy;cases hy
  | t :: r,b,o,h,y,hy=>by
    rw [RowAt] at h
    rw [allL] at hy
    rcases List.mem_append.1 hy with hy | hy
    · exact tm_names h.1 y hy
    · exact row_names h.2 y hy
end
theorem ok_names {w:World} {x:Tv} (h:x.ok w):∀ y ∈ x.t.all,y.name.size≤9223372036854775807:=fun y hy=>by
  obtain ⟨hf,_,hr⟩:=h
  rw [all_eq] at hy
  rcases List.mem_cons.1 hy with rfl | hy
  · exact hf.len
  · rcases hr with e | ⟨b,o,_,_,hr⟩
    · rw [e,allL] at hy;cases hy
    · exact row_names hr y hy
theorem vars_from {s:ByteArray}:∀ (l:List Tm) {acc:List ByteArray},s ∈ l.foldl varStep acc→s ∈ acc∨∃ y ∈ l,y.kind=1∧y.name=s
  | [],_,h=>.inl h
  | x :: l,acc,h=>by
    rcases vars_from l (acc:=varStep acc x) h with h | ⟨y,hy,h⟩
    · unfold varStep at h
      split at h
      · next hc =>
        rcases List.mem_append.1 h with h | h
        · exact .inl h
        · rw [List.mem_singleton] at h
          exact .inr ⟨x,List.mem_cons_self,by simpa using hc.1,h.symm⟩
      · exact .inl h
    · exact .inr ⟨y,List.mem_cons_of_mem _ hy,h⟩
theorem ok_vars {w:World} {x:Tv} (h:x.ok w) {s:ByteArray} (hs:s ∈ x.t.vars):s.size≤9223372036854775807:=by
  rcases vars_from x.t.all hs with h1 | ⟨y,hy,_,rfl⟩
  · cases h1
  · exact ok_names h y hy
end Go.Proofs.YtjcleokfpohpdaaGreatDoor
namespace Go.Proofs.YtjcleokfpohpdaaGreatDoor
open Go.RowKit
theorem field_args (a b c d:Value) (w:World):(Instr.field 70 (.agg #[a,b,c,d]) 3).run Tryz.prog w=.ok d w:=by kernel_rfl
theorem field_rules (f r:Value) (w:World):(Instr.field 26 (.agg #[f,r]) 1).run Tryz.prog w=.ok r w:=by kernel_rfl
end Go.Proofs.YtjcleokfpohpdaaGreatDoor
namespace Go.Proofs.YtjcleokfpohpdaaGreatDoor
open Go.RowKit
theorem bindInfoP12:(Tryz.prog.info? 233).map (fun i=>(i.zero,i.size,i.bytes))=some (some (.agg #[.string ⟨#[]⟩,.int .i64 0,.string ⟨#[]⟩,.int .i64 0,.slice none 0 0]),5,72):=by kernel_rfl
theorem tms_vs {w:World} {v:Value} {ts:List Tm} (h:Tms w v ts) (hne:ts≠[]):∃ (b o c:Nat) (vs:List Tv),v=.slice (some ⟨b,o,none⟩) ts.length c∧vs.map Tv.t=ts∧(∀ x ∈ vs,x.ok w)∧b < w.heap.size∧∀ q x,(rowTv vs)[q]? = some x→w.cell? ((⟨b,o,none⟩:Addr).add q)=some x:=by
  obtain ⟨a,c,rfl,_,h⟩:=h
  rcases h with h | ⟨b,o,rfl,hlt,hr⟩
  · exact absurd h hne
  · obtain ⟨vs,h1,h2,h3⟩:=rowAt_vs hr
    exact ⟨b,o,c,vs,rfl,h1,h2,hlt,fun q x hq=>by rw [addr_add];exact h3 q x hq⟩
set_option maxRecDepth 100000 in
set_option maxHeartbeats 1000000 in
theorem ptogether_any (v:Value) (ts:List Tm) (w:World) (hv:Tms w v ts) (hne:ts≠[]) (hl:ts.length≤10) :
    Calls Tryz.prog 212 #[v] w fun e w'=>∃ za zc,e=.returned (.agg #[.int .i64 5,.string ⟨#[]⟩,.int .i64 0,.slice za ts.length zc])∧Tv.ok w' ⟨.mk 5 ⟨#[]⟩ 0 ts,za,zc⟩∧Below w.heap.size w w':=by
  obtain ⟨b,o,c,vs,rfl,rfl,hok,hlt,hc⟩:=tms_vs hv hne
  rw [List.length_map] at hl ⊢
  have hbx:=box_new w (.int .i64 0) (.string ⟨#[]⟩) (.int .i64 0) (.slice none 0 0) 70
  have hb1:Below w.heap.size w (w.alloc (.cells #[.int .i64 0,.string ⟨#[]⟩,.int .i64 0,.slice none 0 0] 70)):=(Below.refl _ _).alloc (Nat.le_refl _) _
  obtain ⟨w1,hw1⟩:∃ w1,w.alloc (.cells #[.int .i64 0,.string ⟨#[]⟩,.int .i64 0,.slice none 0 0] 70)=w1:=⟨_,rfl⟩
  have hz:(w.alloc (.cells #[.int .i64 0,.string ⟨#[]⟩,.int .i64 0,.slice none 0 0] 70)).heap.size=w.heap.size + 1:=by simp
  rw [hw1] at hbx hb1 hz
  have PF:=Lib.hid (pfun_row ⟨#[]⟩ b o c vs w w1 w1 (by decide) (by omega) (fun q x hq=>(hb1.cell (p:=(⟨b,o,none⟩:Addr).add q) (by rw [addr_add];exact hlt)).trans (hc q x hq)) (Nat.lt_of_lt_of_le hlt hb1.size) (fun x hx=>fresh_old (hok x hx)) (Nat.le_refl _))
  have HB1:=Lib.hid hb1
  have HBX:=Lib.hid hbx
  have HW:=Lib.hid hw1
  clear hv hne hok hc hb1 hbx hw1
  go_enter Tryz.func212,Tryz.ntmps212
  go_wp2_with fail
  rw [HW.out]
  refine PF.out.mono ?_;rintro e w2 ⟨za,zc,rfl,hf,hb2⟩
  obtain ⟨q0,q1,q2,q3,f0,f1,f2,f3⟩:=HBX.out.below hb2 (by omega)
  have hbw:=below_next HB1.out hb2
  have HR:=Lib.hid (fun p0 p1 p2 p3:Value=>((((hbw.setCell (p:=⟨w.heap.size,0,none⟩) (Nat.le_refl _) p0).setCell (p:=⟨w.heap.size,1,none⟩) (Nat.le_refl _) p1).setCell (p:=⟨w.heap.size,2,none⟩) (Nat.le_refl _) p2).setCell (p:=⟨w.heap.size,3,none⟩) (Nat.le_refl _) p3))
  have HS:=Lib.hid (hz ▸ hb2.size:w.heap.size + 1≤w2.heap.size)
  have HF:=Lib.hid hf
  clear hf hb2 hbw
  go_wp2_with fail
  refine bodyPost_ret (v:=.agg #[.int .i64 5,.string ⟨#[]⟩,.int .i64 0,.slice za vs.length zc]) (by simp [results,Tryz.results212,go_sem,q0,q1,q2,q3]) rfl ⟨za,zc,rfl,?_,HR.out _ _ _ _⟩
  refine HF.out _ (reads_below (HR.out _ _ _ _)) (by simp) fun k k1 k2=>?_
  have hk:k≠w.heap.size:=by omega
  rw [Below.heap_setCell _ _ _ _ hk,Below.heap_setCell _ _ _ _ hk,Below.heap_setCell _ _ _ _ hk,Below.heap_setCell _ _ _ _ hk]
set_option maxRecDepth 100000 in
set_option maxHeartbeats 1000000 in
theorem pvars12_any (v:Value) (ts:List Tm) (w:World) (hv:Tms w v ts) (hne:ts≠[]) (hl:ts.length≤10) (hp:∀ t ∈ ts,t.parts≤10000) :
    Calls Tryz.prog 199 #[v] w fun e w'=>∃ u,e=.returned u∧Strs w' u (canonN ts)∧ShortN (canonN ts)∧Below w.heap.size w w':=by
  have TG:=Lib.hid (ptogether_any v ts w hv hne hl)
  have hpp:(Tm.mk 5 ⟨#[]⟩ 0 ts).parts≤100001:=by
    have h2:∀ l:List Tm,(∀ t ∈ l,t.parts≤10000)→partsL l≤l.length * 10000:=by
      intro l
      induction l with
      | nil=>intro _;simp [partsL]
      | cons t r ih =>
        intro h
        rw [partsL,List.length_cons]
        have:=ih (fun u hu=>h u (List.mem_cons_of_mem _ hu))
        have:=h t (List.mem_cons_self ..)
        omega
    have:=h2 ts hp
    rw [Tm.parts];omega
  obtain ⟨a,c,rfl,_⟩:=hv
  have HC:=Lib.hid (canonN_is ⟨#[]⟩ 0 ts)
  clear hne hp
  go_enter Tryz.func199,Tryz.ntmps199
  go_wp2_with fail
  refine TG.out.mono ?_;rintro e w1 ⟨za,zc,rfl,hz,hb1⟩
  have VS:=Lib.hid (pvars_tm ⟨.mk 5 ⟨#[]⟩ 0 ts,za,zc⟩ w1 hz (by simp only;omega))
  have HSH:=Lib.hid (fun (u:ByteArray) (hu:u ∈ (Tm.mk 5 ⟨#[]⟩ 0 ts).vars)=>ok_vars hz hu)
  have HB1:=Lib.hid hb1
  unfold Tv.val at VS
  simp only [Tm.kind,Tm.name,Tm.n,Tm.args] at VS
  clear hz hb1
  go_wp2_with fail
  refine VS.out.mono ?_;rintro e w2 ⟨u,rfl,⟨hu,_⟩,hb2⟩
  have HU:=Lib.hid hu
  have HB2:=Lib.hid (HB1.out.trans (hb2.mono HB1.out.size))
  clear hu hb2
  go_wp2_with fail
  go_ret
  exact ⟨_,rfl,by rw [HC.out];exact HU.out,by rw [HC.out];exact HSH.out,HB2.out⟩
set_option maxRecDepth 100000 in
set_option maxHeartbeats 1000000 in
theorem pput12_any (vb v:Value) (bs:List Bn) (ts:List Tm) (w:World) (hvb:Bds w vb bs) (hbl:bs.length≤1000000) (hv:Tms w v ts) (hne:ts≠[]) (hl:ts.length≤10) (hp:∀ t ∈ ts,t.parts≤10000) :
    Calls Tryz.prog 201 #[vb,v] w fun e w'=>∃ u,e=.returned u∧Tms w' u (ts.map (appT bs))∧Below w.heap.size w w':=by
  have TG:=Lib.hid (ptogether_any v ts w hv hne hl)
  have hpp:(Tm.mk 5 ⟨#[]⟩ 0 ts).parts≤100001:=by
    have h2:∀ l:List Tm,(∀ t ∈ l,t.parts≤10000)→partsL l≤l.length * 10000:=by
      intro l
      induction l with
      | nil=>intro _;simp [partsL]
      | cons t r ih =>
        intro h
        rw [partsL,List.length_cons]
        have:=ih (fun u hu=>h u (List.mem_cons_of_mem _ hu))
        have:=h t (List.mem_cons_self ..)
        omega
    have:=h2 ts hp
    rw [Tm.parts];omega
  obtain ⟨a,c,rfl,_⟩:=hv
  have HVB:=Lib.hid hvb
  obtain ⟨ab,cb,rfl,_,_⟩:=hvb
  clear hne hp
  go_enter Tryz.func201,Tryz.ntmps201
  go_wp2_with fail
  refine TG.out.mono ?_;rintro e w1 ⟨za,zc,rfl,hz,hb1⟩
  have AP:=Lib.hid (apply_bd _ bs ⟨.mk 5 ⟨#[]⟩ 0 ts,za,zc⟩ w1 w1 (HVB.out.below hb1) hbl hz (by simp only;omega) (Below.refl _ _))
  have HB1:=Lib.hid hb1
  unfold Tv.val ApPost at AP
  simp only [Tm.kind,Tm.name,Tm.n,Tm.args] at AP
  have happ:appT bs (.mk 5 ⟨#[]⟩ 0 ts)=.mk 5 ⟨#[]⟩ 0 (ts.map (appT bs)):=by
    rw [appT_eq,if_neg (by show ¬ (5:Int)=1;decide)];rfl
  rw [happ] at AP
  clear hz hb1 happ
  go_wp2_with fail
  refine AP.out.mono ?_;rintro e w2 ⟨⟨zt,za2,zc2⟩,rfl,hzt,hf,hb2⟩
  simp only at hzt
  subst hzt
  have hok:=hf.ok (HB1.out.trans (hb2.mono HB1.out.size) |> fun _=>hb2)
  have HOK:=Lib.hid hok
  have HB2:=Lib.hid (HB1.out.trans (hb2.mono HB1.out.size))
  clear hf hb2 hok
  unfold Tv.val
  simp only [Tm.kind,Tm.name,Tm.n,Tm.args]
  have HFA:=field_args (.int .i64 5) (.string ⟨#[]⟩) (.int .i64 0) (.slice za2 ts.length zc2) w2
  go_wp2_with fail
  go_ret
  exact ⟨.slice za2 ts.length zc2,rfl,⟨za2,zc2,by rw [List.length_map],HOK.out.2⟩,HB2.out⟩
set_option maxRecDepth 100000 in
set_option maxHeartbeats 2000000 in
theorem pcanon_any (v:Value) (ts:List Tm) (w:World) (HPW:Pow w) (hv:Tms w v ts) (hl0:0 < ts.length∧ts.length≤10) (hp:∀ t ∈ ts,t.parts≤10000) :
    Calls Tryz.prog 174 #[v] w fun e w'=>∃ u,e=.returned u∧Tms w' u (canonT ts)∧Below w.heap.size w w':=by
  obtain ⟨i1,hi1,hy0,hy1,hy2⟩:=info_parts bindInfoP12
  obtain ⟨hl1,hl⟩:=hl0
  have hne:ts≠[]:=by rintro rfl;simp at hl1
  have hln:(canonN ts).length≤100000:=by
    have h1:(canonN ts).length≤(ts.flatMap Tm.vars).length:=by
      have:=foldN_len (ts.flatMap Tm.vars) []
      unfold canonN;simpa using this
    have h2:∀ l:List Tm,(∀ t ∈ l,t.parts≤10000)→(l.flatMap Tm.vars).length≤l.length * 10000:=by
      intro l
      induction l with
      | nil=>intro _;simp
      | cons t r ih =>
        intro h
        rw [List.flatMap_cons,List.length_append,List.length_cons]
        have:=ih (fun u hu=>h u (List.mem_cons_of_mem _ hu))
        have:=vars_parts t
        have:=h t (List.mem_cons_self ..)
        omega
    have h3:=h2 ts hp
    omega
  have VS:=Lib.hid (pvars12_any v ts w hv hne (by omega) hp)
  have PT:=Lib.hid (fun (vb:Value) (bs:List Bn) (W:World) (hb:Below w.heap.size w W) (hvb:Bds W vb bs) (hbl:bs.length≤1000000)=>pput12_any vb v bs ts W hvb hbl (hv.below hb) hne (by omega) hp)
  have HDG:=Lib.hid (fun (n:Nat) (h:n≤1000000) (W:World) (hb:Below w.heap.size w W)=>pdigits_any (n:Int) (by omega) (by omega) W (HPW.below hb))
  have HVR:=Lib.hid (fun (s:ByteArray) (W:World)=>pvar_any s W)
  obtain ⟨a,c,rfl,_⟩:=hv
  have HCN:=Lib.hid (show canonT ts=ts.map (appT (canonB 0 (canonN ts))) from rfl)
  obtain ⟨names,hnames⟩:∃ names,canonN ts=names:=⟨_,rfl⟩
  rw [hnames] at VS HCN hln
  clear hp hnames HPW hne
  go_enter Tryz.func174,Tryz.ntmps174
  go_wp2_with fail
  refine VS.out.mono ?_;rintro e wn ⟨u,rfl,hst,hsh,hb⟩
  have HSH:=Lib.hid hsh
  have HB:=Lib.hid hb
  have hws:w.heap.size≤wn.heap.size:=hb.size
  obtain ⟨an,cn,rfl,hnl,hnc⟩:=hst
  have HNC:=Lib.hid (fun (j:Nat) (hj:j < names.length) (W:World) (h:Below wn.heap.size wn W)=>(show ∃ b o,an=some ⟨b,o,none⟩∧W.cell? ⟨b,o + j,none⟩=some (.string names[j]) from by
    rcases hnc with h0 | ⟨b,o,e,hlt,h0⟩
    · rw [h0] at hj;cases hj
    · have hg:names.getD j ByteArray.empty=names[j]:=by simp [List.getD,List.getElem?_eq_getElem hj]
      exact ⟨b,o,e,(h.cell (p:=⟨b,o + j,none⟩) hlt).trans (by rw [h0 j hj,hg])⟩))
  clear hsh hb hnc
  go_wp2_with fail
  go_loopw [3,9] (fun u i wi=>∃ j:Nat,i=.int .i64 j∧j≤names.length∧wi.ownsRow wn.heap.size 233 5 u j (rowBv (canBvs 0 (names.take j)))∧Below wn.heap.size wn wi) (fun _ i _=>names.length - (intOf i).toNat)
  case atStart=>exact ⟨0,rfl,Nat.zero_le _,World.ownsRow_nil _ _ _ _,Below.refl _ _⟩
  case round =>
    obtain ⟨j,rfl,hj,hown,hbi⟩:=hrel
    by_cases hj1:j < names.length
    · have hjc:(j:Int) < (names.length:Int):=by omega
      have hj0:(0:Int)≤(j:Int):=by omega
      obtain ⟨b2,o2,rfl,n0⟩:=HNC.out j hj1 wr hbi
      have HB1:=Lib.hid hbi
      have HO1:=Lib.hid hown
      have DG:=Lib.hid (HDG.out j (by omega) wr (HB.out.trans (hbi.mono HB.out.size)))
      have hcat:(⟨#[88]⟩:ByteArray) ++ ⟨(Lib.itoa (j:Int)).toArray⟩=⟨(88 :: Lib.itoa (j:Int)).toArray⟩:=by
        apply ByteArray.ext
        simp
      have hds:(⟨(Lib.itoa (j:Int)).toArray⟩:ByteArray).size≤42:=by
        have:=itoa_small j (by omega)
        simp only [ByteArray.size,List.size_toArray];omega
      obtain ⟨nm,hnm⟩:∃ nm,names[j]=nm:=⟨_,rfl⟩
      obtain ⟨cn',hcn'⟩:∃ x,(⟨(88 :: Lib.itoa (j:Int)).toArray⟩:ByteArray)=x:=⟨_,rfl⟩
      have HTK:=Lib.hid (show rowBv (canBvs 0 (names.take (j + 1)))=rowBv (canBvs 0 (names.take j)) ++ [.string nm,.int .i64 1,.string cn',.int .i64 0,.slice none 0 0] from by
        rw [List.take_succ_eq_append_getElem hj1,canBvs_append,rowBv_append,hnm,List.length_take,Nat.min_eq_left (by omega),Nat.zero_add,rowBv_one,← hcn'];rfl)
      rw [hnm] at n0
      rw [hcn'] at hcat
      obtain ⟨dg,hdg⟩:∃ x,(⟨(Lib.itoa (j:Int)).toArray⟩:ByteArray)=x:=⟨_,rfl⟩
      rw [hdg] at DG hcat hds
      have HCAT:=Lib.hid hcat
      have hcl:(⟨#[88]⟩:ByteArray).size + dg.size≤43:=by rw [show (⟨#[88]⟩:ByteArray).size=1 from rfl];omega
      have hcl2:¬ (9223372036854775807 < (⟨#[88]⟩:ByteArray).size + dg.size):=by omega
      clear hbi hown hnm hcat hcn' hdg
      go_wp2_with fail
      refine DG.out.mono ?_;rintro e w3 ⟨rfl,hb3⟩
      have HB3:=Lib.hid (HB1.out.trans (hb3.mono HB1.out.size))
      have HO3:=Lib.hid (own_below HO1.out hb3)
      clear hb3
      go_wp2_with fail
      rw [HCAT.out]
      refine (HVR.out _ _).mono ?_;rintro e w4 ⟨rfl,hb4⟩
      have hb34:=HB3.out.trans (hb4.mono HB3.out.size)
      have hbA:=hb34.alloc hb34.size (.cells #[.string nm,.int .i64 1,.string cn',.int .i64 0,.slice none 0 0] 233)
      have hsA:wn.heap.size≤(w4.alloc (.cells #[.string nm,.int .i64 1,.string cn',.int .i64 0,.slice none 0 0] 233)).heap.size:=hbA.size
      have HBA:=Lib.hid hbA
      have hownA:=(own_below HO3.out hb4).alloc (.cells #[.string nm,.int .i64 1,.string cn',.int .i64 0,.slice none 0 0] 233)
      have HNW:=Lib.hid (new_cells w4 [.string nm,.int .i64 1,.string cn',.int .i64 0,.slice none 0 0] 233)
      clear hb4 hb34 hbA
      go_wp2_with (at_builtin;refine wpList_append_own_at _ rfl _ _ 230 rfl wn.heap.size 233 i1 (.agg #[.string ⟨#[]⟩,.int .i64 0,.string ⟨#[]⟩,.int .i64 0,.slice none 0 0]) 5 72 Tryz.underlying230 hi1 hy0 hy1 hy2 rfl (by decide) _ j _ rfl hownA ⟨w4.heap.size,0,none⟩ 1 1 [.string nm,.int .i64 1,.string cn',.int .i64 0,.slice none 0 0] rfl rfl ?c1 ?c2 ?c3 ?c4 ?c5 ?_)
      case c1=>exact HNW.out
      case c2=>intro u hu;simp at hu;rcases hu with rfl | rfl | rfl | rfl | rfl<;>rfl
      case c3=>unfold maxLen;omega
      case c4=>omega
      case c5=>exact hsA
      intro v' w5 hown' hgrow _ _
      have HO5:=Lib.hid (show w5.ownsRow wn.heap.size 233 5 v' (j + 1) (rowBv (canBvs 0 (names.take (j + 1)))) from by rw [HTK.out];exact hown')
      have HB5:=Lib.hid (HBA.out.grown hgrow hsA (own_row_ge hownA))
      clear hown' hgrow hownA hsA
      go_wp2_with fail
      go_roundw
      case rel=>exact ⟨j + 1,by go_num,by omega,HO5.out,HB5.out⟩
      case measure=>simp [intOf];omega
    · obtain rfl:j=names.length:=by omega
      rw [List.take_length] at hown
      have hbd:Bds wr u3 (canonB 0 names):=by
        rw [← canBvs_bn]
        exact bds_own hown (canBvs_length 0 names) (canBvs_ok wr 0 names (by omega) HSH.out) (Below.refl _ _) (by omega)
      have hbwm:Below w.heap.size w wr:=HB.out.trans (hbi.mono HB.out.size)
      have PP:=Lib.hid (PT.out u3 (canonB 0 names) wr hbwm hbd (by rw [canonB_length];omega))
      rw [← HCN.out] at PP
      have HBM:=Lib.hid hbwm
      obtain ⟨ab,cb,hu3⟩:=own_slice hown
      rw [hu3] at PP ⊢
      clear hown hbi hbd hu3 HNC hbwm
      go_wp2_with fail
      refine PP.out.mono ?_;rintro e w6 ⟨u6,rfl,hu6,hb6⟩
      have HU:=Lib.hid hu6
      have HB6:=Lib.hid (HBM.out.trans (hb6.mono HBM.out.size))
      clear hu6 hb6
      go_wp2_with fail
      go_ret
      exact ⟨_,rfl,HU.out,HB6.out⟩
end Go.Proofs.YtjcleokfpohpdaaGreatDoor
namespace Go.Proofs.YtjcleokfpohpdaaGreatDoor
open Go.RowKit
set_option maxHeartbeats 400000 in
theorem nanI_any (a:Int) (w:World):Calls Tryz.prog 221 #[.int .i64 a] w fun e w'=>e=.returned (.bool false)∧w=w':=by
  have h:(a != a)=false:=by simp
  go_enter Tryz.func221,Tryz.ntmps221
  go_wp2
  go_ret
  exact ⟨rfl,rfl⟩
set_option maxHeartbeats 400000 in
theorem nanS_any (s:ByteArray) (w:World):Calls Tryz.prog 222 #[.string s] w fun e w'=>e=.returned (.bool false)∧w=w':=by
  have h:(s.toList==s.toList)=true:=by simp
  go_enter Tryz.func222,Tryz.ntmps222
  go_wp2
  go_ret
  exact ⟨rfl,rfl⟩
set_option maxHeartbeats 400000 in
theorem cmpI_any (a b:Int) (w:World):Calls Tryz.prog 215 #[.int .i64 a,.int .i64 b] w fun e w'=>e=.returned (.int .i64 (cmpI a b))∧w=w':=by
  have N1:=Lib.hid (fun w=>nanI_any a w)
  have N2:=Lib.hid (fun w=>nanI_any b w)
  rcases (show a < b∨b < a∨a=b from by omega) with h | h | h
  · have hr:=Lib.hid (show cmpI a b = -1 from by unfold cmpI;rw [if_pos h])
    go_enter Tryz.func215,Tryz.ntmps215
    go_wp2_with fail
    refine (N1.out _).mono ?_;rintro e w1 ⟨rfl,rfl⟩
    go_wp2_with fail
    refine (N2.out _).mono ?_;rintro e w1 ⟨rfl,rfl⟩
    go_wp2_with fail
    go_ret
    exact ⟨ret_int hr.out.symm,rfl⟩
  · have hr:=Lib.hid (show cmpI a b=1 from by unfold cmpI;rw [if_neg (by omega),if_pos h])
    have h':¬ a < b:=by omega
    go_enter Tryz.func215,Tryz.ntmps215
    go_wp2_with fail
    refine (N1.out _).mono ?_;rintro e w1 ⟨rfl,rfl⟩
    go_wp2_with fail
    refine (N2.out _).mono ?_;rintro e w1 ⟨rfl,rfl⟩
    go_wp2_with fail
    go_ret
    exact ⟨ret_int hr.out.symm,rfl⟩
  · have hr:=Lib.hid (show cmpI a b=0 from by unfold cmpI;rw [if_neg (by omega),if_neg (by omega)])
    have h1:¬ a < b:=by omega
    have h2:¬ b < a:=by omega
    clear h
    go_enter Tryz.func215,Tryz.ntmps215
    go_wp2_with fail
    refine (N1.out _).mono ?_;rintro e w1 ⟨rfl,rfl⟩
    go_wp2_with fail
    refine (N2.out _).mono ?_;rintro e w1 ⟨rfl,rfl⟩
    go_wp2_with fail
    go_ret
    exact ⟨ret_int hr.out.symm,rfl⟩
set_option maxHeartbeats 400000 in
theorem cmpS_any (s t:ByteArray) (w:World):Calls Tryz.prog 216 #[.string s,.string t] w fun e w'=>e=.returned (.int .i64 (cmpS s t))∧w=w':=by
  have N1:=Lib.hid (fun w=>nanS_any s w)
  have N2:=Lib.hid (fun w=>nanS_any t w)
  rcases texts_ways s t with ⟨h1,hr⟩ | ⟨h1,h2,hr⟩ | ⟨h1,h2,hr⟩
  all_goals
    have HR:=Lib.hid hr
    clear hr
    go_enter Tryz.func216,Tryz.ntmps216
    go_wp2_with fail
    refine (N1.out _).mono ?_;rintro e w1 ⟨rfl,rfl⟩
    go_wp2_with fail
    refine (N2.out _).mono ?_;rintro e w1 ⟨rfl,rfl⟩
    go_wp2_with fail
    go_ret
    exact ⟨ret_int HR.out.symm,rfl⟩
def CmpUpto (m:Nat):Prop:=∀ (x y:Tv) (w:World),x.t.parts≤m→x.ok w→y.ok w →
    Calls Tryz.prog 202 #[x.val,y.val] w fun e w'=>e=.returned (.int .i64 (cmpT x.t y.t))∧Onto w w'
set_option maxRecDepth 100000 in
set_option maxHeartbeats 4000000 in
theorem cmpFunc_tm (m:Nat) (hC:CmpUpto m) (v u:Value) (xs ys:List Tm) (w:World) (hl:xs.length=ys.length) (hm:∀ j (h:j < xs.length),xs[j].parts≤m) (hx:Tms w v xs) (hy:Tms w u ys) :
    Calls Tryz.prog 217 #[v,u,.func (.func 202) #[] #[]] w fun e w'=>e=.returned (.int .i64 (cmpL xs ys))∧Onto w w':=by
  obtain ⟨a,c,rfl,hxl,hxr⟩:=hx
  obtain ⟨a',c',rfl,hyl,hyr⟩:=hy
  have HC:=Lib.hid hC
  have HL:=Lib.hid hl
  have HM:=Lib.hid hm
  have hq:¬ (xs.length:Int) < (ys.length:Int):=by omega
  clear hC hl hm
  rcases hxr with rfl | ⟨b,off,rfl,hlt,hr⟩
  · have:ys=[]:=by simpa using HL.out.symm
    subst this
    have h0:=Lib.hid (show cmpL [] []=0 from by rw [cmpL])
    go_enter Tryz.func217,Tryz.ntmps217
    go_wp2_with fail
    refine wp_loop_rounds 1 ?_;rw [rounds_succ]
    go_wp2_with fail
    go_ret
    exact ⟨ret_int h0.out.symm,Onto.refl _⟩
  rcases hyr with rfl | ⟨b',off',rfl,hlt',hr'⟩
  · have:xs=[]:=by simpa using HL.out
    subst this
    have h0:=Lib.hid (show cmpL [] []=0 from by rw [cmpL])
    go_enter Tryz.func217,Tryz.ntmps217
    go_wp2_with fail
    refine wp_loop_rounds 1 ?_;rw [rounds_succ]
    go_wp2_with fail
    go_ret
    exact ⟨ret_int h0.out.symm,Onto.refl _⟩
  have HR:=Lib.hid hr
  have HR':=Lib.hid hr'
  clear hr hr'
  go_enter Tryz.func217,Tryz.ntmps217
  go_wp2_with fail
  go_loopw [13] (fun i wr=>∃ j:Nat,j≤xs.length∧i=.int .i64 j∧CmpTo xs ys j∧Onto w wr) (fun i _=>xs.length - (intOf i).toNat)
  case atStart=>exact ⟨0,Nat.zero_le _,rfl,(fun j _ _ hk=>by omega),Onto.refl _⟩
  case round =>
    obtain ⟨j,hj,rfl,hal,hb⟩:=hrel
    have HA:=Lib.hid hal
    clear hal
    by_cases hj1:j < xs.length
    · have hj2:j < ys.length:=by have:=HL.out;omega
      have hi1:(j:Int) < (xs.length:Int):=by omega
      have hi2:(j:Int) < (ys.length:Int):=by omega
      have hi3:¬ (ys.length:Int)≤(j:Int):=by omega
      obtain ⟨p,hu,huk,d0,d1,d2,d3⟩:=tmAt_tv ((rowAt_get HR.out hj1).below hb.below)
      obtain ⟨q,hv,hvk,hqa⟩:=tmAt_tv ((rowAt_get HR'.out hj2).below hb.below)
      obtain ⟨g0,g1,g2,g3⟩:=hqa.below ((Below.refl wr.heap.size wr).alloc (Nat.le_refl _) (.cells #[.int .i64 p.t.kind,.string p.t.name,.int .i64 p.t.n,.slice p.a p.t.args.length p.c] 70))
      have C:=Lib.hid (fun w' (h:Below wr.heap.size wr w')=>HC.out p q w' (by rw [hu];exact HM.out j hj1) (huk.below h) (hvk.below h))
      have HU:=Lib.hid hu
      have HV:=Lib.hid hv
      have hbs:=hb.below.size
      simp only [Tv.val] at C
      clear hu hv huk hvk hqa
      obtain ⟨r,hrr⟩:∃ r,r=cmpT p.t q.t:=⟨_,rfl⟩
      rw [← hrr] at C
      by_cases hr0:r=0
      · have HCC:=Lib.hid (show cmpT xs[j] ys[j]=0 from by rw [← HU.out,← HV.out,← hrr];exact hr0)
        subst hr0
        clear hrr
        go_wp2_with fail
        refine (C.out _ (((Below.refl _ _).alloc (Nat.le_refl _) _).alloc (by simp) _)).mono ?_;rintro e w5 ⟨rfl,hb1⟩
        go_wp2_with fail
        go_roundw
        case rel=>exact ⟨j + 1,by omega,by go_num,HA.out.succ hj1 hj2 HCC.out,((hb.alloc _).alloc _).next hb1⟩
        case measure=>simp [intOf];omega
      · have HCC:=Lib.hid (show cmpL xs ys=r from by rw [cmpL_at hj1 hj2 HA.out (by rw [← HU.out,← HV.out,← hrr];exact hr0),hrr,HU.out,HV.out])
        have hq:(r != 0)=true:=by rw [bne_iff_ne];exact hr0
        clear hrr hr0
        go_wp2_with fail
        refine (C.out _ (((Below.refl _ _).alloc (Nat.le_refl _) _).alloc (by simp) _)).mono ?_;rintro e w5 ⟨rfl,hb1⟩
        go_wp2_with fail
        go_ret
        exact ⟨ret_int HCC.out.symm,((hb.alloc _).alloc _).next hb1⟩
    · obtain rfl:j=xs.length:=by omega
      have h0:=Lib.hid (show cmpL xs ys=0 from cmpL_same fun j h1 h2=>HA.out j h1 h2 h1)
      go_wp2_with fail
      go_ret
      exact ⟨ret_int h0.out.symm,hb⟩
theorem cmpI_ne {a b:Int} (h:a≠b):cmpI a b≠0:=fun e=>h (cmpI_zero.1 e)
theorem cmpS_ne {s t:ByteArray} (h:(s.toList==t.toList)=false):cmpS s t≠0:=fun e=>by rw [cmpS_zero] at e;rw [e] at h;simp at h
theorem cmpS_eq {s t:ByteArray} (h:(s.toList==t.toList)=true):cmpS s t=0:=by rw [cmpS_zero];simpa using h
set_option maxRecDepth 100000 in
set_option maxHeartbeats 4000000 in
theorem pcompare_tm (m:Nat):CmpUpto m:=by
  induction m with
  | zero=>intro x y w h;have:=parts_pos x.t;omega
  | succ m ih =>
    intro x y w hm hx hy
    obtain ⟨⟨k,s,n,xs⟩,a,c⟩:=x
    obtain ⟨⟨k',s',n',ys⟩,a',c'⟩:=y
    obtain ⟨_,hxa⟩:=hx
    obtain ⟨_,hya⟩:=hy
    simp only [Tv.val,Tm.kind,Tm.name,Tm.n,Tm.args] at hxa hya hm ⊢
    have hpl:∀ j (h:j < xs.length),xs[j].parts≤m:=fun j h=>by
      have:=parts_arg (.mk k s n xs) (j:=j) h
      have e:(Tm.mk k s n xs).args[j]=xs[j]:=rfl
      rw [e] at this;omega
    have hbb:Onto w ((w.alloc (.cells #[.int .i64 k,.string s,.int .i64 n,.slice a xs.length c] 70)).alloc (.cells #[.int .i64 k',.string s',.int .i64 n',.slice a' ys.length c'] 70)):=((Onto.refl _).alloc _).alloc _
    have hE:cmpT (.mk k s n xs) (.mk k' s' n' ys)=if cmpI k k'≠0 then cmpI k k' else if cmpI n n'≠0 then cmpI n n' else if cmpS s s'≠0 then cmpS s s' else if cmpI xs.length ys.length≠0 then cmpI xs.length ys.length else cmpL xs ys:=by rw [cmpT]
    have C1:=Lib.hid (fun w=>cmpI_any k k' w)
    have C2:=Lib.hid (fun w=>cmpI_any n n' w)
    have C3:=Lib.hid (fun w=>cmpS_any s s' w)
    have C4:=Lib.hid (fun w=>cmpI_any (xs.length:Int) (ys.length:Int) w)
    have CL:=Lib.hid (fun hl w' (h:Below w.heap.size w w')=>cmpFunc_tm m ih (.slice a xs.length c) (.slice a' ys.length c') xs ys w' hl hpl ⟨a,c,rfl,hxa.below h⟩ ⟨a',c',rfl,hya.below h⟩)
    clear ih hpl hm
    have hll:=hxa.1
    have hll':=hya.1
    clear hxa hya
    by_cases h1:k=k'
    case neg =>
      have hr:=Lib.hid (show cmpT (.mk k s n xs) (.mk k' s' n' ys)=cmpI k k' from by rw [hE,if_pos (cmpI_ne h1)])
      have hq:(k != k')=true:=by rw [bne_iff_ne];exact h1
      clear hE h1
      go_enter Tryz.func202,Tryz.ntmps202
      go_wp2_with fail
      refine (C1.out _).mono ?_;rintro e w1 ⟨rfl,rfl⟩
      go_wp2_with fail
      go_ret
      exact ⟨ret_int hr.out.symm,hbb⟩
    have e1:=cmpI_zero.2 h1
    have q1:(k != k')=false:=by simp [h1]
    clear C1
    by_cases h2:n=n'
    case neg =>
      have hr:=Lib.hid (show cmpT (.mk k s n xs) (.mk k' s' n' ys)=cmpI n n' from by rw [hE,if_neg (by rw [e1];simp),if_pos (cmpI_ne h2)])
      have hq:(n != n')=true:=by rw [bne_iff_ne];exact h2
      clear hE h1 h2 e1
      go_enter Tryz.func202,Tryz.ntmps202
      go_wp2_with fail
      refine (C2.out _).mono ?_;rintro e w1 ⟨rfl,rfl⟩
      go_wp2_with fail
      go_ret
      exact ⟨ret_int hr.out.symm,hbb⟩
    have e2:=cmpI_zero.2 h2
    have q2:(n != n')=false:=by simp [h2]
    clear C2
    cases h3:(s.toList==s'.toList) with
    | false =>
      have hr:=Lib.hid (show cmpT (.mk k s n xs) (.mk k' s' n' ys)=cmpS s s' from by rw [hE,if_neg (by rw [e1];simp),if_neg (by rw [e2];simp),if_pos (cmpS_ne h3)])
      clear hE h1 h2 e1 e2
      go_enter Tryz.func202,Tryz.ntmps202
      go_wp2_with fail
      refine (C3.out _).mono ?_;rintro e w1 ⟨rfl,rfl⟩
      go_wp2_with fail
      go_ret
      exact ⟨ret_int hr.out.symm,hbb⟩
    | true =>
      have e3:=cmpS_eq h3
      clear C3
      by_cases h4:cmpI xs.length ys.length=0
      case neg =>
        have hr:=Lib.hid (show cmpT (.mk k s n xs) (.mk k' s' n' ys)=cmpI xs.length ys.length from by rw [hE,if_neg (by rw [e1];simp),if_neg (by rw [e2];simp),if_neg (by rw [e3];simp),if_pos h4])
        obtain ⟨z,hz⟩:∃ z,z=cmpI (xs.length:Int) (ys.length:Int):=⟨_,rfl⟩
        rw [← hz] at h4 hr C4
        have hq:(z != 0)=true:=by rw [bne_iff_ne];exact h4
        clear hE h1 h2 e1 e2 e3 h4 hz
        go_enter Tryz.func202,Tryz.ntmps202
        go_wp2_with fail
        refine (C4.out _).mono ?_;rintro e w1 ⟨rfl,rfl⟩
        go_wp2_with fail
        go_ret
        exact ⟨ret_int hr.out.symm,hbb⟩
      have hr:=Lib.hid (show cmpT (.mk k s n xs) (.mk k' s' n' ys)=cmpL xs ys from by rw [hE,if_neg (by rw [e1];simp),if_neg (by rw [e2];simp),if_neg (by rw [e3];simp),if_neg (by simpa using h4)])
      have C:=Lib.hid (CL.out (by have:=cmpI_zero.1 h4;omega))
      rw [h4] at C4
      clear hE h1 h2 e1 e2 e3 h4 CL
      go_enter Tryz.func202,Tryz.ntmps202
      go_wp2_with fail
      refine (C4.out _).mono ?_;rintro e w1 ⟨rfl,rfl⟩
      go_wp2_with fail
      refine (C.out _ hbb.below).mono ?_;rintro e w2 ⟨rfl,hb2⟩
      go_wp2_with fail
      go_ret
      exact ⟨ret_int hr.out.symm,hbb.next hb2⟩
set_option maxHeartbeats 1000000 in
theorem psame_tm (x y:Tv) (w:World) (hx:x.ok w) (hy:y.ok w) :
    Calls Tryz.prog 175 #[x.val,y.val] w fun e w'=>e=.returned (.bool (eqT x.t y.t))∧Onto w w':=by
  have C:=Lib.hid (fun w' (h:Below w.heap.size w w')=>pcompare_tm x.t.parts x y w' (Nat.le_refl _) (hx.below h) (hy.below h))
  have hie:((cmpT x.t y.t==0)=eqT x.t y.t):=by
    rw [Bool.eq_iff_iff,beq_iff_eq,eqT_iff];exact cmpT_iff
  have HR:=Lib.hid hie
  obtain ⟨tx,ax,cx⟩:=x
  obtain ⟨ty,ay,cy⟩:=y
  simp only [Tv.val] at *
  have hbb:Onto w ((w.alloc (.cells #[.int .i64 tx.kind,.string tx.name,.int .i64 tx.n,.slice ax tx.args.length cx] 70)).alloc (.cells #[.int .i64 ty.kind,.string ty.name,.int .i64 ty.n,.slice ay ty.args.length cy] 70)):=((Onto.refl _).alloc _).alloc _
  clear hx hy hie
  obtain ⟨z,hz⟩:∃ z,z=cmpT tx ty:=⟨_,rfl⟩
  obtain ⟨q,hq⟩:∃ q,q=eqT tx ty:=⟨_,rfl⟩
  rw [← hz] at C HR
  rw [← hq] at HR ⊢
  clear hz hq
  go_enter Tryz.func175,Tryz.ntmps175
  go_wp2_with fail
  refine (C.out _ hbb.below).mono ?_;rintro e w1 ⟨rfl,hb1⟩
  go_wp2_with fail
  go_ret
  exact ⟨ret_bool HR.out,hbb.next hb1⟩
end Go.Proofs.YtjcleokfpohpdaaGreatDoor
