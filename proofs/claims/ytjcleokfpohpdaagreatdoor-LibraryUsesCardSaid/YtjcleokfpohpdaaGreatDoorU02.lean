/-
  Terms that are small, rows of terms held against each other, and whether a term is in a row, by the reference of layer 3: Within, Small, Smalls, Sames, In, Has.
  Slices that read as lists of texts. Nothing of the program's functions.
  Whether a text is among others, by the reference of layer 1: In.
  The names of the variables of a term, by the reference of layer 3: Vars.
  Trees in memory: a kind, a text, a number, a place, and more trees; rows of them. No function of the program.
  Trees that calls have made live on in whatever leaves their blocks as they are. No function of the program.
-/
import Derived.Test.YtjcleokfpohpdaaGreatDoorU01
import Derived.WalkSpells
import Derived.Below
import Derived.Laws.OwnMore
import Derived.Lib.SlicesS
namespace Go.Proofs.YtjcleokfpohpdaaGreatDoor
open Go.RowKit
def nameB (t:Tm):Bool:=decide (t.name.size≤100)
def withinB (t:Tm) (most:Int):Bool:=decide ((t.parts:Int)≤most)&&t.all.all nameB
theorem within_parts {t:Tm} {most:Int} (h:withinB t most=true):(t.parts:Int)≤most:=by
  unfold withinB at h;rw [Bool.and_eq_true,decide_eq_true_eq] at h;exact h.1
theorem within_big {t:Tm} {most:Int} (h:¬ (t.parts:Int)≤most):withinB t most=false:=by unfold withinB;rw [decide_eq_false h,Bool.false_and]
def NamesTo (ts:List Tm) (k:Nat):Prop:=∀ j (h:j < ts.length),j < k→nameB ts[j]=true
theorem NamesTo.succ {ts:List Tm} {k:Nat} (h:NamesTo ts k) (hk:k < ts.length) (hs:nameB ts[k]=true):NamesTo ts (k + 1):=by
  intro j hj hjk
  by_cases e:j=k
  · subst e;exact hs
  · exact h j hj (by omega)
theorem NamesTo.all {t:Tm} {most:Int} (h:NamesTo t.all t.all.length) (hp:(t.parts:Int)≤most):withinB t most=true:=by
  unfold withinB;rw [decide_eq_true hp,Bool.true_and,List.all_eq_true]
  intro x hx
  obtain ⟨j,hj,rfl⟩:=List.getElem_of_mem hx
  exact h j hj hj
theorem names_bad {t:Tm} {most:Int} {k:Nat} (hk:k < t.all.length) (h:nameB t.all[k]=false):withinB t most=false:=by
  unfold withinB;rw [Bool.and_eq_false_iff];right
  rw [← Bool.not_eq_true,List.all_eq_true];intro hall
  rw [hall _ (List.getElem_mem hk)] at h;cases h
theorem Tms.open_ {w:World} {v:Value} {ts:List Tm} (h:Tms w v ts):∃ a c,v=.slice a ts.length c∧ts.length≤9223372036854775807∧(ts=[]∨∃ b o,a=some ⟨b,o,none⟩∧b < w.heap.size ∧
    ∀ j (h:j < ts.length),∃ u:Tv,u.t=ts[j]∧u.ok w∧TvAt w b (o + j * 4) u):=by
  obtain ⟨a,c,hv,hl,h⟩:=h
  refine ⟨a,c,hv,hl.1,?_⟩
  rcases h with h | ⟨b,o,ha,hlt,hr⟩
  · exact .inl h
  · exact .inr ⟨b,o,ha,hlt,fun j hj=>tmAt_tv (rowAt_get hr hj)⟩
set_option maxRecDepth 100000 in
set_option maxHeartbeats 1000000 in
theorem within_tm (x:Tv) (most:Int) (h0:0≤most) (h1:most≤100000) (w:World) (hx:x.ok w) :
    Calls Tryz.prog 76 #[x.val,.int .i64 most] w fun e w'=>e=.returned (.bool (withinB x.t most))∧Below w.heap.size w w':=by
  have C:=Lib.hid (fun w hx=>count_tm x.t.parts x most w (Nat.le_refl _) hx h0 (by omega))
  by_cases hp:(x.t.parts:Int)≤most
  · have hcn:=cnt_in hp
    have A:=Lib.hid (fun w hx=>all_tm x.t.parts x w w (Nat.le_refl _) (by omega) hx (Below.refl _ _))
    rw [hcn] at C
    have HX:=Lib.hid hx
    have HP:=Lib.hid hp
    have HAL:=Lib.hid (all_length x.t)
    have hpb:x.t.parts≤100000:=by omega
    have HNE:=Lib.hid (show x.t.all≠[] from by rw [all_eq];simp)
    have hNT:=fun (h:NamesTo x.t.all x.t.all.length)=>h.all hp
    have HNT:=Lib.hid hNT
    have HNB:=Lib.hid (fun k hk h=>names_bad (t:=x.t) (most:=most) (k:=k) hk h)
    obtain ⟨p,hpe⟩:∃ p,p=x.t.parts:=⟨_,rfl⟩
    obtain ⟨ts,hts⟩:∃ ts,ts=x.t.all:=⟨_,rfl⟩
    obtain ⟨z,hz⟩:∃ z,z=withinB x.t most:=⟨_,rfl⟩
    rw [← hpe] at C hp hpb HAL
    rw [← hts] at A HNT HNB HAL HNE
    rw [← hz] at HNT HNB ⊢
    clear hcn hx hpe hts hz hNT
    obtain ⟨t,a,c⟩:=x
    simp only [Tv.val] at C A ⊢
    go_enter Tryz.func76,Tryz.ntmps76
    go_wp2_with fail
    refine (C.out _ (HX.out.below ((Below.refl _ _).alloc (Nat.le_refl _) _))).mono ?_;rintro e w1 ⟨rfl,hb1⟩
    obtain ⟨hbx,hb,hlt⟩:=below_box' (box_new _ _ _ _ _ _) hb1
    obtain ⟨c0,c1,c2,c3,_,_,_,_⟩:=hbx
    go_wp2_with fail
    refine (A.out _ (HX.out.below hb)).mono ?_;rintro e w2 ⟨v,rfl,hov,hnn,hb2⟩
    have htm:=hov.tms hb2 (by have:=HAL.out;omega)
    obtain ⟨a',c',rfl,hl,hh⟩:=htm.open_
    rcases hh with hh | ⟨b,o,rfl,hblt,hr⟩
    · exact absurd hh HNE.out
    have HR:=Lib.hid hr
    have hbz:=below_next hb hb2
    clear hov hnn hr htm hb2 hb1 hb c0 c1 c2 c3
    go_wp2
    go_loopw [15] (fun i wr=>∃ k:Nat,k≤ts.length∧i=.int .i64 k∧NamesTo ts k∧Below w2.heap.size w2 wr) (fun i _=>ts.length - (intOf i).toNat)
    case atStart=>exact ⟨0,Nat.zero_le _,rfl,(fun j hj hk=>by omega),Below.refl _ _⟩
    case round =>
      obtain ⟨k,hk,rfl,hsh,hbr⟩:=hrel
      have HS:=Lib.hid hsh
      clear hsh
      by_cases hkl:k < ts.length
      · have hi:(k:Int) < (ts.length:Int):=by omega
        obtain ⟨u,hu,_,hat⟩:=HR.out k hkl
        obtain ⟨d0,d1,d2,d3⟩:=hat.below hbr
        have HU:=Lib.hid hu
        clear hu hat
        by_cases hs:u.t.name.size≤100
        · have HN:=Lib.hid (show nameB ts[k]=true from by rw [← HU.out];unfold nameB;exact decide_eq_true hs)
          go_wp2
          go_roundw
          case rel=>exact ⟨k + 1,by omega,by go_num,HS.out.succ hkl HN.out,hbr.alloc hbr.size _⟩
          case measure=>simp [intOf];omega
        · have HN:=Lib.hid (show nameB ts[k]=false from by rw [← HU.out];unfold nameB;exact decide_eq_false hs)
          go_wp2
          go_ret
          exact ⟨ret_bool (HNB.out k hkl HN.out).symm,below_next hbz (hbr.alloc hbr.size _)⟩
      · obtain rfl:k=ts.length:=by omega
        go_wp2
        go_ret
        exact ⟨ret_bool (HNT.out HS.out).symm,below_next hbz hbr⟩
  · have hcn:=cnt_out hp
    rw [hcn] at C
    have HW:=Lib.hid (within_big hp)
    have HX:=Lib.hid hx
    clear hcn hp hx
    obtain ⟨t,a,c⟩:=x
    simp only [Tv.val] at C ⊢
    go_enter Tryz.func76,Tryz.ntmps76
    go_wp2_with fail
    refine (C.out _ (HX.out.below ((Below.refl _ _).alloc (Nat.le_refl _) _))).mono ?_;rintro e w1 ⟨rfl,hb1⟩
    have hb:=below_box hb1
    clear hb1
    go_wp2_with fail
    go_ret
    exact ⟨ret_bool HW.out.symm,hb⟩
end Go.Proofs.YtjcleokfpohpdaaGreatDoor
namespace Go.Proofs.YtjcleokfpohpdaaGreatDoor
open Go.RowKit
def Strs (w:World) (v:Value) (zs:List ByteArray):Prop :=
  ∃ a c,v=.slice a zs.length c∧zs.length≤9223372036854775806∧(zs=[]∨∃ b off,a=some ⟨b,off,none⟩∧b < w.heap.size∧∀ j,j < zs.length→w.cell? ⟨b,off + j,none⟩=some (.string (zs.getD j ByteArray.empty)))
theorem Strs.below {w w':World} {v:Value} {zs:List ByteArray} (h:Strs w v zs) (hb:Below w.heap.size w w'):Strs w' v zs:=by
  obtain ⟨a,c,hv,hl,h⟩:=h
  refine ⟨a,c,hv,hl,?_⟩
  rcases h with h | ⟨b,off,ha,hlt,hc⟩
  · exact .inl h
  · exact .inr ⟨b,off,ha,Nat.lt_of_lt_of_le hlt hb.size,fun j hj=>by rw [hb.cell (p:=⟨b,off + j,none⟩) hlt];exact hc j hj⟩
theorem strs_alloc (w:World) (zs:List ByteArray) (t:TypeId) (hn:zs.length≤9223372036854775806) :
    Strs (w.alloc (.cells (zs.map Value.string).toArray t)) (.slice (some ⟨w.heap.size,0,none⟩) zs.length zs.length) zs:=by
  refine ⟨_,_,rfl,hn,.inr ⟨w.heap.size,0,rfl,by simp,fun j hj=>?_⟩⟩
  have e:=World.cell?_alloc_mark w (zs.map Value.string).toArray t (0,0) (0 + j)
  rw [e]
  simp [hj]
def NotYet (zs:List ByteArray) (x:ByteArray) (k:Nat):Prop:=∀ j,j < k→zs.getD j ByteArray.empty≠x
theorem NotYet.succ {zs:List ByteArray} {x:ByteArray} {k:Nat} (h:NotYet zs x k) (hk:zs.getD k ByteArray.empty≠x):NotYet zs x (k + 1):=by
  intro j hj
  by_cases e:j=k
  · rw [e];exact hk
  · exact h j (by omega)
theorem NotYet.all {zs:List ByteArray} {x:ByteArray} (h:NotYet zs x zs.length):Lib.containsS zs x=false:=by
  rw [← Bool.not_eq_true,Lib.containsS_iff]
  intro hm
  obtain ⟨j,hj,e⟩:=List.getElem_of_mem hm
  exact h j hj (by simpa [List.getD,hj] using e)
theorem contains_here {zs:List ByteArray} {x:ByteArray} {k:Nat} (hk:k < zs.length) (h:zs[k]=x):Lib.containsS zs x=true:=by
  rw [Lib.containsS_iff,← h];exact List.getElem_mem _
theorem strInfo:(Tryz.prog.info? 9).map (fun i=>(i.zero,i.size,i.bytes))=some (some (.string ⟨#[]⟩),1,16):=by kernel_rfl
theorem own_cells {w:World} {base:Nat} {e:TypeId} {v:Value} {n:Nat} {xs:List ByteArray} (h:w.ownsRow base e 1 v n (xs.map Value.string)):(v=.slice none 0 0∧xs=[]) ∨
    ∃ g cap,v=.slice (some ⟨g,0,none⟩) xs.length cap∧g < w.heap.size∧xs.length≤cap∧∀ (j:Nat) x,xs[j]? = some x→w.cell? ⟨g,0 + j,none⟩=some (.string x):=by
  obtain ⟨hn,h⟩:=h
  have hxn:xs.length=n:=by simpa using hn
  subst hxn
  rcases h with ⟨rfl,h0⟩ | ⟨g,cap,cur,rfl,hb,hg,hcap,hmax,hsz,htake⟩
  · exact .inl ⟨rfl,List.eq_nil_of_length_eq_zero h0⟩
  · refine .inr ⟨g,cap,rfl,?_,hcap,fun j x hj=>?_⟩
    · rcases Nat.lt_or_ge g w.heap.size with hlt | hge
      · exact hlt
      · rw [Array.getElem?_eq_none hge] at hg;cases hg
    · have hjl:j < xs.length:=(List.getElem?_eq_some_iff.1 hj).1
      rw [cell_of_row w g (0 + j) cur e (0,0) hg]
      have:(xs.map Value.string)[j]? = some (.string x):=by rw [List.getElem?_map,hj];rfl
      rw [← htake,List.getElem?_take,if_pos (by omega)] at this
      rw [Nat.zero_add]
      simpa using this
theorem strs_of_own {w:World} {base:Nat} {e:TypeId} {v:Value} {n:Nat} {zs:List ByteArray} (h:w.ownsRow base e 1 v n (zs.map Value.string)) (hl:zs.length≤9223372036854775806):Strs w v zs:=by
  rcases own_cells h with ⟨rfl,rfl⟩ | ⟨g,cap,rfl,hg,_,hc⟩
  · exact ⟨none,0,rfl,by simp,.inl rfl⟩
  · refine ⟨_,cap,rfl,hl,.inr ⟨g,0,rfl,hg,fun j hj=>?_⟩⟩
    have:=hc j zs[j] (by rw [List.getElem?_eq_getElem hj])
    rw [this];simp [List.getD,hj]
end Go.Proofs.YtjcleokfpohpdaaGreatDoor
namespace Go.Proofs.YtjcleokfpohpdaaGreatDoor
open Go.RowKit
set_option maxHeartbeats 400000 in
theorem rin_any (v:Value) (zs:List ByteArray) (x:ByteArray) (w:World) (hv:Strs w v zs) :
    Calls Tryz.prog 28 #[v,.string x] w fun e w'=>e=.returned (.bool (Lib.containsS zs x))∧w=w':=by
  obtain ⟨a,c,rfl,hl,h⟩:=hv
  rcases h with rfl | ⟨b,off,rfl,hlt,hc⟩
  · go_enter Tryz.func28,Tryz.ntmps28
    go_wp2
    refine wp_loop_rounds 1 ?_;rw [rounds_succ]
    go_wp2
    go_ret
    exact ⟨rfl,rfl⟩
  · have HC:=Lib.hid hc
    clear hc
    go_enter Tryz.func28,Tryz.ntmps28
    go_wp2
    go_loop [9] (fun i=>∃ k:Nat,k≤zs.length∧i=.int .i64 k∧NotYet zs x k) (fun i=>zs.length - (intOf i).toNat)
    case atStart=>exact ⟨0,Nat.zero_le _,rfl,(fun j hj=>by omega)⟩
    case round =>
      obtain ⟨k,hk,rfl,hne⟩:=hrel
      have HN:=Lib.hid hne
      clear hne
      by_cases hlt:k < zs.length
      · have hcell:w.cell? ⟨b,off + k,none⟩=some (.string zs[k]):=by rw [HC.out k hlt];simp [List.getD,hlt]
        by_cases he:zs[k]=x
        · have hq:(zs[k].toList==x.toList)=true:=by rw [Lib.bytes_beq_iff];exact he
          have HE:=Lib.hid he
          clear he
          go_wp2
          go_ret
          exact ⟨ret_bool (contains_here hlt HE.out).symm,rfl⟩
        · have hq:(zs[k].toList==x.toList)=false:=by rw [Lib.bytes_beq_false_iff];exact he
          have HE:=Lib.hid (show zs.getD k ByteArray.empty≠x from by simpa [List.getD,hlt] using he)
          clear he
          go_wp2
          go_round
          case rel=>exact ⟨k + 1,by omega,by go_num,HN.out.succ HE.out⟩
          case measure=>simp [intOf];omega
      · obtain rfl:k=zs.length:=by omega
        go_wp2
        go_ret
        exact ⟨ret_bool HN.out.all.symm,rfl⟩
end Go.Proofs.YtjcleokfpohpdaaGreatDoor
namespace Go.Proofs.YtjcleokfpohpdaaGreatDoor
open Go.RowKit
def varStep (acc:List ByteArray) (x:Tm):List ByteArray:=if (x.kind==1)=true∧Lib.containsS acc x.name=false then acc ++ [x.name] else acc
def varsL (l:List Tm):List ByteArray:=l.foldl varStep []
def Tm.vars (t:Tm):List ByteArray:=varsL t.all
theorem varsL_take {l:List Tm} {k:Nat} (h:k < l.length):varsL (l.take (k + 1))=varStep (varsL (l.take k)) l[k]:=by
  unfold varsL;rw [List.take_succ_eq_append_getElem h,List.foldl_append];rfl
theorem varsL_len (l:List Tm):(varsL l).length≤l.length:=by
  have:∀ (l:List Tm) (acc:List ByteArray),(l.foldl varStep acc).length≤acc.length + l.length:=by
    intro l
    induction l with
    | nil=>intro acc;simp
    | cons x r ih =>
      intro acc
      rw [List.foldl_cons,List.length_cons]
      have h1:=ih (varStep acc x)
      have h2:(varStep acc x).length≤acc.length + 1:=by unfold varStep;split<;>simp
      omega
  have:=this l []
  simpa [varsL] using this
set_option maxRecDepth 100000 in
set_option maxHeartbeats 2000000 in
theorem vars_tm (x:Tv) (w:World) (hx:x.ok w) (hp:x.t.parts≤2300000000000) :
    Calls Tryz.prog 30 #[x.val] w fun e w'=>∃ v,e=.returned v∧Strs w' v x.t.vars∧w'.ownsRow w.heap.size 9 1 v x.t.vars.length (x.t.vars.map Value.string)∧Below w.heap.size w w':=by
  obtain ⟨i0,hi,hz0,hz1,hz2⟩:=info_parts strInfo
  have A:=Lib.hid (fun w' (h:Below w.heap.size w w')=>all_tm x.t.parts x w w' (Nat.le_refl _) (by omega) hx h)
  have HAL:=Lib.hid (all_length x.t)
  have HNE:=Lib.hid (show x.t.all≠[] from by rw [all_eq];simp)
  have HV:=Lib.hid (show x.t.vars=varsL x.t.all from rfl)
  have HPB:=Lib.hid hp
  have IN:=Lib.hid (fun v zs s w hv=>rin_any v zs s w hv)
  obtain ⟨ts,hts⟩:∃ ts,ts=x.t.all:=⟨_,rfl⟩
  rw [← hts] at A HAL HNE HV
  rw [HV.out]
  obtain ⟨xk,xs,xn,xa,xl,xc,hxv⟩:=x.val_shape
  rw [hxv] at A ⊢
  clear hxv hts hx hp
  go_enter Tryz.func30,Tryz.ntmps30
  go_wp2_with fail
  refine (A.out _ ((Below.refl _ _).alloc (Nat.le_refl _) _)).mono ?_;rintro e w1 ⟨v,rfl,hov,hnn,hb1⟩
  have hb:=below_box hb1
  have hlen:ts.length≤2300000000000:=by have:=HAL.out;have:=HPB.out;omega
  obtain ⟨a',c',rfl,hl,hh⟩:=(hov.tms hb (by omega)).open_
  rcases hh with hh | ⟨b,o,rfl,hblt,hr⟩
  · exact absurd hh HNE.out
  have HR:=Lib.hid hr
  clear hov hnn hr hb1
  go_wp2
  go_loopw [3,9] (fun q i wr=>∃ k:Nat,k≤ts.length∧i=.int .i64 k∧wr.ownsRow w1.heap.size 9 1 q (varsL (ts.take k)).length ((varsL (ts.take k)).map Value.string)∧Below w1.heap.size w1 wr) (fun _ i _=>ts.length - (intOf i).toNat)
  case atStart=>exact ⟨0,Nat.zero_le _,rfl,World.ownsRow_nil _ _ _ _,Below.refl _ _⟩
  case round =>
    obtain ⟨k,hk,rfl,hown,hbr⟩:=hrel
    have hbs:=hbr.size
    by_cases hkl:k < ts.length
    · have hil:(k:Int) < (ts.length:Int):=by omega
      obtain ⟨u,hu,_,hat⟩:=HR.out k hkl
      obtain ⟨d0,d1,d2,d3⟩:=hat.below hbr
      have hst:=varsL_take hkl
      rw [← hu] at hst
      have hvl:=varsL_len (ts.take k)
      rw [List.length_take] at hvl
      obtain ⟨zs,hzs⟩:∃ zs,zs=varsL (ts.take k):=⟨_,rfl⟩
      rw [← hzs] at hst hvl hown
      have hzl:zs.length≤2300000000000:=by omega
      have HZ:=Lib.hid hzs
      clear hu hat hzs hvl
      have hbb:Below w1.heap.size w1 (wr.alloc (.cells #[.int .i64 u.t.kind,.string u.t.name,.int .i64 u.t.n,.slice u.a u.t.args.length u.c] 70)):=hbr.alloc hbs _
      cases hk1:(u.t.kind==1) with
      | false =>
        have he:varsL (ts.take (k + 1))=zs:=by rw [hst];unfold varStep;rw [if_neg (by rw [hk1];rintro ⟨h,_⟩;cases h)]
        have hown2:(wr.alloc (.cells #[.int .i64 u.t.kind,.string u.t.name,.int .i64 u.t.n,.slice u.a u.t.args.length u.c] 70)).ownsRow w1.heap.size 9 1 u3 (varsL (ts.take (k + 1))).length ((varsL (ts.take (k + 1))).map Value.string):=by
          rw [he];exact hown.alloc _
        clear he hst hown
        go_wp2_with fail
        go_roundw
        case rel=>exact ⟨k + 1,by omega,by go_num,hown2,hbb⟩
        case measure=>simp [intOf];omega
      | true =>
        have I:=Lib.hid (IN.out u3 zs u.t.name (wr.alloc (.cells #[.int .i64 u.t.kind,.string u.t.name,.int .i64 u.t.n,.slice u.a u.t.args.length u.c] 70)) (strs_of_own (hown.alloc _) (by omega)))
        cases hin:Lib.containsS zs u.t.name with
        | true =>
          rw [hin] at I
          have he:varsL (ts.take (k + 1))=zs:=by rw [hst];unfold varStep;rw [if_neg (by rw [hin];rintro ⟨_,h⟩;cases h)]
          have hown2:(wr.alloc (.cells #[.int .i64 u.t.kind,.string u.t.name,.int .i64 u.t.n,.slice u.a u.t.args.length u.c] 70)).ownsRow w1.heap.size 9 1 u3 (varsL (ts.take (k + 1))).length ((varsL (ts.take (k + 1))).map Value.string):=by
            rw [he];exact hown.alloc _
          clear he hst hown hin
          go_wp2_with fail
          refine I.out.mono ?_;rintro e w2 ⟨rfl,rfl⟩
          go_wp2_with fail
          go_roundw
          case rel=>exact ⟨k + 1,by omega,by go_num,hown2,hbb⟩
          case measure=>simp [intOf];omega
        | false =>
          rw [hin] at I
          have he:varsL (ts.take (k + 1))=zs ++ [u.t.name]:=by rw [hst];unfold varStep;rw [if_pos ⟨hk1,hin⟩]
          have HE:=Lib.hid he
          obtain ⟨ms,hms⟩:∃ ms,ms=zs.map Value.string:=⟨_,rfl⟩
          obtain ⟨m,hm⟩:∃ m,m=zs.length:=⟨_,rfl⟩
          rw [← hms,← hm] at hown
          rw [← hm] at hzl
          have HMS:=Lib.hid hms
          have HM:=Lib.hid hm
          clear he hst hin hms hm
          go_wp2_with fail
          refine I.out.mono ?_;rintro e w2 ⟨rfl,rfl⟩
          go_wp2_with (at_builtin;refine wpList_append_own _ rfl _ _ 27 rfl w1.heap.size 9 i0 (.string ⟨#[]⟩) 1 16 Tryz.underlying27 hi hz0 hz1 hz2 rfl (by decide) _ m _ rfl ((hown.alloc _).alloc _) ⟨wr.heap.size + 1,0,none⟩ 1 1 [.string u.t.name] rfl rfl ?c1 ?c2 ?c3 ?c4 ?c5 ?_)
          case c1 =>
            have hz:wr.heap.size + 1=(wr.alloc (.cells #[.int .i64 u.t.kind,.string u.t.name,.int .i64 u.t.n,.slice u.a u.t.args.length u.c] 70)).heap.size:=by simp
            rw [hz]
            exact cell_one_new _ _ _
          case c2=>intro u hu;simp at hu;rw [hu];rfl
          case c3=>unfold maxLen;omega
          case c4=>omega
          case c5=>simp;omega
          intro v' w3 hown' hgrow _
          have hb':Below w1.heap.size w1 w3:=((hbr.alloc hbs _).alloc (by simp;omega) _).grown hgrow (by simp;omega) (own_row_ge hown)
          have hown2:w3.ownsRow w1.heap.size 9 1 v' (varsL (ts.take (k + 1))).length ((varsL (ts.take (k + 1))).map Value.string):=by
            rw [HE.out,List.map_append,List.length_append,← HM.out,← HMS.out];exact hown'
          clear hown hown' hgrow d0 d1 d2 d3 hbr
          go_wp2_with fail
          go_roundw
          case rel=>exact ⟨k + 1,by omega,by go_num,hown2,hb'⟩
          case measure=>simp [intOf];omega
    · obtain rfl:k=ts.length:=by omega
      rw [List.take_length] at hown
      have hvl:=varsL_len ts
      have hst:=strs_of_own hown (by omega)
      have hge:wr.ownsRow w.heap.size 9 1 u3 (varsL ts).length ((varsL ts).map Value.string):=own_lower hown hb.size
      clear hown
      go_wp2
      go_ret
      exact ⟨_,rfl,hst,hge,below_next hb hbr⟩
end Go.Proofs.YtjcleokfpohpdaaGreatDoor
namespace Go.Proofs.YtjcleokfpohpdaaGreatDoor
open Go.RowKit
inductive Tr where
  | mk (kind:Int) (text:ByteArray) (n:Int) (spot:Int) (args:List Tr)
def Tr.kind:Tr→Int | .mk k _ _ _ _=>k
def Tr.text:Tr→ByteArray | .mk _ s _ _ _=>s
def Tr.n:Tr→Int | .mk _ _ n _ _=>n
def Tr.spot:Tr→Int | .mk _ _ _ p _=>p
def Tr.args:Tr→List Tr | .mk _ _ _ _ xs=>xs
instance:Inhabited Tr:=⟨.mk 0 ⟨#[]⟩ 0 0 []⟩
mutual
def Tr.parts:Tr→Nat
  | .mk _ _ _ _ xs=>partsR xs + 1
def partsR:List Tr→Nat
  | []=>0
  | t :: r=>t.parts + partsR r
end
theorem trParts_eq (t:Tr):t.parts=partsR t.args + 1:=by cases t;rw [Tr.parts];rfl
theorem trParts_pos (t:Tr):1≤t.parts:=by rw [trParts_eq];omega
theorem partsR_cons (t:Tr) (r:List Tr):partsR (t :: r)=t.parts + partsR r:=by rw [partsR]
theorem partsR_get (l:List Tr) {j:Nat} (h:j < l.length):l[j].parts≤partsR l:=by
  induction l generalizing j with
  | nil=>simp at h
  | cons t r ih =>
    rw [partsR_cons]
    cases j with
    | zero=>simp
    | succ j=>have:=ih (j:=j) (by simpa using h);simp;omega
theorem partsR_length (l:List Tr):l.length≤partsR l:=by
  induction l with
  | nil=>simp
  | cons t r ih=>rw [partsR_cons,List.length_cons];have:=trParts_pos t;omega
structure FitR (k:Int) (s:ByteArray) (n p:Int):Prop where
  klo : -9223372036854775808≤k
  khi:k≤9223372036854775807
  nlo : -9223372036854775808≤n
  nhi:n≤9223372036854775807
  plo : -9223372036854775808≤p
  phi:p≤9223372036854775807
  len:s.size≤9223372036854775807
mutual
def TrAt (w:World):Tr→Nat→Nat→Prop
  | .mk k s n p xs,b,o=>FitR k s n p∧w.cell? ⟨b,o,none⟩=some (.int .i64 k)∧w.cell? ⟨b,o + 1,none⟩=some (.string s)∧w.cell? ⟨b,o + 2,none⟩=some (.int .i64 n)∧w.cell? ⟨b,o + 3,none⟩=some (.int .i64 p) ∧
    ∃ a c,w.cell? ⟨b,o + 4,none⟩=some (.slice a xs.length c)∧(xs.length≤9223372036854775807∧xs.length≤c)∧(xs=[]∨∃ b' o',a=some ⟨b',o',none⟩∧b' < w.heap.size∧RowRAt w xs b' o')
def RowRAt (w:World):List Tr→Nat→Nat→Prop
  | [],_,_=>True
  | t :: r,b,o=>TrAt w t b o∧RowRAt w r b (o + 5)
end
def ArgR (w:World) (a:Option Addr) (c:Nat) (xs:List Tr):Prop:=(xs.length≤9223372036854775807∧xs.length≤c)∧(xs=[]∨∃ b o,a=some ⟨b,o,none⟩∧b < w.heap.size∧RowRAt w xs b o)
theorem rowRAt_get {w:World}:∀ {xs:List Tr} {b o:Nat},RowRAt w xs b o→∀ {j:Nat} (h:j < xs.length),TrAt w xs[j] b (o + j * 5)
  | [],_,_,_,_,h=>by simp at h
  | t :: r,b,o,hr,0,_=>by rw [RowRAt] at hr;simpa using hr.1
  | t :: r,b,o,hr,j + 1,h=>by
    rw [RowRAt] at hr
    have:=rowRAt_get hr.2 (j:=j) (by simpa using h)
    rw [show o + (j + 1) * 5=o + 5 + j * 5 from by omega]
    exact this
theorem rowRAt_of {w:World}:∀ {xs:List Tr} {b o:Nat},(∀ {j:Nat} (h:j < xs.length),TrAt w xs[j] b (o + j * 5))→RowRAt w xs b o
  | [],_,_,_=>by rw [RowRAt];trivial
  | t :: r,b,o,h=>by
    rw [RowRAt]
    refine ⟨(show TrAt w t b (o + 0 * 5) from h (j:=0) (by simp)),rowRAt_of fun {j} hj=>?_⟩
    have:=h (j:=j + 1) (by simpa using hj)
    rw [show o + (j + 1) * 5=o + 5 + j * 5 from by omega] at this
    exact this
structure Rv where
  t:Tr
  a:Option Addr
  c:Nat
def Rv.val (v:Rv):Value:=.agg #[.int .i64 v.t.kind,.string v.t.text,.int .i64 v.t.n,.int .i64 v.t.spot,.slice v.a v.t.args.length v.c]
def Rv.cells (v:Rv):List Value:=[.int .i64 v.t.kind,.string v.t.text,.int .i64 v.t.n,.int .i64 v.t.spot,.slice v.a v.t.args.length v.c]
def Rv.ok (w:World) (v:Rv):Prop:=FitR v.t.kind v.t.text v.t.n v.t.spot∧ArgR w v.a v.c v.t.args
structure RvAt (w:World) (b o:Nat) (v:Rv):Prop where
  c0:w.cell? ⟨b,o,none⟩=some (.int .i64 v.t.kind)
  c1:w.cell? ⟨b,o + 1,none⟩=some (.string v.t.text)
  c2:w.cell? ⟨b,o + 2,none⟩=some (.int .i64 v.t.n)
  c3:w.cell? ⟨b,o + 3,none⟩=some (.int .i64 v.t.spot)
  c4:w.cell? ⟨b,o + 4,none⟩=some (.slice v.a v.t.args.length v.c)
theorem trAt_rv {w:World} {t:Tr} {b o:Nat} (h:TrAt w t b o):∃ v:Rv,v.t=t∧v.ok w∧RvAt w b o v:=by
  cases t with
  | mk k s n p xs =>
    rw [TrAt] at h
    obtain ⟨hf,h0,h1,h2,h3,a,c,h4,hl,hr⟩:=h
    exact ⟨⟨.mk k s n p xs,a,c⟩,rfl,⟨hf,hl,hr⟩,h0,h1,h2,h3,h4⟩
theorem rv_trAt {w:World} {v:Rv} {b o:Nat} (hk:v.ok w) (h:RvAt w b o v):TrAt w v.t b o:=by
  obtain ⟨t,a,c⟩:=v
  cases t with
  | mk k s n p xs =>
    rw [TrAt]
    exact ⟨hk.1,h.c0,h.c1,h.c2,h.c3,a,c,h.c4,hk.2.1,hk.2.2⟩
theorem lt_of_cellR {w:World} {b o:Nat} {x:Value} (h:w.cell? ⟨b,o,none⟩=some x):b < w.heap.size:=by
  rcases Nat.lt_or_ge b w.heap.size with hlt | hge
  · exact hlt
  · unfold World.cell? at h
    simp [Array.getElem?_eq_none hge] at h
mutual
theorem TrAt.below {w w':World} (hb:Below w.heap.size w w'):∀ {t:Tr} {b o:Nat},TrAt w t b o→TrAt w' t b o
  | .mk k s n p xs,b,o,h=>by
    rw [TrAt] at h ⊢
    obtain ⟨hf,h0,h1,h2,h3,a,c,h4,hl,hr⟩:=h
    have hlt:=lt_of_cellR h0
    refine ⟨hf,(hb.cell (p:=⟨b,o,none⟩) hlt).trans h0,(hb.cell (p:=⟨b,o + 1,none⟩) hlt).trans h1,(hb.cell (p:=⟨b,o + 2,none⟩) hlt).trans h2,(hb.cell (p:=⟨b,o + 3,none⟩) hlt).trans h3,a,c,(hb.cell (p:=⟨b,o + 4,none⟩) hlt).trans h4,hl,?_⟩
    rcases hr with hr | ⟨b',o',ha,hb',hr⟩
    · exact .inl hr
    · exact .inr ⟨b',o',ha,Nat.lt_of_lt_of_le hb' hb.size,RowRAt.below hb hr⟩
theorem RowRAt.below {w w':World} (hb:Below w.heap.size w w'):∀ {xs:List Tr} {b o:Nat},RowRAt w xs b o→RowRAt w' xs b o
  | [],_,_,_=>by rw [RowRAt];trivial
  | t :: r,b,o,h=>by
    rw [RowRAt] at h ⊢
    exact ⟨TrAt.below hb h.1,RowRAt.below hb h.2⟩
end
theorem ArgR.below {w w':World} {a:Option Addr} {c:Nat} {xs:List Tr} (h:ArgR w a c xs) (hb:Below w.heap.size w w'):ArgR w' a c xs:=by
  obtain ⟨hl,h⟩:=h
  refine ⟨hl,?_⟩
  rcases h with h | ⟨b,o,ha,hlt,hr⟩
  · exact .inl h
  · exact .inr ⟨b,o,ha,Nat.lt_of_lt_of_le hlt hb.size,hr.below hb⟩
theorem Rv.ok.below {w w':World} {v:Rv} (h:v.ok w) (hb:Below w.heap.size w w'):v.ok w':=⟨h.1,ArgR.below h.2 hb⟩
def Trs (w:World) (v:Value) (ts:List Tr):Prop:=∃ a c,v=.slice a ts.length c∧ArgR w a c ts
theorem Trs.below {w w':World} {v:Value} {ts:List Tr} (h:Trs w v ts) (hb:Below w.heap.size w w'):Trs w' v ts:=by
  obtain ⟨a,c,hv,h⟩:=h
  exact ⟨a,c,hv,h.below hb⟩
theorem Trs.none_ (w:World) (a:Option Addr) (c:Nat):Trs w (.slice a 0 c) []:=⟨a,c,rfl,by simp,.inl rfl⟩
theorem Trs.open_ {w:World} {v:Value} {ts:List Tr} (h:Trs w v ts):∃ a c,v=.slice a ts.length c∧ts.length≤9223372036854775807∧ts.length≤c∧(ts=[]∨∃ b o,a=some ⟨b,o,none⟩∧b < w.heap.size∧∀ (j:Nat) t,ts[j]? = some t→∃ y:Rv,y.t=t∧y.ok w∧RvAt w b (o + j * 5) y):=by
  obtain ⟨a,c,rfl,⟨hl,hc⟩,h⟩:=h
  refine ⟨a,c,rfl,hl,hc,?_⟩
  rcases h with h | ⟨b,o,ha,hlt,hr⟩
  · exact .inl h
  · refine .inr ⟨b,o,ha,hlt,fun j t hj=>?_⟩
    obtain ⟨hjl,rfl⟩:=List.getElem?_eq_some_iff.1 hj
    exact trAt_rv (rowRAt_get hr hjl)
theorem RvAt.below {w w':World} {b o:Nat} {v:Rv} (h:RvAt w b o v) (hb:Below w.heap.size w w'):RvAt w' b o v :=
  have hlt:=lt_of_cellR h.c0
  ⟨(hb.cell (p:=⟨b,o,none⟩) hlt).trans h.c0,(hb.cell (p:=⟨b,o + 1,none⟩) hlt).trans h.c1,(hb.cell (p:=⟨b,o + 2,none⟩) hlt).trans h.c2,(hb.cell (p:=⟨b,o + 3,none⟩) hlt).trans h.c3,(hb.cell (p:=⟨b,o + 4,none⟩) hlt).trans h.c4⟩
def rowRv (vs:List Rv):List Value:=vs.flatMap Rv.cells
theorem rowRv_append (a b:List Rv):rowRv (a ++ b)=rowRv a ++ rowRv b:=by unfold rowRv;rw [List.flatMap_append]
theorem rowRv_one (v:Rv):rowRv [v]=v.cells:=by unfold rowRv;simp
theorem rowRv_get:∀ (vs:List Rv) (j:Nat) (h:j < vs.length) (i:Nat),i < 5→(rowRv vs)[j * 5 + i]? = vs[j].cells[i]?
  | [],_,h,_,_=>by simp at h
  | v :: r,0,_,i,hi=>by
    unfold rowRv
    rw [List.flatMap_cons,List.getElem?_append_left (by simp [Rv.cells];omega)];simp
  | v :: r,j + 1,h,i,hi=>by
    have:=rowRv_get r j (by simpa using h) i hi
    unfold rowRv at this ⊢
    rw [List.flatMap_cons,List.getElem?_append_right (by simp [Rv.cells];omega)]
    rw [show (j + 1) * 5 + i - v.cells.length=j * 5 + i from by simp [Rv.cells];omega,this]
    simp
theorem rowRv_one' (vs:List Rv):∀ u ∈ rowRv vs,u.oneCell'=true:=by
  intro u hu
  unfold rowRv at hu
  obtain ⟨v,_,hv⟩:=List.mem_flatMap.1 hu
  simp only [Rv.cells,List.mem_cons,List.not_mem_nil,or_false] at hv
  rcases hv with rfl | rfl | rfl | rfl | rfl<;>rfl
theorem rv_one (v:Rv):∀ u ∈ v.cells,u.oneCell'=true:=by rw [← rowRv_one];exact rowRv_one' [v]
def OwnRv (w0 w:World) (e:TypeId) (base:Nat) (v:Value) (ts:List Tr):Prop :=
  ∃ vs:List Rv,vs.map Rv.t=ts∧(∀ x ∈ vs,x.ok w0)∧w.ownsRow base e 5 v ts.length (rowRv vs)
theorem OwnRv.trs {w0 w:World} {e:TypeId} {base:Nat} {v:Value} {ts:List Tr} (h:OwnRv w0 w e base v ts) (hb:∀ x:Rv,x.ok w0→x.ok w) (hl:ts.length≤9223372036854775807):Trs w v ts:=by
  obtain ⟨vs,rfl,hok,hn,h⟩:=h
  rcases h with ⟨rfl,h0⟩ | ⟨g,cap,cur,rfl,_,hg,hcap,hmax,hsz,htake⟩
  · have:vs=[]:=by simpa using h0
    subst this
    exact Trs.none_ _ _ _
  · refine ⟨_,cap,rfl,⟨hl,hcap⟩,.inr ⟨g,0,rfl,(Array.getElem?_eq_some_iff.1 hg).1,rowRAt_of fun {j} hj=>?_⟩⟩
    have hjv:j < vs.length:=by simpa using hj
    rw [List.getElem_map]
    have cell:∀ i,i < 5→w.cell? ⟨g,0 + j * 5 + i,none⟩=vs[j].cells[i]? := by
      intro i hi
      rw [cell_of_row w g (0 + j * 5 + i) cur _ (0,0) hg,← rowRv_get vs j hjv i hi,← htake,List.getElem?_take,if_pos (by simp;omega),Nat.zero_add]
      simp
    exact rv_trAt (hb _ (hok _ (List.getElem_mem hjv))) ⟨cell 0 (by omega),cell 1 (by omega),cell 2 (by omega),cell 3 (by omega),cell 4 (by omega)⟩
end Go.Proofs.YtjcleokfpohpdaaGreatDoor
namespace Go.Proofs.YtjcleokfpohpdaaGreatDoor
open Go.RowKit
def MadeR (w w':World) (y:Rv):Prop:=∀ W',w'.heap.size≤W'.heap.size→(∀ k,w.heap.size≤k→k < w'.heap.size→W'.heap[k]? = w'.heap[k]?)→y.ok W'
def MadeRs (w w':World) (v:Value) (ts:List Tr):Prop:=∀ W',w'.heap.size≤W'.heap.size→(∀ k,w.heap.size≤k→k < w'.heap.size→W'.heap[k]? = w'.heap[k]?)→Trs W' v ts
theorem MadeR.ok {w w':World} {y:Rv} (h:MadeR w w' y):y.ok w':=h w' (Nat.le_refl _) fun _ _ _=>rfl
theorem MadeRs.trs {w w':World} {v:Value} {ts:List Tr} (h:MadeRs w w' v ts):Trs w' v ts:=h w' (Nat.le_refl _) fun _ _ _=>rfl
theorem MadeR.wide {u w w' W:World} {y:Rv} (h:MadeR w w' y) (h1:u.heap.size≤w.heap.size) (h2:w'.heap.size≤W.heap.size) (h3:∀ k,w.heap.size≤k→k < w'.heap.size→W.heap[k]? = w'.heap[k]?):MadeR u W y:=fun W' g1 g2 =>
  h W' (Nat.le_trans h2 g1) fun k k1 k2=>(g2 k (Nat.le_trans h1 k1) (Nat.lt_of_lt_of_le k2 h2)).trans (h3 k k1 k2)
theorem MadeR.below {u w w' W:World} {y:Rv} (h:MadeR w w' y) (h1:u.heap.size≤w.heap.size) (hb:Below w'.heap.size w' W):MadeR u W y:=h.wide h1 hb.size fun k _ k2=>hb.block k k2
theorem MadeRs.below {u w w' W:World} {v:Value} {ts:List Tr} (h:MadeRs w w' v ts) (h1:u.heap.size≤w.heap.size) (hb:Below w'.heap.size w' W):MadeRs u W v ts:=fun W' g1 g2 =>
  h W' (Nat.le_trans hb.size g1) fun k k1 k2=>(g2 k (Nat.le_trans h1 k1) (Nat.lt_of_lt_of_le k2 hb.size)).trans (hb.block k k2)
def LiveR (W:World) (g:Option Nat) (base:Nat) (y:Rv):Prop:=∃ lo hi,base≤lo∧lo≤hi∧hi≤W.heap.size∧(∀ k,g=some k→k < lo∨hi≤k) ∧
  ∀ W',hi≤W'.heap.size→(∀ k,lo≤k→k < hi→W'.heap[k]? = W.heap[k]?)→y.ok W'
theorem LiveR.ok {W:World} {g:Option Nat} {base:Nat} {y:Rv} (h:LiveR W g base y):y.ok W:=by
  obtain ⟨lo,hi,_,_,h3,_,h5⟩:=h
  exact h5 W h3 fun _ _ _=>rfl
theorem MadeR.live {w w':World} {y:Rv} (h:MadeR w w' y) (hs:w.heap.size≤w'.heap.size) {g:Option Nat} {base:Nat} (hb:base≤w.heap.size) (hg:∀ k,g=some k→k < w.heap.size∨w'.heap.size≤k):LiveR w' g base y :=
  ⟨w.heap.size,w'.heap.size,hb,hs,Nat.le_refl _,hg,h⟩
theorem LiveR.keep {W W':World} {g g':Option Nat} {base:Nat} {y:Rv} (h:LiveR W g base y) (hs:W.heap.size≤W'.heap.size) (hk:∀ k,k < W.heap.size→some k≠g→W'.heap[k]? = W.heap[k]?) (hg:∀ k,g'=some k→g=some k∨W.heap.size≤k):LiveR W' g' base y:=by
  obtain ⟨lo,hi,h1,h2,h3,h4,h5⟩:=h
  refine ⟨lo,hi,h1,h2,Nat.le_trans h3 hs,fun k e=>?_,fun W2 g1 g2=>h5 W2 g1 fun k k1 k2=>?_⟩
  · rcases hg k e with e | e
    · exact h4 k e
    · exact .inr (Nat.le_trans h3 e)
  · rw [g2 k k1 k2]
    refine hk k (Nat.lt_of_lt_of_le k2 h3) fun e=>?_
    rcases h4 k e.symm with e | e<;>omega
theorem LiveR.below {W W':World} {g:Option Nat} {base:Nat} {y:Rv} (h:LiveR W g base y) (hb:Below W.heap.size W W'):LiveR W' g base y:=h.keep hb.size (fun k hk _=>hb.block k hk) fun _ e=>.inl e
theorem LiveR.grown {W W':World} {g g':Option Nat} {base:Nat} {y:Rv} (h:LiveR W g base y) (hg:W.grownBy W' g) (hat:g'=g∨g'=some W.heap.size):LiveR W' g' base y:=h.keep hg.size (fun k hk e=>hg.block k hk e) fun k e=>by
  rcases hat with e2 | e2
  · left;rw [← e2];exact e
  · right;rw [e2] at e;injection e with e;omega
theorem own_at {w w':World} {base:Nat} {e:TypeId} {size:Nat} {v:Value} {n:Nat} {xs:List Value} (h:w.ownsRow base e size v n xs) (hk:∀ g,v.ownBlock=some g→w'.heap[g]? = w.heap[g]?):w'.ownsRow base e size v n xs:=by
  obtain ⟨hn,h⟩:=h
  refine ⟨hn,?_⟩
  rcases h with h | ⟨g,cap,cur,rfl,hbb,hg,hr⟩
  · exact .inl h
  · exact .inr ⟨g,cap,cur,rfl,hbb,(hk g rfl).trans hg,hr⟩
structure RowR (W:World) (e:TypeId) (base:Nat) (v:Value) (ts:List Tr):Prop where
  row:∃ vs:List Rv,vs.map Rv.t=ts∧(∀ x ∈ vs,LiveR W v.ownBlock base x)∧W.ownsRow base e 5 v ts.length (rowRv vs)
theorem rowR_nil (W:World) (e:TypeId) (base:Nat):RowR W e base (.slice none 0 0) []:=⟨[],rfl,(fun x hx=>by cases hx),World.ownsRow_nil _ _ _ _⟩
theorem RowR.below {W W':World} {e:TypeId} {base:Nat} {v:Value} {ts:List Tr} (h:RowR W e base v ts) (hb:Below W.heap.size W W'):RowR W' e base v ts:=by
  obtain ⟨vs,h1,h2,h3⟩:=h
  exact ⟨vs,h1,fun x hx=>(h2 x hx).below hb,own_below h3 hb⟩
theorem RowR.made {w W:World} {e:TypeId} {base:Nat} {v:Value} {ts:List Tr} (h:RowR W e base v ts) (hb:w.heap.size≤base) (hl:ts.length≤9223372036854775807):MadeRs w W v ts:=fun W' g1 g2=>by
  obtain ⟨vs,h1,h2,h3⟩:=h
  have hrow:∀ g,v.ownBlock=some g→W'.heap[g]? = W.heap[g]? := fun g e=>g2 g (Nat.le_trans hb (own_row_ge h3 g e)) (own_row_lt h3 g e)
  refine OwnRv.trs (w0:=W') (e:=e) (base:=base) ⟨vs,h1,fun x hx=>?_,own_at h3 hrow⟩ (fun x h=>h) hl
  obtain ⟨lo,hi,k1,_,k3,_,k5⟩:=h2 x hx
  exact k5 W' (Nat.le_trans k3 g1) fun k q1 q2=>g2 k (by omega) (by omega)
theorem RowR.trs {W:World} {e:TypeId} {base:Nat} {v:Value} {ts:List Tr} (h:RowR W e base v ts) (hl:ts.length≤9223372036854775807):Trs W v ts:=by
  obtain ⟨vs,h1,h2,h3⟩:=h
  exact OwnRv.trs (w0:=W) (e:=e) (base:=base) ⟨vs,h1,fun x hx=>(h2 x hx).ok,h3⟩ (fun x h=>h) hl
end Go.Proofs.YtjcleokfpohpdaaGreatDoor
