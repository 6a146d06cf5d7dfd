/-
  Which rules aren't there yet, by the program: missing.
  Rows of rules put together: the library's Grow and Concat.
  Where the first function of a name stands, looked for by a method value; and its arity: package sign's find and Arity.
  Rows of functions put together: the library's Grow and Concat.
  What the byte functions of package chars answer: the class, or whether the byte may be part of a word, for every byte and in every world; nothing is changed.
-/
import Derived.Test.YtjcleokfpohpdaaGreatDoorU30
import Derived.Test.YtjcleokfpohpdaaGreatDoorU09
import Derived.Test.YtjcleokfpohpdaaGreatDoorU10
import Derived.Lib.AppendZeros
import Derived.Laws.AppendOwnNone
import Derived.BigQuiet
import Derived.Test.YtjcleokfpohpdaaGreatDoorU07
import Derived.Lib.Hide
import Derived.WalkKit
import Derived.Test.YtjcleokfpohpdaaGreatDoorU03
import Derived.WalkSpells
import Derived.WalkLawsBesides
namespace Go.Proofs.YtjcleokfpohpdaaGreatDoor
open Go.RowKit
theorem own_qin {w:World} {base:Nat} {v:Value} {us:List Qv} (h:w.ownsRow base 82 8 v us.length (rowQv us)) (hl:us.length≤9223372036854775807):QIn w v us:=by
  obtain ⟨hn,h⟩:=h
  rcases h with ⟨rfl,h0⟩ | ⟨g,cap,cur,rfl,_,hg,hcap,hmax,hsz,htake⟩
  · have:us=[]:=by simpa using h0
    subst this
    exact ⟨none,0,rfl,by simp,(fun _=>rfl),(fun ad e=>nomatch e),(fun ad e=>nomatch e)⟩
  · refine ⟨_,cap,rfl,⟨hl,hcap⟩,(fun e=>nomatch e),fun ad e hp=>⟨g,0,(Option.some.inj e).symm,(Array.getElem?_eq_some_iff.1 hg).1⟩,fun ad e j u hj=>?_⟩
    obtain rfl:=Option.some.inj e
    rw [addr_add]
    have hjl:=(List.getElem?_eq_some_iff.1 hj).1
    rw [rowQv_length] at hjl
    rw [cell_of_row w g (0 + j) cur _ (0,0) hg,← hj,← htake,List.getElem?_take,if_pos (by omega),Nat.zero_add]
    simp
noncomputable def missQ (rs:List Rl) (us:List Qv):List Qv:=us.filter fun q => !(rs.any fun x=>sameUp x q.rl)
theorem missQ_rl (rs:List Rl) (us:List Qv):(missQ rs us).map Qv.rl=(us.map Qv.rl).filter fun q => !(rs.any fun x=>sameUp x q):=by
  unfold missQ
  rw [List.filter_map];rfl
theorem missQ_le (rs:List Rl) (us:List Qv):(missQ rs us).length≤us.length:=List.length_filter_le ..
theorem missQ_take {rs:List Rl} {us:List Qv} {k:Nat} (h:k < us.length):missQ rs (us.take (k + 1))=missQ rs (us.take k) ++ (if rs.any (fun x=>sameUp x us[k].rl)=true then [] else [us[k]]):=by
  unfold missQ
  rw [List.take_succ_eq_append_getElem h,List.filter_append]
  congr 1
  rw [List.filter_cons]
  cases rs.any (fun x=>sameUp x us[k].rl)<;>rfl
theorem rls_all {w:World} {v:Value} {rs:List Rl} (h:Rls w v rs):∃ a c,∃ us:List Qv,v=.slice a us.length c∧us.length≤9223372036854775807∧us.map Qv.rl=rs∧(∀ x ∈ us,x.ok w)∧∀ k (hk:k < us.length),∃ b o,a=some ⟨b,o,none⟩∧QvAt w b (o + k * 8) us[k]:=by
  obtain ⟨a,c,rfl,hl,hat⟩:=rls_at h
  have hex:∀ n,n≤rs.length→∃ us:List Qv,us.map Qv.rl=rs.take n∧(∀ x ∈ us,x.ok w)∧∀ k (hk:k < us.length),∃ b o,a=some ⟨b,o,none⟩∧QvAt w b (o + k * 8) us[k]:=by
    intro n
    induction n with
    | zero=>intro _;exact ⟨[],by simp,(fun x hx=>by cases hx),fun k h=>by simp at h⟩
    | succ n ih =>
      intro hn
      obtain ⟨us,u1,u2,u3⟩:=ih (by omega)
      obtain ⟨b,o,e,y,y1,y2,y3⟩:=hat n (by omega)
      have hul:us.length=n:=by rw [← List.length_map (f:=Qv.rl),u1,List.length_take];omega
      refine ⟨us ++ [y],by rw [List.map_append,u1,List.take_succ_eq_append_getElem (by omega)];simp [y1],fun x hx=>?_,fun j hj=>?_⟩
      · rcases List.mem_append.1 hx with hx | hx
        · exact u2 x hx
        · rw [List.mem_singleton.1 hx];exact y2
      · rw [List.length_append,List.length_singleton] at hj
        by_cases hj2:j < us.length
        · rw [List.getElem_append_left hj2];exact u3 j hj2
        · obtain rfl:j=us.length:=by omega
          rw [List.getElem_append_right (Nat.le_refl _)]
          simp only [Nat.sub_self,List.getElem_cons_zero]
          exact ⟨b,o,e,by rw [hul];exact y3⟩
  obtain ⟨us,u1,u2,u3⟩:=hex rs.length (Nat.le_refl _)
  rw [List.take_length] at u1
  have hul:us.length=rs.length:=by rw [← u1,List.length_map]
  exact ⟨a,c,us,by rw [hul],by omega,u1,u2,u3⟩
set_option maxRecDepth 100000 in
set_option maxHeartbeats 4000000 in
theorem pmissing_any (va vb:Value) (rs qs:List Rl) (w:World) (HPW:Pow w) (ha:Rls w va rs) (hb:Rls w vb qs) (hfa:FewP rs) (hfb:FewP qs) (hlq:qs.length≤1000) :
    Calls Tryz.prog 79 #[va,vb] w fun e w'=>∃ (u:Value) (us:List Qv),e=.returned u∧us.map Qv.rl=qs.filter (fun q => !(rs.any fun x=>sameUp x q))∧(∀ x ∈ us,x.ok w)∧w'.ownsRow w.heap.size 82 8 u us.length (rowQv us)∧Below w.heap.size w w':=by
  obtain ⟨i0,hi0,hz0,hz1,hz2⟩:=info_parts ruleInfo
  obtain ⟨a,c,us,rfl,hl,hus,hok,hat⟩:=rls_all hb
  have hul:us.length=qs.length:=by rw [← hus,List.length_map]
  have hlu:us.length≤1000:=by omega
  clear hul hlq
  have CM:=Lib.hid (fun (k:Nat) (hk:k < us.length) (g:Nat) (W:World) (h:Below w.heap.size w W) (hg:QvAt W g 0 us[k])=>pcontains_miss va rs us[k] g W (HPW.below h) (ha.below h) ((hok _ (List.getElem_mem hk)).below h) hg hfa (hfb us[k].rl (by rw [← hus];exact List.mem_map_of_mem (List.getElem_mem hk))))
  have HAT:=Lib.hid hat
  have HOK:=Lib.hid hok
  have HUS:=Lib.hid hus
  obtain ⟨a1,c1,rfl,_,_⟩:=rls_at ha
  clear ha hb hfa hfb hus hok hat HPW
  go_enter Tryz.func79,Tryz.ntmps79
  go_wp2_with fail
  go_loopw [5,11] (fun u i wr=>∃ k:Nat,i=.int .i64 k∧k≤us.length∧wr.ownsRow w.heap.size 82 8 u (missQ rs (us.take k)).length (rowQv (missQ rs (us.take k)))∧Below w.heap.size w wr) (fun _ i _=>us.length - (intOf i).toNat)
  case atStart=>exact ⟨0,rfl,Nat.zero_le _,World.ownsRow_nil _ _ _ _,Below.refl _ _⟩
  case round =>
    obtain ⟨k,rfl,hk,hown,hb⟩:=hrel
    by_cases hk1:k < us.length
    · have hkc:(k:Int) < (us.length:Int):=by omega
      have hk0:(0:Int)≤(k:Int):=by omega
      obtain ⟨b,o,rfl,y3⟩:=HAT.out k hk1
      obtain ⟨m0,m1,m2,m3,m4,m5,m6,m7⟩:=y3.below hb
      have HMT:=Lib.hid (missQ_take (rs:=rs) hk1)
      have hml:(missQ rs (us.take k)).length≤1000:=by have:=missQ_le rs (us.take k);rw [List.length_take] at this;omega
      have CK:=Lib.hid (CM.out k hk1)
      obtain ⟨y,hy⟩:∃ y,us[k]=y:=⟨_,rfl⟩
      rw [hy] at m0 m1 m2 m3 m4 m5 m6 m7 HMT CK
      obtain ⟨sm,hsm⟩:∃ sm,rs.any (fun x=>sameUp x y.rl)=sm:=⟨_,rfl⟩
      rw [hsm] at HMT CK
      have hbA:Below wr.heap.size wr (wr.alloc (.cells y.cells.toArray 82)):=(Below.refl _ _).alloc (Nat.le_refl _) _
      have hgq:=eight_box wr y 82
      have C:=Lib.hid (CK.out wr.heap.size _ (below_next hb hbA) hgq)
      have hownA:=own_below hown hbA
      have HBA:=Lib.hid (hb.trans (hbA.mono hb.size))
      have HYC:=Lib.hid (rowQv_one y)
      have hbs:=hb.size
      have HNC:=Lib.hid (fun (W:World)=>new_cells W y.cells 82)
      have HQ1:=Lib.hid (qv_one y)
      have HGQ:=Lib.hid hgq
      clear hy hsm y3 hbA hgq hb hown
      obtain ⟨⟨xt,xa,xc⟩,⟨xt2,xa2,xc2⟩⟩:=y
      unfold Qv.cells at C hownA HBA HYC HNC HQ1 HGQ
      simp only at C hownA HBA HYC HNC HQ1 HGQ m0 m1 m2 m3 m4 m5 m6 m7
      have HOA:=Lib.hid hownA
      clear hownA
      cases sm with
      | true =>
        have HT:=Lib.hid (show missQ rs (us.take (k + 1))=missQ rs (us.take k) by rw [HMT.out,if_pos rfl,List.append_nil])
        go_wp2_with fail
        refine C.out.mono ?_;rintro e w1 ⟨rfl,hb2⟩
        have H2:=Lib.hid (HBA.out.trans (hb2.mono HBA.out.size))
        have HO2:=Lib.hid (own_below HOA.out hb2)
        clear hb2 m0 m1 m2 m3 m4 m5 m6 m7
        go_wp2_with fail
        go_roundw
        case rel=>exact ⟨k + 1,by go_num,by omega,by rw [HT.out];exact HO2.out,H2.out⟩
        case measure=>simp [intOf];omega
      | false =>
        have HT:=Lib.hid (show missQ rs (us.take (k + 1))=missQ rs (us.take k) ++ [_] by rw [HMT.out,if_neg (by decide)])
        go_wp2_with fail
        refine C.out.mono ?_;rintro e w1 ⟨rfl,hb2⟩
        have hb2':=HBA.out.trans (hb2.mono HBA.out.size)
        obtain ⟨p0,p1,p2,p3,p4,p5,p6,p7⟩:=HGQ.out.below hb2
        simp only [Nat.zero_add] at p0 p1 p2 p3 p4 p5 p6 p7
        have hown2:=(own_below HOA.out hb2).alloc (.cells #[.int .i64 xt.kind,.string xt.name,.int .i64 xt.n,.slice xa xt.args.length xc,.int .i64 xt2.kind,.string xt2.name,.int .i64 xt2.n,.slice xa2 xt2.args.length xc2] 82)
        have hb3:=hb2'.alloc hb2'.size (.cells #[.int .i64 xt.kind,.string xt.name,.int .i64 xt.n,.slice xa xt.args.length xc,.int .i64 xt2.kind,.string xt2.name,.int .i64 xt2.n,.slice xa2 xt2.args.length xc2] 82)
        have HB3:=Lib.hid hb3
        clear hb2 hb2' hb3 m0 m1 m2 m3 m4 m5 m6 m7
        go_wp2_with (at_builtin;refine wpList_append_own_at _ rfl _ _ 24 rfl w.heap.size 82 i0 (.agg #[.int .i64 0,.string ⟨#[]⟩,.int .i64 0,.slice none 0 0,.int .i64 0,.string ⟨#[]⟩,.int .i64 0,.slice none 0 0]) 8 112 Tryz.underlying24 hi0 hz0 hz1 hz2 rfl (by decide) _ (missQ rs (us.take k)).length _ rfl hown2 ⟨w1.heap.size,0,none⟩ 1 1 [.int .i64 xt.kind,.string xt.name,.int .i64 xt.n,.slice xa xt.args.length xc,.int .i64 xt2.kind,.string xt2.name,.int .i64 xt2.n,.slice xa2 xt2.args.length xc2] rfl rfl ?c1 ?c2 ?c3 ?c4 ?c5 ?_)
        case c1=>exact HNC.out w1
        case c2=>exact HQ1.out
        case c3=>unfold maxLen;omega
        case c4=>omega
        case c5=>exact HB3.out.size
        intro v' w5 hown' hgrow _ _
        have HO5:=Lib.hid (show w5.ownsRow w.heap.size 82 8 v' (missQ rs (us.take (k + 1))).length (rowQv (missQ rs (us.take (k + 1)))) from by rw [HT.out,List.length_append,rowQv_append,HYC.out];exact hown')
        have HB5:=Lib.hid (HB3.out.grown hgrow HB3.out.size (own_row_ge hown2))
        clear hown' hgrow hown2 p0 p1 p2 p3 p4 p5 p6 p7
        go_wp2_with fail
        go_roundw
        case rel=>exact ⟨k + 1,by go_num,by omega,HO5.out,HB5.out⟩
        case measure=>simp [intOf];omega
    · obtain rfl:k=us.length:=by omega
      rw [List.take_length] at hown
      have HO:=Lib.hid hown
      have HB:=Lib.hid hb
      clear hown hb
      go_wp2_with fail
      go_ret
      exact ⟨_,missQ rs us,rfl,by rw [missQ_rl,HUS.out],fun x hx=>HOK.out x ((List.mem_filter.1 hx).1),HO.out,HB.out⟩
end Go.Proofs.YtjcleokfpohpdaaGreatDoor
namespace Go.Proofs.YtjcleokfpohpdaaGreatDoor
open Go.RowKit
set_option maxRecDepth 100000 in
set_option maxHeartbeats 1000000 in
theorem pgrow_rl (n:Nat) (w:World) (hn:n≤1000001) :
    Calls Tryz.prog 132 #[.slice none 0 0,.int .i64 n] w fun e w'=>∃ v,e=.returned v∧w'.ownsRow w.heap.size 82 8 v 0 []∧Below w.heap.size w w':=by
  by_cases h0:0 < n
  · obtain ⟨i1,hi1,hiz1,his1,hib1⟩:=info_parts ruleInfo
    have hrun:=fun ty=>Lib.run_append_nil_zeros (P:=Tryz.prog) w 24 3 ty 82 i1 (.agg #[.int .i64 0,.string ⟨#[]⟩,.int .i64 0,.slice none 0 0,.int .i64 0,.string ⟨#[]⟩,.int .i64 0,.slice none 0 0]) .i64 .i64 Tryz.underlying24 Tryz.underlying3 hi1 hiz1 n h0 (by rw [his1];omega) (by omega) (by rw [hib1];omega)
    have hcg:=grownCap_ge w n 0 82
    have hcm:grownCap w n 0 82≤maxLen:=grownCap_le_maxLen w n 0 82 (by unfold maxLen;omega)
    obtain ⟨cap,hcap⟩:∃ cap,grownCap w n 0 82=cap:=⟨_,rfl⟩
    rw [hcap] at hcg hcm
    simp only [hcap] at hrun
    have hd1:decide ((n:Int) < 0)=false:=decide_eq_false (by omega)
    have hd2:decide (0 < (n:Int))=true:=decide_eq_true (by omega)
    have hsz:(Builtin.zeroCells (Value.agg #[.int .i64 0,.string ⟨#[]⟩,.int .i64 0,.slice none 0 0,.int .i64 0,.string ⟨#[]⟩,.int .i64 0,.slice none 0 0]).cells n ++ Builtin.zeroCells (Value.agg #[.int .i64 0,.string ⟨#[]⟩,.int .i64 0,.slice none 0 0,.int .i64 0,.string ⟨#[]⟩,.int .i64 0,.slice none 0 0]).cells (cap - n)).size=cap * 8:=by
      rw [Array.size_append,size_zeroCells,size_zeroCells];simp [Value.cells];omega
    have hB:Below w.heap.size w (w.drew.alloc (.cells (Builtin.zeroCells (Value.agg #[.int .i64 0,.string ⟨#[]⟩,.int .i64 0,.slice none 0 0,.int .i64 0,.string ⟨#[]⟩,.int .i64 0,.slice none 0 0]).cells n ++ Builtin.zeroCells (Value.agg #[.int .i64 0,.string ⟨#[]⟩,.int .i64 0,.slice none 0 0,.int .i64 0,.string ⟨#[]⟩,.int .i64 0,.slice none 0 0]).cells (cap - n)) 82)):=((Below.refl _ _).drew).alloc (Nat.le_refl _) _
    have hh:(w.drew.alloc (.cells (Builtin.zeroCells (Value.agg #[.int .i64 0,.string ⟨#[]⟩,.int .i64 0,.slice none 0 0,.int .i64 0,.string ⟨#[]⟩,.int .i64 0,.slice none 0 0]).cells n ++ Builtin.zeroCells (Value.agg #[.int .i64 0,.string ⟨#[]⟩,.int .i64 0,.slice none 0 0,.int .i64 0,.string ⟨#[]⟩,.int .i64 0,.slice none 0 0]).cells (cap - n)) 82)).heap[w.heap.size]? = some (.cells (Builtin.zeroCells (Value.agg #[.int .i64 0,.string ⟨#[]⟩,.int .i64 0,.slice none 0 0,.int .i64 0,.string ⟨#[]⟩,.int .i64 0,.slice none 0 0]).cells n ++ Builtin.zeroCells (Value.agg #[.int .i64 0,.string ⟨#[]⟩,.int .i64 0,.slice none 0 0,.int .i64 0,.string ⟨#[]⟩,.int .i64 0,.slice none 0 0]).cells (cap - n)) 82 (0,0)):=heap_alloc_new w.drew _
    obtain ⟨w2,hw2⟩:∃ w2,(w.drew.alloc (.cells (Builtin.zeroCells (Value.agg #[.int .i64 0,.string ⟨#[]⟩,.int .i64 0,.slice none 0 0,.int .i64 0,.string ⟨#[]⟩,.int .i64 0,.slice none 0 0]).cells n ++ Builtin.zeroCells (Value.agg #[.int .i64 0,.string ⟨#[]⟩,.int .i64 0,.slice none 0 0,.int .i64 0,.string ⟨#[]⟩,.int .i64 0,.slice none 0 0]).cells (cap - n)) 82))=w2:=⟨_,rfl⟩
    obtain ⟨cur,hcur⟩:∃ cur,Builtin.zeroCells (Value.agg #[.int .i64 0,.string ⟨#[]⟩,.int .i64 0,.slice none 0 0,.int .i64 0,.string ⟨#[]⟩,.int .i64 0,.slice none 0 0]).cells n ++ Builtin.zeroCells (Value.agg #[.int .i64 0,.string ⟨#[]⟩,.int .i64 0,.slice none 0 0,.int .i64 0,.string ⟨#[]⟩,.int .i64 0,.slice none 0 0]).cells (cap - n)=cur:=⟨_,rfl⟩
    simp only [hcur] at hw2 hsz hh hB hrun
    simp only [hw2] at hh hB hrun
    have HH:=Lib.hid hh
    have HB:=Lib.hid hB
    have HR:=Lib.hid hrun
    have HS:=Lib.hid hsz
    have hc0:(0:Int)≤(cap:Int):=by omega
    clear hh hB hrun hw2 hcur hcap hsz
    go_enter Tryz.func132,Tryz.ntmps132
    go_wp2_with (at_builtin;refine Lib.wpList_append_run _ rfl _ _ _ _ rfl _ _ rfl rfl _ _ (HR.out _) ?_)
    go_ret
    exact ⟨.slice (some ⟨w.heap.size,0,none⟩) 0 cap,rfl,⟨rfl,.inr ⟨w.heap.size,cap,cur,rfl,Nat.le_refl _,HH.out,Nat.zero_le _,hcm,by rw [HS.out],by simp⟩⟩,HB.out⟩
  · obtain rfl:n=0:=by omega
    go_enter Tryz.func132,Tryz.ntmps132
    go_wp2_with fail
    go_ret
    exact ⟨_,rfl,World.ownsRow_nil _ _ _ _,Below.refl _ _⟩
set_option maxRecDepth 100000 in
set_option maxHeartbeats 4000000 in
theorem pconcat_rl (vs:List (Value × List Qv)) (g c:Nat) (w:World) (hv:RowsQ w g vs) (hm:vs.length≤1000) (hmc:vs.length≤c) (hl:(flatQ vs).length≤1000000) :
    Calls Tryz.prog 78 #[.slice (some ⟨g,0,none⟩) vs.length c] w fun e w'=>∃ u,e=.returned u∧w'.ownsRow w.heap.size 82 8 u (flatQ vs).length (rowQv (flatQ vs))∧Below w.heap.size w w':=by
  obtain ⟨i0,hi,hz0,hz1,hz2⟩:=info_parts ruleInfo
  have HV:=Lib.hid hv
  have G:=Lib.hid (fun (n:Nat) (hn:n≤1000001)=>pgrow_rl n w hn)
  have HLE:=Lib.hid (flatQ_le vs)
  obtain ⟨m,hmm⟩:∃ m,vs.length=m:=⟨_,rfl⟩
  have HM:=Lib.hid hmm
  rw [hmm] at hm hmc ⊢
  have hm1:(m:Int)≤1000:=by omega
  clear hv hmm
  go_enter Tryz.func78,Tryz.ntmps78
  go_wp2_with fail
  go_loopw [3,11] (fun sz i wr=>∃ k:Nat,k≤m∧i=.int .i64 k∧sz=.int .i64 (flatQ (vs.take k)).length∧Hid (w=wr)) (fun _ i _=>m - (intOf i).toNat)
  case atStart=>exact ⟨0,Nat.zero_le _,rfl,by simp [flatQ],Lib.hid (by trivial)⟩
  case round =>
    obtain ⟨k,hk,rfl,rfl,HW⟩:=hrel
    obtain rfl:=HW.out
    by_cases hkl:k < m
    · have hkv:k < vs.length:=by rw [HM.out];exact hkl
      obtain ⟨hc,hf⟩:=HV.out.2 k hkv
      have HFT:=Lib.hid (flatQ_take hkv)
      have hle:=HLE.out (k + 1)
      rw [HFT.out,List.length_append] at hle
      obtain ⟨x,hx⟩:∃ x,vs[k]=x:=⟨_,rfl⟩
      rw [hx] at hc hf hle HFT
      obtain ⟨xv,xs⟩:=x
      simp only at hc hf hle HFT
      obtain ⟨a,n,c1,rfl⟩:∃ a n c,xv=.slice a n c:=by obtain ⟨a,c,h,_⟩:=hf;exact ⟨a,_,c,h⟩
      obtain rfl:n=xs.length:=by obtain ⟨a',c',h,_⟩:=hf;cases h;rfl
      obtain ⟨s0,hs0⟩:∃ s0,(flatQ (vs.take k)).length=s0:=⟨_,rfl⟩
      have HS:=Lib.hid (show (flatQ (vs.take (k + 1))).length=s0 + xs.length by rw [HFT.out,List.length_append,hs0])
      rw [hs0] at hle ⊢
      have hsum:(s0:Int) + (xs.length:Int)≤1000000:=by omega
      have hneg:decide ((s0:Int) + (xs.length:Int) < 0)=false:=decide_eq_false (by omega)
      have hk0:(0:Int)≤(k:Int):=by omega
      have hk1:(k:Int) < (m:Int):=by omega
      clear hf hs0 hx
      go_wp2_with fail
      go_roundw
      case rel=>exact ⟨k + 1,by omega,by go_num,by rw [HS.out];go_num,Lib.hid (by trivial)⟩
      case measure=>simp [intOf];omega
    · obtain rfl:k=m:=by omega
      have hd:(flatQ (vs.take k)).length=(flatQ vs).length:=by rw [List.take_of_length_le (by rw [HM.out];omega)]
      rw [hd]
      have GG:=Lib.hid (G.out (flatQ vs).length (by omega))
      clear hd
      go_wp2_with fail
      refine GG.out.mono ?_;rintro e w1 ⟨v1,rfl,hown1,hb1⟩
      have HO1:=Lib.hid hown1
      have HB1:=Lib.hid hb1
      clear hown1 hb1
      go_wp2_with fail
      go_loopw [6,27] (fun u i wr=>∃ k1:Nat,k1≤k∧i=.int .i64 k1∧Hid (wr.ownsRow w.heap.size 82 8 u (flatQ (vs.take k1)).length (rowQv (flatQ (vs.take k1))))∧Hid (Below w.heap.size w wr)) (fun _ i _=>k - (intOf i).toNat)
      case atStart=>exact ⟨0,Nat.zero_le _,rfl,Lib.hid (by simpa [flatQ,rowQv] using HO1.out),HB1⟩
      case round =>
        obtain ⟨k1,hk,rfl,HO,HB⟩:=hrel
        by_cases hkl:k1 < k
        · have hkv:k1 < vs.length:=by rw [HM.out];exact hkl
          obtain ⟨hc,hf⟩:=(HV.out.below HB.out).2 k1 hkv
          have HFT:=Lib.hid (flatQ_take hkv)
          have hle:=HLE.out (k1 + 1)
          rw [HFT.out,List.length_append] at hle
          obtain ⟨x,hx⟩:∃ x,vs[k1]=x:=⟨_,rfl⟩
          rw [hx] at hc hf hle HFT
          obtain ⟨xv,xs⟩:=x
          simp only at hc hf hle HFT
          obtain ⟨a,n,c1,rfl⟩:∃ a n c,xv=.slice a n c:=by obtain ⟨a,c,h,_⟩:=hf;exact ⟨a,_,c,h⟩
          obtain ⟨a',c',e',hsm,hn0,_,hnew⟩:=hf
          cases e'
          have HNEW:=Lib.hid hnew
          have HNL:=Lib.hid (rowQv_length xs)
          have HN0:=Lib.hid hn0
          have HROW1:=Lib.hid (rowQv_one' xs)
          have hown:=Lib.hid HO.out
          obtain ⟨s0,hs0⟩:∃ s0,(flatQ (vs.take k1)).length=s0:=⟨_,rfl⟩
          have HS0:=Lib.hid hs0
          rw [hs0] at hown hle
          have hk0:(0:Int)≤(k1:Int):=by omega
          have hk1:(k1:Int) < (k:Int):=by omega
          have hwr:=HB.out.size
          clear hs0 hx hnew hn0
          go_wp2_with (at_builtin;refine wpList_append_opt rfl _ _ 24 rfl w.heap.size 82 i0 (.agg #[.int .i64 0,.string ⟨#[]⟩,.int .i64 0,.slice none 0 0,.int .i64 0,.string ⟨#[]⟩,.int .i64 0,.slice none 0 0]) 8 112 Tryz.underlying24 hi hz0 hz1 hz2 rfl (by decide) _ s0 _ rfl hown.out a xs.length c1 (rowQv xs) rfl HN0.out HNL.out HNEW.out HROW1.out ?ap3 ?ap4 ?ap5 ?_)
          case ap3=>unfold maxLen;omega
          case ap4=>omega
          case ap5=>exact hwr
          intro v3 w3 hown3 hgrow3 _
          have HB3:=Lib.hid (HB.out.grown hgrow3 hwr (fun g e=>(hown.out.lt g e).1))
          have HO3:=Lib.hid (show w3.ownsRow w.heap.size 82 8 v3 (flatQ (vs.take (k1 + 1))).length (rowQv (flatQ (vs.take (k1 + 1)))) from by rw [HFT.out,rowQv_append,List.length_append,HS0.out];exact hown3)
          clear hown3 hgrow3
          go_wp2_with fail
          go_roundw
          case rel=>exact ⟨k1 + 1,by omega,by go_num,HO3,HB3⟩
          case measure=>simp [intOf];omega
        · have HO2:=Lib.hid (show wr.ownsRow w.heap.size 82 8 u6 (flatQ vs).length (rowQv (flatQ vs)) from by
            have h:=HO.out
            rwa [List.take_of_length_le (by rw [HM.out];omega)] at h)
          go_wp2_with fail
          go_ret
          exact ⟨_,rfl,HO2.out,HB.out⟩
end Go.Proofs.YtjcleokfpohpdaaGreatDoor
namespace Go.Proofs.YtjcleokfpohpdaaGreatDoor
open Go.RowKit
set_option maxHeartbeats 400000 in
theorem pnames_any (s xs:ByteArray) (xn:Int) (w:World) :
    Calls Tryz.prog 198 #[.string s,.agg #[.string xs,.int .i64 xn]] w fun e w'=>e=.returned (.bool (xs.toList==s.toList))∧Below w.heap.size w w':=by
  go_enter Tryz.func198,Tryz.ntmps198
  go_wp2_with fail
  go_ret
  exact ⟨rfl,(Below.refl _ _).alloc (Nat.le_refl _) _⟩
def FindEnd (fs:List Fn) (s:ByteArray) (e:Ending):Prop:=(e=.returned (.int .i64 (-1))∧arF fs s=none)∨∃ (k:Nat) (x:Fn),e=.returned (.int .i64 k)∧fs[k]? = some x∧arF fs s=some x.2
set_option maxRecDepth 100000 in
set_option maxHeartbeats 1000000 in
theorem pindex_any (v:Value) (fs:List Fn) (s:ByteArray) (w:World) (hv:Fus w v fs) :
    Calls Tryz.prog 197 #[v,.func (Fn.func 198) #[.string s] #[]] w fun e w'=>FindEnd fs s e∧Below w.heap.size w w':=by
  obtain ⟨a,c,rfl,hl,hrow⟩:=hv
  have HR:=Lib.hid hrow
  clear hrow
  go_enter Tryz.func197,Tryz.ntmps197
  go_wp2_with fail
  go_loopw [8] (fun i wr=>∃ k:Nat,k≤fs.length∧i=.int .i64 k∧Hid (arF (fs.take k) s=none)∧Below w.heap.size w wr) (fun i _=>fs.length - (intOf i).toNat)
  case atStart=>exact ⟨0,Nat.zero_le _,rfl,Lib.hid (by rw [List.take_zero];rfl),Below.refl _ _⟩
  case round =>
    obtain ⟨k,hk,rfl,HN,hb⟩:=hrel
    by_cases hkl:k < fs.length
    · obtain ⟨b,o,rfl,hlt,hat⟩:=HR.out.resolve_left (by intro h;rw [h] at hkl;simp at hkl)
      obtain ⟨x,hx⟩:∃ x,fs[k]? = some x:=⟨_,List.getElem?_eq_getElem hkl⟩
      have hA:=hat k x hx
      have m0:=(hb.cell (p:=⟨b,o + k * 2,none⟩) hlt).trans hA.c0
      have m1:=(hb.cell (p:=⟨b,o + k * 2 + 1,none⟩) hlt).trans hA.c1
      have hstep:=Lib.hid (arF_take HN.out hx)
      have hk0:(0:Int)≤(k:Int):=by omega
      have hk1:(k:Int) < (fs.length:Int):=by omega
      have HX:=Lib.hid hx
      clear hat hx hA
      obtain ⟨xs,xn⟩:=x
      simp only at m0 m1
      have NM:=Lib.hid (fun W=>pnames_any s xs xn W)
      cases he:(xs.toList==s.toList) with
      | true =>
        rw [he] at NM
        have HG:=Lib.hid (show arF fs s=some xn from arF_some (hstep.out.trans (if_pos he)))
        clear he
        go_wp2_with (go_at_call 198;refine (NM.out _).mono ?_;rintro e w1 ⟨rfl,hb1⟩)
        go_ret
        exact ⟨.inr ⟨k,(xs,xn),rfl,HX.out,HG.out⟩,below_next hb hb1⟩
      | false =>
        rw [he] at NM
        have HNN:=Lib.hid (show arF (fs.take (k + 1)) s=none by rw [hstep.out,if_neg (by rw [he];simp)])
        clear he
        go_wp2_with (go_at_call 198;refine (NM.out _).mono ?_;rintro e w1 ⟨rfl,hb1⟩)
        go_roundw
        case rel=>exact ⟨k + 1,by omega,by go_num,HNN,below_next hb hb1⟩
        case measure=>simp [intOf];omega
    · have hke:k=fs.length:=by omega
      have HG:=Lib.hid (show arF fs s=none by have h:=HN.out;rw [hke,List.take_length] at h;exact h)
      clear hke
      go_wp2_with fail
      go_ret
      exact ⟨.inl ⟨rfl,HG.out⟩,hb⟩
set_option maxHeartbeats 1000000 in
theorem pfind_fn (v:Value) (fs:List Fn) (s:ByteArray) (w:World) (hv:Fus w v fs) :
    Calls Tryz.prog 172 #[v,.string s] w fun e w'=>FindEnd fs s e∧Below w.heap.size w w':=by
  have IX:=Lib.hid (pindex_any v fs s w hv)
  obtain ⟨a,n,c,rfl⟩:∃ a n c,v=.slice a n c:=by obtain ⟨a,c,h,_⟩:=hv;exact ⟨a,_,c,h⟩
  clear hv
  go_enter Tryz.func172,Tryz.ntmps172
  go_wp2_with fail
  refine IX.out.mono ?_;rintro e w1 ⟨he,hb⟩
  rcases he with ⟨rfl,h⟩ | ⟨k,x,rfl,h⟩
  · have H:=Lib.hid h
    clear h
    go_wp2_with fail
    go_ret
    exact ⟨.inl ⟨rfl,H.out⟩,hb⟩
  · have H:=Lib.hid h
    clear h
    go_wp2_with fail
    go_ret
    exact ⟨.inr ⟨k,x,rfl,H.out⟩,hb⟩
end Go.Proofs.YtjcleokfpohpdaaGreatDoor
namespace Go.Proofs.YtjcleokfpohpdaaGreatDoor
open Go.RowKit
set_option maxRecDepth 100000 in
set_option maxHeartbeats 1000000 in
theorem pgrow_fn (n:Nat) (w:World) (hn:n≤1000001) :
    Calls Tryz.prog 169 #[.slice none 0 0,.int .i64 n] w fun e w'=>∃ v,e=.returned v∧w'.ownsRow w.heap.size 140 2 v 0 []∧Below w.heap.size w w':=by
  by_cases h0:0 < n
  · obtain ⟨i1,hi1,hiz1,his1,hib1⟩:=info_parts funInfo
    have hrun:=fun ty=>Lib.run_append_nil_zeros (P:=Tryz.prog) w 23 3 ty 140 i1 (.agg #[.string ⟨#[]⟩,.int .i64 0]) .i64 .i64 Tryz.underlying23 Tryz.underlying3 hi1 hiz1 n h0 (by rw [his1];omega) (by omega) (by rw [hib1];omega)
    have hcg:=grownCap_ge w n 0 140
    have hcm:grownCap w n 0 140≤maxLen:=grownCap_le_maxLen w n 0 140 (by unfold maxLen;omega)
    obtain ⟨cap,hcap⟩:∃ cap,grownCap w n 0 140=cap:=⟨_,rfl⟩
    rw [hcap] at hcg hcm
    simp only [hcap] at hrun
    have hd1:decide ((n:Int) < 0)=false:=decide_eq_false (by omega)
    have hd2:decide (0 < (n:Int))=true:=decide_eq_true (by omega)
    have hsz:(Builtin.zeroCells (Value.agg #[.string ⟨#[]⟩,.int .i64 0]).cells n ++ Builtin.zeroCells (Value.agg #[.string ⟨#[]⟩,.int .i64 0]).cells (cap - n)).size=cap * 2:=by
      rw [Array.size_append,size_zeroCells,size_zeroCells];simp [Value.cells];omega
    have hB:Below w.heap.size w (w.drew.alloc (.cells (Builtin.zeroCells (Value.agg #[.string ⟨#[]⟩,.int .i64 0]).cells n ++ Builtin.zeroCells (Value.agg #[.string ⟨#[]⟩,.int .i64 0]).cells (cap - n)) 140)):=((Below.refl _ _).drew).alloc (Nat.le_refl _) _
    have hh:(w.drew.alloc (.cells (Builtin.zeroCells (Value.agg #[.string ⟨#[]⟩,.int .i64 0]).cells n ++ Builtin.zeroCells (Value.agg #[.string ⟨#[]⟩,.int .i64 0]).cells (cap - n)) 140)).heap[w.heap.size]? = some (.cells (Builtin.zeroCells (Value.agg #[.string ⟨#[]⟩,.int .i64 0]).cells n ++ Builtin.zeroCells (Value.agg #[.string ⟨#[]⟩,.int .i64 0]).cells (cap - n)) 140 (0,0)):=heap_alloc_new w.drew _
    obtain ⟨w2,hw2⟩:∃ w2,(w.drew.alloc (.cells (Builtin.zeroCells (Value.agg #[.string ⟨#[]⟩,.int .i64 0]).cells n ++ Builtin.zeroCells (Value.agg #[.string ⟨#[]⟩,.int .i64 0]).cells (cap - n)) 140))=w2:=⟨_,rfl⟩
    obtain ⟨cur,hcur⟩:∃ cur,Builtin.zeroCells (Value.agg #[.string ⟨#[]⟩,.int .i64 0]).cells n ++ Builtin.zeroCells (Value.agg #[.string ⟨#[]⟩,.int .i64 0]).cells (cap - n)=cur:=⟨_,rfl⟩
    simp only [hcur] at hw2 hsz hh hB hrun
    simp only [hw2] at hh hB hrun
    have HH:=Lib.hid hh
    have HB:=Lib.hid hB
    have HR:=Lib.hid hrun
    have HS:=Lib.hid hsz
    have hc0:(0:Int)≤(cap:Int):=by omega
    clear hh hB hrun hw2 hcur hcap hsz
    go_enter Tryz.func169,Tryz.ntmps169
    go_wp2_with (at_builtin;refine Lib.wpList_append_run _ rfl _ _ _ _ rfl _ _ rfl rfl _ _ (HR.out _) ?_)
    go_ret
    exact ⟨.slice (some ⟨w.heap.size,0,none⟩) 0 cap,rfl,⟨rfl,.inr ⟨w.heap.size,cap,cur,rfl,Nat.le_refl _,HH.out,Nat.zero_le _,hcm,by rw [HS.out],by simp⟩⟩,HB.out⟩
  · obtain rfl:n=0:=by omega
    go_enter Tryz.func169,Tryz.ntmps169
    go_wp2_with fail
    go_ret
    exact ⟨_,rfl,World.ownsRow_nil _ _ _ _,Below.refl _ _⟩
def flatF (vs:List (Value × List Fn)):List Fn:=vs.flatMap Prod.snd
theorem flatF_take {vs:List (Value × List Fn)} {k:Nat} (h:k < vs.length):flatF (vs.take (k + 1))=flatF (vs.take k) ++ vs[k].2:=by
  unfold flatF
  rw [List.take_succ_eq_append_getElem h,List.flatMap_append];simp
theorem flatF_le (vs:List (Value × List Fn)) (k:Nat):(flatF (vs.take k)).length≤(flatF vs).length:=by
  have e:flatF vs=flatF (vs.take k) ++ flatF (vs.drop k):=by
    unfold flatF;rw [← List.flatMap_append,List.take_append_drop]
  rw [e,List.length_append];omega
def RowsF (w:World) (g:Nat) (vs:List (Value × List Fn)):Prop:=g < w.heap.size∧∀ (k:Nat) (h:k < vs.length),w.cell? ⟨g,k,none⟩=some vs[k].1∧Fus w vs[k].1 vs[k].2
theorem RowsF.below {w w':World} {g:Nat} {vs:List (Value × List Fn)} (h:RowsF w g vs) (hb:Below w.heap.size w w'):RowsF w' g vs :=
  ⟨Nat.lt_of_lt_of_le h.1 hb.size,fun k hk=>⟨(hb.cell (p:=⟨g,k,none⟩) h.1).trans (h.2 k hk).1,(h.2 k hk).2.below hb⟩⟩
set_option maxRecDepth 100000 in
set_option maxHeartbeats 4000000 in
theorem pconcat_fn (vs:List (Value × List Fn)) (g c:Nat) (w:World) (hv:RowsF w g vs) (hm:vs.length≤1000) (hmc:vs.length≤c) (hl:(flatF vs).length≤1000000) :
    Calls Tryz.prog 128 #[.slice (some ⟨g,0,none⟩) vs.length c] w fun e w'=>∃ u,e=.returned u∧OwnFn w' w.heap.size u (flatF vs)∧Below w.heap.size w w':=by
  obtain ⟨i0,hi,hz0,hz1,hz2⟩:=info_parts funInfo
  have HV:=Lib.hid hv
  have G:=Lib.hid (fun (n:Nat) (hn:n≤1000001)=>pgrow_fn n w hn)
  have HLE:=Lib.hid (flatF_le vs)
  obtain ⟨m,hmm⟩:∃ m,vs.length=m:=⟨_,rfl⟩
  have HM:=Lib.hid hmm
  rw [hmm] at hm hmc ⊢
  have hm1:(m:Int)≤1000:=by omega
  clear hv hmm
  go_enter Tryz.func128,Tryz.ntmps128
  go_wp2_with fail
  go_loopw [3,11] (fun sz i wr=>∃ k:Nat,k≤m∧i=.int .i64 k∧sz=.int .i64 (flatF (vs.take k)).length∧Hid (w=wr)) (fun _ i _=>m - (intOf i).toNat)
  case atStart=>exact ⟨0,Nat.zero_le _,rfl,by simp [flatF],Lib.hid (by trivial)⟩
  case round =>
    obtain ⟨k,hk,rfl,rfl,HW⟩:=hrel
    obtain rfl:=HW.out
    by_cases hkl:k < m
    · have hkv:k < vs.length:=by rw [HM.out];exact hkl
      obtain ⟨hc,hf⟩:=HV.out.2 k hkv
      have HFT:=Lib.hid (flatF_take hkv)
      have hle:=HLE.out (k + 1)
      rw [HFT.out,List.length_append] at hle
      obtain ⟨x,hx⟩:∃ x,vs[k]=x:=⟨_,rfl⟩
      rw [hx] at hc hf hle HFT
      obtain ⟨xv,xs⟩:=x
      simp only at hc hf hle HFT
      obtain ⟨a,n,c1,rfl⟩:∃ a n c,xv=.slice a n c:=by obtain ⟨a,c,h,_⟩:=hf;exact ⟨a,_,c,h⟩
      obtain rfl:=hf.news.1
      obtain ⟨s0,hs0⟩:∃ s0,(flatF (vs.take k)).length=s0:=⟨_,rfl⟩
      have HS:=Lib.hid (show (flatF (vs.take (k + 1))).length=s0 + xs.length by rw [HFT.out,List.length_append,hs0])
      rw [hs0] at hle ⊢
      have hsum:(s0:Int) + (xs.length:Int)≤1000000:=by omega
      have hneg:decide ((s0:Int) + (xs.length:Int) < 0)=false:=decide_eq_false (by omega)
      have hk0:(0:Int)≤(k:Int):=by omega
      have hk1:(k:Int) < (m:Int):=by omega
      clear hf hs0 hx
      go_wp2_with fail
      go_roundw
      case rel=>exact ⟨k + 1,by omega,by go_num,by rw [HS.out];go_num,Lib.hid (by trivial)⟩
      case measure=>simp [intOf];omega
    · obtain rfl:k=m:=by omega
      have hd:(flatF (vs.take k)).length=(flatF vs).length:=by rw [List.take_of_length_le (by rw [HM.out];omega)]
      rw [hd]
      have GG:=Lib.hid (G.out (flatF vs).length (by omega))
      clear hd
      go_wp2_with fail
      refine GG.out.mono ?_;rintro e w1 ⟨v1,rfl,hown1,hb1⟩
      have HO1:=Lib.hid hown1
      have HB1:=Lib.hid hb1
      clear hown1 hb1
      go_wp2_with fail
      go_loopw [6,27] (fun u i wr=>∃ k1:Nat,k1≤k∧i=.int .i64 k1∧Hid (OwnFn wr w.heap.size u (flatF (vs.take k1)))∧Hid (Below w.heap.size w wr)) (fun _ i _=>k - (intOf i).toNat)
      case atStart=>exact ⟨0,Nat.zero_le _,rfl,Lib.hid ⟨by simp [flatF],by simpa [flatF,rowFn] using HO1.out⟩,HB1⟩
      case round =>
        obtain ⟨k1,hk,rfl,HO,HB⟩:=hrel
        by_cases hkl:k1 < k
        · have hkv:k1 < vs.length:=by rw [HM.out];exact hkl
          obtain ⟨hc,hf⟩:=(HV.out.below HB.out).2 k1 hkv
          have HFT:=Lib.hid (flatF_take hkv)
          have hle:=HLE.out (k1 + 1)
          rw [HFT.out,List.length_append] at hle
          obtain ⟨x,hx⟩:∃ x,vs[k1]=x:=⟨_,rfl⟩
          rw [hx] at hc hf hle HFT
          obtain ⟨xv,xs⟩:=x
          simp only at hc hf hle HFT
          obtain ⟨a,n,c1,rfl⟩:∃ a n c,xv=.slice a n c:=by obtain ⟨a,c,h,_⟩:=hf;exact ⟨a,_,c,h⟩
          obtain ⟨rfl,hn0,hnl,hnew,hok⟩:=hf.news
          have HNEW:=Lib.hid hnew
          have HNL:=Lib.hid hnl
          have HN0:=Lib.hid hn0
          have HROW1:=Lib.hid (rowFn_one' xs)
          have HOK:=Lib.hid (show ∀ f ∈ flatF (vs.take k1) ++ xs,FnOk f from fun f hf=>by
            rcases List.mem_append.1 hf with hf | hf
            · exact HO.out.1 f hf
            · exact hok f hf)
          have hown:=Lib.hid HO.out.2
          obtain ⟨s0,hs0⟩:∃ s0,(flatF (vs.take k1)).length=s0:=⟨_,rfl⟩
          have HS0:=Lib.hid hs0
          rw [hs0] at hown hle
          have hk0:(0:Int)≤(k1:Int):=by omega
          have hk1:(k1:Int) < (k:Int):=by omega
          have hwr:=HB.out.size
          clear hf hs0 hx hnew hnl hn0 hok
          go_wp2_with (at_builtin;refine wpList_append_opt rfl _ _ 23 rfl w.heap.size 140 i0 (.agg #[.string ⟨#[]⟩,.int .i64 0]) 2 24 Tryz.underlying23 hi hz0 hz1 hz2 rfl (by decide) _ s0 _ rfl hown.out a xs.length c1 (rowFn xs) rfl HN0.out HNL.out (HNEW.out _ (Below.refl _ _)) HROW1.out ?ap3 ?ap4 ?ap5 ?_)
          case ap3=>unfold maxLen;omega
          case ap4=>omega
          case ap5=>exact hwr
          intro v3 w3 hown3 hgrow3 _
          have HB3:=Lib.hid (HB.out.grown hgrow3 hwr (fun g e=>(hown.out.lt g e).1))
          have HO3:=Lib.hid (show OwnFn w3 w.heap.size v3 (flatF (vs.take (k1 + 1))) from ⟨by rw [HFT.out];exact HOK.out,by rw [HFT.out,rowFn_append,List.length_append,HS0.out];exact hown3⟩)
          clear hown3 hgrow3
          go_wp2_with fail
          go_roundw
          case rel=>exact ⟨k1 + 1,by omega,by go_num,HO3,HB3⟩
          case measure=>simp [intOf];omega
        · have HO2:=Lib.hid (show OwnFn wr w.heap.size u6 (flatF vs) from by
            have h:=HO.out
            rwa [List.take_of_length_le (by rw [HM.out];omega)] at h)
          go_wp2_with fail
          go_ret
          exact ⟨_,rfl,HO2.out,HB.out⟩
end Go.Proofs.YtjcleokfpohpdaaGreatDoor
namespace Go.Proofs.YtjcleokfpohpdaaGreatDoor
open Go.RowKit
set_option maxHeartbeats 400000 in
theorem class_any (b:Int) (w:World) :
    Calls Tryz.prog 155 #[.int .u8 b] w fun e w'=>e=.returned (.int .i64 (cls b))∧w=w':=by
  go_enter Tryz.func155,Tryz.ntmps155
  go_wp2
  all_goals go_ret
  all_goals refine ⟨ret_int ?_,rfl⟩
  all_goals (try simp only [beq_iff_eq,beq_eq_false_iff_ne,ne_eq] at *)
  all_goals (unfold cls;repeat (first | rw [if_pos (by omega)] | rw [if_neg (by omega)]))
set_option maxHeartbeats 400000 in
theorem part_any (b:Int) (w:World) :
    Calls Tryz.prog 208 #[.int .u8 b] w fun e w'=>e=.returned (.bool (part b))∧w=w':=by
  have hb:=cls_bd b
  have hp:part b=decide (1≤cls b∧cls b≤3∨b=95):=rfl
  have h95:b=95→cls b=0:=by rintro rfl;decide
  have H:=Lib.hid hp
  have H3:=Lib.hid h95
  clear hp h95
  generalize hc:cls b=c at H H3 hb
  have H2:=Lib.hid hc
  clear hc
  go_enter Tryz.func208,Tryz.ntmps208
  go_wp2_with (go_at_call 155;refine (class_any _ _).mono ?_;rintro e w' ⟨rfl,rfl⟩;rw [H2.out])
  all_goals go_ret
  all_goals refine ⟨ret_bool ?_,rfl⟩
  all_goals rw [H.out]
  all_goals have h95:=H3.out
  all_goals (try simp only [beq_iff_eq,beq_eq_false_iff_ne,bne_iff_ne,bne_eq_false_iff_eq,ne_eq] at *)
  all_goals first | (rw [decide_eq_true (by omega)]) | (rw [decide_eq_false (by omega)])
end Go.Proofs.YtjcleokfpohpdaaGreatDoor
