/-
  A box that holds a theory, and is written again.
  LibraryAll: all primitives in one theory.
-/
import Derived.Test.YtjcleokfpohpdaaGreatDoorU45
import Derived.Test.YtjcleokfpohpdaaGreatDoorU02
import Derived.Test.YtjcleokfpohpdaaGreatDoorU29
import Derived.Test.YtjcleokfpohpdaaGreatDoorU11
namespace Go.Proofs.YtjcleokfpohpdaaGreatDoor
open Go.RowKit
def BoxT (W:World) (g:Nat) (a:Option Addr) (n c:Nat) (b:Option Addr) (m d:Nat):Prop:=W.heap[g]? = some (.cells #[.slice a n c,.slice b m d] 26 (0,0))
section
variable {W W':World} {g:Nat} {a b a' b':Option Addr} {n c m d n' c' m' d':Nat}
theorem boxT_new (w:World) (a b:Option Addr) (n c m d:Nat):BoxT (w.alloc (.cells #[.slice a n c,.slice b m d] 26)) w.heap.size a n c b m d:=heap_alloc_new w _
theorem BoxT.lt (h:BoxT W g a n c b m d):g < W.heap.size:=(Array.getElem?_eq_some_iff.1 h).1
theorem BoxT.block (h:BoxT W g a n c b m d) (hk:W'.heap[g]? = W.heap[g]?):BoxT W' g a n c b m d:=hk.trans h
theorem BoxT.below (h:BoxT W g a n c b m d) (hb:Below W.heap.size W W'):BoxT W' g a n c b m d:=h.block (hb.block g h.lt)
theorem BoxT.slB (h:BoxT W g a n c b m d):SlB W g:=slB_two h
theorem BoxT.box2 (h:BoxT W g a n c b m d):Box2 W g (.slice a n c) (.slice b m d):=by
  unfold BoxT at h
  refine ⟨?_,?_,?_,?_⟩
  · rw [cell_of_row W g 0 _ _ (0,0) h];rfl
  · rw [cell_of_row W g 1 _ _ (0,0) h];rfl
  · simp [World.frozen?,h]
  · simp [World.frozen?,h]
theorem BoxT.set (h:BoxT W g a n c b m d):BoxT ((W.setCell ⟨g,0,none⟩ (.slice a' n' c')).setCell ⟨g,1,none⟩ (.slice b' m' d')) g a' n' c' b' m' d':=by
  unfold BoxT at h ⊢
  simp [World.setCell,Array.getElem?_modify,h]
theorem set_other {x y:Value}:∀ k,k≠g→((W.setCell ⟨g,0,none⟩ x).setCell ⟨g,1,none⟩ y).heap[k]? = W.heap[k]? := fun k hk=>by
  rw [Below.heap_setCell _ _ _ _ hk,Below.heap_setCell _ _ _ _ hk]
end
theorem ThyAt.off {w W:World} {g:Nat} {a b:Option Addr} {n c m d:Nat} {fs:List Fn} {rs:List Rl} (h:ThyAt w a n c b m d fs rs) (hg:SlB w g) (hs:w.heap.size≤W.heap.size) (hk:∀ k,k < w.heap.size→k≠g→W.heap[k]? = w.heap[k]?):ThyAt W a n c b m d fs rs :=
  ⟨h.1,h.2.1,h.2.2.1.off hg hs hk,h.2.2.2.off hg hs hk⟩
theorem strs_at {w:World} {v:Value} {zs:List ByteArray} (h:Strs w v zs) {g:Nat} (hg:SlB w g):∃ a c,v=.slice a zs.length c∧∀ j (hj:j < zs.length),∃ b o,a=some ⟨b,o,none⟩∧∀ W:World,w.grownBy W (some g)→W.cell? ⟨b,o + j,none⟩=some (.string zs[j]):=by
  obtain ⟨a,c,rfl,_,h⟩:=h
  refine ⟨a,c,rfl,fun j hj=>?_⟩
  rcases h with h | ⟨b,o,rfl,hlt,hc⟩
  · rw [h] at hj;cases hj
  · have h1:=hc j hj
    rw [show zs.getD j ByteArray.empty=zs[j] by simp [List.getD,List.getElem?_eq_getElem hj]] at h1
    exact ⟨b,o,rfl,fun W hW=>(World.cell?_of_block (hW.block b hlt (fun e=>hg.str h1 (Option.some.inj e)))).trans h1⟩
theorem round_grown {w2 wr w3:World} {g:Nat} {x y:Value} (h:w2.grownBy wr (some g)) (hb:Below wr.heap.size wr w3) (_hg:g < w2.heap.size):w2.grownBy ((w3.setCell ⟨g,0,none⟩ x).setCell ⟨g,1,none⟩ y) (some g) :=
  ⟨hb.os.trans h.os,hb.tape.trans h.tape,hb.output.trans h.output,by have:=h.size;have:=hb.size;simp;omega,fun k hk hne=>by
    have hkg:k≠g:=fun e=>hne (by rw [e])
    rw [set_other k hkg,hb.block k (by have:=h.size;omega)]
    exact h.block k hk hne⟩
theorem grown_below12 {w w2 wr:World} {g:Nat} (hb:Below w.heap.size w w2) (h:w2.grownBy wr (some g)) (hg:w.heap.size≤g):Below w.heap.size w wr:=hb.grown h hb.size (fun k hk=>by injection hk with hk;omega)
set_option maxRecDepth 100000 in
set_option maxHeartbeats 4000000 in
theorem pall_any (w:World) (HPW:Pow w) :
    Calls Tryz.prog 45 #[] w fun e w'=>∃ a n c b m d,e=.returned (.agg #[.slice a n c,.slice b m d])∧ThyAt w' a n c b m d (allT 9).1 (allT 9).2∧Below w.heap.size w w':=by
  have PN:=Lib.hid (fun (W:World)=>pnames12_any W)
  have hb0:Below w.heap.size w ((w.alloc (.cells #[.slice none 0 0,.slice none 0 0] 26)).alloc (.cells #[.slice none 0 0,.slice none 0 0] 26)):=((Below.refl _ _).alloc (Nat.le_refl _) _).alloc (by simp) _
  have hx1:=(boxT_new w none none 0 0 0 0).below ((Below.refl _ _).alloc (Nat.le_refl _) (.cells #[.slice none 0 0,.slice none 0 0] 26))
  have hx2:=boxT_new (w.alloc (.cells #[.slice none 0 0,.slice none 0 0] 26)) none none 0 0 0 0
  rw [show (w.alloc (.cells #[.slice none 0 0,.slice none 0 0] 26)).heap.size=w.heap.size + 1 from by simp] at hx2
  have HPK:=Lib.hid (And.intro hb0 (And.intro hx1 hx2))
  have HPW':=Lib.hid HPW
  clear hb0 hx1 hx2 HPW
  go_enter Tryz.func45,Tryz.ntmps45
  go_wp2_with fail
  obtain ⟨hb0,hx1,hx2⟩:=HPK.out
  obtain ⟨w1,hw1⟩:∃ w1,((w.alloc (.cells #[.slice none 0 0,.slice none 0 0] 26)).alloc (.cells #[.slice none 0 0,.slice none 0 0] 26))=w1:=⟨_,rfl⟩
  rw [hw1] at hb0 hx1 hx2 ⊢
  clear HPK hw1
  refine (PN.out _).mono ?_;rintro e w2 ⟨v,rfl,hv,hb2⟩
  have hx12:=hx1.below hb2
  have hx22:=hx2.below hb2
  obtain ⟨av,cv,rfl,hat⟩:=strs_at hv hx22.slB
  have HAT:=Lib.hid hat
  have HB2:=Lib.hid (below_next hb0 hb2)
  have HX1:=Lib.hid hx12
  have HX2:=Lib.hid hx22
  have hlen9:libN.length=9:=rfl
  rw [hlen9]
  clear hv hat hb0 hx1 hx2 hb2 hx12 hx22 hlen9
  go_wp2_with fail
  go_loopw [6] (fun i wr=>∃ (k:Nat) (a:Option Addr) (n c:Nat) (b:Option Addr) (m d:Nat),i=.int .i64 k∧k≤9∧BoxT wr (w.heap.size + 1) a n c b m d∧ThyAt wr a n c b m d (allT k).1 (allT k).2∧w2.grownBy wr (some (w.heap.size + 1))) (fun i _=>9 - (intOf i).toNat)
  case atStart=>exact ⟨0,none,0,0,none,0,0,rfl,by omega,HX2.out,thyAt_none _,rfl,rfl,rfl,Nat.le_refl _,fun _ _ _=>rfl⟩
  case round =>
    obtain ⟨k,a,n,c,b,m,d,rfl,hk,hbx,ht,hg⟩:=hrel
    by_cases hk1:k < 9
    · have hkc:(k:Int) < 9:=by omega
      have hk0:(0:Int)≤(k:Int):=by omega
      obtain ⟨b',o',rfl,hcell⟩:=HAT.out k hk1
      have hc:=hcell wr hg
      have hnm:libN[k]'hk1=nmAt k:=by unfold nmAt;rw [List.getElem?_eq_getElem (show k < libN.length from hk1)];rfl
      rw [hnm] at hc
      obtain ⟨ns,hrch,_⟩:=allT_rch k
      have hbw:=grown_below12 HB2.out hg (Nat.le_succ _)
      have U:=Lib.hid (puse_f (HPW'.out.below hbw) ht (modY_rch hrch) (allT_use k))
      have HBX:=Lib.hid hbx
      have HG:=Lib.hid hg
      have HL:=Lib.hid (show w.heap.size + 1 < w2.heap.size from HX2.out.lt)
      obtain ⟨p0,p1,_,_⟩:=hbx.box2
      obtain ⟨nm,hnm2⟩:∃ nm,nmAt k=nm:=⟨_,rfl⟩
      rw [hnm2] at hc U
      clear hcell hnm hnm2 hrch hbw hbx ht hg
      go_wp2_with fail
      refine U.out.mono ?_;rintro e w3 ⟨a3,n3,c3,b3,m3,d3,rfl,ht3,hb3⟩
      have hbx3:=HBX.out.below hb3
      obtain ⟨q0,q1,q2,q3⟩:=hbx3.box2
      have HT3:=Lib.hid (ht3.off (W:=(w3.setCell ⟨w.heap.size + 1,0,none⟩ (.slice a3 n3 c3)).setCell ⟨w.heap.size + 1,1,none⟩ (.slice b3 m3 d3)) hbx3.slB (by simp) (fun k _ hk=>set_other k hk))
      have HBX3:=Lib.hid (hbx3.set (a':=a3) (n':=n3) (c':=c3) (b':=b3) (m':=m3) (d':=d3))
      have HG3:=Lib.hid (round_grown (x:=.slice a3 n3 c3) (y:=.slice b3 m3 d3) HG.out hb3 HL.out)
      clear ht3 hb3 hbx3 p0 p1
      go_wp2_with fail
      go_roundw
      case rel=>exact ⟨k + 1,a3,n3,c3,b3,m3,d3,by go_num,by omega,HBX3.out,HT3.out,HG3.out⟩
      case measure=>simp [intOf];omega
    · obtain rfl:k=9:=by omega
      obtain ⟨p0,p1,_,_⟩:=hbx.box2
      have hl2:=HX2.out.lt
      have hx1r:=HX1.out.block (W':=wr) (hg.block w.heap.size (by omega) (fun e=>by injection e with e;omega))
      obtain ⟨q0,q1,q2,q3⟩:=hx1r.box2
      have hbw:=grown_below12 HB2.out hg (Nat.le_succ _)
      have HT:=Lib.hid (ht.off (W:=(wr.setCell ⟨w.heap.size,0,none⟩ (.slice a n c)).setCell ⟨w.heap.size,1,none⟩ (.slice b m d)) hx1r.slB (by simp) (fun k _ hk=>set_other k hk))
      have HBW:=Lib.hid ((hbw.setCell (p:=⟨w.heap.size,0,none⟩) (Nat.le_refl _) (.slice a n c)).setCell (p:=⟨w.heap.size,1,none⟩) (Nat.le_refl _) (.slice b m d))
      clear ht hg hbx hx1r hbw
      go_wp2_with fail
      refine bodyPost_ret (v:=.agg #[.slice a n c,.slice b m d]) (by simp [results,Tryz.results45,go_sem,q0,q1]) rfl ?_
      exact ⟨a,n,c,b,m,d,rfl,HT.out,HBW.out⟩
end Go.Proofs.YtjcleokfpohpdaaGreatDoor
namespace Go.Proofs.YtjcleokfpohpdaaGreatDoor
open Go.RowKit
theorem contains_ent12 (s:ByteArray):Lib.containsS libN s=isEnt s:=by
  rw [Bool.eq_iff_iff,Lib.containsS_iff,isEnt_iff]
theorem sum_rules:∀ k,k≤9→(allT k).2.length=sumR k
  | 0,_=>rfl
  | k + 1,hk=>by
    have ih:=sum_rules k (by omega)
    obtain ⟨ns,hr,hns⟩:=allT_rch k
    rw [sumR,← ih]
    show (newR (allT k).2 (entR (nmAt k))).length=_
    unfold newR
    rw [List.length_append]
    congr 2
    rw [List.filter_eq_self]
    intro q hq
    rw [Bool.not_eq_true',← Bool.not_eq_true,List.any_eq_true]
    rintro ⟨x,hx,hxs⟩
    obtain ⟨s,hs,hxe⟩:=(hr.rules x).1 hx
    obtain ⟨j,hj,rfl⟩:=(hns s).1 hs
    have hxa:=(ent_sub _ (libN_at j)).2 x hxe
    have hqa:=(ent_sub _ (libN_at k)).2 q hq
    rw [rls_same hxa hqa] at hxs
    subst hxs
    have key:∀ j k,j < k→k < 9→∀ x ∈ entR (nmAt j),x ∉ entR (nmAt k):=by
      intro j k hj hk x h1 h2
      have hd:(List.range 9).all (fun k=>(List.range k).all fun j=>(entR (nmAt j)).all fun x=>(entR (nmAt k)).all fun q => !(x.1.name.toList==q.1.name.toList))=true:=by kernel_rfl
      have a:=List.all_eq_true.1 hd k (List.mem_range.2 hk)
      have b:=List.all_eq_true.1 a j (List.mem_range.2 hj)
      have c:=List.all_eq_true.1 (List.all_eq_true.1 b x h1) x h2
      rw [beq_self_eq_true] at c;cases c
    exact key j k hj (by omega) x hxe hq
set_option maxRecDepth 100000 in
theorem prules_any (w:World) (HPW:Pow w) :
    Calls Tryz.prog 46 #[] w fun e w'=>e=.returned (.int .i64 ((allT 9).2.length:Int))∧Below w.heap.size w w':=by
  have PA:=Lib.hid (pall_any w HPW)
  clear HPW
  have HFR:=fun (f r:Value) (w:World)=>field_rules f r w
  go_enter Tryz.func46,Tryz.ntmps46
  go_wp2_with fail
  refine PA.out.mono ?_;rintro e w1 ⟨a,n,c,b,m,d,rfl,ht,hb⟩
  have HM:=Lib.hid (And.intro ht.2.1 hb)
  clear ht hb
  go_wp2_with fail
  go_ret
  exact ⟨by rw [HM.out.1];rfl,HM.out.2⟩
end Go.Proofs.YtjcleokfpohpdaaGreatDoor
