/-
  Use and Theory in the words of slices; the laws of layer 12 begin with the chapter's example: awake.
  Whether two rows of texts are alike, by the reference of layer 1.
  The primitives' names, by the reference of layer 12: Names.
-/
import Derived.Test.YtjcleokfpohpdaaGreatDoorU34
import Derived.Test.YtjcleokfpohpdaaGreatDoorU44
import Derived.Test.YtjcleokfpohpdaaGreatDoorU33
import Derived.Test.YtjcleokfpohpdaaGreatDoorU02
import Derived.Deep.QuietTactic
import Derived.BigQuiet
import Derived.Test.YtjcleokfpohpdaaGreatDoorU07
import Derived.WalkKit
import Derived.ProofKit
import Derived.Lib.Hide
namespace Go.Proofs.YtjcleokfpohpdaaGreatDoor
open Go.RowKit
def ThyAt (W:World) (a:Option Addr) (n c:Nat) (b:Option Addr) (m d:Nat) (fs:List Fn) (rs:List Rl):Prop:=fs.length=n∧rs.length=m∧Fus W (.slice a n c) fs∧Rls W (.slice b m d) rs
theorem ThyAt.below {W W':World} {a b:Option Addr} {n c m d:Nat} {fs:List Fn} {rs:List Rl} (h:ThyAt W a n c b m d fs rs) (hb:Below W.heap.size W W'):ThyAt W' a n c b m d fs rs:=⟨h.1,h.2.1,h.2.2.1.below hb,h.2.2.2.below hb⟩
theorem thyAt_none (W:World):ThyAt W none 0 0 none 0 0 [] []:=⟨rfl,rfl,Fus.none_ _ _ _,Rls.none_ _ _ _⟩
theorem use_form {fs:List Fn} {rs:List Rl} {s:ByteArray} {w w':World} {e:Ending} (h:UsePost fs rs s w e w') {E:Int} {fs':List Fn} {rs':List Rl} (hu:useS fs rs s=(E,fs',rs')) :
    ∃ a n c b m d,e=.returned (.tuple #[.agg #[.slice a n c,.slice b m d],.int .i64 E])∧ThyAt w' a n c b m d fs' rs'∧Below w.heap.size w w':=by
  obtain ⟨⟨vf,vr,zf,zr⟩,e1,e2,e3,e4,e5⟩:=h
  rw [hu] at e1 e2 e3
  simp only at e1 e2 e3
  subst e2 e3
  have h1:=e4.funs
  have h2:=e4.rules
  simp only at h1 h2
  have k1:=h1
  have k2:=h2
  obtain ⟨a,c,rfl,_,_⟩:=k1
  obtain ⟨b,d,rfl,_,_⟩:=k2
  exact ⟨a,_,c,b,_,d,e1,⟨rfl,rfl,h1,h2⟩,e5⟩
theorem puse_f {W:World} {a b:Option Addr} {n c m d:Nat} {fs:List Fn} {rs:List Rl} {s:ByteArray} {E:Int} {fs':List Fn} {rs':List Rl} (HPW:Pow W) (h:ThyAt W a n c b m d fs rs) (hm:ModY fs rs) (hu:useS fs rs s=(E,fs',rs')) :
    Calls Tryz.prog 42 #[.agg #[.slice a n c,.slice b m d],.string s] W fun e w'=>∃ a n c b m d,e=.returned (.tuple #[.agg #[.slice a n c,.slice b m d],.int .i64 E])∧ThyAt w' a n c b m d fs' rs'∧Below W.heap.size W w':=by
  obtain ⟨rfl,rfl,h1,h2⟩:=h
  exact (puse_any ⟨.slice a fs.length c,.slice b rs.length d,fs,rs⟩ s W HPW ⟨h1,h2⟩ hm).mono fun e w' hh=>use_form hh hu
theorem ruse_f {W:World} {a b:Option Addr} {n c m d:Nat} {fs:List Fn} {rs:List Rl} {s:ByteArray} {E:Int} {fs':List Fn} {rs':List Rl} (h:ThyAt W a n c b m d fs rs) (hm:ModY fs rs) (hu:useS fs rs s=(E,fs',rs')) :
    Calls Tryz.prog 43 #[.agg #[.slice a n c,.slice b m d],.string s] W fun e w'=>∃ a n c b m d,e=.returned (.tuple #[.agg #[.slice a n c,.slice b m d],.int .i64 E])∧ThyAt w' a n c b m d fs' rs'∧Below W.heap.size W w':=by
  obtain ⟨rfl,rfl,h1,h2⟩:=h
  exact (ruse_any ⟨.slice a fs.length c,.slice b rs.length d,fs,rs⟩ s W ⟨h1,h2⟩ hm).mono fun e w' hh=>use_form hh hu
theorem thy_same {W:World} {a b a' b':Option Addr} {n c m d n' c' m' d':Nat} {fs:List Fn} {rs:List Rl} (h:ThyAt W a n c b m d fs rs) (h':ThyAt W a' n' c' b' m' d' fs rs) :
    Calls Tryz.prog 44 #[.agg #[.slice a n c,.slice b m d],.agg #[.slice a' n' c',.slice b' m' d']] W fun e w'=>e=.returned (.bool true)∧Below W.heap.size W w':=by
  obtain ⟨rfl,rfl,h1,h2⟩:=h
  obtain ⟨rfl,rfl,h3,h4⟩:=h'
  exact (rthy_any ⟨.slice a fs.length c,.slice b rs.length d,fs,rs⟩ ⟨.slice a' fs.length c',.slice b' rs.length d',fs,rs⟩ W ⟨h1,h2⟩ ⟨h3,h4⟩).mono fun e w' hh=>⟨by rw [hh.1,eqF_yes rfl,eqRs_true rfl];rfl,hh.2⟩
theorem pair_first:∃ fs rs,useS [] [] nmPair=(0,fs,rs)∧rs.length=2∧useS fs rs nmPair=(0,fs,rs)∧ModY fs rs:=by
  have hp:nmPair ∈ libN:=by unfold libN;simp
  obtain ⟨h1,h2⟩:=rch_nil.use hp
  refine ⟨_,_,h1,?_,h2.again (List.mem_cons_self ..),modY_rch h2⟩
  rw [entR_pair]
  unfold newR rsPair
  simp
set_option maxRecDepth 100000 in
set_option maxHeartbeats 2000000 in
theorem awake12_any (w:World) (HPW:Pow w) :
    Calls Tryz.prog 33 #[] w fun e w'=>e=.returned (.bool true)∧Below w.heap.size w w':=by
  obtain ⟨fs,rs,h1,h2,h3,hm⟩:=pair_first
  have U1:=Lib.hid (puse_f (s:=nmPair) HPW (thyAt_none w) ⟨⟨by simp,by simp⟩,by simp,by simp⟩ h1)
  have U2:=Lib.hid (fun (W:World) (hb:Below w.heap.size w W) (a b:Option Addr) (n c m d:Nat) (h:ThyAt W a n c b m d fs rs)=>puse_f (s:=nmPair) (HPW.below hb) h hm h3)
  have HL:=Lib.hid h2
  clear h1 h2 h3 hm HPW
  go_enter Tryz.func33,Tryz.ntmps33
  go_wp2_with fail
  refine U1.out.mono ?_;rintro e w1 ⟨a,n,c,b,m,d,rfl,ht,hb1⟩
  have hm2:m=2:=by rw [← ht.2.1,HL.out]
  subst hm2
  have hbA:Below w1.heap.size w1 (w1.alloc (.cells #[.slice a n c,.slice b 2 d] 26)):=(Below.refl _ _).alloc (Nat.le_refl _) _
  have hx:=box2_new w1 (.slice a n c) (.slice b 2 d) 26
  have HX:=Lib.hid hx
  obtain ⟨x0,x1,_,_⟩:=hx
  have U:=Lib.hid (U2.out _ (below_next hb1 hbA) _ _ _ _ _ _ (ht.below hbA))
  have HT:=Lib.hid (ht.below hbA)
  have HBA:=Lib.hid (below_next hb1 hbA)
  clear ht hb1 hbA
  go_wp2_with fail
  refine U.out.mono ?_;rintro e w2 ⟨a',n',c',b',m',d',rfl,ht',hb2⟩
  have hbB:Below w2.heap.size w2 (w2.alloc (.cells #[.slice a' n' c',.slice b' m' d'] 26)):=(Below.refl _ _).alloc (Nat.le_refl _) _
  have hx':=box2_new w2 (.slice a' n' c') (.slice b' m' d') 26
  obtain ⟨y0,y1,_,_⟩:=hx'
  obtain ⟨x0,x1,_,_⟩:=HX.out.below (below_next hb2 hbB)
  have T:=Lib.hid (thy_same ((HT.out.below hb2).below hbB) (ht'.below hbB))
  have HBB:=Lib.hid (below_next (below_next HBA.out hb2) hbB)
  clear ht' hb2 hbB
  go_wp2_with fail
  refine T.out.mono ?_;rintro e w3 ⟨rfl,hb3⟩
  have HB3:=Lib.hid (below_next HBB.out hb3)
  clear hb3
  go_wp2_with fail
  go_ret
  exact ⟨rfl,HB3.out⟩
end Go.Proofs.YtjcleokfpohpdaaGreatDoor
namespace Go.Proofs.YtjcleokfpohpdaaGreatDoor
open Go.RowKit
def AlikeTo (zs ys:List ByteArray) (k:Nat):Prop:=∀ j,j < k→zs.getD j ByteArray.empty=ys.getD j ByteArray.empty
theorem AlikeTo.succ {zs ys:List ByteArray} {k:Nat} (h:AlikeTo zs ys k) (hk:zs.getD k ByteArray.empty=ys.getD k ByteArray.empty):AlikeTo zs ys (k + 1):=by
  intro j hj
  by_cases e:j=k
  · rw [e];exact hk
  · exact h j (by omega)
theorem AlikeTo.all {zs ys:List ByteArray} (h:AlikeTo zs ys zs.length) (hl:zs.length=ys.length):decide (zs=ys)=true:=by
  rw [decide_eq_true_eq]
  apply List.ext_getElem hl
  intro j h1 h2
  have:=h j h1
  simpa [List.getD,h1,h2] using this
theorem unlike_at {zs ys:List ByteArray} {k:Nat} (h1:k < zs.length) (h2:k < ys.length) (h:zs[k]≠ys[k]):decide (zs=ys)=false:=by
  rw [decide_eq_false_iff_not];rintro rfl;exact h rfl
theorem unlike_len {zs ys:List ByteArray} (h:zs.length≠ys.length):decide (zs=ys)=false:=by
  rw [decide_eq_false_iff_not];rintro rfl;exact h rfl
set_option maxHeartbeats 400000 in
theorem rtexts_any (v u:Value) (zs ys:List ByteArray) (w:World) (hv:Strs w v zs) (hu:Strs w u ys) :
    Calls Tryz.prog 38 #[v,u] w fun e w'=>e=.returned (.bool (decide (zs=ys)))∧Below w.heap.size w w':=by
  obtain ⟨a,c,rfl,hl,h⟩:=hv
  obtain ⟨a',c',rfl,hl',h'⟩:=hu
  by_cases hlen:zs.length=ys.length
  · have hq:((zs.length:Int) != (ys.length:Int))=false:=by simp [hlen]
    have HL:=Lib.hid hlen
    rcases h with rfl | ⟨b,off,rfl,hlt,hc⟩
    · have:ys=[]:=by simpa using hlen.symm
      subst this
      go_enter Tryz.func38,Tryz.ntmps38
      go_wp2
      refine wp_loop_rounds 1 ?_;rw [rounds_succ]
      go_wp2
      go_ret
      exact ⟨rfl,Below.refl _ _⟩
    · rcases h' with rfl | ⟨b',off',rfl,hlt',hc'⟩
      · have:zs=[]:=by simpa using hlen
        subst this
        go_enter Tryz.func38,Tryz.ntmps38
        go_wp2
        refine wp_loop_rounds 1 ?_;rw [rounds_succ]
        go_wp2
        go_ret
        exact ⟨rfl,Below.refl _ _⟩
      · have HC:=Lib.hid hc
        have HC':=Lib.hid hc'
        clear hc hc' hlen
        go_enter Tryz.func38,Tryz.ntmps38
        go_wp2
        go_loopw [13] (fun i wr=>∃ k:Nat,k≤zs.length∧i=.int .i64 k∧AlikeTo zs ys k∧Below w.heap.size w wr) (fun i _=>zs.length - (intOf i).toNat)
        case atStart=>exact ⟨0,Nat.zero_le _,rfl,(fun j hj=>by omega),Below.refl _ _⟩
        case round =>
          obtain ⟨k,hk,rfl,hal,hb⟩:=hrel
          have HA:=Lib.hid hal
          clear hal
          by_cases hlt1:k < zs.length
          · have hlt2:k < ys.length:=by have:=HL.out;omega
            have hc1:wr.cell? ⟨b,off + k,none⟩=some (.string zs[k]):=by rw [hb.cell (p:=⟨b,off + k,none⟩) hlt,HC.out k hlt1];simp [List.getD,hlt1]
            have hc2:wr.cell? ⟨b',off' + k,none⟩=some (.string ys[k]):=by rw [hb.cell (p:=⟨b',off' + k,none⟩) hlt',HC'.out k hlt2];simp [List.getD,hlt2]
            have hi1:(k:Int) < (zs.length:Int):=by omega
            have hi2:(k:Int) < (ys.length:Int):=by omega
            by_cases he:zs[k]=ys[k]
            · have hq2:(zs[k].toList==ys[k].toList)=true:=by rw [Lib.bytes_beq_iff];exact he
              have HE:=Lib.hid (show zs.getD k ByteArray.empty=ys.getD k ByteArray.empty from by simpa [List.getD,hlt1,hlt2] using he)
              clear he
              go_wp2
              go_quiet (fail)
              go_wp2
              go_roundw
              case rel=>exact ⟨k + 1,by omega,by go_num,HA.out.succ HE.out,below_drewN hb _⟩
              case measure=>simp [intOf];omega
            · have hq2:(zs[k].toList==ys[k].toList)=false:=by rw [Lib.bytes_beq_false_iff];exact he
              have HE:=Lib.hid he
              clear he
              go_wp2
              go_quiet (fail)
              go_wp2
              go_ret
              exact ⟨ret_bool (unlike_at hlt1 hlt2 HE.out).symm,below_drewN hb _⟩
          · obtain rfl:k=zs.length:=by omega
            go_wp2
            go_ret
            exact ⟨ret_bool (HA.out.all HL.out).symm,hb⟩
  · have hq:((zs.length:Int) != (ys.length:Int))=true:=by rw [bne_iff_ne];omega
    have HE:=Lib.hid (unlike_len hlen)
    clear hlen
    go_enter Tryz.func38,Tryz.ntmps38
    go_wp2
    go_ret
    exact ⟨ret_bool HE.out.symm,Below.refl _ _⟩
end Go.Proofs.YtjcleokfpohpdaaGreatDoor
namespace Go.Proofs.YtjcleokfpohpdaaGreatDoor
open Go.RowKit
set_option maxRecDepth 100000 in
theorem rnames12_any (w:World) :
    Calls Tryz.prog 40 #[] w fun e w'=>∃ v,e=.returned v∧Strs w' v libN∧Below w.heap.size w w':=by
  have HS:=Lib.hid (strs_alloc w libN 9 (by decide))
  have HB:=Lib.hid ((Below.refl w.heap.size w).alloc (Nat.le_refl _) (.cells (libN.map Value.string).toArray 9))
  go_enter Tryz.func40,Tryz.ntmps40
  go_wp2_with fail
  go_ret
  exact ⟨_,rfl,HS.out,HB.out⟩
end Go.Proofs.YtjcleokfpohpdaaGreatDoor
