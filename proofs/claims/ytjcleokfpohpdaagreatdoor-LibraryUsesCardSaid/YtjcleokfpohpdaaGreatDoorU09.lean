/-
  Primitives used one behind the other: what a theory has then. No function of the program.
  A row of functions and a row of rules that grow beside each other. No function of the program.
  The region 'x.f = append(x.f, call(r))': its operations in whatever order; any program, any types, any slots. No function of the program. (printed by tools/genapp.py)
  One function more, one rule more: an append to a row of the call's own.
-/
import Derived.Test.YtjcleokfpohpdaaGreatDoorU08
import Derived.Test.YtjcleokfpohpdaaGreatDoorU03
import Derived.Test.YtjcleokfpohpdaaGreatDoorU07
import Derived.Test.YtjcleokfpohpdaaGreatDoorU06
import Derived.Test.YtjcleokfpohpdaaGreatDoorU01
import Derived.Deep.RegionHeld3
import Derived.Laws.AppendOwn
namespace Go.Proofs.YtjcleokfpohpdaaGreatDoor
open Go.RowKit
def allFns:List Fn:=fsPair ++ (fsSenc ++ (fsRenc ++ (fsAenc ++ (fsRaenc ++ (fsSign ++ (fsHash ++ (fsBlind ++ fsWrap)))))))
def allRls:List Rl:=rsPair ++ (rsSenc ++ (rsRenc ++ (rsAenc ++ (rsRaenc ++ (rsSign ++ (rsHash ++ (rsBlind ++ rsWrap)))))))
theorem tx_pair:libT nmPair=txPair:=by kernel_rfl
theorem tx_senc:libT nmSenc=txSenc:=by kernel_rfl
theorem tx_renc:libT nmRenc=txRenc:=by kernel_rfl
theorem tx_aenc:libT nmAenc=txAenc:=by kernel_rfl
theorem tx_raenc:libT nmRaenc=txRaenc:=by kernel_rfl
theorem tx_sign:libT nmSign=txSign:=by kernel_rfl
theorem tx_hash:libT nmHash=txHash:=by kernel_rfl
theorem tx_blind:libT nmBlind=txBlind:=by kernel_rfl
theorem tx_wrap:libT nmWrap=txWrap:=by kernel_rfl
theorem entF_pair:entF nmPair=fsPair:=by unfold entF;rw [tx_pair];exact fsPair_is.2.1
theorem entF_senc:entF nmSenc=fsSenc:=by unfold entF;rw [tx_senc];exact fsSenc_is.2.1
theorem entF_renc:entF nmRenc=fsRenc:=by unfold entF;rw [tx_renc];exact fsRenc_is.2.1
theorem entF_aenc:entF nmAenc=fsAenc:=by unfold entF;rw [tx_aenc];exact fsAenc_is.2.1
theorem entF_raenc:entF nmRaenc=fsRaenc:=by unfold entF;rw [tx_raenc];exact fsRaenc_is.2.1
theorem entF_sign:entF nmSign=fsSign:=by unfold entF;rw [tx_sign];exact fsSign_is.2.1
theorem entF_hash:entF nmHash=fsHash:=by unfold entF;rw [tx_hash];exact fsHash_is.2.1
theorem entF_blind:entF nmBlind=fsBlind:=by unfold entF;rw [tx_blind];exact fsBlind_is.2.1
theorem entF_wrap:entF nmWrap=fsWrap:=by unfold entF;rw [tx_wrap];exact fsWrap_is.2.1
theorem entR_pair:entR nmPair=rsPair:=by unfold entR;rw [tx_pair];exact fsPair_is.2.2
theorem entR_senc:entR nmSenc=rsSenc:=by unfold entR;rw [tx_senc];exact fsSenc_is.2.2
theorem entR_renc:entR nmRenc=rsRenc:=by unfold entR;rw [tx_renc];exact fsRenc_is.2.2
theorem entR_aenc:entR nmAenc=rsAenc:=by unfold entR;rw [tx_aenc];exact fsAenc_is.2.2
theorem entR_raenc:entR nmRaenc=rsRaenc:=by unfold entR;rw [tx_raenc];exact fsRaenc_is.2.2
theorem entR_sign:entR nmSign=rsSign:=by unfold entR;rw [tx_sign];exact fsSign_is.2.2
theorem entR_hash:entR nmHash=rsHash:=by unfold entR;rw [tx_hash];exact fsHash_is.2.2
theorem entR_blind:entR nmBlind=rsBlind:=by unfold entR;rw [tx_blind];exact fsBlind_is.2.2
theorem entR_wrap:entR nmWrap=rsWrap:=by unfold entR;rw [tx_wrap];exact fsWrap_is.2.2
theorem lib_each {P:ByteArray→Prop} (h1:P nmPair) (h2:P nmSenc) (h3:P nmRenc) (h4:P nmAenc) (h5:P nmRaenc) (h6:P nmSign) (h7:P nmHash) (h8:P nmBlind) (h9:P nmWrap) (s:ByteArray) (hs:s ∈ libN):P s:=by
  unfold libN at hs
  simp only [List.mem_cons,List.not_mem_nil,or_false] at hs
  rcases hs with rfl | rfl | rfl | rfl | rfl | rfl | rfl | rfl | rfl<;>assumption
def eachOk (P:List Fn→List Rl→Bool):Bool:=P fsPair rsPair&&P fsSenc rsSenc&&P fsRenc rsRenc&&P fsAenc rsAenc&&P fsRaenc rsRaenc&&P fsSign rsSign&&P fsHash rsHash&&P fsBlind rsBlind&&P fsWrap rsWrap
theorem each_of {P:List Fn→List Rl→Bool} (h:eachOk P=true) (s:ByteArray) (hs:s ∈ libN):P (entF s) (entR s)=true:=by
  unfold eachOk at h
  simp only [Bool.and_eq_true] at h
  obtain ⟨⟨⟨⟨⟨⟨⟨⟨h1,h2⟩,h3⟩,h4⟩,h5⟩,h6⟩,h7⟩,h8⟩,h9⟩:=h
  refine lib_each (P:=fun s=>P (entF s) (entR s)=true) ?_ ?_ ?_ ?_ ?_ ?_ ?_ ?_ ?_ s hs
  · rw [entF_pair,entR_pair];exact h1
  · rw [entF_senc,entR_senc];exact h2
  · rw [entF_renc,entR_renc];exact h3
  · rw [entF_aenc,entR_aenc];exact h4
  · rw [entF_raenc,entR_raenc];exact h5
  · rw [entF_sign,entR_sign];exact h6
  · rw [entF_hash,entR_hash];exact h7
  · rw [entF_blind,entR_blind];exact h8
  · rw [entF_wrap,entR_wrap];exact h9
def eqFn (f g:Fn):Bool:=(f.1.toList==g.1.toList)&&(f.2==g.2)
theorem eqFn_iff {f g:Fn}:eqFn f g=true ↔ f=g:=by
  obtain ⟨a,b⟩:=f
  obtain ⟨c,d⟩:=g
  unfold eqFn
  rw [Bool.and_eq_true,toList_iff]
  simp
def onceF:List Fn→Bool
  | []=>true
  | f :: r=>r.all (fun g => !(eqFn f g))&&onceF r
theorem onceF_nodup:∀ {l:List Fn},onceF l=true→l.Nodup
  | [],_=>List.nodup_nil
  | f :: r,h=>by
    rw [onceF,Bool.and_eq_true,List.all_eq_true] at h
    refine List.nodup_cons.2 ⟨fun hm=>?_,onceF_nodup h.2⟩
    have:=h.1 f hm
    rw [eqFn_iff.2 rfl] at this;cases this
def onceR:List Rl→Bool
  | []=>true
  | r :: l=>l.all (fun q => !(r.1.name.toList==q.1.name.toList))&&onceR l
theorem onceR_apart:∀ {l:List Rl},onceR l=true→∀ r ∈ l,∀ q ∈ l,r.1.name=q.1.name→r=q
  | [],_,r,hr=>by cases hr
  | x :: l,h,r,hr=>by
    rw [onceR,Bool.and_eq_true,List.all_eq_true] at h
    intro q hq e
    rcases List.mem_cons.1 hr with hr1 | hr1
    · rcases List.mem_cons.1 hq with hq1 | hq1
      · rw [hr1,hq1]
      · have:=h.1 q hq1
        rw [← hr1,toList_iff.2 e] at this;cases this
    · rcases List.mem_cons.1 hq with hq1 | hq1
      · have:=h.1 r hr1
        rw [← hq1,toList_iff.2 e.symm] at this;cases this
      · exact onceR_apart h.2 r hr1 q hq1 e
theorem onceR_nodup:∀ {l:List Rl},onceR l=true→l.Nodup
  | [],_=>List.nodup_nil
  | x :: l,h=>by
    rw [onceR,Bool.and_eq_true,List.all_eq_true] at h
    refine List.nodup_cons.2 ⟨fun hm=>?_,onceR_nodup h.2⟩
    have:=h.1 x hm
    rw [toList_iff.2 rfl] at this;cases this
theorem names_apart:(allFns.all fun f=>allFns.all fun g => !(f.1.toList==g.1.toList)||(f.2==g.2))=true:=by kernel_rfl
theorem fns_apart {f g:Fn} (hf:f ∈ allFns) (hg:g ∈ allFns) (h:f.1=g.1):f=g:=by
  have:=List.all_eq_true.1 (List.all_eq_true.1 names_apart f hf) g hg
  rw [toList_iff.2 h] at this
  exact Prod.ext h (by simpa using this)
theorem fns_arg:(allFns.all argOk)=true:=by kernel_rfl
theorem rls_once:onceR allRls=true:=by kernel_rfl
theorem rls_kind:(allRls.all fun r=>r.1.kind==5)=true:=by kernel_rfl
theorem ent_sub (s:ByteArray) (hs:s ∈ libN):(∀ f ∈ entF s,f ∈ allFns)∧∀ r ∈ entR s,r ∈ allRls:=by
  refine lib_each (P:=fun s=>(∀ f ∈ entF s,f ∈ allFns)∧∀ r ∈ entR s,r ∈ allRls) ?_ ?_ ?_ ?_ ?_ ?_ ?_ ?_ ?_ s hs
  · rw [entF_pair,entR_pair];unfold allFns allRls;simp +contextual only [List.mem_append,true_or,implies_true,and_self]
  · rw [entF_senc,entR_senc];unfold allFns allRls;simp +contextual only [List.mem_append,or_true,true_or,implies_true,and_self]
  · rw [entF_renc,entR_renc];unfold allFns allRls;simp +contextual only [List.mem_append,or_true,true_or,implies_true,and_self]
  · rw [entF_aenc,entR_aenc];unfold allFns allRls;simp +contextual only [List.mem_append,or_true,true_or,implies_true,and_self]
  · rw [entF_raenc,entR_raenc];unfold allFns allRls;simp +contextual only [List.mem_append,or_true,true_or,implies_true,and_self]
  · rw [entF_sign,entR_sign];unfold allFns allRls;simp +contextual only [List.mem_append,or_true,true_or,implies_true,and_self]
  · rw [entF_hash,entR_hash];unfold allFns allRls;simp +contextual only [List.mem_append,or_true,true_or,implies_true,and_self]
  · rw [entF_blind,entR_blind];unfold allFns allRls;simp +contextual only [List.mem_append,or_true,true_or,implies_true,and_self]
  · rw [entF_wrap,entR_wrap];unfold allFns allRls;simp +contextual only [List.mem_append,or_true,implies_true,and_self]
theorem ent_once (s:ByteArray) (hs:s ∈ libN):(entF s).Nodup∧(entR s).Nodup:=by
  have h:=each_of (P:=fun a b=>onceF a&&onceR b) (by kernel_rfl) s hs
  rw [Bool.and_eq_true] at h
  exact ⟨onceF_nodup h.1,onceR_nodup h.2⟩
def asksF (fs:List Fn) (l:List Tm):Bool:=l.all fun x => !(x.kind==5)||fs.any fun f=>eqFn f (x.name,x.args.length)
theorem ent_fit (s:ByteArray) (hs:s ∈ libN):∀ r ∈ entR s,asksF (entF s) r.1.all=true∧asksF (entF s) r.2.all=true:=by
  have h:=each_of (P:=fun a b=>b.all fun r=>asksF a r.1.all&&asksF a r.2.all) (by kernel_rfl) s hs
  intro r hr
  have:=List.all_eq_true.1 h r hr
  rwa [Bool.and_eq_true] at this
theorem isEnt_iff {s:ByteArray}:isEnt s=true ↔ s ∈ libN:=by
  constructor
  · intro h
    unfold isEnt libT at h
    repeat' split at h
    all_goals (try (next hh=>rw [toList_iff] at hh;rw [hh];unfold libN;simp;done))
    rw [show (!(⟨#[]⟩:ByteArray).toList.isEmpty)=false from by kernel_rfl] at h
    cases h
  · intro h
    refine lib_each (P:=fun s=>isEnt s=true) ?_ ?_ ?_ ?_ ?_ ?_ ?_ ?_ ?_ s h
    all_goals kernel_rfl
theorem nodup_le {α:Type}:∀ {l m:List α},l.Nodup→(∀ x ∈ l,x ∈ m)→l.length≤m.length
  | [],m,_,_=>Nat.zero_le _
  | x :: r,m,hn,hs=>by
    classical
    obtain ⟨h1,h2⟩:=List.nodup_cons.1 hn
    have hx:=hs x (List.mem_cons_self ..)
    have:=nodup_le (m:=m.erase x) h2 fun y hy=>(List.mem_erase_of_ne (fun e=>h1 (by rw [← e];exact hy))).2 (hs y (List.mem_cons_of_mem _ hy))
    have he:=List.length_erase_of_mem hx
    have hp:0 < m.length:=List.length_pos_of_mem hx
    rw [List.length_cons];omega
theorem fns_few {fs:List Fn} (hn:fs.Nodup) (hs:∀ f ∈ fs,f ∈ allFns):fs.length≤28:=nodup_le hn hs
theorem rls_few {rs:List Rl} (hn:rs.Nodup) (hs:∀ r ∈ rs,r ∈ allRls):rs.length≤12:=nodup_le hn hs
theorem eqTs_iff {ts us:List Tm}:eqTs ts us=true ↔ ts=us:=@decide_eq_true_iff _ (Classical.propDecidable _)
theorem rls_same {x q:Rl} (hx:x ∈ allRls) (hq:q ∈ allRls):sameUp x q=true ↔ x=q:=by
  constructor
  · intro h
    have he:canonT [x.1,x.2]=canonT [q.1,q.2]:=by
      unfold sameUp at h
      exact eqTs_iff.1 h
    unfold canonT at he
    have h1:=(List.cons.inj he).1
    have kx:x.1.kind=5:=by simpa using List.all_eq_true.1 rls_kind x hx
    have kq:q.1.kind=5:=by simpa using List.all_eq_true.1 rls_kind q hq
    rw [appT_eq,appT_eq _ q.1,if_neg (by rw [kx];decide),if_neg (by rw [kq];decide)] at h1
    refine onceR_apart rls_once x hx q hq ?_
    have:=congrArg Tm.name h1
    simpa [Tm.name] using this
  · rintro rfl
    unfold sameUp
    exact eqTs_iff.2 rfl
structure Rch (ns:List ByteArray) (fs:List Fn) (rs:List Rl):Prop where
  lib:∀ s ∈ ns,s ∈ libN
  funs:∀ f,f ∈ fs ↔ ∃ s ∈ ns,f ∈ entF s
  rules:∀ r,r ∈ rs ↔ ∃ s ∈ ns,r ∈ entR s
  onceF:fs.Nodup
  onceR:rs.Nodup
theorem rch_nil:Rch [] [] []:=⟨fun s h=>(by cases h),fun f=>by simp,fun r=>by simp,List.nodup_nil,List.nodup_nil⟩
section
variable {ns:List ByteArray} {fs:List Fn} {rs:List Rl}
theorem Rch.subF (h:Rch ns fs rs):∀ f ∈ fs,f ∈ allFns:=fun f hf=>by
  obtain ⟨s,hs,hfs⟩:=(h.funs f).1 hf
  exact (ent_sub s (h.lib s hs)).1 f hfs
theorem Rch.subR (h:Rch ns fs rs):∀ r ∈ rs,r ∈ allRls:=fun r hr=>by
  obtain ⟨s,hs,hrs⟩:=(h.rules r).1 hr
  exact (ent_sub s (h.lib s hs)).2 r hrs
end
theorem arF_new {os:List Fn} {f:Fn} (hs:∀ g ∈ os,g ∈ allFns) (hf:f ∈ allFns) (hn:f ∉ os):arF os f.1=none:=by
  cases h:arF os f.1 with
  | none=>rfl
  | some n =>
    have hm:=arF_mem h
    have:=fns_apart (hs _ hm) hf rfl
    rw [← this] at hn
    exact absurd hm hn
theorem add_lib {os:List Fn} {f:Fn} (ho:os.Nodup) (hs:∀ g ∈ os,g ∈ allFns) (hf:f ∈ allFns) (hn:f ∉ os):addE os f=0 :=
  addE_zero.2 ⟨List.all_eq_true.1 fns_arg f hf,arF_new hs hf hn,by have:=fns_few ho hs;omega⟩
theorem join_lib (fs:List Fn):∀ (bs os:List Fn),os.Nodup→(∀ g ∈ os,g ∈ allFns)→bs.Nodup→(∀ g ∈ bs,g ∈ allFns)→(∀ g ∈ bs,g ∉ fs→g ∉ os)→(joinR fs os bs).1=0∧(joinR fs os bs).2.Nodup
  | [],os,ho,_,_,_,_=>by rw [joinR];exact ⟨rfl,ho⟩
  | b :: r,os,ho,hs,hb,hbs,hx=>by
    obtain ⟨hb1,hb2⟩:=List.nodup_cons.1 hb
    rw [joinR]
    by_cases hh:hasFn fs b=true
    · rw [if_pos hh]
      exact join_lib fs r os ho hs hb2 (fun g hg=>hbs g (List.mem_cons_of_mem _ hg)) (fun g hg=>hx g (List.mem_cons_of_mem _ hg))
    · rw [if_neg hh]
      have hnf:b ∉ fs:=fun e=>hh (hasFn_iff.2 e)
      have hno:=hx b (List.mem_cons_self ..) hnf
      have hba:=hbs b (List.mem_cons_self ..)
      rw [if_pos (add_lib ho hs hba hno)]
      refine join_lib fs r _ (List.nodup_append.2 ⟨ho,by simp,fun a ha c hc=>?_⟩) (fun g hg=>?_) hb2 (fun g hg=>hbs g (List.mem_cons_of_mem _ hg)) (fun g hg hgf hgo=>?_)
      · rw [List.mem_singleton] at hc;rintro rfl;subst hc;exact hno ha
      · rcases List.mem_append.1 hg with hg | hg
        · exact hs g hg
        · rw [List.mem_singleton.1 hg];exact hba
      · rcases List.mem_append.1 hgo with hgo | hgo
        · exact hx g (List.mem_cons_of_mem _ hg) hgf hgo
        · rw [List.mem_singleton] at hgo;subst hgo;exact hb1 hg
theorem newR_mem {rs qs:List Rl} (h1:∀ r ∈ rs,r ∈ allRls) (h2:∀ r ∈ qs,r ∈ allRls) (r:Rl):r ∈ newR rs qs ↔ r ∈ rs∨r ∈ qs:=by
  unfold newR
  rw [List.mem_append,List.mem_filter]
  constructor
  · rintro (h | ⟨h,_⟩)
    · exact .inl h
    · exact .inr h
  · rintro (h | h)
    · exact .inl h
    · by_cases hr:r ∈ rs
      · exact .inl hr
      · refine .inr ⟨h,?_⟩
        rw [Bool.not_eq_true',← Bool.not_eq_true,List.any_eq_true]
        rintro ⟨x,hx,hxs⟩
        rw [rls_same (h1 x hx) (h2 r h)] at hxs
        subst hxs;exact hr hx
theorem newR_once {rs qs:List Rl} (h1:∀ r ∈ rs,r ∈ allRls) (h2:∀ r ∈ qs,r ∈ allRls) (n1:rs.Nodup) (n2:qs.Nodup):(newR rs qs).Nodup:=by
  unfold newR
  refine List.nodup_append.2 ⟨n1,n2.sublist (List.filter_sublist ..),fun a ha b hb=>?_⟩
  rintro rfl
  obtain ⟨hb1,hb2⟩:=List.mem_filter.1 hb
  rw [Bool.not_eq_true',← Bool.not_eq_true,List.any_eq_true] at hb2
  exact hb2 ⟨a,ha,(rls_same (h1 a ha) (h2 a hb1)).2 rfl⟩
section
variable {ns:List ByteArray} {fs:List Fn} {rs:List Rl}
theorem Rch.use (h:Rch ns fs rs) {s:ByteArray} (hs:s ∈ libN):useS fs rs s=(0,joinL fs (entF s),newR rs (entR s))∧Rch (s :: ns) (joinL fs (entF s)) (newR rs (entR s)):=by
  obtain ⟨e1,e2⟩:=ent_sub s hs
  obtain ⟨o1,o2⟩:=ent_once s hs
  obtain ⟨j1,j2⟩:=join_lib fs (entF s) fs h.onceF h.subF o1 e1 (fun g _ hg=>hg)
  have hm:=newR_mem h.subR e2
  have hn:=newR_once h.subR e2 h.onceR o2
  have hle:=rls_few hn fun r hr=>by
    rcases (hm r).1 hr with hr | hr
    · exact h.subR r hr
    · exact e2 r hr
  refine ⟨?_,⟨fun x hx=>?_,fun f=>?_,fun r=>?_,j2,hn⟩⟩
  · unfold useS
    rw [if_neg (by rw [isEnt_iff.2 hs];decide),if_neg (fun q=>q j1),if_neg (by omega)]
  · rcases List.mem_cons.1 hx with rfl | hx
    · exact hs
    · exact h.lib x hx
  · constructor
    · intro hf
      rcases join_mem fs (entF s) fs f hf with hf | hf
      · obtain ⟨x,hx,hfx⟩:=(h.funs f).1 hf
        exact ⟨x,List.mem_cons_of_mem _ hx,hfx⟩
      · exact ⟨s,List.mem_cons_self ..,hf⟩
    · rintro ⟨x,hx,hfx⟩
      rcases List.mem_cons.1 hx with rfl | hx
      · exact join_all fs _ fs (fun f hf=>hf) j1 f hfx
      · exact join_keep fs _ fs j1 f ((h.funs f).2 ⟨x,hx,hfx⟩)
  · rw [hm]
    constructor
    · rintro (hr | hr)
      · obtain ⟨x,hx,hrx⟩:=(h.rules r).1 hr
        exact ⟨x,List.mem_cons_of_mem _ hx,hrx⟩
      · exact ⟨s,List.mem_cons_self ..,hr⟩
    · rintro ⟨x,hx,hrx⟩
      rcases List.mem_cons.1 hx with rfl | hx
      · exact .inr hrx
      · exact .inl ((h.rules r).2 ⟨x,hx,hrx⟩)
theorem Rch.again (h:Rch ns fs rs) {s:ByteArray} (hs:s ∈ ns):useS fs rs s=(0,fs,rs):=by
  obtain ⟨hu,_⟩:=h.use (h.lib s hs)
  have hj:=join_same fs (entF s) fs fun f hf=>(h.funs f).2 ⟨s,hs,hf⟩
  rw [hu]
  have hq:newR rs (entR s)=rs:=by
    unfold newR
    have:((entR s).filter fun q => !(rs.any fun x=>sameUp x q))=[]:=by
      rw [List.filter_eq_nil_iff]
      intro q hq
      have hqr:=(h.rules q).2 ⟨s,hs,hq⟩
      rw [Bool.not_eq_true',Bool.not_eq_false,List.any_eq_true]
      exact ⟨q,hqr,(rls_same (h.subR q hqr) (h.subR q hqr)).2 rfl⟩
    rw [this,List.append_nil]
  rw [hq]
  unfold joinL
  rw [hj]
theorem Rch.fits (h:Rch ns fs rs) {r:Rl} (hr:r ∈ rs):(fitsF fs r.1).1=0∧(fitsF fs r.2).1=0:=by
  obtain ⟨s,hs,hrs⟩:=(h.rules r).1 hr
  obtain ⟨f1,f2⟩:=ent_fit s (h.lib s hs) r hrs
  have key:∀ l:List Tm,asksF (entF s) l=true→∀ x ∈ l,x.kind=5→arF fs x.name=some (x.args.length:Int):=fun l hl x hx hk=>by
    have:=List.all_eq_true.1 hl x hx
    rw [hk] at this
    rw [show (!((5:Int)==5))=false from rfl,Bool.false_or] at this
    obtain ⟨f,hf,he⟩:=List.any_eq_true.1 this
    rw [eqFn_iff] at he
    have hm:(x.name,(x.args.length:Int)) ∈ fs:=by rw [← he];exact (h.funs f).2 ⟨s,hs,hf⟩
    obtain ⟨m,hm2⟩:=arF_is hm
    have:=fns_apart (h.subF _ (arF_mem hm2)) (h.subF _ hm) rfl
    rw [hm2,(Prod.mk.inj this).2]
  exact ⟨fitsF_ok.2 (key _ f1),fitsF_ok.2 (key _ f2)⟩
end
def nmAt (k:Nat):ByteArray:=(libN[k]?).getD nmPair
noncomputable def allT:Nat→List Fn × List Rl
  | 0=>([],[])
  | k + 1=>((joinL (allT k).1 (entF (nmAt k))),newR (allT k).2 (entR (nmAt k)))
theorem libN_at (k:Nat):nmAt k ∈ libN:=by
  unfold nmAt
  rcases Nat.lt_or_ge k libN.length with h | h
  · rw [List.getElem?_eq_getElem h];exact List.getElem_mem h
  · rw [List.getElem?_eq_none h];unfold libN;simp
theorem allT_rch:∀ k,∃ ns,Rch ns (allT k).1 (allT k).2∧∀ s,s ∈ ns ↔ ∃ j,j < k∧s=nmAt j
  | 0=>⟨[],rch_nil,fun s=>by simp⟩
  | k + 1=>by
    obtain ⟨ns,h,hn⟩:=allT_rch k
    refine ⟨nmAt k :: ns,(h.use (libN_at k)).2,fun s=>?_⟩
    rw [List.mem_cons,hn]
    constructor
    · rintro (rfl | ⟨j,hj,rfl⟩)
      · exact ⟨k,by omega,rfl⟩
      · exact ⟨j,by omega,rfl⟩
    · rintro ⟨j,hj,rfl⟩
      by_cases e:j=k
      · left;rw [e]
      · exact .inr ⟨j,by omega,rfl⟩
theorem allT_use (k:Nat):useS (allT k).1 (allT k).2 (nmAt k)=(0,(allT (k + 1)).1,(allT (k + 1)).2):=by
  obtain ⟨ns,h,_⟩:=allT_rch k
  exact (h.use (libN_at k)).1
def sumR:Nat→Nat
  | 0=>0
  | k + 1=>sumR k + (entR (nmAt k)).length
end Go.Proofs.YtjcleokfpohpdaaGreatDoor
namespace Go.Proofs.YtjcleokfpohpdaaGreatDoor
open Go.RowKit
def LiveQ (w0 W:World) (P:Nat→Prop) (base:Nat) (y:Qv):Prop:=∃ lo hi,base≤lo∧lo≤hi∧hi≤W.heap.size∧(∀ k,P k→k < lo∨hi≤k) ∧
  ∀ W',Reads w0 W'→hi≤W'.heap.size→(∀ k,lo≤k→k < hi→W'.heap[k]? = W.heap[k]?)→y.ok W'
theorem LiveQ.ok {w0 W:World} {P:Nat→Prop} {base:Nat} {y:Qv} (h:LiveQ w0 W P base y) (hr:Reads w0 W):y.ok W:=by
  obtain ⟨lo,hi,_,_,h3,_,h5⟩:=h
  exact h5 W hr h3 fun _ _ _=>rfl
theorem LiveQ.keep {w0 W W':World} {P P':Nat→Prop} {base:Nat} {y:Qv} (h:LiveQ w0 W P base y) (hs:W.heap.size≤W'.heap.size) (hk:∀ k,k < W.heap.size→¬ P k→W'.heap[k]? = W.heap[k]?) (hP:∀ k,P' k→P k∨W.heap.size≤k):LiveQ w0 W' P' base y:=by
  obtain ⟨lo,hi,h1,h2,h3,h4,h5⟩:=h
  refine ⟨lo,hi,h1,h2,Nat.le_trans h3 hs,fun k e=>?_,fun W2 g0 g1 g2=>h5 W2 g0 g1 fun k k1 k2=>?_⟩
  · rcases hP k e with e | e
    · exact h4 k e
    · exact .inr (Nat.le_trans h3 e)
  · rw [g2 k k1 k2]
    refine hk k (Nat.lt_of_lt_of_le k2 h3) fun e=>?_
    rcases h4 k e with e | e<;>omega
theorem LiveQ.below {w0 W W':World} {P:Nat→Prop} {base:Nat} {y:Qv} (h:LiveQ w0 W P base y) (hb:Below W.heap.size W W'):LiveQ w0 W' P base y:=h.keep hb.size (fun k hk _=>hb.block k hk) fun _ e=>.inl e
theorem fresh_wide {w0 w ws w' w'':World} {z:Tv} (h:Fresh w0 ws w' z) (hs:w.heap.size≤ws.heap.size) (hz:w'.heap.size≤w''.heap.size) (he:∀ b,ws.heap.size≤b→b < w'.heap.size→w''.heap[b]? = w'.heap[b]?):Fresh w0 w w'' z:=fun W hb hsz hag =>
  h W hb (Nat.le_trans hz hsz) (fun b h1 h2=>(hag b (Nat.le_trans hs h1) (Nat.lt_of_lt_of_le h2 hz)).trans (he b h1 h2))
theorem liveQ_made {w0 w w':World} {x y:Tv} (hx:Fresh w0 w w' x) (hy:Fresh w0 w w' y) (hs:w.heap.size≤w'.heap.size) {P:Nat→Prop} {base:Nat} (hb:base≤w.heap.size) (hP:∀ k,P k→k < w.heap.size):LiveQ w0 w' P base ⟨x,y⟩ :=
  ⟨w.heap.size,w'.heap.size,hb,hs,Nat.le_refl _,fun k e=>.inl (hP k e),fun W' g0 g1 g2=>⟨hx W' g0 g1 g2,hy W' g0 g1 g2⟩⟩
structure Ent (w0 W:World) (Z:Nat→Prop) (ef eq:TypeId) (base:Nat) (vf:Value) (fs:List Fn) (vr:Value) (rs:List Rl):Prop where
  okf:∀ f ∈ fs,FnOk f
  fun_:W.ownsRow base ef 2 vf fs.length (rowFn fs)
  rul:∃ us:List Qv,us.map Qv.rl=rs∧(∀ x ∈ us,LiveQ w0 W (rowsZ Z vf vr) base x)∧W.ownsRow base eq 8 vr rs.length (rowQv us)
  apart:∀ k,vf.ownBlock=some k→vr.ownBlock≠some k
  out:∀ k,rowsP vf vr k→¬ Z k
theorem ent_nil (w0 W:World) (Z:Nat→Prop) (ef eq:TypeId) (base:Nat):Ent w0 W Z ef eq base (.slice none 0 0) [] (.slice none 0 0) [] :=
  ⟨(fun x hx=>by cases hx),World.ownsRow_nil _ _ _ _,⟨[],rfl,(fun x hx=>by cases hx),World.ownsRow_nil _ _ _ _⟩,(fun k h=>by cases h),fun k h=>by rcases h with h | h<;>cases h⟩
section
variable {w0 W W':World} {Z:Nat→Prop} {ef eq:TypeId} {base:Nat} {vf vr:Value} {fs:List Fn} {rs:List Rl}
theorem Ent.below (h:Ent w0 W Z ef eq base vf fs vr rs) (hb:Below W.heap.size W W'):Ent w0 W' Z ef eq base vf fs vr rs:=by
  obtain ⟨h0,h1,⟨us,k1,k2,k3⟩,ha,ho⟩:=h
  exact ⟨h0,own_below h1 hb,⟨us,k1,fun x hx=>(k2 x hx).below hb,own_below k3 hb⟩,ha,ho⟩
theorem Ent.lt (h:Ent w0 W Z ef eq base vf fs vr rs):∀ k,rowsP vf vr k→base≤k∧k < W.heap.size:=by
  obtain ⟨_,h3,⟨us,_,_,k3⟩,_,_⟩:=h
  intro k hk
  rcases hk with hk | hk
  · exact ⟨own_row_ge h3 k hk,own_row_lt h3 k hk⟩
  · exact ⟨own_row_ge k3 k hk,own_row_lt k3 k hk⟩
theorem Ent.beside {Z':Nat→Prop} (h:Ent w0 W Z ef eq base vf fs vr rs) (hZ:∀ k,Z' k→Z k∨W.heap.size≤k):Ent w0 W Z' ef eq base vf fs vr rs:=by
  have hlt:=h.lt
  obtain ⟨h0,h1,⟨us,k1,k2,k3⟩,ha,ho⟩:=h
  have hK:∀ x:Qv,LiveQ w0 W (rowsZ Z vf vr) base x→LiveQ w0 W (rowsZ Z' vf vr) base x:=fun x hx=>hx.keep (Nat.le_refl _) (fun _ _ _=>rfl) fun k e=>by
    rcases e with e | e
    · exact .inl (.inl e)
    · rcases hZ k e with q | q
      · exact .inl (.inr q)
      · exact .inr q
  refine ⟨h0,h1,⟨us,k1,fun x hx=>hK x (k2 x hx),k3⟩,ha,fun k e z=>?_⟩
  rcases hZ k z with q | q
  · exact ho k e q
  · have:=(hlt k e).2;omega
theorem Ent.aside (h:Ent w0 W Z ef eq base vf fs vr rs) (hs:W.heap.size≤W'.heap.size) (hk:∀ k,¬ Z k→W'.heap[k]? = W.heap[k]?):Ent w0 W' Z ef eq base vf fs vr rs:=by
  obtain ⟨h0,h1,⟨us,k1,k2,k3⟩,ha,ho⟩:=h
  have hK:∀ x:Qv,LiveQ w0 W (rowsZ Z vf vr) base x→LiveQ w0 W' (rowsZ Z vf vr) base x:=fun x hx=>hx.keep hs (fun k _ q=>hk k fun z=>q (.inr z)) fun k e=>.inl e
  exact ⟨h0,own_at h1 fun g q=>hk g (ho g (.inl q)),⟨us,k1,fun x hx=>hK x (k2 x hx),own_at k3 fun g q=>hk g (ho g (.inr q))⟩,ha,ho⟩
theorem Ent.addF {vf':Value} {f:Fn} (h:Ent w0 W Z ef eq base vf fs vr rs) (hf:FnOk f) (hown:W'.ownsRow base ef 2 vf' (fs.length + 1) (rowFn fs ++ [.string f.1,.int .i64 f.2])) (hg:W.grownBy W' vf.ownBlock) (hat:vf'.ownBlock=vf.ownBlock∨vf'.ownBlock=some W.heap.size) (hZ:∀ k,Z k→k < W.heap.size) :
    Ent w0 W' Z ef eq base vf' (fs ++ [f]) vr rs:=by
  have hlt:=h.lt
  obtain ⟨h0,h1,⟨us,k1,k2,k3⟩,ha,ho⟩:=h
  have hP:∀ k,rowsZ Z vf' vr k→rowsZ Z vf vr k∨W.heap.size≤k:=fun k e=>by
    rcases e with (e | e) | e
    · rcases hat with e2 | e2
      · exact .inl (.inl (.inl (by rw [← e2];exact e)))
      · rw [e2] at e;injection e with e;exact .inr (by omega)
    · exact .inl (.inl (.inr e))
    · exact .inl (.inr e)
  have hK:∀ x:Qv,LiveQ w0 W (rowsZ Z vf vr) base x→LiveQ w0 W' (rowsZ Z vf' vr) base x:=fun x hx=>hx.keep hg.size (fun k hk e=>hg.block k hk fun q=>e (.inl (.inl q.symm))) hP
  refine ⟨fun x hx=>?_,by rw [List.length_append,rowFn_append,rowFn_one];exact hown,⟨us,k1,fun x hx=>hK x (k2 x hx),own_at k3 fun g e=>hg.block g (hlt g (.inr e)).2 fun q=>ha g q.symm e⟩,fun k e1 e2=>?_,fun k e z=>?_⟩
  · rcases List.mem_append.1 hx with hx | hx
    · exact h0 x hx
    · rw [List.mem_singleton] at hx;rw [hx];exact hf
  · rcases hat with q | q
    · exact ha k (by rw [← q];exact e1) e2
    · rw [q] at e1;injection e1 with e1;have:=(hlt k (.inr e2)).2;omega
  · rcases e with e | e
    · rcases hat with q | q
      · exact ho k (.inl (by rw [← q];exact e)) z
      · rw [q] at e;injection e with e;have:=hZ k z;omega
    · exact ho k (.inr e) z
theorem Ent.addR {vr':Value} {us:List Qv} {y:Qv} (h:Ent w0 W Z ef eq base vf fs vr rs) (h1:us.map Qv.rl=rs) (h2:∀ x ∈ us,LiveQ w0 W (rowsZ Z vf vr) base x) (hy:LiveQ w0 W (rowsZ Z vf vr) base y)
    (hown:W'.ownsRow base eq 8 vr' (rs.length + 1) (rowQv us ++ y.cells)) (hg:W.grownBy W' vr.ownBlock) (hat:vr'.ownBlock=vr.ownBlock∨vr'.ownBlock=some W.heap.size) (hZ:∀ k,Z k→k < W.heap.size) :
    Ent w0 W' Z ef eq base vf fs vr' (rs ++ [y.rl]):=by
  have hlt:=h.lt
  obtain ⟨h0,w1,_,ha,ho⟩:=h
  have hP:∀ k,rowsZ Z vf vr' k→rowsZ Z vf vr k∨W.heap.size≤k:=fun k e=>by
    rcases e with (e | e) | e
    · exact .inl (.inl (.inl e))
    · rcases hat with e2 | e2
      · exact .inl (.inl (.inr (by rw [← e2];exact e)))
      · rw [e2] at e;injection e with e;exact .inr (by omega)
    · exact .inl (.inr e)
  have hK:∀ x:Qv,LiveQ w0 W (rowsZ Z vf vr) base x→LiveQ w0 W' (rowsZ Z vf vr') base x:=fun x hx=>hx.keep hg.size (fun k hk e=>hg.block k hk fun q=>e (.inl (.inr q.symm))) hP
  refine ⟨h0,own_at w1 fun g e=>hg.block g (hlt g (.inl e)).2 fun q=>ha g e q.symm,⟨us ++ [y],by rw [List.map_append,h1];rfl,fun x hx=>?_,?_⟩,fun k e1 e2=>?_,fun k e z=>?_⟩
  · rcases List.mem_append.1 hx with hx | hx
    · exact hK x (h2 x hx)
    · rw [List.mem_singleton] at hx;rw [hx];exact hK y hy
  · rw [List.length_append,rowQv_append,rowQv_one];exact hown
  · rcases hat with q | q
    · exact ha k e1 (by rw [← q];exact e2)
    · rw [q] at e2;injection e2 with e2;have:=(hlt k (.inl e1)).2;omega
  · rcases e with e | e
    · exact ho k (.inl e) z
    · rcases hat with q | q
      · exact ho k (.inr (by rw [← q];exact e)) z
      · rw [q] at e;injection e with e;have:=hZ k z;omega
theorem Ent.slices (h:Ent w0 W Z ef eq base vf fs vr rs):(∃ a c,vf=.slice a fs.length c)∧∃ a c,vr=.slice a rs.length c:=by
  obtain ⟨_,h1,⟨us,_,_,k3⟩,_,_⟩:=h
  exact ⟨own_slice h1,own_slice k3⟩
theorem Ent.reads (h:Ent w0 W Z 140 eq base vf fs vr rs) (hr:Reads w0 W) (hl1:fs.length≤9223372036854775807) (hl2:rs.length≤9223372036854775807):Fus W vf fs∧Rls W vr rs:=by
  obtain ⟨h0,h1,⟨us,k1,k2,k3⟩,_,_⟩:=h
  exact ⟨OwnFn.fus ⟨h0,h1⟩ hl1,RowQ.rls ⟨us,k1,fun x hx=>(k2 x hx).ok hr,k3⟩ hl2⟩
end
end Go.Proofs.YtjcleokfpohpdaaGreatDoor
namespace Go.Proofs.YtjcleokfpohpdaaGreatDoor
open Go.RowKit
section
variable {P:Program} {A:Act} {o:Oper} {w w':World} {T R ty tr:TypeId} {x y:Operand} {fld:Nat} {u v q:Value}
theorem exec_append (ho:o.op=.call { callee:=.builtin .append,args:=#[x,y],argTypes:=#[R,R] }) (hx:A.eval x=v) (hy:A.eval y=u) (h:(Builtin.append_ #[R,R] o.type #[v,u]).run P w=.ok q w'):(execOp A.eval o).run P w=.ok (.value q) w':=by
  unfold execOp;simp only [ho];simp [resolve,invoke,builtin,hx,hy,h,Result.andThen]
end
section
variable {P:Program} {ops:Array Oper} {o:Oper} {A:Act} {K:Act→World→Prop} {Q:Exit→Act→World→Prop} {E:Prop} {w w':World}
theorem step_val {v:Value} (hg:o.guard=none) (hr:(execOp A.eval o).run P w=.ok (.value v) w') (h:K (A.put o.dst v) w'):if Region.wanted o (yielded ops A.tmps)=true then Oper.wp P o A w K Q else E:=by
  rw [if_pos (by simp [Region.wanted,hg])]
  unfold Oper.wp;rw [hr];exact h
end
end Go.Proofs.YtjcleokfpohpdaaGreatDoor
namespace Go.Proofs.YtjcleokfpohpdaaGreatDoor
open Go.RowKit
theorem ruleInfo:(Tryz.prog.info? 82).map (fun i=>(i.zero,i.size,i.bytes))=some (some (.agg #[.int .i64 0,.string ⟨#[]⟩,.int .i64 0,.slice none 0 0,.int .i64 0,.string ⟨#[]⟩,.int .i64 0,.slice none 0 0]),8,112):=by kernel_rfl
theorem new_cells (w:World) (xs:List Value) (t:TypeId):∀ j u,xs[j]? = some u→(w.alloc (.cells xs.toArray t)).cell? ((⟨w.heap.size,0,none⟩:Addr).add j)=some u:=by
  intro j u h
  have:=World.cell?_alloc_mark w xs.toArray t (0,0) j
  rw [addr_add]
  simp [h] at this ⊢
theorem qv_one (y:Qv):∀ u ∈ y.cells,u.oneCell'=true:=by
  intro u hu
  simp only [Qv.cells,List.mem_cons,List.not_mem_nil,or_false] at hu
  rcases hu with rfl | rfl | rfl | rfl | rfl | rfl | rfl | rfl<;>rfl
section
variable {w0 W:World} {Z:Nat→Prop} {base:Nat} {vf vr:Value} {fs:List Fn} {rs:List Rl}
theorem add_fun (h:Ent w0 W Z 140 82 base vf fs vr rs) (f:Fn) (hf:FnOk f) (hl:fs.length≤1000000) (hZ:∀ k,Z k→k < W.heap.size) (hb:base≤W.heap.size) :
    ∃ v' w',(Builtin.append_ #[23,23] 23 #[vf,.slice (some ⟨W.heap.size,0,none⟩) 1 1]).run Tryz.prog (W.alloc (.cells #[.string f.1,.int .i64 f.2] 140))=.ok v' w' ∧
      Ent w0 w' Z 140 82 base v' (fs ++ [f]) vr rs∧(∃ a c,v'=.slice a (fs.length + 1) c)∧W.grownBy w' vf.ownBlock∧∀ k,vf.ownBlock=some k→base≤k:=by
  obtain ⟨i0,hi,hz0,hz1,hz2⟩:=info_parts funInfo
  have hal:W.grownBy (W.alloc (.cells #[.string f.1,.int .i64 f.2] 140)) vf.ownBlock:=World.grownBy_alloc W _ _
  have hba:Below W.heap.size W (W.alloc (.cells #[.string f.1,.int .i64 f.2] 140)):=(Below.refl _ _).alloc (Nat.le_refl _) _
  have hsz:(W.alloc (.cells #[.string f.1,.int .i64 f.2] 140)).heap.size=W.heap.size + 1:=by simp
  have hA:=h.below hba
  obtain ⟨v',w',hr,h2,h3,_,h5⟩:=run_append_own_at (P:=Tryz.prog) (W.alloc (.cells #[.string f.1,.int .i64 f.2] 140)) base 23 23 140 i0 (.agg #[.string ⟨#[]⟩,.int .i64 0]) 2 24 Tryz.underlying23 hi hz0 hz1 hz2 rfl (by decide) vf fs.length (rowFn fs) hA.fun_ ⟨W.heap.size,0,none⟩ 1 1 [.string f.1,.int .i64 f.2] rfl (new_cells W _ _) (by intro u hu;simp at hu;rcases hu with rfl | rfl<;>rfl) (by unfold maxLen;omega) (by omega) (by rw [hsz];omega)
  exact ⟨v',w',hr,hA.addF hf h2 h3 h5 (fun k hk=>by have:=hZ k hk;omega),own_slice h2,hal.trans h3,own_row_ge h.fun_⟩
theorem add_rule (h:Ent w0 W Z 140 82 base vf fs vr rs) (y:Qv) (hy:LiveQ w0 W (rowsZ Z vf vr) base y) (hl:rs.length≤1000000) (hZ:∀ k,Z k→k < W.heap.size) (hb:base≤W.heap.size) :
    ∃ v' w',(Builtin.append_ #[24,24] 24 #[vr,.slice (some ⟨W.heap.size,0,none⟩) 1 1]).run Tryz.prog (W.alloc (.cells y.cells.toArray 82))=.ok v' w' ∧
      Ent w0 w' Z 140 82 base vf fs v' (rs ++ [y.rl])∧(∃ a c,v'=.slice a (rs.length + 1) c)∧W.grownBy w' vr.ownBlock∧∀ k,vr.ownBlock=some k→base≤k:=by
  obtain ⟨i0,hi,hz0,hz1,hz2⟩:=info_parts ruleInfo
  have hal:W.grownBy (W.alloc (.cells y.cells.toArray 82)) vr.ownBlock:=World.grownBy_alloc W _ _
  have hba:Below W.heap.size W (W.alloc (.cells y.cells.toArray 82)):=(Below.refl _ _).alloc (Nat.le_refl _) _
  have hsz:(W.alloc (.cells y.cells.toArray 82)).heap.size=W.heap.size + 1:=by simp
  have hA:=h.below hba
  have hyA:=hy.below hba
  obtain ⟨us,u1,u2,u3⟩:=hA.rul
  have hge:=own_row_ge u3
  obtain ⟨v',w',hr,h2,h3,_,h5⟩:=run_append_own_at (P:=Tryz.prog) (W.alloc (.cells y.cells.toArray 82)) base 24 24 82 i0 (.agg #[.int .i64 0,.string ⟨#[]⟩,.int .i64 0,.slice none 0 0,.int .i64 0,.string ⟨#[]⟩,.int .i64 0,.slice none 0 0]) 8 112 Tryz.underlying24 hi hz0 hz1 hz2 rfl (by decide) vr rs.length (rowQv us) u3 ⟨W.heap.size,0,none⟩ 1 1 y.cells rfl (new_cells W _ _) (qv_one y) (by unfold maxLen;omega) (by omega) (by rw [hsz];omega)
  exact ⟨v',w',hr,hA.addR u1 u2 hyA h2 h3 h5 (fun k hk=>by have:=hZ k hk;omega),own_slice h2,hal.trans h3,hge⟩
end
end Go.Proofs.YtjcleokfpohpdaaGreatDoor
