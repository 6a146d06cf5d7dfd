/-
  A sorted row of binds, of each run of one name the first alone: these are the binds in order. No function of the program.
  What the library's functions over rows of binds ask of a program besides: the types of their predicates, and the zero bind.
  A row of binds cut: s[l:] and s[:h]. No function of the program.
  Of each run of a row the first alone, by the library's own text.
  A bind looked for in a row that is sorted, by the library's own text.
  New memory alone, and nothing drawn. No function of the program.
-/
import Derived.Test.YtjcleokfpohpdaaGreatDoorU18
import Derived.Test.YtjcleokfpohpdaaGreatDoorU19
namespace Go.Proofs.YtjcleokfpohpdaaGreatDoor
open Go.RowKit Go.Sort
section
variable {α:Type} (ef:α→α→Bool)
def compF:α→List α→List α
  | _,[]=>[]
  | p,y :: r=>if ef y p=true then compF y r else y :: compF y r
def compA:List α→List α
  | []=>[]
  | x :: r=>x :: compF ef x r
theorem compF_snoc (p:α) (r:List α) (y:α):compF ef p (r ++ [y])=compF ef p r ++ (if ef y ((p :: r).getLast (by simp))=true then [] else [y]):=by
  induction r generalizing p with
  | nil=>rw [List.nil_append,compF,compF,compF];rfl
  | cons x r ih =>
    rw [List.cons_append,compF,compF,ih x]
    have e:((p :: x :: r).getLast (by simp))=((x :: r).getLast (by simp)):=List.getLast_cons_cons
    rw [e]
    split
    · rfl
    · rw [List.cons_append]
theorem compA_snoc (l:List α) (y:α) (h:l≠[]):compA ef (l ++ [y])=compA ef l ++ (if ef y (l.getLast h)=true then [] else [y]):=by
  cases l with
  | nil=>exact absurd rfl h
  | cons x r=>rw [List.cons_append,compA,compF_snoc,compA];rfl
end
theorem comp_succ {α:Type} [Inhabited α] (ef:α→α→Bool) (d:Array α) {j:Nat} (h1:0 < j) (h2:j < d.size) :
    compA ef (d.toList.take (j + 1))=compA ef (d.toList.take j) ++ (if ef d[j]! d[j - 1]! = true then [] else [d[j]!]):=by
  have hl:j < d.toList.length:=by simpa using h2
  have hne:d.toList.take j≠[]:=by
    intro e;have:=congrArg List.length e;rw [List.length_take,List.length_nil] at this;omega
  have e1:d.toList[j]=d[j]! := by rw [getElem!_pos d j h2];simp
  have e2:(d.toList.take j).getLast hne=d[j - 1]! := by
    rw [List.getLast_eq_getElem,List.getElem_take,getElem!_pos d (j - 1) (by omega)]
    have:(d.toList.take j).length - 1=j - 1:=by rw [List.length_take];omega
    simp only [this,Array.getElem_toList]
  rw [List.take_succ_eq_append_getElem hl,compA_snoc ef _ _ hne,e1,e2]
theorem comp_one {α:Type} [Inhabited α] (ef:α→α→Bool) (d:Array α) (h:0 < d.size):compA ef (d.toList.take 1)=d.toList.take 1:=by
  cases hd:d.toList with
  | nil=>have:=congrArg List.length hd;rw [Array.length_toList,List.length_nil] at this;omega
  | cons x r=>rfl
def sameN (x y:Bv):Bool:=x.s.toList==y.s.toList
def cfN (x y:Bv):Int:=cmpS x.s y.s
theorem cmpS_lt {s t:ByteArray}:cmpS s t < 0 ↔ ltN s t=true:=by
  unfold cmpS ltN
  split
  · next h=>simp [h]
  · next h=>split<;>simp [h]
theorem ltN_of (x y:Bv):ltOf cfN x y=ltN x.s y.s:=by
  unfold ltOf cfN
  cases h:ltN x.s y.s with
  | true=>exact decide_eq_true (cmpS_lt.2 h)
  | false=>exact decide_eq_false (fun e=>by rw [cmpS_lt.1 e] at h;cases h)
theorem swoN:SWO (ltOf cfN) where
  irrefl x:=by rw [ltN_of];exact ltN_irr _
  trans x y z h1 h2:=by rw [ltN_of] at *;exact ltN_trans h1 h2
  ntrans x y z h1 h2:=by
    rw [ltN_of] at *
    cases h:ltN x.s z.s with
    | false=>rfl
    | true =>
      by_cases e:x.s=y.s
      · rw [e,h2] at h;cases h
      · have h3:=ltN_tot h1 e
        have h4:=ltN_trans h3 h
        rw [h2] at h4;cases h4
theorem compF_spec:∀ (p:Bv) (r:List Bv),(p :: r).Pairwise (fun x y=>ltN y.s x.s=false) →
    (∀ z ∈ compF sameN p r,ltN p.s z.s=true)∧Rising ((compF sameN p r).map Bv.bn)∧∀ s,s≠p.s→getB ((compF sameN p r).map Bv.bn) s=getB (r.map Bv.bn) s
  | _,[],_=>⟨fun z hz=>(by simp [compF] at hz),List.Pairwise.nil,fun _ _=>rfl⟩
  | p,y :: r,h=>by
    rw [List.pairwise_cons] at h
    obtain ⟨h1,h2,h3⟩:=compF_spec y r h.2
    rw [compF]
    by_cases e:y.s=p.s
    · rw [if_pos (show sameN y p=true from beq_name.2 e)]
      refine ⟨fun z hz=>by rw [← e];exact h1 z hz,h2,fun s hs=>?_⟩
      rw [h3 s (by rw [e];exact hs),List.map_cons,getB_miss _ _ (fun e'=>hs (e'.symm.trans e))]
    · rw [if_neg (show ¬ sameN y p=true from fun h=>e (beq_name.1 h))]
      have hpy:ltN p.s y.s=true:=ltN_tot (h.1 y (by simp)) e
      refine ⟨fun z hz=>?_,?_,fun s hs=>?_⟩
      · rcases List.mem_cons.1 hz with rfl | hz
        · exact hpy
        · exact ltN_trans hpy (h1 z hz)
      · rw [List.map_cons]
        refine List.pairwise_cons.2 ⟨fun z hz=>?_,h2⟩
        obtain ⟨u,hu,rfl⟩:=List.mem_map.1 hz
        exact h1 u hu
      · rw [List.map_cons,List.map_cons]
        by_cases e':y.s=s
        · rw [getB_hit _ _ (show (Bv.bn y).1=s from e'),getB_hit _ _ (show (Bv.bn y).1=s from e')]
        · rw [getB_miss _ _ (show (Bv.bn y).1≠s from e'),getB_miss _ _ (show (Bv.bn y).1≠s from e'),h3 s (fun h=>e' h.symm)]
theorem compA_spec {l:List Bv} (h:l.Pairwise fun x y=>ltN y.s x.s=false):Rising ((compA sameN l).map Bv.bn)∧∀ s,getB ((compA sameN l).map Bv.bn) s=getB (l.map Bv.bn) s:=by
  cases l with
  | nil=>exact ⟨List.Pairwise.nil,fun _=>rfl⟩
  | cons x r =>
    obtain ⟨h1,h2,h3⟩:=compF_spec x r h
    refine ⟨?_,fun s=>?_⟩
    · rw [compA,List.map_cons]
      refine List.pairwise_cons.2 ⟨fun z hz=>?_,h2⟩
      obtain ⟨u,hu,rfl⟩:=List.mem_map.1 hz
      exact h1 u hu
    · rw [compA,List.map_cons,List.map_cons]
      by_cases e:x.s=s
      · rw [getB_hit _ _ (show (Bv.bn x).1=s from e),getB_hit _ _ (show (Bv.bn x).1=s from e)]
      · rw [getB_miss _ _ (show (Bv.bn x).1≠s from e),getB_miss _ _ (show (Bv.bn x).1≠s from e),h3 s (fun h=>e h.symm)]
theorem getB_filter (l:List Bv) (s:ByteArray):getB (l.map Bv.bn) s=((l.filter fun x=>x.s.toList==s.toList).head?).map fun x=>x.v.t:=by
  induction l with
  | nil=>rfl
  | cons x r ih =>
    rw [List.map_cons,List.filter_cons]
    by_cases e:x.s=s
    · rw [getB_hit _ _ (show (Bv.bn x).1=s from e),if_pos (beq_name.2 e)];rfl
    · rw [getB_miss _ _ (show (Bv.bn x).1≠s from e),if_neg (fun h=>e (beq_name.1 h)),ih]
theorem cls_name (s:ByteArray):Cls (ltOf cfN) (fun x:Bv=>x.s.toList==s.toList):=fun x y hx hy=>by
  rw [ltN_of,beq_name.1 hx,beq_name.1 hy];exact ltN_irr _
theorem sorted_list {d:Array Bv} (h:SortedIn (ltOf cfN) 0 d.size d):d.toList.Pairwise fun x y=>ltN y.s x.s=false:=by
  rw [List.pairwise_iff_getElem]
  intro i j hi hj hij
  have hi':i < d.size:=by simpa using hi
  have hj':j < d.size:=by simpa using hj
  have:=h i j (Nat.zero_le _) hij hj'
  rw [getElem!_pos d i hi',getElem!_pos d j hj',ltN_of] at this
  simpa using this
theorem stab_ofB {d d':Array Bv} (h:Stab (ltOf cfN) d d') (hs:SortedIn (ltOf cfN) 0 d'.size d'):(compA sameN d'.toList).map Bv.bn=ofB (d.toList.map Bv.bn):=by
  obtain ⟨h1,h2⟩:=compA_spec (sorted_list hs)
  refine ofB_one h1 fun s=>?_
  rw [h2,getB_filter,getB_filter,h.2 _ (cls_name s)]
theorem mem_compF {x:Bv}:∀ {p:Bv} {r:List Bv},x ∈ compF sameN p r→x ∈ r
  | _,[],h=>by simp [compF] at h
  | p,y :: r,h=>by
    rw [compF] at h
    split at h
    · exact List.mem_cons_of_mem _ (mem_compF h)
    · rcases List.mem_cons.1 h with rfl | h
      · simp
      · exact List.mem_cons_of_mem _ (mem_compF h)
theorem mem_compA {x:Bv} {l:List Bv} (h:x ∈ compA sameN l):x ∈ l:=by
  cases l with
  | nil=>exact h
  | cons y r =>
    rw [compA] at h
    rcases List.mem_cons.1 h with rfl | h
    · simp
    · exact List.mem_cons_of_mem _ (mem_compF h)
theorem stab_mem {d d':Array Bv} (h:Stab (ltOf cfN) d d') {x:Bv} (hx:x ∈ d'.toList):x ∈ d.toList:=by
  have:x ∈ d'.toList.filter fun y=>y.s.toList==x.s.toList:=List.mem_filter.2 ⟨hx,by simp⟩
  rw [h.2 _ (cls_name x.s)] at this
  exact (List.mem_filter.1 this).1
end Go.Proofs.YtjcleokfpohpdaaGreatDoor
namespace Go.Proofs.YtjcleokfpohpdaaGreatDoor
open Go.RowKit Go.Shelf Go.Lib Go.Sort
structure TyC (P:Program) (k:Nat):Prop extends TyB P k where
  t55:P.underlying 290=some (TypeDesc.func #[233,233] #[4] false)
  a55:∀ w,(isAgg 290).run P w=.ok false w
  z55:∀ w,(Go.sizeOf 290).run P w=.ok 1 w
  v55:∀ w,(zeroValue 290).run P w=.ok (Value.nilFunc) w
theorem tyC:TyC Tryz.prog 5 where
  toTyB:=tyB
  t55:=by kernel_rfl
  a55:=fun _=>by kernel_rfl
  z55:=fun _=>by kernel_rfl
  v55:=fun _=>by kernel_rfl
def EqLays {α:Type} [Inhabited α] (P:Program) (g:Nat) (cb:Array Value) (enc:α→List Value) (k:Nat) (ef:α→α→Bool) (blk off size:Nat) (w:World):Prop :=
  ∀ (m:Nat) (os:Array Obj) (dk:Array α),dk.size=size→∀ x y:α,
    Calls P g (#[.agg (enc x).toArray,.agg (enc y).toArray] ++ cb) (sortWorldK enc k w blk off m dk os) fun e w'=>e=.returned (.bool (ef x y))∧∃ q os',w'=grow ((sortWorldK enc k w blk off m dk os).drewN q) os'
theorem swk_eq2 {α:Type} [Inhabited α] {P:Program} {k:Nat} {enc:α→List Value} {w0 W:World} {blk off:Nat} {dk:Array α} {g:Nat} {cb:Array Value} {ef:α→α→Bool} {size:Nat} (h:SWK enc k w0 blk off dk W) (hC:EqLays P g cb enc k ef blk off size w0) (hs:dk.size=size) (x y:α) (n:Nat) (os:Array Obj) :
    Calls P g (#[.agg (enc x).toArray,.agg (enc y).toArray] ++ cb) (grow (W.drewN n) os) fun e w'=>e=.returned (.bool (ef x y))∧∃ q os',w'=grow ((grow (W.drewN n) os).drewN q) os':=by
  obtain ⟨m,os0,hw⟩:=h.grown n os
  rw [hw]
  exact hC m os0 dk hs x y
end Go.Proofs.YtjcleokfpohpdaaGreatDoor
namespace Go.Proofs.YtjcleokfpohpdaaGreatDoor
open Go.RowKit Go.Shelf Go.Lib Go.Sort
theorem elemB {P:Program} {k:Nat} (T:TyB P k):P.elem 230=233:=by unfold Program.elem;rw [T.t22]
theorem cutk_from {P:Program} {k:Nat} (T:TyB P k) (g o len cap l:Nat) (hl:l≤len) (hc:l < cap) (w:World) :
    (Instr.slice 230 (.slice (some ⟨g,o,none⟩) len cap) (some (.int .i64 (l:Int))) none none).run P w=.ok (.slice (some ⟨g,o + l * k,none⟩) (len - l) (cap - l)) w:=by
  have hu:=T.t22
  have hz:=T.zE
  have he:=elemB T
  rw [run_slice_l w 230 _ len cap (by rw [he];exact hu) .i64 l (by omega) (by omega),he]
  simp only [hz,Result.andThen,sliced,Int.toNat_natCast]
  rw [if_neg (by omega)]
  have:(Option.map (fun x=>x.add (l * k)) (some (⟨g,o,none⟩:Addr)))=some ⟨g,o + l * k,none⟩:=by
    simp only [Option.map_some]
    unfold Addr.add
    split
    · next h=>rw [h];simp
    · rfl
  rw [this]
theorem cutk_to {P:Program} {k:Nat} (T:TyB P k) (g o len cap h:Nat) (hh:h≤cap) (h0:0 < cap) (w:World) :
    (Instr.slice 230 (.slice (some ⟨g,o,none⟩) len cap) none (some (.int .i64 (h:Int))) none).run P w=.ok (.slice (some ⟨g,o,none⟩) h cap) w:=by
  have hu:=T.t22
  have hz:=T.zE
  have he:=elemB T
  rw [run_slice_h w 230 _ len cap (by rw [he];exact hu) .i64 h (by omega) (by omega),he]
  simp only [hz,Result.andThen,sliced,Int.toNat_natCast]
  rw [if_neg (by omega),Nat.zero_mul]
  rfl
end Go.Proofs.YtjcleokfpohpdaaGreatDoor
namespace Go.Proofs.YtjcleokfpohpdaaGreatDoor
open Go.RowKit Go.Shelf Go.Lib Go.Sort
variable {α:Type} [Inhabited α] {P:Program} {k:Nat} {enc:α→List Value}
set_option maxRecDepth 100000 in
set_option maxHeartbeats 8000000 in
theorem cpt_gen (T:TyC P k) (Fcpt:P.funcs[(242:Nat)]? = some Tryz.f242) (ef:α→α→Bool) (g:Nat) (eg:∀ args w,(callFunc g args).run P w=.ok (.enter g args) w) (z:α) (zv:Value) (hz:∀ w,(zeroValue 233).run P w=.ok zv w) (hzc:Value.cells zv=(enc z).toArray) (blk off cap sz:Nat) (d d0:Array α) (w0 w:World) (heq:EqLays P g #[] enc k ef blk off sz w0) (R:RowK enc k w0 blk off d0) (S:SWK enc k w0 blk off d w) (hs:d.size=sz) (h0:d0.size=sz) (hcap:sz≤cap) (hsz:sz≤1000000) :
    Calls P 242 #[.slice (some ⟨blk,off,none⟩) sz cap,.func (.func g) #[] #[]] w fun e w' =>
      ∃ (d':Array α) (q:Nat),e=.returned (.slice (some ⟨blk,off,none⟩) q cap)∧q≤sz∧d'.size=sz∧d'.toList.take q=compA ef d.toList∧SWK enc k w0 blk off d' w':=by
  have HC:=Lib.hid heq
  have HS0:=Lib.hid S
  have HZ:=Lib.hid hs
  have HZ0:=Lib.hid h0
  have HCL:=Lib.hid (fun (dk:Array α) (q c:Nat) (W:World) (ty:TypeId) (h:SWK enc k w0 blk off dk W) (hd:dk.size=sz) (hq:q < sz)=>run_clear_k T.toTyB zv z hz hzc h R (hd.trans h0.symm) q c (by omega) ty)
  clear S hs h0 heq
  have mixed:=T.mixed;have t0:=T.t0;have a0:=T.a0;have z0:=T.z0;have v0:=T.v0;have t3:=T.t3;have a3:=T.a3;have z3:=T.z3;have v3:=T.v3;have t4:=T.t4;have a4:=T.a4;have z4:=T.z4;have v4:=T.v4;have t77:=T.t77;have a77:=T.a77;have z77:=T.z77;have v77:=T.v77;have t22:=T.t22;have a22:=T.a22;have z22:=T.z22;have v22:=T.v22;have t53:=T.t53;have a53:=T.a53;have z53:=T.z53;have v53:=T.v53;have aE:=T.aE;have zE:=T.zE
  have u0:=run_underlying T.t0;have u3:=run_underlying T.t3;have u4:=run_underlying T.t4;have u22:=run_underlying T.t22;have u53:=run_underlying T.t53;have u77:=run_underlying T.t77
  have t55:=T.t55;have a55:=T.a55;have z55:=T.z55;have v55:=T.v55
  have u55:=run_underlying T.t55;have hel:=elemB T.toTyB
  by_cases h2:sz < 2
  · have h2z:(sz:Int) < 2:=by omega
    have HE:=Lib.hid (show compA ef d.toList=d.toList by
      have hl:d.toList.length < 2:=by rw [Array.length_toList,HZ.out];exact h2
      cases hd:d.toList with
      | nil=>rfl
      | cons x r =>
        rw [hd,List.length_cons] at hl
        have:r=[]:=List.length_eq_zero_iff.1 (by omega)
        subst this;rfl)
    clear h2
    go_enter Fcpt,Tryz.ntmps242
    go_wp2_with fail
    go_ret
    exact ⟨d,sz,rfl,Nat.le_refl _,HZ.out,by rw [HE.out,List.take_of_length_le (by rw [Array.length_toList,HZ.out];exact Nat.le_refl _)],HS0.out⟩
  · have h2z:¬ (sz:Int) < 2:=by omega
    go_enter Fcpt,Tryz.ntmps242
    go_wp2_with fail
    go_loopg [5] sz (fun kx s5 wr=>∃ j:Nat,s5=.int .i64 ((j:Int) + 1)∧j + 1≤sz∧sz - (j + 1)≤kx∧Hid (compA ef (d.toList.take (j + 1))=d.toList.take (j + 1))∧Hid (SWK enc k w0 blk off d wr))
    case atStart=>exact ⟨0,by simp,by omega,by omega,Lib.hid (comp_one ef d (by rw [HZ.out];omega)),HS0⟩
    case round =>
      clear HS0
      obtain ⟨j,rfl,hj,hkx,HA,HS⟩:=hrel
      by_cases hlt:j + 1 < sz
      · have hltz:(j:Int) + 1 < (sz:Int):=by omega
        have p0:(0:Int)≤(j:Int) + 1:=by omega
        have e0:((j:Int) + 1).toNat=j + 1:=by omega
        have p1:(0:Int)≤(j:Int):=by omega
        have b1:(j:Int) < (sz:Int):=by omega
        have hwp:IntKind.i64.wrap (j:Int)=(j:Int):=by rw [IntKind.wrap_i64];omega
        have hsucc:=comp_succ ef d (j:=j + 1) (by omega) (by rw [HZ.out];exact hlt)
        rw [Nat.add_sub_cancel] at hsucc
        have HSU:=Lib.hid hsucc
        clear hsucc
        cases hl:ef d[j + 1]! d[j]! with
        | false =>
          have HL:=Lib.hid hl
          clear hl
          obtain ⟨x,hx⟩:∃ x,x=d[j + 1]! := ⟨_,rfl⟩
          obtain ⟨y,hy⟩:∃ y,y=d[j]! := ⟨_,rfl⟩
          have la:=HS.out.ld R (HZ.out.trans HZ0.out.symm) P (j + 1) (by rw [HZ.out];omega)
          have lb:=HS.out.ld R (HZ.out.trans HZ0.out.symm) P (j) (by rw [HZ.out];omega)
          rw [← hx] at la
          rw [← hy] at lb
          have hc:=swk_eq2 HS.out HC.out HZ.out x y
          have hv:ef x y=false:=by rw [hx,hy];exact HL.out
          rw [hv] at hc
          clear hx hy hv
          go_wp2_with fail
          go_quiet_grown (first | (go_at_fn g;refine Calls.grown_of (hc _ _)))
          have S2:=Lib.hid (HS.out.grown nq osq)
          clear la lb hc
          generalize grow (wr.drewN nq) osq=w2 at S2 ⊢
          clear nq osq
          go_wp2_with fail
          go_roundg (sz - (j + 1 + 1))
          case measure=>omega
          case rel =>
            refine ⟨j + 1,by first | rfl | go_num,by omega,Nat.le_refl _,Lib.hid ?_,S2⟩
            rw [HSU.out,HL.out,HA.out]
            have hl:j + 1 < d.toList.length:=by rw [Array.length_toList,HZ.out];exact hlt
            rw [List.take_succ_eq_append_getElem hl,getElem!_pos d (j + 1) (by rw [HZ.out];exact hlt)]
            simp
        | true =>
          have HL:=Lib.hid hl
          clear hl
          obtain ⟨x,hx⟩:∃ x,x=d[j + 1]! := ⟨_,rfl⟩
          obtain ⟨y,hy⟩:∃ y,y=d[j]! := ⟨_,rfl⟩
          have la:=HS.out.ld R (HZ.out.trans HZ0.out.symm) P (j + 1) (by rw [HZ.out];omega)
          have lb:=HS.out.ld R (HZ.out.trans HZ0.out.symm) P (j) (by rw [HZ.out];omega)
          rw [← hx] at la
          rw [← hy] at lb
          have hc:=swk_eq2 HS.out HC.out HZ.out x y
          have hv:ef x y=true:=by rw [hx,hy];exact HL.out
          rw [hv] at hc
          clear hx hy hv
          go_wp2_with fail
          go_quiet_grown (first | (go_at_fn g;refine Calls.grown_of (hc _ _)))
          have S2:=Lib.hid (HS.out.grown nq osq)
          clear la lb hc
          generalize grow (wr.drewN nq) osq=w2 at S2 ⊢
          clear nq osq
          have hct:=cutk_from T.toTyB blk off sz cap (j + 1) (by omega) (by omega)
          have hce:(((j + 1:Nat):Int))=(j:Int) + 1:=by omega
          rw [hce] at hct
          have HI0:=Lib.hid (show d.toList.take (j + 1)=compA ef (d.toList.take (j + 1 + 1)) by rw [HSU.out,HL.out,HA.out];simp)
          have hm0:sz - (j + 1)≤sz:=Nat.sub_le _ _
          obtain ⟨m,hm⟩:∃ m,m=sz - (j + 1):=⟨_,rfl⟩
          have HM:=Lib.hid hm
          have hmb:m≤1000000:=by omega
          have hms:m≤sz:=by omega
          have hm1:1≤m:=by omega
          rw [← hm] at hct
          clear hm HA HSU HL hce hm0
          go_wp2_with fail
          clear hct
          go_loopg [5,7] sz (fun kx s5 s7 wr=>∃ (q i:Nat) (dk:Array α),s5=.int .i64 q∧s7=.int .i64 ((i:Int) + 1)∧i + 1≤m∧q≤j + 1 + i∧m - (i + 1)≤kx∧Hid (dk.size=sz∧dk.toList.take q=compA ef (d.toList.take (j + 1 + i + 1))∧∀ x,j + 1 + i≤x→dk[x]! = d[x]!)∧Hid (SWK enc k w0 blk off dk wr))
          case atStart=>exact ⟨j + 1,0,d,by first | rfl | go_num,by simp,by omega,by omega,by omega,Lib.hid ⟨HZ.out,HI0.out,fun _ _=>rfl⟩,S2⟩
          case round =>
            clear S2 HI0
            obtain ⟨q,i,dk,rfl,rfl,him,hqi,hkx2,HI,HSK⟩:=hrel
            by_cases hlt2:i + 1 < m
            · have hltz2:(i:Int) + 1 < (m:Int):=by omega
              have p3:(0:Int)≤(i:Int) + 1:=by omega
              have e3:((i:Int) + 1).toNat=i + 1:=by omega
              have p4:(0:Int)≤(i:Int):=by omega
              have b4:(i:Int) < (m:Int):=by omega
              have hwp4:IntKind.i64.wrap (i:Int)=(i:Int):=by rw [IntKind.wrap_i64];omega
              have hpos:j + 1 + (i + 1) < sz:=by have:=HM.out;omega
              have hsucc:=comp_succ ef d (j:=j + 1 + i + 1) (by omega) (by rw [HZ.out];omega)
              have f1:=HI.out.2.2 (j + 1 + (i + 1)) (by omega)
              have f2:=HI.out.2.2 (j + 1 + i) (by omega)
              rw [show j + 1 + i + 1 - 1=j + 1 + i from by omega,show d[j + 1 + i + 1]! = d[j + 1 + (i + 1)]! from by rw [Nat.add_assoc],← f1,← f2] at hsucc
              have HSU:=Lib.hid hsucc
              have HF1:=Lib.hid f1
              clear hsucc f1 f2
              cases hl:ef dk[j + 1 + (i + 1)]! dk[j + 1 + i]! with
              | true =>
                have HL:=Lib.hid hl
                clear hl
                obtain ⟨x,hx⟩:∃ x,x=dk[j + 1 + (i + 1)]! := ⟨_,rfl⟩
                obtain ⟨y,hy⟩:∃ y,y=dk[j + 1 + i]! := ⟨_,rfl⟩
                have la:=HSK.out.ld R (HI.out.1.trans HZ0.out.symm) P (j + 1 + (i + 1)) (by rw [HI.out.1];omega)
                rw [show off + (j + 1 + (i + 1)) * k=off + (j + 1) * k + (i + 1) * k from by rw [Nat.add_mul (j + 1),Nat.add_assoc]] at la
                have lb:=HSK.out.ld R (HI.out.1.trans HZ0.out.symm) P (j + 1 + i) (by rw [HI.out.1];omega)
                rw [show off + (j + 1 + i) * k=off + (j + 1) * k + i * k from by rw [Nat.add_mul (j + 1),Nat.add_assoc]] at lb
                rw [← hx] at la
                rw [← hy] at lb
                have hc:=swk_eq2 HSK.out HC.out HI.out.1 x y
                have hv:ef x y=true:=by rw [hx,hy];exact HL.out
                rw [hv] at hc
                clear hx hy hv
                go_wp2_with fail
                go_quiet_grown (first | (go_at_fn g;refine Calls.grown_of (hc _ _)))
                have S3:=Lib.hid (HSK.out.grown nq osq)
                clear la lb hc
                generalize grow (wr.drewN nq) osq=w3 at S3 ⊢
                clear nq osq
                go_wp2_with fail
                go_roundg (m - (i + 1 + 1))
                case measure=>omega
                case rel =>
                  refine ⟨q,i + 1,dk,rfl,by first | rfl | go_num,by omega,by omega,Nat.le_refl _,Lib.hid ⟨HI.out.1,?_,fun x hx=>HI.out.2.2 x (by omega)⟩,S3⟩
                  rw [show j + 1 + (i + 1) + 1=j + 1 + i + 1 + 1 from by omega,HSU.out,HL.out,if_pos rfl,List.append_nil]
                  exact HI.out.2.1
              | false =>
                have HL:=Lib.hid hl
                clear hl
                obtain ⟨x,hx⟩:∃ x,x=dk[j + 1 + (i + 1)]! := ⟨_,rfl⟩
                obtain ⟨y,hy⟩:∃ y,y=dk[j + 1 + i]! := ⟨_,rfl⟩
                have la:=HSK.out.ld R (HI.out.1.trans HZ0.out.symm) P (j + 1 + (i + 1)) (by rw [HI.out.1];omega)
                rw [show off + (j + 1 + (i + 1)) * k=off + (j + 1) * k + (i + 1) * k from by rw [Nat.add_mul (j + 1),Nat.add_assoc]] at la
                have lb:=HSK.out.ld R (HI.out.1.trans HZ0.out.symm) P (j + 1 + i) (by rw [HI.out.1];omega)
                rw [show off + (j + 1 + i) * k=off + (j + 1) * k + i * k from by rw [Nat.add_mul (j + 1),Nat.add_assoc]] at lb
                rw [← hx] at la
                rw [← hy] at lb
                have hc:=swk_eq2 HSK.out HC.out HI.out.1 x y
                have hv:ef x y=false:=by rw [hx,hy];exact HL.out
                rw [hv] at hc
                clear hx hy hv
                go_wp2_with fail
                go_quiet_grown (first | (go_at_fn g;refine Calls.grown_of (hc _ _)))
                have S3:=Lib.hid (HSK.out.grown nq osq)
                clear la lb hc
                generalize grow (wr.drewN nq) osq=w3 at S3 ⊢
                clear nq osq
                obtain ⟨x,hx⟩:∃ x,x=dk[j + 1 + (i + 1)]! := ⟨_,rfl⟩
                have la:=S3.out.load R (HI.out.1.trans HZ0.out.symm) P (j + 1 + (i + 1)) (by rw [HI.out.1];exact hpos)
                rw [show off + (j + 1 + (i + 1)) * k=off + (j + 1) * k + (i + 1) * k from by rw [Nat.add_mul (j + 1),Nat.add_assoc],← hx] at la
                have hqs:q < dk.size:=by rw [HI.out.1];omega
                have hqz:(q:Int) < (sz:Int):=by omega
                have hq0:(0:Int)≤(q:Int):=by omega
                have sa:=swk_st S3.out R (HI.out.1.trans HZ0.out.symm) P q hqs x
                have S4:=Lib.hid (swk_set S3.out R.hk R.hblk q hqs x)
                have na:(enc x).length=k:=R.hk _
                have HN:=Lib.hid (show (dk.setIfInBounds q x).size=sz∧(dk.setIfInBounds q x).toList.take (q + 1)=compA ef (d.toList.take (j + 1 + (i + 1) + 1))∧∀ y,j + 1 + (i + 1)≤y→(dk.setIfInBounds q x)[y]! = d[y]! by
                  refine ⟨by rw [Array.size_setIfInBounds];exact HI.out.1,?_,fun y hy=>?_⟩
                  · rw [show j + 1 + (i + 1) + 1=j + 1 + i + 1 + 1 from by omega,HSU.out,HL.out,← HI.out.2.1,← hx]
                    have hql:q < dk.toList.length:=by simpa using hqs
                    have hts:(dk.setIfInBounds q x).toList.take (q + 1)=dk.toList.take q ++ [x]:=by
                      rw [Array.toList_setIfInBounds,List.take_succ_eq_append_getElem (by simpa using hql),List.take_set_of_le (Nat.le_refl q),List.getElem_set_self]
                    rw [hts]
                    simp
                  · rw [← HI.out.2.2 y (by omega)]
                    by_cases hy2:y < dk.size
                    · rw [getElem!_pos (dk.setIfInBounds q x) y (by simpa using hy2),Array.getElem_setIfInBounds_ne (by simpa using hy2) (by omega),getElem!_pos dk y hy2]
                    · rw [getElem!_neg (dk.setIfInBounds q x) y (by simpa using hy2),getElem!_neg dk y hy2])
                generalize enc x=cX at la sa na S4
                clear hx HL HSU HF1 hqs
                go_wp2_with fail
                clear la sa na
                generalize w3.setCells blk (off + q * k) cX=w4 at S4 ⊢
                go_wp2_with fail
                go_roundg (m - (i + 1 + 1))
                case measure=>omega
                case rel=>exact ⟨q + 1,i + 1,_,by first | rfl | go_num,by first | rfl | go_num,by omega,by omega,Nat.le_refl _,HN,S4⟩
            · have hie:i + 1=m:=by omega
              have hltz2:¬ (i:Int) + 1 < (m:Int):=by omega
              have hqs:q < sz:=by have:=HM.out;omega
              have hct:=cutk_from T.toTyB blk off sz cap q (by omega) (by omega)
              have hct2:=cutk_to T.toTyB blk off sz cap q (by omega) (by omega)
              have hcl:=fun ty=>HCL.out dk q (cap - q) wr ty HSK.out HI.out.1 hqs
              rw [HI.out.1] at hcl
              have S5:=Lib.hid (swk_ended HSK.out R.hk R.hblk q (by rw [HI.out.1];omega) z)
              rw [HI.out.1] at S5
              have HF:=Lib.hid (show (endZ dk q z).size=sz∧(endZ dk q z).toList.take q=compA ef d.toList by
                refine ⟨by rw [size_endZ];exact HI.out.1,?_⟩
                have e1:(endZ dk q z).toList.take q=dk.toList.take q:=by
                  apply List.ext_getElem?
                  intro t
                  by_cases ht:t < q
                  · rw [List.getElem?_take_of_lt ht,List.getElem?_take_of_lt ht,get_list _ t (by rw [size_endZ,HI.out.1];omega),get_list _ t (by rw [HI.out.1];omega),get_endZ _ _ _ _ (by rw [HI.out.1];omega),if_pos ht]
                  · rw [List.getElem?_take_eq_none (by omega),List.getElem?_take_eq_none (by omega)]
                rw [e1,HI.out.2.1,List.take_of_length_le (by rw [Array.length_toList,HZ.out];have:=HM.out;omega)])
              generalize hzs:(flatK enc k (Array.replicate (sz - q) z)).toList=zs at hcl S5
              clear hzs hie HI HSK hqs
              go_wp2_with fail
              go_ret
              exact ⟨_,q,rfl,by have:=HM.out;omega,HF.out.1,HF.out.2,S5.out⟩
      · have hje:j + 1=sz:=by omega
        have hltz:¬ (j:Int) + 1 < (sz:Int):=by omega
        have HE:=Lib.hid (show compA ef d.toList=d.toList by
          have h:=HA.out
          rwa [hje,List.take_of_length_le (by rw [Array.length_toList,HZ.out];exact Nat.le_refl _)] at h)
        clear hje
        go_wp2_with fail
        go_ret
        exact ⟨d,sz,rfl,Nat.le_refl _,HZ.out,by rw [HE.out,List.take_of_length_le (by rw [Array.length_toList,HZ.out];exact Nat.le_refl _)],HS.out⟩
end Go.Proofs.YtjcleokfpohpdaaGreatDoor
namespace Go.Proofs.YtjcleokfpohpdaaGreatDoor
open Go.RowKit Go.Shelf Go.Lib Go.Sort
variable {α:Type} {P:Program} {k:Nat} {enc:α→List Value}
structure BoxK (enc:α→List Value) (k:Nat) (g:Nat) (y:α) (W:World):Prop where
  hk:(enc y).length=k
  lt:g < W.heap.size
  cell:∀ i u,(enc y)[i]? = some u→W.cell? ⟨g,i,none⟩=some u
theorem BoxK.grown {g:Nat} {y:α} {W:World} (h:BoxK enc k g y W) (n:Nat) (os:Array Obj):BoxK enc k g y (grow (W.drewN n) os) :=
  ⟨h.hk,by rw [size_grow];exact Nat.lt_of_lt_of_le h.lt (Nat.le_add_right _ _),fun i u hu=>by rw [cell?_grow _ _ _ (by exact h.lt)];exact h.cell i u hu⟩
theorem BoxK.load {g:Nat} {y:α} {W:World} (h:BoxK enc k g y W) (P:Program):Sem.run P (loadCellsFrom ⟨g,0,none⟩ 0 k #[]) W=.ok (enc y).toArray W :=
  run_loadCellsFrom_list P _ _ _ k h.hk (fun j v hj=>by
    have e:((⟨g,0,none⟩:Addr).add j)=⟨g,j,none⟩:=by
      unfold Addr.add;split
      · next h=>subst h;rfl
      · simp
    rw [e];exact h.cell j v hj)
theorem boxK_new (w:World) (y:α) (T:TypeId) (hk:(enc y).length=k):BoxK enc k w.heap.size y (w.alloc (.cells (enc y).toArray T)) :=
  ⟨hk,by simp,fun i u hu=>by rw [World.cell?_alloc_mark w (enc y).toArray T (0,0) i];simpa using hu⟩
variable [Inhabited α]
set_option maxRecDepth 100000 in
set_option maxHeartbeats 4000000 in
theorem bsf_gen (T:TyC P k) (Fbsf:P.funcs[(228:Nat)]? = some Tryz.f228) (cf:α→α→Int) (g:Nat) (eg:∀ args w,(callFunc g args).run P w=.ok (.enter g args) w) (y:α) (blk off cap sz:Nat) (d d0:Array α) (w0 w:World) (hcmp:CmpLays P g #[] enc k cf blk off sz w0) (R:RowK enc k w0 blk off d0) (S:SWK enc k w0 blk off d w) (hs:d.size=sz) (h0:d0.size=sz) (hsz:sz≤1000000)
    (hmono:∀ a b,a≤b→b < sz→cf d[b]! y < 0→cf d[a]! y < 0) :
    Calls P 228 #[.slice (some ⟨blk,off,none⟩) sz cap,.agg (enc y).toArray,.func (.func g) #[] #[]] w fun e w' =>
      ∃ i:Nat,i≤sz∧(∀ t,t < i→cf d[t]! y < 0)∧(∀ t,i≤t→t < sz→0≤cf d[t]! y)∧e=.returned (.tuple #[.int .i64 i,.bool (decide (i < sz)&&decide (cf d[i]! y=0))])∧SWK enc k w0 blk off d w':=by
  have HC:=Lib.hid hcmp
  have HS0:=Lib.hid S
  have HZ:=Lib.hid hs
  have HZ0:=Lib.hid h0
  have HM:=Lib.hid hmono
  have hyk:(enc y).length=k:=R.hk y
  have hy1:=R.h1 y
  clear S hs h0 hcmp hmono
  have mixed:=T.mixed;have t0:=T.t0;have a0:=T.a0;have z0:=T.z0;have v0:=T.v0;have t3:=T.t3;have a3:=T.a3;have z3:=T.z3;have v3:=T.v3;have t4:=T.t4;have a4:=T.a4;have z4:=T.z4;have v4:=T.v4;have t77:=T.t77;have a77:=T.a77;have z77:=T.z77;have v77:=T.v77;have t22:=T.t22;have a22:=T.a22;have z22:=T.z22;have v22:=T.v22;have t53:=T.t53;have a53:=T.a53;have z53:=T.z53;have v53:=T.v53;have aE:=T.aE;have zE:=T.zE
  have u0:=run_underlying T.t0;have u3:=run_underlying T.t3;have u4:=run_underlying T.t4;have u22:=run_underlying T.t22;have u53:=run_underlying T.t53;have u77:=run_underlying T.t77
  have t55:=T.t55;have a55:=T.a55;have z55:=T.z55;have v55:=T.v55
  have u55:=run_underlying T.t55;have hel:=elemB T.toTyB
  go_enter Fbsf,Tryz.ntmps228
  go_wp2_with fail
  have HS1:=Lib.hid (HS0.out.alloc (.cells (enc y).toArray 233))
  have HBX0:=Lib.hid (boxK_new (enc:=enc) w y 233 hyk)
  go_loopg [9,10] sz (fun kx s9 s10 wr=>∃ i j:Nat,s9=.int .i64 i∧s10=.int .i64 j∧i≤j∧j≤sz∧j - i≤kx∧Hid ((∀ t,t < i→cf d[t]! y < 0)∧(∀ t,j≤t→t < sz→0≤cf d[t]! y))∧Hid (SWK enc k w0 blk off d wr)∧Hid (BoxK enc k w.heap.size y wr))
  case atStart=>exact ⟨0,sz,rfl,rfl,Nat.zero_le _,Nat.le_refl _,by omega,Lib.hid ⟨fun t h=>by omega,fun t h1 h2=>by omega⟩,HS1,HBX0⟩
  case round =>
    clear HS0 HS1 HBX0
    obtain ⟨i,j,rfl,rfl,hij,hjs,hkx,HI,HS,HBX⟩:=hrel
    by_cases hlt:i < j
    · obtain ⟨h,hh⟩:∃ h,h=(i + j) / 2:=⟨_,rfl⟩
      have rh:((i:Int) + (j:Int)) / 2=(h:Int):=by omega
      have hltz:(i:Int) < (j:Int):=by omega
      have ph:(0:Int)≤(h:Int):=by omega
      have bh:(h:Int) < (sz:Int):=by omega
      have h1:i≤h:=by omega
      have h2:h < j:=by omega
      clear hh
      by_cases hv:cf d[h]! y < 0
      · have HV:=Lib.hid hv
        clear hv
        obtain ⟨x,hx⟩:∃ x,x=d[h]! := ⟨_,rfl⟩
        have la:=HS.out.ld R (HZ.out.trans HZ0.out.symm) P (h) (by rw [HZ.out];omega)
        have lb:=fun n' os'=>(HBX.out.grown n' os').load P
        rw [← hx] at la
        have hc:=HS.out.cmp HC.out HZ.out x y
        have hd:decide (cf x y < 0)=true:=by rw [hx];exact decide_eq_true HV.out
        clear hx
        go_wp2_with fail
        go_quiet_grown (first | (go_at_fn g;refine Calls.grown_of (hc _ _)))
        have S2:=Lib.hid (HS.out.grown nq osq)
        have HB2:=Lib.hid (HBX.out.grown nq osq)
        clear la lb hc
        generalize grow (wr.drewN nq) osq=w2 at S2 HB2 ⊢
        clear nq osq
        go_wp2_with fail
        go_roundg (j - (h + 1))
        case measure=>omega
        case rel=>exact ⟨h + 1,j,by go_num,rfl,by omega,hjs,Nat.le_refl _,Lib.hid ⟨fun t ht=>HM.out t h (by omega) (by omega) HV.out,HI.out.2⟩,S2,HB2⟩
      · have HV:=Lib.hid hv
        clear hv
        obtain ⟨x,hx⟩:∃ x,x=d[h]! := ⟨_,rfl⟩
        have la:=HS.out.ld R (HZ.out.trans HZ0.out.symm) P (h) (by rw [HZ.out];omega)
        have lb:=fun n' os'=>(HBX.out.grown n' os').load P
        rw [← hx] at la
        have hc:=HS.out.cmp HC.out HZ.out x y
        have hd:decide (cf x y < 0)=false:=by rw [hx];exact decide_eq_false HV.out
        clear hx
        go_wp2_with fail
        go_quiet_grown (first | (go_at_fn g;refine Calls.grown_of (hc _ _)))
        have S2:=Lib.hid (HS.out.grown nq osq)
        have HB2:=Lib.hid (HBX.out.grown nq osq)
        clear la lb hc
        generalize grow (wr.drewN nq) osq=w2 at S2 HB2 ⊢
        clear nq osq
        go_wp2_with fail
        go_roundg (h - i)
        case measure=>omega
        case rel=>exact ⟨i,h,rfl,rfl,h1,by omega,Nat.le_refl _,Lib.hid ⟨HI.out.1,fun t h3 h4=>by
          rcases Int.lt_or_le (cf d[t]! y) 0 with h5 | h5
          · exact absurd (HM.out h t h3 h4 h5) (by have:=HV.out;omega)
          · exact h5⟩,S2,HB2⟩
    · obtain rfl:i=j:=by omega
      have hltz:¬ (i:Int) < (i:Int):=by omega
      by_cases hin:i < sz
      · have hinz:(i:Int) < (sz:Int):=by omega
        have pi:(0:Int)≤(i:Int):=by omega
        have hdi:decide (i < sz)=true:=decide_eq_true hin
        obtain ⟨x,hx⟩:∃ x,x=d[i]! := ⟨_,rfl⟩
        have la:=HS.out.ld R (HZ.out.trans HZ0.out.symm) P i (by rw [HZ.out];omega)
        have lb:=fun n' os'=>(HBX.out.grown n' os').load P
        rw [← hx] at la
        have hc:=HS.out.cmp HC.out HZ.out x y
        obtain ⟨r,hr⟩:∃ r,r=cf x y:=⟨_,rfl⟩
        rw [← hr] at hc
        have HR:=Lib.hid (show cf d[i]! y=r by rw [hr,hx])
        have HDI:=Lib.hid hdi
        clear hx hr hdi
        go_wp2_with fail
        go_quiet_grown (first | (go_at_fn g;refine Calls.grown_of (hc _ _)))
        have S2:=Lib.hid (HS.out.grown nq osq)
        clear la lb hc
        generalize grow (wr.drewN nq) osq=w2 at S2 ⊢
        clear nq osq
        go_wp2_with fail
        go_ret2
        refine ⟨i,hjs,HI.out.1,HI.out.2,?_,S2.out⟩
        rw [HDI.out,HR.out];rfl
      · have hinz:¬ (i:Int) < (sz:Int):=by omega
        have hinz2:decide ((i:Int) < (sz:Int))=false:=decide_eq_false hinz
        have HDI:=Lib.hid (show decide (i < sz)=false from decide_eq_false hin)
        have S2:=Lib.hid HS.out.drew
        generalize hcw:cf d[i]! y=r
        have HR:=Lib.hid hcw
        have hin2:decide (i < sz)=false:=decide_eq_false hin
        clear hcw
        go_wp2_with fail
        go_big_region_o
        generalize wr.drew=w2 at S2 ⊢
        go_wp2_with fail
        go_ret2
        refine ⟨i,hjs,HI.out.1,HI.out.2,?_,S2.out⟩
        rw [HDI.out];rfl
end Go.Proofs.YtjcleokfpohpdaaGreatDoor
namespace Go.Proofs.YtjcleokfpohpdaaGreatDoor
open Go.RowKit
structure Onto (w w':World):Prop where
  below:Below w.heap.size w w'
  drawn:w'.drawn=w.drawn
theorem Onto.refl (w:World):Onto w w:=⟨Below.refl _ _,rfl⟩
theorem Onto.alloc {w w':World} (h:Onto w w') (o:Obj):Onto w (w'.alloc o):=⟨h.below.alloc h.below.size o,h.drawn⟩
theorem Onto.next {w w1 w2:World} (h:Onto w w1) (k:Onto w1 w2):Onto w w2:=⟨below_next h.below k.below,k.drawn.trans h.drawn⟩
end Go.Proofs.YtjcleokfpohpdaaGreatDoor
