/-
  The order of terms, as data: cmpT. No function of the program.
  The order of terms is one: turned about it is turned, it goes on over a third, and only the same stand alike. No function of the program.
  Binds in the order of their names, of each name the first one: as data. What tells two such rows to be one. No function of the program.
-/
import Derived.Test.YtjcleokfpohpdaaGreatDoorU01
import Derived.Test.YtjcleokfpohpdaaGreatDoorU08
import Derived.Test.YtjcleokfpohpdaaGreatDoorU02
namespace Go.Proofs.YtjcleokfpohpdaaGreatDoor
open Go.RowKit
def cmpI (a b:Int):Int:=if a < b then -1 else if b < a then 1 else 0
def cmpS (s t:ByteArray):Int:=if Op.bytesLess s.toList t.toList=true then -1 else if (s.toList==t.toList)=true then 0 else 1
mutual
def cmpT:Tm→Tm→Int
  | .mk k s n xs,.mk k' s' n' ys=>if cmpI k k'≠0 then cmpI k k' else if cmpI n n'≠0 then cmpI n n' else if cmpS s s'≠0 then cmpS s s' else if cmpI xs.length ys.length≠0 then cmpI xs.length ys.length else cmpL xs ys
def cmpL:List Tm→List Tm→Int
  | [],_=>0
  | _ :: _,[]=>0
  | x :: r,y :: q=>if cmpT x y≠0 then cmpT x y else cmpL r q
end
theorem cmpI_zero {a b:Int}:cmpI a b=0 ↔ a=b:=by unfold cmpI;split;omega;split<;>omega
theorem cmpI_bd (a b:Int) : -1≤cmpI a b∧cmpI a b≤1:=by unfold cmpI;split;omega;split<;>omega
theorem cmpS_bd (s t:ByteArray) : -1≤cmpS s t∧cmpS s t≤1:=by unfold cmpS;split;omega;split<;>omega
mutual
theorem cmpT_bd:∀ t u:Tm,-1≤cmpT t u∧cmpT t u≤1
  | .mk k s n xs,.mk k' s' n' ys=>by
    rw [cmpT]
    have h1:=cmpI_bd k k'
    have h2:=cmpI_bd n n'
    have h3:=cmpS_bd s s'
    have h4:=cmpI_bd xs.length ys.length
    have h5:=cmpL_bd xs ys
    repeat' split
    all_goals assumption
theorem cmpL_bd:∀ xs ys:List Tm,-1≤cmpL xs ys∧cmpL xs ys≤1
  | [],_=>by rw [cmpL];omega
  | _ :: _,[]=>by rw [cmpL];omega
  | x :: r,y :: q=>by
    rw [cmpL]
    have h1:=cmpT_bd x y
    have h2:=cmpL_bd r q
    split<;>assumption
end
theorem cmpL_same:∀ {xs ys:List Tm},(∀ j (h1:j < xs.length) (h2:j < ys.length),cmpT xs[j] ys[j]=0)→cmpL xs ys=0
  | [],_,_=>by rw [cmpL]
  | _ :: _,[],_=>by rw [cmpL]
  | x :: r,y :: q,h=>by
    have h0:=h 0 (by simp) (by simp)
    simp only [List.getElem_cons_zero] at h0
    rw [cmpL,if_neg (by rw [h0];simp)]
    exact cmpL_same fun j h1 h2=>by
      have:=h (j + 1) (by simpa using h1) (by simpa using h2)
      simpa using this
theorem cmpL_at:∀ {xs ys:List Tm} {k:Nat} (h1:k < xs.length) (h2:k < ys.length),(∀ j (a:j < xs.length) (b:j < ys.length),j < k→cmpT xs[j] ys[j]=0)→cmpT xs[k] ys[k]≠0→cmpL xs ys=cmpT xs[k] ys[k]
  | [],_,_,h1,_,_,_=>by simp at h1
  | _ :: _,[],_,_,h2,_,_=>by simp at h2
  | x :: r,y :: q,0,_,_,_,hn=>by
    simp only [List.getElem_cons_zero] at hn ⊢
    rw [cmpL,if_pos hn]
  | x :: r,y :: q,k + 1,h1,h2,h,hn=>by
    have h0:=h 0 (by simp) (by simp) (by omega)
    simp only [List.getElem_cons_zero] at h0
    rw [cmpL,if_neg (by rw [h0];simp)]
    simp only [List.getElem_cons_succ] at hn ⊢
    exact cmpL_at (by simpa using h1) (by simpa using h2) (fun j a b hj=>by
      have:=h (j + 1) (by simpa using a) (by simpa using b) (by omega)
      simpa using this) hn
def CmpTo (xs ys:List Tm) (k:Nat):Prop:=∀ j (h1:j < xs.length) (h2:j < ys.length),j < k→cmpT xs[j] ys[j]=0
theorem CmpTo.succ {xs ys:List Tm} {k:Nat} (h:CmpTo xs ys k) (h1:k < xs.length) (h2:k < ys.length) (hk:cmpT xs[k] ys[k]=0):CmpTo xs ys (k + 1):=by
  intro j a b hj
  by_cases e:j=k
  · subst e;exact hk
  · exact h j a b (by omega)
theorem texts_ways (s t:ByteArray):(Op.bytesLess s.toList t.toList=true∧cmpS s t = -1)∨(Op.bytesLess s.toList t.toList=false∧(s.toList==t.toList)=true∧cmpS s t=0)∨(Op.bytesLess s.toList t.toList=false∧(s.toList==t.toList)=false∧cmpS s t=1):=by
  unfold cmpS
  cases h1:Op.bytesLess s.toList t.toList with
  | true=>left;exact ⟨rfl,by simp⟩
  | false =>
    right
    cases h2:(s.toList==t.toList) with
    | true=>left;exact ⟨rfl,rfl,by simp⟩
    | false=>right;exact ⟨rfl,rfl,by simp⟩
end Go.Proofs.YtjcleokfpohpdaaGreatDoor
namespace Go.Proofs.YtjcleokfpohpdaaGreatDoor
open Go.RowKit
theorem bl_irr:∀ x:List UInt8,Op.bytesLess x x=false
  | []=>rfl
  | a :: x=>by simp [Op.bytesLess,bl_irr x]
theorem bl_tot:∀ {x y:List UInt8},Op.bytesLess x y=false→x≠y→Op.bytesLess y x=true
  | [],[],_,h=>absurd rfl h
  | [],_ :: _,h,_=>by simp [Op.bytesLess] at h
  | _ :: _,[],_,_=>rfl
  | a :: x,b :: y,h,hn=>by
    simp only [Op.bytesLess,Bool.or_eq_false_iff,decide_eq_false_iff_not,Bool.and_eq_false_iff,beq_eq_false_iff_ne] at h
    simp only [Op.bytesLess,Bool.or_eq_true,decide_eq_true_eq,Bool.and_eq_true,beq_iff_eq]
    obtain ⟨h1,h2⟩:=h
    by_cases e:a=b
    · subst e
      right
      refine ⟨rfl,bl_tot ?_ fun h=>hn (by rw [h])⟩
      rcases h2 with h2 | h2
      · exact absurd rfl h2
      · exact h2
    · left
      rcases UInt8.lt_or_lt_of_ne e with h | h
      · exact absurd h h1
      · exact h
theorem bl_trans:∀ {x y z:List UInt8},Op.bytesLess x y=true→Op.bytesLess y z=true→Op.bytesLess x z=true
  | _,[],_,h,_=>by simp [Op.bytesLess] at h
  | _,_ :: _,[],_,h=>by simp [Op.bytesLess] at h
  | [],_ :: _,_ :: _,_,_=>rfl
  | a :: x,b :: y,c :: z,h1,h2=>by
    simp only [Op.bytesLess,Bool.or_eq_true,decide_eq_true_eq,Bool.and_eq_true,beq_iff_eq] at h1 h2 ⊢
    rcases h1 with h1 | ⟨rfl,h1⟩
    · rcases h2 with h2 | ⟨rfl,_⟩
      · exact .inl (UInt8.lt_trans h1 h2)
      · exact .inl h1
    · rcases h2 with h2 | ⟨rfl,h2⟩
      · exact .inl h2
      · exact .inr ⟨rfl,bl_trans h1 h2⟩
theorem cmpS_zero {s t:ByteArray}:cmpS s t=0 ↔ s.toList=t.toList:=by
  unfold cmpS
  constructor
  · intro h
    split at h
    · cases h
    · split at h
      · next h1=>exact beq_iff_eq.1 h1
      · cases h
  · intro h
    rw [if_neg (by rw [h,bl_irr];simp),if_pos (by rw [h];simp)]
theorem cmpS_neg (s t:ByteArray):cmpS t s = - cmpS s t:=by
  by_cases e:s.toList=t.toList
  · rw [cmpS_zero.2 e,cmpS_zero.2 e.symm];rfl
  · unfold cmpS
    rw [if_neg (c:=(s.toList==t.toList)=true) (by simpa using e),if_neg (c:=(t.toList==s.toList)=true) (by simpa using fun h=>e h.symm)]
    cases h1:Op.bytesLess s.toList t.toList with
    | true =>
      cases h2:Op.bytesLess t.toList s.toList with
      | true=>have:=bl_trans h1 h2;rw [bl_irr] at this;cases this
      | false=>rfl
    | false=>rw [bl_tot h1 e];rfl
def Tri (i j k:Int):Prop:=(i≤0→j≤0→k≤0)∧(i < 0→j≤0→k < 0)∧(i≤0→j < 0→k < 0)∧(i=0→j=0→k=0)
def lexI (i j:Int):Int:=if i≠0 then i else j
theorem lexI_tri {i1 i2 i3 r1 r2 r3:Int} (h:Tri i1 i2 i3) (hr:i1=0→i2=0→Tri r1 r2 r3):Tri (lexI i1 r1) (lexI i2 r2) (lexI i3 r3):=by
  unfold Tri lexI at *
  obtain ⟨a1,a2,a3,a4⟩:=h
  by_cases e1:i1=0
  · by_cases e2:i2=0
    · have e3:=a4 e1 e2
      rw [e1,e2,e3]
      simpa using hr e1 e2
    · rw [if_neg (by simpa using e1),if_pos e2]
      refine ⟨fun b c=>?_,fun b c=>?_,fun b c=>?_,fun b c=>absurd c e2⟩<;>(have:=a3 (by omega) (by omega);rw [if_pos (by omega)];omega)
  · rw [if_pos e1]
    by_cases e2:i2=0
    · rw [if_neg (by simpa using e2)]
      refine ⟨fun b c=>?_,fun b c=>?_,fun b c=>?_,fun b c=>absurd b e1⟩<;>(have:=a2 (by omega) (by omega);rw [if_pos (by omega)];omega)
    · rw [if_pos e2]
      refine ⟨fun b c=>?_,fun b c=>?_,fun b c=>?_,fun b c=>absurd b e1⟩<;>(have:=a2 (by omega) (by omega);rw [if_pos (by omega)];omega)
theorem cmpI_tri (a b c:Int):Tri (cmpI a b) (cmpI b c) (cmpI a c):=by
  unfold Tri cmpI
  repeat' split
  all_goals omega
theorem cmpI_neg (a b : Int) : cmpI b a = - cmpI a b := by unfold cmpI; repeat' split
                                                           all_goals omega
theorem cmpS_tri (s t u:ByteArray):Tri (cmpS s t) (cmpS t u) (cmpS s u):=by
  have key:∀ s t:ByteArray,(cmpS s t < 0 ↔ Op.bytesLess s.toList t.toList=true):=by
    intro s t
    unfold cmpS
    constructor
    · intro h
      split at h
      · assumption
      · split at h<;>omega
    · intro h;rw [if_pos h];decide
  have lt:∀ {s t:ByteArray},cmpS s t≤0→cmpS s t < 0∨s.toList=t.toList:=by
    intro s t h
    by_cases e:cmpS s t=0
    · exact .inr (cmpS_zero.1 e)
    · exact .inl (by omega)
  have cr:∀ {s t u:ByteArray},s.toList=t.toList→cmpS s u=cmpS t u:=fun h=>by unfold cmpS;rw [h]
  have cl:∀ {s t u:ByteArray},t.toList=u.toList→cmpS s t=cmpS s u:=fun h=>by unfold cmpS;rw [h]
  have tr:cmpS s t < 0→cmpS t u < 0→cmpS s u < 0:=fun a b=>(key _ _).2 (bl_trans ((key _ _).1 a) ((key _ _).1 b))
  refine ⟨fun a b=>?_,fun a b=>?_,fun a b=>?_,fun a b=>?_⟩
  · rcases lt a with a | a
    · rcases lt b with b | b
      · have:=tr a b;omega
      · rw [← cl b];omega
    · rw [cr a];exact b
  · rcases lt b with b | b
    · exact tr a b
    · rw [← cl b];exact a
  · rcases lt a with a | a
    · exact tr a b
    · rw [cr a];exact b
  · rw [cr (cmpS_zero.1 a)];exact b
theorem cmpT_lex (k k':Int) (s s':ByteArray) (n n':Int) (xs ys:List Tm) :
    cmpT (.mk k s n xs) (.mk k' s' n' ys)=lexI (cmpI k k') (lexI (cmpI n n') (lexI (cmpS s s') (lexI (cmpI xs.length ys.length) (cmpL xs ys)))):=by
  rw [cmpT];unfold lexI;rfl
theorem cmpL_lex (x y:Tm) (r q:List Tm):cmpL (x :: r) (y :: q)=lexI (cmpT x y) (cmpL r q):=by rw [cmpL];unfold lexI;rfl
mutual
theorem cmpT_tri:∀ a b c:Tm,Tri (cmpT a b) (cmpT b c) (cmpT a c)
  | .mk k s n xs,.mk k' s' n' ys,.mk k'' s'' n'' zs=>by
    rw [cmpT_lex,cmpT_lex,cmpT_lex]
    refine lexI_tri (cmpI_tri _ _ _) fun _ _=>lexI_tri (cmpI_tri _ _ _) fun _ _=>lexI_tri (cmpS_tri _ _ _) fun _ _=>lexI_tri (cmpI_tri _ _ _) fun h1 h2=>?_
    exact cmpL_tri xs ys zs (by have:=cmpI_zero.1 h1;omega) (by have:=cmpI_zero.1 h2;omega)
theorem cmpL_tri:∀ xs ys zs:List Tm,xs.length=ys.length→ys.length=zs.length→Tri (cmpL xs ys) (cmpL ys zs) (cmpL xs zs)
  | [],[],[],_,_=>by rw [cmpL];exact ⟨fun _ _=>by omega,fun _ _=>by omega,fun _ _=>by omega,fun _ _=>rfl⟩
  | [],_ :: _,_,h,_=>by simp at h
  | _ :: _,[],_,h,_=>by simp at h
  | _,_ :: _,[],_,h=>by simp at h
  | _,[],_ :: _,_,h=>by simp at h
  | x :: r,y :: q,z :: p,h1,h2=>by
    rw [cmpL_lex,cmpL_lex,cmpL_lex]
    exact lexI_tri (cmpT_tri x y z) fun _ _=>cmpL_tri r q p (by simpa using h1) (by simpa using h2)
end
theorem lexI_neg {i j i' j':Int} (h:i' = -i) (hr:i=0→j' = -j):lexI i' j' = - lexI i j:=by
  unfold lexI
  by_cases e:i=0
  · rw [if_neg (by omega),if_neg (by simpa using e),hr e]
  · rw [if_pos (by omega),if_pos e,h]
mutual
theorem cmpT_neg:∀ a b:Tm,cmpT b a = - cmpT a b
  | .mk k s n xs,.mk k' s' n' ys=>by
    rw [cmpT_lex,cmpT_lex]
    refine lexI_neg (cmpI_neg _ _) fun _=>lexI_neg (cmpI_neg _ _) fun _=>lexI_neg (cmpS_neg _ _) fun _=>lexI_neg (cmpI_neg _ _) fun h=>?_
    exact cmpL_neg xs ys (by have:=cmpI_zero.1 h;omega)
theorem cmpL_neg:∀ xs ys:List Tm,xs.length=ys.length→cmpL ys xs = - cmpL xs ys
  | [],[],_=>by rw [cmpL];rfl
  | [],_ :: _,h=>by simp at h
  | _ :: _,[],h=>by simp at h
  | x :: r,y :: q,h=>by
    rw [cmpL_lex,cmpL_lex]
    exact lexI_neg (cmpT_neg x y) fun _=>cmpL_neg r q (by simpa using h)
end
theorem lexI_zero {i j:Int}:lexI i j=0 ↔ i=0∧j=0:=by
  unfold lexI
  by_cases e:i=0
  · rw [if_neg (by simpa using e)];exact ⟨fun h=>⟨e,h⟩,fun h=>h.2⟩
  · rw [if_pos e];exact ⟨fun h=>absurd h e,fun h=>h.1⟩
mutual
theorem cmpT_zero:∀ a b:Tm,cmpT a b=0→a=b
  | .mk k s n xs,.mk k' s' n' ys=>fun h=>by
    rw [cmpT_lex,lexI_zero,lexI_zero,lexI_zero,lexI_zero] at h
    obtain ⟨h1,h2,h3,h4,h5⟩:=h
    have e1:=cmpI_zero.1 h1
    have e2:=cmpI_zero.1 h2
    have e3:s=s':=by
      exact (Lib.bytes_beq_iff _ _).1 (beq_iff_eq.2 (cmpS_zero.1 h3))
    have e5:=cmpL_zero xs ys (by have:=cmpI_zero.1 h4;omega) h5
    rw [e1,e2,e3,e5]
theorem cmpL_zero:∀ xs ys:List Tm,xs.length=ys.length→cmpL xs ys=0→xs=ys
  | [],[],_,_=>rfl
  | [],_ :: _,h,_=>by simp at h
  | _ :: _,[],h,_=>by simp at h
  | x :: r,y :: q,h,h0=>by
    rw [cmpL_lex,lexI_zero] at h0
    rw [cmpT_zero x y h0.1,cmpL_zero r q (by simpa using h) h0.2]
end
theorem cmpT_self (a:Tm):cmpT a a=0:=by have:=cmpT_neg a a;omega
theorem cmpT_iff {a b:Tm}:cmpT a b=0 ↔ a=b:=⟨cmpT_zero a b,fun h=>by rw [h];exact cmpT_self b⟩
end Go.Proofs.YtjcleokfpohpdaaGreatDoor
namespace Go.Proofs.YtjcleokfpohpdaaGreatDoor
open Go.RowKit
def ltN (s t:ByteArray):Bool:=Op.bytesLess s.toList t.toList
theorem ltN_irr (s:ByteArray):ltN s s=false:=bl_irr _
theorem ltN_trans {s t u:ByteArray} (h:ltN s t=true) (k:ltN t u=true):ltN s u=true:=bl_trans h k
theorem ltN_tot {s t:ByteArray} (h:ltN s t=false) (hn:s≠t):ltN t s=true:=bl_tot h (fun e=>hn ((Lib.bytes_beq_iff _ _).1 (by rw [e];simp)))
theorem ltN_ne {s t:ByteArray} (h:ltN s t=true):s≠t:=fun e=>by rw [e,ltN_irr] at h;cases h
theorem beq_name {s t:ByteArray}:(s.toList==t.toList)=true ↔ s=t:=Lib.bytes_beq_iff _ _
theorem getB_hit (x:Bn) (l:List Bn) {s:ByteArray} (h:x.1=s):getB (x :: l) s=some x.2:=by
  unfold getB;rw [List.find?_cons,beq_name.2 h];rfl
theorem getB_miss (x:Bn) (l:List Bn) {s:ByteArray} (h:x.1≠s):getB (x :: l) s=getB l s:=by
  unfold getB
  rw [List.find?_cons]
  cases e:(x.1.toList==s.toList) with
  | true=>exact absurd (beq_name.1 e) h
  | false=>rfl
theorem getB_none {l:List Bn} {s:ByteArray} (h:∀ x ∈ l,x.1≠s):getB l s=none:=by
  induction l with
  | nil=>rfl
  | cons x r ih=>rw [getB_miss x r (h x (by simp)),ih fun y hy=>h y (by simp [hy])]
theorem getB_isSome {l:List Bn} {s:ByteArray}:(getB l s).isSome=true ↔ ∃ x ∈ l,x.1=s:=by
  induction l with
  | nil=>simp [getB_nil]
  | cons x r ih =>
    by_cases h:x.1=s
    · rw [getB_hit x r h];simp [h]
    · rw [getB_miss x r h,ih];simp [h]
def Rising (l:List Bn):Prop:=l.Pairwise fun x y=>ltN x.1 y.1=true
theorem rising_one:∀ {l m:List Bn},Rising l→Rising m→(∀ s,getB l s=getB m s)→l=m
  | [],[],_,_,_=>rfl
  | [],y :: m,_,_,h=>by have:=h y.1;rw [getB_hit y m rfl,getB_nil] at this;cases this
  | x :: l,[],_,_,h=>by have:=h x.1;rw [getB_hit x l rfl,getB_nil] at this;cases this
  | x :: l,y :: m,hl,hm,h=>by
    unfold Rising at hl hm
    rw [List.pairwise_cons] at hl hm
    have hn:x.1=y.1:=by
      cases h1:ltN x.1 y.1 with
      | true =>
        have:=h x.1
        rw [getB_hit x l rfl,getB_miss y m (fun e=>ltN_ne h1 e.symm),getB_none fun z hz e=>by
          have:=ltN_trans h1 (hm.1 z hz)
          rw [e,ltN_irr] at this;cases this] at this
        cases this
      | false =>
        by_cases e:x.1=y.1
        · exact e
        · have h2:=ltN_tot h1 e
          have:=h y.1
          rw [getB_hit y m rfl,getB_miss x l e,getB_none fun z hz e'=>by
            have:=ltN_trans h2 (hl.1 z hz)
            rw [e',ltN_irr] at this;cases this] at this
          cases this
    have h0:=h x.1
    rw [getB_hit x l rfl,getB_hit y m hn.symm] at h0
    have hx:x=y:=Prod.ext hn (Option.some.inj h0)
    subst hx
    congr 1
    refine rising_one hl.2 hm.2 fun s=>?_
    by_cases e:x.1=s
    · rw [getB_none fun z hz e'=>ltN_ne (hl.1 z hz) (e.trans e'.symm),getB_none fun z hz e'=>ltN_ne (hm.1 z hz) (e.trans e'.symm)]
    · have:=h s
      rwa [getB_miss x l e,getB_miss x m e] at this
def insW:List ByteArray→ByteArray→List ByteArray
  | [],s=>[s]
  | x :: l,s=>if ltN x s=true then x :: insW l s else s :: x :: l
def insN (acc:List ByteArray) (s:ByteArray):List ByteArray:=if Lib.containsS acc s=true then acc else insW acc s
def namesB (l:List Bn):List ByteArray:=l.foldl (fun acc x=>insN acc x.1) []
def RiseN (l:List ByteArray):Prop:=l.Pairwise fun x y=>ltN x y=true
theorem mem_insW (s y:ByteArray):∀ l:List ByteArray,y ∈ insW l s ↔ y=s∨y ∈ l
  | []=>by simp [insW]
  | x :: l=>by
    rw [insW]
    split
    · rw [List.mem_cons,mem_insW s y l,List.mem_cons]
      constructor
      · rintro (h | h | h)<;>simp [h]
      · rintro (h | h | h)<;>simp [h]
    · simp
theorem contains_iff {l:List ByteArray} {s:ByteArray}:Lib.containsS l s=true ↔ s ∈ l:=Lib.containsS_iff l s
theorem mem_insN (s y:ByteArray) (l:List ByteArray):y ∈ insN l s ↔ y=s∨y ∈ l:=by
  unfold insN
  split
  · next h => rw [contains_iff] at h; constructor
              · exact .inr
              · rintro (rfl | h');exact h;exact h'
  · exact mem_insW s y l
theorem rise_insW (s:ByteArray):∀ {l:List ByteArray},RiseN l→s ∉ l→RiseN (insW l s)
  | [],_,_=>by simp [insW,RiseN]
  | x :: l,h,hn=>by
    unfold RiseN at h
    rw [List.pairwise_cons] at h
    rw [insW]
    have hsx:x≠s:=fun e=>hn (by simp [e])
    have hsl:s ∉ l:=fun e=>hn (by simp [e])
    split
    · next hx =>
      refine List.pairwise_cons.2 ⟨fun y hy=>?_,rise_insW s h.2 hsl⟩
      rcases (mem_insW s y l).1 hy with rfl | hy
      · exact hx
      · exact h.1 y hy
    · next hx =>
      have hx':ltN x s=false:=by simpa using hx
      have h2:=ltN_tot hx' hsx
      refine List.pairwise_cons.2 ⟨fun y hy=>?_,List.pairwise_cons.2 h⟩
      rcases List.mem_cons.1 hy with rfl | hy
      · exact h2
      · exact ltN_trans h2 (h.1 y hy)
theorem rise_insN (s:ByteArray) {l:List ByteArray} (h:RiseN l):RiseN (insN l s):=by
  unfold insN
  split
  · exact h
  · next hc=>exact rise_insW s h (fun e=>hc (contains_iff.2 e))
theorem names_fold:∀ (l:List Bn) (acc:List ByteArray),RiseN acc→RiseN (l.foldl (fun acc x=>insN acc x.1) acc)∧∀ y,y ∈ l.foldl (fun acc x=>insN acc x.1) acc ↔ y ∈ acc∨∃ x ∈ l,x.1=y
  | [],acc,h=>⟨h,fun y=>by simp⟩
  | x :: l,acc,h=>by
    obtain ⟨h1,h2⟩:=names_fold l (insN acc x.1) (rise_insN x.1 h)
    refine ⟨h1,fun y=>?_⟩
    rw [List.foldl_cons,h2,mem_insN]
    constructor
    · rintro ((rfl | h) | ⟨z,hz,rfl⟩)
      · exact .inr ⟨x,by simp,rfl⟩
      · exact .inl h
      · exact .inr ⟨z,by simp [hz],rfl⟩
    · rintro (h | ⟨z,hz,rfl⟩)
      · exact .inl (.inr h)
      · rcases List.mem_cons.1 hz with rfl | hz
        · exact .inl (.inl rfl)
        · exact .inr ⟨z,hz,rfl⟩
theorem namesB_rise (l:List Bn):RiseN (namesB l):=(names_fold l [] List.Pairwise.nil).1
theorem mem_namesB {l:List Bn} {y:ByteArray}:y ∈ namesB l ↔ ∃ x ∈ l,x.1=y:=by unfold namesB;rw [(names_fold l [] List.Pairwise.nil).2];simp
def rowOfN (f:ByteArray→Tm) (ns:List ByteArray):List Bn:=ns.map fun n=>(n,f n)
theorem rising_rowOfN {f:ByteArray→Tm} {ns:List ByteArray} (h:RiseN ns):Rising (rowOfN f ns):=by
  unfold Rising rowOfN;rw [List.pairwise_map];exact h
theorem getB_rowOfN (f:ByteArray→Tm) (ns:List ByteArray) (s:ByteArray):getB (rowOfN f ns) s=if Lib.containsS ns s=true then some (f s) else none:=by
  induction ns with
  | nil=>rfl
  | cons n r ih =>
    unfold rowOfN at ih ⊢
    rw [List.map_cons]
    by_cases h:n=s
    · rw [getB_hit _ _ h,if_pos (contains_iff.2 (by simp [h])),← h]
    · rw [getB_miss _ _ h,ih]
      have:Lib.containsS r s=Lib.containsS (n :: r) s:=by
        rw [Bool.eq_iff_iff,contains_iff,contains_iff,List.mem_cons]
        constructor
        · exact .inr
        · rintro (e | e);exact absurd e.symm h;exact e
      rw [this]
def ofB (l:List Bn):List Bn:=rowOfN (fun n=>(getB l n).getD (.mk 0 ⟨#[]⟩ 0 [])) (namesB l)
theorem ofB_rising (l:List Bn):Rising (ofB l):=rising_rowOfN (namesB_rise l)
theorem ofB_get (l:List Bn) (s:ByteArray):getB (ofB l) s=getB l s:=by
  unfold ofB
  rw [getB_rowOfN]
  cases h:getB l s with
  | some t =>
    have:s ∈ namesB l:=mem_namesB.2 (getB_isSome.1 (by rw [h];rfl))
    rw [if_pos (contains_iff.2 this)];rfl
  | none =>
    rw [if_neg]
    intro hc
    have:=getB_isSome.2 (mem_namesB.1 (contains_iff.1 hc))
    rw [h] at this;cases this
theorem ofB_one {l m:List Bn} (h:Rising m) (hg:∀ s,getB m s=getB l s):m=ofB l:=rising_one h (ofB_rising l) fun s=>(hg s).trans (ofB_get l s).symm
end Go.Proofs.YtjcleokfpohpdaaGreatDoor
