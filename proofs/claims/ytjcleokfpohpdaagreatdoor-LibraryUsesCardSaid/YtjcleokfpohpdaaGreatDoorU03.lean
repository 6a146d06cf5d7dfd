/-
  Rules in memory: each two terms; rows of rules. No function of the program.
  Terms with their variables by number, and whether two rules are alike but for names: as data. No function of the program.
  Classes of bytes, as data. No function of the program.
  How many bytes that may be part of a word stand at a place of a text: what parts of package lex answers, and Long of the reference, for every text and every place in it. Neither changes anything. (as data)
  Words, as data. No function of the program.
  Plain facts on bytes and decimal digits: what text a number has, and that no two numbers have the same one. Nothing of the program.
  Digits and Number of package chars, and the same of the reference: a number in decimal, and the number from 0 to 999 that a text is; in every world in which the listed variables of strconv hold what they were laid with. Each call makes new memory alone. (as data)
  The token that a text begins with: token, word, sign and number of package lex. (as data)
  The token that a text begins with, as token of package lex tells it, and as At of the reference tells it of any place of a text. (as data)
  The token that begins at a place of a text, as At of the reference tells it. (as data)
  Tokens as data, and slices that read as rows of them; whether tokens are few and short, by the reference. (as data)
  Whether two rows of tokens are alike in all, by the reference, for any two rows. (as data)
  Rows of tokens that the call itself makes: the tokens without their places, by the reference and by package lex. (as data)
-/
import Derived.Test.YtjcleokfpohpdaaGreatDoorU02
import Derived.Test.YtjcleokfpohpdaaGreatDoorU01
import Derived.Lib.Hide
import Derived.Lib.ItoaNum
import Derived.Lib.ItoaMem
import Derived.Lib.AtoiTie
import Derived.Lib.AtoiAllCases
import Derived.Lib.ItoaLen
import Derived.WalkSpells
import Derived.Below
import Derived.Laws.OwnMore
import Derived.Lib.SlicesS
import Derived.OwnWalk
import Derived.Laws.MakeOwn
namespace Go.Proofs.YtjcleokfpohpdaaGreatDoor
open Go.RowKit
abbrev Rl:=Tm × Tm
def RlAt (w:World) (x:Rl) (b o:Nat):Prop:=TmAt w x.1 b o∧TmAt w x.2 b (o + 4)
def Rls (w:World) (v:Value) (rs:List Rl):Prop:=∃ a c,v=.slice a rs.length c∧(rs.length≤9223372036854775807∧rs.length≤c)∧(rs=[]∨∃ b o,a=some ⟨b,o,none⟩∧b < w.heap.size∧∀ (j:Nat) x,rs[j]? = some x→RlAt w x b (o + j * 8))
theorem RlAt.below {w w':World} {x:Rl} {b o:Nat} (h:RlAt w x b o) (hb:Below w.heap.size w w'):RlAt w' x b o:=⟨h.1.below hb,h.2.below hb⟩
theorem Rls.below {w w':World} {v:Value} {rs:List Rl} (h:Rls w v rs) (hb:Below w.heap.size w w'):Rls w' v rs:=by
  obtain ⟨a,c,hv,hl,h⟩:=h
  refine ⟨a,c,hv,hl,?_⟩
  rcases h with h | ⟨b,o,ha,hlt,h⟩
  · exact .inl h
  · exact .inr ⟨b,o,ha,Nat.lt_of_lt_of_le hlt hb.size,fun j x hj=>(h j x hj).below hb⟩
theorem Rls.none_ (w:World) (a:Option Addr) (c:Nat):Rls w (.slice a 0 c) []:=⟨a,c,rfl,by simp,.inl rfl⟩
structure Qv where
  l:Tv
  r:Tv
def Qv.cells (x:Qv):List Value:=[.int .i64 x.l.t.kind,.string x.l.t.name,.int .i64 x.l.t.n,.slice x.l.a x.l.t.args.length x.l.c,.int .i64 x.r.t.kind,.string x.r.t.name,.int .i64 x.r.t.n,.slice x.r.a x.r.t.args.length x.r.c]
def Qv.val (x:Qv):Value:=.agg #[.int .i64 x.l.t.kind,.string x.l.t.name,.int .i64 x.l.t.n,.slice x.l.a x.l.t.args.length x.l.c,.int .i64 x.r.t.kind,.string x.r.t.name,.int .i64 x.r.t.n,.slice x.r.a x.r.t.args.length x.r.c]
def Qv.rl (x:Qv):Rl:=(x.l.t,x.r.t)
def Qv.ok (w:World) (x:Qv):Prop:=x.l.ok w∧x.r.ok w
theorem Qv.ok.below {w w':World} {x:Qv} (h:Qv.ok w x) (hb:Below w.heap.size w w'):Qv.ok w' x:=⟨h.1.below hb,h.2.below hb⟩
structure QvAt (w:World) (b o:Nat) (x:Qv):Prop where
  c0:w.cell? ⟨b,o,none⟩=some (.int .i64 x.l.t.kind)
  c1:w.cell? ⟨b,o + 1,none⟩=some (.string x.l.t.name)
  c2:w.cell? ⟨b,o + 2,none⟩=some (.int .i64 x.l.t.n)
  c3:w.cell? ⟨b,o + 3,none⟩=some (.slice x.l.a x.l.t.args.length x.l.c)
  c4:w.cell? ⟨b,o + 4,none⟩=some (.int .i64 x.r.t.kind)
  c5:w.cell? ⟨b,o + 5,none⟩=some (.string x.r.t.name)
  c6:w.cell? ⟨b,o + 6,none⟩=some (.int .i64 x.r.t.n)
  c7:w.cell? ⟨b,o + 7,none⟩=some (.slice x.r.a x.r.t.args.length x.r.c)
theorem rlAt_qv {w:World} {x:Rl} {b o:Nat} (h:RlAt w x b o):∃ y:Qv,y.rl=x∧y.ok w∧QvAt w b o y:=by
  obtain ⟨u,hu,hk,h0,h1,h2,h3⟩:=tmAt_tv h.1
  obtain ⟨v,hv,hm,k0,k1,k2,k3⟩:=tmAt_tv h.2
  exact ⟨⟨u,v⟩,by unfold Qv.rl;rw [hu,hv],⟨hk,hm⟩,h0,h1,h2,h3,k0,k1,k2,k3⟩
theorem qv_rlAt {w:World} {y:Qv} {b o:Nat} (hk:y.ok w) (h:QvAt w b o y):RlAt w y.rl b o :=
  ⟨tv_tmAt hk.1 ⟨h.c0,h.c1,h.c2,h.c3⟩,tv_tmAt hk.2 ⟨h.c4,h.c5,h.c6,h.c7⟩⟩
theorem QvAt.below {w w':World} {b o:Nat} {x:Qv} (h:QvAt w b o x) (hb:Below w.heap.size w w'):QvAt w' b o x :=
  have hlt:=lt_of_cell h.c0
  ⟨(hb.cell (p:=⟨b,o,none⟩) hlt).trans h.c0,(hb.cell (p:=⟨b,o + 1,none⟩) hlt).trans h.c1,(hb.cell (p:=⟨b,o + 2,none⟩) hlt).trans h.c2,(hb.cell (p:=⟨b,o + 3,none⟩) hlt).trans h.c3,(hb.cell (p:=⟨b,o + 4,none⟩) hlt).trans h.c4,(hb.cell (p:=⟨b,o + 5,none⟩) hlt).trans h.c5,(hb.cell (p:=⟨b,o + 6,none⟩) hlt).trans h.c6,(hb.cell (p:=⟨b,o + 7,none⟩) hlt).trans h.c7⟩
def rowQv (ss:List Qv):List Value:=ss.flatMap Qv.cells
theorem rowQv_length (vs:List Qv):(rowQv vs).length=vs.length * 8:=by
  unfold rowQv
  induction vs with
  | nil=>rfl
  | cons v r ih=>rw [List.flatMap_cons,List.length_append,ih,List.length_cons];simp [Qv.cells];omega
theorem rowQv_append (a b:List Qv):rowQv (a ++ b)=rowQv a ++ rowQv b:=by unfold rowQv;rw [List.flatMap_append]
theorem rowQv_one (v:Qv):rowQv [v]=v.cells:=by unfold rowQv;simp
theorem rowQv_get:∀ (vs:List Qv) (j:Nat) (h:j < vs.length) (i:Nat),i < 8→(rowQv vs)[j * 8 + i]? = vs[j].cells[i]?
  | [],_,h,_,_=>by simp at h
  | v :: r,0,_,i,hi=>by
    unfold rowQv
    rw [List.flatMap_cons,List.getElem?_append_left (by simp [Qv.cells];omega)];simp
  | v :: r,j + 1,h,i,hi=>by
    have:=rowQv_get r j (by simpa using h) i hi
    unfold rowQv at this ⊢
    rw [List.flatMap_cons,List.getElem?_append_right (by simp [Qv.cells];omega)]
    rw [show (j + 1) * 8 + i - v.cells.length=j * 8 + i from by simp [Qv.cells];omega,this]
    simp
theorem rowQv_one' (vs:List Qv):∀ u ∈ rowQv vs,u.oneCell'=true:=by
  intro u hu
  unfold rowQv at hu
  obtain ⟨v,_,hv⟩:=List.mem_flatMap.1 hu
  simp only [Qv.cells,List.mem_cons,List.not_mem_nil,or_false] at hv
  rcases hv with rfl | rfl | rfl | rfl | rfl | rfl | rfl | rfl<;>rfl
structure RowQ (W:World) (e:TypeId) (base:Nat) (v:Value) (rs:List Rl):Prop where
  row:∃ vs:List Qv,vs.map Qv.rl=rs∧(∀ y ∈ vs,y.ok W)∧W.ownsRow base e 8 v rs.length (rowQv vs)
theorem RowQ.rls {W:World} {e:TypeId} {base:Nat} {v:Value} {rs:List Rl} (h:RowQ W e base v rs) (hl:rs.length≤9223372036854775807):Rls W v rs:=by
  obtain ⟨vs,rfl,hok,hn,h⟩:=h
  rcases h with ⟨rfl,h0⟩ | ⟨g,cap,cur,rfl,_,hg,hcap,hmax,hsz,htake⟩
  · have:vs=[]:=by simpa using h0
    subst this
    exact Rls.none_ _ _ _
  · refine ⟨_,cap,rfl,⟨hl,hcap⟩,.inr ⟨g,0,rfl,(Array.getElem?_eq_some_iff.1 hg).1,fun j x hj=>?_⟩⟩
    rw [List.getElem?_map] at hj
    have hjv:j < vs.length:=by
      rcases Nat.lt_or_ge j vs.length with h | h
      · exact h
      · rw [List.getElem?_eq_none h] at hj;cases hj
    rw [List.getElem?_eq_getElem hjv] at hj
    injection hj with hj
    subst hj
    have cell:∀ i,i < 8→W.cell? ⟨g,0 + j * 8 + i,none⟩=vs[j].cells[i]? := by
      intro i hi
      rw [cell_of_row W g (0 + j * 8 + i) cur _ (0,0) hg,← rowQv_get vs j hjv i hi,← htake,List.getElem?_take,if_pos (by simp;omega),Nat.zero_add]
      simp
    exact qv_rlAt (hok _ (List.getElem_mem hjv)) ⟨cell 0 (by omega),cell 1 (by omega),cell 2 (by omega),cell 3 (by omega),cell 4 (by omega),cell 5 (by omega),cell 6 (by omega),cell 7 (by omega)⟩
theorem eight_box (w:World) (x:Qv) (t:TypeId):QvAt (w.alloc (.cells x.cells.toArray t)) w.heap.size 0 x:=by
  have h:=fun i=>World.cell?_alloc_mark w x.cells.toArray t (0,0) i
  exact ⟨h 0,h 1,h 2,h 3,h 4,h 5,h 6,h 7⟩
end Go.Proofs.YtjcleokfpohpdaaGreatDoor
namespace Go.Proofs.YtjcleokfpohpdaaGreatDoor
open Go.RowKit
def addN (acc:List ByteArray) (v:ByteArray):List ByteArray:=if Lib.containsS acc v=false then acc ++ [v] else acc
def canonN (l:List Tm):List ByteArray:=(l.flatMap Tm.vars).foldl addN []
theorem addN_has {acc:List ByteArray} {v:ByteArray} (h:Lib.containsS acc v=true):addN acc v=acc:=by unfold addN;rw [h];rfl
theorem addN_keeps {acc:List ByteArray} {u:ByteArray} (v:ByteArray) (h:u ∈ acc):u ∈ addN acc v:=by
  unfold addN;split
  · exact List.mem_append_left _ h
  · exact h
theorem addN_new (acc:List ByteArray) (v:ByteArray):v ∈ addN acc v:=by
  unfold addN
  split
  · simp
  · next h=>exact (Lib.containsS_iff _ _).1 (by simpa using h)
theorem foldN_keeps:∀ (l acc:List ByteArray) {u:ByteArray},u ∈ acc→u ∈ l.foldl addN acc
  | [],_,_,h=>h
  | v :: r,acc,_,h=>foldN_keeps r (addN acc v) (addN_keeps v h)
theorem foldN_mem:∀ (l acc:List ByteArray) {u:ByteArray},u ∈ l→u ∈ l.foldl addN acc
  | v :: r,acc,u,h=>by
    rcases List.mem_cons.1 h with rfl | h
    · exact foldN_keeps r _ (addN_new acc u)
    · exact foldN_mem r _ h
theorem varStep_addN (acc:List ByteArray) (t:Tm):varStep acc t=if (t.kind==1)=true then addN acc t.name else acc:=by
  unfold varStep addN
  by_cases h:(t.kind==1)=true
  · rw [if_pos h]
    by_cases k:Lib.containsS acc t.name=false
    · rw [if_pos ⟨h,k⟩,if_pos k]
    · rw [if_neg (fun e=>k e.2),if_neg k]
  · rw [if_neg h,if_neg (fun e=>h e.1)]
theorem fold_varsTo (acc:List ByteArray) (ts:List Tm):∀ k,k≤ts.length→(varsL (ts.take k)).foldl addN acc=(ts.take k).foldl varStep acc
  | 0,_=>rfl
  | k + 1,hk=>by
    have h0:k < ts.length:=by omega
    have ih:=fold_varsTo acc ts k (by omega)
    rw [varsL_take h0,List.take_succ_eq_append_getElem h0,List.foldl_append,List.foldl_cons,List.foldl_nil,← ih]
    rw [varStep_addN,varStep_addN]
    by_cases h:(ts[k].kind==1)=true
    · rw [if_pos h,if_pos h]
      by_cases q:Lib.containsS (varsL (ts.take k)) ts[k].name=false
      · rw [show addN (varsL (ts.take k)) ts[k].name=varsL (ts.take k) ++ [ts[k].name] from by unfold addN;rw [if_pos q],List.foldl_append];rfl
      · have hm:=(Lib.containsS_iff _ _).1 (show Lib.containsS (varsL (ts.take k)) ts[k].name=true by simpa using q)
        rw [addN_has (by simpa using q),addN_has ((Lib.containsS_iff _ _).2 (foldN_mem _ acc hm))]
    · rw [if_neg h,if_neg h]
theorem fold_vars (acc:List ByteArray) (ts:List Tm):(varsL ts).foldl addN acc=ts.foldl varStep acc:=by
  have h:=fold_varsTo acc ts ts.length (Nat.le_refl _)
  rwa [List.take_length] at h
theorem fold_all (acc:List ByteArray):∀ (l:List Tm),(l.flatMap Tm.vars).foldl addN acc=(l.flatMap Tm.all).foldl varStep acc
  | []=>rfl
  | t :: r=>by
    rw [List.flatMap_cons,List.flatMap_cons,List.foldl_append,List.foldl_append]
    show (r.flatMap Tm.vars).foldl addN ((varsL t.all).foldl addN acc)=_
    rw [fold_vars acc t.all]
    exact fold_all _ r
theorem allL_flat:∀ l:List Tm,allL l=l.flatMap Tm.all
  | []=>by rw [allL];rfl
  | t :: r=>by rw [allL,allL_flat r,List.flatMap_cons]
theorem canonN_is (s:ByteArray) (n:Int) (l:List Tm):canonN l=(Tm.mk 5 s n l).vars:=by
  unfold canonN
  rw [fold_all]
  unfold Tm.vars varsL
  have h:(Tm.mk 5 s n l).all=Tm.mk 5 s n l :: l.flatMap Tm.all:=by
    rw [all_eq,allL_flat];rfl
  rw [h,List.foldl_cons,varStep_addN]
  rfl
end Go.Proofs.YtjcleokfpohpdaaGreatDoor
namespace Go.Proofs.YtjcleokfpohpdaaGreatDoor
open Go.RowKit
def cls (b:Int):Int :=
  if 97≤b∧b≤122 then 1 else if 65≤b∧b≤90 then 2 else if 48≤b∧b≤57 then 3
  else if b=40∨b=41∨b=44∨b=47∨b=61∨b=46∨b=59∨b=58∨b=36∨b=37 then 4
  else if b=32∨b=10∨b=13∨b=9 then 5 else 0
def part (b:Int):Bool:=decide (1≤cls b∧cls b≤3∨b=95)
theorem cls_bd (b:Int):0≤cls b∧cls b≤5:=by
  unfold cls;repeat' split
  all_goals omega
def among (l:List UInt8) (b:Int):Bool:=l.any fun x=>decide ((x.toNat:Int)=b)
theorem take_snoc (s:ByteArray) (k:Nat) (h:k < s.size):s.data.toList.take (k + 1)=s.data.toList.take k ++ [s[k]]:=by
  rw [List.take_succ_eq_append_getElem (by simpa using h)];rfl
theorem take_all (s:ByteArray):s.data.toList.take s.size=s.data.toList:=List.take_of_length_le (by simp)
theorem among_snoc (s:ByteArray) (b:Int) (k:Nat) (h:k < s.size):among (s.data.toList.take (k + 1)) b=(among (s.data.toList.take k) b||decide ((s[k].toNat:Int)=b)):=by
  rw [take_snoc s k h];unfold among;rw [List.any_append];simp
theorem among_take (s:ByteArray) (b:Int) (k:Nat) (h:among (s.data.toList.take k) b=true):among s.data.toList b=true:=by
  unfold among at *;rw [List.any_eq_true] at *;obtain ⟨x,hx,hy⟩:=h;exact ⟨x,List.mem_of_mem_take hx,hy⟩
theorem among_signs (b:Int):among [40,41,44,47,61,46,59,58,36,37] b=decide (b=40∨b=41∨b=44∨b=47∨b=61∨b=46∨b=59∨b=58∨b=36∨b=37):=by
  rw [Bool.eq_iff_iff];simp only [among,List.any_cons,List.any_nil,Bool.or_eq_true,decide_eq_true_eq]
  simp only [show (40:UInt8).toNat=40 from rfl,show (41:UInt8).toNat=41 from rfl,show (44:UInt8).toNat=44 from rfl,show (47:UInt8).toNat=47 from rfl,show (61:UInt8).toNat=61 from rfl,show (46:UInt8).toNat=46 from rfl,show (59:UInt8).toNat=59 from rfl,show (58:UInt8).toNat=58 from rfl,show (36:UInt8).toNat=36 from rfl,show (37:UInt8).toNat=37 from rfl]
  constructor
  · intro h;simp only [Bool.false_eq_true,or_false] at h;omega
  · intro h;simp only [Bool.false_eq_true,or_false];omega
end Go.Proofs.YtjcleokfpohpdaaGreatDoor
namespace Go.Proofs.YtjcleokfpohpdaaGreatDoor
open Go.RowKit
def pc (c:UInt8):Bool:=part (c.toNat:Int)
def run (s:ByteArray) (i:Nat):Nat:=((s.data.toList.drop i).takeWhile pc).length
theorem drop_cons (s:ByteArray) {i:Nat} (h:i < s.size):s.data.toList.drop i=s[i] :: s.data.toList.drop (i + 1) :=
  List.drop_eq_getElem_cons (by simpa using h)
theorem run_some (s:ByteArray) {i:Nat} (h:i < s.size) (hp:part (s[i].toNat:Int)=true):run s i=run s (i + 1) + 1:=by
  unfold run;rw [drop_cons s h,List.takeWhile_cons_of_pos (by exact hp)];rfl
theorem run_none (s:ByteArray) {i:Nat} (h:i < s.size) (hp:part (s[i].toNat:Int)=false):run s i=0:=by
  unfold run;rw [drop_cons s h,List.takeWhile_cons_of_neg (by show ¬ (part (s[i].toNat:Int)=true);rw [hp];simp)];rfl
theorem run_end (s:ByteArray):run s s.size=0:=by
  unfold run;rw [List.drop_of_length_le (by simp)];rfl
theorem run_le (s:ByteArray) {i:Nat} (h:i≤s.size):i + run s i≤s.size:=by
  unfold run
  have h1:=(List.takeWhile_sublist pc (l:=s.data.toList.drop i)).length_le
  rw [List.length_drop] at h1
  have h2:s.data.toList.length=s.size:=by simp
  omega
end Go.Proofs.YtjcleokfpohpdaaGreatDoor
namespace Go.Proofs.YtjcleokfpohpdaaGreatDoor
open Go.RowKit
def keyList:List ByteArray:=[⟨#[102,117,110]⟩,⟨#[110,97,109,101]⟩,⟨#[114,117,108,101]⟩,⟨#[102,114,97,109,101]⟩,⟨#[100,101,100,117,99,101]⟩,⟨#[101,113,117,105,118]⟩,⟨#[110,111,114,109,97,108]⟩,⟨#[117,115,101]⟩]
def allPart (l:List UInt8):Bool:=l.all fun c=>part (c.toNat:Int)
theorem allPart_snoc (s:ByteArray) (k:Nat) (h:k < s.size):allPart (s.data.toList.take (k + 1))=(allPart (s.data.toList.take k)&&part (s[k].toNat:Int)):=by
  rw [take_snoc s k h];unfold allPart;rw [List.all_append];simp
theorem allPart_bad (s:ByteArray) (k:Nat) (h:k < s.size) (hp:part (s[k].toNat:Int)=false):allPart s.data.toList=false:=by
  unfold allPart
  rw [← Bool.not_eq_true,List.all_eq_true]
  intro hall
  have:=hall s[k] (by rw [show s[k]=s.data.toList[k]'(by simpa using h) from rfl];exact List.getElem_mem _)
  rw [hp] at this;cases this
def fitAt (s:ByteArray) (f:Int) (k:Nat):Bool:=if k=0 then (cls ((s.data.toList.getD k 0).toNat:Int)==f) else part ((s.data.toList.getD k 0).toNat:Int)
theorem fitAt_zero {s:ByteArray} {f:Int} (h:0 < s.size):fitAt s f 0=(cls (s[0].toNat:Int)==f):=by
  unfold fitAt;rw [if_pos rfl]
  have:s.data.toList.getD 0 0=s[0]:=by rw [List.getD,List.getElem?_eq_getElem (by simpa using h)];rfl
  rw [this]
theorem fitAt_next {s:ByteArray} {f:Int} {k:Nat} (h:k < s.size) (hk:k≠0):fitAt s f k=part (s[k].toNat:Int):=by
  unfold fitAt;rw [if_neg hk]
  have:s.data.toList.getD k 0=s[k]:=by rw [List.getD,List.getElem?_eq_getElem (by simpa using h)];rfl
  rw [this]
def FitsTo (s:ByteArray) (f:Int) (k:Nat):Prop:=∀ j,j < k→fitAt s f j=true
theorem FitsTo.succ {s:ByteArray} {f:Int} {k:Nat} (h:FitsTo s f k) (hk:fitAt s f k=true):FitsTo s f (k + 1):=by
  intro j hj
  by_cases e:j=k
  · rw [e];exact hk
  · exact h j (by omega)
def fitsAll (s:ByteArray) (f:Int):Bool:=(List.range s.size).all fun j=>fitAt s f j
theorem FitsTo.all {s:ByteArray} {f:Int} (h:FitsTo s f s.size):fitsAll s f=true:=by
  unfold fitsAll;rw [List.all_eq_true];intro j hj;exact h j (List.mem_range.1 hj)
theorem fitsAll_bad {s:ByteArray} {f:Int} {k:Nat} (hk:k < s.size) (h:fitAt s f k=false):fitsAll s f=false:=by
  unfold fitsAll;rw [← Bool.not_eq_true,List.all_eq_true];intro hall
  have:=hall k (List.mem_range.2 hk)
  rw [h] at this;cases this
def speltB (s:ByteArray) (f:Int):Bool:=decide (1≤s.size∧s.size≤20)&&fitsAll s f
theorem toList_empty {s:ByteArray} (h:s.size=0):s.toList=[]:=by
  rw [ByteArray.toList_eq];exact List.eq_nil_of_length_eq_zero (by simpa using h)
theorem toList_some {s:ByteArray} (h:1≤s.size):s.toList.isEmpty=false:=by
  rw [ByteArray.toList_eq]
  cases hd:s.data.toList with
  | nil =>
    have:s.size=0:=by
      have:=congrArg List.length hd
      simpa using this
    omega
  | cons c r=>rfl
def wordB (s:ByteArray):Bool:=speltB s 1 && !Lib.containsS keyList s
def upperB (s:ByteArray):Bool:=speltB s 2 && !Lib.containsS keyList s
theorem allPart_iff (s:ByteArray):allPart s.data.toList=true ↔ ∀ j (h:j < s.size),part (s[j].toNat:Int)=true:=by
  unfold allPart
  rw [List.all_eq_true]
  constructor
  · intro h j hj
    exact h s[j] (by rw [show s[j]=s.data.toList[j]'(by simpa using hj) from rfl];exact List.getElem_mem _)
  · intro h c hc
    obtain ⟨j,hj,rfl⟩:=List.getElem_of_mem hc
    exact h j (by simpa using hj)
theorem fitsAll_iff (s:ByteArray) (f:Int):fitsAll s f=true ↔ ∀ j,j < s.size→fitAt s f j=true:=by
  unfold fitsAll
  rw [List.all_eq_true]
  exact ⟨fun h j hj=>h j (List.mem_range.2 hj),fun h j hj=>h j (List.mem_range.1 hj)⟩
theorem part_of_cls {b f:Int} (hf:f=1∨f=2) (h:cls b=f):part b=true:=by
  unfold part;rw [decide_eq_true_eq];left;omega
theorem fits_eq {s:ByteArray} {f:Int} (hf:f=1∨f=2) (h0:0 < s.size):fitsAll s f=((cls (s[0].toNat:Int)==f)&&allPart s.data.toList):=by
  rw [Bool.eq_iff_iff,Bool.and_eq_true,fitsAll_iff,allPart_iff,beq_iff_eq]
  constructor
  · intro h
    have h1:=h 0 h0
    rw [fitAt_zero h0,beq_iff_eq] at h1
    refine ⟨h1,fun j hj=>?_⟩
    by_cases e:j=0
    · subst e;exact part_of_cls hf h1
    · have:=h j hj
      rwa [fitAt_next hj e] at this
  · rintro ⟨h1,h2⟩ j hj
    by_cases e:j=0
    · subst e;rw [fitAt_zero h0,beq_iff_eq];exact h1
    · rw [fitAt_next hj e];exact h2 j hj
theorem keys_low:∀ s ∈ keyList,∃ h:0 < s.size,cls (s[0].toNat:Int)=1:=by
  intro s hs
  simp only [keyList,List.mem_cons,List.not_mem_nil,or_false] at hs
  rcases hs with rfl | rfl | rfl | rfl | rfl | rfl | rfl | rfl
  all_goals exact ⟨by decide,by decide⟩
theorem upper_spelt (s:ByteArray):upperB s=speltB s 2:=by
  unfold upperB
  cases hk:Lib.containsS keyList s with
  | false=>simp
  | true =>
    obtain ⟨h0,h1⟩:=keys_low s ((Lib.containsS_iff _ _).1 hk)
    have:fitsAll s 2=false:=by rw [fits_eq (.inr rfl) h0,h1];rfl
    unfold speltB;rw [this];simp
end Go.Proofs.YtjcleokfpohpdaaGreatDoor
namespace Go.Proofs.YtjcleokfpohpdaaGreatDoor
def decVal (l:List UInt8):Nat:=l.foldl (fun a c=>10 * a + (c.toNat - 48)) 0
theorem decVal_snoc (l:List UInt8) (c:UInt8):decVal (l ++ [c])=10 * decVal l + (c.toNat - 48):=by simp [decVal]
theorem digit_val {d:Nat} (h:d < 10):(UInt8.ofNat (48 + d)).toNat=48 + d:=by
  simp;omega
theorem decDigits_big {u:Nat} (h:¬ u < 10):Lib.decDigits u=Lib.decDigits (u / 10) ++ [UInt8.ofNat (48 + u % 10)]:=by
  rw [Lib.decDigits,dif_neg h]
theorem decVal_digits (u:Nat):decVal (Lib.decDigits u)=u:=by
  induction u using Nat.strongRecOn with
  | ind u ih =>
    by_cases h:u < 10
    · rw [Lib.decDigits_one h]
      have:=decVal_snoc [] (UInt8.ofNat (48 + u))
      rw [List.nil_append] at this
      rw [this,digit_val h];simp [decVal]
    · rw [decDigits_big h,decVal_snoc,ih (u / 10) (by omega),digit_val (by omega)];omega
theorem decDigits_inj {a b:Nat} (h:Lib.decDigits a=Lib.decDigits b):a=b:=by
  rw [← decVal_digits a,← decVal_digits b,h]
def numOf (l:List UInt8):Option Nat:=(List.range 1000).find? fun n=>Lib.decDigits n==l
theorem numOf_some {l:List UInt8} {n:Nat} (h:numOf l=some n):n≤999∧Lib.decDigits n=l:=by
  unfold numOf at h
  have h1:=List.find?_some h
  have h2:=List.mem_of_find?_eq_some h
  rw [List.mem_range] at h2
  exact ⟨by omega,by simpa using h1⟩
theorem numOf_none {l:List UInt8} (h:numOf l=none) (n:Nat) (hn:n≤999):Lib.decDigits n≠l:=by
  unfold numOf at h
  rw [List.find?_eq_none] at h
  have:=h n (by rw [List.mem_range];omega)
  simpa using this
theorem numOf_digits {n:Nat} (h:n≤999):numOf (Lib.decDigits n)=some n:=by
  cases hn:numOf (Lib.decDigits n) with
  | none=>exact absurd rfl (numOf_none hn n h)
  | some m=>rw [decDigits_inj (numOf_some hn).2]
def numVal (l:List UInt8):Int:=((numOf l).getD 0:Nat)
def isNum (l:List UInt8):Bool:=(numOf l).isSome
end Go.Proofs.YtjcleokfpohpdaaGreatDoor
namespace Go.Proofs.YtjcleokfpohpdaaGreatDoor
open Go.RowKit
theorem numVal_none {l:List UInt8} (h:numOf l=none):numVal l=0:=by unfold numVal;rw [h];rfl
theorem isNum_none {l:List UInt8} (h:numOf l=none):isNum l=false:=by unfold isNum;rw [h];rfl
theorem numVal_some {l:List UInt8} {n:Nat} (h:numOf l=some n):numVal l=n:=by unfold numVal;rw [h];rfl
theorem isNum_some {l:List UInt8} {n:Nat} (h:numOf l=some n):isNum l=true:=by unfold isNum;rw [h];rfl
def numEnd (s:ByteArray):Ending:=.returned (.tuple #[.int .i64 (numVal s.data.toList),.bool (isNum s.data.toList)])
theorem numEnd_none {s:ByteArray} (h:numOf s.data.toList=none):Ending.returned (.tuple #[.int .i64 0,.bool false])=numEnd s:=by
  unfold numEnd;rw [numVal_none h,isNum_none h]
theorem numEnd_some {s:ByteArray} {n:Nat} (h:numOf s.data.toList=some n):Ending.returned (.tuple #[.int .i64 n,.bool true])=numEnd s:=by
  unfold numEnd;rw [numVal_some h,isNum_some h]
def NoneYet (l:List UInt8) (k:Nat):Prop:=∀ j,j < k→Lib.decDigits j≠l
theorem NoneYet.succ {l:List UInt8} {k:Nat} (h:NoneYet l k) (hk:Lib.decDigits k≠l):NoneYet l (k + 1):=by
  intro j hj
  by_cases e:j=k
  · rw [e];exact hk
  · exact h j (by omega)
theorem NoneYet.none {l:List UInt8} (h:NoneYet l 1000):numOf l=none:=by
  cases hn:numOf l with
  | none=>rfl
  | some m=>exact absurd (numOf_some hn).2 (h m (by have:=(numOf_some hn).1;omega))
theorem num_here {l:List UInt8} {k:Nat} (hk:k≤999) (h:Lib.decDigits k=l):numOf l=some k:=by rw [← h];exact numOf_digits hk
end Go.Proofs.YtjcleokfpohpdaaGreatDoor
namespace Go.Proofs.YtjcleokfpohpdaaGreatDoor
open Go.RowKit
structure Cut where
  kind:Int
  n:Int
  len:Nat
def numCut (kind:Int) (t:List UInt8) (least:Int) (len:Nat):Option Cut:=if isNum t=true∧¬ numVal t < least then some ⟨kind,numVal t,len⟩ else none
def bs (l:List UInt8):ByteArray:=⟨l.toArray⟩
def head (l:List UInt8):Int:=((l.headD 0).toNat:Int)
def tokL (l:List UInt8):Option Cut :=
  if head l=36 then numCut 4 (l.tail.takeWhile pc) 1 (1 + (l.tail.takeWhile pc).length)
  else if head l=37 then numCut 5 (l.tail.takeWhile pc) 0 (1 + (l.tail.takeWhile pc).length)
  else if cls (head l)=4 then some ⟨6,0,1⟩
  else if cls (head l)=3 then numCut 3 (l.takeWhile pc) 0 (l.takeWhile pc).length
  else if cls (head l)=1∨cls (head l)=2 then
    if upperB (bs (l.takeWhile pc))=true then some ⟨2,0,(l.takeWhile pc).length⟩
    else if wordB (bs (l.takeWhile pc))=true∨Lib.containsS keyList (bs (l.takeWhile pc))=true then some ⟨1,0,(l.takeWhile pc).length⟩ else none
  else none
theorem numVal_bd (l:List UInt8):0≤numVal l∧numVal l≤999:=by
  cases h:numOf l with
  | none=>rw [numVal_none h];omega
  | some n=>rw [numVal_some h];have:=(numOf_some h).1;omega
def wordCut (t:ByteArray) (len:Nat):Option Cut :=
  if upperB t=true then some ⟨2,0,len⟩ else if wordB t=true∨Lib.containsS keyList t=true then some ⟨1,0,len⟩ else none
end Go.Proofs.YtjcleokfpohpdaaGreatDoor
namespace Go.Proofs.YtjcleokfpohpdaaGreatDoor
open Go.RowKit
theorem tw_take (p:UInt8→Bool) (l:List UInt8):l.take (l.takeWhile p).length=l.takeWhile p:=by
  induction l with
  | nil=>rfl
  | cons c r ih =>
    cases hc:p c with
    | true=>rw [List.takeWhile_cons_of_pos hc,List.length_cons,List.take_succ_cons,ih]
    | false=>rw [List.takeWhile_cons_of_neg (by rw [hc];simp)];rfl
theorem tw_len (p:UInt8→Bool) (l:List UInt8):(l.takeWhile p).length≤l.length:=(List.takeWhile_sublist p (l:=l)).length_le
theorem tokL_36 {l:List UInt8} (h:head l=36):tokL l=numCut 4 (l.tail.takeWhile pc) 1 (1 + (l.tail.takeWhile pc).length):=by
  unfold tokL;rw [if_pos h]
theorem tokL_37 {l:List UInt8} (h:head l=37):tokL l=numCut 5 (l.tail.takeWhile pc) 0 (1 + (l.tail.takeWhile pc).length):=by
  unfold tokL;rw [if_neg (by show ¬ head l=36;omega),if_pos h]
theorem tokL_sign {l:List UInt8} (h1:¬ head l=36) (h2:¬ head l=37) (h:cls (head l)=4):tokL l=some ⟨6,0,1⟩:=by
  unfold tokL;rw [if_neg h1,if_neg h2,if_pos h]
theorem cls_36 {b:Int} (h:cls b≠4):¬ b=36:=by rintro rfl;exact h (by decide)
theorem cls_37 {b:Int} (h:cls b≠4):¬ b=37:=by rintro rfl;exact h (by decide)
theorem tokL_digit {l:List UInt8} (h:cls (head l)=3):tokL l=numCut 3 (l.takeWhile pc) 0 (l.takeWhile pc).length:=by
  unfold tokL;rw [if_neg (cls_36 (b:=head l) (by omega)),if_neg (cls_37 (b:=head l) (by omega)),if_neg (by show ¬ cls (head l)=4;omega),if_pos h]
theorem tokL_word {l:List UInt8} (h:cls (head l)=1∨cls (head l)=2):tokL l=wordCut (bs (l.takeWhile pc)) (l.takeWhile pc).length:=by
  unfold tokL;rw [if_neg (cls_36 (b:=head l) (by omega)),if_neg (cls_37 (b:=head l) (by omega)),if_neg (by show ¬ cls (head l)=4;omega),if_neg (by show ¬ cls (head l)=3;omega),if_pos h];rfl
theorem tokL_none {l:List UInt8} (h:cls (head l)=0∨cls (head l)=5):tokL l=none:=by
  unfold tokL;rw [if_neg (cls_36 (b:=head l) (by omega)),if_neg (cls_37 (b:=head l) (by omega)),if_neg (by show ¬ cls (head l)=4;omega),if_neg (by show ¬ cls (head l)=3;omega),if_neg (by show ¬ (cls (head l)=1∨cls (head l)=2);omega)]
theorem numCut_len {k:Int} {t:List UInt8} {least:Int} {len:Nat} {c:Cut} (h:numCut k t least len=some c):c.len=len:=by
  unfold numCut at h;split at h
  · cases h;rfl
  · cases h
theorem wordCut_len {t:ByteArray} {len:Nat} {c:Cut} (h:wordCut t len=some c):c.len=len:=by
  unfold wordCut at h;split at h
  · cases h;rfl
  · split at h
    · cases h;rfl
    · cases h
theorem ext_list (s:ByteArray) (a b:Nat):(s.extract a b).data.toList=(s.data.toList.take b).drop a:=by
  simp [ByteArray.data_extract,List.drop_take]
theorem bs_list (s:ByteArray):bs s.data.toList=s:=by unfold bs;cases s;simp
end Go.Proofs.YtjcleokfpohpdaaGreatDoor
namespace Go.Proofs.YtjcleokfpohpdaaGreatDoor
open Go.RowKit
def AtSays (s:ByteArray) (i:Nat) (k:Int) (x:ByteArray) (n a:Int) (b:Bool):Prop:=match tokL (s.data.toList.drop i) with
  | none=>b=false
  | some c=>b=true∧k=c.kind∧x=s.extract i (i + c.len)∧n=c.n∧a=i
def TokAtPost (s:ByteArray) (i:Nat) (w:World) (e:Ending) (w':World):Prop :=
  ∃ k x n a b,e=.returned (.tuple #[.agg #[.int .i64 k,.string x,.int .i64 n,.int .i64 a],.bool b])∧AtSays s i k x n a b∧Below w.heap.size w w'
theorem head_at {s:ByteArray} {i:Nat} (h:i < s.size):head (s.data.toList.drop i)=(s[i].toNat:Int):=by
  unfold head;rw [drop_cons s h];rfl
theorem run_at (s:ByteArray) (i:Nat):run s i=((s.data.toList.drop i).takeWhile pc).length:=rfl
theorem run_next (s:ByteArray) (i:Nat):run s (i + 1)=((s.data.toList.drop i).tail.takeWhile pc).length:=by unfold run;rw [List.tail_drop]
theorem text_at (s:ByteArray) (i:Nat):(s.extract i (i + run s i)).data.toList=(s.data.toList.drop i).takeWhile pc:=by
  rw [ext_list,List.drop_take,show i + run s i - i=run s i from by omega];exact tw_take pc _
theorem text_next (s:ByteArray) (i:Nat):(s.extract (i + 1) (i + 1 + run s (i + 1))).data.toList=(s.data.toList.drop i).tail.takeWhile pc:=by
  rw [text_at,List.tail_drop]
end Go.Proofs.YtjcleokfpohpdaaGreatDoor
namespace Go.Proofs.YtjcleokfpohpdaaGreatDoor
open Go.RowKit
structure Tok where
  kind:Int
  text:ByteArray
  n:Int
  place:Int
def Tok.cells (t:Tok):List Value:=[.int .i64 t.kind,.string t.text,.int .i64 t.n,.int .i64 t.place]
structure TokAt (w:World) (b o:Nat) (t:Tok):Prop where
  c0:w.cell? ⟨b,o,none⟩=some (.int .i64 t.kind)
  c1:w.cell? ⟨b,o + 1,none⟩=some (.string t.text)
  c2:w.cell? ⟨b,o + 2,none⟩=some (.int .i64 t.n)
  c3:w.cell? ⟨b,o + 3,none⟩=some (.int .i64 t.place)
theorem TokAt.below {w w':World} {b o:Nat} {t:Tok} (h:TokAt w b o t) {B:Nat} (hb:Below B w w') (hlt:b < B):TokAt w' b o t where
  c0:=(hb.cell (p:=⟨b,o,none⟩) hlt).trans h.c0
  c1:=(hb.cell (p:=⟨b,o + 1,none⟩) hlt).trans h.c1
  c2:=(hb.cell (p:=⟨b,o + 2,none⟩) hlt).trans h.c2
  c3:=(hb.cell (p:=⟨b,o + 3,none⟩) hlt).trans h.c3
def Toks (w:World) (v:Value) (ts:List Tok):Prop :=
  ∃ a c,v=.slice a ts.length c∧ts.length≤9223372036854775807∧(ts=[]∨∃ b off,a=some ⟨b,off,none⟩∧b < w.heap.size∧∀ j (h:j < ts.length),TokAt w b (off + j * 4) ts[j])
theorem Toks.below {w w':World} {v:Value} {ts:List Tok} (h:Toks w v ts) (hb:Below w.heap.size w w'):Toks w' v ts:=by
  obtain ⟨a,c,hv,hl,h⟩:=h
  refine ⟨a,c,hv,hl,?_⟩
  rcases h with h | ⟨b,off,ha,hlt,hc⟩
  · exact .inl h
  · exact .inr ⟨b,off,ha,Nat.lt_of_lt_of_le hlt hb.size,fun j hj=>(hc j hj).below hb hlt⟩
theorem Toks.none_ (w:World) (a:Option Addr) (c:Nat):Toks w (.slice a 0 c) []:=⟨a,c,rfl,by simp,.inl rfl⟩
def short (t:Tok):Bool:=decide (t.text.size≤300)
def fewB (ts:List Tok):Bool:=decide (ts.length≤200)&&ts.all short
def ShortTo (ts:List Tok) (k:Nat):Prop:=∀ j (h:j < ts.length),j < k→short ts[j]=true
theorem ShortTo.succ {ts:List Tok} {k:Nat} (h:ShortTo ts k) (hk:k < ts.length) (hs:short ts[k]=true):ShortTo ts (k + 1):=by
  intro j hj hjk
  by_cases e:j=k
  · subst e;exact hs
  · exact h j hj (by omega)
theorem ShortTo.all {ts:List Tok} (h:ShortTo ts ts.length) (hl:ts.length≤200):fewB ts=true:=by
  unfold fewB;rw [decide_eq_true hl,Bool.true_and,List.all_eq_true]
  intro t ht
  obtain ⟨j,hj,rfl⟩:=List.getElem_of_mem ht
  exact h j hj hj
end Go.Proofs.YtjcleokfpohpdaaGreatDoor
namespace Go.Proofs.YtjcleokfpohpdaaGreatDoor
open Go.RowKit
noncomputable def alike (ts us:List Tok):Bool:=@decide (ts=us) (Classical.propDecidable _)
theorem alike_true {ts us:List Tok} (h:ts=us):alike ts us=true:=by unfold alike;simp [h]
def SameTo (ts us:List Tok) (k:Nat):Prop:=∀ j (h1:j < ts.length) (h2:j < us.length),j < k→ts[j]=us[j]
theorem SameTo.succ {ts us:List Tok} {k:Nat} (h:SameTo ts us k) (h1:k < ts.length) (h2:k < us.length) (hk:ts[k]=us[k]):SameTo ts us (k + 1):=by
  intro j a b hj
  by_cases e:j=k
  · subst e;exact hk
  · exact h j a b (by omega)
theorem SameTo.all {ts us:List Tok} (h:SameTo ts us ts.length) (hl:ts.length=us.length):alike ts us=true :=
  alike_true (List.ext_getElem hl fun j h1 h2=>h j h1 h2 h1)
end Go.Proofs.YtjcleokfpohpdaaGreatDoor
namespace Go.Proofs.YtjcleokfpohpdaaGreatDoor
open Go.RowKit
theorem tokInfo:(Tryz.prog.info? 129).map (fun i=>(i.zero,i.size,i.bytes))=some (some (.agg #[.int .i64 0,.string ⟨#[]⟩,.int .i64 0,.int .i64 0]),4,40):=by kernel_rfl
def rowOf (ts:List Tok):List Value:=ts.flatMap Tok.cells
theorem rowOf_snoc (ts:List Tok) (t:Tok):rowOf (ts ++ [t])=rowOf ts ++ t.cells:=by
  unfold rowOf;rw [List.flatMap_append];simp
theorem rowOf_get (ts:List Tok) (j:Nat) (h:j < ts.length) (i:Nat) (hi:i < 4):(rowOf ts)[j * 4 + i]? = ts[j].cells[i]? := by
  induction ts generalizing j with
  | nil=>simp at h
  | cons t r ih =>
    unfold rowOf
    rw [List.flatMap_cons]
    cases j with
    | zero=>rw [Nat.zero_mul,Nat.zero_add,List.getElem?_append_left (by simp [Tok.cells];omega)];rfl
    | succ j =>
      rw [List.getElem?_append_right (by simp [Tok.cells];omega)]
      have:=ih j (by simpa using h)
      rw [show (j + 1) * 4 + i - t.cells.length=j * 4 + i from by simp [Tok.cells];omega]
      exact this
def Tok.plain (t:Tok):Tok:={ t with place:=0 }
theorem toks_of_own {w:World} {base:Nat} {e:TypeId} {v:Value} {ts:List Tok} (h:w.ownsRow base e 4 v ts.length (rowOf ts)) (hl:ts.length≤9223372036854775807):Toks w v ts:=by
  obtain ⟨hn,h⟩:=h
  rcases h with ⟨rfl,h0⟩ | ⟨g,cap,cur,rfl,hb,hg,hcap,hmax,hsz,htake⟩
  · have:ts=[]:=List.eq_nil_of_length_eq_zero h0
    subst this
    exact Toks.none_ _ _ _
  · refine ⟨_,cap,rfl,hl,.inr ⟨g,0,rfl,?_,fun j hj=>?_⟩⟩
    · rcases Nat.lt_or_ge g w.heap.size with hlt | hge
      · exact hlt
      · rw [Array.getElem?_eq_none hge] at hg;cases hg
    · have cell:∀ i,i < 4→w.cell? ⟨g,0 + j * 4 + i,none⟩=ts[j].cells[i]? := by
        intro i hi
        rw [cell_of_row w g (0 + j * 4 + i) cur e (0,0) hg,← rowOf_get ts j hj i hi,← htake,List.getElem?_take,if_pos (by omega),Nat.zero_add]
        simp
      exact ⟨cell 0 (by omega),cell 1 (by omega),cell 2 (by omega),cell 3 (by omega)⟩
end Go.Proofs.YtjcleokfpohpdaaGreatDoor
