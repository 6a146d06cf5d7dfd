/-
  A text as tokens, as a function of the text: what a scan answers, step by step. Nothing of memory. (as data)
  The texts of tokens with a blank between: Show of package lex and of the reference, for any tokens whose texts are short enough together. (as data)
  There and back: what the tokens of a text are shown as has the same tokens. Nothing of memory. (as data)
  Texts that are spelt out of tokens and of what may stand between them: they are scanned as these tokens. Nothing of memory.
  A term as a text, by the reference of layer 3: Show, for any term in memory that is not too long. (as data)
  Terms read of tokens: what is read, where reading goes on, and that it hangs on the tokens alone. No function of the program.
  What the byte functions of the reference answer: the class, or whether the byte may be part of a word, for every byte and in every world; nothing is changed.
  Whether a text is a word, by the reference. Each call makes new memory alone.
  A drawn region whose operations read and whose callees make new memory alone, walked once in the order of the text: Quiet's theorem at the class of the worlds that lie behind a given one. No function of the program.
-/
import Derived.Test.YtjcleokfpohpdaaGreatDoorU03
import Derived.Test.YtjcleokfpohpdaaGreatDoorU02
import Derived.Lib.Join
import Derived.Laws.Concat
import Derived.Test.YtjcleokfpohpdaaGreatDoorU01
import Derived.Lib.ItoaLen
import Derived.WalkKit
import Derived.WalkSpells
import Derived.WalkLawsBesides
import Derived.Deep.QuietTactic
import Derived.BigQuiet
namespace Go.Proofs.YtjcleokfpohpdaaGreatDoor
open Go.RowKit
def inLine (c:UInt8):Bool:=(c.toNat:Int) != 10
def rem (s:ByteArray) (i:Nat):Nat:=((s.data.toList.drop i).takeWhile inLine).length
theorem rem_some (s:ByteArray) {i:Nat} (h:i < s.size) (hp:((s[i].toNat:Int)==10)=false):rem s i=rem s (i + 1) + 1:=by
  unfold rem;rw [drop_cons s h,List.takeWhile_cons_of_pos (by unfold inLine;rw [bne,hp];rfl)];rfl
theorem rem_none (s:ByteArray) {i:Nat} (h:i < s.size) (hp:((s[i].toNat:Int)==10)=true):rem s i=0:=by
  unfold rem;rw [drop_cons s h,List.takeWhile_cons_of_neg (by unfold inLine;rw [bne,hp];simp)];rfl
def tokAt (s:ByteArray) (i:Nat) (c:Cut):Tok:=⟨c.kind,s.extract i (i + c.len),c.n,i⟩
def endTok (s:ByteArray):Tok:=⟨0,⟨#[]⟩,0,s.size⟩
def scanF:Nat→ByteArray→Nat→List Tok→Nat ⊕ List Tok
  | 0,s,_,acc=>.inr (acc ++ [endTok s])
  | f + 1,s,i,acc =>
    if s.size≤i then .inr (acc ++ [endTok s])
    else if cls (head (s.data.toList.drop i))=5 then scanF f s (i + 1) acc
    else if head (s.data.toList.drop i)=35 then scanF f s (i + rem s i) acc
    else match tokL (s.data.toList.drop i) with
      | none=>.inl i
      | some c=>scanF f s (i + c.len) (acc ++ [tokAt s i c])
def scanS (s:ByteArray):Nat ⊕ List Tok:=scanF s.size s 0 []
def ScanTo (s:ByteArray) (i:Nat) (acc:List Tok):Prop:=i≤s.size∧acc.length≤i∧∃ f,s.size - i≤f∧scanS s=scanF f s i acc
theorem scan_start (s:ByteArray):ScanTo s 0 []:=⟨Nat.zero_le _,Nat.zero_le _,s.size,by omega,rfl⟩
theorem scan_end {s:ByteArray} {i:Nat} {acc:List Tok} (h:ScanTo s i acc) (hi:¬ i < s.size):scanS s=.inr (acc ++ [endTok s]):=by
  obtain ⟨_,_,f,_,he⟩:=h
  rw [he]
  cases f with
  | zero=>rfl
  | succ f=>unfold scanF;rw [if_pos (by omega)]
theorem scan_space {s:ByteArray} {i:Nat} {acc:List Tok} (h:ScanTo s i acc) (hi:i < s.size) (hc:cls (s[i].toNat:Int)=5):ScanTo s (i + 1) acc:=by
  obtain ⟨h1,h2,f,hf,he⟩:=h
  cases f with
  | zero=>omega
  | succ f =>
    refine ⟨by omega,by omega,f,by omega,?_⟩
    rw [he];show scanF (f + 1) s i acc=_
    rw [scanF,if_neg (by omega),head_at hi,if_pos hc]
theorem rem_pos {s:ByteArray} {i:Nat} (hi:i < s.size) (hb:(s[i].toNat:Int)=35):1≤rem s i:=by
  rw [rem_some s hi (by rw [hb];decide)];omega
theorem rem_le (s:ByteArray) {i:Nat} (h:i≤s.size):i + rem s i≤s.size:=by
  unfold rem
  have h1:=tw_len inLine (s.data.toList.drop i)
  rw [List.length_drop] at h1
  have h2:s.data.toList.length=s.size:=by simp
  omega
theorem scan_remark {s:ByteArray} {i:Nat} {acc:List Tok} (h:ScanTo s i acc) (hi:i < s.size) (hb:(s[i].toNat:Int)=35):ScanTo s (i + rem s i) acc:=by
  obtain ⟨h1,h2,f,hf,he⟩:=h
  have hp:=rem_pos hi hb
  have hl:=rem_le s h1
  cases f with
  | zero=>omega
  | succ f =>
    refine ⟨by omega,by omega,f,by omega,?_⟩
    rw [he,scanF,if_neg (by omega),head_at hi,if_neg (by rw [hb];decide),if_pos hb]
theorem tokL_pos {l:List UInt8} {c:Cut} (h:tokL l=some c) (hl:l≠[]):1≤c.len∧c.len≤l.length:=by
  obtain ⟨b,r,rfl⟩:=List.exists_cons_of_ne_nil hl
  have hr:=tw_len pc r
  have hbr:=tw_len pc (b :: r)
  simp only [List.length_cons] at hbr ⊢
  unfold tokL at h
  simp only [List.tail_cons] at h
  split at h
  · rw [numCut_len h];omega
  · split at h
    · rw [numCut_len h];omega
    · split at h
      · cases h;simp
      · split at h
        · next h3 =>
          rw [numCut_len h]
          have:pc b=true:=by unfold pc part;rw [decide_eq_true_eq];left;rw [show head (b :: r)=(b.toNat:Int) from rfl] at h3;omega
          rw [List.takeWhile_cons_of_pos this] at hbr ⊢
          simp only [List.length_cons] at hbr ⊢;omega
        · split at h
          · next h3 =>
            have:pc b=true:=by unfold pc part;rw [decide_eq_true_eq];left;rw [show head (b :: r)=(b.toNat:Int) from rfl] at h3;omega
            rw [List.takeWhile_cons_of_pos this] at hbr h
            simp only [List.length_cons] at hbr h
            split at h
            · cases h;simp;omega
            · split at h
              · cases h;simp;omega
              · cases h
          · cases h
theorem scan_token {s:ByteArray} {i:Nat} {acc:List Tok} {c:Cut} (h:ScanTo s i acc) (hi:i < s.size) (h5:cls (s[i].toNat:Int)≠5) (hb:(s[i].toNat:Int)≠35) (hc:tokL (s.data.toList.drop i)=some c) :
    ScanTo s (i + c.len) (acc ++ [tokAt s i c])∧1≤c.len:=by
  obtain ⟨h1,h2,f,hf,he⟩:=h
  have hp:=tokL_pos hc (by rw [drop_cons s hi];simp)
  rw [List.length_drop] at hp
  have hsz:s.data.toList.length=s.size:=by simp
  cases f with
  | zero=>omega
  | succ f =>
    refine ⟨⟨by omega,by simp;omega,f,by omega,?_⟩,hp.1⟩
    rw [he,scanF,if_neg (by omega),head_at hi,if_neg h5,if_neg hb,hc]
theorem scan_bad {s:ByteArray} {i:Nat} {acc:List Tok} (h:ScanTo s i acc) (hi:i < s.size) (h5:cls (s[i].toNat:Int)≠5) (hb:(s[i].toNat:Int)≠35) (hc:tokL (s.data.toList.drop i)=none):scanS s=.inl i:=by
  obtain ⟨h1,h2,f,hf,he⟩:=h
  cases f with
  | zero=>omega
  | succ f=>rw [he,scanF,if_neg (by omega),head_at hi,if_neg h5,if_neg hb,hc]
def outToks (s:ByteArray):List Tok:=if s.size≤8192 then (match scanS s with | .inl _=>[] | .inr ts=>ts) else []
def outErr (s:ByteArray):Int:=if s.size≤8192 then (match scanS s with | .inl _=>2 | .inr _=>0) else 3
def outAt (s:ByteArray):Int:=if s.size≤8192 then (match scanS s with | .inl i=>(i:Int) | .inr _=>0) else 0
theorem out_long {s:ByteArray} (h:¬ s.size≤8192):outToks s=[]∧outErr s=3∧outAt s=0:=by
  unfold outToks outErr outAt;rw [if_neg h,if_neg h,if_neg h];exact ⟨rfl,rfl,rfl⟩
theorem out_bad {s:ByteArray} {i:Nat} (h:s.size≤8192) (hs:scanS s=.inl i):outToks s=[]∧outErr s=2∧outAt s=i:=by
  unfold outToks outErr outAt;rw [if_pos h,if_pos h,if_pos h,hs];exact ⟨rfl,rfl,rfl⟩
theorem out_good {s:ByteArray} {ts:List Tok} (h:s.size≤8192) (hs:scanS s=.inr ts):outToks s=ts∧outErr s=0∧outAt s=0:=by
  unfold outToks outErr outAt;rw [if_pos h,if_pos h,if_pos h,hs];exact ⟨rfl,rfl,rfl⟩
def ScanPost (s:ByteArray) (w:World) (e:Ending) (w':World):Prop :=
  ∃ v,e=.returned (.tuple #[v,.agg #[.int .i64 (outErr s),.int .i64 (outAt s)]])∧Toks w' v (outToks s)∧Below w.heap.size w w'
end Go.Proofs.YtjcleokfpohpdaaGreatDoor
namespace Go.Proofs.YtjcleokfpohpdaaGreatDoor
open Go.RowKit
end Go.Proofs.YtjcleokfpohpdaaGreatDoor
namespace Go.Proofs.YtjcleokfpohpdaaGreatDoor
open Go.RowKit
theorem tw_all (p:UInt8→Bool) (l:List UInt8):∀ y ∈ l.takeWhile p,p y=true:=by
  induction l with
  | nil=>intro y hy;cases hy
  | cons c r ih =>
    cases hc:p c with
    | true =>
      rw [List.takeWhile_cons_of_pos hc]
      intro y hy
      rcases List.mem_cons.1 hy with rfl | h
      · exact hc
      · exact ih y h
    | false=>rw [List.takeWhile_cons_of_neg (by rw [hc];simp)];intro y hy;cases hy
theorem numCut_some {k:Int} {t:List UInt8} {least:Int} {len:Nat} {c:Cut} (h:numCut k t least len=some c):c=⟨k,numVal t,len⟩:=by
  unfold numCut at h;split at h
  · cases h;rfl
  · cases h
theorem pc_of_cls {b:UInt8} (h:cls (b.toNat:Int)=1∨cls (b.toNat:Int)=2∨cls (b.toNat:Int)=3):pc b=true:=by
  unfold pc part;rw [decide_eq_true_eq];left;omega
theorem kind_pos {l:List UInt8} {c:Cut} (h:tokL l=some c):c.kind≠0:=by
  have hn:∀ {k:Int} {t:List UInt8} {least:Int} {len:Nat},k≠0→numCut k t least len=some c→c.kind≠0:=by
    intro k t least len hk h
    rw [numCut_some h];exact hk
  unfold tokL at h
  split at h
  · exact hn (by decide) h
  · split at h
    · exact hn (by decide) h
    · split at h
      · cases h;decide
      · split at h
        · exact hn (by decide) h
        · split at h
          · split at h
            · cases h;exact (by decide:(2:Int)≠0)
            · split at h
              · cases h;exact (by decide:(1:Int)≠0)
              · cases h
          · cases h
def bytesOf (ts:List Tok):Nat:=(ts.map fun t=>t.text.size).sum
end Go.Proofs.YtjcleokfpohpdaaGreatDoor
namespace Go.Proofs.YtjcleokfpohpdaaGreatDoor
open Go.RowKit
def NoPart (rest:List UInt8):Prop:=∀ b r,rest=b :: r→pc b=false
structure Sound (t:Tok):Prop where
  nz:t.kind≠0
  pos:1≤t.text.size
  c5:cls (head t.text.data.toList)≠5
  c35:head t.text.data.toList≠35
  tok:∀ rest,(t.kind=6∨NoPart rest)→tokL (t.text.data.toList ++ rest)=some ⟨t.kind,t.n,t.text.size⟩
theorem tw_noPart {x rest:List UInt8} (hx:∀ y ∈ x,pc y=true) (hr:NoPart rest):(x ++ rest).takeWhile pc=x:=by
  rw [List.takeWhile_append_of_pos hx]
  cases rest with
  | nil=>simp
  | cons b r=>rw [List.takeWhile_cons_of_neg (by rw [hr b r rfl];simp),List.append_nil]
theorem numCut_kind {k:Int} {t:List UInt8} {least:Int} {len:Nat} {c:Cut} (h:numCut k t least len=some c):c.kind=k:=by rw [numCut_some h]
theorem tok_sound {b:UInt8} {r:List UInt8} {c:Cut} (h:tokL (b :: r)=some c) (rest:List UInt8) (hr:c.kind=6∨NoPart rest):tokL ((b :: r).take c.len ++ rest)=some c:=by
  have hh:head (b :: r)=(b.toNat:Int):=rfl
  by_cases h36:head (b :: r)=36
  · rw [tokL_36 h36,List.tail_cons] at h
    have hl:=numCut_len h
    have hk:=numCut_kind h
    have hr:=hr.resolve_left (by rw [hk];decide)
    have ht:(b :: r).take c.len=b :: r.takeWhile pc:=by rw [hl,Nat.add_comm,List.take_succ_cons,tw_take]
    rw [ht,List.cons_append,tokL_36 (by exact h36),List.tail_cons,tw_noPart (tw_all pc r) hr]
    exact h
  · by_cases h37:head (b :: r)=37
    · rw [tokL_37 h37,List.tail_cons] at h
      have hl:=numCut_len h
      have hk:=numCut_kind h
      have hr:=hr.resolve_left (by rw [hk];decide)
      have ht:(b :: r).take c.len=b :: r.takeWhile pc:=by rw [hl,Nat.add_comm,List.take_succ_cons,tw_take]
      rw [ht,List.cons_append,tokL_37 (by exact h37),List.tail_cons,tw_noPart (tw_all pc r) hr]
      exact h
    · have hbd:=cls_bd (head (b :: r))
      rcases (show cls (head (b :: r))=4∨cls (head (b :: r))=3∨(cls (head (b :: r))=1∨cls (head (b :: r))=2)∨(cls (head (b :: r))=0∨cls (head (b :: r))=5) from by omega) with h4 | h3 | h12 | h05
      · rw [tokL_sign h36 h37 h4] at h
        cases h
        show tokL ((b :: r).take 1 ++ rest)=_
        rw [List.take_succ_cons,List.take_zero]
        exact tokL_sign (l:=b :: rest) (show ¬ head (b :: r)=36 from h36) (show ¬ head (b :: r)=37 from h37) (show cls (head (b :: r))=4 from h4)
      · have hp:pc b=true:=pc_of_cls (by rw [hh] at h3;omega)
        rw [tokL_digit h3] at h
        have hl:=numCut_len h
        have hk:=numCut_kind h
        have hr:=hr.resolve_left (by rw [hk];decide)
        have ht:(b :: r).take c.len=b :: r.takeWhile pc:=by rw [hl,tw_take,List.takeWhile_cons_of_pos hp]
        have hc:((b :: r.takeWhile pc) ++ rest).takeWhile pc=(b :: r).takeWhile pc:=by
          rw [List.takeWhile_cons_of_pos hp]
          exact tw_noPart (by intro y hy;rcases List.mem_cons.1 hy with rfl | hy;exact hp;exact tw_all pc r y hy) hr
        rw [ht,tokL_digit (by exact h3),hc]
        exact h
      · have hp:pc b=true:=pc_of_cls (by rw [hh] at h12;omega)
        rw [tokL_word h12] at h
        have hl:=wordCut_len h
        have hk:c.kind≠6:=by
          have hw:=h
          unfold wordCut at hw
          split at hw
          · cases hw;exact (by decide:(2:Int)≠6)
          · split at hw
            · cases hw;exact (by decide:(1:Int)≠6)
            · cases hw
        have hr:=hr.resolve_left hk
        have ht:(b :: r).take c.len=b :: r.takeWhile pc:=by rw [hl,tw_take,List.takeWhile_cons_of_pos hp]
        have hc:((b :: r.takeWhile pc) ++ rest).takeWhile pc=(b :: r).takeWhile pc:=by
          rw [List.takeWhile_cons_of_pos hp]
          exact tw_noPart (by intro y hy;rcases List.mem_cons.1 hy with rfl | hy;exact hp;exact tw_all pc r y hy) hr
        rw [ht,tokL_word (by exact h12),hc]
        exact h
      · rw [tokL_none h05] at h;cases h
theorem sound_tok {s:ByteArray} {i:Nat} {c:Cut} (hi:i < s.size) (h5:cls (s[i].toNat:Int)≠5) (hb:(s[i].toNat:Int)≠35) (hc:tokL (s.data.toList.drop i)=some c):Sound (tokAt s i c):=by
  have hp:=tokL_pos hc (by rw [drop_cons s hi];simp)
  rw [List.length_drop] at hp
  have hsz:s.data.toList.length=s.size:=by simp
  have hx:(s.extract i (i + c.len)).data.toList=(s.data.toList.drop i).take c.len:=by rw [ext_list,List.drop_take,show i + c.len - i=c.len from by omega]
  have hs:(s.extract i (i + c.len)).size=c.len:=by simp;omega
  have hcons:=drop_cons s hi
  obtain ⟨k,hk⟩:∃ k,c.len=k + 1:=⟨c.len - 1,by omega⟩
  have hhd:head ((s.data.toList.drop i).take c.len)=(s[i].toNat:Int):=by
    rw [hcons,hk,List.take_succ_cons];rfl
  refine ⟨kind_pos hc,by show 1≤(s.extract i (i + c.len)).size;omega,?_,?_,fun rest hr=>?_⟩
  · show cls (head (s.extract i (i + c.len)).data.toList)≠5
    rw [hx,hhd];exact h5
  · show head (s.extract i (i + c.len)).data.toList≠35
    rw [hx,hhd];exact hb
  · show tokL ((s.extract i (i + c.len)).data.toList ++ rest)=some ⟨c.kind,c.n,(s.extract i (i + c.len)).size⟩
    rw [hx,hs,hcons]
    rw [hcons] at hc
    exact tok_sound hc rest hr
theorem scanF_sound (s:ByteArray):∀ (f i:Nat) (acc ts:List Tok),i≤s.size→scanF f s i acc=.inr ts→∃ more,ts=acc ++ more ++ [endTok s]∧(∀ t ∈ more,Sound t)∧bytesOf more + i≤s.size:=by
  intro f
  induction f with
  | zero =>
    intro i acc ts hi h
    refine ⟨[],?_,(by intro t ht;cases ht),(by show 0 + i≤s.size;omega)⟩
    rw [List.append_nil];exact (Sum.inr.inj h).symm
  | succ f ih =>
    intro i acc ts hi h
    rw [scanF] at h
    split at h
    · refine ⟨[],?_,(by intro t ht;cases ht),(by show 0 + i≤s.size;omega)⟩
      rw [List.append_nil];exact (Sum.inr.inj h).symm
    · next hlt =>
      have hlt:i < s.size:=by omega
      rw [head_at hlt] at h
      split at h
      · obtain ⟨more,h1,h2,h3⟩:=ih _ _ _ (by omega) h
        exact ⟨more,h1,h2,by omega⟩
      · next h5 =>
        split at h
        · obtain ⟨more,h1,h2,h3⟩:=ih _ _ _ (rem_le s hi) h
          exact ⟨more,h1,h2,by omega⟩
        · next h35 =>
          cases hc:tokL (s.data.toList.drop i) with
          | none=>rw [hc] at h;cases h
          | some c =>
            rw [hc] at h
            have hp:=tokL_pos hc (by rw [drop_cons s hlt];simp)
            rw [List.length_drop] at hp
            have hsz:s.data.toList.length=s.size:=by simp
            obtain ⟨more,h1,h2,h3⟩:=ih (i + c.len) (acc ++ [tokAt s i c]) ts (by omega) h
            refine ⟨tokAt s i c :: more,by rw [h1];simp,?_,?_⟩
            · intro t ht
              rcases List.mem_cons.1 ht with rfl | ht
              · exact sound_tok hlt h5 h35 hc
              · exact h2 t ht
            · have hs:(s.extract i (i + c.len)).size=c.len:=by simp;omega
              show ((tokAt s i c :: more).map fun t=>t.text.size).sum + i≤s.size
              rw [List.map_cons,List.sum_cons]
              show (s.extract i (i + c.len)).size + bytesOf more + i≤s.size
              omega
theorem scanS_sound {s:ByteArray} {ts:List Tok} (h:scanS s=.inr ts):∃ more,ts=more ++ [endTok s]∧(∀ t ∈ more,Sound t)∧bytesOf more≤s.size:=by
  obtain ⟨more,h1,h2,h3⟩:=scanF_sound s s.size 0 [] ts (Nat.zero_le _) h
  exact ⟨more,by rw [h1,List.nil_append],h2,by omega⟩
end Go.Proofs.YtjcleokfpohpdaaGreatDoor
namespace Go.Proofs.YtjcleokfpohpdaaGreatDoor
open Go.RowKit
def pre (ls:List (List UInt8)):List UInt8:=if ls.isEmpty=true then [] else 40 :: Lib.join ls [44,32]
def close (ls:List (List UInt8)):List UInt8:=if ls.isEmpty=true then [] else [41]
mutual
def showT:Tm→List UInt8
  | .mk k s n xs=>if k=1∨k=2 then s.data.toList else if k=3 then 36 :: Lib.itoa n else if k=4 then 37 :: Lib.itoa n else if k≠5 then [63] else s.data.toList ++ pre (showsL xs) ++ close (showsL xs)
def showsL:List Tm→List (List UInt8)
  | []=>[]
  | t :: r=>showT t :: showsL r
end
mutual
def wtT:Tm→Nat
  | .mk _ s _ xs=>s.size + 30 + wtL xs
def wtL:List Tm→Nat
  | []=>0
  | t :: r=>wtT t + wtL r
end
mutual
theorem wtT_small:∀ t:Tm,(∀ x ∈ t.all,x.name.size≤100)→wtT t≤130 * t.parts
  | .mk k s n xs,h=>by
    rw [Tm.all] at h
    rw [wtT,Tm.parts]
    have h1:s.size≤100:=h _ (List.mem_cons_self ..)
    have h2:=wtL_small xs (fun x hx=>h x (List.mem_cons_of_mem _ hx))
    omega
theorem wtL_small:∀ l:List Tm,(∀ x ∈ allL l,x.name.size≤100)→wtL l≤130 * partsL l
  | [],_=>by rw [wtL];omega
  | t :: r,h=>by
    rw [allL] at h
    rw [wtL,partsL]
    have h1:=wtT_small t (fun x hx=>h x (List.mem_append_left _ hx))
    have h2:=wtL_small r (fun x hx=>h x (List.mem_append_right _ hx))
    omega
end
end Go.Proofs.YtjcleokfpohpdaaGreatDoor
namespace Go.Proofs.YtjcleokfpohpdaaGreatDoor
open Go.RowKit
def nilTok:Tok:=⟨0,⟨#[]⟩,0,0⟩
def tkD (L:List Tok) (i:Nat):Tok:=L.getD i nilTok
theorem tkD_at {L:List Tok} {i:Nat} (h:i < L.length):tkD L i=L[i]:=by unfold tkD;simp [List.getD,h]
theorem tkD_out {L:List Tok} {i:Nat} (h:L.length≤i):tkD L i=nilTok:=by unfold tkD;simp [List.getD,List.getElem?_eq_none h]
def isS (t:Tok) (s:ByteArray):Bool:=(t.kind==6)&&(t.text.toList==s.toList)
theorem isS_nil (s:ByteArray):isS nilTok s=false:=rfl
theorem isS_in {L:List Tok} {i:Nat} {s:ByteArray} (h:isS (tkD L i) s=true):i < L.length:=by
  rcases Nat.lt_or_ge i L.length with hl | hl
  · exact hl
  · rw [tkD_out hl,isS_nil] at h;cases h
def leafK (t:Tok):Int:=if t.kind=2 then 1 else if t.kind=4 then 3 else if t.kind=5 then 4 else 0
def wordK (t:Tok):Bool:=(t.kind==1) && !Lib.containsS keyList t.text
def sOpen:ByteArray:=⟨#[40]⟩
def sClose:ByteArray:=⟨#[41]⟩
def sComma:ByteArray:=⟨#[44]⟩
def sSemi:ByteArray:=⟨#[59]⟩
def sDot:ByteArray:=⟨#[46]⟩
mutual
def termF:Nat→List Tok→Nat→Nat→Tr × Nat × Bool
  | 0,_,i,_=>(.mk 0 ⟨#[]⟩ 0 0 [],i,false)
  | f + 1,L,i,op =>
    if leafK (tkD L i)≠0 then (.mk (leafK (tkD L i)) (tkD L i).text (tkD L i).n (tkD L i).place [],i + 1,true)
    else if wordK (tkD L i)=false then (.mk 0 (tkD L i).text (tkD L i).n (tkD L i).place [],i,false)
    else if isS (tkD L (i + 1)) sOpen=false then (.mk 5 (tkD L i).text 0 (tkD L i).place [],i + 1,true)
    else if 40≤op then (.mk 5 (tkD L i).text 0 (tkD L i).place [],i + 1,false)
    else if (termsF f L (i + 2) sComma (op + 1)).2.2=false∨isS (tkD L (termsF f L (i + 2) sComma (op + 1)).2.1) sClose=false then
      (.mk 5 (tkD L i).text 0 (tkD L i).place (termsF f L (i + 2) sComma (op + 1)).1,(termsF f L (i + 2) sComma (op + 1)).2.1,false)
    else (.mk 5 (tkD L i).text 0 (tkD L i).place (termsF f L (i + 2) sComma (op + 1)).1,(termsF f L (i + 2) sComma (op + 1)).2.1 + 1,true)
def termsF:Nat→List Tok→Nat→ByteArray→Nat→List Tr × Nat × Bool
  | 0,_,i,_,_=>([],i,false)
  | f + 1,L,i,sg,op =>
    if (termF f L i op).2.2=false then ([],(termF f L i op).2.1,false)
    else if isS (tkD L (termF f L i op).2.1) sg=false then ([(termF f L i op).1],(termF f L i op).2.1,true)
    else ((termF f L i op).1 :: (termsF f L ((termF f L i op).2.1 + 1) sg op).1,(termsF f L ((termF f L i op).2.1 + 1) sg op).2)
end
theorem termF_le:∀ (f:Nat) (L:List Tok),(∀ i op,i≤(termF f L i op).2.1∧((termF f L i op).2.2=true→i < (termF f L i op).2.1)) ∧
    ∀ i sg op,i≤(termsF f L i sg op).2.1∧((termsF f L i sg op).2.2=true→i < (termsF f L i sg op).2.1)
  | 0,L=>⟨fun i op=>by rw [termF];exact ⟨Nat.le_refl _,fun h=>by cases h⟩,fun i sg op=>by rw [termsF];exact ⟨Nat.le_refl _,fun h=>by cases h⟩⟩
  | f + 1,L=>by
    obtain ⟨h1,h2⟩:=termF_le f L
    refine ⟨fun i op=>?_,fun i sg op=>?_⟩
    · rw [termF]
      have:=h2 (i + 2) sComma (op + 1)
      repeat' split
      all_goals (simp only [] at this ⊢)
      all_goals first
        | exact ⟨Nat.le_refl _,fun h=>by cases h⟩
        | exact ⟨Nat.le_succ _,fun _=>Nat.lt_succ_self _⟩
        | exact ⟨Nat.le_succ _,fun h=>by cases h⟩
        | exact ⟨by omega,fun _=>by omega⟩
        | exact ⟨by omega,fun h=>by cases h⟩
    · rw [termsF]
      have k1:=h1 i op
      have k2:=h2 ((termF f L i op).2.1 + 1) sg op
      repeat' split
      all_goals (simp only [] at k1 k2 ⊢)
      · exact ⟨k1.1,fun h=>by cases h⟩
      · next h _=>exact ⟨k1.1,fun _=>k1.2 (by simpa using h)⟩
      · exact ⟨by omega,fun h=>by have:=k2.2 h;omega⟩
theorem termF_same:∀ (f:Nat) (L:List Tok),(∀ f' i op,2 * (L.length - i) + 1≤f→2 * (L.length - i) + 1≤f'→termF f L i op=termF f' L i op) ∧
    ∀ f' i sg op,2 * (L.length - i) + 2≤f→2 * (L.length - i) + 2≤f'→termsF f L i sg op=termsF f' L i sg op
  | 0,L=>⟨fun f' i op h=>by omega,fun f' i sg op h=>by omega⟩
  | f + 1,L=>by
    obtain ⟨h1,h2⟩:=termF_same f L
    refine ⟨fun f' i op hf hf'=>?_,fun f' i sg op hf hf'=>?_⟩
    · cases f' with
      | zero=>omega
      | succ f' =>
        rw [termF,termF]
        by_cases hs:isS (tkD L (i + 1)) sOpen=false
        · rw [if_pos hs,if_pos hs]
        · have hi:=isS_in (by simpa using hs)
          rw [h2 f' (i + 2) sComma (op + 1) (by omega) (by omega)]
    · cases f' with
      | zero=>omega
      | succ f' =>
        rw [termsF,termsF,h1 f' i op (by omega) (by omega)]
        by_cases hk:(termF f' L i op).2.2=false
        · rw [if_pos hk,if_pos hk]
        · rw [if_neg hk,if_neg hk]
          have hlt:=((termF_le f' L).1 i op).2 (by simpa using hk)
          by_cases hs:isS (tkD L (termF f' L i op).2.1) sg=false
          · rw [if_pos hs,if_pos hs]
          · have hi:=isS_in (by simpa using hs)
            rw [h2 f' ((termF f' L i op).2.1 + 1) sg op (by omega) (by omega)]
def termP (L:List Tok) (i op:Nat):Tr × Nat × Bool:=termF (2 * L.length + 2) L i op
def termsP (L:List Tok) (i:Nat) (sg:ByteArray) (op:Nat):List Tr × Nat × Bool:=termsF (2 * L.length + 2) L i sg op
theorem termP_leaf {L:List Tok} {i op:Nat} (h:leafK (tkD L i)≠0):termP L i op=(.mk (leafK (tkD L i)) (tkD L i).text (tkD L i).n (tkD L i).place [],i + 1,true):=by
  unfold termP;rw [termF,if_pos h]
theorem termP_none {L:List Tok} {i op:Nat} (h:leafK (tkD L i)=0) (h2:wordK (tkD L i)=false):termP L i op=(.mk 0 (tkD L i).text (tkD L i).n (tkD L i).place [],i,false):=by
  unfold termP;rw [termF,if_neg (by simp [h]),if_pos h2]
theorem termP_const {L:List Tok} {i op:Nat} (h:leafK (tkD L i)=0) (h2:wordK (tkD L i)=true) (h3:isS (tkD L (i + 1)) sOpen=false):termP L i op=(.mk 5 (tkD L i).text 0 (tkD L i).place [],i + 1,true):=by
  unfold termP;rw [termF,if_neg (by simp [h]),if_neg (by simp [h2]),if_pos h3]
theorem termP_deep {L:List Tok} {i op:Nat} (h:leafK (tkD L i)=0) (h2:wordK (tkD L i)=true) (h3:isS (tkD L (i + 1)) sOpen=true) (h4:40≤op):termP L i op=(.mk 5 (tkD L i).text 0 (tkD L i).place [],i + 1,false):=by
  unfold termP;rw [termF,if_neg (by simp [h]),if_neg (by simp [h2]),if_neg (by simp [h3]),if_pos h4]
theorem termsF_P {L:List Tok} {i:Nat} {sg:ByteArray} {op:Nat} {f:Nat} (hf:2 * (L.length - i) + 2≤f):termsF f L i sg op=termsP L i sg op:=(termF_same f L).2 _ i sg op hf (by omega)
theorem termF_P {L:List Tok} {i:Nat} {op:Nat} {f:Nat} (hf:2 * (L.length - i) + 1≤f):termF f L i op=termP L i op:=(termF_same f L).1 _ i op hf (by omega)
theorem termP_args {L:List Tok} {i op:Nat} (h:leafK (tkD L i)=0) (h2:wordK (tkD L i)=true) (h3:isS (tkD L (i + 1)) sOpen=true) (h4:¬ 40≤op) :
    termP L i op=if (termsP L (i + 2) sComma (op + 1)).2.2=false∨isS (tkD L (termsP L (i + 2) sComma (op + 1)).2.1) sClose=false then (.mk 5 (tkD L i).text 0 (tkD L i).place (termsP L (i + 2) sComma (op + 1)).1,(termsP L (i + 2) sComma (op + 1)).2.1,false)
      else (.mk 5 (tkD L i).text 0 (tkD L i).place (termsP L (i + 2) sComma (op + 1)).1,(termsP L (i + 2) sComma (op + 1)).2.1 + 1,true):=by
  have hi:=isS_in h3
  unfold termP
  rw [termF,if_neg (by simp [h]),if_neg (by simp [h2]),if_neg (by simp [h3]),if_neg h4,termsF_P (by omega)]
theorem termsP_eq (L:List Tok) (i:Nat) (sg:ByteArray) (op:Nat):termsP L i sg op =
    if (termP L i op).2.2=false then ([],(termP L i op).2.1,false)
    else if isS (tkD L (termP L i op).2.1) sg=false then ([(termP L i op).1],(termP L i op).2.1,true)
    else ((termP L i op).1 :: (termsP L ((termP L i op).2.1 + 1) sg op).1,(termsP L ((termP L i op).2.1 + 1) sg op).2):=by
  conv=>lhs;unfold termsP
  rw [termsF,termF_P (by omega)]
  by_cases hk:(termP L i op).2.2=false
  · rw [if_pos hk,if_pos hk]
  · rw [if_neg hk,if_neg hk]
    by_cases hs:isS (tkD L (termP L i op).2.1) sg=false
    · rw [if_pos hs,if_pos hs]
    · rw [if_neg hs,if_neg hs]
      have hi:=isS_in (by simpa using hs)
      have hlt:=((termF_le (2 * L.length + 2) L).1 i op).2 (by simpa [termP] using hk)
      rw [termsF_P (by unfold termP at hi;unfold termP;omega)]
theorem termP_le (L:List Tok) (i op:Nat):i≤(termP L i op).2.1∧((termP L i op).2.2=true→i < (termP L i op).2.1):=(termF_le _ L).1 i op
theorem termsP_le (L:List Tok) (i:Nat) (sg:ByteArray) (op:Nat):i≤(termsP L i sg op).2.1∧((termsP L i sg op).2.2=true→i < (termsP L i sg op).2.1):=(termF_le _ L).2 i sg op
def Ended (L:List Tok):Prop:=∀ i,(tkD L i).kind≠0→i + 1 < L.length
theorem leafK_kind {t:Tok} (h:leafK t≠0):t.kind≠0:=fun e=>h (by unfold leafK;rw [e];decide)
theorem wordK_kind {t:Tok} (h:wordK t=true):t.kind=1:=by unfold wordK at h;rw [Bool.and_eq_true,beq_iff_eq] at h;exact h.1
theorem sgn_kind {t:Tok} {s:ByteArray} (h:isS t s=true):t.kind=6:=by unfold isS at h;rw [Bool.and_eq_true,beq_iff_eq] at h;exact h.1
theorem termF_in {L:List Tok} (hE:Ended L):∀ (f:Nat),(∀ i op,i < L.length→(termF f L i op).2.1 < L.length)∧∀ i sg op,i < L.length→(termsF f L i sg op).2.1 < L.length
  | 0=>⟨fun i op h=>by rw [termF];exact h,fun i sg op h=>by rw [termsF];exact h⟩
  | f + 1=>by
    obtain ⟨h1,h2⟩:=termF_in hE f
    refine ⟨fun i op hi=>?_,fun i sg op hi=>?_⟩
    · rw [termF]
      split
      · next h=>exact hE i (leafK_kind h)
      · split
        · exact hi
        · next hw =>
          have hi1:=hE i (by rw [wordK_kind (by simpa using hw)];decide)
          split
          · exact hi1
          · next hs =>
            have hi2:=hE (i + 1) (by rw [sgn_kind (by simpa using hs)];decide)
            split
            · exact hi1
            · have hn:=h2 (i + 2) sComma (op + 1) hi2
              split
              · exact hn
              · next hc =>
                rw [not_or] at hc
                exact hE _ (by rw [sgn_kind (by simpa using hc.2)];decide)
    · rw [termsF]
      have hn:=h1 i op hi
      split
      · exact hn
      · split
        · exact hn
        · next hs=>exact h2 _ sg op (hE _ (by rw [sgn_kind (by simpa using hs)];decide))
theorem termP_in {L:List Tok} (hE:Ended L) {i:Nat} (op:Nat) (hi:i < L.length):(termP L i op).2.1 < L.length:=(termF_in hE _).1 i op hi
theorem termsP_in {L:List Tok} (hE:Ended L) {i:Nat} (sg:ByteArray) (op:Nat) (hi:i < L.length):(termsP L i sg op).2.1 < L.length:=(termF_in hE _).2 i sg op hi
mutual
def Tr.bare:Tr→Tr
  | .mk k s n _ xs=>.mk k s n 0 (bareL xs)
def bareL:List Tr→List Tr
  | []=>[]
  | t :: r=>t.bare :: bareL r
end
end Go.Proofs.YtjcleokfpohpdaaGreatDoor
namespace Go.Proofs.YtjcleokfpohpdaaGreatDoor
open Go.RowKit
set_option maxHeartbeats 400000 in
theorem among_any (s:ByteArray) (b:Int) (w:World) (hs:s.size≤9223372036854775806) :
    Calls Tryz.prog 116 #[.string s,.int .u8 b] w fun e w'=>e=.returned (.bool (among s.data.toList b))∧w=w':=by
  go_enter Tryz.func116,Tryz.ntmps116
  go_wp2
  go_loop [5] (fun i=>∃ k:Nat,k≤s.size∧i=.int .i64 k∧among (s.data.toList.take k) b=false) (fun i=>s.size - (intOf i).toNat)
  case atStart=>exact ⟨0,Nat.zero_le _,rfl,rfl⟩
  case round =>
    obtain ⟨k,hk,rfl,ha⟩:=hrel
    have HA:=Lib.hid ha
    clear ha
    by_cases hlt:k < s.size
    · go_wp2
      · go_ret
        refine ⟨ret_bool ?_,rfl⟩
        rw [among_take s b (k + 1)]
        rw [among_snoc s b k hlt]
        simp_all
      · go_round
        case rel=>exact ⟨k + 1,by omega,by go_num,by rw [among_snoc s b k hlt,HA.out];simp_all⟩
        case measure=>simp [intOf];omega
    · go_wp2
      go_ret
      refine ⟨ret_bool ?_,rfl⟩
      have e:k=s.size:=by omega
      have h:=HA.out
      rw [e,take_all] at h
      rw [h]
set_option maxHeartbeats 400000 in
theorem rclass_any (b:Int) (w:World) :
    Calls Tryz.prog 66 #[.int .u8 b] w fun e w'=>e=.returned (.int .i64 (cls b))∧w=w':=by
  have hs:=among_signs b
  generalize hx:among [40,41,44,47,61,46,59,58,36,37] b=x at hs
  have H:=Lib.hid hs
  have H2:=Lib.hid hx
  clear hs hx
  go_enter Tryz.func66,Tryz.ntmps66
  go_wp2_with (go_at_call 116;refine (among_any _ _ _ (by decide)).mono ?_;rintro e w' ⟨rfl,rfl⟩;simp only [H2.out])
  all_goals go_ret
  all_goals refine ⟨ret_int ?_,rfl⟩
  all_goals (have hs:=H.out;clear H H2;subst hs)
  all_goals (try simp only [beq_iff_eq,beq_eq_false_iff_ne,ne_eq,decide_eq_true_eq,decide_eq_false_iff_not] at *)
  all_goals (unfold cls;repeat (first | rw [if_pos (by omega)] | rw [if_neg (by omega)]))
  all_goals (exfalso;omega)
set_option maxHeartbeats 400000 in
theorem rpart_any (b:Int) (w:World) :
    Calls Tryz.prog 117 #[.int .u8 b] w fun e w'=>e=.returned (.bool (part b))∧w=w':=by
  have hb:=cls_bd b
  have hp:part b=decide (1≤cls b∧cls b≤3∨b=95):=rfl
  have H:=Lib.hid hp
  clear hp
  generalize hc:cls b=c at H hb
  have H2:=Lib.hid hc
  clear hc
  go_enter Tryz.func117,Tryz.ntmps117
  go_wp2_with (go_at_call 66;refine (rclass_any _ _).mono ?_;rintro e w' ⟨rfl,rfl⟩;rw [H2.out])
  all_goals go_ret
  all_goals refine ⟨ret_bool ?_,rfl⟩
  all_goals rw [H.out]
  all_goals (rw [Bool.eq_iff_iff];simp only [Bool.or_eq_true,beq_iff_eq,decide_eq_true_eq,true_iff])
  all_goals omega
end Go.Proofs.YtjcleokfpohpdaaGreatDoor
namespace Go.Proofs.YtjcleokfpohpdaaGreatDoor
open Go.RowKit
set_option maxHeartbeats 400000 in
theorem rkeys_any (w:World) :
    Calls Tryz.prog 68 #[] w fun e w'=>∃ v,e=.returned v∧Strs w' v keyList∧Below w.heap.size w w':=by
  go_enter Tryz.func68,Tryz.ntmps68
  go_wp2
  go_ret
  exact ⟨_,rfl,strs_alloc w keyList 9 (by decide),(Below.refl _ _).alloc (Nat.le_refl _) _⟩
set_option maxHeartbeats 400000 in
theorem rparts_any (s:ByteArray) (hs:s.size≤9223372036854775806) (w:World) :
    Calls Tryz.prog 67 #[.string s] w fun e w'=>e=.returned (.bool (allPart s.data.toList))∧w=w':=by
  go_enter Tryz.func67,Tryz.ntmps67
  go_wp2
  go_loop [3] (fun i=>∃ k:Nat,k≤s.size∧i=.int .i64 k∧allPart (s.data.toList.take k)=true) (fun i=>s.size - (intOf i).toNat)
  case atStart=>exact ⟨0,Nat.zero_le _,rfl,rfl⟩
  case round =>
    obtain ⟨k,hk,rfl,ha⟩:=hrel
    have HA:=Lib.hid ha
    clear ha
    by_cases hlt:k < s.size
    · cases hp:part (s[k].toNat:Int) with
      | true =>
        have HP:=Lib.hid hp
        clear hp
        go_wp2_with (go_at_call 117;refine (rpart_any _ _).mono ?_;rintro e w' ⟨rfl,rfl⟩;rw [HP.out])
        go_round
        case rel=>exact ⟨k + 1,by omega,by go_num,by rw [allPart_snoc s k hlt,HA.out,HP.out];rfl⟩
        case measure=>simp [intOf];omega
      | false =>
        have HP:=Lib.hid hp
        clear hp
        go_wp2_with (go_at_call 117;refine (rpart_any _ _).mono ?_;rintro e w' ⟨rfl,rfl⟩;rw [HP.out])
        go_ret
        exact ⟨ret_bool (allPart_bad s k hlt HP.out).symm,rfl⟩
    · go_wp2
      go_ret
      refine ⟨ret_bool ?_,rfl⟩
      have e:k=s.size:=by omega
      have h:=HA.out
      rw [e,take_all] at h
      rw [h]
set_option maxHeartbeats 400000 in
theorem rword_any (s:ByteArray) (hs:s.size≤9223372036854775806) (w:World) :
    Calls Tryz.prog 29 #[.string s] w fun e w'=>e=.returned (.bool (wordB s))∧Below w.heap.size w w':=by
  by_cases h0:1≤s.size
  · by_cases h1:s.size≤20
    · have hw:wordB s=(((cls (s[0].toNat:Int)==1)&&allPart s.data.toList) && !Lib.containsS keyList s):=by
        unfold wordB speltB;rw [decide_eq_true ⟨h0,h1⟩,fits_eq (.inl rfl) (by omega)];rfl
      have HW:=Lib.hid hw
      clear hw
      have C:=Lib.hid (fun b w=>rclass_any b w)
      have A:=Lib.hid (fun w=>rparts_any s hs w)
      have hi:(0:Int) < (s.size:Int):=by omega
      cases hc:(cls (s[0].toNat:Int)==1) with
      | false =>
        have HC:=Lib.hid hc
        go_enter Tryz.func29,Tryz.ntmps29
        go_wp2_with (go_at_call 66;refine (C.out _ _).mono ?_;rintro e w1 ⟨rfl,rfl⟩)
        go_ret
        exact ⟨ret_bool (by rw [HW.out,HC.out];rfl),Below.refl _ _⟩
      | true =>
        have HC:=Lib.hid hc
        cases hp:allPart s.data.toList with
        | false =>
          have HP:=Lib.hid hp
          clear hp
          go_enter Tryz.func29,Tryz.ntmps29
          go_wp2_with (first | (go_at_call 66;refine (C.out _ _).mono ?_;rintro e w1 ⟨rfl,rfl⟩) | (go_at_call 67;refine (A.out _).mono ?_;rintro e w1 ⟨rfl,rfl⟩;rw [HP.out]))
          go_ret
          exact ⟨ret_bool (by rw [HW.out,HC.out,HP.out];rfl),Below.refl _ _⟩
        | true =>
          have HP:=Lib.hid hp
          clear hp
          go_enter Tryz.func29,Tryz.ntmps29
          go_wp2_with (first | (go_at_call 66;refine (C.out _ _).mono ?_;rintro e w1 ⟨rfl,rfl⟩) | (go_at_call 67;refine (A.out _).mono ?_;rintro e w1 ⟨rfl,rfl⟩;rw [HP.out]) | (go_at_call 68;refine (rkeys_any _).mono ?_;rintro e w1 ⟨v,rfl,hv,hb⟩;replace hv:=Lib.hid hv) | (go_at_call 28;refine (rin_any _ _ _ _ (Hid.out (by assumption))).mono ?_;rintro e w2 ⟨rfl,rfl⟩))
          go_ret
          exact ⟨ret_bool (by rw [HW.out,HC.out,HP.out];rfl),hb⟩
    · have HF:=Lib.hid (show wordB s=false from by unfold wordB speltB;rw [decide_eq_false (by omega)];rfl)
      go_enter Tryz.func29,Tryz.ntmps29
      go_wp2_with fail
      go_ret
      exact ⟨ret_bool HF.out.symm,Below.refl _ _⟩
  · have HF:=Lib.hid (show wordB s=false from by unfold wordB speltB;rw [decide_eq_false (by omega)];rfl)
    go_enter Tryz.func29,Tryz.ntmps29
    go_wp2_with fail
    go_ret
    exact ⟨ret_bool HF.out.symm,Below.refl _ _⟩
end Go.Proofs.YtjcleokfpohpdaaGreatDoor
namespace Go.Proofs.YtjcleokfpohpdaaGreatDoor
open Go.RowKit
structure After (wb:World) where
  w:World
  below:Below wb.heap.size wb w
instance (wb:World):Inhabited (After wb):=⟨⟨wb,Below.refl _ _⟩⟩
end Go.Proofs.YtjcleokfpohpdaaGreatDoor
