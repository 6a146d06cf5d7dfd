/-
  What a shape's letter stands for, whichever it is, by the reference of layer 11: one.
  What a shape's letter stands for, with the item's rows from a block on, by the reference of layer 11.
  What stands behind a key, by the reference of layer 11: shapes. (printed by tools/genshape.py)
  Scan of the reference, walked: it answers what the scan of the text tells. (as data)
  How many bytes that may be part of a word stand at a place of a text: what parts of package lex answers, and Long of the reference, for every text and every place in it. Neither changes anything. (the reference)
  Digits of the reference of layer 1: a number in decimal. The call makes new memory alone.
  Digits and Number of package chars, and the same of the reference: a number in decimal, and the number from 0 to 999 that a text is; in every world in which the listed variables of strconv hold what they were laid with. Each call makes new memory alone. (the reference)
  Whether a text is the word of a variable, by the reference. Each call makes new memory alone.
-/
import Derived.Test.YtjcleokfpohpdaaGreatDoorU36
import Derived.Test.YtjcleokfpohpdaaGreatDoorU07
import Derived.Test.YtjcleokfpohpdaaGreatDoorU06
import Derived.Test.YtjcleokfpohpdaaGreatDoorU04
import Derived.Test.YtjcleokfpohpdaaGreatDoorU03
import Derived.Lib.Hide
import Derived.WalkKit
import Derived.WalkSpells
import Derived.Test.YtjcleokfpohpdaaGreatDoorU01
import Derived.Lib.ItoaLen
namespace Go.Proofs.YtjcleokfpohpdaaGreatDoor
open Go.RowKit
theorem rone_any (v:Value) (L:List Tok) (A:World) (hv:Toks A v L) (hE:Ended L) (hO:∀ i,TokOk (tkD L i)) (hlen:L.length≤100000) (x:It) (vw vt:Value) (c:UInt8) (hl1:x.words.length≤100000) (hl2:x.trees.length≤1000000) (i:Nat) (hi:i < L.length) (w:World) (hA:Below A.heap.size A w)
    (R:Nat→Prop) (hR:∀ k,rowsP vw vt k→R k) (Z:Nat→Prop) (hZ:∀ k,Z k→k < w.heap.size) (hr:RowsI w Z 51 A.heap.size vw x.words vt x.trees) :
    Calls Tryz.prog 86 #[itVal x vw vt,v,.int .i64 i,.int .u8 (c.toNat:Int)] w (OnePost A R Z w x L i c):=by
  by_cases g1:c=119
  · subst g1;exact rone_word v L A hv x vw vt hO hl1 i hlen hi w hA R hR Z hZ hr
  by_cases g2:c=110
  · subst g2;exact rone_num v L A hv x vw vt hO hl1 i hlen hi w hA R hR Z hZ hr
  by_cases g3:c=116
  · subst g3;exact rone_term v L A hv x vw vt hO hE hl2 i hlen hi w hA R hR Z hZ hr
  by_cases g4:c=108
  · subst g4;exact rone_list v L A hv x vw vt hO hE hl2 i hlen hi w hA R hR Z hZ hr
  exact rone_sign v L A hv x vw vt c g1 g2 g3 g4 i hlen hi w hA R hR Z hZ hr
end Go.Proofs.YtjcleokfpohpdaaGreatDoor
namespace Go.Proofs.YtjcleokfpohpdaaGreatDoor
open Go.RowKit
def OneAt (Z:Nat→Prop) (x:It) (vw vt:Value) (L:List Tok) (i:Nat) (c:UInt8) (base:Nat) (w:World) (e:Ending) (w':World):Prop :=
  ∃ vw' vt',e=.returned (.tuple #[itVal x vw' vt',.int .i64 (oneP x L i c).2.1,.bool (oneP x L i c).2.2])∧RowsI w' Z 51 base vw' (oneP x L i c).1.words vt' (oneP x L i c).1.trees∧Below base w w' ∧
    (∀ k,k < w.heap.size→¬ rowsP vw vt k→w'.heap[k]? = w.heap[k]?)∧∀ k,rowsP vw' vt' k→rowsP vw vt k∨w.heap.size≤k
theorem rone_at (v:Value) (L:List Tok) (w1:World) (hv:Toks w1 v L) (hE:Ended L) (hO:∀ i,TokOk (tkD L i)) (hlen:L.length≤100000) (x:It) (vw vt:Value) (c:UInt8) (hl1:x.words.length≤100000) (hl2:x.trees.length≤1000000) (i:Nat) (hi:i < L.length)
    (base:Nat) (h1:w1.heap.size≤base) (w:World) (hbw:base≤w.heap.size) (hb:Below w1.heap.size w1 w) (Z:Nat→Prop) (hZ:∀ k,Z k→k < w.heap.size) (hr:RowsI w Z 51 base vw x.words vt x.trees) :
    Calls Tryz.prog 86 #[itVal x vw vt,v,.int .i64 i,.int .u8 (c.toNat:Int)] w (OneAt Z x vw vt L i c base w):=by
  have hz:=cutW_size w hbw
  have:=rone_any v L (cutW w base) (hv.below (below_cutW hb h1 hbw)) hE hO hlen x vw vt c hl1 hl2 i hi w (by rw [hz];exact cutW_below w hbw) (rowsP vw vt) (fun k h=>h) Z hZ (by rw [hz];exact hr)
  refine this.mono ?_
  rintro e w' ⟨vw',vt',rfl,q1,q2,q3,q4,q5⟩
  rw [hz] at q1 q2
  exact ⟨vw',vt',rfl,q1,cutW_back hbw q5 q2,q3,q4⟩
end Go.Proofs.YtjcleokfpohpdaaGreatDoor
namespace Go.Proofs.YtjcleokfpohpdaaGreatDoor
open Go.RowKit
def shapeB (k:ByteArray):ByteArray:=⟨(shapesOf k).toArray⟩
set_option maxRecDepth 100000 in
set_option maxHeartbeats 2000000 in
theorem rshapes_any (k:ByteArray) (w:World) :
    Calls Tryz.prog 85 #[.string k] w fun e w'=>e=.returned (.string (shapeB k))∧w=w':=by
  have HE:∀ l:List UInt8,shapesOf k=l→Hid (shapeB k=⟨l.toArray⟩):=fun l h=>Lib.hid (by unfold shapeB;rw [h])
  have e0:(⟨#[102,117,110]⟩:ByteArray).toList=[102,117,110]:=by simp
  have e1:(⟨#[110,97,109,101]⟩:ByteArray).toList=[110,97,109,101]:=by simp
  have e2:(⟨#[117,115,101]⟩:ByteArray).toList=[117,115,101]:=by simp
  have e3:(⟨#[114,117,108,101]⟩:ByteArray).toList=[114,117,108,101]:=by simp
  have e4:(⟨#[102,114,97,109,101]⟩:ByteArray).toList=[102,114,97,109,101]:=by simp
  have e5:(⟨#[100,101,100,117,99,101]⟩:ByteArray).toList=[100,101,100,117,99,101]:=by simp
  have e6:(⟨#[101,113,117,105,118]⟩:ByteArray).toList=[101,113,117,105,118]:=by simp
  cases g0:(k.toList==[102,117,110]) with
  | true =>
    have HV:=HE [119,47,110,46] (by unfold shapesOf;rw [if_pos (by rw [e0];exact g0)])
    clear HE
    go_enter Tryz.func85,Tryz.ntmps85
    go_wp2_with fail
    go_ret
    exact ⟨by rw [HV.out];rfl,rfl⟩
  | false =>
    cases g1:(k.toList==[110,97,109,101]) with
    | true =>
      have HV:=HE [119,46] (by unfold shapesOf;rw [if_neg (by rw [e0,g0];decide),if_pos (.inl (by rw [e1];exact g1))])
      clear HE
      go_enter Tryz.func85,Tryz.ntmps85
      go_wp2_with fail
      go_ret
      exact ⟨by rw [HV.out];rfl,rfl⟩
    | false =>
      cases g2:(k.toList==[117,115,101]) with
      | true =>
        have HV:=HE [119,46] (by unfold shapesOf;rw [if_neg (by rw [e0,g0];decide),if_pos (.inr (by rw [e2];exact g2))])
        clear HE
        go_enter Tryz.func85,Tryz.ntmps85
        go_wp2_with fail
        go_ret
        exact ⟨by rw [HV.out];rfl,rfl⟩
      | false =>
        cases g3:(k.toList==[114,117,108,101]) with
        | true =>
          have HV:=HE [116,61,116,46] (by unfold shapesOf;rw [if_neg (by rw [e0,g0];decide),if_neg (by rw [e1,e2,g1,g2];decide),if_pos (by rw [e3];exact g3)])
          clear HE
          go_enter Tryz.func85,Tryz.ntmps85
          go_wp2_with fail
          go_ret
          exact ⟨by rw [HV.out];rfl,rfl⟩
        | false =>
          cases g4:(k.toList==[102,114,97,109,101]) with
          | true =>
            have HV:=HE [119,58,108,46] (by unfold shapesOf;rw [if_neg (by rw [e0,g0];decide),if_neg (by rw [e1,e2,g1,g2];decide),if_neg (by rw [e3,g3];decide),if_pos (by rw [e4];exact g4)])
            clear HE
            go_enter Tryz.func85,Tryz.ntmps85
            go_wp2_with fail
            go_ret
            exact ⟨by rw [HV.out];rfl,rfl⟩
          | false =>
            cases g5:(k.toList==[100,101,100,117,99,101]) with
            | true =>
              have HV:=HE [119,116,46] (by unfold shapesOf;rw [if_neg (by rw [e0,g0];decide),if_neg (by rw [e1,e2,g1,g2];decide),if_neg (by rw [e3,g3];decide),if_neg (by rw [e4,g4];decide),if_pos (by rw [e5];exact g5)])
              clear HE
              go_enter Tryz.func85,Tryz.ntmps85
              go_wp2_with fail
              go_ret
              exact ⟨by rw [HV.out];rfl,rfl⟩
            | false =>
              cases g6:(k.toList==[101,113,117,105,118]) with
              | true =>
                have HV:=HE [119,119,46] (by unfold shapesOf;rw [if_neg (by rw [e0,g0];decide),if_neg (by rw [e1,e2,g1,g2];decide),if_neg (by rw [e3,g3];decide),if_neg (by rw [e4,g4];decide),if_neg (by rw [e5,g5];decide),if_pos (by rw [e6];exact g6)])
                clear HE
                go_enter Tryz.func85,Tryz.ntmps85
                go_wp2_with fail
                go_ret
                exact ⟨by rw [HV.out];rfl,rfl⟩
              | false =>
                have HV:=HE [116,46] (by unfold shapesOf;rw [if_neg (by rw [e0,g0];decide),if_neg (by rw [e1,e2,g1,g2];decide),if_neg (by rw [e3,g3];decide),if_neg (by rw [e4,g4];decide),if_neg (by rw [e5,g5];decide),if_neg (by rw [e6,g6];decide)])
                clear HE
                go_enter Tryz.func85,Tryz.ntmps85
                go_wp2_with fail
                go_ret
                exact ⟨by rw [HV.out];rfl,rfl⟩
end Go.Proofs.YtjcleokfpohpdaaGreatDoor
namespace Go.Proofs.YtjcleokfpohpdaaGreatDoor
open Go.RowKit
theorem hb_text {s:ByteArray} {i:Nat} {c:Cut} (h:1≤c.len∧i + c.len≤s.size):(s.extract i (i + c.len)).size=c.len:=by simp;omega
end Go.Proofs.YtjcleokfpohpdaaGreatDoor
namespace Go.Proofs.YtjcleokfpohpdaaGreatDoor
open Go.RowKit
set_option maxHeartbeats 400000 in
theorem long_any (s:ByteArray) (fi:Int) (f m:Nat) (hfi:fi=f) (hm:m=run s f) (hf:f≤s.size) (hs:s.size≤4611686018427387904) (w:World) :
    Calls Tryz.prog 161 #[.string s,.int .i64 fi] w fun e w'=>e=.returned (.int .i64 m)∧w=w':=by
  subst hfi
  have HM:=Lib.hid hm
  clear hm
  go_enter Tryz.func161,Tryz.ntmps161
  go_wp2
  go_loop [5] (fun i=>∃ k:Nat,f + k≤s.size∧i=.int .i64 k∧m=k + run s (f + k)) (fun i=>s.size - (intOf i).toNat)
  case atStart=>exact ⟨0,by omega,rfl,by have:=HM.out;simpa using this⟩
  case round =>
    obtain ⟨k,hk,rfl,ha⟩:=hrel
    have HA:=Lib.hid ha
    clear ha
    by_cases hlt:f + k < s.size
    · have hi:(f:Int) + (k:Int) < (s.size:Int):=by omega
      have HI:=Lib.hid (show ((f:Int) + (k:Int))=((f + k:Nat):Int) from by omega)
      have hi2:((f:Int) + (k:Int)).toNat=f + k:=by omega
      cases hp:part (s[f + k].toNat:Int) with
      | true =>
        have HP:=Lib.hid hp
        clear hp
        go_wp2_with (go_at_call 117;refine (rpart_any _ _).mono ?_;rintro e w' ⟨rfl,rfl⟩;rw [HP.out])
        go_round
        case rel=>exact ⟨k + 1,by omega,by go_num,by have:=run_some s hlt HP.out;have:=HA.out;rw [show f + (k + 1)=f + k + 1 from by omega];omega⟩
        case measure=>simp [intOf];omega
      | false =>
        have HP:=Lib.hid hp
        clear hp
        go_wp2_with (go_at_call 117;refine (rpart_any _ _).mono ?_;rintro e w' ⟨rfl,rfl⟩;rw [HP.out])
        go_ret
        exact ⟨ret_int (by have:=run_none s hlt HP.out;have:=HA.out;omega),rfl⟩
    · have hi:¬ (f:Int) + (k:Int) < (s.size:Int):=by omega
      go_wp2
      go_ret
      refine ⟨ret_int ?_,rfl⟩
      have e:f + k=s.size:=by omega
      have:=run_end s
      have:=HA.out
      rw [e] at this
      omega
end Go.Proofs.YtjcleokfpohpdaaGreatDoor
namespace Go.Proofs.YtjcleokfpohpdaaGreatDoor
open Go.RowKit
def str (l:List UInt8):Value:=.string ⟨l.toArray⟩
def lastDigit (u:Nat):UInt8:=UInt8.ofNat (48 + u % 10)
theorem digits_small {u:Nat} (h:u < 10):Lib.decDigits u=[lastDigit u]:=by
  rw [Lib.decDigits_one h];unfold lastDigit;rw [Nat.mod_eq_of_lt h]
theorem digits_len {u:Nat} (h:u < 18446744073709551616):(Lib.decDigits (u / 10)).length≤21:=by
  rw [← Lib.itoa_nonneg]
  exact Lib.itoa_length_le _ (by omega) (by omega)
theorem conv_one (w:World) (u:Nat) :
    (convert 200 9 (.slice (some ⟨w.heap.size,0,none⟩) 1 1)).run Tryz.prog (w.alloc (.cells #[.int .u8 (48 + (u:Int) % 10)] 5))=.ok (.string ⟨#[lastDigit u]⟩) (w.alloc (.cells #[.int .u8 (48 + (u:Int) % 10)] 5)):=by
  have h:=run_convert_bytes_back (P:=Tryz.prog) (w.alloc (.cells #[.int .u8 (48 + (u:Int) % 10)] 5)) 200 9 5 ⟨w.heap.size,0,none⟩ 1 [lastDigit u] Tryz.underlying200 Tryz.underlying5 Tryz.underlying9
    (fun j hj=>by
      have:j=0:=by simp at hj;omega
      subst this
      have e:=World.cell?_alloc_mark w #[.int .u8 (48 + (u:Int) % 10)] 5 (0,0) 0
      show (w.alloc (.cells #[.int .u8 (48 + (u:Int) % 10)] 5)).cell? ⟨w.heap.size,0,none⟩=_
      rw [e]
      show some (Value.int .u8 (48 + (u:Int) % 10))=some (.int .u8 ((UInt8.ofNat (48 + u % 10)).toNat:Int))
      rw [digit_val (by omega)]
      congr 2)
  exact h
set_option maxRecDepth 100000 in
set_option maxHeartbeats 400000 in
theorem ahead_any (u:Nat) (hu:u < 18446744073709551616):∀ w:World,
    Calls Tryz.prog 203 #[.int .u64 u] w fun e w'=>e=.returned (.string ⟨(Lib.decDigits u).toArray⟩)∧Below w.heap.size w w':=by
  induction u using Nat.strongRecOn with
  | ind u ih =>
    intro w
    have hc:=conv_one w u
    by_cases h:u < 10
    · have HS:=Lib.hid (digits_small h)
      go_enter Tryz.func203,Tryz.ntmps203
      go_wp2_with fail
      go_ret
      refine ⟨?_,(Below.refl _ _).alloc (Nat.le_refl _) _⟩
      rw [HS.out];rfl
    · have IH:=Lib.hid (ih (u / 10) (by omega) (by omega))
      clear ih
      have hd:((u:Int) / 10)=((u / 10:Nat):Int):=by omega
      have HD:=Lib.hid hd
      have HB:=Lib.hid (show Lib.decDigits u=Lib.decDigits (u / 10) ++ [lastDigit u] from decDigits_big h)
      have hl:=digits_len hu
      clear hd
      go_enter Tryz.func203,Tryz.ntmps203
      go_wp2_with (go_at_call 203;rw [HD.out];refine (IH.out _).mono ?_;rintro e w' ⟨rfl,hb⟩)
      go_ret
      refine ⟨?_,((Below.refl _ _).alloc (Nat.le_refl _) _).trans (hb.mono (by simp))⟩
      rw [HB.out]
      show Ending.returned (.string (⟨(Lib.decDigits (u / 10)).toArray⟩ ++ ⟨#[lastDigit u]⟩))=_
      rw [show ((⟨(Lib.decDigits (u / 10)).toArray⟩:ByteArray) ++ ⟨#[lastDigit u]⟩)=⟨(Lib.decDigits (u / 10) ++ [lastDigit u]).toArray⟩ from by apply ByteArray.ext;simp]
theorem digits_len2 {u:Nat} (h:u≤9223372036854775808):(Lib.decDigits u).length≤42:=by
  by_cases h1:u < 10
  · rw [Lib.decDigits_one h1];simp
  · rw [decDigits_big h1]
    have:=digits_len (u:=u) (by omega)
    simp;omega
set_option maxHeartbeats 400000 in
theorem rdigits_any (n:Int) (h0 : -9223372036854775808≤n) (h1:n≤9223372036854775807) (w:World) :
    Calls Tryz.prog 178 #[.int .i64 n] w fun e w'=>e=.returned (.string ⟨(Lib.itoa n).toArray⟩)∧Below w.heap.size w w':=by
  by_cases hn:n < 0
  · have HN:=Lib.hid (show -(n + 1) + 1=((n.natAbs:Nat):Int) from by omega)
    have HI:=Lib.hid (show Lib.itoa n=45 :: Lib.decDigits n.natAbs from by unfold Lib.itoa;rw [if_pos hn])
    have hl:=digits_len2 (u:=n.natAbs) (by omega)
    have C:=Lib.hid (fun w=>ahead_any n.natAbs (by omega) w)
    go_enter Tryz.func178,Tryz.ntmps178
    go_wp2_with (go_at_call 203;rw [HN.out];refine (C.out _).mono ?_;rintro e w' ⟨rfl,hb⟩)
    go_ret
    refine ⟨?_,hb⟩
    rw [HI.out]
    show Ending.returned (.string (⟨#[45]⟩ ++ ⟨(Lib.decDigits n.natAbs).toArray⟩))=_
    rw [show ((⟨#[45]⟩:ByteArray) ++ ⟨(Lib.decDigits n.natAbs).toArray⟩)=⟨(45 :: Lib.decDigits n.natAbs).toArray⟩ from by apply ByteArray.ext;simp]
  · obtain ⟨m,rfl⟩:=Int.eq_ofNat_of_zero_le (Int.not_lt.1 hn)
    have HI:=Lib.hid (Lib.itoa_nonneg m)
    have C:=Lib.hid (fun w=>ahead_any m (by omega) w)
    go_enter Tryz.func178,Tryz.ntmps178
    go_wp2_with (go_at_call 203;refine (C.out _).mono ?_;rintro e w' ⟨rfl,hb⟩)
    go_ret
    refine ⟨?_,hb⟩
    rw [HI.out];rfl
end Go.Proofs.YtjcleokfpohpdaaGreatDoor
namespace Go.Proofs.YtjcleokfpohpdaaGreatDoor
open Go.RowKit
set_option maxHeartbeats 400000 in
theorem rnumber_any (s:ByteArray) (w:World) :
    Calls Tryz.prog 162 #[.string s] w fun e w'=>e=numEnd s∧Below w.heap.size w w':=by
  go_enter Tryz.func162,Tryz.ntmps162
  go_wp2
  go_loopw [4] (fun i wr=>∃ k:Nat,k≤1000∧i=.int .i64 k∧NoneYet s.data.toList k∧Below w.heap.size w wr) (fun i _=>1000 - (intOf i).toNat)
  case atStart=>exact ⟨0,by omega,rfl,(fun j hj=>by omega),Below.refl _ _⟩
  case round =>
    obtain ⟨k,hk,rfl,hnone,hb⟩:=hrel
    have HN:=Lib.hid hnone
    clear hnone
    by_cases hlt:k≤999
    · have D:=Lib.hid (fun w=>rdigits_any (k:Int) (by omega) (by omega) w)
      have HI:=Lib.hid (Lib.itoa_nonneg k)
      by_cases he:Lib.decDigits k=s.data.toList
      · have hq:(Lib.itoa k==s.toList)=true:=by rw [beq_iff_eq,Lib.itoa_nonneg,he,ByteArray.toList_eq]
        have HE:=Lib.hid he
        clear he
        go_wp2_with (go_at_call 178;refine (D.out _).mono ?_;rintro e w2 ⟨rfl,hw2⟩)
        go_ret2
        exact ⟨numEnd_some (num_here hlt HE.out),hb.trans (hw2.mono hb.size)⟩
      · have hq:(Lib.itoa k==s.toList)=false:=by rw [beq_eq_false_iff_ne,Lib.itoa_nonneg,ByteArray.toList_eq];exact he
        have HE:=Lib.hid he
        clear he
        go_wp2_with (go_at_call 178;refine (D.out _).mono ?_;rintro e w2 ⟨rfl,hw2⟩)
        go_roundw
        case rel=>exact ⟨k + 1,by omega,by go_num,HN.out.succ HE.out,hb.trans (hw2.mono hb.size)⟩
        case measure=>simp [intOf];omega
    · obtain rfl:k=1000:=by omega
      go_wp2
      go_ret2
      exact ⟨numEnd_none HN.out.none,hb⟩
end Go.Proofs.YtjcleokfpohpdaaGreatDoor
namespace Go.Proofs.YtjcleokfpohpdaaGreatDoor
open Go.RowKit
set_option maxHeartbeats 400000 in
theorem rupper_any (s:ByteArray) (hs:s.size≤9223372036854775806) (w:World) :
    Calls Tryz.prog 51 #[.string s] w fun e w'=>e=.returned (.bool (upperB s))∧Below w.heap.size w w':=by
  by_cases h0:1≤s.size
  · by_cases h1:s.size≤20
    · have hw:upperB s=((cls (s[0].toNat:Int)==2)&&allPart s.data.toList):=by
        rw [upper_spelt];unfold speltB;rw [decide_eq_true ⟨h0,h1⟩,fits_eq (.inr rfl) (by omega)];rfl
      have HW:=Lib.hid hw
      clear hw
      have C:=Lib.hid (fun b w=>rclass_any b w)
      have A:=Lib.hid (fun w=>rparts_any s hs w)
      have hi:(0:Int) < (s.size:Int):=by omega
      cases hc:(cls (s[0].toNat:Int)==2) with
      | false =>
        have HC:=Lib.hid hc
        go_enter Tryz.func51,Tryz.ntmps51
        go_wp2_with (go_at_call 66;refine (C.out _ _).mono ?_;rintro e w1 ⟨rfl,rfl⟩)
        go_ret
        exact ⟨ret_bool (by rw [HW.out,HC.out];rfl),Below.refl _ _⟩
      | true =>
        have HC:=Lib.hid hc
        go_enter Tryz.func51,Tryz.ntmps51
        go_wp2_with (first | (go_at_call 66;refine (C.out _ _).mono ?_;rintro e w1 ⟨rfl,rfl⟩) | (go_at_call 67;refine (A.out _).mono ?_;rintro e w1 ⟨rfl,rfl⟩))
        go_ret
        exact ⟨ret_bool (by rw [HW.out,HC.out];rfl),Below.refl _ _⟩
    · have HF:=Lib.hid (show upperB s=false from by unfold upperB speltB;rw [decide_eq_false (by omega)];rfl)
      go_enter Tryz.func51,Tryz.ntmps51
      go_wp2_with fail
      go_ret
      exact ⟨ret_bool HF.out.symm,Below.refl _ _⟩
  · have HF:=Lib.hid (show upperB s=false from by unfold upperB speltB;rw [decide_eq_false (by omega)];rfl)
    go_enter Tryz.func51,Tryz.ntmps51
    go_wp2_with fail
    go_ret
    exact ⟨ret_bool HF.out.symm,Below.refl _ _⟩
end Go.Proofs.YtjcleokfpohpdaaGreatDoor
