/-
  Words, as data. No function of the program.
  Plain facts on bytes and decimal digits: what text a number has, and that no two numbers have the same one. Nothing of the program.
  Digits and Number of package chars, and the same of the reference: a number in decimal, and the number from 0 to 999 that a text is; in every world in which the listed variables of strconv hold what they were laid with. Each call makes new memory alone. (as data)
  The token that a text begins with: token, word, sign and number of package lex. (as data)
  The token that a text begins with, as token of package lex tells it, and as At of the reference tells it of any place of a text. (as data)
  The token that begins at a place of a text, as At of the reference tells it. (as data)
  Tokens as data, and slices that read as rows of them; whether tokens are few and short, by the reference. (as data)
  Whether two rows of tokens are alike in all, by the reference, for any two rows. (as data)
  Rows of tokens that the call itself makes: the tokens without their places, by the reference and by package lex. (as data)
  A text as tokens, as a function of the text: what a scan answers, step by step. Nothing of memory. (as data)
  The texts of tokens with a blank between: Show of package lex and of the reference, for any tokens whose texts are short enough together. (as data)
  There and back: what the tokens of a text are shown as has the same tokens. Nothing of memory. (as data)
  Texts that are spelt out of tokens and of what may stand between them: they are scanned as these tokens. Nothing of memory.
  A term as a text, by the reference of layer 3: Show, for any term in memory that is not too long. (as data)
  Terms read of tokens: what is read, where reading goes on, and that it hangs on the tokens alone. No function of the program.
  What the byte functions of the reference answer: the class, or whether the byte may be part of a word, for every byte and in every world; nothing is changed.
  Whether a text is a word, by the reference. Each call makes new memory alone.
  A drawn region whose operations read and whose callees make new memory alone, walked once in the order of the text: Quiet's theorem at the class of the worlds that lie behind a given one. No function of the program.
  Whether a token is a sign, a term by itself, a word, by the reference of layer 11: is, leaf, word, step.
  A box of five cells. No function of the program.
  A tree made of a token, in whatever order the box and the call come up: a region of the reference of layer 11.
  The term that begins at a token, by the reference of layer 11: Term, where Terms is as it should be.
-/
import Derived.Test.YtnbjpgdnfklanaaGreatDoorT02
import Derived.Test.YtnbjpgdnfklanaaGreatDoorT01
import Derived.Lib.ItoaNum
import Derived.Lib.ItoaMem
import Derived.Lib.AtoiTie
import Derived.Lib.AtoiAllCases
import Derived.Lib.ItoaLen
import Derived.WalkSpells
import Derived.Below
import Derived.Laws.OwnMore
import Derived.Lib.SlicesS
import Derived.OwnWalk
import Derived.Laws.MakeOwn
import Derived.Lib.Join
import Derived.Laws.Concat
import Derived.WalkKit
import Derived.WalkLawsBesides
import Derived.Deep.QuietTactic
import Derived.BigQuiet
import Derived.Deep.RegionHeld3
import Derived.Sort.AtCall
namespace Go.Proofs.YtnbjpgdnfklanaaGreatDoor
open Go.RowKit
def keyList : List ByteArray := [⟨#[102, 117, 110]⟩, ⟨#[110, 97, 109, 101]⟩, ⟨#[114, 117, 108, 101]⟩, ⟨#[102, 114, 97, 109, 101]⟩, ⟨#[100, 101, 100, 117, 99, 101]⟩, ⟨#[101, 113, 117, 105, 118]⟩, ⟨#[110, 111, 114, 109, 97, 108]⟩, ⟨#[117, 115, 101]⟩]
def fitAt (s : ByteArray) (f : Int) (k : Nat) : Bool := if k = 0 then (cls ((s.data.toList.getD k 0).toNat : Int) == f) else part ((s.data.toList.getD k 0).toNat : Int)
theorem fitAt_zero {s : ByteArray} {f : Int} (h : 0 < s.size) : fitAt s f 0 = (cls (s[0].toNat : Int) == f) := by
  unfold fitAt; rw [if_pos rfl]
  have : s.data.toList.getD 0 0 = s[0] := by rw [List.getD, List.getElem?_eq_getElem (by simpa using h)]; rfl
  rw [this]
theorem fitAt_next {s : ByteArray} {f : Int} {k : Nat} (h : k < s.size) (hk : k ≠ 0) : fitAt s f k = part (s[k].toNat : Int) := by
  unfold fitAt; rw [if_neg hk]
  have : s.data.toList.getD k 0 = s[k] := by rw [List.getD, List.getElem?_eq_getElem (by simpa using h)]; rfl
  rw [this]
def FitsTo (s : ByteArray) (f : Int) (k : Nat) : Prop := ∀ j, j < k → fitAt s f j = true
theorem FitsTo.succ {s : ByteArray} {f : Int} {k : Nat} (h : FitsTo s f k) (hk : fitAt s f k = true) : FitsTo s f (k + 1) := by
  intro j hj
  by_cases e : j = k
  · rw [e]; exact hk
  · exact h j (by omega)
def fitsAll (s : ByteArray) (f : Int) : Bool := (List.range s.size).all fun j => fitAt s f j
theorem FitsTo.all {s : ByteArray} {f : Int} (h : FitsTo s f s.size) : fitsAll s f = true := by
  unfold fitsAll; rw [List.all_eq_true]; intro j hj; exact h j (List.mem_range.1 hj)
theorem fitsAll_bad {s : ByteArray} {f : Int} {k : Nat} (hk : k < s.size) (h : fitAt s f k = false) : fitsAll s f = false := by
  unfold fitsAll; rw [← Bool.not_eq_true, List.all_eq_true]; intro hall
  have := hall k (List.mem_range.2 hk)
  rw [h] at this; cases this
def speltB (s : ByteArray) (f : Int) : Bool := decide (1 ≤ s.size ∧ s.size ≤ 20) && fitsAll s f
theorem toList_empty {s : ByteArray} (h : s.size = 0) : s.toList = [] := by
  rw [ByteArray.toList_eq]; exact List.eq_nil_of_length_eq_zero (by simpa using h)
theorem toList_some {s : ByteArray} (h : 1 ≤ s.size) : s.toList.isEmpty = false := by
  rw [ByteArray.toList_eq]
  cases hd : s.data.toList with
  | nil =>
    have : s.size = 0 := by
      have := congrArg List.length hd
      simpa using this
    omega
  | cons c r => rfl
def wordB (s : ByteArray) : Bool := speltB s 1 && !Lib.containsS keyList s
def upperB (s : ByteArray) : Bool := speltB s 2 && !Lib.containsS keyList s
end Go.Proofs.YtnbjpgdnfklanaaGreatDoor

namespace Go.Proofs.YtnbjpgdnfklanaaGreatDoor
def numOf (l : List UInt8) : Option Nat := (List.range 1000).find? fun n => Lib.decDigits n == l
theorem numOf_some {l : List UInt8} {n : Nat} (h : numOf l = some n) : n ≤ 999 ∧ Lib.decDigits n = l := by
  unfold numOf at h
  have h1 := List.find?_some h
  have h2 := List.mem_of_find?_eq_some h
  rw [List.mem_range] at h2
  exact ⟨by omega, by simpa using h1⟩
def numVal (l : List UInt8) : Int := ((numOf l).getD 0 : Nat)
def isNum (l : List UInt8) : Bool := (numOf l).isSome
end Go.Proofs.YtnbjpgdnfklanaaGreatDoor

namespace Go.Proofs.YtnbjpgdnfklanaaGreatDoor
open Go.RowKit
def NoneYet (l : List UInt8) (k : Nat) : Prop := ∀ j, j < k → Lib.decDigits j ≠ l
theorem NoneYet.succ {l : List UInt8} {k : Nat} (h : NoneYet l k) (hk : Lib.decDigits k ≠ l) : NoneYet l (k + 1) := by
  intro j hj
  by_cases e : j = k
  · rw [e]; exact hk
  · exact h j (by omega)
theorem NoneYet.none {l : List UInt8} (h : NoneYet l 1000) : numOf l = none := by
  cases hn : numOf l with
  | none => rfl
  | some m => exact absurd (numOf_some hn).2 (h m (by have := (numOf_some hn).1; omega))
end Go.Proofs.YtnbjpgdnfklanaaGreatDoor

namespace Go.Proofs.YtnbjpgdnfklanaaGreatDoor
open Go.RowKit
structure Cut where
  kind : Int
  n : Int
  len : Nat
def numCut (kind : Int) (t : List UInt8) (least : Int) (len : Nat) : Option Cut := if isNum t = true ∧ ¬ numVal t < least then some ⟨kind, numVal t, len⟩ else none
def bs (l : List UInt8) : ByteArray := ⟨l.toArray⟩
def head (l : List UInt8) : Int := ((l.headD 0).toNat : Int)
def tokL (l : List UInt8) : Option Cut :=
  if head l = 36 then numCut 4 (l.tail.takeWhile pc) 1 (1 + (l.tail.takeWhile pc).length)
  else if head l = 37 then numCut 5 (l.tail.takeWhile pc) 0 (1 + (l.tail.takeWhile pc).length)
  else if cls (head l) = 4 then some ⟨6, 0, 1⟩
  else if cls (head l) = 3 then numCut 3 (l.takeWhile pc) 0 (l.takeWhile pc).length
  else if cls (head l) = 1 ∨ cls (head l) = 2 then
    if upperB (bs (l.takeWhile pc)) = true then some ⟨2, 0, (l.takeWhile pc).length⟩
    else if wordB (bs (l.takeWhile pc)) = true ∨ Lib.containsS keyList (bs (l.takeWhile pc)) = true then some ⟨1, 0, (l.takeWhile pc).length⟩ else none
  else none
end Go.Proofs.YtnbjpgdnfklanaaGreatDoor

namespace Go.Proofs.YtnbjpgdnfklanaaGreatDoor
open Go.RowKit
end Go.Proofs.YtnbjpgdnfklanaaGreatDoor

namespace Go.Proofs.YtnbjpgdnfklanaaGreatDoor
open Go.RowKit
end Go.Proofs.YtnbjpgdnfklanaaGreatDoor

namespace Go.Proofs.YtnbjpgdnfklanaaGreatDoor
open Go.RowKit
structure Tok where
  kind : Int
  text : ByteArray
  n : Int
  place : Int
def Tok.cells (t : Tok) : List Value := [.int .i64 t.kind, .string t.text, .int .i64 t.n, .int .i64 t.place]
structure TokAt (w : World) (b o : Nat) (t : Tok) : Prop where
  c0 : w.cell? ⟨b, o, none⟩ = some (.int .i64 t.kind)
  c1 : w.cell? ⟨b, o + 1, none⟩ = some (.string t.text)
  c2 : w.cell? ⟨b, o + 2, none⟩ = some (.int .i64 t.n)
  c3 : w.cell? ⟨b, o + 3, none⟩ = some (.int .i64 t.place)
theorem TokAt.below {w w' : World} {b o : Nat} {t : Tok} (h : TokAt w b o t) {B : Nat} (hb : Below B w w') (hlt : b < B) : TokAt w' b o t where
  c0 := (hb.cell (p := ⟨b, o, none⟩) hlt).trans h.c0
  c1 := (hb.cell (p := ⟨b, o + 1, none⟩) hlt).trans h.c1
  c2 := (hb.cell (p := ⟨b, o + 2, none⟩) hlt).trans h.c2
  c3 := (hb.cell (p := ⟨b, o + 3, none⟩) hlt).trans h.c3
def Toks (w : World) (v : Value) (ts : List Tok) : Prop :=
  ∃ a c, v = .slice a ts.length c ∧ ts.length ≤ 9223372036854775807 ∧ (ts = [] ∨ ∃ b off, a = some ⟨b, off, none⟩ ∧ b < w.heap.size ∧ ∀ j (h : j < ts.length), TokAt w b (off + j * 4) ts[j])
theorem Toks.below {w w' : World} {v : Value} {ts : List Tok} (h : Toks w v ts) (hb : Below w.heap.size w w') : Toks w' v ts := by
  obtain ⟨a, c, hv, hl, h⟩ := h
  refine ⟨a, c, hv, hl, ?_⟩
  rcases h with h | ⟨b, off, ha, hlt, hc⟩
  · exact .inl h
  · exact .inr ⟨b, off, ha, Nat.lt_of_lt_of_le hlt hb.size, fun j hj => (hc j hj).below hb hlt⟩
theorem Toks.none_ (w : World) (a : Option Addr) (c : Nat) : Toks w (.slice a 0 c) [] := ⟨a, c, rfl, by simp, .inl rfl⟩
def short (t : Tok) : Bool := decide (t.text.size ≤ 300)
def fewB (ts : List Tok) : Bool := decide (ts.length ≤ 200) && ts.all short
def ShortTo (ts : List Tok) (k : Nat) : Prop := ∀ j (h : j < ts.length), j < k → short ts[j] = true
theorem ShortTo.succ {ts : List Tok} {k : Nat} (h : ShortTo ts k) (hk : k < ts.length) (hs : short ts[k] = true) : ShortTo ts (k + 1) := by
  intro j hj hjk
  by_cases e : j = k
  · subst e; exact hs
  · exact h j hj (by omega)
theorem ShortTo.all {ts : List Tok} (h : ShortTo ts ts.length) (hl : ts.length ≤ 200) : fewB ts = true := by
  unfold fewB; rw [decide_eq_true hl, Bool.true_and, List.all_eq_true]
  intro t ht
  obtain ⟨j, hj, rfl⟩ := List.getElem_of_mem ht
  exact h j hj hj
end Go.Proofs.YtnbjpgdnfklanaaGreatDoor

namespace Go.Proofs.YtnbjpgdnfklanaaGreatDoor
open Go.RowKit
noncomputable def alike (ts us : List Tok) : Bool := @decide (ts = us) (Classical.propDecidable _)
theorem alike_true {ts us : List Tok} (h : ts = us) : alike ts us = true := by unfold alike; simp [h]
def SameTo (ts us : List Tok) (k : Nat) : Prop := ∀ j (h1 : j < ts.length) (h2 : j < us.length), j < k → ts[j] = us[j]
theorem SameTo.succ {ts us : List Tok} {k : Nat} (h : SameTo ts us k) (h1 : k < ts.length) (h2 : k < us.length) (hk : ts[k] = us[k]) : SameTo ts us (k + 1) := by
  intro j a b hj
  by_cases e : j = k
  · subst e; exact hk
  · exact h j a b (by omega)
theorem SameTo.all {ts us : List Tok} (h : SameTo ts us ts.length) (hl : ts.length = us.length) : alike ts us = true :=
  alike_true (List.ext_getElem hl fun j h1 h2 => h j h1 h2 h1)
end Go.Proofs.YtnbjpgdnfklanaaGreatDoor

namespace Go.Proofs.YtnbjpgdnfklanaaGreatDoor
open Go.RowKit
def Tok.plain (t : Tok) : Tok := { t with place := 0 }
end Go.Proofs.YtnbjpgdnfklanaaGreatDoor

namespace Go.Proofs.YtnbjpgdnfklanaaGreatDoor
open Go.RowKit
def inLine (c : UInt8) : Bool := (c.toNat : Int) != 10
def rem (s : ByteArray) (i : Nat) : Nat := ((s.data.toList.drop i).takeWhile inLine).length
def tokAt (s : ByteArray) (i : Nat) (c : Cut) : Tok := ⟨c.kind, s.extract i (i + c.len), c.n, i⟩
def endTok (s : ByteArray) : Tok := ⟨0, ⟨#[]⟩, 0, s.size⟩
def scanF : Nat → ByteArray → Nat → List Tok → Nat ⊕ List Tok
  | 0, s, _, acc => .inr (acc ++ [endTok s])
  | f + 1, s, i, acc =>
    if s.size ≤ i then .inr (acc ++ [endTok s])
    else if cls (head (s.data.toList.drop i)) = 5 then scanF f s (i + 1) acc
    else if head (s.data.toList.drop i) = 35 then scanF f s (i + rem s i) acc
    else match tokL (s.data.toList.drop i) with
      | none => .inl i
      | some c => scanF f s (i + c.len) (acc ++ [tokAt s i c])
def scanS (s : ByteArray) : Nat ⊕ List Tok := scanF s.size s 0 []
end Go.Proofs.YtnbjpgdnfklanaaGreatDoor

namespace Go.Proofs.YtnbjpgdnfklanaaGreatDoor
open Go.RowKit
end Go.Proofs.YtnbjpgdnfklanaaGreatDoor

namespace Go.Proofs.YtnbjpgdnfklanaaGreatDoor
open Go.RowKit
end Go.Proofs.YtnbjpgdnfklanaaGreatDoor

namespace Go.Proofs.YtnbjpgdnfklanaaGreatDoor
open Go.RowKit
end Go.Proofs.YtnbjpgdnfklanaaGreatDoor

namespace Go.Proofs.YtnbjpgdnfklanaaGreatDoor
open Go.RowKit
def pre (ls : List (List UInt8)) : List UInt8 := if ls.isEmpty = true then [] else 40 :: Lib.join ls [44, 32]
def close (ls : List (List UInt8)) : List UInt8 := if ls.isEmpty = true then [] else [41]
mutual

def showT : Tm → List UInt8
  | .mk k s n xs => if k = 1 ∨ k = 2 then s.data.toList else if k = 3 then 36 :: Lib.itoa n else if k = 4 then 37 :: Lib.itoa n else if k ≠ 5 then [63] else s.data.toList ++ pre (showsL xs) ++ close (showsL xs)
def showsL : List Tm → List (List UInt8)
  | [] => []
  | t :: r => showT t :: showsL r
end
mutual

def wtT : Tm → Nat
  | .mk _ s _ xs => s.size + 30 + wtL xs
def wtL : List Tm → Nat
  | [] => 0
  | t :: r => wtT t + wtL r
end
mutual
theorem wtT_small : ∀ t : Tm, (∀ x ∈ t.all, x.name.size ≤ 100) → wtT t ≤ 130 * t.parts
  | .mk k s n xs, h => by
    rw [Tm.all] at h
    rw [wtT, Tm.parts]
    have h1 : s.size ≤ 100 := h _ (List.mem_cons_self ..)
    have h2 := wtL_small xs (fun x hx => h x (List.mem_cons_of_mem _ hx))
    omega
theorem wtL_small : ∀ l : List Tm, (∀ x ∈ allL l, x.name.size ≤ 100) → wtL l ≤ 130 * partsL l
  | [], _ => by rw [wtL]; omega
  | t :: r, h => by
    rw [allL] at h
    rw [wtL, partsL]
    have h1 := wtT_small t (fun x hx => h x (List.mem_append_left _ hx))
    have h2 := wtL_small r (fun x hx => h x (List.mem_append_right _ hx))
    omega
end
end Go.Proofs.YtnbjpgdnfklanaaGreatDoor

namespace Go.Proofs.YtnbjpgdnfklanaaGreatDoor
open Go.RowKit
def nilTok : Tok := ⟨0, ⟨#[]⟩, 0, 0⟩
def tkD (L : List Tok) (i : Nat) : Tok := L.getD i nilTok
def isS (t : Tok) (s : ByteArray) : Bool := (t.kind == 6) && (t.text.toList == s.toList)
def leafK (t : Tok) : Int := if t.kind = 2 then 1 else if t.kind = 4 then 3 else if t.kind = 5 then 4 else 0
def wordK (t : Tok) : Bool := (t.kind == 1) && !Lib.containsS keyList t.text
def sOpen : ByteArray := ⟨#[40]⟩
def sClose : ByteArray := ⟨#[41]⟩
def sComma : ByteArray := ⟨#[44]⟩
def sSemi : ByteArray := ⟨#[59]⟩
def sDot : ByteArray := ⟨#[46]⟩
mutual

def termF : Nat → List Tok → Nat → Nat → Tr × Nat × Bool
  | 0, _, i, _ => (.mk 0 ⟨#[]⟩ 0 0 [], i, false)
  | f + 1, L, i, op =>
    if leafK (tkD L i) ≠ 0 then (.mk (leafK (tkD L i)) (tkD L i).text (tkD L i).n (tkD L i).place [], i + 1, true)
    else if wordK (tkD L i) = false then (.mk 0 (tkD L i).text (tkD L i).n (tkD L i).place [], i, false)
    else if isS (tkD L (i + 1)) sOpen = false then (.mk 5 (tkD L i).text 0 (tkD L i).place [], i + 1, true)
    else if 40 ≤ op then (.mk 5 (tkD L i).text 0 (tkD L i).place [], i + 1, false)
    else if (termsF f L (i + 2) sComma (op + 1)).2.2 = false ∨ isS (tkD L (termsF f L (i + 2) sComma (op + 1)).2.1) sClose = false then
      (.mk 5 (tkD L i).text 0 (tkD L i).place (termsF f L (i + 2) sComma (op + 1)).1, (termsF f L (i + 2) sComma (op + 1)).2.1, false)
    else (.mk 5 (tkD L i).text 0 (tkD L i).place (termsF f L (i + 2) sComma (op + 1)).1, (termsF f L (i + 2) sComma (op + 1)).2.1 + 1, true)

def termsF : Nat → List Tok → Nat → ByteArray → Nat → List Tr × Nat × Bool
  | 0, _, i, _, _ => ([], i, false)
  | f + 1, L, i, sg, op =>
    if (termF f L i op).2.2 = false then ([], (termF f L i op).2.1, false)
    else if isS (tkD L (termF f L i op).2.1) sg = false then ([(termF f L i op).1], (termF f L i op).2.1, true)
    else ((termF f L i op).1 :: (termsF f L ((termF f L i op).2.1 + 1) sg op).1, (termsF f L ((termF f L i op).2.1 + 1) sg op).2)
end
def termP (L : List Tok) (i op : Nat) : Tr × Nat × Bool := termF (2 * L.length + 2) L i op
def termsP (L : List Tok) (i : Nat) (sg : ByteArray) (op : Nat) : List Tr × Nat × Bool := termsF (2 * L.length + 2) L i sg op
mutual
def Tr.bare : Tr → Tr
  | .mk k s n _ xs => .mk k s n 0 (bareL xs)
def bareL : List Tr → List Tr
  | [] => []
  | t :: r => t.bare :: bareL r
end
end Go.Proofs.YtnbjpgdnfklanaaGreatDoor

namespace Go.Proofs.YtnbjpgdnfklanaaGreatDoor
open Go.RowKit
end Go.Proofs.YtnbjpgdnfklanaaGreatDoor

namespace Go.Proofs.YtnbjpgdnfklanaaGreatDoor
open Go.RowKit
end Go.Proofs.YtnbjpgdnfklanaaGreatDoor

namespace Go.Proofs.YtnbjpgdnfklanaaGreatDoor
open Go.RowKit
structure After (wb : World) where
  w : World
  below : Below wb.heap.size wb w
instance (wb : World) : Inhabited (After wb) := ⟨⟨wb, Below.refl _ _⟩⟩
end Go.Proofs.YtnbjpgdnfklanaaGreatDoor

namespace Go.Proofs.YtnbjpgdnfklanaaGreatDoor
open Go.RowKit
end Go.Proofs.YtnbjpgdnfklanaaGreatDoor

namespace Go.Proofs.YtnbjpgdnfklanaaGreatDoor
open Go.RowKit
structure Box5 (w : World) (g : Nat) (x0 x1 x2 x3 x4 : Value) : Prop where
  c0 : w.cell? ⟨g, 0, none⟩ = some x0
  c1 : w.cell? ⟨g, 1, none⟩ = some x1
  c2 : w.cell? ⟨g, 2, none⟩ = some x2
  c3 : w.cell? ⟨g, 3, none⟩ = some x3
  c4 : w.cell? ⟨g, 4, none⟩ = some x4
  f0 : w.frozen? ⟨g, 0, none⟩ = false
  f1 : w.frozen? ⟨g, 1, none⟩ = false
  f2 : w.frozen? ⟨g, 2, none⟩ = false
  f3 : w.frozen? ⟨g, 3, none⟩ = false
  f4 : w.frozen? ⟨g, 4, none⟩ = false
theorem Box5.below {w w1 : World} {g B : Nat} {x0 x1 x2 x3 x4 : Value} (h : Box5 w g x0 x1 x2 x3 x4) (hb : Below B w w1) (hg : g < B) : Box5 w1 g x0 x1 x2 x3 x4 where
  c0 := (hb.cell (p := ⟨g, 0, none⟩) hg).trans h.c0
  c1 := (hb.cell (p := ⟨g, 1, none⟩) hg).trans h.c1
  c2 := (hb.cell (p := ⟨g, 2, none⟩) hg).trans h.c2
  c3 := (hb.cell (p := ⟨g, 3, none⟩) hg).trans h.c3
  c4 := (hb.cell (p := ⟨g, 4, none⟩) hg).trans h.c4
  f0 := (hb.frozen (p := ⟨g, 0, none⟩) hg).trans h.f0
  f1 := (hb.frozen (p := ⟨g, 1, none⟩) hg).trans h.f1
  f2 := (hb.frozen (p := ⟨g, 2, none⟩) hg).trans h.f2
  f3 := (hb.frozen (p := ⟨g, 3, none⟩) hg).trans h.f3
  f4 := (hb.frozen (p := ⟨g, 4, none⟩) hg).trans h.f4
theorem cell_off5 {W : World} {u : Value} (g i j : Nat) (h : i ≠ j) : (W.setCell ⟨g, i, none⟩ u).cell? ⟨g, j, none⟩ = W.cell? ⟨g, j, none⟩ := World.cell?_setCell_other _ _ _ _ (fun e => h (by cases e; rfl))
theorem Box5.sets {w : World} {g : Nat} {x0 x1 x2 x3 x4 : Value} (h : Box5 w g x0 x1 x2 x3 x4) (y0 y1 y2 y3 y4 : Value) :
    Box5 (((((w.setCell ⟨g, 0, none⟩ y0).setCell ⟨g, 1, none⟩ y1).setCell ⟨g, 2, none⟩ y2).setCell ⟨g, 3, none⟩ y3).setCell ⟨g, 4, none⟩ y4) g y0 y1 y2 y3 y4 where
  c0 := by
    rw [cell_off5 g 4 0 (by decide), cell_off5 g 3 0 (by decide), cell_off5 g 2 0 (by decide), cell_off5 g 1 0 (by decide)]
    exact World.cell?_setCell_same _ _ _ h.c0
  c1 := by
    rw [cell_off5 g 4 1 (by decide), cell_off5 g 3 1 (by decide), cell_off5 g 2 1 (by decide)]
    refine World.cell?_setCell_same (u := x1) _ _ _ ?_
    rw [cell_off5 g 0 1 (by decide)]; exact h.c1
  c2 := by
    rw [cell_off5 g 4 2 (by decide), cell_off5 g 3 2 (by decide)]
    refine World.cell?_setCell_same (u := x2) _ _ _ ?_
    rw [cell_off5 g 1 2 (by decide), cell_off5 g 0 2 (by decide)]; exact h.c2
  c3 := by
    rw [cell_off5 g 4 3 (by decide)]
    refine World.cell?_setCell_same (u := x3) _ _ _ ?_
    rw [cell_off5 g 2 3 (by decide), cell_off5 g 1 3 (by decide), cell_off5 g 0 3 (by decide)]; exact h.c3
  c4 := by
    refine World.cell?_setCell_same (u := x4) _ _ _ ?_
    rw [cell_off5 g 3 4 (by decide), cell_off5 g 2 4 (by decide), cell_off5 g 1 4 (by decide), cell_off5 g 0 4 (by decide)]; exact h.c4
  f0 := by simp [h.f0]
  f1 := by simp [h.f1]
  f2 := by simp [h.f2]
  f3 := by simp [h.f3]
  f4 := by simp [h.f4]
end Go.Proofs.YtnbjpgdnfklanaaGreatDoor

namespace Go.Proofs.YtnbjpgdnfklanaaGreatDoor
open Go.RowKit
end Go.Proofs.YtnbjpgdnfklanaaGreatDoor

namespace Go.Proofs.YtnbjpgdnfklanaaGreatDoor
open Go.RowKit
end Go.Proofs.YtnbjpgdnfklanaaGreatDoor
