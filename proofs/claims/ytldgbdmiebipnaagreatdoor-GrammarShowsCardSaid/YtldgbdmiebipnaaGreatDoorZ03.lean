/-
  All parts of a term, by the reference of layer 3: All, for any term in memory that has not too many; the row lies in new memory, the parts' arguments where they lay. (as data)
  A term as a text, by the reference of layer 3: Show, for any term in memory that is not too long. (as data)
  Terms read of tokens: what is read, where reading goes on, and that it hangs on the tokens alone. No function of the program.
  What the byte functions of the reference answer: the class, or whether the byte may be part of a word, for every byte and in every world; nothing is changed.
  Whether a text is among others, by the reference of layer 1: In.
  Whether a text is a word, by the reference. Each call makes new memory alone.
  A drawn region whose operations read and whose callees make new memory alone, walked once in the order of the text: Quiet's theorem at the class of the worlds that lie behind a given one. No function of the program.
  Whether a token is a sign, a term by itself, a word, by the reference of layer 11: is, leaf, word, step.
  A box of five cells. No function of the program.
-/
import Derived.Test.YtldgbdmiebipnaaGreatDoorZ02
import Derived.Lib.ItoaLen
import Derived.Lib.Join
import Derived.Laws.Concat
import Derived.Test.YtldgbdmiebipnaaGreatDoorZ01
import Derived.WalkKit
import Derived.WalkSpells
import Derived.WalkLawsBesides
import Derived.Deep.QuietTactic
import Derived.BigQuiet
import Derived.Deep.RegionHeld3
namespace Go.Proofs.YtldgbdmiebipnaaGreatDoor
open Go.RowKit

mutual
/-- A term, and all in it, from the left. -/
def Tm.all : Tm → List Tm
  | .mk k s n xs => .mk k s n xs :: allL xs
def allL : List Tm → List Tm
  | [] => []
  | t :: r => t.all ++ allL r
end
theorem all_eq (t : Tm) : t.all = t :: allL t.args := by cases t; rw [Tm.all]; rfl
theorem allL_append (a b : List Tm) : allL (a ++ b) = allL a ++ allL b := by
  induction a with
  | nil => rw [List.nil_append, allL]; rfl
  | cons t r ih => rw [List.cons_append, allL, allL, ih, List.append_assoc]
theorem allL_take {l : List Tm} {k : Nat} (h : k < l.length) : allL (l.take (k + 1)) = allL (l.take k) ++ l[k].all := by
  rw [List.take_succ_eq_append_getElem h, allL_append]
  congr 1
  rw [allL, allL, List.append_nil]
mutual
theorem all_length : ∀ t : Tm, t.all.length = t.parts
  | .mk k s n xs => by rw [Tm.all, List.length_cons, allL_length xs, Tm.parts]
theorem allL_length : ∀ l : List Tm, (allL l).length = partsL l
  | [] => by rw [allL, partsL]; rfl
  | t :: r => by rw [allL, List.length_append, all_length t, allL_length r, partsL]
end
theorem termInfo : (Tryz.prog.info? 100).map (fun i => (i.zero, i.size, i.bytes)) = some (some (.agg #[.int .i64 0, .string ⟨#[]⟩, .int .i64 0, .slice none 0 0]), 4, 56) := by kernel_rfl
/-- The cells of a row of terms. -/
def rowTv (vs : List Tv) : List Value := vs.flatMap Tv.cells
theorem rowTv_length (vs : List Tv) : (rowTv vs).length = vs.length * 4 := by
  unfold rowTv
  induction vs with
  | nil => rfl
  | cons t r ih => rw [List.flatMap_cons, List.length_append, ih]; simp [Tv.cells]; omega
theorem rowTv_append (a b : List Tv) : rowTv (a ++ b) = rowTv a ++ rowTv b := by unfold rowTv; rw [List.flatMap_append]
theorem rowTv_one (v : Tv) : rowTv [v] = v.cells := by unfold rowTv; simp
theorem rowTv_get (vs : List Tv) (j : Nat) (h : j < vs.length) (i : Nat) (hi : i < 4) : (rowTv vs)[j * 4 + i]? = vs[j].cells[i]? := by
  induction vs generalizing j with
  | nil => simp at h
  | cons t r ih =>
    unfold rowTv
    rw [List.flatMap_cons]
    cases j with
    | zero => rw [Nat.zero_mul, Nat.zero_add, List.getElem?_append_left (by simp [Tv.cells]; omega)]; rfl
    | succ j =>
      rw [List.getElem?_append_right (by simp [Tv.cells]; omega)]
      have := ih j (by simpa using h)
      rw [show (j + 1) * 4 + i - t.cells.length = j * 4 + i from by simp [Tv.cells]; omega]
      exact this
theorem rowTv_one' (vs : List Tv) : ∀ u ∈ rowTv vs, u.oneCell' = true := by
  intro u hu
  unfold rowTv at hu
  obtain ⟨v, _, hv⟩ := List.mem_flatMap.1 hu
  simp [Tv.cells] at hv
  rcases hv with rfl | rfl | rfl | rfl <;> rfl
/-- A row of terms that the call itself has made: its terms' arguments lie in the world w0. -/
def OwnTv (w0 w : World) (base : Nat) (v : Value) (ts : List Tm) : Prop :=
  ∃ vs : List Tv, vs.map Tv.t = ts ∧ (∀ x ∈ vs, x.ok w0) ∧ w.ownsRow base 100 4 v ts.length (rowTv vs)
theorem OwnTv.tms {w0 w : World} {base : Nat} {v : Value} {ts : List Tm} (h : OwnTv w0 w base v ts) (hb : Below w0.heap.size w0 w) (hl : ts.length ≤ 9223372036854775807) : Tms w v ts := by
  obtain ⟨vs, rfl, hok, hn, h⟩ := h
  rcases h with ⟨rfl, h0⟩ | ⟨g, cap, cur, rfl, _, hg, hcap, hmax, hsz, htake⟩
  · have : vs = [] := by simpa using h0
    subst this
    exact Tms.none_ _ _ _
  · refine ⟨_, cap, rfl, ⟨hl, hcap⟩, ?_⟩
    by_cases h0 : vs = []
    · left; rw [h0]; rfl
    right
    have hlt : g < w.heap.size := by
      rcases Nat.lt_or_ge g w.heap.size with hlt | hge
      · exact hlt
      · rw [Array.getElem?_eq_none hge] at hg; cases hg
    refine ⟨g, 0, rfl, hlt, rowAt_of fun {j} hj => ?_⟩
    have hjv : j < vs.length := by simpa using hj
    rw [List.getElem_map]
    have cell : ∀ i, i < 4 → w.cell? ⟨g, 0 + j * 4 + i, none⟩ = vs[j].cells[i]? := by
      intro i hi
      rw [cell_of_row w g (0 + j * 4 + i) cur _ (0, 0) hg, ← rowTv_get vs j hjv i hi, ← htake, List.getElem?_take, if_pos (by simp; omega), Nat.zero_add]
      simp
    exact tv_tmAt ((hok _ (List.getElem_mem hjv)).below hb) ⟨cell 0 (by omega), cell 1 (by omega), cell 2 (by omega), cell 3 (by omega)⟩
theorem own_first (w : World) (base : Nat) (hb : base ≤ w.heap.size) (v : Tv) : (w.alloc (.cells #[.int .i64 v.t.kind, .string v.t.name, .int .i64 v.t.n, .slice v.a v.t.args.length v.c] 100)).ownsRow base 100 4 (.slice (some ⟨w.heap.size, 0, none⟩) 1 1) 1 (rowTv [v]) := by
  refine ⟨rfl, .inr ⟨w.heap.size, 1, _, rfl, hb, heap_alloc_new w _, Nat.le_refl _, by unfold maxLen; omega, rfl, ?_⟩⟩
  rw [rowTv_one]; rfl
end Go.Proofs.YtldgbdmiebipnaaGreatDoor

namespace Go.Proofs.YtldgbdmiebipnaaGreatDoor
open Go.RowKit

/-- Arguments as a text, without what closes them. -/
def pre (ls : List (List UInt8)) : List UInt8 := if ls.isEmpty = true then [] else 40 :: Lib.join ls [44, 32]
theorem pre_first (x : List UInt8) : pre [x] = 40 :: x := by unfold pre; simp [Lib.join_one]
theorem pre_more {ls : List (List UInt8)} (x : List UInt8) (h : ls.isEmpty = false) : pre (ls ++ [x]) = pre ls ++ [44, 32] ++ x := by
  cases ls with
  | nil => cases h
  | cons y r =>
    unfold pre
    simp only [List.cons_append, List.isEmpty_cons, Bool.false_eq_true, if_false]
    rw [Lib.join_cons, Lib.join_cons]
    simp [Lib.joinTail, List.append_assoc]
/-- What closes them. -/
def close (ls : List (List UInt8)) : List UInt8 := if ls.isEmpty = true then [] else [41]
mutual
/-- A term as a text. -/
def showT : Tm → List UInt8
  | .mk k s n xs => if k = 1 ∨ k = 2 then s.data.toList else if k = 3 then 36 :: Lib.itoa n else if k = 4 then 37 :: Lib.itoa n else if k ≠ 5 then [63] else s.data.toList ++ pre (showsL xs) ++ close (showsL xs)
def showsL : List Tm → List (List UInt8)
  | [] => []
  | t :: r => showT t :: showsL r
end
theorem showsL_map (l : List Tm) : showsL l = l.map showT := by
  induction l with
  | nil => rw [showsL]; rfl
  | cons t r ih => rw [showsL, ih]; rfl
theorem showsL_take {l : List Tm} {k : Nat} (h : k < l.length) : showsL (l.take (k + 1)) = showsL (l.take k) ++ [showT l[k]] := by
  rw [showsL_map, showsL_map, List.take_succ_eq_append_getElem h, List.map_append]; rfl
theorem showsL_empty {l : List Tm} : (showsL l).isEmpty = l.isEmpty := by rw [showsL_map]; cases l <;> rfl
mutual
/-- How long a term's text can be. -/
def wtT : Tm → Nat
  | .mk _ s _ xs => s.size + 30 + wtL xs
def wtL : List Tm → Nat
  | [] => 0
  | t :: r => wtT t + wtL r
end
theorem wtL_append (a b : List Tm) : wtL (a ++ b) = wtL a + wtL b := by
  induction a with
  | nil => rw [List.nil_append, wtL]; omega
  | cons t r ih => rw [List.cons_append, wtL, wtL, ih]; omega
theorem wtL_take {l : List Tm} {k : Nat} (h : k < l.length) : wtL (l.take (k + 1)) = wtL (l.take k) + wtT l[k] := by
  rw [List.take_succ_eq_append_getElem h, wtL_append, wtL, wtL]; omega
theorem wtL_part (l : List Tm) (k : Nat) : wtL (l.take k) ≤ wtL l := by
  have := wtL_append (l.take k) (l.drop k)
  rw [List.take_append_drop] at this; omega
mutual
theorem wtT_small : ∀ t : Tm, (∀ x ∈ t.all, x.name.size ≤ 100) → wtT t ≤ 130 * t.parts
  | .mk k s n xs, h => by
    rw [Tm.all] at h
    rw [wtT, Tm.parts]
    have h1 : s.size ≤ 100 := h _ (List.mem_cons_self ..)
    have h2 := wtL_small xs (fun x hx => h x (List.mem_cons_of_mem _ hx))
    omega
theorem wtL_small : ∀ l : List Tm, (∀ x ∈ allL l, x.name.size ≤ 100) → wtL l ≤ 130 * partsL l
  | [], _ => by rw [wtL]; omega
  | t :: r, h => by
    rw [allL] at h
    rw [wtL, partsL]
    have h1 := wtT_small t (fun x hx => h x (List.mem_append_left _ hx))
    have h2 := wtL_small r (fun x hx => h x (List.mem_append_right _ hx))
    omega
end
theorem cat_list (l m : List UInt8) : (⟨l.toArray⟩ : ByteArray) ++ ⟨m.toArray⟩ = ⟨(l ++ m).toArray⟩ := by apply ByteArray.ext; simp
theorem cat_bytes (s : ByteArray) (m : List UInt8) : s ++ ⟨m.toArray⟩ = ⟨(s.data.toList ++ m).toArray⟩ := by apply ByteArray.ext; simp
theorem cat_cons (b : UInt8) (l : List UInt8) : (⟨#[b]⟩ : ByteArray) ++ ⟨l.toArray⟩ = ⟨(b :: l).toArray⟩ := by apply ByteArray.ext; simp
theorem bytes_self (s : ByteArray) : (⟨s.data.toList.toArray⟩ : ByteArray) = s := by cases s; simp
/-- What a call of Show leaves. -/
def ShowPost (t : Tm) (w : World) (e : Ending) (w' : World) : Prop := e = .returned (.string ⟨(showT t).toArray⟩) ∧ (showT t).length + 4 ≤ wtT t ∧ Below w.heap.size w w'
end Go.Proofs.YtldgbdmiebipnaaGreatDoor

namespace Go.Proofs.YtldgbdmiebipnaaGreatDoor
open Go.RowKit

def nilTok : Tok := ⟨0, ⟨#[]⟩, 0, 0⟩
/-- Token i, or an end. -/
def tkD (L : List Tok) (i : Nat) : Tok := L.getD i nilTok
theorem tkD_at {L : List Tok} {i : Nat} (h : i < L.length) : tkD L i = L[i] := by unfold tkD; simp [List.getD, h]
theorem tkD_out {L : List Tok} {i : Nat} (h : L.length ≤ i) : tkD L i = nilTok := by unfold tkD; simp [List.getD, List.getElem?_eq_none h]
/-- Whether a token is a sign. -/
def isS (t : Tok) (s : ByteArray) : Bool := (t.kind == 6) && (t.text.toList == s.toList)
theorem isS_nil (s : ByteArray) : isS nilTok s = false := rfl
theorem isS_in {L : List Tok} {i : Nat} {s : ByteArray} (h : isS (tkD L i) s = true) : i < L.length := by
  rcases Nat.lt_or_ge i L.length with hl | hl
  · exact hl
  · rw [tkD_out hl, isS_nil] at h; cases h
/-- The kind of a token that is a term by itself; 0: it is not one. -/
def leafK (t : Tok) : Int := if t.kind = 2 then 1 else if t.kind = 4 then 3 else if t.kind = 5 then 4 else 0
/-- Whether a token is a word that is none of the keys. -/
def wordK (t : Tok) : Bool := (t.kind == 1) && !Lib.containsS keyList t.text
def sOpen : ByteArray := ⟨#[40]⟩
def sClose : ByteArray := ⟨#[41]⟩
def sComma : ByteArray := ⟨#[44]⟩
def sSemi : ByteArray := ⟨#[59]⟩
def sDot : ByteArray := ⟨#[46]⟩
mutual
/-- The term that begins at a token, which token is next, and whether it is one. -/
def termF : Nat → List Tok → Nat → Nat → Tr × Nat × Bool
  | 0, _, i, _ => (.mk 0 ⟨#[]⟩ 0 0 [], i, false)
  | f + 1, L, i, op =>
    if leafK (tkD L i) ≠ 0 then (.mk (leafK (tkD L i)) (tkD L i).text (tkD L i).n (tkD L i).place [], i + 1, true)
    else if wordK (tkD L i) = false then (.mk 0 (tkD L i).text (tkD L i).n (tkD L i).place [], i, false)
    else if isS (tkD L (i + 1)) sOpen = false then (.mk 5 (tkD L i).text 0 (tkD L i).place [], i + 1, true)
    else if 40 ≤ op then (.mk 5 (tkD L i).text 0 (tkD L i).place [], i + 1, false)
    else if (termsF f L (i + 2) sComma (op + 1)).2.2 = false ∨ isS (tkD L (termsF f L (i + 2) sComma (op + 1)).2.1) sClose = false then
      (.mk 5 (tkD L i).text 0 (tkD L i).place (termsF f L (i + 2) sComma (op + 1)).1, (termsF f L (i + 2) sComma (op + 1)).2.1, false)
    else (.mk 5 (tkD L i).text 0 (tkD L i).place (termsF f L (i + 2) sComma (op + 1)).1, (termsF f L (i + 2) sComma (op + 1)).2.1 + 1, true)
/-- Likewise, one or more, with a sign between. -/
def termsF : Nat → List Tok → Nat → ByteArray → Nat → List Tr × Nat × Bool
  | 0, _, i, _, _ => ([], i, false)
  | f + 1, L, i, sg, op =>
    if (termF f L i op).2.2 = false then ([], (termF f L i op).2.1, false)
    else if isS (tkD L (termF f L i op).2.1) sg = false then ([(termF f L i op).1], (termF f L i op).2.1, true)
    else ((termF f L i op).1 :: (termsF f L ((termF f L i op).2.1 + 1) sg op).1, (termsF f L ((termF f L i op).2.1 + 1) sg op).2)
end
/-- What is read goes on. -/
theorem termF_le : ∀ (f : Nat) (L : List Tok), (∀ i op, i ≤ (termF f L i op).2.1 ∧ ((termF f L i op).2.2 = true → i < (termF f L i op).2.1)) ∧
    ∀ i sg op, i ≤ (termsF f L i sg op).2.1 ∧ ((termsF f L i sg op).2.2 = true → i < (termsF f L i sg op).2.1)
  | 0, L => ⟨fun i op => by rw [termF]; exact ⟨Nat.le_refl _, fun h => by cases h⟩, fun i sg op => by rw [termsF]; exact ⟨Nat.le_refl _, fun h => by cases h⟩⟩
  | f + 1, L => by
    obtain ⟨h1, h2⟩ := termF_le f L
    refine ⟨fun i op => ?_, fun i sg op => ?_⟩
    · rw [termF]
      have := h2 (i + 2) sComma (op + 1)
      repeat' split
      all_goals (simp only [] at this ⊢)
      all_goals first
        | exact ⟨Nat.le_refl _, fun h => by cases h⟩
        | exact ⟨Nat.le_succ _, fun _ => Nat.lt_succ_self _⟩
        | exact ⟨Nat.le_succ _, fun h => by cases h⟩
        | exact ⟨by omega, fun _ => by omega⟩
        | exact ⟨by omega, fun h => by cases h⟩
    · rw [termsF]
      have k1 := h1 i op
      have k2 := h2 ((termF f L i op).2.1 + 1) sg op
      repeat' split
      all_goals (simp only [] at k1 k2 ⊢)
      · exact ⟨k1.1, fun h => by cases h⟩
      · next h _ => exact ⟨k1.1, fun _ => k1.2 (by simpa using h)⟩
      · exact ⟨by omega, fun h => by have := k2.2 h; omega⟩
/-- Enough steps are as good as more. -/
theorem termF_same : ∀ (f : Nat) (L : List Tok), (∀ f' i op, 2 * (L.length - i) + 1 ≤ f → 2 * (L.length - i) + 1 ≤ f' → termF f L i op = termF f' L i op) ∧
    ∀ f' i sg op, 2 * (L.length - i) + 2 ≤ f → 2 * (L.length - i) + 2 ≤ f' → termsF f L i sg op = termsF f' L i sg op
  | 0, L => ⟨fun f' i op h => by omega, fun f' i sg op h => by omega⟩
  | f + 1, L => by
    obtain ⟨h1, h2⟩ := termF_same f L
    refine ⟨fun f' i op hf hf' => ?_, fun f' i sg op hf hf' => ?_⟩
    · cases f' with
      | zero => omega
      | succ f' =>
        rw [termF, termF]
        by_cases hs : isS (tkD L (i + 1)) sOpen = false
        · rw [if_pos hs, if_pos hs]
        · have hi := isS_in (by simpa using hs)
          rw [h2 f' (i + 2) sComma (op + 1) (by omega) (by omega)]
    · cases f' with
      | zero => omega
      | succ f' =>
        rw [termsF, termsF, h1 f' i op (by omega) (by omega)]
        by_cases hk : (termF f' L i op).2.2 = false
        · rw [if_pos hk, if_pos hk]
        · rw [if_neg hk, if_neg hk]
          have hlt := ((termF_le f' L).1 i op).2 (by simpa using hk)
          by_cases hs : isS (tkD L (termF f' L i op).2.1) sg = false
          · rw [if_pos hs, if_pos hs]
          · have hi := isS_in (by simpa using hs)
            rw [h2 f' ((termF f' L i op).2.1 + 1) sg op (by omega) (by omega)]
/-- With as many steps as it takes. -/
def termP (L : List Tok) (i op : Nat) : Tr × Nat × Bool := termF (2 * L.length + 2) L i op
def termsP (L : List Tok) (i : Nat) (sg : ByteArray) (op : Nat) : List Tr × Nat × Bool := termsF (2 * L.length + 2) L i sg op
theorem termP_leaf {L : List Tok} {i op : Nat} (h : leafK (tkD L i) ≠ 0) : termP L i op = (.mk (leafK (tkD L i)) (tkD L i).text (tkD L i).n (tkD L i).place [], i + 1, true) := by
  unfold termP; rw [termF, if_pos h]
theorem termP_none {L : List Tok} {i op : Nat} (h : leafK (tkD L i) = 0) (h2 : wordK (tkD L i) = false) : termP L i op = (.mk 0 (tkD L i).text (tkD L i).n (tkD L i).place [], i, false) := by
  unfold termP; rw [termF, if_neg (by simp [h]), if_pos h2]
theorem termP_const {L : List Tok} {i op : Nat} (h : leafK (tkD L i) = 0) (h2 : wordK (tkD L i) = true) (h3 : isS (tkD L (i + 1)) sOpen = false) : termP L i op = (.mk 5 (tkD L i).text 0 (tkD L i).place [], i + 1, true) := by
  unfold termP; rw [termF, if_neg (by simp [h]), if_neg (by simp [h2]), if_pos h3]
theorem termP_deep {L : List Tok} {i op : Nat} (h : leafK (tkD L i) = 0) (h2 : wordK (tkD L i) = true) (h3 : isS (tkD L (i + 1)) sOpen = true) (h4 : 40 ≤ op) : termP L i op = (.mk 5 (tkD L i).text 0 (tkD L i).place [], i + 1, false) := by
  unfold termP; rw [termF, if_neg (by simp [h]), if_neg (by simp [h2]), if_neg (by simp [h3]), if_pos h4]
theorem termsF_P {L : List Tok} {i : Nat} {sg : ByteArray} {op : Nat} {f : Nat} (hf : 2 * (L.length - i) + 2 ≤ f) : termsF f L i sg op = termsP L i sg op := (termF_same f L).2 _ i sg op hf (by omega)
theorem termF_P {L : List Tok} {i : Nat} {op : Nat} {f : Nat} (hf : 2 * (L.length - i) + 1 ≤ f) : termF f L i op = termP L i op := (termF_same f L).1 _ i op hf (by omega)
theorem termP_args {L : List Tok} {i op : Nat} (h : leafK (tkD L i) = 0) (h2 : wordK (tkD L i) = true) (h3 : isS (tkD L (i + 1)) sOpen = true) (h4 : ¬ 40 ≤ op) :
    termP L i op = if (termsP L (i + 2) sComma (op + 1)).2.2 = false ∨ isS (tkD L (termsP L (i + 2) sComma (op + 1)).2.1) sClose = false then (.mk 5 (tkD L i).text 0 (tkD L i).place (termsP L (i + 2) sComma (op + 1)).1, (termsP L (i + 2) sComma (op + 1)).2.1, false)
      else (.mk 5 (tkD L i).text 0 (tkD L i).place (termsP L (i + 2) sComma (op + 1)).1, (termsP L (i + 2) sComma (op + 1)).2.1 + 1, true) := by
  have hi := isS_in h3
  unfold termP
  rw [termF, if_neg (by simp [h]), if_neg (by simp [h2]), if_neg (by simp [h3]), if_neg h4, termsF_P (by omega)]
theorem termsP_eq (L : List Tok) (i : Nat) (sg : ByteArray) (op : Nat) : termsP L i sg op =
    if (termP L i op).2.2 = false then ([], (termP L i op).2.1, false)
    else if isS (tkD L (termP L i op).2.1) sg = false then ([(termP L i op).1], (termP L i op).2.1, true)
    else ((termP L i op).1 :: (termsP L ((termP L i op).2.1 + 1) sg op).1, (termsP L ((termP L i op).2.1 + 1) sg op).2) := by
  conv => lhs; unfold termsP
  rw [termsF, termF_P (by omega)]
  by_cases hk : (termP L i op).2.2 = false
  · rw [if_pos hk, if_pos hk]
  · rw [if_neg hk, if_neg hk]
    by_cases hs : isS (tkD L (termP L i op).2.1) sg = false
    · rw [if_pos hs, if_pos hs]
    · rw [if_neg hs, if_neg hs]
      have hi := isS_in (by simpa using hs)
      have hlt := ((termF_le (2 * L.length + 2) L).1 i op).2 (by simpa [termP] using hk)
      rw [termsF_P (by unfold termP at hi; unfold termP; omega)]
theorem termP_le (L : List Tok) (i op : Nat) : i ≤ (termP L i op).2.1 ∧ ((termP L i op).2.2 = true → i < (termP L i op).2.1) := (termF_le _ L).1 i op
theorem termsP_le (L : List Tok) (i : Nat) (sg : ByteArray) (op : Nat) : i ≤ (termsP L i sg op).2.1 ∧ ((termsP L i sg op).2.2 = true → i < (termsP L i sg op).2.1) := (termF_le _ L).2 i sg op
/-- All tokens but the last one are no ends. -/
def Ended (L : List Tok) : Prop := ∀ i, (tkD L i).kind ≠ 0 → i + 1 < L.length
theorem leafK_kind {t : Tok} (h : leafK t ≠ 0) : t.kind ≠ 0 := fun e => h (by unfold leafK; rw [e]; decide)
theorem wordK_kind {t : Tok} (h : wordK t = true) : t.kind = 1 := by unfold wordK at h; rw [Bool.and_eq_true, beq_iff_eq] at h; exact h.1
theorem sgn_kind {t : Tok} {s : ByteArray} (h : isS t s = true) : t.kind = 6 := by unfold isS at h; rw [Bool.and_eq_true, beq_iff_eq] at h; exact h.1
theorem sgn_text {t : Tok} {s : ByteArray} (h : isS t s = true) : t.text = s := by unfold isS at h; rw [Bool.and_eq_true, Lib.bytes_beq_iff] at h; exact h.2
/-- Where reading goes on, or breaks off, there is a token. -/
theorem termF_in {L : List Tok} (hE : Ended L) : ∀ (f : Nat), (∀ i op, i < L.length → (termF f L i op).2.1 < L.length) ∧ ∀ i sg op, i < L.length → (termsF f L i sg op).2.1 < L.length
  | 0 => ⟨fun i op h => by rw [termF]; exact h, fun i sg op h => by rw [termsF]; exact h⟩
  | f + 1 => by
    obtain ⟨h1, h2⟩ := termF_in hE f
    refine ⟨fun i op hi => ?_, fun i sg op hi => ?_⟩
    · rw [termF]
      split
      · next h => exact hE i (leafK_kind h)
      · split
        · exact hi
        · next hw =>
          have hi1 := hE i (by rw [wordK_kind (by simpa using hw)]; decide)
          split
          · exact hi1
          · next hs =>
            have hi2 := hE (i + 1) (by rw [sgn_kind (by simpa using hs)]; decide)
            split
            · exact hi1
            · have hn := h2 (i + 2) sComma (op + 1) hi2
              split
              · exact hn
              · next hc =>
                rw [not_or] at hc
                exact hE _ (by rw [sgn_kind (by simpa using hc.2)]; decide)
    · rw [termsF]
      have hn := h1 i op hi
      split
      · exact hn
      · split
        · exact hn
        · next hs => exact h2 _ sg op (hE _ (by rw [sgn_kind (by simpa using hs)]; decide))
theorem termP_in {L : List Tok} (hE : Ended L) {i : Nat} (op : Nat) (hi : i < L.length) : (termP L i op).2.1 < L.length := (termF_in hE _).1 i op hi
theorem termsP_in {L : List Tok} (hE : Ended L) {i : Nat} (sg : ByteArray) (op : Nat) (hi : i < L.length) : (termsP L i sg op).2.1 < L.length := (termF_in hE _).2 i sg op hi

/-! Without places. -/
mutual
def Tr.bare : Tr → Tr
  | .mk k s n _ xs => .mk k s n 0 (bareL xs)
def bareL : List Tr → List Tr
  | [] => []
  | t :: r => t.bare :: bareL r
end
theorem bareL_map (l : List Tr) : bareL l = l.map Tr.bare := by
  induction l with
  | nil => rw [bareL]; rfl
  | cons t r ih => rw [bareL, ih]; rfl
/-- Rows of tokens alike but for places. -/
def LikeT (L L' : List Tok) : Prop := L.map Tok.plain = L'.map Tok.plain
theorem likeT_at {L L' : List Tok} (h : LikeT L L') (i : Nat) : (tkD L i).plain = (tkD L' i).plain := by
  have e : ∀ M : List Tok, (tkD M i).plain = ((M.map Tok.plain)[i]?).getD nilTok := fun M => by
    unfold tkD
    rw [List.getElem?_map, List.getD_eq_getElem?_getD]
    cases M[i]? <;> rfl
  rw [e, e, h]
theorem likeT_len {L L' : List Tok} (h : LikeT L L') : L.length = L'.length := by simpa using congrArg List.length h
theorem plain_kind {t u : Tok} (h : t.plain = u.plain) : t.kind = u.kind := show t.plain.kind = u.plain.kind by rw [h]
theorem plain_text {t u : Tok} (h : t.plain = u.plain) : t.text = u.text := show t.plain.text = u.plain.text by rw [h]
theorem plain_n {t u : Tok} (h : t.plain = u.plain) : t.n = u.n := show t.plain.n = u.plain.n by rw [h]
theorem leafK_plain {t u : Tok} (h : t.plain = u.plain) : leafK t = leafK u := by
  have : t.kind = u.kind := plain_kind h
  unfold leafK; rw [this]
theorem wordK_plain {t u : Tok} (h : t.plain = u.plain) : wordK t = wordK u := by
  have h1 : t.kind = u.kind := plain_kind h
  have h2 : t.text = u.text := plain_text h
  unfold wordK; rw [h1, h2]
theorem isS_plain {t u : Tok} (h : t.plain = u.plain) (s : ByteArray) : isS t s = isS u s := by
  have h1 : t.kind = u.kind := plain_kind h
  have h2 : t.text = u.text := plain_text h
  unfold isS; rw [h1, h2]
/-- What is read hangs on the tokens, but for places. -/
theorem termF_like {L L' : List Tok} (hL : LikeT L L') : ∀ (f : Nat), (∀ i op, (termF f L i op).1.bare = (termF f L' i op).1.bare ∧ (termF f L i op).2 = (termF f L' i op).2) ∧
    ∀ i sg op, bareL (termsF f L i sg op).1 = bareL (termsF f L' i sg op).1 ∧ (termsF f L i sg op).2 = (termsF f L' i sg op).2
  | 0 => ⟨fun i op => by rw [termF, termF]; exact ⟨rfl, rfl⟩, fun i sg op => by rw [termsF, termsF]; exact ⟨rfl, rfl⟩⟩
  | f + 1 => by
    obtain ⟨h1, h2⟩ := termF_like hL f
    have bare_mk : ∀ (k : Int) (s s' : ByteArray) (n n' p p' : Int) (xs xs' : List Tr), s = s' → n = n' → bareL xs = bareL xs' → (Tr.mk k s n p xs).bare = (Tr.mk k s' n' p' xs').bare := by
      intro k s s' n n' p p' xs xs' e1 e2 e3
      rw [Tr.bare, Tr.bare, e1, e2, e3]
    refine ⟨fun i op => ?_, fun i sg op => ?_⟩
    · have hp := likeT_at hL i
      have hx : (tkD L i).text = (tkD L' i).text := plain_text hp
      have hn : (tkD L i).n = (tkD L' i).n := plain_n hp
      obtain ⟨k1, k2⟩ := h2 (i + 2) sComma (op + 1)
      rw [termF, termF, leafK_plain hp, wordK_plain hp, isS_plain (likeT_at hL (i + 1)) sOpen, k2, isS_plain (likeT_at hL _) sClose]
      repeat' split
      all_goals exact ⟨bare_mk _ _ _ _ _ _ _ _ _ hx (by first | exact hn | rfl) (by first | exact k1 | rfl), rfl⟩
    · obtain ⟨k1, k2⟩ := h1 i op
      obtain ⟨m1, m2⟩ := h2 ((termF f L' i op).2.1 + 1) sg op
      rw [termsF, termsF, k2, isS_plain (likeT_at hL _) sg]
      repeat' split
      · exact ⟨rfl, rfl⟩
      · exact ⟨by show bareL [_] = bareL [_]; rw [bareL, bareL, bareL, bareL, k1], rfl⟩
      · exact ⟨by show bareL (_ :: _) = bareL (_ :: _); rw [bareL, bareL, k1, m1], m2⟩
theorem termP_like {L L' : List Tok} (hL : LikeT L L') (i op : Nat) : (termP L i op).1.bare = (termP L' i op).1.bare ∧ (termP L i op).2 = (termP L' i op).2 := by
  unfold termP; rw [likeT_len hL]; exact (termF_like hL _).1 i op
theorem termsP_like {L L' : List Tok} (hL : LikeT L L') (i : Nat) (sg : ByteArray) (op : Nat) : bareL (termsP L i sg op).1 = bareL (termsP L' i sg op).1 ∧ (termsP L i sg op).2 = (termsP L' i sg op).2 := by
  unfold termsP; rw [likeT_len hL]; exact (termF_like hL _).2 i sg op
end Go.Proofs.YtldgbdmiebipnaaGreatDoor

namespace Go.Proofs.YtldgbdmiebipnaaGreatDoor
open Go.RowKit

set_option maxHeartbeats 400000 in
theorem among_any (s : ByteArray) (b : Int) (w : World) (hs : s.size ≤ 9223372036854775806) :
    Calls Tryz.prog 57 #[.string s, .int .u8 b] w fun e w' => e = .returned (.bool (among s.data.toList b)) ∧ w = w' := by
  go_enter Tryz.func57, Tryz.ntmps57
  go_wp2
  go_loop [5] (fun i => ∃ k : Nat, k ≤ s.size ∧ i = .int .i64 k ∧ among (s.data.toList.take k) b = false) (fun i => s.size - (intOf i).toNat)
  case atStart => exact ⟨0, Nat.zero_le _, rfl, rfl⟩
  case round =>
    obtain ⟨k, hk, rfl, ha⟩ := hrel
    have HA := Lib.hid ha
    clear ha
    by_cases hlt : k < s.size
    · go_wp2
      · go_ret
        refine ⟨ret_bool ?_, rfl⟩
        rw [among_take s b (k + 1)]
        rw [among_snoc s b k hlt]
        simp_all
      · go_round
        case rel => exact ⟨k + 1, by omega, by go_num, by rw [among_snoc s b k hlt, HA.out]; simp_all⟩
        case measure => simp [intOf]; omega
    · go_wp2
      go_ret
      refine ⟨ret_bool ?_, rfl⟩
      have e : k = s.size := by omega
      have h := HA.out
      rw [e, take_all] at h
      rw [h]
set_option maxHeartbeats 400000 in
theorem rclass_any (b : Int) (w : World) :
    Calls Tryz.prog 30 #[.int .u8 b] w fun e w' => e = .returned (.int .i64 (cls b)) ∧ w = w' := by
  have hs := among_signs b
  generalize hx : among [40, 41, 44, 47, 61, 46, 59, 58, 36, 37] b = x at hs
  have H := Lib.hid hs
  have H2 := Lib.hid hx
  clear hs hx
  go_enter Tryz.func30, Tryz.ntmps30
  go_wp2_with (go_at_call 57; refine (among_any _ _ _ (by decide)).mono ?_; rintro e w' ⟨rfl, rfl⟩; simp only [H2.out])
  all_goals go_ret
  all_goals refine ⟨ret_int ?_, rfl⟩
  all_goals (have hs := H.out; clear H H2; subst hs)
  all_goals (try simp only [beq_iff_eq, beq_eq_false_iff_ne, ne_eq, decide_eq_true_eq, decide_eq_false_iff_not] at *)
  all_goals (unfold cls; repeat (first | rw [if_pos (by omega)] | rw [if_neg (by omega)]))
  all_goals (exfalso; omega)
set_option maxHeartbeats 400000 in
theorem rpart_any (b : Int) (w : World) :
    Calls Tryz.prog 77 #[.int .u8 b] w fun e w' => e = .returned (.bool (part b)) ∧ w = w' := by
  have hb := cls_bd b
  have hp : part b = decide (1 ≤ cls b ∧ cls b ≤ 3 ∨ b = 95) := rfl
  have H := Lib.hid hp
  clear hp
  generalize hc : cls b = c at H hb
  have H2 := Lib.hid hc
  clear hc
  go_enter Tryz.func77, Tryz.ntmps77
  go_wp2_with (go_at_call 30; refine (rclass_any _ _).mono ?_; rintro e w' ⟨rfl, rfl⟩; rw [H2.out])
  all_goals go_ret
  all_goals refine ⟨ret_bool ?_, rfl⟩
  all_goals rw [H.out]
  all_goals (rw [Bool.eq_iff_iff]; simp only [Bool.or_eq_true, beq_iff_eq, decide_eq_true_eq, true_iff])
  all_goals omega
end Go.Proofs.YtldgbdmiebipnaaGreatDoor

namespace Go.Proofs.YtldgbdmiebipnaaGreatDoor
open Go.RowKit

set_option maxHeartbeats 400000 in
theorem rin_any (v : Value) (zs : List ByteArray) (x : ByteArray) (w : World) (hv : Strs w v zs) :
    Calls Tryz.prog 32 #[v, .string x] w fun e w' => e = .returned (.bool (Lib.containsS zs x)) ∧ w = w' := by
  obtain ⟨a, c, rfl, hl, h⟩ := hv
  rcases h with rfl | ⟨b, off, rfl, hlt, hc⟩
  · go_enter Tryz.func32, Tryz.ntmps32
    go_wp2
    refine wp_loop_rounds 1 ?_; rw [rounds_succ]
    go_wp2
    go_ret
    exact ⟨rfl, rfl⟩
  · have HC := Lib.hid hc
    clear hc
    go_enter Tryz.func32, Tryz.ntmps32
    go_wp2
    go_loop [9] (fun i => ∃ k : Nat, k ≤ zs.length ∧ i = .int .i64 k ∧ NotYet zs x k) (fun i => zs.length - (intOf i).toNat)
    case atStart => exact ⟨0, Nat.zero_le _, rfl, (fun j hj => by omega)⟩
    case round =>
      obtain ⟨k, hk, rfl, hne⟩ := hrel
      have HN := Lib.hid hne
      clear hne
      by_cases hlt : k < zs.length
      · have hcell : w.cell? ⟨b, off + k, none⟩ = some (.string zs[k]) := by rw [HC.out k hlt]; simp [List.getD, hlt]
        by_cases he : zs[k] = x
        · have hq : (zs[k].toList == x.toList) = true := by rw [Lib.bytes_beq_iff]; exact he
          have HE := Lib.hid he
          clear he
          go_wp2
          go_ret
          exact ⟨ret_bool (contains_here hlt HE.out).symm, rfl⟩
        · have hq : (zs[k].toList == x.toList) = false := by rw [Lib.bytes_beq_false_iff]; exact he
          have HE := Lib.hid (show zs.getD k ByteArray.empty ≠ x from by simpa [List.getD, hlt] using he)
          clear he
          go_wp2
          go_round
          case rel => exact ⟨k + 1, by omega, by go_num, HN.out.succ HE.out⟩
          case measure => simp [intOf]; omega
      · obtain rfl : k = zs.length := by omega
        go_wp2
        go_ret
        exact ⟨ret_bool HN.out.all.symm, rfl⟩
end Go.Proofs.YtldgbdmiebipnaaGreatDoor

namespace Go.Proofs.YtldgbdmiebipnaaGreatDoor
open Go.RowKit

set_option maxHeartbeats 400000 in
theorem rkeys_any (w : World) :
    Calls Tryz.prog 33 #[] w fun e w' => ∃ v, e = .returned v ∧ Strs w' v keyList ∧ Below w.heap.size w w' := by
  go_enter Tryz.func33, Tryz.ntmps33
  go_wp2
  go_ret
  exact ⟨_, rfl, strs_alloc w keyList 9 (by decide), (Below.refl _ _).alloc (Nat.le_refl _) _⟩
set_option maxHeartbeats 400000 in
theorem rparts_any (s : ByteArray) (hs : s.size ≤ 9223372036854775806) (w : World) :
    Calls Tryz.prog 78 #[.string s] w fun e w' => e = .returned (.bool (allPart s.data.toList)) ∧ w = w' := by
  go_enter Tryz.func78, Tryz.ntmps78
  go_wp2
  go_loop [3] (fun i => ∃ k : Nat, k ≤ s.size ∧ i = .int .i64 k ∧ allPart (s.data.toList.take k) = true) (fun i => s.size - (intOf i).toNat)
  case atStart => exact ⟨0, Nat.zero_le _, rfl, rfl⟩
  case round =>
    obtain ⟨k, hk, rfl, ha⟩ := hrel
    have HA := Lib.hid ha
    clear ha
    by_cases hlt : k < s.size
    · cases hp : part (s[k].toNat : Int) with
      | true =>
        have HP := Lib.hid hp
        clear hp
        go_wp2_with (go_at_call 77; refine (rpart_any _ _).mono ?_; rintro e w' ⟨rfl, rfl⟩; rw [HP.out])
        go_round
        case rel => exact ⟨k + 1, by omega, by go_num, by rw [allPart_snoc s k hlt, HA.out, HP.out]; rfl⟩
        case measure => simp [intOf]; omega
      | false =>
        have HP := Lib.hid hp
        clear hp
        go_wp2_with (go_at_call 77; refine (rpart_any _ _).mono ?_; rintro e w' ⟨rfl, rfl⟩; rw [HP.out])
        go_ret
        exact ⟨ret_bool (allPart_bad s k hlt HP.out).symm, rfl⟩
    · go_wp2
      go_ret
      refine ⟨ret_bool ?_, rfl⟩
      have e : k = s.size := by omega
      have h := HA.out
      rw [e, take_all] at h
      rw [h]
set_option maxHeartbeats 400000 in
theorem rword_any (s : ByteArray) (hs : s.size ≤ 9223372036854775806) (w : World) :
    Calls Tryz.prog 61 #[.string s] w fun e w' => e = .returned (.bool (wordB s)) ∧ Below w.heap.size w w' := by
  by_cases h0 : 1 ≤ s.size
  · by_cases h1 : s.size ≤ 20
    · have hw : wordB s = (((cls (s[0].toNat : Int) == 1) && allPart s.data.toList) && !Lib.containsS keyList s) := by
        unfold wordB speltB; rw [decide_eq_true ⟨h0, h1⟩, fits_eq (.inl rfl) (by omega)]; rfl
      have HW := Lib.hid hw
      clear hw
      have C := Lib.hid (fun b w => rclass_any b w)
      have A := Lib.hid (fun w => rparts_any s hs w)
      have hi : (0 : Int) < (s.size : Int) := by omega
      cases hc : (cls (s[0].toNat : Int) == 1) with
      | false =>
        have HC := Lib.hid hc
        go_enter Tryz.func61, Tryz.ntmps61
        go_wp2_with (go_at_call 30; refine (C.out _ _).mono ?_; rintro e w1 ⟨rfl, rfl⟩)
        go_ret
        exact ⟨ret_bool (by rw [HW.out, HC.out]; rfl), Below.refl _ _⟩
      | true =>
        have HC := Lib.hid hc
        cases hp : allPart s.data.toList with
        | false =>
          have HP := Lib.hid hp
          clear hp
          go_enter Tryz.func61, Tryz.ntmps61
          go_wp2_with (first | (go_at_call 30; refine (C.out _ _).mono ?_; rintro e w1 ⟨rfl, rfl⟩) | (go_at_call 78; refine (A.out _).mono ?_; rintro e w1 ⟨rfl, rfl⟩; rw [HP.out]))
          go_ret
          exact ⟨ret_bool (by rw [HW.out, HC.out, HP.out]; rfl), Below.refl _ _⟩
        | true =>
          have HP := Lib.hid hp
          clear hp
          go_enter Tryz.func61, Tryz.ntmps61
          go_wp2_with (first | (go_at_call 30; refine (C.out _ _).mono ?_; rintro e w1 ⟨rfl, rfl⟩) | (go_at_call 78; refine (A.out _).mono ?_; rintro e w1 ⟨rfl, rfl⟩; rw [HP.out]) | (go_at_call 33; refine (rkeys_any _).mono ?_; rintro e w1 ⟨v, rfl, hv, hb⟩; replace hv := Lib.hid hv) | (go_at_call 32; refine (rin_any _ _ _ _ (Hid.out (by assumption))).mono ?_; rintro e w2 ⟨rfl, rfl⟩))
          go_ret
          exact ⟨ret_bool (by rw [HW.out, HC.out, HP.out]; rfl), hb⟩
    · have HF := Lib.hid (show wordB s = false from by unfold wordB speltB; rw [decide_eq_false (by omega)]; rfl)
      go_enter Tryz.func61, Tryz.ntmps61
      go_wp2_with fail
      go_ret
      exact ⟨ret_bool HF.out.symm, Below.refl _ _⟩
  · have HF := Lib.hid (show wordB s = false from by unfold wordB speltB; rw [decide_eq_false (by omega)]; rfl)
    go_enter Tryz.func61, Tryz.ntmps61
    go_wp2_with fail
    go_ret
    exact ⟨ret_bool HF.out.symm, Below.refl _ _⟩
end Go.Proofs.YtldgbdmiebipnaaGreatDoor

namespace Go.Proofs.YtldgbdmiebipnaaGreatDoor
open Go.RowKit

/-- A world that lies behind wb: what wb holds stands in it as it was. -/
structure After (wb : World) where
  w : World
  below : Below wb.heap.size wb w
instance (wb : World) : Inhabited (After wb) := ⟨⟨wb, Below.refl _ _⟩⟩
theorem wp_region_after {P : Program} {id : Nat} {Q : Exit → Act → World → Prop} {a : Act} {wb w : World} {l : List Oper} (hb : Below wb.heap.size wb w) (hm : P.follows .mixedOrders = true) (hB : Region.lexB .any l.toArray = true)
    (h : wpQuiet P l.toArray (fun w' => ∃ p : After wb, w' = p.w) (fun a' => ∀ w', (∃ p : After wb, w' = p.w) → Q .normal a' w') l a) : (Code.region id l.toArray true).wp P Q a w :=
  wp_region_quiet (C := fun w' => ∃ p : After wb, w' = p.w) hm hB ⟨⟨w.drew, hb.drew⟩, rfl⟩ (by simpa using h)
theorem after_call {P : Program} {f : FuncId} {args : Array Value} {wb : World} {p : After wb} {v : Value} (h : Calls P f args p.w fun e w' => e = .returned v ∧ Below p.w.heap.size p.w w') :
    Calls P f args p.w fun e w'' => e = .returned v ∧ ∃ q : After wb, w'' = q.w :=
  h.mono fun _ w' ⟨he, hb⟩ => ⟨he, ⟨⟨w', below_next p.below hb⟩, rfl⟩⟩
end Go.Proofs.YtldgbdmiebipnaaGreatDoor

namespace Go.Proofs.YtldgbdmiebipnaaGreatDoor
open Go.RowKit

/-- A token as a value. -/
def tokVal (t : Tok) : Value := .agg #[.int .i64 t.kind, .string t.text, .int .i64 t.n, .int .i64 t.place]

set_option maxRecDepth 100000 in
set_option maxHeartbeats 1000000 in
theorem ris_any (t : Tok) (s : ByteArray) (w : World) :
    Calls Tryz.prog 36 #[tokVal t, .string s] w fun e w' => e = .returned (.bool (isS t s)) ∧ Below w.heap.size w w' := by
  obtain ⟨k, x, n, p⟩ := t
  unfold tokVal
  have bx := box_new w (.int .i64 k) (.string x) (.int .i64 n) (.int .i64 p) 50
  obtain ⟨c0, c1, c2, c3, _, _, _, _⟩ := bx
  have hb := (Below.refl w.heap.size w).alloc (Nat.le_refl _) (.cells #[.int .i64 k, .string x, .int .i64 n, .int .i64 p] 50)
  have HI := Lib.hid (show isS ⟨k, x, n, p⟩ s = ((k == 6) && (x.toList == s.toList)) from rfl)
  cases hk : (k == 6) with
  | false =>
    rw [hk] at HI
    go_enter Tryz.func36, Tryz.ntmps36
    go_wp2_with fail
    go_ret
    exact ⟨ret_bool (by rw [HI.out]; rfl), hb⟩
  | true =>
    rw [hk] at HI
    cases hx : (x.toList == s.toList) with
    | false =>
      rw [hx] at HI
      go_enter Tryz.func36, Tryz.ntmps36
      go_wp2_with fail
      go_ret
      exact ⟨ret_bool (by rw [HI.out]; rfl), hb⟩
    | true =>
      rw [hx] at HI
      go_enter Tryz.func36, Tryz.ntmps36
      go_wp2_with fail
      go_ret
      exact ⟨ret_bool (by rw [HI.out]; rfl), hb⟩

set_option maxRecDepth 100000 in
set_option maxHeartbeats 1000000 in
theorem rleaf_any (t : Tok) (w : World) :
    Calls Tryz.prog 62 #[tokVal t] w fun e w' => e = .returned (.int .i64 (leafK t)) ∧ Below w.heap.size w w' := by
  obtain ⟨k, x, n, p⟩ := t
  unfold tokVal
  have hb := (Below.refl w.heap.size w).alloc (Nat.le_refl _) (.cells #[.int .i64 k, .string x, .int .i64 n, .int .i64 p] 50)
  have HI := Lib.hid (show leafK ⟨k, x, n, p⟩ = if k = 2 then 1 else if k = 4 then 3 else if k = 5 then 4 else 0 from rfl)
  cases h2 : (k == 2) with
  | true =>
    have HV := Lib.hid (show leafK ⟨k, x, n, p⟩ = 1 by rw [HI.out, if_pos (by simpa using h2)])
    go_enter Tryz.func62, Tryz.ntmps62
    go_wp2_with fail
    go_ret
    exact ⟨by rw [HV.out]; rfl, hb⟩
  | false =>
    cases h4 : (k == 4) with
    | true =>
      have HV := Lib.hid (show leafK ⟨k, x, n, p⟩ = 3 by rw [HI.out, if_neg (by simpa using h2), if_pos (by simpa using h4)])
      go_enter Tryz.func62, Tryz.ntmps62
      go_wp2_with fail
      go_ret
      exact ⟨by rw [HV.out]; rfl, hb⟩
    | false =>
      cases h5 : (k == 5) with
      | true =>
        have HV := Lib.hid (show leafK ⟨k, x, n, p⟩ = 4 by rw [HI.out, if_neg (by simpa using h2), if_neg (by simpa using h4), if_pos (by simpa using h5)])
        go_enter Tryz.func62, Tryz.ntmps62
        go_wp2_with fail
        go_ret
        exact ⟨by rw [HV.out]; rfl, hb⟩
      | false =>
        have HV := Lib.hid (show leafK ⟨k, x, n, p⟩ = 0 by rw [HI.out, if_neg (by simpa using h2), if_neg (by simpa using h4), if_neg (by simpa using h5)])
        go_enter Tryz.func62, Tryz.ntmps62
        go_wp2_with fail
        go_ret
        exact ⟨by rw [HV.out]; rfl, hb⟩

set_option maxRecDepth 100000 in
set_option maxHeartbeats 2000000 in
theorem rwordk_any (t : Tok) (w : World) :
    Calls Tryz.prog 15 #[tokVal t] w fun e w' => e = .returned (.bool (wordK t)) ∧ Below w.heap.size w w' := by
  obtain ⟨k, x, n, p⟩ := t
  unfold tokVal
  have hb := (Below.refl w.heap.size w).alloc (Nat.le_refl _) (.cells #[.int .i64 k, .string x, .int .i64 n, .int .i64 p] 50)
  have HB := Lib.hid hb
  have HI := Lib.hid (show wordK ⟨k, x, n, p⟩ = ((k == 1) && !Lib.containsS keyList x) from rfl)
  have bx := box_new w (.int .i64 k) (.string x) (.int .i64 n) (.int .i64 p) 50
  cases hk : (k == 1) with
  | false =>
    rw [hk] at HI
    obtain ⟨c0, c1, c2, c3, _, _, _, _⟩ := bx
    go_enter Tryz.func15, Tryz.ntmps15
    go_wp2_with fail
    go_region
    go_wp2_with fail
    go_ret
    exact ⟨ret_bool (by rw [HI.out]; rfl), below_drewN HB.out _⟩
  | true =>
    rw [hk] at HI
    obtain ⟨wc, hwc⟩ : ∃ wc, wc = w.alloc (.cells #[.int .i64 k, .string x, .int .i64 n, .int .i64 p] 50) := ⟨_, rfl⟩
    rw [← hwc] at HB bx
    have hlt : w.heap.size < wc.heap.size := by rw [hwc]; simp
    have KEEP := Lib.hid (fun (W : World) (h : Below wc.heap.size wc W) => (show Below wc.heap.size wc W ∧ W.cell? ⟨w.heap.size, 0, none⟩ = some (.int .i64 k) ∧ W.cell? ⟨w.heap.size, 1, none⟩ = some (.string x) from ⟨h, (bx.below h hlt).c0, (bx.below h hlt).c1⟩))
    have RK := Lib.hid (fun (W : World) (h : Below wc.heap.size wc W) => (rkeys_any W).mono fun e w' hh => (show ∃ v, e = .returned v ∧ Strs w' v keyList ∧ Below wc.heap.size wc w' by obtain ⟨v, h1, h2, h3⟩ := hh; exact ⟨v, h1, h2, below_next h h3⟩))
    have RI := Lib.hid (fun (v : Value) (W : World) (hv : Strs W v keyList) (h : Below wc.heap.size wc W) => (rin_any v keyList x W hv).mono fun e w' hh => (show e = .returned (.bool (Lib.containsS keyList x)) ∧ Below wc.heap.size wc w' by obtain ⟨h1, h2⟩ := hh; exact ⟨h1, by rw [← h2]; exact h⟩))
    have hd : Below wc.heap.size wc wc.drew := (Below.refl _ _).drew
    clear hb
    go_enter Tryz.func15, Tryz.ntmps15
    go_wp2_with fail
    rw [← hwc]
    clear hwc
    go_region_held3 (fun W => Below wc.heap.size wc W ∧ W.cell? ⟨w.heap.size, 0, none⟩ = some (.int .i64 k) ∧ W.cell? ⟨w.heap.size, 1, none⟩ = some (.string x)) (exact KEEP.out _ (by assumption))
      ((first
        | (go_at_call 33; refine (RK.out _ (by assumption)).mono ?_; rintro e w' ⟨v, rfl, hv, hn⟩)
        | (go_at_call 32; refine (RI.out _ _ (by assumption) (by assumption)).mono ?_; rintro e w' ⟨rfl, hn⟩)))
    go_wp2_with fail
    go_ret
    exact ⟨ret_bool (by rw [HI.out]; rfl), below_next HB.out (by assumption)⟩
set_option maxHeartbeats 400000 in
theorem rstep_any (i : Nat) (ok : Bool) (hi : i ≤ 1000000) (w : World) :
    Calls Tryz.prog 34 #[.int .i64 i, .bool ok] w fun e w' => e = .returned (.int .i64 ((if ok = true then i + 1 else i : Nat) : Int)) ∧ w = w' := by
  cases ok with
  | true =>
    go_enter Tryz.func34, Tryz.ntmps34
    go_wp2_with fail
    go_ret
    exact ⟨rfl, rfl⟩
  | false =>
    go_enter Tryz.func34, Tryz.ntmps34
    go_wp2_with fail
    go_ret
    exact ⟨rfl, rfl⟩
end Go.Proofs.YtldgbdmiebipnaaGreatDoor

namespace Go.Proofs.YtldgbdmiebipnaaGreatDoor
open Go.RowKit

structure Box5 (w : World) (g : Nat) (x0 x1 x2 x3 x4 : Value) : Prop where
  c0 : w.cell? ⟨g, 0, none⟩ = some x0
  c1 : w.cell? ⟨g, 1, none⟩ = some x1
  c2 : w.cell? ⟨g, 2, none⟩ = some x2
  c3 : w.cell? ⟨g, 3, none⟩ = some x3
  c4 : w.cell? ⟨g, 4, none⟩ = some x4
  f0 : w.frozen? ⟨g, 0, none⟩ = false
  f1 : w.frozen? ⟨g, 1, none⟩ = false
  f2 : w.frozen? ⟨g, 2, none⟩ = false
  f3 : w.frozen? ⟨g, 3, none⟩ = false
  f4 : w.frozen? ⟨g, 4, none⟩ = false
theorem box5_new (w : World) (x0 x1 x2 x3 x4 : Value) (t : TypeId) : Box5 (w.alloc (.cells #[x0, x1, x2, x3, x4] t)) w.heap.size x0 x1 x2 x3 x4 where
  c0 := World.cell?_alloc_mark w #[x0, x1, x2, x3, x4] t (0, 0) 0
  c1 := World.cell?_alloc_mark w #[x0, x1, x2, x3, x4] t (0, 0) 1
  c2 := World.cell?_alloc_mark w #[x0, x1, x2, x3, x4] t (0, 0) 2
  c3 := World.cell?_alloc_mark w #[x0, x1, x2, x3, x4] t (0, 0) 3
  c4 := World.cell?_alloc_mark w #[x0, x1, x2, x3, x4] t (0, 0) 4
  f0 := by simp
  f1 := by simp
  f2 := by simp
  f3 := by simp
  f4 := by simp
theorem Box5.below {w w1 : World} {g B : Nat} {x0 x1 x2 x3 x4 : Value} (h : Box5 w g x0 x1 x2 x3 x4) (hb : Below B w w1) (hg : g < B) : Box5 w1 g x0 x1 x2 x3 x4 where
  c0 := (hb.cell (p := ⟨g, 0, none⟩) hg).trans h.c0
  c1 := (hb.cell (p := ⟨g, 1, none⟩) hg).trans h.c1
  c2 := (hb.cell (p := ⟨g, 2, none⟩) hg).trans h.c2
  c3 := (hb.cell (p := ⟨g, 3, none⟩) hg).trans h.c3
  c4 := (hb.cell (p := ⟨g, 4, none⟩) hg).trans h.c4
  f0 := (hb.frozen (p := ⟨g, 0, none⟩) hg).trans h.f0
  f1 := (hb.frozen (p := ⟨g, 1, none⟩) hg).trans h.f1
  f2 := (hb.frozen (p := ⟨g, 2, none⟩) hg).trans h.f2
  f3 := (hb.frozen (p := ⟨g, 3, none⟩) hg).trans h.f3
  f4 := (hb.frozen (p := ⟨g, 4, none⟩) hg).trans h.f4
theorem cell_off5 {W : World} {u : Value} (g i j : Nat) (h : i ≠ j) : (W.setCell ⟨g, i, none⟩ u).cell? ⟨g, j, none⟩ = W.cell? ⟨g, j, none⟩ := World.cell?_setCell_other _ _ _ _ (fun e => h (by cases e; rfl))
theorem Box5.sets {w : World} {g : Nat} {x0 x1 x2 x3 x4 : Value} (h : Box5 w g x0 x1 x2 x3 x4) (y0 y1 y2 y3 y4 : Value) :
    Box5 (((((w.setCell ⟨g, 0, none⟩ y0).setCell ⟨g, 1, none⟩ y1).setCell ⟨g, 2, none⟩ y2).setCell ⟨g, 3, none⟩ y3).setCell ⟨g, 4, none⟩ y4) g y0 y1 y2 y3 y4 where
  c0 := by
    rw [cell_off5 g 4 0 (by decide), cell_off5 g 3 0 (by decide), cell_off5 g 2 0 (by decide), cell_off5 g 1 0 (by decide)]
    exact World.cell?_setCell_same _ _ _ h.c0
  c1 := by
    rw [cell_off5 g 4 1 (by decide), cell_off5 g 3 1 (by decide), cell_off5 g 2 1 (by decide)]
    refine World.cell?_setCell_same (u := x1) _ _ _ ?_
    rw [cell_off5 g 0 1 (by decide)]; exact h.c1
  c2 := by
    rw [cell_off5 g 4 2 (by decide), cell_off5 g 3 2 (by decide)]
    refine World.cell?_setCell_same (u := x2) _ _ _ ?_
    rw [cell_off5 g 1 2 (by decide), cell_off5 g 0 2 (by decide)]; exact h.c2
  c3 := by
    rw [cell_off5 g 4 3 (by decide)]
    refine World.cell?_setCell_same (u := x3) _ _ _ ?_
    rw [cell_off5 g 2 3 (by decide), cell_off5 g 1 3 (by decide), cell_off5 g 0 3 (by decide)]; exact h.c3
  c4 := by
    refine World.cell?_setCell_same (u := x4) _ _ _ ?_
    rw [cell_off5 g 3 4 (by decide), cell_off5 g 2 4 (by decide), cell_off5 g 1 4 (by decide), cell_off5 g 0 4 (by decide)]; exact h.c4
  f0 := by simp [h.f0]
  f1 := by simp [h.f1]
  f2 := by simp [h.f2]
  f3 := by simp [h.f3]
  f4 := by simp [h.f4]
theorem below_sets5 {B : Nat} {a w : World} (h : Below B a w) {g : Nat} (hg : B ≤ g) (y0 y1 y2 y3 y4 : Value) : Below B a (((((w.setCell ⟨g, 0, none⟩ y0).setCell ⟨g, 1, none⟩ y1).setCell ⟨g, 2, none⟩ y2).setCell ⟨g, 3, none⟩ y3).setCell ⟨g, 4, none⟩ y4) :=
  ((((h.setCell (p := ⟨g, 0, none⟩) hg _).setCell (p := ⟨g, 1, none⟩) hg _).setCell (p := ⟨g, 2, none⟩) hg _).setCell (p := ⟨g, 3, none⟩) hg _).setCell (p := ⟨g, 4, none⟩) hg _
end Go.Proofs.YtldgbdmiebipnaaGreatDoor
