/-
  A term as a text, by the reference of layer 3: Show, for any term in memory that is not too long. (as data)
-/
import Derived.Test.YtmpaljmkfnpcpaaDoorAllPu
import Derived.Lib.ItoaLen
import Derived.Lib.Join
import Derived.Laws.Concat
namespace Go.Proofs.YtmpaljmkfnpcpaaDoor
open Go.RowKit

/-- Arguments as a text, without what closes them. -/
def pre (ls : List (List UInt8)) : List UInt8 := if ls.isEmpty = true then [] else 40 :: Lib.join ls [44, 32]
theorem pre_first (x : List UInt8) : pre [x] = 40 :: x := by unfold pre; simp [Lib.join_one]
theorem pre_more {ls : List (List UInt8)} (x : List UInt8) (h : ls.isEmpty = false) : pre (ls ++ [x]) = pre ls ++ [44, 32] ++ x := by
  cases ls with
  | nil => cases h
  | cons y r =>
    unfold pre
    simp only [List.cons_append, List.isEmpty_cons, Bool.false_eq_true, if_false]
    rw [Lib.join_cons, Lib.join_cons]
    simp [Lib.joinTail, List.append_assoc]
/-- What closes them. -/
def close (ls : List (List UInt8)) : List UInt8 := if ls.isEmpty = true then [] else [41]
mutual
/-- A term as a text. -/
def showT : Tm → List UInt8
  | .mk k s n xs => if k = 1 ∨ k = 2 then s.data.toList else if k = 3 then 36 :: Lib.itoa n else if k = 4 then 37 :: Lib.itoa n else if k ≠ 5 then [63] else s.data.toList ++ pre (showsL xs) ++ close (showsL xs)
def showsL : List Tm → List (List UInt8)
  | [] => []
  | t :: r => showT t :: showsL r
end
theorem showsL_map (l : List Tm) : showsL l = l.map showT := by
  induction l with
  | nil => rw [showsL]; rfl
  | cons t r ih => rw [showsL, ih]; rfl
theorem showsL_take {l : List Tm} {k : Nat} (h : k < l.length) : showsL (l.take (k + 1)) = showsL (l.take k) ++ [showT l[k]] := by
  rw [showsL_map, showsL_map, List.take_succ_eq_append_getElem h, List.map_append]; rfl
theorem showsL_empty {l : List Tm} : (showsL l).isEmpty = l.isEmpty := by rw [showsL_map]; cases l <;> rfl
mutual
/-- How long a term's text can be. -/
def wtT : Tm → Nat
  | .mk _ s _ xs => s.size + 30 + wtL xs
def wtL : List Tm → Nat
  | [] => 0
  | t :: r => wtT t + wtL r
end
theorem wtL_append (a b : List Tm) : wtL (a ++ b) = wtL a + wtL b := by
  induction a with
  | nil => rw [List.nil_append, wtL]; omega
  | cons t r ih => rw [List.cons_append, wtL, wtL, ih]; omega
theorem wtL_take {l : List Tm} {k : Nat} (h : k < l.length) : wtL (l.take (k + 1)) = wtL (l.take k) + wtT l[k] := by
  rw [List.take_succ_eq_append_getElem h, wtL_append, wtL, wtL]; omega
theorem wtL_part (l : List Tm) (k : Nat) : wtL (l.take k) ≤ wtL l := by
  have := wtL_append (l.take k) (l.drop k)
  rw [List.take_append_drop] at this; omega
mutual
theorem wtT_small : ∀ t : Tm, (∀ x ∈ t.all, x.name.size ≤ 100) → wtT t ≤ 130 * t.parts
  | .mk k s n xs, h => by
    rw [Tm.all] at h
    rw [wtT, Tm.parts]
    have h1 : s.size ≤ 100 := h _ (List.mem_cons_self ..)
    have h2 := wtL_small xs (fun x hx => h x (List.mem_cons_of_mem _ hx))
    omega
theorem wtL_small : ∀ l : List Tm, (∀ x ∈ allL l, x.name.size ≤ 100) → wtL l ≤ 130 * partsL l
  | [], _ => by rw [wtL]; omega
  | t :: r, h => by
    rw [allL] at h
    rw [wtL, partsL]
    have h1 := wtT_small t (fun x hx => h x (List.mem_append_left _ hx))
    have h2 := wtL_small r (fun x hx => h x (List.mem_append_right _ hx))
    omega
end
theorem cat_list (l m : List UInt8) : (⟨l.toArray⟩ : ByteArray) ++ ⟨m.toArray⟩ = ⟨(l ++ m).toArray⟩ := by apply ByteArray.ext; simp
theorem cat_bytes (s : ByteArray) (m : List UInt8) : s ++ ⟨m.toArray⟩ = ⟨(s.data.toList ++ m).toArray⟩ := by apply ByteArray.ext; simp
theorem cat_cons (b : UInt8) (l : List UInt8) : (⟨#[b]⟩ : ByteArray) ++ ⟨l.toArray⟩ = ⟨(b :: l).toArray⟩ := by apply ByteArray.ext; simp
theorem bytes_self (s : ByteArray) : (⟨s.data.toList.toArray⟩ : ByteArray) = s := by cases s; simp
/-- What a call of Show leaves. -/
def ShowPost (t : Tm) (w : World) (e : Ending) (w' : World) : Prop := e = .returned (.string ⟨(showT t).toArray⟩) ∧ (showT t).length + 4 ≤ wtT t ∧ Below w.heap.size w w'
end Go.Proofs.YtmpaljmkfnpcpaaDoor
