/-
  The first place of a part, looked for from within: it is the first of all places, since terms of one size do not lie in one another. No function of the program.
-/
import Derived.Test.YtniikfihfeledaaFindTm
import Derived.Test.YtniikfihfeledaaPlSort
namespace Go.Proofs.Ytniikfihfeledaa
open Go.RowKit

mutual
/-- The first place, from within. -/
noncomputable def finP (s : Tm) : Tm → Option (List Int)
  | .mk k n m xs => match finL s 0 xs with
    | some q => some q
    | none => if eqT (.mk k n m xs) s = true then some [] else none
noncomputable def finL (s : Tm) : Nat → List Tm → Option (List Int)
  | _, [] => none
  | i, t :: r => match finP s t with
    | some q => some ((i : Int) :: q)
    | none => finL s (i + 1) r
end
theorem finP_eq (s t : Tm) : finP s t = match finL s 0 t.args with | some q => some q | none => if eqT t s = true then some [] else none := by
  cases t; rw [finP]; rfl
mutual
theorem finP_parts (s : Tm) : ∀ (t : Tm) (q : List Int), finP s t = some q → s.parts ≤ t.parts
  | .mk k n m xs, q, h => by
    rw [finP] at h
    rw [Tm.parts]
    cases hl : finL s 0 xs with
    | some q' => have := finL_parts s 0 xs q' hl; omega
    | none =>
      rw [hl] at h
      simp only at h
      split at h
      · next he =>
        have e : (Tm.mk k n m xs) = s := by
          by_cases e : (Tm.mk k n m xs) = s
          · exact e
          · rw [eqT_false e] at he; cases he
        rw [← e, Tm.parts]; omega
      · cases h
theorem finL_parts (s : Tm) : ∀ (i : Nat) (l : List Tm) (q : List Int), finL s i l = some q → s.parts ≤ partsL l
  | _, [], q, h => by rw [finL] at h; cases h
  | i, t :: r, q, h => by
    rw [finL] at h
    rw [partsL]
    cases hp : finP s t with
    | some q' => have := finP_parts s t q' hp; omega
    | none => rw [hp] at h; have := finL_parts s (i + 1) r q h; omega
end
noncomputable def atB (s t : Tm) (p : List Int) : Bool := eqT ((atT t p).getD zeroT) s
theorem find_cons {s : Tm} {xs : List Tm} {k : Int} {n : ByteArray} {m : Int} {i : Nat} (h : i < xs.length) : (fun q => atB s (.mk k n m xs) ((i : Int) :: q)) = atB s xs[i] := by
  funext q
  unfold atB
  rw [atT_in (t := .mk k n m xs) (j := i) h]
  rfl
mutual
theorem find_fin (s : Tm) : ∀ t : Tm, (placesT t).find? (atB s t) = finP s t
  | .mk k n m xs => by
    rw [placesT, finP, List.find?_cons]
    have h0 : atB s (.mk k n m xs) [] = eqT (.mk k n m xs) s := by unfold atB; rw [atT_nil]; rfl
    rw [h0]
    cases he : eqT (.mk k n m xs) s with
    | true =>
      have e : (Tm.mk k n m xs) = s := by
        by_cases e : (Tm.mk k n m xs) = s
        · exact e
        · rw [eqT_false e] at he; cases he
      have hn : finL s 0 xs = none := by
        cases hl : finL s 0 xs with
        | none => rfl
        | some q =>
          have := finL_parts s 0 xs q hl
          rw [← e, Tm.parts] at this; omega
      rw [hn]; simp
    | false =>
      have := find_finL s k n m xs 0 xs (by rw [List.drop_zero])
      rw [this]
      cases finL s 0 xs <;> simp
theorem find_finL (s : Tm) (k : Int) (n : ByteArray) (m : Int) (xs : List Tm) : ∀ (i : Nat) (l : List Tm), l = xs.drop i → (placesL i l).find? (atB s (.mk k n m xs)) = finL s i l
  | _, [], _ => by rw [placesL, finL]; rfl
  | i, t :: r, h => by
    have hi : i < xs.length := by
      rcases Nat.lt_or_ge i xs.length with h1 | h1
      · exact h1
      · rw [List.drop_eq_nil_of_le h1] at h; cases h
    rw [List.drop_eq_getElem_cons hi] at h
    injection h with h1 h2
    rw [placesL, finL, List.find?_append, List.find?_map]
    have e : (atB s (.mk k n m xs) ∘ fun x => (i : Int) :: x) = atB s t := by
      rw [h1]; exact find_cons hi
    rw [e, find_fin s t, find_finL s k n m xs (i + 1) r h2]
    cases finP s t <;> rfl
end
theorem findT_fin (t s : Tm) : findT t s = finP s t := find_fin s t
/-- As far as the k-th argument nothing is found. -/
def NoneTo (s : Tm) (xs : List Tm) (k : Nat) : Prop := finL s 0 xs = finL s k (xs.drop k)
theorem noneTo_start (s : Tm) (xs : List Tm) : NoneTo s xs 0 := by unfold NoneTo; rw [List.drop_zero]
theorem noneTo_succ {s : Tm} {xs : List Tm} {k : Nat} (h : NoneTo s xs k) (hk : k < xs.length) (hn : finP s xs[k] = none) : NoneTo s xs (k + 1) := by
  unfold NoneTo at h ⊢
  rw [h, List.drop_eq_getElem_cons hk, finL, hn]
theorem noneTo_here {s : Tm} {t : Tm} {k : Nat} {q : List Int} (h : NoneTo s t.args k) (hk : k < t.args.length) (hn : finP s t.args[k] = some q) : finP s t = some ((k : Int) :: q) := by
  unfold NoneTo at h
  rw [List.drop_eq_getElem_cons hk, finL, hn] at h
  rw [finP_eq, h]
theorem noneTo_end {s : Tm} {t : Tm} (h : NoneTo s t.args t.args.length) : finP s t = if eqT t s = true then some [] else none := by
  unfold NoneTo at h
  rw [List.drop_length, finL] at h
  rw [finP_eq, h]
end Go.Proofs.Ytniikfihfeledaa
