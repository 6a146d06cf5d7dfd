/-
  The order of terms, as data: cmpT. No function of the program.
-/
import Derived.Test.YtcecbdglepneaaaSameTm
namespace Go.Proofs.Ytcecbdglepneaaa
open Go.RowKit

def cmpI (a b : Int) : Int := if a < b then -1 else if b < a then 1 else 0
def cmpS (s t : ByteArray) : Int := if Op.bytesLess s.toList t.toList = true then -1 else if (s.toList == t.toList) = true then 0 else 1
mutual
/-- Which of two terms is first: by kind, number, name, how many arguments, then these from the left. -/
def cmpT : Tm → Tm → Int
  | .mk k s n xs, .mk k' s' n' ys => if cmpI k k' ≠ 0 then cmpI k k' else if cmpI n n' ≠ 0 then cmpI n n' else if cmpS s s' ≠ 0 then cmpS s s' else if cmpI xs.length ys.length ≠ 0 then cmpI xs.length ys.length else cmpL xs ys
def cmpL : List Tm → List Tm → Int
  | [], _ => 0
  | _ :: _, [] => 0
  | x :: r, y :: q => if cmpT x y ≠ 0 then cmpT x y else cmpL r q
end
theorem cmpI_zero {a b : Int} : cmpI a b = 0 ↔ a = b := by unfold cmpI; split; omega; split <;> omega
theorem cmpI_bd (a b : Int) : -1 ≤ cmpI a b ∧ cmpI a b ≤ 1 := by unfold cmpI; split; omega; split <;> omega
theorem cmpS_bd (s t : ByteArray) : -1 ≤ cmpS s t ∧ cmpS s t ≤ 1 := by unfold cmpS; split; omega; split <;> omega
mutual
theorem cmpT_bd : ∀ t u : Tm, -1 ≤ cmpT t u ∧ cmpT t u ≤ 1
  | .mk k s n xs, .mk k' s' n' ys => by
    rw [cmpT]
    have h1 := cmpI_bd k k'
    have h2 := cmpI_bd n n'
    have h3 := cmpS_bd s s'
    have h4 := cmpI_bd xs.length ys.length
    have h5 := cmpL_bd xs ys
    repeat' split
    all_goals assumption
theorem cmpL_bd : ∀ xs ys : List Tm, -1 ≤ cmpL xs ys ∧ cmpL xs ys ≤ 1
  | [], _ => by rw [cmpL]; omega
  | _ :: _, [] => by rw [cmpL]; omega
  | x :: r, y :: q => by
    rw [cmpL]
    have h1 := cmpT_bd x y
    have h2 := cmpL_bd r q
    split <;> assumption
end
theorem cmpL_same : ∀ {xs ys : List Tm}, (∀ j (h1 : j < xs.length) (h2 : j < ys.length), cmpT xs[j] ys[j] = 0) → cmpL xs ys = 0
  | [], _, _ => by rw [cmpL]
  | _ :: _, [], _ => by rw [cmpL]
  | x :: r, y :: q, h => by
    have h0 := h 0 (by simp) (by simp)
    simp only [List.getElem_cons_zero] at h0
    rw [cmpL, if_neg (by rw [h0]; simp)]
    exact cmpL_same fun j h1 h2 => by
      have := h (j + 1) (by simpa using h1) (by simpa using h2)
      simpa using this
theorem cmpL_at : ∀ {xs ys : List Tm} {k : Nat} (h1 : k < xs.length) (h2 : k < ys.length), (∀ j (a : j < xs.length) (b : j < ys.length), j < k → cmpT xs[j] ys[j] = 0) → cmpT xs[k] ys[k] ≠ 0 → cmpL xs ys = cmpT xs[k] ys[k]
  | [], _, _, h1, _, _, _ => by simp at h1
  | _ :: _, [], _, _, h2, _, _ => by simp at h2
  | x :: r, y :: q, 0, _, _, _, hn => by
    simp only [List.getElem_cons_zero] at hn ⊢
    rw [cmpL, if_pos hn]
  | x :: r, y :: q, k + 1, h1, h2, h, hn => by
    have h0 := h 0 (by simp) (by simp) (by omega)
    simp only [List.getElem_cons_zero] at h0
    rw [cmpL, if_neg (by rw [h0]; simp)]
    simp only [List.getElem_cons_succ] at hn ⊢
    exact cmpL_at (by simpa using h1) (by simpa using h2) (fun j a b hj => by
      have := h (j + 1) (by simpa using a) (by simpa using b) (by omega)
      simpa using this) hn
/-- Up to k no pair parts. -/
def CmpTo (xs ys : List Tm) (k : Nat) : Prop := ∀ j (h1 : j < xs.length) (h2 : j < ys.length), j < k → cmpT xs[j] ys[j] = 0
theorem CmpTo.succ {xs ys : List Tm} {k : Nat} (h : CmpTo xs ys k) (h1 : k < xs.length) (h2 : k < ys.length) (hk : cmpT xs[k] ys[k] = 0) : CmpTo xs ys (k + 1) := by
  intro j a b hj
  by_cases e : j = k
  · subst e; exact hk
  · exact h j a b (by omega)

theorem texts_ways (s t : ByteArray) : (Op.bytesLess s.toList t.toList = true ∧ cmpS s t = -1) ∨ (Op.bytesLess s.toList t.toList = false ∧ (s.toList == t.toList) = true ∧ cmpS s t = 0) ∨ (Op.bytesLess s.toList t.toList = false ∧ (s.toList == t.toList) = false ∧ cmpS s t = 1) := by
  unfold cmpS
  cases h1 : Op.bytesLess s.toList t.toList with
  | true => left; exact ⟨rfl, by simp⟩
  | false =>
    right
    cases h2 : (s.toList == t.toList) with
    | true => left; exact ⟨rfl, rfl, by simp⟩
    | false => right; exact ⟨rfl, rfl, by simp⟩
end Go.Proofs.Ytcecbdglepneaaa
