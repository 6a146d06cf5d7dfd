/-
  Plain facts on bytes and decimal digits: what text a number has, and that no two numbers have the same one. Nothing of the program.
-/
import Derived.Lib.ItoaNum
import Derived.Lib.ItoaMem
import Derived.Lib.AtoiTie
import Derived.Lib.AtoiAllCases
namespace Go.Proofs.YtmpaljmkfnpcpaaDoor

/-- The number that a row of digits is. -/
def decVal (l : List UInt8) : Nat := l.foldl (fun a c => 10 * a + (c.toNat - 48)) 0
theorem decVal_snoc (l : List UInt8) (c : UInt8) : decVal (l ++ [c]) = 10 * decVal l + (c.toNat - 48) := by simp [decVal]
theorem digit_val {d : Nat} (h : d < 10) : (UInt8.ofNat (48 + d)).toNat = 48 + d := by
  simp; omega
theorem decDigits_big {u : Nat} (h : ¬ u < 10) : Lib.decDigits u = Lib.decDigits (u / 10) ++ [UInt8.ofNat (48 + u % 10)] := by
  rw [Lib.decDigits, dif_neg h]
theorem decVal_digits (u : Nat) : decVal (Lib.decDigits u) = u := by
  induction u using Nat.strongRecOn with
  | ind u ih =>
    by_cases h : u < 10
    · rw [Lib.decDigits_one h]
      have := decVal_snoc [] (UInt8.ofNat (48 + u))
      rw [List.nil_append] at this
      rw [this, digit_val h]; simp [decVal]
    · rw [decDigits_big h, decVal_snoc, ih (u / 10) (by omega), digit_val (by omega)]; omega
theorem decDigits_inj {a b : Nat} (h : Lib.decDigits a = Lib.decDigits b) : a = b := by
  rw [← decVal_digits a, ← decVal_digits b, h]
theorem decDigits_range (u : Nat) : ∀ c ∈ Lib.decDigits u, 48 ≤ c.toNat ∧ c.toNat ≤ 57 := by
  induction u using Nat.strongRecOn with
  | ind u ih =>
    by_cases h : u < 10
    · rw [Lib.decDigits_one h]; intro c hc; rw [List.mem_singleton] at hc; subst hc; rw [digit_val h]; omega
    · rw [decDigits_big h]; intro c hc
      rcases List.mem_append.1 hc with h1 | h1
      · exact ih (u / 10) (by omega) c h1
      · rw [List.mem_singleton] at h1; subst h1; rw [digit_val (by omega)]; omega
theorem decDigits_ne_nil (u : Nat) : Lib.decDigits u ≠ [] := by
  intro h
  have := Lib.decDigits_length u
  rw [h] at this
  have h2 := Lib.nDigits_pos u
  simp at this; omega
theorem nDigits_le3 {n : Nat} (h : n ≤ 999) : Lib.nDigits n ≤ 3 := by
  by_cases h1 : n < 10
  · rw [Lib.nDigits_small h1]; omega
  · rw [Lib.nDigits_big h1]
    by_cases h2 : n / 10 < 10
    · rw [Lib.nDigits_small h2]; omega
    · rw [Lib.nDigits_big h2, Lib.nDigits_small (by omega)]; omega
theorem itoa_of_neg {n : Int} (h : n < 0) : ∃ u, Lib.itoa n = 45 :: Lib.decDigits u := ⟨_, by unfold Lib.itoa; rw [if_pos h]⟩
theorem itoa_inj {a b : Int} (h : Lib.itoa a = Lib.itoa b) : a = b := by
  unfold Lib.itoa at h
  have nodash : ∀ u v : Nat, 45 :: Lib.decDigits u ≠ Lib.decDigits v := by
    intro u v e
    have := decDigits_range v 45 (by rw [← e]; exact List.mem_cons_self ..)
    exact absurd this.1 (by decide)
  by_cases h1 : a < 0 <;> by_cases h2 : b < 0
  · rw [if_pos h1, if_pos h2] at h
    have := decDigits_inj (List.cons.inj h).2
    omega
  · rw [if_pos h1, if_neg h2] at h; exact absurd h (nodash _ _)
  · rw [if_neg h1, if_pos h2] at h; exact absurd h.symm (nodash _ _)
  · rw [if_neg h1, if_neg h2] at h
    have := decDigits_inj h
    omega

theorem decFrom_snoc (l : List UInt8) : ∀ (acc n : Nat) (b : UInt8) (d : Nat), Lib.decFrom acc l = some n → Lib.digitVal b = some d → Lib.decFrom acc (l ++ [b]) = some (10 * n + d) := by
  intro acc n b d h1 h2
  have := Lib.decFrom_take (l ++ [b]) l.length acc n b d (by simpa using h1) (by simp) h2
  rw [show (l ++ [b]).take (l.length + 1) = l ++ [b] from List.take_of_length_le (by simp)] at this
  rw [this]; congr 1; omega
theorem digitVal_ofNat {d : Nat} (h : d < 10) : Lib.digitVal (UInt8.ofNat (48 + d)) = some d := by
  unfold Lib.digitVal; rw [digit_val h, if_pos (by omega)]; congr 1; omega
theorem decFrom_digits (u : Nat) : Lib.decFrom 0 (Lib.decDigits u) = some u := by
  induction u using Nat.strongRecOn with
  | ind u ih =>
    by_cases h : u < 10
    · rw [Lib.decDigits_one h]
      have := decFrom_snoc [] 0 0 _ _ rfl (digitVal_ofNat h)
      simpa using this
    · rw [decDigits_big h, decFrom_snoc _ _ _ _ _ (ih (u / 10) (by omega)) (digitVal_ofNat (by omega : u % 10 < 10))]
      congr 1; omega
/-- A number's own digits are read as it. -/
theorem atoi_digits {u : Nat} (h : u ≤ 999) : Lib.atoiAll (Lib.decDigits u) = .ok (u : Int) := by
  have h1 := Lib.atoiAll_short (Lib.decDigits u) (by rw [Lib.decDigits_length]; have := nDigits_le3 h; omega)
  rw [h1]
  have h2 := decFrom_digits u
  have hr := decDigits_range u
  cases hd : Lib.decDigits u with
  | nil => exact absurd hd (decDigits_ne_nil u)
  | cons c r =>
    rw [hd] at h2 hr
    have hc := hr c (List.mem_cons_self ..)
    have e1 : (c == 45) = false := by
      rw [beq_eq_false_iff_ne]; rintro rfl; exact absurd hc.1 (by decide)
    have e2 : (c == 43) = false := by
      rw [beq_eq_false_iff_ne]; rintro rfl; exact absurd hc.1 (by decide)
    simp only [Lib.atoi, e1, e2, Bool.false_eq_true, if_false]
    unfold Lib.decNat
    rw [List.isEmpty_cons, if_neg (by simp), h2]
    rfl

/-- The number from 0 to 999 whose digits a text is. -/
def numOf (l : List UInt8) : Option Nat := (List.range 1000).find? fun n => Lib.decDigits n == l
theorem numOf_some {l : List UInt8} {n : Nat} (h : numOf l = some n) : n ≤ 999 ∧ Lib.decDigits n = l := by
  unfold numOf at h
  have h1 := List.find?_some h
  have h2 := List.mem_of_find?_eq_some h
  rw [List.mem_range] at h2
  exact ⟨by omega, by simpa using h1⟩
theorem numOf_none {l : List UInt8} (h : numOf l = none) (n : Nat) (hn : n ≤ 999) : Lib.decDigits n ≠ l := by
  unfold numOf at h
  rw [List.find?_eq_none] at h
  have := h n (by rw [List.mem_range]; omega)
  simpa using this
theorem numOf_digits {n : Nat} (h : n ≤ 999) : numOf (Lib.decDigits n) = some n := by
  cases hn : numOf (Lib.decDigits n) with
  | none => exact absurd rfl (numOf_none hn n h)
  | some m => rw [decDigits_inj (numOf_some hn).2]
theorem numOf_itoa {n : Int} (h : ¬ (0 ≤ n ∧ n ≤ 999)) : numOf (Lib.itoa n) = none := by
  cases hn : numOf (Lib.itoa n) with
  | none => rfl
  | some m =>
    obtain ⟨h1, h2⟩ := numOf_some hn
    rw [← Lib.itoa_nonneg m] at h2
    have := itoa_inj h2
    omega
/-- What Number tells beside the bool: the number, or 0. -/
def numVal (l : List UInt8) : Int := ((numOf l).getD 0 : Nat)
def isNum (l : List UInt8) : Bool := (numOf l).isSome

end Go.Proofs.YtmpaljmkfnpcpaaDoor
