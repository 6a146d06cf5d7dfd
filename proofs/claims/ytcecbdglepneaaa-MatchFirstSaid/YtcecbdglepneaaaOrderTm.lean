/-
  The order of terms is one: turned about it is turned, it goes on over a third, and only the same stand alike. No function of the program.
-/
import Derived.Test.YtcecbdglepneaaaCmpPu
namespace Go.Proofs.Ytcecbdglepneaaa
open Go.RowKit

theorem bl_irr : ∀ x : List UInt8, Op.bytesLess x x = false
  | [] => rfl
  | a :: x => by simp [Op.bytesLess, bl_irr x]
theorem bl_tot : ∀ {x y : List UInt8}, Op.bytesLess x y = false → x ≠ y → Op.bytesLess y x = true
  | [], [], _, h => absurd rfl h
  | [], _ :: _, h, _ => by simp [Op.bytesLess] at h
  | _ :: _, [], _, _ => rfl
  | a :: x, b :: y, h, hn => by
    simp only [Op.bytesLess, Bool.or_eq_false_iff, decide_eq_false_iff_not, Bool.and_eq_false_iff, beq_eq_false_iff_ne] at h
    simp only [Op.bytesLess, Bool.or_eq_true, decide_eq_true_eq, Bool.and_eq_true, beq_iff_eq]
    obtain ⟨h1, h2⟩ := h
    by_cases e : a = b
    · subst e
      right
      refine ⟨rfl, bl_tot ?_ fun h => hn (by rw [h])⟩
      rcases h2 with h2 | h2
      · exact absurd rfl h2
      · exact h2
    · left
      rcases UInt8.lt_or_lt_of_ne e with h | h
      · exact absurd h h1
      · exact h
theorem bl_trans : ∀ {x y z : List UInt8}, Op.bytesLess x y = true → Op.bytesLess y z = true → Op.bytesLess x z = true
  | _, [], _, h, _ => by simp [Op.bytesLess] at h
  | _, _ :: _, [], _, h => by simp [Op.bytesLess] at h
  | [], _ :: _, _ :: _, _, _ => rfl
  | a :: x, b :: y, c :: z, h1, h2 => by
    simp only [Op.bytesLess, Bool.or_eq_true, decide_eq_true_eq, Bool.and_eq_true, beq_iff_eq] at h1 h2 ⊢
    rcases h1 with h1 | ⟨rfl, h1⟩
    · rcases h2 with h2 | ⟨rfl, _⟩
      · exact .inl (UInt8.lt_trans h1 h2)
      · exact .inl h1
    · rcases h2 with h2 | ⟨rfl, h2⟩
      · exact .inl h2
      · exact .inr ⟨rfl, bl_trans h1 h2⟩
theorem cmpS_zero {s t : ByteArray} : cmpS s t = 0 ↔ s.toList = t.toList := by
  unfold cmpS
  constructor
  · intro h
    split at h
    · cases h
    · split at h
      · next h1 => exact beq_iff_eq.1 h1
      · cases h
  · intro h
    rw [if_neg (by rw [h, bl_irr]; simp), if_pos (by rw [h]; simp)]
theorem cmpS_neg (s t : ByteArray) : cmpS t s = - cmpS s t := by
  by_cases e : s.toList = t.toList
  · rw [cmpS_zero.2 e, cmpS_zero.2 e.symm]; rfl
  · unfold cmpS
    rw [if_neg (c := (s.toList == t.toList) = true) (by simpa using e), if_neg (c := (t.toList == s.toList) = true) (by simpa using fun h => e h.symm)]
    cases h1 : Op.bytesLess s.toList t.toList with
    | true =>
      cases h2 : Op.bytesLess t.toList s.toList with
      | true => have := bl_trans h1 h2; rw [bl_irr] at this; cases this
      | false => rfl
    | false => rw [bl_tot h1 e]; rfl

/-- How three comparisons go together: of the first with the second, the second with the third, the first with the third. -/
def Tri (i j k : Int) : Prop := (i ≤ 0 → j ≤ 0 → k ≤ 0) ∧ (i < 0 → j ≤ 0 → k < 0) ∧ (i ≤ 0 → j < 0 → k < 0) ∧ (i = 0 → j = 0 → k = 0)
def lexI (i j : Int) : Int := if i ≠ 0 then i else j
theorem lexI_tri {i1 i2 i3 r1 r2 r3 : Int} (h : Tri i1 i2 i3) (hr : i1 = 0 → i2 = 0 → Tri r1 r2 r3) : Tri (lexI i1 r1) (lexI i2 r2) (lexI i3 r3) := by
  unfold Tri lexI at *
  obtain ⟨a1, a2, a3, a4⟩ := h
  by_cases e1 : i1 = 0
  · by_cases e2 : i2 = 0
    · have e3 := a4 e1 e2
      rw [e1, e2, e3]
      simpa using hr e1 e2
    · rw [if_neg (by simpa using e1), if_pos e2]
      refine ⟨fun b c => ?_, fun b c => ?_, fun b c => ?_, fun b c => absurd c e2⟩ <;> (have := a3 (by omega) (by omega); rw [if_pos (by omega)]; omega)
  · rw [if_pos e1]
    by_cases e2 : i2 = 0
    · rw [if_neg (by simpa using e2)]
      refine ⟨fun b c => ?_, fun b c => ?_, fun b c => ?_, fun b c => absurd b e1⟩ <;> (have := a2 (by omega) (by omega); rw [if_pos (by omega)]; omega)
    · rw [if_pos e2]
      refine ⟨fun b c => ?_, fun b c => ?_, fun b c => ?_, fun b c => absurd b e1⟩ <;> (have := a2 (by omega) (by omega); rw [if_pos (by omega)]; omega)
theorem cmpI_tri (a b c : Int) : Tri (cmpI a b) (cmpI b c) (cmpI a c) := by
  unfold Tri cmpI
  repeat' split
  all_goals omega
theorem cmpI_neg (a b : Int) : cmpI b a = - cmpI a b := by unfold cmpI; repeat' split
                                                           all_goals omega
theorem cmpS_tri (s t u : ByteArray) : Tri (cmpS s t) (cmpS t u) (cmpS s u) := by
  have key : ∀ s t : ByteArray, (cmpS s t < 0 ↔ Op.bytesLess s.toList t.toList = true) := by
    intro s t
    unfold cmpS
    constructor
    · intro h
      split at h
      · assumption
      · split at h <;> omega
    · intro h; rw [if_pos h]; decide
  have lt : ∀ {s t : ByteArray}, cmpS s t ≤ 0 → cmpS s t < 0 ∨ s.toList = t.toList := by
    intro s t h
    by_cases e : cmpS s t = 0
    · exact .inr (cmpS_zero.1 e)
    · exact .inl (by omega)
  have cr : ∀ {s t u : ByteArray}, s.toList = t.toList → cmpS s u = cmpS t u := fun h => by unfold cmpS; rw [h]
  have cl : ∀ {s t u : ByteArray}, t.toList = u.toList → cmpS s t = cmpS s u := fun h => by unfold cmpS; rw [h]
  have tr : cmpS s t < 0 → cmpS t u < 0 → cmpS s u < 0 := fun a b => (key _ _).2 (bl_trans ((key _ _).1 a) ((key _ _).1 b))
  refine ⟨fun a b => ?_, fun a b => ?_, fun a b => ?_, fun a b => ?_⟩
  · rcases lt a with a | a
    · rcases lt b with b | b
      · have := tr a b; omega
      · rw [← cl b]; omega
    · rw [cr a]; exact b
  · rcases lt b with b | b
    · exact tr a b
    · rw [← cl b]; exact a
  · rcases lt a with a | a
    · exact tr a b
    · rw [cr a]; exact b
  · rw [cr (cmpS_zero.1 a)]; exact b
theorem cmpT_lex (k k' : Int) (s s' : ByteArray) (n n' : Int) (xs ys : List Tm) :
    cmpT (.mk k s n xs) (.mk k' s' n' ys) = lexI (cmpI k k') (lexI (cmpI n n') (lexI (cmpS s s') (lexI (cmpI xs.length ys.length) (cmpL xs ys)))) := by
  rw [cmpT]; unfold lexI; rfl
theorem cmpL_lex (x y : Tm) (r q : List Tm) : cmpL (x :: r) (y :: q) = lexI (cmpT x y) (cmpL r q) := by rw [cmpL]; unfold lexI; rfl
mutual
theorem cmpT_tri : ∀ a b c : Tm, Tri (cmpT a b) (cmpT b c) (cmpT a c)
  | .mk k s n xs, .mk k' s' n' ys, .mk k'' s'' n'' zs => by
    rw [cmpT_lex, cmpT_lex, cmpT_lex]
    refine lexI_tri (cmpI_tri _ _ _) fun _ _ => lexI_tri (cmpI_tri _ _ _) fun _ _ => lexI_tri (cmpS_tri _ _ _) fun _ _ => lexI_tri (cmpI_tri _ _ _) fun h1 h2 => ?_
    exact cmpL_tri xs ys zs (by have := cmpI_zero.1 h1; omega) (by have := cmpI_zero.1 h2; omega)
theorem cmpL_tri : ∀ xs ys zs : List Tm, xs.length = ys.length → ys.length = zs.length → Tri (cmpL xs ys) (cmpL ys zs) (cmpL xs zs)
  | [], [], [], _, _ => by rw [cmpL]; exact ⟨fun _ _ => by omega, fun _ _ => by omega, fun _ _ => by omega, fun _ _ => rfl⟩
  | [], _ :: _, _, h, _ => by simp at h
  | _ :: _, [], _, h, _ => by simp at h
  | _, _ :: _, [], _, h => by simp at h
  | _, [], _ :: _, _, h => by simp at h
  | x :: r, y :: q, z :: p, h1, h2 => by
    rw [cmpL_lex, cmpL_lex, cmpL_lex]
    exact lexI_tri (cmpT_tri x y z) fun _ _ => cmpL_tri r q p (by simpa using h1) (by simpa using h2)
end
theorem lexI_neg {i j i' j' : Int} (h : i' = -i) (hr : i = 0 → j' = -j) : lexI i' j' = - lexI i j := by
  unfold lexI
  by_cases e : i = 0
  · rw [if_neg (by omega), if_neg (by simpa using e), hr e]
  · rw [if_pos (by omega), if_pos e, h]
mutual
theorem cmpT_neg : ∀ a b : Tm, cmpT b a = - cmpT a b
  | .mk k s n xs, .mk k' s' n' ys => by
    rw [cmpT_lex, cmpT_lex]
    refine lexI_neg (cmpI_neg _ _) fun _ => lexI_neg (cmpI_neg _ _) fun _ => lexI_neg (cmpS_neg _ _) fun _ => lexI_neg (cmpI_neg _ _) fun h => ?_
    exact cmpL_neg xs ys (by have := cmpI_zero.1 h; omega)
theorem cmpL_neg : ∀ xs ys : List Tm, xs.length = ys.length → cmpL ys xs = - cmpL xs ys
  | [], [], _ => by rw [cmpL]; rfl
  | [], _ :: _, h => by simp at h
  | _ :: _, [], h => by simp at h
  | x :: r, y :: q, h => by
    rw [cmpL_lex, cmpL_lex]
    exact lexI_neg (cmpT_neg x y) fun _ => cmpL_neg r q (by simpa using h)
end
theorem lexI_zero {i j : Int} : lexI i j = 0 ↔ i = 0 ∧ j = 0 := by
  unfold lexI
  by_cases e : i = 0
  · rw [if_neg (by simpa using e)]; exact ⟨fun h => ⟨e, h⟩, fun h => h.2⟩
  · rw [if_pos e]; exact ⟨fun h => absurd h e, fun h => h.1⟩
mutual
theorem cmpT_zero : ∀ a b : Tm, cmpT a b = 0 → a = b
  | .mk k s n xs, .mk k' s' n' ys => fun h => by
    rw [cmpT_lex, lexI_zero, lexI_zero, lexI_zero, lexI_zero] at h
    obtain ⟨h1, h2, h3, h4, h5⟩ := h
    have e1 := cmpI_zero.1 h1
    have e2 := cmpI_zero.1 h2
    have e3 : s = s' := by
      exact (Lib.bytes_beq_iff _ _).1 (beq_iff_eq.2 (cmpS_zero.1 h3))
    have e5 := cmpL_zero xs ys (by have := cmpI_zero.1 h4; omega) h5
    rw [e1, e2, e3, e5]
theorem cmpL_zero : ∀ xs ys : List Tm, xs.length = ys.length → cmpL xs ys = 0 → xs = ys
  | [], [], _, _ => rfl
  | [], _ :: _, h, _ => by simp at h
  | _ :: _, [], h, _ => by simp at h
  | x :: r, y :: q, h, h0 => by
    rw [cmpL_lex, lexI_zero] at h0
    rw [cmpT_zero x y h0.1, cmpL_zero r q (by simpa using h) h0.2]
end
theorem cmpT_self (a : Tm) : cmpT a a = 0 := by have := cmpT_neg a a; omega
theorem cmpT_iff {a b : Tm} : cmpT a b = 0 ↔ a = b := ⟨cmpT_zero a b, fun h => by rw [h]; exact cmpT_self b⟩
theorem cmpT_le {a b c : Tm} (h1 : cmpT a b ≤ 0) (h2 : cmpT b c ≤ 0) : cmpT a c ≤ 0 := (cmpT_tri a b c).1 h1 h2
end Go.Proofs.Ytcecbdglepneaaa
