/-
  Places in order: the order of places is one; all places of a term stand in it, each once; and what stands at them. No function of the program.
-/
import Derived.Test.YtniikfihfeledaaPlcs
import Derived.Test.YtniikfihfeledaaOrdPl
import Derived.Test.YtniikfihfeledaaSets
namespace Go.Proofs.Ytniikfihfeledaa
open Go.RowKit

theorem cmpP_self : ∀ a : List Int, cmpP a a = 0
  | [] => rfl
  | x :: r => by rw [cmpP, if_neg (by omega), if_neg (by omega), cmpP_self r]
theorem cmpP_neg : ∀ a b : List Int, cmpP b a = - cmpP a b
  | [], [] => rfl
  | [], _ :: _ => rfl
  | _ :: _, [] => rfl
  | x :: r, y :: s => by
    rw [cmpP, cmpP]
    rcases (show x < y ∨ y < x ∨ x = y from by omega) with h | h | h
    · rw [if_neg (by omega), if_pos h, if_pos h]; rfl
    · rw [if_pos h, if_neg (by omega), if_pos h]
    · subst h
      rw [if_neg (by omega), if_neg (by omega), if_neg (by omega), if_neg (by omega), cmpP_neg r s]
theorem cmpP_zero : ∀ {a b : List Int}, cmpP a b = 0 → a = b
  | [], [], _ => rfl
  | [], _ :: _, h => by rw [cmpP] at h; omega
  | _ :: _, [], h => by rw [cmpP] at h; omega
  | x :: r, y :: s, h => by
    rw [cmpP] at h
    split at h
    · omega
    · split at h
      · omega
      · rw [cmpP_zero h, show x = y from by omega]
theorem cmpP_bd : ∀ a b : List Int, -1 ≤ cmpP a b ∧ cmpP a b ≤ 1
  | [], [] => by rw [cmpP]; omega
  | [], _ :: _ => by rw [cmpP]; omega
  | _ :: _, [] => by rw [cmpP]; omega
  | x :: r, y :: s => by
    rw [cmpP]
    split
    · omega
    · split
      · omega
      · exact cmpP_bd r s
theorem cmpP_trans : ∀ {a b c : List Int}, cmpP a b < 0 → cmpP b c < 0 → cmpP a c < 0
  | [], [], _, h, _ => by rw [cmpP] at h; omega
  | [], _ :: _, [], _, h => by rw [cmpP] at h; omega
  | [], _ :: _, _ :: _, _, _ => by rw [cmpP]; omega
  | _ :: _, [], _, h, _ => by rw [cmpP] at h; omega
  | _ :: _, _ :: _, [], _, h => by rw [cmpP] at h; omega
  | x :: r, y :: s, z :: u, h, k => by
    rw [cmpP] at h k ⊢
    split at h
    · split at k
      · rw [if_pos (by omega)]; omega
      · split at k
        · omega
        · rw [if_pos (by omega)]; omega
    · split at h
      · omega
      · split at k
        · rw [if_pos (by omega)]; omega
        · split at k
          · omega
          · rw [if_neg (by omega), if_neg (by omega)]
            exact cmpP_trans h k
theorem cmpP_app : ∀ (p a b : List Int), cmpP (p ++ a) (p ++ b) = cmpP a b
  | [], _, _ => rfl
  | x :: r, a, b => by rw [List.cons_append, List.cons_append, cmpP, if_neg (by omega), if_neg (by omega), cmpP_app r a b]

/-! ### All places, and what stands there -/
mutual
/-- All places of a term below a place, each with what stands there. -/
def spT : List Int → Tm → List (List Int × Tm)
  | p, .mk k s n xs => (p, .mk k s n xs) :: spL p 0 xs
def spL : List Int → Nat → List Tm → List (List Int × Tm)
  | _, _, [] => []
  | p, i, t :: r => spT (p ++ [(i : Int)]) t ++ spL p (i + 1) r
end
theorem spT_eq (p : List Int) (t : Tm) : spT p t = (p, t) :: spL p 0 t.args := by cases t; rw [spT]; rfl
mutual
theorem spT_fst : ∀ (p : List Int) (t : Tm), (spT p t).map Prod.fst = (placesT t).map (p ++ ·)
  | p, .mk k s n xs => by
    rw [spT, placesT, List.map_cons, List.map_cons, List.append_nil, spL_fst p 0 xs]
theorem spL_fst : ∀ (p : List Int) (i : Nat) (l : List Tm), (spL p i l).map Prod.fst = (placesL i l).map (p ++ ·)
  | _, _, [] => by rw [spL, placesL]; rfl
  | p, i, t :: r => by
    rw [spL, placesL, List.map_append, List.map_append, spT_fst (p ++ [(i : Int)]) t, spL_fst p (i + 1) r, List.map_map]
    congr 1
    apply List.map_congr_left
    intro q _
    simp
end
mutual
theorem spT_at : ∀ (p : List Int) (t : Tm) (x : List Int × Tm), x ∈ spT p t → ∃ q, x.1 = p ++ q ∧ atT t q = some x.2
  | p, .mk k s n xs, x, h => by
    rw [spT] at h
    rcases List.mem_cons.1 h with rfl | h
    · exact ⟨[], by simp, by rw [atT]⟩
    · obtain ⟨j, q, _, hj, h1, h2⟩ := spL_at p 0 xs x h
      refine ⟨((0 + j : Nat) : Int) :: q, h1, ?_⟩
      rw [Nat.zero_add]
      rw [atT_in (t := .mk k s n xs) (j := j) (by exact hj)]
      exact h2
theorem spL_at : ∀ (p : List Int) (i : Nat) (l : List Tm) (x : List Int × Tm), x ∈ spL p i l → ∃ (j : Nat) (q : List Int) (_ : True) (hj : j < l.length), x.1 = p ++ ((i + j : Nat) : Int) :: q ∧ atT l[j] q = some x.2
  | _, _, [], x, h => by rw [spL] at h; cases h
  | p, i, t :: r, x, h => by
    rw [spL] at h
    rcases List.mem_append.1 h with h | h
    · obtain ⟨q, h1, h2⟩ := spT_at (p ++ [(i : Int)]) t x h
      exact ⟨0, q, trivial, by simp, by rw [h1]; simp, h2⟩
    · obtain ⟨j, q, _, hj, h1, h2⟩ := spL_at p (i + 1) r x h
      exact ⟨j + 1, q, trivial, by simpa using hj, by rw [h1, show i + (j + 1) = i + 1 + j from by omega], by simpa using h2⟩
end
theorem spT_length (p : List Int) (t : Tm) : (spT p t).length = t.parts := by
  have := congrArg List.length (spT_fst p t)
  rw [List.length_map, List.length_map, placesT_length] at this
  exact this
theorem placesL_mem : ∀ (i : Nat) (l : List Tm) (q : List Int), q ∈ placesL i l → ∃ (j : Nat) (s : List Int), i ≤ j ∧ q = (j : Int) :: s
  | _, [], q, h => by rw [placesL] at h; cases h
  | i, t :: r, q, h => by
    rw [placesL] at h
    rcases List.mem_append.1 h with h | h
    · obtain ⟨s, _, rfl⟩ := List.mem_map.1 h
      exact ⟨i, s, Nat.le_refl _, rfl⟩
    · obtain ⟨j, s, hj, rfl⟩ := placesL_mem (i + 1) r q h
      exact ⟨j, s, by omega, rfl⟩
def LtP (a b : List Int) : Prop := cmpP a b < 0
mutual
theorem placesT_sorted : ∀ t : Tm, (placesT t).Pairwise LtP
  | .mk k s n xs => by
    rw [placesT, List.pairwise_cons]
    refine ⟨fun q hq => ?_, placesL_sorted 0 xs⟩
    obtain ⟨j, s, _, rfl⟩ := placesL_mem 0 xs q hq
    unfold LtP; rw [cmpP]; omega
theorem placesL_sorted : ∀ (i : Nat) (l : List Tm), (placesL i l).Pairwise LtP
  | _, [] => by rw [placesL]; exact List.Pairwise.nil
  | i, t :: r => by
    rw [placesL, List.pairwise_append]
    refine ⟨?_, placesL_sorted (i + 1) r, fun a ha b hb => ?_⟩
    · rw [List.pairwise_map]
      refine (placesT_sorted t).imp fun {a b} h => ?_
      unfold LtP at h ⊢
      have := cmpP_app [(i : Int)] a b
      rw [List.singleton_append, List.singleton_append] at this
      rw [this]; exact h
    · obtain ⟨s, _, rfl⟩ := List.mem_map.1 ha
      obtain ⟨j, u, hj, rfl⟩ := placesL_mem (i + 1) r b hb
      unfold LtP; rw [cmpP, if_pos (by omega)]; omega
end
theorem spT_sorted (t : Tm) : (spT [] t).Pairwise (fun a b => LtP a.1 b.1) := by
  have h1 : ((spT [] t).map Prod.fst).Pairwise LtP := by
    rw [spT_fst]
    simpa using placesT_sorted t
  rwa [List.pairwise_map] at h1
theorem spT_fst0 (t : Tm) : (spT [] t).map Prod.fst = placesT t := by rw [spT_fst]; simp
/-- What is the same but for its order, and stands in order, is the list itself. -/
theorem spots_one {t : Tm} {l : List (List Int × Tm)} (hp : l.Perm (spT [] t)) (hs : l.Pairwise (fun a b => cmpP a.1 b.1 ≤ 0)) : l = spT [] t := by
  refine List.Perm.eq_of_pairwise (le := fun a b => cmpP a.1 b.1 ≤ 0) (fun a b ha hb h1 h2 => ?_) hs ((spT_sorted t).imp fun {a b} h => by unfold LtP at h; omega) hp
  have h3 : a.1 = b.1 := cmpP_zero (by have := cmpP_neg a.1 b.1; omega)
  obtain ⟨q, e1, e2⟩ := spT_at [] t a (hp.subset ha)
  obtain ⟨q', e3, e4⟩ := spT_at [] t b hb
  rw [List.nil_append] at e1 e3
  obtain ⟨a1, a2⟩ := a
  obtain ⟨b1, b2⟩ := b
  simp only at h3 e1 e2 e3 e4
  subst h3 e1 e3
  rw [e2] at e4
  cases e4
  rfl
theorem spL_drop {p : List Int} {xs : List Tm} {k : Nat} (h : k < xs.length) : spL p k (xs.drop k) = spT (p ++ [(k : Int)]) xs[k] ++ spL p (k + 1) (xs.drop (k + 1)) := by
  rw [List.drop_eq_getElem_cons h, spL]
theorem spL_end (p : List Int) (k : Nat) : spL p k [] = [] := by rw [spL]
/-- What is still to come of a term's spots: those below the ones that wait. -/
def SpUpto (t : Tm) (L : List (List Int × Tm)) (n : Nat) (rest : List (List Int × Tm)) : Prop := (L.take n ++ (rest ++ (L.drop n).flatMap fun x => spT x.1 x.2)).Perm (spT [] t)
theorem spUpto_start (t : Tm) : SpUpto t [([], t)] 0 [] := by unfold SpUpto; simp
theorem spUpto_open {t : Tm} {L : List (List Int × Tm)} {n : Nat} {x : List Int × Tm} (h : SpUpto t L n []) (hn : L[n]? = some x) : SpUpto t L (n + 1) (spL x.1 0 (x.2.args.drop 0)) := by
  obtain ⟨hl, rfl⟩ := List.getElem?_eq_some_iff.1 hn
  unfold SpUpto at h ⊢
  rw [List.drop_eq_getElem_cons hl, List.flatMap_cons, spT_eq] at h
  rw [List.nil_append, List.cons_append] at h
  rw [List.take_succ_eq_append_getElem hl, List.drop_zero, List.append_assoc, List.singleton_append]
  exact h
theorem spUpto_kid {t : Tm} {L : List (List Int × Tm)} {n : Nat} {p : List Int} {xs : List Tm} {k : Nat} (h : SpUpto t L n (spL p k (xs.drop k))) (hn : n ≤ L.length) (hk : k < xs.length) : SpUpto t (L ++ [(p ++ [(k : Int)], xs[k])]) n (spL p (k + 1) (xs.drop (k + 1))) := by
  unfold SpUpto at h ⊢
  rw [spL_drop hk] at h
  rw [List.take_append_of_le_length hn, List.drop_append_of_le_length hn, List.flatMap_append, List.flatMap_cons, List.flatMap_nil, List.append_nil]
  refine List.Perm.trans (List.Perm.append_left _ ?_) h
  rw [List.append_assoc]
  refine (List.Perm.append_left _ List.perm_append_comm).trans ?_
  rw [← List.append_assoc]
  exact (List.perm_append_comm.append_right _).trans (by rw [List.append_assoc])
theorem spUpto_len {t : Tm} {L : List (List Int × Tm)} {n : Nat} {rest : List (List Int × Tm)} (h : SpUpto t L n rest) (hn : n ≤ L.length) : L.length + rest.length ≤ t.parts := by
  have h1 := h.length_eq
  rw [spT_length, List.length_append, List.length_append, List.length_take, Nat.min_eq_left hn] at h1
  have h2 : (L.drop n).length ≤ ((L.drop n).flatMap fun x => spT x.1 x.2).length := by
    generalize L.drop n = M
    induction M with
    | nil => simp
    | cons x r ih =>
      rw [List.flatMap_cons, List.length_append, List.length_cons, spT_length]
      have := parts_pos x.2; omega
  rw [List.length_drop] at h2
  omega
theorem spUpto_short {t : Tm} {L : List (List Int × Tm)} {n : Nat} {rest : List (List Int × Tm)} (h : SpUpto t L n rest) {k : Nat} {x : List Int × Tm} (hk : L[k]? = some x) (hn : k < n) : x.1.length < t.parts := by
  have h0 : x ∈ L.take n := List.mem_of_getElem? (i := k) (by rw [List.getElem?_take, if_pos hn]; exact hk)
  have h1 : x ∈ spT [] t := h.subset (List.mem_append_left _ h0)
  have h2 : x.1 ∈ (spT [] t).map Prod.fst := List.mem_map.2 ⟨x, h1, rfl⟩
  rw [spT_fst0] at h2
  exact placesT_len t x.1 h2
theorem spUpto_end {t : Tm} {L : List (List Int × Tm)} (h : SpUpto t L L.length []) : L.Perm (spT [] t) := by
  unfold SpUpto at h
  rw [List.take_length, List.drop_length] at h
  simpa using h
end Go.Proofs.Ytniikfihfeledaa
