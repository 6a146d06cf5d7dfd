/-
  A term with another one at a place, as data. No function of the program.
-/
import Derived.Test.YtniikfihfeledaaSets
namespace Go.Proofs.Ytniikfihfeledaa
open Go.RowKit

/-- A term with another one at a place, if there is such a place. -/
def putO : Tm → List Int → Tm → Option Tm
  | _, [], x => some x
  | t, i :: r, x => if h : 0 ≤ i ∧ i < t.args.length then (putO (t.args[i.toNat]'(by omega)) r x).map fun a => .mk t.kind t.name t.n (t.args.set i.toNat a) else none
theorem putO_nil (t x : Tm) : putO t [] x = some x := by rw [putO]
theorem putO_in {t x : Tm} {j : Nat} {r : List Int} (h : j < t.args.length) : putO t ((j : Int) :: r) x = (putO t.args[j] r x).map fun a => .mk t.kind t.name t.n (t.args.set j a) := by
  rw [putO, dif_pos (by omega)]; simp
theorem putO_out {t x : Tm} {i : Int} {r : List Int} (h : ¬ (0 ≤ i ∧ i < t.args.length)) : putO t (i :: r) x = none := by rw [putO, dif_neg h]
theorem putO_some {t x u : Tm} {i : Int} {r : List Int} (h : putO t (i :: r) x = some u) : ∃ (j : Nat) (hj : j < t.args.length) (a : Tm), i = (j : Int) ∧ putO t.args[j] r x = some a ∧ u = .mk t.kind t.name t.n (t.args.set j a) := by
  by_cases hi : 0 ≤ i ∧ i < t.args.length
  · obtain ⟨j, rfl⟩ : ∃ j : Nat, i = (j : Int) := ⟨i.toNat, by omega⟩
    have hj : j < t.args.length := by omega
    rw [putO_in hj] at h
    obtain ⟨a, ha, rfl⟩ := Option.map_eq_some_iff.1 h
    exact ⟨j, hj, a, rfl, ha, rfl⟩
  · rw [putO_out hi] at h; cases h
theorem putO_isSome (x : Tm) : ∀ (p : List Int) (t : Tm), (putO t p x).isSome = (atT t p).isSome
  | [], t => by rw [putO_nil, atT_nil]; rfl
  | i :: r, t => by
    by_cases hi : 0 ≤ i ∧ i < t.args.length
    · obtain ⟨j, rfl⟩ : ∃ j : Nat, i = (j : Int) := ⟨i.toNat, by omega⟩
      have hj : j < t.args.length := by omega
      rw [putO_in hj, atT_in hj, Option.isSome_map, putO_isSome x r]
    · rw [putO_out hi, atT_out hi]
theorem args_mk (k : Int) (s : ByteArray) (n : Int) (l : List Tm) : (Tm.mk k s n l).args = l := rfl
theorem atT_set {k : Int} {s : ByteArray} {n : Int} {l : List Tm} {j : Nat} {a : Tm} {r : List Int} (hj : j < l.length) : atT (.mk k s n (l.set j a)) ((j : Int) :: r) = atT a r := by
  rw [atT_in (t := .mk k s n (l.set j a)) (j := j) (by rw [args_mk, List.length_set]; exact hj)]
  congr 1
  exact List.getElem_set_self (by rw [List.length_set]; exact hj)
theorem putO_set {k : Int} {s : ByteArray} {n : Int} {l : List Tm} {j : Nat} {a x : Tm} {r : List Int} (hj : j < l.length) : putO (.mk k s n (l.set j a)) ((j : Int) :: r) x = (putO a r x).map fun b => .mk k s n (l.set j b) := by
  rw [putO_in (t := .mk k s n (l.set j a)) (j := j) (by rw [args_mk, List.length_set]; exact hj)]
  have e : (Tm.mk k s n (l.set j a)).args[j]'(by rw [args_mk, List.length_set]; exact hj) = a := by
    exact List.getElem_set_self (by rw [List.length_set]; exact hj)
  rw [e]
  congr 1
  funext b
  show Tm.mk k s n ((l.set j a).set j b) = _
  rw [List.set_set]
theorem putO_at {x : Tm} : ∀ (p : List Int) {t u : Tm}, putO t p x = some u → atT u p = some x
  | [], t, u, h => by rw [putO_nil] at h; cases h; exact atT_nil _
  | i :: r, t, u, h => by
    obtain ⟨j, hj, a, rfl, ha, rfl⟩ := putO_some h
    rw [atT_set hj]
    exact putO_at r ha
theorem putO_back {x o : Tm} : ∀ (p : List Int) {t u : Tm}, putO t p x = some u → atT t p = some o → putO u p o = some t
  | [], t, u, h, k => by rw [putO_nil] at h ⊢; rw [atT_nil] at k; exact k.symm
  | i :: r, t, u, h, k => by
    obtain ⟨j, hj, a, rfl, ha, rfl⟩ := putO_some h
    rw [atT_in hj] at k
    rw [putO_set hj, putO_back r ha k, Option.map_some, List.set_getElem_self]
    exact congrArg some (Tm.eta t).symm
theorem putO_apart {x y : Tm} : ∀ (p q : List Int) {t a b : Tm}, ¬ p <+: q → ¬ q <+: p → putO t p x = some a → putO t q y = some b → ∃ c, putO a q y = some c ∧ putO b p x = some c ∧ atT c p = some x ∧ atT c q = some y
  | [], q, _, _, _, h, _, _, _ => absurd (List.nil_prefix) h
  | _ :: _, [], _, _, _, _, h, _, _ => absurd (List.nil_prefix) h
  | i :: r, k :: s, t, a, b, h1, h2, ha, hb => by
    obtain ⟨j, hj, a', rfl, ha', rfl⟩ := putO_some ha
    obtain ⟨m, hm, b', rfl, hb', rfl⟩ := putO_some hb
    by_cases e : j = m
    · subst e
      have g1 : ¬ r <+: s := fun g => h1 (List.cons_prefix_cons.2 ⟨rfl, g⟩)
      have g2 : ¬ s <+: r := fun g => h2 (List.cons_prefix_cons.2 ⟨rfl, g⟩)
      obtain ⟨c, c1, c2, c3, c4⟩ := putO_apart r s g1 g2 ha' hb'
      refine ⟨.mk t.kind t.name t.n (t.args.set j c), ?_, ?_, ?_, ?_⟩
      · rw [putO_set hj, c1, Option.map_some]
      · rw [putO_set hj, c2, Option.map_some]
      · rw [atT_set hj]; exact c3
      · rw [atT_set hj]; exact c4
    · have hm' : m < (t.args.set j a').length := by rw [List.length_set]; exact hm
      have hj' : j < (t.args.set m b').length := by rw [List.length_set]; exact hj
      have e1 : putO (.mk t.kind t.name t.n (t.args.set j a')) ((m : Int) :: s) y = some (.mk t.kind t.name t.n ((t.args.set j a').set m b')) := by
        rw [putO_in (t := .mk t.kind t.name t.n (t.args.set j a')) (j := m) hm']
        have e2 : (Tm.mk t.kind t.name t.n (t.args.set j a')).args[m]'hm' = t.args[m] := by
          exact List.getElem_set_ne e hm'
        rw [e2, hb', Option.map_some]
        rfl
      have e3 : putO (.mk t.kind t.name t.n (t.args.set m b')) ((j : Int) :: r) x = some (.mk t.kind t.name t.n ((t.args.set m b').set j a')) := by
        rw [putO_in (t := .mk t.kind t.name t.n (t.args.set m b')) (j := j) hj']
        have e2 : (Tm.mk t.kind t.name t.n (t.args.set m b')).args[j]'hj' = t.args[j] := by
          exact List.getElem_set_ne (fun h => e h.symm) hj'
        rw [e2, ha', Option.map_some]
        rfl
      refine ⟨_, e1, by rw [e3, List.set_comm _ _ (fun h => e h.symm)], ?_, ?_⟩
      · rw [List.set_comm _ _ e, atT_set hj']; exact putO_at r ha'
      · rw [atT_set hm']; exact putO_at s hb'
end Go.Proofs.Ytniikfihfeledaa
