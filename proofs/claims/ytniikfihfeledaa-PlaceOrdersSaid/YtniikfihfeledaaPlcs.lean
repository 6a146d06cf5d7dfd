/-
  Rows of places: a slice of slices of whole numbers that the call itself has made; and all places of a term, as data.
-/
import Derived.Test.YtniikfihfeledaaNums
import Derived.Test.YtniikfihfeledaaAtTm
import Derived.Laws.OwnMore
namespace Go.Proofs.Ytniikfihfeledaa
open Go.RowKit

/-- A slice of int's in a block of its own. -/
def OwnInts (w : World) (v : Value) (p : List Int) : Prop := w.ownsRow 0 3 1 v p.length (p.map (Value.int .i64)) ∧ (∀ n ∈ p, -9223372036854775808 ≤ n ∧ n ≤ 9223372036854775807) ∧ v.ownBlock ≠ none
theorem OwnInts.nums {w : World} {v : Value} {p : List Int} (h : OwnInts w v p) : Nums w v p := by
  obtain ⟨⟨_, h⟩, hb, _⟩ := h
  rcases h with ⟨rfl, h0⟩ | ⟨g, cap, cur, rfl, _, hg, hk, hm, hs, ht⟩
  · have : p = [] := List.eq_nil_of_length_eq_zero h0
    subst this
    exact ⟨none, 0, rfl, Nat.le_refl _, by omega, hb, .inl rfl⟩
  · refine ⟨_, cap, rfl, hk, by unfold maxLen at hm; omega, hb, .inr ⟨g, 0, rfl, ?_, fun j n hj => ?_⟩⟩
    · rcases Nat.lt_or_ge g w.heap.size with h | h
      · exact h
      · rw [Array.getElem?_eq_none h] at hg; cases hg
    · have hjl : j < p.length := (List.getElem?_eq_some_iff.1 hj).1
      have h1 : (p.map (Value.int .i64))[j]? = some (.int .i64 n) := by rw [List.getElem?_map, hj]; rfl
      rw [← ht, List.getElem?_take, if_pos (by omega)] at h1
      rw [Nat.zero_add, cell_of_row w g j cur _ (0, 0) hg]
      simpa using h1
/-- It stands behind growth that turns a row of another type alone. -/
theorem OwnInts.kept {w w' : World} {v u : Value} {p : List Int} (h : OwnInts w v p) {base size n : Nat} {e : TypeId} {xs : List Value} (he : e ≠ 3) (hu : w.ownsRow base e size u n xs) (hg : w.grownBy w' u.ownBlock) : OwnInts w' v p := by
  refine ⟨h.1.kept hg ?_, h.2.1, h.2.2⟩
  by_cases hv : v.ownBlock = none
  · exact .inl hv
  · refine .inr fun hvu => ?_
    rcases h.1.2 with ⟨rfl, _⟩ | ⟨g, cap, cur, rfl, _, hgb, _⟩
    · exact hv rfl
    · rcases hu.2 with ⟨rfl, _⟩ | ⟨g', cap', cur', rfl, _, hgb', _⟩
      · simp [Value.ownBlock] at hvu
      · obtain rfl : g = g' := by simpa [Value.ownBlock] using hvu
        rw [hgb] at hgb'
        injection hgb' with h1
        injection h1 with _ h1 _
        exact he h1.symm
theorem OwnInts.below {w w' : World} {v : Value} {p : List Int} (h : OwnInts w v p) (hb : Below w.heap.size w w') : OwnInts w' v p := by
  refine ⟨⟨h.1.1, ?_⟩, h.2⟩
  rcases h.1.2 with h | ⟨g, cap, cur, hv, hbg, hg, hr⟩
  · exact .inl h
  · exact .inr ⟨g, cap, cur, hv, hbg, by rw [hb.block g (Array.getElem?_eq_some_iff.1 hg).1]; exact hg, hr⟩
/-- A row of places that the call itself has made. -/
def OwnPl (w : World) (base : Nat) (v : Value) (pss : List (List Int)) : Prop :=
  ∃ vs : List Value, vs.length = pss.length ∧ (∀ (j : Nat) x p, vs[j]? = some x → pss[j]? = some p → OwnInts w x p) ∧ w.ownsRow base 25 1 v pss.length vs
theorem OwnPl.kept {w w' : World} {v u : Value} {pss : List (List Int)} {base size n b2 : Nat} {xs : List Value} (h : OwnPl w b2 v pss) (hu : w.ownsRow base 25 size u n xs) (hg : w.grownBy w' u.ownBlock) (hne : v.ownBlock ≠ u.ownBlock) : OwnPl w' b2 v pss := by
  obtain ⟨vs, hl, hall, hr⟩ := h
  exact ⟨vs, hl, fun j x p h1 h2 => (hall j x p h1 h2).kept (by decide) hu hg, hr.kept hg (.inr hne)⟩
theorem own_form {w : World} {base : Nat} {e : TypeId} {size n : Nat} {v : Value} {xs : List Value} (h : w.ownsRow base e size v n xs) (hn : 0 < n) : ∃ g cap, v = .slice (some ⟨g, 0, none⟩) n cap ∧ g < w.heap.size := by
  rcases h.2 with ⟨_, h0⟩ | ⟨g, cap, cur, rfl, _, hg, _⟩
  · omega
  · refine ⟨g, cap, rfl, ?_⟩
    rcases Nat.lt_or_ge g w.heap.size with h | h
    · exact h
    · rw [Array.getElem?_eq_none h] at hg; cases hg
/-- One place more. -/
theorem ownPl_snoc {w w' : World} {v v' x : Value} {pss : List (List Int)} {p : List Int} {base : Nat} {vs : List Value} (hl : vs.length = pss.length) (hall : ∀ (j : Nat) x p, vs[j]? = some x → pss[j]? = some p → OwnInts w x p)
    (hr : w.ownsRow base 25 1 v pss.length vs) (hx : OwnInts w x p) (hg : w.grownBy w' v.ownBlock) (hr' : w'.ownsRow base 25 1 v' (pss.length + 1) (vs ++ [x])) : OwnPl w' base v' (pss ++ [p]) := by
  refine ⟨vs ++ [x], by simp [hl], fun j y q h1 h2 => ?_, by rw [List.length_append]; exact hr'⟩
  rcases Nat.lt_or_ge j vs.length with hj | hj
  · rw [List.getElem?_append_left hj] at h1
    rw [List.getElem?_append_left (by omega)] at h2
    exact (hall j y q h1 h2).kept (by decide) hr hg
  · rw [List.getElem?_append_right hj] at h1
    rw [List.getElem?_append_right (by omega)] at h2
    have : j - vs.length = 0 := by
      rcases Nat.eq_zero_or_pos (j - vs.length) with h | h
      · exact h
      · rw [List.getElem?_eq_none (by simp; omega)] at h1; cases h1
    rw [this] at h1
    rw [← hl, this] at h2
    simp at h1 h2
    subst h1; subst h2
    exact hx.kept (by decide) hr hg
theorem OwnPl.below {w w' : World} {base : Nat} {v : Value} {pss : List (List Int)} (h : OwnPl w base v pss) (hb : Below w.heap.size w w') : OwnPl w' base v pss := by
  obtain ⟨vs, hl, hall, hr⟩ := h
  refine ⟨vs, hl, fun j x p h1 h2 => (hall j x p h1 h2).below hb, ⟨hr.1, ?_⟩⟩
  rcases hr.2 with h | ⟨g, cap, cur, hv, hbg, hg, hr⟩
  · exact .inl h
  · exact .inr ⟨g, cap, cur, hv, hbg, by rw [hb.block g (Array.getElem?_eq_some_iff.1 hg).1]; exact hg, hr⟩

mutual
/-- All places of a term, in the order of its parts. -/
def placesT : Tm → List (List Int)
  | .mk _ _ _ xs => [] :: placesL 0 xs
def placesL : Nat → List Tm → List (List Int)
  | _, [] => []
  | i, t :: r => (placesT t).map ((i : Int) :: ·) ++ placesL (i + 1) r
end
mutual
theorem placesT_length : ∀ t : Tm, (placesT t).length = t.parts
  | .mk k s n xs => by rw [placesT, List.length_cons, placesL_length 0 xs, Tm.parts]
theorem placesL_length : ∀ (i : Nat) (l : List Tm), (placesL i l).length = partsL l
  | _, [] => by rw [placesL, partsL]; rfl
  | i, t :: r => by rw [placesL, List.length_append, List.length_map, placesT_length t, placesL_length (i + 1) r, partsL]
end
theorem placesL_append (a b : List Tm) (i : Nat) : placesL i (a ++ b) = placesL i a ++ placesL (i + a.length) b := by
  induction a generalizing i with
  | nil => simp [placesL]
  | cons t r ih => rw [List.cons_append, placesL, placesL, ih, List.append_assoc, List.length_cons, show i + (r.length + 1) = i + 1 + r.length from by omega]
theorem placesL_take {l : List Tm} {k : Nat} (h : k < l.length) : placesL 0 (l.take (k + 1)) = placesL 0 (l.take k) ++ (placesT l[k]).map ((k : Int) :: ·) := by
  rw [List.take_succ_eq_append_getElem h, placesL_append, placesL, placesL, List.append_nil, List.length_take, Nat.min_eq_left (Nat.le_of_lt h), Nat.zero_add]
theorem placesT_eq (t : Tm) : placesT t = [] :: placesL 0 t.args := by cases t; rw [placesT]; rfl
mutual
theorem placesT_len : ∀ (t : Tm) (p : List Int), p ∈ placesT t → p.length < t.parts
  | .mk k s n xs, p, h => by
    rw [placesT] at h
    rw [Tm.parts]
    rcases List.mem_cons.1 h with rfl | h
    · simp
    · have := placesL_len 0 xs p h; omega
theorem placesL_len : ∀ (i : Nat) (l : List Tm) (p : List Int), p ∈ placesL i l → p.length ≤ partsL l
  | _, [], p, h => by rw [placesL] at h; cases h
  | i, t :: r, p, h => by
    rw [placesL] at h
    rw [partsL]
    rcases List.mem_append.1 h with h | h
    · obtain ⟨q, hq, rfl⟩ := List.mem_map.1 h
      have := placesT_len t q hq
      simp; omega
    · have := placesL_len (i + 1) r p h; omega
end
/-- Those of functions. -/
def innerT (t : Tm) : List (List Int) := (placesT t).filter fun p => ((atT t p).getD zeroT).kind == 5
end Go.Proofs.Ytniikfihfeledaa
