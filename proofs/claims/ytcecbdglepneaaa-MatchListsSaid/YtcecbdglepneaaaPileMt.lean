/-
  The pile of patterns and terms that are left, in memory: a row of the call's own, two slices each. No function of the program.
-/
import Derived.Test.YtcecbdglepneaaaPStands
namespace Go.Proofs.Ytcecbdglepneaaa
open Go.RowKit Go.Maps

/-- Two cells in the midst of a block. -/
structure Pair2 (w : World) (g o : Nat) (x0 x1 : Value) : Prop where
  c0 : w.cell? ⟨g, o, none⟩ = some x0
  c1 : w.cell? ⟨g, o + 1, none⟩ = some x1
  f0 : w.frozen? ⟨g, o, none⟩ = false
  f1 : w.frozen? ⟨g, o + 1, none⟩ = false
/-- Patterns that are left, and their terms, as slices. -/
structure Rv where
  a1 : Option Addr
  c1 : Nat
  ps : List Tm
  a2 : Option Addr
  c2 : Nat
  ts : List Tm
def Rv.cells (r : Rv) : List Value := [.slice r.a1 r.ps.length r.c1, .slice r.a2 r.ts.length r.c2]
def Rv.lf (r : Rv) : Lf := (r.ps, r.ts)
def Rv.ok (w0 : World) (r : Rv) : Prop := r.ps.length = r.ts.length ∧ Args w0 r.a1 r.c1 r.ps ∧ Args w0 r.a2 r.c2 r.ts
def rowRv (vs : List Rv) : List Value := vs.flatMap Rv.cells
theorem rowRv_length (vs : List Rv) : (rowRv vs).length = vs.length * 2 := by
  unfold rowRv
  induction vs with
  | nil => rfl
  | cons v r ih => rw [List.flatMap_cons, List.length_append, ih, List.length_cons]; simp [Rv.cells]; omega
theorem rowRv_append (a b : List Rv) : rowRv (a ++ b) = rowRv a ++ rowRv b := by unfold rowRv; rw [List.flatMap_append]
theorem rowRv_one (v : Rv) : rowRv [v] = v.cells := by unfold rowRv; simp
/-- The pile, the top first. -/
def pile (vs : List Rv) : List Lf := (vs.map Rv.lf).reverse
theorem pile_nil : pile [] = [] := rfl
theorem pile_snoc (vs : List Rv) (r : Rv) : pile (vs ++ [r]) = (r.ps, r.ts) :: pile vs := by unfold pile; rw [List.map_append, List.reverse_append]; rfl
/-- A row of pairs of slices in a block of its own. -/
def PileAt (W : World) (rb cap : Nat) (vs : List Rv) : Prop := ∃ cur, W.heap[rb]? = some (.cells cur 71 (0, 0)) ∧ vs.length ≤ cap ∧ cap ≤ maxLen ∧ cur.size = cap * 2 ∧ cur.toList.take (vs.length * 2) = rowRv vs
theorem PileAt.keep {W W' : World} {rb cap : Nat} {vs : List Rv} (h : PileAt W rb cap vs) (hk : KeepR W W') : PileAt W' rb cap vs := by
  obtain ⟨cur, h1, h2⟩ := h
  exact ⟨cur, hk rb cur h1, h2⟩
theorem PileAt.below {W W' : World} {rb cap : Nat} {vs : List Rv} (h : PileAt W rb cap vs) (hb : Below W.heap.size W W') : PileAt W' rb cap vs := h.keep (KeepR.below hb)
theorem PileAt.owns {W : World} {rb cap n0 : Nat} {vs : List Rv} (h : PileAt W rb cap vs) (hn : n0 ≤ rb) : W.ownsRow n0 71 2 (.slice (some ⟨rb, 0, none⟩) vs.length cap) vs.length (rowRv vs) := by
  obtain ⟨cur, h1, h2, h3, h4, h5⟩ := h
  exact ⟨rowRv_length vs, .inr ⟨rb, cap, cur, rfl, hn, h1, h2, h3, h4, h5⟩⟩
theorem PileAt.lt {W : World} {rb cap : Nat} {vs : List Rv} (h : PileAt W rb cap vs) : rb < W.heap.size := by
  obtain ⟨cur, h1, _⟩ := h
  exact (Array.getElem?_eq_some_iff.1 h1).1
/-- The top of a pile, in cells. -/
theorem PileAt.top {W : World} {rb cap : Nat} {vs : List Rv} {r : Rv} (h : PileAt W rb cap (vs ++ [r])) : Pair2 W rb (vs.length * 2) (.slice r.a1 r.ps.length r.c1) (.slice r.a2 r.ts.length r.c2) := by
  obtain ⟨cur, h1, h2, h3, h4, h5⟩ := h
  rw [rowRv_append, rowRv_one] at h5
  have hc : ∀ k, k < 2 → W.cell? ⟨rb, vs.length * 2 + k, none⟩ = r.cells[k]? := fun k hk => by
    rw [cell_of_row W rb _ cur _ (0, 0) h1]
    have e : (cur.toList.take ((vs ++ [r]).length * 2))[vs.length * 2 + k]? = r.cells[k]? := by
      rw [h5, List.getElem?_append_right (by rw [rowRv_length]; omega), rowRv_length]
      congr 1; omega
    rw [List.getElem?_take_of_lt (by rw [List.length_append, List.length_singleton]; omega)] at e
    simpa using e
  exact ⟨hc 0 (by omega), hc 1 (by omega), by simp [World.frozen?, h1], by simp [World.frozen?, h1]⟩
/-- The top taken off. -/
theorem PileAt.pop {W : World} {rb cap : Nat} {vs : List Rv} {r : Rv} (h : PileAt W rb cap (vs ++ [r])) : PileAt W rb cap vs := by
  obtain ⟨cur, h1, h2, h3, h4, h5⟩ := h
  rw [List.length_append, List.length_singleton] at h2 h5
  refine ⟨cur, h1, by omega, h3, h4, ?_⟩
  rw [rowRv_append] at h5
  have := congrArg (List.take (vs.length * 2)) h5
  rw [List.take_take, Nat.min_eq_left (by omega), List.take_append_of_le_length (by rw [rowRv_length]; exact Nat.le_refl _), List.take_of_length_le (l := rowRv vs) (by rw [rowRv_length]; exact Nat.le_refl _)] at this
  exact this
/-- The top written anew. -/
theorem PileAt.put {W : World} {rb cap : Nat} {vs : List Rv} {r q : Rv} (h : PileAt W rb cap (vs ++ [r])) : PileAt ((W.setCell ⟨rb, vs.length * 2, none⟩ (.slice q.a1 q.ps.length q.c1)).setCell ⟨rb, vs.length * 2 + 1, none⟩ (.slice q.a2 q.ts.length q.c2)) rb cap (vs ++ [q]) := by
  obtain ⟨cur, h1, h2, h3, h4, h5⟩ := h
  rw [List.length_append, List.length_singleton] at h2 h5
  refine ⟨(cur.setIfInBounds (vs.length * 2) (.slice q.a1 q.ps.length q.c1)).setIfInBounds (vs.length * 2 + 1) (.slice q.a2 q.ts.length q.c2), ?_, by rw [List.length_append, List.length_singleton]; exact h2, h3, by simpa using h4, ?_⟩
  · exact block_setCell _ (block_setCell _ h1)
  · rw [List.length_append, List.length_singleton, rowRv_append, rowRv_one]
    have hp : cur.toList.take (vs.length * 2) = rowRv vs := by
      rw [rowRv_append] at h5
      have := congrArg (List.take (vs.length * 2)) h5
      rw [List.take_take, Nat.min_eq_left (by omega), List.take_append_of_le_length (by rw [rowRv_length]; exact Nat.le_refl _), List.take_of_length_le (l := rowRv vs) (by rw [rowRv_length]; exact Nat.le_refl _)] at this
      exact this
    apply List.ext_getElem?
    intro i
    by_cases hi : i < vs.length * 2
    · rw [List.getElem?_take_of_lt (by omega), List.getElem?_append_left (by rw [rowRv_length]; exact hi), ← hp, List.getElem?_take_of_lt hi]
      simp only [Array.toList_setIfInBounds, List.getElem?_set]
      rw [if_neg (by omega), if_neg (by omega)]
    · by_cases h0 : i = vs.length * 2
      · subst h0
        rw [List.getElem?_take_of_lt (by omega), List.getElem?_append_right (by rw [rowRv_length]; exact Nat.le_refl _), rowRv_length, Nat.sub_self]
        simp only [Array.toList_setIfInBounds, List.getElem?_set]
        rw [if_neg (by omega), if_pos trivial, if_pos (by simp; omega)]
        rfl
      · by_cases h1' : i = vs.length * 2 + 1
        · subst h1'
          rw [List.getElem?_take_of_lt (by omega), List.getElem?_append_right (by rw [rowRv_length]; omega), rowRv_length, show vs.length * 2 + 1 - vs.length * 2 = 1 by omega]
          simp only [Array.toList_setIfInBounds, List.getElem?_set]
          rw [if_pos trivial, if_pos (by simp; omega)]
          rfl
        · rw [List.getElem?_eq_none (by rw [List.length_take]; omega), List.getElem?_eq_none (by rw [List.length_append, rowRv_length]; simp [Rv.cells]; omega)]
/-- The rest of a row of terms behind its first. -/
theorem args_tail {w : World} {a : Option Addr} {c : Nat} {t : Tm} {r : List Tm} (h : Args w a c (t :: r)) : Args w (if c = 1 then a else a.map (·.add 4)) (c - 1) r := by
  obtain ⟨⟨h1, h2⟩, h⟩ := h
  rw [List.length_cons] at h1 h2
  refine ⟨⟨by omega, by omega⟩, ?_⟩
  by_cases hr : r = []
  · exact .inl hr
  · rcases h with h | ⟨b, o, rfl, hlt, hat⟩
    · cases h
    · have hl : 0 < r.length := List.length_pos_iff.2 hr
      rw [if_neg (by omega)]
      rw [RowAt] at hat
      refine .inr ⟨b, o + 4, ?_, hlt, hat.2⟩
      simp [Addr.add]
end Go.Proofs.Ytcecbdglepneaaa
