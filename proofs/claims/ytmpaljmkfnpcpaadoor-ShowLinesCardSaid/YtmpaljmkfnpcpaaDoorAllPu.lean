/-
  All parts of a term, by the reference of layer 3: All, for any term in memory that has not too many; the row lies in new memory, the parts' arguments where they lay. (as data)
-/
import Derived.Test.YtmpaljmkfnpcpaaDoorTm
namespace Go.Proofs.YtmpaljmkfnpcpaaDoor
open Go.RowKit

mutual
/-- A term, and all in it, from the left. -/
def Tm.all : Tm → List Tm
  | .mk k s n xs => .mk k s n xs :: allL xs
def allL : List Tm → List Tm
  | [] => []
  | t :: r => t.all ++ allL r
end
theorem all_eq (t : Tm) : t.all = t :: allL t.args := by cases t; rw [Tm.all]; rfl
theorem allL_append (a b : List Tm) : allL (a ++ b) = allL a ++ allL b := by
  induction a with
  | nil => rw [List.nil_append, allL]; rfl
  | cons t r ih => rw [List.cons_append, allL, allL, ih, List.append_assoc]
theorem allL_take {l : List Tm} {k : Nat} (h : k < l.length) : allL (l.take (k + 1)) = allL (l.take k) ++ l[k].all := by
  rw [List.take_succ_eq_append_getElem h, allL_append]
  congr 1
  rw [allL, allL, List.append_nil]
mutual
theorem all_length : ∀ t : Tm, t.all.length = t.parts
  | .mk k s n xs => by rw [Tm.all, List.length_cons, allL_length xs, Tm.parts]
theorem allL_length : ∀ l : List Tm, (allL l).length = partsL l
  | [] => by rw [allL, partsL]; rfl
  | t :: r => by rw [allL, List.length_append, all_length t, allL_length r, partsL]
end
theorem termInfo : (Tryd.prog.info? 26).map (fun i => (i.zero, i.size, i.bytes)) = some (some (.agg #[.int .i64 0, .string ⟨#[]⟩, .int .i64 0, .slice none 0 0]), 4, 56) := by kernel_rfl
/-- The cells of a row of terms. -/
def rowTv (vs : List Tv) : List Value := vs.flatMap Tv.cells
theorem rowTv_length (vs : List Tv) : (rowTv vs).length = vs.length * 4 := by
  unfold rowTv
  induction vs with
  | nil => rfl
  | cons t r ih => rw [List.flatMap_cons, List.length_append, ih]; simp [Tv.cells]; omega
theorem rowTv_append (a b : List Tv) : rowTv (a ++ b) = rowTv a ++ rowTv b := by unfold rowTv; rw [List.flatMap_append]
theorem rowTv_one (v : Tv) : rowTv [v] = v.cells := by unfold rowTv; simp
theorem rowTv_get (vs : List Tv) (j : Nat) (h : j < vs.length) (i : Nat) (hi : i < 4) : (rowTv vs)[j * 4 + i]? = vs[j].cells[i]? := by
  induction vs generalizing j with
  | nil => simp at h
  | cons t r ih =>
    unfold rowTv
    rw [List.flatMap_cons]
    cases j with
    | zero => rw [Nat.zero_mul, Nat.zero_add, List.getElem?_append_left (by simp [Tv.cells]; omega)]; rfl
    | succ j =>
      rw [List.getElem?_append_right (by simp [Tv.cells]; omega)]
      have := ih j (by simpa using h)
      rw [show (j + 1) * 4 + i - t.cells.length = j * 4 + i from by simp [Tv.cells]; omega]
      exact this
theorem rowTv_one' (vs : List Tv) : ∀ u ∈ rowTv vs, u.oneCell' = true := by
  intro u hu
  unfold rowTv at hu
  obtain ⟨v, _, hv⟩ := List.mem_flatMap.1 hu
  simp [Tv.cells] at hv
  rcases hv with rfl | rfl | rfl | rfl <;> rfl
/-- A row of terms that the call itself has made: its terms' arguments lie in the world w0. -/
def OwnTv (w0 w : World) (base : Nat) (v : Value) (ts : List Tm) : Prop :=
  ∃ vs : List Tv, vs.map Tv.t = ts ∧ (∀ x ∈ vs, x.ok w0) ∧ w.ownsRow base 26 4 v ts.length (rowTv vs)
theorem OwnTv.tms {w0 w : World} {base : Nat} {v : Value} {ts : List Tm} (h : OwnTv w0 w base v ts) (hb : Below w0.heap.size w0 w) (hl : ts.length ≤ 9223372036854775807) : Tms w v ts := by
  obtain ⟨vs, rfl, hok, hn, h⟩ := h
  rcases h with ⟨rfl, h0⟩ | ⟨g, cap, cur, rfl, _, hg, hcap, hmax, hsz, htake⟩
  · have : vs = [] := by simpa using h0
    subst this
    exact Tms.none_ _ _ _
  · refine ⟨_, cap, rfl, ⟨hl, hcap⟩, ?_⟩
    by_cases h0 : vs = []
    · left; rw [h0]; rfl
    right
    have hlt : g < w.heap.size := by
      rcases Nat.lt_or_ge g w.heap.size with hlt | hge
      · exact hlt
      · rw [Array.getElem?_eq_none hge] at hg; cases hg
    refine ⟨g, 0, rfl, hlt, rowAt_of fun {j} hj => ?_⟩
    have hjv : j < vs.length := by simpa using hj
    rw [List.getElem_map]
    have cell : ∀ i, i < 4 → w.cell? ⟨g, 0 + j * 4 + i, none⟩ = vs[j].cells[i]? := by
      intro i hi
      rw [cell_of_row w g (0 + j * 4 + i) cur _ (0, 0) hg, ← rowTv_get vs j hjv i hi, ← htake, List.getElem?_take, if_pos (by simp; omega), Nat.zero_add]
      simp
    exact tv_tmAt ((hok _ (List.getElem_mem hjv)).below hb) ⟨cell 0 (by omega), cell 1 (by omega), cell 2 (by omega), cell 3 (by omega)⟩
theorem own_first (w : World) (base : Nat) (hb : base ≤ w.heap.size) (v : Tv) : (w.alloc (.cells #[.int .i64 v.t.kind, .string v.t.name, .int .i64 v.t.n, .slice v.a v.t.args.length v.c] 26)).ownsRow base 26 4 (.slice (some ⟨w.heap.size, 0, none⟩) 1 1) 1 (rowTv [v]) := by
  refine ⟨rfl, .inr ⟨w.heap.size, 1, _, rfl, hb, heap_alloc_new w _, Nat.le_refl _, by unfold maxLen; omega, rfl, ?_⟩⟩
  rw [rowTv_one]; rfl
end Go.Proofs.YtmpaljmkfnpcpaaDoor
