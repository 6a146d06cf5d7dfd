/-
  All places of a term, each with what stands there, by the program's spots: ahead of the sort, and what the sort leaves.
-/
import Derived.Test.YtniikfihfeledaaPConc
import Derived.Test.YtniikfihfeledaaPOrdPl
import Derived.Test.YtniikfihfeledaaPlSort
import Derived.Test.YtniikfihfeledaaStays
import Derived.Deep.RegionHeld3
namespace Go.Proofs.Ytniikfihfeledaa
open Go.RowKit

theorem spotInfo : (Try.prog.info? 52).map (fun i => (i.zero, i.size, i.bytes)) = some (some (.agg #[.slice none 0 0, .int .i64 0, .string ⟨#[]⟩, .int .i64 0, .slice none 0 0]), 5, 80) := by kernel_rfl
/-- A place in memory, and a term that stands there. -/
structure Sp where
  p : List Int
  a : Option Addr
  c : Nat
  t : Tv
def Sp.at_ (x : Sp) : Value := .slice x.a x.p.length x.c
def Sp.cells (x : Sp) : List Value := [.slice x.a x.p.length x.c, .int .i64 x.t.t.kind, .string x.t.t.name, .int .i64 x.t.t.n, .slice x.t.a x.t.t.args.length x.t.c]
def Sp.key (x : Sp) : List Int × Tm := (x.p, x.t.t)
def rowSp (ss : List Sp) : List Value := ss.flatMap Sp.cells
theorem rowSp_length (vs : List Sp) : (rowSp vs).length = vs.length * 5 := by
  unfold rowSp
  induction vs with
  | nil => rfl
  | cons v r ih => rw [List.flatMap_cons, List.length_append, ih, List.length_cons]; simp [Sp.cells]; omega
theorem rowSp_append (a b : List Sp) : rowSp (a ++ b) = rowSp a ++ rowSp b := by unfold rowSp; rw [List.flatMap_append]
theorem rowSp_one (v : Sp) : rowSp [v] = v.cells := by unfold rowSp; simp
theorem rowSp_get : ∀ (vs : List Sp) (j : Nat) (h : j < vs.length) (i : Nat), i < 5 → (rowSp vs)[j * 5 + i]? = vs[j].cells[i]?
  | [], _, h, _, _ => by simp at h
  | v :: r, 0, _, i, hi => by
    unfold rowSp
    rw [List.flatMap_cons, List.getElem?_append_left (by simp [Sp.cells]; omega)]; simp
  | v :: r, j + 1, h, i, hi => by
    have := rowSp_get r j (by simpa using h) i hi
    unfold rowSp at this ⊢
    rw [List.flatMap_cons, List.getElem?_append_right (by simp [Sp.cells]; omega)]
    rw [show (j + 1) * 5 + i - v.cells.length = j * 5 + i from by simp [Sp.cells]; omega, this]
    simp
theorem rowSp_one' (vs : List Sp) : ∀ u ∈ rowSp vs, u.oneCell' = true := by
  intro u hu
  unfold rowSp at hu
  obtain ⟨v, _, hv⟩ := List.mem_flatMap.1 hu
  simp only [Sp.cells, List.mem_cons, List.not_mem_nil, or_false] at hv
  rcases hv with rfl | rfl | rfl | rfl | rfl <;> rfl
/-- What a spot reads as. -/
def SpOk (w0 w : World) (x : Sp) : Prop := x.t.ok w0 ∧ At0 w x.at_ x.p
theorem At0.kept {w w' : World} {v u : Value} {p : List Int} (h : At0 w v p) {base size n : Nat} {e : TypeId} {xs : List Value} (he : e ≠ 3) (hu : w.ownsRow base e size u n xs) (hg : w.grownBy w' u.ownBlock) : At0 w' v p :=
  At0.block h fun g c hgc => by
    rw [hg.block g (Array.getElem?_eq_some_iff.1 hgc).1 ?_]
    · exact hgc
    · intro hgu
      rcases hu.2 with ⟨rfl, _⟩ | ⟨g', cap', cur', rfl, _, hgb', _⟩
      · simp [Value.ownBlock] at hgu
      · obtain rfl : g = g' := by simpa [Value.ownBlock] using hgu
        rw [hgb'] at hgc
        injection hgc with h1
        injection h1 with _ h1 _
        exact he h1
theorem SpOk.below {w0 w w' : World} {x : Sp} (h : SpOk w0 w x) (hb : Below w.heap.size w w') : SpOk w0 w' x := ⟨h.1, h.2.below hb⟩
theorem SpOk.kept {w0 w w' : World} {x : Sp} {u : Value} (h : SpOk w0 w x) {base size n : Nat} {xs : List Value} (hu : w.ownsRow base 52 size u n xs) (hg : w.grownBy w' u.ownBlock) : SpOk w0 w' x := ⟨h.1, h.2.kept (by decide) hu hg⟩
/-- A row of spots that the call itself has made. -/
def OwnSp (w0 w : World) (base : Nat) (u : Value) (L : List (List Int × Tm)) : Prop :=
  ∃ ss : List Sp, ss.map Sp.key = L ∧ (∀ x ∈ ss, SpOk w0 w x) ∧ w.ownsRow base 52 5 u L.length (rowSp ss)
theorem own_cell5 {w : World} {base g cap : Nat} {ss : List Sp} (h : w.ownsRow base 52 5 (.slice (some ⟨g, 0, none⟩) ss.length cap) ss.length (rowSp ss)) {j : Nat} (hj : j < ss.length) {i : Nat} (hi : i < 5) {v : Value} (hv : ss[j].cells[i]? = some v) :
    w.cell? ⟨g, j * 5 + i, none⟩ = some v := by
  have := h.cells (g := g) rfl (j * 5 + i) v (by rw [rowSp_get ss j hj i hi, hv])
  rwa [addr_row', Nat.zero_add] at this

end Go.Proofs.Ytniikfihfeledaa
