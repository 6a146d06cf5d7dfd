/-
  Trees that calls have made live on in whatever leaves their blocks as they are. No function of the program.
-/
import Derived.Test.YtmpaljmkfnpcpaaDoorTree
namespace Go.Proofs.YtmpaljmkfnpcpaaDoor
open Go.RowKit

/-- What a call from w to w' has made reads so wherever its blocks stand. -/
def MadeR (w w' : World) (y : Rv) : Prop := ∀ W', w'.heap.size ≤ W'.heap.size → (∀ k, w.heap.size ≤ k → k < w'.heap.size → W'.heap[k]? = w'.heap[k]?) → y.ok W'
def MadeRs (w w' : World) (v : Value) (ts : List Tr) : Prop := ∀ W', w'.heap.size ≤ W'.heap.size → (∀ k, w.heap.size ≤ k → k < w'.heap.size → W'.heap[k]? = w'.heap[k]?) → Trs W' v ts
theorem MadeR.ok {w w' : World} {y : Rv} (h : MadeR w w' y) : y.ok w' := h w' (Nat.le_refl _) fun _ _ _ => rfl
theorem MadeRs.trs {w w' : World} {v : Value} {ts : List Tr} (h : MadeRs w w' v ts) : Trs w' v ts := h w' (Nat.le_refl _) fun _ _ _ => rfl
theorem MadeR.wide {u w w' W : World} {y : Rv} (h : MadeR w w' y) (h1 : u.heap.size ≤ w.heap.size) (h2 : w'.heap.size ≤ W.heap.size) (h3 : ∀ k, w.heap.size ≤ k → k < w'.heap.size → W.heap[k]? = w'.heap[k]?) : MadeR u W y := fun W' g1 g2 =>
  h W' (Nat.le_trans h2 g1) fun k k1 k2 => (g2 k (Nat.le_trans h1 k1) (Nat.lt_of_lt_of_le k2 h2)).trans (h3 k k1 k2)
theorem MadeR.below {u w w' W : World} {y : Rv} (h : MadeR w w' y) (h1 : u.heap.size ≤ w.heap.size) (hb : Below w'.heap.size w' W) : MadeR u W y := h.wide h1 hb.size fun k _ k2 => hb.block k k2
theorem MadeRs.below {u w w' W : World} {v : Value} {ts : List Tr} (h : MadeRs w w' v ts) (h1 : u.heap.size ≤ w.heap.size) (hb : Below w'.heap.size w' W) : MadeRs u W v ts := fun W' g1 g2 =>
  h W' (Nat.le_trans hb.size g1) fun k k1 k2 => (g2 k (Nat.le_trans h1 k1) (Nat.lt_of_lt_of_le k2 hb.size)).trans (hb.block k k2)
/-- A tree in a row that grows: its blocks lie from base on, and the row's block g is none of them. -/
def LiveR (W : World) (g : Option Nat) (base : Nat) (y : Rv) : Prop := ∃ lo hi, base ≤ lo ∧ lo ≤ hi ∧ hi ≤ W.heap.size ∧ (∀ k, g = some k → k < lo ∨ hi ≤ k) ∧
  ∀ W', hi ≤ W'.heap.size → (∀ k, lo ≤ k → k < hi → W'.heap[k]? = W.heap[k]?) → y.ok W'
theorem LiveR.ok {W : World} {g : Option Nat} {base : Nat} {y : Rv} (h : LiveR W g base y) : y.ok W := by
  obtain ⟨lo, hi, _, _, h3, _, h5⟩ := h
  exact h5 W h3 fun _ _ _ => rfl
theorem MadeR.live {w w' : World} {y : Rv} (h : MadeR w w' y) (hs : w.heap.size ≤ w'.heap.size) {g : Option Nat} {base : Nat} (hb : base ≤ w.heap.size) (hg : ∀ k, g = some k → k < w.heap.size ∨ w'.heap.size ≤ k) : LiveR w' g base y :=
  ⟨w.heap.size, w'.heap.size, hb, hs, Nat.le_refl _, hg, h⟩
theorem LiveR.keep {W W' : World} {g g' : Option Nat} {base : Nat} {y : Rv} (h : LiveR W g base y) (hs : W.heap.size ≤ W'.heap.size) (hk : ∀ k, k < W.heap.size → some k ≠ g → W'.heap[k]? = W.heap[k]?) (hg : ∀ k, g' = some k → g = some k ∨ W.heap.size ≤ k) : LiveR W' g' base y := by
  obtain ⟨lo, hi, h1, h2, h3, h4, h5⟩ := h
  refine ⟨lo, hi, h1, h2, Nat.le_trans h3 hs, fun k e => ?_, fun W2 g1 g2 => h5 W2 g1 fun k k1 k2 => ?_⟩
  · rcases hg k e with e | e
    · exact h4 k e
    · exact .inr (Nat.le_trans h3 e)
  · rw [g2 k k1 k2]
    refine hk k (Nat.lt_of_lt_of_le k2 h3) fun e => ?_
    rcases h4 k e.symm with e | e <;> omega
theorem LiveR.below {W W' : World} {g : Option Nat} {base : Nat} {y : Rv} (h : LiveR W g base y) (hb : Below W.heap.size W W') : LiveR W' g base y := h.keep hb.size (fun k hk _ => hb.block k hk) fun _ e => .inl e
theorem LiveR.grown {W W' : World} {g g' : Option Nat} {base : Nat} {y : Rv} (h : LiveR W g base y) (hg : W.grownBy W' g) (hat : g' = g ∨ g' = some W.heap.size) : LiveR W' g' base y := h.keep hg.size (fun k hk e => hg.block k hk e) fun k e => by
  rcases hat with e2 | e2
  · left; rw [← e2]; exact e
  · right; rw [e2] at e; injection e with e; omega
theorem own_at {w w' : World} {base : Nat} {e : TypeId} {size : Nat} {v : Value} {n : Nat} {xs : List Value} (h : w.ownsRow base e size v n xs) (hk : ∀ g, v.ownBlock = some g → w'.heap[g]? = w.heap[g]?) : w'.ownsRow base e size v n xs := by
  obtain ⟨hn, h⟩ := h
  refine ⟨hn, ?_⟩
  rcases h with h | ⟨g, cap, cur, rfl, hbb, hg, hr⟩
  · exact .inl h
  · exact .inr ⟨g, cap, cur, rfl, hbb, (hk g rfl).trans hg, hr⟩
/-- A row of trees that grows. -/
structure RowR (W : World) (e : TypeId) (base : Nat) (v : Value) (ts : List Tr) : Prop where
  row : ∃ vs : List Rv, vs.map Rv.t = ts ∧ (∀ x ∈ vs, LiveR W v.ownBlock base x) ∧ W.ownsRow base e 5 v ts.length (rowRv vs)
theorem rowR_nil (W : World) (e : TypeId) (base : Nat) : RowR W e base (.slice none 0 0) [] := ⟨[], rfl, (fun x hx => by cases hx), World.ownsRow_nil _ _ _ _⟩
theorem RowR.below {W W' : World} {e : TypeId} {base : Nat} {v : Value} {ts : List Tr} (h : RowR W e base v ts) (hb : Below W.heap.size W W') : RowR W' e base v ts := by
  obtain ⟨vs, h1, h2, h3⟩ := h
  exact ⟨vs, h1, fun x hx => (h2 x hx).below hb, own_below h3 hb⟩
/-- It is what a call has made that began at base. -/
theorem RowR.made {w W : World} {e : TypeId} {base : Nat} {v : Value} {ts : List Tr} (h : RowR W e base v ts) (hb : w.heap.size ≤ base) (hl : ts.length ≤ 9223372036854775807) : MadeRs w W v ts := fun W' g1 g2 => by
  obtain ⟨vs, h1, h2, h3⟩ := h
  have hrow : ∀ g, v.ownBlock = some g → W'.heap[g]? = W.heap[g]? := fun g e => g2 g (Nat.le_trans hb (own_row_ge h3 g e)) (own_row_lt h3 g e)
  refine OwnRv.trs (w0 := W') (e := e) (base := base) ⟨vs, h1, fun x hx => ?_, own_at h3 hrow⟩ (fun x h => h) hl
  obtain ⟨lo, hi, k1, _, k3, _, k5⟩ := h2 x hx
  exact k5 W' (Nat.le_trans k3 g1) fun k q1 q2 => g2 k (by omega) (by omega)
theorem RowR.trs {W : World} {e : TypeId} {base : Nat} {v : Value} {ts : List Tr} (h : RowR W e base v ts) (hl : ts.length ≤ 9223372036854775807) : Trs W v ts := by
  obtain ⟨vs, h1, h2, h3⟩ := h
  exact OwnRv.trs (w0 := W) (e := e) (base := base) ⟨vs, h1, fun x hx => (h2 x hx).ok, h3⟩ (fun x h => h) hl
end Go.Proofs.YtmpaljmkfnpcpaaDoor
