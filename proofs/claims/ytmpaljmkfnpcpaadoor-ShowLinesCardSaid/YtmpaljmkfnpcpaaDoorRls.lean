/-
  Rules in memory: each two terms; rows of rules. No function of the program.
-/
import Derived.Test.YtmpaljmkfnpcpaaDoorTrLive
import Derived.Test.YtmpaljmkfnpcpaaDoorAllPu
namespace Go.Proofs.YtmpaljmkfnpcpaaDoor
open Go.RowKit

/-- A rule: its left side, its right side. -/
abbrev Rl := Tm × Tm
/-- A rule lies at an address: eight cells. -/
def RlAt (w : World) (x : Rl) (b o : Nat) : Prop := TmAt w x.1 b o ∧ TmAt w x.2 b (o + 4)
/-- A slice value that reads as a row of rules. -/
def Rls (w : World) (v : Value) (rs : List Rl) : Prop := ∃ a c, v = .slice a rs.length c ∧ (rs.length ≤ 9223372036854775807 ∧ rs.length ≤ c) ∧ (rs = [] ∨ ∃ b o, a = some ⟨b, o, none⟩ ∧ b < w.heap.size ∧ ∀ (j : Nat) x, rs[j]? = some x → RlAt w x b (o + j * 8))
theorem RlAt.below {w w' : World} {x : Rl} {b o : Nat} (h : RlAt w x b o) (hb : Below w.heap.size w w') : RlAt w' x b o := ⟨h.1.below hb, h.2.below hb⟩
theorem Rls.below {w w' : World} {v : Value} {rs : List Rl} (h : Rls w v rs) (hb : Below w.heap.size w w') : Rls w' v rs := by
  obtain ⟨a, c, hv, hl, h⟩ := h
  refine ⟨a, c, hv, hl, ?_⟩
  rcases h with h | ⟨b, o, ha, hlt, h⟩
  · exact .inl h
  · exact .inr ⟨b, o, ha, Nat.lt_of_lt_of_le hlt hb.size, fun j x hj => (h j x hj).below hb⟩
theorem Rls.none_ (w : World) (a : Option Addr) (c : Nat) : Rls w (.slice a 0 c) [] := ⟨a, c, rfl, by simp, .inl rfl⟩
/-- A rule as values. -/
structure Qv where
  l : Tv
  r : Tv
def Qv.cells (x : Qv) : List Value := [.int .i64 x.l.t.kind, .string x.l.t.name, .int .i64 x.l.t.n, .slice x.l.a x.l.t.args.length x.l.c, .int .i64 x.r.t.kind, .string x.r.t.name, .int .i64 x.r.t.n, .slice x.r.a x.r.t.args.length x.r.c]
def Qv.val (x : Qv) : Value := .agg #[.int .i64 x.l.t.kind, .string x.l.t.name, .int .i64 x.l.t.n, .slice x.l.a x.l.t.args.length x.l.c, .int .i64 x.r.t.kind, .string x.r.t.name, .int .i64 x.r.t.n, .slice x.r.a x.r.t.args.length x.r.c]
def Qv.rl (x : Qv) : Rl := (x.l.t, x.r.t)
def Qv.ok (w : World) (x : Qv) : Prop := x.l.ok w ∧ x.r.ok w
theorem Qv.ok.below {w w' : World} {x : Qv} (h : Qv.ok w x) (hb : Below w.heap.size w w') : Qv.ok w' x := ⟨h.1.below hb, h.2.below hb⟩
structure QvAt (w : World) (b o : Nat) (x : Qv) : Prop where
  c0 : w.cell? ⟨b, o, none⟩ = some (.int .i64 x.l.t.kind)
  c1 : w.cell? ⟨b, o + 1, none⟩ = some (.string x.l.t.name)
  c2 : w.cell? ⟨b, o + 2, none⟩ = some (.int .i64 x.l.t.n)
  c3 : w.cell? ⟨b, o + 3, none⟩ = some (.slice x.l.a x.l.t.args.length x.l.c)
  c4 : w.cell? ⟨b, o + 4, none⟩ = some (.int .i64 x.r.t.kind)
  c5 : w.cell? ⟨b, o + 5, none⟩ = some (.string x.r.t.name)
  c6 : w.cell? ⟨b, o + 6, none⟩ = some (.int .i64 x.r.t.n)
  c7 : w.cell? ⟨b, o + 7, none⟩ = some (.slice x.r.a x.r.t.args.length x.r.c)
theorem rlAt_qv {w : World} {x : Rl} {b o : Nat} (h : RlAt w x b o) : ∃ y : Qv, y.rl = x ∧ y.ok w ∧ QvAt w b o y := by
  obtain ⟨u, hu, hk, h0, h1, h2, h3⟩ := tmAt_tv h.1
  obtain ⟨v, hv, hm, k0, k1, k2, k3⟩ := tmAt_tv h.2
  exact ⟨⟨u, v⟩, by unfold Qv.rl; rw [hu, hv], ⟨hk, hm⟩, h0, h1, h2, h3, k0, k1, k2, k3⟩
theorem qv_rlAt {w : World} {y : Qv} {b o : Nat} (hk : y.ok w) (h : QvAt w b o y) : RlAt w y.rl b o :=
  ⟨tv_tmAt hk.1 ⟨h.c0, h.c1, h.c2, h.c3⟩, tv_tmAt hk.2 ⟨h.c4, h.c5, h.c6, h.c7⟩⟩
theorem QvAt.below {w w' : World} {b o : Nat} {x : Qv} (h : QvAt w b o x) (hb : Below w.heap.size w w') : QvAt w' b o x :=
  have hlt := lt_of_cell h.c0
  ⟨(hb.cell (p := ⟨b, o, none⟩) hlt).trans h.c0, (hb.cell (p := ⟨b, o + 1, none⟩) hlt).trans h.c1, (hb.cell (p := ⟨b, o + 2, none⟩) hlt).trans h.c2, (hb.cell (p := ⟨b, o + 3, none⟩) hlt).trans h.c3, (hb.cell (p := ⟨b, o + 4, none⟩) hlt).trans h.c4, (hb.cell (p := ⟨b, o + 5, none⟩) hlt).trans h.c5, (hb.cell (p := ⟨b, o + 6, none⟩) hlt).trans h.c6, (hb.cell (p := ⟨b, o + 7, none⟩) hlt).trans h.c7⟩
def rowQv (ss : List Qv) : List Value := ss.flatMap Qv.cells
theorem rowQv_length (vs : List Qv) : (rowQv vs).length = vs.length * 8 := by
  unfold rowQv
  induction vs with
  | nil => rfl
  | cons v r ih => rw [List.flatMap_cons, List.length_append, ih, List.length_cons]; simp [Qv.cells]; omega
theorem rowQv_append (a b : List Qv) : rowQv (a ++ b) = rowQv a ++ rowQv b := by unfold rowQv; rw [List.flatMap_append]
theorem rowQv_one (v : Qv) : rowQv [v] = v.cells := by unfold rowQv; simp
theorem rowQv_get : ∀ (vs : List Qv) (j : Nat) (h : j < vs.length) (i : Nat), i < 8 → (rowQv vs)[j * 8 + i]? = vs[j].cells[i]?
  | [], _, h, _, _ => by simp at h
  | v :: r, 0, _, i, hi => by
    unfold rowQv
    rw [List.flatMap_cons, List.getElem?_append_left (by simp [Qv.cells]; omega)]; simp
  | v :: r, j + 1, h, i, hi => by
    have := rowQv_get r j (by simpa using h) i hi
    unfold rowQv at this ⊢
    rw [List.flatMap_cons, List.getElem?_append_right (by simp [Qv.cells]; omega)]
    rw [show (j + 1) * 8 + i - v.cells.length = j * 8 + i from by simp [Qv.cells]; omega, this]
    simp
theorem rowQv_one' (vs : List Qv) : ∀ u ∈ rowQv vs, u.oneCell' = true := by
  intro u hu
  unfold rowQv at hu
  obtain ⟨v, _, hv⟩ := List.mem_flatMap.1 hu
  simp only [Qv.cells, List.mem_cons, List.not_mem_nil, or_false] at hv
  rcases hv with rfl | rfl | rfl | rfl | rfl | rfl | rfl | rfl <;> rfl
/-- A row of rules that a call has made: what its rules stand on lives on. -/
structure RowQ (W : World) (e : TypeId) (base : Nat) (v : Value) (rs : List Rl) : Prop where
  row : ∃ vs : List Qv, vs.map Qv.rl = rs ∧ (∀ y ∈ vs, y.ok W) ∧ W.ownsRow base e 8 v rs.length (rowQv vs)
theorem rowQ_nil (W : World) (e : TypeId) (base : Nat) : RowQ W e base (.slice none 0 0) [] := ⟨[], rfl, (fun x hx => by cases hx), World.ownsRow_nil _ _ _ _⟩
theorem RowQ.rls {W : World} {e : TypeId} {base : Nat} {v : Value} {rs : List Rl} (h : RowQ W e base v rs) (hl : rs.length ≤ 9223372036854775807) : Rls W v rs := by
  obtain ⟨vs, rfl, hok, hn, h⟩ := h
  rcases h with ⟨rfl, h0⟩ | ⟨g, cap, cur, rfl, _, hg, hcap, hmax, hsz, htake⟩
  · have : vs = [] := by simpa using h0
    subst this
    exact Rls.none_ _ _ _
  · refine ⟨_, cap, rfl, ⟨hl, hcap⟩, .inr ⟨g, 0, rfl, (Array.getElem?_eq_some_iff.1 hg).1, fun j x hj => ?_⟩⟩
    rw [List.getElem?_map] at hj
    have hjv : j < vs.length := by
      rcases Nat.lt_or_ge j vs.length with h | h
      · exact h
      · rw [List.getElem?_eq_none h] at hj; cases hj
    rw [List.getElem?_eq_getElem hjv] at hj
    injection hj with hj
    subst hj
    have cell : ∀ i, i < 8 → W.cell? ⟨g, 0 + j * 8 + i, none⟩ = vs[j].cells[i]? := by
      intro i hi
      rw [cell_of_row W g (0 + j * 8 + i) cur _ (0, 0) hg, ← rowQv_get vs j hjv i hi, ← htake, List.getElem?_take, if_pos (by simp; omega), Nat.zero_add]
      simp
    exact qv_rlAt (hok _ (List.getElem_mem hjv)) ⟨cell 0 (by omega), cell 1 (by omega), cell 2 (by omega), cell 3 (by omega), cell 4 (by omega), cell 5 (by omega), cell 6 (by omega), cell 7 (by omega)⟩
theorem eight_box (w : World) (x : Qv) (t : TypeId) : QvAt (w.alloc (.cells x.cells.toArray t)) w.heap.size 0 x := by
  have h := fun i => World.cell?_alloc_mark w x.cells.toArray t (0, 0) i
  exact ⟨h 0, h 1, h 2, h 3, h 4, h 5, h 6, h 7⟩
end Go.Proofs.YtmpaljmkfnpcpaaDoor
