/-
  One more term onto a row of the call's own, in a round of a range over a function: what the append leaves as it was, and the drawn region 'l = append(l, x)' inside a round.
-/
import Derived.Test.YtpdbnhhpibpbnaaDoorPAllTm
import Derived.Test.YtpdbnhhpibpbnaaDoorPSetTm
import Derived.Test.YtpdbnhhpibpbnaaDoorPMakeTm
import Derived.Maps.OwnIn
import Derived.Maps.AppendAt
import Derived.BigRegionIn
import Derived.OrdersIn
namespace Go.Proofs.YtpdbnhhpibpbnaaDoor
open Go.RowKit Go.Shelf

/-- The zero term. -/
def zTv : Tv := ⟨.mk 0 ⟨#[]⟩ 0 [], none, 0⟩
/-- Every block of one term is as it was. -/
def Same4 (W W' : World) : Prop := ∀ (k : Nat) (c : Array Value) (f : Nat × Nat), c.size = 4 → W.heap[k]? = some (Obj.cells c 24 f) → W'.heap[k]? = some (Obj.cells c 24 f)

set_option maxRecDepth 100000 in
/-- An append of one term onto a row that is nil where it is empty: it leaves every block of one term as it was. -/
theorem append_same4 {w : World} {base k : Nat} {v : Value} {xs : List Value} (hown : w.ownsRow base 24 4 v k xs) (h0 : k = 0 → v = .slice none 0 0)
    (ad : Addr) (c : Nat) (news : List Value) (hl : news.length = 4) (hnews : ∀ j u, news[j]? = some u → w.cell? (ad.add j) = some u) (h1 : ∀ u ∈ news, u.oneCell' = true)
    (hk : k + 1 ≤ 100000) (hb : base ≤ w.heap.size) :
    ∃ g cap w', (Builtin.append_ #[22, 22] 22 #[v, .slice (some ad) 1 c]).run Tryd.prog w = .ok (.slice (some ⟨g, 0, none⟩) (k + 1) cap) w' ∧
      w'.ownsRow base 24 4 (.slice (some ⟨g, 0, none⟩) (k + 1) cap) (k + 1) (xs ++ news) ∧ w.grownBy w' v.ownBlock ∧ Same4 w w' ∧ (∀ c f, c.size = 4 → w.heap[g]? ≠ some (Obj.cells c 24 f)) := by
  obtain ⟨i0, hi, hz0, hz1, hz2⟩ := info_parts termInfo
  obtain ⟨v', w', hr, hown', hg, hn, hv'⟩ := run_append_own_at (P := Tryd.prog) w base 22 22 24 i0 (.agg #[.int .i64 0, .string ⟨#[]⟩, .int .i64 0, .slice none 0 0]) 4 56 Tryd.underlying22 hi hz0 hz1 hz2 rfl (by decide) v k xs hown ad 1 c news (by rw [hl]) hnews h1 (by unfold maxLen; omega) (by omega) hb
  obtain ⟨g', cap', rfl⟩ := ownsRow_succ hown'
  refine ⟨g', cap', w', hr, hown', hg, ?_⟩
  have hnew : g' = w.heap.size → ∀ (c : Array Value) f, c.size = 4 → w.heap[g']? ≠ some (Obj.cells c 24 f) := fun e c f _ h => by
    rw [e, Array.getElem?_eq_none (Nat.le_refl _)] at h; cases h
  obtain ⟨hxl, ⟨rfl, rfl⟩ | ⟨g, cap, cur, rfl, hbg, hgc, hk1, hk2, hk3, hk4⟩⟩ := hown
  · refine ⟨fun j cc f _ hj => by rw [hg.block j (Array.getElem?_eq_some_iff.1 hj).1 (by simp [Value.ownBlock])]; exact hj, hnew ?_⟩
    rcases hv' with hv' | hv'
    · simp [Value.ownBlock] at hv'
    · simpa [Value.ownBlock] using hv'
  · have hkp : 0 < k := by
      rcases Nat.eq_zero_or_pos k with h | h
      · have := h0 h; cases this
      · exact h
    by_cases hroom : k + 1 ≤ cap
    · have hbig : ∀ (c : Array Value) f, c.size = 4 → w.heap[g]? ≠ some (Obj.cells c 24 f) := fun c f hc h => by
        rw [hgc] at h; injection h with h; injection h with h _ _; subst h; omega
      refine ⟨fun j cc f h4 hj => ?_, ?_⟩
      · by_cases e : j = g
        · subst e; exact absurd hj (hbig cc f h4)
        · rw [hg.block j (Array.getElem?_eq_some_iff.1 hj).1 (by simp [Value.ownBlock]; exact e)]; exact hj
      · rcases hv' with hv' | hv'
        · have : g' = g := by simpa [Value.ownBlock] using hv'
          rw [this]; exact hbig
        · exact hnew (by simpa [Value.ownBlock] using hv')
    · have hcell : ∀ j u, xs[j]? = some u → w.cell? ((⟨g, 0, none⟩ : Addr).add j) = some u := by
        have hh : w.ownsRow base 24 4 (.slice (some ⟨g, 0, none⟩) k cap) k xs := ⟨hxl, .inr ⟨g, cap, cur, rfl, hbg, hgc, hk1, hk2, hk3, hk4⟩⟩
        exact hh.cells rfl
      have hr2 := run_append_grow (P := Tryd.prog) w 22 22 24 i0 (.agg #[.int .i64 0, .string ⟨#[]⟩, .int .i64 0, .slice none 0 0]) Tryd.underlying22 hi hz0 ⟨g, 0, none⟩ k cap xs (by rw [hz1]; exact hxl) hcell ad 1 c news (by rw [hz1, hl]) hnews (by omega) (by omega) (by rw [hz2]; exact growslice_fits (by omega) (by omega))
      rw [hr] at hr2
      injection hr2 with e1 e2
      have hg' : g' = w.heap.size := by injection e1 with e1 _ _; injection e1 with e1; injection e1
      refine ⟨fun j cc f _ hj => ?_, hnew hg'⟩
      rw [e2, Below.heap_alloc _ _ _ (by show j < w.heap.size; exact (Array.getElem?_eq_some_iff.1 hj).1)]; exact hj

theorem cell_far {W : World} {u : Value} (p q : Addr) (h : q.block ≠ p.block) : (W.setCell p u).cell? q = W.cell? q := World.cell?_of_block (Below.heap_setCell _ _ _ _ h)
theorem frozen_far {W : World} {u : Value} (p q : Addr) (h : q.block ≠ p.block) : (W.setCell p u).frozen? q = W.frozen? q := World.frozen?_of_block (Below.heap_setCell _ _ _ _ h)
theorem boxed_far {W : World} {B g o : Nat} {t : TypeId} {v : Value} (h : Boxed W B t v) (hg : g ≠ B) (u : Value) : Boxed (W.setCell ⟨g, o, none⟩ u) B t v := by
  show (W.setCell _ u).heap[B]? = _
  rw [Below.heap_setCell _ _ _ _ (fun e => hg e.symm)]; exact h
theorem KeepsT.far {n₀ : Nat} {A W : World} (h : KeepsT n₀ A W) {g : Nat} (hg : n₀ ≤ g) (hn : ∀ c f, c.size = 4 → A.heap[g]? ≠ some (Obj.cells c 24 f)) (o : Nat) (u : Value) : KeepsT n₀ A (W.setCell ⟨g, o, none⟩ u) :=
  ⟨h.below.setCell (p := ⟨g, o, none⟩) hg u, fun k c f h4 hk => by
    rw [Below.heap_setCell _ _ _ _ (fun e => by subst e; exact hn c f h4 hk)]
    exact h.same k c f h4 hk⟩

/-- The operations of 'l = append(l, x)' in the law. -/
def ops9 : Array Oper := #[
  { dst := some 24, op := Op.load 22 (Operand.tmp 5), type := 22, pos := "law.go:30", after := #[], guard := none },
  { dst := some 25, op := Op.load 24 (Operand.tmp 6), type := 24, pos := "law.go:30", after := #[], guard := none },
  { dst := some 26, op := Op.call { callee := Callee.builtin Builtin.len, args := #[Operand.tmp 24], argTypes := #[22] }, type := 3, pos := "law.go:30", after := #[{ on := 0, ground := Ground.data }], guard := none },
  { dst := some 27, op := Op.buildSlice 22 1 #[(0, Operand.const (Value.agg #[Value.int IntKind.i64 0, Value.string { data := #[] }, Value.int IntKind.i64 0, Value.slice none 0 0]))], type := 22, pos := "law.go:30", after := #[], guard := none },
  { dst := some 28, op := Op.call { callee := Callee.builtin Builtin.append, args := #[Operand.tmp 24, Operand.tmp 27], argTypes := #[22, 22] }, type := 22, pos := "law.go:30", after := #[{ on := 0, ground := Ground.data }, { on := 3, ground := Ground.data }, { on := 0, ground := Ground.phase }, { on := 1, ground := Ground.phase }, { on := 2, ground := Ground.phase }, { on := 3, ground := Ground.phase }], guard := none },
  { dst := some 29, op := Op.indexAddr 22 (Operand.tmp 28) (Operand.tmp 26), type := 0, pos := "law.go:30", after := #[{ on := 4, ground := Ground.data }, { on := 2, ground := Ground.data }, { on := 0, ground := Ground.phase }, { on := 1, ground := Ground.phase }, { on := 2, ground := Ground.phase }, { on := 3, ground := Ground.phase }, { on := 4, ground := Ground.phase }, { on := 7, ground := Ground.gcOnly Departure.appendInPlace }], guard := none },
  { dst := none, op := Op.store 24 (Operand.tmp 29) (Operand.tmp 25), type := 0, pos := "law.go:30", after := #[{ on := 5, ground := Ground.data }, { on := 1, ground := Ground.data }, { on := 4, ground := Ground.chain }, { on := 0, ground := Ground.phase }, { on := 1, ground := Ground.phase }, { on := 2, ground := Ground.phase }, { on := 3, ground := Ground.phase }, { on := 4, ground := Ground.phase }, { on := 7, ground := Ground.gcOnly Departure.appendInPlace }], guard := none },
  { dst := none, op := Op.store 22 (Operand.tmp 5) (Operand.tmp 28), type := 0, pos := "law.go:30", after := #[{ on := 4, ground := Ground.data }, { on := 4, ground := Ground.chain }, { on := 6, ground := Ground.textOnly Departure.appendInPlace }, { on := 0, ground := Ground.phase }, { on := 1, ground := Ground.phase }, { on := 2, ground := Ground.phase }, { on := 3, ground := Ground.phase }, { on := 4, ground := Ground.phase }, { on := 5, ground := Ground.textOnly Departure.appendInPlace }, { on := 6, ground := Ground.textOnly Departure.appendInPlace }], guard := none }]

attribute [local go_sem] Oper.semAt_some

set_option maxRecDepth 100000 in
set_option maxHeartbeats 4000000 in
theorem round9 {F : Fence} {n l : Nat} {Q : Exit → Act → World → Prop} {W : World} {B L X k : Nat} {av : Option Addr} {cv : Nat} {vs : List Tv} (y : Tv)
    (hL : Boxed W L 22 (.slice av k cv)) (hX : Box W X (.int .i64 y.t.kind) (.string y.t.name) (.int .i64 y.t.n) (.slice y.a y.t.args.length y.c))
    (hrow : W.ownsRow B 24 4 (.slice av k cv) k (rowTv vs)) (h0 : k = 0 → (Value.slice av k cv) = .slice none 0 0) (hk : k + 1 ≤ 100000) (hB : B ≤ L)
    (hQ : ∀ g cap a' W', Boxed W' L 22 (.slice (some ⟨g, 0, none⟩) (k + 1) cap) → W'.ownsRow B 24 4 (.slice (some ⟨g, 0, none⟩) (k + 1) cap) (k + 1) (rowTv (vs ++ [y])) → KeepsT B W W' → KeepsFrom B W W' → Q .normal a' W')
    (s0 s1 s2 s3 s4 s7 s8 s9 s10 s11 s12 s13 s14 s15 s16 s17 s18 s19 s20 s21 s22 s23 : Value) :
    (Code.region 9 ops9 true).wpIn (F.inRound l) n Tryd.prog Q { tmps := (s0 :: s1 :: s2 :: s3 :: s4 :: .pointer (some ⟨L, 0, none⟩) :: .pointer (some ⟨X, 0, none⟩) :: s7 :: s8 :: s9 :: s10 :: s11 :: s12 :: s13 :: s14 :: s15 :: s16 :: s17 :: s18 :: s19 :: s20 :: s21 :: s22 :: s23 :: undef :: undef :: undef :: undef :: undef :: undef :: undef :: undef :: undef :: undef :: undef :: undef :: undef :: undef :: undef :: undef :: undef :: undef :: undef :: undef :: undef :: undef :: undef :: undef :: undef :: undef :: undef :: undef :: undef :: undef :: []).toArray, defers := [] } W := by
  obtain ⟨Wd, hWd⟩ : ∃ x, x = W.drew := ⟨_, rfl⟩
  have hLd : Boxed Wd L 22 (.slice av k cv) := by rw [hWd]; exact hL
  have hXd : Box Wd X (.int .i64 y.t.kind) (.string y.t.name) (.int .i64 y.t.n) (.slice y.a y.t.args.length y.c) := by rw [hWd]; exact hX.below ((Below.refl _ _).drew) (lt_of_cell hX.c0)
  have hrd : Wd.ownsRow B 24 4 (.slice av k cv) k (rowTv vs) := by rw [hWd]; exact hrow
  have hKd : KeepsT B W Wd := by rw [hWd]; exact ⟨(Below.refl _ _).drew, fun _ _ _ _ h => h⟩
  have hFd : KeepsFrom B W Wd := by rw [hWd]; exact ⟨Nat.le_refl _, fun _ _ _ h _ => h⟩
  have HWD := Lib.hid hWd
  clear hWd
  have hLlt := hLd.lt
  have hXlt := lt_of_cell hXd.c0
  have hvl : vs.length = k := by have := hrd.1; rw [rowTv_length] at this; omega
  have hLz := hLd.alloc (.cells #[.int .i64 0, .string ⟨#[]⟩, .int .i64 0, .slice none 0 0] 24)
  have hXz := hXd.below ((Below.refl Wd.heap.size Wd).alloc (Nat.le_refl _) (.cells #[.int .i64 0, .string ⟨#[]⟩, .int .i64 0, .slice none 0 0] 24)) hXlt
  have hrz := hrd.alloc (.cells #[.int .i64 0, .string ⟨#[]⟩, .int .i64 0, .slice none 0 0] 24)
  have hz : ∀ j u, (rowTv [zTv])[j]? = some u → (Wd.alloc (.cells #[.int .i64 0, .string ⟨#[]⟩, .int .i64 0, .slice none 0 0] 24)).cell? ((⟨Wd.heap.size, 0, none⟩ : Addr).add j) = some u := by
    intro j u hj
    rw [addr_row, Nat.zero_add, World.cell?_alloc_mark Wd _ 24 (0, 0) j]
    rw [rowTv_one] at hj
    simpa [zTv, Tv.cells, Tm.kind, Tm.name, Tm.n, Tm.args] using hj
  obtain ⟨g, cap, w4, hrun, hown4, hg4, hs4, hg5⟩ := append_same4 hrz h0 ⟨Wd.heap.size, 0, none⟩ 1 (rowTv [zTv]) (by rw [rowTv_length]; rfl) hz (rowTv_one' _) hk (by simp; omega)
  have hz0 : (Wd.alloc (.cells #[.int .i64 0, .string ⟨#[]⟩, .int .i64 0, .slice none 0 0] 24)).heap.size = Wd.heap.size + 1 := by simp
  have hgw : w4.heap.size = w4.heap.size := rfl
  have hg0 : ∀ c f, c.size = 4 → W.heap[g]? ≠ some (Obj.cells c 24 f) := fun c f h4 h => by
    have h1 : Wd.heap[g]? = some (Obj.cells c 24 f) := by rw [HWD.out]; exact h
    exact hg5 c f h4 (by rw [Below.heap_alloc _ _ _ (Array.getElem?_eq_some_iff.1 h1).1]; exact h1)
  have hown : w4.ownsRow B 24 4 (.slice (some ⟨g, 0, none⟩) (k + 1) cap) (k + 1) (rowTv (vs ++ [zTv])) := by rw [rowTv_append]; exact hown4
  have hBg : B ≤ g := (hown.lt g rfl).1
  have hL4 : Boxed w4 L 22 (.slice av k cv) := hLz.kept hg4 (hLz.not_row (by decide) hrz)
  have hgL : g ≠ L := fun e => by
    have h1 := hL4.not_row (e := 24) (by decide) hown
    exact h1 (by rw [← e]; rfl)
  have hO4 : KeepsFrom B W w4 := hFd.trans (((KeepsOthers.alloc Wd (.cells #[.int .i64 0, .string ⟨#[]⟩, .int .i64 0, .slice none 0 0] 24)).from B).trans ((KeepsOthers.of_grownBy hg4 fun j o ej hj => by
    rcases hrz.2 with ⟨h, _⟩ | ⟨g', cap', cur, h, _, hgb, _⟩
    · rw [h] at ej; simp [Value.ownBlock] at ej
    · rw [h] at ej
      obtain rfl : g' = j := by simpa [Value.ownBlock] using ej
      rw [hgb] at hj; cases hj; rfl).from B))
  have hBs : B ≤ Wd.heap.size := by omega
  have hKz : KeepsT B W (Wd.alloc (.cells #[.int .i64 0, .string ⟨#[]⟩, .int .i64 0, .slice none 0 0] 24)) := hKd.alloc hBs _
  have hK4 : KeepsT B W w4 := ⟨hKz.below.grown hg4 (by rw [hz0]; omega) (fun j e => (hrz.lt j e).1), fun j c f h4 hj => hs4 j c f h4 (hKz.same j c f h4 hj)⟩
  have hvk : k < (vs ++ [zTv]).length := by rw [List.length_append, hvl]; simp
  have hset : (vs ++ [zTv]).set k y = vs ++ [y] := by rw [← hvl]; simp
  have hcz : ∀ i, i < 4 → (w4.cell? ⟨g, k * 4 + i, none⟩) = zTv.cells[i]? := fun i hi => by
    rw [hown.cellAt (k * 4 + i) (by omega), rowTv_get _ k hvk i hi]
    congr 1; congr 1
    simp [← hvl]
  have c0 : w4.cell? ⟨g, k * 4, none⟩ = some (.int .i64 0) := hcz 0 (by omega)
  have c1 : w4.cell? ⟨g, k * 4 + 1, none⟩ = some (.string ⟨#[]⟩) := hcz 1 (by omega)
  have c2 : w4.cell? ⟨g, k * 4 + 2, none⟩ = some (.int .i64 0) := hcz 2 (by omega)
  have c3 : w4.cell? ⟨g, k * 4 + 3, none⟩ = some (.slice none 0 0) := hcz 3 (by omega)
  have f0 := hown.frozenAt (k * 4)
  have f1 := hown.frozenAt (k * 4 + 1)
  have f2 := hown.frozenAt (k * 4 + 2)
  have f3 := hown.frozenAt (k * 4 + 3)
  have d0 : (w4.setCell ⟨L, 0, none⟩ (.slice (some ⟨g, 0, none⟩) (k + 1) cap)).cell? ⟨g, k * 4, none⟩ = some (.int .i64 0) := by rw [cell_far _ _ (by simpa using hgL)]; exact c0
  have e0 : (w4.setCell ⟨L, 0, none⟩ (.slice (some ⟨g, 0, none⟩) (k + 1) cap)).frozen? ⟨g, k * 4, none⟩ = false := by rw [frozen_far _ _ (by simpa using hgL)]; exact f0
  have d1 : (w4.setCell ⟨L, 0, none⟩ (.slice (some ⟨g, 0, none⟩) (k + 1) cap)).cell? ⟨g, k * 4 + 1, none⟩ = some (.string ⟨#[]⟩) := by rw [cell_far _ _ (by simpa using hgL)]; exact c1
  have e1 : (w4.setCell ⟨L, 0, none⟩ (.slice (some ⟨g, 0, none⟩) (k + 1) cap)).frozen? ⟨g, k * 4 + 1, none⟩ = false := by rw [frozen_far _ _ (by simpa using hgL)]; exact f1
  have d2 : (w4.setCell ⟨L, 0, none⟩ (.slice (some ⟨g, 0, none⟩) (k + 1) cap)).cell? ⟨g, k * 4 + 2, none⟩ = some (.int .i64 0) := by rw [cell_far _ _ (by simpa using hgL)]; exact c2
  have e2 : (w4.setCell ⟨L, 0, none⟩ (.slice (some ⟨g, 0, none⟩) (k + 1) cap)).frozen? ⟨g, k * 4 + 2, none⟩ = false := by rw [frozen_far _ _ (by simpa using hgL)]; exact f2
  have d3 : (w4.setCell ⟨L, 0, none⟩ (.slice (some ⟨g, 0, none⟩) (k + 1) cap)).cell? ⟨g, k * 4 + 3, none⟩ = some (.slice none 0 0) := by rw [cell_far _ _ (by simpa using hgL)]; exact c3
  have e3 : (w4.setCell ⟨L, 0, none⟩ (.slice (some ⟨g, 0, none⟩) (k + 1) cap)).frozen? ⟨g, k * 4 + 3, none⟩ = false := by rw [frozen_far _ _ (by simpa using hgL)]; exact f3
  clear hcz
  have hL6 : Boxed ((((w4.setCell ⟨g, k * 4, none⟩ (.int .i64 y.t.kind)).setCell ⟨g, k * 4 + 1, none⟩ (.string y.t.name)).setCell ⟨g, k * 4 + 2, none⟩ (.int .i64 y.t.n)).setCell ⟨g, k * 4 + 3, none⟩ (.slice y.a y.t.args.length y.c)) L 22 (.slice av k cv) := boxed_far (boxed_far (boxed_far (boxed_far hL4 hgL _) hgL _) hgL _) hgL _
  have cL4 := hL4.cell
  have fL4 := hL4.frozen
  have cL6 := hL6.cell
  have fL6 := hL6.frozen
  have hfin7 : ∀ a', Q .normal a' (((((w4.setCell ⟨g, k * 4, none⟩ (.int .i64 y.t.kind)).setCell ⟨g, k * 4 + 1, none⟩ (.string y.t.name)).setCell ⟨g, k * 4 + 2, none⟩ (.int .i64 y.t.n)).setCell ⟨g, k * 4 + 3, none⟩ (.slice y.a y.t.args.length y.c)).setCell ⟨L, 0, none⟩ (.slice (some ⟨g, 0, none⟩) (k + 1) cap)) := fun a' => hQ g cap a' _ (hL6.set _)
    ((hset ▸ own_put hown y k hvk).kept (grownBy_setCell' _ L _) (.inr (by simpa [Value.ownBlock] using hgL)))
    ((((((hK4.far hBg hg0 _ _).far hBg hg0 _ _).far hBg hg0 _ _).far hBg hg0 _ _)).setBox hL6 (by decide) hB _)
    (hO4.trans (((KeepsOthers.setCell _ _ _).from B).trans (((KeepsOthers.setCell _ _ _).from B).trans (((KeepsOthers.setCell _ _ _).from B).trans (((KeepsOthers.setCell _ _ _).from B).trans ((KeepsOthers.setCell _ _ _).from B))))))
  have hownL : (w4.setCell ⟨L, 0, none⟩ (.slice (some ⟨g, 0, none⟩) (k + 1) cap)).ownsRow B 24 4 (.slice (some ⟨g, 0, none⟩) (k + 1) cap) (k + 1) (rowTv (vs ++ [zTv])) := hown.kept (grownBy_setCell' _ L _) (.inr (by simpa [Value.ownBlock] using hgL))
  have hfin6 : ∀ a', Q .normal a' (((((w4.setCell ⟨L, 0, none⟩ (.slice (some ⟨g, 0, none⟩) (k + 1) cap)).setCell ⟨g, k * 4, none⟩ (.int .i64 y.t.kind)).setCell ⟨g, k * 4 + 1, none⟩ (.string y.t.name)).setCell ⟨g, k * 4 + 2, none⟩ (.int .i64 y.t.n)).setCell ⟨g, k * 4 + 3, none⟩ (.slice y.a y.t.args.length y.c)) := fun a' => hQ g cap a' _ (boxed_far (boxed_far (boxed_far (boxed_far (hL4.set _) hgL _) hgL _) hgL _) hgL _)
    (hset ▸ own_put hownL y k hvk)
    ((((((hK4.setBox hL4 (by decide) hB _).far hBg hg0 _ _).far hBg hg0 _ _).far hBg hg0 _ _).far hBg hg0 _ _))
    (hO4.trans (((KeepsOthers.setCell _ _ _).from B).trans (((KeepsOthers.setCell _ _ _).from B).trans (((KeepsOthers.setCell _ _ _).from B).trans (((KeepsOthers.setCell _ _ _).from B).trans ((KeepsOthers.setCell _ _ _).from B))))))
  have cLd := hLd.cell
  obtain ⟨x0, x1, x2, x3, _, _, _, _⟩ := hXd
  have cLz := hLz.cell
  obtain ⟨z0, z1, z2, z3, _, _, _, _⟩ := hXz
  have hk1 : (0 : Int) ≤ (k : Int) := by omega
  have hk2 : (k : Int) < (k : Int) + 1 := by omega
  have hk3 : (k : Int) < ((k + 1 : Nat) : Int) := by omega
  have I11111110 : wpAnyIn (F.inRound l) n Tryd.prog .any ops9 Q 1 #[true, true, true, true, true, true, true, false] { tmps := (s0 :: s1 :: s2 :: s3 :: s4 :: .pointer (some ⟨L, 0, none⟩) :: .pointer (some ⟨X, 0, none⟩) :: s7 :: s8 :: s9 :: s10 :: s11 :: s12 :: s13 :: s14 :: s15 :: s16 :: s17 :: s18 :: s19 :: s20 :: s21 :: s22 :: s23 :: .slice av k cv :: .agg #[.int .i64 y.t.kind, .string y.t.name, .int .i64 y.t.n, .slice y.a y.t.args.length y.c] :: .int .i64 k :: .slice (some ⟨Wd.heap.size, 0, none⟩) 1 1 :: .slice (some ⟨g, 0, none⟩) (k + 1) cap :: .pointer (some ⟨g, k * 4, none⟩) :: undef :: undef :: undef :: undef :: undef :: undef :: undef :: undef :: undef :: undef :: undef :: undef :: undef :: undef :: undef :: undef :: undef :: undef :: undef :: undef :: undef :: undef :: undef :: undef :: []).toArray, defers := [] } ((((w4.setCell ⟨g, k * 4, none⟩ (.int .i64 y.t.kind)).setCell ⟨g, k * 4 + 1, none⟩ (.string y.t.name)).setCell ⟨g, k * 4 + 2, none⟩ (.int .i64 y.t.n)).setCell ⟨g, k * 4 + 3, none⟩ (.slice y.a y.t.args.length y.c)) := by
    refine wpAnyIn_ready (rs := [7]) (by kernel_rfl) (by simp) ?_
    refine BigFrame.allReadyIn_want (o := { dst := none, op := Op.store 22 (Operand.tmp 5) (Operand.tmp 28), type := 0, pos := "law.go:30", after := #[{ on := 4, ground := Ground.data }, { on := 4, ground := Ground.chain }, { on := 6, ground := Ground.textOnly Departure.appendInPlace }, { on := 0, ground := Ground.phase }, { on := 1, ground := Ground.phase }, { on := 2, ground := Ground.phase }, { on := 3, ground := Ground.phase }, { on := 4, ground := Ground.phase }, { on := 5, ground := Ground.textOnly Departure.appendInPlace }, { on := 6, ground := Ground.textOnly Departure.appendInPlace }], guard := none }) rfl rfl (fun K hK => ?_) ?_
    · first | gi_big_move | gi_big_op
      exact hK _ _ (wpAnyIn_done (by kernel_rfl) (hfin7 _) _)
    exact AllReadyIn.nil
  have I11111101 : wpAnyIn (F.inRound l) n Tryd.prog .any ops9 Q 1 #[true, true, true, true, true, true, false, true] { tmps := (s0 :: s1 :: s2 :: s3 :: s4 :: .pointer (some ⟨L, 0, none⟩) :: .pointer (some ⟨X, 0, none⟩) :: s7 :: s8 :: s9 :: s10 :: s11 :: s12 :: s13 :: s14 :: s15 :: s16 :: s17 :: s18 :: s19 :: s20 :: s21 :: s22 :: s23 :: .slice av k cv :: .agg #[.int .i64 y.t.kind, .string y.t.name, .int .i64 y.t.n, .slice y.a y.t.args.length y.c] :: .int .i64 k :: .slice (some ⟨Wd.heap.size, 0, none⟩) 1 1 :: .slice (some ⟨g, 0, none⟩) (k + 1) cap :: .pointer (some ⟨g, k * 4, none⟩) :: undef :: undef :: undef :: undef :: undef :: undef :: undef :: undef :: undef :: undef :: undef :: undef :: undef :: undef :: undef :: undef :: undef :: undef :: undef :: undef :: undef :: undef :: undef :: undef :: []).toArray, defers := [] } (w4.setCell ⟨L, 0, none⟩ (.slice (some ⟨g, 0, none⟩) (k + 1) cap)) := by
    refine wpAnyIn_ready (rs := [6]) (by kernel_rfl) (by simp) ?_
    refine BigFrame.allReadyIn_want (o := { dst := none, op := Op.store 24 (Operand.tmp 29) (Operand.tmp 25), type := 0, pos := "law.go:30", after := #[{ on := 5, ground := Ground.data }, { on := 1, ground := Ground.data }, { on := 4, ground := Ground.chain }, { on := 0, ground := Ground.phase }, { on := 1, ground := Ground.phase }, { on := 2, ground := Ground.phase }, { on := 3, ground := Ground.phase }, { on := 4, ground := Ground.phase }, { on := 7, ground := Ground.gcOnly Departure.appendInPlace }], guard := none }) rfl rfl (fun K hK => ?_) ?_
    · first | gi_big_move | gi_big_op
      exact hK _ _ (wpAnyIn_done (by kernel_rfl) (hfin6 _) _)
    exact AllReadyIn.nil
  have I11111100 : wpAnyIn (F.inRound l) n Tryd.prog .any ops9 Q 2 #[true, true, true, true, true, true, false, false] { tmps := (s0 :: s1 :: s2 :: s3 :: s4 :: .pointer (some ⟨L, 0, none⟩) :: .pointer (some ⟨X, 0, none⟩) :: s7 :: s8 :: s9 :: s10 :: s11 :: s12 :: s13 :: s14 :: s15 :: s16 :: s17 :: s18 :: s19 :: s20 :: s21 :: s22 :: s23 :: .slice av k cv :: .agg #[.int .i64 y.t.kind, .string y.t.name, .int .i64 y.t.n, .slice y.a y.t.args.length y.c] :: .int .i64 k :: .slice (some ⟨Wd.heap.size, 0, none⟩) 1 1 :: .slice (some ⟨g, 0, none⟩) (k + 1) cap :: .pointer (some ⟨g, k * 4, none⟩) :: undef :: undef :: undef :: undef :: undef :: undef :: undef :: undef :: undef :: undef :: undef :: undef :: undef :: undef :: undef :: undef :: undef :: undef :: undef :: undef :: undef :: undef :: undef :: undef :: []).toArray, defers := [] } w4 := by
    refine wpAnyIn_ready (rs := [6, 7]) (by kernel_rfl) (by simp) ?_
    refine BigFrame.allReadyIn_want (o := { dst := none, op := Op.store 24 (Operand.tmp 29) (Operand.tmp 25), type := 0, pos := "law.go:30", after := #[{ on := 5, ground := Ground.data }, { on := 1, ground := Ground.data }, { on := 4, ground := Ground.chain }, { on := 0, ground := Ground.phase }, { on := 1, ground := Ground.phase }, { on := 2, ground := Ground.phase }, { on := 3, ground := Ground.phase }, { on := 4, ground := Ground.phase }, { on := 7, ground := Ground.gcOnly Departure.appendInPlace }], guard := none }) rfl rfl (fun K hK => ?_) ?_
    · first | gi_big_move | gi_big_op
      exact hK _ _ I11111110
    refine BigFrame.allReadyIn_want (o := { dst := none, op := Op.store 22 (Operand.tmp 5) (Operand.tmp 28), type := 0, pos := "law.go:30", after := #[{ on := 4, ground := Ground.data }, { on := 4, ground := Ground.chain }, { on := 6, ground := Ground.textOnly Departure.appendInPlace }, { on := 0, ground := Ground.phase }, { on := 1, ground := Ground.phase }, { on := 2, ground := Ground.phase }, { on := 3, ground := Ground.phase }, { on := 4, ground := Ground.phase }, { on := 5, ground := Ground.textOnly Departure.appendInPlace }, { on := 6, ground := Ground.textOnly Departure.appendInPlace }], guard := none }) rfl rfl (fun K hK => ?_) ?_
    · first | gi_big_move | gi_big_op
      exact hK _ _ I11111101
    exact AllReadyIn.nil
  have I11111001 : wpAnyIn (F.inRound l) n Tryd.prog .any ops9 Q 2 #[true, true, true, true, true, false, false, true] { tmps := (s0 :: s1 :: s2 :: s3 :: s4 :: .pointer (some ⟨L, 0, none⟩) :: .pointer (some ⟨X, 0, none⟩) :: s7 :: s8 :: s9 :: s10 :: s11 :: s12 :: s13 :: s14 :: s15 :: s16 :: s17 :: s18 :: s19 :: s20 :: s21 :: s22 :: s23 :: .slice av k cv :: .agg #[.int .i64 y.t.kind, .string y.t.name, .int .i64 y.t.n, .slice y.a y.t.args.length y.c] :: .int .i64 k :: .slice (some ⟨Wd.heap.size, 0, none⟩) 1 1 :: .slice (some ⟨g, 0, none⟩) (k + 1) cap :: undef :: undef :: undef :: undef :: undef :: undef :: undef :: undef :: undef :: undef :: undef :: undef :: undef :: undef :: undef :: undef :: undef :: undef :: undef :: undef :: undef :: undef :: undef :: undef :: undef :: []).toArray, defers := [] } (w4.setCell ⟨L, 0, none⟩ (.slice (some ⟨g, 0, none⟩) (k + 1) cap)) := by
    refine wpAnyIn_ready (rs := [5]) (by kernel_rfl) (by simp) ?_
    refine BigFrame.allReadyIn_want (o := { dst := some 29, op := Op.indexAddr 22 (Operand.tmp 28) (Operand.tmp 26), type := 0, pos := "law.go:30", after := #[{ on := 4, ground := Ground.data }, { on := 2, ground := Ground.data }, { on := 0, ground := Ground.phase }, { on := 1, ground := Ground.phase }, { on := 2, ground := Ground.phase }, { on := 3, ground := Ground.phase }, { on := 4, ground := Ground.phase }, { on := 7, ground := Ground.gcOnly Departure.appendInPlace }], guard := none }) rfl rfl (fun K hK => ?_) ?_
    · first | gi_big_move | gi_big_op
      exact hK _ _ I11111101
    exact AllReadyIn.nil
  have I11111000 : wpAnyIn (F.inRound l) n Tryd.prog .any ops9 Q 3 #[true, true, true, true, true, false, false, false] { tmps := (s0 :: s1 :: s2 :: s3 :: s4 :: .pointer (some ⟨L, 0, none⟩) :: .pointer (some ⟨X, 0, none⟩) :: s7 :: s8 :: s9 :: s10 :: s11 :: s12 :: s13 :: s14 :: s15 :: s16 :: s17 :: s18 :: s19 :: s20 :: s21 :: s22 :: s23 :: .slice av k cv :: .agg #[.int .i64 y.t.kind, .string y.t.name, .int .i64 y.t.n, .slice y.a y.t.args.length y.c] :: .int .i64 k :: .slice (some ⟨Wd.heap.size, 0, none⟩) 1 1 :: .slice (some ⟨g, 0, none⟩) (k + 1) cap :: undef :: undef :: undef :: undef :: undef :: undef :: undef :: undef :: undef :: undef :: undef :: undef :: undef :: undef :: undef :: undef :: undef :: undef :: undef :: undef :: undef :: undef :: undef :: undef :: undef :: []).toArray, defers := [] } w4 := by
    refine wpAnyIn_ready (rs := [5, 7]) (by kernel_rfl) (by simp) ?_
    refine BigFrame.allReadyIn_want (o := { dst := some 29, op := Op.indexAddr 22 (Operand.tmp 28) (Operand.tmp 26), type := 0, pos := "law.go:30", after := #[{ on := 4, ground := Ground.data }, { on := 2, ground := Ground.data }, { on := 0, ground := Ground.phase }, { on := 1, ground := Ground.phase }, { on := 2, ground := Ground.phase }, { on := 3, ground := Ground.phase }, { on := 4, ground := Ground.phase }, { on := 7, ground := Ground.gcOnly Departure.appendInPlace }], guard := none }) rfl rfl (fun K hK => ?_) ?_
    · first | gi_big_move | gi_big_op
      exact hK _ _ I11111100
    refine BigFrame.allReadyIn_want (o := { dst := none, op := Op.store 22 (Operand.tmp 5) (Operand.tmp 28), type := 0, pos := "law.go:30", after := #[{ on := 4, ground := Ground.data }, { on := 4, ground := Ground.chain }, { on := 6, ground := Ground.textOnly Departure.appendInPlace }, { on := 0, ground := Ground.phase }, { on := 1, ground := Ground.phase }, { on := 2, ground := Ground.phase }, { on := 3, ground := Ground.phase }, { on := 4, ground := Ground.phase }, { on := 5, ground := Ground.textOnly Departure.appendInPlace }, { on := 6, ground := Ground.textOnly Departure.appendInPlace }], guard := none }) rfl rfl (fun K hK => ?_) ?_
    · first | gi_big_move | gi_big_op
      exact hK _ _ I11111001
    exact AllReadyIn.nil
  have I11110000 : wpAnyIn (F.inRound l) n Tryd.prog .any ops9 Q 4 #[true, true, true, true, false, false, false, false] { tmps := (s0 :: s1 :: s2 :: s3 :: s4 :: .pointer (some ⟨L, 0, none⟩) :: .pointer (some ⟨X, 0, none⟩) :: s7 :: s8 :: s9 :: s10 :: s11 :: s12 :: s13 :: s14 :: s15 :: s16 :: s17 :: s18 :: s19 :: s20 :: s21 :: s22 :: s23 :: .slice av k cv :: .agg #[.int .i64 y.t.kind, .string y.t.name, .int .i64 y.t.n, .slice y.a y.t.args.length y.c] :: .int .i64 k :: .slice (some ⟨Wd.heap.size, 0, none⟩) 1 1 :: undef :: undef :: undef :: undef :: undef :: undef :: undef :: undef :: undef :: undef :: undef :: undef :: undef :: undef :: undef :: undef :: undef :: undef :: undef :: undef :: undef :: undef :: undef :: undef :: undef :: undef :: []).toArray, defers := [] } (Wd.alloc (.cells #[.int .i64 0, .string ⟨#[]⟩, .int .i64 0, .slice none 0 0] 24)) := by
    refine wpAnyIn_ready (rs := [4]) (by kernel_rfl) (by simp) ?_
    refine BigFrame.allReadyIn_want (o := { dst := some 28, op := Op.call { callee := Callee.builtin Builtin.append, args := #[Operand.tmp 24, Operand.tmp 27], argTypes := #[22, 22] }, type := 22, pos := "law.go:30", after := #[{ on := 0, ground := Ground.data }, { on := 3, ground := Ground.data }, { on := 0, ground := Ground.phase }, { on := 1, ground := Ground.phase }, { on := 2, ground := Ground.phase }, { on := 3, ground := Ground.phase }], guard := none }) rfl rfl (fun K hK => ?_) ?_
    · unfold Oper.wpIn
      refine ⟨fun f hf => by simp [Oper.about, resolve, Target.leads, Sem.run_pure] at hf, ?_⟩
      rw [Oper.semAt_plain (F.inRound l) _ _ (by intro c h; cases h)]
      simp [execOp, resolve, invoke, builtin, hrun, Result.andThen, Act.eval, Oper.uponIn]
      exact hK _ _ I11111000
    exact AllReadyIn.nil
  have I11100000 : wpAnyIn (F.inRound l) n Tryd.prog .any ops9 Q 5 #[true, true, true, false, false, false, false, false] { tmps := (s0 :: s1 :: s2 :: s3 :: s4 :: .pointer (some ⟨L, 0, none⟩) :: .pointer (some ⟨X, 0, none⟩) :: s7 :: s8 :: s9 :: s10 :: s11 :: s12 :: s13 :: s14 :: s15 :: s16 :: s17 :: s18 :: s19 :: s20 :: s21 :: s22 :: s23 :: .slice av k cv :: .agg #[.int .i64 y.t.kind, .string y.t.name, .int .i64 y.t.n, .slice y.a y.t.args.length y.c] :: .int .i64 k :: undef :: undef :: undef :: undef :: undef :: undef :: undef :: undef :: undef :: undef :: undef :: undef :: undef :: undef :: undef :: undef :: undef :: undef :: undef :: undef :: undef :: undef :: undef :: undef :: undef :: undef :: undef :: []).toArray, defers := [] } Wd := by
    refine wpAnyIn_ready (rs := [3]) (by kernel_rfl) (by simp) ?_
    refine BigFrame.allReadyIn_want (o := { dst := some 27, op := Op.buildSlice 22 1 #[(0, Operand.const (Value.agg #[Value.int IntKind.i64 0, Value.string { data := #[] }, Value.int IntKind.i64 0, Value.slice none 0 0]))], type := 22, pos := "law.go:30", after := #[], guard := none }) rfl rfl (fun K hK => ?_) ?_
    · first | gi_big_move | gi_big_op
      exact hK _ _ I11110000
    exact AllReadyIn.nil
  have I11010000 : wpAnyIn (F.inRound l) n Tryd.prog .any ops9 Q 5 #[true, true, false, true, false, false, false, false] { tmps := (s0 :: s1 :: s2 :: s3 :: s4 :: .pointer (some ⟨L, 0, none⟩) :: .pointer (some ⟨X, 0, none⟩) :: s7 :: s8 :: s9 :: s10 :: s11 :: s12 :: s13 :: s14 :: s15 :: s16 :: s17 :: s18 :: s19 :: s20 :: s21 :: s22 :: s23 :: .slice av k cv :: .agg #[.int .i64 y.t.kind, .string y.t.name, .int .i64 y.t.n, .slice y.a y.t.args.length y.c] :: undef :: .slice (some ⟨Wd.heap.size, 0, none⟩) 1 1 :: undef :: undef :: undef :: undef :: undef :: undef :: undef :: undef :: undef :: undef :: undef :: undef :: undef :: undef :: undef :: undef :: undef :: undef :: undef :: undef :: undef :: undef :: undef :: undef :: undef :: undef :: []).toArray, defers := [] } (Wd.alloc (.cells #[.int .i64 0, .string ⟨#[]⟩, .int .i64 0, .slice none 0 0] 24)) := by
    refine wpAnyIn_ready (rs := [2]) (by kernel_rfl) (by simp) ?_
    refine BigFrame.allReadyIn_want (o := { dst := some 26, op := Op.call { callee := Callee.builtin Builtin.len, args := #[Operand.tmp 24], argTypes := #[22] }, type := 3, pos := "law.go:30", after := #[{ on := 0, ground := Ground.data }], guard := none }) rfl rfl (fun K hK => ?_) ?_
    · first | gi_big_move | gi_big_op
      exact hK _ _ I11110000
    exact AllReadyIn.nil
  have I10110000 : wpAnyIn (F.inRound l) n Tryd.prog .any ops9 Q 5 #[true, false, true, true, false, false, false, false] { tmps := (s0 :: s1 :: s2 :: s3 :: s4 :: .pointer (some ⟨L, 0, none⟩) :: .pointer (some ⟨X, 0, none⟩) :: s7 :: s8 :: s9 :: s10 :: s11 :: s12 :: s13 :: s14 :: s15 :: s16 :: s17 :: s18 :: s19 :: s20 :: s21 :: s22 :: s23 :: .slice av k cv :: undef :: .int .i64 k :: .slice (some ⟨Wd.heap.size, 0, none⟩) 1 1 :: undef :: undef :: undef :: undef :: undef :: undef :: undef :: undef :: undef :: undef :: undef :: undef :: undef :: undef :: undef :: undef :: undef :: undef :: undef :: undef :: undef :: undef :: undef :: undef :: undef :: undef :: []).toArray, defers := [] } (Wd.alloc (.cells #[.int .i64 0, .string ⟨#[]⟩, .int .i64 0, .slice none 0 0] 24)) := by
    refine wpAnyIn_ready (rs := [1]) (by kernel_rfl) (by simp) ?_
    refine BigFrame.allReadyIn_want (o := { dst := some 25, op := Op.load 24 (Operand.tmp 6), type := 24, pos := "law.go:30", after := #[], guard := none }) rfl rfl (fun K hK => ?_) ?_
    · first | gi_big_move | gi_big_op
      exact hK _ _ I11110000
    exact AllReadyIn.nil
  have I11000000 : wpAnyIn (F.inRound l) n Tryd.prog .any ops9 Q 6 #[true, true, false, false, false, false, false, false] { tmps := (s0 :: s1 :: s2 :: s3 :: s4 :: .pointer (some ⟨L, 0, none⟩) :: .pointer (some ⟨X, 0, none⟩) :: s7 :: s8 :: s9 :: s10 :: s11 :: s12 :: s13 :: s14 :: s15 :: s16 :: s17 :: s18 :: s19 :: s20 :: s21 :: s22 :: s23 :: .slice av k cv :: .agg #[.int .i64 y.t.kind, .string y.t.name, .int .i64 y.t.n, .slice y.a y.t.args.length y.c] :: undef :: undef :: undef :: undef :: undef :: undef :: undef :: undef :: undef :: undef :: undef :: undef :: undef :: undef :: undef :: undef :: undef :: undef :: undef :: undef :: undef :: undef :: undef :: undef :: undef :: undef :: undef :: undef :: []).toArray, defers := [] } Wd := by
    refine wpAnyIn_ready (rs := [2, 3]) (by kernel_rfl) (by simp) ?_
    refine BigFrame.allReadyIn_want (o := { dst := some 26, op := Op.call { callee := Callee.builtin Builtin.len, args := #[Operand.tmp 24], argTypes := #[22] }, type := 3, pos := "law.go:30", after := #[{ on := 0, ground := Ground.data }], guard := none }) rfl rfl (fun K hK => ?_) ?_
    · first | gi_big_move | gi_big_op
      exact hK _ _ I11100000
    refine BigFrame.allReadyIn_want (o := { dst := some 27, op := Op.buildSlice 22 1 #[(0, Operand.const (Value.agg #[Value.int IntKind.i64 0, Value.string { data := #[] }, Value.int IntKind.i64 0, Value.slice none 0 0]))], type := 22, pos := "law.go:30", after := #[], guard := none }) rfl rfl (fun K hK => ?_) ?_
    · first | gi_big_move | gi_big_op
      exact hK _ _ I11010000
    exact AllReadyIn.nil
  have I10100000 : wpAnyIn (F.inRound l) n Tryd.prog .any ops9 Q 6 #[true, false, true, false, false, false, false, false] { tmps := (s0 :: s1 :: s2 :: s3 :: s4 :: .pointer (some ⟨L, 0, none⟩) :: .pointer (some ⟨X, 0, none⟩) :: s7 :: s8 :: s9 :: s10 :: s11 :: s12 :: s13 :: s14 :: s15 :: s16 :: s17 :: s18 :: s19 :: s20 :: s21 :: s22 :: s23 :: .slice av k cv :: undef :: .int .i64 k :: undef :: undef :: undef :: undef :: undef :: undef :: undef :: undef :: undef :: undef :: undef :: undef :: undef :: undef :: undef :: undef :: undef :: undef :: undef :: undef :: undef :: undef :: undef :: undef :: undef :: undef :: undef :: []).toArray, defers := [] } Wd := by
    refine wpAnyIn_ready (rs := [1, 3]) (by kernel_rfl) (by simp) ?_
    refine BigFrame.allReadyIn_want (o := { dst := some 25, op := Op.load 24 (Operand.tmp 6), type := 24, pos := "law.go:30", after := #[], guard := none }) rfl rfl (fun K hK => ?_) ?_
    · first | gi_big_move | gi_big_op
      exact hK _ _ I11100000
    refine BigFrame.allReadyIn_want (o := { dst := some 27, op := Op.buildSlice 22 1 #[(0, Operand.const (Value.agg #[Value.int IntKind.i64 0, Value.string { data := #[] }, Value.int IntKind.i64 0, Value.slice none 0 0]))], type := 22, pos := "law.go:30", after := #[], guard := none }) rfl rfl (fun K hK => ?_) ?_
    · first | gi_big_move | gi_big_op
      exact hK _ _ I10110000
    exact AllReadyIn.nil
  have I10010000 : wpAnyIn (F.inRound l) n Tryd.prog .any ops9 Q 6 #[true, false, false, true, false, false, false, false] { tmps := (s0 :: s1 :: s2 :: s3 :: s4 :: .pointer (some ⟨L, 0, none⟩) :: .pointer (some ⟨X, 0, none⟩) :: s7 :: s8 :: s9 :: s10 :: s11 :: s12 :: s13 :: s14 :: s15 :: s16 :: s17 :: s18 :: s19 :: s20 :: s21 :: s22 :: s23 :: .slice av k cv :: undef :: undef :: .slice (some ⟨Wd.heap.size, 0, none⟩) 1 1 :: undef :: undef :: undef :: undef :: undef :: undef :: undef :: undef :: undef :: undef :: undef :: undef :: undef :: undef :: undef :: undef :: undef :: undef :: undef :: undef :: undef :: undef :: undef :: undef :: undef :: undef :: []).toArray, defers := [] } (Wd.alloc (.cells #[.int .i64 0, .string ⟨#[]⟩, .int .i64 0, .slice none 0 0] 24)) := by
    refine wpAnyIn_ready (rs := [1, 2]) (by kernel_rfl) (by simp) ?_
    refine BigFrame.allReadyIn_want (o := { dst := some 25, op := Op.load 24 (Operand.tmp 6), type := 24, pos := "law.go:30", after := #[], guard := none }) rfl rfl (fun K hK => ?_) ?_
    · first | gi_big_move | gi_big_op
      exact hK _ _ I11010000
    refine BigFrame.allReadyIn_want (o := { dst := some 26, op := Op.call { callee := Callee.builtin Builtin.len, args := #[Operand.tmp 24], argTypes := #[22] }, type := 3, pos := "law.go:30", after := #[{ on := 0, ground := Ground.data }], guard := none }) rfl rfl (fun K hK => ?_) ?_
    · first | gi_big_move | gi_big_op
      exact hK _ _ I10110000
    exact AllReadyIn.nil
  have I01010000 : wpAnyIn (F.inRound l) n Tryd.prog .any ops9 Q 6 #[false, true, false, true, false, false, false, false] { tmps := (s0 :: s1 :: s2 :: s3 :: s4 :: .pointer (some ⟨L, 0, none⟩) :: .pointer (some ⟨X, 0, none⟩) :: s7 :: s8 :: s9 :: s10 :: s11 :: s12 :: s13 :: s14 :: s15 :: s16 :: s17 :: s18 :: s19 :: s20 :: s21 :: s22 :: s23 :: undef :: .agg #[.int .i64 y.t.kind, .string y.t.name, .int .i64 y.t.n, .slice y.a y.t.args.length y.c] :: undef :: .slice (some ⟨Wd.heap.size, 0, none⟩) 1 1 :: undef :: undef :: undef :: undef :: undef :: undef :: undef :: undef :: undef :: undef :: undef :: undef :: undef :: undef :: undef :: undef :: undef :: undef :: undef :: undef :: undef :: undef :: undef :: undef :: undef :: undef :: []).toArray, defers := [] } (Wd.alloc (.cells #[.int .i64 0, .string ⟨#[]⟩, .int .i64 0, .slice none 0 0] 24)) := by
    refine wpAnyIn_ready (rs := [0]) (by kernel_rfl) (by simp) ?_
    refine BigFrame.allReadyIn_want (o := { dst := some 24, op := Op.load 22 (Operand.tmp 5), type := 22, pos := "law.go:30", after := #[], guard := none }) rfl rfl (fun K hK => ?_) ?_
    · first | gi_big_move | gi_big_op
      exact hK _ _ I11010000
    exact AllReadyIn.nil
  have I10000000 : wpAnyIn (F.inRound l) n Tryd.prog .any ops9 Q 7 #[true, false, false, false, false, false, false, false] { tmps := (s0 :: s1 :: s2 :: s3 :: s4 :: .pointer (some ⟨L, 0, none⟩) :: .pointer (some ⟨X, 0, none⟩) :: s7 :: s8 :: s9 :: s10 :: s11 :: s12 :: s13 :: s14 :: s15 :: s16 :: s17 :: s18 :: s19 :: s20 :: s21 :: s22 :: s23 :: .slice av k cv :: undef :: undef :: undef :: undef :: undef :: undef :: undef :: undef :: undef :: undef :: undef :: undef :: undef :: undef :: undef :: undef :: undef :: undef :: undef :: undef :: undef :: undef :: undef :: undef :: undef :: undef :: undef :: undef :: undef :: []).toArray, defers := [] } Wd := by
    refine wpAnyIn_ready (rs := [1, 2, 3]) (by kernel_rfl) (by simp) ?_
    refine BigFrame.allReadyIn_want (o := { dst := some 25, op := Op.load 24 (Operand.tmp 6), type := 24, pos := "law.go:30", after := #[], guard := none }) rfl rfl (fun K hK => ?_) ?_
    · first | gi_big_move | gi_big_op
      exact hK _ _ I11000000
    refine BigFrame.allReadyIn_want (o := { dst := some 26, op := Op.call { callee := Callee.builtin Builtin.len, args := #[Operand.tmp 24], argTypes := #[22] }, type := 3, pos := "law.go:30", after := #[{ on := 0, ground := Ground.data }], guard := none }) rfl rfl (fun K hK => ?_) ?_
    · first | gi_big_move | gi_big_op
      exact hK _ _ I10100000
    refine BigFrame.allReadyIn_want (o := { dst := some 27, op := Op.buildSlice 22 1 #[(0, Operand.const (Value.agg #[Value.int IntKind.i64 0, Value.string { data := #[] }, Value.int IntKind.i64 0, Value.slice none 0 0]))], type := 22, pos := "law.go:30", after := #[], guard := none }) rfl rfl (fun K hK => ?_) ?_
    · first | gi_big_move | gi_big_op
      exact hK _ _ I10010000
    exact AllReadyIn.nil
  have I01000000 : wpAnyIn (F.inRound l) n Tryd.prog .any ops9 Q 7 #[false, true, false, false, false, false, false, false] { tmps := (s0 :: s1 :: s2 :: s3 :: s4 :: .pointer (some ⟨L, 0, none⟩) :: .pointer (some ⟨X, 0, none⟩) :: s7 :: s8 :: s9 :: s10 :: s11 :: s12 :: s13 :: s14 :: s15 :: s16 :: s17 :: s18 :: s19 :: s20 :: s21 :: s22 :: s23 :: undef :: .agg #[.int .i64 y.t.kind, .string y.t.name, .int .i64 y.t.n, .slice y.a y.t.args.length y.c] :: undef :: undef :: undef :: undef :: undef :: undef :: undef :: undef :: undef :: undef :: undef :: undef :: undef :: undef :: undef :: undef :: undef :: undef :: undef :: undef :: undef :: undef :: undef :: undef :: undef :: undef :: undef :: undef :: []).toArray, defers := [] } Wd := by
    refine wpAnyIn_ready (rs := [0, 3]) (by kernel_rfl) (by simp) ?_
    refine BigFrame.allReadyIn_want (o := { dst := some 24, op := Op.load 22 (Operand.tmp 5), type := 22, pos := "law.go:30", after := #[], guard := none }) rfl rfl (fun K hK => ?_) ?_
    · first | gi_big_move | gi_big_op
      exact hK _ _ I11000000
    refine BigFrame.allReadyIn_want (o := { dst := some 27, op := Op.buildSlice 22 1 #[(0, Operand.const (Value.agg #[Value.int IntKind.i64 0, Value.string { data := #[] }, Value.int IntKind.i64 0, Value.slice none 0 0]))], type := 22, pos := "law.go:30", after := #[], guard := none }) rfl rfl (fun K hK => ?_) ?_
    · first | gi_big_move | gi_big_op
      exact hK _ _ I01010000
    exact AllReadyIn.nil
  have I00010000 : wpAnyIn (F.inRound l) n Tryd.prog .any ops9 Q 7 #[false, false, false, true, false, false, false, false] { tmps := (s0 :: s1 :: s2 :: s3 :: s4 :: .pointer (some ⟨L, 0, none⟩) :: .pointer (some ⟨X, 0, none⟩) :: s7 :: s8 :: s9 :: s10 :: s11 :: s12 :: s13 :: s14 :: s15 :: s16 :: s17 :: s18 :: s19 :: s20 :: s21 :: s22 :: s23 :: undef :: undef :: undef :: .slice (some ⟨Wd.heap.size, 0, none⟩) 1 1 :: undef :: undef :: undef :: undef :: undef :: undef :: undef :: undef :: undef :: undef :: undef :: undef :: undef :: undef :: undef :: undef :: undef :: undef :: undef :: undef :: undef :: undef :: undef :: undef :: undef :: undef :: []).toArray, defers := [] } (Wd.alloc (.cells #[.int .i64 0, .string ⟨#[]⟩, .int .i64 0, .slice none 0 0] 24)) := by
    refine wpAnyIn_ready (rs := [0, 1]) (by kernel_rfl) (by simp) ?_
    refine BigFrame.allReadyIn_want (o := { dst := some 24, op := Op.load 22 (Operand.tmp 5), type := 22, pos := "law.go:30", after := #[], guard := none }) rfl rfl (fun K hK => ?_) ?_
    · first | gi_big_move | gi_big_op
      exact hK _ _ I10010000
    refine BigFrame.allReadyIn_want (o := { dst := some 25, op := Op.load 24 (Operand.tmp 6), type := 24, pos := "law.go:30", after := #[], guard := none }) rfl rfl (fun K hK => ?_) ?_
    · first | gi_big_move | gi_big_op
      exact hK _ _ I01010000
    exact AllReadyIn.nil
  have I00000000 : wpAnyIn (F.inRound l) n Tryd.prog .any ops9 Q 8 #[false, false, false, false, false, false, false, false] { tmps := (s0 :: s1 :: s2 :: s3 :: s4 :: .pointer (some ⟨L, 0, none⟩) :: .pointer (some ⟨X, 0, none⟩) :: s7 :: s8 :: s9 :: s10 :: s11 :: s12 :: s13 :: s14 :: s15 :: s16 :: s17 :: s18 :: s19 :: s20 :: s21 :: s22 :: s23 :: undef :: undef :: undef :: undef :: undef :: undef :: undef :: undef :: undef :: undef :: undef :: undef :: undef :: undef :: undef :: undef :: undef :: undef :: undef :: undef :: undef :: undef :: undef :: undef :: undef :: undef :: undef :: undef :: undef :: undef :: []).toArray, defers := [] } Wd := by
    refine wpAnyIn_ready (rs := [0, 1, 3]) (by kernel_rfl) (by simp) ?_
    refine BigFrame.allReadyIn_want (o := { dst := some 24, op := Op.load 22 (Operand.tmp 5), type := 22, pos := "law.go:30", after := #[], guard := none }) rfl rfl (fun K hK => ?_) ?_
    · first | gi_big_move | gi_big_op
      exact hK _ _ I10000000
    refine BigFrame.allReadyIn_want (o := { dst := some 25, op := Op.load 24 (Operand.tmp 6), type := 24, pos := "law.go:30", after := #[], guard := none }) rfl rfl (fun K hK => ?_) ?_
    · first | gi_big_move | gi_big_op
      exact hK _ _ I01000000
    refine BigFrame.allReadyIn_want (o := { dst := some 27, op := Op.buildSlice 22 1 #[(0, Operand.const (Value.agg #[Value.int IntKind.i64 0, Value.string { data := #[] }, Value.int IntKind.i64 0, Value.slice none 0 0]))], type := 22, pos := "law.go:30", after := #[], guard := none }) rfl rfl (fun K hK => ?_) ?_
    · first | gi_big_move | gi_big_op
      exact hK _ _ I00010000
    exact AllReadyIn.nil
  exact wpIn_region_any (by kernel_rfl) (show wpAnyIn (F.inRound l) n Tryd.prog .any ops9 Q 8 #[false, false, false, false, false, false, false, false] { tmps := (s0 :: s1 :: s2 :: s3 :: s4 :: .pointer (some ⟨L, 0, none⟩) :: .pointer (some ⟨X, 0, none⟩) :: s7 :: s8 :: s9 :: s10 :: s11 :: s12 :: s13 :: s14 :: s15 :: s16 :: s17 :: s18 :: s19 :: s20 :: s21 :: s22 :: s23 :: undef :: undef :: undef :: undef :: undef :: undef :: undef :: undef :: undef :: undef :: undef :: undef :: undef :: undef :: undef :: undef :: undef :: undef :: undef :: undef :: undef :: undef :: undef :: undef :: undef :: undef :: undef :: undef :: undef :: undef :: []).toArray, defers := [] } W.drew by rw [← HWD.out]; exact I00000000)
end Go.Proofs.YtpdbnhhpibpbnaaDoor
