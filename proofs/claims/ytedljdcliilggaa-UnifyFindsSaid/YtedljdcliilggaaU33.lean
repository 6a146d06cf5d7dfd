/-
  The rows of terms that are yet to be made alike, in memory and as data; and how a call of root goes among boxes that are new. No function of the program.
  How many rows may wait one on the other: no more than a term goes deep. No function of the program.
-/
import Derived.Test.YtedljdcliilggaaU23
import Derived.Test.YtedljdcliilggaaU32
namespace Go.Proofs.Ytedljdcliilggaa
open Go.RowKit Go.Maps

/-- Terms that are yet to be made alike, and from which bind on binds are yet to be put in them. -/
structure Wv where
  a1 : Option Addr
  c1 : Nat
  ps : List Tm
  a2 : Option Addr
  c2 : Nat
  ts : List Tm
  f1 : Nat
  f2 : Nat
def Wv.cells (r : Wv) : List Value := [.slice r.a1 r.ps.length r.c1, .slice r.a2 r.ts.length r.c2, .int .i64 r.f1, .int .i64 r.f2]
structure Wv.ok (w1 : World) (l : List Bn) (r : Wv) : Prop where
  len : r.ps.length = r.ts.length
  one : Args w1 r.a1 r.c1 r.ps
  two : Args w1 r.a2 r.c2 r.ts
  le1 : r.f1 ≤ l.length
  le2 : r.f2 ≤ l.length
  pl1 : PlainL r.ps
  pl2 : PlainL r.ts
theorem Wv.ok.more {w1 w2 : World} {l : List Bn} {r : Wv} (h : r.ok w1 l) (hr : Reads w1 w2) (c : Bn) : r.ok w2 (l ++ [c]) :=
  ⟨h.len, h.one.reads hr, h.two.reads hr, by rw [List.length_append]; have := h.le1; omega, by rw [List.length_append]; have := h.le2; omega, h.pl1, h.pl2⟩
def rowWv (vs : List Wv) : List Value := vs.flatMap Wv.cells
theorem rowWv_length (vs : List Wv) : (rowWv vs).length = vs.length * 4 := by
  unfold rowWv
  induction vs with
  | nil => rfl
  | cons v r ih => rw [List.flatMap_cons, List.length_append, ih, List.length_cons]; simp [Wv.cells]; omega
theorem rowWv_append (a b : List Wv) : rowWv (a ++ b) = rowWv a ++ rowWv b := by unfold rowWv; rw [List.flatMap_append]
theorem rowWv_one (v : Wv) : rowWv [v] = v.cells := by unfold rowWv; simp
/-- What is left, the top first. -/
def upA (l : List Bn) (vs : List Wv) : List Tm := vs.reverse.flatMap fun r => r.ps.map (appR (l.drop r.f1))
def upB (l : List Bn) (vs : List Wv) : List Tm := vs.reverse.flatMap fun r => r.ts.map (appR (l.drop r.f2))
theorem upA_nil (l : List Bn) : upA l [] = [] := rfl
theorem upB_nil (l : List Bn) : upB l [] = [] := rfl
theorem upA_snoc (l : List Bn) (vs : List Wv) (r : Wv) : upA l (vs ++ [r]) = r.ps.map (appR (l.drop r.f1)) ++ upA l vs := by unfold upA; rw [List.reverse_append]; rfl
theorem upB_snoc (l : List Bn) (vs : List Wv) (r : Wv) : upB l (vs ++ [r]) = r.ts.map (appR (l.drop r.f2)) ++ upB l vs := by unfold upB; rw [List.reverse_append]; rfl
theorem map_more (l : List Bn) (c : Bn) {f : Nat} (hf : f ≤ l.length) (ts : List Tm) : ts.map (appR ((l ++ [c]).drop f)) = appL [c] (ts.map (appR (l.drop f))) := by
  rw [appL_map, List.map_map]
  refine List.map_congr_left fun t _ => ?_
  rw [drop_more hf, appR_more]; rfl
theorem upA_more (l : List Bn) (c : Bn) : ∀ (vs : List Wv), (∀ r ∈ vs, r.f1 ≤ l.length) → upA (l ++ [c]) vs = appL [c] (upA l vs) := fun vs h => by
  unfold upA
  have key : ∀ us : List Wv, (∀ r ∈ us, r.f1 ≤ l.length) → (us.flatMap fun r => r.ps.map (appR ((l ++ [c]).drop r.f1))) = appL [c] (us.flatMap fun r => r.ps.map (appR (l.drop r.f1))) := by
    intro us
    induction us with
    | nil => intro _; rw [List.flatMap_nil, List.flatMap_nil, appL]
    | cons r us ih => intro hu; rw [List.flatMap_cons, List.flatMap_cons, appL_append, ih (fun x hx => hu x (List.mem_cons_of_mem _ hx)), map_more l c (hu r List.mem_cons_self)]
  exact key _ fun r hr => h r (by simpa using hr)
theorem upB_more (l : List Bn) (c : Bn) : ∀ (vs : List Wv), (∀ r ∈ vs, r.f2 ≤ l.length) → upB (l ++ [c]) vs = appL [c] (upB l vs) := fun vs h => by
  unfold upB
  have key : ∀ us : List Wv, (∀ r ∈ us, r.f2 ≤ l.length) → (us.flatMap fun r => r.ts.map (appR ((l ++ [c]).drop r.f2))) = appL [c] (us.flatMap fun r => r.ts.map (appR (l.drop r.f2))) := by
    intro us
    induction us with
    | nil => intro _; rw [List.flatMap_nil, List.flatMap_nil, appL]
    | cons r us ih => intro hu; rw [List.flatMap_cons, List.flatMap_cons, appL_append, ih (fun x hx => hu x (List.mem_cons_of_mem _ hx)), map_more l c (hu r List.mem_cons_self)]
  exact key _ fun r hr => h r (by simpa using hr)
/-- The rows lie in a block of their own. -/
def WPile (W : World) (rb cap : Nat) (vs : List Wv) : Prop := ∃ cur, W.heap[rb]? = some (.cells cur 64 (0, 0)) ∧ vs.length ≤ cap ∧ cap ≤ maxLen ∧ cur.size = cap * 4 ∧ cur.toList.take (vs.length * 4) = rowWv vs
theorem WPile.lt {W : World} {rb cap : Nat} {vs : List Wv} (h : WPile W rb cap vs) : rb < W.heap.size := by
  obtain ⟨cur, h1, _⟩ := h
  exact (Array.getElem?_eq_some_iff.1 h1).1
theorem WPile.same {W W' : World} {rb cap : Nat} {vs : List Wv} (h : WPile W rb cap vs) (hb : W'.heap[rb]? = W.heap[rb]?) : WPile W' rb cap vs := by
  obtain ⟨cur, h1, h2⟩ := h
  exact ⟨cur, hb.trans h1, h2⟩
theorem WPile.owns {W : World} {rb cap n0 : Nat} {vs : List Wv} (h : WPile W rb cap vs) (hn : n0 ≤ rb) : W.ownsRow n0 64 4 (.slice (some ⟨rb, 0, none⟩) vs.length cap) vs.length (rowWv vs) := by
  obtain ⟨cur, h1, h2, h3, h4, h5⟩ := h
  exact ⟨rowWv_length vs, .inr ⟨rb, cap, cur, rfl, hn, h1, h2, h3, h4, h5⟩⟩
/-- The block of the rows is none of those of what was found. -/
theorem WPile.apart {w1 W : World} {rb cap fb bm : Nat} {vb vn : Value} {l : List Bn} {ps : List Pv} {vs : List Wv} (h : WPile W rb cap vs) (hF : FnAt w1 W fb bm vb vn l ps) : ¬ InFn fb bm vb vn rb := fun hk => by
  obtain ⟨cur, h1, _⟩ := h
  have k := hF.kinds
  rcases hk with e | e | e | e
  · obtain ⟨c, h2⟩ := k.box; rw [← e, h1] at h2; simp at h2
  · obtain ⟨es, ck, h2⟩ := k.map; rw [← e, h1] at h2; cases h2
  · obtain ⟨c, h2⟩ := k.row rb e; rw [h1] at h2; simp at h2
  · obtain ⟨c, h2⟩ := k.now rb e; rw [h1] at h2; simp at h2
/-- Four cells in the midst of a block. -/
structure Four (w : World) (g o : Nat) (x0 x1 x2 x3 : Value) : Prop where
  c0 : w.cell? ⟨g, o, none⟩ = some x0
  c1 : w.cell? ⟨g, o + 1, none⟩ = some x1
  c2 : w.cell? ⟨g, o + 2, none⟩ = some x2
  c3 : w.cell? ⟨g, o + 3, none⟩ = some x3
  f0 : w.frozen? ⟨g, o, none⟩ = false
  f1 : w.frozen? ⟨g, o + 1, none⟩ = false
theorem Four.same {w W : World} {g o : Nat} {x0 x1 x2 x3 : Value} (h : Four w g o x0 x1 x2 x3) (hb : W.heap[g]? = w.heap[g]?) : Four W g o x0 x1 x2 x3 := by
  have hc := fun i => World.cell?_of_block (w := w) (w' := W) (a := ⟨g, i, none⟩) hb
  have hf := fun i => World.frozen?_of_block (w := w) (w' := W) (a := ⟨g, i, none⟩) hb
  exact ⟨(hc _).trans h.c0, (hc _).trans h.c1, (hc _).trans h.c2, (hc _).trans h.c3, (hf _).trans h.f0, (hf _).trans h.f1⟩
theorem WPile.take {W : World} {rb cap : Nat} {vs : List Wv} {r : Wv} (h : WPile W rb cap (vs ++ [r])) : ∃ cur, W.heap[rb]? = some (.cells cur 64 (0, 0)) ∧ cur.toList.take (vs.length * 4) = rowWv vs := by
  obtain ⟨cur, h1, h2, h3, h4, h5⟩ := h
  rw [List.length_append, List.length_singleton] at h2 h5
  rw [rowWv_append] at h5
  have := congrArg (List.take (vs.length * 4)) h5
  rw [List.take_take, Nat.min_eq_left (by omega), List.take_append_of_le_length (by rw [rowWv_length]; exact Nat.le_refl _), List.take_of_length_le (l := rowWv vs) (by rw [rowWv_length]; exact Nat.le_refl _)] at this
  exact ⟨cur, h1, this⟩
/-- The top, in cells. -/
theorem WPile.top {W : World} {rb cap : Nat} {vs : List Wv} {r : Wv} (h : WPile W rb cap (vs ++ [r])) : Four W rb (vs.length * 4) (.slice r.a1 r.ps.length r.c1) (.slice r.a2 r.ts.length r.c2) (.int .i64 r.f1) (.int .i64 r.f2) := by
  obtain ⟨cur, h1, h2, h3, h4, h5⟩ := h
  rw [rowWv_append, rowWv_one] at h5
  have hc : ∀ k, k < 4 → W.cell? ⟨rb, vs.length * 4 + k, none⟩ = r.cells[k]? := fun k hk => by
    rw [cell_of_row W rb _ cur _ (0, 0) h1]
    have e : (cur.toList.take ((vs ++ [r]).length * 4))[vs.length * 4 + k]? = r.cells[k]? := by
      rw [h5, List.getElem?_append_right (by rw [rowWv_length]; omega), rowWv_length]
      congr 1; omega
    rw [List.getElem?_take_of_lt (by rw [List.length_append, List.length_singleton]; omega)] at e
    simpa using e
  exact ⟨hc 0 (by omega), hc 1 (by omega), hc 2 (by omega), hc 3 (by omega), by simp [World.frozen?, h1], by simp [World.frozen?, h1]⟩
theorem WPile.pop {W : World} {rb cap : Nat} {vs : List Wv} {r : Wv} (h : WPile W rb cap (vs ++ [r])) : WPile W rb cap vs := by
  obtain ⟨cur, h1, h2⟩ := h.take
  obtain ⟨cur', h1', h3, h4, h5, _⟩ := h
  rw [h1] at h1'
  cases h1'
  rw [List.length_append, List.length_singleton] at h3
  exact ⟨cur, h1, by omega, h4, h5, h2⟩
/-- The top written anew: two of its cells. -/
theorem WPile.put {W : World} {rb cap : Nat} {vs : List Wv} {r : Wv} (h : WPile W rb cap (vs ++ [r])) (a1 : Option Addr) (c1 : Nat) (ps : List Tm) (a2 : Option Addr) (c2 : Nat) (ts : List Tm) :
    WPile ((W.setCell ⟨rb, vs.length * 4, none⟩ (.slice a1 ps.length c1)).setCell ⟨rb, vs.length * 4 + 1, none⟩ (.slice a2 ts.length c2)) rb cap (vs ++ [⟨a1, c1, ps, a2, c2, ts, r.f1, r.f2⟩]) := by
  obtain ⟨cur, h1, hp⟩ := h.take
  have ht := h.top
  obtain ⟨cur', h1', h2, h3, h4, h5⟩ := h
  rw [h1] at h1'
  cases h1'
  rw [List.length_append, List.length_singleton] at h2 h5
  have hc2 : cur[vs.length * 4 + 2]? = some (.int .i64 r.f1) := by have := ht.c2; rwa [cell_of_row W rb _ cur _ (0, 0) h1] at this
  have hc3 : cur[vs.length * 4 + 3]? = some (.int .i64 r.f2) := by have := ht.c3; rwa [cell_of_row W rb _ cur _ (0, 0) h1] at this
  refine ⟨(cur.setIfInBounds (vs.length * 4) (.slice a1 ps.length c1)).setIfInBounds (vs.length * 4 + 1) (.slice a2 ts.length c2), heap_setCell_same (heap_setCell_same h1 _) _, by rw [List.length_append, List.length_singleton]; exact h2, h3, by simpa using h4, ?_⟩
  rw [List.length_append, List.length_singleton, rowWv_append, rowWv_one]
  apply List.ext_getElem?
  intro i
  by_cases hi : i < vs.length * 4
  · rw [List.getElem?_take_of_lt (by omega), List.getElem?_append_left (by rw [rowWv_length]; exact hi), ← hp, List.getElem?_take_of_lt hi]
    simp only [Array.toList_setIfInBounds, List.getElem?_set]
    rw [if_neg (by omega), if_neg (by omega)]
  · rcases (show i = vs.length * 4 ∨ i = vs.length * 4 + 1 ∨ i = vs.length * 4 + 2 ∨ i = vs.length * 4 + 3 ∨ (vs.length + 1) * 4 ≤ i from by omega) with rfl | rfl | rfl | rfl | h9
    · rw [List.getElem?_take_of_lt (by omega), List.getElem?_append_right (by rw [rowWv_length]; exact Nat.le_refl _), rowWv_length, Nat.sub_self]
      simp only [Array.toList_setIfInBounds, List.getElem?_set]
      rw [if_neg (by omega), if_pos trivial, if_pos (by simp; omega)]
      rfl
    · rw [List.getElem?_take_of_lt (by omega), List.getElem?_append_right (by rw [rowWv_length]; omega), rowWv_length, show vs.length * 4 + 1 - vs.length * 4 = 1 by omega]
      simp only [Array.toList_setIfInBounds, List.getElem?_set]
      rw [if_pos trivial, if_pos (by simp; omega)]
      rfl
    · rw [List.getElem?_take_of_lt (by omega), List.getElem?_append_right (by rw [rowWv_length]; omega), rowWv_length, show vs.length * 4 + 2 - vs.length * 4 = 2 by omega]
      simp only [Array.toList_setIfInBounds, List.getElem?_set]
      rw [if_neg (by omega), if_neg (by omega)]
      simpa [Wv.cells] using hc2
    · rw [List.getElem?_take_of_lt (by omega), List.getElem?_append_right (by rw [rowWv_length]; omega), rowWv_length, show vs.length * 4 + 3 - vs.length * 4 = 3 by omega]
      simp only [Array.toList_setIfInBounds, List.getElem?_set]
      rw [if_neg (by omega), if_neg (by omega)]
      simpa [Wv.cells] using hc3
    · rw [List.getElem?_eq_none (by rw [List.length_take]; omega), List.getElem?_eq_none (by rw [List.length_append, rowWv_length]; simp [Wv.cells]; omega)]
theorem snocW (vs : List Wv) : vs = [] ∨ ∃ us r, vs = us ++ [r] := by
  rcases List.eq_nil_or_concat vs with h | ⟨us, r, h⟩
  · exact .inl h
  · exact .inr ⟨us, r, by rw [h, List.concat_eq_append]⟩
theorem wrowInfo : (Try.prog.info? 64).map (fun i => (i.zero, i.size, i.bytes)) = some (some (.agg #[.slice none 0 0, .slice none 0 0, .int .i64 0, .int .i64 0]), 4, 64) := by kernel_rfl
theorem wv_one (r : Wv) : ∀ u ∈ [Value.slice r.a1 r.ps.length r.c1, .slice r.a2 r.ts.length r.c2, .int .i64 r.f1, .int .i64 r.f2], u.oneCell' = true := by
  intro u hu; simp at hu; rcases hu with rfl | rfl | rfl | rfl <;> rfl
theorem wpile_own {W : World} {n0 n : Nat} {v : Value} {xs : List Value} {vs : List Wv} (h : W.ownsRow n0 64 4 v n xs) (hx : xs = rowWv vs) (hn : vs.length = n) (h0 : 0 < n) : ∃ g c, v = .slice (some ⟨g, 0, none⟩) n c ∧ WPile W g c vs ∧ n0 ≤ g := by
  obtain ⟨_, ⟨_, h⟩ | ⟨g, cap, cur, h1, h2, h3, h4, h5, h6, h7⟩⟩ := h
  · omega
  · subst hx hn
    exact ⟨g, cap, h1, ⟨cur, h3, h4, h5, h6, h7⟩, h2⟩

/-! ### Calls of root among boxes that are new -/
/-- A world behind another one, where no more turned than the row of parts. -/
structure Way (w1 W : World) (fb bm : Nat) (vb vn : Value) (l : List Bn) (V : World) : Prop where
  known : ∃ ps, FnAt w1 V fb bm vb vn l ps ∧ Den l (ps.map Pv.pt)
  step : Step (InNow vn) w1 W w1 V
theorem Way.below {w1 W V U : World} {fb bm : Nat} {vb vn : Value} {l : List Bn} (h : Way w1 W fb bm vb vn l V) (hb : Below V.heap.size V U) : Way w1 W fb bm vb vn l U := by
  obtain ⟨⟨ps, h1, h2⟩, h3⟩ := h
  exact ⟨⟨ps, h1.below hb, h2⟩, h3.below hb⟩
theorem Way.drew {w1 W V : World} {fb bm : Nat} {vb vn : Value} {l : List Bn} (h : Way w1 W fb bm vb vn l V) : Way w1 W fb bm vb vn l V.drew := h.below (Below.refl _ _).drew
theorem Way.alloc {w1 W V : World} {fb bm : Nat} {vb vn : Value} {l : List Bn} (h : Way w1 W fb bm vb vn l V) (o : Obj) : Way w1 W fb bm vb vn l (V.alloc o) := h.below ((Below.refl _ _).alloc (Nat.le_refl _) _)
theorem Way.call {w1 W V U : World} {fb bm : Nat} {vb vn : Value} {l : List Bn} {ps : List Pv} (h : Way w1 W fb bm vb vn l V) (h1 : FnAt w1 U fb bm vb vn l ps) (h2 : Den l (ps.map Pv.pt)) (h3 : Step (InNow vn) w1 V w1 U) : Way w1 W fb bm vb vn l U :=
  ⟨⟨ps, h1, h2⟩, h.step.trans h3⟩
theorem Way.set5 {w1 W V : World} {fb bm : Nat} {vb vn : Value} {l : List Bn} (h : Way w1 W fb bm vb vn l V) (hr : Reads w1 W) {k0 : Nat → Prop} (hlt : ∀ k, InFn fb bm vb vn k → k < W.heap.size) {g : Nat} (hg : W.heap.size ≤ g) (u0 u1 u2 u3 u4 : Value) (_ : k0 = k0) :
    Way w1 W fb bm vb vn l (((((V.setCell ⟨g, 0, none⟩ u0).setCell ⟨g, 1, none⟩ u1).setCell ⟨g, 2, none⟩ u2).setCell ⟨g, 3, none⟩ u3).setCell ⟨g, 4, none⟩ u4) := by
  obtain ⟨⟨ps, h1, h2⟩, h3⟩ := h
  exact ⟨⟨ps, h1.box5 (fun k hk => by have := hlt k hk; omega) _ _ _ _ _ _ _ _ _ _, h2⟩, step_five h3 (blind_new (by have := hr.size; omega)) (fun h => by omega) _ _ _ _ _ _ _ _ _ _⟩
/-- A box of five cells. -/
def FBox (V : World) (g : Nat) (x0 x1 x2 x3 x4 : Value) : Prop := V.heap[g]? = some (.cells #[x0, x1, x2, x3, x4] 83 (0, 0))
theorem FBox.five {V : World} {g : Nat} {x0 x1 x2 x3 x4 : Value} (h : FBox V g x0 x1 x2 x3 x4) : Five V g 0 x0 x1 x2 x3 x4 := five_of h rfl rfl rfl rfl rfl
theorem FBox.lt {V : World} {g : Nat} {x0 x1 x2 x3 x4 : Value} (h : FBox V g x0 x1 x2 x3 x4) : g < V.heap.size := (Array.getElem?_eq_some_iff.1 h).1
theorem fbox_new (V : World) (x0 x1 x2 x3 x4 : Value) : FBox (V.alloc (.cells #[x0, x1, x2, x3, x4] 83)) V.heap.size x0 x1 x2 x3 x4 := heap_alloc_new _ _
theorem FBox.alloc {V : World} {g : Nat} {x0 x1 x2 x3 x4 : Value} (h : FBox V g x0 x1 x2 x3 x4) (o : Obj) : FBox (V.alloc o) g x0 x1 x2 x3 x4 := (Below.heap_alloc _ _ _ h.lt).trans h
theorem FBox.call {w1 V U : World} {C : Nat → Prop} {g : Nat} {x0 x1 x2 x3 x4 : Value} (h : FBox V g x0 x1 x2 x3 x4) (hs : Step C w1 V w1 U) (hC : ¬ C g) : FBox U g x0 x1 x2 x3 x4 := (hs.keep g h.lt hC).trans h
theorem FBox.sets {V : World} {g : Nat} {x0 x1 x2 x3 x4 : Value} (h : FBox V g x0 x1 x2 x3 x4) (y0 y1 y2 y3 y4 : Value) : FBox (((((V.setCell ⟨g, 0, none⟩ y0).setCell ⟨g, 1, none⟩ y1).setCell ⟨g, 2, none⟩ y2).setCell ⟨g, 3, none⟩ y3).setCell ⟨g, 4, none⟩ y4) g y0 y1 y2 y3 y4 := by
  unfold FBox at h ⊢
  rw [heap_setCell_same (heap_setCell_same (heap_setCell_same (heap_setCell_same (heap_setCell_same h _) _) _) _) _]; rfl
theorem FBox.aside {V : World} {g b : Nat} {x0 x1 x2 x3 x4 : Value} (h : FBox V g x0 x1 x2 x3 x4) (hb : g ≠ b) (i0 i1 i2 i3 i4 : Nat) (y0 y1 y2 y3 y4 : Value) : FBox (((((V.setCell ⟨b, i0, none⟩ y0).setCell ⟨b, i1, none⟩ y1).setCell ⟨b, i2, none⟩ y2).setCell ⟨b, i3, none⟩ y3).setCell ⟨b, i4, none⟩ y4) g x0 x1 x2 x3 x4 := by
  unfold FBox
  rw [Below.heap_setCell _ _ _ _ hb, Below.heap_setCell _ _ _ _ hb, Below.heap_setCell _ _ _ _ hb, Below.heap_setCell _ _ _ _ hb, Below.heap_setCell _ _ _ _ hb]
  exact h
end Go.Proofs.Ytedljdcliilggaa

namespace Go.Proofs.Ytedljdcliilggaa
open Go.RowKit

mutual
/-- How deep a term goes. -/
def Tm.dp : Tm → Nat
  | .mk _ _ _ xs => dpL xs + 1
def dpL : List Tm → Nat
  | [] => 0
  | t :: r => max t.dp (dpL r)
end
theorem dp_eq (t : Tm) : t.dp = dpL t.args + 1 := by cases t; rw [Tm.dp]; rfl
theorem dp_mem {x : Tm} : ∀ {l : List Tm}, x ∈ l → x.dp ≤ dpL l
  | t :: r, h => by
    rw [dpL]
    rcases List.mem_cons.1 h with rfl | h
    · omega
    · have := dp_mem h; omega
theorem dp_pos (t : Tm) : 1 ≤ t.dp := by rw [dp_eq]; omega
theorem dpL_one : ∀ {l : List Tm}, l ≠ [] → ∃ x ∈ l, x.dp = dpL l
  | [], h => absurd rfl h
  | [t], _ => ⟨t, List.mem_cons_self, by rw [dpL, dpL]; omega⟩
  | t :: u :: r, _ => by
    rw [dpL]
    by_cases h : dpL (u :: r) ≤ t.dp
    · exact ⟨t, List.mem_cons_self, by omega⟩
    · obtain ⟨x, hx, he⟩ := dpL_one (l := u :: r) (by simp)
      exact ⟨x, List.mem_cons_of_mem _ hx, by omega⟩
theorem dpL_le {l : List Tm} {d : Nat} (h : ∀ x ∈ l, x.dp ≤ d) : dpL l ≤ d := by
  by_cases hl : l = []
  · subst hl; rw [dpL]; omega
  · obtain ⟨x, hx, he⟩ := dpL_one hl
    have := h x hx; omega
/-- As many as there are depths. -/
theorem depths_in (P : List Tm) (hc : ∀ u ∈ P, ∀ x ∈ u.args, x.args = [] ∨ x ∈ P) : ∀ (d : Nat) (v : Tm), v ∈ P → v.dp = d → ∀ e, 2 ≤ e → e ≤ d → ∃ u ∈ P, u.dp = e := by
  intro d
  induction d with
  | zero => intro v _ h; have := dp_pos v; omega
  | succ d ih =>
    intro v hv hd e h2 he
    by_cases h : e = d + 1
    · exact ⟨v, hv, by omega⟩
    · have hd1 : dpL v.args = d := by rw [dp_eq] at hd; omega
      obtain ⟨x, hx, hxe⟩ := dpL_one (l := v.args) (fun h0 => by rw [h0, dpL] at hd1; omega)
      rcases hc v hv x hx with h0 | h0
      · have h1 : x.dp = 1 := by rw [dp_eq, h0, dpL]
        omega
      · exact ih x h0 (by omega) e h2 (by omega)
open Classical in
theorem nodup_leN : ∀ {a b : List Nat}, a.Nodup → (∀ x ∈ a, x ∈ b) → a.length ≤ b.length
  | [], _, _, _ => Nat.zero_le _
  | x :: a, b, ha, h => by
    rw [List.nodup_cons] at ha
    have h1 := nodup_leN (a := a) (b := b.filter (fun z => decide (z ≠ x))) ha.2 (fun y hy => List.mem_filter.2 ⟨h y (List.mem_cons_of_mem _ hy), decide_eq_true (fun e => ha.1 (e ▸ hy))⟩)
    have h3 : (b.filter (fun z => decide (z ≠ x))).length < b.length := List.length_filter_lt_length_iff_exists.2 ⟨x, h x List.mem_cons_self, by simp⟩
    rw [List.length_cons]; omega
theorem closed_depth (P : List Tm) (hc : ∀ u ∈ P, ∀ x ∈ u.args, x.args = [] ∨ x ∈ P) (v : Tm) (hv : v ∈ P) : v.dp ≤ P.length + 1 := by
  have h1 := nodup_leN (a := List.range' 2 (v.dp - 1)) (b := P.map Tm.dp) List.nodup_range' (fun e he => by
    rw [List.mem_range'_1] at he
    obtain ⟨u, hu, hue⟩ := depths_in P hc v.dp v hv rfl e he.1 (by omega)
    exact List.mem_map.2 ⟨u, hu, hue⟩)
  rw [List.length_range', List.length_map] at h1
  omega
theorem arS_len : ∀ {P : List Tm}, (∀ u ∈ P, u.args ≠ []) → P.length ≤ arS P
  | [], _ => Nat.zero_le _
  | u :: P, h => by
    have h1 := arS_len (P := P) (fun x hx => h x (List.mem_cons_of_mem _ hx))
    have h2 := List.length_pos_iff.2 (h u List.mem_cons_self)
    rw [List.length_cons, arS_cons]; omega
theorem arS_sift (p : Tm → Bool) : ∀ (P : List Tm), arS (P.filter p) ≤ arS P
  | [] => Nat.le_refl _
  | u :: P => by
    have h := arS_sift p P
    rw [List.filter_cons]
    split
    · rw [arS_cons, arS_cons]; omega
    · rw [arS_cons]; omega
theorem UInv.deep {P : List Tm} {A : Tm} {us bs : List Tm} (h : UInv P A us bs) : A.dp ≤ 100 := by
  have h1 : ∀ x ∈ A.args, x.dp ≤ 80 := fun x hx => by
    rcases h.rargs x hx with h0 | h0
    · rw [dp_eq, h0, dpL]; omega
    · by_cases he : x.args = []
      · rw [dp_eq, he, dpL]; omega
      · have hc : ∀ u ∈ P.filter (fun u => !u.args.isEmpty), ∀ y ∈ u.args, y.args = [] ∨ y ∈ P.filter (fun u => !u.args.isEmpty) := fun u hu y hy => by
          rcases h.closed u (List.mem_filter.1 hu).1 y hy with hy | hy
          · exact .inl hy
          · by_cases hy0 : y.args = []
            · exact .inl hy0
            · exact .inr (List.mem_filter.2 ⟨hy, by simpa using hy0⟩)
        have h2 := closed_depth _ hc x (List.mem_filter.2 ⟨h0, by simpa using he⟩)
        have h3 := arS_len (P := P.filter (fun u => !u.args.isEmpty)) (fun u hu => by simpa using (List.mem_filter.1 hu).2)
        have h4 := arS_sift (fun u => !u.args.isEmpty) P
        have h5 := h.ar
        have h6 := h.some_
        omega
  rw [dp_eq]
  have := dpL_le h1
  omega
/-- Row i's terms lie i deep, whatever is put in. -/
def DpK (A : Tm) (l : List Bn) (vs : List Wv) : Prop :=
  ∀ θ : List Bn, (∀ (i : Nat) r, vs[i]? = some r → ∀ t ∈ r.ps, (appT θ (appR (l.drop r.f1) t)).dp + i ≤ (appT θ A).dp + 1) ∧ vs.length ≤ (appT θ A).dp + 2
theorem DpK.pop {A : Tm} {l : List Bn} {vs : List Wv} {r : Wv} (h : DpK A l (vs ++ [r])) : DpK A l vs := fun θ => by
  obtain ⟨h1, h2⟩ := h θ
  refine ⟨fun i q hq t ht => h1 i q (by rw [List.getElem?_append_left (List.getElem?_eq_some_iff.1 hq).1]; exact hq) t ht, ?_⟩
  rw [List.length_append, List.length_singleton] at h2; omega
theorem snoc_get {α : Type} {vs : List α} {r q : α} {i : Nat} (h : (vs ++ [r])[i]? = some q) : vs[i]? = some q ∨ (i = vs.length ∧ q = r) := by
  rcases Nat.lt_or_ge i vs.length with hi | hi
  · rw [List.getElem?_append_left hi] at h; exact .inl h
  · rw [List.getElem?_append_right hi] at h
    have e : i - vs.length = 0 := by
      rcases Nat.eq_zero_or_pos (i - vs.length) with e | e
      · exact e
      · rw [List.getElem?_eq_none (by rw [List.length_singleton]; omega)] at h; cases h
    rw [e] at h
    simp only [List.getElem?_cons_zero, Option.some.injEq] at h
    exact .inr ⟨by omega, h.symm⟩
theorem DpK.tail {A : Tm} {l : List Bn} {vs : List Wv} {r q : Wv} (h : DpK A l (vs ++ [r])) (hf : q.f1 = r.f1) (hs : ∀ t ∈ q.ps, t ∈ r.ps) : DpK A l (vs ++ [q]) := fun θ => by
  obtain ⟨h1, h2⟩ := h θ
  refine ⟨fun i x hx t ht => ?_, by rw [List.length_append, List.length_singleton] at h2 ⊢; exact h2⟩
  rcases snoc_get hx with hx | ⟨rfl, rfl⟩
  · exact h1 i x (by rw [List.getElem?_append_left (List.getElem?_eq_some_iff.1 hx).1]; exact hx) t ht
  · rw [hf]; exact h1 vs.length r (by simp) t (hs t ht)
theorem DpK.put {A : Tm} {l : List Bn} {vs : List Wv} (c : Bn) (h : DpK A l vs) (hf : ∀ r ∈ vs, r.f1 ≤ l.length) : DpK (appT [c] A) (l ++ [c]) vs := fun θ => by
  obtain ⟨h1, h2⟩ := h (thenB [c] θ)
  rw [then_app] at h1 h2
  refine ⟨fun i r hr t ht => ?_, h2⟩
  have h3 := h1 i r hr t ht
  rw [drop_more (hf r (List.mem_of_getElem? hr)), appR_more]
  rw [then_app] at h3
  exact h3
theorem DpK.args {A : Tm} {l : List Bn} {vs : List Wv} {r q : Wv} {t u : Tm} {g : Nat} (h : DpK A l (vs ++ [r])) (ht : t ∈ r.ps) (hk : u.kind ≠ 1) (he : appR (l.drop g) u = appR (l.drop r.f1) t) (hq : q.ps = u.args) (hg : q.f1 = g) : DpK A l (vs ++ [r] ++ [q]) := fun θ => by
  obtain ⟨h1, h2⟩ := h θ
  have h3 := h1 vs.length r (by simp) t ht
  have h4 := dp_pos (appT θ (appR (l.drop r.f1) t))
  refine ⟨fun i x hx y hy => ?_, by rw [List.length_append, List.length_append, List.length_singleton, List.length_singleton]; omega⟩
  rcases snoc_get hx with hx | ⟨rfl, rfl⟩
  · exact h1 i x hx y hy
  · rw [hq] at hy
    rw [hg, List.length_append, List.length_singleton]
    have h5 : (appT θ (appR (l.drop r.f1) t)).args = (u.args.map (appR (l.drop g))).map (appT θ) := by
      rw [← he, appR_head _ hk, app_head (t := .mk u.kind u.name u.n (u.args.map (appR (l.drop g)))) hk, ← appL_map]; rfl
    have h6 : (appT θ (appR (l.drop g) y)).dp ≤ dpL ((u.args.map (appR (l.drop g))).map (appT θ)) := dp_mem (List.mem_map.2 ⟨_, List.mem_map.2 ⟨y, hy, rfl⟩, rfl⟩)
    rw [dp_eq (appT θ (appR (l.drop r.f1) t)), h5] at h3
    omega
/-- How many rows may wait. -/
def Deep (l : List Bn) (vs : List Wv) : Prop :=
  (∃ P A, UInv P A (upA l vs) (upB l vs) ∧ DpK A l vs) ∨
  (∃ r a b, vs = [r] ∧ l = [] ∧ r.ps = [a] ∧ r.ts = [b] ∧ PlainT a ∧ PlainT b ∧ a.parts ≤ 40 ∧ b.parts ≤ 40) ∨
  (upA l vs = [] ∧ upB l vs = [] ∧ vs.length ≤ 2)
theorem Deep.few {l : List Bn} {vs : List Wv} (h : Deep l vs) : vs.length ≤ 102 := by
  rcases h with ⟨P, A, h1, h2⟩ | ⟨r, a, b, rfl, _⟩ | ⟨_, _, h⟩
  · have h3 := (h2 []).2
    rw [appT_none] at h3
    have := h1.deep; omega
  · simp
  · omega
theorem Deep.pop {l : List Bn} {vs : List Wv} {r : Wv} (h : Deep l (vs ++ [r])) (h1 : r.ps = []) (h2 : r.ts = []) : Deep l vs := by
  have e1 : upA l (vs ++ [r]) = upA l vs := by rw [upA_snoc, h1]; rfl
  have e2 : upB l (vs ++ [r]) = upB l vs := by rw [upB_snoc, h2]; rfl
  rcases h with ⟨P, A, h3, h4⟩ | ⟨r', a, b, e, _, e3, _⟩ | ⟨h3, h4, h5⟩
  · rw [e1, e2] at h3; exact .inl ⟨P, A, h3, h4.pop⟩
  · cases vs with
    | nil => simp only [List.nil_append, List.cons.injEq, and_true] at e; subst e; rw [h1] at e3; cases e3
    | cons x xs => simp at e
  · rw [e1] at h3; rw [e2] at h4; rw [List.length_append] at h5; exact .inr (.inr ⟨h3, h4, by omega⟩)
/-- The top of the rows, and what is left of it. -/
structure TopOf (l : List Bn) (vs : List Wv) (r q : Wv) (A B : Tm) : Prop where
  one : upA l (vs ++ [r]) = A :: upA l (vs ++ [q])
  two : upB l (vs ++ [r]) = B :: upB l (vs ++ [q])
theorem top_of {l : List Bn} {vs : List Wv} {r q : Wv} {p t : Tm} (h1 : r.ps = p :: q.ps) (h2 : r.ts = t :: q.ts) (h3 : q.f1 = r.f1) (h4 : q.f2 = r.f2) : TopOf l vs r q (appR (l.drop r.f1) p) (appR (l.drop r.f2) t) :=
  ⟨by rw [upA_snoc, upA_snoc, h1, h3]; rfl, by rw [upB_snoc, upB_snoc, h2, h4]; rfl⟩
theorem Deep.same {l : List Bn} {vs : List Wv} {r q : Wv} {p t : Tm} (h : Deep l (vs ++ [r])) (h1 : r.ps = p :: q.ps) (h2 : r.ts = t :: q.ts) (h3 : q.f1 = r.f1) (h4 : q.f2 = r.f2) : Deep l (vs ++ [q]) := by
  have hT := top_of (l := l) (vs := vs) h1 h2 h3 h4
  rcases h with ⟨P, A, h5, h6⟩ | ⟨r', a, b, e, rfl, e3, e4, _⟩ | ⟨h5, _, _⟩
  · rw [hT.one, hT.two] at h5
    exact .inl ⟨P, A, h5.same, h6.tail h3 (fun x hx => by rw [h1]; exact List.mem_cons_of_mem _ hx)⟩
  · cases vs with
    | nil =>
      simp only [List.nil_append, List.cons.injEq, and_true] at e; subst e
      rw [h1] at e3; rw [h2] at e4
      injection e3 with _ e3; injection e4 with _ e4
      exact .inr (.inr ⟨by rw [upA_snoc, e3]; rfl, by rw [upB_snoc, e4]; rfl, by simp⟩)
    | cons x xs => simp at e
  · rw [hT.one] at h5; cases h5
theorem Deep.bind {l : List Bn} {vs : List Wv} {r q : Wv} {p t u : Tm} {s : ByteArray} (h : Deep l (vs ++ [r])) (h1 : r.ps = p :: q.ps) (h2 : r.ts = t :: q.ts) (h3 : q.f1 = r.f1) (h4 : q.f2 = r.f2) (hf : ∀ x ∈ vs ++ [q], x.f1 ≤ l.length ∧ x.f2 ≤ l.length)
    (hu : u = appR (l.drop r.f1) p ∨ u = appR (l.drop r.f2) t) (ho : ¬ HasV s u) : Deep (l ++ [(s, u)]) (vs ++ [q]) := by
  have hT := top_of (l := l) (vs := vs) h1 h2 h3 h4
  rcases h with ⟨P, A, h5, h6⟩ | ⟨r', a, b, e, rfl, e3, e4, _⟩ | ⟨h5, _, _⟩
  · rw [hT.one, hT.two] at h5
    refine .inl ⟨P.map (appT [(s, u)]), appT [(s, u)] A, ?_, DpK.put (s, u) (h6.tail h3 (fun x hx => by rw [h1]; exact List.mem_cons_of_mem _ hx)) (fun x hx => (hf x hx).1)⟩
    rw [upA_more l (s, u) _ (fun x hx => (hf x hx).1), upB_more l (s, u) _ (fun x hx => (hf x hx).2)]
    exact h5.put (by rcases hu with rfl | rfl; exact h5.gus _ List.mem_cons_self; exact h5.gbs _ List.mem_cons_self) ho
  · cases vs with
    | nil =>
      simp only [List.nil_append, List.cons.injEq, and_true] at e; subst e
      rw [h1] at e3; rw [h2] at e4
      injection e3 with _ e3; injection e4 with _ e4
      exact .inr (.inr ⟨by rw [upA_snoc, e3]; rfl, by rw [upB_snoc, e4]; rfl, by simp⟩)
    | cons x xs => simp at e
  · rw [hT.one] at h5; cases h5
theorem Deep.args {l : List Bn} {vs : List Wv} {r q z : Wv} {p t u v : Tm} {g k : Nat} (h : Deep l (vs ++ [r])) (h1 : r.ps = p :: q.ps) (h2 : r.ts = t :: q.ts) (h3 : q.f1 = r.f1) (h4 : q.f2 = r.f2)
    (hu : appR (l.drop g) u = appR (l.drop r.f1) p) (hv : appR (l.drop k) v = appR (l.drop r.f2) t) (ku : u.kind ≠ 1) (kv : v.kind ≠ 1) (hl : u.args.length = v.args.length) (z1 : z.ps = u.args) (z2 : z.ts = v.args) (z3 : z.f1 = g) (z4 : z.f2 = k) : Deep l (vs ++ [q] ++ [z]) := by
  have hT := top_of (l := l) (vs := vs) h1 h2 h3 h4
  have e1 : upA l (vs ++ [q] ++ [z]) = (appR (l.drop r.f1) p).args ++ upA l (vs ++ [q]) := by
    rw [upA_snoc, z1, z3, ← hu, appR_head _ ku]; rfl
  have e2 : upB l (vs ++ [q] ++ [z]) = (appR (l.drop r.f2) t).args ++ upB l (vs ++ [q]) := by
    rw [upB_snoc, z2, z4, ← hv, appR_head _ kv]; rfl
  have hka : (appR (l.drop r.f1) p).kind ≠ 1 := by rw [← hu, appR_head _ ku]; exact ku
  rcases h with ⟨P, A, h5, h6⟩ | ⟨r', a, b, e, rfl, e3, e4, pa, pb, na, nb⟩ | ⟨h5, _, _⟩
  · rw [hT.one, hT.two] at h5
    refine .inl ⟨P, A, by rw [e1, e2]; exact h5.args hka, ?_⟩
    have h7 := DpK.args (q := z) h6 (show p ∈ r.ps by rw [h1]; exact List.mem_cons_self) ku hu z1 z3
    intro θ
    obtain ⟨h8, h9⟩ := h7 θ
    refine ⟨fun i x hx y hy => ?_, by simpa using h9⟩
    rcases snoc_get hx with hx | ⟨rfl, rfl⟩
    · rcases snoc_get hx with hx | ⟨rfl, rfl⟩
      · exact h8 i x (by
          have hi := (List.getElem?_eq_some_iff.1 hx).1
          rw [List.getElem?_append_left (by rw [List.length_append]; omega), List.getElem?_append_left hi]; exact hx) y hy
      · rw [h3]
        exact h8 vs.length r (by rw [List.getElem?_append_left (by rw [List.length_append, List.length_singleton]; omega)]; simp) y (by rw [h1]; exact List.mem_cons_of_mem _ hy)
    · exact h8 _ x (by rw [List.length_append, List.length_singleton, List.getElem?_append_right (by rw [List.length_append, List.length_singleton]; omega)]; simp) y hy
  · cases vs with
    | nil =>
      simp only [List.nil_append, List.cons.injEq, and_true] at e; subst e
      rw [h1] at e3; rw [h2] at e4
      injection e3 with ep e3; injection e4 with et e4
      subst ep et
      simp only [List.drop_nil, appR] at hu hv e1 e2
      have eu := hu.symm
      have ev := hv.symm
      subst eu ev
      have f1 : upA [] ([] ++ [q]) = [] := by rw [upA_snoc, e3]; rfl
      have f2 : upB [] ([] ++ [q]) = [] := by rw [upB_snoc, e4]; rfl
      rw [f1, List.append_nil] at e1
      rw [f2, List.append_nil] at e2
      by_cases h0 : p.args.length = 0
      · exact .inr (.inr ⟨by rw [e1]; exact List.eq_nil_of_length_eq_zero h0, by rw [e2]; exact List.eq_nil_of_length_eq_zero (by omega), by simp⟩)
      · obtain ⟨P, hU⟩ := uinv_start pa pb ku hl (by omega) na nb
        refine .inl ⟨P, p, by rw [e1, e2]; exact hU, fun θ => ⟨fun i x hx y hy => ?_, by simp⟩⟩
        rcases snoc_get hx with hx | ⟨rfl, rfl⟩
        · rcases snoc_get hx with hx | ⟨rfl, rfl⟩
          · simp at hx
          · rw [e3] at hy; cases hy
        · rw [List.drop_nil, appR, dp_eq (appT θ p), app_args ku]
          rw [z1] at hy
          have h6 : (appT θ y).dp ≤ dpL (appL θ p.args) := dp_mem (by rw [appL_map]; exact List.mem_map.2 ⟨y, hy, rfl⟩)
          simp only [List.nil_append, List.length_singleton]
          omega
    | cons x xs => simp at e
  · rw [hT.one] at h5; cases h5
end Go.Proofs.Ytedljdcliilggaa
