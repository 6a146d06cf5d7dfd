/-
  A term with other ones in the places of some of its parts, as data; and the frame of a call that turns one block of before at most. No function of the program.
-/
import Derived.Test.YtcoaneipajadiaaFresh
namespace Go.Proofs.Ytcoaneipajadiaa
open Go.RowKit

mutual
/-- A term with what f tells of each part in that part's place. -/
def repT (f : Tm → Option Tm) : Tm → Tm
  | .mk k s n xs => match f (.mk k s n xs) with
    | some u => u
    | none => .mk k s n (repL f xs)
def repL (f : Tm → Option Tm) : List Tm → List Tm
  | [] => []
  | t :: r => repT f t :: repL f r
end
mutual
/-- Whether f tells anything of any part. -/
def repB (f : Tm → Option Tm) : Tm → Bool
  | .mk k s n xs => (f (.mk k s n xs)).isSome || repBL f xs
def repBL (f : Tm → Option Tm) : List Tm → Bool
  | [] => false
  | t :: r => repB f t || repBL f r
end
mutual
/-- Whether all parts that are asked pass a test. -/
def okT (o : Tm → Bool) (f : Tm → Option Tm) : Tm → Bool
  | .mk k s n xs => o (.mk k s n xs) && ((f (.mk k s n xs)).isSome || okL o f xs)
def okL (o : Tm → Bool) (f : Tm → Option Tm) : List Tm → Bool
  | [] => true
  | t :: r => okT o f t && okL o f r
end
theorem repL_map (f : Tm → Option Tm) : ∀ l : List Tm, repL f l = l.map (repT f)
  | [] => by rw [repL]; rfl
  | t :: r => by rw [repL, repL_map f r]; rfl
theorem repBL_any (f : Tm → Option Tm) : ∀ l : List Tm, repBL f l = l.any (repB f)
  | [] => by rw [repBL]; rfl
  | t :: r => by rw [repBL, repBL_any f r]; rfl
theorem okL_all (o : Tm → Bool) (f : Tm → Option Tm) : ∀ l : List Tm, okL o f l = l.all (okT o f)
  | [] => by rw [okL]; rfl
  | t :: r => by rw [okL, okL_all o f r]; rfl
theorem repT_some {f : Tm → Option Tm} {t u : Tm} (h : f t = some u) : repT f t = u ∧ repB f t = true := by
  cases t; rw [repT, repB, h]; exact ⟨rfl, rfl⟩
theorem repT_none {f : Tm → Option Tm} {t : Tm} (h : f t = none) : repT f t = .mk t.kind t.name t.n (t.args.map (repT f)) ∧ repB f t = t.args.any (repB f) := by
  cases t; rw [repT, repB, h, repL_map, repBL_any]; exact ⟨rfl, rfl⟩
theorem okT_eq (o : Tm → Bool) (f : Tm → Option Tm) (t : Tm) : okT o f t = (o t && ((f t).isSome || t.args.all (okT o f))) := by
  cases t; rw [okT, okL_all]; rfl
mutual
theorem repT_same (f : Tm → Option Tm) : ∀ t : Tm, repB f t = false → repT f t = t
  | .mk k s n xs, h => by
    rw [repB, Bool.or_eq_false_iff] at h
    have hn : f (.mk k s n xs) = none := by simpa using h.1
    rw [repT, hn, repL_same f xs h.2]
theorem repL_same (f : Tm → Option Tm) : ∀ l : List Tm, repBL f l = false → repL f l = l
  | [], _ => by rw [repL]
  | t :: r, h => by
    rw [repBL, Bool.or_eq_false_iff] at h
    rw [repL, repT_same f t h.1, repL_same f r h.2]
end
/-- One argument more. -/
theorem any_take {l : List Tm} {k : Nat} (g : Tm → Bool) (h : k < l.length) : (l.take (k + 1)).any g = ((l.take k).any g || g l[k]) := by
  rw [List.take_succ_eq_append_getElem h, List.any_append]; simp
theorem all_take {l : List Tm} {k : Nat} (g : Tm → Bool) (h : k < l.length) : (l.take (k + 1)).all g = ((l.take k).all g && g l[k]) := by
  rw [List.take_succ_eq_append_getElem h, List.all_append]; simp
/-- The first k parts put, the others as they were. -/
def putK (f : Tm → Option Tm) (l : List Tm) (k : Nat) : List Tm := (l.take k).map (repT f) ++ l.drop k
theorem putK_zero (f : Tm → Option Tm) (l : List Tm) : putK f l 0 = l := by unfold putK; simp
theorem putK_length (f : Tm → Option Tm) (l : List Tm) (k : Nat) : (putK f l k).length = l.length := by
  unfold putK; rw [List.length_append, List.length_map, List.length_take, List.length_drop]; omega
theorem putK_all (f : Tm → Option Tm) (l : List Tm) : putK f l l.length = l.map (repT f) := by unfold putK; simp
theorem putK_set (f : Tm → Option Tm) {l : List Tm} {k : Nat} (h : k < l.length) : (putK f l k).set k (repT f l[k]) = putK f l (k + 1) := by
  unfold putK
  have hl : ((l.take k).map (repT f)).length = k := by rw [List.length_map, List.length_take]; omega
  rw [List.set_append_right k _ (by omega), hl, Nat.sub_self, List.drop_eq_getElem_cons h, List.set_cons_zero, List.take_succ_eq_append_getElem h, List.map_append, List.append_assoc]
  rfl
theorem putK_same (f : Tm → Option Tm) {l : List Tm} {k : Nat} (h : k < l.length) (hs : repB f l[k] = false) : putK f l (k + 1) = putK f l k := by
  unfold putK
  rw [List.take_succ_eq_append_getElem h, List.map_append, List.append_assoc, List.map_singleton, repT_same f _ hs, List.singleton_append, ← List.drop_eq_getElem_cons h]
theorem putK_none (f : Tm → Option Tm) {l : List Tm} {k : Nat} (h : (l.take k).any (repB f) = false) : putK f l k = l := by
  have e := repL_same f (l.take k) (by rw [repBL_any]; exact h)
  rw [repL_map] at e
  unfold putK
  rw [e, List.take_append_drop]

/-! ### The frame: nothing of before turns but one block -/
theorem grown_refl (w : World) (G : Option Nat) : w.grownBy w G := ⟨rfl, rfl, rfl, Nat.le_refl _, fun _ _ _ => rfl⟩
theorem grown_of_below {w w' : World} (h : Below w.heap.size w w') (G : Option Nat) : w.grownBy w' G := ⟨h.os, h.tape, h.output, h.size, fun k hk _ => h.block k hk⟩
theorem grown_trans {w w1 w2 : World} {G : Option Nat} (h : w.grownBy w1 G) (k : w1.grownBy w2 G) : w.grownBy w2 G :=
  ⟨k.os.trans h.os, k.tape.trans h.tape, k.output.trans h.output, Nat.le_trans h.size k.size, fun b hb hne => (k.block b (Nat.lt_of_lt_of_le hb h.size) hne).trans (h.block b hb hne)⟩
theorem grown_below {w w1 w2 : World} {G : Option Nat} (h : w.grownBy w1 G) (k : Below w1.heap.size w1 w2) : w.grownBy w2 G := grown_trans h (grown_of_below k G)
theorem grown_set {w w1 : World} {G : Option Nat} (h : w.grownBy w1 G) {p : Addr} (hp : w.heap.size ≤ p.block) (x : Value) : w.grownBy (w1.setCell p x) G :=
  ⟨h.os, h.tape, h.output, by simpa using h.size, fun b hb hne => by rw [Below.heap_setCell _ _ _ _ (by omega)]; exact h.block b hb hne⟩
theorem grown_alloc {w w1 : World} {G : Option Nat} (h : w.grownBy w1 G) (o : Obj) : w.grownBy (w1.alloc o) G := grown_below h ((Below.refl _ _).alloc (Nat.le_refl _) _)
theorem below_grown {w0 w w1 : World} {G : Option Nat} (h : Below w0.heap.size w0 w) (hg : w.grownBy w1 G) (hG : ∀ k, G = some k → w0.heap.size ≤ k) : Below w0.heap.size w0 w1 := h.grown hg h.size hG
/-- A row's terms, behind a call that turns nothing of what was made since. -/
theorem Beside.frm {w0 w wr w' : World} {o : Value} {y : Tv} {G : Option Nat} (h : Beside w0 w wr o y) (hg : wr.grownBy w' G) (hG : ∀ k, G = some k → k < w.heap.size) : Beside w0 w w' o y := fun W h1 h2 h3 =>
  h W h1 (Nat.le_trans hg.size h2) (fun b b1 b2 b3 => by
    rw [h3 b b1 (Nat.lt_of_lt_of_le b2 hg.size) b3]
    exact hg.block b b2 (fun e => by have := hG b e.symm; omega))
theorem Box.frm {w w1 : World} {g : Nat} {x0 x1 x2 x3 : Value} {G : Option Nat} (h : Box w g x0 x1 x2 x3) (hb : w.grownBy w1 G) (hg : g < w.heap.size) (hG : ∀ k, G = some k → k ≠ g) : Box w1 g x0 x1 x2 x3 := by
  have e : ∀ o, w1.cell? ⟨g, o, none⟩ = w.cell? ⟨g, o, none⟩ := fun o => World.cell?_of_block (hb.block g hg (fun e => hG g e.symm rfl))
  have e2 : ∀ o, w1.frozen? ⟨g, o, none⟩ = w.frozen? ⟨g, o, none⟩ := fun o => World.frozen?_of_block (hb.block g hg (fun e => hG g e.symm rfl))
  exact ⟨(e 0).trans h.c0, (e 1).trans h.c1, (e 2).trans h.c2, (e 3).trans h.c3, (e2 0).trans h.f0, (e2 1).trans h.f1, (e2 2).trans h.f2, (e2 3).trans h.f3⟩
/-- A row's terms, behind a store into the row itself. -/
theorem Beside.sets {w0 w wr : World} {o : Value} {y : Tv} {g : Nat} (h : Beside w0 w wr o y) (ho : o.ownBlock = some g) (i0 i1 i2 i3 : Nat) (u0 u1 u2 u3 : Value) :
    Beside w0 w ((((wr.setCell ⟨g, i0, none⟩ u0).setCell ⟨g, i1, none⟩ u1).setCell ⟨g, i2, none⟩ u2).setCell ⟨g, i3, none⟩ u3) o y := fun W h1 h2 h3 =>
  h W h1 (by simpa using h2) (fun b b1 b2 b3 => by
    have hne : b ≠ g := fun e => b3 (by rw [ho, e])
    rw [h3 b b1 (by simpa using b2) b3, Below.heap_setCell _ _ _ _ hne, Below.heap_setCell _ _ _ _ hne, Below.heap_setCell _ _ _ _ hne, Below.heap_setCell _ _ _ _ hne])
theorem grown_sets {w w1 : World} {G : Option Nat} (h : w.grownBy w1 G) {g : Nat} (hp : w.heap.size ≤ g) (i0 i1 i2 i3 : Nat) (u0 u1 u2 u3 : Value) : w.grownBy ((((w1.setCell ⟨g, i0, none⟩ u0).setCell ⟨g, i1, none⟩ u1).setCell ⟨g, i2, none⟩ u2).setCell ⟨g, i3, none⟩ u3) G :=
  grown_set (p := ⟨g, i3, none⟩) (grown_set (p := ⟨g, i2, none⟩) (grown_set (p := ⟨g, i1, none⟩) (grown_set (p := ⟨g, i0, none⟩) h hp _) hp _) hp _) hp _
theorem bsets {B : Nat} {a w : World} (h : Below B a w) {g : Nat} (hg : B ≤ g) (i0 i1 i2 i3 : Nat) (u0 u1 u2 u3 : Value) : Below B a ((((w.setCell ⟨g, i0, none⟩ u0).setCell ⟨g, i1, none⟩ u1).setCell ⟨g, i2, none⟩ u2).setCell ⟨g, i3, none⟩ u3) :=
  (((h.setCell (p := ⟨g, i0, none⟩) hg _).setCell (p := ⟨g, i1, none⟩) hg _).setCell (p := ⟨g, i2, none⟩) hg _).setCell (p := ⟨g, i3, none⟩) hg _
end Go.Proofs.Ytcoaneipajadiaa
