/-
  Small facts that every layer's texts use: answers, boxes of two and of four cells, rows that the call itself makes, and memory behind memory. Nothing of the program's functions.
  Terms xs data; struct values and rows in memory that read xs terms; and that a call which makes new memory alone leaves them xs they were.
  Whether two terms are alike, by the reference of layer 3: Same, for any two terms in memory.
  How many parts a term has, up to a bound, by the reference of layer 3: count, for any term in memory.
-/
import Derived.Test.YtedljdcliilggaaRows
import Derived.WalkKit
import Derived.WalkSpells
import Derived.WalkLawsBesides
import Derived.Lib.Hide
import Derived.Lib.SlicesS
import Derived.OwnWalk
import Derived.Below
import Derived.Laws.OwnMore
import Derived.Laws.MakeOwn
import Derived.StillTailTactics
namespace Go.Proofs.Ytedljdcliilggaa
open Go.RowKit

theorem ret_int {k : IntKind} {a b : Int} (h : a = b) : Ending.returned (.int k a) = .returned (.int k b) := by rw [h]
theorem ret_bool {a b : Bool} (h : a = b) : Ending.returned (.bool a) = .returned (.bool b) := by rw [h]

theorem ret_val {a b : Value} (h : a = b) : Ending.returned a = .returned b := by rw [h]

theorem below_drewN {B : Nat} {a w : World} (h : Below B a w) (n : Nat) : Below B a (w.drewN n) := ⟨h.os, h.tape, h.output, h.size, h.block⟩

/-- A box of four cells, behind a call that made new memory alone. -/
structure Box (w1 : World) (g : Nat) (x0 x1 x2 x3 : Value) : Prop where
  c0 : w1.cell? ⟨g, 0, none⟩ = some x0
  c1 : w1.cell? ⟨g, 1, none⟩ = some x1
  c2 : w1.cell? ⟨g, 2, none⟩ = some x2
  c3 : w1.cell? ⟨g, 3, none⟩ = some x3
  f0 : w1.frozen? ⟨g, 0, none⟩ = false
  f1 : w1.frozen? ⟨g, 1, none⟩ = false
  f2 : w1.frozen? ⟨g, 2, none⟩ = false
  f3 : w1.frozen? ⟨g, 3, none⟩ = false
theorem box_new (w : World) (x0 x1 x2 x3 : Value) (t : TypeId) : Box (w.alloc (.cells #[x0, x1, x2, x3] t)) w.heap.size x0 x1 x2 x3 where
  c0 := World.cell?_alloc_mark w #[x0, x1, x2, x3] t (0, 0) 0
  c1 := World.cell?_alloc_mark w #[x0, x1, x2, x3] t (0, 0) 1
  c2 := World.cell?_alloc_mark w #[x0, x1, x2, x3] t (0, 0) 2
  c3 := World.cell?_alloc_mark w #[x0, x1, x2, x3] t (0, 0) 3
  f0 := by simp
  f1 := by simp
  f2 := by simp
  f3 := by simp
theorem Box.below {w w1 : World} {g B : Nat} {x0 x1 x2 x3 : Value} (h : Box w g x0 x1 x2 x3) (hb : Below B w w1) (hg : g < B) : Box w1 g x0 x1 x2 x3 where
  c0 := (hb.cell (p := ⟨g, 0, none⟩) hg).trans h.c0
  c1 := (hb.cell (p := ⟨g, 1, none⟩) hg).trans h.c1
  c2 := (hb.cell (p := ⟨g, 2, none⟩) hg).trans h.c2
  c3 := (hb.cell (p := ⟨g, 3, none⟩) hg).trans h.c3
  f0 := (hb.frozen (p := ⟨g, 0, none⟩) hg).trans h.f0
  f1 := (hb.frozen (p := ⟨g, 1, none⟩) hg).trans h.f1
  f2 := (hb.frozen (p := ⟨g, 2, none⟩) hg).trans h.f2
  f3 := (hb.frozen (p := ⟨g, 3, none⟩) hg).trans h.f3
theorem box_after {w w1 : World} {x0 x1 x2 x3 : Value} {t : TypeId} (hb : Below (w.alloc (.cells #[x0, x1, x2, x3] t)).heap.size (w.alloc (.cells #[x0, x1, x2, x3] t)) w1) : Box w1 w.heap.size x0 x1 x2 x3 :=
  (box_new w x0 x1 x2 x3 t).below hb (by simp)
theorem below_box {w w1 : World} {o : Obj} (hb : Below (w.alloc o).heap.size (w.alloc o) w1) : Below w.heap.size w w1 :=
  ((Below.refl _ _).alloc (Nat.le_refl _) _).trans (hb.mono (by simp))
theorem below_box' {w w1 : World} {o : Obj} {g : Nat} {x0 x1 x2 x3 : Value} (hx : Box (w.alloc o) g x0 x1 x2 x3) (hb : Below (w.alloc o).heap.size (w.alloc o) w1) (hg : g = w.heap.size := by rfl) : Box w1 g x0 x1 x2 x3 ∧ Below w.heap.size w w1 ∧ w.heap.size < w1.heap.size :=
  ⟨hx.below hb (by subst hg; simp), below_box hb, by have := hb.size; simp at this; omega⟩
theorem new_row4 (w : World) (b : Nat) (hb : b = w.heap.size) (x0 x1 x2 x3 : Value) (t : TypeId) : ∀ j u, [x0, x1, x2, x3][j]? = some u → (w.alloc (.cells #[x0, x1, x2, x3] t)).cell? ((⟨b, 0, none⟩ : Addr).add j) = some u := by
  subst hb
  intro j u hj
  have e := World.cell?_alloc_mark w #[x0, x1, x2, x3] t (0, 0) (0 + j)
  have : ((⟨w.heap.size, 0, none⟩ : Addr).add j) = ⟨w.heap.size, 0 + j, none⟩ := by
    unfold Addr.add; split
    · next h => subst h; rfl
    · rfl
  rw [this, e]
  simpa using hj
theorem own_row_ge {w : World} {base : Nat} {e : TypeId} {size : Nat} {v : Value} {n : Nat} {xs : List Value} (h : w.ownsRow base e size v n xs) : ∀ g, v.ownBlock = some g → base ≤ g := by
  intro g hg
  obtain ⟨_, ⟨rfl, _⟩ | ⟨g', cap, cur, rfl, hb, _⟩⟩ := h
  · cases hg
  · cases hg; exact hb
theorem own_row_lt {w : World} {base : Nat} {e : TypeId} {size : Nat} {v : Value} {n : Nat} {xs : List Value} (h : w.ownsRow base e size v n xs) : ∀ g, v.ownBlock = some g → g < w.heap.size := by
  intro g hg
  obtain ⟨_, ⟨rfl, _⟩ | ⟨g', cap, cur, rfl, hb, hgg, _⟩⟩ := h
  · cases hg
  · injection hg with hg
    subst hg
    rcases Nat.lt_or_ge g' w.heap.size with hlt | hge
    · exact hlt
    · rw [Array.getElem?_eq_none hge] at hgg; cases hgg
/-- A box of two cells. -/
structure Pair (w1 : World) (g : Nat) (x0 x1 : Value) : Prop where
  c0 : w1.cell? ⟨g, 0, none⟩ = some x0
  c1 : w1.cell? ⟨g, 1, none⟩ = some x1
  f0 : w1.frozen? ⟨g, 0, none⟩ = false
  f1 : w1.frozen? ⟨g, 1, none⟩ = false
theorem pair_new (w : World) (x0 x1 : Value) (t : TypeId) : Pair (w.alloc (.cells #[x0, x1] t)) w.heap.size x0 x1 where
  c0 := World.cell?_alloc_mark w #[x0, x1] t (0, 0) 0
  c1 := World.cell?_alloc_mark w #[x0, x1] t (0, 0) 1
  f0 := by simp
  f1 := by simp
theorem Pair.below {w w1 : World} {g B : Nat} {x0 x1 : Value} (h : Pair w g x0 x1) (hb : Below B w w1) (hg : g < B) : Pair w1 g x0 x1 where
  c0 := (hb.cell (p := ⟨g, 0, none⟩) hg).trans h.c0
  c1 := (hb.cell (p := ⟨g, 1, none⟩) hg).trans h.c1
  f0 := (hb.frozen (p := ⟨g, 0, none⟩) hg).trans h.f0
  f1 := (hb.frozen (p := ⟨g, 1, none⟩) hg).trans h.f1
theorem pair_after {w wr : World} {x0 x1 : Value} {t : TypeId} (hb : Below (w.heap.size + 1) (w.alloc (.cells #[x0, x1] t)) wr) : Pair wr w.heap.size x0 x1 :=
  (pair_new w x0 x1 t).below hb (by omega)
theorem below_pair {w wr : World} {o : Obj} (hb : Below (w.heap.size + 1) (w.alloc o) wr) : Below w.heap.size w wr :=
  ((Below.refl _ _).alloc (Nat.le_refl _) _).trans (hb.mono (by omega))
theorem own_lower {w : World} {base b0 : Nat} {e : TypeId} {size : Nat} {v : Value} {n : Nat} {xs : List Value} (h : w.ownsRow base e size v n xs) (hb : b0 ≤ base) : w.ownsRow b0 e size v n xs := by
  obtain ⟨hn, h⟩ := h
  refine ⟨hn, ?_⟩
  rcases h with h | ⟨g, cap, cur, rfl, hbb, hr⟩
  · exact .inl h
  · exact .inr ⟨g, cap, cur, rfl, Nat.le_trans hb hbb, hr⟩
theorem own_below {w w1 : World} {base : Nat} {e : TypeId} {size : Nat} {v : Value} {n : Nat} {xs : List Value} (h : w.ownsRow base e size v n xs) (hb : Below w.heap.size w w1) : w1.ownsRow base e size v n xs := by
  obtain ⟨hn, h⟩ := h
  refine ⟨hn, ?_⟩
  rcases h with h | ⟨g, cap, cur, rfl, hbb, hg, hr⟩
  · exact .inl h
  · refine .inr ⟨g, cap, cur, rfl, hbb, ?_, hr⟩
    rcases Nat.lt_or_ge g w.heap.size with hlt | hge
    · rw [hb.block g hlt]; exact hg
    · rw [Array.getElem?_eq_none hge] at hg; cases hg
/-- A box that was laid ahead of an append, behind it. -/
theorem Box.grown {w w1 : World} {g : Nat} {x0 x1 x2 x3 : Value} {row : Option Nat} (h : Box w g x0 x1 x2 x3) (hg : w.grownBy w1 row) (hlt : g < w.heap.size) (hr : ∀ k, row = some k → k ≠ g) : w1.cell? ⟨g, 1, none⟩ = some x1 := by
  have hb := hg.block g hlt (fun e => hr g e.symm rfl)
  have := World.cell?_of_block (w := w) (w' := w1) (a := ⟨g, 1, none⟩) hb
  rw [this]; exact h.c1
/-- Two memories, one behind the other. -/
theorem below_next {w w1 w2 : World} (h : Below w.heap.size w w1) (h2 : Below w1.heap.size w1 w2) : Below w.heap.size w w2 := h.trans (h2.mono h.size)

end Go.Proofs.Ytedljdcliilggaa

namespace Go.Proofs.Ytedljdcliilggaa
open Go.RowKit

/-- A term: its kind, its name, its number, and its arguments. -/
inductive Tm where
  | mk (kind : Int) (name : ByteArray) (n : Int) (args : List Tm)
def Tm.kind : Tm → Int | .mk k _ _ _ => k
def Tm.name : Tm → ByteArray | .mk _ s _ _ => s
def Tm.n : Tm → Int | .mk _ _ n _ => n
def Tm.args : Tm → List Tm | .mk _ _ _ xs => xs
theorem Tm.eta (t : Tm) : t = .mk t.kind t.name t.n t.args := by cases t; rfl
instance : Inhabited Tm := ⟨.mk 0 ⟨#[]⟩ 0 []⟩

mutual
/-- How many parts a term has. -/
def Tm.parts : Tm → Nat
  | .mk _ _ _ xs => partsL xs + 1
def partsL : List Tm → Nat
  | [] => 0
  | t :: r => t.parts + partsL r
end
theorem parts_eq (t : Tm) : t.parts = partsL t.args + 1 := by cases t; rw [Tm.parts]; rfl
theorem parts_pos (t : Tm) : 1 ≤ t.parts := by rw [parts_eq]; omega
theorem partsL_cons (t : Tm) (r : List Tm) : partsL (t :: r) = t.parts + partsL r := by rw [partsL]
theorem partsL_nil : partsL [] = 0 := by rw [partsL]
theorem partsL_append (a b : List Tm) : partsL (a ++ b) = partsL a + partsL b := by
  induction a with
  | nil => rw [List.nil_append, partsL_nil]; omega
  | cons t r ih => rw [List.cons_append, partsL_cons, partsL_cons, ih]; omega
theorem parts_get (l : List Tm) {j : Nat} (h : j < l.length) : l[j].parts ≤ partsL l := by
  induction l generalizing j with
  | nil => simp at h
  | cons t r ih =>
    rw [partsL_cons]
    cases j with
    | zero => simp
    | succ j => have := ih (j := j) (by simpa using h); simp; omega
theorem parts_arg (t : Tm) {j : Nat} (h : j < t.args.length) : t.args[j].parts < t.parts := by
  rw [parts_eq t]; have := parts_get t.args h; omega
theorem partsL_length (l : List Tm) : l.length ≤ partsL l := by
  induction l with
  | nil => simp
  | cons t r ih => rw [partsL_cons, List.length_cons]; have := parts_pos t; omega
theorem partsL_take (l : List Tm) {k : Nat} (h : k < l.length) : partsL (l.take (k + 1)) = partsL (l.take k) + l[k].parts := by
  rw [List.take_succ_eq_append_getElem h, partsL_append, partsL_cons, partsL_nil]; omega

/-- A term's numbers are int's, and its name is no longer than a text can be. -/
structure Fit (k : Int) (s : ByteArray) (n : Int) : Prop where
  klo : -9223372036854775808 ≤ k
  khi : k ≤ 9223372036854775807
  nlo : -9223372036854775808 ≤ n
  nhi : n ≤ 9223372036854775807
  len : s.size ≤ 9223372036854775807
mutual
/-- A term lies at an address: four cells, and its arguments where the fourth says. -/
def TmAt (w : World) : Tm → Nat → Nat → Prop
  | .mk k s n xs, b, o => Fit k s n ∧ w.cell? ⟨b, o, none⟩ = some (.int .i64 k) ∧ w.cell? ⟨b, o + 1, none⟩ = some (.string s) ∧ w.cell? ⟨b, o + 2, none⟩ = some (.int .i64 n) ∧
    ∃ a c, w.cell? ⟨b, o + 3, none⟩ = some (.slice a xs.length c) ∧ (xs.length ≤ 9223372036854775807 ∧ xs.length ≤ c) ∧ (xs = [] ∨ ∃ b' o', a = some ⟨b', o', none⟩ ∧ b' < w.heap.size ∧ RowAt w xs b' o')
def RowAt (w : World) : List Tm → Nat → Nat → Prop
  | [], _, _ => True
  | t :: r, b, o => TmAt w t b o ∧ RowAt w r b (o + 4)
end
/-- What a slice's address says of its elements. -/
def Args (w : World) (a : Option Addr) (c : Nat) (xs : List Tm) : Prop := (xs.length ≤ 9223372036854775807 ∧ xs.length ≤ c) ∧ (xs = [] ∨ ∃ b o, a = some ⟨b, o, none⟩ ∧ b < w.heap.size ∧ RowAt w xs b o)
theorem rowAt_get {w : World} : ∀ {xs : List Tm} {b o : Nat}, RowAt w xs b o → ∀ {j : Nat} (h : j < xs.length), TmAt w xs[j] b (o + j * 4)
  | [], _, _, _, _, h => by simp at h
  | t :: r, b, o, hr, 0, _ => by rw [RowAt] at hr; simpa using hr.1
  | t :: r, b, o, hr, j + 1, h => by
    rw [RowAt] at hr
    have := rowAt_get hr.2 (j := j) (by simpa using h)
    rw [show o + (j + 1) * 4 = o + 4 + j * 4 from by omega]
    exact this
theorem rowAt_of {w : World} : ∀ {xs : List Tm} {b o : Nat}, (∀ {j : Nat} (h : j < xs.length), TmAt w xs[j] b (o + j * 4)) → RowAt w xs b o
  | [], _, _, _ => by rw [RowAt]; trivial
  | t :: r, b, o, h => by
    rw [RowAt]
    refine ⟨(show TmAt w t b (o + 0 * 4) from h (j := 0) (by simp)), rowAt_of fun {j} hj => ?_⟩
    have := h (j := j + 1) (by simpa using hj)
    rw [show o + (j + 1) * 4 = o + 4 + j * 4 from by omega] at this
    exact this

/-- A term xs a value: the term, the address of its arguments, and their capacity. -/
structure Tv where
  t : Tm
  a : Option Addr
  c : Nat
def Tv.val (v : Tv) : Value := .agg #[.int .i64 v.t.kind, .string v.t.name, .int .i64 v.t.n, .slice v.a v.t.args.length v.c]
def Tv.cells (v : Tv) : List Value := [.int .i64 v.t.kind, .string v.t.name, .int .i64 v.t.n, .slice v.a v.t.args.length v.c]
def Tv.ok (w : World) (v : Tv) : Prop := Fit v.t.kind v.t.name v.t.n ∧ Args w v.a v.c v.t.args
/-- The four cells of a value. -/
structure TvAt (w : World) (b o : Nat) (v : Tv) : Prop where
  c0 : w.cell? ⟨b, o, none⟩ = some (.int .i64 v.t.kind)
  c1 : w.cell? ⟨b, o + 1, none⟩ = some (.string v.t.name)
  c2 : w.cell? ⟨b, o + 2, none⟩ = some (.int .i64 v.t.n)
  c3 : w.cell? ⟨b, o + 3, none⟩ = some (.slice v.a v.t.args.length v.c)
theorem tmAt_tv {w : World} {t : Tm} {b o : Nat} (h : TmAt w t b o) : ∃ v : Tv, v.t = t ∧ v.ok w ∧ TvAt w b o v := by
  cases t with
  | mk k s n xs =>
    rw [TmAt] at h
    obtain ⟨hf, h0, h1, h2, a, c, h3, hl, hr⟩ := h
    exact ⟨⟨.mk k s n xs, a, c⟩, rfl, ⟨hf, hl, hr⟩, h0, h1, h2, h3⟩
theorem tv_tmAt {w : World} {v : Tv} {b o : Nat} (hk : v.ok w) (h : TvAt w b o v) : TmAt w v.t b o := by
  obtain ⟨t, a, c⟩ := v
  cases t with
  | mk k s n xs =>
    rw [TmAt]
    exact ⟨hk.1, h.c0, h.c1, h.c2, a, c, h.c3, hk.2.1, hk.2.2⟩

theorem lt_of_cell {w : World} {b o : Nat} {x : Value} (h : w.cell? ⟨b, o, none⟩ = some x) : b < w.heap.size := by
  rcases Nat.lt_or_ge b w.heap.size with hlt | hge
  · exact hlt
  · unfold World.cell? at h
    simp [Array.getElem?_eq_none hge] at h
mutual
theorem TmAt.below {w w' : World} (hb : Below w.heap.size w w') : ∀ {t : Tm} {b o : Nat}, TmAt w t b o → TmAt w' t b o
  | .mk k s n xs, b, o, h => by
    rw [TmAt] at h ⊢
    obtain ⟨hf, h0, h1, h2, a, c, h3, hl, hr⟩ := h
    have hlt := lt_of_cell h0
    refine ⟨hf, (hb.cell (p := ⟨b, o, none⟩) hlt).trans h0, (hb.cell (p := ⟨b, o + 1, none⟩) hlt).trans h1, (hb.cell (p := ⟨b, o + 2, none⟩) hlt).trans h2, a, c, (hb.cell (p := ⟨b, o + 3, none⟩) hlt).trans h3, hl, ?_⟩
    rcases hr with hr | ⟨b', o', ha, hb', hr⟩
    · exact .inl hr
    · exact .inr ⟨b', o', ha, Nat.lt_of_lt_of_le hb' hb.size, RowAt.below hb hr⟩
theorem RowAt.below {w w' : World} (hb : Below w.heap.size w w') : ∀ {xs : List Tm} {b o : Nat}, RowAt w xs b o → RowAt w' xs b o
  | [], _, _, _ => by rw [RowAt]; trivial
  | t :: r, b, o, h => by
    rw [RowAt] at h ⊢
    exact ⟨TmAt.below hb h.1, RowAt.below hb h.2⟩
end
theorem Args.below {w w' : World} {a : Option Addr} {c : Nat} {xs : List Tm} (h : Args w a c xs) (hb : Below w.heap.size w w') : Args w' a c xs := by
  obtain ⟨hl, h⟩ := h
  refine ⟨hl, ?_⟩
  rcases h with h | ⟨b, o, ha, hlt, hr⟩
  · exact .inl h
  · exact .inr ⟨b, o, ha, Nat.lt_of_lt_of_le hlt hb.size, hr.below hb⟩
theorem Tv.ok.below {w w' : World} {v : Tv} (h : v.ok w) (hb : Below w.heap.size w w') : v.ok w' := ⟨h.1, Args.below h.2 hb⟩

/-- A slice value that reads xs a row of terms. -/
def Tms (w : World) (v : Value) (ts : List Tm) : Prop := ∃ a c, v = .slice a ts.length c ∧ Args w a c ts
theorem Tms.below {w w' : World} {v : Value} {ts : List Tm} (h : Tms w v ts) (hb : Below w.heap.size w w') : Tms w' v ts := by
  obtain ⟨a, c, hv, h⟩ := h
  exact ⟨a, c, hv, h.below hb⟩
theorem Tms.none_ (w : World) (a : Option Addr) (c : Nat) : Tms w (.slice a 0 c) [] := ⟨a, c, rfl, by simp, .inl rfl⟩

/-- Equal, for terms. -/
noncomputable def eqT (t u : Tm) : Bool := @decide (t = u) (Classical.propDecidable _)
theorem eqT_true {t u : Tm} (h : t = u) : eqT t u = true := by unfold eqT; simp [h]
theorem eqT_false {t u : Tm} (h : t ≠ u) : eqT t u = false := by unfold eqT; simp [h]
theorem eqT_iff {t u : Tm} : eqT t u = true ↔ t = u := by unfold eqT; simp
noncomputable def eqTs (ts us : List Tm) : Bool := @decide (ts = us) (Classical.propDecidable _)
theorem eqTs_true {ts us : List Tm} (h : ts = us) : eqTs ts us = true := by unfold eqTs; simp [h]
theorem eqTs_false {ts us : List Tm} (h : ts ≠ us) : eqTs ts us = false := by unfold eqTs; simp [h]
theorem Tv.val_shape (x : Tv) : ∃ (k : Int) (s : ByteArray) (n : Int) (a : Option Addr) (l c : Nat), x.val = .agg #[.int .i64 k, .string s, .int .i64 n, .slice a l c] := ⟨_, _, _, _, _, _, rfl⟩
end Go.Proofs.Ytedljdcliilggaa

namespace Go.Proofs.Ytedljdcliilggaa
open Go.RowKit

theorem Tv.ok.drew {w : World} {v : Tv} (h : v.ok w) : v.ok w.drew := h.below ((Below.refl _ _).drew)
theorem TvAt.below {w w' : World} {b o : Nat} {v : Tv} (h : TvAt w b o v) (hb : Below w.heap.size w w') : TvAt w' b o v where
  c0 := (hb.cell (p := ⟨b, o, none⟩) (lt_of_cell h.c0)).trans h.c0
  c1 := (hb.cell (p := ⟨b, o + 1, none⟩) (lt_of_cell h.c0)).trans h.c1
  c2 := (hb.cell (p := ⟨b, o + 2, none⟩) (lt_of_cell h.c0)).trans h.c2
  c3 := (hb.cell (p := ⟨b, o + 3, none⟩) (lt_of_cell h.c0)).trans h.c3
theorem box_next (w : World) (g : Nat) (hg : g = w.heap.size) (x0 x1 x2 x3 : Value) (t : TypeId) : Box (w.alloc (.cells #[x0, x1, x2, x3] t)) g x0 x1 x2 x3 := by
  subst hg; exact box_new w x0 x1 x2 x3 t
/-- Terms are alike up to k. -/
def TmsTo (xs ys : List Tm) (k : Nat) : Prop := ∀ j (h1 : j < xs.length) (h2 : j < ys.length), j < k → xs[j] = ys[j]
theorem TmsTo.succ {xs ys : List Tm} {k : Nat} (h : TmsTo xs ys k) (h1 : k < xs.length) (h2 : k < ys.length) (hk : xs[k] = ys[k]) : TmsTo xs ys (k + 1) := by
  intro j a b hj
  by_cases e : j = k
  · subst e; exact hk
  · exact h j a b (by omega)
theorem TmsTo.all {xs ys : List Tm} (h : TmsTo xs ys xs.length) (hl : xs.length = ys.length) : xs = ys :=
  List.ext_getElem hl fun j h1 h2 => h j h1 h2 h1
/-- Where two heads part first. -/
theorem tm_ways (k k' : Int) (s s' : ByteArray) (n n' : Int) (l l' : Nat) : (k = k' ∧ s = s' ∧ n = n' ∧ l = l') ∨ (¬ (k = k' ∧ s = s' ∧ n = n' ∧ l = l') ∧ ((k != k') = true ∨ ((k != k') = false ∧ ((n != n') = true ∨ ((n != n') = false ∧ (((s.toList == s'.toList) = false) ∨ ((s.toList == s'.toList) = true ∧ ((l : Int) != (l' : Int)) = true))))))) := by
  by_cases h0 : k = k'
  · by_cases h2 : n = n'
    · by_cases h1 : s = s'
      · by_cases h3 : l = l'
        · exact .inl ⟨h0, h1, h2, h3⟩
        · exact .inr ⟨fun h => h3 h.2.2.2, .inr ⟨by simp [h0], .inr ⟨by simp [h2], .inr ⟨by simp [h1], by rw [bne_iff_ne]; omega⟩⟩⟩⟩
      · exact .inr ⟨fun h => h1 h.2.1, .inr ⟨by simp [h0], .inr ⟨by simp [h2], .inl (by rw [Lib.bytes_beq_false_iff]; exact h1)⟩⟩⟩
    · exact .inr ⟨fun h => h2 h.2.2.1, .inr ⟨by simp [h0], .inl (by rw [bne_iff_ne]; exact h2)⟩⟩
  · exact .inr ⟨fun h => h0 h.1, .inl (by rw [bne_iff_ne]; exact h0)⟩

set_option maxRecDepth 100000 in
set_option maxHeartbeats 2000000 in
theorem same_tm (m : Nat) : ∀ (x y : Tv) (w : World), x.t.parts ≤ m → x.ok w → y.ok w →
    Calls Try.prog 15 #[x.val, y.val] w fun e w' => e = .returned (.bool (eqT x.t y.t)) ∧ Below w.heap.size w w' := by
  induction m with
  | zero => intro x y w h; have := parts_pos x.t; omega
  | succ m ih =>
    intro x y w hm hx hy
    obtain ⟨⟨k, s, n, xs⟩, a, c⟩ := x
    obtain ⟨⟨k', s', n', ys⟩, a', c'⟩ := y
    obtain ⟨_, hxl, hxr⟩ := hx
    obtain ⟨_, hyl, hyr⟩ := hy
    simp only [Tv.val, Tm.kind, Tm.name, Tm.n, Tm.args] at hxl hxr hyl hyr ⊢
    have hpl : ∀ j (h : j < xs.length), xs[j].parts ≤ m := fun j h => by
      have := parts_arg (.mk k s n xs) (j := j) h
      have e : (Tm.mk k s n xs).args[j] = xs[j] := rfl
      rw [e] at this; simp only at hm; omega
    have hbb : Below w.heap.size w ((w.alloc (.cells #[.int .i64 k, .string s, .int .i64 n, .slice a xs.length c] 24)).alloc (.cells #[.int .i64 k', .string s', .int .i64 n', .slice a' ys.length c'] 24)) :=
      ((Below.refl _ _).alloc (Nat.le_refl _) _).alloc (by simp) _
    rcases tm_ways k k' s s' n n' xs.length ys.length with ⟨rfl, rfl, rfl, hlen⟩ | ⟨hne, hw⟩
    · have hq : ((xs.length : Int) != (ys.length : Int)) = false := by simp [hlen]
      have HL := Lib.hid hlen
      have IH := Lib.hid ih
      have HP := Lib.hid hpl
      clear ih hpl hm hlen
      rcases hxr with rfl | ⟨b, off, rfl, hlt, hr⟩
      · have : ys = [] := by simpa using HL.out.symm
        subst this
        have HE := Lib.hid (eqT_true (rfl : Tm.mk k s n [] = Tm.mk k s n []))
        go_enter Try.func15, Try.ntmps15
        go_wp2
        refine wp_loop_rounds 1 ?_; rw [rounds_succ]
        go_wp2
        go_ret
        exact ⟨ret_bool HE.out.symm, hbb⟩
      · rcases hyr with rfl | ⟨b', off', rfl, hlt', hr'⟩
        · have : xs = [] := by simpa using HL.out
          subst this
          have HE := Lib.hid (eqT_true (rfl : Tm.mk k s n [] = Tm.mk k s n []))
          go_enter Try.func15, Try.ntmps15
          go_wp2
          refine wp_loop_rounds 1 ?_; rw [rounds_succ]
          go_wp2
          go_ret
          exact ⟨ret_bool HE.out.symm, hbb⟩
        · have HR := Lib.hid hr
          have HR' := Lib.hid hr'
          clear hr hr'
          go_enter Try.func15, Try.ntmps15
          go_wp2
          go_loopw [37] (fun i wr => ∃ j : Nat, j ≤ xs.length ∧ i = .int .i64 j ∧ TmsTo xs ys j ∧ Below (w.heap.size + 2) ((w.alloc (.cells #[.int .i64 k, .string s, .int .i64 n, .slice (some ⟨b, off, none⟩) xs.length c] 24)).alloc (.cells #[.int .i64 k, .string s, .int .i64 n, .slice (some ⟨b', off', none⟩) ys.length c'] 24)) wr) (fun i _ => xs.length - (intOf i).toNat)
          case atStart => exact ⟨0, Nat.zero_le _, rfl, (fun j _ _ hk => by omega), Below.refl _ _⟩
          case round =>
            obtain ⟨j, hj, rfl, hal, hb⟩ := hrel
            have HA := Lib.hid hal
            clear hal
            by_cases hj1 : j < xs.length
            · have hj2 : j < ys.length := by have := HL.out; omega
              have hi1 : (j : Int) < (xs.length : Int) := by omega
              have hi2 : (j : Int) < (ys.length : Int) := by omega
              have hwr : Below w.heap.size w wr := hbb.trans (hb.mono (by omega))
              obtain ⟨u, hu, huk, d0, d1, d2, d3⟩ := tmAt_tv ((rowAt_get HR.out hj1).below hwr)
              obtain ⟨v, hv, hvk, g0, g1, g2, g3⟩ := tmAt_tv ((rowAt_get HR'.out hj2).below hwr)
              have p0 : wr.cell? ⟨w.heap.size, 3, none⟩ = some (.slice (some ⟨b, off, none⟩) xs.length c) := by
                rw [hb.cell (p := ⟨w.heap.size, 3, none⟩) (by show w.heap.size < _; omega)]
                exact ((box_new w _ _ _ _ _).below ((Below.refl _ _).alloc (Nat.le_refl _) _) (by simp)).c3
              have p1 : wr.cell? ⟨w.heap.size + 1, 3, none⟩ = some (.slice (some ⟨b', off', none⟩) ys.length c') := by
                rw [hb.cell (p := ⟨w.heap.size + 1, 3, none⟩) (by show w.heap.size + 1 < _; omega)]
                exact (box_next (w.alloc _) _ (by simp) _ _ _ _ _).c3
              have C := Lib.hid (fun w' (h : Below wr.heap.size wr w') => IH.out u v w' (by rw [hu]; exact HP.out j hj1) (huk.below h) (hvk.below h))
              have HU := Lib.hid hu
              have HV := Lib.hid hv
              clear hu hv huk hvk
              have hwz := hb.size
              simp at hwz
              cases he : eqT u.t v.t with
              | true =>
                rw [he] at C
                have HE := Lib.hid (eqT_iff.1 he)
                clear he
                go_wp2
                go_still_tail 10, (by kernel_rfl)
                go_wp2_with fail
                refine (C.out _ ((Below.refl _ _).drew)).mono ?_; rintro e w1 ⟨rfl, hb1⟩
                go_wp2_with fail
                go_roundw
                case rel => exact ⟨j + 1, by omega, by go_num, HA.out.succ hj1 hj2 (HU.out.symm.trans (HE.out.trans HV.out)), (hb.drew).trans (hb1.mono (by show w.heap.size + 2 ≤ wr.heap.size; omega))⟩
                case measure => simp [intOf]; omega
              | false =>
                rw [he] at C
                have HE : Hid (u.t ≠ v.t) := Lib.hid (fun e => by rw [eqT_true e] at he; cases he)
                clear he
                go_wp2
                go_still_tail 10, (by kernel_rfl)
                go_wp2_with fail
                refine (C.out _ ((Below.refl _ _).drew)).mono ?_; rintro e w1 ⟨rfl, hb1⟩
                go_wp2_with fail
                go_ret
                refine ⟨ret_bool (Eq.symm (eqT_false fun e => ?_)), hwr.drew.trans (hb1.mono (by show w.heap.size ≤ wr.heap.size; omega))⟩
                have ea := congrArg Tm.args e
                simp only [Tm.args] at ea
                subst ea
                exact HE.out (HU.out.trans HV.out.symm)
            · obtain rfl : j = xs.length := by omega
              go_wp2
              go_ret
              have e := HA.out.all HL.out
              exact ⟨ret_bool (eqT_true (by rw [e])).symm, hbb.trans (hb.mono (by omega))⟩
    · have h0 : eqT (Tm.mk k s n xs) (Tm.mk k' s' n' ys) = false := eqT_false fun e => hne (by cases e; exact ⟨rfl, rfl, rfl, rfl⟩)
      have HE := Lib.hid h0
      clear hne ih hpl hm h0
      rcases hw with hw | ⟨e0, hw | ⟨e1, hw | ⟨e2, hw⟩⟩⟩
      all_goals
        go_enter Try.func15, Try.ntmps15
        go_wp2
        go_ret
        exact ⟨ret_bool HE.out.symm, hbb⟩
end Go.Proofs.Ytedljdcliilggaa

namespace Go.Proofs.Ytedljdcliilggaa
open Go.RowKit

/-- So many, or one more than the most. -/
def cnt (p : Nat) (most : Int) : Int := if (p : Int) ≤ most then p else most + 1
theorem cnt_in {p : Nat} {most : Int} (h : (p : Int) ≤ most) : cnt p most = p := by unfold cnt; rw [if_pos h]
theorem cnt_out {p : Nat} {most : Int} (h : ¬ (p : Int) ≤ most) : cnt p most = most + 1 := by unfold cnt; rw [if_neg h]
theorem cnt_one {most : Int} (h : 0 ≤ most) : cnt 1 most = 1 := by unfold cnt; split <;> omega
theorem cnt_step {p q : Nat} {most : Int} (_h : (p : Int) ≤ most) : (p : Int) + cnt q (most - p) = cnt (p + q) most := by
  by_cases hq : (q : Int) ≤ most - p
  · rw [cnt_in hq, cnt_in (by omega)]; omega
  · rw [cnt_out hq, cnt_out (by omega)]; omega
theorem cnt_bd {p : Nat} {most : Int} (h : 0 ≤ most) : 0 ≤ cnt p most ∧ cnt p most ≤ most + 1 := by
  unfold cnt; split <;> omega

set_option maxRecDepth 100000 in
set_option maxHeartbeats 2000000 in
theorem count_tm (m : Nat) : ∀ (x : Tv) (most : Int) (w : World), x.t.parts ≤ m → x.ok w → 0 ≤ most → most ≤ 1000000 →
    Calls Try.prog 37 #[x.val, .int .i64 most] w fun e w' => e = .returned (.int .i64 (cnt x.t.parts most)) ∧ Below w.heap.size w w' := by
  induction m with
  | zero => intro x most w h; have := parts_pos x.t; omega
  | succ m ih =>
    intro x most w hm hx hm0 hm1
    obtain ⟨⟨k, s, n, xs⟩, a, c⟩ := x
    obtain ⟨_, hxl, hxr⟩ := hx
    have hpe : (Tm.mk k s n xs).parts = partsL xs + 1 := parts_eq _
    simp only [Tv.val, Tm.kind, Tm.name, Tm.n, Tm.args] at hxl hxr ⊢
    have hpl : ∀ j (h : j < xs.length), xs[j].parts ≤ m := fun j h => by
      have := parts_arg (.mk k s n xs) (j := j) h
      have e : (Tm.mk k s n xs).args[j] = xs[j] := rfl
      rw [e] at this; simp only at hm; omega
    have IH := Lib.hid ih
    have HP := Lib.hid hpl
    have HE := Lib.hid hpe
    clear ih hpl hm hpe
    rcases hxr with rfl | ⟨b, off, rfl, hlt, hr⟩
    · by_cases hmm : (1 : Int) ≤ most
      · have hr := Lib.hid (show cnt (Tm.mk k s n []).parts most = 1 from by rw [HE.out, partsL_nil, cnt_in (by omega)]; rfl)
        go_enter Try.func37, Try.ntmps37
        go_wp2
        refine wp_loop_rounds 1 ?_; rw [rounds_succ]
        go_wp2
        go_ret
        exact ⟨ret_int hr.out.symm, (Below.refl _ _).alloc (Nat.le_refl _) _⟩
      · have hr := Lib.hid (show cnt (Tm.mk k s n []).parts most = most + 1 from by rw [HE.out, partsL_nil, cnt_out (by omega)])
        go_enter Try.func37, Try.ntmps37
        go_wp2
        refine wp_loop_rounds 1 ?_; rw [rounds_succ]
        go_wp2
        go_ret
        exact ⟨ret_int hr.out.symm, (Below.refl _ _).alloc (Nat.le_refl _) _⟩
    · have HR := Lib.hid hr
      clear hr
      go_enter Try.func37, Try.ntmps37
      go_wp2
      go_loopw [5, 11] (fun q i wr => ∃ j : Nat, j ≤ xs.length ∧ i = .int .i64 j ∧ q = .int .i64 (cnt (partsL (xs.take j) + 1) most) ∧ Below w.heap.size w wr) (fun _ i _ => xs.length - (intOf i).toNat)
      case atStart => exact ⟨0, Nat.zero_le _, rfl, by rw [List.take_zero, partsL_nil, cnt_one hm0], (Below.refl _ _).alloc (Nat.le_refl _) _⟩
      case round =>
        obtain ⟨j, hj, rfl, rfl, hb⟩ := hrel
        have hbs := hb.size
        by_cases hjl : j < xs.length
        · have hil : (j : Int) < (xs.length : Int) := by omega
          obtain ⟨u, hu, huk, d0, d1, d2, d3⟩ := tmAt_tv ((rowAt_get HR.out hjl).below hb)
          obtain ⟨p, hp⟩ : ∃ p, p = partsL (xs.take j) + 1 := ⟨_, rfl⟩
          have hnext : partsL (xs.take (j + 1)) + 1 = p + u.t.parts := by rw [partsL_take xs hjl, hp, hu]; omega
          have hall : p + u.t.parts ≤ partsL xs + 1 := by
            rw [← hnext]
            have e := partsL_append (xs.take (j + 1)) (xs.drop (j + 1))
            rw [List.take_append_drop] at e; omega
          rw [← hp]
          by_cases hpm : (p : Int) ≤ most
          · rw [cnt_in hpm]
            have hcb := cnt_bd (p := u.t.parts) (most := most - p) (by omega)
            have C := Lib.hid (fun w' (h : Below wr.heap.size wr w') => IH.out u (most - p) w' (by rw [hu]; exact HP.out j hjl) (huk.below h) (by omega) (by omega))
            have hst := cnt_step (q := u.t.parts) hpm
            obtain ⟨r, hr⟩ : ∃ r, r = cnt u.t.parts (most - p) := ⟨_, rfl⟩
            rw [← hr] at C hcb hst
            have HS := Lib.hid hst
            have HN := Lib.hid hnext
            clear hu hp hnext huk hr hst hall
            go_wp2_with fail
            refine (C.out _ ((Below.refl _ _).alloc (Nat.le_refl _) _)).mono ?_; rintro e w1 ⟨rfl, hb1⟩
            go_wp2_with fail
            go_roundw
            case rel => exact ⟨j + 1, by omega, by go_num, by rw [HN.out, ← HS.out], (hb.alloc hb.size _).trans (hb1.mono (by simp; omega))⟩
            case measure => simp [intOf]; omega
          · rw [cnt_out hpm]
            have hr := Lib.hid (show cnt (Tm.mk k s n xs).parts most = most + 1 from by rw [HE.out, cnt_out (by omega)])
            clear hu hp hnext huk hall
            go_wp2_with fail
            go_ret
            exact ⟨ret_int hr.out.symm, hb.alloc hb.size _⟩
        · obtain rfl : j = xs.length := by omega
          rw [List.take_length, ← HE.out]
          by_cases hpm : ((Tm.mk k s n xs).parts : Int) ≤ most
          · have hr := Lib.hid (cnt_in hpm)
            rw [hr.out]
            obtain ⟨p, hp⟩ : ∃ p, p = (Tm.mk k s n xs).parts := ⟨_, rfl⟩
            rw [← hp] at hr hpm ⊢
            have HQ := Lib.hid hp
            clear hp
            go_wp2_with fail
            go_ret
            exact ⟨ret_int (by rw [← HQ.out]; exact hr.out.symm), hb⟩
          · have hr := Lib.hid (cnt_out hpm)
            rw [hr.out]
            clear hpm
            go_wp2_with fail
            go_ret
            exact ⟨ret_int hr.out.symm, hb⟩
end Go.Proofs.Ytedljdcliilggaa
