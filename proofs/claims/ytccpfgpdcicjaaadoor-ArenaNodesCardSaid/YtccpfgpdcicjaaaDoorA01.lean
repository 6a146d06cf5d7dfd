/-
  Small facts that every layer's texts use: answers, boxes of two and of four cells, rows that the call itself makes, and memory behind memory. Nothing of the program's functions.
  Terms xs data; struct values and rows in memory that read xs terms; and that a call which makes new memory alone leaves them xs they were.
  All parts of a term, by the reference of layer 3: All, for any term in memory that has not too many; the row lies in new memory, the parts' arguments where they lay. (as data)
  How many parts a term has, up to a bound, by the reference of layer 3: count, for any term in memory. (as data)
  Whether two terms are alike, by the reference of layer 3: Same, for any two terms in memory.
  How many parts a term has, up to a bound, by the reference of layer 3: count, for any term in memory.
  All parts of a term, by the reference of layer 3: All, for any term in memory that has not too many; the row lies in new memory, the parts' arguments where they lay.
  Terms in a list, each once, what is in them ahead of them, as data. No function of the program.
-/
import Derived.Test.YtccpfgpdcicjaaaDoorRows
import Derived.WalkKit
import Derived.WalkSpells
import Derived.WalkLawsBesides
import Derived.Lib.Hide
import Derived.Lib.SlicesS
import Derived.OwnWalk
import Derived.Below
import Derived.Laws.OwnMore
import Derived.Laws.MakeOwn
import Derived.StillTailTactics
namespace Go.Proofs.YtccpfgpdcicjaaaDoor
open Go.RowKit

theorem ret_int {k : IntKind} {a b : Int} (h : a = b) : Ending.returned (.int k a) = .returned (.int k b) := by rw [h]
theorem ret_bool {a b : Bool} (h : a = b) : Ending.returned (.bool a) = .returned (.bool b) := by rw [h]

theorem ret_val {a b : Value} (h : a = b) : Ending.returned a = .returned b := by rw [h]

theorem below_drewN {B : Nat} {a w : World} (h : Below B a w) (n : Nat) : Below B a (w.drewN n) := ⟨h.os, h.tape, h.output, h.size, h.block⟩

/-- A box of four cells, behind a call that made new memory alone. -/
structure Box (w1 : World) (g : Nat) (x0 x1 x2 x3 : Value) : Prop where
  c0 : w1.cell? ⟨g, 0, none⟩ = some x0
  c1 : w1.cell? ⟨g, 1, none⟩ = some x1
  c2 : w1.cell? ⟨g, 2, none⟩ = some x2
  c3 : w1.cell? ⟨g, 3, none⟩ = some x3
  f0 : w1.frozen? ⟨g, 0, none⟩ = false
  f1 : w1.frozen? ⟨g, 1, none⟩ = false
  f2 : w1.frozen? ⟨g, 2, none⟩ = false
  f3 : w1.frozen? ⟨g, 3, none⟩ = false
theorem box_new (w : World) (x0 x1 x2 x3 : Value) (t : TypeId) : Box (w.alloc (.cells #[x0, x1, x2, x3] t)) w.heap.size x0 x1 x2 x3 where
  c0 := World.cell?_alloc_mark w #[x0, x1, x2, x3] t (0, 0) 0
  c1 := World.cell?_alloc_mark w #[x0, x1, x2, x3] t (0, 0) 1
  c2 := World.cell?_alloc_mark w #[x0, x1, x2, x3] t (0, 0) 2
  c3 := World.cell?_alloc_mark w #[x0, x1, x2, x3] t (0, 0) 3
  f0 := by simp
  f1 := by simp
  f2 := by simp
  f3 := by simp
theorem Box.below {w w1 : World} {g B : Nat} {x0 x1 x2 x3 : Value} (h : Box w g x0 x1 x2 x3) (hb : Below B w w1) (hg : g < B) : Box w1 g x0 x1 x2 x3 where
  c0 := (hb.cell (p := ⟨g, 0, none⟩) hg).trans h.c0
  c1 := (hb.cell (p := ⟨g, 1, none⟩) hg).trans h.c1
  c2 := (hb.cell (p := ⟨g, 2, none⟩) hg).trans h.c2
  c3 := (hb.cell (p := ⟨g, 3, none⟩) hg).trans h.c3
  f0 := (hb.frozen (p := ⟨g, 0, none⟩) hg).trans h.f0
  f1 := (hb.frozen (p := ⟨g, 1, none⟩) hg).trans h.f1
  f2 := (hb.frozen (p := ⟨g, 2, none⟩) hg).trans h.f2
  f3 := (hb.frozen (p := ⟨g, 3, none⟩) hg).trans h.f3
theorem box_after {w w1 : World} {x0 x1 x2 x3 : Value} {t : TypeId} (hb : Below (w.alloc (.cells #[x0, x1, x2, x3] t)).heap.size (w.alloc (.cells #[x0, x1, x2, x3] t)) w1) : Box w1 w.heap.size x0 x1 x2 x3 :=
  (box_new w x0 x1 x2 x3 t).below hb (by simp)
theorem below_box {w w1 : World} {o : Obj} (hb : Below (w.alloc o).heap.size (w.alloc o) w1) : Below w.heap.size w w1 :=
  ((Below.refl _ _).alloc (Nat.le_refl _) _).trans (hb.mono (by simp))
theorem below_box' {w w1 : World} {o : Obj} {g : Nat} {x0 x1 x2 x3 : Value} (hx : Box (w.alloc o) g x0 x1 x2 x3) (hb : Below (w.alloc o).heap.size (w.alloc o) w1) (hg : g = w.heap.size := by rfl) : Box w1 g x0 x1 x2 x3 ∧ Below w.heap.size w w1 ∧ w.heap.size < w1.heap.size :=
  ⟨hx.below hb (by subst hg; simp), below_box hb, by have := hb.size; simp at this; omega⟩
theorem new_row4 (w : World) (b : Nat) (hb : b = w.heap.size) (x0 x1 x2 x3 : Value) (t : TypeId) : ∀ j u, [x0, x1, x2, x3][j]? = some u → (w.alloc (.cells #[x0, x1, x2, x3] t)).cell? ((⟨b, 0, none⟩ : Addr).add j) = some u := by
  subst hb
  intro j u hj
  have e := World.cell?_alloc_mark w #[x0, x1, x2, x3] t (0, 0) (0 + j)
  have : ((⟨w.heap.size, 0, none⟩ : Addr).add j) = ⟨w.heap.size, 0 + j, none⟩ := by
    unfold Addr.add; split
    · next h => subst h; rfl
    · rfl
  rw [this, e]
  simpa using hj
theorem own_row_ge {w : World} {base : Nat} {e : TypeId} {size : Nat} {v : Value} {n : Nat} {xs : List Value} (h : w.ownsRow base e size v n xs) : ∀ g, v.ownBlock = some g → base ≤ g := by
  intro g hg
  obtain ⟨_, ⟨rfl, _⟩ | ⟨g', cap, cur, rfl, hb, _⟩⟩ := h
  · cases hg
  · cases hg; exact hb
theorem own_row_lt {w : World} {base : Nat} {e : TypeId} {size : Nat} {v : Value} {n : Nat} {xs : List Value} (h : w.ownsRow base e size v n xs) : ∀ g, v.ownBlock = some g → g < w.heap.size := by
  intro g hg
  obtain ⟨_, ⟨rfl, _⟩ | ⟨g', cap, cur, rfl, hb, hgg, _⟩⟩ := h
  · cases hg
  · injection hg with hg
    subst hg
    rcases Nat.lt_or_ge g' w.heap.size with hlt | hge
    · exact hlt
    · rw [Array.getElem?_eq_none hge] at hgg; cases hgg
/-- A box of two cells. -/
structure Pair (w1 : World) (g : Nat) (x0 x1 : Value) : Prop where
  c0 : w1.cell? ⟨g, 0, none⟩ = some x0
  c1 : w1.cell? ⟨g, 1, none⟩ = some x1
  f0 : w1.frozen? ⟨g, 0, none⟩ = false
  f1 : w1.frozen? ⟨g, 1, none⟩ = false
theorem pair_new (w : World) (x0 x1 : Value) (t : TypeId) : Pair (w.alloc (.cells #[x0, x1] t)) w.heap.size x0 x1 where
  c0 := World.cell?_alloc_mark w #[x0, x1] t (0, 0) 0
  c1 := World.cell?_alloc_mark w #[x0, x1] t (0, 0) 1
  f0 := by simp
  f1 := by simp
theorem Pair.below {w w1 : World} {g B : Nat} {x0 x1 : Value} (h : Pair w g x0 x1) (hb : Below B w w1) (hg : g < B) : Pair w1 g x0 x1 where
  c0 := (hb.cell (p := ⟨g, 0, none⟩) hg).trans h.c0
  c1 := (hb.cell (p := ⟨g, 1, none⟩) hg).trans h.c1
  f0 := (hb.frozen (p := ⟨g, 0, none⟩) hg).trans h.f0
  f1 := (hb.frozen (p := ⟨g, 1, none⟩) hg).trans h.f1
theorem pair_after {w wr : World} {x0 x1 : Value} {t : TypeId} (hb : Below (w.heap.size + 1) (w.alloc (.cells #[x0, x1] t)) wr) : Pair wr w.heap.size x0 x1 :=
  (pair_new w x0 x1 t).below hb (by omega)
theorem below_pair {w wr : World} {o : Obj} (hb : Below (w.heap.size + 1) (w.alloc o) wr) : Below w.heap.size w wr :=
  ((Below.refl _ _).alloc (Nat.le_refl _) _).trans (hb.mono (by omega))
theorem own_lower {w : World} {base b0 : Nat} {e : TypeId} {size : Nat} {v : Value} {n : Nat} {xs : List Value} (h : w.ownsRow base e size v n xs) (hb : b0 ≤ base) : w.ownsRow b0 e size v n xs := by
  obtain ⟨hn, h⟩ := h
  refine ⟨hn, ?_⟩
  rcases h with h | ⟨g, cap, cur, rfl, hbb, hr⟩
  · exact .inl h
  · exact .inr ⟨g, cap, cur, rfl, Nat.le_trans hb hbb, hr⟩
theorem own_below {w w1 : World} {base : Nat} {e : TypeId} {size : Nat} {v : Value} {n : Nat} {xs : List Value} (h : w.ownsRow base e size v n xs) (hb : Below w.heap.size w w1) : w1.ownsRow base e size v n xs := by
  obtain ⟨hn, h⟩ := h
  refine ⟨hn, ?_⟩
  rcases h with h | ⟨g, cap, cur, rfl, hbb, hg, hr⟩
  · exact .inl h
  · refine .inr ⟨g, cap, cur, rfl, hbb, ?_, hr⟩
    rcases Nat.lt_or_ge g w.heap.size with hlt | hge
    · rw [hb.block g hlt]; exact hg
    · rw [Array.getElem?_eq_none hge] at hg; cases hg
/-- A box that was laid ahead of an append, behind it. -/
theorem Box.grown {w w1 : World} {g : Nat} {x0 x1 x2 x3 : Value} {row : Option Nat} (h : Box w g x0 x1 x2 x3) (hg : w.grownBy w1 row) (hlt : g < w.heap.size) (hr : ∀ k, row = some k → k ≠ g) : w1.cell? ⟨g, 1, none⟩ = some x1 := by
  have hb := hg.block g hlt (fun e => hr g e.symm rfl)
  have := World.cell?_of_block (w := w) (w' := w1) (a := ⟨g, 1, none⟩) hb
  rw [this]; exact h.c1
/-- Two memories, one behind the other. -/
theorem below_next {w w1 w2 : World} (h : Below w.heap.size w w1) (h2 : Below w1.heap.size w1 w2) : Below w.heap.size w w2 := h.trans (h2.mono h.size)

end Go.Proofs.YtccpfgpdcicjaaaDoor

namespace Go.Proofs.YtccpfgpdcicjaaaDoor
open Go.RowKit

/-- A term: its kind, its name, its number, and its arguments. -/
inductive Tm where
  | mk (kind : Int) (name : ByteArray) (n : Int) (args : List Tm)
def Tm.kind : Tm → Int | .mk k _ _ _ => k
def Tm.name : Tm → ByteArray | .mk _ s _ _ => s
def Tm.n : Tm → Int | .mk _ _ n _ => n
def Tm.args : Tm → List Tm | .mk _ _ _ xs => xs
theorem Tm.eta (t : Tm) : t = .mk t.kind t.name t.n t.args := by cases t; rfl
instance : Inhabited Tm := ⟨.mk 0 ⟨#[]⟩ 0 []⟩

mutual
/-- How many parts a term has. -/
def Tm.parts : Tm → Nat
  | .mk _ _ _ xs => partsL xs + 1
def partsL : List Tm → Nat
  | [] => 0
  | t :: r => t.parts + partsL r
end
theorem parts_eq (t : Tm) : t.parts = partsL t.args + 1 := by cases t; rw [Tm.parts]; rfl
theorem parts_pos (t : Tm) : 1 ≤ t.parts := by rw [parts_eq]; omega
theorem partsL_cons (t : Tm) (r : List Tm) : partsL (t :: r) = t.parts + partsL r := by rw [partsL]
theorem partsL_nil : partsL [] = 0 := by rw [partsL]
theorem partsL_append (a b : List Tm) : partsL (a ++ b) = partsL a + partsL b := by
  induction a with
  | nil => rw [List.nil_append, partsL_nil]; omega
  | cons t r ih => rw [List.cons_append, partsL_cons, partsL_cons, ih]; omega
theorem parts_get (l : List Tm) {j : Nat} (h : j < l.length) : l[j].parts ≤ partsL l := by
  induction l generalizing j with
  | nil => simp at h
  | cons t r ih =>
    rw [partsL_cons]
    cases j with
    | zero => simp
    | succ j => have := ih (j := j) (by simpa using h); simp; omega
theorem parts_arg (t : Tm) {j : Nat} (h : j < t.args.length) : t.args[j].parts < t.parts := by
  rw [parts_eq t]; have := parts_get t.args h; omega
theorem partsL_length (l : List Tm) : l.length ≤ partsL l := by
  induction l with
  | nil => simp
  | cons t r ih => rw [partsL_cons, List.length_cons]; have := parts_pos t; omega
theorem partsL_take (l : List Tm) {k : Nat} (h : k < l.length) : partsL (l.take (k + 1)) = partsL (l.take k) + l[k].parts := by
  rw [List.take_succ_eq_append_getElem h, partsL_append, partsL_cons, partsL_nil]; omega

/-- A term's numbers are int's, and its name is no longer than a text can be. -/
structure Fit (k : Int) (s : ByteArray) (n : Int) : Prop where
  klo : -9223372036854775808 ≤ k
  khi : k ≤ 9223372036854775807
  nlo : -9223372036854775808 ≤ n
  nhi : n ≤ 9223372036854775807
  len : s.size ≤ 9223372036854775807
mutual
/-- A term lies at an address: four cells, and its arguments where the fourth says. -/
def TmAt (w : World) : Tm → Nat → Nat → Prop
  | .mk k s n xs, b, o => Fit k s n ∧ w.cell? ⟨b, o, none⟩ = some (.int .i64 k) ∧ w.cell? ⟨b, o + 1, none⟩ = some (.string s) ∧ w.cell? ⟨b, o + 2, none⟩ = some (.int .i64 n) ∧
    ∃ a c, w.cell? ⟨b, o + 3, none⟩ = some (.slice a xs.length c) ∧ (xs.length ≤ 9223372036854775807 ∧ xs.length ≤ c) ∧ (xs = [] ∨ ∃ b' o', a = some ⟨b', o', none⟩ ∧ b' < w.heap.size ∧ RowAt w xs b' o')
def RowAt (w : World) : List Tm → Nat → Nat → Prop
  | [], _, _ => True
  | t :: r, b, o => TmAt w t b o ∧ RowAt w r b (o + 4)
end
/-- What a slice's address says of its elements. -/
def Args (w : World) (a : Option Addr) (c : Nat) (xs : List Tm) : Prop := (xs.length ≤ 9223372036854775807 ∧ xs.length ≤ c) ∧ (xs = [] ∨ ∃ b o, a = some ⟨b, o, none⟩ ∧ b < w.heap.size ∧ RowAt w xs b o)
theorem rowAt_get {w : World} : ∀ {xs : List Tm} {b o : Nat}, RowAt w xs b o → ∀ {j : Nat} (h : j < xs.length), TmAt w xs[j] b (o + j * 4)
  | [], _, _, _, _, h => by simp at h
  | t :: r, b, o, hr, 0, _ => by rw [RowAt] at hr; simpa using hr.1
  | t :: r, b, o, hr, j + 1, h => by
    rw [RowAt] at hr
    have := rowAt_get hr.2 (j := j) (by simpa using h)
    rw [show o + (j + 1) * 4 = o + 4 + j * 4 from by omega]
    exact this
theorem rowAt_of {w : World} : ∀ {xs : List Tm} {b o : Nat}, (∀ {j : Nat} (h : j < xs.length), TmAt w xs[j] b (o + j * 4)) → RowAt w xs b o
  | [], _, _, _ => by rw [RowAt]; trivial
  | t :: r, b, o, h => by
    rw [RowAt]
    refine ⟨(show TmAt w t b (o + 0 * 4) from h (j := 0) (by simp)), rowAt_of fun {j} hj => ?_⟩
    have := h (j := j + 1) (by simpa using hj)
    rw [show o + (j + 1) * 4 = o + 4 + j * 4 from by omega] at this
    exact this

/-- A term xs a value: the term, the address of its arguments, and their capacity. -/
structure Tv where
  t : Tm
  a : Option Addr
  c : Nat
def Tv.val (v : Tv) : Value := .agg #[.int .i64 v.t.kind, .string v.t.name, .int .i64 v.t.n, .slice v.a v.t.args.length v.c]
def Tv.cells (v : Tv) : List Value := [.int .i64 v.t.kind, .string v.t.name, .int .i64 v.t.n, .slice v.a v.t.args.length v.c]
def Tv.ok (w : World) (v : Tv) : Prop := Fit v.t.kind v.t.name v.t.n ∧ Args w v.a v.c v.t.args
/-- The four cells of a value. -/
structure TvAt (w : World) (b o : Nat) (v : Tv) : Prop where
  c0 : w.cell? ⟨b, o, none⟩ = some (.int .i64 v.t.kind)
  c1 : w.cell? ⟨b, o + 1, none⟩ = some (.string v.t.name)
  c2 : w.cell? ⟨b, o + 2, none⟩ = some (.int .i64 v.t.n)
  c3 : w.cell? ⟨b, o + 3, none⟩ = some (.slice v.a v.t.args.length v.c)
theorem tmAt_tv {w : World} {t : Tm} {b o : Nat} (h : TmAt w t b o) : ∃ v : Tv, v.t = t ∧ v.ok w ∧ TvAt w b o v := by
  cases t with
  | mk k s n xs =>
    rw [TmAt] at h
    obtain ⟨hf, h0, h1, h2, a, c, h3, hl, hr⟩ := h
    exact ⟨⟨.mk k s n xs, a, c⟩, rfl, ⟨hf, hl, hr⟩, h0, h1, h2, h3⟩
theorem tv_tmAt {w : World} {v : Tv} {b o : Nat} (hk : v.ok w) (h : TvAt w b o v) : TmAt w v.t b o := by
  obtain ⟨t, a, c⟩ := v
  cases t with
  | mk k s n xs =>
    rw [TmAt]
    exact ⟨hk.1, h.c0, h.c1, h.c2, a, c, h.c3, hk.2.1, hk.2.2⟩

theorem lt_of_cell {w : World} {b o : Nat} {x : Value} (h : w.cell? ⟨b, o, none⟩ = some x) : b < w.heap.size := by
  rcases Nat.lt_or_ge b w.heap.size with hlt | hge
  · exact hlt
  · unfold World.cell? at h
    simp [Array.getElem?_eq_none hge] at h
mutual
theorem TmAt.below {w w' : World} (hb : Below w.heap.size w w') : ∀ {t : Tm} {b o : Nat}, TmAt w t b o → TmAt w' t b o
  | .mk k s n xs, b, o, h => by
    rw [TmAt] at h ⊢
    obtain ⟨hf, h0, h1, h2, a, c, h3, hl, hr⟩ := h
    have hlt := lt_of_cell h0
    refine ⟨hf, (hb.cell (p := ⟨b, o, none⟩) hlt).trans h0, (hb.cell (p := ⟨b, o + 1, none⟩) hlt).trans h1, (hb.cell (p := ⟨b, o + 2, none⟩) hlt).trans h2, a, c, (hb.cell (p := ⟨b, o + 3, none⟩) hlt).trans h3, hl, ?_⟩
    rcases hr with hr | ⟨b', o', ha, hb', hr⟩
    · exact .inl hr
    · exact .inr ⟨b', o', ha, Nat.lt_of_lt_of_le hb' hb.size, RowAt.below hb hr⟩
theorem RowAt.below {w w' : World} (hb : Below w.heap.size w w') : ∀ {xs : List Tm} {b o : Nat}, RowAt w xs b o → RowAt w' xs b o
  | [], _, _, _ => by rw [RowAt]; trivial
  | t :: r, b, o, h => by
    rw [RowAt] at h ⊢
    exact ⟨TmAt.below hb h.1, RowAt.below hb h.2⟩
end
theorem Args.below {w w' : World} {a : Option Addr} {c : Nat} {xs : List Tm} (h : Args w a c xs) (hb : Below w.heap.size w w') : Args w' a c xs := by
  obtain ⟨hl, h⟩ := h
  refine ⟨hl, ?_⟩
  rcases h with h | ⟨b, o, ha, hlt, hr⟩
  · exact .inl h
  · exact .inr ⟨b, o, ha, Nat.lt_of_lt_of_le hlt hb.size, hr.below hb⟩
theorem Tv.ok.below {w w' : World} {v : Tv} (h : v.ok w) (hb : Below w.heap.size w w') : v.ok w' := ⟨h.1, Args.below h.2 hb⟩

/-- A slice value that reads xs a row of terms. -/
def Tms (w : World) (v : Value) (ts : List Tm) : Prop := ∃ a c, v = .slice a ts.length c ∧ Args w a c ts
theorem Tms.below {w w' : World} {v : Value} {ts : List Tm} (h : Tms w v ts) (hb : Below w.heap.size w w') : Tms w' v ts := by
  obtain ⟨a, c, hv, h⟩ := h
  exact ⟨a, c, hv, h.below hb⟩
theorem Tms.none_ (w : World) (a : Option Addr) (c : Nat) : Tms w (.slice a 0 c) [] := ⟨a, c, rfl, by simp, .inl rfl⟩

/-- Equal, for terms. -/
noncomputable def eqT (t u : Tm) : Bool := @decide (t = u) (Classical.propDecidable _)
theorem eqT_true {t u : Tm} (h : t = u) : eqT t u = true := by unfold eqT; simp [h]
theorem eqT_false {t u : Tm} (h : t ≠ u) : eqT t u = false := by unfold eqT; simp [h]
theorem eqT_iff {t u : Tm} : eqT t u = true ↔ t = u := by unfold eqT; simp
noncomputable def eqTs (ts us : List Tm) : Bool := @decide (ts = us) (Classical.propDecidable _)
theorem eqTs_true {ts us : List Tm} (h : ts = us) : eqTs ts us = true := by unfold eqTs; simp [h]
theorem eqTs_false {ts us : List Tm} (h : ts ≠ us) : eqTs ts us = false := by unfold eqTs; simp [h]
theorem Tv.val_shape (x : Tv) : ∃ (k : Int) (s : ByteArray) (n : Int) (a : Option Addr) (l c : Nat), x.val = .agg #[.int .i64 k, .string s, .int .i64 n, .slice a l c] := ⟨_, _, _, _, _, _, rfl⟩
end Go.Proofs.YtccpfgpdcicjaaaDoor

namespace Go.Proofs.YtccpfgpdcicjaaaDoor
open Go.RowKit

mutual
/-- A term, and all in it, from the left. -/
def Tm.all : Tm → List Tm
  | .mk k s n xs => .mk k s n xs :: allL xs
def allL : List Tm → List Tm
  | [] => []
  | t :: r => t.all ++ allL r
end
theorem all_eq (t : Tm) : t.all = t :: allL t.args := by cases t; rw [Tm.all]; rfl
theorem allL_append (a b : List Tm) : allL (a ++ b) = allL a ++ allL b := by
  induction a with
  | nil => rw [List.nil_append, allL]; rfl
  | cons t r ih => rw [List.cons_append, allL, allL, ih, List.append_assoc]
theorem allL_take {l : List Tm} {k : Nat} (h : k < l.length) : allL (l.take (k + 1)) = allL (l.take k) ++ l[k].all := by
  rw [List.take_succ_eq_append_getElem h, allL_append]
  congr 1
  rw [allL, allL, List.append_nil]
mutual
theorem all_length : ∀ t : Tm, t.all.length = t.parts
  | .mk k s n xs => by rw [Tm.all, List.length_cons, allL_length xs, Tm.parts]
theorem allL_length : ∀ l : List Tm, (allL l).length = partsL l
  | [] => by rw [allL, partsL]; rfl
  | t :: r => by rw [allL, List.length_append, all_length t, allL_length r, partsL]
end
theorem termInfo : (Tryd.prog.info? 28).map (fun i => (i.zero, i.size, i.bytes)) = some (some (.agg #[.int .i64 0, .string ⟨#[]⟩, .int .i64 0, .slice none 0 0]), 4, 56) := by kernel_rfl
/-- The cells of a row of terms. -/
def rowTv (vs : List Tv) : List Value := vs.flatMap Tv.cells
theorem rowTv_length (vs : List Tv) : (rowTv vs).length = vs.length * 4 := by
  unfold rowTv
  induction vs with
  | nil => rfl
  | cons t r ih => rw [List.flatMap_cons, List.length_append, ih]; simp [Tv.cells]; omega
theorem rowTv_append (a b : List Tv) : rowTv (a ++ b) = rowTv a ++ rowTv b := by unfold rowTv; rw [List.flatMap_append]
theorem rowTv_one (v : Tv) : rowTv [v] = v.cells := by unfold rowTv; simp
theorem rowTv_get (vs : List Tv) (j : Nat) (h : j < vs.length) (i : Nat) (hi : i < 4) : (rowTv vs)[j * 4 + i]? = vs[j].cells[i]? := by
  induction vs generalizing j with
  | nil => simp at h
  | cons t r ih =>
    unfold rowTv
    rw [List.flatMap_cons]
    cases j with
    | zero => rw [Nat.zero_mul, Nat.zero_add, List.getElem?_append_left (by simp [Tv.cells]; omega)]; rfl
    | succ j =>
      rw [List.getElem?_append_right (by simp [Tv.cells]; omega)]
      have := ih j (by simpa using h)
      rw [show (j + 1) * 4 + i - t.cells.length = j * 4 + i from by simp [Tv.cells]; omega]
      exact this
theorem rowTv_one' (vs : List Tv) : ∀ u ∈ rowTv vs, u.oneCell' = true := by
  intro u hu
  unfold rowTv at hu
  obtain ⟨v, _, hv⟩ := List.mem_flatMap.1 hu
  simp [Tv.cells] at hv
  rcases hv with rfl | rfl | rfl | rfl <;> rfl
/-- A row of terms that the call itself has made: its terms' arguments lie in the world w0. -/
def OwnTv (w0 w : World) (base : Nat) (v : Value) (ts : List Tm) : Prop :=
  ∃ vs : List Tv, vs.map Tv.t = ts ∧ (∀ x ∈ vs, x.ok w0) ∧ w.ownsRow base 28 4 v ts.length (rowTv vs)
theorem OwnTv.tms {w0 w : World} {base : Nat} {v : Value} {ts : List Tm} (h : OwnTv w0 w base v ts) (hb : Below w0.heap.size w0 w) (hl : ts.length ≤ 9223372036854775807) : Tms w v ts := by
  obtain ⟨vs, rfl, hok, hn, h⟩ := h
  rcases h with ⟨rfl, h0⟩ | ⟨g, cap, cur, rfl, _, hg, hcap, hmax, hsz, htake⟩
  · have : vs = [] := by simpa using h0
    subst this
    exact Tms.none_ _ _ _
  · refine ⟨_, cap, rfl, ⟨hl, hcap⟩, ?_⟩
    by_cases h0 : vs = []
    · left; rw [h0]; rfl
    right
    have hlt : g < w.heap.size := by
      rcases Nat.lt_or_ge g w.heap.size with hlt | hge
      · exact hlt
      · rw [Array.getElem?_eq_none hge] at hg; cases hg
    refine ⟨g, 0, rfl, hlt, rowAt_of fun {j} hj => ?_⟩
    have hjv : j < vs.length := by simpa using hj
    rw [List.getElem_map]
    have cell : ∀ i, i < 4 → w.cell? ⟨g, 0 + j * 4 + i, none⟩ = vs[j].cells[i]? := by
      intro i hi
      rw [cell_of_row w g (0 + j * 4 + i) cur _ (0, 0) hg, ← rowTv_get vs j hjv i hi, ← htake, List.getElem?_take, if_pos (by simp; omega), Nat.zero_add]
      simp
    exact tv_tmAt ((hok _ (List.getElem_mem hjv)).below hb) ⟨cell 0 (by omega), cell 1 (by omega), cell 2 (by omega), cell 3 (by omega)⟩
theorem own_first (w : World) (base : Nat) (hb : base ≤ w.heap.size) (v : Tv) : (w.alloc (.cells #[.int .i64 v.t.kind, .string v.t.name, .int .i64 v.t.n, .slice v.a v.t.args.length v.c] 28)).ownsRow base 28 4 (.slice (some ⟨w.heap.size, 0, none⟩) 1 1) 1 (rowTv [v]) := by
  refine ⟨rfl, .inr ⟨w.heap.size, 1, _, rfl, hb, heap_alloc_new w _, Nat.le_refl _, by unfold maxLen; omega, rfl, ?_⟩⟩
  rw [rowTv_one]; rfl
end Go.Proofs.YtccpfgpdcicjaaaDoor

namespace Go.Proofs.YtccpfgpdcicjaaaDoor
open Go.RowKit

/-- So many, or one more than the most. -/
def cnt (p : Nat) (most : Int) : Int := if (p : Int) ≤ most then p else most + 1
theorem cnt_in {p : Nat} {most : Int} (h : (p : Int) ≤ most) : cnt p most = p := by unfold cnt; rw [if_pos h]
theorem cnt_out {p : Nat} {most : Int} (h : ¬ (p : Int) ≤ most) : cnt p most = most + 1 := by unfold cnt; rw [if_neg h]
theorem cnt_one {most : Int} (h : 0 ≤ most) : cnt 1 most = 1 := by unfold cnt; split <;> omega
theorem cnt_step {p q : Nat} {most : Int} (_h : (p : Int) ≤ most) : (p : Int) + cnt q (most - p) = cnt (p + q) most := by
  by_cases hq : (q : Int) ≤ most - p
  · rw [cnt_in hq, cnt_in (by omega)]; omega
  · rw [cnt_out hq, cnt_out (by omega)]; omega
theorem cnt_bd {p : Nat} {most : Int} (h : 0 ≤ most) : 0 ≤ cnt p most ∧ cnt p most ≤ most + 1 := by
  unfold cnt; split <;> omega
end Go.Proofs.YtccpfgpdcicjaaaDoor

namespace Go.Proofs.YtccpfgpdcicjaaaDoor
open Go.RowKit

theorem Tv.ok.drew {w : World} {v : Tv} (h : v.ok w) : v.ok w.drew := h.below ((Below.refl _ _).drew)
theorem TvAt.below {w w' : World} {b o : Nat} {v : Tv} (h : TvAt w b o v) (hb : Below w.heap.size w w') : TvAt w' b o v where
  c0 := (hb.cell (p := ⟨b, o, none⟩) (lt_of_cell h.c0)).trans h.c0
  c1 := (hb.cell (p := ⟨b, o + 1, none⟩) (lt_of_cell h.c0)).trans h.c1
  c2 := (hb.cell (p := ⟨b, o + 2, none⟩) (lt_of_cell h.c0)).trans h.c2
  c3 := (hb.cell (p := ⟨b, o + 3, none⟩) (lt_of_cell h.c0)).trans h.c3
theorem box_next (w : World) (g : Nat) (hg : g = w.heap.size) (x0 x1 x2 x3 : Value) (t : TypeId) : Box (w.alloc (.cells #[x0, x1, x2, x3] t)) g x0 x1 x2 x3 := by
  subst hg; exact box_new w x0 x1 x2 x3 t
/-- Terms are alike up to k. -/
def TmsTo (xs ys : List Tm) (k : Nat) : Prop := ∀ j (h1 : j < xs.length) (h2 : j < ys.length), j < k → xs[j] = ys[j]
theorem TmsTo.succ {xs ys : List Tm} {k : Nat} (h : TmsTo xs ys k) (h1 : k < xs.length) (h2 : k < ys.length) (hk : xs[k] = ys[k]) : TmsTo xs ys (k + 1) := by
  intro j a b hj
  by_cases e : j = k
  · subst e; exact hk
  · exact h j a b (by omega)
theorem TmsTo.all {xs ys : List Tm} (h : TmsTo xs ys xs.length) (hl : xs.length = ys.length) : xs = ys :=
  List.ext_getElem hl fun j h1 h2 => h j h1 h2 h1
/-- Where two heads part first. -/
theorem tm_ways (k k' : Int) (s s' : ByteArray) (n n' : Int) (l l' : Nat) : (k = k' ∧ s = s' ∧ n = n' ∧ l = l') ∨ (¬ (k = k' ∧ s = s' ∧ n = n' ∧ l = l') ∧ ((k != k') = true ∨ ((k != k') = false ∧ ((n != n') = true ∨ ((n != n') = false ∧ (((s.toList == s'.toList) = false) ∨ ((s.toList == s'.toList) = true ∧ ((l : Int) != (l' : Int)) = true))))))) := by
  by_cases h0 : k = k'
  · by_cases h2 : n = n'
    · by_cases h1 : s = s'
      · by_cases h3 : l = l'
        · exact .inl ⟨h0, h1, h2, h3⟩
        · exact .inr ⟨fun h => h3 h.2.2.2, .inr ⟨by simp [h0], .inr ⟨by simp [h2], .inr ⟨by simp [h1], by rw [bne_iff_ne]; omega⟩⟩⟩⟩
      · exact .inr ⟨fun h => h1 h.2.1, .inr ⟨by simp [h0], .inr ⟨by simp [h2], .inl (by rw [Lib.bytes_beq_false_iff]; exact h1)⟩⟩⟩
    · exact .inr ⟨fun h => h2 h.2.2.1, .inr ⟨by simp [h0], .inl (by rw [bne_iff_ne]; exact h2)⟩⟩
  · exact .inr ⟨fun h => h0 h.1, .inl (by rw [bne_iff_ne]; exact h0)⟩

set_option maxRecDepth 100000 in
set_option maxHeartbeats 2000000 in
theorem same_tm (m : Nat) : ∀ (x y : Tv) (w : World), x.t.parts ≤ m → x.ok w → y.ok w →
    Calls Tryd.prog 16 #[x.val, y.val] w fun e w' => e = .returned (.bool (eqT x.t y.t)) ∧ Below w.heap.size w w' := by
  induction m with
  | zero => intro x y w h; have := parts_pos x.t; omega
  | succ m ih =>
    intro x y w hm hx hy
    obtain ⟨⟨k, s, n, xs⟩, a, c⟩ := x
    obtain ⟨⟨k', s', n', ys⟩, a', c'⟩ := y
    obtain ⟨_, hxl, hxr⟩ := hx
    obtain ⟨_, hyl, hyr⟩ := hy
    simp only [Tv.val, Tm.kind, Tm.name, Tm.n, Tm.args] at hxl hxr hyl hyr ⊢
    have hpl : ∀ j (h : j < xs.length), xs[j].parts ≤ m := fun j h => by
      have := parts_arg (.mk k s n xs) (j := j) h
      have e : (Tm.mk k s n xs).args[j] = xs[j] := rfl
      rw [e] at this; simp only at hm; omega
    have hbb : Below w.heap.size w ((w.alloc (.cells #[.int .i64 k, .string s, .int .i64 n, .slice a xs.length c] 28)).alloc (.cells #[.int .i64 k', .string s', .int .i64 n', .slice a' ys.length c'] 28)) :=
      ((Below.refl _ _).alloc (Nat.le_refl _) _).alloc (by simp) _
    rcases tm_ways k k' s s' n n' xs.length ys.length with ⟨rfl, rfl, rfl, hlen⟩ | ⟨hne, hw⟩
    · have hq : ((xs.length : Int) != (ys.length : Int)) = false := by simp [hlen]
      have HL := Lib.hid hlen
      have IH := Lib.hid ih
      have HP := Lib.hid hpl
      clear ih hpl hm hlen
      rcases hxr with rfl | ⟨b, off, rfl, hlt, hr⟩
      · have : ys = [] := by simpa using HL.out.symm
        subst this
        have HE := Lib.hid (eqT_true (rfl : Tm.mk k s n [] = Tm.mk k s n []))
        go_enter Tryd.func16, Tryd.ntmps16
        go_wp2
        refine wp_loop_rounds 1 ?_; rw [rounds_succ]
        go_wp2
        go_ret
        exact ⟨ret_bool HE.out.symm, hbb⟩
      · rcases hyr with rfl | ⟨b', off', rfl, hlt', hr'⟩
        · have : xs = [] := by simpa using HL.out
          subst this
          have HE := Lib.hid (eqT_true (rfl : Tm.mk k s n [] = Tm.mk k s n []))
          go_enter Tryd.func16, Tryd.ntmps16
          go_wp2
          refine wp_loop_rounds 1 ?_; rw [rounds_succ]
          go_wp2
          go_ret
          exact ⟨ret_bool HE.out.symm, hbb⟩
        · have HR := Lib.hid hr
          have HR' := Lib.hid hr'
          clear hr hr'
          go_enter Tryd.func16, Tryd.ntmps16
          go_wp2
          go_loopw [37] (fun i wr => ∃ j : Nat, j ≤ xs.length ∧ i = .int .i64 j ∧ TmsTo xs ys j ∧ Below (w.heap.size + 2) ((w.alloc (.cells #[.int .i64 k, .string s, .int .i64 n, .slice (some ⟨b, off, none⟩) xs.length c] 28)).alloc (.cells #[.int .i64 k, .string s, .int .i64 n, .slice (some ⟨b', off', none⟩) ys.length c'] 28)) wr) (fun i _ => xs.length - (intOf i).toNat)
          case atStart => exact ⟨0, Nat.zero_le _, rfl, (fun j _ _ hk => by omega), Below.refl _ _⟩
          case round =>
            obtain ⟨j, hj, rfl, hal, hb⟩ := hrel
            have HA := Lib.hid hal
            clear hal
            by_cases hj1 : j < xs.length
            · have hj2 : j < ys.length := by have := HL.out; omega
              have hi1 : (j : Int) < (xs.length : Int) := by omega
              have hi2 : (j : Int) < (ys.length : Int) := by omega
              have hwr : Below w.heap.size w wr := hbb.trans (hb.mono (by omega))
              obtain ⟨u, hu, huk, d0, d1, d2, d3⟩ := tmAt_tv ((rowAt_get HR.out hj1).below hwr)
              obtain ⟨v, hv, hvk, g0, g1, g2, g3⟩ := tmAt_tv ((rowAt_get HR'.out hj2).below hwr)
              have p0 : wr.cell? ⟨w.heap.size, 3, none⟩ = some (.slice (some ⟨b, off, none⟩) xs.length c) := by
                rw [hb.cell (p := ⟨w.heap.size, 3, none⟩) (by show w.heap.size < _; omega)]
                exact ((box_new w _ _ _ _ _).below ((Below.refl _ _).alloc (Nat.le_refl _) _) (by simp)).c3
              have p1 : wr.cell? ⟨w.heap.size + 1, 3, none⟩ = some (.slice (some ⟨b', off', none⟩) ys.length c') := by
                rw [hb.cell (p := ⟨w.heap.size + 1, 3, none⟩) (by show w.heap.size + 1 < _; omega)]
                exact (box_next (w.alloc _) _ (by simp) _ _ _ _ _).c3
              have C := Lib.hid (fun w' (h : Below wr.heap.size wr w') => IH.out u v w' (by rw [hu]; exact HP.out j hj1) (huk.below h) (hvk.below h))
              have HU := Lib.hid hu
              have HV := Lib.hid hv
              clear hu hv huk hvk
              have hwz := hb.size
              simp at hwz
              cases he : eqT u.t v.t with
              | true =>
                rw [he] at C
                have HE := Lib.hid (eqT_iff.1 he)
                clear he
                go_wp2
                go_still_tail 10, (by kernel_rfl)
                go_wp2_with fail
                refine (C.out _ ((Below.refl _ _).drew)).mono ?_; rintro e w1 ⟨rfl, hb1⟩
                go_wp2_with fail
                go_roundw
                case rel => exact ⟨j + 1, by omega, by go_num, HA.out.succ hj1 hj2 (HU.out.symm.trans (HE.out.trans HV.out)), (hb.drew).trans (hb1.mono (by show w.heap.size + 2 ≤ wr.heap.size; omega))⟩
                case measure => simp [intOf]; omega
              | false =>
                rw [he] at C
                have HE : Hid (u.t ≠ v.t) := Lib.hid (fun e => by rw [eqT_true e] at he; cases he)
                clear he
                go_wp2
                go_still_tail 10, (by kernel_rfl)
                go_wp2_with fail
                refine (C.out _ ((Below.refl _ _).drew)).mono ?_; rintro e w1 ⟨rfl, hb1⟩
                go_wp2_with fail
                go_ret
                refine ⟨ret_bool (Eq.symm (eqT_false fun e => ?_)), hwr.drew.trans (hb1.mono (by show w.heap.size ≤ wr.heap.size; omega))⟩
                have ea := congrArg Tm.args e
                simp only [Tm.args] at ea
                subst ea
                exact HE.out (HU.out.trans HV.out.symm)
            · obtain rfl : j = xs.length := by omega
              go_wp2
              go_ret
              have e := HA.out.all HL.out
              exact ⟨ret_bool (eqT_true (by rw [e])).symm, hbb.trans (hb.mono (by omega))⟩
    · have h0 : eqT (Tm.mk k s n xs) (Tm.mk k' s' n' ys) = false := eqT_false fun e => hne (by cases e; exact ⟨rfl, rfl, rfl, rfl⟩)
      have HE := Lib.hid h0
      clear hne ih hpl hm h0
      rcases hw with hw | ⟨e0, hw | ⟨e1, hw | ⟨e2, hw⟩⟩⟩
      all_goals
        go_enter Tryd.func16, Tryd.ntmps16
        go_wp2
        go_ret
        exact ⟨ret_bool HE.out.symm, hbb⟩
end Go.Proofs.YtccpfgpdcicjaaaDoor

namespace Go.Proofs.YtccpfgpdcicjaaaDoor
open Go.RowKit

set_option maxRecDepth 100000 in
set_option maxHeartbeats 2000000 in
theorem count_tm (m : Nat) : ∀ (x : Tv) (most : Int) (w : World), x.t.parts ≤ m → x.ok w → 0 ≤ most → most ≤ 1000000 →
    Calls Tryd.prog 40 #[x.val, .int .i64 most] w fun e w' => e = .returned (.int .i64 (cnt x.t.parts most)) ∧ Below w.heap.size w w' := by
  induction m with
  | zero => intro x most w h; have := parts_pos x.t; omega
  | succ m ih =>
    intro x most w hm hx hm0 hm1
    obtain ⟨⟨k, s, n, xs⟩, a, c⟩ := x
    obtain ⟨_, hxl, hxr⟩ := hx
    have hpe : (Tm.mk k s n xs).parts = partsL xs + 1 := parts_eq _
    simp only [Tv.val, Tm.kind, Tm.name, Tm.n, Tm.args] at hxl hxr ⊢
    have hpl : ∀ j (h : j < xs.length), xs[j].parts ≤ m := fun j h => by
      have := parts_arg (.mk k s n xs) (j := j) h
      have e : (Tm.mk k s n xs).args[j] = xs[j] := rfl
      rw [e] at this; simp only at hm; omega
    have IH := Lib.hid ih
    have HP := Lib.hid hpl
    have HE := Lib.hid hpe
    clear ih hpl hm hpe
    rcases hxr with rfl | ⟨b, off, rfl, hlt, hr⟩
    · by_cases hmm : (1 : Int) ≤ most
      · have hr := Lib.hid (show cnt (Tm.mk k s n []).parts most = 1 from by rw [HE.out, partsL_nil, cnt_in (by omega)]; rfl)
        go_enter Tryd.func40, Tryd.ntmps40
        go_wp2
        refine wp_loop_rounds 1 ?_; rw [rounds_succ]
        go_wp2
        go_ret
        exact ⟨ret_int hr.out.symm, (Below.refl _ _).alloc (Nat.le_refl _) _⟩
      · have hr := Lib.hid (show cnt (Tm.mk k s n []).parts most = most + 1 from by rw [HE.out, partsL_nil, cnt_out (by omega)])
        go_enter Tryd.func40, Tryd.ntmps40
        go_wp2
        refine wp_loop_rounds 1 ?_; rw [rounds_succ]
        go_wp2
        go_ret
        exact ⟨ret_int hr.out.symm, (Below.refl _ _).alloc (Nat.le_refl _) _⟩
    · have HR := Lib.hid hr
      clear hr
      go_enter Tryd.func40, Tryd.ntmps40
      go_wp2
      go_loopw [5, 11] (fun q i wr => ∃ j : Nat, j ≤ xs.length ∧ i = .int .i64 j ∧ q = .int .i64 (cnt (partsL (xs.take j) + 1) most) ∧ Below w.heap.size w wr) (fun _ i _ => xs.length - (intOf i).toNat)
      case atStart => exact ⟨0, Nat.zero_le _, rfl, by rw [List.take_zero, partsL_nil, cnt_one hm0], (Below.refl _ _).alloc (Nat.le_refl _) _⟩
      case round =>
        obtain ⟨j, hj, rfl, rfl, hb⟩ := hrel
        have hbs := hb.size
        by_cases hjl : j < xs.length
        · have hil : (j : Int) < (xs.length : Int) := by omega
          obtain ⟨u, hu, huk, d0, d1, d2, d3⟩ := tmAt_tv ((rowAt_get HR.out hjl).below hb)
          obtain ⟨p, hp⟩ : ∃ p, p = partsL (xs.take j) + 1 := ⟨_, rfl⟩
          have hnext : partsL (xs.take (j + 1)) + 1 = p + u.t.parts := by rw [partsL_take xs hjl, hp, hu]; omega
          have hall : p + u.t.parts ≤ partsL xs + 1 := by
            rw [← hnext]
            have e := partsL_append (xs.take (j + 1)) (xs.drop (j + 1))
            rw [List.take_append_drop] at e; omega
          rw [← hp]
          by_cases hpm : (p : Int) ≤ most
          · rw [cnt_in hpm]
            have hcb := cnt_bd (p := u.t.parts) (most := most - p) (by omega)
            have C := Lib.hid (fun w' (h : Below wr.heap.size wr w') => IH.out u (most - p) w' (by rw [hu]; exact HP.out j hjl) (huk.below h) (by omega) (by omega))
            have hst := cnt_step (q := u.t.parts) hpm
            obtain ⟨r, hr⟩ : ∃ r, r = cnt u.t.parts (most - p) := ⟨_, rfl⟩
            rw [← hr] at C hcb hst
            have HS := Lib.hid hst
            have HN := Lib.hid hnext
            clear hu hp hnext huk hr hst hall
            go_wp2_with fail
            refine (C.out _ ((Below.refl _ _).alloc (Nat.le_refl _) _)).mono ?_; rintro e w1 ⟨rfl, hb1⟩
            go_wp2_with fail
            go_roundw
            case rel => exact ⟨j + 1, by omega, by go_num, by rw [HN.out, ← HS.out], (hb.alloc hb.size _).trans (hb1.mono (by simp; omega))⟩
            case measure => simp [intOf]; omega
          · rw [cnt_out hpm]
            have hr := Lib.hid (show cnt (Tm.mk k s n xs).parts most = most + 1 from by rw [HE.out, cnt_out (by omega)])
            clear hu hp hnext huk hall
            go_wp2_with fail
            go_ret
            exact ⟨ret_int hr.out.symm, hb.alloc hb.size _⟩
        · obtain rfl : j = xs.length := by omega
          rw [List.take_length, ← HE.out]
          by_cases hpm : ((Tm.mk k s n xs).parts : Int) ≤ most
          · have hr := Lib.hid (cnt_in hpm)
            rw [hr.out]
            obtain ⟨p, hp⟩ : ∃ p, p = (Tm.mk k s n xs).parts := ⟨_, rfl⟩
            rw [← hp] at hr hpm ⊢
            have HQ := Lib.hid hp
            clear hp
            go_wp2_with fail
            go_ret
            exact ⟨ret_int (by rw [← HQ.out]; exact hr.out.symm), hb⟩
          · have hr := Lib.hid (cnt_out hpm)
            rw [hr.out]
            clear hpm
            go_wp2_with fail
            go_ret
            exact ⟨ret_int hr.out.symm, hb⟩
end Go.Proofs.YtccpfgpdcicjaaaDoor

namespace Go.Proofs.YtccpfgpdcicjaaaDoor
open Go.RowKit

set_option maxRecDepth 100000 in
set_option maxHeartbeats 2000000 in
theorem all_tm (m : Nat) : ∀ (x : Tv) (w0 w : World), x.t.parts ≤ m → m ≤ 2300000000000 → x.ok w0 → Below w0.heap.size w0 w →
    Calls Tryd.prog 41 #[x.val] w fun e w' => ∃ v, e = .returned v ∧ OwnTv w0 w' w.heap.size v x.t.all ∧ v.ownBlock ≠ none ∧ Below w.heap.size w w' := by
  induction m with
  | zero => intro x w0 w h; have := parts_pos x.t; omega
  | succ m ih =>
    intro x w0 w hm hm1 hx hb0
    obtain ⟨i0, hi, hz0, hz1, hz2⟩ := info_parts termInfo
    have hxw := hx.below hb0
    have hX := hx
    obtain ⟨⟨k, s, n, xs⟩, a, c⟩ := x
    obtain ⟨_, hxl, hxr⟩ := hx
    have hpe : (Tm.mk k s n xs).parts = partsL xs + 1 := parts_eq _
    simp only [Tv.val, Tm.kind, Tm.name, Tm.n, Tm.args] at hxl hxr hm ⊢
    have hpl : ∀ j (h : j < xs.length), xs[j].parts ≤ m := fun j h => by
      have := parts_arg (.mk k s n xs) (j := j) h
      have e : (Tm.mk k s n xs).args[j] = xs[j] := rfl
      rw [e] at this; omega
    have HX := Lib.hid hX
    have hwz : Below w.heap.size w ((w.alloc (.cells #[.int .i64 k, .string s, .int .i64 n, .slice a xs.length c] 28)).alloc (.cells #[.int .i64 k, .string s, .int .i64 n, .slice a xs.length c] 28)) := ((Below.refl _ _).alloc (Nat.le_refl _) _).alloc (by simp) _
    have hown0 : ((w.alloc (.cells #[.int .i64 k, .string s, .int .i64 n, .slice a xs.length c] 28)).alloc (.cells #[.int .i64 k, .string s, .int .i64 n, .slice a xs.length c] 28)).ownsRow w.heap.size 28 4 (.slice (some ⟨w.heap.size + 1, 0, none⟩) 1 1) 1 (rowTv [⟨.mk k s n xs, a, c⟩]) := by
      have := own_first (w.alloc (.cells #[.int .i64 k, .string s, .int .i64 n, .slice a xs.length c] 28)) w.heap.size (by simp) ⟨.mk k s n xs, a, c⟩
      rw [show (w.alloc (.cells #[.int .i64 k, .string s, .int .i64 n, .slice a xs.length c] 28)).heap.size = w.heap.size + 1 from by simp] at this
      exact this
    have hpr := partsL_length xs
    have HE := Lib.hid hpe
    have hps : partsL xs + 1 ≤ 2300000000000 := by omega
    have IH := Lib.hid (fun x w0 w h1 h2 h3 => ih x w0 w h1 (by omega) h2 h3)
    have HP := Lib.hid hpl
    have HO := Lib.hid hown0
    clear ih hpl hm hpe hX hown0 hxw
    rcases hxr with rfl | ⟨b, off, rfl, hlt, hr⟩
    · go_enter Tryd.func41, Tryd.ntmps41
      go_wp2
      refine wp_loop_rounds 1 ?_; rw [rounds_succ]
      go_wp2
      go_ret
      exact ⟨_, rfl, ⟨[⟨.mk k s n [], a, c⟩], by rw [Tm.all, allL]; rfl, by intro x hx; rw [List.mem_singleton.1 hx]; exact HX.out, by rw [Tm.all, allL]; exact HO.out⟩, by simp [Value.ownBlock], hwz⟩
    · have HR := Lib.hid hr
      have HB0 := Lib.hid hb0
      have hlt0 : b < w.heap.size := Nat.lt_of_lt_of_le hlt hb0.size
      clear hr hb0
      go_enter Tryd.func41, Tryd.ntmps41
      go_wp2
      go_loopw [3, 11] (fun o i wr => ∃ (j : Nat) (vs : List Tv), j ≤ xs.length ∧ i = .int .i64 j ∧ vs.length = partsL (xs.take j) + 1 ∧ vs.map Tv.t = Tm.mk k s n xs :: allL (xs.take j) ∧ (∀ x ∈ vs, x.ok w0) ∧
        wr.ownsRow w.heap.size 28 4 o vs.length (rowTv vs) ∧ o.ownBlock ≠ none ∧ Below w.heap.size w wr) (fun _ i _ => xs.length - (intOf i).toNat)
      case atStart => exact ⟨0, [⟨.mk k s n xs, some ⟨b, off, none⟩, c⟩], Nat.zero_le _, rfl, by rw [List.take_zero, partsL_nil]; rfl, by rw [List.take_zero, allL]; rfl, by intro x hx; rw [List.mem_singleton.1 hx]; exact HX.out, HO.out, by simp [Value.ownBlock], hwz⟩
      case round =>
        obtain ⟨j, vs, hj, rfl, hvl, hvt, hvo, hown, hnn, hb⟩ := hrel
        have hbs := hb.size
        by_cases hjl : j < xs.length
        · have hil : (j : Int) < (xs.length : Int) := by omega
          obtain ⟨u, hu, huk, hat⟩ := tmAt_tv (rowAt_get HR.out hjl)
          obtain ⟨d0, d1, d2, d3⟩ := (hat.below HB0.out).below hb
          have hup : u.t.parts ≤ partsL xs := by rw [hu]; exact parts_get xs hjl
          have hnx := partsL_take xs hjl
          rw [← hu] at hnx
          have hall : partsL (xs.take (j + 1)) ≤ partsL xs := by
            have e := partsL_append (xs.take (j + 1)) (xs.drop (j + 1))
            rw [List.take_append_drop] at e; omega
          have hat2 := allL_take hjl
          rw [← hu] at hat2
          have C := Lib.hid (fun w' (h : Below wr.heap.size wr w') => IH.out u w0 w' (by rw [hu]; exact HP.out j hjl) huk (HB0.out.trans ((hb.mono (by exact HB0.out.size)).trans (h.mono (by have := HB0.out.size; omega)))))
          have HVT := Lib.hid hvt
          have HVO := Lib.hid hvo
          have HA := Lib.hid hat2
          have HN := Lib.hid hnx
          have HL := Lib.hid hvl
          have hvb : vs.length + u.t.parts ≤ 2300000000000 := by omega
          have hvb2 : vs.length ≤ 2300000000000 := by omega
          clear hvt hvo hat2 hnx hvl hat hu huk hall hup
          go_wp2_with fail
          refine (C.out _ ((Below.refl _ _).alloc (Nat.le_refl _) _)).mono ?_; rintro e w1 ⟨v1, rfl, ⟨us, hut, huo, hown1⟩, hnn1, hb1⟩
          have hbw1 : Below wr.heap.size wr w1 := ((Below.refl _ _).alloc (Nat.le_refl _) _).trans (hb1.mono (by simp))
          have hown2 := own_below (hown.alloc _) hb1
          have hge1 := own_row_ge hown1
          have hlt1 := own_row_lt hown1
          have hown1' := hown1
          rw [all_length] at hown1
          obtain ⟨hrl, hv1 | ⟨g, cap, cur, rfl, hg1, hgc, hgn, hgm, hgs, hgt⟩⟩ := hown1
          · rw [hv1.1] at hnn1; exact absurd rfl hnn1
          have hnews : ∀ q x, (rowTv us)[q]? = some x → w1.cell? ((⟨g, 0, none⟩ : Addr).add q) = some x := by
            intro q x hq
            have hql : q < (rowTv us).length := (List.getElem?_eq_some_iff.1 hq).1
            have e : ((⟨g, 0, none⟩ : Addr).add q) = ⟨g, q, none⟩ := by
              unfold Addr.add; split
              · next h => subst h; rfl
              · simp
            rw [e, cell_of_row w1 g q cur _ (0, 0) hgc, ← hq, ← hgt, List.getElem?_take, if_pos (by omega)]
            simp
          have hn1 := rowTv_one' us
          have hbs1 := hbw1.size
          have HNW := Lib.hid hnews
          have HN1 := Lib.hid hn1
          have hpp : ∃ p, p = u.t.parts := ⟨_, rfl⟩
          obtain ⟨p, hp⟩ := hpp
          rw [← hp] at hvb hgn hgt hrl ⊢
          have HPP := Lib.hid hp
          have HUT := Lib.hid hut
          have HUO := Lib.hid huo
          have HRL := Lib.hid hrl
          clear hnews hn1 hgt hgs hgc hp hut huo hrl hown hown1' hge1 hlt1
          go_wp2_with (at_builtin; refine wpList_append_own _ rfl _ _ 22 rfl w.heap.size 28 i0 (.agg #[.int .i64 0, .string ⟨#[]⟩, .int .i64 0, .slice none 0 0]) 4 56 Tryd.underlying22 hi hz0 hz1 hz2 rfl (by decide) _ vs.length _ rfl hown2 ⟨g, 0, none⟩ p cap (rowTv us) rfl HRL.out HNW.out HN1.out ?c3 ?c4 ?c5 ?_)
          case c3 => unfold maxLen; omega
          case c4 => omega
          case c5 => omega
          intro v' w2 hown3 hgrow hnil
          have hb2 : Below w.heap.size w w2 := (hb.trans (hbw1.mono hbs)).grown hgrow (by omega) (own_row_ge hown2)
          have hnn2 : v'.ownBlock ≠ none := by
            obtain ⟨_, h⟩ := hown3
            rcases h with ⟨rfl, h0⟩ | ⟨g', cap', cur', rfl, _⟩
            · have := HL.out; omega
            · simp [Value.ownBlock]
          have hrel : (vs ++ us).length = partsL (xs.take (j + 1)) + 1 ∧ (vs ++ us).map Tv.t = Tm.mk k s n xs :: allL (xs.take (j + 1)) ∧ (∀ x ∈ vs ++ us, x.ok w0) ∧ w2.ownsRow w.heap.size 28 4 v' (vs ++ us).length (rowTv (vs ++ us)) := by
            have hul : us.length = p := by
              have := congrArg List.length HUT.out
              rw [List.length_map, all_length] at this
              rw [this, HPP.out]
            refine ⟨?_, ?_, ?_, ?_⟩
            · rw [List.length_append, hul, HN.out, HL.out, ← HPP.out]; omega
            · rw [List.map_append, HVT.out, HUT.out, HA.out]; rfl
            · intro x hx
              rcases List.mem_append.1 hx with h | h
              · exact HVO.out x h
              · exact HUO.out x h
            · rw [rowTv_append, List.length_append, hul]; exact hown3
          have HREL := Lib.hid hrel
          clear hown3 hgrow hnil hown2 hrel hb1 hbw1 hb
          go_wp2_with fail
          go_roundw
          case rel => exact ⟨j + 1, vs ++ us, by omega, by go_num, HREL.out.1, HREL.out.2.1, HREL.out.2.2.1, HREL.out.2.2.2, hnn2, hb2⟩
          case measure => simp [intOf]; omega
        · obtain rfl : j = xs.length := by omega
          rw [List.take_length] at hvl hvt
          have hown' : wr.ownsRow w.heap.size 28 4 u3 (Tm.mk k s n xs).all.length (rowTv vs) := by
            rw [all_length, HE.out, ← hvl]; exact hown
          have hvt' : vs.map Tv.t = (Tm.mk k s n xs).all := by rw [hvt, Tm.all]
          have HVT := Lib.hid hvt'
          have HVO := Lib.hid hvo
          clear hvl hvt hvt' hvo hown
          go_wp2
          go_ret
          exact ⟨_, rfl, ⟨vs, HVT.out, HVO.out, hown'⟩, hnn, hb⟩
end Go.Proofs.YtccpfgpdcicjaaaDoor

namespace Go.Proofs.YtccpfgpdcicjaaaDoor
open Go.RowKit

open Classical in
/-- Where a term stands first in a list; its length, if it doesn't. -/
noncomputable def idxT : List Tm → Tm → Nat
  | [], _ => 0
  | x :: r, t => if x = t then 0 else idxT r t + 1
theorem idxT_le : ∀ (L : List Tm) (t : Tm), idxT L t ≤ L.length
  | [], _ => Nat.le_refl _
  | x :: r, t => by
    rw [idxT, List.length_cons]; split
    · omega
    · have := idxT_le r t; omega
theorem idxT_mem : ∀ {L : List Tm} {t : Tm}, t ∈ L → idxT L t < L.length
  | [], _, h => by cases h
  | x :: r, t, h => by
    rw [idxT, List.length_cons]; split
    · omega
    · next hne =>
      have := idxT_mem (L := r) ((List.mem_cons.1 h).resolve_left (fun e => hne e.symm))
      omega
theorem idxT_get : ∀ {L : List Tm} {t : Tm}, idxT L t < L.length → L[idxT L t]? = some t
  | [], _, h => by simp [idxT] at h
  | x :: r, t, h => by
    rw [idxT] at h ⊢
    split
    · next e => rw [e]; rfl
    · next hne =>
      rw [if_neg hne, List.length_cons] at h
      rw [List.getElem?_cons_succ]
      exact idxT_get (by omega)
theorem mem_idxT {L : List Tm} {t : Tm} (h : idxT L t < L.length) : t ∈ L := List.mem_of_getElem? (idxT_get h)
theorem idxT_none {L : List Tm} {t : Tm} (h : t ∉ L) : idxT L t = L.length := by
  have h1 := idxT_le L t
  rcases Nat.lt_or_ge (idxT L t) L.length with h2 | h2
  · exact absurd (mem_idxT h2) h
  · omega
theorem idxT_append : ∀ {L M : List Tm} {t : Tm}, t ∈ L → idxT (L ++ M) t = idxT L t
  | [], _, _, h => by cases h
  | x :: r, M, t, h => by
    rw [List.cons_append, idxT, idxT]
    split
    · rfl
    · next hne => rw [idxT_append ((List.mem_cons.1 h).resolve_left (fun e => hne e.symm))]
theorem idxT_first {L : List Tm} {t : Tm} {k : Nat} (hk : L[k]? = some t) (h : ∀ j, j < k → L[j]? ≠ some t) : idxT L t = k := by
  have hm := idxT_mem (List.mem_of_getElem? hk)
  have hg := idxT_get hm
  rcases Nat.lt_trichotomy (idxT L t) k with h1 | h1 | h1
  · exact absurd hg (h _ h1)
  · exact h1
  · exfalso
    clear h
    induction L generalizing k with
    | nil => simp at hk
    | cons x r ih =>
      rw [idxT] at h1 hm hg
      cases k with
      | zero =>
        simp only [List.getElem?_cons_zero, Option.some.injEq] at hk
        rw [if_pos hk] at h1; omega
      | succ k =>
        split at h1
        · omega
        · next hne =>
          rw [if_neg hne, List.length_cons] at hm
          rw [if_neg hne, List.getElem?_cons_succ] at hg
          rw [List.getElem?_cons_succ] at hk
          exact ih hk (by omega) hg (by omega)
/-- The number of a term in a list; -1: it isn't there. -/
noncomputable def numT (L : List Tm) (t : Tm) : Int := if idxT L t < L.length then (idxT L t : Int) else -1
theorem numT_in {L : List Tm} {t : Tm} (h : t ∈ L) : numT L t = (idxT L t : Int) := by unfold numT; rw [if_pos (idxT_mem h)]
theorem numT_out {L : List Tm} {t : Tm} (h : t ∉ L) : numT L t = -1 := by unfold numT; rw [if_neg (fun k => h (mem_idxT k))]
theorem numT_at {L : List Tm} {t : Tm} {k : Nat} (hk : L[k]? = some t) (h : ∀ j, j < k → L[j]? ≠ some t) : numT L t = (k : Int) := by
  rw [numT_in (List.mem_of_getElem? hk), idxT_first hk h]
theorem numT_none {L : List Tm} {t : Tm} (h : ∀ j, j < L.length → L[j]? ≠ some t) : numT L t = -1 := numT_out fun hm => by
  obtain ⟨j, hj, e⟩ := List.getElem_of_mem hm
  exact h j hj (by rw [List.getElem?_eq_getElem hj, e])

open Classical in
/-- A term more, if it isn't there. -/
noncomputable def addT (L : List Tm) (t : Tm) : List Tm := if t ∈ L then L else L ++ [t]
theorem addT_in {L : List Tm} {t : Tm} (h : t ∈ L) : addT L t = L := by unfold addT; rw [if_pos h]
theorem addT_out {L : List Tm} {t : Tm} (h : t ∉ L) : addT L t = L ++ [t] := by unfold addT; rw [if_neg h]
mutual
/-- A list with a term behind it, what is in it first, if they aren't there. -/
noncomputable def putT : Tm → List Tm → List Tm
  | .mk k s n xs, L => addT (putTs xs L) (.mk k s n xs)
noncomputable def putTs : List Tm → List Tm → List Tm
  | [], L => L
  | t :: r, L => putTs r (putT t L)
end
theorem putT_eq (t : Tm) (L : List Tm) : putT t L = addT (putTs t.args L) t := by cases t; rw [putT]; rfl
theorem putTs_append : ∀ (a b : List Tm) (L : List Tm), putTs (a ++ b) L = putTs b (putTs a L)
  | [], b, L => by rw [List.nil_append, putTs]
  | t :: r, b, L => by rw [List.cons_append, putTs, putTs, putTs_append r b]
theorem putTs_take {l : List Tm} {k : Nat} (h : k < l.length) (L : List Tm) : putTs (l.take (k + 1)) L = putT l[k] (putTs (l.take k) L) := by
  rw [List.take_succ_eq_append_getElem h, putTs_append, putTs, putTs]
theorem addT_prefix (L : List Tm) (t : Tm) : ∃ M, addT L t = L ++ M := by
  by_cases h : t ∈ L
  · exact ⟨[], by rw [addT_in h, List.append_nil]⟩
  · exact ⟨[t], addT_out h⟩
mutual
theorem putT_prefix : ∀ (t : Tm) (L : List Tm), ∃ M, putT t L = L ++ M
  | .mk k s n xs, L => by
    obtain ⟨M, hM⟩ := putTs_prefix xs L
    obtain ⟨K, hK⟩ := addT_prefix (putTs xs L) (.mk k s n xs)
    exact ⟨M ++ K, by rw [putT, hK, hM, List.append_assoc]⟩
theorem putTs_prefix : ∀ (l : List Tm) (L : List Tm), ∃ M, putTs l L = L ++ M
  | [], L => ⟨[], by rw [putTs, List.append_nil]⟩
  | t :: r, L => by
    obtain ⟨M, hM⟩ := putT_prefix t L
    obtain ⟨K, hK⟩ := putTs_prefix r (putT t L)
    exact ⟨M ++ K, by rw [putTs, hK, hM, List.append_assoc]⟩
end
theorem putT_mem (t : Tm) (L : List Tm) : t ∈ putT t L := by
  rw [putT_eq]
  by_cases h : t ∈ putTs t.args L
  · rw [addT_in h]; exact h
  · rw [addT_out h]; simp
theorem mem_putT {t x : Tm} {L : List Tm} (h : x ∈ L) : x ∈ putT t L := by
  obtain ⟨M, e⟩ := putT_prefix t L
  rw [e]; exact List.mem_append_left _ h
theorem mem_putTs {l : List Tm} {x : Tm} {L : List Tm} (h : x ∈ L) : x ∈ putTs l L := by
  obtain ⟨M, e⟩ := putTs_prefix l L
  rw [e]; exact List.mem_append_left _ h
theorem putTs_mem : ∀ {l : List Tm} {x : Tm} (L : List Tm), x ∈ l → x ∈ putTs l L
  | [], _, _, h => by cases h
  | t :: r, x, L, h => by
    rw [putTs]
    rcases List.mem_cons.1 h with rfl | h
    · exact mem_putTs (putT_mem _ _)
    · exact putTs_mem _ h
theorem addT_length (L : List Tm) (t : Tm) : (addT L t).length ≤ L.length + 1 := by
  by_cases h : t ∈ L
  · rw [addT_in h]; omega
  · rw [addT_out h, List.length_append]; simp
mutual
theorem putT_length : ∀ (t : Tm) (L : List Tm), (putT t L).length ≤ L.length + t.parts
  | .mk k s n xs, L => by
    have h1 := putTs_length xs L
    have h2 := addT_length (putTs xs L) (.mk k s n xs)
    rw [putT, Tm.parts]; omega
theorem putTs_length : ∀ (l : List Tm) (L : List Tm), (putTs l L).length ≤ L.length + partsL l
  | [], L => by rw [putTs, partsL]; omega
  | t :: r, L => by
    have h1 := putT_length t L
    have h2 := putTs_length r (putT t L)
    rw [putTs, partsL]; omega
end
/-- Each once; what is in a term stands ahead of it. -/
structure Ord (L : List Tm) : Prop where
  once : L.Nodup
  ahead : ∀ (k : Nat) (h : k < L.length), ∀ x ∈ L[k].args, idxT L x < k
theorem Ord.nil : Ord [] := ⟨List.nodup_nil, fun k h => by simp at h⟩
theorem Ord.has {L : List Tm} (h : Ord L) {t x : Tm} (ht : t ∈ L) (hx : x ∈ t.args) : x ∈ L := by
  obtain ⟨k, hk, rfl⟩ := List.getElem_of_mem ht
  exact mem_idxT (Nat.lt_trans (h.ahead k hk x hx) hk)
theorem Ord.idx {L : List Tm} (h : Ord L) {k : Nat} (hk : k < L.length) : idxT L L[k] = k := by
  refine idxT_first (List.getElem?_eq_getElem hk) (fun j hj e => ?_)
  have hj2 : j < L.length := by omega
  rw [List.getElem?_eq_getElem hj2] at e
  have := (List.nodup_iff_pairwise_ne.1 h.once)
  have hp := (List.pairwise_iff_getElem.1 this) j k hj2 hk hj
  exact hp (Option.some.inj e)
theorem Ord.add {L : List Tm} (h : Ord L) {t : Tm} (ha : ∀ x ∈ t.args, x ∈ L) : Ord (addT L t) := by
  by_cases ht : t ∈ L
  · rw [addT_in ht]; exact h
  · rw [addT_out ht]
    refine ⟨?_, fun k hk x hx => ?_⟩
    · rw [List.nodup_append]
      refine ⟨h.once, by simp, fun a ha' b hb => ?_⟩
      rw [List.mem_singleton] at hb
      intro e; exact ht (by rw [← hb, ← e]; exact ha')
    · rcases Nat.lt_or_ge k L.length with hkl | hkl
      · rw [List.getElem_append_left hkl] at hx
        have hm := h.has (List.getElem_mem hkl) hx
        rw [idxT_append hm]
        exact h.ahead k hkl x hx
      · rw [List.length_append, List.length_singleton] at hk
        obtain rfl : k = L.length := by omega
        rw [List.getElem_append_right (Nat.le_refl _)] at hx
        simp only [Nat.sub_self, List.getElem_cons_zero] at hx
        have hm := ha x hx
        rw [idxT_append hm]
        exact idxT_mem hm
mutual
theorem Ord.put : ∀ {L : List Tm} (_ : Ord L) (t : Tm), Ord (putT t L)
  | L, h, .mk k s n xs => by
    rw [putT]
    exact (Ord.puts h xs).add (fun x hx => putTs_mem _ hx)
theorem Ord.puts : ∀ {L : List Tm} (_ : Ord L) (l : List Tm), Ord (putTs l L)
  | L, h, [] => by rw [putTs]; exact h
  | L, h, t :: r => by rw [putTs]; exact Ord.puts (Ord.put h t) r
end
mutual
/-- What is there stays as it is. -/
theorem Ord.put_in : ∀ {L : List Tm} (_ : Ord L) (t : Tm), t ∈ L → putT t L = L
  | L, h, .mk k s n xs, ht => by
    rw [putT, Ord.puts_in h xs (fun x hx => h.has ht hx), addT_in ht]
theorem Ord.puts_in : ∀ {L : List Tm} (_ : Ord L) (l : List Tm), (∀ x ∈ l, x ∈ L) → putTs l L = L
  | L, h, [], _ => by rw [putTs]
  | L, h, t :: r, hl => by
    rw [putTs, Ord.put_in h t (hl t (List.mem_cons_self ..))]
    exact Ord.puts_in h r (fun x hx => hl x (List.mem_cons_of_mem _ hx))
end
theorem idxT_put {L : List Tm} {t x : Tm} (h : x ∈ L) : idxT (putT t L) x = idxT L x := by
  obtain ⟨M, e⟩ := putT_prefix t L
  rw [e, idxT_append h]
theorem numT_put {L : List Tm} {t x : Tm} (h : x ∈ L) : numT (putT t L) x = numT L x := by
  rw [numT_in (mem_putT h), numT_in h, idxT_put h]
/-- Two terms have the same number just if they are the same. -/
theorem numT_same {L : List Tm} {t x : Tm} (ht : t ∈ L) (hx : x ∈ L) : numT L t = numT L x ↔ t = x := by
  constructor
  · intro h
    rw [numT_in ht, numT_in hx] at h
    have h2 : idxT L t = idxT L x := by omega
    have e1 := idxT_get (idxT_mem ht)
    have e2 := idxT_get (idxT_mem hx)
    rw [h2, e2] at e1
    exact (Option.some.inj e1).symm
  · rintro rfl; rfl
end Go.Proofs.YtccpfgpdcicjaaaDoor
