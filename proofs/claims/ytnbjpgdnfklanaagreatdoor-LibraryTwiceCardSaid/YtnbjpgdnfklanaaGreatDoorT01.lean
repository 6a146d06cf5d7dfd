/-
  Small facts that every layer's texts use: answers, boxes of two and of four cells, rows that the call itself makes, and memory behind memory. Nothing of the program's functions.
  Terms xs data; struct values and rows in memory that read xs terms; and that a call which makes new memory alone leaves them xs they were.
  All parts of a term, by the reference of layer 3: All, for any term in memory that has not too many; the row lies in new memory, the parts' arguments where they lay. (as data)
  How many parts a term has, up to a bound, by the reference of layer 3: count, for any term in memory. (as data)
  How terms are alike, as data: rows up to a place, where two heads part. No function of the program.
  How many parts a term has, up to a bound, by the reference of layer 3: count, for any term in memory.
  All parts of a term, by the reference of layer 3: All, for any term in memory that has not too many; the row lies in new memory, the parts' arguments where they lay.
  Terms that are small, rows of terms held against each other, and whether a term is in a row, by the reference of layer 3: Within, Small, Smalls, Sames, In, Has.
  Slices that read as lists of texts. Nothing of the program's functions.
-/
import Derived.Test.YtnbjpgdnfklanaaGreatDoorRows
import Derived.WalkKit
import Derived.WalkSpells
import Derived.WalkLawsBesides
import Derived.Lib.Hide
import Derived.Lib.SlicesS
import Derived.OwnWalk
import Derived.Below
import Derived.Laws.OwnMore
import Derived.Laws.MakeOwn
namespace Go.Proofs.YtnbjpgdnfklanaaGreatDoor
open Go.RowKit
theorem ret_int {k : IntKind} {a b : Int} (h : a = b) : Ending.returned (.int k a) = .returned (.int k b) := by rw [h]
theorem ret_bool {a b : Bool} (h : a = b) : Ending.returned (.bool a) = .returned (.bool b) := by rw [h]
theorem below_drewN {B : Nat} {a w : World} (h : Below B a w) (n : Nat) : Below B a (w.drewN n) := ⟨h.os, h.tape, h.output, h.size, h.block⟩
structure Box (w1 : World) (g : Nat) (x0 x1 x2 x3 : Value) : Prop where
  c0 : w1.cell? ⟨g, 0, none⟩ = some x0
  c1 : w1.cell? ⟨g, 1, none⟩ = some x1
  c2 : w1.cell? ⟨g, 2, none⟩ = some x2
  c3 : w1.cell? ⟨g, 3, none⟩ = some x3
  f0 : w1.frozen? ⟨g, 0, none⟩ = false
  f1 : w1.frozen? ⟨g, 1, none⟩ = false
  f2 : w1.frozen? ⟨g, 2, none⟩ = false
  f3 : w1.frozen? ⟨g, 3, none⟩ = false
theorem box_new (w : World) (x0 x1 x2 x3 : Value) (t : TypeId) : Box (w.alloc (.cells #[x0, x1, x2, x3] t)) w.heap.size x0 x1 x2 x3 where
  c0 := World.cell?_alloc_mark w #[x0, x1, x2, x3] t (0, 0) 0
  c1 := World.cell?_alloc_mark w #[x0, x1, x2, x3] t (0, 0) 1
  c2 := World.cell?_alloc_mark w #[x0, x1, x2, x3] t (0, 0) 2
  c3 := World.cell?_alloc_mark w #[x0, x1, x2, x3] t (0, 0) 3
  f0 := by simp
  f1 := by simp
  f2 := by simp
  f3 := by simp
theorem Box.below {w w1 : World} {g B : Nat} {x0 x1 x2 x3 : Value} (h : Box w g x0 x1 x2 x3) (hb : Below B w w1) (hg : g < B) : Box w1 g x0 x1 x2 x3 where
  c0 := (hb.cell (p := ⟨g, 0, none⟩) hg).trans h.c0
  c1 := (hb.cell (p := ⟨g, 1, none⟩) hg).trans h.c1
  c2 := (hb.cell (p := ⟨g, 2, none⟩) hg).trans h.c2
  c3 := (hb.cell (p := ⟨g, 3, none⟩) hg).trans h.c3
  f0 := (hb.frozen (p := ⟨g, 0, none⟩) hg).trans h.f0
  f1 := (hb.frozen (p := ⟨g, 1, none⟩) hg).trans h.f1
  f2 := (hb.frozen (p := ⟨g, 2, none⟩) hg).trans h.f2
  f3 := (hb.frozen (p := ⟨g, 3, none⟩) hg).trans h.f3
theorem box_after {w w1 : World} {x0 x1 x2 x3 : Value} {t : TypeId} (hb : Below (w.alloc (.cells #[x0, x1, x2, x3] t)).heap.size (w.alloc (.cells #[x0, x1, x2, x3] t)) w1) : Box w1 w.heap.size x0 x1 x2 x3 :=
  (box_new w x0 x1 x2 x3 t).below hb (by simp)
theorem own_row_ge {w : World} {base : Nat} {e : TypeId} {size : Nat} {v : Value} {n : Nat} {xs : List Value} (h : w.ownsRow base e size v n xs) : ∀ g, v.ownBlock = some g → base ≤ g := by
  intro g hg
  obtain ⟨_, ⟨rfl, _⟩ | ⟨g', cap, cur, rfl, hb, _⟩⟩ := h
  · cases hg
  · cases hg; exact hb
theorem own_row_lt {w : World} {base : Nat} {e : TypeId} {size : Nat} {v : Value} {n : Nat} {xs : List Value} (h : w.ownsRow base e size v n xs) : ∀ g, v.ownBlock = some g → g < w.heap.size := by
  intro g hg
  obtain ⟨_, ⟨rfl, _⟩ | ⟨g', cap, cur, rfl, hb, hgg, _⟩⟩ := h
  · cases hg
  · injection hg with hg
    subst hg
    rcases Nat.lt_or_ge g' w.heap.size with hlt | hge
    · exact hlt
    · rw [Array.getElem?_eq_none hge] at hgg; cases hgg
structure Pair (w1 : World) (g : Nat) (x0 x1 : Value) : Prop where
  c0 : w1.cell? ⟨g, 0, none⟩ = some x0
  c1 : w1.cell? ⟨g, 1, none⟩ = some x1
  f0 : w1.frozen? ⟨g, 0, none⟩ = false
  f1 : w1.frozen? ⟨g, 1, none⟩ = false
theorem pair_new (w : World) (x0 x1 : Value) (t : TypeId) : Pair (w.alloc (.cells #[x0, x1] t)) w.heap.size x0 x1 where
  c0 := World.cell?_alloc_mark w #[x0, x1] t (0, 0) 0
  c1 := World.cell?_alloc_mark w #[x0, x1] t (0, 0) 1
  f0 := by simp
  f1 := by simp
theorem Pair.below {w w1 : World} {g B : Nat} {x0 x1 : Value} (h : Pair w g x0 x1) (hb : Below B w w1) (hg : g < B) : Pair w1 g x0 x1 where
  c0 := (hb.cell (p := ⟨g, 0, none⟩) hg).trans h.c0
  c1 := (hb.cell (p := ⟨g, 1, none⟩) hg).trans h.c1
  f0 := (hb.frozen (p := ⟨g, 0, none⟩) hg).trans h.f0
  f1 := (hb.frozen (p := ⟨g, 1, none⟩) hg).trans h.f1
theorem pair_after {w wr : World} {x0 x1 : Value} {t : TypeId} (hb : Below (w.heap.size + 1) (w.alloc (.cells #[x0, x1] t)) wr) : Pair wr w.heap.size x0 x1 :=
  (pair_new w x0 x1 t).below hb (by omega)
theorem own_lower {w : World} {base b0 : Nat} {e : TypeId} {size : Nat} {v : Value} {n : Nat} {xs : List Value} (h : w.ownsRow base e size v n xs) (hb : b0 ≤ base) : w.ownsRow b0 e size v n xs := by
  obtain ⟨hn, h⟩ := h
  refine ⟨hn, ?_⟩
  rcases h with h | ⟨g, cap, cur, rfl, hbb, hr⟩
  · exact .inl h
  · exact .inr ⟨g, cap, cur, rfl, Nat.le_trans hb hbb, hr⟩
theorem own_below {w w1 : World} {base : Nat} {e : TypeId} {size : Nat} {v : Value} {n : Nat} {xs : List Value} (h : w.ownsRow base e size v n xs) (hb : Below w.heap.size w w1) : w1.ownsRow base e size v n xs := by
  obtain ⟨hn, h⟩ := h
  refine ⟨hn, ?_⟩
  rcases h with h | ⟨g, cap, cur, rfl, hbb, hg, hr⟩
  · exact .inl h
  · refine .inr ⟨g, cap, cur, rfl, hbb, ?_, hr⟩
    rcases Nat.lt_or_ge g w.heap.size with hlt | hge
    · rw [hb.block g hlt]; exact hg
    · rw [Array.getElem?_eq_none hge] at hg; cases hg
theorem Box.grown {w w1 : World} {g : Nat} {x0 x1 x2 x3 : Value} {row : Option Nat} (h : Box w g x0 x1 x2 x3) (hg : w.grownBy w1 row) (hlt : g < w.heap.size) (hr : ∀ k, row = some k → k ≠ g) : w1.cell? ⟨g, 1, none⟩ = some x1 := by
  have hb := hg.block g hlt (fun e => hr g e.symm rfl)
  have := World.cell?_of_block (w := w) (w' := w1) (a := ⟨g, 1, none⟩) hb
  rw [this]; exact h.c1
theorem below_next {w w1 w2 : World} (h : Below w.heap.size w w1) (h2 : Below w1.heap.size w1 w2) : Below w.heap.size w w2 := h.trans (h2.mono h.size)
end Go.Proofs.YtnbjpgdnfklanaaGreatDoor

namespace Go.Proofs.YtnbjpgdnfklanaaGreatDoor
open Go.RowKit
inductive Tm where
  | mk (kind : Int) (name : ByteArray) (n : Int) (args : List Tm)
def Tm.kind : Tm → Int | .mk k _ _ _ => k
def Tm.name : Tm → ByteArray | .mk _ s _ _ => s
def Tm.n : Tm → Int | .mk _ _ n _ => n
def Tm.args : Tm → List Tm | .mk _ _ _ xs => xs
instance : Inhabited Tm := ⟨.mk 0 ⟨#[]⟩ 0 []⟩
mutual

def Tm.parts : Tm → Nat
  | .mk _ _ _ xs => partsL xs + 1
def partsL : List Tm → Nat
  | [] => 0
  | t :: r => t.parts + partsL r
end
theorem parts_eq (t : Tm) : t.parts = partsL t.args + 1 := by cases t; rw [Tm.parts]; rfl
theorem parts_pos (t : Tm) : 1 ≤ t.parts := by rw [parts_eq]; omega
theorem partsL_cons (t : Tm) (r : List Tm) : partsL (t :: r) = t.parts + partsL r := by rw [partsL]
theorem partsL_nil : partsL [] = 0 := by rw [partsL]
theorem partsL_append (a b : List Tm) : partsL (a ++ b) = partsL a + partsL b := by
  induction a with
  | nil => rw [List.nil_append, partsL_nil]; omega
  | cons t r ih => rw [List.cons_append, partsL_cons, partsL_cons, ih]; omega
theorem parts_get (l : List Tm) {j : Nat} (h : j < l.length) : l[j].parts ≤ partsL l := by
  induction l generalizing j with
  | nil => simp at h
  | cons t r ih =>
    rw [partsL_cons]
    cases j with
    | zero => simp
    | succ j => have := ih (j := j) (by simpa using h); simp; omega
theorem parts_arg (t : Tm) {j : Nat} (h : j < t.args.length) : t.args[j].parts < t.parts := by
  rw [parts_eq t]; have := parts_get t.args h; omega
theorem partsL_length (l : List Tm) : l.length ≤ partsL l := by
  induction l with
  | nil => simp
  | cons t r ih => rw [partsL_cons, List.length_cons]; have := parts_pos t; omega
theorem partsL_take (l : List Tm) {k : Nat} (h : k < l.length) : partsL (l.take (k + 1)) = partsL (l.take k) + l[k].parts := by
  rw [List.take_succ_eq_append_getElem h, partsL_append, partsL_cons, partsL_nil]; omega
structure Fit (k : Int) (s : ByteArray) (n : Int) : Prop where
  klo : -9223372036854775808 ≤ k
  khi : k ≤ 9223372036854775807
  nlo : -9223372036854775808 ≤ n
  nhi : n ≤ 9223372036854775807
  len : s.size ≤ 9223372036854775807
mutual

def TmAt (w : World) : Tm → Nat → Nat → Prop
  | .mk k s n xs, b, o => Fit k s n ∧ w.cell? ⟨b, o, none⟩ = some (.int .i64 k) ∧ w.cell? ⟨b, o + 1, none⟩ = some (.string s) ∧ w.cell? ⟨b, o + 2, none⟩ = some (.int .i64 n) ∧
    ∃ a c, w.cell? ⟨b, o + 3, none⟩ = some (.slice a xs.length c) ∧ (xs.length ≤ 9223372036854775807 ∧ xs.length ≤ c) ∧ (xs = [] ∨ ∃ b' o', a = some ⟨b', o', none⟩ ∧ b' < w.heap.size ∧ RowAt w xs b' o')
def RowAt (w : World) : List Tm → Nat → Nat → Prop
  | [], _, _ => True
  | t :: r, b, o => TmAt w t b o ∧ RowAt w r b (o + 4)
end
def Args (w : World) (a : Option Addr) (c : Nat) (xs : List Tm) : Prop := (xs.length ≤ 9223372036854775807 ∧ xs.length ≤ c) ∧ (xs = [] ∨ ∃ b o, a = some ⟨b, o, none⟩ ∧ b < w.heap.size ∧ RowAt w xs b o)
theorem rowAt_get {w : World} : ∀ {xs : List Tm} {b o : Nat}, RowAt w xs b o → ∀ {j : Nat} (h : j < xs.length), TmAt w xs[j] b (o + j * 4)
  | [], _, _, _, _, h => by simp at h
  | t :: r, b, o, hr, 0, _ => by rw [RowAt] at hr; simpa using hr.1
  | t :: r, b, o, hr, j + 1, h => by
    rw [RowAt] at hr
    have := rowAt_get hr.2 (j := j) (by simpa using h)
    rw [show o + (j + 1) * 4 = o + 4 + j * 4 from by omega]
    exact this
theorem rowAt_of {w : World} : ∀ {xs : List Tm} {b o : Nat}, (∀ {j : Nat} (h : j < xs.length), TmAt w xs[j] b (o + j * 4)) → RowAt w xs b o
  | [], _, _, _ => by rw [RowAt]; trivial
  | t :: r, b, o, h => by
    rw [RowAt]
    refine ⟨(show TmAt w t b (o + 0 * 4) from h (j := 0) (by simp)), rowAt_of fun {j} hj => ?_⟩
    have := h (j := j + 1) (by simpa using hj)
    rw [show o + (j + 1) * 4 = o + 4 + j * 4 from by omega] at this
    exact this
structure Tv where
  t : Tm
  a : Option Addr
  c : Nat
def Tv.val (v : Tv) : Value := .agg #[.int .i64 v.t.kind, .string v.t.name, .int .i64 v.t.n, .slice v.a v.t.args.length v.c]
def Tv.cells (v : Tv) : List Value := [.int .i64 v.t.kind, .string v.t.name, .int .i64 v.t.n, .slice v.a v.t.args.length v.c]
def Tv.ok (w : World) (v : Tv) : Prop := Fit v.t.kind v.t.name v.t.n ∧ Args w v.a v.c v.t.args
structure TvAt (w : World) (b o : Nat) (v : Tv) : Prop where
  c0 : w.cell? ⟨b, o, none⟩ = some (.int .i64 v.t.kind)
  c1 : w.cell? ⟨b, o + 1, none⟩ = some (.string v.t.name)
  c2 : w.cell? ⟨b, o + 2, none⟩ = some (.int .i64 v.t.n)
  c3 : w.cell? ⟨b, o + 3, none⟩ = some (.slice v.a v.t.args.length v.c)
theorem tmAt_tv {w : World} {t : Tm} {b o : Nat} (h : TmAt w t b o) : ∃ v : Tv, v.t = t ∧ v.ok w ∧ TvAt w b o v := by
  cases t with
  | mk k s n xs =>
    rw [TmAt] at h
    obtain ⟨hf, h0, h1, h2, a, c, h3, hl, hr⟩ := h
    exact ⟨⟨.mk k s n xs, a, c⟩, rfl, ⟨hf, hl, hr⟩, h0, h1, h2, h3⟩
theorem tv_tmAt {w : World} {v : Tv} {b o : Nat} (hk : v.ok w) (h : TvAt w b o v) : TmAt w v.t b o := by
  obtain ⟨t, a, c⟩ := v
  cases t with
  | mk k s n xs =>
    rw [TmAt]
    exact ⟨hk.1, h.c0, h.c1, h.c2, a, c, h.c3, hk.2.1, hk.2.2⟩
theorem lt_of_cell {w : World} {b o : Nat} {x : Value} (h : w.cell? ⟨b, o, none⟩ = some x) : b < w.heap.size := by
  rcases Nat.lt_or_ge b w.heap.size with hlt | hge
  · exact hlt
  · unfold World.cell? at h
    simp [Array.getElem?_eq_none hge] at h
mutual
theorem TmAt.below {w w' : World} (hb : Below w.heap.size w w') : ∀ {t : Tm} {b o : Nat}, TmAt w t b o → TmAt w' t b o
  | .mk k s n xs, b, o, h => by
    rw [TmAt] at h ⊢
    obtain ⟨hf, h0, h1, h2, a, c, h3, hl, hr⟩ := h
    have hlt := lt_of_cell h0
    refine ⟨hf, (hb.cell (p := ⟨b, o, none⟩) hlt).trans h0, (hb.cell (p := ⟨b, o + 1, none⟩) hlt).trans h1, (hb.cell (p := ⟨b, o + 2, none⟩) hlt).trans h2, a, c, (hb.cell (p := ⟨b, o + 3, none⟩) hlt).trans h3, hl, ?_⟩
    rcases hr with hr | ⟨b', o', ha, hb', hr⟩
    · exact .inl hr
    · exact .inr ⟨b', o', ha, Nat.lt_of_lt_of_le hb' hb.size, RowAt.below hb hr⟩
theorem RowAt.below {w w' : World} (hb : Below w.heap.size w w') : ∀ {xs : List Tm} {b o : Nat}, RowAt w xs b o → RowAt w' xs b o
  | [], _, _, _ => by rw [RowAt]; trivial
  | t :: r, b, o, h => by
    rw [RowAt] at h ⊢
    exact ⟨TmAt.below hb h.1, RowAt.below hb h.2⟩
end
theorem Args.below {w w' : World} {a : Option Addr} {c : Nat} {xs : List Tm} (h : Args w a c xs) (hb : Below w.heap.size w w') : Args w' a c xs := by
  obtain ⟨hl, h⟩ := h
  refine ⟨hl, ?_⟩
  rcases h with h | ⟨b, o, ha, hlt, hr⟩
  · exact .inl h
  · exact .inr ⟨b, o, ha, Nat.lt_of_lt_of_le hlt hb.size, hr.below hb⟩
theorem Tv.ok.below {w w' : World} {v : Tv} (h : v.ok w) (hb : Below w.heap.size w w') : v.ok w' := ⟨h.1, Args.below h.2 hb⟩
def Tms (w : World) (v : Value) (ts : List Tm) : Prop := ∃ a c, v = .slice a ts.length c ∧ Args w a c ts
theorem Tms.below {w w' : World} {v : Value} {ts : List Tm} (h : Tms w v ts) (hb : Below w.heap.size w w') : Tms w' v ts := by
  obtain ⟨a, c, hv, h⟩ := h
  exact ⟨a, c, hv, h.below hb⟩
theorem Tms.none_ (w : World) (a : Option Addr) (c : Nat) : Tms w (.slice a 0 c) [] := ⟨a, c, rfl, by simp, .inl rfl⟩
noncomputable def eqT (t u : Tm) : Bool := @decide (t = u) (Classical.propDecidable _)
theorem eqT_true {t u : Tm} (h : t = u) : eqT t u = true := by unfold eqT; simp [h]
theorem eqT_false {t u : Tm} (h : t ≠ u) : eqT t u = false := by unfold eqT; simp [h]
theorem eqT_iff {t u : Tm} : eqT t u = true ↔ t = u := by unfold eqT; simp
noncomputable def eqTs (ts us : List Tm) : Bool := @decide (ts = us) (Classical.propDecidable _)
theorem eqTs_true {ts us : List Tm} (h : ts = us) : eqTs ts us = true := by unfold eqTs; simp [h]
theorem eqTs_false {ts us : List Tm} (h : ts ≠ us) : eqTs ts us = false := by unfold eqTs; simp [h]
theorem TvAt.below {w w' : World} {b o : Nat} {v : Tv} (h : TvAt w b o v) (hb : Below w.heap.size w w') : TvAt w' b o v where
  c0 := (hb.cell (p := ⟨b, o, none⟩) (lt_of_cell h.c0)).trans h.c0
  c1 := (hb.cell (p := ⟨b, o + 1, none⟩) (lt_of_cell h.c0)).trans h.c1
  c2 := (hb.cell (p := ⟨b, o + 2, none⟩) (lt_of_cell h.c0)).trans h.c2
  c3 := (hb.cell (p := ⟨b, o + 3, none⟩) (lt_of_cell h.c0)).trans h.c3
end Go.Proofs.YtnbjpgdnfklanaaGreatDoor

namespace Go.Proofs.YtnbjpgdnfklanaaGreatDoor
open Go.RowKit
mutual

def Tm.all : Tm → List Tm
  | .mk k s n xs => .mk k s n xs :: allL xs
def allL : List Tm → List Tm
  | [] => []
  | t :: r => t.all ++ allL r
end
theorem all_eq (t : Tm) : t.all = t :: allL t.args := by cases t; rw [Tm.all]; rfl
theorem allL_append (a b : List Tm) : allL (a ++ b) = allL a ++ allL b := by
  induction a with
  | nil => rw [List.nil_append, allL]; rfl
  | cons t r ih => rw [List.cons_append, allL, allL, ih, List.append_assoc]
theorem allL_take {l : List Tm} {k : Nat} (h : k < l.length) : allL (l.take (k + 1)) = allL (l.take k) ++ l[k].all := by
  rw [List.take_succ_eq_append_getElem h, allL_append]
  congr 1
  rw [allL, allL, List.append_nil]
mutual
theorem all_length : ∀ t : Tm, t.all.length = t.parts
  | .mk k s n xs => by rw [Tm.all, List.length_cons, allL_length xs, Tm.parts]
theorem allL_length : ∀ l : List Tm, (allL l).length = partsL l
  | [] => by rw [allL, partsL]; rfl
  | t :: r => by rw [allL, List.length_append, all_length t, allL_length r, partsL]
end
theorem termInfo : (Tryz.prog.info? 50).map (fun i => (i.zero, i.size, i.bytes)) = some (some (.agg #[.int .i64 0, .string ⟨#[]⟩, .int .i64 0, .slice none 0 0]), 4, 56) := by kernel_rfl
def rowTv (vs : List Tv) : List Value := vs.flatMap Tv.cells
theorem rowTv_length (vs : List Tv) : (rowTv vs).length = vs.length * 4 := by
  unfold rowTv
  induction vs with
  | nil => rfl
  | cons t r ih => rw [List.flatMap_cons, List.length_append, ih]; simp [Tv.cells]; omega
theorem rowTv_get (vs : List Tv) (j : Nat) (h : j < vs.length) (i : Nat) (hi : i < 4) : (rowTv vs)[j * 4 + i]? = vs[j].cells[i]? := by
  induction vs generalizing j with
  | nil => simp at h
  | cons t r ih =>
    unfold rowTv
    rw [List.flatMap_cons]
    cases j with
    | zero => rw [Nat.zero_mul, Nat.zero_add, List.getElem?_append_left (by simp [Tv.cells]; omega)]; rfl
    | succ j =>
      rw [List.getElem?_append_right (by simp [Tv.cells]; omega)]
      have := ih j (by simpa using h)
      rw [show (j + 1) * 4 + i - t.cells.length = j * 4 + i from by simp [Tv.cells]; omega]
      exact this
theorem rowTv_one' (vs : List Tv) : ∀ u ∈ rowTv vs, u.oneCell' = true := by
  intro u hu
  unfold rowTv at hu
  obtain ⟨v, _, hv⟩ := List.mem_flatMap.1 hu
  simp [Tv.cells] at hv
  rcases hv with rfl | rfl | rfl | rfl <;> rfl
def OwnTv (w0 w : World) (base : Nat) (v : Value) (ts : List Tm) : Prop :=
  ∃ vs : List Tv, vs.map Tv.t = ts ∧ (∀ x ∈ vs, x.ok w0) ∧ w.ownsRow base 50 4 v ts.length (rowTv vs)
theorem OwnTv.tms {w0 w : World} {base : Nat} {v : Value} {ts : List Tm} (h : OwnTv w0 w base v ts) (hb : Below w0.heap.size w0 w) (hl : ts.length ≤ 9223372036854775807) : Tms w v ts := by
  obtain ⟨vs, rfl, hok, hn, h⟩ := h
  rcases h with ⟨rfl, h0⟩ | ⟨g, cap, cur, rfl, _, hg, hcap, hmax, hsz, htake⟩
  · have : vs = [] := by simpa using h0
    subst this
    exact Tms.none_ _ _ _
  · refine ⟨_, cap, rfl, ⟨hl, hcap⟩, ?_⟩
    by_cases h0 : vs = []
    · left; rw [h0]; rfl
    right
    have hlt : g < w.heap.size := by
      rcases Nat.lt_or_ge g w.heap.size with hlt | hge
      · exact hlt
      · rw [Array.getElem?_eq_none hge] at hg; cases hg
    refine ⟨g, 0, rfl, hlt, rowAt_of fun {j} hj => ?_⟩
    have hjv : j < vs.length := by simpa using hj
    rw [List.getElem_map]
    have cell : ∀ i, i < 4 → w.cell? ⟨g, 0 + j * 4 + i, none⟩ = vs[j].cells[i]? := by
      intro i hi
      rw [cell_of_row w g (0 + j * 4 + i) cur _ (0, 0) hg, ← rowTv_get vs j hjv i hi, ← htake, List.getElem?_take, if_pos (by simp; omega), Nat.zero_add]
      simp
    exact tv_tmAt ((hok _ (List.getElem_mem hjv)).below hb) ⟨cell 0 (by omega), cell 1 (by omega), cell 2 (by omega), cell 3 (by omega)⟩
end Go.Proofs.YtnbjpgdnfklanaaGreatDoor

namespace Go.Proofs.YtnbjpgdnfklanaaGreatDoor
open Go.RowKit
end Go.Proofs.YtnbjpgdnfklanaaGreatDoor

namespace Go.Proofs.YtnbjpgdnfklanaaGreatDoor
open Go.RowKit
theorem Tv.ok.drew {w : World} {v : Tv} (h : v.ok w) : v.ok w.drew := h.below ((Below.refl _ _).drew)
theorem box_next (w : World) (g : Nat) (hg : g = w.heap.size) (x0 x1 x2 x3 : Value) (t : TypeId) : Box (w.alloc (.cells #[x0, x1, x2, x3] t)) g x0 x1 x2 x3 := by
  subst hg; exact box_new w x0 x1 x2 x3 t
def TmsTo (xs ys : List Tm) (k : Nat) : Prop := ∀ j (h1 : j < xs.length) (h2 : j < ys.length), j < k → xs[j] = ys[j]
theorem TmsTo.succ {xs ys : List Tm} {k : Nat} (h : TmsTo xs ys k) (h1 : k < xs.length) (h2 : k < ys.length) (hk : xs[k] = ys[k]) : TmsTo xs ys (k + 1) := by
  intro j a b hj
  by_cases e : j = k
  · subst e; exact hk
  · exact h j a b (by omega)
theorem TmsTo.all {xs ys : List Tm} (h : TmsTo xs ys xs.length) (hl : xs.length = ys.length) : xs = ys :=
  List.ext_getElem hl fun j h1 h2 => h j h1 h2 h1
theorem tm_ways (k k' : Int) (s s' : ByteArray) (n n' : Int) (l l' : Nat) : (k = k' ∧ s = s' ∧ n = n' ∧ l = l') ∨ (¬ (k = k' ∧ s = s' ∧ n = n' ∧ l = l') ∧ ((k != k') = true ∨ ((k != k') = false ∧ ((n != n') = true ∨ ((n != n') = false ∧ (((s.toList == s'.toList) = false) ∨ ((s.toList == s'.toList) = true ∧ ((l : Int) != (l' : Int)) = true))))))) := by
  by_cases h0 : k = k'
  · by_cases h2 : n = n'
    · by_cases h1 : s = s'
      · by_cases h3 : l = l'
        · exact .inl ⟨h0, h1, h2, h3⟩
        · exact .inr ⟨fun h => h3 h.2.2.2, .inr ⟨by simp [h0], .inr ⟨by simp [h2], .inr ⟨by simp [h1], by rw [bne_iff_ne]; omega⟩⟩⟩⟩
      · exact .inr ⟨fun h => h1 h.2.1, .inr ⟨by simp [h0], .inr ⟨by simp [h2], .inl (by rw [Lib.bytes_beq_false_iff]; exact h1)⟩⟩⟩
    · exact .inr ⟨fun h => h2 h.2.2.1, .inr ⟨by simp [h0], .inl (by rw [bne_iff_ne]; exact h2)⟩⟩
  · exact .inr ⟨fun h => h0 h.1, .inl (by rw [bne_iff_ne]; exact h0)⟩
end Go.Proofs.YtnbjpgdnfklanaaGreatDoor

namespace Go.Proofs.YtnbjpgdnfklanaaGreatDoor
open Go.RowKit
end Go.Proofs.YtnbjpgdnfklanaaGreatDoor

namespace Go.Proofs.YtnbjpgdnfklanaaGreatDoor
open Go.RowKit
end Go.Proofs.YtnbjpgdnfklanaaGreatDoor

namespace Go.Proofs.YtnbjpgdnfklanaaGreatDoor
open Go.RowKit
def nameB (t : Tm) : Bool := decide (t.name.size ≤ 100)
def withinB (t : Tm) (most : Int) : Bool := decide ((t.parts : Int) ≤ most) && t.all.all nameB
def NamesTo (ts : List Tm) (k : Nat) : Prop := ∀ j (h : j < ts.length), j < k → nameB ts[j] = true
theorem NamesTo.succ {ts : List Tm} {k : Nat} (h : NamesTo ts k) (hk : k < ts.length) (hs : nameB ts[k] = true) : NamesTo ts (k + 1) := by
  intro j hj hjk
  by_cases e : j = k
  · subst e; exact hs
  · exact h j hj (by omega)
theorem NamesTo.all {t : Tm} {most : Int} (h : NamesTo t.all t.all.length) (hp : (t.parts : Int) ≤ most) : withinB t most = true := by
  unfold withinB; rw [decide_eq_true hp, Bool.true_and, List.all_eq_true]
  intro x hx
  obtain ⟨j, hj, rfl⟩ := List.getElem_of_mem hx
  exact h j hj hj
end Go.Proofs.YtnbjpgdnfklanaaGreatDoor

namespace Go.Proofs.YtnbjpgdnfklanaaGreatDoor
open Go.RowKit
def Strs (w : World) (v : Value) (zs : List ByteArray) : Prop :=
  ∃ a c, v = .slice a zs.length c ∧ zs.length ≤ 9223372036854775806 ∧ (zs = [] ∨ ∃ b off, a = some ⟨b, off, none⟩ ∧ b < w.heap.size ∧ ∀ j, j < zs.length → w.cell? ⟨b, off + j, none⟩ = some (.string (zs.getD j ByteArray.empty)))
theorem Strs.below {w w' : World} {v : Value} {zs : List ByteArray} (h : Strs w v zs) (hb : Below w.heap.size w w') : Strs w' v zs := by
  obtain ⟨a, c, hv, hl, h⟩ := h
  refine ⟨a, c, hv, hl, ?_⟩
  rcases h with h | ⟨b, off, ha, hlt, hc⟩
  · exact .inl h
  · exact .inr ⟨b, off, ha, Nat.lt_of_lt_of_le hlt hb.size, fun j hj => by rw [hb.cell (p := ⟨b, off + j, none⟩) hlt]; exact hc j hj⟩
theorem strs_alloc (w : World) (zs : List ByteArray) (t : TypeId) (hn : zs.length ≤ 9223372036854775806) :
    Strs (w.alloc (.cells (zs.map Value.string).toArray t)) (.slice (some ⟨w.heap.size, 0, none⟩) zs.length zs.length) zs := by
  refine ⟨_, _, rfl, hn, .inr ⟨w.heap.size, 0, rfl, by simp, fun j hj => ?_⟩⟩
  have e := World.cell?_alloc_mark w (zs.map Value.string).toArray t (0, 0) (0 + j)
  rw [e]
  simp [hj]
def NotYet (zs : List ByteArray) (x : ByteArray) (k : Nat) : Prop := ∀ j, j < k → zs.getD j ByteArray.empty ≠ x
theorem NotYet.succ {zs : List ByteArray} {x : ByteArray} {k : Nat} (h : NotYet zs x k) (hk : zs.getD k ByteArray.empty ≠ x) : NotYet zs x (k + 1) := by
  intro j hj
  by_cases e : j = k
  · rw [e]; exact hk
  · exact h j (by omega)
theorem NotYet.all {zs : List ByteArray} {x : ByteArray} (h : NotYet zs x zs.length) : Lib.containsS zs x = false := by
  rw [← Bool.not_eq_true, Lib.containsS_iff]
  intro hm
  obtain ⟨j, hj, e⟩ := List.getElem_of_mem hm
  exact h j hj (by simpa [List.getD, hj] using e)
theorem contains_here {zs : List ByteArray} {x : ByteArray} {k : Nat} (hk : k < zs.length) (h : zs[k] = x) : Lib.containsS zs x = true := by
  rw [Lib.containsS_iff, ← h]; exact List.getElem_mem _
theorem strInfo : (Tryz.prog.info? 9).map (fun i => (i.zero, i.size, i.bytes)) = some (some (.string ⟨#[]⟩), 1, 16) := by kernel_rfl
theorem own_cells {w : World} {base : Nat} {e : TypeId} {v : Value} {n : Nat} {xs : List ByteArray} (h : w.ownsRow base e 1 v n (xs.map Value.string)) : (v = .slice none 0 0 ∧ xs = []) ∨
    ∃ g cap, v = .slice (some ⟨g, 0, none⟩) xs.length cap ∧ g < w.heap.size ∧ xs.length ≤ cap ∧ ∀ (j : Nat) x, xs[j]? = some x → w.cell? ⟨g, 0 + j, none⟩ = some (.string x) := by
  obtain ⟨hn, h⟩ := h
  have hxn : xs.length = n := by simpa using hn
  subst hxn
  rcases h with ⟨rfl, h0⟩ | ⟨g, cap, cur, rfl, hb, hg, hcap, hmax, hsz, htake⟩
  · exact .inl ⟨rfl, List.eq_nil_of_length_eq_zero h0⟩
  · refine .inr ⟨g, cap, rfl, ?_, hcap, fun j x hj => ?_⟩
    · rcases Nat.lt_or_ge g w.heap.size with hlt | hge
      · exact hlt
      · rw [Array.getElem?_eq_none hge] at hg; cases hg
    · have hjl : j < xs.length := (List.getElem?_eq_some_iff.1 hj).1
      rw [cell_of_row w g (0 + j) cur e (0, 0) hg]
      have : (xs.map Value.string)[j]? = some (.string x) := by rw [List.getElem?_map, hj]; rfl
      rw [← htake, List.getElem?_take, if_pos (by omega)] at this
      rw [Nat.zero_add]
      simpa using this
theorem strs_of_own {w : World} {base : Nat} {e : TypeId} {v : Value} {n : Nat} {zs : List ByteArray} (h : w.ownsRow base e 1 v n (zs.map Value.string)) (hl : zs.length ≤ 9223372036854775806) : Strs w v zs := by
  rcases own_cells h with ⟨rfl, rfl⟩ | ⟨g, cap, rfl, hg, _, hc⟩
  · exact ⟨none, 0, rfl, by simp, .inl rfl⟩
  · refine ⟨_, cap, rfl, hl, .inr ⟨g, 0, rfl, hg, fun j hj => ?_⟩⟩
    have := hc j zs[j] (by rw [List.getElem?_eq_getElem hj])
    rw [this]; simp [List.getD, hj]
end Go.Proofs.YtnbjpgdnfklanaaGreatDoor
