/-
  Small facts that every layer's texts use: answers, boxes of two and of four cells, rows that the call itself makes, and memory behind memory. Nothing of the program's functions.
  Trees in memory: a kind, a text, a number, a place, and more trees; rows of them. No function of the program.
  Classes of bytes, as data. No function of the program.
  How many bytes that may be part of a word stand at a place of a text: what parts of package lex answers, and Long of the reference, for every text and every place in it. Neither changes anything. (as data)
  Slices that read as lists of texts. Nothing of the program's functions.
  Words, as data. No function of the program.
  Plain facts on bytes and decimal digits: what text a number has, and that no two numbers have the same one. Nothing of the program.
  Digits and Number of package chars, and the same of the reference: a number in decimal, and the number from 0 to 999 that a text is; in every world in which the listed variables of strconv hold what they were laid with. Each call makes new memory alone. (as data)
  The token that a text begins with: token, word, sign and number of package lex. (as data)
  The token that a text begins with, as token of package lex tells it, and as At of the reference tells it of any place of a text. (as data)
  The token that begins at a place of a text, as At of the reference tells it. (as data)
  Tokens as data, and slices that read as rows of them; whether tokens are few and short, by the reference. (as data)
-/
import Derived.Test.YtldgbdmiebipnaaGreatDoorRows
import Derived.WalkKit
import Derived.WalkSpells
import Derived.WalkLawsBesides
import Derived.Lib.Hide
import Derived.Lib.SlicesS
import Derived.OwnWalk
import Derived.Below
import Derived.Laws.OwnMore
import Derived.Laws.MakeOwn
import Derived.Lib.ItoaNum
import Derived.Lib.ItoaMem
import Derived.Lib.AtoiTie
import Derived.Lib.AtoiAllCases
import Derived.Lib.ItoaLen
namespace Go.Proofs.YtldgbdmiebipnaaGreatDoor
open Go.RowKit

theorem ret_int {k : IntKind} {a b : Int} (h : a = b) : Ending.returned (.int k a) = .returned (.int k b) := by rw [h]
theorem ret_bool {a b : Bool} (h : a = b) : Ending.returned (.bool a) = .returned (.bool b) := by rw [h]

theorem ret_val {a b : Value} (h : a = b) : Ending.returned a = .returned b := by rw [h]

theorem below_drewN {B : Nat} {a w : World} (h : Below B a w) (n : Nat) : Below B a (w.drewN n) := ⟨h.os, h.tape, h.output, h.size, h.block⟩

/-- A box of four cells, behind a call that made new memory alone. -/
structure Box (w1 : World) (g : Nat) (x0 x1 x2 x3 : Value) : Prop where
  c0 : w1.cell? ⟨g, 0, none⟩ = some x0
  c1 : w1.cell? ⟨g, 1, none⟩ = some x1
  c2 : w1.cell? ⟨g, 2, none⟩ = some x2
  c3 : w1.cell? ⟨g, 3, none⟩ = some x3
  f0 : w1.frozen? ⟨g, 0, none⟩ = false
  f1 : w1.frozen? ⟨g, 1, none⟩ = false
  f2 : w1.frozen? ⟨g, 2, none⟩ = false
  f3 : w1.frozen? ⟨g, 3, none⟩ = false
theorem box_new (w : World) (x0 x1 x2 x3 : Value) (t : TypeId) : Box (w.alloc (.cells #[x0, x1, x2, x3] t)) w.heap.size x0 x1 x2 x3 where
  c0 := World.cell?_alloc_mark w #[x0, x1, x2, x3] t (0, 0) 0
  c1 := World.cell?_alloc_mark w #[x0, x1, x2, x3] t (0, 0) 1
  c2 := World.cell?_alloc_mark w #[x0, x1, x2, x3] t (0, 0) 2
  c3 := World.cell?_alloc_mark w #[x0, x1, x2, x3] t (0, 0) 3
  f0 := by simp
  f1 := by simp
  f2 := by simp
  f3 := by simp
theorem Box.below {w w1 : World} {g B : Nat} {x0 x1 x2 x3 : Value} (h : Box w g x0 x1 x2 x3) (hb : Below B w w1) (hg : g < B) : Box w1 g x0 x1 x2 x3 where
  c0 := (hb.cell (p := ⟨g, 0, none⟩) hg).trans h.c0
  c1 := (hb.cell (p := ⟨g, 1, none⟩) hg).trans h.c1
  c2 := (hb.cell (p := ⟨g, 2, none⟩) hg).trans h.c2
  c3 := (hb.cell (p := ⟨g, 3, none⟩) hg).trans h.c3
  f0 := (hb.frozen (p := ⟨g, 0, none⟩) hg).trans h.f0
  f1 := (hb.frozen (p := ⟨g, 1, none⟩) hg).trans h.f1
  f2 := (hb.frozen (p := ⟨g, 2, none⟩) hg).trans h.f2
  f3 := (hb.frozen (p := ⟨g, 3, none⟩) hg).trans h.f3
theorem box_after {w w1 : World} {x0 x1 x2 x3 : Value} {t : TypeId} (hb : Below (w.alloc (.cells #[x0, x1, x2, x3] t)).heap.size (w.alloc (.cells #[x0, x1, x2, x3] t)) w1) : Box w1 w.heap.size x0 x1 x2 x3 :=
  (box_new w x0 x1 x2 x3 t).below hb (by simp)
theorem below_box {w w1 : World} {o : Obj} (hb : Below (w.alloc o).heap.size (w.alloc o) w1) : Below w.heap.size w w1 :=
  ((Below.refl _ _).alloc (Nat.le_refl _) _).trans (hb.mono (by simp))
theorem below_box' {w w1 : World} {o : Obj} {g : Nat} {x0 x1 x2 x3 : Value} (hx : Box (w.alloc o) g x0 x1 x2 x3) (hb : Below (w.alloc o).heap.size (w.alloc o) w1) (hg : g = w.heap.size := by rfl) : Box w1 g x0 x1 x2 x3 ∧ Below w.heap.size w w1 ∧ w.heap.size < w1.heap.size :=
  ⟨hx.below hb (by subst hg; simp), below_box hb, by have := hb.size; simp at this; omega⟩
theorem new_row4 (w : World) (b : Nat) (hb : b = w.heap.size) (x0 x1 x2 x3 : Value) (t : TypeId) : ∀ j u, [x0, x1, x2, x3][j]? = some u → (w.alloc (.cells #[x0, x1, x2, x3] t)).cell? ((⟨b, 0, none⟩ : Addr).add j) = some u := by
  subst hb
  intro j u hj
  have e := World.cell?_alloc_mark w #[x0, x1, x2, x3] t (0, 0) (0 + j)
  have : ((⟨w.heap.size, 0, none⟩ : Addr).add j) = ⟨w.heap.size, 0 + j, none⟩ := by
    unfold Addr.add; split
    · next h => subst h; rfl
    · rfl
  rw [this, e]
  simpa using hj
theorem own_row_ge {w : World} {base : Nat} {e : TypeId} {size : Nat} {v : Value} {n : Nat} {xs : List Value} (h : w.ownsRow base e size v n xs) : ∀ g, v.ownBlock = some g → base ≤ g := by
  intro g hg
  obtain ⟨_, ⟨rfl, _⟩ | ⟨g', cap, cur, rfl, hb, _⟩⟩ := h
  · cases hg
  · cases hg; exact hb
theorem own_row_lt {w : World} {base : Nat} {e : TypeId} {size : Nat} {v : Value} {n : Nat} {xs : List Value} (h : w.ownsRow base e size v n xs) : ∀ g, v.ownBlock = some g → g < w.heap.size := by
  intro g hg
  obtain ⟨_, ⟨rfl, _⟩ | ⟨g', cap, cur, rfl, hb, hgg, _⟩⟩ := h
  · cases hg
  · injection hg with hg
    subst hg
    rcases Nat.lt_or_ge g' w.heap.size with hlt | hge
    · exact hlt
    · rw [Array.getElem?_eq_none hge] at hgg; cases hgg
/-- A box of two cells. -/
structure Pair (w1 : World) (g : Nat) (x0 x1 : Value) : Prop where
  c0 : w1.cell? ⟨g, 0, none⟩ = some x0
  c1 : w1.cell? ⟨g, 1, none⟩ = some x1
  f0 : w1.frozen? ⟨g, 0, none⟩ = false
  f1 : w1.frozen? ⟨g, 1, none⟩ = false
theorem pair_new (w : World) (x0 x1 : Value) (t : TypeId) : Pair (w.alloc (.cells #[x0, x1] t)) w.heap.size x0 x1 where
  c0 := World.cell?_alloc_mark w #[x0, x1] t (0, 0) 0
  c1 := World.cell?_alloc_mark w #[x0, x1] t (0, 0) 1
  f0 := by simp
  f1 := by simp
theorem Pair.below {w w1 : World} {g B : Nat} {x0 x1 : Value} (h : Pair w g x0 x1) (hb : Below B w w1) (hg : g < B) : Pair w1 g x0 x1 where
  c0 := (hb.cell (p := ⟨g, 0, none⟩) hg).trans h.c0
  c1 := (hb.cell (p := ⟨g, 1, none⟩) hg).trans h.c1
  f0 := (hb.frozen (p := ⟨g, 0, none⟩) hg).trans h.f0
  f1 := (hb.frozen (p := ⟨g, 1, none⟩) hg).trans h.f1
theorem pair_after {w wr : World} {x0 x1 : Value} {t : TypeId} (hb : Below (w.heap.size + 1) (w.alloc (.cells #[x0, x1] t)) wr) : Pair wr w.heap.size x0 x1 :=
  (pair_new w x0 x1 t).below hb (by omega)
theorem below_pair {w wr : World} {o : Obj} (hb : Below (w.heap.size + 1) (w.alloc o) wr) : Below w.heap.size w wr :=
  ((Below.refl _ _).alloc (Nat.le_refl _) _).trans (hb.mono (by omega))
theorem own_lower {w : World} {base b0 : Nat} {e : TypeId} {size : Nat} {v : Value} {n : Nat} {xs : List Value} (h : w.ownsRow base e size v n xs) (hb : b0 ≤ base) : w.ownsRow b0 e size v n xs := by
  obtain ⟨hn, h⟩ := h
  refine ⟨hn, ?_⟩
  rcases h with h | ⟨g, cap, cur, rfl, hbb, hr⟩
  · exact .inl h
  · exact .inr ⟨g, cap, cur, rfl, Nat.le_trans hb hbb, hr⟩
theorem own_below {w w1 : World} {base : Nat} {e : TypeId} {size : Nat} {v : Value} {n : Nat} {xs : List Value} (h : w.ownsRow base e size v n xs) (hb : Below w.heap.size w w1) : w1.ownsRow base e size v n xs := by
  obtain ⟨hn, h⟩ := h
  refine ⟨hn, ?_⟩
  rcases h with h | ⟨g, cap, cur, rfl, hbb, hg, hr⟩
  · exact .inl h
  · refine .inr ⟨g, cap, cur, rfl, hbb, ?_, hr⟩
    rcases Nat.lt_or_ge g w.heap.size with hlt | hge
    · rw [hb.block g hlt]; exact hg
    · rw [Array.getElem?_eq_none hge] at hg; cases hg
/-- A box that was laid ahead of an append, behind it. -/
theorem Box.grown {w w1 : World} {g : Nat} {x0 x1 x2 x3 : Value} {row : Option Nat} (h : Box w g x0 x1 x2 x3) (hg : w.grownBy w1 row) (hlt : g < w.heap.size) (hr : ∀ k, row = some k → k ≠ g) : w1.cell? ⟨g, 1, none⟩ = some x1 := by
  have hb := hg.block g hlt (fun e => hr g e.symm rfl)
  have := World.cell?_of_block (w := w) (w' := w1) (a := ⟨g, 1, none⟩) hb
  rw [this]; exact h.c1
/-- Two memories, one behind the other. -/
theorem below_next {w w1 w2 : World} (h : Below w.heap.size w w1) (h2 : Below w1.heap.size w1 w2) : Below w.heap.size w w2 := h.trans (h2.mono h.size)

end Go.Proofs.YtldgbdmiebipnaaGreatDoor

namespace Go.Proofs.YtldgbdmiebipnaaGreatDoor
open Go.RowKit

/-- A term as it stands in a text. -/
inductive Tr where
  | mk (kind : Int) (text : ByteArray) (n : Int) (spot : Int) (args : List Tr)
def Tr.kind : Tr → Int | .mk k _ _ _ _ => k
def Tr.text : Tr → ByteArray | .mk _ s _ _ _ => s
def Tr.n : Tr → Int | .mk _ _ n _ _ => n
def Tr.spot : Tr → Int | .mk _ _ _ p _ => p
def Tr.args : Tr → List Tr | .mk _ _ _ _ xs => xs
theorem Tr.eta (t : Tr) : t = .mk t.kind t.text t.n t.spot t.args := by cases t; rfl
instance : Inhabited Tr := ⟨.mk 0 ⟨#[]⟩ 0 0 []⟩
mutual
/-- How many parts a tree has. -/
def Tr.parts : Tr → Nat
  | .mk _ _ _ _ xs => partsR xs + 1
def partsR : List Tr → Nat
  | [] => 0
  | t :: r => t.parts + partsR r
end
theorem trParts_eq (t : Tr) : t.parts = partsR t.args + 1 := by cases t; rw [Tr.parts]; rfl
theorem trParts_pos (t : Tr) : 1 ≤ t.parts := by rw [trParts_eq]; omega
theorem partsR_cons (t : Tr) (r : List Tr) : partsR (t :: r) = t.parts + partsR r := by rw [partsR]
theorem partsR_nil : partsR [] = 0 := by rw [partsR]
theorem partsR_append (a b : List Tr) : partsR (a ++ b) = partsR a + partsR b := by
  induction a with
  | nil => rw [List.nil_append, partsR_nil]; omega
  | cons t r ih => rw [List.cons_append, partsR_cons, partsR_cons, ih]; omega
theorem partsR_get (l : List Tr) {j : Nat} (h : j < l.length) : l[j].parts ≤ partsR l := by
  induction l generalizing j with
  | nil => simp at h
  | cons t r ih =>
    rw [partsR_cons]
    cases j with
    | zero => simp
    | succ j => have := ih (j := j) (by simpa using h); simp; omega
theorem partsR_length (l : List Tr) : l.length ≤ partsR l := by
  induction l with
  | nil => simp
  | cons t r ih => rw [partsR_cons, List.length_cons]; have := trParts_pos t; omega

/-- A tree's numbers are int's, and its text is no longer than a text can be. -/
structure FitR (k : Int) (s : ByteArray) (n p : Int) : Prop where
  klo : -9223372036854775808 ≤ k
  khi : k ≤ 9223372036854775807
  nlo : -9223372036854775808 ≤ n
  nhi : n ≤ 9223372036854775807
  plo : -9223372036854775808 ≤ p
  phi : p ≤ 9223372036854775807
  len : s.size ≤ 9223372036854775807
mutual
/-- A tree lies at an address: five cells, and its arguments where the fifth says. -/
def TrAt (w : World) : Tr → Nat → Nat → Prop
  | .mk k s n p xs, b, o => FitR k s n p ∧ w.cell? ⟨b, o, none⟩ = some (.int .i64 k) ∧ w.cell? ⟨b, o + 1, none⟩ = some (.string s) ∧ w.cell? ⟨b, o + 2, none⟩ = some (.int .i64 n) ∧ w.cell? ⟨b, o + 3, none⟩ = some (.int .i64 p) ∧
    ∃ a c, w.cell? ⟨b, o + 4, none⟩ = some (.slice a xs.length c) ∧ (xs.length ≤ 9223372036854775807 ∧ xs.length ≤ c) ∧ (xs = [] ∨ ∃ b' o', a = some ⟨b', o', none⟩ ∧ b' < w.heap.size ∧ RowRAt w xs b' o')
def RowRAt (w : World) : List Tr → Nat → Nat → Prop
  | [], _, _ => True
  | t :: r, b, o => TrAt w t b o ∧ RowRAt w r b (o + 5)
end
/-- What a slice's address says of its elements. -/
def ArgR (w : World) (a : Option Addr) (c : Nat) (xs : List Tr) : Prop := (xs.length ≤ 9223372036854775807 ∧ xs.length ≤ c) ∧ (xs = [] ∨ ∃ b o, a = some ⟨b, o, none⟩ ∧ b < w.heap.size ∧ RowRAt w xs b o)
theorem rowRAt_get {w : World} : ∀ {xs : List Tr} {b o : Nat}, RowRAt w xs b o → ∀ {j : Nat} (h : j < xs.length), TrAt w xs[j] b (o + j * 5)
  | [], _, _, _, _, h => by simp at h
  | t :: r, b, o, hr, 0, _ => by rw [RowRAt] at hr; simpa using hr.1
  | t :: r, b, o, hr, j + 1, h => by
    rw [RowRAt] at hr
    have := rowRAt_get hr.2 (j := j) (by simpa using h)
    rw [show o + (j + 1) * 5 = o + 5 + j * 5 from by omega]
    exact this
theorem rowRAt_of {w : World} : ∀ {xs : List Tr} {b o : Nat}, (∀ {j : Nat} (h : j < xs.length), TrAt w xs[j] b (o + j * 5)) → RowRAt w xs b o
  | [], _, _, _ => by rw [RowRAt]; trivial
  | t :: r, b, o, h => by
    rw [RowRAt]
    refine ⟨(show TrAt w t b (o + 0 * 5) from h (j := 0) (by simp)), rowRAt_of fun {j} hj => ?_⟩
    have := h (j := j + 1) (by simpa using hj)
    rw [show o + (j + 1) * 5 = o + 5 + j * 5 from by omega] at this
    exact this
/-- A tree as a value: the tree, the address of its arguments, and their capacity. -/
structure Rv where
  t : Tr
  a : Option Addr
  c : Nat
def Rv.val (v : Rv) : Value := .agg #[.int .i64 v.t.kind, .string v.t.text, .int .i64 v.t.n, .int .i64 v.t.spot, .slice v.a v.t.args.length v.c]
def Rv.cells (v : Rv) : List Value := [.int .i64 v.t.kind, .string v.t.text, .int .i64 v.t.n, .int .i64 v.t.spot, .slice v.a v.t.args.length v.c]
def Rv.ok (w : World) (v : Rv) : Prop := FitR v.t.kind v.t.text v.t.n v.t.spot ∧ ArgR w v.a v.c v.t.args
/-- The five cells of a value. -/
structure RvAt (w : World) (b o : Nat) (v : Rv) : Prop where
  c0 : w.cell? ⟨b, o, none⟩ = some (.int .i64 v.t.kind)
  c1 : w.cell? ⟨b, o + 1, none⟩ = some (.string v.t.text)
  c2 : w.cell? ⟨b, o + 2, none⟩ = some (.int .i64 v.t.n)
  c3 : w.cell? ⟨b, o + 3, none⟩ = some (.int .i64 v.t.spot)
  c4 : w.cell? ⟨b, o + 4, none⟩ = some (.slice v.a v.t.args.length v.c)
theorem trAt_rv {w : World} {t : Tr} {b o : Nat} (h : TrAt w t b o) : ∃ v : Rv, v.t = t ∧ v.ok w ∧ RvAt w b o v := by
  cases t with
  | mk k s n p xs =>
    rw [TrAt] at h
    obtain ⟨hf, h0, h1, h2, h3, a, c, h4, hl, hr⟩ := h
    exact ⟨⟨.mk k s n p xs, a, c⟩, rfl, ⟨hf, hl, hr⟩, h0, h1, h2, h3, h4⟩
theorem rv_trAt {w : World} {v : Rv} {b o : Nat} (hk : v.ok w) (h : RvAt w b o v) : TrAt w v.t b o := by
  obtain ⟨t, a, c⟩ := v
  cases t with
  | mk k s n p xs =>
    rw [TrAt]
    exact ⟨hk.1, h.c0, h.c1, h.c2, h.c3, a, c, h.c4, hk.2.1, hk.2.2⟩
theorem lt_of_cellR {w : World} {b o : Nat} {x : Value} (h : w.cell? ⟨b, o, none⟩ = some x) : b < w.heap.size := by
  rcases Nat.lt_or_ge b w.heap.size with hlt | hge
  · exact hlt
  · unfold World.cell? at h
    simp [Array.getElem?_eq_none hge] at h
mutual
theorem TrAt.below {w w' : World} (hb : Below w.heap.size w w') : ∀ {t : Tr} {b o : Nat}, TrAt w t b o → TrAt w' t b o
  | .mk k s n p xs, b, o, h => by
    rw [TrAt] at h ⊢
    obtain ⟨hf, h0, h1, h2, h3, a, c, h4, hl, hr⟩ := h
    have hlt := lt_of_cellR h0
    refine ⟨hf, (hb.cell (p := ⟨b, o, none⟩) hlt).trans h0, (hb.cell (p := ⟨b, o + 1, none⟩) hlt).trans h1, (hb.cell (p := ⟨b, o + 2, none⟩) hlt).trans h2, (hb.cell (p := ⟨b, o + 3, none⟩) hlt).trans h3, a, c, (hb.cell (p := ⟨b, o + 4, none⟩) hlt).trans h4, hl, ?_⟩
    rcases hr with hr | ⟨b', o', ha, hb', hr⟩
    · exact .inl hr
    · exact .inr ⟨b', o', ha, Nat.lt_of_lt_of_le hb' hb.size, RowRAt.below hb hr⟩
theorem RowRAt.below {w w' : World} (hb : Below w.heap.size w w') : ∀ {xs : List Tr} {b o : Nat}, RowRAt w xs b o → RowRAt w' xs b o
  | [], _, _, _ => by rw [RowRAt]; trivial
  | t :: r, b, o, h => by
    rw [RowRAt] at h ⊢
    exact ⟨TrAt.below hb h.1, RowRAt.below hb h.2⟩
end
theorem ArgR.below {w w' : World} {a : Option Addr} {c : Nat} {xs : List Tr} (h : ArgR w a c xs) (hb : Below w.heap.size w w') : ArgR w' a c xs := by
  obtain ⟨hl, h⟩ := h
  refine ⟨hl, ?_⟩
  rcases h with h | ⟨b, o, ha, hlt, hr⟩
  · exact .inl h
  · exact .inr ⟨b, o, ha, Nat.lt_of_lt_of_le hlt hb.size, hr.below hb⟩
theorem Rv.ok.below {w w' : World} {v : Rv} (h : v.ok w) (hb : Below w.heap.size w w') : v.ok w' := ⟨h.1, ArgR.below h.2 hb⟩
/-- A slice value that reads as a row of trees. -/
def Trs (w : World) (v : Value) (ts : List Tr) : Prop := ∃ a c, v = .slice a ts.length c ∧ ArgR w a c ts
theorem Trs.below {w w' : World} {v : Value} {ts : List Tr} (h : Trs w v ts) (hb : Below w.heap.size w w') : Trs w' v ts := by
  obtain ⟨a, c, hv, h⟩ := h
  exact ⟨a, c, hv, h.below hb⟩
theorem Trs.none_ (w : World) (a : Option Addr) (c : Nat) : Trs w (.slice a 0 c) [] := ⟨a, c, rfl, by simp, .inl rfl⟩
/-- The elements of a row, one by one. -/
theorem Trs.open_ {w : World} {v : Value} {ts : List Tr} (h : Trs w v ts) : ∃ a c, v = .slice a ts.length c ∧ ts.length ≤ 9223372036854775807 ∧ ts.length ≤ c ∧ (ts = [] ∨ ∃ b o, a = some ⟨b, o, none⟩ ∧ b < w.heap.size ∧ ∀ (j : Nat) t, ts[j]? = some t → ∃ y : Rv, y.t = t ∧ y.ok w ∧ RvAt w b (o + j * 5) y) := by
  obtain ⟨a, c, rfl, ⟨hl, hc⟩, h⟩ := h
  refine ⟨a, c, rfl, hl, hc, ?_⟩
  rcases h with h | ⟨b, o, ha, hlt, hr⟩
  · exact .inl h
  · refine .inr ⟨b, o, ha, hlt, fun j t hj => ?_⟩
    obtain ⟨hjl, rfl⟩ := List.getElem?_eq_some_iff.1 hj
    exact trAt_rv (rowRAt_get hr hjl)
theorem RvAt.below {w w' : World} {b o : Nat} {v : Rv} (h : RvAt w b o v) (hb : Below w.heap.size w w') : RvAt w' b o v :=
  have hlt := lt_of_cellR h.c0
  ⟨(hb.cell (p := ⟨b, o, none⟩) hlt).trans h.c0, (hb.cell (p := ⟨b, o + 1, none⟩) hlt).trans h.c1, (hb.cell (p := ⟨b, o + 2, none⟩) hlt).trans h.c2, (hb.cell (p := ⟨b, o + 3, none⟩) hlt).trans h.c3, (hb.cell (p := ⟨b, o + 4, none⟩) hlt).trans h.c4⟩
def rowRv (vs : List Rv) : List Value := vs.flatMap Rv.cells
theorem rowRv_length (vs : List Rv) : (rowRv vs).length = vs.length * 5 := by
  unfold rowRv
  induction vs with
  | nil => rfl
  | cons v r ih => rw [List.flatMap_cons, List.length_append, ih, List.length_cons]; simp [Rv.cells]; omega
theorem rowRv_append (a b : List Rv) : rowRv (a ++ b) = rowRv a ++ rowRv b := by unfold rowRv; rw [List.flatMap_append]
theorem rowRv_one (v : Rv) : rowRv [v] = v.cells := by unfold rowRv; simp
theorem rowRv_get : ∀ (vs : List Rv) (j : Nat) (h : j < vs.length) (i : Nat), i < 5 → (rowRv vs)[j * 5 + i]? = vs[j].cells[i]?
  | [], _, h, _, _ => by simp at h
  | v :: r, 0, _, i, hi => by
    unfold rowRv
    rw [List.flatMap_cons, List.getElem?_append_left (by simp [Rv.cells]; omega)]; simp
  | v :: r, j + 1, h, i, hi => by
    have := rowRv_get r j (by simpa using h) i hi
    unfold rowRv at this ⊢
    rw [List.flatMap_cons, List.getElem?_append_right (by simp [Rv.cells]; omega)]
    rw [show (j + 1) * 5 + i - v.cells.length = j * 5 + i from by simp [Rv.cells]; omega, this]
    simp
theorem rowRv_one' (vs : List Rv) : ∀ u ∈ rowRv vs, u.oneCell' = true := by
  intro u hu
  unfold rowRv at hu
  obtain ⟨v, _, hv⟩ := List.mem_flatMap.1 hu
  simp only [Rv.cells, List.mem_cons, List.not_mem_nil, or_false] at hv
  rcases hv with rfl | rfl | rfl | rfl | rfl <;> rfl
theorem rv_one (v : Rv) : ∀ u ∈ v.cells, u.oneCell' = true := by rw [← rowRv_one]; exact rowRv_one' [v]
/-- A row of trees that the call itself has made: their arguments lie in the world w0. -/
def OwnRv (w0 w : World) (e : TypeId) (base : Nat) (v : Value) (ts : List Tr) : Prop :=
  ∃ vs : List Rv, vs.map Rv.t = ts ∧ (∀ x ∈ vs, x.ok w0) ∧ w.ownsRow base e 5 v ts.length (rowRv vs)
theorem OwnRv.trs {w0 w : World} {e : TypeId} {base : Nat} {v : Value} {ts : List Tr} (h : OwnRv w0 w e base v ts) (hb : ∀ x : Rv, x.ok w0 → x.ok w) (hl : ts.length ≤ 9223372036854775807) : Trs w v ts := by
  obtain ⟨vs, rfl, hok, hn, h⟩ := h
  rcases h with ⟨rfl, h0⟩ | ⟨g, cap, cur, rfl, _, hg, hcap, hmax, hsz, htake⟩
  · have : vs = [] := by simpa using h0
    subst this
    exact Trs.none_ _ _ _
  · refine ⟨_, cap, rfl, ⟨hl, hcap⟩, .inr ⟨g, 0, rfl, (Array.getElem?_eq_some_iff.1 hg).1, rowRAt_of fun {j} hj => ?_⟩⟩
    have hjv : j < vs.length := by simpa using hj
    rw [List.getElem_map]
    have cell : ∀ i, i < 5 → w.cell? ⟨g, 0 + j * 5 + i, none⟩ = vs[j].cells[i]? := by
      intro i hi
      rw [cell_of_row w g (0 + j * 5 + i) cur _ (0, 0) hg, ← rowRv_get vs j hjv i hi, ← htake, List.getElem?_take, if_pos (by simp; omega), Nat.zero_add]
      simp
    exact rv_trAt (hb _ (hok _ (List.getElem_mem hjv))) ⟨cell 0 (by omega), cell 1 (by omega), cell 2 (by omega), cell 3 (by omega), cell 4 (by omega)⟩
theorem ownRv_nil (w0 w : World) (e : TypeId) (base : Nat) : OwnRv w0 w e base (.slice none 0 0) [] := ⟨[], rfl, (fun x hx => by cases hx), World.ownsRow_nil _ _ _ _⟩
end Go.Proofs.YtldgbdmiebipnaaGreatDoor

namespace Go.Proofs.YtldgbdmiebipnaaGreatDoor
open Go.RowKit

def cls (b : Int) : Int :=
  if 97 ≤ b ∧ b ≤ 122 then 1 else if 65 ≤ b ∧ b ≤ 90 then 2 else if 48 ≤ b ∧ b ≤ 57 then 3
  else if b = 40 ∨ b = 41 ∨ b = 44 ∨ b = 47 ∨ b = 61 ∨ b = 46 ∨ b = 59 ∨ b = 58 ∨ b = 36 ∨ b = 37 then 4
  else if b = 32 ∨ b = 10 ∨ b = 13 ∨ b = 9 then 5 else 0
def part (b : Int) : Bool := decide (1 ≤ cls b ∧ cls b ≤ 3 ∨ b = 95)
theorem cls_bd (b : Int) : 0 ≤ cls b ∧ cls b ≤ 5 := by
  unfold cls; repeat' split
  all_goals omega
def among (l : List UInt8) (b : Int) : Bool := l.any fun x => decide ((x.toNat : Int) = b)
theorem take_snoc (s : ByteArray) (k : Nat) (h : k < s.size) : s.data.toList.take (k + 1) = s.data.toList.take k ++ [s[k]] := by
  rw [List.take_succ_eq_append_getElem (by simpa using h)]; rfl
theorem take_all (s : ByteArray) : s.data.toList.take s.size = s.data.toList := List.take_of_length_le (by simp)
theorem among_snoc (s : ByteArray) (b : Int) (k : Nat) (h : k < s.size) : among (s.data.toList.take (k + 1)) b = (among (s.data.toList.take k) b || decide ((s[k].toNat : Int) = b)) := by
  rw [take_snoc s k h]; unfold among; rw [List.any_append]; simp
theorem among_take (s : ByteArray) (b : Int) (k : Nat) (h : among (s.data.toList.take k) b = true) : among s.data.toList b = true := by
  unfold among at *; rw [List.any_eq_true] at *; obtain ⟨x, hx, hy⟩ := h; exact ⟨x, List.mem_of_mem_take hx, hy⟩
theorem among_signs (b : Int) : among [40, 41, 44, 47, 61, 46, 59, 58, 36, 37] b = decide (b = 40 ∨ b = 41 ∨ b = 44 ∨ b = 47 ∨ b = 61 ∨ b = 46 ∨ b = 59 ∨ b = 58 ∨ b = 36 ∨ b = 37) := by
  rw [Bool.eq_iff_iff]; simp only [among, List.any_cons, List.any_nil, Bool.or_eq_true, decide_eq_true_eq]
  simp only [show (40 : UInt8).toNat = 40 from rfl, show (41 : UInt8).toNat = 41 from rfl, show (44 : UInt8).toNat = 44 from rfl, show (47 : UInt8).toNat = 47 from rfl, show (61 : UInt8).toNat = 61 from rfl, show (46 : UInt8).toNat = 46 from rfl, show (59 : UInt8).toNat = 59 from rfl, show (58 : UInt8).toNat = 58 from rfl, show (36 : UInt8).toNat = 36 from rfl, show (37 : UInt8).toNat = 37 from rfl]
  constructor
  · intro h; simp only [Bool.false_eq_true, or_false] at h; omega
  · intro h; simp only [Bool.false_eq_true, or_false]; omega
end Go.Proofs.YtldgbdmiebipnaaGreatDoor

namespace Go.Proofs.YtldgbdmiebipnaaGreatDoor
open Go.RowKit

/-- A byte that may be part of a word. -/
def pc (c : UInt8) : Bool := part (c.toNat : Int)
/-- How many such bytes stand at place i of s, one behind the other. -/
def run (s : ByteArray) (i : Nat) : Nat := ((s.data.toList.drop i).takeWhile pc).length
theorem drop_cons (s : ByteArray) {i : Nat} (h : i < s.size) : s.data.toList.drop i = s[i] :: s.data.toList.drop (i + 1) :=
  List.drop_eq_getElem_cons (by simpa using h)
theorem run_some (s : ByteArray) {i : Nat} (h : i < s.size) (hp : part (s[i].toNat : Int) = true) : run s i = run s (i + 1) + 1 := by
  unfold run; rw [drop_cons s h, List.takeWhile_cons_of_pos (by exact hp)]; rfl
theorem run_none (s : ByteArray) {i : Nat} (h : i < s.size) (hp : part (s[i].toNat : Int) = false) : run s i = 0 := by
  unfold run; rw [drop_cons s h, List.takeWhile_cons_of_neg (by show ¬ (part (s[i].toNat : Int) = true); rw [hp]; simp)]; rfl
theorem run_end (s : ByteArray) : run s s.size = 0 := by
  unfold run; rw [List.drop_of_length_le (by simp)]; rfl
theorem run_le (s : ByteArray) {i : Nat} (h : i ≤ s.size) : i + run s i ≤ s.size := by
  unfold run
  have h1 := (List.takeWhile_sublist pc (l := s.data.toList.drop i)).length_le
  rw [List.length_drop] at h1
  have h2 : s.data.toList.length = s.size := by simp
  omega
end Go.Proofs.YtldgbdmiebipnaaGreatDoor

namespace Go.Proofs.YtldgbdmiebipnaaGreatDoor
open Go.RowKit

/-- A slice value that reads as a list of texts. -/
def Strs (w : World) (v : Value) (zs : List ByteArray) : Prop :=
  ∃ a c, v = .slice a zs.length c ∧ zs.length ≤ 9223372036854775806 ∧ (zs = [] ∨ ∃ b off, a = some ⟨b, off, none⟩ ∧ b < w.heap.size ∧ ∀ j, j < zs.length → w.cell? ⟨b, off + j, none⟩ = some (.string (zs.getD j ByteArray.empty)))

theorem Strs.below {w w' : World} {v : Value} {zs : List ByteArray} (h : Strs w v zs) (hb : Below w.heap.size w w') : Strs w' v zs := by
  obtain ⟨a, c, hv, hl, h⟩ := h
  refine ⟨a, c, hv, hl, ?_⟩
  rcases h with h | ⟨b, off, ha, hlt, hc⟩
  · exact .inl h
  · exact .inr ⟨b, off, ha, Nat.lt_of_lt_of_le hlt hb.size, fun j hj => by rw [hb.cell (p := ⟨b, off + j, none⟩) hlt]; exact hc j hj⟩

theorem strs_alloc (w : World) (zs : List ByteArray) (t : TypeId) (hn : zs.length ≤ 9223372036854775806) :
    Strs (w.alloc (.cells (zs.map Value.string).toArray t)) (.slice (some ⟨w.heap.size, 0, none⟩) zs.length zs.length) zs := by
  refine ⟨_, _, rfl, hn, .inr ⟨w.heap.size, 0, rfl, by simp, fun j hj => ?_⟩⟩
  have e := World.cell?_alloc_mark w (zs.map Value.string).toArray t (0, 0) (0 + j)
  rw [e]
  simp [hj]

/-- x isn't among the first k. -/
def NotYet (zs : List ByteArray) (x : ByteArray) (k : Nat) : Prop := ∀ j, j < k → zs.getD j ByteArray.empty ≠ x
theorem NotYet.succ {zs : List ByteArray} {x : ByteArray} {k : Nat} (h : NotYet zs x k) (hk : zs.getD k ByteArray.empty ≠ x) : NotYet zs x (k + 1) := by
  intro j hj
  by_cases e : j = k
  · rw [e]; exact hk
  · exact h j (by omega)
theorem NotYet.all {zs : List ByteArray} {x : ByteArray} (h : NotYet zs x zs.length) : Lib.containsS zs x = false := by
  rw [← Bool.not_eq_true, Lib.containsS_iff]
  intro hm
  obtain ⟨j, hj, e⟩ := List.getElem_of_mem hm
  exact h j hj (by simpa [List.getD, hj] using e)
theorem contains_here {zs : List ByteArray} {x : ByteArray} {k : Nat} (hk : k < zs.length) (h : zs[k] = x) : Lib.containsS zs x = true := by
  rw [Lib.containsS_iff, ← h]; exact List.getElem_mem _
theorem strInfo : (Tryz.prog.info? 9).map (fun i => (i.zero, i.size, i.bytes)) = some (some (.string ⟨#[]⟩), 1, 16) := by kernel_rfl
theorem own_cells {w : World} {base : Nat} {e : TypeId} {v : Value} {n : Nat} {xs : List ByteArray} (h : w.ownsRow base e 1 v n (xs.map Value.string)) : (v = .slice none 0 0 ∧ xs = []) ∨
    ∃ g cap, v = .slice (some ⟨g, 0, none⟩) xs.length cap ∧ g < w.heap.size ∧ xs.length ≤ cap ∧ ∀ (j : Nat) x, xs[j]? = some x → w.cell? ⟨g, 0 + j, none⟩ = some (.string x) := by
  obtain ⟨hn, h⟩ := h
  have hxn : xs.length = n := by simpa using hn
  subst hxn
  rcases h with ⟨rfl, h0⟩ | ⟨g, cap, cur, rfl, hb, hg, hcap, hmax, hsz, htake⟩
  · exact .inl ⟨rfl, List.eq_nil_of_length_eq_zero h0⟩
  · refine .inr ⟨g, cap, rfl, ?_, hcap, fun j x hj => ?_⟩
    · rcases Nat.lt_or_ge g w.heap.size with hlt | hge
      · exact hlt
      · rw [Array.getElem?_eq_none hge] at hg; cases hg
    · have hjl : j < xs.length := (List.getElem?_eq_some_iff.1 hj).1
      rw [cell_of_row w g (0 + j) cur e (0, 0) hg]
      have : (xs.map Value.string)[j]? = some (.string x) := by rw [List.getElem?_map, hj]; rfl
      rw [← htake, List.getElem?_take, if_pos (by omega)] at this
      rw [Nat.zero_add]
      simpa using this
/-- A row of texts that the call itself has made reads as a list of texts. -/
theorem strs_of_own {w : World} {base : Nat} {e : TypeId} {v : Value} {n : Nat} {zs : List ByteArray} (h : w.ownsRow base e 1 v n (zs.map Value.string)) (hl : zs.length ≤ 9223372036854775806) : Strs w v zs := by
  rcases own_cells h with ⟨rfl, rfl⟩ | ⟨g, cap, rfl, hg, _, hc⟩
  · exact ⟨none, 0, rfl, by simp, .inl rfl⟩
  · refine ⟨_, cap, rfl, hl, .inr ⟨g, 0, rfl, hg, fun j hj => ?_⟩⟩
    have := hc j zs[j] (by rw [List.getElem?_eq_getElem hj])
    rw [this]; simp [List.getD, hj]
end Go.Proofs.YtldgbdmiebipnaaGreatDoor

namespace Go.Proofs.YtldgbdmiebipnaaGreatDoor
open Go.RowKit

/-- The words that begin items. -/
def keyList : List ByteArray := [⟨#[102, 117, 110]⟩, ⟨#[110, 97, 109, 101]⟩, ⟨#[114, 117, 108, 101]⟩, ⟨#[102, 114, 97, 109, 101]⟩, ⟨#[100, 101, 100, 117, 99, 101]⟩, ⟨#[101, 113, 117, 105, 118]⟩, ⟨#[110, 111, 114, 109, 97, 108]⟩, ⟨#[117, 115, 101]⟩]
/-- All bytes of a row may be part of a word. -/
def allPart (l : List UInt8) : Bool := l.all fun c => part (c.toNat : Int)
theorem allPart_snoc (s : ByteArray) (k : Nat) (h : k < s.size) : allPart (s.data.toList.take (k + 1)) = (allPart (s.data.toList.take k) && part (s[k].toNat : Int)) := by
  rw [take_snoc s k h]; unfold allPart; rw [List.all_append]; simp
theorem allPart_bad (s : ByteArray) (k : Nat) (h : k < s.size) (hp : part (s[k].toNat : Int) = false) : allPart s.data.toList = false := by
  unfold allPart
  rw [← Bool.not_eq_true, List.all_eq_true]
  intro hall
  have := hall s[k] (by rw [show s[k] = s.data.toList[k]'(by simpa using h) from rfl]; exact List.getElem_mem _)
  rw [hp] at this; cases this
/-- Whether byte k of s may stand where it does, in a word that begins with a byte of class f. -/
def fitAt (s : ByteArray) (f : Int) (k : Nat) : Bool := if k = 0 then (cls ((s.data.toList.getD k 0).toNat : Int) == f) else part ((s.data.toList.getD k 0).toNat : Int)
theorem fitAt_zero {s : ByteArray} {f : Int} (h : 0 < s.size) : fitAt s f 0 = (cls (s[0].toNat : Int) == f) := by
  unfold fitAt; rw [if_pos rfl]
  have : s.data.toList.getD 0 0 = s[0] := by rw [List.getD, List.getElem?_eq_getElem (by simpa using h)]; rfl
  rw [this]
theorem fitAt_next {s : ByteArray} {f : Int} {k : Nat} (h : k < s.size) (hk : k ≠ 0) : fitAt s f k = part (s[k].toNat : Int) := by
  unfold fitAt; rw [if_neg hk]
  have : s.data.toList.getD k 0 = s[k] := by rw [List.getD, List.getElem?_eq_getElem (by simpa using h)]; rfl
  rw [this]
/-- The first k bytes of s may stand where they do. -/
def FitsTo (s : ByteArray) (f : Int) (k : Nat) : Prop := ∀ j, j < k → fitAt s f j = true
theorem FitsTo.succ {s : ByteArray} {f : Int} {k : Nat} (h : FitsTo s f k) (hk : fitAt s f k = true) : FitsTo s f (k + 1) := by
  intro j hj
  by_cases e : j = k
  · rw [e]; exact hk
  · exact h j (by omega)
/-- All bytes of s may stand where they do. -/
def fitsAll (s : ByteArray) (f : Int) : Bool := (List.range s.size).all fun j => fitAt s f j
theorem FitsTo.all {s : ByteArray} {f : Int} (h : FitsTo s f s.size) : fitsAll s f = true := by
  unfold fitsAll; rw [List.all_eq_true]; intro j hj; exact h j (List.mem_range.1 hj)
theorem fitsAll_bad {s : ByteArray} {f : Int} {k : Nat} (hk : k < s.size) (h : fitAt s f k = false) : fitsAll s f = false := by
  unfold fitsAll; rw [← Bool.not_eq_true, List.all_eq_true]; intro hall
  have := hall k (List.mem_range.2 hk)
  rw [h] at this; cases this
/-- A text is put together as a word that begins with a byte of class f. -/
def speltB (s : ByteArray) (f : Int) : Bool := decide (1 ≤ s.size ∧ s.size ≤ 20) && fitsAll s f
theorem toList_empty {s : ByteArray} (h : s.size = 0) : s.toList = [] := by
  rw [ByteArray.toList_eq]; exact List.eq_nil_of_length_eq_zero (by simpa using h)
theorem toList_some {s : ByteArray} (h : 1 ≤ s.size) : s.toList.isEmpty = false := by
  rw [ByteArray.toList_eq]
  cases hd : s.data.toList with
  | nil =>
    have : s.size = 0 := by
      have := congrArg List.length hd
      simpa using this
    omega
  | cons c r => rfl
/-- A word; a variable's word. -/
def wordB (s : ByteArray) : Bool := speltB s 1 && !Lib.containsS keyList s
def upperB (s : ByteArray) : Bool := speltB s 2 && !Lib.containsS keyList s
theorem allPart_iff (s : ByteArray) : allPart s.data.toList = true ↔ ∀ j (h : j < s.size), part (s[j].toNat : Int) = true := by
  unfold allPart
  rw [List.all_eq_true]
  constructor
  · intro h j hj
    exact h s[j] (by rw [show s[j] = s.data.toList[j]'(by simpa using hj) from rfl]; exact List.getElem_mem _)
  · intro h c hc
    obtain ⟨j, hj, rfl⟩ := List.getElem_of_mem hc
    exact h j (by simpa using hj)
theorem fitsAll_iff (s : ByteArray) (f : Int) : fitsAll s f = true ↔ ∀ j, j < s.size → fitAt s f j = true := by
  unfold fitsAll
  rw [List.all_eq_true]
  exact ⟨fun h j hj => h j (List.mem_range.2 hj), fun h j hj => h j (List.mem_range.1 hj)⟩
theorem part_of_cls {b f : Int} (hf : f = 1 ∨ f = 2) (h : cls b = f) : part b = true := by
  unfold part; rw [decide_eq_true_eq]; left; omega
theorem fits_eq {s : ByteArray} {f : Int} (hf : f = 1 ∨ f = 2) (h0 : 0 < s.size) : fitsAll s f = ((cls (s[0].toNat : Int) == f) && allPart s.data.toList) := by
  rw [Bool.eq_iff_iff, Bool.and_eq_true, fitsAll_iff, allPart_iff, beq_iff_eq]
  constructor
  · intro h
    have h1 := h 0 h0
    rw [fitAt_zero h0, beq_iff_eq] at h1
    refine ⟨h1, fun j hj => ?_⟩
    by_cases e : j = 0
    · subst e; exact part_of_cls hf h1
    · have := h j hj
      rwa [fitAt_next hj e] at this
  · rintro ⟨h1, h2⟩ j hj
    by_cases e : j = 0
    · subst e; rw [fitAt_zero h0, beq_iff_eq]; exact h1
    · rw [fitAt_next hj e]; exact h2 j hj
theorem keys_low : ∀ s ∈ keyList, ∃ h : 0 < s.size, cls (s[0].toNat : Int) = 1 := by
  intro s hs
  simp only [keyList, List.mem_cons, List.not_mem_nil, or_false] at hs
  rcases hs with rfl | rfl | rfl | rfl | rfl | rfl | rfl | rfl
  all_goals exact ⟨by decide, by decide⟩
theorem upper_spelt (s : ByteArray) : upperB s = speltB s 2 := by
  unfold upperB
  cases hk : Lib.containsS keyList s with
  | false => simp
  | true =>
    obtain ⟨h0, h1⟩ := keys_low s ((Lib.containsS_iff _ _).1 hk)
    have : fitsAll s 2 = false := by rw [fits_eq (.inr rfl) h0, h1]; rfl
    unfold speltB; rw [this]; simp
end Go.Proofs.YtldgbdmiebipnaaGreatDoor

namespace Go.Proofs.YtldgbdmiebipnaaGreatDoor

/-- The number that a row of digits is. -/
def decVal (l : List UInt8) : Nat := l.foldl (fun a c => 10 * a + (c.toNat - 48)) 0
theorem decVal_snoc (l : List UInt8) (c : UInt8) : decVal (l ++ [c]) = 10 * decVal l + (c.toNat - 48) := by simp [decVal]
theorem digit_val {d : Nat} (h : d < 10) : (UInt8.ofNat (48 + d)).toNat = 48 + d := by
  simp; omega
theorem decDigits_big {u : Nat} (h : ¬ u < 10) : Lib.decDigits u = Lib.decDigits (u / 10) ++ [UInt8.ofNat (48 + u % 10)] := by
  rw [Lib.decDigits, dif_neg h]
theorem decVal_digits (u : Nat) : decVal (Lib.decDigits u) = u := by
  induction u using Nat.strongRecOn with
  | ind u ih =>
    by_cases h : u < 10
    · rw [Lib.decDigits_one h]
      have := decVal_snoc [] (UInt8.ofNat (48 + u))
      rw [List.nil_append] at this
      rw [this, digit_val h]; simp [decVal]
    · rw [decDigits_big h, decVal_snoc, ih (u / 10) (by omega), digit_val (by omega)]; omega
theorem decDigits_inj {a b : Nat} (h : Lib.decDigits a = Lib.decDigits b) : a = b := by
  rw [← decVal_digits a, ← decVal_digits b, h]
theorem decDigits_range (u : Nat) : ∀ c ∈ Lib.decDigits u, 48 ≤ c.toNat ∧ c.toNat ≤ 57 := by
  induction u using Nat.strongRecOn with
  | ind u ih =>
    by_cases h : u < 10
    · rw [Lib.decDigits_one h]; intro c hc; rw [List.mem_singleton] at hc; subst hc; rw [digit_val h]; omega
    · rw [decDigits_big h]; intro c hc
      rcases List.mem_append.1 hc with h1 | h1
      · exact ih (u / 10) (by omega) c h1
      · rw [List.mem_singleton] at h1; subst h1; rw [digit_val (by omega)]; omega
theorem decDigits_ne_nil (u : Nat) : Lib.decDigits u ≠ [] := by
  intro h
  have := Lib.decDigits_length u
  rw [h] at this
  have h2 := Lib.nDigits_pos u
  simp at this; omega
theorem nDigits_le3 {n : Nat} (h : n ≤ 999) : Lib.nDigits n ≤ 3 := by
  by_cases h1 : n < 10
  · rw [Lib.nDigits_small h1]; omega
  · rw [Lib.nDigits_big h1]
    by_cases h2 : n / 10 < 10
    · rw [Lib.nDigits_small h2]; omega
    · rw [Lib.nDigits_big h2, Lib.nDigits_small (by omega)]; omega
theorem itoa_of_neg {n : Int} (h : n < 0) : ∃ u, Lib.itoa n = 45 :: Lib.decDigits u := ⟨_, by unfold Lib.itoa; rw [if_pos h]⟩
theorem itoa_inj {a b : Int} (h : Lib.itoa a = Lib.itoa b) : a = b := by
  unfold Lib.itoa at h
  have nodash : ∀ u v : Nat, 45 :: Lib.decDigits u ≠ Lib.decDigits v := by
    intro u v e
    have := decDigits_range v 45 (by rw [← e]; exact List.mem_cons_self ..)
    exact absurd this.1 (by decide)
  by_cases h1 : a < 0 <;> by_cases h2 : b < 0
  · rw [if_pos h1, if_pos h2] at h
    have := decDigits_inj (List.cons.inj h).2
    omega
  · rw [if_pos h1, if_neg h2] at h; exact absurd h (nodash _ _)
  · rw [if_neg h1, if_pos h2] at h; exact absurd h.symm (nodash _ _)
  · rw [if_neg h1, if_neg h2] at h
    have := decDigits_inj h
    omega

theorem decFrom_snoc (l : List UInt8) : ∀ (acc n : Nat) (b : UInt8) (d : Nat), Lib.decFrom acc l = some n → Lib.digitVal b = some d → Lib.decFrom acc (l ++ [b]) = some (10 * n + d) := by
  intro acc n b d h1 h2
  have := Lib.decFrom_take (l ++ [b]) l.length acc n b d (by simpa using h1) (by simp) h2
  rw [show (l ++ [b]).take (l.length + 1) = l ++ [b] from List.take_of_length_le (by simp)] at this
  rw [this]; congr 1; omega
theorem digitVal_ofNat {d : Nat} (h : d < 10) : Lib.digitVal (UInt8.ofNat (48 + d)) = some d := by
  unfold Lib.digitVal; rw [digit_val h, if_pos (by omega)]; congr 1; omega
theorem decFrom_digits (u : Nat) : Lib.decFrom 0 (Lib.decDigits u) = some u := by
  induction u using Nat.strongRecOn with
  | ind u ih =>
    by_cases h : u < 10
    · rw [Lib.decDigits_one h]
      have := decFrom_snoc [] 0 0 _ _ rfl (digitVal_ofNat h)
      simpa using this
    · rw [decDigits_big h, decFrom_snoc _ _ _ _ _ (ih (u / 10) (by omega)) (digitVal_ofNat (by omega : u % 10 < 10))]
      congr 1; omega
/-- A number's own digits are read as it. -/
theorem atoi_digits {u : Nat} (h : u ≤ 999) : Lib.atoiAll (Lib.decDigits u) = .ok (u : Int) := by
  have h1 := Lib.atoiAll_short (Lib.decDigits u) (by rw [Lib.decDigits_length]; have := nDigits_le3 h; omega)
  rw [h1]
  have h2 := decFrom_digits u
  have hr := decDigits_range u
  cases hd : Lib.decDigits u with
  | nil => exact absurd hd (decDigits_ne_nil u)
  | cons c r =>
    rw [hd] at h2 hr
    have hc := hr c (List.mem_cons_self ..)
    have e1 : (c == 45) = false := by
      rw [beq_eq_false_iff_ne]; rintro rfl; exact absurd hc.1 (by decide)
    have e2 : (c == 43) = false := by
      rw [beq_eq_false_iff_ne]; rintro rfl; exact absurd hc.1 (by decide)
    simp only [Lib.atoi, e1, e2, Bool.false_eq_true, if_false]
    unfold Lib.decNat
    rw [List.isEmpty_cons, if_neg (by simp), h2]
    rfl

/-- The number from 0 to 999 whose digits a text is. -/
def numOf (l : List UInt8) : Option Nat := (List.range 1000).find? fun n => Lib.decDigits n == l
theorem numOf_some {l : List UInt8} {n : Nat} (h : numOf l = some n) : n ≤ 999 ∧ Lib.decDigits n = l := by
  unfold numOf at h
  have h1 := List.find?_some h
  have h2 := List.mem_of_find?_eq_some h
  rw [List.mem_range] at h2
  exact ⟨by omega, by simpa using h1⟩
theorem numOf_none {l : List UInt8} (h : numOf l = none) (n : Nat) (hn : n ≤ 999) : Lib.decDigits n ≠ l := by
  unfold numOf at h
  rw [List.find?_eq_none] at h
  have := h n (by rw [List.mem_range]; omega)
  simpa using this
theorem numOf_digits {n : Nat} (h : n ≤ 999) : numOf (Lib.decDigits n) = some n := by
  cases hn : numOf (Lib.decDigits n) with
  | none => exact absurd rfl (numOf_none hn n h)
  | some m => rw [decDigits_inj (numOf_some hn).2]
theorem numOf_itoa {n : Int} (h : ¬ (0 ≤ n ∧ n ≤ 999)) : numOf (Lib.itoa n) = none := by
  cases hn : numOf (Lib.itoa n) with
  | none => rfl
  | some m =>
    obtain ⟨h1, h2⟩ := numOf_some hn
    rw [← Lib.itoa_nonneg m] at h2
    have := itoa_inj h2
    omega
/-- What Number tells beside the bool: the number, or 0. -/
def numVal (l : List UInt8) : Int := ((numOf l).getD 0 : Nat)
def isNum (l : List UInt8) : Bool := (numOf l).isSome

end Go.Proofs.YtldgbdmiebipnaaGreatDoor

namespace Go.Proofs.YtldgbdmiebipnaaGreatDoor
open Go.RowKit

theorem num_bad {l : List UInt8} {v : Int} (h : Lib.atoiAll l = .ok v) (hv : ¬ (0 ≤ v ∧ v ≤ 999)) : numOf l = none := by
  cases hn : numOf l with
  | none => rfl
  | some m =>
    obtain ⟨h1, h2⟩ := numOf_some hn
    subst h2
    have e := Lib.NumEnd.ok.inj ((atoi_digits h1).symm.trans h)
    omega
theorem num_err {l : List UInt8} (h : ∀ v, Lib.atoiAll l ≠ .ok v) : numOf l = none := by
  cases hn : numOf l with
  | none => rfl
  | some m =>
    obtain ⟨h1, h2⟩ := numOf_some hn
    exact absurd (h2 ▸ atoi_digits h1) (h _)
theorem num_other {l : List UInt8} {v : Int} (h : Lib.atoiAll l = .ok v) (hv : Lib.itoa v ≠ l) : numOf l = none := by
  cases hn : numOf l with
  | none => rfl
  | some m =>
    obtain ⟨h1, h2⟩ := numOf_some hn
    subst h2
    have e := Lib.NumEnd.ok.inj ((atoi_digits h1).symm.trans h)
    subst e
    exact absurd (Lib.itoa_nonneg m) hv
theorem num_good {l : List UInt8} {v : Int} (h0 : 0 ≤ v) (h1 : v ≤ 999) (hv : Lib.itoa v = l) : numOf l = some v.toNat := by
  obtain ⟨m, rfl⟩ := Int.eq_ofNat_of_zero_le h0
  rw [Lib.itoa_nonneg] at hv
  rw [← hv]
  exact numOf_digits (by omega)
theorem numVal_none {l : List UInt8} (h : numOf l = none) : numVal l = 0 := by unfold numVal; rw [h]; rfl
theorem isNum_none {l : List UInt8} (h : numOf l = none) : isNum l = false := by unfold isNum; rw [h]; rfl
theorem numVal_some {l : List UInt8} {n : Nat} (h : numOf l = some n) : numVal l = n := by unfold numVal; rw [h]; rfl
theorem isNum_some {l : List UInt8} {n : Nat} (h : numOf l = some n) : isNum l = true := by unfold isNum; rw [h]; rfl
/-- What Number answers of a text. -/
def numEnd (s : ByteArray) : Ending := .returned (.tuple #[.int .i64 (numVal s.data.toList), .bool (isNum s.data.toList)])
theorem numEnd_none {s : ByteArray} (h : numOf s.data.toList = none) : Ending.returned (.tuple #[.int .i64 0, .bool false]) = numEnd s := by
  unfold numEnd; rw [numVal_none h, isNum_none h]
theorem numEnd_some {s : ByteArray} {n : Nat} (h : numOf s.data.toList = some n) : Ending.returned (.tuple #[.int .i64 n, .bool true]) = numEnd s := by
  unfold numEnd; rw [numVal_some h, isNum_some h]
/-- None of the first k numbers has these digits. -/
def NoneYet (l : List UInt8) (k : Nat) : Prop := ∀ j, j < k → Lib.decDigits j ≠ l
theorem NoneYet.succ {l : List UInt8} {k : Nat} (h : NoneYet l k) (hk : Lib.decDigits k ≠ l) : NoneYet l (k + 1) := by
  intro j hj
  by_cases e : j = k
  · rw [e]; exact hk
  · exact h j (by omega)
theorem NoneYet.none {l : List UInt8} (h : NoneYet l 1000) : numOf l = none := by
  cases hn : numOf l with
  | none => rfl
  | some m => exact absurd (numOf_some hn).2 (h m (by have := (numOf_some hn).1; omega))
theorem num_here {l : List UInt8} {k : Nat} (hk : k ≤ 999) (h : Lib.decDigits k = l) : numOf l = some k := by rw [← h]; exact numOf_digits hk
end Go.Proofs.YtldgbdmiebipnaaGreatDoor

namespace Go.Proofs.YtldgbdmiebipnaaGreatDoor
open Go.RowKit

/-- What a token is, but for its text and its place: its kind, its number, and how long it is. -/
structure Cut where
  kind : Int
  n : Int
  len : Nat
def numCut (kind : Int) (t : List UInt8) (least : Int) (len : Nat) : Option Cut := if isNum t = true ∧ ¬ numVal t < least then some ⟨kind, numVal t, len⟩ else none
def bs (l : List UInt8) : ByteArray := ⟨l.toArray⟩
/-- The first byte of a list, as a number. -/
def head (l : List UInt8) : Int := ((l.headD 0).toNat : Int)
/-- The token that a text begins with, if one does. -/
def tokL (l : List UInt8) : Option Cut :=
  if head l = 36 then numCut 4 (l.tail.takeWhile pc) 1 (1 + (l.tail.takeWhile pc).length)
  else if head l = 37 then numCut 5 (l.tail.takeWhile pc) 0 (1 + (l.tail.takeWhile pc).length)
  else if cls (head l) = 4 then some ⟨6, 0, 1⟩
  else if cls (head l) = 3 then numCut 3 (l.takeWhile pc) 0 (l.takeWhile pc).length
  else if cls (head l) = 1 ∨ cls (head l) = 2 then
    if upperB (bs (l.takeWhile pc)) = true then some ⟨2, 0, (l.takeWhile pc).length⟩
    else if wordB (bs (l.takeWhile pc)) = true ∨ Lib.containsS keyList (bs (l.takeWhile pc)) = true then some ⟨1, 0, (l.takeWhile pc).length⟩ else none
  else none
/-- A token as a value. -/
def tokV (text : ByteArray) : Option Cut → Value
  | none => .agg #[.int .i64 0, .string ⟨#[]⟩, .int .i64 0, .int .i64 0]
  | some c => .agg #[.int .i64 c.kind, .string text, .int .i64 c.n, .int .i64 0]
theorem numVal_bd (l : List UInt8) : 0 ≤ numVal l ∧ numVal l ≤ 999 := by
  cases h : numOf l with
  | none => rw [numVal_none h]; omega
  | some n => rw [numVal_some h]; have := (numOf_some h).1; omega
/-- The token of a text that begins with a letter. -/
def wordCut (t : ByteArray) (len : Nat) : Option Cut :=
  if upperB t = true then some ⟨2, 0, len⟩ else if wordB t = true ∨ Lib.containsS keyList t = true then some ⟨1, 0, len⟩ else none
theorem wordB_cls {t : ByteArray} (h : wordB t = true) : ∃ h0 : 0 < t.size, cls (t[0].toNat : Int) = 1 := by
  unfold wordB speltB at h
  simp only [Bool.and_eq_true, decide_eq_true_eq] at h
  have h0 : 0 < t.size := by omega
  have := (fitsAll_iff t 1).1 h.1.2 0 h0
  rw [fitAt_zero h0, beq_iff_eq] at this
  exact ⟨h0, this⟩
theorem upperB_cls {t : ByteArray} (h : upperB t = true) : ∃ h0 : 0 < t.size, cls (t[0].toNat : Int) = 2 := by
  unfold upperB speltB at h
  simp only [Bool.and_eq_true, decide_eq_true_eq] at h
  have h0 : 0 < t.size := by omega
  have := (fitsAll_iff t 2).1 h.1.2 0 h0
  rw [fitAt_zero h0, beq_iff_eq] at this
  exact ⟨h0, this⟩
theorem word_not_upper {t : ByteArray} (h : wordB t = true) : upperB t = false := by
  rw [← Bool.not_eq_true]; intro hu
  obtain ⟨h0, h1⟩ := wordB_cls h
  obtain ⟨_, h2⟩ := upperB_cls hu
  omega
theorem key_not_upper {t : ByteArray} (h : Lib.containsS keyList t = true) : upperB t = false := by
  unfold upperB; rw [h]; simp
end Go.Proofs.YtldgbdmiebipnaaGreatDoor

namespace Go.Proofs.YtldgbdmiebipnaaGreatDoor
open Go.RowKit

theorem tw_take (p : UInt8 → Bool) (l : List UInt8) : l.take (l.takeWhile p).length = l.takeWhile p := by
  induction l with
  | nil => rfl
  | cons c r ih =>
    cases hc : p c with
    | true => rw [List.takeWhile_cons_of_pos hc, List.length_cons, List.take_succ_cons, ih]
    | false => rw [List.takeWhile_cons_of_neg (by rw [hc]; simp)]; rfl
theorem tw_len (p : UInt8 → Bool) (l : List UInt8) : (l.takeWhile p).length ≤ l.length := (List.takeWhile_sublist p (l := l)).length_le
theorem tokL_36 {l : List UInt8} (h : head l = 36) : tokL l = numCut 4 (l.tail.takeWhile pc) 1 (1 + (l.tail.takeWhile pc).length) := by
  unfold tokL; rw [if_pos h]
theorem tokL_37 {l : List UInt8} (h : head l = 37) : tokL l = numCut 5 (l.tail.takeWhile pc) 0 (1 + (l.tail.takeWhile pc).length) := by
  unfold tokL; rw [if_neg (by show ¬ head l = 36; omega), if_pos h]
theorem tokL_sign {l : List UInt8} (h1 : ¬ head l = 36) (h2 : ¬ head l = 37) (h : cls (head l) = 4) : tokL l = some ⟨6, 0, 1⟩ := by
  unfold tokL; rw [if_neg h1, if_neg h2, if_pos h]
theorem cls_36 {b : Int} (h : cls b ≠ 4) : ¬ b = 36 := by rintro rfl; exact h (by decide)
theorem cls_37 {b : Int} (h : cls b ≠ 4) : ¬ b = 37 := by rintro rfl; exact h (by decide)
theorem tokL_digit {l : List UInt8} (h : cls (head l) = 3) : tokL l = numCut 3 (l.takeWhile pc) 0 (l.takeWhile pc).length := by
  unfold tokL; rw [if_neg (cls_36 (b := head l) (by omega)), if_neg (cls_37 (b := head l) (by omega)), if_neg (by show ¬ cls (head l) = 4; omega), if_pos h]
theorem tokL_word {l : List UInt8} (h : cls (head l) = 1 ∨ cls (head l) = 2) : tokL l = wordCut (bs (l.takeWhile pc)) (l.takeWhile pc).length := by
  unfold tokL; rw [if_neg (cls_36 (b := head l) (by omega)), if_neg (cls_37 (b := head l) (by omega)), if_neg (by show ¬ cls (head l) = 4; omega), if_neg (by show ¬ cls (head l) = 3; omega), if_pos h]; rfl
theorem tokL_none {l : List UInt8} (h : cls (head l) = 0 ∨ cls (head l) = 5) : tokL l = none := by
  unfold tokL; rw [if_neg (cls_36 (b := head l) (by omega)), if_neg (cls_37 (b := head l) (by omega)), if_neg (by show ¬ cls (head l) = 4; omega), if_neg (by show ¬ cls (head l) = 3; omega), if_neg (by show ¬ (cls (head l) = 1 ∨ cls (head l) = 2); omega)]
theorem numCut_len {k : Int} {t : List UInt8} {least : Int} {len : Nat} {c : Cut} (h : numCut k t least len = some c) : c.len = len := by
  unfold numCut at h; split at h
  · cases h; rfl
  · cases h
theorem wordCut_len {t : ByteArray} {len : Nat} {c : Cut} (h : wordCut t len = some c) : c.len = len := by
  unfold wordCut at h; split at h
  · cases h; rfl
  · split at h
    · cases h; rfl
    · cases h
/-- The token that s begins with, as a value; zero, if there is none. -/
def tokenV (s : ByteArray) : Value := match tokL s.data.toList with
  | none => tokV ⟨#[]⟩ none
  | some c => tokV (s.extract 0 c.len) (some c)
theorem tokenV_none {s : ByteArray} (h : tokL s.data.toList = none) : tokenV s = tokV ⟨#[]⟩ none := by unfold tokenV; rw [h]
theorem tokenV_some {s : ByteArray} {c : Cut} (h : tokL s.data.toList = some c) : tokenV s = tokV (s.extract 0 c.len) (some c) := by unfold tokenV; rw [h]
theorem tokenV_num {s : ByteArray} {k : Int} {t : List UInt8} {least : Int} {len : Nat} (h : tokL s.data.toList = numCut k t least len) : tokV (s.extract 0 len) (numCut k t least len) = tokenV s := by
  cases hc : numCut k t least len with
  | none => rw [hc] at h; rw [tokenV_none h]; rfl
  | some c => rw [hc] at h; rw [tokenV_some h, numCut_len hc]
theorem tokenV_word {s t : ByteArray} {len : Nat} (h : tokL s.data.toList = wordCut t len) (ht : s.extract 0 len = t) : tokV t (wordCut t len) = tokenV s := by
  cases hc : wordCut t len with
  | none => rw [hc] at h; rw [tokenV_none h]; rfl
  | some c => rw [hc] at h; rw [tokenV_some h, wordCut_len hc, ht]
theorem tokV_shape (t : ByteArray) (c : Option Cut) : ∃ k x n, tokV t c = .agg #[.int .i64 k, .string x, .int .i64 n, .int .i64 0] := by
  cases c with
  | none => exact ⟨_, _, _, rfl⟩
  | some c => exact ⟨_, _, _, rfl⟩
theorem tokenV_shape (s : ByteArray) : ∃ k x n, tokenV s = .agg #[.int .i64 k, .string x, .int .i64 n, .int .i64 0] := by
  unfold tokenV; split
  · exact tokV_shape _ _
  · exact tokV_shape _ _
theorem head_first {s : ByteArray} (h : 0 < s.size) : head s.data.toList = (s[0].toNat : Int) := by
  unfold head
  have := drop_cons s h
  rw [List.drop_zero] at this
  rw [this]; rfl
theorem run_zero (s : ByteArray) : run s 0 = (s.data.toList.takeWhile pc).length := by unfold run; rw [List.drop_zero]
theorem run_one (s : ByteArray) : run s 1 = (s.data.toList.tail.takeWhile pc).length := by unfold run; rw [List.drop_one]
theorem ext_list (s : ByteArray) (a b : Nat) : (s.extract a b).data.toList = (s.data.toList.take b).drop a := by
  simp [ByteArray.data_extract, List.drop_take]
theorem bs_list (s : ByteArray) : bs s.data.toList = s := by unfold bs; cases s; simp
theorem ext_whole (x : ByteArray) : x.extract 0 x.size = x := by
  rw [← bs_list (x.extract 0 x.size), ext_list, List.drop_zero, List.take_of_length_le (by simp), bs_list]
theorem word_text (s : ByteArray) : s.extract 0 (run s 0) = bs (s.data.toList.takeWhile pc) := by
  rw [← bs_list (s.extract 0 (run s 0)), ext_list, List.drop_zero, run_zero, tw_take]
theorem sign_text {s : ByteArray} {m : Nat} (hm : m = 1 + run s 1) (h0 : 0 < s.size) : ((s.extract 0 m).extract 1 (s.extract 0 m).size).data.toList = s.data.toList.tail.takeWhile pc := by
  have hle := run_le s (i := 1) (by omega)
  have hsz : (s.extract 0 m).size = m := by simp; omega
  rw [ext_list, hsz, ext_list, List.drop_zero]
  rw [List.take_take, Nat.min_self, ← List.drop_one, List.drop_take]
  rw [show m - 1 = run s 1 from by omega]
  unfold run
  exact tw_take pc _
end Go.Proofs.YtldgbdmiebipnaaGreatDoor

namespace Go.Proofs.YtldgbdmiebipnaaGreatDoor
open Go.RowKit

/-- What At says of place i, in the terms of the token that begins there. -/
def AtSays (s : ByteArray) (i : Nat) (k : Int) (x : ByteArray) (n a : Int) (b : Bool) : Prop := match tokL (s.data.toList.drop i) with
  | none => b = false
  | some c => b = true ∧ k = c.kind ∧ x = s.extract i (i + c.len) ∧ n = c.n ∧ a = i
def TokAtPost (s : ByteArray) (i : Nat) (w : World) (e : Ending) (w' : World) : Prop :=
  ∃ k x n a b, e = .returned (.tuple #[.agg #[.int .i64 k, .string x, .int .i64 n, .int .i64 a], .bool b]) ∧ AtSays s i k x n a b ∧ Below w.heap.size w w'
theorem head_at {s : ByteArray} {i : Nat} (h : i < s.size) : head (s.data.toList.drop i) = (s[i].toNat : Int) := by
  unfold head; rw [drop_cons s h]; rfl
theorem run_at (s : ByteArray) (i : Nat) : run s i = ((s.data.toList.drop i).takeWhile pc).length := rfl
theorem run_next (s : ByteArray) (i : Nat) : run s (i + 1) = ((s.data.toList.drop i).tail.takeWhile pc).length := by unfold run; rw [List.tail_drop]
theorem text_at (s : ByteArray) (i : Nat) : (s.extract i (i + run s i)).data.toList = (s.data.toList.drop i).takeWhile pc := by
  rw [ext_list, List.drop_take, show i + run s i - i = run s i from by omega]; exact tw_take pc _
theorem text_next (s : ByteArray) (i : Nat) : (s.extract (i + 1) (i + 1 + run s (i + 1))).data.toList = (s.data.toList.drop i).tail.takeWhile pc := by
  rw [text_at, List.tail_drop]
end Go.Proofs.YtldgbdmiebipnaaGreatDoor

namespace Go.Proofs.YtldgbdmiebipnaaGreatDoor
open Go.RowKit

/-- A token: its kind, its text, its number, and where it begins. -/
structure Tok where
  kind : Int
  text : ByteArray
  n : Int
  place : Int
/-- The four cells of a token. -/
def Tok.cells (t : Tok) : List Value := [.int .i64 t.kind, .string t.text, .int .i64 t.n, .int .i64 t.place]
/-- A token lies at an address. -/
structure TokAt (w : World) (b o : Nat) (t : Tok) : Prop where
  c0 : w.cell? ⟨b, o, none⟩ = some (.int .i64 t.kind)
  c1 : w.cell? ⟨b, o + 1, none⟩ = some (.string t.text)
  c2 : w.cell? ⟨b, o + 2, none⟩ = some (.int .i64 t.n)
  c3 : w.cell? ⟨b, o + 3, none⟩ = some (.int .i64 t.place)
theorem TokAt.below {w w' : World} {b o : Nat} {t : Tok} (h : TokAt w b o t) {B : Nat} (hb : Below B w w') (hlt : b < B) : TokAt w' b o t where
  c0 := (hb.cell (p := ⟨b, o, none⟩) hlt).trans h.c0
  c1 := (hb.cell (p := ⟨b, o + 1, none⟩) hlt).trans h.c1
  c2 := (hb.cell (p := ⟨b, o + 2, none⟩) hlt).trans h.c2
  c3 := (hb.cell (p := ⟨b, o + 3, none⟩) hlt).trans h.c3
/-- A slice value that reads as a row of tokens. -/
def Toks (w : World) (v : Value) (ts : List Tok) : Prop :=
  ∃ a c, v = .slice a ts.length c ∧ ts.length ≤ 9223372036854775807 ∧ (ts = [] ∨ ∃ b off, a = some ⟨b, off, none⟩ ∧ b < w.heap.size ∧ ∀ j (h : j < ts.length), TokAt w b (off + j * 4) ts[j])
theorem Toks.below {w w' : World} {v : Value} {ts : List Tok} (h : Toks w v ts) (hb : Below w.heap.size w w') : Toks w' v ts := by
  obtain ⟨a, c, hv, hl, h⟩ := h
  refine ⟨a, c, hv, hl, ?_⟩
  rcases h with h | ⟨b, off, ha, hlt, hc⟩
  · exact .inl h
  · exact .inr ⟨b, off, ha, Nat.lt_of_lt_of_le hlt hb.size, fun j hj => (hc j hj).below hb hlt⟩
theorem Toks.none_ (w : World) (a : Option Addr) (c : Nat) : Toks w (.slice a 0 c) [] := ⟨a, c, rfl, by simp, .inl rfl⟩
def short (t : Tok) : Bool := decide (t.text.size ≤ 300)
def fewB (ts : List Tok) : Bool := decide (ts.length ≤ 200) && ts.all short
def ShortTo (ts : List Tok) (k : Nat) : Prop := ∀ j (h : j < ts.length), j < k → short ts[j] = true
theorem ShortTo.succ {ts : List Tok} {k : Nat} (h : ShortTo ts k) (hk : k < ts.length) (hs : short ts[k] = true) : ShortTo ts (k + 1) := by
  intro j hj hjk
  by_cases e : j = k
  · subst e; exact hs
  · exact h j hj (by omega)
theorem ShortTo.all {ts : List Tok} (h : ShortTo ts ts.length) (hl : ts.length ≤ 200) : fewB ts = true := by
  unfold fewB; rw [decide_eq_true hl, Bool.true_and, List.all_eq_true]
  intro t ht
  obtain ⟨j, hj, rfl⟩ := List.getElem_of_mem ht
  exact h j hj hj
theorem few_bad {ts : List Tok} {k : Nat} (hk : k < ts.length) (h : ¬ ts[k].text.size ≤ 300) : fewB ts = false := by
  unfold fewB; rw [Bool.and_eq_false_iff]; right
  rw [← Bool.not_eq_true, List.all_eq_true]; intro hall
  have := hall _ (List.getElem_mem hk)
  unfold short at this
  rw [decide_eq_true_eq] at this; exact h this
theorem few_long {ts : List Tok} (h : ¬ ts.length ≤ 200) : fewB ts = false := by
  unfold fewB; rw [decide_eq_false h, Bool.false_and]
end Go.Proofs.YtldgbdmiebipnaaGreatDoor
