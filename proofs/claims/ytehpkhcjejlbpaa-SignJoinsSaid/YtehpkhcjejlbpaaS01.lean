/-
  Small facts that every layer's texts use: answers, boxes of two and of four cells, rows that the call itself makes, and memory behind memory. Nothing of the program's functions.
  Rows of function symbols in memory: each a name and an arity. No function of the program.
  Classes of bytes, as data. No function of the program.
  Slices that read as lists of texts. Nothing of the program's functions.
  Words, as data. No function of the program.
  Functions added to functions, and joined: what is answered, as data. No function of the program.
  Slices that read as lists of whole numbers: places. Nothing of the program's functions.
  Terms xs data; struct values and rows in memory that read xs terms; and that a call which makes new memory alone leaves them xs they were.
  All parts of a term, by the reference of layer 3: All, for any term in memory that has not too many; the row lies in new memory, the parts' arguments where they lay. (as data)
-/
import Derived.Test.YtehpkhcjejlbpaaRows
import Derived.WalkKit
import Derived.WalkSpells
import Derived.WalkLawsBesides
import Derived.Lib.Hide
import Derived.Lib.SlicesS
import Derived.OwnWalk
import Derived.Below
import Derived.Laws.OwnMore
import Derived.Laws.MakeOwn
namespace Go.Proofs.Ytehpkhcjejlbpaa
open Go.RowKit

theorem ret_int {k : IntKind} {a b : Int} (h : a = b) : Ending.returned (.int k a) = .returned (.int k b) := by rw [h]
theorem ret_bool {a b : Bool} (h : a = b) : Ending.returned (.bool a) = .returned (.bool b) := by rw [h]

theorem ret_val {a b : Value} (h : a = b) : Ending.returned a = .returned b := by rw [h]

theorem below_drewN {B : Nat} {a w : World} (h : Below B a w) (n : Nat) : Below B a (w.drewN n) := ⟨h.os, h.tape, h.output, h.size, h.block⟩

/-- A box of four cells, behind a call that made new memory alone. -/
structure Box (w1 : World) (g : Nat) (x0 x1 x2 x3 : Value) : Prop where
  c0 : w1.cell? ⟨g, 0, none⟩ = some x0
  c1 : w1.cell? ⟨g, 1, none⟩ = some x1
  c2 : w1.cell? ⟨g, 2, none⟩ = some x2
  c3 : w1.cell? ⟨g, 3, none⟩ = some x3
  f0 : w1.frozen? ⟨g, 0, none⟩ = false
  f1 : w1.frozen? ⟨g, 1, none⟩ = false
  f2 : w1.frozen? ⟨g, 2, none⟩ = false
  f3 : w1.frozen? ⟨g, 3, none⟩ = false
theorem box_new (w : World) (x0 x1 x2 x3 : Value) (t : TypeId) : Box (w.alloc (.cells #[x0, x1, x2, x3] t)) w.heap.size x0 x1 x2 x3 where
  c0 := World.cell?_alloc_mark w #[x0, x1, x2, x3] t (0, 0) 0
  c1 := World.cell?_alloc_mark w #[x0, x1, x2, x3] t (0, 0) 1
  c2 := World.cell?_alloc_mark w #[x0, x1, x2, x3] t (0, 0) 2
  c3 := World.cell?_alloc_mark w #[x0, x1, x2, x3] t (0, 0) 3
  f0 := by simp
  f1 := by simp
  f2 := by simp
  f3 := by simp
theorem Box.below {w w1 : World} {g B : Nat} {x0 x1 x2 x3 : Value} (h : Box w g x0 x1 x2 x3) (hb : Below B w w1) (hg : g < B) : Box w1 g x0 x1 x2 x3 where
  c0 := (hb.cell (p := ⟨g, 0, none⟩) hg).trans h.c0
  c1 := (hb.cell (p := ⟨g, 1, none⟩) hg).trans h.c1
  c2 := (hb.cell (p := ⟨g, 2, none⟩) hg).trans h.c2
  c3 := (hb.cell (p := ⟨g, 3, none⟩) hg).trans h.c3
  f0 := (hb.frozen (p := ⟨g, 0, none⟩) hg).trans h.f0
  f1 := (hb.frozen (p := ⟨g, 1, none⟩) hg).trans h.f1
  f2 := (hb.frozen (p := ⟨g, 2, none⟩) hg).trans h.f2
  f3 := (hb.frozen (p := ⟨g, 3, none⟩) hg).trans h.f3
theorem box_after {w w1 : World} {x0 x1 x2 x3 : Value} {t : TypeId} (hb : Below (w.alloc (.cells #[x0, x1, x2, x3] t)).heap.size (w.alloc (.cells #[x0, x1, x2, x3] t)) w1) : Box w1 w.heap.size x0 x1 x2 x3 :=
  (box_new w x0 x1 x2 x3 t).below hb (by simp)
theorem below_box {w w1 : World} {o : Obj} (hb : Below (w.alloc o).heap.size (w.alloc o) w1) : Below w.heap.size w w1 :=
  ((Below.refl _ _).alloc (Nat.le_refl _) _).trans (hb.mono (by simp))
theorem below_box' {w w1 : World} {o : Obj} {g : Nat} {x0 x1 x2 x3 : Value} (hx : Box (w.alloc o) g x0 x1 x2 x3) (hb : Below (w.alloc o).heap.size (w.alloc o) w1) (hg : g = w.heap.size := by rfl) : Box w1 g x0 x1 x2 x3 ∧ Below w.heap.size w w1 ∧ w.heap.size < w1.heap.size :=
  ⟨hx.below hb (by subst hg; simp), below_box hb, by have := hb.size; simp at this; omega⟩
theorem new_row4 (w : World) (b : Nat) (hb : b = w.heap.size) (x0 x1 x2 x3 : Value) (t : TypeId) : ∀ j u, [x0, x1, x2, x3][j]? = some u → (w.alloc (.cells #[x0, x1, x2, x3] t)).cell? ((⟨b, 0, none⟩ : Addr).add j) = some u := by
  subst hb
  intro j u hj
  have e := World.cell?_alloc_mark w #[x0, x1, x2, x3] t (0, 0) (0 + j)
  have : ((⟨w.heap.size, 0, none⟩ : Addr).add j) = ⟨w.heap.size, 0 + j, none⟩ := by
    unfold Addr.add; split
    · next h => subst h; rfl
    · rfl
  rw [this, e]
  simpa using hj
theorem own_row_ge {w : World} {base : Nat} {e : TypeId} {size : Nat} {v : Value} {n : Nat} {xs : List Value} (h : w.ownsRow base e size v n xs) : ∀ g, v.ownBlock = some g → base ≤ g := by
  intro g hg
  obtain ⟨_, ⟨rfl, _⟩ | ⟨g', cap, cur, rfl, hb, _⟩⟩ := h
  · cases hg
  · cases hg; exact hb
theorem own_row_lt {w : World} {base : Nat} {e : TypeId} {size : Nat} {v : Value} {n : Nat} {xs : List Value} (h : w.ownsRow base e size v n xs) : ∀ g, v.ownBlock = some g → g < w.heap.size := by
  intro g hg
  obtain ⟨_, ⟨rfl, _⟩ | ⟨g', cap, cur, rfl, hb, hgg, _⟩⟩ := h
  · cases hg
  · injection hg with hg
    subst hg
    rcases Nat.lt_or_ge g' w.heap.size with hlt | hge
    · exact hlt
    · rw [Array.getElem?_eq_none hge] at hgg; cases hgg
/-- A box of two cells. -/
structure Pair (w1 : World) (g : Nat) (x0 x1 : Value) : Prop where
  c0 : w1.cell? ⟨g, 0, none⟩ = some x0
  c1 : w1.cell? ⟨g, 1, none⟩ = some x1
  f0 : w1.frozen? ⟨g, 0, none⟩ = false
  f1 : w1.frozen? ⟨g, 1, none⟩ = false
theorem pair_new (w : World) (x0 x1 : Value) (t : TypeId) : Pair (w.alloc (.cells #[x0, x1] t)) w.heap.size x0 x1 where
  c0 := World.cell?_alloc_mark w #[x0, x1] t (0, 0) 0
  c1 := World.cell?_alloc_mark w #[x0, x1] t (0, 0) 1
  f0 := by simp
  f1 := by simp
theorem Pair.below {w w1 : World} {g B : Nat} {x0 x1 : Value} (h : Pair w g x0 x1) (hb : Below B w w1) (hg : g < B) : Pair w1 g x0 x1 where
  c0 := (hb.cell (p := ⟨g, 0, none⟩) hg).trans h.c0
  c1 := (hb.cell (p := ⟨g, 1, none⟩) hg).trans h.c1
  f0 := (hb.frozen (p := ⟨g, 0, none⟩) hg).trans h.f0
  f1 := (hb.frozen (p := ⟨g, 1, none⟩) hg).trans h.f1
theorem pair_after {w wr : World} {x0 x1 : Value} {t : TypeId} (hb : Below (w.heap.size + 1) (w.alloc (.cells #[x0, x1] t)) wr) : Pair wr w.heap.size x0 x1 :=
  (pair_new w x0 x1 t).below hb (by omega)
theorem below_pair {w wr : World} {o : Obj} (hb : Below (w.heap.size + 1) (w.alloc o) wr) : Below w.heap.size w wr :=
  ((Below.refl _ _).alloc (Nat.le_refl _) _).trans (hb.mono (by omega))
theorem own_lower {w : World} {base b0 : Nat} {e : TypeId} {size : Nat} {v : Value} {n : Nat} {xs : List Value} (h : w.ownsRow base e size v n xs) (hb : b0 ≤ base) : w.ownsRow b0 e size v n xs := by
  obtain ⟨hn, h⟩ := h
  refine ⟨hn, ?_⟩
  rcases h with h | ⟨g, cap, cur, rfl, hbb, hr⟩
  · exact .inl h
  · exact .inr ⟨g, cap, cur, rfl, Nat.le_trans hb hbb, hr⟩
theorem own_below {w w1 : World} {base : Nat} {e : TypeId} {size : Nat} {v : Value} {n : Nat} {xs : List Value} (h : w.ownsRow base e size v n xs) (hb : Below w.heap.size w w1) : w1.ownsRow base e size v n xs := by
  obtain ⟨hn, h⟩ := h
  refine ⟨hn, ?_⟩
  rcases h with h | ⟨g, cap, cur, rfl, hbb, hg, hr⟩
  · exact .inl h
  · refine .inr ⟨g, cap, cur, rfl, hbb, ?_, hr⟩
    rcases Nat.lt_or_ge g w.heap.size with hlt | hge
    · rw [hb.block g hlt]; exact hg
    · rw [Array.getElem?_eq_none hge] at hg; cases hg
/-- A box that was laid ahead of an append, behind it. -/
theorem Box.grown {w w1 : World} {g : Nat} {x0 x1 x2 x3 : Value} {row : Option Nat} (h : Box w g x0 x1 x2 x3) (hg : w.grownBy w1 row) (hlt : g < w.heap.size) (hr : ∀ k, row = some k → k ≠ g) : w1.cell? ⟨g, 1, none⟩ = some x1 := by
  have hb := hg.block g hlt (fun e => hr g e.symm rfl)
  have := World.cell?_of_block (w := w) (w' := w1) (a := ⟨g, 1, none⟩) hb
  rw [this]; exact h.c1
/-- Two memories, one behind the other. -/
theorem below_next {w w1 w2 : World} (h : Below w.heap.size w w1) (h2 : Below w1.heap.size w1 w2) : Below w.heap.size w w2 := h.trans (h2.mono h.size)

end Go.Proofs.Ytehpkhcjejlbpaa

namespace Go.Proofs.Ytehpkhcjejlbpaa
open Go.RowKit

/-- A function symbol: its name and its arity. -/
abbrev Fn := ByteArray × Int
structure FnOk (f : Fn) : Prop where
  size : f.1.size ≤ 9223372036854775807
  lo : -9223372036854775808 ≤ f.2
  hi : f.2 ≤ 9223372036854775807
structure FnAt (w : World) (f : Fn) (b o : Nat) : Prop where
  ok : FnOk f
  c0 : w.cell? ⟨b, o, none⟩ = some (.string f.1)
  c1 : w.cell? ⟨b, o + 1, none⟩ = some (.int .i64 f.2)
def fnVal (f : Fn) : Value := .agg #[.string f.1, .int .i64 f.2]
/-- A slice value that reads as a row of functions. -/
def Fus (w : World) (v : Value) (fs : List Fn) : Prop := ∃ a c, v = .slice a fs.length c ∧ (fs.length ≤ 9223372036854775807 ∧ fs.length ≤ c) ∧ (fs = [] ∨ ∃ b o, a = some ⟨b, o, none⟩ ∧ b < w.heap.size ∧ ∀ (j : Nat) x, fs[j]? = some x → FnAt w x b (o + j * 2))
theorem FnAt.lt {w : World} {x : Fn} {b o : Nat} (h : FnAt w x b o) : b < w.heap.size := by
  have h := h.c0
  unfold World.cell? at h
  rcases Nat.lt_or_ge b w.heap.size with h' | h'
  · exact h'
  · simp [Array.getElem?_eq_none h'] at h
theorem FnAt.below {w w' : World} {x : Fn} {b o : Nat} (h : FnAt w x b o) (hb : Below w.heap.size w w') : FnAt w' x b o :=
  ⟨h.ok, (hb.cell (p := ⟨b, o, none⟩) h.lt).trans h.c0, (hb.cell (p := ⟨b, o + 1, none⟩) h.lt).trans h.c1⟩
theorem Fus.below {w w' : World} {v : Value} {fs : List Fn} (h : Fus w v fs) (hb : Below w.heap.size w w') : Fus w' v fs := by
  obtain ⟨a, c, hv, hl, h⟩ := h
  refine ⟨a, c, hv, hl, ?_⟩
  rcases h with h | ⟨b, o, ha, hlt, h⟩
  · exact .inl h
  · exact .inr ⟨b, o, ha, Nat.lt_of_lt_of_le hlt hb.size, fun j x hj => (h j x hj).below hb⟩
theorem Fus.none_ (w : World) (a : Option Addr) (c : Nat) : Fus w (.slice a 0 c) [] := ⟨a, c, rfl, by simp, .inl rfl⟩
theorem Fus.ok {w : World} {v : Value} {fs : List Fn} (h : Fus w v fs) : ∀ f ∈ fs, FnOk f := by
  intro f hf
  obtain ⟨j, hj, rfl⟩ := List.getElem_of_mem hf
  obtain ⟨a, c, _, _, rfl | ⟨b, o, _, _, hc⟩⟩ := h
  · simp at hj
  · exact (hc j _ (List.getElem?_eq_getElem hj)).ok
/-- The first k of a row. -/
theorem Fus.cut {w : World} {a : Option Addr} {n c : Nat} {fs : List Fn} (h : Fus w (.slice a n c) fs) {k : Nat} (hk : k ≤ fs.length) : Fus w (.slice a k c) (fs.take k) := by
  obtain ⟨a', c', hv, hl, h⟩ := h
  cases hv
  refine ⟨a, c, by rw [List.length_take, Nat.min_eq_left hk], by rw [List.length_take]; omega, ?_⟩
  rcases h with rfl | ⟨b, o, ha, hlt, h⟩
  · exact .inl (by simp)
  · refine .inr ⟨b, o, ha, hlt, fun j x hj => h j x ?_⟩
    rw [List.getElem?_take] at hj
    split at hj
    · exact hj
    · cases hj
def rowFn (fs : List Fn) : List Value := fs.flatMap fun f => [.string f.1, .int .i64 f.2]
theorem rowFn_length (fs : List Fn) : (rowFn fs).length = fs.length * 2 := by
  unfold rowFn
  induction fs with
  | nil => rfl
  | cons v r ih => rw [List.flatMap_cons, List.length_append, ih, List.length_cons]; simp; omega
theorem rowFn_append (a b : List Fn) : rowFn (a ++ b) = rowFn a ++ rowFn b := by unfold rowFn; rw [List.flatMap_append]
theorem rowFn_one (f : Fn) : rowFn [f] = [.string f.1, .int .i64 f.2] := by unfold rowFn; simp
theorem rowFn_get : ∀ (fs : List Fn) (j : Nat) (h : j < fs.length) (i : Nat), i < 2 → (rowFn fs)[j * 2 + i]? = ([.string fs[j].1, .int .i64 fs[j].2] : List Value)[i]?
  | [], _, h, _, _ => by simp at h
  | v :: r, 0, _, i, hi => by
    unfold rowFn
    rw [List.flatMap_cons, List.getElem?_append_left (by simp; omega)]; simp
  | v :: r, j + 1, h, i, hi => by
    have := rowFn_get r j (by simpa using h) i hi
    unfold rowFn at this ⊢
    rw [List.flatMap_cons, List.getElem?_append_right (by simp; omega)]
    rw [show (j + 1) * 2 + i - ([.string v.1, .int .i64 v.2] : List Value).length = j * 2 + i from by simp; omega, this]
    simp
theorem rowFn_one' (fs : List Fn) : ∀ u ∈ rowFn fs, u.oneCell' = true := by
  intro u hu
  unfold rowFn at hu
  obtain ⟨v, _, hv⟩ := List.mem_flatMap.1 hu
  simp only [List.mem_cons, List.not_mem_nil, or_false] at hv
  rcases hv with rfl | rfl <;> rfl
/-- A row of functions that the call itself has made. -/
def OwnFn (w : World) (base : Nat) (v : Value) (fs : List Fn) : Prop := (∀ f ∈ fs, FnOk f) ∧ w.ownsRow base 24 2 v fs.length (rowFn fs)
theorem OwnFn.fus {w : World} {base : Nat} {v : Value} {fs : List Fn} (h : OwnFn w base v fs) (hl : fs.length ≤ 9223372036854775807) : Fus w v fs := by
  obtain ⟨hok, hn, h⟩ := h
  rcases h with ⟨rfl, h0⟩ | ⟨g, cap, cur, rfl, _, hg, hcap, hmax, hsz, htake⟩
  · have : fs = [] := by simpa using h0
    subst this
    exact Fus.none_ _ _ _
  · refine ⟨_, cap, rfl, ⟨hl, hcap⟩, .inr ⟨g, 0, rfl, (Array.getElem?_eq_some_iff.1 hg).1, fun j x hj => ?_⟩⟩
    obtain ⟨hjv, rfl⟩ := List.getElem?_eq_some_iff.1 hj
    have cell : ∀ i, i < 2 → w.cell? ⟨g, 0 + j * 2 + i, none⟩ = ([.string fs[j].1, .int .i64 fs[j].2] : List Value)[i]? := by
      intro i hi
      rw [cell_of_row w g (0 + j * 2 + i) cur _ (0, 0) hg, ← rowFn_get fs j hjv i hi, ← htake, List.getElem?_take, if_pos (by omega), Nat.zero_add]
      simp
    exact ⟨hok _ (List.getElem_mem hjv), cell 0 (by omega), cell 1 (by omega)⟩
theorem OwnFn.below {w w' : World} {base : Nat} {v : Value} {fs : List Fn} (h : OwnFn w base v fs) (hb : Below w.heap.size w w') : OwnFn w' base v fs := ⟨h.1, own_below h.2 hb⟩
theorem ownFn_nil (w : World) (base : Nat) : OwnFn w base (.slice none 0 0) [] := ⟨(fun f hf => by cases hf), World.ownsRow_nil _ _ _ _⟩
theorem funInfo : (Try.prog.info? 24).map (fun i => (i.zero, i.size, i.bytes)) = some (some (.agg #[.string ⟨#[]⟩, .int .i64 0]), 2, 24) := by kernel_rfl

theorem addr_add (b o j : Nat) : ((⟨b, o, none⟩ : Addr).add j) = ⟨b, o + j, none⟩ := by
  unfold Addr.add; split
  · next h => subst h; rfl
  · rfl
/-- What an append of the row reads. -/
theorem Fus.news {w : World} {a : Option Addr} {n c : Nat} {fs : List Fn} (h : Fus w (.slice a n c) fs) : n = fs.length ∧ (a = none → n = 0) ∧ (rowFn fs).length = n * 2 ∧ (∀ W, Below w.heap.size w W → ∀ ad, a = some ad → ∀ j u, (rowFn fs)[j]? = some u → W.cell? (ad.add j) = some u) ∧ ∀ f ∈ fs, FnOk f := by
  have hok := h.ok
  obtain ⟨a', c', hv, hl, h⟩ := h
  cases hv
  refine ⟨rfl, ?_, rowFn_length fs, ?_, hok⟩
  · intro ha
    rcases h with rfl | ⟨b, o, hb, _⟩
    · rfl
    · rw [ha] at hb; cases hb
  · intro W hW ad ha j u hj
    rcases h with rfl | ⟨b, o, hb, hlt, h⟩
    · simp [rowFn] at hj
    · rw [ha] at hb
      cases hb
      have hjl := (List.getElem?_eq_some_iff.1 hj).1
      rw [rowFn_length] at hjl
      have hq : j / 2 < fs.length := by omega
      have hA := (h (j / 2) _ (List.getElem?_eq_getElem hq)).below hW
      have hr := rowFn_get fs (j / 2) hq (j % 2) (by omega)
      rw [show j / 2 * 2 + j % 2 = j from by omega, hj] at hr
      rw [addr_add]
      rcases Nat.mod_two_eq_zero_or_one j with e | e
      · rw [e] at hr
        rw [show o + j = o + j / 2 * 2 from by omega, hA.c0, hr]; rfl
      · rw [e] at hr
        rw [show o + j = o + j / 2 * 2 + 1 from by omega, hA.c1, hr]; rfl
/-- One element that was laid anew. -/
theorem new_row2 (w : World) (b : Nat) (hb : b = w.heap.size) (x0 x1 : Value) (t : TypeId) : ∀ j u, [x0, x1][j]? = some u → (w.alloc (.cells #[x0, x1] t)).cell? ((⟨b, 0, none⟩ : Addr).add j) = some u := by
  subst hb
  intro j u hj
  have hjl := (List.getElem?_eq_some_iff.1 hj).1
  simp only [List.length_cons, List.length_nil] at hjl
  have e := World.cell?_alloc_mark w #[x0, x1] t (0, 0) (0 + j)
  rw [addr_add, e]
  rcases (show j = 0 ∨ j = 1 by omega) with rfl | rfl <;> simpa using hj
theorem fn_one (f : Fn) : ∀ u ∈ ([.string f.1, .int .i64 f.2] : List Value), u.oneCell' = true := by rw [← rowFn_one]; exact rowFn_one' [f]
/-- The arity of the first function of a name. -/
def arF (fs : List Fn) (s : ByteArray) : Option Int := (fs.find? fun x => x.1.toList == s.toList).map Prod.snd
theorem arF_nil (s : ByteArray) : arF [] s = none := rfl
theorem arF_take {fs : List Fn} {s : ByteArray} {k : Nat} {x : Fn} (h : arF (fs.take k) s = none) (hk : fs[k]? = some x) : arF (fs.take (k + 1)) s = if (x.1.toList == s.toList) = true then some x.2 else none := by
  obtain ⟨hl, rfl⟩ := List.getElem?_eq_some_iff.1 hk
  unfold arF at h ⊢
  rw [Option.map_eq_none_iff] at h
  rw [List.take_succ_eq_append_getElem hl, List.find?_append, h, List.find?_cons]
  cases fs[k].1.toList == s.toList <;> rfl
theorem arF_some {fs : List Fn} {s : ByteArray} {k : Nat} {n : Int} (h : arF (fs.take k) s = some n) : arF fs s = some n := by
  unfold arF at h ⊢
  obtain ⟨x, hx, rfl⟩ := Option.map_eq_some_iff.1 h
  have e : fs.find? (fun x => x.1.toList == s.toList) = some x := by
    rw [← List.take_append_drop k fs, List.find?_append, hx]; rfl
  rw [e]; rfl
/-- What Arity answers. -/
def arEnd (o : Option Int) : Ending := .returned (.tuple #[.int .i64 (o.getD 0), .bool o.isSome])
/-- Whether a function is in a row, alike. -/
noncomputable def hasFn (fs : List Fn) (f : Fn) : Bool := @decide (f ∈ fs) (Classical.propDecidable _)
theorem toList_iff {s z : ByteArray} : (s.toList == z.toList) = true ↔ s = z := Lib.bytes_beq_iff ..
end Go.Proofs.Ytehpkhcjejlbpaa

namespace Go.Proofs.Ytehpkhcjejlbpaa
open Go.RowKit

def cls (b : Int) : Int :=
  if 97 ≤ b ∧ b ≤ 122 then 1 else if 65 ≤ b ∧ b ≤ 90 then 2 else if 48 ≤ b ∧ b ≤ 57 then 3
  else if b = 40 ∨ b = 41 ∨ b = 44 ∨ b = 47 ∨ b = 61 ∨ b = 46 ∨ b = 59 ∨ b = 58 ∨ b = 36 ∨ b = 37 then 4
  else if b = 32 ∨ b = 10 ∨ b = 13 ∨ b = 9 then 5 else 0
def part (b : Int) : Bool := decide (1 ≤ cls b ∧ cls b ≤ 3 ∨ b = 95)
theorem cls_bd (b : Int) : 0 ≤ cls b ∧ cls b ≤ 5 := by
  unfold cls; repeat' split
  all_goals omega
def among (l : List UInt8) (b : Int) : Bool := l.any fun x => decide ((x.toNat : Int) = b)
theorem take_snoc (s : ByteArray) (k : Nat) (h : k < s.size) : s.data.toList.take (k + 1) = s.data.toList.take k ++ [s[k]] := by
  rw [List.take_succ_eq_append_getElem (by simpa using h)]; rfl
theorem take_all (s : ByteArray) : s.data.toList.take s.size = s.data.toList := List.take_of_length_le (by simp)
theorem among_snoc (s : ByteArray) (b : Int) (k : Nat) (h : k < s.size) : among (s.data.toList.take (k + 1)) b = (among (s.data.toList.take k) b || decide ((s[k].toNat : Int) = b)) := by
  rw [take_snoc s k h]; unfold among; rw [List.any_append]; simp
theorem among_take (s : ByteArray) (b : Int) (k : Nat) (h : among (s.data.toList.take k) b = true) : among s.data.toList b = true := by
  unfold among at *; rw [List.any_eq_true] at *; obtain ⟨x, hx, hy⟩ := h; exact ⟨x, List.mem_of_mem_take hx, hy⟩
theorem among_signs (b : Int) : among [40, 41, 44, 47, 61, 46, 59, 58, 36, 37] b = decide (b = 40 ∨ b = 41 ∨ b = 44 ∨ b = 47 ∨ b = 61 ∨ b = 46 ∨ b = 59 ∨ b = 58 ∨ b = 36 ∨ b = 37) := by
  rw [Bool.eq_iff_iff]; simp only [among, List.any_cons, List.any_nil, Bool.or_eq_true, decide_eq_true_eq]
  simp only [show (40 : UInt8).toNat = 40 from rfl, show (41 : UInt8).toNat = 41 from rfl, show (44 : UInt8).toNat = 44 from rfl, show (47 : UInt8).toNat = 47 from rfl, show (61 : UInt8).toNat = 61 from rfl, show (46 : UInt8).toNat = 46 from rfl, show (59 : UInt8).toNat = 59 from rfl, show (58 : UInt8).toNat = 58 from rfl, show (36 : UInt8).toNat = 36 from rfl, show (37 : UInt8).toNat = 37 from rfl]
  constructor
  · intro h; simp only [Bool.false_eq_true, or_false] at h; omega
  · intro h; simp only [Bool.false_eq_true, or_false]; omega
end Go.Proofs.Ytehpkhcjejlbpaa

namespace Go.Proofs.Ytehpkhcjejlbpaa
open Go.RowKit

/-- A slice value that reads as a list of texts. -/
def Strs (w : World) (v : Value) (zs : List ByteArray) : Prop :=
  ∃ a c, v = .slice a zs.length c ∧ zs.length ≤ 9223372036854775806 ∧ (zs = [] ∨ ∃ b off, a = some ⟨b, off, none⟩ ∧ b < w.heap.size ∧ ∀ j, j < zs.length → w.cell? ⟨b, off + j, none⟩ = some (.string (zs.getD j ByteArray.empty)))

theorem Strs.below {w w' : World} {v : Value} {zs : List ByteArray} (h : Strs w v zs) (hb : Below w.heap.size w w') : Strs w' v zs := by
  obtain ⟨a, c, hv, hl, h⟩ := h
  refine ⟨a, c, hv, hl, ?_⟩
  rcases h with h | ⟨b, off, ha, hlt, hc⟩
  · exact .inl h
  · exact .inr ⟨b, off, ha, Nat.lt_of_lt_of_le hlt hb.size, fun j hj => by rw [hb.cell (p := ⟨b, off + j, none⟩) hlt]; exact hc j hj⟩

theorem strs_alloc (w : World) (zs : List ByteArray) (t : TypeId) (hn : zs.length ≤ 9223372036854775806) :
    Strs (w.alloc (.cells (zs.map Value.string).toArray t)) (.slice (some ⟨w.heap.size, 0, none⟩) zs.length zs.length) zs := by
  refine ⟨_, _, rfl, hn, .inr ⟨w.heap.size, 0, rfl, by simp, fun j hj => ?_⟩⟩
  have e := World.cell?_alloc_mark w (zs.map Value.string).toArray t (0, 0) (0 + j)
  rw [e]
  simp [hj]

/-- x isn't among the first k. -/
def NotYet (zs : List ByteArray) (x : ByteArray) (k : Nat) : Prop := ∀ j, j < k → zs.getD j ByteArray.empty ≠ x
theorem NotYet.succ {zs : List ByteArray} {x : ByteArray} {k : Nat} (h : NotYet zs x k) (hk : zs.getD k ByteArray.empty ≠ x) : NotYet zs x (k + 1) := by
  intro j hj
  by_cases e : j = k
  · rw [e]; exact hk
  · exact h j (by omega)
theorem NotYet.all {zs : List ByteArray} {x : ByteArray} (h : NotYet zs x zs.length) : Lib.containsS zs x = false := by
  rw [← Bool.not_eq_true, Lib.containsS_iff]
  intro hm
  obtain ⟨j, hj, e⟩ := List.getElem_of_mem hm
  exact h j hj (by simpa [List.getD, hj] using e)
theorem contains_here {zs : List ByteArray} {x : ByteArray} {k : Nat} (hk : k < zs.length) (h : zs[k] = x) : Lib.containsS zs x = true := by
  rw [Lib.containsS_iff, ← h]; exact List.getElem_mem _
theorem strInfo : (Try.prog.info? 9).map (fun i => (i.zero, i.size, i.bytes)) = some (some (.string ⟨#[]⟩), 1, 16) := by kernel_rfl
theorem own_cells {w : World} {base : Nat} {e : TypeId} {v : Value} {n : Nat} {xs : List ByteArray} (h : w.ownsRow base e 1 v n (xs.map Value.string)) : (v = .slice none 0 0 ∧ xs = []) ∨
    ∃ g cap, v = .slice (some ⟨g, 0, none⟩) xs.length cap ∧ g < w.heap.size ∧ xs.length ≤ cap ∧ ∀ (j : Nat) x, xs[j]? = some x → w.cell? ⟨g, 0 + j, none⟩ = some (.string x) := by
  obtain ⟨hn, h⟩ := h
  have hxn : xs.length = n := by simpa using hn
  subst hxn
  rcases h with ⟨rfl, h0⟩ | ⟨g, cap, cur, rfl, hb, hg, hcap, hmax, hsz, htake⟩
  · exact .inl ⟨rfl, List.eq_nil_of_length_eq_zero h0⟩
  · refine .inr ⟨g, cap, rfl, ?_, hcap, fun j x hj => ?_⟩
    · rcases Nat.lt_or_ge g w.heap.size with hlt | hge
      · exact hlt
      · rw [Array.getElem?_eq_none hge] at hg; cases hg
    · have hjl : j < xs.length := (List.getElem?_eq_some_iff.1 hj).1
      rw [cell_of_row w g (0 + j) cur e (0, 0) hg]
      have : (xs.map Value.string)[j]? = some (.string x) := by rw [List.getElem?_map, hj]; rfl
      rw [← htake, List.getElem?_take, if_pos (by omega)] at this
      rw [Nat.zero_add]
      simpa using this
/-- A row of texts that the call itself has made reads as a list of texts. -/
theorem strs_of_own {w : World} {base : Nat} {e : TypeId} {v : Value} {n : Nat} {zs : List ByteArray} (h : w.ownsRow base e 1 v n (zs.map Value.string)) (hl : zs.length ≤ 9223372036854775806) : Strs w v zs := by
  rcases own_cells h with ⟨rfl, rfl⟩ | ⟨g, cap, rfl, hg, _, hc⟩
  · exact ⟨none, 0, rfl, by simp, .inl rfl⟩
  · refine ⟨_, cap, rfl, hl, .inr ⟨g, 0, rfl, hg, fun j hj => ?_⟩⟩
    have := hc j zs[j] (by rw [List.getElem?_eq_getElem hj])
    rw [this]; simp [List.getD, hj]
end Go.Proofs.Ytehpkhcjejlbpaa

namespace Go.Proofs.Ytehpkhcjejlbpaa
open Go.RowKit

/-- The words that begin items. -/
def keyList : List ByteArray := [⟨#[102, 117, 110]⟩, ⟨#[110, 97, 109, 101]⟩, ⟨#[114, 117, 108, 101]⟩, ⟨#[102, 114, 97, 109, 101]⟩, ⟨#[100, 101, 100, 117, 99, 101]⟩, ⟨#[101, 113, 117, 105, 118]⟩, ⟨#[110, 111, 114, 109, 97, 108]⟩, ⟨#[117, 115, 101]⟩]
/-- All bytes of a row may be part of a word. -/
def allPart (l : List UInt8) : Bool := l.all fun c => part (c.toNat : Int)
theorem allPart_snoc (s : ByteArray) (k : Nat) (h : k < s.size) : allPart (s.data.toList.take (k + 1)) = (allPart (s.data.toList.take k) && part (s[k].toNat : Int)) := by
  rw [take_snoc s k h]; unfold allPart; rw [List.all_append]; simp
theorem allPart_bad (s : ByteArray) (k : Nat) (h : k < s.size) (hp : part (s[k].toNat : Int) = false) : allPart s.data.toList = false := by
  unfold allPart
  rw [← Bool.not_eq_true, List.all_eq_true]
  intro hall
  have := hall s[k] (by rw [show s[k] = s.data.toList[k]'(by simpa using h) from rfl]; exact List.getElem_mem _)
  rw [hp] at this; cases this
/-- Whether byte k of s may stand where it does, in a word that begins with a byte of class f. -/
def fitAt (s : ByteArray) (f : Int) (k : Nat) : Bool := if k = 0 then (cls ((s.data.toList.getD k 0).toNat : Int) == f) else part ((s.data.toList.getD k 0).toNat : Int)
theorem fitAt_zero {s : ByteArray} {f : Int} (h : 0 < s.size) : fitAt s f 0 = (cls (s[0].toNat : Int) == f) := by
  unfold fitAt; rw [if_pos rfl]
  have : s.data.toList.getD 0 0 = s[0] := by rw [List.getD, List.getElem?_eq_getElem (by simpa using h)]; rfl
  rw [this]
theorem fitAt_next {s : ByteArray} {f : Int} {k : Nat} (h : k < s.size) (hk : k ≠ 0) : fitAt s f k = part (s[k].toNat : Int) := by
  unfold fitAt; rw [if_neg hk]
  have : s.data.toList.getD k 0 = s[k] := by rw [List.getD, List.getElem?_eq_getElem (by simpa using h)]; rfl
  rw [this]
/-- The first k bytes of s may stand where they do. -/
def FitsTo (s : ByteArray) (f : Int) (k : Nat) : Prop := ∀ j, j < k → fitAt s f j = true
theorem FitsTo.succ {s : ByteArray} {f : Int} {k : Nat} (h : FitsTo s f k) (hk : fitAt s f k = true) : FitsTo s f (k + 1) := by
  intro j hj
  by_cases e : j = k
  · rw [e]; exact hk
  · exact h j (by omega)
/-- All bytes of s may stand where they do. -/
def fitsAll (s : ByteArray) (f : Int) : Bool := (List.range s.size).all fun j => fitAt s f j
theorem FitsTo.all {s : ByteArray} {f : Int} (h : FitsTo s f s.size) : fitsAll s f = true := by
  unfold fitsAll; rw [List.all_eq_true]; intro j hj; exact h j (List.mem_range.1 hj)
theorem fitsAll_bad {s : ByteArray} {f : Int} {k : Nat} (hk : k < s.size) (h : fitAt s f k = false) : fitsAll s f = false := by
  unfold fitsAll; rw [← Bool.not_eq_true, List.all_eq_true]; intro hall
  have := hall k (List.mem_range.2 hk)
  rw [h] at this; cases this
/-- A text is put together as a word that begins with a byte of class f. -/
def speltB (s : ByteArray) (f : Int) : Bool := decide (1 ≤ s.size ∧ s.size ≤ 20) && fitsAll s f
theorem toList_empty {s : ByteArray} (h : s.size = 0) : s.toList = [] := by
  rw [ByteArray.toList_eq]; exact List.eq_nil_of_length_eq_zero (by simpa using h)
theorem toList_some {s : ByteArray} (h : 1 ≤ s.size) : s.toList.isEmpty = false := by
  rw [ByteArray.toList_eq]
  cases hd : s.data.toList with
  | nil =>
    have : s.size = 0 := by
      have := congrArg List.length hd
      simpa using this
    omega
  | cons c r => rfl
/-- A word; a variable's word. -/
def wordB (s : ByteArray) : Bool := speltB s 1 && !Lib.containsS keyList s
def upperB (s : ByteArray) : Bool := speltB s 2 && !Lib.containsS keyList s
theorem allPart_iff (s : ByteArray) : allPart s.data.toList = true ↔ ∀ j (h : j < s.size), part (s[j].toNat : Int) = true := by
  unfold allPart
  rw [List.all_eq_true]
  constructor
  · intro h j hj
    exact h s[j] (by rw [show s[j] = s.data.toList[j]'(by simpa using hj) from rfl]; exact List.getElem_mem _)
  · intro h c hc
    obtain ⟨j, hj, rfl⟩ := List.getElem_of_mem hc
    exact h j (by simpa using hj)
theorem fitsAll_iff (s : ByteArray) (f : Int) : fitsAll s f = true ↔ ∀ j, j < s.size → fitAt s f j = true := by
  unfold fitsAll
  rw [List.all_eq_true]
  exact ⟨fun h j hj => h j (List.mem_range.2 hj), fun h j hj => h j (List.mem_range.1 hj)⟩
theorem part_of_cls {b f : Int} (hf : f = 1 ∨ f = 2) (h : cls b = f) : part b = true := by
  unfold part; rw [decide_eq_true_eq]; left; omega
theorem fits_eq {s : ByteArray} {f : Int} (hf : f = 1 ∨ f = 2) (h0 : 0 < s.size) : fitsAll s f = ((cls (s[0].toNat : Int) == f) && allPart s.data.toList) := by
  rw [Bool.eq_iff_iff, Bool.and_eq_true, fitsAll_iff, allPart_iff, beq_iff_eq]
  constructor
  · intro h
    have h1 := h 0 h0
    rw [fitAt_zero h0, beq_iff_eq] at h1
    refine ⟨h1, fun j hj => ?_⟩
    by_cases e : j = 0
    · subst e; exact part_of_cls hf h1
    · have := h j hj
      rwa [fitAt_next hj e] at this
  · rintro ⟨h1, h2⟩ j hj
    by_cases e : j = 0
    · subst e; rw [fitAt_zero h0, beq_iff_eq]; exact h1
    · rw [fitAt_next hj e]; exact h2 j hj
theorem keys_low : ∀ s ∈ keyList, ∃ h : 0 < s.size, cls (s[0].toNat : Int) = 1 := by
  intro s hs
  simp only [keyList, List.mem_cons, List.not_mem_nil, or_false] at hs
  rcases hs with rfl | rfl | rfl | rfl | rfl | rfl | rfl | rfl
  all_goals exact ⟨by decide, by decide⟩
theorem upper_spelt (s : ByteArray) : upperB s = speltB s 2 := by
  unfold upperB
  cases hk : Lib.containsS keyList s with
  | false => simp
  | true =>
    obtain ⟨h0, h1⟩ := keys_low s ((Lib.containsS_iff _ _).1 hk)
    have : fitsAll s 2 = false := by rw [fits_eq (.inr rfl) h0, h1]; rfl
    unfold speltB; rw [this]; simp
end Go.Proofs.Ytehpkhcjejlbpaa

namespace Go.Proofs.Ytehpkhcjejlbpaa
open Go.RowKit

theorem hasFn_iff {fs : List Fn} {f : Fn} : hasFn fs f = true ↔ f ∈ fs := @decide_eq_true_iff _ (Classical.propDecidable _)
/-- Whether a function may be. -/
def argOk (f : Fn) : Bool := wordB f.1 && (decide (0 ≤ f.2) && decide (f.2 ≤ 6))
/-- The error of one function more. -/
def addE (fs : List Fn) (f : Fn) : Int := if argOk f = false then 1 else if (arF fs f.1).isSome = true then 6 else if 40 ≤ fs.length then 3 else 0
def addL (fs : List Fn) (f : Fn) : List Fn := if addE fs f = 0 then fs ++ [f] else []
theorem addE_arg {fs : List Fn} {f : Fn} (h : argOk f = false) : addE fs f = 1 := by unfold addE; rw [if_pos h]
theorem addE_twice {fs : List Fn} {f : Fn} (h : argOk f = true) (k : (arF fs f.1).isSome = true) : addE fs f = 6 := by unfold addE; rw [if_neg (by rw [h]; simp), if_pos k]
theorem addE_long {fs : List Fn} {f : Fn} (h : argOk f = true) (k : (arF fs f.1).isSome = false) (l : 40 ≤ fs.length) : addE fs f = 3 := by unfold addE; rw [if_neg (by rw [h]; simp), if_neg (by rw [k]; simp), if_pos l]
theorem addE_ok {fs : List Fn} {f : Fn} (h : argOk f = true) (k : (arF fs f.1).isSome = false) (l : ¬ 40 ≤ fs.length) : addE fs f = 0 := by unfold addE; rw [if_neg (by rw [h]; simp), if_neg (by rw [k]; simp), if_neg l]
theorem addL_bad {fs : List Fn} {f : Fn} (h : addE fs f ≠ 0) : addL fs f = [] := by unfold addL; rw [if_neg h]
theorem addL_ok {fs : List Fn} {f : Fn} (h : addE fs f = 0) : addL fs f = fs ++ [f] := by unfold addL; rw [if_pos h]
theorem addL_len (fs : List Fn) (f : Fn) : (addL fs f).length ≤ fs.length + 1 := by unfold addL; split <;> simp
theorem addE_zero {fs : List Fn} {f : Fn} : addE fs f = 0 ↔ argOk f = true ∧ arF fs f.1 = none ∧ fs.length < 40 := by
  unfold addE
  cases argOk f with
  | false => simp
  | true =>
    cases h : arF fs f.1 with
    | some n => simp
    | none => by_cases hl : 40 ≤ fs.length <;> simp [hl] <;> omega
/-- The join: what is told so far, and what is left. -/
noncomputable def joinR (a : List Fn) : List Fn → List Fn → Int × List Fn
  | out, [] => (0, out)
  | out, f :: r => if hasFn a f = true then joinR a out r else if addE out f = 0 then joinR a (out ++ [f]) r else (addE out f, [])
noncomputable def joinE (a b : List Fn) : Int := (joinR a a b).1
noncomputable def joinL (a b : List Fn) : List Fn := (joinR a a b).2
/-- Whether functions may stand together. -/
def rightF (fs : List Fn) : Bool := decide (fs.length ≤ 40) && (List.range fs.length).all fun i => match fs[i]? with | some f => argOk f && (arF (fs.take i) f.1).isNone | none => true
theorem rightF_iff {fs : List Fn} : rightF fs = true ↔ fs.length ≤ 40 ∧ ∀ i f, fs[i]? = some f → argOk f = true ∧ arF (fs.take i) f.1 = none := by
  unfold rightF
  rw [Bool.and_eq_true, decide_eq_true_eq, List.all_eq_true]
  refine and_congr Iff.rfl ⟨fun h i f hf => ?_, fun h i hi => ?_⟩
  · have := h i (List.mem_range.2 (List.getElem?_eq_some_iff.1 hf).1)
    rw [hf] at this
    simpa using this
  · have hl := List.mem_range.1 hi
    rw [List.getElem?_eq_getElem hl]
    simpa using h i _ (List.getElem?_eq_getElem hl)
def shortFn (f : Fn) : Bool := decide (f.1.size ≤ 100)
def fewF (fs : List Fn) : Bool := decide (fs.length ≤ 60) && fs.all shortFn
theorem fewF_of {fs : List Fn} (h : fewF fs = true) : fs.length ≤ 60 ∧ ∀ f ∈ fs, f.1.size ≤ 100 := by
  unfold fewF at h
  rw [Bool.and_eq_true, List.all_eq_true] at h
  exact ⟨by simpa using h.1, fun x hx => by have := h.2 x hx; unfold shortFn at this; simpa using this⟩
end Go.Proofs.Ytehpkhcjejlbpaa

namespace Go.Proofs.Ytehpkhcjejlbpaa
open Go.RowKit

/-- A slice value that reads as a list of int's. -/
def Nums (w : World) (v : Value) (ns : List Int) : Prop :=
  ∃ a c, v = .slice a ns.length c ∧ ns.length ≤ c ∧ c ≤ 9223372036854775807 ∧ (∀ n ∈ ns, -9223372036854775808 ≤ n ∧ n ≤ 9223372036854775807) ∧
    (ns = [] ∨ ∃ b off, a = some ⟨b, off, none⟩ ∧ b < w.heap.size ∧ ∀ (j : Nat) n, ns[j]? = some n → w.cell? ⟨b, off + j, none⟩ = some (.int .i64 n))
theorem Nums.below {w w' : World} {v : Value} {ns : List Int} (h : Nums w v ns) (hb : Below w.heap.size w w') : Nums w' v ns := by
  obtain ⟨a, c, hv, hl, hc, hn, h⟩ := h
  refine ⟨a, c, hv, hl, hc, hn, ?_⟩
  rcases h with h | ⟨b, off, ha, hlt, hc⟩
  · exact .inl h
  · exact .inr ⟨b, off, ha, Nat.lt_of_lt_of_le hlt hb.size, fun j n hj => by rw [hb.cell (p := ⟨b, off + j, none⟩) hlt]; exact hc j n hj⟩
/-- The rest of a place behind its first number. -/
theorem nums_tail {w : World} {b off c n : Nat} {i : Int} {r : List Int} (hn : n = r.length + 1) (h : Nums w (.slice (some ⟨b, off, none⟩) n c) (i :: r)) (a : Option Addr) (ha : r ≠ [] → a = some ⟨b, off + 1, none⟩) :
    Nums w (.slice a r.length (c - 1)) r := by
  subst hn
  obtain ⟨a', c', hv, hl, hc, hm, h⟩ := h
  cases hv
  simp only [List.length_cons] at hl
  refine ⟨a, _, rfl, by omega, by omega, fun x hx => hm x (by simp [hx]), ?_⟩
  by_cases hr : r = []
  · exact .inl hr
  · rcases h with h | ⟨b', off', he, hlt, h⟩
    · cases h
    · cases he
      exact .inr ⟨b, off + 1, ha hr, hlt, fun j x hj => by have := h (j + 1) x (by simpa using hj); rw [show off + 1 + j = off + (j + 1) from by omega]; exact this⟩
end Go.Proofs.Ytehpkhcjejlbpaa

namespace Go.Proofs.Ytehpkhcjejlbpaa
open Go.RowKit

/-- A term: its kind, its name, its number, and its arguments. -/
inductive Tm where
  | mk (kind : Int) (name : ByteArray) (n : Int) (args : List Tm)
def Tm.kind : Tm → Int | .mk k _ _ _ => k
def Tm.name : Tm → ByteArray | .mk _ s _ _ => s
def Tm.n : Tm → Int | .mk _ _ n _ => n
def Tm.args : Tm → List Tm | .mk _ _ _ xs => xs
theorem Tm.eta (t : Tm) : t = .mk t.kind t.name t.n t.args := by cases t; rfl
instance : Inhabited Tm := ⟨.mk 0 ⟨#[]⟩ 0 []⟩

mutual
/-- How many parts a term has. -/
def Tm.parts : Tm → Nat
  | .mk _ _ _ xs => partsL xs + 1
def partsL : List Tm → Nat
  | [] => 0
  | t :: r => t.parts + partsL r
end
theorem parts_eq (t : Tm) : t.parts = partsL t.args + 1 := by cases t; rw [Tm.parts]; rfl
theorem parts_pos (t : Tm) : 1 ≤ t.parts := by rw [parts_eq]; omega
theorem partsL_cons (t : Tm) (r : List Tm) : partsL (t :: r) = t.parts + partsL r := by rw [partsL]
theorem partsL_nil : partsL [] = 0 := by rw [partsL]
theorem partsL_append (a b : List Tm) : partsL (a ++ b) = partsL a + partsL b := by
  induction a with
  | nil => rw [List.nil_append, partsL_nil]; omega
  | cons t r ih => rw [List.cons_append, partsL_cons, partsL_cons, ih]; omega
theorem parts_get (l : List Tm) {j : Nat} (h : j < l.length) : l[j].parts ≤ partsL l := by
  induction l generalizing j with
  | nil => simp at h
  | cons t r ih =>
    rw [partsL_cons]
    cases j with
    | zero => simp
    | succ j => have := ih (j := j) (by simpa using h); simp; omega
theorem parts_arg (t : Tm) {j : Nat} (h : j < t.args.length) : t.args[j].parts < t.parts := by
  rw [parts_eq t]; have := parts_get t.args h; omega
theorem partsL_length (l : List Tm) : l.length ≤ partsL l := by
  induction l with
  | nil => simp
  | cons t r ih => rw [partsL_cons, List.length_cons]; have := parts_pos t; omega
theorem partsL_take (l : List Tm) {k : Nat} (h : k < l.length) : partsL (l.take (k + 1)) = partsL (l.take k) + l[k].parts := by
  rw [List.take_succ_eq_append_getElem h, partsL_append, partsL_cons, partsL_nil]; omega

/-- A term's numbers are int's, and its name is no longer than a text can be. -/
structure Fit (k : Int) (s : ByteArray) (n : Int) : Prop where
  klo : -9223372036854775808 ≤ k
  khi : k ≤ 9223372036854775807
  nlo : -9223372036854775808 ≤ n
  nhi : n ≤ 9223372036854775807
  len : s.size ≤ 9223372036854775807
mutual
/-- A term lies at an address: four cells, and its arguments where the fourth says. -/
def TmAt (w : World) : Tm → Nat → Nat → Prop
  | .mk k s n xs, b, o => Fit k s n ∧ w.cell? ⟨b, o, none⟩ = some (.int .i64 k) ∧ w.cell? ⟨b, o + 1, none⟩ = some (.string s) ∧ w.cell? ⟨b, o + 2, none⟩ = some (.int .i64 n) ∧
    ∃ a c, w.cell? ⟨b, o + 3, none⟩ = some (.slice a xs.length c) ∧ (xs.length ≤ 9223372036854775807 ∧ xs.length ≤ c) ∧ (xs = [] ∨ ∃ b' o', a = some ⟨b', o', none⟩ ∧ b' < w.heap.size ∧ RowAt w xs b' o')
def RowAt (w : World) : List Tm → Nat → Nat → Prop
  | [], _, _ => True
  | t :: r, b, o => TmAt w t b o ∧ RowAt w r b (o + 4)
end
/-- What a slice's address says of its elements. -/
def Args (w : World) (a : Option Addr) (c : Nat) (xs : List Tm) : Prop := (xs.length ≤ 9223372036854775807 ∧ xs.length ≤ c) ∧ (xs = [] ∨ ∃ b o, a = some ⟨b, o, none⟩ ∧ b < w.heap.size ∧ RowAt w xs b o)
theorem rowAt_get {w : World} : ∀ {xs : List Tm} {b o : Nat}, RowAt w xs b o → ∀ {j : Nat} (h : j < xs.length), TmAt w xs[j] b (o + j * 4)
  | [], _, _, _, _, h => by simp at h
  | t :: r, b, o, hr, 0, _ => by rw [RowAt] at hr; simpa using hr.1
  | t :: r, b, o, hr, j + 1, h => by
    rw [RowAt] at hr
    have := rowAt_get hr.2 (j := j) (by simpa using h)
    rw [show o + (j + 1) * 4 = o + 4 + j * 4 from by omega]
    exact this
theorem rowAt_of {w : World} : ∀ {xs : List Tm} {b o : Nat}, (∀ {j : Nat} (h : j < xs.length), TmAt w xs[j] b (o + j * 4)) → RowAt w xs b o
  | [], _, _, _ => by rw [RowAt]; trivial
  | t :: r, b, o, h => by
    rw [RowAt]
    refine ⟨(show TmAt w t b (o + 0 * 4) from h (j := 0) (by simp)), rowAt_of fun {j} hj => ?_⟩
    have := h (j := j + 1) (by simpa using hj)
    rw [show o + (j + 1) * 4 = o + 4 + j * 4 from by omega] at this
    exact this

/-- A term xs a value: the term, the address of its arguments, and their capacity. -/
structure Tv where
  t : Tm
  a : Option Addr
  c : Nat
def Tv.val (v : Tv) : Value := .agg #[.int .i64 v.t.kind, .string v.t.name, .int .i64 v.t.n, .slice v.a v.t.args.length v.c]
def Tv.cells (v : Tv) : List Value := [.int .i64 v.t.kind, .string v.t.name, .int .i64 v.t.n, .slice v.a v.t.args.length v.c]
def Tv.ok (w : World) (v : Tv) : Prop := Fit v.t.kind v.t.name v.t.n ∧ Args w v.a v.c v.t.args
/-- The four cells of a value. -/
structure TvAt (w : World) (b o : Nat) (v : Tv) : Prop where
  c0 : w.cell? ⟨b, o, none⟩ = some (.int .i64 v.t.kind)
  c1 : w.cell? ⟨b, o + 1, none⟩ = some (.string v.t.name)
  c2 : w.cell? ⟨b, o + 2, none⟩ = some (.int .i64 v.t.n)
  c3 : w.cell? ⟨b, o + 3, none⟩ = some (.slice v.a v.t.args.length v.c)
theorem tmAt_tv {w : World} {t : Tm} {b o : Nat} (h : TmAt w t b o) : ∃ v : Tv, v.t = t ∧ v.ok w ∧ TvAt w b o v := by
  cases t with
  | mk k s n xs =>
    rw [TmAt] at h
    obtain ⟨hf, h0, h1, h2, a, c, h3, hl, hr⟩ := h
    exact ⟨⟨.mk k s n xs, a, c⟩, rfl, ⟨hf, hl, hr⟩, h0, h1, h2, h3⟩
theorem tv_tmAt {w : World} {v : Tv} {b o : Nat} (hk : v.ok w) (h : TvAt w b o v) : TmAt w v.t b o := by
  obtain ⟨t, a, c⟩ := v
  cases t with
  | mk k s n xs =>
    rw [TmAt]
    exact ⟨hk.1, h.c0, h.c1, h.c2, a, c, h.c3, hk.2.1, hk.2.2⟩

theorem lt_of_cell {w : World} {b o : Nat} {x : Value} (h : w.cell? ⟨b, o, none⟩ = some x) : b < w.heap.size := by
  rcases Nat.lt_or_ge b w.heap.size with hlt | hge
  · exact hlt
  · unfold World.cell? at h
    simp [Array.getElem?_eq_none hge] at h
mutual
theorem TmAt.below {w w' : World} (hb : Below w.heap.size w w') : ∀ {t : Tm} {b o : Nat}, TmAt w t b o → TmAt w' t b o
  | .mk k s n xs, b, o, h => by
    rw [TmAt] at h ⊢
    obtain ⟨hf, h0, h1, h2, a, c, h3, hl, hr⟩ := h
    have hlt := lt_of_cell h0
    refine ⟨hf, (hb.cell (p := ⟨b, o, none⟩) hlt).trans h0, (hb.cell (p := ⟨b, o + 1, none⟩) hlt).trans h1, (hb.cell (p := ⟨b, o + 2, none⟩) hlt).trans h2, a, c, (hb.cell (p := ⟨b, o + 3, none⟩) hlt).trans h3, hl, ?_⟩
    rcases hr with hr | ⟨b', o', ha, hb', hr⟩
    · exact .inl hr
    · exact .inr ⟨b', o', ha, Nat.lt_of_lt_of_le hb' hb.size, RowAt.below hb hr⟩
theorem RowAt.below {w w' : World} (hb : Below w.heap.size w w') : ∀ {xs : List Tm} {b o : Nat}, RowAt w xs b o → RowAt w' xs b o
  | [], _, _, _ => by rw [RowAt]; trivial
  | t :: r, b, o, h => by
    rw [RowAt] at h ⊢
    exact ⟨TmAt.below hb h.1, RowAt.below hb h.2⟩
end
theorem Args.below {w w' : World} {a : Option Addr} {c : Nat} {xs : List Tm} (h : Args w a c xs) (hb : Below w.heap.size w w') : Args w' a c xs := by
  obtain ⟨hl, h⟩ := h
  refine ⟨hl, ?_⟩
  rcases h with h | ⟨b, o, ha, hlt, hr⟩
  · exact .inl h
  · exact .inr ⟨b, o, ha, Nat.lt_of_lt_of_le hlt hb.size, hr.below hb⟩
theorem Tv.ok.below {w w' : World} {v : Tv} (h : v.ok w) (hb : Below w.heap.size w w') : v.ok w' := ⟨h.1, Args.below h.2 hb⟩

/-- A slice value that reads xs a row of terms. -/
def Tms (w : World) (v : Value) (ts : List Tm) : Prop := ∃ a c, v = .slice a ts.length c ∧ Args w a c ts
theorem Tms.below {w w' : World} {v : Value} {ts : List Tm} (h : Tms w v ts) (hb : Below w.heap.size w w') : Tms w' v ts := by
  obtain ⟨a, c, hv, h⟩ := h
  exact ⟨a, c, hv, h.below hb⟩
theorem Tms.none_ (w : World) (a : Option Addr) (c : Nat) : Tms w (.slice a 0 c) [] := ⟨a, c, rfl, by simp, .inl rfl⟩

/-- Equal, for terms. -/
noncomputable def eqT (t u : Tm) : Bool := @decide (t = u) (Classical.propDecidable _)
theorem eqT_true {t u : Tm} (h : t = u) : eqT t u = true := by unfold eqT; simp [h]
theorem eqT_false {t u : Tm} (h : t ≠ u) : eqT t u = false := by unfold eqT; simp [h]
theorem eqT_iff {t u : Tm} : eqT t u = true ↔ t = u := by unfold eqT; simp
noncomputable def eqTs (ts us : List Tm) : Bool := @decide (ts = us) (Classical.propDecidable _)
theorem eqTs_true {ts us : List Tm} (h : ts = us) : eqTs ts us = true := by unfold eqTs; simp [h]
theorem eqTs_false {ts us : List Tm} (h : ts ≠ us) : eqTs ts us = false := by unfold eqTs; simp [h]
theorem Tv.val_shape (x : Tv) : ∃ (k : Int) (s : ByteArray) (n : Int) (a : Option Addr) (l c : Nat), x.val = .agg #[.int .i64 k, .string s, .int .i64 n, .slice a l c] := ⟨_, _, _, _, _, _, rfl⟩
theorem TvAt.below {w w' : World} {b o : Nat} {v : Tv} (h : TvAt w b o v) (hb : Below w.heap.size w w') : TvAt w' b o v where
  c0 := (hb.cell (p := ⟨b, o, none⟩) (lt_of_cell h.c0)).trans h.c0
  c1 := (hb.cell (p := ⟨b, o + 1, none⟩) (lt_of_cell h.c0)).trans h.c1
  c2 := (hb.cell (p := ⟨b, o + 2, none⟩) (lt_of_cell h.c0)).trans h.c2
  c3 := (hb.cell (p := ⟨b, o + 3, none⟩) (lt_of_cell h.c0)).trans h.c3
end Go.Proofs.Ytehpkhcjejlbpaa

namespace Go.Proofs.Ytehpkhcjejlbpaa
open Go.RowKit

mutual
/-- A term, and all in it, from the left. -/
def Tm.all : Tm → List Tm
  | .mk k s n xs => .mk k s n xs :: allL xs
def allL : List Tm → List Tm
  | [] => []
  | t :: r => t.all ++ allL r
end
theorem all_eq (t : Tm) : t.all = t :: allL t.args := by cases t; rw [Tm.all]; rfl
theorem allL_append (a b : List Tm) : allL (a ++ b) = allL a ++ allL b := by
  induction a with
  | nil => rw [List.nil_append, allL]; rfl
  | cons t r ih => rw [List.cons_append, allL, allL, ih, List.append_assoc]
theorem allL_take {l : List Tm} {k : Nat} (h : k < l.length) : allL (l.take (k + 1)) = allL (l.take k) ++ l[k].all := by
  rw [List.take_succ_eq_append_getElem h, allL_append]
  congr 1
  rw [allL, allL, List.append_nil]
mutual
theorem all_length : ∀ t : Tm, t.all.length = t.parts
  | .mk k s n xs => by rw [Tm.all, List.length_cons, allL_length xs, Tm.parts]
theorem allL_length : ∀ l : List Tm, (allL l).length = partsL l
  | [] => by rw [allL, partsL]; rfl
  | t :: r => by rw [allL, List.length_append, all_length t, allL_length r, partsL]
end
theorem termInfo : (Try.prog.info? 40).map (fun i => (i.zero, i.size, i.bytes)) = some (some (.agg #[.int .i64 0, .string ⟨#[]⟩, .int .i64 0, .slice none 0 0]), 4, 56) := by kernel_rfl
/-- The cells of a row of terms. -/
def rowTv (vs : List Tv) : List Value := vs.flatMap Tv.cells
theorem rowTv_length (vs : List Tv) : (rowTv vs).length = vs.length * 4 := by
  unfold rowTv
  induction vs with
  | nil => rfl
  | cons t r ih => rw [List.flatMap_cons, List.length_append, ih]; simp [Tv.cells]; omega
theorem rowTv_append (a b : List Tv) : rowTv (a ++ b) = rowTv a ++ rowTv b := by unfold rowTv; rw [List.flatMap_append]
theorem rowTv_one (v : Tv) : rowTv [v] = v.cells := by unfold rowTv; simp
theorem rowTv_get (vs : List Tv) (j : Nat) (h : j < vs.length) (i : Nat) (hi : i < 4) : (rowTv vs)[j * 4 + i]? = vs[j].cells[i]? := by
  induction vs generalizing j with
  | nil => simp at h
  | cons t r ih =>
    unfold rowTv
    rw [List.flatMap_cons]
    cases j with
    | zero => rw [Nat.zero_mul, Nat.zero_add, List.getElem?_append_left (by simp [Tv.cells]; omega)]; rfl
    | succ j =>
      rw [List.getElem?_append_right (by simp [Tv.cells]; omega)]
      have := ih j (by simpa using h)
      rw [show (j + 1) * 4 + i - t.cells.length = j * 4 + i from by simp [Tv.cells]; omega]
      exact this
theorem rowTv_one' (vs : List Tv) : ∀ u ∈ rowTv vs, u.oneCell' = true := by
  intro u hu
  unfold rowTv at hu
  obtain ⟨v, _, hv⟩ := List.mem_flatMap.1 hu
  simp [Tv.cells] at hv
  rcases hv with rfl | rfl | rfl | rfl <;> rfl
/-- A row of terms that the call itself has made: its terms' arguments lie in the world w0. -/
def OwnTv (w0 w : World) (base : Nat) (v : Value) (ts : List Tm) : Prop :=
  ∃ vs : List Tv, vs.map Tv.t = ts ∧ (∀ x ∈ vs, x.ok w0) ∧ w.ownsRow base 40 4 v ts.length (rowTv vs)
theorem OwnTv.tms {w0 w : World} {base : Nat} {v : Value} {ts : List Tm} (h : OwnTv w0 w base v ts) (hb : Below w0.heap.size w0 w) (hl : ts.length ≤ 9223372036854775807) : Tms w v ts := by
  obtain ⟨vs, rfl, hok, hn, h⟩ := h
  rcases h with ⟨rfl, h0⟩ | ⟨g, cap, cur, rfl, _, hg, hcap, hmax, hsz, htake⟩
  · have : vs = [] := by simpa using h0
    subst this
    exact Tms.none_ _ _ _
  · refine ⟨_, cap, rfl, ⟨hl, hcap⟩, ?_⟩
    by_cases h0 : vs = []
    · left; rw [h0]; rfl
    right
    have hlt : g < w.heap.size := by
      rcases Nat.lt_or_ge g w.heap.size with hlt | hge
      · exact hlt
      · rw [Array.getElem?_eq_none hge] at hg; cases hg
    refine ⟨g, 0, rfl, hlt, rowAt_of fun {j} hj => ?_⟩
    have hjv : j < vs.length := by simpa using hj
    rw [List.getElem_map]
    have cell : ∀ i, i < 4 → w.cell? ⟨g, 0 + j * 4 + i, none⟩ = vs[j].cells[i]? := by
      intro i hi
      rw [cell_of_row w g (0 + j * 4 + i) cur _ (0, 0) hg, ← rowTv_get vs j hjv i hi, ← htake, List.getElem?_take, if_pos (by simp; omega), Nat.zero_add]
      simp
    exact tv_tmAt ((hok _ (List.getElem_mem hjv)).below hb) ⟨cell 0 (by omega), cell 1 (by omega), cell 2 (by omega), cell 3 (by omega)⟩
theorem own_first (w : World) (base : Nat) (hb : base ≤ w.heap.size) (v : Tv) : (w.alloc (.cells #[.int .i64 v.t.kind, .string v.t.name, .int .i64 v.t.n, .slice v.a v.t.args.length v.c] 40)).ownsRow base 40 4 (.slice (some ⟨w.heap.size, 0, none⟩) 1 1) 1 (rowTv [v]) := by
  refine ⟨rfl, .inr ⟨w.heap.size, 1, _, rfl, hb, heap_alloc_new w _, Nat.le_refl _, by unfold maxLen; omega, rfl, ?_⟩⟩
  rw [rowTv_one]; rfl
end Go.Proofs.Ytehpkhcjejlbpaa
