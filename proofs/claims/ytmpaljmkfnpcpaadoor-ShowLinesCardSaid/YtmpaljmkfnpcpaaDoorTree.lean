/-
  Trees in memory: a kind, a text, a number, a place, and more trees; rows of them. No function of the program.
-/
import Derived.Test.YtmpaljmkfnpcpaaDoorBase
import Derived.WalkSpells
import Derived.Below
import Derived.Laws.OwnMore
import Derived.Lib.SlicesS
namespace Go.Proofs.YtmpaljmkfnpcpaaDoor
open Go.RowKit

/-- A term as it stands in a text. -/
inductive Tr where
  | mk (kind : Int) (text : ByteArray) (n : Int) (spot : Int) (args : List Tr)
def Tr.kind : Tr → Int | .mk k _ _ _ _ => k
def Tr.text : Tr → ByteArray | .mk _ s _ _ _ => s
def Tr.n : Tr → Int | .mk _ _ n _ _ => n
def Tr.spot : Tr → Int | .mk _ _ _ p _ => p
def Tr.args : Tr → List Tr | .mk _ _ _ _ xs => xs
theorem Tr.eta (t : Tr) : t = .mk t.kind t.text t.n t.spot t.args := by cases t; rfl
instance : Inhabited Tr := ⟨.mk 0 ⟨#[]⟩ 0 0 []⟩
mutual
/-- How many parts a tree has. -/
def Tr.parts : Tr → Nat
  | .mk _ _ _ _ xs => partsR xs + 1
def partsR : List Tr → Nat
  | [] => 0
  | t :: r => t.parts + partsR r
end
theorem trParts_eq (t : Tr) : t.parts = partsR t.args + 1 := by cases t; rw [Tr.parts]; rfl
theorem trParts_pos (t : Tr) : 1 ≤ t.parts := by rw [trParts_eq]; omega
theorem partsR_cons (t : Tr) (r : List Tr) : partsR (t :: r) = t.parts + partsR r := by rw [partsR]
theorem partsR_nil : partsR [] = 0 := by rw [partsR]
theorem partsR_append (a b : List Tr) : partsR (a ++ b) = partsR a + partsR b := by
  induction a with
  | nil => rw [List.nil_append, partsR_nil]; omega
  | cons t r ih => rw [List.cons_append, partsR_cons, partsR_cons, ih]; omega
theorem partsR_get (l : List Tr) {j : Nat} (h : j < l.length) : l[j].parts ≤ partsR l := by
  induction l generalizing j with
  | nil => simp at h
  | cons t r ih =>
    rw [partsR_cons]
    cases j with
    | zero => simp
    | succ j => have := ih (j := j) (by simpa using h); simp; omega
theorem partsR_length (l : List Tr) : l.length ≤ partsR l := by
  induction l with
  | nil => simp
  | cons t r ih => rw [partsR_cons, List.length_cons]; have := trParts_pos t; omega

/-- A tree's numbers are int's, and its text is no longer than a text can be. -/
structure FitR (k : Int) (s : ByteArray) (n p : Int) : Prop where
  klo : -9223372036854775808 ≤ k
  khi : k ≤ 9223372036854775807
  nlo : -9223372036854775808 ≤ n
  nhi : n ≤ 9223372036854775807
  plo : -9223372036854775808 ≤ p
  phi : p ≤ 9223372036854775807
  len : s.size ≤ 9223372036854775807
mutual
/-- A tree lies at an address: five cells, and its arguments where the fifth says. -/
def TrAt (w : World) : Tr → Nat → Nat → Prop
  | .mk k s n p xs, b, o => FitR k s n p ∧ w.cell? ⟨b, o, none⟩ = some (.int .i64 k) ∧ w.cell? ⟨b, o + 1, none⟩ = some (.string s) ∧ w.cell? ⟨b, o + 2, none⟩ = some (.int .i64 n) ∧ w.cell? ⟨b, o + 3, none⟩ = some (.int .i64 p) ∧
    ∃ a c, w.cell? ⟨b, o + 4, none⟩ = some (.slice a xs.length c) ∧ (xs.length ≤ 9223372036854775807 ∧ xs.length ≤ c) ∧ (xs = [] ∨ ∃ b' o', a = some ⟨b', o', none⟩ ∧ b' < w.heap.size ∧ RowRAt w xs b' o')
def RowRAt (w : World) : List Tr → Nat → Nat → Prop
  | [], _, _ => True
  | t :: r, b, o => TrAt w t b o ∧ RowRAt w r b (o + 5)
end
/-- What a slice's address says of its elements. -/
def ArgR (w : World) (a : Option Addr) (c : Nat) (xs : List Tr) : Prop := (xs.length ≤ 9223372036854775807 ∧ xs.length ≤ c) ∧ (xs = [] ∨ ∃ b o, a = some ⟨b, o, none⟩ ∧ b < w.heap.size ∧ RowRAt w xs b o)
theorem rowRAt_get {w : World} : ∀ {xs : List Tr} {b o : Nat}, RowRAt w xs b o → ∀ {j : Nat} (h : j < xs.length), TrAt w xs[j] b (o + j * 5)
  | [], _, _, _, _, h => by simp at h
  | t :: r, b, o, hr, 0, _ => by rw [RowRAt] at hr; simpa using hr.1
  | t :: r, b, o, hr, j + 1, h => by
    rw [RowRAt] at hr
    have := rowRAt_get hr.2 (j := j) (by simpa using h)
    rw [show o + (j + 1) * 5 = o + 5 + j * 5 from by omega]
    exact this
theorem rowRAt_of {w : World} : ∀ {xs : List Tr} {b o : Nat}, (∀ {j : Nat} (h : j < xs.length), TrAt w xs[j] b (o + j * 5)) → RowRAt w xs b o
  | [], _, _, _ => by rw [RowRAt]; trivial
  | t :: r, b, o, h => by
    rw [RowRAt]
    refine ⟨(show TrAt w t b (o + 0 * 5) from h (j := 0) (by simp)), rowRAt_of fun {j} hj => ?_⟩
    have := h (j := j + 1) (by simpa using hj)
    rw [show o + (j + 1) * 5 = o + 5 + j * 5 from by omega] at this
    exact this
/-- A tree as a value: the tree, the address of its arguments, and their capacity. -/
structure Rv where
  t : Tr
  a : Option Addr
  c : Nat
def Rv.val (v : Rv) : Value := .agg #[.int .i64 v.t.kind, .string v.t.text, .int .i64 v.t.n, .int .i64 v.t.spot, .slice v.a v.t.args.length v.c]
def Rv.cells (v : Rv) : List Value := [.int .i64 v.t.kind, .string v.t.text, .int .i64 v.t.n, .int .i64 v.t.spot, .slice v.a v.t.args.length v.c]
def Rv.ok (w : World) (v : Rv) : Prop := FitR v.t.kind v.t.text v.t.n v.t.spot ∧ ArgR w v.a v.c v.t.args
/-- The five cells of a value. -/
structure RvAt (w : World) (b o : Nat) (v : Rv) : Prop where
  c0 : w.cell? ⟨b, o, none⟩ = some (.int .i64 v.t.kind)
  c1 : w.cell? ⟨b, o + 1, none⟩ = some (.string v.t.text)
  c2 : w.cell? ⟨b, o + 2, none⟩ = some (.int .i64 v.t.n)
  c3 : w.cell? ⟨b, o + 3, none⟩ = some (.int .i64 v.t.spot)
  c4 : w.cell? ⟨b, o + 4, none⟩ = some (.slice v.a v.t.args.length v.c)
theorem trAt_rv {w : World} {t : Tr} {b o : Nat} (h : TrAt w t b o) : ∃ v : Rv, v.t = t ∧ v.ok w ∧ RvAt w b o v := by
  cases t with
  | mk k s n p xs =>
    rw [TrAt] at h
    obtain ⟨hf, h0, h1, h2, h3, a, c, h4, hl, hr⟩ := h
    exact ⟨⟨.mk k s n p xs, a, c⟩, rfl, ⟨hf, hl, hr⟩, h0, h1, h2, h3, h4⟩
theorem rv_trAt {w : World} {v : Rv} {b o : Nat} (hk : v.ok w) (h : RvAt w b o v) : TrAt w v.t b o := by
  obtain ⟨t, a, c⟩ := v
  cases t with
  | mk k s n p xs =>
    rw [TrAt]
    exact ⟨hk.1, h.c0, h.c1, h.c2, h.c3, a, c, h.c4, hk.2.1, hk.2.2⟩
theorem lt_of_cellR {w : World} {b o : Nat} {x : Value} (h : w.cell? ⟨b, o, none⟩ = some x) : b < w.heap.size := by
  rcases Nat.lt_or_ge b w.heap.size with hlt | hge
  · exact hlt
  · unfold World.cell? at h
    simp [Array.getElem?_eq_none hge] at h
mutual
theorem TrAt.below {w w' : World} (hb : Below w.heap.size w w') : ∀ {t : Tr} {b o : Nat}, TrAt w t b o → TrAt w' t b o
  | .mk k s n p xs, b, o, h => by
    rw [TrAt] at h ⊢
    obtain ⟨hf, h0, h1, h2, h3, a, c, h4, hl, hr⟩ := h
    have hlt := lt_of_cellR h0
    refine ⟨hf, (hb.cell (p := ⟨b, o, none⟩) hlt).trans h0, (hb.cell (p := ⟨b, o + 1, none⟩) hlt).trans h1, (hb.cell (p := ⟨b, o + 2, none⟩) hlt).trans h2, (hb.cell (p := ⟨b, o + 3, none⟩) hlt).trans h3, a, c, (hb.cell (p := ⟨b, o + 4, none⟩) hlt).trans h4, hl, ?_⟩
    rcases hr with hr | ⟨b', o', ha, hb', hr⟩
    · exact .inl hr
    · exact .inr ⟨b', o', ha, Nat.lt_of_lt_of_le hb' hb.size, RowRAt.below hb hr⟩
theorem RowRAt.below {w w' : World} (hb : Below w.heap.size w w') : ∀ {xs : List Tr} {b o : Nat}, RowRAt w xs b o → RowRAt w' xs b o
  | [], _, _, _ => by rw [RowRAt]; trivial
  | t :: r, b, o, h => by
    rw [RowRAt] at h ⊢
    exact ⟨TrAt.below hb h.1, RowRAt.below hb h.2⟩
end
theorem ArgR.below {w w' : World} {a : Option Addr} {c : Nat} {xs : List Tr} (h : ArgR w a c xs) (hb : Below w.heap.size w w') : ArgR w' a c xs := by
  obtain ⟨hl, h⟩ := h
  refine ⟨hl, ?_⟩
  rcases h with h | ⟨b, o, ha, hlt, hr⟩
  · exact .inl h
  · exact .inr ⟨b, o, ha, Nat.lt_of_lt_of_le hlt hb.size, hr.below hb⟩
theorem Rv.ok.below {w w' : World} {v : Rv} (h : v.ok w) (hb : Below w.heap.size w w') : v.ok w' := ⟨h.1, ArgR.below h.2 hb⟩
/-- A slice value that reads as a row of trees. -/
def Trs (w : World) (v : Value) (ts : List Tr) : Prop := ∃ a c, v = .slice a ts.length c ∧ ArgR w a c ts
theorem Trs.below {w w' : World} {v : Value} {ts : List Tr} (h : Trs w v ts) (hb : Below w.heap.size w w') : Trs w' v ts := by
  obtain ⟨a, c, hv, h⟩ := h
  exact ⟨a, c, hv, h.below hb⟩
theorem Trs.none_ (w : World) (a : Option Addr) (c : Nat) : Trs w (.slice a 0 c) [] := ⟨a, c, rfl, by simp, .inl rfl⟩
/-- The elements of a row, one by one. -/
theorem Trs.open_ {w : World} {v : Value} {ts : List Tr} (h : Trs w v ts) : ∃ a c, v = .slice a ts.length c ∧ ts.length ≤ 9223372036854775807 ∧ ts.length ≤ c ∧ (ts = [] ∨ ∃ b o, a = some ⟨b, o, none⟩ ∧ b < w.heap.size ∧ ∀ (j : Nat) t, ts[j]? = some t → ∃ y : Rv, y.t = t ∧ y.ok w ∧ RvAt w b (o + j * 5) y) := by
  obtain ⟨a, c, rfl, ⟨hl, hc⟩, h⟩ := h
  refine ⟨a, c, rfl, hl, hc, ?_⟩
  rcases h with h | ⟨b, o, ha, hlt, hr⟩
  · exact .inl h
  · refine .inr ⟨b, o, ha, hlt, fun j t hj => ?_⟩
    obtain ⟨hjl, rfl⟩ := List.getElem?_eq_some_iff.1 hj
    exact trAt_rv (rowRAt_get hr hjl)
theorem RvAt.below {w w' : World} {b o : Nat} {v : Rv} (h : RvAt w b o v) (hb : Below w.heap.size w w') : RvAt w' b o v :=
  have hlt := lt_of_cellR h.c0
  ⟨(hb.cell (p := ⟨b, o, none⟩) hlt).trans h.c0, (hb.cell (p := ⟨b, o + 1, none⟩) hlt).trans h.c1, (hb.cell (p := ⟨b, o + 2, none⟩) hlt).trans h.c2, (hb.cell (p := ⟨b, o + 3, none⟩) hlt).trans h.c3, (hb.cell (p := ⟨b, o + 4, none⟩) hlt).trans h.c4⟩
def rowRv (vs : List Rv) : List Value := vs.flatMap Rv.cells
theorem rowRv_length (vs : List Rv) : (rowRv vs).length = vs.length * 5 := by
  unfold rowRv
  induction vs with
  | nil => rfl
  | cons v r ih => rw [List.flatMap_cons, List.length_append, ih, List.length_cons]; simp [Rv.cells]; omega
theorem rowRv_append (a b : List Rv) : rowRv (a ++ b) = rowRv a ++ rowRv b := by unfold rowRv; rw [List.flatMap_append]
theorem rowRv_one (v : Rv) : rowRv [v] = v.cells := by unfold rowRv; simp
theorem rowRv_get : ∀ (vs : List Rv) (j : Nat) (h : j < vs.length) (i : Nat), i < 5 → (rowRv vs)[j * 5 + i]? = vs[j].cells[i]?
  | [], _, h, _, _ => by simp at h
  | v :: r, 0, _, i, hi => by
    unfold rowRv
    rw [List.flatMap_cons, List.getElem?_append_left (by simp [Rv.cells]; omega)]; simp
  | v :: r, j + 1, h, i, hi => by
    have := rowRv_get r j (by simpa using h) i hi
    unfold rowRv at this ⊢
    rw [List.flatMap_cons, List.getElem?_append_right (by simp [Rv.cells]; omega)]
    rw [show (j + 1) * 5 + i - v.cells.length = j * 5 + i from by simp [Rv.cells]; omega, this]
    simp
theorem rowRv_one' (vs : List Rv) : ∀ u ∈ rowRv vs, u.oneCell' = true := by
  intro u hu
  unfold rowRv at hu
  obtain ⟨v, _, hv⟩ := List.mem_flatMap.1 hu
  simp only [Rv.cells, List.mem_cons, List.not_mem_nil, or_false] at hv
  rcases hv with rfl | rfl | rfl | rfl | rfl <;> rfl
theorem rv_one (v : Rv) : ∀ u ∈ v.cells, u.oneCell' = true := by rw [← rowRv_one]; exact rowRv_one' [v]
/-- A row of trees that the call itself has made: their arguments lie in the world w0. -/
def OwnRv (w0 w : World) (e : TypeId) (base : Nat) (v : Value) (ts : List Tr) : Prop :=
  ∃ vs : List Rv, vs.map Rv.t = ts ∧ (∀ x ∈ vs, x.ok w0) ∧ w.ownsRow base e 5 v ts.length (rowRv vs)
theorem OwnRv.trs {w0 w : World} {e : TypeId} {base : Nat} {v : Value} {ts : List Tr} (h : OwnRv w0 w e base v ts) (hb : ∀ x : Rv, x.ok w0 → x.ok w) (hl : ts.length ≤ 9223372036854775807) : Trs w v ts := by
  obtain ⟨vs, rfl, hok, hn, h⟩ := h
  rcases h with ⟨rfl, h0⟩ | ⟨g, cap, cur, rfl, _, hg, hcap, hmax, hsz, htake⟩
  · have : vs = [] := by simpa using h0
    subst this
    exact Trs.none_ _ _ _
  · refine ⟨_, cap, rfl, ⟨hl, hcap⟩, .inr ⟨g, 0, rfl, (Array.getElem?_eq_some_iff.1 hg).1, rowRAt_of fun {j} hj => ?_⟩⟩
    have hjv : j < vs.length := by simpa using hj
    rw [List.getElem_map]
    have cell : ∀ i, i < 5 → w.cell? ⟨g, 0 + j * 5 + i, none⟩ = vs[j].cells[i]? := by
      intro i hi
      rw [cell_of_row w g (0 + j * 5 + i) cur _ (0, 0) hg, ← rowRv_get vs j hjv i hi, ← htake, List.getElem?_take, if_pos (by simp; omega), Nat.zero_add]
      simp
    exact rv_trAt (hb _ (hok _ (List.getElem_mem hjv))) ⟨cell 0 (by omega), cell 1 (by omega), cell 2 (by omega), cell 3 (by omega), cell 4 (by omega)⟩
theorem ownRv_nil (w0 w : World) (e : TypeId) (base : Nat) : OwnRv w0 w e base (.slice none 0 0) [] := ⟨[], rfl, (fun x hx => by cases hx), World.ownsRow_nil _ _ _ _⟩
end Go.Proofs.YtmpaljmkfnpcpaaDoor
