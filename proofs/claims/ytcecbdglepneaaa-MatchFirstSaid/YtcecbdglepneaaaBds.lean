/-
  Rows of binds in memory: each a name and a term. No function of the program.
-/
import Derived.Test.YtcecbdglepneaaaAllTm
import Derived.Test.YtcecbdglepneaaaFresh
namespace Go.Proofs.Ytcecbdglepneaaa
open Go.RowKit

/-- A bind: its name, and what it has. -/
abbrev Bn := ByteArray × Tm
/-- A bind lies at an address: five cells. -/
def BdAt (w : World) (x : Bn) (b o : Nat) : Prop := x.1.size ≤ 9223372036854775807 ∧ w.cell? ⟨b, o, none⟩ = some (.string x.1) ∧ TmAt w x.2 b (o + 1)
/-- A slice value that reads as a row of binds. -/
def Bds (w : World) (v : Value) (bs : List Bn) : Prop := ∃ a c, v = .slice a bs.length c ∧ bs.length ≤ 9223372036854775807 ∧ (bs = [] ∨ ∃ b o, a = some ⟨b, o, none⟩ ∧ b < w.heap.size ∧ ∀ (j : Nat) x, bs[j]? = some x → BdAt w x b (o + j * 5))
theorem BdAt.below {w w' : World} {x : Bn} {b o : Nat} (h : BdAt w x b o) (hb : Below w.heap.size w w') : BdAt w' x b o :=
  ⟨h.1, (hb.cell (p := ⟨b, o, none⟩) (lt_of_cell h.2.1)).trans h.2.1, h.2.2.below hb⟩
theorem Bds.below {w w' : World} {v : Value} {bs : List Bn} (h : Bds w v bs) (hb : Below w.heap.size w w') : Bds w' v bs := by
  obtain ⟨a, c, hv, hl, h⟩ := h
  refine ⟨a, c, hv, hl, ?_⟩
  rcases h with h | ⟨b, o, ha, hlt, h⟩
  · exact .inl h
  · exact .inr ⟨b, o, ha, Nat.lt_of_lt_of_le hlt hb.size, fun j x hj => (h j x hj).below hb⟩
theorem Bds.none_ (w : World) (a : Option Addr) (c : Nat) : Bds w (.slice a 0 c) [] := ⟨a, c, rfl, by simp, .inl rfl⟩
/-- A bind as values. -/
structure Bv where
  s : ByteArray
  v : Tv
def Bv.cells (x : Bv) : List Value := [.string x.s, .int .i64 x.v.t.kind, .string x.v.t.name, .int .i64 x.v.t.n, .slice x.v.a x.v.t.args.length x.v.c]
def Bv.val (x : Bv) : Value := .agg #[.string x.s, .int .i64 x.v.t.kind, .string x.v.t.name, .int .i64 x.v.t.n, .slice x.v.a x.v.t.args.length x.v.c]
def Bv.bn (x : Bv) : Bn := (x.s, x.v.t)
structure BvAt (w : World) (b o : Nat) (x : Bv) : Prop where
  c0 : w.cell? ⟨b, o, none⟩ = some (.string x.s)
  c1 : w.cell? ⟨b, o + 1, none⟩ = some (.int .i64 x.v.t.kind)
  c2 : w.cell? ⟨b, o + 2, none⟩ = some (.string x.v.t.name)
  c3 : w.cell? ⟨b, o + 3, none⟩ = some (.int .i64 x.v.t.n)
  c4 : w.cell? ⟨b, o + 4, none⟩ = some (.slice x.v.a x.v.t.args.length x.v.c)
theorem bdAt_bv {w : World} {x : Bn} {b o : Nat} (h : BdAt w x b o) : ∃ y : Bv, y.bn = x ∧ y.v.ok w ∧ BvAt w b o y := by
  obtain ⟨v, hv, hk, h0, h1, h2, h3⟩ := tmAt_tv h.2.2
  exact ⟨⟨x.1, v⟩, by unfold Bv.bn; rw [hv], hk, h.2.1, h0, h1, h2, h3⟩
theorem bv_bdAt {w : World} {y : Bv} {b o : Nat} (hs : y.s.size ≤ 9223372036854775807) (hk : y.v.ok w) (h : BvAt w b o y) : BdAt w y.bn b o :=
  ⟨hs, h.c0, tv_tmAt hk ⟨h.c1, h.c2, h.c3, h.c4⟩⟩
theorem BvAt.below {w w' : World} {b o : Nat} {x : Bv} (h : BvAt w b o x) (hb : Below w.heap.size w w') : BvAt w' b o x :=
  have hlt := lt_of_cell h.c0
  ⟨(hb.cell (p := ⟨b, o, none⟩) hlt).trans h.c0, (hb.cell (p := ⟨b, o + 1, none⟩) hlt).trans h.c1, (hb.cell (p := ⟨b, o + 2, none⟩) hlt).trans h.c2, (hb.cell (p := ⟨b, o + 3, none⟩) hlt).trans h.c3, (hb.cell (p := ⟨b, o + 4, none⟩) hlt).trans h.c4⟩
def rowBv (ss : List Bv) : List Value := ss.flatMap Bv.cells
theorem rowBv_length (vs : List Bv) : (rowBv vs).length = vs.length * 5 := by
  unfold rowBv
  induction vs with
  | nil => rfl
  | cons v r ih => rw [List.flatMap_cons, List.length_append, ih, List.length_cons]; simp [Bv.cells]; omega
theorem rowBv_append (a b : List Bv) : rowBv (a ++ b) = rowBv a ++ rowBv b := by unfold rowBv; rw [List.flatMap_append]
theorem rowBv_one (v : Bv) : rowBv [v] = v.cells := by unfold rowBv; simp
theorem rowBv_get : ∀ (vs : List Bv) (j : Nat) (h : j < vs.length) (i : Nat), i < 5 → (rowBv vs)[j * 5 + i]? = vs[j].cells[i]?
  | [], _, h, _, _ => by simp at h
  | v :: r, 0, _, i, hi => by
    unfold rowBv
    rw [List.flatMap_cons, List.getElem?_append_left (by simp [Bv.cells]; omega)]; simp
  | v :: r, j + 1, h, i, hi => by
    have := rowBv_get r j (by simpa using h) i hi
    unfold rowBv at this ⊢
    rw [List.flatMap_cons, List.getElem?_append_right (by simp [Bv.cells]; omega)]
    rw [show (j + 1) * 5 + i - v.cells.length = j * 5 + i from by simp [Bv.cells]; omega, this]
    simp
theorem rowBv_one' (vs : List Bv) : ∀ u ∈ rowBv vs, u.oneCell' = true := by
  intro u hu
  unfold rowBv at hu
  obtain ⟨v, _, hv⟩ := List.mem_flatMap.1 hu
  simp only [Bv.cells, List.mem_cons, List.not_mem_nil, or_false] at hv
  rcases hv with rfl | rfl | rfl | rfl | rfl <;> rfl
/-- A row of binds that the call itself has made. -/
def OwnBv (w0 w : World) (base : Nat) (v : Value) (bs : List Bn) : Prop :=
  ∃ vs : List Bv, vs.map Bv.bn = bs ∧ (∀ x ∈ vs, x.v.ok w0 ∧ x.s.size ≤ 9223372036854775807) ∧ w.ownsRow base 46 5 v bs.length (rowBv vs)
theorem OwnBv.bds {w0 w : World} {base : Nat} {v : Value} {bs : List Bn} (h : OwnBv w0 w base v bs) (hb : Below w0.heap.size w0 w) (hl : bs.length ≤ 9223372036854775807) : Bds w v bs := by
  obtain ⟨vs, rfl, hok, hn, h⟩ := h
  rcases h with ⟨rfl, h0⟩ | ⟨g, cap, cur, rfl, _, hg, hcap, hmax, hsz, htake⟩
  · have : vs = [] := by simpa using h0
    subst this
    exact Bds.none_ _ _ _
  · refine ⟨_, cap, rfl, hl, .inr ⟨g, 0, rfl, (Array.getElem?_eq_some_iff.1 hg).1, fun j x hj => ?_⟩⟩
    rw [List.getElem?_map] at hj
    have hjv : j < vs.length := by
      rcases Nat.lt_or_ge j vs.length with h | h
      · exact h
      · rw [List.getElem?_eq_none h] at hj; cases hj
    rw [List.getElem?_eq_getElem hjv] at hj
    injection hj with hj
    subst hj
    have cell : ∀ i, i < 5 → w.cell? ⟨g, 0 + j * 5 + i, none⟩ = vs[j].cells[i]? := by
      intro i hi
      rw [cell_of_row w g (0 + j * 5 + i) cur _ (0, 0) hg, ← rowBv_get vs j hjv i hi, ← htake, List.getElem?_take, if_pos (by simp; omega), Nat.zero_add]
      simp
    obtain ⟨hk, hs⟩ := hok _ (List.getElem_mem hjv)
    exact bv_bdAt hs (hk.below hb) ⟨cell 0 (by omega), cell 1 (by omega), cell 2 (by omega), cell 3 (by omega), cell 4 (by omega)⟩
/-- What the first bind of a name has. -/
def getB (bs : List Bn) (s : ByteArray) : Option Tm := (bs.find? fun x => x.1.toList == s.toList).map Prod.snd
theorem getB_nil (s : ByteArray) : getB [] s = none := rfl
theorem getB_take {bs : List Bn} {s : ByteArray} {k : Nat} {x : Bn} (h : getB (bs.take k) s = none) (hk : bs[k]? = some x) : getB (bs.take (k + 1)) s = if (x.1.toList == s.toList) = true then some x.2 else none := by
  obtain ⟨hl, rfl⟩ := List.getElem?_eq_some_iff.1 hk
  unfold getB at h ⊢
  rw [Option.map_eq_none_iff] at h
  rw [List.take_succ_eq_append_getElem hl, List.find?_append, h, List.find?_cons]
  cases bs[k].1.toList == s.toList <;> rfl
theorem getB_some {bs : List Bn} {s : ByteArray} {k : Nat} {t : Tm} (h : getB (bs.take k) s = some t) : getB bs s = some t := by
  unfold getB at h ⊢
  obtain ⟨x, hx, rfl⟩ := Option.map_eq_some_iff.1 h
  have e : bs.find? (fun x => x.1.toList == s.toList) = some x := by
    rw [← List.take_append_drop k bs, List.find?_append, hx]; rfl
  rw [e]; rfl
end Go.Proofs.Ytcecbdglepneaaa
