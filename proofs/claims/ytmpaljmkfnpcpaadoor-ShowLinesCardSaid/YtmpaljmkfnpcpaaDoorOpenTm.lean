/-
  An argument that is a term reads as a term; one that is a slice of terms, as a row of terms.
-/
import Derived.Test.YtmpaljmkfnpcpaaDoorTm
import Derived.Test.YtmpaljmkfnpcpaaDoorLaidOut
import Derived.Deep.Slices
import Derived.ChangeSame
import Derived.Carry
import Derived.OpenShut
namespace Go.Proofs.YtmpaljmkfnpcpaaDoor
open Go.ChangeShapes Go.WideShapes Go.RowKit Go.Deep

theorem cellsTerm : Tryd.prog.cellsOf 26 = 4 := by kernel_rfl
theorem cellsInt : Tryd.prog.cellsOf 3 = 1 := by kernel_rfl
theorem cellsString : Tryd.prog.cellsOf 9 = 1 := by kernel_rfl
theorem cellsTerms : Tryd.prog.cellsOf 24 = 1 := by kernel_rfl
instance : Inhabited Tv := ⟨⟨default, none, 0⟩⟩

section
variable {H : Type} {enc : TypeId × Value → H} {w : World} {base : Nat} {spare : Nat → Bool} {held : Bool}

theorem tvAt_cells {a : Addr} {v : Tv} (h : w.cells? base a 4 = some v.cells) : w.cell? (a.add 0) = some (.int .i64 v.t.kind) ∧ w.cell? (a.add 1) = some (.string v.t.name) ∧ w.cell? (a.add 2) = some (.int .i64 v.t.n) ∧ w.cell? (a.add 3) = some (.slice v.a v.t.args.length v.c) := by
  obtain ⟨_, _, hat⟩ := World.cells?_some h
  exact ⟨by rw [hat 0 (by omega)]; rfl, by rw [hat 1 (by omega)]; rfl, by rw [hat 2 (by omega)]; rfl, by rw [hat 3 (by omega)]; rfl⟩

/-- A slice of terms, its elements read one by one. -/
theorem args_of {fuel : Nat} (ih : ∀ n, n < fuel → ∀ (cs : List Value) (x : DataW H × List MemPlace), DataW.trod enc Tryd.prog w base spare held n 26 cs = some x → ∃ v : Tv, cs = v.cells ∧ v.ok w)
    {u : Value} {x : DataW H × List MemPlace} (h : DataW.trod enc Tryd.prog w base spare held fuel 24 [u] = some x) : ∃ (a : Option Addr) (c : Nat) (ts : List Tm), u = .slice a ts.length c ∧ Args w a c ts := by
  rcases DataW.trod_slice Tryd.underlying24 h with ⟨hcs, _⟩ | ⟨a, len, cap, elems, rest, n, rfl, hcs, _, _, hl, hm, hlen, hel, _, _⟩
  · simp at hcs
    subst hcs
    exact ⟨none, 0, [], rfl, by simp, .inl rfl⟩
  · simp at hcs
    subst hcs
    have each : ∀ i, i < len → ∃ v : Tv, v.ok w ∧ w.cells? base (a.add (i * 4)) 4 = some v.cells := fun i hi => by
      have h1 := hel i hi
      rw [List.getElem?_eq_getElem (by omega), cellsTerm] at h1
      obtain ⟨cs', h2, h3⟩ := Option.bind_eq_some_iff.1 h1
      obtain ⟨v, rfl, hv⟩ := ih n (by omega) cs' _ h3
      exact ⟨v, hv, h2⟩
    obtain ⟨T, hT⟩ := choose_lt each
    refine ⟨some a, cap, (List.range len).map fun i => (T i).t, by simp, ⟨by simp; unfold maxLen at hm; omega, by simpa using hl⟩, ?_⟩
    by_cases h0 : len = 0
    · left; simp [h0]
    · right
      obtain ⟨b, off, spot⟩ := a
      have hspot : spot = none := by
        have := World.cell?_spot (tvAt_cells (hT 0 (by omega)).2).1
        simpa [Addr.add] using this
      subst hspot
      have cells : ∀ i, i < len → TvAt w b (off + i * 4) (T i) := fun i hi => by
        obtain ⟨c0, c1, c2, c3⟩ := tvAt_cells (hT i hi).2
        rw [add_plain, add_plain] at c0 c1 c2 c3
        exact ⟨by simpa using c0, c1, c2, c3⟩
      refine ⟨b, off, rfl, lt_of_cell (cells 0 (by omega)).c0, rowAt_of fun {j} hj => ?_⟩
      have hjl : j < len := by simpa using hj
      rw [List.getElem_map, List.getElem_range]
      exact tv_tmAt (hT j hjl).1 (cells j hjl)

set_option maxRecDepth 100000 in
theorem tv_of_trod : ∀ (fuel : Nat) (cs : List Value) (x : DataW H × List MemPlace), DataW.trod enc Tryd.prog w base spare held fuel 26 cs = some x → ∃ v : Tv, cs = v.cells ∧ v.ok w := by
  intro fuel
  induction fuel using Nat.strongRecOn with
  | ind fuel ih =>
    intro cs x h
    have hl : cs.length = 4 := by
      obtain ⟨xs, m, _, _, hl, _⟩ := DataW.trod_struct Tryd.underlying26 h
      rw [hl, cellsTerm]
    obtain ⟨xs, m, hm, _, _, hxl, hf⟩ := DataW.trod_struct Tryd.underlying26 h
    match cs, hl with
    | [c0, c1, c2, c3], _ =>
      match xs, hxl with
      | [x0, x1, x2, x3], _ =>
        have f0 : DataW.trod enc Tryd.prog w base spare held m 3 (([c0, c1, c2, c3].drop 0).take (Tryd.prog.cellsOf 3)) = some x0 := hf 0 _ rfl
        have f1 : DataW.trod enc Tryd.prog w base spare held m 9 (([c0, c1, c2, c3].drop 1).take (Tryd.prog.cellsOf 9)) = some x1 := hf 1 _ rfl
        have f2 : DataW.trod enc Tryd.prog w base spare held m 3 (([c0, c1, c2, c3].drop 2).take (Tryd.prog.cellsOf 3)) = some x2 := hf 2 _ rfl
        have f3 : DataW.trod enc Tryd.prog w base spare held m 24 (([c0, c1, c2, c3].drop 3).take (Tryd.prog.cellsOf 24)) = some x3 := hf 3 _ rfl
        rw [cellsInt] at f0 f2
        rw [cellsString] at f1
        rw [cellsTerms] at f3
        obtain ⟨k, e0, _, wk⟩ := DataW.trod_int Tryd.underlying3 f0
        obtain ⟨s, e1, _, ws⟩ := DataW.trod_string Tryd.underlying9 f1
        obtain ⟨n, e2, _, wn⟩ := DataW.trod_int Tryd.underlying3 f2
        have f3' : DataW.trod enc Tryd.prog w base spare held m 24 [c3] = some x3 := f3
        obtain ⟨a, c, ts, e3, ha⟩ := args_of (fun q hq => ih q (by omega)) f3'
        obtain rfl : c0 = .int .i64 k := by simpa using e0
        obtain rfl : c1 = .string s := by simpa using e1
        obtain rfl : c2 = .int .i64 n := by simpa using e2
        have bk := bounds_i64 wk
        have bn := bounds_i64 wn
        subst e3
        exact ⟨⟨.mk k s n ts, a, c⟩, rfl, ⟨bk.1, bk.2, bn.1, bn.2, by unfold maxLen at ws; exact ws⟩, ha⟩
end

set_option maxRecDepth 100000 in
theorem open_term {H : Type} {enc : TypeId × Value → H} {W : World} {r : Reach} {b0 : Nat} {v : Value} {d : DataW H} {p : List MemPlace} (hv : Value.okWide Tryd.prog W r b0 26 v)
    (h : DataW.Trod enc Tryd.prog W 0 (fun _ => true) true 26 v d p) (_hlt : ∀ x ∈ p, x.block < W.heap.size) : ∃ t : Tv, v = t.val ∧ t.ok W := by
  obtain ⟨cs, rfl, _⟩ := okWide_struct Tryd.underlying26 hv
  obtain ⟨fuel, hf⟩ := h
  obtain ⟨t, ht, hk⟩ := tv_of_trod fuel _ _ hf
  refine ⟨t, ?_, hk⟩
  have : cs.toList = t.cells := by simpa [Value.cells] using ht
  unfold Tv.val
  congr 1
  apply Array.ext'
  exact this
set_option maxRecDepth 100000 in
theorem open_terms {H : Type} {enc : TypeId × Value → H} {W : World} {r : Reach} {b0 : Nat} {v : Value} {d : DataW H} {p : List MemPlace} (hv : Value.okWide Tryd.prog W r b0 24 v)
    (h : DataW.Trod enc Tryd.prog W 0 (fun _ => true) true 24 v d p) (_hlt : ∀ x ∈ p, x.block < W.heap.size) : ∃ ts, Tms W v ts := by
  obtain ⟨a0, len, cap, rfl⟩ := okWide_slice Tryd.underlying24 hv
  obtain ⟨fuel, hf⟩ := h
  have hf : DataW.trod enc Tryd.prog W 0 (fun _ => true) true fuel 24 [.slice a0 len cap] = some (d, p) := by simpa [Value.cells] using hf
  obtain ⟨a, c, ts, e, ha⟩ := args_of (fun n _ => tv_of_trod n) hf
  exact ⟨ts, a, c, e, ha⟩
end Go.Proofs.YtmpaljmkfnpcpaaDoor
