/-
  An argument that is a slice of tokens reads as a row of tokens.
-/
import Derived.Test.YtljkaaliagppdaaDoorToks
import Derived.Deep.Slices
import Derived.ChangeSame
import Derived.Carry
namespace Go.Proofs.YtljkaaliagppdaaDoor
open Go.ChangeShapes Go.WideShapes Go.RowKit Go.Deep

theorem laidOut : laidOutB Tryd.prog = true := by kernel_rfl
theorem cellsTok : Tryd.prog.cellsOf 38 = 4 := by kernel_rfl
theorem cellsInt : Tryd.prog.cellsOf 3 = 1 := by kernel_rfl
theorem cellsString : Tryd.prog.cellsOf 9 = 1 := by kernel_rfl
instance : Inhabited Tok := ⟨⟨0, ⟨#[]⟩, 0, 0⟩⟩

/-- A token's four cells lie at an address. -/
def w4 (w : World) (a : Addr) (t : Tok) : Prop := w.cell? (a.add 0) = some (.int .i64 t.kind) ∧ w.cell? (a.add 1) = some (.string t.text) ∧ w.cell? (a.add 2) = some (.int .i64 t.n) ∧ w.cell? (a.add 3) = some (.int .i64 t.place)

section
variable {H : Type} {enc : TypeId × Value → H} {w : World} {base : Nat} {spare : Nat → Bool} {held : Bool}

set_option maxRecDepth 100000 in
theorem read_tok {n : Nat} {a : Addr} {cs : List Value} {x : DataW H × List MemPlace} (hc : w.cells? base a 4 = some cs) (h : DataW.trod enc Tryd.prog w base spare held n 38 cs = some x) :
    ∃ t : Tok, w4 w a t := by
  obtain ⟨_, hl, hat⟩ := World.cells?_some hc
  obtain ⟨xs, m, _, _, _, hxl, hf⟩ := DataW.trod_struct Tryd.underlying38 h
  match cs, hl with
  | [c0, c1, c2, c3], _ =>
    match xs, hxl with
    | [x0, x1, x2, x3], _ =>
      have f0 : DataW.trod enc Tryd.prog w base spare held m 3 (([c0, c1, c2, c3].drop 0).take (Tryd.prog.cellsOf 3)) = some x0 := hf 0 _ rfl
      rw [cellsInt] at f0
      have f1 : DataW.trod enc Tryd.prog w base spare held m 9 (([c0, c1, c2, c3].drop 1).take (Tryd.prog.cellsOf 9)) = some x1 := hf 1 _ rfl
      rw [cellsString] at f1
      have f2 : DataW.trod enc Tryd.prog w base spare held m 3 (([c0, c1, c2, c3].drop 2).take (Tryd.prog.cellsOf 3)) = some x2 := hf 2 _ rfl
      rw [cellsInt] at f2
      have f3 : DataW.trod enc Tryd.prog w base spare held m 3 (([c0, c1, c2, c3].drop 3).take (Tryd.prog.cellsOf 3)) = some x3 := hf 3 _ rfl
      rw [cellsInt] at f3
      obtain ⟨k, e0, _⟩ := DataW.trod_int Tryd.underlying3 f0
      obtain ⟨s, e1, _⟩ := DataW.trod_string Tryd.underlying9 f1
      obtain ⟨i, e2, _⟩ := DataW.trod_int Tryd.underlying3 f2
      obtain ⟨p, e3, _⟩ := DataW.trod_int Tryd.underlying3 f3
      have e0 : c0 = .int .i64 k := by simpa using e0
      have e1 : c1 = .string s := by simpa using e1
      have e2 : c2 = .int .i64 i := by simpa using e2
      have e3 : c3 = .int .i64 p := by simpa using e3
      refine ⟨⟨k, s, i, p⟩, ?_, ?_, ?_, ?_⟩
      · rw [hat 0 (by omega), e0]; rfl
      · rw [hat 1 (by omega), e1]; rfl
      · rw [hat 2 (by omega), e2]; rfl
      · rw [hat 3 (by omega), e3]; rfl
end

set_option maxRecDepth 100000 in
theorem open_toks {H : Type} {enc : TypeId × Value → H} {W : World} {r : Reach} {b0 : Nat} {v : Value} {d : DataW H} {p : List MemPlace} (hv : Value.okWide Tryd.prog W r b0 23 v)
    (h : DataW.Trod enc Tryd.prog W 0 (fun _ => true) true 23 v d p) (hlt : ∀ x ∈ p, x.block < W.heap.size) : ∃ ts, Toks W v ts := by
  obtain ⟨a0, len, cap, rfl⟩ := okWide_slice Tryd.underlying23 hv
  obtain ⟨fuel, hf⟩ := h
  rcases open_slice Tryd.underlying23 hf with ⟨hcs, _⟩ | ⟨a, len', cap', m, n, D, Pl, hcs, _, hl, hm, hmm, hx, hi⟩
  · simp [Value.cells] at hcs
    obtain ⟨rfl, rfl, rfl⟩ := hcs
    exact ⟨[], Toks.none_ _ _ _⟩
  · simp [Value.cells] at hcs
    obtain ⟨rfl, rfl, rfl⟩ := hcs
    simp only [if_true] at hmm
    simp only [Prod.mk.injEq] at hx
    have each : ∀ i, i < len → ∃ t : Tok, w4 W (a.add (i * 4)) t := fun i hil => by
      obtain ⟨cs', hc, ht⟩ := hi i (by omega)
      rw [cellsTok] at hc
      exact read_tok hc ht
    obtain ⟨T, hT⟩ := choose_lt each
    refine ⟨(List.range len).map T, a, cap, by simp, by simp; unfold maxLen at hm; omega, ?_⟩
    by_cases h0 : len = 0
    · left; simp [h0]
    · right
      obtain ⟨b, off, spot⟩ := a
      have hspot : spot = none := by
        have := World.cell?_spot (hT 0 (by omega)).1
        simpa [Addr.add] using this
      subst hspot
      have hbW : b < W.heap.size := by
        refine hlt (.cell b off) ?_
        rw [hx.2, cellsTok]
        exact List.mem_append_left _ (MemPlace.mem_row.2 ⟨0, by omega, by simp⟩)
      refine ⟨b, off, rfl, hbW, fun j hj => ?_⟩
      have hjl : j < len := by simpa using hj
      obtain ⟨c0, c1, c2, c3⟩ := hT j hjl
      rw [List.getElem_map, List.getElem_range]
      rw [add_plain, add_plain] at c0 c1 c2 c3
      exact ⟨by simpa using c0, c1, c2, c3⟩
end Go.Proofs.YtljkaaliagppdaaDoor
