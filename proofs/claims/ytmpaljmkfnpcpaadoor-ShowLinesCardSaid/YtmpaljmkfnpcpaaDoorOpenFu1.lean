/-
  An argument that is a function symbol reads as such.
-/
import Derived.Test.YtmpaljmkfnpcpaaDoorOpenTm
import Derived.Test.YtmpaljmkfnpcpaaDoorFus
namespace Go.Proofs.YtmpaljmkfnpcpaaDoor
open Go.ChangeShapes Go.WideShapes Go.RowKit Go.Deep

theorem cellsFun : Tryd.prog.cellsOf 23 = 2 := by kernel_rfl
def fnCells (f : Fn) : List Value := [.string f.1, .int .i64 f.2]
instance inhabFnOpen : Inhabited Fn := ⟨(ByteArray.empty, 0)⟩

section
variable {H : Type} {enc : TypeId × Value → H} {w : World}

theorem fnAt_cells {a : Addr} {f : Fn} {base : Nat} (h : w.cells? base a 2 = some (fnCells f)) : w.cell? (a.add 0) = some (.string f.1) ∧ w.cell? (a.add 1) = some (.int .i64 f.2) := by
  obtain ⟨_, _, hat⟩ := World.cells?_some h
  exact ⟨by rw [hat 0 (by omega)]; rfl, by rw [hat 1 (by omega)]; rfl⟩

set_option maxRecDepth 100000 in
theorem fn_of_trod (fuel : Nat) (cs : List Value) (x : DataW H × List MemPlace) (h : DataW.trod enc Tryd.prog w 0 (fun _ => true) true fuel 23 cs = some x) : ∃ f : Fn, cs = fnCells f ∧ FnOk f := by
  have hl : cs.length = 2 := by
    obtain ⟨xs, m, _, _, hl, _⟩ := DataW.trod_struct Tryd.underlying23 h
    rw [hl, cellsFun]
  obtain ⟨xs, m, hm, _, _, hxl, hf⟩ := DataW.trod_struct Tryd.underlying23 h
  match cs, hl with
  | [c0, c1], _ =>
    match xs, hxl with
    | [x0, x1], _ =>
      have f0 : DataW.trod enc Tryd.prog w 0 (fun _ => true) true m 9 (([c0, c1].drop 0).take (Tryd.prog.cellsOf 9)) = some x0 := hf 0 _ rfl
      have f1 : DataW.trod enc Tryd.prog w 0 (fun _ => true) true m 3 (([c0, c1].drop 1).take (Tryd.prog.cellsOf 3)) = some x1 := hf 1 _ rfl
      rw [cellsString] at f0
      rw [cellsInt] at f1
      obtain ⟨s, e0, _, ws⟩ := DataW.trod_string Tryd.underlying9 f0
      obtain ⟨n, e1, _, wn⟩ := DataW.trod_int Tryd.underlying3 f1
      obtain rfl : c0 = .string s := by simpa using e0
      obtain rfl : c1 = .int .i64 n := by simpa using e1
      have bn := bounds_i64 wn
      exact ⟨(s, n), rfl, ⟨by unfold maxLen at ws; exact ws, bn.1, bn.2⟩⟩
end

set_option maxRecDepth 100000 in
theorem open_fun {H : Type} {enc : TypeId × Value → H} {W : World} {r : Reach} {b0 : Nat} {v : Value} {d : DataW H} {p : List MemPlace} (hv : Value.okWide Tryd.prog W r b0 23 v)
    (h : DataW.Trod enc Tryd.prog W 0 (fun _ => true) true 23 v d p) (_hlt : ∀ x ∈ p, x.block < W.heap.size) : ∃ f : Fn, v = fnVal f ∧ FnOk f := by
  obtain ⟨cs, rfl, _⟩ := okWide_struct Tryd.underlying23 hv
  obtain ⟨fuel, hf⟩ := h
  obtain ⟨f, ht, hk⟩ := fn_of_trod fuel _ _ hf
  refine ⟨f, ?_, hk⟩
  have : cs.toList = fnCells f := by simpa [Value.cells] using ht
  unfold fnVal
  congr 1
  apply Array.ext'
  exact this
end Go.Proofs.YtmpaljmkfnpcpaaDoor
