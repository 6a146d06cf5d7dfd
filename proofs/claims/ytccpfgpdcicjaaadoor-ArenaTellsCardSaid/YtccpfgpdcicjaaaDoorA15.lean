/-
  An argument that is a slice of nodes reads as a row of nodes.
  Any number in any arena: the law answers true, of the program as it landed.
  A copy of any arena: the law answers true, of the program as it landed.
-/
import Derived.Test.YtccpfgpdcicjaaaDoorA14
import Derived.ChangeSlices
import Derived.Test.YtccpfgpdcicjaaaDoorA12
import Derived.Test.YtccpfgpdcicjaaaDoorA13
namespace Go.Proofs.YtccpfgpdcicjaaaDoor
open Go.ChangeShapes Go.WideShapes Go.RowKit Go.Deep

theorem cellsNode : Tryd.prog.cellsOf 38 = 4 := by kernel_rfl
theorem cellsInts : Tryd.prog.cellsOf 36 = 1 := by kernel_rfl
/-- A node as four cells. -/
structure Nv where
  d : Nd
  a : Option Addr
  c : Nat
def Nv.cells (v : Nv) : List Value := [.int .i64 v.d.k, .string v.d.s, .int .i64 v.d.n, .slice v.a v.d.is.length v.c]
instance inhabNv : Inhabited Nv := ⟨⟨⟨0, ByteArray.empty, 0, []⟩, none, 0⟩⟩

section
variable {H : Type} {enc : TypeId × Value → H} {w : World}

theorem nvAt_cells {a : Addr} {v : Nv} {base : Nat} (h : w.cells? base a 4 = some v.cells) : w.cell? (a.add 0) = some (.int .i64 v.d.k) ∧ w.cell? (a.add 1) = some (.string v.d.s) ∧ w.cell? (a.add 2) = some (.int .i64 v.d.n) ∧ w.cell? (a.add 3) = some (.slice v.a v.d.is.length v.c) := by
  obtain ⟨_, _, hat⟩ := World.cells?_some h
  exact ⟨by rw [hat 0 (by omega)]; rfl, by rw [hat 1 (by omega)]; rfl, by rw [hat 2 (by omega)]; rfl, by rw [hat 3 (by omega)]; rfl⟩

set_option maxRecDepth 100000 in
theorem nums_of_trod {fuel : Nat} {u : Value} {x : DataW H × List MemPlace} (h : DataW.trod enc Tryd.prog w 0 (fun _ => true) true fuel 36 [u] = some x) : ∃ (a : Option Addr) (c : Nat) (ns : List Int), u = .slice a ns.length c ∧ Nums w (.slice a ns.length c) ns := by
  rcases Go.ChangeShapes.open_ints Tryd.underlying36 Tryd.underlying3 cellsI64 h with ⟨hcs, _⟩ | ⟨a, len, cap, zs, hcs, _, hl, hm, hz, hx, hc, hw⟩
  · simp at hcs
    subst hcs
    exact ⟨none, 0, [], rfl, none, 0, rfl, Nat.le_refl _, by omega, (fun _ hn => nomatch hn), .inl rfl⟩
  · simp at hcs
    subst hcs
    simp only [if_true] at hz
    have hlen : (zs.take len).length = len := by rw [List.length_take]; omega
    refine ⟨some a, cap, zs.take len, by rw [hlen], some a, cap, rfl, by omega, by unfold maxLen at hm; omega, fun n hn => bounds_i64 (hw n (List.mem_of_mem_take hn)), ?_⟩
    by_cases h0 : len = 0
    · left; simp [h0]
    · right
      obtain ⟨b, off, spot⟩ := a
      have hc0 := hc 0 (by omega)
      have hspot : spot = none := by
        have := World.cell?_spot hc0
        simpa [Addr.add] using this
      subst hspot
      refine ⟨b, off, rfl, ?_, fun j n hj => ?_⟩
      · rcases Nat.lt_or_ge b w.heap.size with h | h
        · exact h
        · exfalso
          unfold World.cell? at hc0
          simp [Addr.add, Array.getElem?_eq_none h] at hc0
      · have hjl : j < len := by
          have := (List.getElem?_eq_some_iff.1 hj).1
          omega
        have h1 := hc j (by omega)
        rw [List.getElem?_take, if_pos hjl] at hj
        rw [List.getD_eq_getElem?_getD, hj] at h1
        rw [add_plain] at h1
        simpa using h1

set_option maxRecDepth 100000 in
theorem nv_of_trod (fuel : Nat) (cs : List Value) (x : DataW H × List MemPlace) (h : DataW.trod enc Tryd.prog w 0 (fun _ => true) true fuel 38 cs = some x) : ∃ v : Nv, cs = v.cells ∧ Fit v.d.k v.d.s v.d.n ∧ Nums w (.slice v.a v.d.is.length v.c) v.d.is := by
  have hl : cs.length = 4 := by
    obtain ⟨xs, m, _, _, hl, _⟩ := DataW.trod_struct Tryd.underlying38 h
    rw [hl, cellsNode]
  obtain ⟨xs, m, hm, _, _, hxl, hf⟩ := DataW.trod_struct Tryd.underlying38 h
  match cs, hl with
  | [c0, c1, c2, c3], _ =>
    match xs, hxl with
    | [x0, x1, x2, x3], _ =>
      have f0 : DataW.trod enc Tryd.prog w 0 (fun _ => true) true m 3 (([c0, c1, c2, c3].drop 0).take (Tryd.prog.cellsOf 3)) = some x0 := hf 0 _ rfl
      have f1 : DataW.trod enc Tryd.prog w 0 (fun _ => true) true m 9 (([c0, c1, c2, c3].drop 1).take (Tryd.prog.cellsOf 9)) = some x1 := hf 1 _ rfl
      have f2 : DataW.trod enc Tryd.prog w 0 (fun _ => true) true m 3 (([c0, c1, c2, c3].drop 2).take (Tryd.prog.cellsOf 3)) = some x2 := hf 2 _ rfl
      have f3 : DataW.trod enc Tryd.prog w 0 (fun _ => true) true m 36 (([c0, c1, c2, c3].drop 3).take (Tryd.prog.cellsOf 36)) = some x3 := hf 3 _ rfl
      rw [cellsI64] at f0 f2
      rw [cellsString] at f1
      rw [cellsInts] at f3
      obtain ⟨k, e0, _, wk⟩ := DataW.trod_int Tryd.underlying3 f0
      obtain ⟨s, e1, _, ws⟩ := DataW.trod_string Tryd.underlying9 f1
      obtain ⟨n, e2, _, wn⟩ := DataW.trod_int Tryd.underlying3 f2
      have f3' : DataW.trod enc Tryd.prog w 0 (fun _ => true) true m 36 [c3] = some x3 := f3
      obtain ⟨a, c, ns, e3, ha⟩ := nums_of_trod f3'
      obtain rfl : c0 = .int .i64 k := by simpa using e0
      obtain rfl : c1 = .string s := by simpa using e1
      obtain rfl : c2 = .int .i64 n := by simpa using e2
      have bk := bounds_i64 wk
      have bn := bounds_i64 wn
      subst e3
      exact ⟨⟨⟨k, s, n, ns⟩, a, c⟩, rfl, ⟨bk.1, bk.2, bn.1, bn.2, by unfold maxLen at ws; exact ws⟩, ha⟩
end

set_option maxRecDepth 100000 in
theorem open_nodes {H : Type} {enc : TypeId × Value → H} {W : World} {r : Reach} {b0 : Nat} {v : Value} {d : DataW H} {p : List MemPlace} (hv : Value.okWide Tryd.prog W r b0 42 v)
    (h : DataW.Trod enc Tryd.prog W 0 (fun _ => true) true 42 v d p) (_hlt : ∀ x ∈ p, x.block < W.heap.size) : ∃ xs, Nds W v xs := by
  obtain ⟨a0, len, cap, rfl⟩ := okWide_slice Tryd.underlying42 hv
  obtain ⟨fuel, hf⟩ := h
  have hf : DataW.trod enc Tryd.prog W 0 (fun _ => true) true fuel 42 [.slice a0 len cap] = some (d, p) := by simpa [Value.cells] using hf
  rcases DataW.trod_slice Tryd.underlying42 hf with ⟨hcs, _⟩ | ⟨a, len, cap, elems, rest, n, rfl, hcs, _, _, hl, hm, hlen, hel, _, _⟩
  · rw [List.singleton_inj.1 hcs]
    exact ⟨[], none, 0, rfl, by simp, .inl rfl⟩
  · simp at hcs
    obtain ⟨rfl, rfl, rfl⟩ := hcs
    have each : ∀ i, i < len → ∃ v : Nv, (Fit v.d.k v.d.s v.d.n ∧ Nums W (.slice v.a v.d.is.length v.c) v.d.is) ∧ W.cells? 0 (a.add (i * 4)) 4 = some v.cells := fun i hi => by
      have h1 := hel i hi
      rw [List.getElem?_eq_getElem (by omega), cellsNode] at h1
      obtain ⟨cs', h2, h3⟩ := Option.bind_eq_some_iff.1 h1
      obtain ⟨v, rfl, hv⟩ := nv_of_trod n cs' _ h3
      exact ⟨v, hv, h2⟩
    obtain ⟨T, hT⟩ := choose_lt each
    refine ⟨(List.range len).map fun i => (T i).d, some a, cap, by simp, by simp; unfold maxLen at hm; omega, ?_⟩
    by_cases h0 : len = 0
    · left; simp [h0]
    · right
      obtain ⟨b, off, spot⟩ := a
      have hspot : spot = none := by
        have := World.cell?_spot (nvAt_cells (hT 0 (by omega)).2).1
        simpa [Addr.add] using this
      subst hspot
      have cells : ∀ i, i < len → NdAt W b (off + i * 4) (T i).d := fun i hi => by
        obtain ⟨c0, c1, c2, c3⟩ := nvAt_cells (hT i hi).2
        rw [add_plain, add_plain] at c0 c1 c2 c3
        exact ⟨(hT i hi).1.1, by simpa using c0, c1, c2, (T i).a, (T i).c, c3, (hT i hi).1.2⟩
      refine ⟨b, off, rfl, lt_of_cell (cells 0 (by omega)).c0, fun j x hj => ?_⟩
      rw [List.getElem?_map] at hj
      obtain ⟨i, hi, rfl⟩ := Option.map_eq_some_iff.1 hj
      obtain ⟨hil, rfl⟩ := List.getElem?_eq_some_iff.1 hi
      have hjl : j < len := by simpa using hil
      rw [List.getElem_range]
      exact cells j hjl
end Go.Proofs.YtccpfgpdcicjaaaDoor

namespace Go.Proofs.YtccpfgpdcicjaaaDoor
open Go.RowKit

theorem lawTells9_any (v : Value) (ts : List Tm) (n : Int) (hn0 : -9223372036854775808 ≤ n) (hn1 : n ≤ 9223372036854775807) (x : Tv) (w : World) (hT : Pow w) (hv : Tms w v ts) (hx : x.ok w) :
    Calls Tryd.prog 6 #[v, .int .i64 n, x.val] w fun e w' => e = .returned (.bool true) ∧ Below w.heap.size w w' :=
  lawTells9_of arenas w hT (fun W h => awake9_of arenas W (hT.below h)) v ts n hn0 hn1 x hv hx
end Go.Proofs.YtccpfgpdcicjaaaDoor

namespace Go.Proofs.YtccpfgpdcicjaaaDoor
open Go.RowKit

theorem lawCopies9_any (v : Value) (ts : List Tm) (x y : Tv) (w : World) (hT : Pow w) (hv : Tms w v ts) (hx : x.ok w) (hy : y.ok w) :
    Calls Tryd.prog 7 #[v, x.val, y.val] w fun e w' => e = .returned (.bool true) ∧ Below w.heap.size w w' :=
  lawCopies9_of arenas arenaNone w hT (fun W h => awake9_of arenas W (hT.below h)) v ts x y hv hx hy
end Go.Proofs.YtccpfgpdcicjaaaDoor
