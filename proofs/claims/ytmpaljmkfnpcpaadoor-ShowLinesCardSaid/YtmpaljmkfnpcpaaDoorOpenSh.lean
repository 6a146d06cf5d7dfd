/-
  Arguments that are a rule, a frame, a query read as such.
-/
import Derived.Test.YtmpaljmkfnpcpaaDoorOpenTm
import Derived.Test.YtmpaljmkfnpcpaaDoorRls
import Derived.Test.YtmpaljmkfnpcpaaDoorOpenFu1
namespace Go.Proofs.YtmpaljmkfnpcpaaDoor
open Go.ChangeShapes Go.WideShapes Go.RowKit Go.Deep

theorem cellsRuleS : Tryd.prog.cellsOf 28 = 8 := by kernel_rfl
theorem cellsFrameS : Tryd.prog.cellsOf 30 = 2 := by kernel_rfl
theorem cellsQueryS : Tryd.prog.cellsOf 32 = 7 := by kernel_rfl
/-- A frame, a query as values. -/
structure Fw where
  name : ByteArray
  v : Value
  ts : List Tm
def Fw.val (y : Fw) : Value := .agg #[.string y.name, y.v]
def Fw.ok (w : World) (y : Fw) : Prop := y.name.size ≤ 9223372036854775807 ∧ Tms w y.v y.ts
structure Kw where
  kind : Int
  left : ByteArray
  right : ByteArray
  t : Tv
def Kw.val (y : Kw) : Value := .agg #[.int .i64 y.kind, .string y.left, .string y.right, .int .i64 y.t.t.kind, .string y.t.t.name, .int .i64 y.t.t.n, .slice y.t.a y.t.t.args.length y.t.c]
def Kw.ok (w : World) (y : Kw) : Prop := (-9223372036854775808 ≤ y.kind ∧ y.kind ≤ 9223372036854775807) ∧ y.left.size ≤ 9223372036854775807 ∧ y.right.size ≤ 9223372036854775807 ∧ y.t.ok w
theorem Fw.ok.below {w w' : World} {y : Fw} (h : y.ok w) (hb : Below w.heap.size w w') : y.ok w' := ⟨h.1, h.2.below hb⟩
theorem Kw.ok.below {w w' : World} {y : Kw} (h : y.ok w) (hb : Below w.heap.size w w') : y.ok w' := ⟨h.1, h.2.1, h.2.2.1, h.2.2.2.below hb⟩

section
variable {H : Type} {enc : TypeId × Value → H} {w : World}

set_option maxRecDepth 100000 in
theorem open_rule {r : Reach} {b0 : Nat} {v : Value} {d : DataW H} {p : List MemPlace} (hv : Value.okWide Tryd.prog w r b0 28 v)
    (h : DataW.Trod enc Tryd.prog w 0 (fun _ => true) true 28 v d p) (_hlt : ∀ x ∈ p, x.block < w.heap.size) : ∃ y : Qv, v = y.val ∧ y.ok w := by
  obtain ⟨cs, rfl, _⟩ := okWide_struct Tryd.underlying28 hv
  obtain ⟨fuel, hf⟩ := h
  have hf : DataW.trod enc Tryd.prog w 0 (fun _ => true) true fuel 28 cs.toList = some (d, p) := by simpa [Value.cells] using hf
  have hl : cs.toList.length = 8 := by
    obtain ⟨xs, m, _, _, hl, _⟩ := DataW.trod_struct Tryd.underlying28 hf
    rw [hl, cellsRuleS]
  obtain ⟨xs, m, hm, _, _, hxl, hg⟩ := DataW.trod_struct Tryd.underlying28 hf
  obtain ⟨cl⟩ := cs
  simp only at hl hf hg
  match cl, hl with
  | [c0, c1, c2, c3, c4, c5, c6, c7], _ =>
    match xs, hxl with
    | [x0, x1], _ =>
      have f0 : DataW.trod enc Tryd.prog w 0 (fun _ => true) true m 26 (([c0, c1, c2, c3, c4, c5, c6, c7].drop 0).take (Tryd.prog.cellsOf 26)) = some x0 := hg 0 _ rfl
      have f1 : DataW.trod enc Tryd.prog w 0 (fun _ => true) true m 26 (([c0, c1, c2, c3, c4, c5, c6, c7].drop 4).take (Tryd.prog.cellsOf 26)) = some x1 := hg 1 _ rfl
      rw [cellsTerm] at f0 f1
      obtain ⟨a, e0, ha⟩ := tv_of_trod m _ _ f0
      obtain ⟨b, e1, hb⟩ := tv_of_trod m _ _ f1
      have e2 : [c0, c1, c2, c3] = a.cells := e0
      have e3 : [c4, c5, c6, c7] = b.cells := e1
      unfold Tv.cells at e2 e3
      simp only [List.cons.injEq, and_true] at e2 e3
      obtain ⟨rfl, rfl, rfl, rfl⟩ := e2
      obtain ⟨rfl, rfl, rfl, rfl⟩ := e3
      exact ⟨⟨a, b⟩, rfl, ha, hb⟩
set_option maxRecDepth 100000 in
theorem open_query {r : Reach} {b0 : Nat} {v : Value} {d : DataW H} {p : List MemPlace} (hv : Value.okWide Tryd.prog w r b0 32 v)
    (h : DataW.Trod enc Tryd.prog w 0 (fun _ => true) true 32 v d p) (_hlt : ∀ x ∈ p, x.block < w.heap.size) : ∃ y : Kw, v = y.val ∧ y.ok w := by
  obtain ⟨cs, rfl, _⟩ := okWide_struct Tryd.underlying32 hv
  obtain ⟨fuel, hf⟩ := h
  have hf : DataW.trod enc Tryd.prog w 0 (fun _ => true) true fuel 32 cs.toList = some (d, p) := by simpa [Value.cells] using hf
  have hl : cs.toList.length = 7 := by
    obtain ⟨xs, m, _, _, hl, _⟩ := DataW.trod_struct Tryd.underlying32 hf
    rw [hl, cellsQueryS]
  obtain ⟨xs, m, hm, _, _, hxl, hg⟩ := DataW.trod_struct Tryd.underlying32 hf
  obtain ⟨cl⟩ := cs
  simp only at hl hf hg
  match cl, hl with
  | [c0, c1, c2, c3, c4, c5, c6], _ =>
    match xs, hxl with
    | [x0, x1, x2, x3], _ =>
      have f0 : DataW.trod enc Tryd.prog w 0 (fun _ => true) true m 3 (([c0, c1, c2, c3, c4, c5, c6].drop 0).take (Tryd.prog.cellsOf 3)) = some x0 := hg 0 _ rfl
      have f1 : DataW.trod enc Tryd.prog w 0 (fun _ => true) true m 9 (([c0, c1, c2, c3, c4, c5, c6].drop 1).take (Tryd.prog.cellsOf 9)) = some x1 := hg 1 _ rfl
      have f2 : DataW.trod enc Tryd.prog w 0 (fun _ => true) true m 9 (([c0, c1, c2, c3, c4, c5, c6].drop 2).take (Tryd.prog.cellsOf 9)) = some x2 := hg 2 _ rfl
      have f3 : DataW.trod enc Tryd.prog w 0 (fun _ => true) true m 26 (([c0, c1, c2, c3, c4, c5, c6].drop 3).take (Tryd.prog.cellsOf 26)) = some x3 := hg 3 _ rfl
      rw [cellsInt] at f0
      rw [cellsString] at f1 f2
      rw [cellsTerm] at f3
      obtain ⟨n, e0, _, wn⟩ := DataW.trod_int Tryd.underlying3 f0
      obtain ⟨s, e1, _, ws⟩ := DataW.trod_string Tryd.underlying9 f1
      obtain ⟨s', e2, _, ws'⟩ := DataW.trod_string Tryd.underlying9 f2
      obtain ⟨a, e3, ha⟩ := tv_of_trod m _ _ f3
      obtain rfl : c0 = .int .i64 n := by simpa using e0
      obtain rfl : c1 = .string s := by simpa using e1
      obtain rfl : c2 = .string s' := by simpa using e2
      have e3 : [c3, c4, c5, c6] = a.cells := e3
      unfold Tv.cells at e3
      simp only [List.cons.injEq, and_true] at e3
      obtain ⟨rfl, rfl, rfl, rfl⟩ := e3
      exact ⟨⟨n, s, s', a⟩, rfl, bounds_i64 wn, by unfold maxLen at ws; exact ws, by unfold maxLen at ws'; exact ws', ha⟩
set_option maxRecDepth 100000 in
theorem terms_of_trod (fuel : Nat) (c : Value) (x : DataW H × List MemPlace) (hf : DataW.trod enc Tryd.prog w 0 (fun _ => true) true fuel 24 [c] = some x) : ∃ ts, Tms w c ts := by
  obtain ⟨a, c', ts, e, ha⟩ := args_of (fun n _ => tv_of_trod n) hf
  exact ⟨ts, a, c', e, ha⟩
set_option maxRecDepth 100000 in
theorem open_frame {r : Reach} {b0 : Nat} {v : Value} {d : DataW H} {p : List MemPlace} (hv : Value.okWide Tryd.prog w r b0 30 v)
    (h : DataW.Trod enc Tryd.prog w 0 (fun _ => true) true 30 v d p) (_hlt : ∀ x ∈ p, x.block < w.heap.size) : ∃ y : Fw, v = y.val ∧ y.ok w := by
  obtain ⟨cs, rfl, _⟩ := okWide_struct Tryd.underlying30 hv
  obtain ⟨fuel, hf⟩ := h
  have hf : DataW.trod enc Tryd.prog w 0 (fun _ => true) true fuel 30 cs.toList = some (d, p) := by simpa [Value.cells] using hf
  have hl : cs.toList.length = 2 := by
    obtain ⟨xs, m, _, _, hl, _⟩ := DataW.trod_struct Tryd.underlying30 hf
    rw [hl, cellsFrameS]
  obtain ⟨xs, m, hm, _, _, hxl, hg⟩ := DataW.trod_struct Tryd.underlying30 hf
  obtain ⟨cl⟩ := cs
  simp only at hl hf hg
  match cl, hl with
  | [c0, c1], _ =>
    match xs, hxl with
    | [x0, x1], _ =>
      have f0 : DataW.trod enc Tryd.prog w 0 (fun _ => true) true m 9 (([c0, c1].drop 0).take (Tryd.prog.cellsOf 9)) = some x0 := hg 0 _ rfl
      have f1 : DataW.trod enc Tryd.prog w 0 (fun _ => true) true m 24 (([c0, c1].drop 1).take (Tryd.prog.cellsOf 24)) = some x1 := hg 1 _ rfl
      rw [cellsString] at f0
      rw [cellsTerms] at f1
      obtain ⟨s, e0, _, ws⟩ := DataW.trod_string Tryd.underlying9 f0
      obtain rfl : c0 = .string s := by simpa using e0
      obtain ⟨ts, hts⟩ := terms_of_trod m c1 _ f1
      exact ⟨⟨s, c1, ts⟩, rfl, by unfold maxLen at ws; exact ws, hts⟩
end
end Go.Proofs.YtmpaljmkfnpcpaaDoor
