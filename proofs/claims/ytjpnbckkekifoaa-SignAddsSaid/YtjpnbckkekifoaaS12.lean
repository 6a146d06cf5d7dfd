/-
  What package sign answers, as the laws of layer 10 ask it: Arity, Add, Right; Fits at the chapter's example.
  SignAdds holds for package sign as it landed: the arity of any function in any row; one more function, or the first error.
  The program's types are laid out in memory. Nothing of its functions.
  An argument that is a term reads as a term; one that is a slice of terms, as a row of terms.
  An argument that is a function reads as a function; one that is a slice of functions, as a row of functions.
-/
import Derived.Test.YtjpnbckkekifoaaS04
import Derived.Test.YtjpnbckkekifoaaS06
import Derived.Test.YtjpnbckkekifoaaS11
import Derived.Test.YtjpnbckkekifoaaS05
import Derived.Test.YtjpnbckkekifoaaRows
import Derived.Deep.Slices
import Derived.ChangeSame
import Derived.Carry
import Derived.OpenShut
import Derived.Test.YtjpnbckkekifoaaS01
namespace Go.Proofs.Ytjpnbckkekifoaa
open Go.RowKit

theorem arityI_any : ArityI := fun v fs s W hv _ _ => parity_any v fs s W hv
theorem addI_any : AddI := fun v fs f W hv hm hf hs => padd_any v fs f W hv hf (by omega) (by have := hm.len; omega)
theorem rightI_any : RightI := fun v fs W hv hm => pright_any v fs W hv (fun f hf => by have := hm.size f hf; omega)
theorem all10 : tF10.all = [tF10, tA10] := by unfold tF10 tA10; simp [Tm.all, allL]
theorem has10F : hasFn [fn10] (headF tF10) = true := hasFn_iff.2 (List.mem_singleton.2 rfl)
theorem has10A : hasFn [fn10] (headF tA10) = false := by
  rw [← Bool.not_eq_true, hasFn_iff, List.mem_singleton]
  intro h
  have h2 := congrArg Prod.snd h
  exact absurd h2 (by decide)
theorem bad10F : badF [fn10] tF10 = false := by unfold badF; rw [has10F]; rfl
theorem bad10A : badF [fn10] tA10 = true := by unfold badF; rw [has10A]; rfl
theorem find10 : findT tF10 tA10 = some [0] := by
  rw [findT_fin, finP_eq]
  show (match finL tA10 0 [tA10] with | some q => some q | none => if eqT tF10 tA10 = true then some [] else none) = some [0]
  have h : finP tA10 tA10 = some [] := by
    rw [finP_eq]
    show (match finL tA10 0 [] with | some q => some q | none => if eqT tA10 tA10 = true then some [] else none) = some []
    rw [finL, eqT_true rfl]; rfl
  rw [finL, h]; rfl
theorem end10 {w w' : World} {e : Ending} (h : FitsG [fn10] tF10 w e w') : FitsPost [fn10] tF10 w e w' := by
  obtain ⟨code, v, p, he, hn, hb, ⟨_, _, hall⟩ | ⟨pre, hpre, q, z, rfl, hq, hz, hc, hp⟩⟩ := h
  · have := hall tA10 (by rw [all10]; simp)
    rw [bad10A] at this; cases this
  · rw [all10] at hpre
    obtain ⟨r, hr⟩ := hpre
    have hzA : z = tA10 := by
      match q, hq, hr with
      | [], _, hr =>
        have h1 : z = tF10 := (List.cons.inj hr).1
        rw [h1, bad10F] at hz; cases hz
      | [y], _, hr => exact (List.cons.inj (List.cons.inj hr).2).1
      | y :: y2 :: q2, _, hr =>
        have := congrArg List.length hr
        simp at this
    subst hzA
    have hc4 : code = 4 := by rw [hc, show tA10.name = ⟨#[97]⟩ from rfl, ar10a]; rfl
    have hp0 : p = [0] := by rw [hp, find10]; rfl
    refine ⟨v, ?_, ?_, hb⟩
    · rw [he, fits10, hc4]
    · rw [fits10, ← hp0]; exact hn
theorem fits10_any : Fits10 := fun v x W hv hx ht => by
  have h := pfits_any v [fn10] x W hv (fun f hf => by rw [List.mem_singleton.1 hf]; exact ⟨⟨by decide, by decide, by decide⟩, by decide⟩) (by simp) hx (by rw [ht]; decide)
  rw [ht] at h
  exact h.mono fun e w' hh => end10 hh
end Go.Proofs.Ytjpnbckkekifoaa

namespace Go.Proofs.Ytjpnbckkekifoaa
open Go.RowKit

theorem lawAdds10_any (v : Value) (fs : List Fn) (f : Fn) (w : World) (hv : Fus w v fs) (hf : FnOk f) :
    Calls Try.prog 3 #[v, fnVal f] w fun e w' => e = .returned (.bool true) ∧ Below w.heap.size w w' :=
  lawAdds10_of arityI_any fits10_any addI_any rightI_any v fs f w hv hf
end Go.Proofs.Ytjpnbckkekifoaa

namespace Go.Proofs.Ytjpnbckkekifoaa
open Go.ChangeShapes Go.WideShapes Go.RowKit Go.Deep

theorem laidOut : laidOutB Try.prog = true := by kernel_rfl
end Go.Proofs.Ytjpnbckkekifoaa

namespace Go.Proofs.Ytjpnbckkekifoaa
open Go.ChangeShapes Go.WideShapes Go.RowKit Go.Deep

theorem cellsTerm : Try.prog.cellsOf 38 = 4 := by kernel_rfl
theorem cellsInt : Try.prog.cellsOf 3 = 1 := by kernel_rfl
theorem cellsString : Try.prog.cellsOf 9 = 1 := by kernel_rfl
theorem cellsTerms : Try.prog.cellsOf 36 = 1 := by kernel_rfl
instance : Inhabited Tv := ⟨⟨default, none, 0⟩⟩

section
variable {H : Type} {enc : TypeId × Value → H} {w : World} {base : Nat} {spare : Nat → Bool} {held : Bool}

theorem tvAt_cells {a : Addr} {v : Tv} (h : w.cells? base a 4 = some v.cells) : w.cell? (a.add 0) = some (.int .i64 v.t.kind) ∧ w.cell? (a.add 1) = some (.string v.t.name) ∧ w.cell? (a.add 2) = some (.int .i64 v.t.n) ∧ w.cell? (a.add 3) = some (.slice v.a v.t.args.length v.c) := by
  obtain ⟨_, _, hat⟩ := World.cells?_some h
  exact ⟨by rw [hat 0 (by omega)]; rfl, by rw [hat 1 (by omega)]; rfl, by rw [hat 2 (by omega)]; rfl, by rw [hat 3 (by omega)]; rfl⟩

/-- A slice of terms, its elements read one by one. -/
theorem args_of {fuel : Nat} (ih : ∀ n, n < fuel → ∀ (cs : List Value) (x : DataW H × List MemPlace), DataW.trod enc Try.prog w base spare held n 38 cs = some x → ∃ v : Tv, cs = v.cells ∧ v.ok w)
    {u : Value} {x : DataW H × List MemPlace} (h : DataW.trod enc Try.prog w base spare held fuel 36 [u] = some x) : ∃ (a : Option Addr) (c : Nat) (ts : List Tm), u = .slice a ts.length c ∧ Args w a c ts := by
  rcases DataW.trod_slice Try.underlying36 h with ⟨hcs, _⟩ | ⟨a, len, cap, elems, rest, n, rfl, hcs, _, _, hl, hm, hlen, hel, _, _⟩
  · simp at hcs
    subst hcs
    exact ⟨none, 0, [], rfl, by simp, .inl rfl⟩
  · simp at hcs
    subst hcs
    have each : ∀ i, i < len → ∃ v : Tv, v.ok w ∧ w.cells? base (a.add (i * 4)) 4 = some v.cells := fun i hi => by
      have h1 := hel i hi
      rw [List.getElem?_eq_getElem (by omega), cellsTerm] at h1
      obtain ⟨cs', h2, h3⟩ := Option.bind_eq_some_iff.1 h1
      obtain ⟨v, rfl, hv⟩ := ih n (by omega) cs' _ h3
      exact ⟨v, hv, h2⟩
    obtain ⟨T, hT⟩ := choose_lt each
    refine ⟨some a, cap, (List.range len).map fun i => (T i).t, by simp, ⟨by simp; unfold maxLen at hm; omega, by simpa using hl⟩, ?_⟩
    by_cases h0 : len = 0
    · left; simp [h0]
    · right
      obtain ⟨b, off, spot⟩ := a
      have hspot : spot = none := by
        have := World.cell?_spot (tvAt_cells (hT 0 (by omega)).2).1
        simpa [Addr.add] using this
      subst hspot
      have cells : ∀ i, i < len → TvAt w b (off + i * 4) (T i) := fun i hi => by
        obtain ⟨c0, c1, c2, c3⟩ := tvAt_cells (hT i hi).2
        rw [add_plain, add_plain] at c0 c1 c2 c3
        exact ⟨by simpa using c0, c1, c2, c3⟩
      refine ⟨b, off, rfl, lt_of_cell (cells 0 (by omega)).c0, rowAt_of fun {j} hj => ?_⟩
      have hjl : j < len := by simpa using hj
      rw [List.getElem_map, List.getElem_range]
      exact tv_tmAt (hT j hjl).1 (cells j hjl)

set_option maxRecDepth 100000 in
theorem tv_of_trod : ∀ (fuel : Nat) (cs : List Value) (x : DataW H × List MemPlace), DataW.trod enc Try.prog w base spare held fuel 38 cs = some x → ∃ v : Tv, cs = v.cells ∧ v.ok w := by
  intro fuel
  induction fuel using Nat.strongRecOn with
  | ind fuel ih =>
    intro cs x h
    have hl : cs.length = 4 := by
      obtain ⟨xs, m, _, _, hl, _⟩ := DataW.trod_struct Try.underlying38 h
      rw [hl, cellsTerm]
    obtain ⟨xs, m, hm, _, _, hxl, hf⟩ := DataW.trod_struct Try.underlying38 h
    match cs, hl with
    | [c0, c1, c2, c3], _ =>
      match xs, hxl with
      | [x0, x1, x2, x3], _ =>
        have f0 : DataW.trod enc Try.prog w base spare held m 3 (([c0, c1, c2, c3].drop 0).take (Try.prog.cellsOf 3)) = some x0 := hf 0 _ rfl
        have f1 : DataW.trod enc Try.prog w base spare held m 9 (([c0, c1, c2, c3].drop 1).take (Try.prog.cellsOf 9)) = some x1 := hf 1 _ rfl
        have f2 : DataW.trod enc Try.prog w base spare held m 3 (([c0, c1, c2, c3].drop 2).take (Try.prog.cellsOf 3)) = some x2 := hf 2 _ rfl
        have f3 : DataW.trod enc Try.prog w base spare held m 36 (([c0, c1, c2, c3].drop 3).take (Try.prog.cellsOf 36)) = some x3 := hf 3 _ rfl
        rw [cellsInt] at f0 f2
        rw [cellsString] at f1
        rw [cellsTerms] at f3
        obtain ⟨k, e0, _, wk⟩ := DataW.trod_int Try.underlying3 f0
        obtain ⟨s, e1, _, ws⟩ := DataW.trod_string Try.underlying9 f1
        obtain ⟨n, e2, _, wn⟩ := DataW.trod_int Try.underlying3 f2
        have f3' : DataW.trod enc Try.prog w base spare held m 36 [c3] = some x3 := f3
        obtain ⟨a, c, ts, e3, ha⟩ := args_of (fun q hq => ih q (by omega)) f3'
        obtain rfl : c0 = .int .i64 k := by simpa using e0
        obtain rfl : c1 = .string s := by simpa using e1
        obtain rfl : c2 = .int .i64 n := by simpa using e2
        have bk := bounds_i64 wk
        have bn := bounds_i64 wn
        subst e3
        exact ⟨⟨.mk k s n ts, a, c⟩, rfl, ⟨bk.1, bk.2, bn.1, bn.2, by unfold maxLen at ws; exact ws⟩, ha⟩
end

set_option maxRecDepth 100000 in
theorem open_term {H : Type} {enc : TypeId × Value → H} {W : World} {r : Reach} {b0 : Nat} {v : Value} {d : DataW H} {p : List MemPlace} (hv : Value.okWide Try.prog W r b0 38 v)
    (h : DataW.Trod enc Try.prog W 0 (fun _ => true) true 38 v d p) (_hlt : ∀ x ∈ p, x.block < W.heap.size) : ∃ t : Tv, v = t.val ∧ t.ok W := by
  obtain ⟨cs, rfl, _⟩ := okWide_struct Try.underlying38 hv
  obtain ⟨fuel, hf⟩ := h
  obtain ⟨t, ht, hk⟩ := tv_of_trod fuel _ _ hf
  refine ⟨t, ?_, hk⟩
  have : cs.toList = t.cells := by simpa [Value.cells] using ht
  unfold Tv.val
  congr 1
  apply Array.ext'
  exact this
set_option maxRecDepth 100000 in
theorem open_terms {H : Type} {enc : TypeId × Value → H} {W : World} {r : Reach} {b0 : Nat} {v : Value} {d : DataW H} {p : List MemPlace} (hv : Value.okWide Try.prog W r b0 36 v)
    (h : DataW.Trod enc Try.prog W 0 (fun _ => true) true 36 v d p) (_hlt : ∀ x ∈ p, x.block < W.heap.size) : ∃ ts, Tms W v ts := by
  obtain ⟨a0, len, cap, rfl⟩ := okWide_slice Try.underlying36 hv
  obtain ⟨fuel, hf⟩ := h
  have hf : DataW.trod enc Try.prog W 0 (fun _ => true) true fuel 36 [.slice a0 len cap] = some (d, p) := by simpa [Value.cells] using hf
  obtain ⟨a, c, ts, e, ha⟩ := args_of (fun n _ => tv_of_trod n) hf
  exact ⟨ts, a, c, e, ha⟩
end Go.Proofs.Ytjpnbckkekifoaa

namespace Go.Proofs.Ytjpnbckkekifoaa
open Go.ChangeShapes Go.WideShapes Go.RowKit Go.Deep

theorem cellsFun : Try.prog.cellsOf 24 = 2 := by kernel_rfl
def fnCells (f : Fn) : List Value := [.string f.1, .int .i64 f.2]
instance inhabFnOpen : Inhabited Fn := ⟨(ByteArray.empty, 0)⟩

section
variable {H : Type} {enc : TypeId × Value → H} {w : World}

theorem fnAt_cells {a : Addr} {f : Fn} {base : Nat} (h : w.cells? base a 2 = some (fnCells f)) : w.cell? (a.add 0) = some (.string f.1) ∧ w.cell? (a.add 1) = some (.int .i64 f.2) := by
  obtain ⟨_, _, hat⟩ := World.cells?_some h
  exact ⟨by rw [hat 0 (by omega)]; rfl, by rw [hat 1 (by omega)]; rfl⟩

set_option maxRecDepth 100000 in
theorem fn_of_trod (fuel : Nat) (cs : List Value) (x : DataW H × List MemPlace) (h : DataW.trod enc Try.prog w 0 (fun _ => true) true fuel 24 cs = some x) : ∃ f : Fn, cs = fnCells f ∧ FnOk f := by
  have hl : cs.length = 2 := by
    obtain ⟨xs, m, _, _, hl, _⟩ := DataW.trod_struct Try.underlying24 h
    rw [hl, cellsFun]
  obtain ⟨xs, m, hm, _, _, hxl, hf⟩ := DataW.trod_struct Try.underlying24 h
  match cs, hl with
  | [c0, c1], _ =>
    match xs, hxl with
    | [x0, x1], _ =>
      have f0 : DataW.trod enc Try.prog w 0 (fun _ => true) true m 9 (([c0, c1].drop 0).take (Try.prog.cellsOf 9)) = some x0 := hf 0 _ rfl
      have f1 : DataW.trod enc Try.prog w 0 (fun _ => true) true m 3 (([c0, c1].drop 1).take (Try.prog.cellsOf 3)) = some x1 := hf 1 _ rfl
      rw [cellsString] at f0
      rw [cellsInt] at f1
      obtain ⟨s, e0, _, ws⟩ := DataW.trod_string Try.underlying9 f0
      obtain ⟨n, e1, _, wn⟩ := DataW.trod_int Try.underlying3 f1
      obtain rfl : c0 = .string s := by simpa using e0
      obtain rfl : c1 = .int .i64 n := by simpa using e1
      have bn := bounds_i64 wn
      exact ⟨(s, n), rfl, ⟨by unfold maxLen at ws; exact ws, bn.1, bn.2⟩⟩
end

set_option maxRecDepth 100000 in
theorem open_fun {H : Type} {enc : TypeId × Value → H} {W : World} {r : Reach} {b0 : Nat} {v : Value} {d : DataW H} {p : List MemPlace} (hv : Value.okWide Try.prog W r b0 24 v)
    (h : DataW.Trod enc Try.prog W 0 (fun _ => true) true 24 v d p) (_hlt : ∀ x ∈ p, x.block < W.heap.size) : ∃ f : Fn, v = fnVal f ∧ FnOk f := by
  obtain ⟨cs, rfl, _⟩ := okWide_struct Try.underlying24 hv
  obtain ⟨fuel, hf⟩ := h
  obtain ⟨f, ht, hk⟩ := fn_of_trod fuel _ _ hf
  refine ⟨f, ?_, hk⟩
  have : cs.toList = fnCells f := by simpa [Value.cells] using ht
  unfold fnVal
  congr 1
  apply Array.ext'
  exact this
set_option maxRecDepth 100000 in
theorem open_funs {H : Type} {enc : TypeId × Value → H} {W : World} {r : Reach} {b0 : Nat} {v : Value} {d : DataW H} {p : List MemPlace} (hv : Value.okWide Try.prog W r b0 22 v)
    (h : DataW.Trod enc Try.prog W 0 (fun _ => true) true 22 v d p) (_hlt : ∀ x ∈ p, x.block < W.heap.size) : ∃ fs, Fus W v fs := by
  obtain ⟨a0, len, cap, rfl⟩ := okWide_slice Try.underlying22 hv
  obtain ⟨fuel, hf⟩ := h
  have hf : DataW.trod enc Try.prog W 0 (fun _ => true) true fuel 22 [.slice a0 len cap] = some (d, p) := by simpa [Value.cells] using hf
  rcases DataW.trod_slice Try.underlying22 hf with ⟨hcs, _⟩ | ⟨a, len, cap, elems, rest, n, rfl, hcs, _, _, hl, hm, hlen, hel, _, _⟩
  · rw [List.singleton_inj.1 hcs]
    exact ⟨[], Fus.none_ _ _ _⟩
  · simp at hcs
    obtain ⟨rfl, rfl, rfl⟩ := hcs
    have each : ∀ i, i < len → ∃ f : Fn, FnOk f ∧ W.cells? 0 (a.add (i * 2)) 2 = some (fnCells f) := fun i hi => by
      have h1 := hel i hi
      rw [List.getElem?_eq_getElem (by omega), cellsFun] at h1
      obtain ⟨cs', h2, h3⟩ := Option.bind_eq_some_iff.1 h1
      obtain ⟨f, rfl, hf⟩ := fn_of_trod n cs' _ h3
      exact ⟨f, hf, h2⟩
    obtain ⟨T, hT⟩ := choose_lt each
    refine ⟨(List.range len).map fun i => T i, some a, cap, by simp, by simp; unfold maxLen at hm; omega, ?_⟩
    by_cases h0 : len = 0
    · left; simp [h0]
    · right
      obtain ⟨b, off, spot⟩ := a
      have hspot : spot = none := by
        have := World.cell?_spot (fnAt_cells (hT 0 (by omega)).2).1
        simpa [Addr.add] using this
      subst hspot
      have cells : ∀ i, i < len → FnAt W (T i) b (off + i * 2) := fun i hi => by
        obtain ⟨c0, c1⟩ := fnAt_cells (hT i hi).2
        rw [add_plain, add_plain] at c0 c1
        exact ⟨(hT i hi).1, by simpa using c0, c1⟩
      refine ⟨b, off, rfl, (cells 0 (by omega)).lt, fun j x hj => ?_⟩
      rw [List.getElem?_map] at hj
      obtain ⟨i, hi, rfl⟩ := Option.map_eq_some_iff.1 hj
      obtain ⟨hil, rfl⟩ := List.getElem?_eq_some_iff.1 hi
      have hjl : j < len := by simpa using hil
      rw [List.getElem_range]
      exact cells j hjl
end Go.Proofs.Ytjpnbckkekifoaa
