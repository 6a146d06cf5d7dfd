/-
  What a text has are trees with arguments at functions alone; and what the program's grammar answers: its parse, its terms, its Plain.
  What leaves all that lay, and every box of one term, as it was. No function of the program.
  strings.Builder's WriteString, walked at this program: what it leaves, and that every box of a term stands as it stood.
  What the listed table of powers of ten gives a walk.
  A number in decimal, by the program's Digits (the table of powers of ten: Pw).
  A term as a text, by the program's Show: write and writeArgs put it behind what a builder holds.
  An item as a line, put together of its key, its words and its trees. No function of the program.
  A row of trees as one text, by the program's grammar: text, shown, row.
-/
import Derived.Test.YtldgbdmiebipnaaDoorB10
import Derived.Test.YtldgbdmiebipnaaDoorB11
import Derived.Test.YtldgbdmiebipnaaDoorB15
import Derived.Test.YtldgbdmiebipnaaDoorB06
import Derived.Test.YtldgbdmiebipnaaDoorB02
import Derived.RangeFuncNested
import Derived.Shelf.Abstract
import Derived.Shelf.RegionOpen
import Derived.WalkKit
import Derived.OwnWalkIn
import Derived.Shelf.Strings.Builder1
import Derived.Test.YtldgbdmiebipnaaDoorB01
import Derived.Test.YtldgbdmiebipnaaDoorB14
import Derived.Test.YtldgbdmiebipnaaDoorRows
import Derived.ProofKit
import Derived.Lib.Hide
import Derived.Stop.LaidErr
import Derived.WalkSmall
import Derived.Deep.DeepHandedRow
import Derived.Lib.LaidTab
import Derived.MakeChecks
import Derived.Lib.ItoaLen
import Derived.Test.YtldgbdmiebipnaaDoorShelf
import Derived.Test.YtldgbdmiebipnaaDoorB03
import Derived.Lib.Join
namespace Go.Proofs.YtldgbdmiebipnaaDoor
open Go.RowKit

theorem termF_wf : ∀ (f : Nat) (L : List Tok), (∀ i op, WfR (termF f L i op).1) ∧ ∀ i sg op, WfRs (termsF f L i sg op).1
  | 0, L => ⟨fun i op => by rw [termF, WfR, WfRs]; exact ⟨fun _ => rfl, trivial⟩, fun i sg op => by rw [termsF, WfRs]; trivial⟩
  | f + 1, L => by
    obtain ⟨h1, h2⟩ := termF_wf f L
    refine ⟨fun i op => ?_, fun i sg op => ?_⟩
    · rw [termF]
      have := h2 (i + 2) sComma (op + 1)
      repeat' split
      all_goals (simp only []; rw [WfR])
      all_goals first
        | exact ⟨fun _ => rfl, by rw [WfRs]; trivial⟩
        | exact ⟨fun h => absurd rfl h, this⟩
    · rw [termsF]
      have k1 := h1 i op
      have k2 := h2 ((termF f L i op).2.1 + 1) sg op
      repeat' split
      all_goals (simp only []; rw [WfRs])
      all_goals first
        | trivial
        | exact ⟨k1, by rw [WfRs]; trivial⟩
        | exact ⟨k1, k2⟩
theorem wfRs_mem : ∀ {l : List Tr} {t : Tr}, WfRs l → t ∈ l → WfR t
  | u :: r, t, h, ht => by
    rw [WfRs] at h
    rcases List.mem_cons.1 ht with rfl | ht
    · exact h.1
    · exact wfRs_mem h.2 ht
theorem whole_wf (s : ByteArray) : WfR (wholeS s).2.2 := by
  have hz : WfR zeroR := by unfold zeroR; rw [WfR, WfRs]; exact ⟨fun _ => rfl, trivial⟩
  unfold wholeS
  repeat' split
  · exact hz
  · exact hz
  · exact (termF_wf _ _).1 _ _
theorem items_wf (s : ByteArray) : ∀ x ∈ (parseS s).2.2, ∀ t ∈ x.trees, WfR t := by
  by_cases h0 : (parseS s).1 = 0
  · obtain ⟨h8, ts, xs, h1, h2, h3⟩ := parseS_ok h0
    rw [h3]
    simp only
    have h : ∀ x ∈ xs, FitI x ∧ ∀ t ∈ x.trees, WfR t :=
      itemsF_all (Q := WfR) (fun i op => (termF_wf _ _).1 _ _) (fun i sg op t ht => wfRs_mem ((termF_wf _ _).2 _ _ _) ht) _ _ xs h2
    exact fun x hx => (h x hx).2
  · rw [parseS_bad h0]; intro x hx; cases hx

theorem gramA_of (w : World) (hT : Tabs w) : GramA w where
  parse s W hb hs := pparse_any s (by omega) W (hT.below hb)
  term s W hb hs := pterm_any s (by omega) W (hT.below hb)
  plain x W hb hx ht := by
    obtain ⟨s, _, ht⟩ := ht
    refine (pplain_tm 1000000 x W (by rw [ht]; exact whole_small s) (by omega) (by rw [ht]; exact whole_wf s) hx).mono ?_
    rintro e w' ⟨z, h1, h2, h3, h4⟩
    exact ⟨z, h1, h2, h3.ok, h4⟩
end Go.Proofs.YtldgbdmiebipnaaDoor

namespace Go.Proofs.YtldgbdmiebipnaaDoor
open Go.RowKit

/-- What a round leaves as it was: all that lay when the call began, and every box of one term. -/
structure KeepsT (n₀ : Nat) (W W' : World) : Prop where
  below : Below n₀ W W'
  same : ∀ (k : Nat) (c : Array Value) (f : Nat × Nat), c.size = 4 → W.heap[k]? = some (Obj.cells c 48 f) → W'.heap[k]? = some (Obj.cells c 48 f)
theorem KeepsT.refl (n₀ : Nat) (W : World) : KeepsT n₀ W W := ⟨Below.refl _ _, fun _ _ _ _ h => h⟩
theorem KeepsT.trans {n₀ : Nat} {A B C : World} (h : KeepsT n₀ A B) (k : KeepsT n₀ B C) : KeepsT n₀ A C := ⟨h.below.trans k.below, fun i c f h4 hi => k.same i c f h4 (h.same i c f h4 hi)⟩
theorem KeepsT.alloc {n₀ : Nat} {A B : World} (h : KeepsT n₀ A B) (hn : n₀ ≤ B.heap.size) (o : Obj) : KeepsT n₀ A (B.alloc o) :=
  ⟨h.below.alloc hn o, fun k c f h4 hk => by
    have := h.same k c f h4 hk
    rw [Below.heap_alloc _ _ _ (Array.getElem?_eq_some_iff.1 this).1]; exact this⟩
/-- Behind growth that turns one block at most, which is no box of a term. -/
theorem KeepsT.grown {n₀ : Nat} {A B C : World} (h : KeepsT n₀ A B) {row : Option Nat} (hg : B.grownBy C row) (hn : n₀ ≤ B.heap.size) (hr : ∀ k, row = some k → n₀ ≤ k ∧ ∀ c f, B.heap[k]? ≠ some (Obj.cells c 48 f)) : KeepsT n₀ A C :=
  ⟨h.below.grown hg hn (fun k e => (hr k e).1), fun k c f h4 hk => by
    have := h.same k c f h4 hk
    rw [hg.block k (Array.getElem?_eq_some_iff.1 this).1 (fun e => (hr k e.symm).2 c f this)]; exact this⟩
theorem KeepsT.setBox {n₀ : Nat} {A W : World} (h : KeepsT n₀ A W) {B : Nat} {t : TypeId} {v : Value} (hb : Boxed W B t v) (ht : t ≠ 48) (hB : n₀ ≤ B) (u : Value) : KeepsT n₀ A (W.setCell ⟨B, 0, none⟩ u) :=
  ⟨h.below.setCell (p := ⟨B, 0, none⟩) hB u, fun k c f h4 hk => by
    have h1 := h.same k c f h4 hk
    have h2 : W.heap[B]? = some (Obj.cells #[v] t (0, 0)) := hb
    rw [Below.heap_setCell _ _ _ _ (fun e => by
      subst e
      rw [h2] at h1
      injection h1 with h1
      injection h1 with _ h1 _
      exact ht h1)]
    exact h1⟩
theorem keepsT_t {n₀ : Nat} {A B C : World} (h : KeepsT n₀ A B) (k : KeepsT n₀ B C) : KeepsT n₀ A C := h.trans k
theorem keepsT_b {n₀ : Nat} {w : World} (hn : n₀ ≤ w.heap.size) (W : World) (l : Nat) (o o' : Obj) (hl : w.heap.size ≤ l) (h : W.heap[l]? = some o) (hc : o.isCells = false) (_ : o.isWalk = false) : KeepsT n₀ W (W.putObj l o') :=
  (KeepsT.refl n₀ W).grown (grownBy_putObj' W l o') (by have := (Array.getElem?_eq_some_iff.1 h).1; omega) (fun k e => by
    cases e
    refine ⟨by omega, fun c f e => ?_⟩
    rw [h] at e
    injection e with e
    subst e
    cases hc)
/-- A box of a term, behind what leaves them. -/
theorem KeepsT.box {n₀ : Nat} {W W' : World} {x0 x1 x2 x3 : Value} (h : KeepsT n₀ (W.alloc (.cells #[x0, x1, x2, x3] 48)) W') : Box W' W.heap.size x0 x1 x2 x3 := by
  have h1 := h.same W.heap.size #[x0, x1, x2, x3] (0, 0) rfl (World.alloc_heap_new W _)
  constructor <;> simp [World.cell?, World.frozen?, h1]

end Go.Proofs.YtldgbdmiebipnaaDoor

namespace Go.Proofs.YtldgbdmiebipnaaDoor
open Go.RowKit Go.Shelf

theorem builderSize : (Tryd.prog.info? 79).map (·.size) = some 2 := by kernel_rfl
theorem builderLies : liesAt Tryd.prog Tryd.prog.depth 79 (2 / Tryd.prog.cellsOf 79) 0 79 1 = true := by kernel_rfl
theorem byteInfo : (Tryd.prog.info? 5).map (fun i => (i.zero, i.size, i.bytes)) = some (some (.int .u8 0), 1, 1) := by kernel_rfl

set_option maxRecDepth 100000 in
set_option maxHeartbeats 400000 in
theorem check_used (b : Nat) (w : World) (h0 : w.cell? ⟨b, 0, none⟩ = some (.pointer (some ⟨b, 0, none⟩))) :
    Calls Tryd.prog 47 #[.pointer (some ⟨b, 0, none⟩)] w fun e w' => e = .returned (.tuple #[]) ∧ w' = w := by
  obtain ⟨j, hj, _⟩ := Option.map_eq_some_iff.1 builderSize
  go_enter Tryd.func47, Tryd.ntmps47
  go_wp2_with fail
  rw [Lib.run_neq_ptr_same w _ Tryd.underlying76 hj]
  go_wp2_with fail
  go_end0
  exact ⟨rfl, rfl⟩

set_option maxRecDepth 100000 in
set_option maxHeartbeats 400000 in
theorem check_fresh (b : Nat) (w : World) (h0 : w.cell? ⟨b, 0, none⟩ = some (.pointer none)) (hsh : w.shape? b = some (79, 2)) (hfz : w.frozen? ⟨b, 0, none⟩ = false) :
    Calls Tryd.prog 47 #[.pointer (some ⟨b, 0, none⟩)] w fun e w' => e = .returned (.tuple #[]) ∧ w' = w.setCell ⟨b, 0, none⟩ (.pointer (some ⟨b, 0, none⟩)) := by
  obtain ⟨j, hj, hjs⟩ := Option.map_eq_some_iff.1 builderSize
  go_enter Tryd.func47, Tryd.ntmps47
  go_wp2_with fail
  rw [Lib.run_to_unsafe w ⟨b, 0, none⟩ Tryd.underlying76 Tryd.underlying116 hj (by rw [hjs]; decide) hsh (Nat.zero_lt_succ 1)]
  simp only [Result.andThen]
  rw [Oper.upon_value]
  go_wp2_with fail
  rw [run_callFunc_extern Tryd.func68 (by kernel_rfl) (by kernel_rfl) (by kernel_rfl) (e := Extern.AbiNoEscape.same) (by kernel_rfl)]
  rw [Lib.run_noEscape]
  simp only [Result.andThen]
  rw [Oper.upon_value]
  go_wp2_with fail
  rw [Lib.run_from_unsafe w ⟨b, 0, none⟩ Tryd.underlying116 Tryd.underlying76 hj hsh builderLies]
  simp only [Result.andThen]
  rw [Oper.upon_value]
  go_wp2_with fail
  go_end0
  exact ⟨rfl, rfl⟩

/-- A builder of the call's own, that holds these bytes. -/
def Bld (B b : Nat) (l : List UInt8) (w : World) : Prop := Lib.IsBuilder 79 5 B b (Lib.byteCells l) w
theorem bld_not_term {b : Nat} {p v : Value} {w : World} (hb : w.heap[b]? = some (Obj.cells #[p, v] 79 (0, 0))) : ∀ c f, w.heap[b]? ≠ some (Obj.cells c 48 f) := fun c f h => by
  rw [hb] at h; injection h with h; injection h with _ h _; exact absurd h (by decide)
theorem KeepsT.setIn {n₀ : Nat} {A W : World} (h : KeepsT n₀ A W) {p : Addr} (hp : n₀ ≤ p.block) (hn : ∀ c f, W.heap[p.block]? ≠ some (Obj.cells c 48 f)) (u : Value) : KeepsT n₀ A (W.setCell p u) :=
  ⟨h.below.setCell hp u, fun k c f h4 hk => by
    have h1 := h.same k c f h4 hk
    rw [Below.heap_setCell _ _ _ _ (fun e => by subst e; exact hn c f h1)]
    exact h1⟩

set_option maxRecDepth 100000 in
set_option maxHeartbeats 1000000 in
theorem wstr_any (B b : Nat) (l : List UInt8) (s : ByteArray) (w : World) (h : Bld B b l w) (hlen : l.length + s.size ≤ 140737488355328) (hBw : B ≤ w.heap.size) :
    Calls Tryd.prog 28 #[.pointer (some ⟨b, 0, none⟩), .string s] w fun e w' => e = .returned (.tuple #[.int .i64 s.size, .nilIface]) ∧ Bld B b (l ++ s.data.toList) w' ∧ KeepsT B w w' := by
  obtain ⟨i0, hi, hz0, hz1, hz2⟩ := info_parts byteInfo
  have hC : Calls Tryd.prog 47 #[.pointer (some ⟨b, 0, none⟩)] w fun e w' => e = .returned (.tuple #[]) ∧ Lib.BuilderAt 79 5 B b (.pointer (some ⟨b, 0, none⟩)) (Lib.byteCells l) w' ∧ KeepsT B w w' := by
    rcases h with h | h
    · refine (check_fresh b w h.cell0 h.shape h.frozen0).mono ?_
      rintro e w' ⟨rfl, rfl⟩
      obtain ⟨hB, v, hbk, _⟩ := id h
      exact ⟨rfl, h.used _, (KeepsT.refl _ _).setIn (p := ⟨b, 0, none⟩) h.1 (bld_not_term hbk) _⟩
    · refine (check_used b w h.cell0).mono ?_
      rintro e w' ⟨rfl, rfl⟩
      exact ⟨rfl, h, KeepsT.refl _ _⟩
  have hll : (Lib.byteCells l).length = l.length := Lib.byteCells_length l
  have hcat : Lib.byteCells (l ++ s.data.toList) = Lib.byteCells l ++ Lib.strCells s := by rw [Lib.byteCells_append, Lib.strCells_eq]
  have HCAT := Lib.hid hcat
  have HC := Lib.hid hC
  have hbl : (Lib.byteCells l).length + s.size ≤ 140737488355328 := by omega
  clear h hC hcat hll
  go_enter Tryd.func28, Tryd.ntmps28
  go_wp2_with fail
  refine HC.out.mono ?_
  rintro e w1 ⟨rfl, h1, hk1⟩
  obtain ⟨hB, v, hbk, hown, hne⟩ := h1
  have hb1 := hk1.below
  have hs1 := hb1.size
  have c0 : w1.cell? ⟨b, 0, none⟩ = some (.pointer (some ⟨b, 0, none⟩)) := by rw [Lib.cell_of_heap hbk]; rfl
  have c1 : w1.cell? ⟨b, 1, none⟩ = some v := by rw [Lib.cell_of_heap hbk]; rfl
  go_wp2_with (at_builtin; refine Lib.wpList_append_own_string _ rfl _ _ 77 9 rfl B 5 i0 Tryd.underlying77 Tryd.underlying9 hi hz0 hz1 hz2 _ _ _ rfl hown s rfl ?c3 ?c4 ?c5 ?_)
  case c3 => unfold maxLen; omega
  case c4 => omega
  case c5 => omega
  intro v' w2 hown' hgrow _
  have hlt : b < w1.heap.size := (Array.getElem?_eq_some_iff.1 hbk).1
  have hb2 : w2.heap[b]? = some (.cells #[.pointer (some ⟨b, 0, none⟩), v] 79 (0, 0)) := by
    rw [hgrow.block b hlt (fun e => hne e.symm)]
    exact hbk
  have d0 : w2.cell? ⟨b, 0, none⟩ = some (.pointer (some ⟨b, 0, none⟩)) := by rw [Lib.cell_of_heap hb2]; rfl
  have d1 : w2.cell? ⟨b, 1, none⟩ = some v := by rw [Lib.cell_of_heap hb2]; rfl
  have f1 : w2.frozen? ⟨b, 1, none⟩ = false := Lib.frozen_of_heap hb2 1
  obtain ⟨ao, n', cap, rfl⟩ : ∃ ao n' cap, v' = .slice ao n' cap := by
    rcases hown'.2 with ⟨hv, _⟩ | ⟨g, cap, cur, hv, _⟩
    · exact ⟨_, _, _, hv⟩
    · exact ⟨_, _, _, hv⟩
  have hk2 : KeepsT B w w2 := hk1.grown hgrow (by omega) (fun k hk => ⟨(hown.lt k hk).1, fun c f e => Lib.ownBlock_ne (B := B) hown e (by decide) hk⟩)
  have HK := Lib.hid (hk2.setIn (p := ⟨b, 1, none⟩) hB (bld_not_term hb2) (.slice ao n' cap))
  have HB := Lib.hid (Lib.BuilderAt.put (T := 79) (e := 5) hB hb2 (bs' := Lib.byteCells l ++ Lib.strCells s) (by simpa [Lib.strCells_length] using hown') (by decide))
  clear hk2 hk1 hb1 hgrow hown' hown hne
  go_wp2_with fail
  go_ret2
  refine ⟨rfl, ?_, HK.out⟩
  show Lib.IsBuilder _ _ _ _ (Lib.byteCells (l ++ s.data.toList)) _
  rw [HCAT.out]
  exact Or.inr HB.out
end Go.Proofs.YtldgbdmiebipnaaDoor

namespace Go.Proofs.YtldgbdmiebipnaaDoor
open Go.RowKit

/-- What the contract of strconv.Itoa asks of a world. -/
structure Pow (w : World) : Prop where
  pow : Lib.TabIs Tryd.prog w "internal/strconv.uint64pow10" .u64 Lib.pow10Tab
  size : 3 < w.heap.size
theorem Pow.below {w w' : World} (h : Pow w) (hb : Below w.heap.size w w') : Pow w' where
  pow := by
    have h1 := h.pow
    unfold Lib.TabIs World.var? at h1 ⊢
    rw [gPow] at h1 ⊢
    simp only [Option.bind_some] at h1 ⊢
    rw [hb.block _ h.size]
    exact h1
  size := Nat.lt_of_lt_of_le h.size hb.size
theorem pow_of {l : List (String × DataW Unit)} {w : World} (h : laidMetH Tryd.prog l w) (hp : (l.all fun x => x.2.handleName?.isNone) = true)
    (h1 : ("internal/strconv.uint64pow10", Rows.laid_internal_strconv_uint64pow10) ∈ l) : Pow w := by
  rw [MakeChecks.laidMetH_plain _ _ _ hp] at h
  have a1 : Lib.TabIs Tryd.prog w "internal/strconv.uint64pow10" .u64 Lib.pow10Tab :=
    Lib.tabIs_of_head (rest := []) gPow gPowType Tryd.underlying160 Tryd.underlying127 cellsU64 cellsPow (laidMet_one h h1)
  exact ⟨a1, lt_of_var gPow a1⟩
end Go.Proofs.YtldgbdmiebipnaaDoor

namespace Go.Proofs.YtldgbdmiebipnaaDoor
open Go.RowKit

set_option maxHeartbeats 400000 in
theorem pdigits_any (n : Int) (h0 : -9223372036854775808 ≤ n) (h1 : n ≤ 9223372036854775807) (w : World) (hT : Pow w) :
    Calls Tryd.prog 89 #[.int .i64 n] w fun e w' => e = .returned (.string ⟨(Lib.itoa n).toArray⟩) ∧ Below w.heap.size w w' := by
  have c := Tryd.strconv_Itoa n h0 h1 w hT.pow
  have C := Lib.hid c
  clear c hT
  go_enter Tryd.func89, Tryd.ntmps89
  go_wp2_with (go_at_call 94; refine C.out.mono ?_; rintro e w' ⟨rfl, k, os, rfl⟩)
  go_ret
  exact ⟨rfl, below_grow _ _ _⟩
end Go.Proofs.YtldgbdmiebipnaaDoor

namespace Go.Proofs.YtldgbdmiebipnaaDoor
open Go.RowKit Go.Shelf

theorem keepsT_in {n₀ : Nat} {W W' : World} (h : Below W.heap.size W W') (hn : n₀ ≤ W.heap.size) : KeepsT n₀ W W' := ⟨h.mono hn, fun k c f _ hk => by rw [h.block k (Array.getElem?_eq_some_iff.1 hk).1]; exact hk⟩
theorem bld_below {B b : Nat} {l : List UInt8} {w w' : World} (h : Bld B b l w) (hb : Below w.heap.size w w') : Bld B b l w' := by
  have key : ∀ p, Lib.BuilderAt 79 5 B b p (Lib.byteCells l) w → Lib.BuilderAt 79 5 B b p (Lib.byteCells l) w' := fun p ⟨hB, v, hbk, hown, hne⟩ =>
    ⟨hB, v, by rw [hb.block b (Array.getElem?_eq_some_iff.1 hbk).1]; exact hbk, own_below hown hb, hne⟩
  exact h.elim (fun h => .inl (key _ h)) (fun h => .inr (key _ h))
/-- What stands ahead of an argument. -/
def sepB (j : Nat) : List UInt8 := if j = 0 then [40] else [44, 32]
theorem pre_step {xs : List Tm} {j : Nat} (hj : j < xs.length) : pre (showsL (xs.take (j + 1))) = pre (showsL (xs.take j)) ++ sepB j ++ showT xs[j] := by
  rw [showsL_take hj]
  by_cases h : j = 0
  · subst h
    rw [List.take_zero, showsL, List.nil_append, pre_first]
    rfl
  · have hne : (showsL (xs.take j)).isEmpty = false := by
      rw [showsL_empty]
      cases xs with
      | nil => simp at hj
      | cons x r => cases j with
        | zero => exact absurd rfl h
        | succ j => rfl
    rw [pre_more _ hne]
    unfold sepB
    rw [if_neg h]

/-- What a call of write leaves, of terms with no more than m parts. -/
def WriteUpto (w0 : World) (B b m : Nat) : Prop := ∀ (x : Tv) (l : List UInt8) (w : World), x.t.parts ≤ m → x.ok w0 → l.length + wtT x.t ≤ 100000000 → Bld B b l w → Below w0.heap.size w0 w → B ≤ w.heap.size →
    Calls Tryd.prog 81 #[.pointer (some ⟨b, 0, none⟩), x.val] w fun e w' => e = .returned (.tuple #[]) ∧ (showT x.t).length + 4 ≤ wtT x.t ∧ Bld B b (l ++ showT x.t) w' ∧ KeepsT B w w'

set_option maxRecDepth 100000 in
set_option maxHeartbeats 2000000 in
theorem writeArgs_tm (w0 : World) (B b m : Nat) (hB : w0.heap.size ≤ B) (hC : WriteUpto w0 B b m) (v : Value) (xs : List Tm) (l : List UInt8) (w : World) (hm : ∀ j (h : j < xs.length), xs[j].parts ≤ m) (hx : Tms w0 v xs) (h0 : xs ≠ [])
    (hlen : l.length + wtL xs + 4 ≤ 100000000) (hb : Bld B b l w) (hb0 : Below w0.heap.size w0 w) (hBw : B ≤ w.heap.size) :
    Calls Tryd.prog 90 #[.pointer (some ⟨b, 0, none⟩), v] w fun e w' => e = .returned (.tuple #[]) ∧ (pre (showsL xs)).length ≤ wtL xs ∧ Bld B b (l ++ (pre (showsL xs) ++ [41])) w' ∧ KeepsT B w w' := by
  obtain ⟨a, c, rfl, hxl, hxr⟩ := hx
  obtain ⟨g, off, rfl, hlt, hr⟩ : ∃ g off, a = some ⟨g, off, none⟩ ∧ g < w0.heap.size ∧ RowAt w0 xs g off := hxr.resolve_left h0
  have HC := Lib.hid hC
  have HM := Lib.hid hm
  have HR := Lib.hid hr
  have WS := Lib.hid (fun l s w h1 h2 h3 => wstr_any B b l s w h1 h2 h3)
  clear hC hm hr hxr
  go_enter Tryd.func90, Tryd.ntmps90
  go_wp2_with fail
  go_loopw [4, 9] (fun s i wr => ∃ j : Nat, j ≤ xs.length ∧ i = .int .i64 j ∧ s = .string ⟨(sepB j).toArray⟩ ∧ Hid ((pre (showsL (xs.take j))).length ≤ wtL (xs.take j)) ∧ Hid (Bld B b (l ++ pre (showsL (xs.take j))) wr) ∧ KeepsT B w wr) (fun _ i _ => xs.length - (intOf i).toNat)
  case atStart => exact ⟨0, Nat.zero_le _, rfl, rfl, Lib.hid (by rw [List.take_zero, showsL]; simp [pre]), Lib.hid (by rw [List.take_zero, showsL]; simp only [pre, List.isEmpty_nil, if_true, List.append_nil]; exact hb), KeepsT.refl _ _⟩
  case round =>
    obtain ⟨j, hj, rfl, rfl, HL, HB, hk⟩ := hrel
    have hbr := hb0.trans (hk.below.mono hB)
    have hbs := hk.below.size
    have hlw := wtL_part xs j
    have hll : (l ++ pre (showsL (xs.take j))).length ≤ l.length + wtL (xs.take j) := by rw [List.length_append]; have := HL.out; omega
    by_cases hjl : j < xs.length
    · have hil : (j : Int) < (xs.length : Int) := by omega
      obtain ⟨u, hu, huk, hat⟩ := tmAt_tv (rowAt_get HR.out hjl)
      obtain ⟨d0, d1, d2, d3⟩ := hat.below hbr
      have hwn := wtL_take hjl
      have hwp := wtL_part xs (j + 1)
      have hps := pre_step hjl
      rw [← hu] at hps hwn
      have HPS := Lib.hid hps
      have HWN := Lib.hid hwn
      have hsl : (sepB j).length ≤ 2 := by unfold sepB; split <;> simp
      have hss : (⟨(sepB j).toArray⟩ : ByteArray).size = (sepB j).length := by show (sepB j).toArray.size = _; simp
      have W1 := WS.out (l ++ pre (showsL (xs.take j))) ⟨(sepB j).toArray⟩ (wr.alloc (.cells #[.int .i64 u.t.kind, .string u.t.name, .int .i64 u.t.n, .slice u.a u.t.args.length u.c] 48)) (bld_below HB.out ((Below.refl _ _).alloc (Nat.le_refl _) _)) (by omega) (by simp; omega)
      have hka := hk.alloc (by omega) (.cells #[.int .i64 u.t.kind, .string u.t.name, .int .i64 u.t.n, .slice u.a u.t.args.length u.c] 48)
      have C := Lib.hid (fun w' h3 h4 h5 => HC.out u (l ++ pre (showsL (xs.take j)) ++ sepB j) w' (by rw [hu]; exact HM.out j hjl) huk (by rw [List.length_append]; omega) h3 h4 h5)
      simp only [Tv.val] at C
      have W1H := Lib.hid W1
      have HSL := Lib.hid hsl
      have HLL := Lib.hid hll
      clear hu huk hat hps hwn W1 hsl hss hll
      go_wp2_with fail
      refine W1H.out.mono ?_; rintro e w1 ⟨rfl, hb1, hk1⟩
      obtain ⟨b0, b1, b2, b3, _, _, _, _⟩ := hk1.box
      have hka1 := hka.trans hk1
      have hb1' : Bld B b (l ++ pre (showsL (xs.take j)) ++ sepB j) w1 := by simpa using hb1
      have C1 := Lib.hid (C.out w1 hb1' (hb0.trans (hka1.below.mono hB)) (by have := hka1.below.size; omega))
      clear hb1 hk1 hb1'
      go_wp2_with fail
      refine C1.out.mono ?_; rintro e w2 ⟨rfl, hlen2, hb2, hk2⟩
      have HL2 := Lib.hid hlen2
      have HB2 := Lib.hid hb2
      have hka2 := hka1.trans hk2
      clear hlen2 hb2 hk2
      go_wp2_with fail
      go_roundw
      case rel =>
        refine ⟨j + 1, by omega, by go_num, ?_, Lib.hid ?_, Lib.hid ?_, hka2⟩
        · unfold sepB; rw [if_neg (by omega)]
        · rw [HPS.out, List.length_append, List.length_append]; have := HL.out; have := HL2.out; have := HSL.out; have := HWN.out; omega
        · rw [HPS.out, ← List.append_assoc, ← List.append_assoc]; exact HB2.out
      case measure => simp [intOf]; omega
    · obtain rfl : j = xs.length := by omega
      rw [List.take_length] at HB HL
      rw [List.take_length] at hll
      have W1 := Lib.hid (WS.out _ ⟨#[41]⟩ wr HB.out (by have := hll; show _ + 1 ≤ _; omega) (by omega))
      have HLL := Lib.hid hll
      clear hll
      go_wp2_with fail
      refine W1.out.mono ?_; rintro e w1 ⟨rfl, hb1, hk1⟩
      have HB1 := Lib.hid hb1
      clear hb1
      go_wp2_with fail
      go_end0
      exact ⟨rfl, HL.out, by rw [← List.append_assoc]; exact HB1.out, hk.trans hk1⟩

set_option maxRecDepth 100000 in
set_option maxHeartbeats 4000000 in
theorem write_tm (w0 : World) (B b : Nat) (hB : w0.heap.size ≤ B) (hP : Pow w0) (m : Nat) : WriteUpto w0 B b m := by
  induction m with
  | zero => intro x l w h; have := parts_pos x.t; omega
  | succ m ih =>
    intro x l w hm hx hlen hb hb0 hBw
    obtain ⟨⟨k, s, n, xs⟩, a, c⟩ := x
    obtain ⟨hfit, hxa⟩ := hx
    have hE : showT (.mk k s n xs) = if k = 1 ∨ k = 2 then s.data.toList else if k = 3 then 36 :: Lib.itoa n else if k = 4 then 37 :: Lib.itoa n else if k ≠ 5 then [63] else s.data.toList ++ pre (showsL xs) ++ close (showsL xs) := by rw [showT]
    have hW : wtT (.mk k s n xs) = s.size + 30 + wtL xs := by rw [wtT]
    simp only [Tv.val, Tm.kind, Tm.name, Tm.n, Tm.args] at hfit hxa hm hlen ⊢
    have hpl : ∀ j (h : j < xs.length), xs[j].parts ≤ m := fun j h => by
      have := parts_arg (.mk k s n xs) (j := j) h
      have e : (Tm.mk k s n xs).args[j] = xs[j] := rfl
      rw [e] at this; omega
    have hil := Lib.itoa_length_le n hfit.nlo hfit.nhi
    have hka : KeepsT B w (w.alloc (.cells #[.int .i64 k, .string s, .int .i64 n, .slice a xs.length c] 48)) := (KeepsT.refl _ _).alloc hBw _
    have hba := bld_below hb ((Below.refl w.heap.size w).alloc (Nat.le_refl _) (.cells #[.int .i64 k, .string s, .int .i64 n, .slice a xs.length c] 48))
    have D := Lib.hid (fun w' (h : Below w0.heap.size w0 w') => pdigits_any n hfit.nlo hfit.nhi w' (hP.below h))
    have WS := Lib.hid (fun l s w h1 h2 h3 => wstr_any B b l s w h1 h2 h3)
    have hss : s.data.toList.length = s.size := by simp
    have hxl := hxa.1
    have W0 := Lib.hid (WS.out l s (w.alloc (.cells #[.int .i64 k, .string s, .int .i64 n, .slice a xs.length c] 48)) hba (by omega) (by simp; omega))
    have WA := Lib.hid (fun l' w' h0 h1 h2 h3 h4 => writeArgs_tm w0 B b m hB ih (.slice a xs.length c) xs l' w' hpl ⟨a, c, rfl, hxa⟩ h0 h1 h2 h3 h4)
    have HB0 := Lib.hid hb0
    have HBA := Lib.hid hba
    clear ih hpl hm hfit hxa hb hb0 hba
    by_cases h12 : k = 1 ∨ k = 2
    · have hr := Lib.hid (show showT (.mk k s n xs) = s.data.toList from by rw [hE, if_pos h12])
      have HW := Lib.hid (show (showT (.mk k s n xs)).length + 4 ≤ wtT (.mk k s n xs) from by rw [hr.out, hss, hW]; omega)
      clear hE hW hss
      rcases h12 with rfl | rfl
      all_goals
        go_enter Tryd.func81, Tryd.ntmps81
        go_wp2_with fail
        refine W0.out.mono ?_; rintro e w1 ⟨rfl, hb1, hk1⟩
        obtain ⟨b0, b1, b2, b3, _, _, _, _⟩ := hk1.box
        have HB1 := Lib.hid hb1
        clear hb1
        go_wp2_with fail
        go_end0
        exact ⟨rfl, HW.out, by rw [hr.out]; exact HB1.out, hka.trans hk1⟩
    · have q1 : (k == 1) = false := by rw [beq_eq_false_iff_ne]; omega
      have q2 : (k == 2) = false := by rw [beq_eq_false_iff_ne]; omega
      rw [if_neg h12] at hE
      by_cases h3 : k = 3
      · have hr := Lib.hid (show showT (.mk k s n xs) = 36 :: Lib.itoa n from by rw [hE, if_pos h3])
        have HW := Lib.hid (show (showT (.mk k s n xs)).length + 4 ≤ wtT (.mk k s n xs) from by rw [hr.out, List.length_cons, hW]; omega)
        subst h3
        clear hE hW hss h12 W0 WA
        generalize Lib.itoa n = il at D hil hr
        have hcs : ((⟨#[36]⟩ : ByteArray) ++ ⟨il.toArray⟩).data.toList = 36 :: il := by simp
        have hcz : ((⟨#[36]⟩ : ByteArray) ++ ⟨il.toArray⟩).size = il.length + 1 := by show ((⟨#[36]⟩ : ByteArray) ++ ⟨il.toArray⟩).data.size = _; rw [← Array.length_toList, hcs]; rfl
        have HCS := Lib.hid hcs
        have HCZ := Lib.hid hcz
        clear hcs hcz
        go_enter Tryd.func81, Tryd.ntmps81
        go_wp2_with fail
        refine (D.out _ (HB0.out.alloc (by omega) _)).mono ?_; rintro e w1 ⟨rfl, hb1⟩
        have hk1 := keepsT_in (n₀ := B) hb1 (by simp; omega)
        have HBD := Lib.hid (bld_below HBA.out hb1)
        have hs1 := hb1.size
        simp at hs1
        go_wp2_with fail
        refine (WS.out l _ _ HBD.out (by have := HCZ.out; simp only [HCZ.out]; omega) (by omega)).mono ?_; rintro e w2 ⟨rfl, hb2, hk2⟩
        have hkk := hk1.trans hk2
        obtain ⟨b0, b1, b2, b3, _, _, _, _⟩ := hkk.box
        have HB1 := Lib.hid hb2
        clear hb2
        go_wp2_with fail
        go_end0
        exact ⟨rfl, HW.out, by rw [hr.out, ← HCS.out]; exact HB1.out, hka.trans hkk⟩
      by_cases h4 : k = 4
      · have hr := Lib.hid (show showT (.mk k s n xs) = 37 :: Lib.itoa n from by rw [hE, if_neg h3, if_pos h4])
        have HW := Lib.hid (show (showT (.mk k s n xs)).length + 4 ≤ wtT (.mk k s n xs) from by rw [hr.out, List.length_cons, hW]; omega)
        subst h4
        clear hE hW hss h12 W0 WA
        generalize Lib.itoa n = il at D hil hr
        have hcs : ((⟨#[37]⟩ : ByteArray) ++ ⟨il.toArray⟩).data.toList = 37 :: il := by simp
        have hcz : ((⟨#[37]⟩ : ByteArray) ++ ⟨il.toArray⟩).size = il.length + 1 := by show ((⟨#[37]⟩ : ByteArray) ++ ⟨il.toArray⟩).data.size = _; rw [← Array.length_toList, hcs]; rfl
        have HCS := Lib.hid hcs
        have HCZ := Lib.hid hcz
        clear hcs hcz
        go_enter Tryd.func81, Tryd.ntmps81
        go_wp2_with fail
        refine (D.out _ (HB0.out.alloc (by omega) _)).mono ?_; rintro e w1 ⟨rfl, hb1⟩
        have hk1 := keepsT_in (n₀ := B) hb1 (by simp; omega)
        have HBD := Lib.hid (bld_below HBA.out hb1)
        have hs1 := hb1.size
        simp at hs1
        go_wp2_with fail
        refine (WS.out l _ _ HBD.out (by have := HCZ.out; simp only [HCZ.out]; omega) (by omega)).mono ?_; rintro e w2 ⟨rfl, hb2, hk2⟩
        have hkk := hk1.trans hk2
        obtain ⟨b0, b1, b2, b3, _, _, _, _⟩ := hkk.box
        have HB1 := Lib.hid hb2
        clear hb2
        go_wp2_with fail
        go_end0
        exact ⟨rfl, HW.out, by rw [hr.out, ← HCS.out]; exact HB1.out, hka.trans hkk⟩
      have q3 : (k == 3) = false := by rw [beq_eq_false_iff_ne]; exact h3
      have q4 : (k == 4) = false := by rw [beq_eq_false_iff_ne]; exact h4
      rw [if_neg h3, if_neg h4] at hE
      by_cases h5 : k = 5
      case neg =>
        have hr := Lib.hid (show showT (.mk k s n xs) = [63] from by rw [hE, if_pos h5])
        have HW := Lib.hid (show (showT (.mk k s n xs)).length + 4 ≤ wtT (.mk k s n xs) from by rw [hr.out, hW]; simp; omega)
        have q5 : (k == 5) = false := by rw [beq_eq_false_iff_ne]; exact h5
        have WQ := Lib.hid (WS.out l ⟨#[63]⟩ _ HBA.out (by show l.length + 1 ≤ _; omega) (by simp; omega))
        clear hE hW hss h12 W0 WA h3 h4 h5
        go_enter Tryd.func81, Tryd.ntmps81
        go_wp2_with fail
        refine WQ.out.mono ?_; rintro e w1 ⟨rfl, hb1, hk1⟩
        obtain ⟨b0, b1, b2, b3, _, _, _, _⟩ := hk1.box
        have HB1 := Lib.hid hb1
        clear hb1
        go_wp2_with fail
        go_end0
        exact ⟨rfl, HW.out, by rw [hr.out]; exact HB1.out, hka.trans hk1⟩
      subst h5
      rw [if_neg (by simp)] at hE
      by_cases hx : xs = []
      · subst hx
        have hr := Lib.hid (show showT (.mk 5 s n []) = s.data.toList from by rw [hE, showsL]; simp [pre, close])
        have HW := Lib.hid (show (showT (.mk 5 s n [])).length + 4 ≤ wtT (.mk 5 s n []) from by rw [hr.out, hss, hW]; omega)
        simp only [List.length_nil] at hka W0
        clear hE hW hss h12 WA h3 h4
        go_enter Tryd.func81, Tryd.ntmps81
        go_wp2_with fail
        refine W0.out.mono ?_; rintro e w1 ⟨rfl, hb1, hk1⟩
        obtain ⟨b0, b1, b2, b3, _, _, _, _⟩ := hk1.box
        have HB1 := Lib.hid hb1
        clear hb1
        go_wp2_with fail
        go_end0
        exact ⟨rfl, HW.out, by rw [hr.out]; exact HB1.out, hka.trans hk1⟩
      · have hne : (showsL xs).isEmpty = false := by
          rw [showsL_empty]; cases xs with
          | nil => exact absurd rfl hx
          | cons _ _ => rfl
        have hr := Lib.hid (show showT (.mk 5 s n xs) = s.data.toList ++ (pre (showsL xs) ++ [41]) from by rw [hE, List.append_assoc]; unfold close; rw [hne]; rfl)
        have hx1 : 0 < (xs.length : Int) := by have := List.length_pos_iff.2 hx; omega
        have HX := Lib.hid hx
        have HWW := Lib.hid hW
        have HSS := Lib.hid hss
        clear hE hW hss h12 h3 h4 hx hne
        go_enter Tryd.func81, Tryd.ntmps81
        go_wp2_with fail
        refine W0.out.mono ?_; rintro e w1 ⟨rfl, hb1, hk1⟩
        obtain ⟨b0, b1, b2, b3, _, _, _, _⟩ := hk1.box
        have hk01 := hka.trans hk1
        have hbw := hk01.below.size
        have W2 := Lib.hid (WA.out (l ++ s.data.toList) w1 HX.out (by rw [List.length_append]; have := HWW.out; have := HSS.out; omega) hb1 (HB0.out.trans (hk01.below.mono hB)) (by omega))
        clear hb1
        go_wp2_with fail
        refine W2.out.mono ?_; rintro e w2 ⟨rfl, hl2, hb2, hk2⟩
        have HB2 := Lib.hid hb2
        have HL2 := Lib.hid hl2
        clear hb2 hl2
        go_wp2_with fail
        go_end0
        exact ⟨rfl, by rw [hr.out, List.length_append, List.length_append, HSS.out, HWW.out]; have := HL2.out; simp; omega, by rw [hr.out, ← List.append_assoc]; exact HB2.out, hk01.trans hk2⟩

set_option maxRecDepth 100000 in
set_option maxHeartbeats 1000000 in
/-- A term as a text, by the program's Show. -/
theorem pshow_tm (x : Tv) (w : World) (hx : x.ok w) (hP : Pow w) (hw : wtT x.t ≤ 100000000) :
    Calls Tryd.prog 70 #[x.val] w fun e w' => e = .returned (.string ⟨(showT x.t).toArray⟩) ∧ Below w.heap.size w w' := by
  have hW := fun B b hB => write_tm w B b hB hP x.t.parts x
  obtain ⟨t, a, c⟩ := x
  simp only [Tv.val] at hW hw ⊢
  have hz0 : (w.alloc (.cells #[.int .i64 t.kind, .string t.name, .int .i64 t.n, .slice a t.args.length c] 48)).heap.size = w.heap.size + 1 := by simp
  have hF := Lib.fresh_isBuilder 79 5 (w.alloc (.cells #[.int .i64 t.kind, .string t.name, .int .i64 t.n, .slice a t.args.length c] 48))
  rw [hz0] at hF
  have hB1 : Below w.heap.size w ((w.alloc (.cells #[.int .i64 t.kind, .string t.name, .int .i64 t.n, .slice a t.args.length c] 48)).alloc (.cells #[.pointer none, .slice none 0 0] 79)) := ((Below.refl _ _).alloc (Nat.le_refl _) _).alloc (by simp) _
  have C := Lib.hid (hW (w.heap.size + 1) (w.heap.size + 1) (by omega) [] _ (Nat.le_refl _) hx (by simpa using hw) hF hB1 (by simp))
  have HB1 := Lib.hid hB1
  clear hW hF hx hB1
  go_enter Tryd.func70, Tryd.ntmps70
  go_wp2_with fail
  refine C.out.mono ?_; rintro e w1 ⟨rfl, _, hb1, hk1⟩
  rw [List.nil_append] at hb1
  have S := Lib.hid (Tryd.Builder_String_any (w.heap.size + 1) (w.heap.size + 1) (showT t) w1 hb1 (by have := hk1.below.size; simp at this; omega))
  have HK := Lib.hid (HB1.out.trans (hk1.below.mono (by omega)))
  clear hb1 hk1 C
  go_wp2_with fail
  refine S.out.mono ?_; rintro e w2 ⟨rfl, hb2⟩
  go_wp2_with fail
  go_ret
  exact ⟨rfl, HK.out.trans (hb2.mono (by omega))⟩
end Go.Proofs.YtldgbdmiebipnaaDoor

namespace Go.Proofs.YtldgbdmiebipnaaDoor
open Go.RowKit

/-- A row of texts with that between, and a blank ahead, if there are any. -/
def rowT (sep : List UInt8) (ls : List (List UInt8)) : List UInt8 := if ls.isEmpty then [] else 32 :: Lib.join ls sep
theorem oneP_most (L : List Tok) (x : It) (i : Nat) (c : UInt8) : (oneP x L i c).1.words.length ≤ x.words.length + (if c = 119 ∨ c = 110 then 1 else 0) ∧ (c ≠ 108 → (oneP x L i c).1.trees.length ≤ x.trees.length + (if c = 116 then 1 else 0)) := by
  unfold oneP
  by_cases h1 : c = 119
  · rw [if_pos h1, if_pos (show c = 119 ∨ c = 110 from .inl h1)]
    refine ⟨?_, fun _ => ?_⟩
    all_goals (split <;> simp)
  rw [if_neg h1]
  by_cases h2 : c = 110
  · rw [if_pos h2, if_pos (show c = 119 ∨ c = 110 from .inr h2)]
    refine ⟨?_, fun _ => ?_⟩
    all_goals (split <;> simp)
  rw [if_neg h2, if_neg (show ¬ (c = 119 ∨ c = 110) from fun e => e.elim h1 h2)]
  by_cases h3 : c = 116
  · rw [if_pos h3, if_pos h3]
    refine ⟨?_, fun _ => ?_⟩
    all_goals (split <;> simp)
  rw [if_neg h3, if_neg h3]
  by_cases h4 : c = 108
  · rw [if_pos h4]
    refine ⟨?_, fun h => absurd h4 h⟩
    split <;> simp
  rw [if_neg h4]
  refine ⟨?_, fun _ => ?_⟩
  all_goals (split <;> simp)
theorem goP_most (L : List Tok) : ∀ (r : List UInt8) (x : It) (i : Nat), (goP L r x i).1.words.length ≤ x.words.length + wN r ∧ ((r.all fun c => c != 108) = true → (goP L r x i).1.trees.length ≤ x.trees.length + tN r)
  | [], x, i => by rw [goP]; exact ⟨by simp, fun _ => by simp⟩
  | c :: r, x, i => by
    rw [goP]
    rw [wN_cons, tN_cons]
    by_cases h1 : (oneP x L i c).2.2 = false
    · rw [if_pos h1]; exact ⟨by simp only; omega, fun _ => by simp only; omega⟩
    · rw [if_neg h1]
      have a := oneP_most L x i c
      have b := goP_most L r (oneP x L i c).1 (oneP x L i c).2.1
      refine ⟨by omega, fun h => ?_⟩
      rw [List.all_cons, Bool.and_eq_true] at h
      have a2 := a.2 (by simpa using h.1)
      have b2 := b.2 h.2
      omega
/-- As many words and trees as its key wants. -/
def LenI (x : It) : Prop := x.words.length ≤ wN (shapesOf x.key) ∧ (((shapesOf x.key).all fun c => c != 108) = true → x.trees.length ≤ tN (shapesOf x.key))
theorem itemsF_most {L : List Tok} : ∀ (f i : Nat) (xs : List It), itemsF f L i = .inr xs → ∀ x ∈ xs, LenI x
  | 0, i, xs, h => by rw [itemsF] at h; cases h
  | f + 1, i, xs, h => by
    rw [itemsF] at h
    split at h
    · cases h; intro x hx; cases hx
    split at h
    · cases h
    split at h
    · cases h
    · split at h
      · cases h
      · next r hr =>
        cases h
        intro x hx
        rcases List.mem_cons.1 hx with rfl | hx
        · have hf := goP_most L (shapesOf (tkD L i).text) ⟨(tkD L i).text, (tkD L i).place, [], []⟩ (i + 1)
          have hk := (goP_key L (shapesOf (tkD L i).text) ⟨(tkD L i).text, (tkD L i).place, [], []⟩ (i + 1)).1
          simp only [List.length_nil, Nat.zero_add] at hf
          exact ⟨by rw [hk]; exact hf.1, by rw [hk]; exact hf.2⟩
        · exact itemsF_most f _ r hr x hx
theorem items_most (s : ByteArray) : ∀ x ∈ (parseS s).2.2, LenI x := by
  by_cases h0 : (parseS s).1 = 0
  · obtain ⟨h8, ts, xs, h1, h2, h3⟩ := parseS_ok h0
    rw [h3]
    simp only
    exact itemsF_most _ _ xs h2
  · rw [parseS_bad h0]; intro x hx; cases hx

def kFun : ByteArray := ⟨#[102, 117, 110]⟩
def kRule : ByteArray := ⟨#[114, 117, 108, 101]⟩
def kFrame : ByteArray := ⟨#[102, 114, 97, 109, 101]⟩
def sepWB (k : ByteArray) : List UInt8 := if (k.toList == kFun.toList) = true then [47] else [32]
def colNB (k : ByteArray) : List UInt8 := if (k.toList == kFrame.toList) = true then [58] else []
def sepTB (k : ByteArray) : List UInt8 := if (k.toList == kRule.toList) = true then [32, 61, 32] else if (k.toList == kFrame.toList) = true then [59, 32] else [32]
theorem sepS_rowT : ∀ (ts : List Tr), sepS [32] [59] ts = rowT [59, 32] (ts.map shR)
  | [] => rfl
  | [t] => by rw [sepS]; unfold rowT; rw [List.map_cons, List.map_nil, Lib.join_one]; rfl
  | t :: u :: r => by
    have ih := sepS_rowT (u :: r)
    rw [sepS, ih]
    unfold rowT
    rw [List.map_cons, List.map_cons, Lib.join_cons, Lib.join_cons]
    simp [Lib.joinTail]
/-- An item as a line, as the program puts it together. -/
def lineQ (x : It) : List UInt8 := x.key.data.toList ++ rowT (sepWB x.key) (x.words.map fun t => t.text.data.toList) ++ colNB x.key ++ rowT (sepTB x.key) (x.trees.map shR) ++ [46, 10]
theorem len0 {α : Type} {l : List α} (h : l.length ≤ 0) : l = [] := List.eq_nil_of_length_eq_zero (by omega)
theorem len1 {α : Type} {l : List α} (h : 1 ≤ l.length) (h2 : l.length ≤ 1) : ∃ a, l = [a] := List.length_eq_one_iff.1 (by omega)
theorem len2 {α : Type} {l : List α} (h : 2 ≤ l.length) (h2 : l.length ≤ 2) : ∃ a b, l = [a, b] := by
  match l, h, h2 with
  | [a, b], _, _ => exact ⟨a, b, rfl⟩
  | a :: b :: c :: r, _, h2 => exact absurd h2 (by simp)
theorem lineQ_eq {x : It} (hf : FitI x) (hl : LenI x) : lineS x ++ [10] = lineQ x := by
  obtain ⟨k, sp, ws, ts⟩ := x
  obtain ⟨f1, f2⟩ := hf
  obtain ⟨l1, l2⟩ := hl
  simp only at f1 f2 l1 l2
  unfold lineS lineQ
  simp only
  by_cases h1 : (k.toList == kFun.toList) = true
  · have e := (Lib.bytes_beq_iff _ _).1 h1
    subst e
    rw [show shapesOf kFun = [119, 47, 110, 46] from by kernel_rfl] at *
    obtain ⟨a, b, rfl⟩ := len2 f1 l1
    obtain rfl := len0 (l2 (by decide))
    simp [lineR, rowT, Lib.join, List.intercalate, show sepWB kFun = [47] from by kernel_rfl, show colNB kFun = [] from by kernel_rfl]
  by_cases h2 : (k.toList == kRule.toList) = true
  · have e := (Lib.bytes_beq_iff _ _).1 h2
    subst e
    rw [show shapesOf kRule = [116, 61, 116, 46] from by kernel_rfl] at *
    obtain rfl := len0 l1
    obtain ⟨a, b, rfl⟩ := len2 f2 (l2 (by decide))
    simp [lineR, rowT, Lib.join, List.intercalate, show sepTB kRule = [32, 61, 32] from by kernel_rfl, show colNB kRule = [] from by kernel_rfl]
  by_cases h3 : (k.toList == kFrame.toList) = true
  · have e := (Lib.bytes_beq_iff _ _).1 h3
    subst e
    rw [show shapesOf kFrame = [119, 58, 108, 46] from by kernel_rfl] at *
    obtain ⟨a, rfl⟩ := len1 f1 l1
    have hs := sepS_rowT ts
    simp [lineR, hs, show sepTB kFrame = [59, 32] from by kernel_rfl, show colNB kFrame = [58] from by kernel_rfl]
    simp [rowT, Lib.join, List.intercalate]
  have e1 : sepWB k = [32] := by unfold sepWB; rw [if_neg h1]
  have e2 : colNB k = [] := by unfold colNB; rw [if_neg h3]
  have e3 : sepTB k = [32] := by unfold sepTB; rw [if_neg h2, if_neg h3]
  rw [e1, e2, e3]
  have hsh : shapesOf k = [119, 46] ∨ shapesOf k = [119, 116, 46] ∨ shapesOf k = [119, 119, 46] ∨ shapesOf k = [116, 46] := by
    unfold kFun at h1
    unfold kRule at h2
    unfold kFrame at h3
    unfold shapesOf
    rw [if_neg h1]
    split
    · exact .inl rfl
    split
    · exact .inr (.inl rfl)
    split
    · exact .inr (.inr (.inl rfl))
    · exact .inr (.inr (.inr rfl))
  rcases hsh with h | h | h | h
  · rw [h] at f1 f2 l1 l2 ⊢
    obtain ⟨a, rfl⟩ := len1 f1 l1
    obtain rfl := len0 (l2 (by decide))
    simp [lineR, rowT, Lib.join, List.intercalate]
  · rw [h] at f1 f2 l1 l2 ⊢
    obtain ⟨a, rfl⟩ := len1 f1 l1
    obtain ⟨b, rfl⟩ := len1 f2 (l2 (by decide))
    simp [lineR, rowT, Lib.join, List.intercalate]
  · rw [h] at f1 f2 l1 l2 ⊢
    obtain ⟨a, b, rfl⟩ := len2 f1 l1
    obtain rfl := len0 (l2 (by decide))
    simp [lineR, rowT, Lib.join, List.intercalate]
  · rw [h] at f1 f2 l1 l2 ⊢
    obtain rfl := len0 l1
    obtain ⟨b, rfl⟩ := len1 f2 (l2 (by decide))
    simp [lineR, rowT, Lib.join, List.intercalate]
end Go.Proofs.YtldgbdmiebipnaaDoor

namespace Go.Proofs.YtldgbdmiebipnaaDoor
open Go.RowKit

theorem cat_blank (l : List UInt8) : (⟨#[32]⟩ : ByteArray) ++ ⟨l.toArray⟩ = ⟨(32 :: l).toArray⟩ := by
  have h : ((⟨#[32]⟩ : ByteArray) ++ ⟨l.toArray⟩).data = (32 :: l).toArray := by simp
  cases hx : (⟨#[32]⟩ : ByteArray) ++ ⟨l.toArray⟩
  rw [hx] at h
  simp only at h
  rw [h]
theorem cat_blank0 (l : List UInt8) : (⟨#[32]⟩ : ByteArray) ++ ⟨#[]⟩ ++ ⟨l.toArray⟩ = ⟨(32 :: l).toArray⟩ := by
  rw [show (⟨#[32]⟩ : ByteArray) ++ ⟨#[]⟩ = ⟨#[32]⟩ from by decide]; exact cat_blank l
theorem join_take_len (sep : List UInt8) (ls : List (List UInt8)) : ls.length ≤ (Lib.join ls sep).length + ls.length := by omega
/-- Texts of a row's first trees. -/
theorem texts_step (g : Tr → ByteArray) {xs : List Tr} {j : Nat} (h : j < xs.length) : (xs.take (j + 1)).map g = (xs.take j).map g ++ [g xs[j]] := by
  rw [List.take_succ_eq_append_getElem h, List.map_append]; rfl

set_option maxRecDepth 100000 in
theorem ptext_any (y : Rv) (w : World) : Calls Tryd.prog 49 #[y.val] w fun e w' => e = .returned (.string y.t.text) ∧ Below w.heap.size w w' := by
  unfold Rv.val
  go_enter Tryd.func49, Tryd.ntmps49
  go_wp2_with fail
  go_ret
  exact ⟨rfl, (Below.refl _ _).alloc (Nat.le_refl _) _⟩

set_option maxRecDepth 100000 in
theorem pshown_any (y : Rv) (w : World) (hP : Pow w) (hp : y.t.parts ≤ 1000000) (hwf : WfR y.t) (hw : wtT (plainR y.t) ≤ 100000000) (hy : y.ok w) :
    Calls Tryd.prog 50 #[y.val] w fun e w' => e = .returned (.string ⟨(shR y.t).toArray⟩) ∧ Below w.heap.size w w' := by
  have hB0 : Below w.heap.size w (w.alloc (.cells #[.int .i64 y.t.kind, .string y.t.text, .int .i64 y.t.n, .int .i64 y.t.spot, .slice y.a y.t.args.length y.c] 36)) := (Below.refl _ _).alloc (Nat.le_refl _) _
  have PL := Lib.hid (pplain_tm 1000000 y _ hp (by omega) hwf (hy.below hB0))
  have PS := Lib.hid (fun (z : Tv) (W : World) (hb : Below w.heap.size w W) (hz : z.t = plainR y.t) (hzo : z.ok W) => pshow_tm z W hzo (hP.below hb) (by rw [hz]; exact hw))
  have HB0 := Lib.hid hB0
  unfold Rv.val at PL ⊢
  obtain ⟨s, hs⟩ : ∃ s, shR y.t = s := ⟨_, rfl⟩
  have HS := Lib.hid (show showT (plainR y.t) = s from hs)
  rw [hs]
  clear hs hB0 hy hwf hw
  go_enter Tryd.func50, Tryd.ntmps50
  go_wp2_with fail
  refine PL.out.mono ?_
  rintro e w1 ⟨z, rfl, hz, hm, hb1⟩
  have HB1 := Lib.hid (below_next HB0.out hb1)
  have C := PS.out z w1 HB1.out hz hm.ok
  rw [hz, HS.out] at C
  replace C := Lib.hid C
  unfold Tv.val at C ⊢
  clear hz hm hb1
  go_wp2_with fail
  refine C.out.mono ?_
  rintro e w2 ⟨rfl, hb2⟩
  go_wp2_with fail
  go_ret
  exact ⟨rfl, below_next HB1.out hb2⟩

set_option maxRecDepth 100000 in
set_option maxHeartbeats 4000000 in
theorem prow_text (g : Tr → ByteArray) (v : Value) (xs : List Tr) (sep : ByteArray) (w : World) (hx : Trs w v xs) (hn : xs.length ≤ 1000000000) (hlen : (Lib.join (xs.map fun t => (g t).data.toList) sep.data.toList).length ≤ 1000000000)
    (F : ∀ (y : Rv) (W : World), Below w.heap.size w W → y.t ∈ xs → y.ok W → Calls Tryd.prog 49 #[y.val] W fun e w' => e = .returned (.string (g y.t)) ∧ Below W.heap.size W w') :
    Calls Tryd.prog 48 #[v, .string sep, .func (.func 49) #[] #[]] w fun e w' => e = .returned (.string ⟨(rowT sep.data.toList (xs.map fun t => (g t).data.toList)).toArray⟩) ∧ Below w.heap.size w w' := by
  obtain ⟨a, c, rfl, hal, _, hxo⟩ := hx.open_
  obtain ⟨i0, hi, hz0, hz1, hz2⟩ := info_parts strInfo
  by_cases h0 : xs = []
  · subst h0
    clear F hxo hx hal hlen hn
    go_enter Tryd.func48, Tryd.ntmps48
    go_wp2_with fail
    go_ret
    exact ⟨rfl, Below.refl _ _⟩
  · have hpos : 0 < xs.length := List.length_pos_iff.2 h0
    have hq0 : ((xs.length : Int) == 0) = false := by rw [beq_eq_false_iff_ne]; omega
    obtain ⟨b, o, rfl, hlt, hX⟩ := hxo.resolve_left h0
    have HX := Lib.hid hX
    have HF := Lib.hid F
    have HLEN := Lib.hid hlen
    clear hX hx F hlen
    go_enter Tryd.func48, Tryd.ntmps48
    go_wp2_with fail
    go_loopw [7, 15] (fun s i wr => ∃ j : Nat, j ≤ xs.length ∧ i = .int .i64 j ∧ wr.ownsRow w.heap.size 9 1 s j (((xs.take j).map g).map Value.string) ∧ Below w.heap.size w wr) (fun _ i _ => xs.length - (intOf i).toNat)
    case atStart => exact ⟨0, Nat.zero_le _, rfl, World.ownsRow_nil _ _ _ _, Below.refl _ _⟩
    case round =>
      obtain ⟨j, hj, rfl, hown, hb⟩ := hrel
      by_cases hj1 : j < xs.length
      · have hi1 : (j : Int) < (xs.length : Int) := by omega
        have hi0 : (0 : Int) ≤ (j : Int) := by omega
        obtain ⟨y, hyt, hyk, hya⟩ := HX.out j xs[j] (List.getElem?_eq_getElem hj1)
        obtain ⟨m0, m1, m2, m3, m4⟩ := hya.below hb
        have hbs := hb.size
        have hb1 : Below w.heap.size w (wr.alloc (.cells #[.int .i64 y.t.kind, .string y.t.text, .int .i64 y.t.n, .int .i64 y.t.spot, .slice y.a y.t.args.length y.c] 36)) := hb.alloc hbs _
        have C := HF.out y _ hb1 (by rw [hyt]; exact List.getElem_mem hj1) (hyk.below hb1)
        have HG := Lib.hid (show ((xs.take (j + 1)).map g).map Value.string = ((xs.take j).map g).map Value.string ++ [.string (g y.t)] by rw [texts_step g hj1, List.map_append, hyt]; rfl)
        obtain ⟨gs, hgs⟩ : ∃ gs, g y.t = gs := ⟨_, rfl⟩
        rw [hgs] at C HG
        unfold Rv.val at C
        replace C := Lib.hid C
        have HB1 := Lib.hid hb1
        have HOWN := Lib.hid (hown.alloc (.cells #[.int .i64 y.t.kind, .string y.t.text, .int .i64 y.t.n, .int .i64 y.t.spot, .slice y.a y.t.args.length y.c] 36))
        have HGE := Lib.hid (fun g q => own_row_lt hown g q)
        clear hown hb1 hyk hya hyt hgs
        go_wp2_with fail
        refine C.out.mono ?_; rintro e w2 ⟨rfl, hb2⟩
        have hown2 := own_at (w' := w2) HOWN.out fun g q => hb2.block g (own_row_lt HOWN.out g q)
        have hb3 := below_next HB1.out hb2
        have hs3 := hb3.size
        obtain ⟨bxs, hbxs⟩ : ∃ l, ((xs.take j).map g).map Value.string = l := ⟨_, rfl⟩
        rw [hbxs] at hown2 HG
        have HB3 := Lib.hid hb3
        clear hbxs hb2 hb3 C HOWN HB1 hb
        go_wp2_with (at_builtin; refine wpList_append_own _ rfl _ _ 95 rfl w.heap.size 9 i0 (.string ⟨#[]⟩) 1 16 Tryd.underlying95 hi hz0 hz1 hz2 rfl (by decide) _ j _ rfl (hown2.alloc _) ⟨w2.heap.size, 0, none⟩ 1 1 [.string gs] rfl rfl ?c1 ?c2 ?c3 ?c4 ?c5 ?_)
        case c1 => exact cell_one_new _ _ _
        case c2 => intro u hu; simp at hu; rw [hu]; rfl
        case c3 => unfold maxLen; omega
        case c4 => omega
        case c5 => simp; omega
        intro v' w4 hown' hgrow _
        have HB4 := Lib.hid ((HB3.out.alloc hs3 (.cells #[.string gs] 9)).grown hgrow (by simp; omega) (own_row_ge hown2))
        have HO := Lib.hid hown'
        clear hown' hgrow hown2
        go_wp2_with fail
        go_roundw
        case rel => exact ⟨j + 1, by omega, by go_num, by rw [HG.out]; exact HO.out, HB4.out⟩
        case measure => simp [intOf]; omega
      · obtain rfl : j = xs.length := by omega
        have hi1 : decide ((xs.length : Int) < (xs.length : Int)) = false := decide_eq_false (by omega)
        rw [List.take_length] at hown
        rcases own_cells hown with ⟨rfl, h1⟩ | ⟨gg, cap, rfl, hg, hcap, hcell⟩
        · exact absurd (List.map_eq_nil_iff.1 h1) h0
        · have hmm : (xs.map g).map (fun s => s.data.toList) = xs.map fun t => (g t).data.toList := by rw [List.map_map]; rfl
          have J := Lib.hid (Tryd.strings_Join gg 0 cap (xs.map g) sep wr hcell hg (by rw [List.length_map]; omega) hcap (by rw [hmm]; have := HLEN.out; omega))
          rw [List.length_map] at J ⊢
          rw [hmm] at J
          have HR := Lib.hid (show rowT sep.data.toList (xs.map fun t => (g t).data.toList) = 32 :: Lib.join (xs.map fun t => (g t).data.toList) sep.data.toList by unfold rowT; rw [if_neg (by simpa using h0)])
          have HB := Lib.hid hb
          obtain ⟨jl, hjl⟩ : ∃ l, Lib.join (xs.map fun t => (g t).data.toList) sep.data.toList = l := ⟨_, rfl⟩
          rw [hjl] at J HR HLEN
          have hll := HLEN.out
          have hsz : (⟨jl.toArray⟩ : ByteArray).size = jl.length := by simp [ByteArray.size]
          clear hown hcell hb hmm hjl
          go_wp2_with fail
          refine J.out.mono ?_; rintro e w5 ⟨rfl, hb5⟩
          go_wp2_with fail
          go_ret
          exact ⟨by rw [HR.out]; exact congrArg (fun b => Ending.returned (.string b)) (cat_blank0 _), HB.out.trans (hb5.mono HB.out.size)⟩

set_option maxRecDepth 100000 in
set_option maxHeartbeats 4000000 in
theorem prow_shown (g : Tr → ByteArray) (v : Value) (xs : List Tr) (sep : ByteArray) (w : World) (hx : Trs w v xs) (hn : xs.length ≤ 1000000000) (hlen : (Lib.join (xs.map fun t => (g t).data.toList) sep.data.toList).length ≤ 1000000000)
    (F : ∀ (y : Rv) (W : World), Below w.heap.size w W → y.t ∈ xs → y.ok W → Calls Tryd.prog 50 #[y.val] W fun e w' => e = .returned (.string (g y.t)) ∧ Below W.heap.size W w') :
    Calls Tryd.prog 48 #[v, .string sep, .func (.func 50) #[] #[]] w fun e w' => e = .returned (.string ⟨(rowT sep.data.toList (xs.map fun t => (g t).data.toList)).toArray⟩) ∧ Below w.heap.size w w' := by
  obtain ⟨a, c, rfl, hal, _, hxo⟩ := hx.open_
  obtain ⟨i0, hi, hz0, hz1, hz2⟩ := info_parts strInfo
  by_cases h0 : xs = []
  · subst h0
    clear F hxo hx hal hlen hn
    go_enter Tryd.func48, Tryd.ntmps48
    go_wp2_with fail
    go_ret
    exact ⟨rfl, Below.refl _ _⟩
  · have hpos : 0 < xs.length := List.length_pos_iff.2 h0
    have hq0 : ((xs.length : Int) == 0) = false := by rw [beq_eq_false_iff_ne]; omega
    obtain ⟨b, o, rfl, hlt, hX⟩ := hxo.resolve_left h0
    have HX := Lib.hid hX
    have HF := Lib.hid F
    have HLEN := Lib.hid hlen
    clear hX hx F hlen
    go_enter Tryd.func48, Tryd.ntmps48
    go_wp2_with fail
    go_loopw [7, 15] (fun s i wr => ∃ j : Nat, j ≤ xs.length ∧ i = .int .i64 j ∧ wr.ownsRow w.heap.size 9 1 s j (((xs.take j).map g).map Value.string) ∧ Below w.heap.size w wr) (fun _ i _ => xs.length - (intOf i).toNat)
    case atStart => exact ⟨0, Nat.zero_le _, rfl, World.ownsRow_nil _ _ _ _, Below.refl _ _⟩
    case round =>
      obtain ⟨j, hj, rfl, hown, hb⟩ := hrel
      by_cases hj1 : j < xs.length
      · have hi1 : (j : Int) < (xs.length : Int) := by omega
        have hi0 : (0 : Int) ≤ (j : Int) := by omega
        obtain ⟨y, hyt, hyk, hya⟩ := HX.out j xs[j] (List.getElem?_eq_getElem hj1)
        obtain ⟨m0, m1, m2, m3, m4⟩ := hya.below hb
        have hbs := hb.size
        have hb1 : Below w.heap.size w (wr.alloc (.cells #[.int .i64 y.t.kind, .string y.t.text, .int .i64 y.t.n, .int .i64 y.t.spot, .slice y.a y.t.args.length y.c] 36)) := hb.alloc hbs _
        have C := HF.out y _ hb1 (by rw [hyt]; exact List.getElem_mem hj1) (hyk.below hb1)
        have HG := Lib.hid (show ((xs.take (j + 1)).map g).map Value.string = ((xs.take j).map g).map Value.string ++ [.string (g y.t)] by rw [texts_step g hj1, List.map_append, hyt]; rfl)
        obtain ⟨gs, hgs⟩ : ∃ gs, g y.t = gs := ⟨_, rfl⟩
        rw [hgs] at C HG
        unfold Rv.val at C
        replace C := Lib.hid C
        have HB1 := Lib.hid hb1
        have HOWN := Lib.hid (hown.alloc (.cells #[.int .i64 y.t.kind, .string y.t.text, .int .i64 y.t.n, .int .i64 y.t.spot, .slice y.a y.t.args.length y.c] 36))
        have HGE := Lib.hid (fun g q => own_row_lt hown g q)
        clear hown hb1 hyk hya hyt hgs
        go_wp2_with fail
        refine C.out.mono ?_; rintro e w2 ⟨rfl, hb2⟩
        have hown2 := own_at (w' := w2) HOWN.out fun g q => hb2.block g (own_row_lt HOWN.out g q)
        have hb3 := below_next HB1.out hb2
        have hs3 := hb3.size
        obtain ⟨bxs, hbxs⟩ : ∃ l, ((xs.take j).map g).map Value.string = l := ⟨_, rfl⟩
        rw [hbxs] at hown2 HG
        have HB3 := Lib.hid hb3
        clear hbxs hb2 hb3 C HOWN HB1 hb
        go_wp2_with (at_builtin; refine wpList_append_own _ rfl _ _ 95 rfl w.heap.size 9 i0 (.string ⟨#[]⟩) 1 16 Tryd.underlying95 hi hz0 hz1 hz2 rfl (by decide) _ j _ rfl (hown2.alloc _) ⟨w2.heap.size, 0, none⟩ 1 1 [.string gs] rfl rfl ?c1 ?c2 ?c3 ?c4 ?c5 ?_)
        case c1 => exact cell_one_new _ _ _
        case c2 => intro u hu; simp at hu; rw [hu]; rfl
        case c3 => unfold maxLen; omega
        case c4 => omega
        case c5 => simp; omega
        intro v' w4 hown' hgrow _
        have HB4 := Lib.hid ((HB3.out.alloc hs3 (.cells #[.string gs] 9)).grown hgrow (by simp; omega) (own_row_ge hown2))
        have HO := Lib.hid hown'
        clear hown' hgrow hown2
        go_wp2_with fail
        go_roundw
        case rel => exact ⟨j + 1, by omega, by go_num, by rw [HG.out]; exact HO.out, HB4.out⟩
        case measure => simp [intOf]; omega
      · obtain rfl : j = xs.length := by omega
        have hi1 : decide ((xs.length : Int) < (xs.length : Int)) = false := decide_eq_false (by omega)
        rw [List.take_length] at hown
        rcases own_cells hown with ⟨rfl, h1⟩ | ⟨gg, cap, rfl, hg, hcap, hcell⟩
        · exact absurd (List.map_eq_nil_iff.1 h1) h0
        · have hmm : (xs.map g).map (fun s => s.data.toList) = xs.map fun t => (g t).data.toList := by rw [List.map_map]; rfl
          have J := Lib.hid (Tryd.strings_Join gg 0 cap (xs.map g) sep wr hcell hg (by rw [List.length_map]; omega) hcap (by rw [hmm]; have := HLEN.out; omega))
          rw [List.length_map] at J ⊢
          rw [hmm] at J
          have HR := Lib.hid (show rowT sep.data.toList (xs.map fun t => (g t).data.toList) = 32 :: Lib.join (xs.map fun t => (g t).data.toList) sep.data.toList by unfold rowT; rw [if_neg (by simpa using h0)])
          have HB := Lib.hid hb
          obtain ⟨jl, hjl⟩ : ∃ l, Lib.join (xs.map fun t => (g t).data.toList) sep.data.toList = l := ⟨_, rfl⟩
          rw [hjl] at J HR HLEN
          have hll := HLEN.out
          have hsz : (⟨jl.toArray⟩ : ByteArray).size = jl.length := by simp [ByteArray.size]
          clear hown hcell hb hmm hjl
          go_wp2_with fail
          refine J.out.mono ?_; rintro e w5 ⟨rfl, hb5⟩
          go_wp2_with fail
          go_ret
          exact ⟨by rw [HR.out]; exact congrArg (fun b => Ending.returned (.string b)) (cat_blank0 _), HB.out.trans (hb5.mono HB.out.size)⟩
end Go.Proofs.YtldgbdmiebipnaaDoor
