/-
  What the listed package-level variables of strconv give a walk: the table of powers of ten, and the two errors; and that a call which only makes new blocks leaves them as they were.
-/
import Derived.Test.YtljkaaliagppdaaDoorRows
import Derived.Test.YtljkaaliagppdaaDoorShelf
import Derived.WalkKit
import Derived.ProofKit
import Derived.Lib.Hide
import Derived.Lib.LaidTab
import Derived.Stop.LaidErr
import Derived.MakeChecks
import Derived.WalkSmall
import Derived.Deep.DeepHandedRow
namespace Go.Proofs.YtljkaaliagppdaaDoor
open Go.RowKit

theorem laidMet_head {P : Program} {x : String × DataW Unit} {r : List (String × DataW Unit)} {w : World} (h : laidMet P (x :: r) w) : laidMet P [x] w := by
  obtain ⟨ps, hv, hnd, hrows⟩ := h
  obtain ⟨n, d⟩ := x
  obtain ⟨g, t, cs, fuel, p, q, h1, h2, h3, h4, hq, rfl⟩ := hv
  refine ⟨_, ⟨g, t, cs, fuel, p, [], h1, h2, h3, h4, rfl, rfl⟩, ?_, ?_⟩
  · rw [List.append_nil]
    exact List.Nodup.sublist (List.sublist_append_left _ _) hnd
  · intro b off hm
    rw [List.append_nil] at hm
    exact hrows b off (List.mem_append_left _ hm)
theorem laidMet_one {P : Program} {x : String × DataW Unit} {w : World} : ∀ {l : List (String × DataW Unit)}, laidMet P l w → x ∈ l → laidMet P [x] w
  | [], _, hm => by cases hm
  | y :: r, h, hm => by
    rcases List.mem_cons.1 hm with rfl | hm
    · exact laidMet_head h
    · exact laidMet_one h.tail hm

theorem gPow : Tryd.prog.globalNamed "internal/strconv.uint64pow10" = some 3 := by kernel_rfl
theorem gPowType : (Tryd.prog.globals[3]?).map (·.type) = some 107 := by kernel_rfl
theorem cellsPow : Tryd.prog.cellsOf 107 = 20 := by kernel_rfl
theorem cellsU64 : Tryd.prog.cellsOf 69 = 1 := by kernel_rfl
theorem gRange : Tryd.prog.globalNamed "strconv.ErrRange" = some 2 := by kernel_rfl
theorem gRangeType : (Tryd.prog.globals[2]?).map (·.type) = some 60 := by kernel_rfl
theorem gSyntax : Tryd.prog.globalNamed "strconv.ErrSyntax" = some 1 := by kernel_rfl
theorem gSyntaxType : (Tryd.prog.globals[1]?).map (·.type) = some 60 := by kernel_rfl
theorem cellsErr : Tryd.prog.cellsOf 100 = 1 := by kernel_rfl
theorem cellsStr : Tryd.prog.cellsOf 9 = 1 := by kernel_rfl
theorem starErr : "*" ++ "errors.errorString" = "*errors.errorString" := by decide
theorem rowErr (u : TypeId) (h : Tryd.prog.typeName? 3 u = some "*errors.errorString") : u = 98 :=
  typeName_ptr_named (nm := "errors.errorString") (by rw [starErr]; kernel_rfl) (by kernel_rfl) (by decide) u (by rw [starErr]; exact h)

/-- What the contracts of strconv ask of a world. -/
structure Tabs (w : World) : Prop where
  pow : Lib.TabIs Tryd.prog w "internal/strconv.uint64pow10" .u64 Lib.pow10Tab
  eSyn : ∃ tp p, w.var? Tryd.prog "strconv.ErrSyntax" = some #[.iface tp p]
  eRng : ∃ tp p, w.var? Tryd.prog "strconv.ErrRange" = some #[.iface tp p]
  size : 3 < w.heap.size ∧ 1 < w.heap.size ∧ 2 < w.heap.size

theorem var_below {w w' : World} {n : String} {g : Nat} {cs : Array Value} (hb : Below w.heap.size w w') (hg : Tryd.prog.globalNamed n = some g) (hl : g < w.heap.size) (h : w.var? Tryd.prog n = some cs) : w'.var? Tryd.prog n = some cs := by
  unfold World.var? at h ⊢
  rw [hg] at h ⊢
  simp only [Option.bind_some] at h ⊢
  rw [hb.block g hl]
  exact h
theorem Tabs.below {w w' : World} (h : Tabs w) (hb : Below w.heap.size w w') : Tabs w' where
  pow := var_below hb gPow h.size.1 h.pow
  eSyn := by obtain ⟨tp, p, e⟩ := h.eSyn; exact ⟨tp, p, var_below hb gSyntax h.size.2.1 e⟩
  eRng := by obtain ⟨tp, p, e⟩ := h.eRng; exact ⟨tp, p, var_below hb gRange h.size.2.2 e⟩
  size := ⟨Nat.lt_of_lt_of_le h.size.1 hb.size, Nat.lt_of_lt_of_le h.size.2.1 hb.size, Nat.lt_of_lt_of_le h.size.2.2 hb.size⟩

theorem lt_of_var {w : World} {n : String} {g : Nat} {cs : Array Value} (hg : Tryd.prog.globalNamed n = some g) (h : w.var? Tryd.prog n = some cs) : g < w.heap.size := by
  unfold World.var? at h
  rw [hg] at h
  simp only [Option.bind_some] at h
  rcases Nat.lt_or_ge g w.heap.size with h' | h'
  · exact h'
  · simp [Array.getElem?_eq_none h'] at h

theorem tabs_of {l : List (String × DataW Unit)} {w : World} (h : laidMetH Tryd.prog l w) (hp : (l.all fun x => x.2.handleName?.isNone) = true)
    (h1 : ("internal/strconv.uint64pow10", Rows.laid_internal_strconv_uint64pow10) ∈ l) (h2 : ("strconv.ErrRange", Rows.laid_strconv_ErrRange) ∈ l) (h3 : ("strconv.ErrSyntax", Rows.laid_strconv_ErrSyntax) ∈ l) : Tabs w := by
  rw [MakeChecks.laidMetH_plain _ _ _ hp] at h
  have a1 : Lib.TabIs Tryd.prog w "internal/strconv.uint64pow10" .u64 Lib.pow10Tab :=
    Lib.tabIs_of_head (rest := []) gPow gPowType Tryd.underlying107 Tryd.underlying69 cellsU64 cellsPow (laidMet_one h h1)
  obtain ⟨a, s, hv, _⟩ := laid_sentinel (laidMet_one h h2) gRange gRangeType Tryd.underlying60 rowErr Tryd.underlying98 Tryd.underlying100 rfl rfl Tryd.underlying9 cellsErr cellsStr
  obtain ⟨a', s', hv', _⟩ := laid_sentinel (laidMet_one h h3) gSyntax gSyntaxType Tryd.underlying60 rowErr Tryd.underlying98 Tryd.underlying100 rfl rfl Tryd.underlying9 cellsErr cellsStr
  exact ⟨a1, ⟨_, _, hv'⟩, ⟨_, _, hv⟩, lt_of_var gPow a1, lt_of_var gSyntax hv', lt_of_var gRange hv⟩

/-- strconv.Atoi at a text that is no numeral, and not out of range: an error that isn't nil. -/
theorem atoi_bad (s : ByteArray) (hlim : s.size ≤ 281474976710656) (h1 : ∀ v, Lib.atoiAll s.data.toList ≠ .ok v) (h2 : Lib.atoiAll s.data.toList ≠ .range) (tp : TypeId) (p : Value) (w : World)
    (hvar : w.var? Tryd.prog "strconv.ErrSyntax" = some #[.iface tp p]) :
    Calls Tryd.prog 59 #[.string s] w fun e w' => ∃ N, e = .returned (.tuple #[.int .i64 0, .iface 87 (.pointer (some ⟨N, 0, none⟩))]) ∧ Below w.heap.size w w' := by
  cases ha : Lib.atoiAll s.data.toList with
  | ok v => exact absurd ha (h1 v)
  | range => exact absurd ha h2
  | _ =>
    refine (Go.Proofs.Any.strconv_Atoi_syntax_var Tryd.laysC172 s hlim ha tp p w hvar).mono ?_
    rintro e w' ⟨N, h, _, _, hb⟩
    exact ⟨N, h, hb⟩

end Go.Proofs.YtljkaaliagppdaaDoor
