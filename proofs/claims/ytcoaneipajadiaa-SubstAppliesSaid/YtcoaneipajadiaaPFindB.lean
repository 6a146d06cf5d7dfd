/-
  A name looked for in binds that are in order, by the library's binary search at the program's byName.
-/
import Derived.Test.YtcoaneipajadiaaPBsf
import Derived.Test.YtcoaneipajadiaaPOfB
namespace Go.Proofs.Ytcoaneipajadiaa
open Go.RowKit Go.Shelf Go.Lib Go.Sort

theorem below_self {α : Type} [Inhabited α] {enc : α → List Value} {k : Nat} {w W : World} {g : Nat} {d : Array α} (hH : HoldsK enc k w g 0 d) (h : SWK enc k w g 0 d W) : Below w.heap.size w W := by
  obtain ⟨n, os, rfl⟩ := h
  unfold sortWorldK
  have e : putRowK enc k (Sort.ahead w n) g 0 d = Sort.ahead w n := putRowK_self enc k (Sort.ahead w n) g 0 d (holdsK_ahead enc k w n g 0 d hH)
  rw [e]
  exact ⟨rfl, rfl, rfl, by rw [size_grow]; exact Nat.le_add_right _ _, fun b hb => by rw [heap_grow_old _ _ (by exact hb)]; rfl⟩
theorem rising_get : ∀ {l : List Bn} {x : Bn}, Rising l → x ∈ l → getB l x.1 = some x.2
  | [], _, _, h => nomatch h
  | y :: r, x, hr, h => by
    unfold Rising at hr
    rw [List.pairwise_cons] at hr
    rcases List.mem_cons.1 h with rfl | h
    · exact getB_hit _ _ rfl
    · rw [getB_miss _ _ (ltN_ne (hr.1 x h)), rising_get hr.2 h]
/-- The bind that a search is asked for. -/
def tgt (s : ByteArray) : Bv := ⟨s, zeroV⟩
theorem cmpS_self {s t : ByteArray} : cmpS s t = 0 ↔ s = t := by
  rw [cmpS_zero]
  constructor
  · intro h; exact beq_name.1 (by rw [h]; simp)
  · intro h; rw [h]

set_option maxRecDepth 100000 in
set_option maxHeartbeats 1000000 in
theorem find_none (s : ByteArray) (fv : Value) (w : World) : Calls Try.prog 63 #[.slice none 0 0, .agg (tgt s).cells.toArray, fv] w fun e w' =>
    e = .returned (.tuple #[.int .i64 0, .bool false]) ∧ Below w.heap.size w w' := by
  simp only [tgt, Bv.cells, zeroV, zeroT, Tm.kind, Tm.name, Tm.n, Tm.args, List.length_nil]
  have hB := Lib.hid (show Below w.heap.size w (w.alloc (.cells #[.string s, .int .i64 0, .string ⟨#[]⟩, .int .i64 0, .slice none 0 0] 50)) from (Below.refl _ _).alloc (Nat.le_refl _) _)
  have mixed : Try.prog.follows Departure.mixedOrders = true := by kernel_rfl
  go_enter Try.func63, Try.ntmps63
  go_wp2_with fail
  refine wp_loop_rounds 1 ?_; rw [rounds_succ]
  go_wp2_with fail
  go_big_region_o
  go_wp2_with fail
  go_ret2
  exact ⟨rfl, below_drewN hB.out 1⟩
theorem find_vs (g cap : Nat) (vs : List Bv) (w : World) (hH : HoldsK Bv.cells 5 w g 0 vs.toArray) (hg : g < w.heap.size) (hr : Rising (vs.map Bv.bn)) (hlen : vs.length ≤ 1000000) (s : ByteArray) :
    Calls Try.prog 63 #[.slice (some ⟨g, 0, none⟩) vs.length cap, .agg (tgt s).cells.toArray, .func (.func 34) #[] #[]] w fun e w' =>
      Below w.heap.size w w' ∧ ∃ i : Nat, (e = .returned (.tuple #[.int .i64 i, .bool false]) ∧ getB (vs.map Bv.bn) s = none) ∨ (∃ h : i < vs.length, vs[i].s = s ∧ e = .returned (.tuple #[.int .i64 i, .bool true])) := by
  have eg : ∀ args w, (callFunc 34 args).run Try.prog w = .ok (.enter 34 args) w := enters_of Try.func34 (by kernel_rfl) rfl
  have get : ∀ (t : Nat) (ht : t < vs.length), vs.toArray[t]! = vs[t] := fun t ht => by rw [getElem!_pos vs.toArray t (by simpa using ht)]; simp
  have hsz : vs.toArray.size = vs.length := by simp
  have rise : ∀ a b (hb : b < vs.length) (hab : a < b), ltN (vs[a]'(by omega)).s vs[b].s = true := fun a b hb hab => by
    unfold Rising at hr
    rw [List.pairwise_map, List.pairwise_iff_getElem] at hr
    exact hr a b (by omega) hb hab
  have mono : ∀ a b, a ≤ b → b < vs.length → cfN vs.toArray[b]! (tgt s) < 0 → cfN vs.toArray[a]! (tgt s) < 0 := fun a b hab hb h => by
    rcases Nat.lt_or_ge a b with h1 | h1
    · rw [get b hb] at h
      rw [get a (by omega)]
      exact cmpS_lt.2 (ltN_trans (rise a b hb h1) (cmpS_lt.1 h))
    · obtain rfl : a = b := by omega
      exact h
  refine (bsf_gen tyC Try.func63 cfN 34 eg (tgt s) g 0 cap vs.length vs.toArray vs.toArray w w (cmpLaysN g 0 vs.length w) (rowKBv hH hg) (SWK.start hH) hsz hsz hlen mono).mono ?_
  rintro e w' ⟨i, hi, h1, h2, rfl, hS⟩
  refine ⟨below_self hH hS, i, ?_⟩
  by_cases hin : i < vs.length
  · rw [get i hin]
    by_cases he : vs[i].s = s
    · refine .inr ⟨hin, he, ?_⟩
      rw [decide_eq_true hin, decide_eq_true (show cfN vs[i] (tgt s) = 0 from cmpS_self.2 he)]; rfl
    · refine .inl ⟨?_, getB_none fun x hx hxs => ?_⟩
      · rw [decide_eq_false (show ¬ cfN vs[i] (tgt s) = 0 from fun h => he (cmpS_self.1 h)), Bool.and_false]
      · obtain ⟨y, hy, rfl⟩ := List.mem_map.1 hx
        obtain ⟨t, ht, rfl⟩ := List.getElem_of_mem hy
        have hts : cfN vs[t] (tgt s) = 0 := cmpS_self.2 hxs
        rcases Nat.lt_trichotomy t i with h3 | h3 | h3
        · have := h1 t h3
          rw [get t ht, hts] at this; omega
        · subst h3; exact he hxs
        · have h4 := rise i t ht h3
          have h5 := h2 i (Nat.le_refl _) hin
          rw [get i hin] at h5
          have : cfN vs[i] (tgt s) < 0 := cmpS_lt.2 (by show ltN vs[i].s s = true; rw [← hxs]; exact h4)
          omega
  · refine .inl ⟨by rw [decide_eq_false hin]; rfl, getB_none fun x hx hxs => ?_⟩
    obtain ⟨y, hy, rfl⟩ := List.mem_map.1 hx
    obtain ⟨t, ht, rfl⟩ := List.getElem_of_mem hy
    have := h1 t (by omega)
    rw [get t ht, show cfN vs[t] (tgt s) = 0 from cmpS_self.2 hxs] at this
    omega
end Go.Proofs.Ytcoaneipajadiaa
