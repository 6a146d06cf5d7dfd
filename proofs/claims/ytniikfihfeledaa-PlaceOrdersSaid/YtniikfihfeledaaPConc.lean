/-
  Places that are put together: the library's Grow and Concat at rows of int's; and places that the call itself has made, a nil one too.
-/
import Derived.Test.YtniikfihfeledaaPlsTm
import Derived.Test.YtniikfihfeledaaPlAll
import Derived.Lib.AppendZeros
import Derived.Laws.AppendOwnNone
namespace Go.Proofs.Ytniikfihfeledaa
open Go.RowKit

/-- A slice of int's in a block of its own, or nil. -/
def At0 (w : World) (v : Value) (p : List Int) : Prop := w.ownsRow 0 3 1 v p.length (p.map (Value.int .i64)) ∧ (∀ n ∈ p, -9223372036854775808 ≤ n ∧ n ≤ 9223372036854775807)
theorem At0.nums {w : World} {v : Value} {p : List Int} (h : At0 w v p) : Nums w v p := by
  obtain ⟨⟨_, h⟩, hb⟩ := h
  rcases h with ⟨rfl, h0⟩ | ⟨g, cap, cur, rfl, _, hg, hk, hm, hs, ht⟩
  · have : p = [] := List.eq_nil_of_length_eq_zero h0
    subst this
    exact ⟨none, 0, rfl, Nat.le_refl _, by omega, hb, .inl rfl⟩
  · refine ⟨_, cap, rfl, hk, by unfold maxLen at hm; omega, hb, .inr ⟨g, 0, rfl, ?_, fun j n hj => ?_⟩⟩
    · rcases Nat.lt_or_ge g w.heap.size with h | h
      · exact h
      · rw [Array.getElem?_eq_none h] at hg; cases hg
    · have hjl : j < p.length := (List.getElem?_eq_some_iff.1 hj).1
      have h1 : (p.map (Value.int .i64))[j]? = some (.int .i64 n) := by rw [List.getElem?_map, hj]; rfl
      rw [← ht, List.getElem?_take, if_pos (by omega)] at h1
      rw [Nat.zero_add, cell_of_row w g j cur _ (0, 0) hg]
      simpa using h1
/-- It stands where its block does. -/
theorem At0.block {w w' : World} {v : Value} {p : List Int} (h : At0 w v p) (hb : ∀ (g : Nat) (c : Array Value), w.heap[g]? = some (Obj.cells c 3 (0, 0)) → w'.heap[g]? = some (Obj.cells c 3 (0, 0))) : At0 w' v p := by
  obtain ⟨⟨hl, h⟩, hbd⟩ := h
  refine ⟨⟨hl, ?_⟩, hbd⟩
  rcases h with h | ⟨g, cap, cur, rfl, hbg, hg, hr⟩
  · exact .inl h
  · exact .inr ⟨g, cap, cur, rfl, hbg, hb g cur hg, hr⟩
theorem At0.below {w w' : World} {v : Value} {p : List Int} (h : At0 w v p) (hb : Below w.heap.size w w') : At0 w' v p :=
  At0.block h fun g c hg => by rw [hb.block g (Array.getElem?_eq_some_iff.1 hg).1]; exact hg
theorem OwnInts.at0 {w : World} {v : Value} {p : List Int} (h : OwnInts w v p) : At0 w v p := ⟨h.1, h.2.1⟩
theorem At0.nil (w : World) : At0 w (.slice none 0 0) [] := ⟨⟨rfl, .inl ⟨rfl, rfl⟩⟩, fun _ h => nomatch h⟩

set_option maxRecDepth 100000 in
set_option maxHeartbeats 1000000 in
theorem pgrow_any (n : Nat) (w : World) (h0 : 0 < n) (hn : n ≤ 1000001) :
    Calls Try.prog 50 #[.slice none 0 0, .int .i64 n] w fun e w' => ∃ v, e = .returned v ∧ w'.ownsRow w.heap.size 3 1 v 0 [] ∧ v.ownBlock ≠ none ∧ Below w.heap.size w w' := by
  obtain ⟨i1, hi1, hiz1, his1, hib1⟩ := info_parts intInfo
  have hrun := fun ty => Lib.run_append_nil_zeros (P := Try.prog) w 25 3 ty 3 i1 (.int .i64 0) .i64 .i64 Try.underlying25 Try.underlying3 hi1 hiz1 n h0 (by rw [his1]; omega) (by omega) (by rw [hib1]; omega)
  have hcg := grownCap_ge w n 0 3
  have hcm : grownCap w n 0 3 ≤ maxLen := grownCap_le_maxLen w n 0 3 (by unfold maxLen; omega)
  obtain ⟨cap, hcap⟩ : ∃ cap, grownCap w n 0 3 = cap := ⟨_, rfl⟩
  rw [hcap] at hcg hcm
  simp only [hcap] at hrun
  have hd1 : decide ((n : Int) < 0) = false := decide_eq_false (by omega)
  have hd2 : decide (0 < (n : Int)) = true := decide_eq_true (by omega)
  have hsz : (Builtin.zeroCells (Value.int .i64 0).cells n ++ Builtin.zeroCells (Value.int .i64 0).cells (cap - n)).size = cap := by
    rw [Array.size_append, size_zeroCells, size_zeroCells]; simp [Value.cells]; omega
  have hB : Below w.heap.size w (w.drew.alloc (.cells (Builtin.zeroCells (Value.int .i64 0).cells n ++ Builtin.zeroCells (Value.int .i64 0).cells (cap - n)) 3)) := ((Below.refl _ _).drew).alloc (Nat.le_refl _) _
  have hh : (w.drew.alloc (.cells (Builtin.zeroCells (Value.int .i64 0).cells n ++ Builtin.zeroCells (Value.int .i64 0).cells (cap - n)) 3)).heap[w.heap.size]? = some (.cells (Builtin.zeroCells (Value.int .i64 0).cells n ++ Builtin.zeroCells (Value.int .i64 0).cells (cap - n)) 3 (0, 0)) := heap_alloc_new w.drew _
  obtain ⟨w2, hw2⟩ : ∃ w2, (w.drew.alloc (.cells (Builtin.zeroCells (Value.int .i64 0).cells n ++ Builtin.zeroCells (Value.int .i64 0).cells (cap - n)) 3)) = w2 := ⟨_, rfl⟩
  obtain ⟨cur, hcur⟩ : ∃ cur, Builtin.zeroCells (Value.int .i64 0).cells n ++ Builtin.zeroCells (Value.int .i64 0).cells (cap - n) = cur := ⟨_, rfl⟩
  simp only [hcur] at hw2 hsz hh hB hrun
  simp only [hw2] at hh hB hrun
  have HH := Lib.hid hh
  have HB := Lib.hid hB
  have HR := Lib.hid hrun
  have HS := Lib.hid hsz
  have hc0 : (0 : Int) ≤ (cap : Int) := by omega
  clear hh hB hrun hw2 hcur hcap hsz
  go_enter Try.func50, Try.ntmps50
  go_wp2_with (at_builtin; refine Lib.wpList_append_run _ rfl _ _ _ _ rfl _ _ rfl rfl _ _ (HR.out _) ?_)
  go_ret
  exact ⟨.slice (some ⟨w.heap.size, 0, none⟩) 0 cap, rfl, ⟨rfl, .inr ⟨w.heap.size, cap, cur, rfl, Nat.le_refl _, HH.out, Nat.zero_le _, hcm, by rw [HS.out]; omega, by simp⟩⟩, by simp [Value.ownBlock], HB.out⟩

set_option maxRecDepth 100000 in
set_option maxHeartbeats 4000000 in
/-- Two rows, one behind the other: a place, and one number more. -/
theorem pconcat_any (v : Value) (p : List Int) (i : Int) (g1 g2 : Nat) (w : World) (hv : At0 w v p) (hi : -9223372036854775808 ≤ i ∧ i ≤ 9223372036854775807) (hp : p.length ≤ 1000000)
    (hg1 : g1 < w.heap.size) (hg2 : g2 < w.heap.size) (hc : w.cell? ⟨g1, 0, none⟩ = some (.int .i64 i)) (hc0 : w.cell? ⟨g2, 0, none⟩ = some v) (hc1 : w.cell? ⟨g2, 1, none⟩ = some (.slice (some ⟨g1, 0, none⟩) 1 1)) :
    Calls Try.prog 44 #[.slice (some ⟨g2, 0, none⟩) 2 2] w fun e w' => ∃ u, e = .returned u ∧ w'.ownsRow w.heap.size 3 1 u (p.length + 1) ((p ++ [i]).map (Value.int .i64)) ∧ u.ownBlock ≠ none ∧ Below w.heap.size w w' := by
  obtain ⟨i1, hi1, hiz1, his1, hib1⟩ := info_parts intInfo
  have hG := pgrow_any (p.length + 1) w (by omega) (by omega)
  rw [show ((p.length + 1 : Nat) : Int) = (p.length : Int) + 1 from by omega] at hG
  have G := Lib.hid hG
  clear hG
  have hform : ∃ a c, v = .slice a p.length c := by obtain ⟨a, c, h, _⟩ := hv.nums; exact ⟨a, c, h⟩
  obtain ⟨a, c, rfl⟩ := hform
  have HV := Lib.hid hv
  have h1 : decide ((0 : Int) < 2) = true := by decide
  have hd1 : decide ((p.length : Int) < 0) = false := decide_eq_false (by omega)
  have hd2 : decide ((p.length : Int) + 1 < 0) = false := decide_eq_false (by omega)
  have HI := Lib.hid hi
  have hp2 : (p.length : Int) ≤ 1000000 := by omega
  have hp3 : (0 : Int) ≤ (p.length : Int) := by omega
  clear hv hi
  go_enter Try.func44, Try.ntmps44
  go_wp2_with fail
  refine wp_loop_rounds 3 ?_; rw [rounds_succ]
  go_wp2_with fail
  rw [rounds_succ]
  go_wp2_with fail
  rw [rounds_succ]
  go_wp2_with fail
  refine G.out.mono ?_; rintro e w1 ⟨u0, rfl, hu0, hun0, hb1⟩
  have hb1s := hb1.size
  have HV1 := Lib.hid (HV.out.below hb1)
  have HC1 := Lib.hid ((hb1.cell (p := ⟨g1, 0, none⟩) hg1).trans hc)
  have HCW := Lib.hid (And.intro hc hc1)
  replace hc0 := (hb1.cell (p := ⟨g2, 0, none⟩) hg2).trans hc0
  replace hc1 := (hb1.cell (p := ⟨g2, 1, none⟩) hg2).trans hc1
  have hone : ∀ y ∈ p.map (Value.int .i64), y.oneCell' = true := by intro y hy; obtain ⟨z, _, rfl⟩ := List.mem_map.1 hy; rfl
  have hm1 : 0 + p.length ≤ maxLen := by unfold maxLen; omega
  have hm2 : 0 + p.length + 1 ≤ maxLen := by unfold maxLen; omega
  clear hc G HV
  rcases HV1.out.1.2 with ⟨hnil, hp0⟩ | ⟨gv, cap, cur, hvv, _, hgv, _⟩
  · obtain rfl : p = [] := List.eq_nil_of_length_eq_zero hp0
    cases hnil
    go_wp2_with fail
    refine wp_loop_rounds 3 ?_; rw [rounds_succ]
    go_wp2_with (at_builtin; refine wpList_append_own_none rfl _ _ 25 rfl w.heap.size 3 i1 1 Try.underlying25 hi1 _ 0 _ rfl hu0 rfl ?_)
    rw [rounds_succ]
    go_wp2_with (at_builtin; refine wpList_append_own_at _ rfl _ _ 25 rfl w.heap.size 3 i1 (.int .i64 0) 1 8 Try.underlying25 hi1 hiz1 his1 hib1 rfl (by decide) _ 0 _ rfl hu0 ⟨g1, 0, none⟩ 1 1 [.int .i64 i] rfl rfl (fun j u hj => by cases j with | zero => (simp at hj; subst hj; exact HC1.out) | succ j => simp at hj) (by simp [Value.oneCell']) hm2 (by omega) hb1s ?_; intro v3 w3 hown3 hg3 _ hat3)
    rw [rounds_succ]
    go_wp2_with fail
    go_ret
    have hb3 : Below w.heap.size w w3 := hb1.grown hg3 hb1s (fun y e => (hu0.lt y e).1)
    exact ⟨v3, rfl, by simpa using hown3, by rcases hat3 with h | h <;> rw [h]; exact hun0; simp, hb3⟩
  · cases hvv
    have hpc := HV1.out.1.cells rfl
    go_wp2_with fail
    refine wp_loop_rounds 3 ?_; rw [rounds_succ]
    go_wp2_with (at_builtin; refine wpList_append_own_at _ rfl _ _ 25 rfl w.heap.size 3 i1 (.int .i64 0) 1 8 Try.underlying25 hi1 hiz1 his1 hib1 rfl (by decide) _ 0 _ rfl hu0 ⟨gv, 0, none⟩ p.length c (p.map (Value.int .i64)) rfl (by simp) hpc hone hm1 (by omega) hb1s ?_; intro v2 w2 hown2 hg2' _ hat2)
    have hb2 : Below w.heap.size w w2 := hb1.grown hg2' hb1s (fun y e => (hu0.lt y e).1)
    have hc2 : w2.cell? ⟨g2, 1, none⟩ = some (.slice (some ⟨g1, 0, none⟩) 1 1) := (hb2.cell (p := ⟨g2, 1, none⟩) hg2).trans HCW.out.2
    have HC2 : Hid (w2.cell? ⟨g1, 0, none⟩ = some (.int .i64 i)) := Lib.hid ((hb2.cell (p := ⟨g1, 0, none⟩) hg1).trans HCW.out.1)
    clear hc0 hc1 hpc hgv
    rw [rounds_succ]
    go_wp2_with (at_builtin; refine wpList_append_own_at _ rfl _ _ 25 rfl w.heap.size 3 i1 (.int .i64 0) 1 8 Try.underlying25 hi1 hiz1 his1 hib1 rfl (by decide) _ (0 + p.length) _ rfl hown2 ⟨g1, 0, none⟩ 1 1 [.int .i64 i] rfl rfl (fun j u hj => by cases j with | zero => (simp at hj; subst hj; exact HC2.out) | succ j => simp at hj) (by simp [Value.oneCell']) hm2 (by omega) hb2.size ?_; intro v3 w3 hown3 hg3 _ hat3)
    rw [rounds_succ]
    go_wp2_with fail
    go_ret
    have hb3 : Below w.heap.size w w3 := hb2.grown hg3 hb2.size (fun y e => (hown2.lt y e).1)
    have hn2 : v2.ownBlock ≠ none := by rcases hat2 with h | h <;> rw [h]; exact hun0; simp
    exact ⟨v3, rfl, by simpa [Nat.zero_add] using hown3, by rcases hat3 with h | h <;> rw [h]; exact hn2; simp, hb3⟩
end Go.Proofs.Ytniikfihfeledaa
