/-
  Rows of binds that are held whole. No function of the program.
-/
import Derived.Test.YtcecbdglepneaaaCutK
import Derived.Test.YtcecbdglepneaaaBdOwn
namespace Go.Proofs.Ytcecbdglepneaaa
open Go.RowKit Go.Shelf Go.Lib Go.Sort

/-- A row of binds of the call's own, held whole. -/
def HoldBd (w0 w : World) (base : Nat) (v : Value) (bs : List Bn) : Prop :=
  ∃ vs : List Bv, vs.map Bv.bn = bs ∧ (∀ x ∈ vs, x.v.ok w0 ∧ x.s.size ≤ 9223372036854775807) ∧
    ((v = .slice none 0 0 ∧ vs = []) ∨ ∃ blk cap, v = .slice (some ⟨blk, 0, none⟩) vs.length cap ∧ base ≤ blk ∧ blk < w.heap.size ∧ vs.length ≤ cap ∧ 0 < cap ∧ HoldsK Bv.cells 5 w blk 0 vs.toArray)
theorem rowBv_flat (d : Array Bv) (t : Nat) (ht : t < d.size * 5) : (rowBv d.toList)[t]? = some ((flatK Bv.cells 5 d)[t]!) := by
  rw [get_flatK _ _ _ _ ht]
  have hq : t / 5 < d.size := by omega
  have e : t = t / 5 * 5 + t % 5 := by omega
  have hr := rowBv_get d.toList (t / 5) (by simpa using hq) (t % 5) (by omega)
  rw [← e] at hr
  rw [hr, getElem!_pos d _ hq]
  simp only [Array.getElem_toList]
  rw [getElem!_pos (Bv.cells _) (t % 5) (by simp [Bv.cells]; omega)]
  exact List.getElem?_eq_getElem _
theorem holdsK_own {w : World} {g : Nat} {cur : Array Value} {d : Array Bv} {e : TypeId} (hb : w.heap[g]? = some (.cells cur e (0, 0))) (ht : cur.toList.take (d.size * 5) = rowBv d.toList) : HoldsK Bv.cells 5 w g 0 d := fun j hj => by
  rw [size_flatK] at hj
  have hr := rowBv_flat d j hj
  rw [← ht, List.getElem?_take, if_pos (by omega)] at hr
  rw [Nat.zero_add]
  refine ⟨?_, ?_⟩
  · rw [cell_of_row w g j cur _ (0, 0) hb]; simpa using hr
  · simp [World.frozen?, hb]
/-- A bind of a row that is held. -/
theorem holdsK_bv {w : World} {blk : Nat} {d : Array Bv} (h : HoldsK Bv.cells 5 w blk 0 d) (j : Nat) (hj : j < d.size) : BvAt w blk (0 + j * 5) d[j]! := by
  have c : ∀ i, i < 5 → ∀ x, (Bv.cells d[j]!)[i]? = some x → w.cell? ⟨blk, 0 + j * 5 + i, none⟩ = some x := fun i hi x hx => by
    have h1 := (h (j * 5 + i) (by rw [size_flatK]; omega)).1
    rw [get_flatK _ _ _ _ (by omega), show (j * 5 + i) / 5 = j from by omega, show (j * 5 + i) % 5 = i from by omega] at h1
    rw [Nat.zero_add] at h1 ⊢
    rw [h1]
    obtain ⟨hl, he⟩ := List.getElem?_eq_some_iff.1 hx
    rw [getElem!_pos (Bv.cells d[j]!) i hl, he]; rfl
  exact ⟨c 0 (by omega) _ rfl, c 1 (by omega) _ rfl, c 2 (by omega) _ rfl, c 3 (by omega) _ rfl, c 4 (by omega) _ rfl⟩
theorem HoldBd.bds {w0 w : World} {base : Nat} {v : Value} {bs : List Bn} (h : HoldBd w0 w base v bs) (hb : Below w0.heap.size w0 w) (hl : bs.length ≤ 9223372036854775807) : Bds w v bs := by
  obtain ⟨vs, rfl, hok, ⟨rfl, rfl⟩ | ⟨blk, cap, rfl, _, hlt, _, _, hH⟩⟩ := h
  · exact Bds.none_ _ _ _
  · refine ⟨_, cap, by rw [List.length_map], hl, .inr ⟨blk, 0, rfl, hlt, fun j x hj => ?_⟩⟩
    rw [List.getElem?_map] at hj
    obtain ⟨y, hy, rfl⟩ := Option.map_eq_some_iff.1 hj
    obtain ⟨hjl, rfl⟩ := List.getElem?_eq_some_iff.1 hy
    obtain ⟨hk, hs⟩ := hok _ (List.getElem_mem hjl)
    have e : vs.toArray[j]! = vs[j] := by rw [getElem!_pos vs.toArray j (by simpa using hjl)]; simp
    have := holdsK_bv hH j (by simpa using hjl)
    rw [e] at this
    exact bv_bdAt hs (hk.below hb) this
theorem grownBy_sortW {α : Type} [Inhabited α] {enc : α → List Value} {k : Nat} {w W : World} {g off : Nat} {d : Array α} (h : SWK enc k w g off d W) : w.grownBy W (some g) := by
  obtain ⟨n, os, rfl⟩ := h
  unfold sortWorldK putRowK
  refine ⟨rfl, rfl, rfl, by simp, fun k hk hne => ?_⟩
  rw [heap_grow_old _ _ (by simpa using hk)]
  have : g ≠ k := fun e => hne (by rw [e])
  simp [putRow, mapBlock, Sort.ahead, Array.getElem?_modify, this]
theorem below_sortW {α : Type} [Inhabited α] {enc : α → List Value} {k : Nat} {w0 w W : World} {g off B : Nat} {d : Array α} (h : SWK enc k w g off d W) (hb : Below B w0 w) (hB : B ≤ w.heap.size) (hg : B ≤ g) : Below B w0 W :=
  hb.grown (grownBy_sortW h) hB (fun k e => by cases e; exact hg)
theorem bvOne (x : Bv) : ∀ v ∈ x.cells, v.oneCell' = true := fun v hv => by
  simp only [Bv.cells, List.mem_cons, List.not_mem_nil, or_false] at hv
  rcases hv with rfl | rfl | rfl | rfl | rfl <;> rfl
theorem rowKBv {w : World} {g : Nat} {d : Array Bv} (hH : HoldsK Bv.cells 5 w g 0 d) (hg : g < w.heap.size) : RowK Bv.cells 5 w g 0 d := ⟨fun _ => rfl, bvOne, hH, hg⟩
/-- The first of a row that is held. -/
theorem holdsK_part {w : World} {g : Nat} {d d2 : Array Bv} {q : Nat} (hH : HoldsK Bv.cells 5 w g 0 d) (hd : d2.toList = d.toList.take q) (hq : q ≤ d.size) : HoldsK Bv.cells 5 w g 0 d2 := fun j hj => by
  have hs : d2.size = q := by rw [← Array.length_toList, hd, List.length_take, Array.length_toList]; omega
  rw [size_flatK, hs] at hj
  have h := hH j (by rw [size_flatK]; omega)
  rw [get_flatK _ _ _ _ (by omega)] at h
  rw [get_flatK _ _ _ _ (by omega)]
  have e : d2[j / 5]! = d[j / 5]! := by
    have h1 := get_list d2 (j / 5) (by omega)
    have h2 := get_list d (j / 5) (by omega)
    rw [hd, List.getElem?_take_of_lt (by omega), h2] at h1
    exact (Option.some.inj h1).symm
  rw [e]; exact h
def zeroBv : Bv := ⟨⟨#[]⟩, zeroV⟩
theorem hold_none (w0 w : World) (base : Nat) : HoldBd w0 w base (.slice none 0 0) [] := ⟨[], rfl, (fun _ h => nomatch h), .inl ⟨rfl, rfl⟩⟩
/-- A sort's world keeps the block's form. -/
theorem cells_sortW {α : Type} [Inhabited α] {enc : α → List Value} {k : Nat} {w W : World} {g off : Nat} {d : Array α} (h : SWK enc k w g off d W) {cur : Array Value} {e : TypeId} {f : Nat × Nat} (hb : w.heap[g]? = some (.cells cur e f)) : ∃ cur', W.heap[g]? = some (.cells cur' e f) ∧ cur'.size = cur.size := by
  obtain ⟨n, os, rfl⟩ := h
  have hl : g < w.heap.size := (Array.getElem?_eq_some_iff.1 hb).1
  refine ⟨putCells id off (flatK enc k d) cur, ?_, by simp [putCells]⟩
  unfold sortWorldK putRowK
  rw [heap_grow_old _ _ (by simpa [putRow, mapBlock, Sort.ahead] using hl)]
  simp [putRow, mapBlock, Sort.ahead, Array.getElem?_modify, hb, onCells]
theorem take_holds {w : World} {g : Nat} {cur : Array Value} {e : TypeId} {vs : List Bv} (hb : w.heap[g]? = some (.cells cur e (0, 0))) (hH : HoldsK Bv.cells 5 w g 0 vs.toArray) : cur.toList.take (vs.length * 5) = rowBv vs := by
  apply List.ext_getElem?
  intro i
  by_cases hi : i < vs.length * 5
  · rw [List.getElem?_take_of_lt hi]
    have h1 := (hH i (by rw [size_flatK]; simpa using hi)).1
    rw [Nat.zero_add, cell_of_row w g i cur _ (0, 0) hb] at h1
    have h2 := rowBv_flat vs.toArray i (by simpa using hi)
    rw [show vs.toArray.toList = vs from by simp] at h2
    rw [h2]; simpa using h1
  · rw [List.getElem?_eq_none (by rw [List.length_take]; omega), List.getElem?_eq_none (by rw [rowBv_length]; omega)]
/-- What Of leaves of a copy: the row turned, and of each name the first one. -/
theorem hold_of {w0 w w1 w2 w3 : World} {g cap n q : Nat} {vs : List Bv} {d2 d3 : Array Bv} (hvo : ∀ x ∈ vs, x.v.ok w0 ∧ x.s.size ≤ 9223372036854775807) (hb1 : Below w.heap.size w w1) (hg : w.heap.size ≤ g) (hn : vs.length = n) (hcap : n ≤ cap) (h0 : 0 < n) (hg1 : g < w1.heap.size)
    (hH : HoldsK Bv.cells 5 w1 g 0 vs.toArray) (h1 : Stab (ltOf cfN) vs.toArray d2) (h2 : SortedIn (ltOf cfN) 0 n d2) (h3 : SWK Bv.cells 5 w1 g 0 d2 w2) (hq : q ≤ n) (h4 : d3.size = n) (h5 : d3.toList.take q = compA sameN d2.toList) (h6 : SWK Bv.cells 5 w2 g 0 d3 w3)
    {cur : Array Value} (hgb : w1.heap[g]? = some (.cells cur 46 (0, 0))) (hgm : cap ≤ maxLen) (hgs : cur.size = cap * 5) :
    HoldBd w0 w3 w.heap.size (.slice (some ⟨g, 0, none⟩) q cap) (ofB (vs.map Bv.bn)) ∧ OwnBv w0 w3 w.heap.size (.slice (some ⟨g, 0, none⟩) q cap) (ofB (vs.map Bv.bn)) ∧ Below w.heap.size w w3 := by
  have hs2 : d2.size = n := by rw [h1.1]; simp [hn]
  have hl : (d3.toList.take q).length = q := by rw [List.length_take, Array.length_toList]; omega
  have hb2 := below_sortW h3 hb1 hb1.size hg
  have hb3 := below_sortW h6 hb2 hb2.size hg
  have hH2 : HoldsK Bv.cells 5 w2 g 0 d2 := h3.holds hg1 hH (by rw [hs2]; simp [hn])
  have hg2 : g < w2.heap.size := Nat.lt_of_lt_of_le hg1 h3.le
  have hH3 : HoldsK Bv.cells 5 w3 g 0 d3 := h6.holds hg2 hH2 (by omega)
  have hm : (d3.toList.take q).map Bv.bn = ofB (vs.map Bv.bn) := by rw [h5, stab_ofB h1 (by rw [hs2]; exact h2)]
  have ho : ∀ x ∈ d3.toList.take q, x.v.ok w0 ∧ x.s.size ≤ 9223372036854775807 := fun x hx => by
    rw [h5] at hx
    have := stab_mem h1 (mem_compA hx)
    exact hvo x (by simpa using this)
  have hK := holdsK_part (q := q) (d2 := (d3.toList.take q).toArray) hH3 (by simp) (by omega)
  obtain ⟨cur2, hc2, hz2⟩ := cells_sortW h3 hgb
  obtain ⟨cur3, hc3, hz3⟩ := cells_sortW h6 hc2
  have hz : cur3.size = cap * 5 := by omega
  have ht := take_holds hc3 hK
  have hn3 : (ofB (vs.map Bv.bn)).length = q := by rw [← hm, List.length_map, hl]
  refine ⟨⟨d3.toList.take q, hm, ho, .inr ⟨g, cap, by rw [hl], hg, Nat.lt_of_lt_of_le hg2 h6.le, by omega, by omega, hK⟩⟩, ⟨d3.toList.take q, hm, ho, ?_⟩, hb3⟩
  rw [hn3]
  refine ⟨by rw [rowBv_length, hl], .inr ⟨g, cap, cur3, rfl, hg, hc3, by omega, hgm, hz, by rw [hl] at ht; exact ht⟩⟩
end Go.Proofs.Ytcecbdglepneaaa
