/-
  Spots in order: the program's order of spots, and the library's sort at it, over a row of the call's own.
-/
import Derived.Test.YtniikfihfeledaaPSpotsA
import Derived.Test.YtniikfihfeledaaShelf
import Derived.Sort.OwnSorted
namespace Go.Proofs.Ytniikfihfeledaa
open Go.RowKit Go.Shelf Go.Sort

set_option maxHeartbeats 1000000 in
theorem spcompare_any (x y : Sp) (w : World) (hx : At0 w x.at_ x.p) (hy : At0 w y.at_ y.p) :
    Calls Try.prog 46 #[.agg x.cells.toArray, .agg y.cells.toArray] w fun e w' => e = .returned (.int .i64 (cmpP x.p y.p)) ∧ Onto w w' := by
  have C := Lib.hid (fun (W : World) (h : Below w.heap.size w W) => plcompare_any x.at_ y.at_ x.p y.p W (hx.nums.below h) (hy.nums.below h))
  obtain ⟨p, a, c, ⟨t, ta, tc⟩⟩ := x
  obtain ⟨q, b, d, ⟨u, ua, uc⟩⟩ := y
  simp only [Sp.cells, Sp.at_] at *
  clear hx hy
  have hz1 : (w.alloc (.cells #[.slice a p.length c, .int .i64 t.kind, .string t.name, .int .i64 t.n, .slice ta t.args.length tc] 52)).heap.size = w.heap.size + 1 := by simp
  have e1 := (((Below.refl (w.heap.size + 1) (w.alloc (.cells #[.slice a p.length c, .int .i64 t.kind, .string t.name, .int .i64 t.n, .slice ta t.args.length tc] 52))).alloc (by omega) (.cells #[.slice b q.length d, .int .i64 u.kind, .string u.name, .int .i64 u.n, .slice ua u.args.length uc] 52)).cell (p := ⟨w.heap.size, 0, none⟩) (by show w.heap.size < _; omega)).trans (World.cell?_alloc_mark w #[.slice a p.length c, .int .i64 t.kind, .string t.name, .int .i64 t.n, .slice ta t.args.length tc] 52 (0, 0) 0)
  have e2 := World.cell?_alloc_mark (w.alloc (.cells #[.slice a p.length c, .int .i64 t.kind, .string t.name, .int .i64 t.n, .slice ta t.args.length tc] 52)) #[.slice b q.length d, .int .i64 u.kind, .string u.name, .int .i64 u.n, .slice ua u.args.length uc] 52 (0, 0) 0
  rw [hz1] at e2
  simp only [List.getElem?_toArray, List.getElem?_cons_zero] at e1 e2
  have hO : Onto w ((w.alloc (.cells #[.slice a p.length c, .int .i64 t.kind, .string t.name, .int .i64 t.n, .slice ta t.args.length tc] 52)).alloc (.cells #[.slice b q.length d, .int .i64 u.kind, .string u.name, .int .i64 u.n, .slice ua u.args.length uc] 52)) := ((Onto.refl w).alloc _).alloc _
  go_enter Try.func46, Try.ntmps46
  go_wp2_with fail
  refine (C.out _ hO.below).mono ?_; rintro e w1 ⟨rfl, rfl⟩
  go_wp2_with fail
  go_ret
  exact ⟨rfl, hO⟩

/-! ### The sort's own words, at spots -/
theorem onto_grow5 {W w' : World} (h : Onto W w') : ∃ q os', w' = grow (W.drewN q) os' := by
  refine ⟨0, w'.heap.extract W.heap.size w'.heap.size, ?_⟩
  obtain ⟨⟨h1, h2, h3, h4, h5⟩, h6⟩ := h
  have he : w'.heap = W.heap ++ w'.heap.extract W.heap.size w'.heap.size := by
    apply Array.ext_getElem?
    intro i
    rcases Nat.lt_or_ge i W.heap.size with hi | hi
    · rw [Array.getElem?_append_left hi, h5 i hi]
    · rw [Array.getElem?_append_right hi, Array.getElem?_extract]
      by_cases hl : i < w'.heap.size
      · rw [if_pos (by simp; omega)]; congr 1; omega
      · rw [if_neg (by simp; omega), Array.getElem?_eq_none (by omega)]
  obtain ⟨heap, tape, drawn, os, output⟩ := w'
  obtain ⟨heap', tape', drawn', os', output'⟩ := W
  simp only at h1 h2 h3 h6 he
  subst h1 h2 h3 h6
  show World.mk _ _ _ _ _ = World.mk _ _ _ _ _
  congr 1
theorem grownBy_sort5 {α : Type} [Inhabited α] {enc : α → List Value} {k : Nat} {w : World} {g n : Nat} {os : Array Obj} (d : Array α) : w.grownBy (sortWorldK enc k w g 0 n d os) (some g) := by
  unfold sortWorldK putRowK
  refine ⟨rfl, rfl, rfl, by simp, fun k hk hne => ?_⟩
  rw [heap_grow_old _ _ (by simpa using hk)]
  have : g ≠ k := fun e => hne (by rw [e])
  simp [putRow, mapBlock, Sort.ahead, Array.getElem?_modify, this]
/-- Spots whose places read in a world. -/
abbrev SpO (w1 : World) := { x : Sp // At0 w1 x.at_ x.p }
instance (w1 : World) : Inhabited (SpO w1) := ⟨⟨⟨[], none, 0, ⟨zeroT, none, 0⟩⟩, At0.nil w1⟩⟩
def encS {w1 : World} (x : SpO w1) : List Value := x.1.cells
def cfS {w1 : World} (x y : SpO w1) : Int := cmpP x.1.p y.1.p
theorem ltS_true {w1 : World} {x y : SpO w1} : ltOf cfS x y = true ↔ cmpP x.1.p y.1.p < 0 := by unfold ltOf; exact decide_eq_true_iff
theorem ltS_false {w1 : World} {x y : SpO w1} : ltOf cfS x y = false ↔ ¬ cmpP x.1.p y.1.p < 0 := by unfold ltOf; exact decide_eq_false_iff_not
theorem cmpP_le {a b c : List Int} (h1 : ¬ cmpP a b < 0) (h2 : ¬ cmpP b c < 0) : ¬ cmpP a c < 0 := fun h => by
  have n1 := cmpP_neg a b
  have n2 := cmpP_neg b c
  have n3 := cmpP_neg a c
  by_cases e1 : cmpP a b = 0
  · rw [cmpP_zero e1] at h; exact h2 h
  · by_cases e2 : cmpP b c = 0
    · rw [← cmpP_zero e2] at h; exact h1 h
    · have := cmpP_trans (a := c) (b := b) (c := a) (by omega) (by omega)
      omega
theorem swoS (w1 : World) : SWO (ltOf (cfS (w1 := w1))) where
  irrefl x := by rw [ltS_false, cmpP_self]; omega
  trans x y z h1 h2 := by rw [ltS_true] at *; exact cmpP_trans h1 h2
  ntrans x y z h1 h2 := by rw [ltS_false] at *; exact cmpP_le h1 h2
theorem at0_sort {w1 : World} {g n : Nat} {os : Array Obj} {cur : Array Value} (d : Array (SpO w1)) (hg : w1.heap[g]? = some (.cells cur 52 (0, 0))) (x : SpO w1) : At0 (sortWorldK (encS (w1 := w1)) 5 w1 g 0 n d os) x.1.at_ x.1.p :=
  At0.block x.2 fun b c hb => by
    rw [(grownBy_sort5 d).block b (Array.getElem?_eq_some_iff.1 hb).1 (fun e => ?_)]
    · exact hb
    · injection e with e
      subst e
      rw [hg] at hb
      injection hb with h1
      injection h1 with _ h1 _
      exact absurd h1 (by decide)
theorem cmpLaysS (w1 : World) (g size : Nat) {cur : Array Value} (hg : w1.heap[g]? = some (.cells cur 52 (0, 0))) : CmpLays Try.prog 46 #[] (encS (w1 := w1)) 5 cfS g 0 size w1 := fun _ _ dk _ x y =>
  (spcompare_any x.1 y.1 _ (at0_sort dk hg x) (at0_sort dk hg y)).mono fun _ _ ⟨he, hO⟩ => ⟨he, onto_grow5 hO⟩
def withAt {w1 : World} (vs : List Sp) (h : ∀ x ∈ vs, At0 w1 x.at_ x.p) : Array (SpO w1) := (vs.attach.map fun x => (⟨x.1, h x.1 x.2⟩ : SpO w1)).toArray
theorem withAt_val {w1 : World} (vs : List Sp) (h : ∀ x ∈ vs, At0 w1 x.at_ x.p) : (withAt vs h).toList.map Subtype.val = vs := by
  unfold withAt
  rw [List.toList_toArray, List.map_map]
  exact List.attach_map_subtype_val vs
theorem rowSp_flat {w1 : World} (d : Array (SpO w1)) (t : Nat) (ht : t < d.size * 5) : (rowSp (d.toList.map Subtype.val))[t]? = some ((flatK encS 5 d)[t]!) := by
  rw [get_flatK _ _ _ _ ht]
  have hq : t / 5 < d.size := by omega
  have e : t = t / 5 * 5 + t % 5 := by omega
  have hr := rowSp_get (d.toList.map Subtype.val) (t / 5) (by simpa using hq) (t % 5) (by omega)
  rw [← e] at hr
  rw [hr, getElem!_pos d _ hq]
  simp only [List.getElem_map, Array.getElem_toList]
  rw [getElem!_pos (encS _) (t % 5) (by simp [encS, Sp.cells]; omega)]
  exact List.getElem?_eq_getElem _
theorem own_sort5 {w1 : World} {base g cap n : Nat} {os : Array Obj} {cur : Array Value} {d : Array (SpO w1)} (hbase : base ≤ g) (hb : w1.heap[g]? = some (.cells cur 52 (0, 0)))
    (h1 : d.size ≤ cap) (h2 : cap ≤ maxLen) (h3 : cur.size = cap * 5) :
    (sortWorldK encS 5 w1 g 0 n d os).ownsRow base 52 5 (.slice (some ⟨g, 0, none⟩) d.size cap) d.size (rowSp (d.toList.map Subtype.val)) := by
  have hg : g < w1.heap.size := (Array.getElem?_eq_some_iff.1 hb).1
  have hheap : (sortWorldK encS 5 w1 g 0 n d os).heap[g]? = some (.cells (putCells id 0 (flatK encS 5 d) cur) 52 (0, 0)) := by
    unfold sortWorldK putRowK
    rw [heap_grow_old _ _ (by simpa using hg)]
    simp [putRow, mapBlock, Sort.ahead, Array.getElem?_modify, hb, onCells]
  refine ⟨by rw [rowSp_length]; simp, .inr ⟨g, cap, _, rfl, hbase, hheap, h1, h2, by simp [putCells, h3], ?_⟩⟩
  apply List.ext_getElem?
  intro j
  by_cases hj : j < d.size * 5
  · rw [List.getElem?_take_of_lt hj, Array.getElem?_toList, rowSp_flat d j hj]
    have hjc : j < cur.size := by omega
    simp [putCells, hj, hjc]
  · rw [List.getElem?_take_eq_none (by omega), List.getElem?_eq_none (by rw [rowSp_length]; simp; omega)]

set_option maxRecDepth 100000 in
set_option maxHeartbeats 2000000 in
/-- The sort: the spots of a term, in the order of their places. -/
theorem spsort_any (w0 w1 : World) (base g cap : Nat) (ss : List Sp) (t : Tm) (hp : (ss.map Sp.key).Perm (spT [] t)) (hok : ∀ x ∈ ss, SpOk w0 w1 x) (hlen : ss.length ≤ 100000) (hbase : base ≤ w1.heap.size)
    (hrow : w1.ownsRow base 52 5 (.slice (some ⟨g, 0, none⟩) ss.length cap) ss.length (rowSp ss)) :
    Calls Try.prog 45 #[.slice (some ⟨g, 0, none⟩) ss.length cap, .func (.func 46) #[] #[]] w1 fun e w' =>
      e = .returned (.tuple #[]) ∧ OwnSp w0 w' base (.slice (some ⟨g, 0, none⟩) ss.length cap) (spT [] t) ∧ Below base w1 w' := by
  have eg : ∀ args w, (callFunc 46 args).run Try.prog w = .ok (.enter 46 args) w := enters_of Try.func46 (by kernel_rfl) rfl
  obtain ⟨hn, ⟨h, _⟩ | ⟨g', cap', cur, hv, hg1, hgb, hgn, hgm, hgs, htake⟩⟩ := hrow
  · cases h
  · obtain ⟨rfl, rfl⟩ : g = g' ∧ cap = cap' := by cases hv; exact ⟨rfl, rfl⟩
    obtain ⟨d, hd⟩ : ∃ d, d = withAt ss (fun x hx => (hok x hx).2) := ⟨_, rfl⟩
    have hdv : d.toList.map Subtype.val = ss := by rw [hd]; exact withAt_val ss _
    have hds : d.size = ss.length := by rw [← hdv]; simp
    have hglt : g < w1.heap.size := (Array.getElem?_eq_some_iff.1 hgb).1
    have hH : HoldsK encS 5 w1 g 0 d := fun j hj => by
      rw [size_flatK] at hj
      have hr := rowSp_flat d j hj
      rw [hdv, ← htake, List.getElem?_take, if_pos (by omega)] at hr
      rw [Nat.zero_add]
      refine ⟨?_, ?_⟩
      · rw [cell_of_row w1 g j cur _ (0, 0) hgb]; simpa using hr
      · simp [World.frozen?, hgb]
    have S := AnyQ.slices_SortFunc Try.laysSort 5 Try.isAgg52 Try.sizeOf52 (encS (w1 := w1)) (fun _ => rfl) (fun x v hv => by
      simp only [encS, Sp.cells, List.mem_cons, List.not_mem_nil, or_false] at hv
      rcases hv with rfl | rfl | rfl | rfl | rfl <;> rfl) cfS (swoS w1) 46 #[] g 0 cap d w1 eg (cmpLaysS w1 g d.size hgb) hH hglt (by omega)
    change Calls Try.prog 45 _ _ _ at S
    rw [hds] at S
    refine S.mono ?_
    rintro e w2 ⟨rfl, d', n, os, hpm, hs, rfl⟩
    have hsz : d'.size = ss.length := hpm.1.trans hds
    have hperm : (d'.toList.map Subtype.val).Perm ss := by
      have h3 := hpm.2.2
      rw [← hds] at h3
      have e1 : d'.extract 0 d.size = d' := by rw [← hpm.1]; exact Array.extract_size
      rw [e1, Array.extract_size] at h3
      have h4 := h3.map Subtype.val
      rw [hdv] at h4
      exact h4
    have hval : (d'.toList.map Subtype.val).map Sp.key = spT [] t := by
      refine spots_one ((hperm.map Sp.key).trans hp) ?_
      rw [List.pairwise_iff_getElem]
      intro i j hi hj hij
      have hi' : i < d'.size := by simpa using hi
      have hj' : j < d'.size := by simpa using hj
      have := hs i j (Nat.zero_le _) hij (by omega)
      rw [getElem!_pos d' j hj', getElem!_pos d' i hi', ltS_false] at this
      simp only [List.getElem_map, Array.getElem_toList, Sp.key]
      have hng := cmpP_neg (d'[j]).1.p (d'[i]).1.p
      omega
    have hrow2 := own_sort5 (n := n) (os := os) (d := d') hg1 hgb (by rw [hsz]; exact hgn) hgm hgs
    rw [hsz] at hrow2
    have hlt : (spT [] t).length = ss.length := by have := hp.length_eq; rw [List.length_map] at this; exact this.symm
    refine ⟨rfl, ⟨d'.toList.map Subtype.val, hval, fun x hx => ⟨(hok x (hperm.subset hx)).1, ?_⟩, by rw [hlt]; exact hrow2⟩, (Below.refl _ _).grown (grownBy_sort5 d') hbase (fun k e => by cases e; exact hg1)⟩
    obtain ⟨y, _, rfl⟩ := List.mem_map.1 hx
    exact at0_sort d' hgb y
end Go.Proofs.Ytniikfihfeledaa
