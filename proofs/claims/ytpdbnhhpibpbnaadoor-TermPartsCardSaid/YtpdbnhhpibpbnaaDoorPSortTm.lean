/-
  Terms in order, by the program's Sort: the library's sort at the program's Compare, over a row of the call's own.
-/
import Derived.Test.YtpdbnhhpibpbnaaDoorPMakeTm
import Derived.Test.YtpdbnhhpibpbnaaDoorShelf
import Derived.Shelf.SlSortCmp.NoneTotal
import Derived.Sort.OwnSorted
namespace Go.Proofs.YtpdbnhhpibpbnaaDoor
open Go.RowKit Go.Shelf Go.Sort

/-! ### The plain part: what the reference lays is the one sorted row -/
theorem insT_nil (t : Tm) : insT [] t = [t] := rfl
theorem insT_cons (x : Tm) (l : List Tm) (t : Tm) : insT (x :: l) t = if notBehind t x = true then x :: insT l t else t :: x :: l := by
  unfold insT
  rw [List.takeWhile_cons, List.dropWhile_cons]
  split <;> rfl
theorem insT_perm (t : Tm) : ∀ l : List Tm, (insT l t).Perm (t :: l)
  | [] => List.Perm.refl _
  | x :: l => by
    rw [insT_cons]
    split
    · exact ((insT_perm t l).cons x).trans (List.Perm.swap t x l)
    · exact List.Perm.refl _
def LeT (a b : Tm) : Prop := cmpT a b ≤ 0
theorem insT_sorted (t : Tm) : ∀ {l : List Tm}, l.Pairwise LeT → (insT l t).Pairwise LeT
  | [], _ => by rw [insT_nil]; simp
  | x :: l, h => by
    rw [List.pairwise_cons] at h
    rw [insT_cons]
    split
    · next hx =>
      have hx' : cmpT x t ≤ 0 := by simpa [notBehind] using hx
      rw [List.pairwise_cons]
      refine ⟨fun y hy => ?_, insT_sorted t h.2⟩
      rcases List.mem_cons.1 ((insT_perm t l).subset hy) with rfl | hy
      · exact hx'
      · exact h.1 y hy
    · next hx =>
      have hx' : ¬ cmpT x t ≤ 0 := by simpa [notBehind] using hx
      have htx : cmpT t x ≤ 0 := by have := cmpT_neg x t; omega
      rw [List.pairwise_cons, List.pairwise_cons]
      refine ⟨fun y hy => ?_, h⟩
      rcases List.mem_cons.1 hy with rfl | hy
      · exact htx
      · exact cmpT_le htx (h.1 y hy)
theorem foldIns_perm : ∀ (l acc : List Tm), (l.foldl insT acc).Perm (l ++ acc)
  | [], _ => List.Perm.refl _
  | x :: l, acc => by
    rw [List.foldl_cons]
    refine (foldIns_perm l _).trans ?_
    refine ((insT_perm x acc).append_left l).trans ?_
    exact List.perm_middle
theorem foldIns_sorted : ∀ (l : List Tm) {acc : List Tm}, acc.Pairwise LeT → (l.foldl insT acc).Pairwise LeT
  | [], _, h => h
  | x :: l, _, h => by rw [List.foldl_cons]; exact foldIns_sorted l (insT_sorted x h)
theorem sortL_perm (l : List Tm) : (sortL l).Perm l := by have := foldIns_perm l []; rwa [List.append_nil] at this
theorem sortL_sorted (l : List Tm) : (sortL l).Pairwise LeT := foldIns_sorted l List.Pairwise.nil
theorem sorted_one {l m : List Tm} (hp : m.Perm l) (hs : m.Pairwise LeT) : m = sortL l :=
  List.Perm.eq_of_pairwise (le := LeT) (fun a b _ _ h1 h2 => cmpT_zero a b (by unfold LeT at h1 h2; have := cmpT_neg a b; omega)) hs (sortL_sorted l) (hp.trans (sortL_perm l).symm)

/-! ### The sort's own words, at terms -/
abbrev TvO (w0 : World) := { x : Tv // x.ok w0 }
instance (w0 : World) : Inhabited (TvO w0) := ⟨⟨⟨.mk 0 ⟨#[]⟩ 0 [], none, 0⟩, ⟨⟨by simp [Tm.kind], by simp [Tm.kind], by simp [Tm.n], by simp [Tm.n], by show (ByteArray.mk #[]).size ≤ _; decide⟩, by simp [Tm.args], .inl rfl⟩⟩⟩
def encO {w0 : World} (x : TvO w0) : List Value := x.1.cells
def cfO {w0 : World} (x y : TvO w0) : Int := cmpT x.1.t y.1.t
theorem ltO_true {w0 : World} {x y : TvO w0} : ltOf cfO x y = true ↔ cmpT x.1.t y.1.t < 0 := by unfold ltOf; exact decide_eq_true_iff
theorem ltO_false {w0 : World} {x y : TvO w0} : ltOf cfO x y = false ↔ ¬ cmpT x.1.t y.1.t < 0 := by unfold ltOf; exact decide_eq_false_iff_not
theorem swoO (w0 : World) : SWO (ltOf (cfO (w0 := w0))) where
  irrefl x := by rw [ltO_false, cmpT_self]; omega
  trans x y z h1 h2 := by
    rw [ltO_true] at *
    exact (cmpT_tri x.1.t y.1.t z.1.t).2.1 h1 (by omega)
  ntrans x y z h1 h2 := by
    rw [ltO_false] at *
    have a := cmpT_neg x.1.t y.1.t
    have b := cmpT_neg y.1.t z.1.t
    have c := cmpT_neg x.1.t z.1.t
    have := (cmpT_tri z.1.t y.1.t x.1.t).1 (by omega) (by omega)
    omega
theorem onto_grow {W w' : World} (h : Onto W w') : ∃ q os', w' = grow (W.drewN q) os' := by
  refine ⟨0, w'.heap.extract W.heap.size w'.heap.size, ?_⟩
  obtain ⟨⟨h1, h2, h3, h4, h5⟩, h6⟩ := h
  have he : w'.heap = W.heap ++ w'.heap.extract W.heap.size w'.heap.size := by
    apply Array.ext_getElem?
    intro i
    rcases Nat.lt_or_ge i W.heap.size with hi | hi
    · rw [Array.getElem?_append_left hi, h5 i hi]
    · rw [Array.getElem?_append_right hi, Array.getElem?_extract]
      by_cases hl : i < w'.heap.size
      · rw [if_pos (by simp; omega)]; congr 1; omega
      · rw [if_neg (by simp; omega), Array.getElem?_eq_none (by omega)]
  obtain ⟨heap, tape, drawn, os, output⟩ := w'
  obtain ⟨heap', tape', drawn', os', output'⟩ := W
  simp only at h1 h2 h3 h6 he
  subst h1 h2 h3 h6
  show World.mk _ _ _ _ _ = World.mk _ _ _ _ _
  congr 1
theorem grownBy_sortK {α : Type} [Inhabited α] {enc : α → List Value} {k : Nat} {w : World} {g n : Nat} {os : Array Obj} (d : Array α) : w.grownBy (sortWorldK enc k w g 0 n d os) (some g) := by
  unfold sortWorldK putRowK
  refine ⟨rfl, rfl, rfl, by simp, fun k hk hne => ?_⟩
  rw [heap_grow_old _ _ (by simpa using hk)]
  have : g ≠ k := fun e => hne (by rw [e])
  simp [putRow, mapBlock, Sort.ahead, Array.getElem?_modify, this]
theorem below_sortK {α : Type} [Inhabited α] {enc : α → List Value} {k : Nat} {w0 w : World} {g n : Nat} {os : Array Obj} (d : Array α) (h : Below w0.heap.size w0 w) (hg : w0.heap.size ≤ g) : Below w0.heap.size w0 (sortWorldK enc k w g 0 n d os) :=
  h.grown (grownBy_sortK d) h.size (fun k e => by cases e; exact hg)
theorem cmpLaysO (w0 w : World) (g size : Nat) (h : Below w0.heap.size w0 w) (hg : w0.heap.size ≤ g) : CmpLays Tryd.prog 16 #[] (encO (w0 := w0)) 4 cfO g 0 size w := fun m os dk _ x y => by
  have hb : Below w0.heap.size w0 (sortWorldK (encO (w0 := w0)) 4 w g 0 m dk os) := below_sortK dk h hg
  exact (pcompare_tm x.1.t.parts x.1 y.1 _ (Nat.le_refl _) (x.2.below hb) (y.2.below hb)).mono fun e w' ⟨he, hO⟩ => ⟨he, onto_grow hO⟩
/-- The values of a row, each with what says that it is one. -/
def withOk {w0 : World} (vs : List Tv) (h : ∀ x ∈ vs, x.ok w0) : Array (TvO w0) := (vs.attach.map fun x => (⟨x.1, h x.1 x.2⟩ : TvO w0)).toArray
theorem withOk_val {w0 : World} (vs : List Tv) (h : ∀ x ∈ vs, x.ok w0) : (withOk vs h).toList.map Subtype.val = vs := by
  unfold withOk
  rw [List.toList_toArray, List.map_map]
  exact List.attach_map_subtype_val vs
theorem rowTv_flat {w0 : World} (d : Array (TvO w0)) (t : Nat) (ht : t < d.size * 4) : (rowTv (d.toList.map Subtype.val))[t]? = some ((flatK encO 4 d)[t]!) := by
  rw [get_flatK _ _ _ _ ht]
  have hq : t / 4 < d.size := by omega
  have e : t = t / 4 * 4 + t % 4 := by omega
  have hr := rowTv_get (d.toList.map Subtype.val) (t / 4) (by simpa using hq) (t % 4) (by omega)
  rw [← e] at hr
  rw [hr, getElem!_pos d _ hq]
  simp only [List.getElem_map, Array.getElem_toList]
  rw [getElem!_pos (encO _) (t % 4) (by simp [encO, Tv.cells]; omega)]
  exact List.getElem?_eq_getElem _

theorem own_sortK {w0 w : World} {base g cap n : Nat} {os : Array Obj} {cur : Array Value} {d : Array (TvO w0)} (hbase : base ≤ g) (hb : w.heap[g]? = some (.cells cur 24 (0, 0)))
    (h1 : d.size ≤ cap) (h2 : cap ≤ maxLen) (h3 : cur.size = cap * 4) :
    (sortWorldK encO 4 w g 0 n d os).ownsRow base 24 4 (.slice (some ⟨g, 0, none⟩) d.size cap) d.size (rowTv (d.toList.map Subtype.val)) := by
  have hg : g < w.heap.size := (Array.getElem?_eq_some_iff.1 hb).1
  have hheap : (sortWorldK encO 4 w g 0 n d os).heap[g]? = some (.cells (putCells id 0 (flatK encO 4 d) cur) 24 (0, 0)) := by
    unfold sortWorldK putRowK
    rw [heap_grow_old _ _ (by simpa using hg)]
    simp [putRow, mapBlock, Sort.ahead, Array.getElem?_modify, hb, onCells]
  refine ⟨by rw [rowTv_length]; simp, .inr ⟨g, cap, _, rfl, hbase, hheap, h1, h2, by simp [putCells, h3], ?_⟩⟩
  apply List.ext_getElem?
  intro j
  by_cases hj : j < d.size * 4
  · rw [List.getElem?_take_of_lt hj, Array.getElem?_toList, rowTv_flat d j hj]
    have hjc : j < cur.size := by omega
    simp [putCells, hj, hjc]
  · rw [List.getElem?_take_eq_none (by omega), List.getElem?_eq_none (by rw [rowTv_length]; simp; omega)]

set_option maxRecDepth 100000 in
set_option maxHeartbeats 2000000 in
theorem psort_tm (v : Value) (ts : List Tm) (w : World) (hv : Tms w v ts) (hlen : ts.length ≤ 1000000) :
    Calls Tryd.prog 21 #[v] w fun e w' => ∃ u, e = .returned u ∧ OwnTv w w' w.heap.size u (sortL ts) ∧ (u = .slice none 0 0 ↔ ts = []) ∧ Below w.heap.size w w' := by
  have C := Lib.hid (copied_tm v ts w w hv (Below.refl _ _) hlen)
  have eg : ∀ args w, (callFunc 16 args).run Tryd.prog w = .ok (.enter 16 args) w := enters_of Tryd.func16 (by kernel_rfl) rfl
  have EG := Lib.hid eg
  obtain ⟨a, c, rfl, _⟩ := hv
  clear eg
  go_enter Tryd.func21, Tryd.ntmps21
  go_wp2_with fail
  refine C.out.mono ?_; rintro e w1 ⟨u, rfl, hown, hnil, hb1⟩
  by_cases h0 : ts = []
  · subst h0
    obtain rfl := hnil.2 rfl
    have S := AnyF.slices_SortFunc_none { Tryd.laysSort with } none 0 (.func (.func 16) #[] #[]) w1
    change Calls Tryd.prog 48 _ _ _ at S
    have HS := Lib.hid S
    have HO := Lib.hid hown
    clear S hown C
    go_wp2_with fail
    refine HS.out.mono ?_; rintro e w2 ⟨rfl, rfl⟩
    go_wp2_with fail
    go_ret
    exact ⟨_, rfl, HO.out, by simp, hb1⟩
  · obtain ⟨vs, hvt, hvo, hn, ⟨rfl, hz⟩ | ⟨g, cap, cur, rfl, hg1, hgb, hgn, hgm, hgs, htake⟩⟩ := hown
    · exact absurd (hnil.1 rfl) h0
    have hvl : vs.length = ts.length := by rw [← hvt, List.length_map]
    obtain ⟨d, hd⟩ : ∃ d, d = withOk vs hvo := ⟨_, rfl⟩
    have hdv : d.toList.map Subtype.val = vs := by rw [hd]; exact withOk_val vs hvo
    have hds : d.size = ts.length := by rw [← hvl, ← hdv]; simp
    have hglt : g < w1.heap.size := (Array.getElem?_eq_some_iff.1 hgb).1
    have hH : HoldsK encO 4 w1 g 0 d := fun j hj => by
      rw [size_flatK] at hj
      have hr := rowTv_flat d j hj
      rw [hdv, ← htake, List.getElem?_take, if_pos (by omega)] at hr
      rw [Nat.zero_add]
      refine ⟨?_, ?_⟩
      · rw [cell_of_row w1 g j cur _ (0, 0) hgb]; simpa using hr
      · simp [World.frozen?, hgb]
    have S := AnyQ.slices_SortFunc Tryd.laysSort 4 Tryd.isAgg24 Tryd.sizeOf24 (encO (w0 := w)) (fun _ => rfl) (fun x v hv => by
      simp only [encO, Tv.cells, List.mem_cons, List.not_mem_nil, or_false] at hv
      rcases hv with rfl | rfl | rfl | rfl <;> rfl) cfO (swoO w) 16 #[] g 0 cap d w1 EG.out (cmpLaysO w w1 g d.size hb1 hg1) hH hglt (by omega)
    change Calls Tryd.prog 48 _ _ _ at S
    rw [hds] at S
    have HS := Lib.hid S
    have HD := Lib.hid (And.intro hdv (And.intro hds (And.intro hvt hgb)))
    have HG := Lib.hid (And.intro hgs (And.intro hgn hgm))
    clear S C hd hdv hds hvl hH hgb htake hgs hn hnil hgn hgm hvt
    go_wp2_with fail
    refine HS.out.mono ?_; rintro e w2 ⟨rfl, d', n, os, hp, hs, rfl⟩
    have hsz : d'.size = ts.length := hp.1.trans HD.out.2.1
    have hval : (d'.toList.map Subtype.val).map Tv.t = sortL ts := by
      refine sorted_one ?_ ?_
      · have h3 := hp.2.2
        rw [← HD.out.2.1] at h3
        have e1 : d'.extract 0 d.size = d' := by rw [← hp.1]; exact Array.extract_size
        rw [HD.out.2.1] at e1
        rw [HD.out.2.1, e1, ← HD.out.2.1, Array.extract_size] at h3
        have h4 := (h3.map Subtype.val).map Tv.t
        rw [HD.out.1, HD.out.2.2.1] at h4
        exact h4
      · rw [List.pairwise_iff_getElem]
        intro i j hi hj hij
        have hi' : i < d'.size := by simpa using hi
        have hj' : j < d'.size := by simpa using hj
        have := hs i j (Nat.zero_le _) hij (by omega)
        rw [getElem!_pos d' j hj', getElem!_pos d' i hi', ltO_false] at this
        unfold LeT
        simp only [List.getElem_map, Array.getElem_toList]
        have hng := cmpT_neg (d'[j]).1.t (d'[i]).1.t
        omega
    have hrow := own_sortK (n := n) (os := os) (d := d') hg1 HD.out.2.2.2 (by rw [hsz]; exact HG.out.2.1) HG.out.2.2 HG.out.1
    rw [hsz] at hrow
    have HF := Lib.hid (show OwnTv w (sortWorldK encO 4 w1 g 0 n d' os) w.heap.size (.slice (some ⟨g, 0, none⟩) ts.length cap) (sortL ts) from
      ⟨d'.toList.map Subtype.val, hval, (fun x hx => by obtain ⟨y, _, rfl⟩ := List.mem_map.1 hx; exact y.2), by rw [sortL_len]; exact hrow⟩)
    have HB := Lib.hid (below_sortK (enc := encO (w0 := w)) (k := 4) (n := n) (os := os) d' hb1 hg1)
    clear hrow hval hp hs hsz
    go_wp2_with fail
    go_ret
    exact ⟨_, rfl, HF.out, by simp [h0], HB.out⟩
end Go.Proofs.YtpdbnhhpibpbnaaDoor
