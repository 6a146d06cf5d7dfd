/-
  Terms in order, each once, by the program's Set: the library's CompactFunc at the program's Same, over a row of the call's own.
-/
import Derived.Test.YtpdbnhhpibpbnaaDoorPSortTm
import Derived.Test.YtpdbnhhpibpbnaaDoorSetTm
import Derived.Test.YtpdbnhhpibpbnaaDoorAfter
namespace Go.Proofs.YtpdbnhhpibpbnaaDoor
open Go.RowKit Go.Shelf

theorem rowTv_cons (v : Tv) (r : List Tv) : rowTv (v :: r) = v.cells ++ rowTv r := by unfold rowTv; rw [List.flatMap_cons]
theorem rowTv_set (u : Tv) : ∀ (vs : List Tv) (k : Nat), k < vs.length → rowTv (vs.set k u) = ((((rowTv vs).set (k * 4) (.int .i64 u.t.kind)).set (k * 4 + 1) (.string u.t.name)).set (k * 4 + 2) (.int .i64 u.t.n)).set (k * 4 + 3) (.slice u.a u.t.args.length u.c)
  | [], _, h => by simp at h
  | v :: r, 0, _ => by rw [List.set_cons_zero, rowTv_cons, rowTv_cons]; rfl
  | v :: r, k + 1, h => by
    rw [List.set_cons_succ, rowTv_cons, rowTv_cons, rowTv_set u r k (by simpa using h)]
    have e : ∀ (l : List Value) (i : Nat) (x : Value), (v.cells ++ l).set (4 + i) x = v.cells ++ l.set i x := fun l i x => by
      rw [List.set_append_right _ _ (by simp [Tv.cells])]; congr 2; simp [Tv.cells]
    rw [show (k + 1) * 4 = 4 + k * 4 from by omega, show 4 + k * 4 + 1 = 4 + (k * 4 + 1) from by omega, show 4 + k * 4 + 2 = 4 + (k * 4 + 2) from by omega, show 4 + k * 4 + 3 = 4 + (k * 4 + 3) from by omega, e, e, e, e]
theorem heap_setCell_same {w : World} {g o : Nat} {cur : Array Value} {e : TypeId} {fr : Nat × Nat} (h : w.heap[g]? = some (.cells cur e fr)) (x : Value) : (w.setCell ⟨g, o, none⟩ x).heap[g]? = some (.cells (cur.setIfInBounds o x) e fr) := by
  simp [World.setCell, Array.getElem?_modify, h]
/-- A store of a term into a row of the call's own. -/
theorem own_put {w : World} {base : Nat} {e : TypeId} {g n cap : Nat} {vs : List Tv} (h : w.ownsRow base e 4 (.slice (some ⟨g, 0, none⟩) n cap) n (rowTv vs)) (u : Tv) (k : Nat) (hk : k < vs.length) :
    ((((w.setCell ⟨g, k * 4, none⟩ (.int .i64 u.t.kind)).setCell ⟨g, k * 4 + 1, none⟩ (.string u.t.name)).setCell ⟨g, k * 4 + 2, none⟩ (.int .i64 u.t.n)).setCell ⟨g, k * 4 + 3, none⟩ (.slice u.a u.t.args.length u.c)).ownsRow base e 4 (.slice (some ⟨g, 0, none⟩) n cap) n (rowTv (vs.set k u)) := by
  obtain ⟨hn, ⟨h, _⟩ | ⟨g', cap', cur, hv, hb, hgc, h1, h2, h3, hgt⟩⟩ := h
  · cases h
  · cases hv
    refine ⟨by rw [rowTv_length, List.length_set, ← rowTv_length]; exact hn, .inr ⟨g, cap, _, rfl, hb, heap_setCell_same (heap_setCell_same (heap_setCell_same (heap_setCell_same hgc _) _) _) _, h1, h2, by simpa using h3, ?_⟩⟩
    rw [rowTv_set u vs k hk, ← hgt]
    simp only [Array.toList_setIfInBounds, List.take_set]

/-! ### Each once: the plain part -/
noncomputable def onceL (l : List Tm) : List Tm := l.foldl onceT []
theorem onceL_snoc (l : List Tm) (t : Tm) : onceL (l ++ [t]) = onceT (onceL l) t := by unfold onceL; rw [List.foldl_append]; rfl
theorem onceT_old {acc : List Tm} {t : Tm} (h : acc.getLast? = some t) : onceT acc t = acc := by unfold onceT; rw [h]; simp [eqT_true]
theorem onceT_new {acc : List Tm} {s t : Tm} (h : acc.getLast? = some s) (hn : s ≠ t) : onceT acc t = acc ++ [t] := by unfold onceT; rw [h]; simp [eqT_false hn]
theorem onceT_last (acc : List Tm) (t : Tm) : (onceT acc t).getLast? = some t := by
  cases h : acc.getLast? with
  | none =>
    rw [List.getLast?_eq_none_iff] at h
    subst h; rfl
  | some s =>
    by_cases e : s = t
    · subst e; rw [onceT_old h, h]
    · rw [onceT_new h e]; simp
theorem onceL_last (l : List Tm) (t : Tm) : (onceL (l ++ [t])).getLast? = some t := by rw [onceL_snoc]; exact onceT_last _ _
theorem take_two {l : List Tm} {k : Nat} (h : k < l.length) : l.take (k + 1) = l.take k ++ [l[k]] := List.take_succ_eq_append_getElem h
theorem onceL_same {l : List Tm} {k : Nat} (h : k + 1 < l.length) (he : l[k + 1] = l[k]) : onceL (l.take (k + 2)) = onceL (l.take (k + 1)) := by
  rw [take_two h, onceL_snoc, he]
  exact onceT_old (by rw [take_two (by omega)]; exact onceL_last _ _)
theorem onceL_more {l : List Tm} {k : Nat} (h : k + 1 < l.length) (he : l[k + 1] ≠ l[k]) : onceL (l.take (k + 2)) = onceL (l.take (k + 1)) ++ [l[k + 1]] := by
  rw [take_two h, onceL_snoc]
  exact onceT_new (s := l[k]) (by rw [take_two (by omega)]; exact onceL_last _ _) (fun e => he e.symm)
/-- Up to j no two that stand side by side are alike. -/
def Apart1 (l : List Tm) (j : Nat) : Prop := ∀ i (h : i + 1 < l.length), i + 1 < j → l[i + 1] ≠ l[i]
theorem Apart1.succ {l : List Tm} {j : Nat} (h : Apart1 l (j + 1)) (hj : j + 1 < l.length) (hs : l[j + 1] ≠ l[j]) : Apart1 l (j + 2) := by
  intro i hi hij
  by_cases e : i = j
  · subst e; exact hs
  · exact h i hi (by omega)
theorem onceL_apart {l : List Tm} : ∀ {j : Nat}, Apart1 l j → j ≤ l.length → onceL (l.take j) = l.take j
  | 0, _, _ => by rw [List.take_zero]; rfl
  | 1, _, hl => by rw [take_two (by omega), List.take_zero]; rfl
  | j + 2, h, hl => by
    rw [onceL_more (by omega) (h j (by omega) (by omega)), onceL_apart (j := j + 1) (fun i hi hij => h i hi (by omega)) (by omega), ← take_two (by omega)]
theorem rowAt_own {w0 w : World} {base g n cap k : Nat} {rs : List Tv} (hown : w.ownsRow base 24 4 (.slice (some ⟨g, 0, none⟩) n cap) n (rowTv rs)) (hok : ∀ x ∈ rs, x.ok w0) {w' : World}
    (hb' : Below w0.heap.size w0 w') (hc : ∀ q x, q < k * 4 → w.cell? ⟨g, q, none⟩ = some x → w'.cell? ⟨g, q, none⟩ = some x) (hk : k ≤ rs.length) : RowAt w' ((rs.take k).map Tv.t) g 0 := by
  refine rowAt_of fun {j} hj => ?_
  have hjk : j < k := by simp at hj; omega
  have hjr : j < rs.length := by omega
  obtain ⟨c0, c1, c2, c3⟩ := own_tvAt hown hjr
  have e : ((rs.take k).map Tv.t)[j] = rs[j].t := by simp
  rw [e]
  rw [Nat.zero_add] at c0 c1 c2 c3 ⊢
  exact tv_tmAt ((hok _ (List.getElem_mem hjr)).below hb') ⟨hc _ _ (by omega) c0, hc _ _ (by omega) c1, hc _ _ (by omega) c2, hc _ _ (by omega) c3⟩
theorem run_clear_terms (w : World) (b o n c : Nat) (hn : 0 < n) (hc : ∀ j, j < n * 4 → (w.cell? ⟨b, o + j, none⟩).isSome = true) (hf : ∀ j, j < n * 4 → w.frozen? ⟨b, o + j, none⟩ = false) :
    ∃ zs : List Value, zs.length = n * 4 ∧ ∀ ty, (Builtin.clear_ #[22] ty #[.slice (some ⟨b, o, none⟩) n c]).run Tryd.prog w = .ok (.tuple #[]) (w.setCells b o zs) := by
  refine ⟨(Builtin.zeroCells (Value.cells (.agg #[.int .i64 0, .string ⟨#[]⟩, .int .i64 0, .slice none 0 0])) n).toList, by simp [Builtin.zeroCells, Value.cells], fun ty => ?_⟩
  have hl : (Builtin.zeroCells (Value.cells (.agg #[.int .i64 0, .string ⟨#[]⟩, .int .i64 0, .slice none 0 0])) n).toList.length = n * 4 := by simp [Builtin.zeroCells, Value.cells]
  have h1 : ∀ v ∈ (Builtin.zeroCells (Value.cells (.agg #[.int .i64 0, .string ⟨#[]⟩, .int .i64 0, .slice none 0 0])) n).toList, v.oneCell' = true := by
    intro v hv
    simp only [Builtin.zeroCells, Value.cells, Array.toList_map, List.mem_map] at hv
    obtain ⟨i, _, rfl⟩ := hv
    rcases (show i % 4 = 0 ∨ i % 4 = 1 ∨ i % 4 = 2 ∨ i % 4 = 3 from by omega) with h | h | h | h <;> simp [h, Value.oneCell']
  have hst := run_storeCells_cells (P := Tryd.prog) b o _ 0 w (by simpa [hl] using hc) (by simpa [hl] using hf) h1
  simp only [Nat.add_zero] at hst
  obtain ⟨m, rfl⟩ : ∃ m, n = m + 1 := ⟨n - 1, by omega⟩
  simp [Builtin.clear_, run_underlying Tryd.underlying22, Tryd.zeroValue24, hst]

theorem size_setCells : ∀ (zs : List Value) (o : Nat) {g : Nat} {w : World}, (w.setCells g o zs).heap.size = w.heap.size
  | [], _, _, _ => rfl
  | z :: zs, o, g, w => by rw [World.setCells, size_setCells zs]; simp [World.setCell]
theorem below_setCells : ∀ (zs : List Value) (o : Nat) {g : Nat} {w0 w : World}, Below w0.heap.size w0 w → w0.heap.size ≤ g → Below w0.heap.size w0 (w.setCells g o zs)
  | [], _, _, _, _, h, _ => h
  | z :: zs, o, g, _, _, h, hg => by rw [World.setCells]; exact below_setCells zs (o + 1) (h.setCell (p := ⟨g, o, none⟩) hg z) hg
/-- The frozen marks of a row of the call's own. -/
theorem own_free {w : World} {base : Nat} {e : TypeId} {g n cap : Nat} {xs : List Value} (h : w.ownsRow base e 4 (.slice (some ⟨g, 0, none⟩) n cap) n xs) (q : Nat) : w.frozen? ⟨g, q, none⟩ = false := by
  obtain ⟨hn, ⟨h, _⟩ | ⟨g', cap', cur, hv, hb, hgc, _⟩⟩ := h
  · cases h
  · cases hv
    simp [World.frozen?, hgc]
theorem own_len {w : World} {base : Nat} {e : TypeId} {g n cap : Nat} {xs : List Value} (h : w.ownsRow base e 4 (.slice (some ⟨g, 0, none⟩) n cap) n xs) : n ≤ cap := by
  obtain ⟨hn, ⟨h, _⟩ | ⟨g', cap', cur, hv, hb, hgc, h1, _⟩⟩ := h
  · cases h
  · cases hv; exact h1

set_option maxRecDepth 100000 in
set_option maxHeartbeats 8000000 in
theorem compact_tm (w0 w : World) (g cap n : Nat) (vs : List Tv) (hb0 : Below w0.heap.size w0 w) (hg : w0.heap.size ≤ g) (hvo : ∀ x ∈ vs, x.ok w0) (hl : n ≤ 1000000)
    (hown : w.ownsRow w0.heap.size 24 4 (.slice (some ⟨g, 0, none⟩) n cap) n (rowTv vs)) :
    Calls Tryd.prog 49 #[.slice (some ⟨g, 0, none⟩) n cap, .func (.func 18) #[] #[]] w fun e w' => ∃ u, e = .returned u ∧ Tms w' u (onceL (vs.map Tv.t)) ∧ Below w0.heap.size w0 w' := by
  have hnv : vs.length = n := by have := hown.1; rw [rowTv_length] at this; omega
  have hml : (vs.map Tv.t).length = n := by rw [List.length_map, hnv]
  have hgl : g < w.heap.size := own_row_lt hown g rfl
  have hcap := own_len hown
  have HO := Lib.hid hown
  have HV := Lib.hid hvo
  have HN := Lib.hid hnv
  have HM := Lib.hid hml
  -- all of the row, where no two that stand side by side are alike
  have hall : ∀ w', Below w.heap.size w w' → Apart1 (vs.map Tv.t) n → Tms w' (.slice (some ⟨g, 0, none⟩) n cap) (onceL (vs.map Tv.t)) := fun w' hb hap => by
    have e : onceL (vs.map Tv.t) = vs.map Tv.t := by have := onceL_apart hap (by omega); rwa [List.take_of_length_le (by omega)] at this
    rw [e]
    have hr := rowAt_own (k := n) (own_below HO.out hb) HV.out (w' := w') (hb0.trans (hb.mono hb0.size)) (fun _ _ _ h => h) (by omega)
    rw [List.take_of_length_le (by omega)] at hr
    exact ⟨_, cap, by rw [hml], by omega, .inr ⟨g, 0, rfl, by have := hb.size; omega, hr⟩⟩
  have HALL := Lib.hid hall
  clear hown hvo hall hnv hml
  by_cases h2 : n < 2
  · have h3 : (n : Int) < 2 := by omega
    go_enter Tryd.func49, Tryd.ntmps49
    go_wp2_with fail
    go_ret
    exact ⟨_, rfl, HALL.out w (Below.refl _ _) (fun i hi hij => by omega), hb0⟩
  · have h3 : ¬ (n : Int) < 2 := by omega
    go_enter Tryd.func49, Tryd.ntmps49
    go_wp2_with fail
    go_loopw [5] (fun i wr => ∃ j : Nat, j + 1 ≤ n ∧ i = .int .i64 ((j : Int) + 1) ∧ Hid (Apart1 (vs.map Tv.t) (j + 1)) ∧ Below w.heap.size w wr) (fun i _ => n - (intOf i).toNat)
    case atStart => exact ⟨0, by omega, rfl, Lib.hid (fun i hi hij => by omega), Below.refl _ _⟩
    case round =>
      obtain ⟨j, hj, rfl, hap, hb⟩ := hrel
      by_cases hjl : j + 1 < n
      · have hi1 : (j : Int) + 1 < (n : Int) := by omega
        have hi2 : (j : Int) < (n : Int) := by omega
        have hw1 : IntKind.i64.wrap (j : Int) = (j : Int) := by rw [IntKind.wrap_i64]; omega
        have ht1 : ((j : Int) + 1).toNat = j + 1 := by omega
        have ht0 : (0 : Int) ≤ (j : Int) + 1 := by omega
        have ht2 : (0 : Int) ≤ (j : Int) := by omega
        have hown := own_below HO.out hb
        have hs := hb.size
        have hjv : j + 1 < vs.length := by have := HN.out; omega
        obtain ⟨x, hx⟩ : ∃ x, x = vs[j + 1] := ⟨_, rfl⟩
        obtain ⟨y, hy⟩ : ∃ y, y = vs[j] := ⟨_, rfl⟩
        have hxa := own_tvAt hown (k := j + 1) hjv
        have hya := own_tvAt hown (k := j) (by omega)
        rw [← hx, Nat.zero_add] at hxa
        rw [← hy, Nat.zero_add] at hya
        have hbw : Below w0.heap.size w0 wr := hb0.trans (hb.mono hb0.size)
        have XC := fun p : After wr => hxa.below p.below
        have YC := fun p : After wr => hya.below p.below
        have X0 := fun p : After wr => (XC p).c0
        have X1 := fun p : After wr => (XC p).c1
        have X2 := fun p : After wr => (XC p).c2
        have X3 := fun p : After wr => (XC p).c3
        have Y0 := fun p : After wr => (YC p).c0
        have Y1 := fun p : After wr => (YC p).c1
        have Y2 := fun p : After wr => (YC p).c2
        have Y3 := fun p : After wr => (YC p).c3
        have C := Lib.hid (fun p : After wr => (psame_tm x y p.w (((HV.out x (by rw [hx]; exact List.getElem_mem _)).below hbw).below p.below) (((HV.out y (by rw [hy]; exact List.getElem_mem _)).below hbw).below p.below)).mono fun _ _ h => And.intro h.1 h.2.below)
        simp only [Tv.val] at C
        have hxt : (vs.map Tv.t)[j + 1]'(by simpa using hjv) = x.t := by rw [List.getElem_map, hx]
        have hyt : (vs.map Tv.t)[j]'(by rw [List.length_map]; omega) = y.t := by rw [List.getElem_map, hy]
        have HX := Lib.hid (And.intro hxt hyt)
        have HB := Lib.hid (Below.refl wr.heap.size wr)
        have HW := Lib.hid (And.intro hb hbw)
        clear hx hy hown hxa hya XC YC hxt hyt hb hbw
        cases he : eqT x.t y.t with
        | false =>
          rw [he] at C
          have HNE := Lib.hid (show x.t ≠ y.t from fun e => by rw [eqT_true e] at he; cases he)
          clear he
          go_wp2
          refine wp_region_after HB.out (by kernel_rfl) (by kernel_rfl) ?_
          repeat (quiet_step ((go_at_call 18; exact after_call (C.out _))))
          refine wpQuiet_nil ?_
          intro _ hw'
          obtain ⟨⟨wq, hbq⟩, hw''⟩ := hw'
          subst hw''
          clear X0 X1 X2 X3 Y0 Y1 Y2 Y3
          go_wp2
          go_roundw
          case rel => exact ⟨j + 1, by omega, by go_num, Lib.hid (hap.out.succ (by have := HM.out; omega) (by rw [HX.out.1, HX.out.2]; exact HNE.out)), below_next HW.out.1 hbq⟩
          case measure => simp [intOf]; omega
        | true =>
          rw [he] at C
          have HEQ := Lib.hid (eqT_iff.1 he)
          clear he
          go_wp2
          refine wp_region_after HB.out (by kernel_rfl) (by kernel_rfl) ?_
          repeat (quiet_step ((go_at_call 18; exact after_call (C.out _))))
          refine wpQuiet_nil ?_
          intro _ hw'
          obtain ⟨⟨wq, hbq⟩, hw''⟩ := hw'
          subst hw''
          clear X0 X1 X2 X3 Y0 Y1 Y2 Y3 C
          have hbw := below_next HW.out.1 hbq
          have hjv : j + 1 < vs.length := by have := HN.out; omega
          have hst0 : (vs.take (j + 1)).map Tv.t = onceL ((vs.map Tv.t).take (j + 1 + 0 + 1)) := by
            rw [onceL_same (k := j) (by simpa using hjv) (by rw [HX.out.1, HX.out.2]; exact HEQ.out), onceL_apart hap.out (by simp; omega), List.map_take]
          have HST0 := Lib.hid hst0
          have HOQ := Lib.hid (own_below HO.out hbw)
          have HBQ := Lib.hid (And.intro hbw (hb0.trans (hbw.mono hb0.size)))
          obtain ⟨m, hm⟩ : ∃ m, m = n - (j + 1) := ⟨_, rfl⟩
          have hmn : j + 1 + m = n := by omega
          have hm1 : 1 ≤ m := by omega
          have hcut : ∀ W, (Instr.slice 22 (.slice (some ⟨g, 0, none⟩) n cap) (some (.int .i64 ((j : Int) + 1))) none none).run Tryd.prog W = .ok (.slice (some ⟨g, (j + 1) * 4, none⟩) m (cap - (j + 1))) W := fun W => by
            have h := cutad_from g 0 n cap (j + 1) (by omega) W
            rw [cutAd_of (by omega), Nat.zero_add, ← hm] at h
            exact h
          clear hm hst0 hbw hbq hap HX HEQ hjv
          go_wp2
          clear hcut
          go_loopw [5, 7] (fun k k2 wz => ∃ (i q : Nat) (rs : List Tv), i + 1 ≤ m ∧ k2 = .int .i64 ((i : Int) + 1) ∧ k = .int .i64 (q : Int) ∧ j + 1 ≤ q ∧ q ≤ j + 1 + i ∧ Hid (rs.length = n) ∧ Hid ((rs.take q).map Tv.t = onceL ((vs.map Tv.t).take (j + 1 + i + 1))) ∧
            Hid (rs.drop (j + 1 + i) = vs.drop (j + 1 + i)) ∧ (∀ x ∈ rs, x.ok w0) ∧ wz.ownsRow w0.heap.size 24 4 (.slice (some ⟨g, 0, none⟩) n cap) n (rowTv rs) ∧ Below w0.heap.size w0 wz) (fun _ k2 _ => m - (intOf k2).toNat)
          case atStart => exact ⟨0, j + 1, vs, by omega, rfl, rfl, by omega, by omega, Lib.hid HN.out, Lib.hid HST0.out, Lib.hid rfl, HV.out, HOQ.out, HBQ.out.2⟩
          case round =>
            obtain ⟨i, q, rs, hi, rfl, rfl, hq1, hq2, HRL, HRT, HRD, hro, hown, hb⟩ := hrel
            have HRO := Lib.hid hro
            clear hro HST0 HOQ
            have hgl2 : g < wr.heap.size := own_row_lt hown g rfl
            by_cases hil : i + 1 < m
            · have ji1 : (i : Int) + 1 < (m : Int) := by omega
              have ji2 : (i : Int) < (m : Int) := by omega
              have jw1 : IntKind.i64.wrap (i : Int) = (i : Int) := by rw [IntKind.wrap_i64]; omega
              have jt1 : ((i : Int) + 1).toNat = i + 1 := by omega
              have jt0 : (0 : Int) ≤ (i : Int) + 1 := by omega
              have jt2 : (0 : Int) ≤ (i : Int) := by omega
              have jq1 : (q : Int) < (n : Int) := by omega
              have jq2 : (0 : Int) ≤ (q : Int) := by omega
              have hr1 : j + 1 + i + 1 < rs.length := by have := HRL.out; omega
              have hv1 : j + 1 + i + 1 < vs.length := by have := HN.out; omega
              have hrv : ∀ d (h1 : j + 1 + i + d < rs.length) (h2 : j + 1 + i + d < vs.length), rs[j + 1 + i + d] = vs[j + 1 + i + d] := fun d h1 h2 => by
                have e := congrArg (fun l => l[d]?) HRD.out
                simp only [List.getElem?_drop] at e
                rw [List.getElem?_eq_getElem h1, List.getElem?_eq_getElem h2] at e
                simpa using e
              obtain ⟨u, hu⟩ : ∃ u, u = rs[j + 1 + i + 1] := ⟨_, rfl⟩
              obtain ⟨v, hv⟩ : ∃ v, v = rs[j + 1 + i] := ⟨_, rfl⟩
              have hua := own_tvAt hown (k := j + 1 + i + 1) hr1
              have hva := own_tvAt hown (k := j + 1 + i) (by omega)
              rw [← hu, show 0 + (j + 1 + i + 1) * 4 = (j + 1) * 4 + (i + 1) * 4 from by omega] at hua
              rw [← hv, show 0 + (j + 1 + i) * 4 = (j + 1) * 4 + i * 4 from by omega] at hva
              have XC := fun p : After wr => hua.below p.below
              have YC := fun p : After wr => hva.below p.below
              have X0 := fun p : After wr => (XC p).c0
              have X1 := fun p : After wr => (XC p).c1
              have X2 := fun p : After wr => (XC p).c2
              have X3 := fun p : After wr => (XC p).c3
              have Y0 := fun p : After wr => (YC p).c0
              have Y1 := fun p : After wr => (YC p).c1
              have Y2 := fun p : After wr => (YC p).c2
              have Y3 := fun p : After wr => (YC p).c3
              have C := Lib.hid (fun p : After wr => (psame_tm u v p.w (((HRO.out u (by rw [hu]; exact List.getElem_mem _)).below hb).below p.below) (((HRO.out v (by rw [hv]; exact List.getElem_mem _)).below hb).below p.below)).mono fun _ _ h => And.intro h.1 h.2.below)
              simp only [Tv.val] at C
              have hut : (vs.map Tv.t)[j + 1 + i + 1]'(by simpa using hv1) = u.t := by rw [List.getElem_map, hu, hrv 1 hr1 hv1]
              have hvt : (vs.map Tv.t)[j + 1 + i]'(by rw [List.length_map]; omega) = v.t := by rw [List.getElem_map, hv]; congr 1; exact (hrv 0 (by omega) (by omega)).symm
              have huo := HRO.out u (by rw [hu]; exact List.getElem_mem _)
              have HU := Lib.hid (And.intro hut hvt)
              have HUO := Lib.hid huo
              have HB := Lib.hid (Below.refl wr.heap.size wr)
              have HOW := Lib.hid hown
              have HBW := Lib.hid hb
              clear hu hv hown hua hva YC hut hvt hb huo hrv
              have XCC := Lib.hid XC
              clear XC
              cases he : eqT u.t v.t with
              | true =>
                rw [he] at C
                have HEQ := Lib.hid (eqT_iff.1 he)
                clear he
                go_wp2
                refine wp_region_after HB.out (by kernel_rfl) (by kernel_rfl) ?_
                repeat (quiet_step ((go_at_call 18; exact after_call (C.out _))))
                refine wpQuiet_nil ?_
                intro _ hw'
                obtain ⟨⟨wq, hbq⟩, hw''⟩ := hw'
                subst hw''
                clear X0 X1 X2 X3 Y0 Y1 Y2 Y3 C
                go_wp2
                go_roundw
                case rel =>
                  refine ⟨i + 1, q, rs, by omega, by go_num, rfl, hq1, by omega, HRL, Lib.hid ?_, Lib.hid ?_, HRO.out, own_below HOW.out hbq, HBW.out.trans (hbq.mono HBW.out.size)⟩
                  · rw [HRT.out, show j + 1 + (i + 1) + 1 = j + 1 + i + 2 from by omega, onceL_same (k := j + 1 + i) (by simpa using hv1) (by rw [HU.out.1, HU.out.2]; exact HEQ.out)]
                  · have := congrArg (List.drop 1) HRD.out
                    rw [List.drop_drop, List.drop_drop] at this
                    exact this
                case measure => simp [intOf]; omega
              | false =>
                rw [he] at C
                have HNE := Lib.hid (show u.t ≠ v.t from fun e => by rw [eqT_true e] at he; cases he)
                clear he
                go_wp2
                refine wp_region_after HB.out (by kernel_rfl) (by kernel_rfl) ?_
                repeat (quiet_step ((go_at_call 18; exact after_call (C.out _))))
                refine wpQuiet_nil ?_
                intro _ hw'
                obtain ⟨⟨wq, hbq⟩, hw''⟩ := hw'
                subst hw''
                clear X0 X1 X2 X3 Y0 Y1 Y2 Y3 C
                have hown := own_below HOW.out hbq
                obtain ⟨u0, u1, u2, u3⟩ := XCC.out ⟨_, hbq⟩
                obtain ⟨o0, o1, o2, o3⟩ := own_tvAt hown (k := q) (by omega)
                have f0 := own_free hown (q * 4)
                have f1 := own_free hown (q * 4 + 1)
                have f2 := own_free hown (q * 4 + 2)
                have f3 := own_free hown (q * 4 + 3)
                rw [Nat.zero_add] at o0 o1 o2 o3
                have HOW2 := Lib.hid hown
                have HOL := Lib.hid (And.intro u0 o0)
                go_wp2
                go_roundw
                case rel =>
                  have hqr : q < rs.length := by have := HRL.out; omega
                  have hb9 := HBW.out.trans (hbq.mono HBW.out.size)
                  refine ⟨i + 1, q + 1, rs.set q u, by omega, by go_num, by go_num, by omega, by omega, Lib.hid (by rw [List.length_set]; exact HRL.out), Lib.hid ?_, Lib.hid ?_, ?_, own_put HOW2.out u q hqr, ?_⟩
                  · rw [show j + 1 + (i + 1) + 1 = j + 1 + i + 2 from by omega, onceL_more (k := j + 1 + i) (by simpa using hv1) (by rw [HU.out.1, HU.out.2]; exact HNE.out), HU.out.1, ← HRT.out, List.take_succ_eq_append_getElem (by rw [List.length_set]; exact hqr), List.getElem_set_self, List.take_set_of_le (Nat.le_refl _), List.map_append]
                    rfl
                  · rw [List.drop_set_of_lt (by omega)]
                    have := congrArg (List.drop 1) HRD.out
                    rw [List.drop_drop, List.drop_drop] at this
                    exact this
                  · intro z hz
                    rcases List.mem_or_eq_of_mem_set hz with h | rfl
                    · exact HRO.out z h
                    · exact HUO.out
                  · exact (((hb9.setCell (p := ⟨g, q * 4, none⟩) hg _).setCell (p := ⟨g, q * 4 + 1, none⟩) hg _).setCell (p := ⟨g, q * 4 + 2, none⟩) hg _).setCell (p := ⟨g, q * 4 + 3, none⟩) hg _
                case measure => simp [intOf]; omega
            · obtain rfl : m = i + 1 := by omega
              have jq0 : ¬ (i : Int) + 1 < ((i + 1 : Nat) : Int) := by omega
              have hqn : q < n := by omega
              have hcut : ∀ W, (Instr.slice 22 (.slice (some ⟨g, 0, none⟩) n cap) (some (.int .i64 (q : Int))) none none).run Tryd.prog W = .ok (.slice (some ⟨g, q * 4, none⟩) (n - q) (cap - q)) W := fun W => by
                have h := cutad_from g 0 n cap q (by omega) W
                rw [cutAd_of (by omega), Nat.zero_add] at h
                exact h
              have hcut2 := fun W => cutad_to g 0 n cap q (by omega) (by omega) W
              have hcells := own_row_cells hown
              obtain ⟨zs, hzl, hcl⟩ : ∃ zs : List Value, zs.length = (n - q) * 4 ∧ ∀ ty, (Builtin.clear_ #[22] ty #[.slice (some ⟨g, q * 4, none⟩) (n - q) (cap - q)]).run Tryd.prog wr = .ok (.tuple #[]) (wr.setCells g (q * 4) zs) := by
                exact run_clear_terms wr g (q * 4) (n - q) (cap - q) (by omega) (fun k hk => by
                  have hlt : q * 4 + k < (rowTv rs).length := by rw [rowTv_length, HRL.out]; omega
                  rw [hcells _ _ (List.getElem?_eq_getElem hlt)]; rfl) (fun k _ => own_free hown _)
              have hrt : Tms (wr.setCells g (q * 4) zs) (.slice (some ⟨g, 0, none⟩) q cap) (onceL (vs.map Tv.t)) ∧ Below w0.heap.size w0 (wr.setCells g (q * 4) zs) := by
                have hb9 := below_setCells zs (q * 4) hb hg
                have ht : (vs.map Tv.t).take (j + 1 + i + 1) = vs.map Tv.t := List.take_of_length_le (by have := HM.out; omega)
                have hl9 : ((rs.take q).map Tv.t).length = q := by have := HRL.out; simp; omega
                have hr := rowAt_own (k := q) hown HRO.out (w' := wr.setCells g (q * 4) zs) hb9 (fun q' x hq' hc => by rw [World.cell?_setCells_out g zs (q * 4) wr ⟨g, q', none⟩ (fun _ _ => .inl hq')]; exact hc) (by have := HRL.out; omega)
                rw [← ht, ← HRT.out]
                exact ⟨⟨_, cap, by rw [hl9], by rw [hl9]; omega, .inr ⟨g, 0, rfl, by rw [size_setCells]; exact hgl2, hr⟩⟩, hb9⟩
              have HRR := Lib.hid hrt
              clear hrt hown hb hcells
              go_wp2
              go_ret
              exact ⟨_, rfl, HRR.out.1, HRR.out.2⟩
      · have hnj : n = j + 1 := by omega
        have HA := Lib.hid (show Apart1 (vs.map Tv.t) n by rw [hnj]; exact hap.out)
        have hi1 : ¬ (j : Int) + 1 < (n : Int) := by omega
        clear hnj
        go_wp2
        go_ret
        exact ⟨_, rfl, HALL.out wr hb HA.out, hb0.trans (hb.mono hb0.size)⟩

set_option maxRecDepth 100000 in
set_option maxHeartbeats 400000 in
theorem compact_nil (w : World) :
    Calls Tryd.prog 49 #[.slice none 0 0, .func (.func 18) #[] #[]] w fun e w' => e = .returned (.slice none 0 0) ∧ w = w' := by
  go_enter Tryd.func49, Tryd.ntmps49
  go_wp2_with fail
  go_ret
  exact ⟨rfl, rfl⟩

set_option maxRecDepth 100000 in
set_option maxHeartbeats 1000000 in
theorem pset_tm (v : Value) (ts : List Tm) (w : World) (hv : Tms w v ts) (hlen : ts.length ≤ 1000000) :
    Calls Tryd.prog 23 #[v] w fun e w' => ∃ u, e = .returned u ∧ Tms w' u (setL ts) ∧ Below w.heap.size w w' := by
  have C := Lib.hid (psort_tm v ts w hv hlen)
  obtain ⟨a, c, rfl, _⟩ := hv
  go_enter Tryd.func23, Tryd.ntmps23
  go_wp2_with fail
  refine C.out.mono ?_; rintro e w1 ⟨u, rfl, hown, hnil, hb1⟩
  by_cases h0 : ts = []
  · subst h0
    obtain rfl := hnil.2 rfl
    have N := Lib.hid (compact_nil w1)
    clear hown hnil C
    go_wp2_with fail
    refine N.out.mono ?_; rintro e w2 ⟨rfl, rfl⟩
    go_wp2_with fail
    go_ret
    exact ⟨_, rfl, Tms.none_ _ _ _, hb1⟩
  · obtain ⟨vs, hvt, hvo, hrow⟩ := hown
    obtain ⟨g, cap, rfl, hg⟩ : ∃ g cap, u = .slice (some ⟨g, 0, none⟩) ts.length cap ∧ w.heap.size ≤ g := by
      have hl := sortL_len ts
      rcases hrow.2 with ⟨h1, _⟩ | ⟨g, cap, cur, h1, h2, _⟩
      · exact absurd (hnil.1 h1) h0
      · exact ⟨g, cap, by rw [← hl]; exact h1, h2⟩
    rw [sortL_len] at hrow
    have K := compact_tm w w1 g cap ts.length vs hb1 hg hvo hlen hrow
    rw [hvt] at K
    have HK := Lib.hid K
    clear K hrow hvt hvo hnil C
    go_wp2_with fail
    refine HK.out.mono ?_; rintro e w2 ⟨u2, rfl, ht, hb2⟩
    have HT := Lib.hid ht
    clear ht
    go_wp2_with fail
    go_ret
    exact ⟨_, rfl, HT.out, hb2⟩
end Go.Proofs.YtpdbnhhpibpbnaaDoor
