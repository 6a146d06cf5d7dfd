/-
  What variables a term has, each once, by the program's Vars: a range over All that keeps a set and a row.
-/
import Derived.Test.YtpdbnhhpibpbnaaDoorPGroundTm
import Derived.Maps.OwnIn
import Derived.StringKeys
import Derived.Maps.AppendAt
namespace Go.Proofs.YtpdbnhhpibpbnaaDoor
open Go.RowKit Go.Shelf
attribute [local go_sem] Oper.semAt_some

/-- The set that goes with a row of names. -/
def nameSet (zs : List ByteArray) : DataW Unit := Maps.setOf (.agg []) (zs.map fun s => Lit.string s.data.toList)
theorem nameSet_has (zs : List ByteArray) (s : ByteArray) : Maps.has (nameSet zs) (.string s.data.toList) = Lib.containsS zs s := by
  unfold nameSet
  rw [Maps.has_setOf _ _ _ (by
    intro x hx
    obtain ⟨z, _, rfl⟩ := List.mem_map.1 hx
    simp [WideAt.IsKeyLit])]
  rw [Bool.eq_iff_iff, List.any_eq_true, Lib.containsS_iff]
  constructor
  · rintro ⟨x, hx, he⟩
    obtain ⟨z, hz, rfl⟩ := List.mem_map.1 hx
    have e : z.data.toList = s.data.toList := by simpa [Lit.sameKey] using he
    have : z = s := by
      apply ByteArray.ext; apply Array.ext'; exact e
    rw [← this]; exact hz
  · intro h
    exact ⟨_, List.mem_map.2 ⟨s, h, rfl⟩, by simp [Lit.sameKey]⟩
theorem nameSet_put (zs : List ByteArray) (s : ByteArray) : (nameSet zs).put (.string s.data.toList) (.agg []) = nameSet (zs ++ [s]) := by
  unfold nameSet
  rw [List.map_append, ← Maps.setOf_snoc]; rfl
theorem varsL_snoc (l : List Tm) (t : Tm) : varsL (l ++ [t]) = varStep (varsL l) t := by unfold varsL; rw [List.foldl_append]; rfl

theorem map_obj {H : Type} {P : Program} {k : TypeId} {R : Value → Option (DataW H × List MemPlace)} {b n : Nat} {D : DataW H} {w : World} (h : w.ownsMap P k R b n D) : ∃ es ck, w.heap[b]? = some (Obj.map es ck) := by
  obtain ⟨es, ck, hh, _⟩ := h
  exact ⟨es, ck, hh⟩
theorem row_not_map {w : World} {base : Nat} {e : TypeId} {size n b : Nat} {v : Value} {xs : List Value} (h : w.ownsRow base e size v n xs) (hm : ∃ es ck, w.heap[b]? = some (Obj.map es ck)) : v.ownBlock ≠ some b := by
  obtain ⟨es, ck, hm⟩ := hm
  rcases h.2 with ⟨rfl, _⟩ | ⟨g, cap, cur, rfl, _, hg, _⟩
  · simp [Value.ownBlock]
  · intro e
    simp only [Value.ownBlock, Option.some.injEq] at e
    subst e
    rw [hg] at hm; cases hm

set_option maxRecDepth 100000 in
set_option maxHeartbeats 4000000 in
theorem pvars_tm (x : Tv) (w : World) (hx : x.ok w) (hp : x.t.parts ≤ 100000) :
    Calls Tryd.prog 25 #[x.val] w fun e w' => ∃ v, e = .returned v ∧ Strs w' v x.t.vars ∧ Below w.heap.size w w' := by
  obtain ⟨i0, hi, hi0, hi1, hi2⟩ := info_parts strInfo
  have hS := fun w1 Bt h1 h2 h3 => all_stops Fence.wide rfl (5 - 1) trivial trivial rfl w Bt ⟨x, hx⟩ w1 h1 h2 h3
  have hA := fun w1 => all_in Fence.wide (5 - 1) trivial rfl x w1
  have hmm := @run_makeMap Tryd.prog
  obtain ⟨t, a, c⟩ := x
  simp only [Tv.val] at hS hA hp ⊢
  refine callsIn_wide.1 (callsIn_of_wp_marks (n := 5) Tryd.func25 rfl trivial ?_ rfl)
  simp only [Tryd.ntmps25, List.size_toArray, List.length_cons, List.length_nil, Nat.reduceAdd, Nat.reduceSub, Array.replicate_succ, Array.replicate_zero, List.push_toArray, List.append_toArray, List.nil_append, List.cons_append]
  gi_wp2_with fail
  refine ⟨trivial, (hA _).mono ?_⟩; rintro e w1 ⟨rfl, rfl⟩
  have hz1 : (w.alloc (.cells #[.int .i64 t.kind, .string t.name, .int .i64 t.n, .slice a t.args.length c] 24)).heap.size = w.heap.size + 1 := by simp
  have hz2 : ((w.alloc (.cells #[.int .i64 t.kind, .string t.name, .int .i64 t.n, .slice a t.args.length c] 24)).alloc (.cells #[.slice none 0 0] 39)).heap.size = w.heap.size + 2 := by simp
  have hz3 : (((w.alloc (.cells #[.int .i64 t.kind, .string t.name, .int .i64 t.n, .slice a t.args.length c] 24)).alloc (.cells #[.slice none 0 0] 39)).alloc (.map #[] 0)).heap.size = w.heap.size + 3 := by simp
  have hz4 : ((((w.alloc (.cells #[.int .i64 t.kind, .string t.name, .int .i64 t.n, .slice a t.args.length c] 24)).alloc (.cells #[.slice none 0 0] 39)).alloc (.map #[] 0)).alloc (.cells #[.map (some (w.heap.size + 2))] 53)).heap.size = w.heap.size + 4 := by simp
  have hz5 : (((((w.alloc (.cells #[.int .i64 t.kind, .string t.name, .int .i64 t.n, .slice a t.args.length c] 24)).alloc (.cells #[.slice none 0 0] 39)).alloc (.map #[] 0)).alloc (.cells #[.map (some (w.heap.size + 2))] 53)).alloc (.cells #[.int .i64 t.kind, .string t.name, .int .i64 t.n, .slice a t.args.length c] 24)).heap.size = w.heap.size + 5 := by simp
  have hB0 : Below w.heap.size w (((((w.alloc (.cells #[.int .i64 t.kind, .string t.name, .int .i64 t.n, .slice a t.args.length c] 24)).alloc (.cells #[.slice none 0 0] 39)).alloc (.map #[] 0)).alloc (.cells #[.map (some (w.heap.size + 2))] 53)).alloc (.cells #[.int .i64 t.kind, .string t.name, .int .i64 t.n, .slice a t.args.length c] 24)) := (((((Below.refl _ w).alloc (Nat.le_refl _) _).alloc (by rw [hz1]; omega) _).alloc (by rw [hz2]; omega) _).alloc (by rw [hz3]; omega) _).alloc (by rw [hz4]; omega) _
  have bN := (((Boxed.new (w.alloc (.cells #[.int .i64 t.kind, .string t.name, .int .i64 t.n, .slice a t.args.length c] 24)) 39 (.slice none 0 0)).alloc (.map #[] 0)).alloc (.cells #[.map (some (w.heap.size + 2))] 53)).alloc (.cells #[.int .i64 t.kind, .string t.name, .int .i64 t.n, .slice a t.args.length c] 24)
  have bM := ((World.ownsMap_made ((w.alloc (.cells #[.int .i64 t.kind, .string t.name, .int .i64 t.n, .slice a t.args.length c] 24)).alloc (.cells #[.slice none 0 0] 39)) Tryd.prog 9 (unitElem (H := Unit))).alloc (.cells #[.map (some (w.heap.size + 2))] 53)).alloc (.cells #[.int .i64 t.kind, .string t.name, .int .i64 t.n, .slice a t.args.length c] 24)
  have bS := (Boxed.new (((w.alloc (.cells #[.int .i64 t.kind, .string t.name, .int .i64 t.n, .slice a t.args.length c] 24)).alloc (.cells #[.slice none 0 0] 39)).alloc (.map #[] 0)) 53 (.map (some (w.heap.size + 2)))).alloc (.cells #[.int .i64 t.kind, .string t.name, .int .i64 t.n, .slice a t.args.length c] 24)
  have bX := box_new ((((w.alloc (.cells #[.int .i64 t.kind, .string t.name, .int .i64 t.n, .slice a t.args.length c] 24)).alloc (.cells #[.slice none 0 0] 39)).alloc (.map #[] 0)).alloc (.cells #[.map (some (w.heap.size + 2))] 53)) (.int .i64 t.kind) (.string t.name) (.int .i64 t.n) (.slice a t.args.length c) 24
  rw [hz1] at bN
  rw [hz2] at bM
  rw [hz3] at bS
  rw [hz4] at bX
  clear hz1 hz2 hz3
  simp only [Nat.add_assoc, Nat.reduceAdd] at hz4 hz5 bN bM bS bX hB0 ⊢
  rw [hz4]
  clear hz4
  obtain ⟨W0, hW0⟩ : ∃ W0, (((((w.alloc (.cells #[.int .i64 t.kind, .string t.name, .int .i64 t.n, .slice a t.args.length c] 24)).alloc (.cells #[.slice none 0 0] 39)).alloc (.map #[] 0)).alloc (.cells #[.map (some (w.heap.size + 2))] 53)).alloc (.cells #[.int .i64 t.kind, .string t.name, .int .i64 t.n, .slice a t.args.length c] 24)) = W0 := ⟨_, rfl⟩
  rw [hW0] at bN bM bS bX hB0 hz5 ⊢
  clear hW0
  gi_wp2_with fail
  refine wpIn_rangeFunc_ownH rfl (by omega) (gf := 40) (lb := #[.pointer (some ⟨w.heap.size + 4, 0, none⟩)]) rfl trivial (enters_of Tryd.func40 (by kernel_rfl) rfl)
    (hS W0 (w.heap.size + 4) (by omega) bX hB0) keepsT_t (keepsT_b (by omega)) (Below.refl _ _) (fun _ => rfl)
    (fun (pre : List (TvIn w)) W => ((∃ v, Boxed W (w.heap.size + 1) 39 v ∧ W.ownsRow w.heap.size 9 1 v (varsL (tms pre)).length ((varsL (tms pre)).map Value.string) ∧ True) ∧ Boxed W (w.heap.size + 3) 53 (.map (some (w.heap.size + 2)))) ∧
      (W.ownsMap Tryd.prog 9 (unitElem (H := Unit)) (w.heap.size + 2) pre.length (nameSet (varsL (tms pre))) ∧ Below w.heap.size w W))
    (fun _ _ _ => False)
    (OwnFrom.and (OwnFrom.and (Own.from (holdsRow_own _ _ _ _ _ (fun pre : List (TvIn w) => (varsL (tms pre)).length) (fun pre => (varsL (tms pre)).map Value.string) (fun _ _ => True)) _) (Own.from (boxed_own _ _ (fun _ : List (TvIn w) => .map (some (w.heap.size + 2)))) _))
      (OwnFrom.and (fun s X Y row hs hg hr => World.ownsMap.kept hs hg (fun e => by have := (hr _ e.symm).1; omega)) (ownFrom_below (Nat.le_refl _) (by omega))))
    (fun _ _ _ _ _ hs _ _ => hs)
    ⟨⟨⟨_, bN, World.ownsRow_nil _ _ _ _, trivial⟩, bS⟩, bM, hB0⟩
    (fun y a' Wv => ∃ Bx, w.heap.size + 3 < Bx ∧ Box Wv Bx (.int .i64 y.1.t.kind) (.string y.1.t.name) (.int .i64 y.1.t.n) (.slice y.1.a y.1.t.args.length y.1.c) ∧ a' = { tmps := #[.agg #[.int .i64 t.kind, .string t.name, .int .i64 t.n, .slice a t.args.length c], .pointer (some ⟨w.heap.size, 0, none⟩), .slice none 0 0, .pointer (some ⟨w.heap.size + 1, 0, none⟩), .pointer (some ⟨w.heap.size + 3, 0, none⟩), .pointer (some ⟨Bx, 0, none⟩), undef, undef, .map (some (w.heap.size + 2)), .agg #[.int .i64 t.kind, .string t.name, .int .i64 t.n, .slice a t.args.length c], .func (.func 40) #[] #[.pointer (some ⟨w.heap.size + 4, 0, none⟩)], .agg #[.int .i64 y.1.t.kind, .string y.1.t.name, .int .i64 y.1.t.n, .slice y.1.a y.1.t.args.length y.1.c], undef, undef, undef, undef, undef, undef, undef, undef, undef, undef, undef, undef, undef, undef, undef, undef, undef, undef, undef, undef, undef, undef], defers := [] })
    (fun y a' _ X Y row hs hg hr => by obtain ⟨Bx, h1, h2, h3⟩ := hs; exact ⟨Bx, h1, box_own Bx _ _ _ _ () X Y row h2 hg (fun r e => (hr r e).2), h3⟩)
    ?assign ?body ?done ?stop
  case assign =>
    rintro l pre y W K ⟨⟨⟨v, bN1, hr1, _⟩, bS1⟩, hM1, hB1⟩ hK
    gi_wp2_with fail
    exact hK _ _ ((KeepsOthers.alloc _ _).from _) ((KeepsT.refl _ W).alloc hB1.size _) ⟨⟨⟨v, bN1.alloc _, hr1.alloc _, trivial⟩, bS1.alloc _⟩, hM1.alloc _, hB1.alloc hB1.size _⟩ ⟨W.heap.size, bS1.lt, box_new W _ _ _ _ _, rfl⟩
  case body =>
    rintro l pre y a' W hl _ ⟨⟨⟨v, bN1, hr1, _⟩, bS1⟩, hM1, hB1⟩ ⟨Bx, hBx, bX1, rfl⟩ hlt
    have hbX := bX1
    obtain ⟨x0, x1, x2, x3, _, _, _, _⟩ := bX1
    have cS := bS1.cell
    have cN := bN1.cell
    have hkey : keyOf Tryd.prog 9 (.string y.1.t.name) = some (.string y.1.t.name.data.toList) := Go.WideMaps.keyOf_string_mk Tryd.underlying9 (by have := y.2.1.len; unfold maxLen; exact this)
    have HV := Lib.hid (varsL_snoc (tms pre) y.1.t)
    have hT : tms (pre ++ [y]) = tms pre ++ [y.1.t] := by rw [tms_append]; rfl
    have HT := Lib.hid hT
    clear hT
    have hlen : (varsL (tms pre)).length ≤ pre.length := by have := varsL_len (tms pre); rw [tms_length] at this; exact this
    have hB1s := hB1.size
    cases hk : (y.1.t.kind == 1) with
    | false =>
      have hk2 : (y.1.t.kind != 1) = true := by simpa using hk
      have HE := Lib.hid (show varsL (tms (pre ++ [y])) = varsL (tms pre) by rw [HT.out, HV.out]; unfold varStep; rw [if_neg (by rw [hk]; simp)])
      gi_wp2_with fail
      exact ⟨KeepsFrom.refl _ _, KeepsT.refl _ _, ⟨⟨v, bN1, by rw [HE.out]; exact hr1, trivial⟩, bS1⟩, by rw [HE.out]; exact hM1.mono (by simp), hB1⟩
    | true =>
      have hk2 : (y.1.t.kind != 1) = false := by simpa using hk
      have hh := nameSet_has (varsL (tms pre)) y.1.t.name
      cases hc : Lib.containsS (varsL (tms pre)) y.1.t.name with
      | true =>
        have HE := Lib.hid (show varsL (tms (pre ++ [y])) = varsL (tms pre) by rw [HT.out, HV.out]; unfold varStep; rw [if_neg (by rw [hc]; simp)])
        rw [hc] at hh
        gi_wp2_with (gi_at_lookup; refine wpListIn_lookup_own_unit _ rfl _ _ 53 rfl 9 54 (Maps.string_keyed Tryd.underlying9) Tryd.underlying53 (Tryd.zeroValue54 _) (w.heap.size + 2) pre.length _ rfl hM1 _ _ rfl hkey ?_)
        exact ⟨(KeepsOthers.alloc _ _).from _, (KeepsT.refl _ _).alloc hB1s _, ⟨⟨v, bN1.alloc _, by rw [HE.out]; exact hr1.alloc _, trivial⟩, bS1.alloc _⟩, by rw [HE.out]; exact (hM1.alloc _).mono (by simp), hB1.alloc hB1s _⟩
      | false =>
        have HE := Lib.hid (show varsL (tms (pre ++ [y])) = varsL (tms pre) ++ [y.1.t.name] by rw [HT.out, HV.out]; unfold varStep; rw [if_pos ⟨hk, hc⟩])
        have HP := Lib.hid (nameSet_put (varsL (tms pre)) y.1.t.name)
        rw [hc] at hh
        have hM2 := hM1.alloc (.cells #[] 54)
        have bS2 := bS1.alloc (.cells #[] 54)
        have bN2 := bN1.alloc (.cells #[] 54)
        have hr2 := hr1.alloc (.cells #[] 54)
        have bX2 := hbX.below ((Below.refl W.heap.size W).alloc (Nat.le_refl _) (.cells #[] 54)) (box_lt hbX)
        have cS2 := bS2.cell
        have cN2 := bN2.cell
        obtain ⟨z0, z1, z2, z3, _, _, _, _⟩ := id bX2
        gi_wp2_with (first
          | (gi_at_lookup; refine wpListIn_lookup_own_unit _ rfl _ _ 53 rfl 9 54 (Maps.string_keyed Tryd.underlying9) Tryd.underlying53 (Tryd.zeroValue54 _) (w.heap.size + 2) pre.length _ rfl hM1 _ _ rfl hkey ?_)
          | (gi_at_mapUpdate; refine wpListIn_mapUpdate_own _ rfl _ _ _ 53 rfl 9 54 (Maps.string_keyed Tryd.underlying9) Tryd.underlying53 _ (w.heap.size + 2) pre.length _ rfl hM2 (by unfold maxLen; omega) _ _ _ rfl rfl hkey (.agg []) [] unitElem_mk ?_; intro w2 hM3 hgrow2; have hmo := map_obj hM2; have hbx3 := box_kept bX2 (hgrow2.block Bx (box_lt bX2) (fun e => by cases e; omega)); have hr3 := hr2.kept hgrow2 (.inr (row_not_map hr2 hmo)); have bN3 := bN2.kept hgrow2 (by simp); have bS3 := bS2.kept hgrow2 (by simp); have cN3 := bN3.cell; obtain ⟨y0, y1, y2, y3, _, _, _, _⟩ := id hbx3)
          | (gi_at_builtin; refine wpListIn_append_own _ rfl _ _ 39 rfl w.heap.size 9 i0 (.string ⟨#[]⟩) 1 16 Tryd.underlying39 hi hi0 hi1 hi2 rfl (by decide) _ _ _ rfl (hr3.alloc _) ⟨w2.heap.size, 0, none⟩ 1 1 [.string y.1.t.name] rfl rfl (cell_one_new _ _ _) (by simp [Value.oneCell']) (by unfold maxLen; omega) (by omega) (by have := hgrow2.size; simp at this ⊢; omega) ?_; intro v' w3 hown' hgrow3 _; obtain ⟨g', cap', rfl⟩ := ownsRow_succ hown'; obtain ⟨hv1, hv2, hr9, hk9, hb9⟩ := bN3.appended (by decide) hr3 (by have := hgrow2.size; simp at this; omega) (by omega) hown' hgrow3; have hc1 := hv1.cell; have hf1 := hv1.frozen))
        have hgs := hgrow2.size
        simp at hgs
        have hg3 : (w2.alloc (Obj.cells #[.string y.1.t.name] 9)).grownBy w3 v.ownBlock := hgrow3
        have hkT : KeepsT w.heap.size W (w3.setCell ⟨w.heap.size + 1, 0, none⟩ (.slice (some ⟨g', 0, none⟩) ((varsL (tms pre)).length + 1) cap')) := by
          have k1 := ((KeepsT.refl w.heap.size W).alloc hB1s (.cells #[] 54)).grown hgrow2 (by simp; omega) (fun k e => by
            cases e
            obtain ⟨es, ck, hm⟩ := map_obj hM2
            exact ⟨by omega, fun c f e => by rw [hm] at e; cases e⟩)
          have k2 := (k1.alloc (by omega) (Obj.cells #[.string y.1.t.name] 9)).grown hg3 (by simp; omega) (fun k e => by
            obtain ⟨_, ⟨rfl, _⟩ | ⟨g, cap, cur, rfl, hb, hg, _⟩⟩ := hr3.alloc (Obj.cells #[.string y.1.t.name] 9)
            · cases e
            · cases e
              exact ⟨hb, fun c f e => by rw [hg] at e; injection e with e; injection e with _ e _; exact absurd e (by decide)⟩)
          exact k2.setBox hv1 (by decide) (by omega) _
        have hM9 : (w3.setCell ⟨w.heap.size + 1, 0, none⟩ (.slice (some ⟨g', 0, none⟩) ((varsL (tms pre)).length + 1) cap')).ownsMap Tryd.prog 9 (unitElem (H := Unit)) (w.heap.size + 2) (pre.length + 1) (nameSet (varsL (tms pre ++ [y.1.t]))) := by
          have m1 := (hM3.alloc (Obj.cells #[.string y.1.t.name] 9)).kept hg3 (fun e => (row_not_map (hr3.alloc (Obj.cells #[.string y.1.t.name] 9)) (map_obj (hM3.alloc (Obj.cells #[.string y.1.t.name] 9)))) e.symm)
          have m2 := m1.kept (grownBy_setCell' w3 (w.heap.size + 1) (.slice (some ⟨g', 0, none⟩) ((varsL (tms pre)).length + 1) cap')) (by simp)
          rw [← HT.out, HE.out, ← HP.out]; exact m2
        have bS9 := (((bS3.alloc (Obj.cells #[.string y.1.t.name] 9)).kept hg3 ((bS3.alloc (Obj.cells #[.string y.1.t.name] 9)).not_row (by decide) (hr3.alloc (Obj.cells #[.string y.1.t.name] 9))))).other (B' := w.heap.size + 1) (by omega) (.slice (some ⟨g', 0, none⟩) ((varsL (tms pre)).length + 1) cap')
        refine ⟨((KeepsOthers.alloc _ _).from _).trans ((KeepsFrom.of_grownBy hgrow2 (fun j e => by cases e; omega)).trans (hk9.from _)), hkT, ⟨⟨_, hv2, ?_, trivial⟩, bS9⟩, ?_, hB1.trans hkT.below⟩
        · rw [HE.out, List.length_append, List.map_append]; exact hr9
        · rw [HT.out, List.length_append]; exact hM9
  case done =>
    rintro D ys W hD hys ⟨⟨⟨v, bN1, hr1, _⟩, bS1⟩, hM1, hB1⟩ hK
    have cN := bN1.cell
    have fN := bN1.frozen
    rw [hys] at hr1
    have hl : t.vars.length ≤ 100000 := by have := varsL_len t.all; rw [all_length] at this; show (varsL t.all).length ≤ _; omega
    have hr2 := ownsRow_putObj hr1 (.deferred none) hK rfl
    have H := Lib.hid (And.intro hys hr2)
    clear hys hr1 hr2 hM1
    gi_wp2_with fail
    refine ⟨by simp, .inl ⟨_, _, rfl, run_takeDeferred hK, ?_⟩⟩
    exact ⟨_, results_tmp rfl _ _ _, _, rfl, strs_of_own H.out.2 (by show t.vars.length ≤ _; omega), hB1.trans (belowK_b (w := w) (Nat.le_refl _) W D _ _ (by omega) hK rfl rfl)⟩
  case stop =>
    rintro D cc pre W hD hpre h hK
    exact h.elim
end Go.Proofs.YtpdbnhhpibpbnaaDoor
