/-
  What variables a term has, each once, by the program's Vars: a range over All that keeps a set and a row.
  The order of terms, as data: cmpT. No function of the program.
-/
import Derived.Test.YtnbjpgdnfklanaaGreatDoorT22
import Derived.Test.YtnbjpgdnfklanaaGreatDoorT02
import Derived.Maps.OwnIn
import Derived.StringKeys
import Derived.Maps.AppendAt
import Derived.Test.YtnbjpgdnfklanaaGreatDoorT01
namespace Go.Proofs.YtnbjpgdnfklanaaGreatDoor
open Go.RowKit Go.Shelf
attribute [local go_sem] Oper.semAt_some
theorem varsL_snoc (l : List Tm) (t : Tm) : varsL (l ++ [t]) = varStep (varsL l) t := by unfold varsL; rw [List.foldl_append]; rfl
theorem map_obj {H : Type} {P : Program} {k : TypeId} {R : Value → Option (DataW H × List MemPlace)} {b n : Nat} {D : DataW H} {w : World} (h : w.ownsMap P k R b n D) : ∃ es ck, w.heap[b]? = some (Obj.map es ck) := by
  obtain ⟨es, ck, hh, _⟩ := h
  exact ⟨es, ck, hh⟩
theorem row_not_map {w : World} {base : Nat} {e : TypeId} {size n b : Nat} {v : Value} {xs : List Value} (h : w.ownsRow base e size v n xs) (hm : ∃ es ck, w.heap[b]? = some (Obj.map es ck)) : v.ownBlock ≠ some b := by
  obtain ⟨es, ck, hm⟩ := hm
  rcases h.2 with ⟨rfl, _⟩ | ⟨g, cap, cur, rfl, _, hg, _⟩
  · simp [Value.ownBlock]
  · intro e
    simp only [Value.ownBlock, Option.some.injEq] at e
    subst e
    rw [hg] at hm; cases hm
set_option maxRecDepth 100000 in
set_option maxHeartbeats 4000000 in
theorem pvars_tm (x : Tv) (w : World) (hx : x.ok w) (hp : x.t.parts ≤ 2300000000000) :
    Calls Tryz.prog 114 #[x.val] w fun e w' => ∃ v, e = .returned v ∧ (Strs w' v x.t.vars ∧ w'.ownsRow w.heap.size 9 1 v x.t.vars.length (x.t.vars.map Value.string)) ∧ Below w.heap.size w w' := by
  obtain ⟨i0, hi, hi0, hi1, hi2⟩ := info_parts strInfo
  have hS := fun w1 Bt h1 h2 h3 => all_stops Fence.wide rfl (5 - 1) trivial trivial rfl w Bt ⟨x, hx⟩ w1 h1 h2 h3
  have hA := fun w1 => all_in Fence.wide (5 - 1) trivial rfl x w1
  have hmm := @run_makeMap Tryz.prog
  obtain ⟨t, a, c⟩ := x
  simp only [Tv.val] at hS hA hp ⊢
  refine callsIn_wide.1 (callsIn_of_wp_marks (n := 5) Tryz.func114 rfl trivial ?_ rfl)
  simp only [Tryz.ntmps114, List.size_toArray, List.length_cons, List.length_nil, Nat.reduceAdd, Nat.reduceSub, Array.replicate_succ, Array.replicate_zero, List.push_toArray, List.append_toArray, List.nil_append, List.cons_append]
  gi_wp2_with fail
  refine ⟨trivial, (hA _).mono ?_⟩; rintro e w1 ⟨rfl, rfl⟩
  have hz1 : (w.alloc (.cells #[.int .i64 t.kind, .string t.name, .int .i64 t.n, .slice a t.args.length c] 50)).heap.size = w.heap.size + 1 := by simp
  have hz2 : ((w.alloc (.cells #[.int .i64 t.kind, .string t.name, .int .i64 t.n, .slice a t.args.length c] 50)).alloc (.cells #[.slice none 0 0] 34)).heap.size = w.heap.size + 2 := by simp
  have hz3 : (((w.alloc (.cells #[.int .i64 t.kind, .string t.name, .int .i64 t.n, .slice a t.args.length c] 50)).alloc (.cells #[.slice none 0 0] 34)).alloc (.map #[] 0)).heap.size = w.heap.size + 3 := by simp
  have hz4 : ((((w.alloc (.cells #[.int .i64 t.kind, .string t.name, .int .i64 t.n, .slice a t.args.length c] 50)).alloc (.cells #[.slice none 0 0] 34)).alloc (.map #[] 0)).alloc (.cells #[.map (some (w.heap.size + 2))] 171)).heap.size = w.heap.size + 4 := by simp
  have hz5 : (((((w.alloc (.cells #[.int .i64 t.kind, .string t.name, .int .i64 t.n, .slice a t.args.length c] 50)).alloc (.cells #[.slice none 0 0] 34)).alloc (.map #[] 0)).alloc (.cells #[.map (some (w.heap.size + 2))] 171)).alloc (.cells #[.int .i64 t.kind, .string t.name, .int .i64 t.n, .slice a t.args.length c] 50)).heap.size = w.heap.size + 5 := by simp
  have hB0 : Below w.heap.size w (((((w.alloc (.cells #[.int .i64 t.kind, .string t.name, .int .i64 t.n, .slice a t.args.length c] 50)).alloc (.cells #[.slice none 0 0] 34)).alloc (.map #[] 0)).alloc (.cells #[.map (some (w.heap.size + 2))] 171)).alloc (.cells #[.int .i64 t.kind, .string t.name, .int .i64 t.n, .slice a t.args.length c] 50)) := (((((Below.refl _ w).alloc (Nat.le_refl _) _).alloc (by rw [hz1]; omega) _).alloc (by rw [hz2]; omega) _).alloc (by rw [hz3]; omega) _).alloc (by rw [hz4]; omega) _
  have bN := (((Boxed.new (w.alloc (.cells #[.int .i64 t.kind, .string t.name, .int .i64 t.n, .slice a t.args.length c] 50)) 34 (.slice none 0 0)).alloc (.map #[] 0)).alloc (.cells #[.map (some (w.heap.size + 2))] 171)).alloc (.cells #[.int .i64 t.kind, .string t.name, .int .i64 t.n, .slice a t.args.length c] 50)
  have bM := ((World.ownsMap_made ((w.alloc (.cells #[.int .i64 t.kind, .string t.name, .int .i64 t.n, .slice a t.args.length c] 50)).alloc (.cells #[.slice none 0 0] 34)) Tryz.prog 9 (unitElem (H := Unit))).alloc (.cells #[.map (some (w.heap.size + 2))] 171)).alloc (.cells #[.int .i64 t.kind, .string t.name, .int .i64 t.n, .slice a t.args.length c] 50)
  have bS := (Boxed.new (((w.alloc (.cells #[.int .i64 t.kind, .string t.name, .int .i64 t.n, .slice a t.args.length c] 50)).alloc (.cells #[.slice none 0 0] 34)).alloc (.map #[] 0)) 171 (.map (some (w.heap.size + 2)))).alloc (.cells #[.int .i64 t.kind, .string t.name, .int .i64 t.n, .slice a t.args.length c] 50)
  have bX := box_new ((((w.alloc (.cells #[.int .i64 t.kind, .string t.name, .int .i64 t.n, .slice a t.args.length c] 50)).alloc (.cells #[.slice none 0 0] 34)).alloc (.map #[] 0)).alloc (.cells #[.map (some (w.heap.size + 2))] 171)) (.int .i64 t.kind) (.string t.name) (.int .i64 t.n) (.slice a t.args.length c) 50
  rw [hz1] at bN
  rw [hz2] at bM
  rw [hz3] at bS
  rw [hz4] at bX
  clear hz1 hz2 hz3
  simp only [Nat.add_assoc, Nat.reduceAdd] at hz4 hz5 bN bM bS bX hB0 ⊢
  rw [hz4]
  clear hz4
  obtain ⟨W0, hW0⟩ : ∃ W0, (((((w.alloc (.cells #[.int .i64 t.kind, .string t.name, .int .i64 t.n, .slice a t.args.length c] 50)).alloc (.cells #[.slice none 0 0] 34)).alloc (.map #[] 0)).alloc (.cells #[.map (some (w.heap.size + 2))] 171)).alloc (.cells #[.int .i64 t.kind, .string t.name, .int .i64 t.n, .slice a t.args.length c] 50)) = W0 := ⟨_, rfl⟩
  rw [hW0] at bN bM bS bX hB0 hz5 ⊢
  clear hW0
  gi_wp2_with fail
  refine wpIn_rangeFunc_ownH rfl (by omega) (gf := 129) (lb := #[.pointer (some ⟨w.heap.size + 4, 0, none⟩)]) rfl trivial (enters_of Tryz.func129 (by kernel_rfl) rfl)
    (hS W0 (w.heap.size + 4) (by omega) bX hB0) keepsT_t (keepsT_b (by omega)) (Below.refl _ _) (fun _ => rfl)
    (fun (pre : List (TvIn w)) W => ((∃ v, Boxed W (w.heap.size + 1) 34 v ∧ W.ownsRow w.heap.size 9 1 v (varsL (tms pre)).length ((varsL (tms pre)).map Value.string) ∧ True) ∧ Boxed W (w.heap.size + 3) 171 (.map (some (w.heap.size + 2)))) ∧
      (W.ownsMap Tryz.prog 9 (unitElem (H := Unit)) (w.heap.size + 2) pre.length (nameSet (varsL (tms pre))) ∧ Below w.heap.size w W))
    (fun _ _ _ => False)
    (OwnFrom.and (OwnFrom.and (Own.from (holdsRow_own _ _ _ _ _ (fun pre : List (TvIn w) => (varsL (tms pre)).length) (fun pre => (varsL (tms pre)).map Value.string) (fun _ _ => True)) _) (Own.from (boxed_own _ _ (fun _ : List (TvIn w) => .map (some (w.heap.size + 2)))) _))
      (OwnFrom.and (fun s X Y row hs hg hr => World.ownsMap.kept hs hg (fun e => by have := (hr _ e.symm).1; omega)) (ownFrom_below (Nat.le_refl _) (by omega))))
    (fun _ _ _ _ _ hs _ _ => hs)
    ⟨⟨⟨_, bN, World.ownsRow_nil _ _ _ _, trivial⟩, bS⟩, bM, hB0⟩
    (fun y a' Wv => ∃ Bx, w.heap.size + 3 < Bx ∧ Box Wv Bx (.int .i64 y.1.t.kind) (.string y.1.t.name) (.int .i64 y.1.t.n) (.slice y.1.a y.1.t.args.length y.1.c) ∧ a' = { tmps := #[.agg #[.int .i64 t.kind, .string t.name, .int .i64 t.n, .slice a t.args.length c], .pointer (some ⟨w.heap.size, 0, none⟩), .slice none 0 0, .pointer (some ⟨w.heap.size + 1, 0, none⟩), .pointer (some ⟨w.heap.size + 3, 0, none⟩), .pointer (some ⟨Bx, 0, none⟩), undef, undef, .map (some (w.heap.size + 2)), .agg #[.int .i64 t.kind, .string t.name, .int .i64 t.n, .slice a t.args.length c], .func (.func 129) #[] #[.pointer (some ⟨w.heap.size + 4, 0, none⟩)], .agg #[.int .i64 y.1.t.kind, .string y.1.t.name, .int .i64 y.1.t.n, .slice y.1.a y.1.t.args.length y.1.c], undef, undef, undef, undef, undef, undef, undef, undef, undef, undef, undef, undef, undef, undef, undef, undef, undef, undef, undef, undef, undef, undef], defers := [] })
    (fun y a' _ X Y row hs hg hr => by obtain ⟨Bx, h1, h2, h3⟩ := hs; exact ⟨Bx, h1, box_own Bx _ _ _ _ () X Y row h2 hg (fun r e => (hr r e).2), h3⟩)
    ?assign ?body ?done ?stop
  case assign =>
    rintro l pre y W K ⟨⟨⟨v, bN1, hr1, _⟩, bS1⟩, hM1, hB1⟩ hK
    gi_wp2_with fail
    exact hK _ _ ((KeepsOthers.alloc _ _).from _) ((KeepsT.refl _ W).alloc hB1.size _) ⟨⟨⟨v, bN1.alloc _, hr1.alloc _, trivial⟩, bS1.alloc _⟩, hM1.alloc _, hB1.alloc hB1.size _⟩ ⟨W.heap.size, bS1.lt, box_new W _ _ _ _ _, rfl⟩
  case body =>
    rintro l pre y a' W hl _ ⟨⟨⟨v, bN1, hr1, _⟩, bS1⟩, hM1, hB1⟩ ⟨Bx, hBx, bX1, rfl⟩ hlt
    have hbX := bX1
    obtain ⟨x0, x1, x2, x3, _, _, _, _⟩ := bX1
    have cS := bS1.cell
    have cN := bN1.cell
    have hkey : keyOf Tryz.prog 9 (.string y.1.t.name) = some (.string y.1.t.name.data.toList) := Go.WideMaps.keyOf_string_mk Tryz.underlying9 (by have := y.2.1.len; unfold maxLen; exact this)
    have HV := Lib.hid (varsL_snoc (tms pre) y.1.t)
    have hT : tms (pre ++ [y]) = tms pre ++ [y.1.t] := by rw [tms_append]; rfl
    have HT := Lib.hid hT
    clear hT
    have hlen : (varsL (tms pre)).length ≤ pre.length := by have := varsL_len (tms pre); rw [tms_length] at this; exact this
    have hB1s := hB1.size
    cases hk : (y.1.t.kind == 1) with
    | false =>
      have hk2 : (y.1.t.kind != 1) = true := by simpa using hk
      have HE := Lib.hid (show varsL (tms (pre ++ [y])) = varsL (tms pre) by rw [HT.out, HV.out]; unfold varStep; rw [if_neg (by rw [hk]; simp)])
      gi_wp2_with fail
      exact ⟨KeepsFrom.refl _ _, KeepsT.refl _ _, ⟨⟨v, bN1, by rw [HE.out]; exact hr1, trivial⟩, bS1⟩, by rw [HE.out]; exact hM1.mono (by simp), hB1⟩
    | true =>
      have hk2 : (y.1.t.kind != 1) = false := by simpa using hk
      have hh := nameSet_has (varsL (tms pre)) y.1.t.name
      cases hc : Lib.containsS (varsL (tms pre)) y.1.t.name with
      | true =>
        have HE := Lib.hid (show varsL (tms (pre ++ [y])) = varsL (tms pre) by rw [HT.out, HV.out]; unfold varStep; rw [if_neg (by rw [hc]; simp)])
        rw [hc] at hh
        gi_wp2_with (gi_at_lookup; refine wpListIn_lookup_own_unit _ rfl _ _ 171 rfl 9 137 (Maps.string_keyed Tryz.underlying9) Tryz.underlying171 (Tryz.zeroValue137 _) (w.heap.size + 2) pre.length _ rfl hM1 _ _ rfl hkey ?_)
        exact ⟨(KeepsOthers.alloc _ _).from _, (KeepsT.refl _ _).alloc hB1s _, ⟨⟨v, bN1.alloc _, by rw [HE.out]; exact hr1.alloc _, trivial⟩, bS1.alloc _⟩, by rw [HE.out]; exact (hM1.alloc _).mono (by simp), hB1.alloc hB1s _⟩
      | false =>
        have HE := Lib.hid (show varsL (tms (pre ++ [y])) = varsL (tms pre) ++ [y.1.t.name] by rw [HT.out, HV.out]; unfold varStep; rw [if_pos ⟨hk, hc⟩])
        have HP := Lib.hid (nameSet_put (varsL (tms pre)) y.1.t.name)
        rw [hc] at hh
        have hM2 := hM1.alloc (.cells #[] 137)
        have bS2 := bS1.alloc (.cells #[] 137)
        have bN2 := bN1.alloc (.cells #[] 137)
        have hr2 := hr1.alloc (.cells #[] 137)
        have bX2 := hbX.below ((Below.refl W.heap.size W).alloc (Nat.le_refl _) (.cells #[] 137)) (box_lt hbX)
        have cS2 := bS2.cell
        have cN2 := bN2.cell
        obtain ⟨z0, z1, z2, z3, _, _, _, _⟩ := id bX2
        gi_wp2_with (first
          | (gi_at_lookup; refine wpListIn_lookup_own_unit _ rfl _ _ 171 rfl 9 137 (Maps.string_keyed Tryz.underlying9) Tryz.underlying171 (Tryz.zeroValue137 _) (w.heap.size + 2) pre.length _ rfl hM1 _ _ rfl hkey ?_)
          | (gi_at_mapUpdate; refine wpListIn_mapUpdate_own _ rfl _ _ _ 171 rfl 9 137 (Maps.string_keyed Tryz.underlying9) Tryz.underlying171 _ (w.heap.size + 2) pre.length _ rfl hM2 (by unfold maxLen; omega) _ _ _ rfl rfl hkey (.agg []) [] unitElem_mk ?_; intro w2 hM3 hgrow2; have hmo := map_obj hM2; have hbx3 := box_kept bX2 (hgrow2.block Bx (box_lt bX2) (fun e => by cases e; omega)); have hr3 := hr2.kept hgrow2 (.inr (row_not_map hr2 hmo)); have bN3 := bN2.kept hgrow2 (by simp); have bS3 := bS2.kept hgrow2 (by simp); have cN3 := bN3.cell; obtain ⟨y0, y1, y2, y3, _, _, _, _⟩ := id hbx3)
          | (gi_at_builtin; refine wpListIn_append_own _ rfl _ _ 34 rfl w.heap.size 9 i0 (.string ⟨#[]⟩) 1 16 Tryz.underlying34 hi hi0 hi1 hi2 rfl (by decide) _ _ _ rfl (hr3.alloc _) ⟨w2.heap.size, 0, none⟩ 1 1 [.string y.1.t.name] rfl rfl (cell_one_new _ _ _) (by simp [Value.oneCell']) (by unfold maxLen; omega) (by omega) (by have := hgrow2.size; simp at this ⊢; omega) ?_; intro v' w3 hown' hgrow3 _; obtain ⟨g', cap', rfl⟩ := ownsRow_succ hown'; obtain ⟨hv1, hv2, hr9, hk9, hb9⟩ := bN3.appended (by decide) hr3 (by have := hgrow2.size; simp at this; omega) (by omega) hown' hgrow3; have hc1 := hv1.cell; have hf1 := hv1.frozen))
        have hgs := hgrow2.size
        simp at hgs
        have hg3 : (w2.alloc (Obj.cells #[.string y.1.t.name] 9)).grownBy w3 v.ownBlock := hgrow3
        have hkT : KeepsT w.heap.size W (w3.setCell ⟨w.heap.size + 1, 0, none⟩ (.slice (some ⟨g', 0, none⟩) ((varsL (tms pre)).length + 1) cap')) := by
          have k1 := ((KeepsT.refl w.heap.size W).alloc hB1s (.cells #[] 137)).grown hgrow2 (by simp; omega) (fun k e => by
            cases e
            obtain ⟨es, ck, hm⟩ := map_obj hM2
            exact ⟨by omega, fun c f e => by rw [hm] at e; cases e⟩)
          have k2 := (k1.alloc (by omega) (Obj.cells #[.string y.1.t.name] 9)).grown hg3 (by simp; omega) (fun k e => by
            obtain ⟨_, ⟨rfl, _⟩ | ⟨g, cap, cur, rfl, hb, hg, _⟩⟩ := hr3.alloc (Obj.cells #[.string y.1.t.name] 9)
            · cases e
            · cases e
              exact ⟨hb, fun c f e => by rw [hg] at e; injection e with e; injection e with _ e _; exact absurd e (by decide)⟩)
          exact k2.setBox hv1 (by decide) (by omega) _
        have hM9 : (w3.setCell ⟨w.heap.size + 1, 0, none⟩ (.slice (some ⟨g', 0, none⟩) ((varsL (tms pre)).length + 1) cap')).ownsMap Tryz.prog 9 (unitElem (H := Unit)) (w.heap.size + 2) (pre.length + 1) (nameSet (varsL (tms pre ++ [y.1.t]))) := by
          have m1 := (hM3.alloc (Obj.cells #[.string y.1.t.name] 9)).kept hg3 (fun e => (row_not_map (hr3.alloc (Obj.cells #[.string y.1.t.name] 9)) (map_obj (hM3.alloc (Obj.cells #[.string y.1.t.name] 9)))) e.symm)
          have m2 := m1.kept (grownBy_setCell' w3 (w.heap.size + 1) (.slice (some ⟨g', 0, none⟩) ((varsL (tms pre)).length + 1) cap')) (by simp)
          rw [← HT.out, HE.out, ← HP.out]; exact m2
        have bS9 := (((bS3.alloc (Obj.cells #[.string y.1.t.name] 9)).kept hg3 ((bS3.alloc (Obj.cells #[.string y.1.t.name] 9)).not_row (by decide) (hr3.alloc (Obj.cells #[.string y.1.t.name] 9))))).other (B' := w.heap.size + 1) (by omega) (.slice (some ⟨g', 0, none⟩) ((varsL (tms pre)).length + 1) cap')
        refine ⟨((KeepsOthers.alloc _ _).from _).trans ((KeepsFrom.of_grownBy hgrow2 (fun j e => by cases e; omega)).trans (hk9.from _)), hkT, ⟨⟨_, hv2, ?_, trivial⟩, bS9⟩, ?_, hB1.trans hkT.below⟩
        · rw [HE.out, List.length_append, List.map_append]; exact hr9
        · rw [HT.out, List.length_append]; exact hM9
  case done =>
    rintro D ys W hD hys ⟨⟨⟨v, bN1, hr1, _⟩, bS1⟩, hM1, hB1⟩ hK
    have cN := bN1.cell
    have fN := bN1.frozen
    rw [hys] at hr1
    have hl : t.vars.length ≤ 2300000000000 := by have := varsL_len t.all; rw [all_length] at this; show (varsL t.all).length ≤ _; omega
    have hr2 := ownsRow_putObj hr1 (.deferred none) hK rfl
    have H := Lib.hid (And.intro hys hr2)
    clear hys hr1 hr2 hM1
    gi_wp2_with fail
    refine ⟨by simp, .inl ⟨_, _, rfl, run_takeDeferred hK, ?_⟩⟩
    exact ⟨_, results_tmp rfl _ _ _, v, rfl, ⟨strs_of_own H.out.2 (by show t.vars.length ≤ _; omega), H.out.2⟩, hB1.trans (belowK_b (w := w) (Nat.le_refl _) W D _ _ (by omega) hK rfl rfl)⟩
  case stop =>
    rintro D cc pre W hD hpre h hK
    exact h.elim
end Go.Proofs.YtnbjpgdnfklanaaGreatDoor

namespace Go.Proofs.YtnbjpgdnfklanaaGreatDoor
open Go.RowKit
def cmpI (a b : Int) : Int := if a < b then -1 else if b < a then 1 else 0
def cmpS (s t : ByteArray) : Int := if Op.bytesLess s.toList t.toList = true then -1 else if (s.toList == t.toList) = true then 0 else 1
mutual

def cmpT : Tm → Tm → Int
  | .mk k s n xs, .mk k' s' n' ys => if cmpI k k' ≠ 0 then cmpI k k' else if cmpI n n' ≠ 0 then cmpI n n' else if cmpS s s' ≠ 0 then cmpS s s' else if cmpI xs.length ys.length ≠ 0 then cmpI xs.length ys.length else cmpL xs ys
def cmpL : List Tm → List Tm → Int
  | [], _ => 0
  | _ :: _, [] => 0
  | x :: r, y :: q => if cmpT x y ≠ 0 then cmpT x y else cmpL r q
end
theorem cmpI_zero {a b : Int} : cmpI a b = 0 ↔ a = b := by unfold cmpI; split; omega; split <;> omega
theorem cmpI_bd (a b : Int) : -1 ≤ cmpI a b ∧ cmpI a b ≤ 1 := by unfold cmpI; split; omega; split <;> omega
theorem cmpS_bd (s t : ByteArray) : -1 ≤ cmpS s t ∧ cmpS s t ≤ 1 := by unfold cmpS; split; omega; split <;> omega
mutual
theorem cmpT_bd : ∀ t u : Tm, -1 ≤ cmpT t u ∧ cmpT t u ≤ 1
  | .mk k s n xs, .mk k' s' n' ys => by
    rw [cmpT]
    have h1 := cmpI_bd k k'
    have h2 := cmpI_bd n n'
    have h3 := cmpS_bd s s'
    have h4 := cmpI_bd xs.length ys.length
    have h5 := cmpL_bd xs ys
    repeat' split
    all_goals assumption
theorem cmpL_bd : ∀ xs ys : List Tm, -1 ≤ cmpL xs ys ∧ cmpL xs ys ≤ 1
  | [], _ => by rw [cmpL]; omega
  | _ :: _, [] => by rw [cmpL]; omega
  | x :: r, y :: q => by
    rw [cmpL]
    have h1 := cmpT_bd x y
    have h2 := cmpL_bd r q
    split <;> assumption
end
theorem cmpL_same : ∀ {xs ys : List Tm}, (∀ j (h1 : j < xs.length) (h2 : j < ys.length), cmpT xs[j] ys[j] = 0) → cmpL xs ys = 0
  | [], _, _ => by rw [cmpL]
  | _ :: _, [], _ => by rw [cmpL]
  | x :: r, y :: q, h => by
    have h0 := h 0 (by simp) (by simp)
    simp only [List.getElem_cons_zero] at h0
    rw [cmpL, if_neg (by rw [h0]; simp)]
    exact cmpL_same fun j h1 h2 => by
      have := h (j + 1) (by simpa using h1) (by simpa using h2)
      simpa using this
theorem cmpL_at : ∀ {xs ys : List Tm} {k : Nat} (h1 : k < xs.length) (h2 : k < ys.length), (∀ j (a : j < xs.length) (b : j < ys.length), j < k → cmpT xs[j] ys[j] = 0) → cmpT xs[k] ys[k] ≠ 0 → cmpL xs ys = cmpT xs[k] ys[k]
  | [], _, _, h1, _, _, _ => by simp at h1
  | _ :: _, [], _, _, h2, _, _ => by simp at h2
  | x :: r, y :: q, 0, _, _, _, hn => by
    simp only [List.getElem_cons_zero] at hn ⊢
    rw [cmpL, if_pos hn]
  | x :: r, y :: q, k + 1, h1, h2, h, hn => by
    have h0 := h 0 (by simp) (by simp) (by omega)
    simp only [List.getElem_cons_zero] at h0
    rw [cmpL, if_neg (by rw [h0]; simp)]
    simp only [List.getElem_cons_succ] at hn ⊢
    exact cmpL_at (by simpa using h1) (by simpa using h2) (fun j a b hj => by
      have := h (j + 1) (by simpa using a) (by simpa using b) (by omega)
      simpa using this) hn
def CmpTo (xs ys : List Tm) (k : Nat) : Prop := ∀ j (h1 : j < xs.length) (h2 : j < ys.length), j < k → cmpT xs[j] ys[j] = 0
theorem CmpTo.succ {xs ys : List Tm} {k : Nat} (h : CmpTo xs ys k) (h1 : k < xs.length) (h2 : k < ys.length) (hk : cmpT xs[k] ys[k] = 0) : CmpTo xs ys (k + 1) := by
  intro j a b hj
  by_cases e : j = k
  · subst e; exact hk
  · exact h j a b (by omega)
theorem texts_ways (s t : ByteArray) : (Op.bytesLess s.toList t.toList = true ∧ cmpS s t = -1) ∨ (Op.bytesLess s.toList t.toList = false ∧ (s.toList == t.toList) = true ∧ cmpS s t = 0) ∨ (Op.bytesLess s.toList t.toList = false ∧ (s.toList == t.toList) = false ∧ cmpS s t = 1) := by
  unfold cmpS
  cases h1 : Op.bytesLess s.toList t.toList with
  | true => left; exact ⟨rfl, by simp⟩
  | false =>
    right
    cases h2 : (s.toList == t.toList) with
    | true => left; exact ⟨rfl, rfl, by simp⟩
    | false => right; exact ⟨rfl, rfl, by simp⟩
end Go.Proofs.YtnbjpgdnfklanaaGreatDoor
