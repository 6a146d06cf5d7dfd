/-
  The law of a term's parts, walked: how many, how deep, and what All tells as long as it is asked.
-/
import Derived.Test.YtpdbnhhpibpbnaaDoorPGroundTm
import Derived.Test.YtpdbnhhpibpbnaaDoorPRoundTm
import Derived.Test.YtpdbnhhpibpbnaaDoorPAwakeTm
import Derived.Test.YtpdbnhhpibpbnaaDoorSmallTm
import Derived.Maps.OwnIn
import Derived.Maps.AppendAt
import Derived.Deep.RegionHeld3
import Derived.Sort.AtCall
namespace Go.Proofs.YtpdbnhhpibpbnaaDoor
open Go.RowKit Go.Shelf
attribute [local go_sem] Oper.semAt_some

theorem own_tv {w2 W : World} {base : Nat} {v : Value} {ys : List (TvIn w2)} (h : W.ownsRow base 24 4 v ys.length (rowTv (ys.map (·.1)))) : OwnTv w2 W base v (tms ys) :=
  ⟨ys.map (·.1), by rw [List.map_map]; rfl, fun x hx => by obtain ⟨y, _, rfl⟩ := List.mem_map.1 hx; exact y.2, by rw [tms_length]; exact h⟩

theorem tms_take {w : World} {au : Option Addr} {cu m : Nat} {ts : List Tm} (h : Tms w (.slice au ts.length cu) ts) (hm : m ≤ ts.length) (cu' : Nat) : Tms w (.slice au m cu') (ts.take m) := by
  obtain ⟨a, c, hv, hl, hr⟩ := h
  cases hv
  refine ⟨au, cu', by rw [List.length_take, Nat.min_eq_left hm], by rw [List.length_take]; omega, ?_⟩
  rcases hr with rfl | ⟨b, o, ha, hb, hr⟩
  · exact .inl (by simp)
  · exact .inr ⟨b, o, ha, hb, rowAt_of fun {j} hj => by
      have hjl : j < m ∧ j < ts.length := by rw [List.length_take] at hj; omega
      rw [List.getElem_take]; exact rowAt_get hr hjl.2⟩

set_option maxRecDepth 100000 in
set_option maxHeartbeats 4000000 in
theorem lawParts_main (x : Tv) (n : Int) (h0 : 0 ≤ n) (h1 : n ≤ 9223372036854775807) (w : World) (hP : Pow w) (hx : x.ok w) (hs : smallB x.t = true) :
    Calls Tryd.prog 3 #[x.val, .int .i64 n] w fun e w' => e = .returned (.bool true) ∧ Below w.heap.size w w' := by
  have A := Lib.hid (fun (w' : World) (hb : Below w.heap.size w w') => awake_any w' (hP.below hb))
  have HX := Lib.hid hx
  have SX := Lib.hid (fun w hx => small_tm x w hx)
  rw [hs] at SX
  have hp := small_parts hs
  have hA := fun w1 => all_in Fence.wide (5 - 1) trivial rfl x w1
  clear hP hs
  have hbx := box_new w (.int .i64 x.t.kind) (.string x.t.name) (.int .i64 x.t.n) (.slice x.a x.t.args.length x.c) 24
  obtain ⟨t, a, c⟩ := x
  simp only [Tv.val] at hA hp SX hbx ⊢
  have hz1 : (w.alloc (.cells #[.int .i64 t.kind, .string t.name, .int .i64 t.n, .slice a t.args.length c] 24)).heap.size = w.heap.size + 1 := by simp
  have hbS := Boxed.new (w.alloc (.cells #[.int .i64 t.kind, .string t.name, .int .i64 t.n, .slice a t.args.length c] 24)) 3 (.int .i64 n)
  have hw : Below w.heap.size w ((w.alloc (.cells #[.int .i64 t.kind, .string t.name, .int .i64 t.n, .slice a t.args.length c] 24)).alloc (.cells #[.int .i64 n] 3)) := ((Below.refl _ _).alloc (Nat.le_refl _) _).alloc (by rw [hz1]; omega) _
  have hz2 : ((w.alloc (.cells #[.int .i64 t.kind, .string t.name, .int .i64 t.n, .slice a t.args.length c] 24)).alloc (.cells #[.int .i64 n] 3)).heap.size = w.heap.size + 2 := by simp
  replace hbx := hbx.below ((Below.refl _ _).alloc (Nat.le_refl _) (.cells #[.int .i64 n] 3)) (by rw [hz1]; omega)
  rw [hz1] at hbS
  refine callsIn_wide.1 (callsIn_of_wp_marks (n := 5) Tryd.func3 rfl trivial ?_ rfl)
  simp only [Tryd.ntmps3, List.size_toArray, List.length_cons, List.length_nil, Nat.reduceAdd, Nat.reduceSub, Array.replicate_succ, Array.replicate_zero, List.push_toArray, List.append_toArray, List.nil_append, List.cons_append]
  gi_wp2_with fail
  obtain ⟨wb, hwb⟩ : ∃ wb, wb = ((w.alloc (.cells #[.int .i64 t.kind, .string t.name, .int .i64 t.n, .slice a t.args.length c] 24)).alloc (.cells #[.int .i64 n] 3)) := ⟨_, rfl⟩
  rw [← hwb] at hw hbx hbS hz2 ⊢
  clear hwb hz1
  have HBX := Lib.hid hbx
  have HBS := Lib.hid hbS
  have hb : Below wb.heap.size wb wb := Below.refl _ _
  gi_wp2_with fail
  refine ⟨trivial, (callsIn_wide.2 (A.out _ hw)).mono ?_⟩; rintro e w1 ⟨rfl, hn⟩
  replace hb := below_next hb hn
  replace hw := below_next hw hn
  obtain ⟨p0, p1, p2, p3, _, _, _, _⟩ := hbx.below hb (by omega)
  clear hn
  gi_wp2_with fail
  refine ⟨trivial, (callsIn_wide.2 (SX.out _ (HX.out.below hw))).mono ?_⟩; rintro e w2 ⟨rfl, hn⟩
  clear p0 p1 p2 p3
  replace hb := below_next hb hn
  replace hw := below_next hw hn
  have bS2 := boxed_below hbS hb
  have bX2 := hbx.below hb (by omega)
  obtain ⟨p0, p1, p2, p3, _, _, _, _⟩ := id bX2
  have cS := bS2.cell
  have hn0 : (n < 0) = False := by simp; omega
  have hn0' : decide (n < 0) = false := by simp; omega
  obtain ⟨q0, q1, q2, q3, _, _, _, _⟩ := bX2.below ((Below.refl _ _).alloc (Nat.le_refl _) (.cells #[.slice none 0 0] 22)) (box_lt bX2)
  clear hn
  gi_wp2_with fail
  refine ⟨trivial, (hA _).mono ?_⟩; rintro e w3 ⟨rfl, rfl⟩
  have hz3 : (w2.alloc (.cells #[.slice none 0 0] 22)).heap.size = w2.heap.size + 1 := by simp
  have hz4 : ((w2.alloc (.cells #[.slice none 0 0] 22)).alloc (.cells #[.int .i64 t.kind, .string t.name, .int .i64 t.n, .slice a t.args.length c] 24)).heap.size = w2.heap.size + 2 := by simp
  have hB0 : Below w2.heap.size w2 ((w2.alloc (.cells #[.slice none 0 0] 22)).alloc (.cells #[.int .i64 t.kind, .string t.name, .int .i64 t.n, .slice a t.args.length c] 24)) := ((Below.refl _ _).alloc (Nat.le_refl _) _).alloc (by rw [hz3]; omega) _
  have bN := (Boxed.new w2 22 (.slice none 0 0)).alloc (.cells #[.int .i64 t.kind, .string t.name, .int .i64 t.n, .slice a t.args.length c] 24)
  have bA := box_new (w2.alloc (.cells #[.slice none 0 0] 22)) (.int .i64 t.kind) (.string t.name) (.int .i64 t.n) (.slice a t.args.length c) 24
  have bS3 := boxed_below bS2 hB0
  have bX3 := bX2.below hB0 (box_lt bX2)
  rw [hz3] at bA ⊢
  clear p0 p1 p2 p3 q0 q1 q2 q3 cS
  obtain ⟨W0, hW0⟩ : ∃ W0, ((w2.alloc (.cells #[.slice none 0 0] 22)).alloc (.cells #[.int .i64 t.kind, .string t.name, .int .i64 t.n, .slice a t.args.length c] 24)) = W0 := ⟨_, rfl⟩
  rw [hW0] at bN bA hB0 bS3 bX3 hz4 ⊢
  clear hW0 hz3
  have hBW := below_next hw hB0
  have hs2 := hb.size
  gi_wp2_with fail
  have hx2 : Tv.ok w2 ⟨t, a, c⟩ := HX.out.below hw
  have hS := fun w1 Bt h1 h2 h3 => all_stops Fence.wide rfl (5 - 1) trivial trivial rfl w2 Bt ⟨⟨t, a, c⟩, hx2⟩ w1 h1 h2 h3
  simp only [Tv.val] at hS
  rename_i KT hKT
  have HKT := Lib.hid hKT
  clear hKT
  have HBW := Lib.hid hBW
  have TAIL : ∀ (D m : Nat) (W : World) (v : Value), (m : Int) = min n (t.parts : Int) → W.heap[D]? = some (.deferred (some [])) → W0.heap.size ≤ D → Boxed W w2.heap.size 22 v → Tms W v (t.all.take m) → Below w2.heap.size w2 W →
      KT { tmps := (.agg #[.int .i64 t.kind, .string t.name, .int .i64 t.n, .slice a t.args.length c] :: .int .i64 n :: .pointer (some ⟨w.heap.size, 0, none⟩) :: .pointer (some ⟨w.heap.size + 1, 0, none⟩) :: .bool false :: .pointer (some ⟨w2.heap.size, 0, none⟩) :: undef :: undef :: .bool true :: .bool false :: .agg #[.int .i64 t.kind, .string t.name, .int .i64 t.n, .slice a t.args.length c] :: .bool true :: .bool false :: .bool false :: .int .i64 n :: .bool false :: .bool false :: .agg #[.int .i64 t.kind, .string t.name, .int .i64 t.n, .slice a t.args.length c] :: .func (.func 40) #[] #[.pointer (some ⟨w2.heap.size + 1, 0, none⟩)] :: undef :: undef :: undef :: undef :: undef :: undef :: undef :: undef :: undef :: undef :: undef :: undef :: undef :: undef :: undef :: undef :: undef :: undef :: undef :: undef :: undef :: undef :: undef :: undef :: undef :: undef :: undef :: undef :: undef :: undef :: undef :: undef :: undef :: undef :: undef :: []).toArray, defers := [{ target := .collected D, args := #[] }] } W := by
    intro D m W v hm hD hDl bL hv hB1
    apply HKT.out
    refine wpIn_wide.2 ?_
    have hmp : m ≤ t.parts := by omega
    have hal := all_length t
    have hWw : Below w.heap.size w W := below_next hw hB1
    have hbX := bX2.below hB1 (box_lt bX2)
    have hbS := boxed_below bS2 hB1
    obtain ⟨p0, p1, p2, p3, _, _, _, _⟩ := id hbX
    go_wp2_with fail
    refine (all_tm t.parts ⟨t, a, c⟩ W W (Nat.le_refl _) (by omega) (HX.out.below hWw) (Below.refl _ _)).mono ?_; rintro e wc ⟨u, rfl, hu, _, hbc⟩
    replace hu : OwnTv W wc W.heap.size u t.all := hu
    have huT := hu.tms hbc (by rw [hal]; omega)
    obtain ⟨au, cu, rfl, hau⟩ := huT
    have huT : Tms wc (.slice au t.all.length cu) t.all := ⟨au, cu, rfl, hau⟩
    have hcap : t.parts ≤ cu := by
      obtain ⟨_, _, _, hr⟩ := hu
      rcases hr.2 with ⟨h, h0⟩ | ⟨g, cap, cur, h, _, _, hc, _⟩
      · have := parts_pos t; omega
      · injection h with _ _ h; omega
    have hmT := tms_take huT (m := m) (by omega) cu
    rw [hal] at huT ⊢
    have hbL := boxed_below bL hbc
    replace hv := hv.below hbc
    replace hbX := hbX.below hbc (box_lt hbX)
    replace hbS := boxed_below hbS hbc
    have hDc : wc.heap[D]? = some (.deferred (some [])) := by rw [hbc.block D (Array.getElem?_eq_some_iff.1 hD).1]; exact hD
    have hWc := below_next hWw hbc
    have hsW := hB1.size
    have hsc := hbc.size
    clear hau hu p0 p1 p2 p3 hB1 hbc hWw
    have KEEP := Lib.hid (fun (W : World) (h : Below wc.heap.size wc W) =>
      (show (Below wc.heap.size wc W ∧ W.cell? ⟨w.heap.size, 0, none⟩ = some (.int .i64 t.kind) ∧ W.cell? ⟨w.heap.size, 1, none⟩ = some (.string t.name) ∧ W.cell? ⟨w.heap.size, 2, none⟩ = some (.int .i64 t.n) ∧ W.cell? ⟨w.heap.size, 3, none⟩ = some (.slice a t.args.length c) ∧ W.cell? ⟨w2.heap.size, 0, none⟩ = some v ∧ W.cell? ⟨w.heap.size + 1, 0, none⟩ = some (.int .i64 n)) from
      (by
        have k2 := hbX.below h (box_lt hbX)
        exact ⟨h, k2.c0, k2.c1, k2.c2, k2.c3, (boxed_below hbL h).cell, (boxed_below hbS h).cell⟩)))
    have HXC := Lib.hid (HX.out.below hWc)
    have PZ := Lib.hid (fun (W : World) (h : Below wc.heap.size wc W) => (psize_tm ⟨t, a, c⟩ W (HXC.out.below h) (show t.parts ≤ 1000000 by omega)).mono (fun e w' hh => And.intro hh.1 (below_next h hh.2)))
    have PD := Lib.hid (fun (W : World) (h : Below wc.heap.size wc W) => (pdepth_tm t.parts ⟨t, a, c⟩ W (Nat.le_refl _) (by omega) (HXC.out.below h)).mono (fun e w' hh => And.intro hh.1 (below_next h hh.2)))
    have RD := Lib.hid (fun (W : World) (h : Below wc.heap.size wc W) => (depth_tm t.parts ⟨t, a, c⟩ W (Nat.le_refl _) (by omega) (HXC.out.below h)).mono (fun e w' hh => And.intro hh.1 (below_next h hh.2)))
    have SM := Lib.hid (fun (W : World) (h : Below wc.heap.size wc W) => (sames_tm v (.slice au m cu) (t.all.take m) (t.all.take m) W (hv.below h) (hmT.below h)).mono (fun e w' hh => And.intro (hh.1.trans (by rw [eqTs_true rfl])) (below_next h hh.2)))
    simp only [Tv.val] at PZ PD RD
    have h0c : Below wc.heap.size wc wc.drew := (Below.refl _ _).drew
    have HWC := Lib.hid hWc
    have HDC := Lib.hid hDc
    have HDL := Lib.hid hDl
    clear hbX hbS hbL hv hmT hDc hDl hWc huT hsW hD bL HKT HX HXC
    have hmin : min n (t.parts : Int) = (m : Int) := hm.symm
    have hm0 : (0 : Int) ≤ (m : Int) := by omega
    have hm1 : (m : Int) ≤ (cu : Int) := by omega
    clear hm
    go_wp2_with fail
    go_region_held3 (fun W => Below wc.heap.size wc W ∧ W.cell? ⟨w.heap.size, 0, none⟩ = some (.int .i64 t.kind) ∧ W.cell? ⟨w.heap.size, 1, none⟩ = some (.string t.name) ∧ W.cell? ⟨w.heap.size, 2, none⟩ = some (.int .i64 t.n) ∧ W.cell? ⟨w.heap.size, 3, none⟩ = some (.slice a t.args.length c) ∧ W.cell? ⟨w2.heap.size, 0, none⟩ = some v ∧ W.cell? ⟨w.heap.size + 1, 0, none⟩ = some (.int .i64 n)) (first | exact KEEP.out _ (by assumption) | fail)
      ((first
        | (go_at_call 12; refine (PZ.out _ (by assumption)).mono ?_; rintro e w' ⟨rfl, hn⟩)
        | (go_at_call 13; refine (PD.out _ (by assumption)).mono ?_; rintro e w' ⟨rfl, hn⟩)
        | (go_at_call 14; refine (RD.out _ (by assumption)).mono ?_; rintro e w' ⟨rfl, hn⟩)
        | (go_at_call 15; refine (SM.out _ (by assumption)).mono ?_; rintro e w' ⟨rfl, hn⟩)))
    have HEND := Lib.hid (fun (W' : World) (h : Below wc.heap.size wc W') => (show W'.heap[D]? = some (.deferred (some [])) by rw [h.block D (Array.getElem?_eq_some_iff.1 HDC.out).1]; exact HDC.out))
    have HEND2 := Lib.hid (fun (W' : World) (h : Below wc.heap.size wc W') => below_next HWC.out h)
    go_wp2_with fail
    refine ⟨by simp, .inl ⟨_, _, rfl, run_takeDeferred (HEND.out _ (by assumption)), ?_⟩⟩
    have hle := HDL.out
    exact ⟨_, results_tmp rfl _ _ _, rfl, (HEND2.out _ (by assumption)).trans (belowK_b (w := W0) (by omega) _ D _ _ (by omega) (HEND.out _ (by assumption)) rfl rfl)⟩

  refine wpIn_rangeFunc_ownH rfl (by omega) (gf := 40) (lb := #[.pointer (some ⟨w2.heap.size + 1, 0, none⟩)]) rfl trivial (enters_of Tryd.func40 (by kernel_rfl) rfl)
    (hS W0 (w2.heap.size + 1) (by omega) bA hB0) keepsT_t (keepsT_b (by omega)) (Below.refl _ _) (fun _ => rfl)
    (fun (pre : List (TvIn w2)) W => (∃ v, Boxed W w2.heap.size 22 v ∧ W.ownsRow w2.heap.size 24 4 v pre.length (rowTv (pre.map (·.1))) ∧ (pre.length = 0 → v = .slice none 0 0)) ∧ ((pre.length : Int) ≤ n ∧ Below w2.heap.size w2 W))
    (fun c (pre : List (TvIn w2)) W => (∃ v, Boxed W w2.heap.size 22 v ∧ W.ownsRow w2.heap.size 24 4 v pre.dropLast.length (rowTv (pre.dropLast.map (·.1))) ∧ True) ∧ ((c = Code.exit 0 ∧ (pre.dropLast.length : Int) = n ∧ pre ≠ []) ∧ Below w2.heap.size w2 W))
    (OwnFrom.and (Own.from (holdsRow_own _ _ _ _ _ (fun pre : List (TvIn w2) => pre.length) (fun pre => rowTv (pre.map (·.1))) (fun pre v => pre.length = 0 → v = .slice none 0 0)) _) (OwnFrom.and (ownFrom_pure _ (fun pre : List (TvIn w2) => (pre.length : Int) ≤ n)) (ownFrom_below (Nat.le_refl _) (by omega))))
    (fun cc => OwnFrom.and (Own.from (holdsRow_own _ _ _ _ _ (fun pre : List (TvIn w2) => pre.dropLast.length) (fun pre => rowTv (pre.dropLast.map (·.1))) (fun _ _ => True)) _) (OwnFrom.and (ownFrom_pure _ (fun pre : List (TvIn w2) => cc = Code.exit 0 ∧ (pre.dropLast.length : Int) = n ∧ pre ≠ [])) (ownFrom_below (Nat.le_refl _) (by omega))))
    ⟨⟨_, bN, World.ownsRow_nil _ _ _ _, fun _ => rfl⟩, h0, hB0⟩
    (fun y a' Wv => ∃ Bx, w2.heap.size < Bx ∧ Box Wv Bx (.int .i64 y.1.t.kind) (.string y.1.t.name) (.int .i64 y.1.t.n) (.slice y.1.a y.1.t.args.length y.1.c) ∧ a' = { tmps := (.agg #[.int .i64 t.kind, .string t.name, .int .i64 t.n, .slice a t.args.length c] :: .int .i64 n :: .pointer (some ⟨w.heap.size, 0, none⟩) :: .pointer (some ⟨w.heap.size + 1, 0, none⟩) :: .bool false :: .pointer (some ⟨w2.heap.size, 0, none⟩) :: .pointer (some ⟨Bx, 0, none⟩) :: undef :: .bool true :: .bool false :: .agg #[.int .i64 t.kind, .string t.name, .int .i64 t.n, .slice a t.args.length c] :: .bool true :: .bool false :: .bool false :: .int .i64 n :: .bool false :: .bool false :: .agg #[.int .i64 t.kind, .string t.name, .int .i64 t.n, .slice a t.args.length c] :: .func (.func 40) #[] #[.pointer (some ⟨w2.heap.size + 1, 0, none⟩)] :: .agg #[.int .i64 y.1.t.kind, .string y.1.t.name, .int .i64 y.1.t.n, .slice y.1.a y.1.t.args.length y.1.c] :: undef :: undef :: undef :: undef :: undef :: undef :: undef :: undef :: undef :: undef :: undef :: undef :: undef :: undef :: undef :: undef :: undef :: undef :: undef :: undef :: undef :: undef :: undef :: undef :: undef :: undef :: undef :: undef :: undef :: undef :: undef :: undef :: undef :: undef :: []).toArray, defers := [] })
    (fun y a' _ X Y row hs hg hr => by obtain ⟨Bx, h1, h2, h3⟩ := hs; exact ⟨Bx, h1, box_own Bx _ _ _ _ () X Y row h2 hg (fun r e => (hr r e).2), h3⟩)
    ?assign ?body ?done ?stop
  case assign =>
    rintro l pre y W K ⟨⟨v, bN1, hr1, hnil⟩, hln, hB1⟩ hK
    gi_wp2_with fail
    exact hK _ _ ((KeepsOthers.alloc _ _).from _) ((KeepsT.refl _ W).alloc hB1.size _) ⟨⟨v, bN1.alloc _, hr1.alloc _, hnil⟩, hln, hB1.alloc hB1.size _⟩ ⟨W.heap.size, bN1.lt, box_new W _ _ _ _ _, rfl⟩
  case body =>
    rintro l pre y a' W hl _ ⟨⟨v, bN1, hr1, hnil⟩, hln, hB1⟩ ⟨Bx, hBx, bX1, rfl⟩ hlt
    obtain ⟨av, cv, rfl⟩ : ∃ av cv, v = .slice av pre.length cv := by
      rcases hr1.2 with ⟨rfl, h⟩ | ⟨g, cap, cur, rfl, _⟩
      · rw [h]; exact ⟨none, 0, rfl⟩
      · exact ⟨_, _, rfl⟩
    have cN := bN1.cell
    have cS := (boxed_below bS2 hB1).cell
    by_cases hn : (pre.length : Int) = n
    · have hq : ((pre.length : Int) == n) = true := by rw [beq_iff_eq]; exact hn
      have HN := Lib.hid hn
      clear hn hln
      gi_wp2_with fail
      have hd : (pre ++ [y]).dropLast = pre := by simp
      exact ⟨KeepsFrom.refl _ _, ⟨_, bN1, by rw [hd]; exact hr1, trivial⟩, ⟨rfl, by rw [hd]; exact HN.out, by simp⟩, hB1⟩
    · have hq : ((pre.length : Int) == n) = false := by rw [beq_eq_false_iff_ne]; exact hn
      have HN := Lib.hid hn
      clear hn
      gi_wp2_with fail
      refine (round9 (B := w2.heap.size) (L := w2.heap.size) (X := Bx) (k := pre.length) (vs := pre.map (·.1)) y.1 bN1 bX1 hr1 hnil (by omega) (Nat.le_refl _) ?_ _ _ _ _ _ _ _ _ _ _ _ _ _ _ _ _ _ _ _ _ _ _)
      intro g cap a'' W' hb' hr' hk' hf'
      have := HN.out
      exact ⟨⟨hf'.size, fun k o hk ho hc => hf'.same k o (by omega) ho hc⟩, hk', ⟨_, hb', by rw [List.length_append, List.map_append]; exact hr', fun h => by simp at h⟩, by rw [List.length_append]; show ((pre.length + 1 : Nat) : Int) ≤ n; omega, hB1.trans hk'.below⟩
  case done =>
    rintro D ys W hD hys ⟨⟨v, bN1, hr1, hnil⟩, hln, hB1⟩ hK
    have hyl : ys.length = t.parts := by rw [← tms_length, hys, all_length]
    exact TAIL D ys.length W v (by omega) hK hD bN1 (by
      rw [← hys]
      have h1 : OwnTv w2 W w2.heap.size v (tms ys) := own_tv hr1
      have h2 := h1.tms hB1 (by rw [tms_length]; omega)
      rwa [show ys.length = (tms ys).length from (tms_length ys).symm, List.take_length]) hB1
  case stop =>
    rintro D cc pre W hD hpre ⟨⟨v, bN1, hr1, _⟩, ⟨rfl, hln, hne⟩, hB1⟩ hK
    have hpl : pre.length ≤ t.parts := by have := hpre.length_le; rw [tms_length, all_length] at this; exact this
    have hdl : pre.dropLast.length = pre.length - 1 := List.length_dropLast
    have hp0 : 0 < pre.length := List.length_pos_iff.2 hne
    refine wpIn_exit ?_
    exact TAIL D pre.dropLast.length W v (by omega) hK hD bN1 (by
      have h1 : OwnTv w2 W w2.heap.size v (tms pre.dropLast) := own_tv hr1
      have h2 := h1.tms hB1 (by rw [tms_length]; omega)
      have h3 : tms pre.dropLast = t.all.take pre.dropLast.length := by
        have h4 : tms pre.dropLast <+: t.all := List.IsPrefix.trans (by
          have h5 := List.dropLast_prefix pre
          obtain ⟨r, hr⟩ := h5
          exact ⟨tms r, by rw [← tms_append, hr]⟩) hpre
        have := List.prefix_iff_eq_take.1 h4
        rwa [tms_length] at this
      rwa [h3] at h2) hB1
set_option maxRecDepth 100000 in
set_option maxHeartbeats 2000000 in
theorem lawParts_out (x : Tv) (n : Int) (w : World) (hP : Pow w) (hx : x.ok w) (hs : smallB x.t = false ∨ n < 0) :
    Calls Tryd.prog 3 #[x.val, .int .i64 n] w fun e w' => e = .returned (.bool true) ∧ Below w.heap.size w w' := by
  have A := Lib.hid (fun (w' : World) (hb : Below w.heap.size w w') => awake_any w' (hP.below hb))
  have HX := Lib.hid hx
  have SX := Lib.hid (fun w hx => small_tm x w hx)
  clear hP hx
  have hbx := box_new w (.int .i64 x.t.kind) (.string x.t.name) (.int .i64 x.t.n) (.slice x.a x.t.args.length x.c) 24
  have hsp : smallB x.t = false ∨ (smallB x.t = true ∧ n < 0) := by
    cases h : smallB x.t with
    | false => exact .inl rfl
    | true => rcases hs with h' | h'
              · rw [h] at h'; cases h'
              · exact .inr ⟨rfl, h'⟩
  clear hs
  obtain ⟨t, a, c⟩ := x
  simp only [Tv.val] at SX hbx hsp ⊢
  have hz1 : (w.alloc (.cells #[.int .i64 t.kind, .string t.name, .int .i64 t.n, .slice a t.args.length c] 24)).heap.size = w.heap.size + 1 := by simp
  have hbS := Boxed.new (w.alloc (.cells #[.int .i64 t.kind, .string t.name, .int .i64 t.n, .slice a t.args.length c] 24)) 3 (.int .i64 n)
  have hw : Below w.heap.size w ((w.alloc (.cells #[.int .i64 t.kind, .string t.name, .int .i64 t.n, .slice a t.args.length c] 24)).alloc (.cells #[.int .i64 n] 3)) := ((Below.refl _ _).alloc (Nat.le_refl _) _).alloc (by rw [hz1]; omega) _
  have hz2 : ((w.alloc (.cells #[.int .i64 t.kind, .string t.name, .int .i64 t.n, .slice a t.args.length c] 24)).alloc (.cells #[.int .i64 n] 3)).heap.size = w.heap.size + 2 := by simp
  replace hbx := hbx.below ((Below.refl _ _).alloc (Nat.le_refl _) (.cells #[.int .i64 n] 3)) (by rw [hz1]; omega)
  rw [hz1] at hbS
  rcases hsp with hs | ⟨hs, hn0⟩
  all_goals
    rw [hs] at SX
    clear hs
    go_enter Tryd.func3, Tryd.ntmps3
    go_wp2_with fail
    obtain ⟨wb, hwb⟩ : ∃ wb, wb = ((w.alloc (.cells #[.int .i64 t.kind, .string t.name, .int .i64 t.n, .slice a t.args.length c] 24)).alloc (.cells #[.int .i64 n] 3)) := ⟨_, rfl⟩
    rw [← hwb] at hw hbx hbS hz2 ⊢
    clear hwb hz1
    have hb : Below wb.heap.size wb wb := Below.refl _ _
    go_wp2_with fail
    refine (A.out _ hw).mono ?_; rintro e w1 ⟨rfl, hn⟩
    replace hb := below_next hb hn
    replace hw := below_next hw hn
    obtain ⟨p0, p1, p2, p3, _, _, _, _⟩ := hbx.below hb (by omega)
    clear hn
    go_wp2_with fail
    refine (SX.out _ (HX.out.below hw)).mono ?_; rintro e w2 ⟨rfl, hn⟩
    clear p0 p1 p2 p3
    replace hb := below_next hb hn
    replace hw := below_next hw hn
    have cS := (boxed_below hbS hb).cell
    clear hn
    go_wp2_with fail
    go_ret
    exact ⟨rfl, hw⟩
theorem lawParts_any (x : Tv) (n : Int) (h0 : -9223372036854775808 ≤ n) (h1 : n ≤ 9223372036854775807) (w : World) (hP : Pow w) (hx : x.ok w) :
    Calls Tryd.prog 3 #[x.val, .int .i64 n] w fun e w' => e = .returned (.bool true) ∧ Below w.heap.size w w' := by
  by_cases hn : n < 0
  · exact lawParts_out x n w hP hx (.inr hn)
  · cases hs : smallB x.t with
    | false => exact lawParts_out x n w hP hx (.inl hs)
    | true => exact lawParts_main x n (by omega) h1 w hP hx hs
end Go.Proofs.YtpdbnhhpibpbnaaDoor
