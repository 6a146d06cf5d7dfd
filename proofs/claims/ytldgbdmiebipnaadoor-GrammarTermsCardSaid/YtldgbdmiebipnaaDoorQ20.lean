/-
  A tree as a term, by the reference of layer 11: Plain.
  How terms are alike, as data: rows up to a place, where two heads part. No function of the program.
  Whether two terms are alike, by the reference of layer 3: Same, for any two terms in memory.
  The term that any text is: the law answers true, from what the program's grammar answers.
  GrammarTerms holds for package grammar as it landed.
-/
import Derived.Test.YtldgbdmiebipnaaDoorQ19
import Derived.Test.YtldgbdmiebipnaaDoorQ05
import Derived.Test.YtldgbdmiebipnaaDoorQ03
import Derived.Maps.AppendAt
import Derived.Deep.AppendLies
import Derived.Test.YtldgbdmiebipnaaDoorQ02
import Derived.StillTailTactics
import Derived.Test.YtldgbdmiebipnaaDoorQ06
import Derived.Test.YtldgbdmiebipnaaDoorQ11
import Derived.Deep.RegionHeld3
import Derived.BigQuiet
namespace Go.Proofs.YtldgbdmiebipnaaDoor
open Go.RowKit

theorem plainR_eq (t : Tr) : plainR t = .mk t.kind (if t.kind = 1 ∨ t.kind = 5 then t.text else ⟨#[]⟩) (if t.kind = 3 ∨ t.kind = 4 then t.n else 0) (t.args.map plainR) := by
  cases t; rw [plainR, plainRs_map]; rfl
theorem plain_take_succ {xs : List Tr} {j : Nat} (h : j < xs.length) : (xs.take (j + 1)).map plainR = (xs.take j).map plainR ++ [plainR xs[j]] := by
  rw [List.take_succ_eq_append_getElem h, List.map_append]; rfl
/-- The kinds, as the program asks for them. -/
theorem kind_ways (k : Int) : (k = 1 ∧ (k == 1) = true) ∨ (k = 5 ∧ (k == 1) = false ∧ (k == 5) = true) ∨ (k = 3 ∧ (k == 1) = false ∧ (k == 5) = false ∧ (k == 3) = true) ∨ (k = 4 ∧ (k == 1) = false ∧ (k == 5) = false ∧ (k == 3) = false ∧ (k == 4) = true) ∨ ((k ≠ 1 ∧ k ≠ 5 ∧ k ≠ 3 ∧ k ≠ 4) ∧ (k == 1) = false ∧ (k == 5) = false ∧ (k == 3) = false ∧ (k == 4) = false) := by
  simp only [beq_iff_eq, beq_eq_false_iff_ne]
  omega

set_option maxRecDepth 100000 in
set_option maxHeartbeats 4000000 in
theorem rplain_tm (w0 : World) (m : Nat) : ∀ (x : Rv) (w : World), x.t.parts ≤ m → m ≤ 2300000000000 → x.ok w0 → Reads w0 w →
    Calls Tryd.prog 15 #[x.val] w (MadePost (plainR x.t) w0 w) := by
  induction m with
  | zero => intro x w h; have := trParts_pos x.t; omega
  | succ m ih =>
    intro x w hm hm1 hx hb0
    obtain ⟨t, ax, cx⟩ := x
    have hz1 : (w.alloc (.cells #[.int .i64 t.kind, .string t.text, .int .i64 t.n, .int .i64 t.spot, .slice ax t.args.length cx] 41)).heap.size = w.heap.size + 1 := by simp
    have hB2 : Below w.heap.size w ((w.alloc (.cells #[.int .i64 t.kind, .string t.text, .int .i64 t.n, .int .i64 t.spot, .slice ax t.args.length cx] 41)).alloc (.cells #[.int .i64 0, .string ⟨#[]⟩, .int .i64 0, .slice none 0 0] 48)) := ((Below.refl _ _).alloc (Nat.le_refl _) _).alloc (by rw [hz1]; omega) _
    obtain ⟨wz, hwz⟩ : ∃ wz, wz = ((w.alloc (.cells #[.int .i64 t.kind, .string t.text, .int .i64 t.n, .int .i64 t.spot, .slice ax t.args.length cx] 41)).alloc (.cells #[.int .i64 0, .string ⟨#[]⟩, .int .i64 0, .slice none 0 0] 48)) := ⟨_, rfl⟩
    have hzs : wz.heap.size = w.heap.size + 2 := by rw [hwz]; simp
    have bX := (box5_new w (.int .i64 t.kind) (.string t.text) (.int .i64 t.n) (.int .i64 t.spot) (.slice ax t.args.length cx) 41).below ((Below.refl _ _).alloc (Nat.le_refl _) (.cells #[.int .i64 0, .string ⟨#[]⟩, .int .i64 0, .slice none 0 0] 48)) (by rw [hz1]; omega)
    have bR := box_new (w.alloc (.cells #[.int .i64 t.kind, .string t.text, .int .i64 t.n, .int .i64 t.spot, .slice ax t.args.length cx] 41)) (.int .i64 0) (.string ⟨#[]⟩) (.int .i64 0) (.slice none 0 0) 48
    rw [hz1] at bR
    rw [← hwz] at bX bR hB2
    have hargs : t.args.length ≤ 2300000000000 := by have := partsR_length t.args; have := trParts_eq t; simp only at hm; omega
    have hpl : ∀ j (h : j < t.args.length), t.args[j].parts ≤ m := fun j h => by have := partsR_get t.args h; have := trParts_eq t; simp only at hm; omega
    obtain ⟨i0, hi0, hiz0, his0, hib0⟩ := info_parts termInfo
    have HX := Lib.hid hx
    have HB0 := Lib.hid hb0
    have HBX := Lib.hid (fun (V : World) (h : Below wz.heap.size wz V) => bX.below h (by omega))
    have HBR := Lib.hid (fun (V : World) (h : Below wz.heap.size wz V) => bR.below h (by omega))
    have HBZ := Lib.hid hB2
    have HZS := Lib.hid hzs
    have IH := Lib.hid ih
    have HPL := Lib.hid hpl
    have E0 := Lib.hid (Below.refl wz.heap.size wz)
    obtain ⟨p0, p1, p2, p3, p4, _, _, _, _, _⟩ := HBX.out wz E0.out
    clear bX bR hB2 hzs hx hb0 hz1 ih hpl
    simp only [Rv.val] at *
    go_enter Tryd.func15, Tryd.ntmps15
    go_wp2_with fail
    rw [← hwz]
    clear hwz
    go_loopw [3, 11] (fun o k wr => ∃ (q : Nat) (vs : List Tv), q ≤ t.args.length ∧ k = .int .i64 q ∧ Hid (vs.map Tv.t = (t.args.take q).map plainR) ∧ vs.length = q ∧ Hid (∀ z ∈ vs, Beside w0 wz wr o z) ∧ Hid (wr.ownsRow wz.heap.size 48 4 o q (rowTv vs)) ∧ Hid (Below wz.heap.size wz wr)) (fun _ k _ => t.args.length - (intOf k).toNat)
    case atStart => exact ⟨0, [], Nat.zero_le _, rfl, Lib.hid (by simp), rfl, Lib.hid (fun _ h => nomatch h), Lib.hid (World.ownsRow_nil _ _ _ _), E0⟩
    case round =>
      obtain ⟨q, vs, hq, rfl, HVT, hvl, HVB, HOWN, HBW⟩ := hrel
      have hbs := HBW.out.size
      have hB0w := HB0.out.trans (reads_below (HBZ.out.trans (HBW.out.mono HBZ.out.size)))
      by_cases hql : q < t.args.length
      · obtain ⟨b', o', rfl, hlt', hrow⟩ := HX.out.2.2.resolve_left (by intro h; simp only at h; rw [h] at hql; simp at hql)
        obtain ⟨y, hyt, hyo, hy⟩ := trAt_rv (rowRAt_get hrow hql)
        have m0 := hB0w.cell _ _ hy.c0
        have m1 := hB0w.cell _ _ hy.c1
        have m2 := hB0w.cell _ _ hy.c2
        have m3 := hB0w.cell _ _ hy.c3
        have m4 := hB0w.cell _ _ hy.c4
        obtain ⟨zt, za, zc⟩ := y
        simp only at hyt hyo m0 m1 m2 m3 m4
        have hwx : Below wr.heap.size wr (wr.alloc (.cells #[.int .i64 zt.kind, .string zt.text, .int .i64 zt.n, .int .i64 zt.spot, .slice za zt.args.length zc] 41)) := (Below.refl _ _).alloc (Nat.le_refl _) _
        have hzx : (wr.alloc (.cells #[.int .i64 zt.kind, .string zt.text, .int .i64 zt.n, .int .i64 zt.spot, .slice za zt.args.length zc] 41)).heap.size = wr.heap.size + 1 := by simp
        have C := IH.out ⟨zt, za, zc⟩ (wr.alloc (.cells #[.int .i64 zt.kind, .string zt.text, .int .i64 zt.n, .int .i64 zt.spot, .slice za zt.args.length zc] 41)) (by simp only; rw [hyt]; exact HPL.out q hql) (by omega) hyo (hB0w.trans (reads_below hwx))
        have HC := Lib.hid C
        have HTS := Lib.hid (show (t.args.take (q + 1)).map plainR = (t.args.take q).map plainR ++ [plainR zt] by rw [plain_take_succ hql, hyt])
        have hq0 : (0 : Int) ≤ (q : Int) := by omega
        have hq1 : (q : Int) < (t.args.length : Int) := by omega
        have hq5 : (q : Int) ≤ 2300000000000 := by omega
        have hmm : q + 1 ≤ maxLen := by unfold maxLen; omega
        have hmb : (q + 1) * 56 ≤ 140737488355328 := by omega
        have hol : ∀ g, u3.ownBlock = some g → g < wr.heap.size := fun g e => (HOWN.out.lt g e).2
        have HOL := Lib.hid hol
        have HZX := Lib.hid hzx
        clear hyt hyo hy hrow C hol hwx hzx
        go_wp2_with fail
        refine HC.out.mono ?_; rintro e w4 ⟨⟨ty, aY, cY⟩, rfl, hzt, hzf, hb4⟩
        replace hb4 := below_box hb4
        have hbA := hb4.alloc hb4.size (.cells #[.int .i64 ty.kind, .string ty.name, .int .i64 ty.n, .slice aY ty.args.length cY] 48)
        have hownA := own_below HOWN.out hbA
        have hbB := beside_fresh (w := wz) hzf (by rw [HZX.out]; omega) (fun g e => by rw [HZX.out]; have := HOL.out g e; omega)
        have HBB := Lib.hid hbB
        have HAA := Lib.hid hbA
        have HVT2 := Lib.hid (show (vs ++ [(⟨ty, aY, cY⟩ : Tv)]).map Tv.t = (t.args.take (q + 1)).map plainR by rw [List.map_append, HVT.out, HTS.out]; exact congrArg (fun x => _ ++ [x]) hzt)
        have HN1 := Lib.hid (World.news_of_block (heap_alloc_new w4 (.cells #[.int .i64 ty.kind, .string ty.name, .int .i64 ty.n, .slice aY ty.args.length cY] 48)))
        have HO1 := Lib.hid (fun (x : Value) (hx : x ∈ [Value.int .i64 ty.kind, .string ty.name, .int .i64 ty.n, .slice aY ty.args.length cY]) => (show x.oneCell' = true from rowTv_one' [⟨ty, aY, cY⟩] x (by rw [rowTv_one]; exact hx)))
        have hsz : wz.heap.size ≤ (w4.alloc (.cells #[.int .i64 ty.kind, .string ty.name, .int .i64 ty.n, .slice aY ty.args.length cY] 48)).heap.size := by have h2 := hbA.size; omega
        clear hzt hzf hb4 hbA hbB m0 m1 m2 m3 m4
        simp only [Tv.val]
        go_wp2_with (at_builtin; refine wpList_append_own_at _ rfl _ _ 46 rfl wz.heap.size 48 i0 (.agg #[.int .i64 0, .string ⟨#[]⟩, .int .i64 0, .slice none 0 0]) 4 56 Tryd.underlying46 hi0 hiz0 his0 hib0 rfl (by decide) _ q (rowTv vs) rfl hownA ⟨w4.heap.size, 0, none⟩ 1 1 [.int .i64 ty.kind, .string ty.name, .int .i64 ty.n, .slice aY ty.args.length cY] rfl rfl HN1.out HO1.out hmm hmb hsz ?_; intro v5 w5 hown5 hg5 _ hat5)
        go_roundw
        case rel =>
          have hb5 : Below wz.heap.size wz w5 := (HBW.out.trans (HAA.out.mono hbs)).grown hg5 hsz (fun y e => (hownA.lt y e).1)
          have hAB : Below w4.heap.size w4 (w4.alloc (.cells #[.int .i64 ty.kind, .string ty.name, .int .i64 ty.n, .slice aY ty.args.length cY] 48)) := (Below.refl _ _).alloc (Nat.le_refl _) _
          have hall : ∀ x ∈ vs ++ [(⟨ty, aY, cY⟩ : Tv)], Beside w0 wz w5 v5 x := fun x hx => by
            rcases List.mem_append.1 hx with hx | hx
            · exact ((HVB.out x hx).below HAA.out).grown hg5 hat5
            · rw [List.mem_singleton] at hx
              subst hx
              exact (HBB.out.below hAB).grown hg5 hat5
          have hrow : w5.ownsRow wz.heap.size 48 4 v5 (q + 1) (rowTv (vs ++ [(⟨ty, aY, cY⟩ : Tv)])) := by rw [rowTv_append, rowTv_one]; exact hown5
          exact ⟨q + 1, vs ++ [(⟨ty, aY, cY⟩ : Tv)], by omega, by go_num, Lib.hid HVT2.out, by rw [List.length_append, hvl]; rfl, Lib.hid hall, Lib.hid hrow, Lib.hid hb5⟩
        case measure => simp [intOf]; omega
      · have hqe : q = t.args.length := by omega
        have hqd : decide ((q : Int) < (t.args.length : Int)) = false := decide_eq_false (by omega)
        have hql1 : t.args.length ≤ q := by omega
        have hvt : vs.map Tv.t = t.args.map plainR := by
          have h := HVT.out
          rw [List.take_of_length_le hql1] at h
          exact h
        have hown := HOWN.out
        rw [hqe] at hown
        have hform : ∃ a7 c7, u3 = .slice a7 t.args.length c7 := by
          rcases hown.2 with ⟨h, h0⟩ | ⟨g', cap', cur, h, _⟩
          · exact ⟨none, 0, by rw [h, h0]⟩
          · exact ⟨_, cap', h⟩
        obtain ⟨a7, c7, rfl⟩ := hform
        have HOWNE := Lib.hid hown
        have HVTE := Lib.hid hvt
        obtain ⟨p0, p1, p2, p3, p4, _, _, _, _, _⟩ := HBX.out wr HBW.out
        have HEQ := Lib.hid (plainR_eq t)
        clear hqe hown hvt HVT HOWN
        have HF := Lib.hid HX.out.1
        rcases kind_ways t.kind with ⟨hk, k1⟩ | ⟨hk, k1, k5⟩ | ⟨hk, k1, k5, k3⟩ | ⟨hk, k1, k5, k3, k4⟩ | ⟨⟨hk1, hk5, hk3, hk4⟩, k1, k5, k3, k4⟩
        · have k5 : (t.kind == 5) = false := by rw [hk]; rfl
          have k3 : (t.kind == 3) = false := by rw [hk]; rfl
          have k4 : (t.kind == 4) = false := by rw [hk]; rfl
          have HEE := Lib.hid (show plainR t = .mk t.kind (t.text) (0) (t.args.map plainR) by rw [HEQ.out, if_pos (by omega), if_neg (by omega)])
          clear hk
          clear HEQ
          go_wp2_with fail
          refine (of_any _ _ _ _ _ _ _).mono ?_; rintro e w5 ⟨rfl, hb5⟩
          have hbR := HBR.out w5 (below_next HBW.out hb5)
          have BR8 := Lib.hid (hbR.sets (.int .i64 t.kind) (.string (t.text)) (.int .i64 0) (.slice a7 t.args.length c7))
          obtain ⟨q0, q1, q2, q3, f0, f1, f2, f3⟩ := hbR
          have HB5 := Lib.hid hb5
          clear hb5 p0 p1 p2 p3 p4
          go_wp2_with fail
          obtain ⟨q0, q1, q2, q3, f0, f1, f2, f3⟩ := BR8.out
          refine bodyPost_ret (v := .agg #[.int .i64 t.kind, .string (t.text), .int .i64 0, .slice a7 t.args.length c7]) (by simp [results, Tryd.results15, go_sem, q0, q1, q2, q3]) rfl ?_
          rw [HEE.out]
          exact made_box (by rw [List.length_map]) HVTE.out ⟨HF.out.klo, HF.out.khi, (by decide), (by decide), HF.out.len⟩ (by omega) HOWNE.out HVB.out HBZ.out HBW.out HB5.out (by omega) (by rw [HZS.out]; omega) _ _ _ _
        · have k3 : (t.kind == 3) = false := by rw [hk]; rfl
          have k4 : (t.kind == 4) = false := by rw [hk]; rfl
          have HEE := Lib.hid (show plainR t = .mk t.kind (t.text) (0) (t.args.map plainR) by rw [HEQ.out, if_pos (by omega), if_neg (by omega)])
          clear hk
          clear HEQ
          go_wp2_with fail
          refine (of_any _ _ _ _ _ _ _).mono ?_; rintro e w5 ⟨rfl, hb5⟩
          have hbR := HBR.out w5 (below_next HBW.out hb5)
          have BR8 := Lib.hid (hbR.sets (.int .i64 t.kind) (.string (t.text)) (.int .i64 0) (.slice a7 t.args.length c7))
          obtain ⟨q0, q1, q2, q3, f0, f1, f2, f3⟩ := hbR
          have HB5 := Lib.hid hb5
          clear hb5 p0 p1 p2 p3 p4
          go_wp2_with fail
          obtain ⟨q0, q1, q2, q3, f0, f1, f2, f3⟩ := BR8.out
          refine bodyPost_ret (v := .agg #[.int .i64 t.kind, .string (t.text), .int .i64 0, .slice a7 t.args.length c7]) (by simp [results, Tryd.results15, go_sem, q0, q1, q2, q3]) rfl ?_
          rw [HEE.out]
          exact made_box (by rw [List.length_map]) HVTE.out ⟨HF.out.klo, HF.out.khi, (by decide), (by decide), HF.out.len⟩ (by omega) HOWNE.out HVB.out HBZ.out HBW.out HB5.out (by omega) (by rw [HZS.out]; omega) _ _ _ _
        · have k4 : (t.kind == 4) = false := by rw [hk]; rfl
          have HEE := Lib.hid (show plainR t = .mk t.kind (⟨#[]⟩) (t.n) (t.args.map plainR) by rw [HEQ.out, if_neg (by omega), if_pos (by omega)])
          clear hk
          clear HEQ
          go_wp2_with fail
          refine (of_any _ _ _ _ _ _ _).mono ?_; rintro e w5 ⟨rfl, hb5⟩
          have hbR := HBR.out w5 (below_next HBW.out hb5)
          have BR8 := Lib.hid (hbR.sets (.int .i64 t.kind) (.string (⟨#[]⟩)) (.int .i64 t.n) (.slice a7 t.args.length c7))
          obtain ⟨q0, q1, q2, q3, f0, f1, f2, f3⟩ := hbR
          have HB5 := Lib.hid hb5
          clear hb5 p0 p1 p2 p3 p4
          go_wp2_with fail
          obtain ⟨q0, q1, q2, q3, f0, f1, f2, f3⟩ := BR8.out
          refine bodyPost_ret (v := .agg #[.int .i64 t.kind, .string (⟨#[]⟩), .int .i64 t.n, .slice a7 t.args.length c7]) (by simp [results, Tryd.results15, go_sem, q0, q1, q2, q3]) rfl ?_
          rw [HEE.out]
          exact made_box (by rw [List.length_map]) HVTE.out ⟨HF.out.klo, HF.out.khi, HF.out.nlo, HF.out.nhi, (by decide)⟩ (by omega) HOWNE.out HVB.out HBZ.out HBW.out HB5.out (by omega) (by rw [HZS.out]; omega) _ _ _ _
        · have HEE := Lib.hid (show plainR t = .mk t.kind (⟨#[]⟩) (t.n) (t.args.map plainR) by rw [HEQ.out, if_neg (by omega), if_pos (by omega)])
          clear hk
          clear HEQ
          go_wp2_with fail
          refine (of_any _ _ _ _ _ _ _).mono ?_; rintro e w5 ⟨rfl, hb5⟩
          have hbR := HBR.out w5 (below_next HBW.out hb5)
          have BR8 := Lib.hid (hbR.sets (.int .i64 t.kind) (.string (⟨#[]⟩)) (.int .i64 t.n) (.slice a7 t.args.length c7))
          obtain ⟨q0, q1, q2, q3, f0, f1, f2, f3⟩ := hbR
          have HB5 := Lib.hid hb5
          clear hb5 p0 p1 p2 p3 p4
          go_wp2_with fail
          obtain ⟨q0, q1, q2, q3, f0, f1, f2, f3⟩ := BR8.out
          refine bodyPost_ret (v := .agg #[.int .i64 t.kind, .string (⟨#[]⟩), .int .i64 t.n, .slice a7 t.args.length c7]) (by simp [results, Tryd.results15, go_sem, q0, q1, q2, q3]) rfl ?_
          rw [HEE.out]
          exact made_box (by rw [List.length_map]) HVTE.out ⟨HF.out.klo, HF.out.khi, HF.out.nlo, HF.out.nhi, (by decide)⟩ (by omega) HOWNE.out HVB.out HBZ.out HBW.out HB5.out (by omega) (by rw [HZS.out]; omega) _ _ _ _
        · have HEE := Lib.hid (show plainR t = .mk t.kind ⟨#[]⟩ 0 (t.args.map plainR) by rw [HEQ.out, if_neg (by omega), if_neg (by omega)])
          clear hk1 hk5 hk3 hk4
          clear HEQ
          go_wp2_with fail
          refine (of_any _ _ _ _ _ _ _).mono ?_; rintro e w5 ⟨rfl, hb5⟩
          have hbR := HBR.out w5 (below_next HBW.out hb5)
          have BR8 := Lib.hid (hbR.sets (.int .i64 t.kind) (.string (⟨#[]⟩)) (.int .i64 0) (.slice a7 t.args.length c7))
          obtain ⟨q0, q1, q2, q3, f0, f1, f2, f3⟩ := hbR
          have HB5 := Lib.hid hb5
          clear hb5 p0 p1 p2 p3 p4
          go_wp2_with fail
          obtain ⟨q0, q1, q2, q3, f0, f1, f2, f3⟩ := BR8.out
          refine bodyPost_ret (v := .agg #[.int .i64 t.kind, .string (⟨#[]⟩), .int .i64 0, .slice a7 t.args.length c7]) (by simp [results, Tryd.results15, go_sem, q0, q1, q2, q3]) rfl ?_
          rw [HEE.out]
          exact made_box (by rw [List.length_map]) HVTE.out ⟨HF.out.klo, HF.out.khi, (by decide), (by decide), (by decide)⟩ (by omega) HOWNE.out HVB.out HBZ.out HBW.out HB5.out (by omega) (by rw [HZS.out]; omega) _ _ _ _
end Go.Proofs.YtldgbdmiebipnaaDoor

namespace Go.Proofs.YtldgbdmiebipnaaDoor
open Go.RowKit

theorem Tv.ok.drew {w : World} {v : Tv} (h : v.ok w) : v.ok w.drew := h.below ((Below.refl _ _).drew)
theorem box_next (w : World) (g : Nat) (hg : g = w.heap.size) (x0 x1 x2 x3 : Value) (t : TypeId) : Box (w.alloc (.cells #[x0, x1, x2, x3] t)) g x0 x1 x2 x3 := by
  subst hg; exact box_new w x0 x1 x2 x3 t
/-- Terms are alike up to k. -/
def TmsTo (xs ys : List Tm) (k : Nat) : Prop := ∀ j (h1 : j < xs.length) (h2 : j < ys.length), j < k → xs[j] = ys[j]
theorem TmsTo.succ {xs ys : List Tm} {k : Nat} (h : TmsTo xs ys k) (h1 : k < xs.length) (h2 : k < ys.length) (hk : xs[k] = ys[k]) : TmsTo xs ys (k + 1) := by
  intro j a b hj
  by_cases e : j = k
  · subst e; exact hk
  · exact h j a b (by omega)
theorem TmsTo.all {xs ys : List Tm} (h : TmsTo xs ys xs.length) (hl : xs.length = ys.length) : xs = ys :=
  List.ext_getElem hl fun j h1 h2 => h j h1 h2 h1
/-- Where two heads part first. -/
theorem tm_ways (k k' : Int) (s s' : ByteArray) (n n' : Int) (l l' : Nat) : (k = k' ∧ s = s' ∧ n = n' ∧ l = l') ∨ (¬ (k = k' ∧ s = s' ∧ n = n' ∧ l = l') ∧ ((k != k') = true ∨ ((k != k') = false ∧ ((n != n') = true ∨ ((n != n') = false ∧ (((s.toList == s'.toList) = false) ∨ ((s.toList == s'.toList) = true ∧ ((l : Int) != (l' : Int)) = true))))))) := by
  by_cases h0 : k = k'
  · by_cases h2 : n = n'
    · by_cases h1 : s = s'
      · by_cases h3 : l = l'
        · exact .inl ⟨h0, h1, h2, h3⟩
        · exact .inr ⟨fun h => h3 h.2.2.2, .inr ⟨by simp [h0], .inr ⟨by simp [h2], .inr ⟨by simp [h1], by rw [bne_iff_ne]; omega⟩⟩⟩⟩
      · exact .inr ⟨fun h => h1 h.2.1, .inr ⟨by simp [h0], .inr ⟨by simp [h2], .inl (by rw [Lib.bytes_beq_false_iff]; exact h1)⟩⟩⟩
    · exact .inr ⟨fun h => h2 h.2.2.1, .inr ⟨by simp [h0], .inl (by rw [bne_iff_ne]; exact h2)⟩⟩
  · exact .inr ⟨fun h => h0 h.1, .inl (by rw [bne_iff_ne]; exact h0)⟩
end Go.Proofs.YtldgbdmiebipnaaDoor

namespace Go.Proofs.YtldgbdmiebipnaaDoor
open Go.RowKit

set_option maxRecDepth 100000 in
set_option maxHeartbeats 2000000 in
theorem same_tm (m : Nat) : ∀ (x y : Tv) (w : World), x.t.parts ≤ m → x.ok w → y.ok w →
    Calls Tryd.prog 13 #[x.val, y.val] w fun e w' => e = .returned (.bool (eqT x.t y.t)) ∧ Below w.heap.size w w' := by
  induction m with
  | zero => intro x y w h; have := parts_pos x.t; omega
  | succ m ih =>
    intro x y w hm hx hy
    obtain ⟨⟨k, s, n, xs⟩, a, c⟩ := x
    obtain ⟨⟨k', s', n', ys⟩, a', c'⟩ := y
    obtain ⟨_, hxl, hxr⟩ := hx
    obtain ⟨_, hyl, hyr⟩ := hy
    simp only [Tv.val, Tm.kind, Tm.name, Tm.n, Tm.args] at hxl hxr hyl hyr ⊢
    have hpl : ∀ j (h : j < xs.length), xs[j].parts ≤ m := fun j h => by
      have := parts_arg (.mk k s n xs) (j := j) h
      have e : (Tm.mk k s n xs).args[j] = xs[j] := rfl
      rw [e] at this; simp only at hm; omega
    have hbb : Below w.heap.size w ((w.alloc (.cells #[.int .i64 k, .string s, .int .i64 n, .slice a xs.length c] 48)).alloc (.cells #[.int .i64 k', .string s', .int .i64 n', .slice a' ys.length c'] 48)) :=
      ((Below.refl _ _).alloc (Nat.le_refl _) _).alloc (by simp) _
    rcases tm_ways k k' s s' n n' xs.length ys.length with ⟨rfl, rfl, rfl, hlen⟩ | ⟨hne, hw⟩
    · have hq : ((xs.length : Int) != (ys.length : Int)) = false := by simp [hlen]
      have HL := Lib.hid hlen
      have IH := Lib.hid ih
      have HP := Lib.hid hpl
      clear ih hpl hm hlen
      rcases hxr with rfl | ⟨b, off, rfl, hlt, hr⟩
      · have : ys = [] := by simpa using HL.out.symm
        subst this
        have HE := Lib.hid (eqT_true (rfl : Tm.mk k s n [] = Tm.mk k s n []))
        go_enter Tryd.func13, Tryd.ntmps13
        go_wp2
        refine wp_loop_rounds 1 ?_; rw [rounds_succ]
        go_wp2
        go_ret
        exact ⟨ret_bool HE.out.symm, hbb⟩
      · rcases hyr with rfl | ⟨b', off', rfl, hlt', hr'⟩
        · have : xs = [] := by simpa using HL.out
          subst this
          have HE := Lib.hid (eqT_true (rfl : Tm.mk k s n [] = Tm.mk k s n []))
          go_enter Tryd.func13, Tryd.ntmps13
          go_wp2
          refine wp_loop_rounds 1 ?_; rw [rounds_succ]
          go_wp2
          go_ret
          exact ⟨ret_bool HE.out.symm, hbb⟩
        · have HR := Lib.hid hr
          have HR' := Lib.hid hr'
          clear hr hr'
          go_enter Tryd.func13, Tryd.ntmps13
          go_wp2
          go_loopw [37] (fun i wr => ∃ j : Nat, j ≤ xs.length ∧ i = .int .i64 j ∧ TmsTo xs ys j ∧ Below (w.heap.size + 2) ((w.alloc (.cells #[.int .i64 k, .string s, .int .i64 n, .slice (some ⟨b, off, none⟩) xs.length c] 48)).alloc (.cells #[.int .i64 k, .string s, .int .i64 n, .slice (some ⟨b', off', none⟩) ys.length c'] 48)) wr) (fun i _ => xs.length - (intOf i).toNat)
          case atStart => exact ⟨0, Nat.zero_le _, rfl, (fun j _ _ hk => by omega), Below.refl _ _⟩
          case round =>
            obtain ⟨j, hj, rfl, hal, hb⟩ := hrel
            have HA := Lib.hid hal
            clear hal
            by_cases hj1 : j < xs.length
            · have hj2 : j < ys.length := by have := HL.out; omega
              have hi1 : (j : Int) < (xs.length : Int) := by omega
              have hi2 : (j : Int) < (ys.length : Int) := by omega
              have hwr : Below w.heap.size w wr := hbb.trans (hb.mono (by omega))
              obtain ⟨u, hu, huk, d0, d1, d2, d3⟩ := tmAt_tv ((rowAt_get HR.out hj1).below hwr)
              obtain ⟨v, hv, hvk, g0, g1, g2, g3⟩ := tmAt_tv ((rowAt_get HR'.out hj2).below hwr)
              have p0 : wr.cell? ⟨w.heap.size, 3, none⟩ = some (.slice (some ⟨b, off, none⟩) xs.length c) := by
                rw [hb.cell (p := ⟨w.heap.size, 3, none⟩) (by show w.heap.size < _; omega)]
                exact ((box_new w _ _ _ _ _).below ((Below.refl _ _).alloc (Nat.le_refl _) _) (by simp)).c3
              have p1 : wr.cell? ⟨w.heap.size + 1, 3, none⟩ = some (.slice (some ⟨b', off', none⟩) ys.length c') := by
                rw [hb.cell (p := ⟨w.heap.size + 1, 3, none⟩) (by show w.heap.size + 1 < _; omega)]
                exact (box_next (w.alloc _) _ (by simp) _ _ _ _ _).c3
              have C := Lib.hid (fun w' (h : Below wr.heap.size wr w') => IH.out u v w' (by rw [hu]; exact HP.out j hj1) (huk.below h) (hvk.below h))
              have HU := Lib.hid hu
              have HV := Lib.hid hv
              clear hu hv huk hvk
              have hwz := hb.size
              simp at hwz
              cases he : eqT u.t v.t with
              | true =>
                rw [he] at C
                have HE := Lib.hid (eqT_iff.1 he)
                clear he
                go_wp2
                go_still_tail 10, (by kernel_rfl)
                go_wp2_with fail
                refine (C.out _ ((Below.refl _ _).drew)).mono ?_; rintro e w1 ⟨rfl, hb1⟩
                go_wp2_with fail
                go_roundw
                case rel => exact ⟨j + 1, by omega, by go_num, HA.out.succ hj1 hj2 (HU.out.symm.trans (HE.out.trans HV.out)), (hb.drew).trans (hb1.mono (by show w.heap.size + 2 ≤ wr.heap.size; omega))⟩
                case measure => simp [intOf]; omega
              | false =>
                rw [he] at C
                have HE : Hid (u.t ≠ v.t) := Lib.hid (fun e => by rw [eqT_true e] at he; cases he)
                clear he
                go_wp2
                go_still_tail 10, (by kernel_rfl)
                go_wp2_with fail
                refine (C.out _ ((Below.refl _ _).drew)).mono ?_; rintro e w1 ⟨rfl, hb1⟩
                go_wp2_with fail
                go_ret
                refine ⟨ret_bool (Eq.symm (eqT_false fun e => ?_)), hwr.drew.trans (hb1.mono (by show w.heap.size ≤ wr.heap.size; omega))⟩
                have ea := congrArg Tm.args e
                simp only [Tm.args] at ea
                subst ea
                exact HE.out (HU.out.trans HV.out.symm)
            · obtain rfl : j = xs.length := by omega
              go_wp2
              go_ret
              have e := HA.out.all HL.out
              exact ⟨ret_bool (eqT_true (by rw [e])).symm, hbb.trans (hb.mono (by omega))⟩
    · have h0 : eqT (Tm.mk k s n xs) (Tm.mk k' s' n' ys) = false := eqT_false fun e => hne (by cases e; exact ⟨rfl, rfl, rfl, rfl⟩)
      have HE := Lib.hid h0
      clear hne ih hpl hm h0
      rcases hw with hw | ⟨e0, hw | ⟨e1, hw | ⟨e2, hw⟩⟩⟩
      all_goals
        go_enter Tryd.func13, Tryd.ntmps13
        go_wp2
        go_ret
        exact ⟨ret_bool HE.out.symm, hbb⟩
end Go.Proofs.YtldgbdmiebipnaaDoor

namespace Go.Proofs.YtldgbdmiebipnaaDoor
open Go.RowKit

theorem rv_row (w : World) (y : Rv) (t : TypeId) (hy : y.ok (w.alloc (.cells #[.int .i64 y.t.kind, .string y.t.text, .int .i64 y.t.n, .int .i64 y.t.spot, .slice y.a y.t.args.length y.c] t))) :
    Trs (w.alloc (.cells #[.int .i64 y.t.kind, .string y.t.text, .int .i64 y.t.n, .int .i64 y.t.spot, .slice y.a y.t.args.length y.c] t)) (.slice (some ⟨w.heap.size, 0, none⟩) 1 1) [y.t] := by
  have b := box5_new w (.int .i64 y.t.kind) (.string y.t.text) (.int .i64 y.t.n) (.int .i64 y.t.spot) (.slice y.a y.t.args.length y.c) t
  refine ⟨_, 1, rfl, ⟨by simp, by simp⟩, .inr ⟨w.heap.size, 0, rfl, by simp, ?_⟩⟩
  rw [RowRAt, RowRAt]
  exact ⟨rv_trAt hy ⟨b.c0, b.c1, b.c2, b.c3, b.c4⟩, trivial⟩

set_option maxRecDepth 100000 in
set_option maxHeartbeats 2000000 in
theorem lawTerms11_of (w : World) (I : GramA w) (s : ByteArray) :
    Calls Tryd.prog 4 #[.string s] w fun e w' => e = .returned (.bool true) ∧ Below w.heap.size w w' := by
  have AW := Lib.hid (awake11_of w I w (Below.refl _ _))
  rcases Int.lt_or_le 9000 (s.size : Int) with hs | hs
  · have hd : decide ((9000 : Int) < (s.size : Int)) = true := decide_eq_true hs
    clear I
    go_enter Tryd.func4, Tryd.ntmps4
    go_wp2_with fail
    refine AW.out.mono ?_; rintro e w1 ⟨rfl, hb1⟩
    go_wp2_with fail
    go_ret
    exact ⟨rfl, hb1⟩
  · have hd : decide ((9000 : Int) < (s.size : Int)) = false := decide_eq_false (by omega)
    have PP := Lib.hid (fun (W : World) (h : Below w.heap.size w W) => I.term s W h (by omega))
    have PR := Lib.hid (fun (W : World) => rwhole_any s (by omega) W)
    have PL := Lib.hid (fun (x : Rv) (W : World) (h : Below w.heap.size w W) (hx : x.ok W) (ht : x.t = (wholeS s).2.2) => I.plain x W h hx ⟨s, by omega, ht⟩)
    unfold WholePost at PR
    have hbd := wholeS_bd s
    have hsm := whole_small s
    have his := wholeS_is s
    obtain ⟨⟨e0, e1, u⟩, hx⟩ : ∃ x, wholeS s = x := ⟨_, rfl⟩
    rw [hx] at PP PR hbd hsm PL his
    simp only at PP PR hbd hsm PL his
    obtain ⟨hbd0, hbd1⟩ := hbd
    clear I hx
    go_enter Tryd.func4, Tryd.ntmps4
    go_wp2_with fail
    refine AW.out.mono ?_; rintro e w1 ⟨rfl, hb1⟩
    go_wp2_with fail
    refine (PP.out _ hb1).mono ?_; rintro e w2 ⟨y, rfl, hyt, hyk, hb2⟩
    have hB2 := below_next hb1 hb2
    have HB2 := Lib.hid hB2
    clear hb1 hb2 hB2
    obtain ⟨yt, ya, yc⟩ := y
    simp only at hyt
    subst hyt
    simp only [Rv.val]
    go_wp2_with fail
    have hz1 : (w2.alloc (.cells #[.int .i64 yt.kind, .string yt.text, .int .i64 yt.n, .int .i64 yt.spot, .slice ya yt.args.length yc] 36)).heap.size = w2.heap.size + 1 := by simp
    have hV : Below w2.heap.size w2 ((w2.alloc (.cells #[.int .i64 yt.kind, .string yt.text, .int .i64 yt.n, .int .i64 yt.spot, .slice ya yt.args.length yc] 36)).alloc (.cells #[.int .i64 e0, .int .i64 e1] 26)) := ((Below.refl _ _).alloc (Nat.le_refl _) _).alloc (by rw [hz1]; omega) _
    have bT := (box5_new w2 (.int .i64 yt.kind) (.string yt.text) (.int .i64 yt.n) (.int .i64 yt.spot) (.slice ya yt.args.length yc) 36).below ((Below.refl _ _).alloc (Nat.le_refl _) (.cells #[.int .i64 e0, .int .i64 e1] 26)) (by rw [hz1]; omega)
    have bF0 := World.cell?_alloc_mark (w2.alloc (.cells #[.int .i64 yt.kind, .string yt.text, .int .i64 yt.n, .int .i64 yt.spot, .slice ya yt.args.length yc] 36)) #[.int .i64 e0, .int .i64 e1] 26 (0, 0) 0
    have bF1 := World.cell?_alloc_mark (w2.alloc (.cells #[.int .i64 yt.kind, .string yt.text, .int .i64 yt.n, .int .i64 yt.spot, .slice ya yt.args.length yc] 36)) #[.int .i64 e0, .int .i64 e1] 26 (0, 0) 1
    rw [hz1] at bF0 bF1
    have hsz : ((w2.alloc (.cells #[.int .i64 yt.kind, .string yt.text, .int .i64 yt.n, .int .i64 yt.spot, .slice ya yt.args.length yc] 36)).alloc (.cells #[.int .i64 e0, .int .i64 e1] 26)).heap.size = w2.heap.size + 2 := by simp
    obtain ⟨V, hVe⟩ : ∃ V, V = ((w2.alloc (.cells #[.int .i64 yt.kind, .string yt.text, .int .i64 yt.n, .int .i64 yt.spot, .slice ya yt.args.length yc] 36)).alloc (.cells #[.int .i64 e0, .int .i64 e1] 26)) := ⟨_, rfl⟩
    rw [← hVe] at hV bT hsz ⊢
    have cF0 : V.cell? ⟨w2.heap.size + 1, 0, none⟩ = some (.int .i64 e0) := by rw [hVe]; exact bF0
    have cF1 : V.cell? ⟨w2.heap.size + 1, 1, none⟩ = some (.int .i64 e1) := by rw [hVe]; exact bF1
    clear hVe bF0 bF1 hz1
    refine (PR.out _).mono ?_; rintro e w4 ⟨⟨zt, za, zc⟩, rfl, hzt, hzk, hb4⟩
    simp only at hzt
    subst hzt
    simp only [Rv.val]
    have hU := (Below.refl w4.heap.size w4).alloc (Nat.le_refl _) (.cells #[.int .i64 zt.kind, .string zt.text, .int .i64 zt.n, .int .i64 zt.spot, .slice za zt.args.length zc] 41)
    have hb5 := below_next hb4 hU
    obtain ⟨k0, k1, k2, k3, k4, _, _, _, _, _⟩ := bT.below hb5 (by omega)
    have k5 := (hb5.cell (p := ⟨w2.heap.size + 1, 0, none⟩) (by show w2.heap.size + 1 < _; omega)).trans cF0
    have k6 := (hb5.cell (p := ⟨w2.heap.size + 1, 1, none⟩) (by show w2.heap.size + 1 < _; omega)).trans cF1
    have q0 : (e0 != e0) = false := by simp
    have q1 : (e1 != e1) = false := by simp
    have hyk4 : Rv.ok w4 ⟨zt, ya, yc⟩ := hyk.below (hV.trans (hb4.mono hV.size))
    have hE5 := (Below.refl w4.heap.size w4).alloc (Nat.le_refl _) (.cells #[.int .i64 zt.kind, .string zt.text, .int .i64 zt.n, .int .i64 zt.spot, .slice za zt.args.length zc] 41)
    have hs5 : (w4.alloc (.cells #[.int .i64 zt.kind, .string zt.text, .int .i64 zt.n, .int .i64 zt.spot, .slice za zt.args.length zc] 41)).heap.size = w4.heap.size + 1 := by simp
    have hyk5 := hyk4.below hE5
    have hzk5 := hzk.below hE5
    have cU := box5_new w4 (.int .i64 zt.kind) (.string zt.text) (.int .i64 zt.n) (.int .i64 zt.spot) (.slice za zt.args.length zc) 41
    go_wp2_with fail
    have HBV := Lib.hid (below_next HB2.out hV)
    have HB5 := Lib.hid (below_next (below_next HB2.out hV) hb5)
    have bU := cU
    obtain ⟨w5, hw5⟩ : ∃ w5, w5 = w4.alloc (.cells #[.int .i64 zt.kind, .string zt.text, .int .i64 zt.n, .int .i64 zt.spot, .slice za zt.args.length zc] 41) := ⟨_, rfl⟩
    rw [← hw5] at hs5 hyk5 hzk5 HB5 bU k0 k1 k2 k3 k4 k5 k6 ⊢
    rw [← hs5]
    clear hw5 cU
    have hE6 := (Below.refl w5.heap.size w5).alloc (Nat.le_refl _) (.cells #[.int .i64 zt.kind, .string zt.text, .int .i64 zt.n, .int .i64 zt.spot, .slice ya zt.args.length yc] 36)
    have hs6 : (w5.alloc (.cells #[.int .i64 zt.kind, .string zt.text, .int .i64 zt.n, .int .i64 zt.spot, .slice ya zt.args.length yc] 36)).heap.size = w5.heap.size + 1 := by simp
    have R1 := rv_row w5 ⟨zt, ya, yc⟩ 36 (hyk5.below hE6)
    simp only at R1
    obtain ⟨w6, hw6⟩ : ∃ w6, w6 = w5.alloc (.cells #[.int .i64 zt.kind, .string zt.text, .int .i64 zt.n, .int .i64 zt.spot, .slice ya zt.args.length yc] 36) := ⟨_, rfl⟩
    rw [← hw6] at hE6 hs6 R1 ⊢
    rw [← hs6]
    have hE7 := (Below.refl w6.heap.size w6).alloc (Nat.le_refl _) (.cells #[.int .i64 zt.kind, .string zt.text, .int .i64 zt.n, .int .i64 zt.spot, .slice za zt.args.length zc] 41)
    have R2 := rv_row w6 ⟨zt, za, zc⟩ 41 ((hzk5.below hE6).below hE7)
    simp only at R2
    obtain ⟨w7, hw7⟩ : ∃ w7, w7 = w6.alloc (.cells #[.int .i64 zt.kind, .string zt.text, .int .i64 zt.n, .int .i64 zt.spot, .slice za zt.args.length zc] 41) := ⟨_, rfl⟩
    rw [← hw7] at hE7 R2 ⊢
    refine (ltrees_any _ _ _ [zt] w7 (Nat.le_refl _) (R1.below hE7) R2).mono ?_; rintro e w8 ⟨rfl, r, rfl⟩
    have hE8 : Below w5.heap.size w5 (w7.drewN r) := below_drewN (below_next hE6 hE7) r
    have HB8 := Lib.hid (below_next HB5.out hE8)
    have HY8 := Lib.hid (hyk5.below hE8)
    have HZ8 := Lib.hid (hzk5.below hE8)
    obtain ⟨w8, hw8⟩ : ∃ w8, w8 = w7.drewN r := ⟨_, rfl⟩
    rw [← hw8] at hE8 HB8 HY8 HZ8 ⊢
    have hs4 := hb4.size
    have m0 := (hE8.cell (p := ⟨w2.heap.size, 0, none⟩) (by show w2.heap.size < _; omega)).trans k0
    have m1 := (hE8.cell (p := ⟨w2.heap.size, 1, none⟩) (by show w2.heap.size < _; omega)).trans k1
    have m2 := (hE8.cell (p := ⟨w2.heap.size, 2, none⟩) (by show w2.heap.size < _; omega)).trans k2
    have m3 := (hE8.cell (p := ⟨w2.heap.size, 3, none⟩) (by show w2.heap.size < _; omega)).trans k3
    have m4 := (hE8.cell (p := ⟨w2.heap.size, 4, none⟩) (by show w2.heap.size < _; omega)).trans k4
    have bU8 := bU.below hE8 (by omega)
    have hlt8 : w4.heap.size < w8.heap.size := by have := hE8.size; omega
    have HS := Lib.hid hsm
    clear hw8 k0 k1 k2 k3 k4 k5 k6 bU bT cF0 cF1 hE5 hE6 hE7 hE8 hs5 hs6 R1 R2 hyk hzk hyk4 hyk5 hzk5 hb4 hb5 hU hV hsz hs4 hsm hw6 hw7 HB2 HBV HB5
    have hlt2 : w2.heap.size < w8.heap.size := lt_of_cellR m0
    have KEEP := Lib.hid (fun (W : World) (h : Below w8.heap.size w8 W) => (show Below w8.heap.size w8 W ∧ (W.cell? ⟨w2.heap.size, 0, none⟩ = some (.int .i64 zt.kind) ∧ W.cell? ⟨w2.heap.size, 1, none⟩ = some (.string zt.text) ∧ W.cell? ⟨w2.heap.size, 2, none⟩ = some (.int .i64 zt.n) ∧ W.cell? ⟨w2.heap.size, 3, none⟩ = some (.int .i64 zt.spot) ∧ W.cell? ⟨w2.heap.size, 4, none⟩ = some (.slice ya zt.args.length yc)) ∧ (W.cell? ⟨w4.heap.size, 0, none⟩ = some (.int .i64 zt.kind) ∧ W.cell? ⟨w4.heap.size, 1, none⟩ = some (.string zt.text) ∧ W.cell? ⟨w4.heap.size, 2, none⟩ = some (.int .i64 zt.n) ∧ W.cell? ⟨w4.heap.size, 3, none⟩ = some (.int .i64 zt.spot) ∧ W.cell? ⟨w4.heap.size, 4, none⟩ = some (.slice za zt.args.length zc)) from ⟨h, ⟨(h.cell (p := ⟨w2.heap.size, 0, none⟩) hlt2).trans m0, (h.cell (p := ⟨w2.heap.size, 1, none⟩) hlt2).trans m1, (h.cell (p := ⟨w2.heap.size, 2, none⟩) hlt2).trans m2, (h.cell (p := ⟨w2.heap.size, 3, none⟩) hlt2).trans m3, (h.cell (p := ⟨w2.heap.size, 4, none⟩) hlt2).trans m4⟩, ⟨(bU8.below h hlt8).c0, (bU8.below h hlt8).c1, (bU8.below h hlt8).c2, (bU8.below h hlt8).c3, (bU8.below h hlt8).c4⟩⟩))
    have D0 := Lib.hid ((Below.refl w8.heap.size w8).drew)
    rcases his with rfl | he
    · skip
      have P1 := Lib.hid (fun (W : World) (h : Below w8.heap.size w8 W) => (PL.out ⟨zt, ya, yc⟩ W (below_next HB8.out h) (HY8.out.below h) rfl).mono fun e w' hh => (show ∃ (k : Int) (s : ByteArray) (n : Int) (a : Option Addr) (l c : Nat), e = .returned (.agg #[.int .i64 k, .string s, .int .i64 n, .slice a l c]) ∧ Hid (∃ z : Tv, z.val = .agg #[.int .i64 k, .string s, .int .i64 n, .slice a l c] ∧ z.t = plainR zt ∧ z.ok w') ∧ Below w8.heap.size w8 w' from by
        obtain ⟨z, rfl, hz, hzo, hb⟩ := hh
        exact ⟨_, _, _, _, _, _, rfl, Lib.hid ⟨z, rfl, hz, hzo⟩, below_next h hb⟩))
      have P2 := Lib.hid (fun (W : World) (h : Below w8.heap.size w8 W) => (rplain_tm W 1000000 ⟨zt, za, zc⟩ W HS.out (by omega) (HZ8.out.below h) (Reads.refl W)).mono fun e w' hh => (show ∃ (k : Int) (s : ByteArray) (n : Int) (a : Option Addr) (l c : Nat), e = .returned (.agg #[.int .i64 k, .string s, .int .i64 n, .slice a l c]) ∧ Hid (∃ z : Tv, z.val = .agg #[.int .i64 k, .string s, .int .i64 n, .slice a l c] ∧ z.t = plainR zt ∧ z.ok w') ∧ Below w8.heap.size w8 w' ∧ Hid (Below W.heap.size W w') from by
        obtain ⟨z, rfl, hz, hzo, hb⟩ := hh
        exact ⟨_, _, _, _, _, _, rfl, Lib.hid ⟨z, rfl, hz, hzo.ok hb⟩, below_next h hb, Lib.hid hb⟩))
      have SM := Lib.hid (fun (W W' : World) (x y : Value) (h : Below w8.heap.size w8 W') (hb : Hid (Below W.heap.size W W')) (hx : Hid (∃ z : Tv, z.val = x ∧ z.t = plainR zt ∧ z.ok W)) (hy : Hid (∃ z : Tv, z.val = y ∧ z.t = plainR zt ∧ z.ok W')) => (show Calls Tryd.prog 13 #[x, y] W' fun e w' => e = .returned (.bool true) ∧ Below w8.heap.size w8 w' from by
        obtain ⟨z1, rfl, h1, o1⟩ := hx.out
        obtain ⟨z2, rfl, h2, o2⟩ := hy.out
        refine (same_tm z1.t.parts z1 z2 W' (Nat.le_refl _) (o1.below hb.out) o2).mono ?_
        rintro e w' ⟨rfl, hb'⟩
        exact ⟨by rw [eqT_true (h1.trans h2.symm)], below_next h hb'⟩))
      simp only [Rv.val] at P1 P2
      clear PL bU8
      go_wp2_with fail
      go_region_held3 (fun W => Below w8.heap.size w8 W ∧ (W.cell? ⟨w2.heap.size, 0, none⟩ = some (.int .i64 zt.kind) ∧ W.cell? ⟨w2.heap.size, 1, none⟩ = some (.string zt.text) ∧ W.cell? ⟨w2.heap.size, 2, none⟩ = some (.int .i64 zt.n) ∧ W.cell? ⟨w2.heap.size, 3, none⟩ = some (.int .i64 zt.spot) ∧ W.cell? ⟨w2.heap.size, 4, none⟩ = some (.slice ya zt.args.length yc)) ∧ (W.cell? ⟨w4.heap.size, 0, none⟩ = some (.int .i64 zt.kind) ∧ W.cell? ⟨w4.heap.size, 1, none⟩ = some (.string zt.text) ∧ W.cell? ⟨w4.heap.size, 2, none⟩ = some (.int .i64 zt.n) ∧ W.cell? ⟨w4.heap.size, 3, none⟩ = some (.int .i64 zt.spot) ∧ W.cell? ⟨w4.heap.size, 4, none⟩ = some (.slice za zt.args.length zc))) (first | exact KEEP.out _ (by with_reducible assumption) | exact KEEP.out _ D0.out)
        ((first
          | (go_at_call 13; (with_reducible refine (SM.out _ _ _ _ hb10 hbb10 hz9 hz10).mono ?_); rintro e w11 ⟨rfl, hb11⟩)
          | (go_at_call 14; (with_reducible refine (P1.out _ D0.out).mono ?_); rintro e w9 ⟨k9, s9, n9, a9, l9, c9, rfl, hz9, hb9⟩)
          | (go_at_call 15; (with_reducible refine (P2.out _ hb9).mono ?_); rintro e w10 ⟨k10, s10, n10, a10, l10, c10, rfl, hz10, hb10, hbb10⟩)))
      have HE := Lib.hid (below_next HB8.out hb11)
      clear hb9 hb10 hb11 hz9 hz10 hbb10
      go_wp2_with fail
      go_ret
      exact ⟨rfl, HE.out⟩
    · have q2 : (e0 != 0) = true := by rcases he with rfl | rfl <;> decide
      clear he
      go_wp2_with fail
      go_quiet (fail)
      go_wp2_with fail
      go_ret
      exact ⟨rfl, below_drewN HB8.out _⟩
end Go.Proofs.YtldgbdmiebipnaaDoor

namespace Go.Proofs.YtldgbdmiebipnaaDoor
open Go.RowKit

theorem lawTerms11_any (s : ByteArray) (w : World) (hT : Tabs w) :
    Calls Tryd.prog 4 #[.string s] w fun e w' => e = .returned (.bool true) ∧ Below w.heap.size w w' :=
  lawTerms11_of w (gramA_of w hT) s
end Go.Proofs.YtldgbdmiebipnaaDoor
