/-
  A tree as a term, by the reference of layer 11: Plain.
  A term as a text, by the reference of layer 3: Show, for any term in memory that is not too long.
  A line, letter by letter: what is shown before a letter, and what stays. No function of the program.
  An item as a line, by the reference of layer 11: Line.
  Items as lines, one by one: the pure part. No function of the program.
-/
import Derived.Test.YtldgbdmiebipnaaGreatDoorZ11
import Derived.Test.YtldgbdmiebipnaaGreatDoorZ05
import Derived.Test.YtldgbdmiebipnaaGreatDoorZ03
import Derived.Maps.AppendAt
import Derived.Deep.AppendLies
import Derived.Test.YtldgbdmiebipnaaGreatDoorZ08
import Derived.Lib.Join
import Derived.Laws.Concat
namespace Go.Proofs.YtldgbdmiebipnaaGreatDoor
open Go.RowKit

theorem plainR_eq (t : Tr) : plainR t = .mk t.kind (if t.kind = 1 ∨ t.kind = 5 then t.text else ⟨#[]⟩) (if t.kind = 3 ∨ t.kind = 4 then t.n else 0) (t.args.map plainR) := by
  cases t; rw [plainR, plainRs_map]; rfl
theorem plain_take_succ {xs : List Tr} {j : Nat} (h : j < xs.length) : (xs.take (j + 1)).map plainR = (xs.take j).map plainR ++ [plainR xs[j]] := by
  rw [List.take_succ_eq_append_getElem h, List.map_append]; rfl
/-- The kinds, as the program asks for them. -/
theorem kind_ways (k : Int) : (k = 1 ∧ (k == 1) = true) ∨ (k = 5 ∧ (k == 1) = false ∧ (k == 5) = true) ∨ (k = 3 ∧ (k == 1) = false ∧ (k == 5) = false ∧ (k == 3) = true) ∨ (k = 4 ∧ (k == 1) = false ∧ (k == 5) = false ∧ (k == 3) = false ∧ (k == 4) = true) ∨ ((k ≠ 1 ∧ k ≠ 5 ∧ k ≠ 3 ∧ k ≠ 4) ∧ (k == 1) = false ∧ (k == 5) = false ∧ (k == 3) = false ∧ (k == 4) = false) := by
  simp only [beq_iff_eq, beq_eq_false_iff_ne]
  omega

set_option maxRecDepth 100000 in
set_option maxHeartbeats 4000000 in
theorem rplain_tm (w0 : World) (m : Nat) : ∀ (x : Rv) (w : World), x.t.parts ≤ m → m ≤ 2300000000000 → x.ok w0 → Reads w0 w →
    Calls Tryz.prog 43 #[x.val] w (MadePost (plainR x.t) w0 w) := by
  induction m with
  | zero => intro x w h; have := trParts_pos x.t; omega
  | succ m ih =>
    intro x w hm hm1 hx hb0
    obtain ⟨t, ax, cx⟩ := x
    have hz1 : (w.alloc (.cells #[.int .i64 t.kind, .string t.text, .int .i64 t.n, .int .i64 t.spot, .slice ax t.args.length cx] 87)).heap.size = w.heap.size + 1 := by simp
    have hB2 : Below w.heap.size w ((w.alloc (.cells #[.int .i64 t.kind, .string t.text, .int .i64 t.n, .int .i64 t.spot, .slice ax t.args.length cx] 87)).alloc (.cells #[.int .i64 0, .string ⟨#[]⟩, .int .i64 0, .slice none 0 0] 100)) := ((Below.refl _ _).alloc (Nat.le_refl _) _).alloc (by rw [hz1]; omega) _
    obtain ⟨wz, hwz⟩ : ∃ wz, wz = ((w.alloc (.cells #[.int .i64 t.kind, .string t.text, .int .i64 t.n, .int .i64 t.spot, .slice ax t.args.length cx] 87)).alloc (.cells #[.int .i64 0, .string ⟨#[]⟩, .int .i64 0, .slice none 0 0] 100)) := ⟨_, rfl⟩
    have hzs : wz.heap.size = w.heap.size + 2 := by rw [hwz]; simp
    have bX := (box5_new w (.int .i64 t.kind) (.string t.text) (.int .i64 t.n) (.int .i64 t.spot) (.slice ax t.args.length cx) 87).below ((Below.refl _ _).alloc (Nat.le_refl _) (.cells #[.int .i64 0, .string ⟨#[]⟩, .int .i64 0, .slice none 0 0] 100)) (by rw [hz1]; omega)
    have bR := box_new (w.alloc (.cells #[.int .i64 t.kind, .string t.text, .int .i64 t.n, .int .i64 t.spot, .slice ax t.args.length cx] 87)) (.int .i64 0) (.string ⟨#[]⟩) (.int .i64 0) (.slice none 0 0) 100
    rw [hz1] at bR
    rw [← hwz] at bX bR hB2
    have hargs : t.args.length ≤ 2300000000000 := by have := partsR_length t.args; have := trParts_eq t; simp only at hm; omega
    have hpl : ∀ j (h : j < t.args.length), t.args[j].parts ≤ m := fun j h => by have := partsR_get t.args h; have := trParts_eq t; simp only at hm; omega
    obtain ⟨i0, hi0, hiz0, his0, hib0⟩ := info_parts termInfo
    have HX := Lib.hid hx
    have HB0 := Lib.hid hb0
    have HBX := Lib.hid (fun (V : World) (h : Below wz.heap.size wz V) => bX.below h (by omega))
    have HBR := Lib.hid (fun (V : World) (h : Below wz.heap.size wz V) => bR.below h (by omega))
    have HBZ := Lib.hid hB2
    have HZS := Lib.hid hzs
    have IH := Lib.hid ih
    have HPL := Lib.hid hpl
    have E0 := Lib.hid (Below.refl wz.heap.size wz)
    obtain ⟨p0, p1, p2, p3, p4, _, _, _, _, _⟩ := HBX.out wz E0.out
    clear bX bR hB2 hzs hx hb0 hz1 ih hpl
    simp only [Rv.val] at *
    go_enter Tryz.func43, Tryz.ntmps43
    go_wp2_with fail
    rw [← hwz]
    clear hwz
    go_loopw [3, 11] (fun o k wr => ∃ (q : Nat) (vs : List Tv), q ≤ t.args.length ∧ k = .int .i64 q ∧ Hid (vs.map Tv.t = (t.args.take q).map plainR) ∧ vs.length = q ∧ Hid (∀ z ∈ vs, Beside w0 wz wr o z) ∧ Hid (wr.ownsRow wz.heap.size 100 4 o q (rowTv vs)) ∧ Hid (Below wz.heap.size wz wr)) (fun _ k _ => t.args.length - (intOf k).toNat)
    case atStart => exact ⟨0, [], Nat.zero_le _, rfl, Lib.hid (by simp), rfl, Lib.hid (fun _ h => nomatch h), Lib.hid (World.ownsRow_nil _ _ _ _), E0⟩
    case round =>
      obtain ⟨q, vs, hq, rfl, HVT, hvl, HVB, HOWN, HBW⟩ := hrel
      have hbs := HBW.out.size
      have hB0w := HB0.out.trans (reads_below (HBZ.out.trans (HBW.out.mono HBZ.out.size)))
      by_cases hql : q < t.args.length
      · obtain ⟨b', o', rfl, hlt', hrow⟩ := HX.out.2.2.resolve_left (by intro h; simp only at h; rw [h] at hql; simp at hql)
        obtain ⟨y, hyt, hyo, hy⟩ := trAt_rv (rowRAt_get hrow hql)
        have m0 := hB0w.cell _ _ hy.c0
        have m1 := hB0w.cell _ _ hy.c1
        have m2 := hB0w.cell _ _ hy.c2
        have m3 := hB0w.cell _ _ hy.c3
        have m4 := hB0w.cell _ _ hy.c4
        obtain ⟨zt, za, zc⟩ := y
        simp only at hyt hyo m0 m1 m2 m3 m4
        have hwx : Below wr.heap.size wr (wr.alloc (.cells #[.int .i64 zt.kind, .string zt.text, .int .i64 zt.n, .int .i64 zt.spot, .slice za zt.args.length zc] 87)) := (Below.refl _ _).alloc (Nat.le_refl _) _
        have hzx : (wr.alloc (.cells #[.int .i64 zt.kind, .string zt.text, .int .i64 zt.n, .int .i64 zt.spot, .slice za zt.args.length zc] 87)).heap.size = wr.heap.size + 1 := by simp
        have C := IH.out ⟨zt, za, zc⟩ (wr.alloc (.cells #[.int .i64 zt.kind, .string zt.text, .int .i64 zt.n, .int .i64 zt.spot, .slice za zt.args.length zc] 87)) (by simp only; rw [hyt]; exact HPL.out q hql) (by omega) hyo (hB0w.trans (reads_below hwx))
        have HC := Lib.hid C
        have HTS := Lib.hid (show (t.args.take (q + 1)).map plainR = (t.args.take q).map plainR ++ [plainR zt] by rw [plain_take_succ hql, hyt])
        have hq0 : (0 : Int) ≤ (q : Int) := by omega
        have hq1 : (q : Int) < (t.args.length : Int) := by omega
        have hq5 : (q : Int) ≤ 2300000000000 := by omega
        have hmm : q + 1 ≤ maxLen := by unfold maxLen; omega
        have hmb : (q + 1) * 56 ≤ 140737488355328 := by omega
        have hol : ∀ g, u3.ownBlock = some g → g < wr.heap.size := fun g e => (HOWN.out.lt g e).2
        have HOL := Lib.hid hol
        have HZX := Lib.hid hzx
        clear hyt hyo hy hrow C hol hwx hzx
        go_wp2_with fail
        refine HC.out.mono ?_; rintro e w4 ⟨⟨ty, aY, cY⟩, rfl, hzt, hzf, hb4⟩
        replace hb4 := below_box hb4
        have hbA := hb4.alloc hb4.size (.cells #[.int .i64 ty.kind, .string ty.name, .int .i64 ty.n, .slice aY ty.args.length cY] 100)
        have hownA := own_below HOWN.out hbA
        have hbB := beside_fresh (w := wz) hzf (by rw [HZX.out]; omega) (fun g e => by rw [HZX.out]; have := HOL.out g e; omega)
        have HBB := Lib.hid hbB
        have HAA := Lib.hid hbA
        have HVT2 := Lib.hid (show (vs ++ [(⟨ty, aY, cY⟩ : Tv)]).map Tv.t = (t.args.take (q + 1)).map plainR by rw [List.map_append, HVT.out, HTS.out]; exact congrArg (fun x => _ ++ [x]) hzt)
        have HN1 := Lib.hid (World.news_of_block (heap_alloc_new w4 (.cells #[.int .i64 ty.kind, .string ty.name, .int .i64 ty.n, .slice aY ty.args.length cY] 100)))
        have HO1 := Lib.hid (fun (x : Value) (hx : x ∈ [Value.int .i64 ty.kind, .string ty.name, .int .i64 ty.n, .slice aY ty.args.length cY]) => (show x.oneCell' = true from rowTv_one' [⟨ty, aY, cY⟩] x (by rw [rowTv_one]; exact hx)))
        have hsz : wz.heap.size ≤ (w4.alloc (.cells #[.int .i64 ty.kind, .string ty.name, .int .i64 ty.n, .slice aY ty.args.length cY] 100)).heap.size := by have h2 := hbA.size; omega
        clear hzt hzf hb4 hbA hbB m0 m1 m2 m3 m4
        simp only [Tv.val]
        go_wp2_with (at_builtin; refine wpList_append_own_at _ rfl _ _ 98 rfl wz.heap.size 100 i0 (.agg #[.int .i64 0, .string ⟨#[]⟩, .int .i64 0, .slice none 0 0]) 4 56 Tryz.underlying98 hi0 hiz0 his0 hib0 rfl (by decide) _ q (rowTv vs) rfl hownA ⟨w4.heap.size, 0, none⟩ 1 1 [.int .i64 ty.kind, .string ty.name, .int .i64 ty.n, .slice aY ty.args.length cY] rfl rfl HN1.out HO1.out hmm hmb hsz ?_; intro v5 w5 hown5 hg5 _ hat5)
        go_roundw
        case rel =>
          have hb5 : Below wz.heap.size wz w5 := (HBW.out.trans (HAA.out.mono hbs)).grown hg5 hsz (fun y e => (hownA.lt y e).1)
          have hAB : Below w4.heap.size w4 (w4.alloc (.cells #[.int .i64 ty.kind, .string ty.name, .int .i64 ty.n, .slice aY ty.args.length cY] 100)) := (Below.refl _ _).alloc (Nat.le_refl _) _
          have hall : ∀ x ∈ vs ++ [(⟨ty, aY, cY⟩ : Tv)], Beside w0 wz w5 v5 x := fun x hx => by
            rcases List.mem_append.1 hx with hx | hx
            · exact ((HVB.out x hx).below HAA.out).grown hg5 hat5
            · rw [List.mem_singleton] at hx
              subst hx
              exact (HBB.out.below hAB).grown hg5 hat5
          have hrow : w5.ownsRow wz.heap.size 100 4 v5 (q + 1) (rowTv (vs ++ [(⟨ty, aY, cY⟩ : Tv)])) := by rw [rowTv_append, rowTv_one]; exact hown5
          exact ⟨q + 1, vs ++ [(⟨ty, aY, cY⟩ : Tv)], by omega, by go_num, Lib.hid HVT2.out, by rw [List.length_append, hvl]; rfl, Lib.hid hall, Lib.hid hrow, Lib.hid hb5⟩
        case measure => simp [intOf]; omega
      · have hqe : q = t.args.length := by omega
        have hqd : decide ((q : Int) < (t.args.length : Int)) = false := decide_eq_false (by omega)
        have hql1 : t.args.length ≤ q := by omega
        have hvt : vs.map Tv.t = t.args.map plainR := by
          have h := HVT.out
          rw [List.take_of_length_le hql1] at h
          exact h
        have hown := HOWN.out
        rw [hqe] at hown
        have hform : ∃ a7 c7, u3 = .slice a7 t.args.length c7 := by
          rcases hown.2 with ⟨h, h0⟩ | ⟨g', cap', cur, h, _⟩
          · exact ⟨none, 0, by rw [h, h0]⟩
          · exact ⟨_, cap', h⟩
        obtain ⟨a7, c7, rfl⟩ := hform
        have HOWNE := Lib.hid hown
        have HVTE := Lib.hid hvt
        obtain ⟨p0, p1, p2, p3, p4, _, _, _, _, _⟩ := HBX.out wr HBW.out
        have HEQ := Lib.hid (plainR_eq t)
        clear hqe hown hvt HVT HOWN
        have HF := Lib.hid HX.out.1
        rcases kind_ways t.kind with ⟨hk, k1⟩ | ⟨hk, k1, k5⟩ | ⟨hk, k1, k5, k3⟩ | ⟨hk, k1, k5, k3, k4⟩ | ⟨⟨hk1, hk5, hk3, hk4⟩, k1, k5, k3, k4⟩
        · have k5 : (t.kind == 5) = false := by rw [hk]; rfl
          have k3 : (t.kind == 3) = false := by rw [hk]; rfl
          have k4 : (t.kind == 4) = false := by rw [hk]; rfl
          have HEE := Lib.hid (show plainR t = .mk t.kind (t.text) (0) (t.args.map plainR) by rw [HEQ.out, if_pos (by omega), if_neg (by omega)])
          clear hk
          clear HEQ
          go_wp2_with fail
          refine (of_any _ _ _ _ _ _ _).mono ?_; rintro e w5 ⟨rfl, hb5⟩
          have hbR := HBR.out w5 (below_next HBW.out hb5)
          have BR8 := Lib.hid (hbR.sets (.int .i64 t.kind) (.string (t.text)) (.int .i64 0) (.slice a7 t.args.length c7))
          obtain ⟨q0, q1, q2, q3, f0, f1, f2, f3⟩ := hbR
          have HB5 := Lib.hid hb5
          clear hb5 p0 p1 p2 p3 p4
          go_wp2_with fail
          obtain ⟨q0, q1, q2, q3, f0, f1, f2, f3⟩ := BR8.out
          refine bodyPost_ret (v := .agg #[.int .i64 t.kind, .string (t.text), .int .i64 0, .slice a7 t.args.length c7]) (by simp [results, Tryz.results43, go_sem, q0, q1, q2, q3]) rfl ?_
          rw [HEE.out]
          exact made_box (by rw [List.length_map]) HVTE.out ⟨HF.out.klo, HF.out.khi, (by decide), (by decide), HF.out.len⟩ (by omega) HOWNE.out HVB.out HBZ.out HBW.out HB5.out (by omega) (by rw [HZS.out]; omega) _ _ _ _
        · have k3 : (t.kind == 3) = false := by rw [hk]; rfl
          have k4 : (t.kind == 4) = false := by rw [hk]; rfl
          have HEE := Lib.hid (show plainR t = .mk t.kind (t.text) (0) (t.args.map plainR) by rw [HEQ.out, if_pos (by omega), if_neg (by omega)])
          clear hk
          clear HEQ
          go_wp2_with fail
          refine (of_any _ _ _ _ _ _ _).mono ?_; rintro e w5 ⟨rfl, hb5⟩
          have hbR := HBR.out w5 (below_next HBW.out hb5)
          have BR8 := Lib.hid (hbR.sets (.int .i64 t.kind) (.string (t.text)) (.int .i64 0) (.slice a7 t.args.length c7))
          obtain ⟨q0, q1, q2, q3, f0, f1, f2, f3⟩ := hbR
          have HB5 := Lib.hid hb5
          clear hb5 p0 p1 p2 p3 p4
          go_wp2_with fail
          obtain ⟨q0, q1, q2, q3, f0, f1, f2, f3⟩ := BR8.out
          refine bodyPost_ret (v := .agg #[.int .i64 t.kind, .string (t.text), .int .i64 0, .slice a7 t.args.length c7]) (by simp [results, Tryz.results43, go_sem, q0, q1, q2, q3]) rfl ?_
          rw [HEE.out]
          exact made_box (by rw [List.length_map]) HVTE.out ⟨HF.out.klo, HF.out.khi, (by decide), (by decide), HF.out.len⟩ (by omega) HOWNE.out HVB.out HBZ.out HBW.out HB5.out (by omega) (by rw [HZS.out]; omega) _ _ _ _
        · have k4 : (t.kind == 4) = false := by rw [hk]; rfl
          have HEE := Lib.hid (show plainR t = .mk t.kind (⟨#[]⟩) (t.n) (t.args.map plainR) by rw [HEQ.out, if_neg (by omega), if_pos (by omega)])
          clear hk
          clear HEQ
          go_wp2_with fail
          refine (of_any _ _ _ _ _ _ _).mono ?_; rintro e w5 ⟨rfl, hb5⟩
          have hbR := HBR.out w5 (below_next HBW.out hb5)
          have BR8 := Lib.hid (hbR.sets (.int .i64 t.kind) (.string (⟨#[]⟩)) (.int .i64 t.n) (.slice a7 t.args.length c7))
          obtain ⟨q0, q1, q2, q3, f0, f1, f2, f3⟩ := hbR
          have HB5 := Lib.hid hb5
          clear hb5 p0 p1 p2 p3 p4
          go_wp2_with fail
          obtain ⟨q0, q1, q2, q3, f0, f1, f2, f3⟩ := BR8.out
          refine bodyPost_ret (v := .agg #[.int .i64 t.kind, .string (⟨#[]⟩), .int .i64 t.n, .slice a7 t.args.length c7]) (by simp [results, Tryz.results43, go_sem, q0, q1, q2, q3]) rfl ?_
          rw [HEE.out]
          exact made_box (by rw [List.length_map]) HVTE.out ⟨HF.out.klo, HF.out.khi, HF.out.nlo, HF.out.nhi, (by decide)⟩ (by omega) HOWNE.out HVB.out HBZ.out HBW.out HB5.out (by omega) (by rw [HZS.out]; omega) _ _ _ _
        · have HEE := Lib.hid (show plainR t = .mk t.kind (⟨#[]⟩) (t.n) (t.args.map plainR) by rw [HEQ.out, if_neg (by omega), if_pos (by omega)])
          clear hk
          clear HEQ
          go_wp2_with fail
          refine (of_any _ _ _ _ _ _ _).mono ?_; rintro e w5 ⟨rfl, hb5⟩
          have hbR := HBR.out w5 (below_next HBW.out hb5)
          have BR8 := Lib.hid (hbR.sets (.int .i64 t.kind) (.string (⟨#[]⟩)) (.int .i64 t.n) (.slice a7 t.args.length c7))
          obtain ⟨q0, q1, q2, q3, f0, f1, f2, f3⟩ := hbR
          have HB5 := Lib.hid hb5
          clear hb5 p0 p1 p2 p3 p4
          go_wp2_with fail
          obtain ⟨q0, q1, q2, q3, f0, f1, f2, f3⟩ := BR8.out
          refine bodyPost_ret (v := .agg #[.int .i64 t.kind, .string (⟨#[]⟩), .int .i64 t.n, .slice a7 t.args.length c7]) (by simp [results, Tryz.results43, go_sem, q0, q1, q2, q3]) rfl ?_
          rw [HEE.out]
          exact made_box (by rw [List.length_map]) HVTE.out ⟨HF.out.klo, HF.out.khi, HF.out.nlo, HF.out.nhi, (by decide)⟩ (by omega) HOWNE.out HVB.out HBZ.out HBW.out HB5.out (by omega) (by rw [HZS.out]; omega) _ _ _ _
        · have HEE := Lib.hid (show plainR t = .mk t.kind ⟨#[]⟩ 0 (t.args.map plainR) by rw [HEQ.out, if_neg (by omega), if_neg (by omega)])
          clear hk1 hk5 hk3 hk4
          clear HEQ
          go_wp2_with fail
          refine (of_any _ _ _ _ _ _ _).mono ?_; rintro e w5 ⟨rfl, hb5⟩
          have hbR := HBR.out w5 (below_next HBW.out hb5)
          have BR8 := Lib.hid (hbR.sets (.int .i64 t.kind) (.string (⟨#[]⟩)) (.int .i64 0) (.slice a7 t.args.length c7))
          obtain ⟨q0, q1, q2, q3, f0, f1, f2, f3⟩ := hbR
          have HB5 := Lib.hid hb5
          clear hb5 p0 p1 p2 p3 p4
          go_wp2_with fail
          obtain ⟨q0, q1, q2, q3, f0, f1, f2, f3⟩ := BR8.out
          refine bodyPost_ret (v := .agg #[.int .i64 t.kind, .string (⟨#[]⟩), .int .i64 0, .slice a7 t.args.length c7]) (by simp [results, Tryz.results43, go_sem, q0, q1, q2, q3]) rfl ?_
          rw [HEE.out]
          exact made_box (by rw [List.length_map]) HVTE.out ⟨HF.out.klo, HF.out.khi, (by decide), (by decide), (by decide)⟩ (by omega) HOWNE.out HVB.out HBZ.out HBW.out HB5.out (by omega) (by rw [HZS.out]; omega) _ _ _ _
end Go.Proofs.YtldgbdmiebipnaaGreatDoor

namespace Go.Proofs.YtldgbdmiebipnaaGreatDoor
open Go.RowKit

set_option maxRecDepth 100000 in
set_option maxHeartbeats 4000000 in
theorem show_tm (m : Nat) : ∀ (x : Tv) (w : World), x.t.parts ≤ m → wtT x.t ≤ 100000000 → x.ok w →
    Calls Tryz.prog 42 #[x.val] w (ShowPost x.t w) := by
  induction m with
  | zero => intro x w h; have := parts_pos x.t; omega
  | succ m ih =>
    intro x w hm hwt hx
    obtain ⟨⟨k, s, n, xs⟩, a, c⟩ := x
    obtain ⟨hfit, hxl, hxr⟩ := hx
    have hE : showT (.mk k s n xs) = if k = 1 ∨ k = 2 then s.data.toList else if k = 3 then 36 :: Lib.itoa n else if k = 4 then 37 :: Lib.itoa n else if k ≠ 5 then [63] else s.data.toList ++ pre (showsL xs) ++ close (showsL xs) := by rw [showT]
    have hW : wtT (.mk k s n xs) = s.size + 30 + wtL xs := by rw [wtT]
    simp only [Tv.val, Tm.kind, Tm.name, Tm.n, Tm.args] at hfit hxl hxr hm hwt ⊢
    have hpl : ∀ j (h : j < xs.length), xs[j].parts ≤ m := fun j h => by
      have := parts_arg (.mk k s n xs) (j := j) h
      have e : (Tm.mk k s n xs).args[j] = xs[j] := rfl
      rw [e] at this; omega
    have hil := Lib.itoa_length_le n hfit.nlo hfit.nhi
    have D := Lib.hid (fun w => rdigits_any n hfit.nlo hfit.nhi w)
    have hss : s.data.toList.length = s.size := by simp
    have hbb : Below w.heap.size w (w.alloc (.cells #[.int .i64 k, .string s, .int .i64 n, .slice a xs.length c] 100)) := (Below.refl _ _).alloc (Nat.le_refl _) _
    have IH := Lib.hid ih
    have HP := Lib.hid hpl
    clear ih hpl hm hfit
    by_cases h12 : k = 1 ∨ k = 2
    · have hr := Lib.hid (show showT (.mk k s n xs) = s.data.toList from by rw [hE, if_pos h12])
      have HW := Lib.hid (show (showT (.mk k s n xs)).length + 4 ≤ wtT (.mk k s n xs) from by rw [hr.out, hss, hW]; omega)
      clear hE hW hss
      rcases h12 with rfl | rfl
      all_goals
        go_enter Tryz.func42, Tryz.ntmps42
        go_wp2_with fail
        go_ret
        exact ⟨by rw [hr.out, bytes_self]; rfl, HW.out, hbb⟩
    · have q1 : (k == 1) = false := by rw [beq_eq_false_iff_ne]; omega
      have q2 : (k == 2) = false := by rw [beq_eq_false_iff_ne]; omega
      rw [if_neg h12] at hE
      by_cases h3 : k = 3
      · have hr := Lib.hid (show showT (.mk k s n xs) = 36 :: Lib.itoa n from by rw [hE, if_pos h3])
        have HW := Lib.hid (show (showT (.mk k s n xs)).length + 4 ≤ wtT (.mk k s n xs) from by rw [hr.out, List.length_cons, hW]; omega)
        subst h3
        clear hE hW hss h12
        generalize Lib.itoa n = l at D hil hr
        go_enter Tryz.func42, Tryz.ntmps42
        go_wp2_with fail
        refine (D.out _).mono ?_; rintro e w1 ⟨rfl, hb1⟩
        go_wp2_with fail
        go_ret
        exact ⟨by rw [hr.out, ← cat_cons]; rfl, HW.out, below_box hb1⟩
      · by_cases h4 : k = 4
        · have hr := Lib.hid (show showT (.mk k s n xs) = 37 :: Lib.itoa n from by rw [hE, if_neg h3, if_pos h4])
          have HW := Lib.hid (show (showT (.mk k s n xs)).length + 4 ≤ wtT (.mk k s n xs) from by rw [hr.out, List.length_cons, hW]; omega)
          subst h4
          clear hE hW hss h12 h3
          generalize Lib.itoa n = l at D hil hr
          go_enter Tryz.func42, Tryz.ntmps42
          go_wp2_with fail
          refine (D.out _).mono ?_; rintro e w1 ⟨rfl, hb1⟩
          go_wp2_with fail
          go_ret
          exact ⟨by rw [hr.out, ← cat_cons]; rfl, HW.out, below_box hb1⟩
        · have q3 : (k == 3) = false := by rw [beq_eq_false_iff_ne]; exact h3
          have q4 : (k == 4) = false := by rw [beq_eq_false_iff_ne]; exact h4
          rw [if_neg h3, if_neg h4] at hE
          by_cases h5 : k = 5
          · have hr : showT (.mk k s n xs) = s.data.toList ++ pre (showsL xs) ++ close (showsL xs) := by rw [hE, if_neg (by simp [h5])]
            subst h5
            clear hE h12 h3 h4 q1 q2 q3 q4 D hil
            have hpre0 : (⟨(s.data.toList ++ pre []).toArray⟩ : ByteArray) = s := by rw [show pre [] = [] from rfl, List.append_nil, bytes_self]
            rcases hxr with rfl | ⟨b, off, rfl, hlt, hrw⟩
            · have HR := Lib.hid (show showT (.mk 5 s n []) = s.data.toList from by rw [hr, showsL]; simp [pre, close])
              have HW := Lib.hid (show (showT (.mk 5 s n [])).length + 4 ≤ wtT (.mk 5 s n []) from by rw [HR.out, hss, hW]; omega)
              clear hr hW hss hpre0
              go_enter Tryz.func42, Tryz.ntmps42
              go_wp2
              refine wp_loop_rounds 1 ?_; rw [rounds_succ]
              go_wp2
              go_ret
              exact ⟨by rw [HR.out, bytes_self]; rfl, HW.out, hbb⟩
            have HRW := Lib.hid hrw
            have HSS := Lib.hid hss
            have HR := Lib.hid hr
            have HWT := Lib.hid hW
            have hwl : s.size + 30 + wtL xs ≤ 100000000 := by rw [← hW]; exact hwt
            have HP0 := Lib.hid hpre0
            by_cases hxe : xs = []
            · subst hxe
              have HR := Lib.hid (show showT (.mk 5 s n []) = s.data.toList from by rw [hr, showsL]; simp [pre, close])
              have HW := Lib.hid (show (showT (.mk 5 s n [])).length + 4 ≤ wtT (.mk 5 s n []) from by rw [HR.out, hss, hW]; omega)
              clear hr hW hss hpre0 hrw
              go_enter Tryz.func42, Tryz.ntmps42
              go_wp2
              refine wp_loop_rounds 1 ?_; rw [rounds_succ]
              go_wp2
              go_ret
              exact ⟨by rw [HR.out, bytes_self]; rfl, HW.out, hbb⟩
            have hxpos : 0 < xs.length := List.length_pos_iff.2 hxe
            have hxpos' : (0 : Int) < (xs.length : Int) := by omega
            have HNE := Lib.hid hxe
            clear hr hW hss hpre0 hrw hxe
            go_enter Tryz.func42, Tryz.ntmps42
            go_wp2
            go_loopw [3, 38] (fun q i wr => ∃ (j : Nat) (p : List UInt8), j ≤ xs.length ∧ i = .int .i64 j ∧ q = .string ⟨p.toArray⟩ ∧ Hid (p = s.data.toList ++ pre (showsL (xs.take j))) ∧ p.length ≤ s.size + 1 + wtL (xs.take j) ∧ Below (w.heap.size + 1) (w.alloc (.cells #[.int .i64 5, .string s, .int .i64 n, .slice (some ⟨b, off, none⟩) xs.length c] 100)) wr) (fun _ i _ => xs.length - (intOf i).toNat)
            case atStart => exact ⟨0, s.data.toList, Nat.zero_le _, rfl, by rw [bytes_self], Lib.hid (by rw [List.take_zero, showsL, show pre [] = [] from rfl, List.append_nil]), by rw [HSS.out]; omega, Below.refl _ _⟩
            case round =>
              obtain ⟨j, p, hj, rfl, rfl, HPQ, hpl, hb⟩ := hrel
              have hbs := hb.size
              simp at hbs
              have hwr : Below w.heap.size w wr := below_pair hb
              have hwp := wtL_part xs j
              by_cases hjl : j < xs.length
              · have hil : (j : Int) < (xs.length : Int) := by omega
                obtain ⟨u, hu, huk, hat⟩ := tmAt_tv (rowAt_get HRW.out hjl)
                obtain ⟨d0, d1, d2, d3⟩ := hat.below hwr
                have hst := wtL_take hjl
                have hsh := showsL_take hjl
                rw [← hu] at hst hsh
                have hwj := wtL_part xs (j + 1)
                have C : Hid (Calls Tryz.prog 42 #[u.val] (wr.alloc (.cells #[.int .i64 u.t.kind, .string u.t.name, .int .i64 u.t.n, .slice u.a u.t.args.length u.c] 100)) fun e w' => e = .returned (.string ⟨(showT u.t).toArray⟩) ∧ (showT u.t).length + 4 ≤ wtT u.t ∧ Below (wr.alloc (.cells #[.int .i64 u.t.kind, .string u.t.name, .int .i64 u.t.n, .slice u.a u.t.args.length u.c] 100)).heap.size (wr.alloc (.cells #[.int .i64 u.t.kind, .string u.t.name, .int .i64 u.t.n, .slice u.a u.t.args.length u.c] 100)) w') := Lib.hid (IH.out u (wr.alloc (.cells #[.int .i64 u.t.kind, .string u.t.name, .int .i64 u.t.n, .slice u.a u.t.args.length u.c] 100)) (by rw [hu]; exact HP.out j hjl) (by omega) ((huk.below hwr).below ((Below.refl _ _).alloc (Nat.le_refl _) _)))
                obtain ⟨q, hq⟩ : ∃ q, q = showT u.t := ⟨_, rfl⟩
                obtain ⟨wu, hwu⟩ : ∃ x, x = wtT u.t := ⟨_, rfl⟩
                simp only [Tv.val] at C
                rw [← hq, ← hwu] at C
                rw [← hq] at hsh
                rw [← hwu] at hst
                have HST := Lib.hid hst
                have HSH := Lib.hid hsh
                have hpb : p.length ≤ 100000000 := by omega
                have hwub : wu ≤ 100000000 := by omega
                clear hu huk hat hst hsh hq hwu
                by_cases hj0 : j = 0
                · have hq0 : ((j : Int) == 0) = true := by rw [beq_iff_eq]; omega
                  have HJ := Lib.hid hj0
                  clear hj0
                  go_wp2_with fail
                  refine C.out.mono ?_; rintro e w1 ⟨rfl, hql, hb1⟩
                  go_wp2_with fail
                  go_roundw
                  case rel =>
                    refine ⟨j + 1, p ++ 40 :: q, by omega, by go_num, ?_, Lib.hid ?_, ?_, (hb.alloc hbs _).trans (hb1.mono (by simp; omega))⟩
                    · rw [show (⟨#[40]⟩ : ByteArray) = ⟨[40].toArray⟩ from rfl, cat_list, cat_list, List.append_assoc]; rfl
                    · rw [HSH.out, HPQ.out, HJ.out, List.take_zero, showsL, List.nil_append, pre_first, show pre [] = [] from rfl, List.append_nil]
                    · have := HST.out; simp; omega
                  case measure => simp [intOf]; omega
                · have hq0 : ((j : Int) == 0) = false := by rw [beq_eq_false_iff_ne]; omega
                  have hne : (showsL (xs.take j)).isEmpty = false := by
                    rw [showsL_empty, List.isEmpty_eq_false_iff]
                    intro h
                    have := congrArg List.length h
                    rw [List.length_take, List.length_nil] at this; omega
                  have HN := Lib.hid hne
                  clear hne
                  go_wp2_with fail
                  refine C.out.mono ?_; rintro e w1 ⟨rfl, hql, hb1⟩
                  go_wp2_with fail
                  go_roundw
                  case rel =>
                    refine ⟨j + 1, p ++ [44, 32] ++ q, by omega, by go_num, ?_, Lib.hid ?_, ?_, (hb.alloc hbs _).trans (hb1.mono (by simp; omega))⟩
                    · rw [show (⟨#[44, 32]⟩ : ByteArray) = ⟨[44, 32].toArray⟩ from rfl, cat_list, cat_list]
                    · rw [HSH.out, HPQ.out, pre_more q HN.out]; simp [List.append_assoc]
                    · have := HST.out; simp; omega
                  case measure => simp [intOf]; omega
              · obtain rfl : j = xs.length := by omega
                rw [List.take_length] at hpl HPQ
                have p3 : wr.cell? ⟨w.heap.size, 3, none⟩ = some (.slice (some ⟨b, off, none⟩) xs.length c) := ((box_new w (.int .i64 5) (.string s) (.int .i64 n) (.slice (some ⟨b, off, none⟩) xs.length c) 100).below hb (by omega)).c3
                have hpb : p.length ≤ 100000000 := by omega
                have HF := Lib.hid (show showT (.mk 5 s n xs) = p ++ [41] from by
                  rw [HR.out, ← HPQ.out]; unfold close
                  rw [if_neg (by rw [showsL_empty]; simpa using HNE.out)])
                have HW := Lib.hid (show (showT (.mk 5 s n xs)).length + 4 ≤ wtT (.mk 5 s n xs) from by rw [HF.out, HWT.out]; simp; omega)
                go_wp2
                go_ret
                exact ⟨by rw [HF.out, ← cat_list]; rfl, HW.out, hwr⟩
          · have hr := Lib.hid (show showT (.mk k s n xs) = [63] from by rw [hE, if_pos h5])
            have HW := Lib.hid (show (showT (.mk k s n xs)).length + 4 ≤ wtT (.mk k s n xs) from by rw [hr.out, hW]; simp; omega)
            have q5 : (k != 5) = true := by rw [bne_iff_ne]; exact h5
            clear hE hW hss h12 h3 h4 h5
            go_enter Tryz.func42, Tryz.ntmps42
            go_wp2_with fail
            go_ret
            exact ⟨by rw [hr.out]; rfl, HW.out, hbb⟩
end Go.Proofs.YtldgbdmiebipnaaGreatDoor

namespace Go.Proofs.YtldgbdmiebipnaaGreatDoor
open Go.RowKit

/-- How many words, and how many terms, letters ask for. -/
def wN (l : List UInt8) : Nat := l.countP fun c => c == 119 || c == 110
def tN (l : List UInt8) : Nat := l.countP fun c => c == 116
/-- An item has what its shape asks for. -/
structure FitI (x : It) : Prop where
  words : wN (shapesOf x.key) ≤ x.words.length
  trees : tN (shapesOf x.key) ≤ x.trees.length
theorem wN_take {l : List UInt8} {m : Nat} (h : m < l.length) : wN (l.take (m + 1)) = wN (l.take m) + if l[m] = 119 ∨ l[m] = 110 then 1 else 0 := by
  unfold wN; rw [List.take_succ_eq_append_getElem h, List.countP_append, List.countP_singleton]; simp
theorem tN_take {l : List UInt8} {m : Nat} (h : m < l.length) : tN (l.take (m + 1)) = tN (l.take m) + if l[m] = 116 then 1 else 0 := by
  unfold tN; rw [List.take_succ_eq_append_getElem h, List.countP_append, List.countP_singleton]; simp
theorem wN_le (l : List UInt8) (m : Nat) : wN (l.take m) ≤ wN l := by unfold wN; exact List.Sublist.countP_le (List.take_sublist _ _)
theorem tN_le (l : List UInt8) (m : Nat) : tN (l.take m) ≤ tN l := by unfold tN; exact List.Sublist.countP_le (List.take_sublist _ _)
theorem shapes_in (k : ByteArray) : shapesOf k ∈ [[119, 47, 110, 46], [119, 46], [116, 61, 116, 46], [119, 58, 108, 46], [119, 116, 46], [119, 119, 46], [116, 46]] := by
  unfold shapesOf
  repeat' split
  all_goals simp
/-- Where a row of terms stands, no term stood before. -/
theorem shape_l (k : ByteArray) {m : Nat} (h : (shapesOf k)[m]? = some 108) : tN ((shapesOf k).take m) = 0 := by
  have hm := shapes_in k
  generalize shapesOf k = l at h hm
  have hlt := (List.getElem?_eq_some_iff.1 h).1
  simp only [List.mem_cons, List.not_mem_nil, or_false] at hm
  rcases hm with rfl | rfl | rfl | rfl | rfl | rfl | rfl
  all_goals
    simp only [List.length_cons, List.length_nil] at hlt
    rcases (show m = 0 ∨ m = 1 ∨ m = 2 ∨ m = 3 from by omega) with rfl | rfl | rfl | rfl
    all_goals (first | rfl | (exfalso; revert h; decide))
section
variable {sh : List UInt8} {ws ts : List Tr} {m i j : Nat}
theorem line_w (hm : m < sh.length) (hc : sh[m] = 119) (hi : i < ws.length) : lineR (sh.drop m) (ws.drop i) (ts.drop j) = 32 :: ws[i].text.data.toList ++ lineR (sh.drop (m + 1)) (ws.drop (i + 1)) (ts.drop j) := by
  rw [List.drop_eq_getElem_cons hm, hc, lineR, if_pos rfl, List.drop_eq_getElem_cons hi]; rfl
theorem line_n (hm : m < sh.length) (hc : sh[m] = 110) (hi : i < ws.length) : lineR (sh.drop m) (ws.drop i) (ts.drop j) = ws[i].text.data.toList ++ lineR (sh.drop (m + 1)) (ws.drop (i + 1)) (ts.drop j) := by
  rw [List.drop_eq_getElem_cons hm, hc, lineR, if_neg (by decide), if_pos rfl, List.drop_eq_getElem_cons hi]; rfl
theorem line_t (hm : m < sh.length) (hc : sh[m] = 116) (hj : j < ts.length) : lineR (sh.drop m) (ws.drop i) (ts.drop j) = 32 :: shR ts[j] ++ lineR (sh.drop (m + 1)) (ws.drop i) (ts.drop (j + 1)) := by
  rw [List.drop_eq_getElem_cons hm, hc, lineR, if_neg (by decide), if_neg (by decide), if_pos rfl, List.drop_eq_getElem_cons hj]; rfl
theorem line_l (hm : m < sh.length) (hc : sh[m] = 108) : lineR (sh.drop m) (ws.drop i) (ts.drop j) = sepS [32] [59] (ts.drop j) ++ lineR (sh.drop (m + 1)) (ws.drop i) (ts.drop j) := by
  rw [List.drop_eq_getElem_cons hm, hc, lineR, if_neg (by decide), if_neg (by decide), if_neg (by decide), if_pos rfl]
theorem line_e (hm : m < sh.length) (hc : sh[m] = 61) : lineR (sh.drop m) (ws.drop i) (ts.drop j) = [32, 61] ++ lineR (sh.drop (m + 1)) (ws.drop i) (ts.drop j) := by
  rw [List.drop_eq_getElem_cons hm, hc, lineR, if_neg (by decide), if_neg (by decide), if_neg (by decide), if_neg (by decide), if_pos rfl]
theorem line_o (hm : m < sh.length) (h1 : sh[m] ≠ 119) (h2 : sh[m] ≠ 110) (h3 : sh[m] ≠ 116) (h4 : sh[m] ≠ 108) (h5 : sh[m] ≠ 61) : lineR (sh.drop m) (ws.drop i) (ts.drop j) = sh[m] :: lineR (sh.drop (m + 1)) (ws.drop i) (ts.drop j) := by
  rw [List.drop_eq_getElem_cons hm, lineR, if_neg h1, if_neg h2, if_neg h3, if_neg h4, if_neg h5]
end
theorem sepS_nil (g sg : List UInt8) : sepS g sg [] = [] := by rw [sepS]
theorem sepS_one (g sg : List UInt8) (t : Tr) : sepS g sg [t] = g ++ shR t := by rw [sepS]
theorem sepS_snoc (sg : List UInt8) (t : Tr) : ∀ (l : List Tr) (g : List UInt8), l ≠ [] → sepS g sg (l ++ [t]) = sepS g sg l ++ (sg ++ (32 :: shR t))
  | [], g, h => absurd rfl h
  | [u], g, _ => by
    show sepS g sg (u :: [t]) = _
    rw [sepS_cons g sg u (by simp), sepS_one, sepS_one]; simp [List.append_assoc]
  | u :: v :: r, g, _ => by
    show sepS g sg (u :: (v :: r ++ [t])) = _
    rw [sepS_cons g sg u (by simp), sepS_snoc sg t (v :: r) [32] (by simp), sepS_cons g sg u (by simp)]; simp [List.append_assoc]
theorem sepS_grows (g sg : List UInt8) : ∀ (l' l : List Tr), (sepS g sg l).length ≤ (sepS g sg (l ++ l')).length
  | [], l => by rw [List.append_nil]; exact Nat.le_refl _
  | t :: r, l => by
    have h := sepS_grows g sg r (l ++ [t])
    rw [List.append_assoc] at h
    refine Nat.le_trans ?_ h
    by_cases hl : l = []
    · rw [hl, sepS_nil]; exact Nat.zero_le _
    · rw [sepS_snoc sg t l g hl, List.length_append]; omega
theorem sepS_take_le (g sg : List UInt8) (l : List Tr) (q : Nat) : (sepS g sg (l.take q)).length ≤ (sepS g sg l).length := by
  have h := sepS_grows g sg (l.drop q) (l.take q)
  rwa [List.take_append_drop] at h
theorem sepS_next {l : List Tr} {q : Nat} (h : q < l.length) : sepS [32] [59] (l.take (q + 1)) = sepS [32] [59] (l.take q) ++ ((if q = 0 then [] else [59]) ++ (32 :: shR l[q])) := by
  rw [List.take_succ_eq_append_getElem h]
  by_cases h0 : q = 0
  · subst h0
    rw [List.take_zero, List.nil_append, sepS_one, sepS_nil, if_pos rfl]; rfl
  · rw [if_neg h0]
    refine sepS_snoc [59] l[q] (l.take q) [32] fun e => ?_
    have := congrArg List.length e
    rw [List.length_take, List.length_nil] at this; omega
end Go.Proofs.YtldgbdmiebipnaaGreatDoor

namespace Go.Proofs.YtldgbdmiebipnaaGreatDoor
open Go.RowKit

/-- A tree is made a term, and that is shown. -/
theorem plain_show (x : Rv) (W : World) (hx : x.ok W) (hp : x.t.parts ≤ 1000000) (hw : wtT (plainR x.t) ≤ 100000000) :
    Calls Tryz.prog 43 #[.agg #[.int .i64 x.t.kind, .string x.t.text, .int .i64 x.t.n, .int .i64 x.t.spot, .slice x.a x.t.args.length x.c]] W fun e w' => ∃ (k : Int) (s : ByteArray) (n : Int) (a : Option Addr) (l c : Nat), e = .returned (.agg #[.int .i64 k, .string s, .int .i64 n, .slice a l c]) ∧ Below W.heap.size W w' ∧
      Hid (Calls Tryz.prog 42 #[.agg #[.int .i64 k, .string s, .int .i64 n, .slice a l c]] w' fun e w'' => e = .returned (.string ⟨(shR x.t).toArray⟩) ∧ Below w'.heap.size w' w'') := by
  refine (rplain_tm W 1000000 x W hp (by omega) hx (Reads.refl W)).mono ?_
  rintro e w' ⟨z, rfl, hz, hf, hb⟩
  refine ⟨z.t.kind, z.t.name, z.t.n, z.a, z.t.args.length, z.c, rfl, hb, Lib.hid ?_⟩
  refine (show_tm z.t.parts z w' (Nat.le_refl _) (by rw [hz]; exact hw) (hf.ok hb)).mono ?_
  rintro e w'' ⟨rfl, _, hb2⟩
  exact ⟨by rw [hz]; rfl, hb2⟩
theorem conv_letter (w : World) (c : UInt8) :
    (convert 59 9 (.slice (some ⟨w.heap.size, 0, none⟩) 1 1)).run Tryz.prog (w.alloc (.cells #[.int .u8 (c.toNat : Int)] 5)) = .ok (.string ⟨#[c]⟩) (w.alloc (.cells #[.int .u8 (c.toNat : Int)] 5)) :=
  run_convert_bytes_back (P := Tryz.prog) (w.alloc (.cells #[.int .u8 (c.toNat : Int)] 5)) 59 9 5 ⟨w.heap.size, 0, none⟩ 1 [c] Tryz.underlying59 Tryz.underlying5 Tryz.underlying9
    (fun j hj => by
      have : j = 0 := by simp at hj; omega
      subst this
      exact World.cell?_alloc_mark w #[.int .u8 (c.toNat : Int)] 5 (0, 0) 0)
theorem letter_is {c : UInt8} {k : Nat} (h : c = UInt8.ofNat k) (hk : k < 256 := by decide) : ((c.toNat : Int) == (k : Int)) = true := by
  subst h; simp; omega
theorem letter_not {c : UInt8} {k : Nat} (h : c ≠ UInt8.ofNat k) (_hk : k < 256 := by decide) : ((c.toNat : Int) == (k : Int)) = false := by
  rw [beq_eq_false_iff_ne]
  intro e
  apply h
  have : c.toNat = k := by omega
  rw [← this]; simp

theorem cat_cons' (s : ByteArray) : (⟨#[32]⟩ : ByteArray) ++ s = ⟨(32 :: s.data.toList).toArray⟩ := by
  have h := cat_cons 32 s.data.toList
  rw [bytes_self] at h; exact h

set_option maxRecDepth 100000 in
set_option maxHeartbeats 4000000 in
theorem rline_any (y : Iv) (w : World) (hok : y.ok w) (hfit : FitI y.it) (hlen : (lineS y.it).length ≤ 100000000) (hts : ∀ t ∈ y.it.trees, t.parts ≤ 1000000 ∧ wtT (plainR t) ≤ 100000000) :
    Calls Tryz.prog 21 #[.agg #[.string y.it.key, .int .i64 y.it.spot, y.vw, y.vt]] w fun e w' => e = .returned (.string ⟨(lineS y.it ++ [10]).toArray⟩) ∧ Below w.heap.size w w' := by
  obtain ⟨⟨key, spot, ws, ts⟩, vw, vt⟩ := y
  obtain ⟨⟨wa, wc, hvw, ⟨hwl, hwc⟩, hwo⟩, ⟨ta, tc, hvt, ⟨htl, htc⟩, hto⟩, hkl⟩ := hok
  obtain ⟨hf1, hf2⟩ := hfit
  simp only at hvw hvt hwl hwo htl hto hkl hwc htc hf1 hf2 hts hlen ⊢
  subst hvw hvt
  have hsl : (shapesOf key).length ≤ 4 := by
    have h := shapes_in key
    generalize shapesOf key = l at h
    simp only [List.mem_cons, List.not_mem_nil, or_false] at h
    rcases h with rfl | rfl | rfl | rfl | rfl | rfl | rfl <;> decide
  have hsd : (shapeB key).data.toList = shapesOf key := by unfold shapeB; simp
  have hss : (shapeB key).size = (shapesOf key).length := by unfold shapeB; simp [ByteArray.size]
  have SHP := Lib.hid (fun (W : World) => rshapes_any key W)
  obtain ⟨sb, hsb⟩ : ∃ sb, shapeB key = sb := ⟨_, rfl⟩
  rw [hsb] at hsd hss SHP
  have hss4 : sb.size ≤ 4 := by omega
  have HL0 : lineS ⟨key, spot, ws, ts⟩ = key.data.toList ++ lineR (shapesOf key) ws ts := rfl
  have HSL := Lib.hid (fun m h => shape_l key (m := m) h)
  rw [← hsd] at HL0 hf1 hf2 HSL
  have hdl : sb.data.toList.length = sb.size := by rw [Array.length_toList]; rfl
  obtain ⟨LS, hLS⟩ : ∃ l, lineS ⟨key, spot, ws, ts⟩ = l := ⟨_, rfl⟩
  rw [hLS] at HL0 hlen ⊢
  have HWO := Lib.hid hwo
  have HTO := Lib.hid hto
  have HTS := Lib.hid hts
  have HDL := Lib.hid hdl
  have HL00 := Lib.hid HL0
  have hbb : Below w.heap.size w (w.alloc (.cells #[.string key, .int .i64 spot, .slice wa ws.length wc, .slice ta ts.length tc] 54)) := (Below.refl _ _).alloc (Nat.le_refl _) _
  have hbx := box_new w (.string key) (.int .i64 spot) (.slice wa ws.length wc) (.slice ta ts.length tc) 54
  obtain ⟨wz, hwz⟩ : ∃ wz, wz = (w.alloc (.cells #[.string key, .int .i64 spot, .slice wa ws.length wc, .slice ta ts.length tc] 54)) := ⟨_, rfl⟩
  have hzs : wz.heap.size = w.heap.size + 1 := by rw [hwz]; simp
  rw [← hwz] at hbb hbx
  have HBZ := Lib.hid hbb
  have HBX := Lib.hid (fun (V : World) (h : Below wz.heap.size wz V) => hbx.below h (by omega))
  have HF1 := Lib.hid hf1
  have HF2 := Lib.hid hf2
  obtain ⟨p0, p1, p2, p3, _, _, _, _⟩ := HBX.out wz (Below.refl _ _)
  clear hwo hto hts hbb hbx hsd hsb hdl HL0 hLS hf1 hf2 hsl hss
  go_enter Tryz.func21, Tryz.ntmps21
  go_wp2_with fail
  rw [← hwz]
  clear hwz
  refine (SHP.out _).mono ?_; rintro e w4 ⟨rfl, rfl⟩
  go_wp2_with fail
  go_loopw [3, 4, 5, 7] (fun s iw it im wr => ∃ (m i j : Nat) (p : List UInt8), s = .string ⟨p.toArray⟩ ∧ iw = .int .i64 i ∧ it = .int .i64 j ∧ im = .int .i64 m ∧ m ≤ sb.size ∧ i = wN (sb.data.toList.take m) ∧ j = tN (sb.data.toList.take m) ∧ Hid (LS = p ++ lineR (sb.data.toList.drop m) (ws.drop i) (ts.drop j)) ∧ Below wz.heap.size wz wr) (fun _ _ _ im _ => sb.size - (intOf im).toNat)
  case atStart => exact ⟨0, 0, 0, key.data.toList, by rw [bytes_self], by go_num, by go_num, by go_num, Nat.zero_le _, rfl, rfl, Lib.hid HL00.out, Below.refl _ _⟩
  case round =>
    obtain ⟨m, i, j, p, rfl, rfl, rfl, rfl, hm, hi, hj, HP, hb⟩ := hrel
    have hpl : p.length ≤ 100000000 := by have h := congrArg List.length HP.out; rw [List.length_append] at h; omega
    have hb1 : Below w.heap.size w wr := HBZ.out.trans (hb.mono HBZ.out.size)
    have HB := Lib.hid hb
    have HB1 := Lib.hid hb1
    obtain ⟨p0, p1, p2, p3, _, _, _, _⟩ := HBX.out wr hb
    by_cases hml : m < sb.size
    · have hmc : (m : Int) < (sb.size : Int) := by omega
      have hm0 : (0 : Int) ≤ (m : Int) := by omega
      have hmd : m < sb.data.toList.length := by rw [HDL.out]; exact hml
      have hwn := wN_take hmd
      have htn := tN_take hmd
      have hwle := wN_le sb.data.toList (m + 1)
      have htle := tN_le sb.data.toList (m + 1)
      have hw1 := HF1.out
      have ht1 := HF2.out
      have HI := Lib.hid hi
      have HJ := Lib.hid hj
      obtain ⟨c, hc⟩ : ∃ c, sb[m]'hml = c := ⟨_, rfl⟩
      have hcg : sb.data.toList[m]'hmd = c := by rw [← hc, Array.getElem_toList]; rfl
      rw [hcg] at hwn htn
      have HCG := Lib.hid hcg
      have HMD := Lib.hid hmd
      have CONV := Lib.hid (fun (W : World) => conv_letter W c)
      have HSLm := Lib.hid (fun (h : c = 108) => HSL.out m (by rw [List.getElem?_eq_getElem hmd, hcg, h]))
      clear hcg
      by_cases h1 : c = 119
      · have q1 : ((c.toNat : Int) == 119) = true := letter_is (k := 119) h1
        rw [if_pos (.inl h1)] at hwn
        rw [if_neg (by rw [h1]; decide)] at htn
        have hil : i < ws.length := by omega
        have hii : (i : Int) < (ws.length : Int) := by omega
        have hi0 : (0 : Int) ≤ (i : Int) := by omega
        rcases HWO.out with h | ⟨b, o, rfl, hlt, hrow⟩
        · rw [h] at hil; cases hil
        obtain ⟨y, hyt, hyo, hya⟩ := trAt_rv (rowRAt_get hrow hil)
        obtain ⟨k0, k1, k2, k3, k4⟩ := hya.below hb1
        rw [hyt] at k1
        obtain ⟨tx, htx⟩ : ∃ x, ws[i].text = x := ⟨_, rfl⟩
        have HN := Lib.hid (show LS = (p ++ 32 :: tx.data.toList) ++ lineR (sb.data.toList.drop (m + 1)) (ws.drop (i + 1)) (ts.drop j) by rw [HP.out, line_w HMD.out (by rw [HCG.out, h1]) hil, htx]; simp [List.append_assoc])
        have hxs : tx.size ≤ 100000000 := by
          have h := congrArg List.length HN.out
          have h2 : tx.data.toList.length = tx.size := by rw [Array.length_toList]; rfl
          simp only [List.length_append, List.length_cons] at h; omega
        have HWN := Lib.hid (show i + 1 = wN (sb.data.toList.take (m + 1)) by omega)
        have HTN := Lib.hid (show j = tN (sb.data.toList.take (m + 1)) by omega)
        rw [htx] at k1
        clear h1 hyt hyo hya hrow hwn htn htx hwle htle hw1 ht1 hi hj k0 k2 k3 k4 hb hb1
        go_wp2_with fail
        go_roundw
        case rel => exact ⟨m + 1, i + 1, j, p ++ 32 :: tx.data.toList, by rw [cat_cons' tx, cat_list], by go_num, rfl, by go_num, by omega, HWN.out, HTN.out, HN, HB.out⟩
        case measure => simp [intOf]; omega
      have n1 : ((c.toNat : Int) == 119) = false := letter_not (k := 119) h1
      by_cases h2 : c = 110
      · have q1 : ((c.toNat : Int) == 110) = true := letter_is (k := 110) h2
        rw [if_pos (.inr h2)] at hwn
        rw [if_neg (by rw [h2]; decide)] at htn
        have hil : i < ws.length := by omega
        have hii : (i : Int) < (ws.length : Int) := by omega
        have hi0 : (0 : Int) ≤ (i : Int) := by omega
        rcases HWO.out with h | ⟨b, o, rfl, hlt, hrow⟩
        · rw [h] at hil; cases hil
        obtain ⟨y, hyt, hyo, hya⟩ := trAt_rv (rowRAt_get hrow hil)
        obtain ⟨k0, k1, k2, k3, k4⟩ := hya.below hb1
        rw [hyt] at k1
        obtain ⟨tx, htx⟩ : ∃ x, ws[i].text = x := ⟨_, rfl⟩
        have HN := Lib.hid (show LS = (p ++ tx.data.toList) ++ lineR (sb.data.toList.drop (m + 1)) (ws.drop (i + 1)) (ts.drop j) by rw [HP.out, line_n HMD.out (by rw [HCG.out, h2]) hil, htx]; simp [List.append_assoc])
        have hxs : tx.size ≤ 100000000 := by
          have h := congrArg List.length HN.out
          have h2 : tx.data.toList.length = tx.size := by rw [Array.length_toList]; rfl
          simp only [List.length_append] at h; omega
        have HWN := Lib.hid (show i + 1 = wN (sb.data.toList.take (m + 1)) by omega)
        have HTN := Lib.hid (show j = tN (sb.data.toList.take (m + 1)) by omega)
        rw [htx] at k1
        clear h1 h2 hyt hyo hya hrow hwn htn htx hwle htle hw1 ht1 hi hj k0 k2 k3 k4 hb hb1
        go_wp2_with fail
        go_roundw
        case rel => exact ⟨m + 1, i + 1, j, p ++ tx.data.toList, by rw [← cat_list, bytes_self], by go_num, rfl, by go_num, by omega, HWN.out, HTN.out, HN, HB.out⟩
        case measure => simp [intOf]; omega
      have n2 : ((c.toNat : Int) == 110) = false := letter_not (k := 110) h2
      rw [if_neg (by rintro (h | h); exact h1 h; exact h2 h)] at hwn
      have HWN := Lib.hid (show i = wN (sb.data.toList.take (m + 1)) by omega)
      by_cases h3 : c = 116
      · have q1 : ((c.toNat : Int) == 116) = true := letter_is (k := 116) h3
        rw [if_pos h3] at htn
        have hjl : j < ts.length := by omega
        have hjj : (j : Int) < (ts.length : Int) := by omega
        have hj0 : (0 : Int) ≤ (j : Int) := by omega
        rcases HTO.out with h | ⟨b, o, rfl, hlt, hrow⟩
        · rw [h] at hjl; cases hjl
        obtain ⟨y, hyt, hyo, hya⟩ := trAt_rv (rowRAt_get hrow hjl)
        obtain ⟨k0, k1, k2, k3, k4⟩ := hya.below hb1
        have hsm := HTS.out ts[j] (List.getElem_mem hjl)
        have HC := plain_show y wr (hyo.below hb1) (by rw [hyt]; exact hsm.1) (by rw [hyt]; exact hsm.2)
        obtain ⟨q, hq⟩ : ∃ q, shR y.t = q := ⟨_, rfl⟩
        have HN := Lib.hid (show LS = (p ++ 32 :: q) ++ lineR (sb.data.toList.drop (m + 1)) (ws.drop i) (ts.drop (j + 1)) by rw [HP.out, line_t HMD.out (by rw [HCG.out, h3]) hjl, ← hyt, hq]; simp [List.append_assoc])
        have hxs : q.length ≤ 100000000 := by
          have h := congrArg List.length HN.out
          simp only [List.length_append, List.length_cons] at h; omega
        rw [hq] at HC
        replace HC := Lib.hid HC
        have HTN := Lib.hid (show j + 1 = tN (sb.data.toList.take (m + 1)) by omega)
        clear h1 h2 h3 hyt hyo hya hrow hwn htn hq hwle htle hw1 ht1 hi hj hb hb1 hsm
        go_wp2_with fail
        refine HC.out.mono ?_; rintro e w5 ⟨zk, zs, zn, za, zl, zc, rfl, hb5, HS⟩
        have HB5 := Lib.hid hb5
        clear hb5 k0 k1 k2 k3 k4 p0 p1 p2 p3
        go_wp2_with fail
        refine HS.out.mono ?_; rintro e w6 ⟨rfl, hb6⟩
        have HB6 := Lib.hid hb6
        clear hb6
        go_wp2_with fail
        go_roundw
        case rel => exact ⟨m + 1, i, j + 1, p ++ 32 :: q, by rw [cat_cons, cat_list], rfl, by go_num, by go_num, by omega, HWN.out, HTN.out, HN, below_next (below_next HB.out HB5.out) HB6.out⟩
        case measure => simp [intOf]; omega
      have n3 : ((c.toNat : Int) == 116) = false := letter_not (k := 116) h3
      rw [if_neg h3] at htn
      have HTN := Lib.hid (show j = tN (sb.data.toList.take (m + 1)) by omega)
      by_cases h4 : c = 108
      · have q1 : ((c.toNat : Int) == 108) = true := letter_is (k := 108) h4
        have hj0 : j = 0 := by rw [HJ.out]; exact HSLm.out h4
        have HN := Lib.hid (show LS = (p ++ sepS [32] [59] ts) ++ lineR (sb.data.toList.drop (m + 1)) (ws.drop i) (ts.drop j) by rw [HP.out, line_l HMD.out (by rw [HCG.out, h4]), hj0, List.drop_zero]; simp [List.append_assoc])
        have hsp : p.length + (sepS [32] [59] ts).length ≤ 100000000 := by
          have h := congrArg List.length HN.out
          simp only [List.length_append] at h; omega
        clear h1 h2 h3 h4 hwn htn hwle htle hw1 ht1 hi hj hb hb1 hj0
        go_wp2_with fail
        go_loopw [3, 69] (fun s k wl => ∃ (q : Nat) (p2 : List UInt8), s = .string ⟨p2.toArray⟩ ∧ k = .int .i64 q ∧ q ≤ ts.length ∧ Hid (p2 = p ++ sepS [32] [59] (ts.take q)) ∧ Below wz.heap.size wz wl) (fun _ k _ => ts.length - (intOf k).toNat)
        case atStart => exact ⟨0, p, rfl, rfl, Nat.zero_le _, Lib.hid (by rw [List.take_zero, sepS_nil, List.append_nil]), HB.out⟩
        case round =>
          obtain ⟨q, p2, rfl, rfl, hq, HP2, hbl⟩ := hrel
          have hsq := sepS_take_le [32] [59] ts q
          have hp2l : p2.length ≤ 100000000 := by rw [HP2.out, List.length_append]; omega
          have HBL := Lib.hid hbl
          have hb1l : Below w.heap.size w wr := HBZ.out.trans (hbl.mono HBZ.out.size)
          by_cases hql : q < ts.length
          · have hqq : (q : Int) < (ts.length : Int) := by omega
            have hq0 : (0 : Int) ≤ (q : Int) := by omega
            rcases HTO.out with h | ⟨b, o, rfl, hlt, hrow⟩
            · rw [h] at hql; cases hql
            obtain ⟨y, hyt, hyo, hya⟩ := trAt_rv (rowRAt_get hrow hql)
            obtain ⟨k0, k1, k2, k3, k4⟩ := hya.below hb1l
            have hsm := HTS.out ts[q] (List.getElem_mem hql)
            have hba : Below wr.heap.size wr (wr.alloc (.cells #[.int .i64 y.t.kind, .string y.t.text, .int .i64 y.t.n, .int .i64 y.t.spot, .slice y.a y.t.args.length y.c] 87)) := (Below.refl _ _).alloc (Nat.le_refl _) _
            have HC := plain_show y (wr.alloc (.cells #[.int .i64 y.t.kind, .string y.t.text, .int .i64 y.t.n, .int .i64 y.t.spot, .slice y.a y.t.args.length y.c] 87)) ((hyo.below hb1l).below hba) (by rw [hyt]; exact hsm.1) (by rw [hyt]; exact hsm.2)
            obtain ⟨z, hz⟩ : ∃ z, shR y.t = z := ⟨_, rfl⟩
            have hnx := sepS_next hql
            rw [← hyt, hz] at hnx
            have hsq2 := sepS_take_le [32] [59] ts (q + 1)
            have hzl : z.length ≤ 100000000 := by
              have h := congrArg List.length hnx
              simp only [List.length_append, List.length_cons] at h; omega
            rw [hz] at HC
            replace HC := Lib.hid HC
            have HBA := Lib.hid hba
            have HNX := Lib.hid hnx
            clear hyt hyo hya hrow hz hnx hsm hb1l hba hsq hsq2
            by_cases hq1 : q = 0
            · have hqg : ¬ ((0 : Int) < (q : Int)) := by omega
              have HN1 := Lib.hid (show p2 ++ 32 :: z = p ++ sepS [32] [59] (ts.take (q + 1)) by rw [HNX.out, HP2.out, if_pos hq1]; simp [List.append_assoc])
              clear hq1
              go_wp2_with fail
              refine HC.out.mono ?_; rintro e w5 ⟨zk, zs, zn, za, zl, zc, rfl, hb5, HS⟩
              have HB5 := Lib.hid hb5
              clear hb5 k0 k1 k2 k3 k4
              go_wp2_with fail
              refine HS.out.mono ?_; rintro e w6 ⟨rfl, hb6⟩
              have HB6 := Lib.hid hb6
              clear hb6
              go_wp2_with fail
              go_roundw
              case rel => exact ⟨q + 1, p2 ++ 32 :: z, by rw [cat_cons, cat_list], by go_num, by omega, HN1, below_next (below_next (below_next HBL.out HBA.out) HB5.out) HB6.out⟩
              case measure => simp [intOf]; omega
            · have hqg : (0 : Int) < (q : Int) := by omega
              have HN1 := Lib.hid (show (p2 ++ [59]) ++ 32 :: z = p ++ sepS [32] [59] (ts.take (q + 1)) by rw [HNX.out, HP2.out, if_neg hq1]; simp [List.append_assoc])
              clear hq1
              go_wp2_with fail
              refine HC.out.mono ?_; rintro e w5 ⟨zk, zs, zn, za, zl, zc, rfl, hb5, HS⟩
              have HB5 := Lib.hid hb5
              clear hb5 k0 k1 k2 k3 k4
              go_wp2_with fail
              refine HS.out.mono ?_; rintro e w6 ⟨rfl, hb6⟩
              have HB6 := Lib.hid hb6
              clear hb6
              go_wp2_with fail
              go_roundw
              case rel => exact ⟨q + 1, (p2 ++ [59]) ++ 32 :: z, by rw [cat_cons, ← cat_list, ← cat_list], by go_num, by omega, HN1, below_next (below_next (below_next HBL.out HBA.out) HB5.out) HB6.out⟩
              case measure => simp [intOf]; omega
          · have hqe : q = ts.length := by omega
            have hqn : ¬ ((q : Int) < (ts.length : Int)) := by omega
            have HN2 := Lib.hid (show p2 = p ++ sepS [32] [59] ts by rw [HP2.out, hqe, List.take_length])
            clear hqe
            go_wp2_with fail
            go_roundw
            case rel => exact ⟨m + 1, i, j, p2, rfl, rfl, rfl, by go_num, by omega, HWN.out, HTN.out, Lib.hid (by rw [HN2.out]; exact HN.out), HBL.out⟩
            case measure => simp [intOf]; omega
      have n4 : ((c.toNat : Int) == 108) = false := letter_not (k := 108) h4
      by_cases h5 : c = 61
      · have q1 : ((c.toNat : Int) == 61) = true := letter_is (k := 61) h5
        have HN := Lib.hid (show LS = (p ++ [32, 61]) ++ lineR (sb.data.toList.drop (m + 1)) (ws.drop i) (ts.drop j) by rw [HP.out, line_e HMD.out (by rw [HCG.out, h5])]; simp [List.append_assoc])
        clear h1 h2 h3 h4 h5 hwn htn hwle htle hw1 ht1 hi hj hb hb1
        go_wp2_with fail
        go_roundw
        case rel => exact ⟨m + 1, i, j, p ++ [32, 61], by rw [← cat_list], rfl, rfl, by go_num, by omega, HWN.out, HTN.out, HN, HB.out⟩
        case measure => simp [intOf]; omega
      have n5 : ((c.toNat : Int) == 61) = false := letter_not (k := 61) h5
      have HN := Lib.hid (show LS = (p ++ [c]) ++ lineR (sb.data.toList.drop (m + 1)) (ws.drop i) (ts.drop j) by rw [HP.out, line_o HMD.out (by rw [HCG.out]; exact h1) (by rw [HCG.out]; exact h2) (by rw [HCG.out]; exact h3) (by rw [HCG.out]; exact h4) (by rw [HCG.out]; exact h5), HCG.out]; simp [List.append_assoc])
      have hcv := CONV.out wr
      clear h1 h2 h3 h4 h5 hwn htn hwle htle hw1 ht1 hi hj hb1
      go_wp2_with fail
      go_roundw
      case rel => exact ⟨m + 1, i, j, p ++ [c], by rw [← cat_list], rfl, rfl, by go_num, by omega, HWN.out, HTN.out, HN, HB.out.alloc HB.out.size _⟩
      case measure => simp [intOf]; omega
    · have hme : m = sb.size := by omega
      have hmc : ¬ ((m : Int) < (sb.size : Int)) := by omega
      have HF := Lib.hid (show LS = p from by
        have h := HP.out
        rw [List.drop_eq_nil_of_le (by rw [HDL.out]; omega), lineR, List.append_nil] at h; exact h)
      clear hme
      go_wp2_with fail
      go_ret
      exact ⟨by rw [HF.out, ← cat_list]; rfl, HB1.out⟩
end Go.Proofs.YtldgbdmiebipnaaGreatDoor

namespace Go.Proofs.YtldgbdmiebipnaaGreatDoor
open Go.RowKit

theorem showS_take {xs : List It} {q : Nat} (h : q < xs.length) : showS (xs.take (q + 1)) = showS (xs.take q) ++ (lineS xs[q] ++ [10]) := by
  unfold showS
  rw [List.take_succ_eq_append_getElem h, List.flatMap_append]; simp
theorem showS_part (xs : List It) (q : Nat) : (showS (xs.take q)).length ≤ (showS xs).length := by
  have h : showS xs = showS (xs.take q) ++ showS (xs.drop q) := by
    unfold showS
    rw [← List.flatMap_append, List.take_append_drop]
  rw [h, List.length_append]; omega

end Go.Proofs.YtldgbdmiebipnaaGreatDoor
