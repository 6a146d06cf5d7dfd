/-
  How any two places stand to each other, and the first place where a part stands: the law answers true.
-/
import Derived.Test.YtniikfihfeledaaPFind
import Derived.Test.YtniikfihfeledaaPOrdPl
import Derived.Test.YtniikfihfeledaaAwakePl
import Derived.Test.YtniikfihfeledaaSmallTm
import Derived.Test.YtniikfihfeledaaFindTm
namespace Go.Proofs.Ytniikfihfeledaa
open Go.RowKit

set_option maxRecDepth 100000 in
set_option maxHeartbeats 4000000 in
theorem lawOrders4_any (v : Value) (ns : List Int) (v' : Value) (ms : List Int) (x z : Tv) (w : World) (hv : Nums w v ns) (hv' : Nums w v' ms) (hx : x.ok w) (hz : z.ok w) :
    Calls Try.prog 7 #[v, v', x.val, z.val] w fun e w' => e = .returned (.bool true) ∧ Below w.heap.size w w' := by
  have AW := Lib.hid (fun W => awake_pl W)
  have SX := Lib.hid (fun (W : World) (h : Below w.heap.size w W) => small_tm x W (hx.below h))
  have SZ := Lib.hid (fun (W : World) (h : Below w.heap.size w W) => small_tm z W (hz.below h))
  obtain ⟨bp, hbp⟩ : ∃ bp, decide (ns <+: ms) = bp := ⟨_, rfl⟩
  obtain ⟨bq, hbq⟩ : ∃ bq, decide (ms <+: ns) = bq := ⟨_, rfl⟩
  obtain ⟨d, hd⟩ : ∃ d, cmpP ns ms = d := ⟨_, rfl⟩
  obtain ⟨fo, hfo⟩ : ∃ fo, findT x.t z.t = fo := ⟨_, rfl⟩
  have RB := Lib.hid (fun (W : World) (h : Below w.heap.size w W) => (below_any v v' ns ms W (hv.below h) (hv'.below h)).mono (fun e w' hh => (show e = .returned (.bool bp) ∧ Below W.heap.size W w' from by obtain ⟨rfl, k, rfl⟩ := hh; exact ⟨by rw [hbp], below_drewN (Below.refl _ _) k⟩)))
  have RC := Lib.hid (fun (W : World) (h : Below w.heap.size w W) => (below_any v' v ms ns W (hv'.below h) (hv.below h)).mono (fun e w' hh => (show e = .returned (.bool bq) ∧ Below W.heap.size W w' from by obtain ⟨rfl, k, rfl⟩ := hh; exact ⟨by rw [hbq], below_drewN (Below.refl _ _) k⟩)))
  have PB := Lib.hid (fun (W : World) (h : Below w.heap.size w W) => (pbelow_any v v' ns ms W (hv.below h) (hv'.below h)).mono (fun e w' hh => (show e = .returned (.bool bp) ∧ Below W.heap.size W w' from by obtain ⟨rfl, k, rfl⟩ := hh; exact ⟨by rw [hbp], below_drewN (Below.refl _ _) k⟩)))
  have PA := Lib.hid (fun (W : World) (h : Below w.heap.size w W) => (papart_any v v' ns ms W (hv.below h) (hv'.below h)).mono (fun e w' hh => (show e = .returned (.bool (!bp && !bq)) ∧ Below W.heap.size W w' from by obtain ⟨rfl, k, rfl⟩ := hh; exact ⟨by rw [hbp, hbq], below_drewN (Below.refl _ _) k⟩)))
  have PC := Lib.hid (fun (W : World) (h : Below w.heap.size w W) => (plcompare_any v v' ns ms W (hv.below h) (hv'.below h)).mono (fun e w' hh => (show e = .returned (.int .i64 d) ∧ Below W.heap.size W w' from by obtain ⟨rfl, rfl⟩ := hh; exact ⟨by rw [hd], Below.refl _ _⟩)))
  have RD := Lib.hid (fun (W : World) (h : Below w.heap.size w W) => (pcompare_any v v' ns ms W (hv.below h) (hv'.below h)).mono (fun e w' hh => (show e = .returned (.int .i64 d) ∧ Below W.heap.size W w' from by obtain ⟨rfl, k, rfl⟩ := hh; exact ⟨by rw [hd], below_drewN (Below.refl _ _) k⟩)))
  have PF := Lib.hid (fun (W : World) (h : Below w.heap.size w W) (hp : x.t.parts ≤ 100000) (hq : z.t.parts ≤ 100000) => (pfind_tm x z W (hx.below h) (hz.below h) hp hq).mono (fun e w' hh => (show ∃ u, e = .returned (.tuple #[u, .bool fo.isSome]) ∧ Nums w' u (fo.getD []) ∧ Below W.heap.size W w' from by rw [hfo] at hh; exact hh)))
  have RF := Lib.hid (fun (W : World) (h : Below w.heap.size w W) (hp : x.t.parts ≤ 100000) => (rfind_tm x z W (hx.below h) (hz.below h) hp).mono (fun e w' hh => (show ∃ u, e = .returned (.tuple #[u, .bool fo.isSome]) ∧ Nums w' u (fo.getD []) ∧ Below W.heap.size W w' from by rw [hfo] at hh; exact hh)))
  have IA := Lib.hid (fun (u u' : Value) (l : List Int) (W : World) (h1 : Nums W u l) (h2 : Nums W u' l) => (ints_any u u' l l W h1 h2).mono (fun e w' hh => (show e = .returned (.bool true) ∧ Below W.heap.size W w' from by obtain ⟨rfl, k, rfl⟩ := hh; exact ⟨by rw [decide_eq_true rfl], below_drewN (Below.refl _ _) k⟩)))
  have hdd : (d != d) = false := by simp
  obtain ⟨bb, hbb⟩ : ∃ bb, fo.isSome = bb := ⟨_, rfl⟩
  rw [hbb] at PF RF
  have hb2 : (bb == bb) = true := by cases bb <;> rfl
  clear hx hz hbp hbq hd hfo hbb
  obtain ⟨a, c, rfl, _, _, _, _⟩ := hv
  obtain ⟨a', c', rfl, _, _, _, _⟩ := hv'
  obtain ⟨t, ax, cx⟩ := x
  obtain ⟨u, az, cz⟩ := z
  have hz1 : (w.alloc (.cells #[.int .i64 t.kind, .string t.name, .int .i64 t.n, .slice ax t.args.length cx] 24)).heap.size = w.heap.size + 1 := by simp
  have bX := (box_new w (.int .i64 t.kind) (.string t.name) (.int .i64 t.n) (.slice ax t.args.length cx) 24).below ((Below.refl _ _).alloc (Nat.le_refl _) (.cells #[.int .i64 u.kind, .string u.name, .int .i64 u.n, .slice az u.args.length cz] 24)) (by rw [hz1]; omega)
  have bZ := box_new (w.alloc (.cells #[.int .i64 t.kind, .string t.name, .int .i64 t.n, .slice ax t.args.length cx] 24)) (.int .i64 u.kind) (.string u.name) (.int .i64 u.n) (.slice az u.args.length cz) 24
  rw [hz1] at bZ
  have hwb : Below w.heap.size w ((w.alloc (.cells #[.int .i64 t.kind, .string t.name, .int .i64 t.n, .slice ax t.args.length cx] 24)).alloc (.cells #[.int .i64 u.kind, .string u.name, .int .i64 u.n, .slice az u.args.length cz] 24)) := ((Below.refl _ _).alloc (Nat.le_refl _) _).alloc (by rw [hz1]; omega) _
  obtain ⟨wb, hwbe⟩ : ∃ wb, wb = ((w.alloc (.cells #[.int .i64 t.kind, .string t.name, .int .i64 t.n, .slice ax t.args.length cx] 24)).alloc (.cells #[.int .i64 u.kind, .string u.name, .int .i64 u.n, .slice az u.args.length cz] 24)) := ⟨_, rfl⟩
  rw [← hwbe] at bX bZ hwb
  have BX := Lib.hid bX
  have BZ := Lib.hid bZ
  have HW := Lib.hid hwb
  clear bX bZ hwb hz1
  simp only [Tv.val] at *
  go_enter Try.func7, Try.ntmps7
  go_wp2_with fail
  rw [← hwbe]
  clear hwbe
  refine (AW.out _).mono ?_; rintro e w1 ⟨rfl, hb1⟩
  have hs1 : Below wb.heap.size wb w1 := hb1
  have BX_1 := Lib.hid (BX.out.below hs1 (lt_of_cell BX.out.c0))
  have BZ_1 := Lib.hid (BZ.out.below hs1 (lt_of_cell BZ.out.c0))
  have HW_1 := Lib.hid (below_next HW.out hs1)
  clear hs1 BX BZ HW
  clear hb1
  rcases Int.lt_or_le 100 (ns.length : Int) with hl | hl
  · have hd1 : decide ((100 : Int) < (ns.length : Int)) = true := decide_eq_true hl
    have HE := Lib.hid HW_1.out
    go_wp2_with fail
    go_ret
    exact ⟨rfl, HE.out⟩
  · have hd1 : decide ((100 : Int) < (ns.length : Int)) = false := decide_eq_false (by omega)
    rcases Int.lt_or_le 100 (ms.length : Int) with hm | hm
    · have hd2 : decide ((100 : Int) < (ms.length : Int)) = true := decide_eq_true hm
      have HE := Lib.hid HW_1.out
      go_wp2_with fail
      go_ret
      exact ⟨rfl, HE.out⟩
    · have hd2 : decide ((100 : Int) < (ms.length : Int)) = false := decide_eq_false (by omega)
      obtain ⟨BX0, BX1, BX2, BX3, _, _, _, _⟩ := BX_1.out
      go_wp2_with fail
      refine (SX.out _ HW_1.out).mono ?_; rintro e w2 ⟨rfl, hbw2⟩
      clear BX0 BX1 BX2 BX3
      have hs2 : Below w1.heap.size w1 w2 := hbw2
      have BX_2 := Lib.hid (BX_1.out.below hs2 (lt_of_cell BX_1.out.c0))
      have BZ_2 := Lib.hid (BZ_1.out.below hs2 (lt_of_cell BZ_1.out.c0))
      have HW_2 := Lib.hid (below_next HW_1.out hs2)
      clear hs2 BX_1 BZ_1 HW_1
      clear hbw2
      cases hst : smallB t with
      | false =>
        have HE := Lib.hid HW_2.out
        go_wp2_with fail
        go_ret
        exact ⟨rfl, HE.out⟩
      | true =>
        obtain ⟨BZ0, BZ1, BZ2, BZ3, _, _, _, _⟩ := BZ_2.out
        go_wp2_with fail
        refine (SZ.out _ HW_2.out).mono ?_; rintro e w3 ⟨rfl, hbw3⟩
        clear BZ0 BZ1 BZ2 BZ3
        have hs3 : Below w2.heap.size w2 w3 := hbw3
        have BX_3 := Lib.hid (BX_2.out.below hs3 (lt_of_cell BX_2.out.c0))
        have BZ_3 := Lib.hid (BZ_2.out.below hs3 (lt_of_cell BZ_2.out.c0))
        have HW_3 := Lib.hid (below_next HW_2.out hs3)
        clear hs3 BX_2 BZ_2 HW_2
        clear hbw3
        cases hsu : smallB u with
        | false =>
          have HE := Lib.hid HW_3.out
          go_wp2_with fail
          go_ret
          exact ⟨rfl, HE.out⟩
        | true =>
          have hp1 : t.parts ≤ 300 := small_parts hst
          have hp2 : u.parts ≤ 300 := small_parts hsu
          have hp5 : t.parts ≤ 100000 := by omega
          have hp6 : u.parts ≤ 100000 := by omega
          go_wp2_with fail
          refine (RB.out _ HW_3.out).mono ?_; rintro e w4 ⟨rfl, hbw4⟩
          have hs4 : Below w3.heap.size w3 w4 := hbw4
          have BX_4 := Lib.hid (BX_3.out.below hs4 (lt_of_cell BX_3.out.c0))
          have BZ_4 := Lib.hid (BZ_3.out.below hs4 (lt_of_cell BZ_3.out.c0))
          have HW_4 := Lib.hid (below_next HW_3.out hs4)
          clear hs4 BX_3 BZ_3 HW_3
          clear hbw4
          go_wp2_with fail
          refine (PB.out _ HW_4.out).mono ?_; rintro e w5 ⟨rfl, hbw5⟩
          have hs5 : Below w4.heap.size w4 w5 := hbw5
          have BX_5 := Lib.hid (BX_4.out.below hs5 (lt_of_cell BX_4.out.c0))
          have BZ_5 := Lib.hid (BZ_4.out.below hs5 (lt_of_cell BZ_4.out.c0))
          have HW_5 := Lib.hid (below_next HW_4.out hs5)
          clear hs5 BX_4 BZ_4 HW_4
          clear hbw5
          cases bp with
          | true =>
            go_wp2_with fail
            refine (PA.out _ HW_5.out).mono ?_; rintro e w6 ⟨rfl, hbw6⟩
            have hs6 : Below w5.heap.size w5 w6 := hbw6
            have BX_6 := Lib.hid (BX_5.out.below hs6 (lt_of_cell BX_5.out.c0))
            have BZ_6 := Lib.hid (BZ_5.out.below hs6 (lt_of_cell BZ_5.out.c0))
            have HW_6 := Lib.hid (below_next HW_5.out hs6)
            clear hs6 BX_5 BZ_5 HW_5
            clear hbw6
            go_wp2_with fail
            refine (PC.out _ HW_6.out).mono ?_; rintro e w8 ⟨rfl, hbw8⟩
            have hs7 : Below w6.heap.size w6 w8 := hbw8
            have BX_7 := Lib.hid (BX_6.out.below hs7 (lt_of_cell BX_6.out.c0))
            have BZ_7 := Lib.hid (BZ_6.out.below hs7 (lt_of_cell BZ_6.out.c0))
            have HW_7 := Lib.hid (below_next HW_6.out hs7)
            clear hs7 BX_6 BZ_6 HW_6
            clear hbw8
            go_wp2_with fail
            refine (RD.out _ HW_7.out).mono ?_; rintro e w9 ⟨rfl, hbw9⟩
            have hs8 : Below w8.heap.size w8 w9 := hbw9
            have BX_8 := Lib.hid (BX_7.out.below hs8 (lt_of_cell BX_7.out.c0))
            have BZ_8 := Lib.hid (BZ_7.out.below hs8 (lt_of_cell BZ_7.out.c0))
            have HW_8 := Lib.hid (below_next HW_7.out hs8)
            clear hs8 BX_7 BZ_7 HW_7
            clear hbw9
            obtain ⟨BX0, BX1, BX2, BX3, _, _, _, _⟩ := BX_8.out
            obtain ⟨BZ0, BZ1, BZ2, BZ3, _, _, _, _⟩ := BZ_8.out
            go_wp2_with fail
            refine (PF.out _ HW_8.out hp5 hp6).mono ?_; rintro e w10 ⟨u10, rfl, hn10, hb10⟩
            clear BX0 BX1 BX2 BX3 BZ0 BZ1 BZ2 BZ3
            have hs9 : Below w9.heap.size w9 w10 := hb10
            have BX_9 := Lib.hid (BX_8.out.below hs9 (lt_of_cell BX_8.out.c0))
            have BZ_9 := Lib.hid (BZ_8.out.below hs9 (lt_of_cell BZ_8.out.c0))
            have HW_9 := Lib.hid (below_next HW_8.out hs9)
            clear hs9 BX_8 BZ_8 HW_8
            have N10 := Lib.hid hn10
            clear hn10 hb10
            obtain ⟨BX0, BX1, BX2, BX3, _, _, _, _⟩ := BX_9.out
            obtain ⟨BZ0, BZ1, BZ2, BZ3, _, _, _, _⟩ := BZ_9.out
            go_wp2_with fail
            refine (RF.out _ HW_9.out hp5).mono ?_; rintro e w12 ⟨u12, rfl, hn12, hb12⟩
            clear BX0 BX1 BX2 BX3 BZ0 BZ1 BZ2 BZ3
            have hs10 : Below w10.heap.size w10 w12 := hb12
            have BX_10 := Lib.hid (BX_9.out.below hs10 (lt_of_cell BX_9.out.c0))
            have BZ_10 := Lib.hid (BZ_9.out.below hs10 (lt_of_cell BZ_9.out.c0))
            have N10_10 := Lib.hid (N10.out.below hs10)
            have HW_10 := Lib.hid (below_next HW_9.out hs10)
            clear hs10 BX_9 BZ_9 N10 HW_9
            have N12 := Lib.hid hn12
            clear hn12 hb12
            go_wp2_with fail
            refine (IA.out _ _ _ _ N10_10.out N12.out).mono ?_; rintro e w13 ⟨rfl, hbw13⟩
            have hs11 : Below w12.heap.size w12 w13 := hbw13
            have BX_11 := Lib.hid (BX_10.out.below hs11 (lt_of_cell BX_10.out.c0))
            have BZ_11 := Lib.hid (BZ_10.out.below hs11 (lt_of_cell BZ_10.out.c0))
            have N10_11 := Lib.hid (N10_10.out.below hs11)
            have HW_11 := Lib.hid (below_next HW_10.out hs11)
            clear hs11 BX_10 BZ_10 N10_10 HW_10
            clear hbw13
            have HE := Lib.hid HW_11.out
            go_wp2_with fail
            go_ret
            exact ⟨rfl, HE.out⟩
          | false =>
            cases bq with
            | true =>
              go_wp2_with fail
              refine (PA.out _ HW_5.out).mono ?_; rintro e w6 ⟨rfl, hbw6⟩
              have hs12 : Below w5.heap.size w5 w6 := hbw6
              have BX_12 := Lib.hid (BX_5.out.below hs12 (lt_of_cell BX_5.out.c0))
              have BZ_12 := Lib.hid (BZ_5.out.below hs12 (lt_of_cell BZ_5.out.c0))
              have HW_12 := Lib.hid (below_next HW_5.out hs12)
              clear hs12 BX_5 BZ_5 HW_5
              clear hbw6
              go_wp2_with fail
              refine (RC.out _ HW_12.out).mono ?_; rintro e w7 ⟨rfl, hbw7⟩
              have hs13 : Below w6.heap.size w6 w7 := hbw7
              have BX_13 := Lib.hid (BX_12.out.below hs13 (lt_of_cell BX_12.out.c0))
              have BZ_13 := Lib.hid (BZ_12.out.below hs13 (lt_of_cell BZ_12.out.c0))
              have HW_13 := Lib.hid (below_next HW_12.out hs13)
              clear hs13 BX_12 BZ_12 HW_12
              clear hbw7
              go_wp2_with fail
              refine (PC.out _ HW_13.out).mono ?_; rintro e w8 ⟨rfl, hbw8⟩
              have hs14 : Below w7.heap.size w7 w8 := hbw8
              have BX_14 := Lib.hid (BX_13.out.below hs14 (lt_of_cell BX_13.out.c0))
              have BZ_14 := Lib.hid (BZ_13.out.below hs14 (lt_of_cell BZ_13.out.c0))
              have HW_14 := Lib.hid (below_next HW_13.out hs14)
              clear hs14 BX_13 BZ_13 HW_13
              clear hbw8
              go_wp2_with fail
              refine (RD.out _ HW_14.out).mono ?_; rintro e w9 ⟨rfl, hbw9⟩
              have hs15 : Below w8.heap.size w8 w9 := hbw9
              have BX_15 := Lib.hid (BX_14.out.below hs15 (lt_of_cell BX_14.out.c0))
              have BZ_15 := Lib.hid (BZ_14.out.below hs15 (lt_of_cell BZ_14.out.c0))
              have HW_15 := Lib.hid (below_next HW_14.out hs15)
              clear hs15 BX_14 BZ_14 HW_14
              clear hbw9
              obtain ⟨BX0, BX1, BX2, BX3, _, _, _, _⟩ := BX_15.out
              obtain ⟨BZ0, BZ1, BZ2, BZ3, _, _, _, _⟩ := BZ_15.out
              go_wp2_with fail
              refine (PF.out _ HW_15.out hp5 hp6).mono ?_; rintro e w10 ⟨u10, rfl, hn10, hb10⟩
              clear BX0 BX1 BX2 BX3 BZ0 BZ1 BZ2 BZ3
              have hs16 : Below w9.heap.size w9 w10 := hb10
              have BX_16 := Lib.hid (BX_15.out.below hs16 (lt_of_cell BX_15.out.c0))
              have BZ_16 := Lib.hid (BZ_15.out.below hs16 (lt_of_cell BZ_15.out.c0))
              have HW_16 := Lib.hid (below_next HW_15.out hs16)
              clear hs16 BX_15 BZ_15 HW_15
              have N10 := Lib.hid hn10
              clear hn10 hb10
              obtain ⟨BX0, BX1, BX2, BX3, _, _, _, _⟩ := BX_16.out
              obtain ⟨BZ0, BZ1, BZ2, BZ3, _, _, _, _⟩ := BZ_16.out
              go_wp2_with fail
              refine (RF.out _ HW_16.out hp5).mono ?_; rintro e w12 ⟨u12, rfl, hn12, hb12⟩
              clear BX0 BX1 BX2 BX3 BZ0 BZ1 BZ2 BZ3
              have hs17 : Below w10.heap.size w10 w12 := hb12
              have BX_17 := Lib.hid (BX_16.out.below hs17 (lt_of_cell BX_16.out.c0))
              have BZ_17 := Lib.hid (BZ_16.out.below hs17 (lt_of_cell BZ_16.out.c0))
              have N10_17 := Lib.hid (N10.out.below hs17)
              have HW_17 := Lib.hid (below_next HW_16.out hs17)
              clear hs17 BX_16 BZ_16 N10 HW_16
              have N12 := Lib.hid hn12
              clear hn12 hb12
              go_wp2_with fail
              refine (IA.out _ _ _ _ N10_17.out N12.out).mono ?_; rintro e w13 ⟨rfl, hbw13⟩
              have hs18 : Below w12.heap.size w12 w13 := hbw13
              have BX_18 := Lib.hid (BX_17.out.below hs18 (lt_of_cell BX_17.out.c0))
              have BZ_18 := Lib.hid (BZ_17.out.below hs18 (lt_of_cell BZ_17.out.c0))
              have N10_18 := Lib.hid (N10_17.out.below hs18)
              have HW_18 := Lib.hid (below_next HW_17.out hs18)
              clear hs18 BX_17 BZ_17 N10_17 HW_17
              clear hbw13
              have HE := Lib.hid HW_18.out
              go_wp2_with fail
              go_ret
              exact ⟨rfl, HE.out⟩
            | false =>
              go_wp2_with fail
              refine (PA.out _ HW_5.out).mono ?_; rintro e w6 ⟨rfl, hbw6⟩
              have hs19 : Below w5.heap.size w5 w6 := hbw6
              have BX_19 := Lib.hid (BX_5.out.below hs19 (lt_of_cell BX_5.out.c0))
              have BZ_19 := Lib.hid (BZ_5.out.below hs19 (lt_of_cell BZ_5.out.c0))
              have HW_19 := Lib.hid (below_next HW_5.out hs19)
              clear hs19 BX_5 BZ_5 HW_5
              clear hbw6
              go_wp2_with fail
              refine (RC.out _ HW_19.out).mono ?_; rintro e w7 ⟨rfl, hbw7⟩
              have hs20 : Below w6.heap.size w6 w7 := hbw7
              have BX_20 := Lib.hid (BX_19.out.below hs20 (lt_of_cell BX_19.out.c0))
              have BZ_20 := Lib.hid (BZ_19.out.below hs20 (lt_of_cell BZ_19.out.c0))
              have HW_20 := Lib.hid (below_next HW_19.out hs20)
              clear hs20 BX_19 BZ_19 HW_19
              clear hbw7
              go_wp2_with fail
              refine (PC.out _ HW_20.out).mono ?_; rintro e w8 ⟨rfl, hbw8⟩
              have hs21 : Below w7.heap.size w7 w8 := hbw8
              have BX_21 := Lib.hid (BX_20.out.below hs21 (lt_of_cell BX_20.out.c0))
              have BZ_21 := Lib.hid (BZ_20.out.below hs21 (lt_of_cell BZ_20.out.c0))
              have HW_21 := Lib.hid (below_next HW_20.out hs21)
              clear hs21 BX_20 BZ_20 HW_20
              clear hbw8
              go_wp2_with fail
              refine (RD.out _ HW_21.out).mono ?_; rintro e w9 ⟨rfl, hbw9⟩
              have hs22 : Below w8.heap.size w8 w9 := hbw9
              have BX_22 := Lib.hid (BX_21.out.below hs22 (lt_of_cell BX_21.out.c0))
              have BZ_22 := Lib.hid (BZ_21.out.below hs22 (lt_of_cell BZ_21.out.c0))
              have HW_22 := Lib.hid (below_next HW_21.out hs22)
              clear hs22 BX_21 BZ_21 HW_21
              clear hbw9
              obtain ⟨BX0, BX1, BX2, BX3, _, _, _, _⟩ := BX_22.out
              obtain ⟨BZ0, BZ1, BZ2, BZ3, _, _, _, _⟩ := BZ_22.out
              go_wp2_with fail
              refine (PF.out _ HW_22.out hp5 hp6).mono ?_; rintro e w10 ⟨u10, rfl, hn10, hb10⟩
              clear BX0 BX1 BX2 BX3 BZ0 BZ1 BZ2 BZ3
              have hs23 : Below w9.heap.size w9 w10 := hb10
              have BX_23 := Lib.hid (BX_22.out.below hs23 (lt_of_cell BX_22.out.c0))
              have BZ_23 := Lib.hid (BZ_22.out.below hs23 (lt_of_cell BZ_22.out.c0))
              have HW_23 := Lib.hid (below_next HW_22.out hs23)
              clear hs23 BX_22 BZ_22 HW_22
              have N10 := Lib.hid hn10
              clear hn10 hb10
              obtain ⟨BX0, BX1, BX2, BX3, _, _, _, _⟩ := BX_23.out
              obtain ⟨BZ0, BZ1, BZ2, BZ3, _, _, _, _⟩ := BZ_23.out
              go_wp2_with fail
              refine (RF.out _ HW_23.out hp5).mono ?_; rintro e w12 ⟨u12, rfl, hn12, hb12⟩
              clear BX0 BX1 BX2 BX3 BZ0 BZ1 BZ2 BZ3
              have hs24 : Below w10.heap.size w10 w12 := hb12
              have BX_24 := Lib.hid (BX_23.out.below hs24 (lt_of_cell BX_23.out.c0))
              have BZ_24 := Lib.hid (BZ_23.out.below hs24 (lt_of_cell BZ_23.out.c0))
              have N10_24 := Lib.hid (N10.out.below hs24)
              have HW_24 := Lib.hid (below_next HW_23.out hs24)
              clear hs24 BX_23 BZ_23 N10 HW_23
              have N12 := Lib.hid hn12
              clear hn12 hb12
              go_wp2_with fail
              refine (IA.out _ _ _ _ N10_24.out N12.out).mono ?_; rintro e w13 ⟨rfl, hbw13⟩
              have hs25 : Below w12.heap.size w12 w13 := hbw13
              have BX_25 := Lib.hid (BX_24.out.below hs25 (lt_of_cell BX_24.out.c0))
              have BZ_25 := Lib.hid (BZ_24.out.below hs25 (lt_of_cell BZ_24.out.c0))
              have N10_25 := Lib.hid (N10_24.out.below hs25)
              have HW_25 := Lib.hid (below_next HW_24.out hs25)
              clear hs25 BX_24 BZ_24 N10_24 HW_24
              clear hbw13
              have HE := Lib.hid HW_25.out
              go_wp2_with fail
              go_ret
              exact ⟨rfl, HE.out⟩
end Go.Proofs.Ytniikfihfeledaa
