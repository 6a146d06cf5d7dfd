/-
  Any term put at any place: the law answers true.
-/
import Derived.Test.YtniikfihfeledaaPutLaw
namespace Go.Proofs.Ytniikfihfeledaa
open Go.RowKit

set_option maxRecDepth 100000 in
set_option maxHeartbeats 4000000 in
theorem lawPuts_any (x : Tv) (v : Value) (ns : List Int) (z : Tv) (w : World) (hx : x.ok w) (hv : Nums w v ns) (hz : z.ok w) :
    Calls Try.prog 4 #[x.val, v, z.val] w fun e w' => e = .returned (.bool true) ∧ Below w.heap.size w w' := by
  have AW := Lib.hid (fun W => awake_pl W)
  have SX := Lib.hid (fun (W : World) (h : Below w.heap.size w W) => small_tm x W (hx.below h))
  have SZ := Lib.hid (fun (W : World) (h : Below w.heap.size w W) => small_tm z W (hz.below h))
  have SH := Lib.hid (fun (W : World) (h : Below w.heap.size w W) (hw : wtT x.t ≤ 1000000) => show_tm x.t.parts x W (Nat.le_refl _) (by omega) (hx.below h))
  have PP := Lib.hid (fun (W : World) (h : Below w.heap.size w W) (hp : x.t.parts ≤ 100000) => pput_tm w ns x z v W hx hz hv h hp)
  have RP := Lib.hid (fun (W : World) (h : Below w.heap.size w W) (hp : x.t.parts ≤ 100000) => rputf_tm ns x z v w W hx hz hv h hp)
  have AX := Lib.hid (fun (W : World) (h : Below w.heap.size w W) => pat_tm x v ns w W hx hv h)
  have AU := Lib.hid (fun (y : Tv) (W : World) (h : Below w.heap.size w W) (hy : y.ok W) => pat_tm y v ns W W hy (hv.below h) (Below.refl _ _))
  have PU := Lib.hid (fun (y o : Tv) (W : World) (h : Below w.heap.size w W) (hy : y.ok W) (ho : o.ok W) (hp : y.t.parts ≤ 100000) => pput_tm W ns y o v W hy ho (hv.below h) (Below.refl _ _) hp)
  have SA := Lib.hid (fun (y o : Tv) (W : World) (he : y.t = o.t) (h1 : y.ok W) (h2 : o.ok W) => (same_tm y.t.parts y o W (Nat.le_refl _) h1 h2).mono (fun e w' hh => (show e = .returned (.bool true) ∧ Below W.heap.size W w' from ⟨hh.1.trans (by rw [eqT_true he]), hh.2⟩)))
  have KX := Lib.hid hx
  have KZ := Lib.hid hz
  clear hx hz
  obtain ⟨a, c, rfl, _, _, _, _⟩ := hv
  obtain ⟨t, ax, cx⟩ := x
  obtain ⟨u, az, cz⟩ := z
  have hz1 : (w.alloc (.cells #[.int .i64 t.kind, .string t.name, .int .i64 t.n, .slice ax t.args.length cx] 24)).heap.size = w.heap.size + 1 := by simp
  have bX := (box_new w (.int .i64 t.kind) (.string t.name) (.int .i64 t.n) (.slice ax t.args.length cx) 24).below ((Below.refl _ _).alloc (Nat.le_refl _) (.cells #[.int .i64 u.kind, .string u.name, .int .i64 u.n, .slice az u.args.length cz] 24)) (by rw [hz1]; omega)
  have bZ := box_new (w.alloc (.cells #[.int .i64 t.kind, .string t.name, .int .i64 t.n, .slice ax t.args.length cx] 24)) (.int .i64 u.kind) (.string u.name) (.int .i64 u.n) (.slice az u.args.length cz) 24
  rw [hz1] at bZ
  have hwb : Below w.heap.size w ((w.alloc (.cells #[.int .i64 t.kind, .string t.name, .int .i64 t.n, .slice ax t.args.length cx] 24)).alloc (.cells #[.int .i64 u.kind, .string u.name, .int .i64 u.n, .slice az u.args.length cz] 24)) := ((Below.refl _ _).alloc (Nat.le_refl _) _).alloc (by rw [hz1]; omega) _
  obtain ⟨wb, hwbe⟩ : ∃ wb, wb = ((w.alloc (.cells #[.int .i64 t.kind, .string t.name, .int .i64 t.n, .slice ax t.args.length cx] 24)).alloc (.cells #[.int .i64 u.kind, .string u.name, .int .i64 u.n, .slice az u.args.length cz] 24)) := ⟨_, rfl⟩
  rw [← hwbe] at bX bZ hwb
  have BX := Lib.hid bX
  have BZ := Lib.hid bZ
  have HW := Lib.hid hwb
  clear bX bZ hwb hz1
  simp only [Tv.val] at *
  go_enter Try.func4, Try.ntmps4
  go_wp2_with fail
  rw [← hwbe]
  clear hwbe
  refine (AW.out _).mono ?_; rintro e w1 ⟨rfl, hb1⟩
  have hs1 : Below wb.heap.size wb w1 := hb1
  have BX_1 := Lib.hid (BX.out.below hs1 (lt_of_cell BX.out.c0))
  have BZ_1 := Lib.hid (BZ.out.below hs1 (lt_of_cell BZ.out.c0))
  have HW_1 := Lib.hid (below_next HW.out hs1)
  clear hs1 BX BZ HW
  clear hb1
  obtain ⟨BX0, BX1, BX2, BX3, _, _, _, _⟩ := BX_1.out
  go_wp2_with fail
  refine (SX.out _ HW_1.out).mono ?_; rintro e w2 ⟨rfl, hb2⟩
  clear BX0 BX1 BX2 BX3
  have hs2 : Below w1.heap.size w1 w2 := hb2
  have BX_2 := Lib.hid (BX_1.out.below hs2 (lt_of_cell BX_1.out.c0))
  have BZ_2 := Lib.hid (BZ_1.out.below hs2 (lt_of_cell BZ_1.out.c0))
  have HW_2 := Lib.hid (below_next HW_1.out hs2)
  clear hs2 BX_1 BZ_1 HW_1
  clear hb2
  cases hsx : smallB t with
  | false =>
    have HE := Lib.hid HW_2.out
    go_wp2_with fail
    go_ret
    exact ⟨rfl, HE.out⟩
  | true =>
    obtain ⟨BZ0, BZ1, BZ2, BZ3, _, _, _, _⟩ := BZ_2.out
    go_wp2_with fail
    refine (SZ.out _ HW_2.out).mono ?_; rintro e w3 ⟨rfl, hb3⟩
    clear BZ0 BZ1 BZ2 BZ3
    have hs3 : Below w2.heap.size w2 w3 := hb3
    have BX_3 := Lib.hid (BX_2.out.below hs3 (lt_of_cell BX_2.out.c0))
    have BZ_3 := Lib.hid (BZ_2.out.below hs3 (lt_of_cell BZ_2.out.c0))
    have HW_3 := Lib.hid (below_next HW_2.out hs3)
    clear hs3 BX_2 BZ_2 HW_2
    clear hb3
    cases hsz : smallB u with
    | false =>
      have HE := Lib.hid HW_3.out
      go_wp2_with fail
      go_ret
      exact ⟨rfl, HE.out⟩
    | true =>
      rcases Int.lt_or_le 100 (ns.length : Int) with hl | hl
      · have hd : decide ((100 : Int) < (ns.length : Int)) = true := decide_eq_true hl
        have HE := Lib.hid HW_3.out
        go_wp2_with fail
        go_ret
        exact ⟨rfl, HE.out⟩
      · have hd : decide ((100 : Int) < (ns.length : Int)) = false := decide_eq_false (by omega)
        have hp1 : t.parts ≤ 300 := small_parts hsx
        have hp2 : u.parts ≤ 300 := small_parts hsz
        have hwt : wtT t ≤ 1000000 := small_wt hsx
        have hp5 : t.parts ≤ 100000 := by omega
        obtain ⟨s, hs⟩ : ∃ s : ByteArray, s = ⟨(showT t).toArray⟩ := ⟨_, rfl⟩
        have SH2 := Lib.hid (fun (W : World) (h : Below w.heap.size w W) => (SH.out W h hwt).mono (fun e w' hh => (show e = .returned (.string s) ∧ Below W.heap.size W w' from ⟨hh.1.trans (by rw [hs]), hh.2.2⟩)))
        clear hs
        obtain ⟨BX0, BX1, BX2, BX3, _, _, _, _⟩ := BX_3.out
        go_wp2_with fail
        refine (SH2.out _ HW_3.out).mono ?_; rintro e w4 ⟨rfl, hb4⟩
        clear BX0 BX1 BX2 BX3
        have hs4 : Below w3.heap.size w3 w4 := hb4
        have BX_4 := Lib.hid (BX_3.out.below hs4 (lt_of_cell BX_3.out.c0))
        have BZ_4 := Lib.hid (BZ_3.out.below hs4 (lt_of_cell BZ_3.out.c0))
        have HW_4 := Lib.hid (below_next HW_3.out hs4)
        clear hs4 BX_3 BZ_3 HW_3
        clear hb4
        have PP2 := Lib.hid (fun W h => PP.out W h hp5)
        have RP2 := Lib.hid (fun W h => RP.out W h hp5)
        obtain ⟨po, hpo⟩ : ∃ po, putO t ns u = po := ⟨_, rfl⟩
        (try simp only at PP2 RP2)
        rw [hpo] at PP2 RP2
        have HPO := Lib.hid hpo
        clear hpo PP RP
        cases po with
        | none =>
          obtain ⟨BX0, BX1, BX2, BX3, _, _, _, _⟩ := BX_4.out
          obtain ⟨BZ0, BZ1, BZ2, BZ3, _, _, _, _⟩ := BZ_4.out
          go_wp2_with fail
          refine (PP2.out _ HW_4.out).mono ?_; rintro e w5 ⟨⟨y5, a5, c5⟩, he, hyt, hyf, hb5⟩
          clear BX0 BX1 BX2 BX3 BZ0 BZ1 BZ2 BZ3
          obtain rfl := he
          have Y5T := Lib.hid hyt
          have hs5 : Below w4.heap.size w4 w5 := hb5
          have BX_5 := Lib.hid (BX_4.out.below hs5 (lt_of_cell BX_4.out.c0))
          have BZ_5 := Lib.hid (BZ_4.out.below hs5 (lt_of_cell BZ_4.out.c0))
          have HW_5 := Lib.hid (below_next HW_4.out hs5)
          clear hs5 BX_4 BZ_4 HW_4
          have Y5 := Lib.hid (hyf.ok HW_5.out)
          clear hyt hyf hb5
          simp only [Tv.val, Option.isSome_none]
          have B8 := Lib.hid (box_new w5 (.int .i64 y5.kind) (.string y5.name) (.int .i64 y5.n) (.slice a5 y5.args.length c5) 24)
          have hs6 : Below w5.heap.size w5 (w5.alloc (.cells #[.int .i64 y5.kind, .string y5.name, .int .i64 y5.n, .slice a5 y5.args.length c5] 24)) := (Below.refl _ _).alloc (Nat.le_refl _) _
          have BX_6 := Lib.hid (BX_5.out.below hs6 (lt_of_cell BX_5.out.c0))
          have BZ_6 := Lib.hid (BZ_5.out.below hs6 (lt_of_cell BZ_5.out.c0))
          have Y5_6 := Lib.hid (Y5.out.below hs6)
          have HW_6 := Lib.hid (below_next HW_5.out hs6)
          clear hs6 BX_5 BZ_5 Y5 HW_5
          obtain ⟨BX0, BX1, BX2, BX3, _, _, _, _⟩ := BX_6.out
          obtain ⟨BZ0, BZ1, BZ2, BZ3, _, _, _, _⟩ := BZ_6.out
          go_wp2_with fail
          refine (RP2.out _ HW_6.out).mono ?_; rintro e w7 ⟨⟨y7, a7, c7⟩, he, hyt, hyf, hb7⟩
          clear BX0 BX1 BX2 BX3 BZ0 BZ1 BZ2 BZ3
          obtain rfl := he
          have Y7T := Lib.hid hyt
          have hs7 : Below (w5.alloc (.cells #[.int .i64 y5.kind, .string y5.name, .int .i64 y5.n, .slice a5 y5.args.length c5] 24)).heap.size (w5.alloc (.cells #[.int .i64 y5.kind, .string y5.name, .int .i64 y5.n, .slice a5 y5.args.length c5] 24)) w7 := hb7
          have BX_7 := Lib.hid (BX_6.out.below hs7 (lt_of_cell BX_6.out.c0))
          have BZ_7 := Lib.hid (BZ_6.out.below hs7 (lt_of_cell BZ_6.out.c0))
          have B8_7 := Lib.hid (B8.out.below hs7 (lt_of_cell B8.out.c0))
          have Y5_7 := Lib.hid (Y5_6.out.below hs7)
          have HW_7 := Lib.hid (below_next HW_6.out hs7)
          clear hs7 BX_6 BZ_6 B8 Y5_6 HW_6
          have Y7 := Lib.hid (hyf.ok HW_7.out)
          clear hyt hyf hb7
          simp only [Tv.val, Option.isSome_none]
          have B10 := Lib.hid (box_new w7 (.int .i64 y7.kind) (.string y7.name) (.int .i64 y7.n) (.slice a7 y7.args.length c7) 24)
          have hs8 : Below w7.heap.size w7 (w7.alloc (.cells #[.int .i64 y7.kind, .string y7.name, .int .i64 y7.n, .slice a7 y7.args.length c7] 24)) := (Below.refl _ _).alloc (Nat.le_refl _) _
          have BX_8 := Lib.hid (BX_7.out.below hs8 (lt_of_cell BX_7.out.c0))
          have BZ_8 := Lib.hid (BZ_7.out.below hs8 (lt_of_cell BZ_7.out.c0))
          have B8_8 := Lib.hid (B8_7.out.below hs8 (lt_of_cell B8_7.out.c0))
          have Y5_8 := Lib.hid (Y5_7.out.below hs8)
          have Y7_8 := Lib.hid (Y7.out.below hs8)
          have HW_8 := Lib.hid (below_next HW_7.out hs8)
          clear hs8 BX_7 BZ_7 B8_7 Y5_7 Y7 HW_7
          have S1 := Lib.hid (SA.out ⟨y5, a5, c5⟩ ⟨y7, a7, c7⟩ _ (Y5T.out.trans Y7T.out.symm) Y5_8.out Y7_8.out)
          (try simp only at S1)
          obtain ⟨B80, B81, B82, B83, _, _, _, _⟩ := B8_8.out
          obtain ⟨B100, B101, B102, B103, _, _, _, _⟩ := B10.out
          go_wp2_with fail
          refine S1.out.mono ?_; rintro e w9 ⟨rfl, hb9⟩
          clear B80 B81 B82 B83 B100 B101 B102 B103
          have hs9 : Below (w7.alloc (.cells #[.int .i64 y7.kind, .string y7.name, .int .i64 y7.n, .slice a7 y7.args.length c7] 24)).heap.size (w7.alloc (.cells #[.int .i64 y7.kind, .string y7.name, .int .i64 y7.n, .slice a7 y7.args.length c7] 24)) w9 := hb9
          have BX_9 := Lib.hid (BX_8.out.below hs9 (lt_of_cell BX_8.out.c0))
          have BZ_9 := Lib.hid (BZ_8.out.below hs9 (lt_of_cell BZ_8.out.c0))
          have B8_9 := Lib.hid (B8_8.out.below hs9 (lt_of_cell B8_8.out.c0))
          have B10_9 := Lib.hid (B10.out.below hs9 (lt_of_cell B10.out.c0))
          have Y5_9 := Lib.hid (Y5_8.out.below hs9)
          have Y7_9 := Lib.hid (Y7_8.out.below hs9)
          have HW_9 := Lib.hid (below_next HW_8.out hs9)
          clear hs9 BX_8 BZ_8 B8_8 B10 Y5_8 Y7_8 HW_8
          clear hb9
          obtain ⟨BX0, BX1, BX2, BX3, _, _, _, _⟩ := BX_9.out
          go_wp2_with fail
          refine (SH2.out _ HW_9.out).mono ?_; rintro e w10 ⟨rfl, hb10⟩
          clear BX0 BX1 BX2 BX3
          have hs10 : Below w9.heap.size w9 w10 := hb10
          have BX_10 := Lib.hid (BX_9.out.below hs10 (lt_of_cell BX_9.out.c0))
          have BZ_10 := Lib.hid (BZ_9.out.below hs10 (lt_of_cell BZ_9.out.c0))
          have B8_10 := Lib.hid (B8_9.out.below hs10 (lt_of_cell B8_9.out.c0))
          have B10_10 := Lib.hid (B10_9.out.below hs10 (lt_of_cell B10_9.out.c0))
          have Y5_10 := Lib.hid (Y5_9.out.below hs10)
          have Y7_10 := Lib.hid (Y7_9.out.below hs10)
          have HW_10 := Lib.hid (below_next HW_9.out hs10)
          clear hs10 BX_9 BZ_9 B8_9 B10_9 Y5_9 Y7_9 HW_9
          clear hb10
          have HE := Lib.hid HW_10.out
          go_wp2_with fail
          go_ret
          exact ⟨rfl, HE.out⟩
        | some c0 =>
          obtain ⟨BX0, BX1, BX2, BX3, _, _, _, _⟩ := BX_4.out
          obtain ⟨BZ0, BZ1, BZ2, BZ3, _, _, _, _⟩ := BZ_4.out
          go_wp2_with fail
          refine (PP2.out _ HW_4.out).mono ?_; rintro e w5 ⟨⟨y5, a5, c5⟩, he, hyt, hyf, hb5⟩
          clear BX0 BX1 BX2 BX3 BZ0 BZ1 BZ2 BZ3
          obtain rfl := he
          have Y5T := Lib.hid hyt
          have hs11 : Below w4.heap.size w4 w5 := hb5
          have BX_11 := Lib.hid (BX_4.out.below hs11 (lt_of_cell BX_4.out.c0))
          have BZ_11 := Lib.hid (BZ_4.out.below hs11 (lt_of_cell BZ_4.out.c0))
          have HW_11 := Lib.hid (below_next HW_4.out hs11)
          clear hs11 BX_4 BZ_4 HW_4
          have Y5 := Lib.hid (hyf.ok HW_11.out)
          clear hyt hyf hb5
          simp only [Tv.val, Option.isSome_some]
          have B8 := Lib.hid (box_new w5 (.int .i64 y5.kind) (.string y5.name) (.int .i64 y5.n) (.slice a5 y5.args.length c5) 24)
          have hs12 : Below w5.heap.size w5 (w5.alloc (.cells #[.int .i64 y5.kind, .string y5.name, .int .i64 y5.n, .slice a5 y5.args.length c5] 24)) := (Below.refl _ _).alloc (Nat.le_refl _) _
          have BX_12 := Lib.hid (BX_11.out.below hs12 (lt_of_cell BX_11.out.c0))
          have BZ_12 := Lib.hid (BZ_11.out.below hs12 (lt_of_cell BZ_11.out.c0))
          have Y5_12 := Lib.hid (Y5.out.below hs12)
          have HW_12 := Lib.hid (below_next HW_11.out hs12)
          clear hs12 BX_11 BZ_11 Y5 HW_11
          obtain ⟨BX0, BX1, BX2, BX3, _, _, _, _⟩ := BX_12.out
          obtain ⟨BZ0, BZ1, BZ2, BZ3, _, _, _, _⟩ := BZ_12.out
          go_wp2_with fail
          refine (RP2.out _ HW_12.out).mono ?_; rintro e w7 ⟨⟨y7, a7, c7⟩, he, hyt, hyf, hb7⟩
          clear BX0 BX1 BX2 BX3 BZ0 BZ1 BZ2 BZ3
          obtain rfl := he
          have Y7T := Lib.hid hyt
          have hs13 : Below (w5.alloc (.cells #[.int .i64 y5.kind, .string y5.name, .int .i64 y5.n, .slice a5 y5.args.length c5] 24)).heap.size (w5.alloc (.cells #[.int .i64 y5.kind, .string y5.name, .int .i64 y5.n, .slice a5 y5.args.length c5] 24)) w7 := hb7
          have BX_13 := Lib.hid (BX_12.out.below hs13 (lt_of_cell BX_12.out.c0))
          have BZ_13 := Lib.hid (BZ_12.out.below hs13 (lt_of_cell BZ_12.out.c0))
          have B8_13 := Lib.hid (B8.out.below hs13 (lt_of_cell B8.out.c0))
          have Y5_13 := Lib.hid (Y5_12.out.below hs13)
          have HW_13 := Lib.hid (below_next HW_12.out hs13)
          clear hs13 BX_12 BZ_12 B8 Y5_12 HW_12
          have Y7 := Lib.hid (hyf.ok HW_13.out)
          clear hyt hyf hb7
          simp only [Tv.val, Option.isSome_some]
          have B10 := Lib.hid (box_new w7 (.int .i64 y7.kind) (.string y7.name) (.int .i64 y7.n) (.slice a7 y7.args.length c7) 24)
          have hs14 : Below w7.heap.size w7 (w7.alloc (.cells #[.int .i64 y7.kind, .string y7.name, .int .i64 y7.n, .slice a7 y7.args.length c7] 24)) := (Below.refl _ _).alloc (Nat.le_refl _) _
          have BX_14 := Lib.hid (BX_13.out.below hs14 (lt_of_cell BX_13.out.c0))
          have BZ_14 := Lib.hid (BZ_13.out.below hs14 (lt_of_cell BZ_13.out.c0))
          have B8_14 := Lib.hid (B8_13.out.below hs14 (lt_of_cell B8_13.out.c0))
          have Y5_14 := Lib.hid (Y5_13.out.below hs14)
          have Y7_14 := Lib.hid (Y7.out.below hs14)
          have HW_14 := Lib.hid (below_next HW_13.out hs14)
          clear hs14 BX_13 BZ_13 B8_13 Y5_13 Y7 HW_13
          have S1 := Lib.hid (SA.out ⟨y5, a5, c5⟩ ⟨y7, a7, c7⟩ _ (Y5T.out.trans Y7T.out.symm) Y5_14.out Y7_14.out)
          (try simp only at S1)
          obtain ⟨B80, B81, B82, B83, _, _, _, _⟩ := B8_14.out
          obtain ⟨B100, B101, B102, B103, _, _, _, _⟩ := B10.out
          go_wp2_with fail
          refine S1.out.mono ?_; rintro e w9 ⟨rfl, hb9⟩
          clear B80 B81 B82 B83 B100 B101 B102 B103
          have hs15 : Below (w7.alloc (.cells #[.int .i64 y7.kind, .string y7.name, .int .i64 y7.n, .slice a7 y7.args.length c7] 24)).heap.size (w7.alloc (.cells #[.int .i64 y7.kind, .string y7.name, .int .i64 y7.n, .slice a7 y7.args.length c7] 24)) w9 := hb9
          have BX_15 := Lib.hid (BX_14.out.below hs15 (lt_of_cell BX_14.out.c0))
          have BZ_15 := Lib.hid (BZ_14.out.below hs15 (lt_of_cell BZ_14.out.c0))
          have B8_15 := Lib.hid (B8_14.out.below hs15 (lt_of_cell B8_14.out.c0))
          have B10_15 := Lib.hid (B10.out.below hs15 (lt_of_cell B10.out.c0))
          have Y5_15 := Lib.hid (Y5_14.out.below hs15)
          have Y7_15 := Lib.hid (Y7_14.out.below hs15)
          have HW_15 := Lib.hid (below_next HW_14.out hs15)
          clear hs15 BX_14 BZ_14 B8_14 B10 Y5_14 Y7_14 HW_14
          clear hb9
          obtain ⟨BX0, BX1, BX2, BX3, _, _, _, _⟩ := BX_15.out
          go_wp2_with fail
          refine (SH2.out _ HW_15.out).mono ?_; rintro e w10 ⟨rfl, hb10⟩
          clear BX0 BX1 BX2 BX3
          have hs16 : Below w9.heap.size w9 w10 := hb10
          have BX_16 := Lib.hid (BX_15.out.below hs16 (lt_of_cell BX_15.out.c0))
          have BZ_16 := Lib.hid (BZ_15.out.below hs16 (lt_of_cell BZ_15.out.c0))
          have B8_16 := Lib.hid (B8_15.out.below hs16 (lt_of_cell B8_15.out.c0))
          have B10_16 := Lib.hid (B10_15.out.below hs16 (lt_of_cell B10_15.out.c0))
          have Y5_16 := Lib.hid (Y5_15.out.below hs16)
          have Y7_16 := Lib.hid (Y7_15.out.below hs16)
          have HW_16 := Lib.hid (below_next HW_15.out hs16)
          clear hs16 BX_15 BZ_15 B8_15 B10_15 Y5_15 Y7_15 HW_15
          clear hb10
          have hupp := putO_parts ns HPO.out
          have hup : y5.parts ≤ 100000 := by rw [show y5 = c0 from Y5T.out]; omega
          have A1 := Lib.hid (AU.out ⟨y5, a5, c5⟩ _ HW_16.out Y5_16.out)
          (try simp only at A1)
          rw [show atT y5 ns = some u from by rw [show y5 = c0 from Y5T.out]; exact putO_at ns HPO.out] at A1
          clear hupp
          obtain ⟨B80, B81, B82, B83, _, _, _, _⟩ := B8_16.out
          go_wp2_with fail
          refine A1.out.mono ?_; rintro e w11 ⟨⟨y11, a11, c11⟩, he, hyt, hyo, hb11⟩
          clear B80 B81 B82 B83
          obtain rfl := he
          have Y11T := Lib.hid (show y11 = u from hyt)
          have Y11 := Lib.hid hyo
          clear hyt hyo
          have hs17 : Below w10.heap.size w10 w11 := hb11
          have BX_17 := Lib.hid (BX_16.out.below hs17 (lt_of_cell BX_16.out.c0))
          have BZ_17 := Lib.hid (BZ_16.out.below hs17 (lt_of_cell BZ_16.out.c0))
          have B8_17 := Lib.hid (B8_16.out.below hs17 (lt_of_cell B8_16.out.c0))
          have B10_17 := Lib.hid (B10_16.out.below hs17 (lt_of_cell B10_16.out.c0))
          have Y5_17 := Lib.hid (Y5_16.out.below hs17)
          have Y7_17 := Lib.hid (Y7_16.out.below hs17)
          have Y11_17 := Lib.hid (Y11.out.below hs17)
          have HW_17 := Lib.hid (below_next HW_16.out hs17)
          clear hs17 BX_16 BZ_16 B8_16 B10_16 Y5_16 Y7_16 Y11 HW_16
          clear hb11
          simp only [Tv.val, Option.isSome_some]
          have B12 := Lib.hid (box_new w11 (.int .i64 y11.kind) (.string y11.name) (.int .i64 y11.n) (.slice a11 y11.args.length c11) 24)
          have hs18 : Below w11.heap.size w11 (w11.alloc (.cells #[.int .i64 y11.kind, .string y11.name, .int .i64 y11.n, .slice a11 y11.args.length c11] 24)) := (Below.refl _ _).alloc (Nat.le_refl _) _
          have BX_18 := Lib.hid (BX_17.out.below hs18 (lt_of_cell BX_17.out.c0))
          have BZ_18 := Lib.hid (BZ_17.out.below hs18 (lt_of_cell BZ_17.out.c0))
          have B8_18 := Lib.hid (B8_17.out.below hs18 (lt_of_cell B8_17.out.c0))
          have B10_18 := Lib.hid (B10_17.out.below hs18 (lt_of_cell B10_17.out.c0))
          have Y5_18 := Lib.hid (Y5_17.out.below hs18)
          have Y7_18 := Lib.hid (Y7_17.out.below hs18)
          have Y11_18 := Lib.hid (Y11_17.out.below hs18)
          have HW_18 := Lib.hid (below_next HW_17.out hs18)
          clear hs18 BX_17 BZ_17 B8_17 B10_17 Y5_17 Y7_17 Y11_17 HW_17
          obtain ⟨ao, hao⟩ : ∃ ao, atT t ns = ao := ⟨_, rfl⟩
          have A2 := Lib.hid (AX.out _ HW_18.out)
          (try simp only at A2)
          rw [hao] at A2
          have HAO := Lib.hid hao
          clear hao
          obtain ⟨BX0, BX1, BX2, BX3, _, _, _, _⟩ := BX_18.out
          go_wp2_with fail
          refine A2.out.mono ?_; rintro e w13 ⟨⟨y13, a13, c13⟩, he, hyt, hyo, hb13⟩
          clear BX0 BX1 BX2 BX3
          obtain rfl := he
          have Y13T := Lib.hid hyt
          have hs19 : Below (w11.alloc (.cells #[.int .i64 y11.kind, .string y11.name, .int .i64 y11.n, .slice a11 y11.args.length c11] 24)).heap.size (w11.alloc (.cells #[.int .i64 y11.kind, .string y11.name, .int .i64 y11.n, .slice a11 y11.args.length c11] 24)) w13 := hb13
          have BX_19 := Lib.hid (BX_18.out.below hs19 (lt_of_cell BX_18.out.c0))
          have BZ_19 := Lib.hid (BZ_18.out.below hs19 (lt_of_cell BZ_18.out.c0))
          have B8_19 := Lib.hid (B8_18.out.below hs19 (lt_of_cell B8_18.out.c0))
          have B10_19 := Lib.hid (B10_18.out.below hs19 (lt_of_cell B10_18.out.c0))
          have B12_19 := Lib.hid (B12.out.below hs19 (lt_of_cell B12.out.c0))
          have Y5_19 := Lib.hid (Y5_18.out.below hs19)
          have Y7_19 := Lib.hid (Y7_18.out.below hs19)
          have Y11_19 := Lib.hid (Y11_18.out.below hs19)
          have HW_19 := Lib.hid (below_next HW_18.out hs19)
          clear hs19 BX_18 BZ_18 B8_18 B10_18 B12 Y5_18 Y7_18 Y11_18 HW_18
          have Y13 := Lib.hid (hyo.below HW_19.out)
          clear hyt hyo hb13
          simp only [Tv.val]
          have B14 := Lib.hid (box_new w13 (.int .i64 y13.kind) (.string y13.name) (.int .i64 y13.n) (.slice a13 y13.args.length c13) 24)
          have hs20 : Below w13.heap.size w13 (w13.alloc (.cells #[.int .i64 y13.kind, .string y13.name, .int .i64 y13.n, .slice a13 y13.args.length c13] 24)) := (Below.refl _ _).alloc (Nat.le_refl _) _
          have BX_20 := Lib.hid (BX_19.out.below hs20 (lt_of_cell BX_19.out.c0))
          have BZ_20 := Lib.hid (BZ_19.out.below hs20 (lt_of_cell BZ_19.out.c0))
          have B8_20 := Lib.hid (B8_19.out.below hs20 (lt_of_cell B8_19.out.c0))
          have B10_20 := Lib.hid (B10_19.out.below hs20 (lt_of_cell B10_19.out.c0))
          have B12_20 := Lib.hid (B12_19.out.below hs20 (lt_of_cell B12_19.out.c0))
          have Y5_20 := Lib.hid (Y5_19.out.below hs20)
          have Y7_20 := Lib.hid (Y7_19.out.below hs20)
          have Y11_20 := Lib.hid (Y11_19.out.below hs20)
          have Y13_20 := Lib.hid (Y13.out.below hs20)
          have HW_20 := Lib.hid (below_next HW_19.out hs20)
          clear hs20 BX_19 BZ_19 B8_19 B10_19 B12_19 Y5_19 Y7_19 Y11_19 Y13 HW_19
          have hback : putO y5 ns y13 = some t := by
            have h1 : (atT t ns).isSome = true := by rw [← putO_isSome u, HPO.out]; rfl
            obtain ⟨o, ho⟩ := Option.isSome_iff_exists.1 h1
            have h2 : y13 = o := by have h3 := Y13T.out; rw [← HAO.out, ho] at h3; exact h3
            rw [show y5 = c0 from Y5T.out, h2]
            exact putO_back ns HPO.out ho
          have P1 := Lib.hid (PU.out ⟨y5, a5, c5⟩ ⟨y13, a13, c13⟩ _ HW_20.out Y5_20.out Y13_20.out hup)
          (try simp only at P1)
          rw [hback] at P1
          clear hback
          obtain ⟨B80, B81, B82, B83, _, _, _, _⟩ := B8_20.out
          obtain ⟨B140, B141, B142, B143, _, _, _, _⟩ := B14.out
          go_wp2_with fail
          refine P1.out.mono ?_; rintro e w15 ⟨⟨y15, a15, c15⟩, he, hyt, hyf, hb15⟩
          clear B80 B81 B82 B83 B140 B141 B142 B143
          obtain rfl := he
          have Y15T := Lib.hid (show y15 = t from hyt)
          have Y15 := Lib.hid (hyf.ok hb15)
          clear hyt hyf
          have hs21 : Below (w13.alloc (.cells #[.int .i64 y13.kind, .string y13.name, .int .i64 y13.n, .slice a13 y13.args.length c13] 24)).heap.size (w13.alloc (.cells #[.int .i64 y13.kind, .string y13.name, .int .i64 y13.n, .slice a13 y13.args.length c13] 24)) w15 := hb15
          have BX_21 := Lib.hid (BX_20.out.below hs21 (lt_of_cell BX_20.out.c0))
          have BZ_21 := Lib.hid (BZ_20.out.below hs21 (lt_of_cell BZ_20.out.c0))
          have B8_21 := Lib.hid (B8_20.out.below hs21 (lt_of_cell B8_20.out.c0))
          have B10_21 := Lib.hid (B10_20.out.below hs21 (lt_of_cell B10_20.out.c0))
          have B12_21 := Lib.hid (B12_20.out.below hs21 (lt_of_cell B12_20.out.c0))
          have B14_21 := Lib.hid (B14.out.below hs21 (lt_of_cell B14.out.c0))
          have Y5_21 := Lib.hid (Y5_20.out.below hs21)
          have Y7_21 := Lib.hid (Y7_20.out.below hs21)
          have Y11_21 := Lib.hid (Y11_20.out.below hs21)
          have Y13_21 := Lib.hid (Y13_20.out.below hs21)
          have HW_21 := Lib.hid (below_next HW_20.out hs21)
          clear hs21 BX_20 BZ_20 B8_20 B10_20 B12_20 B14 Y5_20 Y7_20 Y11_20 Y13_20 HW_20
          clear hb15
          simp only [Tv.val, Option.isSome_some]
          have B16 := Lib.hid (box_new w15 (.int .i64 y15.kind) (.string y15.name) (.int .i64 y15.n) (.slice a15 y15.args.length c15) 24)
          have hs22 : Below w15.heap.size w15 (w15.alloc (.cells #[.int .i64 y15.kind, .string y15.name, .int .i64 y15.n, .slice a15 y15.args.length c15] 24)) := (Below.refl _ _).alloc (Nat.le_refl _) _
          have BX_22 := Lib.hid (BX_21.out.below hs22 (lt_of_cell BX_21.out.c0))
          have BZ_22 := Lib.hid (BZ_21.out.below hs22 (lt_of_cell BZ_21.out.c0))
          have B8_22 := Lib.hid (B8_21.out.below hs22 (lt_of_cell B8_21.out.c0))
          have B10_22 := Lib.hid (B10_21.out.below hs22 (lt_of_cell B10_21.out.c0))
          have B12_22 := Lib.hid (B12_21.out.below hs22 (lt_of_cell B12_21.out.c0))
          have B14_22 := Lib.hid (B14_21.out.below hs22 (lt_of_cell B14_21.out.c0))
          have Y5_22 := Lib.hid (Y5_21.out.below hs22)
          have Y7_22 := Lib.hid (Y7_21.out.below hs22)
          have Y11_22 := Lib.hid (Y11_21.out.below hs22)
          have Y13_22 := Lib.hid (Y13_21.out.below hs22)
          have Y15_22 := Lib.hid (Y15.out.below hs22)
          have HW_22 := Lib.hid (below_next HW_21.out hs22)
          clear hs22 BX_21 BZ_21 B8_21 B10_21 B12_21 B14_21 Y5_21 Y7_21 Y11_21 Y13_21 Y15 HW_21
          have S2 := Lib.hid (SA.out ⟨y11, a11, c11⟩ ⟨u, az, cz⟩ _ Y11T.out Y11_22.out (KZ.out.below HW_22.out))
          (try simp only at S2)
          obtain ⟨B120, B121, B122, B123, _, _, _, _⟩ := B12_22.out
          obtain ⟨BZ0, BZ1, BZ2, BZ3, _, _, _, _⟩ := BZ_22.out
          go_wp2_with fail
          refine S2.out.mono ?_; rintro e w17 ⟨rfl, hb17⟩
          clear B120 B121 B122 B123 BZ0 BZ1 BZ2 BZ3
          have hs23 : Below (w15.alloc (.cells #[.int .i64 y15.kind, .string y15.name, .int .i64 y15.n, .slice a15 y15.args.length c15] 24)).heap.size (w15.alloc (.cells #[.int .i64 y15.kind, .string y15.name, .int .i64 y15.n, .slice a15 y15.args.length c15] 24)) w17 := hb17
          have BX_23 := Lib.hid (BX_22.out.below hs23 (lt_of_cell BX_22.out.c0))
          have BZ_23 := Lib.hid (BZ_22.out.below hs23 (lt_of_cell BZ_22.out.c0))
          have B8_23 := Lib.hid (B8_22.out.below hs23 (lt_of_cell B8_22.out.c0))
          have B10_23 := Lib.hid (B10_22.out.below hs23 (lt_of_cell B10_22.out.c0))
          have B12_23 := Lib.hid (B12_22.out.below hs23 (lt_of_cell B12_22.out.c0))
          have B14_23 := Lib.hid (B14_22.out.below hs23 (lt_of_cell B14_22.out.c0))
          have B16_23 := Lib.hid (B16.out.below hs23 (lt_of_cell B16.out.c0))
          have Y5_23 := Lib.hid (Y5_22.out.below hs23)
          have Y7_23 := Lib.hid (Y7_22.out.below hs23)
          have Y11_23 := Lib.hid (Y11_22.out.below hs23)
          have Y13_23 := Lib.hid (Y13_22.out.below hs23)
          have Y15_23 := Lib.hid (Y15_22.out.below hs23)
          have HW_23 := Lib.hid (below_next HW_22.out hs23)
          clear hs23 BX_22 BZ_22 B8_22 B10_22 B12_22 B14_22 B16 Y5_22 Y7_22 Y11_22 Y13_22 Y15_22 HW_22
          clear hb17
          have S3 := Lib.hid (SA.out ⟨y15, a15, c15⟩ ⟨t, ax, cx⟩ _ Y15T.out Y15_23.out (KX.out.below HW_23.out))
          (try simp only at S3)
          obtain ⟨B160, B161, B162, B163, _, _, _, _⟩ := B16_23.out
          obtain ⟨BX0, BX1, BX2, BX3, _, _, _, _⟩ := BX_23.out
          go_wp2_with fail
          refine S3.out.mono ?_; rintro e w18 ⟨rfl, hb18⟩
          clear B160 B161 B162 B163 BX0 BX1 BX2 BX3
          have hs24 : Below w17.heap.size w17 w18 := hb18
          have BX_24 := Lib.hid (BX_23.out.below hs24 (lt_of_cell BX_23.out.c0))
          have BZ_24 := Lib.hid (BZ_23.out.below hs24 (lt_of_cell BZ_23.out.c0))
          have B8_24 := Lib.hid (B8_23.out.below hs24 (lt_of_cell B8_23.out.c0))
          have B10_24 := Lib.hid (B10_23.out.below hs24 (lt_of_cell B10_23.out.c0))
          have B12_24 := Lib.hid (B12_23.out.below hs24 (lt_of_cell B12_23.out.c0))
          have B14_24 := Lib.hid (B14_23.out.below hs24 (lt_of_cell B14_23.out.c0))
          have B16_24 := Lib.hid (B16_23.out.below hs24 (lt_of_cell B16_23.out.c0))
          have Y5_24 := Lib.hid (Y5_23.out.below hs24)
          have Y7_24 := Lib.hid (Y7_23.out.below hs24)
          have Y11_24 := Lib.hid (Y11_23.out.below hs24)
          have Y13_24 := Lib.hid (Y13_23.out.below hs24)
          have Y15_24 := Lib.hid (Y15_23.out.below hs24)
          have HW_24 := Lib.hid (below_next HW_23.out hs24)
          clear hs24 BX_23 BZ_23 B8_23 B10_23 B12_23 B14_23 B16_23 Y5_23 Y7_23 Y11_23 Y13_23 Y15_23 HW_23
          clear hb18
          have HE := Lib.hid HW_24.out
          go_wp2_with fail
          go_ret
          exact ⟨rfl, HE.out⟩
end Go.Proofs.Ytniikfihfeledaa
