/-
  The chapter's example of layer 4: awake, by the program's At and All.
-/
import Derived.Test.YtniikfihfeledaaPAt
import Derived.Test.YtniikfihfeledaaPPlAll
import Derived.Test.YtniikfihfeledaaFunTm
namespace Go.Proofs.Ytniikfihfeledaa
open Go.RowKit

theorem tms_two4 (w : World) (x y : Tv) (hx : x.ok w) (hy : y.ok w) (t : TypeId) :
    Tms (w.alloc (.cells #[.int .i64 x.t.kind, .string x.t.name, .int .i64 x.t.n, .slice x.a x.t.args.length x.c, .int .i64 y.t.kind, .string y.t.name, .int .i64 y.t.n, .slice y.a y.t.args.length y.c] t)) (.slice (some ⟨w.heap.size, 0, none⟩) 2 2) [x.t, y.t] := by
  have hb : Below w.heap.size w (w.alloc (.cells #[.int .i64 x.t.kind, .string x.t.name, .int .i64 x.t.n, .slice x.a x.t.args.length x.c, .int .i64 y.t.kind, .string y.t.name, .int .i64 y.t.n, .slice y.a y.t.args.length y.c] t)) := (Below.refl _ _).alloc (Nat.le_refl _) _
  refine ⟨_, 2, rfl, by simp, .inr ⟨w.heap.size, 0, rfl, by simp, ?_⟩⟩
  rw [RowAt, RowAt, RowAt]
  have c := World.cell?_alloc_mark w #[.int .i64 x.t.kind, .string x.t.name, .int .i64 x.t.n, .slice x.a x.t.args.length x.c, .int .i64 y.t.kind, .string y.t.name, .int .i64 y.t.n, .slice y.a y.t.args.length y.c] t (0, 0)
  exact ⟨tv_tmAt (hx.below hb) ⟨c 0, c 1, c 2, c 3⟩, tv_tmAt (hy.below hb) ⟨c 4, c 5, c 6, c 7⟩, trivial⟩
theorem nums_one (w : World) (i : Int) (hi : -9223372036854775808 ≤ i ∧ i ≤ 9223372036854775807) (t : TypeId) : Nums (w.alloc (.cells #[.int .i64 i] t)) (.slice (some ⟨w.heap.size, 0, none⟩) 1 1) [i] := by
  refine ⟨_, 1, rfl, Nat.le_refl _, by omega, fun n hn => by rw [List.mem_singleton] at hn; subst hn; exact hi, .inr ⟨w.heap.size, 0, rfl, by simp, fun j n hj => ?_⟩⟩
  cases j with
  | zero =>
    simp at hj
    subst hj
    exact World.cell?_alloc_mark w #[.int .i64 i] t (0, 0) 0
  | succ j => simp at hj
def aX : Tm := .mk 1 ⟨#[120]⟩ 0 []
def aK : Tm := .mk 5 ⟨#[107]⟩ 0 []
def aF : Tm := .mk 5 ⟨#[102]⟩ 0 [aX, aK]
theorem aX_ok (w : World) : Tv.ok w ⟨aX, none, 0⟩ := by
  refine ⟨⟨?_, ?_, ?_, ?_, ?_⟩, ?_, .inl rfl⟩ <;> decide
theorem aK_ok (w : World) : Tv.ok w ⟨aK, none, 0⟩ := by
  refine ⟨⟨?_, ?_, ?_, ?_, ?_⟩, ?_, .inl rfl⟩ <;> decide
theorem aF_fit : Fit aF.kind aF.name aF.n := by refine ⟨?_, ?_, ?_, ?_, ?_⟩ <;> decide
theorem aF_small : aF.parts ≤ 100000 := by decide
theorem aF_one : atT aF [1] = some aK := by
  have := atT_in (t := aF) (j := 1) (r := []) (by decide)
  exact this.trans (atT_nil _)
theorem aF_two : atT aF [2] = none := atT_out (t := aF) (i := 2) (r := []) (by decide)
theorem aF_places : (placesT aF).length = 3 := by rw [placesT_length]; decide

set_option maxRecDepth 100000 in
set_option maxHeartbeats 2000000 in
theorem awake_pl (w : World) : Calls Try.prog 8 #[] w fun e w' => e = .returned (.bool true) ∧ Below w.heap.size w w' := by
  have V := Lib.hid (fun (s : ByteArray) (W : World) => rvar_any s W)
  have F := Lib.hid (fun (s : ByteArray) (a : Option Addr) (l c : Nat) (W : World) => rfun_any s a l c W)
  go_enter Try.func8, Try.ntmps8
  go_wp2_with fail
  refine (V.out _ _).mono ?_; rintro e w1 ⟨rfl, hb1⟩
  go_wp2_with fail
  refine (F.out _ _ _ _ _).mono ?_; rintro e w2 ⟨rfl, hb2⟩
  have hm := tms_two4 w2 ⟨aX, none, 0⟩ ⟨aK, none, 0⟩ (aX_ok _) (aK_ok _) 24
  simp only [aX, aK, Tm.kind, Tm.name, Tm.n, Tm.args, List.length_nil] at hm
  have hbA := (hb1.trans (hb2.mono hb1.size)).alloc (by have := hb1.size; have := hb2.size; omega) (.cells #[.int .i64 1, .string ⟨#[120]⟩, .int .i64 0, .slice none 0 0, .int .i64 5, .string ⟨#[107]⟩, .int .i64 0, .slice none 0 0] 24)
  go_wp2_with fail
  refine (F.out _ _ _ _ _).mono ?_; rintro e w3 ⟨rfl, hb3⟩
  have hbB := hbA.trans (hb3.mono hbA.size)
  have hm3 := hm.below hb3
  obtain ⟨a3, c3, e3, hargs⟩ := hm3
  obtain ⟨rfl, rfl⟩ : a3 = some ⟨w2.heap.size, 0, none⟩ ∧ c3 = 2 := by cases e3; exact ⟨rfl, rfl⟩
  have hF3 : Tv.ok w3 ⟨aF, some ⟨w2.heap.size, 0, none⟩, 2⟩ := ⟨aF_fit, hargs⟩
  obtain ⟨g3, hg3⟩ : ∃ g3, w2.heap.size = g3 := ⟨_, rfl⟩
  rw [hg3] at hF3 ⊢
  have hbx := box_new w3 (.int .i64 5) (.string ⟨#[102]⟩) (.int .i64 0) (.slice (some ⟨g3, 0, none⟩) 2 2) 24
  have hBx : Below w3.heap.size w3 (w3.alloc (.cells #[.int .i64 5, .string ⟨#[102]⟩, .int .i64 0, .slice (some ⟨g3, 0, none⟩) 2 2] 24)) := (Below.refl _ _).alloc (Nat.le_refl _) _
  have hz3 : (w3.alloc (.cells #[.int .i64 5, .string ⟨#[102]⟩, .int .i64 0, .slice (some ⟨g3, 0, none⟩) 2 2] 24)).heap.size = w3.heap.size + 1 := by simp
  obtain ⟨wb, hwb⟩ : ∃ wb, wb = w3.alloc (.cells #[.int .i64 5, .string ⟨#[102]⟩, .int .i64 0, .slice (some ⟨g3, 0, none⟩) 2 2] 24) := ⟨_, rfl⟩
  rw [← hwb] at hbx hBx hz3
  have HBX := Lib.hid (fun (W : World) (h : Below wb.heap.size wb W) => hbx.below h (by omega))
  have hFb := hF3.below hBx
  have hbW := hbB.trans (hBx.mono hbB.size)
  have AT := Lib.hid (fun (i : Int) (hi : -9223372036854775808 ≤ i ∧ i ≤ 9223372036854775807) (W : World) (N : Nat) (hN : W.heap.size = N) (h : Below wb.heap.size wb W) =>
    (show Calls Try.prog 10 #[.agg #[.int .i64 5, .string ⟨#[102]⟩, .int .i64 0, .slice (some ⟨g3, 0, none⟩) 2 2], .slice (some ⟨N, 0, none⟩) 1 1] (W.alloc (.cells #[.int .i64 i] 3)) (AtPost (atT aF [i]) (W.alloc (.cells #[.int .i64 i] 3)) (W.alloc (.cells #[.int .i64 i] 3))) from
    pat_tm ⟨aF, some ⟨g3, 0, none⟩, 2⟩ _ [i] (W.alloc (.cells #[.int .i64 i] 3)) (W.alloc (.cells #[.int .i64 i] 3)) (hFb.below (h.alloc h.size _)) (by rw [← hN]; exact nums_one W i hi 3) (Below.refl _ _)))
  have ALL := Lib.hid (fun (W : World) (h : Below wb.heap.size wb W) =>
    (show Calls Try.prog 17 #[.agg #[.int .i64 5, .string ⟨#[102]⟩, .int .i64 0, .slice (some ⟨g3, 0, none⟩) 2 2]] W (fun e w' => ∃ v, e = .returned v ∧ Pls w' v (placesT aF) ∧ Below W.heap.size W w') from
    pall_tm ⟨aF, some ⟨g3, 0, none⟩, 2⟩ W W (hFb.below h) (Below.refl _ _) aF_small))
  have HW := Lib.hid hbW
  have HSZ := Lib.hid hz3
  clear V F hm hargs hF3 hFb hbW hbB hbA hb1 hb2 hb3 hBx hg3 e3
  obtain ⟨p0, p1, p2, p3, _, _, _, _⟩ := hbx
  go_wp2_with fail
  rw [← hwb]
  clear hwb
  refine (AT.out 1 (by omega) wb _ HSZ.out (Below.refl _ _)).mono ?_; rintro e wA ⟨⟨ty, ay, cy⟩, rfl, hyt, _, hA⟩
  rw [aF_one] at hyt ⊢
  simp only [Option.getD_some] at hyt
  subst hyt
  simp only [Tv.val, aK, Tm.kind, Tm.name, Tm.n, Tm.args, List.length_nil, Option.isSome_some]
  have hAb : Below wb.heap.size wb wA := ((Below.refl _ _).alloc (Nat.le_refl _) _).trans (hA.mono (by simp))
  have hby := box_new wA (.int .i64 5) (.string ⟨#[107]⟩) (.int .i64 0) (.slice ay 0 cy) 24
  have hAz : (wA.alloc (.cells #[.int .i64 5, .string ⟨#[107]⟩, .int .i64 0, .slice ay 0 cy] 24)).heap.size = wA.heap.size + 1 := by simp
  have hCb := hAb.alloc hAb.size (.cells #[.int .i64 5, .string ⟨#[107]⟩, .int .i64 0, .slice ay 0 cy] 24)
  obtain ⟨wC, hwC⟩ : ∃ wC, wC = wA.alloc (.cells #[.int .i64 5, .string ⟨#[107]⟩, .int .i64 0, .slice ay 0 cy] 24) := ⟨_, rfl⟩
  rw [← hwC] at hby hCb hAz
  have HBY := Lib.hid (fun (W : World) (h : Below wC.heap.size wC W) => hby.below h (by omega))
  have HAZ := Lib.hid hAz
  clear p0 p1 p2 p3 hA hAb hby hAz
  obtain ⟨p0, p1, p2, p3, _, _, _, _⟩ := HBX.out wC hCb
  have HCB := Lib.hid hCb
  have HWC := Lib.hid hwC
  clear hCb
  rw [hwC] at p0 p1 p2 p3
  clear hwC
  go_wp2_with fail
  rw [← HWC.out]
  refine (AT.out 2 (by omega) wC _ HAZ.out HCB.out).mono ?_; rintro e wD ⟨⟨ty, ay2, cy2⟩, rfl, hyt, _, hD⟩
  rw [aF_two] at hyt ⊢
  simp only [Option.getD_none] at hyt
  subst hyt
  simp only [Tv.val, zeroT, Tm.kind, Tm.name, Tm.n, Tm.args, List.length_nil, Option.isSome_none]
  have hDb : Below wC.heap.size wC wD := ((Below.refl _ _).alloc (Nat.le_refl _) _).trans (hD.mono (by simp))
  have hEb := hDb.alloc hDb.size (.cells #[.int .i64 0, .string ⟨#[]⟩, .int .i64 0, .slice ay2 0 cy2] 24)
  obtain ⟨wE, hwE⟩ : ∃ wE, wE = wD.alloc (.cells #[.int .i64 0, .string ⟨#[]⟩, .int .i64 0, .slice ay2 0 cy2] 24) := ⟨_, rfl⟩
  rw [← hwE] at hEb
  have hEB : Below wb.heap.size wb wE := below_next HCB.out hEb
  clear p0 p1 p2 p3 hD hDb
  obtain ⟨p0, p1, p2, p3, _, _, _, _⟩ := HBX.out wE hEB
  obtain ⟨q0, q1, q2, q3, _, _, _, _⟩ := HBY.out wE hEb
  have HEB := Lib.hid hEB
  have HWE := Lib.hid hwE
  clear hEb hEB
  rw [hwE] at p0 p1 p2 p3 q0 q1 q2 q3
  clear hwE
  go_wp2_with fail
  rw [← HWE.out]
  refine (ALL.out wE HEB.out).mono ?_; rintro e wG ⟨v, rfl, ⟨av, cv, rfl, _⟩, hG⟩
  have HEND := Lib.hid (HW.out.trans ((below_next HEB.out hG).mono HW.out.size))
  rw [aF_places]
  clear hG
  go_wp2_with fail
  go_ret
  exact ⟨rfl, HEND.out⟩
end Go.Proofs.Ytniikfihfeledaa
