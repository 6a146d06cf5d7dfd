/-
  Layer 3's law of terms as texts, walked over the program's Fun, Var and Show.
-/
import Derived.Test.YtpdbnhhpibpbnaaDoorFunTm
import Derived.Test.YtpdbnhhpibpbnaaDoorShowTm
import Derived.Test.YtpdbnhhpibpbnaaDoorSmallTm
import Derived.Test.YtpdbnhhpibpbnaaDoorPAwakeTm
import Derived.Deep.RegionHeld3
import Derived.Sort.AtCall
namespace Go.Proofs.YtpdbnhhpibpbnaaDoor
open Go.RowKit

theorem var_ok {k n : Int} {s : ByteArray} (h : Fit k s n) (W : World) : Tv.ok W ⟨.mk 1 s 0 [], none, 0⟩ :=
  ⟨⟨(by show (-9223372036854775808 : Int) ≤ 1; omega), (by show (1 : Int) ≤ _; omega), (by show (-9223372036854775808 : Int) ≤ 0; omega), (by show (0 : Int) ≤ _; omega), h.len⟩, by show 0 ≤ _; omega, .inl rfl⟩
theorem fun_two {W : World} {tx : Tm} {ax : Option Addr} {cx : Nat} {s : ByteArray} {n : Int} (hok : Tv.ok W ⟨tx, ax, cx⟩) (h : Fit 5 s n) :
    Tv.ok (W.alloc (.cells #[.int .i64 tx.kind, .string tx.name, .int .i64 tx.n, .slice ax tx.args.length cx, .int .i64 tx.kind, .string tx.name, .int .i64 tx.n, .slice ax tx.args.length cx] 24)) ⟨.mk 5 s 0 [tx, tx], some ⟨W.heap.size, 0, none⟩, 2⟩ := by
  obtain ⟨a, c, hv, hl, hr⟩ := tms_two W ⟨tx, ax, cx⟩ ⟨tx, ax, cx⟩ hok hok 24
  cases hv
  exact ⟨⟨h.klo, h.khi, (by show (-9223372036854775808 : Int) ≤ 0; omega), (by show (0 : Int) ≤ _; omega), h.len⟩, hl, hr⟩
theorem show_two (s : ByteArray) (t : Tm) : (⟨(showT (.mk 5 s 0 [t, t])).toArray⟩ : ByteArray) = (((s ++ ⟨#[40]⟩) ++ ⟨(showT t).toArray⟩) ++ ⟨#[44, 32]⟩) ++ ⟨(showT t).toArray⟩ ++ ⟨#[41]⟩ := by
  rw [showT, showsL, showsL, showsL]
  apply ByteArray.ext
  simp [pre, close, Lib.join_cons, Lib.joinTail]
theorem cats {s q s1 s2 s3 s4 s5 : ByteArray} (hs : s.size ≤ 100) (hq : q.size ≤ 100000) (h1 : s1 = s ++ ⟨#[40]⟩) (h2 : s2 = s1 ++ q) (h3 : s3 = s2 ++ ⟨#[44, 32]⟩) (h4 : s4 = s3 ++ q) (h5 : s5 = s4 ++ ⟨#[41]⟩) :
    (∀ w, (Op.stringOp .add s ⟨#[40]⟩).run Tryd.prog w = .ok (.string s1) w) ∧ (∀ w, (Op.stringOp .add s1 q).run Tryd.prog w = .ok (.string s2) w) ∧ (∀ w, (Op.stringOp .add s2 ⟨#[44, 32]⟩).run Tryd.prog w = .ok (.string s3) w) ∧
    (∀ w, (Op.stringOp .add s3 q).run Tryd.prog w = .ok (.string s4) w) ∧ (∀ w, (Op.stringOp .add s4 ⟨#[41]⟩).run Tryd.prog w = .ok (.string s5) w) := by
  have z1 : s1.size = s.size + 1 := by rw [h1, ByteArray.size_append]; rfl
  have z2 : s2.size = s1.size + q.size := by rw [h2, ByteArray.size_append]
  have z3 : s3.size = s2.size + 2 := by rw [h3, ByteArray.size_append]; rfl
  have z4 : s4.size = s3.size + q.size := by rw [h4, ByteArray.size_append]
  have k1 : (⟨#[40]⟩ : ByteArray).size = 1 := rfl
  have k2 : (⟨#[44, 32]⟩ : ByteArray).size = 2 := rfl
  have k3 : (⟨#[41]⟩ : ByteArray).size = 1 := rfl
  refine ⟨fun w => ?_, fun w => ?_, fun w => ?_, fun w => ?_, fun w => ?_⟩
  · rw [run_string_add_sum w _ _ (by omega), h1]
  · rw [run_string_add_sum w _ _ (by omega), h2]
  · rw [run_string_add_sum w _ _ (by omega), h3]
  · rw [run_string_add_sum w _ _ (by omega), h4]
  · rw [run_string_add_sum w _ _ (by omega), h5]

set_option maxRecDepth 100000 in
set_option maxHeartbeats 4000000 in
theorem lawShows_any (x : Tv) (s : ByteArray) (w : World) (hP : Pow w) (hx : x.ok w) :
    Calls Tryd.prog 7 #[x.val, .string s] w fun e w' => e = .returned (.bool true) ∧ Below w.heap.size w w' := by
  have A := Lib.hid (fun (w' : World) (hb : Below w.heap.size w w') => awake_any w' (hP.below hb))
  have HX := Lib.hid hx
  have HPW := Lib.hid hP
  have SX := Lib.hid (fun w hx => small_tm x w hx)
  clear hx hP
  cases hfx : smallB x.t with
  | false =>
    rw [hfx] at SX
    clear hfx
    have hw : Below w.heap.size w (w.alloc (.cells #[.int .i64 x.t.kind, .string x.t.name, .int .i64 x.t.n, .slice x.a x.t.args.length x.c] 24)) := (Below.refl _ _).alloc (Nat.le_refl _) _
    have HB1 := Lib.hid (fun w' (h : Below (w.alloc (.cells #[.int .i64 x.t.kind, .string x.t.name, .int .i64 x.t.n, .slice x.a x.t.args.length x.c] 24)).heap.size (w.alloc (.cells #[.int .i64 x.t.kind, .string x.t.name, .int .i64 x.t.n, .slice x.a x.t.args.length x.c] 24)) w') => (box_new w (.int .i64 x.t.kind) (.string x.t.name) (.int .i64 x.t.n) (.slice x.a x.t.args.length x.c) 24).below h (by simp))
    have hwz : (w.alloc (.cells #[.int .i64 x.t.kind, .string x.t.name, .int .i64 x.t.n, .slice x.a x.t.args.length x.c] 24)).heap.size = w.heap.size + 1 := by simp
    obtain ⟨tx, ax, cx⟩ := x
    simp only [Tv.val] at *
    go_enter Tryd.func7, Tryd.ntmps7
    go_wp2_with fail
    obtain ⟨wb, hwb⟩ : ∃ wb, wb = (w.alloc (.cells #[.int .i64 tx.kind, .string tx.name, .int .i64 tx.n, .slice ax tx.args.length cx] 24)) := ⟨_, rfl⟩
    rw [← hwb] at hw HB1 hwz ⊢
    clear hwb
    have hb : Below wb.heap.size wb wb := Below.refl _ _
    have HWB := Lib.hid hw
    go_wp2_with fail
    refine (A.out _ hw).mono ?_; rintro e w1 ⟨rfl, hn⟩
    replace hb := below_next hb hn
    replace hw := below_next hw hn
    obtain ⟨p0, p1, p2, p3, _, _, _, _⟩ := HB1.out _ hb
    clear hn
    go_wp2_with fail
    refine (SX.out _ (HX.out.below hw)).mono ?_; rintro e w2 ⟨rfl, hn⟩
    clear p0 p1 p2 p3
    replace hb := below_next hb hn
    replace hw := below_next hw hn
    obtain ⟨p0, p1, p2, p3, _, _, _, _⟩ := HB1.out _ hb
    clear hn
    go_wp2_with fail
    go_ret
    exact ⟨rfl, hw⟩
  | true =>
    rw [hfx] at SX
    by_cases hs : s.size ≤ 100
    · have hsz : (s.size : Int) ≤ 100 := by omega
      have hpx := small_parts hfx
      have V := Lib.hid (fun w => pvar_any s w)
      have F := Lib.hid (fun v ts w h2 h3 => (show Calls Tryd.prog 33 #[.string s, v] w fun e w' => ∃ a c, e = .returned (.agg #[.int .i64 5, .string s, .int .i64 0, .slice a ts.length c]) ∧ Tv.ok w' ⟨.mk 5 s 0 ts, a, c⟩ ∧ Below w.heap.size w w' from
        (pfun_any s v ts w (by omega) h2 h3).mono (by rintro e w' ⟨⟨t, a, c⟩, rfl, ht, hk, hb⟩; simp only at ht; subst ht; exact ⟨a, c, rfl, hk, hb⟩)))
      have HS := Lib.hid hs
      have HF := Lib.hid hfx
      clear hfx hs hpx
      have hw : Below w.heap.size w (w.alloc (.cells #[.int .i64 x.t.kind, .string x.t.name, .int .i64 x.t.n, .slice x.a x.t.args.length x.c] 24)) := (Below.refl _ _).alloc (Nat.le_refl _) _
      have HB1 := Lib.hid (fun w' (h : Below (w.alloc (.cells #[.int .i64 x.t.kind, .string x.t.name, .int .i64 x.t.n, .slice x.a x.t.args.length x.c] 24)).heap.size (w.alloc (.cells #[.int .i64 x.t.kind, .string x.t.name, .int .i64 x.t.n, .slice x.a x.t.args.length x.c] 24)) w') => (box_new w (.int .i64 x.t.kind) (.string x.t.name) (.int .i64 x.t.n) (.slice x.a x.t.args.length x.c) 24).below h (by simp))
      have hwz : (w.alloc (.cells #[.int .i64 x.t.kind, .string x.t.name, .int .i64 x.t.n, .slice x.a x.t.args.length x.c] 24)).heap.size = w.heap.size + 1 := by simp
      obtain ⟨tx, ax, cx⟩ := x
      simp only [Tv.val] at *
      go_enter Tryd.func7, Tryd.ntmps7
      go_wp2_with fail
      obtain ⟨wb, hwb⟩ : ∃ wb, wb = (w.alloc (.cells #[.int .i64 tx.kind, .string tx.name, .int .i64 tx.n, .slice ax tx.args.length cx] 24)) := ⟨_, rfl⟩
      rw [← hwb] at hw HB1 hwz ⊢
      clear hwb
      have hb : Below wb.heap.size wb wb := Below.refl _ _
      have HWB := Lib.hid hw
      go_wp2_with fail
      refine (A.out _ hw).mono ?_; rintro e w1 ⟨rfl, hn⟩
      replace hb := below_next hb hn
      replace hw := below_next hw hn
      obtain ⟨p0, p1, p2, p3, _, _, _, _⟩ := HB1.out _ hb
      clear hn
      go_wp2_with fail
      refine (SX.out _ (HX.out.below hw)).mono ?_; rintro e w2 ⟨rfl, hn⟩
      clear p0 p1 p2 p3
      replace hb := below_next hb hn
      replace hw := below_next hw hn
      obtain ⟨p0, p1, p2, p3, _, _, _, _⟩ := HB1.out _ hb
      clear hn
      go_wp2_with fail
      have hok := HX.out.below hw
      have hm := tms_two w2 ⟨tx, ax, cx⟩ ⟨tx, ax, cx⟩ hok hok 24
      refine (F.out _ [tx, tx] _ hm (by simp)).mono ?_; rintro e w3 ⟨a3, c3, rfl, hk3, hn⟩
      replace hb := (hb.alloc hb.size _).trans (hn.mono (by have := hb.size; simp; omega))
      replace hw := (hw.alloc hw.size _).trans (hn.mono (by have := hw.size; simp; omega))
      clear hn hm p0 p1 p2 p3
      simp only [List.length_cons, List.length_nil, Nat.zero_add, Nat.reduceAdd] at *
      go_wp2_with fail
      refine (V.out _).mono ?_; rintro e w4 ⟨rfl, hn⟩
      go_wp2_with fail
      obtain ⟨wc, hwc⟩ : ∃ wc, wc = (w4.alloc (.cells #[.int .i64 1, .string s, .int .i64 0, .slice none 0 0] 24)) := ⟨_, rfl⟩
      have h34 : w3.heap.size + 1 ≤ w4.heap.size := by have := hn.size; simp at this; omega
      have hz4 : wc.heap.size = w4.heap.size + 1 := by rw [hwc]; simp
      have hz3 := hb.size
      have hb4 : Below w3.heap.size w3 w4 := below_box hn
      have hbc : Below w4.heap.size w4 wc := by rw [hwc]; exact (Below.refl _ _).alloc (Nat.le_refl _) _
      have hc := below_next hb (below_next hb4 hbc)
      have hwC := below_next hw (below_next hb4 hbc)
      have b5 : Box w4 w3.heap.size (.int .i64 5) (.string s) (.int .i64 0) (.slice a3 2 c3) := (box_new w3 _ _ _ _ _).below hn (by simp)
      have KEEP := Lib.hid (fun (W : World) (h : Below wc.heap.size wc W) =>
        (show (Below wc.heap.size wc W ∧ W.cell? ⟨w.heap.size, 0, none⟩ = some (.int .i64 tx.kind) ∧ W.cell? ⟨w.heap.size, 1, none⟩ = some (.string tx.name) ∧ W.cell? ⟨w.heap.size, 2, none⟩ = some (.int .i64 tx.n) ∧ W.cell? ⟨w.heap.size, 3, none⟩ = some (.slice ax tx.args.length cx) ∧ W.cell? ⟨w3.heap.size, 0, none⟩ = some (.int .i64 5) ∧ W.cell? ⟨w3.heap.size, 1, none⟩ = some (.string s) ∧ W.cell? ⟨w3.heap.size, 2, none⟩ = some (.int .i64 0) ∧ W.cell? ⟨w3.heap.size, 3, none⟩ = some (.slice a3 2 c3) ∧ W.cell? ⟨w4.heap.size, 0, none⟩ = some (.int .i64 1) ∧ W.cell? ⟨w4.heap.size, 1, none⟩ = some (.string s) ∧ W.cell? ⟨w4.heap.size, 2, none⟩ = some (.int .i64 0) ∧ W.cell? ⟨w4.heap.size, 3, none⟩ = some (.slice none 0 0)) from
        (by
          have k2 := HB1.out W (hc.trans (h.mono hc.size))
          have k5 := (b5.below hbc (by omega)).below h (by omega)
          have k6 := (box_next w4 w4.heap.size rfl (.int .i64 1) (.string s) (.int .i64 0) (.slice none 0 0) 24).below (B := wc.heap.size) (w1 := W) (by rw [← hwc]; exact h) (by omega)
          exact ⟨h, k2.c0, k2.c1, k2.c2, k2.c3, k5.c0, k5.c1, k5.c2, k5.c3, k6.c0, k6.c1, k6.c2, k6.c3⟩)))
      have KA := Lib.hid (fun (W : World) (o : Obj) (h : Below wc.heap.size wc W) => h.alloc h.size o)
      have hwn : ∀ x ∈ tx.all, x.name.size ≤ 100 := within_names HF.out
      have hpx := small_parts HF.out
      have hwt := wtT_small tx hwn
      have hwf : wtT (.mk 5 s 0 [tx, tx]) = s.size + 30 + (wtT tx + (wtT tx + 0)) := by rw [wtT, wtL, wtL, wtL]
      have hws := HS.out
      have PS := Lib.hid (fun (W : World) (h : Below wc.heap.size wc W) => (pshow_tm ⟨tx, ax, cx⟩ W (HX.out.below (hwC.trans (h.mono hwC.size))) (HPW.out.below (hwC.trans (h.mono hwC.size))) (show wtT tx ≤ 100000000 by omega)).mono (fun e w' (hh : e = .returned (.string ⟨(showT tx).toArray⟩) ∧ Below W.heap.size W w') => And.intro hh.1 (below_next h hh.2)))
      have RS := Lib.hid (fun (W : World) (h : Below wc.heap.size wc W) => (show_tm tx.parts ⟨tx, ax, cx⟩ W (Nat.le_refl _) (show wtT tx ≤ 100000000 by omega) (HX.out.below (hwC.trans (h.mono hwC.size)))).mono (fun e w' (hh : e = .returned (.string ⟨(showT tx).toArray⟩) ∧ (showT tx).length + 4 ≤ wtT tx ∧ Below W.heap.size W w') => And.intro hh.1 (And.intro hh.2.1 (below_next h hh.2.2))))
      have h3c : Below w3.heap.size w3 wc := below_next hb4 hbc
      have PF := Lib.hid (fun (W : World) (h : Below wc.heap.size wc W) => (pshow_tm ⟨.mk 5 s 0 [tx, tx], a3, c3⟩ W (hk3.below (h3c.trans (h.mono h3c.size))) (HPW.out.below (hwC.trans (h.mono hwC.size))) (show wtT (.mk 5 s 0 [tx, tx]) ≤ 100000000 by omega)).mono (fun e w' (hh : e = .returned (.string ⟨(showT (.mk 5 s 0 [tx, tx])).toArray⟩) ∧ Below W.heap.size W w') => And.intro hh.1 (below_next h hh.2)))
      have RF := Lib.hid (fun (W : World) (h : Below wc.heap.size wc W) =>
        (show Calls Tryd.prog 37 #[.string s, .slice (some ⟨W.heap.size, 0, none⟩) 2 2] (W.alloc (.cells #[.int .i64 tx.kind, .string tx.name, .int .i64 tx.n, .slice ax tx.args.length cx, .int .i64 tx.kind, .string tx.name, .int .i64 tx.n, .slice ax tx.args.length cx] 24)) (fun e w' => ∃ g, e = .returned (.agg #[.int .i64 5, .string s, .int .i64 0, .slice (some ⟨g, 0, none⟩) 2 2]) ∧ Tv.ok w' ⟨.mk 5 s 0 [tx, tx], some ⟨g, 0, none⟩, 2⟩ ∧ Below wc.heap.size wc w') from
        (rfun_any s _ 2 2 _).mono (fun e w' hh => ⟨W.heap.size, hh.1,
          (fun_two (HX.out.below (hwC.trans (h.mono hwC.size))) hk3.1).below hh.2, (KA.out _ _ h).trans (hh.2.mono (Nat.le_trans h.size (by simp)))⟩)))
      have RV := Lib.hid (fun (W : World) (h : Below wc.heap.size wc W) => (rvar_any s W).mono (fun e w' hh => And.intro hh.1 (below_next h hh.2)))
      have EF := Lib.hid (fun (W : World) (g : Nat) (h : Below wc.heap.size wc W) (hg : Tv.ok W ⟨.mk 5 s 0 [tx, tx], some ⟨g, 0, none⟩, 2⟩) =>
        (show Calls Tryd.prog 19 #[.agg #[.int .i64 5, .string s, .int .i64 0, .slice a3 2 c3], .agg #[.int .i64 5, .string s, .int .i64 0, .slice (some ⟨g, 0, none⟩) 2 2]] W (fun e w' => e = .returned (.bool true) ∧ Below wc.heap.size wc w') from
        (same_tm _ ⟨.mk 5 s 0 [tx, tx], a3, c3⟩ ⟨.mk 5 s 0 [tx, tx], some ⟨g, 0, none⟩, 2⟩ W (Nat.le_refl _) (hk3.below (h3c.trans (h.mono h3c.size))) hg).mono (fun e w' hh => ⟨hh.1.trans (by rw [eqT_true rfl]), below_next h hh.2⟩)))
      have hv := var_ok hk3.1
      have EV := Lib.hid (fun (W : World) (h : Below wc.heap.size wc W) =>
        (show Calls Tryd.prog 19 #[.agg #[.int .i64 1, .string s, .int .i64 0, .slice none 0 0], .agg #[.int .i64 1, .string s, .int .i64 0, .slice none 0 0]] W (fun e w' => e = .returned (.bool true) ∧ Below wc.heap.size wc w') from
        (same_tm _ ⟨.mk 1 s 0 [], none, 0⟩ ⟨.mk 1 s 0 [], none, 0⟩ W (Nat.le_refl _) (hv W) (hv W)).mono (fun e w' hh => ⟨hh.1.trans (by rw [eqT_true rfl]), below_next h hh.2⟩)))
      obtain ⟨q, hq⟩ : ∃ q : ByteArray, q = ⟨(showT tx).toArray⟩ := ⟨_, rfl⟩
      obtain ⟨s1, h1⟩ : ∃ s1 : ByteArray, s1 = s ++ ⟨#[40]⟩ := ⟨_, rfl⟩
      obtain ⟨s2, h2⟩ : ∃ s2 : ByteArray, s2 = s1 ++ q := ⟨_, rfl⟩
      obtain ⟨s3, h3⟩ : ∃ s3 : ByteArray, s3 = s2 ++ ⟨#[44, 32]⟩ := ⟨_, rfl⟩
      obtain ⟨s4, h4⟩ : ∃ s4 : ByteArray, s4 = s3 ++ q := ⟨_, rfl⟩
      obtain ⟨s5, h5⟩ : ∃ s5 : ByteArray, s5 = s4 ++ ⟨#[41]⟩ := ⟨_, rfl⟩
      have HCT := fun hq => cats hws hq h1 h2 h3 h4 h5
      rw [show_two, ← hq, ← h1, ← h2, ← h3, ← h4, ← h5] at PF
      rw [← hq] at PS
      replace RS := Lib.hid (fun W h => (RS.out W h).mono (fun e w' hh => And.intro (hh.1.trans (by rw [← hq])) (And.intro (HCT (by have := hh.2.1; rw [hq]; simp [ByteArray.size]; omega)) hh.2.2)))
      simp only [Tv.val, Tm.kind, Tm.name, Tm.n, Tm.args, List.length_cons, List.length_nil, Nat.zero_add, Nat.reduceAdd] at PS RS PF
      have h0 : Below wc.heap.size wc wc.drew := (Below.refl _ _).drew
      have HWC := Lib.hid hwC
      rw [← hwc]
      clear hq h1 h2 h3 h4 h5 HCT hwc h34 hz4 hz3 hb4 hbc hc b5 hn hok hwn hpx hwt hwf hws hv hwz hk3 hb hw hwC HX HB1 HWB A SX V F h3c
      go_region_held3 (fun W => Below wc.heap.size wc W ∧ W.cell? ⟨w.heap.size, 0, none⟩ = some (.int .i64 tx.kind) ∧ W.cell? ⟨w.heap.size, 1, none⟩ = some (.string tx.name) ∧ W.cell? ⟨w.heap.size, 2, none⟩ = some (.int .i64 tx.n) ∧ W.cell? ⟨w.heap.size, 3, none⟩ = some (.slice ax tx.args.length cx) ∧ W.cell? ⟨w3.heap.size, 0, none⟩ = some (.int .i64 5) ∧ W.cell? ⟨w3.heap.size, 1, none⟩ = some (.string s) ∧ W.cell? ⟨w3.heap.size, 2, none⟩ = some (.int .i64 0) ∧ W.cell? ⟨w3.heap.size, 3, none⟩ = some (.slice a3 2 c3) ∧ W.cell? ⟨w4.heap.size, 0, none⟩ = some (.int .i64 1) ∧ W.cell? ⟨w4.heap.size, 1, none⟩ = some (.string s) ∧ W.cell? ⟨w4.heap.size, 2, none⟩ = some (.int .i64 0) ∧ W.cell? ⟨w4.heap.size, 3, none⟩ = some (.slice none 0 0)) (first | exact KEEP.out _ (by assumption) | exact KEEP.out _ (KA.out _ _ (by assumption)))
        ((first
          | (go_at_call_has 35 (Value.slice ax tx.args.length cx); refine (PS.out _ (by assumption)).mono ?_; rintro e w' ⟨rfl, hn⟩)
          | (go_at_call 36; refine (RS.out _ (by assumption)).mono ?_; rintro e w' ⟨rfl, ⟨f1, f2, f3, f4, f5⟩, hn⟩)
          | (go_at_call 37; refine (RF.out _ (by assumption)).mono ?_; rintro e w' ⟨g, rfl, hg, hn⟩)
          | (go_at_call_has 19 (Value.slice a3 2 c3); refine (EF.out _ _ (by assumption) (by assumption)).mono ?_; rintro e w' ⟨rfl, hn⟩)
          | (go_at_call 38; refine (RV.out _ (by assumption)).mono ?_; rintro e w' ⟨rfl, hn⟩)
          | (go_at_call_has 19 (Value.slice none 0 0); refine (EV.out _ (by assumption)).mono ?_; rintro e w' ⟨rfl, hn⟩)
          | (go_at_call_has 35 (Value.slice a3 2 c3); refine (PF.out _ (by assumption)).mono ?_; rintro e w' ⟨rfl, hn⟩)))
      go_wp2_with fail
      go_ret
      exact ⟨rfl, below_next HWC.out (by assumption)⟩
    · have hsz : ¬ (s.size : Int) ≤ 100 := by omega
      clear hfx hs
      have hw : Below w.heap.size w (w.alloc (.cells #[.int .i64 x.t.kind, .string x.t.name, .int .i64 x.t.n, .slice x.a x.t.args.length x.c] 24)) := (Below.refl _ _).alloc (Nat.le_refl _) _
      have HB1 := Lib.hid (fun w' (h : Below (w.alloc (.cells #[.int .i64 x.t.kind, .string x.t.name, .int .i64 x.t.n, .slice x.a x.t.args.length x.c] 24)).heap.size (w.alloc (.cells #[.int .i64 x.t.kind, .string x.t.name, .int .i64 x.t.n, .slice x.a x.t.args.length x.c] 24)) w') => (box_new w (.int .i64 x.t.kind) (.string x.t.name) (.int .i64 x.t.n) (.slice x.a x.t.args.length x.c) 24).below h (by simp))
      have hwz : (w.alloc (.cells #[.int .i64 x.t.kind, .string x.t.name, .int .i64 x.t.n, .slice x.a x.t.args.length x.c] 24)).heap.size = w.heap.size + 1 := by simp
      obtain ⟨tx, ax, cx⟩ := x
      simp only [Tv.val] at *
      go_enter Tryd.func7, Tryd.ntmps7
      go_wp2_with fail
      obtain ⟨wb, hwb⟩ : ∃ wb, wb = (w.alloc (.cells #[.int .i64 tx.kind, .string tx.name, .int .i64 tx.n, .slice ax tx.args.length cx] 24)) := ⟨_, rfl⟩
      rw [← hwb] at hw HB1 hwz ⊢
      clear hwb
      have hb : Below wb.heap.size wb wb := Below.refl _ _
      have HWB := Lib.hid hw
      go_wp2_with fail
      refine (A.out _ hw).mono ?_; rintro e w1 ⟨rfl, hn⟩
      replace hb := below_next hb hn
      replace hw := below_next hw hn
      obtain ⟨p0, p1, p2, p3, _, _, _, _⟩ := HB1.out _ hb
      clear hn
      go_wp2_with fail
      refine (SX.out _ (HX.out.below hw)).mono ?_; rintro e w2 ⟨rfl, hn⟩
      clear p0 p1 p2 p3
      replace hb := below_next hb hn
      replace hw := below_next hw hn
      obtain ⟨p0, p1, p2, p3, _, _, _, _⟩ := HB1.out _ hb
      clear hn
      go_wp2_with fail
      go_ret
      exact ⟨rfl, hw⟩
end Go.Proofs.YtpdbnhhpibpbnaaDoor
