/-
  Layer 3's law of what is in a term, walked, from what the program's Vars, Ground, Has and Proper answer.
-/
import Derived.Test.YtpdbnhhpibpbnaaDoorVarsTm
import Derived.Test.YtpdbnhhpibpbnaaDoorInTm
import Derived.Test.YtpdbnhhpibpbnaaDoorSmallTm
import Derived.Test.YtpdbnhhpibpbnaaDoorTexts
import Derived.Test.YtpdbnhhpibpbnaaDoorAfter
namespace Go.Proofs.YtpdbnhhpibpbnaaDoor
open Go.RowKit

theorem boxes2 (w : World) (x y : Tv) : ∀ w', Below ((w.alloc (.cells #[.int .i64 x.t.kind, .string x.t.name, .int .i64 x.t.n, .slice x.a x.t.args.length x.c] 24)).alloc (.cells #[.int .i64 y.t.kind, .string y.t.name, .int .i64 y.t.n, .slice y.a y.t.args.length y.c] 24)).heap.size ((w.alloc (.cells #[.int .i64 x.t.kind, .string x.t.name, .int .i64 x.t.n, .slice x.a x.t.args.length x.c] 24)).alloc (.cells #[.int .i64 y.t.kind, .string y.t.name, .int .i64 y.t.n, .slice y.a y.t.args.length y.c] 24)) w' →
    Box w' (w.heap.size) (.int .i64 x.t.kind) (.string x.t.name) (.int .i64 x.t.n) (.slice x.a x.t.args.length x.c) ∧ Box w' (w.heap.size + 1) (.int .i64 y.t.kind) (.string y.t.name) (.int .i64 y.t.n) (.slice y.a y.t.args.length y.c) := by
  intro w' h
  have h1 := box_new w (.int .i64 x.t.kind) (.string x.t.name) (.int .i64 x.t.n) (.slice x.a x.t.args.length x.c) 24
  have h2 := box_new (w.alloc (.cells #[.int .i64 x.t.kind, .string x.t.name, .int .i64 x.t.n, .slice x.a x.t.args.length x.c] 24)) (.int .i64 y.t.kind) (.string y.t.name) (.int .i64 y.t.n) (.slice y.a y.t.args.length y.c) 24
  have e1 : (w.alloc (.cells #[.int .i64 x.t.kind, .string x.t.name, .int .i64 x.t.n, .slice x.a x.t.args.length x.c] 24)).heap.size = w.heap.size + 1 := by simp
  rw [e1] at h2
  refine ⟨?_, h2.below h (by simp)⟩
  exact (h1.below ((Below.refl _ _).alloc (Nat.le_refl _) _) (by simp)).below h (by first | (simp; done) | (simp; omega))

set_option maxRecDepth 100000 in
set_option maxHeartbeats 4000000 in
theorem lawHas_of
    (w : World) (AW : ∀ w' : World, Below w.heap.size w w' → Calls Tryd.prog 8 #[] w' fun e w'' => e = .returned (.bool true) ∧ Below w'.heap.size w' w'')
    (PVARS : ∀ (x : Tv) (w : World), x.ok w → x.t.parts ≤ 300 →
      Calls Tryd.prog 25 #[x.val] w fun e w' => ∃ v, e = .returned v ∧ Strs w' v x.t.vars ∧ Below w.heap.size w w')
    (PGROUND : ∀ (x : Tv) (w : World), x.ok w → x.t.parts ≤ 300 →
      Calls Tryd.prog 28 #[x.val] w fun e w' => e = .returned (.bool x.t.vars.isEmpty) ∧ Below w.heap.size w w')
    (PHAS : ∀ (x y : Tv) (w : World), x.ok w → y.ok w → x.t.parts ≤ 300 → y.t.parts ≤ 300 →
      Calls Tryd.prog 29 #[x.val, y.val] w fun e w' => e = .returned (.bool (inT x.t.all y.t)) ∧ Below w.heap.size w w')
    (PPROPER : ∀ (x y : Tv) (w : World), x.ok w → y.ok w → x.t.parts ≤ 300 → y.t.parts ≤ 300 →
      Calls Tryd.prog 31 #[x.val, y.val] w fun e w' => e = .returned (.bool (inT (allL x.t.args) y.t)) ∧ Below w.heap.size w w')
    (x y : Tv) (hx : x.ok w) (hy : y.ok w) :
    Calls Tryd.prog 6 #[x.val, y.val] w fun e w' => e = .returned (.bool true) ∧ Below w.heap.size w w' := by
  have A := Lib.hid AW
  have HX := Lib.hid (And.intro hx hy)
  have SX := Lib.hid (fun w hx => small_tm x w hx)
  have SY := Lib.hid (fun w hx => small_tm y w hx)
  clear AW hx hy
  cases hfx : smallB x.t with
  | false =>
    rw [hfx] at SX
    clear hfx PVARS PGROUND PHAS PPROPER
    have hw : Below w.heap.size w ((w.alloc (.cells #[.int .i64 x.t.kind, .string x.t.name, .int .i64 x.t.n, .slice x.a x.t.args.length x.c] 24)).alloc (.cells #[.int .i64 y.t.kind, .string y.t.name, .int .i64 y.t.n, .slice y.a y.t.args.length y.c] 24)) := ((Below.refl _ _).alloc (Nat.le_refl _) _).alloc (by simp) _
    have HB2 := Lib.hid (boxes2 w x y)
    obtain ⟨tx, ax, cx⟩ := x
    obtain ⟨ty, ay, cy⟩ := y
    simp only [Tv.val] at *
    go_enter Tryd.func6, Tryd.ntmps6
    go_wp2_with fail
    obtain ⟨wb, hwb⟩ : ∃ wb, wb = ((w.alloc (.cells #[.int .i64 tx.kind, .string tx.name, .int .i64 tx.n, .slice ax tx.args.length cx] 24)).alloc (.cells #[.int .i64 ty.kind, .string ty.name, .int .i64 ty.n, .slice ay ty.args.length cy] 24)) := ⟨_, rfl⟩
    rw [← hwb] at hw HB2 ⊢
    clear hwb
    have hb : Below wb.heap.size wb wb := Below.refl _ _
    have HWB := Lib.hid hw
    have HXB := Lib.hid (fun p : After wb => And.intro ((HX.out.1.below hw).below p.below) ((HX.out.2.below hw).below p.below))
    go_wp2_with fail
    refine (A.out _ hw).mono ?_; rintro e w1 ⟨rfl, hn⟩
    replace hb := below_next hb hn
    replace hw := below_next hw hn
    obtain ⟨⟨p0, p1, p2, p3, _, _, _, _⟩, ⟨q0, q1, q2, q3, _, _, _, _⟩⟩ := HB2.out _ hb
    clear hn
    go_wp2_with fail
    refine (SX.out _ (HX.out.1.below hw)).mono ?_; rintro e w2 ⟨rfl, hn⟩
    clear p0 p1 p2 p3 q0 q1 q2 q3
    replace hb := below_next hb hn
    replace hw := below_next hw hn
    obtain ⟨⟨p0, p1, p2, p3, _, _, _, _⟩, ⟨q0, q1, q2, q3, _, _, _, _⟩⟩ := HB2.out _ hb
    clear hn
    go_wp2_with fail
    go_ret
    exact ⟨rfl, hw⟩
  | true =>
    rw [hfx] at SX
    cases hfy : smallB y.t with
    | false =>
      rw [hfy] at SY
      clear hfx hfy PVARS PGROUND PHAS PPROPER
      have hw : Below w.heap.size w ((w.alloc (.cells #[.int .i64 x.t.kind, .string x.t.name, .int .i64 x.t.n, .slice x.a x.t.args.length x.c] 24)).alloc (.cells #[.int .i64 y.t.kind, .string y.t.name, .int .i64 y.t.n, .slice y.a y.t.args.length y.c] 24)) := ((Below.refl _ _).alloc (Nat.le_refl _) _).alloc (by simp) _
      have HB2 := Lib.hid (boxes2 w x y)
      obtain ⟨tx, ax, cx⟩ := x
      obtain ⟨ty, ay, cy⟩ := y
      simp only [Tv.val] at *
      go_enter Tryd.func6, Tryd.ntmps6
      go_wp2_with fail
      obtain ⟨wb, hwb⟩ : ∃ wb, wb = ((w.alloc (.cells #[.int .i64 tx.kind, .string tx.name, .int .i64 tx.n, .slice ax tx.args.length cx] 24)).alloc (.cells #[.int .i64 ty.kind, .string ty.name, .int .i64 ty.n, .slice ay ty.args.length cy] 24)) := ⟨_, rfl⟩
      rw [← hwb] at hw HB2 ⊢
      clear hwb
      have hb : Below wb.heap.size wb wb := Below.refl _ _
      have HWB := Lib.hid hw
      have HXB := Lib.hid (fun p : After wb => And.intro ((HX.out.1.below hw).below p.below) ((HX.out.2.below hw).below p.below))
      go_wp2_with fail
      refine (A.out _ hw).mono ?_; rintro e w1 ⟨rfl, hn⟩
      replace hb := below_next hb hn
      replace hw := below_next hw hn
      obtain ⟨⟨p0, p1, p2, p3, _, _, _, _⟩, ⟨q0, q1, q2, q3, _, _, _, _⟩⟩ := HB2.out _ hb
      clear hn
      go_wp2_with fail
      refine (SX.out _ (HX.out.1.below hw)).mono ?_; rintro e w2 ⟨rfl, hn⟩
      clear p0 p1 p2 p3 q0 q1 q2 q3
      replace hb := below_next hb hn
      replace hw := below_next hw hn
      obtain ⟨⟨p0, p1, p2, p3, _, _, _, _⟩, ⟨q0, q1, q2, q3, _, _, _, _⟩⟩ := HB2.out _ hb
      clear hn
      go_wp2_with fail
      refine (SY.out _ (HX.out.2.below hw)).mono ?_; rintro e w3 ⟨rfl, hn⟩
      clear p0 p1 p2 p3 q0 q1 q2 q3
      replace hb := below_next hb hn
      replace hw := below_next hw hn
      obtain ⟨⟨p0, p1, p2, p3, _, _, _, _⟩, ⟨q0, q1, q2, q3, _, _, _, _⟩⟩ := HB2.out _ hb
      clear hn
      go_wp2_with fail
      go_ret
      exact ⟨rfl, hw⟩
    | true =>
      rw [hfy] at SY
      have hpx := small_parts hfx
      have hpy := small_parts hfy
      have P1 := Lib.hid (fun w hx => PVARS x w hx hpx)
      have R1 := Lib.hid (fun w hx => vars_tm x w hx (by omega))
      have P2 := Lib.hid (fun w hx => PGROUND x w hx hpx)
      have P3 := Lib.hid (fun w hx hy => PHAS x y w hx hy hpx hpy)
      have R3 := Lib.hid (fun w hx hy => has_tm x y w hx hy (by omega))
      have P4 := Lib.hid (fun w hx hy => PPROPER x y w hx hy hpx hpy)
      have R4 := Lib.hid (fun w hx hy => proper_tm x y w hx hy (by omega))
      clear hfx hfy hpx hpy PVARS PGROUND PHAS PPROPER
      obtain ⟨h, hh⟩ : ∃ h, h = inT x.t.all y.t := ⟨_, rfl⟩
      obtain ⟨r, hr⟩ : ∃ r, r = inT (allL x.t.args) y.t := ⟨_, rfl⟩
      obtain ⟨zs, hz⟩ : ∃ zs, zs = x.t.vars := ⟨_, rfl⟩
      rw [← hh] at P3 R3
      rw [← hr] at P4 R4
      rw [← hz] at P1 R1 P2
      clear hh hr hz
      have hgz : ((zs.length : Int) == 0) = zs.isEmpty := by
        cases zs with
        | nil => rfl
        | cons a r => simp; omega
      have TX := Lib.hid (fun v u w hv hu => rtexts_any v u zs zs w hv hu)
      rw [decide_eq_true (rfl : zs = zs)] at TX
      obtain ⟨g, hg⟩ : ∃ g, g = zs.isEmpty := ⟨_, rfl⟩
      rw [← hg] at P2 hgz
      clear hg
      have hq0 : (g != g) = false := by simp
      have hq1 : (h == h) = true := by simp
      have hq2 : (r == r) = true := by simp
      have hw : Below w.heap.size w ((w.alloc (.cells #[.int .i64 x.t.kind, .string x.t.name, .int .i64 x.t.n, .slice x.a x.t.args.length x.c] 24)).alloc (.cells #[.int .i64 y.t.kind, .string y.t.name, .int .i64 y.t.n, .slice y.a y.t.args.length y.c] 24)) := ((Below.refl _ _).alloc (Nat.le_refl _) _).alloc (by simp) _
      have HB2 := Lib.hid (boxes2 w x y)
      obtain ⟨tx, ax, cx⟩ := x
      obtain ⟨ty, ay, cy⟩ := y
      simp only [Tv.val] at *
      go_enter Tryd.func6, Tryd.ntmps6
      go_wp2_with fail
      obtain ⟨wb, hwb⟩ : ∃ wb, wb = ((w.alloc (.cells #[.int .i64 tx.kind, .string tx.name, .int .i64 tx.n, .slice ax tx.args.length cx] 24)).alloc (.cells #[.int .i64 ty.kind, .string ty.name, .int .i64 ty.n, .slice ay ty.args.length cy] 24)) := ⟨_, rfl⟩
      rw [← hwb] at hw HB2 ⊢
      clear hwb
      have hb : Below wb.heap.size wb wb := Below.refl _ _
      have HWB := Lib.hid hw
      have HXB := Lib.hid (fun p : After wb => And.intro ((HX.out.1.below hw).below p.below) ((HX.out.2.below hw).below p.below))
      go_wp2_with fail
      refine (A.out _ hw).mono ?_; rintro e w1 ⟨rfl, hn⟩
      replace hb := below_next hb hn
      replace hw := below_next hw hn
      obtain ⟨⟨p0, p1, p2, p3, _, _, _, _⟩, ⟨q0, q1, q2, q3, _, _, _, _⟩⟩ := HB2.out _ hb
      clear hn
      go_wp2_with fail
      refine (SX.out _ (HX.out.1.below hw)).mono ?_; rintro e w2 ⟨rfl, hn⟩
      clear p0 p1 p2 p3 q0 q1 q2 q3
      replace hb := below_next hb hn
      replace hw := below_next hw hn
      obtain ⟨⟨p0, p1, p2, p3, _, _, _, _⟩, ⟨q0, q1, q2, q3, _, _, _, _⟩⟩ := HB2.out _ hb
      clear hn
      go_wp2_with fail
      refine (SY.out _ (HX.out.2.below hw)).mono ?_; rintro e w3 ⟨rfl, hn⟩
      clear p0 p1 p2 p3 q0 q1 q2 q3
      replace hb := below_next hb hn
      replace hw := below_next hw hn
      obtain ⟨⟨p0, p1, p2, p3, _, _, _, _⟩, ⟨q0, q1, q2, q3, _, _, _, _⟩⟩ := HB2.out _ hb
      clear hn
      go_wp2_with fail
      refine (P1.out _ (HX.out.1.below hw)).mono ?_; rintro e w4 ⟨u1, rfl, hu1, hn⟩
      clear p0 p1 p2 p3 q0 q1 q2 q3
      have HU := Lib.hid hu1
      obtain ⟨a1, c1, rfl, _, _⟩ := hu1
      replace hb := below_next hb hn
      replace hw := below_next hw hn
      obtain ⟨⟨p0, p1, p2, p3, _, _, _, _⟩, ⟨q0, q1, q2, q3, _, _, _, _⟩⟩ := HB2.out _ hb
      clear hn
      have HUB := Lib.hid (fun (p : After w4) => HU.out.below p.below)
      go_wp2_with fail
      refine (R1.out _ (HX.out.1.below hw)).mono ?_; rintro e w5 ⟨u2, rfl, hu2, _, hn⟩
      clear p0 p1 p2 p3 q0 q1 q2 q3
      have TT := Lib.hid (TX.out _ _ w5 (HU.out.below hn) hu2)
      clear hu2
      replace hb := below_next hb hn
      replace hw := below_next hw hn
      obtain ⟨⟨p0, p1, p2, p3, _, _, _, _⟩, ⟨q0, q1, q2, q3, _, _, _, _⟩⟩ := HB2.out _ hb
      clear hn
      go_wp2_with fail
      refine (TT.out).mono ?_; rintro e w6 ⟨rfl, hn⟩
      clear p0 p1 p2 p3 q0 q1 q2 q3
      replace hb := below_next hb hn
      replace hw := below_next hw hn
      obtain ⟨⟨p0, p1, p2, p3, _, _, _, _⟩, ⟨q0, q1, q2, q3, _, _, _, _⟩⟩ := HB2.out _ hb
      clear hn
      go_wp2_with fail
      refine (P2.out _ (HX.out.1.below hw)).mono ?_; rintro e w7 ⟨rfl, hn⟩
      clear p0 p1 p2 p3 q0 q1 q2 q3
      replace hb := below_next hb hn
      replace hw := below_next hw hn
      obtain ⟨⟨p0, p1, p2, p3, _, _, _, _⟩, ⟨q0, q1, q2, q3, _, _, _, _⟩⟩ := HB2.out _ hb
      clear hn
      clear p0 p1 p2 p3 q0 q1 q2 q3
      go_wp2_with fail
      have F0 := fun p : After wb => (HB2.out p.w p.below).1.c0
      have F1 := fun p : After wb => (HB2.out p.w p.below).1.c1
      have F2 := fun p : After wb => (HB2.out p.w p.below).1.c2
      have F3 := fun p : After wb => (HB2.out p.w p.below).1.c3
      have G0 := fun p : After wb => (HB2.out p.w p.below).2.c0
      have G1 := fun p : After wb => (HB2.out p.w p.below).2.c1
      have G2 := fun p : After wb => (HB2.out p.w p.below).2.c2
      have G3 := fun p : After wb => (HB2.out p.w p.below).2.c3
      refine wp_region_after hb (by kernel_rfl) (by kernel_rfl) ?_
      repeat (quiet_step ((first | (go_at_call 29; exact after_call (P3.out _ (HXB.out _).1 (HXB.out _).2)) | (go_at_call 30; exact after_call (R3.out _ (HXB.out _).1 (HXB.out _).2)) | (go_at_call 31; exact after_call (P4.out _ (HXB.out _).1 (HXB.out _).2)) | (go_at_call 32; exact after_call (R4.out _ (HXB.out _).1 (HXB.out _).2)))))
      refine wpQuiet_nil ?_
      intro _ hw'
      obtain ⟨⟨wq, hbq⟩, hw''⟩ := hw'
      subst hw''
      clear hw
      have hw := below_next HWB.out hbq
      go_wp2_with fail
      go_ret
      exact ⟨rfl, hw⟩
end Go.Proofs.YtpdbnhhpibpbnaaDoor
