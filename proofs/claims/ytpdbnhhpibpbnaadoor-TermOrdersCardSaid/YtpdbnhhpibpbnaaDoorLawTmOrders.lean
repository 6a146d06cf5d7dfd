/-
  Layer 3's law of the order, walked, from what the program's Compare and Same answer.
-/
import Derived.Test.YtpdbnhhpibpbnaaDoorOrderTm
import Derived.Test.YtpdbnhhpibpbnaaDoorSmallTm
import Derived.Test.YtpdbnhhpibpbnaaDoorAfter
namespace Go.Proofs.YtpdbnhhpibpbnaaDoor
open Go.RowKit

theorem boxes3 (w : World) (x y z : Tv) : ∀ w', Below (((w.alloc (.cells #[.int .i64 x.t.kind, .string x.t.name, .int .i64 x.t.n, .slice x.a x.t.args.length x.c] 24)).alloc (.cells #[.int .i64 y.t.kind, .string y.t.name, .int .i64 y.t.n, .slice y.a y.t.args.length y.c] 24)).alloc (.cells #[.int .i64 z.t.kind, .string z.t.name, .int .i64 z.t.n, .slice z.a z.t.args.length z.c] 24)).heap.size (((w.alloc (.cells #[.int .i64 x.t.kind, .string x.t.name, .int .i64 x.t.n, .slice x.a x.t.args.length x.c] 24)).alloc (.cells #[.int .i64 y.t.kind, .string y.t.name, .int .i64 y.t.n, .slice y.a y.t.args.length y.c] 24)).alloc (.cells #[.int .i64 z.t.kind, .string z.t.name, .int .i64 z.t.n, .slice z.a z.t.args.length z.c] 24)) w' →
    Box w' (w.heap.size) (.int .i64 x.t.kind) (.string x.t.name) (.int .i64 x.t.n) (.slice x.a x.t.args.length x.c) ∧ Box w' (w.heap.size + 1) (.int .i64 y.t.kind) (.string y.t.name) (.int .i64 y.t.n) (.slice y.a y.t.args.length y.c) ∧ Box w' (w.heap.size + 1 + 1) (.int .i64 z.t.kind) (.string z.t.name) (.int .i64 z.t.n) (.slice z.a z.t.args.length z.c) := by
  intro w' h
  have h1 := box_new w (.int .i64 x.t.kind) (.string x.t.name) (.int .i64 x.t.n) (.slice x.a x.t.args.length x.c) 24
  have h2 := box_new (w.alloc (.cells #[.int .i64 x.t.kind, .string x.t.name, .int .i64 x.t.n, .slice x.a x.t.args.length x.c] 24)) (.int .i64 y.t.kind) (.string y.t.name) (.int .i64 y.t.n) (.slice y.a y.t.args.length y.c) 24
  have h3 := box_new ((w.alloc (.cells #[.int .i64 x.t.kind, .string x.t.name, .int .i64 x.t.n, .slice x.a x.t.args.length x.c] 24)).alloc (.cells #[.int .i64 y.t.kind, .string y.t.name, .int .i64 y.t.n, .slice y.a y.t.args.length y.c] 24)) (.int .i64 z.t.kind) (.string z.t.name) (.int .i64 z.t.n) (.slice z.a z.t.args.length z.c) 24
  have e1 : (w.alloc (.cells #[.int .i64 x.t.kind, .string x.t.name, .int .i64 x.t.n, .slice x.a x.t.args.length x.c] 24)).heap.size = w.heap.size + 1 := by simp
  have e2 : ((w.alloc (.cells #[.int .i64 x.t.kind, .string x.t.name, .int .i64 x.t.n, .slice x.a x.t.args.length x.c] 24)).alloc (.cells #[.int .i64 y.t.kind, .string y.t.name, .int .i64 y.t.n, .slice y.a y.t.args.length y.c] 24)).heap.size = w.heap.size + 1 + 1 := by simp
  rw [e1] at h2
  rw [e2] at h3
  have o : ∀ a b : Nat, a < b → a < b + 1 := fun _ _ h => by omega
  refine ⟨?_, ?_, h3.below h (by simp)⟩
  · exact ((h1.below ((Below.refl _ _).alloc (Nat.le_refl _) _) (by simp)).below ((Below.refl _ _).alloc (Nat.le_refl _) _) (by first | (simp; done) | (simp; omega))).below h (by first | (simp; done) | (simp; omega))
  · exact (h2.below ((Below.refl _ _).alloc (Nat.le_refl _) _) (by simp)).below h (by first | (simp; done) | (simp; omega))

set_option maxRecDepth 100000 in
set_option maxHeartbeats 4000000 in
theorem lawOrders_of
    (w : World) (AW : ∀ w' : World, Below w.heap.size w w' → Calls Tryd.prog 8 #[] w' fun e w'' => e = .returned (.bool true) ∧ Below w'.heap.size w' w'')
    (PCMP : ∀ (x y : Tv) (w : World), x.ok w → y.ok w → x.t.parts ≤ 300 → y.t.parts ≤ 300 →
      Calls Tryd.prog 16 #[x.val, y.val] w fun e w' => e = .returned (.int .i64 (cmpT x.t y.t)) ∧ Below w.heap.size w w')
    (PSAME : ∀ (x y : Tv) (w : World), x.ok w → y.ok w → x.t.parts ≤ 300 → y.t.parts ≤ 300 →
      Calls Tryd.prog 18 #[x.val, y.val] w fun e w' => e = .returned (.bool (eqT x.t y.t)) ∧ Below w.heap.size w w')
    (x y z : Tv) (hx : x.ok w) (hy : y.ok w) (hz : z.ok w) :
    Calls Tryd.prog 4 #[x.val, y.val, z.val] w fun e w' => e = .returned (.bool true) ∧ Below w.heap.size w w' := by
  have A := Lib.hid AW
  have HX := Lib.hid (And.intro hx (And.intro hy hz))
  have SX := Lib.hid (fun w hx => small_tm x w hx)
  have SY := Lib.hid (fun w hx => small_tm y w hx)
  have SZ := Lib.hid (fun w hx => small_tm z w hx)
  clear AW hx hy hz
  cases hfx : smallB x.t with
  | false =>
    rw [hfx] at SX
    clear hfx PCMP PSAME
    have hw : Below w.heap.size w (((w.alloc (.cells #[.int .i64 x.t.kind, .string x.t.name, .int .i64 x.t.n, .slice x.a x.t.args.length x.c] 24)).alloc (.cells #[.int .i64 y.t.kind, .string y.t.name, .int .i64 y.t.n, .slice y.a y.t.args.length y.c] 24)).alloc (.cells #[.int .i64 z.t.kind, .string z.t.name, .int .i64 z.t.n, .slice z.a z.t.args.length z.c] 24)) := (((Below.refl _ _).alloc (Nat.le_refl _) _).alloc (by simp) _).alloc (by simp; omega) _
    have HB3 := Lib.hid (boxes3 w x y z)
    obtain ⟨tx, ax, cx⟩ := x
    obtain ⟨ty, ay, cy⟩ := y
    obtain ⟨tz, az, cz⟩ := z
    simp only [Tv.val] at *
    go_enter Tryd.func4, Tryd.ntmps4
    go_wp2_with fail
    obtain ⟨wb, hwb⟩ : ∃ wb, wb = (((w.alloc (.cells #[.int .i64 tx.kind, .string tx.name, .int .i64 tx.n, .slice ax tx.args.length cx] 24)).alloc (.cells #[.int .i64 ty.kind, .string ty.name, .int .i64 ty.n, .slice ay ty.args.length cy] 24)).alloc (.cells #[.int .i64 tz.kind, .string tz.name, .int .i64 tz.n, .slice az tz.args.length cz] 24)) := ⟨_, rfl⟩
    rw [← hwb] at hw HB3 ⊢
    clear hwb
    have hb : Below wb.heap.size wb wb := Below.refl _ _
    go_wp2_with fail
    refine (A.out _ hw).mono ?_; rintro e w1 ⟨rfl, hn⟩
    replace hb := below_next hb hn
    replace hw := below_next hw hn
    obtain ⟨⟨p0, p1, p2, p3, _, _, _, _⟩, ⟨q0, q1, q2, q3, _, _, _, _⟩, ⟨r0, r1, r2, r3, _, _, _, _⟩⟩ := HB3.out _ hb
    clear hn
    go_wp2_with fail
    refine (SX.out _ (HX.out.1.below hw)).mono ?_; rintro e w2 ⟨rfl, hn⟩
    clear p0 p1 p2 p3 q0 q1 q2 q3 r0 r1 r2 r3
    replace hb := below_next hb hn
    replace hw := below_next hw hn
    obtain ⟨⟨p0, p1, p2, p3, _, _, _, _⟩, ⟨q0, q1, q2, q3, _, _, _, _⟩, ⟨r0, r1, r2, r3, _, _, _, _⟩⟩ := HB3.out _ hb
    clear hn
    go_wp2_with fail
    go_ret
    exact ⟨rfl, hw⟩
  | true =>
    rw [hfx] at SX
    cases hfy : smallB y.t with
    | false =>
      rw [hfy] at SY
      clear hfx hfy PCMP PSAME
      have hw : Below w.heap.size w (((w.alloc (.cells #[.int .i64 x.t.kind, .string x.t.name, .int .i64 x.t.n, .slice x.a x.t.args.length x.c] 24)).alloc (.cells #[.int .i64 y.t.kind, .string y.t.name, .int .i64 y.t.n, .slice y.a y.t.args.length y.c] 24)).alloc (.cells #[.int .i64 z.t.kind, .string z.t.name, .int .i64 z.t.n, .slice z.a z.t.args.length z.c] 24)) := (((Below.refl _ _).alloc (Nat.le_refl _) _).alloc (by simp) _).alloc (by simp; omega) _
      have HB3 := Lib.hid (boxes3 w x y z)
      obtain ⟨tx, ax, cx⟩ := x
      obtain ⟨ty, ay, cy⟩ := y
      obtain ⟨tz, az, cz⟩ := z
      simp only [Tv.val] at *
      go_enter Tryd.func4, Tryd.ntmps4
      go_wp2_with fail
      obtain ⟨wb, hwb⟩ : ∃ wb, wb = (((w.alloc (.cells #[.int .i64 tx.kind, .string tx.name, .int .i64 tx.n, .slice ax tx.args.length cx] 24)).alloc (.cells #[.int .i64 ty.kind, .string ty.name, .int .i64 ty.n, .slice ay ty.args.length cy] 24)).alloc (.cells #[.int .i64 tz.kind, .string tz.name, .int .i64 tz.n, .slice az tz.args.length cz] 24)) := ⟨_, rfl⟩
      rw [← hwb] at hw HB3 ⊢
      clear hwb
      have hb : Below wb.heap.size wb wb := Below.refl _ _
      go_wp2_with fail
      refine (A.out _ hw).mono ?_; rintro e w1 ⟨rfl, hn⟩
      replace hb := below_next hb hn
      replace hw := below_next hw hn
      obtain ⟨⟨p0, p1, p2, p3, _, _, _, _⟩, ⟨q0, q1, q2, q3, _, _, _, _⟩, ⟨r0, r1, r2, r3, _, _, _, _⟩⟩ := HB3.out _ hb
      clear hn
      go_wp2_with fail
      refine (SX.out _ (HX.out.1.below hw)).mono ?_; rintro e w2 ⟨rfl, hn⟩
      clear p0 p1 p2 p3 q0 q1 q2 q3 r0 r1 r2 r3
      replace hb := below_next hb hn
      replace hw := below_next hw hn
      obtain ⟨⟨p0, p1, p2, p3, _, _, _, _⟩, ⟨q0, q1, q2, q3, _, _, _, _⟩, ⟨r0, r1, r2, r3, _, _, _, _⟩⟩ := HB3.out _ hb
      clear hn
      go_wp2_with fail
      refine (SY.out _ (HX.out.2.1.below hw)).mono ?_; rintro e w3 ⟨rfl, hn⟩
      clear p0 p1 p2 p3 q0 q1 q2 q3 r0 r1 r2 r3
      replace hb := below_next hb hn
      replace hw := below_next hw hn
      obtain ⟨⟨p0, p1, p2, p3, _, _, _, _⟩, ⟨q0, q1, q2, q3, _, _, _, _⟩, ⟨r0, r1, r2, r3, _, _, _, _⟩⟩ := HB3.out _ hb
      clear hn
      go_wp2_with fail
      go_ret
      exact ⟨rfl, hw⟩
    | true =>
      rw [hfy] at SY
      cases hfz : smallB z.t with
      | false =>
        rw [hfz] at SZ
        clear hfx hfy hfz PCMP PSAME
        have hw : Below w.heap.size w (((w.alloc (.cells #[.int .i64 x.t.kind, .string x.t.name, .int .i64 x.t.n, .slice x.a x.t.args.length x.c] 24)).alloc (.cells #[.int .i64 y.t.kind, .string y.t.name, .int .i64 y.t.n, .slice y.a y.t.args.length y.c] 24)).alloc (.cells #[.int .i64 z.t.kind, .string z.t.name, .int .i64 z.t.n, .slice z.a z.t.args.length z.c] 24)) := (((Below.refl _ _).alloc (Nat.le_refl _) _).alloc (by simp) _).alloc (by simp; omega) _
        have HB3 := Lib.hid (boxes3 w x y z)
        obtain ⟨tx, ax, cx⟩ := x
        obtain ⟨ty, ay, cy⟩ := y
        obtain ⟨tz, az, cz⟩ := z
        simp only [Tv.val] at *
        go_enter Tryd.func4, Tryd.ntmps4
        go_wp2_with fail
        obtain ⟨wb, hwb⟩ : ∃ wb, wb = (((w.alloc (.cells #[.int .i64 tx.kind, .string tx.name, .int .i64 tx.n, .slice ax tx.args.length cx] 24)).alloc (.cells #[.int .i64 ty.kind, .string ty.name, .int .i64 ty.n, .slice ay ty.args.length cy] 24)).alloc (.cells #[.int .i64 tz.kind, .string tz.name, .int .i64 tz.n, .slice az tz.args.length cz] 24)) := ⟨_, rfl⟩
        rw [← hwb] at hw HB3 ⊢
        clear hwb
        have hb : Below wb.heap.size wb wb := Below.refl _ _
        go_wp2_with fail
        refine (A.out _ hw).mono ?_; rintro e w1 ⟨rfl, hn⟩
        replace hb := below_next hb hn
        replace hw := below_next hw hn
        obtain ⟨⟨p0, p1, p2, p3, _, _, _, _⟩, ⟨q0, q1, q2, q3, _, _, _, _⟩, ⟨r0, r1, r2, r3, _, _, _, _⟩⟩ := HB3.out _ hb
        clear hn
        go_wp2_with fail
        refine (SX.out _ (HX.out.1.below hw)).mono ?_; rintro e w2 ⟨rfl, hn⟩
        clear p0 p1 p2 p3 q0 q1 q2 q3 r0 r1 r2 r3
        replace hb := below_next hb hn
        replace hw := below_next hw hn
        obtain ⟨⟨p0, p1, p2, p3, _, _, _, _⟩, ⟨q0, q1, q2, q3, _, _, _, _⟩, ⟨r0, r1, r2, r3, _, _, _, _⟩⟩ := HB3.out _ hb
        clear hn
        go_wp2_with fail
        refine (SY.out _ (HX.out.2.1.below hw)).mono ?_; rintro e w3 ⟨rfl, hn⟩
        clear p0 p1 p2 p3 q0 q1 q2 q3 r0 r1 r2 r3
        replace hb := below_next hb hn
        replace hw := below_next hw hn
        obtain ⟨⟨p0, p1, p2, p3, _, _, _, _⟩, ⟨q0, q1, q2, q3, _, _, _, _⟩, ⟨r0, r1, r2, r3, _, _, _, _⟩⟩ := HB3.out _ hb
        clear hn
        go_wp2_with fail
        refine (SZ.out _ (HX.out.2.2.below hw)).mono ?_; rintro e w4 ⟨rfl, hn⟩
        clear p0 p1 p2 p3 q0 q1 q2 q3 r0 r1 r2 r3
        replace hb := below_next hb hn
        replace hw := below_next hw hn
        obtain ⟨⟨p0, p1, p2, p3, _, _, _, _⟩, ⟨q0, q1, q2, q3, _, _, _, _⟩, ⟨r0, r1, r2, r3, _, _, _, _⟩⟩ := HB3.out _ hb
        clear hn
        go_wp2_with fail
        go_ret
        exact ⟨rfl, hw⟩
      | true =>
        rw [hfz] at SZ
        have hpx := small_parts hfx
        have hpy := small_parts hfy
        have hpz := small_parts hfz
        have PXY := Lib.hid (fun w hx hy => PCMP x y w hx hy hpx hpy)
        have PYX := Lib.hid (fun w hx hy => PCMP y x w hx hy hpy hpx)
        have PYZ := Lib.hid (fun w hx hy => PCMP y z w hx hy hpy hpz)
        have PXZ := Lib.hid (fun w hx hy => PCMP x z w hx hy hpx hpz)
        have RXY := Lib.hid (fun w hx hy => compare_tm x.t.parts x y w (Nat.le_refl _) hx hy)
        have EXY := Lib.hid (fun w hx hy => PSAME x y w hx hy hpx hpy)
        have FXY := Lib.hid (fun w hx hy => same_tm x.t.parts x y w (Nat.le_refl _) hx hy)
        have hyx : cmpT y.t x.t = - cmpT x.t y.t := cmpT_neg _ _
        have hle := fun a b => cmpT_le (a := x.t) (b := y.t) (c := z.t) a b
        have hbd := cmpT_bd x.t y.t
        have hie : ((cmpT x.t y.t == 0) = eqT x.t y.t) := by
          rw [Bool.eq_iff_iff, beq_iff_eq, eqT_iff]; exact cmpT_iff
        clear hfx hfy hfz hpx hpy hpz PCMP PSAME
        rw [hyx] at PYX
        clear hyx
        obtain ⟨n, hn0⟩ : ∃ n, n = cmpT x.t y.t := ⟨_, rfl⟩
        obtain ⟨m, hm0⟩ : ∃ m, m = cmpT y.t z.t := ⟨_, rfl⟩
        obtain ⟨l, hl0⟩ : ∃ l, l = cmpT x.t z.t := ⟨_, rfl⟩
        obtain ⟨r, hr0⟩ : ∃ r, r = eqT x.t y.t := ⟨_, rfl⟩
        rw [← hn0] at PXY RXY PYX hbd hie hle
        rw [← hm0] at PYZ hle
        rw [← hl0] at PXZ hle
        rw [← hr0] at EXY FXY hie
        clear hn0 hm0 hl0 hr0
        have hq1 : (n != n) = false := by simp
        have hq2 : (-n != -n) = false := by simp
        have hq3 : (r != r) = false := by simp
        have hq4 : IntKind.i64.wrap (-n) = -n := by rw [IntKind.wrap_i64]; omega
        have hw : Below w.heap.size w (((w.alloc (.cells #[.int .i64 x.t.kind, .string x.t.name, .int .i64 x.t.n, .slice x.a x.t.args.length x.c] 24)).alloc (.cells #[.int .i64 y.t.kind, .string y.t.name, .int .i64 y.t.n, .slice y.a y.t.args.length y.c] 24)).alloc (.cells #[.int .i64 z.t.kind, .string z.t.name, .int .i64 z.t.n, .slice z.a z.t.args.length z.c] 24)) := (((Below.refl _ _).alloc (Nat.le_refl _) _).alloc (by simp) _).alloc (by simp; omega) _
        have HB3 := Lib.hid (boxes3 w x y z)
        obtain ⟨tx, ax, cx⟩ := x
        obtain ⟨ty, ay, cy⟩ := y
        obtain ⟨tz, az, cz⟩ := z
        simp only [Tv.val] at *
        go_enter Tryd.func4, Tryd.ntmps4
        go_wp2_with fail
        obtain ⟨wb, hwb⟩ : ∃ wb, wb = (((w.alloc (.cells #[.int .i64 tx.kind, .string tx.name, .int .i64 tx.n, .slice ax tx.args.length cx] 24)).alloc (.cells #[.int .i64 ty.kind, .string ty.name, .int .i64 ty.n, .slice ay ty.args.length cy] 24)).alloc (.cells #[.int .i64 tz.kind, .string tz.name, .int .i64 tz.n, .slice az tz.args.length cz] 24)) := ⟨_, rfl⟩
        rw [← hwb] at hw HB3 ⊢
        clear hwb
        have HWB := Lib.hid hw
        have HXB := Lib.hid (fun p : After wb => And.intro ((HX.out.1.below hw).below p.below) (And.intro ((HX.out.2.1.below hw).below p.below) ((HX.out.2.2.below hw).below p.below)))
        have hb : Below wb.heap.size wb wb := Below.refl _ _
        go_wp2_with fail
        refine (A.out _ hw).mono ?_; rintro e w1 ⟨rfl, hn⟩
        replace hb := below_next hb hn
        replace hw := below_next hw hn
        obtain ⟨⟨p0, p1, p2, p3, _, _, _, _⟩, ⟨q0, q1, q2, q3, _, _, _, _⟩, ⟨r0, r1, r2, r3, _, _, _, _⟩⟩ := HB3.out _ hb
        clear hn
        go_wp2_with fail
        refine (SX.out _ (HX.out.1.below hw)).mono ?_; rintro e w2 ⟨rfl, hn⟩
        clear p0 p1 p2 p3 q0 q1 q2 q3 r0 r1 r2 r3
        replace hb := below_next hb hn
        replace hw := below_next hw hn
        obtain ⟨⟨p0, p1, p2, p3, _, _, _, _⟩, ⟨q0, q1, q2, q3, _, _, _, _⟩, ⟨r0, r1, r2, r3, _, _, _, _⟩⟩ := HB3.out _ hb
        clear hn
        go_wp2_with fail
        refine (SY.out _ (HX.out.2.1.below hw)).mono ?_; rintro e w3 ⟨rfl, hn⟩
        clear p0 p1 p2 p3 q0 q1 q2 q3 r0 r1 r2 r3
        replace hb := below_next hb hn
        replace hw := below_next hw hn
        obtain ⟨⟨p0, p1, p2, p3, _, _, _, _⟩, ⟨q0, q1, q2, q3, _, _, _, _⟩, ⟨r0, r1, r2, r3, _, _, _, _⟩⟩ := HB3.out _ hb
        clear hn
        go_wp2_with fail
        refine (SZ.out _ (HX.out.2.2.below hw)).mono ?_; rintro e w4 ⟨rfl, hn⟩
        clear p0 p1 p2 p3 q0 q1 q2 q3 r0 r1 r2 r3
        replace hb := below_next hb hn
        replace hw := below_next hw hn
        obtain ⟨⟨p0, p1, p2, p3, _, _, _, _⟩, ⟨q0, q1, q2, q3, _, _, _, _⟩, ⟨r0, r1, r2, r3, _, _, _, _⟩⟩ := HB3.out _ hb
        clear hn
        go_wp2_with fail
        refine (PXY.out _ (HX.out.1.below hw) (HX.out.2.1.below hw)).mono ?_; rintro e w5 ⟨rfl, hn⟩
        clear p0 p1 p2 p3 q0 q1 q2 q3 r0 r1 r2 r3
        replace hb := below_next hb hn
        replace hw := below_next hw hn
        obtain ⟨⟨p0, p1, p2, p3, _, _, _, _⟩, ⟨q0, q1, q2, q3, _, _, _, _⟩, ⟨r0, r1, r2, r3, _, _, _, _⟩⟩ := HB3.out _ hb
        clear hn
        clear p0 p1 p2 p3 q0 q1 q2 q3 r0 r1 r2 r3
        go_wp2_with fail
        have F0 := fun p : After wb => (HB3.out p.w p.below).1.c0
        have F1 := fun p : After wb => (HB3.out p.w p.below).1.c1
        have F2 := fun p : After wb => (HB3.out p.w p.below).1.c2
        have F3 := fun p : After wb => (HB3.out p.w p.below).1.c3
        have G0 := fun p : After wb => (HB3.out p.w p.below).2.1.c0
        have G1 := fun p : After wb => (HB3.out p.w p.below).2.1.c1
        have G2 := fun p : After wb => (HB3.out p.w p.below).2.1.c2
        have G3 := fun p : After wb => (HB3.out p.w p.below).2.1.c3
        have J0 := fun p : After wb => (HB3.out p.w p.below).2.2.c0
        have J1 := fun p : After wb => (HB3.out p.w p.below).2.2.c1
        have J2 := fun p : After wb => (HB3.out p.w p.below).2.2.c2
        have J3 := fun p : After wb => (HB3.out p.w p.below).2.2.c3
        refine wp_region_after hb (by kernel_rfl) (by kernel_rfl) ?_
        repeat (quiet_step ((first | (go_at_call 17; exact after_call (RXY.out _ (HXB.out _).1 (HXB.out _).2.1)) | (go_at_call 16; exact after_call (PYX.out _ (HXB.out _).2.1 (HXB.out _).1)) | (go_at_call 16; exact after_call (PYZ.out _ (HXB.out _).2.1 (HXB.out _).2.2)) | (go_at_call 16; exact after_call (PXZ.out _ (HXB.out _).1 (HXB.out _).2.2)) | (go_at_call 18; exact after_call (EXY.out _ (HXB.out _).1 (HXB.out _).2.1)) | (go_at_call 19; exact after_call (FXY.out _ (HXB.out _).1 (HXB.out _).2.1)))))
        refine wpQuiet_nil ?_
        intro _ hw'
        obtain ⟨⟨wq, hbq⟩, hw''⟩ := hw'
        subst hw''
        clear F0 F1 F2 F3 G0 G1 G2 G3 J0 J1 J2 J3 hb hw
        have hw := below_next HWB.out hbq
        have hb := hbq
        clear hbq
        obtain ⟨⟨p0, p1, p2, p3, _, _, _, _⟩, ⟨q0, q1, q2, q3, _, _, _, _⟩, ⟨r0, r1, r2, r3, _, _, _, _⟩⟩ := HB3.out _ hb
        by_cases h1 : 0 < n
        · clear hie hbd hle
          go_wp2_with fail
          go_ret
          exact ⟨rfl, hw⟩
        by_cases h2 : 0 < m
        · clear hie hbd hle
          go_wp2_with fail
          refine (PYZ.out _ (HX.out.2.1.below hw) (HX.out.2.2.below hw)).mono ?_; rintro e w6 ⟨rfl, hn⟩
          clear p0 p1 p2 p3 q0 q1 q2 q3 r0 r1 r2 r3
          replace hb := below_next hb hn
          replace hw := below_next hw hn
          obtain ⟨⟨p0, p1, p2, p3, _, _, _, _⟩, ⟨q0, q1, q2, q3, _, _, _, _⟩, ⟨r0, r1, r2, r3, _, _, _, _⟩⟩ := HB3.out _ hb
          clear hn
          go_wp2_with fail
          go_ret
          exact ⟨rfl, hw⟩
        have h3 : l ≤ 0 := hle (by omega) (by omega)
        clear hie hbd hle
        go_wp2_with fail
        refine (PYZ.out _ (HX.out.2.1.below hw) (HX.out.2.2.below hw)).mono ?_; rintro e w7 ⟨rfl, hn⟩
        clear p0 p1 p2 p3 q0 q1 q2 q3 r0 r1 r2 r3
        replace hb := below_next hb hn
        replace hw := below_next hw hn
        obtain ⟨⟨p0, p1, p2, p3, _, _, _, _⟩, ⟨q0, q1, q2, q3, _, _, _, _⟩, ⟨r0, r1, r2, r3, _, _, _, _⟩⟩ := HB3.out _ hb
        clear hn
        go_wp2_with fail
        refine (PXZ.out _ (HX.out.1.below hw) (HX.out.2.2.below hw)).mono ?_; rintro e w8 ⟨rfl, hn⟩
        clear p0 p1 p2 p3 q0 q1 q2 q3 r0 r1 r2 r3
        replace hb := below_next hb hn
        replace hw := below_next hw hn
        obtain ⟨⟨p0, p1, p2, p3, _, _, _, _⟩, ⟨q0, q1, q2, q3, _, _, _, _⟩, ⟨r0, r1, r2, r3, _, _, _, _⟩⟩ := HB3.out _ hb
        clear hn
        go_wp2_with fail
        go_ret
        exact ⟨rfl, hw⟩
end Go.Proofs.YtpdbnhhpibpbnaaDoor
