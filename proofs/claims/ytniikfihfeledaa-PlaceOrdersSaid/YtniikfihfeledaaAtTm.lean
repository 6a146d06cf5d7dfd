/-
  What stands at a place, by the reference of layer 4: At.
-/
import Derived.Test.YtniikfihfeledaaNums
import Derived.Test.YtniikfihfeledaaAllTm
import Derived.Deep.RegionHeld3
import Derived.BigQuiet
namespace Go.Proofs.Ytniikfihfeledaa
open Go.RowKit

/-- The zero term. -/
def zeroT : Tm := .mk 0 ⟨#[]⟩ 0 []
def zeroV : Tv := ⟨zeroT, none, 0⟩
theorem zeroV_ok (w : World) : zeroV.ok w := by refine ⟨⟨?_, ?_, ?_, ?_, ?_⟩, ?_, .inl rfl⟩ <;> decide
/-- What stands at a place, if there is such a place. -/
def atT : Tm → List Int → Option Tm
  | t, [] => some t
  | t, i :: r => if h : 0 ≤ i ∧ i < t.args.length then atT (t.args[i.toNat]'(by omega)) r else none
theorem atT_nil (t : Tm) : atT t [] = some t := by rw [atT]
theorem atT_in {t : Tm} {j : Nat} {r : List Int} (h : j < t.args.length) : atT t ((j : Int) :: r) = atT t.args[j] r := by
  rw [atT, dif_pos (by omega)]; simp
theorem atT_out {t : Tm} {i : Int} {r : List Int} (h : ¬ (0 ≤ i ∧ i < t.args.length)) : atT t (i :: r) = none := by rw [atT, dif_neg h]

/-- What a call of At leaves. -/
def AtPost (o : Option Tm) (w0 w : World) (e : Ending) (w' : World) : Prop :=
  ∃ y : Tv, e = .returned (.tuple #[y.val, .bool o.isSome]) ∧ y.t = o.getD zeroT ∧ y.ok w0 ∧ Below w.heap.size w w'

set_option maxRecDepth 100000 in
set_option maxHeartbeats 4000000 in
theorem at_tm (w0 : World) : ∀ (ps : List Int) (x : Tv) (v : Value) (w : World), x.ok w0 → Nums w0 v ps → Below w0.heap.size w0 w →
    Calls Try.prog 11 #[x.val, v] w (AtPost (atT x.t ps) w0 w) := by
  intro ps
  induction ps with
  | nil =>
    intro x v w hx hv hb0
    obtain ⟨a, c, rfl, _, _, _, _⟩ := hv
    obtain ⟨t, ax, cx⟩ := x
    have hE := Lib.hid (atT_nil t)
    have HX := Lib.hid hx
    simp only [Tv.val, List.length_nil] at *
    go_enter Try.func11, Try.ntmps11
    go_wp2_with fail
    refine bodyPost_ret (v := .tuple #[.agg #[.int .i64 t.kind, .string t.name, .int .i64 t.n, .slice ax t.args.length cx], .bool true]) (by simp [results, Try.results11, go_sem]) rfl ?_
    rw [hE.out]
    exact ⟨⟨t, ax, cx⟩, rfl, rfl, HX.out, ((Below.refl _ _).alloc (Nat.le_refl _) _).alloc (by simp) _⟩
  | cons i r ih =>
    intro x v w hx hv hb0
    have HV := Lib.hid hv
    obtain ⟨a, c, rfl, hlc, hcm, hbd, h⟩ := hv
    obtain ⟨b, off, rfl, hlt, hc⟩ := h.resolve_left (by simp)
    have hc0 : w0.cell? ⟨b, off, none⟩ = some (.int .i64 i) := hc 0 i rfl
    have hcw : w.cell? ⟨b, off, none⟩ = some (.int .i64 i) := by rw [hb0.cell (p := ⟨b, off, none⟩) hlt]; exact hc0
    have hltw : b < w.heap.size := Nat.lt_of_lt_of_le hlt hb0.size
    clear hc h hc0
    obtain ⟨t, ax, cx⟩ := x
    have hz1 : (w.alloc (.cells #[.int .i64 t.kind, .string t.name, .int .i64 t.n, .slice ax t.args.length cx] 24)).heap.size = w.heap.size + 1 := by simp
    have hz2 : ((w.alloc (.cells #[.int .i64 t.kind, .string t.name, .int .i64 t.n, .slice ax t.args.length cx] 24)).alloc (.cells #[.int .i64 0, .string ⟨#[]⟩, .int .i64 0, .slice none 0 0] 24)).heap.size = w.heap.size + 2 := by simp
    have hB2 : Below w.heap.size w ((w.alloc (.cells #[.int .i64 t.kind, .string t.name, .int .i64 t.n, .slice ax t.args.length cx] 24)).alloc (.cells #[.int .i64 0, .string ⟨#[]⟩, .int .i64 0, .slice none 0 0] 24)) := ((Below.refl _ _).alloc (Nat.le_refl _) _).alloc (by rw [hz1]; omega) _
    have hcb : ((w.alloc (.cells #[.int .i64 t.kind, .string t.name, .int .i64 t.n, .slice ax t.args.length cx] 24)).alloc (.cells #[.int .i64 0, .string ⟨#[]⟩, .int .i64 0, .slice none 0 0] 24)).cell? ⟨b, off, none⟩ = some (.int .i64 i) := by rw [hB2.cell (p := ⟨b, off, none⟩) hltw]; exact hcw
    have bX := (box_new w (.int .i64 t.kind) (.string t.name) (.int .i64 t.n) (.slice ax t.args.length cx) 24).below ((Below.refl _ _).alloc (Nat.le_refl _) (.cells #[.int .i64 0, .string ⟨#[]⟩, .int .i64 0, .slice none 0 0] 24)) (by rw [hz1]; omega)
    have bR := box_new (w.alloc (.cells #[.int .i64 t.kind, .string t.name, .int .i64 t.n, .slice ax t.args.length cx] 24)) (.int .i64 0) (.string ⟨#[]⟩) (.int .i64 0) (.slice none 0 0) 24
    rw [hz1] at bR
    obtain ⟨hx1, hxl, hxr⟩ := id hx
    have hlen1 : ((r.length + 1 : Nat) == 0) = false := by simp
    have hlen2 : (((r.length + 1 : Nat) : Int) == 0) = false := by rw [beq_eq_false_iff_ne]; omega
    have hlen3 : (0 : Int) < ((r.length + 1 : Nat) : Int) := by omega
    have HX := Lib.hid hx
    have HB := Lib.hid hb0
    simp only [Tv.val, List.length_cons] at HV hlc hxl hxr ⊢
    clear hcw hx hbd
    rcases Int.lt_or_le i 0 with hi | hi
    · have hd : decide (i < 0) = true := decide_eq_true hi
      have hE := Lib.hid (atT_out (t := t) (i := i) (r := r) (by omega))
      have HI := Lib.hid hi
      clear hi ih
      go_enter Try.func11, Try.ntmps11
      go_wp2_with fail
      go_quiet (fail)
      obtain ⟨wd, hwd⟩ : ∃ wd, wd = ((w.alloc (.cells #[.int .i64 t.kind, .string t.name, .int .i64 t.n, .slice ax t.args.length cx] 24)).alloc (.cells #[.int .i64 0, .string ⟨#[]⟩, .int .i64 0, .slice none 0 0] 24)).drewN nq := ⟨_, rfl⟩
      rw [← hwd]
      have hd2 : Below ((w.alloc (.cells #[.int .i64 t.kind, .string t.name, .int .i64 t.n, .slice ax t.args.length cx] 24)).alloc (.cells #[.int .i64 0, .string ⟨#[]⟩, .int .i64 0, .slice none 0 0] 24)).heap.size ((w.alloc (.cells #[.int .i64 t.kind, .string t.name, .int .i64 t.n, .slice ax t.args.length cx] 24)).alloc (.cells #[.int .i64 0, .string ⟨#[]⟩, .int .i64 0, .slice none 0 0] 24)) wd := by rw [hwd]; exact below_drewN (Below.refl _ _) nq
      have hBd : Below w.heap.size w wd := below_next hB2 hd2
      obtain ⟨q0, q1, q2, q3, g0, g1, g2, g3⟩ := bR.below hd2 (by rw [hz2]; omega)
      clear hwd hd2
      go_wp2_with fail
      refine bodyPost_ret (v := .tuple #[.agg #[.int .i64 0, .string ⟨#[]⟩, .int .i64 0, .slice none 0 0], .bool false]) (by simp [results, Try.results11, go_sem, q0, q1, q2, q3]) rfl ?_
      rw [hE.out]
      exact ⟨zeroV, rfl, rfl, zeroV_ok _, ((((hBd.setCell (p := ⟨w.heap.size + 1, 0, none⟩) (by simp) _).setCell (p := ⟨w.heap.size + 1, 1, none⟩) (by simp) _).setCell (p := ⟨w.heap.size + 1, 2, none⟩) (by simp) _).setCell (p := ⟨w.heap.size + 1, 3, none⟩) (by simp) _)⟩
    · have hd : decide (i < 0) = false := decide_eq_false (by omega)
      rcases Int.lt_or_le i t.args.length with hl | hl
      · obtain ⟨j, rfl⟩ : ∃ j : Nat, i = (j : Int) := ⟨i.toNat, by omega⟩
        have hjl : j < t.args.length := by omega
        have hd2 : decide ((t.args.length : Int) ≤ (j : Int)) = false := decide_eq_false (by omega)
        have hE := Lib.hid (atT_in (r := r) hjl)
        obtain ⟨b', o', rfl, hlt', hrow⟩ := hxr.resolve_left (by intro h; rw [h] at hjl; simp at hjl)
        obtain ⟨u, hut, huo, hu⟩ := tmAt_tv (rowAt_get hrow hjl)
        have hltw' : b' < w.heap.size := Nat.lt_of_lt_of_le hlt' HB.out.size
        have hBall : Below w0.heap.size w0 ((w.alloc (.cells #[.int .i64 t.kind, .string t.name, .int .i64 t.n, .slice (some ⟨b', o', none⟩) t.args.length cx] 24)).alloc (.cells #[.int .i64 0, .string ⟨#[]⟩, .int .i64 0, .slice none 0 0] 24)) := HB.out.trans (hB2.mono HB.out.size)
        have huW : TvAt ((w.alloc (.cells #[.int .i64 t.kind, .string t.name, .int .i64 t.n, .slice (some ⟨b', o', none⟩) t.args.length cx] 24)).alloc (.cells #[.int .i64 0, .string ⟨#[]⟩, .int .i64 0, .slice none 0 0] 24)) b' (o' + j * 4) u := ⟨(hBall.cell (p := ⟨b', o' + j * 4, none⟩) hlt').trans hu.c0, (hBall.cell (p := ⟨b', o' + j * 4 + 1, none⟩) hlt').trans hu.c1, (hBall.cell (p := ⟨b', o' + j * 4 + 2, none⟩) hlt').trans hu.c2, (hBall.cell (p := ⟨b', o' + j * 4 + 3, none⟩) hlt').trans hu.c3⟩
        obtain ⟨wz, hwz⟩ : ∃ x, x = ((w.alloc (.cells #[.int .i64 t.kind, .string t.name, .int .i64 t.n, .slice (some ⟨b', o', none⟩) t.args.length cx] 24)).alloc (.cells #[.int .i64 0, .string ⟨#[]⟩, .int .i64 0, .slice none 0 0] 24)) := ⟨_, rfl⟩
        have hBz : Below w0.heap.size w0 wz := by rw [hwz]; exact hBall
        have hCT := fun (aa : Option Addr) (haa : r ≠ [] → aa = some ⟨b, off + 1, none⟩) (W : World) (h : Below wz.heap.size wz W) => (ih u (.slice aa r.length (c - 1)) W huo (nums_tail rfl HV.out aa haa) (hBz.trans (h.mono hBz.size))).mono (fun e w' (hh : AtPost (atT u.t r) w0 W e w') => (show ∃ y : Tv, e = .returned (.tuple #[y.val, .bool (atT u.t r).isSome]) ∧ y.t = (atT u.t r).getD zeroT ∧ y.ok w0 ∧ Below wz.heap.size wz w' from by obtain ⟨y, h1, h2, h3, h4⟩ := hh; exact ⟨y, h1, h2, h3, below_next h h4⟩))
        rw [hut] at hCT
        rw [← hwz] at hB2 hcb bX bR hz2 huW
        have KEEP := Lib.hid (fun (W : World) (h : Below wz.heap.size wz W) => (show (W.cell? ⟨w.heap.size, 3, none⟩ = some (.slice (some ⟨b', o', none⟩) t.args.length cx) ∧ W.cell? ⟨b, off, none⟩ = some (.int .i64 j) ∧ W.cell? ⟨b', o' + j * 4, none⟩ = some (.int .i64 u.t.kind) ∧ W.cell? ⟨b', o' + j * 4 + 1, none⟩ = some (.string u.t.name) ∧ W.cell? ⟨b', o' + j * 4 + 2, none⟩ = some (.int .i64 u.t.n) ∧ W.cell? ⟨b', o' + j * 4 + 3, none⟩ = some (.slice u.a u.t.args.length u.c)) from
          ⟨(bX.below h (by omega)).c3, (h.cell (p := ⟨b, off, none⟩) (by show b < _; omega)).trans hcb, (h.cell (p := ⟨b', o' + j * 4, none⟩) (by show b' < _; omega)).trans huW.c0, (h.cell (p := ⟨b', o' + j * 4 + 1, none⟩) (by show b' < _; omega)).trans huW.c1, (h.cell (p := ⟨b', o' + j * 4 + 2, none⟩) (by show b' < _; omega)).trans huW.c2, (h.cell (p := ⟨b', o' + j * 4 + 3, none⟩) (by show b' < _; omega)).trans huW.c3⟩))
        have FAR : ∀ (W : World) (u0 u1 u2 u3 : Value) (p : Addr), p.block ≠ w.heap.size + 1 → ((((W.setCell ⟨w.heap.size + 1, 0, none⟩ u0).setCell ⟨w.heap.size + 1, 1, none⟩ u1).setCell ⟨w.heap.size + 1, 2, none⟩ u2).setCell ⟨w.heap.size + 1, 3, none⟩ u3).cell? p = W.cell? p := fun W u0 u1 u2 u3 p hp => by
          rw [World.cell?_of_block (Below.heap_setCell _ _ _ _ hp), World.cell?_of_block (Below.heap_setCell _ _ _ _ hp), World.cell?_of_block (Below.heap_setCell _ _ _ _ hp), World.cell?_of_block (Below.heap_setCell _ _ _ _ hp)]
        have KEEP2 := Lib.hid (fun (V : World) (h : Below wz.heap.size wz V) (u0 u1 u2 u3 : Value) => (show ((fun W => W.cell? ⟨w.heap.size, 3, none⟩ = some (.slice (some ⟨b', o', none⟩) t.args.length cx) ∧ W.cell? ⟨b, off, none⟩ = some (.int .i64 j) ∧ W.cell? ⟨b', o' + j * 4, none⟩ = some (.int .i64 u.t.kind) ∧ W.cell? ⟨b', o' + j * 4 + 1, none⟩ = some (.string u.t.name) ∧ W.cell? ⟨b', o' + j * 4 + 2, none⟩ = some (.int .i64 u.t.n) ∧ W.cell? ⟨b', o' + j * 4 + 3, none⟩ = some (.slice u.a u.t.args.length u.c)) ((((V.setCell ⟨w.heap.size + 1, 0, none⟩ u0).setCell ⟨w.heap.size + 1, 1, none⟩ u1).setCell ⟨w.heap.size + 1, 2, none⟩ u2).setCell ⟨w.heap.size + 1, 3, none⟩ u3)) from by
          obtain ⟨k0, k1, k2, k3, k4, k5⟩ := KEEP.out V h
          exact ⟨(FAR _ _ _ _ _ _ (by simp)).trans k0, (FAR _ _ _ _ _ _ (by show b ≠ _; omega)).trans k1, (FAR _ _ _ _ _ _ (by show b' ≠ _; omega)).trans k2, (FAR _ _ _ _ _ _ (by show b' ≠ _; omega)).trans k3, (FAR _ _ _ _ _ _ (by show b' ≠ _; omega)).trans k4, (FAR _ _ _ _ _ _ (by show b' ≠ _; omega)).trans k5⟩))
        have HBR := Lib.hid (fun (V : World) (h : Below wz.heap.size wz V) => bR.below (B := wz.heap.size) h (by omega))
        have HUT := Lib.hid hut
        have hj0 : (0 : Int) ≤ (j : Int) := by omega
        have hj1 : (j : Int) < (t.args.length : Int) := by omega
        have hc1 : (1 : Int) ≤ ((r.length + 1 : Nat) : Int) := by omega
        have hc2 : ((r.length + 1 : Nat) : Int) ≤ (c : Int) := by omega
        obtain ⟨p0, p1, p2, p3, _, _, _, _⟩ := id bX
        obtain ⟨m0, m1, m2, m3⟩ := id huW
        have HFIN := Lib.hid (fun (V : World) (h : Below wz.heap.size wz V) (u0 u1 u2 u3 : Value) => (show Below w.heap.size w ((((V.setCell ⟨w.heap.size + 1, 0, none⟩ u0).setCell ⟨w.heap.size + 1, 1, none⟩ u1).setCell ⟨w.heap.size + 1, 2, none⟩ u2).setCell ⟨w.heap.size + 1, 3, none⟩ u3) from ((((hB2.trans (h.mono hB2.size)).setCell (p := ⟨w.heap.size + 1, 0, none⟩) (by simp) _).setCell (p := ⟨w.heap.size + 1, 1, none⟩) (by simp) _).setCell (p := ⟨w.heap.size + 1, 2, none⟩) (by simp) _).setCell (p := ⟨w.heap.size + 1, 3, none⟩) (by simp) _))
        rcases Nat.lt_or_ge 1 c with hcc | hcc
        · have CT := Lib.hid (hCT (some ⟨b, off + 1, none⟩) (fun _ => rfl))
          have hcne : (c = 1) = False := by simp; omega
          have hc4 : (1 : Int) ≤ (r.length : Int) + 1 := by omega
          have hc5 : (0 : Int) ≤ (r.length : Int) := by omega
          clear hcc hCT
          simp only [Tv.val] at CT
          clear hi ih hl FAR hrow hu hut huo hlt' hBall hxl
          go_enter Try.func11, Try.ntmps11
          go_wp2_with fail
          rw [← hwz]
          clear hwz
          go_quiet (fail)
          obtain ⟨wq, hwq⟩ : ∃ x, x = wz.drewN nq := ⟨_, rfl⟩
          rw [← hwq]
          have hq0 : Below wz.heap.size wz wq := by rw [hwq]; exact below_drewN (Below.refl _ _) nq
          have h0d := hq0.drew
          clear hwq
          go_wp2_with fail
          go_region_held3 (fun W => W.cell? ⟨w.heap.size, 3, none⟩ = some (.slice (some ⟨b', o', none⟩) t.args.length cx) ∧ W.cell? ⟨b, off, none⟩ = some (.int .i64 j) ∧ W.cell? ⟨b', o' + j * 4, none⟩ = some (.int .i64 u.t.kind) ∧ W.cell? ⟨b', o' + j * 4 + 1, none⟩ = some (.string u.t.name) ∧ W.cell? ⟨b', o' + j * 4 + 2, none⟩ = some (.int .i64 u.t.n) ∧ W.cell? ⟨b', o' + j * 4 + 3, none⟩ = some (.slice u.a u.t.args.length u.c)) (first | exact KEEP.out _ (by assumption) | exact KEEP2.out _ (by assumption) _ _ _ _)
            ((go_at_call 11; refine (CT.out _ (by assumption)).mono ?_; rintro e w' ⟨y, rfl, hyt, hyo, hn⟩; obtain ⟨q0, q1, q2, q3, g0, g1, g2, g3⟩ := HBR.out _ hn; obtain ⟨ty, ay, cy⟩ := y; simp only at hyt ⊢; have HYT := Lib.hid hyt; clear hyt))
          go_wp2_with fail
          refine bodyPost_ret (v := .tuple #[.agg #[.int .i64 ty.kind, .string ty.name, .int .i64 ty.n, .slice ay ty.args.length cy], .bool (atT t.args[j] r).isSome]) (by simp [results, Try.results11, go_sem, q0, q1, q2, q3]) rfl ?_
          rw [hE.out]
          exact ⟨⟨ty, ay, cy⟩, rfl, HYT.out, hyo, HFIN.out _ hn _ _ _ _⟩
        · obtain rfl : c = 1 := by omega
          have CT := Lib.hid (hCT (some ⟨b, off, none⟩) (fun h => absurd (List.eq_nil_of_length_eq_zero (by omega)) h))
          obtain rfl : r = [] := List.eq_nil_of_length_eq_zero (by omega)
          clear hlen1 hlen2 hlen3 hc1 hc2 hlc
          simp only [List.length_nil, Nat.zero_add, Nat.sub_self] at CT ⊢
          clear hcc hCT
          simp only [Tv.val] at CT
          clear hi ih hl FAR hrow hu hut huo hlt' hBall hxl
          go_enter Try.func11, Try.ntmps11
          go_wp2_with fail
          rw [← hwz]
          clear hwz
          go_quiet (fail)
          obtain ⟨wq, hwq⟩ : ∃ x, x = wz.drewN nq := ⟨_, rfl⟩
          rw [← hwq]
          have hq0 : Below wz.heap.size wz wq := by rw [hwq]; exact below_drewN (Below.refl _ _) nq
          have h0d := hq0.drew
          clear hwq
          go_wp2_with fail
          go_region_held3 (fun W => W.cell? ⟨w.heap.size, 3, none⟩ = some (.slice (some ⟨b', o', none⟩) t.args.length cx) ∧ W.cell? ⟨b, off, none⟩ = some (.int .i64 j) ∧ W.cell? ⟨b', o' + j * 4, none⟩ = some (.int .i64 u.t.kind) ∧ W.cell? ⟨b', o' + j * 4 + 1, none⟩ = some (.string u.t.name) ∧ W.cell? ⟨b', o' + j * 4 + 2, none⟩ = some (.int .i64 u.t.n) ∧ W.cell? ⟨b', o' + j * 4 + 3, none⟩ = some (.slice u.a u.t.args.length u.c)) (first | exact KEEP.out _ (by assumption) | exact KEEP2.out _ (by assumption) _ _ _ _)
            ((go_at_call 11; refine (CT.out _ (by assumption)).mono ?_; rintro e w' ⟨y, rfl, hyt, hyo, hn⟩; obtain ⟨q0, q1, q2, q3, g0, g1, g2, g3⟩ := HBR.out _ hn; obtain ⟨ty, ay, cy⟩ := y; simp only at hyt ⊢; have HYT := Lib.hid hyt; clear hyt))
          go_wp2_with fail
          refine bodyPost_ret (v := .tuple #[.agg #[.int .i64 ty.kind, .string ty.name, .int .i64 ty.n, .slice ay ty.args.length cy], .bool (atT t.args[j] []).isSome]) (by simp [results, Try.results11, go_sem, q0, q1, q2, q3]) rfl ?_
          rw [hE.out]
          exact ⟨⟨ty, ay, cy⟩, rfl, HYT.out, hyo, HFIN.out _ hn _ _ _ _⟩
      · have hd2 : decide ((t.args.length : Int) ≤ i) = true := decide_eq_true hl
        have hE := Lib.hid (atT_out (t := t) (i := i) (r := r) (by omega))
        obtain ⟨p0, p1, p2, p3, _, _, _, _⟩ := id bX
        clear hi ih hl
        go_enter Try.func11, Try.ntmps11
        go_wp2_with fail
        go_quiet (fail)
        obtain ⟨wd, hwd⟩ : ∃ wd, wd = ((w.alloc (.cells #[.int .i64 t.kind, .string t.name, .int .i64 t.n, .slice ax t.args.length cx] 24)).alloc (.cells #[.int .i64 0, .string ⟨#[]⟩, .int .i64 0, .slice none 0 0] 24)).drewN nq := ⟨_, rfl⟩
        rw [← hwd]
        have hd2 : Below ((w.alloc (.cells #[.int .i64 t.kind, .string t.name, .int .i64 t.n, .slice ax t.args.length cx] 24)).alloc (.cells #[.int .i64 0, .string ⟨#[]⟩, .int .i64 0, .slice none 0 0] 24)).heap.size ((w.alloc (.cells #[.int .i64 t.kind, .string t.name, .int .i64 t.n, .slice ax t.args.length cx] 24)).alloc (.cells #[.int .i64 0, .string ⟨#[]⟩, .int .i64 0, .slice none 0 0] 24)) wd := by rw [hwd]; exact below_drewN (Below.refl _ _) nq
        have hBd : Below w.heap.size w wd := below_next hB2 hd2
        obtain ⟨q0, q1, q2, q3, g0, g1, g2, g3⟩ := bR.below hd2 (by rw [hz2]; omega)
        clear hwd hd2
        go_wp2_with fail
        refine bodyPost_ret (v := .tuple #[.agg #[.int .i64 0, .string ⟨#[]⟩, .int .i64 0, .slice none 0 0], .bool false]) (by simp [results, Try.results11, go_sem, q0, q1, q2, q3]) rfl ?_
        rw [hE.out]
        exact ⟨zeroV, rfl, rfl, zeroV_ok _, ((((hBd.setCell (p := ⟨w.heap.size + 1, 0, none⟩) (by simp) _).setCell (p := ⟨w.heap.size + 1, 1, none⟩) (by simp) _).setCell (p := ⟨w.heap.size + 1, 2, none⟩) (by simp) _).setCell (p := ⟨w.heap.size + 1, 3, none⟩) (by simp) _)⟩
end Go.Proofs.Ytniikfihfeledaa
