/-
  What stands at a place, by the reference of layer 4: At.
  Rows of places: a slice of slices of whole numbers that the call itself has made; and all places of a term, as data.
-/
import Derived.Test.YtnbjpgdnfklanaaGreatDoorT05
import Derived.Deep.RegionHeld3
import Derived.BigQuiet
import Derived.Laws.OwnMore
namespace Go.Proofs.YtnbjpgdnfklanaaGreatDoor
open Go.RowKit
set_option maxRecDepth 100000 in
set_option maxHeartbeats 4000000 in
theorem at_tm (w0 : World) : ∀ (ps : List Int) (x : Tv) (v : Value) (w : World), x.ok w0 → Nums w0 v ps → Below w0.heap.size w0 w →
    Calls Tryz.prog 36 #[x.val, v] w (AtPost (atT x.t ps) w0 w) := by
  intro ps
  induction ps with
  | nil =>
    intro x v w hx hv hb0
    obtain ⟨a, c, rfl, _, _, _, _⟩ := hv
    obtain ⟨t, ax, cx⟩ := x
    have hE := Lib.hid (atT_nil t)
    have HX := Lib.hid hx
    simp only [Tv.val, List.length_nil] at *
    go_enter Tryz.func36, Tryz.ntmps36
    go_wp2_with fail
    refine bodyPost_ret (v := .tuple #[.agg #[.int .i64 t.kind, .string t.name, .int .i64 t.n, .slice ax t.args.length cx], .bool true]) (by simp [results, Tryz.results36, go_sem]) rfl ?_
    rw [hE.out]
    exact ⟨⟨t, ax, cx⟩, rfl, rfl, HX.out, ((Below.refl _ _).alloc (Nat.le_refl _) _).alloc (by simp) _⟩
  | cons i r ih =>
    intro x v w hx hv hb0
    have HV := Lib.hid hv
    obtain ⟨a, c, rfl, hlc, hcm, hbd, h⟩ := hv
    obtain ⟨b, off, rfl, hlt, hc⟩ := h.resolve_left (by simp)
    have hc0 : w0.cell? ⟨b, off, none⟩ = some (.int .i64 i) := hc 0 i rfl
    have hcw : w.cell? ⟨b, off, none⟩ = some (.int .i64 i) := by rw [hb0.cell (p := ⟨b, off, none⟩) hlt]; exact hc0
    have hltw : b < w.heap.size := Nat.lt_of_lt_of_le hlt hb0.size
    clear hc h hc0
    obtain ⟨t, ax, cx⟩ := x
    have hz1 : (w.alloc (.cells #[.int .i64 t.kind, .string t.name, .int .i64 t.n, .slice ax t.args.length cx] 50)).heap.size = w.heap.size + 1 := by simp
    have hz2 : ((w.alloc (.cells #[.int .i64 t.kind, .string t.name, .int .i64 t.n, .slice ax t.args.length cx] 50)).alloc (.cells #[.int .i64 0, .string ⟨#[]⟩, .int .i64 0, .slice none 0 0] 50)).heap.size = w.heap.size + 2 := by simp
    have hB2 : Below w.heap.size w ((w.alloc (.cells #[.int .i64 t.kind, .string t.name, .int .i64 t.n, .slice ax t.args.length cx] 50)).alloc (.cells #[.int .i64 0, .string ⟨#[]⟩, .int .i64 0, .slice none 0 0] 50)) := ((Below.refl _ _).alloc (Nat.le_refl _) _).alloc (by rw [hz1]; omega) _
    have hcb : ((w.alloc (.cells #[.int .i64 t.kind, .string t.name, .int .i64 t.n, .slice ax t.args.length cx] 50)).alloc (.cells #[.int .i64 0, .string ⟨#[]⟩, .int .i64 0, .slice none 0 0] 50)).cell? ⟨b, off, none⟩ = some (.int .i64 i) := by rw [hB2.cell (p := ⟨b, off, none⟩) hltw]; exact hcw
    have bX := (box_new w (.int .i64 t.kind) (.string t.name) (.int .i64 t.n) (.slice ax t.args.length cx) 50).below ((Below.refl _ _).alloc (Nat.le_refl _) (.cells #[.int .i64 0, .string ⟨#[]⟩, .int .i64 0, .slice none 0 0] 50)) (by rw [hz1]; omega)
    have bR := box_new (w.alloc (.cells #[.int .i64 t.kind, .string t.name, .int .i64 t.n, .slice ax t.args.length cx] 50)) (.int .i64 0) (.string ⟨#[]⟩) (.int .i64 0) (.slice none 0 0) 50
    rw [hz1] at bR
    obtain ⟨hx1, hxl, hxr⟩ := id hx
    have hlen1 : ((r.length + 1 : Nat) == 0) = false := by simp
    have hlen2 : (((r.length + 1 : Nat) : Int) == 0) = false := by rw [beq_eq_false_iff_ne]; omega
    have hlen3 : (0 : Int) < ((r.length + 1 : Nat) : Int) := by omega
    have HX := Lib.hid hx
    have HB := Lib.hid hb0
    simp only [Tv.val, List.length_cons] at HV hlc hxl hxr ⊢
    clear hcw hx hbd
    rcases Int.lt_or_le i 0 with hi | hi
    · have hd : decide (i < 0) = true := decide_eq_true hi
      have hE := Lib.hid (atT_out (t := t) (i := i) (r := r) (by omega))
      have HI := Lib.hid hi
      clear hi ih
      go_enter Tryz.func36, Tryz.ntmps36
      go_wp2_with fail
      go_quiet (fail)
      obtain ⟨wd, hwd⟩ : ∃ wd, wd = ((w.alloc (.cells #[.int .i64 t.kind, .string t.name, .int .i64 t.n, .slice ax t.args.length cx] 50)).alloc (.cells #[.int .i64 0, .string ⟨#[]⟩, .int .i64 0, .slice none 0 0] 50)).drewN nq := ⟨_, rfl⟩
      rw [← hwd]
      have hd2 : Below ((w.alloc (.cells #[.int .i64 t.kind, .string t.name, .int .i64 t.n, .slice ax t.args.length cx] 50)).alloc (.cells #[.int .i64 0, .string ⟨#[]⟩, .int .i64 0, .slice none 0 0] 50)).heap.size ((w.alloc (.cells #[.int .i64 t.kind, .string t.name, .int .i64 t.n, .slice ax t.args.length cx] 50)).alloc (.cells #[.int .i64 0, .string ⟨#[]⟩, .int .i64 0, .slice none 0 0] 50)) wd := by rw [hwd]; exact below_drewN (Below.refl _ _) nq
      have hBd : Below w.heap.size w wd := below_next hB2 hd2
      obtain ⟨q0, q1, q2, q3, g0, g1, g2, g3⟩ := bR.below hd2 (by rw [hz2]; omega)
      clear hwd hd2
      go_wp2_with fail
      refine bodyPost_ret (v := .tuple #[.agg #[.int .i64 0, .string ⟨#[]⟩, .int .i64 0, .slice none 0 0], .bool false]) (by simp [results, Tryz.results36, go_sem, q0, q1, q2, q3]) rfl ?_
      rw [hE.out]
      exact ⟨zeroV, rfl, rfl, zeroV_ok _, ((((hBd.setCell (p := ⟨w.heap.size + 1, 0, none⟩) (by simp) _).setCell (p := ⟨w.heap.size + 1, 1, none⟩) (by simp) _).setCell (p := ⟨w.heap.size + 1, 2, none⟩) (by simp) _).setCell (p := ⟨w.heap.size + 1, 3, none⟩) (by simp) _)⟩
    · have hd : decide (i < 0) = false := decide_eq_false (by omega)
      rcases Int.lt_or_le i t.args.length with hl | hl
      · obtain ⟨j, rfl⟩ : ∃ j : Nat, i = (j : Int) := ⟨i.toNat, by omega⟩
        have hjl : j < t.args.length := by omega
        have hd2 : decide ((t.args.length : Int) ≤ (j : Int)) = false := decide_eq_false (by omega)
        have hE := Lib.hid (atT_in (r := r) hjl)
        obtain ⟨b', o', rfl, hlt', hrow⟩ := hxr.resolve_left (by intro h; rw [h] at hjl; simp at hjl)
        obtain ⟨u, hut, huo, hu⟩ := tmAt_tv (rowAt_get hrow hjl)
        have hltw' : b' < w.heap.size := Nat.lt_of_lt_of_le hlt' HB.out.size
        have hBall : Below w0.heap.size w0 ((w.alloc (.cells #[.int .i64 t.kind, .string t.name, .int .i64 t.n, .slice (some ⟨b', o', none⟩) t.args.length cx] 50)).alloc (.cells #[.int .i64 0, .string ⟨#[]⟩, .int .i64 0, .slice none 0 0] 50)) := HB.out.trans (hB2.mono HB.out.size)
        have huW : TvAt ((w.alloc (.cells #[.int .i64 t.kind, .string t.name, .int .i64 t.n, .slice (some ⟨b', o', none⟩) t.args.length cx] 50)).alloc (.cells #[.int .i64 0, .string ⟨#[]⟩, .int .i64 0, .slice none 0 0] 50)) b' (o' + j * 4) u := ⟨(hBall.cell (p := ⟨b', o' + j * 4, none⟩) hlt').trans hu.c0, (hBall.cell (p := ⟨b', o' + j * 4 + 1, none⟩) hlt').trans hu.c1, (hBall.cell (p := ⟨b', o' + j * 4 + 2, none⟩) hlt').trans hu.c2, (hBall.cell (p := ⟨b', o' + j * 4 + 3, none⟩) hlt').trans hu.c3⟩
        obtain ⟨wz, hwz⟩ : ∃ x, x = ((w.alloc (.cells #[.int .i64 t.kind, .string t.name, .int .i64 t.n, .slice (some ⟨b', o', none⟩) t.args.length cx] 50)).alloc (.cells #[.int .i64 0, .string ⟨#[]⟩, .int .i64 0, .slice none 0 0] 50)) := ⟨_, rfl⟩
        have hBz : Below w0.heap.size w0 wz := by rw [hwz]; exact hBall
        have hCT := fun (aa : Option Addr) (haa : r ≠ [] → aa = some ⟨b, off + 1, none⟩) (W : World) (h : Below wz.heap.size wz W) => (ih u (.slice aa r.length (c - 1)) W huo (nums_tail rfl HV.out aa haa) (hBz.trans (h.mono hBz.size))).mono (fun e w' (hh : AtPost (atT u.t r) w0 W e w') => (show ∃ y : Tv, e = .returned (.tuple #[y.val, .bool (atT u.t r).isSome]) ∧ y.t = (atT u.t r).getD zeroT ∧ y.ok w0 ∧ Below wz.heap.size wz w' from by obtain ⟨y, h1, h2, h3, h4⟩ := hh; exact ⟨y, h1, h2, h3, below_next h h4⟩))
        rw [hut] at hCT
        rw [← hwz] at hB2 hcb bX bR hz2 huW
        have KEEP := Lib.hid (fun (W : World) (h : Below wz.heap.size wz W) => (show (W.cell? ⟨w.heap.size, 3, none⟩ = some (.slice (some ⟨b', o', none⟩) t.args.length cx) ∧ W.cell? ⟨b, off, none⟩ = some (.int .i64 j) ∧ W.cell? ⟨b', o' + j * 4, none⟩ = some (.int .i64 u.t.kind) ∧ W.cell? ⟨b', o' + j * 4 + 1, none⟩ = some (.string u.t.name) ∧ W.cell? ⟨b', o' + j * 4 + 2, none⟩ = some (.int .i64 u.t.n) ∧ W.cell? ⟨b', o' + j * 4 + 3, none⟩ = some (.slice u.a u.t.args.length u.c)) from
          ⟨(bX.below h (by omega)).c3, (h.cell (p := ⟨b, off, none⟩) (by show b < _; omega)).trans hcb, (h.cell (p := ⟨b', o' + j * 4, none⟩) (by show b' < _; omega)).trans huW.c0, (h.cell (p := ⟨b', o' + j * 4 + 1, none⟩) (by show b' < _; omega)).trans huW.c1, (h.cell (p := ⟨b', o' + j * 4 + 2, none⟩) (by show b' < _; omega)).trans huW.c2, (h.cell (p := ⟨b', o' + j * 4 + 3, none⟩) (by show b' < _; omega)).trans huW.c3⟩))
        have FAR : ∀ (W : World) (u0 u1 u2 u3 : Value) (p : Addr), p.block ≠ w.heap.size + 1 → ((((W.setCell ⟨w.heap.size + 1, 0, none⟩ u0).setCell ⟨w.heap.size + 1, 1, none⟩ u1).setCell ⟨w.heap.size + 1, 2, none⟩ u2).setCell ⟨w.heap.size + 1, 3, none⟩ u3).cell? p = W.cell? p := fun W u0 u1 u2 u3 p hp => by
          rw [World.cell?_of_block (Below.heap_setCell _ _ _ _ hp), World.cell?_of_block (Below.heap_setCell _ _ _ _ hp), World.cell?_of_block (Below.heap_setCell _ _ _ _ hp), World.cell?_of_block (Below.heap_setCell _ _ _ _ hp)]
        have KEEP2 := Lib.hid (fun (V : World) (h : Below wz.heap.size wz V) (u0 u1 u2 u3 : Value) => (show ((fun W => W.cell? ⟨w.heap.size, 3, none⟩ = some (.slice (some ⟨b', o', none⟩) t.args.length cx) ∧ W.cell? ⟨b, off, none⟩ = some (.int .i64 j) ∧ W.cell? ⟨b', o' + j * 4, none⟩ = some (.int .i64 u.t.kind) ∧ W.cell? ⟨b', o' + j * 4 + 1, none⟩ = some (.string u.t.name) ∧ W.cell? ⟨b', o' + j * 4 + 2, none⟩ = some (.int .i64 u.t.n) ∧ W.cell? ⟨b', o' + j * 4 + 3, none⟩ = some (.slice u.a u.t.args.length u.c)) ((((V.setCell ⟨w.heap.size + 1, 0, none⟩ u0).setCell ⟨w.heap.size + 1, 1, none⟩ u1).setCell ⟨w.heap.size + 1, 2, none⟩ u2).setCell ⟨w.heap.size + 1, 3, none⟩ u3)) from by
          obtain ⟨k0, k1, k2, k3, k4, k5⟩ := KEEP.out V h
          exact ⟨(FAR _ _ _ _ _ _ (by simp)).trans k0, (FAR _ _ _ _ _ _ (by show b ≠ _; omega)).trans k1, (FAR _ _ _ _ _ _ (by show b' ≠ _; omega)).trans k2, (FAR _ _ _ _ _ _ (by show b' ≠ _; omega)).trans k3, (FAR _ _ _ _ _ _ (by show b' ≠ _; omega)).trans k4, (FAR _ _ _ _ _ _ (by show b' ≠ _; omega)).trans k5⟩))
        have HBR := Lib.hid (fun (V : World) (h : Below wz.heap.size wz V) => bR.below (B := wz.heap.size) h (by omega))
        have HUT := Lib.hid hut
        have hj0 : (0 : Int) ≤ (j : Int) := by omega
        have hj1 : (j : Int) < (t.args.length : Int) := by omega
        have hc1 : (1 : Int) ≤ ((r.length + 1 : Nat) : Int) := by omega
        have hc2 : ((r.length + 1 : Nat) : Int) ≤ (c : Int) := by omega
        obtain ⟨p0, p1, p2, p3, _, _, _, _⟩ := id bX
        obtain ⟨m0, m1, m2, m3⟩ := id huW
        have HFIN := Lib.hid (fun (V : World) (h : Below wz.heap.size wz V) (u0 u1 u2 u3 : Value) => (show Below w.heap.size w ((((V.setCell ⟨w.heap.size + 1, 0, none⟩ u0).setCell ⟨w.heap.size + 1, 1, none⟩ u1).setCell ⟨w.heap.size + 1, 2, none⟩ u2).setCell ⟨w.heap.size + 1, 3, none⟩ u3) from ((((hB2.trans (h.mono hB2.size)).setCell (p := ⟨w.heap.size + 1, 0, none⟩) (by simp) _).setCell (p := ⟨w.heap.size + 1, 1, none⟩) (by simp) _).setCell (p := ⟨w.heap.size + 1, 2, none⟩) (by simp) _).setCell (p := ⟨w.heap.size + 1, 3, none⟩) (by simp) _))
        rcases Nat.lt_or_ge 1 c with hcc | hcc
        · have CT := Lib.hid (hCT (some ⟨b, off + 1, none⟩) (fun _ => rfl))
          have hcne : (c = 1) = False := by simp; omega
          have hc4 : (1 : Int) ≤ (r.length : Int) + 1 := by omega
          have hc5 : (0 : Int) ≤ (r.length : Int) := by omega
          clear hcc hCT
          simp only [Tv.val] at CT
          clear hi ih hl FAR hrow hu hut huo hlt' hBall hxl
          go_enter Tryz.func36, Tryz.ntmps36
          go_wp2_with fail
          rw [← hwz]
          clear hwz
          go_quiet (fail)
          obtain ⟨wq, hwq⟩ : ∃ x, x = wz.drewN nq := ⟨_, rfl⟩
          rw [← hwq]
          have hq0 : Below wz.heap.size wz wq := by rw [hwq]; exact below_drewN (Below.refl _ _) nq
          have h0d := hq0.drew
          clear hwq
          go_wp2_with fail
          go_region_held3 (fun W => W.cell? ⟨w.heap.size, 3, none⟩ = some (.slice (some ⟨b', o', none⟩) t.args.length cx) ∧ W.cell? ⟨b, off, none⟩ = some (.int .i64 j) ∧ W.cell? ⟨b', o' + j * 4, none⟩ = some (.int .i64 u.t.kind) ∧ W.cell? ⟨b', o' + j * 4 + 1, none⟩ = some (.string u.t.name) ∧ W.cell? ⟨b', o' + j * 4 + 2, none⟩ = some (.int .i64 u.t.n) ∧ W.cell? ⟨b', o' + j * 4 + 3, none⟩ = some (.slice u.a u.t.args.length u.c)) (first | exact KEEP.out _ (by assumption) | exact KEEP2.out _ (by assumption) _ _ _ _)
            ((go_at_call 36; refine (CT.out _ (by assumption)).mono ?_; rintro e w' ⟨y, rfl, hyt, hyo, hn⟩; obtain ⟨q0, q1, q2, q3, g0, g1, g2, g3⟩ := HBR.out _ hn; obtain ⟨ty, ay, cy⟩ := y; simp only at hyt ⊢; have HYT := Lib.hid hyt; clear hyt))
          go_wp2_with fail
          refine bodyPost_ret (v := .tuple #[.agg #[.int .i64 ty.kind, .string ty.name, .int .i64 ty.n, .slice ay ty.args.length cy], .bool (atT t.args[j] r).isSome]) (by simp [results, Tryz.results36, go_sem, q0, q1, q2, q3]) rfl ?_
          rw [hE.out]
          exact ⟨⟨ty, ay, cy⟩, rfl, HYT.out, hyo, HFIN.out _ hn _ _ _ _⟩
        · obtain rfl : c = 1 := by omega
          have CT := Lib.hid (hCT (some ⟨b, off, none⟩) (fun h => absurd (List.eq_nil_of_length_eq_zero (by omega)) h))
          obtain rfl : r = [] := List.eq_nil_of_length_eq_zero (by omega)
          clear hlen1 hlen2 hlen3 hc1 hc2 hlc
          simp only [List.length_nil, Nat.zero_add, Nat.sub_self] at CT ⊢
          clear hcc hCT
          simp only [Tv.val] at CT
          clear hi ih hl FAR hrow hu hut huo hlt' hBall hxl
          go_enter Tryz.func36, Tryz.ntmps36
          go_wp2_with fail
          rw [← hwz]
          clear hwz
          go_quiet (fail)
          obtain ⟨wq, hwq⟩ : ∃ x, x = wz.drewN nq := ⟨_, rfl⟩
          rw [← hwq]
          have hq0 : Below wz.heap.size wz wq := by rw [hwq]; exact below_drewN (Below.refl _ _) nq
          have h0d := hq0.drew
          clear hwq
          go_wp2_with fail
          go_region_held3 (fun W => W.cell? ⟨w.heap.size, 3, none⟩ = some (.slice (some ⟨b', o', none⟩) t.args.length cx) ∧ W.cell? ⟨b, off, none⟩ = some (.int .i64 j) ∧ W.cell? ⟨b', o' + j * 4, none⟩ = some (.int .i64 u.t.kind) ∧ W.cell? ⟨b', o' + j * 4 + 1, none⟩ = some (.string u.t.name) ∧ W.cell? ⟨b', o' + j * 4 + 2, none⟩ = some (.int .i64 u.t.n) ∧ W.cell? ⟨b', o' + j * 4 + 3, none⟩ = some (.slice u.a u.t.args.length u.c)) (first | exact KEEP.out _ (by assumption) | exact KEEP2.out _ (by assumption) _ _ _ _)
            ((go_at_call 36; refine (CT.out _ (by assumption)).mono ?_; rintro e w' ⟨y, rfl, hyt, hyo, hn⟩; obtain ⟨q0, q1, q2, q3, g0, g1, g2, g3⟩ := HBR.out _ hn; obtain ⟨ty, ay, cy⟩ := y; simp only at hyt ⊢; have HYT := Lib.hid hyt; clear hyt))
          go_wp2_with fail
          refine bodyPost_ret (v := .tuple #[.agg #[.int .i64 ty.kind, .string ty.name, .int .i64 ty.n, .slice ay ty.args.length cy], .bool (atT t.args[j] []).isSome]) (by simp [results, Tryz.results36, go_sem, q0, q1, q2, q3]) rfl ?_
          rw [hE.out]
          exact ⟨⟨ty, ay, cy⟩, rfl, HYT.out, hyo, HFIN.out _ hn _ _ _ _⟩
      · have hd2 : decide ((t.args.length : Int) ≤ i) = true := decide_eq_true hl
        have hE := Lib.hid (atT_out (t := t) (i := i) (r := r) (by omega))
        obtain ⟨p0, p1, p2, p3, _, _, _, _⟩ := id bX
        clear hi ih hl
        go_enter Tryz.func36, Tryz.ntmps36
        go_wp2_with fail
        go_quiet (fail)
        obtain ⟨wd, hwd⟩ : ∃ wd, wd = ((w.alloc (.cells #[.int .i64 t.kind, .string t.name, .int .i64 t.n, .slice ax t.args.length cx] 50)).alloc (.cells #[.int .i64 0, .string ⟨#[]⟩, .int .i64 0, .slice none 0 0] 50)).drewN nq := ⟨_, rfl⟩
        rw [← hwd]
        have hd2 : Below ((w.alloc (.cells #[.int .i64 t.kind, .string t.name, .int .i64 t.n, .slice ax t.args.length cx] 50)).alloc (.cells #[.int .i64 0, .string ⟨#[]⟩, .int .i64 0, .slice none 0 0] 50)).heap.size ((w.alloc (.cells #[.int .i64 t.kind, .string t.name, .int .i64 t.n, .slice ax t.args.length cx] 50)).alloc (.cells #[.int .i64 0, .string ⟨#[]⟩, .int .i64 0, .slice none 0 0] 50)) wd := by rw [hwd]; exact below_drewN (Below.refl _ _) nq
        have hBd : Below w.heap.size w wd := below_next hB2 hd2
        obtain ⟨q0, q1, q2, q3, g0, g1, g2, g3⟩ := bR.below hd2 (by rw [hz2]; omega)
        clear hwd hd2
        go_wp2_with fail
        refine bodyPost_ret (v := .tuple #[.agg #[.int .i64 0, .string ⟨#[]⟩, .int .i64 0, .slice none 0 0], .bool false]) (by simp [results, Tryz.results36, go_sem, q0, q1, q2, q3]) rfl ?_
        rw [hE.out]
        exact ⟨zeroV, rfl, rfl, zeroV_ok _, ((((hBd.setCell (p := ⟨w.heap.size + 1, 0, none⟩) (by simp) _).setCell (p := ⟨w.heap.size + 1, 1, none⟩) (by simp) _).setCell (p := ⟨w.heap.size + 1, 2, none⟩) (by simp) _).setCell (p := ⟨w.heap.size + 1, 3, none⟩) (by simp) _)⟩
end Go.Proofs.YtnbjpgdnfklanaaGreatDoor

namespace Go.Proofs.YtnbjpgdnfklanaaGreatDoor
open Go.RowKit
def OwnInts (w : World) (v : Value) (p : List Int) : Prop := w.ownsRow 0 3 1 v p.length (p.map (Value.int .i64)) ∧ (∀ n ∈ p, -9223372036854775808 ≤ n ∧ n ≤ 9223372036854775807) ∧ v.ownBlock ≠ none
theorem OwnInts.nums {w : World} {v : Value} {p : List Int} (h : OwnInts w v p) : Nums w v p := by
  obtain ⟨⟨_, h⟩, hb, _⟩ := h
  rcases h with ⟨rfl, h0⟩ | ⟨g, cap, cur, rfl, _, hg, hk, hm, hs, ht⟩
  · have : p = [] := List.eq_nil_of_length_eq_zero h0
    subst this
    exact ⟨none, 0, rfl, Nat.le_refl _, by omega, hb, .inl rfl⟩
  · refine ⟨_, cap, rfl, hk, by unfold maxLen at hm; omega, hb, .inr ⟨g, 0, rfl, ?_, fun j n hj => ?_⟩⟩
    · rcases Nat.lt_or_ge g w.heap.size with h | h
      · exact h
      · rw [Array.getElem?_eq_none h] at hg; cases hg
    · have hjl : j < p.length := (List.getElem?_eq_some_iff.1 hj).1
      have h1 : (p.map (Value.int .i64))[j]? = some (.int .i64 n) := by rw [List.getElem?_map, hj]; rfl
      rw [← ht, List.getElem?_take, if_pos (by omega)] at h1
      rw [Nat.zero_add, cell_of_row w g j cur _ (0, 0) hg]
      simpa using h1
theorem OwnInts.kept {w w' : World} {v u : Value} {p : List Int} (h : OwnInts w v p) {base size n : Nat} {e : TypeId} {xs : List Value} (he : e ≠ 3) (hu : w.ownsRow base e size u n xs) (hg : w.grownBy w' u.ownBlock) : OwnInts w' v p := by
  refine ⟨h.1.kept hg ?_, h.2.1, h.2.2⟩
  by_cases hv : v.ownBlock = none
  · exact .inl hv
  · refine .inr fun hvu => ?_
    rcases h.1.2 with ⟨rfl, _⟩ | ⟨g, cap, cur, rfl, _, hgb, _⟩
    · exact hv rfl
    · rcases hu.2 with ⟨rfl, _⟩ | ⟨g', cap', cur', rfl, _, hgb', _⟩
      · simp [Value.ownBlock] at hvu
      · obtain rfl : g = g' := by simpa [Value.ownBlock] using hvu
        rw [hgb] at hgb'
        injection hgb' with h1
        injection h1 with _ h1 _
        exact he h1.symm
theorem OwnInts.below {w w' : World} {v : Value} {p : List Int} (h : OwnInts w v p) (hb : Below w.heap.size w w') : OwnInts w' v p := by
  refine ⟨⟨h.1.1, ?_⟩, h.2⟩
  rcases h.1.2 with h | ⟨g, cap, cur, hv, hbg, hg, hr⟩
  · exact .inl h
  · exact .inr ⟨g, cap, cur, hv, hbg, by rw [hb.block g (Array.getElem?_eq_some_iff.1 hg).1]; exact hg, hr⟩
def OwnPl (w : World) (base : Nat) (v : Value) (pss : List (List Int)) : Prop :=
  ∃ vs : List Value, vs.length = pss.length ∧ (∀ (j : Nat) x p, vs[j]? = some x → pss[j]? = some p → OwnInts w x p) ∧ w.ownsRow base 53 1 v pss.length vs
theorem OwnPl.kept {w w' : World} {v u : Value} {pss : List (List Int)} {base size n b2 : Nat} {xs : List Value} (h : OwnPl w b2 v pss) (hu : w.ownsRow base 53 size u n xs) (hg : w.grownBy w' u.ownBlock) (hne : v.ownBlock ≠ u.ownBlock) : OwnPl w' b2 v pss := by
  obtain ⟨vs, hl, hall, hr⟩ := h
  exact ⟨vs, hl, fun j x p h1 h2 => (hall j x p h1 h2).kept (by decide) hu hg, hr.kept hg (.inr hne)⟩
theorem own_form {w : World} {base : Nat} {e : TypeId} {size n : Nat} {v : Value} {xs : List Value} (h : w.ownsRow base e size v n xs) (hn : 0 < n) : ∃ g cap, v = .slice (some ⟨g, 0, none⟩) n cap ∧ g < w.heap.size := by
  rcases h.2 with ⟨_, h0⟩ | ⟨g, cap, cur, rfl, _, hg, _⟩
  · omega
  · refine ⟨g, cap, rfl, ?_⟩
    rcases Nat.lt_or_ge g w.heap.size with h | h
    · exact h
    · rw [Array.getElem?_eq_none h] at hg; cases hg
theorem ownPl_snoc {w w' : World} {v v' x : Value} {pss : List (List Int)} {p : List Int} {base : Nat} {vs : List Value} (hl : vs.length = pss.length) (hall : ∀ (j : Nat) x p, vs[j]? = some x → pss[j]? = some p → OwnInts w x p)
    (hr : w.ownsRow base 53 1 v pss.length vs) (hx : OwnInts w x p) (hg : w.grownBy w' v.ownBlock) (hr' : w'.ownsRow base 53 1 v' (pss.length + 1) (vs ++ [x])) : OwnPl w' base v' (pss ++ [p]) := by
  refine ⟨vs ++ [x], by simp [hl], fun j y q h1 h2 => ?_, by rw [List.length_append]; exact hr'⟩
  rcases Nat.lt_or_ge j vs.length with hj | hj
  · rw [List.getElem?_append_left hj] at h1
    rw [List.getElem?_append_left (by omega)] at h2
    exact (hall j y q h1 h2).kept (by decide) hr hg
  · rw [List.getElem?_append_right hj] at h1
    rw [List.getElem?_append_right (by omega)] at h2
    have : j - vs.length = 0 := by
      rcases Nat.eq_zero_or_pos (j - vs.length) with h | h
      · exact h
      · rw [List.getElem?_eq_none (by simp; omega)] at h1; cases h1
    rw [this] at h1
    rw [← hl, this] at h2
    simp at h1 h2
    subst h1; subst h2
    exact hx.kept (by decide) hr hg
theorem OwnPl.below {w w' : World} {base : Nat} {v : Value} {pss : List (List Int)} (h : OwnPl w base v pss) (hb : Below w.heap.size w w') : OwnPl w' base v pss := by
  obtain ⟨vs, hl, hall, hr⟩ := h
  refine ⟨vs, hl, fun j x p h1 h2 => (hall j x p h1 h2).below hb, ⟨hr.1, ?_⟩⟩
  rcases hr.2 with h | ⟨g, cap, cur, hv, hbg, hg, hr⟩
  · exact .inl h
  · exact .inr ⟨g, cap, cur, hv, hbg, by rw [hb.block g (Array.getElem?_eq_some_iff.1 hg).1]; exact hg, hr⟩
mutual

def placesT : Tm → List (List Int)
  | .mk _ _ _ xs => [] :: placesL 0 xs
def placesL : Nat → List Tm → List (List Int)
  | _, [] => []
  | i, t :: r => (placesT t).map ((i : Int) :: ·) ++ placesL (i + 1) r
end
mutual
theorem placesT_length : ∀ t : Tm, (placesT t).length = t.parts
  | .mk k s n xs => by rw [placesT, List.length_cons, placesL_length 0 xs, Tm.parts]
theorem placesL_length : ∀ (i : Nat) (l : List Tm), (placesL i l).length = partsL l
  | _, [] => by rw [placesL, partsL]; rfl
  | i, t :: r => by rw [placesL, List.length_append, List.length_map, placesT_length t, placesL_length (i + 1) r, partsL]
end
theorem placesL_append (a b : List Tm) (i : Nat) : placesL i (a ++ b) = placesL i a ++ placesL (i + a.length) b := by
  induction a generalizing i with
  | nil => simp [placesL]
  | cons t r ih => rw [List.cons_append, placesL, placesL, ih, List.append_assoc, List.length_cons, show i + (r.length + 1) = i + 1 + r.length from by omega]
theorem placesL_take {l : List Tm} {k : Nat} (h : k < l.length) : placesL 0 (l.take (k + 1)) = placesL 0 (l.take k) ++ (placesT l[k]).map ((k : Int) :: ·) := by
  rw [List.take_succ_eq_append_getElem h, placesL_append, placesL, placesL, List.append_nil, List.length_take, Nat.min_eq_left (Nat.le_of_lt h), Nat.zero_add]
theorem placesT_eq (t : Tm) : placesT t = [] :: placesL 0 t.args := by cases t; rw [placesT]; rfl
mutual
theorem placesT_len : ∀ (t : Tm) (p : List Int), p ∈ placesT t → p.length < t.parts
  | .mk k s n xs, p, h => by
    rw [placesT] at h
    rw [Tm.parts]
    rcases List.mem_cons.1 h with rfl | h
    · simp
    · have := placesL_len 0 xs p h; omega
theorem placesL_len : ∀ (i : Nat) (l : List Tm) (p : List Int), p ∈ placesL i l → p.length ≤ partsL l
  | _, [], p, h => by rw [placesL] at h; cases h
  | i, t :: r, p, h => by
    rw [placesL] at h
    rw [partsL]
    rcases List.mem_append.1 h with h | h
    · obtain ⟨q, hq, rfl⟩ := List.mem_map.1 h
      have := placesT_len t q hq
      simp; omega
    · have := placesL_len (i + 1) r p h; omega
end
def innerT (t : Tm) : List (List Int) := (placesT t).filter fun p => ((atT t p).getD zeroT).kind == 5
end Go.Proofs.YtnbjpgdnfklanaaGreatDoor
