/-
  What stands at a place, by the reference of layer 4: At.
  Rows of places: a slice of slices of whole numbers that the call itself has made; and all places of a term, as data.
  Functions added, joined, and those of a term: what is answered, and how it hangs together, as data. No function of the program.
-/
import Derived.Test.YtehpkhcjejlbpaaS02
import Derived.Deep.RegionHeld3
import Derived.BigQuiet
import Derived.Test.YtehpkhcjejlbpaaS01
import Derived.Laws.OwnMore
namespace Go.Proofs.Ytehpkhcjejlbpaa
open Go.RowKit

set_option maxRecDepth 100000 in
set_option maxHeartbeats 4000000 in
theorem at_tm (w0 : World) : ∀ (ps : List Int) (x : Tv) (v : Value) (w : World), x.ok w0 → Nums w0 v ps → Below w0.heap.size w0 w →
    Calls Try.prog 33 #[x.val, v] w (AtPost (atT x.t ps) w0 w) := by
  intro ps
  induction ps with
  | nil =>
    intro x v w hx hv hb0
    obtain ⟨a, c, rfl, _, _, _, _⟩ := hv
    obtain ⟨t, ax, cx⟩ := x
    have hE := Lib.hid (atT_nil t)
    have HX := Lib.hid hx
    simp only [Tv.val, List.length_nil] at *
    go_enter Try.func33, Try.ntmps33
    go_wp2_with fail
    refine bodyPost_ret (v := .tuple #[.agg #[.int .i64 t.kind, .string t.name, .int .i64 t.n, .slice ax t.args.length cx], .bool true]) (by simp [results, Try.results33, go_sem]) rfl ?_
    rw [hE.out]
    exact ⟨⟨t, ax, cx⟩, rfl, rfl, HX.out, ((Below.refl _ _).alloc (Nat.le_refl _) _).alloc (by simp) _⟩
  | cons i r ih =>
    intro x v w hx hv hb0
    have HV := Lib.hid hv
    obtain ⟨a, c, rfl, hlc, hcm, hbd, h⟩ := hv
    obtain ⟨b, off, rfl, hlt, hc⟩ := h.resolve_left (by simp)
    have hc0 : w0.cell? ⟨b, off, none⟩ = some (.int .i64 i) := hc 0 i rfl
    have hcw : w.cell? ⟨b, off, none⟩ = some (.int .i64 i) := by rw [hb0.cell (p := ⟨b, off, none⟩) hlt]; exact hc0
    have hltw : b < w.heap.size := Nat.lt_of_lt_of_le hlt hb0.size
    clear hc h hc0
    obtain ⟨t, ax, cx⟩ := x
    have hz1 : (w.alloc (.cells #[.int .i64 t.kind, .string t.name, .int .i64 t.n, .slice ax t.args.length cx] 40)).heap.size = w.heap.size + 1 := by simp
    have hz2 : ((w.alloc (.cells #[.int .i64 t.kind, .string t.name, .int .i64 t.n, .slice ax t.args.length cx] 40)).alloc (.cells #[.int .i64 0, .string ⟨#[]⟩, .int .i64 0, .slice none 0 0] 40)).heap.size = w.heap.size + 2 := by simp
    have hB2 : Below w.heap.size w ((w.alloc (.cells #[.int .i64 t.kind, .string t.name, .int .i64 t.n, .slice ax t.args.length cx] 40)).alloc (.cells #[.int .i64 0, .string ⟨#[]⟩, .int .i64 0, .slice none 0 0] 40)) := ((Below.refl _ _).alloc (Nat.le_refl _) _).alloc (by rw [hz1]; omega) _
    have hcb : ((w.alloc (.cells #[.int .i64 t.kind, .string t.name, .int .i64 t.n, .slice ax t.args.length cx] 40)).alloc (.cells #[.int .i64 0, .string ⟨#[]⟩, .int .i64 0, .slice none 0 0] 40)).cell? ⟨b, off, none⟩ = some (.int .i64 i) := by rw [hB2.cell (p := ⟨b, off, none⟩) hltw]; exact hcw
    have bX := (box_new w (.int .i64 t.kind) (.string t.name) (.int .i64 t.n) (.slice ax t.args.length cx) 40).below ((Below.refl _ _).alloc (Nat.le_refl _) (.cells #[.int .i64 0, .string ⟨#[]⟩, .int .i64 0, .slice none 0 0] 40)) (by rw [hz1]; omega)
    have bR := box_new (w.alloc (.cells #[.int .i64 t.kind, .string t.name, .int .i64 t.n, .slice ax t.args.length cx] 40)) (.int .i64 0) (.string ⟨#[]⟩) (.int .i64 0) (.slice none 0 0) 40
    rw [hz1] at bR
    obtain ⟨hx1, hxl, hxr⟩ := id hx
    have hlen1 : ((r.length + 1 : Nat) == 0) = false := by simp
    have hlen2 : (((r.length + 1 : Nat) : Int) == 0) = false := by rw [beq_eq_false_iff_ne]; omega
    have hlen3 : (0 : Int) < ((r.length + 1 : Nat) : Int) := by omega
    have HX := Lib.hid hx
    have HB := Lib.hid hb0
    simp only [Tv.val, List.length_cons] at HV hlc hxl hxr ⊢
    clear hcw hx hbd
    rcases Int.lt_or_le i 0 with hi | hi
    · have hd : decide (i < 0) = true := decide_eq_true hi
      have hE := Lib.hid (atT_out (t := t) (i := i) (r := r) (by omega))
      have HI := Lib.hid hi
      clear hi ih
      go_enter Try.func33, Try.ntmps33
      go_wp2_with fail
      go_quiet (fail)
      obtain ⟨wd, hwd⟩ : ∃ wd, wd = ((w.alloc (.cells #[.int .i64 t.kind, .string t.name, .int .i64 t.n, .slice ax t.args.length cx] 40)).alloc (.cells #[.int .i64 0, .string ⟨#[]⟩, .int .i64 0, .slice none 0 0] 40)).drewN nq := ⟨_, rfl⟩
      rw [← hwd]
      have hd2 : Below ((w.alloc (.cells #[.int .i64 t.kind, .string t.name, .int .i64 t.n, .slice ax t.args.length cx] 40)).alloc (.cells #[.int .i64 0, .string ⟨#[]⟩, .int .i64 0, .slice none 0 0] 40)).heap.size ((w.alloc (.cells #[.int .i64 t.kind, .string t.name, .int .i64 t.n, .slice ax t.args.length cx] 40)).alloc (.cells #[.int .i64 0, .string ⟨#[]⟩, .int .i64 0, .slice none 0 0] 40)) wd := by rw [hwd]; exact below_drewN (Below.refl _ _) nq
      have hBd : Below w.heap.size w wd := below_next hB2 hd2
      obtain ⟨q0, q1, q2, q3, g0, g1, g2, g3⟩ := bR.below hd2 (by rw [hz2]; omega)
      clear hwd hd2
      go_wp2_with fail
      refine bodyPost_ret (v := .tuple #[.agg #[.int .i64 0, .string ⟨#[]⟩, .int .i64 0, .slice none 0 0], .bool false]) (by simp [results, Try.results33, go_sem, q0, q1, q2, q3]) rfl ?_
      rw [hE.out]
      exact ⟨zeroV, rfl, rfl, zeroV_ok _, ((((hBd.setCell (p := ⟨w.heap.size + 1, 0, none⟩) (by simp) _).setCell (p := ⟨w.heap.size + 1, 1, none⟩) (by simp) _).setCell (p := ⟨w.heap.size + 1, 2, none⟩) (by simp) _).setCell (p := ⟨w.heap.size + 1, 3, none⟩) (by simp) _)⟩
    · have hd : decide (i < 0) = false := decide_eq_false (by omega)
      rcases Int.lt_or_le i t.args.length with hl | hl
      · obtain ⟨j, rfl⟩ : ∃ j : Nat, i = (j : Int) := ⟨i.toNat, by omega⟩
        have hjl : j < t.args.length := by omega
        have hd2 : decide ((t.args.length : Int) ≤ (j : Int)) = false := decide_eq_false (by omega)
        have hE := Lib.hid (atT_in (r := r) hjl)
        obtain ⟨b', o', rfl, hlt', hrow⟩ := hxr.resolve_left (by intro h; rw [h] at hjl; simp at hjl)
        obtain ⟨u, hut, huo, hu⟩ := tmAt_tv (rowAt_get hrow hjl)
        have hltw' : b' < w.heap.size := Nat.lt_of_lt_of_le hlt' HB.out.size
        have hBall : Below w0.heap.size w0 ((w.alloc (.cells #[.int .i64 t.kind, .string t.name, .int .i64 t.n, .slice (some ⟨b', o', none⟩) t.args.length cx] 40)).alloc (.cells #[.int .i64 0, .string ⟨#[]⟩, .int .i64 0, .slice none 0 0] 40)) := HB.out.trans (hB2.mono HB.out.size)
        have huW : TvAt ((w.alloc (.cells #[.int .i64 t.kind, .string t.name, .int .i64 t.n, .slice (some ⟨b', o', none⟩) t.args.length cx] 40)).alloc (.cells #[.int .i64 0, .string ⟨#[]⟩, .int .i64 0, .slice none 0 0] 40)) b' (o' + j * 4) u := ⟨(hBall.cell (p := ⟨b', o' + j * 4, none⟩) hlt').trans hu.c0, (hBall.cell (p := ⟨b', o' + j * 4 + 1, none⟩) hlt').trans hu.c1, (hBall.cell (p := ⟨b', o' + j * 4 + 2, none⟩) hlt').trans hu.c2, (hBall.cell (p := ⟨b', o' + j * 4 + 3, none⟩) hlt').trans hu.c3⟩
        obtain ⟨wz, hwz⟩ : ∃ x, x = ((w.alloc (.cells #[.int .i64 t.kind, .string t.name, .int .i64 t.n, .slice (some ⟨b', o', none⟩) t.args.length cx] 40)).alloc (.cells #[.int .i64 0, .string ⟨#[]⟩, .int .i64 0, .slice none 0 0] 40)) := ⟨_, rfl⟩
        have hBz : Below w0.heap.size w0 wz := by rw [hwz]; exact hBall
        have hCT := fun (aa : Option Addr) (haa : r ≠ [] → aa = some ⟨b, off + 1, none⟩) (W : World) (h : Below wz.heap.size wz W) => (ih u (.slice aa r.length (c - 1)) W huo (nums_tail rfl HV.out aa haa) (hBz.trans (h.mono hBz.size))).mono (fun e w' (hh : AtPost (atT u.t r) w0 W e w') => (show ∃ y : Tv, e = .returned (.tuple #[y.val, .bool (atT u.t r).isSome]) ∧ y.t = (atT u.t r).getD zeroT ∧ y.ok w0 ∧ Below wz.heap.size wz w' from by obtain ⟨y, h1, h2, h3, h4⟩ := hh; exact ⟨y, h1, h2, h3, below_next h h4⟩))
        rw [hut] at hCT
        rw [← hwz] at hB2 hcb bX bR hz2 huW
        have KEEP := Lib.hid (fun (W : World) (h : Below wz.heap.size wz W) => (show (W.cell? ⟨w.heap.size, 3, none⟩ = some (.slice (some ⟨b', o', none⟩) t.args.length cx) ∧ W.cell? ⟨b, off, none⟩ = some (.int .i64 j) ∧ W.cell? ⟨b', o' + j * 4, none⟩ = some (.int .i64 u.t.kind) ∧ W.cell? ⟨b', o' + j * 4 + 1, none⟩ = some (.string u.t.name) ∧ W.cell? ⟨b', o' + j * 4 + 2, none⟩ = some (.int .i64 u.t.n) ∧ W.cell? ⟨b', o' + j * 4 + 3, none⟩ = some (.slice u.a u.t.args.length u.c)) from
          ⟨(bX.below h (by omega)).c3, (h.cell (p := ⟨b, off, none⟩) (by show b < _; omega)).trans hcb, (h.cell (p := ⟨b', o' + j * 4, none⟩) (by show b' < _; omega)).trans huW.c0, (h.cell (p := ⟨b', o' + j * 4 + 1, none⟩) (by show b' < _; omega)).trans huW.c1, (h.cell (p := ⟨b', o' + j * 4 + 2, none⟩) (by show b' < _; omega)).trans huW.c2, (h.cell (p := ⟨b', o' + j * 4 + 3, none⟩) (by show b' < _; omega)).trans huW.c3⟩))
        have FAR : ∀ (W : World) (u0 u1 u2 u3 : Value) (p : Addr), p.block ≠ w.heap.size + 1 → ((((W.setCell ⟨w.heap.size + 1, 0, none⟩ u0).setCell ⟨w.heap.size + 1, 1, none⟩ u1).setCell ⟨w.heap.size + 1, 2, none⟩ u2).setCell ⟨w.heap.size + 1, 3, none⟩ u3).cell? p = W.cell? p := fun W u0 u1 u2 u3 p hp => by
          rw [World.cell?_of_block (Below.heap_setCell _ _ _ _ hp), World.cell?_of_block (Below.heap_setCell _ _ _ _ hp), World.cell?_of_block (Below.heap_setCell _ _ _ _ hp), World.cell?_of_block (Below.heap_setCell _ _ _ _ hp)]
        have KEEP2 := Lib.hid (fun (V : World) (h : Below wz.heap.size wz V) (u0 u1 u2 u3 : Value) => (show ((fun W => W.cell? ⟨w.heap.size, 3, none⟩ = some (.slice (some ⟨b', o', none⟩) t.args.length cx) ∧ W.cell? ⟨b, off, none⟩ = some (.int .i64 j) ∧ W.cell? ⟨b', o' + j * 4, none⟩ = some (.int .i64 u.t.kind) ∧ W.cell? ⟨b', o' + j * 4 + 1, none⟩ = some (.string u.t.name) ∧ W.cell? ⟨b', o' + j * 4 + 2, none⟩ = some (.int .i64 u.t.n) ∧ W.cell? ⟨b', o' + j * 4 + 3, none⟩ = some (.slice u.a u.t.args.length u.c)) ((((V.setCell ⟨w.heap.size + 1, 0, none⟩ u0).setCell ⟨w.heap.size + 1, 1, none⟩ u1).setCell ⟨w.heap.size + 1, 2, none⟩ u2).setCell ⟨w.heap.size + 1, 3, none⟩ u3)) from by
          obtain ⟨k0, k1, k2, k3, k4, k5⟩ := KEEP.out V h
          exact ⟨(FAR _ _ _ _ _ _ (by simp)).trans k0, (FAR _ _ _ _ _ _ (by show b ≠ _; omega)).trans k1, (FAR _ _ _ _ _ _ (by show b' ≠ _; omega)).trans k2, (FAR _ _ _ _ _ _ (by show b' ≠ _; omega)).trans k3, (FAR _ _ _ _ _ _ (by show b' ≠ _; omega)).trans k4, (FAR _ _ _ _ _ _ (by show b' ≠ _; omega)).trans k5⟩))
        have HBR := Lib.hid (fun (V : World) (h : Below wz.heap.size wz V) => bR.below (B := wz.heap.size) h (by omega))
        have HUT := Lib.hid hut
        have hj0 : (0 : Int) ≤ (j : Int) := by omega
        have hj1 : (j : Int) < (t.args.length : Int) := by omega
        have hc1 : (1 : Int) ≤ ((r.length + 1 : Nat) : Int) := by omega
        have hc2 : ((r.length + 1 : Nat) : Int) ≤ (c : Int) := by omega
        obtain ⟨p0, p1, p2, p3, _, _, _, _⟩ := id bX
        obtain ⟨m0, m1, m2, m3⟩ := id huW
        have HFIN := Lib.hid (fun (V : World) (h : Below wz.heap.size wz V) (u0 u1 u2 u3 : Value) => (show Below w.heap.size w ((((V.setCell ⟨w.heap.size + 1, 0, none⟩ u0).setCell ⟨w.heap.size + 1, 1, none⟩ u1).setCell ⟨w.heap.size + 1, 2, none⟩ u2).setCell ⟨w.heap.size + 1, 3, none⟩ u3) from ((((hB2.trans (h.mono hB2.size)).setCell (p := ⟨w.heap.size + 1, 0, none⟩) (by simp) _).setCell (p := ⟨w.heap.size + 1, 1, none⟩) (by simp) _).setCell (p := ⟨w.heap.size + 1, 2, none⟩) (by simp) _).setCell (p := ⟨w.heap.size + 1, 3, none⟩) (by simp) _))
        rcases Nat.lt_or_ge 1 c with hcc | hcc
        · have CT := Lib.hid (hCT (some ⟨b, off + 1, none⟩) (fun _ => rfl))
          have hcne : (c = 1) = False := by simp; omega
          have hc4 : (1 : Int) ≤ (r.length : Int) + 1 := by omega
          have hc5 : (0 : Int) ≤ (r.length : Int) := by omega
          clear hcc hCT
          simp only [Tv.val] at CT
          clear hi ih hl FAR hrow hu hut huo hlt' hBall hxl
          go_enter Try.func33, Try.ntmps33
          go_wp2_with fail
          rw [← hwz]
          clear hwz
          go_quiet (fail)
          obtain ⟨wq, hwq⟩ : ∃ x, x = wz.drewN nq := ⟨_, rfl⟩
          rw [← hwq]
          have hq0 : Below wz.heap.size wz wq := by rw [hwq]; exact below_drewN (Below.refl _ _) nq
          have h0d := hq0.drew
          clear hwq
          go_wp2_with fail
          go_region_held3 (fun W => W.cell? ⟨w.heap.size, 3, none⟩ = some (.slice (some ⟨b', o', none⟩) t.args.length cx) ∧ W.cell? ⟨b, off, none⟩ = some (.int .i64 j) ∧ W.cell? ⟨b', o' + j * 4, none⟩ = some (.int .i64 u.t.kind) ∧ W.cell? ⟨b', o' + j * 4 + 1, none⟩ = some (.string u.t.name) ∧ W.cell? ⟨b', o' + j * 4 + 2, none⟩ = some (.int .i64 u.t.n) ∧ W.cell? ⟨b', o' + j * 4 + 3, none⟩ = some (.slice u.a u.t.args.length u.c)) (first | exact KEEP.out _ (by assumption) | exact KEEP2.out _ (by assumption) _ _ _ _)
            ((go_at_call 33; refine (CT.out _ (by assumption)).mono ?_; rintro e w' ⟨y, rfl, hyt, hyo, hn⟩; obtain ⟨q0, q1, q2, q3, g0, g1, g2, g3⟩ := HBR.out _ hn; obtain ⟨ty, ay, cy⟩ := y; simp only at hyt ⊢; have HYT := Lib.hid hyt; clear hyt))
          go_wp2_with fail
          refine bodyPost_ret (v := .tuple #[.agg #[.int .i64 ty.kind, .string ty.name, .int .i64 ty.n, .slice ay ty.args.length cy], .bool (atT t.args[j] r).isSome]) (by simp [results, Try.results33, go_sem, q0, q1, q2, q3]) rfl ?_
          rw [hE.out]
          exact ⟨⟨ty, ay, cy⟩, rfl, HYT.out, hyo, HFIN.out _ hn _ _ _ _⟩
        · obtain rfl : c = 1 := by omega
          have CT := Lib.hid (hCT (some ⟨b, off, none⟩) (fun h => absurd (List.eq_nil_of_length_eq_zero (by omega)) h))
          obtain rfl : r = [] := List.eq_nil_of_length_eq_zero (by omega)
          clear hlen1 hlen2 hlen3 hc1 hc2 hlc
          simp only [List.length_nil, Nat.zero_add, Nat.sub_self] at CT ⊢
          clear hcc hCT
          simp only [Tv.val] at CT
          clear hi ih hl FAR hrow hu hut huo hlt' hBall hxl
          go_enter Try.func33, Try.ntmps33
          go_wp2_with fail
          rw [← hwz]
          clear hwz
          go_quiet (fail)
          obtain ⟨wq, hwq⟩ : ∃ x, x = wz.drewN nq := ⟨_, rfl⟩
          rw [← hwq]
          have hq0 : Below wz.heap.size wz wq := by rw [hwq]; exact below_drewN (Below.refl _ _) nq
          have h0d := hq0.drew
          clear hwq
          go_wp2_with fail
          go_region_held3 (fun W => W.cell? ⟨w.heap.size, 3, none⟩ = some (.slice (some ⟨b', o', none⟩) t.args.length cx) ∧ W.cell? ⟨b, off, none⟩ = some (.int .i64 j) ∧ W.cell? ⟨b', o' + j * 4, none⟩ = some (.int .i64 u.t.kind) ∧ W.cell? ⟨b', o' + j * 4 + 1, none⟩ = some (.string u.t.name) ∧ W.cell? ⟨b', o' + j * 4 + 2, none⟩ = some (.int .i64 u.t.n) ∧ W.cell? ⟨b', o' + j * 4 + 3, none⟩ = some (.slice u.a u.t.args.length u.c)) (first | exact KEEP.out _ (by assumption) | exact KEEP2.out _ (by assumption) _ _ _ _)
            ((go_at_call 33; refine (CT.out _ (by assumption)).mono ?_; rintro e w' ⟨y, rfl, hyt, hyo, hn⟩; obtain ⟨q0, q1, q2, q3, g0, g1, g2, g3⟩ := HBR.out _ hn; obtain ⟨ty, ay, cy⟩ := y; simp only at hyt ⊢; have HYT := Lib.hid hyt; clear hyt))
          go_wp2_with fail
          refine bodyPost_ret (v := .tuple #[.agg #[.int .i64 ty.kind, .string ty.name, .int .i64 ty.n, .slice ay ty.args.length cy], .bool (atT t.args[j] []).isSome]) (by simp [results, Try.results33, go_sem, q0, q1, q2, q3]) rfl ?_
          rw [hE.out]
          exact ⟨⟨ty, ay, cy⟩, rfl, HYT.out, hyo, HFIN.out _ hn _ _ _ _⟩
      · have hd2 : decide ((t.args.length : Int) ≤ i) = true := decide_eq_true hl
        have hE := Lib.hid (atT_out (t := t) (i := i) (r := r) (by omega))
        obtain ⟨p0, p1, p2, p3, _, _, _, _⟩ := id bX
        clear hi ih hl
        go_enter Try.func33, Try.ntmps33
        go_wp2_with fail
        go_quiet (fail)
        obtain ⟨wd, hwd⟩ : ∃ wd, wd = ((w.alloc (.cells #[.int .i64 t.kind, .string t.name, .int .i64 t.n, .slice ax t.args.length cx] 40)).alloc (.cells #[.int .i64 0, .string ⟨#[]⟩, .int .i64 0, .slice none 0 0] 40)).drewN nq := ⟨_, rfl⟩
        rw [← hwd]
        have hd2 : Below ((w.alloc (.cells #[.int .i64 t.kind, .string t.name, .int .i64 t.n, .slice ax t.args.length cx] 40)).alloc (.cells #[.int .i64 0, .string ⟨#[]⟩, .int .i64 0, .slice none 0 0] 40)).heap.size ((w.alloc (.cells #[.int .i64 t.kind, .string t.name, .int .i64 t.n, .slice ax t.args.length cx] 40)).alloc (.cells #[.int .i64 0, .string ⟨#[]⟩, .int .i64 0, .slice none 0 0] 40)) wd := by rw [hwd]; exact below_drewN (Below.refl _ _) nq
        have hBd : Below w.heap.size w wd := below_next hB2 hd2
        obtain ⟨q0, q1, q2, q3, g0, g1, g2, g3⟩ := bR.below hd2 (by rw [hz2]; omega)
        clear hwd hd2
        go_wp2_with fail
        refine bodyPost_ret (v := .tuple #[.agg #[.int .i64 0, .string ⟨#[]⟩, .int .i64 0, .slice none 0 0], .bool false]) (by simp [results, Try.results33, go_sem, q0, q1, q2, q3]) rfl ?_
        rw [hE.out]
        exact ⟨zeroV, rfl, rfl, zeroV_ok _, ((((hBd.setCell (p := ⟨w.heap.size + 1, 0, none⟩) (by simp) _).setCell (p := ⟨w.heap.size + 1, 1, none⟩) (by simp) _).setCell (p := ⟨w.heap.size + 1, 2, none⟩) (by simp) _).setCell (p := ⟨w.heap.size + 1, 3, none⟩) (by simp) _)⟩
end Go.Proofs.Ytehpkhcjejlbpaa

namespace Go.Proofs.Ytehpkhcjejlbpaa
open Go.RowKit

/-- A slice of int's in a block of its own. -/
def OwnInts (w : World) (v : Value) (p : List Int) : Prop := w.ownsRow 0 3 1 v p.length (p.map (Value.int .i64)) ∧ (∀ n ∈ p, -9223372036854775808 ≤ n ∧ n ≤ 9223372036854775807) ∧ v.ownBlock ≠ none
theorem OwnInts.nums {w : World} {v : Value} {p : List Int} (h : OwnInts w v p) : Nums w v p := by
  obtain ⟨⟨_, h⟩, hb, _⟩ := h
  rcases h with ⟨rfl, h0⟩ | ⟨g, cap, cur, rfl, _, hg, hk, hm, hs, ht⟩
  · have : p = [] := List.eq_nil_of_length_eq_zero h0
    subst this
    exact ⟨none, 0, rfl, Nat.le_refl _, by omega, hb, .inl rfl⟩
  · refine ⟨_, cap, rfl, hk, by unfold maxLen at hm; omega, hb, .inr ⟨g, 0, rfl, ?_, fun j n hj => ?_⟩⟩
    · rcases Nat.lt_or_ge g w.heap.size with h | h
      · exact h
      · rw [Array.getElem?_eq_none h] at hg; cases hg
    · have hjl : j < p.length := (List.getElem?_eq_some_iff.1 hj).1
      have h1 : (p.map (Value.int .i64))[j]? = some (.int .i64 n) := by rw [List.getElem?_map, hj]; rfl
      rw [← ht, List.getElem?_take, if_pos (by omega)] at h1
      rw [Nat.zero_add, cell_of_row w g j cur _ (0, 0) hg]
      simpa using h1
/-- It stands behind growth that turns a row of another type alone. -/
theorem OwnInts.kept {w w' : World} {v u : Value} {p : List Int} (h : OwnInts w v p) {base size n : Nat} {e : TypeId} {xs : List Value} (he : e ≠ 3) (hu : w.ownsRow base e size u n xs) (hg : w.grownBy w' u.ownBlock) : OwnInts w' v p := by
  refine ⟨h.1.kept hg ?_, h.2.1, h.2.2⟩
  by_cases hv : v.ownBlock = none
  · exact .inl hv
  · refine .inr fun hvu => ?_
    rcases h.1.2 with ⟨rfl, _⟩ | ⟨g, cap, cur, rfl, _, hgb, _⟩
    · exact hv rfl
    · rcases hu.2 with ⟨rfl, _⟩ | ⟨g', cap', cur', rfl, _, hgb', _⟩
      · simp [Value.ownBlock] at hvu
      · obtain rfl : g = g' := by simpa [Value.ownBlock] using hvu
        rw [hgb] at hgb'
        injection hgb' with h1
        injection h1 with _ h1 _
        exact he h1.symm
theorem OwnInts.below {w w' : World} {v : Value} {p : List Int} (h : OwnInts w v p) (hb : Below w.heap.size w w') : OwnInts w' v p := by
  refine ⟨⟨h.1.1, ?_⟩, h.2⟩
  rcases h.1.2 with h | ⟨g, cap, cur, hv, hbg, hg, hr⟩
  · exact .inl h
  · exact .inr ⟨g, cap, cur, hv, hbg, by rw [hb.block g (Array.getElem?_eq_some_iff.1 hg).1]; exact hg, hr⟩
/-- A row of places that the call itself has made. -/
def OwnPl (w : World) (base : Nat) (v : Value) (pss : List (List Int)) : Prop :=
  ∃ vs : List Value, vs.length = pss.length ∧ (∀ (j : Nat) x p, vs[j]? = some x → pss[j]? = some p → OwnInts w x p) ∧ w.ownsRow base 42 1 v pss.length vs
theorem OwnPl.kept {w w' : World} {v u : Value} {pss : List (List Int)} {base size n b2 : Nat} {xs : List Value} (h : OwnPl w b2 v pss) (hu : w.ownsRow base 42 size u n xs) (hg : w.grownBy w' u.ownBlock) (hne : v.ownBlock ≠ u.ownBlock) : OwnPl w' b2 v pss := by
  obtain ⟨vs, hl, hall, hr⟩ := h
  exact ⟨vs, hl, fun j x p h1 h2 => (hall j x p h1 h2).kept (by decide) hu hg, hr.kept hg (.inr hne)⟩
theorem own_form {w : World} {base : Nat} {e : TypeId} {size n : Nat} {v : Value} {xs : List Value} (h : w.ownsRow base e size v n xs) (hn : 0 < n) : ∃ g cap, v = .slice (some ⟨g, 0, none⟩) n cap ∧ g < w.heap.size := by
  rcases h.2 with ⟨_, h0⟩ | ⟨g, cap, cur, rfl, _, hg, _⟩
  · omega
  · refine ⟨g, cap, rfl, ?_⟩
    rcases Nat.lt_or_ge g w.heap.size with h | h
    · exact h
    · rw [Array.getElem?_eq_none h] at hg; cases hg
/-- One place more. -/
theorem ownPl_snoc {w w' : World} {v v' x : Value} {pss : List (List Int)} {p : List Int} {base : Nat} {vs : List Value} (hl : vs.length = pss.length) (hall : ∀ (j : Nat) x p, vs[j]? = some x → pss[j]? = some p → OwnInts w x p)
    (hr : w.ownsRow base 42 1 v pss.length vs) (hx : OwnInts w x p) (hg : w.grownBy w' v.ownBlock) (hr' : w'.ownsRow base 42 1 v' (pss.length + 1) (vs ++ [x])) : OwnPl w' base v' (pss ++ [p]) := by
  refine ⟨vs ++ [x], by simp [hl], fun j y q h1 h2 => ?_, by rw [List.length_append]; exact hr'⟩
  rcases Nat.lt_or_ge j vs.length with hj | hj
  · rw [List.getElem?_append_left hj] at h1
    rw [List.getElem?_append_left (by omega)] at h2
    exact (hall j y q h1 h2).kept (by decide) hr hg
  · rw [List.getElem?_append_right hj] at h1
    rw [List.getElem?_append_right (by omega)] at h2
    have : j - vs.length = 0 := by
      rcases Nat.eq_zero_or_pos (j - vs.length) with h | h
      · exact h
      · rw [List.getElem?_eq_none (by simp; omega)] at h1; cases h1
    rw [this] at h1
    rw [← hl, this] at h2
    simp at h1 h2
    subst h1; subst h2
    exact hx.kept (by decide) hr hg
theorem OwnPl.below {w w' : World} {base : Nat} {v : Value} {pss : List (List Int)} (h : OwnPl w base v pss) (hb : Below w.heap.size w w') : OwnPl w' base v pss := by
  obtain ⟨vs, hl, hall, hr⟩ := h
  refine ⟨vs, hl, fun j x p h1 h2 => (hall j x p h1 h2).below hb, ⟨hr.1, ?_⟩⟩
  rcases hr.2 with h | ⟨g, cap, cur, hv, hbg, hg, hr⟩
  · exact .inl h
  · exact .inr ⟨g, cap, cur, hv, hbg, by rw [hb.block g (Array.getElem?_eq_some_iff.1 hg).1]; exact hg, hr⟩

mutual
/-- All places of a term, in the order of its parts. -/
def placesT : Tm → List (List Int)
  | .mk _ _ _ xs => [] :: placesL 0 xs
def placesL : Nat → List Tm → List (List Int)
  | _, [] => []
  | i, t :: r => (placesT t).map ((i : Int) :: ·) ++ placesL (i + 1) r
end
mutual
theorem placesT_length : ∀ t : Tm, (placesT t).length = t.parts
  | .mk k s n xs => by rw [placesT, List.length_cons, placesL_length 0 xs, Tm.parts]
theorem placesL_length : ∀ (i : Nat) (l : List Tm), (placesL i l).length = partsL l
  | _, [] => by rw [placesL, partsL]; rfl
  | i, t :: r => by rw [placesL, List.length_append, List.length_map, placesT_length t, placesL_length (i + 1) r, partsL]
end
theorem placesL_append (a b : List Tm) (i : Nat) : placesL i (a ++ b) = placesL i a ++ placesL (i + a.length) b := by
  induction a generalizing i with
  | nil => simp [placesL]
  | cons t r ih => rw [List.cons_append, placesL, placesL, ih, List.append_assoc, List.length_cons, show i + (r.length + 1) = i + 1 + r.length from by omega]
theorem placesL_take {l : List Tm} {k : Nat} (h : k < l.length) : placesL 0 (l.take (k + 1)) = placesL 0 (l.take k) ++ (placesT l[k]).map ((k : Int) :: ·) := by
  rw [List.take_succ_eq_append_getElem h, placesL_append, placesL, placesL, List.append_nil, List.length_take, Nat.min_eq_left (Nat.le_of_lt h), Nat.zero_add]
theorem placesT_eq (t : Tm) : placesT t = [] :: placesL 0 t.args := by cases t; rw [placesT]; rfl
mutual
theorem placesT_len : ∀ (t : Tm) (p : List Int), p ∈ placesT t → p.length < t.parts
  | .mk k s n xs, p, h => by
    rw [placesT] at h
    rw [Tm.parts]
    rcases List.mem_cons.1 h with rfl | h
    · simp
    · have := placesL_len 0 xs p h; omega
theorem placesL_len : ∀ (i : Nat) (l : List Tm) (p : List Int), p ∈ placesL i l → p.length ≤ partsL l
  | _, [], p, h => by rw [placesL] at h; cases h
  | i, t :: r, p, h => by
    rw [placesL] at h
    rw [partsL]
    rcases List.mem_append.1 h with h | h
    · obtain ⟨q, hq, rfl⟩ := List.mem_map.1 h
      have := placesT_len t q hq
      simp; omega
    · have := placesL_len (i + 1) r p h; omega
end
/-- Those of functions. -/
def innerT (t : Tm) : List (List Int) := (placesT t).filter fun p => ((atT t p).getD zeroT).kind == 5
end Go.Proofs.Ytehpkhcjejlbpaa

namespace Go.Proofs.Ytehpkhcjejlbpaa
open Go.RowKit

/-- What a call of Add leaves. -/
def AddPost (fs : List Fn) (f : Fn) (w : World) (e : Ending) (w' : World) : Prop := ∃ v, e = .returned (.tuple #[v, .int .i64 (addE fs f)]) ∧ Fus w' v (addL fs f) ∧ Below w.heap.size w w'
theorem add_bad {fs : List Fn} {f : Fn} {w w' : World} {n : Int} (h : addE fs f = n) (hn : n ≠ 0) (hb : Below w.heap.size w w') : AddPost fs f w (.returned (.tuple #[.slice none 0 0, .int .i64 n])) w' :=
  ⟨_, by rw [h], by rw [addL_bad (by rw [h]; exact hn)]; exact Fus.none_ _ _ _, hb⟩
/-- What a call of Join leaves. -/
def JoinPost (fs bs : List Fn) (w : World) (e : Ending) (w' : World) : Prop := ∃ v, e = .returned (.tuple #[v, .int .i64 (joinE fs bs)]) ∧ Fus w' v (joinL fs bs) ∧ Below w.heap.size w w'
theorem dropF_cons {bs : List Fn} {k : Nat} {x : Fn} (hk : bs[k]? = some x) : bs.drop k = x :: bs.drop (k + 1) := by
  obtain ⟨hl, rfl⟩ := List.getElem?_eq_some_iff.1 hk
  exact List.drop_eq_getElem_cons hl
theorem join_has {fs os bs : List Fn} {k : Nat} {x : Fn} (hk : bs[k]? = some x) (h : hasFn fs x = true) : joinR fs os (bs.drop k) = joinR fs os (bs.drop (k + 1)) := by
  rw [dropF_cons hk, joinR, if_pos h]
theorem join_add {fs os bs : List Fn} {k : Nat} {x : Fn} (hk : bs[k]? = some x) (h : hasFn fs x = false) (h0 : addE os x = 0) : joinR fs os (bs.drop k) = joinR fs (os ++ [x]) (bs.drop (k + 1)) := by
  rw [dropF_cons hk, joinR, if_neg (by rw [h]; simp), if_pos h0]
theorem join_err {fs os bs : List Fn} {k : Nat} {x : Fn} (hk : bs[k]? = some x) (h : hasFn fs x = false) (h0 : addE os x ≠ 0) : joinR fs os (bs.drop k) = (addE os x, []) := by
  rw [dropF_cons hk, joinR, if_neg (by rw [h]; simp), if_neg h0]
theorem joinL_len : ∀ (fs os bs : List Fn), (joinR fs os bs).2.length ≤ os.length + 40
  | fs, os, [] => by rw [joinR]; simp
  | fs, os, f :: r => by
    rw [joinR]
    split
    · exact joinL_len fs os r
    · split
      · next h0 =>
        have := (addE_zero.1 h0).2.2
        have key : ∀ (r os : List Fn), os.length ≤ 40 → (joinR fs os r).2.length ≤ 40 := by
          intro r
          induction r with
          | nil => intro os h; rw [joinR]; exact h
          | cons g r ih =>
            intro os h
            rw [joinR]
            split
            · exact ih os h
            · split
              · next h1 => exact ih _ (by have := (addE_zero.1 h1).2.2; rw [List.length_append, List.length_singleton]; omega)
              · simp
        have := key r (os ++ [f]) (by rw [List.length_append, List.length_singleton]; omega)
        omega
      · simp
/-- What is told of places, one by one. -/
def fitsR (fs : List Fn) (t : Tm) : List (List Int) → Int × List Int
  | [] => (0, [])
  | p :: r => match arF fs ((atT t p).getD zeroT).name with
    | none => (4, p)
    | some n => if n = ((atT t p).getD zeroT).args.length then fitsR fs t r else (5, p)
def fitsF (fs : List Fn) (t : Tm) : Int × List Int := fitsR fs t (innerT t)
/-- What a call of Fits leaves. -/
def FitsPost (fs : List Fn) (t : Tm) (w : World) (e : Ending) (w' : World) : Prop := ∃ v, e = .returned (.tuple #[.int .i64 (fitsF fs t).1, v]) ∧ Nums w' v (fitsF fs t).2 ∧ Below w.heap.size w w'
theorem fits_none {fs : List Fn} {t : Tm} {l : List (List Int)} {k : Nat} {p : List Int} (hk : l[k]? = some p) (h : arF fs ((atT t p).getD zeroT).name = none) : fitsR fs t (l.drop k) = (4, p) := by
  obtain ⟨hl, rfl⟩ := List.getElem?_eq_some_iff.1 hk
  rw [List.drop_eq_getElem_cons hl, fitsR, h]
theorem fits_same {fs : List Fn} {t : Tm} {l : List (List Int)} {k : Nat} {p : List Int} {n : Int} (hk : l[k]? = some p) (h : arF fs ((atT t p).getD zeroT).name = some n) (hn : n = ((atT t p).getD zeroT).args.length) : fitsR fs t (l.drop k) = fitsR fs t (l.drop (k + 1)) := by
  obtain ⟨hl, rfl⟩ := List.getElem?_eq_some_iff.1 hk
  rw [List.drop_eq_getElem_cons hl, fitsR, h]
  exact if_pos hn
theorem fits_other {fs : List Fn} {t : Tm} {l : List (List Int)} {k : Nat} {p : List Int} {n : Int} (hk : l[k]? = some p) (h : arF fs ((atT t p).getD zeroT).name = some n) (hn : n ≠ ((atT t p).getD zeroT).args.length) : fitsR fs t (l.drop k) = (5, p) := by
  obtain ⟨hl, rfl⟩ := List.getElem?_eq_some_iff.1 hk
  rw [List.drop_eq_getElem_cons hl, fitsR, h]
  exact if_neg hn
theorem nums_none (w : World) : Nums w (.slice none 0 0) [] := ⟨none, 0, rfl, Nat.le_refl _, by omega, fun n hn => (by cases hn), .inl rfl⟩

/-- A function's symbol. -/
def symF (t : Tm) : Fn := (t.name, t.args.length)
/-- One part more. -/
noncomputable def ofStep (out : List Fn) (t : Tm) : List Fn := if t.kind = 5 ∧ hasFn out (symF t) = false then out ++ [symF t] else out
noncomputable def ofL (l : List Tm) : List Fn := l.foldl ofStep []
noncomputable def ofF (t : Tm) : List Fn := ofL t.all
theorem ofL_take {l : List Tm} {k : Nat} {x : Tm} (hk : l[k]? = some x) : ofL (l.take (k + 1)) = ofStep (ofL (l.take k)) x := by
  obtain ⟨hl, rfl⟩ := List.getElem?_eq_some_iff.1 hk
  rw [List.take_succ_eq_append_getElem hl]; unfold ofL; rw [List.foldl_append]; rfl
theorem ofL_length (l : List Tm) : (ofL l).length ≤ l.length := by
  have : ∀ (l : List Tm) (acc : List Fn), (l.foldl ofStep acc).length ≤ acc.length + l.length := by
    intro l
    induction l with
    | nil => intro acc; simp
    | cons x r ih =>
      intro acc
      rw [List.foldl_cons]
      have := ih (ofStep acc x)
      have h2 : (ofStep acc x).length ≤ acc.length + 1 := by unfold ofStep; split <;> simp
      rw [List.length_cons]; omega
  have := this l []
  unfold ofL; simpa using this


/-! What is joined. -/
theorem join_keep : ∀ (fs bs os : List Fn), (joinR fs os bs).1 = 0 → ∀ f ∈ os, f ∈ (joinR fs os bs).2
  | fs, [], os, _, f, hf => by rw [joinR]; exact hf
  | fs, b :: r, os, h, f, hf => by
    rw [joinR] at h ⊢
    split at h
    · next hh => rw [if_pos hh]; exact join_keep fs r os h f hf
    · next hh =>
      rw [if_neg hh]
      split at h
      · next h0 => rw [if_pos h0]; exact join_keep fs r _ h f (List.mem_append_left _ hf)
      · next h0 => exact absurd h h0
theorem join_all : ∀ (fs bs os : List Fn), (∀ f ∈ fs, f ∈ os) → (joinR fs os bs).1 = 0 → ∀ f ∈ bs, f ∈ (joinR fs os bs).2
  | fs, [], os, _, _, f, hf => by cases hf
  | fs, b :: r, os, hos, h, f, hf => by
    rw [joinR] at h ⊢
    split at h
    · next hh =>
      rw [if_pos hh]
      rcases List.mem_cons.1 hf with rfl | hf
      · exact join_keep fs r os h f (hos f (hasFn_iff.1 hh))
      · exact join_all fs r os hos h f hf
    · next hh =>
      rw [if_neg hh]
      split at h
      · next h0 =>
        rw [if_pos h0]
        rcases List.mem_cons.1 hf with rfl | hf
        · exact join_keep fs r _ h f (List.mem_append_right _ (List.mem_singleton.2 rfl))
        · exact join_all fs r _ (fun g hg => List.mem_append_left _ (hos g hg)) h f hf
      · next h0 => exact absurd h h0
theorem join_same : ∀ (fs bs os : List Fn), (∀ f ∈ bs, f ∈ fs) → joinR fs os bs = (0, os)
  | fs, [], os, _ => by rw [joinR]
  | fs, b :: r, os, h => by
    rw [joinR, if_pos (hasFn_iff.2 (h b (List.mem_cons_self ..)))]
    exact join_same fs r os (fun f hf => h f (List.mem_cons_of_mem _ hf))
theorem join_mem : ∀ (fs bs os : List Fn) (f : Fn), f ∈ (joinR fs os bs).2 → f ∈ os ∨ f ∈ bs
  | fs, [], os, f, h => by rw [joinR] at h; exact .inl h
  | fs, b :: r, os, f, h => by
    rw [joinR] at h
    split at h
    · rcases join_mem fs r os f h with h | h
      · exact .inl h
      · exact .inr (List.mem_cons_of_mem _ h)
    · split at h
      · rcases join_mem fs r _ f h with h | h
        · rcases List.mem_append.1 h with h | h
          · exact .inl h
          · exact .inr (by rw [List.mem_singleton.1 h]; exact List.mem_cons_self ..)
        · exact .inr (List.mem_cons_of_mem _ h)
      · cases h
/-- What is joined with what it has stays as it is. -/
theorem join_again {fs bs : List Fn} (h : joinE fs bs = 0) : joinE (joinL fs bs) bs = 0 ∧ joinL (joinL fs bs) bs = joinL fs bs := by
  have := join_same (joinL fs bs) bs (joinL fs bs) (join_all fs bs fs (fun f hf => hf) h)
  exact ⟨by unfold joinE; rw [this], by rw [joinL, this]⟩
theorem right_add {fs : List Fn} {f : Fn} (h : rightF fs = true) (h0 : addE fs f = 0) : rightF (fs ++ [f]) = true := by
  rw [rightF_iff] at h ⊢
  obtain ⟨h1, h2⟩ := h
  obtain ⟨a1, a2, a3⟩ := addE_zero.1 h0
  refine ⟨by rw [List.length_append, List.length_singleton]; omega, fun i g hg => ?_⟩
  rcases Nat.lt_or_ge i fs.length with hi | hi
  · rw [List.getElem?_append_left hi] at hg
    rw [List.take_append_of_le_length (by omega)]
    exact h2 i g hg
  · rw [List.getElem?_append_right hi] at hg
    have hl := (List.getElem?_eq_some_iff.1 hg).1
    simp only [List.length_singleton] at hl
    have hz : i = fs.length := by omega
    subst hz
    simp only [Nat.sub_self, List.getElem?_cons_zero, Option.some.injEq] at hg
    subst hg
    rw [List.take_left]
    exact ⟨a1, a2⟩
theorem right_join : ∀ (fs bs os : List Fn), rightF os = true → (joinR fs os bs).1 = 0 → rightF (joinR fs os bs).2 = true
  | fs, [], os, h, _ => by rw [joinR]; exact h
  | fs, b :: r, os, h, h1 => by
    rw [joinR] at h1 ⊢
    split at h1
    · next hh => rw [if_pos hh]; exact right_join fs r os h h1
    · next hh =>
      rw [if_neg hh]
      split at h1
      · next h0 => rw [if_pos h0]; exact right_join fs r _ (right_add h h0) h1
      · next h0 => exact absurd h1 h0

/-! What stands at the places of a term. -/
mutual
theorem places_at : ∀ t : Tm, (placesT t).map (fun p => (atT t p).getD zeroT) = t.all
  | .mk k s n xs => by
    rw [placesT, List.map_cons, atT_nil, all_eq]
    congr 1
    have h := places_atL xs xs 0 (fun j hj => ⟨by simpa using hj, by simp⟩) (.mk k s n xs) rfl
    exact h
theorem places_atL : ∀ (l ys : List Tm) (i : Nat), (∀ j (h : j < l.length), ∃ h2 : i + j < ys.length, ys[i + j] = l[j]) → ∀ t : Tm, t.args = ys → (placesL i l).map (fun p => (atT t p).getD zeroT) = allL l
  | [], _, _, _, _, _ => by rw [placesL, allL]; rfl
  | x :: r, ys, i, h, t, ht => by
    rw [placesL, List.map_append, List.map_map, allL]
    obtain ⟨h2, h3⟩ := h 0 (by simp)
    congr 1
    · rw [← places_at x]
      refine List.map_congr_left fun p _ => ?_
      show (atT t ((i : Int) :: p)).getD zeroT = _
      have hi : i < t.args.length := by rw [ht]; exact h2
      rw [atT_in hi]
      have : t.args[i] = x := by
        simp only [ht]
        exact h3
      rw [this]
    · exact places_atL r ys (i + 1) (fun j hj => by
        obtain ⟨g1, g2⟩ := h (j + 1) (by simpa using hj)
        have e : i + 1 + j = i + (j + 1) := by omega
        exact ⟨by omega, by simp only [e]; rw [g2]; rfl⟩) t ht
end
theorem inner_at (t : Tm) : (innerT t).map (fun p => (atT t p).getD zeroT) = t.all.filter fun x => x.kind == 5 := by
  rw [← places_at t, List.filter_map]; rfl
theorem fitsR_ok {fs : List Fn} {t : Tm} : ∀ {l : List (List Int)}, (fitsR fs t l).1 = 0 ↔ ∀ p ∈ l, arF fs ((atT t p).getD zeroT).name = some (((atT t p).getD zeroT).args.length : Int)
  | [] => by rw [fitsR]; simp
  | p :: r => by
    rw [fitsR]
    cases h : arF fs ((atT t p).getD zeroT).name with
    | none => simp [h]
    | some n =>
      by_cases hn : n = (((atT t p).getD zeroT).args.length : Int)
      · rw [show (match some n with | none => ((4 : Int), p) | some n => if n = (((atT t p).getD zeroT).args.length : Int) then fitsR fs t r else (5, p)) = fitsR fs t r from if_pos hn, fitsR_ok (l := r)]
        constructor
        · intro hr q hq
          rcases List.mem_cons.1 hq with rfl | hq
          · rw [h, hn]
          · exact hr q hq
        · intro hr q hq
          exact hr q (List.mem_cons_of_mem _ hq)
      · rw [show (match some n with | none => ((4 : Int), p) | some n => if n = (((atT t p).getD zeroT).args.length : Int) then fitsR fs t r else (5, p)) = (5, p) from if_neg hn]
        constructor
        · intro hr; exact absurd (show (5 : Int) = 0 from hr) (by decide)
        · intro hr
          have := hr p (List.mem_cons_self ..)
          rw [h] at this
          exact absurd (Option.some.inj this) hn
theorem fitsF_ok {fs : List Fn} {t : Tm} : (fitsF fs t).1 = 0 ↔ ∀ x ∈ t.all, x.kind = 5 → arF fs x.name = some (x.args.length : Int) := by
  unfold fitsF
  rw [fitsR_ok]
  have hm := inner_at t
  constructor
  · intro h x hx hk
    have hxm : x ∈ (innerT t).map (fun p => (atT t p).getD zeroT) := by
      rw [hm]; exact List.mem_filter.2 ⟨hx, by rw [hk]; rfl⟩
    obtain ⟨p, hp, rfl⟩ := List.mem_map.1 hxm
    exact h p hp
  · intro h p hp
    have hxm : (atT t p).getD zeroT ∈ t.all.filter fun x => x.kind == 5 := by
      rw [← hm]; exact List.mem_map.2 ⟨p, hp, rfl⟩
    obtain ⟨h1, h2⟩ := List.mem_filter.1 hxm
    exact h _ h1 (by simpa using h2)
theorem ofL_mem {l : List Tm} {f : Fn} : f ∈ ofL l ↔ ∃ x ∈ l, x.kind = 5 ∧ symF x = f := by
  have key : ∀ (l : List Tm) (acc : List Fn), f ∈ l.foldl ofStep acc ↔ f ∈ acc ∨ ∃ x ∈ l, x.kind = 5 ∧ symF x = f := by
    intro l
    induction l with
    | nil => intro acc; simp
    | cons y r ih =>
      intro acc
      rw [List.foldl_cons, ih]
      unfold ofStep
      by_cases hy : y.kind = 5
      · cases hh : hasFn acc (symF y) with
        | true =>
          rw [if_neg (by simp)]
          have := hasFn_iff.1 hh
          constructor
          · rintro (h | ⟨x, hx, h⟩)
            · exact .inl h
            · exact .inr ⟨x, List.mem_cons_of_mem _ hx, h⟩
          · rintro (h | ⟨x, hx, h1, h2⟩)
            · exact .inl h
            · rcases List.mem_cons.1 hx with rfl | hx
              · rw [h2] at this; exact .inl this
              · exact .inr ⟨x, hx, h1, h2⟩
        | false =>
          rw [if_pos ⟨hy, rfl⟩]
          constructor
          · rintro (h | ⟨x, hx, h⟩)
            · rcases List.mem_append.1 h with h | h
              · exact .inl h
              · exact .inr ⟨y, List.mem_cons_self .., hy, (List.mem_singleton.1 h).symm⟩
            · exact .inr ⟨x, List.mem_cons_of_mem _ hx, h⟩
          · rintro (h | ⟨x, hx, h1, h2⟩)
            · exact .inl (List.mem_append_left _ h)
            · rcases List.mem_cons.1 hx with rfl | hx
              · exact .inl (List.mem_append_right _ (List.mem_singleton.2 h2.symm))
              · exact .inr ⟨x, hx, h1, h2⟩
      · rw [if_neg (fun h => hy h.1)]
        constructor
        · rintro (h | ⟨x, hx, h⟩)
          · exact .inl h
          · exact .inr ⟨x, List.mem_cons_of_mem _ hx, h⟩
        · rintro (h | ⟨x, hx, h1, h2⟩)
          · exact .inl h
          · rcases List.mem_cons.1 hx with rfl | hx
            · exact absurd h1 hy
            · exact .inr ⟨x, hx, h1, h2⟩
  unfold ofL
  rw [key]; simp
theorem ofL_nodup (l : List Tm) : (ofL l).Nodup := by
  have key : ∀ (l : List Tm) (acc : List Fn), acc.Nodup → (l.foldl ofStep acc).Nodup := by
    intro l
    induction l with
    | nil => intro acc h; exact h
    | cons y r ih =>
      intro acc h
      rw [List.foldl_cons]
      refine ih _ ?_
      unfold ofStep
      split
      · next hh =>
        refine List.nodup_append.2 ⟨h, by simp, fun a ha b hb => ?_⟩
        rw [List.mem_singleton] at hb
        subst hb
        intro e
        subst e
        have := hasFn_iff.2 ha
        rw [hh.2] at this; cases this
      · exact h
  exact key l [] List.nodup_nil
/-- Two functions of one name stand in a row. -/
def TwiceF (fs : List Fn) : Prop := ∃ i f, fs[i]? = some f ∧ (arF (fs.take i) f.1).isSome = true
theorem arF_mem {fs : List Fn} {s : ByteArray} {n : Int} (h : arF fs s = some n) : (s, n) ∈ fs := by
  unfold arF at h
  obtain ⟨x, hx, rfl⟩ := Option.map_eq_some_iff.1 h
  have h1 := List.find?_some hx
  rw [toList_iff] at h1
  have h2 := List.mem_of_find?_eq_some hx
  obtain ⟨a, b⟩ := x
  simp only at h1
  subst h1; exact h2
theorem arF_is {fs : List Fn} {s : ByteArray} {n : Int} (h : (s, n) ∈ fs) : ∃ m, arF fs s = some m := by
  unfold arF
  cases hf : fs.find? (fun x => x.1.toList == s.toList) with
  | some x => exact ⟨x.2, rfl⟩
  | none =>
    have := List.find?_eq_none.1 hf (s, n) h
    simp at this
theorem once_arF {fs : List Fn} (h : ¬ TwiceF fs) {s : ByteArray} {n : Int} (hm : (s, n) ∈ fs) : arF fs s = some n := by
  obtain ⟨m, hm2⟩ := arF_is hm
  by_cases e : m = n
  · rw [hm2, e]
  · exfalso
    obtain ⟨i, hi, hie⟩ := List.getElem_of_mem hm
    obtain ⟨j, hj, hje⟩ := List.getElem_of_mem (arF_mem hm2)
    rcases Nat.lt_trichotomy i j with hlt | he | hgt
    · refine h ⟨j, (s, m), by rw [List.getElem?_eq_getElem hj, hje], ?_⟩
      obtain ⟨q, hq⟩ := arF_is (fs := fs.take j) (s := s) (n := n) (by rw [← hie]; exact List.mem_take_iff_getElem.2 ⟨i, by omega, rfl⟩)
      rw [hq]; rfl
    · subst he
      rw [hie] at hje
      exact e (Prod.mk.inj hje).2.symm
    · refine h ⟨i, (s, n), by rw [List.getElem?_eq_getElem hi, hie], ?_⟩
      obtain ⟨q, hq⟩ := arF_is (fs := fs.take i) (s := s) (n := m) (by rw [← hje]; exact List.mem_take_iff_getElem.2 ⟨j, by omega, rfl⟩)
      rw [hq]; rfl
/-- A term fits its own functions just if none has two arities. -/
theorem fits_own (t : Tm) : (fitsF (ofF t) t).1 = 0 ↔ ¬ TwiceF (ofF t) := by
  rw [fitsF_ok]
  constructor
  · rintro h ⟨i, f, hf, har⟩
    obtain ⟨n, hn⟩ := Option.isSome_iff_exists.1 har
    have hm := arF_mem hn
    have hil := (List.getElem?_eq_some_iff.1 hf).1
    have hfm : f ∈ ofF t := List.mem_of_getElem? hf
    obtain ⟨x, hx, hk, hxs⟩ := ofL_mem.1 hfm
    obtain ⟨y, hy, hky, hys⟩ := ofL_mem.1 (show (f.1, n) ∈ ofL t.all from List.mem_of_mem_take hm)
    have h1 := h x hx hk
    have h2 := h y hy hky
    have ex : x.name = f.1 := by rw [← hxs]; rfl
    have ey : y.name = f.1 := by have := congrArg Prod.fst hys; exact this
    rw [ex] at h1
    rw [ey, h1] at h2
    have hl := Option.some.inj h2
    have h2e : f.2 = n := by
      have e1 : f.2 = (x.args.length : Int) := by rw [← hxs]; rfl
      have e2 : n = (y.args.length : Int) := (congrArg Prod.snd hys).symm
      rw [e1, e2, hl]
    obtain ⟨j, hj, hje⟩ := List.getElem_of_mem hm
    rw [List.length_take] at hj
    rw [List.getElem_take] at hje
    have hnd := List.pairwise_iff_getElem.1 (ofL_nodup t.all) j i (by unfold ofF at hil; omega) hil (by omega)
    have e1 : (ofF t)[i] = f := (List.getElem?_eq_some_iff.1 hf).2
    refine hnd ?_
    show (ofF t)[j] = (ofF t)[i]
    rw [e1, hje]
    exact Prod.ext rfl h2e.symm
  · intro h x hx hk
    exact once_arF h (ofL_mem.2 ⟨x, hx, hk, rfl⟩)
/-- The constants of a row. -/
def constsF (fs : List Fn) : List Tm := (fs.filter fun f => f.2 == 0).map fun f => .mk 5 f.1 0 []
theorem consts_take {fs : List Fn} {k : Nat} {f : Fn} (hk : fs[k]? = some f) : constsF (fs.take (k + 1)) = constsF (fs.take k) ++ (if (f.2 == 0) = true then [.mk 5 f.1 0 []] else []) := by
  obtain ⟨hl, rfl⟩ := List.getElem?_eq_some_iff.1 hk
  unfold constsF
  rw [List.take_succ_eq_append_getElem hl, List.filter_append, List.map_append]
  congr 1
  rw [List.filter_cons]
  cases fs[k].2 == 0 <;> rfl
end Go.Proofs.Ytehpkhcjejlbpaa
