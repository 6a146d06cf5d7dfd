/-
  A term with another one at a place, by the program's Put.
-/
import Derived.Test.YtniikfihfeledaaPAt
import Derived.Maps.AppendAt
import Derived.Test.YtniikfihfeledaaFresh
import Derived.Test.YtniikfihfeledaaStays
import Derived.Deep.RegionHeld3
import Derived.BigQuiet
namespace Go.Proofs.Ytniikfihfeledaa
open Go.RowKit

/-- What a call of Put leaves. -/
def PutPost (o : Option Tm) (w0 w : World) (e : Ending) (w' : World) : Prop :=
  ∃ y : Tv, e = .returned (.tuple #[y.val, .bool o.isSome]) ∧ y.t = o.getD zeroT ∧ Fresh w0 w w' y ∧ Below w.heap.size w w'

set_option maxRecDepth 100000 in
set_option maxHeartbeats 4000000 in
theorem pput_tm (w0 : World) : ∀ (ps : List Int) (x y : Tv) (v : Value) (w : World), x.ok w0 → y.ok w0 → Nums w0 v ps → Below w0.heap.size w0 w → x.t.parts ≤ 100000 →
    Calls Try.prog 14 #[x.val, v, y.val] w (PutPost (putO x.t ps y.t) w0 w) := by
  intro ps
  induction ps with
  | nil =>
    intro x y v w hx hy hv hb0 _
    obtain ⟨a, c, rfl, _, _, _, _⟩ := hv
    obtain ⟨t, ax, cx⟩ := x
    obtain ⟨u, ay, cy⟩ := y
    have hE := Lib.hid (putO_nil t u)
    have HY := Lib.hid hy
    simp only [Tv.val, List.length_nil] at *
    clear hx hy hb0
    go_enter Try.func14, Try.ntmps14
    go_wp2_with fail
    refine bodyPost_ret (v := .tuple #[.agg #[.int .i64 u.kind, .string u.name, .int .i64 u.n, .slice ay u.args.length cy], .bool true]) (by simp [results, Try.results14, go_sem]) rfl ?_
    rw [hE.out]
    have hB : ∀ o1 o2 o3, Below w.heap.size w (((w.alloc o1).alloc o2).alloc o3) := fun o1 o2 o3 => (((Below.refl _ _).alloc (Nat.le_refl _) _).alloc (by simp) _).alloc (by simp; omega) _
    exact ⟨⟨u, ay, cy⟩, rfl, rfl, fresh_old HY.out, hB _ _ _⟩
  | cons i r ih =>
    intro x y v w hx hy hv hb0 hpp
    have HV := Lib.hid hv
    obtain ⟨a, c, rfl, hlc, hcm, hbd, h⟩ := hv
    obtain ⟨b, off, rfl, hlt, hc⟩ := h.resolve_left (by simp)
    have hc0 : w0.cell? ⟨b, off, none⟩ = some (.int .i64 i) := hc 0 i rfl
    clear hc h
    obtain ⟨t, ax, cx⟩ := x
    obtain ⟨u, ay, cy⟩ := y
    have hB3 : ∀ o1 o2 o3, Below w.heap.size w (((w.alloc o1).alloc o2).alloc o3) := fun o1 o2 o3 => (((Below.refl _ _).alloc (Nat.le_refl _) _).alloc (by simp) _).alloc (by simp; omega) _
    obtain ⟨wz, hwz⟩ : ∃ wz, wz = (((w.alloc (.cells #[.int .i64 t.kind, .string t.name, .int .i64 t.n, .slice ax t.args.length cx] 24)).alloc (.cells #[.int .i64 u.kind, .string u.name, .int .i64 u.n, .slice ay u.args.length cy] 24)).alloc (.cells #[.int .i64 0, .string ⟨#[]⟩, .int .i64 0, .slice none 0 0] 24)) := ⟨_, rfl⟩
    have hzs : wz.heap.size = w.heap.size + 3 := by rw [hwz]; simp
    have hBz : Below w.heap.size w wz := by rw [hwz]; exact hB3 _ _ _
    have bX : Box wz w.heap.size (.int .i64 t.kind) (.string t.name) (.int .i64 t.n) (.slice ax t.args.length cx) := by
      rw [hwz]
      exact (box_new w _ _ _ _ _).below (((Below.refl _ _).alloc (Nat.le_refl _) _).alloc (by simp) _) (by simp)
    have bY : Box wz (w.heap.size + 1) (.int .i64 u.kind) (.string u.name) (.int .i64 u.n) (.slice ay u.args.length cy) := by
      have h1 := (box_new (w.alloc (.cells #[.int .i64 t.kind, .string t.name, .int .i64 t.n, .slice ax t.args.length cx] 24)) (.int .i64 u.kind) (.string u.name) (.int .i64 u.n) (.slice ay u.args.length cy) 24).below ((Below.refl _ _).alloc (Nat.le_refl _) (.cells #[.int .i64 0, .string ⟨#[]⟩, .int .i64 0, .slice none 0 0] 24)) (by simp)
      rw [hwz]; simpa using h1
    have bR : Box wz (w.heap.size + 2) (.int .i64 0) (.string ⟨#[]⟩) (.int .i64 0) (.slice none 0 0) := by
      have h1 := box_new ((w.alloc (.cells #[.int .i64 t.kind, .string t.name, .int .i64 t.n, .slice ax t.args.length cx] 24)).alloc (.cells #[.int .i64 u.kind, .string u.name, .int .i64 u.n, .slice ay u.args.length cy] 24)) (.int .i64 0) (.string ⟨#[]⟩) (.int .i64 0) (.slice none 0 0) 24
      rw [hwz]; simpa using h1
    have hB0z : Below w0.heap.size w0 wz := hb0.trans (hBz.mono hb0.size)
    have hcz := (hB0z.cell (p := ⟨b, off, none⟩) hlt).trans hc0
    have hltz : b < wz.heap.size := Nat.lt_of_lt_of_le hlt hB0z.size
    have hlen1 : ((r.length + 1 : Nat) == 0) = false := by simp
    have hlen2 : (((r.length + 1 : Nat) : Int) == 0) = false := by rw [beq_eq_false_iff_ne]; omega
    have hlen3 : (0 : Int) < ((r.length + 1 : Nat) : Int) := by omega
    have HX := Lib.hid hx
    have HY := Lib.hid hy
    have HB0 := Lib.hid hb0
    have HB0Z := Lib.hid hB0z
    have HBZ := Lib.hid hBz
    have HZS := Lib.hid hzs
    have BX := Lib.hid bX
    have BY := Lib.hid bY
    have BR := Lib.hid bR
    have HBX := Lib.hid (fun (W : World) (h : Below wz.heap.size wz W) => bX.below h (by omega))
    have HBY := Lib.hid (fun (W : World) (h : Below wz.heap.size wz W) => bY.below h (by omega))
    have HBR := Lib.hid (fun (W : World) (h : Below wz.heap.size wz W) => bR.below h (by omega))
    have HCZ := Lib.hid (fun (W : World) (h : Below wz.heap.size wz W) => (h.cell (p := ⟨b, off, none⟩) hltz).trans hcz)
    obtain ⟨bq, hbq⟩ : ∃ bq, (decide (0 ≤ i) && decide (i < (t.args.length : Int))) = bq := ⟨_, rfl⟩
    have HAS := Lib.hid (fun (W : World) (h : Below wz.heap.size wz W) => (phas_any ⟨t, ax, cx⟩ i W).mono (fun e w' hh => (show e = .returned (.bool bq) ∧ Below wz.heap.size wz w' from ⟨hh.1.trans (by rw [hbq]), below_next h hh.2⟩)))
    have A0 : Below wz.heap.size wz wz.drew := (Below.refl _ _).drew
    have HWZ := Lib.hid hwz
    obtain ⟨i0, hi0, hiz0, his0, hib0⟩ := info_parts termInfo
    have HIH := Lib.hid ih
    have HC0 := Lib.hid hc0
    have HBQ := Lib.hid hbq
    clear hbq bX bY bR hcz hB0z hBz hzs hx hy hb0 ih hc0 hB3 hbd
    simp only [Tv.val, List.length_cons] at *
    have E0 : Below wz.heap.size wz wz := Below.refl _ _
    obtain ⟨p0, p1, p2, p3, _, _, _, _⟩ := HBX.out wz E0
    have hcz := HCZ.out wz E0
    go_enter Try.func14, Try.ntmps14
    go_wp2_with fail
    rw [← HWZ.out]
    clear hwz HWZ
    go_region_held3 (fun W => Below wz.heap.size wz W ∧ W.cell? ⟨b, off, none⟩ = some (.int .i64 i) ∧ W.cell? ⟨w.heap.size, 0, none⟩ = some (.int .i64 t.kind) ∧ W.cell? ⟨w.heap.size, 1, none⟩ = some (.string t.name) ∧ W.cell? ⟨w.heap.size, 2, none⟩ = some (.int .i64 t.n) ∧ W.cell? ⟨w.heap.size, 3, none⟩ = some (.slice ax t.args.length cx)) (exact ⟨by with_reducible assumption, HCZ.out _ (by with_reducible assumption), (HBX.out _ (by with_reducible assumption)).c0, (HBX.out _ (by with_reducible assumption)).c1, (HBX.out _ (by with_reducible assumption)).c2, (HBX.out _ (by with_reducible assumption)).c3⟩)
      ((go_at_call 32; refine (HAS.out _ (by assumption)).mono ?_; rintro e w' ⟨rfl, hn⟩))
    have hB0w := HB0Z.out.trans (hn.mono HB0Z.out.size)
    have hBw : Below w.heap.size w w' := HBZ.out.trans (hn.mono HBZ.out.size)
    obtain ⟨wq, hwq⟩ : ∃ wq, w' = wq := ⟨_, rfl⟩
    subst hwq
    cases bq with
    | false =>
      have ho : ¬ (0 ≤ i ∧ i < t.args.length) := by have h := HBQ.out; rw [Bool.and_eq_false_iff, decide_eq_false_iff_not, decide_eq_false_iff_not] at h; omega
      have hE := Lib.hid (putO_out (x := u) (r := r) ho)
      have hbR := HBR.out w' hn
      have HBR2 := Lib.hid (hbR.sets (.int .i64 0) (.string ⟨#[]⟩) (.int .i64 0) (.slice none 0 0))
      obtain ⟨q0, q1, q2, q3, g0, g1, g2, g3⟩ := hbR
      have HBW := Lib.hid hBw
      clear ho hBw hB0w
      go_wp2_with fail
      obtain ⟨q0, q1, q2, q3, g0, g1, g2, g3⟩ := HBR2.out
      refine bodyPost_ret (v := .tuple #[.agg #[.int .i64 0, .string ⟨#[]⟩, .int .i64 0, .slice none 0 0], .bool false]) (by simp [results, Try.results14, go_sem, q0, q1, q2, q3]) rfl ?_
      rw [hE.out]
      exact ⟨zeroV, rfl, rfl, fun _ _ _ _ => zeroV_ok _, below_sets HBW.out (by omega) _ _ _ _⟩
    | true =>
      have hi : 0 ≤ i ∧ i < t.args.length := by have h := HBQ.out; rw [Bool.and_eq_true, decide_eq_true_iff, decide_eq_true_iff] at h; exact h
      obtain ⟨j, rfl⟩ : ∃ j : Nat, i = (j : Int) := ⟨i.toNat, by omega⟩
      have hjl : j < t.args.length := by omega
      have hE := Lib.hid (putO_in (x := u) (r := r) hjl)
      obtain ⟨b', o', rfl, hlt', hrow⟩ := HX.out.2.2.resolve_left (by intro h; simp only at h; rw [h] at hjl; simp at hjl)
      have HROW := Lib.hid hrow
      obtain ⟨z, hzt, hzo, hz⟩ := tmAt_tv (rowAt_get hrow hjl)
      have hM := fun (W : World) (h : Below w0.heap.size w0 W) => (show TvAt W b' (o' + j * 4) z from ⟨(h.cell (p := ⟨b', o' + j * 4, none⟩) hlt').trans hz.c0, (h.cell (p := ⟨b', o' + j * 4 + 1, none⟩) hlt').trans hz.c1, (h.cell (p := ⟨b', o' + j * 4 + 2, none⟩) hlt').trans hz.c2, (h.cell (p := ⟨b', o' + j * 4 + 3, none⟩) hlt').trans hz.c3⟩)
      obtain ⟨zt, za, zc⟩ := z
      simp only at hM hzt
      subst hzt
      have HM := Lib.hid (fun (W : World) (h : Below w'.heap.size w' W) => hM W (hB0w.trans (h.mono hB0w.size)))
      have HX3 := Lib.hid (fun (W : World) (h : Below w'.heap.size w' W) => HBX.out W (below_next hn h))
      have HY3 := Lib.hid (fun (W : World) (h : Below w'.heap.size w' W) => HBY.out W (below_next hn h))
      have HC3 := Lib.hid (fun (W : World) (h : Below w'.heap.size w' W) => HCZ.out W (below_next hn h))
      have hpz : t.args[j].parts ≤ 100000 := by have := parts_arg t hjl; omega
      have hCT := fun (aa : Option Addr) (haa : r ≠ [] → aa = some ⟨b, off + 1, none⟩) (W : World) (h : Below w'.heap.size w' W) =>
        (HIH.out ⟨t.args[j], za, zc⟩ ⟨u, ay, cy⟩ (.slice aa r.length (c - 1)) W hzo HY.out (nums_tail rfl HV.out aa haa) (hB0w.trans (h.mono hB0w.size)) hpz).mono (fun e w4 hh =>
          (show ∃ y : Tv, e = .returned (.tuple #[y.val, .bool (putO t.args[j] r u).isSome]) ∧ y.t = (putO t.args[j] r u).getD zeroT ∧ Fresh w0 W w4 y ∧ Below W.heap.size W w4 ∧ Below w'.heap.size w' w4 from by obtain ⟨y, h1, h2, h3, h4⟩ := hh; exact ⟨y, h1, h2, h3, h4, below_next h h4⟩))
      obtain ⟨po, hpo⟩ : ∃ po, putO t.args[j] r u = po := ⟨_, rfl⟩
      simp only [hpo] at hCT
      rw [hpo] at hE
      have F0 : Below w'.heap.size w' w' := Below.refl _ _
      have F1 : Below w'.heap.size w' w'.drew := (Below.refl _ _).drew
      have FA := Lib.hid (fun o => (show Below w'.heap.size w' (w'.alloc o).drew from ((Below.refl _ _).alloc (Nat.le_refl _) o).drew))
      have FB := Lib.hid (fun (W : World) o (h : Below w'.heap.size w' W) => (show Below w'.heap.size w' (W.alloc o) from h.alloc h.size o))
      have FS := Lib.hid (fun (V : World) (u0 u1 u2 u3 : Value) (h : Below w'.heap.size w' V) => below_sets h (Nat.le_refl _) u0 u1 u2 u3)
      have KEEP := Lib.hid (fun (W : World) (h : Below w'.heap.size w' W) => (show (Below w'.heap.size w' W ∧ W.cell? ⟨w.heap.size, 3, none⟩ = some (.slice (some ⟨b', o', none⟩) t.args.length cx) ∧ W.cell? ⟨b, off, none⟩ = some (.int .i64 j) ∧ W.cell? ⟨b', o' + j * 4, none⟩ = some (.int .i64 t.args[j].kind) ∧ W.cell? ⟨b', o' + j * 4 + 1, none⟩ = some (.string t.args[j].name) ∧ W.cell? ⟨b', o' + j * 4 + 2, none⟩ = some (.int .i64 t.args[j].n) ∧ W.cell? ⟨b', o' + j * 4 + 3, none⟩ = some (.slice za t.args[j].args.length zc) ∧ W.cell? ⟨w.heap.size + 1, 0, none⟩ = some (.int .i64 u.kind) ∧ W.cell? ⟨w.heap.size + 1, 1, none⟩ = some (.string u.name) ∧ W.cell? ⟨w.heap.size + 1, 2, none⟩ = some (.int .i64 u.n) ∧ W.cell? ⟨w.heap.size + 1, 3, none⟩ = some (.slice ay u.args.length cy)) from ⟨h, (HX3.out W h).c3, HC3.out W h, (HM.out W h).c0, (HM.out W h).c1, (HM.out W h).c2, (HM.out W h).c3, (HY3.out W h).c0, (HY3.out W h).c1, (HY3.out W h).c2, (HY3.out W h).c3⟩))
      have HB8 := Lib.hid (fun (V : World) (h : Below (w'.alloc (.cells #[.int .i64 0, .string ⟨#[]⟩, .int .i64 0, .slice none 0 0] 24)).drew.heap.size (w'.alloc (.cells #[.int .i64 0, .string ⟨#[]⟩, .int .i64 0, .slice none 0 0] 24)).drew V) => ((box_new w' (.int .i64 0) (.string ⟨#[]⟩) (.int .i64 0) (.slice none 0 0) 24).below (((Below.refl _ _).drew).trans h) (by simp)))
      have hj0 : (0 : Int) ≤ (j : Int) := by omega
      have hj1 : (j : Int) < (t.args.length : Int) := by omega
      have hc1 : (1 : Int) ≤ ((r.length + 1 : Nat) : Int) := by omega
      have hc2 : ((r.length + 1 : Nat) : Int) ≤ (c : Int) := by omega
      have HBW := Lib.hid hBw
      have HB0W := Lib.hid hB0w
      have hn0 := hn
      have HN0 := Lib.hid hn0
      obtain ⟨_, _, _, p3, _, _, _, _⟩ := HX3.out w' F0
      have hcz := HC3.out w' F0
      obtain ⟨m0, m1, m2, m3⟩ := HM.out w' F0
      obtain ⟨y0, y1, y2, y3, _, _, _, _⟩ := HY3.out w' F0
      clear hM hz hrow hn hn0 hi hpz hBw hB0w hzo hpo A0 E0
      rcases Nat.lt_or_ge 1 c with hcc | hcc
      · have CT := Lib.hid (hCT (some ⟨b, off + 1, none⟩) (fun _ => rfl))
        have hcne : (c = 1) = False := by simp; omega
        have hc4 : (1 : Int) ≤ (r.length : Int) + 1 := by omega
        have hc5 : (0 : Int) ≤ (r.length : Int) := by omega
        have CT8 := Lib.hid ((CT.out (w'.alloc (.cells #[.int .i64 0, .string ⟨#[]⟩, .int .i64 0, .slice none 0 0] 24)).drew (FA.out _)).mono (fun e w4 hh => (show ∃ y : Tv, e = .returned (.tuple #[y.val, .bool po.isSome]) ∧ y.t = po.getD zeroT ∧ Fresh w0 (w'.alloc (.cells #[.int .i64 0, .string ⟨#[]⟩, .int .i64 0, .slice none 0 0] 24)).drew w4 y ∧ Box w4 w'.heap.size (.int .i64 0) (.string ⟨#[]⟩) (.int .i64 0) (.slice none 0 0) ∧ Below w'.heap.size w' w4 from by
          obtain ⟨y, h1, h2, h3, h4, h5⟩ := hh; exact ⟨y, h1, h2, h3, HB8.out _ h4, h5⟩)))
        clear hcc hCT
        simp only [Tv.val] at CT CT8
        go_wp2_with fail
        go_region_held3 (fun W => Below w'.heap.size w' W ∧ W.cell? ⟨w.heap.size, 3, none⟩ = some (.slice (some ⟨b', o', none⟩) t.args.length cx) ∧ W.cell? ⟨b, off, none⟩ = some (.int .i64 j) ∧ W.cell? ⟨b', o' + j * 4, none⟩ = some (.int .i64 t.args[j].kind) ∧ W.cell? ⟨b', o' + j * 4 + 1, none⟩ = some (.string t.args[j].name) ∧ W.cell? ⟨b', o' + j * 4 + 2, none⟩ = some (.int .i64 t.args[j].n) ∧ W.cell? ⟨b', o' + j * 4 + 3, none⟩ = some (.slice za t.args[j].args.length zc) ∧ W.cell? ⟨w.heap.size + 1, 0, none⟩ = some (.int .i64 u.kind) ∧ W.cell? ⟨w.heap.size + 1, 1, none⟩ = some (.string u.name) ∧ W.cell? ⟨w.heap.size + 1, 2, none⟩ = some (.int .i64 u.n) ∧ W.cell? ⟨w.heap.size + 1, 3, none⟩ = some (.slice ay u.args.length cy)) ((refine KEEP.out _ ?_; first | with_reducible exact F1 | with_reducible exact FA.out _ | with_reducible assumption | with_reducible exact FB.out _ _ (by with_reducible assumption) | with_reducible exact FS.out _ _ _ _ _ (by with_reducible assumption)))
          ((first
            | (go_at_call 14; refine CT8.out.mono ?_; rintro e w4 ⟨⟨ty, aY, cY⟩, rfl, hyt, hyo, ⟨b0, b1, b2, b3, g0, g1, g2, g3⟩, hn4⟩; have HYT := Lib.hid hyt; clear hyt)
            | (go_at_call 14; refine (CT.out _ (by assumption)).mono ?_; rintro e w4 ⟨⟨ty, aY, cY⟩, rfl, hyt, hyo, hk4, hn4⟩; have HYT := Lib.hid hyt; clear hyt)))
        · have hd := FB.out w4 (.cells #[.int .i64 ty.kind, .string ty.name, .int .i64 ty.n, .slice aY ty.args.length cY] 24) hn4
          have b8 := box_new w4 (.int .i64 ty.kind) (.string ty.name) (.int .i64 ty.n) (.slice aY ty.args.length cY) 24
          have hN := near_alloc (B := w'.heap.size) (by simp) hyo (.cells #[.int .i64 ty.kind, .string ty.name, .int .i64 ty.n, .slice aY ty.args.length cY] 24)
          have hg8 : w'.heap.size ≤ w4.heap.size := hn4.size
          obtain ⟨wd, hwd⟩ : ∃ wd, wd = w4.alloc (.cells #[.int .i64 ty.kind, .string ty.name, .int .i64 ty.n, .slice aY ty.args.length cY] 24) := ⟨_, rfl⟩
          obtain ⟨g8, hg8e⟩ : ∃ g8, g8 = w4.heap.size := ⟨_, rfl⟩
          rw [← hwd, ← hg8e] at b8 hN
          rw [← hwd] at hd
          rw [← hg8e] at hg8
          rw [← hwd, ← hg8e]
          clear hwd hg8e hyo hn4 hk4
          cases po with
          | none =>
            have hbR := HBR.out wd (below_next HN0.out hd)
            have HBR2 := Lib.hid (hbR.sets (.int .i64 0) (.string ⟨#[]⟩) (.int .i64 0) (.slice none 0 0))
            obtain ⟨q0, q1, q2, q3, g0, g1, g2, g3⟩ := hbR
            have HEND := Lib.hid (HBW.out.trans (hd.mono HBW.out.size))
            clear hN b8 m0 m1 m2 m3 y0 y1 y2 y3 p3 hcz hd
            go_wp2_with fail
            obtain ⟨q0, q1, q2, q3, g0, g1, g2, g3⟩ := HBR2.out
            refine bodyPost_ret (v := .tuple #[.agg #[.int .i64 0, .string ⟨#[]⟩, .int .i64 0, .slice none 0 0], .bool false]) (by simp [results, Try.results14, go_sem, q0, q1, q2, q3]) rfl ?_
            rw [hE.out]
            exact ⟨zeroV, rfl, rfl, fun _ _ _ _ => zeroV_ok _, below_sets HEND.out (by omega) _ _ _ _⟩
          | some a =>
            obtain rfl : ty = a := HYT.out
            have hdz := below_next HN0.out hd
            have hzd := hdz.size
            have hzw := HZS.out
            have hz' := HN0.out.size
            have bX := HBX.out wd hdz
            have hcd := HCZ.out wd hdz
            have hB0d := HB0W.out.trans (hd.mono HB0W.out.size)
            have hdw : Below w.heap.size w wd := HBW.out.trans (hd.mono HBW.out.size)
            obtain ⟨vs, hvt, hvo, hvc⟩ := rowAt_vs HROW.out
            have hvl : vs.length = t.args.length := by rw [← hvt, List.length_map]
            have hargs : t.args.length ≤ 100000 := by have := partsL_length t.args; have := parts_eq t; omega
            have HVL := Lib.hid (show (rowTv vs).length = t.args.length * 4 by rw [rowTv_length, hvl])
            have HVC := Lib.hid (show ∀ q x, (rowTv vs)[q]? = some x → wd.cell? ((⟨b', o', none⟩ : Addr).add q) = some x from fun q x hq => by
              rw [addr_row]; exact (hB0d.cell (p := ⟨b', o' + q, none⟩) hlt').trans (hvc q x hq))
            have H1 := Lib.hid (rowTv_one' vs)
            have HVT := Lib.hid hvt
            have HVO := Lib.hid hvo
            have HDW := Lib.hid hdw
            have HXD := Lib.hid (fun (V : World) (h : Below wd.heap.size wd V) => bX.below h (by omega))
            have HRD := Lib.hid (fun (V : World) (h : Below wd.heap.size wd V) => HBR.out V (hdz.trans (h.mono hdz.size)))
            have hgl8 : g8 < wd.heap.size := lt_of_cell b8.c0
            have HB8D := Lib.hid (fun (V : World) (h : Below wd.heap.size wd V) => b8.below h hgl8)
            have HCD := Lib.hid (fun (V : World) (h : Below wd.heap.size wd V) => (h.cell (p := ⟨b, off, none⟩) (by have := hB0d.size; show b < _; omega)).trans hcd)
            have hnb : b ≠ w.heap.size := by have := HB0.out.size; omega
            have HN := Lib.hid hN
            have HD := Lib.hid hd
            obtain ⟨p0, p1, p2, p3, f0, f1, f2, f3⟩ := bX
            have HPOS := Lib.hid (show 0 < 0 + t.args.length by omega)
            have hn1 : 0 + t.args.length ≤ maxLen := by unfold maxLen; omega
            have hn2 : (0 + t.args.length) * 56 ≤ 140737488355328 := by omega
            clear hN b8 hd hdz hcd hB0d hdw hvt hvo hvc m0 m1 m2 m3 y0 y1 y2 y3 hcz
            go_wp2_with (at_builtin; refine wpList_append_own_at _ rfl _ _ 22 rfl wd.heap.size 24 i0 (.agg #[.int .i64 0, .string ⟨#[]⟩, .int .i64 0, .slice none 0 0]) 4 56 Try.underlying22 hi0 hiz0 his0 hib0 rfl (by decide) _ 0 [] rfl (World.ownsRow_nil _ _ _ _) ⟨b', o', none⟩ t.args.length cx (rowTv vs) rfl HVL.out HVC.out H1.out hn1 hn2 (Nat.le_refl _) ?_; intro v5 w5 hown5 hg5 _ _; have hb5 : Below wd.heap.size wd w5 := (Below.refl _ _).grown hg5 (Nat.le_refl _) (fun k e => by cases e); obtain ⟨g5, c5, rfl, hge5, hg5l⟩ := hown5.form HPOS.out; obtain ⟨_, _, _, e3, _, _, _, e7⟩ := HXD.out w5 hb5)
            simp only [Nat.zero_add, List.nil_append] at hown5 ⊢
            obtain ⟨w6, hw6⟩ : ∃ w6, w6 = w5.setCell ⟨w.heap.size, 3, none⟩ (.slice (some ⟨g5, 0, none⟩) t.args.length c5) := ⟨_, rfl⟩
            rw [← hw6]
            have hb5s := hb5.size
            have hown6 : w6.ownsRow wd.heap.size 24 4 (.slice (some ⟨g5, 0, none⟩) t.args.length c5) t.args.length (rowTv vs) := by rw [hw6]; exact own_setCell hown5 (by show w.heap.size < _; omega) _
            have s3 : w6.cell? ⟨w.heap.size, 3, none⟩ = some (.slice (some ⟨g5, 0, none⟩) t.args.length c5) := by rw [hw6]; exact World.cell?_setCell_same _ _ _ e3
            have sp : w6.cell? ⟨b, off, none⟩ = some (.int .i64 j) := by rw [hw6]; exact (cell_aside _ ⟨b, off, none⟩ hnb).trans (HCD.out w5 hb5)
            have hg8w : g8 ≠ w.heap.size := by omega
            have s8 : Box w6 g8 (.int .i64 ty.kind) (.string ty.name) (.int .i64 ty.n) (.slice aY ty.args.length cY) := by rw [hw6]; exact (HB8D.out w5 hb5).aside (p := ⟨w.heap.size, 3, none⟩) hg8w _
            have hjv : j < vs.length := by omega
            have hrc := fun (i : Nat) (hi : i < 4) (v : Value) (hv : vs[j].cells[i]? = some v) => (show w6.cell? ⟨g5, j * 4 + i, none⟩ = some v from by
              have h := hown6.cells (g := g5) rfl (j * 4 + i) v (by rw [rowTv_get vs j hjv i hi]; exact hv)
              rwa [addr_row, Nat.zero_add] at h)
            have r0 := hrc 0 (by decide) _ rfl
            have r1 := hrc 1 (by decide) _ rfl
            have r2 := hrc 2 (by decide) _ rfl
            have r3 := hrc 3 (by decide) _ rfl
            rw [Nat.add_zero] at r0
            have hfr : ∀ o, w6.frozen? ⟨g5, o, none⟩ = false := fun o => by
              rcases hown6.2 with ⟨h, _⟩ | ⟨g', cap', cur, hv, _, hgc, _⟩
              · cases h
              · obtain ⟨rfl, rfl⟩ : g5 = g' ∧ c5 = cap' := by cases hv; exact ⟨rfl, rfl⟩
                simp [World.frozen?, hgc]
            have z0 := hfr (j * 4)
            have z1 := hfr (j * 4 + 1)
            have z2 := hfr (j * 4 + 2)
            have z3 := hfr (j * 4 + 3)
            have hg5n : g5 ≠ w.heap.size := by omega
            have hg5b : b ≠ g5 := by have := HB0.out.size; omega
            have hg58 : g8 ≠ g5 := by omega
            obtain ⟨o0, o1, o2, o3, _, _, _, _⟩ := id s8
            have K6 := Lib.hid (show (w6.cell? ⟨w.heap.size, 3, none⟩ = some (.slice (some ⟨g5, 0, none⟩) t.args.length c5) ∧ w6.cell? ⟨b, off, none⟩ = some (.int .i64 j) ∧ w6.cell? ⟨g8, 0, none⟩ = some (.int .i64 ty.kind) ∧ w6.cell? ⟨g8, 1, none⟩ = some (.string ty.name) ∧ w6.cell? ⟨g8, 2, none⟩ = some (.int .i64 ty.n) ∧ w6.cell? ⟨g8, 3, none⟩ = some (.slice aY ty.args.length cY)) from ⟨s3, sp, s8.c0, s8.c1, s8.c2, s8.c3⟩)
            have K7 := Lib.hid (fun (u0 u1 u2 u3 : Value) => (show ((fun W => W.cell? ⟨w.heap.size, 3, none⟩ = some (.slice (some ⟨g5, 0, none⟩) t.args.length c5) ∧ W.cell? ⟨b, off, none⟩ = some (.int .i64 j) ∧ W.cell? ⟨g8, 0, none⟩ = some (.int .i64 ty.kind) ∧ W.cell? ⟨g8, 1, none⟩ = some (.string ty.name) ∧ W.cell? ⟨g8, 2, none⟩ = some (.int .i64 ty.n) ∧ W.cell? ⟨g8, 3, none⟩ = some (.slice aY ty.args.length cY)) (((((w6.setCell ⟨g5, j * 4, none⟩ u0).setCell ⟨g5, j * 4 + 1, none⟩ u1).setCell ⟨g5, j * 4 + 2, none⟩ u2).setCell ⟨g5, j * 4 + 3, none⟩ u3).drew)) from by
              have far : ∀ (p : Addr), p.block ≠ g5 → (((((w6.setCell ⟨g5, j * 4, none⟩ u0).setCell ⟨g5, j * 4 + 1, none⟩ u1).setCell ⟨g5, j * 4 + 2, none⟩ u2).setCell ⟨g5, j * 4 + 3, none⟩ u3).drew).cell? p = w6.cell? p := fun p hp => by
                show ((((w6.setCell ⟨g5, j * 4, none⟩ u0).setCell ⟨g5, j * 4 + 1, none⟩ u1).setCell ⟨g5, j * 4 + 2, none⟩ u2).setCell ⟨g5, j * 4 + 3, none⟩ u3).cell? p = _
                rw [cell_aside _ p hp, cell_aside _ p hp, cell_aside _ p hp, cell_aside _ p hp]
              exact ⟨(far _ (fun h => hg5n h.symm)).trans s3, (far _ hg5b).trans sp, (far _ hg58).trans s8.c0, (far _ hg58).trans s8.c1, (far _ hg58).trans s8.c2, (far _ hg58).trans s8.c3⟩))
            have HW6 := Lib.hid hw6
            have HOWN6 := Lib.hid hown6
            have HB5 := Lib.hid hb5
            clear hw6 hown5 hown6 hg5 hrc hfr s8 e3 e7 p0 p1 p2 p3 f0 f1 f2 f3
            have hvn : (vs.length : Int) = (t.args.length : Int) := by omega
            clear hvn
            go_region_held3 (fun W => W.cell? ⟨w.heap.size, 3, none⟩ = some (.slice (some ⟨g5, 0, none⟩) t.args.length c5) ∧ W.cell? ⟨b, off, none⟩ = some (.int .i64 j) ∧ W.cell? ⟨g8, 0, none⟩ = some (.int .i64 ty.kind) ∧ W.cell? ⟨g8, 1, none⟩ = some (.string ty.name) ∧ W.cell? ⟨g8, 2, none⟩ = some (.int .i64 ty.n) ∧ W.cell? ⟨g8, 3, none⟩ = some (.slice aY ty.args.length cY)) (first | exact K6.out | exact K7.out _ _ _ _) (fail)
            obtain ⟨w7, hw7⟩ : ∃ w7, w7 = (((((w6.setCell ⟨g5, j * 4, none⟩ (.int .i64 ty.kind)).setCell ⟨g5, j * 4 + 1, none⟩ (.string ty.name)).setCell ⟨g5, j * 4 + 2, none⟩ (.int .i64 ty.n)).setCell ⟨g5, j * 4 + 3, none⟩ (.slice aY ty.args.length cY)).drew) := ⟨_, rfl⟩
            rw [← hw7]
            have hput := own_put HOWN6.out ⟨ty, aY, cY⟩ j hjv
            have hown7 : w7.ownsRow wd.heap.size 24 4 (.slice (some ⟨g5, 0, none⟩) t.args.length c5) t.args.length (rowTv (vs.set j ⟨ty, aY, cY⟩)) := by rw [hw7]; exact hput
            have heap6 : ∀ k, k ≠ w.heap.size → w6.heap[k]? = w5.heap[k]? := fun k hk => by rw [HW6.out]; exact Below.heap_setCell _ _ _ _ hk
            have heap7 : ∀ k, k ≠ g5 → w7.heap[k]? = w6.heap[k]? := fun k hk => by
              rw [hw7]
              show ((((w6.setCell ⟨g5, j * 4, none⟩ (.int .i64 ty.kind)).setCell ⟨g5, j * 4 + 1, none⟩ (.string ty.name)).setCell ⟨g5, j * 4 + 2, none⟩ (.int .i64 ty.n)).setCell ⟨g5, j * 4 + 3, none⟩ (.slice aY ty.args.length cY)).heap[k]? = _
              rw [Below.heap_setCell _ _ _ _ hk, Below.heap_setCell _ _ _ _ hk, Below.heap_setCell _ _ _ _ hk, Below.heap_setCell _ _ _ _ hk]
            have hb6 : Below w.heap.size w w6 := by rw [HW6.out]; exact ((HDW.out.trans (HB5.out.mono HDW.out.size)).setCell (p := ⟨w.heap.size, 3, none⟩) (Nat.le_refl _) _)
            have hb7 : Below w.heap.size w w7 := by rw [hw7]; exact (((((hb6.setCell (p := ⟨g5, j * 4, none⟩) (by show w.heap.size ≤ g5; omega) _).setCell (p := ⟨g5, j * 4 + 1, none⟩) (by show w.heap.size ≤ g5; omega) _).setCell (p := ⟨g5, j * 4 + 2, none⟩) (by show w.heap.size ≤ g5; omega) _).setCell (p := ⟨g5, j * 4 + 3, none⟩) (by show w.heap.size ≤ g5; omega) _).drew)
            have x5 := HXD.out w5 HB5.out
            have at6 : ∀ (o : Nat), o ≠ 3 → w6.cell? ⟨w.heap.size, o, none⟩ = w5.cell? ⟨w.heap.size, o, none⟩ := fun o ho => by rw [HW6.out]; exact cell_off w.heap.size 3 o (fun h => ho h.symm)
            have at7 : ∀ (o : Nat), w7.cell? ⟨w.heap.size, o, none⟩ = w6.cell? ⟨w.heap.size, o, none⟩ := fun o => World.cell?_of_block (heap7 _ (fun h => hg5n h.symm))
            have c0 := (at7 0).trans ((at6 0 (by decide)).trans x5.c0)
            have c1 := (at7 1).trans ((at6 1 (by decide)).trans x5.c1)
            have c2 := (at7 2).trans ((at6 2 (by decide)).trans x5.c2)
            have c3 := (at7 3).trans s3
            have r5 := HRD.out w5 HB5.out
            have hRn : w.heap.size + 2 ≠ g5 := by omega
            have hR7 : w7.heap[w.heap.size + 2]? = w5.heap[w.heap.size + 2]? := (heap7 _ hRn).trans (heap6 _ (by omega))
            have bR7 : Box w7 (w.heap.size + 2) (.int .i64 0) (.string ⟨#[]⟩) (.int .i64 0) (.slice none 0 0) :=
              ⟨(World.cell?_of_block hR7).trans r5.c0, (World.cell?_of_block hR7).trans r5.c1, (World.cell?_of_block hR7).trans r5.c2, (World.cell?_of_block hR7).trans r5.c3, (World.frozen?_of_block hR7).trans r5.f0, (World.frozen?_of_block hR7).trans r5.f1, (World.frozen?_of_block hR7).trans r5.f2, (World.frozen?_of_block hR7).trans r5.f3⟩
            have BR8 := Lib.hid (bR7.sets (.int .i64 t.kind) (.string t.name) (.int .i64 t.n) (.slice (some ⟨g5, 0, none⟩) t.args.length c5))
            obtain ⟨q0, q1, q2, q3, f0, f1, f2, f3⟩ := bR7
            have H7 := Lib.hid heap7
            have H6 := Lib.hid heap6
            have HB7 := Lib.hid hb7
            have HOWN7 := Lib.hid hown7
            have hs7 : w7.heap.size = w5.heap.size := by rw [hw7, HW6.out]; simp
            have HS7 := Lib.hid hs7
            clear hw7 hput heap6 heap7 hb6 hb7 x5 at6 at7 r5 hR7 hown7 hs7 s3 sp r0 r1 r2 r3 z0 z1 z2 z3 o0 o1 o2 o3
            go_wp2_with fail
            obtain ⟨q0, q1, q2, q3, f0, f1, f2, f3⟩ := BR8.out
            refine bodyPost_ret (v := .tuple #[.agg #[.int .i64 t.kind, .string t.name, .int .i64 t.n, .slice (some ⟨g5, 0, none⟩) t.args.length c5], .bool true]) (by simp [results, Try.results14, go_sem, q0, q1, q2, q3]) rfl ?_
            rw [hE.out]
            refine ⟨⟨.mk t.kind t.name t.n (t.args.set j ty), some ⟨g5, 0, none⟩, c5⟩, by simp [Tv.val, Tm.kind, Tm.name, Tm.n, Tm.args], rfl, ?_, below_sets HB7.out (by omega) _ _ _ _⟩
            have hz8 : w.heap.size + 2 < wd.heap.size := by omega
            refine fresh_row (vs := vs.set j ⟨ty, aY, cY⟩) (n := t.args.length) ?_ (by rw [List.length_set]) (by rw [map_set_t, HVT.out]) HX.out.1 (by omega) (fun W hWb hWs hWa v hv => ?_)
            · have h8 := own_setCell (own_setCell (own_setCell (own_setCell HOWN7.out (p := ⟨w.heap.size + 2, 0, none⟩) hz8 (.int .i64 t.kind)) (p := ⟨w.heap.size + 2, 1, none⟩) hz8 (.string t.name)) (p := ⟨w.heap.size + 2, 2, none⟩) hz8 (.int .i64 t.n)) (p := ⟨w.heap.size + 2, 3, none⟩) hz8 (.slice (some ⟨g5, 0, none⟩) t.args.length c5)
              exact own_lower h8 HDW.out.size
            · rcases List.mem_or_eq_of_mem_set hv with hv | rfl
              · exact (HVO.out v hv).below hWb
              · refine HN.out W hWb ?_ (fun k h1 h2 h3 => ?_)
                · have h5 := HB5.out.size
                  have h7 := HS7.out
                  simp at hWs; omega
                · have hd' := HD.out.size
                  have h5 := HB5.out.size
                  have h7 := HS7.out
                  have e1 := hWa k (by omega) (by simp; omega)
                  rw [e1]
                  have hkR : k ≠ w.heap.size + 2 := by omega
                  rw [Below.heap_setCell _ _ _ _ hkR, Below.heap_setCell _ _ _ _ hkR, Below.heap_setCell _ _ _ _ hkR, Below.heap_setCell _ _ _ _ hkR, H7.out k (by omega), H6.out k (by omega)]
                  exact HB5.out.block k h2
        · have hd := FS.out w4 (.int .i64 ty.kind) (.string ty.name) (.int .i64 ty.n) (.slice aY ty.args.length cY) hn4
          have b8 := (Box.mk b0 b1 b2 b3 g0 g1 g2 g3).sets (.int .i64 ty.kind) (.string ty.name) (.int .i64 ty.n) (.slice aY ty.args.length cY)
          have hN := near_sets (g := w'.heap.size) (by simp) hyo (.int .i64 ty.kind) (.string ty.name) (.int .i64 ty.n) (.slice aY ty.args.length cY)
          have hg8 : w'.heap.size ≤ w'.heap.size := Nat.le_refl _
          obtain ⟨wd, hwd⟩ : ∃ wd, wd = ((((w4.setCell ⟨w'.heap.size, 0, none⟩ (.int .i64 ty.kind)).setCell ⟨w'.heap.size, 1, none⟩ (.string ty.name)).setCell ⟨w'.heap.size, 2, none⟩ (.int .i64 ty.n)).setCell ⟨w'.heap.size, 3, none⟩ (.slice aY ty.args.length cY)) := ⟨_, rfl⟩
          rw [← hwd] at b8 hN hd
          rw [← hwd]
          clear hwd hyo hn4 b0 b1 b2 b3 g0 g1 g2 g3
          cases po with
          | none =>
            have hbR := HBR.out wd (below_next HN0.out hd)
            have HBR2 := Lib.hid (hbR.sets (.int .i64 0) (.string ⟨#[]⟩) (.int .i64 0) (.slice none 0 0))
            obtain ⟨q0, q1, q2, q3, g0, g1, g2, g3⟩ := hbR
            have HEND := Lib.hid (HBW.out.trans (hd.mono HBW.out.size))
            clear hN b8 m0 m1 m2 m3 y0 y1 y2 y3 p3 hcz hd
            go_wp2_with fail
            obtain ⟨q0, q1, q2, q3, g0, g1, g2, g3⟩ := HBR2.out
            refine bodyPost_ret (v := .tuple #[.agg #[.int .i64 0, .string ⟨#[]⟩, .int .i64 0, .slice none 0 0], .bool false]) (by simp [results, Try.results14, go_sem, q0, q1, q2, q3]) rfl ?_
            rw [hE.out]
            exact ⟨zeroV, rfl, rfl, fun _ _ _ _ => zeroV_ok _, below_sets HEND.out (by omega) _ _ _ _⟩
          | some a =>
            obtain rfl : ty = a := HYT.out
            have hdz := below_next HN0.out hd
            have hzd := hdz.size
            have hzw := HZS.out
            have hz' := HN0.out.size
            have bX := HBX.out wd hdz
            have hcd := HCZ.out wd hdz
            have hB0d := HB0W.out.trans (hd.mono HB0W.out.size)
            have hdw : Below w.heap.size w wd := HBW.out.trans (hd.mono HBW.out.size)
            obtain ⟨vs, hvt, hvo, hvc⟩ := rowAt_vs HROW.out
            have hvl : vs.length = t.args.length := by rw [← hvt, List.length_map]
            have hargs : t.args.length ≤ 100000 := by have := partsL_length t.args; have := parts_eq t; omega
            have HVL := Lib.hid (show (rowTv vs).length = t.args.length * 4 by rw [rowTv_length, hvl])
            have HVC := Lib.hid (show ∀ q x, (rowTv vs)[q]? = some x → wd.cell? ((⟨b', o', none⟩ : Addr).add q) = some x from fun q x hq => by
              rw [addr_row]; exact (hB0d.cell (p := ⟨b', o' + q, none⟩) hlt').trans (hvc q x hq))
            have H1 := Lib.hid (rowTv_one' vs)
            have HVT := Lib.hid hvt
            have HVO := Lib.hid hvo
            have HDW := Lib.hid hdw
            have HXD := Lib.hid (fun (V : World) (h : Below wd.heap.size wd V) => bX.below h (by omega))
            have HRD := Lib.hid (fun (V : World) (h : Below wd.heap.size wd V) => HBR.out V (hdz.trans (h.mono hdz.size)))
            have hgl8 : w'.heap.size < wd.heap.size := lt_of_cell b8.c0
            have HB8D := Lib.hid (fun (V : World) (h : Below wd.heap.size wd V) => b8.below h hgl8)
            have HCD := Lib.hid (fun (V : World) (h : Below wd.heap.size wd V) => (h.cell (p := ⟨b, off, none⟩) (by have := hB0d.size; show b < _; omega)).trans hcd)
            have hnb : b ≠ w.heap.size := by have := HB0.out.size; omega
            have HN := Lib.hid hN
            have HD := Lib.hid hd
            obtain ⟨p0, p1, p2, p3, f0, f1, f2, f3⟩ := bX
            have HPOS := Lib.hid (show 0 < 0 + t.args.length by omega)
            have hn1 : 0 + t.args.length ≤ maxLen := by unfold maxLen; omega
            have hn2 : (0 + t.args.length) * 56 ≤ 140737488355328 := by omega
            clear hN b8 hd hdz hcd hB0d hdw hvt hvo hvc m0 m1 m2 m3 y0 y1 y2 y3 hcz
            go_wp2_with (at_builtin; refine wpList_append_own_at _ rfl _ _ 22 rfl wd.heap.size 24 i0 (.agg #[.int .i64 0, .string ⟨#[]⟩, .int .i64 0, .slice none 0 0]) 4 56 Try.underlying22 hi0 hiz0 his0 hib0 rfl (by decide) _ 0 [] rfl (World.ownsRow_nil _ _ _ _) ⟨b', o', none⟩ t.args.length cx (rowTv vs) rfl HVL.out HVC.out H1.out hn1 hn2 (Nat.le_refl _) ?_; intro v5 w5 hown5 hg5 _ _; have hb5 : Below wd.heap.size wd w5 := (Below.refl _ _).grown hg5 (Nat.le_refl _) (fun k e => by cases e); obtain ⟨g5, c5, rfl, hge5, hg5l⟩ := hown5.form HPOS.out; obtain ⟨_, _, _, e3, _, _, _, e7⟩ := HXD.out w5 hb5)
            simp only [Nat.zero_add, List.nil_append] at hown5 ⊢
            obtain ⟨w6, hw6⟩ : ∃ w6, w6 = w5.setCell ⟨w.heap.size, 3, none⟩ (.slice (some ⟨g5, 0, none⟩) t.args.length c5) := ⟨_, rfl⟩
            rw [← hw6]
            have hb5s := hb5.size
            have hown6 : w6.ownsRow wd.heap.size 24 4 (.slice (some ⟨g5, 0, none⟩) t.args.length c5) t.args.length (rowTv vs) := by rw [hw6]; exact own_setCell hown5 (by show w.heap.size < _; omega) _
            have s3 : w6.cell? ⟨w.heap.size, 3, none⟩ = some (.slice (some ⟨g5, 0, none⟩) t.args.length c5) := by rw [hw6]; exact World.cell?_setCell_same _ _ _ e3
            have sp : w6.cell? ⟨b, off, none⟩ = some (.int .i64 j) := by rw [hw6]; exact (cell_aside _ ⟨b, off, none⟩ hnb).trans (HCD.out w5 hb5)
            have hg8w : w'.heap.size ≠ w.heap.size := by omega
            have s8 : Box w6 w'.heap.size (.int .i64 ty.kind) (.string ty.name) (.int .i64 ty.n) (.slice aY ty.args.length cY) := by rw [hw6]; exact (HB8D.out w5 hb5).aside (p := ⟨w.heap.size, 3, none⟩) hg8w _
            have hjv : j < vs.length := by omega
            have hrc := fun (i : Nat) (hi : i < 4) (v : Value) (hv : vs[j].cells[i]? = some v) => (show w6.cell? ⟨g5, j * 4 + i, none⟩ = some v from by
              have h := hown6.cells (g := g5) rfl (j * 4 + i) v (by rw [rowTv_get vs j hjv i hi]; exact hv)
              rwa [addr_row, Nat.zero_add] at h)
            have r0 := hrc 0 (by decide) _ rfl
            have r1 := hrc 1 (by decide) _ rfl
            have r2 := hrc 2 (by decide) _ rfl
            have r3 := hrc 3 (by decide) _ rfl
            rw [Nat.add_zero] at r0
            have hfr : ∀ o, w6.frozen? ⟨g5, o, none⟩ = false := fun o => by
              rcases hown6.2 with ⟨h, _⟩ | ⟨g', cap', cur, hv, _, hgc, _⟩
              · cases h
              · obtain ⟨rfl, rfl⟩ : g5 = g' ∧ c5 = cap' := by cases hv; exact ⟨rfl, rfl⟩
                simp [World.frozen?, hgc]
            have z0 := hfr (j * 4)
            have z1 := hfr (j * 4 + 1)
            have z2 := hfr (j * 4 + 2)
            have z3 := hfr (j * 4 + 3)
            have hg5n : g5 ≠ w.heap.size := by omega
            have hg5b : b ≠ g5 := by have := HB0.out.size; omega
            have hg58 : w'.heap.size ≠ g5 := by omega
            obtain ⟨o0, o1, o2, o3, _, _, _, _⟩ := id s8
            have K6 := Lib.hid (show (w6.cell? ⟨w.heap.size, 3, none⟩ = some (.slice (some ⟨g5, 0, none⟩) t.args.length c5) ∧ w6.cell? ⟨b, off, none⟩ = some (.int .i64 j) ∧ w6.cell? ⟨w'.heap.size, 0, none⟩ = some (.int .i64 ty.kind) ∧ w6.cell? ⟨w'.heap.size, 1, none⟩ = some (.string ty.name) ∧ w6.cell? ⟨w'.heap.size, 2, none⟩ = some (.int .i64 ty.n) ∧ w6.cell? ⟨w'.heap.size, 3, none⟩ = some (.slice aY ty.args.length cY)) from ⟨s3, sp, s8.c0, s8.c1, s8.c2, s8.c3⟩)
            have K7 := Lib.hid (fun (u0 u1 u2 u3 : Value) => (show ((fun W => W.cell? ⟨w.heap.size, 3, none⟩ = some (.slice (some ⟨g5, 0, none⟩) t.args.length c5) ∧ W.cell? ⟨b, off, none⟩ = some (.int .i64 j) ∧ W.cell? ⟨w'.heap.size, 0, none⟩ = some (.int .i64 ty.kind) ∧ W.cell? ⟨w'.heap.size, 1, none⟩ = some (.string ty.name) ∧ W.cell? ⟨w'.heap.size, 2, none⟩ = some (.int .i64 ty.n) ∧ W.cell? ⟨w'.heap.size, 3, none⟩ = some (.slice aY ty.args.length cY)) (((((w6.setCell ⟨g5, j * 4, none⟩ u0).setCell ⟨g5, j * 4 + 1, none⟩ u1).setCell ⟨g5, j * 4 + 2, none⟩ u2).setCell ⟨g5, j * 4 + 3, none⟩ u3).drew)) from by
              have far : ∀ (p : Addr), p.block ≠ g5 → (((((w6.setCell ⟨g5, j * 4, none⟩ u0).setCell ⟨g5, j * 4 + 1, none⟩ u1).setCell ⟨g5, j * 4 + 2, none⟩ u2).setCell ⟨g5, j * 4 + 3, none⟩ u3).drew).cell? p = w6.cell? p := fun p hp => by
                show ((((w6.setCell ⟨g5, j * 4, none⟩ u0).setCell ⟨g5, j * 4 + 1, none⟩ u1).setCell ⟨g5, j * 4 + 2, none⟩ u2).setCell ⟨g5, j * 4 + 3, none⟩ u3).cell? p = _
                rw [cell_aside _ p hp, cell_aside _ p hp, cell_aside _ p hp, cell_aside _ p hp]
              exact ⟨(far _ (fun h => hg5n h.symm)).trans s3, (far _ hg5b).trans sp, (far _ hg58).trans s8.c0, (far _ hg58).trans s8.c1, (far _ hg58).trans s8.c2, (far _ hg58).trans s8.c3⟩))
            have HW6 := Lib.hid hw6
            have HOWN6 := Lib.hid hown6
            have HB5 := Lib.hid hb5
            clear hw6 hown5 hown6 hg5 hrc hfr s8 e3 e7 p0 p1 p2 p3 f0 f1 f2 f3
            have hvn : (vs.length : Int) = (t.args.length : Int) := by omega
            clear hvn
            go_region_held3 (fun W => W.cell? ⟨w.heap.size, 3, none⟩ = some (.slice (some ⟨g5, 0, none⟩) t.args.length c5) ∧ W.cell? ⟨b, off, none⟩ = some (.int .i64 j) ∧ W.cell? ⟨w'.heap.size, 0, none⟩ = some (.int .i64 ty.kind) ∧ W.cell? ⟨w'.heap.size, 1, none⟩ = some (.string ty.name) ∧ W.cell? ⟨w'.heap.size, 2, none⟩ = some (.int .i64 ty.n) ∧ W.cell? ⟨w'.heap.size, 3, none⟩ = some (.slice aY ty.args.length cY)) (first | exact K6.out | exact K7.out _ _ _ _) (fail)
            obtain ⟨w7, hw7⟩ : ∃ w7, w7 = (((((w6.setCell ⟨g5, j * 4, none⟩ (.int .i64 ty.kind)).setCell ⟨g5, j * 4 + 1, none⟩ (.string ty.name)).setCell ⟨g5, j * 4 + 2, none⟩ (.int .i64 ty.n)).setCell ⟨g5, j * 4 + 3, none⟩ (.slice aY ty.args.length cY)).drew) := ⟨_, rfl⟩
            rw [← hw7]
            have hput := own_put HOWN6.out ⟨ty, aY, cY⟩ j hjv
            have hown7 : w7.ownsRow wd.heap.size 24 4 (.slice (some ⟨g5, 0, none⟩) t.args.length c5) t.args.length (rowTv (vs.set j ⟨ty, aY, cY⟩)) := by rw [hw7]; exact hput
            have heap6 : ∀ k, k ≠ w.heap.size → w6.heap[k]? = w5.heap[k]? := fun k hk => by rw [HW6.out]; exact Below.heap_setCell _ _ _ _ hk
            have heap7 : ∀ k, k ≠ g5 → w7.heap[k]? = w6.heap[k]? := fun k hk => by
              rw [hw7]
              show ((((w6.setCell ⟨g5, j * 4, none⟩ (.int .i64 ty.kind)).setCell ⟨g5, j * 4 + 1, none⟩ (.string ty.name)).setCell ⟨g5, j * 4 + 2, none⟩ (.int .i64 ty.n)).setCell ⟨g5, j * 4 + 3, none⟩ (.slice aY ty.args.length cY)).heap[k]? = _
              rw [Below.heap_setCell _ _ _ _ hk, Below.heap_setCell _ _ _ _ hk, Below.heap_setCell _ _ _ _ hk, Below.heap_setCell _ _ _ _ hk]
            have hb6 : Below w.heap.size w w6 := by rw [HW6.out]; exact ((HDW.out.trans (HB5.out.mono HDW.out.size)).setCell (p := ⟨w.heap.size, 3, none⟩) (Nat.le_refl _) _)
            have hb7 : Below w.heap.size w w7 := by rw [hw7]; exact (((((hb6.setCell (p := ⟨g5, j * 4, none⟩) (by show w.heap.size ≤ g5; omega) _).setCell (p := ⟨g5, j * 4 + 1, none⟩) (by show w.heap.size ≤ g5; omega) _).setCell (p := ⟨g5, j * 4 + 2, none⟩) (by show w.heap.size ≤ g5; omega) _).setCell (p := ⟨g5, j * 4 + 3, none⟩) (by show w.heap.size ≤ g5; omega) _).drew)
            have x5 := HXD.out w5 HB5.out
            have at6 : ∀ (o : Nat), o ≠ 3 → w6.cell? ⟨w.heap.size, o, none⟩ = w5.cell? ⟨w.heap.size, o, none⟩ := fun o ho => by rw [HW6.out]; exact cell_off w.heap.size 3 o (fun h => ho h.symm)
            have at7 : ∀ (o : Nat), w7.cell? ⟨w.heap.size, o, none⟩ = w6.cell? ⟨w.heap.size, o, none⟩ := fun o => World.cell?_of_block (heap7 _ (fun h => hg5n h.symm))
            have c0 := (at7 0).trans ((at6 0 (by decide)).trans x5.c0)
            have c1 := (at7 1).trans ((at6 1 (by decide)).trans x5.c1)
            have c2 := (at7 2).trans ((at6 2 (by decide)).trans x5.c2)
            have c3 := (at7 3).trans s3
            have r5 := HRD.out w5 HB5.out
            have hRn : w.heap.size + 2 ≠ g5 := by omega
            have hR7 : w7.heap[w.heap.size + 2]? = w5.heap[w.heap.size + 2]? := (heap7 _ hRn).trans (heap6 _ (by omega))
            have bR7 : Box w7 (w.heap.size + 2) (.int .i64 0) (.string ⟨#[]⟩) (.int .i64 0) (.slice none 0 0) :=
              ⟨(World.cell?_of_block hR7).trans r5.c0, (World.cell?_of_block hR7).trans r5.c1, (World.cell?_of_block hR7).trans r5.c2, (World.cell?_of_block hR7).trans r5.c3, (World.frozen?_of_block hR7).trans r5.f0, (World.frozen?_of_block hR7).trans r5.f1, (World.frozen?_of_block hR7).trans r5.f2, (World.frozen?_of_block hR7).trans r5.f3⟩
            have BR8 := Lib.hid (bR7.sets (.int .i64 t.kind) (.string t.name) (.int .i64 t.n) (.slice (some ⟨g5, 0, none⟩) t.args.length c5))
            obtain ⟨q0, q1, q2, q3, f0, f1, f2, f3⟩ := bR7
            have H7 := Lib.hid heap7
            have H6 := Lib.hid heap6
            have HB7 := Lib.hid hb7
            have HOWN7 := Lib.hid hown7
            have hs7 : w7.heap.size = w5.heap.size := by rw [hw7, HW6.out]; simp
            have HS7 := Lib.hid hs7
            clear hw7 hput heap6 heap7 hb6 hb7 x5 at6 at7 r5 hR7 hown7 hs7 s3 sp r0 r1 r2 r3 z0 z1 z2 z3 o0 o1 o2 o3
            go_wp2_with fail
            obtain ⟨q0, q1, q2, q3, f0, f1, f2, f3⟩ := BR8.out
            refine bodyPost_ret (v := .tuple #[.agg #[.int .i64 t.kind, .string t.name, .int .i64 t.n, .slice (some ⟨g5, 0, none⟩) t.args.length c5], .bool true]) (by simp [results, Try.results14, go_sem, q0, q1, q2, q3]) rfl ?_
            rw [hE.out]
            refine ⟨⟨.mk t.kind t.name t.n (t.args.set j ty), some ⟨g5, 0, none⟩, c5⟩, by simp [Tv.val, Tm.kind, Tm.name, Tm.n, Tm.args], rfl, ?_, below_sets HB7.out (by omega) _ _ _ _⟩
            have hz8 : w.heap.size + 2 < wd.heap.size := by omega
            refine fresh_row (vs := vs.set j ⟨ty, aY, cY⟩) (n := t.args.length) ?_ (by rw [List.length_set]) (by rw [map_set_t, HVT.out]) HX.out.1 (by omega) (fun W hWb hWs hWa v hv => ?_)
            · have h8 := own_setCell (own_setCell (own_setCell (own_setCell HOWN7.out (p := ⟨w.heap.size + 2, 0, none⟩) hz8 (.int .i64 t.kind)) (p := ⟨w.heap.size + 2, 1, none⟩) hz8 (.string t.name)) (p := ⟨w.heap.size + 2, 2, none⟩) hz8 (.int .i64 t.n)) (p := ⟨w.heap.size + 2, 3, none⟩) hz8 (.slice (some ⟨g5, 0, none⟩) t.args.length c5)
              exact own_lower h8 HDW.out.size
            · rcases List.mem_or_eq_of_mem_set hv with hv | rfl
              · exact (HVO.out v hv).below hWb
              · refine HN.out W hWb ?_ (fun k h1 h2 h3 => ?_)
                · have h5 := HB5.out.size
                  have h7 := HS7.out
                  simp at hWs; omega
                · have hd' := HD.out.size
                  have h5 := HB5.out.size
                  have h7 := HS7.out
                  have e1 := hWa k (by omega) (by simp; omega)
                  rw [e1]
                  have hkR : k ≠ w.heap.size + 2 := by omega
                  rw [Below.heap_setCell _ _ _ _ hkR, Below.heap_setCell _ _ _ _ hkR, Below.heap_setCell _ _ _ _ hkR, Below.heap_setCell _ _ _ _ hkR, H7.out k (by omega), H6.out k (by omega)]
                  exact HB5.out.block k h2
      · obtain rfl : c = 1 := by omega
        have CT := Lib.hid (hCT (some ⟨b, off, none⟩) (fun h => absurd (List.eq_nil_of_length_eq_zero (by omega)) h))
        obtain rfl : r = [] := List.eq_nil_of_length_eq_zero (by omega)
        clear hlen1 hlen2 hlen3 hc1 hc2 hlc
        simp only [List.length_nil, Nat.zero_add, Nat.sub_self] at CT ⊢
        have CT8 := Lib.hid ((CT.out (w'.alloc (.cells #[.int .i64 0, .string ⟨#[]⟩, .int .i64 0, .slice none 0 0] 24)).drew (FA.out _)).mono (fun e w4 hh => (show ∃ y : Tv, e = .returned (.tuple #[y.val, .bool po.isSome]) ∧ y.t = po.getD zeroT ∧ Fresh w0 (w'.alloc (.cells #[.int .i64 0, .string ⟨#[]⟩, .int .i64 0, .slice none 0 0] 24)).drew w4 y ∧ Box w4 w'.heap.size (.int .i64 0) (.string ⟨#[]⟩) (.int .i64 0) (.slice none 0 0) ∧ Below w'.heap.size w' w4 from by
          obtain ⟨y, h1, h2, h3, h4, h5⟩ := hh; exact ⟨y, h1, h2, h3, HB8.out _ h4, h5⟩)))
        clear hcc hCT
        simp only [Tv.val] at CT CT8
        go_wp2_with fail
        go_region_held3 (fun W => Below w'.heap.size w' W ∧ W.cell? ⟨w.heap.size, 3, none⟩ = some (.slice (some ⟨b', o', none⟩) t.args.length cx) ∧ W.cell? ⟨b, off, none⟩ = some (.int .i64 j) ∧ W.cell? ⟨b', o' + j * 4, none⟩ = some (.int .i64 t.args[j].kind) ∧ W.cell? ⟨b', o' + j * 4 + 1, none⟩ = some (.string t.args[j].name) ∧ W.cell? ⟨b', o' + j * 4 + 2, none⟩ = some (.int .i64 t.args[j].n) ∧ W.cell? ⟨b', o' + j * 4 + 3, none⟩ = some (.slice za t.args[j].args.length zc) ∧ W.cell? ⟨w.heap.size + 1, 0, none⟩ = some (.int .i64 u.kind) ∧ W.cell? ⟨w.heap.size + 1, 1, none⟩ = some (.string u.name) ∧ W.cell? ⟨w.heap.size + 1, 2, none⟩ = some (.int .i64 u.n) ∧ W.cell? ⟨w.heap.size + 1, 3, none⟩ = some (.slice ay u.args.length cy)) ((refine KEEP.out _ ?_; first | with_reducible exact F1 | with_reducible exact FA.out _ | with_reducible assumption | with_reducible exact FB.out _ _ (by with_reducible assumption) | with_reducible exact FS.out _ _ _ _ _ (by with_reducible assumption)))
          ((first
            | (go_at_call 14; refine CT8.out.mono ?_; rintro e w4 ⟨⟨ty, aY, cY⟩, rfl, hyt, hyo, ⟨b0, b1, b2, b3, g0, g1, g2, g3⟩, hn4⟩; have HYT := Lib.hid hyt; clear hyt)
            | (go_at_call 14; refine (CT.out _ (by assumption)).mono ?_; rintro e w4 ⟨⟨ty, aY, cY⟩, rfl, hyt, hyo, hk4, hn4⟩; have HYT := Lib.hid hyt; clear hyt)))
        · have hd := FB.out w4 (.cells #[.int .i64 ty.kind, .string ty.name, .int .i64 ty.n, .slice aY ty.args.length cY] 24) hn4
          have b8 := box_new w4 (.int .i64 ty.kind) (.string ty.name) (.int .i64 ty.n) (.slice aY ty.args.length cY) 24
          have hN := near_alloc (B := w'.heap.size) (by simp) hyo (.cells #[.int .i64 ty.kind, .string ty.name, .int .i64 ty.n, .slice aY ty.args.length cY] 24)
          have hg8 : w'.heap.size ≤ w4.heap.size := hn4.size
          obtain ⟨wd, hwd⟩ : ∃ wd, wd = w4.alloc (.cells #[.int .i64 ty.kind, .string ty.name, .int .i64 ty.n, .slice aY ty.args.length cY] 24) := ⟨_, rfl⟩
          obtain ⟨g8, hg8e⟩ : ∃ g8, g8 = w4.heap.size := ⟨_, rfl⟩
          rw [← hwd, ← hg8e] at b8 hN
          rw [← hwd] at hd
          rw [← hg8e] at hg8
          rw [← hwd, ← hg8e]
          clear hwd hg8e hyo hn4 hk4
          cases po with
          | none =>
            have hbR := HBR.out wd (below_next HN0.out hd)
            have HBR2 := Lib.hid (hbR.sets (.int .i64 0) (.string ⟨#[]⟩) (.int .i64 0) (.slice none 0 0))
            obtain ⟨q0, q1, q2, q3, g0, g1, g2, g3⟩ := hbR
            have HEND := Lib.hid (HBW.out.trans (hd.mono HBW.out.size))
            clear hN b8 m0 m1 m2 m3 y0 y1 y2 y3 p3 hcz hd
            go_wp2_with fail
            obtain ⟨q0, q1, q2, q3, g0, g1, g2, g3⟩ := HBR2.out
            refine bodyPost_ret (v := .tuple #[.agg #[.int .i64 0, .string ⟨#[]⟩, .int .i64 0, .slice none 0 0], .bool false]) (by simp [results, Try.results14, go_sem, q0, q1, q2, q3]) rfl ?_
            rw [hE.out]
            exact ⟨zeroV, rfl, rfl, fun _ _ _ _ => zeroV_ok _, below_sets HEND.out (by omega) _ _ _ _⟩
          | some a =>
            obtain rfl : ty = a := HYT.out
            have hdz := below_next HN0.out hd
            have hzd := hdz.size
            have hzw := HZS.out
            have hz' := HN0.out.size
            have bX := HBX.out wd hdz
            have hcd := HCZ.out wd hdz
            have hB0d := HB0W.out.trans (hd.mono HB0W.out.size)
            have hdw : Below w.heap.size w wd := HBW.out.trans (hd.mono HBW.out.size)
            obtain ⟨vs, hvt, hvo, hvc⟩ := rowAt_vs HROW.out
            have hvl : vs.length = t.args.length := by rw [← hvt, List.length_map]
            have hargs : t.args.length ≤ 100000 := by have := partsL_length t.args; have := parts_eq t; omega
            have HVL := Lib.hid (show (rowTv vs).length = t.args.length * 4 by rw [rowTv_length, hvl])
            have HVC := Lib.hid (show ∀ q x, (rowTv vs)[q]? = some x → wd.cell? ((⟨b', o', none⟩ : Addr).add q) = some x from fun q x hq => by
              rw [addr_row]; exact (hB0d.cell (p := ⟨b', o' + q, none⟩) hlt').trans (hvc q x hq))
            have H1 := Lib.hid (rowTv_one' vs)
            have HVT := Lib.hid hvt
            have HVO := Lib.hid hvo
            have HDW := Lib.hid hdw
            have HXD := Lib.hid (fun (V : World) (h : Below wd.heap.size wd V) => bX.below h (by omega))
            have HRD := Lib.hid (fun (V : World) (h : Below wd.heap.size wd V) => HBR.out V (hdz.trans (h.mono hdz.size)))
            have hgl8 : g8 < wd.heap.size := lt_of_cell b8.c0
            have HB8D := Lib.hid (fun (V : World) (h : Below wd.heap.size wd V) => b8.below h hgl8)
            have HCD := Lib.hid (fun (V : World) (h : Below wd.heap.size wd V) => (h.cell (p := ⟨b, off, none⟩) (by have := hB0d.size; show b < _; omega)).trans hcd)
            have hnb : b ≠ w.heap.size := by have := HB0.out.size; omega
            have HN := Lib.hid hN
            have HD := Lib.hid hd
            obtain ⟨p0, p1, p2, p3, f0, f1, f2, f3⟩ := bX
            have HPOS := Lib.hid (show 0 < 0 + t.args.length by omega)
            have hn1 : 0 + t.args.length ≤ maxLen := by unfold maxLen; omega
            have hn2 : (0 + t.args.length) * 56 ≤ 140737488355328 := by omega
            clear hN b8 hd hdz hcd hB0d hdw hvt hvo hvc m0 m1 m2 m3 y0 y1 y2 y3 hcz
            go_wp2_with (at_builtin; refine wpList_append_own_at _ rfl _ _ 22 rfl wd.heap.size 24 i0 (.agg #[.int .i64 0, .string ⟨#[]⟩, .int .i64 0, .slice none 0 0]) 4 56 Try.underlying22 hi0 hiz0 his0 hib0 rfl (by decide) _ 0 [] rfl (World.ownsRow_nil _ _ _ _) ⟨b', o', none⟩ t.args.length cx (rowTv vs) rfl HVL.out HVC.out H1.out hn1 hn2 (Nat.le_refl _) ?_; intro v5 w5 hown5 hg5 _ _; have hb5 : Below wd.heap.size wd w5 := (Below.refl _ _).grown hg5 (Nat.le_refl _) (fun k e => by cases e); obtain ⟨g5, c5, rfl, hge5, hg5l⟩ := hown5.form HPOS.out; obtain ⟨_, _, _, e3, _, _, _, e7⟩ := HXD.out w5 hb5)
            simp only [Nat.zero_add, List.nil_append] at hown5 ⊢
            obtain ⟨w6, hw6⟩ : ∃ w6, w6 = w5.setCell ⟨w.heap.size, 3, none⟩ (.slice (some ⟨g5, 0, none⟩) t.args.length c5) := ⟨_, rfl⟩
            rw [← hw6]
            have hb5s := hb5.size
            have hown6 : w6.ownsRow wd.heap.size 24 4 (.slice (some ⟨g5, 0, none⟩) t.args.length c5) t.args.length (rowTv vs) := by rw [hw6]; exact own_setCell hown5 (by show w.heap.size < _; omega) _
            have s3 : w6.cell? ⟨w.heap.size, 3, none⟩ = some (.slice (some ⟨g5, 0, none⟩) t.args.length c5) := by rw [hw6]; exact World.cell?_setCell_same _ _ _ e3
            have sp : w6.cell? ⟨b, off, none⟩ = some (.int .i64 j) := by rw [hw6]; exact (cell_aside _ ⟨b, off, none⟩ hnb).trans (HCD.out w5 hb5)
            have hg8w : g8 ≠ w.heap.size := by omega
            have s8 : Box w6 g8 (.int .i64 ty.kind) (.string ty.name) (.int .i64 ty.n) (.slice aY ty.args.length cY) := by rw [hw6]; exact (HB8D.out w5 hb5).aside (p := ⟨w.heap.size, 3, none⟩) hg8w _
            have hjv : j < vs.length := by omega
            have hrc := fun (i : Nat) (hi : i < 4) (v : Value) (hv : vs[j].cells[i]? = some v) => (show w6.cell? ⟨g5, j * 4 + i, none⟩ = some v from by
              have h := hown6.cells (g := g5) rfl (j * 4 + i) v (by rw [rowTv_get vs j hjv i hi]; exact hv)
              rwa [addr_row, Nat.zero_add] at h)
            have r0 := hrc 0 (by decide) _ rfl
            have r1 := hrc 1 (by decide) _ rfl
            have r2 := hrc 2 (by decide) _ rfl
            have r3 := hrc 3 (by decide) _ rfl
            rw [Nat.add_zero] at r0
            have hfr : ∀ o, w6.frozen? ⟨g5, o, none⟩ = false := fun o => by
              rcases hown6.2 with ⟨h, _⟩ | ⟨g', cap', cur, hv, _, hgc, _⟩
              · cases h
              · obtain ⟨rfl, rfl⟩ : g5 = g' ∧ c5 = cap' := by cases hv; exact ⟨rfl, rfl⟩
                simp [World.frozen?, hgc]
            have z0 := hfr (j * 4)
            have z1 := hfr (j * 4 + 1)
            have z2 := hfr (j * 4 + 2)
            have z3 := hfr (j * 4 + 3)
            have hg5n : g5 ≠ w.heap.size := by omega
            have hg5b : b ≠ g5 := by have := HB0.out.size; omega
            have hg58 : g8 ≠ g5 := by omega
            obtain ⟨o0, o1, o2, o3, _, _, _, _⟩ := id s8
            have K6 := Lib.hid (show (w6.cell? ⟨w.heap.size, 3, none⟩ = some (.slice (some ⟨g5, 0, none⟩) t.args.length c5) ∧ w6.cell? ⟨b, off, none⟩ = some (.int .i64 j) ∧ w6.cell? ⟨g8, 0, none⟩ = some (.int .i64 ty.kind) ∧ w6.cell? ⟨g8, 1, none⟩ = some (.string ty.name) ∧ w6.cell? ⟨g8, 2, none⟩ = some (.int .i64 ty.n) ∧ w6.cell? ⟨g8, 3, none⟩ = some (.slice aY ty.args.length cY)) from ⟨s3, sp, s8.c0, s8.c1, s8.c2, s8.c3⟩)
            have K7 := Lib.hid (fun (u0 u1 u2 u3 : Value) => (show ((fun W => W.cell? ⟨w.heap.size, 3, none⟩ = some (.slice (some ⟨g5, 0, none⟩) t.args.length c5) ∧ W.cell? ⟨b, off, none⟩ = some (.int .i64 j) ∧ W.cell? ⟨g8, 0, none⟩ = some (.int .i64 ty.kind) ∧ W.cell? ⟨g8, 1, none⟩ = some (.string ty.name) ∧ W.cell? ⟨g8, 2, none⟩ = some (.int .i64 ty.n) ∧ W.cell? ⟨g8, 3, none⟩ = some (.slice aY ty.args.length cY)) (((((w6.setCell ⟨g5, j * 4, none⟩ u0).setCell ⟨g5, j * 4 + 1, none⟩ u1).setCell ⟨g5, j * 4 + 2, none⟩ u2).setCell ⟨g5, j * 4 + 3, none⟩ u3).drew)) from by
              have far : ∀ (p : Addr), p.block ≠ g5 → (((((w6.setCell ⟨g5, j * 4, none⟩ u0).setCell ⟨g5, j * 4 + 1, none⟩ u1).setCell ⟨g5, j * 4 + 2, none⟩ u2).setCell ⟨g5, j * 4 + 3, none⟩ u3).drew).cell? p = w6.cell? p := fun p hp => by
                show ((((w6.setCell ⟨g5, j * 4, none⟩ u0).setCell ⟨g5, j * 4 + 1, none⟩ u1).setCell ⟨g5, j * 4 + 2, none⟩ u2).setCell ⟨g5, j * 4 + 3, none⟩ u3).cell? p = _
                rw [cell_aside _ p hp, cell_aside _ p hp, cell_aside _ p hp, cell_aside _ p hp]
              exact ⟨(far _ (fun h => hg5n h.symm)).trans s3, (far _ hg5b).trans sp, (far _ hg58).trans s8.c0, (far _ hg58).trans s8.c1, (far _ hg58).trans s8.c2, (far _ hg58).trans s8.c3⟩))
            have HW6 := Lib.hid hw6
            have HOWN6 := Lib.hid hown6
            have HB5 := Lib.hid hb5
            clear hw6 hown5 hown6 hg5 hrc hfr s8 e3 e7 p0 p1 p2 p3 f0 f1 f2 f3
            have hvn : (vs.length : Int) = (t.args.length : Int) := by omega
            clear hvn
            go_region_held3 (fun W => W.cell? ⟨w.heap.size, 3, none⟩ = some (.slice (some ⟨g5, 0, none⟩) t.args.length c5) ∧ W.cell? ⟨b, off, none⟩ = some (.int .i64 j) ∧ W.cell? ⟨g8, 0, none⟩ = some (.int .i64 ty.kind) ∧ W.cell? ⟨g8, 1, none⟩ = some (.string ty.name) ∧ W.cell? ⟨g8, 2, none⟩ = some (.int .i64 ty.n) ∧ W.cell? ⟨g8, 3, none⟩ = some (.slice aY ty.args.length cY)) (first | exact K6.out | exact K7.out _ _ _ _) (fail)
            obtain ⟨w7, hw7⟩ : ∃ w7, w7 = (((((w6.setCell ⟨g5, j * 4, none⟩ (.int .i64 ty.kind)).setCell ⟨g5, j * 4 + 1, none⟩ (.string ty.name)).setCell ⟨g5, j * 4 + 2, none⟩ (.int .i64 ty.n)).setCell ⟨g5, j * 4 + 3, none⟩ (.slice aY ty.args.length cY)).drew) := ⟨_, rfl⟩
            rw [← hw7]
            have hput := own_put HOWN6.out ⟨ty, aY, cY⟩ j hjv
            have hown7 : w7.ownsRow wd.heap.size 24 4 (.slice (some ⟨g5, 0, none⟩) t.args.length c5) t.args.length (rowTv (vs.set j ⟨ty, aY, cY⟩)) := by rw [hw7]; exact hput
            have heap6 : ∀ k, k ≠ w.heap.size → w6.heap[k]? = w5.heap[k]? := fun k hk => by rw [HW6.out]; exact Below.heap_setCell _ _ _ _ hk
            have heap7 : ∀ k, k ≠ g5 → w7.heap[k]? = w6.heap[k]? := fun k hk => by
              rw [hw7]
              show ((((w6.setCell ⟨g5, j * 4, none⟩ (.int .i64 ty.kind)).setCell ⟨g5, j * 4 + 1, none⟩ (.string ty.name)).setCell ⟨g5, j * 4 + 2, none⟩ (.int .i64 ty.n)).setCell ⟨g5, j * 4 + 3, none⟩ (.slice aY ty.args.length cY)).heap[k]? = _
              rw [Below.heap_setCell _ _ _ _ hk, Below.heap_setCell _ _ _ _ hk, Below.heap_setCell _ _ _ _ hk, Below.heap_setCell _ _ _ _ hk]
            have hb6 : Below w.heap.size w w6 := by rw [HW6.out]; exact ((HDW.out.trans (HB5.out.mono HDW.out.size)).setCell (p := ⟨w.heap.size, 3, none⟩) (Nat.le_refl _) _)
            have hb7 : Below w.heap.size w w7 := by rw [hw7]; exact (((((hb6.setCell (p := ⟨g5, j * 4, none⟩) (by show w.heap.size ≤ g5; omega) _).setCell (p := ⟨g5, j * 4 + 1, none⟩) (by show w.heap.size ≤ g5; omega) _).setCell (p := ⟨g5, j * 4 + 2, none⟩) (by show w.heap.size ≤ g5; omega) _).setCell (p := ⟨g5, j * 4 + 3, none⟩) (by show w.heap.size ≤ g5; omega) _).drew)
            have x5 := HXD.out w5 HB5.out
            have at6 : ∀ (o : Nat), o ≠ 3 → w6.cell? ⟨w.heap.size, o, none⟩ = w5.cell? ⟨w.heap.size, o, none⟩ := fun o ho => by rw [HW6.out]; exact cell_off w.heap.size 3 o (fun h => ho h.symm)
            have at7 : ∀ (o : Nat), w7.cell? ⟨w.heap.size, o, none⟩ = w6.cell? ⟨w.heap.size, o, none⟩ := fun o => World.cell?_of_block (heap7 _ (fun h => hg5n h.symm))
            have c0 := (at7 0).trans ((at6 0 (by decide)).trans x5.c0)
            have c1 := (at7 1).trans ((at6 1 (by decide)).trans x5.c1)
            have c2 := (at7 2).trans ((at6 2 (by decide)).trans x5.c2)
            have c3 := (at7 3).trans s3
            have r5 := HRD.out w5 HB5.out
            have hRn : w.heap.size + 2 ≠ g5 := by omega
            have hR7 : w7.heap[w.heap.size + 2]? = w5.heap[w.heap.size + 2]? := (heap7 _ hRn).trans (heap6 _ (by omega))
            have bR7 : Box w7 (w.heap.size + 2) (.int .i64 0) (.string ⟨#[]⟩) (.int .i64 0) (.slice none 0 0) :=
              ⟨(World.cell?_of_block hR7).trans r5.c0, (World.cell?_of_block hR7).trans r5.c1, (World.cell?_of_block hR7).trans r5.c2, (World.cell?_of_block hR7).trans r5.c3, (World.frozen?_of_block hR7).trans r5.f0, (World.frozen?_of_block hR7).trans r5.f1, (World.frozen?_of_block hR7).trans r5.f2, (World.frozen?_of_block hR7).trans r5.f3⟩
            have BR8 := Lib.hid (bR7.sets (.int .i64 t.kind) (.string t.name) (.int .i64 t.n) (.slice (some ⟨g5, 0, none⟩) t.args.length c5))
            obtain ⟨q0, q1, q2, q3, f0, f1, f2, f3⟩ := bR7
            have H7 := Lib.hid heap7
            have H6 := Lib.hid heap6
            have HB7 := Lib.hid hb7
            have HOWN7 := Lib.hid hown7
            have hs7 : w7.heap.size = w5.heap.size := by rw [hw7, HW6.out]; simp
            have HS7 := Lib.hid hs7
            clear hw7 hput heap6 heap7 hb6 hb7 x5 at6 at7 r5 hR7 hown7 hs7 s3 sp r0 r1 r2 r3 z0 z1 z2 z3 o0 o1 o2 o3
            go_wp2_with fail
            obtain ⟨q0, q1, q2, q3, f0, f1, f2, f3⟩ := BR8.out
            refine bodyPost_ret (v := .tuple #[.agg #[.int .i64 t.kind, .string t.name, .int .i64 t.n, .slice (some ⟨g5, 0, none⟩) t.args.length c5], .bool true]) (by simp [results, Try.results14, go_sem, q0, q1, q2, q3]) rfl ?_
            rw [hE.out]
            refine ⟨⟨.mk t.kind t.name t.n (t.args.set j ty), some ⟨g5, 0, none⟩, c5⟩, by simp [Tv.val, Tm.kind, Tm.name, Tm.n, Tm.args], rfl, ?_, below_sets HB7.out (by omega) _ _ _ _⟩
            have hz8 : w.heap.size + 2 < wd.heap.size := by omega
            refine fresh_row (vs := vs.set j ⟨ty, aY, cY⟩) (n := t.args.length) ?_ (by rw [List.length_set]) (by rw [map_set_t, HVT.out]) HX.out.1 (by omega) (fun W hWb hWs hWa v hv => ?_)
            · have h8 := own_setCell (own_setCell (own_setCell (own_setCell HOWN7.out (p := ⟨w.heap.size + 2, 0, none⟩) hz8 (.int .i64 t.kind)) (p := ⟨w.heap.size + 2, 1, none⟩) hz8 (.string t.name)) (p := ⟨w.heap.size + 2, 2, none⟩) hz8 (.int .i64 t.n)) (p := ⟨w.heap.size + 2, 3, none⟩) hz8 (.slice (some ⟨g5, 0, none⟩) t.args.length c5)
              exact own_lower h8 HDW.out.size
            · rcases List.mem_or_eq_of_mem_set hv with hv | rfl
              · exact (HVO.out v hv).below hWb
              · refine HN.out W hWb ?_ (fun k h1 h2 h3 => ?_)
                · have h5 := HB5.out.size
                  have h7 := HS7.out
                  simp at hWs; omega
                · have hd' := HD.out.size
                  have h5 := HB5.out.size
                  have h7 := HS7.out
                  have e1 := hWa k (by omega) (by simp; omega)
                  rw [e1]
                  have hkR : k ≠ w.heap.size + 2 := by omega
                  rw [Below.heap_setCell _ _ _ _ hkR, Below.heap_setCell _ _ _ _ hkR, Below.heap_setCell _ _ _ _ hkR, Below.heap_setCell _ _ _ _ hkR, H7.out k (by omega), H6.out k (by omega)]
                  exact HB5.out.block k h2
        · have hd := FS.out w4 (.int .i64 ty.kind) (.string ty.name) (.int .i64 ty.n) (.slice aY ty.args.length cY) hn4
          have b8 := (Box.mk b0 b1 b2 b3 g0 g1 g2 g3).sets (.int .i64 ty.kind) (.string ty.name) (.int .i64 ty.n) (.slice aY ty.args.length cY)
          have hN := near_sets (g := w'.heap.size) (by simp) hyo (.int .i64 ty.kind) (.string ty.name) (.int .i64 ty.n) (.slice aY ty.args.length cY)
          have hg8 : w'.heap.size ≤ w'.heap.size := Nat.le_refl _
          obtain ⟨wd, hwd⟩ : ∃ wd, wd = ((((w4.setCell ⟨w'.heap.size, 0, none⟩ (.int .i64 ty.kind)).setCell ⟨w'.heap.size, 1, none⟩ (.string ty.name)).setCell ⟨w'.heap.size, 2, none⟩ (.int .i64 ty.n)).setCell ⟨w'.heap.size, 3, none⟩ (.slice aY ty.args.length cY)) := ⟨_, rfl⟩
          rw [← hwd] at b8 hN hd
          rw [← hwd]
          clear hwd hyo hn4 b0 b1 b2 b3 g0 g1 g2 g3
          cases po with
          | none =>
            have hbR := HBR.out wd (below_next HN0.out hd)
            have HBR2 := Lib.hid (hbR.sets (.int .i64 0) (.string ⟨#[]⟩) (.int .i64 0) (.slice none 0 0))
            obtain ⟨q0, q1, q2, q3, g0, g1, g2, g3⟩ := hbR
            have HEND := Lib.hid (HBW.out.trans (hd.mono HBW.out.size))
            clear hN b8 m0 m1 m2 m3 y0 y1 y2 y3 p3 hcz hd
            go_wp2_with fail
            obtain ⟨q0, q1, q2, q3, g0, g1, g2, g3⟩ := HBR2.out
            refine bodyPost_ret (v := .tuple #[.agg #[.int .i64 0, .string ⟨#[]⟩, .int .i64 0, .slice none 0 0], .bool false]) (by simp [results, Try.results14, go_sem, q0, q1, q2, q3]) rfl ?_
            rw [hE.out]
            exact ⟨zeroV, rfl, rfl, fun _ _ _ _ => zeroV_ok _, below_sets HEND.out (by omega) _ _ _ _⟩
          | some a =>
            obtain rfl : ty = a := HYT.out
            have hdz := below_next HN0.out hd
            have hzd := hdz.size
            have hzw := HZS.out
            have hz' := HN0.out.size
            have bX := HBX.out wd hdz
            have hcd := HCZ.out wd hdz
            have hB0d := HB0W.out.trans (hd.mono HB0W.out.size)
            have hdw : Below w.heap.size w wd := HBW.out.trans (hd.mono HBW.out.size)
            obtain ⟨vs, hvt, hvo, hvc⟩ := rowAt_vs HROW.out
            have hvl : vs.length = t.args.length := by rw [← hvt, List.length_map]
            have hargs : t.args.length ≤ 100000 := by have := partsL_length t.args; have := parts_eq t; omega
            have HVL := Lib.hid (show (rowTv vs).length = t.args.length * 4 by rw [rowTv_length, hvl])
            have HVC := Lib.hid (show ∀ q x, (rowTv vs)[q]? = some x → wd.cell? ((⟨b', o', none⟩ : Addr).add q) = some x from fun q x hq => by
              rw [addr_row]; exact (hB0d.cell (p := ⟨b', o' + q, none⟩) hlt').trans (hvc q x hq))
            have H1 := Lib.hid (rowTv_one' vs)
            have HVT := Lib.hid hvt
            have HVO := Lib.hid hvo
            have HDW := Lib.hid hdw
            have HXD := Lib.hid (fun (V : World) (h : Below wd.heap.size wd V) => bX.below h (by omega))
            have HRD := Lib.hid (fun (V : World) (h : Below wd.heap.size wd V) => HBR.out V (hdz.trans (h.mono hdz.size)))
            have hgl8 : w'.heap.size < wd.heap.size := lt_of_cell b8.c0
            have HB8D := Lib.hid (fun (V : World) (h : Below wd.heap.size wd V) => b8.below h hgl8)
            have HCD := Lib.hid (fun (V : World) (h : Below wd.heap.size wd V) => (h.cell (p := ⟨b, off, none⟩) (by have := hB0d.size; show b < _; omega)).trans hcd)
            have hnb : b ≠ w.heap.size := by have := HB0.out.size; omega
            have HN := Lib.hid hN
            have HD := Lib.hid hd
            obtain ⟨p0, p1, p2, p3, f0, f1, f2, f3⟩ := bX
            have HPOS := Lib.hid (show 0 < 0 + t.args.length by omega)
            have hn1 : 0 + t.args.length ≤ maxLen := by unfold maxLen; omega
            have hn2 : (0 + t.args.length) * 56 ≤ 140737488355328 := by omega
            clear hN b8 hd hdz hcd hB0d hdw hvt hvo hvc m0 m1 m2 m3 y0 y1 y2 y3 hcz
            go_wp2_with (at_builtin; refine wpList_append_own_at _ rfl _ _ 22 rfl wd.heap.size 24 i0 (.agg #[.int .i64 0, .string ⟨#[]⟩, .int .i64 0, .slice none 0 0]) 4 56 Try.underlying22 hi0 hiz0 his0 hib0 rfl (by decide) _ 0 [] rfl (World.ownsRow_nil _ _ _ _) ⟨b', o', none⟩ t.args.length cx (rowTv vs) rfl HVL.out HVC.out H1.out hn1 hn2 (Nat.le_refl _) ?_; intro v5 w5 hown5 hg5 _ _; have hb5 : Below wd.heap.size wd w5 := (Below.refl _ _).grown hg5 (Nat.le_refl _) (fun k e => by cases e); obtain ⟨g5, c5, rfl, hge5, hg5l⟩ := hown5.form HPOS.out; obtain ⟨_, _, _, e3, _, _, _, e7⟩ := HXD.out w5 hb5)
            simp only [Nat.zero_add, List.nil_append] at hown5 ⊢
            obtain ⟨w6, hw6⟩ : ∃ w6, w6 = w5.setCell ⟨w.heap.size, 3, none⟩ (.slice (some ⟨g5, 0, none⟩) t.args.length c5) := ⟨_, rfl⟩
            rw [← hw6]
            have hb5s := hb5.size
            have hown6 : w6.ownsRow wd.heap.size 24 4 (.slice (some ⟨g5, 0, none⟩) t.args.length c5) t.args.length (rowTv vs) := by rw [hw6]; exact own_setCell hown5 (by show w.heap.size < _; omega) _
            have s3 : w6.cell? ⟨w.heap.size, 3, none⟩ = some (.slice (some ⟨g5, 0, none⟩) t.args.length c5) := by rw [hw6]; exact World.cell?_setCell_same _ _ _ e3
            have sp : w6.cell? ⟨b, off, none⟩ = some (.int .i64 j) := by rw [hw6]; exact (cell_aside _ ⟨b, off, none⟩ hnb).trans (HCD.out w5 hb5)
            have hg8w : w'.heap.size ≠ w.heap.size := by omega
            have s8 : Box w6 w'.heap.size (.int .i64 ty.kind) (.string ty.name) (.int .i64 ty.n) (.slice aY ty.args.length cY) := by rw [hw6]; exact (HB8D.out w5 hb5).aside (p := ⟨w.heap.size, 3, none⟩) hg8w _
            have hjv : j < vs.length := by omega
            have hrc := fun (i : Nat) (hi : i < 4) (v : Value) (hv : vs[j].cells[i]? = some v) => (show w6.cell? ⟨g5, j * 4 + i, none⟩ = some v from by
              have h := hown6.cells (g := g5) rfl (j * 4 + i) v (by rw [rowTv_get vs j hjv i hi]; exact hv)
              rwa [addr_row, Nat.zero_add] at h)
            have r0 := hrc 0 (by decide) _ rfl
            have r1 := hrc 1 (by decide) _ rfl
            have r2 := hrc 2 (by decide) _ rfl
            have r3 := hrc 3 (by decide) _ rfl
            rw [Nat.add_zero] at r0
            have hfr : ∀ o, w6.frozen? ⟨g5, o, none⟩ = false := fun o => by
              rcases hown6.2 with ⟨h, _⟩ | ⟨g', cap', cur, hv, _, hgc, _⟩
              · cases h
              · obtain ⟨rfl, rfl⟩ : g5 = g' ∧ c5 = cap' := by cases hv; exact ⟨rfl, rfl⟩
                simp [World.frozen?, hgc]
            have z0 := hfr (j * 4)
            have z1 := hfr (j * 4 + 1)
            have z2 := hfr (j * 4 + 2)
            have z3 := hfr (j * 4 + 3)
            have hg5n : g5 ≠ w.heap.size := by omega
            have hg5b : b ≠ g5 := by have := HB0.out.size; omega
            have hg58 : w'.heap.size ≠ g5 := by omega
            obtain ⟨o0, o1, o2, o3, _, _, _, _⟩ := id s8
            have K6 := Lib.hid (show (w6.cell? ⟨w.heap.size, 3, none⟩ = some (.slice (some ⟨g5, 0, none⟩) t.args.length c5) ∧ w6.cell? ⟨b, off, none⟩ = some (.int .i64 j) ∧ w6.cell? ⟨w'.heap.size, 0, none⟩ = some (.int .i64 ty.kind) ∧ w6.cell? ⟨w'.heap.size, 1, none⟩ = some (.string ty.name) ∧ w6.cell? ⟨w'.heap.size, 2, none⟩ = some (.int .i64 ty.n) ∧ w6.cell? ⟨w'.heap.size, 3, none⟩ = some (.slice aY ty.args.length cY)) from ⟨s3, sp, s8.c0, s8.c1, s8.c2, s8.c3⟩)
            have K7 := Lib.hid (fun (u0 u1 u2 u3 : Value) => (show ((fun W => W.cell? ⟨w.heap.size, 3, none⟩ = some (.slice (some ⟨g5, 0, none⟩) t.args.length c5) ∧ W.cell? ⟨b, off, none⟩ = some (.int .i64 j) ∧ W.cell? ⟨w'.heap.size, 0, none⟩ = some (.int .i64 ty.kind) ∧ W.cell? ⟨w'.heap.size, 1, none⟩ = some (.string ty.name) ∧ W.cell? ⟨w'.heap.size, 2, none⟩ = some (.int .i64 ty.n) ∧ W.cell? ⟨w'.heap.size, 3, none⟩ = some (.slice aY ty.args.length cY)) (((((w6.setCell ⟨g5, j * 4, none⟩ u0).setCell ⟨g5, j * 4 + 1, none⟩ u1).setCell ⟨g5, j * 4 + 2, none⟩ u2).setCell ⟨g5, j * 4 + 3, none⟩ u3).drew)) from by
              have far : ∀ (p : Addr), p.block ≠ g5 → (((((w6.setCell ⟨g5, j * 4, none⟩ u0).setCell ⟨g5, j * 4 + 1, none⟩ u1).setCell ⟨g5, j * 4 + 2, none⟩ u2).setCell ⟨g5, j * 4 + 3, none⟩ u3).drew).cell? p = w6.cell? p := fun p hp => by
                show ((((w6.setCell ⟨g5, j * 4, none⟩ u0).setCell ⟨g5, j * 4 + 1, none⟩ u1).setCell ⟨g5, j * 4 + 2, none⟩ u2).setCell ⟨g5, j * 4 + 3, none⟩ u3).cell? p = _
                rw [cell_aside _ p hp, cell_aside _ p hp, cell_aside _ p hp, cell_aside _ p hp]
              exact ⟨(far _ (fun h => hg5n h.symm)).trans s3, (far _ hg5b).trans sp, (far _ hg58).trans s8.c0, (far _ hg58).trans s8.c1, (far _ hg58).trans s8.c2, (far _ hg58).trans s8.c3⟩))
            have HW6 := Lib.hid hw6
            have HOWN6 := Lib.hid hown6
            have HB5 := Lib.hid hb5
            clear hw6 hown5 hown6 hg5 hrc hfr s8 e3 e7 p0 p1 p2 p3 f0 f1 f2 f3
            have hvn : (vs.length : Int) = (t.args.length : Int) := by omega
            clear hvn
            go_region_held3 (fun W => W.cell? ⟨w.heap.size, 3, none⟩ = some (.slice (some ⟨g5, 0, none⟩) t.args.length c5) ∧ W.cell? ⟨b, off, none⟩ = some (.int .i64 j) ∧ W.cell? ⟨w'.heap.size, 0, none⟩ = some (.int .i64 ty.kind) ∧ W.cell? ⟨w'.heap.size, 1, none⟩ = some (.string ty.name) ∧ W.cell? ⟨w'.heap.size, 2, none⟩ = some (.int .i64 ty.n) ∧ W.cell? ⟨w'.heap.size, 3, none⟩ = some (.slice aY ty.args.length cY)) (first | exact K6.out | exact K7.out _ _ _ _) (fail)
            obtain ⟨w7, hw7⟩ : ∃ w7, w7 = (((((w6.setCell ⟨g5, j * 4, none⟩ (.int .i64 ty.kind)).setCell ⟨g5, j * 4 + 1, none⟩ (.string ty.name)).setCell ⟨g5, j * 4 + 2, none⟩ (.int .i64 ty.n)).setCell ⟨g5, j * 4 + 3, none⟩ (.slice aY ty.args.length cY)).drew) := ⟨_, rfl⟩
            rw [← hw7]
            have hput := own_put HOWN6.out ⟨ty, aY, cY⟩ j hjv
            have hown7 : w7.ownsRow wd.heap.size 24 4 (.slice (some ⟨g5, 0, none⟩) t.args.length c5) t.args.length (rowTv (vs.set j ⟨ty, aY, cY⟩)) := by rw [hw7]; exact hput
            have heap6 : ∀ k, k ≠ w.heap.size → w6.heap[k]? = w5.heap[k]? := fun k hk => by rw [HW6.out]; exact Below.heap_setCell _ _ _ _ hk
            have heap7 : ∀ k, k ≠ g5 → w7.heap[k]? = w6.heap[k]? := fun k hk => by
              rw [hw7]
              show ((((w6.setCell ⟨g5, j * 4, none⟩ (.int .i64 ty.kind)).setCell ⟨g5, j * 4 + 1, none⟩ (.string ty.name)).setCell ⟨g5, j * 4 + 2, none⟩ (.int .i64 ty.n)).setCell ⟨g5, j * 4 + 3, none⟩ (.slice aY ty.args.length cY)).heap[k]? = _
              rw [Below.heap_setCell _ _ _ _ hk, Below.heap_setCell _ _ _ _ hk, Below.heap_setCell _ _ _ _ hk, Below.heap_setCell _ _ _ _ hk]
            have hb6 : Below w.heap.size w w6 := by rw [HW6.out]; exact ((HDW.out.trans (HB5.out.mono HDW.out.size)).setCell (p := ⟨w.heap.size, 3, none⟩) (Nat.le_refl _) _)
            have hb7 : Below w.heap.size w w7 := by rw [hw7]; exact (((((hb6.setCell (p := ⟨g5, j * 4, none⟩) (by show w.heap.size ≤ g5; omega) _).setCell (p := ⟨g5, j * 4 + 1, none⟩) (by show w.heap.size ≤ g5; omega) _).setCell (p := ⟨g5, j * 4 + 2, none⟩) (by show w.heap.size ≤ g5; omega) _).setCell (p := ⟨g5, j * 4 + 3, none⟩) (by show w.heap.size ≤ g5; omega) _).drew)
            have x5 := HXD.out w5 HB5.out
            have at6 : ∀ (o : Nat), o ≠ 3 → w6.cell? ⟨w.heap.size, o, none⟩ = w5.cell? ⟨w.heap.size, o, none⟩ := fun o ho => by rw [HW6.out]; exact cell_off w.heap.size 3 o (fun h => ho h.symm)
            have at7 : ∀ (o : Nat), w7.cell? ⟨w.heap.size, o, none⟩ = w6.cell? ⟨w.heap.size, o, none⟩ := fun o => World.cell?_of_block (heap7 _ (fun h => hg5n h.symm))
            have c0 := (at7 0).trans ((at6 0 (by decide)).trans x5.c0)
            have c1 := (at7 1).trans ((at6 1 (by decide)).trans x5.c1)
            have c2 := (at7 2).trans ((at6 2 (by decide)).trans x5.c2)
            have c3 := (at7 3).trans s3
            have r5 := HRD.out w5 HB5.out
            have hRn : w.heap.size + 2 ≠ g5 := by omega
            have hR7 : w7.heap[w.heap.size + 2]? = w5.heap[w.heap.size + 2]? := (heap7 _ hRn).trans (heap6 _ (by omega))
            have bR7 : Box w7 (w.heap.size + 2) (.int .i64 0) (.string ⟨#[]⟩) (.int .i64 0) (.slice none 0 0) :=
              ⟨(World.cell?_of_block hR7).trans r5.c0, (World.cell?_of_block hR7).trans r5.c1, (World.cell?_of_block hR7).trans r5.c2, (World.cell?_of_block hR7).trans r5.c3, (World.frozen?_of_block hR7).trans r5.f0, (World.frozen?_of_block hR7).trans r5.f1, (World.frozen?_of_block hR7).trans r5.f2, (World.frozen?_of_block hR7).trans r5.f3⟩
            have BR8 := Lib.hid (bR7.sets (.int .i64 t.kind) (.string t.name) (.int .i64 t.n) (.slice (some ⟨g5, 0, none⟩) t.args.length c5))
            obtain ⟨q0, q1, q2, q3, f0, f1, f2, f3⟩ := bR7
            have H7 := Lib.hid heap7
            have H6 := Lib.hid heap6
            have HB7 := Lib.hid hb7
            have HOWN7 := Lib.hid hown7
            have hs7 : w7.heap.size = w5.heap.size := by rw [hw7, HW6.out]; simp
            have HS7 := Lib.hid hs7
            clear hw7 hput heap6 heap7 hb6 hb7 x5 at6 at7 r5 hR7 hown7 hs7 s3 sp r0 r1 r2 r3 z0 z1 z2 z3 o0 o1 o2 o3
            go_wp2_with fail
            obtain ⟨q0, q1, q2, q3, f0, f1, f2, f3⟩ := BR8.out
            refine bodyPost_ret (v := .tuple #[.agg #[.int .i64 t.kind, .string t.name, .int .i64 t.n, .slice (some ⟨g5, 0, none⟩) t.args.length c5], .bool true]) (by simp [results, Try.results14, go_sem, q0, q1, q2, q3]) rfl ?_
            rw [hE.out]
            refine ⟨⟨.mk t.kind t.name t.n (t.args.set j ty), some ⟨g5, 0, none⟩, c5⟩, by simp [Tv.val, Tm.kind, Tm.name, Tm.n, Tm.args], rfl, ?_, below_sets HB7.out (by omega) _ _ _ _⟩
            have hz8 : w.heap.size + 2 < wd.heap.size := by omega
            refine fresh_row (vs := vs.set j ⟨ty, aY, cY⟩) (n := t.args.length) ?_ (by rw [List.length_set]) (by rw [map_set_t, HVT.out]) HX.out.1 (by omega) (fun W hWb hWs hWa v hv => ?_)
            · have h8 := own_setCell (own_setCell (own_setCell (own_setCell HOWN7.out (p := ⟨w.heap.size + 2, 0, none⟩) hz8 (.int .i64 t.kind)) (p := ⟨w.heap.size + 2, 1, none⟩) hz8 (.string t.name)) (p := ⟨w.heap.size + 2, 2, none⟩) hz8 (.int .i64 t.n)) (p := ⟨w.heap.size + 2, 3, none⟩) hz8 (.slice (some ⟨g5, 0, none⟩) t.args.length c5)
              exact own_lower h8 HDW.out.size
            · rcases List.mem_or_eq_of_mem_set hv with hv | rfl
              · exact (HVO.out v hv).below hWb
              · refine HN.out W hWb ?_ (fun k h1 h2 h3 => ?_)
                · have h5 := HB5.out.size
                  have h7 := HS7.out
                  simp at hWs; omega
                · have hd' := HD.out.size
                  have h5 := HB5.out.size
                  have h7 := HS7.out
                  have e1 := hWa k (by omega) (by simp; omega)
                  rw [e1]
                  have hkR : k ≠ w.heap.size + 2 := by omega
                  rw [Below.heap_setCell _ _ _ _ hkR, Below.heap_setCell _ _ _ _ hkR, Below.heap_setCell _ _ _ _ hkR, Below.heap_setCell _ _ _ _ hkR, H7.out k (by omega), H6.out k (by omega)]
                  exact HB5.out.block k h2
end Go.Proofs.Ytniikfihfeledaa
