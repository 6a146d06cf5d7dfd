/-
  All places of a term, each with what stands there, in order: by the program's spots.
-/
import Derived.Test.YtniikfihfeledaaPSpSort
import Derived.Deep.RegionHeld3
namespace Go.Proofs.Ytniikfihfeledaa
open Go.RowKit

theorem one5 (a1 a3 : Value) (k n : Int) (s : ByteArray) (h1 : a1.oneCell' = true := by rfl) (h3 : a3.oneCell' = true := by rfl) : ∀ u ∈ [a1, .int .i64 k, .string s, .int .i64 n, a3], u.oneCell' = true := by
  intro u hu
  simp only [List.mem_cons, List.not_mem_nil, or_false] at hu
  rcases hu with rfl | rfl | rfl | rfl | rfl <;> first | exact h1 | exact h3 | rfl

set_option maxRecDepth 100000 in
set_option maxHeartbeats 4000000 in
theorem pspots_tm (x : Tv) (w0 w : World) (hx : x.ok w0) (hb0 : Below w0.heap.size w0 w) (hp : x.t.parts ≤ 100000) :
    Calls Try.prog 35 #[x.val] w fun e w' => ∃ u, e = .returned u ∧ OwnSp w0 w' w.heap.size u (spT [] x.t) ∧ u.ownBlock ≠ none ∧ Below w.heap.size w w' := by
  obtain ⟨t, a, c⟩ := x
  obtain ⟨i5, hi5, hiz5, his5, hib5⟩ := info_parts spotInfo
  have HX := Lib.hid hx
  have HB0 := Lib.hid hb0
  clear hx hb0
  have hz1 : (w.alloc (.cells #[.int .i64 t.kind, .string t.name, .int .i64 t.n, .slice a t.args.length c] 24)).heap.size = w.heap.size + 1 := by simp
  have hw : Below w.heap.size w ((w.alloc (.cells #[.int .i64 t.kind, .string t.name, .int .i64 t.n, .slice a t.args.length c] 24)).alloc (.cells #[.slice none 0 0, .int .i64 t.kind, .string t.name, .int .i64 t.n, .slice a t.args.length c] 52)) := ((Below.refl _ _).alloc (Nat.le_refl _) _).alloc (by rw [hz1]; omega) _
  have hrow0 : ((w.alloc (.cells #[.int .i64 t.kind, .string t.name, .int .i64 t.n, .slice a t.args.length c] 24)).alloc (.cells #[.slice none 0 0, .int .i64 t.kind, .string t.name, .int .i64 t.n, .slice a t.args.length c] 52)).ownsRow w.heap.size 52 5 (.slice (some ⟨w.heap.size + 1, 0, none⟩) 1 1) 1 (rowSp [⟨[], none, 0, ⟨t, a, c⟩⟩]) := by
    refine ⟨rfl, .inr ⟨w.heap.size + 1, 1, _, rfl, by omega, by have := heap_new (w.alloc (.cells #[.int .i64 t.kind, .string t.name, .int .i64 t.n, .slice a t.args.length c] 24)) (.cells #[.slice none 0 0, .int .i64 t.kind, .string t.name, .int .i64 t.n, .slice a t.args.length c] 52); rwa [hz1] at this, Nat.le_refl _, by unfold maxLen; omega, rfl, ?_⟩⟩
    rw [rowSp_one]; rfl
  have HROW0 := Lib.hid hrow0
  clear hrow0
  simp only [Tv.val] at *
  go_enter Try.func35, Try.ntmps35
  go_wp2_with fail
  go_loopw [3, 4] (fun l n wr => ∃ (k g cap : Nat) (ss : List Sp), l = .slice (some ⟨g, 0, none⟩) ss.length cap ∧ n = .int .i64 k ∧ k ≤ ss.length ∧ ss.length ≤ t.parts ∧ Hid (SpUpto t (ss.map Sp.key) k []) ∧ Hid (∀ s ∈ ss, SpOk w0 wr s) ∧
    Hid (wr.ownsRow w.heap.size 52 5 (.slice (some ⟨g, 0, none⟩) ss.length cap) ss.length (rowSp ss)) ∧ Below w.heap.size w wr) (fun _ n _ => t.parts - (intOf n).toNat)
  case atStart =>
    exact ⟨0, w.heap.size + 1, 1, [⟨[], none, 0, ⟨t, a, c⟩⟩], rfl, rfl, Nat.zero_le _, parts_pos t, Lib.hid (spUpto_start t), Lib.hid (fun s hs => by
      rw [List.mem_singleton] at hs; subst hs; exact ⟨HX.out, At0.nil _⟩), HROW0, hw⟩
  case round =>
    obtain ⟨k, g, cap, ss, rfl, rfl, hk, hsl, HU, HOK, HROW, hbw⟩ := hrel
    by_cases hkl : k < ss.length
    · obtain ⟨y, hy⟩ : ∃ y, ss[k] = y := ⟨_, rfl⟩
      have hym : y ∈ ss := by rw [← hy]; exact List.getElem_mem hkl
      have hyk : ss[k]? = some y := by rw [List.getElem?_eq_getElem hkl, hy]
      have hc4 := own_cell5 (v := .slice y.t.a y.t.t.args.length y.t.c) HROW.out hkl (i := 4) (by decide) (by rw [hy]; rfl)
      have hyo := (HOK.out y hym).1
      have hU2 := spUpto_open HU.out (x := y.key) (by rw [List.getElem?_map, hyk]; rfl)
      obtain ⟨yp, ya, yc, ⟨yt, yta, ytc⟩⟩ := y
      simp only [Sp.key] at hU2 hc4 hyo
      have hk0 : (0 : Int) ≤ (k : Int) := by omega
      have hk1 : (k : Int) < (ss.length : Int) := by omega
      have HU2 := Lib.hid hU2
      have HYO := Lib.hid hyo
      have HYK := Lib.hid hyk
      clear hy hym hU2 hyo hyk HU
      go_wp2_with fail
      go_loopw [3, 23] (fun l i wr2 => ∃ (j g2 cap2 : Nat) (ss2 : List Sp), l = .slice (some ⟨g2, 0, none⟩) ss2.length cap2 ∧ i = .int .i64 j ∧ j ≤ yt.args.length ∧ k < ss2.length ∧ Hid (ss2[k]? = some ⟨yp, ya, yc, ⟨yt, yta, ytc⟩⟩) ∧ Hid (SpUpto t (ss2.map Sp.key) (k + 1) (spL yp j (yt.args.drop j))) ∧ Hid (∀ s ∈ ss2, SpOk w0 wr2 s) ∧
        Hid (wr2.ownsRow w.heap.size 52 5 (.slice (some ⟨g2, 0, none⟩) ss2.length cap2) ss2.length (rowSp ss2)) ∧ Below w.heap.size w wr2) (fun _ i _ => yt.args.length - (intOf i).toNat)
      case atStart => exact ⟨0, g, cap, ss, rfl, rfl, Nat.zero_le _, hkl, HYK, HU2, HOK, HROW, hbw⟩
      case round =>
        obtain ⟨j, g2, cap2, ss2, rfl, rfl, hj, hkl2, HYK2, HU3, HOK2, HROW2, hbw2⟩ := hrel
        clear HU2 HOK HROW HYK hc4 hbw hkl hk1 hsl hk
        by_cases hjl : j < yt.args.length
        · have hbs := hbw2.size
          obtain ⟨b', o', rfl, hlt', hrow⟩ := HYO.out.2.2.resolve_left (by intro h; simp only at h; rw [h] at hjl; simp at hjl)
          obtain ⟨z, hzt, hzo, hz⟩ := tmAt_tv (rowAt_get hrow hjl)
          have hB1 := HB0.out.trans (hbw2.mono HB0.out.size)
          obtain ⟨m0, m1, m2, m3⟩ : TvAt wr b' (o' + j * 4) z := ⟨(hB1.cell (p := ⟨b', o' + j * 4, none⟩) hlt').trans hz.c0, (hB1.cell (p := ⟨b', o' + j * 4 + 1, none⟩) hlt').trans hz.c1, (hB1.cell (p := ⟨b', o' + j * 4 + 2, none⟩) hlt').trans hz.c2, (hB1.cell (p := ⟨b', o' + j * 4 + 3, none⟩) hlt').trans hz.c3⟩
          have hU4 := spUpto_kid HU3.out (by rw [List.length_map]; omega) hjl
          have hsl2 := spUpto_len hU4 (by rw [List.length_append, List.length_map]; omega)
          rw [List.length_append, List.length_map, List.length_singleton] at hsl2
          have HU4 := Lib.hid hU4
          have HZ := Lib.hid (And.intro hzt hzo)
          have hj0 : (0 : Int) ≤ (j : Int) := by omega
          have hj1 : (j : Int) < (yt.args.length : Int) := by omega
          obtain ⟨zt, za, zc⟩ := z
          simp only at m0 m1 m2 m3
          have hja := HYO.out.2.1
          have hpl := spUpto_short HU3.out (k := k) (by rw [List.getElem?_map, HYK2.out]; rfl) (by omega)
          simp only [Sp.key] at hpl hja
          clear hrow hz hzt hzo hU4 hB1 HU3
          go_wp2_with fail
          obtain ⟨wz, hwz⟩ : ∃ wz, wz = wr.alloc (.cells #[.int .i64 zt.kind, .string zt.name, .int .i64 zt.n, .slice za zt.args.length zc] 24) := ⟨_, rfl⟩
          rw [← hwz]
          have hBz : Below wr.heap.size wr wz := by rw [hwz]; exact (Below.refl _ _).alloc (Nat.le_refl _) _
          have hzs : wz.heap.size = wr.heap.size + 1 := by rw [hwz]; simp
          have bT := box_new wr (.int .i64 zt.kind) (.string zt.name) (.int .i64 zt.n) (.slice za zt.args.length zc) 24
          rw [← hwz] at bT
          clear hwz
          have hgl := (HROW2.out.lt g2 rfl)
          have hyat : ss2[k] = ⟨yp, ya, yc, ⟨yt, some ⟨b', o', none⟩, ytc⟩⟩ := by have h := HYK2.out; rw [List.getElem?_eq_getElem hkl2] at h; exact Option.some.inj h
          have hcz : wz.cell? ⟨g2, k * 5, none⟩ = some (.slice ya yp.length yc) := (hBz.cell (p := ⟨g2, k * 5, none⟩) hgl.2).trans (own_cell5 (i := 0) HROW2.out hkl2 (by decide) (by rw [hyat]; rfl))
          have hAt := (HOK2.out _ (List.getElem_mem hkl2)).2
          rw [hyat] at hAt
          simp only [Sp.at_] at hAt
          have hKEEP : ∀ W, Below wz.heap.size wz W → (W.cell? ⟨g2, k * 5, none⟩ = some (.slice ya yp.length yc) ∧ W.cell? ⟨wr.heap.size, 0, none⟩ = some (.int .i64 zt.kind) ∧ W.cell? ⟨wr.heap.size, 1, none⟩ = some (.string zt.name) ∧ W.cell? ⟨wr.heap.size, 2, none⟩ = some (.int .i64 zt.n) ∧ W.cell? ⟨wr.heap.size, 3, none⟩ = some (.slice za zt.args.length zc)) := fun W h =>
            ⟨(h.cell (p := ⟨g2, k * 5, none⟩) (by show g2 < _; omega)).trans hcz, (h.cell (p := ⟨wr.heap.size, 0, none⟩) (by show wr.heap.size < _; omega)).trans bT.c0, (h.cell (p := ⟨wr.heap.size, 1, none⟩) (by show wr.heap.size < _; omega)).trans bT.c1, (h.cell (p := ⟨wr.heap.size, 2, none⟩) (by show wr.heap.size < _; omega)).trans bT.c2, (h.cell (p := ⟨wr.heap.size, 3, none⟩) (by show wr.heap.size < _; omega)).trans bT.c3⟩
          have KEEP := Lib.hid hKEEP
          have KEEP4 := Lib.hid (fun (V W : World) (hg : V.grownBy W (some g2)) (hB : Below wz.heap.size wz V) (hst : ∀ j, j < ss2.length * 5 → W.cell? ⟨g2, j, none⟩ = V.cell? ⟨g2, j, none⟩) => (show (W.cell? ⟨g2, k * 5, none⟩ = some (.slice ya yp.length yc) ∧ W.cell? ⟨wr.heap.size, 0, none⟩ = some (.int .i64 zt.kind) ∧ W.cell? ⟨wr.heap.size, 1, none⟩ = some (.string zt.name) ∧ W.cell? ⟨wr.heap.size, 2, none⟩ = some (.int .i64 zt.n) ∧ W.cell? ⟨wr.heap.size, 3, none⟩ = some (.slice za zt.args.length zc)) from by
            obtain ⟨e0, e1, e2, e3, e4⟩ := hKEEP V hB
            have hV := hB.size
            exact ⟨(hst _ (by omega)).trans e0, (hg.cell_far ⟨wr.heap.size, 0, none⟩ (by show wr.heap.size < _; omega) (by simp; omega)).trans e1, (hg.cell_far ⟨wr.heap.size, 1, none⟩ (by show wr.heap.size < _; omega) (by simp; omega)).trans e2, (hg.cell_far ⟨wr.heap.size, 2, none⟩ (by show wr.heap.size < _; omega) (by simp; omega)).trans e3, (hg.cell_far ⟨wr.heap.size, 3, none⟩ (by show wr.heap.size < _; omega) (by simp; omega)).trans e4⟩))
          have A0 := Lib.hid (show Below wz.heap.size wz wz.drew from (Below.refl _ _).drew)
          have A1 := Lib.hid (fun o => (show Below wz.heap.size wz (wz.alloc o).drew from ((Below.refl _ _).alloc (Nat.le_refl _) o).drew))
          have A2 := Lib.hid (fun o o' => (show Below wz.heap.size wz ((wz.alloc o).alloc o').drew from (((Below.refl _ _).alloc (Nat.le_refl _) o).alloc (by simp) o').drew))
          have A3 := Lib.hid (fun (W : World) o (h : Below wz.heap.size wz W) => (show Below wz.heap.size wz (W.alloc o) from h.alloc h.size o))
          have hsA : (wz.alloc (.cells #[.int .i64 j] 3)).heap.size = wz.heap.size + 1 := by simp
          have hsB : ((wz.alloc (.cells #[.int .i64 j] 3)).alloc (.cells #[.slice ya yp.length yc, .slice (some ⟨wz.heap.size, 0, none⟩) 1 1] 25)).heap.size = wz.heap.size + 2 := by simp
          have hcA : ((wz.alloc (.cells #[.int .i64 j] 3)).alloc (.cells #[.slice ya yp.length yc, .slice (some ⟨wz.heap.size, 0, none⟩) 1 1] 25)).cell? ⟨wz.heap.size, 0, none⟩ = some (.int .i64 j) :=
            (((Below.refl (wz.alloc (.cells #[.int .i64 j] 3)).heap.size _).alloc (Nat.le_refl _) _).cell (p := ⟨wz.heap.size, 0, none⟩) (by rw [hsA]; show wz.heap.size < _; omega)).trans (World.cell?_alloc_mark wz #[.int .i64 j] 3 (0, 0) 0)
          have hcB := World.cell?_alloc_mark (wz.alloc (.cells #[.int .i64 j] 3)) #[.slice ya yp.length yc, .slice (some ⟨wz.heap.size, 0, none⟩) 1 1] 25 (0, 0)
          rw [hsA] at hcB
          have hCT := (pconcat_any (.slice ya yp.length yc) yp j wz.heap.size (wz.heap.size + 1) ((wz.alloc (.cells #[.int .i64 j] 3)).alloc (.cells #[.slice ya yp.length yc, .slice (some ⟨wz.heap.size, 0, none⟩) 1 1] 25)).drew
            (hAt.below (below_next hBz (A2.out _ _))) (by omega) (by omega) (by rw [World.size_drew, hsB]; omega) (by rw [World.size_drew, hsB]; omega) (by simp [hcA]) (by simp [hcB]) (by simp [hcB])).mono (fun e w' hh => (show ∃ g9 c9, e = .returned (.slice (some ⟨g9, 0, none⟩) (yp.length + 1) c9) ∧ At0 w' (.slice (some ⟨g9, 0, none⟩) (yp.length + 1) c9) (yp ++ [(j : Int)]) ∧ Below wz.heap.size wz w' from by
              obtain ⟨u, rfl, hu, hun, hub⟩ := hh
              obtain ⟨g9, c9, rfl, _⟩ := own_form hu (by omega)
              refine ⟨g9, c9, rfl, ⟨by rw [List.length_append]; exact own_lower hu (Nat.zero_le _), fun n hn => ?_⟩, below_next (A2.out _ _) hub⟩
              rcases List.mem_append.1 hn with hn | hn
              · exact hAt.2 n hn
              · rw [List.mem_singleton] at hn; omega))
          have CT := Lib.hid hCT
          have HOWN := Lib.hid (fun (W : World) (h : Below wz.heap.size wz W) => own_below HROW2.out (below_next hBz h))
          have HM1 : ss2.length + 1 ≤ maxLen := by unfold maxLen; omega
          have HM2 : (ss2.length + 1) * 80 ≤ 140737488355328 := by omega
          have HBASE := Lib.hid (fun (W : World) o (h : Below wz.heap.size wz W) => (show w.heap.size ≤ (W.alloc o).heap.size from by have := h.size; simp; omega))
          have HFIN := Lib.hid (And.intro hbw2 (And.intro hBz hgl))
          have hj5 : (k : Int) < (ss2.length : Int) := by omega
          have hk0' : (0 : Int) ≤ (k : Int) := by omega
          have hsl3 : ss2.length + 1 ≤ t.parts := by omega
          have HZS := Lib.hid hzs
          clear hCT hcA hcB hsA hsB hKEEP hAt hyat hcz bT m0 m1 m2 m3 hBz hbw2 hgl hzs
          have h0d := A0.out
          go_region_held3 (fun W => W.cell? ⟨g2, k * 5, none⟩ = some (.slice ya yp.length yc) ∧ W.cell? ⟨wr.heap.size, 0, none⟩ = some (.int .i64 zt.kind) ∧ W.cell? ⟨wr.heap.size, 1, none⟩ = some (.string zt.name) ∧ W.cell? ⟨wr.heap.size, 2, none⟩ = some (.int .i64 zt.n) ∧ W.cell? ⟨wr.heap.size, 3, none⟩ = some (.slice za zt.args.length zc)) (first | exact hS4 | (refine KEEP.out _ ?_; first | with_reducible exact A0.out | with_reducible exact A1.out _ | with_reducible exact A2.out _ _ | with_reducible assumption | with_reducible exact A3.out _ _ (by with_reducible assumption)))
            ((first
              | (go_at_call 44; refine CT.out.mono ?_; rintro e w' ⟨g9, c9, rfl, hat9, hn⟩)
              | (refine step_append_stays rfl _ _ 49 rfl w.heap.size 52 i5 (.agg #[.slice none 0 0, .int .i64 0, .string ⟨#[]⟩, .int .i64 0, .slice none 0 0]) 5 80 Try.underlying49 hi5 hiz5 his5 hib5 rfl (by decide) g2 cap2 ss2.length (rowSp ss2) rfl (HOWN.out _ (A3.out _ _ (by assumption))) ⟨w'.heap.size, 0, none⟩ 1 1 [.slice (some ⟨g9, 0, none⟩) (yp.length + 1) c9, .int .i64 zt.kind, .string zt.name, .int .i64 zt.n, .slice za zt.args.length zc] rfl rfl (World.news_of_block (heap_new _ _)) (one5 _ _ _ _ _) (by decide) HM1 HM2 (HBASE.out _ _ (by assumption)) _ rfl ?_; intro g4 cap4 w4 hown4 hg4 hat4 hlt4 hst4; have hS4 := KEEP4.out _ _ hg4 (A3.out _ _ hn) hst4)))
          go_wp2_with fail
          go_roundw
          case rel =>
            have hA := A3.out w' (.cells #[.slice (some ⟨g9, 0, none⟩) (yp.length + 1) c9, .int .i64 zt.kind, .string zt.name, .int .i64 zt.n, .slice za zt.args.length zc] 52) hn
            have hAr := below_next HFIN.out.2.1 hA
            have hrow5 := own_below HROW2.out hAr
            have hA' : Below w'.heap.size w' (w'.alloc (.cells #[.slice (some ⟨g9, 0, none⟩) (yp.length + 1) c9, .int .i64 zt.kind, .string zt.name, .int .i64 zt.n, .slice za zt.args.length zc] 52)) := (Below.refl _ _).alloc (Nat.le_refl _) _
            have hb4 : Below w.heap.size w w4 := (HFIN.out.1.trans (hAr.mono hbs)).grown hg4 (by have := hAr.size; omega) (fun y e => by cases e; exact HFIN.out.2.2.1)
            refine ⟨j + 1, g4, cap4, ss2 ++ [⟨yp ++ [(j : Int)], some ⟨g9, 0, none⟩, c9, ⟨zt, za, zc⟩⟩], by rw [List.length_append]; rfl, by go_num, by omega, by rw [List.length_append]; omega, Lib.hid (by rw [List.getElem?_append_left hkl2]; exact HYK2.out), Lib.hid ?_, Lib.hid (fun s hs => ?_), Lib.hid ?_, hb4⟩
            · have h1 := HU4.out
              rw [List.map_append]
              have e : [(⟨yp ++ [(j : Int)], some ⟨g9, 0, none⟩, c9, ⟨zt, za, zc⟩⟩ : Sp)].map Sp.key = [(yp ++ [(j : Int)], yt.args[j])] := by
                rw [List.map_cons, List.map_nil]
                unfold Sp.key
                rw [← HZ.out.1]
              rw [e]; exact h1
            · rcases List.mem_append.1 hs with hs | hs
              · exact ((HOK2.out s hs).below hAr).kept hrow5 hg4
              · rw [List.mem_singleton] at hs
                subst hs
                have h9 : At0 w' (Sp.at_ ⟨yp ++ [(j : Int)], some ⟨g9, 0, none⟩, c9, ⟨zt, za, zc⟩⟩) (yp ++ [(j : Int)]) := by unfold Sp.at_; rw [List.length_append]; exact hat9
                exact (SpOk.below (w := w') ⟨HZ.out.2, h9⟩ hA').kept hrow5 hg4
            · rw [List.length_append, rowSp_append, rowSp_one]
              have e : (Sp.cells ⟨yp ++ [(j : Int)], some ⟨g9, 0, none⟩, c9, ⟨zt, za, zc⟩⟩) = [.slice (some ⟨g9, 0, none⟩) (yp.length + 1) c9, .int .i64 zt.kind, .string zt.name, .int .i64 zt.n, .slice za zt.args.length zc] := by unfold Sp.cells; rw [List.length_append]; rfl
              rw [e]; exact hown4
          case measure => simp [intOf]; omega
        · have hje : j = yt.args.length := by omega
          have hjd : decide ((j : Int) < (yt.args.length : Int)) = false := decide_eq_false (by omega)
          have hjl1 : yt.args.length ≤ j := by omega
          have hU5 : SpUpto t (ss2.map Sp.key) (k + 1) [] := by
            have h := HU3.out
            rw [List.drop_eq_nil_of_le hjl1, spL_end] at h
            exact h
          have hlp := spUpto_len hU5 (by rw [List.length_map]; omega)
          rw [List.length_map, List.length_nil] at hlp
          have HU5 := Lib.hid hU5
          have hk5 : (k : Int) ≤ 100000 := by omega
          clear hje hU5
          go_wp2_with fail
          go_roundw
          case rel => exact ⟨k + 1, g2, cap2, ss2, rfl, by go_num, by omega, by omega, HU5, HOK2, HROW2, hbw2⟩
          case measure => simp [intOf]; omega
    · have hke : k = ss.length := by omega
      have hkd : decide ((k : Int) < (ss.length : Int)) = false := decide_eq_false (by omega)
      have hkl1 : ss.length ≤ k := by omega
      have hPM : (ss.map Sp.key).Perm (spT [] t) := spUpto_end (by have h := HU.out; rw [hke] at h; rw [List.length_map]; exact h)
      have HPM := Lib.hid hPM
      clear hke hPM HU
      have HL := Lib.hid hsl
      have hsl2 : ss.length ≤ 100000 := by omega
      have hbs := hbw.size
      have S := Lib.hid (spsort_any w0 wr w.heap.size g cap ss t HPM.out HOK.out hsl2 hbs HROW.out)
      have HBW := Lib.hid hbw
      clear hbw
      go_wp2_with fail
      refine S.out.mono ?_; rintro e w2 ⟨rfl, hown, hb2⟩
      have HO := Lib.hid hown
      have HB2 := Lib.hid hb2
      clear hown hb2
      go_wp2_with fail
      go_ret
      exact ⟨_, rfl, HO.out, by simp [Value.ownBlock], HBW.out.trans HB2.out⟩
end Go.Proofs.Ytniikfihfeledaa
