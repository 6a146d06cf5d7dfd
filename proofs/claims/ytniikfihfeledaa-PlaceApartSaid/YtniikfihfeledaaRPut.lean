/-
  A term with another one at a place, by the reference of layer 4: put, where there is such a place; and Put.
-/
import Derived.Test.YtniikfihfeledaaFresh
import Derived.Test.YtniikfihfeledaaStays
import Derived.Test.YtniikfihfeledaaFunTm
import Derived.Maps.AppendAt
import Derived.Deep.RegionHeld3
import Derived.BigQuiet
namespace Go.Proofs.Ytniikfihfeledaa
open Go.RowKit

/-- Where terms of a row that grows stand: what the call was handed, and all that it has made, but for the row itself. -/
def Beside (w0 w wr : World) (o : Value) (y : Tv) : Prop := ∀ W, Below w0.heap.size w0 W → wr.heap.size ≤ W.heap.size → (∀ b, w.heap.size ≤ b → b < wr.heap.size → some b ≠ o.ownBlock → W.heap[b]? = wr.heap[b]?) → y.ok W
theorem Beside.below {w0 w wr w' : World} {o : Value} {y : Tv} (h : Beside w0 w wr o y) (hb : Below wr.heap.size wr w') : Beside w0 w w' o y := fun W h1 h2 h3 =>
  h W h1 (Nat.le_trans hb.size h2) (fun b b1 b2 b3 => by rw [h3 b b1 (Nat.lt_of_lt_of_le b2 hb.size) b3]; exact hb.block b b2)
theorem Beside.grown {w0 w wr w' : World} {o o' : Value} {y : Tv} (h : Beside w0 w wr o y) (hg : wr.grownBy w' o.ownBlock) (hat : o'.ownBlock = o.ownBlock ∨ o'.ownBlock = some wr.heap.size) : Beside w0 w w' o' y := fun W h1 h2 h3 =>
  h W h1 (Nat.le_trans hg.size h2) (fun b b1 b2 b3 => by
    rw [h3 b b1 (Nat.lt_of_lt_of_le b2 hg.size) (by
      rcases hat with e | e
      · rw [e]; exact b3
      · rw [e]; intro he; injection he with he; omega)]
    exact hg.block b b2 b3)
theorem beside_old {w0 w wr : World} {o : Value} {y : Tv} (h : y.ok w0) : Beside w0 w wr o y := fun _ hb _ _ => h.below hb
/-- What an inner call has made, beside a row that lay before. -/
theorem beside_fresh {w0 w ws wr : World} {o : Value} {y : Tv} (h : Fresh w0 ws wr y) (hs : w.heap.size ≤ ws.heap.size) (ho : ∀ g, o.ownBlock = some g → g < ws.heap.size) : Beside w0 w wr o y := fun W h1 h2 h3 =>
  h W h1 h2 (fun b b1 b2 => h3 b (by omega) b2 (fun e => by have := ho b e.symm; omega))
theorem beside_near {w0 w wd : World} {g : Nat} {o : Value} {z : Tv} (h : Near w0 g wd g z) (hs : w.heap.size ≤ g) (ho : ∀ k, o.ownBlock = some k → k < g) : Beside w0 w wd o z := fun W h1 h2 h3 =>
  h W h1 h2 (fun b b1 b2 _ => h3 b (by omega) b2 (fun e => by have := ho b e.symm; omega))
/-- The row of a put, as far as it goes. -/
theorem set_take_lt {l : List Tm} {n q : Nat} {a : Tm} (h : q ≤ n) : (l.set n a).take q = l.take q := by
  apply List.ext_getElem?
  intro i
  rw [List.getElem?_take, List.getElem?_take]
  split
  · rw [List.getElem?_set_ne (by omega)]
  · rfl
theorem set_take_succ {l : List Tm} {n q : Nat} {a : Tm} (hq : q < l.length) : (l.set n a).take (q + 1) = (l.set n a).take q ++ [if n = q then a else l[q]] := by
  rw [List.take_succ_eq_append_getElem (by rw [List.length_set]; exact hq)]
  congr 2
  rw [List.getElem_set]

set_option maxRecDepth 100000 in
set_option maxHeartbeats 4000000 in
theorem rput_tm (w0 : World) : ∀ (ps : List Int) (x y : Tv) (v : Value) (w : World) (c0 : Tm), x.ok w0 → y.ok w0 → Nums w0 v ps → Below w0.heap.size w0 w → x.t.parts ≤ 100000 → putO x.t ps y.t = some c0 →
    Calls Try.prog 34 #[x.val, v, y.val] w fun e w' => ∃ z : Tv, e = .returned z.val ∧ z.t = c0 ∧ Fresh w0 w w' z ∧ Below w.heap.size w w' := by
  intro ps
  induction ps with
  | nil =>
    intro x y v w c0 hx hy hv hb0 _ hput
    obtain ⟨a, c, rfl, _, _, _, _⟩ := hv
    obtain ⟨t, ax, cx⟩ := x
    obtain ⟨u, ay, cy⟩ := y
    rw [putO_nil] at hput
    obtain rfl : u = c0 := Option.some.inj hput
    have HY := Lib.hid hy
    simp only [Tv.val, List.length_nil] at *
    clear hx hy hb0 hput
    go_enter Try.func34, Try.ntmps34
    go_wp2_with fail
    refine bodyPost_ret (v := .agg #[.int .i64 u.kind, .string u.name, .int .i64 u.n, .slice ay u.args.length cy]) (by simp [results, Try.results34, go_sem]) rfl ?_
    have hB : ∀ o1 o2 o3, Below w.heap.size w (((w.alloc o1).alloc o2).alloc o3) := fun o1 o2 o3 => (((Below.refl _ _).alloc (Nat.le_refl _) _).alloc (by simp) _).alloc (by simp; omega) _
    exact ⟨⟨u, ay, cy⟩, rfl, rfl, fresh_old HY.out, hB _ _ _⟩
  | cons i r ih =>
    intro x y v w c0 hx hy hv hb0 hpp hput
    have HV := Lib.hid hv
    obtain ⟨a, c, rfl, hlc, hcm, hbd, h⟩ := hv
    obtain ⟨b, off, rfl, hlt, hc⟩ := h.resolve_left (by simp)
    have hc0 : w0.cell? ⟨b, off, none⟩ = some (.int .i64 i) := hc 0 i rfl
    clear hc h
    obtain ⟨t, ax, cx⟩ := x
    obtain ⟨u, ay, cy⟩ := y
    obtain ⟨n, hnl, ca, rfl, hpa, rfl⟩ := putO_some hput
    clear hput
    simp only at hnl hpa hpp ⊢
    have hB3 : ∀ o1 o2 o3, Below w.heap.size w (((w.alloc o1).alloc o2).alloc o3) := fun o1 o2 o3 => (((Below.refl _ _).alloc (Nat.le_refl _) _).alloc (by simp) _).alloc (by simp; omega) _
    obtain ⟨wz, hwz⟩ : ∃ wz, wz = (((w.alloc (.cells #[.int .i64 t.kind, .string t.name, .int .i64 t.n, .slice ax t.args.length cx] 24)).alloc (.cells #[.int .i64 u.kind, .string u.name, .int .i64 u.n, .slice ay u.args.length cy] 24)).alloc (.cells #[.int .i64 0, .string ⟨#[]⟩, .int .i64 0, .slice none 0 0] 24)) := ⟨_, rfl⟩
    have hzs : wz.heap.size = w.heap.size + 3 := by rw [hwz]; simp
    have hBz : Below w.heap.size w wz := by rw [hwz]; exact hB3 _ _ _
    have bX : Box wz w.heap.size (.int .i64 t.kind) (.string t.name) (.int .i64 t.n) (.slice ax t.args.length cx) := by
      rw [hwz]
      exact (box_new w _ _ _ _ _).below (((Below.refl _ _).alloc (Nat.le_refl _) _).alloc (by simp) _) (by simp)
    have bY : Box wz (w.heap.size + 1) (.int .i64 u.kind) (.string u.name) (.int .i64 u.n) (.slice ay u.args.length cy) := by
      have h1 := (box_new (w.alloc (.cells #[.int .i64 t.kind, .string t.name, .int .i64 t.n, .slice ax t.args.length cx] 24)) (.int .i64 u.kind) (.string u.name) (.int .i64 u.n) (.slice ay u.args.length cy) 24).below ((Below.refl _ _).alloc (Nat.le_refl _) (.cells #[.int .i64 0, .string ⟨#[]⟩, .int .i64 0, .slice none 0 0] 24)) (by simp)
      rw [hwz]; simpa using h1
    have bR : Box wz (w.heap.size + 2) (.int .i64 0) (.string ⟨#[]⟩) (.int .i64 0) (.slice none 0 0) := by
      have h1 := box_new ((w.alloc (.cells #[.int .i64 t.kind, .string t.name, .int .i64 t.n, .slice ax t.args.length cx] 24)).alloc (.cells #[.int .i64 u.kind, .string u.name, .int .i64 u.n, .slice ay u.args.length cy] 24)) (.int .i64 0) (.string ⟨#[]⟩) (.int .i64 0) (.slice none 0 0) 24
      rw [hwz]; simpa using h1
    have hB0z : Below w0.heap.size w0 wz := hb0.trans (hBz.mono hb0.size)
    have hcz := (hB0z.cell (p := ⟨b, off, none⟩) hlt).trans hc0
    have hltz : b < wz.heap.size := Nat.lt_of_lt_of_le hlt hB0z.size
    obtain ⟨b', o', rfl, hlt', hrow⟩ := hx.2.2.resolve_left (by intro h; simp only at h; rw [h] at hnl; simp at hnl)
    have hlen1 : ((r.length + 1 : Nat) == 0) = false := by simp
    have hlen2 : (((r.length + 1 : Nat) : Int) == 0) = false := by rw [beq_eq_false_iff_ne]; omega
    have hlen3 : (0 : Int) < ((r.length + 1 : Nat) : Int) := by omega
    have hargs : t.args.length ≤ 100000 := by have := partsL_length t.args; have := parts_eq t; omega
    obtain ⟨i0, hi0, hiz0, his0, hib0⟩ := info_parts termInfo
    have HX := Lib.hid hx
    have HY := Lib.hid hy
    have HROW := Lib.hid hrow
    have HB0 := Lib.hid hb0
    have HB0Z := Lib.hid hB0z
    have HBZ := Lib.hid hBz
    have HZS := Lib.hid hzs
    have HBX := Lib.hid (fun (W : World) (h : Below wz.heap.size wz W) => bX.below h (by omega))
    have HBY := Lib.hid (fun (W : World) (h : Below wz.heap.size wz W) => bY.below h (by omega))
    have HBR := Lib.hid (fun (W : World) (h : Below wz.heap.size wz W) => bR.below h (by omega))
    have HCZ := Lib.hid (fun (W : World) (h : Below wz.heap.size wz W) => (h.cell (p := ⟨b, off, none⟩) hltz).trans hcz)
    have HPA := Lib.hid hpa
    have HWZ := Lib.hid hwz
    have HIH := Lib.hid ih
    have hPZ : t.args[n].parts ≤ 100000 := by have := parts_arg t hnl; omega
    have HPZ := Lib.hid hPZ
    have E0 : Below wz.heap.size wz wz := Below.refl _ _
    have EE := Lib.hid E0
    obtain ⟨p0, p1, p2, p3, _, _, _, _⟩ := HBX.out wz E0
    clear bX bY bR hcz hB0z hBz hzs hx hy hb0 ih hc0 hB3 hbd hpa hrow hPZ E0
    simp only [Tv.val, List.length_cons] at *
    go_enter Try.func34, Try.ntmps34
    go_wp2_with fail
    rw [← HWZ.out]
    clear hwz
    go_loopw [7, 17] (fun o k wr => ∃ (q : Nat) (vs : List Tv), q ≤ t.args.length ∧ k = .int .i64 q ∧ Hid (vs.map Tv.t = (t.args.set n ca).take q) ∧ vs.length = q ∧ Hid (∀ z ∈ vs, Beside w0 wz wr o z) ∧ Hid (wr.ownsRow wz.heap.size 24 4 o q (rowTv vs)) ∧ Below wz.heap.size wz wr) (fun _ k _ => t.args.length - (intOf k).toNat)
    case atStart => exact ⟨0, [], Nat.zero_le _, rfl, Lib.hid (by simp), rfl, Lib.hid (fun _ h => nomatch h), Lib.hid (World.ownsRow_nil _ _ _ _), EE.out⟩
    case round =>
      obtain ⟨q, vs, hq, rfl, HVT, hvl, HVB, HOWN, hbw⟩ := hrel
      by_cases hql : q < t.args.length
      · obtain ⟨z, hzt, hzo, hz⟩ := tmAt_tv (rowAt_get HROW.out hql)
        have hB0w := HB0Z.out.trans (hbw.mono HB0Z.out.size)
        obtain ⟨m0, m1, m2, m3⟩ : TvAt wr b' (o' + q * 4) z := ⟨(hB0w.cell (p := ⟨b', o' + q * 4, none⟩) hlt').trans hz.c0, (hB0w.cell (p := ⟨b', o' + q * 4 + 1, none⟩) hlt').trans hz.c1, (hB0w.cell (p := ⟨b', o' + q * 4 + 2, none⟩) hlt').trans hz.c2, (hB0w.cell (p := ⟨b', o' + q * 4 + 3, none⟩) hlt').trans hz.c3⟩
        obtain ⟨zt, za, zc⟩ := z
        simp only at hzt hzo m0 m1 m2 m3
        subst hzt
        have hcw := HCZ.out wr hbw
        have hbt := box_new wr (.int .i64 t.args[q].kind) (.string t.args[q].name) (.int .i64 t.args[q].n) (.slice za t.args[q].args.length zc) 24
        have hBt : Below wr.heap.size wr (wr.alloc (.cells #[.int .i64 t.args[q].kind, .string t.args[q].name, .int .i64 t.args[q].n, .slice za t.args[q].args.length zc] 24)) := (Below.refl _ _).alloc (Nat.le_refl _) _
        have hbs : (wr.alloc (.cells #[.int .i64 t.args[q].kind, .string t.args[q].name, .int .i64 t.args[q].n, .slice za t.args[q].args.length zc] 24)).heap.size = wr.heap.size + 1 := by simp
        have hq0 : (0 : Int) ≤ (q : Int) := by omega
        have hq1 : (q : Int) < (t.args.length : Int) := by omega
        have HTSQ := Lib.hid (set_take_succ (n := n) (a := ca) hql)
        obtain ⟨wt, hwt⟩ : ∃ wt, wt = wr.alloc (.cells #[.int .i64 t.args[q].kind, .string t.args[q].name, .int .i64 t.args[q].n, .slice za t.args[q].args.length zc] 24) := ⟨_, rfl⟩
        rw [← hwt] at hbt hBt hbs
        have hObl := fun (k : Nat) (e : u7.ownBlock = some k) => (HOWN.out.lt k e).2
        have hws : wz.heap.size ≤ wr.heap.size := hbw.size
        have HWT := Lib.hid hwt
        have hcw2 := HCZ.out wt (below_next hbw hBt)
        rw [hwt] at hcw2
        by_cases hqn : q = n
        · subst hqn
          have hd : ((q : Int) == (q : Int)) = true := by simp
          have HYT := Lib.hid (fun (W : World) (h : Below wt.heap.size wt W) => HBY.out W (below_next hbw (below_next hBt h)))
          have hT0 : Below w0.heap.size w0 wt := hB0w.trans (hBt.mono hB0w.size)
          have hCT := fun (aa : Option Addr) (haa : r ≠ [] → aa = some ⟨b, off + 1, none⟩) (W : World) (h : Below wt.heap.size wt W) =>
            (HIH.out ⟨t.args[q], za, zc⟩ ⟨u, ay, cy⟩ (.slice aa r.length (c - 1)) W ca hzo HY.out (nums_tail rfl HV.out aa haa) (hT0.trans (h.mono hT0.size)) HPZ.out HPA.out).mono (fun e w4 hh =>
              (show ∃ y : Tv, e = .returned y.val ∧ y.t = ca ∧ Fresh w0 W w4 y ∧ Below wt.heap.size wt w4 from by obtain ⟨y, h1, h2, h3, h4⟩ := hh; exact ⟨y, h1, h2, h3, below_next h h4⟩))
          have KEEP := Lib.hid (fun (W : World) (h : Below wt.heap.size wt W) => (show (Below wt.heap.size wt W ∧ W.cell? ⟨w.heap.size + 1, 0, none⟩ = some (.int .i64 u.kind) ∧ W.cell? ⟨w.heap.size + 1, 1, none⟩ = some (.string u.name) ∧ W.cell? ⟨w.heap.size + 1, 2, none⟩ = some (.int .i64 u.n) ∧ W.cell? ⟨w.heap.size + 1, 3, none⟩ = some (.slice ay u.args.length cy)) from ⟨h, (HYT.out W h).c0, (HYT.out W h).c1, (HYT.out W h).c2, (HYT.out W h).c3⟩))
          have F1 : Below wt.heap.size wt wt.drew := (Below.refl _ _).drew
          have HB9 := Lib.hid (fun (V : World) (h : Below wt.heap.size wt V) => hbt.below h (by omega))
          have FAR := Lib.hid (fun (V : World) (u0 u1 u2 u3 : Value) (h : Below wt.heap.size wt V) => (show ((fun W => W.cell? ⟨w.heap.size + 1, 0, none⟩ = some (.int .i64 u.kind) ∧ W.cell? ⟨w.heap.size + 1, 1, none⟩ = some (.string u.name) ∧ W.cell? ⟨w.heap.size + 1, 2, none⟩ = some (.int .i64 u.n) ∧ W.cell? ⟨w.heap.size + 1, 3, none⟩ = some (.slice ay u.args.length cy)) ((((V.setCell ⟨wr.heap.size, 0, none⟩ u0).setCell ⟨wr.heap.size, 1, none⟩ u1).setCell ⟨wr.heap.size, 2, none⟩ u2).setCell ⟨wr.heap.size, 3, none⟩ u3)) from by
            have hk := hBt.size
            have e1 : w.heap.size + 1 ≠ wr.heap.size := by have h1 := HZS.out; have h2 := hbw.size; omega
            have b2 := (HYT.out V h).asides e1 u0 u1 u2 u3
            exact ⟨b2.c0, b2.c1, b2.c2, b2.c3⟩))
          have hc1 : (1 : Int) ≤ ((r.length + 1 : Nat) : Int) := by omega
          have hc2 : ((r.length + 1 : Nat) : Int) ≤ (c : Int) := by omega
          have hc4 : (1 : Int) ≤ (r.length : Int) + 1 := by omega
          have hc5 : (0 : Int) ≤ (r.length : Int) := by omega
          have HBT := Lib.hid hBt
          have HBSZ := Lib.hid hbs
          obtain ⟨n0, n1, n2, n3, _, _, _, _⟩ := id hbt
          obtain ⟨y0, y1, y2, y3, _, _, _, _⟩ := HYT.out wt (Below.refl _ _)
          rcases Nat.lt_or_ge 1 c with hcc | hcc
          · have CT := Lib.hid (hCT (some ⟨b, off + 1, none⟩) (fun _ => rfl))
            have hcne : (c = 1) = False := by simp; omega
            clear hcc hCT hwt hbt hBt hbs hzo hz
            simp only [Tv.val] at CT
            go_wp2_with fail
            rw [← HWT.out]
            go_region_with (go_at_call 34; refine (CT.out _ F1).mono ?_; rintro e w4 ⟨⟨ty, aY, cY⟩, rfl, hyt, hyo, hn4⟩; have HYE := Lib.hid hyt; clear hyt; obtain ⟨b0, b1, b2, b3, g0, g1, g2, g3⟩ := HB9.out w4 hn4)
            all_goals
              obtain ⟨wA, hwA⟩ : ∃ wA, wA = ((((w4.setCell ⟨wr.heap.size, 0, none⟩ (.int .i64 ty.kind)).setCell ⟨wr.heap.size, 1, none⟩ (.string ty.name)).setCell ⟨wr.heap.size, 2, none⟩ (.int .i64 ty.n)).setCell ⟨wr.heap.size, 3, none⟩ (.slice aY ty.args.length cY)) := ⟨_, rfl⟩
              rw [← hwA]
              have hb9 : Box wA wr.heap.size (.int .i64 ty.kind) (.string ty.name) (.int .i64 ty.n) (.slice aY ty.args.length cY) := by
                rw [hwA]; exact (Box.mk b0 b1 b2 b3 g0 g1 g2 g3).sets _ _ _ _
              have b9 := hb9
              have hbA : Below wr.heap.size wr wA := by rw [hwA]; exact below_sets (below_next HBT.out hn4) (Nat.le_refl _) _ _ _ _
              have hNr : Near w0 wr.heap.size wA wr.heap.size ⟨ty, aY, cY⟩ := by rw [hwA]; exact near_sets (g := wr.heap.size) HBSZ.out hyo _ _ _ _
              have hbB : Beside w0 wz wA u7 ⟨ty, aY, cY⟩ := beside_near hNr hws hObl
              have hTS : (t.args.set q ca).take (q + 1) = (t.args.set q ca).take q ++ [ty] := by rw [HTSQ.out, show ty = ca from HYE.out]; first | rw [if_pos rfl] | rw [if_pos trivial]
              have HWA := Lib.hid hwA
              clear hwA hb9 hNr hyo hn4 b0 b1 b2 b3 g0 g1 g2 g3 y0 y1 y2 y3 n0 n1 n2 n3
              have hownA := own_below HOWN.out (hbA.alloc hbA.size (.cells #[.int .i64 ty.kind, .string ty.name, .int .i64 ty.n, .slice aY ty.args.length cY] 24))
              have hA' := hbA.alloc hbA.size (.cells #[.int .i64 ty.kind, .string ty.name, .int .i64 ty.n, .slice aY ty.args.length cY] 24)
              have HAA := Lib.hid hA'
              have HBS := Lib.hid hbB
              have HVT2 := Lib.hid (show (vs ++ [(⟨ty, aY, cY⟩ : Tv)]).map Tv.t = (t.args.set q ca).take (q + 1) by rw [List.map_append, HVT.out, hTS]; rfl)
              have HN1 := Lib.hid (World.news_of_block (show (wA.alloc (.cells #[.int .i64 ty.kind, .string ty.name, .int .i64 ty.n, .slice aY ty.args.length cY] 24)).heap[wA.heap.size]? = some (.cells #[.int .i64 ty.kind, .string ty.name, .int .i64 ty.n, .slice aY ty.args.length cY] 24 (0, 0)) from by have hnw := heap_alloc_new wA (.cells #[.int .i64 ty.kind, .string ty.name, .int .i64 ty.n, .slice aY ty.args.length cY] 24); exact hnw))
              have HO1 := Lib.hid (fun (x : Value) (hx : x ∈ [Value.int .i64 ty.kind, .string ty.name, .int .i64 ty.n, .slice aY ty.args.length cY]) => (show x.oneCell' = true from rowTv_one' [⟨ty, aY, cY⟩] x (by rw [rowTv_one]; exact hx)))
              have hsz : wz.heap.size ≤ (wA.alloc (.cells #[.int .i64 ty.kind, .string ty.name, .int .i64 ty.n, .slice aY ty.args.length cY] 24)).heap.size := by have h1 := hbw.size; have h2 := hA'.size; omega
              have hmm : q + 1 ≤ maxLen := by unfold maxLen; omega
              have hmb : (q + 1) * 56 ≤ 140737488355328 := by omega
              have hq5 : (q : Int) ≤ 100000 := by omega
              obtain ⟨e0, e1, e2, e3, _, _, _, _⟩ := b9
              clear hA' hTS hbB m0 m1 m2 m3
              go_wp2_with (at_builtin; refine wpList_append_own_at _ rfl _ _ 22 rfl wz.heap.size 24 i0 (.agg #[.int .i64 0, .string ⟨#[]⟩, .int .i64 0, .slice none 0 0]) 4 56 Try.underlying22 hi0 hiz0 his0 hib0 rfl (by decide) _ q (rowTv vs) rfl hownA ⟨wA.heap.size, 0, none⟩ 1 1 [.int .i64 ty.kind, .string ty.name, .int .i64 ty.n, .slice aY ty.args.length cY] rfl rfl HN1.out HO1.out hmm hmb hsz ?_; intro v5 w5 hown5 hg5 _ hat5)
              go_roundw
              case rel =>
                have hb5 : Below wz.heap.size wz w5 := (hbw.trans (HAA.out.mono hbw.size)).grown hg5 (by have h1 := hbw.size; have h2 := HAA.out.size; omega) (fun y e => (hownA.lt y e).1)
                have hAB : Below wA.heap.size wA (wA.alloc (.cells #[.int .i64 ty.kind, .string ty.name, .int .i64 ty.n, .slice aY ty.args.length cY] 24)) := (Below.refl _ _).alloc (Nat.le_refl _) _
                refine ⟨v5, _, _, .int .i64 ((q : Int) + 1), ⟨q + 1, by omega, by go_num, vs ++ [(⟨ty, aY, cY⟩ : Tv)], Lib.hid HVT2.out, by rw [List.length_append, hvl]; rfl, Lib.hid (fun x hx => ?_), Lib.hid ?_, hb5⟩, rfl, rfl, rfl, rfl⟩
                · rcases List.mem_append.1 hx with hx | hx
                  · exact ((HVB.out x hx).below HAA.out).grown hg5 hat5
                  · rw [List.mem_singleton] at hx
                    subst hx
                    exact (HBS.out.below hAB).grown hg5 hat5
                · rw [rowTv_append, rowTv_one]; exact hown5
              case measure => simp [intOf]; omega
          · obtain rfl : c = 1 := by omega
            have CT := Lib.hid (hCT (some ⟨b, off, none⟩) (fun h => absurd (List.eq_nil_of_length_eq_zero (by omega)) h))
            obtain rfl : r = [] := List.eq_nil_of_length_eq_zero (by omega)
            clear hcc hCT hwt hbt hBt hbs hzo hz
            clear hlen1 hlen2 hlen3 hc1 hc2 hlc hc4 hc5
            simp only [List.length_nil, Nat.zero_add, Nat.sub_self] at CT ⊢
            simp only [Tv.val] at CT
            go_wp2_with fail
            rw [← HWT.out]
            go_region_with (go_at_call 34; refine (CT.out _ F1).mono ?_; rintro e w4 ⟨⟨ty, aY, cY⟩, rfl, hyt, hyo, hn4⟩; have HYE := Lib.hid hyt; clear hyt; obtain ⟨b0, b1, b2, b3, g0, g1, g2, g3⟩ := HB9.out w4 hn4)
            all_goals
              obtain ⟨wA, hwA⟩ : ∃ wA, wA = ((((w4.setCell ⟨wr.heap.size, 0, none⟩ (.int .i64 ty.kind)).setCell ⟨wr.heap.size, 1, none⟩ (.string ty.name)).setCell ⟨wr.heap.size, 2, none⟩ (.int .i64 ty.n)).setCell ⟨wr.heap.size, 3, none⟩ (.slice aY ty.args.length cY)) := ⟨_, rfl⟩
              rw [← hwA]
              have hb9 : Box wA wr.heap.size (.int .i64 ty.kind) (.string ty.name) (.int .i64 ty.n) (.slice aY ty.args.length cY) := by
                rw [hwA]; exact (Box.mk b0 b1 b2 b3 g0 g1 g2 g3).sets _ _ _ _
              have b9 := hb9
              have hbA : Below wr.heap.size wr wA := by rw [hwA]; exact below_sets (below_next HBT.out hn4) (Nat.le_refl _) _ _ _ _
              have hNr : Near w0 wr.heap.size wA wr.heap.size ⟨ty, aY, cY⟩ := by rw [hwA]; exact near_sets (g := wr.heap.size) HBSZ.out hyo _ _ _ _
              have hbB : Beside w0 wz wA u7 ⟨ty, aY, cY⟩ := beside_near hNr hws hObl
              have hTS : (t.args.set q ca).take (q + 1) = (t.args.set q ca).take q ++ [ty] := by rw [HTSQ.out, show ty = ca from HYE.out]; first | rw [if_pos rfl] | rw [if_pos trivial]
              have HWA := Lib.hid hwA
              clear hwA hb9 hNr hyo hn4 b0 b1 b2 b3 g0 g1 g2 g3 y0 y1 y2 y3 n0 n1 n2 n3
              have hownA := own_below HOWN.out (hbA.alloc hbA.size (.cells #[.int .i64 ty.kind, .string ty.name, .int .i64 ty.n, .slice aY ty.args.length cY] 24))
              have hA' := hbA.alloc hbA.size (.cells #[.int .i64 ty.kind, .string ty.name, .int .i64 ty.n, .slice aY ty.args.length cY] 24)
              have HAA := Lib.hid hA'
              have HBS := Lib.hid hbB
              have HVT2 := Lib.hid (show (vs ++ [(⟨ty, aY, cY⟩ : Tv)]).map Tv.t = (t.args.set q ca).take (q + 1) by rw [List.map_append, HVT.out, hTS]; rfl)
              have HN1 := Lib.hid (World.news_of_block (show (wA.alloc (.cells #[.int .i64 ty.kind, .string ty.name, .int .i64 ty.n, .slice aY ty.args.length cY] 24)).heap[wA.heap.size]? = some (.cells #[.int .i64 ty.kind, .string ty.name, .int .i64 ty.n, .slice aY ty.args.length cY] 24 (0, 0)) from by have hnw := heap_alloc_new wA (.cells #[.int .i64 ty.kind, .string ty.name, .int .i64 ty.n, .slice aY ty.args.length cY] 24); exact hnw))
              have HO1 := Lib.hid (fun (x : Value) (hx : x ∈ [Value.int .i64 ty.kind, .string ty.name, .int .i64 ty.n, .slice aY ty.args.length cY]) => (show x.oneCell' = true from rowTv_one' [⟨ty, aY, cY⟩] x (by rw [rowTv_one]; exact hx)))
              have hsz : wz.heap.size ≤ (wA.alloc (.cells #[.int .i64 ty.kind, .string ty.name, .int .i64 ty.n, .slice aY ty.args.length cY] 24)).heap.size := by have h1 := hbw.size; have h2 := hA'.size; omega
              have hmm : q + 1 ≤ maxLen := by unfold maxLen; omega
              have hmb : (q + 1) * 56 ≤ 140737488355328 := by omega
              have hq5 : (q : Int) ≤ 100000 := by omega
              obtain ⟨e0, e1, e2, e3, _, _, _, _⟩ := b9
              clear hA' hTS hbB m0 m1 m2 m3
              go_wp2_with (at_builtin; refine wpList_append_own_at _ rfl _ _ 22 rfl wz.heap.size 24 i0 (.agg #[.int .i64 0, .string ⟨#[]⟩, .int .i64 0, .slice none 0 0]) 4 56 Try.underlying22 hi0 hiz0 his0 hib0 rfl (by decide) _ q (rowTv vs) rfl hownA ⟨wA.heap.size, 0, none⟩ 1 1 [.int .i64 ty.kind, .string ty.name, .int .i64 ty.n, .slice aY ty.args.length cY] rfl rfl HN1.out HO1.out hmm hmb hsz ?_; intro v5 w5 hown5 hg5 _ hat5)
              go_roundw
              case rel =>
                have hb5 : Below wz.heap.size wz w5 := (hbw.trans (HAA.out.mono hbw.size)).grown hg5 (by have h1 := hbw.size; have h2 := HAA.out.size; omega) (fun y e => (hownA.lt y e).1)
                have hAB : Below wA.heap.size wA (wA.alloc (.cells #[.int .i64 ty.kind, .string ty.name, .int .i64 ty.n, .slice aY ty.args.length cY] 24)) := (Below.refl _ _).alloc (Nat.le_refl _) _
                refine ⟨v5, _, _, .int .i64 ((q : Int) + 1), ⟨q + 1, by omega, by go_num, vs ++ [(⟨ty, aY, cY⟩ : Tv)], Lib.hid HVT2.out, by rw [List.length_append, hvl]; rfl, Lib.hid (fun x hx => ?_), Lib.hid ?_, hb5⟩, rfl, rfl, rfl, rfl⟩
                · rcases List.mem_append.1 hx with hx | hx
                  · exact ((HVB.out x hx).below HAA.out).grown hg5 hat5
                  · rw [List.mem_singleton] at hx
                    subst hx
                    exact (HBS.out.below hAB).grown hg5 hat5
                · rw [rowTv_append, rowTv_one]; exact hown5
              case measure => simp [intOf]; omega
        · have hd : ((q : Int) == (n : Int)) = false := by rw [beq_eq_false_iff_ne]; omega
          have hbA : Below wr.heap.size wr wt := hBt
          have b9 := hbt
          have hbB : Beside w0 wz wt u7 ⟨t.args[q], za, zc⟩ := beside_old hzo
          have hTS : (t.args.set n ca).take (q + 1) = (t.args.set n ca).take q ++ [t.args[q]] := by rw [HTSQ.out, if_neg (fun e => hqn e.symm)]
          have HQN := Lib.hid hqn
          rw [hwt] at hbA b9 hbB hbs
          clear hqn hwt hbt hBt hzo hz
          have hownA := own_below HOWN.out (hbA.alloc hbA.size (.cells #[.int .i64 t.args[q].kind, .string t.args[q].name, .int .i64 t.args[q].n, .slice za t.args[q].args.length zc] 24))
          have hA' := hbA.alloc hbA.size (.cells #[.int .i64 t.args[q].kind, .string t.args[q].name, .int .i64 t.args[q].n, .slice za t.args[q].args.length zc] 24)
          have HAA := Lib.hid hA'
          have HBS := Lib.hid hbB
          have HVT2 := Lib.hid (show (vs ++ [(⟨t.args[q], za, zc⟩ : Tv)]).map Tv.t = (t.args.set n ca).take (q + 1) by rw [List.map_append, HVT.out, hTS]; rfl)
          have HN1 := Lib.hid (World.news_of_block (show ((wr.alloc (.cells #[.int .i64 t.args[q].kind, .string t.args[q].name, .int .i64 t.args[q].n, .slice za t.args[q].args.length zc] 24)).alloc (.cells #[.int .i64 t.args[q].kind, .string t.args[q].name, .int .i64 t.args[q].n, .slice za t.args[q].args.length zc] 24)).heap[wr.heap.size + 1]? = some (.cells #[.int .i64 t.args[q].kind, .string t.args[q].name, .int .i64 t.args[q].n, .slice za t.args[q].args.length zc] 24 (0, 0)) from by have hnw := heap_alloc_new (wr.alloc (.cells #[.int .i64 t.args[q].kind, .string t.args[q].name, .int .i64 t.args[q].n, .slice za t.args[q].args.length zc] 24)) (.cells #[.int .i64 t.args[q].kind, .string t.args[q].name, .int .i64 t.args[q].n, .slice za t.args[q].args.length zc] 24); rwa [hbs] at hnw))
          have HO1 := Lib.hid (fun (x : Value) (hx : x ∈ [Value.int .i64 t.args[q].kind, .string t.args[q].name, .int .i64 t.args[q].n, .slice za t.args[q].args.length zc]) => (show x.oneCell' = true from rowTv_one' [⟨t.args[q], za, zc⟩] x (by rw [rowTv_one]; exact hx)))
          have hsz : wz.heap.size ≤ ((wr.alloc (.cells #[.int .i64 t.args[q].kind, .string t.args[q].name, .int .i64 t.args[q].n, .slice za t.args[q].args.length zc] 24)).alloc (.cells #[.int .i64 t.args[q].kind, .string t.args[q].name, .int .i64 t.args[q].n, .slice za t.args[q].args.length zc] 24)).heap.size := by have h1 := hbw.size; have h2 := hA'.size; omega
          have hmm : q + 1 ≤ maxLen := by unfold maxLen; omega
          have hmb : (q + 1) * 56 ≤ 140737488355328 := by omega
          have hq5 : (q : Int) ≤ 100000 := by omega
          obtain ⟨e0, e1, e2, e3, _, _, _, _⟩ := b9
          clear hA' hTS hbB
          go_wp2_with (at_builtin; refine wpList_append_own_at _ rfl _ _ 22 rfl wz.heap.size 24 i0 (.agg #[.int .i64 0, .string ⟨#[]⟩, .int .i64 0, .slice none 0 0]) 4 56 Try.underlying22 hi0 hiz0 his0 hib0 rfl (by decide) _ q (rowTv vs) rfl hownA ⟨wr.heap.size + 1, 0, none⟩ 1 1 [.int .i64 t.args[q].kind, .string t.args[q].name, .int .i64 t.args[q].n, .slice za t.args[q].args.length zc] (by simp [Act.eval]) rfl HN1.out HO1.out hmm hmb hsz ?_; intro v5 w5 hown5 hg5 _ hat5)
          go_roundw
          case rel =>
            have hb5 : Below wz.heap.size wz w5 := (hbw.trans (HAA.out.mono hbw.size)).grown hg5 (by have h1 := hbw.size; have h2 := HAA.out.size; omega) (fun y e => (hownA.lt y e).1)
            have hAB : Below (wr.alloc (.cells #[.int .i64 t.args[q].kind, .string t.args[q].name, .int .i64 t.args[q].n, .slice za t.args[q].args.length zc] 24)).heap.size (wr.alloc (.cells #[.int .i64 t.args[q].kind, .string t.args[q].name, .int .i64 t.args[q].n, .slice za t.args[q].args.length zc] 24)) ((wr.alloc (.cells #[.int .i64 t.args[q].kind, .string t.args[q].name, .int .i64 t.args[q].n, .slice za t.args[q].args.length zc] 24)).alloc (.cells #[.int .i64 t.args[q].kind, .string t.args[q].name, .int .i64 t.args[q].n, .slice za t.args[q].args.length zc] 24)) := (Below.refl _ _).alloc (Nat.le_refl _) _
            refine ⟨v5, _, _, .int .i64 ((q : Int) + 1), ⟨q + 1, by omega, by go_num, vs ++ [(⟨t.args[q], za, zc⟩ : Tv)], Lib.hid HVT2.out, by rw [List.length_append, hvl]; rfl, Lib.hid (fun x hx => ?_), Lib.hid ?_, hb5⟩, rfl, rfl, rfl, rfl⟩
            · rcases List.mem_append.1 hx with hx | hx
              · exact ((HVB.out x hx).below HAA.out).grown hg5 hat5
              · rw [List.mem_singleton] at hx
                subst hx
                exact (HBS.out.below hAB).grown hg5 hat5
            · rw [rowTv_append, rowTv_one]; exact hown5
          case measure => simp [intOf]; omega
      · have hqe : q = t.args.length := by omega
        have hqd : decide ((q : Int) < (t.args.length : Int)) = false := decide_eq_false (by omega)
        have hql1 : t.args.length ≤ q := by omega
        have hvt : vs.map Tv.t = t.args.set n ca := by
          have h := HVT.out
          rw [List.take_of_length_le (by rw [List.length_set]; omega)] at h
          exact h
        have hown := HOWN.out
        rw [hqe] at hown
        obtain ⟨g7, c7, rfl, hg7, hl7⟩ := hown.form (show 0 < t.args.length by omega)
        have O := Lib.hid (fun W => of_any t.kind t.name t.n (some ⟨g7, 0, none⟩) t.args.length c7 W)
        have hzw := HZS.out
        have hbs' := hbw.size
        have HOWNE := Lib.hid hown
        have HVTE := Lib.hid hvt
        have HBWE := Lib.hid hbw
        obtain ⟨p0, p1, p2, p3, _, _, _, _⟩ := HBX.out wr hbw
        clear hqe hown hvt HVT HOWN hbw
        go_wp2_with fail
        refine (O.out _).mono ?_; rintro e w5 ⟨rfl, hb5⟩
        have hbR := HBR.out w5 (below_next HBWE.out hb5)
        have BR8 := Lib.hid (hbR.sets (.int .i64 t.kind) (.string t.name) (.int .i64 t.n) (.slice (some ⟨g7, 0, none⟩) t.args.length c7))
        obtain ⟨q0, q1, q2, q3, f0, f1, f2, f3⟩ := hbR
        have HB5 := Lib.hid hb5
        clear hb5 p0 p1 p2 p3
        go_wp2_with fail
        obtain ⟨q0, q1, q2, q3, f0, f1, f2, f3⟩ := BR8.out
        refine bodyPost_ret (v := .agg #[.int .i64 t.kind, .string t.name, .int .i64 t.n, .slice (some ⟨g7, 0, none⟩) t.args.length c7]) (by simp [results, Try.results34, go_sem, q0, q1, q2, q3]) rfl ?_
        have hbe := below_next HBWE.out HB5.out
        have hwe : Below w.heap.size w w5 := HBZ.out.trans (hbe.mono HBZ.out.size)
        refine ⟨⟨.mk t.kind t.name t.n (t.args.set n ca), some ⟨g7, 0, none⟩, c7⟩, by simp [Tm.kind, Tm.name, Tm.n, Tm.args], rfl, ?_, below_sets hwe (by omega) _ _ _ _⟩
        have hz8 : w.heap.size + 2 < wz.heap.size := by omega
        refine fresh_row (vs := vs) (n := t.args.length) ?_ (by rw [List.length_set]) HVTE.out HX.out.1 (by omega) (fun W hWb hWs hWa v hv => ?_)
        · have h5 := own_below HOWNE.out HB5.out
          have h8 := own_setCell (own_setCell (own_setCell (own_setCell h5 (p := ⟨w.heap.size + 2, 0, none⟩) hz8 (.int .i64 t.kind)) (p := ⟨w.heap.size + 2, 1, none⟩) hz8 (.string t.name)) (p := ⟨w.heap.size + 2, 2, none⟩) hz8 (.int .i64 t.n)) (p := ⟨w.heap.size + 2, 3, none⟩) hz8 (.slice (some ⟨g7, 0, none⟩) t.args.length c7)
          exact own_lower h8 HBZ.out.size
        · have hsz5 := HB5.out.size
          have hkk : ∀ k, k ≠ w.heap.size + 2 → ((((w5.setCell ⟨w.heap.size + 2, 0, none⟩ (.int .i64 t.kind)).setCell ⟨w.heap.size + 2, 1, none⟩ (.string t.name)).setCell ⟨w.heap.size + 2, 2, none⟩ (.int .i64 t.n)).setCell ⟨w.heap.size + 2, 3, none⟩ (.slice (some ⟨g7, 0, none⟩) t.args.length c7)).heap[k]? = w5.heap[k]? := fun k hkR => by
            rw [Below.heap_setCell _ _ _ _ hkR, Below.heap_setCell _ _ _ _ hkR, Below.heap_setCell _ _ _ _ hkR, Below.heap_setCell _ _ _ _ hkR]
          refine HVB.out v hv W hWb (by simp at hWs; omega) (fun k k1 k2 _ => ?_)
          rw [hWa k (by omega) (by simp; omega), hkk k (by omega)]
          exact HB5.out.block k k2
end Go.Proofs.Ytniikfihfeledaa
