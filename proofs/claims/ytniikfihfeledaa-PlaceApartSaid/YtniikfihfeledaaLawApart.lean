/-
  What is put at two places that are apart: the law answers true.
-/
import Derived.Test.YtniikfihfeledaaPutLaw
import Derived.Test.YtniikfihfeledaaPOrdPl
namespace Go.Proofs.Ytniikfihfeledaa
open Go.RowKit

/-- What a call has made, behind a store into a box that was laid just ahead of it. -/
theorem store_fresh {w0 w4 : World} {y : Tv} {o : Obj} (h : Fresh w0 (w0.alloc o) w4 y) {V : World} (hb : Below w0.heap.size w0 V) (hV : V.heap.size = w4.heap.size ∧ ∀ b, b ≠ w0.heap.size → V.heap[b]? = w4.heap[b]?) : y.ok V :=
  h V hb (Nat.le_of_eq hV.1.symm) (fun b h1 _ => hV.2 b (by simp at h1; omega))
theorem sets_heap (w : World) (g : Nat) (u0 u1 u2 u3 : Value) : ((((w.setCell ⟨g, 0, none⟩ u0).setCell ⟨g, 1, none⟩ u1).setCell ⟨g, 2, none⟩ u2).setCell ⟨g, 3, none⟩ u3).heap.size = w.heap.size ∧ ∀ b, b ≠ g → ((((w.setCell ⟨g, 0, none⟩ u0).setCell ⟨g, 1, none⟩ u1).setCell ⟨g, 2, none⟩ u2).setCell ⟨g, 3, none⟩ u3).heap[b]? = w.heap[b]? :=
  ⟨by simp, fun b hb => by rw [Below.heap_setCell _ _ _ _ hb, Below.heap_setCell _ _ _ _ hb, Below.heap_setCell _ _ _ _ hb, Below.heap_setCell _ _ _ _ hb]⟩

set_option maxRecDepth 100000 in
set_option maxHeartbeats 4000000 in
theorem lawApart_any (x : Tv) (v : Value) (ns : List Int) (v' : Value) (ms : List Int) (y z : Tv) (w : World) (hx : x.ok w) (hv : Nums w v ns) (hv' : Nums w v' ms) (hy : y.ok w) (hz : z.ok w) :
    Calls Try.prog 5 #[x.val, v, v', y.val, z.val] w fun e w' => e = .returned (.bool true) ∧ Below w.heap.size w w' := by
  have AW := Lib.hid (fun W => awake_pl W)
  have SX := Lib.hid (fun (W : World) (h : Below w.heap.size w W) => small_tm x W (hx.below h))
  have SY := Lib.hid (fun (W : World) (h : Below w.heap.size w W) => small_tm y W (hy.below h))
  have SZ := Lib.hid (fun (W : World) (h : Below w.heap.size w W) => small_tm z W (hz.below h))
  have AP := Lib.hid (fun (W : World) (h : Below w.heap.size w W) => (papart_any v v' ns ms W (hv.below h) (hv'.below h)).mono (fun e w' hh => (show e = .returned (.bool (!decide (ns <+: ms) && !decide (ms <+: ns))) ∧ Below W.heap.size W w' from by obtain ⟨rfl, k, rfl⟩ := hh; exact ⟨rfl, below_drewN (Below.refl _ _) k⟩)))
  have R1 := Lib.hid (fun (W : World) (h : Below w.heap.size w W) => at_tm w ns x v W hx hv h)
  have R2 := Lib.hid (fun (W : World) (h : Below w.heap.size w W) => at_tm w ms x v' W hx hv' h)
  have P1 := Lib.hid (fun (W : World) (h : Below w.heap.size w W) (hp : x.t.parts ≤ 100000) => pput_tm w ns x y v W hx hy hv h hp)
  have P3 := Lib.hid (fun (W : World) (h : Below w.heap.size w W) (hp : x.t.parts ≤ 100000) => pput_tm w ms x z v' W hx hz hv' h hp)
  have P2 := Lib.hid (fun (s : Tv) (W0 W : World) (h : Below w.heap.size w W0) (hs : s.ok W0) (h2 : Below W0.heap.size W0 W) (hp : s.t.parts ≤ 100000) => pput_tm W0 ms s z v' W hs (hz.below h) (hv'.below h) h2 hp)
  have P4 := Lib.hid (fun (s : Tv) (W0 W : World) (h : Below w.heap.size w W0) (hs : s.ok W0) (h2 : Below W0.heap.size W0 W) (hp : s.t.parts ≤ 100000) => pput_tm W0 ns s y v W hs (hy.below h) (hv.below h) h2 hp)
  have A1 := Lib.hid (fun (s : Tv) (W : World) (h : Below w.heap.size w W) (hs : s.ok W) => pat_tm s v ns W W hs (hv.below h) (Below.refl _ _))
  have A2 := Lib.hid (fun (s : Tv) (W : World) (h : Below w.heap.size w W) (hs : s.ok W) => pat_tm s v' ms W W hs (hv'.below h) (Below.refl _ _))
  have SA := Lib.hid (fun (y o : Tv) (W : World) (he : y.t = o.t) (h1 : y.ok W) (h2 : o.ok W) => (same_tm y.t.parts y o W (Nat.le_refl _) h1 h2).mono (fun e w' hh => (show e = .returned (.bool true) ∧ Below W.heap.size W w' from ⟨hh.1.trans (by rw [eqT_true he]), hh.2⟩)))
  have KX := Lib.hid hx
  have KY := Lib.hid hy
  have KZ := Lib.hid hz
  clear hx hy hz
  obtain ⟨a, c, rfl, _, _, _, _⟩ := hv
  obtain ⟨a', c', rfl, _, _, _, _⟩ := hv'
  obtain ⟨t, ax, cx⟩ := x
  obtain ⟨u, ay, cy⟩ := y
  obtain ⟨q, az, cz⟩ := z
  have hB3 : ∀ o1 o2 o3, Below w.heap.size w (((w.alloc o1).alloc o2).alloc o3) := fun o1 o2 o3 => (((Below.refl _ _).alloc (Nat.le_refl _) _).alloc (by simp) _).alloc (by simp; omega) _
  obtain ⟨wb, hwbe⟩ : ∃ wb, wb = (((w.alloc (.cells #[.int .i64 t.kind, .string t.name, .int .i64 t.n, .slice ax t.args.length cx] 24)).alloc (.cells #[.int .i64 u.kind, .string u.name, .int .i64 u.n, .slice ay u.args.length cy] 24)).alloc (.cells #[.int .i64 q.kind, .string q.name, .int .i64 q.n, .slice az q.args.length cz] 24)) := ⟨_, rfl⟩
  have hwb : Below w.heap.size w wb := by rw [hwbe]; exact hB3 _ _ _
  have bX : Box wb w.heap.size (.int .i64 t.kind) (.string t.name) (.int .i64 t.n) (.slice ax t.args.length cx) := by
    rw [hwbe]
    exact (box_new w _ _ _ _ _).below (((Below.refl _ _).alloc (Nat.le_refl _) _).alloc (by simp) _) (by simp)
  have bY : Box wb (w.heap.size + 1) (.int .i64 u.kind) (.string u.name) (.int .i64 u.n) (.slice ay u.args.length cy) := by
    have h1 := (box_new (w.alloc (.cells #[.int .i64 t.kind, .string t.name, .int .i64 t.n, .slice ax t.args.length cx] 24)) (.int .i64 u.kind) (.string u.name) (.int .i64 u.n) (.slice ay u.args.length cy) 24).below ((Below.refl _ _).alloc (Nat.le_refl _) (.cells #[.int .i64 q.kind, .string q.name, .int .i64 q.n, .slice az q.args.length cz] 24)) (by simp)
    rw [hwbe]; simpa using h1
  have bZ : Box wb (w.heap.size + 1 + 1) (.int .i64 q.kind) (.string q.name) (.int .i64 q.n) (.slice az q.args.length cz) := by
    have h1 := box_new ((w.alloc (.cells #[.int .i64 t.kind, .string t.name, .int .i64 t.n, .slice ax t.args.length cx] 24)).alloc (.cells #[.int .i64 u.kind, .string u.name, .int .i64 u.n, .slice ay u.args.length cy] 24)) (.int .i64 q.kind) (.string q.name) (.int .i64 q.n) (.slice az q.args.length cz) 24
    rw [hwbe]; simpa using h1
  have BX := Lib.hid bX
  have BY := Lib.hid bY
  have BZ := Lib.hid bZ
  have HW := Lib.hid hwb
  clear bX bY bZ hwb hB3
  simp only [Tv.val] at *
  go_enter Try.func5, Try.ntmps5
  go_wp2_with fail
  rw [← hwbe]
  clear hwbe
  refine (AW.out _).mono ?_; rintro e w1 ⟨rfl, hb1⟩
  have hs1 : Below wb.heap.size wb w1 := hb1
  have BX_1 := Lib.hid (BX.out.below hs1 (lt_of_cell BX.out.c0))
  have BY_1 := Lib.hid (BY.out.below hs1 (lt_of_cell BY.out.c0))
  have BZ_1 := Lib.hid (BZ.out.below hs1 (lt_of_cell BZ.out.c0))
  have HW_1 := Lib.hid (below_next HW.out hs1)
  clear hs1 BX BY BZ HW
  clear hb1
  obtain ⟨BX0, BX1, BX2, BX3, _, _, _, _⟩ := BX_1.out
  go_wp2_with fail
  refine (SX.out _ HW_1.out).mono ?_; rintro e w2 ⟨rfl, hb2⟩
  clear BX0 BX1 BX2 BX3
  have hs2 : Below w1.heap.size w1 w2 := hb2
  have BX_2 := Lib.hid (BX_1.out.below hs2 (lt_of_cell BX_1.out.c0))
  have BY_2 := Lib.hid (BY_1.out.below hs2 (lt_of_cell BY_1.out.c0))
  have BZ_2 := Lib.hid (BZ_1.out.below hs2 (lt_of_cell BZ_1.out.c0))
  have HW_2 := Lib.hid (below_next HW_1.out hs2)
  clear hs2 BX_1 BY_1 BZ_1 HW_1
  clear hb2
  cases hst : smallB t with
  | false =>
    have HE := Lib.hid HW_2.out
    go_wp2_with fail
    go_ret
    exact ⟨rfl, HE.out⟩
  | true =>
    obtain ⟨BY0, BY1, BY2, BY3, _, _, _, _⟩ := BY_2.out
    go_wp2_with fail
    refine (SY.out _ HW_2.out).mono ?_; rintro e w3 ⟨rfl, hb3⟩
    clear BY0 BY1 BY2 BY3
    have hs3 : Below w2.heap.size w2 w3 := hb3
    have BX_3 := Lib.hid (BX_2.out.below hs3 (lt_of_cell BX_2.out.c0))
    have BY_3 := Lib.hid (BY_2.out.below hs3 (lt_of_cell BY_2.out.c0))
    have BZ_3 := Lib.hid (BZ_2.out.below hs3 (lt_of_cell BZ_2.out.c0))
    have HW_3 := Lib.hid (below_next HW_2.out hs3)
    clear hs3 BX_2 BY_2 BZ_2 HW_2
    clear hb3
    cases hsu : smallB u with
    | false =>
      have HE := Lib.hid HW_3.out
      go_wp2_with fail
      go_ret
      exact ⟨rfl, HE.out⟩
    | true =>
      obtain ⟨BZ0, BZ1, BZ2, BZ3, _, _, _, _⟩ := BZ_3.out
      go_wp2_with fail
      refine (SZ.out _ HW_3.out).mono ?_; rintro e w4 ⟨rfl, hb4⟩
      clear BZ0 BZ1 BZ2 BZ3
      have hs4 : Below w3.heap.size w3 w4 := hb4
      have BX_4 := Lib.hid (BX_3.out.below hs4 (lt_of_cell BX_3.out.c0))
      have BY_4 := Lib.hid (BY_3.out.below hs4 (lt_of_cell BY_3.out.c0))
      have BZ_4 := Lib.hid (BZ_3.out.below hs4 (lt_of_cell BZ_3.out.c0))
      have HW_4 := Lib.hid (below_next HW_3.out hs4)
      clear hs4 BX_3 BY_3 BZ_3 HW_3
      clear hb4
      cases hsq : smallB q with
      | false =>
        have HE := Lib.hid HW_4.out
        go_wp2_with fail
        go_ret
        exact ⟨rfl, HE.out⟩
      | true =>
        rcases Int.lt_or_le 100 (ns.length : Int) with hl | hl
        · have hd : decide ((100 : Int) < (ns.length : Int)) = true := decide_eq_true hl
          have HE := Lib.hid HW_4.out
          go_wp2_with fail
          go_ret
          exact ⟨rfl, HE.out⟩
        · have hd : decide ((100 : Int) < (ns.length : Int)) = false := decide_eq_false (by omega)
          rcases Int.lt_or_le 100 (ms.length : Int) with hm | hm
          · have hd2 : decide ((100 : Int) < (ms.length : Int)) = true := decide_eq_true hm
            have HE := Lib.hid HW_4.out
            go_wp2_with fail
            go_ret
            exact ⟨rfl, HE.out⟩
          · have hd2 : decide ((100 : Int) < (ms.length : Int)) = false := decide_eq_false (by omega)
            have hp1 : t.parts ≤ 300 := small_parts hst
            have hp2 : u.parts ≤ 300 := small_parts hsu
            have hp3 : q.parts ≤ 300 := small_parts hsq
            have hp5 : t.parts ≤ 100000 := by omega
            obtain ⟨o1, ho1⟩ : ∃ o1, atT t ns = o1 := ⟨_, rfl⟩
            have QR1 := Lib.hid (R1.out _ HW_4.out)
            (try simp only at QR1)
            rw [ho1] at QR1
            have Ho1 := Lib.hid ho1
            clear ho1 R1
            obtain ⟨BX0, BX1, BX2, BX3, _, _, _, _⟩ := BX_4.out
            go_wp2_with fail
            refine QR1.out.mono ?_; rintro e v5 ⟨⟨y5, a5, c5⟩, he, hyt, hyo, hb5⟩
            clear BX0 BX1 BX2 BX3
            obtain rfl := he
            clear hyt hyo
            have hs5 : Below w4.heap.size w4 v5 := hb5
            have BX_5 := Lib.hid (BX_4.out.below hs5 (lt_of_cell BX_4.out.c0))
            have BY_5 := Lib.hid (BY_4.out.below hs5 (lt_of_cell BY_4.out.c0))
            have BZ_5 := Lib.hid (BZ_4.out.below hs5 (lt_of_cell BZ_4.out.c0))
            have HW_5 := Lib.hid (below_next HW_4.out hs5)
            clear hs5 BX_4 BY_4 BZ_4 HW_4
            clear hb5
            simp only [Tv.val]
            have hs6 : Below v5.heap.size v5 (v5.alloc (.cells #[.int .i64 y5.kind, .string y5.name, .int .i64 y5.n, .slice a5 y5.args.length c5] 24)) := (Below.refl _ _).alloc (Nat.le_refl _) _
            have BX_6 := Lib.hid (BX_5.out.below hs6 (lt_of_cell BX_5.out.c0))
            have BY_6 := Lib.hid (BY_5.out.below hs6 (lt_of_cell BY_5.out.c0))
            have BZ_6 := Lib.hid (BZ_5.out.below hs6 (lt_of_cell BZ_5.out.c0))
            have HW_6 := Lib.hid (below_next HW_5.out hs6)
            clear hs6 BX_5 BY_5 BZ_5 HW_5
            obtain ⟨o2, ho2⟩ : ∃ o2, atT t ms = o2 := ⟨_, rfl⟩
            have QR2 := Lib.hid (R2.out _ HW_6.out)
            (try simp only at QR2)
            rw [ho2] at QR2
            have Ho2 := Lib.hid ho2
            clear ho2 R2
            obtain ⟨BX0, BX1, BX2, BX3, _, _, _, _⟩ := BX_6.out
            go_wp2_with fail
            refine QR2.out.mono ?_; rintro e v6 ⟨⟨y6, a6, c6⟩, he, hyt, hyo, hb6⟩
            clear BX0 BX1 BX2 BX3
            obtain rfl := he
            clear hyt hyo
            have hs7 : Below (v5.alloc (.cells #[.int .i64 y5.kind, .string y5.name, .int .i64 y5.n, .slice a5 y5.args.length c5] 24)).heap.size (v5.alloc (.cells #[.int .i64 y5.kind, .string y5.name, .int .i64 y5.n, .slice a5 y5.args.length c5] 24)) v6 := hb6
            have BX_7 := Lib.hid (BX_6.out.below hs7 (lt_of_cell BX_6.out.c0))
            have BY_7 := Lib.hid (BY_6.out.below hs7 (lt_of_cell BY_6.out.c0))
            have BZ_7 := Lib.hid (BZ_6.out.below hs7 (lt_of_cell BZ_6.out.c0))
            have HW_7 := Lib.hid (below_next HW_6.out hs7)
            clear hs7 BX_6 BY_6 BZ_6 HW_6
            clear hb6
            simp only [Tv.val]
            have hs8 : Below v6.heap.size v6 (v6.alloc (.cells #[.int .i64 y6.kind, .string y6.name, .int .i64 y6.n, .slice a6 y6.args.length c6] 24)) := (Below.refl _ _).alloc (Nat.le_refl _) _
            have BX_8 := Lib.hid (BX_7.out.below hs8 (lt_of_cell BX_7.out.c0))
            have BY_8 := Lib.hid (BY_7.out.below hs8 (lt_of_cell BY_7.out.c0))
            have BZ_8 := Lib.hid (BZ_7.out.below hs8 (lt_of_cell BZ_7.out.c0))
            have HW_8 := Lib.hid (below_next HW_7.out hs8)
            clear hs8 BX_7 BY_7 BZ_7 HW_7
            cases o1 with
            | none =>
              have HE := Lib.hid HW_8.out
              go_wp2_with fail
              go_ret
              exact ⟨rfl, HE.out⟩
            | some d1 =>
              cases o2 with
              | none =>
                have HE := Lib.hid HW_8.out
                go_wp2_with fail
                go_ret
                exact ⟨rfl, HE.out⟩
              | some d2 =>
                obtain ⟨ab, hab⟩ : ∃ ab, (!decide (ns <+: ms) && !decide (ms <+: ns)) = ab := ⟨_, rfl⟩
                have QA := Lib.hid (AP.out _ HW_8.out)
                rw [hab] at QA
                have HAB := Lib.hid hab
                clear hab AP
                simp only [Option.isSome_some]
                go_wp2_with fail
                refine QA.out.mono ?_; rintro e wE ⟨rfl, hbE⟩
                have hs9 : Below (v6.alloc (.cells #[.int .i64 y6.kind, .string y6.name, .int .i64 y6.n, .slice a6 y6.args.length c6] 24)).heap.size (v6.alloc (.cells #[.int .i64 y6.kind, .string y6.name, .int .i64 y6.n, .slice a6 y6.args.length c6] 24)) wE := hbE
                have BX_9 := Lib.hid (BX_8.out.below hs9 (lt_of_cell BX_8.out.c0))
                have BY_9 := Lib.hid (BY_8.out.below hs9 (lt_of_cell BY_8.out.c0))
                have BZ_9 := Lib.hid (BZ_8.out.below hs9 (lt_of_cell BZ_8.out.c0))
                have HW_9 := Lib.hid (below_next HW_8.out hs9)
                clear hs9 BX_8 BY_8 BZ_8 HW_8
                clear hbE
                cases ab with
                | false =>
                  have HE := Lib.hid HW_9.out
                  go_wp2_with fail
                  go_ret
                  exact ⟨rfl, HE.out⟩
                | true =>
                  have hap : (¬ ns <+: ms) ∧ ¬ ms <+: ns := by
                    have h := HAB.out
                    simpa using h
                  obtain ⟨e1, he1⟩ : ∃ e1, putO t ns u = some e1 := Option.isSome_iff_exists.1 (by rw [putO_isSome, Ho1.out]; rfl)
                  obtain ⟨e2, he2⟩ : ∃ e2, putO t ms q = some e2 := Option.isSome_iff_exists.1 (by rw [putO_isSome, Ho2.out]; rfl)
                  obtain ⟨e3, he3, he4, he5, he6⟩ := putO_apart ns ms hap.1 hap.2 he1 he2
                  have hu1 : e1.parts ≤ 100000 := by have := putO_parts ns he1; omega
                  have hu2 : e2.parts ≤ 100000 := by have := putO_parts ms he2; omega
                  have Q1 := Lib.hid (P1.out _ HW_9.out hp5)
                  (try simp only at Q1)
                  rw [he1] at Q1
                  have HE2 := Lib.hid he2
                  have HE3 := Lib.hid he3
                  have HE4 := Lib.hid he4
                  have HE5 := Lib.hid he5
                  have HE6 := Lib.hid he6
                  clear he1 he2 he3 he4 he5 he6 hap P1
                  obtain ⟨BX0, BX1, BX2, BX3, _, _, _, _⟩ := BX_9.out
                  obtain ⟨BY0, BY1, BY2, BY3, _, _, _, _⟩ := BY_9.out
                  go_wp2_with fail
                  refine Q1.out.mono ?_; rintro e w15 ⟨⟨y15, a15, c15⟩, he, hyt, hyf, hb15⟩
                  clear BX0 BX1 BX2 BX3 BY0 BY1 BY2 BY3
                  obtain rfl := he
                  have T15 := Lib.hid (show y15 = e1 from hyt)
                  have hs10 : Below wE.heap.size wE w15 := hb15
                  have BX_10 := Lib.hid (BX_9.out.below hs10 (lt_of_cell BX_9.out.c0))
                  have BY_10 := Lib.hid (BY_9.out.below hs10 (lt_of_cell BY_9.out.c0))
                  have BZ_10 := Lib.hid (BZ_9.out.below hs10 (lt_of_cell BZ_9.out.c0))
                  have HW_10 := Lib.hid (below_next HW_9.out hs10)
                  clear hs10 BX_9 BY_9 BZ_9 HW_9
                  have K15 := Lib.hid (hyf.ok HW_10.out)
                  clear hyt hyf hb15
                  simp only [Tv.val, Option.isSome_some]
                  have LEw15 := Lib.hid (show w.heap.size ≤ w15.heap.size from HW_10.out.size)
                  have NEBXw15 := Lib.hid (Nat.ne_of_lt (lt_of_cell BX_10.out.c0))
                  have NEBYw15 := Lib.hid (Nat.ne_of_lt (lt_of_cell BY_10.out.c0))
                  have NEBZw15 := Lib.hid (Nat.ne_of_lt (lt_of_cell BZ_10.out.c0))
                  have HGw15 := Lib.hid (Below.refl w15.heap.size w15)
                  have B15 := Lib.hid (box_new w15 (.int .i64 y15.kind) (.string y15.name) (.int .i64 y15.n) (.slice a15 y15.args.length c15) 24)
                  have hs11 : Below w15.heap.size w15 (w15.alloc (.cells #[.int .i64 y15.kind, .string y15.name, .int .i64 y15.n, .slice a15 y15.args.length c15] 24)) := (Below.refl _ _).alloc (Nat.le_refl _) _
                  have BX_11 := Lib.hid (BX_10.out.below hs11 (lt_of_cell BX_10.out.c0))
                  have BY_11 := Lib.hid (BY_10.out.below hs11 (lt_of_cell BY_10.out.c0))
                  have BZ_11 := Lib.hid (BZ_10.out.below hs11 (lt_of_cell BZ_10.out.c0))
                  have HGw15_11 := Lib.hid (below_next HGw15.out hs11)
                  have HW_11 := Lib.hid (below_next HW_10.out hs11)
                  clear hs11 BX_10 BY_10 BZ_10 HGw15
                  have Q2 := Lib.hid (P2.out ⟨y15, a15, c15⟩ w15 _ HW_10.out K15.out HGw15_11.out (by rw [show y15 = e1 from T15.out]; exact hu1))
                  (try simp only at Q2)
                  rw [show putO y15 ms q = some e3 from by rw [show y15 = e1 from T15.out]; exact HE3.out] at Q2
                  obtain ⟨B150, B151, B152, B153, _, _, _, _⟩ := B15.out
                  obtain ⟨BZ0, BZ1, BZ2, BZ3, _, _, _, _⟩ := BZ_11.out
                  go_wp2_with fail
                  refine Q2.out.mono ?_; rintro e w17 ⟨⟨y17, a17, c17⟩, he, hyt, hyf, hb17⟩; rename_i K1 hK1 K2 hK2
                  clear B150 B151 B152 B153 BZ0 BZ1 BZ2 BZ3
                  obtain rfl := he
                  have T17 := Lib.hid (show y17 = e3 from hyt)
                  have F17 := Lib.hid hyf
                  clear hyt hyf
                  have hs12 : Below (w15.alloc (.cells #[.int .i64 y15.kind, .string y15.name, .int .i64 y15.n, .slice a15 y15.args.length c15] 24)).heap.size (w15.alloc (.cells #[.int .i64 y15.kind, .string y15.name, .int .i64 y15.n, .slice a15 y15.args.length c15] 24)) w17 := hb17
                  have BX_12 := Lib.hid (BX_11.out.below hs12 (lt_of_cell BX_11.out.c0))
                  have BY_12 := Lib.hid (BY_11.out.below hs12 (lt_of_cell BY_11.out.c0))
                  have BZ_12 := Lib.hid (BZ_11.out.below hs12 (lt_of_cell BZ_11.out.c0))
                  have B15_12 := Lib.hid (B15.out.below hs12 (lt_of_cell B15.out.c0))
                  have HGw15_12 := Lib.hid (below_next HGw15_11.out hs12)
                  have HW_12 := Lib.hid (below_next HW_11.out hs12)
                  clear hs12 BX_11 BY_11 BZ_11 B15 HGw15_11 HW_11
                  have S17 := Lib.hid hb17.size
                  clear hb17
                  simp only [Tv.val, Option.isSome_some]
                  have HGw15_13 := Lib.hid (below_sets HGw15_12.out (Nat.le_refl _) (.int .i64 y17.kind) (.string y17.name) (.int .i64 y17.n) (.slice a17 y17.args.length c17))
                  have HW_13 := Lib.hid (below_sets HW_12.out LEw15.out (.int .i64 y17.kind) (.string y17.name) (.int .i64 y17.n) (.slice a17 y17.args.length c17))
                  have BX_13 := Lib.hid (BX_12.out.asides NEBXw15.out (.int .i64 y17.kind) (.string y17.name) (.int .i64 y17.n) (.slice a17 y17.args.length c17))
                  have BY_13 := Lib.hid (BY_12.out.asides NEBYw15.out (.int .i64 y17.kind) (.string y17.name) (.int .i64 y17.n) (.slice a17 y17.args.length c17))
                  have BZ_13 := Lib.hid (BZ_12.out.asides NEBZw15.out (.int .i64 y17.kind) (.string y17.name) (.int .i64 y17.n) (.slice a17 y17.args.length c17))
                  have B15_13 := Lib.hid (B15_12.out.sets (.int .i64 y17.kind) (.string y17.name) (.int .i64 y17.n) (.slice a17 y17.args.length c17))
                  clear HGw15_12 HW_12 BX_12 BY_12 BZ_12
                  obtain ⟨V13, hV13⟩ : ∃ V, V = ((((w17.setCell ⟨w15.heap.size, 0, none⟩ (.int .i64 y17.kind)).setCell ⟨w15.heap.size, 1, none⟩ (.string y17.name)).setCell ⟨w15.heap.size, 2, none⟩ (.int .i64 y17.n)).setCell ⟨w15.heap.size, 3, none⟩ (.slice a17 y17.args.length c17)) := ⟨_, rfl⟩
                  have SEV13 := Lib.hid (sets_heap w17 w15.heap.size (.int .i64 y17.kind) (.string y17.name) (.int .i64 y17.n) (.slice a17 y17.args.length c17))
                  rw [← hV13] at HGw15_13 HW_13 SEV13 BX_13 BY_13 BZ_13 B15_13
                  obtain ⟨st0, st1, st2, st3, fz0, fz1, fz2, fz3⟩ := B15_12.out
                  have HK1 := Lib.hid hK1
                  clear hK1
                  go_wp2_with fail
                  rw [← hV13]
                  clear hV13 st0 st1 st2 st3 fz0 fz1 fz2 fz3 B15_12
                  refine HK1.out _ _ ?_
                  clear HK1
                  have K17 := Lib.hid (store_fresh F17.out HGw15_13.out SEV13.out)
                  have Q3 := Lib.hid (P3.out _ HW_13.out hp5)
                  (try simp only at Q3)
                  rw [HE2.out] at Q3
                  clear P3
                  obtain ⟨BX0, BX1, BX2, BX3, _, _, _, _⟩ := BX_13.out
                  obtain ⟨BZ0, BZ1, BZ2, BZ3, _, _, _, _⟩ := BZ_13.out
                  go_wp2_with fail
                  refine Q3.out.mono ?_; rintro e w19 ⟨⟨y19, a19, c19⟩, he, hyt, hyf, hb19⟩
                  clear BX0 BX1 BX2 BX3 BZ0 BZ1 BZ2 BZ3
                  obtain rfl := he
                  have T19 := Lib.hid (show y19 = e2 from hyt)
                  have hs14 : Below V13.heap.size V13 w19 := hb19
                  have BX_14 := Lib.hid (BX_13.out.below hs14 (lt_of_cell BX_13.out.c0))
                  have BY_14 := Lib.hid (BY_13.out.below hs14 (lt_of_cell BY_13.out.c0))
                  have BZ_14 := Lib.hid (BZ_13.out.below hs14 (lt_of_cell BZ_13.out.c0))
                  have B15_14 := Lib.hid (B15_13.out.below hs14 (lt_of_cell B15_13.out.c0))
                  have K17_14 := Lib.hid (K17.out.below hs14)
                  have HW_14 := Lib.hid (below_next HW_13.out hs14)
                  clear hs14 BX_13 BY_13 BZ_13 B15_13 K17 HW_13
                  have K19 := Lib.hid (hyf.ok HW_14.out)
                  clear hyt hyf hb19
                  simp only [Tv.val, Option.isSome_some]
                  have LEw19 := Lib.hid (show w.heap.size ≤ w19.heap.size from HW_14.out.size)
                  have NEBXw19 := Lib.hid (Nat.ne_of_lt (lt_of_cell BX_14.out.c0))
                  have NEBYw19 := Lib.hid (Nat.ne_of_lt (lt_of_cell BY_14.out.c0))
                  have NEBZw19 := Lib.hid (Nat.ne_of_lt (lt_of_cell BZ_14.out.c0))
                  have NEB15w19 := Lib.hid (Nat.ne_of_lt (lt_of_cell B15_14.out.c0))
                  have HGw19 := Lib.hid (Below.refl w19.heap.size w19)
                  have B17 := Lib.hid (box_new w19 (.int .i64 y19.kind) (.string y19.name) (.int .i64 y19.n) (.slice a19 y19.args.length c19) 24)
                  have hs15 : Below w19.heap.size w19 (w19.alloc (.cells #[.int .i64 y19.kind, .string y19.name, .int .i64 y19.n, .slice a19 y19.args.length c19] 24)) := (Below.refl _ _).alloc (Nat.le_refl _) _
                  have BX_15 := Lib.hid (BX_14.out.below hs15 (lt_of_cell BX_14.out.c0))
                  have BY_15 := Lib.hid (BY_14.out.below hs15 (lt_of_cell BY_14.out.c0))
                  have BZ_15 := Lib.hid (BZ_14.out.below hs15 (lt_of_cell BZ_14.out.c0))
                  have B15_15 := Lib.hid (B15_14.out.below hs15 (lt_of_cell B15_14.out.c0))
                  have K17_15 := Lib.hid (K17_14.out.below hs15)
                  have HGw19_15 := Lib.hid (below_next HGw19.out hs15)
                  have HW_15 := Lib.hid (below_next HW_14.out hs15)
                  clear hs15 BX_14 BY_14 BZ_14 B15_14 HGw19
                  have Q4 := Lib.hid (P4.out ⟨y19, a19, c19⟩ w19 _ HW_14.out K19.out HGw19_15.out (by rw [show y19 = e2 from T19.out]; exact hu2))
                  (try simp only at Q4)
                  rw [show putO y19 ns u = some e3 from by rw [show y19 = e2 from T19.out]; exact HE4.out] at Q4
                  obtain ⟨B170, B171, B172, B173, _, _, _, _⟩ := B17.out
                  obtain ⟨BY0, BY1, BY2, BY3, _, _, _, _⟩ := BY_15.out
                  go_wp2_with fail
                  refine Q4.out.mono ?_; rintro e w21 ⟨⟨y21, a21, c21⟩, he, hyt, hyf, hb21⟩; rename_i K1 hK1 K2 hK2
                  clear B170 B171 B172 B173 BY0 BY1 BY2 BY3
                  obtain rfl := he
                  have T21 := Lib.hid (show y21 = e3 from hyt)
                  have F21 := Lib.hid hyf
                  clear hyt hyf
                  have hs16 : Below (w19.alloc (.cells #[.int .i64 y19.kind, .string y19.name, .int .i64 y19.n, .slice a19 y19.args.length c19] 24)).heap.size (w19.alloc (.cells #[.int .i64 y19.kind, .string y19.name, .int .i64 y19.n, .slice a19 y19.args.length c19] 24)) w21 := hb21
                  have BX_16 := Lib.hid (BX_15.out.below hs16 (lt_of_cell BX_15.out.c0))
                  have BY_16 := Lib.hid (BY_15.out.below hs16 (lt_of_cell BY_15.out.c0))
                  have BZ_16 := Lib.hid (BZ_15.out.below hs16 (lt_of_cell BZ_15.out.c0))
                  have B15_16 := Lib.hid (B15_15.out.below hs16 (lt_of_cell B15_15.out.c0))
                  have B17_16 := Lib.hid (B17.out.below hs16 (lt_of_cell B17.out.c0))
                  have K17_16 := Lib.hid (K17_15.out.below hs16)
                  have HGw19_16 := Lib.hid (below_next HGw19_15.out hs16)
                  have HW_16 := Lib.hid (below_next HW_15.out hs16)
                  clear hs16 BX_15 BY_15 BZ_15 B15_15 B17 K17_15 HGw19_15 HW_15
                  clear hb21
                  simp only [Tv.val, Option.isSome_some]
                  have HGw19_17 := Lib.hid (below_sets HGw19_16.out (Nat.le_refl _) (.int .i64 y21.kind) (.string y21.name) (.int .i64 y21.n) (.slice a21 y21.args.length c21))
                  have HW_17 := Lib.hid (below_sets HW_16.out LEw19.out (.int .i64 y21.kind) (.string y21.name) (.int .i64 y21.n) (.slice a21 y21.args.length c21))
                  have BX_17 := Lib.hid (BX_16.out.asides NEBXw19.out (.int .i64 y21.kind) (.string y21.name) (.int .i64 y21.n) (.slice a21 y21.args.length c21))
                  have BY_17 := Lib.hid (BY_16.out.asides NEBYw19.out (.int .i64 y21.kind) (.string y21.name) (.int .i64 y21.n) (.slice a21 y21.args.length c21))
                  have BZ_17 := Lib.hid (BZ_16.out.asides NEBZw19.out (.int .i64 y21.kind) (.string y21.name) (.int .i64 y21.n) (.slice a21 y21.args.length c21))
                  have B15_17 := Lib.hid (B15_16.out.asides NEB15w19.out (.int .i64 y21.kind) (.string y21.name) (.int .i64 y21.n) (.slice a21 y21.args.length c21))
                  have B17_17 := Lib.hid (B17_16.out.sets (.int .i64 y21.kind) (.string y21.name) (.int .i64 y21.n) (.slice a21 y21.args.length c21))
                  have K17_17 := Lib.hid (K17_14.out.below HGw19_17.out)
                  clear HGw19_16 HW_16 BX_16 BY_16 BZ_16 B15_16 K17_16
                  obtain ⟨V17, hV17⟩ : ∃ V, V = ((((w21.setCell ⟨w19.heap.size, 0, none⟩ (.int .i64 y21.kind)).setCell ⟨w19.heap.size, 1, none⟩ (.string y21.name)).setCell ⟨w19.heap.size, 2, none⟩ (.int .i64 y21.n)).setCell ⟨w19.heap.size, 3, none⟩ (.slice a21 y21.args.length c21)) := ⟨_, rfl⟩
                  have SEV17 := Lib.hid (sets_heap w21 w19.heap.size (.int .i64 y21.kind) (.string y21.name) (.int .i64 y21.n) (.slice a21 y21.args.length c21))
                  rw [← hV17] at HGw19_17 HW_17 SEV17 BX_17 BY_17 BZ_17 B15_17 B17_17 K17_17
                  obtain ⟨st0, st1, st2, st3, fz0, fz1, fz2, fz3⟩ := B17_16.out
                  have HK1 := Lib.hid hK1
                  clear hK1
                  go_wp2_with fail
                  rw [← hV17]
                  clear hV17 st0 st1 st2 st3 fz0 fz1 fz2 fz3 B17_16
                  refine HK1.out _ _ ?_
                  clear HK1
                  have K21 := Lib.hid (store_fresh F21.out HGw19_17.out SEV17.out)
                  have QQ23 := Lib.hid (A1.out ⟨y17, a17, c17⟩ _ HW_17.out K17_17.out)
                  (try simp only at QQ23)
                  rw [show atT y17 ns = some u from by rw [show y17 = e3 from T17.out]; exact HE5.out] at QQ23
                  obtain ⟨B150, B151, B152, B153, _, _, _, _⟩ := B15_17.out
                  go_wp2_with fail
                  refine QQ23.out.mono ?_; rintro e w23 ⟨⟨y23, a23, c23⟩, he, hyt, hyo, hb23⟩
                  clear B150 B151 B152 B153
                  obtain rfl := he
                  have T23 := Lib.hid (show y23 = u from hyt)
                  have K23 := Lib.hid hyo
                  clear hyt hyo
                  have hs18 : Below V17.heap.size V17 w23 := hb23
                  have BX_18 := Lib.hid (BX_17.out.below hs18 (lt_of_cell BX_17.out.c0))
                  have BY_18 := Lib.hid (BY_17.out.below hs18 (lt_of_cell BY_17.out.c0))
                  have BZ_18 := Lib.hid (BZ_17.out.below hs18 (lt_of_cell BZ_17.out.c0))
                  have B15_18 := Lib.hid (B15_17.out.below hs18 (lt_of_cell B15_17.out.c0))
                  have B17_18 := Lib.hid (B17_17.out.below hs18 (lt_of_cell B17_17.out.c0))
                  have K17_18 := Lib.hid (K17_17.out.below hs18)
                  have K21_18 := Lib.hid (K21.out.below hs18)
                  have K23_18 := Lib.hid (K23.out.below hs18)
                  have HW_18 := Lib.hid (below_next HW_17.out hs18)
                  clear hs18 BX_17 BY_17 BZ_17 B15_17 B17_17 K17_17 K21 K23 HW_17
                  clear hb23
                  simp only [Tv.val, Option.isSome_some]
                  have B23 := Lib.hid (box_new w23 (.int .i64 y23.kind) (.string y23.name) (.int .i64 y23.n) (.slice a23 y23.args.length c23) 24)
                  have hs19 : Below w23.heap.size w23 (w23.alloc (.cells #[.int .i64 y23.kind, .string y23.name, .int .i64 y23.n, .slice a23 y23.args.length c23] 24)) := (Below.refl _ _).alloc (Nat.le_refl _) _
                  have BX_19 := Lib.hid (BX_18.out.below hs19 (lt_of_cell BX_18.out.c0))
                  have BY_19 := Lib.hid (BY_18.out.below hs19 (lt_of_cell BY_18.out.c0))
                  have BZ_19 := Lib.hid (BZ_18.out.below hs19 (lt_of_cell BZ_18.out.c0))
                  have B15_19 := Lib.hid (B15_18.out.below hs19 (lt_of_cell B15_18.out.c0))
                  have B17_19 := Lib.hid (B17_18.out.below hs19 (lt_of_cell B17_18.out.c0))
                  have K17_19 := Lib.hid (K17_18.out.below hs19)
                  have K21_19 := Lib.hid (K21_18.out.below hs19)
                  have K23_19 := Lib.hid (K23_18.out.below hs19)
                  have HW_19 := Lib.hid (below_next HW_18.out hs19)
                  clear hs19 BX_18 BY_18 BZ_18 B15_18 B17_18 K17_18 K21_18 K23_18 HW_18
                  have QQ25 := Lib.hid (A2.out ⟨y17, a17, c17⟩ _ HW_19.out K17_19.out)
                  (try simp only at QQ25)
                  rw [show atT y17 ms = some q from by rw [show y17 = e3 from T17.out]; exact HE6.out] at QQ25
                  obtain ⟨B150, B151, B152, B153, _, _, _, _⟩ := B15_19.out
                  go_wp2_with fail
                  refine QQ25.out.mono ?_; rintro e w25 ⟨⟨y25, a25, c25⟩, he, hyt, hyo, hb25⟩
                  clear B150 B151 B152 B153
                  obtain rfl := he
                  have T25 := Lib.hid (show y25 = q from hyt)
                  have K25 := Lib.hid hyo
                  clear hyt hyo
                  have hs20 : Below (w23.alloc (.cells #[.int .i64 y23.kind, .string y23.name, .int .i64 y23.n, .slice a23 y23.args.length c23] 24)).heap.size (w23.alloc (.cells #[.int .i64 y23.kind, .string y23.name, .int .i64 y23.n, .slice a23 y23.args.length c23] 24)) w25 := hb25
                  have BX_20 := Lib.hid (BX_19.out.below hs20 (lt_of_cell BX_19.out.c0))
                  have BY_20 := Lib.hid (BY_19.out.below hs20 (lt_of_cell BY_19.out.c0))
                  have BZ_20 := Lib.hid (BZ_19.out.below hs20 (lt_of_cell BZ_19.out.c0))
                  have B15_20 := Lib.hid (B15_19.out.below hs20 (lt_of_cell B15_19.out.c0))
                  have B17_20 := Lib.hid (B17_19.out.below hs20 (lt_of_cell B17_19.out.c0))
                  have B23_20 := Lib.hid (B23.out.below hs20 (lt_of_cell B23.out.c0))
                  have K17_20 := Lib.hid (K17_19.out.below hs20)
                  have K21_20 := Lib.hid (K21_19.out.below hs20)
                  have K23_20 := Lib.hid (K23_19.out.below hs20)
                  have K25_20 := Lib.hid (K25.out.below hs20)
                  have HW_20 := Lib.hid (below_next HW_19.out hs20)
                  clear hs20 BX_19 BY_19 BZ_19 B15_19 B17_19 B23 K17_19 K21_19 K23_19 K25 HW_19
                  clear hb25
                  simp only [Tv.val, Option.isSome_some]
                  have B25 := Lib.hid (box_new w25 (.int .i64 y25.kind) (.string y25.name) (.int .i64 y25.n) (.slice a25 y25.args.length c25) 24)
                  have hs21 : Below w25.heap.size w25 (w25.alloc (.cells #[.int .i64 y25.kind, .string y25.name, .int .i64 y25.n, .slice a25 y25.args.length c25] 24)) := (Below.refl _ _).alloc (Nat.le_refl _) _
                  have BX_21 := Lib.hid (BX_20.out.below hs21 (lt_of_cell BX_20.out.c0))
                  have BY_21 := Lib.hid (BY_20.out.below hs21 (lt_of_cell BY_20.out.c0))
                  have BZ_21 := Lib.hid (BZ_20.out.below hs21 (lt_of_cell BZ_20.out.c0))
                  have B15_21 := Lib.hid (B15_20.out.below hs21 (lt_of_cell B15_20.out.c0))
                  have B17_21 := Lib.hid (B17_20.out.below hs21 (lt_of_cell B17_20.out.c0))
                  have B23_21 := Lib.hid (B23_20.out.below hs21 (lt_of_cell B23_20.out.c0))
                  have K17_21 := Lib.hid (K17_20.out.below hs21)
                  have K21_21 := Lib.hid (K21_20.out.below hs21)
                  have K23_21 := Lib.hid (K23_20.out.below hs21)
                  have K25_21 := Lib.hid (K25_20.out.below hs21)
                  have HW_21 := Lib.hid (below_next HW_20.out hs21)
                  clear hs21 BX_20 BY_20 BZ_20 B15_20 B17_20 B23_20 K17_20 K21_20 K23_20 K25_20 HW_20
                  have S27 := Lib.hid (SA.out ⟨y17, a17, c17⟩ ⟨y21, a21, c21⟩ _ (show y17 = y21 from T17.out.trans T21.out.symm) K17_21.out K21_21.out)
                  (try simp only at S27)
                  obtain ⟨B150, B151, B152, B153, _, _, _, _⟩ := B15_21.out
                  obtain ⟨B170, B171, B172, B173, _, _, _, _⟩ := B17_21.out
                  go_wp2_with fail
                  refine S27.out.mono ?_; rintro e w27 ⟨rfl, hb27⟩
                  clear B150 B151 B152 B153 B170 B171 B172 B173
                  have hs22 : Below (w25.alloc (.cells #[.int .i64 y25.kind, .string y25.name, .int .i64 y25.n, .slice a25 y25.args.length c25] 24)).heap.size (w25.alloc (.cells #[.int .i64 y25.kind, .string y25.name, .int .i64 y25.n, .slice a25 y25.args.length c25] 24)) w27 := hb27
                  have BX_22 := Lib.hid (BX_21.out.below hs22 (lt_of_cell BX_21.out.c0))
                  have BY_22 := Lib.hid (BY_21.out.below hs22 (lt_of_cell BY_21.out.c0))
                  have BZ_22 := Lib.hid (BZ_21.out.below hs22 (lt_of_cell BZ_21.out.c0))
                  have B15_22 := Lib.hid (B15_21.out.below hs22 (lt_of_cell B15_21.out.c0))
                  have B17_22 := Lib.hid (B17_21.out.below hs22 (lt_of_cell B17_21.out.c0))
                  have B23_22 := Lib.hid (B23_21.out.below hs22 (lt_of_cell B23_21.out.c0))
                  have B25_22 := Lib.hid (B25.out.below hs22 (lt_of_cell B25.out.c0))
                  have K17_22 := Lib.hid (K17_21.out.below hs22)
                  have K21_22 := Lib.hid (K21_21.out.below hs22)
                  have K23_22 := Lib.hid (K23_21.out.below hs22)
                  have K25_22 := Lib.hid (K25_21.out.below hs22)
                  have HW_22 := Lib.hid (below_next HW_21.out hs22)
                  clear hs22 BX_21 BY_21 BZ_21 B15_21 B17_21 B23_21 B25 K17_21 K21_21 K23_21 K25_21 HW_21
                  clear hb27
                  have S28 := Lib.hid (SA.out ⟨y23, a23, c23⟩ ⟨u, ay, cy⟩ _ T23.out K23_22.out (KY.out.below HW_22.out))
                  (try simp only at S28)
                  obtain ⟨B230, B231, B232, B233, _, _, _, _⟩ := B23_22.out
                  obtain ⟨BY0, BY1, BY2, BY3, _, _, _, _⟩ := BY_22.out
                  go_wp2_with fail
                  refine S28.out.mono ?_; rintro e w28 ⟨rfl, hb28⟩
                  clear B230 B231 B232 B233 BY0 BY1 BY2 BY3
                  have hs23 : Below w27.heap.size w27 w28 := hb28
                  have BX_23 := Lib.hid (BX_22.out.below hs23 (lt_of_cell BX_22.out.c0))
                  have BY_23 := Lib.hid (BY_22.out.below hs23 (lt_of_cell BY_22.out.c0))
                  have BZ_23 := Lib.hid (BZ_22.out.below hs23 (lt_of_cell BZ_22.out.c0))
                  have B15_23 := Lib.hid (B15_22.out.below hs23 (lt_of_cell B15_22.out.c0))
                  have B17_23 := Lib.hid (B17_22.out.below hs23 (lt_of_cell B17_22.out.c0))
                  have B23_23 := Lib.hid (B23_22.out.below hs23 (lt_of_cell B23_22.out.c0))
                  have B25_23 := Lib.hid (B25_22.out.below hs23 (lt_of_cell B25_22.out.c0))
                  have K17_23 := Lib.hid (K17_22.out.below hs23)
                  have K21_23 := Lib.hid (K21_22.out.below hs23)
                  have K23_23 := Lib.hid (K23_22.out.below hs23)
                  have K25_23 := Lib.hid (K25_22.out.below hs23)
                  have HW_23 := Lib.hid (below_next HW_22.out hs23)
                  clear hs23 BX_22 BY_22 BZ_22 B15_22 B17_22 B23_22 B25_22 K17_22 K21_22 K23_22 K25_22 HW_22
                  clear hb28
                  have S29 := Lib.hid (SA.out ⟨y25, a25, c25⟩ ⟨q, az, cz⟩ _ T25.out K25_23.out (KZ.out.below HW_23.out))
                  (try simp only at S29)
                  obtain ⟨B250, B251, B252, B253, _, _, _, _⟩ := B25_23.out
                  obtain ⟨BZ0, BZ1, BZ2, BZ3, _, _, _, _⟩ := BZ_23.out
                  go_wp2_with fail
                  refine S29.out.mono ?_; rintro e w29 ⟨rfl, hb29⟩
                  clear B250 B251 B252 B253 BZ0 BZ1 BZ2 BZ3
                  have hs24 : Below w28.heap.size w28 w29 := hb29
                  have BX_24 := Lib.hid (BX_23.out.below hs24 (lt_of_cell BX_23.out.c0))
                  have BY_24 := Lib.hid (BY_23.out.below hs24 (lt_of_cell BY_23.out.c0))
                  have BZ_24 := Lib.hid (BZ_23.out.below hs24 (lt_of_cell BZ_23.out.c0))
                  have B15_24 := Lib.hid (B15_23.out.below hs24 (lt_of_cell B15_23.out.c0))
                  have B17_24 := Lib.hid (B17_23.out.below hs24 (lt_of_cell B17_23.out.c0))
                  have B23_24 := Lib.hid (B23_23.out.below hs24 (lt_of_cell B23_23.out.c0))
                  have B25_24 := Lib.hid (B25_23.out.below hs24 (lt_of_cell B25_23.out.c0))
                  have K17_24 := Lib.hid (K17_23.out.below hs24)
                  have K21_24 := Lib.hid (K21_23.out.below hs24)
                  have K23_24 := Lib.hid (K23_23.out.below hs24)
                  have K25_24 := Lib.hid (K25_23.out.below hs24)
                  have HW_24 := Lib.hid (below_next HW_23.out hs24)
                  clear hs24 BX_23 BY_23 BZ_23 B15_23 B17_23 B23_23 B25_23 K17_23 K21_23 K23_23 K25_23 HW_23
                  clear hb29
                  have HE := Lib.hid HW_24.out
                  go_wp2_with fail
                  go_ret
                  exact ⟨rfl, HE.out⟩
end Go.Proofs.Ytniikfihfeledaa
