/-
  Two rows of functions joined, by package sign: Join.
  A theory as a value: a row of functions, a row of rules. No function of the program.
  Whether two terms are alike, by the reference of layer 3: Same, for any two terms in memory.
-/
import Derived.Test.YtnbjpgdnfklanaaGreatDoorT41
import Derived.Deep.RegionHeld3
import Derived.Test.YtnbjpgdnfklanaaGreatDoorT02
import Derived.Test.YtnbjpgdnfklanaaGreatDoorT04
import Derived.Test.YtnbjpgdnfklanaaGreatDoorT01
import Derived.StillTailTactics
namespace Go.Proofs.YtnbjpgdnfklanaaGreatDoor
open Go.RowKit Go.Maps
def HasRow (va : Value) (V : World) (g : Nat) : Prop := g < V.heap.size ∧ V.cell? ⟨g, 0, none⟩ = some va
theorem hasRow_new (va : Value) (V : World) : HasRow va (V.alloc (.cells #[va] 23)) V.heap.size := by
  refine ⟨by simp, ?_⟩
  rw [World.cell?_alloc_new]; rfl
theorem HasRow.below {va : Value} {V V' : World} {g : Nat} (h : HasRow va V g) (hb : Below V.heap.size V V') : HasRow va V' g :=
  ⟨Nat.lt_of_lt_of_le h.1 hb.size, (hb.cell (p := ⟨g, 0, none⟩) h.1).trans h.2⟩
def SetG (fs : List Fn) (V : World) (b : Nat) : Prop := V.ownsMap Tryz.prog 75 (unitElem (H := Unit)) b fs.length (fnSet fs)
theorem SetG.below {fs : List Fn} {V V' : World} {b : Nat} (h : SetG fs V b) (hb : Below V.heap.size V V') : SetG fs V' b := World.ownsMap.kept h (grown_of_below hb) (by simp)
set_option maxRecDepth 100000 in
set_option maxHeartbeats 4000000 in
theorem joinI_any : JoinI := by
  intro va vb fs bs w ha hb hma hmb
  have HFA := Lib.hid ha
  obtain ⟨aa, na, ca, rfl⟩ : ∃ a n c, va = .slice a n c := by obtain ⟨a, c, h, _⟩ := ha; exact ⟨a, _, c, h⟩
  obtain rfl := ha.news.1
  have hka : ∀ f ∈ fs, FnKey f := fun f hf => fnKey_of (ha.ok f hf) (by have := hma.size f hf; omega)
  have HKA := Lib.hid hka
  have HKB := Lib.hid (show ∀ f ∈ bs, FnKey f from fun f hf => fnKey_of (hb.ok f hf) (by have := hmb.size f hf; omega))
  have hla := hma.len
  have CAT := fun (V : World) (g : Nat) (h : Below w.heap.size w V) (hr : HasRow (.slice aa fs.length ca) V g) =>
    pconcat_fn [(.slice aa fs.length ca, fs)] g 1 V ⟨hr.1, fun k hk => by
      match k, hk with
      | 0, _ => exact ⟨hr.2, ha.below h⟩
      | k + 1, h => exact absurd (show k + 1 < 1 from h) (by omega)⟩ (by simp) (by simp) (by simp [flatF]; omega)
  have FL : flatF [((.slice aa fs.length ca : Value), fs)] = fs := by simp [flatF]
  rw [FL] at CAT
  have C1 := Lib.hid (fun (V : World) (g : Nat) (h : Below w.heap.size w V) (hr : HasRow (.slice aa fs.length ca) V g) => (CAT V g h hr).mono fun e V' hh => (show ∃ u n c, e = .returned (.slice u n c) ∧ Below w.heap.size w V' ∧ Fus V' (.slice u n c) fs from by
    obtain ⟨u, h1, h2, h3⟩ := hh
    have h4 := h2.fus (by omega)
    obtain ⟨a, c, rfl, _⟩ := id h4
    exact ⟨a, _, c, h1, below_next h h3, h4⟩))
  have S3 := Lib.hid (fun (V : World) (u : Value) (h : Below w.heap.size w V) (hr : Fus V u fs) => (psetOf_any _ fs V (ha.below h) hka (by omega)).mono fun e V' hh => (show ∃ b, e = .returned (.map (some b)) ∧ Below w.heap.size w V' ∧ SetG fs V' b ∧ Fus V' u fs from by
    obtain ⟨b, h1, h2, h3⟩ := hh
    exact ⟨b, h1, below_next h h3, h2, hr.below h3⟩))
  have HAS := Lib.hid (fun (V : World) (b : Nat) (x : Fn) (hx : FnKey x) (h : SetG fs V b) => phas_fn b fs.length fs x V h hka hx)
  have ADD := Lib.hid (fun (V : World) (u : Value) (os : List Fn) (x : Fn) (hu : Fus V u os) (hx : FnOk x) (hs : x.1.size ≤ 1000) (hl : os.length ≤ 1000) => padd_any u os x V hu hx (by omega) hl)
  have HA0 := Lib.hid (show Below w.heap.size w (w.alloc (.cells #[.slice aa fs.length ca] 23)) from (Below.refl _ _).alloc (Nat.le_refl _) _)
  have HR0 := Lib.hid (hasRow_new (.slice aa fs.length ca) w)
  have HMS := Lib.hid (fun (f : Fn) (hf : f ∈ bs) => hmb.size f hf)
  have HBO := Lib.hid hb.ok
  obtain ⟨ab, nb, cb, rfl⟩ : ∃ a n c, vb = .slice a n c := by obtain ⟨a, c, h, _⟩ := hb; exact ⟨a, _, c, h⟩
  obtain ⟨ab', cb', hvb', hlb, hrow⟩ := hb
  cases hvb'
  have HRB := Lib.hid hrow
  have HMA := Lib.hid hma
  clear CAT FL hka ha hma hmb hrow HKA
  go_enter Tryz.func30, Tryz.ntmps30
  go_wp2_with fail
  refine (C1.out _ _ HA0.out HR0.out).mono ?_; rintro e w1 ⟨au, nu, cu, rfl, hb1, hu1⟩
  go_wp2_with fail
  refine (S3.out _ _ hb1 hu1).mono ?_; rintro e w2 ⟨bm, rfl, hb2, hs2, hu2⟩
  have HB2 := Lib.hid hb2
  have HS2 := Lib.hid hs2
  have HU2 := Lib.hid hu2
  clear hb1 hu1 hb2 hs2 hu2 C1 S3 HA0 HR0
  go_wp2_with fail
  go_loopw [6, 19] (fun u i wr => ∃ (k : Nat) (os : List Fn), k ≤ bs.length ∧ i = .int .i64 k ∧ Hid (Fus wr u os) ∧ Hid (joinR fs fs bs = joinR fs os (bs.drop k)) ∧ os.length ≤ 940 ∧ Hid (SetG fs wr bm) ∧ Hid (Below w.heap.size w wr)) (fun _ i _ => bs.length - (intOf i).toNat)
  case atStart => exact ⟨0, fs, Nat.zero_le _, rfl, HU2, Lib.hid rfl, by omega, HS2, HB2⟩
  case round =>
    obtain ⟨k, os, hk, rfl, HU, HJ, ho, HS, HB⟩ := hrel
    by_cases hkl : k < bs.length
    · obtain ⟨b, o, rfl, hlt, hat⟩ := HRB.out.resolve_left (by intro h; rw [h] at hkl; simp at hkl)
      obtain ⟨x, hx⟩ : ∃ x, bs[k]? = some x := ⟨_, List.getElem?_eq_getElem hkl⟩
      have hA := hat k x hx
      have m0 := (HB.out.cell (p := ⟨b, o + k * 2, none⟩) hlt).trans hA.c0
      have m1 := (HB.out.cell (p := ⟨b, o + k * 2 + 1, none⟩) hlt).trans hA.c1
      have hk0 : (0 : Int) ≤ (k : Int) := by omega
      have hk1 : (k : Int) < (bs.length : Int) := by omega
      have hBA := (Below.refl wr.heap.size wr).alloc (Nat.le_refl _) (.cells #[.string x.1, .int .i64 x.2] 75)
      have HBA := Lib.hid hBA
      have HX := Lib.hid hx
      have C := Lib.hid (HAS.out _ bm x (HKB.out x (List.mem_of_getElem? hx)) (HS.out.below hBA))
      have AD := Lib.hid (fun (W : World) (h : Below wr.heap.size wr W) => ADD.out W u6 os x (HU.out.below h) (HBO.out x (List.mem_of_getElem? hx)) (HMS.out x (List.mem_of_getElem? hx)) (by omega))
      have HP := Lib.hid (fun W (h : Below (wr.heap.size + 1) (wr.alloc (.cells #[.string x.1, .int .i64 x.2] 75)) W) => pair_after h)
      have J1 := Lib.hid (fun h => HJ.out.trans (join_has (os := os) hx h))
      have J2 := Lib.hid (fun (h : hasFn fs x = false) (h0 : addE os x = 0) => HJ.out.trans (join_add hx h h0))
      have J3 := Lib.hid (fun (h : hasFn fs x = false) (h0 : addE os x ≠ 0) => HJ.out.trans (join_err hx h h0))
      have HL := Lib.hid (fun h0 : addE os x = 0 => (show os.length + 1 ≤ 940 by have := (addE_zero.1 h0).2.2; omega))
      clear hat hx hA hBA
      obtain ⟨a6, n6, c6, rfl⟩ : ∃ a n c, u6 = Value.slice a n c := by obtain ⟨a, c, h, _⟩ := HU.out; exact ⟨a, _, c, h⟩
      obtain ⟨xs, xn⟩ := x
      simp only at m0 m1 HBA HP
      unfold fnVal at C AD
      simp only at C AD
      cases hh : hasFn fs (xs, xn) with
      | true =>
        rw [hh] at C
        have HJ1 := Lib.hid (J1.out hh)
        clear hh J1 J2 J3 AD
        go_wp2_with fail
        refine C.out.mono ?_; rintro e w3 ⟨rfl, hb3⟩
        have HB3 := Lib.hid (below_next HBA.out hb3)
        clear hb3
        go_wp2_with fail
        go_roundw
        case rel => exact ⟨k + 1, os, by omega, by go_num, Lib.hid (HU.out.below HB3.out), HJ1, ho, Lib.hid (HS.out.below HB3.out), Lib.hid (below_next HB.out HB3.out)⟩
        case measure => simp [intOf]; omega
      | false =>
        rw [hh] at C
        have HJ2 := Lib.hid (J2.out hh)
        have HJ3 := Lib.hid (J3.out hh)
        clear hh J1 J2 J3
        go_wp2_with fail
        refine C.out.mono ?_; rintro e w3 ⟨rfl, hb3⟩
        have HB3 := Lib.hid (below_next HBA.out hb3)
        obtain ⟨q0, q1, _, _⟩ := HP.out w3 (hb3.mono (by simp))
        have A1 := Lib.hid (AD.out w3 HB3.out)
        clear hb3
        go_wp2_with fail
        refine A1.out.mono ?_; rintro e w4 ⟨u, rfl, hu, hb4⟩
        have HU4 := Lib.hid hu
        have HB4 := Lib.hid (below_next HB3.out hb4)
        clear hu hb4
        by_cases h0 : addE os (xs, xn) = 0
        · have HJ4 := Lib.hid (HJ2.out h0)
          have HO := Lib.hid (HL.out h0)
          have HU5 := Lib.hid (show Fus w4 u (os ++ [(xs, xn)]) from by rw [← addL_ok h0]; exact HU4.out)
          rw [h0]
          clear h0
          go_wp2_with fail
          go_roundw
          case rel => exact ⟨k + 1, os ++ [(xs, xn)], by omega, by go_num, HU5, HJ4, by rw [List.length_append, List.length_singleton]; exact HO.out, Lib.hid (HS.out.below HB4.out), Lib.hid (below_next HB.out HB4.out)⟩
          case measure => simp [intOf]; omega
        · have HJ4 := Lib.hid (HJ3.out h0)
          obtain ⟨n, hn⟩ : ∃ n, addE os (xs, xn) = n := ⟨_, rfl⟩
          rw [hn] at h0 HJ4 ⊢
          have h0' : (n != 0) = true := by simpa using h0
          clear hn h0 HL HJ2 HJ3
          have HB5 := Lib.hid (below_next HB.out HB4.out)
          go_wp2_with fail
          go_ret2
          exact ⟨.slice none 0 0, by rw [show joinE fs bs = n from by unfold joinE; rw [HJ4.out]]; rfl, by rw [show joinL fs bs = [] from by unfold joinL; rw [HJ4.out]]; exact Fus.none_ _ _ _, HB5.out⟩
    · have hke : k = bs.length := by omega
      have HJ0 := Lib.hid (show joinR fs fs bs = (0, os) by rw [HJ.out, hke, List.drop_length, joinR])
      clear hke
      go_wp2_with fail
      go_ret2
      exact ⟨u6, by rw [show joinE fs bs = 0 from by unfold joinE; rw [HJ0.out]]; rfl, by rw [show joinL fs bs = os from by unfold joinL; rw [HJ0.out]]; exact HU.out, HB.out⟩
end Go.Proofs.YtnbjpgdnfklanaaGreatDoor

namespace Go.Proofs.YtnbjpgdnfklanaaGreatDoor
open Go.RowKit
structure Yv where
  vf : Value
  vr : Value
  fs : List Fn
  rs : List Rl
def Yv.val (y : Yv) : Value := .agg #[y.vf, y.vr]
structure Yv.ok (w : World) (y : Yv) : Prop where
  funs : Fus w y.vf y.fs
  rules : Rls w y.vr y.rs
theorem Yv.ok.below {w w' : World} {y : Yv} (h : y.ok w) (hb : Below w.heap.size w w') : y.ok w' := ⟨h.funs.below hb, h.rules.below hb⟩
end Go.Proofs.YtnbjpgdnfklanaaGreatDoor

namespace Go.Proofs.YtnbjpgdnfklanaaGreatDoor
open Go.RowKit
set_option maxRecDepth 100000 in
set_option maxHeartbeats 2000000 in
theorem same_tm (m : Nat) : ∀ (x y : Tv) (w : World), x.t.parts ≤ m → x.ok w → y.ok w →
    Calls Tryz.prog 52 #[x.val, y.val] w fun e w' => e = .returned (.bool (eqT x.t y.t)) ∧ Below w.heap.size w w' := by
  induction m with
  | zero => intro x y w h; have := parts_pos x.t; omega
  | succ m ih =>
    intro x y w hm hx hy
    obtain ⟨⟨k, s, n, xs⟩, a, c⟩ := x
    obtain ⟨⟨k', s', n', ys⟩, a', c'⟩ := y
    obtain ⟨_, hxl, hxr⟩ := hx
    obtain ⟨_, hyl, hyr⟩ := hy
    simp only [Tv.val, Tm.kind, Tm.name, Tm.n, Tm.args] at hxl hxr hyl hyr ⊢
    have hpl : ∀ j (h : j < xs.length), xs[j].parts ≤ m := fun j h => by
      have := parts_arg (.mk k s n xs) (j := j) h
      have e : (Tm.mk k s n xs).args[j] = xs[j] := rfl
      rw [e] at this; simp only at hm; omega
    have hbb : Below w.heap.size w ((w.alloc (.cells #[.int .i64 k, .string s, .int .i64 n, .slice a xs.length c] 50)).alloc (.cells #[.int .i64 k', .string s', .int .i64 n', .slice a' ys.length c'] 50)) :=
      ((Below.refl _ _).alloc (Nat.le_refl _) _).alloc (by simp) _
    rcases tm_ways k k' s s' n n' xs.length ys.length with ⟨rfl, rfl, rfl, hlen⟩ | ⟨hne, hw⟩
    · have hq : ((xs.length : Int) != (ys.length : Int)) = false := by simp [hlen]
      have HL := Lib.hid hlen
      have IH := Lib.hid ih
      have HP := Lib.hid hpl
      clear ih hpl hm hlen
      rcases hxr with rfl | ⟨b, off, rfl, hlt, hr⟩
      · have : ys = [] := by simpa using HL.out.symm
        subst this
        have HE := Lib.hid (eqT_true (rfl : Tm.mk k s n [] = Tm.mk k s n []))
        go_enter Tryz.func52, Tryz.ntmps52
        go_wp2
        refine wp_loop_rounds 1 ?_; rw [rounds_succ]
        go_wp2
        go_ret
        exact ⟨ret_bool HE.out.symm, hbb⟩
      · rcases hyr with rfl | ⟨b', off', rfl, hlt', hr'⟩
        · have : xs = [] := by simpa using HL.out
          subst this
          have HE := Lib.hid (eqT_true (rfl : Tm.mk k s n [] = Tm.mk k s n []))
          go_enter Tryz.func52, Tryz.ntmps52
          go_wp2
          refine wp_loop_rounds 1 ?_; rw [rounds_succ]
          go_wp2
          go_ret
          exact ⟨ret_bool HE.out.symm, hbb⟩
        · have HR := Lib.hid hr
          have HR' := Lib.hid hr'
          clear hr hr'
          go_enter Tryz.func52, Tryz.ntmps52
          go_wp2
          go_loopw [37] (fun i wr => ∃ j : Nat, j ≤ xs.length ∧ i = .int .i64 j ∧ TmsTo xs ys j ∧ Below (w.heap.size + 2) ((w.alloc (.cells #[.int .i64 k, .string s, .int .i64 n, .slice (some ⟨b, off, none⟩) xs.length c] 50)).alloc (.cells #[.int .i64 k, .string s, .int .i64 n, .slice (some ⟨b', off', none⟩) ys.length c'] 50)) wr) (fun i _ => xs.length - (intOf i).toNat)
          case atStart => exact ⟨0, Nat.zero_le _, rfl, (fun j _ _ hk => by omega), Below.refl _ _⟩
          case round =>
            obtain ⟨j, hj, rfl, hal, hb⟩ := hrel
            have HA := Lib.hid hal
            clear hal
            by_cases hj1 : j < xs.length
            · have hj2 : j < ys.length := by have := HL.out; omega
              have hi1 : (j : Int) < (xs.length : Int) := by omega
              have hi2 : (j : Int) < (ys.length : Int) := by omega
              have hwr : Below w.heap.size w wr := hbb.trans (hb.mono (by omega))
              obtain ⟨u, hu, huk, d0, d1, d2, d3⟩ := tmAt_tv ((rowAt_get HR.out hj1).below hwr)
              obtain ⟨v, hv, hvk, g0, g1, g2, g3⟩ := tmAt_tv ((rowAt_get HR'.out hj2).below hwr)
              have p0 : wr.cell? ⟨w.heap.size, 3, none⟩ = some (.slice (some ⟨b, off, none⟩) xs.length c) := by
                rw [hb.cell (p := ⟨w.heap.size, 3, none⟩) (by show w.heap.size < _; omega)]
                exact ((box_new w _ _ _ _ _).below ((Below.refl _ _).alloc (Nat.le_refl _) _) (by simp)).c3
              have p1 : wr.cell? ⟨w.heap.size + 1, 3, none⟩ = some (.slice (some ⟨b', off', none⟩) ys.length c') := by
                rw [hb.cell (p := ⟨w.heap.size + 1, 3, none⟩) (by show w.heap.size + 1 < _; omega)]
                exact (box_next (w.alloc _) _ (by simp) _ _ _ _ _).c3
              have C := Lib.hid (fun w' (h : Below wr.heap.size wr w') => IH.out u v w' (by rw [hu]; exact HP.out j hj1) (huk.below h) (hvk.below h))
              have HU := Lib.hid hu
              have HV := Lib.hid hv
              clear hu hv huk hvk
              have hwz := hb.size
              simp at hwz
              cases he : eqT u.t v.t with
              | true =>
                rw [he] at C
                have HE := Lib.hid (eqT_iff.1 he)
                clear he
                go_wp2
                go_still_tail 10, (by kernel_rfl)
                go_wp2_with fail
                refine (C.out _ ((Below.refl _ _).drew)).mono ?_; rintro e w1 ⟨rfl, hb1⟩
                go_wp2_with fail
                go_roundw
                case rel => exact ⟨j + 1, by omega, by go_num, HA.out.succ hj1 hj2 (HU.out.symm.trans (HE.out.trans HV.out)), (hb.drew).trans (hb1.mono (by show w.heap.size + 2 ≤ wr.heap.size; omega))⟩
                case measure => simp [intOf]; omega
              | false =>
                rw [he] at C
                have HE : Hid (u.t ≠ v.t) := Lib.hid (fun e => by rw [eqT_true e] at he; cases he)
                clear he
                go_wp2
                go_still_tail 10, (by kernel_rfl)
                go_wp2_with fail
                refine (C.out _ ((Below.refl _ _).drew)).mono ?_; rintro e w1 ⟨rfl, hb1⟩
                go_wp2_with fail
                go_ret
                refine ⟨ret_bool (Eq.symm (eqT_false fun e => ?_)), hwr.drew.trans (hb1.mono (by show w.heap.size ≤ wr.heap.size; omega))⟩
                have ea := congrArg Tm.args e
                simp only [Tm.args] at ea
                subst ea
                exact HE.out (HU.out.trans HV.out.symm)
            · obtain rfl : j = xs.length := by omega
              go_wp2
              go_ret
              have e := HA.out.all HL.out
              exact ⟨ret_bool (eqT_true (by rw [e])).symm, hbb.trans (hb.mono (by omega))⟩
    · have h0 : eqT (Tm.mk k s n xs) (Tm.mk k' s' n' ys) = false := eqT_false fun e => hne (by cases e; exact ⟨rfl, rfl, rfl, rfl⟩)
      have HE := Lib.hid h0
      clear hne ih hpl hm h0
      rcases hw with hw | ⟨e0, hw | ⟨e1, hw | ⟨e2, hw⟩⟩⟩
      all_goals
        go_enter Tryz.func52, Tryz.ntmps52
        go_wp2
        go_ret
        exact ⟨ret_bool HE.out.symm, hbb⟩
end Go.Proofs.YtnbjpgdnfklanaaGreatDoor
