/-
  A bind looked for in a row that is sorted, by the library's own text.
-/
import Derived.Test.YtedljdcliilggaaU17
namespace Go.Proofs.Ytedljdcliilggaa
open Go.RowKit Go.Shelf Go.Lib Go.Sort
variable {α : Type} {P : Program} {k : Nat} {enc : α → List Value}

/-- A box that holds one element. -/
structure BoxK (enc : α → List Value) (k : Nat) (g : Nat) (y : α) (W : World) : Prop where
  hk : (enc y).length = k
  lt : g < W.heap.size
  cell : ∀ i u, (enc y)[i]? = some u → W.cell? ⟨g, i, none⟩ = some u
theorem BoxK.grown {g : Nat} {y : α} {W : World} (h : BoxK enc k g y W) (n : Nat) (os : Array Obj) : BoxK enc k g y (grow (W.drewN n) os) :=
  ⟨h.hk, by rw [size_grow]; exact Nat.lt_of_lt_of_le h.lt (Nat.le_add_right _ _), fun i u hu => by rw [cell?_grow _ _ _ (by exact h.lt)]; exact h.cell i u hu⟩
theorem BoxK.load {g : Nat} {y : α} {W : World} (h : BoxK enc k g y W) (P : Program) : Sem.run P (loadCellsFrom ⟨g, 0, none⟩ 0 k #[]) W = .ok (enc y).toArray W :=
  run_loadCellsFrom_list P _ _ _ k h.hk (fun j v hj => by
    have e : ((⟨g, 0, none⟩ : Addr).add j) = ⟨g, j, none⟩ := by
      unfold Addr.add; split
      · next h => subst h; rfl
      · simp
    rw [e]; exact h.cell j v hj)
theorem boxK_new (w : World) (y : α) (T : TypeId) (hk : (enc y).length = k) : BoxK enc k w.heap.size y (w.alloc (.cells (enc y).toArray T)) :=
  ⟨hk, by simp, fun i u hu => by rw [World.cell?_alloc_mark w (enc y).toArray T (0, 0) i]; simpa using hu⟩
variable [Inhabited α]
set_option maxRecDepth 100000 in
set_option maxHeartbeats 4000000 in
theorem bsf_gen (T : TyC P k) (Fbsf : P.funcs[(43 : Nat)]? = some Try.f43) (cf : α → α → Int) (g : Nat) (eg : ∀ args w, (callFunc g args).run P w = .ok (.enter g args) w) (y : α) (blk off cap sz : Nat) (d d0 : Array α) (w0 w : World) (hcmp : CmpLays P g #[] enc k cf blk off sz w0) (R : RowK enc k w0 blk off d0) (S : SWK enc k w0 blk off d w) (hs : d.size = sz) (h0 : d0.size = sz) (hsz : sz ≤ 1000000)
    (hmono : ∀ a b, a ≤ b → b < sz → cf d[b]! y < 0 → cf d[a]! y < 0) :
    Calls P 43 #[.slice (some ⟨blk, off, none⟩) sz cap, .agg (enc y).toArray, .func (.func g) #[] #[]] w fun e w' =>
      ∃ i : Nat, i ≤ sz ∧ (∀ t, t < i → cf d[t]! y < 0) ∧ (∀ t, i ≤ t → t < sz → 0 ≤ cf d[t]! y) ∧ e = .returned (.tuple #[.int .i64 i, .bool (decide (i < sz) && decide (cf d[i]! y = 0))]) ∧ SWK enc k w0 blk off d w' := by
  have HC := Lib.hid hcmp
  have HS0 := Lib.hid S
  have HZ := Lib.hid hs
  have HZ0 := Lib.hid h0
  have HM := Lib.hid hmono
  have hyk : (enc y).length = k := R.hk y
  have hy1 := R.h1 y
  clear S hs h0 hcmp hmono
  have mixed := T.mixed; have t0 := T.t0; have a0 := T.a0; have z0 := T.z0; have v0 := T.v0; have t3 := T.t3; have a3 := T.a3; have z3 := T.z3; have v3 := T.v3; have t4 := T.t4; have a4 := T.a4; have z4 := T.z4; have v4 := T.v4; have t77 := T.t77; have a77 := T.a77; have z77 := T.z77; have v77 := T.v77; have t22 := T.t22; have a22 := T.a22; have z22 := T.z22; have v22 := T.v22; have t53 := T.t53; have a53 := T.a53; have z53 := T.z53; have v53 := T.v53; have aE := T.aE; have zE := T.zE
  have u0 := run_underlying T.t0; have u3 := run_underlying T.t3; have u4 := run_underlying T.t4; have u22 := run_underlying T.t22; have u53 := run_underlying T.t53; have u77 := run_underlying T.t77
  have t55 := T.t55; have a55 := T.a55; have z55 := T.z55; have v55 := T.v55
  have u55 := run_underlying T.t55; have hel := elemB T.toTyB
  go_enter Fbsf, Try.ntmps43
  go_wp2_with fail
  have HS1 := Lib.hid (HS0.out.alloc (.cells (enc y).toArray 41))
  have HBX0 := Lib.hid (boxK_new (enc := enc) w y 41 hyk)
  go_loopg [9, 10] sz (fun kx s9 s10 wr => ∃ i j : Nat, s9 = .int .i64 i ∧ s10 = .int .i64 j ∧ i ≤ j ∧ j ≤ sz ∧ j - i ≤ kx ∧ Hid ((∀ t, t < i → cf d[t]! y < 0) ∧ (∀ t, j ≤ t → t < sz → 0 ≤ cf d[t]! y)) ∧ Hid (SWK enc k w0 blk off d wr) ∧ Hid (BoxK enc k w.heap.size y wr))
  case atStart => exact ⟨0, sz, rfl, rfl, Nat.zero_le _, Nat.le_refl _, by omega, Lib.hid ⟨fun t h => by omega, fun t h1 h2 => by omega⟩, HS1, HBX0⟩
  case round =>
    clear HS0 HS1 HBX0
    obtain ⟨i, j, rfl, rfl, hij, hjs, hkx, HI, HS, HBX⟩ := hrel
    by_cases hlt : i < j
    · obtain ⟨h, hh⟩ : ∃ h, h = (i + j) / 2 := ⟨_, rfl⟩
      have rh : ((i : Int) + (j : Int)) / 2 = (h : Int) := by omega
      have hltz : (i : Int) < (j : Int) := by omega
      have ph : (0 : Int) ≤ (h : Int) := by omega
      have bh : (h : Int) < (sz : Int) := by omega
      have h1 : i ≤ h := by omega
      have h2 : h < j := by omega
      clear hh
      by_cases hv : cf d[h]! y < 0
      · have HV := Lib.hid hv
        clear hv
        obtain ⟨x, hx⟩ : ∃ x, x = d[h]! := ⟨_, rfl⟩
        have la := HS.out.ld R (HZ.out.trans HZ0.out.symm) P (h) (by rw [HZ.out]; omega)
        have lb := fun n' os' => (HBX.out.grown n' os').load P
        rw [← hx] at la
        have hc := HS.out.cmp HC.out HZ.out x y
        have hd : decide (cf x y < 0) = true := by rw [hx]; exact decide_eq_true HV.out
        clear hx
        go_wp2_with fail
        go_quiet_grown (first | (go_at_fn g; refine Calls.grown_of (hc _ _)))
        have S2 := Lib.hid (HS.out.grown nq osq)
        have HB2 := Lib.hid (HBX.out.grown nq osq)
        clear la lb hc
        generalize grow (wr.drewN nq) osq = w2 at S2 HB2 ⊢
        clear nq osq
        go_wp2_with fail
        go_roundg (j - (h + 1))
        case measure => omega
        case rel => exact ⟨h + 1, j, by go_num, rfl, by omega, hjs, Nat.le_refl _, Lib.hid ⟨fun t ht => HM.out t h (by omega) (by omega) HV.out, HI.out.2⟩, S2, HB2⟩
      · have HV := Lib.hid hv
        clear hv
        obtain ⟨x, hx⟩ : ∃ x, x = d[h]! := ⟨_, rfl⟩
        have la := HS.out.ld R (HZ.out.trans HZ0.out.symm) P (h) (by rw [HZ.out]; omega)
        have lb := fun n' os' => (HBX.out.grown n' os').load P
        rw [← hx] at la
        have hc := HS.out.cmp HC.out HZ.out x y
        have hd : decide (cf x y < 0) = false := by rw [hx]; exact decide_eq_false HV.out
        clear hx
        go_wp2_with fail
        go_quiet_grown (first | (go_at_fn g; refine Calls.grown_of (hc _ _)))
        have S2 := Lib.hid (HS.out.grown nq osq)
        have HB2 := Lib.hid (HBX.out.grown nq osq)
        clear la lb hc
        generalize grow (wr.drewN nq) osq = w2 at S2 HB2 ⊢
        clear nq osq
        go_wp2_with fail
        go_roundg (h - i)
        case measure => omega
        case rel => exact ⟨i, h, rfl, rfl, h1, by omega, Nat.le_refl _, Lib.hid ⟨HI.out.1, fun t h3 h4 => by
          rcases Int.lt_or_le (cf d[t]! y) 0 with h5 | h5
          · exact absurd (HM.out h t h3 h4 h5) (by have := HV.out; omega)
          · exact h5⟩, S2, HB2⟩
    · obtain rfl : i = j := by omega
      have hltz : ¬ (i : Int) < (i : Int) := by omega
      by_cases hin : i < sz
      · have hinz : (i : Int) < (sz : Int) := by omega
        have pi : (0 : Int) ≤ (i : Int) := by omega
        have hdi : decide (i < sz) = true := decide_eq_true hin
        obtain ⟨x, hx⟩ : ∃ x, x = d[i]! := ⟨_, rfl⟩
        have la := HS.out.ld R (HZ.out.trans HZ0.out.symm) P i (by rw [HZ.out]; omega)
        have lb := fun n' os' => (HBX.out.grown n' os').load P
        rw [← hx] at la
        have hc := HS.out.cmp HC.out HZ.out x y
        obtain ⟨r, hr⟩ : ∃ r, r = cf x y := ⟨_, rfl⟩
        rw [← hr] at hc
        have HR := Lib.hid (show cf d[i]! y = r by rw [hr, hx])
        have HDI := Lib.hid hdi
        clear hx hr hdi
        go_wp2_with fail
        go_quiet_grown (first | (go_at_fn g; refine Calls.grown_of (hc _ _)))
        have S2 := Lib.hid (HS.out.grown nq osq)
        clear la lb hc
        generalize grow (wr.drewN nq) osq = w2 at S2 ⊢
        clear nq osq
        go_wp2_with fail
        go_ret2
        refine ⟨i, hjs, HI.out.1, HI.out.2, ?_, S2.out⟩
        rw [HDI.out, HR.out]; rfl
      · have hinz : ¬ (i : Int) < (sz : Int) := by omega
        have hinz2 : decide ((i : Int) < (sz : Int)) = false := decide_eq_false hinz
        have HDI := Lib.hid (show decide (i < sz) = false from decide_eq_false hin)
        have S2 := Lib.hid HS.out.drew
        generalize hcw : cf d[i]! y = r
        have HR := Lib.hid hcw
        have hin2 : decide (i < sz) = false := decide_eq_false hin
        clear hcw
        go_wp2_with fail
        go_big_region_o
        generalize wr.drew = w2 at S2 ⊢
        go_wp2_with fail
        go_ret2
        refine ⟨i, hjs, HI.out.1, HI.out.2, ?_, S2.out⟩
        rw [HDI.out]; rfl
end Go.Proofs.Ytedljdcliilggaa
