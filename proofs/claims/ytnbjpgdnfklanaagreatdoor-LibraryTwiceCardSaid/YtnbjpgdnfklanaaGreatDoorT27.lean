/-
  Of each run of a row the first alone, by the library's own text.
  A bind looked for in a row that is sorted, by the library's own text.
  New memory alone, and nothing drawn. No function of the program.
-/
import Derived.Test.YtnbjpgdnfklanaaGreatDoorT26
import Derived.Test.YtnbjpgdnfklanaaGreatDoorT24
namespace Go.Proofs.YtnbjpgdnfklanaaGreatDoor
open Go.RowKit Go.Shelf Go.Lib Go.Sort
variable {α : Type} [Inhabited α] {P : Program} {k : Nat} {enc : α → List Value}
set_option maxRecDepth 100000 in
set_option maxHeartbeats 8000000 in
theorem cpt_gen (T : TyC P k) (Fcpt : P.funcs[(143 : Nat)]? = some Tryz.f143) (ef : α → α → Bool) (g : Nat) (eg : ∀ args w, (callFunc g args).run P w = .ok (.enter g args) w) (z : α) (zv : Value) (hz : ∀ w, (zeroValue 146).run P w = .ok zv w) (hzc : Value.cells zv = (enc z).toArray) (blk off cap sz : Nat) (d d0 : Array α) (w0 w : World) (heq : EqLays P g #[] enc k ef blk off sz w0) (R : RowK enc k w0 blk off d0) (S : SWK enc k w0 blk off d w) (hs : d.size = sz) (h0 : d0.size = sz) (hcap : sz ≤ cap) (hsz : sz ≤ 1000000) :
    Calls P 143 #[.slice (some ⟨blk, off, none⟩) sz cap, .func (.func g) #[] #[]] w fun e w' =>
      ∃ (d' : Array α) (q : Nat), e = .returned (.slice (some ⟨blk, off, none⟩) q cap) ∧ q ≤ sz ∧ d'.size = sz ∧ d'.toList.take q = compA ef d.toList ∧ SWK enc k w0 blk off d' w' := by
  have HC := Lib.hid heq
  have HS0 := Lib.hid S
  have HZ := Lib.hid hs
  have HZ0 := Lib.hid h0
  have HCL := Lib.hid (fun (dk : Array α) (q c : Nat) (W : World) (ty : TypeId) (h : SWK enc k w0 blk off dk W) (hd : dk.size = sz) (hq : q < sz) => run_clear_k T.toTyB zv z hz hzc h R (hd.trans h0.symm) q c (by omega) ty)
  clear S hs h0 heq
  have mixed := T.mixed; have t0 := T.t0; have a0 := T.a0; have z0 := T.z0; have v0 := T.v0; have t3 := T.t3; have a3 := T.a3; have z3 := T.z3; have v3 := T.v3; have t4 := T.t4; have a4 := T.a4; have z4 := T.z4; have v4 := T.v4; have t77 := T.t77; have a77 := T.a77; have z77 := T.z77; have v77 := T.v77; have t22 := T.t22; have a22 := T.a22; have z22 := T.z22; have v22 := T.v22; have t53 := T.t53; have a53 := T.a53; have z53 := T.z53; have v53 := T.v53; have aE := T.aE; have zE := T.zE
  have u0 := run_underlying T.t0; have u3 := run_underlying T.t3; have u4 := run_underlying T.t4; have u22 := run_underlying T.t22; have u53 := run_underlying T.t53; have u77 := run_underlying T.t77
  have t55 := T.t55; have a55 := T.a55; have z55 := T.z55; have v55 := T.v55
  have u55 := run_underlying T.t55; have hel := elemB T.toTyB
  by_cases h2 : sz < 2
  · have h2z : (sz : Int) < 2 := by omega
    have HE := Lib.hid (show compA ef d.toList = d.toList by
      have hl : d.toList.length < 2 := by rw [Array.length_toList, HZ.out]; exact h2
      cases hd : d.toList with
      | nil => rfl
      | cons x r =>
        rw [hd, List.length_cons] at hl
        have : r = [] := List.length_eq_zero_iff.1 (by omega)
        subst this; rfl)
    clear h2
    go_enter Fcpt, Tryz.ntmps143
    go_wp2_with fail
    go_ret
    exact ⟨d, sz, rfl, Nat.le_refl _, HZ.out, by rw [HE.out, List.take_of_length_le (by rw [Array.length_toList, HZ.out]; exact Nat.le_refl _)], HS0.out⟩
  · have h2z : ¬ (sz : Int) < 2 := by omega
    go_enter Fcpt, Tryz.ntmps143
    go_wp2_with fail
    go_loopg [5] sz (fun kx s5 wr => ∃ j : Nat, s5 = .int .i64 ((j : Int) + 1) ∧ j + 1 ≤ sz ∧ sz - (j + 1) ≤ kx ∧ Hid (compA ef (d.toList.take (j + 1)) = d.toList.take (j + 1)) ∧ Hid (SWK enc k w0 blk off d wr))
    case atStart => exact ⟨0, by simp, by omega, by omega, Lib.hid (comp_one ef d (by rw [HZ.out]; omega)), HS0⟩
    case round =>
      clear HS0
      obtain ⟨j, rfl, hj, hkx, HA, HS⟩ := hrel
      by_cases hlt : j + 1 < sz
      · have hltz : (j : Int) + 1 < (sz : Int) := by omega
        have p0 : (0 : Int) ≤ (j : Int) + 1 := by omega
        have e0 : ((j : Int) + 1).toNat = j + 1 := by omega
        have p1 : (0 : Int) ≤ (j : Int) := by omega
        have b1 : (j : Int) < (sz : Int) := by omega
        have hwp : IntKind.i64.wrap (j : Int) = (j : Int) := by rw [IntKind.wrap_i64]; omega
        have hsucc := comp_succ ef d (j := j + 1) (by omega) (by rw [HZ.out]; exact hlt)
        rw [Nat.add_sub_cancel] at hsucc
        have HSU := Lib.hid hsucc
        clear hsucc
        cases hl : ef d[j + 1]! d[j]! with
        | false =>
          have HL := Lib.hid hl
          clear hl
          obtain ⟨x, hx⟩ : ∃ x, x = d[j + 1]! := ⟨_, rfl⟩
          obtain ⟨y, hy⟩ : ∃ y, y = d[j]! := ⟨_, rfl⟩
          have la := HS.out.ld R (HZ.out.trans HZ0.out.symm) P (j + 1) (by rw [HZ.out]; omega)
          have lb := HS.out.ld R (HZ.out.trans HZ0.out.symm) P (j) (by rw [HZ.out]; omega)
          rw [← hx] at la
          rw [← hy] at lb
          have hc := swk_eq2 HS.out HC.out HZ.out x y
          have hv : ef x y = false := by rw [hx, hy]; exact HL.out
          rw [hv] at hc
          clear hx hy hv
          go_wp2_with fail
          go_quiet_grown (first | (go_at_fn g; refine Calls.grown_of (hc _ _)))
          have S2 := Lib.hid (HS.out.grown nq osq)
          clear la lb hc
          generalize grow (wr.drewN nq) osq = w2 at S2 ⊢
          clear nq osq
          go_wp2_with fail
          go_roundg (sz - (j + 1 + 1))
          case measure => omega
          case rel =>
            refine ⟨j + 1, by first | rfl | go_num, by omega, Nat.le_refl _, Lib.hid ?_, S2⟩
            rw [HSU.out, HL.out, HA.out]
            have hl : j + 1 < d.toList.length := by rw [Array.length_toList, HZ.out]; exact hlt
            rw [List.take_succ_eq_append_getElem hl, getElem!_pos d (j + 1) (by rw [HZ.out]; exact hlt)]
            simp
        | true =>
          have HL := Lib.hid hl
          clear hl
          obtain ⟨x, hx⟩ : ∃ x, x = d[j + 1]! := ⟨_, rfl⟩
          obtain ⟨y, hy⟩ : ∃ y, y = d[j]! := ⟨_, rfl⟩
          have la := HS.out.ld R (HZ.out.trans HZ0.out.symm) P (j + 1) (by rw [HZ.out]; omega)
          have lb := HS.out.ld R (HZ.out.trans HZ0.out.symm) P (j) (by rw [HZ.out]; omega)
          rw [← hx] at la
          rw [← hy] at lb
          have hc := swk_eq2 HS.out HC.out HZ.out x y
          have hv : ef x y = true := by rw [hx, hy]; exact HL.out
          rw [hv] at hc
          clear hx hy hv
          go_wp2_with fail
          go_quiet_grown (first | (go_at_fn g; refine Calls.grown_of (hc _ _)))
          have S2 := Lib.hid (HS.out.grown nq osq)
          clear la lb hc
          generalize grow (wr.drewN nq) osq = w2 at S2 ⊢
          clear nq osq
          have hct := cutk_from T.toTyB blk off sz cap (j + 1) (by omega) (by omega)
          have hce : (((j + 1 : Nat) : Int)) = (j : Int) + 1 := by omega
          rw [hce] at hct
          have HI0 := Lib.hid (show d.toList.take (j + 1) = compA ef (d.toList.take (j + 1 + 1)) by rw [HSU.out, HL.out, HA.out]; simp)
          have hm0 : sz - (j + 1) ≤ sz := Nat.sub_le _ _
          obtain ⟨m, hm⟩ : ∃ m, m = sz - (j + 1) := ⟨_, rfl⟩
          have HM := Lib.hid hm
          have hmb : m ≤ 1000000 := by omega
          have hms : m ≤ sz := by omega
          have hm1 : 1 ≤ m := by omega
          rw [← hm] at hct
          clear hm HA HSU HL hce hm0
          go_wp2_with fail
          clear hct
          go_loopg [5, 7] sz (fun kx s5 s7 wr => ∃ (q i : Nat) (dk : Array α), s5 = .int .i64 q ∧ s7 = .int .i64 ((i : Int) + 1) ∧ i + 1 ≤ m ∧ q ≤ j + 1 + i ∧ m - (i + 1) ≤ kx ∧ Hid (dk.size = sz ∧ dk.toList.take q = compA ef (d.toList.take (j + 1 + i + 1)) ∧ ∀ x, j + 1 + i ≤ x → dk[x]! = d[x]!) ∧ Hid (SWK enc k w0 blk off dk wr))
          case atStart => exact ⟨j + 1, 0, d, by first | rfl | go_num, by simp, by omega, by omega, by omega, Lib.hid ⟨HZ.out, HI0.out, fun _ _ => rfl⟩, S2⟩
          case round =>
            clear S2 HI0
            obtain ⟨q, i, dk, rfl, rfl, him, hqi, hkx2, HI, HSK⟩ := hrel
            by_cases hlt2 : i + 1 < m
            · have hltz2 : (i : Int) + 1 < (m : Int) := by omega
              have p3 : (0 : Int) ≤ (i : Int) + 1 := by omega
              have e3 : ((i : Int) + 1).toNat = i + 1 := by omega
              have p4 : (0 : Int) ≤ (i : Int) := by omega
              have b4 : (i : Int) < (m : Int) := by omega
              have hwp4 : IntKind.i64.wrap (i : Int) = (i : Int) := by rw [IntKind.wrap_i64]; omega
              have hpos : j + 1 + (i + 1) < sz := by have := HM.out; omega
              have hsucc := comp_succ ef d (j := j + 1 + i + 1) (by omega) (by rw [HZ.out]; omega)
              have f1 := HI.out.2.2 (j + 1 + (i + 1)) (by omega)
              have f2 := HI.out.2.2 (j + 1 + i) (by omega)
              rw [show j + 1 + i + 1 - 1 = j + 1 + i from by omega, show d[j + 1 + i + 1]! = d[j + 1 + (i + 1)]! from by rw [Nat.add_assoc], ← f1, ← f2] at hsucc
              have HSU := Lib.hid hsucc
              have HF1 := Lib.hid f1
              clear hsucc f1 f2
              cases hl : ef dk[j + 1 + (i + 1)]! dk[j + 1 + i]! with
              | true =>
                have HL := Lib.hid hl
                clear hl
                obtain ⟨x, hx⟩ : ∃ x, x = dk[j + 1 + (i + 1)]! := ⟨_, rfl⟩
                obtain ⟨y, hy⟩ : ∃ y, y = dk[j + 1 + i]! := ⟨_, rfl⟩
                have la := HSK.out.ld R (HI.out.1.trans HZ0.out.symm) P (j + 1 + (i + 1)) (by rw [HI.out.1]; omega)
                rw [show off + (j + 1 + (i + 1)) * k = off + (j + 1) * k + (i + 1) * k from by rw [Nat.add_mul (j + 1), Nat.add_assoc]] at la
                have lb := HSK.out.ld R (HI.out.1.trans HZ0.out.symm) P (j + 1 + i) (by rw [HI.out.1]; omega)
                rw [show off + (j + 1 + i) * k = off + (j + 1) * k + i * k from by rw [Nat.add_mul (j + 1), Nat.add_assoc]] at lb
                rw [← hx] at la
                rw [← hy] at lb
                have hc := swk_eq2 HSK.out HC.out HI.out.1 x y
                have hv : ef x y = true := by rw [hx, hy]; exact HL.out
                rw [hv] at hc
                clear hx hy hv
                go_wp2_with fail
                go_quiet_grown (first | (go_at_fn g; refine Calls.grown_of (hc _ _)))
                have S3 := Lib.hid (HSK.out.grown nq osq)
                clear la lb hc
                generalize grow (wr.drewN nq) osq = w3 at S3 ⊢
                clear nq osq
                go_wp2_with fail
                go_roundg (m - (i + 1 + 1))
                case measure => omega
                case rel =>
                  refine ⟨q, i + 1, dk, rfl, by first | rfl | go_num, by omega, by omega, Nat.le_refl _, Lib.hid ⟨HI.out.1, ?_, fun x hx => HI.out.2.2 x (by omega)⟩, S3⟩
                  rw [show j + 1 + (i + 1) + 1 = j + 1 + i + 1 + 1 from by omega, HSU.out, HL.out, if_pos rfl, List.append_nil]
                  exact HI.out.2.1
              | false =>
                have HL := Lib.hid hl
                clear hl
                obtain ⟨x, hx⟩ : ∃ x, x = dk[j + 1 + (i + 1)]! := ⟨_, rfl⟩
                obtain ⟨y, hy⟩ : ∃ y, y = dk[j + 1 + i]! := ⟨_, rfl⟩
                have la := HSK.out.ld R (HI.out.1.trans HZ0.out.symm) P (j + 1 + (i + 1)) (by rw [HI.out.1]; omega)
                rw [show off + (j + 1 + (i + 1)) * k = off + (j + 1) * k + (i + 1) * k from by rw [Nat.add_mul (j + 1), Nat.add_assoc]] at la
                have lb := HSK.out.ld R (HI.out.1.trans HZ0.out.symm) P (j + 1 + i) (by rw [HI.out.1]; omega)
                rw [show off + (j + 1 + i) * k = off + (j + 1) * k + i * k from by rw [Nat.add_mul (j + 1), Nat.add_assoc]] at lb
                rw [← hx] at la
                rw [← hy] at lb
                have hc := swk_eq2 HSK.out HC.out HI.out.1 x y
                have hv : ef x y = false := by rw [hx, hy]; exact HL.out
                rw [hv] at hc
                clear hx hy hv
                go_wp2_with fail
                go_quiet_grown (first | (go_at_fn g; refine Calls.grown_of (hc _ _)))
                have S3 := Lib.hid (HSK.out.grown nq osq)
                clear la lb hc
                generalize grow (wr.drewN nq) osq = w3 at S3 ⊢
                clear nq osq
                obtain ⟨x, hx⟩ : ∃ x, x = dk[j + 1 + (i + 1)]! := ⟨_, rfl⟩
                have la := S3.out.load R (HI.out.1.trans HZ0.out.symm) P (j + 1 + (i + 1)) (by rw [HI.out.1]; exact hpos)
                rw [show off + (j + 1 + (i + 1)) * k = off + (j + 1) * k + (i + 1) * k from by rw [Nat.add_mul (j + 1), Nat.add_assoc], ← hx] at la
                have hqs : q < dk.size := by rw [HI.out.1]; omega
                have hqz : (q : Int) < (sz : Int) := by omega
                have hq0 : (0 : Int) ≤ (q : Int) := by omega
                have sa := swk_st S3.out R (HI.out.1.trans HZ0.out.symm) P q hqs x
                have S4 := Lib.hid (swk_set S3.out R.hk R.hblk q hqs x)
                have na : (enc x).length = k := R.hk _
                have HN := Lib.hid (show (dk.setIfInBounds q x).size = sz ∧ (dk.setIfInBounds q x).toList.take (q + 1) = compA ef (d.toList.take (j + 1 + (i + 1) + 1)) ∧ ∀ y, j + 1 + (i + 1) ≤ y → (dk.setIfInBounds q x)[y]! = d[y]! by
                  refine ⟨by rw [Array.size_setIfInBounds]; exact HI.out.1, ?_, fun y hy => ?_⟩
                  · rw [show j + 1 + (i + 1) + 1 = j + 1 + i + 1 + 1 from by omega, HSU.out, HL.out, ← HI.out.2.1, ← hx]
                    have hql : q < dk.toList.length := by simpa using hqs
                    have hts : (dk.setIfInBounds q x).toList.take (q + 1) = dk.toList.take q ++ [x] := by
                      rw [Array.toList_setIfInBounds, List.take_succ_eq_append_getElem (by simpa using hql), List.take_set_of_le (Nat.le_refl q), List.getElem_set_self]
                    rw [hts]
                    simp
                  · rw [← HI.out.2.2 y (by omega)]
                    by_cases hy2 : y < dk.size
                    · rw [getElem!_pos (dk.setIfInBounds q x) y (by simpa using hy2), Array.getElem_setIfInBounds_ne (by simpa using hy2) (by omega), getElem!_pos dk y hy2]
                    · rw [getElem!_neg (dk.setIfInBounds q x) y (by simpa using hy2), getElem!_neg dk y hy2])
                generalize enc x = cX at la sa na S4
                clear hx HL HSU HF1 hqs
                go_wp2_with fail
                clear la sa na
                generalize w3.setCells blk (off + q * k) cX = w4 at S4 ⊢
                go_wp2_with fail
                go_roundg (m - (i + 1 + 1))
                case measure => omega
                case rel => exact ⟨q + 1, i + 1, _, by first | rfl | go_num, by first | rfl | go_num, by omega, by omega, Nat.le_refl _, HN, S4⟩
            · have hie : i + 1 = m := by omega
              have hltz2 : ¬ (i : Int) + 1 < (m : Int) := by omega
              have hqs : q < sz := by have := HM.out; omega
              have hct := cutk_from T.toTyB blk off sz cap q (by omega) (by omega)
              have hct2 := cutk_to T.toTyB blk off sz cap q (by omega) (by omega)
              have hcl := fun ty => HCL.out dk q (cap - q) wr ty HSK.out HI.out.1 hqs
              rw [HI.out.1] at hcl
              have S5 := Lib.hid (swk_ended HSK.out R.hk R.hblk q (by rw [HI.out.1]; omega) z)
              rw [HI.out.1] at S5
              have HF := Lib.hid (show (endZ dk q z).size = sz ∧ (endZ dk q z).toList.take q = compA ef d.toList by
                refine ⟨by rw [size_endZ]; exact HI.out.1, ?_⟩
                have e1 : (endZ dk q z).toList.take q = dk.toList.take q := by
                  apply List.ext_getElem?
                  intro t
                  by_cases ht : t < q
                  · rw [List.getElem?_take_of_lt ht, List.getElem?_take_of_lt ht, get_list _ t (by rw [size_endZ, HI.out.1]; omega), get_list _ t (by rw [HI.out.1]; omega), get_endZ _ _ _ _ (by rw [HI.out.1]; omega), if_pos ht]
                  · rw [List.getElem?_take_eq_none (by omega), List.getElem?_take_eq_none (by omega)]
                rw [e1, HI.out.2.1, List.take_of_length_le (by rw [Array.length_toList, HZ.out]; have := HM.out; omega)])
              generalize hzs : (flatK enc k (Array.replicate (sz - q) z)).toList = zs at hcl S5
              clear hzs hie HI HSK hqs
              go_wp2_with fail
              go_ret
              exact ⟨_, q, rfl, by have := HM.out; omega, HF.out.1, HF.out.2, S5.out⟩
      · have hje : j + 1 = sz := by omega
        have hltz : ¬ (j : Int) + 1 < (sz : Int) := by omega
        have HE := Lib.hid (show compA ef d.toList = d.toList by
          have h := HA.out
          rwa [hje, List.take_of_length_le (by rw [Array.length_toList, HZ.out]; exact Nat.le_refl _)] at h)
        clear hje
        go_wp2_with fail
        go_ret
        exact ⟨d, sz, rfl, Nat.le_refl _, HZ.out, by rw [HE.out, List.take_of_length_le (by rw [Array.length_toList, HZ.out]; exact Nat.le_refl _)], HS.out⟩
end Go.Proofs.YtnbjpgdnfklanaaGreatDoor

namespace Go.Proofs.YtnbjpgdnfklanaaGreatDoor
open Go.RowKit Go.Shelf Go.Lib Go.Sort
variable {α : Type} {P : Program} {k : Nat} {enc : α → List Value}
structure BoxK (enc : α → List Value) (k : Nat) (g : Nat) (y : α) (W : World) : Prop where
  hk : (enc y).length = k
  lt : g < W.heap.size
  cell : ∀ i u, (enc y)[i]? = some u → W.cell? ⟨g, i, none⟩ = some u
theorem BoxK.grown {g : Nat} {y : α} {W : World} (h : BoxK enc k g y W) (n : Nat) (os : Array Obj) : BoxK enc k g y (grow (W.drewN n) os) :=
  ⟨h.hk, by rw [size_grow]; exact Nat.lt_of_lt_of_le h.lt (Nat.le_add_right _ _), fun i u hu => by rw [cell?_grow _ _ _ (by exact h.lt)]; exact h.cell i u hu⟩
theorem BoxK.load {g : Nat} {y : α} {W : World} (h : BoxK enc k g y W) (P : Program) : Sem.run P (loadCellsFrom ⟨g, 0, none⟩ 0 k #[]) W = .ok (enc y).toArray W :=
  run_loadCellsFrom_list P _ _ _ k h.hk (fun j v hj => by
    have e : ((⟨g, 0, none⟩ : Addr).add j) = ⟨g, j, none⟩ := by
      unfold Addr.add; split
      · next h => subst h; rfl
      · simp
    rw [e]; exact h.cell j v hj)
theorem boxK_new (w : World) (y : α) (T : TypeId) (hk : (enc y).length = k) : BoxK enc k w.heap.size y (w.alloc (.cells (enc y).toArray T)) :=
  ⟨hk, by simp, fun i u hu => by rw [World.cell?_alloc_mark w (enc y).toArray T (0, 0) i]; simpa using hu⟩
variable [Inhabited α]
set_option maxRecDepth 100000 in
set_option maxHeartbeats 4000000 in
theorem bsf_gen (T : TyC P k) (Fbsf : P.funcs[(134 : Nat)]? = some Tryz.f134) (cf : α → α → Int) (g : Nat) (eg : ∀ args w, (callFunc g args).run P w = .ok (.enter g args) w) (y : α) (blk off cap sz : Nat) (d d0 : Array α) (w0 w : World) (hcmp : CmpLays P g #[] enc k cf blk off sz w0) (R : RowK enc k w0 blk off d0) (S : SWK enc k w0 blk off d w) (hs : d.size = sz) (h0 : d0.size = sz) (hsz : sz ≤ 1000000)
    (hmono : ∀ a b, a ≤ b → b < sz → cf d[b]! y < 0 → cf d[a]! y < 0) :
    Calls P 134 #[.slice (some ⟨blk, off, none⟩) sz cap, .agg (enc y).toArray, .func (.func g) #[] #[]] w fun e w' =>
      ∃ i : Nat, i ≤ sz ∧ (∀ t, t < i → cf d[t]! y < 0) ∧ (∀ t, i ≤ t → t < sz → 0 ≤ cf d[t]! y) ∧ e = .returned (.tuple #[.int .i64 i, .bool (decide (i < sz) && decide (cf d[i]! y = 0))]) ∧ SWK enc k w0 blk off d w' := by
  have HC := Lib.hid hcmp
  have HS0 := Lib.hid S
  have HZ := Lib.hid hs
  have HZ0 := Lib.hid h0
  have HM := Lib.hid hmono
  have hyk : (enc y).length = k := R.hk y
  have hy1 := R.h1 y
  clear S hs h0 hcmp hmono
  have mixed := T.mixed; have t0 := T.t0; have a0 := T.a0; have z0 := T.z0; have v0 := T.v0; have t3 := T.t3; have a3 := T.a3; have z3 := T.z3; have v3 := T.v3; have t4 := T.t4; have a4 := T.a4; have z4 := T.z4; have v4 := T.v4; have t77 := T.t77; have a77 := T.a77; have z77 := T.z77; have v77 := T.v77; have t22 := T.t22; have a22 := T.a22; have z22 := T.z22; have v22 := T.v22; have t53 := T.t53; have a53 := T.a53; have z53 := T.z53; have v53 := T.v53; have aE := T.aE; have zE := T.zE
  have u0 := run_underlying T.t0; have u3 := run_underlying T.t3; have u4 := run_underlying T.t4; have u22 := run_underlying T.t22; have u53 := run_underlying T.t53; have u77 := run_underlying T.t77
  have t55 := T.t55; have a55 := T.a55; have z55 := T.z55; have v55 := T.v55
  have u55 := run_underlying T.t55; have hel := elemB T.toTyB
  go_enter Fbsf, Tryz.ntmps134
  go_wp2_with fail
  have HS1 := Lib.hid (HS0.out.alloc (.cells (enc y).toArray 146))
  have HBX0 := Lib.hid (boxK_new (enc := enc) w y 146 hyk)
  go_loopg [9, 10] sz (fun kx s9 s10 wr => ∃ i j : Nat, s9 = .int .i64 i ∧ s10 = .int .i64 j ∧ i ≤ j ∧ j ≤ sz ∧ j - i ≤ kx ∧ Hid ((∀ t, t < i → cf d[t]! y < 0) ∧ (∀ t, j ≤ t → t < sz → 0 ≤ cf d[t]! y)) ∧ Hid (SWK enc k w0 blk off d wr) ∧ Hid (BoxK enc k w.heap.size y wr))
  case atStart => exact ⟨0, sz, rfl, rfl, Nat.zero_le _, Nat.le_refl _, by omega, Lib.hid ⟨fun t h => by omega, fun t h1 h2 => by omega⟩, HS1, HBX0⟩
  case round =>
    clear HS0 HS1 HBX0
    obtain ⟨i, j, rfl, rfl, hij, hjs, hkx, HI, HS, HBX⟩ := hrel
    by_cases hlt : i < j
    · obtain ⟨h, hh⟩ : ∃ h, h = (i + j) / 2 := ⟨_, rfl⟩
      have rh : ((i : Int) + (j : Int)) / 2 = (h : Int) := by omega
      have hltz : (i : Int) < (j : Int) := by omega
      have ph : (0 : Int) ≤ (h : Int) := by omega
      have bh : (h : Int) < (sz : Int) := by omega
      have h1 : i ≤ h := by omega
      have h2 : h < j := by omega
      clear hh
      by_cases hv : cf d[h]! y < 0
      · have HV := Lib.hid hv
        clear hv
        obtain ⟨x, hx⟩ : ∃ x, x = d[h]! := ⟨_, rfl⟩
        have la := HS.out.ld R (HZ.out.trans HZ0.out.symm) P (h) (by rw [HZ.out]; omega)
        have lb := fun n' os' => (HBX.out.grown n' os').load P
        rw [← hx] at la
        have hc := HS.out.cmp HC.out HZ.out x y
        have hd : decide (cf x y < 0) = true := by rw [hx]; exact decide_eq_true HV.out
        clear hx
        go_wp2_with fail
        go_quiet_grown (first | (go_at_fn g; refine Calls.grown_of (hc _ _)))
        have S2 := Lib.hid (HS.out.grown nq osq)
        have HB2 := Lib.hid (HBX.out.grown nq osq)
        clear la lb hc
        generalize grow (wr.drewN nq) osq = w2 at S2 HB2 ⊢
        clear nq osq
        go_wp2_with fail
        go_roundg (j - (h + 1))
        case measure => omega
        case rel => exact ⟨h + 1, j, by go_num, rfl, by omega, hjs, Nat.le_refl _, Lib.hid ⟨fun t ht => HM.out t h (by omega) (by omega) HV.out, HI.out.2⟩, S2, HB2⟩
      · have HV := Lib.hid hv
        clear hv
        obtain ⟨x, hx⟩ : ∃ x, x = d[h]! := ⟨_, rfl⟩
        have la := HS.out.ld R (HZ.out.trans HZ0.out.symm) P (h) (by rw [HZ.out]; omega)
        have lb := fun n' os' => (HBX.out.grown n' os').load P
        rw [← hx] at la
        have hc := HS.out.cmp HC.out HZ.out x y
        have hd : decide (cf x y < 0) = false := by rw [hx]; exact decide_eq_false HV.out
        clear hx
        go_wp2_with fail
        go_quiet_grown (first | (go_at_fn g; refine Calls.grown_of (hc _ _)))
        have S2 := Lib.hid (HS.out.grown nq osq)
        have HB2 := Lib.hid (HBX.out.grown nq osq)
        clear la lb hc
        generalize grow (wr.drewN nq) osq = w2 at S2 HB2 ⊢
        clear nq osq
        go_wp2_with fail
        go_roundg (h - i)
        case measure => omega
        case rel => exact ⟨i, h, rfl, rfl, h1, by omega, Nat.le_refl _, Lib.hid ⟨HI.out.1, fun t h3 h4 => by
          rcases Int.lt_or_le (cf d[t]! y) 0 with h5 | h5
          · exact absurd (HM.out h t h3 h4 h5) (by have := HV.out; omega)
          · exact h5⟩, S2, HB2⟩
    · obtain rfl : i = j := by omega
      have hltz : ¬ (i : Int) < (i : Int) := by omega
      by_cases hin : i < sz
      · have hinz : (i : Int) < (sz : Int) := by omega
        have pi : (0 : Int) ≤ (i : Int) := by omega
        have hdi : decide (i < sz) = true := decide_eq_true hin
        obtain ⟨x, hx⟩ : ∃ x, x = d[i]! := ⟨_, rfl⟩
        have la := HS.out.ld R (HZ.out.trans HZ0.out.symm) P i (by rw [HZ.out]; omega)
        have lb := fun n' os' => (HBX.out.grown n' os').load P
        rw [← hx] at la
        have hc := HS.out.cmp HC.out HZ.out x y
        obtain ⟨r, hr⟩ : ∃ r, r = cf x y := ⟨_, rfl⟩
        rw [← hr] at hc
        have HR := Lib.hid (show cf d[i]! y = r by rw [hr, hx])
        have HDI := Lib.hid hdi
        clear hx hr hdi
        go_wp2_with fail
        go_quiet_grown (first | (go_at_fn g; refine Calls.grown_of (hc _ _)))
        have S2 := Lib.hid (HS.out.grown nq osq)
        clear la lb hc
        generalize grow (wr.drewN nq) osq = w2 at S2 ⊢
        clear nq osq
        go_wp2_with fail
        go_ret2
        refine ⟨i, hjs, HI.out.1, HI.out.2, ?_, S2.out⟩
        rw [HDI.out, HR.out]; rfl
      · have hinz : ¬ (i : Int) < (sz : Int) := by omega
        have hinz2 : decide ((i : Int) < (sz : Int)) = false := decide_eq_false hinz
        have HDI := Lib.hid (show decide (i < sz) = false from decide_eq_false hin)
        have S2 := Lib.hid HS.out.drew
        generalize hcw : cf d[i]! y = r
        have HR := Lib.hid hcw
        have hin2 : decide (i < sz) = false := decide_eq_false hin
        clear hcw
        go_wp2_with fail
        go_big_region_o
        generalize wr.drew = w2 at S2 ⊢
        go_wp2_with fail
        go_ret2
        refine ⟨i, hjs, HI.out.1, HI.out.2, ?_, S2.out⟩
        rw [HDI.out]; rfl
end Go.Proofs.YtnbjpgdnfklanaaGreatDoor

namespace Go.Proofs.YtnbjpgdnfklanaaGreatDoor
open Go.RowKit
structure Onto (w w' : World) : Prop where
  below : Below w.heap.size w w'
  drawn : w'.drawn = w.drawn
theorem Onto.refl (w : World) : Onto w w := ⟨Below.refl _ _, rfl⟩
theorem Onto.alloc {w w' : World} (h : Onto w w') (o : Obj) : Onto w (w'.alloc o) := ⟨h.below.alloc h.below.size o, h.drawn⟩
theorem Onto.next {w w1 w2 : World} (h : Onto w w1) (k : Onto w1 w2) : Onto w w2 := ⟨below_next h.below k.below, k.drawn.trans h.drawn⟩
end Go.Proofs.YtnbjpgdnfklanaaGreatDoor
