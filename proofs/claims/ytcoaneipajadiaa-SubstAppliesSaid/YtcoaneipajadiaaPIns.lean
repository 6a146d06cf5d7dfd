/-
  A row sorted by insertion, by the library's own text.
-/
import Derived.Test.YtcoaneipajadiaaPRot
namespace Go.Proofs.Ytcoaneipajadiaa
open Go.RowKit Go.Shelf Go.Lib Go.Sort
variable {α : Type} [Inhabited α] {P : Program} {k : Nat} {enc : α → List Value}

set_option maxRecDepth 100000 in
set_option maxHeartbeats 4000000 in
theorem ins_gen (T : TyB P k) (Fins : P.funcs[(67 : Nat)]? = some Try.f67) (cf : α → α → Int) (g : Nat) (eg : ∀ args w, (callFunc g args).run P w = .ok (.enter g args) w) (blk off cap a b sz : Nat) (d d0 : Array α) (w0 w : World) (hcmp : CmpLays P g #[] enc k cf blk off sz w0) (R : RowK enc k w0 blk off d0) (S : SWK enc k w0 blk off d w) (hs : d.size = sz) (h0 : d0.size = sz) (hab : a ≤ b) (hb : b ≤ sz) (hsz : sz ≤ 1000000) :
    Calls P 67 #[.slice (some ⟨blk, off, none⟩) sz cap, .int .i64 a, .int .i64 b, .func (.func g) #[] #[]] w fun e w' =>
      e = .returned (.tuple #[]) ∧ SWK enc k w0 blk off (Sort.insertionSort (ltOf cf) d a b) w' := by
  have HC := Lib.hid hcmp
  have HS0 := Lib.hid S
  have HZ := Lib.hid hs
  have HZ0 := Lib.hid h0
  clear S hs h0 hcmp
  have mixed := T.mixed; have t0 := T.t0; have a0 := T.a0; have z0 := T.z0; have v0 := T.v0; have t3 := T.t3; have a3 := T.a3; have z3 := T.z3; have v3 := T.v3; have t4 := T.t4; have a4 := T.a4; have z4 := T.z4; have v4 := T.v4; have t77 := T.t77; have a77 := T.a77; have z77 := T.z77; have v77 := T.v77; have t22 := T.t22; have a22 := T.a22; have z22 := T.z22; have v22 := T.v22; have t53 := T.t53; have a53 := T.a53; have z53 := T.z53; have v53 := T.v53; have aE := T.aE; have zE := T.zE
  have u0 := run_underlying T.t0; have u3 := run_underlying T.t3; have u4 := run_underlying T.t4; have u22 := run_underlying T.t22; have u53 := run_underlying T.t53; have u77 := run_underlying T.t77
  go_enter Fins, Try.ntmps67
  go_wp2_with fail
  go_loopg [8] (b - a) (fun g1 vi wr => ∃ (i : Nat) (dk : Array α), vi = .int .i64 i ∧ a < i ∧ i ≤ b + 1 ∧ b + 1 - i ≤ g1 + 1 ∧ Hid (dk.size = sz ∧ insOuter (ltOf cf) a b i dk = insOuter (ltOf cf) a b (a + 1) d) ∧ Hid (SWK enc k w0 blk off dk wr))
  case atStart => exact ⟨a + 1, d, by go_num, by omega, by omega, by omega, Lib.hid ⟨HZ.out, rfl⟩, HS0⟩
  case round =>
    clear HS0
    obtain ⟨i, dk, rfl, hai, hib, hg1, HO, HS⟩ := hrel
    by_cases hlt : i < b
    · have hltz : (i : Int) < (b : Int) := by omega
      go_wp2_with fail
      go_loopg [9] i (fun g2 vj wr2 => ∃ (j : Nat) (dj : Array α), vj = .int .i64 j ∧ a ≤ j ∧ j ≤ i ∧ j ≤ g2 ∧ Hid (dj.size = sz ∧ insInner (ltOf cf) a j dj = insInner (ltOf cf) a i dk) ∧ Hid (SWK enc k w0 blk off dj wr2))
      case atStart => exact ⟨i, dk, rfl, by omega, Nat.le_refl _, Nat.le_refl _, Lib.hid ⟨HO.out.1, rfl⟩, HS⟩
      case round =>
        clear HS
        obtain ⟨j, dj, rfl, haj, hji, hg2, HI, HSJ⟩ := hrel
        have OUT := Lib.hid (fun (hs : j ≤ a ∨ ltOf cf dj[j]! dj[j - 1]! = false) => (show dj.size = sz ∧ insOuter (ltOf cf) a b (i + 1) dj = insOuter (ltOf cf) a b (a + 1) d from ⟨HI.out.1, by
          rw [← HO.out.2, insOuter_go _ _ _ _ _ hlt, ← HI.out.2, insInner_stop _ _ _ _ hs]⟩))
        by_cases hja : a < j
        · have hjaz : (a : Int) < (j : Int) := by omega
          obtain ⟨jp, rfl⟩ : ∃ jp, j = jp + 1 := ⟨j - 1, by omega⟩
          have hwp : IntKind.i64.wrap (jp : Int) = (jp : Int) := by rw [IntKind.wrap_i64]; omega
          have jz : (jp : Int) + 1 < (sz : Int) := by omega
          have jz1 : (jp : Int) < (sz : Int) := by omega
          have hjaz' : (a : Int) < (jp : Int) + 1 := by omega
          have p0 : (0 : Int) ≤ (jp : Int) + 1 := by omega
          have e0 : ((jp : Int) + 1).toNat = jp + 1 := by omega
          cases hl : ltOf cf dj[jp + 1]! dj[jp]! with
          | true =>
            have HL := Lib.hid hl
            clear hl
            obtain ⟨x, hx⟩ : ∃ x, x = dj[jp + 1]! := ⟨_, rfl⟩
            obtain ⟨y, hy⟩ : ∃ y, y = dj[jp]! := ⟨_, rfl⟩
            have la := HSJ.out.ld R (HI.out.1.trans HZ0.out.symm) P (jp + 1) (by rw [HI.out.1]; omega)
            have lb := HSJ.out.ld R (HI.out.1.trans HZ0.out.symm) P (jp) (by rw [HI.out.1]; omega)
            rw [← hx] at la
            rw [← hy] at lb
            have hc := HSJ.out.cmp HC.out HI.out.1 x y
            have hv : cf x y < 0 := by rw [hx, hy]; exact of_decide_eq_true HL.out
            have hd : decide (cf x y < 0) = true := decide_eq_true hv
            clear hx hy
            go_wp2_with fail
            go_quiet_grown (first | (go_at_fn g; refine Calls.grown_of (hc _ _)))
            have S2 := Lib.hid (HSJ.out.grown nq osq)
            clear la lb hc hv hd
            generalize grow (wr.drewN nq) osq = w2 at S2 ⊢
            clear nq osq
            go_wp2_with fail
            have hpd : jp + 1 < dj.size := by rw [HI.out.1]; omega
            have hqd : jp < dj.size := by rw [HI.out.1]; omega
            have hd0 : dj.size = d0.size := HI.out.1.trans HZ0.out.symm
            have S3 := Lib.hid (S2.out.swapped R (jp + 1) (jp) hpd hqd)
            have la := S2.out.ld1 R hd0 P (jp + 1) hpd
            have lb := S2.out.ld1 R hd0 P (jp) hqd
            have sa := S2.out.st1 R hd0 P (jp + 1) hpd dj[jp]!
            have sb := S2.out.st2 R hd0 P (jp + 1) (jp) hpd hqd dj[jp]! dj[jp + 1]!
            have na : (enc dj[jp + 1]!).length = k := R.hk _
            have nb : (enc dj[jp]!).length = k := R.hk _
            generalize enc dj[jp + 1]! = cP at S3 la sb na
            generalize enc dj[jp]! = cQ at S3 lb sa sb nb
            clear hpd hqd hd0
            go_wp2_with fail
            go_big_region_o
            clear la lb sa sb na nb
            generalize (w2.drew.setCells blk (off + (jp + 1) * k) cQ).setCells blk (off + (jp) * k) cP = w3 at S3 ⊢
            go_wp2_with fail
            go_roundg jp
            case measure => omega
            case rel =>
              refine ⟨jp, swp dj (jp + 1) jp, by first | rfl | go_num | (congr 1; omega), by omega, by omega, Nat.le_refl _, Lib.hid ⟨by rw [size_swp]; exact HI.out.1, ?_⟩, S3⟩
              have := insInner_go (ltOf cf) a (jp + 1) dj hja (by simp only [Nat.add_sub_cancel]; exact HL.out)
              simp only [Nat.add_sub_cancel] at this
              rw [← HI.out.2, this]
          | false =>
            have HL := Lib.hid hl
            clear hl
            obtain ⟨x, hx⟩ : ∃ x, x = dj[jp + 1]! := ⟨_, rfl⟩
            obtain ⟨y, hy⟩ : ∃ y, y = dj[jp]! := ⟨_, rfl⟩
            have la := HSJ.out.ld R (HI.out.1.trans HZ0.out.symm) P (jp + 1) (by rw [HI.out.1]; omega)
            have lb := HSJ.out.ld R (HI.out.1.trans HZ0.out.symm) P (jp) (by rw [HI.out.1]; omega)
            rw [← hx] at la
            rw [← hy] at lb
            have hc := HSJ.out.cmp HC.out HI.out.1 x y
            have hv : ¬ cf x y < 0 := by rw [hx, hy]; exact of_decide_eq_false HL.out
            have hd : decide (cf x y < 0) = false := decide_eq_false hv
            clear hx hy
            go_wp2_with fail
            go_quiet_grown (first | (go_at_fn g; refine Calls.grown_of (hc _ _)))
            have S2 := Lib.hid (HSJ.out.grown nq osq)
            clear la lb hc hv hd
            generalize grow (wr.drewN nq) osq = w2 at S2 ⊢
            clear nq osq
            go_wp2_with fail
            go_roundg (b - (i + 1))
            case measure => omega
            case rel => exact ⟨i + 1, dj, by go_num, by omega, by omega, by omega, Lib.hid (OUT.out (Or.inr (by simp only [Nat.add_sub_cancel]; exact HL.out))), S2⟩
        · have hjaz : decide ((j : Int) > (a : Int)) = false := decide_eq_false (by omega)
          have hjaz' : ¬ (a : Int) < (j : Int) := by omega
          have S2 := Lib.hid HSJ.out.drew
          clear HSJ
          go_wp2_with fail
          go_big_region_o
          generalize wr.drew = w2 at S2 ⊢
          go_wp2_with fail
          go_roundg (b - (i + 1))
          case measure => omega
          case rel => exact ⟨i + 1, dj, by go_num, by omega, by omega, by omega, Lib.hid (OUT.out (Or.inl (by omega))), S2⟩
    · have hltz : ¬ (i : Int) < (b : Int) := by omega
      go_wp2_with fail
      go_end0
      exact ⟨rfl, by unfold Sort.insertionSort; rw [← HO.out.2, insOuter_stop _ _ _ _ _ hlt]; exact HS.out⟩
end Go.Proofs.Ytcoaneipajadiaa
