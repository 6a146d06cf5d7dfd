/-
  Two parts of a row turned about, by the library's own text.
-/
import Derived.Test.YtcoaneipajadiaaPSwr
namespace Go.Proofs.Ytcoaneipajadiaa
open Go.RowKit Go.Shelf Go.Lib Go.Sort
variable {α : Type} [Inhabited α] {P : Program} {k : Nat} {enc : α → List Value}

set_option maxRecDepth 100000 in
set_option maxHeartbeats 4000000 in
theorem rot_gen (T : TyB P k) (Frot : P.funcs[(82 : Nat)]? = some Try.f82) (Fswr : P.funcs[(92 : Nat)]? = some Try.f92) (fv : Value) (blk off cap a m b sz : Nat) (d d0 : Array α) (w0 w : World) (R : RowK enc k w0 blk off d0) (S : SWK enc k w0 blk off d w) (hs : d.size = sz) (h0 : d0.size = sz) (ham : a < m) (hmb : m < b) (hb : b ≤ sz) (hsz : sz ≤ 1000000) :
    Calls P 82 #[.slice (some ⟨blk, off, none⟩) sz cap, .int .i64 a, .int .i64 m, .int .i64 b, fv] w fun e w' =>
      e = .returned (.tuple #[]) ∧ ∃ d', Idx d d' (rotI a m b) ∧ SWK enc k w0 blk off d' w' := by
  have C := Lib.hid (fun (x y n : Nat) (dk : Array α) (W : World) (hS : SWK enc k w0 blk off dk W) (hk : dk.size = sz) (h1 : x + n ≤ y) (h2 : y + n ≤ sz) => swr_gen T Fswr fv blk off cap x y n sz dk d0 w0 W R hS hk h0 h1 h2 hsz)
  have HS0 := Lib.hid S
  have HZ := Lib.hid hs
  clear S hs h0
  have mixed := T.mixed; have t0 := T.t0; have a0 := T.a0; have z0 := T.z0; have v0 := T.v0; have t3 := T.t3; have a3 := T.a3; have z3 := T.z3; have v3 := T.v3; have t4 := T.t4; have a4 := T.a4; have z4 := T.z4; have v4 := T.v4; have t77 := T.t77; have a77 := T.a77; have z77 := T.z77; have v77 := T.v77; have t22 := T.t22; have a22 := T.a22; have z22 := T.z22; have v22 := T.v22; have t53 := T.t53; have a53 := T.a53; have z53 := T.z53; have v53 := T.v53; have aE := T.aE; have zE := T.zE
  have u0 := run_underlying T.t0; have u3 := run_underlying T.t3; have u4 := run_underlying T.t4; have u22 := run_underlying T.t22; have u53 := run_underlying T.t53; have u77 := run_underlying T.t77
  have hi0 : (m : Int) - (a : Int) = ((m - a : Nat) : Int) := by omega
  have hj0 : (b : Int) - (m : Int) = ((b - m : Nat) : Int) := by omega
  have HI0 := Lib.hid hi0
  have HJ0 := Lib.hid hj0
  clear hi0 hj0
  have eswr : ∀ args w, (callFunc 92 args).run P w = .ok (.enter 92 args) w := enters_of Fswr (by kernel_rfl) rfl
  go_enter Frot, Try.ntmps82
  go_wp2_with fail
  go_loopg [10, 11] b (fun kx s10 s11 wr => ∃ (i j : Nat) (dk : Array α), s10 = .int .i64 i ∧ s11 = .int .i64 j ∧ 0 < i ∧ 0 < j ∧ i ≤ m ∧ a ≤ m - i ∧ m + j ≤ b ∧ i + j ≤ kx ∧ Hid (dk.size = sz ∧ ∀ x, x < sz → dk[rotI (m - i) m (m + j) x]! = d[rotI a m b x]!) ∧ Hid (SWK enc k w0 blk off dk wr))
  case atStart => exact ⟨m - a, b - m, d, by rw [HI0.out], by rw [HJ0.out], by omega, by omega, by omega, by omega, by omega, by omega, Lib.hid ⟨HZ.out, fun x _ => by rw [show m - (m - a) = a from by omega, show m + (b - m) = b from by omega]⟩, HS0⟩
  case round =>
    clear HS0 HI0 HJ0
    obtain ⟨i, j, dk, rfl, rfl, hi, hj, him, hai, hjb, hkx, HI, HS⟩ := hrel
    rcases (show i = j ∨ j < i ∨ i < j from by omega) with rfl | hlt | hlt
    · have e1 : (m : Int) - (i : Int) = ((m - i : Nat) : Int) := by omega
      have HF := Lib.hid (fun (d' : Array α) (h : Idx dk d' (swrI (m - i) m i)) => (show Idx d d' (rotI a m b) from ⟨h.1.trans (HI.out.1.trans HZ.out.symm), fun x hx => by
        rw [HZ.out] at hx
        rw [h.2 x (by rw [HI.out.1]; exact hx), rot_even him, HI.out.2 x hx]⟩))
      have D := Lib.hid (C.out (m - i) m i dk wr HS.out HI.out.1 (by omega) (by omega))
      go_wp2_with fail
      go_at_fn 92; refine D.out.mono ?_; rintro e w' ⟨rfl, d', hd', hw'⟩
      have HD := Lib.hid hd'
      have HW := Lib.hid hw'
      clear hd' hw' e1
      go_wp2_with fail
      go_end0
      exact ⟨rfl, d', HF.out d' HD.out, HW.out⟩
    · have e1 : (m : Int) - (i : Int) = ((m - i : Nat) : Int) := by omega
      have hne : ¬ (i : Int) = (j : Int) := by omega
      have hltz : (j : Int) < (i : Int) := by omega
      have D := Lib.hid (C.out (m - i) m j dk wr HS.out HI.out.1 (by omega) (by omega))
      have HF := Lib.hid (fun (d' : Array α) (h : Idx dk d' (swrI (m - i) m j)) => (show d'.size = sz ∧ ∀ x, x < sz → d'[rotI (m - (i - j)) m (m + j) x]! = d[rotI a m b x]! from ⟨h.1.trans HI.out.1, fun x hx => by
        rw [h.2 _ (by rw [HI.out.1]; exact rotI_lt (by omega) (by omega) hx), rot_more hlt him hj, HI.out.2 x hx]⟩))
      have e2 : (i : Int) - (j : Int) = ((i - j : Nat) : Int) := by omega
      have HE2 := Lib.hid e2
      clear e2
      go_wp2_with fail
      go_at_fn 92; refine D.out.mono ?_; rintro e w' ⟨rfl, d', hd', hw'⟩
      have HD := Lib.hid hd'
      have HW := Lib.hid hw'
      clear hd' hw' e1
      go_wp2_with fail
      go_roundg (i - j + j)
      case measure => omega
      case rel => exact ⟨i - j, j, d', by rw [HE2.out], rfl, by omega, hj, by omega, by omega, hjb, Nat.le_refl _, Lib.hid (HF.out d' HD.out), HW⟩
    · have e1 : (m : Int) - (i : Int) = ((m - i : Nat) : Int) := by omega
      have hne : ¬ (i : Int) = (j : Int) := by omega
      have hltz : ¬ (j : Int) < (i : Int) := by omega
      have e3 : (m : Int) + (j : Int) - (i : Int) = ((m + j - i : Nat) : Int) := by omega
      have D := Lib.hid (C.out (m - i) (m + j - i) i dk wr HS.out HI.out.1 (by omega) (by omega))
      have HF := Lib.hid (fun (d' : Array α) (h : Idx dk d' (swrI (m - i) (m + j - i) i)) => (show d'.size = sz ∧ ∀ x, x < sz → d'[rotI (m - i) m (m + (j - i)) x]! = d[rotI a m b x]! from ⟨h.1.trans HI.out.1, fun x hx => by
        rw [h.2 _ (by rw [HI.out.1]; exact rotI_lt (by omega) (by omega) hx), rot_less hlt him hi, HI.out.2 x hx]⟩))
      have e2 : (j : Int) - (i : Int) = ((j - i : Nat) : Int) := by omega
      have HE2 := Lib.hid e2
      clear e2
      go_wp2_with fail
      go_at_fn 92; refine D.out.mono ?_; rintro e w' ⟨rfl, d', hd', hw'⟩
      have HD := Lib.hid hd'
      have HW := Lib.hid hw'
      clear hd' hw' e1 e3
      go_wp2_with fail
      go_roundg (i + (j - i))
      case measure => omega
      case rel => exact ⟨i, j - i, d', rfl, by rw [HE2.out], hi, by omega, him, hai, by omega, Nat.le_refl _, Lib.hid (HF.out d' HD.out), HW⟩
end Go.Proofs.Ytcoaneipajadiaa
