/-
  How deep a term goes, by the program's Depth: for any term in memory that has not too many parts.
-/
import Derived.Test.YtpdbnhhpibpbnaaDoorVarsTm
import Derived.Test.YtpdbnhhpibpbnaaDoorPCmpTm
namespace Go.Proofs.YtpdbnhhpibpbnaaDoor
open Go.RowKit

set_option maxRecDepth 100000 in
set_option maxHeartbeats 1000000 in
theorem pdepth_tm (m : Nat) : ∀ (x : Tv) (w : World), x.t.parts ≤ m → m ≤ 1000000 → x.ok w →
    Calls Tryd.prog 13 #[x.val] w fun e w' => e = .returned (.int .i64 x.t.depth) ∧ Below w.heap.size w w' := by
  induction m with
  | zero => intro x w h; have := parts_pos x.t; omega
  | succ m ih =>
    intro x w hm hm1 hx
    obtain ⟨⟨k, s, n, xs⟩, a, c⟩ := x
    obtain ⟨_, hxl, hxr⟩ := hx
    have hpe : (Tm.mk k s n xs).depth = depthL xs + 1 := depth_eq _
    have hpp : (Tm.mk k s n xs).parts = partsL xs + 1 := parts_eq _
    simp only [Tv.val, Tm.kind, Tm.name, Tm.n, Tm.args] at hxl hxr hm ⊢
    have hpl : ∀ j (h : j < xs.length), xs[j].parts ≤ m := fun j h => by
      have := parts_arg (.mk k s n xs) (j := j) h
      have e : (Tm.mk k s n xs).args[j] = xs[j] := rfl
      rw [e] at this; omega
    have hlen := partsL_length xs
    have hll : xs.length ≤ 1000000 := by omega
    have IH := Lib.hid (fun x w h1 h2 => ih x w h1 (by omega) h2)
    have HP := Lib.hid hpl
    have HE := Lib.hid hpe
    clear ih hpl hm hpe hpp hlen
    rcases hxr with rfl | ⟨b, off, rfl, hlt, hr⟩
    · have hr := Lib.hid (show (((Tm.mk k s n []).depth : Nat) : Int) = 1 from by rw [HE.out, depthL]; rfl)
      go_enter Tryd.func13, Tryd.ntmps13
      go_wp2_with fail
      refine wp_loop_rounds 1 ?_; rw [rounds_succ]
      go_wp2_with fail
      go_ret
      exact ⟨ret_int hr.out.symm, (Below.refl _ _).alloc (Nat.le_refl _) _⟩
    · have HR := Lib.hid hr
      clear hr
      go_enter Tryd.func13, Tryd.ntmps13
      go_wp2_with fail
      go_loopw [3, 9] (fun q i wr => ∃ (j d : Nat), j ≤ xs.length ∧ i = .int .i64 j ∧ q = .int .i64 d ∧ d ≤ 1000001 ∧ Hid (d = depthL (xs.take j)) ∧ Below w.heap.size w wr) (fun _ i _ => xs.length - (intOf i).toNat)
      case atStart => exact ⟨0, 0, Nat.zero_le _, rfl, rfl, by omega, Lib.hid (by rw [List.take_zero, depthL]), (Below.refl _ _).alloc (Nat.le_refl _) _⟩
      case round =>
        obtain ⟨j, d, hj, rfl, rfl, hd, HD, hb⟩ := hrel
        by_cases hjl : j < xs.length
        · have hil : (j : Int) < (xs.length : Int) := by omega
          obtain ⟨u, hu, huk, hat⟩ := tmAt_tv (rowAt_get HR.out hjl)
          obtain ⟨d0, d1, d2, d3⟩ := hat.below hb
          have C := Lib.hid (IH.out u (wr.alloc (.cells #[.int .i64 u.t.kind, .string u.t.name, .int .i64 u.t.n, .slice u.a u.t.args.length u.c] 24)) (by rw [hu]; exact HP.out j hjl) ((huk.below hb).below ((Below.refl _ _).alloc (Nat.le_refl _) _)))
          have hud : u.t.depth ≤ 1000000 := by have h2 := HP.out j hjl; rw [← hu] at h2; have := depth_le u.t; omega
          have hst := depthL_take hjl
          rw [← hu] at hst
          simp only [Tv.val] at C
          obtain ⟨ud, hude⟩ : ∃ ud, ud = u.t.depth := ⟨_, rfl⟩
          rw [← hude] at C hud hst
          have HST := Lib.hid hst
          clear hu huk hat hst hude
          by_cases hlt : d < ud
          · have hil2 : (d : Int) < (ud : Int) := by omega
            go_wp2_with fail
            refine C.out.mono ?_; rintro e w1 ⟨rfl, hb1⟩
            go_wp2_with fail
            go_roundw
            case rel => exact ⟨j + 1, ud, by omega, by go_num, by go_num, by omega, Lib.hid (by have := HD.out; have := HST.out; omega), below_next (hb.alloc hb.size _) hb1⟩
            case measure => simp [intOf]; omega
          · have hil2 : ¬ (d : Int) < (ud : Int) := by omega
            go_wp2_with fail
            refine C.out.mono ?_; rintro e w1 ⟨rfl, hb1⟩
            go_wp2_with fail
            go_roundw
            case rel => exact ⟨j + 1, d, by omega, by go_num, rfl, by omega, Lib.hid (by have := HD.out; have := HST.out; omega), below_next (hb.alloc hb.size _) hb1⟩
            case measure => simp [intOf]; omega
        · obtain rfl : j = xs.length := by omega
          have hr := Lib.hid (show ((d : Nat) : Int) + 1 = ((Tm.mk k s n xs).depth : Nat) from by rw [HE.out, HD.out, List.take_length]; rfl)
          go_wp2_with fail
          go_ret
          exact ⟨ret_int hr.out, hb⟩
end Go.Proofs.YtpdbnhhpibpbnaaDoor
