/-
  How many parts a term has, up to a bound, by the reference of layer 3: count, for any term in memory.
-/
import Derived.Test.YtmpaljmkfnpcpaaDoorCountPu
import Derived.Test.YtmpaljmkfnpcpaaDoorSamePu
namespace Go.Proofs.YtmpaljmkfnpcpaaDoor
open Go.RowKit

set_option maxRecDepth 100000 in
set_option maxHeartbeats 2000000 in
theorem count_tm (m : Nat) : ∀ (x : Tv) (most : Int) (w : World), x.t.parts ≤ m → x.ok w → 0 ≤ most → most ≤ 1000000 →
    Calls Tryd.prog 31 #[x.val, .int .i64 most] w fun e w' => e = .returned (.int .i64 (cnt x.t.parts most)) ∧ Below w.heap.size w w' := by
  induction m with
  | zero => intro x most w h; have := parts_pos x.t; omega
  | succ m ih =>
    intro x most w hm hx hm0 hm1
    obtain ⟨⟨k, s, n, xs⟩, a, c⟩ := x
    obtain ⟨_, hxl, hxr⟩ := hx
    have hpe : (Tm.mk k s n xs).parts = partsL xs + 1 := parts_eq _
    simp only [Tv.val, Tm.kind, Tm.name, Tm.n, Tm.args] at hxl hxr ⊢
    have hpl : ∀ j (h : j < xs.length), xs[j].parts ≤ m := fun j h => by
      have := parts_arg (.mk k s n xs) (j := j) h
      have e : (Tm.mk k s n xs).args[j] = xs[j] := rfl
      rw [e] at this; simp only at hm; omega
    have IH := Lib.hid ih
    have HP := Lib.hid hpl
    have HE := Lib.hid hpe
    clear ih hpl hm hpe
    rcases hxr with rfl | ⟨b, off, rfl, hlt, hr⟩
    · by_cases hmm : (1 : Int) ≤ most
      · have hr := Lib.hid (show cnt (Tm.mk k s n []).parts most = 1 from by rw [HE.out, partsL_nil, cnt_in (by omega)]; rfl)
        go_enter Tryd.func31, Tryd.ntmps31
        go_wp2
        refine wp_loop_rounds 1 ?_; rw [rounds_succ]
        go_wp2
        go_ret
        exact ⟨ret_int hr.out.symm, (Below.refl _ _).alloc (Nat.le_refl _) _⟩
      · have hr := Lib.hid (show cnt (Tm.mk k s n []).parts most = most + 1 from by rw [HE.out, partsL_nil, cnt_out (by omega)])
        go_enter Tryd.func31, Tryd.ntmps31
        go_wp2
        refine wp_loop_rounds 1 ?_; rw [rounds_succ]
        go_wp2
        go_ret
        exact ⟨ret_int hr.out.symm, (Below.refl _ _).alloc (Nat.le_refl _) _⟩
    · have HR := Lib.hid hr
      clear hr
      go_enter Tryd.func31, Tryd.ntmps31
      go_wp2
      go_loopw [5, 11] (fun q i wr => ∃ j : Nat, j ≤ xs.length ∧ i = .int .i64 j ∧ q = .int .i64 (cnt (partsL (xs.take j) + 1) most) ∧ Below w.heap.size w wr) (fun _ i _ => xs.length - (intOf i).toNat)
      case atStart => exact ⟨0, Nat.zero_le _, rfl, by rw [List.take_zero, partsL_nil, cnt_one hm0], (Below.refl _ _).alloc (Nat.le_refl _) _⟩
      case round =>
        obtain ⟨j, hj, rfl, rfl, hb⟩ := hrel
        have hbs := hb.size
        by_cases hjl : j < xs.length
        · have hil : (j : Int) < (xs.length : Int) := by omega
          obtain ⟨u, hu, huk, d0, d1, d2, d3⟩ := tmAt_tv ((rowAt_get HR.out hjl).below hb)
          obtain ⟨p, hp⟩ : ∃ p, p = partsL (xs.take j) + 1 := ⟨_, rfl⟩
          have hnext : partsL (xs.take (j + 1)) + 1 = p + u.t.parts := by rw [partsL_take xs hjl, hp, hu]; omega
          have hall : p + u.t.parts ≤ partsL xs + 1 := by
            rw [← hnext]
            have e := partsL_append (xs.take (j + 1)) (xs.drop (j + 1))
            rw [List.take_append_drop] at e; omega
          rw [← hp]
          by_cases hpm : (p : Int) ≤ most
          · rw [cnt_in hpm]
            have hcb := cnt_bd (p := u.t.parts) (most := most - p) (by omega)
            have C := Lib.hid (fun w' (h : Below wr.heap.size wr w') => IH.out u (most - p) w' (by rw [hu]; exact HP.out j hjl) (huk.below h) (by omega) (by omega))
            have hst := cnt_step (q := u.t.parts) hpm
            obtain ⟨r, hr⟩ : ∃ r, r = cnt u.t.parts (most - p) := ⟨_, rfl⟩
            rw [← hr] at C hcb hst
            have HS := Lib.hid hst
            have HN := Lib.hid hnext
            clear hu hp hnext huk hr hst hall
            go_wp2_with fail
            refine (C.out _ ((Below.refl _ _).alloc (Nat.le_refl _) _)).mono ?_; rintro e w1 ⟨rfl, hb1⟩
            go_wp2_with fail
            go_roundw
            case rel => exact ⟨j + 1, by omega, by go_num, by rw [HN.out, ← HS.out], (hb.alloc hb.size _).trans (hb1.mono (by simp; omega))⟩
            case measure => simp [intOf]; omega
          · rw [cnt_out hpm]
            have hr := Lib.hid (show cnt (Tm.mk k s n xs).parts most = most + 1 from by rw [HE.out, cnt_out (by omega)])
            clear hu hp hnext huk hall
            go_wp2_with fail
            go_ret
            exact ⟨ret_int hr.out.symm, hb.alloc hb.size _⟩
        · obtain rfl : j = xs.length := by omega
          rw [List.take_length, ← HE.out]
          by_cases hpm : ((Tm.mk k s n xs).parts : Int) ≤ most
          · have hr := Lib.hid (cnt_in hpm)
            rw [hr.out]
            obtain ⟨p, hp⟩ : ∃ p, p = (Tm.mk k s n xs).parts := ⟨_, rfl⟩
            rw [← hp] at hr hpm ⊢
            have HQ := Lib.hid hp
            clear hp
            go_wp2_with fail
            go_ret
            exact ⟨ret_int (by rw [← HQ.out]; exact hr.out.symm), hb⟩
          · have hr := Lib.hid (cnt_out hpm)
            rw [hr.out]
            clear hpm
            go_wp2_with fail
            go_ret
            exact ⟨ret_int hr.out.symm, hb⟩
end Go.Proofs.YtmpaljmkfnpcpaaDoor
