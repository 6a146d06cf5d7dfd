/-
  Terms that are small, by the reference of layer 3: Within.
-/
import Derived.Test.YtmpaljmkfnpcpaaDoorWithPu
import Derived.Test.YtmpaljmkfnpcpaaDoorCountTm
namespace Go.Proofs.YtmpaljmkfnpcpaaDoor
open Go.RowKit

set_option maxRecDepth 100000 in
set_option maxHeartbeats 1000000 in
theorem within_tm (x : Tv) (most : Int) (h0 : 0 ≤ most) (h1 : most ≤ 100000) (w : World) (hx : x.ok w) :
    Calls Tryd.prog 19 #[x.val, .int .i64 most] w fun e w' => e = .returned (.bool (withinB x.t most)) ∧ Below w.heap.size w w' := by
  have C := Lib.hid (fun w hx => count_tm x.t.parts x most w (Nat.le_refl _) hx h0 (by omega))
  by_cases hp : (x.t.parts : Int) ≤ most
  · have hcn := cnt_in hp
    have A := Lib.hid (fun w hx => all_tm x.t.parts x w w (Nat.le_refl _) (by omega) hx (Below.refl _ _))
    rw [hcn] at C
    have HX := Lib.hid hx
    have HP := Lib.hid hp
    have HAL := Lib.hid (all_length x.t)
    have hpb : x.t.parts ≤ 100000 := by omega
    have HNE := Lib.hid (show x.t.all ≠ [] from by rw [all_eq]; simp)
    have hNT := fun (h : NamesTo x.t.all x.t.all.length) => h.all hp
    have HNT := Lib.hid hNT
    have HNB := Lib.hid (fun k hk h => names_bad (t := x.t) (most := most) (k := k) hk h)
    obtain ⟨p, hpe⟩ : ∃ p, p = x.t.parts := ⟨_, rfl⟩
    obtain ⟨ts, hts⟩ : ∃ ts, ts = x.t.all := ⟨_, rfl⟩
    obtain ⟨z, hz⟩ : ∃ z, z = withinB x.t most := ⟨_, rfl⟩
    rw [← hpe] at C hp hpb HAL
    rw [← hts] at A HNT HNB HAL HNE
    rw [← hz] at HNT HNB ⊢
    clear hcn hx hpe hts hz hNT
    obtain ⟨t, a, c⟩ := x
    simp only [Tv.val] at C A ⊢
    go_enter Tryd.func19, Tryd.ntmps19
    go_wp2_with fail
    refine (C.out _ (HX.out.below ((Below.refl _ _).alloc (Nat.le_refl _) _))).mono ?_; rintro e w1 ⟨rfl, hb1⟩
    obtain ⟨hbx, hb, hlt⟩ := below_box' (box_new _ _ _ _ _ _) hb1
    obtain ⟨c0, c1, c2, c3, _, _, _, _⟩ := hbx
    go_wp2_with fail
    refine (A.out _ (HX.out.below hb)).mono ?_; rintro e w2 ⟨v, rfl, hov, hnn, hb2⟩
    have htm := hov.tms hb2 (by have := HAL.out; omega)
    obtain ⟨a', c', rfl, hl, hh⟩ := htm.open_
    rcases hh with hh | ⟨b, o, rfl, hblt, hr⟩
    · exact absurd hh HNE.out
    have HR := Lib.hid hr
    have hbz := below_next hb hb2
    clear hov hnn hr htm hb2 hb1 hb c0 c1 c2 c3
    go_wp2
    go_loopw [15] (fun i wr => ∃ k : Nat, k ≤ ts.length ∧ i = .int .i64 k ∧ NamesTo ts k ∧ Below w2.heap.size w2 wr) (fun i _ => ts.length - (intOf i).toNat)
    case atStart => exact ⟨0, Nat.zero_le _, rfl, (fun j hj hk => by omega), Below.refl _ _⟩
    case round =>
      obtain ⟨k, hk, rfl, hsh, hbr⟩ := hrel
      have HS := Lib.hid hsh
      clear hsh
      by_cases hkl : k < ts.length
      · have hi : (k : Int) < (ts.length : Int) := by omega
        obtain ⟨u, hu, _, hat⟩ := HR.out k hkl
        obtain ⟨d0, d1, d2, d3⟩ := hat.below hbr
        have HU := Lib.hid hu
        clear hu hat
        by_cases hs : u.t.name.size ≤ 100
        · have HN := Lib.hid (show nameB ts[k] = true from by rw [← HU.out]; unfold nameB; exact decide_eq_true hs)
          go_wp2
          go_roundw
          case rel => exact ⟨k + 1, by omega, by go_num, HS.out.succ hkl HN.out, hbr.alloc hbr.size _⟩
          case measure => simp [intOf]; omega
        · have HN := Lib.hid (show nameB ts[k] = false from by rw [← HU.out]; unfold nameB; exact decide_eq_false hs)
          go_wp2
          go_ret
          exact ⟨ret_bool (HNB.out k hkl HN.out).symm, below_next hbz (hbr.alloc hbr.size _)⟩
      · obtain rfl : k = ts.length := by omega
        go_wp2
        go_ret
        exact ⟨ret_bool (HNT.out HS.out).symm, below_next hbz hbr⟩
  · have hcn := cnt_out hp
    rw [hcn] at C
    have HW := Lib.hid (within_big hp)
    have HX := Lib.hid hx
    clear hcn hp hx
    obtain ⟨t, a, c⟩ := x
    simp only [Tv.val] at C ⊢
    go_enter Tryd.func19, Tryd.ntmps19
    go_wp2_with fail
    refine (C.out _ (HX.out.below ((Below.refl _ _).alloc (Nat.le_refl _) _))).mono ?_; rintro e w1 ⟨rfl, hb1⟩
    have hb := below_box hb1
    clear hb1
    go_wp2_with fail
    go_ret
    exact ⟨ret_bool HW.out.symm, hb⟩
end Go.Proofs.YtmpaljmkfnpcpaaDoor
