/-
  The first name made of a name that is not used, by the reference of layer 8: Fresh.
-/
import Derived.Test.YtlbdlehlgalomaaDoorIn01
import Derived.Test.YtlbdlehlgalomaaDoorRdigits
import Derived.Test.YtlbdlehlgalomaaDoorFreshPu
namespace Go.Proofs.YtlbdlehlgalomaaDoor
open Go.RowKit

theorem itoa_short {n : Nat} (h : n ≤ 9223372036854775807) : (Lib.itoa n).length ≤ 42 := by
  rw [Lib.itoa_nonneg]; exact digits_len2 (by omega)
set_option maxRecDepth 100000 in
set_option maxHeartbeats 2000000 in
theorem rfreshs_any (v : Value) (zs : List ByteArray) (s : ByteArray) (w : World) (hv : Strs w v zs) (hl : zs.length ≤ 100000) (hs : s.size ≤ 100000) :
    Calls Tryd.prog 7 #[.string s, v] w fun e w' => e = .returned (.string (freshS s zs)) ∧ Below w.heap.size w w' := by
  have HV := Lib.hid hv
  have IN := Lib.hid (fun (x : ByteArray) (W : World) (h : Below w.heap.size w W) => (rin_any v zs x W (HV.out.below h)).mono (fun e w' hh => (show e = Ending.returned (.bool (Lib.containsS zs x)) ∧ W = w' from hh)))
  have DG := Lib.hid (fun (n : Nat) (h : n ≤ 100001) (W : World) => rdigits_any n (by omega) (by omega) W)
  obtain ⟨a, c, rfl, _, _⟩ := hv
  cases hc : Lib.containsS zs s with
  | false =>
    have I0 := Lib.hid (IN.out s)
    rw [hc] at I0
    have HF := Lib.hid (freshS_old hc)
    clear hc
    go_enter Tryd.func7, Tryd.ntmps7
    go_wp2_with fail
    refine (I0.out _ (Below.refl _ _)).mono ?_; rintro e w1 ⟨rfl, rfl⟩
    go_wp2_with fail
    go_ret
    exact ⟨by rw [HF.out]; rfl, Below.refl _ _⟩
  | true =>
    have I0 := Lib.hid (IN.out s)
    rw [hc] at I0
    have HC := Lib.hid hc
    clear hc
    go_enter Tryd.func7, Tryd.ntmps7
    go_wp2_with fail
    refine (I0.out _ (Below.refl _ _)).mono ?_; rintro e w1 ⟨rfl, rfl⟩
    go_wp2_with fail
    go_loopw [5] (fun i wr => ∃ n : Nat, 1 ≤ n ∧ n ≤ zs.length + 1 ∧ i = .int .i64 n ∧ Hid (∀ m, 1 ≤ m → m < n → numbered s m ∈ zs) ∧ Below w.heap.size w wr) (fun i _ => zs.length + 1 - (intOf i).toNat)
    case atStart => exact ⟨1, Nat.le_refl _, by omega, rfl, Lib.hid (fun m h1 h2 => by omega), Below.refl _ _⟩
    case round =>
      obtain ⟨n, hn1, hn2, rfl, HB, hb⟩ := hrel
      have hdl := itoa_short (n := n) (by omega)
      have D := Lib.hid (DG.out n (by omega))
      by_cases hle : n ≤ zs.length
      · have hg : decide ((n : Int) ≤ (zs.length : Int)) = true := decide_eq_true (by omega)
        go_wp2_with fail
        refine (D.out _).mono ?_; rintro e w2 ⟨rfl, hb2⟩
        have hb3 := below_next hb hb2
        cases hin : Lib.containsS zs (numbered s n) with
        | true =>
          have I1 := Lib.hid (IN.out (numbered s n) w2 hb3)
          rw [hin] at I1
          have HI := Lib.hid ((Lib.containsS_iff _ _).1 hin)
          clear hin
          go_wp2_with fail
          refine I1.out.mono ?_; rintro e w3 ⟨rfl, rfl⟩
          go_wp2_with fail
          go_roundw
          case rel => exact ⟨n + 1, by omega, by omega, by go_num, Lib.hid (fun m h1 h2 => by
            by_cases e : m = n
            · rw [e]; exact HI.out
            · exact HB.out m h1 (by omega)), hb3⟩
          case measure => simp [intOf]; omega
        | false =>
          have I1 := Lib.hid (IN.out (numbered s n) w2 hb3)
          rw [hin] at I1
          have HF := Lib.hid (freshS_new HC.out (n := n) ⟨hn1, HB.out, by rw [← Lib.containsS_iff, hin]; exact Bool.false_ne_true⟩)
          clear hin
          go_wp2_with fail
          refine I1.out.mono ?_; rintro e w3 ⟨rfl, rfl⟩
          go_wp2_with fail
          refine (D.out _).mono ?_; rintro e w4 ⟨rfl, hb4⟩
          have hb5 := below_next hb3 hb4
          go_wp2_with fail
          go_ret
          exact ⟨by rw [HF.out]; rfl, hb5⟩
      · have hg : decide ((n : Int) ≤ (zs.length : Int)) = false := decide_eq_false (by omega)
        obtain ⟨k, hk⟩ := free_is s zs
        have hkn : k = n := by
          rcases Nat.lt_trichotomy k n with h | h | h
          · exact absurd (HB.out k hk.pos h) hk.free
          · exact h
          · have := hk.le; omega
        have HF := Lib.hid (freshS_new HC.out (n := n) (hkn ▸ hk))
        clear hk hkn
        go_wp2_with fail
        refine (D.out _).mono ?_; rintro e w4 ⟨rfl, hb4⟩
        have hb5 := below_next hb hb4
        go_wp2_with fail
        go_ret
        exact ⟨by rw [HF.out]; rfl, hb5⟩
end Go.Proofs.YtlbdlehlgalomaaDoor
