/-
  The four laws of layer 1, walked: each answers true, for all values of its arguments, and makes new memory alone.
-/
import Derived.Test.YtjiifigpkcfgbaaDoorWord
import Derived.KernelRfl
namespace Go.Proofs.YtjiifigpkcfgbaaDoor
open Go.RowKit

theorem numEnd_07 : numEnd ⟨#[48, 55]⟩ = .returned (.tuple #[.int .i64 0, .bool false]) := by
  refine (numEnd_none (s := ⟨#[48, 55]⟩) ?_).symm
  refine num_other (v := 7) (by decide) ?_
  rw [show (7 : Int) = ((7 : Nat) : Int) from rfl, Lib.itoa_nonneg, Lib.decDigits_one (by omega)]
  decide
theorem numEnd_70 : numEnd ⟨#[55, 48]⟩ = .returned (.tuple #[.int .i64 70, .bool true]) := by
  refine (numEnd_some (s := ⟨#[55, 48]⟩) (n := 70) ?_).symm
  exact num_here (by omega) (by rw [Lib.decDigits_two (by omega) (by omega)]; decide)
theorem word_rule : wordB ⟨#[114, 117, 108, 101]⟩ = false := by decide +kernel
theorem word_rules : wordB ⟨#[114, 117, 108, 101, 115]⟩ = true := by decide +kernel

set_option maxHeartbeats 400000 in
theorem awake_any (w : World) (hT : Tabs w) :
    Calls Tryd.prog 7 #[] w fun e w' => e = .returned (.bool true) ∧ Below w.heap.size w w' := by
  have HT := Lib.hid hT
  clear hT
  have N := Lib.hid (fun s (hs : s.size ≤ 281474976710656) w (hT : Tabs w) => number_any s hs w hT)
  have W := Lib.hid (fun s (hs : s.size ≤ 9223372036854775806) w => word_any s hs w)
  have E1 := Lib.hid numEnd_07
  have E2 := Lib.hid numEnd_70
  have W1 := Lib.hid word_rule
  have W2 := Lib.hid word_rules
  go_enter Tryd.func7, Tryd.ntmps7
  go_wp2_with fail
  refine (N.out _ (by decide) _ HT.out).mono ?_; rintro e w1 ⟨rfl, hb1⟩; rw [E1.out]
  go_wp2_with fail
  refine (N.out _ (by decide) _ (HT.out.below hb1)).mono ?_; rintro e w2 ⟨rfl, hb2⟩; rw [E2.out]
  go_wp2_with fail
  refine (W.out _ (by decide) _).mono ?_; rintro e w3 ⟨rfl, hb3⟩; rw [W1.out]
  go_wp2_with fail
  refine (W.out _ (by decide) _).mono ?_; rintro e w4 ⟨rfl, hb4⟩; rw [W2.out]
  go_wp2_with fail
  go_ret
  have h12 := hb1.trans (hb2.mono hb1.size)
  have h123 := h12.trans (hb3.mono h12.size)
  exact ⟨rfl, h123.trans (hb4.mono h123.size)⟩

set_option maxHeartbeats 400000 in
theorem lawClass (b : Int) (w : World) (hT : Tabs w) :
    Calls Tryd.prog 3 #[.int .u8 b] w fun e w' => e = .returned (.bool true) ∧ Below w.heap.size w w' := by
  have A := Lib.hid (awake_any w hT)
  clear hT
  have hq : (cls b == cls b) = true := by simp
  have hq2 : (part b == part b) = true := by simp
  generalize hc : cls b = c at hq
  generalize hp : part b = p at hq2
  have HC := Lib.hid hc
  have HP := Lib.hid hp
  clear hc hp
  go_enter Tryd.func3, Tryd.ntmps3
  go_wp2_with (first | (go_at_call 7; refine A.out.mono ?_; rintro e w1 ⟨rfl, hb⟩) | (go_at_call 8; refine (class_any _ _).mono ?_; rintro e w1 ⟨rfl, rfl⟩; rw [HC.out]) | (go_at_call 9; refine (rclass_any _ _).mono ?_; rintro e w1 ⟨rfl, rfl⟩; rw [HC.out]) | (go_at_call 10; refine (part_any _ _).mono ?_; rintro e w1 ⟨rfl, rfl⟩; rw [HP.out]) | (go_at_call 11; refine (rpart_any _ _).mono ?_; rintro e w1 ⟨rfl, rfl⟩; rw [HP.out]))
  go_ret
  exact ⟨rfl, hb⟩

theorem rtexts_same (v u : Value) (zs : List ByteArray) (w : World) (hv : Strs w v zs) (hu : Strs w u zs) :
    Calls Tryd.prog 12 #[v, u] w fun e w' => e = .returned (.bool true) ∧ Below w.heap.size w w' := by
  refine (rtexts_any v u zs zs w hv hu).mono ?_
  rintro e w' ⟨rfl, hb⟩
  exact ⟨by simp, hb⟩

set_option maxHeartbeats 400000 in
theorem lawWords (s : ByteArray) (w : World) (hT : Tabs w) :
    Calls Tryd.prog 4 #[.string s] w fun e w' => e = .returned (.bool true) ∧ Below w.heap.size w w' := by
  have A := Lib.hid (awake_any w hT)
  clear hT
  by_cases hs : s.size ≤ 100
  · have W1 := Lib.hid (fun w => word_any s (by omega) w)
    have W2 := Lib.hid (fun w => rword_any s (by omega) w)
    have U1 := Lib.hid (fun w => upper_any s (by omega) w)
    have U2 := Lib.hid (fun w => rupper_any s (by omega) w)
    have K := Lib.hid (fun w => key_any s w)
    have K1 := Lib.hid (fun w => keys_any w)
    have K2 := Lib.hid (fun w => rkeys_any w)
    have I := Lib.hid (fun v w hv => rin_any v keyList s w hv)
    have T := Lib.hid (fun v u w hv hu => rtexts_same v u keyList w hv hu)
    generalize hw : wordB s = x at W1 W2
    generalize hu : upperB s = y at U1 U2
    generalize hc : Lib.containsS keyList s = z at K I
    clear hw hu hc
    have hx : (x == x) = true := by simp
    have hy : (y == y) = true := by simp
    have hz : (z == z) = true := by simp
    go_enter Tryd.func4, Tryd.ntmps4
    go_wp2_with fail
    refine A.out.mono ?_; rintro e w1 ⟨rfl, hb1⟩
    go_wp2_with fail
    refine (K1.out _).mono ?_; rintro e w2 ⟨v1, rfl, hv1, hb2⟩
    replace hb1 := hb1.trans (hb2.mono hb1.size)
    have V1 := Lib.hid hv1
    clear hv1 hb2
    go_wp2_with fail
    refine (K2.out _).mono ?_; rintro e w3 ⟨v2, rfl, hv2, hb3⟩
    replace hb1 := hb1.trans (hb3.mono hb1.size)
    have hv1 := V1.out.below hb3
    have T1 := Lib.hid (T.out _ _ _ hv1 hv2)
    clear hv1 hv2 hb3 V1
    go_wp2_with fail
    refine T1.out.mono ?_; rintro e w4 ⟨rfl, hb4⟩
    replace hb1 := hb1.trans (hb4.mono hb1.size)
    clear hb4 T1
    go_wp2_with fail
    refine (W1.out _).mono ?_; rintro e w5 ⟨rfl, hb5⟩
    replace hb1 := hb1.trans (hb5.mono hb1.size)
    clear hb5
    go_wp2_with fail
    refine (W2.out _).mono ?_; rintro e w6 ⟨rfl, hb6⟩
    replace hb1 := hb1.trans (hb6.mono hb1.size)
    clear hb6
    go_wp2_with fail
    refine (U1.out _).mono ?_; rintro e w7 ⟨rfl, hb7⟩
    replace hb1 := hb1.trans (hb7.mono hb1.size)
    clear hb7
    go_wp2_with fail
    refine (U2.out _).mono ?_; rintro e w8 ⟨rfl, hb8⟩
    replace hb1 := hb1.trans (hb8.mono hb1.size)
    clear hb8
    go_wp2_with fail
    refine (K.out _).mono ?_; rintro e w9 ⟨rfl, hb9⟩
    replace hb1 := hb1.trans (hb9.mono hb1.size)
    clear hb9
    go_wp2_with fail
    refine (K2.out _).mono ?_; rintro e w10 ⟨v3, rfl, hv3, hb10⟩
    replace hb1 := hb1.trans (hb10.mono hb1.size)
    have I1 := Lib.hid (I.out _ _ hv3)
    clear hb10 hv3
    go_wp2_with fail
    refine I1.out.mono ?_; rintro e w11 ⟨rfl, rfl⟩
    go_wp2_with fail
    go_ret
    exact ⟨rfl, hb1⟩
  · go_enter Tryd.func4, Tryd.ntmps4
    go_wp2_with (go_at_call 7; refine A.out.mono ?_; rintro e w1 ⟨rfl, hb⟩)
    go_ret
    exact ⟨rfl, hb⟩

set_option maxHeartbeats 400000 in
theorem lawNumbers (n : Int) (h0 : -9223372036854775808 ≤ n) (h1 : n ≤ 9223372036854775807) (s : ByteArray) (w : World) (hT : Tabs w) :
    Calls Tryd.prog 5 #[.int .i64 n, .string s] w fun e w' => e = .returned (.bool true) ∧ Below w.heap.size w w' := by
  have A := Lib.hid (awake_any w hT)
  have HT := Lib.hid hT
  clear hT
  by_cases hs : s.size ≤ 100
  · have N1 := Lib.hid (fun w hT => number_any s (by omega) w hT)
    have N2 := Lib.hid (fun w => rnumber_any s w)
    have D1 := Lib.hid (fun w hT => digits_any n h0 h1 w hT)
    have D2 := Lib.hid (fun w => rdigits_any n h0 h1 w)
    have hE : numEnd s = .returned (.tuple #[.int .i64 (numVal s.data.toList), .bool (isNum s.data.toList)]) := rfl
    generalize numVal s.data.toList = m at hE
    generalize isNum s.data.toList = b at hE
    generalize Lib.itoa n = l at D1 D2
    have E := Lib.hid hE
    clear hE
    have hm : (m == m) = true := by simp
    have hb : (b == b) = true := by simp
    have hl : (l == l) = true := by simp
    go_enter Tryd.func5, Tryd.ntmps5
    go_wp2_with fail
    refine A.out.mono ?_; rintro e w1 ⟨rfl, hb1⟩
    go_wp2_with fail
    refine (N1.out _ (HT.out.below hb1)).mono ?_; rintro e w2 ⟨rfl, hb2⟩; rw [E.out]
    replace hb1 := hb1.trans (hb2.mono hb1.size)
    clear hb2
    go_wp2_with fail
    refine (N2.out _).mono ?_; rintro e w3 ⟨rfl, hb3⟩; rw [E.out]
    replace hb1 := hb1.trans (hb3.mono hb1.size)
    clear hb3
    go_wp2_with fail
    refine (D1.out _ (HT.out.below hb1)).mono ?_; rintro e w4 ⟨rfl, hb4⟩
    replace hb1 := hb1.trans (hb4.mono hb1.size)
    clear hb4
    go_wp2_with fail
    refine (D2.out _).mono ?_; rintro e w5 ⟨rfl, hb5⟩
    replace hb1 := hb1.trans (hb5.mono hb1.size)
    clear hb5
    go_wp2_with fail
    go_ret
    exact ⟨rfl, hb1⟩
  · go_enter Tryd.func5, Tryd.ntmps5
    go_wp2_with (go_at_call 7; refine A.out.mono ?_; rintro e w1 ⟨rfl, hb⟩)
    go_ret
    exact ⟨rfl, hb⟩

/-- The text of a number is read back. -/
theorem numEnd_back_in {n : Int} (h0 : 0 ≤ n) (h1 : n ≤ 999) : numEnd ⟨(Lib.itoa n).toArray⟩ = .returned (.tuple #[.int .i64 n, .bool true]) := by
  obtain ⟨m, rfl⟩ := Int.eq_ofNat_of_zero_le h0
  rw [← numEnd_some (s := ⟨(Lib.itoa m).toArray⟩) (n := m)]
  rw [Lib.itoa_nonneg]
  exact numOf_digits (by omega)
theorem numEnd_back_out {n : Int} (h : ¬ (0 ≤ n ∧ n ≤ 999)) : numEnd ⟨(Lib.itoa n).toArray⟩ = .returned (.tuple #[.int .i64 0, .bool false]) :=
  (numEnd_none (s := ⟨(Lib.itoa n).toArray⟩) (numOf_itoa h)).symm
theorem num_same {s t : ByteArray} (h1 : isNum s.data.toList = true) (h2 : isNum t.data.toList = true) (h : numVal s.data.toList = numVal t.data.toList) : (s.toList == t.toList) = true := by
  unfold isNum at h1 h2
  obtain ⟨a, ha⟩ := Option.isSome_iff_exists.1 h1
  obtain ⟨b, hb⟩ := Option.isSome_iff_exists.1 h2
  rw [numVal_some ha, numVal_some hb] at h
  have e : a = b := by omega
  subst e
  rw [beq_iff_eq, ByteArray.toList_eq, ByteArray.toList_eq, ← (numOf_some ha).2, ← (numOf_some hb).2]

theorem itoa_size {n : Int} (h0 : -9223372036854775808 ≤ n) (h1 : n ≤ 9223372036854775807) : (⟨(Lib.itoa n).toArray⟩ : ByteArray).size ≤ 281474976710656 := by
  have := Lib.itoa_length_le n h0 h1
  show (Lib.itoa n).toArray.size ≤ _
  simp; omega

/-- The four ways in which two texts may stand to each other. -/
theorem back_ways {b1 b2 : Bool} {x y : Int} {e : Bool} (h : b1 = true → b2 = true → x = y → e = true) :
    (b1 = false) ∨ (b1 = true ∧ b2 = false) ∨ (b1 = true ∧ b2 = true ∧ (x != y) = true) ∨ (b1 = true ∧ b2 = true ∧ (x != y) = false ∧ e = true) := by
  cases b1
  · exact .inl rfl
  · cases b2
    · exact .inr (.inl ⟨rfl, rfl⟩)
    · by_cases hxy : x = y
      · exact .inr (.inr (.inr ⟨rfl, rfl, by simp [hxy], h rfl rfl hxy⟩))
      · exact .inr (.inr (.inl ⟨rfl, rfl, by rw [bne_iff_ne]; exact hxy⟩))
theorem back_first {n : Int} : ∃ (m0 : Int) (b0 : Bool), numEnd ⟨(Lib.itoa n).toArray⟩ = .returned (.tuple #[.int .i64 m0, .bool b0]) ∧
    ((0 ≤ n ∧ n ≤ 999 ∧ m0 = n ∧ b0 = true) ∨ (n < 0 ∧ m0 = 0 ∧ b0 = false) ∨ (999 < n ∧ m0 = 0 ∧ b0 = false)) := by
  by_cases h : 0 ≤ n ∧ n ≤ 999
  · exact ⟨_, _, numEnd_back_in h.1 h.2, .inl ⟨h.1, h.2, rfl, rfl⟩⟩
  · refine ⟨_, _, numEnd_back_out h, ?_⟩
    by_cases h2 : n < 0
    · exact .inr (.inl ⟨h2, rfl, rfl⟩)
    · exact .inr (.inr ⟨by omega, rfl, rfl⟩)

set_option maxHeartbeats 2000000 in
theorem lawBack (n : Int) (h0 : -9223372036854775808 ≤ n) (h1 : n ≤ 9223372036854775807) (s t : ByteArray) (w : World) (hT : Tabs w) :
    Calls Tryd.prog 6 #[.int .i64 n, .string s, .string t] w fun e w' => e = .returned (.bool true) ∧ Below w.heap.size w w' := by
  have A := Lib.hid (awake_any w hT)
  have HT := Lib.hid hT
  clear hT
  by_cases hs : s.size ≤ 100
  · by_cases ht : t.size ≤ 100
    · have D1 := Lib.hid (fun w hT => digits_any n h0 h1 w hT)
      have N0 := Lib.hid (fun w hT => number_any ⟨(Lib.itoa n).toArray⟩ (itoa_size h0 h1) w hT)
      have N1 := Lib.hid (fun w hT => number_any s (by omega) w hT)
      have N2 := Lib.hid (fun w hT => number_any t (by omega) w hT)
      have hES : numEnd s = .returned (.tuple #[.int .i64 (numVal s.data.toList), .bool (isNum s.data.toList)]) := rfl
      have hET : numEnd t = .returned (.tuple #[.int .i64 (numVal t.data.toList), .bool (isNum t.data.toList)]) := rfl
      have same : isNum s.data.toList = true → isNum t.data.toList = true → numVal s.data.toList = numVal t.data.toList → (s.toList == t.toList) = true := num_same
      generalize numVal s.data.toList = x at hES same
      generalize numVal t.data.toList = y at hET same
      generalize isNum s.data.toList = b1 at hES same
      generalize isNum t.data.toList = b2 at hET same
      have hq : (n != n) = false := by simp
      obtain ⟨m0, b0, hE0, hf⟩ := back_first (n := n)
      rcases hf with ⟨hn1, hn2, rfl, rfl⟩ | ⟨hn1, rfl, rfl⟩ | ⟨hn1, rfl, rfl⟩
      all_goals
        rcases back_ways same with rfl | ⟨rfl, rfl⟩ | ⟨rfl, rfl, hxy⟩ | ⟨rfl, rfl, hxy, hst⟩
        all_goals
          have ES := Lib.hid hES
          have ET := Lib.hid hET
          have E0 := Lib.hid hE0
          clear hES hET hE0 same
          go_enter Tryd.func6, Tryd.ntmps6
          go_wp2_with fail
          refine A.out.mono ?_; rintro e w1 ⟨rfl, hb1⟩
          go_wp2_with fail
          refine (D1.out _ (HT.out.below hb1)).mono ?_; rintro e w4 ⟨rfl, hb4⟩
          replace hb1 := hb1.trans (hb4.mono hb1.size)
          clear hb4
          go_wp2_with fail
          refine (N0.out _ (HT.out.below hb1)).mono ?_; rintro e w2 ⟨rfl, hb2⟩; rw [E0.out]
          replace hb1 := hb1.trans (hb2.mono hb1.size)
          clear hb2
          go_wp2_with fail
          refine (N1.out _ (HT.out.below hb1)).mono ?_; rintro e w3 ⟨rfl, hb3⟩; rw [ES.out]
          replace hb1 := hb1.trans (hb3.mono hb1.size)
          clear hb3
          go_wp2_with fail
          refine (N2.out _ (HT.out.below hb1)).mono ?_; rintro e w5 ⟨rfl, hb5⟩; rw [ET.out]
          replace hb1 := hb1.trans (hb5.mono hb1.size)
          clear hb5
          go_wp2_with fail
          go_ret
          exact ⟨rfl, hb1⟩
    · go_enter Tryd.func6, Tryd.ntmps6
      go_wp2_with (go_at_call 7; refine A.out.mono ?_; rintro e w1 ⟨rfl, hb⟩)
      go_ret
      exact ⟨rfl, hb⟩
  · go_enter Tryd.func6, Tryd.ntmps6
    go_wp2_with (go_at_call 7; refine A.out.mono ?_; rintro e w1 ⟨rfl, hb⟩)
    go_ret
    exact ⟨rfl, hb⟩
end Go.Proofs.YtjiifigpkcfgbaaDoor
