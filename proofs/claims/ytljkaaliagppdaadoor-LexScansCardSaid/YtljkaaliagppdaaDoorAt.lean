/-
  The token that begins at a place of a text, as At of the reference tells it.
-/
import Derived.Test.YtljkaaliagppdaaDoorToken
namespace Go.Proofs.YtljkaaliagppdaaDoor
open Go.RowKit

/-- What At says of place i, in the terms of the token that begins there. -/
def AtSays (s : ByteArray) (i : Nat) (k : Int) (x : ByteArray) (n a : Int) (b : Bool) : Prop := match tokL (s.data.toList.drop i) with
  | none => b = false
  | some c => b = true ∧ k = c.kind ∧ x = s.extract i (i + c.len) ∧ n = c.n ∧ a = i
def AtPost (s : ByteArray) (i : Nat) (w : World) (e : Ending) (w' : World) : Prop :=
  ∃ k x n a b, e = .returned (.tuple #[.agg #[.int .i64 k, .string x, .int .i64 n, .int .i64 a], .bool b]) ∧ AtSays s i k x n a b ∧ Below w.heap.size w w'

theorem head_at {s : ByteArray} {i : Nat} (h : i < s.size) : head (s.data.toList.drop i) = (s[i].toNat : Int) := by
  unfold head; rw [drop_cons s h]; rfl
theorem run_at (s : ByteArray) (i : Nat) : run s i = ((s.data.toList.drop i).takeWhile pc).length := rfl
theorem run_next (s : ByteArray) (i : Nat) : run s (i + 1) = ((s.data.toList.drop i).tail.takeWhile pc).length := by unfold run; rw [List.tail_drop]
theorem text_at (s : ByteArray) (i : Nat) : (s.extract i (i + run s i)).data.toList = (s.data.toList.drop i).takeWhile pc := by
  rw [ext_list, List.drop_take, show i + run s i - i = run s i from by omega]; exact tw_take pc _
theorem text_next (s : ByteArray) (i : Nat) : (s.extract (i + 1) (i + 1 + run s (i + 1))).data.toList = (s.data.toList.drop i).tail.takeWhile pc := by
  rw [text_at, List.tail_drop]

set_option maxRecDepth 100000 in
set_option maxHeartbeats 4000000 in
theorem at_36 (s : ByteArray) (i : Nat) (h0 : i < s.size) (hs : s.size ≤ 1000000) (hby : (s[i].toNat : Int) = 36) (w : World) :
    Calls Tryd.prog 22 #[.string s, .int .i64 i] w (AtPost s i w) := by
  have hi : (i : Int) < (s.size : Int) := by omega
  have hh := head_at h0
  have hle := run_le s (i := i + 1) (by omega)
  obtain ⟨m, hm⟩ : ∃ m, m = run s (i + 1) := ⟨_, rfl⟩
  have hms : i + 1 + m ≤ s.size := by omega
  have L1 := Lib.hid (fun w => long_any s ((i : Int) + 1) (i + 1) m (by omega) hm (by omega) (by omega) w)
  have hx1 := text_next s i
  have hr1 := run_next s i
  rw [← hm] at hx1 hr1
  obtain ⟨c, hc⟩ : ∃ c, c = cls (s[i].toNat : Int) := ⟨_, rfl⟩
  have CL := Lib.hid (fun w => (rclass_any (s[i].toNat : Int) w).mono fun e w' h => (show e = .returned (.int .i64 c) ∧ w = w' by rw [hc]; exact h))
  have N := Lib.hid (fun x w => rnumber_any x w)
  clear hle hm hc
  have hq : ((s[i].toNat : Int) == 36) = true := by rw [beq_iff_eq]; exact hby
  have hq2 : ((s[i].toNat : Int) == 37) = false := by rw [beq_eq_false_iff_ne]; omega
  have ht := tokL_36 (l := s.data.toList.drop i) (by rw [hh]; exact hby)
  rw [← hr1, ← hx1] at ht
  obtain ⟨x, hx⟩ : ∃ x, x = s.extract (i + 1) (i + 1 + m) := ⟨_, rfl⟩
  rw [← hx] at ht
  have HX := Lib.hid hx
  have hnv := numVal_bd x.data.toList
  have hE : numEnd x = .returned (.tuple #[.int .i64 (numVal x.data.toList), .bool (isNum x.data.toList)]) := rfl
  have HTk := Lib.hid ht
  clear hx hx1 hr1 hh ht hby
  cases hnum : isNum x.data.toList with
  | false =>
    have HA := Lib.hid (show ∀ k y n a, AtSays s i k y n a false from fun k y n a => by
      unfold AtSays; rw [HTk.out]; unfold numCut; rw [if_neg (by rw [hnum]; simp)])
    rw [hnum] at hE
    have E := Lib.hid hE
    clear hE hnum
    go_enter Tryd.func22, Tryd.ntmps22
    go_wp2_with fail
    refine (CL.out _).mono ?_; rintro e w1 ⟨rfl, rfl⟩
    go_wp2_with fail
    refine (L1.out _).mono ?_; rintro e w1 ⟨rfl, rfl⟩
    go_wp2_with fail
    rw [← HX.out]
    refine (N.out _ _).mono ?_; rintro e w1 ⟨rfl, hb⟩
    rw [E.out]
    obtain ⟨c0, c1, c2, c3, f0, f1, f2, f3⟩ := box_after hb
    replace hb := below_box hb
    go_wp2_with fail
    exact bodyPost_ret (v := .tuple #[.agg #[.int .i64 0, .string ⟨#[]⟩, .int .i64 0, .int .i64 0], .bool false]) (by simp [results, Tryd.results22, go_sem, c0, c1, c2, c3]) rfl ⟨_, _, _, _, _, rfl, HA.out _ _ _ _, (((hb.setCell (Nat.le_refl _) _).setCell (Nat.le_refl _) _).setCell (Nat.le_refl _) _).setCell (Nat.le_refl _) _⟩
  | true =>
    rw [hnum] at hE
    have E := Lib.hid hE
    clear hE
    by_cases hlt : numVal x.data.toList < 1
    · have hz : (numVal x.data.toList == 0) = true := by rw [beq_iff_eq]; omega
      have HA := Lib.hid (show ∀ k y n a, AtSays s i k y n a false from fun k y n a => by
        unfold AtSays; rw [HTk.out]; unfold numCut; rw [if_neg]; rintro ⟨_, h⟩; exact h hlt)
      clear hnum
      obtain ⟨v, hv⟩ : ∃ v, v = numVal x.data.toList := ⟨_, rfl⟩
      rw [← hv] at hlt E hnv hz
      have HV := Lib.hid hv
      clear hv
      go_enter Tryd.func22, Tryd.ntmps22
      go_wp2_with fail
      refine (CL.out _).mono ?_; rintro e w1 ⟨rfl, rfl⟩
      go_wp2_with fail
      refine (L1.out _).mono ?_; rintro e w1 ⟨rfl, rfl⟩
      go_wp2_with fail
      rw [← HX.out]
      refine (N.out _ _).mono ?_; rintro e w1 ⟨rfl, hb⟩
      rw [E.out]
      obtain ⟨c0, c1, c2, c3, f0, f1, f2, f3⟩ := box_after hb
      replace hb := below_box hb
      go_wp2_with fail
      exact bodyPost_ret (v := .tuple #[.agg #[.int .i64 0, .string ⟨#[]⟩, .int .i64 0, .int .i64 0], .bool false]) (by simp [results, Tryd.results22, go_sem, c0, c1, c2, c3]) rfl ⟨_, _, _, _, _, rfl, HA.out _ _ _ _, (((hb.setCell (Nat.le_refl _) _).setCell (Nat.le_refl _) _).setCell (Nat.le_refl _) _).setCell (Nat.le_refl _) _⟩
    · have hz : (numVal x.data.toList == 0) = false := by rw [beq_eq_false_iff_ne]; omega
      have HA := Lib.hid (show AtSays s i 4 (s.extract i (i + 1 + m)) (numVal x.data.toList) i true from by
        unfold AtSays; rw [HTk.out]; unfold numCut; rw [if_pos ⟨hnum, hlt⟩]; exact ⟨rfl, rfl, by rw [Nat.add_assoc], rfl, rfl⟩)
      clear hnum
      obtain ⟨v, hv⟩ : ∃ v, v = numVal x.data.toList := ⟨_, rfl⟩
      rw [← hv] at hlt E hnv hz HA
      have HV := Lib.hid hv
      clear hv
      go_enter Tryd.func22, Tryd.ntmps22
      go_wp2_with fail
      refine (CL.out _).mono ?_; rintro e w1 ⟨rfl, rfl⟩
      go_wp2_with fail
      refine (L1.out _).mono ?_; rintro e w1 ⟨rfl, rfl⟩
      go_wp2_with fail
      rw [← HX.out]
      refine (N.out _ _).mono ?_; rintro e w1 ⟨rfl, hb⟩
      rw [E.out]
      obtain ⟨c0, c1, c2, c3, f0, f1, f2, f3⟩ := box_after hb
      replace hb := below_box hb
      go_wp2_with fail
      exact bodyPost_ret (v := .tuple #[.agg #[.int .i64 4, .string (s.extract i (i + 1 + m)), .int .i64 v, .int .i64 i], .bool true]) (by simp [results, Tryd.results22, go_sem, c0, c1, c2, c3]) rfl ⟨_, _, _, _, _, rfl, HA.out, (((hb.setCell (Nat.le_refl _) _).setCell (Nat.le_refl _) _).setCell (Nat.le_refl _) _).setCell (Nat.le_refl _) _⟩

set_option maxRecDepth 100000 in
set_option maxHeartbeats 4000000 in
theorem at_37 (s : ByteArray) (i : Nat) (h0 : i < s.size) (hs : s.size ≤ 1000000) (hby : (s[i].toNat : Int) = 37) (w : World) :
    Calls Tryd.prog 22 #[.string s, .int .i64 i] w (AtPost s i w) := by
  have hi : (i : Int) < (s.size : Int) := by omega
  have hh := head_at h0
  have hle := run_le s (i := i + 1) (by omega)
  obtain ⟨m, hm⟩ : ∃ m, m = run s (i + 1) := ⟨_, rfl⟩
  have hms : i + 1 + m ≤ s.size := by omega
  have L1 := Lib.hid (fun w => long_any s ((i : Int) + 1) (i + 1) m (by omega) hm (by omega) (by omega) w)
  have hx1 := text_next s i
  have hr1 := run_next s i
  rw [← hm] at hx1 hr1
  obtain ⟨c, hc⟩ : ∃ c, c = cls (s[i].toNat : Int) := ⟨_, rfl⟩
  have CL := Lib.hid (fun w => (rclass_any (s[i].toNat : Int) w).mono fun e w' h => (show e = .returned (.int .i64 c) ∧ w = w' by rw [hc]; exact h))
  have N := Lib.hid (fun x w => rnumber_any x w)
  clear hle hm hc
  have hq : ((s[i].toNat : Int) == 36) = false := by rw [beq_eq_false_iff_ne]; omega
  have hq2 : ((s[i].toNat : Int) == 37) = true := by rw [beq_iff_eq]; exact hby
  have ht := tokL_37 (l := s.data.toList.drop i) (by rw [hh]; exact hby)
  rw [← hr1, ← hx1] at ht
  obtain ⟨x, hx⟩ : ∃ x, x = s.extract (i + 1) (i + 1 + m) := ⟨_, rfl⟩
  rw [← hx] at ht
  have HX := Lib.hid hx
  have hnv := numVal_bd x.data.toList
  have hE : numEnd x = .returned (.tuple #[.int .i64 (numVal x.data.toList), .bool (isNum x.data.toList)]) := rfl
  have HTk := Lib.hid ht
  clear hx hx1 hr1 hh ht hby
  cases hnum : isNum x.data.toList with
  | false =>
    have HA := Lib.hid (show ∀ k y n a, AtSays s i k y n a false from fun k y n a => by
      unfold AtSays; rw [HTk.out]; unfold numCut; rw [if_neg (by rw [hnum]; simp)])
    rw [hnum] at hE
    have E := Lib.hid hE
    clear hE hnum
    go_enter Tryd.func22, Tryd.ntmps22
    go_wp2_with fail
    refine (CL.out _).mono ?_; rintro e w1 ⟨rfl, rfl⟩
    go_wp2_with fail
    refine (L1.out _).mono ?_; rintro e w1 ⟨rfl, rfl⟩
    go_wp2_with fail
    rw [← HX.out]
    refine (N.out _ _).mono ?_; rintro e w1 ⟨rfl, hb⟩
    rw [E.out]
    obtain ⟨c0, c1, c2, c3, f0, f1, f2, f3⟩ := box_after hb
    replace hb := below_box hb
    go_wp2_with fail
    exact bodyPost_ret (v := .tuple #[.agg #[.int .i64 0, .string ⟨#[]⟩, .int .i64 0, .int .i64 0], .bool false]) (by simp [results, Tryd.results22, go_sem, c0, c1, c2, c3]) rfl ⟨_, _, _, _, _, rfl, HA.out _ _ _ _, (((hb.setCell (Nat.le_refl _) _).setCell (Nat.le_refl _) _).setCell (Nat.le_refl _) _).setCell (Nat.le_refl _) _⟩
  | true =>
    rw [hnum] at hE
    have E := Lib.hid hE
    clear hE
    by_cases hlt : numVal x.data.toList < 0
    · have hz : (numVal x.data.toList == 0) = true := by rw [beq_iff_eq]; omega
      have HA := Lib.hid (show ∀ k y n a, AtSays s i k y n a false from fun k y n a => by
        unfold AtSays; rw [HTk.out]; unfold numCut; rw [if_neg]; rintro ⟨_, h⟩; exact h hlt)
      clear hnum
      obtain ⟨v, hv⟩ : ∃ v, v = numVal x.data.toList := ⟨_, rfl⟩
      rw [← hv] at hlt E hnv hz
      have HV := Lib.hid hv
      clear hv
      exfalso; omega
    · have HA := Lib.hid (show AtSays s i 5 (s.extract i (i + 1 + m)) (numVal x.data.toList) i true from by
        unfold AtSays; rw [HTk.out]; unfold numCut; rw [if_pos ⟨hnum, hlt⟩]; exact ⟨rfl, rfl, by rw [Nat.add_assoc], rfl, rfl⟩)
      clear hnum
      obtain ⟨v, hv⟩ : ∃ v, v = numVal x.data.toList := ⟨_, rfl⟩
      rw [← hv] at hlt E hnv HA
      have HV := Lib.hid hv
      clear hv
      go_enter Tryd.func22, Tryd.ntmps22
      go_wp2_with fail
      refine (CL.out _).mono ?_; rintro e w1 ⟨rfl, rfl⟩
      go_wp2_with fail
      refine (L1.out _).mono ?_; rintro e w1 ⟨rfl, rfl⟩
      go_wp2_with fail
      rw [← HX.out]
      refine (N.out _ _).mono ?_; rintro e w1 ⟨rfl, hb⟩
      rw [E.out]
      obtain ⟨c0, c1, c2, c3, f0, f1, f2, f3⟩ := box_after hb
      replace hb := below_box hb
      go_wp2_with fail
      exact bodyPost_ret (v := .tuple #[.agg #[.int .i64 5, .string (s.extract i (i + 1 + m)), .int .i64 v, .int .i64 i], .bool true]) (by simp [results, Tryd.results22, go_sem, c0, c1, c2, c3]) rfl ⟨_, _, _, _, _, rfl, HA.out, (((hb.setCell (Nat.le_refl _) _).setCell (Nat.le_refl _) _).setCell (Nat.le_refl _) _).setCell (Nat.le_refl _) _⟩

set_option maxRecDepth 100000 in
set_option maxHeartbeats 4000000 in
theorem at_sign (s : ByteArray) (i : Nat) (h0 : i < s.size) (hs : s.size ≤ 1000000) (h36 : ¬ (s[i].toNat : Int) = 36) (h37 : ¬ (s[i].toNat : Int) = 37) (hcl : cls (s[i].toNat : Int) = 4) (w : World) :
    Calls Tryd.prog 22 #[.string s, .int .i64 i] w (AtPost s i w) := by
  have hi : (i : Int) < (s.size : Int) := by omega
  have hh := head_at h0
  have hq : ((s[i].toNat : Int) == 36) = false := by rw [beq_eq_false_iff_ne]; exact h36
  have hq2 : ((s[i].toNat : Int) == 37) = false := by rw [beq_eq_false_iff_ne]; exact h37
  obtain ⟨c, hc⟩ : ∃ c, c = cls (s[i].toNat : Int) := ⟨_, rfl⟩
  have CL := Lib.hid (fun w => (rclass_any (s[i].toNat : Int) w).mono fun e w' h => (show e = .returned (.int .i64 c) ∧ w = w' by rw [hc]; exact h))
  rw [← hc] at hcl
  have ht := tokL_sign (l := s.data.toList.drop i) (by rw [hh]; exact h36) (by rw [hh]; exact h37) (by rw [hh, ← hc]; exact hcl)
  have HA := Lib.hid (show AtSays s i 6 (s.extract i (i + 1)) 0 i true from by unfold AtSays; rw [ht]; exact ⟨rfl, rfl, rfl, rfl, rfl⟩)
  subst hcl
  clear hc hh ht h36 h37
  go_enter Tryd.func22, Tryd.ntmps22
  go_wp2_with fail
  refine (CL.out _).mono ?_; rintro e w1 ⟨rfl, rfl⟩
  go_wp2_with fail
  exact bodyPost_ret (v := .tuple #[.agg #[.int .i64 6, .string (s.extract i (i + 1)), .int .i64 0, .int .i64 i], .bool true]) (by simp [results, Tryd.results22, go_sem]) rfl ⟨_, _, _, _, _, rfl, HA.out, (Below.refl _ _).alloc (Nat.le_refl _) _⟩

set_option maxRecDepth 100000 in
set_option maxHeartbeats 4000000 in
theorem at_none (s : ByteArray) (i : Nat) (h0 : i < s.size) (_hs : s.size ≤ 1000000) (h36 : ¬ (s[i].toNat : Int) = 36) (h37 : ¬ (s[i].toNat : Int) = 37) (hcl : cls (s[i].toNat : Int) = 0 ∨ cls (s[i].toNat : Int) = 5) (w : World) :
    Calls Tryd.prog 22 #[.string s, .int .i64 i] w (AtPost s i w) := by
  have hi : (i : Int) < (s.size : Int) := by omega
  have hh := head_at h0
  have hq : ((s[i].toNat : Int) == 36) = false := by rw [beq_eq_false_iff_ne]; exact h36
  have hq2 : ((s[i].toNat : Int) == 37) = false := by rw [beq_eq_false_iff_ne]; exact h37
  obtain ⟨c, hc⟩ : ∃ c, c = cls (s[i].toNat : Int) := ⟨_, rfl⟩
  have CL := Lib.hid (fun w => (rclass_any (s[i].toNat : Int) w).mono fun e w' h => (show e = .returned (.int .i64 c) ∧ w = w' by rw [hc]; exact h))
  have ht := tokL_none (l := s.data.toList.drop i) (by rw [hh]; exact hcl)
  have HA := Lib.hid (show ∀ k y n a, AtSays s i k y n a false from fun k y n a => by unfold AtSays; rw [ht])
  rw [← hc] at hcl
  clear hc hh ht h36 h37
  rcases hcl with rfl | rfl
  all_goals
    go_enter Tryd.func22, Tryd.ntmps22
    go_wp2_with fail
    refine (CL.out _).mono ?_; rintro e w1 ⟨rfl, rfl⟩
    go_wp2_with fail
    exact bodyPost_ret (v := .tuple #[.agg #[.int .i64 0, .string ⟨#[]⟩, .int .i64 0, .int .i64 0], .bool false]) (by simp [results, Tryd.results22, go_sem]) rfl ⟨_, _, _, _, _, rfl, HA.out _ _ _ _, (Below.refl _ _).alloc (Nat.le_refl _) _⟩

set_option maxRecDepth 100000 in
set_option maxHeartbeats 4000000 in
theorem at_digit (s : ByteArray) (i : Nat) (h0 : i < s.size) (hs : s.size ≤ 1000000) (h36 : ¬ (s[i].toNat : Int) = 36) (h37 : ¬ (s[i].toNat : Int) = 37) (hcl : cls (s[i].toNat : Int) = 3) (w : World) :
    Calls Tryd.prog 22 #[.string s, .int .i64 i] w (AtPost s i w) := by
  have hi : (i : Int) < (s.size : Int) := by omega
  have hh := head_at h0
  have hle0 := run_le s (i := i) (by omega)
  obtain ⟨m, hm⟩ : ∃ m, m = run s i := ⟨_, rfl⟩
  have hms : i + m ≤ s.size := by omega
  have L0 := Lib.hid (fun w => long_any s (i : Int) i m rfl hm (by omega) (by omega) w)
  have hx0 := text_at s i
  have hr0 := run_at s i
  rw [← hm] at hx0 hr0
  have hq : ((s[i].toNat : Int) == 36) = false := by rw [beq_eq_false_iff_ne]; exact h36
  have hq2 : ((s[i].toNat : Int) == 37) = false := by rw [beq_eq_false_iff_ne]; exact h37
  obtain ⟨c, hc⟩ : ∃ c, c = cls (s[i].toNat : Int) := ⟨_, rfl⟩
  have CL := Lib.hid (fun w => (rclass_any (s[i].toNat : Int) w).mono fun e w' h => (show e = .returned (.int .i64 c) ∧ w = w' by rw [hc]; exact h))
  have N := Lib.hid (fun x w => rnumber_any x w)
  have ht := tokL_digit (l := s.data.toList.drop i) (by rw [hh]; exact hcl)
  rw [← hr0, ← hx0] at ht
  rw [← hc] at hcl
  obtain ⟨x, hx⟩ : ∃ x, x = s.extract i (i + m) := ⟨_, rfl⟩
  rw [← hx] at ht
  have hnv := numVal_bd x.data.toList
  have hE : numEnd x = .returned (.tuple #[.int .i64 (numVal x.data.toList), .bool (isNum x.data.toList)]) := rfl
  have HA : AtSays s i 3 x (numVal x.data.toList) i (isNum x.data.toList) := by
    unfold AtSays; rw [ht]; unfold numCut
    cases hn : isNum x.data.toList with
    | true => rw [if_pos ⟨rfl, by omega⟩]; exact ⟨rfl, rfl, hx, rfl, rfl⟩
    | false => rw [if_neg (by rintro ⟨h, _⟩; cases h)]
  have E := Lib.hid hE
  have HX := Lib.hid hx
  obtain ⟨v, hv⟩ : ∃ v, v = numVal x.data.toList := ⟨_, rfl⟩
  obtain ⟨b, hbb⟩ : ∃ b, b = isNum x.data.toList := ⟨_, rfl⟩
  rw [← hv] at E hnv HA
  rw [← hbb] at E HA
  have HA := Lib.hid HA
  subst hcl
  clear hle0 hc hh ht h36 h37 hx hE hv hbb hx0 hr0 hm
  go_enter Tryd.func22, Tryd.ntmps22
  go_wp2_with fail
  refine (CL.out _).mono ?_; rintro e w1 ⟨rfl, rfl⟩
  go_wp2_with fail
  refine (L0.out _).mono ?_; rintro e w1 ⟨rfl, rfl⟩
  go_wp2_with fail
  rw [← HX.out]
  refine (N.out _ _).mono ?_; rintro e w1 ⟨rfl, hb⟩
  rw [E.out]
  obtain ⟨c0, c1, c2, c3, f0, f1, f2, f3⟩ := box_after hb
  replace hb := below_box hb
  go_wp2_with fail
  exact bodyPost_ret (v := .tuple #[.agg #[.int .i64 3, .string x, .int .i64 v, .int .i64 i], .bool b]) (by simp [results, Tryd.results22, go_sem, c0, c1, c2, c3]) rfl ⟨_, _, _, _, _, rfl, HA.out, (((hb.setCell (Nat.le_refl _) _).setCell (Nat.le_refl _) _).setCell (Nat.le_refl _) _).setCell (Nat.le_refl _) _⟩

set_option maxRecDepth 100000 in
set_option maxHeartbeats 8000000 in
theorem at_word (s : ByteArray) (i : Nat) (h0 : i < s.size) (hs : s.size ≤ 1000000) (h36 : ¬ (s[i].toNat : Int) = 36) (h37 : ¬ (s[i].toNat : Int) = 37) (hcl : cls (s[i].toNat : Int) = 1 ∨ cls (s[i].toNat : Int) = 2) (w : World) :
    Calls Tryd.prog 22 #[.string s, .int .i64 i] w (AtPost s i w) := by
  have hi : (i : Int) < (s.size : Int) := by omega
  have hh := head_at h0
  have hle0 := run_le s (i := i) (by omega)
  obtain ⟨m, hm⟩ : ∃ m, m = run s i := ⟨_, rfl⟩
  have hms : i + m ≤ s.size := by omega
  have L0 := Lib.hid (fun w => long_any s (i : Int) i m rfl hm (by omega) (by omega) w)
  have hx0 := text_at s i
  have hr0 := run_at s i
  rw [← hm] at hx0 hr0
  have hq : ((s[i].toNat : Int) == 36) = false := by rw [beq_eq_false_iff_ne]; exact h36
  have hq2 : ((s[i].toNat : Int) == 37) = false := by rw [beq_eq_false_iff_ne]; exact h37
  obtain ⟨c, hc⟩ : ∃ c, c = cls (s[i].toNat : Int) := ⟨_, rfl⟩
  have CL := Lib.hid (fun w => (rclass_any (s[i].toNat : Int) w).mono fun e w' h => (show e = .returned (.int .i64 c) ∧ w = w' by rw [hc]; exact h))
  have N := Lib.hid (fun x w => rnumber_any x w)
  have ht := tokL_word (l := s.data.toList.drop i) (by rw [hh]; exact hcl)
  obtain ⟨x, hx⟩ : ∃ x, x = s.extract i (i + m) := ⟨_, rfl⟩
  rw [← hr0, ← hx0, bs_list, ← hx] at ht
  rw [← hc] at hcl
  have hxs : x.size ≤ 1000000 := by rw [hx]; simp; omega
  have HTk := Lib.hid ht
  have HX := Lib.hid hx
  have U := Lib.hid (fun w => rupper_any x (by omega) w)
  have W := Lib.hid (fun w => rword_any x (by omega) w)
  have K := Lib.hid (fun w => rkeys_any w)
  have I := Lib.hid (fun v w hv => rin_any v keyList x w hv)
  have hE : numEnd x = .returned (.tuple #[.int .i64 (numVal x.data.toList), .bool (isNum x.data.toList)]) := rfl
  have E := Lib.hid hE
  generalize numVal x.data.toList = v at E
  generalize isNum x.data.toList = b at E
  clear hle0 hc hh ht h36 h37 hx hE hx0 hr0 hm
  cases hu : upperB x with
  | true =>
    have HA := Lib.hid (show AtSays s i 2 x 0 i true from by unfold AtSays; rw [HTk.out]; unfold wordCut; rw [if_pos hu]; exact ⟨rfl, rfl, HX.out, rfl, rfl⟩)
    rw [hu] at U
    clear hu
    rcases hcl with rfl | rfl
    all_goals
      go_enter Tryd.func22, Tryd.ntmps22
      go_wp2_with fail
      refine (CL.out _).mono ?_; rintro e w1 ⟨rfl, rfl⟩
      go_wp2_with fail
      refine (L0.out _).mono ?_; rintro e w1 ⟨rfl, rfl⟩
      go_wp2_with fail
      rw [← HX.out]
      refine (N.out _ _).mono ?_; rintro e w1 ⟨rfl, hb⟩
      rw [E.out]
      obtain ⟨hx, hb, hlt⟩ := below_box' (box_new _ _ _ _ _ _) hb
      go_wp2_with fail
      refine (U.out _).mono ?_; rintro e w2 ⟨rfl, hb2⟩
      replace hx := hx.below hb2 hlt
      replace hlt := Nat.lt_of_lt_of_le hlt hb2.size
      replace hb := hb.trans (hb2.mono hb.size)
      clear hb2
      obtain ⟨c0, c1, c2, c3, f0, f1, f2, f3⟩ := hx
      go_wp2_with fail
      exact bodyPost_ret (v := .tuple #[.agg #[.int .i64 2, .string x, .int .i64 0, .int .i64 i], .bool true]) (by simp [results, Tryd.results22, go_sem, c0, c1, c2, c3]) rfl ⟨_, _, _, _, _, rfl, HA.out, (((hb.setCell (Nat.le_refl _) _).setCell (Nat.le_refl _) _).setCell (Nat.le_refl _) _).setCell (Nat.le_refl _) _⟩
  | false =>
    cases hw : wordB x with
    | true =>
      have HA := Lib.hid (show AtSays s i 1 x 0 i true from by unfold AtSays; rw [HTk.out]; unfold wordCut; rw [if_neg (by rw [hu]; simp), if_pos (.inl hw)]; exact ⟨rfl, rfl, HX.out, rfl, rfl⟩)
      rw [hu] at U
      rw [hw] at W
      clear hu hw
      rcases hcl with rfl | rfl
      all_goals
        go_enter Tryd.func22, Tryd.ntmps22
        go_wp2_with fail
        refine (CL.out _).mono ?_; rintro e w1 ⟨rfl, rfl⟩
        go_wp2_with fail
        refine (L0.out _).mono ?_; rintro e w1 ⟨rfl, rfl⟩
        go_wp2_with fail
        rw [← HX.out]
        refine (N.out _ _).mono ?_; rintro e w1 ⟨rfl, hb⟩
        rw [E.out]
        obtain ⟨hx, hb, hlt⟩ := below_box' (box_new _ _ _ _ _ _) hb
        go_wp2_with fail
        refine (U.out _).mono ?_; rintro e w2 ⟨rfl, hb2⟩
        replace hx := hx.below hb2 hlt
        replace hlt := Nat.lt_of_lt_of_le hlt hb2.size
        replace hb := hb.trans (hb2.mono hb.size)
        clear hb2
        go_wp2_with fail
        refine (W.out _).mono ?_; rintro e w3 ⟨rfl, hb2⟩
        replace hx := hx.below hb2 hlt
        replace hlt := Nat.lt_of_lt_of_le hlt hb2.size
        replace hb := hb.trans (hb2.mono hb.size)
        clear hb2
        obtain ⟨c0, c1, c2, c3, f0, f1, f2, f3⟩ := hx
        go_wp2_with fail
        exact bodyPost_ret (v := .tuple #[.agg #[.int .i64 1, .string x, .int .i64 0, .int .i64 i], .bool true]) (by simp [results, Tryd.results22, go_sem, c0, c1, c2, c3]) rfl ⟨_, _, _, _, _, rfl, HA.out, (((hb.setCell (Nat.le_refl _) _).setCell (Nat.le_refl _) _).setCell (Nat.le_refl _) _).setCell (Nat.le_refl _) _⟩
    | false =>
      have HA : AtSays s i 1 x 0 i (Lib.containsS keyList x) := by
        unfold AtSays; rw [HTk.out]; unfold wordCut; rw [if_neg (by rw [hu]; simp)]
        cases hk : Lib.containsS keyList x with
        | true => rw [if_pos (.inr rfl)]; exact ⟨rfl, rfl, HX.out, rfl, rfl⟩
        | false => rw [if_neg (by rw [hw]; simp)]
      rw [hu] at U
      rw [hw] at W
      generalize Lib.containsS keyList x = z at HA I
      have HA := Lib.hid HA
      clear hu hw
      rcases hcl with rfl | rfl
      all_goals
        go_enter Tryd.func22, Tryd.ntmps22
        go_wp2_with fail
        refine (CL.out _).mono ?_; rintro e w1 ⟨rfl, rfl⟩
        go_wp2_with fail
        refine (L0.out _).mono ?_; rintro e w1 ⟨rfl, rfl⟩
        go_wp2_with fail
        rw [← HX.out]
        refine (N.out _ _).mono ?_; rintro e w1 ⟨rfl, hb⟩
        rw [E.out]
        obtain ⟨hx, hb, hlt⟩ := below_box' (box_new _ _ _ _ _ _) hb
        go_wp2_with fail
        refine (U.out _).mono ?_; rintro e w2 ⟨rfl, hb2⟩
        replace hx := hx.below hb2 hlt
        replace hlt := Nat.lt_of_lt_of_le hlt hb2.size
        replace hb := hb.trans (hb2.mono hb.size)
        clear hb2
        go_wp2_with fail
        refine (W.out _).mono ?_; rintro e w3 ⟨rfl, hb2⟩
        replace hx := hx.below hb2 hlt
        replace hlt := Nat.lt_of_lt_of_le hlt hb2.size
        replace hb := hb.trans (hb2.mono hb.size)
        clear hb2
        go_wp2_with fail
        refine (K.out _).mono ?_; rintro e w4 ⟨kv, rfl, hkv, hb2⟩
        replace hx := hx.below hb2 hlt
        replace hlt := Nat.lt_of_lt_of_le hlt hb2.size
        replace hb := hb.trans (hb2.mono hb.size)
        clear hb2
        have I1 := Lib.hid (I.out _ _ hkv)
        clear hkv
        go_wp2_with fail
        refine I1.out.mono ?_; rintro e w5 ⟨rfl, rfl⟩
        obtain ⟨c0, c1, c2, c3, f0, f1, f2, f3⟩ := hx
        go_wp2_with fail
        exact bodyPost_ret (v := .tuple #[.agg #[.int .i64 1, .string x, .int .i64 0, .int .i64 i], .bool z]) (by simp [results, Tryd.results22, go_sem, c0, c1, c2, c3]) rfl ⟨_, _, _, _, _, rfl, HA.out, (((hb.setCell (Nat.le_refl _) _).setCell (Nat.le_refl _) _).setCell (Nat.le_refl _) _).setCell (Nat.le_refl _) _⟩

theorem at_fn (s : ByteArray) (i : Nat) (h0 : i < s.size) (hs : s.size ≤ 1000000) (w : World) :
    Calls Tryd.prog 22 #[.string s, .int .i64 i] w (AtPost s i w) := by
  by_cases h36 : (s[i].toNat : Int) = 36
  · exact at_36 s i h0 hs h36 w
  · by_cases h37 : (s[i].toNat : Int) = 37
    · exact at_37 s i h0 hs h37 w
    · have hbd := cls_bd (s[i].toNat : Int)
      rcases (show cls (s[i].toNat : Int) = 4 ∨ cls (s[i].toNat : Int) = 3 ∨ (cls (s[i].toNat : Int) = 1 ∨ cls (s[i].toNat : Int) = 2) ∨ (cls (s[i].toNat : Int) = 0 ∨ cls (s[i].toNat : Int) = 5) from by omega) with h | h | h | h
      · exact at_sign s i h0 hs h36 h37 h w
      · exact at_digit s i h0 hs h36 h37 h w
      · exact at_word s i h0 hs h36 h37 h w
      · exact at_none s i h0 hs h36 h37 h w
end Go.Proofs.YtljkaaliagppdaaDoor
