/-
  The token that a text begins with, as token of package lex tells it, and as At of the reference tells it of any place of a text.
-/
import Derived.Test.YtljkaaliagppdaaDoorCut
namespace Go.Proofs.YtljkaaliagppdaaDoor
open Go.RowKit

theorem tw_take (p : UInt8 → Bool) (l : List UInt8) : l.take (l.takeWhile p).length = l.takeWhile p := by
  induction l with
  | nil => rfl
  | cons c r ih =>
    cases hc : p c with
    | true => rw [List.takeWhile_cons_of_pos hc, List.length_cons, List.take_succ_cons, ih]
    | false => rw [List.takeWhile_cons_of_neg (by rw [hc]; simp)]; rfl
theorem tw_len (p : UInt8 → Bool) (l : List UInt8) : (l.takeWhile p).length ≤ l.length := (List.takeWhile_sublist p (l := l)).length_le

theorem tokL_36 {l : List UInt8} (h : head l = 36) : tokL l = numCut 4 (l.tail.takeWhile pc) 1 (1 + (l.tail.takeWhile pc).length) := by
  unfold tokL; rw [if_pos h]
theorem tokL_37 {l : List UInt8} (h : head l = 37) : tokL l = numCut 5 (l.tail.takeWhile pc) 0 (1 + (l.tail.takeWhile pc).length) := by
  unfold tokL; rw [if_neg (by show ¬ head l = 36; omega), if_pos h]
theorem tokL_sign {l : List UInt8} (h1 : ¬ head l = 36) (h2 : ¬ head l = 37) (h : cls (head l) = 4) : tokL l = some ⟨6, 0, 1⟩ := by
  unfold tokL; rw [if_neg h1, if_neg h2, if_pos h]
theorem cls_36 {b : Int} (h : cls b ≠ 4) : ¬ b = 36 := by rintro rfl; exact h (by decide)
theorem cls_37 {b : Int} (h : cls b ≠ 4) : ¬ b = 37 := by rintro rfl; exact h (by decide)
theorem tokL_digit {l : List UInt8} (h : cls (head l) = 3) : tokL l = numCut 3 (l.takeWhile pc) 0 (l.takeWhile pc).length := by
  unfold tokL; rw [if_neg (cls_36 (b := head l) (by omega)), if_neg (cls_37 (b := head l) (by omega)), if_neg (by show ¬ cls (head l) = 4; omega), if_pos h]
theorem tokL_word {l : List UInt8} (h : cls (head l) = 1 ∨ cls (head l) = 2) : tokL l = wordCut (bs (l.takeWhile pc)) (l.takeWhile pc).length := by
  unfold tokL; rw [if_neg (cls_36 (b := head l) (by omega)), if_neg (cls_37 (b := head l) (by omega)), if_neg (by show ¬ cls (head l) = 4; omega), if_neg (by show ¬ cls (head l) = 3; omega), if_pos h]; rfl
theorem tokL_none {l : List UInt8} (h : cls (head l) = 0 ∨ cls (head l) = 5) : tokL l = none := by
  unfold tokL; rw [if_neg (cls_36 (b := head l) (by omega)), if_neg (cls_37 (b := head l) (by omega)), if_neg (by show ¬ cls (head l) = 4; omega), if_neg (by show ¬ cls (head l) = 3; omega), if_neg (by show ¬ (cls (head l) = 1 ∨ cls (head l) = 2); omega)]

theorem numCut_len {k : Int} {t : List UInt8} {least : Int} {len : Nat} {c : Cut} (h : numCut k t least len = some c) : c.len = len := by
  unfold numCut at h; split at h
  · cases h; rfl
  · cases h
theorem wordCut_len {t : ByteArray} {len : Nat} {c : Cut} (h : wordCut t len = some c) : c.len = len := by
  unfold wordCut at h; split at h
  · cases h; rfl
  · split at h
    · cases h; rfl
    · cases h

/-- The token that s begins with, as a value; zero, if there is none. -/
def tokenV (s : ByteArray) : Value := match tokL s.data.toList with
  | none => tokV ⟨#[]⟩ none
  | some c => tokV (s.extract 0 c.len) (some c)
theorem tokenV_none {s : ByteArray} (h : tokL s.data.toList = none) : tokenV s = tokV ⟨#[]⟩ none := by unfold tokenV; rw [h]
theorem tokenV_some {s : ByteArray} {c : Cut} (h : tokL s.data.toList = some c) : tokenV s = tokV (s.extract 0 c.len) (some c) := by unfold tokenV; rw [h]
theorem tokenV_num {s : ByteArray} {k : Int} {t : List UInt8} {least : Int} {len : Nat} (h : tokL s.data.toList = numCut k t least len) : tokV (s.extract 0 len) (numCut k t least len) = tokenV s := by
  cases hc : numCut k t least len with
  | none => rw [hc] at h; rw [tokenV_none h]; rfl
  | some c => rw [hc] at h; rw [tokenV_some h, numCut_len hc]
theorem tokenV_word {s t : ByteArray} {len : Nat} (h : tokL s.data.toList = wordCut t len) (ht : s.extract 0 len = t) : tokV t (wordCut t len) = tokenV s := by
  cases hc : wordCut t len with
  | none => rw [hc] at h; rw [tokenV_none h]; rfl
  | some c => rw [hc] at h; rw [tokenV_some h, wordCut_len hc, ht]

theorem tokV_shape (t : ByteArray) (c : Option Cut) : ∃ k x n, tokV t c = .agg #[.int .i64 k, .string x, .int .i64 n, .int .i64 0] := by
  cases c with
  | none => exact ⟨_, _, _, rfl⟩
  | some c => exact ⟨_, _, _, rfl⟩
theorem tokenV_shape (s : ByteArray) : ∃ k x n, tokenV s = .agg #[.int .i64 k, .string x, .int .i64 n, .int .i64 0] := by
  unfold tokenV; split
  · exact tokV_shape _ _
  · exact tokV_shape _ _
theorem head_first {s : ByteArray} (h : 0 < s.size) : head s.data.toList = (s[0].toNat : Int) := by
  unfold head
  have := drop_cons s h
  rw [List.drop_zero] at this
  rw [this]; rfl
theorem run_zero (s : ByteArray) : run s 0 = (s.data.toList.takeWhile pc).length := by unfold run; rw [List.drop_zero]
theorem run_one (s : ByteArray) : run s 1 = (s.data.toList.tail.takeWhile pc).length := by unfold run; rw [List.drop_one]
theorem ext_list (s : ByteArray) (a b : Nat) : (s.extract a b).data.toList = (s.data.toList.take b).drop a := by
  simp [ByteArray.data_extract, List.drop_take]
theorem bs_list (s : ByteArray) : bs s.data.toList = s := by unfold bs; cases s; simp
theorem ext_whole (x : ByteArray) : x.extract 0 x.size = x := by
  rw [← bs_list (x.extract 0 x.size), ext_list, List.drop_zero, List.take_of_length_le (by simp), bs_list]
theorem word_text (s : ByteArray) : s.extract 0 (run s 0) = bs (s.data.toList.takeWhile pc) := by
  rw [← bs_list (s.extract 0 (run s 0)), ext_list, List.drop_zero, run_zero, tw_take]
theorem sign_text {s : ByteArray} {m : Nat} (hm : m = 1 + run s 1) (h0 : 0 < s.size) : ((s.extract 0 m).extract 1 (s.extract 0 m).size).data.toList = s.data.toList.tail.takeWhile pc := by
  have hle := run_le s (i := 1) (by omega)
  have hsz : (s.extract 0 m).size = m := by simp; omega
  rw [ext_list, hsz, ext_list, List.drop_zero]
  rw [List.take_take, Nat.min_self, ← List.drop_one, List.drop_take]
  rw [show m - 1 = run s 1 from by omega]
  unfold run
  exact tw_take pc _

set_option maxRecDepth 100000 in
set_option maxHeartbeats 400000 in
theorem sign_fn (s : ByteArray) (h0 : 0 < s.size) (hc : cls (s[0].toNat : Int) = 4) (hs : s.size ≤ 1000000) (w : World) (hT : Tabs w) :
    Calls Tryd.prog 30 #[.string s] w fun e w' => e = .returned (tokenV s) ∧ Below w.heap.size w w' := by
  have hi : (0 : Int) < (s.size : Int) := by omega
  have HT := Lib.hid hT
  have hle := run_le s (i := 1) (by omega)
  obtain ⟨m, hm⟩ : ∃ m, m = 1 + run s 1 := ⟨_, rfl⟩
  have hms : m ≤ s.size := by omega
  have P := Lib.hid (fun w => parts_any s 1 1 m rfl hm (by omega) (by omega) w)
  have hx := sign_text hm h0
  have hh := head_first h0
  have hr := run_one s
  obtain ⟨k, x, n, hS⟩ := tokenV_shape s
  have HS := Lib.hid hS
  clear hS
  by_cases h36 : (s[0].toNat : Int) = 36
  · have hq : ((s[0].toNat : Int) == 36) = true := by rw [beq_iff_eq]; exact h36
    have ht := tokL_36 (l := s.data.toList) (by rw [hh]; exact h36)
    rw [← hr, ← hm, ← hx] at ht
    have HV := Lib.hid (tokenV_num ht)
    have N := Lib.hid (fun w hT => number_fn 4 (s.extract 0 m) _ 1 1 1 m rfl (by simp; omega) rfl (by simp; omega) w hT)
    clear hT hm hx hh hr h36 ht hc
    go_enter Tryd.func30, Tryd.ntmps30
    go_wp2_with fail
    refine (P.out _).mono ?_; rintro e w1 ⟨rfl, rfl⟩
    go_wp2_with fail
    refine (N.out _ (HT.out.below ((Below.refl _ _).alloc (Nat.le_refl _) _))).mono ?_; rintro e w1 ⟨rfl, hb⟩
    rw [HV.out, HS.out]
    obtain ⟨c0, c1, c2, c3, f0, f1, f2, f3⟩ := box_after hb
    replace hb := below_box hb
    go_wp2_with fail
    exact bodyPost_ret (v := .agg #[.int .i64 k, .string x, .int .i64 n, .int .i64 0]) (by simp [results, Tryd.results30, go_sem, c0, c1, c2, c3]) rfl ⟨by rw [HS.out], (((hb.setCell (Nat.le_refl _) _).setCell (Nat.le_refl _) _).setCell (Nat.le_refl _) _).setCell (Nat.le_refl _) _⟩
  · by_cases h37 : (s[0].toNat : Int) = 37
    · have hq : ((s[0].toNat : Int) == 36) = false := by rw [beq_eq_false_iff_ne]; exact h36
      have hq2 : ((s[0].toNat : Int) == 37) = true := by rw [beq_iff_eq]; exact h37
      have ht := tokL_37 (l := s.data.toList) (by rw [hh]; exact h37)
      rw [← hr, ← hm, ← hx] at ht
      have HV := Lib.hid (tokenV_num ht)
      have N := Lib.hid (fun w hT => number_fn 5 (s.extract 0 m) _ 1 1 0 m rfl (by simp; omega) rfl (by simp; omega) w hT)
      clear hT hm hx hh hr h36 h37 ht hc
      go_enter Tryd.func30, Tryd.ntmps30
      go_wp2_with fail
      refine (P.out _).mono ?_; rintro e w1 ⟨rfl, rfl⟩
      go_wp2_with fail
      refine (N.out _ (HT.out.below ((Below.refl _ _).alloc (Nat.le_refl _) _))).mono ?_; rintro e w1 ⟨rfl, hb⟩
      rw [HV.out, HS.out]
      obtain ⟨c0, c1, c2, c3, f0, f1, f2, f3⟩ := box_after hb
      replace hb := below_box hb
      go_wp2_with fail
      exact bodyPost_ret (v := .agg #[.int .i64 k, .string x, .int .i64 n, .int .i64 0]) (by simp [results, Tryd.results30, go_sem, c0, c1, c2, c3]) rfl ⟨by rw [HS.out], (((hb.setCell (Nat.le_refl _) _).setCell (Nat.le_refl _) _).setCell (Nat.le_refl _) _).setCell (Nat.le_refl _) _⟩
    · have hq : ((s[0].toNat : Int) == 36) = false := by rw [beq_eq_false_iff_ne]; exact h36
      have hq2 : ((s[0].toNat : Int) == 37) = false := by rw [beq_eq_false_iff_ne]; exact h37
      have ht := tokL_sign (l := s.data.toList) (by rw [hh]; exact h36) (by rw [hh]; exact h37) (by rw [hh]; exact hc)
      have HV := Lib.hid (tokenV_some ht)
      clear hT hm hx hh hr h36 h37 ht hc HS
      go_enter Tryd.func30, Tryd.ntmps30
      go_wp2_with fail
      exact bodyPost_ret (v := tokV (s.extract 0 1) (some ⟨6, 0, 1⟩)) (by simp [results, Tryd.results30, go_sem, tokV]) rfl ⟨by rw [HV.out], (Below.refl _ _).alloc (Nat.le_refl _) _⟩

set_option maxRecDepth 100000 in
set_option maxHeartbeats 1000000 in
theorem token_fn (s : ByteArray) (h0 : 0 < s.size) (hs : s.size ≤ 1000000) (w : World) (hT : Tabs w) :
    Calls Tryd.prog 20 #[.string s] w fun e w' => e = .returned (tokenV s) ∧ Below w.heap.size w w' := by
  have hi : (0 : Int) < (s.size : Int) := by omega
  have HT := Lib.hid hT
  have hle := run_le s (i := 0) (by omega)
  obtain ⟨m, hm⟩ : ∃ m, m = 0 + run s 0 := ⟨_, rfl⟩
  have hms : m ≤ s.size := by omega
  have P := Lib.hid (fun w => parts_any s 0 0 m rfl hm (by omega) (by omega) w)
  have hm0 : m = run s 0 := by omega
  have hx := word_text s
  rw [← hm0] at hx
  have hr := run_zero s
  rw [← hm0] at hr
  have hh := head_first h0
  have hxl : (s.extract 0 m).data.toList = s.data.toList.takeWhile pc := by rw [ext_list, List.drop_zero, hr, tw_take]
  have hbd := cls_bd (s[0].toNat : Int)
  obtain ⟨k, x, n, hS⟩ := tokenV_shape s
  have HS := Lib.hid hS
  clear hS
  have hw : cls (s[0].toNat : Int) = 1 ∨ cls (s[0].toNat : Int) = 2 → tokL s.data.toList = wordCut (s.extract 0 m) m := fun h => by
    rw [tokL_word (by rw [hh]; exact h), hx, hr]
  have hd : cls (s[0].toNat : Int) = 3 → tokL s.data.toList = numCut 3 (s.extract 0 m).data.toList 0 m := fun h => by
    rw [tokL_digit (by rw [hh]; exact h), hxl, hr]
  have hn : cls (s[0].toNat : Int) = 0 ∨ cls (s[0].toNat : Int) = 5 → tokL s.data.toList = none := fun h => tokL_none (by rw [hh]; exact h)
  obtain ⟨c, hc⟩ : ∃ c, c = cls (s[0].toNat : Int) := ⟨_, rfl⟩
  rw [← hc] at hw hd hn hbd
  have HC := Lib.hid hc
  have S := Lib.hid (fun (h : c = 4) w hT => sign_fn s h0 (hc.symm.trans h) hs w hT)
  have CL := Lib.hid (fun w => (class_any (s[0].toNat : Int) w).mono fun e w' h => (show e = .returned (.int .i64 c) ∧ w = w' by rw [hc]; exact h))
  clear hc hT hx hr hh hm hm0
  rcases (show c = 1 ∨ c = 2 ∨ c = 3 ∨ c = 4 ∨ c = 0 ∨ c = 5 from by omega) with h | h | h | h | h | h
  · have HV := Lib.hid (tokenV_word (hw (.inl h)) rfl)
    have W := Lib.hid (fun w => word_fn (s.extract 0 m) m (by simp; omega) w)
    subst h
    clear hw hd hn hxl
    go_enter Tryd.func20, Tryd.ntmps20
    go_wp2_with fail
    refine (CL.out _).mono ?_; rintro e w1 ⟨rfl, rfl⟩
    go_wp2_with fail
    refine (P.out _).mono ?_; rintro e w1 ⟨rfl, rfl⟩
    go_wp2_with fail
    refine (W.out _).mono ?_; rintro e w1 ⟨rfl, hb⟩
    rw [HV.out, HS.out]
    obtain ⟨c0, c1, c2, c3, f0, f1, f2, f3⟩ := box_after hb
    replace hb := below_box hb
    go_wp2_with fail
    exact bodyPost_ret (v := .agg #[.int .i64 k, .string x, .int .i64 n, .int .i64 0]) (by simp [results, Tryd.results20, go_sem, c0, c1, c2, c3]) rfl ⟨by rw [HS.out], (((hb.setCell (Nat.le_refl _) _).setCell (Nat.le_refl _) _).setCell (Nat.le_refl _) _).setCell (Nat.le_refl _) _⟩
  · have HV := Lib.hid (tokenV_word (hw (.inr h)) rfl)
    have W := Lib.hid (fun w => word_fn (s.extract 0 m) m (by simp; omega) w)
    subst h
    clear hw hd hn hxl
    go_enter Tryd.func20, Tryd.ntmps20
    go_wp2_with fail
    refine (CL.out _).mono ?_; rintro e w1 ⟨rfl, rfl⟩
    go_wp2_with fail
    refine (P.out _).mono ?_; rintro e w1 ⟨rfl, rfl⟩
    go_wp2_with fail
    refine (W.out _).mono ?_; rintro e w1 ⟨rfl, hb⟩
    rw [HV.out, HS.out]
    obtain ⟨c0, c1, c2, c3, f0, f1, f2, f3⟩ := box_after hb
    replace hb := below_box hb
    go_wp2_with fail
    exact bodyPost_ret (v := .agg #[.int .i64 k, .string x, .int .i64 n, .int .i64 0]) (by simp [results, Tryd.results20, go_sem, c0, c1, c2, c3]) rfl ⟨by rw [HS.out], (((hb.setCell (Nat.le_refl _) _).setCell (Nat.le_refl _) _).setCell (Nat.le_refl _) _).setCell (Nat.le_refl _) _⟩
  · have HV := Lib.hid (tokenV_num (hd h))
    have N := Lib.hid (fun w hT => number_fn 3 (s.extract 0 m) (s.extract 0 m) 0 0 0 m rfl (by omega) (ext_whole _) (by simp; omega) w hT)
    subst h
    clear hw hd hn hxl
    go_enter Tryd.func20, Tryd.ntmps20
    go_wp2_with fail
    refine (CL.out _).mono ?_; rintro e w1 ⟨rfl, rfl⟩
    go_wp2_with fail
    refine (P.out _).mono ?_; rintro e w1 ⟨rfl, rfl⟩
    go_wp2_with fail
    refine (N.out _ (HT.out.below ((Below.refl _ _).alloc (Nat.le_refl _) _))).mono ?_; rintro e w1 ⟨rfl, hb⟩
    rw [HV.out, HS.out]
    obtain ⟨c0, c1, c2, c3, f0, f1, f2, f3⟩ := box_after hb
    replace hb := below_box hb
    go_wp2_with fail
    exact bodyPost_ret (v := .agg #[.int .i64 k, .string x, .int .i64 n, .int .i64 0]) (by simp [results, Tryd.results20, go_sem, c0, c1, c2, c3]) rfl ⟨by rw [HS.out], (((hb.setCell (Nat.le_refl _) _).setCell (Nat.le_refl _) _).setCell (Nat.le_refl _) _).setCell (Nat.le_refl _) _⟩
  · have G := Lib.hid (fun w hT => S.out h w hT)
    subst h
    clear hw hd hn hxl S
    go_enter Tryd.func20, Tryd.ntmps20
    go_wp2_with fail
    refine (CL.out _).mono ?_; rintro e w1 ⟨rfl, rfl⟩
    go_wp2_with fail
    refine (G.out _ (HT.out.below ((Below.refl _ _).alloc (Nat.le_refl _) _))).mono ?_; rintro e w1 ⟨rfl, hb⟩
    rw [HS.out]
    obtain ⟨c0, c1, c2, c3, f0, f1, f2, f3⟩ := box_after hb
    replace hb := below_box hb
    go_wp2_with fail
    exact bodyPost_ret (v := .agg #[.int .i64 k, .string x, .int .i64 n, .int .i64 0]) (by simp [results, Tryd.results20, go_sem, c0, c1, c2, c3]) rfl ⟨by rw [HS.out], (((hb.setCell (Nat.le_refl _) _).setCell (Nat.le_refl _) _).setCell (Nat.le_refl _) _).setCell (Nat.le_refl _) _⟩
  · have HV := Lib.hid (tokenV_none (hn (.inl h)))
    subst h
    clear hw hd hn hxl HS
    go_enter Tryd.func20, Tryd.ntmps20
    go_wp2_with fail
    refine (CL.out _).mono ?_; rintro e w1 ⟨rfl, rfl⟩
    go_wp2_with fail
    exact bodyPost_ret (v := tokV ⟨#[]⟩ none) (by simp [results, Tryd.results20, go_sem, tokV]) rfl ⟨by rw [HV.out], (Below.refl _ _).alloc (Nat.le_refl _) _⟩
  · have HV := Lib.hid (tokenV_none (hn (.inr h)))
    subst h
    clear hw hd hn hxl HS
    go_enter Tryd.func20, Tryd.ntmps20
    go_wp2_with fail
    refine (CL.out _).mono ?_; rintro e w1 ⟨rfl, rfl⟩
    go_wp2_with fail
    exact bodyPost_ret (v := tokV ⟨#[]⟩ none) (by simp [results, Tryd.results20, go_sem, tokV]) rfl ⟨by rw [HV.out], (Below.refl _ _).alloc (Nat.le_refl _) _⟩
end Go.Proofs.YtljkaaliagppdaaDoor
