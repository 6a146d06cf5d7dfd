/-
  What the byte functions of package chars, and those of the reference, answer: each call returns the class, or whether the byte may be part of a word, for every byte and in every world, and changes nothing.
-/
import Derived.Test.YtljkaaliagppdaaDoorRows
import Derived.WalkKit
import Derived.WalkSpells
import Derived.WalkLawsBesides
import Derived.Lib.Hide
namespace Go.Proofs.YtljkaaliagppdaaDoor
open Go.RowKit

theorem ret_int {k : IntKind} {a b : Int} (h : a = b) : Ending.returned (.int k a) = .returned (.int k b) := by rw [h]
theorem ret_bool {a b : Bool} (h : a = b) : Ending.returned (.bool a) = .returned (.bool b) := by rw [h]

def cls (b : Int) : Int :=
  if 97 ≤ b ∧ b ≤ 122 then 1 else if 65 ≤ b ∧ b ≤ 90 then 2 else if 48 ≤ b ∧ b ≤ 57 then 3
  else if b = 40 ∨ b = 41 ∨ b = 44 ∨ b = 47 ∨ b = 61 ∨ b = 46 ∨ b = 59 ∨ b = 58 ∨ b = 36 ∨ b = 37 then 4
  else if b = 32 ∨ b = 10 ∨ b = 13 ∨ b = 9 then 5 else 0

set_option maxHeartbeats 400000 in
theorem class_any (b : Int) (w : World) :
    Calls Tryd.prog 19 #[.int .u8 b] w fun e w' => e = .returned (.int .i64 (cls b)) ∧ w = w' := by
  go_enter Tryd.func19, Tryd.ntmps19
  go_wp2
  all_goals go_ret
  all_goals refine ⟨ret_int ?_, rfl⟩
  all_goals (try simp only [beq_iff_eq, beq_eq_false_iff_ne, ne_eq] at *)
  all_goals (unfold cls; repeat (first | rw [if_pos (by omega)] | rw [if_neg (by omega)]))

def part (b : Int) : Bool := decide (1 ≤ cls b ∧ cls b ≤ 3 ∨ b = 95)
theorem cls_bd (b : Int) : 0 ≤ cls b ∧ cls b ≤ 5 := by
  unfold cls; repeat' split
  all_goals omega

set_option maxHeartbeats 400000 in
theorem part_any (b : Int) (w : World) :
    Calls Tryd.prog 48 #[.int .u8 b] w fun e w' => e = .returned (.bool (part b)) ∧ w = w' := by
  have hb := cls_bd b
  have hp : part b = decide (1 ≤ cls b ∧ cls b ≤ 3 ∨ b = 95) := rfl
  have h95 : b = 95 → cls b = 0 := by rintro rfl; decide
  have H := Lib.hid hp
  have H3 := Lib.hid h95
  clear hp h95
  generalize hc : cls b = c at H H3 hb
  have H2 := Lib.hid hc
  clear hc
  go_enter Tryd.func48, Tryd.ntmps48
  go_wp2_with (go_at_call 19; refine (class_any _ _).mono ?_; rintro e w' ⟨rfl, rfl⟩; rw [H2.out])
  all_goals go_ret
  all_goals refine ⟨ret_bool ?_, rfl⟩
  all_goals rw [H.out]
  all_goals have h95 := H3.out
  all_goals (try simp only [beq_iff_eq, beq_eq_false_iff_ne, bne_iff_ne, bne_eq_false_iff_eq, ne_eq] at *)
  all_goals first | (rw [decide_eq_true (by omega)]) | (rw [decide_eq_false (by omega)])


def among (l : List UInt8) (b : Int) : Bool := l.any fun x => decide ((x.toNat : Int) = b)
theorem take_snoc (s : ByteArray) (k : Nat) (h : k < s.size) : s.data.toList.take (k + 1) = s.data.toList.take k ++ [s[k]] := by
  rw [List.take_succ_eq_append_getElem (by simpa using h)]; rfl
theorem take_all (s : ByteArray) : s.data.toList.take s.size = s.data.toList := List.take_of_length_le (by simp)
theorem among_snoc (s : ByteArray) (b : Int) (k : Nat) (h : k < s.size) : among (s.data.toList.take (k + 1)) b = (among (s.data.toList.take k) b || decide ((s[k].toNat : Int) = b)) := by
  rw [take_snoc s k h]; unfold among; rw [List.any_append]; simp
theorem among_take (s : ByteArray) (b : Int) (k : Nat) (h : among (s.data.toList.take k) b = true) : among s.data.toList b = true := by
  unfold among at *; rw [List.any_eq_true] at *; obtain ⟨x, hx, hy⟩ := h; exact ⟨x, List.mem_of_mem_take hx, hy⟩

set_option maxHeartbeats 400000 in
theorem among_any (s : ByteArray) (b : Int) (w : World) (hs : s.size ≤ 9223372036854775806) :
    Calls Tryd.prog 31 #[.string s, .int .u8 b] w fun e w' => e = .returned (.bool (among s.data.toList b)) ∧ w = w' := by
  go_enter Tryd.func31, Tryd.ntmps31
  go_wp2
  go_loop [5] (fun i => ∃ k : Nat, k ≤ s.size ∧ i = .int .i64 k ∧ among (s.data.toList.take k) b = false) (fun i => s.size - (intOf i).toNat)
  case atStart => exact ⟨0, Nat.zero_le _, rfl, rfl⟩
  case round =>
    obtain ⟨k, hk, rfl, ha⟩ := hrel
    have HA := Lib.hid ha
    clear ha
    by_cases hlt : k < s.size
    · go_wp2
      · go_ret
        refine ⟨ret_bool ?_, rfl⟩
        rw [among_take s b (k + 1)]
        rw [among_snoc s b k hlt]
        simp_all
      · go_round
        case rel => exact ⟨k + 1, by omega, by go_num, by rw [among_snoc s b k hlt, HA.out]; simp_all⟩
        case measure => simp [intOf]; omega
    · go_wp2
      go_ret
      refine ⟨ret_bool ?_, rfl⟩
      have e : k = s.size := by omega
      have h := HA.out
      rw [e, take_all] at h
      rw [h]

theorem among_signs (b : Int) : among [40, 41, 44, 47, 61, 46, 59, 58, 36, 37] b = decide (b = 40 ∨ b = 41 ∨ b = 44 ∨ b = 47 ∨ b = 61 ∨ b = 46 ∨ b = 59 ∨ b = 58 ∨ b = 36 ∨ b = 37) := by
  rw [Bool.eq_iff_iff]; simp only [among, List.any_cons, List.any_nil, Bool.or_eq_true, decide_eq_true_eq]
  simp only [show (40 : UInt8).toNat = 40 from rfl, show (41 : UInt8).toNat = 41 from rfl, show (44 : UInt8).toNat = 44 from rfl, show (47 : UInt8).toNat = 47 from rfl, show (61 : UInt8).toNat = 61 from rfl, show (46 : UInt8).toNat = 46 from rfl, show (59 : UInt8).toNat = 59 from rfl, show (58 : UInt8).toNat = 58 from rfl, show (36 : UInt8).toNat = 36 from rfl, show (37 : UInt8).toNat = 37 from rfl]
  constructor
  · intro h; simp only [Bool.false_eq_true, or_false] at h; omega
  · intro h; simp only [Bool.false_eq_true, or_false]; omega

set_option maxHeartbeats 400000 in
theorem rclass_any (b : Int) (w : World) :
    Calls Tryd.prog 21 #[.int .u8 b] w fun e w' => e = .returned (.int .i64 (cls b)) ∧ w = w' := by
  have hs := among_signs b
  generalize hx : among [40, 41, 44, 47, 61, 46, 59, 58, 36, 37] b = x at hs
  have H := Lib.hid hs
  have H2 := Lib.hid hx
  clear hs hx
  go_enter Tryd.func21, Tryd.ntmps21
  go_wp2_with (go_at_call 31; refine (among_any _ _ _ (by decide)).mono ?_; rintro e w' ⟨rfl, rfl⟩; simp only [H2.out])
  all_goals go_ret
  all_goals refine ⟨ret_int ?_, rfl⟩
  all_goals (have hs := H.out; clear H H2; subst hs)
  all_goals (try simp only [beq_iff_eq, beq_eq_false_iff_ne, ne_eq, decide_eq_true_eq, decide_eq_false_iff_not] at *)
  all_goals (unfold cls; repeat (first | rw [if_pos (by omega)] | rw [if_neg (by omega)]))
  all_goals (exfalso; omega)

set_option maxHeartbeats 400000 in
theorem rpart_any (b : Int) (w : World) :
    Calls Tryd.prog 50 #[.int .u8 b] w fun e w' => e = .returned (.bool (part b)) ∧ w = w' := by
  have hb := cls_bd b
  have hp : part b = decide (1 ≤ cls b ∧ cls b ≤ 3 ∨ b = 95) := rfl
  have H := Lib.hid hp
  clear hp
  generalize hc : cls b = c at H hb
  have H2 := Lib.hid hc
  clear hc
  go_enter Tryd.func50, Tryd.ntmps50
  go_wp2_with (go_at_call 21; refine (rclass_any _ _).mono ?_; rintro e w' ⟨rfl, rfl⟩; rw [H2.out])
  all_goals go_ret
  all_goals refine ⟨ret_bool ?_, rfl⟩
  all_goals rw [H.out]
  all_goals (rw [Bool.eq_iff_iff]; simp only [Bool.or_eq_true, beq_iff_eq, decide_eq_true_eq, true_iff])
  all_goals omega
end Go.Proofs.YtljkaaliagppdaaDoor
