/-
  How many bytes that may be part of a word stand at a place of a text: what parts of package lex answers, and Long of the reference, for every text and every place in it. Neither changes anything.
-/
import Derived.Test.YtljkaaliagppdaaDoorClass
namespace Go.Proofs.YtljkaaliagppdaaDoor
open Go.RowKit

/-- A byte that may be part of a word. -/
def pc (c : UInt8) : Bool := part (c.toNat : Int)
/-- How many such bytes stand at place i of s, one behind the other. -/
def run (s : ByteArray) (i : Nat) : Nat := ((s.data.toList.drop i).takeWhile pc).length

theorem drop_cons (s : ByteArray) {i : Nat} (h : i < s.size) : s.data.toList.drop i = s[i] :: s.data.toList.drop (i + 1) :=
  List.drop_eq_getElem_cons (by simpa using h)
theorem run_some (s : ByteArray) {i : Nat} (h : i < s.size) (hp : part (s[i].toNat : Int) = true) : run s i = run s (i + 1) + 1 := by
  unfold run; rw [drop_cons s h, List.takeWhile_cons_of_pos (by exact hp)]; rfl
theorem run_none (s : ByteArray) {i : Nat} (h : i < s.size) (hp : part (s[i].toNat : Int) = false) : run s i = 0 := by
  unfold run; rw [drop_cons s h, List.takeWhile_cons_of_neg (by show ¬ (part (s[i].toNat : Int) = true); rw [hp]; simp)]; rfl
theorem run_end (s : ByteArray) : run s s.size = 0 := by
  unfold run; rw [List.drop_of_length_le (by simp)]; rfl
theorem run_le (s : ByteArray) {i : Nat} (h : i ≤ s.size) : i + run s i ≤ s.size := by
  unfold run
  have h1 := (List.takeWhile_sublist pc (l := s.data.toList.drop i)).length_le
  rw [List.length_drop] at h1
  have h2 : s.data.toList.length = s.size := by simp
  omega

set_option maxHeartbeats 400000 in
theorem parts_any (s : ByteArray) (fi : Int) (f m : Nat) (hfi : fi = f) (hm : m = f + run s f) (hf : f ≤ s.size) (hs : s.size ≤ 9223372036854775806) (w : World) :
    Calls Tryd.prog 28 #[.string s, .int .i64 fi] w fun e w' => e = .returned (.int .i64 m) ∧ w = w' := by
  subst hfi
  have HM := Lib.hid hm
  clear hm
  go_enter Tryd.func28, Tryd.ntmps28
  go_wp2
  go_loop [1] (fun i => ∃ k : Nat, k ≤ s.size ∧ i = .int .i64 k ∧ m = k + run s k) (fun i => s.size - (intOf i).toNat)
  case atStart => exact ⟨f, hf, rfl, HM.out⟩
  case round =>
    obtain ⟨k, hk, rfl, ha⟩ := hrel
    have HA := Lib.hid ha
    clear ha
    by_cases hlt : k < s.size
    · cases hp : part (s[k].toNat : Int) with
      | true =>
        have HP := Lib.hid hp
        clear hp
        go_wp2_with (go_at_call 48; refine (part_any _ _).mono ?_; rintro e w' ⟨rfl, rfl⟩; rw [HP.out])
        go_round
        case rel => exact ⟨k + 1, by omega, by go_num, by have := run_some s hlt HP.out; have := HA.out; omega⟩
        case measure => simp [intOf]; omega
      | false =>
        have HP := Lib.hid hp
        clear hp
        go_wp2_with (go_at_call 48; refine (part_any _ _).mono ?_; rintro e w' ⟨rfl, rfl⟩; rw [HP.out])
        go_ret
        exact ⟨ret_int (by have := run_none s hlt HP.out; have := HA.out; omega), rfl⟩
    · go_wp2
      go_ret
      refine ⟨ret_int ?_, rfl⟩
      have e : k = s.size := by omega
      have := run_end s
      have := HA.out
      rw [e] at this
      omega

set_option maxHeartbeats 400000 in
theorem long_any (s : ByteArray) (fi : Int) (f m : Nat) (hfi : fi = f) (hm : m = run s f) (hf : f ≤ s.size) (hs : s.size ≤ 4611686018427387904) (w : World) :
    Calls Tryd.prog 32 #[.string s, .int .i64 fi] w fun e w' => e = .returned (.int .i64 m) ∧ w = w' := by
  subst hfi
  have HM := Lib.hid hm
  clear hm
  go_enter Tryd.func32, Tryd.ntmps32
  go_wp2
  go_loop [5] (fun i => ∃ k : Nat, f + k ≤ s.size ∧ i = .int .i64 k ∧ m = k + run s (f + k)) (fun i => s.size - (intOf i).toNat)
  case atStart => exact ⟨0, by omega, rfl, by have := HM.out; simpa using this⟩
  case round =>
    obtain ⟨k, hk, rfl, ha⟩ := hrel
    have HA := Lib.hid ha
    clear ha
    by_cases hlt : f + k < s.size
    · have hi : (f : Int) + (k : Int) < (s.size : Int) := by omega
      have HI := Lib.hid (show ((f : Int) + (k : Int)) = ((f + k : Nat) : Int) from by omega)
      have hi2 : ((f : Int) + (k : Int)).toNat = f + k := by omega
      cases hp : part (s[f + k].toNat : Int) with
      | true =>
        have HP := Lib.hid hp
        clear hp
        go_wp2_with (go_at_call 50; refine (rpart_any _ _).mono ?_; rintro e w' ⟨rfl, rfl⟩; rw [HP.out])
        go_round
        case rel => exact ⟨k + 1, by omega, by go_num, by have := run_some s hlt HP.out; have := HA.out; rw [show f + (k + 1) = f + k + 1 from by omega]; omega⟩
        case measure => simp [intOf]; omega
      | false =>
        have HP := Lib.hid hp
        clear hp
        go_wp2_with (go_at_call 50; refine (rpart_any _ _).mono ?_; rintro e w' ⟨rfl, rfl⟩; rw [HP.out])
        go_ret
        exact ⟨ret_int (by have := run_none s hlt HP.out; have := HA.out; omega), rfl⟩
    · have hi : ¬ (f : Int) + (k : Int) < (s.size : Int) := by omega
      go_wp2
      go_ret
      refine ⟨ret_int ?_, rfl⟩
      have e : f + k = s.size := by omega
      have := run_end s
      have := HA.out
      rw [e] at this
      omega
end Go.Proofs.YtljkaaliagppdaaDoor
