/-
  Digits and Number of package chars, and the same of the reference: a number in decimal, and the number from 0 to 999 that a text is; in every world in which the listed variables of strconv hold what they were laid with. Each call makes new memory alone.
-/
import Derived.Test.YtljkaaliagppdaaDoorLaid
import Derived.Test.YtljkaaliagppdaaDoorPlain
import Derived.Test.YtljkaaliagppdaaDoorClass
import Derived.Lib.ItoaLen
namespace Go.Proofs.YtljkaaliagppdaaDoor
open Go.RowKit

theorem below_grow (w : World) (k : Nat) (os : Array Obj) : Below w.heap.size w (Sort.grow (w.drewN k) os) :=
  ⟨rfl, rfl, rfl, by show w.heap.size ≤ (w.heap ++ os).size; simp, fun j hj => by show (w.heap ++ os)[j]? = _; rw [Array.getElem?_append_left hj]⟩

def str (l : List UInt8) : Value := .string ⟨l.toArray⟩
theorem ret_str {a b : List UInt8} (h : a = b) : Ending.returned (.string ⟨a.toArray⟩) = .returned (.string ⟨b.toArray⟩) := by rw [h]

set_option maxHeartbeats 400000 in
theorem digits_any (n : Int) (h0 : -9223372036854775808 ≤ n) (h1 : n ≤ 9223372036854775807) (w : World) (hT : Tabs w) :
    Calls Tryd.prog 60 #[.int .i64 n] w fun e w' => e = .returned (.string ⟨(Lib.itoa n).toArray⟩) ∧ Below w.heap.size w w' := by
  have c := Tryd.strconv_Itoa n h0 h1 w hT.pow
  have C := Lib.hid c
  clear c hT
  go_enter Tryd.func60, Tryd.ntmps60
  go_wp2_with (go_at_call 73; refine C.out.mono ?_; rintro e w' ⟨rfl, k, os, rfl⟩)
  go_ret
  exact ⟨rfl, below_grow _ _ _⟩

/-- The last digit of a number, as a byte. -/
def lastDigit (u : Nat) : UInt8 := UInt8.ofNat (48 + u % 10)
theorem digits_small {u : Nat} (h : u < 10) : Lib.decDigits u = [lastDigit u] := by
  rw [Lib.decDigits_one h]; unfold lastDigit; rw [Nat.mod_eq_of_lt h]
theorem digits_len {u : Nat} (h : u < 18446744073709551616) : (Lib.decDigits (u / 10)).length ≤ 21 := by
  rw [← Lib.itoa_nonneg]
  exact Lib.itoa_length_le _ (by omega) (by omega)
theorem conv_one (w : World) (u : Nat) :
    (convert 55 9 (.slice (some ⟨w.heap.size, 0, none⟩) 1 1)).run Tryd.prog (w.alloc (.cells #[.int .u8 (48 + (u : Int) % 10)] 5)) = .ok (.string ⟨#[lastDigit u]⟩) (w.alloc (.cells #[.int .u8 (48 + (u : Int) % 10)] 5)) := by
  have h := run_convert_bytes_back (P := Tryd.prog) (w.alloc (.cells #[.int .u8 (48 + (u : Int) % 10)] 5)) 55 9 5 ⟨w.heap.size, 0, none⟩ 1 [lastDigit u] Tryd.underlying55 Tryd.underlying5 Tryd.underlying9
    (fun j hj => by
      have : j = 0 := by simp at hj; omega
      subst this
      have e := World.cell?_alloc_mark w #[.int .u8 (48 + (u : Int) % 10)] 5 (0, 0) 0
      show (w.alloc (.cells #[.int .u8 (48 + (u : Int) % 10)] 5)).cell? ⟨w.heap.size, 0, none⟩ = _
      rw [e]
      show some (Value.int .u8 (48 + (u : Int) % 10)) = some (.int .u8 ((UInt8.ofNat (48 + u % 10)).toNat : Int))
      rw [digit_val (by omega)]
      congr 2)
  exact h

set_option maxRecDepth 100000 in
set_option maxHeartbeats 400000 in
theorem ahead_any (u : Nat) (hu : u < 18446744073709551616) : ∀ w : World,
    Calls Tryd.prog 61 #[.int .u64 u] w fun e w' => e = .returned (.string ⟨(Lib.decDigits u).toArray⟩) ∧ Below w.heap.size w w' := by
  induction u using Nat.strongRecOn with
  | ind u ih =>
    intro w
    have hc := conv_one w u
    by_cases h : u < 10
    · have HS := Lib.hid (digits_small h)
      go_enter Tryd.func61, Tryd.ntmps61
      go_wp2_with fail
      go_ret
      refine ⟨?_, (Below.refl _ _).alloc (Nat.le_refl _) _⟩
      rw [HS.out]; rfl
    · have IH := Lib.hid (ih (u / 10) (by omega) (by omega))
      clear ih
      have hd : ((u : Int) / 10) = ((u / 10 : Nat) : Int) := by omega
      have HD := Lib.hid hd
      have HB := Lib.hid (show Lib.decDigits u = Lib.decDigits (u / 10) ++ [lastDigit u] from decDigits_big h)
      have hl := digits_len hu
      clear hd
      go_enter Tryd.func61, Tryd.ntmps61
      go_wp2_with (go_at_call 61; rw [HD.out]; refine (IH.out _).mono ?_; rintro e w' ⟨rfl, hb⟩)
      go_ret
      refine ⟨?_, ((Below.refl _ _).alloc (Nat.le_refl _) _).trans (hb.mono (by simp))⟩
      rw [HB.out]
      show Ending.returned (.string (⟨(Lib.decDigits (u / 10)).toArray⟩ ++ ⟨#[lastDigit u]⟩)) = _
      rw [show ((⟨(Lib.decDigits (u / 10)).toArray⟩ : ByteArray) ++ ⟨#[lastDigit u]⟩) = ⟨(Lib.decDigits (u / 10) ++ [lastDigit u]).toArray⟩ from by apply ByteArray.ext; simp]

theorem digits_len2 {u : Nat} (h : u ≤ 9223372036854775808) : (Lib.decDigits u).length ≤ 42 := by
  by_cases h1 : u < 10
  · rw [Lib.decDigits_one h1]; simp
  · rw [decDigits_big h1]
    have := digits_len (u := u) (by omega)
    simp; omega
set_option maxHeartbeats 400000 in
theorem rdigits_any (n : Int) (h0 : -9223372036854775808 ≤ n) (h1 : n ≤ 9223372036854775807) (w : World) :
    Calls Tryd.prog 51 #[.int .i64 n] w fun e w' => e = .returned (.string ⟨(Lib.itoa n).toArray⟩) ∧ Below w.heap.size w w' := by
  by_cases hn : n < 0
  · have HN := Lib.hid (show -(n + 1) + 1 = ((n.natAbs : Nat) : Int) from by omega)
    have HI := Lib.hid (show Lib.itoa n = 45 :: Lib.decDigits n.natAbs from by unfold Lib.itoa; rw [if_pos hn])
    have hl := digits_len2 (u := n.natAbs) (by omega)
    have C := Lib.hid (fun w => ahead_any n.natAbs (by omega) w)
    go_enter Tryd.func51, Tryd.ntmps51
    go_wp2_with (go_at_call 61; rw [HN.out]; refine (C.out _).mono ?_; rintro e w' ⟨rfl, hb⟩)
    go_ret
    refine ⟨?_, hb⟩
    rw [HI.out]
    show Ending.returned (.string (⟨#[45]⟩ ++ ⟨(Lib.decDigits n.natAbs).toArray⟩)) = _
    rw [show ((⟨#[45]⟩ : ByteArray) ++ ⟨(Lib.decDigits n.natAbs).toArray⟩) = ⟨(45 :: Lib.decDigits n.natAbs).toArray⟩ from by apply ByteArray.ext; simp]
  · obtain ⟨m, rfl⟩ := Int.eq_ofNat_of_zero_le (Int.not_lt.1 hn)
    have HI := Lib.hid (Lib.itoa_nonneg m)
    have C := Lib.hid (fun w => ahead_any m (by omega) w)
    go_enter Tryd.func51, Tryd.ntmps51
    go_wp2_with (go_at_call 61; refine (C.out _).mono ?_; rintro e w' ⟨rfl, hb⟩)
    go_ret
    refine ⟨?_, hb⟩
    rw [HI.out]; rfl

theorem num_bad {l : List UInt8} {v : Int} (h : Lib.atoiAll l = .ok v) (hv : ¬ (0 ≤ v ∧ v ≤ 999)) : numOf l = none := by
  cases hn : numOf l with
  | none => rfl
  | some m =>
    obtain ⟨h1, h2⟩ := numOf_some hn
    subst h2
    have e := Lib.NumEnd.ok.inj ((atoi_digits h1).symm.trans h)
    omega
theorem num_err {l : List UInt8} (h : ∀ v, Lib.atoiAll l ≠ .ok v) : numOf l = none := by
  cases hn : numOf l with
  | none => rfl
  | some m =>
    obtain ⟨h1, h2⟩ := numOf_some hn
    exact absurd (h2 ▸ atoi_digits h1) (h _)
theorem num_other {l : List UInt8} {v : Int} (h : Lib.atoiAll l = .ok v) (hv : Lib.itoa v ≠ l) : numOf l = none := by
  cases hn : numOf l with
  | none => rfl
  | some m =>
    obtain ⟨h1, h2⟩ := numOf_some hn
    subst h2
    have e := Lib.NumEnd.ok.inj ((atoi_digits h1).symm.trans h)
    subst e
    exact absurd (Lib.itoa_nonneg m) hv
theorem num_good {l : List UInt8} {v : Int} (h0 : 0 ≤ v) (h1 : v ≤ 999) (hv : Lib.itoa v = l) : numOf l = some v.toNat := by
  obtain ⟨m, rfl⟩ := Int.eq_ofNat_of_zero_le h0
  rw [Lib.itoa_nonneg] at hv
  rw [← hv]
  exact numOf_digits (by omega)
theorem numVal_none {l : List UInt8} (h : numOf l = none) : numVal l = 0 := by unfold numVal; rw [h]; rfl
theorem isNum_none {l : List UInt8} (h : numOf l = none) : isNum l = false := by unfold isNum; rw [h]; rfl
theorem numVal_some {l : List UInt8} {n : Nat} (h : numOf l = some n) : numVal l = n := by unfold numVal; rw [h]; rfl
theorem isNum_some {l : List UInt8} {n : Nat} (h : numOf l = some n) : isNum l = true := by unfold isNum; rw [h]; rfl

/-- What Number answers of a text. -/
def numEnd (s : ByteArray) : Ending := .returned (.tuple #[.int .i64 (numVal s.data.toList), .bool (isNum s.data.toList)])
theorem numEnd_none {s : ByteArray} (h : numOf s.data.toList = none) : Ending.returned (.tuple #[.int .i64 0, .bool false]) = numEnd s := by
  unfold numEnd; rw [numVal_none h, isNum_none h]
theorem numEnd_some {s : ByteArray} {n : Nat} (h : numOf s.data.toList = some n) : Ending.returned (.tuple #[.int .i64 n, .bool true]) = numEnd s := by
  unfold numEnd; rw [numVal_some h, isNum_some h]

theorem below_bytes {w w' : World} (h : w' = w ∨ ∃ t, w' = Lib.bytesWorld w 5 t) : Below w.heap.size w w' := by
  rcases h with rfl | ⟨t, rfl⟩
  · exact Below.refl _ _
  · exact Lib.bytesWorld_below _ _ _

set_option maxHeartbeats 400000 in
theorem number_any (s : ByteArray) (hs : s.size ≤ 281474976710656) (w : World) (hT : Tabs w) :
    Calls Tryd.prog 49 #[.string s] w fun e w' => e = numEnd s ∧ Below w.heap.size w w' := by
  have HT := Lib.hid hT
  cases ha : Lib.atoiAll s.data.toList with
  | ok v =>
    have C := Lib.hid (Tryd.strconv_Atoi_ok s (by omega) v ha w)
    have hb := Lib.atoiAll_bounds ha
    have HA := Lib.hid ha
    clear ha hT
    by_cases hv : 0 ≤ v ∧ v ≤ 999
    · have D := Lib.hid (fun w (hT : Tabs w) => digits_any v hb.1 hb.2 w hT)
      obtain ⟨v, rfl⟩ := Int.eq_ofNat_of_zero_le hv.1
      by_cases he : Lib.itoa v = s.data.toList
      · have hq : (Lib.itoa v == s.toList) = true := by rw [beq_iff_eq, he, ByteArray.toList_eq]
        have HE := Lib.hid he
        clear he
        go_enter Tryd.func49, Tryd.ntmps49
        go_wp2_with (first | (go_at_call 59; refine C.out.mono ?_; rintro e w1 ⟨rfl, hw⟩; replace hw := below_bytes hw) | (go_at_call 60; refine (D.out _ (HT.out.below (by assumption))).mono ?_; rintro e w2 ⟨rfl, hw2⟩))
        go_ret2
        exact ⟨numEnd_some (num_good hv.1 hv.2 HE.out), hw.trans (hw2.mono hw.size)⟩
      · have hq : (Lib.itoa v == s.toList) = false := by rw [beq_eq_false_iff_ne, ByteArray.toList_eq]; exact he
        have HE := Lib.hid he
        clear he
        go_enter Tryd.func49, Tryd.ntmps49
        go_wp2_with (first | (go_at_call 59; refine C.out.mono ?_; rintro e w1 ⟨rfl, hw⟩; replace hw := below_bytes hw) | (go_at_call 60; refine (D.out _ (HT.out.below (by assumption))).mono ?_; rintro e w2 ⟨rfl, hw2⟩))
        go_ret2
        exact ⟨numEnd_none (num_other HA.out HE.out), hw.trans (hw2.mono hw.size)⟩
    · go_enter Tryd.func49, Tryd.ntmps49
      go_wp2_with (go_at_call 59; refine C.out.mono ?_; rintro e w1 ⟨rfl, hw⟩; replace hw := below_bytes hw)
      all_goals go_ret2
      all_goals exact ⟨numEnd_none (num_bad HA.out hv), hw⟩
  | range =>
    obtain ⟨tp, p, hv⟩ := hT.eRng
    have C := Lib.hid (Tryd.strconv_Atoi_range_var s hs ha tp p w hv)
    have HN := Lib.hid (num_err (l := s.data.toList) (fun v => by rw [ha]; exact fun e => by cases e))
    clear ha hT hv
    go_enter Tryd.func49, Tryd.ntmps49
    go_wp2_with (go_at_call 59; refine C.out.mono ?_; rintro e w1 ⟨N, rfl, _, _, hw⟩)
    go_ret2
    exact ⟨numEnd_none HN.out, hw⟩
  | _ =>
    obtain ⟨tp, p, hv⟩ := hT.eSyn
    have C := Lib.hid (atoi_bad s hs (fun v e => by rw [ha] at e; cases e) (fun e => by rw [ha] at e; cases e) tp p w hv)
    have HN := Lib.hid (num_err (l := s.data.toList) (fun v => by rw [ha]; exact fun e => by cases e))
    clear ha hT hv
    go_enter Tryd.func49, Tryd.ntmps49
    go_wp2_with (go_at_call 59; refine C.out.mono ?_; rintro e w1 ⟨N, rfl, hw⟩)
    go_ret2
    exact ⟨numEnd_none HN.out, hw⟩


/-- None of the first k numbers has these digits. -/
def NoneYet (l : List UInt8) (k : Nat) : Prop := ∀ j, j < k → Lib.decDigits j ≠ l
theorem NoneYet.succ {l : List UInt8} {k : Nat} (h : NoneYet l k) (hk : Lib.decDigits k ≠ l) : NoneYet l (k + 1) := by
  intro j hj
  by_cases e : j = k
  · rw [e]; exact hk
  · exact h j (by omega)
theorem NoneYet.none {l : List UInt8} (h : NoneYet l 1000) : numOf l = none := by
  cases hn : numOf l with
  | none => rfl
  | some m => exact absurd (numOf_some hn).2 (h m (by have := (numOf_some hn).1; omega))
theorem num_here {l : List UInt8} {k : Nat} (hk : k ≤ 999) (h : Lib.decDigits k = l) : numOf l = some k := by rw [← h]; exact numOf_digits hk

set_option maxHeartbeats 400000 in
theorem rnumber_any (s : ByteArray) (w : World) :
    Calls Tryd.prog 33 #[.string s] w fun e w' => e = numEnd s ∧ Below w.heap.size w w' := by
  go_enter Tryd.func33, Tryd.ntmps33
  go_wp2
  go_loopw [4] (fun i wr => ∃ k : Nat, k ≤ 1000 ∧ i = .int .i64 k ∧ NoneYet s.data.toList k ∧ Below w.heap.size w wr) (fun i _ => 1000 - (intOf i).toNat)
  case atStart => exact ⟨0, by omega, rfl, (fun j hj => by omega), Below.refl _ _⟩
  case round =>
    obtain ⟨k, hk, rfl, hnone, hb⟩ := hrel
    have HN := Lib.hid hnone
    clear hnone
    by_cases hlt : k ≤ 999
    · have D := Lib.hid (fun w => rdigits_any (k : Int) (by omega) (by omega) w)
      have HI := Lib.hid (Lib.itoa_nonneg k)
      by_cases he : Lib.decDigits k = s.data.toList
      · have hq : (Lib.itoa k == s.toList) = true := by rw [beq_iff_eq, Lib.itoa_nonneg, he, ByteArray.toList_eq]
        have HE := Lib.hid he
        clear he
        go_wp2_with (go_at_call 51; refine (D.out _).mono ?_; rintro e w2 ⟨rfl, hw2⟩)
        go_ret2
        exact ⟨numEnd_some (num_here hlt HE.out), hb.trans (hw2.mono hb.size)⟩
      · have hq : (Lib.itoa k == s.toList) = false := by rw [beq_eq_false_iff_ne, Lib.itoa_nonneg, ByteArray.toList_eq]; exact he
        have HE := Lib.hid he
        clear he
        go_wp2_with (go_at_call 51; refine (D.out _).mono ?_; rintro e w2 ⟨rfl, hw2⟩)
        go_roundw
        case rel => exact ⟨k + 1, by omega, by go_num, HN.out.succ HE.out, hb.trans (hw2.mono hb.size)⟩
        case measure => simp [intOf]; omega
    · obtain rfl : k = 1000 := by omega
      go_wp2
      go_ret2
      exact ⟨numEnd_none HN.out.none, hb⟩
end Go.Proofs.YtljkaaliagppdaaDoor
