/-
  Digits of the reference of layer 1: a number in decimal. The call makes new memory alone.
-/
import Derived.Test.YtmpaljmkfnpcpaaDoorBase
import Derived.Test.YtmpaljmkfnpcpaaDoorPlain
import Derived.Lib.ItoaLen
namespace Go.Proofs.YtmpaljmkfnpcpaaDoor
open Go.RowKit

def str (l : List UInt8) : Value := .string ⟨l.toArray⟩
theorem ret_str {a b : List UInt8} (h : a = b) : Ending.returned (.string ⟨a.toArray⟩) = .returned (.string ⟨b.toArray⟩) := by rw [h]

/-- The last digit of a number, as a byte. -/
def lastDigit (u : Nat) : UInt8 := UInt8.ofNat (48 + u % 10)
theorem digits_small {u : Nat} (h : u < 10) : Lib.decDigits u = [lastDigit u] := by
  rw [Lib.decDigits_one h]; unfold lastDigit; rw [Nat.mod_eq_of_lt h]
theorem digits_len {u : Nat} (h : u < 18446744073709551616) : (Lib.decDigits (u / 10)).length ≤ 21 := by
  rw [← Lib.itoa_nonneg]
  exact Lib.itoa_length_le _ (by omega) (by omega)
theorem conv_one (w : World) (u : Nat) :
    (convert 47 9 (.slice (some ⟨w.heap.size, 0, none⟩) 1 1)).run Tryd.prog (w.alloc (.cells #[.int .u8 (48 + (u : Int) % 10)] 5)) = .ok (.string ⟨#[lastDigit u]⟩) (w.alloc (.cells #[.int .u8 (48 + (u : Int) % 10)] 5)) := by
  have h := run_convert_bytes_back (P := Tryd.prog) (w.alloc (.cells #[.int .u8 (48 + (u : Int) % 10)] 5)) 47 9 5 ⟨w.heap.size, 0, none⟩ 1 [lastDigit u] Tryd.underlying47 Tryd.underlying5 Tryd.underlying9
    (fun j hj => by
      have : j = 0 := by simp at hj; omega
      subst this
      have e := World.cell?_alloc_mark w #[.int .u8 (48 + (u : Int) % 10)] 5 (0, 0) 0
      show (w.alloc (.cells #[.int .u8 (48 + (u : Int) % 10)] 5)).cell? ⟨w.heap.size, 0, none⟩ = _
      rw [e]
      show some (Value.int .u8 (48 + (u : Int) % 10)) = some (.int .u8 ((UInt8.ofNat (48 + u % 10)).toNat : Int))
      rw [digit_val (by omega)]
      congr 2)
  exact h

set_option maxRecDepth 100000 in
set_option maxHeartbeats 400000 in
theorem ahead_any (u : Nat) (hu : u < 18446744073709551616) : ∀ w : World,
    Calls Tryd.prog 34 #[.int .u64 u] w fun e w' => e = .returned (.string ⟨(Lib.decDigits u).toArray⟩) ∧ Below w.heap.size w w' := by
  induction u using Nat.strongRecOn with
  | ind u ih =>
    intro w
    have hc := conv_one w u
    by_cases h : u < 10
    · have HS := Lib.hid (digits_small h)
      go_enter Tryd.func34, Tryd.ntmps34
      go_wp2_with fail
      go_ret
      refine ⟨?_, (Below.refl _ _).alloc (Nat.le_refl _) _⟩
      rw [HS.out]; rfl
    · have IH := Lib.hid (ih (u / 10) (by omega) (by omega))
      clear ih
      have hd : ((u : Int) / 10) = ((u / 10 : Nat) : Int) := by omega
      have HD := Lib.hid hd
      have HB := Lib.hid (show Lib.decDigits u = Lib.decDigits (u / 10) ++ [lastDigit u] from decDigits_big h)
      have hl := digits_len hu
      clear hd
      go_enter Tryd.func34, Tryd.ntmps34
      go_wp2_with (go_at_call 34; rw [HD.out]; refine (IH.out _).mono ?_; rintro e w' ⟨rfl, hb⟩)
      go_ret
      refine ⟨?_, ((Below.refl _ _).alloc (Nat.le_refl _) _).trans (hb.mono (by simp))⟩
      rw [HB.out]
      show Ending.returned (.string (⟨(Lib.decDigits (u / 10)).toArray⟩ ++ ⟨#[lastDigit u]⟩)) = _
      rw [show ((⟨(Lib.decDigits (u / 10)).toArray⟩ : ByteArray) ++ ⟨#[lastDigit u]⟩) = ⟨(Lib.decDigits (u / 10) ++ [lastDigit u]).toArray⟩ from by apply ByteArray.ext; simp]

theorem digits_len2 {u : Nat} (h : u ≤ 9223372036854775808) : (Lib.decDigits u).length ≤ 42 := by
  by_cases h1 : u < 10
  · rw [Lib.decDigits_one h1]; simp
  · rw [decDigits_big h1]
    have := digits_len (u := u) (by omega)
    simp; omega
set_option maxHeartbeats 400000 in
theorem rdigits_any (n : Int) (h0 : -9223372036854775808 ≤ n) (h1 : n ≤ 9223372036854775807) (w : World) :
    Calls Tryd.prog 22 #[.int .i64 n] w fun e w' => e = .returned (.string ⟨(Lib.itoa n).toArray⟩) ∧ Below w.heap.size w w' := by
  by_cases hn : n < 0
  · have HN := Lib.hid (show -(n + 1) + 1 = ((n.natAbs : Nat) : Int) from by omega)
    have HI := Lib.hid (show Lib.itoa n = 45 :: Lib.decDigits n.natAbs from by unfold Lib.itoa; rw [if_pos hn])
    have hl := digits_len2 (u := n.natAbs) (by omega)
    have C := Lib.hid (fun w => ahead_any n.natAbs (by omega) w)
    go_enter Tryd.func22, Tryd.ntmps22
    go_wp2_with (go_at_call 34; rw [HN.out]; refine (C.out _).mono ?_; rintro e w' ⟨rfl, hb⟩)
    go_ret
    refine ⟨?_, hb⟩
    rw [HI.out]
    show Ending.returned (.string (⟨#[45]⟩ ++ ⟨(Lib.decDigits n.natAbs).toArray⟩)) = _
    rw [show ((⟨#[45]⟩ : ByteArray) ++ ⟨(Lib.decDigits n.natAbs).toArray⟩) = ⟨(45 :: Lib.decDigits n.natAbs).toArray⟩ from by apply ByteArray.ext; simp]
  · obtain ⟨m, rfl⟩ := Int.eq_ofNat_of_zero_le (Int.not_lt.1 hn)
    have HI := Lib.hid (Lib.itoa_nonneg m)
    have C := Lib.hid (fun w => ahead_any m (by omega) w)
    go_enter Tryd.func22, Tryd.ntmps22
    go_wp2_with (go_at_call 34; refine (C.out _).mono ?_; rintro e w' ⟨rfl, hb⟩)
    go_ret
    refine ⟨?_, hb⟩
    rw [HI.out]; rfl
end Go.Proofs.YtmpaljmkfnpcpaaDoor
