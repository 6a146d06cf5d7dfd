/-
  The line and the column of a byte of a text: Place of package lex and of the reference, for any text that is short and any number.
-/
import Derived.Test.YtljkaaliagppdaaDoorClass
import Derived.Test.YtljkaaliagppdaaDoorShelf
import Derived.Lib.LastIndexByte
import Derived.WalkSpells
namespace Go.Proofs.YtljkaaliagppdaaDoor
open Go.RowKit

/-- The byte that is meant: cut to 0 and the length. -/
def cutAt (s : ByteArray) (p : Int) : Nat := min p.toNat s.size
/-- The line of byte k, and its column. -/
def lineOf (s : ByteArray) (k : Nat) : Int := (s.data.toList.take k).count 10 + 1
def colOf (s : ByteArray) (k : Nat) : Int := k - Lib.lastIdx s 10 k
theorem bang_at (s : ByteArray) {k : Nat} (h : k < s.size) : s.data[k]! = s[k] := by
  rw [getElem!_pos s.data k h]; rfl
theorem line_next {s : ByteArray} {k : Nat} (h : k < s.size) (hb : (s[k].toNat : Int) = 10) : lineOf s (k + 1) = lineOf s k + 1 := by
  unfold lineOf
  rw [take_snoc s k h, List.count_append]
  have : s[k] = 10 := by apply UInt8.toNat_inj.1; show s[k].toNat = 10; omega
  rw [this]; simp
theorem line_same {s : ByteArray} {k : Nat} (h : k < s.size) (hb : (s[k].toNat : Int) ≠ 10) : lineOf s (k + 1) = lineOf s k := by
  unfold lineOf
  rw [take_snoc s k h, List.count_append]
  have : ¬ s[k] = 10 := by intro e; rw [e] at hb; exact hb rfl
  simp [this]
theorem col_next {s : ByteArray} {k : Nat} (h : k < s.size) (hb : (s[k].toNat : Int) = 10) : colOf s (k + 1) = 1 := by
  unfold colOf
  rw [Lib.lastIdx_hit s 10 k (by rw [bang_at s h]; exact hb)]; omega
theorem col_same {s : ByteArray} {k : Nat} (h : k < s.size) (hb : (s[k].toNat : Int) ≠ 10) : colOf s (k + 1) = colOf s k + 1 := by
  unfold colOf
  rw [Lib.lastIdx_miss s 10 k (by rw [bang_at s h]; exact hb)]; omega
theorem last_bd (s : ByteArray) (k : Nat) : -1 ≤ Lib.lastIdx s 10 k ∧ Lib.lastIdx s 10 k < k := by
  rcases Lib.lastIdx_spec s 10 k with ⟨h, _⟩ | ⟨i, h1, h2, _⟩ <;> omega
theorem col_bd (s : ByteArray) (k : Nat) : 1 ≤ colOf s k ∧ colOf s k ≤ k + 1 := by
  unfold colOf; have := last_bd s k; omega
theorem line_bd (s : ByteArray) (k : Nat) : 1 ≤ lineOf s k ∧ lineOf s k ≤ k + 1 := by
  unfold lineOf
  have h1 := List.count_le_length (a := (10 : UInt8)) (l := s.data.toList.take k)
  have h2 := List.length_take_le k s.data.toList
  omega
theorem last_extract (s : ByteArray) (n : Nat) (hn : n ≤ s.size) : ∀ k, k ≤ n → Lib.lastIdx (s.extract 0 n) 10 k = Lib.lastIdx s 10 k := by
  intro k
  induction k with
  | zero => intro _; rfl
  | succ k ih =>
    intro hk
    have hsz : (s.extract 0 n).size = n := by simp; omega
    have e : (s.extract 0 n).data[k]! = s.data[k]! := by
      rw [getElem!_pos (s.extract 0 n).data k (by show k < (s.extract 0 n).size; omega), getElem!_pos s.data k (by show k < s.size; omega)]
      simp [ByteArray.data_extract]
    by_cases hb : ((s.data[k]!).toNat : Int) = 10
    · rw [Lib.lastIdx_hit s 10 k hb, Lib.lastIdx_hit (s.extract 0 n) 10 k (by rw [e]; exact hb)]
    · rw [Lib.lastIdx_miss s 10 k hb, Lib.lastIdx_miss (s.extract 0 n) 10 k (by rw [e]; exact hb), ih (by omega)]

theorem place_col {s : ByteArray} {n : Nat} (hn : n ≤ s.size) : Lib.lastIndexByte (s.extract 0 n) 10 = n - colOf s n := by
  unfold Lib.lastIndexByte
  rw [show (s.extract 0 n).size = n from by simp; omega, last_extract s n hn n (Nat.le_refl _)]
  unfold colOf; omega
theorem place_line {s : ByteArray} {n : Nat} (_hn : n ≤ s.size) : (Lib.countByte (s.extract 0 n).data.toList 10 : Int) = lineOf s n - 1 := by
  unfold Lib.countByte lineOf
  have : (s.extract 0 n).data.toList = s.data.toList.take n := by simp [ByteArray.data_extract]
  rw [this]; omega

/-- What both answer. -/
def placeEnd (s : ByteArray) (n : Nat) : Ending := .returned (.tuple #[.int .i64 (lineOf s n), .int .i64 (colOf s n)])

set_option maxHeartbeats 400000 in
theorem rplace_any (s : ByteArray) (p : Int) (hs : s.size ≤ 1000000) (w : World) :
    Calls Tryd.prog 18 #[.string s, .int .i64 p] w fun e w' => e = placeEnd s (cutAt s p) ∧ w = w' := by
  go_enter Tryd.func18, Tryd.ntmps18
  go_wp2
  go_loop [6, 7, 8] (fun l c i => ∃ k : Nat, k ≤ cutAt s p ∧ i = .int .i64 k ∧ l = .int .i64 (lineOf s k) ∧ c = .int .i64 (colOf s k)) (fun _ _ i => s.size - (intOf i).toNat)
  case atStart => exact ⟨0, Nat.zero_le _, rfl, rfl, rfl⟩
  case round =>
    obtain ⟨k, hk, rfl, rfl, rfl⟩ := hrel
    have hc := col_bd s k
    have hl := line_bd s k
    have hcut : cutAt s p ≤ s.size := Nat.min_le_right _ _
    have hcut2 : k < cutAt s p → (k : Int) < p := by unfold cutAt; omega
    have hcut3 : ¬ k < cutAt s p → k < s.size → ¬ (k : Int) < p := by unfold cutAt; omega
    by_cases hlt : k < cutAt s p
    · have h1 : k < s.size := by omega
      have h2 := hcut2 hlt
      clear hcut2 hcut3
      by_cases hb : (s[k].toNat : Int) = 10
      · have L := Lib.hid (line_next h1 hb)
        have C := Lib.hid (col_next h1 hb)
        have hq : ((s[k].toNat : Int) == 10) = true := by rw [beq_iff_eq]; exact hb
        clear hb
        obtain ⟨l0, hl0⟩ : ∃ l0, l0 = lineOf s k := ⟨_, rfl⟩
        obtain ⟨c0, hc0⟩ : ∃ c0, c0 = colOf s k := ⟨_, rfl⟩
        rw [← hl0] at hl ⊢
        rw [← hc0] at hc ⊢
        have HL := Lib.hid hl0
        have HC := Lib.hid hc0
        clear hl0 hc0
        go_wp2
        go_round
        case rel => exact ⟨k + 1, by omega, by go_num, by rw [L.out, HL.out], by rw [C.out]⟩
        case measure => simp [intOf]; omega
      · have L := Lib.hid (line_same h1 hb)
        have C := Lib.hid (col_same h1 hb)
        have hq : ((s[k].toNat : Int) == 10) = false := by rw [beq_eq_false_iff_ne]; exact hb
        clear hb
        obtain ⟨l0, hl0⟩ : ∃ l0, l0 = lineOf s k := ⟨_, rfl⟩
        obtain ⟨c0, hc0⟩ : ∃ c0, c0 = colOf s k := ⟨_, rfl⟩
        rw [← hl0] at hl ⊢
        rw [← hc0] at hc ⊢
        have HL := Lib.hid hl0
        have HC := Lib.hid hc0
        clear hl0 hc0
        go_wp2
        go_round
        case rel => exact ⟨k + 1, by omega, by go_num, by rw [L.out, HL.out], by rw [C.out, HC.out]⟩
        case measure => simp [intOf]; omega
    · have hke : k = cutAt s p := by omega
      by_cases hks : k < s.size
      · have h2 := hcut3 hlt hks
        clear hcut2 hcut3
        have HK := Lib.hid hke
        clear hke
        go_wp2
        go_ret2
        exact ⟨by rw [← HK.out]; rfl, rfl⟩
      · clear hcut2 hcut3
        have HK := Lib.hid hke
        clear hke
        go_wp2
        go_ret2
        exact ⟨by rw [← HK.out]; rfl, rfl⟩

set_option maxHeartbeats 400000 in
theorem lplace_any (s : ByteArray) (p : Int) (hs : s.size ≤ 1000000) (w : World) :
    Calls Tryd.prog 17 #[.string s, .int .i64 p] w fun e w' => e = placeEnd s (cutAt s p) ∧ w = w' := by
  obtain ⟨n, hn⟩ : ∃ n, n = cutAt s p := ⟨_, rfl⟩
  have hns : n ≤ s.size := by rw [hn]; exact Nat.min_le_right _ _
  obtain ⟨A, hA⟩ : ∃ A, A = s.extract 0 n := ⟨_, rfl⟩
  have hAs : A.size = n := by rw [hA]; simp; omega
  have hc := col_bd s n
  have hl := line_bd s n
  have L0 := Tryd.strings_LastIndexByte A 10 (by omega) w
  have C0 := Tryd.strings_Count_one A 10 w
  rw [hA, place_col hns, ← hA] at L0
  rw [hA, place_line hns, ← hA] at C0
  have HE := Lib.hid (show placeEnd s (cutAt s p) = .returned (.tuple #[.int .i64 (lineOf s n), .int .i64 (colOf s n)]) from by rw [← hn]; rfl)
  have HX := Lib.hid (show s.extract 0 (min (max p 0) (s.size : Int)).toNat = A from by rw [hA, hn]; unfold cutAt; congr 1; omega)
  generalize colOf s n = c at L0 HE hc
  generalize lineOf s n = l at C0 HE hl
  have L := Lib.hid L0
  have C := Lib.hid C0
  clear L0 C0 hA hn
  go_enter Tryd.func17, Tryd.ntmps17
  go_wp2_with fail
  rw [HX.out]
  refine L.out.mono ?_; rintro e w1 ⟨rfl, rfl⟩
  go_wp2_with fail
  refine C.out.mono ?_; rintro e w2 ⟨rfl, rfl⟩
  go_wp2_with fail
  go_ret2
  refine ⟨?_, rfl⟩
  rw [HE.out]
  show Ending.returned (.tuple #[.int .i64 l, .int .i64 ((n : Int) - ((n : Int) - c + 1) + 1)]) = _
  rw [show (n : Int) - ((n : Int) - c + 1) + 1 = c from by omega]
end Go.Proofs.YtljkaaliagppdaaDoor
