/-
  Words, and the rows of texts that they are looked for in: what Word, Upper, Key and Keys of package chars answer, and the same of the reference. Each call makes new memory alone.
-/
import Derived.Test.YtljkaaliagppdaaDoorNumber
import Derived.Deep.QuietTactic
import Derived.BigQuiet
namespace Go.Proofs.YtljkaaliagppdaaDoor
open Go.RowKit

/-- A slice value that reads as a list of texts. -/
def Strs (w : World) (v : Value) (zs : List ByteArray) : Prop :=
  ∃ a c, v = .slice a zs.length c ∧ zs.length ≤ 9223372036854775806 ∧ (zs = [] ∨ ∃ b off, a = some ⟨b, off, none⟩ ∧ b < w.heap.size ∧ ∀ j, j < zs.length → w.cell? ⟨b, off + j, none⟩ = some (.string (zs.getD j ByteArray.empty)))

theorem Strs.below {w w' : World} {v : Value} {zs : List ByteArray} (h : Strs w v zs) (hb : Below w.heap.size w w') : Strs w' v zs := by
  obtain ⟨a, c, hv, hl, h⟩ := h
  refine ⟨a, c, hv, hl, ?_⟩
  rcases h with h | ⟨b, off, ha, hlt, hc⟩
  · exact .inl h
  · exact .inr ⟨b, off, ha, Nat.lt_of_lt_of_le hlt hb.size, fun j hj => by rw [hb.cell (p := ⟨b, off + j, none⟩) hlt]; exact hc j hj⟩

/-- The words that begin items. -/
def keyList : List ByteArray := [⟨#[102, 117, 110]⟩, ⟨#[110, 97, 109, 101]⟩, ⟨#[114, 117, 108, 101]⟩, ⟨#[102, 114, 97, 109, 101]⟩, ⟨#[100, 101, 100, 117, 99, 101]⟩, ⟨#[101, 113, 117, 105, 118]⟩, ⟨#[110, 111, 114, 109, 97, 108]⟩, ⟨#[117, 115, 101]⟩]

theorem strs_alloc (w : World) (zs : List ByteArray) (t : TypeId) (hn : zs.length ≤ 9223372036854775806) :
    Strs (w.alloc (.cells (zs.map Value.string).toArray t)) (.slice (some ⟨w.heap.size, 0, none⟩) zs.length zs.length) zs := by
  refine ⟨_, _, rfl, hn, .inr ⟨w.heap.size, 0, rfl, by simp, fun j hj => ?_⟩⟩
  have e := World.cell?_alloc_mark w (zs.map Value.string).toArray t (0, 0) (0 + j)
  rw [e]
  simp [hj]

set_option maxHeartbeats 400000 in
theorem keys_any (w : World) :
    Calls Tryd.prog 58 #[] w fun e w' => ∃ v, e = .returned v ∧ Strs w' v keyList ∧ Below w.heap.size w w' := by
  go_enter Tryd.func58, Tryd.ntmps58
  go_wp2
  go_ret
  exact ⟨_, rfl, strs_alloc w keyList 9 (by decide), (Below.refl _ _).alloc (Nat.le_refl _) _⟩
set_option maxHeartbeats 400000 in
theorem rkeys_any (w : World) :
    Calls Tryd.prog 37 #[] w fun e w' => ∃ v, e = .returned v ∧ Strs w' v keyList ∧ Below w.heap.size w w' := by
  go_enter Tryd.func37, Tryd.ntmps37
  go_wp2
  go_ret
  exact ⟨_, rfl, strs_alloc w keyList 9 (by decide), (Below.refl _ _).alloc (Nat.le_refl _) _⟩


theorem contains_any (v : Value) (zs : List ByteArray) (x : ByteArray) (w : World) (hv : Strs w v zs) :
    Calls Tryd.prog 57 #[v, .string x] w fun e w' => e = .returned (.bool (Lib.containsS zs x)) ∧ w = w' := by
  obtain ⟨a, c, rfl, hl, h⟩ := hv
  rcases h with rfl | ⟨b, off, rfl, hlt, hc⟩
  · refine (Tryd.slices_Contains_string_empty a c x w).mono ?_
    rintro e w' ⟨rfl, rfl⟩
    exact ⟨rfl, rfl⟩
  · refine (Tryd.slices_Contains_string b off zs.length c zs x w (Nat.le_refl _) (by omega) hc).mono ?_
    rintro e w' ⟨rfl, rfl⟩
    rw [List.take_length]
    exact ⟨rfl, rfl⟩

set_option maxHeartbeats 400000 in
theorem key_any (s : ByteArray) (w : World) :
    Calls Tryd.prog 46 #[.string s] w fun e w' => e = .returned (.bool (Lib.containsS keyList s)) ∧ Below w.heap.size w w' := by
  go_enter Tryd.func46, Tryd.ntmps46
  go_wp2_with (first | (go_at_call 58; refine (keys_any _).mono ?_; rintro e w1 ⟨v, rfl, hv, hb⟩; replace hv := Lib.hid hv) | (go_at_call 57; refine (contains_any _ _ _ _ (Hid.out (by assumption))).mono ?_; rintro e w2 ⟨rfl, rfl⟩))
  go_ret
  exact ⟨rfl, hb⟩

/-- x isn't among the first k. -/
def NotYet (zs : List ByteArray) (x : ByteArray) (k : Nat) : Prop := ∀ j, j < k → zs.getD j ByteArray.empty ≠ x
theorem NotYet.succ {zs : List ByteArray} {x : ByteArray} {k : Nat} (h : NotYet zs x k) (hk : zs.getD k ByteArray.empty ≠ x) : NotYet zs x (k + 1) := by
  intro j hj
  by_cases e : j = k
  · rw [e]; exact hk
  · exact h j (by omega)
theorem NotYet.all {zs : List ByteArray} {x : ByteArray} (h : NotYet zs x zs.length) : Lib.containsS zs x = false := by
  rw [← Bool.not_eq_true, Lib.containsS_iff]
  intro hm
  obtain ⟨j, hj, e⟩ := List.getElem_of_mem hm
  exact h j hj (by simpa [List.getD, hj] using e)
theorem contains_here {zs : List ByteArray} {x : ByteArray} {k : Nat} (hk : k < zs.length) (h : zs[k] = x) : Lib.containsS zs x = true := by
  rw [Lib.containsS_iff, ← h]; exact List.getElem_mem _

set_option maxHeartbeats 400000 in
theorem rin_any (v : Value) (zs : List ByteArray) (x : ByteArray) (w : World) (hv : Strs w v zs) :
    Calls Tryd.prog 36 #[v, .string x] w fun e w' => e = .returned (.bool (Lib.containsS zs x)) ∧ w = w' := by
  obtain ⟨a, c, rfl, hl, h⟩ := hv
  rcases h with rfl | ⟨b, off, rfl, hlt, hc⟩
  · go_enter Tryd.func36, Tryd.ntmps36
    go_wp2
    refine wp_loop_rounds 1 ?_; rw [rounds_succ]
    go_wp2
    go_ret
    exact ⟨rfl, rfl⟩
  · have HC := Lib.hid hc
    clear hc
    go_enter Tryd.func36, Tryd.ntmps36
    go_wp2
    go_loop [9] (fun i => ∃ k : Nat, k ≤ zs.length ∧ i = .int .i64 k ∧ NotYet zs x k) (fun i => zs.length - (intOf i).toNat)
    case atStart => exact ⟨0, Nat.zero_le _, rfl, (fun j hj => by omega)⟩
    case round =>
      obtain ⟨k, hk, rfl, hne⟩ := hrel
      have HN := Lib.hid hne
      clear hne
      by_cases hlt : k < zs.length
      · have hcell : w.cell? ⟨b, off + k, none⟩ = some (.string zs[k]) := by rw [HC.out k hlt]; simp [List.getD, hlt]
        by_cases he : zs[k] = x
        · have hq : (zs[k].toList == x.toList) = true := by rw [Lib.bytes_beq_iff]; exact he
          have HE := Lib.hid he
          clear he
          go_wp2
          go_ret
          exact ⟨ret_bool (contains_here hlt HE.out).symm, rfl⟩
        · have hq : (zs[k].toList == x.toList) = false := by rw [Lib.bytes_beq_false_iff]; exact he
          have HE := Lib.hid (show zs.getD k ByteArray.empty ≠ x from by simpa [List.getD, hlt] using he)
          clear he
          go_wp2
          go_round
          case rel => exact ⟨k + 1, by omega, by go_num, HN.out.succ HE.out⟩
          case measure => simp [intOf]; omega
      · obtain rfl : k = zs.length := by omega
        go_wp2
        go_ret
        exact ⟨ret_bool HN.out.all.symm, rfl⟩

theorem below_drewN {B : Nat} {a w : World} (h : Below B a w) (n : Nat) : Below B a (w.drewN n) := ⟨h.os, h.tape, h.output, h.size, h.block⟩

/-- All bytes of a row may be part of a word. -/
def allPart (l : List UInt8) : Bool := l.all fun c => part (c.toNat : Int)
theorem allPart_snoc (s : ByteArray) (k : Nat) (h : k < s.size) : allPart (s.data.toList.take (k + 1)) = (allPart (s.data.toList.take k) && part (s[k].toNat : Int)) := by
  rw [take_snoc s k h]; unfold allPart; rw [List.all_append]; simp
theorem allPart_bad (s : ByteArray) (k : Nat) (h : k < s.size) (hp : part (s[k].toNat : Int) = false) : allPart s.data.toList = false := by
  unfold allPart
  rw [← Bool.not_eq_true, List.all_eq_true]
  intro hall
  have := hall s[k] (by rw [show s[k] = s.data.toList[k]'(by simpa using h) from rfl]; exact List.getElem_mem _)
  rw [hp] at this; cases this

set_option maxHeartbeats 400000 in
theorem rparts_any (s : ByteArray) (hs : s.size ≤ 9223372036854775806) (w : World) :
    Calls Tryd.prog 52 #[.string s] w fun e w' => e = .returned (.bool (allPart s.data.toList)) ∧ w = w' := by
  go_enter Tryd.func52, Tryd.ntmps52
  go_wp2
  go_loop [3] (fun i => ∃ k : Nat, k ≤ s.size ∧ i = .int .i64 k ∧ allPart (s.data.toList.take k) = true) (fun i => s.size - (intOf i).toNat)
  case atStart => exact ⟨0, Nat.zero_le _, rfl, rfl⟩
  case round =>
    obtain ⟨k, hk, rfl, ha⟩ := hrel
    have HA := Lib.hid ha
    clear ha
    by_cases hlt : k < s.size
    · cases hp : part (s[k].toNat : Int) with
      | true =>
        have HP := Lib.hid hp
        clear hp
        go_wp2_with (go_at_call 50; refine (rpart_any _ _).mono ?_; rintro e w' ⟨rfl, rfl⟩; rw [HP.out])
        go_round
        case rel => exact ⟨k + 1, by omega, by go_num, by rw [allPart_snoc s k hlt, HA.out, HP.out]; rfl⟩
        case measure => simp [intOf]; omega
      | false =>
        have HP := Lib.hid hp
        clear hp
        go_wp2_with (go_at_call 50; refine (rpart_any _ _).mono ?_; rintro e w' ⟨rfl, rfl⟩; rw [HP.out])
        go_ret
        exact ⟨ret_bool (allPart_bad s k hlt HP.out).symm, rfl⟩
    · go_wp2
      go_ret
      refine ⟨ret_bool ?_, rfl⟩
      have e : k = s.size := by omega
      have h := HA.out
      rw [e, take_all] at h
      rw [h]

/-- Whether byte k of s may stand where it does, in a word that begins with a byte of class f. -/
def fitAt (s : ByteArray) (f : Int) (k : Nat) : Bool := if k = 0 then (cls ((s.data.toList.getD k 0).toNat : Int) == f) else part ((s.data.toList.getD k 0).toNat : Int)
theorem fitAt_zero {s : ByteArray} {f : Int} (h : 0 < s.size) : fitAt s f 0 = (cls (s[0].toNat : Int) == f) := by
  unfold fitAt; rw [if_pos rfl]
  have : s.data.toList.getD 0 0 = s[0] := by rw [List.getD, List.getElem?_eq_getElem (by simpa using h)]; rfl
  rw [this]
theorem fitAt_next {s : ByteArray} {f : Int} {k : Nat} (h : k < s.size) (hk : k ≠ 0) : fitAt s f k = part (s[k].toNat : Int) := by
  unfold fitAt; rw [if_neg hk]
  have : s.data.toList.getD k 0 = s[k] := by rw [List.getD, List.getElem?_eq_getElem (by simpa using h)]; rfl
  rw [this]

set_option maxHeartbeats 400000 in
theorem fits_any (s : ByteArray) (f : Int) (k : Nat) (hk : k < s.size) (hs : s.size ≤ 9223372036854775806) (w : World) :
    Calls Tryd.prog 69 #[.agg #[.string s, .int .i64 f], .int .i64 k] w fun e w' => e = .returned (.bool (fitAt s f k)) ∧ Below w.heap.size w w' := by
  by_cases h0 : k = 0
  · subst h0
    have hq : (((0 : Nat) : Int) == 0) = true := rfl
    have HF := Lib.hid (fitAt_zero (f := f) hk)
    have hi : (0 : Int) < (s.size : Int) := by omega
    go_enter Tryd.func69, Tryd.ntmps69
    go_wp2_with fail
    go_quiet ((go_at_call 19; exact Calls.quiet_of_same ((class_any _ _).mono fun e w' h => ⟨h.1, h.2.symm⟩)))
    go_wp2
    go_ret
    exact ⟨ret_bool HF.out.symm, below_drewN ((Below.refl _ _).alloc (Nat.le_refl _) _) _⟩
  · have hq : ((k : Int) == 0) = false := by rw [beq_eq_false_iff_ne]; omega
    have HF := Lib.hid (fitAt_next (f := f) hk h0)
    clear h0
    go_enter Tryd.func69, Tryd.ntmps69
    go_wp2_with (go_at_call 48; refine (part_any _ _).mono ?_; rintro e w' ⟨rfl, rfl⟩)
    go_ret
    exact ⟨ret_bool HF.out.symm, (Below.refl _ _).alloc (Nat.le_refl _) _⟩

/-- The first k bytes of s may stand where they do. -/
def FitsTo (s : ByteArray) (f : Int) (k : Nat) : Prop := ∀ j, j < k → fitAt s f j = true
theorem FitsTo.succ {s : ByteArray} {f : Int} {k : Nat} (h : FitsTo s f k) (hk : fitAt s f k = true) : FitsTo s f (k + 1) := by
  intro j hj
  by_cases e : j = k
  · rw [e]; exact hk
  · exact h j (by omega)
/-- All bytes of s may stand where they do. -/
def fitsAll (s : ByteArray) (f : Int) : Bool := (List.range s.size).all fun j => fitAt s f j
theorem FitsTo.all {s : ByteArray} {f : Int} (h : FitsTo s f s.size) : fitsAll s f = true := by
  unfold fitsAll; rw [List.all_eq_true]; intro j hj; exact h j (List.mem_range.1 hj)
theorem fitsAll_bad {s : ByteArray} {f : Int} {k : Nat} (hk : k < s.size) (h : fitAt s f k = false) : fitsAll s f = false := by
  unfold fitsAll; rw [← Bool.not_eq_true, List.all_eq_true]; intro hall
  have := hall k (List.mem_range.2 hk)
  rw [h] at this; cases this

set_option maxHeartbeats 400000 in
theorem every_any (s : ByteArray) (f : Int) (hs : s.size ≤ 9223372036854775806) (w : World) :
    Calls Tryd.prog 68 #[.int .i64 s.size, .func (Fn.func 69) #[.agg #[.string s, .int .i64 f]] #[]] w fun e w' => e = .returned (.bool (fitsAll s f)) ∧ Below w.heap.size w w' := by
  go_enter Tryd.func68, Tryd.ntmps68
  go_wp2
  go_loopw [7] (fun i wr => ∃ k : Nat, k ≤ s.size ∧ i = .int .i64 k ∧ FitsTo s f k ∧ Below w.heap.size w wr) (fun i _ => s.size - (intOf i).toNat)
  case atStart => exact ⟨0, Nat.zero_le _, rfl, (fun j hj => by omega), Below.refl _ _⟩
  case round =>
    obtain ⟨k, hk, rfl, ha, hb⟩ := hrel
    have HA := Lib.hid ha
    clear ha
    by_cases hlt : k < s.size
    · cases hp : fitAt s f k with
      | true =>
        have HP := Lib.hid hp
        clear hp
        go_wp2_with (go_at_call 69; refine (fits_any s f k hlt hs _).mono ?_; rintro e w' ⟨rfl, hb2⟩; rw [HP.out])
        go_roundw
        case rel => exact ⟨k + 1, by omega, by go_num, HA.out.succ HP.out, hb.trans (hb2.mono hb.size)⟩
        case measure => simp [intOf]; omega
      | false =>
        have HP := Lib.hid hp
        clear hp
        go_wp2_with (go_at_call 69; refine (fits_any s f k hlt hs _).mono ?_; rintro e w' ⟨rfl, hb2⟩; rw [HP.out])
        go_ret
        exact ⟨ret_bool (fitsAll_bad hlt HP.out).symm, hb.trans (hb2.mono hb.size)⟩
    · obtain rfl : k = s.size := by omega
      go_wp2
      go_ret
      exact ⟨ret_bool HA.out.all.symm, hb⟩

/-- A text is put together as a word that begins with a byte of class f. -/
def speltB (s : ByteArray) (f : Int) : Bool := decide (1 ≤ s.size ∧ s.size ≤ 20) && fitsAll s f
theorem toList_empty {s : ByteArray} (h : s.size = 0) : s.toList = [] := by
  rw [ByteArray.toList_eq]; exact List.eq_nil_of_length_eq_zero (by simpa using h)
theorem toList_some {s : ByteArray} (h : 1 ≤ s.size) : s.toList.isEmpty = false := by
  rw [ByteArray.toList_eq]
  cases hd : s.data.toList with
  | nil =>
    have : s.size = 0 := by
      have := congrArg List.length hd
      simpa using this
    omega
  | cons c r => rfl

set_option maxHeartbeats 400000 in
theorem spelt_any (s : ByteArray) (f : Int) (hs : s.size ≤ 9223372036854775806) (w : World) :
    Calls Tryd.prog 56 #[.string s, .int .i64 f] w fun e w' => e = .returned (.bool (speltB s f)) ∧ Below w.heap.size w w' := by
  by_cases h0 : 1 ≤ s.size
  · have h3 := toList_some h0
    have h4 : (s.toList == []) = false := by rw [beq_eq_false_iff_ne]; intro e; rw [e] at h3; cases h3
    by_cases h1 : s.size ≤ 20
    · have HF := Lib.hid (show speltB s f = fitsAll s f from by unfold speltB; rw [decide_eq_true ⟨h0, h1⟩]; rfl)
      have C := Lib.hid (fun w => every_any s f hs w)
      go_enter Tryd.func56, Tryd.ntmps56
      go_wp2_with (go_at_call 68; refine (C.out _).mono ?_; rintro e w' ⟨rfl, hb⟩)
      go_ret
      exact ⟨ret_bool HF.out.symm, hb⟩
    · have HF := Lib.hid (show speltB s f = false from by unfold speltB; rw [decide_eq_false (by omega)]; rfl)
      go_enter Tryd.func56, Tryd.ntmps56
      go_wp2_with fail
      go_ret
      exact ⟨ret_bool HF.out.symm, Below.refl _ _⟩
  · have HF := Lib.hid (show speltB s f = false from by unfold speltB; rw [decide_eq_false (by omega)]; rfl)
    have h3 := toList_empty (s := s) (by omega)
    have h4 : (s.toList == []) = true := by rw [h3]; rfl
    have h5 : s.toList.isEmpty = true := by rw [h3]; rfl
    have H3 := Lib.hid h3
    clear h3 h0
    go_enter Tryd.func56, Tryd.ntmps56
    go_wp2_with fail
    go_ret
    exact ⟨ret_bool HF.out.symm, Below.refl _ _⟩

/-- A word; a variable's word. -/
def wordB (s : ByteArray) : Bool := speltB s 1 && !Lib.containsS keyList s
def upperB (s : ByteArray) : Bool := speltB s 2 && !Lib.containsS keyList s

set_option maxHeartbeats 400000 in
theorem word_any (s : ByteArray) (hs : s.size ≤ 9223372036854775806) (w : World) :
    Calls Tryd.prog 45 #[.string s] w fun e w' => e = .returned (.bool (wordB s)) ∧ Below w.heap.size w w' := by
  have HW := Lib.hid (show wordB s = (speltB s 1 && !Lib.containsS keyList s) from rfl)
  have C := Lib.hid (fun w => spelt_any s 1 hs w)
  have K := Lib.hid (fun w => key_any s w)
  cases hp : speltB s 1 with
  | true =>
    have HP := Lib.hid hp
    clear hp
    go_enter Tryd.func45, Tryd.ntmps45
    go_wp2_with (first | (go_at_call 56; refine (C.out _).mono ?_; rintro e w1 ⟨rfl, hb⟩; rw [HP.out]) | (go_at_call 46; refine (K.out _).mono ?_; rintro e w2 ⟨rfl, hb2⟩))
    go_ret
    exact ⟨ret_bool (by rw [HW.out, HP.out]; rfl), hb.trans (hb2.mono hb.size)⟩
  | false =>
    have HP := Lib.hid hp
    clear hp
    go_enter Tryd.func45, Tryd.ntmps45
    go_wp2_with (go_at_call 56; refine (C.out _).mono ?_; rintro e w1 ⟨rfl, hb⟩; rw [HP.out])
    go_ret
    exact ⟨ret_bool (by rw [HW.out, HP.out]; rfl), hb⟩
set_option maxHeartbeats 400000 in
theorem upper_any (s : ByteArray) (hs : s.size ≤ 9223372036854775806) (w : World) :
    Calls Tryd.prog 47 #[.string s] w fun e w' => e = .returned (.bool (upperB s)) ∧ Below w.heap.size w w' := by
  have HW := Lib.hid (show upperB s = (speltB s 2 && !Lib.containsS keyList s) from rfl)
  have C := Lib.hid (fun w => spelt_any s 2 hs w)
  have K := Lib.hid (fun w => key_any s w)
  cases hp : speltB s 2 with
  | true =>
    have HP := Lib.hid hp
    clear hp
    go_enter Tryd.func47, Tryd.ntmps47
    go_wp2_with (first | (go_at_call 56; refine (C.out _).mono ?_; rintro e w1 ⟨rfl, hb⟩; rw [HP.out]) | (go_at_call 46; refine (K.out _).mono ?_; rintro e w2 ⟨rfl, hb2⟩))
    go_ret
    exact ⟨ret_bool (by rw [HW.out, HP.out]; rfl), hb.trans (hb2.mono hb.size)⟩
  | false =>
    have HP := Lib.hid hp
    clear hp
    go_enter Tryd.func47, Tryd.ntmps47
    go_wp2_with (go_at_call 56; refine (C.out _).mono ?_; rintro e w1 ⟨rfl, hb⟩; rw [HP.out])
    go_ret
    exact ⟨ret_bool (by rw [HW.out, HP.out]; rfl), hb⟩

theorem allPart_iff (s : ByteArray) : allPart s.data.toList = true ↔ ∀ j (h : j < s.size), part (s[j].toNat : Int) = true := by
  unfold allPart
  rw [List.all_eq_true]
  constructor
  · intro h j hj
    exact h s[j] (by rw [show s[j] = s.data.toList[j]'(by simpa using hj) from rfl]; exact List.getElem_mem _)
  · intro h c hc
    obtain ⟨j, hj, rfl⟩ := List.getElem_of_mem hc
    exact h j (by simpa using hj)
theorem fitsAll_iff (s : ByteArray) (f : Int) : fitsAll s f = true ↔ ∀ j, j < s.size → fitAt s f j = true := by
  unfold fitsAll
  rw [List.all_eq_true]
  exact ⟨fun h j hj => h j (List.mem_range.2 hj), fun h j hj => h j (List.mem_range.1 hj)⟩
theorem part_of_cls {b f : Int} (hf : f = 1 ∨ f = 2) (h : cls b = f) : part b = true := by
  unfold part; rw [decide_eq_true_eq]; left; omega
theorem fits_eq {s : ByteArray} {f : Int} (hf : f = 1 ∨ f = 2) (h0 : 0 < s.size) : fitsAll s f = ((cls (s[0].toNat : Int) == f) && allPart s.data.toList) := by
  rw [Bool.eq_iff_iff, Bool.and_eq_true, fitsAll_iff, allPart_iff, beq_iff_eq]
  constructor
  · intro h
    have h1 := h 0 h0
    rw [fitAt_zero h0, beq_iff_eq] at h1
    refine ⟨h1, fun j hj => ?_⟩
    by_cases e : j = 0
    · subst e; exact part_of_cls hf h1
    · have := h j hj
      rwa [fitAt_next hj e] at this
  · rintro ⟨h1, h2⟩ j hj
    by_cases e : j = 0
    · subst e; rw [fitAt_zero h0, beq_iff_eq]; exact h1
    · rw [fitAt_next hj e]; exact h2 j hj
theorem keys_low : ∀ s ∈ keyList, ∃ h : 0 < s.size, cls (s[0].toNat : Int) = 1 := by
  intro s hs
  simp only [keyList, List.mem_cons, List.not_mem_nil, or_false] at hs
  rcases hs with rfl | rfl | rfl | rfl | rfl | rfl | rfl | rfl
  all_goals exact ⟨by decide, by decide⟩
theorem upper_spelt (s : ByteArray) : upperB s = speltB s 2 := by
  unfold upperB
  cases hk : Lib.containsS keyList s with
  | false => simp
  | true =>
    obtain ⟨h0, h1⟩ := keys_low s ((Lib.containsS_iff _ _).1 hk)
    have : fitsAll s 2 = false := by rw [fits_eq (.inr rfl) h0, h1]; rfl
    unfold speltB; rw [this]; simp

set_option maxHeartbeats 400000 in
theorem rword_any (s : ByteArray) (hs : s.size ≤ 9223372036854775806) (w : World) :
    Calls Tryd.prog 35 #[.string s] w fun e w' => e = .returned (.bool (wordB s)) ∧ Below w.heap.size w w' := by
  by_cases h0 : 1 ≤ s.size
  · by_cases h1 : s.size ≤ 20
    · have hw : wordB s = (((cls (s[0].toNat : Int) == 1) && allPart s.data.toList) && !Lib.containsS keyList s) := by
        unfold wordB speltB; rw [decide_eq_true ⟨h0, h1⟩, fits_eq (.inl rfl) (by omega)]; rfl
      have HW := Lib.hid hw
      clear hw
      have C := Lib.hid (fun b w => rclass_any b w)
      have A := Lib.hid (fun w => rparts_any s hs w)
      have hi : (0 : Int) < (s.size : Int) := by omega
      cases hc : (cls (s[0].toNat : Int) == 1) with
      | false =>
        have HC := Lib.hid hc
        go_enter Tryd.func35, Tryd.ntmps35
        go_wp2_with (go_at_call 21; refine (C.out _ _).mono ?_; rintro e w1 ⟨rfl, rfl⟩)
        go_ret
        exact ⟨ret_bool (by rw [HW.out, HC.out]; rfl), Below.refl _ _⟩
      | true =>
        have HC := Lib.hid hc
        cases hp : allPart s.data.toList with
        | false =>
          have HP := Lib.hid hp
          clear hp
          go_enter Tryd.func35, Tryd.ntmps35
          go_wp2_with (first | (go_at_call 21; refine (C.out _ _).mono ?_; rintro e w1 ⟨rfl, rfl⟩) | (go_at_call 52; refine (A.out _).mono ?_; rintro e w1 ⟨rfl, rfl⟩; rw [HP.out]))
          go_ret
          exact ⟨ret_bool (by rw [HW.out, HC.out, HP.out]; rfl), Below.refl _ _⟩
        | true =>
          have HP := Lib.hid hp
          clear hp
          go_enter Tryd.func35, Tryd.ntmps35
          go_wp2_with (first | (go_at_call 21; refine (C.out _ _).mono ?_; rintro e w1 ⟨rfl, rfl⟩) | (go_at_call 52; refine (A.out _).mono ?_; rintro e w1 ⟨rfl, rfl⟩; rw [HP.out]) | (go_at_call 37; refine (rkeys_any _).mono ?_; rintro e w1 ⟨v, rfl, hv, hb⟩; replace hv := Lib.hid hv) | (go_at_call 36; refine (rin_any _ _ _ _ (Hid.out (by assumption))).mono ?_; rintro e w2 ⟨rfl, rfl⟩))
          go_ret
          exact ⟨ret_bool (by rw [HW.out, HC.out, HP.out]; rfl), hb⟩
    · have HF := Lib.hid (show wordB s = false from by unfold wordB speltB; rw [decide_eq_false (by omega)]; rfl)
      go_enter Tryd.func35, Tryd.ntmps35
      go_wp2_with fail
      go_ret
      exact ⟨ret_bool HF.out.symm, Below.refl _ _⟩
  · have HF := Lib.hid (show wordB s = false from by unfold wordB speltB; rw [decide_eq_false (by omega)]; rfl)
    go_enter Tryd.func35, Tryd.ntmps35
    go_wp2_with fail
    go_ret
    exact ⟨ret_bool HF.out.symm, Below.refl _ _⟩
set_option maxHeartbeats 400000 in
theorem rupper_any (s : ByteArray) (hs : s.size ≤ 9223372036854775806) (w : World) :
    Calls Tryd.prog 34 #[.string s] w fun e w' => e = .returned (.bool (upperB s)) ∧ Below w.heap.size w w' := by
  by_cases h0 : 1 ≤ s.size
  · by_cases h1 : s.size ≤ 20
    · have hw : upperB s = ((cls (s[0].toNat : Int) == 2) && allPart s.data.toList) := by
        rw [upper_spelt]; unfold speltB; rw [decide_eq_true ⟨h0, h1⟩, fits_eq (.inr rfl) (by omega)]; rfl
      have HW := Lib.hid hw
      clear hw
      have C := Lib.hid (fun b w => rclass_any b w)
      have A := Lib.hid (fun w => rparts_any s hs w)
      have hi : (0 : Int) < (s.size : Int) := by omega
      cases hc : (cls (s[0].toNat : Int) == 2) with
      | false =>
        have HC := Lib.hid hc
        go_enter Tryd.func34, Tryd.ntmps34
        go_wp2_with (go_at_call 21; refine (C.out _ _).mono ?_; rintro e w1 ⟨rfl, rfl⟩)
        go_ret
        exact ⟨ret_bool (by rw [HW.out, HC.out]; rfl), Below.refl _ _⟩
      | true =>
        have HC := Lib.hid hc
        go_enter Tryd.func34, Tryd.ntmps34
        go_wp2_with (first | (go_at_call 21; refine (C.out _ _).mono ?_; rintro e w1 ⟨rfl, rfl⟩) | (go_at_call 52; refine (A.out _).mono ?_; rintro e w1 ⟨rfl, rfl⟩))
        go_ret
        exact ⟨ret_bool (by rw [HW.out, HC.out]; rfl), Below.refl _ _⟩
    · have HF := Lib.hid (show upperB s = false from by unfold upperB speltB; rw [decide_eq_false (by omega)]; rfl)
      go_enter Tryd.func34, Tryd.ntmps34
      go_wp2_with fail
      go_ret
      exact ⟨ret_bool HF.out.symm, Below.refl _ _⟩
  · have HF := Lib.hid (show upperB s = false from by unfold upperB speltB; rw [decide_eq_false (by omega)]; rfl)
    go_enter Tryd.func34, Tryd.ntmps34
    go_wp2_with fail
    go_ret
    exact ⟨ret_bool HF.out.symm, Below.refl _ _⟩
end Go.Proofs.YtljkaaliagppdaaDoor
