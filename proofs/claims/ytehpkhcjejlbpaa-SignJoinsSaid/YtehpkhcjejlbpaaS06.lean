/-
  Whether a text is a word, and one of those that begin items, by package chars. Each call makes new memory alone.
  One function more, by package sign: Add.
  Functions that may stand together up to a place, as data. No function of the program.
  Whether functions may stand together, by package sign: Right.
  Functions as keys of a set: what such a key reads as, and which functions a set has.
  The set that goes with a row of names, as data. No function of the program.
  Sets of functions, by package sign: put, setOf, has; and the function that a term begins with: symbol.
  The first place where a part stands, as data. No function of the program.
  The first place of a part, looked for from within: it is the first of all places, since terms of one size do not lie in one another. No function of the program.
-/
import Derived.Test.YtehpkhcjejlbpaaS01
import Derived.Test.YtehpkhcjejlbpaaS05
import Derived.Test.YtehpkhcjejlbpaaShelf
import Derived.Deep.QuietTactic
import Derived.BigQuiet
import Derived.Test.YtehpkhcjejlbpaaS03
import Derived.Test.YtehpkhcjejlbpaaProg
import Derived.Maps.OwnSet
import Derived.Maps.Views
import Derived.Lib.Hide
import Derived.ProofKit
import Derived.DeepKeys4
import Derived.StringKeys
import Derived.WalkKit
import Derived.WalkMore
import Derived.Test.YtehpkhcjejlbpaaS02
namespace Go.Proofs.Ytehpkhcjejlbpaa
open Go.RowKit

set_option maxHeartbeats 400000 in
theorem keys_any (w : World) :
    Calls Try.prog 55 #[] w fun e w' => ∃ v, e = .returned v ∧ Strs w' v keyList ∧ Below w.heap.size w w' := by
  go_enter Try.func55, Try.ntmps55
  go_wp2
  go_ret
  exact ⟨_, rfl, strs_alloc w keyList 9 (by decide), (Below.refl _ _).alloc (Nat.le_refl _) _⟩
theorem contains_any (v : Value) (zs : List ByteArray) (x : ByteArray) (w : World) (hv : Strs w v zs) :
    Calls Try.prog 54 #[v, .string x] w fun e w' => e = .returned (.bool (Lib.containsS zs x)) ∧ w = w' := by
  obtain ⟨a, c, rfl, hl, h⟩ := hv
  rcases h with rfl | ⟨b, off, rfl, hlt, hc⟩
  · refine (Try.slices_Contains_string_empty a c x w).mono ?_
    rintro e w' ⟨rfl, rfl⟩
    exact ⟨rfl, rfl⟩
  · refine (Try.slices_Contains_string b off zs.length c zs x w (Nat.le_refl _) (by omega) hc).mono ?_
    rintro e w' ⟨rfl, rfl⟩
    rw [List.take_length]
    exact ⟨rfl, rfl⟩
set_option maxHeartbeats 400000 in
theorem key_any (s : ByteArray) (w : World) :
    Calls Try.prog 38 #[.string s] w fun e w' => e = .returned (.bool (Lib.containsS keyList s)) ∧ Below w.heap.size w w' := by
  go_enter Try.func38, Try.ntmps38
  go_wp2_with (first | (go_at_call 55; refine (keys_any _).mono ?_; rintro e w1 ⟨v, rfl, hv, hb⟩; replace hv := Lib.hid hv) | (go_at_call 54; refine (contains_any _ _ _ _ (Hid.out (by assumption))).mono ?_; rintro e w2 ⟨rfl, rfl⟩))
  go_ret
  exact ⟨rfl, hb⟩
set_option maxHeartbeats 400000 in
theorem fits_any (s : ByteArray) (f : Int) (k : Nat) (hk : k < s.size) (hs : s.size ≤ 9223372036854775806) (w : World) :
    Calls Try.prog 53 #[.agg #[.string s, .int .i64 f], .int .i64 k] w fun e w' => e = .returned (.bool (fitAt s f k)) ∧ Below w.heap.size w w' := by
  by_cases h0 : k = 0
  · subst h0
    have hq : (((0 : Nat) : Int) == 0) = true := rfl
    have HF := Lib.hid (fitAt_zero (f := f) hk)
    have hi : (0 : Int) < (s.size : Int) := by omega
    go_enter Try.func53, Try.ntmps53
    go_wp2_with fail
    go_quiet ((go_at_call 59; exact Calls.quiet_of_same ((class_any _ _).mono fun e w' h => ⟨h.1, h.2.symm⟩)))
    go_wp2
    go_ret
    exact ⟨ret_bool HF.out.symm, below_drewN ((Below.refl _ _).alloc (Nat.le_refl _) _) _⟩
  · have hq : ((k : Int) == 0) = false := by rw [beq_eq_false_iff_ne]; omega
    have HF := Lib.hid (fitAt_next (f := f) hk h0)
    clear h0
    go_enter Try.func53, Try.ntmps53
    go_wp2_with (go_at_call 60; refine (part_any _ _).mono ?_; rintro e w' ⟨rfl, rfl⟩)
    go_ret
    exact ⟨ret_bool HF.out.symm, (Below.refl _ _).alloc (Nat.le_refl _) _⟩
set_option maxHeartbeats 400000 in
theorem every_any (s : ByteArray) (f : Int) (hs : s.size ≤ 9223372036854775806) (w : World) :
    Calls Try.prog 52 #[.int .i64 s.size, .func (Fn.func 53) #[.agg #[.string s, .int .i64 f]] #[]] w fun e w' => e = .returned (.bool (fitsAll s f)) ∧ Below w.heap.size w w' := by
  go_enter Try.func52, Try.ntmps52
  go_wp2
  go_loopw [7] (fun i wr => ∃ k : Nat, k ≤ s.size ∧ i = .int .i64 k ∧ FitsTo s f k ∧ Below w.heap.size w wr) (fun i _ => s.size - (intOf i).toNat)
  case atStart => exact ⟨0, Nat.zero_le _, rfl, (fun j hj => by omega), Below.refl _ _⟩
  case round =>
    obtain ⟨k, hk, rfl, ha, hb⟩ := hrel
    have HA := Lib.hid ha
    clear ha
    by_cases hlt : k < s.size
    · cases hp : fitAt s f k with
      | true =>
        have HP := Lib.hid hp
        clear hp
        go_wp2_with (go_at_call 53; refine (fits_any s f k hlt hs _).mono ?_; rintro e w' ⟨rfl, hb2⟩; rw [HP.out])
        go_roundw
        case rel => exact ⟨k + 1, by omega, by go_num, HA.out.succ HP.out, hb.trans (hb2.mono hb.size)⟩
        case measure => simp [intOf]; omega
      | false =>
        have HP := Lib.hid hp
        clear hp
        go_wp2_with (go_at_call 53; refine (fits_any s f k hlt hs _).mono ?_; rintro e w' ⟨rfl, hb2⟩; rw [HP.out])
        go_ret
        exact ⟨ret_bool (fitsAll_bad hlt HP.out).symm, hb.trans (hb2.mono hb.size)⟩
    · obtain rfl : k = s.size := by omega
      go_wp2
      go_ret
      exact ⟨ret_bool HA.out.all.symm, hb⟩
set_option maxHeartbeats 400000 in
theorem spelt_any (s : ByteArray) (f : Int) (hs : s.size ≤ 9223372036854775806) (w : World) :
    Calls Try.prog 37 #[.string s, .int .i64 f] w fun e w' => e = .returned (.bool (speltB s f)) ∧ Below w.heap.size w w' := by
  by_cases h0 : 1 ≤ s.size
  · have h3 := toList_some h0
    have h4 : (s.toList == []) = false := by rw [beq_eq_false_iff_ne]; intro e; rw [e] at h3; cases h3
    by_cases h1 : s.size ≤ 20
    · have HF := Lib.hid (show speltB s f = fitsAll s f from by unfold speltB; rw [decide_eq_true ⟨h0, h1⟩]; rfl)
      have C := Lib.hid (fun w => every_any s f hs w)
      go_enter Try.func37, Try.ntmps37
      go_wp2_with (go_at_call 52; refine (C.out _).mono ?_; rintro e w' ⟨rfl, hb⟩)
      go_ret
      exact ⟨ret_bool HF.out.symm, hb⟩
    · have HF := Lib.hid (show speltB s f = false from by unfold speltB; rw [decide_eq_false (by omega)]; rfl)
      go_enter Try.func37, Try.ntmps37
      go_wp2_with fail
      go_ret
      exact ⟨ret_bool HF.out.symm, Below.refl _ _⟩
  · have HF := Lib.hid (show speltB s f = false from by unfold speltB; rw [decide_eq_false (by omega)]; rfl)
    have h3 := toList_empty (s := s) (by omega)
    have h4 : (s.toList == []) = true := by rw [h3]; rfl
    have h5 : s.toList.isEmpty = true := by rw [h3]; rfl
    have H3 := Lib.hid h3
    clear h3 h0
    go_enter Try.func37, Try.ntmps37
    go_wp2_with fail
    go_ret
    exact ⟨ret_bool HF.out.symm, Below.refl _ _⟩
set_option maxHeartbeats 400000 in
theorem word_any (s : ByteArray) (hs : s.size ≤ 9223372036854775806) (w : World) :
    Calls Try.prog 22 #[.string s] w fun e w' => e = .returned (.bool (wordB s)) ∧ Below w.heap.size w w' := by
  have HW := Lib.hid (show wordB s = (speltB s 1 && !Lib.containsS keyList s) from rfl)
  have C := Lib.hid (fun w => spelt_any s 1 hs w)
  have K := Lib.hid (fun w => key_any s w)
  cases hp : speltB s 1 with
  | true =>
    have HP := Lib.hid hp
    clear hp
    go_enter Try.func22, Try.ntmps22
    go_wp2_with (first | (go_at_call 37; refine (C.out _).mono ?_; rintro e w1 ⟨rfl, hb⟩; rw [HP.out]) | (go_at_call 38; refine (K.out _).mono ?_; rintro e w2 ⟨rfl, hb2⟩))
    go_ret
    exact ⟨ret_bool (by rw [HW.out, HP.out]; rfl), hb.trans (hb2.mono hb.size)⟩
  | false =>
    have HP := Lib.hid hp
    clear hp
    go_enter Try.func22, Try.ntmps22
    go_wp2_with (go_at_call 37; refine (C.out _).mono ?_; rintro e w1 ⟨rfl, hb⟩; rw [HP.out])
    go_ret
    exact ⟨ret_bool (by rw [HW.out, HP.out]; rfl), hb⟩
end Go.Proofs.Ytehpkhcjejlbpaa

namespace Go.Proofs.Ytehpkhcjejlbpaa
open Go.RowKit

theorem fus_one (w : World) (f : Fn) (hf : FnOk f) : Fus (w.alloc (.cells #[.string f.1, .int .i64 f.2] 24)) (.slice (some ⟨w.heap.size, 0, none⟩) 1 1) [f] := by
  refine ⟨_, 1, rfl, by simp, .inr ⟨w.heap.size, 0, rfl, by simp, fun j x hj => ?_⟩⟩
  have h0 : j = 0 := by have hl := (List.getElem?_eq_some_iff.1 hj).1; simp at hl; omega
  subst h0
  obtain rfl : f = x := Option.some.inj hj
  exact ⟨hf, World.cell?_alloc_mark w #[.string f.1, .int .i64 f.2] 24 (0, 0) 0, World.cell?_alloc_mark w #[.string f.1, .int .i64 f.2] 24 (0, 0) 1⟩
/-- A row and one more, in a row of rows. -/
theorem rowsF_two (w : World) (v : Value) (fs : List Fn) (f : Fn) (hv : Fus w v fs) (hf : FnOk f) :
    RowsF ((w.alloc (.cells #[.string f.1, .int .i64 f.2] 24)).alloc (.cells #[v, .slice (some ⟨w.heap.size, 0, none⟩) 1 1] 22)) (w.heap.size + 1) [(v, fs), (.slice (some ⟨w.heap.size, 0, none⟩) 1 1, [f])] := by
  have hb1 : Below w.heap.size w (w.alloc (.cells #[.string f.1, .int .i64 f.2] 24)) := (Below.refl _ _).alloc (Nat.le_refl _) _
  have hz : (w.alloc (.cells #[.string f.1, .int .i64 f.2] 24)).heap.size = w.heap.size + 1 := by simp
  have hb2 : Below (w.alloc (.cells #[.string f.1, .int .i64 f.2] 24)).heap.size (w.alloc (.cells #[.string f.1, .int .i64 f.2] 24)) ((w.alloc (.cells #[.string f.1, .int .i64 f.2] 24)).alloc (.cells #[v, .slice (some ⟨w.heap.size, 0, none⟩) 1 1] 22)) := (Below.refl _ _).alloc (Nat.le_refl _) _
  have hc := fun o => World.cell?_alloc_mark (w.alloc (.cells #[.string f.1, .int .i64 f.2] 24)) #[v, .slice (some ⟨w.heap.size, 0, none⟩) 1 1] 22 (0, 0) o
  rw [hz] at hc
  refine ⟨by simp, fun k hk => ?_⟩
  match k, hk with
  | 0, _ => exact ⟨hc 0, (hv.below hb1).below hb2⟩
  | 1, _ => exact ⟨hc 1, (fus_one w f hf).below hb2⟩
  | k + 2, h => exact absurd (show k + 2 < 2 from h) (by omega)

set_option maxRecDepth 100000 in
set_option maxHeartbeats 2000000 in
theorem padd_any (v : Value) (fs : List Fn) (f : Fn) (w : World) (hv : Fus w v fs) (hf : FnOk f) (hs : f.1.size ≤ 100000) (hl : fs.length ≤ 1000) :
    Calls Try.prog 10 #[v, fnVal f] w (AddPost fs f w) := by
  have AR := Lib.hid (fun (W : World) (h : Below w.heap.size w W) => pfind_fn v fs f.1 W (hv.below h))
  have WD := Lib.hid (fun (W : World) => word_any f.1 (by omega) W)
  have RW := Lib.hid (fun (W : World) (h : Below w.heap.size w W) => rowsF_two W v fs f (hv.below h) hf)
  obtain ⟨a, n, c, rfl⟩ : ∃ a n c, v = .slice a n c := by obtain ⟨a, c, h, _⟩ := hv; exact ⟨a, _, c, h⟩
  obtain rfl := hv.news.1
  have CC := Lib.hid (fun (W : World) (h : Below w.heap.size w W) => pconcat_fn [(.slice a fs.length c, fs), (.slice (some ⟨W.heap.size, 0, none⟩) 1 1, [f])] (W.heap.size + 1) 2 _ (RW.out W h) (by simp) (by simp) (by simp [flatF]; omega))
  clear hv
  obtain ⟨ys, yn⟩ := f
  have HP := Lib.hid (fun wr (h : Below (w.heap.size + 1) (w.alloc (.cells #[.string ys, .int .i64 yn] 24)) wr) => pair_after h)
  unfold fnVal
  simp only at AR WD CC
  have hw0 : Below w.heap.size w (w.alloc (.cells #[.string ys, .int .i64 yn] 24)) := (Below.refl _ _).alloc (Nat.le_refl _) _
  have HW0 := Lib.hid hw0
  clear hw0
  cases hwd : wordB ys with
  | false =>
    rw [hwd] at WD
    have HE := Lib.hid (addE_arg (fs := fs) (f := (ys, yn)) (by unfold argOk; show (wordB ys && _) = false; rw [hwd]; rfl))
    clear hwd
    go_enter Try.func10, Try.ntmps10
    go_wp2_with fail
    refine (WD.out _).mono ?_; rintro e w1 ⟨rfl, hb1⟩
    have HB1 := Lib.hid (HW0.out.trans (hb1.mono (by simp)))
    obtain ⟨q0, q1, _, _⟩ := HP.out w1 (hb1.mono (by simp))
    clear hb1
    go_wp2_with fail
    go_ret2
    exact add_bad HE.out (by decide) HB1.out
  | true =>
    rw [hwd] at WD
    rcases Int.lt_or_le yn 0 with h0 | h0
    · have hd0 : decide (yn < 0) = true := decide_eq_true h0
      have HE := Lib.hid (addE_arg (fs := fs) (f := (ys, yn)) (by unfold argOk; show (wordB ys && (decide (0 ≤ yn) && decide (yn ≤ 6))) = false; rw [decide_eq_false (by omega)]; simp))
      clear hwd
      go_enter Try.func10, Try.ntmps10
      go_wp2_with fail
      refine (WD.out _).mono ?_; rintro e w1 ⟨rfl, hb1⟩
      have HB1 := Lib.hid (HW0.out.trans (hb1.mono (by simp)))
      have HBP := Lib.hid (hb1.mono (show w.heap.size + 1 ≤ (w.alloc (.cells #[.string ys, .int .i64 yn] 24)).heap.size by simp))
      have hs1 : w.heap.size + 1 ≤ w1.heap.size := by have := hb1.size; simpa using this
      obtain ⟨q0, q1, _, _⟩ := HP.out w1 HBP.out
      clear hb1
      go_wp2_with fail
      go_ret2
      exact add_bad HE.out (by decide) HB1.out
    have hd0 : decide (yn < 0) = false := decide_eq_false (by omega)
    rcases Int.lt_or_le 6 yn with h6 | h6
    · have hd6 : decide (6 < yn) = true := decide_eq_true h6
      have HE := Lib.hid (addE_arg (fs := fs) (f := (ys, yn)) (by unfold argOk; show (wordB ys && (decide (0 ≤ yn) && decide (yn ≤ 6))) = false; rw [decide_eq_false (show ¬ yn ≤ 6 by omega)]; simp))
      clear hwd
      go_enter Try.func10, Try.ntmps10
      go_wp2_with fail
      refine (WD.out _).mono ?_; rintro e w1 ⟨rfl, hb1⟩
      have HB1 := Lib.hid (HW0.out.trans (hb1.mono (by simp)))
      have HBP := Lib.hid (hb1.mono (show w.heap.size + 1 ≤ (w.alloc (.cells #[.string ys, .int .i64 yn] 24)).heap.size by simp))
      have hs1 : w.heap.size + 1 ≤ w1.heap.size := by have := hb1.size; simpa using this
      obtain ⟨q0, q1, _, _⟩ := HP.out w1 HBP.out
      clear hb1
      go_wp2_with fail
      go_ret2
      exact add_bad HE.out (by decide) HB1.out
    have hd6 : decide (6 < yn) = false := decide_eq_false (by omega)
    have HA := Lib.hid (show argOk (ys, yn) = true by unfold argOk; show (wordB ys && (decide (0 ≤ yn) && decide (yn ≤ 6))) = true; rw [hwd, decide_eq_true h0, decide_eq_true h6]; rfl)
    clear hwd
    go_enter Try.func10, Try.ntmps10
    go_wp2_with fail
    refine (WD.out _).mono ?_; rintro e w1 ⟨rfl, hb1⟩
    have HB1 := Lib.hid (HW0.out.trans (hb1.mono (by simp)))
    have HBP := Lib.hid (hb1.mono (show w.heap.size + 1 ≤ (w.alloc (.cells #[.string ys, .int .i64 yn] 24)).heap.size by simp))
    have hs1 : w.heap.size + 1 ≤ w1.heap.size := by have := hb1.size; simpa using this
    obtain ⟨q0, q1, _, _⟩ := HP.out w1 HBP.out
    clear hb1
    go_wp2_with fail
    refine (AR.out _ HB1.out).mono ?_; rintro e w2 ⟨he, hb2⟩
    have HB2 := Lib.hid (below_next HB1.out hb2)
    have HBP2 := Lib.hid (HBP.out.trans (hb2.mono hs1))
    obtain ⟨q0, q1, _, _⟩ := HP.out w2 HBP2.out
    clear hb2
    rcases he with ⟨rfl, har⟩ | ⟨k, x, rfl, _, har⟩
    · have HAR := Lib.hid (show (arF fs ys).isSome = false by rw [har]; rfl)
      clear har
      by_cases h40 : 40 ≤ fs.length
      · have hd40 : decide (40 ≤ (fs.length : Int)) = true := decide_eq_true (by omega)
        have HE := Lib.hid (addE_long (fs := fs) (f := (ys, yn)) HA.out HAR.out h40)
        go_wp2_with fail
        go_ret2
        exact add_bad HE.out (by decide) HB2.out
      · have hd40 : decide (40 ≤ (fs.length : Int)) = false := decide_eq_false (by omega)
        have HE := Lib.hid (addE_ok (fs := fs) (f := (ys, yn)) HA.out HAR.out h40)
        have C2 := Lib.hid (CC.out w2 HB2.out)
        have HBB := Lib.hid (show Below w.heap.size w ((w2.alloc (.cells #[.string ys, .int .i64 yn] 24)).alloc (.cells #[.slice a fs.length c, .slice (some ⟨w2.heap.size, 0, none⟩) 1 1] 22)) from (HB2.out.alloc HB2.out.size _).alloc (by have := HB2.out.size; simp; omega) _)
        go_wp2_with fail
        refine C2.out.mono ?_; rintro e w3 ⟨u, rfl, hu, hb3⟩
        have HB3 := Lib.hid (below_next HBB.out hb3)
        have HU := Lib.hid (show Fus w3 u (fs ++ [(ys, yn)]) from by
          have e : flatF [(Value.slice a fs.length c, fs), (Value.slice (some ⟨w2.heap.size, 0, none⟩) 1 1, [(ys, yn)])] = fs ++ [(ys, yn)] := by simp [flatF]
          rw [e] at hu
          exact hu.fus (by rw [List.length_append, List.length_singleton]; omega))
        clear hu hb3
        go_wp2_with fail
        go_ret2
        exact ⟨u, by rw [HE.out]; rfl, by rw [addL_ok HE.out]; exact HU.out, HB3.out⟩
    · have hk0 : decide (0 ≤ (k : Int)) = true := decide_eq_true (by omega)
      have HE := Lib.hid (addE_twice (fs := fs) (f := (ys, yn)) HA.out (by show (arF fs ys).isSome = true; rw [har]; rfl))
      clear har
      go_wp2_with fail
      go_ret2
      exact add_bad HE.out (by decide) HB2.out
end Go.Proofs.Ytehpkhcjejlbpaa

namespace Go.Proofs.Ytehpkhcjejlbpaa
open Go.RowKit

def RightTo (fs : List Fn) (k : Nat) : Prop := ∀ i f, i < k → fs[i]? = some f → argOk f = true ∧ arF (fs.take i) f.1 = none
theorem RightTo.succ {fs : List Fn} {k : Nat} {x : Fn} (h : RightTo fs k) (hk : fs[k]? = some x) (h1 : argOk x = true) (h2 : arF (fs.take k) x.1 = none) : RightTo fs (k + 1) := fun i f hi hf => by
  by_cases e : i = k
  · subst e; rw [hk] at hf; rw [← Option.some.inj hf]; exact ⟨h1, h2⟩
  · exact h i f (by omega) hf
theorem right_bad {fs : List Fn} {k : Nat} {x : Fn} (hk : fs[k]? = some x) (h : ¬ (argOk x = true ∧ arF (fs.take k) x.1 = none)) : rightF fs = false := by
  rw [← Bool.not_eq_true, rightF_iff]
  intro hh; exact h (hh.2 k x hk)
end Go.Proofs.Ytehpkhcjejlbpaa

namespace Go.Proofs.Ytehpkhcjejlbpaa
open Go.RowKit

set_option maxRecDepth 100000 in
set_option maxHeartbeats 4000000 in
theorem pright_any (v : Value) (fs : List Fn) (w : World) (hv : Fus w v fs) (hz : ∀ f ∈ fs, f.1.size ≤ 100000) :
    Calls Try.prog 13 #[v] w fun e w' => e = .returned (.bool (rightF fs)) ∧ Below w.heap.size w w' := by
  obtain ⟨a, n, c, rfl⟩ : ∃ a n c, v = .slice a n c := by obtain ⟨a, c, h, _⟩ := hv; exact ⟨a, _, c, h⟩
  obtain rfl := hv.news.1
  have HOK := Lib.hid hv.ok
  obtain ⟨a', c', hv', hl, hrow⟩ := hv
  cases hv'
  have HR := Lib.hid hrow
  clear hrow
  go_enter Try.func13, Try.ntmps13
  go_wp2_with fail
  go_loopw [3, 10] (fun u i wr => ∃ k : Nat, k ≤ fs.length ∧ k ≤ 40 ∧ i = .int .i64 k ∧ Hid (Fus wr u (fs.take k)) ∧ Hid (RightTo fs k) ∧ Hid (Below w.heap.size w wr)) (fun _ i _ => fs.length - (intOf i).toNat)
  case atStart => exact ⟨0, Nat.zero_le _, Nat.zero_le _, rfl, Lib.hid (Fus.none_ _ _ _), Lib.hid (fun i f hi => by omega), Lib.hid (Below.refl _ _)⟩
  case round =>
    obtain ⟨k, hk, hk40, rfl, HU, HN, HB⟩ := hrel
    by_cases hkl : k < fs.length
    · obtain ⟨b, o, rfl, hlt, hat⟩ := HR.out.resolve_left (by intro h; rw [h] at hkl; simp at hkl)
      obtain ⟨x, hx⟩ : ∃ x, fs[k]? = some x := ⟨_, List.getElem?_eq_getElem hkl⟩
      have hA := hat k x hx
      have m0 := (HB.out.cell (p := ⟨b, o + k * 2, none⟩) hlt).trans hA.c0
      have m1 := (HB.out.cell (p := ⟨b, o + k * 2 + 1, none⟩) hlt).trans hA.c1
      have hok := hA.ok
      have hsz := hz x (List.mem_of_getElem? hx)
      have hk0 : (0 : Int) ≤ (k : Int) := by omega
      have hk1 : (k : Int) < (fs.length : Int) := by omega
      have HX := Lib.hid hx
      have hlen : (fs.take k).length = k := by rw [List.length_take]; omega
      have HLEN := Lib.hid hlen
      have HBA := Lib.hid (HB.out.alloc HB.out.size (.cells #[.string x.1, .int .i64 x.2] 24))
      have HBX := Lib.hid ((Below.refl wr.heap.size wr).alloc (Nat.le_refl _) (.cells #[.string x.1, .int .i64 x.2] 24))
      have AD := Lib.hid (fun (W : World) (h : Fus W u3 (fs.take k)) => padd_any u3 (fs.take k) x W h hok hsz (by rw [hlen]; omega))
      have hgood := Lib.hid (fun (h1 : argOk x = true) (h2 : arF (fs.take k) x.1 = none) => HN.out.succ HX.out h1 h2)
      have hbad := Lib.hid (fun (h : ¬ (argOk x = true ∧ arF (fs.take k) x.1 = none)) => right_bad HX.out h)
      clear hat hx hA hlen
      obtain ⟨au, nu, cu, rfl⟩ : ∃ a n c, u3 = Value.slice a n c := by obtain ⟨a, c, h, _⟩ := HU.out; exact ⟨a, _, c, h⟩
      obtain ⟨xs, xn⟩ := x
      simp only at m0 m1 hsz HBA HBX
      have C := Lib.hid (AD.out _ (HU.out.below HBX.out))
      unfold fnVal at C
      simp only at C
      go_wp2_with fail
      refine C.out.mono ?_; rintro e w1 ⟨u, rfl, hu, hb1⟩
      have HB1 := Lib.hid (below_next HBA.out hb1)
      have HU1 := Lib.hid hu
      clear hu hb1
      by_cases h0 : addE (fs.take k) (xs, xn) = 0
      · have hz := addE_zero.1 h0
        have HG := Lib.hid (hgood.out hz.1 hz.2.1)
        have h40 : k + 1 ≤ 40 := by have := hz.2.2; rw [HLEN.out] at this; omega
        have HU2 := Lib.hid (show Fus w1 u (fs.take (k + 1)) from by
          have e : fs.take (k + 1) = fs.take k ++ [(xs, xn)] := by
            obtain ⟨hl, hx⟩ := List.getElem?_eq_some_iff.1 HX.out
            rw [List.take_succ_eq_append_getElem hl, hx]
          rw [e, ← addL_ok h0]; exact HU1.out)
        rw [h0]
        clear h0 hz
        go_wp2_with fail
        go_roundw
        case rel => exact ⟨k + 1, by omega, h40, by go_num, HU2, HG, HB1⟩
        case measure => simp [intOf]; omega
      · have HG := Lib.hid (show rightF fs = false from by
          by_cases hc : argOk (xs, xn) = true ∧ arF (fs.take k) xs = none
          · rw [← Bool.not_eq_true, rightF_iff]
            intro hr
            refine h0 (addE_zero.2 ⟨hc.1, hc.2, ?_⟩)
            have := hr.1
            rw [HLEN.out]; omega
          · exact hbad.out hc)
        obtain ⟨n, hn⟩ : ∃ n, addE (fs.take k) (xs, xn) = n := ⟨_, rfl⟩
        rw [hn] at h0 ⊢
        have h0' : (n != 0) = true := by simpa using h0
        clear hn h0
        go_wp2_with fail
        go_ret
        exact ⟨ret_bool HG.out.symm, HB1.out⟩
    · have hke : k = fs.length := by omega
      have HG := Lib.hid (show rightF fs = true from rightF_iff.2 ⟨by omega, fun i f hf => HN.out i f (by have := (List.getElem?_eq_some_iff.1 hf).1; omega) hf⟩)
      clear hke
      go_wp2_with fail
      go_ret
      exact ⟨ret_bool HG.out.symm, HB.out⟩
end Go.Proofs.Ytehpkhcjejlbpaa

namespace Go.Proofs.Ytehpkhcjejlbpaa
open Go.RowKit Go.Maps

theorem keyTypeFn : Try.prog.keyTypeAt 9 24 = true := by kernel_rfl
theorem keyTypeOfFn : Try.prog.keyType 24 = true := by kernel_rfl
theorem keyLaidFn : laidOutB Try.prog = true := by kernel_rfl
theorem keyRowFn : 24 < Try.prog.types.size := of_decide_eq_true (by kernel_rfl)
theorem keyed_fn : Keyed Try.prog 24 := Keyed.of_law (deep_law_laid keyLaidFn (m := 9) (by omega) keyRowFn keyTypeFn (by rw [Try.underlying24]))
theorem keyCellIF : Try.prog.cellsOf 3 = 1 := by kernel_rfl
theorem keyCellSF : Try.prog.cellsOf 9 = 1 := by kernel_rfl
theorem cellsKeyFn : Try.prog.cellsOf 24 = 2 := by kernel_rfl
/-- What such a key reads as. -/
def fnLit (f : Fn) : Lit := .string (keyBytes [.string f.1.data.toList, .int .i64 f.2])
/-- A function whose name is short enough for a key. -/
structure FnKey (f : Fn) : Prop where
  ok : FnOk f
  len : f.1.size ≤ maxLen
theorem fnKey_of {f : Fn} (h : FnOk f) (hs : f.1.size ≤ 100000) : FnKey f := ⟨h, by unfold maxLen; omega⟩
theorem keyOf_fn {f : Fn} (h : FnKey f) : keyOf Try.prog 24 (fnVal f) = some (fnLit f) := by
  unfold keyOf
  rw [Try.underlying24]
  simp only [keyTypeOfFn, Bool.true_and]
  have hf : (fnVal f).formed Try.prog 24 = true := by
    unfold fnVal Value.formed
    simp only [Try.underlying24, cellsKeyFn]; rfl
  rw [if_pos hf]
  obtain ⟨d, hd⟩ : ∃ d, Try.prog.types.size = d + 1 := ⟨Try.prog.types.size - 1, by have := keyRowFn; omega⟩
  rw [hd]
  have e1 : Try.prog.keyLits (d + 1) 3 [.int .i64 f.2] = some [.int .i64 f.2] := by
    unfold Program.keyLits
    simp only [Try.underlying3]
    rw [if_pos ⟨trivial, WalkArith.wf_i64 ⟨h.ok.lo, h.ok.hi⟩⟩]
  have e2 : Try.prog.keyLits (d + 1) 9 [.string f.1] = some [.string f.1.data.toList] := by
    unfold Program.keyLits
    simp only [Try.underlying9]
    rw [if_pos h.len]
  unfold Program.keyLits
  simp only [Try.underlying24, fnVal, Value.cells]
  rw [if_pos ⟨by rw [cellsKeyFn]; rfl, by simp⟩]
  simp [e1, e2, keyCellIF, keyCellSF, fnLit]
theorem fnVal_inj {f g : Fn} (h : fnVal f = fnVal g) : f = g := by
  unfold fnVal at h
  simp only [Value.agg.injEq, Array.mk.injEq, List.cons.injEq, Value.int.injEq, true_and, Value.string.injEq, and_true] at h
  exact Prod.ext h.1 h.2
theorem fnLit_inj {f g : Fn} (hf : FnKey f) (hg : FnKey g) (h : fnLit f = fnLit g) : f = g := by
  have e1 := keyOf_fn hf
  have e2 := keyOf_fn hg
  rw [h] at e1
  exact fnVal_inj (keyed_fn.inj e1 e2)
/-- The set that goes with a row of functions. -/
def fnSet (fs : List Fn) : DataW Unit := Maps.setOf (.agg []) (fs.map fnLit)
theorem fnSet_has {fs : List Fn} {f : Fn} (hfs : ∀ x ∈ fs, FnKey x) (hf : FnKey f) : Maps.has (fnSet fs) (fnLit f) = hasFn fs f := by
  unfold fnSet
  rw [Maps.has_setOf _ _ _ (by
    intro x hx
    obtain ⟨z, _, rfl⟩ := List.mem_map.1 hx
    simp [WideAt.IsKeyLit, fnLit])]
  rw [Bool.eq_iff_iff, List.any_eq_true]
  have hh : hasFn fs f = true ↔ f ∈ fs := @decide_eq_true_iff _ (Classical.propDecidable _)
  rw [hh]
  constructor
  · rintro ⟨x, hx, he⟩
    obtain ⟨z, hz, rfl⟩ := List.mem_map.1 hx
    have e : fnLit z = fnLit f := by
      unfold fnLit at he ⊢
      simpa [Lit.sameKey] using he
    rw [← fnLit_inj (hfs z hz) hf e]; exact hz
  · intro h
    exact ⟨_, List.mem_map.2 ⟨f, h, rfl⟩, by simp [Lit.sameKey, fnLit]⟩
theorem fnSet_put (fs : List Fn) (f : Fn) : (fnSet fs).put (fnLit f) (.agg []) = fnSet (fs ++ [f]) := by
  unfold fnSet
  rw [List.map_append, ← Maps.setOf_snoc]; rfl
end Go.Proofs.Ytehpkhcjejlbpaa

namespace Go.Proofs.Ytehpkhcjejlbpaa
open Go.RowKit

/-- The set that goes with a row of names. -/
def nameSet (zs : List ByteArray) : DataW Unit := Maps.setOf (.agg []) (zs.map fun s => Lit.string s.data.toList)
theorem nameSet_has (zs : List ByteArray) (s : ByteArray) : Maps.has (nameSet zs) (.string s.data.toList) = Lib.containsS zs s := by
  unfold nameSet
  rw [Maps.has_setOf _ _ _ (by
    intro x hx
    obtain ⟨z, _, rfl⟩ := List.mem_map.1 hx
    simp [WideAt.IsKeyLit])]
  rw [Bool.eq_iff_iff, List.any_eq_true, Lib.containsS_iff]
  constructor
  · rintro ⟨x, hx, he⟩
    obtain ⟨z, hz, rfl⟩ := List.mem_map.1 hx
    have e : z.data.toList = s.data.toList := by simpa [Lit.sameKey] using he
    have : z = s := by
      apply ByteArray.ext; apply Array.ext'; exact e
    rw [← this]; exact hz
  · intro h
    exact ⟨_, List.mem_map.2 ⟨s, h, rfl⟩, by simp [Lit.sameKey]⟩
theorem nameSet_put (zs : List ByteArray) (s : ByteArray) : (nameSet zs).put (.string s.data.toList) (.agg []) = nameSet (zs ++ [s]) := by
  unfold nameSet
  rw [List.map_append, ← Maps.setOf_snoc]; rfl
/-- New memory alone. -/
theorem grown_of_below {w w' : World} (h : Below w.heap.size w w') : w.grownBy w' none := ⟨h.os, h.tape, h.output, h.size, fun k hk _ => h.block k hk⟩
end Go.Proofs.Ytehpkhcjejlbpaa

namespace Go.Proofs.Ytehpkhcjejlbpaa
open Go.RowKit

theorem zero_unitF (w : World) : (zeroValue 78).run Try.prog w = .ok (.agg #[]) w := by kernel_rfl

set_option maxRecDepth 100000 in
set_option maxHeartbeats 1000000 in
theorem pput_fn (b n : Nat) (D : DataW Unit) (f : Fn) (w : World) (hm : w.ownsMap Try.prog 24 (unitElem (H := Unit)) b n D) (hf : FnKey f) (hn : n ≤ 1000000) :
    Calls Try.prog 44 #[.map (some b), fnVal f] w fun e w' => (∃ v, e = .returned v) ∧ w'.ownsMap Try.prog 24 (unitElem (H := Unit)) b (n + 1) (D.put (fnLit f) (.agg [])) ∧ w.grownBy w' (some b) := by
  have hkey := keyOf_fn hf
  obtain ⟨s, k⟩ := f
  obtain ⟨l, hll⟩ : ∃ l, fnLit (s, k) = l := ⟨_, rfl⟩
  rw [hll] at hkey ⊢
  unfold fnVal at hkey ⊢
  simp only at hkey ⊢
  have hb := hm.lt
  have hm1 := hm.kept (grown_of_below ((Below.refl w.heap.size w).alloc (Nat.le_refl _) (.cells #[.string s, .int .i64 k] 24))) (by simp)
  have HGA := Lib.hid (World.grownBy_alloc w (.cells #[.string s, .int .i64 k] 24) (some b))
  clear hm hll
  go_enter Try.func44, Try.ntmps44
  go_wp2_with (first
    | (at_mapUpdate; refine wpList_mapUpdate_own _ rfl _ _ _ 53 rfl 24 78 keyed_fn Try.underlying53 (unitElem (H := Unit)) b n _ rfl hm1 (by unfold maxLen; omega) _ _ _ rfl rfl hkey (.agg []) [] unitElem_mk ?_; intro w1 hown1 hgrow1)
    | go_in)
  go_end0
  exact ⟨⟨_, rfl⟩, hown1, HGA.out.trans hgrow1⟩

set_option maxRecDepth 100000 in
set_option maxHeartbeats 2000000 in
theorem psetOf_any (v : Value) (fs : List Fn) (w : World) (hv : Fus w v fs) (hk : ∀ f ∈ fs, FnKey f) (hl : fs.length ≤ 100000) :
    Calls Try.prog 25 #[v] w fun e w' => ∃ b, e = .returned (.map (some b)) ∧ w'.ownsMap Try.prog 24 (unitElem (H := Unit)) b fs.length (fnSet fs) ∧ Below w.heap.size w w' := by
  have hmm := @run_makeMap Try.prog
  obtain ⟨a, n, c, rfl⟩ : ∃ a n c, v = .slice a n c := by obtain ⟨a, c, h, _⟩ := hv; exact ⟨a, _, c, h⟩
  obtain rfl := hv.news.1
  obtain ⟨a', c', hv', _, hrow⟩ := hv
  cases hv'
  have HR := Lib.hid hrow
  have HK := Lib.hid hk
  clear hrow hk
  go_enter Try.func25, Try.ntmps25
  go_wp2
  go_loopw [9] (fun i wr => ∃ k : Nat, k ≤ fs.length ∧ i = .int .i64 k ∧ wr.ownsMap Try.prog 24 (unitElem (H := Unit)) w.heap.size k (fnSet (fs.take k)) ∧ Below w.heap.size w wr) (fun i _ => fs.length - (intOf i).toNat)
  case atStart => exact ⟨0, Nat.zero_le _, rfl, World.ownsMap_made _ _ _ _, (Below.refl _ _).alloc (Nat.le_refl _) _⟩
  case round =>
    obtain ⟨k, hk, rfl, hown, hb⟩ := hrel
    by_cases hkl : k < fs.length
    · obtain ⟨b, o, rfl, hlt, hat⟩ := HR.out.resolve_left (by intro h; rw [h] at hkl; simp at hkl)
      obtain ⟨x, hx⟩ : ∃ x, fs[k]? = some x := ⟨_, List.getElem?_eq_getElem hkl⟩
      have hA := hat k x hx
      have m0 := (hb.cell (p := ⟨b, o + k * 2, none⟩) hlt).trans hA.c0
      have m1 := (hb.cell (p := ⟨b, o + k * 2 + 1, none⟩) hlt).trans hA.c1
      have hxk := HK.out x (List.mem_of_getElem? hx)
      have HT := Lib.hid (show fnSet (fs.take (k + 1)) = (fnSet (fs.take k)).put (fnLit x) (.agg []) from by
        obtain ⟨hl, hx⟩ := List.getElem?_eq_some_iff.1 hx
        rw [fnSet_put, List.take_succ_eq_append_getElem hl, hx])
      have hk0 : (0 : Int) ≤ (k : Int) := by omega
      have hk1 : (k : Int) < (fs.length : Int) := by omega
      have hown1 := hown.kept (grown_of_below ((Below.refl wr.heap.size wr).alloc (Nat.le_refl _) (.cells #[.string x.1, .int .i64 x.2] 24))) (by simp)
      have HBA := Lib.hid (hb.alloc hb.size (.cells #[.string x.1, .int .i64 x.2] 24))
      have C := Lib.hid (pput_fn w.heap.size k _ x _ hown1 hxk (by omega))
      clear hat hx hA hxk hown hown1
      obtain ⟨xs, xn⟩ := x
      unfold fnVal at C
      simp only at m0 m1 C HBA
      go_wp2_with fail
      refine C.out.mono ?_; rintro e w1 ⟨⟨v1, rfl⟩, hown2, hg⟩
      have HO := Lib.hid hown2
      have HB1 := Lib.hid (HBA.out.grown hg (by have := HBA.out.size; exact this) (fun j hj => by cases hj; exact Nat.le_refl _))
      clear hown2 hg
      go_wp2_with fail
      go_roundw
      case rel => exact ⟨k + 1, by omega, by go_num, by rw [HT.out]; exact HO.out, HB1.out⟩
      case measure => simp [intOf]; omega
    · obtain rfl : k = fs.length := by omega
      rw [List.take_length] at hown
      go_wp2_with fail
      go_ret
      exact ⟨w.heap.size, rfl, hown, hb⟩

set_option maxRecDepth 100000 in
set_option maxHeartbeats 1000000 in
theorem phas_fn (b n : Nat) (fs : List Fn) (f : Fn) (w : World) (hm : w.ownsMap Try.prog 24 (unitElem (H := Unit)) b n (fnSet fs)) (hfs : ∀ x ∈ fs, FnKey x) (hf : FnKey f) :
    Calls Try.prog 26 #[.map (some b), fnVal f] w fun e w' => e = .returned (.bool (hasFn fs f)) ∧ Below w.heap.size w w' := by
  have hkey := keyOf_fn hf
  have hh := fnSet_has hfs hf
  obtain ⟨r, hr⟩ : ∃ r, hasFn fs f = r := ⟨_, rfl⟩
  rw [hr] at hh ⊢
  obtain ⟨s, k⟩ := f
  obtain ⟨l, hll⟩ : ∃ l, fnLit (s, k) = l := ⟨_, rfl⟩
  rw [hll] at hkey hh
  unfold fnVal at hkey ⊢
  simp only at hkey ⊢
  have hb := hm.lt
  have hm1 := hm.kept (grown_of_below ((Below.refl w.heap.size w).alloc (Nat.le_refl _) (.cells #[.string s, .int .i64 k] 24))) (by simp)
  have HB := Lib.hid ((Below.refl w.heap.size w).alloc (Nat.le_refl _) (.cells #[.string s, .int .i64 k] 24))
  clear hm hll hr
  go_enter Try.func26, Try.ntmps26
  go_wp2_with (first
    | (at_lookup; refine wpList_lookup_own_unit _ rfl _ _ 53 rfl 24 78 keyed_fn Try.underlying53 (zero_unitF _) b n _ rfl hm1 _ _ rfl hkey ?_)
    | go_in)
  go_ret
  exact ⟨rfl, HB.out.alloc (by simp) _⟩

set_option maxRecDepth 100000 in
set_option maxHeartbeats 1000000 in
theorem psymbol_any (x : Tv) (w : World) (hx : x.ok w) :
    Calls Try.prog 30 #[x.val] w fun e w' => e = .returned (fnVal (x.t.name, (x.t.args.length : Int))) ∧ Below w.heap.size w w' := by
  obtain ⟨t, a, c⟩ := x
  have HB := Lib.hid (((Below.refl w.heap.size w).alloc (Nat.le_refl _) (.cells #[.int .i64 t.kind, .string t.name, .int .i64 t.n, .slice a t.args.length c] 40)).alloc (by simp) (.cells #[.string t.name, .int .i64 t.args.length] 24))
  clear hx
  unfold Tv.val fnVal
  simp only
  go_enter Try.func30, Try.ntmps30
  go_wp2_with fail
  refine bodyPost_ret (v := .agg #[.string t.name, .int .i64 t.args.length]) (by simp [results, Try.results30, go_sem]) rfl ?_
  exact ⟨rfl, HB.out⟩
end Go.Proofs.Ytehpkhcjejlbpaa

namespace Go.Proofs.Ytehpkhcjejlbpaa
open Go.RowKit

/-- The first place where a part stands. -/
noncomputable def findT (t s : Tm) : Option (List Int) := (placesT t).find? fun p => eqT ((atT t p).getD zeroT) s
/-- Not among the first k places. -/
def NotAt (t s : Tm) (k : Nat) : Prop := ∀ (j : Nat) p, j < k → (placesT t)[j]? = some p → eqT ((atT t p).getD zeroT) s = false
theorem NotAt.succ {t s : Tm} {k : Nat} {p : List Int} (h : NotAt t s k) (hp : (placesT t)[k]? = some p) (he : eqT ((atT t p).getD zeroT) s = false) : NotAt t s (k + 1) := fun j q hj hq => by
  by_cases e : j = k
  · subst e; rw [hp] at hq; cases hq; exact he
  · exact h j q (by omega) hq
theorem find_here {t s : Tm} {k : Nat} {p : List Int} (h : NotAt t s k) (hp : (placesT t)[k]? = some p) (he : eqT ((atT t p).getD zeroT) s = true) : findT t s = some p := by
  obtain ⟨hk, rfl⟩ := List.getElem?_eq_some_iff.1 hp
  unfold findT
  rw [List.find?_eq_some_iff_getElem]
  refine ⟨he, k, hk, rfl, fun j hj => ?_⟩
  rw [h j _ hj (List.getElem?_eq_getElem (by omega))]; rfl
theorem find_none {t s : Tm} (h : NotAt t s (placesT t).length) : findT t s = none := by
  unfold findT
  rw [List.find?_eq_none]
  intro p hp
  obtain ⟨j, hj, rfl⟩ := List.getElem_of_mem hp
  rw [h j _ hj (List.getElem?_eq_getElem hj)]; simp
end Go.Proofs.Ytehpkhcjejlbpaa

namespace Go.Proofs.Ytehpkhcjejlbpaa
open Go.RowKit

mutual
/-- The first place, from within. -/
noncomputable def finP (s : Tm) : Tm → Option (List Int)
  | .mk k n m xs => match finL s 0 xs with
    | some q => some q
    | none => if eqT (.mk k n m xs) s = true then some [] else none
noncomputable def finL (s : Tm) : Nat → List Tm → Option (List Int)
  | _, [] => none
  | i, t :: r => match finP s t with
    | some q => some ((i : Int) :: q)
    | none => finL s (i + 1) r
end
theorem finP_eq (s t : Tm) : finP s t = match finL s 0 t.args with | some q => some q | none => if eqT t s = true then some [] else none := by
  cases t; rw [finP]; rfl
mutual
theorem finP_parts (s : Tm) : ∀ (t : Tm) (q : List Int), finP s t = some q → s.parts ≤ t.parts
  | .mk k n m xs, q, h => by
    rw [finP] at h
    rw [Tm.parts]
    cases hl : finL s 0 xs with
    | some q' => have := finL_parts s 0 xs q' hl; omega
    | none =>
      rw [hl] at h
      simp only at h
      split at h
      · next he =>
        have e : (Tm.mk k n m xs) = s := by
          by_cases e : (Tm.mk k n m xs) = s
          · exact e
          · rw [eqT_false e] at he; cases he
        rw [← e, Tm.parts]; omega
      · cases h
theorem finL_parts (s : Tm) : ∀ (i : Nat) (l : List Tm) (q : List Int), finL s i l = some q → s.parts ≤ partsL l
  | _, [], q, h => by rw [finL] at h; cases h
  | i, t :: r, q, h => by
    rw [finL] at h
    rw [partsL]
    cases hp : finP s t with
    | some q' => have := finP_parts s t q' hp; omega
    | none => rw [hp] at h; have := finL_parts s (i + 1) r q h; omega
end
noncomputable def atB (s t : Tm) (p : List Int) : Bool := eqT ((atT t p).getD zeroT) s
theorem find_cons {s : Tm} {xs : List Tm} {k : Int} {n : ByteArray} {m : Int} {i : Nat} (h : i < xs.length) : (fun q => atB s (.mk k n m xs) ((i : Int) :: q)) = atB s xs[i] := by
  funext q
  unfold atB
  rw [atT_in (t := .mk k n m xs) (j := i) h]
  rfl
mutual
theorem find_fin (s : Tm) : ∀ t : Tm, (placesT t).find? (atB s t) = finP s t
  | .mk k n m xs => by
    rw [placesT, finP, List.find?_cons]
    have h0 : atB s (.mk k n m xs) [] = eqT (.mk k n m xs) s := by unfold atB; rw [atT_nil]; rfl
    rw [h0]
    cases he : eqT (.mk k n m xs) s with
    | true =>
      have e : (Tm.mk k n m xs) = s := by
        by_cases e : (Tm.mk k n m xs) = s
        · exact e
        · rw [eqT_false e] at he; cases he
      have hn : finL s 0 xs = none := by
        cases hl : finL s 0 xs with
        | none => rfl
        | some q =>
          have := finL_parts s 0 xs q hl
          rw [← e, Tm.parts] at this; omega
      rw [hn]; simp
    | false =>
      have := find_finL s k n m xs 0 xs (by rw [List.drop_zero])
      rw [this]
      cases finL s 0 xs <;> simp
theorem find_finL (s : Tm) (k : Int) (n : ByteArray) (m : Int) (xs : List Tm) : ∀ (i : Nat) (l : List Tm), l = xs.drop i → (placesL i l).find? (atB s (.mk k n m xs)) = finL s i l
  | _, [], _ => by rw [placesL, finL]; rfl
  | i, t :: r, h => by
    have hi : i < xs.length := by
      rcases Nat.lt_or_ge i xs.length with h1 | h1
      · exact h1
      · rw [List.drop_eq_nil_of_le h1] at h; cases h
    rw [List.drop_eq_getElem_cons hi] at h
    injection h with h1 h2
    rw [placesL, finL, List.find?_append, List.find?_map]
    have e : (atB s (.mk k n m xs) ∘ fun x => (i : Int) :: x) = atB s t := by
      rw [h1]; exact find_cons hi
    rw [e, find_fin s t, find_finL s k n m xs (i + 1) r h2]
    cases finP s t <;> rfl
end
theorem findT_fin (t s : Tm) : findT t s = finP s t := find_fin s t
/-- As far as the k-th argument nothing is found. -/
def NoneTo (s : Tm) (xs : List Tm) (k : Nat) : Prop := finL s 0 xs = finL s k (xs.drop k)
theorem noneTo_start (s : Tm) (xs : List Tm) : NoneTo s xs 0 := by unfold NoneTo; rw [List.drop_zero]
theorem noneTo_succ {s : Tm} {xs : List Tm} {k : Nat} (h : NoneTo s xs k) (hk : k < xs.length) (hn : finP s xs[k] = none) : NoneTo s xs (k + 1) := by
  unfold NoneTo at h ⊢
  rw [h, List.drop_eq_getElem_cons hk, finL, hn]
theorem noneTo_here {s : Tm} {t : Tm} {k : Nat} {q : List Int} (h : NoneTo s t.args k) (hk : k < t.args.length) (hn : finP s t.args[k] = some q) : finP s t = some ((k : Int) :: q) := by
  unfold NoneTo at h
  rw [List.drop_eq_getElem_cons hk, finL, hn] at h
  rw [finP_eq, h]
theorem noneTo_end {s : Tm} {t : Tm} (h : NoneTo s t.args t.args.length) : finP s t = if eqT t s = true then some [] else none := by
  unfold NoneTo at h
  rw [List.drop_length, finL] at h
  rw [finP_eq, h]
end Go.Proofs.Ytehpkhcjejlbpaa
