/-
  The token that a text begins with: token, word, sign and number of package lex. (the program)
  The token that a text begins with, as token of package lex tells it, and as At of the reference tells it of any place of a text. (the program)
  Scan of package lex, walked: it answers what the scan of the text tells, in a row that has room for it. (the program)
  The program's grammar: what recovers: the deferred functions of read, where the call panics with a fault, and where it returns.
  The program's grammar: read, of files: the items, or the fault, which is recovered.
  The program's grammar: lone: the term that all tokens are.
-/
import Derived.Test.YtldgbdmiebipnaaGreatDoorZ01
import Derived.Test.YtldgbdmiebipnaaGreatDoorZ19
import Derived.Test.YtldgbdmiebipnaaGreatDoorZ15
import Derived.Lib.Hide
import Derived.WalkKit
import Derived.WalkSpells
import Derived.Test.YtldgbdmiebipnaaGreatDoorZ08
import Derived.Test.YtldgbdmiebipnaaGreatDoorZ02
import Derived.Deep.LoopGhost
import Derived.WalkMore
import Derived.Defers
import Derived.Recover
import Derived.Laws.Pointers
import Derived.Test.YtldgbdmiebipnaaGreatDoorZ16
namespace Go.Proofs.YtldgbdmiebipnaaGreatDoor
open Go.RowKit

set_option maxRecDepth 100000 in
set_option maxHeartbeats 400000 in
theorem number_fn (kind : Int) (t x : ByteArray) (fi : Int) (f : Nat) (least : Int) (len : Nat) (hfi : fi = f) (hf : f ≤ t.size) (hx : t.extract f t.size = x) (hs : t.size ≤ 281474976710656) (w : World) (hT : Tabs w) :
    Calls Tryz.prog 73 #[.int .i64 kind, .string t, .int .i64 fi, .int .i64 least] w fun e w' => e = .returned (tokV t (numCut kind x.data.toList least len)) ∧ Below w.heap.size w w' := by
  subst hfi
  have hxs : x.size ≤ 281474976710656 := by rw [← hx]; simp; omega
  have C := Lib.hid (fun w hT => number_any x hxs w hT)
  have HX := Lib.hid hx
  have HT := Lib.hid hT
  clear hx hT
  have hE : numEnd x = .returned (.tuple #[.int .i64 (numVal x.data.toList), .bool (isNum x.data.toList)]) := rfl
  have hv := numVal_bd x.data.toList
  cases hi : isNum x.data.toList with
  | false =>
    have HC := Lib.hid (show numCut kind x.data.toList least len = none from by unfold numCut; rw [hi]; simp)
    rw [hi] at hE
    have E := Lib.hid hE
    clear hE hi
    go_enter Tryz.func73, Tryz.ntmps73
    go_wp2_with fail
    rw [HX.out]
    refine (C.out _ (HT.out.below ((Below.refl _ _).alloc (Nat.le_refl _) _))).mono ?_; rintro e w1 ⟨rfl, hb⟩
    rw [E.out]
    obtain ⟨c0, c1, c2, c3, f0, f1, f2, f3⟩ := box_after hb
    replace hb := below_box hb
    go_wp2_with fail

    exact bodyPost_ret (v := tokV t none) (by simp [results, Tryz.results73, go_sem, tokV, c0, c1, c2, c3]) rfl ⟨by rw [HC.out], (((hb.setCell (Nat.le_refl _) _).setCell (Nat.le_refl _) _).setCell (Nat.le_refl _) _).setCell (Nat.le_refl _) _⟩
  | true =>
    rw [hi] at hE
    have E := Lib.hid hE
    clear hE
    by_cases hlt : numVal x.data.toList < least
    · have HC := Lib.hid (show numCut kind x.data.toList least len = none from by unfold numCut; rw [if_neg]; rintro ⟨_, h⟩; exact h hlt)
      clear hi
      obtain ⟨n, hn⟩ : ∃ n, n = numVal x.data.toList := ⟨_, rfl⟩
      rw [← hn] at hlt E hv
      have HN := Lib.hid hn
      clear hn
      go_enter Tryz.func73, Tryz.ntmps73
      go_wp2_with fail
      rw [HX.out]
      refine (C.out _ (HT.out.below ((Below.refl _ _).alloc (Nat.le_refl _) _))).mono ?_; rintro e w1 ⟨rfl, hb⟩
      rw [E.out]
      obtain ⟨c0, c1, c2, c3, f0, f1, f2, f3⟩ := box_after hb
      replace hb := below_box hb
      go_wp2_with fail
      exact bodyPost_ret (v := tokV t none) (by simp [results, Tryz.results73, go_sem, tokV, c0, c1, c2, c3]) rfl ⟨by rw [HC.out], (((hb.setCell (Nat.le_refl _) _).setCell (Nat.le_refl _) _).setCell (Nat.le_refl _) _).setCell (Nat.le_refl _) _⟩
    · have HC := Lib.hid (show numCut kind x.data.toList least len = some ⟨kind, numVal x.data.toList, len⟩ from by unfold numCut; rw [if_pos ⟨hi, hlt⟩])
      clear hi
      obtain ⟨n, hn⟩ : ∃ n, n = numVal x.data.toList := ⟨_, rfl⟩
      rw [← hn] at hlt E hv HC
      have HN := Lib.hid hn
      clear hn
      go_enter Tryz.func73, Tryz.ntmps73
      go_wp2_with fail
      rw [HX.out]
      refine (C.out _ (HT.out.below ((Below.refl _ _).alloc (Nat.le_refl _) _))).mono ?_; rintro e w1 ⟨rfl, hb⟩
      rw [E.out]
      obtain ⟨c0, c1, c2, c3, f0, f1, f2, f3⟩ := box_after hb
      replace hb := below_box hb
      go_wp2_with fail
      exact bodyPost_ret (v := tokV t (some ⟨kind, n, len⟩)) (by simp [results, Tryz.results73, go_sem, tokV, c0, c1, c2, c3]) rfl ⟨by rw [HC.out], (((hb.setCell (Nat.le_refl _) _).setCell (Nat.le_refl _) _).setCell (Nat.le_refl _) _).setCell (Nat.le_refl _) _⟩
set_option maxRecDepth 100000 in
set_option maxHeartbeats 400000 in
theorem word_fn (t : ByteArray) (len : Nat) (hs : t.size ≤ 1000000) (w : World) :
    Calls Tryz.prog 71 #[.string t] w fun e w' => e = .returned (tokV t (wordCut t len)) ∧ Below w.heap.size w w' := by
  have W := Lib.hid (fun w => word_any t (by omega) w)
  have K := Lib.hid (fun w => key_any t w)
  have U := Lib.hid (fun w => upper_any t (by omega) w)
  cases hw : wordB t with
  | true =>
    have HC := Lib.hid (show wordCut t len = some ⟨1, 0, len⟩ from by unfold wordCut; rw [if_neg (by rw [word_not_upper hw]; simp), if_pos (.inl hw)])
    rw [hw] at W
    clear hw
    go_enter Tryz.func71, Tryz.ntmps71
    go_wp2_with fail
    refine (W.out _).mono ?_; rintro e w1 ⟨rfl, hb⟩
    obtain ⟨c0, c1, c2, c3, f0, f1, f2, f3⟩ := box_after hb
    replace hb := below_box hb
    go_wp2_with fail
    exact bodyPost_ret (v := tokV t (some ⟨1, 0, len⟩)) (by simp [results, Tryz.results71, go_sem, tokV, c0, c1, c2, c3]) rfl ⟨by rw [HC.out], (((hb.setCell (Nat.le_refl _) _).setCell (Nat.le_refl _) _).setCell (Nat.le_refl _) _).setCell (Nat.le_refl _) _⟩
  | false =>
    cases hk : Lib.containsS keyList t with
    | true =>
      have HC := Lib.hid (show wordCut t len = some ⟨1, 0, len⟩ from by unfold wordCut; rw [if_neg (by rw [key_not_upper hk]; simp), if_pos (.inr hk)])
      rw [hw] at W
      rw [hk] at K
      clear hw hk
      go_enter Tryz.func71, Tryz.ntmps71
      go_wp2_with fail
      refine (W.out _).mono ?_; rintro e w1 ⟨rfl, hb⟩
      replace hb := below_box' (box_new _ _ _ _ _ _) hb
      obtain ⟨hx, hb⟩ := hb
      go_wp2_with fail
      refine (K.out _).mono ?_; rintro e w2 ⟨rfl, hb2⟩
      have hx2 := hx.below hb2 hb.2
      replace hb := hb.1.trans (hb2.mono hb.1.size)
      clear hb2 hx
      obtain ⟨c0, c1, c2, c3, f0, f1, f2, f3⟩ := hx2
      go_wp2_with fail
      exact bodyPost_ret (v := tokV t (some ⟨1, 0, len⟩)) (by simp [results, Tryz.results71, go_sem, tokV, c0, c1, c2, c3]) rfl ⟨by rw [HC.out], (((hb.setCell (Nat.le_refl _) _).setCell (Nat.le_refl _) _).setCell (Nat.le_refl _) _).setCell (Nat.le_refl _) _⟩
    | false =>
      cases hu : upperB t with
      | true =>
        have HC := Lib.hid (show wordCut t len = some ⟨2, 0, len⟩ from by unfold wordCut; rw [if_pos hu])
        rw [hw] at W
        rw [hk] at K
        rw [hu] at U
        clear hw hk hu
        go_enter Tryz.func71, Tryz.ntmps71
        go_wp2_with fail
        refine (W.out _).mono ?_; rintro e w1 ⟨rfl, hb⟩
        replace hb := below_box' (box_new _ _ _ _ _ _) hb
        obtain ⟨hx, hb⟩ := hb
        go_wp2_with fail
        refine (K.out _).mono ?_; rintro e w2 ⟨rfl, hb2⟩
        have hx2 := hx.below hb2 hb.2
        have hb3 : Below w.heap.size w w2 ∧ w.heap.size < w2.heap.size := ⟨hb.1.trans (hb2.mono hb.1.size), Nat.lt_of_lt_of_le hb.2 hb2.size⟩
        clear hb2 hx hb
        go_wp2_with fail
        refine (U.out _).mono ?_; rintro e w3 ⟨rfl, hb4⟩
        have hx3 := hx2.below hb4 hb3.2
        have hb := hb3.1.trans (hb4.mono hb3.1.size)
        clear hb4 hx2 hb3
        obtain ⟨c0, c1, c2, c3, f0, f1, f2, f3⟩ := hx3
        go_wp2_with fail
        exact bodyPost_ret (v := tokV t (some ⟨2, 0, len⟩)) (by simp [results, Tryz.results71, go_sem, tokV, c0, c1, c2, c3]) rfl ⟨by rw [HC.out], (((hb.setCell (Nat.le_refl _) _).setCell (Nat.le_refl _) _).setCell (Nat.le_refl _) _).setCell (Nat.le_refl _) _⟩
      | false =>
        have HC := Lib.hid (show wordCut t len = none from by unfold wordCut; rw [if_neg (by rw [hu]; simp), if_neg (by rw [hw, hk]; simp)])
        rw [hw] at W
        rw [hk] at K
        rw [hu] at U
        clear hw hk hu
        go_enter Tryz.func71, Tryz.ntmps71
        go_wp2_with fail
        refine (W.out _).mono ?_; rintro e w1 ⟨rfl, hb⟩
        replace hb := below_box' (box_new _ _ _ _ _ _) hb
        obtain ⟨hx, hb⟩ := hb
        go_wp2_with fail
        refine (K.out _).mono ?_; rintro e w2 ⟨rfl, hb2⟩
        have hx2 := hx.below hb2 hb.2
        have hb3 : Below w.heap.size w w2 ∧ w.heap.size < w2.heap.size := ⟨hb.1.trans (hb2.mono hb.1.size), Nat.lt_of_lt_of_le hb.2 hb2.size⟩
        clear hb2 hx hb
        go_wp2_with fail
        refine (U.out _).mono ?_; rintro e w3 ⟨rfl, hb4⟩
        have hx3 := hx2.below hb4 hb3.2
        have hb := hb3.1.trans (hb4.mono hb3.1.size)
        clear hb4 hx2 hb3
        obtain ⟨c0, c1, c2, c3, f0, f1, f2, f3⟩ := hx3
        go_wp2_with fail
        exact bodyPost_ret (v := tokV t none) (by simp [results, Tryz.results71, go_sem, tokV, c0, c1, c2, c3]) rfl ⟨by rw [HC.out], (((hb.setCell (Nat.le_refl _) _).setCell (Nat.le_refl _) _).setCell (Nat.le_refl _) _).setCell (Nat.le_refl _) _⟩
end Go.Proofs.YtldgbdmiebipnaaGreatDoor

namespace Go.Proofs.YtldgbdmiebipnaaGreatDoor
open Go.RowKit

set_option maxRecDepth 100000 in
set_option maxHeartbeats 400000 in
theorem sign_fn (s : ByteArray) (h0 : 0 < s.size) (hc : cls (s[0].toNat : Int) = 4) (hs : s.size ≤ 1000000) (w : World) (hT : Tabs w) :
    Calls Tryz.prog 74 #[.string s] w fun e w' => e = .returned (tokenV s) ∧ Below w.heap.size w w' := by
  have hi : (0 : Int) < (s.size : Int) := by omega
  have HT := Lib.hid hT
  have hle := run_le s (i := 1) (by omega)
  obtain ⟨m, hm⟩ : ∃ m, m = 1 + run s 1 := ⟨_, rfl⟩
  have hms : m ≤ s.size := by omega
  have P := Lib.hid (fun w => parts_any s 1 1 m rfl hm (by omega) (by omega) w)
  have hx := sign_text hm h0
  have hh := head_first h0
  have hr := run_one s
  obtain ⟨k, x, n, hS⟩ := tokenV_shape s
  have HS := Lib.hid hS
  clear hS
  by_cases h36 : (s[0].toNat : Int) = 36
  · have hq : ((s[0].toNat : Int) == 36) = true := by rw [beq_iff_eq]; exact h36
    have ht := tokL_36 (l := s.data.toList) (by rw [hh]; exact h36)
    rw [← hr, ← hm, ← hx] at ht
    have HV := Lib.hid (tokenV_num ht)
    have N := Lib.hid (fun w hT => number_fn 4 (s.extract 0 m) _ 1 1 1 m rfl (by simp; omega) rfl (by simp; omega) w hT)
    clear hT hm hx hh hr h36 ht hc
    go_enter Tryz.func74, Tryz.ntmps74
    go_wp2_with fail
    refine (P.out _).mono ?_; rintro e w1 ⟨rfl, rfl⟩
    go_wp2_with fail
    refine (N.out _ (HT.out.below ((Below.refl _ _).alloc (Nat.le_refl _) _))).mono ?_; rintro e w1 ⟨rfl, hb⟩
    rw [HV.out, HS.out]
    obtain ⟨c0, c1, c2, c3, f0, f1, f2, f3⟩ := box_after hb
    replace hb := below_box hb
    go_wp2_with fail
    exact bodyPost_ret (v := .agg #[.int .i64 k, .string x, .int .i64 n, .int .i64 0]) (by simp [results, Tryz.results74, go_sem, c0, c1, c2, c3]) rfl ⟨by rw [HS.out], (((hb.setCell (Nat.le_refl _) _).setCell (Nat.le_refl _) _).setCell (Nat.le_refl _) _).setCell (Nat.le_refl _) _⟩
  · by_cases h37 : (s[0].toNat : Int) = 37
    · have hq : ((s[0].toNat : Int) == 36) = false := by rw [beq_eq_false_iff_ne]; exact h36
      have hq2 : ((s[0].toNat : Int) == 37) = true := by rw [beq_iff_eq]; exact h37
      have ht := tokL_37 (l := s.data.toList) (by rw [hh]; exact h37)
      rw [← hr, ← hm, ← hx] at ht
      have HV := Lib.hid (tokenV_num ht)
      have N := Lib.hid (fun w hT => number_fn 5 (s.extract 0 m) _ 1 1 0 m rfl (by simp; omega) rfl (by simp; omega) w hT)
      clear hT hm hx hh hr h36 h37 ht hc
      go_enter Tryz.func74, Tryz.ntmps74
      go_wp2_with fail
      refine (P.out _).mono ?_; rintro e w1 ⟨rfl, rfl⟩
      go_wp2_with fail
      refine (N.out _ (HT.out.below ((Below.refl _ _).alloc (Nat.le_refl _) _))).mono ?_; rintro e w1 ⟨rfl, hb⟩
      rw [HV.out, HS.out]
      obtain ⟨c0, c1, c2, c3, f0, f1, f2, f3⟩ := box_after hb
      replace hb := below_box hb
      go_wp2_with fail
      exact bodyPost_ret (v := .agg #[.int .i64 k, .string x, .int .i64 n, .int .i64 0]) (by simp [results, Tryz.results74, go_sem, c0, c1, c2, c3]) rfl ⟨by rw [HS.out], (((hb.setCell (Nat.le_refl _) _).setCell (Nat.le_refl _) _).setCell (Nat.le_refl _) _).setCell (Nat.le_refl _) _⟩
    · have hq : ((s[0].toNat : Int) == 36) = false := by rw [beq_eq_false_iff_ne]; exact h36
      have hq2 : ((s[0].toNat : Int) == 37) = false := by rw [beq_eq_false_iff_ne]; exact h37
      have ht := tokL_sign (l := s.data.toList) (by rw [hh]; exact h36) (by rw [hh]; exact h37) (by rw [hh]; exact hc)
      have HV := Lib.hid (tokenV_some ht)
      clear hT hm hx hh hr h36 h37 ht hc HS
      go_enter Tryz.func74, Tryz.ntmps74
      go_wp2_with fail
      exact bodyPost_ret (v := tokV (s.extract 0 1) (some ⟨6, 0, 1⟩)) (by simp [results, Tryz.results74, go_sem, tokV]) rfl ⟨by rw [HV.out], (Below.refl _ _).alloc (Nat.le_refl _) _⟩
set_option maxRecDepth 100000 in
set_option maxHeartbeats 1000000 in
theorem token_fn (s : ByteArray) (h0 : 0 < s.size) (hs : s.size ≤ 1000000) (w : World) (hT : Tabs w) :
    Calls Tryz.prog 50 #[.string s] w fun e w' => e = .returned (tokenV s) ∧ Below w.heap.size w w' := by
  have hi : (0 : Int) < (s.size : Int) := by omega
  have HT := Lib.hid hT
  have hle := run_le s (i := 0) (by omega)
  obtain ⟨m, hm⟩ : ∃ m, m = 0 + run s 0 := ⟨_, rfl⟩
  have hms : m ≤ s.size := by omega
  have P := Lib.hid (fun w => parts_any s 0 0 m rfl hm (by omega) (by omega) w)
  have hm0 : m = run s 0 := by omega
  have hx := word_text s
  rw [← hm0] at hx
  have hr := run_zero s
  rw [← hm0] at hr
  have hh := head_first h0
  have hxl : (s.extract 0 m).data.toList = s.data.toList.takeWhile pc := by rw [ext_list, List.drop_zero, hr, tw_take]
  have hbd := cls_bd (s[0].toNat : Int)
  obtain ⟨k, x, n, hS⟩ := tokenV_shape s
  have HS := Lib.hid hS
  clear hS
  have hw : cls (s[0].toNat : Int) = 1 ∨ cls (s[0].toNat : Int) = 2 → tokL s.data.toList = wordCut (s.extract 0 m) m := fun h => by
    rw [tokL_word (by rw [hh]; exact h), hx, hr]
  have hd : cls (s[0].toNat : Int) = 3 → tokL s.data.toList = numCut 3 (s.extract 0 m).data.toList 0 m := fun h => by
    rw [tokL_digit (by rw [hh]; exact h), hxl, hr]
  have hn : cls (s[0].toNat : Int) = 0 ∨ cls (s[0].toNat : Int) = 5 → tokL s.data.toList = none := fun h => tokL_none (by rw [hh]; exact h)
  obtain ⟨c, hc⟩ : ∃ c, c = cls (s[0].toNat : Int) := ⟨_, rfl⟩
  rw [← hc] at hw hd hn hbd
  have HC := Lib.hid hc
  have S := Lib.hid (fun (h : c = 4) w hT => sign_fn s h0 (hc.symm.trans h) hs w hT)
  have CL := Lib.hid (fun w => (class_any (s[0].toNat : Int) w).mono fun e w' h => (show e = .returned (.int .i64 c) ∧ w = w' by rw [hc]; exact h))
  clear hc hT hx hr hh hm hm0
  rcases (show c = 1 ∨ c = 2 ∨ c = 3 ∨ c = 4 ∨ c = 0 ∨ c = 5 from by omega) with h | h | h | h | h | h
  · have HV := Lib.hid (tokenV_word (hw (.inl h)) rfl)
    have W := Lib.hid (fun w => word_fn (s.extract 0 m) m (by simp; omega) w)
    subst h
    clear hw hd hn hxl
    go_enter Tryz.func50, Tryz.ntmps50
    go_wp2_with fail
    refine (CL.out _).mono ?_; rintro e w1 ⟨rfl, rfl⟩
    go_wp2_with fail
    refine (P.out _).mono ?_; rintro e w1 ⟨rfl, rfl⟩
    go_wp2_with fail
    refine (W.out _).mono ?_; rintro e w1 ⟨rfl, hb⟩
    rw [HV.out, HS.out]
    obtain ⟨c0, c1, c2, c3, f0, f1, f2, f3⟩ := box_after hb
    replace hb := below_box hb
    go_wp2_with fail
    exact bodyPost_ret (v := .agg #[.int .i64 k, .string x, .int .i64 n, .int .i64 0]) (by simp [results, Tryz.results50, go_sem, c0, c1, c2, c3]) rfl ⟨by rw [HS.out], (((hb.setCell (Nat.le_refl _) _).setCell (Nat.le_refl _) _).setCell (Nat.le_refl _) _).setCell (Nat.le_refl _) _⟩
  · have HV := Lib.hid (tokenV_word (hw (.inr h)) rfl)
    have W := Lib.hid (fun w => word_fn (s.extract 0 m) m (by simp; omega) w)
    subst h
    clear hw hd hn hxl
    go_enter Tryz.func50, Tryz.ntmps50
    go_wp2_with fail
    refine (CL.out _).mono ?_; rintro e w1 ⟨rfl, rfl⟩
    go_wp2_with fail
    refine (P.out _).mono ?_; rintro e w1 ⟨rfl, rfl⟩
    go_wp2_with fail
    refine (W.out _).mono ?_; rintro e w1 ⟨rfl, hb⟩
    rw [HV.out, HS.out]
    obtain ⟨c0, c1, c2, c3, f0, f1, f2, f3⟩ := box_after hb
    replace hb := below_box hb
    go_wp2_with fail
    exact bodyPost_ret (v := .agg #[.int .i64 k, .string x, .int .i64 n, .int .i64 0]) (by simp [results, Tryz.results50, go_sem, c0, c1, c2, c3]) rfl ⟨by rw [HS.out], (((hb.setCell (Nat.le_refl _) _).setCell (Nat.le_refl _) _).setCell (Nat.le_refl _) _).setCell (Nat.le_refl _) _⟩
  · have HV := Lib.hid (tokenV_num (hd h))
    have N := Lib.hid (fun w hT => number_fn 3 (s.extract 0 m) (s.extract 0 m) 0 0 0 m rfl (by omega) (ext_whole _) (by simp; omega) w hT)
    subst h
    clear hw hd hn hxl
    go_enter Tryz.func50, Tryz.ntmps50
    go_wp2_with fail
    refine (CL.out _).mono ?_; rintro e w1 ⟨rfl, rfl⟩
    go_wp2_with fail
    refine (P.out _).mono ?_; rintro e w1 ⟨rfl, rfl⟩
    go_wp2_with fail
    refine (N.out _ (HT.out.below ((Below.refl _ _).alloc (Nat.le_refl _) _))).mono ?_; rintro e w1 ⟨rfl, hb⟩
    rw [HV.out, HS.out]
    obtain ⟨c0, c1, c2, c3, f0, f1, f2, f3⟩ := box_after hb
    replace hb := below_box hb
    go_wp2_with fail
    exact bodyPost_ret (v := .agg #[.int .i64 k, .string x, .int .i64 n, .int .i64 0]) (by simp [results, Tryz.results50, go_sem, c0, c1, c2, c3]) rfl ⟨by rw [HS.out], (((hb.setCell (Nat.le_refl _) _).setCell (Nat.le_refl _) _).setCell (Nat.le_refl _) _).setCell (Nat.le_refl _) _⟩
  · have G := Lib.hid (fun w hT => S.out h w hT)
    subst h
    clear hw hd hn hxl S
    go_enter Tryz.func50, Tryz.ntmps50
    go_wp2_with fail
    refine (CL.out _).mono ?_; rintro e w1 ⟨rfl, rfl⟩
    go_wp2_with fail
    refine (G.out _ (HT.out.below ((Below.refl _ _).alloc (Nat.le_refl _) _))).mono ?_; rintro e w1 ⟨rfl, hb⟩
    rw [HS.out]
    obtain ⟨c0, c1, c2, c3, f0, f1, f2, f3⟩ := box_after hb
    replace hb := below_box hb
    go_wp2_with fail
    exact bodyPost_ret (v := .agg #[.int .i64 k, .string x, .int .i64 n, .int .i64 0]) (by simp [results, Tryz.results50, go_sem, c0, c1, c2, c3]) rfl ⟨by rw [HS.out], (((hb.setCell (Nat.le_refl _) _).setCell (Nat.le_refl _) _).setCell (Nat.le_refl _) _).setCell (Nat.le_refl _) _⟩
  · have HV := Lib.hid (tokenV_none (hn (.inl h)))
    subst h
    clear hw hd hn hxl HS
    go_enter Tryz.func50, Tryz.ntmps50
    go_wp2_with fail
    refine (CL.out _).mono ?_; rintro e w1 ⟨rfl, rfl⟩
    go_wp2_with fail
    exact bodyPost_ret (v := tokV ⟨#[]⟩ none) (by simp [results, Tryz.results50, go_sem, tokV]) rfl ⟨by rw [HV.out], (Below.refl _ _).alloc (Nat.le_refl _) _⟩
  · have HV := Lib.hid (tokenV_none (hn (.inr h)))
    subst h
    clear hw hd hn hxl HS
    go_enter Tryz.func50, Tryz.ntmps50
    go_wp2_with fail
    refine (CL.out _).mono ?_; rintro e w1 ⟨rfl, rfl⟩
    go_wp2_with fail
    exact bodyPost_ret (v := tokV ⟨#[]⟩ none) (by simp [results, Tryz.results50, go_sem, tokV]) rfl ⟨by rw [HV.out], (Below.refl _ _).alloc (Nat.le_refl _) _⟩
end Go.Proofs.YtldgbdmiebipnaaGreatDoor

namespace Go.Proofs.YtldgbdmiebipnaaGreatDoor
open Go.RowKit

/-- A row of tokens, that has room for them. -/
def ToksC (w : World) (v : Value) (ts : List Tok) : Prop := Toks w v ts ∧ ∃ a c, v = .slice a ts.length c ∧ ts.length ≤ c
theorem ToksC.none_ (w : World) (a : Option Addr) (c : Nat) : ToksC w (.slice a 0 c) [] := ⟨Toks.none_ _ _ _, a, c, rfl, Nat.zero_le _⟩
theorem toksC_of_own {w : World} {base : Nat} {e : TypeId} {v : Value} {ts : List Tok} (h : w.ownsRow base e 4 v ts.length (rowOf ts)) (hl : ts.length ≤ 9223372036854775807) : ToksC w v ts := by
  refine ⟨toks_of_own h hl, ?_⟩
  obtain ⟨_, ⟨rfl, h0⟩ | ⟨g, cap, cur, rfl, _, _, hcap, _⟩⟩ := h
  · exact ⟨none, 0, by rw [h0], by omega⟩
  · exact ⟨_, cap, rfl, hcap⟩
def ScanPostC (s : ByteArray) (w : World) (e : Ending) (w' : World) : Prop :=
  ∃ v, e = .returned (.tuple #[v, .agg #[.int .i64 (outErr s), .int .i64 (outAt s)]]) ∧ ToksC w' v (outToks s) ∧ Below w.heap.size w w'

set_option maxRecDepth 100000 in
set_option maxHeartbeats 8000000 in
theorem lscanC_any (s : ByteArray) (hs : s.size ≤ 1000000) (w : World) (hT : Tabs w) :
    Calls Tryz.prog 27 #[.string s] w (ScanPostC s w) := by
  obtain ⟨i0, hi, hz0, hz1, hz2⟩ := info_parts tokInfo
  have HT := Lib.hid hT
  clear hT
  by_cases h8 : s.size ≤ 8192
  · have h8' : (s.size : Int) ≤ 8192 := by omega
    have CL := Lib.hid (fun b w => class_any b w)
    have TK := Lib.hid (fun i (h0 : i < s.size) w hT => token_fn (s.extract i s.size) (by simp; omega) (by simp; omega) w hT)
    go_enter Tryz.func27, Tryz.ntmps27
    go_wp2
    go_step3
    go_wp2
    go_step3
    go_wp2
    go_loopg [4, 5] s.size (fun g o j wr => ∃ (i : Nat) (acc : List Tok), s.size - i ≤ g ∧ j = .int .i64 i ∧ wr.ownsRow (w.heap.size + 1) 50 4 o acc.length (rowOf acc) ∧ ScanTo s i acc ∧ Below (w.heap.size + 1) (w.alloc (.cells #[.int .i64 0, .int .i64 0] 26)) wr)
    case atStart => exact ⟨0, [], by omega, rfl, World.ownsRow_nil _ _ _ _, scan_start s, Below.refl _ _⟩
    case round =>
      obtain ⟨i, acc, hg, rfl, hown, hscan, hb⟩ := hrel
      have hbs := hb.size
      simp at hbs
      by_cases hlt : i < s.size
      · have hil : (i : Int) < (s.size : Int) := by omega
        by_cases h5 : cls (s[i].toNat : Int) = 5
        · have C := Lib.hid (fun w => (CL.out (s[i].toNat : Int) w).mono fun e w' h => (show e = .returned (.int .i64 5) ∧ w = w' by rw [← h5]; exact h))
          have H := Lib.hid (scan_space hscan hlt h5)
          clear h5 hscan
          go_wp2_with fail
          refine (C.out _).mono ?_; rintro e w1 ⟨rfl, rfl⟩
          go_wp2_with fail
          go_roundg (s.size - (i + 1))
          case measure => omega
          case rel => exact ⟨i + 1, acc, by omega, by go_num, hown, H.out, hb⟩
        · obtain ⟨c, hc⟩ : ∃ c, c = cls (s[i].toNat : Int) := ⟨_, rfl⟩
          have C := Lib.hid (fun w => (CL.out (s[i].toNat : Int) w).mono fun e w' h => (show e = .returned (.int .i64 c) ∧ w = w' by rw [hc]; exact h))
          have hc5 : (c == 5) = false := by rw [beq_eq_false_iff_ne, hc]; exact h5
          by_cases h35 : (s[i].toNat : Int) = 35
          · have hq : ((s[i].toNat : Int) == 35) = true := by rw [beq_iff_eq]; exact h35
            have H := Lib.hid (scan_remark hscan hlt h35)
            have hal : acc.length ≤ i := hscan.2.1
            have hle := rem_le s (i := i) (by omega)
            have hps := rem_pos hlt h35
            obtain ⟨m, hm⟩ : ∃ m, m = i + rem s i := ⟨_, rfl⟩
            rw [← hm] at hle
            have hps : i < m := by omega
            have HM := Lib.hid hm
            clear h35 h5 hc hscan hm
            go_wp2_with fail
            refine (C.out _).mono ?_; rintro e w1 ⟨rfl, rfl⟩
            go_wp2_with fail
            go_loopg [5] s.size (fun g2 j wx => ∃ k : Nat, s.size - k ≤ g2 ∧ k ≤ m ∧ j = .int .i64 k ∧ Hid (m = k + rem s k) ∧ wx = wr)
            case atStart => exact ⟨i, by omega, by omega, rfl, Lib.hid HM.out, rfl⟩
            case round =>
              obtain ⟨k, hg2, hk, rfl, HK, rfl⟩ := hrel
              by_cases hkl : k < m
              · have hks : (k : Int) < (s.size : Int) := by omega
                have hks' : k < s.size := by omega
                have hn : ((s[k].toNat : Int) == 10) = false := by
                  cases hn : ((s[k].toNat : Int) == 10) with
                  | true => have := rem_none s hks' hn; have := HK.out; omega
                  | false => rfl
                have HR := Lib.hid (rem_some s hks' hn)
                go_wp2_with fail
                go_roundg (s.size - (k + 1))
                case measure => omega
                case rel => exact ⟨k + 1, by omega, by omega, by go_num, Lib.hid (by have := HR.out; have := HK.out; omega), rfl⟩
              · obtain rfl : k = m := by omega
                by_cases hks : k < s.size
                · have hks2 : (k : Int) < (s.size : Int) := by omega
                  have hn : ((s[k].toNat : Int) == 10) = true := by
                    cases hn : ((s[k].toNat : Int) == 10) with
                    | true => rfl
                    | false => have := rem_some s hks hn; have := HK.out; omega
                  go_wp2_with fail
                  go_roundg (s.size - k)
                  case measure => omega
                  case rel => exact ⟨k, acc, by omega, rfl, hown, by rw [HM.out]; exact H.out, hb⟩
                · have hks2 : ¬ (k : Int) < (s.size : Int) := by omega
                  have hke : k = s.size := by omega
                  have HS : scanS s = .inr (acc ++ [endTok s]) := scan_end (i := k) (by rw [HM.out]; exact H.out) hks
                  clear HM H HK
                  subst hke
                  have HO := Lib.hid (out_good h8 HS)
                  clear HS
                  go_wp2_with (at_builtin; refine wpList_append_own _ rfl _ _ 46 rfl (w.heap.size + 1) 50 i0 (.agg #[.int .i64 0, .string ⟨#[]⟩, .int .i64 0, .int .i64 0]) 4 40 Tryz.underlying46 hi hz0 hz1 hz2 rfl (by decide) _ acc.length _ rfl (hown.alloc _) ⟨wr.heap.size, 0, none⟩ 1 1 [.int .i64 0, .string ⟨#[]⟩, .int .i64 0, .int .i64 s.size] rfl rfl ?e1 ?e2 ?e3 ?e4 ?e5 ?_)
                  case e2 => exact ⟨rfl, rfl, rfl, rfl⟩
                  case e3 => unfold maxLen; omega
                  case e4 => omega
                  case e5 => omega
                  intro v' w3 hown' hgrow _
                  replace hb := (hb.alloc (by omega) _).grown hgrow (by simp; omega) (own_row_ge hown)
                  have hown3 : w3.ownsRow (w.heap.size + 1) 50 4 v' (acc ++ [endTok s]).length (rowOf (acc ++ [endTok s])) := by
                    rw [rowOf_snoc, List.length_append]; exact hown'
                  have ht3 : ∀ x y, ToksC ((w3.setCell ⟨w.heap.size, 0, none⟩ x).setCell ⟨w.heap.size, 1, none⟩ y) v' (acc ++ [endTok s]) := fun x y =>
                    toksC_of_own (ownsRow_setCell_below (ownsRow_setCell_below hown3 (by show w.heap.size < _; omega) x) (by show w.heap.size < _; omega) y) (by simp; omega)
                  obtain ⟨c0, c1, f0, f1⟩ := pair_after hb
                  have hb' := below_pair hb
                  clear hown hown' hgrow hown3 hb
                  have HT3 := Lib.hid ht3
                  clear ht3
                  go_wp2_with fail
                  (try rw [Exit.noGoto_ret])
                  exact bodyPost_ret (v := .tuple #[v', .agg #[.int .i64 0, .int .i64 0]]) (by simp [results, Tryz.results27, go_sem, c0, c1]) rfl ⟨v', by rw [HO.out.2.1, HO.out.2.2], by rw [HO.out.1]; exact HT3.out _ _, (hb'.setCell (Nat.le_refl _) _).setCell (Nat.le_refl _) _⟩
          · have hq : ((s[i].toNat : Int) == 35) = false := by rw [beq_eq_false_iff_ne]; exact h35
            have A := Lib.hid (fun w hT => TK.out i hlt w hT)
            cases htok : tokL (s.data.toList.drop i) with
            | none =>
              have HB := Lib.hid (out_bad h8 (scan_bad hscan hlt h5 h35 htok))
              have HV := Lib.hid (show tokenV (s.extract i s.size) = .agg #[.int .i64 0, .string ⟨#[]⟩, .int .i64 0, .int .i64 0] from tokenV_none (by rw [rest_list]; exact htok))
              clear h35 h5 hc hscan htok hown
              go_wp2_with fail
              refine (C.out _).mono ?_; rintro e w1 ⟨rfl, rfl⟩
              go_wp2_with fail
              refine (A.out _ (HT.out.below (below_pair hb))).mono ?_; rintro e w2 ⟨rfl, hb2⟩
              rw [HV.out]
              replace hb := hb.trans (hb2.mono (by omega))
              have hbs2 := hb.size
              simp at hbs2
              clear hb2
              replace hb := hb.alloc (by omega) (.cells #[.int .i64 0, .string ⟨#[]⟩, .int .i64 0, .int .i64 0] 50)
              obtain ⟨c0, c1, f0, f1⟩ := pair_after hb
              have hb' := below_pair hb
              clear hb
              go_wp2_with fail
              (try rw [Exit.noGoto_ret])
              exact bodyPost_ret (v := .tuple #[.slice none 0 0, .agg #[.int .i64 2, .int .i64 i]]) (by simp [results, Tryz.results27, go_sem, c0, c1]) rfl ⟨.slice none 0 0, by rw [HB.out.2.1, HB.out.2.2], by rw [HB.out.1]; exact ToksC.none_ _ _ _, (hb'.setCell (Nat.le_refl _) _).setCell (Nat.le_refl _) _⟩
            | some cu =>
              have hH := scan_token hscan hlt h5 h35 htok
              have hal : acc.length ≤ i := hscan.2.1
              have hil2 : i + cu.len ≤ s.size := hH.1.1
              have hkd := tokL_kind htok
              have hkd2 : (cu.kind == 0) = false := by rw [beq_eq_false_iff_ne]; exact hkd
              have hV : tokenV (s.extract i s.size) = .agg #[.int .i64 cu.kind, .string (s.extract i (i + cu.len)), .int .i64 cu.n, .int .i64 0] := by
                rw [tokenV_some (by rw [rest_list]; exact htok), rest_text s hil2]; rfl
              have H := Lib.hid hH.1
              have hlp := hH.2
              have hxs := hb_text ⟨hlp, hil2⟩
              obtain ⟨x, hx⟩ : ∃ x, x = s.extract i (i + cu.len) := ⟨_, rfl⟩
              rw [← hx] at hV hxs
              have HXS := Lib.hid hxs
              have hxb : x.size ≤ 8192 := by omega
              have HE : Hid ((⟨cu.kind, x, cu.n, i⟩ : Tok) = tokAt s i cu) := by subst hx; rfl
              have HV := Lib.hid hV
              obtain ⟨k, hk⟩ : ∃ k, k = cu.kind := ⟨_, rfl⟩
              obtain ⟨n, hn⟩ : ∃ n, n = cu.n := ⟨_, rfl⟩
              rw [← hk] at HV HE hkd2
              rw [← hn] at HV HE
              clear h35 h5 hc hscan htok hH hkd hV hxs hx hk hn
              go_wp2_with fail
              refine (C.out _).mono ?_; rintro e w1 ⟨rfl, rfl⟩
              go_wp2_with fail
              refine (A.out _ (HT.out.below (below_pair hb))).mono ?_; rintro e w2 ⟨rfl, hb2⟩
              rw [HV.out]
              have hown2 : w2.ownsRow (w.heap.size + 1) 50 4 u4 acc.length (rowOf acc) := own_below hown hb2
              replace hb := hb.trans (hb2.mono (by omega))
              have hbs2 := hb.size
              simp at hbs2
              clear hb2 hown
              go_wp2_with (at_builtin; refine wpList_append_own _ rfl _ _ 46 rfl (w.heap.size + 1) 50 i0 (.agg #[.int .i64 0, .string ⟨#[]⟩, .int .i64 0, .int .i64 0]) 4 40 Tryz.underlying46 hi hz0 hz1 hz2 rfl (by decide) _ acc.length _ rfl ((hown2.alloc _).alloc _) ⟨w2.heap.size + 1, 0, none⟩ 1 1 [.int .i64 k, .string x, .int .i64 n, .int .i64 i] rfl rfl ?c1 ?c2 ?c3 ?c4 ?c5 ?_)
              case c1 => exact new_row4 _ _ (by simp) _ _ _ _ _
              case c2 => intro u hu; simp at hu; rcases hu with rfl | rfl | rfl | rfl <;> rfl
              case c3 => unfold maxLen; omega
              case c4 => omega
              case c5 => simp; omega
              intro v' w3 hown' hgrow _
              have hb' : Below (w.heap.size + 1) (w.alloc (.cells #[.int .i64 0, .int .i64 0] 26)) w3 := ((hb.alloc (by omega) _).alloc (by simp; omega) _).grown hgrow (by simp; omega) (own_row_ge hown2)
              have hown3 : w3.ownsRow (w.heap.size + 1) 50 4 v' (acc ++ [tokAt s i cu]).length (rowOf (acc ++ [tokAt s i cu])) := by
                rw [rowOf_snoc, ← HE.out, List.length_append]; exact hown'
              have hB : Box ((w2.alloc (.cells #[.int .i64 k, .string x, .int .i64 n, .int .i64 i] 50)).alloc (.cells #[.int .i64 k, .string x, .int .i64 n, .int .i64 i] 50)) w2.heap.size (.int .i64 k) (.string x) (.int .i64 n) (.int .i64 i) :=
                (box_new _ _ _ _ _ _).below ((Below.refl _ _).alloc (Nat.le_refl _) _) (by simp)
              have hcx := hB.grown hgrow (by simp; omega) (fun g hg e => by have := own_row_lt hown2 g hg; omega)
              clear hown2 hown' hgrow hB hb
              go_wp2_with fail
              go_roundg (s.size - (i + cu.len))
              case measure => omega
              case rel => exact ⟨i + cu.len, acc ++ [tokAt s i cu], by omega, by have := HXS.out; congr 1; omega, hown3, H.out, hb'⟩
      · have HS := scan_end hscan hlt
        have hal : acc.length ≤ i := hscan.2.1
        have hie : i = s.size := by have := hscan.1; omega
        subst hie
        clear hscan
        have hil : ¬ ((s.size : Int) < (s.size : Int)) := by omega
        have HO := Lib.hid (out_good h8 HS)
        clear HS
        go_wp2_with (at_builtin; refine wpList_append_own _ rfl _ _ 46 rfl (w.heap.size + 1) 50 i0 (.agg #[.int .i64 0, .string ⟨#[]⟩, .int .i64 0, .int .i64 0]) 4 40 Tryz.underlying46 hi hz0 hz1 hz2 rfl (by decide) _ acc.length _ rfl (hown.alloc _) ⟨wr.heap.size, 0, none⟩ 1 1 [.int .i64 0, .string ⟨#[]⟩, .int .i64 0, .int .i64 s.size] rfl rfl ?d1 ?d2 ?d3 ?d4 ?d5 ?_)
        case d2 => exact ⟨rfl, rfl, rfl, rfl⟩
        case d3 => unfold maxLen; omega
        case d4 => omega
        case d5 => omega
        intro v' w3 hown' hgrow _
        replace hb := (hb.alloc (by omega) _).grown hgrow (by simp; omega) (own_row_ge hown)
        have hown3 : w3.ownsRow (w.heap.size + 1) 50 4 v' (acc ++ [endTok s]).length (rowOf (acc ++ [endTok s])) := by
          rw [rowOf_snoc, List.length_append]; exact hown'
        have ht3 : ∀ x y, ToksC ((w3.setCell ⟨w.heap.size, 0, none⟩ x).setCell ⟨w.heap.size, 1, none⟩ y) v' (acc ++ [endTok s]) := fun x y =>
          toksC_of_own (ownsRow_setCell_below (ownsRow_setCell_below hown3 (by show w.heap.size < _; omega) x) (by show w.heap.size < _; omega) y) (by simp; omega)
        obtain ⟨c0, c1, f0, f1⟩ := pair_after hb
        have hb' := below_pair hb
        clear hown hown' hgrow hown3 hb
        have HT3 := Lib.hid ht3
        clear ht3
        go_wp2_with fail
        (try rw [Exit.noGoto_ret])
        exact bodyPost_ret (v := .tuple #[v', .agg #[.int .i64 0, .int .i64 0]]) (by simp [results, Tryz.results27, go_sem, c0, c1]) rfl ⟨v', by rw [HO.out.2.1, HO.out.2.2], by rw [HO.out.1]; exact HT3.out _ _, (hb'.setCell (Nat.le_refl _) _).setCell (Nat.le_refl _) _⟩
  · have h8' : ¬ ((s.size : Int) ≤ 8192) := by omega
    have HO := Lib.hid (out_long h8)
    go_enter Tryz.func27, Tryz.ntmps27
    go_wp2
    go_step3
    go_wp2_with fail
    (try rw [Exit.noGoto_ret])
    exact bodyPost_ret (v := .tuple #[.slice none 0 0, .agg #[.int .i64 3, .int .i64 0]]) (by simp [results, Tryz.results27, go_sem]) rfl ⟨.slice none 0 0, by rw [HO.out.2.1, HO.out.2.2], by rw [HO.out.1]; exact ToksC.none_ _ _ _, (Below.refl _ _).alloc (Nat.le_refl _) _⟩
end Go.Proofs.YtldgbdmiebipnaaGreatDoor

namespace Go.Proofs.YtldgbdmiebipnaaGreatDoor
open Go.RowKit

theorem fault_is (a : Int) (w : World) : (Instr.typeAssert (.iface 26 (.agg #[.int .i64 2, .int .i64 a])) 20 26 false).run Tryz.prog w = .ok (.agg #[.int .i64 2, .int .i64 a]) w := by kernel_rfl

set_option maxRecDepth 100000 in
set_option maxHeartbeats 1000000 in
theorem catchI_panics (p : Nat) (x0 x1 : Value) (a : Int) (older : List PanicEntry) (w : World) (h0 : w.cell? ⟨p, 0, none⟩ = some x0) (h1 : w.cell? ⟨p, 1, none⟩ = some x1) (f0 : w.frozen? ⟨p, 0, none⟩ = false) (f1 : w.frozen? ⟨p, 1, none⟩ = false) :
    CallsD Tryz.prog 28 #[.pointer (some ⟨p, 0, none⟩)] (.panicking ({ v := .iface 26 (.agg #[.int .i64 2, .int .i64 a]), recovered := false } :: older)) w fun e u' w' =>
      e = .returned (.tuple #[]) ∧ u' = .panicking ({ v := .iface 26 (.agg #[.int .i64 2, .int .i64 a]), recovered := true } :: older) ∧ w' = (w.setCell ⟨p, 0, none⟩ (.int .i64 2)).setCell ⟨p, 1, none⟩ (.int .i64 a) := by
  have ta := fault_is a
  refine callsD_of_wpS Tryz.func28 rfl fun c₀ cs hu => ?_
  apply wpS_seq
  apply wpS_region
  simp [wpOpsS, go_sem, recoverD, hu, Tryz.ntmps28, Exit.thenS]
  refine wpS_of_wp ?_
  go_wp2
  simp [bodyPostS, results, Tryz.results28, go_sem]

set_option maxRecDepth 100000 in
set_option maxHeartbeats 1000000 in
theorem catchI_idle (p : Nat) (w : World) :
    CallsD Tryz.prog 28 #[.pointer (some ⟨p, 0, none⟩)] .returning w fun e u' w' => e = .returned (.tuple #[]) ∧ u' = .returning ∧ w' = w := by
  refine callsD_of_wpS Tryz.func28 rfl fun c₀ cs hu => ?_
  apply wpS_seq
  apply wpS_region
  simp [wpOpsS, go_sem, recoverD, hu, Tryz.ntmps28, Exit.thenS]
  refine wpS_of_wp ?_
  go_wp2
  cases c₀
  simp_all [bodyPostS, results, Tryz.results28, go_sem]

set_option maxRecDepth 100000 in
set_option maxHeartbeats 1000000 in
theorem catchT_panics (p : Nat) (x0 x1 : Value) (a : Int) (older : List PanicEntry) (w : World) (h0 : w.cell? ⟨p, 0, none⟩ = some x0) (h1 : w.cell? ⟨p, 1, none⟩ = some x1) (f0 : w.frozen? ⟨p, 0, none⟩ = false) (f1 : w.frozen? ⟨p, 1, none⟩ = false) :
    CallsD Tryz.prog 46 #[.pointer (some ⟨p, 0, none⟩)] (.panicking ({ v := .iface 26 (.agg #[.int .i64 2, .int .i64 a]), recovered := false } :: older)) w fun e u' w' =>
      e = .returned (.tuple #[]) ∧ u' = .panicking ({ v := .iface 26 (.agg #[.int .i64 2, .int .i64 a]), recovered := true } :: older) ∧ w' = (w.setCell ⟨p, 0, none⟩ (.int .i64 2)).setCell ⟨p, 1, none⟩ (.int .i64 a) := by
  have ta := fault_is a
  refine callsD_of_wpS Tryz.func46 rfl fun c₀ cs hu => ?_
  apply wpS_seq
  apply wpS_region
  simp [wpOpsS, go_sem, recoverD, hu, Tryz.ntmps46, Exit.thenS]
  refine wpS_of_wp ?_
  go_wp2
  simp [bodyPostS, results, Tryz.results46, go_sem]

set_option maxRecDepth 100000 in
set_option maxHeartbeats 1000000 in
theorem catchT_idle (p : Nat) (w : World) :
    CallsD Tryz.prog 46 #[.pointer (some ⟨p, 0, none⟩)] .returning w fun e u' w' => e = .returned (.tuple #[]) ∧ u' = .returning ∧ w' = w := by
  refine callsD_of_wpS Tryz.func46 rfl fun c₀ cs hu => ?_
  apply wpS_seq
  apply wpS_region
  simp [wpOpsS, go_sem, recoverD, hu, Tryz.ntmps46, Exit.thenS]
  refine wpS_of_wp ?_
  go_wp2
  cases c₀
  simp_all [bodyPostS, results, Tryz.results46, go_sem]
end Go.Proofs.YtldgbdmiebipnaaGreatDoor

namespace Go.Proofs.YtldgbdmiebipnaaGreatDoor
open Go.RowKit

/-- What a call of read leaves, of a file. -/
def ReadIPost (s : ByteArray) (w : World) (e : Ending) (w' : World) : Prop :=
  ∃ v, e = .returned (.tuple #[v, .agg #[.int .i64 (parseS s).1, .int .i64 (parseS s).2.1]]) ∧ MadeI w w' v (parseS s).2.2 ∧ Below w.heap.size w w'
/-- What is there, stored again: the world is as it was. -/
theorem setCell_self {W : World} {g i : Nat} {v : Value} (h : W.cell? ⟨g, i, none⟩ = some v) : W.setCell ⟨g, i, none⟩ v = W := by
  have hh : W.heap.modify g (fun
      | .cells c elem frozen => .cells (c.setIfInBounds i v) elem frozen
      | o => o) = W.heap := by
    apply Array.ext_getElem?
    intro k
    rw [Array.getElem?_modify]
    by_cases hk : g = k
    · subst hk
      rw [if_pos rfl]
      unfold World.cell? at h
      cases ho : W.heap[g]? with
      | none => rfl
      | some o =>
        rw [ho] at h
        cases o with
        | cells c t f =>
          simp only [Option.map_some]
          simp at h
          congr 2
          apply Array.ext_getElem?
          intro q
          by_cases hq : i = q
          · subst hq
            rw [Array.getElem?_setIfInBounds]
            rw [if_pos rfl]
            split
            · exact h.symm
            · next hn => rw [Array.getElem?_eq_none (by omega)] at h; cases h
          · rw [Array.getElem?_setIfInBounds_ne hq]
        | _ => rfl
    · rw [if_neg hk]
  exact congrArg (fun q => ({ W with heap := q } : World)) hh
theorem Pair.keeps {w w1 : World} {g : Nat} {x0 x1 : Value} (h : Pair w g x0 x1) (hk : w1.heap[g]? = w.heap[g]?) : Pair w1 g x0 x1 :=
  ⟨(World.cell?_of_block (a := ⟨g, 0, none⟩) hk).trans h.c0, (World.cell?_of_block (a := ⟨g, 1, none⟩) hk).trans h.c1, (World.frozen?_of_block (a := ⟨g, 0, none⟩) hk).trans h.f0, (World.frozen?_of_block (a := ⟨g, 1, none⟩) hk).trans h.f1⟩
theorem Pair.sets {w : World} {g : Nat} {x0 x1 : Value} (h : Pair w g x0 x1) (y0 y1 : Value) : Pair ((w.setCell ⟨g, 0, none⟩ y0).setCell ⟨g, 1, none⟩ y1) g y0 y1 where
  c0 := by rw [World.cell?_setCell_other _ _ _ _ (fun e => by cases e)]; exact World.cell?_setCell_same _ _ _ h.c0
  c1 := by
    refine World.cell?_setCell_same (u := x1) _ _ _ ?_
    rw [World.cell?_setCell_other _ _ _ _ (fun e => by cases e)]; exact h.c1
  f0 := by simp [h.f0]
  f1 := by simp [h.f1]
theorem below_sets2 {B : Nat} {a w : World} (h : Below B a w) {g : Nat} (hg : B ≤ g) (y0 y1 : Value) : Below B a ((w.setCell ⟨g, 0, none⟩ y0).setCell ⟨g, 1, none⟩ y1) := (h.setCell (p := ⟨g, 0, none⟩) hg y0).setCell (p := ⟨g, 1, none⟩) hg y1
/-- A new reader over a text's tokens. -/
theorem rdr_new {W : World} {L : List Tok} {b o c : Nat} (hlt : b < W.heap.size) (hcap : L.length ≤ c) (hpos : 1 ≤ L.length) (ht : ∀ j (h : j < L.length), TokAt W b (o + j * 4) L[j]) :
    Rdr (W.alloc (.cells #[.slice (some ⟨b, o, none⟩) L.length c, .int .i64 0] 78)) W.heap.size b o c L 0 0 := by
  refine ⟨?_, hcap, hlt, fun j hj => (ht j hj).stay (Below.heap_alloc _ _ _ hlt), hpos⟩
  rw [heap_alloc_new]
  simp

set_option maxRecDepth 100000 in
set_option maxHeartbeats 4000000 in
theorem readI_any (s : ByteArray) (hs : s.size ≤ 9000) (w : World) (hT : Tabs w) :
    Calls Tryz.prog 12 #[.string s, .func (.func 13) #[] #[]] w (ReadIPost s w) := by
  have hmf : ∀ (fn : Fn) (first cap : Array Value) (w : World), (Instr.makeFunc fn first cap).run Tryz.prog w = .ok (.func fn first cap) w := fun _ _ _ _ => rfl
  have hB0 : Below w.heap.size w (w.alloc (.cells #[.int .i64 0, .int .i64 0] 26)) := (Below.refl _ _).alloc (Nat.le_refl _) _
  have hz0 : (w.alloc (.cells #[.int .i64 0, .int .i64 0] 26)).heap.size = w.heap.size + 1 := by simp
  have hp := pair_new w (.int .i64 0) (.int .i64 0) 26
  obtain ⟨w0, hw0⟩ : ∃ w0, w.alloc (.cells #[.int .i64 0, .int .i64 0] 26) = w0 := ⟨_, rfl⟩
  rw [hw0] at hB0 hz0 hp
  replace hw0 := Lib.hid hw0
  have SC := lscanC_any s (by omega) w0 (hT.below hB0)
  unfold ScanPostC at SC
  have HP := Lib.hid hp
  have HB0 := Lib.hid hB0
  clear hp hB0
  by_cases h0 : outErr s = 0
  · obtain ⟨h8, ts, hts⟩ := scan_of h0
    obtain ⟨o1, o2, o3⟩ := out_good h8 hts
    rw [o1, o2, o3] at SC
    replace SC := Lib.hid SC
    have HPS := Lib.hid (parseS_of h8 hts)
    have hF := fine_of h8 hts
    have hpos := (textToks_of hts).pos
    have HF := Lib.hid hF
    clear h0 o1 o2 o3 hts hF
    go_enter_defers Tryz.func12, Tryz.ntmps12
    go_wp2_with fail
    rw [hw0.out]
    refine SC.out.mono ?_; rintro e w1 ⟨v, rfl, ⟨hv, a, c, rfl, hcap⟩, hb1⟩
    obtain ⟨p0, p1, pf0, pf1⟩ := HP.out.below hb1 (by omega)
    have HS0 := Lib.hid (setCell_self p0)
    have HS1 := Lib.hid (setCell_self p1)
    obtain ⟨a', c', hvv, _, hv⟩ := hv
    cases hvv
    rcases hv with hv | ⟨b, o, rfl, hlt, hc⟩
    · subst hv; exact absurd hpos (by decide)
    have FI := Lib.hid (file_any HF.out _ (rdr_new hlt hcap hpos hc))
    have hs1 := hb1.size
    have hB1 : Below w.heap.size w (w1.alloc (.cells #[.slice (some ⟨b, o, none⟩) ts.length c, .int .i64 0] 78)) := (HB0.out.trans (hb1.mono HB0.out.size)).alloc (by omega) _
    have hPa := (HP.out.below hb1 (by omega)).below ((Below.refl w1.heap.size w1).alloc (Nat.le_refl _) (.cells #[.slice (some ⟨b, o, none⟩) ts.length c, .int .i64 0] 78)) (by omega)
    have HB1 := Lib.hid hB1
    have HPA := Lib.hid hPa
    have hNg : w.heap.size < w1.heap.size := by omega
    clear hB1 hPa hc
    go_wp2_with fail
    rw [HS0.out, HS1.out]
    refine FI.out.mono ?_
    rintro e w3 (⟨xs, hq, v, rfl, hits, ho⟩ | ⟨j, hq, hd, ho⟩)
    case inl =>
      have hx : parseS s = (0, 0, xs) := by rw [HPS.out, hq]
      have hP3 := HPA.out.keeps (ho.block w.heap.size (by simp; omega) (fun e => by injection e with e; omega))
      have HB3 := Lib.hid (HB1.out.trans (only_under ho (Nat.le_of_lt hNg) (by simp; omega)))
      obtain ⟨q0, q1, qf0, qf1⟩ := hP3
      have HS2 := Lib.hid (setCell_self q0)
      have HS3 := Lib.hid (setCell_self q1)
      have HI := Lib.hid (hits.wide (u := w) (by simp; omega))
      have HX := Lib.hid hx
      obtain ⟨av, cv, rfl, _, _⟩ := hits.its
      clear hx ho hq
      go_wp2_with fail
      refine leaves_cons (f := 28) (args := #[.pointer (some ⟨w.heap.size, 0, none⟩)]) (by simp) (by simp [go_sem]) ?_
      refine (catchI_idle w.heap.size _).mono ?_
      rintro e u' w'' ⟨rfl, rfl, rfl⟩
      rw [HS2.out, HS3.out]
      refine ⟨.tuple #[.slice av xs.length cv, .agg #[.int .i64 0, .int .i64 0]], by simp [results, Tryz.results12, go_sem, q0, q1], ?_⟩
      unfold ReadIPost
      rw [HX.out]
      exact ⟨_, rfl, HI.out, HB3.out⟩
    case inr =>
      have hx : parseS s = (2, (tkD ts j).place, []) := by rw [HPS.out, hq]
      have hP3 := HPA.out.keeps (ho.block w.heap.size (by simp; omega) (fun e => by injection e with e; omega))
      have HB3 := Lib.hid (HB1.out.trans (only_under ho (Nat.le_of_lt hNg) (by simp; omega)))
      obtain ⟨q0, q1, qf0, qf1⟩ := hP3
      have HX := Lib.hid hx
      unfold diesAt fltV at hd
      subst hd
      obtain ⟨tp, htp⟩ : ∃ tp, (tkD ts j).place = tp := ⟨_, rfl⟩
      rw [htp] at HX ⊢
      have r0 : ((w3.setCell ⟨w.heap.size, 0, none⟩ (.int .i64 2)).setCell ⟨w.heap.size, 1, none⟩ (.int .i64 tp)).cell? ⟨w.heap.size, 0, none⟩ = some (.int .i64 2) := by
        rw [World.cell?_setCell_other _ _ _ _ (fun e => by cases e)]; exact World.cell?_setCell_same _ _ _ q0
      have r1 : ((w3.setCell ⟨w.heap.size, 0, none⟩ (.int .i64 2)).setCell ⟨w.heap.size, 1, none⟩ (.int .i64 tp)).cell? ⟨w.heap.size, 1, none⟩ = some (.int .i64 tp) := by
        refine World.cell?_setCell_same (u := .int .i64 0) _ _ _ ?_
        rw [World.cell?_setCell_other _ _ _ _ (fun e => by cases e)]; exact q1
      clear hx ho hq htp
      refine leaves_cons (f := 28) (args := #[.pointer (some ⟨w.heap.size, 0, none⟩)]) (by simp) (by simp [go_sem]) ?_
      refine (catchI_panics w.heap.size _ _ tp [] w3 q0 q1 qf0 qf1).mono ?_
      rintro e u' w'' ⟨rfl, rfl, rfl⟩
      show Leaves _ _ _ _ _ (settle (.panicking [_])) _
      refine ⟨.tuple #[.slice none 0 0, .agg #[.int .i64 2, .int .i64 tp]], by simp [results, Tryz.results12, go_sem, r0, r1], ?_⟩
      unfold ReadIPost
      rw [HX.out]
      exact ⟨_, rfl, MadeI.none_ _ _ _ _, (HB3.out.setCell (p := ⟨w.heap.size, 0, none⟩) (Nat.le_refl _) _).setCell (p := ⟨w.heap.size, 1, none⟩) (Nat.le_refl _) _⟩
  · have HX := Lib.hid (parseS_err h0)
    obtain ⟨er, her⟩ : ∃ er, outErr s = er := ⟨_, rfl⟩
    obtain ⟨ea, hea⟩ : ∃ ea, outAt s = ea := ⟨_, rfl⟩
    rw [her, hea] at SC HX
    rw [her] at h0
    have hn : (er != 0) = true := by simpa using h0
    replace SC := Lib.hid SC
    clear her hea h0
    go_enter_defers Tryz.func12, Tryz.ntmps12
    go_wp2_with fail
    rw [hw0.out]
    refine SC.out.mono ?_; rintro e w1 ⟨v, rfl, ⟨hv, a, c, rfl, hcap⟩, hb1⟩
    have hP1 := HP.out.below hb1 (by omega)
    have HP2 := Lib.hid ((hP1.sets (.int .i64 er) (.int .i64 ea)).sets (.int .i64 er) (.int .i64 ea))
    have HB1 := Lib.hid (below_sets2 (below_sets2 (HB0.out.trans (hb1.mono HB0.out.size)) (Nat.le_refl _) (.int .i64 er) (.int .i64 ea)) (Nat.le_refl _) (.int .i64 er) (.int .i64 ea))
    obtain ⟨p0, p1, pf0, pf1⟩ := hP1
    clear hb1 hv
    go_wp2_with fail
    go_region
    go_wp2_with fail
    obtain ⟨r0, r1, _, _⟩ := HP2.out
    refine ⟨.tuple #[.slice none 0 0, .agg #[.int .i64 er, .int .i64 ea]], by simp [results, Tryz.results12, go_sem, r0, r1], ?_⟩
    unfold ReadIPost
    rw [HX.out]
    exact ⟨_, rfl, MadeI.none_ _ _ _ _, below_drewN HB1.out 1⟩
end Go.Proofs.YtldgbdmiebipnaaGreatDoor

namespace Go.Proofs.YtldgbdmiebipnaaGreatDoor
open Go.RowKit

section
variable {g b o c : Nat} {L : List Tok}
/-- What a call of lone leaves. -/
def LonePost (g : Nat) (L : List Tok) (w : World) (e : Ending) (w' : World) : Prop :=
  ((termP L 0 0).2.2 = true ∧ (tkD L (termP L 0 0).2.1).kind = 0 ∧ ∃ y : Rv, e = .returned y.val ∧ y.t = (termP L 0 0).1 ∧ MadeR w w' y ∧ w.grownBy w' (some g)) ∨
  (((termP L 0 0).2.2 = false ∨ (tkD L (termP L 0 0).2.1).kind ≠ 0) ∧ e = diesAt L (termP L 0 0).2.1 ∧ w.grownBy w' (some g))

set_option maxRecDepth 100000 in
set_option maxHeartbeats 4000000 in
theorem lone_any (hF : Fine L) (W : World) (h : Rdr W g b o c L 0 0) :
    Calls Tryz.prog 26 #[.pointer (some ⟨g, 0, none⟩)] W (LonePost g L W) := by
  have hg := h.glt
  have hgne : W.heap.size ≠ g := by omega
  have OK := Lib.hid (fun (y : Rv) (w' : World) (h1 : (termP L 0 0).2.2 = true) (h2 : (tkD L (termP L 0 0).2.1).kind = 0) (h3 : y.t = (termP L 0 0).1) (h4 : MadeR W w' y) (h5 : W.grownBy w' (some g)) => (show LonePost g L W (.returned y.val) w' from .inl ⟨h1, h2, y, rfl, h3, h4, h5⟩))
  have BAD := Lib.hid (fun (e : Ending) (w' : World) (h1 : (termP L 0 0).2.2 = false ∨ (tkD L (termP L 0 0).2.1).kind ≠ 0) (h2 : e = diesAt L (termP L 0 0).2.1) (h3 : W.grownBy w' (some g)) => (show LonePost g L W e w' from .inr ⟨h1, h2, h3⟩))
  have hB0 : Below W.heap.size W (W.alloc (.cells #[.int .i64 0, .string ⟨#[]⟩, .int .i64 0, .int .i64 0, .slice none 0 0] 39)) := (Below.refl _ _).alloc (Nat.le_refl _) _
  have hr0 := h.below hB0
  have BX := box5_new W (.int .i64 0) (.string ⟨#[]⟩) (.int .i64 0) (.int .i64 0) (.slice none 0 0) 39
  have hz0 : (W.alloc (.cells #[.int .i64 0, .string ⟨#[]⟩, .int .i64 0, .int .i64 0, .slice none 0 0] 39)).heap.size = W.heap.size + 1 := by simp
  obtain ⟨w0, hw0⟩ : ∃ w0, W.alloc (.cells #[.int .i64 0, .string ⟨#[]⟩, .int .i64 0, .int .i64 0, .slice none 0 0] 39) = w0 := ⟨_, rfl⟩
  rw [hw0] at hB0 hr0 BX hz0
  replace hw0 := Lib.hid hw0
  have T := Lib.hid (term_any hF 0 0 (by decide) w0 hr0)
  have HB0 := Lib.hid (only_below hB0 (some g))
  have HBX := Lib.hid BX
  have F := Lib.hid (fun (V : World) (j : Nat) (hv : Rdr V g b o c L j 0) => fail_any V hv)
  clear h hB0 hr0 BX
  go_enter Tryz.func26, Tryz.ntmps26
  go_wp2_with fail
  rw [hw0.out]
  refine T.out.mono ?_; rintro e w1 (⟨hok, y, rfl, hyt, hm, hr1, ho1⟩ | ⟨hok, hd, ho1⟩)
  case inr =>
    have HB := Lib.hid (BAD.out e w1 (.inl hok) hd (only_trans HB0.out ho1))
    unfold diesAt at hd
    subst hd
    clear ho1
    go_wp2_with fail
    exact ⟨rfl, HB.out⟩
  case inl =>
    obtain ⟨⟨kd, s, nn, pp, xs⟩, ya, yc⟩ := y
    have hs1 := ho1.size
    have hB2 : Below w1.heap.size w1 (w1.alloc (.cells #[.int .i64 kd, .string s, .int .i64 nn, .int .i64 pp, .slice ya xs.length yc] 39)) := (Below.refl _ _).alloc (Nat.le_refl _) _
    have HX2 := Lib.hid ((HBX.out.only ho1 hgne).below hB2 (by omega))
    have HO2 := Lib.hid (only_next (only_trans HB0.out ho1) hB2)
    have HR2 := Lib.hid (hr1.below hB2)
    have HY2 := Lib.hid (box5_new w1 (.int .i64 kd) (.string s) (.int .i64 nn) (.int .i64 pp) (.slice ya xs.length yc) 39)
    have HM := Lib.hid hm
    have HYT := Lib.hid hyt
    have HOK := Lib.hid hok
    obtain ⟨j, hj⟩ : ∃ j, (termP L 0 0).2.1 = j := ⟨_, rfl⟩
    rw [hj] at HR2 OK BAD
    have h0 := HR2.out.c0
    have hjl := HR2.out.here
    obtain ⟨t0, t1, t2, t3⟩ := HR2.out.toks j hjl
    have HTI := Lib.hid (tkD_at hjl)
    obtain ⟨tk, htk⟩ : ∃ tk, L[j].kind = tk := ⟨_, rfl⟩
    rw [htk] at t0
    have HTK := Lib.hid (show (tkD L j).kind = tk by rw [HTI.out, htk])
    obtain ⟨n, hn⟩ : ∃ n, L.length - j = n := ⟨_, rfl⟩
    obtain ⟨q, hq⟩ : ∃ q, c - j = q := ⟨_, rfl⟩
    obtain ⟨a, ha⟩ : ∃ a, o + j * 4 = a := ⟨_, rfl⟩
    have hn0 : (0 : Int) < (n : Int) := by omega
    rw [hn, hq, ha] at h0
    rw [ha] at t0 t1 t2 t3
    have hgw := hr1.glt
    have hzw : (w1.alloc (.cells #[.int .i64 kd, .string s, .int .i64 nn, .int .i64 pp, .slice ya xs.length yc] 39)).heap.size = w1.heap.size + 1 := by simp
    unfold Rv.val
    simp only [Tr.kind, Tr.text, Tr.n, Tr.spot, Tr.args]
    obtain ⟨w2, hw2⟩ : ∃ w2, w1.alloc (.cells #[.int .i64 kd, .string s, .int .i64 nn, .int .i64 pp, .slice ya xs.length yc] 39) = w2 := ⟨_, rfl⟩
    rw [hw2] at h0 t0 t1 t2 t3 HX2 HO2 HR2 HY2 hB2 hzw
    obtain ⟨y0, y1, y2, y3, y4, _, _, _, _, _⟩ := HY2.out
    obtain ⟨r0, r1, r2, r3, r4, rf0, rf1, rf2, rf3, rf4⟩ := HX2.out
    have HB2 := Lib.hid hB2
    have HMK := Lib.hid ((hm.wide (u := W) (W := sets5 w2 W.heap.size (.int .i64 kd) (.string s) (.int .i64 nn) (.int .i64 pp) (.slice ya xs.length yc)) (by omega) (by simp; omega) (fun k k1 k2 => by rw [sets5_heap _ _ _ _ _ _ _ k (by omega)]; exact hB2.block k k2)))
    have HX3 := Lib.hid (HX2.out.sets (.int .i64 kd) (.string s) (.int .i64 nn) (.int .i64 pp) (.slice ya xs.length yc))
    have HO3 := Lib.hid (only_sets5 HO2.out (Nat.le_refl _) (.int .i64 kd) (.string s) (.int .i64 nn) (.int .i64 pp) (.slice ya xs.length yc))
    have F2 := F.out w2 j HR2.out
    unfold diesAt at F2
    replace F2 := Lib.hid F2
    clear hok hyt hm hr1 ho1 hj htk hn hq ha hB2
    cases hz : (tk == 0) with
    | true =>
      have hz' : (tk != 0) = false := by rw [bne, hz]; rfl
      have HE := Lib.hid (OK.out ⟨.mk kd s nn pp xs, ya, yc⟩ _ HOK.out (by rw [HTK.out]; simpa using hz) HYT.out HMK.out HO3.out)
      clear hz
      go_wp2_with fail
      (try rw [hw2])
      (try go_wp2_with fail)
      obtain ⟨r0, r1, r2, r3, r4, _, _, _, _, _⟩ := HX3.out
      refine bodyPost_ret (v := .agg #[.int .i64 kd, .string s, .int .i64 nn, .int .i64 pp, .slice ya xs.length yc]) (by simp [results, Tryz.results26, go_sem, r0, r1, r2, r3, r4]) rfl ?_
      exact HE.out
    | false =>
      have hz' : (tk != 0) = true := by rw [bne, hz]; rfl
      have HE := Lib.hid (BAD.out _ w2 (.inr (by rw [HTK.out]; simpa using hz)) rfl HO2.out)
      unfold diesAt at HE
      clear hz
      go_wp2_with fail
      (try rw [hw2])
      (try go_wp2_with fail)
      refine F2.out.mono ?_; rintro e w3 ⟨rfl, rfl⟩
      go_wp2_with fail
      exact ⟨rfl, HE.out⟩
end
end Go.Proofs.YtldgbdmiebipnaaGreatDoor
