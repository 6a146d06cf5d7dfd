/-
  The token that a text begins with: token, word, sign and number of package lex.
-/
import Derived.Test.YtljkaaliagppdaaDoorParts
import Derived.Test.YtljkaaliagppdaaDoorWord
namespace Go.Proofs.YtljkaaliagppdaaDoor
open Go.RowKit

/-- What a token is, but for its text and its place: its kind, its number, and how long it is. -/
structure Cut where
  kind : Int
  n : Int
  len : Nat
def numCut (kind : Int) (t : List UInt8) (least : Int) (len : Nat) : Option Cut := if isNum t = true ∧ ¬ numVal t < least then some ⟨kind, numVal t, len⟩ else none
def bs (l : List UInt8) : ByteArray := ⟨l.toArray⟩
/-- The first byte of a list, as a number. -/
def head (l : List UInt8) : Int := ((l.headD 0).toNat : Int)
/-- The token that a text begins with, if one does. -/
def tokL (l : List UInt8) : Option Cut :=
  if head l = 36 then numCut 4 (l.tail.takeWhile pc) 1 (1 + (l.tail.takeWhile pc).length)
  else if head l = 37 then numCut 5 (l.tail.takeWhile pc) 0 (1 + (l.tail.takeWhile pc).length)
  else if cls (head l) = 4 then some ⟨6, 0, 1⟩
  else if cls (head l) = 3 then numCut 3 (l.takeWhile pc) 0 (l.takeWhile pc).length
  else if cls (head l) = 1 ∨ cls (head l) = 2 then
    if upperB (bs (l.takeWhile pc)) = true then some ⟨2, 0, (l.takeWhile pc).length⟩
    else if wordB (bs (l.takeWhile pc)) = true ∨ Lib.containsS keyList (bs (l.takeWhile pc)) = true then some ⟨1, 0, (l.takeWhile pc).length⟩ else none
  else none

/-- A token as a value. -/
def tokV (text : ByteArray) : Option Cut → Value
  | none => .agg #[.int .i64 0, .string ⟨#[]⟩, .int .i64 0, .int .i64 0]
  | some c => .agg #[.int .i64 c.kind, .string text, .int .i64 c.n, .int .i64 0]
theorem ret_val {a b : Value} (h : a = b) : Ending.returned a = .returned b := by rw [h]

/-- A box of four cells, behind a call that made new memory alone. -/
structure Box (w1 : World) (g : Nat) (x0 x1 x2 x3 : Value) : Prop where
  c0 : w1.cell? ⟨g, 0, none⟩ = some x0
  c1 : w1.cell? ⟨g, 1, none⟩ = some x1
  c2 : w1.cell? ⟨g, 2, none⟩ = some x2
  c3 : w1.cell? ⟨g, 3, none⟩ = some x3
  f0 : w1.frozen? ⟨g, 0, none⟩ = false
  f1 : w1.frozen? ⟨g, 1, none⟩ = false
  f2 : w1.frozen? ⟨g, 2, none⟩ = false
  f3 : w1.frozen? ⟨g, 3, none⟩ = false
theorem box_new (w : World) (x0 x1 x2 x3 : Value) (t : TypeId) : Box (w.alloc (.cells #[x0, x1, x2, x3] t)) w.heap.size x0 x1 x2 x3 where
  c0 := World.cell?_alloc_mark w #[x0, x1, x2, x3] t (0, 0) 0
  c1 := World.cell?_alloc_mark w #[x0, x1, x2, x3] t (0, 0) 1
  c2 := World.cell?_alloc_mark w #[x0, x1, x2, x3] t (0, 0) 2
  c3 := World.cell?_alloc_mark w #[x0, x1, x2, x3] t (0, 0) 3
  f0 := by simp
  f1 := by simp
  f2 := by simp
  f3 := by simp
theorem Box.below {w w1 : World} {g B : Nat} {x0 x1 x2 x3 : Value} (h : Box w g x0 x1 x2 x3) (hb : Below B w w1) (hg : g < B) : Box w1 g x0 x1 x2 x3 where
  c0 := (hb.cell (p := ⟨g, 0, none⟩) hg).trans h.c0
  c1 := (hb.cell (p := ⟨g, 1, none⟩) hg).trans h.c1
  c2 := (hb.cell (p := ⟨g, 2, none⟩) hg).trans h.c2
  c3 := (hb.cell (p := ⟨g, 3, none⟩) hg).trans h.c3
  f0 := (hb.frozen (p := ⟨g, 0, none⟩) hg).trans h.f0
  f1 := (hb.frozen (p := ⟨g, 1, none⟩) hg).trans h.f1
  f2 := (hb.frozen (p := ⟨g, 2, none⟩) hg).trans h.f2
  f3 := (hb.frozen (p := ⟨g, 3, none⟩) hg).trans h.f3
theorem box_after {w w1 : World} {x0 x1 x2 x3 : Value} {t : TypeId} (hb : Below (w.alloc (.cells #[x0, x1, x2, x3] t)).heap.size (w.alloc (.cells #[x0, x1, x2, x3] t)) w1) : Box w1 w.heap.size x0 x1 x2 x3 :=
  (box_new w x0 x1 x2 x3 t).below hb (by simp)
theorem below_box {w w1 : World} {o : Obj} (hb : Below (w.alloc o).heap.size (w.alloc o) w1) : Below w.heap.size w w1 :=
  ((Below.refl _ _).alloc (Nat.le_refl _) _).trans (hb.mono (by simp))
theorem below_box' {w w1 : World} {o : Obj} {g : Nat} {x0 x1 x2 x3 : Value} (hx : Box (w.alloc o) g x0 x1 x2 x3) (hb : Below (w.alloc o).heap.size (w.alloc o) w1) (hg : g = w.heap.size := by rfl) : Box w1 g x0 x1 x2 x3 ∧ Below w.heap.size w w1 ∧ w.heap.size < w1.heap.size :=
  ⟨hx.below hb (by subst hg; simp), below_box hb, by have := hb.size; simp at this; omega⟩
theorem numVal_bd (l : List UInt8) : 0 ≤ numVal l ∧ numVal l ≤ 999 := by
  cases h : numOf l with
  | none => rw [numVal_none h]; omega
  | some n => rw [numVal_some h]; have := (numOf_some h).1; omega

set_option maxRecDepth 100000 in
set_option maxHeartbeats 400000 in
theorem number_fn (kind : Int) (t x : ByteArray) (fi : Int) (f : Nat) (least : Int) (len : Nat) (hfi : fi = f) (hf : f ≤ t.size) (hx : t.extract f t.size = x) (hs : t.size ≤ 281474976710656) (w : World) (hT : Tabs w) :
    Calls Tryd.prog 29 #[.int .i64 kind, .string t, .int .i64 fi, .int .i64 least] w fun e w' => e = .returned (tokV t (numCut kind x.data.toList least len)) ∧ Below w.heap.size w w' := by
  subst hfi
  have hxs : x.size ≤ 281474976710656 := by rw [← hx]; simp; omega
  have C := Lib.hid (fun w hT => number_any x hxs w hT)
  have HX := Lib.hid hx
  have HT := Lib.hid hT
  clear hx hT
  have hE : numEnd x = .returned (.tuple #[.int .i64 (numVal x.data.toList), .bool (isNum x.data.toList)]) := rfl
  have hv := numVal_bd x.data.toList
  cases hi : isNum x.data.toList with
  | false =>
    have HC := Lib.hid (show numCut kind x.data.toList least len = none from by unfold numCut; rw [hi]; simp)
    rw [hi] at hE
    have E := Lib.hid hE
    clear hE hi
    go_enter Tryd.func29, Tryd.ntmps29
    go_wp2_with fail
    rw [HX.out]
    refine (C.out _ (HT.out.below ((Below.refl _ _).alloc (Nat.le_refl _) _))).mono ?_; rintro e w1 ⟨rfl, hb⟩
    rw [E.out]
    obtain ⟨c0, c1, c2, c3, f0, f1, f2, f3⟩ := box_after hb
    replace hb := below_box hb
    go_wp2_with fail

    exact bodyPost_ret (v := tokV t none) (by simp [results, Tryd.results29, go_sem, tokV, c0, c1, c2, c3]) rfl ⟨by rw [HC.out], (((hb.setCell (Nat.le_refl _) _).setCell (Nat.le_refl _) _).setCell (Nat.le_refl _) _).setCell (Nat.le_refl _) _⟩
  | true =>
    rw [hi] at hE
    have E := Lib.hid hE
    clear hE
    by_cases hlt : numVal x.data.toList < least
    · have HC := Lib.hid (show numCut kind x.data.toList least len = none from by unfold numCut; rw [if_neg]; rintro ⟨_, h⟩; exact h hlt)
      clear hi
      obtain ⟨n, hn⟩ : ∃ n, n = numVal x.data.toList := ⟨_, rfl⟩
      rw [← hn] at hlt E hv
      have HN := Lib.hid hn
      clear hn
      go_enter Tryd.func29, Tryd.ntmps29
      go_wp2_with fail
      rw [HX.out]
      refine (C.out _ (HT.out.below ((Below.refl _ _).alloc (Nat.le_refl _) _))).mono ?_; rintro e w1 ⟨rfl, hb⟩
      rw [E.out]
      obtain ⟨c0, c1, c2, c3, f0, f1, f2, f3⟩ := box_after hb
      replace hb := below_box hb
      go_wp2_with fail
      exact bodyPost_ret (v := tokV t none) (by simp [results, Tryd.results29, go_sem, tokV, c0, c1, c2, c3]) rfl ⟨by rw [HC.out], (((hb.setCell (Nat.le_refl _) _).setCell (Nat.le_refl _) _).setCell (Nat.le_refl _) _).setCell (Nat.le_refl _) _⟩
    · have HC := Lib.hid (show numCut kind x.data.toList least len = some ⟨kind, numVal x.data.toList, len⟩ from by unfold numCut; rw [if_pos ⟨hi, hlt⟩])
      clear hi
      obtain ⟨n, hn⟩ : ∃ n, n = numVal x.data.toList := ⟨_, rfl⟩
      rw [← hn] at hlt E hv HC
      have HN := Lib.hid hn
      clear hn
      go_enter Tryd.func29, Tryd.ntmps29
      go_wp2_with fail
      rw [HX.out]
      refine (C.out _ (HT.out.below ((Below.refl _ _).alloc (Nat.le_refl _) _))).mono ?_; rintro e w1 ⟨rfl, hb⟩
      rw [E.out]
      obtain ⟨c0, c1, c2, c3, f0, f1, f2, f3⟩ := box_after hb
      replace hb := below_box hb
      go_wp2_with fail
      exact bodyPost_ret (v := tokV t (some ⟨kind, n, len⟩)) (by simp [results, Tryd.results29, go_sem, tokV, c0, c1, c2, c3]) rfl ⟨by rw [HC.out], (((hb.setCell (Nat.le_refl _) _).setCell (Nat.le_refl _) _).setCell (Nat.le_refl _) _).setCell (Nat.le_refl _) _⟩

/-- The token of a text that begins with a letter. -/
def wordCut (t : ByteArray) (len : Nat) : Option Cut :=
  if upperB t = true then some ⟨2, 0, len⟩ else if wordB t = true ∨ Lib.containsS keyList t = true then some ⟨1, 0, len⟩ else none
theorem wordB_cls {t : ByteArray} (h : wordB t = true) : ∃ h0 : 0 < t.size, cls (t[0].toNat : Int) = 1 := by
  unfold wordB speltB at h
  simp only [Bool.and_eq_true, decide_eq_true_eq] at h
  have h0 : 0 < t.size := by omega
  have := (fitsAll_iff t 1).1 h.1.2 0 h0
  rw [fitAt_zero h0, beq_iff_eq] at this
  exact ⟨h0, this⟩
theorem upperB_cls {t : ByteArray} (h : upperB t = true) : ∃ h0 : 0 < t.size, cls (t[0].toNat : Int) = 2 := by
  unfold upperB speltB at h
  simp only [Bool.and_eq_true, decide_eq_true_eq] at h
  have h0 : 0 < t.size := by omega
  have := (fitsAll_iff t 2).1 h.1.2 0 h0
  rw [fitAt_zero h0, beq_iff_eq] at this
  exact ⟨h0, this⟩
theorem word_not_upper {t : ByteArray} (h : wordB t = true) : upperB t = false := by
  rw [← Bool.not_eq_true]; intro hu
  obtain ⟨h0, h1⟩ := wordB_cls h
  obtain ⟨_, h2⟩ := upperB_cls hu
  omega
theorem key_not_upper {t : ByteArray} (h : Lib.containsS keyList t = true) : upperB t = false := by
  unfold upperB; rw [h]; simp

set_option maxRecDepth 100000 in
set_option maxHeartbeats 400000 in
theorem word_fn (t : ByteArray) (len : Nat) (hs : t.size ≤ 1000000) (w : World) :
    Calls Tryd.prog 27 #[.string t] w fun e w' => e = .returned (tokV t (wordCut t len)) ∧ Below w.heap.size w w' := by
  have W := Lib.hid (fun w => word_any t (by omega) w)
  have K := Lib.hid (fun w => key_any t w)
  have U := Lib.hid (fun w => upper_any t (by omega) w)
  cases hw : wordB t with
  | true =>
    have HC := Lib.hid (show wordCut t len = some ⟨1, 0, len⟩ from by unfold wordCut; rw [if_neg (by rw [word_not_upper hw]; simp), if_pos (.inl hw)])
    rw [hw] at W
    clear hw
    go_enter Tryd.func27, Tryd.ntmps27
    go_wp2_with fail
    refine (W.out _).mono ?_; rintro e w1 ⟨rfl, hb⟩
    obtain ⟨c0, c1, c2, c3, f0, f1, f2, f3⟩ := box_after hb
    replace hb := below_box hb
    go_wp2_with fail
    exact bodyPost_ret (v := tokV t (some ⟨1, 0, len⟩)) (by simp [results, Tryd.results27, go_sem, tokV, c0, c1, c2, c3]) rfl ⟨by rw [HC.out], (((hb.setCell (Nat.le_refl _) _).setCell (Nat.le_refl _) _).setCell (Nat.le_refl _) _).setCell (Nat.le_refl _) _⟩
  | false =>
    cases hk : Lib.containsS keyList t with
    | true =>
      have HC := Lib.hid (show wordCut t len = some ⟨1, 0, len⟩ from by unfold wordCut; rw [if_neg (by rw [key_not_upper hk]; simp), if_pos (.inr hk)])
      rw [hw] at W
      rw [hk] at K
      clear hw hk
      go_enter Tryd.func27, Tryd.ntmps27
      go_wp2_with fail
      refine (W.out _).mono ?_; rintro e w1 ⟨rfl, hb⟩
      replace hb := below_box' (box_new _ _ _ _ _ _) hb
      obtain ⟨hx, hb⟩ := hb
      go_wp2_with fail
      refine (K.out _).mono ?_; rintro e w2 ⟨rfl, hb2⟩
      have hx2 := hx.below hb2 hb.2
      replace hb := hb.1.trans (hb2.mono hb.1.size)
      clear hb2 hx
      obtain ⟨c0, c1, c2, c3, f0, f1, f2, f3⟩ := hx2
      go_wp2_with fail
      exact bodyPost_ret (v := tokV t (some ⟨1, 0, len⟩)) (by simp [results, Tryd.results27, go_sem, tokV, c0, c1, c2, c3]) rfl ⟨by rw [HC.out], (((hb.setCell (Nat.le_refl _) _).setCell (Nat.le_refl _) _).setCell (Nat.le_refl _) _).setCell (Nat.le_refl _) _⟩
    | false =>
      cases hu : upperB t with
      | true =>
        have HC := Lib.hid (show wordCut t len = some ⟨2, 0, len⟩ from by unfold wordCut; rw [if_pos hu])
        rw [hw] at W
        rw [hk] at K
        rw [hu] at U
        clear hw hk hu
        go_enter Tryd.func27, Tryd.ntmps27
        go_wp2_with fail
        refine (W.out _).mono ?_; rintro e w1 ⟨rfl, hb⟩
        replace hb := below_box' (box_new _ _ _ _ _ _) hb
        obtain ⟨hx, hb⟩ := hb
        go_wp2_with fail
        refine (K.out _).mono ?_; rintro e w2 ⟨rfl, hb2⟩
        have hx2 := hx.below hb2 hb.2
        have hb3 : Below w.heap.size w w2 ∧ w.heap.size < w2.heap.size := ⟨hb.1.trans (hb2.mono hb.1.size), Nat.lt_of_lt_of_le hb.2 hb2.size⟩
        clear hb2 hx hb
        go_wp2_with fail
        refine (U.out _).mono ?_; rintro e w3 ⟨rfl, hb4⟩
        have hx3 := hx2.below hb4 hb3.2
        have hb := hb3.1.trans (hb4.mono hb3.1.size)
        clear hb4 hx2 hb3
        obtain ⟨c0, c1, c2, c3, f0, f1, f2, f3⟩ := hx3
        go_wp2_with fail
        exact bodyPost_ret (v := tokV t (some ⟨2, 0, len⟩)) (by simp [results, Tryd.results27, go_sem, tokV, c0, c1, c2, c3]) rfl ⟨by rw [HC.out], (((hb.setCell (Nat.le_refl _) _).setCell (Nat.le_refl _) _).setCell (Nat.le_refl _) _).setCell (Nat.le_refl _) _⟩
      | false =>
        have HC := Lib.hid (show wordCut t len = none from by unfold wordCut; rw [if_neg (by rw [hu]; simp), if_neg (by rw [hw, hk]; simp)])
        rw [hw] at W
        rw [hk] at K
        rw [hu] at U
        clear hw hk hu
        go_enter Tryd.func27, Tryd.ntmps27
        go_wp2_with fail
        refine (W.out _).mono ?_; rintro e w1 ⟨rfl, hb⟩
        replace hb := below_box' (box_new _ _ _ _ _ _) hb
        obtain ⟨hx, hb⟩ := hb
        go_wp2_with fail
        refine (K.out _).mono ?_; rintro e w2 ⟨rfl, hb2⟩
        have hx2 := hx.below hb2 hb.2
        have hb3 : Below w.heap.size w w2 ∧ w.heap.size < w2.heap.size := ⟨hb.1.trans (hb2.mono hb.1.size), Nat.lt_of_lt_of_le hb.2 hb2.size⟩
        clear hb2 hx hb
        go_wp2_with fail
        refine (U.out _).mono ?_; rintro e w3 ⟨rfl, hb4⟩
        have hx3 := hx2.below hb4 hb3.2
        have hb := hb3.1.trans (hb4.mono hb3.1.size)
        clear hb4 hx2 hb3
        obtain ⟨c0, c1, c2, c3, f0, f1, f2, f3⟩ := hx3
        go_wp2_with fail
        exact bodyPost_ret (v := tokV t none) (by simp [results, Tryd.results27, go_sem, tokV, c0, c1, c2, c3]) rfl ⟨by rw [HC.out], (((hb.setCell (Nat.le_refl _) _).setCell (Nat.le_refl _) _).setCell (Nat.le_refl _) _).setCell (Nat.le_refl _) _⟩
end Go.Proofs.YtljkaaliagppdaaDoor
