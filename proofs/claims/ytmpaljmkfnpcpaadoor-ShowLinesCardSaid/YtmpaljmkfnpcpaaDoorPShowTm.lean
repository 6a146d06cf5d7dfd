/-
  A term as a text, by the program's Show: write and writeArgs put it behind what a builder holds.
-/
import Derived.Test.YtmpaljmkfnpcpaaDoorBuilderTm
import Derived.Test.YtmpaljmkfnpcpaaDoorShowPu
import Derived.Test.YtmpaljmkfnpcpaaDoorPow
namespace Go.Proofs.YtmpaljmkfnpcpaaDoor
open Go.RowKit Go.Shelf

theorem keepsT_in {n₀ : Nat} {W W' : World} (h : Below W.heap.size W W') (hn : n₀ ≤ W.heap.size) : KeepsT n₀ W W' := ⟨h.mono hn, fun k c f _ hk => by rw [h.block k (Array.getElem?_eq_some_iff.1 hk).1]; exact hk⟩
theorem bld_below {B b : Nat} {l : List UInt8} {w w' : World} (h : Bld B b l w) (hb : Below w.heap.size w w') : Bld B b l w' := by
  have key : ∀ p, Lib.BuilderAt 49 5 B b p (Lib.byteCells l) w → Lib.BuilderAt 49 5 B b p (Lib.byteCells l) w' := fun p ⟨hB, v, hbk, hown, hne⟩ =>
    ⟨hB, v, by rw [hb.block b (Array.getElem?_eq_some_iff.1 hbk).1]; exact hbk, own_below hown hb, hne⟩
  exact h.elim (fun h => .inl (key _ h)) (fun h => .inr (key _ h))
/-- What stands ahead of an argument. -/
def sepB (j : Nat) : List UInt8 := if j = 0 then [40] else [44, 32]
theorem pre_step {xs : List Tm} {j : Nat} (hj : j < xs.length) : pre (showsL (xs.take (j + 1))) = pre (showsL (xs.take j)) ++ sepB j ++ showT xs[j] := by
  rw [showsL_take hj]
  by_cases h : j = 0
  · subst h
    rw [List.take_zero, showsL, List.nil_append, pre_first]
    rfl
  · have hne : (showsL (xs.take j)).isEmpty = false := by
      rw [showsL_empty]
      cases xs with
      | nil => simp at hj
      | cons x r => cases j with
        | zero => exact absurd rfl h
        | succ j => rfl
    rw [pre_more _ hne]
    unfold sepB
    rw [if_neg h]

/-- What a call of write leaves, of terms with no more than m parts. -/
def WriteUpto (w0 : World) (B b m : Nat) : Prop := ∀ (x : Tv) (l : List UInt8) (w : World), x.t.parts ≤ m → x.ok w0 → l.length + wtT x.t ≤ 100000000 → Bld B b l w → Below w0.heap.size w0 w → B ≤ w.heap.size →
    Calls Tryd.prog 39 #[.pointer (some ⟨b, 0, none⟩), x.val] w fun e w' => e = .returned (.tuple #[]) ∧ (showT x.t).length + 4 ≤ wtT x.t ∧ Bld B b (l ++ showT x.t) w' ∧ KeepsT B w w'

set_option maxRecDepth 100000 in
set_option maxHeartbeats 2000000 in
theorem writeArgs_tm (w0 : World) (B b m : Nat) (hB : w0.heap.size ≤ B) (hC : WriteUpto w0 B b m) (v : Value) (xs : List Tm) (l : List UInt8) (w : World) (hm : ∀ j (h : j < xs.length), xs[j].parts ≤ m) (hx : Tms w0 v xs) (h0 : xs ≠ [])
    (hlen : l.length + wtL xs + 4 ≤ 100000000) (hb : Bld B b l w) (hb0 : Below w0.heap.size w0 w) (hBw : B ≤ w.heap.size) :
    Calls Tryd.prog 43 #[.pointer (some ⟨b, 0, none⟩), v] w fun e w' => e = .returned (.tuple #[]) ∧ (pre (showsL xs)).length ≤ wtL xs ∧ Bld B b (l ++ (pre (showsL xs) ++ [41])) w' ∧ KeepsT B w w' := by
  obtain ⟨a, c, rfl, hxl, hxr⟩ := hx
  obtain ⟨g, off, rfl, hlt, hr⟩ : ∃ g off, a = some ⟨g, off, none⟩ ∧ g < w0.heap.size ∧ RowAt w0 xs g off := hxr.resolve_left h0
  have HC := Lib.hid hC
  have HM := Lib.hid hm
  have HR := Lib.hid hr
  have WS := Lib.hid (fun l s w h1 h2 h3 => wstr_any B b l s w h1 h2 h3)
  clear hC hm hr hxr
  go_enter Tryd.func43, Tryd.ntmps43
  go_wp2_with fail
  go_loopw [4, 9] (fun s i wr => ∃ j : Nat, j ≤ xs.length ∧ i = .int .i64 j ∧ s = .string ⟨(sepB j).toArray⟩ ∧ Hid ((pre (showsL (xs.take j))).length ≤ wtL (xs.take j)) ∧ Hid (Bld B b (l ++ pre (showsL (xs.take j))) wr) ∧ KeepsT B w wr) (fun _ i _ => xs.length - (intOf i).toNat)
  case atStart => exact ⟨0, Nat.zero_le _, rfl, rfl, Lib.hid (by rw [List.take_zero, showsL]; simp [pre]), Lib.hid (by rw [List.take_zero, showsL]; simp only [pre, List.isEmpty_nil, if_true, List.append_nil]; exact hb), KeepsT.refl _ _⟩
  case round =>
    obtain ⟨j, hj, rfl, rfl, HL, HB, hk⟩ := hrel
    have hbr := hb0.trans (hk.below.mono hB)
    have hbs := hk.below.size
    have hlw := wtL_part xs j
    have hll : (l ++ pre (showsL (xs.take j))).length ≤ l.length + wtL (xs.take j) := by rw [List.length_append]; have := HL.out; omega
    by_cases hjl : j < xs.length
    · have hil : (j : Int) < (xs.length : Int) := by omega
      obtain ⟨u, hu, huk, hat⟩ := tmAt_tv (rowAt_get HR.out hjl)
      obtain ⟨d0, d1, d2, d3⟩ := hat.below hbr
      have hwn := wtL_take hjl
      have hwp := wtL_part xs (j + 1)
      have hps := pre_step hjl
      rw [← hu] at hps hwn
      have HPS := Lib.hid hps
      have HWN := Lib.hid hwn
      have hsl : (sepB j).length ≤ 2 := by unfold sepB; split <;> simp
      have hss : (⟨(sepB j).toArray⟩ : ByteArray).size = (sepB j).length := by show (sepB j).toArray.size = _; simp
      have W1 := WS.out (l ++ pre (showsL (xs.take j))) ⟨(sepB j).toArray⟩ (wr.alloc (.cells #[.int .i64 u.t.kind, .string u.t.name, .int .i64 u.t.n, .slice u.a u.t.args.length u.c] 26)) (bld_below HB.out ((Below.refl _ _).alloc (Nat.le_refl _) _)) (by omega) (by simp; omega)
      have hka := hk.alloc (by omega) (.cells #[.int .i64 u.t.kind, .string u.t.name, .int .i64 u.t.n, .slice u.a u.t.args.length u.c] 26)
      have C := Lib.hid (fun w' h3 h4 h5 => HC.out u (l ++ pre (showsL (xs.take j)) ++ sepB j) w' (by rw [hu]; exact HM.out j hjl) huk (by rw [List.length_append]; omega) h3 h4 h5)
      simp only [Tv.val] at C
      have W1H := Lib.hid W1
      have HSL := Lib.hid hsl
      have HLL := Lib.hid hll
      clear hu huk hat hps hwn W1 hsl hss hll
      go_wp2_with fail
      refine W1H.out.mono ?_; rintro e w1 ⟨rfl, hb1, hk1⟩
      obtain ⟨b0, b1, b2, b3, _, _, _, _⟩ := hk1.box
      have hka1 := hka.trans hk1
      have hb1' : Bld B b (l ++ pre (showsL (xs.take j)) ++ sepB j) w1 := by simpa using hb1
      have C1 := Lib.hid (C.out w1 hb1' (hb0.trans (hka1.below.mono hB)) (by have := hka1.below.size; omega))
      clear hb1 hk1 hb1'
      go_wp2_with fail
      refine C1.out.mono ?_; rintro e w2 ⟨rfl, hlen2, hb2, hk2⟩
      have HL2 := Lib.hid hlen2
      have HB2 := Lib.hid hb2
      have hka2 := hka1.trans hk2
      clear hlen2 hb2 hk2
      go_wp2_with fail
      go_roundw
      case rel =>
        refine ⟨j + 1, by omega, by go_num, ?_, Lib.hid ?_, Lib.hid ?_, hka2⟩
        · unfold sepB; rw [if_neg (by omega)]
        · rw [HPS.out, List.length_append, List.length_append]; have := HL.out; have := HL2.out; have := HSL.out; have := HWN.out; omega
        · rw [HPS.out, ← List.append_assoc, ← List.append_assoc]; exact HB2.out
      case measure => simp [intOf]; omega
    · obtain rfl : j = xs.length := by omega
      rw [List.take_length] at HB HL
      rw [List.take_length] at hll
      have W1 := Lib.hid (WS.out _ ⟨#[41]⟩ wr HB.out (by have := hll; show _ + 1 ≤ _; omega) (by omega))
      have HLL := Lib.hid hll
      clear hll
      go_wp2_with fail
      refine W1.out.mono ?_; rintro e w1 ⟨rfl, hb1, hk1⟩
      have HB1 := Lib.hid hb1
      clear hb1
      go_wp2_with fail
      go_end0
      exact ⟨rfl, HL.out, by rw [← List.append_assoc]; exact HB1.out, hk.trans hk1⟩

set_option maxRecDepth 100000 in
set_option maxHeartbeats 4000000 in
theorem write_tm (w0 : World) (B b : Nat) (hB : w0.heap.size ≤ B) (hP : Pow w0) (m : Nat) : WriteUpto w0 B b m := by
  induction m with
  | zero => intro x l w h; have := parts_pos x.t; omega
  | succ m ih =>
    intro x l w hm hx hlen hb hb0 hBw
    obtain ⟨⟨k, s, n, xs⟩, a, c⟩ := x
    obtain ⟨hfit, hxa⟩ := hx
    have hE : showT (.mk k s n xs) = if k = 1 ∨ k = 2 then s.data.toList else if k = 3 then 36 :: Lib.itoa n else if k = 4 then 37 :: Lib.itoa n else if k ≠ 5 then [63] else s.data.toList ++ pre (showsL xs) ++ close (showsL xs) := by rw [showT]
    have hW : wtT (.mk k s n xs) = s.size + 30 + wtL xs := by rw [wtT]
    simp only [Tv.val, Tm.kind, Tm.name, Tm.n, Tm.args] at hfit hxa hm hlen ⊢
    have hpl : ∀ j (h : j < xs.length), xs[j].parts ≤ m := fun j h => by
      have := parts_arg (.mk k s n xs) (j := j) h
      have e : (Tm.mk k s n xs).args[j] = xs[j] := rfl
      rw [e] at this; omega
    have hil := Lib.itoa_length_le n hfit.nlo hfit.nhi
    have hka : KeepsT B w (w.alloc (.cells #[.int .i64 k, .string s, .int .i64 n, .slice a xs.length c] 26)) := (KeepsT.refl _ _).alloc hBw _
    have hba := bld_below hb ((Below.refl w.heap.size w).alloc (Nat.le_refl _) (.cells #[.int .i64 k, .string s, .int .i64 n, .slice a xs.length c] 26))
    have D := Lib.hid (fun w' (h : Below w0.heap.size w0 w') => pdigits_any n hfit.nlo hfit.nhi w' (hP.below h))
    have WS := Lib.hid (fun l s w h1 h2 h3 => wstr_any B b l s w h1 h2 h3)
    have hss : s.data.toList.length = s.size := by simp
    have hxl := hxa.1
    have W0 := Lib.hid (WS.out l s (w.alloc (.cells #[.int .i64 k, .string s, .int .i64 n, .slice a xs.length c] 26)) hba (by omega) (by simp; omega))
    have WA := Lib.hid (fun l' w' h0 h1 h2 h3 h4 => writeArgs_tm w0 B b m hB ih (.slice a xs.length c) xs l' w' hpl ⟨a, c, rfl, hxa⟩ h0 h1 h2 h3 h4)
    have HB0 := Lib.hid hb0
    have HBA := Lib.hid hba
    clear ih hpl hm hfit hxa hb hb0 hba
    by_cases h12 : k = 1 ∨ k = 2
    · have hr := Lib.hid (show showT (.mk k s n xs) = s.data.toList from by rw [hE, if_pos h12])
      have HW := Lib.hid (show (showT (.mk k s n xs)).length + 4 ≤ wtT (.mk k s n xs) from by rw [hr.out, hss, hW]; omega)
      clear hE hW hss
      rcases h12 with rfl | rfl
      all_goals
        go_enter Tryd.func39, Tryd.ntmps39
        go_wp2_with fail
        refine W0.out.mono ?_; rintro e w1 ⟨rfl, hb1, hk1⟩
        obtain ⟨b0, b1, b2, b3, _, _, _, _⟩ := hk1.box
        have HB1 := Lib.hid hb1
        clear hb1
        go_wp2_with fail
        go_end0
        exact ⟨rfl, HW.out, by rw [hr.out]; exact HB1.out, hka.trans hk1⟩
    · have q1 : (k == 1) = false := by rw [beq_eq_false_iff_ne]; omega
      have q2 : (k == 2) = false := by rw [beq_eq_false_iff_ne]; omega
      rw [if_neg h12] at hE
      by_cases h3 : k = 3
      · have hr := Lib.hid (show showT (.mk k s n xs) = 36 :: Lib.itoa n from by rw [hE, if_pos h3])
        have HW := Lib.hid (show (showT (.mk k s n xs)).length + 4 ≤ wtT (.mk k s n xs) from by rw [hr.out, List.length_cons, hW]; omega)
        subst h3
        clear hE hW hss h12 W0 WA
        generalize Lib.itoa n = il at D hil hr
        have hcs : ((⟨#[36]⟩ : ByteArray) ++ ⟨il.toArray⟩).data.toList = 36 :: il := by simp
        have hcz : ((⟨#[36]⟩ : ByteArray) ++ ⟨il.toArray⟩).size = il.length + 1 := by show ((⟨#[36]⟩ : ByteArray) ++ ⟨il.toArray⟩).data.size = _; rw [← Array.length_toList, hcs]; rfl
        have HCS := Lib.hid hcs
        have HCZ := Lib.hid hcz
        clear hcs hcz
        go_enter Tryd.func39, Tryd.ntmps39
        go_wp2_with fail
        refine (D.out _ (HB0.out.alloc (by omega) _)).mono ?_; rintro e w1 ⟨rfl, hb1⟩
        have hk1 := keepsT_in (n₀ := B) hb1 (by simp; omega)
        have HBD := Lib.hid (bld_below HBA.out hb1)
        have hs1 := hb1.size
        simp at hs1
        go_wp2_with fail
        refine (WS.out l _ _ HBD.out (by have := HCZ.out; simp only [HCZ.out]; omega) (by omega)).mono ?_; rintro e w2 ⟨rfl, hb2, hk2⟩
        have hkk := hk1.trans hk2
        obtain ⟨b0, b1, b2, b3, _, _, _, _⟩ := hkk.box
        have HB1 := Lib.hid hb2
        clear hb2
        go_wp2_with fail
        go_end0
        exact ⟨rfl, HW.out, by rw [hr.out, ← HCS.out]; exact HB1.out, hka.trans hkk⟩
      by_cases h4 : k = 4
      · have hr := Lib.hid (show showT (.mk k s n xs) = 37 :: Lib.itoa n from by rw [hE, if_neg h3, if_pos h4])
        have HW := Lib.hid (show (showT (.mk k s n xs)).length + 4 ≤ wtT (.mk k s n xs) from by rw [hr.out, List.length_cons, hW]; omega)
        subst h4
        clear hE hW hss h12 W0 WA
        generalize Lib.itoa n = il at D hil hr
        have hcs : ((⟨#[37]⟩ : ByteArray) ++ ⟨il.toArray⟩).data.toList = 37 :: il := by simp
        have hcz : ((⟨#[37]⟩ : ByteArray) ++ ⟨il.toArray⟩).size = il.length + 1 := by show ((⟨#[37]⟩ : ByteArray) ++ ⟨il.toArray⟩).data.size = _; rw [← Array.length_toList, hcs]; rfl
        have HCS := Lib.hid hcs
        have HCZ := Lib.hid hcz
        clear hcs hcz
        go_enter Tryd.func39, Tryd.ntmps39
        go_wp2_with fail
        refine (D.out _ (HB0.out.alloc (by omega) _)).mono ?_; rintro e w1 ⟨rfl, hb1⟩
        have hk1 := keepsT_in (n₀ := B) hb1 (by simp; omega)
        have HBD := Lib.hid (bld_below HBA.out hb1)
        have hs1 := hb1.size
        simp at hs1
        go_wp2_with fail
        refine (WS.out l _ _ HBD.out (by have := HCZ.out; simp only [HCZ.out]; omega) (by omega)).mono ?_; rintro e w2 ⟨rfl, hb2, hk2⟩
        have hkk := hk1.trans hk2
        obtain ⟨b0, b1, b2, b3, _, _, _, _⟩ := hkk.box
        have HB1 := Lib.hid hb2
        clear hb2
        go_wp2_with fail
        go_end0
        exact ⟨rfl, HW.out, by rw [hr.out, ← HCS.out]; exact HB1.out, hka.trans hkk⟩
      have q3 : (k == 3) = false := by rw [beq_eq_false_iff_ne]; exact h3
      have q4 : (k == 4) = false := by rw [beq_eq_false_iff_ne]; exact h4
      rw [if_neg h3, if_neg h4] at hE
      by_cases h5 : k = 5
      case neg =>
        have hr := Lib.hid (show showT (.mk k s n xs) = [63] from by rw [hE, if_pos h5])
        have HW := Lib.hid (show (showT (.mk k s n xs)).length + 4 ≤ wtT (.mk k s n xs) from by rw [hr.out, hW]; simp; omega)
        have q5 : (k == 5) = false := by rw [beq_eq_false_iff_ne]; exact h5
        have WQ := Lib.hid (WS.out l ⟨#[63]⟩ _ HBA.out (by show l.length + 1 ≤ _; omega) (by simp; omega))
        clear hE hW hss h12 W0 WA h3 h4 h5
        go_enter Tryd.func39, Tryd.ntmps39
        go_wp2_with fail
        refine WQ.out.mono ?_; rintro e w1 ⟨rfl, hb1, hk1⟩
        obtain ⟨b0, b1, b2, b3, _, _, _, _⟩ := hk1.box
        have HB1 := Lib.hid hb1
        clear hb1
        go_wp2_with fail
        go_end0
        exact ⟨rfl, HW.out, by rw [hr.out]; exact HB1.out, hka.trans hk1⟩
      subst h5
      rw [if_neg (by simp)] at hE
      by_cases hx : xs = []
      · subst hx
        have hr := Lib.hid (show showT (.mk 5 s n []) = s.data.toList from by rw [hE, showsL]; simp [pre, close])
        have HW := Lib.hid (show (showT (.mk 5 s n [])).length + 4 ≤ wtT (.mk 5 s n []) from by rw [hr.out, hss, hW]; omega)
        simp only [List.length_nil] at hka W0
        clear hE hW hss h12 WA h3 h4
        go_enter Tryd.func39, Tryd.ntmps39
        go_wp2_with fail
        refine W0.out.mono ?_; rintro e w1 ⟨rfl, hb1, hk1⟩
        obtain ⟨b0, b1, b2, b3, _, _, _, _⟩ := hk1.box
        have HB1 := Lib.hid hb1
        clear hb1
        go_wp2_with fail
        go_end0
        exact ⟨rfl, HW.out, by rw [hr.out]; exact HB1.out, hka.trans hk1⟩
      · have hne : (showsL xs).isEmpty = false := by
          rw [showsL_empty]; cases xs with
          | nil => exact absurd rfl hx
          | cons _ _ => rfl
        have hr := Lib.hid (show showT (.mk 5 s n xs) = s.data.toList ++ (pre (showsL xs) ++ [41]) from by rw [hE, List.append_assoc]; unfold close; rw [hne]; rfl)
        have hx1 : 0 < (xs.length : Int) := by have := List.length_pos_iff.2 hx; omega
        have HX := Lib.hid hx
        have HWW := Lib.hid hW
        have HSS := Lib.hid hss
        clear hE hW hss h12 h3 h4 hx hne
        go_enter Tryd.func39, Tryd.ntmps39
        go_wp2_with fail
        refine W0.out.mono ?_; rintro e w1 ⟨rfl, hb1, hk1⟩
        obtain ⟨b0, b1, b2, b3, _, _, _, _⟩ := hk1.box
        have hk01 := hka.trans hk1
        have hbw := hk01.below.size
        have W2 := Lib.hid (WA.out (l ++ s.data.toList) w1 HX.out (by rw [List.length_append]; have := HWW.out; have := HSS.out; omega) hb1 (HB0.out.trans (hk01.below.mono hB)) (by omega))
        clear hb1
        go_wp2_with fail
        refine W2.out.mono ?_; rintro e w2 ⟨rfl, hl2, hb2, hk2⟩
        have HB2 := Lib.hid hb2
        have HL2 := Lib.hid hl2
        clear hb2 hl2
        go_wp2_with fail
        go_end0
        exact ⟨rfl, by rw [hr.out, List.length_append, List.length_append, HSS.out, HWW.out]; have := HL2.out; simp; omega, by rw [hr.out, ← List.append_assoc]; exact HB2.out, hk01.trans hk2⟩

set_option maxRecDepth 100000 in
set_option maxHeartbeats 1000000 in
/-- A term as a text, by the program's Show. -/
theorem pshow_len (x : Tv) (w : World) (hx : x.ok w) (hP : Pow w) (hw : wtT x.t ≤ 100000000) :
    Calls Tryd.prog 35 #[x.val] w fun e w' => e = .returned (.string ⟨(showT x.t).toArray⟩) ∧ (showT x.t).length + 4 ≤ wtT x.t ∧ Below w.heap.size w w' := by
  have hW := fun B b hB => write_tm w B b hB hP x.t.parts x
  obtain ⟨t, a, c⟩ := x
  simp only [Tv.val] at hW hw ⊢
  have hz0 : (w.alloc (.cells #[.int .i64 t.kind, .string t.name, .int .i64 t.n, .slice a t.args.length c] 26)).heap.size = w.heap.size + 1 := by simp
  have hF := Lib.fresh_isBuilder 49 5 (w.alloc (.cells #[.int .i64 t.kind, .string t.name, .int .i64 t.n, .slice a t.args.length c] 26))
  rw [hz0] at hF
  have hB1 : Below w.heap.size w ((w.alloc (.cells #[.int .i64 t.kind, .string t.name, .int .i64 t.n, .slice a t.args.length c] 26)).alloc (.cells #[.pointer none, .slice none 0 0] 49)) := ((Below.refl _ _).alloc (Nat.le_refl _) _).alloc (by simp) _
  have C := Lib.hid (hW (w.heap.size + 1) (w.heap.size + 1) (by omega) [] _ (Nat.le_refl _) hx (by simpa using hw) hF hB1 (by simp))
  have HB1 := Lib.hid hB1
  clear hW hF hx hB1
  go_enter Tryd.func35, Tryd.ntmps35
  go_wp2_with fail
  refine C.out.mono ?_; rintro e w1 ⟨rfl, hl1, hb1, hk1⟩
  have HL1 := Lib.hid hl1
  clear hl1
  rw [List.nil_append] at hb1
  have S := Lib.hid (Tryd.Builder_String_any (w.heap.size + 1) (w.heap.size + 1) (showT t) w1 hb1 (by have := hk1.below.size; simp at this; omega))
  have HK := Lib.hid (HB1.out.trans (hk1.below.mono (by omega)))
  clear hb1 hk1 C
  go_wp2_with fail
  refine S.out.mono ?_; rintro e w2 ⟨rfl, hb2⟩
  go_wp2_with fail
  go_ret
  exact ⟨rfl, HL1.out, HK.out.trans (hb2.mono (by omega))⟩
theorem pshow_tm (x : Tv) (w : World) (hx : x.ok w) (hP : Pow w) (hw : wtT x.t ≤ 100000000) :
    Calls Tryd.prog 35 #[x.val] w fun e w' => e = .returned (.string ⟨(showT x.t).toArray⟩) ∧ Below w.heap.size w w' :=
  (pshow_len x w hx hP hw).mono fun _ _ h => ⟨h.1, h.2.2⟩
end Go.Proofs.YtmpaljmkfnpcpaaDoor
