/-
  Which of two terms is first, by the program's Compare, and whether they are alike, by its Same: for any two terms in memory. Nothing is drawn; new memory alone.
  Whether two rows of terms are alike, by the program: the library's EqualFunc with term.Same.
-/
import Derived.Test.YtnbjpgdnfklanaaGreatDoorT27
import Derived.Test.YtnbjpgdnfklanaaGreatDoorT01
import Derived.Test.YtnbjpgdnfklanaaGreatDoorT05
import Derived.Deep.LoopGhost
import Derived.WalkMore
import Derived.OwnWalk
import Derived.Lib.Hide
import Derived.WalkKit
namespace Go.Proofs.YtnbjpgdnfklanaaGreatDoor
open Go.RowKit
set_option maxHeartbeats 400000 in
theorem nanI_any (a : Int) (w : World) : Calls Tryz.prog 127 #[.int .i64 a] w fun e w' => e = .returned (.bool false) ∧ w = w' := by
  have h : (a != a) = false := by simp
  go_enter Tryz.func127, Tryz.ntmps127
  go_wp2
  go_ret
  exact ⟨rfl, rfl⟩
set_option maxHeartbeats 400000 in
theorem nanS_any (s : ByteArray) (w : World) : Calls Tryz.prog 128 #[.string s] w fun e w' => e = .returned (.bool false) ∧ w = w' := by
  have h : (s.toList == s.toList) = true := by simp
  go_enter Tryz.func128, Tryz.ntmps128
  go_wp2
  go_ret
  exact ⟨rfl, rfl⟩
set_option maxHeartbeats 400000 in
theorem cmpI_any (a b : Int) (w : World) : Calls Tryz.prog 118 #[.int .i64 a, .int .i64 b] w fun e w' => e = .returned (.int .i64 (cmpI a b)) ∧ w = w' := by
  have N1 := Lib.hid (fun w => nanI_any a w)
  have N2 := Lib.hid (fun w => nanI_any b w)
  rcases (show a < b ∨ b < a ∨ a = b from by omega) with h | h | h
  · have hr := Lib.hid (show cmpI a b = -1 from by unfold cmpI; rw [if_pos h])
    go_enter Tryz.func118, Tryz.ntmps118
    go_wp2_with fail
    refine (N1.out _).mono ?_; rintro e w1 ⟨rfl, rfl⟩
    go_wp2_with fail
    refine (N2.out _).mono ?_; rintro e w1 ⟨rfl, rfl⟩
    go_wp2_with fail
    go_ret
    exact ⟨ret_int hr.out.symm, rfl⟩
  · have hr := Lib.hid (show cmpI a b = 1 from by unfold cmpI; rw [if_neg (by omega), if_pos h])
    have h' : ¬ a < b := by omega
    go_enter Tryz.func118, Tryz.ntmps118
    go_wp2_with fail
    refine (N1.out _).mono ?_; rintro e w1 ⟨rfl, rfl⟩
    go_wp2_with fail
    refine (N2.out _).mono ?_; rintro e w1 ⟨rfl, rfl⟩
    go_wp2_with fail
    go_ret
    exact ⟨ret_int hr.out.symm, rfl⟩
  · have hr := Lib.hid (show cmpI a b = 0 from by unfold cmpI; rw [if_neg (by omega), if_neg (by omega)])
    have h1 : ¬ a < b := by omega
    have h2 : ¬ b < a := by omega
    clear h
    go_enter Tryz.func118, Tryz.ntmps118
    go_wp2_with fail
    refine (N1.out _).mono ?_; rintro e w1 ⟨rfl, rfl⟩
    go_wp2_with fail
    refine (N2.out _).mono ?_; rintro e w1 ⟨rfl, rfl⟩
    go_wp2_with fail
    go_ret
    exact ⟨ret_int hr.out.symm, rfl⟩
set_option maxHeartbeats 400000 in
theorem cmpS_any (s t : ByteArray) (w : World) : Calls Tryz.prog 119 #[.string s, .string t] w fun e w' => e = .returned (.int .i64 (cmpS s t)) ∧ w = w' := by
  have N1 := Lib.hid (fun w => nanS_any s w)
  have N2 := Lib.hid (fun w => nanS_any t w)
  rcases texts_ways s t with ⟨h1, hr⟩ | ⟨h1, h2, hr⟩ | ⟨h1, h2, hr⟩
  all_goals
    have HR := Lib.hid hr
    clear hr
    go_enter Tryz.func119, Tryz.ntmps119
    go_wp2_with fail
    refine (N1.out _).mono ?_; rintro e w1 ⟨rfl, rfl⟩
    go_wp2_with fail
    refine (N2.out _).mono ?_; rintro e w1 ⟨rfl, rfl⟩
    go_wp2_with fail
    go_ret
    exact ⟨ret_int HR.out.symm, rfl⟩
def CmpUpto (m : Nat) : Prop := ∀ (x y : Tv) (w : World), x.t.parts ≤ m → x.ok w → y.ok w →
    Calls Tryz.prog 105 #[x.val, y.val] w fun e w' => e = .returned (.int .i64 (cmpT x.t y.t)) ∧ Onto w w'
set_option maxRecDepth 100000 in
set_option maxHeartbeats 4000000 in
theorem cmpFunc_tm (m : Nat) (hC : CmpUpto m) (v u : Value) (xs ys : List Tm) (w : World) (hl : xs.length = ys.length) (hm : ∀ j (h : j < xs.length), xs[j].parts ≤ m) (hx : Tms w v xs) (hy : Tms w u ys) :
    Calls Tryz.prog 120 #[v, u, .func (.func 105) #[] #[]] w fun e w' => e = .returned (.int .i64 (cmpL xs ys)) ∧ Onto w w' := by
  obtain ⟨a, c, rfl, hxl, hxr⟩ := hx
  obtain ⟨a', c', rfl, hyl, hyr⟩ := hy
  have HC := Lib.hid hC
  have HL := Lib.hid hl
  have HM := Lib.hid hm
  have hq : ¬ (xs.length : Int) < (ys.length : Int) := by omega
  clear hC hl hm
  rcases hxr with rfl | ⟨b, off, rfl, hlt, hr⟩
  · have : ys = [] := by simpa using HL.out.symm
    subst this
    have h0 := Lib.hid (show cmpL [] [] = 0 from by rw [cmpL])
    go_enter Tryz.func120, Tryz.ntmps120
    go_wp2_with fail
    refine wp_loop_rounds 1 ?_; rw [rounds_succ]
    go_wp2_with fail
    go_ret
    exact ⟨ret_int h0.out.symm, Onto.refl _⟩
  rcases hyr with rfl | ⟨b', off', rfl, hlt', hr'⟩
  · have : xs = [] := by simpa using HL.out
    subst this
    have h0 := Lib.hid (show cmpL [] [] = 0 from by rw [cmpL])
    go_enter Tryz.func120, Tryz.ntmps120
    go_wp2_with fail
    refine wp_loop_rounds 1 ?_; rw [rounds_succ]
    go_wp2_with fail
    go_ret
    exact ⟨ret_int h0.out.symm, Onto.refl _⟩
  have HR := Lib.hid hr
  have HR' := Lib.hid hr'
  clear hr hr'
  go_enter Tryz.func120, Tryz.ntmps120
  go_wp2_with fail
  go_loopw [13] (fun i wr => ∃ j : Nat, j ≤ xs.length ∧ i = .int .i64 j ∧ CmpTo xs ys j ∧ Onto w wr) (fun i _ => xs.length - (intOf i).toNat)
  case atStart => exact ⟨0, Nat.zero_le _, rfl, (fun j _ _ hk => by omega), Onto.refl _⟩
  case round =>
    obtain ⟨j, hj, rfl, hal, hb⟩ := hrel
    have HA := Lib.hid hal
    clear hal
    by_cases hj1 : j < xs.length
    · have hj2 : j < ys.length := by have := HL.out; omega
      have hi1 : (j : Int) < (xs.length : Int) := by omega
      have hi2 : (j : Int) < (ys.length : Int) := by omega
      have hi3 : ¬ (ys.length : Int) ≤ (j : Int) := by omega
      obtain ⟨p, hu, huk, d0, d1, d2, d3⟩ := tmAt_tv ((rowAt_get HR.out hj1).below hb.below)
      obtain ⟨q, hv, hvk, hqa⟩ := tmAt_tv ((rowAt_get HR'.out hj2).below hb.below)
      obtain ⟨g0, g1, g2, g3⟩ := hqa.below ((Below.refl wr.heap.size wr).alloc (Nat.le_refl _) (.cells #[.int .i64 p.t.kind, .string p.t.name, .int .i64 p.t.n, .slice p.a p.t.args.length p.c] 50))
      have C := Lib.hid (fun w' (h : Below wr.heap.size wr w') => HC.out p q w' (by rw [hu]; exact HM.out j hj1) (huk.below h) (hvk.below h))
      have HU := Lib.hid hu
      have HV := Lib.hid hv
      have hbs := hb.below.size
      simp only [Tv.val] at C
      clear hu hv huk hvk hqa
      obtain ⟨r, hrr⟩ : ∃ r, r = cmpT p.t q.t := ⟨_, rfl⟩
      rw [← hrr] at C
      by_cases hr0 : r = 0
      · have HCC := Lib.hid (show cmpT xs[j] ys[j] = 0 from by rw [← HU.out, ← HV.out, ← hrr]; exact hr0)
        subst hr0
        clear hrr
        go_wp2_with fail
        refine (C.out _ (((Below.refl _ _).alloc (Nat.le_refl _) _).alloc (by simp) _)).mono ?_; rintro e w5 ⟨rfl, hb1⟩
        go_wp2_with fail
        go_roundw
        case rel => exact ⟨j + 1, by omega, by go_num, HA.out.succ hj1 hj2 HCC.out, ((hb.alloc _).alloc _).next hb1⟩
        case measure => simp [intOf]; omega
      · have HCC := Lib.hid (show cmpL xs ys = r from by rw [cmpL_at hj1 hj2 HA.out (by rw [← HU.out, ← HV.out, ← hrr]; exact hr0), hrr, HU.out, HV.out])
        have hq : (r != 0) = true := by rw [bne_iff_ne]; exact hr0
        clear hrr hr0
        go_wp2_with fail
        refine (C.out _ (((Below.refl _ _).alloc (Nat.le_refl _) _).alloc (by simp) _)).mono ?_; rintro e w5 ⟨rfl, hb1⟩
        go_wp2_with fail
        go_ret
        exact ⟨ret_int HCC.out.symm, ((hb.alloc _).alloc _).next hb1⟩
    · obtain rfl : j = xs.length := by omega
      have h0 := Lib.hid (show cmpL xs ys = 0 from cmpL_same fun j h1 h2 => HA.out j h1 h2 h1)
      go_wp2_with fail
      go_ret
      exact ⟨ret_int h0.out.symm, hb⟩
theorem cmpI_ne {a b : Int} (h : a ≠ b) : cmpI a b ≠ 0 := fun e => h (cmpI_zero.1 e)
theorem cmpS_ne {s t : ByteArray} (h : (s.toList == t.toList) = false) : cmpS s t ≠ 0 := fun e => by rw [cmpS_zero] at e; rw [e] at h; simp at h
theorem cmpS_eq {s t : ByteArray} (h : (s.toList == t.toList) = true) : cmpS s t = 0 := by rw [cmpS_zero]; simpa using h
set_option maxRecDepth 100000 in
set_option maxHeartbeats 4000000 in
theorem pcompare_tm (m : Nat) : CmpUpto m := by
  induction m with
  | zero => intro x y w h; have := parts_pos x.t; omega
  | succ m ih =>
    intro x y w hm hx hy
    obtain ⟨⟨k, s, n, xs⟩, a, c⟩ := x
    obtain ⟨⟨k', s', n', ys⟩, a', c'⟩ := y
    obtain ⟨_, hxa⟩ := hx
    obtain ⟨_, hya⟩ := hy
    simp only [Tv.val, Tm.kind, Tm.name, Tm.n, Tm.args] at hxa hya hm ⊢
    have hpl : ∀ j (h : j < xs.length), xs[j].parts ≤ m := fun j h => by
      have := parts_arg (.mk k s n xs) (j := j) h
      have e : (Tm.mk k s n xs).args[j] = xs[j] := rfl
      rw [e] at this; omega
    have hbb : Onto w ((w.alloc (.cells #[.int .i64 k, .string s, .int .i64 n, .slice a xs.length c] 50)).alloc (.cells #[.int .i64 k', .string s', .int .i64 n', .slice a' ys.length c'] 50)) := ((Onto.refl _).alloc _).alloc _
    have hE : cmpT (.mk k s n xs) (.mk k' s' n' ys) = if cmpI k k' ≠ 0 then cmpI k k' else if cmpI n n' ≠ 0 then cmpI n n' else if cmpS s s' ≠ 0 then cmpS s s' else if cmpI xs.length ys.length ≠ 0 then cmpI xs.length ys.length else cmpL xs ys := by rw [cmpT]
    have C1 := Lib.hid (fun w => cmpI_any k k' w)
    have C2 := Lib.hid (fun w => cmpI_any n n' w)
    have C3 := Lib.hid (fun w => cmpS_any s s' w)
    have C4 := Lib.hid (fun w => cmpI_any (xs.length : Int) (ys.length : Int) w)
    have CL := Lib.hid (fun hl w' (h : Below w.heap.size w w') => cmpFunc_tm m ih (.slice a xs.length c) (.slice a' ys.length c') xs ys w' hl hpl ⟨a, c, rfl, hxa.below h⟩ ⟨a', c', rfl, hya.below h⟩)
    clear ih hpl hm
    have hll := hxa.1
    have hll' := hya.1
    clear hxa hya
    by_cases h1 : k = k'
    case neg =>
      have hr := Lib.hid (show cmpT (.mk k s n xs) (.mk k' s' n' ys) = cmpI k k' from by rw [hE, if_pos (cmpI_ne h1)])
      have hq : (k != k') = true := by rw [bne_iff_ne]; exact h1
      clear hE h1
      go_enter Tryz.func105, Tryz.ntmps105
      go_wp2_with fail
      refine (C1.out _).mono ?_; rintro e w1 ⟨rfl, rfl⟩
      go_wp2_with fail
      go_ret
      exact ⟨ret_int hr.out.symm, hbb⟩
    have e1 := cmpI_zero.2 h1
    have q1 : (k != k') = false := by simp [h1]
    clear C1
    by_cases h2 : n = n'
    case neg =>
      have hr := Lib.hid (show cmpT (.mk k s n xs) (.mk k' s' n' ys) = cmpI n n' from by rw [hE, if_neg (by rw [e1]; simp), if_pos (cmpI_ne h2)])
      have hq : (n != n') = true := by rw [bne_iff_ne]; exact h2
      clear hE h1 h2 e1
      go_enter Tryz.func105, Tryz.ntmps105
      go_wp2_with fail
      refine (C2.out _).mono ?_; rintro e w1 ⟨rfl, rfl⟩
      go_wp2_with fail
      go_ret
      exact ⟨ret_int hr.out.symm, hbb⟩
    have e2 := cmpI_zero.2 h2
    have q2 : (n != n') = false := by simp [h2]
    clear C2
    cases h3 : (s.toList == s'.toList) with
    | false =>
      have hr := Lib.hid (show cmpT (.mk k s n xs) (.mk k' s' n' ys) = cmpS s s' from by rw [hE, if_neg (by rw [e1]; simp), if_neg (by rw [e2]; simp), if_pos (cmpS_ne h3)])
      clear hE h1 h2 e1 e2
      go_enter Tryz.func105, Tryz.ntmps105
      go_wp2_with fail
      refine (C3.out _).mono ?_; rintro e w1 ⟨rfl, rfl⟩
      go_wp2_with fail
      go_ret
      exact ⟨ret_int hr.out.symm, hbb⟩
    | true =>
      have e3 := cmpS_eq h3
      clear C3
      by_cases h4 : cmpI xs.length ys.length = 0
      case neg =>
        have hr := Lib.hid (show cmpT (.mk k s n xs) (.mk k' s' n' ys) = cmpI xs.length ys.length from by rw [hE, if_neg (by rw [e1]; simp), if_neg (by rw [e2]; simp), if_neg (by rw [e3]; simp), if_pos h4])
        obtain ⟨z, hz⟩ : ∃ z, z = cmpI (xs.length : Int) (ys.length : Int) := ⟨_, rfl⟩
        rw [← hz] at h4 hr C4
        have hq : (z != 0) = true := by rw [bne_iff_ne]; exact h4
        clear hE h1 h2 e1 e2 e3 h4 hz
        go_enter Tryz.func105, Tryz.ntmps105
        go_wp2_with fail
        refine (C4.out _).mono ?_; rintro e w1 ⟨rfl, rfl⟩
        go_wp2_with fail
        go_ret
        exact ⟨ret_int hr.out.symm, hbb⟩
      have hr := Lib.hid (show cmpT (.mk k s n xs) (.mk k' s' n' ys) = cmpL xs ys from by rw [hE, if_neg (by rw [e1]; simp), if_neg (by rw [e2]; simp), if_neg (by rw [e3]; simp), if_neg (by simpa using h4)])
      have C := Lib.hid (CL.out (by have := cmpI_zero.1 h4; omega))
      rw [h4] at C4
      clear hE h1 h2 e1 e2 e3 h4 CL
      go_enter Tryz.func105, Tryz.ntmps105
      go_wp2_with fail
      refine (C4.out _).mono ?_; rintro e w1 ⟨rfl, rfl⟩
      go_wp2_with fail
      refine (C.out _ hbb.below).mono ?_; rintro e w2 ⟨rfl, hb2⟩
      go_wp2_with fail
      go_ret
      exact ⟨ret_int hr.out.symm, hbb.next hb2⟩
set_option maxHeartbeats 1000000 in
theorem psame_tm (x y : Tv) (w : World) (hx : x.ok w) (hy : y.ok w) :
    Calls Tryz.prog 85 #[x.val, y.val] w fun e w' => e = .returned (.bool (eqT x.t y.t)) ∧ Onto w w' := by
  have C := Lib.hid (fun w' (h : Below w.heap.size w w') => pcompare_tm x.t.parts x y w' (Nat.le_refl _) (hx.below h) (hy.below h))
  have hie : ((cmpT x.t y.t == 0) = eqT x.t y.t) := by
    rw [Bool.eq_iff_iff, beq_iff_eq, eqT_iff]; exact cmpT_iff
  have HR := Lib.hid hie
  obtain ⟨tx, ax, cx⟩ := x
  obtain ⟨ty, ay, cy⟩ := y
  simp only [Tv.val] at *
  have hbb : Onto w ((w.alloc (.cells #[.int .i64 tx.kind, .string tx.name, .int .i64 tx.n, .slice ax tx.args.length cx] 50)).alloc (.cells #[.int .i64 ty.kind, .string ty.name, .int .i64 ty.n, .slice ay ty.args.length cy] 50)) := ((Onto.refl _).alloc _).alloc _
  clear hx hy hie
  obtain ⟨z, hz⟩ : ∃ z, z = cmpT tx ty := ⟨_, rfl⟩
  obtain ⟨q, hq⟩ : ∃ q, q = eqT tx ty := ⟨_, rfl⟩
  rw [← hz] at C HR
  rw [← hq] at HR ⊢
  clear hz hq
  go_enter Tryz.func85, Tryz.ntmps85
  go_wp2_with fail
  refine (C.out _ hbb.below).mono ?_; rintro e w1 ⟨rfl, hb1⟩
  go_wp2_with fail
  go_ret
  exact ⟨ret_bool HR.out, hbb.next hb1⟩
end Go.Proofs.YtnbjpgdnfklanaaGreatDoor

namespace Go.Proofs.YtnbjpgdnfklanaaGreatDoor
open Go.RowKit
set_option maxRecDepth 100000 in
set_option maxHeartbeats 4000000 in
theorem peqts_any (va vb : Value) (ts us : List Tm) (w : World) (ha : Tms w va ts) (hb : Tms w vb us) :
    Calls Tryz.prog 83 #[va, vb, .func (.func 85) #[] #[]] w fun e w' => e = .returned (.bool (eqTs ts us)) ∧ Below w.heap.size w w' := by
  have eg : ∀ (a b : Value) (w : World), (callFunc 85 #[a, b]).run Tryz.prog w = .ok (.enter 85 #[a, b]) w := fun _ _ _ => by kernel_rfl
  obtain ⟨aa, ca, rfl, ⟨hla, _⟩, hra⟩ := ha
  obtain ⟨ab, cb, rfl, ⟨hlb, _⟩, hrb⟩ := hb
  have HA := Lib.hid (fun (k : Nat) (hk : k < ts.length) => (show ∃ b o, aa = some ⟨b, o, none⟩ ∧ ∃ y : Tv, y.t = ts[k] ∧ y.ok w ∧ TvAt w b (o + k * 4) y from by
    rcases hra with h | ⟨b, o, e, _, hr⟩
    · rw [h] at hk; cases hk
    · obtain ⟨y, y1, y2, y3⟩ := tmAt_tv (rowAt_get hr hk)
      exact ⟨b, o, e, y, y1, y2, y3⟩))
  have HB := Lib.hid (fun (k : Nat) (hk : k < us.length) => (show ∃ b o, ab = some ⟨b, o, none⟩ ∧ ∃ y : Tv, y.t = us[k] ∧ y.ok w ∧ TvAt w b (o + k * 4) y from by
    rcases hrb with h | ⟨b, o, e, _, hr⟩
    · rw [h] at hk; cases hk
    · obtain ⟨y, y1, y2, y3⟩ := tmAt_tv (rowAt_get hr hk)
      exact ⟨b, o, e, y, y1, y2, y3⟩))
  have AL := Lib.hid (fun (x y : Tv) (W : World) (h1 : x.ok W) (h2 : y.ok W) => psame_tm x y W h1 h2)
  clear hra hrb
  by_cases hl : ts.length = us.length
  · have hln : ((ts.length : Int) != (us.length : Int)) = false := by rw [hl]; simp
    have HL := Lib.hid hl
    clear hl
    go_enter Tryz.func83, Tryz.ntmps83
    go_wp2_with fail
    go_loopw [17] (fun i wr => ∃ q : Nat, q ≤ ts.length ∧ i = .int .i64 q ∧ Hid (TmsTo ts us q) ∧ Below w.heap.size w wr) (fun i _ => ts.length - (intOf i).toNat)
    case atStart => exact ⟨0, Nat.zero_le _, rfl, Lib.hid (fun j _ _ h => by omega), Below.refl _ _⟩
    case round =>
      obtain ⟨q, hq, rfl, HT, hb⟩ := hrel
      by_cases hql : q < ts.length
      · have hqb : q < us.length := by have := HL.out; omega
        obtain ⟨b1, o1, rfl, x, hxt, hxo, hxv⟩ := HA.out q hql
        obtain ⟨b2, o2, rfl, y, hyt, hyo, hyv⟩ := HB.out q hqb
        have hr := reads_below hb
        have hbr1 : b1 < wr.heap.size := Nat.lt_of_lt_of_le (lt_of_cell hxv.c0) hb.size
        have hbr2 : b2 < wr.heap.size := Nat.lt_of_lt_of_le (lt_of_cell hyv.c0) hb.size
        have hbr3 : b2 < wr.heap.size + 1 := by omega
        obtain ⟨m0, m1, m2, m3⟩ : TvAt wr b1 (o1 + q * 4) x := ⟨hr.cell _ _ hxv.c0, hr.cell _ _ hxv.c1, hr.cell _ _ hxv.c2, hr.cell _ _ hxv.c3⟩
        obtain ⟨n0, n1, n2, n3⟩ : TvAt wr b2 (o2 + q * 4) y := ⟨hr.cell _ _ hyv.c0, hr.cell _ _ hyv.c1, hr.cell _ _ hyv.c2, hr.cell _ _ hyv.c3⟩
        have HNX := Lib.hid (fun (e : x.t = y.t) => HT.out.succ hql hqb (by rw [← hxt, ← hyt]; exact e))
        have HNE := Lib.hid (fun (e : x.t ≠ y.t) => (show eqTs ts us = false from eqTs_false (by rintro rfl; exact e (hxt.trans hyt.symm))))
        have hk0 : (0 : Int) ≤ (q : Int) := by omega
        have hk1 : (q : Int) < (ts.length : Int) := by omega
        have hk2 : (q : Int) < (us.length : Int) := by omega
        obtain ⟨xt, xa, xc⟩ := x
        obtain ⟨yt, ya, yc⟩ := y
        simp only at m0 m1 m2 m3 n0 n1 n2 n3 HNX HNE
        have hb1' : Below wr.heap.size wr (wr.alloc (.cells #[.int .i64 xt.kind, .string xt.name, .int .i64 xt.n, .slice xa xt.args.length xc] 50)) := (Below.refl _ _).alloc (Nat.le_refl _) _
        have hb2' : Below wr.heap.size wr ((wr.alloc (.cells #[.int .i64 xt.kind, .string xt.name, .int .i64 xt.n, .slice xa xt.args.length xc] 50)).alloc (.cells #[.int .i64 yt.kind, .string yt.name, .int .i64 yt.n, .slice ya yt.args.length yc] 50)) := hb1'.alloc hb1'.size _
        have C := Lib.hid (AL.out ⟨xt, xa, xc⟩ ⟨yt, ya, yc⟩ _ (hxo.below (hb.trans (hb2'.mono hb.size))) (hyo.below (hb.trans (hb2'.mono hb.size))))
        have HBW := Lib.hid (below_next hb hb2')
        have hx2 := (box_new wr (.int .i64 xt.kind) (.string xt.name) (.int .i64 xt.n) (.slice xa xt.args.length xc) 50).below (w1 := (wr.alloc (.cells #[.int .i64 xt.kind, .string xt.name, .int .i64 xt.n, .slice xa xt.args.length xc] 50)).alloc (.cells #[.int .i64 yt.kind, .string yt.name, .int .i64 yt.n, .slice ya yt.args.length yc] 50)) (B := wr.heap.size + 1) ((Below.refl _ _).alloc (by simp) _) (Nat.lt_succ_self _)
        obtain ⟨p0, p1, p2, p3, _, _, _, _⟩ := hx2
        unfold Tv.val at C
        simp only at C
        obtain ⟨bb, hbb⟩ : ∃ bb, eqT xt yt = bb := ⟨_, rfl⟩
        rw [hbb] at C
        have HBB := Lib.hid (show bb = true ↔ xt = yt by rw [← hbb]; exact eqT_iff)
        clear hxt hyt hxo hyo hxv hyv hb hr hb1' hb2' hbb
        cases bb with
        | false =>
          have HF := Lib.hid (HNE.out (fun e => by have := HBB.out.2 e; cases this))
          go_wp2_with fail
          refine C.out.mono ?_; rintro e w3 ⟨rfl, h3⟩
          have H3 := Lib.hid (below_next HBW.out h3.below)
          clear h3
          go_wp2_with fail
          go_ret
          exact ⟨by rw [HF.out]; rfl, H3.out⟩
        | true =>
          have HOK := Lib.hid (HNX.out (HBB.out.1 rfl))
          go_wp2_with fail
          refine C.out.mono ?_; rintro e w3 ⟨rfl, h3⟩
          have H3 := Lib.hid (below_next HBW.out h3.below)
          clear h3 p0 p1 p2 p3
          go_wp2_with fail
          go_roundw
          case rel => exact ⟨q + 1, by omega, by go_num, HOK, H3.out⟩
          case measure => simp [intOf]; omega
      · obtain rfl : q = ts.length := by omega
        have HEQ := Lib.hid (show eqTs ts us = true from eqTs_true (HT.out.all HL.out))
        have HBE := Lib.hid hb
        clear hb
        go_wp2_with fail
        go_ret
        exact ⟨by rw [HEQ.out]; rfl, HBE.out⟩
  · have hln : ((ts.length : Int) != (us.length : Int)) = true := by simp; omega
    have HL := Lib.hid (show eqTs ts us = false from eqTs_false (by rintro rfl; exact hl rfl))
    clear hl
    go_enter Tryz.func83, Tryz.ntmps83
    go_wp2_with fail
    go_ret
    exact ⟨by rw [HL.out]; rfl, Below.refl _ _⟩
end Go.Proofs.YtnbjpgdnfklanaaGreatDoor
