/-
  Which of two terms is first, by the program's Compare, and whether they are alike, by its Same: for any two terms in memory. Nothing is drawn; new memory alone.
-/
import Derived.Test.YtcecbdglepneaaaOrderTm
namespace Go.Proofs.Ytcecbdglepneaaa
open Go.RowKit

/-- New memory alone, and nothing drawn. -/
structure Onto (w w' : World) : Prop where
  below : Below w.heap.size w w'
  drawn : w'.drawn = w.drawn
theorem Onto.refl (w : World) : Onto w w := ⟨Below.refl _ _, rfl⟩
theorem Onto.alloc {w w' : World} (h : Onto w w') (o : Obj) : Onto w (w'.alloc o) := ⟨h.below.alloc h.below.size o, h.drawn⟩
theorem Onto.next {w w1 w2 : World} (h : Onto w w1) (k : Onto w1 w2) : Onto w w2 := ⟨below_next h.below k.below, k.drawn.trans h.drawn⟩

set_option maxHeartbeats 400000 in
theorem nanI_any (a : Int) (w : World) : Calls Try.prog 61 #[.int .i64 a] w fun e w' => e = .returned (.bool false) ∧ w = w' := by
  have h : (a != a) = false := by simp
  go_enter Try.func61, Try.ntmps61
  go_wp2
  go_ret
  exact ⟨rfl, rfl⟩
set_option maxHeartbeats 400000 in
theorem nanS_any (s : ByteArray) (w : World) : Calls Try.prog 62 #[.string s] w fun e w' => e = .returned (.bool false) ∧ w = w' := by
  have h : (s.toList == s.toList) = true := by simp
  go_enter Try.func62, Try.ntmps62
  go_wp2
  go_ret
  exact ⟨rfl, rfl⟩
set_option maxHeartbeats 400000 in
theorem cmpI_any (a b : Int) (w : World) : Calls Try.prog 57 #[.int .i64 a, .int .i64 b] w fun e w' => e = .returned (.int .i64 (cmpI a b)) ∧ w = w' := by
  have N1 := Lib.hid (fun w => nanI_any a w)
  have N2 := Lib.hid (fun w => nanI_any b w)
  rcases (show a < b ∨ b < a ∨ a = b from by omega) with h | h | h
  · have hr := Lib.hid (show cmpI a b = -1 from by unfold cmpI; rw [if_pos h])
    go_enter Try.func57, Try.ntmps57
    go_wp2_with fail
    refine (N1.out _).mono ?_; rintro e w1 ⟨rfl, rfl⟩
    go_wp2_with fail
    refine (N2.out _).mono ?_; rintro e w1 ⟨rfl, rfl⟩
    go_wp2_with fail
    go_ret
    exact ⟨ret_int hr.out.symm, rfl⟩
  · have hr := Lib.hid (show cmpI a b = 1 from by unfold cmpI; rw [if_neg (by omega), if_pos h])
    have h' : ¬ a < b := by omega
    go_enter Try.func57, Try.ntmps57
    go_wp2_with fail
    refine (N1.out _).mono ?_; rintro e w1 ⟨rfl, rfl⟩
    go_wp2_with fail
    refine (N2.out _).mono ?_; rintro e w1 ⟨rfl, rfl⟩
    go_wp2_with fail
    go_ret
    exact ⟨ret_int hr.out.symm, rfl⟩
  · have hr := Lib.hid (show cmpI a b = 0 from by unfold cmpI; rw [if_neg (by omega), if_neg (by omega)])
    have h1 : ¬ a < b := by omega
    have h2 : ¬ b < a := by omega
    clear h
    go_enter Try.func57, Try.ntmps57
    go_wp2_with fail
    refine (N1.out _).mono ?_; rintro e w1 ⟨rfl, rfl⟩
    go_wp2_with fail
    refine (N2.out _).mono ?_; rintro e w1 ⟨rfl, rfl⟩
    go_wp2_with fail
    go_ret
    exact ⟨ret_int hr.out.symm, rfl⟩
set_option maxHeartbeats 400000 in
theorem cmpS_any (s t : ByteArray) (w : World) : Calls Try.prog 58 #[.string s, .string t] w fun e w' => e = .returned (.int .i64 (cmpS s t)) ∧ w = w' := by
  have N1 := Lib.hid (fun w => nanS_any s w)
  have N2 := Lib.hid (fun w => nanS_any t w)
  rcases texts_ways s t with ⟨h1, hr⟩ | ⟨h1, h2, hr⟩ | ⟨h1, h2, hr⟩
  all_goals
    have HR := Lib.hid hr
    clear hr
    go_enter Try.func58, Try.ntmps58
    go_wp2_with fail
    refine (N1.out _).mono ?_; rintro e w1 ⟨rfl, rfl⟩
    go_wp2_with fail
    refine (N2.out _).mono ?_; rintro e w1 ⟨rfl, rfl⟩
    go_wp2_with fail
    go_ret
    exact ⟨ret_int HR.out.symm, rfl⟩

/-- What Compare answers of two terms with fewer parts than m. -/
def CmpUpto (m : Nat) : Prop := ∀ (x y : Tv) (w : World), x.t.parts ≤ m → x.ok w → y.ok w →
    Calls Try.prog 53 #[x.val, y.val] w fun e w' => e = .returned (.int .i64 (cmpT x.t y.t)) ∧ Onto w w'

set_option maxRecDepth 100000 in
set_option maxHeartbeats 4000000 in
theorem cmpFunc_tm (m : Nat) (hC : CmpUpto m) (v u : Value) (xs ys : List Tm) (w : World) (hl : xs.length = ys.length) (hm : ∀ j (h : j < xs.length), xs[j].parts ≤ m) (hx : Tms w v xs) (hy : Tms w u ys) :
    Calls Try.prog 59 #[v, u, .func (.func 53) #[] #[]] w fun e w' => e = .returned (.int .i64 (cmpL xs ys)) ∧ Onto w w' := by
  obtain ⟨a, c, rfl, hxl, hxr⟩ := hx
  obtain ⟨a', c', rfl, hyl, hyr⟩ := hy
  have HC := Lib.hid hC
  have HL := Lib.hid hl
  have HM := Lib.hid hm
  have hq : ¬ (xs.length : Int) < (ys.length : Int) := by omega
  clear hC hl hm
  rcases hxr with rfl | ⟨b, off, rfl, hlt, hr⟩
  · have : ys = [] := by simpa using HL.out.symm
    subst this
    have h0 := Lib.hid (show cmpL [] [] = 0 from by rw [cmpL])
    go_enter Try.func59, Try.ntmps59
    go_wp2_with fail
    refine wp_loop_rounds 1 ?_; rw [rounds_succ]
    go_wp2_with fail
    go_ret
    exact ⟨ret_int h0.out.symm, Onto.refl _⟩
  rcases hyr with rfl | ⟨b', off', rfl, hlt', hr'⟩
  · have : xs = [] := by simpa using HL.out
    subst this
    have h0 := Lib.hid (show cmpL [] [] = 0 from by rw [cmpL])
    go_enter Try.func59, Try.ntmps59
    go_wp2_with fail
    refine wp_loop_rounds 1 ?_; rw [rounds_succ]
    go_wp2_with fail
    go_ret
    exact ⟨ret_int h0.out.symm, Onto.refl _⟩
  have HR := Lib.hid hr
  have HR' := Lib.hid hr'
  clear hr hr'
  go_enter Try.func59, Try.ntmps59
  go_wp2_with fail
  go_loopw [13] (fun i wr => ∃ j : Nat, j ≤ xs.length ∧ i = .int .i64 j ∧ CmpTo xs ys j ∧ Onto w wr) (fun i _ => xs.length - (intOf i).toNat)
  case atStart => exact ⟨0, Nat.zero_le _, rfl, (fun j _ _ hk => by omega), Onto.refl _⟩
  case round =>
    obtain ⟨j, hj, rfl, hal, hb⟩ := hrel
    have HA := Lib.hid hal
    clear hal
    by_cases hj1 : j < xs.length
    · have hj2 : j < ys.length := by have := HL.out; omega
      have hi1 : (j : Int) < (xs.length : Int) := by omega
      have hi2 : (j : Int) < (ys.length : Int) := by omega
      have hi3 : ¬ (ys.length : Int) ≤ (j : Int) := by omega
      obtain ⟨p, hu, huk, d0, d1, d2, d3⟩ := tmAt_tv ((rowAt_get HR.out hj1).below hb.below)
      obtain ⟨q, hv, hvk, hqa⟩ := tmAt_tv ((rowAt_get HR'.out hj2).below hb.below)
      obtain ⟨g0, g1, g2, g3⟩ := hqa.below ((Below.refl wr.heap.size wr).alloc (Nat.le_refl _) (.cells #[.int .i64 p.t.kind, .string p.t.name, .int .i64 p.t.n, .slice p.a p.t.args.length p.c] 25))
      have C := Lib.hid (fun w' (h : Below wr.heap.size wr w') => HC.out p q w' (by rw [hu]; exact HM.out j hj1) (huk.below h) (hvk.below h))
      have HU := Lib.hid hu
      have HV := Lib.hid hv
      have hbs := hb.below.size
      simp only [Tv.val] at C
      clear hu hv huk hvk hqa
      obtain ⟨r, hrr⟩ : ∃ r, r = cmpT p.t q.t := ⟨_, rfl⟩
      rw [← hrr] at C
      by_cases hr0 : r = 0
      · have HCC := Lib.hid (show cmpT xs[j] ys[j] = 0 from by rw [← HU.out, ← HV.out, ← hrr]; exact hr0)
        subst hr0
        clear hrr
        go_wp2_with fail
        refine (C.out _ (((Below.refl _ _).alloc (Nat.le_refl _) _).alloc (by simp) _)).mono ?_; rintro e w5 ⟨rfl, hb1⟩
        go_wp2_with fail
        go_roundw
        case rel => exact ⟨j + 1, by omega, by go_num, HA.out.succ hj1 hj2 HCC.out, ((hb.alloc _).alloc _).next hb1⟩
        case measure => simp [intOf]; omega
      · have HCC := Lib.hid (show cmpL xs ys = r from by rw [cmpL_at hj1 hj2 HA.out (by rw [← HU.out, ← HV.out, ← hrr]; exact hr0), hrr, HU.out, HV.out])
        have hq : (r != 0) = true := by rw [bne_iff_ne]; exact hr0
        clear hrr hr0
        go_wp2_with fail
        refine (C.out _ (((Below.refl _ _).alloc (Nat.le_refl _) _).alloc (by simp) _)).mono ?_; rintro e w5 ⟨rfl, hb1⟩
        go_wp2_with fail
        go_ret
        exact ⟨ret_int HCC.out.symm, ((hb.alloc _).alloc _).next hb1⟩
    · obtain rfl : j = xs.length := by omega
      have h0 := Lib.hid (show cmpL xs ys = 0 from cmpL_same fun j h1 h2 => HA.out j h1 h2 h1)
      go_wp2_with fail
      go_ret
      exact ⟨ret_int h0.out.symm, hb⟩

theorem cmpI_ne {a b : Int} (h : a ≠ b) : cmpI a b ≠ 0 := fun e => h (cmpI_zero.1 e)
theorem cmpS_ne {s t : ByteArray} (h : (s.toList == t.toList) = false) : cmpS s t ≠ 0 := fun e => by rw [cmpS_zero] at e; rw [e] at h; simp at h
theorem cmpS_eq {s t : ByteArray} (h : (s.toList == t.toList) = true) : cmpS s t = 0 := by rw [cmpS_zero]; simpa using h

set_option maxRecDepth 100000 in
set_option maxHeartbeats 4000000 in
theorem pcompare_tm (m : Nat) : CmpUpto m := by
  induction m with
  | zero => intro x y w h; have := parts_pos x.t; omega
  | succ m ih =>
    intro x y w hm hx hy
    obtain ⟨⟨k, s, n, xs⟩, a, c⟩ := x
    obtain ⟨⟨k', s', n', ys⟩, a', c'⟩ := y
    obtain ⟨_, hxa⟩ := hx
    obtain ⟨_, hya⟩ := hy
    simp only [Tv.val, Tm.kind, Tm.name, Tm.n, Tm.args] at hxa hya hm ⊢
    have hpl : ∀ j (h : j < xs.length), xs[j].parts ≤ m := fun j h => by
      have := parts_arg (.mk k s n xs) (j := j) h
      have e : (Tm.mk k s n xs).args[j] = xs[j] := rfl
      rw [e] at this; omega
    have hbb : Onto w ((w.alloc (.cells #[.int .i64 k, .string s, .int .i64 n, .slice a xs.length c] 25)).alloc (.cells #[.int .i64 k', .string s', .int .i64 n', .slice a' ys.length c'] 25)) := ((Onto.refl _).alloc _).alloc _
    have hE : cmpT (.mk k s n xs) (.mk k' s' n' ys) = if cmpI k k' ≠ 0 then cmpI k k' else if cmpI n n' ≠ 0 then cmpI n n' else if cmpS s s' ≠ 0 then cmpS s s' else if cmpI xs.length ys.length ≠ 0 then cmpI xs.length ys.length else cmpL xs ys := by rw [cmpT]
    have C1 := Lib.hid (fun w => cmpI_any k k' w)
    have C2 := Lib.hid (fun w => cmpI_any n n' w)
    have C3 := Lib.hid (fun w => cmpS_any s s' w)
    have C4 := Lib.hid (fun w => cmpI_any (xs.length : Int) (ys.length : Int) w)
    have CL := Lib.hid (fun hl w' (h : Below w.heap.size w w') => cmpFunc_tm m ih (.slice a xs.length c) (.slice a' ys.length c') xs ys w' hl hpl ⟨a, c, rfl, hxa.below h⟩ ⟨a', c', rfl, hya.below h⟩)
    clear ih hpl hm
    have hll := hxa.1
    have hll' := hya.1
    clear hxa hya
    by_cases h1 : k = k'
    case neg =>
      have hr := Lib.hid (show cmpT (.mk k s n xs) (.mk k' s' n' ys) = cmpI k k' from by rw [hE, if_pos (cmpI_ne h1)])
      have hq : (k != k') = true := by rw [bne_iff_ne]; exact h1
      clear hE h1
      go_enter Try.func53, Try.ntmps53
      go_wp2_with fail
      refine (C1.out _).mono ?_; rintro e w1 ⟨rfl, rfl⟩
      go_wp2_with fail
      go_ret
      exact ⟨ret_int hr.out.symm, hbb⟩
    have e1 := cmpI_zero.2 h1
    have q1 : (k != k') = false := by simp [h1]
    clear C1
    by_cases h2 : n = n'
    case neg =>
      have hr := Lib.hid (show cmpT (.mk k s n xs) (.mk k' s' n' ys) = cmpI n n' from by rw [hE, if_neg (by rw [e1]; simp), if_pos (cmpI_ne h2)])
      have hq : (n != n') = true := by rw [bne_iff_ne]; exact h2
      clear hE h1 h2 e1
      go_enter Try.func53, Try.ntmps53
      go_wp2_with fail
      refine (C2.out _).mono ?_; rintro e w1 ⟨rfl, rfl⟩
      go_wp2_with fail
      go_ret
      exact ⟨ret_int hr.out.symm, hbb⟩
    have e2 := cmpI_zero.2 h2
    have q2 : (n != n') = false := by simp [h2]
    clear C2
    cases h3 : (s.toList == s'.toList) with
    | false =>
      have hr := Lib.hid (show cmpT (.mk k s n xs) (.mk k' s' n' ys) = cmpS s s' from by rw [hE, if_neg (by rw [e1]; simp), if_neg (by rw [e2]; simp), if_pos (cmpS_ne h3)])
      clear hE h1 h2 e1 e2
      go_enter Try.func53, Try.ntmps53
      go_wp2_with fail
      refine (C3.out _).mono ?_; rintro e w1 ⟨rfl, rfl⟩
      go_wp2_with fail
      go_ret
      exact ⟨ret_int hr.out.symm, hbb⟩
    | true =>
      have e3 := cmpS_eq h3
      clear C3
      by_cases h4 : cmpI xs.length ys.length = 0
      case neg =>
        have hr := Lib.hid (show cmpT (.mk k s n xs) (.mk k' s' n' ys) = cmpI xs.length ys.length from by rw [hE, if_neg (by rw [e1]; simp), if_neg (by rw [e2]; simp), if_neg (by rw [e3]; simp), if_pos h4])
        obtain ⟨z, hz⟩ : ∃ z, z = cmpI (xs.length : Int) (ys.length : Int) := ⟨_, rfl⟩
        rw [← hz] at h4 hr C4
        have hq : (z != 0) = true := by rw [bne_iff_ne]; exact h4
        clear hE h1 h2 e1 e2 e3 h4 hz
        go_enter Try.func53, Try.ntmps53
        go_wp2_with fail
        refine (C4.out _).mono ?_; rintro e w1 ⟨rfl, rfl⟩
        go_wp2_with fail
        go_ret
        exact ⟨ret_int hr.out.symm, hbb⟩
      have hr := Lib.hid (show cmpT (.mk k s n xs) (.mk k' s' n' ys) = cmpL xs ys from by rw [hE, if_neg (by rw [e1]; simp), if_neg (by rw [e2]; simp), if_neg (by rw [e3]; simp), if_neg (by simpa using h4)])
      have C := Lib.hid (CL.out (by have := cmpI_zero.1 h4; omega))
      rw [h4] at C4
      clear hE h1 h2 e1 e2 e3 h4 CL
      go_enter Try.func53, Try.ntmps53
      go_wp2_with fail
      refine (C4.out _).mono ?_; rintro e w1 ⟨rfl, rfl⟩
      go_wp2_with fail
      refine (C.out _ hbb.below).mono ?_; rintro e w2 ⟨rfl, hb2⟩
      go_wp2_with fail
      go_ret
      exact ⟨ret_int hr.out.symm, hbb.next hb2⟩

set_option maxHeartbeats 1000000 in
theorem psame_tm (x y : Tv) (w : World) (hx : x.ok w) (hy : y.ok w) :
    Calls Try.prog 50 #[x.val, y.val] w fun e w' => e = .returned (.bool (eqT x.t y.t)) ∧ Onto w w' := by
  have C := Lib.hid (fun w' (h : Below w.heap.size w w') => pcompare_tm x.t.parts x y w' (Nat.le_refl _) (hx.below h) (hy.below h))
  have hie : ((cmpT x.t y.t == 0) = eqT x.t y.t) := by
    rw [Bool.eq_iff_iff, beq_iff_eq, eqT_iff]; exact cmpT_iff
  have HR := Lib.hid hie
  obtain ⟨tx, ax, cx⟩ := x
  obtain ⟨ty, ay, cy⟩ := y
  simp only [Tv.val] at *
  have hbb : Onto w ((w.alloc (.cells #[.int .i64 tx.kind, .string tx.name, .int .i64 tx.n, .slice ax tx.args.length cx] 25)).alloc (.cells #[.int .i64 ty.kind, .string ty.name, .int .i64 ty.n, .slice ay ty.args.length cy] 25)) := ((Onto.refl _).alloc _).alloc _
  clear hx hy hie
  obtain ⟨z, hz⟩ : ∃ z, z = cmpT tx ty := ⟨_, rfl⟩
  obtain ⟨q, hq⟩ : ∃ q, q = eqT tx ty := ⟨_, rfl⟩
  rw [← hz] at C HR
  rw [← hq] at HR ⊢
  clear hz hq
  go_enter Try.func50, Try.ntmps50
  go_wp2_with fail
  refine (C.out _ hbb.below).mono ?_; rintro e w1 ⟨rfl, hb1⟩
  go_wp2_with fail
  go_ret
  exact ⟨ret_bool HR.out, hbb.next hb1⟩
end Go.Proofs.Ytcecbdglepneaaa
