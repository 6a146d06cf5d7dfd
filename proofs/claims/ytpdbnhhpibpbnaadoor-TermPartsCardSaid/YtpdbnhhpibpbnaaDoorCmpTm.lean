/-
  Which of two terms is first, by the reference of layer 3: ints, texts, Compare.
-/
import Derived.Test.YtpdbnhhpibpbnaaDoorSameTm
namespace Go.Proofs.YtpdbnhhpibpbnaaDoor
open Go.RowKit

def cmpI (a b : Int) : Int := if a < b then -1 else if b < a then 1 else 0
def cmpS (s t : ByteArray) : Int := if Op.bytesLess s.toList t.toList = true then -1 else if (s.toList == t.toList) = true then 0 else 1
mutual
/-- Which of two terms is first: by kind, number, name, how many arguments, then these from the left. -/
def cmpT : Tm → Tm → Int
  | .mk k s n xs, .mk k' s' n' ys => if cmpI k k' ≠ 0 then cmpI k k' else if cmpI n n' ≠ 0 then cmpI n n' else if cmpS s s' ≠ 0 then cmpS s s' else if cmpI xs.length ys.length ≠ 0 then cmpI xs.length ys.length else cmpL xs ys
def cmpL : List Tm → List Tm → Int
  | [], _ => 0
  | _ :: _, [] => 0
  | x :: r, y :: q => if cmpT x y ≠ 0 then cmpT x y else cmpL r q
end
theorem cmpI_zero {a b : Int} : cmpI a b = 0 ↔ a = b := by unfold cmpI; split; omega; split <;> omega
theorem cmpI_bd (a b : Int) : -1 ≤ cmpI a b ∧ cmpI a b ≤ 1 := by unfold cmpI; split; omega; split <;> omega
theorem cmpS_bd (s t : ByteArray) : -1 ≤ cmpS s t ∧ cmpS s t ≤ 1 := by unfold cmpS; split; omega; split <;> omega
mutual
theorem cmpT_bd : ∀ t u : Tm, -1 ≤ cmpT t u ∧ cmpT t u ≤ 1
  | .mk k s n xs, .mk k' s' n' ys => by
    rw [cmpT]
    have h1 := cmpI_bd k k'
    have h2 := cmpI_bd n n'
    have h3 := cmpS_bd s s'
    have h4 := cmpI_bd xs.length ys.length
    have h5 := cmpL_bd xs ys
    repeat' split
    all_goals assumption
theorem cmpL_bd : ∀ xs ys : List Tm, -1 ≤ cmpL xs ys ∧ cmpL xs ys ≤ 1
  | [], _ => by rw [cmpL]; omega
  | _ :: _, [] => by rw [cmpL]; omega
  | x :: r, y :: q => by
    rw [cmpL]
    have h1 := cmpT_bd x y
    have h2 := cmpL_bd r q
    split <;> assumption
end
theorem cmpL_same : ∀ {xs ys : List Tm}, (∀ j (h1 : j < xs.length) (h2 : j < ys.length), cmpT xs[j] ys[j] = 0) → cmpL xs ys = 0
  | [], _, _ => by rw [cmpL]
  | _ :: _, [], _ => by rw [cmpL]
  | x :: r, y :: q, h => by
    have h0 := h 0 (by simp) (by simp)
    simp only [List.getElem_cons_zero] at h0
    rw [cmpL, if_neg (by rw [h0]; simp)]
    exact cmpL_same fun j h1 h2 => by
      have := h (j + 1) (by simpa using h1) (by simpa using h2)
      simpa using this
theorem cmpL_at : ∀ {xs ys : List Tm} {k : Nat} (h1 : k < xs.length) (h2 : k < ys.length), (∀ j (a : j < xs.length) (b : j < ys.length), j < k → cmpT xs[j] ys[j] = 0) → cmpT xs[k] ys[k] ≠ 0 → cmpL xs ys = cmpT xs[k] ys[k]
  | [], _, _, h1, _, _, _ => by simp at h1
  | _ :: _, [], _, _, h2, _, _ => by simp at h2
  | x :: r, y :: q, 0, _, _, _, hn => by
    simp only [List.getElem_cons_zero] at hn ⊢
    rw [cmpL, if_pos hn]
  | x :: r, y :: q, k + 1, h1, h2, h, hn => by
    have h0 := h 0 (by simp) (by simp) (by omega)
    simp only [List.getElem_cons_zero] at h0
    rw [cmpL, if_neg (by rw [h0]; simp)]
    simp only [List.getElem_cons_succ] at hn ⊢
    exact cmpL_at (by simpa using h1) (by simpa using h2) (fun j a b hj => by
      have := h (j + 1) (by simpa using a) (by simpa using b) (by omega)
      simpa using this) hn
/-- Up to k no pair parts. -/
def CmpTo (xs ys : List Tm) (k : Nat) : Prop := ∀ j (h1 : j < xs.length) (h2 : j < ys.length), j < k → cmpT xs[j] ys[j] = 0
theorem CmpTo.succ {xs ys : List Tm} {k : Nat} (h : CmpTo xs ys k) (h1 : k < xs.length) (h2 : k < ys.length) (hk : cmpT xs[k] ys[k] = 0) : CmpTo xs ys (k + 1) := by
  intro j a b hj
  by_cases e : j = k
  · subst e; exact hk
  · exact h j a b (by omega)

set_option maxHeartbeats 400000 in
theorem ints_any (a b : Int) (w : World) : Calls Tryd.prog 45 #[.int .i64 a, .int .i64 b] w fun e w' => e = .returned (.int .i64 (cmpI a b)) ∧ w = w' := by
  rcases (show a < b ∨ b < a ∨ a = b from by omega) with h | h | h
  · have hr := Lib.hid (show cmpI a b = -1 from by unfold cmpI; rw [if_pos h])
    go_enter Tryd.func45, Tryd.ntmps45
    go_wp2
    go_ret
    exact ⟨ret_int hr.out.symm, rfl⟩
  · have hr := Lib.hid (show cmpI a b = 1 from by unfold cmpI; rw [if_neg (by omega), if_pos h])
    have h' : ¬ a < b := by omega
    go_enter Tryd.func45, Tryd.ntmps45
    go_wp2
    go_ret
    exact ⟨ret_int hr.out.symm, rfl⟩
  · have hr := Lib.hid (show cmpI a b = 0 from by unfold cmpI; rw [if_neg (by omega), if_neg (by omega)])
    have h1 : ¬ a < b := by omega
    have h2 : ¬ b < a := by omega
    clear h
    go_enter Tryd.func45, Tryd.ntmps45
    go_wp2
    go_ret
    exact ⟨ret_int hr.out.symm, rfl⟩
theorem texts_ways (s t : ByteArray) : (Op.bytesLess s.toList t.toList = true ∧ cmpS s t = -1) ∨ (Op.bytesLess s.toList t.toList = false ∧ (s.toList == t.toList) = true ∧ cmpS s t = 0) ∨ (Op.bytesLess s.toList t.toList = false ∧ (s.toList == t.toList) = false ∧ cmpS s t = 1) := by
  unfold cmpS
  cases h1 : Op.bytesLess s.toList t.toList with
  | true => left; exact ⟨rfl, by simp⟩
  | false =>
    right
    cases h2 : (s.toList == t.toList) with
    | true => left; exact ⟨rfl, rfl, by simp⟩
    | false => right; exact ⟨rfl, rfl, by simp⟩
set_option maxHeartbeats 400000 in
theorem texts_any (s t : ByteArray) (w : World) : Calls Tryd.prog 46 #[.string s, .string t] w fun e w' => e = .returned (.int .i64 (cmpS s t)) ∧ w = w' := by
  rcases texts_ways s t with ⟨h1, hr⟩ | ⟨h1, h2, hr⟩ | ⟨h1, h2, hr⟩
  all_goals
    have HR := Lib.hid hr
    clear hr
    go_enter Tryd.func46, Tryd.ntmps46
    go_wp2
    go_ret
    exact ⟨ret_int HR.out.symm, rfl⟩

set_option maxRecDepth 100000 in
set_option maxHeartbeats 4000000 in
theorem compare_tm (m : Nat) : ∀ (x y : Tv) (w : World), x.t.parts ≤ m → x.ok w → y.ok w →
    Calls Tryd.prog 17 #[x.val, y.val] w fun e w' => e = .returned (.int .i64 (cmpT x.t y.t)) ∧ Below w.heap.size w w' := by
  induction m with
  | zero => intro x y w h; have := parts_pos x.t; omega
  | succ m ih =>
    intro x y w hm hx hy
    obtain ⟨⟨k, s, n, xs⟩, a, c⟩ := x
    obtain ⟨⟨k', s', n', ys⟩, a', c'⟩ := y
    obtain ⟨_, hxl, hxr⟩ := hx
    obtain ⟨_, hyl, hyr⟩ := hy
    simp only [Tv.val, Tm.kind, Tm.name, Tm.n, Tm.args] at hxl hxr hyl hyr hm ⊢
    have hpl : ∀ j (h : j < xs.length), xs[j].parts ≤ m := fun j h => by
      have := parts_arg (.mk k s n xs) (j := j) h
      have e : (Tm.mk k s n xs).args[j] = xs[j] := rfl
      rw [e] at this; omega
    have hbb : Below w.heap.size w ((w.alloc (.cells #[.int .i64 k, .string s, .int .i64 n, .slice a xs.length c] 24)).alloc (.cells #[.int .i64 k', .string s', .int .i64 n', .slice a' ys.length c'] 24)) :=
      ((Below.refl _ _).alloc (Nat.le_refl _) _).alloc (by simp) _
    have C1 := Lib.hid (fun w => ints_any k k' w)
    have C2 := Lib.hid (fun w => ints_any n n' w)
    have C3 := Lib.hid (fun w => texts_any s s' w)
    have C4 := Lib.hid (fun w => ints_any (xs.length : Int) (ys.length : Int) w)
    have hE : cmpT (.mk k s n xs) (.mk k' s' n' ys) = if cmpI k k' ≠ 0 then cmpI k k' else if cmpI n n' ≠ 0 then cmpI n n' else if cmpS s s' ≠ 0 then cmpS s s' else if cmpI xs.length ys.length ≠ 0 then cmpI xs.length ys.length else cmpL xs ys := by rw [cmpT]
    have hL : cmpI xs.length ys.length = 0 → xs.length = ys.length := fun h => by have := cmpI_zero.1 h; omega
    obtain ⟨z, hz⟩ : ∃ z, z = cmpT (.mk k s n xs) (.mk k' s' n' ys) := ⟨_, rfl⟩
    rw [← hz] at hE ⊢
    have HZ := Lib.hid hz
    obtain ⟨c1, hc1⟩ : ∃ c1, c1 = cmpI k k' := ⟨_, rfl⟩
    obtain ⟨c2, hc2⟩ : ∃ c2, c2 = cmpI n n' := ⟨_, rfl⟩
    obtain ⟨c3, hc3⟩ : ∃ c3, c3 = cmpS s s' := ⟨_, rfl⟩
    obtain ⟨c4, hc4⟩ : ∃ c4, c4 = cmpI xs.length ys.length := ⟨_, rfl⟩
    rw [← hc1, ← hc2, ← hc3, ← hc4] at hE
    rw [← hc4] at hL
    rw [← hc1] at C1
    rw [← hc2] at C2
    rw [← hc3] at C3
    rw [← hc4] at C4
    have IH := Lib.hid ih
    have HP := Lib.hid hpl
    clear hc1 hc2 hc3 hc4 hz ih hpl hm
    by_cases h1 : c1 = 0
    case neg =>
      have hr := Lib.hid (show z = c1 from by rw [hE, if_pos h1])
      have hq : (c1 != 0) = true := by rw [bne_iff_ne]; exact h1
      clear hE h1 hL
      go_enter Tryd.func17, Tryd.ntmps17
      go_wp2_with fail
      refine (C1.out _).mono ?_; rintro e w1 ⟨rfl, rfl⟩
      go_wp2_with fail
      go_ret
      exact ⟨ret_int hr.out.symm, hbb⟩
    subst h1
    by_cases h2 : c2 = 0
    case neg =>
      have hr := Lib.hid (show z = c2 from by rw [hE, if_neg (by simp), if_pos h2])
      have hq : (c2 != 0) = true := by rw [bne_iff_ne]; exact h2
      clear hE h2 hL
      go_enter Tryd.func17, Tryd.ntmps17
      go_wp2_with fail
      refine (C1.out _).mono ?_; rintro e w1 ⟨rfl, rfl⟩
      go_wp2_with fail
      refine (C2.out _).mono ?_; rintro e w2 ⟨rfl, rfl⟩
      go_wp2_with fail
      go_ret
      exact ⟨ret_int hr.out.symm, hbb⟩
    subst h2
    by_cases h3 : c3 = 0
    case neg =>
      have hr := Lib.hid (show z = c3 from by rw [hE, if_neg (by simp), if_neg (by simp), if_pos h3])
      have hq : (c3 != 0) = true := by rw [bne_iff_ne]; exact h3
      clear hE h3 hL
      go_enter Tryd.func17, Tryd.ntmps17
      go_wp2_with fail
      refine (C1.out _).mono ?_; rintro e w1 ⟨rfl, rfl⟩
      go_wp2_with fail
      refine (C2.out _).mono ?_; rintro e w2 ⟨rfl, rfl⟩
      go_wp2_with fail
      refine (C3.out _).mono ?_; rintro e w3 ⟨rfl, rfl⟩
      go_wp2_with fail
      go_ret
      exact ⟨ret_int hr.out.symm, hbb⟩
    subst h3
    by_cases h4 : c4 = 0
    case neg =>
      have hr := Lib.hid (show z = c4 from by rw [hE, if_neg (by simp), if_neg (by simp), if_neg (by simp), if_pos h4])
      have hq : (c4 != 0) = true := by rw [bne_iff_ne]; exact h4
      clear hE h4 hL
      go_enter Tryd.func17, Tryd.ntmps17
      go_wp2_with fail
      refine (C1.out _).mono ?_; rintro e w1 ⟨rfl, rfl⟩
      go_wp2_with fail
      refine (C2.out _).mono ?_; rintro e w2 ⟨rfl, rfl⟩
      go_wp2_with fail
      refine (C3.out _).mono ?_; rintro e w3 ⟨rfl, rfl⟩
      go_wp2_with fail
      refine (C4.out _).mono ?_; rintro e w4 ⟨rfl, rfl⟩
      go_wp2_with fail
      go_ret
      exact ⟨ret_int hr.out.symm, hbb⟩
    subst h4
    have hr := Lib.hid (show z = cmpL xs ys from by rw [hE, if_neg (by simp), if_neg (by simp), if_neg (by simp), if_neg (by simp)])
    have HL := Lib.hid (hL rfl)
    clear hE hL
    rcases hxr with rfl | ⟨b, off, rfl, hlt, hrw⟩
    · have h0 := Lib.hid (show z = 0 from by rw [hr.out, cmpL])
      clear hr
      go_enter Tryd.func17, Tryd.ntmps17
      go_wp2_with fail
      refine (C1.out _).mono ?_; rintro e w1 ⟨rfl, rfl⟩
      go_wp2_with fail
      refine (C2.out _).mono ?_; rintro e w2 ⟨rfl, rfl⟩
      go_wp2_with fail
      refine (C3.out _).mono ?_; rintro e w3 ⟨rfl, rfl⟩
      go_wp2_with fail
      refine (C4.out _).mono ?_; rintro e w4 ⟨rfl, rfl⟩
      go_wp2
      refine wp_loop_rounds 1 ?_; rw [rounds_succ]
      go_wp2
      go_ret
      exact ⟨ret_int h0.out.symm, hbb⟩
    rcases hyr with rfl | ⟨b', off', rfl, hlt', hrw'⟩
    · have : xs = [] := by simpa using HL.out
      subst this
      have h0 := Lib.hid (show z = 0 from by rw [hr.out, cmpL])
      clear hr
      go_enter Tryd.func17, Tryd.ntmps17
      go_wp2_with fail
      refine (C1.out _).mono ?_; rintro e w1 ⟨rfl, rfl⟩
      go_wp2_with fail
      refine (C2.out _).mono ?_; rintro e w2 ⟨rfl, rfl⟩
      go_wp2_with fail
      refine (C3.out _).mono ?_; rintro e w3 ⟨rfl, rfl⟩
      go_wp2_with fail
      refine (C4.out _).mono ?_; rintro e w4 ⟨rfl, rfl⟩
      go_wp2
      refine wp_loop_rounds 1 ?_; rw [rounds_succ]
      go_wp2
      go_ret
      exact ⟨ret_int h0.out.symm, hbb⟩
    have HR := Lib.hid hrw
    have HR' := Lib.hid hrw'
    clear hrw hrw'
    go_enter Tryd.func17, Tryd.ntmps17
    go_wp2_with fail
    refine (C1.out _).mono ?_; rintro e w1 ⟨rfl, rfl⟩
    go_wp2_with fail
    refine (C2.out _).mono ?_; rintro e w2 ⟨rfl, rfl⟩
    go_wp2_with fail
    refine (C3.out _).mono ?_; rintro e w3 ⟨rfl, rfl⟩
    go_wp2_with fail
    refine (C4.out _).mono ?_; rintro e w4 ⟨rfl, rfl⟩
    go_wp2
    go_loopw [48] (fun i wr => ∃ j : Nat, j ≤ xs.length ∧ i = .int .i64 j ∧ CmpTo xs ys j ∧ Below (w.heap.size + 2) ((w.alloc (.cells #[.int .i64 k, .string s, .int .i64 n, .slice (some ⟨b, off, none⟩) xs.length c] 24)).alloc (.cells #[.int .i64 k', .string s', .int .i64 n', .slice (some ⟨b', off', none⟩) ys.length c'] 24)) wr) (fun i _ => xs.length - (intOf i).toNat)
    case atStart => exact ⟨0, Nat.zero_le _, rfl, (fun j _ _ hk => by omega), Below.refl _ _⟩
    case round =>
      obtain ⟨j, hj, rfl, hal, hb⟩ := hrel
      have HA := Lib.hid hal
      clear hal
      by_cases hj1 : j < xs.length
      · have hj2 : j < ys.length := by have := HL.out; omega
        have hi1 : (j : Int) < (xs.length : Int) := by omega
        have hi2 : (j : Int) < (ys.length : Int) := by omega
        have hwr : Below w.heap.size w wr := hbb.trans (hb.mono (by omega))
        obtain ⟨u, hu, huk, d0, d1, d2, d3⟩ := tmAt_tv ((rowAt_get HR.out hj1).below hwr)
        obtain ⟨v, hv, hvk, g0, g1, g2, g3⟩ := tmAt_tv ((rowAt_get HR'.out hj2).below hwr)
        have p0 : wr.cell? ⟨w.heap.size, 3, none⟩ = some (.slice (some ⟨b, off, none⟩) xs.length c) := by
          rw [hb.cell (p := ⟨w.heap.size, 3, none⟩) (by show w.heap.size < _; omega)]
          exact ((box_new w _ _ _ _ _).below ((Below.refl _ _).alloc (Nat.le_refl _) _) (by simp)).c3
        have p1 : wr.cell? ⟨w.heap.size + 1, 3, none⟩ = some (.slice (some ⟨b', off', none⟩) ys.length c') := by
          rw [hb.cell (p := ⟨w.heap.size + 1, 3, none⟩) (by show w.heap.size + 1 < _; omega)]
          exact (box_next (w.alloc _) _ (by simp) _ _ _ _ _).c3
        have C := Lib.hid (IH.out u v wr.drew (by rw [hu]; exact HP.out j hj1) huk.drew hvk.drew)
        have HU := Lib.hid hu
        have HV := Lib.hid hv
        have hwz := hb.size
        simp at hwz
        simp only [Tv.val] at C
        clear hu hv huk hvk
        obtain ⟨r, hrr⟩ : ∃ r, r = cmpT u.t v.t := ⟨_, rfl⟩
        rw [← hrr] at C
        by_cases hr0 : r = 0
        · have HC := Lib.hid (show cmpT xs[j] ys[j] = 0 from by rw [← HU.out, ← HV.out, ← hrr]; exact hr0)
          subst hr0
          clear hrr
          go_wp2
          go_still_tail 10, (by kernel_rfl)
          go_wp2_with fail
          refine C.out.mono ?_; rintro e w5 ⟨rfl, hb1⟩
          go_wp2_with fail
          go_roundw
          case rel => exact ⟨j + 1, by omega, by go_num, HA.out.succ hj1 hj2 HC.out, (hb.drew).trans (hb1.mono (by show w.heap.size + 2 ≤ wr.heap.size; omega))⟩
          case measure => simp [intOf]; omega
        · have HC := Lib.hid (show z = r from by rw [hr.out, cmpL_at hj1 hj2 HA.out (by rw [← HU.out, ← HV.out, ← hrr]; exact hr0), hrr, HU.out, HV.out])
          have hq : (r != 0) = true := by rw [bne_iff_ne]; exact hr0
          clear hrr hr0
          go_wp2
          go_still_tail 10, (by kernel_rfl)
          go_wp2_with fail
          refine C.out.mono ?_; rintro e w5 ⟨rfl, hb1⟩
          go_wp2_with fail
          go_ret
          exact ⟨ret_int HC.out.symm, hwr.drew.trans (hb1.mono (by show w.heap.size ≤ wr.heap.size; omega))⟩
      · obtain rfl : j = xs.length := by omega
        have h0 := Lib.hid (show z = 0 from by rw [hr.out]; exact cmpL_same fun j h1 h2 => HA.out j h1 h2 h1)
        go_wp2
        go_ret
        exact ⟨ret_int h0.out.symm, hbb.trans (hb.mono (by omega))⟩
end Go.Proofs.YtpdbnhhpibpbnaaDoor
