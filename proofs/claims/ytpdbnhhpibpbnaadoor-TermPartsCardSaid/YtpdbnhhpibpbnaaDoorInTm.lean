/-
  Whether a term is in a row, or in another term, by the reference of layer 3: In, Has, Proper.
-/
import Derived.Test.YtpdbnhhpibpbnaaDoorCutTm
import Derived.Deep.RegionWith
namespace Go.Proofs.YtpdbnhhpibpbnaaDoor
open Go.RowKit

theorem Tv.val_shape (x : Tv) : ∃ (k : Int) (s : ByteArray) (n : Int) (a : Option Addr) (l c : Nat), x.val = .agg #[.int .i64 k, .string s, .int .i64 n, .slice a l c] := ⟨_, _, _, _, _, _, rfl⟩
/-- A term is among others. -/
noncomputable def inT (ts : List Tm) (t : Tm) : Bool := ts.any fun x => eqT x t
def NoneTo (ts : List Tm) (t : Tm) (k : Nat) : Prop := ∀ j (h : j < ts.length), j < k → ts[j] ≠ t
theorem NoneTo.succ {ts : List Tm} {t : Tm} {k : Nat} (h : NoneTo ts t k) (hk : k < ts.length) (hs : ts[k] ≠ t) : NoneTo ts t (k + 1) := by
  intro j hj hjk
  by_cases e : j = k
  · subst e; exact hs
  · exact h j hj (by omega)
theorem NoneTo.all {ts : List Tm} {t : Tm} (h : NoneTo ts t ts.length) : inT ts t = false := by
  unfold inT; rw [← Bool.not_eq_true, List.any_eq_true]
  rintro ⟨x, hx, he⟩
  obtain ⟨j, hj, rfl⟩ := List.getElem_of_mem hx
  exact h j hj hj (eqT_iff.1 he)
theorem in_here {ts : List Tm} {t : Tm} {k : Nat} (hk : k < ts.length) (h : ts[k] = t) : inT ts t = true := by
  unfold inT; rw [List.any_eq_true]; exact ⟨ts[k], List.getElem_mem hk, eqT_true h⟩
theorem in_nil (t : Tm) : inT [] t = false := rfl

set_option maxRecDepth 100000 in
set_option maxHeartbeats 1000000 in
theorem in_tm (v : Value) (ts : List Tm) (x : Tv) (w : World) (hv : Tms w v ts) (hx : x.ok w) :
    Calls Tryd.prog 52 #[v, x.val] w fun e w' => e = .returned (.bool (inT ts x.t)) ∧ Below w.heap.size w w' := by
  obtain ⟨a, c, rfl, hl, h⟩ := hv.open_
  clear hv
  have HX := Lib.hid hx
  clear hx
  rcases h with rfl | ⟨b, off, rfl, hlt, hc⟩
  · have HN := Lib.hid (in_nil x.t)
    obtain ⟨t, a2, c2⟩ := x
    simp only [Tv.val]
    go_enter Tryd.func52, Tryd.ntmps52
    go_wp2
    refine wp_loop_rounds 1 ?_; rw [rounds_succ]
    go_wp2
    go_ret
    exact ⟨ret_bool HN.out.symm, (Below.refl _ _).alloc (Nat.le_refl _) _⟩
  · have HC := Lib.hid hc
    have S := Lib.hid (fun y w hx hy => same_tm y.t.parts y x w (Nat.le_refl _) hx hy)
    clear hc
    have HA := Lib.hid (fun (h : NoneTo ts x.t ts.length) => h.all)
    have HH := Lib.hid (fun k (hk : k < ts.length) (h : ts[k] = x.t) => in_here hk h)
    obtain ⟨z, hz⟩ : ∃ z, z = inT ts x.t := ⟨_, rfl⟩
    rw [← hz] at HA HH ⊢
    clear hz
    obtain ⟨xk, xs, xn, xa, xl, xc, hxv⟩ := x.val_shape
    rw [hxv] at S ⊢
    clear hxv
    go_enter Tryd.func52, Tryd.ntmps52
    go_wp2
    go_loopw [9] (fun i wr => ∃ k : Nat, k ≤ ts.length ∧ i = .int .i64 k ∧ NoneTo ts x.t k ∧ Below (w.heap.size + 1) (w.alloc (.cells #[.int .i64 xk, .string xs, .int .i64 xn, .slice xa xl xc] 24)) wr) (fun i _ => ts.length - (intOf i).toNat)
    case atStart => exact ⟨0, Nat.zero_le _, rfl, (fun j hj hk => by omega), Below.refl _ _⟩
    case round =>
      obtain ⟨k, hk, rfl, hsh, hbb⟩ := hrel
      have hb : Below w.heap.size w wr := below_pair hbb
      have hbs := hbb.size
      simp at hbs
      have HS := Lib.hid hsh
      clear hsh
      by_cases hkl : k < ts.length
      · have hi : (k : Int) < (ts.length : Int) := by omega
        obtain ⟨y, hy, hyk, hat⟩ := HC.out k hkl
        obtain ⟨d0, d1, d2, d3⟩ := hat.below hb
        obtain ⟨p0, p1, p2, p3, _, _, _, _⟩ := (box_new w (.int .i64 xk) (.string xs) (.int .i64 xn) (.slice xa xl xc) 24).below hbb (by omega)
        have hwl : w.heap.size < wr.heap.size := by omega
        have C := Lib.hid (S.out y (wr.alloc (.cells #[.int .i64 y.t.kind, .string y.t.name, .int .i64 y.t.n, .slice y.a y.t.args.length y.c] 24)) ((hyk.below hb).below ((Below.refl _ _).alloc (Nat.le_refl _) _)) ((HX.out.below hb).below ((Below.refl _ _).alloc (Nat.le_refl _) _)))
        have HY := Lib.hid hy
        simp only [Tv.val] at C
        clear hyk hat hy
        cases hs : eqT y.t x.t with
        | true =>
          rw [hs] at C
          have HN := Lib.hid (show ts[k] = x.t from by rw [← HY.out]; exact eqT_iff.1 hs)
          clear hs
          go_wp2_with fail
          refine C.out.mono ?_; rintro e w1 ⟨rfl, hb1⟩
          go_wp2_with fail
          go_ret
          exact ⟨ret_bool (HH.out k hkl HN.out).symm, below_next (hb.alloc hb.size _) hb1⟩
        | false =>
          rw [hs] at C
          have HN : Hid (ts[k] ≠ x.t) := Lib.hid (fun e => by rw [← HY.out] at e; rw [eqT_true e] at hs; cases hs)
          clear hs
          go_wp2_with fail
          refine C.out.mono ?_; rintro e w1 ⟨rfl, hb1⟩
          go_wp2_with fail
          go_roundw
          case rel => exact ⟨k + 1, by omega, by go_num, HS.out.succ hkl HN.out, (hbb.alloc hbs _).trans (hb1.mono (by simp; omega))⟩
          case measure => simp [intOf]; omega
      · obtain rfl : k = ts.length := by omega
        go_wp2
        go_ret
        exact ⟨ret_bool (HA.out HS.out).symm, hb⟩

set_option maxRecDepth 100000 in
set_option maxHeartbeats 1000000 in
theorem has_tm (x y : Tv) (w : World) (hx : x.ok w) (hy : y.ok w) (hp : x.t.parts ≤ 100000) :
    Calls Tryd.prog 30 #[x.val, y.val] w fun e w' => e = .returned (.bool (inT x.t.all y.t)) ∧ Below w.heap.size w w' := by
  have A := Lib.hid (fun w' (h : Below w.heap.size w w') => all_tm x.t.parts x w w' (Nat.le_refl _) (by omega) hx h)
  have I := Lib.hid (fun v ts w1 (hv : Tms w1 v ts) (h : Below w.heap.size w w1) => in_tm v ts y w1 hv (hy.below h))
  have HAL := Lib.hid (all_length x.t)
  have HPB := Lib.hid hp
  obtain ⟨xk, xs, xn, xa, xl, xc, hxv⟩ := x.val_shape
  obtain ⟨yk, ys, yn, ya, yl, yc, hyv⟩ := y.val_shape
  rw [hxv] at A ⊢
  rw [hyv] at I ⊢
  clear hxv hyv hx hy hp
  have hb : Below w.heap.size w ((w.alloc (.cells #[.int .i64 xk, .string xs, .int .i64 xn, .slice xa xl xc] 24)).alloc (.cells #[.int .i64 yk, .string ys, .int .i64 yn, .slice ya yl yc] 24)) := ((Below.refl _ _).alloc (Nat.le_refl _) _).alloc (by simp) _
  have B1 := (box_new w (.int .i64 xk) (.string xs) (.int .i64 xn) (.slice xa xl xc) 24).below ((Below.refl (w.alloc (.cells #[.int .i64 xk, .string xs, .int .i64 xn, .slice xa xl xc] 24)).heap.size _).alloc (Nat.le_refl _) (.cells #[.int .i64 yk, .string ys, .int .i64 yn, .slice ya yl yc] 24)) (by simp)
  have B2 := box_next (w.alloc (.cells #[.int .i64 xk, .string xs, .int .i64 xn, .slice xa xl xc] 24)) (w.heap.size + 1) (by simp) (.int .i64 yk) (.string ys) (.int .i64 yn) (.slice ya yl yc) 24
  go_enter Tryd.func30, Tryd.ntmps30
  go_wp2
  have hz : w.heap.size + 2 = ((w.alloc (.cells #[.int .i64 xk, .string xs, .int .i64 xn, .slice xa xl xc] 24)).alloc (.cells #[.int .i64 yk, .string ys, .int .i64 yn, .slice ya yl yc] 24)).heap.size := by simp
  generalize ((w.alloc (.cells #[.int .i64 xk, .string xs, .int .i64 xn, .slice xa xl xc] 24)).alloc (.cells #[.int .i64 yk, .string ys, .int .i64 yn, .slice ya yl yc] 24)) = wa at hb B1 B2 hz ⊢
  have HZ := Lib.hid hz
  have BX2 := Lib.hid B2
  have hz1 : w.heap.size < wa.heap.size := by omega
  have hz2 : w.heap.size + 1 < wa.heap.size := by omega
  obtain ⟨c0, c1, c2, c3, _, _, _, _⟩ := B1
  obtain ⟨d0, d1, d2, d3, _, _, _, _⟩ := B2
  clear hz
  go_region_with (first | (go_at_call 11; refine (A.out _ ?_).mono ?_; exact hb.drew; rintro e w1 ⟨v, rfl, hov, hnn, hb1⟩; obtain ⟨e0, e1, e2, e3, _, _, _, _⟩ := BX2.out.below ((Below.refl wa.heap.size wa).drew.trans hb1) hz2; have hb2 : Below w.heap.size w w1 := hb.trans ((Below.refl wa.heap.size wa).drew.trans hb1 |>.mono hb.size); have HTM := Lib.hid (hov.tms hb2 (by have := HAL.out; have := HPB.out; omega)); clear hov hnn) | (go_at_call 52; refine (I.out _ _ _ HTM.out ?_).mono ?_; exact hb2; rintro e w2 ⟨rfl, hb3⟩))
  all_goals (try go_wp2)
  all_goals go_ret
  all_goals exact ⟨rfl, below_next hb2 hb3⟩
/-- All of a term, as a row whose first is the term. -/
theorem all_row (x : Tv) (w0 w : World) (hp : x.t.parts ≤ 1000000) (hx : x.ok w0) (hb0 : Below w0.heap.size w0 w) :
    Calls Tryd.prog 11 #[x.val] w fun e w' => ∃ g cap, e = .returned (.slice (some ⟨g, 0, none⟩) ((allL x.t.args).length + 1) cap) ∧ (allL x.t.args).length + 1 ≤ cap ∧ g < w'.heap.size ∧ (x.t :: allL x.t.args).length ≤ 9223372036854775807 ∧ RowAt w' (x.t :: allL x.t.args) g 0 ∧ Below w.heap.size w w' := by
  refine (all_tm x.t.parts x w0 w (Nat.le_refl _) hp hx hb0).mono ?_
  rintro e w' ⟨v, rfl, hov, hnn, hb⟩
  have hlen := all_length x.t
  obtain ⟨a, c, hv, hl, hh⟩ := hov.tms (hb0.trans (hb.mono hb0.size)) (by omega)
  obtain ⟨vs, hvt, hvo, hn, h⟩ := hov
  rcases h with ⟨rfl, h0⟩ | ⟨g, cap, cur, rfl, _, hg, hcap, _⟩
  · exact absurd rfl hnn
  · rw [all_eq] at hh hcap ⊢
    rw [List.length_cons] at hcap ⊢
    cases hv
    rcases hh with hh | ⟨b, o, ha, hlt, hr⟩
    · cases hh
    · cases ha
      exact ⟨_, _, rfl, hcap, hlt, by rw [all_eq] at hl; exact hl, hr, hb⟩

set_option maxRecDepth 100000 in
set_option maxHeartbeats 1000000 in
theorem proper_tm (x y : Tv) (w : World) (hx : x.ok w) (hy : y.ok w) (hp : x.t.parts ≤ 100000) :
    Calls Tryd.prog 32 #[x.val, y.val] w fun e w' => e = .returned (.bool (inT (allL x.t.args) y.t)) ∧ Below w.heap.size w w' := by
  have A := Lib.hid (fun w' (h : Below w.heap.size w w') => all_row x w w' (by omega) hx h)
  obtain ⟨r, hr⟩ : ∃ r, r = allL x.t.args := ⟨_, rfl⟩
  rw [← hr] at A ⊢
  clear hr
  have I := Lib.hid (fun v ts w1 (hv : Tms w1 v ts) (h : Below w.heap.size w w1) => in_tm v ts y w1 hv (hy.below h))
  obtain ⟨xk, xs, xn, xa, xl, xc, hxv⟩ := x.val_shape
  obtain ⟨yk, ys, yn, ya, yl, yc, hyv⟩ := y.val_shape
  rw [hxv] at A ⊢
  rw [hyv] at I ⊢
  clear hxv hyv hx hy hp
  have hb : Below w.heap.size w ((w.alloc (.cells #[.int .i64 xk, .string xs, .int .i64 xn, .slice xa xl xc] 24)).alloc (.cells #[.int .i64 yk, .string ys, .int .i64 yn, .slice ya yl yc] 24)) := ((Below.refl _ _).alloc (Nat.le_refl _) _).alloc (by simp) _
  have B1 := (box_new w (.int .i64 xk) (.string xs) (.int .i64 xn) (.slice xa xl xc) 24).below ((Below.refl (w.alloc (.cells #[.int .i64 xk, .string xs, .int .i64 xn, .slice xa xl xc] 24)).heap.size _).alloc (Nat.le_refl _) (.cells #[.int .i64 yk, .string ys, .int .i64 yn, .slice ya yl yc] 24)) (by simp)
  have B2 := box_next (w.alloc (.cells #[.int .i64 xk, .string xs, .int .i64 xn, .slice xa xl xc] 24)) (w.heap.size + 1) (by simp) (.int .i64 yk) (.string ys) (.int .i64 yn) (.slice ya yl yc) 24
  go_enter Tryd.func32, Tryd.ntmps32
  go_wp2
  have hz : w.heap.size + 2 = ((w.alloc (.cells #[.int .i64 xk, .string xs, .int .i64 xn, .slice xa xl xc] 24)).alloc (.cells #[.int .i64 yk, .string ys, .int .i64 yn, .slice ya yl yc] 24)).heap.size := by simp
  generalize ((w.alloc (.cells #[.int .i64 xk, .string xs, .int .i64 xn, .slice xa xl xc] 24)).alloc (.cells #[.int .i64 yk, .string ys, .int .i64 yn, .slice ya yl yc] 24)) = wa at hb B1 B2 hz ⊢
  have HZ := Lib.hid hz
  have BX2 := Lib.hid B2
  have hz1 : w.heap.size < wa.heap.size := by omega
  have hz2 : w.heap.size + 1 < wa.heap.size := by omega
  obtain ⟨c0, c1, c2, c3, _, _, _, _⟩ := B1
  obtain ⟨d0, d1, d2, d3, _, _, _, _⟩ := B2
  clear hz
  go_region_with (first | (go_at_call 11; refine (A.out _ ?_).mono ?_; exact hb.drew; rintro e w1 ⟨g, cap, rfl, hcap, hg, hm, hrow, hb1⟩; obtain ⟨e0, e1, e2, e3, _, _, _, _⟩ := BX2.out.below ((Below.refl wa.heap.size wa).drew.trans hb1) hz2; have hb2 : Below w.heap.size w w1 := hb.trans ((Below.refl wa.heap.size wa).drew.trans hb1 |>.mono hb.size); have hcf := fun W => cut_tail g r.length cap hcap W; have HTM := Lib.hid (tail_tms hrow hg hcap hm)) | (go_at_call 52; refine (I.out _ _ _ HTM.out ?_).mono ?_; exact hb2; rintro e w2 ⟨rfl, hb3⟩))
  all_goals (try go_wp2)
  all_goals go_ret
  all_goals exact ⟨rfl, below_next hb2 hb3⟩
end Go.Proofs.YtpdbnhhpibpbnaaDoor
