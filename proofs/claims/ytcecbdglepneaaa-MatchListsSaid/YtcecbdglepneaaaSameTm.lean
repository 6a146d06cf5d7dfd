/-
  Whether two terms are alike, by the reference of layer 3: Same, for any two terms in memory.
-/
import Derived.Test.YtcecbdglepneaaaTm
import Derived.StillTailTactics
namespace Go.Proofs.Ytcecbdglepneaaa
open Go.RowKit

theorem Tv.ok.drew {w : World} {v : Tv} (h : v.ok w) : v.ok w.drew := h.below ((Below.refl _ _).drew)
theorem TvAt.below {w w' : World} {b o : Nat} {v : Tv} (h : TvAt w b o v) (hb : Below w.heap.size w w') : TvAt w' b o v where
  c0 := (hb.cell (p := ⟨b, o, none⟩) (lt_of_cell h.c0)).trans h.c0
  c1 := (hb.cell (p := ⟨b, o + 1, none⟩) (lt_of_cell h.c0)).trans h.c1
  c2 := (hb.cell (p := ⟨b, o + 2, none⟩) (lt_of_cell h.c0)).trans h.c2
  c3 := (hb.cell (p := ⟨b, o + 3, none⟩) (lt_of_cell h.c0)).trans h.c3
theorem box_next (w : World) (g : Nat) (hg : g = w.heap.size) (x0 x1 x2 x3 : Value) (t : TypeId) : Box (w.alloc (.cells #[x0, x1, x2, x3] t)) g x0 x1 x2 x3 := by
  subst hg; exact box_new w x0 x1 x2 x3 t
/-- Terms are alike up to k. -/
def TmsTo (xs ys : List Tm) (k : Nat) : Prop := ∀ j (h1 : j < xs.length) (h2 : j < ys.length), j < k → xs[j] = ys[j]
theorem TmsTo.succ {xs ys : List Tm} {k : Nat} (h : TmsTo xs ys k) (h1 : k < xs.length) (h2 : k < ys.length) (hk : xs[k] = ys[k]) : TmsTo xs ys (k + 1) := by
  intro j a b hj
  by_cases e : j = k
  · subst e; exact hk
  · exact h j a b (by omega)
theorem TmsTo.all {xs ys : List Tm} (h : TmsTo xs ys xs.length) (hl : xs.length = ys.length) : xs = ys :=
  List.ext_getElem hl fun j h1 h2 => h j h1 h2 h1
/-- Where two heads part first. -/
theorem tm_ways (k k' : Int) (s s' : ByteArray) (n n' : Int) (l l' : Nat) : (k = k' ∧ s = s' ∧ n = n' ∧ l = l') ∨ (¬ (k = k' ∧ s = s' ∧ n = n' ∧ l = l') ∧ ((k != k') = true ∨ ((k != k') = false ∧ ((n != n') = true ∨ ((n != n') = false ∧ (((s.toList == s'.toList) = false) ∨ ((s.toList == s'.toList) = true ∧ ((l : Int) != (l' : Int)) = true))))))) := by
  by_cases h0 : k = k'
  · by_cases h2 : n = n'
    · by_cases h1 : s = s'
      · by_cases h3 : l = l'
        · exact .inl ⟨h0, h1, h2, h3⟩
        · exact .inr ⟨fun h => h3 h.2.2.2, .inr ⟨by simp [h0], .inr ⟨by simp [h2], .inr ⟨by simp [h1], by rw [bne_iff_ne]; omega⟩⟩⟩⟩
      · exact .inr ⟨fun h => h1 h.2.1, .inr ⟨by simp [h0], .inr ⟨by simp [h2], .inl (by rw [Lib.bytes_beq_false_iff]; exact h1)⟩⟩⟩
    · exact .inr ⟨fun h => h2 h.2.2.1, .inr ⟨by simp [h0], .inl (by rw [bne_iff_ne]; exact h2)⟩⟩
  · exact .inr ⟨fun h => h0 h.1, .inl (by rw [bne_iff_ne]; exact h0)⟩

set_option maxRecDepth 100000 in
set_option maxHeartbeats 2000000 in
theorem same_tm (m : Nat) : ∀ (x y : Tv) (w : World), x.t.parts ≤ m → x.ok w → y.ok w →
    Calls Try.prog 17 #[x.val, y.val] w fun e w' => e = .returned (.bool (eqT x.t y.t)) ∧ Below w.heap.size w w' := by
  induction m with
  | zero => intro x y w h; have := parts_pos x.t; omega
  | succ m ih =>
    intro x y w hm hx hy
    obtain ⟨⟨k, s, n, xs⟩, a, c⟩ := x
    obtain ⟨⟨k', s', n', ys⟩, a', c'⟩ := y
    obtain ⟨_, hxl, hxr⟩ := hx
    obtain ⟨_, hyl, hyr⟩ := hy
    simp only [Tv.val, Tm.kind, Tm.name, Tm.n, Tm.args] at hxl hxr hyl hyr ⊢
    have hpl : ∀ j (h : j < xs.length), xs[j].parts ≤ m := fun j h => by
      have := parts_arg (.mk k s n xs) (j := j) h
      have e : (Tm.mk k s n xs).args[j] = xs[j] := rfl
      rw [e] at this; simp only at hm; omega
    have hbb : Below w.heap.size w ((w.alloc (.cells #[.int .i64 k, .string s, .int .i64 n, .slice a xs.length c] 25)).alloc (.cells #[.int .i64 k', .string s', .int .i64 n', .slice a' ys.length c'] 25)) :=
      ((Below.refl _ _).alloc (Nat.le_refl _) _).alloc (by simp) _
    rcases tm_ways k k' s s' n n' xs.length ys.length with ⟨rfl, rfl, rfl, hlen⟩ | ⟨hne, hw⟩
    · have hq : ((xs.length : Int) != (ys.length : Int)) = false := by simp [hlen]
      have HL := Lib.hid hlen
      have IH := Lib.hid ih
      have HP := Lib.hid hpl
      clear ih hpl hm hlen
      rcases hxr with rfl | ⟨b, off, rfl, hlt, hr⟩
      · have : ys = [] := by simpa using HL.out.symm
        subst this
        have HE := Lib.hid (eqT_true (rfl : Tm.mk k s n [] = Tm.mk k s n []))
        go_enter Try.func17, Try.ntmps17
        go_wp2
        refine wp_loop_rounds 1 ?_; rw [rounds_succ]
        go_wp2
        go_ret
        exact ⟨ret_bool HE.out.symm, hbb⟩
      · rcases hyr with rfl | ⟨b', off', rfl, hlt', hr'⟩
        · have : xs = [] := by simpa using HL.out
          subst this
          have HE := Lib.hid (eqT_true (rfl : Tm.mk k s n [] = Tm.mk k s n []))
          go_enter Try.func17, Try.ntmps17
          go_wp2
          refine wp_loop_rounds 1 ?_; rw [rounds_succ]
          go_wp2
          go_ret
          exact ⟨ret_bool HE.out.symm, hbb⟩
        · have HR := Lib.hid hr
          have HR' := Lib.hid hr'
          clear hr hr'
          go_enter Try.func17, Try.ntmps17
          go_wp2
          go_loopw [37] (fun i wr => ∃ j : Nat, j ≤ xs.length ∧ i = .int .i64 j ∧ TmsTo xs ys j ∧ Below (w.heap.size + 2) ((w.alloc (.cells #[.int .i64 k, .string s, .int .i64 n, .slice (some ⟨b, off, none⟩) xs.length c] 25)).alloc (.cells #[.int .i64 k, .string s, .int .i64 n, .slice (some ⟨b', off', none⟩) ys.length c'] 25)) wr) (fun i _ => xs.length - (intOf i).toNat)
          case atStart => exact ⟨0, Nat.zero_le _, rfl, (fun j _ _ hk => by omega), Below.refl _ _⟩
          case round =>
            obtain ⟨j, hj, rfl, hal, hb⟩ := hrel
            have HA := Lib.hid hal
            clear hal
            by_cases hj1 : j < xs.length
            · have hj2 : j < ys.length := by have := HL.out; omega
              have hi1 : (j : Int) < (xs.length : Int) := by omega
              have hi2 : (j : Int) < (ys.length : Int) := by omega
              have hwr : Below w.heap.size w wr := hbb.trans (hb.mono (by omega))
              obtain ⟨u, hu, huk, d0, d1, d2, d3⟩ := tmAt_tv ((rowAt_get HR.out hj1).below hwr)
              obtain ⟨v, hv, hvk, g0, g1, g2, g3⟩ := tmAt_tv ((rowAt_get HR'.out hj2).below hwr)
              have p0 : wr.cell? ⟨w.heap.size, 3, none⟩ = some (.slice (some ⟨b, off, none⟩) xs.length c) := by
                rw [hb.cell (p := ⟨w.heap.size, 3, none⟩) (by show w.heap.size < _; omega)]
                exact ((box_new w _ _ _ _ _).below ((Below.refl _ _).alloc (Nat.le_refl _) _) (by simp)).c3
              have p1 : wr.cell? ⟨w.heap.size + 1, 3, none⟩ = some (.slice (some ⟨b', off', none⟩) ys.length c') := by
                rw [hb.cell (p := ⟨w.heap.size + 1, 3, none⟩) (by show w.heap.size + 1 < _; omega)]
                exact (box_next (w.alloc _) _ (by simp) _ _ _ _ _).c3
              have C := Lib.hid (fun w' (h : Below wr.heap.size wr w') => IH.out u v w' (by rw [hu]; exact HP.out j hj1) (huk.below h) (hvk.below h))
              have HU := Lib.hid hu
              have HV := Lib.hid hv
              clear hu hv huk hvk
              have hwz := hb.size
              simp at hwz
              cases he : eqT u.t v.t with
              | true =>
                rw [he] at C
                have HE := Lib.hid (eqT_iff.1 he)
                clear he
                go_wp2
                go_still_tail 10, (by kernel_rfl)
                go_wp2_with fail
                refine (C.out _ ((Below.refl _ _).drew)).mono ?_; rintro e w1 ⟨rfl, hb1⟩
                go_wp2_with fail
                go_roundw
                case rel => exact ⟨j + 1, by omega, by go_num, HA.out.succ hj1 hj2 (HU.out.symm.trans (HE.out.trans HV.out)), (hb.drew).trans (hb1.mono (by show w.heap.size + 2 ≤ wr.heap.size; omega))⟩
                case measure => simp [intOf]; omega
              | false =>
                rw [he] at C
                have HE : Hid (u.t ≠ v.t) := Lib.hid (fun e => by rw [eqT_true e] at he; cases he)
                clear he
                go_wp2
                go_still_tail 10, (by kernel_rfl)
                go_wp2_with fail
                refine (C.out _ ((Below.refl _ _).drew)).mono ?_; rintro e w1 ⟨rfl, hb1⟩
                go_wp2_with fail
                go_ret
                refine ⟨ret_bool (Eq.symm (eqT_false fun e => ?_)), hwr.drew.trans (hb1.mono (by show w.heap.size ≤ wr.heap.size; omega))⟩
                have ea := congrArg Tm.args e
                simp only [Tm.args] at ea
                subst ea
                exact HE.out (HU.out.trans HV.out.symm)
            · obtain rfl : j = xs.length := by omega
              go_wp2
              go_ret
              have e := HA.out.all HL.out
              exact ⟨ret_bool (eqT_true (by rw [e])).symm, hbb.trans (hb.mono (by omega))⟩
    · have h0 : eqT (Tm.mk k s n xs) (Tm.mk k' s' n' ys) = false := eqT_false fun e => hne (by cases e; exact ⟨rfl, rfl, rfl, rfl⟩)
      have HE := Lib.hid h0
      clear hne ih hpl hm h0
      rcases hw with hw | ⟨e0, hw | ⟨e1, hw | ⟨e2, hw⟩⟩⟩
      all_goals
        go_enter Try.func17, Try.ntmps17
        go_wp2
        go_ret
        exact ⟨ret_bool HE.out.symm, hbb⟩
end Go.Proofs.Ytcecbdglepneaaa
