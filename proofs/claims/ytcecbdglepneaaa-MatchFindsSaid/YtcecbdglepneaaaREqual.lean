/-
  Whether two rows of binds are alike, by the reference of layer 5: Equal.
-/
import Derived.Test.YtcecbdglepneaaaBds
import Derived.Test.YtcecbdglepneaaaSameTm
import Derived.Test.YtcecbdglepneaaaAfter
import Derived.BigQuiet
import Derived.Deep.QuietTactic
namespace Go.Proofs.Ytcecbdglepneaaa
open Go.RowKit

theorem take_eq_succ {cs bs : List Bn} {k : Nat} {x y : Bn} (h : cs.take k = bs.take k) (hx : cs[k]? = some x) (hy : bs[k]? = some y) (e : x = y) : cs.take (k + 1) = bs.take (k + 1) := by
  obtain ⟨h1, rfl⟩ := List.getElem?_eq_some_iff.1 hx
  obtain ⟨h2, rfl⟩ := List.getElem?_eq_some_iff.1 hy
  rw [List.take_succ_eq_append_getElem h1, List.take_succ_eq_append_getElem h2, h, e]
theorem ne_at {cs bs : List Bn} {k : Nat} {x y : Bn} (hx : cs[k]? = some x) (hy : bs[k]? = some y) (e : x ≠ y) : cs ≠ bs := fun h => by
  subst h; rw [hx] at hy; exact e (Option.some.inj hy)

/-- Whether two rows of binds are one. -/
noncomputable def eqB (cs bs : List Bn) : Bool := @decide (cs = bs) (Classical.propDecidable _)
theorem eqB_yes {cs bs : List Bn} (h : cs = bs) : true = eqB cs bs := (@decide_eq_true _ (Classical.propDecidable _) h).symm
theorem eqB_no {cs bs : List Bn} (h : cs ≠ bs) : false = eqB cs bs := (@decide_eq_false _ (Classical.propDecidable _) h).symm
theorem eqB_self (bs : List Bn) : eqB bs bs = true := (eqB_yes rfl).symm

set_option maxRecDepth 100000 in
set_option maxHeartbeats 4000000 in
theorem requal_any (va vb : Value) (cs bs : List Bn) (w : World) (ha : Bds w va cs) (hb : Bds w vb bs) :
    Calls Try.prog 13 #[va, vb] w fun e w' => e = .returned (.bool (eqB cs bs)) ∧ Below w.heap.size w w' := by
  obtain ⟨aa, ca, rfl, hla, hra⟩ := ha
  obtain ⟨ab, cb, rfl, hlb, hrb⟩ := hb
  have HA := Lib.hid hra
  have HB := Lib.hid hrb
  have SA := Lib.hid (fun (y z : Tv) (W : World) (h1 : y.ok W) (h2 : z.ok W) => same_tm y.t.parts y z W (Nat.le_refl _) h1 h2)
  clear hra hrb
  by_cases hl : cs.length = bs.length
  · have hln : ((cs.length : Int) != (bs.length : Int)) = false := by rw [hl]; simp
    have hle : ((cs.length : Int) == (bs.length : Int)) = true := by rw [hl]; simp
    have HL := Lib.hid hl
    clear hl
    go_enter Try.func13, Try.ntmps13
    go_wp2_with fail
    go_loopw [13] (fun i wr => ∃ q : Nat, q ≤ cs.length ∧ i = .int .i64 q ∧ Hid (cs.take q = bs.take q) ∧ Below w.heap.size w wr) (fun i _ => cs.length - (intOf i).toNat)
    case atStart => exact ⟨0, Nat.zero_le _, rfl, Lib.hid rfl, Below.refl _ _⟩
    case round =>
      obtain ⟨q, hq, rfl, HT, hb⟩ := hrel
      have hbs := hb.size
      by_cases hql : q < cs.length
      · have hqb : q < bs.length := by have := HL.out; omega
        obtain ⟨b1, o1, rfl, hlt1, hat1⟩ := HA.out.resolve_left (by intro h; rw [h] at hql; simp at hql)
        obtain ⟨b2, o2, rfl, hlt2, hat2⟩ := HB.out.resolve_left (by intro h; rw [h] at hqb; simp at hqb)
        obtain ⟨x, hx⟩ : ∃ x, cs[q]? = some x := ⟨_, List.getElem?_eq_getElem hql⟩
        obtain ⟨y, hy⟩ : ∃ y, bs[q]? = some y := ⟨_, List.getElem?_eq_getElem hqb⟩
        obtain ⟨⟨xs, xt, xa, xc⟩, hxe, hxo, hxv⟩ := bdAt_bv (hat1 q x hx)
        obtain ⟨⟨ys, yt, ya, yc⟩, hye, hyo, hyv⟩ := bdAt_bv (hat2 q y hy)
        have M := Lib.hid (fun p : After wr => hxv.below (below_next hb p.below))
        have N := Lib.hid (fun p : After wr => hyv.below (below_next hb p.below))
        have m0 := fun p : After wr => (M.out p).c0
        have m1 := fun p : After wr => (M.out p).c1
        have m2 := fun p : After wr => (M.out p).c2
        have m3 := fun p : After wr => (M.out p).c3
        have m4 := fun p : After wr => (M.out p).c4
        have n0 := fun p : After wr => (N.out p).c0
        have n1 := fun p : After wr => (N.out p).c1
        have n2 := fun p : After wr => (N.out p).c2
        have n3 := fun p : After wr => (N.out p).c3
        have n4 := fun p : After wr => (N.out p).c4
        have C := Lib.hid (fun p : After wr => SA.out ⟨xt, xa, xc⟩ ⟨yt, ya, yc⟩ p.w (hxo.below (below_next hb p.below)) (hyo.below (below_next hb p.below)))
        have HXY := Lib.hid (show x = y ↔ (xs = ys ∧ xt = yt) by rw [← hxe, ← hye]; unfold Bv.bn; simp [Prod.ext_iff])
        have HNX := Lib.hid (fun (e : x = y) => take_eq_succ HT.out hx hy e)
        have HNE := Lib.hid (fun (e : x ≠ y) => ne_at hx hy e)
        have hk0 : (0 : Int) ≤ (q : Int) := by omega
        have hk1 : (q : Int) < (cs.length : Int) := by omega
        have hk2 : (q : Int) < (bs.length : Int) := by omega
        have hkd : decide ((q : Int) < (cs.length : Int)) = true := decide_eq_true hk1
        have HBW := Lib.hid hb
        simp only [Tv.val] at C
        simp only at m0 m1 m2 m3 m4 n0 n1 n2 n3 n4
        clear hat1 hat2 hx hy hxe hye hxo hyo hxv hyv hb
        cases he : (xs.toList == ys.toList) with
        | false =>
          have HF := Lib.hid (HNE.out (fun e => by
            have := (HXY.out.1 e).1
            rw [this] at he; simp at he))
          have hd : (xs.toList != ys.toList) = true := by unfold bne; rw [he]; rfl
          clear m0 m1 m2 m3 m4 n0 n1 n2 n3 n4 C
          obtain ⟨m0, m1, m2, m3, m4⟩ := M.out ⟨wr, Below.refl _ _⟩
          obtain ⟨n0, n1, n2, n3, n4⟩ := N.out ⟨wr, Below.refl _ _⟩
          simp only at m0 m1 m2 m3 m4 n0 n1 n2 n3 n4
          go_wp2_with fail
          go_quiet (fail)
          go_wp2_with fail
          go_ret
          exact ⟨ret_bool (eqB_no HF.out), below_drewN HBW.out _⟩
        | true =>
          have HE1 := Lib.hid ((Lib.bytes_beq_iff _ _).1 he)
          have HEQ := Lib.hid he
          clear he
          cases hr : eqT xt yt with
          | true =>
            rw [hr] at C
            have HOK := Lib.hid (HNX.out (HXY.out.2 ⟨HE1.out, eqT_iff.1 hr⟩))
            clear hr
            go_wp2_with fail
            refine wp_region_after (Below.refl _ wr) (by kernel_rfl) (by kernel_rfl) ?_
            quiet_step (fail); quiet_step (fail); quiet_step (fail); quiet_step (fail); quiet_step (fail); quiet_step (fail); quiet_step (fail); quiet_step (fail); quiet_step (fail); quiet_step (fail); quiet_step (fail)
            rw [HEQ.out]
            repeat (quiet_step ((go_at_call 17; exact after_call (C.out _))))
            refine wpQuiet_nil ?_
            intro _ hw'
            obtain ⟨⟨wq, hbq⟩, hw''⟩ := hw'
            subst hw''
            have HQ := Lib.hid (below_next HBW.out hbq)
            clear m0 m1 m2 m3 m4 n0 n1 n2 n3 n4 C hbq
            go_wp2_with fail
            go_roundw
            case rel => exact ⟨q + 1, by omega, by go_num, HOK, HQ.out⟩
            case measure => simp [intOf]; omega
          | false =>
            rw [hr] at C
            have HF := Lib.hid (HNE.out (fun e => by
              have := (HXY.out.1 e).2
              rw [eqT_true this] at hr; cases hr))
            clear hr
            go_wp2_with fail
            refine wp_region_after (Below.refl _ wr) (by kernel_rfl) (by kernel_rfl) ?_
            quiet_step (fail); quiet_step (fail); quiet_step (fail); quiet_step (fail); quiet_step (fail); quiet_step (fail); quiet_step (fail); quiet_step (fail); quiet_step (fail); quiet_step (fail); quiet_step (fail)
            rw [HEQ.out]
            repeat (quiet_step ((go_at_call 17; exact after_call (C.out _))))
            refine wpQuiet_nil ?_
            intro _ hw'
            obtain ⟨⟨wq, hbq⟩, hw''⟩ := hw'
            subst hw''
            have HQ := Lib.hid (below_next HBW.out hbq)
            clear m0 m1 m2 m3 m4 n0 n1 n2 n3 n4 C hbq
            go_wp2_with fail
            go_ret
            exact ⟨ret_bool (eqB_no HF.out), HQ.out⟩
      · have hqe : q = cs.length := by omega
        have hkd : decide ((q : Int) < (cs.length : Int)) = false := decide_eq_false (by omega)
        have hkn : ¬ (q : Int) < (cs.length : Int) := by omega
        have HEQ := Lib.hid (show cs = bs by have h := HT.out; rw [hqe, List.take_length, HL.out, List.take_length] at h; exact h)
        have HBE := Lib.hid hb
        clear hqe hb
        go_wp2_with fail
        go_ret
        exact ⟨ret_bool (eqB_yes HEQ.out), HBE.out⟩
  · have hln : ((cs.length : Int) != (bs.length : Int)) = true := by simp; omega
    have hle : ((cs.length : Int) == (bs.length : Int)) = false := by simp; omega
    have HL := Lib.hid hl
    clear hl
    go_enter Try.func13, Try.ntmps13
    go_wp2_with fail
    go_ret
    exact ⟨ret_bool (eqB_no (fun h => HL.out (by rw [h]))), Below.refl _ _⟩
end Go.Proofs.Ytcecbdglepneaaa
