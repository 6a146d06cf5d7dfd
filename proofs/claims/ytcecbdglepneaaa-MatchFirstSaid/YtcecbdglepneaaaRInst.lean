/-
  Whether a term is an instance of a pattern, and whether a pattern is plain, by the reference of layer 6: Instance, Plain.
-/
import Derived.Test.YtcecbdglepneaaaRMore
namespace Go.Proofs.Ytcecbdglepneaaa
open Go.RowKit

set_option maxRecDepth 100000 in
set_option maxHeartbeats 1000000 in
theorem rinst_tm (x y : Tv) (w : World) (hx : x.ok w) (hy : y.ok w) (hl : x.t.parts ≤ 50000) :
    Calls Try.prog 24 #[x.val, y.val] w fun e w' => e = .returned (.bool (moreT x.t y.t []).isSome) ∧ Below w.heap.size w w' := by
  obtain ⟨xt, xa, xc⟩ := x
  obtain ⟨yt, ya, yc⟩ := y
  have bX := (box_new w (.int .i64 xt.kind) (.string xt.name) (.int .i64 xt.n) (.slice xa xt.args.length xc) 25).below ((Below.refl _ _).alloc (Nat.le_refl _) (.cells #[.int .i64 yt.kind, .string yt.name, .int .i64 yt.n, .slice ya yt.args.length yc] 25)) (by simp)
  have bY := alloc_two w (.cells #[.int .i64 xt.kind, .string xt.name, .int .i64 xt.n, .slice xa xt.args.length xc] 25) (.int .i64 yt.kind) (.string yt.name) (.int .i64 yt.n) (.slice ya yt.args.length yc) 25
  have hB2 := below_two w (.cells #[.int .i64 xt.kind, .string xt.name, .int .i64 xt.n, .slice xa xt.args.length xc] 25) (.cells #[.int .i64 yt.kind, .string yt.name, .int .i64 yt.n, .slice ya yt.args.length yc] 25)
  obtain ⟨wz, hwz⟩ : ∃ wz, wz = ((w.alloc (.cells #[.int .i64 xt.kind, .string xt.name, .int .i64 xt.n, .slice xa xt.args.length xc] 25)).alloc (.cells #[.int .i64 yt.kind, .string yt.name, .int .i64 yt.n, .slice ya yt.args.length yc] 25)) := ⟨_, rfl⟩
  rw [← hwz] at bX bY hB2
  have R := Lib.hid (rmore_tm xt.parts ⟨xt, xa, xc⟩ ⟨yt, ya, yc⟩ (.slice none 0 0) [] wz (Nat.le_refl _) (hx.below hB2) (hy.below hB2) (Bds.none_ _ _ _) (by simpa using hl))
  have HB2 := Lib.hid hB2
  obtain ⟨p0, p1, p2, p3, _, _, _, _⟩ := bX
  obtain ⟨q0, q1, q2, q3, _, _, _, _⟩ := bY
  rw [hwz] at p0 p1 p2 p3 q0 q1 q2 q3
  clear hx hy hB2
  simp only [Tv.val] at *
  go_enter Try.func24, Try.ntmps24
  go_wp2_with fail
  rw [← hwz]
  clear hwz p0 p1 p2 p3 q0 q1 q2 q3
  refine R.out.mono ?_; rintro e w1 ⟨u1, rfl, hu1, hb1⟩
  have HB1 := Lib.hid (below_next HB2.out hb1)
  obtain ⟨a1, c1, rfl, _, _⟩ := hu1
  clear hb1
  go_wp2_with fail
  go_ret
  exact ⟨rfl, HB1.out⟩

/-- A raw variable. -/
def rawB (x : Tm) : Bool := x.kind == 1 && (!(x.args.length == 0) || !(x.n == 0))
def plainB (t : Tm) : Bool := t.all.all fun x => !rawB x
theorem rawB_no {x : Tm} : rawB x = false ↔ (x.kind = 1 → x.args = [] ∧ x.n = 0) := by
  unfold rawB
  by_cases hk : x.kind = 1
  · rw [hk]
    by_cases ha : x.args = []
    · by_cases hn : x.n = 0
      · simp [ha, hn]
      · simp [ha, hn]
    · simp [ha]
  · have : (x.kind == 1) = false := by rw [beq_eq_false_iff_ne]; exact hk
    rw [this]; simp [hk]
theorem plain_of {t : Tm} (h : plainB t = true) : PlainT t := fun x hx hk => by
  unfold plainB at h
  rw [List.all_eq_true] at h
  have := h x hx
  rw [Bool.not_eq_true'] at this
  exact rawB_no.1 this hk
def PlainTo (ts : List Tm) (k : Nat) : Prop := ∀ (j : Nat) x, j < k → ts[j]? = some x → rawB x = false
theorem PlainTo.succ {ts : List Tm} {k : Nat} {x : Tm} (h : PlainTo ts k) (hx : ts[k]? = some x) (hb : rawB x = false) : PlainTo ts (k + 1) := fun j y hj hy => by
  by_cases e : j = k
  · subst e; rw [hx] at hy; cases hy; exact hb
  · exact h j y (by omega) hy
theorem PlainTo.all {t : Tm} (h : PlainTo t.all t.all.length) : plainB t = true := by
  unfold plainB
  rw [List.all_eq_true]
  intro x hx
  obtain ⟨j, hj, rfl⟩ := List.getElem_of_mem hx
  rw [h j _ hj (List.getElem?_eq_getElem hj)]; rfl
theorem plain_bad {t x : Tm} {k : Nat} (hx : t.all[k]? = some x) (h : rawB x = true) : plainB t = false := by
  unfold plainB
  rw [List.all_eq_false]
  exact ⟨x, List.mem_of_getElem? hx, by rw [h]; simp⟩

set_option maxRecDepth 100000 in
set_option maxHeartbeats 2000000 in
theorem rplain_tm (x : Tv) (w : World) (hx : x.ok w) (hl : x.t.parts ≤ 50000) :
    Calls Try.prog 16 #[x.val] w fun e w' => e = .returned (.bool (plainB x.t)) ∧ Below w.heap.size w w' := by
  obtain ⟨t, a, c⟩ := x
  have hbx := box_new w (.int .i64 t.kind) (.string t.name) (.int .i64 t.n) (.slice a t.args.length c) 25
  have hb1 : Below w.heap.size w (w.alloc (.cells #[.int .i64 t.kind, .string t.name, .int .i64 t.n, .slice a t.args.length c] 25)) := (Below.refl _ _).alloc (Nat.le_refl _) _
  obtain ⟨wz, hwz⟩ : ∃ wz, wz = w.alloc (.cells #[.int .i64 t.kind, .string t.name, .int .i64 t.n, .slice a t.args.length c] 25) := ⟨_, rfl⟩
  rw [← hwz] at hbx hb1
  have A := Lib.hid (all_tm t.parts ⟨t, a, c⟩ wz wz (Nat.le_refl _) (by simp only at hl; omega) (hx.below hb1) (Below.refl _ _))
  have HB1 := Lib.hid hb1
  have HAL := Lib.hid (show t.all.length ≤ 50000 by rw [all_length]; exact hl)
  have HNE := Lib.hid (show t.all ≠ [] by rw [all_eq]; simp)
  have HYES := Lib.hid (fun (h : PlainTo t.all t.all.length) => h.all)
  have HNO := Lib.hid (fun (k : Nat) (x : Tm) (hx : t.all[k]? = some x) (h : rawB x = true) => plain_bad hx h)
  obtain ⟨ts, hts⟩ : ∃ ts, ts = t.all := ⟨_, rfl⟩
  obtain ⟨z, hz⟩ : ∃ z, z = plainB t := ⟨_, rfl⟩
  rw [← hts] at A HAL HNE HYES HNO
  rw [← hz] at HYES HNO ⊢
  obtain ⟨p0, p1, p2, p3, _, _, _, _⟩ := hbx
  rw [hwz] at p0 p1 p2 p3
  clear hx hb1 hts hz hl
  simp only [Tv.val] at *
  go_enter Try.func16, Try.ntmps16
  go_wp2_with fail
  rw [← hwz]
  clear hwz p0 p1 p2 p3
  refine A.out.mono ?_; rintro e w2 ⟨v, rfl, hov, hnn, hb2⟩
  have htm := hov.tms hb2 (by have := HAL.out; omega)
  obtain ⟨a', c', rfl, hl, hh⟩ := htm.open_
  rcases hh with hh | ⟨b, o, rfl, hblt, hr⟩
  · exact absurd hh HNE.out
  have HR := Lib.hid hr
  have HB2 := Lib.hid (below_next HB1.out hb2)
  clear hov hnn hr htm hb2
  go_wp2_with fail
  go_loopw [8] (fun i wr => ∃ k : Nat, k ≤ ts.length ∧ i = .int .i64 k ∧ Hid (PlainTo ts k) ∧ Below w2.heap.size w2 wr) (fun i _ => ts.length - (intOf i).toNat)
  case atStart => exact ⟨0, Nat.zero_le _, rfl, Lib.hid (fun j x hj => by omega), Below.refl _ _⟩
  case round =>
    obtain ⟨k, hk, rfl, HS, hbr⟩ := hrel
    by_cases hkl : k < ts.length
    · have hi : (k : Int) < (ts.length : Int) := by omega
      have hi0 : (0 : Int) ≤ (k : Int) := by omega
      have hid : decide ((k : Int) < (ts.length : Int)) = true := decide_eq_true hi
      obtain ⟨⟨ut, ua, uc⟩, hu, _, hat⟩ := HR.out k hkl
      obtain ⟨d0, d1, d2, d3⟩ := hat.below hbr
      have HU := Lib.hid (show ts[k]? = some ut by rw [List.getElem?_eq_getElem hkl]; exact congrArg some hu.symm)
      have HBR := Lib.hid (fun o => hbr.alloc hbr.size o)
      simp only at d0 d1 d2 d3
      obtain ⟨na, hna⟩ : ∃ na, ut.args.length = na := ⟨_, rfl⟩
      rw [hna] at d3
      have HNA := Lib.hid hna
      clear hna
      clear hu hat hbr
      by_cases hkd : ut.kind = 1
      · have e1 : (ut.kind == 1) = true := by rw [hkd]; rfl
        have HK := Lib.hid hkd
        clear hkd
        by_cases ha : na = 0
        · have HA := Lib.hid (List.eq_nil_of_length_eq_zero (HNA.out.trans ha))
          subst ha
          by_cases hn : ut.n = 0
          · have e3 : (ut.n != 0) = false := by rw [hn]; rfl
            have e4 : (ut.n == 0) = true := by rw [hn]; rfl
            have HN := Lib.hid (show rawB ut = false from rawB_no.2 (fun _ => ⟨HA.out, hn⟩))
            clear hn
            go_wp2_with fail
            go_roundw
            case rel => exact ⟨k + 1, by omega, by go_num, Lib.hid (HS.out.succ HU.out HN.out), HBR.out _⟩
            case measure => simp [intOf]; omega
          · have e3 : (ut.n != 0) = true := by rw [bne_iff_ne]; exact hn
            have e4 : (ut.n == 0) = false := by rw [beq_eq_false_iff_ne]; exact hn
            have HN := Lib.hid (show rawB ut = true by
              cases h : rawB ut with
              | true => rfl
              | false => exact absurd (rawB_no.1 h HK.out).2 hn)
            clear hn
            go_wp2_with fail
            go_ret
            exact ⟨ret_bool (HNO.out k ut HU.out HN.out).symm, below_next HB2.out (HBR.out _)⟩
        · have hg : (0 : Int) < (na : Int) := by omega
          have hg2 : decide ((0 : Int) < (na : Int)) = true := decide_eq_true hg
          have hg3 : 0 < na := by omega
          have HN := Lib.hid (show rawB ut = true by
            cases h : rawB ut with
            | true => rfl
            | false => exact absurd (rawB_no.1 h HK.out).1 (fun e => ha (by rw [← HNA.out, e]; rfl)))
          clear ha
          go_wp2_with fail
          go_ret
          exact ⟨ret_bool (HNO.out k ut HU.out HN.out).symm, below_next HB2.out (HBR.out _)⟩
      · have e1 : (ut.kind == 1) = false := by rw [beq_eq_false_iff_ne]; exact hkd
        have HN := Lib.hid (show rawB ut = false from rawB_no.2 (fun h => absurd h hkd))
        clear hkd
        go_wp2_with fail
        go_roundw
        case rel => exact ⟨k + 1, by omega, by go_num, Lib.hid (HS.out.succ HU.out HN.out), HBR.out _⟩
        case measure => simp [intOf]; omega
    · have hke : k = ts.length := by omega
      have hkn : ¬ (k : Int) < (ts.length : Int) := by omega
      have hkd : decide ((k : Int) < (ts.length : Int)) = false := decide_eq_false hkn
      have HE := Lib.hid (HYES.out (by have := HS.out; rwa [hke] at this))
      have HBE := Lib.hid hbr
      clear hke hbr
      go_wp2_with fail
      go_ret
      exact ⟨ret_bool HE.out.symm, below_next HB2.out HBE.out⟩
end Go.Proofs.Ytcecbdglepneaaa
