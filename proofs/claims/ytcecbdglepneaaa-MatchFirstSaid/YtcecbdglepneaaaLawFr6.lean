/-
  The first of any patterns that any term is an instance of; whether two terms are instances of each other: the law answers true, from what the program's Match, Variant and First answer.
-/
import Derived.Test.YtcecbdglepneaaaAwakeMt
import Derived.Test.YtcecbdglepneaaaRInst
import Derived.Test.YtcecbdglepneaaaSmallsTm
import Derived.Test.YtcecbdglepneaaaREqual
import Derived.Test.YtcecbdglepneaaaAfter
namespace Go.Proofs.Ytcecbdglepneaaa
open Go.RowKit

/-- The first of some patterns that a term is an instance of. -/
noncomputable def firstT : List Tm → Tm → Nat → Option (Nat × List Bn)
  | [], _, _ => none
  | p :: ps, t, i => match moreT p t [] with | some b => some (i, b) | none => firstT ps t (i + 1)
theorem firstT_hit {t : Tm} {b : List Bn} : ∀ {ps : List Tm} {k i : Nat} (hk : k < ps.length), (∀ j (h : j < ps.length), j < k → moreT ps[j] t [] = none) → moreT ps[k] t [] = some b → firstT ps t i = some (i + k, b)
  | p :: ps, 0, i, _, _, h => by
    rw [firstT, show moreT p t [] = some b from h]; rfl
  | p :: ps, k + 1, i, hk, hn, h => by
    rw [firstT, show moreT p t [] = none from hn 0 (by simp) (by omega)]
    show firstT ps t (i + 1) = _
    rw [firstT_hit (ps := ps) (k := k) (i := i + 1) (by simpa using hk) (fun j hj hjk => hn (j + 1) (by simpa using hj) (by omega)) h]
    congr 2; omega
theorem firstT_none {t : Tm} : ∀ {ps : List Tm} {i : Nat}, (∀ j (h : j < ps.length), moreT ps[j] t [] = none) → firstT ps t i = none
  | [], _, _ => rfl
  | p :: ps, i, hn => by
    rw [firstT, show moreT p t [] = none from hn 0 (by simp)]
    exact firstT_none (ps := ps) (i := i + 1) (fun j hj => hn (j + 1) (by simpa using hj))
/-- What a call of First leaves. -/
def FirstPost (o : Option (Nat × List Bn)) (w : World) (e : Ending) (w' : World) : Prop := ∃ (i : Nat) (u : Value) (l : List Bn) (b : Bool), e = .returned (.tuple #[.int .i64 i, u, .bool b]) ∧ Bds w' u l ∧ (match o with | some (k, m) => i = k ∧ l = m ∧ b = true | none => i = 0 ∧ l = [] ∧ b = false) ∧ Below w.heap.size w w'

set_option maxRecDepth 100000 in
set_option maxHeartbeats 8000000 in
theorem lawFirst_of6 (PM : ∀ (x y : Tv) (w : World), x.ok w → y.ok w → x.t.parts ≤ 6000 → y.t.parts ≤ 6000 → Calls Try.prog 12 #[x.val, y.val] w (MorePost (moreT x.t y.t []) w))
    (PV : ∀ (x y : Tv) (w : World), x.ok w → y.ok w → x.t.parts ≤ 300 → y.t.parts ≤ 300 → Calls Try.prog 23 #[x.val, y.val] w fun e w' => e = .returned (.bool ((moreT x.t y.t []).isSome && (moreT y.t x.t []).isSome)) ∧ Below w.heap.size w w')
    (PF : ∀ (va : Value) (ps : List Tm) (y : Tv) (w : World), Tms w va ps → y.ok w → ps.length ≤ 60 → (∀ p ∈ ps, p.parts ≤ 300) → y.t.parts ≤ 300 → Calls Try.prog 22 #[va, y.val] w (FirstPost (firstT ps y.t 0) w))
    (va : Value) (ps : List Tm) (x y : Tv) (w : World) (ha : Tms w va ps) (hx : x.ok w) (hy : y.ok w) :
    Calls Try.prog 6 #[va, x.val, y.val] w fun e w' => e = .returned (.bool true) ∧ Below w.heap.size w w' := by
  have AW := Lib.hid (fun W => awake_of6 PM W)
  have SL := Lib.hid (fun (W : World) (h : Below w.heap.size w W) => smalls_tm va ps W (ha.below h))
  have SX := Lib.hid (fun (W : World) (h : Below w.heap.size w W) => small_tm x W (hx.below h))
  have SY := Lib.hid (fun (W : World) (h : Below w.heap.size w W) => small_tm y W (hy.below h))
  have FI := Lib.hid (fun (hl : ps.length ≤ 60) (h1 : ∀ p ∈ ps, p.parts ≤ 300) (h2 : x.t.parts ≤ 300) (W : World) (h : Below w.heap.size w W) => PF va ps x W (ha.below h) (hx.below h) hl h1 h2)
  have VA := Lib.hid (fun (h1 : x.t.parts ≤ 300) (h2 : y.t.parts ≤ 300) (W : World) (h : Below w.heap.size w W) => PV y x W (hy.below h) (hx.below h) h2 h1)
  have I1 := Lib.hid (fun (h1 : x.t.parts ≤ 300) (h2 : y.t.parts ≤ 300) (W : World) (h : Below w.heap.size w W) => rinst_tm y x W (hy.below h) (hx.below h) (by omega))
  have I2 := Lib.hid (fun (h1 : x.t.parts ≤ 300) (h2 : y.t.parts ≤ 300) (W : World) (h : Below w.heap.size w W) => rinst_tm x y W (hx.below h) (hy.below h) (by omega))
  have RM := Lib.hid (fun (z : Tv) (W : World) (h : Below w.heap.size w W) (hz : z.ok W) (hzp : z.t.parts ≤ 300) => rmore_tm 300 z x (.slice none 0 0) [] W hzp hz (hx.below h) (Bds.none_ _ _ _) (by simp; omega))
  have EQ := Lib.hid (fun (u v : Value) (cs : List Bn) (W : World) (h1 : Bds W u cs) (h2 : Bds W v cs) => (show Calls Try.prog 13 #[u, v] W (fun e w' => e = Ending.returned (.bool true) ∧ Below W.heap.size W w') from by have := requal_any u v cs cs W h1 h2; rwa [eqB_self] at this))
  clear hx hy PM PV PF
  obtain ⟨aa, ca, rfl, hla, hra⟩ := ha.open_
  have HA := Lib.hid hra
  have HHIT := Lib.hid (fun (k : Nat) (hk : k < ps.length) (b : List Bn) (hn : ∀ j (h : j < ps.length), j < k → moreT ps[j] x.t [] = none) (h : moreT ps[k] x.t [] = some b) => (show firstT ps x.t 0 = some (k, b) by have := firstT_hit (i := 0) hk hn h; rwa [Nat.zero_add] at this))
  have HMISS := Lib.hid (fun (hn : ∀ j (h : j < ps.length), moreT ps[j] x.t [] = none) => firstT_none (i := 0) hn)
  obtain ⟨b1, hb1⟩ : ∃ b1, (moreT y.t x.t []).isSome = b1 := ⟨_, rfl⟩
  obtain ⟨b2, hb2⟩ : ∃ b2, (moreT x.t y.t []).isSome = b2 := ⟨_, rfl⟩
  rw [hb1, hb2] at VA
  rw [hb1] at I1
  rw [hb2] at I2
  clear hb1 hb2 ha hra
  obtain ⟨xt, xa, xc⟩ := x
  obtain ⟨yt, ya, yc⟩ := y
  have bX := (box_new w (.int .i64 xt.kind) (.string xt.name) (.int .i64 xt.n) (.slice xa xt.args.length xc) 25).below ((Below.refl _ _).alloc (Nat.le_refl _) (.cells #[.int .i64 yt.kind, .string yt.name, .int .i64 yt.n, .slice ya yt.args.length yc] 25)) (by simp)
  have bY := alloc_two w (.cells #[.int .i64 xt.kind, .string xt.name, .int .i64 xt.n, .slice xa xt.args.length xc] 25) (.int .i64 yt.kind) (.string yt.name) (.int .i64 yt.n) (.slice ya yt.args.length yc) 25
  have hB2 := below_two w (.cells #[.int .i64 xt.kind, .string xt.name, .int .i64 xt.n, .slice xa xt.args.length xc] 25) (.cells #[.int .i64 yt.kind, .string yt.name, .int .i64 yt.n, .slice ya yt.args.length yc] 25)
  obtain ⟨wz, hwz⟩ : ∃ wz, wz = ((w.alloc (.cells #[.int .i64 xt.kind, .string xt.name, .int .i64 xt.n, .slice xa xt.args.length xc] 25)).alloc (.cells #[.int .i64 yt.kind, .string yt.name, .int .i64 yt.n, .slice ya yt.args.length yc] 25)) := ⟨_, rfl⟩
  have hzs : wz.heap.size = w.heap.size + 2 := by rw [hwz]; simp
  rw [← hwz] at bX bY hB2
  have HBX := Lib.hid (fun (V : World) (h : Below wz.heap.size wz V) => bX.below h (by omega))
  have HBY := Lib.hid (fun (V : World) (h : Below wz.heap.size wz V) => bY.below h (by omega))
  have HW := Lib.hid (fun (V : World) (h : Below wz.heap.size wz V) => below_next hB2 h)
  have HZS := Lib.hid hzs
  have KEEP := Lib.hid (fun (W : World) (h : Below wz.heap.size wz W) => (show Below wz.heap.size wz W ∧ (W.cell? ⟨w.heap.size, 0, none⟩ = some (.int .i64 xt.kind) ∧ W.cell? ⟨w.heap.size, 1, none⟩ = some (.string xt.name) ∧ W.cell? ⟨w.heap.size, 2, none⟩ = some (.int .i64 xt.n) ∧ W.cell? ⟨w.heap.size, 3, none⟩ = some (.slice xa xt.args.length xc)) ∧ (W.cell? ⟨w.heap.size + 1, 0, none⟩ = some (.int .i64 yt.kind) ∧ W.cell? ⟨w.heap.size + 1, 1, none⟩ = some (.string yt.name) ∧ W.cell? ⟨w.heap.size + 1, 2, none⟩ = some (.int .i64 yt.n) ∧ W.cell? ⟨w.heap.size + 1, 3, none⟩ = some (.slice ya yt.args.length yc)) from by
    have b1 := HBX.out W h
    have b2 := HBY.out W h
    exact ⟨h, ⟨b1.c0, b1.c1, b1.c2, b1.c3⟩, ⟨b2.c0, b2.c1, b2.c2, b2.c3⟩⟩))
  have AD := Lib.hid (fun (W : World) (h : Below wz.heap.size wz W) => (show Below wz.heap.size wz W.drew from h.drew))
  clear bX bY hB2 hzs
  simp only [Tv.val] at *
  go_enter Try.func6, Try.ntmps6
  go_wp2_with fail
  rw [← hwz]
  clear hwz
  refine (AW.out _).mono ?_; rintro e w1 ⟨rfl, hb1⟩
  go_wp2_with fail
  refine (SL.out _ (HW.out _ hb1)).mono ?_; rintro e w2 ⟨rfl, hb2⟩
  have H2 := Lib.hid (below_next hb1 hb2)
  clear hb1 hb2
  cases hf : smallsB ps with
  | false =>
    go_wp2_with fail
    go_ret
    exact ⟨rfl, HW.out _ H2.out⟩
  | true =>
  obtain ⟨p0, p1, p2, p3, _, _, _, _⟩ := HBX.out w2 H2.out
  go_wp2_with fail
  refine (SX.out _ (HW.out _ H2.out)).mono ?_; rintro e w3 ⟨rfl, hb3⟩
  have H3 := Lib.hid (below_next H2.out hb3)
  clear hb3 p0 p1 p2 p3
  cases hs : smallB xt with
  | false =>
    go_wp2_with fail
    go_ret
    exact ⟨rfl, HW.out _ H3.out⟩
  | true =>
  obtain ⟨q0, q1, q2, q3, _, _, _, _⟩ := HBY.out w3 H3.out
  go_wp2_with fail
  refine (SY.out _ (HW.out _ H3.out)).mono ?_; rintro e w4 ⟨rfl, hb4⟩
  have H4 := Lib.hid (below_next H3.out hb4)
  clear hb4 q0 q1 q2 q3
  cases ht : smallB yt with
  | false =>
    go_wp2_with fail
    go_ret
    exact ⟨rfl, HW.out _ H4.out⟩
  | true =>
  have HP3 := Lib.hid (fun (p : Tm) (hp : p ∈ ps) => small_parts ((smalls_of hf).2 p hp))
  have F1 := Lib.hid (FI.out (smalls_of hf).1 HP3.out (small_parts hs))
  have V1 := Lib.hid (VA.out (small_parts hs) (small_parts ht))
  have J1 := Lib.hid (I1.out (small_parts hs) (small_parts ht))
  have J2 := Lib.hid (I2.out (small_parts hs) (small_parts ht))
  clear FI VA I1 I2 hf hs ht H2 H3 AW SL SX SY
  obtain ⟨p0, p1, p2, p3, _, _, _, _⟩ := HBX.out w4 H4.out
  go_wp2_with fail
  refine (F1.out _ (HW.out _ H4.out)).mono ?_; rintro e w5 ⟨fi, fu, fl, fb, rfl, hfu, hfo, hb5⟩
  have H5 := Lib.hid (below_next H4.out hb5)
  have UF := Lib.hid hfu
  have HFO := Lib.hid hfo
  obtain ⟨af, cf, rfl, hflen, _⟩ := hfu
  clear hb5 hfo p0 p1 p2 p3 F1
  obtain ⟨_, ⟨p0, p1, p2, p3⟩, ⟨q0, q1, q2, q3⟩⟩ := KEEP.out w5 H5.out
  have D5 := Lib.hid (AD.out _ H5.out)
  have h0d := D5.out
  clear p0 p1 p2 p3 q0 q1 q2 q3 h0d
  cases b1 with
  | false =>
    go_wp2_with fail
    have P0 := Lib.hid (fun p : After w5 => KEEP.out p.w (below_next H5.out p.below))
    have p0 := fun p : After w5 => (P0.out p).2.1.1
    have p1 := fun p : After w5 => (P0.out p).2.1.2.1
    have p2 := fun p : After w5 => (P0.out p).2.1.2.2.1
    have p3 := fun p : After w5 => (P0.out p).2.1.2.2.2
    have q0 := fun p : After w5 => (P0.out p).2.2.1
    have q1 := fun p : After w5 => (P0.out p).2.2.2.1
    have q2 := fun p : After w5 => (P0.out p).2.2.2.2.1
    have q3 := fun p : After w5 => (P0.out p).2.2.2.2.2
    have CV := Lib.hid (fun p : After w5 => V1.out p.w (HW.out _ (below_next H5.out p.below)))
    have CI := Lib.hid (fun p : After w5 => J1.out p.w (HW.out _ (below_next H5.out p.below)))
    have CJ := Lib.hid (fun p : After w5 => J2.out p.w (HW.out _ (below_next H5.out p.below)))
    refine wp_region_after (Below.refl _ w5) (by kernel_rfl) (by kernel_rfl) ?_
    quiet_step ((first | (go_at_call 23; with_reducible exact after_call (CV.out _)) | (go_at_call 24; with_reducible exact after_call (CI.out _)) | (go_at_call 24; with_reducible exact after_call (CJ.out _)))); quiet_step ((first | (go_at_call 23; with_reducible exact after_call (CV.out _)) | (go_at_call 24; with_reducible exact after_call (CI.out _)) | (go_at_call 24; with_reducible exact after_call (CJ.out _)))); quiet_step ((first | (go_at_call 23; with_reducible exact after_call (CV.out _)) | (go_at_call 24; with_reducible exact after_call (CI.out _)) | (go_at_call 24; with_reducible exact after_call (CJ.out _)))); quiet_step ((first | (go_at_call 23; with_reducible exact after_call (CV.out _)) | (go_at_call 24; with_reducible exact after_call (CI.out _)) | (go_at_call 24; with_reducible exact after_call (CJ.out _)))); quiet_step ((first | (go_at_call 23; with_reducible exact after_call (CV.out _)) | (go_at_call 24; with_reducible exact after_call (CI.out _)) | (go_at_call 24; with_reducible exact after_call (CJ.out _)))); quiet_step ((first | (go_at_call 23; with_reducible exact after_call (CV.out _)) | (go_at_call 24; with_reducible exact after_call (CI.out _)) | (go_at_call 24; with_reducible exact after_call (CJ.out _)))); quiet_step ((first | (go_at_call 23; with_reducible exact after_call (CV.out _)) | (go_at_call 24; with_reducible exact after_call (CI.out _)) | (go_at_call 24; with_reducible exact after_call (CJ.out _))))
    clear p0 p1 p2 p3 q0 q1 q2 q3 CV CI CJ P0
    repeat (quiet_step (fail))
    refine wpQuiet_nil ?_
    intro wx hw'
    obtain ⟨w9, h9, hbq⟩ : ∃ w9, wx = w9 ∧ Below w5.heap.size w5 w9 := by
      obtain ⟨⟨wq, hbq⟩, hw''⟩ := hw'
      exact ⟨wq, hw'', hbq⟩
    rw [h9]
    clear h9 hw'
    have HS59 := Lib.hid hbq
    have H9 := Lib.hid (below_next H5.out hbq)
    clear hbq
    have hbb : (b2 != b2) = false := by cases b2 <;> rfl
    have hbb2 : (b2 == b2) = true := by cases b2 <;> rfl
    have U9 := Lib.hid (UF.out.below (show Below w5.heap.size w5 w9 from HS59.out))
    go_wp2_with fail
    go_loopw [50] (fun i wr => ∃ q : Nat, q ≤ ps.length ∧ i = .int .i64 q ∧ Hid (∀ j (h : j < ps.length), j < q → moreT ps[j] xt [] = none) ∧ Below w9.heap.size w9 wr) (fun i _ => ps.length - (intOf i).toNat)
    case atStart => exact ⟨0, Nat.zero_le _, rfl, Lib.hid (fun j h hj => by omega), Below.refl _ _⟩
    case round =>
      obtain ⟨q, hq, rfl, HN, hb⟩ := hrel
      by_cases hql : q < ps.length
      · obtain ⟨b, o, rfl, hlt, hat⟩ := HA.out.resolve_left (by intro h; rw [h] at hql; simp at hql)
        obtain ⟨⟨zt, za, zc⟩, hzt, hzo, hzv⟩ := hat q hql
        have hbz := below_next H9.out hb
        have hbw := HW.out _ hbz
        obtain ⟨m0, m1, m2, m3⟩ := hzv.below hbw
        have hk0 : (0 : Int) ≤ (q : Int) := by omega
        have hk1 : (q : Int) < (ps.length : Int) := by omega
        have hkd : decide ((q : Int) < (ps.length : Int)) = true := decide_eq_true hk1
        have hlz : w.heap.size < wr.heap.size := by have := hbz.size; have := HZS.out; omega
        have hlz1 : w.heap.size < wr.heap.size + 1 := by omega
        simp only at m0 m1 m2 m3 hzt
        have HBR := Lib.hid (hb.alloc hb.size (.cells #[.int .i64 zt.kind, .string zt.name, .int .i64 zt.n, .slice za zt.args.length zc] 25))
        obtain ⟨p0, p1, p2, p3, _, _, _, _⟩ := HBX.out wr hbz
        have R := Lib.hid (RM.out ⟨zt, za, zc⟩ (wr.alloc (.cells #[.int .i64 zt.kind, .string zt.name, .int .i64 zt.n, .slice za zt.args.length zc] 25)) (HW.out _ (below_next H9.out HBR.out)) ((hzo.below hbw).below ((Below.refl _ _).alloc (Nat.le_refl _) _)) (by rw [show (⟨zt, za, zc⟩ : Tv).t = ps[q] from hzt]; exact HP3.out _ (List.getElem_mem hql)))
        have HZT := Lib.hid hzt
        clear hat hzo hzv hzt hb hbz hbw hlt
        simp only at R
        obtain ⟨om, hom⟩ : ∃ om, moreT zt xt [] = om := ⟨_, rfl⟩
        have HOM := Lib.hid (show moreT ps[q] xt [] = om by rw [← HZT.out]; exact hom)
        rw [hom] at R
        clear hom
        cases om with
        | none =>
          go_wp2_with fail
          refine R.out.mono ?_; rintro e w10 ⟨u, rfl, hu, hb10⟩
          have HB10 := Lib.hid (below_next HBR.out hb10)
          obtain ⟨a0, c0, rfl, _, _⟩ := hu
          clear hb10 p0 p1 p2 p3 m0 m1 m2 m3
          go_wp2_with fail
          go_roundw
          case rel => exact ⟨q + 1, by omega, by go_num, Lib.hid (fun j h hj => by
            by_cases e : j = q
            · subst e; exact HOM.out
            · exact HN.out j h (by omega)), HB10.out⟩
          case measure => simp [intOf]; omega
        | some cl =>
          have hf := HFO.out
          rw [HHIT.out q hql cl HN.out HOM.out] at hf
          obtain ⟨rfl, rfl, rfl⟩ := hf
          go_wp2_with fail
          refine R.out.mono ?_; rintro e w10 ⟨u, rfl, hu, hb10⟩
          have HB10 := Lib.hid (below_next HBR.out hb10)
          have E := Lib.hid (EQ.out _ _ _ w10 (U9.out.below HB10.out) hu)
          obtain ⟨a0, c0, rfl, _, _⟩ := hu
          clear hb10 p0 p1 p2 p3 m0 m1 m2 m3
          simp only [Option.getD_some, Option.isSome_some] at *
          go_wp2_with fail
          refine E.out.mono ?_; rintro e w11 ⟨rfl, hb11⟩
          have HB11 := Lib.hid (HW.out _ (below_next H9.out (below_next HB10.out hb11)))
          clear hb11
          go_wp2_with fail
          go_ret
          exact ⟨rfl, HB11.out⟩
      · have hqe : q = ps.length := by omega
        have hkd : decide ((q : Int) < (ps.length : Int)) = false := decide_eq_false (by omega)
        have hkn : ¬ (q : Int) < (ps.length : Int) := by omega
        have hf := HFO.out
        rw [HMISS.out (fun j h => HN.out j h (by omega))] at hf
        obtain ⟨rfl, rfl, rfl⟩ := hf
        have HE := Lib.hid (HW.out _ (below_next H9.out hb))
        clear hqe hb
        go_wp2_with fail
        go_ret
        exact ⟨rfl, HE.out⟩
  | true =>
    go_wp2_with fail
    have P0 := Lib.hid (fun p : After w5 => KEEP.out p.w (below_next H5.out p.below))
    have p0 := fun p : After w5 => (P0.out p).2.1.1
    have p1 := fun p : After w5 => (P0.out p).2.1.2.1
    have p2 := fun p : After w5 => (P0.out p).2.1.2.2.1
    have p3 := fun p : After w5 => (P0.out p).2.1.2.2.2
    have q0 := fun p : After w5 => (P0.out p).2.2.1
    have q1 := fun p : After w5 => (P0.out p).2.2.2.1
    have q2 := fun p : After w5 => (P0.out p).2.2.2.2.1
    have q3 := fun p : After w5 => (P0.out p).2.2.2.2.2
    have CV := Lib.hid (fun p : After w5 => V1.out p.w (HW.out _ (below_next H5.out p.below)))
    have CI := Lib.hid (fun p : After w5 => J1.out p.w (HW.out _ (below_next H5.out p.below)))
    have CJ := Lib.hid (fun p : After w5 => J2.out p.w (HW.out _ (below_next H5.out p.below)))
    refine wp_region_after (Below.refl _ w5) (by kernel_rfl) (by kernel_rfl) ?_
    repeat (quiet_step ((first | (go_at_call 23; with_reducible exact after_call (CV.out _)) | (go_at_call 24; with_reducible exact after_call (CI.out _)) | (go_at_call 24; with_reducible exact after_call (CJ.out _)))))
    clear p0 p1 p2 p3 q0 q1 q2 q3 CV CI CJ P0
    refine wpQuiet_nil ?_
    intro wx hw'
    obtain ⟨w9, h9, hbq⟩ : ∃ w9, wx = w9 ∧ Below w5.heap.size w5 w9 := by
      obtain ⟨⟨wq, hbq⟩, hw''⟩ := hw'
      exact ⟨wq, hw'', hbq⟩
    rw [h9]
    clear h9 hw'
    have HS59 := Lib.hid hbq
    have H9 := Lib.hid (below_next H5.out hbq)
    clear hbq
    have hbb : (b2 != b2) = false := by cases b2 <;> rfl
    have hbb2 : (b2 == b2) = true := by cases b2 <;> rfl
    have U9 := Lib.hid (UF.out.below (show Below w5.heap.size w5 w9 from HS59.out))
    go_wp2_with fail
    go_loopw [50] (fun i wr => ∃ q : Nat, q ≤ ps.length ∧ i = .int .i64 q ∧ Hid (∀ j (h : j < ps.length), j < q → moreT ps[j] xt [] = none) ∧ Below w9.heap.size w9 wr) (fun i _ => ps.length - (intOf i).toNat)
    case atStart => exact ⟨0, Nat.zero_le _, rfl, Lib.hid (fun j h hj => by omega), Below.refl _ _⟩
    case round =>
      obtain ⟨q, hq, rfl, HN, hb⟩ := hrel
      by_cases hql : q < ps.length
      · obtain ⟨b, o, rfl, hlt, hat⟩ := HA.out.resolve_left (by intro h; rw [h] at hql; simp at hql)
        obtain ⟨⟨zt, za, zc⟩, hzt, hzo, hzv⟩ := hat q hql
        have hbz := below_next H9.out hb
        have hbw := HW.out _ hbz
        obtain ⟨m0, m1, m2, m3⟩ := hzv.below hbw
        have hk0 : (0 : Int) ≤ (q : Int) := by omega
        have hk1 : (q : Int) < (ps.length : Int) := by omega
        have hkd : decide ((q : Int) < (ps.length : Int)) = true := decide_eq_true hk1
        have hlz : w.heap.size < wr.heap.size := by have := hbz.size; have := HZS.out; omega
        have hlz1 : w.heap.size < wr.heap.size + 1 := by omega
        simp only at m0 m1 m2 m3 hzt
        have HBR := Lib.hid (hb.alloc hb.size (.cells #[.int .i64 zt.kind, .string zt.name, .int .i64 zt.n, .slice za zt.args.length zc] 25))
        obtain ⟨p0, p1, p2, p3, _, _, _, _⟩ := HBX.out wr hbz
        have R := Lib.hid (RM.out ⟨zt, za, zc⟩ (wr.alloc (.cells #[.int .i64 zt.kind, .string zt.name, .int .i64 zt.n, .slice za zt.args.length zc] 25)) (HW.out _ (below_next H9.out HBR.out)) ((hzo.below hbw).below ((Below.refl _ _).alloc (Nat.le_refl _) _)) (by rw [show (⟨zt, za, zc⟩ : Tv).t = ps[q] from hzt]; exact HP3.out _ (List.getElem_mem hql)))
        have HZT := Lib.hid hzt
        clear hat hzo hzv hzt hb hbz hbw hlt
        simp only at R
        obtain ⟨om, hom⟩ : ∃ om, moreT zt xt [] = om := ⟨_, rfl⟩
        have HOM := Lib.hid (show moreT ps[q] xt [] = om by rw [← HZT.out]; exact hom)
        rw [hom] at R
        clear hom
        cases om with
        | none =>
          go_wp2_with fail
          refine R.out.mono ?_; rintro e w10 ⟨u, rfl, hu, hb10⟩
          have HB10 := Lib.hid (below_next HBR.out hb10)
          obtain ⟨a0, c0, rfl, _, _⟩ := hu
          clear hb10 p0 p1 p2 p3 m0 m1 m2 m3
          go_wp2_with fail
          go_roundw
          case rel => exact ⟨q + 1, by omega, by go_num, Lib.hid (fun j h hj => by
            by_cases e : j = q
            · subst e; exact HOM.out
            · exact HN.out j h (by omega)), HB10.out⟩
          case measure => simp [intOf]; omega
        | some cl =>
          have hf := HFO.out
          rw [HHIT.out q hql cl HN.out HOM.out] at hf
          obtain ⟨rfl, rfl, rfl⟩ := hf
          go_wp2_with fail
          refine R.out.mono ?_; rintro e w10 ⟨u, rfl, hu, hb10⟩
          have HB10 := Lib.hid (below_next HBR.out hb10)
          have E := Lib.hid (EQ.out _ _ _ w10 (U9.out.below HB10.out) hu)
          obtain ⟨a0, c0, rfl, _, _⟩ := hu
          clear hb10 p0 p1 p2 p3 m0 m1 m2 m3
          simp only [Option.getD_some, Option.isSome_some] at *
          go_wp2_with fail
          refine E.out.mono ?_; rintro e w11 ⟨rfl, hb11⟩
          have HB11 := Lib.hid (HW.out _ (below_next H9.out (below_next HB10.out hb11)))
          clear hb11
          go_wp2_with fail
          go_ret
          exact ⟨rfl, HB11.out⟩
      · have hqe : q = ps.length := by omega
        have hkd : decide ((q : Int) < (ps.length : Int)) = false := decide_eq_false (by omega)
        have hkn : ¬ (q : Int) < (ps.length : Int) := by omega
        have hf := HFO.out
        rw [HMISS.out (fun j h => HN.out j h (by omega))] at hf
        obtain ⟨rfl, rfl, rfl⟩ := hf
        have HE := Lib.hid (HW.out _ (below_next H9.out hb))
        clear hqe hb
        go_wp2_with fail
        go_ret
        exact ⟨rfl, HE.out⟩
end Go.Proofs.Ytcecbdglepneaaa
