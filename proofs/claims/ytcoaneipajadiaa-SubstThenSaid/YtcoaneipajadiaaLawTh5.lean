/-
  Binds behind binds, put in at once: the law answers true.
-/
import Derived.Test.YtcoaneipajadiaaAwakeBd
import Derived.Test.YtcoaneipajadiaaFewBd
import Derived.Test.YtcoaneipajadiaaPThen
import Derived.Test.YtcoaneipajadiaaREqual
import Derived.Deep.RegionWith
namespace Go.Proofs.Ytcoaneipajadiaa
open Go.RowKit

theorem few_parts {bs : List Bn} (h : fewB bs = true) : ∀ x ∈ bs, x.2.parts ≤ 100 := fun x hx => by
  have h1 := (few_of h).2 x hx
  unfold bindB at h1
  rw [Bool.and_eq_true] at h1
  have := within_parts h1.2
  omega
set_option maxRecDepth 100000 in
set_option maxHeartbeats 8000000 in
theorem lawThen_any (va : Value) (cs : List Bn) (vb : Value) (bs : List Bn) (x : Tv) (w : World) (ha : Bds w va cs) (hb : Bds w vb bs) (hx : x.ok w) :
    Calls Try.prog 6 #[va, vb, x.val] w fun e w' => e = .returned (.bool true) ∧ Below w.heap.size w w' := by
  have AW := Lib.hid (fun W => awake_bd W)
  have FA := Lib.hid (fun (W : World) (h : Below w.heap.size w W) => few_any va cs W (ha.below h))
  have FB := Lib.hid (fun (W : World) (h : Below w.heap.size w W) => few_any vb bs W (hb.below h))
  have WI := Lib.hid (fun (W : World) (h : Below w.heap.size w W) => within_tm x 60 (by omega) (by omega) W (hx.below h))
  have TH := Lib.hid (fun (h1 : cs.length ≤ 10) (h2 : bs.length ≤ 10) (hp : ∀ x ∈ cs, x.2.parts ≤ 100) (W : World) (h : Below w.heap.size w W) => then_bd va vb cs bs w W ha hb h (by omega) (by omega) hp)
  have RT := Lib.hid (fun (h1 : cs.length ≤ 10) (h2 : bs.length ≤ 10) (hp : ∀ x ∈ cs, x.2.parts ≤ 100) (W : World) (h : Below w.heap.size w W) => rthen_any va vb cs bs w W ha hb h (by omega) (by omega) hp)
  have EQ := Lib.hid (fun (u v : Value) (W : World) (h1 : Bds W u (thenB cs bs)) (h2 : Bds W v (thenB cs bs)) => (show Calls Try.prog 14 #[u, v] W (fun e w' => e = Ending.returned (.bool true) ∧ Below W.heap.size W w') from by have := requal_any u v _ _ W h1 h2; rwa [eqB_self] at this))
  have hPB : ∀ (h1 : cs.length ≤ 10) (h2 : bs.length ≤ 10), (thenB cs bs).length ≤ 1000000 := fun h1 h2 => by have := namesB_len (cs ++ bs); rw [List.length_append] at this; rw [thenB_length]; omega
  have PB := Lib.hid (fun (h1 : cs.length ≤ 10) (h2 : bs.length ≤ 10) (hpx : x.t.parts ≤ 60) (u : Value) (W : World) (hu : Bds W u (thenB cs bs)) (h : Below w.heap.size w W) => (apply_bd u (thenB cs bs) x W W hu (hPB h1 h2) (hx.below h) (by omega) (Below.refl _ _)).mono (fun e w' ⟨z, h1, h2, h3, h4⟩ => (show ∃ z : Tv, e = Ending.returned z.val ∧ z.t = appT bs (appT cs x.t) ∧ z.ok w' ∧ Below W.heap.size W w' from ⟨z, h1, by rw [h2, then_app], h3.ok h4, h4⟩)))
  have PA := Lib.hid (fun (h1 : cs.length ≤ 10) (hpx : x.t.parts ≤ 60) (W : World) (h : Below w.heap.size w W) => (apply_bd va cs x w W ha (by omega) hx (by omega) h).mono (fun e w' ⟨z, h1, h2, h3, h4⟩ => (show ∃ z : Tv, e = Ending.returned z.val ∧ z.t = appT cs x.t ∧ z.ok w' ∧ Below W.heap.size W w' from ⟨z, h1, h2, h3.ok (below_next h h4), h4⟩)))
  have PC := Lib.hid (fun (h2 : bs.length ≤ 10) (hp : (appT cs x.t).parts ≤ 6000) (y : Tv) (W : World) (hyt : y.t = appT cs x.t) (hy : y.ok W) (h : Below w.heap.size w W) => (apply_bd vb bs y W W (hb.below h) (by omega) hy (by rw [hyt]; omega) (Below.refl _ _)).mono (fun e w' ⟨z, h1, h2, h3, h4⟩ => (show ∃ z : Tv, e = Ending.returned z.val ∧ z.t = appT bs (appT cs x.t) ∧ z.ok w' ∧ Below W.heap.size W w' from ⟨z, h1, by rw [h2, hyt], h3.ok h4, h4⟩)))
  have SA := Lib.hid (fun (y z : Tv) (W : World) (h0 : y.t = z.t) (h1 : y.ok W) (h2 : z.ok W) => (show Calls Try.prog 13 #[y.val, z.val] W (fun e w' => e = Ending.returned (.bool true) ∧ Below W.heap.size W w') from by have := same_tm y.t.parts y z W (Nat.le_refl _) h1 h2; rwa [eqT_true h0] at this))
  have HAP := Lib.hid (fun (hp : ∀ y ∈ cs, y.2.parts ≤ 100) (h : x.t.parts ≤ 60) => (show (appT cs x.t).parts ≤ 6000 from by have := appT_parts (m := 100) (by omega) hp x.t; omega))
  clear hx hPB
  obtain ⟨aa, ca, rfl, _, _⟩ := ha
  obtain ⟨ab, cb, rfl, _, _⟩ := hb
  obtain ⟨t, ax, cx⟩ := x
  have hbx := box_new w (.int .i64 t.kind) (.string t.name) (.int .i64 t.n) (.slice ax t.args.length cx) 25
  have hw : Below w.heap.size w (w.alloc (.cells #[.int .i64 t.kind, .string t.name, .int .i64 t.n, .slice ax t.args.length cx] 25)) := (Below.refl _ _).alloc (Nat.le_refl _) _
  have hz : (w.alloc (.cells #[.int .i64 t.kind, .string t.name, .int .i64 t.n, .slice ax t.args.length cx] 25)).heap.size = w.heap.size + 1 := by simp
  obtain ⟨wb, hwb⟩ : ∃ wb, wb = (w.alloc (.cells #[.int .i64 t.kind, .string t.name, .int .i64 t.n, .slice ax t.args.length cx] 25)) := ⟨_, rfl⟩
  rw [← hwb] at hbx hw hz
  have HBX := Lib.hid (fun (V : World) (h : Below wb.heap.size wb V) => hbx.below h (by omega))
  have HW := Lib.hid (fun (V : World) (h : Below wb.heap.size wb V) => hw.trans (h.mono hw.size))
  clear hbx hw hz
  simp only [Tv.val] at *
  go_enter Try.func6, Try.ntmps6
  go_wp2_with fail
  rw [← hwb]
  clear hwb
  refine (AW.out _).mono ?_; rintro e w1 ⟨rfl, hb1⟩
  go_wp2_with fail
  refine (FA.out _ (HW.out _ hb1)).mono ?_; rintro e w2 ⟨rfl, hb2⟩
  have H2 := Lib.hid (below_next hb1 hb2)
  clear hb1 hb2
  cases hf : fewB cs with
  | false =>
    go_wp2_with fail
    go_ret
    exact ⟨rfl, HW.out _ H2.out⟩
  | true =>
  go_wp2_with fail
  refine (FB.out _ (HW.out _ H2.out)).mono ?_; rintro e w3 ⟨rfl, hb3⟩
  have H3 := Lib.hid (below_next H2.out hb3)
  clear hb3
  cases hg : fewB bs with
  | false =>
    go_wp2_with fail
    go_ret
    exact ⟨rfl, HW.out _ H3.out⟩
  | true =>
  obtain ⟨p0, p1, p2, p3, _, _, _, _⟩ := HBX.out w3 H3.out
  go_wp2_with fail
  refine (WI.out _ (HW.out _ H3.out)).mono ?_; rintro e w4 ⟨rfl, hb4⟩
  have H4 := Lib.hid (below_next H3.out hb4)
  clear hb4 p0 p1 p2 p3
  cases hs : withinB t 60 with
  | false =>
    go_wp2_with fail
    go_ret
    exact ⟨rfl, HW.out _ H4.out⟩
  | true =>
  by_cases hc : cs.length ≤ 10
  case neg =>
    have hci : (10 : Int) < (cs.length : Int) := by omega
    have hcd : decide ((10 : Int) < (cs.length : Int)) = true := decide_eq_true hci
    go_wp2_with fail
    go_ret
    exact ⟨rfl, HW.out _ H4.out⟩
  have hci : ¬ (10 : Int) < (cs.length : Int) := by omega
  have hcj : (cs.length : Int) ≤ 10 := by omega
  have hcd : decide ((10 : Int) < (cs.length : Int)) = false := decide_eq_false hci
  by_cases hd : bs.length ≤ 10
  case neg =>
    have hdi : (10 : Int) < (bs.length : Int) := by omega
    have hdd : decide ((10 : Int) < (bs.length : Int)) = true := decide_eq_true hdi
    go_wp2_with fail
    go_ret
    exact ⟨rfl, HW.out _ H4.out⟩
  have hdi : ¬ (10 : Int) < (bs.length : Int) := by omega
  have hdj : (bs.length : Int) ≤ 10 := by omega
  have hdd : decide ((10 : Int) < (bs.length : Int)) = false := decide_eq_false hdi
  have hpx : t.parts ≤ 60 := by have := within_parts hs; omega
  have T1 := Lib.hid (TH.out hc hd (few_parts hf))
  have R1 := Lib.hid (RT.out hc hd (few_parts hf))
  have B1 := Lib.hid (PB.out hc hd hpx)
  have A1 := Lib.hid (PA.out hc hpx)
  have C1 := Lib.hid (PC.out hd (HAP.out (few_parts hf) hpx))
  clear TH RT PB PA PC HAP AW FA FB WI hf hg hs hc hd hpx H2 H3
  go_wp2_with fail
  refine (T1.out _ (HW.out _ H4.out)).mono ?_; rintro e w5 ⟨u5, rfl, hu5, hb5⟩
  have H5 := Lib.hid (below_next H4.out hb5)
  have U5 := Lib.hid hu5
  obtain ⟨au, cu, rfl, _, _⟩ := hu5
  have HW5 := Lib.hid (fun (V : World) (h : Below w5.heap.size w5 V) => HW.out V (below_next H5.out h))
  have HBX5 := Lib.hid (fun (V : World) (h : Below w5.heap.size w5 V) => HBX.out V (below_next H5.out h))
  have BD := Lib.hid (show Below w5.heap.size w5 w5.drew from (Below.refl _ _).drew)
  obtain ⟨p0, p1, p2, p3, _, _, _, _⟩ := HBX.out w5 H5.out
  clear hb5 HBX HW H4 T1 hci hcj hcd hdi hdj hdd
  simp only at *
  go_wp2_with fail
  go_region_with (first
    | (go_at_call 26; (with_reducible refine (R1.out _ (HW5.out _ BD.out)).mono ?_); rintro e w6 ⟨u6, rfl, hu6, h6⟩; have H6 := Lib.hid (below_next BD.out h6); have U6 := Lib.hid hu6; obtain ⟨au6, cu6, rfl, _, _⟩ := hu6; obtain ⟨p0, p1, p2, p3, _, _, _, _⟩ := HBX5.out w6 H6.out; clear h6)
    | (go_at_call 14; (with_reducible refine (EQ.out _ _ _ (U5.out.below H6.out) U6.out).mono ?_); rintro e w7 ⟨rfl, h7⟩; have H7 := Lib.hid (below_next H6.out h7); obtain ⟨p0, p1, p2, p3, _, _, _, _⟩ := HBX5.out w7 H7.out; clear h7)
    | (go_at_call 22; (with_reducible refine (C1.out ⟨tz, az, cz⟩ _ HZT.out HZO.out (HW5.out _ H9.out)).mono ?_); rintro e w10 ⟨⟨tv, av, cv⟩, rfl, hvt, hvo, h10⟩; have H10 := Lib.hid (below_next H9.out h10); have HS10 := Lib.hid h10; have HVT := Lib.hid hvt; have HVO := Lib.hid hvo; obtain ⟨p0, p1, p2, p3, _, _, _, _⟩ := HBX5.out w10 H10.out; clear hvt hvo h10; try simp only)
    | (go_at_call 22; (with_reducible refine (A1.out _ (HW5.out _ H8.out)).mono ?_); rintro e w9 ⟨⟨tz, az, cz⟩, rfl, hzt, hzo, h9⟩; have H9 := Lib.hid (below_next H8.out h9); have HS9 := Lib.hid h9; have HZT := Lib.hid hzt; have HZO := Lib.hid hzo; obtain ⟨p0, p1, p2, p3, _, _, _, _⟩ := HBX5.out w9 H9.out; clear hzt hzo h9; try simp only)
    | (go_at_call 22; (with_reducible refine (B1.out _ _ (U5.out.below H7.out) (HW5.out _ H7.out)).mono ?_); rintro e w8 ⟨⟨ty, ay, cy⟩, rfl, hyt, hyo, h8⟩; have H8 := Lib.hid (below_next H7.out h8); have HYT := Lib.hid hyt; have HYO := Lib.hid hyo; obtain ⟨p0, p1, p2, p3, _, _, _, _⟩ := HBX5.out w8 H8.out; clear hyt hyo h8; try simp only)
    | (go_at_call 13; (with_reducible refine (SA.out ⟨ty, ay, cy⟩ ⟨tv, av, cv⟩ w10 (HYT.out.trans HVT.out.symm) (HYO.out.below (below_next HS9.out HS10.out)) HVO.out).mono ?_); rintro e w11 ⟨rfl, h11⟩; have H11 := Lib.hid (below_next H10.out h11); clear h11))
  all_goals
    go_wp2_with fail
    go_ret
    exact ⟨rfl, HW5.out _ H11.out⟩
end Go.Proofs.Ytcoaneipajadiaa
