/-
  Any patterns and terms, one by one, together: the law answers true, from what the program's Match and All answer.
-/
import Derived.Test.YtcecbdglepneaaaAwakeMt
import Derived.Test.YtcecbdglepneaaaRMore
import Derived.Test.YtcecbdglepneaaaFewBd
import Derived.Test.YtcecbdglepneaaaSmallsTm
import Derived.Test.YtcecbdglepneaaaREqual
namespace Go.Proofs.Ytcecbdglepneaaa
open Go.RowKit

theorem partsL_le {ps : List Tm} {m : Nat} (h : ∀ p ∈ ps, p.parts ≤ m) : partsL ps ≤ ps.length * m := by
  induction ps with
  | nil => rw [partsL_nil]; omega
  | cons p r ih =>
    have h1 := h p (by simp)
    have h2 := ih (fun q hq => h q (by simp [hq]))
    rw [partsL_cons, List.length_cons, Nat.add_mul]; omega

set_option maxRecDepth 100000 in
set_option maxHeartbeats 4000000 in
theorem lawLists_of6 (PM : ∀ (x y : Tv) (w : World), x.ok w → y.ok w → x.t.parts ≤ 6000 → y.t.parts ≤ 6000 → Calls Try.prog 12 #[x.val, y.val] w (MorePost (moreT x.t y.t []) w))
    (PA : ∀ (v va vb : Value) (ps ts : List Tm) (l : List Bn) (w : World), Tms w va ps → Tms w vb ts → Bds w v l → l.length ≤ 40 → ps.length ≤ 8 → ts.length ≤ 8 → (∀ p ∈ ps, p.parts ≤ 300) → (∀ t ∈ ts, t.parts ≤ 300) → Calls Try.prog 20 #[v, va, vb] w (MorePost (moreL ps ts l) w))
    (v : Value) (bs : List Bn) (va : Value) (ps : List Tm) (vb : Value) (ts : List Tm) (w : World) (hv : Bds w v bs) (ha : Tms w va ps) (hb : Tms w vb ts) :
    Calls Try.prog 5 #[v, va, vb] w fun e w' => e = .returned (.bool true) ∧ Below w.heap.size w w' := by
  have AW := Lib.hid (fun W => awake_of6 PM W)
  have FW := Lib.hid (fun (W : World) (h : Below w.heap.size w W) => few_any v bs W (hv.below h))
  have SX := Lib.hid (fun (W : World) (h : Below w.heap.size w W) => smalls_tm va ps W (ha.below h))
  have SY := Lib.hid (fun (W : World) (h : Below w.heap.size w W) => smalls_tm vb ts W (hb.below h))
  have MA := Lib.hid (fun (hl : bs.length ≤ 40) (h1 : ps.length ≤ 8) (h2 : ts.length ≤ 8) (h3 : ∀ p ∈ ps, p.parts ≤ 300) (h4 : ∀ t ∈ ts, t.parts ≤ 300) (W : World) (h : Below w.heap.size w W) => PA v va vb ps ts bs W (ha.below h) (hb.below h) (hv.below h) hl h1 h2 h3 h4)
  have RA := Lib.hid (fun (hl : bs.length ≤ 40) (h1 : ps.length ≤ 8) (h3 : ∀ p ∈ ps, p.parts ≤ 300) (W : World) (h : Below w.heap.size w W) => rall_of 300 (rmore_tm 300) va vb v ps ts bs W h3 (ha.below h) (hb.below h) (hv.below h) (by have := partsL_le h3; omega))
  have EQ := Lib.hid (fun (u v : Value) (cs : List Bn) (W : World) (h1 : Bds W u cs) (h2 : Bds W v cs) => (show Calls Try.prog 13 #[u, v] W (fun e w' => e = Ending.returned (.bool true) ∧ Below W.heap.size W w') from by have := requal_any u v cs cs W h1 h2; rwa [eqB_self] at this))
  clear PM PA
  obtain ⟨a, c, rfl, _, _⟩ := hv
  obtain ⟨aa, ca, rfl, _, _⟩ := ha
  obtain ⟨ab, cb, rfl, _, _⟩ := hb
  obtain ⟨o1, ho1⟩ : ∃ o1, moreL ps ts bs = o1 := ⟨_, rfl⟩
  rw [ho1] at MA RA
  clear ho1
  obtain ⟨b1, hb1⟩ : ∃ b1, o1.isSome = b1 := ⟨_, rfl⟩
  unfold MorePost at MA RA
  rw [hb1] at MA RA
  have e1 : (b1 == b1) = true := by cases b1 <;> rfl
  clear hb1
  go_enter Try.func5, Try.ntmps5
  go_wp2_with fail
  refine (AW.out _).mono ?_; rintro e w1 ⟨rfl, hb1⟩
  go_wp2_with fail
  refine (FW.out _ hb1).mono ?_; rintro e w2 ⟨rfl, hb2⟩
  have H2 := Lib.hid (below_next hb1 hb2)
  clear hb1 hb2
  cases hf : fewB bs with
  | false =>
    go_wp2_with fail
    go_ret
    exact ⟨rfl, H2.out⟩
  | true =>
  go_wp2_with fail
  refine (SX.out _ H2.out).mono ?_; rintro e w3 ⟨rfl, hb3⟩
  have H3 := Lib.hid (below_next H2.out hb3)
  clear hb3
  cases hs : smallsB ps with
  | false =>
    go_wp2_with fail
    go_ret
    exact ⟨rfl, H3.out⟩
  | true =>
  go_wp2_with fail
  refine (SY.out _ H3.out).mono ?_; rintro e w4 ⟨rfl, hb4⟩
  have H4 := Lib.hid (below_next H3.out hb4)
  clear hb4
  cases ht : smallsB ts with
  | false =>
    go_wp2_with fail
    go_ret
    exact ⟨rfl, H4.out⟩
  | true =>
  by_cases hc : ps.length ≤ 8
  case neg =>
    have hci : (8 : Int) < (ps.length : Int) := by omega
    have hcd : decide ((8 : Int) < (ps.length : Int)) = true := decide_eq_true hci
    go_wp2_with fail
    go_ret
    exact ⟨rfl, H4.out⟩
  have hci : ¬ (8 : Int) < (ps.length : Int) := by omega
  have hcj : (ps.length : Int) ≤ 8 := by omega
  have hcd : decide ((8 : Int) < (ps.length : Int)) = false := decide_eq_false hci
  by_cases hd : ts.length ≤ 8
  case neg =>
    have hdi : (8 : Int) < (ts.length : Int) := by omega
    have hdd : decide ((8 : Int) < (ts.length : Int)) = true := decide_eq_true hdi
    go_wp2_with fail
    go_ret
    exact ⟨rfl, H4.out⟩
  have hdi : ¬ (8 : Int) < (ts.length : Int) := by omega
  have hdj : (ts.length : Int) ≤ 8 := by omega
  have hdd : decide ((8 : Int) < (ts.length : Int)) = false := decide_eq_false hdi
  have hp3 : ∀ p ∈ ps, p.parts ≤ 300 := fun p hp => small_parts ((smalls_of hs).2 p hp)
  have ht3 : ∀ p ∈ ts, p.parts ≤ 300 := fun p hp => small_parts ((smalls_of ht).2 p hp)
  have M1 := Lib.hid (MA.out (few_of hf).1 hc hd hp3 ht3)
  have R1 := Lib.hid (RA.out (few_of hf).1 hc hp3)
  clear MA RA hf hs ht H2 H3 AW FW SX SY hp3 ht3
  go_wp2_with fail
  refine (M1.out _ H4.out).mono ?_; rintro e w5 ⟨u5, rfl, hu5, hb5⟩
  have H5 := Lib.hid (below_next H4.out hb5)
  have U5 := Lib.hid hu5
  obtain ⟨a5, c5, rfl, _, _⟩ := hu5
  clear hb5
  go_wp2_with fail
  refine (R1.out _ H5.out).mono ?_; rintro e w6 ⟨u6, rfl, hu6, hb6⟩
  have H6 := Lib.hid (below_next H5.out hb6)
  have E6 := Lib.hid (EQ.out _ _ _ w6 (U5.out.below hb6) hu6)
  obtain ⟨a6, c6, rfl, _, _⟩ := hu6
  clear hb6 U5
  go_wp2_with fail
  refine E6.out.mono ?_; rintro e w7 ⟨rfl, hb7⟩
  have H7 := Lib.hid (below_next H6.out hb7)
  clear hb7 E6
  go_wp2_with fail
  go_ret
  exact ⟨rfl, H7.out⟩
end Go.Proofs.Ytcecbdglepneaaa
