/-
  Whether two rows of binds are alike: the law answers true.
-/
import Derived.Test.YtcoaneipajadiaaAwakeBd
import Derived.Test.YtcoaneipajadiaaFewBd
import Derived.Test.YtcoaneipajadiaaPSame
import Derived.Test.YtcoaneipajadiaaRBinds
namespace Go.Proofs.Ytcoaneipajadiaa
open Go.RowKit

set_option maxRecDepth 100000 in
set_option maxHeartbeats 4000000 in
theorem lawSame_any (va vb : Value) (cs bs : List Bn) (w : World) (ha : Bds w va cs) (hb : Bds w vb bs) :
    Calls Try.prog 4 #[va, vb] w fun e w' => e = .returned (.bool true) ∧ Below w.heap.size w w' := by
  have AW := Lib.hid (fun W => awake_bd W)
  have FA := Lib.hid (fun (W : World) (h : Below w.heap.size w W) => few_any va cs W (ha.below h))
  have FB := Lib.hid (fun (W : World) (h : Below w.heap.size w W) => few_any vb bs W (hb.below h))
  have SM := Lib.hid (fun (hl1 : cs.length ≤ 40) (hl2 : bs.length ≤ 40) (W : World) (h : Below w.heap.size w W) => same_bd va vb cs bs W (ha.below h) (hb.below h) (by omega) (by omega))
  have SA := Lib.hid (fun (hl1 : cs.length ≤ 40) (W : World) (h : Below w.heap.size w W) => same_bd va va cs cs W (ha.below h) (ha.below h) (by omega) (by omega))
  have OA := Lib.hid (fun (hl : cs.length ≤ 40) (W : World) (h : Below w.heap.size w W) => (rof_any va cs w W ha h (by omega)).mono (fun e w' ⟨u, h1, h2, h3⟩ => (show ∃ u, e = Ending.returned u ∧ Bds w' u (ofB cs) ∧ Below W.heap.size W w' from ⟨u, h1, h2.bds (below_next h h3) (by have := ofB_length cs; omega), h3⟩)))
  have OB := Lib.hid (fun (hl : bs.length ≤ 40) (W : World) (h : Below w.heap.size w W) => (rof_any vb bs w W hb h (by omega)).mono (fun e w' ⟨u, h1, h2, h3⟩ => (show ∃ u, e = Ending.returned u ∧ Bds w' u (ofB bs) ∧ Below W.heap.size W w' from ⟨u, h1, h2.bds (below_next h h3) (by have := ofB_length bs; omega), h3⟩)))
  have EQ := Lib.hid (fun (u v : Value) (W : World) (h1 : Bds W u (ofB cs)) (h2 : Bds W v (ofB bs)) => requal_any u v (ofB cs) (ofB bs) W h1 h2)
  have ES := Lib.hid (eqB_self (ofB cs))
  obtain ⟨aa, ca, rfl, _, _⟩ := ha
  obtain ⟨ab, cb, rfl, _, _⟩ := hb
  obtain ⟨bb, hbb⟩ : ∃ bb, eqB (ofB cs) (ofB bs) = bb := ⟨_, rfl⟩
  rw [hbb] at SM EQ
  rw [ES.out] at SA
  have hq : (bb == bb) = true := by cases bb <;> rfl
  clear hbb
  go_enter Try.func4, Try.ntmps4
  go_wp2_with fail
  refine (AW.out _).mono ?_; rintro e w1 ⟨rfl, hb1⟩
  go_wp2_with fail
  refine (FA.out _ hb1).mono ?_; rintro e w2 ⟨rfl, hb2⟩
  replace hb2 := below_next hb1 hb2
  clear hb1
  cases hf : fewB cs with
  | false =>
    have HE := Lib.hid hb2
    clear hb2
    go_wp2_with fail
    go_ret
    exact ⟨rfl, HE.out⟩
  | true =>
    have HE := Lib.hid hb2
    clear hb2
    go_wp2_with fail
    refine (FB.out _ HE.out).mono ?_; rintro e w3 ⟨rfl, hb3⟩
    have H3 := Lib.hid (below_next HE.out hb3)
    clear hb3
    cases hg : fewB bs with
    | false =>
      go_wp2_with fail
      go_ret
      exact ⟨rfl, H3.out⟩
    | true =>
      have hl1 : cs.length ≤ 40 := (few_of hf).1
      have hl2 : bs.length ≤ 40 := (few_of hg).1
      have S1 := Lib.hid (SM.out hl1 hl2)
      have S2 := Lib.hid (SA.out hl1)
      have A1 := Lib.hid (OA.out hl1)
      have B1 := Lib.hid (OB.out hl2)
      clear SM SA OA OB hl1 hl2 hf hg
      go_wp2_with fail
      refine (S1.out _ H3.out).mono ?_; rintro e w4 ⟨rfl, hb4⟩
      have H4 := Lib.hid (below_next H3.out hb4)
      clear hb4
      go_wp2_with fail
      refine (A1.out _ H4.out).mono ?_; rintro e w5 ⟨u5, rfl, hu5, hb5⟩
      have H5 := Lib.hid (below_next H4.out hb5)
      have U5 := Lib.hid hu5
      clear hb5 hu5
      go_wp2_with fail
      refine (B1.out _ H5.out).mono ?_; rintro e w6 ⟨u6, rfl, hu6, hb6⟩
      have H6 := Lib.hid (below_next H5.out hb6)
      have U6 := Lib.hid (U5.out.below hb6)
      have V6 := Lib.hid hu6
      clear hb6 hu6
      go_wp2_with fail
      refine (EQ.out _ _ _ U6.out V6.out).mono ?_; rintro e w7 ⟨rfl, hb7⟩
      have H7 := Lib.hid (below_next H6.out hb7)
      clear hb7
      go_wp2_with fail
      refine (S2.out _ H7.out).mono ?_; rintro e w8 ⟨rfl, hb8⟩
      have H8 := Lib.hid (below_next H7.out hb8)
      clear hb8
      go_wp2_with fail
      go_ret
      exact ⟨rfl, H8.out⟩
end Go.Proofs.Ytcoaneipajadiaa
