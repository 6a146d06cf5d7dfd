/-
  Whether items are alike but for places, by the program's grammar: sameItem, Same.
  What the program's grammar answers: all of it.
  GrammarShows holds for package grammar as it landed.
-/
import Derived.Test.YtldgbdmiebipnaaGreatDoorZ22
import Derived.Test.YtldgbdmiebipnaaGreatDoorZ05
import Derived.Test.YtldgbdmiebipnaaGreatDoorZ21
import Derived.Test.YtldgbdmiebipnaaGreatDoorZ13
namespace Go.Proofs.YtldgbdmiebipnaaGreatDoor
open Go.RowKit

open Classical in
/-- Two items alike, but for places. -/
noncomputable def beI (x y : It) : Bool := decide (x.bare = y.bare)
theorem beI_true {x y : It} (h : x.bare = y.bare) : beI x y = true := by unfold beI; simpa using h
theorem beI_false {x y : It} (h : x.bare ≠ y.bare) : beI x y = false := by unfold beI; simpa using h
theorem four_box (w : World) (k k' : ByteArray) (n n' : Int) (a1 a2 b1 b2 : Option Addr) (l1 l2 m1 m2 c1 c2 d1 d2 : Nat) : Below w.heap.size w ((w.alloc (.cells #[.string k, .int .i64 n, .slice a1 l1 c1, .slice a2 l2 c2] 63)).alloc (.cells #[.string k', .int .i64 n', .slice b1 m1 d1, .slice b2 m2 d2] 63)) := ((Below.refl _ _).alloc (Nat.le_refl _) _).alloc (by simp) _

theorem four_cells2 (w : World) {w1 : World} (k k' : ByteArray) (n n' : Int) (a1 a2 b1 b2 : Option Addr) (l1 l2 m1 m2 c1 c2 d1 d2 : Nat) (h : Below ((w.alloc (.cells #[.string k, .int .i64 n, .slice a1 l1 c1, .slice a2 l2 c2] 63)).alloc (.cells #[.string k', .int .i64 n', .slice b1 m1 d1, .slice b2 m2 d2] 63)).heap.size ((w.alloc (.cells #[.string k, .int .i64 n, .slice a1 l1 c1, .slice a2 l2 c2] 63)).alloc (.cells #[.string k', .int .i64 n', .slice b1 m1 d1, .slice b2 m2 d2] 63)) w1) :
    w1.cell? ⟨w.heap.size, 3, none⟩ = some (.slice a2 l2 c2) ∧ w1.cell? ⟨w.heap.size + 1, 3, none⟩ = some (.slice b2 m2 d2) := by
  have h1 := World.cell?_alloc_mark w #[.string k, .int .i64 n, .slice a1 l1 c1, .slice a2 l2 c2] 63 (0, 0) 3
  have h2 := World.cell?_alloc_mark (w.alloc (.cells #[.string k, .int .i64 n, .slice a1 l1 c1, .slice a2 l2 c2] 63)) #[.string k', .int .i64 n', .slice b1 m1 d1, .slice b2 m2 d2] 63 (0, 0) 3
  have e1 : (w.alloc (.cells #[.string k, .int .i64 n, .slice a1 l1 c1, .slice a2 l2 c2] 63)).heap.size = w.heap.size + 1 := by simp
  rw [e1] at h2
  refine ⟨(h.cell (p := ⟨w.heap.size, 3, none⟩) (by simp; omega)).trans ?_, (h.cell (p := ⟨w.heap.size + 1, 3, none⟩) (by simp)).trans h2⟩
  rw [World.cell?_alloc_lt _ _ _ (by simp)]
  exact h1

set_option maxRecDepth 100000 in
set_option maxHeartbeats 4000000 in
theorem sameItem_of (x y : Iv) (w : World) (hx : x.ok w) (hy : y.ok w) :
    Calls Tryz.prog 23 #[.agg #[.string x.it.key, .int .i64 x.it.spot, x.vw, x.vt], .agg #[.string y.it.key, .int .i64 y.it.spot, y.vw, y.vt]] w fun e w' => e = .returned (.bool (beI x.it y.it)) ∧ Below w.heap.size w w' := by
  obtain ⟨⟨k, n, ws, ts⟩, vw, vt⟩ := x
  obtain ⟨⟨k', n', ws', ts'⟩, vw', vt'⟩ := y
  obtain ⟨hw1, ht1, _⟩ := hx
  obtain ⟨hw2, ht2, _⟩ := hy
  simp only at hw1 ht1 hw2 ht2 ⊢
  have CW := Lib.hid (fun (W : World) (hb : Below w.heap.size w W) => ptrees_any (partsR ws) vw vw' ws ws' W (Nat.le_refl _) (hw1.below hb) (hw2.below hb))
  have CT := Lib.hid (fun (W : World) (hb : Below w.heap.size w W) => ptrees_any (partsR ts) vt vt' ts ts' W (Nat.le_refl _) (ht1.below hb) (ht2.below hb))
  obtain ⟨a1, c1, rfl, _⟩ := hw1
  obtain ⟨a2, c2, rfl, _⟩ := hw2
  obtain ⟨a3, c3, rfl, _⟩ := ht1
  obtain ⟨a4, c4, rfl, _⟩ := ht2
  have HB := Lib.hid (four_box w k k' n n' a1 a3 a2 a4 ws.length ts.length ws'.length ts'.length c1 c3 c2 c4)
  cases h1 : (k.toList == k'.toList) with
  | false =>
    have HQ := Lib.hid (beI_false (x := ⟨k, n, ws, ts⟩) (y := ⟨k', n', ws', ts'⟩) (fun e => by have := (bareI_head e).1; simp only at this; rw [this, (Lib.bytes_beq_iff _ _).2 rfl] at h1; cases h1))
    clear CW CT
    go_enter Tryz.func23, Tryz.ntmps23
    go_wp2_with fail
    go_ret
    exact ⟨ret_bool HQ.out.symm, HB.out⟩
  | true =>
    have K := Lib.hid ((Lib.bytes_beq_iff _ _).1 h1)
    cases hq : alR ws ws' with
    | false =>
      have HQ := Lib.hid (beI_false (x := ⟨k, n, ws, ts⟩) (y := ⟨k', n', ws', ts'⟩) (fun e => by have := (bareI_head e).2.1; rw [alR_true this] at hq; cases hq))
      rw [hq] at CW
      clear CT hq
      go_enter Tryz.func23, Tryz.ntmps23
      go_wp2_with fail
      refine (CW.out _ HB.out).mono ?_; rintro e w1 ⟨rfl, hb1⟩
      have HB1 := Lib.hid (below_next HB.out hb1)
      clear hb1
      go_wp2_with fail
      go_ret
      exact ⟨ret_bool HQ.out.symm, HB1.out⟩
    | true =>
      have HW := Lib.hid (alR_iff.1 hq)
      rw [hq] at CW
      obtain ⟨bb, hbb⟩ : ∃ bb, alR ts ts' = bb := ⟨_, rfl⟩
      have HQ : Hid (beI ⟨k, n, ws, ts⟩ ⟨k', n', ws', ts'⟩ = bb) := Lib.hid (by
        cases bb with
        | true => exact beI_true (bareI_of K.out HW.out (alR_iff.1 hbb))
        | false => exact beI_false (fun e => by have := (bareI_head e).2.2; rw [alR_true this] at hbb; cases hbb))
      rw [hbb] at CT
      clear hq hbb
      go_enter Tryz.func23, Tryz.ntmps23
      go_wp2_with fail
      refine (CW.out _ HB.out).mono ?_; rintro e w1 ⟨rfl, hb1⟩
      have k4 := (four_cells2 w k k' n n' a1 a3 a2 a4 ws.length ts.length ws'.length ts'.length c1 c3 c2 c4 hb1)
      obtain ⟨k1, k2⟩ := k4
      have HB1 := Lib.hid (below_next HB.out hb1)
      clear hb1
      go_wp2_with fail
      refine (CT.out _ HB1.out).mono ?_; rintro e w2 ⟨rfl, hb2⟩
      have HB2 := Lib.hid (below_next HB1.out hb2)
      clear hb2
      go_wp2_with fail
      go_ret
      exact ⟨ret_bool HQ.out.symm, HB2.out⟩

set_option maxRecDepth 100000 in
set_option maxHeartbeats 4000000 in
theorem pitems_any (va vb : Value) (xs ys : List It) (w : World) (hx : Its w va xs) (hy : Its w vb ys) :
    Calls Tryz.prog 22 #[va, vb, .func (.func 23) #[] #[]] w fun e w' => e = .returned (.bool (saI xs ys)) ∧ Below w.heap.size w w' := by
  obtain ⟨a, c, rfl, ⟨hal, _⟩, hxo⟩ := hx
  obtain ⟨a', c', rfl, ⟨hbl, _⟩, hyo⟩ := hy
  by_cases hlen : xs.length = ys.length
  · have hq : ((xs.length : Int) != (ys.length : Int)) = false := by rw [hlen]; simp
    have HXO := Lib.hid hxo
    have HYO := Lib.hid hyo
    have HLEN := Lib.hid hlen
    clear hxo hyo hlen
    go_enter Tryz.func22, Tryz.ntmps22
    go_wp2_with fail
    go_loopw [17] (fun i wr => ∃ j : Nat, j ≤ xs.length ∧ i = .int .i64 j ∧ Hid ((xs.take j).map It.bare = (ys.take j).map It.bare) ∧ Below w.heap.size w wr) (fun i _ => xs.length - (intOf i).toNat)
    case atStart => exact ⟨0, Nat.zero_le _, rfl, Lib.hid rfl, Below.refl _ _⟩
    case round =>
      obtain ⟨j, hj, rfl, HBE, hb⟩ := hrel
      have HB := Lib.hid hb
      by_cases hj1 : j < xs.length
      · have hj2 : j < ys.length := by have := HLEN.out; omega
        have hi1 : (j : Int) < (xs.length : Int) := by omega
        have hi2 : (j : Int) < (ys.length : Int) := by omega
        have hi0 : (0 : Int) ≤ (j : Int) := by omega
        rcases HXO.out with h | ⟨b, o, rfl, hlt, hX⟩
        · rw [h] at hj1; cases hj1
        rcases HYO.out with h | ⟨b', o', rfl, hlt', hY⟩
        · rw [h] at hj2; cases hj2
        obtain ⟨x, hxt, hxk, hxa⟩ := hX j hj1
        obtain ⟨y, hyt, hyk, hya⟩ := hY j hj2
        obtain ⟨m0, m1, m2, m3⟩ := hxa.below hb
        obtain ⟨k0, k1, k2, k3⟩ := hya.below hb
        have HXT := Lib.hid hxt
        have HYT := Lib.hid hyt
        have ST := Lib.hid (fun (V : World) (hV : Below wr.heap.size wr V) => sameItem_of x y V ((hxk.below hb).below hV) ((hyk.below hb).below hV))
        obtain ⟨ux, cx, e1, _⟩ := hxk.words
        obtain ⟨uy, cy, e2, _⟩ := hyk.words
        obtain ⟨tx, dx, e3, _⟩ := hxk.trees
        obtain ⟨ty, dy, e4, _⟩ := hyk.trees
        rw [e1, e2, e3, e4] at ST
        rw [e1] at m2; rw [e2] at k2; rw [e3] at m3; rw [e4] at k3
        have HV := Lib.hid (four_box wr x.it.key y.it.key x.it.spot y.it.spot ux tx uy ty x.it.words.length x.it.trees.length y.it.words.length y.it.trees.length cx dx cy dy)
        have C := ST.out _ HV.out
        have hbl1 : b' < wr.heap.size := Nat.lt_of_lt_of_le hlt' hb.size
        have hbl2 : b' < wr.heap.size + 1 := by omega
        obtain ⟨bb, hbb⟩ : ∃ bb, beI x.it y.it = bb := ⟨_, rfl⟩
        rw [hbb] at C
        have HBB := Lib.hid hbb
        replace C := Lib.hid C
        clear hxk hyk hxa hya hxt hyt hbb e1 e2 e3 e4 ST hX hY
        go_wp2_with fail
        refine C.out.mono ?_; rintro e w2 ⟨rfl, hb2⟩
        have HB2 := Lib.hid (below_next HB.out (below_next HV.out hb2))
        clear hb2
        cases bb with
        | true =>
          go_wp2_with fail
          go_roundw
          case rel =>
            have he : x.it.bare = y.it.bare := by
              have := HBB.out; unfold beI at this; simpa using this
            rw [HXT.out, HYT.out] at he
            exact ⟨j + 1, by omega, by go_num, Lib.hid (by rw [bareI_succ hj1, bareI_succ hj2, HBE.out, he]), HB2.out⟩
          case measure => simp [intOf]; omega
        | false =>
          have HF := Lib.hid (saI_false (xs := xs) (ys := ys) (fun e => by
            have h := bareI_at e hj1 hj2
            have := HBB.out
            rw [beI_true (by rw [HXT.out, HYT.out]; exact h)] at this
            cases this))
          go_wp2_with fail
          go_ret
          exact ⟨ret_bool HF.out.symm, HB2.out⟩
      · obtain rfl : j = xs.length := by omega
        have hi1 : decide ((xs.length : Int) < (xs.length : Int)) = false := decide_eq_false (by omega)
        have HT := Lib.hid (saI_true (xs := xs) (ys := ys) (by have h := HBE.out; rw [List.take_length, HLEN.out, List.take_length] at h; exact h))
        go_wp2_with fail
        go_ret
        exact ⟨ret_bool HT.out.symm, HB.out⟩
  · have hq : ((xs.length : Int) != (ys.length : Int)) = true := by simp; omega
    have HF := Lib.hid (saI_false (xs := xs) (ys := ys) (fun e => hlen (by have := congrArg List.length e; simpa using this)))
    clear hxo hyo hlen
    go_enter Tryz.func22, Tryz.ntmps22
    go_wp2_with fail
    go_ret
    exact ⟨ret_bool HF.out.symm, Below.refl _ _⟩

set_option maxRecDepth 100000 in
theorem psame_any (va vb : Value) (xs ys : List It) (w : World) (hx : Its w va xs) (hy : Its w vb ys) :
    Calls Tryz.prog 9 #[va, vb] w fun e w' => e = .returned (.bool (saI xs ys)) ∧ Below w.heap.size w w' := by
  have C := Lib.hid (pitems_any va vb xs ys w hx hy)
  obtain ⟨a, c, rfl, _, _⟩ := hx
  obtain ⟨a', c', rfl, _, _⟩ := hy
  obtain ⟨bb, hbb⟩ : ∃ bb, saI xs ys = bb := ⟨_, rfl⟩
  rw [hbb] at C ⊢
  clear hbb
  go_enter Tryz.func9, Tryz.ntmps9
  go_wp2_with fail
  refine C.out.mono ?_; rintro e w1 ⟨rfl, hb1⟩
  go_wp2_with fail
  go_ret
  exact ⟨rfl, hb1⟩
end Go.Proofs.YtldgbdmiebipnaaGreatDoor

namespace Go.Proofs.YtldgbdmiebipnaaGreatDoor
open Go.RowKit

theorem gramI_of (w : World) (hT : Tabs w) : GramI w where
  toGramA := gramA_of w hT
  show_ v xs W hb hv hx := by
    obtain ⟨s, _, rfl⟩ := hx
    obtain ⟨h1, h2, h3⟩ := items_small s
    exact pshows_any v _ W (Pow.below ⟨hT.pow, hT.size.1⟩ hb) hv h1 (items_most s) h3 h2 (items_wf s)
  same va vb xs ys W _ ha hb _ _ := psame_any va vb xs ys W ha hb
end Go.Proofs.YtldgbdmiebipnaaGreatDoor

namespace Go.Proofs.YtldgbdmiebipnaaGreatDoor
open Go.RowKit

theorem lawShows11_any (s s' : ByteArray) (w : World) (hT : Tabs w) :
    Calls Tryz.prog 3 #[.string s, .string s'] w fun e w' => e = .returned (.bool true) ∧ Below w.heap.size w w' :=
  lawShows11_of w (gramI_of w hT) s s'
end Go.Proofs.YtldgbdmiebipnaaGreatDoor
