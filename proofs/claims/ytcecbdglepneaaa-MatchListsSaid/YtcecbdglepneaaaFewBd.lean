/-
  Whether binds are few, and small, by the reference of layer 5: Few.
-/
import Derived.Test.YtcecbdglepneaaaBds
import Derived.Test.YtcecbdglepneaaaSmallTm
namespace Go.Proofs.Ytcecbdglepneaaa
open Go.RowKit

def bindB (x : Bn) : Bool := decide (x.1.size ≤ 100) && withinB x.2 100
def fewB (bs : List Bn) : Bool := decide (bs.length ≤ 40) && bs.all bindB
theorem few_of {bs : List Bn} (h : fewB bs = true) : bs.length ≤ 40 ∧ ∀ x ∈ bs, bindB x = true := by
  unfold fewB at h
  rw [Bool.and_eq_true, List.all_eq_true] at h
  exact ⟨by simpa using h.1, h.2⟩
def FewTo (bs : List Bn) (k : Nat) : Prop := ∀ (j : Nat) x, j < k → bs[j]? = some x → bindB x = true
theorem FewTo.succ {bs : List Bn} {k : Nat} {x : Bn} (h : FewTo bs k) (hx : bs[k]? = some x) (hb : bindB x = true) : FewTo bs (k + 1) := fun j y hj hy => by
  by_cases e : j = k
  · subst e; rw [hx] at hy; cases hy; exact hb
  · exact h j y (by omega) hy
theorem FewTo.all {bs : List Bn} (h : FewTo bs bs.length) (hl : bs.length ≤ 40) : fewB bs = true := by
  unfold fewB
  rw [decide_eq_true hl, Bool.true_and, List.all_eq_true]
  intro x hx
  obtain ⟨j, hj, rfl⟩ := List.getElem_of_mem hx
  exact h j _ hj (List.getElem?_eq_getElem hj)
theorem few_bad {bs : List Bn} {k : Nat} {x : Bn} (hx : bs[k]? = some x) (hb : bindB x = false) : fewB bs = false := by
  unfold fewB
  have : bs.all bindB = false := by
    rw [List.all_eq_false]
    exact ⟨x, List.mem_of_getElem? hx, by rw [hb]; simp⟩
  rw [this, Bool.and_false]
theorem few_long {bs : List Bn} (h : ¬ bs.length ≤ 40) : fewB bs = false := by unfold fewB; rw [decide_eq_false h, Bool.false_and]

set_option maxRecDepth 100000 in
set_option maxHeartbeats 2000000 in
theorem few_any (v : Value) (bs : List Bn) (w : World) (hv : Bds w v bs) :
    Calls Try.prog 8 #[v] w fun e w' => e = .returned (.bool (fewB bs)) ∧ Below w.heap.size w w' := by
  have WT := Lib.hid (fun (y : Tv) (W : World) (h : y.ok W) => within_tm y 100 (by omega) (by omega) W h)
  obtain ⟨a, c, rfl, hlm, hrow⟩ := hv
  rcases Int.lt_or_le 40 (bs.length : Int) with hl | hl
  · have hd : decide ((40 : Int) < (bs.length : Int)) = true := decide_eq_true hl
    have HF := Lib.hid (few_long (bs := bs) (by omega))
    clear hl hrow
    go_enter Try.func8, Try.ntmps8
    go_wp2_with fail
    go_ret
    exact ⟨ret_bool HF.out.symm, Below.refl _ _⟩
  · have hd : decide ((40 : Int) < (bs.length : Int)) = false := decide_eq_false (by omega)
    have HR := Lib.hid hrow
    clear hrow
    go_enter Try.func8, Try.ntmps8
    go_wp2_with fail
    go_loopw [10] (fun i wr => ∃ k : Nat, k ≤ bs.length ∧ i = .int .i64 k ∧ Hid (FewTo bs k) ∧ Below w.heap.size w wr) (fun i _ => bs.length - (intOf i).toNat)
    case atStart => exact ⟨0, Nat.zero_le _, rfl, Lib.hid (fun j x hj => by omega), Below.refl _ _⟩
    case round =>
      obtain ⟨k, hk, rfl, HN, hb⟩ := hrel
      by_cases hkl : k < bs.length
      · obtain ⟨b, o, rfl, hlt, hat⟩ := HR.out.resolve_left (by intro h; rw [h] at hkl; simp at hkl)
        obtain ⟨x, hx⟩ : ∃ x, bs[k]? = some x := ⟨_, List.getElem?_eq_getElem hkl⟩
        obtain ⟨y, hyx, hyo, hy⟩ := bdAt_bv (hat k x hx)
        obtain ⟨m0, m1, m2, m3, m4⟩ := hy.below hb
        have hL : Below wr.heap.size wr (wr.alloc (.cells #[.string y.s, .int .i64 y.v.t.kind, .string y.v.t.name, .int .i64 y.v.t.n, .slice y.v.a y.v.t.args.length y.v.c] 46)) := (Below.refl _ _).alloc (Nat.le_refl _) _
        have hbL := hb.trans (hL.mono hb.size)
        have W1 := Lib.hid (WT.out y.v _ (hyo.below hbL))
        obtain ⟨ys, ⟨yt, ya, yc⟩⟩ := y
        obtain rfl : (ys, yt) = x := hyx
        have HBL := Lib.hid hbL
        have HXX := Lib.hid hx
        have hk0 : (0 : Int) ≤ (k : Int) := by omega
        have hk1 : (k : Int) < (bs.length : Int) := by omega
        have hk40 : (k : Int) ≤ 40 := by omega
        simp only [Tv.val] at m0 m1 m2 m3 m4 W1
        clear hyo hy hat hx hL hbL
        rcases Int.lt_or_le 100 (ys.size : Int) with h1 | h1
        · have hd2 : decide ((100 : Int) < (ys.size : Int)) = true := decide_eq_true h1
          have HF := Lib.hid (few_bad HXX.out (show bindB (ys, yt) = false by unfold bindB; rw [decide_eq_false (by simp only; omega), Bool.false_and]))
          clear h1
          go_wp2_with fail
          go_ret
          exact ⟨ret_bool HF.out.symm, HBL.out⟩
        · have hd2 : decide ((100 : Int) < (ys.size : Int)) = false := decide_eq_false (by omega)
          obtain ⟨bw, hbw⟩ : ∃ bw, withinB yt 100 = bw := ⟨_, rfl⟩
          rw [hbw] at W1
          have hbb : bindB (ys, yt) = bw := by unfold bindB; rw [decide_eq_true (show ys.size ≤ 100 by omega), Bool.true_and]; exact hbw
          have HBB := Lib.hid hbb
          clear h1 hbw hbb
          go_wp2_with fail
          refine W1.out.mono ?_; rintro e w2 ⟨rfl, hb2⟩
          have HB2 := Lib.hid (below_next HBL.out hb2)
          clear hb2
          cases bw with
          | false =>
            have HF := Lib.hid (few_bad HXX.out HBB.out)
            go_wp2_with fail
            go_ret
            exact ⟨ret_bool HF.out.symm, HB2.out⟩
          | true =>
            have HNN := Lib.hid (HN.out.succ HXX.out HBB.out)
            go_wp2_with fail
            go_roundw
            case rel => exact ⟨k + 1, by omega, by go_num, HNN, HB2.out⟩
            case measure => simp [intOf]; omega
      · have hke : k = bs.length := by omega
        have hkd : decide ((k : Int) < (bs.length : Int)) = false := decide_eq_false (by omega)
        have hkl1 : bs.length ≤ k := by omega
        have HF := Lib.hid (show fewB bs = true from FewTo.all (by have h := HN.out; rw [hke] at h; exact h) (by omega))
        clear hke
        go_wp2_with fail
        go_ret
        exact ⟨ret_bool HF.out.symm, hb⟩
end Go.Proofs.Ytcecbdglepneaaa
