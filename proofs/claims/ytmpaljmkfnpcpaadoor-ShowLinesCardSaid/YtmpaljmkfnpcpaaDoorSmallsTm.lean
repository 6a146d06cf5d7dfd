/-
  Few terms, all small, by the reference of layer 3: Smalls.
-/
import Derived.Test.YtmpaljmkfnpcpaaDoorSmallTm
namespace Go.Proofs.YtmpaljmkfnpcpaaDoor
open Go.RowKit

/-- Few terms, all small. -/
def smallsB (ts : List Tm) : Bool := decide (ts.length ≤ 60) && ts.all smallB
theorem smalls_of {ts : List Tm} (h : smallsB ts = true) : ts.length ≤ 60 ∧ ∀ t ∈ ts, smallB t = true := by
  unfold smallsB at h; rw [Bool.and_eq_true, decide_eq_true_eq, List.all_eq_true] at h; exact h
def SmallTo (ts : List Tm) (k : Nat) : Prop := ∀ j (h : j < ts.length), j < k → smallB ts[j] = true
theorem SmallTo.succ {ts : List Tm} {k : Nat} (h : SmallTo ts k) (hk : k < ts.length) (hs : smallB ts[k] = true) : SmallTo ts (k + 1) := by
  intro j hj hjk
  by_cases e : j = k
  · subst e; exact hs
  · exact h j hj (by omega)
theorem SmallTo.all {ts : List Tm} (h : SmallTo ts ts.length) (hl : ts.length ≤ 60) : smallsB ts = true := by
  unfold smallsB; rw [decide_eq_true hl, Bool.true_and, List.all_eq_true]
  intro t ht
  obtain ⟨j, hj, rfl⟩ := List.getElem_of_mem ht
  exact h j hj hj
theorem smalls_bad {ts : List Tm} {k : Nat} (hk : k < ts.length) (h : smallB ts[k] = false) : smallsB ts = false := by
  unfold smallsB; rw [Bool.and_eq_false_iff]; right
  rw [← Bool.not_eq_true, List.all_eq_true]; intro hall
  rw [hall _ (List.getElem_mem hk)] at h; cases h
theorem smalls_long {ts : List Tm} (h : ¬ ts.length ≤ 60) : smallsB ts = false := by unfold smallsB; rw [decide_eq_false h, Bool.false_and]

set_option maxRecDepth 100000 in
set_option maxHeartbeats 1000000 in
theorem smalls_tm (v : Value) (ts : List Tm) (w : World) (hv : Tms w v ts) :
    Calls Tryd.prog 6 #[v] w fun e w' => e = .returned (.bool (smallsB ts)) ∧ Below w.heap.size w w' := by
  obtain ⟨a, c, rfl, hl, h⟩ := hv.open_
  clear hv
  by_cases hlen : ts.length ≤ 60
  · rcases h with rfl | ⟨b, off, rfl, hlt, hc⟩
    · go_enter Tryd.func6, Tryd.ntmps6
      go_wp2
      refine wp_loop_rounds 1 ?_; rw [rounds_succ]
      go_wp2
      go_ret
      exact ⟨rfl, Below.refl _ _⟩
    · have HC := Lib.hid hc
      have S := Lib.hid (fun x w hx => small_tm x w hx)
      clear hc
      go_enter Tryd.func6, Tryd.ntmps6
      go_wp2
      go_loopw [10] (fun i wr => ∃ k : Nat, k ≤ ts.length ∧ i = .int .i64 k ∧ SmallTo ts k ∧ Below w.heap.size w wr) (fun i _ => ts.length - (intOf i).toNat)
      case atStart => exact ⟨0, Nat.zero_le _, rfl, (fun j hj hk => by omega), Below.refl _ _⟩
      case round =>
        obtain ⟨k, hk, rfl, hsh, hb⟩ := hrel
        have HS := Lib.hid hsh
        clear hsh
        by_cases hkl : k < ts.length
        · have hi : (k : Int) < (ts.length : Int) := by omega
          obtain ⟨u, hu, huk, hat⟩ := HC.out k hkl
          obtain ⟨d0, d1, d2, d3⟩ := hat.below hb
          have C := Lib.hid (S.out u (wr.alloc (.cells #[.int .i64 u.t.kind, .string u.t.name, .int .i64 u.t.n, .slice u.a u.t.args.length u.c] 26)) ((huk.below hb).below ((Below.refl _ _).alloc (Nat.le_refl _) _)))
          have HU := Lib.hid hu
          simp only [Tv.val] at C
          clear huk hat hu
          cases hs : smallB u.t with
          | true =>
            rw [hs] at C
            have HN := Lib.hid (show smallB ts[k] = true from by rw [← HU.out]; exact hs)
            clear hs
            go_wp2_with fail
            refine C.out.mono ?_; rintro e w1 ⟨rfl, hb1⟩
            go_wp2_with fail
            go_roundw
            case rel => exact ⟨k + 1, by omega, by go_num, HS.out.succ hkl HN.out, below_next (hb.alloc hb.size _) hb1⟩
            case measure => simp [intOf]; omega
          | false =>
            rw [hs] at C
            have HN := Lib.hid (show smallB ts[k] = false from by rw [← HU.out]; exact hs)
            clear hs
            go_wp2_with fail
            refine C.out.mono ?_; rintro e w1 ⟨rfl, hb1⟩
            go_wp2_with fail
            go_ret
            exact ⟨ret_bool (smalls_bad hkl HN.out).symm, below_next (hb.alloc hb.size _) hb1⟩
        · obtain rfl : k = ts.length := by omega
          go_wp2
          go_ret
          exact ⟨ret_bool (HS.out.all hlen).symm, hb⟩
  · have hi : ¬ ((ts.length : Int) ≤ 60) := by omega
    go_enter Tryd.func6, Tryd.ntmps6
    go_wp2
    go_ret
    exact ⟨ret_bool (smalls_long hlen).symm, Below.refl _ _⟩

end Go.Proofs.YtmpaljmkfnpcpaaDoor
