/-
  The example of chapter 2, walked: awake answers true.
-/
import Derived.Test.YtljkaaliagppdaaDoorLscan
import Derived.KernelRfl
namespace Go.Proofs.YtljkaaliagppdaaDoor
open Go.RowKit

def ex1 : ByteArray := ⟨#[102, 47, 50, 46]⟩
def ex2 : ByteArray := ⟨#[102, 40, 88, 41, 32, 38]⟩
theorem two_num : numCut 3 [50] 0 1 = some ⟨3, 2, 1⟩ := by
  have h : numOf [50] = some 2 := num_here (by omega) (by rw [Lib.decDigits_one (by omega)]; decide)
  unfold numCut
  rw [isNum_some h, numVal_some h]; rfl
theorem tok_f (r : List UInt8) (h : r = [47, 50, 46] ∨ r = [40, 88, 41, 32, 38]) : tokL (102 :: r) = some ⟨1, 0, 1⟩ := by
  rcases h with rfl | rfl <;> kernel_rfl
theorem tok_2 : tokL [50, 46] = some ⟨3, 2, 1⟩ := by
  rw [tokL_digit (l := [50, 46]) (by decide)]
  exact two_num
theorem tok_X : tokL [88, 41, 32, 38] = some ⟨2, 0, 1⟩ := by kernel_rfl
theorem ex1_toks : ∃ t0 t1 t2 t3 t4 : Tok, outToks ex1 = [t0, t1, t2, t3, t4] ∧ t0.kind = 1 ∧ t2.n = 2 ∧ t4.place = 4 ∧ outErr ex1 = 0 ∧ outAt ex1 = 0 := by
  have h0 := scan_start ex1
  have h1 := (scan_token h0 (by decide) (by decide) (by decide) (show tokL [102, 47, 50, 46] = some ⟨1, 0, 1⟩ from tok_f _ (.inl rfl))).1
  have h2 := (scan_token h1 (by decide) (by decide) (by decide) (show tokL [47, 50, 46] = some ⟨6, 0, 1⟩ from by kernel_rfl)).1
  have h3 := (scan_token h2 (by decide) (by decide) (by decide) (show tokL [50, 46] = some ⟨3, 2, 1⟩ from tok_2)).1
  have h4 := (scan_token h3 (by decide) (by decide) (by decide) (show tokL [46] = some ⟨6, 0, 1⟩ from by kernel_rfl)).1
  have h5 := scan_end h4 (by decide)
  obtain ⟨e1, e2, e3⟩ := out_good (by decide) h5
  exact ⟨_, _, _, _, _, e1, rfl, rfl, rfl, e2, e3⟩
theorem ex2_bad : outErr ex2 = 2 ∧ outAt ex2 = 5 := by
  have h0 := scan_start ex2
  have h1 := (scan_token h0 (by decide) (by decide) (by decide) (show tokL [102, 40, 88, 41, 32, 38] = some ⟨1, 0, 1⟩ from tok_f _ (.inr rfl))).1
  have h2 := (scan_token h1 (by decide) (by decide) (by decide) (show tokL [40, 88, 41, 32, 38] = some ⟨6, 0, 1⟩ from by kernel_rfl)).1
  have h3 := (scan_token h2 (by decide) (by decide) (by decide) (show tokL [88, 41, 32, 38] = some ⟨2, 0, 1⟩ from tok_X)).1
  have h4 := (scan_token h3 (by decide) (by decide) (by decide) (show tokL [41, 32, 38] = some ⟨6, 0, 1⟩ from by kernel_rfl)).1
  have h5 := scan_space h4 (by decide) (by decide)
  have h6 := scan_bad h5 (by decide) (by decide) (by decide) (show tokL [38] = none from by kernel_rfl)
  obtain ⟨_, e2, e3⟩ := out_bad (by decide) h6
  exact ⟨e2, e3⟩

set_option maxRecDepth 100000 in
set_option maxHeartbeats 1000000 in
theorem awake_any (w : World) (hT : Tabs w) :
    Calls Tryd.prog 7 #[] w fun e w' => e = .returned (.bool true) ∧ Below w.heap.size w w' := by
  have S1 := Lib.hid (lscan_any ex1 (by decide) w hT)
  have S2 := Lib.hid (fun w hT => lscan_any ex2 (by decide) w hT)
  have HT := Lib.hid hT
  have HX := Lib.hid ex1_toks
  have HB := Lib.hid ex2_bad
  clear hT
  go_enter Tryd.func7, Tryd.ntmps7
  go_wp2_with fail
  refine S1.out.mono ?_; rintro e w1 ⟨v1, rfl, hv1, hb1⟩
  obtain ⟨t0, t1, t2, t3, t4, ht, hk, hn, hp, he, ha⟩ := HX.out
  rw [he, ha]
  rw [ht] at hv1
  have V1 := Lib.hid hv1
  clear hv1 ht he ha
  go_wp2_with fail
  refine (S2.out _ (HT.out.below (hb1.alloc hb1.size _))).mono ?_; rintro e w2 ⟨v2, rfl, _, hb2⟩
  rw [HB.out.1, HB.out.2]
  have V2 := Lib.hid ((V1.out.below ((Below.refl _ _).alloc (Nat.le_refl _) _)).below hb2)
  have P1 := (pair_new w1 (.int .i64 0) (.int .i64 0) 26).below hb2 (by simp)
  have hb := hb1.trans (below_box hb2 |>.mono hb1.size)
  have hz1 : w1.heap.size < w2.heap.size := by have := hb2.size; simp at this; omega
  clear hb1 hb2 V1
  obtain ⟨a, c, hv, _, hh⟩ := V2.out
  subst hv
  rcases hh with hh | ⟨b, off, rfl, hlt, hc⟩
  · cases hh
  have d0 : w2.cell? ⟨b, off, none⟩ = some (.int .i64 1) := by have := (hc 0 (by simp)).c0; simpa [hk] using this
  have d2 : w2.cell? ⟨b, off + 8 + 2, none⟩ = some (.int .i64 2) := by have := (hc 2 (by simp)).c2; simpa [hn] using this
  have d2' : w2.cell? ⟨b, off + 10, none⟩ = some (.int .i64 2) := d2
  have d4 : w2.cell? ⟨b, off + 16 + 3, none⟩ = some (.int .i64 4) := by have := (hc 4 (by simp)).c3; simpa [hp] using this
  have d4' : w2.cell? ⟨b, off + 19, none⟩ = some (.int .i64 4) := d4
  obtain ⟨p0, p1, _, _⟩ := P1
  clear hc hk hn hp
  go_wp2_with fail
  go_ret
  exact ⟨rfl, hb.alloc hb.size _⟩
end Go.Proofs.YtljkaaliagppdaaDoor
