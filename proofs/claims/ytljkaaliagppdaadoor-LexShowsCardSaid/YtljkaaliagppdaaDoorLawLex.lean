/-
  The four laws of layer 2, walked: each answers true, for all values of its arguments, and makes new memory alone.
-/
import Derived.Test.YtljkaaliagppdaaDoorAwake
import Derived.Test.YtljkaaliagppdaaDoorBack
import Derived.Test.YtljkaaliagppdaaDoorPlace
import Derived.Test.YtljkaaliagppdaaDoorSame
namespace Go.Proofs.YtljkaaliagppdaaDoor
open Go.RowKit

set_option maxHeartbeats 400000 in
theorem lawPlaces (s : ByteArray) (p : Int) (_h0 : -9223372036854775808 ≤ p) (_h1 : p ≤ 9223372036854775807) (w : World) (hT : Tabs w) :
    Calls Tryd.prog 6 #[.string s, .int .i64 p] w fun e w' => e = .returned (.bool true) ∧ Below w.heap.size w w' := by
  have A := Lib.hid (awake_any w hT)
  clear hT
  by_cases hs : s.size ≤ 3000
  · have P1 := Lib.hid (fun w => lplace_any s p (by omega) w)
    have P2 := Lib.hid (fun w => rplace_any s p (by omega) w)
    have hE : placeEnd s (cutAt s p) = .returned (.tuple #[.int .i64 (lineOf s (cutAt s p)), .int .i64 (colOf s (cutAt s p))]) := rfl
    generalize lineOf s (cutAt s p) = l at hE
    generalize colOf s (cutAt s p) = c at hE
    have E := Lib.hid hE
    clear hE
    have hl : (l == l) = true := by simp
    have hc : (c == c) = true := by simp
    go_enter Tryd.func6, Tryd.ntmps6
    go_wp2_with fail
    refine A.out.mono ?_; rintro e w1 ⟨rfl, hb1⟩
    go_wp2_with fail
    refine (P1.out _).mono ?_; rintro e w2 ⟨rfl, rfl⟩; rw [E.out]
    go_wp2_with fail
    refine (P2.out _).mono ?_; rintro e w2 ⟨rfl, rfl⟩; rw [E.out]
    go_wp2_with fail
    go_ret
    exact ⟨rfl, hb1⟩
  · go_enter Tryd.func6, Tryd.ntmps6
    go_wp2_with fail
    refine A.out.mono ?_; rintro e w1 ⟨rfl, hb1⟩
    go_wp2_with fail
    go_ret
    exact ⟨rfl, hb1⟩

theorem eq_fault (e a : Int) (w : World) : (binOp .eql 26 (.agg #[.int .i64 e, .int .i64 a]) (.agg #[.int .i64 e, .int .i64 a])).run Tryd.prog w = .ok (.bool true) w := by
  have u3 := Tryd.underlying3
  have a3 := Tryd.isAgg3
  have z3 := Tryd.sizeOf3
  have u9 := Tryd.underlying24
  have a9 := Tryd.isAgg24
  have z9 := Tryd.sizeOf24
  have hS : Tryd.prog.underlying 26 = some (.struct (Tryd.prog.fieldsOf 26)) := by kernel_rfl
  have hp : Tryd.prog.stoodInHeld 26 = false := by kernel_rfl
  rw [run_eql_struct, show (10000 : Nat) = 9999 + 1 from rfl, run_equalIn_agg w 9999 26 _ _ hS hp]
  simp only [Program.fieldsOf, Tryd.underlying26]
  go_simp
theorem guard_fault (op : BinOp) (x y : Operand) (e a : Int) (w : World) : (eqGuard op 26 x y (.agg #[.int .i64 e, .int .i64 a]) (.agg #[.int .i64 e, .int .i64 a])).run Tryd.prog w = .ok () w :=
  run_eqGuard_agg w op _ x y _ _ (by kernel_rfl)

set_option maxHeartbeats 1000000 in
theorem lawScans (s : ByteArray) (w : World) (hT : Tabs w) :
    Calls Tryd.prog 3 #[.string s] w fun e w' => e = .returned (.bool true) ∧ Below w.heap.size w w' := by
  have A := Lib.hid (awake_any w hT)
  have HT := Lib.hid hT
  clear hT
  by_cases hs : s.size ≤ 10000
  · have L := Lib.hid (fun w hT => lscan_any s (by omega) w hT)
    have R := Lib.hid (fun w => rscan_any s (by omega) w)
    have T := Lib.hid (fun v u ts us w hv hu => tokens_any v u ts us w hv hu)
    go_enter Tryd.func3, Tryd.ntmps3
    go_wp2_with fail
    refine A.out.mono ?_; rintro e w1 ⟨rfl, hb1⟩
    go_wp2_with fail
    refine (L.out _ (HT.out.below hb1)).mono ?_; rintro e w2 ⟨v1, rfl, hv1, hb2⟩
    replace hb1 := hb1.trans (hb2.mono hb1.size)
    have V1 := Lib.hid hv1
    clear hv1 hb2
    go_wp2_with fail
    refine (R.out _).mono ?_; rintro e w3 ⟨v2, rfl, hv2, hb2⟩
    have hz : w2.heap.size < w3.heap.size := by have := hb2.size; simp at this; omega
    obtain ⟨c0, c1, f0, f1⟩ := (pair_new w2 _ _ _).below hb2 (by simp)
    have hv1 := (V1.out.below ((Below.refl _ _).alloc (Nat.le_refl _) _)).below hb2
    replace hb1 := hb1.trans ((below_box hb2).mono hb1.size)
    have TT := Lib.hid (T.out _ _ _ _ (w3.alloc (.cells #[.int .i64 (outErr s), .int .i64 (outAt s)] 26)) (hv1.below ((Below.refl _ _).alloc (Nat.le_refl _) _)) (hv2.below ((Below.refl _ _).alloc (Nat.le_refl _) _)))
    rw [alike_self] at TT
    clear V1 hv1 hv2 hb2
    have hq := eq_fault (outErr s) (outAt s)
    have hgd := fun op a b => guard_fault op a b (outErr s) (outAt s)
    generalize outErr s = er at *
    generalize outAt s = pl at *
    go_wp2_with fail
    refine TT.out.mono ?_; rintro e w4 ⟨rfl, hb2⟩
    go_wp2_with fail
    go_ret
    exact ⟨rfl, (hb1.alloc hb1.size _).trans (hb2.mono (by have := hb1.size; simp; omega))⟩
  · go_enter Tryd.func3, Tryd.ntmps3
    go_wp2_with fail
    refine A.out.mono ?_; rintro e w1 ⟨rfl, hb1⟩
    go_wp2_with fail
    go_ret
    exact ⟨rfl, hb1⟩

theorem few_total {ts : List Tok} (h : fewB ts = true) : ts.length ≤ 200 ∧ total ts ≤ 60200 := by
  unfold fewB at h
  rw [Bool.and_eq_true, decide_eq_true_eq, List.all_eq_true] at h
  obtain ⟨h1, h2⟩ := h
  have key : ∀ l : List Tok, (∀ t ∈ l, short t = true) → total l ≤ l.length * 301 := by
    intro l
    induction l with
    | nil => intro _; exact Nat.le_refl _
    | cons t r ih =>
      intro hg
      have h3 := ih (fun x hx => hg x (List.mem_cons_of_mem _ hx))
      have h4 := hg t (List.mem_cons_self ..)
      unfold short at h4
      rw [decide_eq_true_eq] at h4
      rw [total_cons, List.length_cons]; omega
  have := key ts h2
  exact ⟨h1, by omega⟩
/-- Two memories, one behind the other. -/
theorem below_next {w w1 w2 : World} (h : Below w.heap.size w w1) (h2 : Below w1.heap.size w1 w2) : Below w.heap.size w w2 := h.trans (h2.mono h.size)

set_option maxHeartbeats 1000000 in
theorem lawShows (v u : Value) (ts us : List Tok) (w : World) (hv : Toks w v ts) (hu : Toks w u us) (hT : Tabs w) :
    Calls Tryd.prog 5 #[v, u] w fun e w' => e = .returned (.bool true) ∧ Below w.heap.size w w' := by
  have A := Lib.hid (awake_any w hT)
  have V := Lib.hid hv
  have U := Lib.hid hu
  have F1 := Lib.hid (fun w hv => few_any v ts w hv)
  have F2 := Lib.hid (fun w hu => few_any u us w hu)
  clear hT hv hu
  cases hf1 : fewB ts with
  | false =>
    rw [hf1] at F1
    clear hf1
    go_enter Tryd.func5, Tryd.ntmps5
    go_wp2_with fail
    refine A.out.mono ?_; rintro e w1 ⟨rfl, hb1⟩
    go_wp2_with fail
    refine (F1.out _ (V.out.below hb1)).mono ?_; rintro e w2 ⟨rfl, hb2⟩
    replace hb1 := below_next hb1 hb2
    clear hb2
    go_wp2_with fail
    go_ret
    exact ⟨rfl, hb1⟩
  | true =>
    obtain ⟨hl1, ht1⟩ := few_total hf1
    rw [hf1] at F1
    clear hf1
    cases hf2 : fewB us with
    | false =>
      rw [hf2] at F2
      clear hf2
      go_enter Tryd.func5, Tryd.ntmps5
      go_wp2_with fail
      refine A.out.mono ?_; rintro e w1 ⟨rfl, hb1⟩
      go_wp2_with fail
      refine (F1.out _ (V.out.below hb1)).mono ?_; rintro e w2 ⟨rfl, hb2⟩
      replace hb1 := below_next hb1 hb2
      clear hb2
      go_wp2_with fail
      refine (F2.out _ (U.out.below hb1)).mono ?_; rintro e w2 ⟨rfl, hb2⟩
      replace hb1 := below_next hb1 hb2
      clear hb2
      go_wp2_with fail
      go_ret
      exact ⟨rfl, hb1⟩
    | true =>
      obtain ⟨hl2, ht2⟩ := few_total hf2
      rw [hf2] at F2
      clear hf2
      have RP1 := Lib.hid (fun w hv => rplain_any v ts w hv (by omega))
      have RP2 := Lib.hid (fun w hu => rplain_any u us w hu (by omega))
      have LP1 := Lib.hid (fun w hv => lplain_any v ts w hv (by omega))
      have TA := Lib.hid (fun v u ts us w hv hu => tokens_any v u ts us w hv hu)
      have S1 := Lib.hid (fun w hv => lshow_any v ts w hv (by omega))
      have S2 := Lib.hid (fun w hv => rshow_any v ts w hv (by omega))
      have SM := Lib.hid (fun w hv hu => same_any v u ts us w hv hu (by omega) (by omega))
      obtain ⟨z, hz⟩ : ∃ z, z = alike (ts.map Tok.plain) (us.map Tok.plain) := ⟨_, rfl⟩
      have HZ := Lib.hid hz
      rw [← hz] at SM
      clear hz
      have hzz : (z == z) = true := by simp
      have hsh : ((⟨(sh ts).toArray⟩ : ByteArray).toList == (⟨(sh ts).toArray⟩ : ByteArray).toList) = true := by simp
      generalize (⟨(sh ts).toArray⟩ : ByteArray) = str at S1 S2 hsh
      go_enter Tryd.func5, Tryd.ntmps5
      go_wp2_with fail
      refine A.out.mono ?_; rintro e w1 ⟨rfl, hb1⟩
      go_wp2_with fail
      refine (F1.out _ (V.out.below hb1)).mono ?_; rintro e w2 ⟨rfl, hb2⟩
      replace hb1 := below_next hb1 hb2
      clear hb2
      go_wp2_with fail
      refine (F2.out _ (U.out.below hb1)).mono ?_; rintro e w3 ⟨rfl, hb2⟩
      replace hb1 := below_next hb1 hb2
      clear hb2
      go_wp2_with fail
      refine (RP1.out _ (V.out.below hb1)).mono ?_; rintro e w4 ⟨v1, rfl, hv1, hb2⟩
      replace hb1 := below_next hb1 hb2
      have V1 := Lib.hid hv1
      clear hb2 hv1
      go_wp2_with fail
      refine (RP2.out _ (U.out.below hb1)).mono ?_; rintro e w5 ⟨v2, rfl, hv2, hb2⟩
      replace hb1 := below_next hb1 hb2
      have T1 := Lib.hid (TA.out _ _ _ _ _ (V1.out.below hb2) hv2)
      rw [← HZ.out] at T1
      clear hb2 hv2 V1
      go_wp2_with fail
      refine T1.out.mono ?_; rintro e w6 ⟨rfl, hb2⟩
      replace hb1 := below_next hb1 hb2
      clear hb2 T1
      go_wp2_with fail
      refine (S1.out _ (V.out.below hb1)).mono ?_; rintro e w7 ⟨rfl, hb2⟩
      replace hb1 := below_next hb1 hb2
      clear hb2
      go_wp2_with fail
      refine (S2.out _ (V.out.below hb1)).mono ?_; rintro e w8 ⟨rfl, hb2⟩
      replace hb1 := below_next hb1 hb2
      clear hb2
      go_wp2_with fail
      refine (LP1.out _ (V.out.below hb1)).mono ?_; rintro e w9 ⟨v3, rfl, hv3, hb2⟩
      replace hb1 := below_next hb1 hb2
      have V3 := Lib.hid hv3
      clear hb2 hv3
      go_wp2_with fail
      refine (RP1.out _ (V.out.below hb1)).mono ?_; rintro e w10 ⟨v4, rfl, hv4, hb2⟩
      replace hb1 := below_next hb1 hb2
      have T2 := Lib.hid (TA.out _ _ _ _ _ (V3.out.below hb2) hv4)
      rw [alike_self] at T2
      clear hb2 hv4 V3
      go_wp2_with fail
      refine T2.out.mono ?_; rintro e w11 ⟨rfl, hb2⟩
      replace hb1 := below_next hb1 hb2
      clear hb2 T2
      go_wp2_with fail
      refine (SM.out _ (V.out.below hb1) (U.out.below hb1)).mono ?_; rintro e w12 ⟨rfl, hb2⟩
      replace hb1 := below_next hb1 hb2
      clear hb2
      go_wp2_with fail
      go_ret
      exact ⟨rfl, hb1⟩

theorem toks_nil {w : World} {v : Value} (h : Toks w v []) : ∃ a c, v = .slice a 0 c := by
  obtain ⟨a, c, hv, _⟩ := h
  exact ⟨a, c, hv⟩

set_option maxHeartbeats 1000000 in
theorem lawBack (s : ByteArray) (w : World) (hT : Tabs w) :
    Calls Tryd.prog 4 #[.string s] w fun e w' => e = .returned (.bool true) ∧ Below w.heap.size w w' := by
  have A := Lib.hid (awake_any w hT)
  have HT := Lib.hid hT
  clear hT
  by_cases hs : s.size ≤ 4000
  · have L := Lib.hid (fun s (hs : s.size ≤ 1000000) w hT => lscan_any s hs w hT)
    cases hsc : scanS s with
    | inl i =>
      obtain ⟨e1, e2, e3⟩ := out_bad (by omega) hsc
      have E := Lib.hid (And.intro e1 (And.intro e2 e3))
      clear hsc e1 e2 e3
      go_enter Tryd.func4, Tryd.ntmps4
      go_wp2_with fail
      refine A.out.mono ?_; rintro e w1 ⟨rfl, hb1⟩
      go_wp2_with fail
      refine (L.out s (by omega) _ (HT.out.below hb1)).mono ?_; rintro e w2 ⟨v1, rfl, hv1, hb2⟩
      replace hb1 := below_next hb1 hb2
      rw [E.out.1] at hv1
      rw [E.out.2.1, E.out.2.2]
      obtain ⟨a, c, rfl⟩ := toks_nil hv1
      clear hv1 hb2
      go_wp2_with fail
      go_ret
      exact ⟨rfl, hb1.alloc hb1.size _⟩
    | inr ts =>
      obtain ⟨htot, us, hus, hpl, hsz⟩ := there_and_back hs hsc
      obtain ⟨e1, e2, e3⟩ := out_good (by omega) hsc
      obtain ⟨g1, g2, g3⟩ := out_good hsz hus
      have E := Lib.hid (And.intro e1 (And.intro e2 e3))
      have G := Lib.hid (And.intro g1 (And.intro g2 g3))
      have htl := total_length ts
      have hul : us.length ≤ 8001 := by
        have := congrArg List.length hpl
        rw [List.length_map, List.length_map] at this; omega
      have HP := Lib.hid hpl
      have TA := Lib.hid (fun v u ts us w hv hu => tokens_any v u ts us w hv hu)
      have SH := Lib.hid (fun v w hv => lshow_any v ts w hv (by omega))
      have SM := Lib.hid (fun v u w hv hu => same_any v u ts us w hv hu (by omega) (by omega))
      have RP1 := Lib.hid (fun v w hv => rplain_any v ts w hv (by omega))
      have RP2 := Lib.hid (fun v w hv => rplain_any v us w hv (by omega))
      rw [hpl, alike_self] at SM
      rw [hpl] at RP2
      have HB : Hid ((⟨(sh ts).toArray⟩ : ByteArray) = bs (sh ts)) := Lib.hid rfl
      have L2 := Lib.hid (fun w hT => L.out (bs (sh ts)) (by omega) w hT)
      generalize bs (sh ts) = str at *
      clear hsc e1 e2 e3 g1 g2 g3 hus hpl
      go_enter Tryd.func4, Tryd.ntmps4
      go_wp2_with fail
      refine A.out.mono ?_; rintro e w1 ⟨rfl, hb1⟩
      go_wp2_with fail
      refine (L.out s (by omega) _ (HT.out.below hb1)).mono ?_; rintro e w2 ⟨v1, rfl, hv1, hb2⟩
      replace hb1 := below_next hb1 hb2
      rw [E.out.1] at hv1
      rw [E.out.2.1, E.out.2.2]
      have hb1' := hb1.alloc hb1.size (.cells #[.int .i64 0, .int .i64 0] 26)
      have V1 := Lib.hid (hv1.below ((Below.refl _ _).alloc (Nat.le_refl _) (.cells #[.int .i64 0, .int .i64 0] 26)))
      clear hv1 hb2 hb1
      go_wp2_with fail
      refine (SH.out _ _ V1.out).mono ?_; rintro e w3 ⟨rfl, hb2⟩
      have V2 := Lib.hid (V1.out.below hb2)
      have hb3 := below_next hb1' hb2
      clear V1 hb1' hb2
      go_wp2_with fail
      rw [HB.out]
      refine (L2.out _ (HT.out.below hb3)).mono ?_; rintro e w4 ⟨v2, rfl, hv2, hb2⟩
      rw [G.out.1] at hv2
      rw [G.out.2.1, G.out.2.2]
      have hb4 := below_next hb3 hb2
      have hb5 := hb4.alloc hb4.size (.cells #[.int .i64 0, .int .i64 0] 26)
      have V3 := Lib.hid ((V2.out.below hb2).below ((Below.refl _ _).alloc (Nat.le_refl _) (.cells #[.int .i64 0, .int .i64 0] 26)))
      have U3 := Lib.hid (hv2.below ((Below.refl _ _).alloc (Nat.le_refl _) (.cells #[.int .i64 0, .int .i64 0] 26)))
      clear hv2 hb2 hb3 hb4 V2
      go_wp2_with fail
      refine (SM.out _ _ _ V3.out U3.out).mono ?_; rintro e w5 ⟨rfl, hb2⟩
      have V4 := Lib.hid (V3.out.below hb2)
      have U4 := Lib.hid (U3.out.below hb2)
      have hb6 := below_next hb5 hb2
      clear V3 U3 hb5 hb2
      go_wp2_with fail
      refine (RP1.out _ _ V4.out).mono ?_; rintro e w6 ⟨v5, rfl, hv5, hb2⟩
      have X5 := Lib.hid hv5
      have U5 := Lib.hid (U4.out.below hb2)
      have hb7 := below_next hb6 hb2
      clear V4 U4 hv5 hb6 hb2
      go_wp2_with fail
      refine (RP2.out _ _ U5.out).mono ?_; rintro e w7 ⟨v6, rfl, hv6, hb2⟩
      have T := Lib.hid (TA.out _ _ _ _ _ (X5.out.below hb2) hv6)
      rw [alike_self] at T
      have hb8 := below_next hb7 hb2
      clear X5 U5 hv6 hb7 hb2
      go_wp2_with fail
      refine T.out.mono ?_; rintro e w8 ⟨rfl, hb2⟩
      go_wp2_with fail
      go_ret
      exact ⟨rfl, below_next hb8 hb2⟩
  · go_enter Tryd.func4, Tryd.ntmps4
    go_wp2_with fail
    refine A.out.mono ?_; rintro e w1 ⟨rfl, hb1⟩
    go_wp2_with fail
    go_ret
    exact ⟨rfl, hb1⟩
end Go.Proofs.YtljkaaliagppdaaDoor
