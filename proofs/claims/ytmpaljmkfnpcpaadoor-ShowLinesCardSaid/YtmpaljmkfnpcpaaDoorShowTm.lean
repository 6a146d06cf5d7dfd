/-
  A term as a text, by the reference of layer 3: Show, for any term in memory that is not too long.
-/
import Derived.Test.YtmpaljmkfnpcpaaDoorShowPu
import Derived.Test.YtmpaljmkfnpcpaaDoorAllPu
import Derived.Test.YtmpaljmkfnpcpaaDoorRdigits
import Derived.Lib.Join
import Derived.Laws.Concat
namespace Go.Proofs.YtmpaljmkfnpcpaaDoor
open Go.RowKit

set_option maxRecDepth 100000 in
set_option maxHeartbeats 4000000 in
theorem show_tm (m : Nat) : ∀ (x : Tv) (w : World), x.t.parts ≤ m → wtT x.t ≤ 100000000 → x.ok w →
    Calls Tryd.prog 27 #[x.val] w (ShowPost x.t w) := by
  induction m with
  | zero => intro x w h; have := parts_pos x.t; omega
  | succ m ih =>
    intro x w hm hwt hx
    obtain ⟨⟨k, s, n, xs⟩, a, c⟩ := x
    obtain ⟨hfit, hxl, hxr⟩ := hx
    have hE : showT (.mk k s n xs) = if k = 1 ∨ k = 2 then s.data.toList else if k = 3 then 36 :: Lib.itoa n else if k = 4 then 37 :: Lib.itoa n else if k ≠ 5 then [63] else s.data.toList ++ pre (showsL xs) ++ close (showsL xs) := by rw [showT]
    have hW : wtT (.mk k s n xs) = s.size + 30 + wtL xs := by rw [wtT]
    simp only [Tv.val, Tm.kind, Tm.name, Tm.n, Tm.args] at hfit hxl hxr hm hwt ⊢
    have hpl : ∀ j (h : j < xs.length), xs[j].parts ≤ m := fun j h => by
      have := parts_arg (.mk k s n xs) (j := j) h
      have e : (Tm.mk k s n xs).args[j] = xs[j] := rfl
      rw [e] at this; omega
    have hil := Lib.itoa_length_le n hfit.nlo hfit.nhi
    have D := Lib.hid (fun w => rdigits_any n hfit.nlo hfit.nhi w)
    have hss : s.data.toList.length = s.size := by simp
    have hbb : Below w.heap.size w (w.alloc (.cells #[.int .i64 k, .string s, .int .i64 n, .slice a xs.length c] 26)) := (Below.refl _ _).alloc (Nat.le_refl _) _
    have IH := Lib.hid ih
    have HP := Lib.hid hpl
    clear ih hpl hm hfit
    by_cases h12 : k = 1 ∨ k = 2
    · have hr := Lib.hid (show showT (.mk k s n xs) = s.data.toList from by rw [hE, if_pos h12])
      have HW := Lib.hid (show (showT (.mk k s n xs)).length + 4 ≤ wtT (.mk k s n xs) from by rw [hr.out, hss, hW]; omega)
      clear hE hW hss
      rcases h12 with rfl | rfl
      all_goals
        go_enter Tryd.func27, Tryd.ntmps27
        go_wp2_with fail
        go_ret
        exact ⟨by rw [hr.out, bytes_self]; rfl, HW.out, hbb⟩
    · have q1 : (k == 1) = false := by rw [beq_eq_false_iff_ne]; omega
      have q2 : (k == 2) = false := by rw [beq_eq_false_iff_ne]; omega
      rw [if_neg h12] at hE
      by_cases h3 : k = 3
      · have hr := Lib.hid (show showT (.mk k s n xs) = 36 :: Lib.itoa n from by rw [hE, if_pos h3])
        have HW := Lib.hid (show (showT (.mk k s n xs)).length + 4 ≤ wtT (.mk k s n xs) from by rw [hr.out, List.length_cons, hW]; omega)
        subst h3
        clear hE hW hss h12
        generalize Lib.itoa n = l at D hil hr
        go_enter Tryd.func27, Tryd.ntmps27
        go_wp2_with fail
        refine (D.out _).mono ?_; rintro e w1 ⟨rfl, hb1⟩
        go_wp2_with fail
        go_ret
        exact ⟨by rw [hr.out, ← cat_cons]; rfl, HW.out, below_box hb1⟩
      · by_cases h4 : k = 4
        · have hr := Lib.hid (show showT (.mk k s n xs) = 37 :: Lib.itoa n from by rw [hE, if_neg h3, if_pos h4])
          have HW := Lib.hid (show (showT (.mk k s n xs)).length + 4 ≤ wtT (.mk k s n xs) from by rw [hr.out, List.length_cons, hW]; omega)
          subst h4
          clear hE hW hss h12 h3
          generalize Lib.itoa n = l at D hil hr
          go_enter Tryd.func27, Tryd.ntmps27
          go_wp2_with fail
          refine (D.out _).mono ?_; rintro e w1 ⟨rfl, hb1⟩
          go_wp2_with fail
          go_ret
          exact ⟨by rw [hr.out, ← cat_cons]; rfl, HW.out, below_box hb1⟩
        · have q3 : (k == 3) = false := by rw [beq_eq_false_iff_ne]; exact h3
          have q4 : (k == 4) = false := by rw [beq_eq_false_iff_ne]; exact h4
          rw [if_neg h3, if_neg h4] at hE
          by_cases h5 : k = 5
          · have hr : showT (.mk k s n xs) = s.data.toList ++ pre (showsL xs) ++ close (showsL xs) := by rw [hE, if_neg (by simp [h5])]
            subst h5
            clear hE h12 h3 h4 q1 q2 q3 q4 D hil
            have hpre0 : (⟨(s.data.toList ++ pre []).toArray⟩ : ByteArray) = s := by rw [show pre [] = [] from rfl, List.append_nil, bytes_self]
            rcases hxr with rfl | ⟨b, off, rfl, hlt, hrw⟩
            · have HR := Lib.hid (show showT (.mk 5 s n []) = s.data.toList from by rw [hr, showsL]; simp [pre, close])
              have HW := Lib.hid (show (showT (.mk 5 s n [])).length + 4 ≤ wtT (.mk 5 s n []) from by rw [HR.out, hss, hW]; omega)
              clear hr hW hss hpre0
              go_enter Tryd.func27, Tryd.ntmps27
              go_wp2
              refine wp_loop_rounds 1 ?_; rw [rounds_succ]
              go_wp2
              go_ret
              exact ⟨by rw [HR.out, bytes_self]; rfl, HW.out, hbb⟩
            have HRW := Lib.hid hrw
            have HSS := Lib.hid hss
            have HR := Lib.hid hr
            have HWT := Lib.hid hW
            have hwl : s.size + 30 + wtL xs ≤ 100000000 := by rw [← hW]; exact hwt
            have HP0 := Lib.hid hpre0
            by_cases hxe : xs = []
            · subst hxe
              have HR := Lib.hid (show showT (.mk 5 s n []) = s.data.toList from by rw [hr, showsL]; simp [pre, close])
              have HW := Lib.hid (show (showT (.mk 5 s n [])).length + 4 ≤ wtT (.mk 5 s n []) from by rw [HR.out, hss, hW]; omega)
              clear hr hW hss hpre0 hrw
              go_enter Tryd.func27, Tryd.ntmps27
              go_wp2
              refine wp_loop_rounds 1 ?_; rw [rounds_succ]
              go_wp2
              go_ret
              exact ⟨by rw [HR.out, bytes_self]; rfl, HW.out, hbb⟩
            have hxpos : 0 < xs.length := List.length_pos_iff.2 hxe
            have hxpos' : (0 : Int) < (xs.length : Int) := by omega
            have HNE := Lib.hid hxe
            clear hr hW hss hpre0 hrw hxe
            go_enter Tryd.func27, Tryd.ntmps27
            go_wp2
            go_loopw [3, 38] (fun q i wr => ∃ (j : Nat) (p : List UInt8), j ≤ xs.length ∧ i = .int .i64 j ∧ q = .string ⟨p.toArray⟩ ∧ Hid (p = s.data.toList ++ pre (showsL (xs.take j))) ∧ p.length ≤ s.size + 1 + wtL (xs.take j) ∧ Below (w.heap.size + 1) (w.alloc (.cells #[.int .i64 5, .string s, .int .i64 n, .slice (some ⟨b, off, none⟩) xs.length c] 26)) wr) (fun _ i _ => xs.length - (intOf i).toNat)
            case atStart => exact ⟨0, s.data.toList, Nat.zero_le _, rfl, by rw [bytes_self], Lib.hid (by rw [List.take_zero, showsL, show pre [] = [] from rfl, List.append_nil]), by rw [HSS.out]; omega, Below.refl _ _⟩
            case round =>
              obtain ⟨j, p, hj, rfl, rfl, HPQ, hpl, hb⟩ := hrel
              have hbs := hb.size
              simp at hbs
              have hwr : Below w.heap.size w wr := below_pair hb
              have hwp := wtL_part xs j
              by_cases hjl : j < xs.length
              · have hil : (j : Int) < (xs.length : Int) := by omega
                obtain ⟨u, hu, huk, hat⟩ := tmAt_tv (rowAt_get HRW.out hjl)
                obtain ⟨d0, d1, d2, d3⟩ := hat.below hwr
                have hst := wtL_take hjl
                have hsh := showsL_take hjl
                rw [← hu] at hst hsh
                have hwj := wtL_part xs (j + 1)
                have C : Hid (Calls Tryd.prog 27 #[u.val] (wr.alloc (.cells #[.int .i64 u.t.kind, .string u.t.name, .int .i64 u.t.n, .slice u.a u.t.args.length u.c] 26)) fun e w' => e = .returned (.string ⟨(showT u.t).toArray⟩) ∧ (showT u.t).length + 4 ≤ wtT u.t ∧ Below (wr.alloc (.cells #[.int .i64 u.t.kind, .string u.t.name, .int .i64 u.t.n, .slice u.a u.t.args.length u.c] 26)).heap.size (wr.alloc (.cells #[.int .i64 u.t.kind, .string u.t.name, .int .i64 u.t.n, .slice u.a u.t.args.length u.c] 26)) w') := Lib.hid (IH.out u (wr.alloc (.cells #[.int .i64 u.t.kind, .string u.t.name, .int .i64 u.t.n, .slice u.a u.t.args.length u.c] 26)) (by rw [hu]; exact HP.out j hjl) (by omega) ((huk.below hwr).below ((Below.refl _ _).alloc (Nat.le_refl _) _)))
                obtain ⟨q, hq⟩ : ∃ q, q = showT u.t := ⟨_, rfl⟩
                obtain ⟨wu, hwu⟩ : ∃ x, x = wtT u.t := ⟨_, rfl⟩
                simp only [Tv.val] at C
                rw [← hq, ← hwu] at C
                rw [← hq] at hsh
                rw [← hwu] at hst
                have HST := Lib.hid hst
                have HSH := Lib.hid hsh
                have hpb : p.length ≤ 100000000 := by omega
                have hwub : wu ≤ 100000000 := by omega
                clear hu huk hat hst hsh hq hwu
                by_cases hj0 : j = 0
                · have hq0 : ((j : Int) == 0) = true := by rw [beq_iff_eq]; omega
                  have HJ := Lib.hid hj0
                  clear hj0
                  go_wp2_with fail
                  refine C.out.mono ?_; rintro e w1 ⟨rfl, hql, hb1⟩
                  go_wp2_with fail
                  go_roundw
                  case rel =>
                    refine ⟨j + 1, p ++ 40 :: q, by omega, by go_num, ?_, Lib.hid ?_, ?_, (hb.alloc hbs _).trans (hb1.mono (by simp; omega))⟩
                    · rw [show (⟨#[40]⟩ : ByteArray) = ⟨[40].toArray⟩ from rfl, cat_list, cat_list, List.append_assoc]; rfl
                    · rw [HSH.out, HPQ.out, HJ.out, List.take_zero, showsL, List.nil_append, pre_first, show pre [] = [] from rfl, List.append_nil]
                    · have := HST.out; simp; omega
                  case measure => simp [intOf]; omega
                · have hq0 : ((j : Int) == 0) = false := by rw [beq_eq_false_iff_ne]; omega
                  have hne : (showsL (xs.take j)).isEmpty = false := by
                    rw [showsL_empty, List.isEmpty_eq_false_iff]
                    intro h
                    have := congrArg List.length h
                    rw [List.length_take, List.length_nil] at this; omega
                  have HN := Lib.hid hne
                  clear hne
                  go_wp2_with fail
                  refine C.out.mono ?_; rintro e w1 ⟨rfl, hql, hb1⟩
                  go_wp2_with fail
                  go_roundw
                  case rel =>
                    refine ⟨j + 1, p ++ [44, 32] ++ q, by omega, by go_num, ?_, Lib.hid ?_, ?_, (hb.alloc hbs _).trans (hb1.mono (by simp; omega))⟩
                    · rw [show (⟨#[44, 32]⟩ : ByteArray) = ⟨[44, 32].toArray⟩ from rfl, cat_list, cat_list]
                    · rw [HSH.out, HPQ.out, pre_more q HN.out]; simp [List.append_assoc]
                    · have := HST.out; simp; omega
                  case measure => simp [intOf]; omega
              · obtain rfl : j = xs.length := by omega
                rw [List.take_length] at hpl HPQ
                have p3 : wr.cell? ⟨w.heap.size, 3, none⟩ = some (.slice (some ⟨b, off, none⟩) xs.length c) := ((box_new w (.int .i64 5) (.string s) (.int .i64 n) (.slice (some ⟨b, off, none⟩) xs.length c) 26).below hb (by omega)).c3
                have hpb : p.length ≤ 100000000 := by omega
                have HF := Lib.hid (show showT (.mk 5 s n xs) = p ++ [41] from by
                  rw [HR.out, ← HPQ.out]; unfold close
                  rw [if_neg (by rw [showsL_empty]; simpa using HNE.out)])
                have HW := Lib.hid (show (showT (.mk 5 s n xs)).length + 4 ≤ wtT (.mk 5 s n xs) from by rw [HF.out, HWT.out]; simp; omega)
                go_wp2
                go_ret
                exact ⟨by rw [HF.out, ← cat_list]; rfl, HW.out, hwr⟩
          · have hr := Lib.hid (show showT (.mk k s n xs) = [63] from by rw [hE, if_pos h5])
            have HW := Lib.hid (show (showT (.mk k s n xs)).length + 4 ≤ wtT (.mk k s n xs) from by rw [hr.out, hW]; simp; omega)
            have q5 : (k != 5) = true := by rw [bne_iff_ne]; exact h5
            clear hE hW hss h12 h3 h4 h5
            go_enter Tryd.func27, Tryd.ntmps27
            go_wp2_with fail
            go_ret
            exact ⟨by rw [hr.out]; rfl, HW.out, hbb⟩
end Go.Proofs.YtmpaljmkfnpcpaaDoor
