/-
  Scan of package lex, walked: it answers what the scan of the text tells.
-/
import Derived.Test.YtljkaaliagppdaaDoorRscan
import Derived.Deep.LoopGhost
import Derived.WalkMore
namespace Go.Proofs.YtljkaaliagppdaaDoor
open Go.RowKit

theorem tokL_kind {l : List UInt8} {c : Cut} (h : tokL l = some c) : c.kind ≠ 0 := by
  have hn : ∀ {k : Int} {t : List UInt8} {least : Int} {len : Nat}, k ≠ 0 → numCut k t least len = some c → c.kind ≠ 0 := by
    intro k t least len hk h
    unfold numCut at h; split at h
    · cases h; exact hk
    · cases h
  unfold tokL at h
  split at h
  · exact hn (by decide) h
  · split at h
    · exact hn (by decide) h
    · split at h
      · cases h; decide
      · split at h
        · exact hn (by decide) h
        · split at h
          · split at h
            · cases h; exact (by decide : (2 : Int) ≠ 0)
            · split at h
              · cases h; exact (by decide : (1 : Int) ≠ 0)
              · cases h
          · cases h
theorem rest_list (s : ByteArray) (i : Nat) : (s.extract i s.size).data.toList = s.data.toList.drop i := by
  rw [ext_list, List.take_of_length_le (by simp)]
theorem rest_text (s : ByteArray) {i n : Nat} (_h : i + n ≤ s.size) : (s.extract i s.size).extract 0 n = s.extract i (i + n) := by
  rw [← bs_list ((s.extract i s.size).extract 0 n), ext_list, rest_list, List.drop_zero, ← bs_list (s.extract i (i + n)), ext_list, List.drop_take, show i + n - i = n from by omega]

set_option maxRecDepth 100000 in
set_option maxHeartbeats 8000000 in
theorem lscan_any (s : ByteArray) (hs : s.size ≤ 1000000) (w : World) (hT : Tabs w) :
    Calls Tryd.prog 8 #[.string s] w (ScanPost s w) := by
  obtain ⟨i0, hi, hz0, hz1, hz2⟩ := info_parts tokInfo
  have HT := Lib.hid hT
  clear hT
  by_cases h8 : s.size ≤ 8192
  · have h8' : (s.size : Int) ≤ 8192 := by omega
    have CL := Lib.hid (fun b w => class_any b w)
    have TK := Lib.hid (fun i (h0 : i < s.size) w hT => token_fn (s.extract i s.size) (by simp; omega) (by simp; omega) w hT)
    go_enter Tryd.func8, Tryd.ntmps8
    go_wp2
    go_step3
    go_wp2
    go_step3
    go_wp2
    go_loopg [4, 5] s.size (fun g o j wr => ∃ (i : Nat) (acc : List Tok), s.size - i ≤ g ∧ j = .int .i64 i ∧ wr.ownsRow (w.heap.size + 1) 38 4 o acc.length (rowOf acc) ∧ ScanTo s i acc ∧ Below (w.heap.size + 1) (w.alloc (.cells #[.int .i64 0, .int .i64 0] 26)) wr)
    case atStart => exact ⟨0, [], by omega, rfl, World.ownsRow_nil _ _ _ _, scan_start s, Below.refl _ _⟩
    case round =>
      obtain ⟨i, acc, hg, rfl, hown, hscan, hb⟩ := hrel
      have hbs := hb.size
      simp at hbs
      by_cases hlt : i < s.size
      · have hil : (i : Int) < (s.size : Int) := by omega
        by_cases h5 : cls (s[i].toNat : Int) = 5
        · have C := Lib.hid (fun w => (CL.out (s[i].toNat : Int) w).mono fun e w' h => (show e = .returned (.int .i64 5) ∧ w = w' by rw [← h5]; exact h))
          have H := Lib.hid (scan_space hscan hlt h5)
          clear h5 hscan
          go_wp2_with fail
          refine (C.out _).mono ?_; rintro e w1 ⟨rfl, rfl⟩
          go_wp2_with fail
          go_roundg (s.size - (i + 1))
          case measure => omega
          case rel => exact ⟨i + 1, acc, by omega, by go_num, hown, H.out, hb⟩
        · obtain ⟨c, hc⟩ : ∃ c, c = cls (s[i].toNat : Int) := ⟨_, rfl⟩
          have C := Lib.hid (fun w => (CL.out (s[i].toNat : Int) w).mono fun e w' h => (show e = .returned (.int .i64 c) ∧ w = w' by rw [hc]; exact h))
          have hc5 : (c == 5) = false := by rw [beq_eq_false_iff_ne, hc]; exact h5
          by_cases h35 : (s[i].toNat : Int) = 35
          · have hq : ((s[i].toNat : Int) == 35) = true := by rw [beq_iff_eq]; exact h35
            have H := Lib.hid (scan_remark hscan hlt h35)
            have hal : acc.length ≤ i := hscan.2.1
            have hle := rem_le s (i := i) (by omega)
            have hps := rem_pos hlt h35
            obtain ⟨m, hm⟩ : ∃ m, m = i + rem s i := ⟨_, rfl⟩
            rw [← hm] at hle
            have hps : i < m := by omega
            have HM := Lib.hid hm
            clear h35 h5 hc hscan hm
            go_wp2_with fail
            refine (C.out _).mono ?_; rintro e w1 ⟨rfl, rfl⟩
            go_wp2_with fail
            go_loopg [5] s.size (fun g2 j wx => ∃ k : Nat, s.size - k ≤ g2 ∧ k ≤ m ∧ j = .int .i64 k ∧ Hid (m = k + rem s k) ∧ wx = wr)
            case atStart => exact ⟨i, by omega, by omega, rfl, Lib.hid HM.out, rfl⟩
            case round =>
              obtain ⟨k, hg2, hk, rfl, HK, rfl⟩ := hrel
              by_cases hkl : k < m
              · have hks : (k : Int) < (s.size : Int) := by omega
                have hks' : k < s.size := by omega
                have hn : ((s[k].toNat : Int) == 10) = false := by
                  cases hn : ((s[k].toNat : Int) == 10) with
                  | true => have := rem_none s hks' hn; have := HK.out; omega
                  | false => rfl
                have HR := Lib.hid (rem_some s hks' hn)
                go_wp2_with fail
                go_roundg (s.size - (k + 1))
                case measure => omega
                case rel => exact ⟨k + 1, by omega, by omega, by go_num, Lib.hid (by have := HR.out; have := HK.out; omega), rfl⟩
              · obtain rfl : k = m := by omega
                by_cases hks : k < s.size
                · have hks2 : (k : Int) < (s.size : Int) := by omega
                  have hn : ((s[k].toNat : Int) == 10) = true := by
                    cases hn : ((s[k].toNat : Int) == 10) with
                    | true => rfl
                    | false => have := rem_some s hks hn; have := HK.out; omega
                  go_wp2_with fail
                  go_roundg (s.size - k)
                  case measure => omega
                  case rel => exact ⟨k, acc, by omega, rfl, hown, by rw [HM.out]; exact H.out, hb⟩
                · have hks2 : ¬ (k : Int) < (s.size : Int) := by omega
                  have hke : k = s.size := by omega
                  have HS : scanS s = .inr (acc ++ [endTok s]) := scan_end (i := k) (by rw [HM.out]; exact H.out) hks
                  clear HM H HK
                  subst hke
                  have HO := Lib.hid (out_good h8 HS)
                  clear HS
                  go_wp2_with (at_builtin; refine wpList_append_own _ rfl _ _ 23 rfl (w.heap.size + 1) 38 i0 (.agg #[.int .i64 0, .string ⟨#[]⟩, .int .i64 0, .int .i64 0]) 4 40 Tryd.underlying23 hi hz0 hz1 hz2 rfl (by decide) _ acc.length _ rfl (hown.alloc _) ⟨wr.heap.size, 0, none⟩ 1 1 [.int .i64 0, .string ⟨#[]⟩, .int .i64 0, .int .i64 s.size] rfl rfl ?e1 ?e2 ?e3 ?e4 ?e5 ?_)
                  case e2 => exact ⟨rfl, rfl, rfl, rfl⟩
                  case e3 => unfold maxLen; omega
                  case e4 => omega
                  case e5 => omega
                  intro v' w3 hown' hgrow _
                  replace hb := (hb.alloc (by omega) _).grown hgrow (by simp; omega) (own_row_ge hown)
                  have hown3 : w3.ownsRow (w.heap.size + 1) 38 4 v' (acc ++ [endTok s]).length (rowOf (acc ++ [endTok s])) := by
                    rw [rowOf_snoc, List.length_append]; exact hown'
                  have ht3 : ∀ x y, Toks ((w3.setCell ⟨w.heap.size, 0, none⟩ x).setCell ⟨w.heap.size, 1, none⟩ y) v' (acc ++ [endTok s]) := fun x y =>
                    toks_of_own (ownsRow_setCell_below (ownsRow_setCell_below hown3 (by show w.heap.size < _; omega) x) (by show w.heap.size < _; omega) y) (by simp; omega)
                  obtain ⟨c0, c1, f0, f1⟩ := pair_after hb
                  have hb' := below_pair hb
                  clear hown hown' hgrow hown3 hb
                  have HT3 := Lib.hid ht3
                  clear ht3
                  go_wp2_with fail
                  (try rw [Exit.noGoto_ret])
                  exact bodyPost_ret (v := .tuple #[v', .agg #[.int .i64 0, .int .i64 0]]) (by simp [results, Tryd.results8, go_sem, c0, c1]) rfl ⟨v', by rw [HO.out.2.1, HO.out.2.2], by rw [HO.out.1]; exact HT3.out _ _, (hb'.setCell (Nat.le_refl _) _).setCell (Nat.le_refl _) _⟩
          · have hq : ((s[i].toNat : Int) == 35) = false := by rw [beq_eq_false_iff_ne]; exact h35
            have A := Lib.hid (fun w hT => TK.out i hlt w hT)
            cases htok : tokL (s.data.toList.drop i) with
            | none =>
              have HB := Lib.hid (out_bad h8 (scan_bad hscan hlt h5 h35 htok))
              have HV := Lib.hid (show tokenV (s.extract i s.size) = .agg #[.int .i64 0, .string ⟨#[]⟩, .int .i64 0, .int .i64 0] from tokenV_none (by rw [rest_list]; exact htok))
              clear h35 h5 hc hscan htok hown
              go_wp2_with fail
              refine (C.out _).mono ?_; rintro e w1 ⟨rfl, rfl⟩
              go_wp2_with fail
              refine (A.out _ (HT.out.below (below_pair hb))).mono ?_; rintro e w2 ⟨rfl, hb2⟩
              rw [HV.out]
              replace hb := hb.trans (hb2.mono (by omega))
              have hbs2 := hb.size
              simp at hbs2
              clear hb2
              replace hb := hb.alloc (by omega) (.cells #[.int .i64 0, .string ⟨#[]⟩, .int .i64 0, .int .i64 0] 38)
              obtain ⟨c0, c1, f0, f1⟩ := pair_after hb
              have hb' := below_pair hb
              clear hb
              go_wp2_with fail
              (try rw [Exit.noGoto_ret])
              exact bodyPost_ret (v := .tuple #[.slice none 0 0, .agg #[.int .i64 2, .int .i64 i]]) (by simp [results, Tryd.results8, go_sem, c0, c1]) rfl ⟨.slice none 0 0, by rw [HB.out.2.1, HB.out.2.2], by rw [HB.out.1]; exact Toks.none_ _ _ _, (hb'.setCell (Nat.le_refl _) _).setCell (Nat.le_refl _) _⟩
            | some cu =>
              have hH := scan_token hscan hlt h5 h35 htok
              have hal : acc.length ≤ i := hscan.2.1
              have hil2 : i + cu.len ≤ s.size := hH.1.1
              have hkd := tokL_kind htok
              have hkd2 : (cu.kind == 0) = false := by rw [beq_eq_false_iff_ne]; exact hkd
              have hV : tokenV (s.extract i s.size) = .agg #[.int .i64 cu.kind, .string (s.extract i (i + cu.len)), .int .i64 cu.n, .int .i64 0] := by
                rw [tokenV_some (by rw [rest_list]; exact htok), rest_text s hil2]; rfl
              have H := Lib.hid hH.1
              have hlp := hH.2
              have hxs := hb_text ⟨hlp, hil2⟩
              obtain ⟨x, hx⟩ : ∃ x, x = s.extract i (i + cu.len) := ⟨_, rfl⟩
              rw [← hx] at hV hxs
              have HXS := Lib.hid hxs
              have hxb : x.size ≤ 8192 := by omega
              have HE : Hid ((⟨cu.kind, x, cu.n, i⟩ : Tok) = tokAt s i cu) := by subst hx; rfl
              have HV := Lib.hid hV
              obtain ⟨k, hk⟩ : ∃ k, k = cu.kind := ⟨_, rfl⟩
              obtain ⟨n, hn⟩ : ∃ n, n = cu.n := ⟨_, rfl⟩
              rw [← hk] at HV HE hkd2
              rw [← hn] at HV HE
              clear h35 h5 hc hscan htok hH hkd hV hxs hx hk hn
              go_wp2_with fail
              refine (C.out _).mono ?_; rintro e w1 ⟨rfl, rfl⟩
              go_wp2_with fail
              refine (A.out _ (HT.out.below (below_pair hb))).mono ?_; rintro e w2 ⟨rfl, hb2⟩
              rw [HV.out]
              have hown2 : w2.ownsRow (w.heap.size + 1) 38 4 u4 acc.length (rowOf acc) := own_below hown hb2
              replace hb := hb.trans (hb2.mono (by omega))
              have hbs2 := hb.size
              simp at hbs2
              clear hb2 hown
              go_wp2_with (at_builtin; refine wpList_append_own _ rfl _ _ 23 rfl (w.heap.size + 1) 38 i0 (.agg #[.int .i64 0, .string ⟨#[]⟩, .int .i64 0, .int .i64 0]) 4 40 Tryd.underlying23 hi hz0 hz1 hz2 rfl (by decide) _ acc.length _ rfl ((hown2.alloc _).alloc _) ⟨w2.heap.size + 1, 0, none⟩ 1 1 [.int .i64 k, .string x, .int .i64 n, .int .i64 i] rfl rfl ?c1 ?c2 ?c3 ?c4 ?c5 ?_)
              case c1 => exact new_row4 _ _ (by simp) _ _ _ _ _
              case c2 => intro u hu; simp at hu; rcases hu with rfl | rfl | rfl | rfl <;> rfl
              case c3 => unfold maxLen; omega
              case c4 => omega
              case c5 => simp; omega
              intro v' w3 hown' hgrow _
              have hb' : Below (w.heap.size + 1) (w.alloc (.cells #[.int .i64 0, .int .i64 0] 26)) w3 := ((hb.alloc (by omega) _).alloc (by simp; omega) _).grown hgrow (by simp; omega) (own_row_ge hown2)
              have hown3 : w3.ownsRow (w.heap.size + 1) 38 4 v' (acc ++ [tokAt s i cu]).length (rowOf (acc ++ [tokAt s i cu])) := by
                rw [rowOf_snoc, ← HE.out, List.length_append]; exact hown'
              have hB : Box ((w2.alloc (.cells #[.int .i64 k, .string x, .int .i64 n, .int .i64 i] 38)).alloc (.cells #[.int .i64 k, .string x, .int .i64 n, .int .i64 i] 38)) w2.heap.size (.int .i64 k) (.string x) (.int .i64 n) (.int .i64 i) :=
                (box_new _ _ _ _ _ _).below ((Below.refl _ _).alloc (Nat.le_refl _) _) (by simp)
              have hcx := hB.grown hgrow (by simp; omega) (fun g hg e => by have := own_row_lt hown2 g hg; omega)
              clear hown2 hown' hgrow hB hb
              go_wp2_with fail
              go_roundg (s.size - (i + cu.len))
              case measure => omega
              case rel => exact ⟨i + cu.len, acc ++ [tokAt s i cu], by omega, by have := HXS.out; congr 1; omega, hown3, H.out, hb'⟩
      · have HS := scan_end hscan hlt
        have hal : acc.length ≤ i := hscan.2.1
        have hie : i = s.size := by have := hscan.1; omega
        subst hie
        clear hscan
        have hil : ¬ ((s.size : Int) < (s.size : Int)) := by omega
        have HO := Lib.hid (out_good h8 HS)
        clear HS
        go_wp2_with (at_builtin; refine wpList_append_own _ rfl _ _ 23 rfl (w.heap.size + 1) 38 i0 (.agg #[.int .i64 0, .string ⟨#[]⟩, .int .i64 0, .int .i64 0]) 4 40 Tryd.underlying23 hi hz0 hz1 hz2 rfl (by decide) _ acc.length _ rfl (hown.alloc _) ⟨wr.heap.size, 0, none⟩ 1 1 [.int .i64 0, .string ⟨#[]⟩, .int .i64 0, .int .i64 s.size] rfl rfl ?d1 ?d2 ?d3 ?d4 ?d5 ?_)
        case d2 => exact ⟨rfl, rfl, rfl, rfl⟩
        case d3 => unfold maxLen; omega
        case d4 => omega
        case d5 => omega
        intro v' w3 hown' hgrow _
        replace hb := (hb.alloc (by omega) _).grown hgrow (by simp; omega) (own_row_ge hown)
        have hown3 : w3.ownsRow (w.heap.size + 1) 38 4 v' (acc ++ [endTok s]).length (rowOf (acc ++ [endTok s])) := by
          rw [rowOf_snoc, List.length_append]; exact hown'
        have ht3 : ∀ x y, Toks ((w3.setCell ⟨w.heap.size, 0, none⟩ x).setCell ⟨w.heap.size, 1, none⟩ y) v' (acc ++ [endTok s]) := fun x y =>
          toks_of_own (ownsRow_setCell_below (ownsRow_setCell_below hown3 (by show w.heap.size < _; omega) x) (by show w.heap.size < _; omega) y) (by simp; omega)
        obtain ⟨c0, c1, f0, f1⟩ := pair_after hb
        have hb' := below_pair hb
        clear hown hown' hgrow hown3 hb
        have HT3 := Lib.hid ht3
        clear ht3
        go_wp2_with fail
        (try rw [Exit.noGoto_ret])
        exact bodyPost_ret (v := .tuple #[v', .agg #[.int .i64 0, .int .i64 0]]) (by simp [results, Tryd.results8, go_sem, c0, c1]) rfl ⟨v', by rw [HO.out.2.1, HO.out.2.2], by rw [HO.out.1]; exact HT3.out _ _, (hb'.setCell (Nat.le_refl _) _).setCell (Nat.le_refl _) _⟩
  · have h8' : ¬ ((s.size : Int) ≤ 8192) := by omega
    have HO := Lib.hid (out_long h8)
    go_enter Tryd.func8, Tryd.ntmps8
    go_wp2
    go_step3
    go_wp2_with fail
    (try rw [Exit.noGoto_ret])
    exact bodyPost_ret (v := .tuple #[.slice none 0 0, .agg #[.int .i64 3, .int .i64 0]]) (by simp [results, Tryd.results8, go_sem]) rfl ⟨.slice none 0 0, by rw [HO.out.2.1, HO.out.2.2], by rw [HO.out.1]; exact Toks.none_ _ _ _, (Below.refl _ _).alloc (Nat.le_refl _) _⟩
end Go.Proofs.YtljkaaliagppdaaDoor
