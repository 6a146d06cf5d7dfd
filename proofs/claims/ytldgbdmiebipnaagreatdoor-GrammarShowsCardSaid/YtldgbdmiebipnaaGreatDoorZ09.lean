/-
  Scan of the reference, walked: it answers what the scan of the text tells. (the reference)
-/
import Derived.Test.YtldgbdmiebipnaaGreatDoorZ08
import Derived.Test.YtldgbdmiebipnaaGreatDoorZ02
import Derived.Lib.Hide
import Derived.WalkKit
import Derived.WalkSpells
namespace Go.Proofs.YtldgbdmiebipnaaGreatDoor
open Go.RowKit

set_option maxRecDepth 100000 in
set_option maxHeartbeats 4000000 in
theorem rscan_any (s : ByteArray) (hs : s.size ≤ 1000000) (w : World) :
    Calls Tryz.prog 14 #[.string s] w (ScanPost s w) := by
  obtain ⟨i0, hi, hz0, hz1, hz2⟩ := info_parts tokInfo
  by_cases h8 : s.size ≤ 8192
  · have h8' : (s.size : Int) ≤ 8192 := by omega
    have CL := Lib.hid (fun b w => rclass_any b w)
    have AT := Lib.hid (fun i h0 w => at_fn s i h0 hs w)
    go_enter Tryz.func14, Tryz.ntmps14
    go_wp2
    go_loopw [4, 5] (fun o j wr => ∃ (i : Nat) (acc : List Tok), j = .int .i64 i ∧ wr.ownsRow (w.heap.size + 1) 50 4 o acc.length (rowOf acc) ∧ ScanTo s i acc ∧ Below (w.heap.size + 1) (w.alloc (.cells #[.int .i64 0, .int .i64 0] 26)) wr) (fun _ j _ => s.size - (intOf j).toNat)
    case atStart => exact ⟨0, [], rfl, World.ownsRow_nil _ _ _ _, scan_start s, Below.refl _ _⟩
    case round =>
      obtain ⟨i, acc, rfl, hown, hscan, hb⟩ := hrel
      have hbs := hb.size
      simp at hbs
      by_cases hlt : i < s.size
      · have hil : (i : Int) < (s.size : Int) := by omega
        by_cases h5 : cls (s[i].toNat : Int) = 5
        · have C := Lib.hid (fun w => (CL.out (s[i].toNat : Int) w).mono fun e w' h => (show e = .returned (.int .i64 5) ∧ w = w' by rw [← h5]; exact h))
          have H := scan_space hscan hlt h5
          clear h5 hscan
          have H := Lib.hid H
          go_wp2_with fail
          refine (C.out _).mono ?_; rintro e w1 ⟨rfl, rfl⟩
          go_wp2_with fail
          go_roundw
          case rel => exact ⟨i + 1, acc, by go_num, hown, H.out, hb⟩
          case measure => simp [intOf]; omega
        · obtain ⟨c, hc⟩ : ∃ c, c = cls (s[i].toNat : Int) := ⟨_, rfl⟩
          have C := Lib.hid (fun w => (CL.out (s[i].toNat : Int) w).mono fun e w' h => (show e = .returned (.int .i64 c) ∧ w = w' by rw [hc]; exact h))
          have hc5 : (c == 5) = false := by rw [beq_eq_false_iff_ne, hc]; exact h5
          by_cases h35 : (s[i].toNat : Int) = 35
          · have hq : ((s[i].toNat : Int) == 35) = true := by rw [beq_iff_eq]; exact h35
            have H := Lib.hid (scan_remark hscan hlt h35)
            have hle := rem_le s (i := i) (by omega)
            have hps := rem_pos hlt h35
            obtain ⟨m, hm⟩ : ∃ m, m = i + rem s i := ⟨_, rfl⟩
            rw [← hm] at hle
            have hps : i < m := by omega
            have HM := Lib.hid hm
            clear h35 h5 hc hscan hm
            go_wp2_with fail
            refine (C.out _).mono ?_; rintro e w1 ⟨rfl, rfl⟩
            go_wp2_with fail
            go_loop [5] (fun j => ∃ k : Nat, k ≤ m ∧ j = .int .i64 k ∧ Hid (m = k + rem s k)) (fun j => s.size - (intOf j).toNat)
            case atStart => exact ⟨i, by omega, rfl, Lib.hid HM.out⟩
            case round =>
              obtain ⟨k, hk, rfl, HK⟩ := hrel
              by_cases hkl : k < m
              · have hks : (k : Int) < (s.size : Int) := by omega
                have hks' : k < s.size := by omega
                have hn : ((s[k].toNat : Int) == 10) = false := by
                  cases hn : ((s[k].toNat : Int) == 10) with
                  | true => have := rem_none s hks' hn; have := HK.out; omega
                  | false => rfl
                have HR := Lib.hid (rem_some s hks' hn)
                have hnl : ((s[k].toNat : Int) != 10) = true := by rw [bne, hn]; rfl
                clear hn
                go_wp2_with fail
                go_round
                case rel => exact ⟨k + 1, by omega, by go_num, Lib.hid (by have := HR.out; have := HK.out; omega)⟩
                case measure => simp [intOf]; omega
              · obtain rfl : k = m := by omega
                by_cases hks : k < s.size
                · have hks2 : (k : Int) < (s.size : Int) := by omega
                  have hnl : ((s[k].toNat : Int) != 10) = false := by
                    cases hn : ((s[k].toNat : Int) == 10) with
                    | true => rw [bne, hn]; rfl
                    | false => have := rem_some s hks hn; have := HK.out; omega
                  go_wp2_with fail
                  go_roundw
                  case rel => exact ⟨k, acc, rfl, hown, by rw [HM.out]; exact H.out, hb⟩
                  case measure => simp [intOf]; omega
                · have hks2 : ¬ (k : Int) < (s.size : Int) := by omega
                  go_wp2_with fail
                  go_roundw
                  case rel => exact ⟨k, acc, rfl, hown, by rw [HM.out]; exact H.out, hb⟩
                  case measure => simp [intOf]; omega
          · have hq : ((s[i].toNat : Int) == 35) = false := by rw [beq_eq_false_iff_ne]; exact h35
            have A := Lib.hid (fun w => AT.out i hlt w)
            cases htok : tokL (s.data.toList.drop i) with
            | none =>
              have HB := Lib.hid (out_bad h8 (scan_bad hscan hlt h5 h35 htok))
              have HT := Lib.hid htok
              clear h35 h5 hc hscan htok hown
              go_wp2_with fail
              refine (C.out _).mono ?_; rintro e w1 ⟨rfl, rfl⟩
              go_wp2_with fail
              refine (A.out _).mono ?_; rintro e w2 ⟨k, x, n, a, b, rfl, hsays, hb2⟩
              obtain rfl : b = false := by unfold AtSays at hsays; rw [HT.out] at hsays; exact hsays
              clear hsays
              replace hb := hb.trans (hb2.mono (by omega))
              have hbs2 := hb.size
              simp at hbs2
              clear hb2
              replace hb := hb.alloc (by omega) (.cells #[.int .i64 k, .string x, .int .i64 n, .int .i64 a] 50)
              obtain ⟨c0, c1, f0, f1⟩ := pair_after hb
              have hb' := below_pair hb
              clear hb
              go_wp2_with fail
              exact bodyPost_ret (v := .tuple #[.slice none 0 0, .agg #[.int .i64 2, .int .i64 i]]) (by simp [results, Tryz.results14, go_sem, c0, c1]) rfl ⟨.slice none 0 0, by rw [HB.out.2.1, HB.out.2.2], by rw [HB.out.1]; exact Toks.none_ _ _ _, (hb'.setCell (Nat.le_refl _) _).setCell (Nat.le_refl _) _⟩
            | some cu =>
              have hH := scan_token hscan hlt h5 h35 htok
              have hlen := tokL_pos htok (by rw [drop_cons s hlt]; simp)
              have hal : acc.length ≤ i := hscan.2.1
              have hil2 : i + cu.len ≤ s.size := hH.1.1
              have H := Lib.hid hH.1
              have HT := Lib.hid htok
              have hlp := hH.2
              clear h35 h5 hc hscan htok hH hlen
              go_wp2_with fail
              refine (C.out _).mono ?_; rintro e w1 ⟨rfl, rfl⟩
              go_wp2_with fail
              refine (A.out _).mono ?_; rintro e w2 ⟨k, x, n, a, b, rfl, hsays, hb2⟩
              obtain ⟨rfl, hk, hx, hn, ha⟩ : b = true ∧ k = cu.kind ∧ x = s.extract i (i + cu.len) ∧ n = cu.n ∧ a = i := by
                unfold AtSays at hsays; rw [HT.out] at hsays; exact hsays
              clear hsays
              have HE : Hid ((⟨k, x, n, a⟩ : Tok) = tokAt s i cu) := by subst hk hx hn ha; rfl
              have hxs : (x.size : Int) = (cu.len : Int) := by rw [hx, hb_text ⟨hlp, hil2⟩]
              have HXS := Lib.hid hxs
              have hown2 : w2.ownsRow (w.heap.size + 1) 50 4 u4 acc.length (rowOf acc) := own_below hown hb2
              replace hb := hb.trans (hb2.mono (by omega))
              have hbs2 := hb.size
              simp at hbs2
              clear hb2 hown hk hx hn ha hxs
              have hxb : x.size ≤ 8192 := by have := HXS.out; omega
              go_wp2_with (at_builtin; refine wpList_append_own _ rfl _ _ 46 rfl (w.heap.size + 1) 50 i0 (.agg #[.int .i64 0, .string ⟨#[]⟩, .int .i64 0, .int .i64 0]) 4 40 Tryz.underlying46 hi hz0 hz1 hz2 rfl (by decide) _ acc.length _ rfl ((hown2.alloc _).alloc _) ⟨w2.heap.size + 1, 0, none⟩ 1 1 [.int .i64 k, .string x, .int .i64 n, .int .i64 a] rfl rfl ?c1 ?c2 ?c3 ?c4 ?c5 ?_)
              case c1 => exact new_row4 _ _ (by simp) _ _ _ _ _
              case c2 => intro u hu; simp at hu; rcases hu with rfl | rfl | rfl | rfl <;> rfl
              case c3 => unfold maxLen; omega
              case c4 => omega
              case c5 => simp; omega
              intro v' w3 hown' hgrow _
              have hb' : Below (w.heap.size + 1) (w.alloc (.cells #[.int .i64 0, .int .i64 0] 26)) w3 := ((hb.alloc (by omega) _).alloc (by simp; omega) _).grown hgrow (by simp; omega) (own_row_ge hown2)
              have hown3 : w3.ownsRow (w.heap.size + 1) 50 4 v' (acc ++ [tokAt s i cu]).length (rowOf (acc ++ [tokAt s i cu])) := by
                rw [rowOf_snoc, ← HE.out, List.length_append]; exact hown'
              have hB : Box ((w2.alloc (.cells #[.int .i64 k, .string x, .int .i64 n, .int .i64 a] 50)).alloc (.cells #[.int .i64 k, .string x, .int .i64 n, .int .i64 a] 50)) w2.heap.size (.int .i64 k) (.string x) (.int .i64 n) (.int .i64 a) :=
                (box_new _ _ _ _ _ _).below ((Below.refl _ _).alloc (Nat.le_refl _) _) (by simp)
              have hcx := hB.grown hgrow (by simp; omega) (fun g hg e => by have := own_row_lt hown2 g hg; omega)
              clear hown2 hown' hgrow hB hb
              go_wp2_with fail
              go_roundw
              case rel => exact ⟨i + cu.len, acc ++ [tokAt s i cu], by have := HXS.out; congr 1; omega, hown3, H.out, hb'⟩
              case measure => simp [intOf]; have := HXS.out; omega
      · have HS := scan_end hscan hlt
        have hal : acc.length ≤ i := hscan.2.1
        have hie : i = s.size := by have := hscan.1; omega
        subst hie
        have HO := Lib.hid (out_good h8 HS)
        clear HS hscan
        have hil : ¬ ((s.size : Int) < (s.size : Int)) := by omega
        go_wp2_with (at_builtin; refine wpList_append_own _ rfl _ _ 46 rfl (w.heap.size + 1) 50 i0 (.agg #[.int .i64 0, .string ⟨#[]⟩, .int .i64 0, .int .i64 0]) 4 40 Tryz.underlying46 hi hz0 hz1 hz2 rfl (by decide) _ acc.length _ rfl (hown.alloc _) ⟨wr.heap.size, 0, none⟩ 1 1 [.int .i64 0, .string ⟨#[]⟩, .int .i64 0, .int .i64 s.size] rfl rfl ?d1 ?d2 ?d3 ?d4 ?d5 ?_)
        case d2 => exact ⟨rfl, rfl, rfl, rfl⟩
        case d3 => unfold maxLen; omega
        case d4 => omega
        case d5 => omega
        intro v' w3 hown' hgrow _
        replace hb := (hb.alloc (by omega) _).grown hgrow (by simp; omega) (own_row_ge hown)
        have hown3 : w3.ownsRow (w.heap.size + 1) 50 4 v' (acc ++ [endTok s]).length (rowOf (acc ++ [endTok s])) := by
          rw [rowOf_snoc, List.length_append]; exact hown'
        have ht3 : ∀ x y, Toks ((w3.setCell ⟨w.heap.size, 0, none⟩ x).setCell ⟨w.heap.size, 1, none⟩ y) v' (acc ++ [endTok s]) := fun x y =>
          toks_of_own (ownsRow_setCell_below (ownsRow_setCell_below hown3 (by show w.heap.size < _; omega) x) (by show w.heap.size < _; omega) y) (by simp; omega)
        obtain ⟨c0, c1, f0, f1⟩ := pair_after hb
        have hb' := below_pair hb
        clear hown hown' hgrow hown3 hb
        have HT3 := Lib.hid ht3
        clear ht3
        go_wp2_with fail
        exact bodyPost_ret (v := .tuple #[v', .agg #[.int .i64 0, .int .i64 0]]) (by simp [results, Tryz.results14, go_sem, c0, c1]) rfl ⟨v', by rw [HO.out.2.1, HO.out.2.2], by rw [HO.out.1]; exact HT3.out _ _, (hb'.setCell (Nat.le_refl _) _).setCell (Nat.le_refl _) _⟩
  · have h8' : ¬ ((s.size : Int) ≤ 8192) := by omega
    have HO := Lib.hid (out_long h8)
    go_enter Tryz.func14, Tryz.ntmps14
    go_wp2_with fail
    exact bodyPost_ret (v := .tuple #[.slice none 0 0, .agg #[.int .i64 3, .int .i64 0]]) (by simp [results, Tryz.results14, go_sem]) rfl ⟨.slice none 0 0, by rw [HO.out.2.1, HO.out.2.2], by rw [HO.out.1]; exact Toks.none_ _ _ _, (Below.refl _ _).alloc (Nat.le_refl _) _⟩
end Go.Proofs.YtldgbdmiebipnaaGreatDoor
