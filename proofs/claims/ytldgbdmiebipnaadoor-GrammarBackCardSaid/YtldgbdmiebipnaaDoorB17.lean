/-
  An item as a line, by the program's grammar: line.
  Items as lines, one by one: the pure part. No function of the program.
  Items as lines, by the program's grammar: Show.
  Whether trees and items are alike but for places, by the program's grammar: sameTree, sameItem, Same.
  Whether items are alike but for places, by the program's grammar: sameItem, Same.
  What the program's grammar answers: all of it.
  GrammarBack holds for package grammar as it landed.
-/
import Derived.Test.YtldgbdmiebipnaaDoorB16
import Derived.Test.YtldgbdmiebipnaaDoorB05
import Derived.Deep.RegionHeld3
import Derived.BigQuiet
import Derived.Test.YtldgbdmiebipnaaDoorB11
import Derived.Test.YtldgbdmiebipnaaDoorB06
import Derived.Test.YtldgbdmiebipnaaDoorB03
import Derived.Deep.LoopGhost
import Derived.WalkMore
import Derived.OwnWalk
namespace Go.Proofs.YtldgbdmiebipnaaDoor
open Go.RowKit

theorem rowT_len {sep : List UInt8} (h : sep ≠ []) (ls : List (List UInt8)) : ls.length ≤ (rowT sep ls).length ∧ (Lib.join ls sep).length ≤ (rowT sep ls).length := by
  cases ls with
  | nil => exact ⟨by simp, by rw [Lib.join_nil]; simp⟩
  | cons x r =>
    have e : rowT sep (x :: r) = 32 :: Lib.join (x :: r) sep := rfl
    have hl := Lib.join_length x r sep
    have hs : 1 ≤ sep.length := List.length_pos_iff.2 h
    have hm : 1 * r.length ≤ sep.length * r.length := Nat.mul_le_mul_right _ hs
    rw [e, List.length_cons, List.length_cons]
    exact ⟨by omega, by omega⟩
theorem sepWB_ne (k : ByteArray) : sepWB k ≠ [] := by unfold sepWB; split <;> simp
theorem sepTB_ne (k : ByteArray) : sepTB k ≠ [] := by unfold sepTB; repeat' split <;> simp
theorem bytes_of {s : ByteArray} {l : List UInt8} (h : s.data.toList = l) : s = ⟨l.toArray⟩ := by rw [← h, bytes_self]
theorem kFun_l : kFun.toList = [102, 117, 110] := by kernel_rfl
theorem kRule_l : kRule.toList = [114, 117, 108, 101] := by kernel_rfl
theorem kFrame_l : kFrame.toList = [102, 114, 97, 109, 101] := by kernel_rfl
theorem item_box (w : World) (x0 x1 x2 x3 : Value) : (w.alloc (.cells #[x0, x1, x2, x3] 69)).heap.size = w.heap.size + 1 := by simp

set_option maxRecDepth 100000 in
set_option maxHeartbeats 4000000 in
theorem pline_any (y : Iv) (w : World) (hP : Pow w) (hok : y.ok w) (hfit : FitI y.it) (hl : LenI y.it) (hlen : (lineS y.it).length ≤ 100000000) (hts : ∀ t ∈ y.it.trees, t.parts ≤ 1000000 ∧ wtT (plainR t) ≤ 100000000) (hwf : ∀ t ∈ y.it.trees, WfR t) :
    Calls Tryd.prog 29 #[.agg #[.string y.it.key, .int .i64 y.it.spot, y.vw, y.vt]] w fun e w' => e = .returned (.string ⟨(lineS y.it ++ [10]).toArray⟩) ∧ Below w.heap.size w w' := by
  have hE := lineQ_eq hfit hl
  obtain ⟨⟨key, spot, ws, ts⟩, vw, vt⟩ := y
  obtain ⟨hw, ht, hkl⟩ := hok
  simp only at hw ht hkl hts hwf hlen hE ⊢
  have hq : (lineQ ⟨key, spot, ws, ts⟩).length ≤ 100000001 := by rw [← hE, List.length_append]; simp; omega
  have HE := Lib.hid hE
  rw [hE]
  unfold lineQ at hq HE
  simp only [List.length_append] at hq HE
  have hw1 := rowT_len (sepWB_ne key) (ws.map fun t => t.text.data.toList)
  have ht1 := rowT_len (sepTB_ne key) (ts.map shR)
  rw [List.length_map] at hw1 ht1
  have hks : key.data.toList.length = key.size := by rw [Array.length_toList]; rfl
  obtain ⟨S1, hS1⟩ : ∃ s : ByteArray, s = ⟨(rowT (sepWB key) (ws.map fun t => t.text.data.toList)).toArray⟩ := ⟨_, rfl⟩
  obtain ⟨S2, hS2⟩ : ∃ s : ByteArray, s = ⟨(rowT (sepTB key) (ts.map shR)).toArray⟩ := ⟨_, rfl⟩
  have hS1l : S1.data.toList = rowT (sepWB key) (ws.map fun t => t.text.data.toList) := by rw [hS1]
  have hS2l : S2.data.toList = rowT (sepTB key) (ts.map shR) := by rw [hS2]
  have hS1s : S1.size ≤ 100000001 := by have : S1.data.toList.length = S1.size := by rw [Array.length_toList]; rfl
                                        rw [hS1l] at this; omega
  have hS2s : S2.size ≤ 100000001 := by have : S2.data.toList.length = S2.size := by rw [Array.length_toList]; rfl
                                        rw [hS2l] at this; omega
  have hkz : key.size ≤ 100000001 := by omega
  have RW := Lib.hid (fun (W : World) (hb : Below w.heap.size w W) (sep : ByteArray) (hs : sep.data.toList = sepWB key) => (prow_text Tr.text vw ws sep W (hw.below hb) (by omega) (by rw [hs]; omega) (fun y W' _ _ _ => ptext_any y W')).mono fun e w' hh => (show e = .returned (.string S1) ∧ Below W.heap.size W w' from ⟨by rw [hh.1, hS1, hs], hh.2⟩))
  have RT := Lib.hid (fun (W : World) (hb : Below w.heap.size w W) (sep : ByteArray) (hs : sep.data.toList = sepTB key) => (prow_shown (fun t => ⟨(shR t).toArray⟩) vt ts sep W (ht.below hb) (by omega) (by rw [hs]; show (Lib.join (ts.map shR) _).length ≤ _; omega) (fun y W' hb' hm hy => pshown_any y W' (hP.below (below_next hb hb')) (hts _ hm).1 (hwf _ hm) (hts _ hm).2 hy)).mono fun e w' hh => (show e = .returned (.string S2) ∧ Below W.heap.size W w' from ⟨by rw [hh.1, hS2, hs], hh.2⟩))
  obtain ⟨wa, wc, rfl, _⟩ := hw
  obtain ⟨ta, tc, rfl, _⟩ := ht
  have bx := box_new w (.string key) (.int .i64 spot) (.slice wa ws.length wc) (.slice ta ts.length tc) 69
  have hB0 : Below w.heap.size w (w.alloc (.cells #[.string key, .int .i64 spot, .slice wa ws.length wc, .slice ta ts.length tc] 69)) := (Below.refl _ _).alloc (Nat.le_refl _) _
  have hzs := item_box w (.string key) (.int .i64 spot) (.slice wa ws.length wc) (.slice ta ts.length tc)
  have HSUM := Lib.hid (fun (c : ByteArray) (hc : c.data.toList = colNB key) => (show key ++ S1 ++ c ++ S2 ++ ⟨#[46, 10]⟩ = ⟨(lineQ ⟨key, spot, ws, ts⟩).toArray⟩ from by
    refine bytes_of ?_
    unfold lineQ
    simp only [ByteArray.data_append, Array.toList_append, hS1l, hS2l, hc, List.append_assoc]))
  obtain ⟨LQ, hLQ⟩ : ∃ l : ByteArray, ⟨(lineQ ⟨key, spot, ws, ts⟩).toArray⟩ = l := ⟨_, rfl⟩
  rw [hLQ] at HSUM ⊢
  obtain ⟨nw, hnw⟩ : ∃ n, ws.length = n := ⟨_, rfl⟩
  obtain ⟨nt, hnt⟩ : ∃ n, ts.length = n := ⟨_, rfl⟩
  rw [hnw] at RW bx hB0 hzs ⊢
  rw [hnt] at RT bx hB0 hzs ⊢
  obtain ⟨wz, hwz⟩ : ∃ wz, wz = w.alloc (.cells #[.string key, .int .i64 spot, .slice wa nw wc, .slice ta nt tc] 69) := ⟨_, rfl⟩
  rw [← hwz] at bx hB0 hzs
  have HB0 := Lib.hid hB0
  have HBX := Lib.hid (fun (V : World) (h : Below wz.heap.size wz V) => bx.below h (by omega))
  have KEEP := Lib.hid (fun (W : World) (h : Below wz.heap.size wz W) => (show Below wz.heap.size wz W ∧ W.cell? ⟨w.heap.size, 0, none⟩ = some (.string key) ∧ W.cell? ⟨w.heap.size, 2, none⟩ = some (.slice wa nw wc) ∧ W.cell? ⟨w.heap.size, 3, none⟩ = some (.slice ta nt tc) from by
    obtain ⟨a0, a1, a2, a3, _⟩ := HBX.out W h
    exact ⟨h, a0, a2, a3⟩))
  have D0 := Lib.hid ((Below.refl wz.heap.size wz).drew)
  obtain ⟨m0, _, m2, m3, _, _, _, _⟩ := HBX.out wz (Below.refl _ _)
  have hlt0 : w.heap.size < wz.heap.size := by omega
  have z1 : ¬ 9223372036854775807 < key.size + S1.size := by omega
  have z2 : ¬ 9223372036854775807 < key.size + S1.size + S2.size := by omega
  have z3 : ¬ 9223372036854775807 < key.size + S1.size + S2.size + 2 := by omega
  have z4 : ¬ 9223372036854775807 < key.size + S1.size + 1 := by omega
  have z5 : ¬ 9223372036854775807 < key.size + S1.size + 1 + S2.size := by omega
  have z6 : ¬ 9223372036854775807 < key.size + S1.size + 1 + S2.size + 2 := by omega
  clear hE hq hw1 ht1 hks hS1 hS2 hS1l hS2l hLQ hnw hnt hB0 hts hwf hfit hl hlen HE hP bx
  cases h1 : (key.toList == kFun.toList) with
  | true =>
    have h2 : (key.toList == kRule.toList) = false := by rw [(Lib.bytes_beq_iff key kFun).1 h1]; kernel_rfl
    have h3 : (key.toList == kFrame.toList) = false := by rw [(Lib.bytes_beq_iff key kFun).1 h1]; kernel_rfl
    have k1 : sepWB key = [47] := by unfold sepWB; rw [if_pos (show (key.toList == kFun.toList) = true from h1)]
    have k2 : sepTB key = [32] := by unfold sepTB; rw [if_neg (show ¬ (key.toList == kRule.toList) = true from by rw [show (key.toList == kRule.toList) = false from h2]; simp), if_neg (show ¬ (key.toList == kFrame.toList) = true from by rw [show (key.toList == kFrame.toList) = false from h3]; simp)]
    have k3 : colNB key = [] := by unfold colNB; rw [if_neg (show ¬ (key.toList == kFrame.toList) = true from by rw [show (key.toList == kFrame.toList) = false from h3]; simp)]
    have R1 := Lib.hid (fun (W : World) (h : Below wz.heap.size wz W) => (RW.out W (below_next HB0.out h) ⟨#[47]⟩ k1.symm).mono fun e w' hh => (show e = .returned (.string S1) ∧ Below wz.heap.size wz w' from ⟨hh.1, below_next h hh.2⟩))
    have R2 := Lib.hid (fun (W : World) (h : Below wz.heap.size wz W) => (RT.out W (below_next HB0.out h) ⟨#[32]⟩ k2.symm).mono fun e w' hh => (show e = .returned (.string S2) ∧ Below wz.heap.size wz w' from ⟨hh.1, below_next h hh.2⟩))
    have HS := Lib.hid (HSUM.out ⟨#[]⟩ k3.symm)
    clear RW RT HSUM HBX
    rw [kFun_l] at h1
    try rw [kRule_l] at h2
    try rw [kFrame_l] at h3
    go_enter Tryd.func29, Tryd.ntmps29
    go_wp2_with fail
    rw [← hwz]
    clear hwz
    go_region_held3 (fun W => Below wz.heap.size wz W ∧ W.cell? ⟨w.heap.size, 0, none⟩ = some (.string key) ∧ W.cell? ⟨w.heap.size, 2, none⟩ = some (.slice wa nw wc) ∧ W.cell? ⟨w.heap.size, 3, none⟩ = some (.slice ta nt tc)) (first | exact KEEP.out _ (by with_reducible assumption) | exact KEEP.out _ D0.out)
      ((first
        | (go_at_call 48; (with_reducible refine (R1.out _ D0.out).mono ?_); rintro e w9 ⟨rfl, hb9⟩)
        | (go_at_call 48; (with_reducible refine (R2.out _ hb9).mono ?_); rintro e w10 ⟨rfl, hb10⟩)))
    have HBE := Lib.hid hb10
    clear hb9 hb10
    go_wp2_with fail
    go_ret
    exact ⟨by rw [← HS.out]; rfl, below_next HB0.out HBE.out⟩
  | false =>
    have k1 : sepWB key = [32] := by unfold sepWB; rw [if_neg (show ¬ (key.toList == kFun.toList) = true from by rw [show (key.toList == kFun.toList) = false from h1]; simp)]
    cases h2 : (key.toList == kRule.toList) with
    | true =>
      have h3 : (key.toList == kFrame.toList) = false := by rw [(Lib.bytes_beq_iff key kRule).1 h2]; kernel_rfl
      have k2 : sepTB key = [32, 61, 32] := by unfold sepTB; rw [if_pos (show (key.toList == kRule.toList) = true from h2)]
      have k3 : colNB key = [] := by unfold colNB; rw [if_neg (show ¬ (key.toList == kFrame.toList) = true from by rw [show (key.toList == kFrame.toList) = false from h3]; simp)]
      have R1 := Lib.hid (fun (W : World) (h : Below wz.heap.size wz W) => (RW.out W (below_next HB0.out h) ⟨#[32]⟩ k1.symm).mono fun e w' hh => (show e = .returned (.string S1) ∧ Below wz.heap.size wz w' from ⟨hh.1, below_next h hh.2⟩))
      have R2 := Lib.hid (fun (W : World) (h : Below wz.heap.size wz W) => (RT.out W (below_next HB0.out h) ⟨#[32, 61, 32]⟩ k2.symm).mono fun e w' hh => (show e = .returned (.string S2) ∧ Below wz.heap.size wz w' from ⟨hh.1, below_next h hh.2⟩))
      have HS := Lib.hid (HSUM.out ⟨#[]⟩ k3.symm)
      clear RW RT HSUM HBX
      rw [kFun_l] at h1
      try rw [kRule_l] at h2
      try rw [kFrame_l] at h3
      go_enter Tryd.func29, Tryd.ntmps29
      go_wp2_with fail
      rw [← hwz]
      clear hwz
      go_region_held3 (fun W => Below wz.heap.size wz W ∧ W.cell? ⟨w.heap.size, 0, none⟩ = some (.string key) ∧ W.cell? ⟨w.heap.size, 2, none⟩ = some (.slice wa nw wc) ∧ W.cell? ⟨w.heap.size, 3, none⟩ = some (.slice ta nt tc)) (first | exact KEEP.out _ (by with_reducible assumption) | exact KEEP.out _ D0.out)
        ((first
          | (go_at_call 48; (with_reducible refine (R1.out _ D0.out).mono ?_); rintro e w9 ⟨rfl, hb9⟩)
          | (go_at_call 48; (with_reducible refine (R2.out _ hb9).mono ?_); rintro e w10 ⟨rfl, hb10⟩)))
      have HBE := Lib.hid hb10
      clear hb9 hb10
      go_wp2_with fail
      go_ret
      exact ⟨by rw [← HS.out]; rfl, below_next HB0.out HBE.out⟩
    | false =>
      cases h3 : (key.toList == kFrame.toList) with
      | true =>
        have k2 : sepTB key = [59, 32] := by unfold sepTB; rw [if_neg (show ¬ (key.toList == kRule.toList) = true from by rw [show (key.toList == kRule.toList) = false from h2]; simp), if_pos (show (key.toList == kFrame.toList) = true from h3)]
        have k3 : colNB key = [58] := by unfold colNB; rw [if_pos (show (key.toList == kFrame.toList) = true from h3)]
        have R1 := Lib.hid (fun (W : World) (h : Below wz.heap.size wz W) => (RW.out W (below_next HB0.out h) ⟨#[32]⟩ k1.symm).mono fun e w' hh => (show e = .returned (.string S1) ∧ Below wz.heap.size wz w' from ⟨hh.1, below_next h hh.2⟩))
        have R2 := Lib.hid (fun (W : World) (h : Below wz.heap.size wz W) => (RT.out W (below_next HB0.out h) ⟨#[59, 32]⟩ k2.symm).mono fun e w' hh => (show e = .returned (.string S2) ∧ Below wz.heap.size wz w' from ⟨hh.1, below_next h hh.2⟩))
        have HS := Lib.hid (HSUM.out ⟨#[58]⟩ k3.symm)
        clear RW RT HSUM HBX
        rw [kFun_l] at h1
        try rw [kRule_l] at h2
        try rw [kFrame_l] at h3
        go_enter Tryd.func29, Tryd.ntmps29
        go_wp2_with fail
        rw [← hwz]
        clear hwz
        go_region_held3 (fun W => Below wz.heap.size wz W ∧ W.cell? ⟨w.heap.size, 0, none⟩ = some (.string key) ∧ W.cell? ⟨w.heap.size, 2, none⟩ = some (.slice wa nw wc) ∧ W.cell? ⟨w.heap.size, 3, none⟩ = some (.slice ta nt tc)) (first | exact KEEP.out _ (by with_reducible assumption) | exact KEEP.out _ D0.out)
          ((first
            | (go_at_call 48; (with_reducible refine (R1.out _ D0.out).mono ?_); rintro e w9 ⟨rfl, hb9⟩)
            | (go_at_call 48; (with_reducible refine (R2.out _ hb9).mono ?_); rintro e w10 ⟨rfl, hb10⟩)))
        have HBE := Lib.hid hb10
        clear hb9 hb10
        go_wp2_with fail
        go_ret
        exact ⟨by rw [← HS.out]; rfl, below_next HB0.out HBE.out⟩
      | false =>
        have k2 : sepTB key = [32] := by unfold sepTB; rw [if_neg (show ¬ (key.toList == kRule.toList) = true from by rw [show (key.toList == kRule.toList) = false from h2]; simp), if_neg (show ¬ (key.toList == kFrame.toList) = true from by rw [show (key.toList == kFrame.toList) = false from h3]; simp)]
        have k3 : colNB key = [] := by unfold colNB; rw [if_neg (show ¬ (key.toList == kFrame.toList) = true from by rw [show (key.toList == kFrame.toList) = false from h3]; simp)]
        have R1 := Lib.hid (fun (W : World) (h : Below wz.heap.size wz W) => (RW.out W (below_next HB0.out h) ⟨#[32]⟩ k1.symm).mono fun e w' hh => (show e = .returned (.string S1) ∧ Below wz.heap.size wz w' from ⟨hh.1, below_next h hh.2⟩))
        have R2 := Lib.hid (fun (W : World) (h : Below wz.heap.size wz W) => (RT.out W (below_next HB0.out h) ⟨#[32]⟩ k2.symm).mono fun e w' hh => (show e = .returned (.string S2) ∧ Below wz.heap.size wz w' from ⟨hh.1, below_next h hh.2⟩))
        have HS := Lib.hid (HSUM.out ⟨#[]⟩ k3.symm)
        clear RW RT HSUM HBX
        rw [kFun_l] at h1
        try rw [kRule_l] at h2
        try rw [kFrame_l] at h3
        go_enter Tryd.func29, Tryd.ntmps29
        go_wp2_with fail
        rw [← hwz]
        clear hwz
        go_region_held3 (fun W => Below wz.heap.size wz W ∧ W.cell? ⟨w.heap.size, 0, none⟩ = some (.string key) ∧ W.cell? ⟨w.heap.size, 2, none⟩ = some (.slice wa nw wc) ∧ W.cell? ⟨w.heap.size, 3, none⟩ = some (.slice ta nt tc)) (first | exact KEEP.out _ (by with_reducible assumption) | exact KEEP.out _ D0.out)
          ((first
            | (go_at_call 48; (with_reducible refine (R1.out _ D0.out).mono ?_); rintro e w9 ⟨rfl, hb9⟩)
            | (go_at_call 48; (with_reducible refine (R2.out _ hb9).mono ?_); rintro e w10 ⟨rfl, hb10⟩)))
        have HBE := Lib.hid hb10
        clear hb9 hb10
        go_wp2_with fail
        go_ret
        exact ⟨by rw [← HS.out]; rfl, below_next HB0.out HBE.out⟩
end Go.Proofs.YtldgbdmiebipnaaDoor

namespace Go.Proofs.YtldgbdmiebipnaaDoor
open Go.RowKit

theorem showS_take {xs : List It} {q : Nat} (h : q < xs.length) : showS (xs.take (q + 1)) = showS (xs.take q) ++ (lineS xs[q] ++ [10]) := by
  unfold showS
  rw [List.take_succ_eq_append_getElem h, List.flatMap_append]; simp
theorem showS_part (xs : List It) (q : Nat) : (showS (xs.take q)).length ≤ (showS xs).length := by
  have h : showS xs = showS (xs.take q) ++ showS (xs.drop q) := by
    unfold showS
    rw [← List.flatMap_append, List.take_append_drop]
  rw [h, List.length_append]; omega

end Go.Proofs.YtldgbdmiebipnaaDoor

namespace Go.Proofs.YtldgbdmiebipnaaDoor
open Go.RowKit Go.Shelf

set_option maxRecDepth 100000 in
set_option maxHeartbeats 4000000 in
theorem pshows_any (v : Value) (xs : List It) (w : World) (hP : Pow w) (hv : Its w v xs) (hfit : ∀ x ∈ xs, FitI x) (hmost : ∀ x ∈ xs, LenI x) (hlen : (showS xs).length ≤ 100000000) (hts : ∀ x ∈ xs, ∀ t ∈ x.trees, t.parts ≤ 1000000 ∧ wtT (plainR t) ≤ 100000000) (hwf : ∀ x ∈ xs, ∀ t ∈ x.trees, WfR t) :
    Calls Tryd.prog 16 #[v] w fun e w' => e = .returned (.string ⟨(showS xs).toArray⟩) ∧ Below w.heap.size w w' := by
  obtain ⟨a, c, rfl, ⟨hal, hac⟩, hxo⟩ := hv
  have HXO := Lib.hid hxo
  have HF := Lib.hid (fun (y : Iv) (W : World) (hb : Below w.heap.size w W) (hm : y.it ∈ xs) (hy : y.ok W) (hl : (lineS y.it).length ≤ 100000000) => pline_any y W (hP.below hb) hy (hfit _ hm) (hmost _ hm) hl (hts _ hm) (hwf _ hm))
  have HLEN := Lib.hid hlen
  have hF := Lib.fresh_isBuilder 79 5 w
  have hB0 : Below w.heap.size w (w.alloc (.cells #[.pointer none, .slice none 0 0] 79)) := (Below.refl _ _).alloc (Nat.le_refl _) _
  have hs0 : (w.alloc (.cells #[.pointer none, .slice none 0 0] 79)).heap.size = w.heap.size + 1 := by simp
  obtain ⟨w0, hw0⟩ : ∃ w0, w.alloc (.cells #[.pointer none, .slice none 0 0] 79) = w0 := ⟨_, rfl⟩
  rw [hw0] at hF hB0 hs0
  have HB0 := Lib.hid hB0
  have HBF : Hid (Bld w.heap.size w.heap.size [] w0) := Lib.hid hF
  have HW0 := Lib.hid hw0
  have hge0 : w.heap.size ≤ w0.heap.size := by omega
  clear hxo hfit hmost hts hwf hP hF hw0 hB0 hlen
  go_enter Tryd.func16, Tryd.ntmps16
  go_wp2_with fail
  rw [HW0.out]
  go_loopw [8] (fun k wr => ∃ (q : Nat), k = .int .i64 q ∧ q ≤ xs.length ∧ Hid (Bld w.heap.size w.heap.size (showS (xs.take q)) wr) ∧ Below w.heap.size w wr ∧ w.heap.size ≤ wr.heap.size) (fun k _ => xs.length - (intOf k).toNat)
  case atStart => exact ⟨0, rfl, Nat.zero_le _, Lib.hid (by rw [List.take_zero]; exact HBF.out), HB0.out, hge0⟩
  case round =>
    obtain ⟨q, rfl, hq, HP, hb, hge⟩ := hrel
    have HB := Lib.hid hb
    by_cases hql : q < xs.length
    · have hqq : (q : Int) < (xs.length : Int) := by omega
      have hq0 : (0 : Int) ≤ (q : Int) := by omega
      rcases HXO.out with h | ⟨b, o, rfl, hlt, hX⟩
      · rw [h] at hql; cases hql
      obtain ⟨y, hyt, hyk, hya⟩ := hX q hql
      obtain ⟨k0, k1, k2, k3⟩ := hya.below hb
      have hba : Below wr.heap.size wr (wr.alloc (.cells #[.string y.it.key, .int .i64 y.it.spot, y.vw, y.vt] 69)) := (Below.refl _ _).alloc (Nat.le_refl _) _
      have hnx := showS_take hql
      have hpq := showS_part xs (q + 1)
      have hpp := showS_part xs q
      rw [← hyt] at hnx
      have hsm : (showS (xs.take q)).length + ((lineS y.it).length + 1) ≤ 100000000 := by
        have h := congrArg List.length hnx
        have := HLEN.out
        simp only [List.length_append, List.length_singleton] at h; omega
      have HC := HF.out y (wr.alloc (.cells #[.string y.it.key, .int .i64 y.it.spot, y.vw, y.vt] 69)) (below_next hb hba) (by rw [hyt]; exact List.getElem_mem hql) ((hyk.below hb).below hba) (by omega)
      have HBL := Lib.hid (bld_below HP.out hba)
      obtain ⟨z, hz⟩ : ∃ z, lineS y.it ++ [10] = z := ⟨_, rfl⟩
      have hzl : (showS (xs.take q)).length + z.length ≤ 100000000 := by rw [← hz, List.length_append, List.length_singleton]; exact hsm
      rw [hz] at HC hnx
      obtain ⟨aw, cw, e1, _⟩ := hyk.words
      obtain ⟨at_, ct, e2, _⟩ := hyk.trees
      rw [e1, e2] at HC hba HBL
      rw [e1] at k2
      rw [e2] at k3
      replace HC := Lib.hid HC
      have HBA := Lib.hid hba
      have HN := Lib.hid hnx
      have hzz : (⟨z.toArray⟩ : ByteArray).size = z.length := by simp [ByteArray.size]
      have HZ := Lib.hid hzl
      have HZZ := Lib.hid hzz
      clear hX hyt hyk hya hba hnx hpq hz e1 e2 hpp hb hsm hzl hzz
      go_wp2_with fail
      refine HC.out.mono ?_; rintro e w5 ⟨rfl, hb5⟩
      have hge5 := Nat.le_trans (Nat.le_trans hge HBA.out.size) hb5.size
      have WS := Lib.hid (wstr_any w.heap.size w.heap.size (showS (xs.take q)) ⟨z.toArray⟩ w5 (bld_below HBL.out hb5) (by rw [HZZ.out]; have := HZ.out; omega) hge5)
      have HB5 := Lib.hid (below_next (below_next HB.out HBA.out) hb5)
      clear hb5 k0 k1 k2 k3
      go_wp2_with fail
      refine WS.out.mono ?_; rintro e w6 ⟨rfl, hbl6, hk6⟩
      have HBL6 := Lib.hid hbl6
      have HB6 := Lib.hid (HB5.out.trans hk6.below)
      have hge6 := Nat.le_trans hge5 hk6.below.size
      clear hbl6 hk6
      go_wp2_with fail
      go_roundw
      case rel => exact ⟨q + 1, by go_num, by omega, Lib.hid (by rw [HN.out]; exact HBL6.out), HB6.out, hge6⟩
      case measure => simp [intOf]; omega
    · have hqe : q = xs.length := by omega
      have hqn : ¬ ((q : Int) < (xs.length : Int)) := by omega
      have hbl := HP.out
      rw [hqe, List.take_length] at hbl
      have S := Lib.hid (Tryd.Builder_String_any w.heap.size w.heap.size (showS xs) wr hbl (by omega))
      clear hqe hbl
      go_wp2_with fail
      refine S.out.mono ?_; rintro e w7 ⟨rfl, hb7⟩
      go_wp2_with fail
      go_ret
      exact ⟨rfl, HB.out.trans hb7⟩
end Go.Proofs.YtldgbdmiebipnaaDoor

namespace Go.Proofs.YtldgbdmiebipnaaDoor
open Go.RowKit

open Classical in
/-- Two trees alike, but for places. -/
noncomputable def beR (t u : Tr) : Bool := decide (t.bare = u.bare)
theorem beR_true {t u : Tr} (h : t.bare = u.bare) : beR t u = true := by unfold beR; simpa using h
theorem beR_false {t u : Tr} (h : t.bare ≠ u.bare) : beR t u = false := by unfold beR; simpa using h
theorem beR_args {t u : Tr} (h1 : t.kind = u.kind) (h2 : t.text = u.text) (h3 : t.n = u.n) : beR t u = alR t.args u.args := by
  by_cases h : bareL t.args = bareL u.args
  · rw [alR_true h, beR_true (bare_of h1 h2 h3 h)]
  · rw [alR_false h, beR_false (fun e => h (bare_head e).2.2.2)]

set_option maxRecDepth 100000 in
set_option maxHeartbeats 4000000 in
theorem sameTree_of (x y : Rv) (w : World) (H : ∀ W, Below w.heap.size w W → Calls Tryd.prog 51 #[.slice x.a x.t.args.length x.c, .slice y.a y.t.args.length y.c, .func (.func 52) #[] #[]] W fun e w' => e = .returned (.bool (alR x.t.args y.t.args)) ∧ Below W.heap.size W w') :
    Calls Tryd.prog 52 #[x.val, y.val] w fun e w' => e = .returned (.bool (beR x.t y.t)) ∧ Below w.heap.size w w' := by
  obtain ⟨⟨k, s, n, p, xs⟩, a, c⟩ := x
  obtain ⟨⟨k', s', n', p', ys⟩, a', c'⟩ := y
  unfold Rv.val
  simp only [Tr.kind, Tr.text, Tr.n, Tr.spot, Tr.args] at H ⊢
  have hb0 : Below w.heap.size w ((w.alloc (.cells #[.int .i64 k, .string s, .int .i64 n, .int .i64 p, .slice a xs.length c] 36)).alloc (.cells #[.int .i64 k', .string s', .int .i64 n', .int .i64 p', .slice a' ys.length c'] 36)) := ((Below.refl _ _).alloc (Nat.le_refl _) _).alloc (by simp) _
  have HB := Lib.hid hb0
  have HH := Lib.hid (H _ hb0)
  clear H hb0
  cases h1 : (k == k') with
  | false =>
    have HQ := Lib.hid (beR_false (t := .mk k s n p xs) (u := .mk k' s' n' p' ys) (fun e => by have := (bare_head e).1; simp only [Tr.kind] at this; rw [beq_eq_false_iff_ne] at h1; exact h1 this))
    go_enter Tryd.func52, Tryd.ntmps52
    go_wp2_with fail
    go_ret
    exact ⟨ret_bool HQ.out.symm, HB.out⟩
  | true =>
    cases h2 : (s.toList == s'.toList) with
    | false =>
      have HQ := Lib.hid (beR_false (t := .mk k s n p xs) (u := .mk k' s' n' p' ys) (fun e => by have := (bare_head e).2.1; simp only [Tr.text] at this; rw [this, (Lib.bytes_beq_iff _ _).2 rfl] at h2; cases h2))
      go_enter Tryd.func52, Tryd.ntmps52
      go_wp2_with fail
      go_ret
      exact ⟨ret_bool HQ.out.symm, HB.out⟩
    | true =>
      cases h3 : (n == n') with
      | false =>
        have HQ := Lib.hid (beR_false (t := .mk k s n p xs) (u := .mk k' s' n' p' ys) (fun e => by have := (bare_head e).2.2.1; simp only [Tr.n] at this; rw [beq_eq_false_iff_ne] at h3; exact h3 this))
        go_enter Tryd.func52, Tryd.ntmps52
        go_wp2_with fail
        go_ret
        exact ⟨ret_bool HQ.out.symm, HB.out⟩
      | true =>
        have HQ := Lib.hid (beR_args (t := .mk k s n p xs) (u := .mk k' s' n' p' ys) (by show k = k'; simpa using h1) ((Lib.bytes_beq_iff _ _).1 h2) (by show n = n'; simpa using h3))
        simp only [Tr.args] at HQ
        obtain ⟨bb, hbb⟩ : ∃ bb, alR xs ys = bb := ⟨_, rfl⟩
        rw [hbb] at HH HQ
        clear hbb
        go_enter Tryd.func52, Tryd.ntmps52
        go_wp2_with fail
        refine HH.out.mono ?_; rintro e w1 ⟨rfl, hb1⟩
        have HB1 := Lib.hid (below_next HB.out hb1)
        clear hb1
        go_wp2_with fail
        go_ret
        exact ⟨ret_bool HQ.out.symm, HB1.out⟩

set_option maxRecDepth 100000 in
set_option maxHeartbeats 4000000 in
theorem ptrees_any (m : Nat) : ∀ (va vb : Value) (xs ys : List Tr) (w : World), partsR xs ≤ m → Trs w va xs → Trs w vb ys →
    Calls Tryd.prog 51 #[va, vb, .func (.func 52) #[] #[]] w fun e w' => e = .returned (.bool (alR xs ys)) ∧ Below w.heap.size w w' := by
  induction m using Nat.strongRecOn with
  | ind m ih =>
    intro va vb xs ys w hm hx hy
    obtain ⟨a, c, rfl, hal, _, hxo⟩ := hx.open_
    obtain ⟨a', c', rfl, hbl, _, hyo⟩ := hy.open_
    have ST := Lib.hid (fun (j : Nat) (hj : j < xs.length) (x y : Rv) (V : World) (hxe : x.t = xs[j]) (hxk : x.ok V) (hyk : y.ok V) => sameTree_of x y V (fun W hW => ih (partsR x.t.args) (by
      have := partsR_get xs hj
      have := trParts_eq xs[j]
      rw [hxe]; omega) (.slice x.a x.t.args.length x.c) (.slice y.a y.t.args.length y.c) x.t.args y.t.args W (Nat.le_refl _) ⟨x.a, x.c, rfl, (hxk.below hW).2⟩ ⟨y.a, y.c, rfl, (hyk.below hW).2⟩))
    clear ih hm hx hy
    by_cases hlen : xs.length = ys.length
    · have hq : ((xs.length : Int) != (ys.length : Int)) = false := by rw [hlen]; simp
      have HXO := Lib.hid hxo
      have HYO := Lib.hid hyo
      have HLEN := Lib.hid hlen
      clear hxo hyo hlen
      go_enter Tryd.func51, Tryd.ntmps51
      go_wp2_with fail
      go_loopw [17] (fun i wr => ∃ j : Nat, j ≤ xs.length ∧ i = .int .i64 j ∧ Hid (bareL (xs.take j) = bareL (ys.take j)) ∧ Below w.heap.size w wr) (fun i _ => xs.length - (intOf i).toNat)
      case atStart => exact ⟨0, Nat.zero_le _, rfl, Lib.hid rfl, Below.refl _ _⟩
      case round =>
        obtain ⟨j, hj, rfl, HBE, hb⟩ := hrel
        have HB := Lib.hid hb
        by_cases hj1 : j < xs.length
        · have hj2 : j < ys.length := by have := HLEN.out; omega
          have hi1 : (j : Int) < (xs.length : Int) := by omega
          have hi2 : (j : Int) < (ys.length : Int) := by omega
          have hi0 : (0 : Int) ≤ (j : Int) := by omega
          rcases HXO.out with h | ⟨b, o, rfl, hlt, hX⟩
          · rw [h] at hj1; cases hj1
          rcases HYO.out with h | ⟨b', o', rfl, hlt', hY⟩
          · rw [h] at hj2; cases hj2
          obtain ⟨x, hxt, hxk, hxa⟩ := hX j xs[j] (List.getElem?_eq_getElem hj1)
          obtain ⟨y, hyt, hyk, hya⟩ := hY j ys[j] (List.getElem?_eq_getElem hj2)
          obtain ⟨m0, m1, m2, m3, m4⟩ := hxa.below hb
          obtain ⟨k0, k1, k2, k3, k4⟩ := hya.below hb
          have hbl1 : b' < wr.heap.size := Nat.lt_of_lt_of_le hlt' hb.size
          have hbl2 : b' < wr.heap.size + 1 := by omega
          have hV : Below wr.heap.size wr ((wr.alloc (.cells #[.int .i64 x.t.kind, .string x.t.text, .int .i64 x.t.n, .int .i64 x.t.spot, .slice x.a x.t.args.length x.c] 36)).alloc (.cells #[.int .i64 y.t.kind, .string y.t.text, .int .i64 y.t.n, .int .i64 y.t.spot, .slice y.a y.t.args.length y.c] 36)) := ((Below.refl _ _).alloc (Nat.le_refl _) _).alloc (by simp) _
          have HV := Lib.hid (below_next hb hV)
          have C := ST.out j hj1 x y _ hxt (hxk.below HV.out) (hyk.below HV.out)
          have HX1 := Lib.hid hxt
          have HY1 := Lib.hid hyt
          obtain ⟨bb, hbb⟩ : ∃ bb, beR x.t y.t = bb := ⟨_, rfl⟩
          rw [hbb] at C
          have HBB := Lib.hid hbb
          unfold Rv.val at C
          replace C := Lib.hid C
          clear hxk hyk hxa hya hV hxt hyt hbb
          go_wp2_with fail
          refine C.out.mono ?_; rintro e w2 ⟨rfl, hb2⟩
          have HB2 := Lib.hid (below_next HV.out hb2)
          clear hb2
          cases bb with
          | true =>
            go_wp2_with fail
            go_roundw
            case rel =>
              have he : x.t.bare = y.t.bare := by
                have := HBB.out; unfold beR at this; simpa using this
              rw [HX1.out, HY1.out] at he
              exact ⟨j + 1, by omega, by go_num, Lib.hid (by rw [bareL_take_succ hj1, bareL_take_succ hj2, HBE.out, he]), HB2.out⟩
            case measure => simp [intOf]; omega
          | false =>
            have HF := Lib.hid (alR_false (xs := xs) (ys := ys) (fun e => by
              have h := bareL_at e hj1 hj2
              have := HBB.out
              rw [beR_true (by rw [HX1.out, HY1.out]; exact h)] at this
              cases this))
            go_wp2_with fail
            go_ret
            exact ⟨ret_bool HF.out.symm, HB2.out⟩
        · obtain rfl : j = xs.length := by omega
          have hi1 : decide ((xs.length : Int) < (xs.length : Int)) = false := decide_eq_false (by omega)
          have HT := Lib.hid (alR_true (xs := xs) (ys := ys) (by have h := HBE.out; rw [List.take_length, HLEN.out, List.take_length] at h; exact h))
          go_wp2_with fail
          go_ret
          exact ⟨ret_bool HT.out.symm, HB.out⟩
    · have hq : ((xs.length : Int) != (ys.length : Int)) = true := by simp; omega
      have HF := Lib.hid (alR_false (xs := xs) (ys := ys) (fun e => hlen (by have := congrArg List.length e; rw [bareL_map, bareL_map, List.length_map, List.length_map] at this; exact this)))
      clear hxo hyo hlen
      go_enter Tryd.func51, Tryd.ntmps51
      go_wp2_with fail
      go_ret
      exact ⟨ret_bool HF.out.symm, Below.refl _ _⟩
end Go.Proofs.YtldgbdmiebipnaaDoor

namespace Go.Proofs.YtldgbdmiebipnaaDoor
open Go.RowKit

open Classical in
/-- Two items alike, but for places. -/
noncomputable def beI (x y : It) : Bool := decide (x.bare = y.bare)
theorem beI_true {x y : It} (h : x.bare = y.bare) : beI x y = true := by unfold beI; simpa using h
theorem beI_false {x y : It} (h : x.bare ≠ y.bare) : beI x y = false := by unfold beI; simpa using h
theorem four_box (w : World) (k k' : ByteArray) (n n' : Int) (a1 a2 b1 b2 : Option Addr) (l1 l2 m1 m2 c1 c2 d1 d2 : Nat) : Below w.heap.size w ((w.alloc (.cells #[.string k, .int .i64 n, .slice a1 l1 c1, .slice a2 l2 c2] 69)).alloc (.cells #[.string k', .int .i64 n', .slice b1 m1 d1, .slice b2 m2 d2] 69)) := ((Below.refl _ _).alloc (Nat.le_refl _) _).alloc (by simp) _

theorem four_cells2 (w : World) {w1 : World} (k k' : ByteArray) (n n' : Int) (a1 a2 b1 b2 : Option Addr) (l1 l2 m1 m2 c1 c2 d1 d2 : Nat) (h : Below ((w.alloc (.cells #[.string k, .int .i64 n, .slice a1 l1 c1, .slice a2 l2 c2] 69)).alloc (.cells #[.string k', .int .i64 n', .slice b1 m1 d1, .slice b2 m2 d2] 69)).heap.size ((w.alloc (.cells #[.string k, .int .i64 n, .slice a1 l1 c1, .slice a2 l2 c2] 69)).alloc (.cells #[.string k', .int .i64 n', .slice b1 m1 d1, .slice b2 m2 d2] 69)) w1) :
    w1.cell? ⟨w.heap.size, 3, none⟩ = some (.slice a2 l2 c2) ∧ w1.cell? ⟨w.heap.size + 1, 3, none⟩ = some (.slice b2 m2 d2) := by
  have h1 := World.cell?_alloc_mark w #[.string k, .int .i64 n, .slice a1 l1 c1, .slice a2 l2 c2] 69 (0, 0) 3
  have h2 := World.cell?_alloc_mark (w.alloc (.cells #[.string k, .int .i64 n, .slice a1 l1 c1, .slice a2 l2 c2] 69)) #[.string k', .int .i64 n', .slice b1 m1 d1, .slice b2 m2 d2] 69 (0, 0) 3
  have e1 : (w.alloc (.cells #[.string k, .int .i64 n, .slice a1 l1 c1, .slice a2 l2 c2] 69)).heap.size = w.heap.size + 1 := by simp
  rw [e1] at h2
  refine ⟨(h.cell (p := ⟨w.heap.size, 3, none⟩) (by simp; omega)).trans ?_, (h.cell (p := ⟨w.heap.size + 1, 3, none⟩) (by simp)).trans h2⟩
  rw [World.cell?_alloc_lt _ _ _ (by simp)]
  exact h1

set_option maxRecDepth 100000 in
set_option maxHeartbeats 4000000 in
theorem sameItem_of (x y : Iv) (w : World) (hx : x.ok w) (hy : y.ok w) :
    Calls Tryd.prog 32 #[.agg #[.string x.it.key, .int .i64 x.it.spot, x.vw, x.vt], .agg #[.string y.it.key, .int .i64 y.it.spot, y.vw, y.vt]] w fun e w' => e = .returned (.bool (beI x.it y.it)) ∧ Below w.heap.size w w' := by
  obtain ⟨⟨k, n, ws, ts⟩, vw, vt⟩ := x
  obtain ⟨⟨k', n', ws', ts'⟩, vw', vt'⟩ := y
  obtain ⟨hw1, ht1, _⟩ := hx
  obtain ⟨hw2, ht2, _⟩ := hy
  simp only at hw1 ht1 hw2 ht2 ⊢
  have CW := Lib.hid (fun (W : World) (hb : Below w.heap.size w W) => ptrees_any (partsR ws) vw vw' ws ws' W (Nat.le_refl _) (hw1.below hb) (hw2.below hb))
  have CT := Lib.hid (fun (W : World) (hb : Below w.heap.size w W) => ptrees_any (partsR ts) vt vt' ts ts' W (Nat.le_refl _) (ht1.below hb) (ht2.below hb))
  obtain ⟨a1, c1, rfl, _⟩ := hw1
  obtain ⟨a2, c2, rfl, _⟩ := hw2
  obtain ⟨a3, c3, rfl, _⟩ := ht1
  obtain ⟨a4, c4, rfl, _⟩ := ht2
  have HB := Lib.hid (four_box w k k' n n' a1 a3 a2 a4 ws.length ts.length ws'.length ts'.length c1 c3 c2 c4)
  cases h1 : (k.toList == k'.toList) with
  | false =>
    have HQ := Lib.hid (beI_false (x := ⟨k, n, ws, ts⟩) (y := ⟨k', n', ws', ts'⟩) (fun e => by have := (bareI_head e).1; simp only at this; rw [this, (Lib.bytes_beq_iff _ _).2 rfl] at h1; cases h1))
    clear CW CT
    go_enter Tryd.func32, Tryd.ntmps32
    go_wp2_with fail
    go_ret
    exact ⟨ret_bool HQ.out.symm, HB.out⟩
  | true =>
    have K := Lib.hid ((Lib.bytes_beq_iff _ _).1 h1)
    cases hq : alR ws ws' with
    | false =>
      have HQ := Lib.hid (beI_false (x := ⟨k, n, ws, ts⟩) (y := ⟨k', n', ws', ts'⟩) (fun e => by have := (bareI_head e).2.1; rw [alR_true this] at hq; cases hq))
      rw [hq] at CW
      clear CT hq
      go_enter Tryd.func32, Tryd.ntmps32
      go_wp2_with fail
      refine (CW.out _ HB.out).mono ?_; rintro e w1 ⟨rfl, hb1⟩
      have HB1 := Lib.hid (below_next HB.out hb1)
      clear hb1
      go_wp2_with fail
      go_ret
      exact ⟨ret_bool HQ.out.symm, HB1.out⟩
    | true =>
      have HW := Lib.hid (alR_iff.1 hq)
      rw [hq] at CW
      obtain ⟨bb, hbb⟩ : ∃ bb, alR ts ts' = bb := ⟨_, rfl⟩
      have HQ : Hid (beI ⟨k, n, ws, ts⟩ ⟨k', n', ws', ts'⟩ = bb) := Lib.hid (by
        cases bb with
        | true => exact beI_true (bareI_of K.out HW.out (alR_iff.1 hbb))
        | false => exact beI_false (fun e => by have := (bareI_head e).2.2; rw [alR_true this] at hbb; cases hbb))
      rw [hbb] at CT
      clear hq hbb
      go_enter Tryd.func32, Tryd.ntmps32
      go_wp2_with fail
      refine (CW.out _ HB.out).mono ?_; rintro e w1 ⟨rfl, hb1⟩
      have k4 := (four_cells2 w k k' n n' a1 a3 a2 a4 ws.length ts.length ws'.length ts'.length c1 c3 c2 c4 hb1)
      obtain ⟨k1, k2⟩ := k4
      have HB1 := Lib.hid (below_next HB.out hb1)
      clear hb1
      go_wp2_with fail
      refine (CT.out _ HB1.out).mono ?_; rintro e w2 ⟨rfl, hb2⟩
      have HB2 := Lib.hid (below_next HB1.out hb2)
      clear hb2
      go_wp2_with fail
      go_ret
      exact ⟨ret_bool HQ.out.symm, HB2.out⟩

set_option maxRecDepth 100000 in
set_option maxHeartbeats 4000000 in
theorem pitems_any (va vb : Value) (xs ys : List It) (w : World) (hx : Its w va xs) (hy : Its w vb ys) :
    Calls Tryd.prog 31 #[va, vb, .func (.func 32) #[] #[]] w fun e w' => e = .returned (.bool (saI xs ys)) ∧ Below w.heap.size w w' := by
  obtain ⟨a, c, rfl, ⟨hal, _⟩, hxo⟩ := hx
  obtain ⟨a', c', rfl, ⟨hbl, _⟩, hyo⟩ := hy
  by_cases hlen : xs.length = ys.length
  · have hq : ((xs.length : Int) != (ys.length : Int)) = false := by rw [hlen]; simp
    have HXO := Lib.hid hxo
    have HYO := Lib.hid hyo
    have HLEN := Lib.hid hlen
    clear hxo hyo hlen
    go_enter Tryd.func31, Tryd.ntmps31
    go_wp2_with fail
    go_loopw [17] (fun i wr => ∃ j : Nat, j ≤ xs.length ∧ i = .int .i64 j ∧ Hid ((xs.take j).map It.bare = (ys.take j).map It.bare) ∧ Below w.heap.size w wr) (fun i _ => xs.length - (intOf i).toNat)
    case atStart => exact ⟨0, Nat.zero_le _, rfl, Lib.hid rfl, Below.refl _ _⟩
    case round =>
      obtain ⟨j, hj, rfl, HBE, hb⟩ := hrel
      have HB := Lib.hid hb
      by_cases hj1 : j < xs.length
      · have hj2 : j < ys.length := by have := HLEN.out; omega
        have hi1 : (j : Int) < (xs.length : Int) := by omega
        have hi2 : (j : Int) < (ys.length : Int) := by omega
        have hi0 : (0 : Int) ≤ (j : Int) := by omega
        rcases HXO.out with h | ⟨b, o, rfl, hlt, hX⟩
        · rw [h] at hj1; cases hj1
        rcases HYO.out with h | ⟨b', o', rfl, hlt', hY⟩
        · rw [h] at hj2; cases hj2
        obtain ⟨x, hxt, hxk, hxa⟩ := hX j hj1
        obtain ⟨y, hyt, hyk, hya⟩ := hY j hj2
        obtain ⟨m0, m1, m2, m3⟩ := hxa.below hb
        obtain ⟨k0, k1, k2, k3⟩ := hya.below hb
        have HXT := Lib.hid hxt
        have HYT := Lib.hid hyt
        have ST := Lib.hid (fun (V : World) (hV : Below wr.heap.size wr V) => sameItem_of x y V ((hxk.below hb).below hV) ((hyk.below hb).below hV))
        obtain ⟨ux, cx, e1, _⟩ := hxk.words
        obtain ⟨uy, cy, e2, _⟩ := hyk.words
        obtain ⟨tx, dx, e3, _⟩ := hxk.trees
        obtain ⟨ty, dy, e4, _⟩ := hyk.trees
        rw [e1, e2, e3, e4] at ST
        rw [e1] at m2; rw [e2] at k2; rw [e3] at m3; rw [e4] at k3
        have HV := Lib.hid (four_box wr x.it.key y.it.key x.it.spot y.it.spot ux tx uy ty x.it.words.length x.it.trees.length y.it.words.length y.it.trees.length cx dx cy dy)
        have C := ST.out _ HV.out
        have hbl1 : b' < wr.heap.size := Nat.lt_of_lt_of_le hlt' hb.size
        have hbl2 : b' < wr.heap.size + 1 := by omega
        obtain ⟨bb, hbb⟩ : ∃ bb, beI x.it y.it = bb := ⟨_, rfl⟩
        rw [hbb] at C
        have HBB := Lib.hid hbb
        replace C := Lib.hid C
        clear hxk hyk hxa hya hxt hyt hbb e1 e2 e3 e4 ST hX hY
        go_wp2_with fail
        refine C.out.mono ?_; rintro e w2 ⟨rfl, hb2⟩
        have HB2 := Lib.hid (below_next HB.out (below_next HV.out hb2))
        clear hb2
        cases bb with
        | true =>
          go_wp2_with fail
          go_roundw
          case rel =>
            have he : x.it.bare = y.it.bare := by
              have := HBB.out; unfold beI at this; simpa using this
            rw [HXT.out, HYT.out] at he
            exact ⟨j + 1, by omega, by go_num, Lib.hid (by rw [bareI_succ hj1, bareI_succ hj2, HBE.out, he]), HB2.out⟩
          case measure => simp [intOf]; omega
        | false =>
          have HF := Lib.hid (saI_false (xs := xs) (ys := ys) (fun e => by
            have h := bareI_at e hj1 hj2
            have := HBB.out
            rw [beI_true (by rw [HXT.out, HYT.out]; exact h)] at this
            cases this))
          go_wp2_with fail
          go_ret
          exact ⟨ret_bool HF.out.symm, HB2.out⟩
      · obtain rfl : j = xs.length := by omega
        have hi1 : decide ((xs.length : Int) < (xs.length : Int)) = false := decide_eq_false (by omega)
        have HT := Lib.hid (saI_true (xs := xs) (ys := ys) (by have h := HBE.out; rw [List.take_length, HLEN.out, List.take_length] at h; exact h))
        go_wp2_with fail
        go_ret
        exact ⟨ret_bool HT.out.symm, HB.out⟩
  · have hq : ((xs.length : Int) != (ys.length : Int)) = true := by simp; omega
    have HF := Lib.hid (saI_false (xs := xs) (ys := ys) (fun e => hlen (by have := congrArg List.length e; simpa using this)))
    clear hxo hyo hlen
    go_enter Tryd.func31, Tryd.ntmps31
    go_wp2_with fail
    go_ret
    exact ⟨ret_bool HF.out.symm, Below.refl _ _⟩

set_option maxRecDepth 100000 in
theorem psame_any (va vb : Value) (xs ys : List It) (w : World) (hx : Its w va xs) (hy : Its w vb ys) :
    Calls Tryd.prog 17 #[va, vb] w fun e w' => e = .returned (.bool (saI xs ys)) ∧ Below w.heap.size w w' := by
  have C := Lib.hid (pitems_any va vb xs ys w hx hy)
  obtain ⟨a, c, rfl, _, _⟩ := hx
  obtain ⟨a', c', rfl, _, _⟩ := hy
  obtain ⟨bb, hbb⟩ : ∃ bb, saI xs ys = bb := ⟨_, rfl⟩
  rw [hbb] at C ⊢
  clear hbb
  go_enter Tryd.func17, Tryd.ntmps17
  go_wp2_with fail
  refine C.out.mono ?_; rintro e w1 ⟨rfl, hb1⟩
  go_wp2_with fail
  go_ret
  exact ⟨rfl, hb1⟩
end Go.Proofs.YtldgbdmiebipnaaDoor

namespace Go.Proofs.YtldgbdmiebipnaaDoor
open Go.RowKit

theorem gramI_of (w : World) (hT : Tabs w) : GramI w where
  toGramA := gramA_of w hT
  show_ v xs W hb hv hx := by
    obtain ⟨s, _, rfl⟩ := hx
    obtain ⟨h1, h2, h3⟩ := items_small s
    exact pshows_any v _ W (Pow.below ⟨hT.pow, hT.size.1⟩ hb) hv h1 (items_most s) h3 h2 (items_wf s)
  same va vb xs ys W _ ha hb _ _ := psame_any va vb xs ys W ha hb
end Go.Proofs.YtldgbdmiebipnaaDoor

namespace Go.Proofs.YtldgbdmiebipnaaDoor
open Go.RowKit

theorem lawBack11_any (s : ByteArray) (w : World) (hT : Tabs w) :
    Calls Tryd.prog 5 #[.string s] w fun e w' => e = .returned (.bool true) ∧ Below w.heap.size w w' :=
  lawBack11_of w (gramI_of w hT) s
end Go.Proofs.YtldgbdmiebipnaaDoor
