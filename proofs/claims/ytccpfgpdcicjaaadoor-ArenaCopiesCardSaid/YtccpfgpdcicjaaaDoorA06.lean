/-
  A term's number, by the program's Put: what is in it is put first.
  Whether a node's arguments are there, by the program: ContainsFunc of lacks.
  What a node is found by, by the program: keyOf.
  A row of terms, clipped, by the program's Clip; where an entry lies.
-/
import Derived.Test.YtccpfgpdcicjaaaDoorA05
import Derived.Test.YtccpfgpdcicjaaaDoorShelf
import Derived.Maps.AppendAt
import Derived.Lib.BufferRead
namespace Go.Proofs.YtccpfgpdcicjaaaDoor
open Go.RowKit Go.Maps

/-- A cell of a row of one-cell elements, written. -/
theorem own_put1 {w : World} {base : Nat} {e : TypeId} {g n c : Nat} {xs : List Value} (h : w.ownsRow base e 1 (.slice (some ⟨g, 0, none⟩) n c) n xs) (k : Nat) (v : Value) : (w.setCell ⟨g, k, none⟩ v).ownsRow base e 1 (.slice (some ⟨g, 0, none⟩) n c) n (xs.set k v) := by
  obtain ⟨hn, ⟨h, _⟩ | ⟨g', cap, cur, hv, hb, hg, h1, h2, h3, htake⟩⟩ := h
  · cases h
  · cases hv
    refine ⟨by rw [List.length_set]; exact hn, .inr ⟨g, c, _, rfl, hb, heap_setCell_same hg v, h1, h2, by simpa using h3, ?_⟩⟩
    rw [← htake]
    simp only [Array.toList_setIfInBounds, List.take_set]
theorem own_cell1 {w : World} {base : Nat} {e : TypeId} {g n c : Nat} {xs : List Value} (h : w.ownsRow base e 1 (.slice (some ⟨g, 0, none⟩) n c) n xs) {k : Nat} (hk : k < n) : (∃ v, w.cell? ⟨g, k, none⟩ = some v) ∧ w.frozen? ⟨g, k, none⟩ = false := by
  obtain ⟨hn, ⟨h, _⟩ | ⟨g', cap, cur, hv, hb, hg, h1, h2, h3, htake⟩⟩ := h
  · cases h
  · cases hv
    have hc : k < cur.size := by omega
    exact ⟨⟨cur[k], by rw [cell_of_row w g k cur e (0, 0) hg]; exact Array.getElem?_eq_getElem hc⟩, frozen_of_row w g k cur e hg⟩
/-- The numbers that stand in the row so far. -/
def NumsSo (L : List Tm) (xs : List Tm) (q : Nat) (vals : List Value) : Prop := vals.length = xs.length ∧ ∀ (j : Nat) (h : j < xs.length), j < q → vals[j]? = some (.int .i64 (numT L xs[j]))
theorem NumsSo.all {L xs : List Tm} {vals : List Value} (h : NumsSo L xs xs.length vals) : vals = (xs.map (numT L)).map (Value.int .i64) := by
  apply List.ext_getElem?
  intro j
  rcases Nat.lt_or_ge j xs.length with hj | hj
  · rw [h.2 j hj hj, List.getElem?_map, List.getElem?_map, List.getElem?_eq_getElem hj]; rfl
  · rw [List.getElem?_eq_none (by rw [h.1]; exact hj), List.getElem?_eq_none (by rw [List.length_map, List.length_map]; exact hj)]
theorem NumsSo.more {L L2 xs : List Tm} {q : Nat} {vals : List Value} (h : NumsSo L xs q vals) (hq : q < xs.length) (hin : ∀ (j : Nat) (hj : j < xs.length), j < q → numT L2 xs[j] = numT L xs[j]) : NumsSo L2 xs (q + 1) (vals.set q (.int .i64 (numT L2 xs[q]))) := by
  refine ⟨by rw [List.length_set]; exact h.1, fun j hj hjq => ?_⟩
  by_cases e : j = q
  · subst e; rw [List.getElem?_set_self (by rw [h.1]; exact hj)]
  · rw [List.getElem?_set_ne (by omega), h.2 j hj (by omega), hin j hj (by omega)]
theorem gets_back {L xs : List Tm} (h : ∀ x ∈ xs, x ∈ L) : getsT L (xs.map (numT L)) = xs := by
  unfold getsT
  rw [List.map_map]
  conv => rhs; rw [← List.map_id xs]
  refine List.map_congr_left fun x hx => ?_
  have h1 := idxT_mem (h x hx)
  have h2 := idxT_get h1
  show L.getD (numT L x).toNat default = x
  rw [numT_in (h x hx), Int.toNat_natCast, List.getD_eq_getElem?_getD, h2]; rfl
theorem num_inR {L xs : List Tm} (h : ∀ x ∈ xs, x ∈ L) : ∀ i ∈ xs.map (numT L), InR L i := fun i hi => by
  obtain ⟨x, hx, rfl⟩ := List.mem_map.1 hi
  rw [numT_in (h x hx)]
  have := idxT_mem (h x hx)
  exact ⟨by omega, by omega⟩
theorem few1_of {x : Tv} {w : World} (hx : x.ok w) (hw : withinB x.t 300 = true) : Few1 x.t :=
  ⟨hx.1, within_names hw _ (by cases x.t; rw [Tm.all]; exact List.mem_cons_self ..), by have := within_parts hw; omega⟩
/-- Where an arena stands behind an elder one. -/
structure ArGo (C : Nat → Prop) (w0 W : World) (p : Value) (L : List Tm) (C' : Nat → Prop) (W' : World) : Prop where
  ar : AR C' w0 W' p L
  step : Step C w0 W w0 W'
  new : ∀ k, C' k → C k ∨ W.heap.size ≤ k
theorem ArGo.refl {C : Nat → Prop} {w0 W : World} {p : Value} {L : List Tm} (h : AR C w0 W p L) : ArGo C w0 W p L C W := ⟨h, Step.refl (ar_reads h), fun _ hk => .inl hk⟩
theorem ArGo.below {C C1 : Nat → Prop} {w0 W W1 W2 : World} {p : Value} {L : List Tm} (h : ArGo C w0 W p L C1 W1) (hb : Below W1.heap.size W1 W2) : ArGo C w0 W p L C1 W2 := ⟨ar_below h.ar hb, h.step.below hb, h.new⟩
theorem ArGo.more {C C1 : Nat → Prop} {w0 W W1 W2 : World} {p : Value} {L L2 : List Tm} {R : Ending → World → Prop} {e : Ending} (h : ArGo C w0 W p L C1 W1) (k : ArPost AR C1 w0 W1 p L2 R e W2) : ∃ C2, R e W2 ∧ ArGo C w0 W p L2 C2 W2 ∧ Step C1 w0 W1 w0 W2 ∧ ∀ b, C2 b → C1 b ∨ W1.heap.size ≤ b := by
  obtain ⟨C2, hr, h2, hs, hn⟩ := k
  refine ⟨C2, hr, ⟨h2, step_then h.step h.new hs, fun b hb => ?_⟩, hs, hn⟩
  rcases hn b hb with h1 | h1
  · exact h.new b h1
  · exact .inr (Nat.le_trans h.step.size h1)
theorem ArGo.set {C C1 : Nat → Prop} {w0 W W1 : World} {p : Value} {L : List Tm} (h : ArGo C w0 W p L C1 W1) {q : Addr} (hq : W.heap.size ≤ q.block) (hc : ¬ C1 q.block) (hr0 : Reads w0 W) (v : Value) : ArGo C w0 W p L C1 (W1.setCell q v) := by
  have hb : Blind w0 q.block := blind_new (Nat.le_trans hr0.size hq)
  exact ⟨ar_stay h.ar ((Step.refl (C := fun k => k = q.block) (ar_reads h.ar)).set hb (fun _ => rfl) v) (fun k hk e => hc (by rw [← e]; exact hk)) (fun k hk => by rw [hk]; exact hb), h.step.set hb (fun hlt => by omega) v, h.new⟩
theorem ArGo.post {C C1 : Nat → Prop} {w0 W W1 : World} {p : Value} {L : List Tm} {R : Ending → World → Prop} {e : Ending} (h : ArGo C w0 W p L C1 W1) (hr : R e W1) : ArPost AR C w0 W p L R e W1 := ⟨C1, hr, h.ar, h.step, h.new⟩
end Go.Proofs.YtccpfgpdcicjaaaDoor

namespace Go.Proofs.YtccpfgpdcicjaaaDoor
open Go.RowKit Go.Maps

set_option maxRecDepth 100000 in
theorem idx_lacks (g bm : Nat) (a : Option Addr) (n c : Nat) (ai : Option Addr) (ci : Nat) (is : List Int) (W : World) (h : Head W g bm (.slice a n c)) (hi : Nums W (.slice ai is.length ci) is) :
    Calls Tryd.prog 50 #[.slice ai is.length ci, .func (.func 37) #[.pointer (some ⟨g, 0, none⟩)] #[]] W fun e W' => (∃ r : Int, e = .returned (.int .i64 r) ∧ (0 ≤ r ↔ ¬ ∀ i ∈ is, 0 ≤ i ∧ i < (n : Int))) ∧ W' = W := by
  have LK := Lib.hid (fun i => lacks_any g bm a n c i W h)
  obtain ⟨ai', ci', he, _, _, hir, hn⟩ := hi
  obtain ⟨rfl, rfl⟩ : ai = ai' ∧ ci = ci' := by cases he; exact ⟨rfl, rfl⟩
  have HN := Lib.hid hn
  clear h hn he
  go_enter Tryd.func50, Tryd.ntmps50
  go_wp2_with fail
  go_loopw [8] (fun i wr => ∃ k : Nat, k ≤ is.length ∧ i = .int .i64 k ∧ Hid (∀ j (h : j < is.length), j < k → 0 ≤ is[j] ∧ is[j] < (n : Int)) ∧ wr = W) (fun i _ => is.length - (intOf i).toNat)
  case atStart => exact ⟨0, Nat.zero_le _, rfl, Lib.hid (fun j _ h => by omega), rfl⟩
  case round =>
    obtain ⟨k, hk, rfl, HB, rfl⟩ := hrel
    by_cases hkl : k < is.length
    · have hi : (k : Int) < (is.length : Int) := by omega
      have hk0 : (0 : Int) ≤ (k : Int) := by omega
      obtain ⟨b, off, rfl, hlt, hc⟩ := HN.out.resolve_left (by intro h; rw [h] at hkl; simp at hkl)
      have d0 := hc k is[k] (List.getElem?_eq_getElem hkl)
      cases hx : decide (is[k] < 0 ∨ (n : Int) ≤ is[k]) with
      | true =>
        have HX := Lib.hid (of_decide_eq_true hx)
        have L1 := Lib.hid (LK.out is[k])
        rw [hx] at L1
        obtain ⟨x, hxe⟩ : ∃ x, is[k] = x := ⟨_, rfl⟩
        have HXE := Lib.hid hxe
        rw [hxe] at d0 L1 HX
        clear hx hxe hc
        go_wp2_with fail
        refine L1.out.mono ?_; rintro e w1 ⟨rfl, rfl⟩
        go_wp2_with fail
        go_ret
        refine ⟨⟨k, rfl, ⟨fun _ hall => ?_, fun _ => by omega⟩⟩, rfl⟩
        have := hall is[k] (List.getElem_mem hkl)
        rw [HXE.out] at this
        have := HX.out
        omega
      | false =>
        have HX := Lib.hid (of_decide_eq_false hx)
        have L1 := Lib.hid (LK.out is[k])
        rw [hx] at L1
        obtain ⟨x, hxe⟩ : ∃ x, is[k] = x := ⟨_, rfl⟩
        have HXE := Lib.hid hxe
        rw [hxe] at d0 L1 HX
        clear hx hxe hc
        go_wp2_with fail
        refine L1.out.mono ?_; rintro e w1 ⟨rfl, rfl⟩
        go_wp2_with fail
        go_roundw
        case rel =>
          refine ⟨k + 1, by omega, by go_num, Lib.hid (fun j hj hjk => ?_), by first | rfl | trivial⟩
          by_cases e : j = k
          · subst e; rw [HXE.out]; have := HX.out; omega
          · exact HB.out j hj (by omega)
        case measure => simp [intOf]; omega
    · obtain rfl : k = is.length := by omega
      go_wp2_with fail
      go_ret
      refine ⟨⟨-1, rfl, ⟨fun h => by omega, fun h => absurd (fun i hi => ?_) h⟩⟩, rfl⟩
      obtain ⟨j, hj, rfl⟩ := List.getElem_of_mem hi
      exact HB.out j hj hj
set_option maxRecDepth 100000 in
theorem has_lacks (g bm : Nat) (a : Option Addr) (n c : Nat) (ai : Option Addr) (ci : Nat) (is : List Int) (W : World) (h : Head W g bm (.slice a n c)) (hi : Nums W (.slice ai is.length ci) is) (b : Bool) (hb : b = true ↔ ¬ ∀ i ∈ is, 0 ≤ i ∧ i < (n : Int)) :
    Calls Tryd.prog 42 #[.slice ai is.length ci, .func (.func 37) #[.pointer (some ⟨g, 0, none⟩)] #[]] W fun e W' => e = .returned (.bool b) ∧ W' = W := by
  have IX := Lib.hid (idx_lacks g bm a n c ai ci is W h hi)
  have HB := Lib.hid hb
  clear h hi hb
  go_enter Tryd.func42, Tryd.ntmps42
  go_wp2_with fail
  refine IX.out.mono ?_; rintro e w1 ⟨⟨r, rfl, hr⟩, rfl⟩
  cases b with
  | true =>
    have h0 : (0 : Int) ≤ r := hr.2 (HB.out.1 rfl)
    clear hr
    go_wp2_with fail
    go_ret
    exact ⟨rfl, rfl⟩
  | false =>
    have h0 : r < (0 : Int) := by
      rcases Int.lt_or_le r 0 with h | h
      · exact h
      · have := HB.out.2 (hr.1 h); cases this
    have h1 : ¬ (0 : Int) ≤ r := by omega
    clear hr
    go_wp2_with fail
    go_ret
    exact ⟨by simp; omega, rfl⟩
end Go.Proofs.YtccpfgpdcicjaaaDoor

namespace Go.Proofs.YtccpfgpdcicjaaaDoor
open Go.RowKit Go.Maps

theorem byteInfo : (Tryd.prog.info? 5).map (fun i => (i.zero, i.size, i.bytes)) = some (some (.int .u8 0), 1, 1) := by kernel_rfl
/-- A row of bytes of the call's own, as a text. -/
theorem own_text {w : World} {base n : Nat} {v : Value} {l : List UInt8} (h : w.ownsRow base 5 1 v n (Lib.byteCells l)) :
    (convert 86 9 v).run Tryd.prog w = .ok (.string ⟨l.toArray⟩) w := by
  obtain ⟨hn, h⟩ := h
  have hnl : l.length = n := by rw [Lib.byteCells_length] at hn; omega
  subst hnl
  rcases h with ⟨rfl, h0⟩ | ⟨g, cap, cur, rfl, _, hg, _, _, _, htake⟩
  · obtain rfl : l = [] := List.eq_nil_of_length_eq_zero h0
    exact Lib.run_convert_nil_bytes w _ _ _ _ Tryd.underlying86 Tryd.underlying5 Tryd.underlying9
  · exact run_convert_bytes_back w _ _ _ _ cap l Tryd.underlying86 Tryd.underlying5 Tryd.underlying9 (Lib.bytes_of_row hg (by rw [Nat.mul_one] at htake; exact htake))
theorem numsL_take {is : List Nat} {k : Nat} (h : k < is.length) : numsL (is.take (k + 1)) = numsL (is.take k) ++ Lib.itoa (is[k] : Int) ++ [44] := by
  rw [List.take_succ_eq_append_getElem h, numsL_snoc]
theorem numsL_take_len {is : List Nat} (h : ∀ i ∈ is, i ≤ 100000) (k : Nat) : (numsL (is.take k)).length ≤ is.length * 22 := by
  have h1 := numsL_len (l := is.take k) (fun i hi => by have := h i (List.mem_of_mem_take hi); omega)
  have h2 : (is.take k).length ≤ is.length := by rw [List.length_take]; exact Nat.min_le_right _ _
  omega
set_option maxRecDepth 100000 in
set_option maxHeartbeats 1000000 in
theorem keyOf_any (k : Int) (s : ByteArray) (n : Int) (is : List Nat) (ai : Option Addr) (ci : Nat) (W : World) (hT : Pow W) (hi : Nums W (.slice ai is.length ci) (is.map fun i : Nat => (i : Int))) (hl : is.length ≤ 1000) (h63 : ∀ i ∈ is, i ≤ 100000) :
    Calls Tryd.prog 43 #[.agg #[.int .i64 k, .string s, .int .i64 n, .slice ai is.length ci]] W fun e W' => e = .returned (keyV k n s is) ∧ Below W.heap.size W W' := by
  obtain ⟨i0, hi0, hiz0, his0, hib0⟩ := info_parts byteInfo
  obtain ⟨ai', ci', he, _, _, _, hnn⟩ := hi
  obtain ⟨rfl, rfl⟩ : ai = ai' ∧ ci = ci' := by rw [List.length_map] at he; cases he; exact ⟨rfl, rfl⟩
  obtain ⟨wb, hwb⟩ : ∃ wb, wb = (W.alloc (.cells #[.int .i64 k, .string s, .int .i64 n, .slice ai is.length ci] 38)).alloc (.cells #[.int .i64 0, .int .i64 0, .string ⟨#[]⟩, .string ⟨#[]⟩] 75) := ⟨_, rfl⟩
  have hz1 : (W.alloc (.cells #[.int .i64 k, .string s, .int .i64 n, .slice ai is.length ci] 38)).heap.size = W.heap.size + 1 := by simp
  have hzb : wb.heap.size = W.heap.size + 2 := by rw [hwb]; simp
  have hBW : Below W.heap.size W wb := by rw [hwb]; exact ((Below.refl _ _).alloc (Nat.le_refl _) _).alloc (by rw [hz1]; omega) _
  have bx : Box wb W.heap.size (.int .i64 k) (.string s) (.int .i64 n) (.slice ai is.length ci) := by rw [hwb]; exact (box_new W _ _ _ _ _).below ((Below.refl _ _).alloc (Nat.le_refl _) _) (by rw [hz1]; omega)
  have bk : Box wb (W.heap.size + 1) (.int .i64 0) (.int .i64 0) (.string ⟨#[]⟩) (.string ⟨#[]⟩) := by rw [hwb, ← hz1]; exact box_new _ _ _ _ _ _
  have HT := Lib.hid (Lib.tabBelow_of_tabIs (hT.below hBW).pow)
  have HN := Lib.hid (fun (V : World) (h : Below wb.heap.size wb V) (j : Nat) (hj : j < is.length) => (show ∃ b off, ai = some ⟨b, off, none⟩ ∧ V.cell? ⟨b, off + j, none⟩ = some (.int .i64 is[j]) from by
    rcases hnn with h0 | ⟨b, off, ha, hlt, hc⟩
    · rw [List.map_eq_nil_iff] at h0; rw [h0] at hj; simp at hj
    · refine ⟨b, off, ha, (h.cell (p := ⟨b, off + j, none⟩) (by show b < wb.heap.size; omega)).trans ((hBW.cell (p := ⟨b, off + j, none⟩) hlt).trans (hc j is[j] ?_))⟩
      rw [List.getElem?_map, List.getElem?_eq_getElem hj]; rfl))
  have BX := Lib.hid (fun (V : World) (h : Below wb.heap.size wb V) => bx.below h (by omega))
  have BK := Lib.hid (fun (V : World) (h : Below wb.heap.size wb V) => bk.below h (by omega))
  have HLN := Lib.hid (fun q => numsL_take_len (is := is) h63 q)
  have HBW := Lib.hid hBW
  have HZ := Lib.hid hzb
  have H63 := Lib.hid h63
  obtain ⟨p0, p1, p2, p3, _, _, _, _⟩ := bx
  clear hT hnn bk he h63 hz1 hBW hzb
  go_enter Tryd.func43, Tryd.ntmps43
  go_wp2_with fail
  rw [← hwb]
  clear hwb
  go_loopw [3, 9] (fun u i wr => ∃ q : Nat, q ≤ is.length ∧ i = .int .i64 q ∧ Hid (wr.ownsRow wb.heap.size 5 1 u (numsL (is.take q)).length (Lib.byteCells (numsL (is.take q)))) ∧ Hid (Below wb.heap.size wb wr)) (fun _ i _ => is.length - (intOf i).toNat)
  case atStart => exact ⟨0, Nat.zero_le _, rfl, Lib.hid (by rw [List.take_zero]; exact World.ownsRow_nil _ _ _ _), Lib.hid (Below.refl _ _)⟩
  case round =>
    obtain ⟨q, hq, rfl, HO, HB⟩ := hrel
    by_cases hql : q < is.length
    · have hi : (q : Int) < (is.length : Int) := by omega
      have hq0 : (0 : Int) ≤ (q : Int) := by omega
      obtain ⟨b, off, rfl, d0⟩ := HN.out wr HB.out q hql
      have hx63 := H63.out is[q] (List.getElem_mem hql)
      have hLq := HLN.out q
      have hLq1 := HLN.out (q + 1)
      have hTK := numsL_take hql
      obtain ⟨x, hx⟩ : ∃ x, is[q] = x := ⟨_, rfl⟩
      rw [hx] at d0 hx63 hTK
      obtain ⟨P, hP⟩ : ∃ P, numsL (is.take q) = P := ⟨_, rfl⟩
      rw [hP] at HO hLq hTK
      rw [hTK] at hLq1
      have hlen21 := Lib.itoa_length_le (x : Int) (by omega) (by omega)
      have AI := Lib.hid (Tryd.strconv_AppendInt_10 wb.heap.size P.length (x : Int) (by omega) (by omega) _ (Lib.byteCells P) wr HO.out HB.out.size (by omega) (HT.out.on HB.out))
      have HTK := Lib.hid hTK
      have hm1 : P.length + (Lib.itoa (x : Int)).length + 1 ≤ maxLen := by unfold maxLen; omega
      have hm2 : (P.length + (Lib.itoa (x : Int)).length + 1) * 1 ≤ 140737488355328 := by omega
      clear hTK hLq1 hlen21 hx hP
      go_wp2_with fail
      refine AI.out.mono ?_; rintro e w2 ⟨v2, rfl, ho2, hb2, _⟩
      have HB2 := Lib.hid (HB.out.trans hb2)
      obtain ⟨a2, c2, rfl, _⟩ := own_shape ho2
      have HO2 := Lib.hid ho2
      have HN1 := Lib.hid (show ∀ (j : Nat) (u : Value), ([Value.int .u8 44] : List Value)[j]? = some u → (w2.alloc (.cells #[.int .u8 44] 5)).cell? ((⟨w2.heap.size, 0, none⟩ : Addr).add j) = some u from cell_one_new _ _ _)
      have hsz : wb.heap.size ≤ (w2.alloc (.cells #[.int .u8 44] 5)).heap.size := by have := HB2.out.size; simp; omega
      clear ho2 hb2 d0
      go_wp2_with (at_builtin; refine wpList_append_own_at _ rfl _ _ 86 rfl wb.heap.size 5 i0 (.int .u8 0) 1 1 Tryd.underlying86 hi0 hiz0 his0 hib0 rfl (by decide) _ (P.length + (Lib.itoa (x : Int)).length) _ rfl (HO2.out.alloc _) ⟨w2.heap.size, 0, none⟩ 1 1 [Value.int .u8 44] rfl rfl HN1.out (by simp [Value.oneCell']) hm1 hm2 hsz ?_; intro v7 w7 hown7 hg7 _ hat7; have HO7 := Lib.hid hown7; have HG7 := Lib.hid hg7; clear hown7 hg7 hat7)
      go_roundw
      case rel =>
        refine ⟨q + 1, by omega, by go_num, Lib.hid ?_, Lib.hid ?_⟩
        · rw [HTK.out]
          have h := HO7.out
          have hlen : (P ++ Lib.itoa (x : Int) ++ [44]).length = P.length + (Lib.itoa (x : Int)).length + 1 := by
            rw [List.length_append, List.length_append]; rfl
          rw [hlen, Lib.byteCells_append, Lib.byteCells_append]
          exact h
        · refine (HB2.out.alloc HB2.out.size _).grown HG7.out hsz (fun g hg => ?_)
          exact own_base HO2.out g hg
      case measure => simp [intOf]; omega
    · obtain rfl : q = is.length := by omega
      have HCV := Lib.hid (own_text HO.out)
      rw [List.take_length] at HCV
      have hcv := HCV.out
      obtain ⟨d0, d1, d2, d3, _, _, _, _⟩ := BX.out wr HB.out
      obtain ⟨e0, e1, e2, e3, f0, f1, f2, f3⟩ := BK.out wr HB.out
      go_wp2_with fail
      refine bodyPost_ret (v := keyV k n s is) (by simp [results, Tryd.results43, go_sem, e0, e1, e2, e3, keyV]) rfl ?_
      refine ⟨rfl, ?_⟩
      have hb := HBW.out.trans (HB.out.mono HBW.out.size)
      have hzz := HZ.out
      exact (((hb.setCell (p := ⟨W.heap.size + 1, 0, none⟩) (Nat.le_succ _) _).setCell (p := ⟨W.heap.size + 1, 1, none⟩) (Nat.le_succ _) _).setCell (p := ⟨W.heap.size + 1, 2, none⟩) (Nat.le_succ _) _).setCell (p := ⟨W.heap.size + 1, 3, none⟩) (Nat.le_succ _) _
end Go.Proofs.YtccpfgpdcicjaaaDoor

namespace Go.Proofs.YtccpfgpdcicjaaaDoor
open Go.RowKit Go.Maps

set_option maxRecDepth 100000 in
/-- A row of the call's own, clipped: the same, with no room. -/
theorem clip_own {base : Nat} {e : TypeId} {a : Option Addr} {n c : Nat} {xs : List Value} {W : World} (h : W.ownsRow base e 4 (.slice a n c) n xs) :
    Calls Tryd.prog 52 #[.slice a n c] W fun e W' => e = .returned (.slice a n n) ∧ W' = W := by
  obtain ⟨_, ⟨h1, h2⟩ | ⟨g, cap, cur, hv, _, _, hn, hm, _⟩⟩ := h
  · cases h1
    go_enter Tryd.func52, Tryd.ntmps52
    go_wp2_with fail
    go_ret
    exact ⟨rfl, rfl⟩
  · cases hv
    go_enter Tryd.func52, Tryd.ntmps52
    go_wp2_with fail
    go_ret
    exact ⟨rfl, rfl⟩
/-- An entry lies in a row, at a number. -/
structure EntAt (V : World) (kv : Value) (m i b c : Nat) (e : En) : Prop where
  kv : kv = .slice (some ⟨b, 0, none⟩) m c
  d0 : V.cell? ⟨b, i * 6, none⟩ = some (.int .i64 e.z.t.kind)
  d1 : V.cell? ⟨b, i * 6 + 1, none⟩ = some (.string e.z.t.name)
  d2 : V.cell? ⟨b, i * 6 + 2, none⟩ = some (.int .i64 e.z.t.n)
  d3 : V.cell? ⟨b, i * 6 + 3, none⟩ = some (.slice e.z.a e.z.t.args.length e.z.c)
  d4 : V.cell? ⟨b, i * 6 + 4, none⟩ = some (.slice e.a e.is.length e.c)
  d5 : V.cell? ⟨b, i * 6 + 5, none⟩ = some (.int .i64 e.z.t.parts)
theorem EntAt.below {V V' : World} {kv : Value} {m i b c : Nat} {e : En} (h : EntAt V kv m i b c e) (hb : Below V.heap.size V V') : EntAt V' kv m i b c e := by
  have hl := lt_of_cell h.d0
  exact ⟨h.kv, (hb.cell (p := ⟨b, i * 6, none⟩) hl).trans h.d0, (hb.cell (p := ⟨b, i * 6 + 1, none⟩) hl).trans h.d1, (hb.cell (p := ⟨b, i * 6 + 2, none⟩) hl).trans h.d2, (hb.cell (p := ⟨b, i * 6 + 3, none⟩) hl).trans h.d3, (hb.cell (p := ⟨b, i * 6 + 4, none⟩) hl).trans h.d4, (hb.cell (p := ⟨b, i * 6 + 5, none⟩) hl).trans h.d5⟩
theorem ent_at {kv : Value} {es : List En} {L : List Tm} {W : World} {B : Nat} (hrow : W.ownsRow B 68 6 kv L.length (rowE es)) (hlen : es.length = L.length) {i : Nat} (hi : i < es.length) : ∃ b c, EntAt W kv L.length i b c es[i] := by
  obtain ⟨hn, ⟨_, h0⟩ | ⟨b, cap, cur, rfl, _, hg, hcap, hmax, hsz, htake⟩⟩ := hrow
  · omega
  · have hc : ∀ j, j < 6 → W.cell? ⟨b, i * 6 + j, none⟩ = es[i].cells[j]? := fun j hj => by
      rw [cell_of_row W b (i * 6 + j) cur _ (0, 0) hg, ← rowE_get es i hi j hj, ← htake, List.getElem?_take, if_pos (by omega)]; simp
    exact ⟨b, cap, rfl, hc 0 (by omega), hc 1 (by omega), hc 2 (by omega), hc 3 (by omega), hc 4 (by omega), hc 5 (by omega)⟩
end Go.Proofs.YtccpfgpdcicjaaaDoor
