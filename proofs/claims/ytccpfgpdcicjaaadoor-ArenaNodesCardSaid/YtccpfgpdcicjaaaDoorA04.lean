/-
  The numbers of all that is in a term, by the reference of layer 9: Within.
  A term as a node, by the reference of layer 9: Node.
  Terms that are made: Of of the reference of layer 3.
  What a node is, if its arguments are there, by the reference of layer 9: Term.
  What the listed table of powers of ten gives a walk.
  What the program's arenas must do, whatever they are in memory: a relation between memory, a pointer and the list of the terms that are there.
  Rows and maps that stay where their block stays. No function of the program.
-/
import Derived.Test.YtccpfgpdcicjaaaDoorA03
import Derived.Test.YtccpfgpdcicjaaaDoorA02
import Derived.Maps.AppendAt
import Derived.Deep.AppendLies
import Derived.Test.YtccpfgpdcicjaaaDoorA01
import Derived.Test.YtccpfgpdcicjaaaDoorRows
import Derived.WalkKit
import Derived.ProofKit
import Derived.Lib.Hide
import Derived.Stop.LaidErr
import Derived.WalkSmall
import Derived.Deep.DeepHandedRow
import Derived.Lib.LaidTab
import Derived.MakeChecks
import Derived.Lib.ItoaLen
import Derived.Maps.OwnSet
namespace Go.Proofs.YtccpfgpdcicjaaaDoor
open Go.RowKit

/-- The numbers, from k on, of those in a list that are in a term. -/
noncomputable def withinN : List Tm → Tm → Nat → List Int
  | [], _, _ => []
  | x :: r, t, k => if inT t.all x = true then (k : Int) :: withinN r t (k + 1) else withinN r t (k + 1)
theorem withinN_append : ∀ (a b : List Tm) (t : Tm) (k : Nat), withinN (a ++ b) t k = withinN a t k ++ withinN b t (k + a.length)
  | [], b, t, k => by rw [List.nil_append, withinN, List.nil_append]; rfl
  | x :: r, b, t, k => by
    rw [List.cons_append, withinN, withinN, withinN_append r b t (k + 1), List.length_cons]
    rw [show k + 1 + r.length = k + (r.length + 1) from by omega]
    split <;> rfl
theorem withinN_take {L : List Tm} {k : Nat} (h : k < L.length) (t : Tm) : withinN (L.take (k + 1)) t 0 = withinN (L.take k) t 0 ++ (if inT t.all L[k] = true then [(k : Int)] else []) := by
  rw [List.take_succ_eq_append_getElem h, withinN_append, List.length_take, Nat.min_eq_left (Nat.le_of_lt h), withinN, withinN, Nat.zero_add]
theorem withinN_length : ∀ (L : List Tm) (t : Tm) (k : Nat), (withinN L t k).length ≤ L.length
  | [], _, _ => by rw [withinN]; exact Nat.le_refl _
  | x :: r, t, k => by
    rw [withinN]
    have := withinN_length r t (k + 1)
    split
    · rw [List.length_cons, List.length_cons]; omega
    · rw [List.length_cons]; omega
theorem withinN_range : ∀ (L : List Tm) (t : Tm) (k : Nat), ∀ x ∈ withinN L t k, (k : Int) ≤ x ∧ x < (k : Int) + L.length
  | [], _, _, x, h => by rw [withinN] at h; cases h
  | y :: r, t, k, x, h => by
    rw [withinN] at h
    have ih := withinN_range r t (k + 1)
    rw [List.length_cons]
    split at h
    · rcases List.mem_cons.1 h with rfl | h
      · omega
      · have := ih x h; omega
    · have := ih x h; omega
theorem numInfo : (Tryd.prog.info? 3).map (fun i => (i.zero, i.size, i.bytes)) = some (some (.int .i64 0), 1, 8) := by kernel_rfl
/-- A row of numbers that the call itself has made. -/
theorem nums_of_own {w : World} {base : Nat} {e : TypeId} {v : Value} {n : Nat} {ns : List Int} (h : w.ownsRow base e 1 v n (ns.map (Value.int .i64))) (hm : ∀ x ∈ ns, -9223372036854775808 ≤ x ∧ x ≤ 9223372036854775807) : Nums w v ns := by
  obtain ⟨hn, h⟩ := h
  have hxn : ns.length = n := by simpa using hn
  subst hxn
  rcases h with ⟨rfl, h0⟩ | ⟨g, cap, cur, rfl, hb, hg, hcap, hmax, hsz, htake⟩
  · have : ns = [] := List.eq_nil_of_length_eq_zero h0
    subst this
    exact ⟨none, 0, rfl, by simp, by simp, (fun x hx => by cases hx), .inl rfl⟩
  · refine ⟨_, cap, rfl, hcap, by unfold maxLen at hmax; omega, hm, .inr ⟨g, 0, rfl, ?_, fun j x hj => ?_⟩⟩
    · rcases Nat.lt_or_ge g w.heap.size with hlt | hge
      · exact hlt
      · rw [Array.getElem?_eq_none hge] at hg; cases hg
    · have hjl : j < ns.length := (List.getElem?_eq_some_iff.1 hj).1
      rw [cell_of_row w g (0 + j) cur e (0, 0) hg]
      have : (ns.map (Value.int .i64))[j]? = some (.int .i64 x) := by rw [List.getElem?_map, hj]; rfl
      rw [← htake, List.getElem?_take, if_pos (by omega)] at this
      rw [Nat.zero_add]
      simpa using this

set_option maxRecDepth 100000 in
set_option maxHeartbeats 2000000 in
theorem rwithina_any (v : Value) (L : List Tm) (x : Tv) (w : World) (hv : Tms w v L) (hx : x.ok w) (hp : x.t.parts ≤ 100000) (hl9 : L.length ≤ 100000) :
    Calls Tryd.prog 31 #[v, x.val] w fun e w' => ∃ v', e = .returned v' ∧ Nums w' v' (withinN L x.t 0) ∧ Below w.heap.size w w' := by
  obtain ⟨av, cv, rfl, hl, hh⟩ := hv.open_
  have HR := Lib.hid hh
  have HX := Lib.hid hx
  clear hh hx hv
  obtain ⟨t, a, c⟩ := x
  simp only at hp
  have SM := Lib.hid (fun (y : Tv) (W : World) (h1 : y.ok W) (h2 : Tv.ok W ⟨t, a, c⟩) => has_tm ⟨t, a, c⟩ y W h2 h1 hp)
  have hbx := box_new w (.int .i64 t.kind) (.string t.name) (.int .i64 t.n) (.slice a t.args.length c) 28
  have hBA : Below w.heap.size w (w.alloc (.cells #[.int .i64 t.kind, .string t.name, .int .i64 t.n, .slice a t.args.length c] 28)) := (Below.refl _ _).alloc (Nat.le_refl _) _
  obtain ⟨wb, hwb⟩ : ∃ wb, wb = w.alloc (.cells #[.int .i64 t.kind, .string t.name, .int .i64 t.n, .slice a t.args.length c] 28) := ⟨_, rfl⟩
  have hz : wb.heap.size = w.heap.size + 1 := by rw [hwb]; simp
  rw [← hwb] at hbx hBA
  obtain ⟨i0, hi0, hiz0, his0, hib0⟩ := info_parts numInfo
  have HBX := Lib.hid (fun (V : World) (h : Below wb.heap.size wb V) => hbx.below h (by omega))
  have HW := Lib.hid (fun (V : World) (h : Below wb.heap.size wb V) => hBA.trans (h.mono hBA.size))
  have HWL := Lib.hid (fun q => (show (withinN (L.take q) t 0).length ≤ q from by
    have h1 := withinN_length (L.take q) t 0
    rw [List.length_take] at h1; omega))
  have HWR := Lib.hid (withinN_range L t 0)
  obtain ⟨P, hP⟩ : ∃ P, P = withinN L t 0 := ⟨_, rfl⟩
  have HP := Lib.hid hP
  show Calls _ _ _ _ (fun e w' => ∃ v', e = .returned v' ∧ Nums w' v' (withinN L t 0) ∧ Below w.heap.size w w')
  rw [← hP]
  clear hbx hBA hz hP
  simp only [Tv.val] at *
  go_enter Tryd.func31, Tryd.ntmps31
  go_wp2_with fail
  rw [← hwb]
  clear hwb
  go_loopw [5, 10] (fun u i wr => ∃ k : Nat, k ≤ L.length ∧ i = .int .i64 k ∧ Hid (wr.ownsRow wb.heap.size 3 1 u (withinN (L.take k) t 0).length ((withinN (L.take k) t 0).map (Value.int .i64))) ∧ Hid (Below wb.heap.size wb wr)) (fun _ i _ => L.length - (intOf i).toNat)
  case atStart => exact ⟨0, Nat.zero_le _, rfl, Lib.hid (by rw [List.take_zero, withinN]; exact World.ownsRow_nil _ _ _ _), Lib.hid (Below.refl _ _)⟩
  case round =>
    obtain ⟨k, hk, rfl, HO, HB⟩ := hrel
    have hwl := HWL.out k
    obtain ⟨n0, hn0⟩ : ∃ n, (withinN (L.take k) t 0).length = n := ⟨_, rfl⟩
    rw [hn0] at HO hwl
    by_cases hkl : k < L.length
    · have hi : (k : Int) < (L.length : Int) := by omega
      obtain ⟨b, o, rfl, hlt, hr⟩ := HR.out.resolve_left (by intro h; rw [h] at hkl; simp at hkl)
      obtain ⟨u, hu, huo, hat⟩ := hr k hkl
      have hbw := HW.out _ HB.out
      obtain ⟨d0, d1, d2, d3⟩ := hat.below hbw
      have huw := huo.below hbw
      have hxw := HX.out.below hbw
      obtain ⟨ut, ua, uc⟩ := u
      have hL : Below wr.heap.size wr (wr.alloc (.cells #[.int .i64 ut.kind, .string ut.name, .int .i64 ut.n, .slice ua ut.args.length uc] 28)) := (Below.refl _ _).alloc (Nat.le_refl _) _
      have S1 := Lib.hid (SM.out ⟨ut, ua, uc⟩ _ (huw.below hL) (hxw.below hL))
      have HB1 := Lib.hid (below_next HB.out hL)
      have HLL := Lib.hid hL
      have HOW := Lib.hid (own_below HO.out hL)
      obtain ⟨p0, p1, p2, p3, _, _, _, _⟩ := HBX.out _ HB1.out
      simp only at S1 d0 d1 d2 d3 hu
      have HTK := Lib.hid (withinN_take hkl t)
      rw [← hu] at HTK
      have hk0 : (0 : Int) ≤ (k : Int) := by omega
      cases he : inT t.all ut with
      | true =>
        rw [he] at S1
        have HT := Lib.hid (show withinN (L.take (k + 1)) t 0 = withinN (L.take k) t 0 ++ [(k : Int)] from by rw [HTK.out, he]; rfl)
        have hm1 : n0 + 1 ≤ maxLen := by unfold maxLen; omega
        have hmb : (n0 + 1) * 8 ≤ 140737488355328 := by omega
        have HN0 := Lib.hid hn0
        clear he hu huo hat huw hxw hL hbw hr HTK hn0
        go_wp2_with fail
        refine S1.out.mono ?_; rintro e w2 ⟨rfl, hb2⟩
        have HE := Lib.hid (below_next HB1.out hb2)
        have HO2 := Lib.hid (own_below HOW.out hb2)
        have hwe := HE.out.size
        have hsz : wb.heap.size ≤ (w2.alloc (.cells #[.int .i64 (k : Int)] 3)).heap.size := Nat.le_trans hwe (by simp)
        have HN1 := Lib.hid (World.news_of_block (heap_alloc_new w2 (.cells #[.int .i64 (k : Int)] 3)))
        have HO1 := Lib.hid (fun (y : Value) (hy : y ∈ [Value.int .i64 (k : Int)]) => (show y.oneCell' = true from by rw [List.mem_singleton] at hy; subst hy; rfl))
        clear hb2 p0 p1 p2 p3
        go_wp2_with (at_builtin; refine wpList_append_own_at _ rfl _ _ 36 rfl wb.heap.size 3 i0 (.int .i64 0) 1 8 Tryd.underlying36 hi0 hiz0 his0 hib0 rfl (by decide) _ n0 _ rfl (HO2.out.alloc _) ⟨w2.heap.size, 0, none⟩ 1 1 [Value.int .i64 (k : Int)] rfl rfl HN1.out HO1.out hm1 hmb hsz ?_; intro v7 w7 hown7 hg7 _ hat7; have HO7 := Lib.hid hown7; have HG7 := Lib.hid hg7; have HA7 := Lib.hid hat7; clear hown7 hg7 hat7)
        go_roundw
        case rel =>
          refine ⟨k + 1, by omega, by go_num, Lib.hid ?_, Lib.hid ?_⟩
          · rw [HT.out, List.map_append, List.length_append, HN0.out]; exact HO7.out
          · exact (HE.out.alloc hwe _).grown HG7.out hsz (own_row_ge HO2.out)
        case measure => simp [intOf]; omega
      | false =>
        rw [he] at S1
        have HT := Lib.hid (show withinN (L.take (k + 1)) t 0 = withinN (L.take k) t 0 from by rw [HTK.out, he]; simp)
        have HN0 := Lib.hid hn0
        clear he hu huo hat huw hxw hL hbw hr HTK hn0
        go_wp2_with fail
        refine S1.out.mono ?_; rintro e w2 ⟨rfl, hb2⟩
        have HE := Lib.hid (below_next HB1.out hb2)
        have HO2 := Lib.hid (own_below HOW.out hb2)
        clear hb2 p0 p1 p2 p3
        go_wp2_with fail
        go_roundw
        case rel => exact ⟨k + 1, by omega, by go_num, Lib.hid (by rw [HT.out, HN0.out]; exact HO2.out), HE⟩
        case measure => simp [intOf]; omega
    · obtain rfl : k = L.length := by omega
      have HE := Lib.hid (HW.out _ HB.out)
      have HNU := Lib.hid (nums_of_own (show wr.ownsRow wb.heap.size 3 1 u5 n0 (P.map (Value.int .i64)) from by have h := HO.out; rw [List.take_length, ← HP.out] at h; exact h) (fun x hx => by rw [HP.out] at hx; have := HWR.out x hx; omega))
      go_wp2_with fail
      go_ret
      exact ⟨_, rfl, HNU.out, HE.out⟩
end Go.Proofs.YtccpfgpdcicjaaaDoor

namespace Go.Proofs.YtccpfgpdcicjaaaDoor
open Go.RowKit

theorem map_numT_take (L : List Tm) {l : List Tm} {k : Nat} (h : k < l.length) : (l.take (k + 1)).map (numT L) = (l.take k).map (numT L) ++ [numT L l[k]] := by
  rw [List.take_succ_eq_append_getElem h, List.map_append]; rfl
theorem numT_range (L : List Tm) (t : Tm) : -1 ≤ numT L t ∧ numT L t ≤ L.length := by
  have h := idxT_le L t
  unfold numT; split <;> omega

set_option maxRecDepth 100000 in
set_option maxHeartbeats 2000000 in
theorem rnodea_any (v : Value) (L : List Tm) (x : Tv) (w : World) (hv : Tms w v L) (hx : x.ok w) (hp : x.t.parts ≤ 100000) (hl9 : L.length ≤ 100000) :
    Calls Tryd.prog 28 #[v, x.val] w fun e w' => ∃ a m c, e = .returned (.agg #[.int .i64 x.t.kind, .string x.t.name, .int .i64 x.t.n, .slice a m c]) ∧ Nums w' (.slice a m c) (x.t.args.map (numT L)) ∧ Below w.heap.size w w' := by
  obtain ⟨av, cv, rfl, hl, _⟩ := hv.open_
  have HX := Lib.hid hx
  have HV := Lib.hid hv
  clear hx hv
  obtain ⟨t, ax, cx⟩ := x
  simp only at hp
  have hpl := partsL_length t.args
  have hpe := parts_eq t
  have SM := Lib.hid (fun (y : Tv) (W : World) (h1 : Below w.heap.size w W) (h2 : y.ok W) => rnum_any _ L y W (HV.out.below h1) h2)
  have hbx := box_new w (.int .i64 t.kind) (.string t.name) (.int .i64 t.n) (.slice ax t.args.length cx) 28
  have hz1 : (w.alloc (.cells #[.int .i64 t.kind, .string t.name, .int .i64 t.n, .slice ax t.args.length cx] 28)).heap.size = w.heap.size + 1 := by simp
  have hby := box_new (w.alloc (.cells #[.int .i64 t.kind, .string t.name, .int .i64 t.n, .slice ax t.args.length cx] 28)) (.int .i64 0) (.string ⟨#[]⟩) (.int .i64 0) (.slice none 0 0) 38
  rw [hz1] at hby
  have hBA : Below w.heap.size w ((w.alloc (.cells #[.int .i64 t.kind, .string t.name, .int .i64 t.n, .slice ax t.args.length cx] 28)).alloc (.cells #[.int .i64 0, .string ⟨#[]⟩, .int .i64 0, .slice none 0 0] 38)) := ((Below.refl _ _).alloc (Nat.le_refl _) _).alloc (by rw [hz1]; omega) _
  have hbx2 := hbx.below ((Below.refl _ _).alloc (Nat.le_refl _) (.cells #[.int .i64 0, .string ⟨#[]⟩, .int .i64 0, .slice none 0 0] 38)) (by rw [hz1]; omega)
  obtain ⟨wb, hwb⟩ : ∃ wb, wb = ((w.alloc (.cells #[.int .i64 t.kind, .string t.name, .int .i64 t.n, .slice ax t.args.length cx] 28)).alloc (.cells #[.int .i64 0, .string ⟨#[]⟩, .int .i64 0, .slice none 0 0] 38)) := ⟨_, rfl⟩
  have hz : wb.heap.size = w.heap.size + 2 := by rw [hwb]; simp
  rw [← hwb] at hbx2 hby hBA
  obtain ⟨i0, hi0, hiz0, his0, hib0⟩ := info_parts numInfo
  have HBX := Lib.hid (fun (V : World) (h : Below wb.heap.size wb V) => hbx2.below h (by omega))
  have HBY := Lib.hid (fun (V : World) (h : Below wb.heap.size wb V) => hby.below h (by omega))
  have HW := Lib.hid (fun (V : World) (h : Below wb.heap.size wb V) => hBA.trans (h.mono hBA.size))
  have HZ := Lib.hid hz
  have HNR := Lib.hid (fun x : Tm => numT_range L x)
  clear hbx hby hbx2 hBA hz hz1
  obtain ⟨p0, p1, p2, p3, _, _, _, _⟩ := HBX.out wb (Below.refl _ _)
  simp only [Tv.val] at *
  go_enter Tryd.func28, Tryd.ntmps28
  go_wp2_with fail
  rw [← hwb]
  clear hwb
  go_loopw [5, 11] (fun u i wr => ∃ k : Nat, k ≤ t.args.length ∧ i = .int .i64 k ∧ Hid (wr.ownsRow wb.heap.size 3 1 u k (((t.args.take k).map (numT L)).map (Value.int .i64))) ∧ Hid (Below wb.heap.size wb wr)) (fun _ i _ => t.args.length - (intOf i).toNat)
  case atStart => exact ⟨0, Nat.zero_le _, rfl, Lib.hid (by rw [List.take_zero]; exact World.ownsRow_nil _ _ _ _), Lib.hid (Below.refl _ _)⟩
  case round =>
    obtain ⟨k, hk, rfl, HO, HB⟩ := hrel
    have hbw := HW.out _ HB.out
    by_cases hkl : k < t.args.length
    · have hi : (k : Int) < (t.args.length : Int) := by omega
      obtain ⟨b', o', rfl, hlt', hrow⟩ := HX.out.2.2.resolve_left (by intro h; simp only at h; rw [h] at hkl; simp at hkl)
      obtain ⟨y, hyt, hyo, hy⟩ := tmAt_tv (rowAt_get hrow hkl)
      obtain ⟨d0, d1, d2, d3⟩ := hy.below hbw
      have huw := hyo.below hbw
      obtain ⟨ut, ua, uc⟩ := y
      have hL : Below wr.heap.size wr (wr.alloc (.cells #[.int .i64 ut.kind, .string ut.name, .int .i64 ut.n, .slice ua ut.args.length uc] 28)) := (Below.refl _ _).alloc (Nat.le_refl _) _
      have S1 := Lib.hid (SM.out ⟨ut, ua, uc⟩ _ (below_next hbw hL) (huw.below hL))
      have HB1 := Lib.hid (below_next HB.out hL)
      have HOW := Lib.hid (own_below HO.out hL)
      obtain ⟨p0, p1, p2, p3, _, _, _, _⟩ := HBX.out _ HB1.out
      simp only at S1 d0 d1 d2 d3 hyt
      have hk0 : (0 : Int) ≤ (k : Int) := by omega
      have HT := Lib.hid (show (t.args.take (k + 1)).map (numT L) = (t.args.take k).map (numT L) ++ [numT L ut] from by rw [map_numT_take L hkl, hyt])
      have hnr := HNR.out ut
      have hm1 : k + 1 ≤ maxLen := by unfold maxLen; omega
      have hmb : (k + 1) * 8 ≤ 140737488355328 := by omega
      obtain ⟨z, hz⟩ : ∃ z, numT L ut = z := ⟨_, rfl⟩
      rw [hz] at S1 HT hnr
      clear hyt hyo hy huw hL hbw hrow hz
      go_wp2_with fail
      refine S1.out.mono ?_; rintro e w2 ⟨rfl, hb2⟩
      have HE := Lib.hid (below_next HB1.out hb2)
      have HO2 := Lib.hid (own_below HOW.out hb2)
      have hwe := HE.out.size
      have hsz : wb.heap.size ≤ (w2.alloc (.cells #[.int .i64 z] 3)).heap.size := Nat.le_trans hwe (by simp)
      have HN1 := Lib.hid (World.news_of_block (heap_alloc_new w2 (.cells #[.int .i64 z] 3)))
      have HO1 := Lib.hid (fun (y : Value) (hy : y ∈ [Value.int .i64 z]) => (show y.oneCell' = true from by rw [List.mem_singleton] at hy; subst hy; rfl))
      clear hb2 p0 p1 p2 p3
      go_wp2_with (at_builtin; refine wpList_append_own_at _ rfl _ _ 36 rfl wb.heap.size 3 i0 (.int .i64 0) 1 8 Tryd.underlying36 hi0 hiz0 his0 hib0 rfl (by decide) _ k _ rfl (HO2.out.alloc _) ⟨w2.heap.size, 0, none⟩ 1 1 [Value.int .i64 z] rfl rfl HN1.out HO1.out hm1 hmb hsz ?_; intro v7 w7 hown7 hg7 _ hat7; have HO7 := Lib.hid hown7; have HG7 := Lib.hid hg7; have HA7 := Lib.hid hat7; clear hown7 hg7 hat7)
      go_roundw
      case rel =>
        refine ⟨k + 1, by omega, by go_num, Lib.hid ?_, Lib.hid ?_⟩
        · rw [HT.out, List.map_append]; exact HO7.out
        · exact (HE.out.alloc hwe _).grown HG7.out hsz (own_row_ge HO2.out)
      case measure => simp [intOf]; omega
    · obtain rfl : k = t.args.length := by omega
      have hO := HO.out
      rw [List.take_length] at hO
      have hge := own_row_ge hO
      obtain ⟨a5, m5, c5, hu5⟩ : ∃ a m c, u5 = .slice a m c := by
        rcases hO.2 with ⟨h, _⟩ | ⟨g', cap', cur, h, _⟩
        · exact ⟨none, 0, 0, h⟩
        · exact ⟨_, _, cap', h⟩
      subst hu5
      have HNU := Lib.hid (nums_of_own hO (fun x hx => by
        obtain ⟨y, _, rfl⟩ := List.mem_map.1 hx
        have := HNR.out y; omega))
      obtain ⟨p0, p1, p2, p3, _, _, _, _⟩ := HBX.out _ HB.out
      have hbR := HBY.out _ HB.out
      have BR8 := Lib.hid (hbR.sets (.int .i64 t.kind) (.string t.name) (.int .i64 t.n) (.slice a5 m5 c5))
      obtain ⟨q0, q1, q2, q3, f0, f1, f2, f3⟩ := hbR
      have hzz := HZ.out
      have HOO := Lib.hid hO
      clear hO hge
      go_wp2_with fail
      obtain ⟨q0, q1, q2, q3, f0, f1, f2, f3⟩ := BR8.out
      refine bodyPost_ret (v := .agg #[.int .i64 t.kind, .string t.name, .int .i64 t.n, .slice a5 m5 c5]) (by simp [results, Tryd.results28, go_sem, q0, q1, q2, q3]) rfl ?_
      have hz8 : w.heap.size + 1 < wb.heap.size := by omega
      have h8 := own_setCell (own_setCell (own_setCell (own_setCell HOO.out (p := ⟨w.heap.size + 1, 0, none⟩) hz8 (.int .i64 t.kind)) (p := ⟨w.heap.size + 1, 1, none⟩) hz8 (.string t.name)) (p := ⟨w.heap.size + 1, 2, none⟩) hz8 (.int .i64 t.n)) (p := ⟨w.heap.size + 1, 3, none⟩) hz8 (.slice a5 m5 c5)
      exact ⟨a5, m5, c5, rfl, nums_of_own h8 (fun x hx => by
        obtain ⟨y, _, rfl⟩ := List.mem_map.1 hx
        have := HNR.out y; omega), below_sets (HW.out _ HB.out) (by omega) _ _ _ _⟩
end Go.Proofs.YtccpfgpdcicjaaaDoor

namespace Go.Proofs.YtccpfgpdcicjaaaDoor
open Go.RowKit

set_option maxHeartbeats 400000 in
theorem of_any (k : Int) (s : ByteArray) (n : Int) (a : Option Addr) (l c : Nat) (w : World) :
    Calls Tryd.prog 39 #[.int .i64 k, .string s, .int .i64 n, .slice a l c] w fun e w' => e = .returned (.agg #[.int .i64 k, .string s, .int .i64 n, .slice a l c]) ∧ Below w.heap.size w w' := by
  go_enter Tryd.func39, Tryd.ntmps39
  go_wp2_with fail
  exact bodyPost_ret (v := .agg #[.int .i64 k, .string s, .int .i64 n, .slice a l c]) (by simp [results, Tryd.results39, go_sem]) rfl ⟨rfl, (Below.refl _ _).alloc (Nat.le_refl _) _⟩
end Go.Proofs.YtccpfgpdcicjaaaDoor

namespace Go.Proofs.YtccpfgpdcicjaaaDoor
open Go.RowKit

theorem Nums.reads {w w' : World} {v : Value} {ns : List Int} (h : Nums w v ns) (hb : Reads w w') : Nums w' v ns := by
  obtain ⟨a, c, hv, hl, hc, hn, h⟩ := h
  refine ⟨a, c, hv, hl, hc, hn, ?_⟩
  rcases h with h | ⟨b, off, ha, hlt, hc⟩
  · exact .inl h
  · exact .inr ⟨b, off, ha, Nat.lt_of_lt_of_le hlt hb.size, fun j n hj => hb.cell _ _ (hc j n hj)⟩
/-- The terms of some numbers. -/
def getsT (L : List Tm) (is : List Int) : List Tm := is.map fun i => L.getD i.toNat default
def InR (L : List Tm) (i : Int) : Prop := 0 ≤ i ∧ i < (L.length : Int)
theorem getsT_take (L : List Tm) {is : List Int} {q : Nat} (h : q < is.length) : getsT L (is.take (q + 1)) = getsT L (is.take q) ++ [L.getD is[q].toNat default] := by
  unfold getsT
  rw [List.take_succ_eq_append_getElem h, List.map_append]; rfl
theorem getsT_length (L : List Tm) (is : List Int) : (getsT L is).length = is.length := by unfold getsT; rw [List.length_map]
theorem getsT_mem {L : List Tm} {is : List Int} (h : ∀ i ∈ is, InR L i) : ∀ x ∈ getsT L is, x ∈ L := fun x hx => by
  unfold getsT at hx
  obtain ⟨i, hi, rfl⟩ := List.mem_map.1 hx
  obtain ⟨h0, h1⟩ := h i hi
  have hlt : i.toNat < L.length := by omega
  rw [List.getD_eq_getElem?_getD, List.getElem?_eq_getElem hlt]
  exact List.getElem_mem _
def TermPost (L : List Tm) (k : Int) (s : ByteArray) (n : Int) (is : List Int) (w0 w : World) (e : Ending) (w' : World) : Prop :=
  ((∀ i ∈ is, InR L i) ∧ ∃ z : Tv, e = .returned (.tuple #[z.val, .bool true]) ∧ z.t = .mk k s n (getsT L is) ∧ Fresh w0 w w' z ∧ Below w.heap.size w w') ∨
  ((¬ ∀ i ∈ is, InR L i) ∧ e = .returned (.tuple #[.agg #[.int .i64 0, .string ⟨#[]⟩, .int .i64 0, .slice none 0 0], .bool false]) ∧ Below w.heap.size w w')

set_option maxRecDepth 100000 in
set_option maxHeartbeats 2000000 in
theorem rterma_any (v : Value) (L : List Tm) (k : Int) (s : ByteArray) (n : Int) (is : List Int) (ai : Option Addr) (ci : Nat) (w0 w : World) (hv : Tms w0 v L) (hi : Nums w0 (.slice ai is.length ci) is) (hf : Fit k s n) (hl8 : is.length ≤ 100000) (hb0 : Reads w0 w) :
    Calls Tryd.prog 19 #[v, .agg #[.int .i64 k, .string s, .int .i64 n, .slice ai is.length ci]] w (TermPost L k s n is w0 w) := by
  obtain ⟨av, cv, rfl, hl, hh⟩ := hv.open_
  obtain ⟨ai', ci', he, _, _, hir, hin⟩ := hi
  obtain ⟨rfl, rfl⟩ : ai = ai' ∧ ci = ci' := by cases he; exact ⟨rfl, rfl⟩
  have HR := Lib.hid hh
  have HI := Lib.hid hin
  have HIR := Lib.hid hir
  have HF := Lib.hid hf
  have HB0 := Lib.hid hb0
  clear hh hin hir hf hv he hb0
  have hbx := box_new w (.int .i64 k) (.string s) (.int .i64 n) (.slice ai is.length ci) 38
  have hz1 : (w.alloc (.cells #[.int .i64 k, .string s, .int .i64 n, .slice ai is.length ci] 38)).heap.size = w.heap.size + 1 := by simp
  have hby := box_new (w.alloc (.cells #[.int .i64 k, .string s, .int .i64 n, .slice ai is.length ci] 38)) (.int .i64 0) (.string ⟨#[]⟩) (.int .i64 0) (.slice none 0 0) 28
  rw [hz1] at hby
  have hBA : Below w.heap.size w ((w.alloc (.cells #[.int .i64 k, .string s, .int .i64 n, .slice ai is.length ci] 38)).alloc (.cells #[.int .i64 0, .string ⟨#[]⟩, .int .i64 0, .slice none 0 0] 28)) := ((Below.refl _ _).alloc (Nat.le_refl _) _).alloc (by rw [hz1]; omega) _
  have hbx2 := hbx.below ((Below.refl _ _).alloc (Nat.le_refl _) (.cells #[.int .i64 0, .string ⟨#[]⟩, .int .i64 0, .slice none 0 0] 28)) (by rw [hz1]; omega)
  obtain ⟨wz, hwb⟩ : ∃ wz, wz = ((w.alloc (.cells #[.int .i64 k, .string s, .int .i64 n, .slice ai is.length ci] 38)).alloc (.cells #[.int .i64 0, .string ⟨#[]⟩, .int .i64 0, .slice none 0 0] 28)) := ⟨_, rfl⟩
  have hz : wz.heap.size = w.heap.size + 2 := by rw [hwb]; simp
  rw [← hwb] at hbx2 hby hBA
  obtain ⟨i0, hi0, hiz0, his0, hib0⟩ := info_parts termInfo
  have HBX := Lib.hid (fun (V : World) (h : Below wz.heap.size wz V) => hbx2.below h (by omega))
  have HBY := Lib.hid (fun (V : World) (h : Below wz.heap.size wz V) => hby.below h (by omega))
  have HW := Lib.hid (fun (V : World) (h : Below wz.heap.size wz V) => hBA.trans (h.mono hBA.size))
  have HZ := Lib.hid hz
  clear hbx hby hbx2 hBA hz hz1
  obtain ⟨p0, p1, p2, p3, _, _, _, _⟩ := HBX.out wz (Below.refl _ _)
  go_enter Tryd.func19, Tryd.ntmps19
  go_wp2_with fail
  rw [← hwb]
  clear hwb
  go_loopw [6, 12] (fun u i wr => ∃ (q : Nat) (vs : List Tv), q ≤ is.length ∧ i = .int .i64 q ∧ Hid (∀ j (h : j < is.length), j < q → InR L is[j]) ∧ vs.length = q ∧ Hid (vs.map Tv.t = getsT L (is.take q)) ∧ Hid (∀ z ∈ vs, z.ok w0) ∧ Hid (wr.ownsRow wz.heap.size 28 4 u q (rowTv vs)) ∧ Hid (Below wz.heap.size wz wr)) (fun _ i _ => is.length - (intOf i).toNat)
  case atStart => exact ⟨0, [], Nat.zero_le _, rfl, Lib.hid (fun j hj hk => by omega), rfl, Lib.hid (by rw [List.take_zero]; rfl), Lib.hid (fun _ h => nomatch h), Lib.hid (World.ownsRow_nil _ _ _ _), Lib.hid (Below.refl _ _)⟩
  case round =>
    obtain ⟨q, vs, hq, rfl, HIN, hvl, HVT, HVO, HO, HB⟩ := hrel
    have hbw := HW.out _ HB.out
    have hrw := HB0.out.trans (reads_below hbw)
    by_cases hql : q < is.length
    · have hi1 : (q : Int) < (is.length : Int) := by omega
      have hq0 : (0 : Int) ≤ (q : Int) := by omega
      obtain ⟨b', o', rfl, hlt', hrow⟩ := HI.out.resolve_left (by intro h; rw [h] at hql; simp at hql)
      obtain ⟨i, hix⟩ : ∃ i, is[q]? = some i := ⟨_, List.getElem?_eq_getElem hql⟩
      have hiq : is[q] = i := by rw [List.getElem?_eq_getElem hql] at hix; exact Option.some.inj hix
      have dI := hrw.cell _ _ (hrow q i hix)
      have hib := HIR.out i (List.mem_of_getElem? hix)
      have HQI := Lib.hid hiq
      obtain ⟨p0, p1, p2, p3, _, _, _, _⟩ := HBX.out _ HB.out
      clear hix hiq hrow
      by_cases h0 : i < 0
      · have hd0 : decide (i < (0 : Int)) = true := decide_eq_true h0
        have HBAD := Lib.hid (show ¬ ∀ i ∈ is, InR L i from fun h => by
          have := (h is[q] (List.getElem_mem _)).1
          rw [HQI.out] at this; omega)
        have hbR := HBY.out _ HB.out
        have BR8 := Lib.hid (hbR.sets (.int .i64 0) (.string ⟨#[]⟩) (.int .i64 0) (.slice none 0 0))
        obtain ⟨q0, q1, q2, q3, f0, f1, f2, f3⟩ := hbR
        clear h0 hrw
        go_wp2_with fail
        obtain ⟨q0, q1, q2, q3, f0, f1, f2, f3⟩ := BR8.out
        refine bodyPost_ret (v := .tuple #[.agg #[.int .i64 0, .string ⟨#[]⟩, .int .i64 0, .slice none 0 0], .bool false]) (by simp [results, Tryd.results19, go_sem, q0, q1, q2, q3]) rfl ?_
        exact .inr ⟨HBAD.out, rfl, below_sets (HW.out _ HB.out) (by omega) _ _ _ _⟩
      · have hd0 : decide (i < (0 : Int)) = false := decide_eq_false h0
        by_cases h1 : (L.length : Int) ≤ i
        · have hd1 : decide ((L.length : Int) ≤ i) = true := decide_eq_true h1
          have HBAD := Lib.hid (show ¬ ∀ i ∈ is, InR L i from fun h => by
            have := (h is[q] (List.getElem_mem _)).2
            rw [HQI.out] at this; omega)
          have hbR := HBY.out _ HB.out
          have BR8 := Lib.hid (hbR.sets (.int .i64 0) (.string ⟨#[]⟩) (.int .i64 0) (.slice none 0 0))
          obtain ⟨q0, q1, q2, q3, f0, f1, f2, f3⟩ := hbR
          clear h0 h1 hrw
          go_wp2_with fail
          obtain ⟨q0, q1, q2, q3, f0, f1, f2, f3⟩ := BR8.out
          refine bodyPost_ret (v := .tuple #[.agg #[.int .i64 0, .string ⟨#[]⟩, .int .i64 0, .slice none 0 0], .bool false]) (by simp [results, Tryd.results19, go_sem, q0, q1, q2, q3]) rfl ?_
          exact .inr ⟨HBAD.out, rfl, below_sets (HW.out _ HB.out) (by omega) _ _ _ _⟩
        · have hd1 : decide ((L.length : Int) ≤ i) = false := decide_eq_false h1
          obtain ⟨j, rfl⟩ := Int.eq_ofNat_of_zero_le (Int.not_lt.1 h0)
          have hjl : j < L.length := by omega
          have hj1 : (j : Int) < (L.length : Int) := by omega
          have hj0 : (0 : Int) ≤ (j : Int) := by omega
          obtain ⟨b, o, rfl, hlt, hr⟩ := HR.out.resolve_left (by intro h; rw [h] at hjl; simp at hjl)
          obtain ⟨u, hu, huo, hat⟩ := hr j hjl
          obtain ⟨m0, m1, m2, m3⟩ : TvAt wr b (o + j * 4) u := ⟨hrw.cell _ _ hat.c0, hrw.cell _ _ hat.c1, hrw.cell _ _ hat.c2, hrw.cell _ _ hat.c3⟩
          obtain ⟨ut, ua, uc⟩ := u
          simp only at hu m0 m1 m2 m3
          have HQO := Lib.hid (show InR L is[q] from by rw [HQI.out]; exact ⟨hj0, hj1⟩)
          have HT := Lib.hid (show getsT L (is.take (q + 1)) = getsT L (is.take q) ++ [ut] from by
            rw [getsT_take L hql, HQI.out, hu, Int.toNat_natCast, List.getD_eq_getElem?_getD, List.getElem?_eq_getElem hjl]; rfl)
          have HUO := Lib.hid huo
          have hm1 : q + 1 ≤ maxLen := by unfold maxLen; omega
          have hmb : (q + 1) * 56 ≤ 140737488355328 := by omega
          have hsz : wz.heap.size ≤ (wr.alloc (.cells #[.int .i64 ut.kind, .string ut.name, .int .i64 ut.n, .slice ua ut.args.length uc] 28)).heap.size := Nat.le_trans HB.out.size (by simp)
          have HN1 := Lib.hid (World.news_of_block (heap_alloc_new wr (.cells #[.int .i64 ut.kind, .string ut.name, .int .i64 ut.n, .slice ua ut.args.length uc] 28)))
          have HO1 := Lib.hid (fun (y : Value) (hy : y ∈ [Value.int .i64 ut.kind, .string ut.name, .int .i64 ut.n, .slice ua ut.args.length uc]) => (show y.oneCell' = true from rowTv_one' [⟨ut, ua, uc⟩] y (by rw [rowTv_one]; exact hy)))
          clear h0 h1 hu huo hat hr hrw
          go_wp2_with (at_builtin; refine wpList_append_own_at _ rfl _ _ 22 rfl wz.heap.size 28 i0 (.agg #[.int .i64 0, .string ⟨#[]⟩, .int .i64 0, .slice none 0 0]) 4 56 Tryd.underlying22 hi0 hiz0 his0 hib0 rfl (by decide) _ q _ rfl (HO.out.alloc _) ⟨wr.heap.size, 0, none⟩ 1 1 [Value.int .i64 ut.kind, .string ut.name, .int .i64 ut.n, .slice ua ut.args.length uc] rfl rfl HN1.out HO1.out hm1 hmb hsz ?_; intro v7 w7 hown7 hg7 _ hat7; have HO7 := Lib.hid hown7; have HG7 := Lib.hid hg7; clear hown7 hg7 hat7)
          go_roundw
          case rel =>
            refine ⟨q + 1, vs ++ [⟨ut, ua, uc⟩], by omega, by go_num, Lib.hid (fun j' hj' hjk => ?_), by rw [List.length_append, hvl]; rfl, Lib.hid ?_, Lib.hid (fun z hzm => ?_), Lib.hid ?_, Lib.hid ?_⟩
            · by_cases e : j' = q
              · subst e; exact HQO.out
              · exact HIN.out j' hj' (by omega)
            · rw [List.map_append, HVT.out, HT.out]; rfl
            · rcases List.mem_append.1 hzm with h | h
              · exact HVO.out z h
              · rw [List.mem_singleton] at h; subst h; exact HUO.out
            · rw [rowTv_append, rowTv_one]; exact HO7.out
            · exact (HB.out.alloc HB.out.size _).grown HG7.out hsz (own_row_ge HO.out)
          case measure => simp [intOf]; omega
    · obtain rfl : q = is.length := by omega
      have hO := HO.out
      have hvt := HVT.out
      rw [List.take_length] at hvt
      obtain ⟨a6, c6, hu6⟩ : ∃ a c, u6 = .slice a is.length c := by
        rcases hO.2 with ⟨h, h0⟩ | ⟨g', cap', cur, h, _⟩
        · exact ⟨none, 0, by rw [h, h0]⟩
        · exact ⟨_, cap', h⟩
      subst hu6
      have OF := Lib.hid (fun W => of_any k s n a6 is.length c6 W)
      obtain ⟨p0, p1, p2, p3, _, _, _, _⟩ := HBX.out _ HB.out
      have hzz := HZ.out
      have HOO := Lib.hid hO
      have HVV := Lib.hid hvt
      have HALL := Lib.hid (show ∀ i ∈ is, InR L i from fun i hi => by
        obtain ⟨j, hj, rfl⟩ := List.getElem_of_mem hi
        exact HIN.out j hj hj)
      clear hO hvt hrw
      go_wp2_with fail
      refine (OF.out _).mono ?_; rintro e w5 ⟨rfl, hb5⟩
      have hb5w := below_next HB.out hb5
      have hbR := HBY.out _ hb5w
      have BR8 := Lib.hid (hbR.sets (.int .i64 k) (.string s) (.int .i64 n) (.slice a6 is.length c6))
      obtain ⟨q0, q1, q2, q3, f0, f1, f2, f3⟩ := hbR
      have HB5 := Lib.hid hb5w
      have HB55 := Lib.hid hb5
      clear hb5 hb5w p0 p1 p2 p3
      go_wp2_with fail
      obtain ⟨q0, q1, q2, q3, f0, f1, f2, f3⟩ := BR8.out
      refine bodyPost_ret (v := .tuple #[.agg #[.int .i64 k, .string s, .int .i64 n, .slice a6 is.length c6], .bool true]) (by simp [results, Tryd.results19, go_sem, q0, q1, q2, q3]) rfl ?_
      have hz8 : w.heap.size + 1 < wz.heap.size := by omega
      have h5 := own_below HOO.out HB55.out
      have h8 := own_setCell (own_setCell (own_setCell (own_setCell h5 (p := ⟨w.heap.size + 1, 0, none⟩) hz8 (.int .i64 k)) (p := ⟨w.heap.size + 1, 1, none⟩) hz8 (.string s)) (p := ⟨w.heap.size + 1, 2, none⟩) hz8 (.int .i64 n)) (p := ⟨w.heap.size + 1, 3, none⟩) hz8 (.slice a6 is.length c6)
      have hgl := getsT_length L is
      refine .inl ⟨HALL.out, ⟨.mk k s n (getsT L is), a6, c6⟩, by simp [Tv.val, Tm.kind, Tm.name, Tm.n, Tm.args, hgl], rfl, ?_, below_sets (HW.out _ HB5.out) (by omega) _ _ _ _⟩
      exact fresh_row (vs := vs) (n := is.length) (own_lower h8 (by omega)) hgl HVV.out HF.out (by omega) (fun W hWb _ _ z hz => (HVO.out z hz).reads hWb)
end Go.Proofs.YtccpfgpdcicjaaaDoor

namespace Go.Proofs.YtccpfgpdcicjaaaDoor
open Go.RowKit

theorem laidMet_head {P : Program} {x : String × DataW Unit} {r : List (String × DataW Unit)} {w : World} (h : laidMet P (x :: r) w) : laidMet P [x] w := by
  obtain ⟨ps, hv, hnd, hrows⟩ := h
  obtain ⟨n, d⟩ := x
  obtain ⟨g, t, cs, fuel, p, q, h1, h2, h3, h4, hq, rfl⟩ := hv
  refine ⟨_, ⟨g, t, cs, fuel, p, [], h1, h2, h3, h4, rfl, rfl⟩, ?_, ?_⟩
  · rw [List.append_nil]
    exact List.Nodup.sublist (List.sublist_append_left _ _) hnd
  · intro b off hm
    rw [List.append_nil] at hm
    exact hrows b off (List.mem_append_left _ hm)
theorem laidMet_one {P : Program} {x : String × DataW Unit} {w : World} : ∀ {l : List (String × DataW Unit)}, laidMet P l w → x ∈ l → laidMet P [x] w
  | [], _, hm => by cases hm
  | y :: r, h, hm => by
    rcases List.mem_cons.1 hm with rfl | hm
    · exact laidMet_head h
    · exact laidMet_one h.tail hm
theorem gPow : Tryd.prog.globalNamed "internal/strconv.uint64pow10" = some 0 := by kernel_rfl
theorem gPowType : (Tryd.prog.globals[0]?).map (·.type) = some 121 := by kernel_rfl
theorem cellsPow : Tryd.prog.cellsOf 121 = 20 := by kernel_rfl
theorem cellsU64 : Tryd.prog.cellsOf 94 = 1 := by kernel_rfl
/-- What the contract of strconv.Itoa asks of a world. -/
structure Pow (w : World) : Prop where
  pow : Lib.TabIs Tryd.prog w "internal/strconv.uint64pow10" .u64 Lib.pow10Tab
  size : 0 < w.heap.size
theorem Pow.below {w w' : World} (h : Pow w) (hb : Below w.heap.size w w') : Pow w' where
  pow := by
    have h1 := h.pow
    unfold Lib.TabIs World.var? at h1 ⊢
    rw [gPow] at h1 ⊢
    simp only [Option.bind_some] at h1 ⊢
    rw [hb.block _ h.size]
    exact h1
  size := Nat.lt_of_lt_of_le h.size hb.size
theorem lt_of_var {w : World} {n : String} {g : Nat} {cs : Array Value} (hg : Tryd.prog.globalNamed n = some g) (h : w.var? Tryd.prog n = some cs) : g < w.heap.size := by
  unfold World.var? at h
  rw [hg] at h
  simp only [Option.bind_some] at h
  rcases Nat.lt_or_ge g w.heap.size with h' | h'
  · exact h'
  · simp [Array.getElem?_eq_none h'] at h
theorem pow_of {l : List (String × DataW Unit)} {w : World} (h : laidMetH Tryd.prog l w) (hp : (l.all fun x => x.2.handleName?.isNone) = true)
    (h1 : ("internal/strconv.uint64pow10", Rows.laid_internal_strconv_uint64pow10) ∈ l) : Pow w := by
  rw [MakeChecks.laidMetH_plain _ _ _ hp] at h
  have a1 : Lib.TabIs Tryd.prog w "internal/strconv.uint64pow10" .u64 Lib.pow10Tab :=
    Lib.tabIs_of_head (rest := []) gPow gPowType Tryd.underlying121 Tryd.underlying94 cellsU64 cellsPow (laidMet_one h h1)
  exact ⟨a1, lt_of_var gPow a1⟩
end Go.Proofs.YtccpfgpdcicjaaaDoor

namespace Go.Proofs.YtccpfgpdcicjaaaDoor
open Go.RowKit

/-- A relation: the blocks that are the arena's, a memory that stays, the memory, the pointer, the terms by their numbers. -/
abbrev ARel := (Nat → Prop) → World → World → Value → List Tm → Prop
/-- What a call leaves of an arena: its own blocks may turn, new ones may be its own. -/
def ArPost (AR : ARel) (C : Nat → Prop) (w0 W : World) (p : Value) (L : List Tm) (R : Ending → World → Prop) (e : Ending) (W' : World) : Prop :=
  ∃ C' : Nat → Prop, R e W' ∧ AR C' w0 W' p L ∧ Step C w0 W w0 W' ∧ ∀ k, C' k → C k ∨ W.heap.size ≤ k
def tupleT (z : Tv) (b : Bool) : Value := .tuple #[z.val, .bool b]
def zeroTv : Tv := ⟨.mk 0 ⟨#[]⟩ 0 [], none, 0⟩
/-- What the program's arenas must do. -/
structure ArenaI (AR : ARel) : Prop where
  reads : ∀ {C w0 W p L}, AR C w0 W p L → Reads w0 W
  ord : ∀ {C w0 W p L}, AR C w0 W p L → Ord L
  own : ∀ {C w0 W p L}, AR C w0 W p L → ∀ k, C k → k < W.heap.size ∧ Blind w0 k
  stay : ∀ {C D : Nat → Prop} {w0 w1 W W' p L}, AR C w0 W p L → Step D w0 W w1 W' → (∀ k, C k → ¬ D k) → (∀ k, D k → Blind w0 k) → AR C w1 W' p L
  new : ∀ w0 W, Reads w0 W → Pow w0 → Pow W → Calls Tryd.prog 10 #[] W fun e W' => ∃ p C, e = .returned p ∧ AR C w0 W' p [] ∧ (∀ k, C k → W.heap.size ≤ k) ∧ Below W.heap.size W W'
  put : ∀ {C w0 W p L} (x : Tv), AR C w0 W p L → x.ok w0 → withinB x.t 300 = true → L.length + x.t.parts ≤ 1200 →
    Calls Tryd.prog 12 #[p, x.val] W (ArPost AR C w0 W p (putT x.t L) fun e _ => e = .returned (.int .i64 (numT (putT x.t L) x.t)))
  len : ∀ {C w0 W p L}, AR C w0 W p L → L.length ≤ 1200 → Calls Tryd.prog 17 #[p] W (ArPost AR C w0 W p L fun e _ => e = .returned (.int .i64 L.length))
  get : ∀ {C w0 W p L} (i : Nat) (h : i < L.length), AR C w0 W p L → L.length ≤ 1200 →
    Calls Tryd.prog 25 #[p, .int .i64 i] W (ArPost AR C w0 W p L fun e W' => ∃ z : Tv, e = .returned (tupleT z true) ∧ z.t = L[i] ∧ z.ok W')
  getOut : ∀ {C w0 W p L} (i : Int), -9223372036854775808 ≤ i → i ≤ 9223372036854775807 → (i < 0 ∨ (L.length : Int) ≤ i) → AR C w0 W p L → L.length ≤ 1200 →
    Calls Tryd.prog 25 #[p, .int .i64 i] W (ArPost AR C w0 W p L fun e _ => e = .returned (.tuple #[.agg #[.int .i64 0, .string ⟨#[]⟩, .int .i64 0, .slice none 0 0], .bool false]))
  at_ : ∀ {C w0 W p L} (i : Nat) (h : i < L.length), AR C w0 W p L → L.length ≤ 1200 →
    Calls Tryd.prog 18 #[p, .int .i64 i] W (ArPost AR C w0 W p L fun e W' => ∃ a m c, e = .returned (.tuple #[.agg #[.int .i64 L[i].kind, .string L[i].name, .int .i64 L[i].n, .slice a m c], .bool true]) ∧ Nums W' (.slice a m c) (L[i].args.map (numT L)))
  getS : ∀ {C w0 W p L} (i : Nat) (h : i < L.length), AR C w0 W p L → L.length ≤ 1200 →
    Calls Tryd.prog 25 #[p, .int .i64 i] W fun e W' => ∃ (C' : Nat → Prop) (w1 : World) (z : Tv), e = .returned (tupleT z true) ∧ z.t = L[i] ∧ z.ok w1 ∧ AR C' w1 W' p L ∧ Step C w0 W w1 W' ∧ ∀ k, C' k → C k ∨ W.heap.size ≤ k
  atS : ∀ {C w0 W p L} (i : Nat) (h : i < L.length), AR C w0 W p L → L.length ≤ 1200 →
    Calls Tryd.prog 18 #[p, .int .i64 i] W fun e W' => ∃ (C' : Nat → Prop) (w1 : World) (a : Option Addr) (m c : Nat), e = .returned (.tuple #[.agg #[.int .i64 L[i].kind, .string L[i].name, .int .i64 L[i].n, .slice a m c], .bool true]) ∧ Nums w1 (.slice a m c) (L[i].args.map (numT L)) ∧ AR C' w1 W' p L ∧ Step C w0 W w1 W' ∧ ∀ k, C' k → C k ∨ W.heap.size ≤ k
  atOut : ∀ {C w0 W p L} (i : Int), -9223372036854775808 ≤ i → i ≤ 9223372036854775807 → (i < 0 ∨ (L.length : Int) ≤ i) → AR C w0 W p L → L.length ≤ 1200 →
    Calls Tryd.prog 18 #[p, .int .i64 i] W (ArPost AR C w0 W p L fun e _ => e = .returned (.tuple #[.agg #[.int .i64 0, .string ⟨#[]⟩, .int .i64 0, .slice none 0 0], .bool false]))
  find : ∀ {C w0 W p L} (x : Tv), AR C w0 W p L → x.ok w0 → withinB x.t 300 = true → L.length ≤ 1200 →
    Calls Tryd.prog 24 #[p, x.val] W (ArPost AR C w0 W p L fun e _ => (x.t ∈ L ∧ e = .returned (.tuple #[.int .i64 (idxT L x.t), .bool true])) ∨ (x.t ∉ L ∧ e = .returned (.tuple #[.int .i64 0, .bool false])))
  size : ∀ {C w0 W p L} (i : Nat) (h : i < L.length), AR C w0 W p L → L.length ≤ 1200 →
    Calls Tryd.prog 26 #[p, .int .i64 i] W (ArPost AR C w0 W p L fun e _ => e = .returned (.int .i64 L[i].parts))
  sizeOut : ∀ {C w0 W p L} (i : Int), -9223372036854775808 ≤ i → i ≤ 9223372036854775807 → (i < 0 ∨ (L.length : Int) ≤ i) → AR C w0 W p L → L.length ≤ 1200 →
    Calls Tryd.prog 26 #[p, .int .i64 i] W (ArPost AR C w0 W p L fun e _ => e = .returned (.int .i64 0))
  within : ∀ {C w0 W p L} (i : Nat) (h : i < L.length), AR C w0 W p L → L.length ≤ 1200 →
    Calls Tryd.prog 27 #[p, .int .i64 i] W (ArPost AR C w0 W p L fun e W' => ∃ v, e = .returned v ∧ Nums W' v (withinN L L[i] 0))
  withinOut : ∀ {C w0 W p L} (i : Int), -9223372036854775808 ≤ i → i ≤ 9223372036854775807 → (i < 0 ∨ (L.length : Int) ≤ i) → AR C w0 W p L → L.length ≤ 1200 →
    Calls Tryd.prog 27 #[p, .int .i64 i] W (ArPost AR C w0 W p L fun e _ => ∃ a c, e = .returned (.slice a 0 c))
  node : ∀ {C w0 W p L} (k : Int) (s : ByteArray) (n : Int) (is : List Int) (a : Option Addr) (c : Nat), AR C w0 W p L → Fit k s n → s.size ≤ 100 → Nums w0 (.slice a is.length c) is → is.length ≤ 4 → (∀ i ∈ is, InR L i) → withinB (.mk k s n (getsT L is)) 300 = true → L.length + 1 ≤ 1200 →
    Calls Tryd.prog 21 #[p, .agg #[.int .i64 k, .string s, .int .i64 n, .slice a is.length c]] W (ArPost AR C w0 W p (putT (.mk k s n (getsT L is)) L) fun e _ => e = .returned (.tuple #[.int .i64 (numT (putT (.mk k s n (getsT L is)) L) (.mk k s n (getsT L is))), .bool true]))
  nodeOut : ∀ {C w0 W p L} (k : Int) (s : ByteArray) (n : Int) (is : List Int) (a : Option Addr) (c : Nat), AR C w0 W p L → Fit k s n → s.size ≤ 100 → Nums w0 (.slice a is.length c) is → is.length ≤ 4 → (¬ ∀ i ∈ is, InR L i) → L.length ≤ 1200 →
    Calls Tryd.prog 21 #[p, .agg #[.int .i64 k, .string s, .int .i64 n, .slice a is.length c]] W (ArPost AR C w0 W p L fun e _ => e = .returned (.tuple #[.int .i64 0, .bool false]))
  copy : ∀ {C w0 W p L}, AR C w0 W p L → L.length ≤ 1200 →
    Calls Tryd.prog 32 #[p] W fun e W' => ∃ q C1 C2 w1, e = .returned q ∧ AR C1 w1 W' p L ∧ AR C2 w1 W' q L ∧ (∀ k, C1 k → ¬ C2 k) ∧ Step C w0 W w1 W' ∧ (∀ k, C1 k → C k ∨ W.heap.size ≤ k) ∧ (∀ k, C2 k → W.heap.size ≤ k)

theorem ArPost.imp {AR : ARel} {C : Nat → Prop} {w0 W : World} {p : Value} {L : List Tm} {R R' : Ending → World → Prop} {e : Ending} {W' : World} (h : ArPost AR C w0 W p L R e W') (k : ∀ e W', R e W' → R' e W') : ArPost AR C w0 W p L R' e W' := by
  obtain ⟨C', h1, h2⟩ := h
  exact ⟨C', k _ _ h1, h2⟩
/-- Where an arena stands behind an elder one: its own blocks are among these, or new. -/
structure ArAt (AR : ARel) (C : Nat → Prop) (w0 W : World) (p : Value) (L : List Tm) (C' : Nat → Prop) (W' : World) : Prop where
  ar : AR C' w0 W' p L
  step : Step C w0 W w0 W'
  new : ∀ k, C' k → C k ∨ W.heap.size ≤ k
theorem ArAt.refl {AR : ARel} (A : ArenaI AR) {C : Nat → Prop} {w0 W : World} {p : Value} {L : List Tm} (h : AR C w0 W p L) : ArAt AR C w0 W p L C W := ⟨h, Step.refl (A.reads h), fun _ hk => .inl hk⟩
theorem step_then {C C1 : Nat → Prop} {w0 w1 w2 W W1 W2 : World} (h : Step C w0 W w1 W1) (hn : ∀ k, C1 k → C k ∨ W.heap.size ≤ k) (k : Step C1 w1 W1 w2 W2) : Step C w0 W w2 W2 where
  up := h.up.trans k.up
  on := k.on
  blind := fun g hg hc hb => k.blind g (Nat.lt_of_lt_of_le hg h.size) (fun h1 => by
    rcases hn g h1 with e | e
    · exact hc e
    · omega) (h.blind g hg hc hb)
  os := k.os.trans h.os
  tape := k.tape.trans h.tape
  output := k.output.trans h.output
  size := Nat.le_trans h.size k.size
  keep := fun b hb hc => (k.keep b (Nat.lt_of_lt_of_le hb h.size) (fun h1 => by
    rcases hn b h1 with e | e
    · exact hc e
    · omega)).trans (h.keep b hb hc)
/-- One call more. -/
theorem ArAt.more {AR : ARel} {C C1 : Nat → Prop} {w0 W W1 W2 : World} {p : Value} {L L2 : List Tm} {R : Ending → World → Prop} {e : Ending} (h : ArAt AR C w0 W p L C1 W1) (k : ArPost AR C1 w0 W1 p L2 R e W2) : ∃ C2, R e W2 ∧ ArAt AR C w0 W p L2 C2 W2 ∧ Step C1 w0 W1 w0 W2 := by
  obtain ⟨C2, hr, h2, hs, hn⟩ := k
  exact ⟨C2, hr, ⟨h2, step_then h.step h.new hs, fun b hb => by
    rcases hn b hb with h1 | h1
    · exact h.new b h1
    · exact .inr (Nat.le_trans h.step.size h1)⟩, hs⟩
/-- New memory alone. -/
theorem ArAt.below {AR : ARel} (A : ArenaI AR) {C C1 : Nat → Prop} {w0 W W1 W2 : World} {p : Value} {L : List Tm} (h : ArAt AR C w0 W p L C1 W1) (hb : Below W1.heap.size W1 W2) : ArAt AR C w0 W p L C1 W2 :=
  ⟨A.stay h.ar (step_below (C := fun _ => False) (A.reads h.ar) hb) (fun _ _ f => f) (fun _ f => f.elim), h.step.below hb, h.new⟩
theorem ArAt.post {AR : ARel} {C C1 : Nat → Prop} {w0 W W1 : World} {p : Value} {L : List Tm} {R : Ending → World → Prop} {e : Ending} (h : ArAt AR C w0 W p L C1 W1) (hr : R e W1) : ArPost AR C w0 W p L R e W1 := ⟨C1, hr, h.ar, h.step, h.new⟩
/-- A block that is not the arena's own stands. -/
theorem step_box {C : Nat → Prop} {w0 w1 W W1 : World} (h : Step C w0 W w1 W1) {g : Nat} (hg : g < W.heap.size) (hc : ¬ C g) {x0 x1 x2 x3 : Value} (b : Box W g x0 x1 x2 x3) : Box W1 g x0 x1 x2 x3 := by
  have e := h.keep g hg hc
  have c : ∀ o, W1.cell? ⟨g, o, none⟩ = W.cell? ⟨g, o, none⟩ := fun o => World.cell?_of_block (a := ⟨g, o, none⟩) e
  have f : ∀ o, W1.frozen? ⟨g, o, none⟩ = W.frozen? ⟨g, o, none⟩ := fun o => World.frozen?_of_block (a := ⟨g, o, none⟩) e
  exact ⟨(c 0).trans b.c0, (c 1).trans b.c1, (c 2).trans b.c2, (c 3).trans b.c3, (f 0).trans b.f0, (f 1).trans b.f1, (f 2).trans b.f2, (f 3).trans b.f3⟩

set_option maxRecDepth 100000 in
set_option maxHeartbeats 2000000 in
/-- 'is' of the law: the arena has just these terms. -/
theorem is_any {AR : ARel} (A : ArenaI AR) {C : Nat → Prop} {w0 W : World} {p v : Value} {L : List Tm} (hA : AR C w0 W p L) (hv : Tms w0 v L) (hL : L.length ≤ 1200) :
    Calls Tryd.prog 14 #[p, v] W (ArPost AR C w0 W p L fun e _ => e = .returned (.bool true)) := by
  obtain ⟨av, cv, rfl, hl, hh⟩ := hv.open_
  have HR := Lib.hid hh
  have HA := Lib.hid hA
  have LN := Lib.hid (A.len hA hL)
  have GT := Lib.hid (fun (C1 : Nat → Prop) (V : World) (i : Nat) (h : i < L.length) (hV : AR C1 w0 V p L) => A.get i h hV hL)
  have AA := Lib.hid A
  have S0 := Lib.hid (ArAt.refl A hA)
  clear hh hv hA A
  go_enter Tryd.func14, Tryd.ntmps14
  go_wp2_with fail
  refine LN.out.mono ?_; rintro e w1 hp1
  obtain ⟨C1, rfl, h1, hs1⟩ := S0.out.more hp1
  have H1 := Lib.hid h1
  have hne : ((L.length : Int) != (L.length : Int)) = false := by simp
  clear hp1 h1 hs1
  go_wp2_with fail
  go_loopw [16] (fun i wr => ∃ (k : Nat) (C2 : Nat → Prop), k ≤ L.length ∧ i = .int .i64 k ∧ Hid (ArAt AR C w0 W p L C2 wr)) (fun i _ => L.length - (intOf i).toNat)
  case atStart => exact ⟨0, C1, Nat.zero_le _, rfl, H1⟩
  case round =>
    obtain ⟨k, C2, hk, rfl, H2⟩ := hrel
    by_cases hkl : k < L.length
    · have hi : (k : Int) < (L.length : Int) := by omega
      have hk0 : (0 : Int) ≤ (k : Int) := by omega
      obtain ⟨b, o, rfl, hlt, hr⟩ := HR.out.resolve_left (by intro h; rw [h] at hkl; simp at hkl)
      obtain ⟨u, hu, huo, hat⟩ := hr k hkl
      have hrw := AA.out.reads H2.out.ar
      obtain ⟨d0, d1, d2, d3⟩ : TvAt wr b (o + k * 4) u := ⟨hrw.cell _ _ hat.c0, hrw.cell _ _ hat.c1, hrw.cell _ _ hat.c2, hrw.cell _ _ hat.c3⟩
      obtain ⟨ut, ua, uc⟩ := u
      simp only at hu d0 d1 d2 d3
      have hL : Below wr.heap.size wr (wr.alloc (.cells #[.int .i64 ut.kind, .string ut.name, .int .i64 ut.n, .slice ua ut.args.length uc] 28)) := (Below.refl _ _).alloc (Nat.le_refl _) _
      have hbx := box_new wr (.int .i64 ut.kind) (.string ut.name) (.int .i64 ut.n) (.slice ua ut.args.length uc) 28
      have hzx : (wr.alloc (.cells #[.int .i64 ut.kind, .string ut.name, .int .i64 ut.n, .slice ua ut.args.length uc] 28)).heap.size = wr.heap.size + 1 := by simp
      have h3 := H2.out.below AA.out hL
      have hc3 : ¬ C2 wr.heap.size := fun h => by have := (AA.out.own H2.out.ar _ h).1; omega
      have G := Lib.hid (GT.out C2 _ k hkl h3.ar)
      have HBX := Lib.hid hbx
      have HZX := Lib.hid hzx
      have HC3 := Lib.hid hc3
      have H3 := Lib.hid h3
      have HU := Lib.hid hu
      have HUO := Lib.hid huo
      clear hu huo hat hr hrw hL hbx hzx hc3 h3
      go_wp2_with fail
      refine G.out.mono ?_; rintro e w4 hp4
      obtain ⟨C4, ⟨⟨zt, za, zc⟩, rfl, hzt, hzo⟩, h4, hs4⟩ := H3.out.more hp4
      have hb4 := step_box hs4 (by rw [HZX.out]; omega) HC3.out HBX.out
      have hL4 : Below w4.heap.size w4 (w4.alloc (.cells #[.int .i64 zt.kind, .string zt.name, .int .i64 zt.n, .slice za zt.args.length zc] 28)) := (Below.refl _ _).alloc (Nat.le_refl _) _
      have h5 := h4.below AA.out hL4
      have hsz4 := hs4.size
      rw [HZX.out] at hsz4
      obtain ⟨p0, p1, p2, p3, _, _, _, _⟩ := hb4.below hL4 (by omega)
      have S1 := same_tm zt.parts ⟨zt, za, zc⟩ ⟨ut, ua, uc⟩ (w4.alloc (.cells #[.int .i64 zt.kind, .string zt.name, .int .i64 zt.n, .slice za zt.args.length zc] 28)) (Nat.le_refl _) (hzo.below hL4) (HUO.out.reads (AA.out.reads h5.ar))
      rw [eqT_true (show (⟨zt, za, zc⟩ : Tv).t = (⟨ut, ua, uc⟩ : Tv).t from hzt.trans HU.out.symm)] at S1
      have HS1 := Lib.hid S1
      have H5 := Lib.hid h5
      simp only [Tv.val] at HS1
      clear hp4 hzt hzo h4 hs4 hb4 hL4 h5 hsz4 S1
      simp only [tupleT, Tv.val]
      go_wp2_with fail
      refine HS1.out.mono ?_; rintro e w6 ⟨rfl, hb6⟩
      have H6 := Lib.hid (H5.out.below AA.out hb6)
      clear hb6
      go_wp2_with fail
      go_roundw
      case rel => exact ⟨k + 1, C4, by omega, by go_num, H6⟩
      case measure => simp [intOf]; omega
    · obtain rfl : k = L.length := by omega
      go_wp2_with fail
      go_ret
      exact H2.out.post rfl
end Go.Proofs.YtccpfgpdcicjaaaDoor

namespace Go.Proofs.YtccpfgpdcicjaaaDoor
open Go.RowKit

theorem own_same {w W : World} {base : Nat} {e : TypeId} {size : Nat} {v : Value} {n : Nat} {xs : List Value} (h : w.ownsRow base e size v n xs) (hb : ∀ g, v.ownBlock = some g → W.heap[g]? = w.heap[g]?) : W.ownsRow base e size v n xs := by
  obtain ⟨hn, h⟩ := h
  refine ⟨hn, ?_⟩
  rcases h with h | ⟨g, cap, cur, rfl, hbb, hg, hr⟩
  · exact .inl h
  · exact .inr ⟨g, cap, cur, rfl, hbb, (hb g rfl).trans hg, hr⟩
theorem own_block {w : World} {base : Nat} {e : TypeId} {size : Nat} {v : Value} {n : Nat} {xs : List Value} (h : w.ownsRow base e size v n xs) {g : Nat} (hg : v.ownBlock = some g) : ∃ cur, w.heap[g]? = some (.cells cur e (0, 0)) := by
  obtain ⟨_, ⟨rfl, _⟩ | ⟨g', cap, cur, rfl, _, hgb, _⟩⟩ := h
  · cases hg
  · cases hg; exact ⟨cur, hgb⟩
theorem own_shape {w : World} {base : Nat} {e : TypeId} {size n : Nat} {v : Value} {xs : List Value} (h : w.ownsRow base e size v n xs) : ∃ a c, v = .slice a n c ∧ (0 < n → ∃ g, a = some ⟨g, 0, none⟩) := by
  obtain ⟨_, ⟨rfl, rfl⟩ | ⟨g, cap, _, rfl, _⟩⟩ := h
  · exact ⟨none, 0, rfl, fun h => by omega⟩
  · exact ⟨_, cap, rfl, fun _ => ⟨g, rfl⟩⟩
theorem map_same {H : Type} {P : Program} {k : TypeId} {R : Value → Option (DataW H × List MemPlace)} {b n : Nat} {D : DataW H} {w W : World} (h : w.ownsMap P k R b n D) (hb : W.heap[b]? = w.heap[b]?) : W.ownsMap P k R b n D := by
  obtain ⟨es, clock, hh, F, hs, hD⟩ := h
  exact ⟨es, clock, hb.trans hh, F, hs, hD⟩
theorem own_base {w : World} {base : Nat} {e : TypeId} {size : Nat} {v : Value} {n : Nat} {xs : List Value} (h : w.ownsRow base e size v n xs) : ∀ g, v.ownBlock = some g → base ≤ g := fun g hg => by
  rcases h.2 with ⟨rfl, _⟩ | ⟨g', cap, cur, rfl, hb, _⟩
  · cases hg
  · cases hg; exact hb
/-- A row of the call's own stands behind a store into an elder block. -/
theorem own_set {w : World} {base : Nat} {e : TypeId} {size : Nat} {v : Value} {n : Nat} {xs : List Value} (h : w.ownsRow base e size v n xs) {p : Addr} (hp : p.block < base) (x : Value) : (w.setCell p x).ownsRow base e size v n xs :=
  own_same h fun g hg => Below.heap_setCell _ _ _ _ (by have := own_base h g hg; omega)
end Go.Proofs.YtccpfgpdcicjaaaDoor
