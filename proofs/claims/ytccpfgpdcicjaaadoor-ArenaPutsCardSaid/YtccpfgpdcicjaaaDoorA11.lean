/-
  The numbers of all that lies in a node, by the program's Within.
  A copy of an arena, by the program's Copy: its own table and its own row; what the entries hold is shared, and is never written.
  Any terms, one after the other, are put by their numbers: the law answers true, from what the program's arenas do.
  An arena with some terms: 'filled' of the laws of layer 9.
-/
import Derived.Test.YtccpfgpdcicjaaaDoorA10
import Derived.Test.YtccpfgpdcicjaaaDoorA06
import Derived.Test.YtccpfgpdcicjaaaDoorA05
import Derived.Test.YtccpfgpdcicjaaaDoorShelf
import Derived.Sort.OwnSortedInts
import Derived.Test.YtccpfgpdcicjaaaDoorA09
import Derived.Lib.SliceRun
import Derived.Deep.RegionHeld3
import Derived.Test.YtccpfgpdcicjaaaDoorA04
import Derived.Sort.AtCall
namespace Go.Proofs.YtccpfgpdcicjaaaDoor
open Go.RowKit Go.Maps

set_option maxRecDepth 100000 in
theorem within_out {C : Nat → Prop} {w0 W : World} {p : Value} {L : List Tm} (i : Int) (ho : i < 0 ∨ (L.length : Int) ≤ i) (hA : AR C w0 W p L) :
    Calls Tryd.prog 27 #[p, .int .i64 i] W (ArPost AR C w0 W p L fun e _ => ∃ a c, e = .returned (.slice a 0 c)) := by
  have END := Lib.hid (ar_post (R := fun e _ => ∃ a c, e = .returned (.slice a 0 c)) hA (Below.refl _ _) ⟨none, 0, rfl⟩)
  obtain ⟨F, g, bm, kv, es, D, rfl, hm, hs⟩ := hA
  obtain ⟨a, c, rfl, _⟩ := own_shape hm.row
  have LK := Lib.hid (lacks_any g bm a L.length c i W hm.head)
  rw [decide_eq_true ho] at LK
  clear hm hs
  go_enter Tryd.func27, Tryd.ntmps27
  go_wp2_with fail
  refine LK.out.mono ?_; rintro e w1 ⟨rfl, rfl⟩
  go_wp2_with fail
  go_ret
  exact END.out
theorem own_one (W : World) (e : TypeId) (v : Value) : (W.alloc (.cells #[v] e)).ownsRow W.heap.size e 1 (.slice (some ⟨W.heap.size, 0, none⟩) 1 1) 1 [v] :=
  ⟨by simp, .inr ⟨W.heap.size, 1, #[v], rfl, Nat.le_refl _, heap_alloc_new W _, Nat.le_refl _, by unfold maxLen; omega, by simp, by simp⟩⟩
theorem own_at1 {w : World} {base : Nat} {e : TypeId} {g n c : Nat} {xs : List Value} (h : w.ownsRow base e 1 (.slice (some ⟨g, 0, none⟩) n c) n xs) {k : Nat} {v : Value} (hk : xs[k]? = some v) : w.cell? ⟨g, k, none⟩ = some v := by
  obtain ⟨hn, ⟨h, _⟩ | ⟨g', cap, cur, hv, hb, hg, h1, h2, h3, htake⟩⟩ := h
  · cases h
  · cases hv
    have hkl : k < xs.length := (List.getElem?_eq_some_iff.1 hk).1
    rw [← htake, List.getElem?_take, if_pos (by omega)] at hk
    rw [cell_of_row w g k cur e (0, 0) hg]
    simpa using hk
theorem zeroUnit (w : World) : (zeroValue 78).run Tryd.prog w = .ok (.agg #[]) w := by kernel_rfl
theorem intKeyed : Keyed Tryd.prog 3 := Maps.int_keyed Tryd.underlying3
theorem intKey {x : Nat} (h : x ≤ 100000) : keyOf Tryd.prog 3 (.int .i64 (x : Int)) = some (.int .i64 (x : Int)) := Maps.keyOf_int_mk Tryd.underlying3 (WalkArith.wf_i64 (by omega))
def intsV (l : List Nat) : List Value := (l.map fun x : Nat => (x : Int)).map (Value.int .i64)
theorem intsV_get {l : List Nat} {k : Nat} {x : Nat} (h : l[k]? = some x) : (intsV l)[k]? = some (.int .i64 (x : Int)) := by
  unfold intsV; rw [List.getElem?_map, List.getElem?_map, h]; rfl
theorem intsV_snoc (l : List Nat) (x : Nat) : intsV (l ++ [x]) = intsV l ++ [.int .i64 (x : Int)] := by
  unfold intsV; rw [List.map_append, List.map_append]; rfl
/-- Numbers in a row of the call's own, sorted by the library. -/
theorem sort_ints (v : Value) (zs : List Int) (base : Nat) (W : World) (h : W.ownsRow base 3 1 v zs.length (zs.map (Value.int .i64))) (hl : zs.length ≤ 1000000) :
    Calls Tryd.prog 45 #[v] W fun e w' => e = .returned (.tuple #[]) ∧ w'.ownsRow base 3 1 v zs.length ((zs.mergeSort fun x y => decide (x ≤ y)).map (Value.int .i64)) ∧ W.grownBy w' v.ownBlock := by
  obtain ⟨hn, h | ⟨g, cap, cur, rfl, hb, hg, hcap, hmax, hsz, htake⟩⟩ := h
  · obtain ⟨rfl, h0⟩ := h
    have hz : zs = [] := List.eq_nil_of_length_eq_zero h0
    subst hz
    refine (Tryd.slices_Sort_int_none none 0 W).mono ?_
    rintro e w' ⟨rfl, rfl⟩
    exact ⟨rfl, by simp; exact World.ownsRow_nil _ _ _ _, ⟨rfl, rfl, rfl, Nat.le_refl _, fun _ _ _ => rfl⟩⟩
  · have hH := holds_of_blockI hg (ss := zs) (by simpa using htake)
    have C := Tryd.slices_Sort_int g 0 cap zs W hH (Array.getElem?_eq_some_iff.1 hg).1 (by omega)
    refine C.mono ?_
    rintro e w' ⟨rfl, n, os, rfl⟩
    have hs := ownsRow_sortedI (w := W) (base := base) (n := n) (os := os) (cap := cap) (ss := zs) (ts := zs.mergeSort fun x y => decide (x ≤ y)) (by simp) hb hg hcap hmax hsz
    exact ⟨rfl, hs, grownBy_sortedI _⟩
/-- What a search has in memory. -/
structure Seek (W wr : World) (u : Value) (fnd : List Nat) : Prop where
  below : Below W.heap.size W wr
  row : wr.ownsRow W.heap.size 3 1 u fnd.length (intsV fnd)
  map : wr.ownsMap Tryd.prog 3 (unitElem (H := Unit)) (W.heap.size + 1) fnd.length (setN fnd)
theorem Seek.apart {W wr : World} {u : Value} {fnd : List Nat} (h : Seek W wr u fnd) : u.ownBlock ≠ some (W.heap.size + 1) := fun e => by
  obtain ⟨cur, hh⟩ := own_block h.row e
  obtain ⟨en, clock, hh2, _⟩ := h.map
  rw [hh] at hh2; cases hh2
theorem Seek.on {W wr wr' : World} {u : Value} {fnd : List Nat} (h : Seek W wr u fnd) (hb : Below wr.heap.size wr wr') : Seek W wr' u fnd :=
  ⟨h.below.trans (hb.mono h.below.size), own_where h.row (fun b _ hb' => hb.block b hb'), map_same h.map (hb.block _ h.map.lt)⟩
set_option maxRecDepth 100000 in
set_option maxHeartbeats 4000000 in
theorem pwithin_any {C : Nat → Prop} {w0 W : World} {p : Value} {L : List Tm} (i : Nat) (hi : i < L.length) (hA : AR C w0 W p L) :
    Calls Tryd.prog 27 #[p, .int .i64 i] W (ArPost AR C w0 W p L fun e W' => ∃ v, e = .returned v ∧ Nums W' v (withinN L L[i] 0)) := by
  have END := Lib.hid (fun (e : Ending) (W' : World) (hb : Below W.heap.size W W') (h : ∃ v, e = .returned v ∧ Nums W' v (withinN L L[i] 0)) => ar_post (R := fun e W' => ∃ v, e = .returned v ∧ Nums W' v (withinN L L[i] 0)) hA hb h)
  have hord := ar_ord hA
  obtain ⟨F, g, bm, kv, es, D, rfl, hm, hs⟩ := hA
  have hh := hm.head
  obtain ⟨ak, ck, rfl, hak⟩ := own_shape hm.row
  have LK := Lib.hid (lacks_any g bm ak L.length ck i W hh)
  rw [decide_eq_false (by omega)] at LK
  have hi1 : (i : Int) < (L.length : Int) := by omega
  have hmm := @run_makeMap Tryd.prog
  have hfew := hs.few
  have HO1 := Lib.hid (own_one W 3 (.int .i64 i))
  have HORD := Lib.hid hord
  have hgl := (hs.own g hs.cg).1
  have HC1 := Lib.hid (fun (V : World) (h : Below W.heap.size W V) => (h.cell (p := ⟨g, 1, none⟩) hgl).trans hh.c1)
  have HENT := Lib.hid (fun (j : Nat) (hj : j < L.length) => (show ∃ b c e, EntAt W (.slice ak L.length ck) L.length j b c e ∧ Nums W (.slice e.a e.is.length e.c) e.is ∧ e.is = (argN L L[j]).map (fun i : Nat => (i : Int)) from by
    have hje : j < es.length := by rw [hm.len]; exact hj
    obtain ⟨b, c, h1⟩ := ent_at hm.row hm.len hje
    have h2 := hs.es _ (List.getElem_mem hje)
    exact ⟨b, c, es[j], h1, h2.nums.reads (over_on hs.reads), by rw [h2.is, hm.get hj]⟩))
  clear hm hs hh hak hord
  have hz1 : (W.alloc (.cells #[.int .i64 i] 3)).heap.size = W.heap.size + 1 := by simp
  have hmade := World.ownsMap_made (W.alloc (.cells #[.int .i64 i] 3)) Tryd.prog 3 (unitElem (H := Unit))
  rw [hz1] at hmade
  obtain ⟨w2, hrun, hown2, hg2⟩ := hmade.update intKeyed Tryd.underlying79 (by unfold maxLen; omega) (intKey (x := i) (by omega)) unitElem_mk
  have hb1 : Below W.heap.size W ((W.alloc (.cells #[.int .i64 i] 3)).alloc (.map #[] 0)) := ((Below.refl _ _).alloc (Nat.le_refl _) _).alloc (by rw [hz1]; omega) _
  have HS := Lib.hid (show Seek W w2 (.slice (some ⟨W.heap.size, 0, none⟩) 1 1) [i] from
    ⟨hb1.grown hg2 hb1.size (fun k e => by have := Option.some.inj e; omega), own_same (HO1.out.alloc (.map #[] 0)) (fun b hb => by
      obtain rfl : W.heap.size = b := by simpa [Value.ownBlock] using hb
      exact hg2.block _ (by simp; omega) (fun e => by have := Option.some.inj e; omega)), hown2⟩)
  have HNEXT := Lib.hid (fun (fnd : List Nat) (k : Nat) (h : Found L i fnd k) (hk : k < fnd.length) => (show fnd[k] < L.length ∧ ∀ h2 : fnd[k] < L.length, ∀ x ∈ L[fnd[k]].args, ∃ h3 : idxT L x < L.length, ∀ hi : i < L.length, L[idxT L x] ∈ L[i].all from by
    obtain ⟨h1, h2⟩ := h.lies _ (List.getElem_mem hk)
    refine ⟨h1, fun h3 x hx => ?_⟩
    have hm := HORD.out.has (List.getElem_mem h3) hx
    have hlt := idxT_mem hm
    have e := idxT_get hlt
    rw [List.getElem?_eq_getElem hlt] at e
    exact ⟨hlt, fun hi => by rw [Option.some.inj e]; exact all_args9 _ (h2 hi) hx⟩))
  obtain ⟨i0, hi0, hiz0, his0, hib0⟩ := info_parts numInfo
  have hs2 : W.heap.size + 2 ≤ w2.heap.size := by have := hg2.size; simp at this; omega
  clear hmade hown2 hg2 hb1 HO1
  go_enter Tryd.func27, Tryd.ntmps27
  go_wp2_with fail
  refine LK.out.mono ?_; rintro e w1 ⟨rfl, rfl⟩
  go_wp2_with fail
  go_loopw [5, 7] (fun u j wr => ∃ (k : Nat) (fnd : List Nat), j = .int .i64 k ∧ Hid (Seek w1 wr u fnd) ∧ Hid (Found L i fnd k) ∧ k ≤ fnd.length ∧ w1.heap.size + 2 ≤ wr.heap.size) (fun _ j _ => L.length + 1 - (intOf j).toNat)
  case atStart => exact ⟨0, [i], rfl, HS, Lib.hid (Found.one hi), by simp, hs2⟩
  case round =>
    obtain ⟨k, fnd, rfl, HS1, HF, hk, hws⟩ := hrel
    clear hrun hs2 HS
    obtain ⟨af, cf, rfl, haf⟩ := own_shape HS1.out.row
    have hfl := HF.out.len
    by_cases hkl : k < fnd.length
    · have hi2 : (k : Int) < (fnd.length : Int) := by omega
      have hk0 : (0 : Int) ≤ (k : Int) := by omega
      obtain ⟨gf, rfl⟩ := haf (by omega)
      obtain ⟨h1, h2⟩ := HNEXT.out fnd k HF.out hkl
      obtain ⟨fk, hfk⟩ : ∃ fk, fk = fnd[k] := ⟨_, rfl⟩
      have hfk2 : fnd[k]? = some fk := by rw [hfk]; exact List.getElem?_eq_getElem hkl
      rw [← hfk] at h1
      simp only [← hfk] at h2
      obtain ⟨b, c, ⟨ez, ea, ec, eis⟩, hEA, hNU, hIS⟩ := HENT.out fk h1
      have hkv := hEA.kv
      have hE1 := hEA.below HS1.out.below
      obtain ⟨_, _, _, _, _, d4, _⟩ := hE1
      simp only at d4 hNU hIS
      cases hkv
      have c1 := HC1.out wr HS1.out.below
      have r1 := own_at1 HS1.out.row (intsV_get hfk2)
      obtain ⟨xs, hxs⟩ : ∃ xs, xs = L[fk].args := ⟨_, rfl⟩
      have hisx : eis = (xs.map (idxT L)).map fun i : Nat => (i : Int) := by rw [hIS, hxs]; rfl
      have hisl : eis.length = xs.length := by rw [hisx, List.length_map, List.length_map]
      have hfi : (fk : Int) < (L.length : Int) := by omega
      have hf0 : (0 : Int) ≤ (fk : Int) := by omega
      have HX := Lib.hid (fun x (hx : x ∈ xs) => h2 h1 x (by rw [← hxs]; exact hx))
      have HDONE := Lib.hid (fun (fnd2 : List Nat) (hF2 : Found L i fnd2 k) (hk2 : k < fnd2.length) (e2 : fnd2[k]? = some fk) (ha : ∀ j (h : j < xs.length), idxT L xs[j] ∈ fnd2) => (show Found L i fnd2 (k + 1) from hF2.next hk2 (fun hq x hx => by
        rw [List.getElem?_eq_getElem hk2] at e2
        have e3 := Option.some.inj e2
        simp only [e3] at hx
        rw [← hxs] at hx
        obtain ⟨j, hj, rfl⟩ := List.getElem_of_mem hx
        exact ha j hj)))
      obtain ⟨a9, c9, hne, _, _, _, hnn⟩ := hNU
      obtain ⟨rfl, rfl⟩ : ea = a9 ∧ ec = c9 := by cases hne; exact ⟨rfl, rfl⟩
      have HNN := Lib.hid hnn
      have HISX := Lib.hid hisx
      have HFK := Lib.hid hfk2
      have HISL := Lib.hid hisl
      clear hfk h2 hEA hIS hnn hne hfk2 hxs hisx hisl
      go_wp2_with fail
      go_region
      go_wp2_with fail
      obtain ⟨wo, hwo⟩ : ∃ wo, wo = wr := ⟨_, rfl⟩
      subst hwo
      go_loopw [5, 39] (fun u r wr => ∃ (q : Nat) (fnd2 : List Nat), r = .int .i64 q ∧ q ≤ eis.length ∧ Hid (Seek w1 wr u fnd2) ∧ Hid (Found L i fnd2 k) ∧ Hid (k < fnd2.length ∧ fnd2[k]? = some fk) ∧ Hid (∀ j (h : j < xs.length), j < q → idxT L xs[j] ∈ fnd2) ∧ w1.heap.size + 2 ≤ wr.heap.size) (fun _ r _ => eis.length - (intOf r).toNat)
      case atStart => exact ⟨0, fnd, rfl, Nat.zero_le _, Lib.hid (HS1.out.on ((Below.refl _ _).drew)), HF, Lib.hid ⟨hkl, HFK.out⟩, Lib.hid (fun j _ h => by omega), hws⟩
      case round =>
        obtain ⟨q, fnd2, rfl, hq, HS2, HF2, HK2, HD2, hws2⟩ := hrel
        clear c1 r1 d4
        by_cases hql : q < eis.length
        · have hqi : (q : Int) < (eis.length : Int) := by omega
          have hq0 : (0 : Int) ≤ (q : Int) := by omega
          have hqx : q < xs.length := by have := HISL.out; omega
          obtain ⟨bn, on, rfl, hlt, hcell⟩ := HNN.out.resolve_left (by intro h; rw [h] at hql; simp at hql)
          obtain ⟨y, hy, hx1⟩ : ∃ y, y = idxT L xs[q] ∧ ∃ h : y < L.length, ∀ hi : i < L.length, L[y] ∈ L[i].all := ⟨_, rfl, HX.out xs[q] (List.getElem_mem hqx)⟩
          have hce := hcell q (y : Int) (by rw [HISX.out, List.getElem?_map, List.getElem?_map, List.getElem?_eq_getElem hqx, hy]; rfl)
          have hyc := (HS2.out.below.cell (p := ⟨bn, on + q, none⟩) hlt).trans hce
          have HY := Lib.hid hy
          have HX1 := Lib.hid hx1
          have hyl : y < L.length := hx1.1
          have hkey := intKey (x := y) (by omega)
          have hf2 := HF2.out.len
          have hbA : Below wr.heap.size wr (wr.alloc (.cells #[] 78)) := (Below.refl _ _).alloc (Nat.le_refl _) _
          have hm1 := HS2.out.map
          obtain ⟨bb, hbb⟩ : ∃ bb, has (setN fnd2) (.int .i64 (y : Int)) = bb := ⟨_, rfl⟩
          have hdec : decide (y ∈ fnd2) = bb := by rw [← setN_has]; exact hbb
          clear hcell hce hy hx1
          cases bb with
          | true =>
            have HMEM := Lib.hid (of_decide_eq_true hdec)
            have HSN := Lib.hid (HS2.out.on hbA)
            clear hdec
            go_wp2_with (at_lookup; refine wpList_lookup_own_unit _ rfl _ _ 79 rfl 3 78 intKeyed Tryd.underlying79 (zeroUnit _) (w1.heap.size + 1) fnd2.length _ rfl hm1 _ _ rfl hkey ?_; rw [hbb])
            go_roundw
            case rel =>
              refine ⟨q + 1, fnd2, by go_num, by omega, HSN, HF2, HK2, Lib.hid (fun j hj hjq => ?_), by simp; omega⟩
              by_cases e : j = q
              · subst e; rw [← HY.out]; exact HMEM.out
              · exact HD2.out j hj (by omega)
            case measure => simp [intOf]; omega
          | false =>
            have HNM := Lib.hid (of_decide_eq_false hdec)
            have hMX : fnd2.length < maxLen := by unfold maxLen; omega
            have hM1 : fnd2.length + 1 ≤ maxLen := by unfold maxLen; omega
            have hM2 : (fnd2.length + 1) * 8 ≤ 140737488355328 := by omega
            have HAP := Lib.hid HS2.out.apart
            have HMA := Lib.hid (hm1.alloc (.cells #[] 78))
            have HBA := Lib.hid hbA
            have hlm := hm1.lt
            have HLM := Lib.hid hlm
            have HSR := Lib.hid (own_where HS2.out.row (W := wr.alloc (.cells #[] 78)) (fun b _ hb => hbA.block b hb))
            obtain ⟨a2, c2, rfl, _⟩ := own_shape HS2.out.row
            have HBW := Lib.hid HS2.out.below
            clear hdec hbA hlm
            go_wp2_with (first
              | (at_lookup; refine wpList_lookup_own_unit _ rfl _ _ 79 rfl 3 78 intKeyed Tryd.underlying79 (zeroUnit _) (w1.heap.size + 1) fnd2.length _ rfl hm1 _ _ rfl hkey ?_; rw [hbb])
              | (at_mapUpdate; refine wpList_mapUpdate_own _ rfl _ _ _ 79 rfl 3 78 intKeyed Tryd.underlying79 _ (w1.heap.size + 1) fnd2.length _ rfl HMA.out hMX _ _ _ rfl rfl hkey _ [] unitElem_mk ?_; intro w5 hown5 hg5; have HO5 := Lib.hid hown5; have HG5 := Lib.hid hg5; have HR5 := Lib.hid (own_same HSR.out (W := w5) (fun b hb => hg5.block b (by obtain ⟨cur, hh⟩ := own_block HSR.out hb; exact (Array.getElem?_eq_some_iff.1 hh).1) (fun e => HAP.out (by rw [← Option.some.inj e]; exact hb)))); have hs5 := hg5.size; clear hown5 hg5)
              | (at_builtin; refine wpList_append_own_at _ rfl _ _ 36 rfl w1.heap.size 3 i0 (.int .i64 0) 1 8 Tryd.underlying36 hi0 hiz0 his0 hib0 rfl (by decide) _ fnd2.length _ rfl (HR5.out.alloc _) ⟨w5.heap.size, 0, none⟩ 1 1 [Value.int .i64 (y : Int)] rfl rfl (cell_one_new _ _ _) (by simp [Value.oneCell']) hM1 hM2 (by simp at hs5 ⊢; omega) ?_; intro v7 w7 hown7 hg7 _ hat7; have HO7 := Lib.hid hown7; have HG7 := Lib.hid hg7; clear hown7 hg7 hat7))
            have HSN := Lib.hid (show Seek w1 w7 v7 (fnd2 ++ [y]) from by
              have hbase : w1.heap.size ≤ w5.heap.size := by simp at hs5; omega
              have hbl5 : w1.heap.size + 1 < w5.heap.size := by have := HLM.out; simp at hs5; omega
              have hb5 : Below w1.heap.size w1 w5 := (HBW.out.trans (HBA.out.mono HBW.out.size)).grown HG5.out (by simp; omega) (fun k e => by have := Option.some.inj e; omega)
              refine ⟨(hb5.alloc hbase _).grown HG7.out (by simp; omega) (fun k e => own_base HS2.out.row k e), ?_, ?_⟩
              · rw [List.length_append, List.length_singleton, intsV_snoc]; exact HO7.out
              · rw [List.length_append, List.length_singleton, ← setN_put]
                refine map_same HO5.out ?_
                rw [HG7.out.block _ (by simp; omega) (fun e => HAP.out e.symm)]
                exact Below.heap_alloc _ _ _ hbl5)
            have hs7 := HG7.out.size
            go_roundw
            case rel =>
              refine ⟨q + 1, fnd2 ++ [y], by go_num, by omega, HSN, Lib.hid (HF2.out.more (by have := HK2.out.1; omega) HNM.out HX1.out), Lib.hid ⟨by have := HK2.out.1; rw [List.length_append]; omega, by rw [List.getElem?_append_left HK2.out.1]; exact HK2.out.2⟩, Lib.hid (fun j hj hjq => ?_), by simp at hs5 hs7; omega⟩
              by_cases e : j = q
              · subst e; rw [← HY.out]; exact List.mem_append_right _ (List.mem_singleton.2 rfl)
              · exact List.mem_append_left _ (HD2.out j hj (by omega))
            case measure => simp [intOf]; omega
        · obtain rfl : q = eis.length := by omega
          have HDN := Lib.hid (HDONE.out fnd2 HF2.out HK2.out.1 HK2.out.2 (fun j hj => HD2.out j hj (by have := HISL.out; omega)))
          go_wp2_with fail
          go_roundw
          case rel => exact ⟨k + 1, fnd2, by go_num, HS2, HDN, by have := HK2.out.1; omega, hws2⟩
          case measure => simp [intOf]; omega
    · obtain rfl : k = fnd.length := by omega
      have SRT := Lib.hid (sort_ints (.slice af fnd.length cf) (fnd.map fun x : Nat => (x : Int)) w1.heap.size wr (by rw [List.length_map]; exact HS1.out.row) (by rw [List.length_map]; omega))
      have HALL := Lib.hid (HF.out.all HORD.out hi)
      have hb := HS1.out.below
      have HB := Lib.hid hb
      have HNB := Lib.hid (fun k e => own_base HS1.out.row k e)
      clear hb haf
      go_wp2_with fail
      refine SRT.out.mono ?_; rintro e w3 ⟨rfl, ho3, hg3⟩
      have HEND := Lib.hid (END.out (.returned (.slice af fnd.length cf)) w3 (HB.out.grown hg3 HB.out.size HNB.out) ⟨_, rfl, by
        rw [← HALL.out]
        refine nums_of_own ho3 (fun x hx => ?_)
        rw [HALL.out] at hx
        have := withinN_range L L[i] 0 x hx
        omega⟩)
      clear ho3 hg3
      go_wp2_with fail
      go_ret
      exact HEND.out
end Go.Proofs.YtccpfgpdcicjaaaDoor

namespace Go.Proofs.YtccpfgpdcicjaaaDoor
open Go.RowKit Go.Maps

/-- What the entries hold comes in sight, and nothing else. -/
theorem ar_open {C : Nat → Prop} {w0 W W' : World} {F : Nat → Bool} {g bm : Nat} {kv : Value} {es : List En} {D : DataW Unit} {L : List Tm} (hm : ArMem g bm kv es D L W) (hs : ArSet C w0 W F g bm kv es L) (hb : Below W.heap.size W W') :
    ∃ (C' : Nat → Prop) (w1 : World), (∀ e ∈ es, e.ok w1 L) ∧ AR C' w1 W' (.pointer (some ⟨g, 0, none⟩)) L ∧ Step C w0 W w1 W' ∧ (∀ k, C' k → C k) ∧ (∀ k, W.heap.size ≤ k → Blind w1 k) := by
  have hr : Reads w0 W' := hs.reads.trans (reads_below hb)
  have hu : Reads (over w0 W F) (over w0 W' F) := over_reads (Reads.refl _) hs.reads.size hr.size hb.size (fun k _ hk => hb.block k hk)
  have hes : ∀ e ∈ es, e.ok (over w0 W' F) L := fun e he => (hs.es e he).reads hu
  have hF : ∀ k, ¬ C k → F k = false := fun k hc => by
    cases e : F k with
    | false => rfl
    | true => exact absurd (hs.hid k e).1 hc
  obtain ⟨v, hv⟩ := hs.seen
  refine ⟨fun k => C k ∧ F k = false, over w0 W' F, hes, ⟨fun _ => false, g, bm, kv, es, D, rfl, hm.same (hb.block g (hs.own g hs.cg).1) (hb.block bm (hs.own bm hs.cb).1) (fun b h => hb.block b (hs.own b (hs.ck b h)).1), ?_⟩, ?_, fun k hk => hk.1, fun k hk => over_blind hr.size (hF k (fun hc => by have := (hs.own k hc).1; omega)) (blind_new (by have := hs.reads.size; omega))⟩
  · refine ⟨over_on hr, hs.ord, hs.few1, hs.few, fun e he => (hes e he).reads (over_up (over_on hr)), hs.pow.below hb, ⟨v, (over_up hr).cell _ _ hv⟩, ⟨hs.cg, ?_⟩, ⟨hs.cb, ?_⟩, fun b h => ⟨hs.ck b h, ?_⟩, (fun k hk => by cases hk), fun k hk => ⟨Nat.lt_of_lt_of_le (hs.own k hk.1).1 hb.size, over_blind hr.size hk.2 (hs.own k hk.1).2⟩⟩
    · cases e : F g with
      | false => rfl
      | true => exact absurd rfl (hs.hid g e).2.1
    · cases e : F bm with
      | false => rfl
      | true => exact absurd rfl (hs.hid bm e).2.2.1
    · cases e : F b with
      | false => rfl
      | true => exact absurd h (hs.hid b e).2.2.2
  · exact ⟨over_up hr, over_on hr, fun k hk hc hbl => over_blind hr.size (hF k hc) hbl, hb.os, hb.tape, hb.output, hb.size, fun k hk _ => hb.block k hk⟩
set_option maxRecDepth 100000 in
set_option maxHeartbeats 2000000 in
/-- A row of entries, cloned. -/
theorem clone_es (v : Value) (n : Nat) (es : List En) (W : World) (h : W.ownsRow 0 68 6 v n (rowE es)) (hlen : n ≤ 100000) :
    Calls Tryd.prog 48 #[v] W fun e W' => ∃ u, e = .returned u ∧ W'.ownsRow W.heap.size 68 6 u n (rowE es) ∧ Below W.heap.size W W' := by
  obtain ⟨i0, hi, hz0, hz1, hz2⟩ := info_parts entryInfo
  have hrl := h.1
  rcases h.2 with ⟨rfl, rfl⟩ | ⟨g, cap, cur, rfl, _, hg, _, _, _, htake⟩
  · have hes : rowE es = [] := List.eq_nil_of_length_eq_zero (by simpa using hrl)
    rw [hes]
    have hEQ := fun V => Lib.run_eql_slice_nil (P := Tryd.prog) V 62 68 none 0 0 0 0 Tryd.underlying62
    clear h hrl hes
    go_enter Tryd.func48, Tryd.ntmps48
    go_wp2_with fail
    go_ret
    exact ⟨_, rfl, World.ownsRow_nil _ _ _ _, Below.refl _ _⟩
  · have hnews : ∀ q x, (rowE es)[q]? = some x → (W.alloc (.cells #[] 68)).cell? ((⟨g, 0, none⟩ : Addr).add q) = some x := fun q x hq => by
      have h1 := h.cells (g := g) rfl q x hq
      rw [(reads_below ((Below.refl W.heap.size W).alloc (Nat.le_refl _) (.cells #[] 68))).cell _ _ h1]
    have H1 := Lib.hid (And.intro hrl (And.intro hnews (rowE_one' es)))
    have HM1 : 0 + n ≤ maxLen := by unfold maxLen; omega
    have HM2 : (0 + n) * 88 ≤ 140737488355328 := by omega
    have HE := Lib.hid (own_empty W W.heap.size 68 6 (Nat.le_refl _))
    have HA := Lib.hid (show Below W.heap.size W (W.alloc (.cells #[] 68)) from (Below.refl _ _).alloc (Nat.le_refl _) _)
    have HSZ := Lib.hid (show W.heap.size ≤ (W.alloc (.cells #[] 68)).heap.size by simp)
    have hEQ := fun V => Lib.run_eql_slice_nil (P := Tryd.prog) V 62 68 (some ⟨g, 0, none⟩) n cap 0 0 Tryd.underlying62
    clear h hrl hnews hg htake
    go_enter Tryd.func48, Tryd.ntmps48
    go_wp2_with (at_builtin; refine wpList_append_own_at _ rfl _ _ 62 rfl W.heap.size 68 i0 (.agg #[.int .i64 0, .string ⟨#[]⟩, .int .i64 0, .slice none 0 0, .slice none 0 0, .int .i64 0]) 6 88 Tryd.underlying62 hi hz0 hz1 hz2 rfl (by decide) _ 0 [] rfl HE.out ⟨g, 0, none⟩ n cap (rowE es) rfl H1.out.1 H1.out.2.1 H1.out.2.2 HM1 HM2 HSZ.out ?_; intro v6 w6 hown6 hg6 _ hat6)
    go_ret
    refine ⟨_, rfl, ?_, HA.out.grown hg6 HSZ.out fun k e => ?_⟩
    · simpa using hown6
    · cases e; exact Nat.le_refl _
theorem clone_map (bm n : Nat) (D : DataW Unit) (W : World) (h : W.ownsMap Tryd.prog 75 (plainElem Tryd.prog 3) bm n D) :
    Calls Tryd.prog 47 #[.map (some bm)] W fun e W' => e = .returned (.map (some W.heap.size)) ∧ W'.ownsMap Tryd.prog 75 (plainElem Tryd.prog 3) W.heap.size n D ∧ Below W.heap.size W W' :=
  (AnyW.maps_Clone_owns Tryd.laysClone 75 (plainElem Tryd.prog 3) bm n D W h).mono fun _ _ hh => ⟨hh.1, hh.2.1, hh.2.2.2⟩
/-- The table of the copy. -/
def MapF (bmW : Nat) (L : List Tm) (D : DataW Unit) (V : World) (b : Nat) : Prop := bmW ≤ b ∧ V.ownsMap Tryd.prog 75 (plainElem Tryd.prog 3) b L.length D
/-- The row of the copy. -/
def RowF (bmW : Nat) (L : List Tm) (es : List En) (V : World) (a : Option Addr) (c : Nat) : Prop := V.ownsRow bmW 68 6 (.slice a L.length c) L.length (rowE es)
def CopyPost (C : Nat → Prop) (w0 W : World) (p : Value) (L : List Tm) (e : Ending) (W' : World) : Prop :=
  ∃ q C1 C2 w1, e = .returned q ∧ AR C1 w1 W' p L ∧ AR C2 w1 W' q L ∧ (∀ k, C1 k → ¬ C2 k) ∧ Step C w0 W w1 W' ∧ (∀ k, C1 k → C k ∨ W.heap.size ≤ k) ∧ (∀ k, C2 k → W.heap.size ≤ k)
theorem copy_end {C : Nat → Prop} {w0 W : World} {F : Nat → Bool} {g bm : Nat} {kv : Value} {es : List En} {D : DataW Unit} {L : List Tm} (hm : ArMem g bm kv es D L W) (hs : ArSet C w0 W F g bm kv es L) {V : World} {b : Nat} {a : Option Addr} {c : Nat}
    (hb : Below W.heap.size W V) (h1 : MapF W.heap.size L D V b) (h2 : RowF W.heap.size L es V a c) :
    CopyPost C w0 W (.pointer (some ⟨g, 0, none⟩)) L (.returned (.pointer (some ⟨V.heap.size, 0, none⟩))) (V.alloc (.cells #[.map (some b), .slice a L.length c] 64)) := by
  have hz : (V.alloc (.cells #[.map (some b), .slice a L.length c] 64)).heap.size = V.heap.size + 1 := by simp
  have hbv : Below V.heap.size V (V.alloc (.cells #[.map (some b), .slice a L.length c] 64)) := (Below.refl _ _).alloc (Nat.le_refl _) _
  have hbW := below_next hb hbv
  obtain ⟨C1, w1, e1, e2, e3, e4, e5⟩ := ar_open hm hs hbW
  have hblt := h1.2.lt
  have hsV := hb.size
  obtain ⟨v, hv⟩ := hs.seen
  have hrow : (V.alloc (.cells #[.map (some b), .slice a L.length c] 64)).ownsRow W.heap.size 68 6 (.slice a L.length c) L.length (rowE es) := World.ownsRow.alloc h2 _
  have hkl : ∀ k, (Value.slice a L.length c).ownBlock = some k → W.heap.size ≤ k ∧ k < V.heap.size := fun k hk => by
    obtain ⟨cur, hh⟩ := own_block h2 hk
    exact ⟨own_base h2 k hk, (Array.getElem?_eq_some_iff.1 hh).1⟩
  refine ⟨_, C1, fun k => W.heap.size ≤ k ∧ k < V.heap.size + 1, w1, rfl, e2, ?_, fun k hk h => by have := (hs.own k (e4 k hk)).1; omega, e3, fun k hk => .inl (e4 k hk), fun k hk => hk.1⟩
  refine ⟨fun _ => false, V.heap.size, b, .slice a L.length c, es, D, rfl, ⟨?_, ?_, ?_, ?_, map_same h1.2 (Below.heap_alloc _ _ _ hblt), hm.tab, own_lower hrow (Nat.zero_le _), hm.terms, fun h => by have := (hkl _ h).2; omega⟩, ?_⟩
  · rw [World.cell?_alloc_new]; rfl
  · rw [World.cell?_alloc_new]; rfl
  · rw [World.frozen?_alloc_new]
  · rw [World.frozen?_alloc_new]
  · exact ⟨e3.on, hs.ord, hs.few1, hs.few, fun e he => (e1 e he).reads (over_up e3.on), hs.pow.below hbW, ⟨v, e3.up.cell _ _ hv⟩, ⟨by omega, by omega⟩, ⟨h1.1, by omega⟩, fun k hk => ⟨(hkl k hk).1, by have := (hkl k hk).2; omega⟩, (fun k hk => by cases hk), fun k hk => ⟨by rw [hz]; exact hk.2, e5 k hk.1⟩⟩
set_option maxRecDepth 100000 in
set_option maxHeartbeats 2000000 in
theorem copy_any {C : Nat → Prop} {w0 W : World} {p : Value} {L : List Tm} (hA : AR C w0 W p L) : Calls Tryd.prog 32 #[p] W (CopyPost C w0 W p L) := by
  obtain ⟨F, g, bm, kv, es, D, rfl, hm, hs⟩ := hA
  obtain ⟨ak, ck, rfl, hak⟩ := own_shape hm.row
  have hfew := hs.few
  have hgl := (hs.own g hs.cg).1
  have hbl := (hs.own bm hs.cb).1
  have hh := hm.head
  have MD := Lib.hid (made_any g bm _ W hh)
  have KEEP := Lib.hid (fun (V : World) (h : Below W.heap.size W V) => (show V.cell? ⟨g, 0, none⟩ = some (.map (some bm)) ∧ V.cell? ⟨g, 1, none⟩ = some (.slice ak L.length ck) from ⟨(h.cell (p := ⟨g, 0, none⟩) hgl).trans hh.c0, (h.cell (p := ⟨g, 1, none⟩) hgl).trans hh.c1⟩))
  have KEEPA := Lib.hid (fun (V : World) (o : Obj) (h : Below W.heap.size W V) => KEEP.out (V.alloc o) (h.alloc h.size o))
  have HMAP := fun (V : World) (h : Below W.heap.size W V) => map_same hm.map (h.block bm hbl)
  have HROW := fun (V : World) (h : Below W.heap.size W V) => own_where hm.row (W := V) (fun b _ hb => h.block b hb)
  have CM := Lib.hid (fun (V : World) (h : Below W.heap.size W V) => (clone_map bm L.length D V (HMAP V h)).mono fun e V' hh => (show ∃ b, e = .returned (.map (some b)) ∧ Below W.heap.size W V' ∧ MapF W.heap.size L D V' b from ⟨V.heap.size, hh.1, below_next h hh.2.2, h.size, hh.2.1⟩))
  have CM2 := Lib.hid (fun (V : World) (h : Below W.heap.size W V) (a : Option Addr) (c : Nat) (hr : RowF W.heap.size L es V a c) => (clone_map bm L.length D V (HMAP V h)).mono fun e V' hh => (show ∃ b, e = .returned (.map (some b)) ∧ Below W.heap.size W V' ∧ MapF W.heap.size L D V' b ∧ RowF W.heap.size L es V' a c from ⟨V.heap.size, hh.1, below_next h hh.2.2, ⟨h.size, hh.2.1⟩, own_where hr (fun b _ hb => hh.2.2.block b hb)⟩))
  have CS := Lib.hid (fun (V : World) (h : Below W.heap.size W V) => (clone_es _ L.length es V (HROW V h) (by omega)).mono fun e V' hh => (show ∃ a c, e = .returned (.slice a L.length c) ∧ Below W.heap.size W V' ∧ RowF W.heap.size L es V' a c by
    obtain ⟨u, h1, h2, h3⟩ := hh
    obtain ⟨a, c, rfl, _⟩ := own_shape h2
    exact ⟨a, c, h1, below_next h h3, own_lower h2 h.size⟩))
  have CS2 := Lib.hid (fun (V : World) (h : Below W.heap.size W V) (b : Nat) (hb : MapF W.heap.size L D V b) => (clone_es _ L.length es V (HROW V h) (by omega)).mono fun e V' hh => (show ∃ a c, e = .returned (.slice a L.length c) ∧ Below W.heap.size W V' ∧ MapF W.heap.size L D V' b ∧ RowF W.heap.size L es V' a c by
    obtain ⟨u, h1, h2, h3⟩ := hh
    obtain ⟨a, c, rfl, _⟩ := own_shape h2
    exact ⟨a, c, h1, below_next h h3, ⟨hb.1, map_same hb.2 (h3.block b hb.2.lt)⟩, own_lower h2 h.size⟩))
  have END := Lib.hid (fun (V : World) (b : Nat) (a : Option Addr) (c : Nat) (hb : Below W.heap.size W V) (h1 : MapF W.heap.size L D V b) (h2 : RowF W.heap.size L es V a c) => copy_end hm hs hb h1 h2)
  have hd : Below W.heap.size W W.drew := (Below.refl _ _).drew
  obtain ⟨c0, c1⟩ := hh
  clear hm hs HMAP HROW hak
  go_enter Tryd.func32, Tryd.ntmps32
  go_wp2_with fail
  refine MD.out.mono ?_; rintro e w1 ⟨rfl, rfl⟩
  go_wp2_with fail
  go_region_held3 (fun V => V.cell? ⟨g, 0, none⟩ = some (.map (some bm)) ∧ V.cell? ⟨g, 1, none⟩ = some (.slice ak L.length ck)) (first | exact KEEP.out _ (by assumption) | exact KEEPA.out _ _ (by assumption))
    ((first
      | (go_at_call 47; refine (CM2.out _ (by assumption) _ _ (by assumption)).mono ?_; rintro e w5 ⟨b, rfl, hn, hmf, hrf⟩)
      | (go_at_call 47; refine (CM.out _ (by assumption)).mono ?_; rintro e w5 ⟨b, rfl, hn, hmf⟩)
      | (go_at_call 48; refine (CS2.out _ (by assumption) _ (by assumption)).mono ?_; rintro e w6 ⟨a, c, rfl, hn, hmf, hrf⟩)
      | (go_at_call 48; refine (CS.out _ (by assumption)).mono ?_; rintro e w6 ⟨a, c, rfl, hn, hrf⟩)))
  all_goals
    go_wp2_with fail
    go_ret
    exact END.out _ _ _ _ (by assumption) (by assumption) (by assumption)
end Go.Proofs.YtccpfgpdcicjaaaDoor

namespace Go.Proofs.YtccpfgpdcicjaaaDoor
open Go.RowKit

theorem Tms.first {w : World} {a : Option Addr} {c k : Nat} {ts : List Tm} (h : Tms w (.slice a ts.length c) ts) (hk : k ≤ ts.length) : Tms w (.slice a k c) (ts.take k) := by
  obtain ⟨a', c', he, ⟨hl, hc⟩, hr⟩ := h
  obtain ⟨rfl, rfl⟩ : a = a' ∧ c = c' := by cases he; exact ⟨rfl, rfl⟩
  refine ⟨a, c, by rw [List.length_take, Nat.min_eq_left hk], ⟨by rw [List.length_take]; omega, by rw [List.length_take]; omega⟩, ?_⟩
  rcases hr with rfl | ⟨b, o, ha, hlt, hr⟩
  · exact .inl (by simp)
  · exact .inr ⟨b, o, ha, hlt, rowAt_of fun {j} hj => by
      rw [List.length_take] at hj
      rw [List.getElem_take]
      exact rowAt_get hr (by omega)⟩
/-- An arena that was made since. -/
structure ArNew (AR : ARel) (w0 W : World) (p : Value) (L : List Tm) (C : Nat → Prop) (W' : World) : Prop where
  ar : AR C w0 W' p L
  new : ∀ k, C k → W.heap.size ≤ k
  below : Below W.heap.size W W'
theorem step_new {C : Nat → Prop} {w0 w1 W W1 W2 : World} (hb : Below W.heap.size W W1) (hc : ∀ k, C k → W.heap.size ≤ k) (h : Step C w0 W1 w1 W2) : Below W.heap.size W W2 :=
  hb.trans ⟨h.os, h.tape, h.output, h.size, fun k hk => h.keep k (Nat.lt_of_lt_of_le hk hb.size) (fun h1 => by have := hc k h1; omega)⟩
variable {AR : ARel} {w0 W W1 W2 : World} {p : Value} {L L2 : List Tm} {C : Nat → Prop} {R : Ending → World → Prop} {e : Ending}
theorem ArNew.more (h : ArNew AR w0 W p L C W1) (k : ArPost AR C w0 W1 p L2 R e W2) : ∃ C2, R e W2 ∧ ArNew AR w0 W p L2 C2 W2 ∧ Step C w0 W1 w0 W2 ∧ ∀ g, g < W1.heap.size → ¬ C g → ¬ C2 g := by
  obtain ⟨C2, hr, h2, hs, hn⟩ := k
  exact ⟨C2, hr, ⟨h2, fun b hb => by
    rcases hn b hb with h1 | h1
    · exact h.new b h1
    · exact Nat.le_trans h.below.size h1, step_new h.below h.new hs⟩, hs, fun g hg hc h2 => by
    rcases hn g h2 with h1 | h1
    · exact hc h1
    · omega⟩
theorem ArNew.on (A : ArenaI AR) (h : ArNew AR w0 W p L C W1) (hb : Below W1.heap.size W1 W2) : ArNew AR w0 W p L C W2 :=
  ⟨A.stay h.ar (step_below (C := fun _ => False) (A.reads h.ar) hb) (fun _ _ f => f) (fun _ f => f.elim), h.new, h.below.trans (hb.mono h.below.size)⟩
/-- What a call has made since comes in sight. -/
theorem ArNew.sight (A : ArenaI AR) (h : ArNew AR w0 W p L C W1) (hb : Below W1.heap.size W1 W2) : ArNew AR (seen w0 W1 W2) W p L C W2 :=
  ⟨A.stay h.ar ((step_below (C := fun _ => False) (A.reads h.ar) hb).show_ (fun k => decide (W1.heap.size ≤ k)) (fun k hk => decide_eq_false (by omega))) (fun _ _ f => f) (fun _ f => f.elim), h.new, h.below.trans (hb.mono h.below.size)⟩
theorem fewA_mem {ts : List Tm} (h : fewA ts = true) {x : Tm} (hx : x ∈ ts) : withinB x 300 = true := by
  have h1 := (fewA_of h).2 x hx
  unfold withinB at h1 ⊢
  rw [Bool.and_eq_true, decide_eq_true_eq] at h1 ⊢
  exact ⟨by omega, h1.2⟩

set_option maxRecDepth 100000 in
set_option maxHeartbeats 4000000 in
theorem lawPuts9_of (A : ArenaI AR) (w : World) (hT : Pow w) (AW : ∀ W, Below w.heap.size w W → Calls Tryd.prog 8 #[] W fun e w' => e = .returned (.bool true) ∧ Below W.heap.size W w')
    (v : Value) (ts : List Tm) (hv : Tms w v ts) :
    Calls Tryd.prog 3 #[v] w fun e w' => e = .returned (.bool true) ∧ Below w.heap.size w w' := by
  have AW1 := Lib.hid (AW w (Below.refl _ _))
  have HT := Lib.hid hT
  clear hT
  have FW := Lib.hid (fun (W : World) (h : Below w.heap.size w W) => rfewa_any v ts W (hv.below h))
  obtain ⟨av, cv, rfl, hl, hh⟩ := hv.open_
  have HV := Lib.hid hv
  have HR := Lib.hid hh
  clear AW hv hh
  go_enter Tryd.func3, Tryd.ntmps3
  go_wp2_with fail
  refine AW1.out.mono ?_; rintro e w1 ⟨rfl, hb1⟩
  go_wp2_with fail
  refine (FW.out _ hb1).mono ?_; rintro e w2 ⟨rfl, hb2⟩
  replace hb2 := below_next hb1 hb2
  clear hb1
  cases hf : fewA ts with
  | false =>
    have HE := Lib.hid hb2
    clear hb2
    go_wp2_with fail
    go_ret
    exact ⟨rfl, HE.out⟩
  | true =>
  have hpl := fewA_parts hf
  have hll := (fewA_of hf).1
  have HMEM := Lib.hid (fun x (hx : x ∈ ts) => fewA_mem hf hx)
  have NW := Lib.hid (A.new w w2 (reads_below hb2) HT.out (HT.out.below hb2))
  have HB2 := Lib.hid hb2
  have AA := Lib.hid A
  clear hf hb2 FW AW1 A
  go_wp2_with fail
  refine NW.out.mono ?_; rintro e w3 ⟨p, C, rfl, har, hc, hb3⟩
  have H3 := Lib.hid (show ArNew AR w w p (putTs (ts.take 0) []) C w3 from ⟨by rw [List.take_zero, putTs]; exact har, fun k hk => Nat.le_trans HB2.out.size (hc k hk), below_next HB2.out hb3⟩)
  clear har hc hb3 NW
  go_wp2_with fail
  go_loopw [15] (fun i wr => ∃ (k : Nat) (C2 : Nat → Prop), k ≤ ts.length ∧ i = .int .i64 k ∧ Hid (∃ w0, Reads w w0 ∧ ArNew AR w0 w p (putTs (ts.take k) []) C2 wr)) (fun i _ => ts.length - (intOf i).toNat)
  case atStart => exact ⟨0, C, Nat.zero_le _, rfl, Lib.hid ⟨w, Reads.refl _, H3.out⟩⟩
  case round =>
    obtain ⟨k, C2, hk, rfl, H2⟩ := hrel
    obtain ⟨w0, hw0, h2⟩ := H2.out
    by_cases hkl : k < ts.length
    · have hi : (k : Int) < (ts.length : Int) := by omega
      have hk0 : (0 : Int) ≤ (k : Int) := by omega
      obtain ⟨b, o, rfl, hlt, hr⟩ := HR.out.resolve_left (by intro h; rw [h] at hkl; simp at hkl)
      obtain ⟨u, hu, huo, hat⟩ := hr k hkl
      have hrw := hw0.trans (AA.out.reads h2.ar)
      obtain ⟨d0, d1, d2, d3⟩ : TvAt wr b (o + k * 4) u := ⟨hrw.cell _ _ hat.c0, hrw.cell _ _ hat.c1, hrw.cell _ _ hat.c2, hrw.cell _ _ hat.c3⟩
      obtain ⟨ut, ua, uc⟩ := u
      simp only at hu d0 d1 d2 d3
      have hcap : k + 1 ≤ cv := by
        obtain ⟨a', c', he, ⟨_, hc⟩, _⟩ := HV.out
        cases he; omega
      have hL : Below wr.heap.size wr (wr.alloc (.cells #[.int .i64 ut.kind, .string ut.name, .int .i64 ut.n, .slice ua ut.args.length uc] 28)) := (Below.refl _ _).alloc (Nat.le_refl _) _
      have hbx := box_new wr (.int .i64 ut.kind) (.string ut.name) (.int .i64 ut.n) (.slice ua ut.args.length uc) 28
      have hzx : (wr.alloc (.cells #[.int .i64 ut.kind, .string ut.name, .int .i64 ut.n, .slice ua ut.args.length uc] 28)).heap.size = wr.heap.size + 1 := by simp
      have h3 := h2.on AA.out hL
      have hc3 : ¬ C2 wr.heap.size := fun h => by have := (AA.out.own h2.ar _ h).1; omega
      have hpk : partsL (ts.take (k + 1)) ≤ partsL ts := by
        have e := partsL_append (ts.take (k + 1)) (ts.drop (k + 1))
        rw [List.take_append_drop] at e; omega
      have PU := Lib.hid (rputs_any _ (ts.take (k + 1)) w0 (wr.alloc (.cells #[.int .i64 ut.kind, .string ut.name, .int .i64 ut.n, .slice ua ut.args.length uc] 28)) ((HV.out.first (k := k + 1) (by omega)).reads hw0) (by omega) (AA.out.reads h3.ar))
      have hE : putTs (ts.take (k + 1)) [] = putT ut (putTs (ts.take k) []) := by rw [putTs_take hkl, hu]
      have hln : (putTs (ts.take k) []).length + ut.parts ≤ 1200 := by
        have e1 := putTs_length (ts.take k) []
        have e2 := partsL_take ts hkl
        rw [← hu] at e2
        simp only [List.length_nil] at e1
        omega
      have hln2 : (putTs (ts.take (k + 1)) []).length ≤ 1200 := by
        have e1 := putTs_length (ts.take (k + 1)) []
        simp only [List.length_nil] at e1
        omega
      have HBX := Lib.hid hbx
      have HZX := Lib.hid hzx
      have HC3 := Lib.hid hc3
      have H3 := Lib.hid h3
      have HW0 := Lib.hid hw0
      have HUO := Lib.hid (show Tv.ok w0 ⟨ut, ua, uc⟩ from huo.reads hw0)
      have HWI := Lib.hid (show withinB ut 300 = true from by rw [hu]; exact HMEM.out _ (List.getElem_mem _))
      have HEE := Lib.hid hE
      have HLN := Lib.hid hln
      have HLN2 := Lib.hid hln2
      clear hu huo hat hr hrw hL hbx hzx h3 hc3 hpk hE hln hln2 h2 H2 hw0
      go_wp2_with fail
      refine PU.out.mono ?_; rintro e w5 ⟨vw, rfl, hlw, hb5⟩
      obtain ⟨wA, hwA⟩ : ∃ wA, wA = (wr.alloc (.cells #[.int .i64 ut.kind, .string ut.name, .int .i64 ut.n, .slice ua ut.args.length uc] 28)) := ⟨_, rfl⟩
      rw [← hwA] at hlw hb5 H3 HBX HZX
      have hra := AA.out.reads H3.out.ar
      have hr5 := hra.trans (reads_below hb5)
      have h5 := H3.out.sight AA.out hb5
      have hd : Below w5.heap.size w5 w5.drew := (Below.refl _ _).drew
      have h5d := h5.on AA.out hd
      have hx5 := HUO.out.reads (seen_up (w := wA) hr5)
      have HP := Lib.hid (AA.out.put ⟨ut, ua, uc⟩ h5d.ar hx5 HWI.out HLN.out)
      have HW1 := Lib.hid (HW0.out.trans (seen_up (w := wA) hr5))
      have hbx5 := (HBX.out.below hb5 (by rw [HZX.out]; omega)).below hd (by have := hb5.size; rw [HZX.out] at this; omega)
      have hlt5 : wr.heap.size < w5.drew.heap.size := by have := hb5.size; rw [HZX.out] at this; exact this
      have HTW := Lib.hid (hlw.sight hr5)
      have NM := Lib.hid (fun (V : World) (h : Reads (seen w0 wA w5) V) => rnum_any vw _ ⟨ut, ua, uc⟩ V (HTW.out.reads h) (hx5.reads h))
      have IS := Lib.hid (fun (C9 : Nat → Prop) (V : World) (h : AR C9 (seen w0 wA w5) V p (putTs (ts.take (k + 1)) [])) => is_any AA.out h HTW.out HLN2.out)
      have S5 := Lib.hid (And.intro hbx5.c0 (And.intro hbx5.c1 (And.intro hbx5.c2 hbx5.c3)))
      have HBX5 := Lib.hid hbx5
      have HLT5 := Lib.hid hlt5
      have H5D := Lib.hid h5d
      have hS5 := S5.out
      rw [← HEE.out] at HP
      obtain ⟨L2, hL2⟩ : ∃ L2, putTs (ts.take (k + 1)) [] = L2 := ⟨_, rfl⟩
      rw [hL2] at HP NM IS
      have HL2 := Lib.hid hL2
      obtain ⟨z, hz⟩ : ∃ z, numT L2 ut = z := ⟨_, rfl⟩
      have HZ := Lib.hid hz
      have hq : (z != z) = false := by simp
      simp only [Tv.val] at HP NM
      simp only [hz] at HP NM
      clear hwA hlw hb5 hra hr5 h5 hd h5d hx5 hbx5 hlt5 hL2 hz PU
      go_wp2_with fail
      go_region_held3 (fun W => W.cell? ⟨wr.heap.size, 0, none⟩ = some (.int .i64 ut.kind) ∧ W.cell? ⟨wr.heap.size, 1, none⟩ = some (.string ut.name) ∧ W.cell? ⟨wr.heap.size, 2, none⟩ = some (.int .i64 ut.n) ∧ W.cell? ⟨wr.heap.size, 3, none⟩ = some (.slice ua ut.args.length uc)) (first | exact S5.out | with_reducible assumption)
        ((first
          | (go_at_call 14; refine (IS.out C6 _ h7.ar).mono ?_; rintro e w8 hp8; obtain ⟨C8, rfl, h8, hs8, hn8⟩ := h7.more hp8; have hb8 := step_box hs8 hlt7 hn7 hb7; have s8 := And.intro hb8.c0 (And.intro hb8.c1 (And.intro hb8.c2 hb8.c3)); have H8 := Lib.hid h8; clear hp8 h8 hs8 hn8)
          | (go_at_call 13; refine (NM.out _ (AA.out.reads h6.ar)).mono ?_; rintro e w7 ⟨rfl, hbb7⟩; have h7 := h6.on AA.out hbb7; have hb7 := hb6.below hbb7 hlt6; have hlt7 := Nat.lt_of_lt_of_le hlt6 hbb7.size; have hn7 := hn6; have s7 := And.intro hb7.c0 (And.intro hb7.c1 (And.intro hb7.c2 hb7.c3)))
          | (go_at_call 12; refine HP.out.mono ?_; rintro e w6 hp6; obtain ⟨C6, rfl, h6, hs6, hn56⟩ := H5D.out.more hp6; have hb6 := step_box hs6 HLT5.out HC3.out HBX5.out; have hlt6 := Nat.lt_of_lt_of_le HLT5.out hs6.size; have hn6 := hn56 _ HLT5.out HC3.out; have s6 := And.intro hb6.c0 (And.intro hb6.c1 (And.intro hb6.c2 hb6.c3)))))
      go_wp2_with fail
      go_roundw
      case rel => exact ⟨k + 1, C8, by omega, by go_num, Lib.hid ⟨_, HW1.out, by rw [HL2.out]; exact H8.out⟩⟩
      case measure => simp [intOf]; omega
    · obtain rfl : k = ts.length := by omega
      have HE := Lib.hid h2.below
      clear h2 hw0
      go_wp2_with fail
      go_ret
      exact ⟨rfl, HE.out⟩
end Go.Proofs.YtccpfgpdcicjaaaDoor

namespace Go.Proofs.YtccpfgpdcicjaaaDoor
open Go.RowKit

set_option maxRecDepth 100000 in
set_option maxHeartbeats 2000000 in
theorem filled_any {AR : ARel} (A : ArenaI AR) (w0 W : World) (v : Value) (ts : List Tm) (hv : Tms w0 v ts) (hr : Reads w0 W) (hT0 : Pow w0) (hT : Pow W) (hp : partsL ts ≤ 1200) (hm : ∀ x ∈ ts, withinB x 300 = true) :
    Calls Tryd.prog 15 #[v] W fun e W' => ∃ p C, e = .returned p ∧ ArNew AR w0 W p (putTs ts []) C W' := by
  obtain ⟨av, cv, rfl, hl, hh⟩ := hv.open_
  have HR := Lib.hid hh
  have NW := Lib.hid (A.new w0 W hr hT0 hT)
  clear hT0 hT
  have AA := Lib.hid A
  have HM := Lib.hid hm
  have hpl := partsL_length ts
  obtain ⟨P, hP⟩ : ∃ P, P = putTs ts [] := ⟨_, rfl⟩
  have HP := Lib.hid hP
  rw [← hP]
  clear hh hv hr A hm hP
  go_enter Tryd.func15, Tryd.ntmps15
  go_wp2_with fail
  refine NW.out.mono ?_; rintro e w3 ⟨p, C, rfl, har, hc, hb3⟩
  have H3 := Lib.hid (show ArNew AR w0 W p (putTs (ts.take 0) []) C w3 from ⟨by rw [List.take_zero, putTs]; exact har, hc, hb3⟩)
  clear har hc hb3 NW
  go_wp2_with fail
  go_loopw [9] (fun i wr => ∃ (k : Nat) (C2 : Nat → Prop), k ≤ ts.length ∧ i = .int .i64 k ∧ Hid (ArNew AR w0 W p (putTs (ts.take k) []) C2 wr)) (fun i _ => ts.length - (intOf i).toNat)
  case atStart => exact ⟨0, C, Nat.zero_le _, rfl, H3⟩
  case round =>
    obtain ⟨k, C2, hk, rfl, H2⟩ := hrel
    by_cases hkl : k < ts.length
    · have hi : (k : Int) < (ts.length : Int) := by omega
      have hk0 : (0 : Int) ≤ (k : Int) := by omega
      obtain ⟨b, o, rfl, hlt, hr⟩ := HR.out.resolve_left (by intro h; rw [h] at hkl; simp at hkl)
      obtain ⟨u, hu, huo, hat⟩ := hr k hkl
      have hrw := AA.out.reads H2.out.ar
      obtain ⟨d0, d1, d2, d3⟩ : TvAt wr b (o + k * 4) u := ⟨hrw.cell _ _ hat.c0, hrw.cell _ _ hat.c1, hrw.cell _ _ hat.c2, hrw.cell _ _ hat.c3⟩
      obtain ⟨ut, ua, uc⟩ := u
      simp only at hu d0 d1 d2 d3
      have hL : Below wr.heap.size wr (wr.alloc (.cells #[.int .i64 ut.kind, .string ut.name, .int .i64 ut.n, .slice ua ut.args.length uc] 28)) := (Below.refl _ _).alloc (Nat.le_refl _) _
      have h3 := H2.out.on AA.out hL
      have hE : putTs (ts.take (k + 1)) [] = putT ut (putTs (ts.take k) []) := by rw [putTs_take hkl, hu]
      have hln : (putTs (ts.take k) []).length + ut.parts ≤ 1200 := by
        have e1 := putTs_length (ts.take k) []
        have e2 := partsL_take ts hkl
        have e3 := partsL_append (ts.take (k + 1)) (ts.drop (k + 1))
        rw [List.take_append_drop] at e3
        rw [← hu] at e2
        simp only [List.length_nil] at e1
        omega
      have PT := AA.out.put ⟨ut, ua, uc⟩ h3.ar huo (show withinB ut 300 = true from by rw [hu]; exact HM.out _ (List.getElem_mem _)) hln
      rw [show (⟨ut, ua, uc⟩ : Tv).t = ut from rfl, ← hE] at PT
      have HPT := Lib.hid PT
      have H3 := Lib.hid h3
      simp only [Tv.val] at HPT
      clear hu huo hat hr hrw hL h3 hE hln PT
      go_wp2_with fail
      refine HPT.out.mono ?_; rintro e w6 hp6
      obtain ⟨C6, rfl, h6, _, _⟩ := H3.out.more hp6
      have H6 := Lib.hid h6
      clear hp6 h6
      go_wp2_with fail
      go_roundw
      case rel => exact ⟨k + 1, C6, by omega, by go_num, H6⟩
      case measure => simp [intOf]; omega
    · obtain rfl : k = ts.length := by omega
      have HE := Lib.hid (show ArNew AR w0 W p P C2 wr from by have h := H2.out; rw [List.take_length, ← HP.out] at h; exact h)
      go_wp2_with fail
      go_ret
      exact ⟨p, C2, rfl, HE.out⟩
end Go.Proofs.YtccpfgpdcicjaaaDoor
