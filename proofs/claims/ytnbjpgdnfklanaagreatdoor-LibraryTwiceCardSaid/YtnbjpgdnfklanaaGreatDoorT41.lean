/-
  One function more, by package sign: Add.
  Functions as keys of a set: what such a key reads as, and which functions a set has.
  Sets of functions, by package sign: put, setOf, has; and the function that a term begins with: symbol.
  Functions that are few, with short names.
  What Join of package sign must answer, as a definition.
-/
import Derived.Test.YtnbjpgdnfklanaaGreatDoorT08
import Derived.Test.YtnbjpgdnfklanaaGreatDoorT40
import Derived.Test.YtnbjpgdnfklanaaGreatDoorT04
import Derived.Test.YtnbjpgdnfklanaaGreatDoorProg
import Derived.Maps.OwnSet
import Derived.Maps.Views
import Derived.Lib.Hide
import Derived.ProofKit
import Derived.DeepKeys4
import Derived.Test.YtnbjpgdnfklanaaGreatDoorT22
import Derived.Test.YtnbjpgdnfklanaaGreatDoorT01
import Derived.WalkKit
import Derived.WalkMore
import Derived.BigQuiet
namespace Go.Proofs.YtnbjpgdnfklanaaGreatDoor
open Go.RowKit
theorem fus_one (w : World) (f : Fn) (hf : FnOk f) : Fus (w.alloc (.cells #[.string f.1, .int .i64 f.2] 75)) (.slice (some ⟨w.heap.size, 0, none⟩) 1 1) [f] := by
  refine ⟨_, 1, rfl, by simp, .inr ⟨w.heap.size, 0, rfl, by simp, fun j x hj => ?_⟩⟩
  have h0 : j = 0 := by have hl := (List.getElem?_eq_some_iff.1 hj).1; simp at hl; omega
  subst h0
  obtain rfl : f = x := Option.some.inj hj
  exact ⟨hf, World.cell?_alloc_mark w #[.string f.1, .int .i64 f.2] 75 (0, 0) 0, World.cell?_alloc_mark w #[.string f.1, .int .i64 f.2] 75 (0, 0) 1⟩
theorem rowsF_two (w : World) (v : Value) (fs : List Fn) (f : Fn) (hv : Fus w v fs) (hf : FnOk f) :
    RowsF ((w.alloc (.cells #[.string f.1, .int .i64 f.2] 75)).alloc (.cells #[v, .slice (some ⟨w.heap.size, 0, none⟩) 1 1] 23)) (w.heap.size + 1) [(v, fs), (.slice (some ⟨w.heap.size, 0, none⟩) 1 1, [f])] := by
  have hb1 : Below w.heap.size w (w.alloc (.cells #[.string f.1, .int .i64 f.2] 75)) := (Below.refl _ _).alloc (Nat.le_refl _) _
  have hz : (w.alloc (.cells #[.string f.1, .int .i64 f.2] 75)).heap.size = w.heap.size + 1 := by simp
  have hb2 : Below (w.alloc (.cells #[.string f.1, .int .i64 f.2] 75)).heap.size (w.alloc (.cells #[.string f.1, .int .i64 f.2] 75)) ((w.alloc (.cells #[.string f.1, .int .i64 f.2] 75)).alloc (.cells #[v, .slice (some ⟨w.heap.size, 0, none⟩) 1 1] 23)) := (Below.refl _ _).alloc (Nat.le_refl _) _
  have hc := fun o => World.cell?_alloc_mark (w.alloc (.cells #[.string f.1, .int .i64 f.2] 75)) #[v, .slice (some ⟨w.heap.size, 0, none⟩) 1 1] 23 (0, 0) o
  rw [hz] at hc
  refine ⟨by simp, fun k hk => ?_⟩
  match k, hk with
  | 0, _ => exact ⟨hc 0, (hv.below hb1).below hb2⟩
  | 1, _ => exact ⟨hc 1, (fus_one w f hf).below hb2⟩
  | k + 2, h => exact absurd (show k + 2 < 2 from h) (by omega)
set_option maxRecDepth 100000 in
set_option maxHeartbeats 2000000 in
theorem padd_any (v : Value) (fs : List Fn) (f : Fn) (w : World) (hv : Fus w v fs) (hf : FnOk f) (hs : f.1.size ≤ 100000) (hl : fs.length ≤ 1000) :
    Calls Tryz.prog 58 #[v, fnVal f] w (AddPost fs f w) := by
  have AR := Lib.hid (fun (W : World) (h : Below w.heap.size w W) => pfind_fn v fs f.1 W (hv.below h))
  have WD := Lib.hid (fun (W : World) => word_any f.1 (by omega) W)
  have RW := Lib.hid (fun (W : World) (h : Below w.heap.size w W) => rowsF_two W v fs f (hv.below h) hf)
  obtain ⟨a, n, c, rfl⟩ : ∃ a n c, v = .slice a n c := by obtain ⟨a, c, h, _⟩ := hv; exact ⟨a, _, c, h⟩
  obtain rfl := hv.news.1
  have CC := Lib.hid (fun (W : World) (h : Below w.heap.size w W) => pconcat_fn [(.slice a fs.length c, fs), (.slice (some ⟨W.heap.size, 0, none⟩) 1 1, [f])] (W.heap.size + 1) 2 _ (RW.out W h) (by simp) (by simp) (by simp [flatF]; omega))
  clear hv
  obtain ⟨ys, yn⟩ := f
  have HP := Lib.hid (fun wr (h : Below (w.heap.size + 1) (w.alloc (.cells #[.string ys, .int .i64 yn] 75)) wr) => pair_after h)
  unfold fnVal
  simp only at AR WD CC
  have hw0 : Below w.heap.size w (w.alloc (.cells #[.string ys, .int .i64 yn] 75)) := (Below.refl _ _).alloc (Nat.le_refl _) _
  have HW0 := Lib.hid hw0
  clear hw0
  cases hwd : wordB ys with
  | false =>
    rw [hwd] at WD
    have HE := Lib.hid (addE_arg (fs := fs) (f := (ys, yn)) (by unfold argOk; show (wordB ys && _) = false; rw [hwd]; rfl))
    clear hwd
    go_enter Tryz.func58, Tryz.ntmps58
    go_wp2_with fail
    refine (WD.out _).mono ?_; rintro e w1 ⟨rfl, hb1⟩
    have HB1 := Lib.hid (HW0.out.trans (hb1.mono (by simp)))
    obtain ⟨q0, q1, _, _⟩ := HP.out w1 (hb1.mono (by simp))
    clear hb1
    go_wp2_with fail
    go_ret2
    exact add_bad HE.out (by decide) HB1.out
  | true =>
    rw [hwd] at WD
    rcases Int.lt_or_le yn 0 with h0 | h0
    · have hd0 : decide (yn < 0) = true := decide_eq_true h0
      have HE := Lib.hid (addE_arg (fs := fs) (f := (ys, yn)) (by unfold argOk; show (wordB ys && (decide (0 ≤ yn) && decide (yn ≤ 6))) = false; rw [decide_eq_false (by omega)]; simp))
      clear hwd
      go_enter Tryz.func58, Tryz.ntmps58
      go_wp2_with fail
      refine (WD.out _).mono ?_; rintro e w1 ⟨rfl, hb1⟩
      have HB1 := Lib.hid (HW0.out.trans (hb1.mono (by simp)))
      have HBP := Lib.hid (hb1.mono (show w.heap.size + 1 ≤ (w.alloc (.cells #[.string ys, .int .i64 yn] 75)).heap.size by simp))
      have hs1 : w.heap.size + 1 ≤ w1.heap.size := by have := hb1.size; simpa using this
      obtain ⟨q0, q1, _, _⟩ := HP.out w1 HBP.out
      clear hb1
      go_wp2_with fail
      go_ret2
      exact add_bad HE.out (by decide) HB1.out
    have hd0 : decide (yn < 0) = false := decide_eq_false (by omega)
    rcases Int.lt_or_le 6 yn with h6 | h6
    · have hd6 : decide (6 < yn) = true := decide_eq_true h6
      have HE := Lib.hid (addE_arg (fs := fs) (f := (ys, yn)) (by unfold argOk; show (wordB ys && (decide (0 ≤ yn) && decide (yn ≤ 6))) = false; rw [decide_eq_false (show ¬ yn ≤ 6 by omega)]; simp))
      clear hwd
      go_enter Tryz.func58, Tryz.ntmps58
      go_wp2_with fail
      refine (WD.out _).mono ?_; rintro e w1 ⟨rfl, hb1⟩
      have HB1 := Lib.hid (HW0.out.trans (hb1.mono (by simp)))
      have HBP := Lib.hid (hb1.mono (show w.heap.size + 1 ≤ (w.alloc (.cells #[.string ys, .int .i64 yn] 75)).heap.size by simp))
      have hs1 : w.heap.size + 1 ≤ w1.heap.size := by have := hb1.size; simpa using this
      obtain ⟨q0, q1, _, _⟩ := HP.out w1 HBP.out
      clear hb1
      go_wp2_with fail
      go_ret2
      exact add_bad HE.out (by decide) HB1.out
    have hd6 : decide (6 < yn) = false := decide_eq_false (by omega)
    have HA := Lib.hid (show argOk (ys, yn) = true by unfold argOk; show (wordB ys && (decide (0 ≤ yn) && decide (yn ≤ 6))) = true; rw [hwd, decide_eq_true h0, decide_eq_true h6]; rfl)
    clear hwd
    go_enter Tryz.func58, Tryz.ntmps58
    go_wp2_with fail
    refine (WD.out _).mono ?_; rintro e w1 ⟨rfl, hb1⟩
    have HB1 := Lib.hid (HW0.out.trans (hb1.mono (by simp)))
    have HBP := Lib.hid (hb1.mono (show w.heap.size + 1 ≤ (w.alloc (.cells #[.string ys, .int .i64 yn] 75)).heap.size by simp))
    have hs1 : w.heap.size + 1 ≤ w1.heap.size := by have := hb1.size; simpa using this
    obtain ⟨q0, q1, _, _⟩ := HP.out w1 HBP.out
    clear hb1
    go_wp2_with fail
    refine (AR.out _ HB1.out).mono ?_; rintro e w2 ⟨he, hb2⟩
    have HB2 := Lib.hid (below_next HB1.out hb2)
    have HBP2 := Lib.hid (HBP.out.trans (hb2.mono hs1))
    obtain ⟨q0, q1, _, _⟩ := HP.out w2 HBP2.out
    clear hb2
    rcases he with ⟨rfl, har⟩ | ⟨k, x, rfl, _, har⟩
    · have HAR := Lib.hid (show (arF fs ys).isSome = false by rw [har]; rfl)
      clear har
      by_cases h40 : 40 ≤ fs.length
      · have hd40 : decide (40 ≤ (fs.length : Int)) = true := decide_eq_true (by omega)
        have HE := Lib.hid (addE_long (fs := fs) (f := (ys, yn)) HA.out HAR.out h40)
        go_wp2_with fail
        go_ret2
        exact add_bad HE.out (by decide) HB2.out
      · have hd40 : decide (40 ≤ (fs.length : Int)) = false := decide_eq_false (by omega)
        have HE := Lib.hid (addE_ok (fs := fs) (f := (ys, yn)) HA.out HAR.out h40)
        have C2 := Lib.hid (CC.out w2 HB2.out)
        have HBB := Lib.hid (show Below w.heap.size w ((w2.alloc (.cells #[.string ys, .int .i64 yn] 75)).alloc (.cells #[.slice a fs.length c, .slice (some ⟨w2.heap.size, 0, none⟩) 1 1] 23)) from (HB2.out.alloc HB2.out.size _).alloc (by have := HB2.out.size; simp; omega) _)
        go_wp2_with fail
        refine C2.out.mono ?_; rintro e w3 ⟨u, rfl, hu, hb3⟩
        have HB3 := Lib.hid (below_next HBB.out hb3)
        have HU := Lib.hid (show Fus w3 u (fs ++ [(ys, yn)]) from by
          have e : flatF [(Value.slice a fs.length c, fs), (Value.slice (some ⟨w2.heap.size, 0, none⟩) 1 1, [(ys, yn)])] = fs ++ [(ys, yn)] := by simp [flatF]
          rw [e] at hu
          exact hu.fus (by rw [List.length_append, List.length_singleton]; omega))
        clear hu hb3
        go_wp2_with fail
        go_ret2
        exact ⟨u, by rw [HE.out]; rfl, by rw [addL_ok HE.out]; exact HU.out, HB3.out⟩
    · have hk0 : decide (0 ≤ (k : Int)) = true := decide_eq_true (by omega)
      have HE := Lib.hid (addE_twice (fs := fs) (f := (ys, yn)) HA.out (by show (arF fs ys).isSome = true; rw [har]; rfl))
      clear har
      go_wp2_with fail
      go_ret2
      exact add_bad HE.out (by decide) HB2.out
end Go.Proofs.YtnbjpgdnfklanaaGreatDoor

namespace Go.Proofs.YtnbjpgdnfklanaaGreatDoor
open Go.RowKit Go.Maps
theorem keyTypeFn : Tryz.prog.keyTypeAt 9 75 = true := by kernel_rfl
theorem keyTypeOfFn : Tryz.prog.keyType 75 = true := by kernel_rfl
theorem keyLaidFn : laidOutB Tryz.prog = true := by kernel_rfl
theorem keyRowFn : 75 < Tryz.prog.types.size := of_decide_eq_true (by kernel_rfl)
theorem keyed_fn : Keyed Tryz.prog 75 := Keyed.of_law (deep_law_laid keyLaidFn (m := 9) (by omega) keyRowFn keyTypeFn (by rw [Tryz.underlying75]))
theorem keyCellIF : Tryz.prog.cellsOf 3 = 1 := by kernel_rfl
theorem keyCellSF : Tryz.prog.cellsOf 9 = 1 := by kernel_rfl
theorem cellsKeyFn : Tryz.prog.cellsOf 75 = 2 := by kernel_rfl
def fnLit (f : Fn) : Lit := .string (keyBytes [.string f.1.data.toList, .int .i64 f.2])
structure FnKey (f : Fn) : Prop where
  ok : FnOk f
  len : f.1.size ≤ maxLen
theorem fnKey_of {f : Fn} (h : FnOk f) (hs : f.1.size ≤ 100000) : FnKey f := ⟨h, by unfold maxLen; omega⟩
theorem keyOf_fn {f : Fn} (h : FnKey f) : keyOf Tryz.prog 75 (fnVal f) = some (fnLit f) := by
  unfold keyOf
  rw [Tryz.underlying75]
  simp only [keyTypeOfFn, Bool.true_and]
  have hf : (fnVal f).formed Tryz.prog 75 = true := by
    unfold fnVal Value.formed
    simp only [Tryz.underlying75, cellsKeyFn]; rfl
  rw [if_pos hf]
  obtain ⟨d, hd⟩ : ∃ d, Tryz.prog.types.size = d + 1 := ⟨Tryz.prog.types.size - 1, by have := keyRowFn; omega⟩
  rw [hd]
  have e1 : Tryz.prog.keyLits (d + 1) 3 [.int .i64 f.2] = some [.int .i64 f.2] := by
    unfold Program.keyLits
    simp only [Tryz.underlying3]
    rw [if_pos ⟨trivial, WalkArith.wf_i64 ⟨h.ok.lo, h.ok.hi⟩⟩]
  have e2 : Tryz.prog.keyLits (d + 1) 9 [.string f.1] = some [.string f.1.data.toList] := by
    unfold Program.keyLits
    simp only [Tryz.underlying9]
    rw [if_pos h.len]
  unfold Program.keyLits
  simp only [Tryz.underlying75, fnVal, Value.cells]
  rw [if_pos ⟨by rw [cellsKeyFn]; rfl, by simp⟩]
  simp [e1, e2, keyCellIF, keyCellSF, fnLit]
theorem fnVal_inj {f g : Fn} (h : fnVal f = fnVal g) : f = g := by
  unfold fnVal at h
  simp only [Value.agg.injEq, Array.mk.injEq, List.cons.injEq, Value.int.injEq, true_and, Value.string.injEq, and_true] at h
  exact Prod.ext h.1 h.2
theorem fnLit_inj {f g : Fn} (hf : FnKey f) (hg : FnKey g) (h : fnLit f = fnLit g) : f = g := by
  have e1 := keyOf_fn hf
  have e2 := keyOf_fn hg
  rw [h] at e1
  exact fnVal_inj (keyed_fn.inj e1 e2)
def fnSet (fs : List Fn) : DataW Unit := Maps.setOf (.agg []) (fs.map fnLit)
theorem fnSet_has {fs : List Fn} {f : Fn} (hfs : ∀ x ∈ fs, FnKey x) (hf : FnKey f) : Maps.has (fnSet fs) (fnLit f) = hasFn fs f := by
  unfold fnSet
  rw [Maps.has_setOf _ _ _ (by
    intro x hx
    obtain ⟨z, _, rfl⟩ := List.mem_map.1 hx
    simp [WideAt.IsKeyLit, fnLit])]
  rw [Bool.eq_iff_iff, List.any_eq_true]
  have hh : hasFn fs f = true ↔ f ∈ fs := @decide_eq_true_iff _ (Classical.propDecidable _)
  rw [hh]
  constructor
  · rintro ⟨x, hx, he⟩
    obtain ⟨z, hz, rfl⟩ := List.mem_map.1 hx
    have e : fnLit z = fnLit f := by
      unfold fnLit at he ⊢
      simpa [Lit.sameKey] using he
    rw [← fnLit_inj (hfs z hz) hf e]; exact hz
  · intro h
    exact ⟨_, List.mem_map.2 ⟨f, h, rfl⟩, by simp [Lit.sameKey, fnLit]⟩
theorem fnSet_put (fs : List Fn) (f : Fn) : (fnSet fs).put (fnLit f) (.agg []) = fnSet (fs ++ [f]) := by
  unfold fnSet
  rw [List.map_append, ← Maps.setOf_snoc]; rfl
end Go.Proofs.YtnbjpgdnfklanaaGreatDoor

namespace Go.Proofs.YtnbjpgdnfklanaaGreatDoor
open Go.RowKit
theorem zero_unitF (w : World) : (zeroValue 137).run Tryz.prog w = .ok (.agg #[]) w := by kernel_rfl
set_option maxRecDepth 100000 in
set_option maxHeartbeats 1000000 in
theorem pput_fn (b n : Nat) (D : DataW Unit) (f : Fn) (w : World) (hm : w.ownsMap Tryz.prog 75 (unitElem (H := Unit)) b n D) (hf : FnKey f) (hn : n ≤ 1000000) :
    Calls Tryz.prog 80 #[.map (some b), fnVal f] w fun e w' => (∃ v, e = .returned v) ∧ w'.ownsMap Tryz.prog 75 (unitElem (H := Unit)) b (n + 1) (D.put (fnLit f) (.agg [])) ∧ w.grownBy w' (some b) := by
  have hkey := keyOf_fn hf
  obtain ⟨s, k⟩ := f
  obtain ⟨l, hll⟩ : ∃ l, fnLit (s, k) = l := ⟨_, rfl⟩
  rw [hll] at hkey ⊢
  unfold fnVal at hkey ⊢
  simp only at hkey ⊢
  have hb := hm.lt
  have hm1 := hm.kept (grown_of_below ((Below.refl w.heap.size w).alloc (Nat.le_refl _) (.cells #[.string s, .int .i64 k] 75))) (by simp)
  have HGA := Lib.hid (World.grownBy_alloc w (.cells #[.string s, .int .i64 k] 75) (some b))
  clear hm hll
  go_enter Tryz.func80, Tryz.ntmps80
  go_wp2_with (first
    | (at_mapUpdate; refine wpList_mapUpdate_own _ rfl _ _ _ 108 rfl 75 137 keyed_fn Tryz.underlying108 (unitElem (H := Unit)) b n _ rfl hm1 (by unfold maxLen; omega) _ _ _ rfl rfl hkey (.agg []) [] unitElem_mk ?_; intro w1 hown1 hgrow1)
    | go_in)
  go_end0
  exact ⟨⟨_, rfl⟩, hown1, HGA.out.trans hgrow1⟩
set_option maxRecDepth 100000 in
set_option maxHeartbeats 2000000 in
theorem psetOf_any (v : Value) (fs : List Fn) (w : World) (hv : Fus w v fs) (hk : ∀ f ∈ fs, FnKey f) (hl : fs.length ≤ 100000) :
    Calls Tryz.prog 56 #[v] w fun e w' => ∃ b, e = .returned (.map (some b)) ∧ w'.ownsMap Tryz.prog 75 (unitElem (H := Unit)) b fs.length (fnSet fs) ∧ Below w.heap.size w w' := by
  have hmm := @run_makeMap Tryz.prog
  obtain ⟨a, n, c, rfl⟩ : ∃ a n c, v = .slice a n c := by obtain ⟨a, c, h, _⟩ := hv; exact ⟨a, _, c, h⟩
  obtain rfl := hv.news.1
  obtain ⟨a', c', hv', _, hrow⟩ := hv
  cases hv'
  have HR := Lib.hid hrow
  have HK := Lib.hid hk
  clear hrow hk
  go_enter Tryz.func56, Tryz.ntmps56
  go_wp2
  go_loopw [9] (fun i wr => ∃ k : Nat, k ≤ fs.length ∧ i = .int .i64 k ∧ wr.ownsMap Tryz.prog 75 (unitElem (H := Unit)) w.heap.size k (fnSet (fs.take k)) ∧ Below w.heap.size w wr) (fun i _ => fs.length - (intOf i).toNat)
  case atStart => exact ⟨0, Nat.zero_le _, rfl, World.ownsMap_made _ _ _ _, (Below.refl _ _).alloc (Nat.le_refl _) _⟩
  case round =>
    obtain ⟨k, hk, rfl, hown, hb⟩ := hrel
    by_cases hkl : k < fs.length
    · obtain ⟨b, o, rfl, hlt, hat⟩ := HR.out.resolve_left (by intro h; rw [h] at hkl; simp at hkl)
      obtain ⟨x, hx⟩ : ∃ x, fs[k]? = some x := ⟨_, List.getElem?_eq_getElem hkl⟩
      have hA := hat k x hx
      have m0 := (hb.cell (p := ⟨b, o + k * 2, none⟩) hlt).trans hA.c0
      have m1 := (hb.cell (p := ⟨b, o + k * 2 + 1, none⟩) hlt).trans hA.c1
      have hxk := HK.out x (List.mem_of_getElem? hx)
      have HT := Lib.hid (show fnSet (fs.take (k + 1)) = (fnSet (fs.take k)).put (fnLit x) (.agg []) from by
        obtain ⟨hl, hx⟩ := List.getElem?_eq_some_iff.1 hx
        rw [fnSet_put, List.take_succ_eq_append_getElem hl, hx])
      have hk0 : (0 : Int) ≤ (k : Int) := by omega
      have hk1 : (k : Int) < (fs.length : Int) := by omega
      have hown1 := hown.kept (grown_of_below ((Below.refl wr.heap.size wr).alloc (Nat.le_refl _) (.cells #[.string x.1, .int .i64 x.2] 75))) (by simp)
      have HBA := Lib.hid (hb.alloc hb.size (.cells #[.string x.1, .int .i64 x.2] 75))
      have C := Lib.hid (pput_fn w.heap.size k _ x _ hown1 hxk (by omega))
      clear hat hx hA hxk hown hown1
      obtain ⟨xs, xn⟩ := x
      unfold fnVal at C
      simp only at m0 m1 C HBA
      go_wp2_with fail
      refine C.out.mono ?_; rintro e w1 ⟨⟨v1, rfl⟩, hown2, hg⟩
      have HO := Lib.hid hown2
      have HB1 := Lib.hid (HBA.out.grown hg (by have := HBA.out.size; exact this) (fun j hj => by cases hj; exact Nat.le_refl _))
      clear hown2 hg
      go_wp2_with fail
      go_roundw
      case rel => exact ⟨k + 1, by omega, by go_num, by rw [HT.out]; exact HO.out, HB1.out⟩
      case measure => simp [intOf]; omega
    · obtain rfl : k = fs.length := by omega
      rw [List.take_length] at hown
      go_wp2_with fail
      go_ret
      exact ⟨w.heap.size, rfl, hown, hb⟩
set_option maxRecDepth 100000 in
set_option maxHeartbeats 1000000 in
theorem phas_fn (b n : Nat) (fs : List Fn) (f : Fn) (w : World) (hm : w.ownsMap Tryz.prog 75 (unitElem (H := Unit)) b n (fnSet fs)) (hfs : ∀ x ∈ fs, FnKey x) (hf : FnKey f) :
    Calls Tryz.prog 57 #[.map (some b), fnVal f] w fun e w' => e = .returned (.bool (hasFn fs f)) ∧ Below w.heap.size w w' := by
  have hkey := keyOf_fn hf
  have hh := fnSet_has hfs hf
  obtain ⟨r, hr⟩ : ∃ r, hasFn fs f = r := ⟨_, rfl⟩
  rw [hr] at hh ⊢
  obtain ⟨s, k⟩ := f
  obtain ⟨l, hll⟩ : ∃ l, fnLit (s, k) = l := ⟨_, rfl⟩
  rw [hll] at hkey hh
  unfold fnVal at hkey ⊢
  simp only at hkey ⊢
  have hb := hm.lt
  have hm1 := hm.kept (grown_of_below ((Below.refl w.heap.size w).alloc (Nat.le_refl _) (.cells #[.string s, .int .i64 k] 75))) (by simp)
  have HB := Lib.hid ((Below.refl w.heap.size w).alloc (Nat.le_refl _) (.cells #[.string s, .int .i64 k] 75))
  clear hm hll hr
  go_enter Tryz.func57, Tryz.ntmps57
  go_wp2_with (first
    | (at_lookup; refine wpList_lookup_own_unit _ rfl _ _ 108 rfl 75 137 keyed_fn Tryz.underlying108 (zero_unitF _) b n _ rfl hm1 _ _ rfl hkey ?_)
    | go_in)
  go_ret
  exact ⟨rfl, HB.out.alloc (by simp) _⟩
end Go.Proofs.YtnbjpgdnfklanaaGreatDoor

namespace Go.Proofs.YtnbjpgdnfklanaaGreatDoor
open Go.RowKit
structure ModF (fs : List Fn) : Prop where
  len : fs.length ≤ 900
  size : ∀ f ∈ fs, f.1.size ≤ 1000
end Go.Proofs.YtnbjpgdnfklanaaGreatDoor

namespace Go.Proofs.YtnbjpgdnfklanaaGreatDoor
open Go.RowKit
def JoinI : Prop := ∀ (va vb : Value) (fs bs : List Fn) (W : World), Fus W va fs → Fus W vb bs → ModF fs → ModF bs →
    Calls Tryz.prog 30 #[va, vb] W (JoinPost fs bs W)
end Go.Proofs.YtnbjpgdnfklanaaGreatDoor
