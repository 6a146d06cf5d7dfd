/-
  Two rows of functions joined, by the reference of layer 10: Join.
  Whether functions are few, with short names, and whether two rows of functions are alike, by the reference of layer 10: Few, Same.
  Any two rows of functions joined, and joined again: what the law answers, from what the program's sign answers.
  Where the first function of a name stands, looked for by a method value; and its arity: package sign's find and Arity.
  Rows of functions put together: the library's Grow and Concat.
  What the byte functions of package chars answer: the class, or whether the byte may be part of a word, for every byte and in every world; nothing is changed.
-/
import Derived.Test.YtehpkhcjejlbpaaS03
import Derived.Test.YtehpkhcjejlbpaaS04
import Derived.Test.YtehpkhcjejlbpaaS01
import Derived.WalkKit
import Derived.BigQuiet
import Derived.Lib.Hide
import Derived.Lib.AppendZeros
import Derived.Laws.AppendOwnNone
import Derived.WalkSpells
import Derived.WalkLawsBesides
namespace Go.Proofs.Ytehpkhcjejlbpaa
open Go.RowKit

set_option maxRecDepth 100000 in
set_option maxHeartbeats 2000000 in
theorem rjoin_any (va vb : Value) (fs bs : List Fn) (w : World) (ha : Fus w va fs) (hb : Fus w vb bs) (hzb : ∀ f ∈ bs, f.1.size ≤ 100000) (hl : fs.length ≤ 900) :
    Calls Try.prog 16 #[va, vb] w (JoinPost fs bs w) := by
  have HH := Lib.hid (fun (f : Fn) (W : World) (h : Below w.heap.size w W) => rhas_any va fs f W (ha.below h))
  have RA := Lib.hid (fun (v : Value) (os : List Fn) (f : Fn) (W : World) (hv : Fus W v os) (hf : FnOk f) (hs : f.1.size ≤ 100000) (hl : os.length ≤ 1000) => radd_any v os f W hv hf hs hl)
  have HA := Lib.hid ha
  obtain ⟨ab, cb, rfl, hlb, hrb⟩ := hb
  have HB := Lib.hid hrb
  obtain ⟨aa, na, ca, rfl⟩ : ∃ a n c, va = .slice a n c := by obtain ⟨a, c, h, _⟩ := ha; exact ⟨a, _, c, h⟩
  clear hrb ha
  go_enter Try.func16, Try.ntmps16
  go_wp2_with fail
  go_loopw [6, 14] (fun t i wr => ∃ (k : Nat) (os : List Fn), k ≤ bs.length ∧ i = .int .i64 k ∧ Fus wr t os ∧ os.length ≤ 1000 ∧ Hid (joinR fs fs bs = joinR fs os (bs.drop k)) ∧ Below w.heap.size w wr) (fun _ i _ => bs.length - (intOf i).toNat)
  case atStart => exact ⟨0, fs, Nat.zero_le _, rfl, HA.out, by omega, Lib.hid rfl, Below.refl _ _⟩
  case round =>
    obtain ⟨k, os, hk, rfl, ho, hlo, HJ, hb⟩ := hrel
    by_cases hkl : k < bs.length
    · obtain ⟨b, o, rfl, hlt, hat⟩ := HB.out.resolve_left (by intro h; rw [h] at hkl; simp at hkl)
      obtain ⟨x, hx⟩ : ∃ x, bs[k]? = some x := ⟨_, List.getElem?_eq_getElem hkl⟩
      have hA := hat k x hx
      have m0 := (hb.cell (p := ⟨b, o + k * 2, none⟩) hlt).trans hA.c0
      have m1 := (hb.cell (p := ⟨b, o + k * 2 + 1, none⟩) hlt).trans hA.c1
      have hok := hA.ok
      have hsz := hzb x (List.mem_of_getElem? hx)
      have hk0 : (0 : Int) ≤ (k : Int) := by omega
      have hk1 : (k : Int) < (bs.length : Int) := by omega
      have HX := Lib.hid hx
      clear hat hx hA
      have HHX := Lib.hid (HH.out x)
      have HP := Lib.hid (fun w1 (h : Below (wr.heap.size + 1) (wr.alloc (.cells #[.string x.1, .int .i64 x.2] 24)) w1) => pair_after h)
      have HBA := Lib.hid (hb.alloc hb.size (.cells #[.string x.1, .int .i64 x.2] 24))
      have HO := Lib.hid (ho.below ((Below.refl wr.heap.size wr).alloc (Nat.le_refl _) (.cells #[.string x.1, .int .i64 x.2] 24)))
      have hzw : w.heap.size ≤ wr.heap.size := hb.size
      obtain ⟨ao, no, co, rfl⟩ : ∃ a n c, u6 = Value.slice a n c := by obtain ⟨a, c, h, _⟩ := ho; exact ⟨a, _, c, h⟩
      clear hb ho
      cases hh : hasFn fs x with
      | true =>
        rw [hh] at HHX
        have HJ2 := Lib.hid (HJ.out.trans (join_has HX.out hh))
        clear hh
        obtain ⟨xs, xn⟩ := x
        simp only at m0 m1 hsz
        unfold fnVal at HHX
        go_wp2_with fail
        refine (HHX.out _ HBA.out).mono ?_; rintro e w1 ⟨rfl, hb1⟩
        have HB1 := Lib.hid (HBA.out.trans (hb1.mono (by simp; omega)))
        have HO1 := HO.out.below hb1
        clear hb1
        go_wp2_with fail
        go_roundw
        case rel => exact ⟨k + 1, os, by omega, by go_num, HO1, hlo, HJ2, HB1.out⟩
        case measure => simp [intOf]; omega
      | false =>
        rw [hh] at HHX
        have HNO := Lib.hid hh
        clear hh
        have RX := Lib.hid (fun (W : World) (h : Fus W (.slice ao no co) os) => RA.out _ os x W h hok hsz hlo)
        obtain ⟨xs, xn⟩ := x
        simp only at m0 m1 hsz
        unfold fnVal at HHX RX
        go_wp2_with fail
        refine (HHX.out _ HBA.out).mono ?_; rintro e w1 ⟨rfl, hb1⟩
        have HB1 := Lib.hid (HBA.out.trans (hb1.mono (by simp; omega)))
        have HO1 := Lib.hid (HO.out.below hb1)
        obtain ⟨q0, q1, _, _⟩ := HP.out w1 (hb1.mono (by simp))
        clear hb1
        go_wp2_with fail
        refine (RX.out _ HO1.out).mono ?_; rintro e w2 ⟨v2, rfl, hv2, hb2⟩
        have HB2 := Lib.hid (below_next HB1.out hb2)
        have HV2 := Lib.hid hv2
        clear hb2 hv2
        by_cases h0 : addE os (xs, xn) = 0
        · have HJ2 := Lib.hid (HJ.out.trans (join_add HX.out HNO.out h0))
          have HV3 := Lib.hid (show Fus w2 v2 (os ++ [(xs, xn)]) by rw [← addL_ok h0]; exact HV2.out)
          have hlo2 : (os ++ [(xs, xn)]).length ≤ 1000 := by have := (addE_zero.1 h0).2.2; rw [List.length_append, List.length_singleton]; omega
          rw [h0]
          clear h0
          go_wp2_with fail
          go_roundw
          case rel => exact ⟨k + 1, _, by omega, by go_num, HV3.out, hlo2, HJ2, HB2.out⟩
          case measure => simp [intOf]; omega
        · have HJ2 := Lib.hid (HJ.out.trans (join_err HX.out HNO.out h0))
          obtain ⟨n, hn⟩ : ∃ n, addE os (xs, xn) = n := ⟨_, rfl⟩
          rw [hn] at h0 HJ2 ⊢
          have h0' : (n != 0) = true := by simpa using h0
          clear hn h0
          go_wp2_with fail
          go_ret2
          exact ⟨_, by unfold joinE; rw [HJ2.out]; rfl, by unfold joinL; rw [HJ2.out]; exact Fus.none_ _ _ _, HB2.out⟩
    · have hke : k = bs.length := by omega
      have HJ2 := Lib.hid (show joinR fs fs bs = (0, os) by have h := HJ.out; rw [hke, List.drop_length] at h; rw [h, joinR])
      have HO := Lib.hid ho
      have HBB := Lib.hid hb
      obtain ⟨ao, no, co, rfl⟩ : ∃ a n c, u6 = Value.slice a n c := by obtain ⟨a, c, h, _⟩ := ho; exact ⟨a, _, c, h⟩
      clear hke ho hb
      go_wp2_with fail
      go_ret2
      exact ⟨_, by unfold joinE; rw [HJ2.out]; rfl, by unfold joinL; rw [HJ2.out]; exact HO.out, HBB.out⟩
end Go.Proofs.Ytehpkhcjejlbpaa

namespace Go.Proofs.Ytehpkhcjejlbpaa
open Go.RowKit

def ShortFn (fs : List Fn) (k : Nat) : Prop := ∀ (j : Nat) x, j < k → fs[j]? = some x → shortFn x = true
theorem ShortFn.succ {fs : List Fn} {k : Nat} {x : Fn} (h : ShortFn fs k) (hk : fs[k]? = some x) (hx : shortFn x = true) : ShortFn fs (k + 1) := fun j y hj hy => by
  by_cases e : j = k
  · subst e; rw [hk] at hy; rw [← Option.some.inj hy]; exact hx
  · exact h j y (by omega) hy
theorem ShortFn.all {fs : List Fn} (h : ShortFn fs fs.length) : decide ((fs.length : Int) ≤ 60) = fewF fs := by
  unfold fewF
  have : fs.all shortFn = true := by
    rw [List.all_eq_true]
    intro x hx
    obtain ⟨j, hj, rfl⟩ := List.getElem_of_mem hx
    exact h j _ hj (List.getElem?_eq_getElem hj)
  rw [this, Bool.and_true]
  by_cases hl : fs.length ≤ 60
  · rw [decide_eq_true hl, decide_eq_true (by omega)]
  · rw [decide_eq_false hl, decide_eq_false (by omega)]
theorem shortFn_bad {fs : List Fn} {k : Nat} {x : Fn} (hk : fs[k]? = some x) (hb : shortFn x = false) : fewF fs = false := by
  unfold fewF
  have : fs.all shortFn = false := by
    rw [List.all_eq_false]
    exact ⟨x, List.mem_of_getElem? hk, by rw [hb]; simp⟩
  rw [this, Bool.and_false]

set_option maxRecDepth 100000 in
set_option maxHeartbeats 1000000 in
theorem rfewf_any (v : Value) (fs : List Fn) (w : World) (hv : Fus w v fs) :
    Calls Try.prog 7 #[v] w fun e w' => e = .returned (.bool (fewF fs)) ∧ Below w.heap.size w w' := by
  obtain ⟨a, c, rfl, hl, hrow⟩ := hv
  have HR := Lib.hid hrow
  clear hrow
  go_enter Try.func7, Try.ntmps7
  go_wp2_with fail
  go_loopw [7] (fun i wr => ∃ k : Nat, k ≤ fs.length ∧ i = .int .i64 k ∧ Hid (ShortFn fs k) ∧ Below w.heap.size w wr) (fun i _ => fs.length - (intOf i).toNat)
  case atStart => exact ⟨0, Nat.zero_le _, rfl, Lib.hid (fun j x hj => by omega), Below.refl _ _⟩
  case round =>
    obtain ⟨k, hk, rfl, HN, hb⟩ := hrel
    by_cases hkl : k < fs.length
    · obtain ⟨b, o, rfl, hlt, hat⟩ := HR.out.resolve_left (by intro h; rw [h] at hkl; simp at hkl)
      obtain ⟨x, hx⟩ : ∃ x, fs[k]? = some x := ⟨_, List.getElem?_eq_getElem hkl⟩
      have hA := hat k x hx
      have m0 := (hb.cell (p := ⟨b, o + k * 2, none⟩) hlt).trans hA.c0
      have m1 := (hb.cell (p := ⟨b, o + k * 2 + 1, none⟩) hlt).trans hA.c1
      have hsz := hA.ok.size
      have hk0 : (0 : Int) ≤ (k : Int) := by omega
      have hk1 : (k : Int) < (fs.length : Int) := by omega
      have HX := Lib.hid hx
      clear hat hx hA
      obtain ⟨xs, xn⟩ := x
      simp only at m0 m1 hsz
      rcases Int.lt_or_le 100 (xs.size : Int) with h1 | h1
      · have hd : decide ((100 : Int) < (xs.size : Int)) = true := decide_eq_true h1
        have HG := Lib.hid (shortFn_bad HX.out (by unfold shortFn; show decide (xs.size ≤ 100) = false; exact decide_eq_false (by omega)))
        go_wp2_with fail
        go_ret
        exact ⟨ret_bool HG.out.symm, hb.alloc hb.size _⟩
      · have hd : decide ((100 : Int) < (xs.size : Int)) = false := decide_eq_false (by omega)
        have HNN := Lib.hid (HN.out.succ HX.out (by unfold shortFn; show decide (xs.size ≤ 100) = true; exact decide_eq_true (by omega)))
        go_wp2_with fail
        go_roundw
        case rel => exact ⟨k + 1, by omega, by go_num, HNN, hb.alloc hb.size _⟩
        case measure => simp [intOf]; omega
    · have hke : k = fs.length := by omega
      have HG := Lib.hid (show decide ((fs.length : Int) ≤ 60) = fewF fs from (show ShortFn fs fs.length by have h := HN.out; rw [hke] at h; exact h).all)
      clear hke
      go_wp2_with fail
      go_ret
      exact ⟨ret_bool HG.out, hb⟩

/-- Whether two rows of functions are one. -/
noncomputable def eqF (cs bs : List Fn) : Bool := @decide (cs = bs) (Classical.propDecidable _)
theorem eqF_yes {cs bs : List Fn} (h : cs = bs) : eqF cs bs = true := @decide_eq_true _ (Classical.propDecidable _) h
theorem eqF_no {cs bs : List Fn} (h : cs ≠ bs) : eqF cs bs = false := @decide_eq_false _ (Classical.propDecidable _) h
theorem eqF_iff {cs bs : List Fn} : eqF cs bs = true ↔ cs = bs := @decide_eq_true_iff _ (Classical.propDecidable _)
theorem takeF_succ {cs bs : List Fn} {k : Nat} {x y : Fn} (h : cs.take k = bs.take k) (hx : cs[k]? = some x) (hy : bs[k]? = some y) (e : x = y) : cs.take (k + 1) = bs.take (k + 1) := by
  obtain ⟨h1, rfl⟩ := List.getElem?_eq_some_iff.1 hx
  obtain ⟨h2, rfl⟩ := List.getElem?_eq_some_iff.1 hy
  rw [List.take_succ_eq_append_getElem h1, List.take_succ_eq_append_getElem h2, h, e]
theorem neF_at {cs bs : List Fn} {k : Nat} {x y : Fn} (hx : cs[k]? = some x) (hy : bs[k]? = some y) (e : x ≠ y) : cs ≠ bs := fun h => by
  subst h; rw [hx] at hy; exact e (Option.some.inj hy)

set_option maxRecDepth 100000 in
set_option maxHeartbeats 1000000 in
theorem rsamef_any (va vb : Value) (cs bs : List Fn) (w : World) (ha : Fus w va cs) (hb : Fus w vb bs) :
    Calls Try.prog 12 #[va, vb] w fun e w' => e = .returned (.bool (eqF cs bs)) ∧ Below w.heap.size w w' := by
  obtain ⟨aa, ca, rfl, hla, hra⟩ := ha
  obtain ⟨ab, cb, rfl, hlb, hrb⟩ := hb
  have HA := Lib.hid hra
  have HB := Lib.hid hrb
  clear hra hrb
  by_cases hl : cs.length = bs.length
  · have hln : ((cs.length : Int) != (bs.length : Int)) = false := by rw [hl]; simp
    have HL := Lib.hid hl
    clear hl
    go_enter Try.func12, Try.ntmps12
    go_wp2_with fail
    go_loopw [13] (fun i wr => ∃ q : Nat, q ≤ cs.length ∧ i = .int .i64 q ∧ Hid (cs.take q = bs.take q) ∧ Below w.heap.size w wr) (fun i _ => cs.length - (intOf i).toNat)
    case atStart => exact ⟨0, Nat.zero_le _, rfl, Lib.hid rfl, Below.refl _ _⟩
    case round =>
      obtain ⟨q, hq, rfl, HT, hb⟩ := hrel
      have hbs := hb.size
      by_cases hql : q < cs.length
      · have hqb : q < bs.length := by have := HL.out; omega
        obtain ⟨b1, o1, rfl, hlt1, hat1⟩ := HA.out.resolve_left (by intro h; rw [h] at hql; simp at hql)
        obtain ⟨b2, o2, rfl, hlt2, hat2⟩ := HB.out.resolve_left (by intro h; rw [h] at hqb; simp at hqb)
        obtain ⟨x, hx⟩ : ∃ x, cs[q]? = some x := ⟨_, List.getElem?_eq_getElem hql⟩
        obtain ⟨y, hy⟩ : ∃ y, bs[q]? = some y := ⟨_, List.getElem?_eq_getElem hqb⟩
        have hA := hat1 q x hx
        have hB := hat2 q y hy
        have m0 := (hb.cell (p := ⟨b1, o1 + q * 2, none⟩) hlt1).trans hA.c0
        have m1 := (hb.cell (p := ⟨b1, o1 + q * 2 + 1, none⟩) hlt1).trans hA.c1
        have n0 := (hb.cell (p := ⟨b2, o2 + q * 2, none⟩) hlt2).trans hB.c0
        have n1 := (hb.cell (p := ⟨b2, o2 + q * 2 + 1, none⟩) hlt2).trans hB.c1
        have HNX := Lib.hid (fun (e : x = y) => takeF_succ HT.out hx hy e)
        have HNE := Lib.hid (fun (e : x ≠ y) => neF_at hx hy e)
        have hk0 : (0 : Int) ≤ (q : Int) := by omega
        have hk1 : (q : Int) < (cs.length : Int) := by omega
        have hk2 : (q : Int) < (bs.length : Int) := by omega
        obtain ⟨xs, xn⟩ := x
        obtain ⟨ys, yn⟩ := y
        simp only at m0 m1 n0 n1
        have HXY := Lib.hid (show (xs, xn) = (ys, yn) ↔ ((xs.toList == ys.toList) = true ∧ (xn == yn) = true) by rw [toList_iff, beq_iff_eq, Prod.mk.injEq])
        have HBW := Lib.hid hb
        clear hat1 hat2 hx hy hA hB hb
        cases he : (xs.toList == ys.toList) with
        | false =>
          have HG := Lib.hid (eqF_no (HNE.out (fun e => by have := HXY.out.1 e; rw [he] at this; cases this.1)))
          go_wp2_with fail
          go_region
          go_wp2_with fail
          go_ret
          exact ⟨ret_bool HG.out.symm, below_drewN HBW.out _⟩
        | true =>
          cases hn : (xn == yn) with
          | false =>
            have hnn : (xn != yn) = true := by rw [bne, hn]; rfl
            have HG := Lib.hid (eqF_no (HNE.out (fun e => by have := HXY.out.1 e; rw [hn] at this; cases this.2)))
            go_wp2_with fail
            go_region
            go_wp2_with fail
            go_ret
            exact ⟨ret_bool HG.out.symm, below_drewN HBW.out _⟩
          | true =>
            have hnn : (xn != yn) = false := by rw [bne, hn]; rfl
            have HG := Lib.hid (HNX.out (HXY.out.2 ⟨he, hn⟩))
            go_wp2_with fail
            go_region
            go_wp2_with fail
            go_roundw
            case rel => exact ⟨q + 1, by omega, by go_num, HG, below_drewN HBW.out _⟩
            case measure => simp [intOf]; omega
      · have hqe : q = cs.length := by omega
        have HG := Lib.hid (show eqF cs bs = true from eqF_yes (by have h := HT.out; rw [hqe, List.take_length, HL.out, List.take_length] at h; exact h))
        clear hqe
        go_wp2_with fail
        go_ret
        exact ⟨ret_bool HG.out.symm, hb⟩
  · have hln : ((cs.length : Int) != (bs.length : Int)) = true := by simp; omega
    have HG := Lib.hid (eqF_no (cs := cs) (bs := bs) (fun e => hl (by rw [e])))
    go_enter Try.func12, Try.ntmps12
    go_wp2_with fail
    go_ret
    exact ⟨ret_bool HG.out.symm, Below.refl _ _⟩
end Go.Proofs.Ytehpkhcjejlbpaa

namespace Go.Proofs.Ytehpkhcjejlbpaa
open Go.RowKit

theorem modF_join {fs bs : List Fn} (h : fewF fs = true) (k : fewF bs = true) : ModF (joinL fs bs) := ⟨by
    have := joinL_len fs fs bs
    have := (fewF_of h).1
    unfold joinL; omega, fun f hf => by
    rcases join_mem fs bs fs f hf with hf | hf
    · have := (fewF_of h).2 f hf; omega
    · have := (fewF_of k).2 f hf; omega⟩
set_option maxRecDepth 100000 in
set_option maxHeartbeats 4000000 in
theorem lawJoins10_of (IA : ArityI) (IF : Fits10) (IJ : JoinI) (IR : RightI) (va vb : Value) (fs bs : List Fn) (w : World) (ha : Fus w va fs) (hb : Fus w vb bs) :
    Calls Try.prog 4 #[va, vb] w fun e w' => e = .returned (.bool true) ∧ Below w.heap.size w w' := by
  have AW := Lib.hid (awake10_of IA IF w)
  have FA := Lib.hid (fun (W : World) (h : Below w.heap.size w W) => rfewf_any va fs W (ha.below h))
  have FB := Lib.hid (fun (W : World) (h : Below w.heap.size w W) => rfewf_any vb bs W (hb.below h))
  have IJO := Lib.hid IJ
  have IRI := Lib.hid IR
  have HA := Lib.hid ha
  have HB := Lib.hid hb
  obtain ⟨aa, na, ca, rfl⟩ : ∃ a n c, va = .slice a n c := by obtain ⟨a, c, h, _⟩ := ha; exact ⟨a, _, c, h⟩
  obtain ⟨ab, nb, cb, rfl⟩ : ∃ a n c, vb = .slice a n c := by obtain ⟨a, c, h, _⟩ := hb; exact ⟨a, _, c, h⟩
  clear IA IF IJ IR ha hb
  cases hfa : fewF fs with
  | false =>
    rw [hfa] at FA
    clear hfa
    go_enter Try.func4, Try.ntmps4
    go_wp2_with fail
    refine AW.out.mono ?_; rintro e w1 ⟨rfl, hb1⟩
    go_wp2_with fail
    refine (FA.out _ hb1).mono ?_; rintro e w2 ⟨rfl, hb2⟩
    have hb3 := below_next hb1 hb2
    go_wp2_with fail
    go_ret
    exact ⟨rfl, hb3⟩
  | true =>
    rw [hfa] at FA
    cases hfb : fewF bs with
    | false =>
      rw [hfb] at FB
      clear hfa hfb
      go_enter Try.func4, Try.ntmps4
      go_wp2_with fail
      refine AW.out.mono ?_; rintro e w1 ⟨rfl, hb1⟩
      go_wp2_with fail
      refine (FA.out _ hb1).mono ?_; rintro e w2 ⟨rfl, hb2⟩
      have hb3 := below_next hb1 hb2
      go_wp2_with fail
      refine (FB.out _ hb3).mono ?_; rintro e w3 ⟨rfl, hb4⟩
      have hb5 := below_next hb3 hb4
      go_wp2_with fail
      go_ret
      exact ⟨rfl, hb5⟩
    | true =>
      rw [hfb] at FB
      have HMA := Lib.hid (modF_few hfa)
      have HMB := Lib.hid (modF_few hfb)
      have HMJ := Lib.hid (modF_join hfa hfb)
      clear hfa hfb
      have J1 := Lib.hid (fun (W : World) (h : Below w.heap.size w W) => IJO.out _ _ fs bs W (HA.out.below h) (HB.out.below h) HMA.out HMB.out)
      have J2 := Lib.hid (fun (W : World) (h : Below w.heap.size w W) => rjoin_any _ _ fs bs W (HA.out.below h) (HB.out.below h) (fun f hf => by have := HMB.out.size f hf; omega) HMA.out.len)
      have J3 := Lib.hid (fun (v : Value) (W : World) (hv : Fus W v (joinL fs bs)) (h : Below w.heap.size w W) => IJO.out v _ (joinL fs bs) bs W hv (HB.out.below h) HMJ.out HMB.out)
      have SF := Lib.hid (fun (xa xb : Value) (W : World) (ha : Fus W xa (joinL fs bs)) (hb : Fus W xb (joinL fs bs)) => (rsamef_any xa xb _ _ W ha hb).mono fun e w' h => (show e = .returned (.bool true) ∧ Below W.heap.size W w' by rw [eqF_yes rfl] at h; exact h))
      have RA := Lib.hid (fun (W : World) (h : Below w.heap.size w W) => IRI.out _ fs W (HA.out.below h) HMA.out)
      have RB := Lib.hid (fun (W : World) (h : Below w.heap.size w W) => IRI.out _ bs W (HB.out.below h) HMB.out)
      have RJ := Lib.hid (fun (v : Value) (W : World) (hv : Fus W v (joinL fs bs)) => IRI.out v (joinL fs bs) W hv HMJ.out)
      unfold JoinPost at J1 J2 J3
      have HAG := Lib.hid (fun h : joinE fs bs = 0 => join_again h)
      have HRJ := Lib.hid (fun (h : joinE fs bs = 0) (hr : rightF fs = true) => show rightF (joinL fs bs) = true from right_join fs bs fs hr h)
      obtain ⟨je, hje⟩ : ∃ je, joinE fs bs = je := ⟨_, rfl⟩
      rw [hje] at J1 J2 HAG HRJ
      have hq : (je != je) = false := by simp
      by_cases h0 : je = 0
      · have h0t : (je == 0) = true := by simpa using h0
        have h0f : (je != 0) = false := by simpa using h0
        have J4 := Lib.hid (fun (v : Value) (W : World) (hv : Fus W v (joinL fs bs)) (h : Below w.heap.size w W) => (J3.out v W hv h).mono fun e w' hh => (show ∃ v, e = .returned (.tuple #[v, .int .i64 0]) ∧ Fus w' v (joinL fs bs) ∧ Below W.heap.size W w' by
          obtain ⟨u, h1, h2, h3⟩ := hh
          rw [(HAG.out h0).1] at h1
          rw [(HAG.out h0).2] at h2
          exact ⟨u, h1, h2, h3⟩))
        have HR2 := Lib.hid (HRJ.out h0)
        clear J3 HAG HRJ
        have pre : True := trivial
        obtain ⟨ra, hra⟩ : ∃ ra, rightF fs = ra := ⟨_, rfl⟩
        obtain ⟨rb, hrb⟩ : ∃ rb, rightF bs = rb := ⟨_, rfl⟩
        obtain ⟨rj, hrj⟩ : ∃ rj, rightF (joinL fs bs) = rj := ⟨_, rfl⟩
        rw [hra] at RA HR2
        rw [hrb] at RB
        rw [hrj] at RJ HR2
        clear hra hrb hrj pre hje h0
        go_enter Try.func4, Try.ntmps4
        go_wp2_with fail
        refine AW.out.mono ?_; rintro e w1 ⟨rfl, hb1⟩
        go_wp2_with fail
        refine (FA.out _ hb1).mono ?_; rintro e w2 ⟨rfl, hb2⟩
        have HB2 := Lib.hid (below_next hb1 hb2)
        clear hb1 hb2
        go_wp2_with fail
        refine (FB.out _ HB2.out).mono ?_; rintro e w3 ⟨rfl, hb3⟩
        have HB3 := Lib.hid (below_next HB2.out hb3)
        clear hb3
        go_wp2_with fail
        refine (J1.out _ HB3.out).mono ?_; rintro e w4 ⟨v4, rfl, hv4, hb4⟩
        have HB4 := Lib.hid (below_next HB3.out hb4)
        have HV4 := Lib.hid hv4
        obtain ⟨a4, n4, c4, rfl⟩ : ∃ a n c, v4 = .slice a n c := by obtain ⟨a, c, h, _⟩ := hv4; exact ⟨a, _, c, h⟩
        clear hb4 hv4
        go_wp2_with fail
        refine (J2.out _ HB4.out).mono ?_; rintro e w5 ⟨v5, rfl, hv5, hb5⟩
        have HB5 := Lib.hid (below_next HB4.out hb5)
        have HV45 := Lib.hid (HV4.out.below hb5)
        have HV5 := Lib.hid hv5
        obtain ⟨a5, n5, c5, rfl⟩ : ∃ a n c, v5 = .slice a n c := by obtain ⟨a, c, h, _⟩ := hv5; exact ⟨a, _, c, h⟩
        clear hb5 hv5
        go_wp2_with fail
        refine (SF.out _ _ _ HV45.out HV5.out).mono ?_; rintro e w6 ⟨rfl, hb6⟩
        have HB6 := Lib.hid (below_next HB5.out hb6)
        have HV46 := Lib.hid (HV45.out.below hb6)
        clear hb6
        go_wp2_with fail
        refine (J4.out _ _ HV46.out HB6.out).mono ?_; rintro e w7 ⟨v7, rfl, hv7, hb7⟩
        have HB7 := Lib.hid (below_next HB6.out hb7)
        have HV47 := Lib.hid (HV46.out.below hb7)
        have HV7 := Lib.hid hv7
        obtain ⟨a7, n7, c7, rfl⟩ : ∃ a n c, v7 = .slice a n c := by obtain ⟨a, c, h, _⟩ := hv7; exact ⟨a, _, c, h⟩
        clear hb7 hv7
        go_wp2_with fail
        refine (SF.out _ _ _ HV7.out HV47.out).mono ?_; rintro e w8 ⟨rfl, hb8⟩
        have HB8 := Lib.hid (below_next HB7.out hb8)
        have HV48 := Lib.hid (HV47.out.below hb8)
        clear hb8
        go_wp2_with fail
        refine (RA.out _ HB8.out).mono ?_; rintro e w9 ⟨rfl, hb9⟩
        have HB9 := Lib.hid (below_next HB8.out hb9)
        have HV49 := Lib.hid (HV48.out.below hb9)
        clear hb9
        cases ra with
        | false =>
          go_wp2_with fail
          go_ret
          exact ⟨rfl, HB9.out⟩
        | true =>
          obtain rfl := HR2.out rfl
          go_wp2_with fail
          refine (RB.out _ HB9.out).mono ?_; rintro e w10 ⟨rfl, hb10⟩
          have HB10 := Lib.hid (below_next HB9.out hb10)
          have HV410 := Lib.hid (HV49.out.below hb10)
          clear hb10
          cases rb with
          | false =>
            go_wp2_with fail
            go_ret
            exact ⟨rfl, HB10.out⟩
          | true =>
            go_wp2_with fail
            refine (RJ.out _ _ HV410.out).mono ?_; rintro e w11 ⟨rfl, hb11⟩
            have HB11 := Lib.hid (below_next HB10.out hb11)
            clear hb11
            go_wp2_with fail
            go_ret
            exact ⟨rfl, HB11.out⟩
      · have h0f : (je != 0) = true := by simpa using h0
        clear J3 HAG HRJ RA RB RJ hje h0
        go_enter Try.func4, Try.ntmps4
        go_wp2_with fail
        refine AW.out.mono ?_; rintro e w1 ⟨rfl, hb1⟩
        go_wp2_with fail
        refine (FA.out _ hb1).mono ?_; rintro e w2 ⟨rfl, hb2⟩
        have HB2 := Lib.hid (below_next hb1 hb2)
        clear hb1 hb2
        go_wp2_with fail
        refine (FB.out _ HB2.out).mono ?_; rintro e w3 ⟨rfl, hb3⟩
        have HB3 := Lib.hid (below_next HB2.out hb3)
        clear hb3
        go_wp2_with fail
        refine (J1.out _ HB3.out).mono ?_; rintro e w4 ⟨v4, rfl, hv4, hb4⟩
        have HB4 := Lib.hid (below_next HB3.out hb4)
        have HV4 := Lib.hid hv4
        obtain ⟨a4, n4, c4, rfl⟩ : ∃ a n c, v4 = .slice a n c := by obtain ⟨a, c, h, _⟩ := hv4; exact ⟨a, _, c, h⟩
        clear hb4 hv4
        go_wp2_with fail
        refine (J2.out _ HB4.out).mono ?_; rintro e w5 ⟨v5, rfl, hv5, hb5⟩
        have HB5 := Lib.hid (below_next HB4.out hb5)
        have HV45 := Lib.hid (HV4.out.below hb5)
        have HV5 := Lib.hid hv5
        obtain ⟨a5, n5, c5, rfl⟩ : ∃ a n c, v5 = .slice a n c := by obtain ⟨a, c, h, _⟩ := hv5; exact ⟨a, _, c, h⟩
        clear hb5 hv5
        go_wp2_with fail
        refine (SF.out _ _ _ HV45.out HV5.out).mono ?_; rintro e w6 ⟨rfl, hb6⟩
        have HB6 := Lib.hid (below_next HB5.out hb6)
        clear hb6
        go_wp2_with fail
        go_ret
        exact ⟨rfl, HB6.out⟩
end Go.Proofs.Ytehpkhcjejlbpaa

namespace Go.Proofs.Ytehpkhcjejlbpaa
open Go.RowKit

set_option maxHeartbeats 400000 in
theorem pnames_any (s xs : ByteArray) (xn : Int) (w : World) :
    Calls Try.prog 36 #[.string s, .agg #[.string xs, .int .i64 xn]] w fun e w' => e = .returned (.bool (xs.toList == s.toList)) ∧ Below w.heap.size w w' := by
  go_enter Try.func36, Try.ntmps36
  go_wp2_with fail
  go_ret
  exact ⟨rfl, (Below.refl _ _).alloc (Nat.le_refl _) _⟩
/-- What find answers: where the first function of a name stands. -/
def FindEnd (fs : List Fn) (s : ByteArray) (e : Ending) : Prop := (e = .returned (.int .i64 (-1)) ∧ arF fs s = none) ∨ ∃ (k : Nat) (x : Fn), e = .returned (.int .i64 k) ∧ fs[k]? = some x ∧ arF fs s = some x.2
set_option maxRecDepth 100000 in
set_option maxHeartbeats 1000000 in
theorem pindex_any (v : Value) (fs : List Fn) (s : ByteArray) (w : World) (hv : Fus w v fs) :
    Calls Try.prog 35 #[v, .func (Fn.func 36) #[.string s] #[]] w fun e w' => FindEnd fs s e ∧ Below w.heap.size w w' := by
  obtain ⟨a, c, rfl, hl, hrow⟩ := hv
  have HR := Lib.hid hrow
  clear hrow
  go_enter Try.func35, Try.ntmps35
  go_wp2_with fail
  go_loopw [8] (fun i wr => ∃ k : Nat, k ≤ fs.length ∧ i = .int .i64 k ∧ Hid (arF (fs.take k) s = none) ∧ Below w.heap.size w wr) (fun i _ => fs.length - (intOf i).toNat)
  case atStart => exact ⟨0, Nat.zero_le _, rfl, Lib.hid (by rw [List.take_zero]; rfl), Below.refl _ _⟩
  case round =>
    obtain ⟨k, hk, rfl, HN, hb⟩ := hrel
    by_cases hkl : k < fs.length
    · obtain ⟨b, o, rfl, hlt, hat⟩ := HR.out.resolve_left (by intro h; rw [h] at hkl; simp at hkl)
      obtain ⟨x, hx⟩ : ∃ x, fs[k]? = some x := ⟨_, List.getElem?_eq_getElem hkl⟩
      have hA := hat k x hx
      have m0 := (hb.cell (p := ⟨b, o + k * 2, none⟩) hlt).trans hA.c0
      have m1 := (hb.cell (p := ⟨b, o + k * 2 + 1, none⟩) hlt).trans hA.c1
      have hstep := Lib.hid (arF_take HN.out hx)
      have hk0 : (0 : Int) ≤ (k : Int) := by omega
      have hk1 : (k : Int) < (fs.length : Int) := by omega
      have HX := Lib.hid hx
      clear hat hx hA
      obtain ⟨xs, xn⟩ := x
      simp only at m0 m1
      have NM := Lib.hid (fun W => pnames_any s xs xn W)
      cases he : (xs.toList == s.toList) with
      | true =>
        rw [he] at NM
        have HG := Lib.hid (show arF fs s = some xn from arF_some (hstep.out.trans (if_pos he)))
        clear he
        go_wp2_with (go_at_call 36; refine (NM.out _).mono ?_; rintro e w1 ⟨rfl, hb1⟩)
        go_ret
        exact ⟨.inr ⟨k, (xs, xn), rfl, HX.out, HG.out⟩, below_next hb hb1⟩
      | false =>
        rw [he] at NM
        have HNN := Lib.hid (show arF (fs.take (k + 1)) s = none by rw [hstep.out, if_neg (by rw [he]; simp)])
        clear he
        go_wp2_with (go_at_call 36; refine (NM.out _).mono ?_; rintro e w1 ⟨rfl, hb1⟩)
        go_roundw
        case rel => exact ⟨k + 1, by omega, by go_num, HNN, below_next hb hb1⟩
        case measure => simp [intOf]; omega
    · have hke : k = fs.length := by omega
      have HG := Lib.hid (show arF fs s = none by have h := HN.out; rw [hke, List.take_length] at h; exact h)
      clear hke
      go_wp2_with fail
      go_ret
      exact ⟨.inl ⟨rfl, HG.out⟩, hb⟩
set_option maxHeartbeats 1000000 in
theorem pfind_fn (v : Value) (fs : List Fn) (s : ByteArray) (w : World) (hv : Fus w v fs) :
    Calls Try.prog 21 #[v, .string s] w fun e w' => FindEnd fs s e ∧ Below w.heap.size w w' := by
  have IX := Lib.hid (pindex_any v fs s w hv)
  obtain ⟨a, n, c, rfl⟩ : ∃ a n c, v = .slice a n c := by obtain ⟨a, c, h, _⟩ := hv; exact ⟨a, _, c, h⟩
  clear hv
  go_enter Try.func21, Try.ntmps21
  go_wp2_with fail
  refine IX.out.mono ?_; rintro e w1 ⟨he, hb⟩
  rcases he with ⟨rfl, h⟩ | ⟨k, x, rfl, h⟩
  · have H := Lib.hid h
    clear h
    go_wp2_with fail
    go_ret
    exact ⟨.inl ⟨rfl, H.out⟩, hb⟩
  · have H := Lib.hid h
    clear h
    go_wp2_with fail
    go_ret
    exact ⟨.inr ⟨k, x, rfl, H.out⟩, hb⟩
set_option maxRecDepth 100000 in
set_option maxHeartbeats 1000000 in
theorem parity_any (v : Value) (fs : List Fn) (s : ByteArray) (w : World) (hv : Fus w v fs) :
    Calls Try.prog 8 #[v, .string s] w fun e w' => e = arEnd (arF fs s) ∧ Below w.heap.size w w' := by
  have FD := Lib.hid (pfind_fn v fs s w hv)
  obtain ⟨a, c, rfl, hl, hrow⟩ := hv
  have HR := Lib.hid hrow
  clear hrow
  go_enter Try.func8, Try.ntmps8
  go_wp2_with fail
  refine FD.out.mono ?_; rintro e w1 ⟨he, hb⟩
  rcases he with ⟨rfl, h⟩ | ⟨k, x, rfl, hx, h⟩
  · have H := Lib.hid h
    clear h
    go_wp2_with fail
    go_ret2
    exact ⟨by rw [H.out]; rfl, hb⟩
  · have hkl := (List.getElem?_eq_some_iff.1 hx).1
    obtain ⟨b, o, rfl, hlt, hat⟩ := HR.out.resolve_left (by intro h; rw [h] at hkl; simp at hkl)
    have hA := hat k x hx
    have m0 := (hb.cell (p := ⟨b, o + k * 2, none⟩) hlt).trans hA.c0
    have m1 := (hb.cell (p := ⟨b, o + k * 2 + 1, none⟩) hlt).trans hA.c1
    have hk0 : decide ((k : Int) < 0) = false := decide_eq_false (by omega)
    have hk1 : (k : Int) < (fs.length : Int) := by omega
    have hk2 : (0 : Int) ≤ (k : Int) := by omega
    have H := Lib.hid h
    clear h hat hx hA
    go_wp2_with fail
    go_ret2
    exact ⟨by rw [H.out]; rfl, hb⟩
end Go.Proofs.Ytehpkhcjejlbpaa

namespace Go.Proofs.Ytehpkhcjejlbpaa
open Go.RowKit

set_option maxRecDepth 100000 in
set_option maxHeartbeats 1000000 in
theorem pgrow_fn (n : Nat) (w : World) (hn : n ≤ 1000001) :
    Calls Try.prog 39 #[.slice none 0 0, .int .i64 n] w fun e w' => ∃ v, e = .returned v ∧ w'.ownsRow w.heap.size 24 2 v 0 [] ∧ Below w.heap.size w w' := by
  by_cases h0 : 0 < n
  · obtain ⟨i1, hi1, hiz1, his1, hib1⟩ := info_parts funInfo
    have hrun := fun ty => Lib.run_append_nil_zeros (P := Try.prog) w 22 3 ty 24 i1 (.agg #[.string ⟨#[]⟩, .int .i64 0]) .i64 .i64 Try.underlying22 Try.underlying3 hi1 hiz1 n h0 (by rw [his1]; omega) (by omega) (by rw [hib1]; omega)
    have hcg := grownCap_ge w n 0 24
    have hcm : grownCap w n 0 24 ≤ maxLen := grownCap_le_maxLen w n 0 24 (by unfold maxLen; omega)
    obtain ⟨cap, hcap⟩ : ∃ cap, grownCap w n 0 24 = cap := ⟨_, rfl⟩
    rw [hcap] at hcg hcm
    simp only [hcap] at hrun
    have hd1 : decide ((n : Int) < 0) = false := decide_eq_false (by omega)
    have hd2 : decide (0 < (n : Int)) = true := decide_eq_true (by omega)
    have hsz : (Builtin.zeroCells (Value.agg #[.string ⟨#[]⟩, .int .i64 0]).cells n ++ Builtin.zeroCells (Value.agg #[.string ⟨#[]⟩, .int .i64 0]).cells (cap - n)).size = cap * 2 := by
      rw [Array.size_append, size_zeroCells, size_zeroCells]; simp [Value.cells]; omega
    have hB : Below w.heap.size w (w.drew.alloc (.cells (Builtin.zeroCells (Value.agg #[.string ⟨#[]⟩, .int .i64 0]).cells n ++ Builtin.zeroCells (Value.agg #[.string ⟨#[]⟩, .int .i64 0]).cells (cap - n)) 24)) := ((Below.refl _ _).drew).alloc (Nat.le_refl _) _
    have hh : (w.drew.alloc (.cells (Builtin.zeroCells (Value.agg #[.string ⟨#[]⟩, .int .i64 0]).cells n ++ Builtin.zeroCells (Value.agg #[.string ⟨#[]⟩, .int .i64 0]).cells (cap - n)) 24)).heap[w.heap.size]? = some (.cells (Builtin.zeroCells (Value.agg #[.string ⟨#[]⟩, .int .i64 0]).cells n ++ Builtin.zeroCells (Value.agg #[.string ⟨#[]⟩, .int .i64 0]).cells (cap - n)) 24 (0, 0)) := heap_alloc_new w.drew _
    obtain ⟨w2, hw2⟩ : ∃ w2, (w.drew.alloc (.cells (Builtin.zeroCells (Value.agg #[.string ⟨#[]⟩, .int .i64 0]).cells n ++ Builtin.zeroCells (Value.agg #[.string ⟨#[]⟩, .int .i64 0]).cells (cap - n)) 24)) = w2 := ⟨_, rfl⟩
    obtain ⟨cur, hcur⟩ : ∃ cur, Builtin.zeroCells (Value.agg #[.string ⟨#[]⟩, .int .i64 0]).cells n ++ Builtin.zeroCells (Value.agg #[.string ⟨#[]⟩, .int .i64 0]).cells (cap - n) = cur := ⟨_, rfl⟩
    simp only [hcur] at hw2 hsz hh hB hrun
    simp only [hw2] at hh hB hrun
    have HH := Lib.hid hh
    have HB := Lib.hid hB
    have HR := Lib.hid hrun
    have HS := Lib.hid hsz
    have hc0 : (0 : Int) ≤ (cap : Int) := by omega
    clear hh hB hrun hw2 hcur hcap hsz
    go_enter Try.func39, Try.ntmps39
    go_wp2_with (at_builtin; refine Lib.wpList_append_run _ rfl _ _ _ _ rfl _ _ rfl rfl _ _ (HR.out _) ?_)
    go_ret
    exact ⟨.slice (some ⟨w.heap.size, 0, none⟩) 0 cap, rfl, ⟨rfl, .inr ⟨w.heap.size, cap, cur, rfl, Nat.le_refl _, HH.out, Nat.zero_le _, hcm, by rw [HS.out], by simp⟩⟩, HB.out⟩
  · obtain rfl : n = 0 := by omega
    go_enter Try.func39, Try.ntmps39
    go_wp2_with fail
    go_ret
    exact ⟨_, rfl, World.ownsRow_nil _ _ _ _, Below.refl _ _⟩

/-- All functions of rows, one behind the other. -/
def flatF (vs : List (Value × List Fn)) : List Fn := vs.flatMap Prod.snd
theorem flatF_take {vs : List (Value × List Fn)} {k : Nat} (h : k < vs.length) : flatF (vs.take (k + 1)) = flatF (vs.take k) ++ vs[k].2 := by
  unfold flatF
  rw [List.take_succ_eq_append_getElem h, List.flatMap_append]; simp
theorem flatF_le (vs : List (Value × List Fn)) (k : Nat) : (flatF (vs.take k)).length ≤ (flatF vs).length := by
  have e : flatF vs = flatF (vs.take k) ++ flatF (vs.drop k) := by
    unfold flatF; rw [← List.flatMap_append, List.take_append_drop]
  rw [e, List.length_append]; omega
/-- Rows of functions in a row. -/
def RowsF (w : World) (g : Nat) (vs : List (Value × List Fn)) : Prop := g < w.heap.size ∧ ∀ (k : Nat) (h : k < vs.length), w.cell? ⟨g, k, none⟩ = some vs[k].1 ∧ Fus w vs[k].1 vs[k].2
theorem RowsF.below {w w' : World} {g : Nat} {vs : List (Value × List Fn)} (h : RowsF w g vs) (hb : Below w.heap.size w w') : RowsF w' g vs :=
  ⟨Nat.lt_of_lt_of_le h.1 hb.size, fun k hk => ⟨(hb.cell (p := ⟨g, k, none⟩) h.1).trans (h.2 k hk).1, (h.2 k hk).2.below hb⟩⟩

set_option maxRecDepth 100000 in
set_option maxHeartbeats 4000000 in
theorem pconcat_fn (vs : List (Value × List Fn)) (g c : Nat) (w : World) (hv : RowsF w g vs) (hm : vs.length ≤ 1000) (hmc : vs.length ≤ c) (hl : (flatF vs).length ≤ 1000000) :
    Calls Try.prog 23 #[.slice (some ⟨g, 0, none⟩) vs.length c] w fun e w' => ∃ u, e = .returned u ∧ OwnFn w' w.heap.size u (flatF vs) ∧ Below w.heap.size w w' := by
  obtain ⟨i0, hi, hz0, hz1, hz2⟩ := info_parts funInfo
  have HV := Lib.hid hv
  have G := Lib.hid (fun (n : Nat) (hn : n ≤ 1000001) => pgrow_fn n w hn)
  have HLE := Lib.hid (flatF_le vs)
  obtain ⟨m, hmm⟩ : ∃ m, vs.length = m := ⟨_, rfl⟩
  have HM := Lib.hid hmm
  rw [hmm] at hm hmc ⊢
  have hm1 : (m : Int) ≤ 1000 := by omega
  clear hv hmm
  go_enter Try.func23, Try.ntmps23
  go_wp2_with fail
  go_loopw [3, 11] (fun sz i wr => ∃ k : Nat, k ≤ m ∧ i = .int .i64 k ∧ sz = .int .i64 (flatF (vs.take k)).length ∧ Hid (w = wr)) (fun _ i _ => m - (intOf i).toNat)
  case atStart => exact ⟨0, Nat.zero_le _, rfl, by simp [flatF], Lib.hid (by trivial)⟩
  case round =>
    obtain ⟨k, hk, rfl, rfl, HW⟩ := hrel
    obtain rfl := HW.out
    by_cases hkl : k < m
    · have hkv : k < vs.length := by rw [HM.out]; exact hkl
      obtain ⟨hc, hf⟩ := HV.out.2 k hkv
      have HFT := Lib.hid (flatF_take hkv)
      have hle := HLE.out (k + 1)
      rw [HFT.out, List.length_append] at hle
      obtain ⟨x, hx⟩ : ∃ x, vs[k] = x := ⟨_, rfl⟩
      rw [hx] at hc hf hle HFT
      obtain ⟨xv, xs⟩ := x
      simp only at hc hf hle HFT
      obtain ⟨a, n, c1, rfl⟩ : ∃ a n c, xv = .slice a n c := by obtain ⟨a, c, h, _⟩ := hf; exact ⟨a, _, c, h⟩
      obtain rfl := hf.news.1
      obtain ⟨s0, hs0⟩ : ∃ s0, (flatF (vs.take k)).length = s0 := ⟨_, rfl⟩
      have HS := Lib.hid (show (flatF (vs.take (k + 1))).length = s0 + xs.length by rw [HFT.out, List.length_append, hs0])
      rw [hs0] at hle ⊢
      have hsum : (s0 : Int) + (xs.length : Int) ≤ 1000000 := by omega
      have hneg : decide ((s0 : Int) + (xs.length : Int) < 0) = false := decide_eq_false (by omega)
      have hk0 : (0 : Int) ≤ (k : Int) := by omega
      have hk1 : (k : Int) < (m : Int) := by omega
      clear hf hs0 hx
      go_wp2_with fail
      go_roundw
      case rel => exact ⟨k + 1, by omega, by go_num, by rw [HS.out]; go_num, Lib.hid (by trivial)⟩
      case measure => simp [intOf]; omega
    · obtain rfl : k = m := by omega
      have hd : (flatF (vs.take k)).length = (flatF vs).length := by rw [List.take_of_length_le (by rw [HM.out]; omega)]
      rw [hd]
      have GG := Lib.hid (G.out (flatF vs).length (by omega))
      clear hd
      go_wp2_with fail
      refine GG.out.mono ?_; rintro e w1 ⟨v1, rfl, hown1, hb1⟩
      have HO1 := Lib.hid hown1
      have HB1 := Lib.hid hb1
      clear hown1 hb1
      go_wp2_with fail
      go_loopw [6, 27] (fun u i wr => ∃ k1 : Nat, k1 ≤ k ∧ i = .int .i64 k1 ∧ Hid (OwnFn wr w.heap.size u (flatF (vs.take k1))) ∧ Hid (Below w.heap.size w wr)) (fun _ i _ => k - (intOf i).toNat)
      case atStart => exact ⟨0, Nat.zero_le _, rfl, Lib.hid ⟨by simp [flatF], by simpa [flatF, rowFn] using HO1.out⟩, HB1⟩
      case round =>
        obtain ⟨k1, hk, rfl, HO, HB⟩ := hrel
        by_cases hkl : k1 < k
        · have hkv : k1 < vs.length := by rw [HM.out]; exact hkl
          obtain ⟨hc, hf⟩ := (HV.out.below HB.out).2 k1 hkv
          have HFT := Lib.hid (flatF_take hkv)
          have hle := HLE.out (k1 + 1)
          rw [HFT.out, List.length_append] at hle
          obtain ⟨x, hx⟩ : ∃ x, vs[k1] = x := ⟨_, rfl⟩
          rw [hx] at hc hf hle HFT
          obtain ⟨xv, xs⟩ := x
          simp only at hc hf hle HFT
          obtain ⟨a, n, c1, rfl⟩ : ∃ a n c, xv = .slice a n c := by obtain ⟨a, c, h, _⟩ := hf; exact ⟨a, _, c, h⟩
          obtain ⟨rfl, hn0, hnl, hnew, hok⟩ := hf.news
          have HNEW := Lib.hid hnew
          have HNL := Lib.hid hnl
          have HN0 := Lib.hid hn0
          have HROW1 := Lib.hid (rowFn_one' xs)
          have HOK := Lib.hid (show ∀ f ∈ flatF (vs.take k1) ++ xs, FnOk f from fun f hf => by
            rcases List.mem_append.1 hf with hf | hf
            · exact HO.out.1 f hf
            · exact hok f hf)
          have hown := Lib.hid HO.out.2
          obtain ⟨s0, hs0⟩ : ∃ s0, (flatF (vs.take k1)).length = s0 := ⟨_, rfl⟩
          have HS0 := Lib.hid hs0
          rw [hs0] at hown hle
          have hk0 : (0 : Int) ≤ (k1 : Int) := by omega
          have hk1 : (k1 : Int) < (k : Int) := by omega
          have hwr := HB.out.size
          clear hf hs0 hx hnew hnl hn0 hok
          go_wp2_with (at_builtin; refine wpList_append_opt rfl _ _ 22 rfl w.heap.size 24 i0 (.agg #[.string ⟨#[]⟩, .int .i64 0]) 2 24 Try.underlying22 hi hz0 hz1 hz2 rfl (by decide) _ s0 _ rfl hown.out a xs.length c1 (rowFn xs) rfl HN0.out HNL.out (HNEW.out _ (Below.refl _ _)) HROW1.out ?ap3 ?ap4 ?ap5 ?_)
          case ap3 => unfold maxLen; omega
          case ap4 => omega
          case ap5 => exact hwr
          intro v3 w3 hown3 hgrow3 _
          have HB3 := Lib.hid (HB.out.grown hgrow3 hwr (fun g e => (hown.out.lt g e).1))
          have HO3 := Lib.hid (show OwnFn w3 w.heap.size v3 (flatF (vs.take (k1 + 1))) from ⟨by rw [HFT.out]; exact HOK.out, by rw [HFT.out, rowFn_append, List.length_append, HS0.out]; exact hown3⟩)
          clear hown3 hgrow3
          go_wp2_with fail
          go_roundw
          case rel => exact ⟨k1 + 1, by omega, by go_num, HO3, HB3⟩
          case measure => simp [intOf]; omega
        · have HO2 := Lib.hid (show OwnFn wr w.heap.size u6 (flatF vs) from by
            have h := HO.out
            rwa [List.take_of_length_le (by rw [HM.out]; omega)] at h)
          go_wp2_with fail
          go_ret
          exact ⟨_, rfl, HO2.out, HB.out⟩
end Go.Proofs.Ytehpkhcjejlbpaa

namespace Go.Proofs.Ytehpkhcjejlbpaa
open Go.RowKit

set_option maxHeartbeats 400000 in
theorem class_any (b : Int) (w : World) :
    Calls Try.prog 59 #[.int .u8 b] w fun e w' => e = .returned (.int .i64 (cls b)) ∧ w = w' := by
  go_enter Try.func59, Try.ntmps59
  go_wp2
  all_goals go_ret
  all_goals refine ⟨ret_int ?_, rfl⟩
  all_goals (try simp only [beq_iff_eq, beq_eq_false_iff_ne, ne_eq] at *)
  all_goals (unfold cls; repeat (first | rw [if_pos (by omega)] | rw [if_neg (by omega)]))
set_option maxHeartbeats 400000 in
theorem part_any (b : Int) (w : World) :
    Calls Try.prog 60 #[.int .u8 b] w fun e w' => e = .returned (.bool (part b)) ∧ w = w' := by
  have hb := cls_bd b
  have hp : part b = decide (1 ≤ cls b ∧ cls b ≤ 3 ∨ b = 95) := rfl
  have h95 : b = 95 → cls b = 0 := by rintro rfl; decide
  have H := Lib.hid hp
  have H3 := Lib.hid h95
  clear hp h95
  generalize hc : cls b = c at H H3 hb
  have H2 := Lib.hid hc
  clear hc
  go_enter Try.func60, Try.ntmps60
  go_wp2_with (go_at_call 59; refine (class_any _ _).mono ?_; rintro e w' ⟨rfl, rfl⟩; rw [H2.out])
  all_goals go_ret
  all_goals refine ⟨ret_bool ?_, rfl⟩
  all_goals rw [H.out]
  all_goals have h95 := H3.out
  all_goals (try simp only [beq_iff_eq, beq_eq_false_iff_ne, bne_iff_ne, bne_eq_false_iff_eq, ne_eq] at *)
  all_goals first | (rw [decide_eq_true (by omega)]) | (rw [decide_eq_false (by omega)])
end Go.Proofs.Ytehpkhcjejlbpaa
