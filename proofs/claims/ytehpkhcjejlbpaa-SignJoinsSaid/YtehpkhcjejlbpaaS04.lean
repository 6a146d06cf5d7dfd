/-
  Terms that are small, rows of terms held against each other, and whether a term is in a row, by the reference of layer 3: Within, Small, Smalls, Sames, In, Has.
  What the calls of package sign must answer, as definitions: the laws of layer 10 are walked from these.
  Terms that are made: Of of the reference of layer 3.
  Terms that are made: Fun of the reference of layer 3.
  Chapter 10's example answers true, from what the program's sign answers.
  What Join of package sign must answer, as a definition.
  The arity of the first function of a name, and whether a function is in a row, by the reference of layer 10: Arity, Has, Few.
  What the byte functions of the reference answer: the class, or whether the byte may be part of a word, for every byte and in every world; nothing is changed.
  Whether a text is among others, by the reference of layer 1: In.
  Whether a text is a word, by the reference. Each call makes new memory alone.
  A row of the call's own, with the elements of a slice behind it that may have none and no memory. No function of the program.
  One function more, by the reference of layer 10: Add.
  Whether a function is in a row, by the reference of layer 10: Has.
-/
import Derived.Test.YtehpkhcjejlbpaaS02
import Derived.Test.YtehpkhcjejlbpaaS03
import Derived.Test.YtehpkhcjejlbpaaS01
import Derived.Lib.Hide
import Derived.WalkKit
import Derived.BigQuiet
import Derived.WalkSpells
import Derived.WalkLawsBesides
import Derived.Deep.QuietTactic
import Derived.Maps.AppendAt
import Derived.Laws.AppendOwnNone
namespace Go.Proofs.Ytehpkhcjejlbpaa
open Go.RowKit

def nameB (t : Tm) : Bool := decide (t.name.size ≤ 100)
/-- At most so many parts, with short names. -/
def withinB (t : Tm) (most : Int) : Bool := decide ((t.parts : Int) ≤ most) && t.all.all nameB
def smallB (t : Tm) : Bool := withinB t 300
theorem within_parts {t : Tm} {most : Int} (h : withinB t most = true) : (t.parts : Int) ≤ most := by
  unfold withinB at h; rw [Bool.and_eq_true, decide_eq_true_eq] at h; exact h.1
theorem within_names {t : Tm} {most : Int} (h : withinB t most = true) : ∀ x ∈ t.all, x.name.size ≤ 100 := by
  unfold withinB at h; rw [Bool.and_eq_true, List.all_eq_true] at h
  intro x hx; have := h.2 x hx; unfold nameB at this; simpa using this
theorem small_parts {t : Tm} (h : smallB t = true) : t.parts ≤ 300 := by have := within_parts h; omega
theorem within_big {t : Tm} {most : Int} (h : ¬ (t.parts : Int) ≤ most) : withinB t most = false := by unfold withinB; rw [decide_eq_false h, Bool.false_and]
/-- Names are short up to k. -/
def NamesTo (ts : List Tm) (k : Nat) : Prop := ∀ j (h : j < ts.length), j < k → nameB ts[j] = true
theorem NamesTo.succ {ts : List Tm} {k : Nat} (h : NamesTo ts k) (hk : k < ts.length) (hs : nameB ts[k] = true) : NamesTo ts (k + 1) := by
  intro j hj hjk
  by_cases e : j = k
  · subst e; exact hs
  · exact h j hj (by omega)
theorem NamesTo.all {t : Tm} {most : Int} (h : NamesTo t.all t.all.length) (hp : (t.parts : Int) ≤ most) : withinB t most = true := by
  unfold withinB; rw [decide_eq_true hp, Bool.true_and, List.all_eq_true]
  intro x hx
  obtain ⟨j, hj, rfl⟩ := List.getElem_of_mem hx
  exact h j hj hj
theorem names_bad {t : Tm} {most : Int} {k : Nat} (hk : k < t.all.length) (h : nameB t.all[k] = false) : withinB t most = false := by
  unfold withinB; rw [Bool.and_eq_false_iff]; right
  rw [← Bool.not_eq_true, List.all_eq_true]; intro hall
  rw [hall _ (List.getElem_mem hk)] at h; cases h
/-- A row of terms, opened: empty, or at an address. -/
theorem Tms.open_ {w : World} {v : Value} {ts : List Tm} (h : Tms w v ts) : ∃ a c, v = .slice a ts.length c ∧ ts.length ≤ 9223372036854775807 ∧ (ts = [] ∨ ∃ b o, a = some ⟨b, o, none⟩ ∧ b < w.heap.size ∧
    ∀ j (h : j < ts.length), ∃ u : Tv, u.t = ts[j] ∧ u.ok w ∧ TvAt w b (o + j * 4) u) := by
  obtain ⟨a, c, hv, hl, h⟩ := h
  refine ⟨a, c, hv, hl.1, ?_⟩
  rcases h with h | ⟨b, o, ha, hlt, hr⟩
  · exact .inl h
  · exact .inr ⟨b, o, ha, hlt, fun j hj => tmAt_tv (rowAt_get hr hj)⟩

set_option maxRecDepth 100000 in
set_option maxHeartbeats 1000000 in
theorem within_tm (x : Tv) (most : Int) (h0 : 0 ≤ most) (h1 : most ≤ 100000) (w : World) (hx : x.ok w) :
    Calls Try.prog 28 #[x.val, .int .i64 most] w fun e w' => e = .returned (.bool (withinB x.t most)) ∧ Below w.heap.size w w' := by
  have C := Lib.hid (fun w hx => count_tm x.t.parts x most w (Nat.le_refl _) hx h0 (by omega))
  by_cases hp : (x.t.parts : Int) ≤ most
  · have hcn := cnt_in hp
    have A := Lib.hid (fun w hx => all_tm x.t.parts x w w (Nat.le_refl _) (by omega) hx (Below.refl _ _))
    rw [hcn] at C
    have HX := Lib.hid hx
    have HP := Lib.hid hp
    have HAL := Lib.hid (all_length x.t)
    have hpb : x.t.parts ≤ 100000 := by omega
    have HNE := Lib.hid (show x.t.all ≠ [] from by rw [all_eq]; simp)
    have hNT := fun (h : NamesTo x.t.all x.t.all.length) => h.all hp
    have HNT := Lib.hid hNT
    have HNB := Lib.hid (fun k hk h => names_bad (t := x.t) (most := most) (k := k) hk h)
    obtain ⟨p, hpe⟩ : ∃ p, p = x.t.parts := ⟨_, rfl⟩
    obtain ⟨ts, hts⟩ : ∃ ts, ts = x.t.all := ⟨_, rfl⟩
    obtain ⟨z, hz⟩ : ∃ z, z = withinB x.t most := ⟨_, rfl⟩
    rw [← hpe] at C hp hpb HAL
    rw [← hts] at A HNT HNB HAL HNE
    rw [← hz] at HNT HNB ⊢
    clear hcn hx hpe hts hz hNT
    obtain ⟨t, a, c⟩ := x
    simp only [Tv.val] at C A ⊢
    go_enter Try.func28, Try.ntmps28
    go_wp2_with fail
    refine (C.out _ (HX.out.below ((Below.refl _ _).alloc (Nat.le_refl _) _))).mono ?_; rintro e w1 ⟨rfl, hb1⟩
    obtain ⟨hbx, hb, hlt⟩ := below_box' (box_new _ _ _ _ _ _) hb1
    obtain ⟨c0, c1, c2, c3, _, _, _, _⟩ := hbx
    go_wp2_with fail
    refine (A.out _ (HX.out.below hb)).mono ?_; rintro e w2 ⟨v, rfl, hov, hnn, hb2⟩
    have htm := hov.tms hb2 (by have := HAL.out; omega)
    obtain ⟨a', c', rfl, hl, hh⟩ := htm.open_
    rcases hh with hh | ⟨b, o, rfl, hblt, hr⟩
    · exact absurd hh HNE.out
    have HR := Lib.hid hr
    have hbz := below_next hb hb2
    clear hov hnn hr htm hb2 hb1 hb c0 c1 c2 c3
    go_wp2
    go_loopw [15] (fun i wr => ∃ k : Nat, k ≤ ts.length ∧ i = .int .i64 k ∧ NamesTo ts k ∧ Below w2.heap.size w2 wr) (fun i _ => ts.length - (intOf i).toNat)
    case atStart => exact ⟨0, Nat.zero_le _, rfl, (fun j hj hk => by omega), Below.refl _ _⟩
    case round =>
      obtain ⟨k, hk, rfl, hsh, hbr⟩ := hrel
      have HS := Lib.hid hsh
      clear hsh
      by_cases hkl : k < ts.length
      · have hi : (k : Int) < (ts.length : Int) := by omega
        obtain ⟨u, hu, _, hat⟩ := HR.out k hkl
        obtain ⟨d0, d1, d2, d3⟩ := hat.below hbr
        have HU := Lib.hid hu
        clear hu hat
        by_cases hs : u.t.name.size ≤ 100
        · have HN := Lib.hid (show nameB ts[k] = true from by rw [← HU.out]; unfold nameB; exact decide_eq_true hs)
          go_wp2
          go_roundw
          case rel => exact ⟨k + 1, by omega, by go_num, HS.out.succ hkl HN.out, hbr.alloc hbr.size _⟩
          case measure => simp [intOf]; omega
        · have HN := Lib.hid (show nameB ts[k] = false from by rw [← HU.out]; unfold nameB; exact decide_eq_false hs)
          go_wp2
          go_ret
          exact ⟨ret_bool (HNB.out k hkl HN.out).symm, below_next hbz (hbr.alloc hbr.size _)⟩
      · obtain rfl : k = ts.length := by omega
        go_wp2
        go_ret
        exact ⟨ret_bool (HNT.out HS.out).symm, below_next hbz hbr⟩
  · have hcn := cnt_out hp
    rw [hcn] at C
    have HW := Lib.hid (within_big hp)
    have HX := Lib.hid hx
    clear hcn hp hx
    obtain ⟨t, a, c⟩ := x
    simp only [Tv.val] at C ⊢
    go_enter Try.func28, Try.ntmps28
    go_wp2_with fail
    refine (C.out _ (HX.out.below ((Below.refl _ _).alloc (Nat.le_refl _) _))).mono ?_; rintro e w1 ⟨rfl, hb1⟩
    have hb := below_box hb1
    clear hb1
    go_wp2_with fail
    go_ret
    exact ⟨ret_bool HW.out.symm, hb⟩
end Go.Proofs.Ytehpkhcjejlbpaa

namespace Go.Proofs.Ytehpkhcjejlbpaa
open Go.RowKit

/-- Functions that are few, with short names. -/
structure ModF (fs : List Fn) : Prop where
  len : fs.length ≤ 900
  size : ∀ f ∈ fs, f.1.size ≤ 1000
theorem modF_few {fs : List Fn} (h : fewF fs = true) : ModF fs := ⟨by have := (fewF_of h).1; omega, fun f hf => by have := (fewF_of h).2 f hf; omega⟩
def ArityI : Prop := ∀ (v : Value) (fs : List Fn) (s : ByteArray) (W : World), Fus W v fs → ModF fs → s.size ≤ 1000 →
    Calls Try.prog 8 #[v, .string s] W fun e w' => e = arEnd (arF fs s) ∧ Below W.heap.size W w'
def AddI : Prop := ∀ (v : Value) (fs : List Fn) (f : Fn) (W : World), Fus W v fs → ModF fs → FnOk f → f.1.size ≤ 1000 →
    Calls Try.prog 10 #[v, fnVal f] W (AddPost fs f W)
def RightI : Prop := ∀ (v : Value) (fs : List Fn) (W : World), Fus W v fs → ModF fs →
    Calls Try.prog 13 #[v] W fun e w' => e = .returned (.bool (rightF fs)) ∧ Below W.heap.size W w'
end Go.Proofs.Ytehpkhcjejlbpaa

namespace Go.Proofs.Ytehpkhcjejlbpaa
open Go.RowKit

set_option maxHeartbeats 400000 in
theorem of_any (k : Int) (s : ByteArray) (n : Int) (a : Option Addr) (l c : Nat) (w : World) :
    Calls Try.prog 34 #[.int .i64 k, .string s, .int .i64 n, .slice a l c] w fun e w' => e = .returned (.agg #[.int .i64 k, .string s, .int .i64 n, .slice a l c]) ∧ Below w.heap.size w w' := by
  go_enter Try.func34, Try.ntmps34
  go_wp2_with fail
  exact bodyPost_ret (v := .agg #[.int .i64 k, .string s, .int .i64 n, .slice a l c]) (by simp [results, Try.results34, go_sem]) rfl ⟨rfl, (Below.refl _ _).alloc (Nat.le_refl _) _⟩
end Go.Proofs.Ytehpkhcjejlbpaa

namespace Go.Proofs.Ytehpkhcjejlbpaa
open Go.RowKit

set_option maxHeartbeats 400000 in
theorem rfun_any (s : ByteArray) (a : Option Addr) (l c : Nat) (w : World) :
    Calls Try.prog 20 #[.string s, .slice a l c] w fun e w' => e = .returned (.agg #[.int .i64 5, .string s, .int .i64 0, .slice a l c]) ∧ Below w.heap.size w w' := by
  have O := Lib.hid (fun w => of_any 5 s 0 a l c w)
  go_enter Try.func20, Try.ntmps20
  go_wp2_with fail
  refine (O.out _).mono ?_; rintro e w1 ⟨rfl, hb⟩
  obtain ⟨c0, c1, c2, c3, f0, f1, f2, f3⟩ := (box_new w (.int .i64 0) (.string ⟨#[]⟩) (.int .i64 0) (.slice none 0 0) 40).below hb (by simp)
  replace hb := below_box hb
  go_wp2_with fail
  exact bodyPost_ret (v := .agg #[.int .i64 5, .string s, .int .i64 0, .slice a l c]) (by simp [results, Try.results20, go_sem, c0, c1, c2, c3]) rfl ⟨rfl, (((hb.setCell (Nat.le_refl _) _).setCell (Nat.le_refl _) _).setCell (Nat.le_refl _) _).setCell (Nat.le_refl _) _⟩
end Go.Proofs.Ytehpkhcjejlbpaa

namespace Go.Proofs.Ytehpkhcjejlbpaa
open Go.RowKit

def fn10 : Fn := (⟨#[102]⟩, 1)
def tA10 : Tm := .mk 5 ⟨#[97]⟩ 0 []
def tF10 : Tm := .mk 5 ⟨#[102]⟩ 0 [tA10]
theorem tA10_ok (w : World) : Tv.ok w ⟨tA10, none, 0⟩ := by
  refine ⟨⟨?_, ?_, ?_, ?_, ?_⟩, ?_, .inl rfl⟩ <;> decide
theorem tF10_fit : Fit tF10.kind tF10.name tF10.n := by refine ⟨?_, ?_, ?_, ?_, ?_⟩ <;> decide
theorem tF10_len : tF10.args.length ≤ 9223372036854775807 ∧ tF10.args.length ≤ 1 := by decide
theorem tF10_small : smallB tF10 = true := by decide
theorem fus10 (w : World) : Fus (w.alloc (.cells #[.string ⟨#[102]⟩, .int .i64 1] 24)) (.slice (some ⟨w.heap.size, 0, none⟩) 1 1) [fn10] := by
  refine ⟨_, 1, rfl, by decide, .inr ⟨w.heap.size, 0, rfl, by simp, fun j x hj => ?_⟩⟩
  have h0 : j = 0 := by have hl := (List.getElem?_eq_some_iff.1 hj).1; simp at hl; omega
  subst h0
  obtain rfl : fn10 = x := Option.some.inj hj
  exact ⟨⟨by decide, by decide, by decide⟩, World.cell?_alloc_mark w #[.string ⟨#[102]⟩, .int .i64 1] 24 (0, 0) 0, World.cell?_alloc_mark w #[.string ⟨#[102]⟩, .int .i64 1] 24 (0, 0) 1⟩
theorem mod10 : ModF [fn10] := ⟨by decide, fun f hf => by rw [List.mem_singleton.1 hf]; decide⟩
theorem ar10 : arF [fn10] ⟨#[102]⟩ = some 1 := by
  unfold arF
  rw [List.find?_cons, show (fn10.1.toList == (⟨#[102]⟩ : ByteArray).toList) = true from toList_iff.2 rfl]; rfl
theorem ar10a : arF [fn10] ⟨#[97]⟩ = none := by
  unfold arF
  rw [List.find?_cons]
  have : (fn10.1.toList == (⟨#[97]⟩ : ByteArray).toList) = false := by
    rw [← Bool.not_eq_true, toList_iff]
    intro h
    exact absurd (congrArg (fun b : ByteArray => b.data.toList) h) (by decide)
  rw [this]; rfl
theorem inner10 : innerT tF10 = [[], [0]] := by decide
theorem fits10 : fitsF [fn10] tF10 = (4, [0]) := by
  unfold fitsF
  rw [inner10, fitsR]
  rw [show ((atT tF10 []).getD zeroT).name = ⟨#[102]⟩ from rfl, ar10]
  show (if (1 : Int) = (((atT tF10 []).getD zeroT).args.length : Int) then fitsR [fn10] tF10 [[0]] else (5, [])) = (4, [0])
  rw [if_pos (show (1 : Int) = (((atT tF10 []).getD zeroT).args.length : Int) from rfl), fitsR]
  rw [show ((atT tF10 [0]).getD zeroT).name = ⟨#[97]⟩ from rfl, ar10a]
/-- What Fits must answer at the chapter's example. -/
def Fits10 : Prop := ∀ (v : Value) (x : Tv) (W : World), Fus W v [fn10] → x.ok W → x.t = tF10 →
    Calls Try.prog 18 #[v, x.val] W (FitsPost [fn10] tF10 W)
set_option maxRecDepth 100000 in
set_option maxHeartbeats 2000000 in
theorem awake10_of (IA : ArityI) (I : Fits10) (w : World) :
    Calls Try.prog 6 #[] w fun e w' => e = .returned (.bool true) ∧ Below w.heap.size w w' := by
  have hb0 : Below w.heap.size w (w.alloc (.cells #[.string ⟨#[102]⟩, .int .i64 1] 24)) := (Below.refl _ _).alloc (Nat.le_refl _) _
  have HB0 := Lib.hid hb0
  have HFU := Lib.hid (fus10 w)
  have II := Lib.hid I
  have IAR := Lib.hid IA
  clear hb0 I IA
  go_enter Try.func6, Try.ntmps6
  go_wp2_with fail
  obtain ⟨w0, hw0⟩ : ∃ w0, w0 = w.alloc (.cells #[.string ⟨#[102]⟩, .int .i64 1] 24) := ⟨_, rfl⟩
  rw [← hw0] at HB0 HFU ⊢
  clear hw0
  refine (rfun_any ⟨#[97]⟩ none 0 0 _).mono ?_; rintro e w1 ⟨rfl, hb1⟩
  have HB1 := Lib.hid hb1
  clear hb1
  have hbR : Below w1.heap.size w1 (w1.alloc (.cells #[.int .i64 5, .string ⟨#[97]⟩, .int .i64 0, .slice none 0 0] 40)) := (Below.refl _ _).alloc (Nat.le_refl _) _
  have hbx := box_new w1 (.int .i64 5) (.string ⟨#[97]⟩) (.int .i64 0) (.slice none 0 0) 40
  go_wp2_with fail
  refine (rfun_any ⟨#[102]⟩ (some ⟨w1.heap.size, 0, none⟩) 1 1 _).mono ?_; rintro e w2 ⟨rfl, hb2⟩
  have hok : Tv.ok w2 ⟨tF10, some ⟨w1.heap.size, 0, none⟩, 1⟩ := by
    obtain ⟨c0, c1, c2, c3, _, _, _, _⟩ := hbx.below hb2 (by simp)
    refine ⟨tF10_fit, tF10_len, .inr ⟨w1.heap.size, 0, rfl, ?_, ?_⟩⟩
    · have := hb2.size; simp at this; omega
    · show RowAt _ [tA10] _ _
      rw [RowAt, RowAt]
      exact ⟨tv_tmAt (tA10_ok _) ⟨c0, c1, c2, c3⟩, trivial⟩
  have hb12 := below_next hbR hb2
  have hb02 := below_next HB1.out hb12
  have HF2 := Lib.hid (HFU.out.below hb02)
  have HB2 := Lib.hid (HB0.out.trans (hb02.mono HB0.out.size))
  have FT := Lib.hid (II.out _ ⟨tF10, some ⟨w1.heap.size, 0, none⟩, 1⟩ w2 HF2.out hok rfl)
  have HE := Lib.hid fits10
  clear hok hb12 hb02 hb2 hbR hbx
  go_wp2_with fail
  refine FT.out.mono ?_; rintro e w3 ⟨u, rfl, hu, hb3⟩
  rw [HE.out] at hu ⊢
  have HF3 := Lib.hid (HF2.out.below hb3)
  have HB3 := Lib.hid (below_next HB2.out hb3)
  have HU3 := Lib.hid hu
  have AR := Lib.hid (IAR.out _ _ ⟨#[102]⟩ w3 HF3.out mod10 (by decide))
  clear hu hb3
  go_wp2_with fail
  refine AR.out.mono ?_; rintro e w4 ⟨rfl, hb4⟩
  rw [ar10]
  have hu4 := HU3.out.below hb4
  have HB4 := Lib.hid (below_next HB3.out hb4)
  obtain ⟨a, c, rfl, _, _, _, h | ⟨b, o, rfl, hlt, hc⟩⟩ := hu4
  · cases h
  have hc0 : w4.cell? ⟨b, o, none⟩ = some (.int .i64 0) := hc 0 0 rfl
  clear hc hb4
  unfold arEnd
  go_wp2_with fail
  go_ret
  exact ⟨rfl, HB4.out⟩
end Go.Proofs.Ytehpkhcjejlbpaa

namespace Go.Proofs.Ytehpkhcjejlbpaa
open Go.RowKit

def JoinI : Prop := ∀ (va vb : Value) (fs bs : List Fn) (W : World), Fus W va fs → Fus W vb bs → ModF fs → ModF bs →
    Calls Try.prog 15 #[va, vb] W (JoinPost fs bs W)
end Go.Proofs.Ytehpkhcjejlbpaa

namespace Go.Proofs.Ytehpkhcjejlbpaa
open Go.RowKit

set_option maxRecDepth 100000 in
set_option maxHeartbeats 1000000 in
theorem rarity_any (v : Value) (fs : List Fn) (s : ByteArray) (w : World) (hv : Fus w v fs) :
    Calls Try.prog 9 #[v, .string s] w fun e w' => e = arEnd (arF fs s) ∧ Below w.heap.size w w' := by
  obtain ⟨a, c, rfl, hl, hrow⟩ := hv
  have HR := Lib.hid hrow
  clear hrow
  go_enter Try.func9, Try.ntmps9
  go_wp2_with fail
  go_loopw [10] (fun i wr => ∃ k : Nat, k ≤ fs.length ∧ i = .int .i64 k ∧ Hid (arF (fs.take k) s = none) ∧ Below w.heap.size w wr) (fun i _ => fs.length - (intOf i).toNat)
  case atStart => exact ⟨0, Nat.zero_le _, rfl, Lib.hid (by rw [List.take_zero]; rfl), Below.refl _ _⟩
  case round =>
    obtain ⟨k, hk, rfl, HN, hb⟩ := hrel
    by_cases hkl : k < fs.length
    · obtain ⟨b, o, rfl, hlt, hat⟩ := HR.out.resolve_left (by intro h; rw [h] at hkl; simp at hkl)
      obtain ⟨x, hx⟩ : ∃ x, fs[k]? = some x := ⟨_, List.getElem?_eq_getElem hkl⟩
      have hA := hat k x hx
      have m0 := (hb.cell (p := ⟨b, o + k * 2, none⟩) hlt).trans hA.c0
      have m1 := (hb.cell (p := ⟨b, o + k * 2 + 1, none⟩) hlt).trans hA.c1
      have hstep := Lib.hid (arF_take HN.out hx)
      have hk0 : (0 : Int) ≤ (k : Int) := by omega
      have hk1 : (k : Int) < (fs.length : Int) := by omega
      clear hat hx hA
      obtain ⟨xs, xn⟩ := x
      simp only at m0 m1
      cases he : (xs.toList == s.toList) with
      | true =>
        have HG := Lib.hid (show arF fs s = some xn from arF_some (k := k + 1) (by rw [hstep.out, if_pos he]))
        go_wp2_with fail
        go_ret2
        exact ⟨by rw [HG.out]; rfl, hb.alloc hb.size _⟩
      | false =>
        have HNN := Lib.hid (show arF (fs.take (k + 1)) s = none by rw [hstep.out, if_neg (by rw [he]; simp)])
        go_wp2_with fail
        go_roundw
        case rel => exact ⟨k + 1, by omega, by go_num, HNN, hb.alloc hb.size _⟩
        case measure => simp [intOf]; omega
    · have hke : k = fs.length := by omega
      have HG := Lib.hid (show arF fs s = none by have h := HN.out; rw [hke, List.take_length] at h; exact h)
      clear hke
      go_wp2_with fail
      go_ret2
      exact ⟨by rw [HG.out]; rfl, hb⟩
end Go.Proofs.Ytehpkhcjejlbpaa

namespace Go.Proofs.Ytehpkhcjejlbpaa
open Go.RowKit

set_option maxHeartbeats 400000 in
theorem among_any (s : ByteArray) (b : Int) (w : World) (hs : s.size ≤ 9223372036854775806) :
    Calls Try.prog 56 #[.string s, .int .u8 b] w fun e w' => e = .returned (.bool (among s.data.toList b)) ∧ w = w' := by
  go_enter Try.func56, Try.ntmps56
  go_wp2
  go_loop [5] (fun i => ∃ k : Nat, k ≤ s.size ∧ i = .int .i64 k ∧ among (s.data.toList.take k) b = false) (fun i => s.size - (intOf i).toNat)
  case atStart => exact ⟨0, Nat.zero_le _, rfl, rfl⟩
  case round =>
    obtain ⟨k, hk, rfl, ha⟩ := hrel
    have HA := Lib.hid ha
    clear ha
    by_cases hlt : k < s.size
    · go_wp2
      · go_ret
        refine ⟨ret_bool ?_, rfl⟩
        rw [among_take s b (k + 1)]
        rw [among_snoc s b k hlt]
        simp_all
      · go_round
        case rel => exact ⟨k + 1, by omega, by go_num, by rw [among_snoc s b k hlt, HA.out]; simp_all⟩
        case measure => simp [intOf]; omega
    · go_wp2
      go_ret
      refine ⟨ret_bool ?_, rfl⟩
      have e : k = s.size := by omega
      have h := HA.out
      rw [e, take_all] at h
      rw [h]
set_option maxHeartbeats 400000 in
theorem rclass_any (b : Int) (w : World) :
    Calls Try.prog 40 #[.int .u8 b] w fun e w' => e = .returned (.int .i64 (cls b)) ∧ w = w' := by
  have hs := among_signs b
  generalize hx : among [40, 41, 44, 47, 61, 46, 59, 58, 36, 37] b = x at hs
  have H := Lib.hid hs
  have H2 := Lib.hid hx
  clear hs hx
  go_enter Try.func40, Try.ntmps40
  go_wp2_with (go_at_call 56; refine (among_any _ _ _ (by decide)).mono ?_; rintro e w' ⟨rfl, rfl⟩; simp only [H2.out])
  all_goals go_ret
  all_goals refine ⟨ret_int ?_, rfl⟩
  all_goals (have hs := H.out; clear H H2; subst hs)
  all_goals (try simp only [beq_iff_eq, beq_eq_false_iff_ne, ne_eq, decide_eq_true_eq, decide_eq_false_iff_not] at *)
  all_goals (unfold cls; repeat (first | rw [if_pos (by omega)] | rw [if_neg (by omega)]))
  all_goals (exfalso; omega)
set_option maxHeartbeats 400000 in
theorem rpart_any (b : Int) (w : World) :
    Calls Try.prog 57 #[.int .u8 b] w fun e w' => e = .returned (.bool (part b)) ∧ w = w' := by
  have hb := cls_bd b
  have hp : part b = decide (1 ≤ cls b ∧ cls b ≤ 3 ∨ b = 95) := rfl
  have H := Lib.hid hp
  clear hp
  generalize hc : cls b = c at H hb
  have H2 := Lib.hid hc
  clear hc
  go_enter Try.func57, Try.ntmps57
  go_wp2_with (go_at_call 40; refine (rclass_any _ _).mono ?_; rintro e w' ⟨rfl, rfl⟩; rw [H2.out])
  all_goals go_ret
  all_goals refine ⟨ret_bool ?_, rfl⟩
  all_goals rw [H.out]
  all_goals (rw [Bool.eq_iff_iff]; simp only [Bool.or_eq_true, beq_iff_eq, decide_eq_true_eq, true_iff])
  all_goals omega
end Go.Proofs.Ytehpkhcjejlbpaa

namespace Go.Proofs.Ytehpkhcjejlbpaa
open Go.RowKit

set_option maxHeartbeats 400000 in
theorem rin_any (v : Value) (zs : List ByteArray) (x : ByteArray) (w : World) (hv : Strs w v zs) :
    Calls Try.prog 42 #[v, .string x] w fun e w' => e = .returned (.bool (Lib.containsS zs x)) ∧ w = w' := by
  obtain ⟨a, c, rfl, hl, h⟩ := hv
  rcases h with rfl | ⟨b, off, rfl, hlt, hc⟩
  · go_enter Try.func42, Try.ntmps42
    go_wp2
    refine wp_loop_rounds 1 ?_; rw [rounds_succ]
    go_wp2
    go_ret
    exact ⟨rfl, rfl⟩
  · have HC := Lib.hid hc
    clear hc
    go_enter Try.func42, Try.ntmps42
    go_wp2
    go_loop [9] (fun i => ∃ k : Nat, k ≤ zs.length ∧ i = .int .i64 k ∧ NotYet zs x k) (fun i => zs.length - (intOf i).toNat)
    case atStart => exact ⟨0, Nat.zero_le _, rfl, (fun j hj => by omega)⟩
    case round =>
      obtain ⟨k, hk, rfl, hne⟩ := hrel
      have HN := Lib.hid hne
      clear hne
      by_cases hlt : k < zs.length
      · have hcell : w.cell? ⟨b, off + k, none⟩ = some (.string zs[k]) := by rw [HC.out k hlt]; simp [List.getD, hlt]
        by_cases he : zs[k] = x
        · have hq : (zs[k].toList == x.toList) = true := by rw [Lib.bytes_beq_iff]; exact he
          have HE := Lib.hid he
          clear he
          go_wp2
          go_ret
          exact ⟨ret_bool (contains_here hlt HE.out).symm, rfl⟩
        · have hq : (zs[k].toList == x.toList) = false := by rw [Lib.bytes_beq_false_iff]; exact he
          have HE := Lib.hid (show zs.getD k ByteArray.empty ≠ x from by simpa [List.getD, hlt] using he)
          clear he
          go_wp2
          go_round
          case rel => exact ⟨k + 1, by omega, by go_num, HN.out.succ HE.out⟩
          case measure => simp [intOf]; omega
      · obtain rfl : k = zs.length := by omega
        go_wp2
        go_ret
        exact ⟨ret_bool HN.out.all.symm, rfl⟩
end Go.Proofs.Ytehpkhcjejlbpaa

namespace Go.Proofs.Ytehpkhcjejlbpaa
open Go.RowKit

set_option maxHeartbeats 400000 in
theorem rkeys_any (w : World) :
    Calls Try.prog 43 #[] w fun e w' => ∃ v, e = .returned v ∧ Strs w' v keyList ∧ Below w.heap.size w w' := by
  go_enter Try.func43, Try.ntmps43
  go_wp2
  go_ret
  exact ⟨_, rfl, strs_alloc w keyList 9 (by decide), (Below.refl _ _).alloc (Nat.le_refl _) _⟩
set_option maxHeartbeats 400000 in
theorem rparts_any (s : ByteArray) (hs : s.size ≤ 9223372036854775806) (w : World) :
    Calls Try.prog 41 #[.string s] w fun e w' => e = .returned (.bool (allPart s.data.toList)) ∧ w = w' := by
  go_enter Try.func41, Try.ntmps41
  go_wp2
  go_loop [3] (fun i => ∃ k : Nat, k ≤ s.size ∧ i = .int .i64 k ∧ allPart (s.data.toList.take k) = true) (fun i => s.size - (intOf i).toNat)
  case atStart => exact ⟨0, Nat.zero_le _, rfl, rfl⟩
  case round =>
    obtain ⟨k, hk, rfl, ha⟩ := hrel
    have HA := Lib.hid ha
    clear ha
    by_cases hlt : k < s.size
    · cases hp : part (s[k].toNat : Int) with
      | true =>
        have HP := Lib.hid hp
        clear hp
        go_wp2_with (go_at_call 57; refine (rpart_any _ _).mono ?_; rintro e w' ⟨rfl, rfl⟩; rw [HP.out])
        go_round
        case rel => exact ⟨k + 1, by omega, by go_num, by rw [allPart_snoc s k hlt, HA.out, HP.out]; rfl⟩
        case measure => simp [intOf]; omega
      | false =>
        have HP := Lib.hid hp
        clear hp
        go_wp2_with (go_at_call 57; refine (rpart_any _ _).mono ?_; rintro e w' ⟨rfl, rfl⟩; rw [HP.out])
        go_ret
        exact ⟨ret_bool (allPart_bad s k hlt HP.out).symm, rfl⟩
    · go_wp2
      go_ret
      refine ⟨ret_bool ?_, rfl⟩
      have e : k = s.size := by omega
      have h := HA.out
      rw [e, take_all] at h
      rw [h]
set_option maxHeartbeats 400000 in
theorem rword_any (s : ByteArray) (hs : s.size ≤ 9223372036854775806) (w : World) :
    Calls Try.prog 24 #[.string s] w fun e w' => e = .returned (.bool (wordB s)) ∧ Below w.heap.size w w' := by
  by_cases h0 : 1 ≤ s.size
  · by_cases h1 : s.size ≤ 20
    · have hw : wordB s = (((cls (s[0].toNat : Int) == 1) && allPart s.data.toList) && !Lib.containsS keyList s) := by
        unfold wordB speltB; rw [decide_eq_true ⟨h0, h1⟩, fits_eq (.inl rfl) (by omega)]; rfl
      have HW := Lib.hid hw
      clear hw
      have C := Lib.hid (fun b w => rclass_any b w)
      have A := Lib.hid (fun w => rparts_any s hs w)
      have hi : (0 : Int) < (s.size : Int) := by omega
      cases hc : (cls (s[0].toNat : Int) == 1) with
      | false =>
        have HC := Lib.hid hc
        go_enter Try.func24, Try.ntmps24
        go_wp2_with (go_at_call 40; refine (C.out _ _).mono ?_; rintro e w1 ⟨rfl, rfl⟩)
        go_ret
        exact ⟨ret_bool (by rw [HW.out, HC.out]; rfl), Below.refl _ _⟩
      | true =>
        have HC := Lib.hid hc
        cases hp : allPart s.data.toList with
        | false =>
          have HP := Lib.hid hp
          clear hp
          go_enter Try.func24, Try.ntmps24
          go_wp2_with (first | (go_at_call 40; refine (C.out _ _).mono ?_; rintro e w1 ⟨rfl, rfl⟩) | (go_at_call 41; refine (A.out _).mono ?_; rintro e w1 ⟨rfl, rfl⟩; rw [HP.out]))
          go_ret
          exact ⟨ret_bool (by rw [HW.out, HC.out, HP.out]; rfl), Below.refl _ _⟩
        | true =>
          have HP := Lib.hid hp
          clear hp
          go_enter Try.func24, Try.ntmps24
          go_wp2_with (first | (go_at_call 40; refine (C.out _ _).mono ?_; rintro e w1 ⟨rfl, rfl⟩) | (go_at_call 41; refine (A.out _).mono ?_; rintro e w1 ⟨rfl, rfl⟩; rw [HP.out]) | (go_at_call 43; refine (rkeys_any _).mono ?_; rintro e w1 ⟨v, rfl, hv, hb⟩; replace hv := Lib.hid hv) | (go_at_call 42; refine (rin_any _ _ _ _ (Hid.out (by assumption))).mono ?_; rintro e w2 ⟨rfl, rfl⟩))
          go_ret
          exact ⟨ret_bool (by rw [HW.out, HC.out, HP.out]; rfl), hb⟩
    · have HF := Lib.hid (show wordB s = false from by unfold wordB speltB; rw [decide_eq_false (by omega)]; rfl)
      go_enter Try.func24, Try.ntmps24
      go_wp2_with fail
      go_ret
      exact ⟨ret_bool HF.out.symm, Below.refl _ _⟩
  · have HF := Lib.hid (show wordB s = false from by unfold wordB speltB; rw [decide_eq_false (by omega)]; rfl)
    go_enter Try.func24, Try.ntmps24
    go_wp2_with fail
    go_ret
    exact ⟨ret_bool HF.out.symm, Below.refl _ _⟩
end Go.Proofs.Ytehpkhcjejlbpaa

namespace Go.Proofs.Ytehpkhcjejlbpaa
open Go.RowKit

theorem run_append_nil0 {P : Program} {w : World} (base : Nat) (t ty e : TypeId) (i : TypeInfo) (size : Nat) (ht : P.underlying t = some (.slice e)) (hi : P.info? e = some i)
    (v : Value) (n : Nat) (xs : List Value) (hown : w.ownsRow base e size v n xs) (c : Nat) :
    (Builtin.append_ #[t, t] ty #[v, .slice none 0 c]).run P w = .ok v w := by
  rcases hown.2 with ⟨rfl, rfl⟩ | ⟨g, cap, cur, rfl, _, _, hnc, _⟩
  · simp [Builtin.append_, run_underlying ht, sizeOf, typeInfo, hi, Builtin.lenOf, Builtin.firstCells]
  · simp [Builtin.append_, run_underlying ht, sizeOf, typeInfo, hi, Builtin.lenOf, Builtin.firstCells, hnc, storeCells]
theorem wpList_append_opt {P : Program} {w : World} {ops : Array Oper} {rest : List Oper} {o : Oper} {a : Act} {Q : Exit → Act → World → Prop} (hgd : o.guard = none) (s x : Operand) (t : TypeId)
    (ho : o.op = .call { callee := .builtin .append, args := #[s, x], argTypes := #[t, t] })
    (base : Nat) (e : TypeId) (i : TypeInfo) (z : Value) (size bytes : Nat) (ht : P.underlying t = some (.slice e)) (hi : P.info? e = some i) (hz : i.zero = some z)
    (hsize : i.size = size) (hby : i.bytes = bytes) (hzs : z.cells.size = size) (hsz : 0 < size)
    (v : Value) (n : Nat) (xs : List Value) (hs : a.eval s = v) (hown : w.ownsRow base e size v n xs)
    (oa : Option Addr) (m c : Nat) (news : List Value) (hx : a.eval x = .slice oa m c) (h0 : oa = none → m = 0) (hl : news.length = m * size) (hnews : ∀ ad, oa = some ad → ∀ j u, news[j]? = some u → w.cell? (ad.add j) = some u) (h1 : ∀ u ∈ news, u.oneCell' = true)
    (h63 : n + m ≤ maxLen) (hbytes : (n + m) * bytes ≤ 140737488355328) (hbase : base ≤ w.heap.size)
    (h : ∀ v' w', w'.ownsRow base e size v' (n + m) (xs ++ news) → w.grownBy w' v.ownBlock → (v'.ownBlock = v.ownBlock ∨ v'.ownBlock = some w.heap.size) → wpList P ops Q rest (a.put o.dst v') w') :
    wpList P ops Q (o :: rest) a w := by
  cases oa with
  | some ad => exact wpList_append_own_at w hgd s x t ho base e i z size bytes ht hi hz hsize hby hzs hsz v n xs hs hown ad m c news hx hl (hnews ad rfl) h1 h63 hbytes hbase (fun v' w' h2 h3 _ h5 => h v' w' h2 h3 h5)
  | none =>
    obtain rfl := h0 rfl
    obtain rfl : news = [] := List.eq_nil_of_length_eq_zero (by rw [hl, Nat.zero_mul])
    refine wpList_plain hgd fun K hK => ?_
    have hrun := run_append_nil0 (P := P) (w := w) base t o.type e i size ht hi v n xs hown c
    unfold Oper.wp
    simp [execOp, ho, resolve, invoke, builtin, hs, hx, hrun, Result.andThen]
    exact hK _ _ (h v w (by simpa using hown) ⟨rfl, rfl, rfl, Nat.le_refl _, fun _ _ _ => rfl⟩ (.inl rfl))
/-- Likewise as a step of a drawn region. -/
theorem step_append_at {P : Program} {w : World} {ops : Array Oper} {o : Oper} {a : Act} {K : Act → World → Prop} {Q : Exit → Act → World → Prop} {E : Prop} (hgd : o.guard = none) (s x : Operand) (t : TypeId)
    (ho : o.op = .call { callee := .builtin .append, args := #[s, x], argTypes := #[t, t] })
    (base : Nat) (e : TypeId) (i : TypeInfo) (z : Value) (size bytes : Nat) (ht : P.underlying t = some (.slice e)) (hi : P.info? e = some i) (hz : i.zero = some z)
    (hsize : i.size = size) (hby : i.bytes = bytes) (hzs : z.cells.size = size) (hsz : 0 < size)
    (v : Value) (n : Nat) (xs : List Value) (hs : a.eval s = v) (hown : w.ownsRow base e size v n xs)
    (ad : Addr) (m c : Nat) (news : List Value) (hx : a.eval x = .slice (some ad) m c) (hl : news.length = m * size) (hnews : ∀ j u, news[j]? = some u → w.cell? (ad.add j) = some u) (h1 : ∀ u ∈ news, u.oneCell' = true)
    (h63 : n + m ≤ maxLen) (hbytes : (n + m) * bytes ≤ 140737488355328) (hbase : base ≤ w.heap.size) (H : Nat) (hH : w.heap.size = H)
    (h : ∀ v' w', w'.ownsRow base e size v' (n + m) (xs ++ news) → w.grownBy w' v.ownBlock → (v'.ownBlock = v.ownBlock ∨ v'.ownBlock = some H) → K (a.put o.dst v') w') :
    if Region.wanted o (yielded ops a.tmps) = true then Oper.wp P o a w K Q else E := by
  have hw : Region.wanted o (yielded ops a.tmps) = true := by simp [Region.wanted, hgd]
  rw [if_pos hw]
  obtain ⟨v', w', hr, h2, h3, _, h5⟩ := run_append_own_at (P := P) w base t o.type e i z size bytes ht hi hz hsize hby hzs hsz v n xs hown ad m c news hl hnews h1 h63 hbytes hbase
  unfold Oper.wp execOp
  simp only [ho, resolve, invoke, builtin, Sem.run_bind, Sem.run_pure, Result.andThen_ok, List.map_toArray, List.map_cons, List.map_nil, hs, hx, hr]
  subst hH
  exact h v' w' h2 h3 h5
/-- A new row of no element. -/
theorem own_empty (w : World) (base : Nat) (e : TypeId) (size : Nat) (hb : base ≤ w.heap.size) : (w.alloc (.cells #[] e)).ownsRow base e size (.slice (some ⟨w.heap.size, 0, none⟩) 0 0) 0 [] :=
  ⟨by simp, .inr ⟨w.heap.size, 0, #[], rfl, hb, heap_alloc_new w _, Nat.le_refl _, by unfold maxLen; omega, by simp, by simp⟩⟩
end Go.Proofs.Ytehpkhcjejlbpaa

namespace Go.Proofs.Ytehpkhcjejlbpaa
open Go.RowKit

set_option maxRecDepth 100000 in
set_option maxHeartbeats 2000000 in
theorem radd_any (v : Value) (fs : List Fn) (f : Fn) (w : World) (hv : Fus w v fs) (hf : FnOk f) (hs : f.1.size ≤ 100000) (hl : fs.length ≤ 1000) :
    Calls Try.prog 11 #[v, fnVal f] w (AddPost fs f w) := by
  obtain ⟨i0, hi, hz0, hz1, hz2⟩ := info_parts funInfo
  have AR := Lib.hid (fun (W : World) (h : Below w.heap.size w W) => rarity_any v fs f.1 W (hv.below h))
  have WD := Lib.hid (fun (W : World) => rword_any f.1 (by omega) W)
  obtain ⟨a, n, c, rfl⟩ : ∃ a n c, v = .slice a n c := by obtain ⟨a, c, h, _⟩ := hv; exact ⟨a, _, c, h⟩
  obtain ⟨rfl, hn0, hnl, hnew, hok⟩ := hv.news
  have HNEW := Lib.hid hnew
  have HNL := Lib.hid hnl
  have HN0 := Lib.hid hn0
  have hall : ∀ x ∈ fs ++ [f], FnOk x := fun x hx => by
    rcases List.mem_append.1 hx with hx | hx
    · exact hok x hx
    · rw [List.mem_singleton] at hx; rw [hx]; exact hf
  have HOK := Lib.hid hall
  have HONE := Lib.hid (fn_one f)
  have HROW1 := Lib.hid (rowFn_one' fs)
  clear hnew hnl hn0 hok hall hv
  obtain ⟨ys, yn⟩ := f
  have HP := Lib.hid (fun wr (h : Below (w.heap.size + 1) (w.alloc (.cells #[.string ys, .int .i64 yn] 24)) wr) => pair_after h)
  unfold fnVal
  simp only at AR WD HONE
  have hw0 : Below w.heap.size w (w.alloc (.cells #[.string ys, .int .i64 yn] 24)) := (Below.refl _ _).alloc (Nat.le_refl _) _
  have HW0 := Lib.hid hw0
  clear hw0
  cases hwd : wordB ys with
  | false =>
    rw [hwd] at WD
    have HE := Lib.hid (addE_arg (fs := fs) (f := (ys, yn)) (by unfold argOk; show (wordB ys && _) = false; rw [hwd]; rfl))
    clear hwd
    go_enter Try.func11, Try.ntmps11
    go_wp2_with fail
    refine (WD.out _).mono ?_; rintro e w1 ⟨rfl, hb1⟩
    have HB1 := Lib.hid (HW0.out.trans (hb1.mono (by simp)))
    obtain ⟨q0, q1, _, _⟩ := HP.out w1 (hb1.mono (by simp))
    clear hb1
    go_wp2_with fail
    go_ret2
    exact add_bad HE.out (by decide) HB1.out
  | true =>
    rw [hwd] at WD
    rcases Int.lt_or_le yn 0 with h0 | h0
    · have hd0 : decide (yn < 0) = true := decide_eq_true h0
      have HE := Lib.hid (addE_arg (fs := fs) (f := (ys, yn)) (by unfold argOk; show (wordB ys && (decide (0 ≤ yn) && decide (yn ≤ 6))) = false; rw [decide_eq_false (by omega)]; simp))
      clear hwd
      go_enter Try.func11, Try.ntmps11
      go_wp2_with fail
      refine (WD.out _).mono ?_; rintro e w1 ⟨rfl, hb1⟩
      have HB1 := Lib.hid (HW0.out.trans (hb1.mono (by simp)))
      have HBP := Lib.hid (hb1.mono (show w.heap.size + 1 ≤ (w.alloc (.cells #[.string ys, .int .i64 yn] 24)).heap.size by simp))
      have hs1 : w.heap.size + 1 ≤ w1.heap.size := by have := hb1.size; simpa using this
      obtain ⟨q0, q1, _, _⟩ := HP.out w1 HBP.out
      clear hb1
      go_wp2_with fail
      go_ret2
      exact add_bad HE.out (by decide) HB1.out
    have hd0 : decide (yn < 0) = false := decide_eq_false (by omega)
    rcases Int.lt_or_le 6 yn with h6 | h6
    · have hd6 : decide (6 < yn) = true := decide_eq_true h6
      have HE := Lib.hid (addE_arg (fs := fs) (f := (ys, yn)) (by unfold argOk; show (wordB ys && (decide (0 ≤ yn) && decide (yn ≤ 6))) = false; rw [decide_eq_false (show ¬ yn ≤ 6 by omega)]; simp))
      clear hwd
      go_enter Try.func11, Try.ntmps11
      go_wp2_with fail
      refine (WD.out _).mono ?_; rintro e w1 ⟨rfl, hb1⟩
      have HB1 := Lib.hid (HW0.out.trans (hb1.mono (by simp)))
      have HBP := Lib.hid (hb1.mono (show w.heap.size + 1 ≤ (w.alloc (.cells #[.string ys, .int .i64 yn] 24)).heap.size by simp))
      have hs1 : w.heap.size + 1 ≤ w1.heap.size := by have := hb1.size; simpa using this
      obtain ⟨q0, q1, _, _⟩ := HP.out w1 HBP.out
      clear hb1
      go_wp2_with fail
      go_ret2
      exact add_bad HE.out (by decide) HB1.out
    have hd6 : decide (6 < yn) = false := decide_eq_false (by omega)
    have HA := Lib.hid (show argOk (ys, yn) = true by unfold argOk; show (wordB ys && (decide (0 ≤ yn) && decide (yn ≤ 6))) = true; rw [hwd, decide_eq_true h0, decide_eq_true h6]; rfl)
    clear hwd
    cases har : arF fs ys with
    | some n =>
      rw [har] at AR
      have HE := Lib.hid (addE_twice (fs := fs) HA.out (by show (arF fs ys).isSome = true; rw [har]; rfl))
      clear har
      go_enter Try.func11, Try.ntmps11
      go_wp2_with fail
      refine (WD.out _).mono ?_; rintro e w1 ⟨rfl, hb1⟩
      have HB1 := Lib.hid (HW0.out.trans (hb1.mono (by simp)))
      have HBP := Lib.hid (hb1.mono (show w.heap.size + 1 ≤ (w.alloc (.cells #[.string ys, .int .i64 yn] 24)).heap.size by simp))
      have hs1 : w.heap.size + 1 ≤ w1.heap.size := by have := hb1.size; simpa using this
      obtain ⟨q0, q1, _, _⟩ := HP.out w1 HBP.out
      clear hb1
      go_wp2_with fail
      refine (AR.out _ HB1.out).mono ?_; rintro e w2 ⟨rfl, hb2⟩
      have HB2 := Lib.hid (below_next HB1.out hb2)
      clear hb2
      unfold arEnd
      go_wp2_with fail
      go_ret2
      exact add_bad HE.out (by decide) HB2.out
    | none =>
      rw [har] at AR
      have HAR := Lib.hid (show (arF fs ys).isSome = false by rw [har]; rfl)
      clear har
      by_cases h40 : 40 ≤ fs.length
      · have hd40 : decide (40 ≤ (fs.length : Int)) = true := decide_eq_true (by omega)
        have HE := Lib.hid (addE_long (fs := fs) (f := (ys, yn)) HA.out HAR.out h40)
        go_enter Try.func11, Try.ntmps11
        go_wp2_with fail
        refine (WD.out _).mono ?_; rintro e w1 ⟨rfl, hb1⟩
        have HB1 := Lib.hid (HW0.out.trans (hb1.mono (by simp)))
        have HBP := Lib.hid (hb1.mono (show w.heap.size + 1 ≤ (w.alloc (.cells #[.string ys, .int .i64 yn] 24)).heap.size by simp))
        have hs1 : w.heap.size + 1 ≤ w1.heap.size := by have := hb1.size; simpa using this
        obtain ⟨q0, q1, _, _⟩ := HP.out w1 HBP.out
        clear hb1
        go_wp2_with fail
        refine (AR.out _ HB1.out).mono ?_; rintro e w2 ⟨rfl, hb2⟩
        have HB2 := Lib.hid (below_next HB1.out hb2)
        clear hb2
        unfold arEnd
        go_wp2_with fail
        go_ret2
        exact add_bad HE.out (by decide) HB2.out
      · have hd40 : decide (40 ≤ (fs.length : Int)) = false := decide_eq_false (by omega)
        have HE := Lib.hid (addE_ok (fs := fs) (f := (ys, yn)) HA.out HAR.out h40)
        go_enter Try.func11, Try.ntmps11
        go_wp2_with fail
        refine (WD.out _).mono ?_; rintro e w1 ⟨rfl, hb1⟩
        have HB1 := Lib.hid (HW0.out.trans (hb1.mono (by simp)))
        have HBP := Lib.hid (hb1.mono (show w.heap.size + 1 ≤ (w.alloc (.cells #[.string ys, .int .i64 yn] 24)).heap.size by simp))
        have hs1 : w.heap.size + 1 ≤ w1.heap.size := by have := hb1.size; simpa using this
        obtain ⟨q0, q1, _, _⟩ := HP.out w1 HBP.out
        clear hb1
        go_wp2_with fail
        refine (AR.out _ HB1.out).mono ?_; rintro e w2 ⟨rfl, hb2⟩
        have HB2 := Lib.hid (below_next HB1.out hb2)
        have HBP2 := Lib.hid (HBP.out.trans (hb2.mono hs1))
        obtain ⟨q0, q1, _, _⟩ := HP.out w2 HBP2.out
        have HOWN := Lib.hid (World.ownsRow_nil w2 w2.heap.size 24 2)
        clear hb2
        unfold arEnd
        go_wp2_with (at_builtin; refine wpList_append_opt rfl _ _ 22 rfl w2.heap.size 24 i0 (.agg #[.string ⟨#[]⟩, .int .i64 0]) 2 24 Try.underlying22 hi hz0 hz1 hz2 rfl (by decide) _ 0 _ rfl HOWN.out a fs.length c (rowFn fs) rfl HN0.out HNL.out (HNEW.out _ HB2.out) HROW1.out ?ap3 ?ap4 ?ap5 ?_)
        case ap3 => unfold maxLen; omega
        case ap4 => omega
        case ap5 => exact Nat.le_refl _
        intro v3 w3 hown3 hgrow3 _
        have HB3 := Lib.hid (HB2.out.grown hgrow3 (by have := HB2.out.size; omega) (fun g e => by cases e))
        have hbp3 := HBP2.out.grown hgrow3 (by have := HBP2.out.size; simp at this; omega) (fun g e => by cases e)
        obtain ⟨q0, q1, _, _⟩ := HP.out w3 hbp3
        have hs3 : w2.heap.size ≤ w3.heap.size := hgrow3.size
        have HOWN3 := Lib.hid (own_below hown3 ((Below.refl _ _).alloc (Nat.le_refl _) (.cells #[.string ys, .int .i64 yn] 24)))
        have HR3 := Lib.hid (own_row_ge hown3)
        clear hown3 hgrow3 hbp3
        go_wp2_with (at_builtin; refine wpList_append_opt rfl _ _ 22 rfl w2.heap.size 24 i0 (.agg #[.string ⟨#[]⟩, .int .i64 0]) 2 24 Try.underlying22 hi hz0 hz1 hz2 rfl (by decide) _ fs.length _ rfl HOWN3.out (some ⟨w3.heap.size, 0, none⟩) 1 1 [.string ys, .int .i64 yn] rfl (fun e => by cases e) rfl (fun ad e => by cases e; exact new_row2 _ _ rfl _ _ _) HONE.out ?ap3 ?ap4 ?ap5 ?_)
        case ap3 => unfold maxLen; omega
        case ap4 => omega
        case ap5 => first | omega | (simp; omega)
        intro v4 w4 hown4 hgrow4 _
        have HB4 := Lib.hid ((HB3.out.alloc (by have := HB3.out.size; omega) _).grown hgrow4 (by have := HB3.out.size; simp; omega) (fun g e => by have := HR3.out g e; have := HB2.out.size; omega))
        have HF := Lib.hid (show Fus w4 v4 (fs ++ [(ys, yn)]) from OwnFn.fus (base := w2.heap.size) ⟨HOK.out, by rw [rowFn_append, rowFn_one, List.length_append]; exact hown4⟩ (by rw [List.length_append, List.length_singleton]; omega))
        clear hown4 hgrow4
        go_wp2_with fail
        go_ret2
        exact ⟨v4, by rw [HE.out]; rfl, by rw [addL_ok HE.out]; exact HF.out, HB4.out⟩
end Go.Proofs.Ytehpkhcjejlbpaa

namespace Go.Proofs.Ytehpkhcjejlbpaa
open Go.RowKit

/-- A function is not among the first k. -/
def NotFn (fs : List Fn) (f : Fn) (k : Nat) : Prop := ∀ j x, j < k → fs[j]? = some x → x ≠ f
theorem NotFn.succ {fs : List Fn} {f : Fn} {k : Nat} {x : Fn} (h : NotFn fs f k) (hk : fs[k]? = some x) (hx : x ≠ f) : NotFn fs f (k + 1) := by
  intro j y hj hy
  by_cases e : j = k
  · subst e; rw [hk] at hy; rw [← Option.some.inj hy]; exact hx
  · exact h j y (by omega) hy
theorem NotFn.all {fs : List Fn} {f : Fn} (h : NotFn fs f fs.length) : hasFn fs f = false := by
  refine @decide_eq_false _ (Classical.propDecidable _) fun hm => ?_
  obtain ⟨j, hj, e⟩ := List.getElem_of_mem hm
  exact h j _ hj (List.getElem?_eq_getElem hj) e
theorem hasFn_here {fs : List Fn} {f : Fn} {k : Nat} (hk : fs[k]? = some f) : hasFn fs f = true := by
  exact @decide_eq_true _ (Classical.propDecidable _) (List.mem_of_getElem? hk)

set_option maxRecDepth 100000 in
set_option maxHeartbeats 1000000 in
theorem rhas_any (v : Value) (fs : List Fn) (f : Fn) (w : World) (hv : Fus w v fs) :
    Calls Try.prog 27 #[v, fnVal f] w fun e w' => e = .returned (.bool (hasFn fs f)) ∧ Below w.heap.size w w' := by
  obtain ⟨a, c, rfl, hl, hrow⟩ := hv
  have HR := Lib.hid hrow
  clear hrow
  obtain ⟨ys, yn⟩ := f
  unfold fnVal
  have p0 : ∀ wr, Below (w.heap.size + 1) (w.alloc (.cells #[.string ys, .int .i64 yn] 24)) wr → Pair wr w.heap.size (.string ys) (.int .i64 yn) := fun wr h => pair_after h
  have HP := Lib.hid p0
  clear p0
  go_enter Try.func27, Try.ntmps27
  go_wp2_with fail
  go_loopw [9] (fun i wr => ∃ k : Nat, k ≤ fs.length ∧ i = .int .i64 k ∧ Hid (NotFn fs (ys, yn) k) ∧ Below (w.heap.size + 1) (w.alloc (.cells #[.string ys, .int .i64 yn] 24)) wr) (fun i _ => fs.length - (intOf i).toNat)
  case atStart => exact ⟨0, Nat.zero_le _, rfl, Lib.hid (fun j x hj => by omega), Below.refl _ _⟩
  case round =>
    obtain ⟨k, hk, rfl, HN, hb⟩ := hrel
    have hbb := below_pair hb
    obtain ⟨q0, q1, _, _⟩ := HP.out wr hb
    have hbs : w.heap.size + 1 ≤ wr.heap.size := by have := hb.size; simpa using this
    have hbs1 : w.heap.size < wr.heap.size := by omega
    have hbs2 : w.heap.size < wr.heap.size + 1 := by omega
    by_cases hkl : k < fs.length
    · obtain ⟨b, o, rfl, hlt, hat⟩ := HR.out.resolve_left (by intro h; rw [h] at hkl; simp at hkl)
      obtain ⟨x, hx⟩ : ∃ x, fs[k]? = some x := ⟨_, List.getElem?_eq_getElem hkl⟩
      have hA := hat k x hx
      have m0 := (hbb.cell (p := ⟨b, o + k * 2, none⟩) hlt).trans hA.c0
      have m1 := (hbb.cell (p := ⟨b, o + k * 2 + 1, none⟩) hlt).trans hA.c1
      have hk0 : (0 : Int) ≤ (k : Int) := by omega
      have hk1 : (k : Int) < (fs.length : Int) := by omega
      have HX := Lib.hid hx
      clear hat hx hA
      obtain ⟨xs, xn⟩ := x
      simp only at m0 m1
      have HE := Lib.hid (show (xs, xn) = (ys, yn) ↔ ((xs.toList == ys.toList) = true ∧ (xn == yn) = true) by rw [toList_iff, beq_iff_eq, Prod.mk.injEq])
      cases he : (xs.toList == ys.toList) with
      | true =>
        cases hn : (xn == yn) with
        | true =>
          have HG := Lib.hid (show hasFn fs (ys, yn) = true from hasFn_here (k := k) (by rw [HX.out, HE.out.2 ⟨he, hn⟩]))
          go_wp2_with fail
          go_ret
          exact ⟨ret_bool HG.out.symm, hbb.alloc (by omega) _⟩
        | false =>
          have HNN := Lib.hid (HN.out.succ HX.out (fun e => by have := HE.out.1 e; rw [hn] at this; cases this.2))
          go_wp2_with fail
          go_roundw
          case rel => exact ⟨k + 1, by omega, by go_num, HNN, hb.alloc (by omega) _⟩
          case measure => simp [intOf]; omega
      | false =>
        have HNN := Lib.hid (HN.out.succ HX.out (fun e => by have := HE.out.1 e; rw [he] at this; cases this.1))
        go_wp2_with fail
        go_roundw
        case rel => exact ⟨k + 1, by omega, by go_num, HNN, hb.alloc (by omega) _⟩
        case measure => simp [intOf]; omega
    · have hke : k = fs.length := by omega
      have HG := Lib.hid (show hasFn fs (ys, yn) = false from (show NotFn fs (ys, yn) fs.length by have h := HN.out; rw [hke] at h; exact h).all)
      clear hke
      go_wp2_with fail
      go_ret
      exact ⟨ret_bool HG.out.symm, hbb⟩
end Go.Proofs.Ytehpkhcjejlbpaa
