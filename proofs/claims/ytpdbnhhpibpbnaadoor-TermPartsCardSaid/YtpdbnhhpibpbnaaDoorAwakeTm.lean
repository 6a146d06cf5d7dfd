/-
  Chapter 3's example, walked, from what the program's functions answer.
-/
import Derived.Test.YtpdbnhhpibpbnaaDoorFunTm
import Derived.Test.YtpdbnhhpibpbnaaDoorShowTm
import Derived.Test.YtpdbnhhpibpbnaaDoorVarsTm
import Derived.Test.YtpdbnhhpibpbnaaDoorInTm
import Derived.Test.YtpdbnhhpibpbnaaDoorAfter
namespace Go.Proofs.YtpdbnhhpibpbnaaDoor
open Go.RowKit

/-- Two terms in a new row. -/
theorem tms_two (w : World) (x y : Tv) (hx : x.ok w) (hy : y.ok w) (t : TypeId) :
    Tms (w.alloc (.cells #[.int .i64 x.t.kind, .string x.t.name, .int .i64 x.t.n, .slice x.a x.t.args.length x.c, .int .i64 y.t.kind, .string y.t.name, .int .i64 y.t.n, .slice y.a y.t.args.length y.c] t)) (.slice (some ⟨w.heap.size, 0, none⟩) 2 2) [x.t, y.t] := by
  have hb : Below w.heap.size w (w.alloc (.cells #[.int .i64 x.t.kind, .string x.t.name, .int .i64 x.t.n, .slice x.a x.t.args.length x.c, .int .i64 y.t.kind, .string y.t.name, .int .i64 y.t.n, .slice y.a y.t.args.length y.c] t)) := (Below.refl _ _).alloc (Nat.le_refl _) _
  refine ⟨_, 2, rfl, by simp, .inr ⟨w.heap.size, 0, rfl, by simp, ?_⟩⟩
  rw [RowAt, RowAt, RowAt]
  have c := World.cell?_alloc_mark w #[.int .i64 x.t.kind, .string x.t.name, .int .i64 x.t.n, .slice x.a x.t.args.length x.c, .int .i64 y.t.kind, .string y.t.name, .int .i64 y.t.n, .slice y.a y.t.args.length y.c] t (0, 0)
  exact ⟨tv_tmAt (hx.below hb) ⟨c 0, c 1, c 2, c 3⟩, tv_tmAt (hy.below hb) ⟨c 4, c 5, c 6, c 7⟩, trivial⟩
def tX : Tm := .mk 1 ⟨#[120]⟩ 0 []
def tK : Tm := .mk 5 ⟨#[107]⟩ 0 []
def tF : Tm := .mk 5 ⟨#[102]⟩ 0 [tX, tK]
theorem tX_ok (w : World) : Tv.ok w ⟨tX, none, 0⟩ := by
  refine ⟨⟨?_, ?_, ?_, ?_, ?_⟩, ?_, .inl rfl⟩ <;> decide
theorem tF_show : (⟨(showT tF).toArray⟩ : ByteArray) = ⟨#[102, 40, 120, 44, 32, 107, 41]⟩ := by
  have : showT tF = [102, 40, 120, 44, 32, 107, 41] := by decide
  rw [this]
theorem tF_parts : tF.parts = 3 := by decide
theorem tF_depth : tF.depth = 2 := by decide
theorem tF_has : inT tF.all tX = true := in_here (k := 1) (by decide) (by rfl)
theorem tF_vars : tF.vars.isEmpty = false := by decide

set_option maxRecDepth 100000 in
set_option maxHeartbeats 4000000 in
theorem awake_of (w : World)
    (PVAR : ∀ (s : ByteArray) (w : World), Calls Tryd.prog 34 #[.string s] w fun e w' => e = .returned (.agg #[.int .i64 1, .string s, .int .i64 0, .slice none 0 0]) ∧ Below w.heap.size w w')
    (PFUN : ∀ (s : ByteArray) (v : Value) (ts : List Tm) (w : World), s.size ≤ 1000 → Tms w v ts → ts.length ≤ 100 →
      Calls Tryd.prog 33 #[.string s, v] w fun e w' => ∃ x : Tv, e = .returned x.val ∧ x.t = .mk 5 s 0 ts ∧ x.ok w' ∧ Below w.heap.size w w')
    (PSHOW : ∀ (x : Tv) (w' : World), Below w.heap.size w w' → x.ok w' → x.t.parts ≤ 700 → wtT x.t ≤ 1000000 →
      Calls Tryd.prog 35 #[x.val] w' fun e w'' => e = .returned (.string ⟨(showT x.t).toArray⟩) ∧ Below w'.heap.size w' w'')
    (PSIZE : ∀ (x : Tv) (w : World), x.ok w → x.t.parts ≤ 300 →
      Calls Tryd.prog 12 #[x.val] w fun e w' => e = .returned (.int .i64 x.t.parts) ∧ Below w.heap.size w w')
    (PDEPTH : ∀ (x : Tv) (w : World), x.ok w → x.t.parts ≤ 300 →
      Calls Tryd.prog 13 #[x.val] w fun e w' => e = .returned (.int .i64 x.t.depth) ∧ Below w.heap.size w w')
    (PHAS : ∀ (x y : Tv) (w : World), x.ok w → y.ok w → x.t.parts ≤ 300 → y.t.parts ≤ 300 →
      Calls Tryd.prog 29 #[x.val, y.val] w fun e w' => e = .returned (.bool (inT x.t.all y.t)) ∧ Below w.heap.size w w')
    (PGROUND : ∀ (x : Tv) (w : World), x.ok w → x.t.parts ≤ 300 →
      Calls Tryd.prog 28 #[x.val] w fun e w' => e = .returned (.bool x.t.vars.isEmpty) ∧ Below w.heap.size w w')
    :
    Calls Tryd.prog 8 #[] w fun e w' => e = .returned (.bool true) ∧ Below w.heap.size w w' := by
  have V := Lib.hid PVAR
  have F := Lib.hid PFUN
  have P1 := Lib.hid PSHOW
  have P2 := Lib.hid PSIZE
  have P3 := Lib.hid PDEPTH
  have P4 := Lib.hid PHAS
  have P5 := Lib.hid PGROUND
  clear PVAR PFUN PSHOW PSIZE PDEPTH PHAS PGROUND
  go_enter Tryd.func8, Tryd.ntmps8
  go_wp2_with fail
  refine (V.out _ _).mono ?_; rintro e w1 ⟨rfl, hb1⟩
  go_wp2_with fail
  refine (F.out _ _ [] _ (by decide) (Tms.none_ _ _ _) (by simp)).mono ?_; rintro e w2 ⟨⟨t2, a2, c2⟩, rfl, ht2, hk2, hb2⟩
  simp only at ht2
  subst ht2
  replace hb1 := below_next hb1 hb2
  clear hb2
  simp only [Tv.val, Tm.kind, Tm.name, Tm.n, Tm.args]
  go_wp2_with fail
  have hm := tms_two w2 ⟨tX, none, 0⟩ ⟨tK, a2, c2⟩ (tX_ok _) hk2 24
  refine (F.out _ _ [tX, tK] _ (by decide) hm (by simp)).mono ?_; rintro e w3 ⟨⟨t3, a3, c3⟩, rfl, ht3, hk3, hb3⟩
  simp only at ht3
  subst ht3
  replace hb1 := (hb1.alloc hb1.size _).trans (hb3.mono (by have := hb1.size; simp; omega))
  clear hb3 hm hk2
  have Q1 := Lib.hid (fun w' hb h => P1.out ⟨tF, a3, c3⟩ w' hb h (show tF.parts ≤ 700 by decide) (show wtT tF ≤ 1000000 by decide))
  have Q2 := Lib.hid (fun w h => P2.out ⟨tF, a3, c3⟩ w h (show tF.parts ≤ 300 by decide))
  have Q3 := Lib.hid (fun w h => P3.out ⟨tF, a3, c3⟩ w h (show tF.parts ≤ 300 by decide))
  have Q4 := Lib.hid (fun w h => P4.out ⟨tF, a3, c3⟩ ⟨tX, none, 0⟩ w h (tX_ok _) (show tF.parts ≤ 300 by decide) (by decide))
  have Q5 := Lib.hid (fun w h => P5.out ⟨tF, a3, c3⟩ w h (show tF.parts ≤ 300 by decide))
  simp only at Q1 Q2 Q3 Q4 Q5
  rw [tF_show] at Q1
  rw [tF_parts] at Q2
  rw [tF_depth] at Q3
  rw [tF_has] at Q4
  rw [tF_vars] at Q5
  simp only [Tv.val, Tm.kind, Tm.name, Tm.n, Tm.args, tF, tX, tK] at Q1 Q2 Q3 Q4 Q5 ⊢
  clear P1 P2 P3 P4 P5
  go_wp2_with fail
  have hbx := box_new w3 (.int .i64 5) (.string ⟨#[102]⟩) (.int .i64 0) (.slice a3 2 c3) 24
  have hb0 := hb1.alloc hb1.size (.cells #[.int .i64 5, .string ⟨#[102]⟩, .int .i64 0, .slice a3 2 c3] 24)
  have hk4 := hk3.below ((Below.refl w3.heap.size w3).alloc (Nat.le_refl _) (.cells #[.int .i64 5, .string ⟨#[102]⟩, .int .i64 0, .slice a3 2 c3] 24))
  have hz : w3.heap.size < (w3.alloc (.cells #[.int .i64 5, .string ⟨#[102]⟩, .int .i64 0, .slice a3 2 c3] 24)).heap.size := by simp
  obtain ⟨wb, hwb⟩ : ∃ wb, wb = w3.alloc (.cells #[.int .i64 5, .string ⟨#[102]⟩, .int .i64 0, .slice a3 2 c3] 24) := ⟨_, rfl⟩
  simp only [List.length_cons, List.length_nil, Nat.zero_add, Nat.reduceAdd] at *
  rw [← hwb] at hbx hb0 hk4 hz ⊢
  clear hwb
  have HB := Lib.hid (Below.refl wb.heap.size wb)
  have HXB := Lib.hid (fun p : After wb => hk4.below p.below)
  have HWB := Lib.hid (fun p : After wb => below_next hb0 p.below)
  have F0 := fun p : After wb => (hbx.below p.below hz).c0
  have F1 := fun p : After wb => (hbx.below p.below hz).c1
  have F2 := fun p : After wb => (hbx.below p.below hz).c2
  have F3 := fun p : After wb => (hbx.below p.below hz).c3
  refine wp_region_after HB.out (by kernel_rfl) (by kernel_rfl) ?_
  repeat (quiet_step ((first | (go_at_call 35; exact after_call (Q1.out _ (HWB.out _) (HXB.out _))) | (go_at_call 12; exact after_call (Q2.out _ (HXB.out _))) | (go_at_call 13; exact after_call (Q3.out _ (HXB.out _))) | (go_at_call 34; exact after_call (V.out _ _)) | (go_at_call 29; exact after_call (Q4.out _ (HXB.out _))) | (go_at_call 28; exact after_call (Q5.out _ (HXB.out _))))))
  refine wpQuiet_nil ?_
  intro _ hw'
  obtain ⟨⟨wq, hbq⟩, hw''⟩ := hw'
  subst hw''
  go_wp2_with fail
  go_ret
  exact ⟨rfl, hb0.trans (hbq.mono hb0.size)⟩
end Go.Proofs.YtpdbnhhpibpbnaaDoor
