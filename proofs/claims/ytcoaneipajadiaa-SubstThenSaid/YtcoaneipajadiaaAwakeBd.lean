/-
  The chapter's example of layer 5: awake, by the program's Apply.
-/
import Derived.Test.YtcoaneipajadiaaPApply
import Derived.Test.YtcoaneipajadiaaShowTm
import Derived.Test.YtcoaneipajadiaaFunTm
namespace Go.Proofs.Ytcoaneipajadiaa
open Go.RowKit

theorem tms_two5 (w : World) (x y : Tv) (hx : x.ok w) (hy : y.ok w) (t : TypeId) :
    Tms (w.alloc (.cells #[.int .i64 x.t.kind, .string x.t.name, .int .i64 x.t.n, .slice x.a x.t.args.length x.c, .int .i64 y.t.kind, .string y.t.name, .int .i64 y.t.n, .slice y.a y.t.args.length y.c] t)) (.slice (some ⟨w.heap.size, 0, none⟩) 2 2) [x.t, y.t] := by
  have hb : Below w.heap.size w (w.alloc (.cells #[.int .i64 x.t.kind, .string x.t.name, .int .i64 x.t.n, .slice x.a x.t.args.length x.c, .int .i64 y.t.kind, .string y.t.name, .int .i64 y.t.n, .slice y.a y.t.args.length y.c] t)) := (Below.refl _ _).alloc (Nat.le_refl _) _
  refine ⟨_, 2, rfl, by simp, .inr ⟨w.heap.size, 0, rfl, by simp, ?_⟩⟩
  rw [RowAt, RowAt, RowAt]
  have c := World.cell?_alloc_mark w #[.int .i64 x.t.kind, .string x.t.name, .int .i64 x.t.n, .slice x.a x.t.args.length x.c, .int .i64 y.t.kind, .string y.t.name, .int .i64 y.t.n, .slice y.a y.t.args.length y.c] t (0, 0)
  exact ⟨tv_tmAt (hx.below hb) ⟨c 0, c 1, c 2, c 3⟩, tv_tmAt (hy.below hb) ⟨c 4, c 5, c 6, c 7⟩, trivial⟩
def aX : Tm := .mk 1 ⟨#[120]⟩ 0 []
def aY : Tm := .mk 1 ⟨#[121]⟩ 0 []
def aK : Tm := .mk 5 ⟨#[107]⟩ 0 []
def aF : Tm := .mk 5 ⟨#[102]⟩ 0 [aX, aY]
def aG : Tm := .mk 5 ⟨#[102]⟩ 0 [aK, aY]
theorem aX_ok (w : World) : Tv.ok w ⟨aX, none, 0⟩ := by
  refine ⟨⟨?_, ?_, ?_, ?_, ?_⟩, ?_, .inl rfl⟩ <;> decide
theorem aY_ok (w : World) : Tv.ok w ⟨aY, none, 0⟩ := by
  refine ⟨⟨?_, ?_, ?_, ?_, ?_⟩, ?_, .inl rfl⟩ <;> decide
theorem aK_ok (w : World) : Tv.ok w ⟨aK, none, 0⟩ := by
  refine ⟨⟨?_, ?_, ?_, ?_, ?_⟩, ?_, .inl rfl⟩ <;> decide
theorem aF_fit : Fit aF.kind aF.name aF.n := by refine ⟨?_, ?_, ?_, ?_, ?_⟩ <;> decide
theorem aF_small : aF.parts ≤ 100000 := by decide
theorem aX_put : appT [(⟨#[120]⟩, aK)] aX = aK := by
  unfold aX; rw [appT, if_pos rfl, getB_hit _ _ rfl]
theorem aY_put : appT [(⟨#[120]⟩, aK)] aY = aY := by
  unfold aY; rw [appT, if_pos rfl, getB_miss _ _ (by decide), getB_nil, appL]
theorem aF_put : appT [(⟨#[120]⟩, aK)] aF = aG := by
  unfold aF; rw [appT, if_neg (by decide), appL, appL, appL, aX_put, aY_put]; rfl
theorem aG_show : (⟨(showT aG).toArray⟩ : ByteArray) = ⟨#[102, 40, 107, 44, 32, 121, 41]⟩ := by
  have : showT aG = [102, 40, 107, 44, 32, 121, 41] := by decide
  rw [this]
theorem aG_small : aG.parts ≤ 3 ∧ wtT aG ≤ 100000000 := by constructor <;> decide

/-- One bind in a new row. -/
theorem bds_one (w : World) (s : ByteArray) (x : Tv) (hs : s.size ≤ 9223372036854775807) (hx : x.ok w) : Bds (w.alloc (.cells #[.string s, .int .i64 x.t.kind, .string x.t.name, .int .i64 x.t.n, .slice x.a x.t.args.length x.c] 50)) (.slice (some ⟨w.heap.size, 0, none⟩) 1 1) [(s, x.t)] :=
  bds_own (w0 := w) (own_one5 w ⟨s, x⟩ w.heap.size (Nat.le_refl _)) rfl (fun y hy => by rw [List.mem_singleton] at hy; subst hy; exact ⟨hx, hs⟩) ((Below.refl _ _).alloc (Nat.le_refl _) _) (by omega)

/-- No cells from the fifth one on. -/
def NoMore (w : World) (g : Nat) : Prop := ∀ j, 4 ≤ j → w.cell? ⟨g, j, none⟩ = none
theorem nm_new (w : World) (a b c d : Value) (t : TypeId) : NoMore (w.alloc (.cells #[a, b, c, d] t)) w.heap.size := fun j hj => by
  refine (World.cell?_alloc_mark w #[a, b, c, d] t (0, 0) j).trans ?_
  simp; omega
theorem nm_below {w w' : World} {g : Nat} (h : NoMore w g) (hb : Below w.heap.size w w') (hg : g < w.heap.size) : NoMore w' g := fun j hj => by
  rw [hb.cell (p := ⟨g, j, none⟩) hg]; exact h j hj
theorem ok_none {w W : World} {v : Tv} (h : v.ok w) (hv : v.t.args = []) : v.ok W := by
  refine ⟨h.1, ?_⟩
  rw [hv]
  exact ⟨by simp, .inl rfl⟩
/-- A call's two arguments lie beside a box. -/
theorem two_far {w W : World} {a : Option Addr} {c g : Nat} (h : Tv.ok w ⟨aG, a, c⟩) (hn : NoMore w g) (hs : W.heap.size = w.heap.size)
    (hf : ∀ b q, b ≠ g → W.cell? ⟨b, q, none⟩ = w.cell? ⟨b, q, none⟩) : Tv.ok W ⟨aG, a, c⟩ := by
  refine ⟨h.1, h.2.1, ?_⟩
  rcases h.2.2 with h | ⟨b, o, ha, hlt, hr⟩
  · cases h
  · refine .inr ⟨b, o, ha, by rw [hs]; exact hlt, ?_⟩
    obtain ⟨u, hu, huo, ⟨c0, c1, c2, c3⟩⟩ := tmAt_tv (rowAt_get hr (j := 0) (Nat.succ_pos _))
    obtain ⟨v, hv, hvo, ⟨d0, d1, d2, d3⟩⟩ := tmAt_tv (rowAt_get hr (j := 1) (Nat.lt_succ_self _))
    have hb : b ≠ g := fun e => by
      subst e
      rw [hn _ (by omega)] at d0; cases d0
    have e0 : u.t = aK := hu
    have e1 : v.t = aY := hv
    show RowAt W [aK, aY] b o
    rw [RowAt, RowAt, RowAt, ← e0, ← e1]
    refine ⟨tv_tmAt (ok_none huo (by rw [e0]; rfl)) ⟨(hf _ _ hb).trans c0, (hf _ _ hb).trans c1, (hf _ _ hb).trans c2, (hf _ _ hb).trans c3⟩, tv_tmAt (ok_none hvo (by rw [e1]; rfl)) ⟨(hf _ _ hb).trans d0, (hf _ _ hb).trans d1, (hf _ _ hb).trans d2, (hf _ _ hb).trans d3⟩, trivial⟩
theorem two_sets {w : World} {a : Option Addr} {c g : Nat} (h : Tv.ok w ⟨aG, a, c⟩) (hn : NoMore w g) (i0 i1 i2 i3 : Nat) (u0 u1 u2 u3 : Value) :
    Tv.ok ((((w.setCell ⟨g, i0, none⟩ u0).setCell ⟨g, i1, none⟩ u1).setCell ⟨g, i2, none⟩ u2).setCell ⟨g, i3, none⟩ u3) ⟨aG, a, c⟩ :=
  two_far h hn (by simp) (fun b q hq => by
    have e : ∀ i, (⟨g, i, none⟩ : Addr) ≠ ⟨b, q, none⟩ := fun i h => hq (congrArg Addr.block h).symm
    rw [World.cell?_setCell_other (h := e i3), World.cell?_setCell_other (h := e i2), World.cell?_setCell_other (h := e i1), World.cell?_setCell_other (h := e i0)])

set_option maxRecDepth 100000 in
set_option maxHeartbeats 4000000 in
theorem awake_bd (w : World) : Calls Try.prog 8 #[] w fun e w' => e = .returned (.bool true) ∧ Below w.heap.size w w' := by
  have V := Lib.hid (fun (s : ByteArray) (W : World) => rvar_any s W)
  have F := Lib.hid (fun (s : ByteArray) (a : Option Addr) (l c : Nat) (W : World) => rfun_any s a l c W)
  go_enter Try.func8, Try.ntmps8
  go_wp2_with fail
  refine (V.out _ _).mono ?_; rintro e w1 ⟨rfl, hb1⟩
  go_wp2_with fail
  refine (V.out _ _).mono ?_; rintro e w2 ⟨rfl, hb2⟩
  have hm := tms_two5 w2 ⟨aX, none, 0⟩ ⟨aY, none, 0⟩ (aX_ok _) (aY_ok _) 25
  simp only [aX, aY, Tm.kind, Tm.name, Tm.n, Tm.args, List.length_nil] at hm
  have hbA := (hb1.trans (hb2.mono hb1.size)).alloc (by have := hb1.size; have := hb2.size; omega) (.cells #[.int .i64 1, .string ⟨#[120]⟩, .int .i64 0, .slice none 0 0, .int .i64 1, .string ⟨#[121]⟩, .int .i64 0, .slice none 0 0] 25)
  go_wp2_with fail
  refine (F.out _ _ _ _ _).mono ?_; rintro e w3 ⟨rfl, hb3⟩
  have hbB := hbA.trans (hb3.mono hbA.size)
  have hm3 := hm.below hb3
  obtain ⟨a3, c3, e3, hargs⟩ := hm3
  obtain ⟨rfl, rfl⟩ : a3 = some ⟨w2.heap.size, 0, none⟩ ∧ c3 = 2 := by cases e3; exact ⟨rfl, rfl⟩
  have hF3 : Tv.ok w3 ⟨aF, some ⟨w2.heap.size, 0, none⟩, 2⟩ := ⟨aF_fit, hargs⟩
  obtain ⟨g3, hg3⟩ : ∃ g3, w2.heap.size = g3 := ⟨_, rfl⟩
  rw [hg3] at hF3 ⊢
  have hbx := box_new w3 (.int .i64 5) (.string ⟨#[102]⟩) (.int .i64 0) (.slice (some ⟨g3, 0, none⟩) 2 2) 25
  have hBx : Below w3.heap.size w3 (w3.alloc (.cells #[.int .i64 5, .string ⟨#[102]⟩, .int .i64 0, .slice (some ⟨g3, 0, none⟩) 2 2] 25)) := (Below.refl _ _).alloc (Nat.le_refl _) _
  have hz3 : (w3.alloc (.cells #[.int .i64 5, .string ⟨#[102]⟩, .int .i64 0, .slice (some ⟨g3, 0, none⟩) 2 2] 25)).heap.size = w3.heap.size + 1 := by simp
  obtain ⟨wb, hwb⟩ : ∃ wb, wb = w3.alloc (.cells #[.int .i64 5, .string ⟨#[102]⟩, .int .i64 0, .slice (some ⟨g3, 0, none⟩) 2 2] 25) := ⟨_, rfl⟩
  rw [← hwb] at hbx hBx hz3
  have HBX := Lib.hid (fun (W : World) (h : Below wb.heap.size wb W) => hbx.below h (by omega))
  have hFb := hF3.below hBx
  have hbW := hbB.trans (hBx.mono hbB.size)
  have hd : Below wb.heap.size wb wb.drew := (Below.refl _ _).drew
  have F2 := Lib.hid ((rfun_any ⟨#[107]⟩ none 0 0 wb.drew).mono (fun e w4 ⟨he, hb⟩ => (show e = Ending.returned (.agg #[.int .i64 5, .string ⟨#[107]⟩, .int .i64 0, .slice none 0 0]) ∧ Below wb.heap.size wb w4 from ⟨he, hd.trans hb⟩)))
  have hd2 : Below wb.heap.size wb (wb.alloc (.cells #[.int .i64 0, .string ⟨#[]⟩, .int .i64 0, .slice none 0 0] 25)).drew := ((Below.refl _ _).alloc (Nat.le_refl _) _).drew
  have hzb : Box (wb.alloc (.cells #[.int .i64 0, .string ⟨#[]⟩, .int .i64 0, .slice none 0 0] 25)).drew wb.heap.size (.int .i64 0) (.string ⟨#[]⟩) (.int .i64 0) (.slice none 0 0) := (box_new wb (.int .i64 0) (.string ⟨#[]⟩) (.int .i64 0) (.slice none 0 0) 25).below (B := (wb.alloc (.cells #[.int .i64 0, .string ⟨#[]⟩, .int .i64 0, .slice none 0 0] 25)).heap.size) (Below.refl _ _).drew (by simp)
  have hnm : NoMore (wb.alloc (.cells #[.int .i64 0, .string ⟨#[]⟩, .int .i64 0, .slice none 0 0] 25)).drew wb.heap.size := nm_below (nm_new wb _ _ _ _ _) (Below.refl _ _).drew (by simp)
  have F3 := Lib.hid ((rfun_any ⟨#[107]⟩ none 0 0 (wb.alloc (.cells #[.int .i64 0, .string ⟨#[]⟩, .int .i64 0, .slice none 0 0] 25)).drew).mono (fun e w4 ⟨he, hb⟩ => (show e = Ending.returned (.agg #[.int .i64 5, .string ⟨#[107]⟩, .int .i64 0, .slice none 0 0]) ∧ Below wb.heap.size wb w4 ∧ Box w4 wb.heap.size (.int .i64 0) (.string ⟨#[]⟩) (.int .i64 0) (.slice none 0 0) ∧ NoMore w4 wb.heap.size from ⟨he, hd2.trans (hb.mono hd2.size), hzb.below hb (by show wb.heap.size < (wb.alloc (.cells #[.int .i64 0, .string ⟨#[]⟩, .int .i64 0, .slice none 0 0] 25)).heap.size; simp), nm_below hnm hb (by show wb.heap.size < (wb.alloc (.cells #[.int .i64 0, .string ⟨#[]⟩, .int .i64 0, .slice none 0 0] 25)).heap.size; simp)⟩)))
  have APG := Lib.hid (fun (W : World) (N : Nat) (h : Below wb.heap.size wb W) (hB : Bds W (.slice (some ⟨N, 0, none⟩) 1 1) [(⟨#[120]⟩, aK)]) => (show Calls Try.prog 22 #[.slice (some ⟨N, 0, none⟩) 1 1, .agg #[.int .i64 5, .string ⟨#[102]⟩, .int .i64 0, .slice (some ⟨g3, 0, none⟩) 2 2]] W (fun e w' => ∃ (aZ : Option Addr) (cZ : Nat), e = Ending.returned (.agg #[.int .i64 5, .string ⟨#[102]⟩, .int .i64 0, .slice aZ 2 cZ]) ∧ Tv.ok w' ⟨aG, aZ, cZ⟩ ∧ Below W.heap.size W w') from
    (apply_bd _ [(⟨#[120]⟩, aK)] ⟨aF, some ⟨g3, 0, none⟩, 2⟩ W W hB (by simp) (hFb.below h) aF_small (Below.refl _ _)).mono (fun e w' ⟨⟨zt, za, zc⟩, he, h1, h2, h3⟩ => by
      rw [aF_put] at h1
      simp only at h1
      subst h1
      exact ⟨za, zc, he, h2.ok h3, h3⟩)))
  have AP1 := Lib.hid (fun (W : World) (h : Below wb.heap.size wb W) => (APG.out (W.alloc (.cells #[.string ⟨#[120]⟩, .int .i64 5, .string ⟨#[107]⟩, .int .i64 0, .slice none 0 0] 50)) W.heap.size (h.alloc h.size _) (bds_one W ⟨#[120]⟩ ⟨aK, none, 0⟩ (by decide) (aK_ok _))).mono (fun e w' ⟨aZ, cZ, he, ho, hb⟩ => (show ∃ (aZ : Option Addr) (cZ : Nat), e = Ending.returned (.agg #[.int .i64 5, .string ⟨#[102]⟩, .int .i64 0, .slice aZ 2 cZ]) ∧ Tv.ok w' ⟨aG, aZ, cZ⟩ ∧ Below W.heap.size W w' from ⟨aZ, cZ, he, ho, below_box hb⟩)))
  have AP2 := Lib.hid (fun (W : World) (h : Below wb.heap.size wb W) => (APG.out ((W.alloc (.cells #[.string ⟨#[120]⟩, .int .i64 5, .string ⟨#[107]⟩, .int .i64 0, .slice none 0 0] 50)).alloc (.cells #[.int .i64 0, .string ⟨#[]⟩, .int .i64 0, .slice none 0 0] 25)) W.heap.size ((h.alloc h.size _).alloc (by simp; exact Nat.le_succ_of_le h.size) _) ((bds_one W ⟨#[120]⟩ ⟨aK, none, 0⟩ (by decide) (aK_ok _)).below ((Below.refl _ _).alloc (Nat.le_refl _) _))).mono (fun e w' ⟨aZ, cZ, he, ho, hb⟩ => (show ∃ (aZ : Option Addr) (cZ : Nat), e = Ending.returned (.agg #[.int .i64 5, .string ⟨#[102]⟩, .int .i64 0, .slice aZ 2 cZ]) ∧ Tv.ok w' ⟨aG, aZ, cZ⟩ ∧ Below W.heap.size W w' ∧ Box w' (W.heap.size + 1) (.int .i64 0) (.string ⟨#[]⟩) (.int .i64 0) (.slice none 0 0) ∧ NoMore w' (W.heap.size + 1) from ⟨aZ, cZ, he, ho, below_box (below_box hb), (alloc_two W (.cells #[.string ⟨#[120]⟩, .int .i64 5, .string ⟨#[107]⟩, .int .i64 0, .slice none 0 0] 50) (.int .i64 0) (.string ⟨#[]⟩) (.int .i64 0) (.slice none 0 0) 25).below hb (by simp), nm_below (by have := nm_new (W.alloc (.cells #[.string ⟨#[120]⟩, .int .i64 5, .string ⟨#[107]⟩, .int .i64 0, .slice none 0 0] 50)) (.int .i64 0) (.string ⟨#[]⟩) (.int .i64 0) (.slice none 0 0) 25; rwa [show (W.alloc (.cells #[.string ⟨#[120]⟩, .int .i64 5, .string ⟨#[107]⟩, .int .i64 0, .slice none 0 0] 50)).heap.size = W.heap.size + 1 by simp] at this) hb (by simp)⟩)))
  have AP3 := Lib.hid (fun (W : World) (h : Below wb.heap.size wb W) => (show Calls Try.prog 22 #[.slice (some ⟨W.heap.size + 1, 0, none⟩) 1 1, .agg #[.int .i64 5, .string ⟨#[102]⟩, .int .i64 0, .slice (some ⟨g3, 0, none⟩) 2 2]] ((W.alloc (.cells #[.int .i64 0, .string ⟨#[]⟩, .int .i64 0, .slice none 0 0] 25)).alloc (.cells #[.string ⟨#[120]⟩, .int .i64 5, .string ⟨#[107]⟩, .int .i64 0, .slice none 0 0] 50)) (fun e w' => ∃ (aZ : Option Addr) (cZ : Nat), e = Ending.returned (.agg #[.int .i64 5, .string ⟨#[102]⟩, .int .i64 0, .slice aZ 2 cZ]) ∧ Tv.ok w' ⟨aG, aZ, cZ⟩ ∧ Below W.heap.size W w' ∧ Box w' W.heap.size (.int .i64 0) (.string ⟨#[]⟩) (.int .i64 0) (.slice none 0 0) ∧ NoMore w' W.heap.size) from
    (APG.out ((W.alloc (.cells #[.int .i64 0, .string ⟨#[]⟩, .int .i64 0, .slice none 0 0] 25)).alloc (.cells #[.string ⟨#[120]⟩, .int .i64 5, .string ⟨#[107]⟩, .int .i64 0, .slice none 0 0] 50)) (W.heap.size + 1) ((h.alloc h.size _).alloc (by simp; exact Nat.le_succ_of_le h.size) _) (by have := bds_one (W.alloc (.cells #[.int .i64 0, .string ⟨#[]⟩, .int .i64 0, .slice none 0 0] 25)) ⟨#[120]⟩ ⟨aK, none, 0⟩ (by decide) (aK_ok _); rwa [show (W.alloc (.cells #[.int .i64 0, .string ⟨#[]⟩, .int .i64 0, .slice none 0 0] 25)).heap.size = W.heap.size + 1 by simp] at this)).mono (fun e w' ⟨aZ, cZ, he, ho, hb⟩ => ⟨aZ, cZ, he, ho, below_box (below_box hb), ((box_new W (.int .i64 0) (.string ⟨#[]⟩) (.int .i64 0) (.slice none 0 0) 25).below ((Below.refl _ _).alloc (Nat.le_refl _) (.cells #[.string ⟨#[120]⟩, .int .i64 5, .string ⟨#[107]⟩, .int .i64 0, .slice none 0 0] 50)) (by simp)).below hb (by simp; omega), nm_below (nm_below (nm_new W _ _ _ _ _) ((Below.refl _ _).alloc (Nat.le_refl _) (.cells #[.string ⟨#[120]⟩, .int .i64 5, .string ⟨#[107]⟩, .int .i64 0, .slice none 0 0] 50)) (by simp)) hb (by simp; omega)⟩)))
  have SHA := Lib.hid (fun (W : World) (a : Option Addr) (c : Nat) (h : Tv.ok W ⟨aG, a, c⟩) => (show Calls Try.prog 32 #[.agg #[.int .i64 5, .string ⟨#[102]⟩, .int .i64 0, .slice a 2 c]] W (fun e w' => e = Ending.returned (.string ⟨#[102, 40, 107, 44, 32, 121, 41]⟩) ∧ Below W.heap.size W w') from
    (show_tm 3 ⟨aG, a, c⟩ W aG_small.1 aG_small.2 h).mono (fun e w' ⟨he, _, hb⟩ => ⟨by rw [he, aG_show], hb⟩)))
  have HW := Lib.hid hbW
  clear V F hnm hm hargs hF3 hFb hbW hbB hbA hb1 hb2 hb3 hBx hg3 e3 hd hd2 hzb
  have HZ3 := Lib.hid hz3
  obtain ⟨p0, p1, p2, p3, _, _, _, _⟩ := hbx
  clear hz3
  go_wp2_with fail
  rw [← hwb]
  clear hwb
  have hltb : w3.heap.size < wb.heap.size := by have := HZ3.out; omega
  have hltb1 : w3.heap.size < wb.heap.size + 1 := by have := HZ3.out; omega
  go_region_with (first
    | (go_at_call 30; (with_reducible refine F2.out.mono ?_); rintro e w4 ⟨rfl, hb4⟩; have HB4 := Lib.hid hb4; have hlt4 : w3.heap.size < w4.heap.size := (by have := hb4.size; have := HZ3.out; omega); have hlt41 : w3.heap.size < w4.heap.size + 1 := Nat.lt_succ_of_lt hlt4; clear hb4; obtain ⟨x0, x1, x2, x3, _, _, _, _⟩ := HBX.out w4 HB4.out)
    | (go_at_call 30; (with_reducible refine F3.out.mono ?_); rintro e w4 ⟨rfl, hb4, hzb, hnz⟩; have HB4 := Lib.hid hb4; have ZBX := Lib.hid hzb; have ZNM := Lib.hid hnz; have hlt4 : w3.heap.size < w4.heap.size := (by have := hb4.size; have := HZ3.out; omega); have hlt41 : w3.heap.size < w4.heap.size + 1 := Nat.lt_succ_of_lt hlt4; clear hb4 hzb hnz; obtain ⟨x0, x1, x2, x3, _, _, _, _⟩ := HBX.out w4 HB4.out)
    | (go_at_call 22; (with_reducible refine (AP1.out _ HB4.out).mono ?_); rintro e w5 ⟨aZ, cZ, rfl, hz, hb5⟩; have HZ := Lib.hid hz; have HB5 := Lib.hid (below_next HB4.out hb5); have hlt5 : w3.heap.size < w5.heap.size := (by have := hb5.size; omega); obtain ⟨b0, b1, b2, b3, g0, g1, g2, gf⟩ := ZBX.out.below hb5 (lt_of_cell ZBX.out.c0); have HNM := Lib.hid (nm_below ZNM.out hb5 (lt_of_cell ZBX.out.c0)); clear hz hb5)
    | (go_at_call 22; (with_reducible refine (AP1.out _ HB4.out).mono ?_); rintro e w5 ⟨aZ, cZ, rfl, hz, hb5⟩; have HZ := Lib.hid hz; have HB5 := Lib.hid (below_next HB4.out hb5); have hlt5 : w3.heap.size < w5.heap.size := (by have := hb5.size; omega); clear hz hb5)
    | (go_at_call 22; (with_reducible refine (AP2.out _ HB4.out).mono ?_); rintro e w5 ⟨aZ, cZ, rfl, hz, hb5, ⟨b0, b1, b2, b3, g0, g1, g2, gf⟩, hnz⟩; have HZ := Lib.hid hz; have HNM := Lib.hid hnz; have HB5 := Lib.hid (below_next HB4.out hb5); have hlt5 : w3.heap.size < w5.heap.size := (by have := hb5.size; omega); clear hz hb5)
    | (go_at_call 22; (with_reducible refine (AP3.out _ HB4.out).mono ?_); rintro e w5 ⟨aZ, cZ, rfl, hz, hb5, ⟨b0, b1, b2, b3, g0, g1, g2, gf⟩, hnz⟩; have HZ := Lib.hid hz; have HNM := Lib.hid hnz; have HB5 := Lib.hid (below_next HB4.out hb5); have hlt5 : w3.heap.size < w5.heap.size := (by have := hb5.size; omega); clear hz hb5))
  all_goals
    have HB := Lib.hid (HW.out.trans (HB5.out.mono HW.out.size))
    have hwz := HW.out.size
    have hz4 := HB4.out.size
    go_wp2_with (first
      | (go_at_call 32; (with_reducible refine (SHA.out _ _ _ (HZ.out.below ((Below.refl _ _).alloc (Nat.le_refl _) _))).mono ?_); rintro e w6 ⟨rfl, h6⟩; have HE := Lib.hid ((HB.out.alloc HB.out.size _).trans (h6.mono (by have := HB.out.size; simp; omega))); clear h6)
      | (go_at_call 32; (with_reducible refine (SHA.out _ _ _ (two_sets HZ.out HNM.out _ _ _ _ _ _ _ _)).mono ?_); rintro e w6 ⟨rfl, h6⟩; have HE := Lib.hid ((bsets HB.out (by omega) _ _ _ _ _ _ _ _).trans (h6.mono (by have := HB.out.size; simp; omega))); clear h6))
    go_ret
    exact ⟨rfl, HE.out⟩
end Go.Proofs.Ytcoaneipajadiaa
