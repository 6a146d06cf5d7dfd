/-
  The chapter's example of layer 6: awake, from what the program's Match answers.
-/
import Derived.Test.YtcecbdglepneaaaRMat
import Derived.Test.YtcecbdglepneaaaFunTm
import Derived.Deep.RegionHeld3
import Derived.Sort.AtCall
namespace Go.Proofs.Ytcecbdglepneaaa
open Go.RowKit

theorem tms_two6 (w : World) (x y : Tv) (hx : x.ok w) (hy : y.ok w) (t : TypeId) :
    Tms (w.alloc (.cells #[.int .i64 x.t.kind, .string x.t.name, .int .i64 x.t.n, .slice x.a x.t.args.length x.c, .int .i64 y.t.kind, .string y.t.name, .int .i64 y.t.n, .slice y.a y.t.args.length y.c] t)) (.slice (some ⟨w.heap.size, 0, none⟩) 2 2) [x.t, y.t] := by
  have hb : Below w.heap.size w (w.alloc (.cells #[.int .i64 x.t.kind, .string x.t.name, .int .i64 x.t.n, .slice x.a x.t.args.length x.c, .int .i64 y.t.kind, .string y.t.name, .int .i64 y.t.n, .slice y.a y.t.args.length y.c] t)) := (Below.refl _ _).alloc (Nat.le_refl _) _
  refine ⟨_, 2, rfl, by simp, .inr ⟨w.heap.size, 0, rfl, by simp, ?_⟩⟩
  rw [RowAt, RowAt, RowAt]
  have c := World.cell?_alloc_mark w #[.int .i64 x.t.kind, .string x.t.name, .int .i64 x.t.n, .slice x.a x.t.args.length x.c, .int .i64 y.t.kind, .string y.t.name, .int .i64 y.t.n, .slice y.a y.t.args.length y.c] t (0, 0)
  exact ⟨tv_tmAt (hx.below hb) ⟨c 0, c 1, c 2, c 3⟩, tv_tmAt (hy.below hb) ⟨c 4, c 5, c 6, c 7⟩, trivial⟩
def mX : Tm := .mk 1 ⟨#[88]⟩ 0 []
def mA : Tm := .mk 5 ⟨#[97]⟩ 0 []
def mB : Tm := .mk 5 ⟨#[98]⟩ 0 []
def mP : Tm := .mk 5 ⟨#[102]⟩ 0 [mX, mX]
def mN : Tm := .mk 5 ⟨#[102]⟩ 0 [mA, mB]
def mY : Tm := .mk 5 ⟨#[102]⟩ 0 [mA, mA]
theorem mX_ok (w : World) : Tv.ok w ⟨mX, none, 0⟩ := by
  refine ⟨⟨?_, ?_, ?_, ?_, ?_⟩, ?_, .inl rfl⟩ <;> decide
theorem mA_ok (w : World) : Tv.ok w ⟨mA, none, 0⟩ := by
  refine ⟨⟨?_, ?_, ?_, ?_, ?_⟩, ?_, .inl rfl⟩ <;> decide
theorem mB_ok (w : World) : Tv.ok w ⟨mB, none, 0⟩ := by
  refine ⟨⟨?_, ?_, ?_, ?_, ?_⟩, ?_, .inl rfl⟩ <;> decide
theorem two_ok {w : World} {a : Option Addr} {c : Nat} {x y : Tm} (h : Tms w (.slice a 2 c) [x, y]) : Tv.ok w ⟨.mk 5 ⟨#[102]⟩ 0 [x, y], a, c⟩ := by
  obtain ⟨a', c', e, hargs⟩ := h
  obtain ⟨rfl, rfl⟩ : a = a' ∧ c = c' := by cases e; exact ⟨rfl, rfl⟩
  refine ⟨⟨?_, ?_, ?_, ?_, ?_⟩, hargs⟩ <;> simp only [Tm.kind, Tm.n, Tm.name] <;> decide
theorem mP_small : mP.parts ≤ 6000 := by decide
theorem mN_small : mN.parts ≤ 6000 := by decide
theorem mY_small : mY.parts ≤ 6000 := by decide
theorem mX_free (t : Tm) : moreT mX t [] = some [(⟨#[88]⟩, t)] := by
  rw [moreT_eq, if_pos (show mX.kind = 1 from rfl), getB_nil]
  show some (ofB [(mX.name, t)]) = _
  rw [ofB_rise (List.pairwise_singleton _ _)]; rfl
theorem mX_again (t u : Tm) : moreT mX u [(⟨#[88]⟩, t)] = if eqT t u = true then some [(⟨#[88]⟩, t)] else none := by
  rw [moreT_eq, if_pos (show mX.kind = 1 from rfl), getB_hit _ _ (show ((⟨#[88]⟩, t) : Bn).1 = mX.name from rfl)]
  show (if eqT t u = true then some (ofB [(⟨#[88]⟩, t)]) else none) = _
  rw [ofB_rise (List.pairwise_singleton _ _)]
theorem mP_more (t u : Tm) : moreT mP (.mk 5 ⟨#[102]⟩ 0 [t, u]) [] = if eqT t u = true then some [(⟨#[88]⟩, t)] else none := by
  rw [moreT_eq, if_neg (show ¬ mP.kind = 1 by decide), if_pos (show headB mP (.mk 5 ⟨#[102]⟩ 0 [t, u]) = true from headB_iff.2 ⟨rfl, rfl, rfl⟩)]
  show moreL [mX, mX] [t, u] (ofB []) = _
  rw [show ofB [] = ([] : List Bn) from rfl, moreL_cons, mX_free]
  show moreL [mX] [u] [(⟨#[88]⟩, t)] = _
  rw [moreL_cons, mX_again]
  split
  · show moreL [] [] _ = _
    rw [moreL_nil, ofB_rise (List.pairwise_singleton _ _)]
  · rfl
theorem mP_no : moreT mP mN [] = none := by
  show moreT mP (.mk 5 ⟨#[102]⟩ 0 [mA, mB]) [] = none
  rw [mP_more, if_neg (fun h => by have := eqT_iff.1 h; unfold mA mB at this; injection this with _ h2; exact absurd h2 (by decide))]
theorem mP_yes : moreT mP mY [] = some [(⟨#[88]⟩, mA)] := by
  show moreT mP (.mk 5 ⟨#[102]⟩ 0 [mA, mA]) [] = _
  rw [mP_more, if_pos (eqT_iff.2 rfl)]

set_option maxRecDepth 100000 in
set_option maxHeartbeats 4000000 in
theorem awake_of6 (PM : ∀ (x y : Tv) (w : World), x.ok w → y.ok w → x.t.parts ≤ 6000 → y.t.parts ≤ 6000 → Calls Try.prog 12 #[x.val, y.val] w (MorePost (moreT x.t y.t []) w)) (w : World) :
    Calls Try.prog 7 #[] w fun e w' => e = .returned (.bool true) ∧ Below w.heap.size w w' := by
  have V := Lib.hid (fun (s : ByteArray) (W : World) => rvar_any s W)
  have F := Lib.hid (fun (s : ByteArray) (a : Option Addr) (l c : Nat) (W : World) => rfun_any s a l c W)
  have M1 := Lib.hid (fun (W : World) (a b : Option Addr) (ha : Tms W (.slice a 2 2) [mX, mX]) (hb : Tms W (.slice b 2 2) [mA, mB]) => (show Calls Try.prog 12 #[.agg #[.int .i64 5, .string ⟨#[102]⟩, .int .i64 0, .slice a 2 2], .agg #[.int .i64 5, .string ⟨#[102]⟩, .int .i64 0, .slice b 2 2]] W (fun e w' => ∃ au cu, e = Ending.returned (.tuple #[.slice au 0 cu, .bool false]) ∧ Below W.heap.size W w') from
    (PM ⟨mP, a, 2⟩ ⟨mN, b, 2⟩ W (two_ok ha) (two_ok hb) mP_small mN_small).mono (fun e w' ⟨u, h1, h2, h3⟩ => by
      rw [show moreT (⟨mP, a, 2⟩ : Tv).t (⟨mN, b, 2⟩ : Tv).t [] = none from mP_no] at h1 h2
      obtain ⟨au, cu, rfl, _⟩ := h2
      exact ⟨au, cu, h1, h3⟩)))
  have M2 := Lib.hid (fun (W : World) (a b : Option Addr) (ha : Tms W (.slice a 2 2) [mX, mX]) (hb : Tms W (.slice b 2 2) [mA, mA]) => (show Calls Try.prog 12 #[.agg #[.int .i64 5, .string ⟨#[102]⟩, .int .i64 0, .slice a 2 2], .agg #[.int .i64 5, .string ⟨#[102]⟩, .int .i64 0, .slice b 2 2]] W (fun e w' => ∃ au cu, e = Ending.returned (.tuple #[.slice au 1 cu, .bool true]) ∧ Below W.heap.size W w') from
    (PM ⟨mP, a, 2⟩ ⟨mY, b, 2⟩ W (two_ok ha) (two_ok hb) mP_small mY_small).mono (fun e w' ⟨u, h1, h2, h3⟩ => by
      rw [show moreT (⟨mP, a, 2⟩ : Tv).t (⟨mY, b, 2⟩ : Tv).t [] = _ from mP_yes] at h1 h2
      obtain ⟨au, cu, rfl, _⟩ := h2
      exact ⟨au, cu, h1, h3⟩)))
  have TX := Lib.hid (fun (W : World) => tms_two6 W ⟨mX, none, 0⟩ ⟨mX, none, 0⟩ (mX_ok _) (mX_ok _) 25)
  have TN := Lib.hid (fun (W : World) => tms_two6 W ⟨mA, none, 0⟩ ⟨mB, none, 0⟩ (mA_ok _) (mB_ok _) 25)
  have TY := Lib.hid (fun (W : World) => tms_two6 W ⟨mA, none, 0⟩ ⟨mA, none, 0⟩ (mA_ok _) (mA_ok _) 25)
  simp only [mX, mA, mB, Tm.kind, Tm.name, Tm.n, Tm.args, List.length_nil] at TX TN TY
  clear PM
  go_enter Try.func7, Try.ntmps7
  go_wp2_with fail
  refine (V.out _ _).mono ?_; rintro e w1 ⟨rfl, hb1⟩
  have bx1 := box_new w1 (.int .i64 1) (.string ⟨#[88]⟩) (.int .i64 0) (.slice none 0 0) 25
  have hbA := hb1.alloc hb1.size (.cells #[.int .i64 1, .string ⟨#[88]⟩, .int .i64 0, .slice none 0 0] 25)
  have hzA : (w1.alloc (.cells #[.int .i64 1, .string ⟨#[88]⟩, .int .i64 0, .slice none 0 0] 25)).heap.size = w1.heap.size + 1 := by simp
  obtain ⟨wA, hwA⟩ : ∃ wA, wA = w1.alloc (.cells #[.int .i64 1, .string ⟨#[88]⟩, .int .i64 0, .slice none 0 0] 25) := ⟨_, rfl⟩
  rw [← hwA] at bx1 hbA hzA
  go_wp2_with fail
  rw [← hwA]
  clear hwA hb1
  refine (F.out _ _ _ _ _).mono ?_; rintro e w2 ⟨rfl, hb2⟩
  have bx2 := box_new w2 (.int .i64 5) (.string ⟨#[97]⟩) (.int .i64 0) (.slice none 0 0) 25
  have hb3 := hb2.alloc hb2.size (.cells #[.int .i64 5, .string ⟨#[97]⟩, .int .i64 0, .slice none 0 0] 25)
  have hz3 : (w2.alloc (.cells #[.int .i64 5, .string ⟨#[97]⟩, .int .i64 0, .slice none 0 0] 25)).heap.size = w2.heap.size + 1 := by simp
  obtain ⟨wc, hwc⟩ : ∃ wc, wc = w2.alloc (.cells #[.int .i64 5, .string ⟨#[97]⟩, .int .i64 0, .slice none 0 0] 25) := ⟨_, rfl⟩
  rw [← hwc] at bx2 hb3 hz3
  have KEEP := Lib.hid (fun (W : World) (h : Below wc.heap.size wc W) => (show Below wc.heap.size wc W ∧ W.cell? ⟨w1.heap.size, 0, none⟩ = some (.int .i64 1) ∧ W.cell? ⟨w1.heap.size, 1, none⟩ = some (.string ⟨#[88]⟩) ∧ W.cell? ⟨w1.heap.size, 2, none⟩ = some (.int .i64 0) ∧ W.cell? ⟨w1.heap.size, 3, none⟩ = some (.slice none 0 0) ∧ W.cell? ⟨w2.heap.size, 0, none⟩ = some (.int .i64 5) ∧ W.cell? ⟨w2.heap.size, 1, none⟩ = some (.string ⟨#[97]⟩) ∧ W.cell? ⟨w2.heap.size, 2, none⟩ = some (.int .i64 0) ∧ W.cell? ⟨w2.heap.size, 3, none⟩ = some (.slice none 0 0) from by
    have b1 := bx1.below (below_next hb3 h) (by omega)
    have b2 := bx2.below h (by omega)
    exact ⟨h, b1.c0, b1.c1, b1.c2, b1.c3, b2.c0, b2.c1, b2.c2, b2.c3⟩))
  have HWC := Lib.hid (below_next hbA hb3)
  have KA := Lib.hid (fun (W : World) (o : Obj) (h : Below wc.heap.size wc W) => (show Below wc.heap.size wc (W.alloc o) from h.alloc h.size o))
  have A0 := Lib.hid (show Below wc.heap.size wc wc.drew from (Below.refl _ _).drew)
  have AD := Lib.hid (fun (W : World) (h : Below wc.heap.size wc W) => (show Below wc.heap.size wc W.drew from h.drew))
  have FF := Lib.hid (fun (s : ByteArray) (a : Option Addr) (l c : Nat) (W : World) (h : Below wc.heap.size wc W) => (F.out s a l c W).mono (fun e w' ⟨he, hb⟩ => (show e = Ending.returned (.agg #[.int .i64 5, .string s, .int .i64 0, .slice a l c]) ∧ Below W.heap.size W w' ∧ Below wc.heap.size wc w' from ⟨he, hb, below_next h hb⟩)))
  have HWE := Lib.hid hwc
  clear bx1 bx2 hbA hzA hb2 hb3 hz3 V F
  obtain ⟨_, p0, p1, p2, p3, q0, q1, q2, q3⟩ := KEEP.out wc (Below.refl _ _)
  rw [hwc] at p0 p1 p2 p3 q0 q1 q2 q3
  clear hwc
  go_wp2_with fail
  rw [← HWE.out] at p0 p1 p2 p3 q0 q1 q2 q3 ⊢
  clear HWE
  have h0d := A0.out
  go_region_held3 (fun W => Below wc.heap.size wc W ∧ W.cell? ⟨w1.heap.size, 0, none⟩ = some (.int .i64 1) ∧ W.cell? ⟨w1.heap.size, 1, none⟩ = some (.string ⟨#[88]⟩) ∧ W.cell? ⟨w1.heap.size, 2, none⟩ = some (.int .i64 0) ∧ W.cell? ⟨w1.heap.size, 3, none⟩ = some (.slice none 0 0) ∧ W.cell? ⟨w2.heap.size, 0, none⟩ = some (.int .i64 5) ∧ W.cell? ⟨w2.heap.size, 1, none⟩ = some (.string ⟨#[97]⟩) ∧ W.cell? ⟨w2.heap.size, 2, none⟩ = some (.int .i64 0) ∧ W.cell? ⟨w2.heap.size, 3, none⟩ = some (.slice none 0 0)) (first | exact KEEP.out _ (by with_reducible assumption) | exact KEEP.out _ A0.out | exact KEEP.out _ (KA.out _ _ A0.out) | exact KEEP.out _ (KA.out _ _ (by with_reducible assumption)))
    ((first
      | (go_at_call 12; refine (M1.out w6 _ _ (HL1.out.below (below_next HW5.out (below_next ((Below.refl _ _).alloc (Nat.le_refl _) _) hW6))) ((TN.out w5).below hW6)).mono ?_; rintro e w7 ⟨au, cu, rfl, hW7⟩; have hn7 := below_next hn6 hW7)
      | (go_at_call_has 26 (Value.string ⟨#[98]⟩); refine (FF.out _ _ _ _ w4 hn4).mono ?_; rintro e w5 ⟨rfl, hW5, hn5⟩; have HW5 := Lib.hid hW5)
      | (go_at_call 26; refine (FF.out _ _ _ _ _ (KA.out w5 _ hn5)).mono ?_; rintro e w6 ⟨rfl, hW6, hn6⟩)
      | (go_at_call 26; refine (FF.out _ _ _ _ _ (KA.out _ _ A0.out)).mono ?_; rintro e w4 ⟨rfl, hW4, hn4⟩; have HL1 := Lib.hid ((TX.out wc.drew).below hW4))))
  have HN7 := Lib.hid hn7
  clear hn4 hn5 hn6 hn7 hW4 hW5 hW6 hW7 HL1 HW5 p0 p1 p2 p3 q0 q1 q2 q3 h0d
  obtain ⟨_, p0, p1, p2, p3, q0, q1, q2, q3⟩ := KEEP.out w7 HN7.out
  go_wp2_with fail
  have AL := Lib.hid (fun (W : World) (o : Obj) => (show Below W.heap.size W (W.alloc o) from (Below.refl _ _).alloc (Nat.le_refl _) _))
  have TX1 := Lib.hid (fun (W : World) (o : Obj) => (show Tms ((W.alloc o).alloc (.cells #[.int .i64 1, .string ⟨#[88]⟩, .int .i64 0, .slice none 0 0, .int .i64 1, .string ⟨#[88]⟩, .int .i64 0, .slice none 0 0] 25)) (.slice (some ⟨W.heap.size + 1, 0, none⟩) 2 2) [mX, mX] from by
    have h := TX.out (W.alloc o)
    rw [show (W.alloc o).heap.size = W.heap.size + 1 by simp] at h
    exact h))
  have TY1 := Lib.hid (fun (W : World) (o : Obj) => (show Tms ((W.alloc o).alloc (.cells #[.int .i64 5, .string ⟨#[97]⟩, .int .i64 0, .slice none 0 0, .int .i64 5, .string ⟨#[97]⟩, .int .i64 0, .slice none 0 0] 25)) (.slice (some ⟨W.heap.size + 1, 0, none⟩) 2 2) [mA, mA] from by
    have h := TY.out (W.alloc o)
    rw [show (W.alloc o).heap.size = W.heap.size + 1 by simp] at h
    exact h))
  have B0 := Lib.hid (AD.out _ HN7.out)
  have B1 := Lib.hid (fun o => AD.out _ (KA.out w7 o HN7.out))
  have B2 := Lib.hid (fun o o' => AD.out _ (KA.out _ o' (KA.out w7 o HN7.out)))
  have DR := Lib.hid (fun (W : World) => (show Below W.heap.size W W.drew from (Below.refl _ _).drew))
  have h0d := B0.out
  go_region_held3 (fun W => Below wc.heap.size wc W ∧ W.cell? ⟨w1.heap.size, 0, none⟩ = some (.int .i64 1) ∧ W.cell? ⟨w1.heap.size, 1, none⟩ = some (.string ⟨#[88]⟩) ∧ W.cell? ⟨w1.heap.size, 2, none⟩ = some (.int .i64 0) ∧ W.cell? ⟨w1.heap.size, 3, none⟩ = some (.slice none 0 0) ∧ W.cell? ⟨w2.heap.size, 0, none⟩ = some (.int .i64 5) ∧ W.cell? ⟨w2.heap.size, 1, none⟩ = some (.string ⟨#[97]⟩) ∧ W.cell? ⟨w2.heap.size, 2, none⟩ = some (.int .i64 0) ∧ W.cell? ⟨w2.heap.size, 3, none⟩ = some (.slice none 0 0)) (first | exact KEEP.out _ (by with_reducible assumption) | exact KEEP.out _ B0.out | exact KEEP.out _ (B1.out _) | exact KEEP.out _ (B2.out _ _) | exact KEEP.out _ (KA.out _ _ (by with_reducible assumption)))
    ((first
      | (go_at_call 12; refine (M2.out w9 _ _ (by first | exact (TX.out w7).below (below_next (AL.out _ _) (below_next (DR.out _) (below_next hW8 hW9))) | exact (TX1.out w7 _).below (below_next (DR.out _) (below_next hW8 hW9)) | exact (TX.out w7).below (below_next (DR.out _) (below_next hW8 (below_next (AL.out _ _) hW9)))) (by first | exact (TY1.out w7 _).below (below_next (DR.out _) (below_next hW8 hW9)) | exact (TY.out w7).below (below_next (AL.out _ _) (below_next (DR.out _) (below_next hW8 hW9))) | exact (TY.out w8).below hW9)).mono ?_; rintro e w10 ⟨au2, cu2, rfl, hW10⟩; have hn10 := below_next hn9 hW10)
      | (go_at_call 26; refine (FF.out _ _ _ _ _ (by first | with_reducible exact hn8 | with_reducible exact KA.out _ _ hn8)).mono ?_; rintro e w9 ⟨rfl, hW9, hn9⟩)
      | (go_at_call 26; refine (FF.out _ _ _ _ _ (by first | with_reducible exact B1.out _ | with_reducible exact B2.out _ _)).mono ?_; rintro e w8 ⟨rfl, hW8, hn8⟩)))
  all_goals
    have HE := Lib.hid (below_next HWC.out hn10)
    clear hn8 hn9 hn10 hW8 hW9 hW10 p0 p1 p2 p3 q0 q1 q2 q3 h0d
    go_wp2_with fail
    go_ret
    exact ⟨rfl, HE.out⟩
end Go.Proofs.Ytcecbdglepneaaa
