/-
  The binds by which two terms are made alike, in the order in which they are found, and whether there are such, by the program: triangle, Triangle, Can.
  A region that draws its order within a round of a range over a function; slices.Backward of a row of binds: what the range over it tells.
  What variables stand for, in a table of terms, in memory; the program's function that tells it; a row of binds cloned.
-/
import Derived.Test.YtedljdcliilggaaU35
import Derived.Test.YtedljdcliilggaaU13
import Derived.Test.YtedljdcliilggaaU26
import Derived.Test.YtedljdcliilggaaU05
import Derived.OrdersHeld
import Derived.Deep.RegionHeld
import Derived.Test.YtedljdcliilggaaU30
import Derived.Test.YtedljdcliilggaaU09
import Derived.Lib.SliceRun
namespace Go.Proofs.Ytedljdcliilggaa
open Go.RowKit Go.Maps

theorem step_below_of {n0 : Nat} {w0 w w1 w' : World} (h : Step (fun k => n0 ≤ k) w0 w w1 w') (hn : n0 ≤ w.heap.size) : Below n0 w w' where
  os := h.os
  tape := h.tape
  output := h.output
  size := h.size
  block := fun k hk => h.keep k (by omega) (by omega)
theorem fn_bds {w1 W : World} {fb bm : Nat} {vb vn : Value} {l : List Bn} {ps : List Pv} (h : FnAt w1 W fb bm vb vn l ps) (hr : Reads w1 W) (hl : l.length ≤ 9223372036854775807) : Bds W vb l := by
  obtain ⟨vs, h1, h2, h3⟩ := h.row
  have : OwnBv W W 0 vb l := ⟨vs, h1, fun x hx => ⟨(h2 x hx).1.reads hr, (h2 x hx).2⟩, h3⟩
  exact this.bds (Below.refl _ _) hl
theorem wpu_start {o : Option (List Bn)} {a b : Tm} {r : Wv} (h1 : r.ps = [a]) (h2 : r.ts = [b]) (_h3 : r.f1 = 0) (_h4 : r.f2 = 0) (ha : PlainT a) (hb : PlainT b) (pa : a.parts ≤ 40) (pb : b.parts ≤ 40) (ho : RowU [a] [b] o) : WPu o 80 [] [r] := by
  have e1 : upA [] [r] = [a] := by unfold upA; simp [h1, appR]
  have e2 : upB [] [r] = [b] := by unfold upB; simp [h2, appR]
  exact ⟨by rw [e1, e2]; exact ust_start ha hb pa pb, by rw [e1, e2]; exact ⟨o, ho, by simp⟩, .inr (.inl ⟨r, a, b, rfl, rfl, h1, h2, ha, hb, pa, pb⟩)⟩

set_option maxRecDepth 100000 in
set_option maxHeartbeats 4000000 in
theorem triangle_any (a b : Tm) (va vb : Value) (w : World) (o : Option (List Bn)) (h1 : Tms w va [a]) (h2 : Tms w vb [b]) (ha : PlainT a) (hb : PlainT b) (pa : a.parts ≤ 40) (pb : b.parts ≤ 40) (ho : RowU [a] [b] o) :
    Calls Try.prog 24 #[va, vb] w (RowPost o w) := by
  have HF := Lib.hid (fun l (hl : o = some l) => (row_fine ho rfl rfl hl ha hb pa pb).2.2.2)
  obtain ⟨a1, c1, rfl, hA1⟩ := h1
  obtain ⟨a2, c2, rfl, hA2⟩ := h2
  have hmm := @run_makeMap Try.prog
  have hz1 : (w.alloc (.map #[] 0)).heap.size = w.heap.size + 1 := by simp
  have hB2 : Below w.heap.size w ((w.alloc (.map #[] 0)).alloc (.cells #[.slice none 0 0, .map (some w.heap.size), .slice none 0 0] 61)) := below_two _ _ _
  have hbox := heap_alloc_new (w.alloc (.map #[] 0)) (.cells #[.slice none 0 0, .map (some w.heap.size), .slice none 0 0] 61)
  rw [hz1] at hbox
  have hmap : ((w.alloc (.map #[] 0)).alloc (.cells #[.slice none 0 0, .map (some w.heap.size), .slice none 0 0] 61)).ownsMap Try.prog 9 (plainElem (H := Unit) Try.prog 3) w.heap.size 0 (.map []) := (World.ownsMap_made w Try.prog 9 _).alloc _
  obtain ⟨w2, hw2⟩ : ∃ w2, w2 = ((w.alloc (.map #[] 0)).alloc (.cells #[.slice none 0 0, .map (some w.heap.size), .slice none 0 0] 61)) := ⟨_, rfl⟩
  rw [← hw2] at hB2 hbox hmap
  have hF : FnAt w w2 (w.heap.size + 1) w.heap.size (.slice none 0 0) (.slice none 0 0) [] [] :=
    ⟨hbox, ⟨[], rfl, (fun _ h => nomatch h), World.ownsRow_nil _ _ _ _⟩, World.ownsRow_nil _ _ _ _, (fun _ h => nomatch h), ⟨_, hmap, nameAt_none⟩, blind_new (by omega), blind_new (Nat.le_refl _), (fun _ h => nomatch h), (fun _ h => nomatch h)⟩
  have WK := Lib.hid (work_any w w2 w.heap.size (w.heap.size + 1) w.heap.size o (.slice none 0 0) (.slice none 0 0) ⟨a1, c1, [a], a2, c2, [b], 0, 0⟩ hF (fun k hk => by
    rcases hk with h | h | h | h
    · omega
    · omega
    · cases h
    · cases h) (reads_below hB2) hB2.size ⟨rfl, hA1, hA2, Nat.zero_le _, Nat.zero_le _, plainL_one ha, plainL_one hb⟩ (wpu_start rfl rfl rfl rfl ha hb pa pb ho))
  have HB2 := Lib.hid hB2
  simp only [List.length_cons, List.length_nil, Nat.zero_add] at WK ⊢
  clear hA1 hA2 ha hb pa pb ho hz1 hB2 hbox hmap hF
  go_enter Try.func24, Try.ntmps24
  go_wp2_with fail
  rw [← hw2]
  clear hw2
  refine WK.out.mono ?_; rintro e w3 ⟨rfl, w1, hs, hl⟩
  have HS := Lib.hid (And.intro hs hl)
  have HB := Lib.hid (HB2.out.trans (step_below_of hs HB2.out.size))
  clear hs hl WK hmm
  cases o with
  | none =>
    simp only [Option.isSome_none]
    go_wp2_with fail
    go_ret2
    exact ⟨_, rfl, Bds.none_ _ _ _, HB.out⟩
  | some l =>
    simp only [Option.isSome_some]
    obtain ⟨vb, vn, ps, hF3⟩ := HS.out.2 l rfl
    obtain ⟨ab, cb, an, cn, rfl, rfl, _⟩ := hF3.len
    have HBD := Lib.hid (fn_bds hF3 HS.out.1.on (by have := HF.out l rfl; omega))
    obtain ⟨z0, z1, z2, _, _, _⟩ := three_of hF3.box
    clear hF3
    go_wp2_with fail
    go_ret2
    exact ⟨_, rfl, HBD.out, HB.out⟩

theorem four_allocs (w : World) (a b c d : Obj) : Below w.heap.size w ((((w.alloc a).alloc b).alloc c).alloc d) :=
  (below_two w a b).trans ((below_two ((w.alloc a).alloc b) c d).mono (by simp; omega))
set_option maxRecDepth 100000 in
set_option maxHeartbeats 4000000 in
theorem ptriangle_any : AskTwo 8 RowPost := by
  intro x y w o hx hy hpx hpy hax hay ho
  obtain ⟨xt, xa, xc⟩ := x
  obtain ⟨yt, ya, yc⟩ := y
  have hB2 := below_two w (.cells #[.int .i64 xt.kind, .string xt.name, .int .i64 xt.n, .slice xa xt.args.length xc] 24) (.cells #[.int .i64 yt.kind, .string yt.name, .int .i64 yt.n, .slice ya yt.args.length yc] 24)
  have bX := (box_new w (.int .i64 xt.kind) (.string xt.name) (.int .i64 xt.n) (.slice xa xt.args.length xc) 24).below ((Below.refl _ _).alloc (Nat.le_refl _) (.cells #[.int .i64 yt.kind, .string yt.name, .int .i64 yt.n, .slice ya yt.args.length yc] 24)) (by simp)
  have bY := alloc_two w (.cells #[.int .i64 xt.kind, .string xt.name, .int .i64 xt.n, .slice xa xt.args.length xc] 24) (.int .i64 yt.kind) (.string yt.name) (.int .i64 yt.n) (.slice ya yt.args.length yc) 24
  obtain ⟨wz, hwz⟩ : ∃ wz, wz = ((w.alloc (.cells #[.int .i64 xt.kind, .string xt.name, .int .i64 xt.n, .slice xa xt.args.length xc] 24)).alloc (.cells #[.int .i64 yt.kind, .string yt.name, .int .i64 yt.n, .slice ya yt.args.length yc] 24)) := ⟨_, rfl⟩
  have hzs : wz.heap.size = w.heap.size + 1 + 1 := by rw [hwz]; simp
  rw [← hwz] at hB2 bX bY
  have hB3 : Below wz.heap.size wz (wz.alloc (.cells #[.int .i64 xt.kind, .string xt.name, .int .i64 xt.n, .slice xa xt.args.length xc] 24)) := (Below.refl _ _).alloc (Nat.le_refl _) _
  have hz1 : (wz.alloc (.cells #[.int .i64 xt.kind, .string xt.name, .int .i64 xt.n, .slice xa xt.args.length xc] 24)).heap.size = wz.heap.size + 1 := by simp
  have TX := tms_new1 wz ⟨xt, xa, xc⟩ (hx.below hB2) 24
  have TY := tms_new1 (wz.alloc (.cells #[.int .i64 xt.kind, .string xt.name, .int .i64 xt.n, .slice xa xt.args.length xc] 24)) ⟨yt, ya, yc⟩ (hy.below (below_next hB2 hB3)) 24
  rw [hz1] at TY
  have hB4 : Below wz.heap.size wz ((wz.alloc (.cells #[.int .i64 xt.kind, .string xt.name, .int .i64 xt.n, .slice xa xt.args.length xc] 24)).alloc (.cells #[.int .i64 yt.kind, .string yt.name, .int .i64 yt.n, .slice ya yt.args.length yc] 24)) := hB3.alloc hB3.size _
  rw [hzs] at TX TY
  simp only at TX TY
  have CT := Lib.hid (triangle_any xt yt _ _ _ o (TX.below ((Below.refl _ _).alloc (Nat.le_refl _) _)) TY hpx hpy hax hay ho)
  have HB4 := Lib.hid (below_next hB2 hB4)
  obtain ⟨p0, p1, p2, p3, _, _, _, _⟩ := bX
  obtain ⟨q0, q1, q2, q3, _, _, _, _⟩ := bY
  have hg1 : w.heap.size < wz.heap.size := by omega
  have hg2 : w.heap.size + 1 < wz.heap.size := by omega
  have HO := Lib.hid ho
  clear hx hy hpx hpy hax hay ho hB2 hB3 hB4 hz1 hzs TX TY
  simp only [Tv.val]
  go_enter Try.func8, Try.ntmps8
  go_wp2_with fail
  rw [← hwz]
  refine CT.out.mono ?_; rintro e w3 ⟨u3, rfl, hu3, hb3⟩
  have HU := Lib.hid hu3
  have HB := Lib.hid (HB4.out.trans (hb3.mono HB4.out.size))
  obtain ⟨a3, c3, rfl, _, _⟩ := hu3
  clear hb3 hwz p0 p1 p2 p3 q0 q1 q2 q3
  go_wp2_with fail
  go_ret2
  exact ⟨_, rfl, HU.out, HB.out⟩
set_option maxRecDepth 100000 in
set_option maxHeartbeats 4000000 in
theorem pcan_any : AskTwo 11 CanPost := by
  intro x y w o hx hy hpx hpy hax hay ho
  obtain ⟨xt, xa, xc⟩ := x
  obtain ⟨yt, ya, yc⟩ := y
  have hB2 := below_two w (.cells #[.int .i64 xt.kind, .string xt.name, .int .i64 xt.n, .slice xa xt.args.length xc] 24) (.cells #[.int .i64 yt.kind, .string yt.name, .int .i64 yt.n, .slice ya yt.args.length yc] 24)
  have bX := (box_new w (.int .i64 xt.kind) (.string xt.name) (.int .i64 xt.n) (.slice xa xt.args.length xc) 24).below ((Below.refl _ _).alloc (Nat.le_refl _) (.cells #[.int .i64 yt.kind, .string yt.name, .int .i64 yt.n, .slice ya yt.args.length yc] 24)) (by simp)
  have bY := alloc_two w (.cells #[.int .i64 xt.kind, .string xt.name, .int .i64 xt.n, .slice xa xt.args.length xc] 24) (.int .i64 yt.kind) (.string yt.name) (.int .i64 yt.n) (.slice ya yt.args.length yc) 24
  obtain ⟨wz, hwz⟩ : ∃ wz, wz = ((w.alloc (.cells #[.int .i64 xt.kind, .string xt.name, .int .i64 xt.n, .slice xa xt.args.length xc] 24)).alloc (.cells #[.int .i64 yt.kind, .string yt.name, .int .i64 yt.n, .slice ya yt.args.length yc] 24)) := ⟨_, rfl⟩
  rw [← hwz] at hB2 bX bY
  have CT := Lib.hid (ptriangle_any ⟨xt, xa, xc⟩ ⟨yt, ya, yc⟩ wz o (hx.below hB2) (hy.below hB2) hpx hpy hax hay ho)
  have HB2 := Lib.hid hB2
  obtain ⟨p0, p1, p2, p3, _, _, _, _⟩ := bX
  obtain ⟨q0, q1, q2, q3, _, _, _, _⟩ := bY
  clear hx hy hpx hpy hax hay ho hB2
  simp only [Tv.val] at CT ⊢
  go_enter Try.func11, Try.ntmps11
  go_wp2_with fail
  rw [← hwz]
  refine CT.out.mono ?_; rintro e w3 ⟨u3, rfl, hu3, hb3⟩
  have HB := Lib.hid (below_next HB2.out hb3)
  obtain ⟨a3, c3, rfl, _, _⟩ := hu3
  clear hb3 hwz p0 p1 p2 p3 q0 q1 q2 q3
  go_wp2_with fail
  go_ret
  exact ⟨rfl, HB.out⟩
end Go.Proofs.Ytedljdcliilggaa

namespace Go.Proofs.Ytedljdcliilggaa
open Go.RowKit Go.Shelf

section
variable {P : Program} {ops : Array Oper} {Q : Exit → Act → World → Prop}
theorem oper_round (l n : Nat) {o : Oper} {a : Act} {w : World} {K K' : Act → World → Prop} (hK : ∀ a w, K a w → K' a w) (hd : ∀ c, o.op ≠ .defer c) (h : o.wp P a w K Q) : o.wpIn (Fence.wide.inRound l) n P a w K' Q := by
  unfold Oper.wpIn
  refine ⟨fun _ _ => trivial, ?_⟩
  rw [Oper.semAt_plain _ _ _ hd]
  unfold Oper.wp at h
  generalize (execOp a.eval o).run P w = r at *
  have hdep : (Fence.wide.inRound l).depth.isSome = true → 1 ≤ n := fun h => by cases h
  cases r with
  | ok x w' =>
    cases x <;> simp only [Oper.upon, Oper.uponIn] at h ⊢
    case value => exact hK _ _ h
    case skip => exact hK _ _ h
    case defer => exact hK _ _ h
    case enter =>
      refine ⟨hdep, CallsIn.inRound l (callsIn_wide.2 (h.mono fun e w'' he => ?_))⟩
      cases e
      · exact hK _ _ he
      · exact he
      · exact he
    case row =>
      refine ⟨hdep, fun c cs _ => ?_⟩
      obtain ⟨v, w2, h1, h2⟩ := h c cs
      exact ⟨v, w2, hK _ _ h1, stepsIn_wide.2 h2⟩
  | halt x w' =>
    cases x <;> simp only [Oper.upon, Oper.uponIn] at h ⊢
    case panic => exact h
theorem ops_round (l n : Nat) (hd : ∀ o ∈ ops.toList, ∀ c, o.op ≠ .defer c) (hq : ¬ LetsOut Q) : ∀ (is : List Nat) (a : Act) (w : World), wpOps P ops Q is a w → wpOpsIn (Fence.wide.inRound l) n P ops Q is a w
  | [], a, w, h => h
  | i :: r, a, w, h => by
    rw [wpOps] at h
    rw [wpOpsIn]
    cases ho : ops[i]? with
    | none =>
      rw [ho] at h
      exact ops_round l n hd hq r a w h
    | some o =>
      rw [ho] at h
      simp only at h ⊢
      split
      · next hw =>
        rw [if_pos hw] at h
        rcases h with h | ⟨_, h⟩
        · refine oper_round l n (fun a w => ops_round l n hd hq r a w) (hd o ?_) h
          obtain ⟨h1, h2⟩ := Array.getElem?_eq_some_iff.1 ho
          rw [← h2]; simp
        · exact absurd h hq
      · next hw =>
        rw [if_neg hw] at h
        exact ⟨fun _ _ => trivial, ops_round l n hd hq r _ w h⟩
/-- A region that draws its order, within a round: as outside. -/
theorem region_round {S : World → Prop} {id : Nat} {a : Act} {w : World} (l n : Nat) (hd : ∀ o ∈ ops.toList, ∀ c, o.op ≠ .defer c) (hq : ¬ LetsOut Q) (hm : P.follows .mixedOrders = true) (hS : S w.drew)
    (h : S w.drew → wpAnyH P .any ops Q S ops.size (Array.replicate ops.size false) a w.drew) : (Code.region id ops true).wpIn (Fence.wide.inRound l) n P Q a w :=
  wpIn_region_draw fun t => ops_round l n hd hq _ _ _ (by
    simp only [Region.schedule, hm, Bool.true_or, if_true]
    exact wpAny_sound ops.size t _ a _ (wpAny_of_held _ _ _ _ (h hS)))
end

/-- What a range leaves as it was: all that lay when the call began, and one box. -/
structure KeepsB (n₀ B : Nat) (W W' : World) : Prop where
  below : Below n₀ W W'
  same : W'.heap[B]? = W.heap[B]?
theorem KeepsB.refl (n₀ B : Nat) (W : World) : KeepsB n₀ B W W := ⟨Below.refl _ _, rfl⟩
theorem keepsB_t {n₀ B : Nat} {X Y Z : World} (h : KeepsB n₀ B X Y) (k : KeepsB n₀ B Y Z) : KeepsB n₀ B X Z := ⟨h.below.trans k.below, k.same.trans h.same⟩
theorem keepsB_b {n₀ B : Nat} {w : World} (hn : n₀ ≤ w.heap.size) (hB : B < w.heap.size) (W : World) (l : Nat) (o o' : Obj) (hl : w.heap.size ≤ l) (h : W.heap[l]? = some o) (_ : o.isCells = false) (_ : o.isWalk = false) : KeepsB n₀ B W (W.putObj l o') :=
  have hg := grownBy_putObj' W l o'
  have hs := (Array.getElem?_eq_some_iff.1 h).1
  ⟨(Below.refl _ _).grown hg (by omega) (fun k e => by cases e; omega), hg.block B (by omega) (fun e => by cases e; omega)⟩
theorem keepsB_alloc {n₀ B : Nat} {X Y : World} (h : KeepsB n₀ B X Y) (hn : n₀ ≤ Y.heap.size) (hB : B < Y.heap.size) (o : Obj) : KeepsB n₀ B X (Y.alloc o) :=
  ⟨h.below.alloc hn o, by rw [Below.heap_alloc _ _ _ hB]; exact h.same⟩

/-- A bind of a row, with its place. -/
abbrev BvIn (vs : List Bv) := { p : Nat × Bv // vs[p.1]? = some p.2 }
def idx {vs : List Bv} (l : List (BvIn vs)) : List Nat := l.map fun x => x.1.1
theorem idx_append {vs : List Bv} (a b : List (BvIn vs)) : idx (a ++ b) = idx a ++ idx b := List.map_append
theorem idx_length {vs : List Bv} (a : List (BvIn vs)) : (idx a).length = a.length := List.length_map ..
/-- The places from the last one on. -/
def back (n k : Nat) : List Nat := (List.range k).map fun j => n - 1 - j
theorem back_succ (n k : Nat) : back n (k + 1) = back n k ++ [n - 1 - k] := by unfold back; rw [List.range_succ, List.map_append]; rfl
theorem back_length (n k : Nat) : (back n k).length = k := by unfold back; rw [List.length_map, List.length_range]
abbrev encBv {vs : List Bv} (y : BvIn vs) : Array Value := #[.int .i64 y.1.1, .agg #[.string y.1.2.s, .int .i64 y.1.2.v.t.kind, .string y.1.2.v.t.name, .int .i64 y.1.2.v.t.n, .slice y.1.2.v.a y.1.2.v.t.args.length y.1.2.v.c]]

set_option maxRecDepth 100000 in
set_option maxHeartbeats 2000000 in
theorem back1_in (F : Fence) (hd : F.depth = none) (n : Nat) (hF : F.fn 70) (hro : F.round = none) (w0 : World) (l Bt : Nat) (vs : List Bv) (ad : Option Addr) (cap : Nat) (hn : vs.length ≤ 1000000)
    (hcell : vs.length = 0 ∨ ∃ b o, ad = some ⟨b, o, none⟩ ∧ ∀ W, Below w0.heap.size w0 W → ∀ q x, (rowBv vs)[q]? = some x → W.cell? ⟨b, o + q, none⟩ = some x) (J Jx : List (BvIn vs) → World → Prop)
    (hY : ∀ pre (y : BvIn vs) W, J pre W → pre.length < vs.length → YieldAt F (n - 1) Try.prog l (encBv y) W fun e W' =>
      (e = .returned (.bool true) ∧ J (pre ++ [y]) W' ∧ KeepsB w0.heap.size Bt W W') ∨ (e = .returned (.bool false) ∧ Jx (pre ++ [y]) W'))
    (W : World) (hBt : Boxed W Bt 27 (.slice ad vs.length cap)) (hB : Below w0.heap.size w0 W) (h0 : J [] W) :
    CallsIn F n Try.prog 70 #[.func (.yield l) #[] #[], .pointer (some ⟨Bt, 0, none⟩)] W fun e W' => (∃ v, e = .returned v) ∧
      ((∃ ys : List (BvIn vs), idx ys = back vs.length vs.length ∧ J ys W') ∨ (∃ pre : List (BvIn vs), True ∧ Jx pre W')) := by
  have hdd : ∀ k : Nat, (F.depth.isSome = true → 1 ≤ k) := fun k h => by rw [hd] at h; cases h
  have cB := hBt.cell
  have HBT := Lib.hid hBt
  have HY := Lib.hid hY
  have HC := Lib.hid hcell
  have HB := Lib.hid hB
  have H0 := Lib.hid h0
  have hlen : (vs.length : Int) ≤ 1000000 := by omega
  clear hY hcell hB h0 hBt
  refine callsIn_of_wp Try.func70 rfl hF ?_ hro
  simp only [Try.ntmps70, List.size_toArray, List.length_cons, List.length_nil, Nat.reduceAdd, Nat.reduceSub, Array.replicate_succ, Array.replicate_zero, List.push_toArray, List.append_toArray, List.nil_append, List.cons_append]
  gi_wp2_with fail
  gi_loopw [3] (fun i wr => ∃ (k : Nat) (ys : List (BvIn vs)), k ≤ vs.length ∧ i = .int .i64 ((vs.length : Int) - 1 - k) ∧ idx ys = back vs.length k ∧ Hid (J ys wr) ∧ Hid (KeepsB w0.heap.size Bt W wr)) (fun i _ => (intOf i + 1).toNat)
  case atStart => exact ⟨0, [], Nat.zero_le _, by go_num, rfl, H0, Lib.hid (KeepsB.refl _ _ _)⟩
  case round =>
    obtain ⟨k, ys, hk, rfl, hys, HJ, HK⟩ := hrel
    have hBr : Boxed wr Bt 27 (.slice ad vs.length cap) := HK.out.same.trans HBT.out
    have cR := hBr.cell
    by_cases hkl : k < vs.length
    · have hge : decide ((vs.length : Int) - 1 - k ≥ 0) = true := decide_eq_true (by omega)
      have hge2 : (0 : Int) ≤ (vs.length : Int) - 1 - k := by omega
      have hlt2 : (vs.length : Int) - 1 - k < (vs.length : Int) := by omega
      obtain ⟨q, hq⟩ : ∃ q, q = vs.length - 1 - k := ⟨_, rfl⟩
      have hqi : (vs.length : Int) - 1 - k = (q : Int) := by omega
      rw [hqi] at hge hge2 hlt2 ⊢
      have hql : q < vs.length := by omega
      obtain h0 | ⟨b, o, rfl, hcc⟩ := HC.out
      · omega
      · have hget := fun (i : Nat) (hi : i < 5) => rowBv_get vs q hql i hi
        have hcc := hcc wr (HB.out.trans HK.out.below)
        have m0 : wr.cell? ⟨b, o + q * 5, none⟩ = some (.string vs[q].s) := hcc _ _ (hget 0 (by omega))
        have m1 : wr.cell? ⟨b, o + q * 5 + 1, none⟩ = some (.int .i64 vs[q].v.t.kind) := by rw [Nat.add_assoc]; exact hcc _ _ (hget 1 (by omega))
        have m2 : wr.cell? ⟨b, o + q * 5 + 2, none⟩ = some (.string vs[q].v.t.name) := by rw [Nat.add_assoc]; exact hcc _ _ (hget 2 (by omega))
        have m3 : wr.cell? ⟨b, o + q * 5 + 3, none⟩ = some (.int .i64 vs[q].v.t.n) := by rw [Nat.add_assoc]; exact hcc _ _ (hget 3 (by omega))
        have m4 : wr.cell? ⟨b, o + q * 5 + 4, none⟩ = some (.slice vs[q].v.a vs[q].v.t.args.length vs[q].v.c) := by rw [Nat.add_assoc]; exact hcc _ _ (hget 4 (by omega))
        have hy1 := HY.out ys ⟨(q, vs[q]), List.getElem?_eq_getElem hql⟩ wr HJ.out (by rw [← idx_length, hys, back_length]; exact hkl)
        obtain ⟨y, hy⟩ : ∃ y : BvIn vs, y = ⟨(q, vs[q]), List.getElem?_eq_getElem hql⟩ := ⟨_, rfl⟩
        rw [← hy] at hy1
        have hyq : y.1.1 = q := by rw [hy]
        obtain ⟨z, hz⟩ : ∃ z, z = vs[q] := ⟨_, rfl⟩
        have hyz : y.1.2 = z := by rw [hy, hz]
        rw [← hz] at m0 m1 m2 m3 m4
        simp only [encBv, hyq, hyz] at hy1
        have HYS := Lib.hid hys
        have HYQ := Lib.hid hyq
        have HQ := Lib.hid (And.intro hq hqi)
        clear hget hcc hy hyz hz hys hyq hq hqi
        obtain ⟨fn, tmps, assign, body, hyi, hR⟩ := hy1
        gi_wp2_with fail
        (try refine ⟨hdd _, ?_⟩)
        refine hR.mono ?_; clear hR hyi; rintro e W3 (⟨rfl, hJ3, hk3⟩ | ⟨rfl, hx3⟩)
        · have H3 := Lib.hid (And.intro hJ3 hk3)
          clear hJ3 hk3 m0 m1 m2 m3 m4
          gi_wp2_with fail
          go_roundw
          case rel => exact ⟨k + 1, ys ++ [y], by omega, by have := HQ.out.2; (congr 1) <;> omega, by rw [idx_append, HYS.out, back_succ]; show _ ++ [y.1.1] = _; rw [HYQ.out, HQ.out.1], Lib.hid H3.out.1, Lib.hid (keepsB_t HK.out H3.out.2)⟩
          case measure => simp [intOf]
        · have H3 := Lib.hid hx3
          clear hx3 m0 m1 m2 m3 m4
          gi_wp2_with fail
          refine bodyPost_ret (results_none rfl _ _ _) rfl ?_
          exact ⟨⟨_, rfl⟩, .inr ⟨_, trivial, H3.out⟩⟩
    · obtain rfl : k = vs.length := by omega
      have hlt : decide ((vs.length : Int) - 1 - (vs.length : Int) ≥ 0) = false := decide_eq_false (by omega)
      have hlt2 : ¬ (0 : Int) ≤ (vs.length : Int) - 1 - (vs.length : Int) := by omega
      have HYS := Lib.hid hys
      clear hys
      gi_wp2_with fail
      go_end0
      exact ⟨⟨_, rfl⟩, .inl ⟨ys, HYS.out, HJ.out⟩⟩

set_option maxHeartbeats 1000000 in
theorem back_in (F : Fence) (n : Nat) (hF : F.fn 59) (hro : F.round = none) (ad : Option Addr) (len cap : Nat) (w : World) :
    CallsIn F n Try.prog 59 #[.slice ad len cap] w fun e w' => e = .returned (.func (.func 70) #[] #[.pointer (some ⟨w.heap.size, 0, none⟩)]) ∧ w' = w.alloc (.cells #[.slice ad len cap] 27) := by
  refine callsIn_of_wp Try.func59 rfl hF ?_ hro
  simp only [Try.ntmps59, List.size_toArray, List.length_cons, List.length_nil, Nat.reduceAdd, Nat.reduceSub, Array.replicate_succ, Array.replicate_zero, List.push_toArray, List.append_toArray, List.nil_append, List.cons_append]
  gi_wp2_with fail
  go_ret
  exact ⟨rfl, rfl⟩

theorem back_stops (F : Fence) (hd : F.depth = none) (n : Nat) (hF : F.fn 70) (hro : F.round = none) (w0 : World) (Bt : Nat) (vs : List Bv) (ad : Option Addr) (cap : Nat) (hn : vs.length ≤ 1000000) (w : World) (hBt : Boxed w Bt 27 (.slice ad vs.length cap))
    (hcell : vs.length = 0 ∨ ∃ b o, ad = some ⟨b, o, none⟩ ∧ ∀ W, Below w0.heap.size w0 W → ∀ q x, (rowBv vs)[q]? = some x → W.cell? ⟨b, o + q, none⟩ = some x) (hB : Below w0.heap.size w0 w) :
    SeqStopsK F n Try.prog 70 #[.pointer (some ⟨Bt, 0, none⟩)] (fun y : BvIn vs => encBv y) (KeepsB w0.heap.size Bt) (fun ys => idx ys = back vs.length vs.length) (fun _ => True) vs.length w := fun l J Jx W hW _ _ hY h0 =>
  back1_in F hd n hF hro w0 l Bt vs ad cap hn hcell J Jx hY W ((hW.block Bt hBt.lt).trans hBt) (hB.trans (hW.mono hB.size)) h0
end Go.Proofs.Ytedljdcliilggaa

namespace Go.Proofs.Ytedljdcliilggaa
open Go.RowKit Go.Maps

/-- A term in a table is kept as it lies. -/
def termR (v : Value) : Option (DataW Value × List MemPlace) := some (.held v, [])
theorem zeroTm (w : World) : (zeroValue 24).run Try.prog w = .ok zeroV.val w := by kernel_rfl
/-- A table has what each name stands for. -/
def TabAt (w1 W : World) (bm n : Nat) (l : List Bn) : Prop :=
  ∃ D : DataW Value, W.ownsMap Try.prog 9 termR bm n D ∧ IsMap D ∧ ∀ s : ByteArray, (has D (keyF s) = true → ∃ x : Tv, D.atKey (keyF s) (.held zeroV.val) = .held x.val ∧ x.ok w1 ∧ getB l s = some x.t) ∧ (has D (keyF s) = false → getB l s = none)
theorem tab_none {w1 W : World} {bm : Nat} (h : W.ownsMap Try.prog 9 termR bm 0 (.map [])) : TabAt w1 W bm 0 [] := ⟨_, h, isMap_empty, fun s => ⟨fun h => by simp [has] at h, fun _ => rfl⟩⟩
theorem TabAt.same {w0 W w1 W1 : World} {bm n : Nat} {l : List Bn} (h : TabAt w0 W bm n l) (hu : Reads w0 w1) (hk : W1.heap[bm]? = W.heap[bm]?) : TabAt w1 W1 bm n l := by
  obtain ⟨D, h1, h2, h3⟩ := h
  refine ⟨D, map_same h1 hk, h2, fun s => ⟨fun h => ?_, (h3 s).2⟩⟩
  obtain ⟨x, e1, e2, e3⟩ := (h3 s).1 h
  exact ⟨x, e1, e2.reads hu, e3⟩
theorem TabAt.lt {w0 W : World} {bm n : Nat} {l : List Bn} (h : TabAt w0 W bm n l) : bm < W.heap.size := by
  obtain ⟨D, h1, _⟩ := h; exact h1.lt
/-- One more. -/
theorem TabAt.put {w1 W1 : World} {bm m : Nat} {l : List Bn} {D : DataW Value} (h2 : IsMap D) (h3 : ∀ s : ByteArray, (has D (keyF s) = true → ∃ x : Tv, D.atKey (keyF s) (.held zeroV.val) = .held x.val ∧ x.ok w1 ∧ getB l s = some x.t) ∧ (has D (keyF s) = false → getB l s = none))
    (s : ByteArray) (x : Tv) (hx : x.ok w1) (h1 : W1.ownsMap Try.prog 9 termR bm m (D.put (keyF s) (.held x.val))) : TabAt w1 W1 bm m ((s, x.t) :: l) := by
  refine ⟨_, h1, h2.put _ _, fun z => ?_⟩
  by_cases e : s = z
  · subst e
    refine ⟨fun _ => ⟨x, atKey_put_same h2 (keyF_is s) _ _, hx, getB_hit (s, x.t) l rfl⟩, fun hf => ?_⟩
    rw [has_put_same h2 (keyF_is s)] at hf; cases hf
  · have hne : keyF z ≠ keyF s := fun h => e (keyF_inj h).symm
    rw [has_put_other hne, atKey_put_other hne, getB_miss (s, x.t) l e]
    exact h3 z
/-- The table, and the box that leads to it. -/
def StandI (bm b4 n : Nat) (l : List Bn) (w1 W : World) : Prop := TabAt w1 W bm n l ∧ Boxed W b4 86 (.map (some bm))
theorem stand_stays {bm b4 n N : Nat} {l : List Bn} (h1 : bm < N) (h2 : b4 < N) : Stays N (StandI bm b4 n l) := fun _ _ _ _ h hu _ _ _ hk =>
  ⟨h.1.same hu (hk bm h1), (hk b4 h2).trans h.2⟩

set_option maxRecDepth 100000 in
set_option maxHeartbeats 4000000 in
theorem told_stand (bm b4 n N : Nat) (l : List Bn) (h1 : bm < N) (h2 : b4 < N) : Told 61 #[.pointer (some ⟨b4, 0, none⟩)] (getB l) N (fun _ => False) (StandI bm b4 n l) := by
  intro s w0 w hs hI hr hN
  obtain ⟨⟨D, hown, hmap, hD⟩, hbox⟩ := hI
  have hkey := keyOfF hs
  have hz1 : (w.alloc (.cells #[.int .i64 0, .string ⟨#[]⟩, .int .i64 0, .slice none 0 0] 24)).heap.size = w.heap.size + 1 := by simp
  have cB := (hbox.alloc (.cells #[.int .i64 0, .string ⟨#[]⟩, .int .i64 0, .slice none 0 0] 24)).cell
  have hownA := hown.alloc (.cells #[.int .i64 0, .string ⟨#[]⟩, .int .i64 0, .slice none 0 0] 24)
  have END := Lib.hid (fun (y : Tv) (ht : y.t = (getB l s).getD zeroT) (hy : y.ok w0) =>
    (show ToldPost (getB l) (fun _ => False) (StandI bm b4 n l) s w0 w (.returned (.tuple #[y.val, .bool (getB l s).isSome])) ((w.alloc (.cells #[.int .i64 y.t.kind, .string y.t.name, .int .i64 y.t.n, .slice y.a y.t.args.length y.c] 24)).alloc (.cells #[.int .i64 y.t.kind, .string y.t.name, .int .i64 y.t.n, .slice y.a y.t.args.length y.c] 24)) from by
      have hst := step_below (C := fun _ => False) hr (below_two w (.cells #[.int .i64 y.t.kind, .string y.t.name, .int .i64 y.t.n, .slice y.a y.t.args.length y.c] 24) (.cells #[.int .i64 y.t.kind, .string y.t.name, .int .i64 y.t.n, .slice y.a y.t.args.length y.c] 24))
      exact ⟨w0, y, rfl, ht, hy, ⟨TabAt.same ⟨D, hown, hmap, hD⟩ (Reads.refl _) (hst.keep bm (by omega) (fun h => h)), (hst.keep b4 (by omega) (fun h => h)).trans hbox⟩, hst⟩))
  have bR := fun (y : Tv) => (box_new w (.int .i64 y.t.kind) (.string y.t.name) (.int .i64 y.t.n) (.slice y.a y.t.args.length y.c) 24).below ((Below.refl _ _).alloc (Nat.le_refl _) (.cells #[.int .i64 y.t.kind, .string y.t.name, .int .i64 y.t.n, .slice y.a y.t.args.length y.c] 24)) (by simp)
  show Calls Try.prog 61 #[.string s, .pointer (some ⟨b4, 0, none⟩)] w _
  cases hh : has D (keyF s) with
  | true =>
    obtain ⟨x, hat, hx, hg⟩ := (hD s).1 hh
    obtain ⟨t, a, c⟩ := x
    have HAT := Lib.hid (fun (v : Value) (ps : List MemPlace) (h : termR v = some (D.atKey (keyF s) (.held zeroV.val), ps)) => (show v = .agg #[.int .i64 t.kind, .string t.name, .int .i64 t.n, .slice a t.args.length c] from by
      rw [hat] at h
      unfold termR at h
      injection h with h; injection h with h _; injection h))
    have HG := Lib.hid hg
    have HHAS := Lib.hid hh
    have HO := Lib.hid hownA
    have E := Lib.hid (END.out ⟨t, a, c⟩ (by rw [hg]; rfl) hx)
    have BR := Lib.hid (bR ⟨t, a, c⟩)
    clear hown hmap hD hbox hownA END bR hat hx hg hh hr hN hs
    rw [HG.out] at E
    simp only [Tv.val] at E BR
    go_enter Try.func61, Try.ntmps61
    go_wp2_with (at_lookup; refine wpList_lookup_own_ok _ rfl _ _ 86 rfl 9 24 keyed_name Try.underlying86 termR (zeroTm _) (.held zeroV.val) [] rfl bm n D rfl HO.out _ _ rfl hkey ?_; intro v ps hv; obtain rfl := HAT.out v ps hv; rw [HHAS.out]; clear hv)
    obtain ⟨q0, q1, q2, q3, _, _, _, _⟩ := BR.out
    refine bodyPost_ret (v := .tuple #[.agg #[.int .i64 t.kind, .string t.name, .int .i64 t.n, .slice a t.args.length c], .bool true]) (by simp [results, Try.results61, go_sem, q0, q1, q2, q3]) rfl ?_
    exact E.out
  | false =>
    have hg := (hD s).2 hh
    have hat := atKey_of_not_has hh (.held zeroV.val)
    have HAT := Lib.hid (fun (v : Value) (ps : List MemPlace) (h : termR v = some (D.atKey (keyF s) (.held zeroV.val), ps)) => (show v = .agg #[.int .i64 0, .string ⟨#[]⟩, .int .i64 0, .slice none 0 0] from by
      rw [hat] at h
      unfold termR at h
      injection h with h; injection h with h _; injection h))
    have HG := Lib.hid hg
    have HHAS := Lib.hid hh
    have HO := Lib.hid hownA
    have hx : True := trivial
    have E := Lib.hid (END.out zeroV (by rw [hg]; rfl) (zeroV_ok _))
    clear hown hmap hD hbox hownA END bR hat hx hg hh hr hN hs
    rw [HG.out] at E
    simp only [Tv.val, zeroV, zeroT, Tm.kind, Tm.name, Tm.n, Tm.args] at E
    go_enter Try.func61, Try.ntmps61
    go_wp2_with (at_lookup; refine wpList_lookup_own_ok _ rfl _ _ 86 rfl 9 24 keyed_name Try.underlying86 termR (zeroTm _) (.held zeroV.val) [] rfl bm n D rfl HO.out _ _ rfl hkey ?_; intro v ps hv; obtain rfl := HAT.out v ps hv; rw [HHAS.out]; clear hv)
    refine bodyPost_ret (v := .tuple #[.agg #[.int .i64 0, .string ⟨#[]⟩, .int .i64 0, .slice none 0 0], .bool false]) (by simp [results, Try.results61, go_sem]) rfl ?_
    exact E.out

set_option maxRecDepth 100000 in
set_option maxHeartbeats 4000000 in
theorem clone_any (v : Value) (bs : List Bn) (w : World) (hv : Bds w v bs) (hlen : bs.length ≤ 1000000) :
    Calls Try.prog 58 #[v] w fun e w' => ∃ u, e = .returned u ∧ OwnBv w w' w.heap.size u bs ∧ Below w.heap.size w w' := by
  obtain ⟨i0, hi, hz0, hz1, hz2⟩ := info_parts bindInfo
  obtain ⟨a, c, rfl, _, h⟩ := hv
  cases a with
  | none =>
    obtain rfl : bs = [] := by
      rcases h with h | ⟨b, o, ha, _⟩
      · exact h
      · cases ha
    have hEQ := fun W => Lib.run_eql_slice_nil (P := Try.prog) W 27 41 none 0 c 0 0 Try.underlying27
    go_enter Try.func58, Try.ntmps58
    go_wp2_with fail
    go_ret
    exact ⟨_, rfl, ⟨[], rfl, (fun _ h => nomatch h), World.ownsRow_nil _ _ _ _⟩, Below.refl _ _⟩
  | some ad =>
    obtain ⟨vs, hvt, hvo, hnews⟩ : ∃ vs : List Bv, vs.map Bv.bn = bs ∧ (∀ x ∈ vs, x.v.ok w ∧ x.s.size ≤ 9223372036854775807) ∧ ∀ q x, (rowBv vs)[q]? = some x → (w.alloc (.cells #[] 41)).cell? (ad.add q) = some x := by
      rcases h with rfl | ⟨b, o, ha, hlt, hr⟩
      · exact ⟨[], rfl, (fun x hx => by cases hx), fun q x h => by simp [rowBv] at h⟩
      · cases ha
        obtain ⟨vs, hvt, hvo, hc⟩ := rows_vs hr
        exact ⟨vs, hvt, hvo, fun q x hq => by
          rw [addr_row]
          exact (reads_below ((Below.refl _ _).alloc (Nat.le_refl _) _)).cell _ _ (hc q x hq)⟩
    have hvl : vs.length = bs.length := by rw [← hvt, List.length_map]
    have hrl : (rowBv vs).length = bs.length * 5 := by rw [rowBv_length, hvl]
    have HV := Lib.hid (And.intro hvt hvo)
    have H1 := Lib.hid (And.intro hrl (And.intro hnews (rowBv_one' vs)))
    have HVL := Lib.hid hvl
    have HM1 : 0 + bs.length ≤ maxLen := by unfold maxLen; omega
    have HM2 : (0 + bs.length) * 72 ≤ 140737488355328 := by omega
    have HE := Lib.hid (own_empty w w.heap.size 41 5 (Nat.le_refl _))
    have HA := Lib.hid (show Below w.heap.size w (w.alloc (.cells #[] 41)) from (Below.refl _ _).alloc (Nat.le_refl _) _)
    have HSZ := Lib.hid (show w.heap.size ≤ (w.alloc (.cells #[] 41)).heap.size by simp)
    clear hvt hvo hvl hrl hnews h
    have hEQ := fun W => Lib.run_eql_slice_nil (P := Try.prog) W 27 41 (some ad) bs.length c 0 0 Try.underlying27
    go_enter Try.func58, Try.ntmps58
    go_wp2_with (at_builtin; refine wpList_append_own_at _ rfl _ _ 27 rfl w.heap.size 41 i0 (.agg #[.string ⟨#[]⟩, .int .i64 0, .string ⟨#[]⟩, .int .i64 0, .slice none 0 0]) 5 72 Try.underlying27 hi hz0 hz1 hz2 rfl (by decide) _ 0 [] rfl HE.out ad bs.length c (rowBv vs) rfl H1.out.1 H1.out.2.1 H1.out.2.2 HM1 HM2 HSZ.out ?_; intro v6 w6 hown6 hg6 _ hat6)
    go_ret
    refine ⟨_, rfl, ⟨vs, HV.out.1, HV.out.2, ?_⟩, HA.out.grown hg6 HSZ.out fun k e => ?_⟩
    · simpa using hown6
    · cases e; exact Nat.le_refl _
end Go.Proofs.Ytedljdcliilggaa
