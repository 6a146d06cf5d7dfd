/-
  The chapter's example of layer 7: awake, from what the program's functions answer.
  New memory alone, and nothing drawn. No function of the program.
  Which of two terms is first, by the program's Compare, and whether they are alike, by its Same: for any two terms in memory. Nothing is drawn; new memory alone.
-/
import Derived.Test.YtedljdcliilggaaU13
import Derived.Test.YtedljdcliilggaaU03
import Derived.Deep.RegionHeld3
import Derived.Sort.AtCall
import Derived.Test.YtedljdcliilggaaU04
namespace Go.Proofs.Ytedljdcliilggaa
open Go.RowKit

theorem tms_two7 (w : World) (x y : Tv) (hx : x.ok w) (hy : y.ok w) (t : TypeId) :
    Tms (w.alloc (.cells #[.int .i64 x.t.kind, .string x.t.name, .int .i64 x.t.n, .slice x.a x.t.args.length x.c, .int .i64 y.t.kind, .string y.t.name, .int .i64 y.t.n, .slice y.a y.t.args.length y.c] t)) (.slice (some ⟨w.heap.size, 0, none⟩) 2 2) [x.t, y.t] := by
  have hb : Below w.heap.size w (w.alloc (.cells #[.int .i64 x.t.kind, .string x.t.name, .int .i64 x.t.n, .slice x.a x.t.args.length x.c, .int .i64 y.t.kind, .string y.t.name, .int .i64 y.t.n, .slice y.a y.t.args.length y.c] t)) := (Below.refl _ _).alloc (Nat.le_refl _) _
  refine ⟨_, 2, rfl, by simp, .inr ⟨w.heap.size, 0, rfl, by simp, ?_⟩⟩
  rw [RowAt, RowAt, RowAt]
  have c := World.cell?_alloc_mark w #[.int .i64 x.t.kind, .string x.t.name, .int .i64 x.t.n, .slice x.a x.t.args.length x.c, .int .i64 y.t.kind, .string y.t.name, .int .i64 y.t.n, .slice y.a y.t.args.length y.c] t (0, 0)
  exact ⟨tv_tmAt (hx.below hb) ⟨c 0, c 1, c 2, c 3⟩, tv_tmAt (hy.below hb) ⟨c 4, c 5, c 6, c 7⟩, trivial⟩
def uX : Tm := .mk 1 ⟨#[88]⟩ 0 []
def uY : Tm := .mk 1 ⟨#[89]⟩ 0 []
def uA : Tm := .mk 5 ⟨#[97]⟩ 0 []
def uB : Tm := .mk 5 ⟨#[98]⟩ 0 []
def uP : Tm := .mk 5 ⟨#[102]⟩ 0 [uX, uB]
def uQ : Tm := .mk 5 ⟨#[102]⟩ 0 [uA, uY]
theorem uX_ok (w : World) : Tv.ok w ⟨uX, none, 0⟩ := by
  refine ⟨⟨?_, ?_, ?_, ?_, ?_⟩, ?_, .inl rfl⟩ <;> decide
theorem uY_ok (w : World) : Tv.ok w ⟨uY, none, 0⟩ := by
  refine ⟨⟨?_, ?_, ?_, ?_, ?_⟩, ?_, .inl rfl⟩ <;> decide
theorem uA_ok (w : World) : Tv.ok w ⟨uA, none, 0⟩ := by
  refine ⟨⟨?_, ?_, ?_, ?_, ?_⟩, ?_, .inl rfl⟩ <;> decide
theorem uB_ok (w : World) : Tv.ok w ⟨uB, none, 0⟩ := by
  refine ⟨⟨?_, ?_, ?_, ?_, ?_⟩, ?_, .inl rfl⟩ <;> decide
theorem two_ok7 {w : World} {a : Option Addr} {c : Nat} {x y : Tm} (h : Tms w (.slice a 2 c) [x, y]) : Tv.ok w ⟨.mk 5 ⟨#[102]⟩ 0 [x, y], a, c⟩ := by
  obtain ⟨a', c', e, hargs⟩ := h
  obtain ⟨rfl, rfl⟩ : a = a' ∧ c = c' := by cases e; exact ⟨rfl, rfl⟩
  refine ⟨⟨?_, ?_, ?_, ?_, ?_⟩, hargs⟩ <;> simp only [Tm.kind, Tm.n, Tm.name] <;> decide
theorem plain_dec {t : Tm} (h : ∀ x ∈ t.all, x.args = [] ∧ x.n = 0 ∨ x.kind = 5) : PlainT t := fun x hx hk => by
  rcases h x hx with h | h
  · exact h
  · rw [h] at hk; exact absurd hk (by decide)
theorem uA_plain : PlainT uA := plain_dec (by simp [uA, Tm.all, allL, Tm.kind, Tm.args, Tm.n])
theorem uB_plain : PlainT uB := plain_dec (by simp [uB, Tm.all, allL, Tm.kind, Tm.args, Tm.n])
theorem uP_plain : PlainT uP := plain_dec (by simp [uP, uX, uB, Tm.all, allL, Tm.kind, Tm.args, Tm.n])
theorem uQ_plain : PlainT uQ := plain_dec (by simp [uQ, uY, uA, Tm.all, allL, Tm.kind, Tm.args, Tm.n])
theorem no_var {s : ByteArray} {t : Tm} (h : ∀ x ∈ t.all, x.kind = 1 → x.name ≠ s) : ¬ HasV s t := fun ⟨x, hx, hk, hn⟩ => h x hx hk hn
theorem uA_free (s : ByteArray) : ¬ HasV s uA := no_var (by simp [uA, Tm.all, allL, Tm.kind])
theorem uB_free (s : ByteArray) : ¬ HasV s uB := no_var (by simp [uB, Tm.all, allL, Tm.kind])
theorem uY_free : ¬ HasV uX.name uY := no_var (by
  intro x hx _
  rw [show uY.all = [uY] from by simp [uY, Tm.all, allL], List.mem_singleton] at hx
  subst hx
  show (⟨#[89]⟩ : ByteArray) ≠ ⟨#[88]⟩
  decide)
theorem row_yes : RowU [uP] [uQ] (some [(⟨#[88]⟩, uA), (⟨#[89]⟩, uB)]) := by
  refine RowU.args (fun e => ?_) (by decide) (by decide) (headB_iff.2 ⟨rfl, rfl, rfl⟩) rfl ?_
  · unfold uP uQ at e; injection e with _ _ _ e; injection e with e _; unfold uX uA at e; injection e with e; exact absurd e (by decide)
  · show RowU [uX, uB] [uA, uY] _
    refine RowU.bind (o := some [(⟨#[89]⟩, uB)]) (fun e => ?_) rfl (uA_free _) ?_
    · unfold uX uA at e; injection e with e; exact absurd e (by decide)
    · rw [show appL [(uX.name, uA)] [uB] = [uB] by rw [appL, appL, app_free uB (uB_free _)], show appL [(uX.name, uA)] [uY] = [uY] by rw [appL, appL, app_free uY uY_free]]
      refine RowU.bind' (o := some []) (fun e => ?_) (by decide) rfl (uB_free _) ?_
      · unfold uB uY at e; injection e with e; exact absurd e (by decide)
      · rw [appL]; exact RowU.done _
theorem row_no : RowU [uA] [uB] none := RowU.clash (by decide) (by decide) (fun h => by
  have := headB_iff.1 h.1
  exact absurd this.2.2 (by decide))
theorem uni_yes : ofB (solveL [(⟨#[88]⟩, uA), (⟨#[89]⟩, uB)]) = [(⟨#[88]⟩, uA), (⟨#[89]⟩, uB)] := by
  rw [show solveL [((⟨#[88]⟩ : ByteArray), uA), (⟨#[89]⟩, uB)] = [(⟨#[88]⟩, uA), (⟨#[89]⟩, uB)] by
    rw [solveL, solveL, solveL, appR, appR, appR, app_free uA (uA_free _)]]
  refine ofB_rise ?_
  unfold Rising
  rw [List.pairwise_cons]
  refine ⟨fun x hx => ?_, List.pairwise_singleton _ _⟩
  rw [List.mem_singleton] at hx
  subst hx
  show ltN ⟨#[88]⟩ ⟨#[89]⟩ = true
  unfold ltN; rw [ByteArray.toList_eq, ByteArray.toList_eq]; decide
theorem uP_small : uP.parts ≤ 40 := by decide
theorem uQ_small : uQ.parts ≤ 40 := by decide
theorem uA_small : uA.parts ≤ 40 := by decide
theorem uB_small : uB.parts ≤ 40 := by decide
/-- The two binds of the example, in memory. -/
theorem uni_cells {w : World} {a : Option Addr} {n c : Nat} (h : Bds w (.slice a n c) [(⟨#[88]⟩, uA), (⟨#[89]⟩, uB)]) : n = 2 ∧ ∃ b o a1 c1 a2 c2, a = some ⟨b, o, none⟩ ∧ b < w.heap.size ∧ Tv.ok w ⟨uA, a1, c1⟩ ∧ Tv.ok w ⟨uB, a2, c2⟩ ∧ TvAt w b (o + 1) ⟨uA, a1, c1⟩ ∧ TvAt w b (o + 5 + 1) ⟨uB, a2, c2⟩ := by
  obtain ⟨a', c', e, _, h⟩ := h
  injection e with e1 e2 e3
  refine ⟨e2, ?_⟩
  subst e1
  obtain ⟨b, o, ha, hlt, hr⟩ := h.resolve_left (fun e => by cases e)
  have h0 := (hr 0 _ rfl).2.2
  have h1 := (hr 1 _ rfl).2.2
  obtain ⟨v0, hv0, k0, t0⟩ := tmAt_tv h0
  obtain ⟨v1, hv1, k1, t1⟩ := tmAt_tv h1
  obtain ⟨t, a1, c1⟩ := v0
  obtain ⟨t', a2, c2⟩ := v1
  obtain rfl : t = uA := hv0
  obtain rfl : t' = uB := hv1
  rw [Nat.zero_mul, Nat.add_zero] at t0
  rw [Nat.one_mul] at t1
  exact ⟨b, o, a1, c1, a2, c2, ha, hlt, k0, k1, t0, t1⟩

set_option maxRecDepth 100000 in
set_option maxHeartbeats 4000000 in
theorem awake7_of (PC : AskTwo 11 CanPost) (PU : AskTwo 12 (fun o => RowPost (uniO o))) (w : World) :
    Calls Try.prog 6 #[] w fun e w' => e = .returned (.bool true) ∧ Below w.heap.size w w' := by
  have V := Lib.hid (fun (s : ByteArray) (W : World) => rvar_any s W)
  have F := Lib.hid (fun (s : ByteArray) (a : Option Addr) (l c : Nat) (W : World) => rfun_any s a l c W)
  have M1 := Lib.hid (fun (W : World) (a b : Option Addr) (ha : Tms W (.slice a 2 2) [uX, uB]) (hb : Tms W (.slice b 2 2) [uA, uY]) => (show Calls Try.prog 12 #[.agg #[.int .i64 5, .string ⟨#[102]⟩, .int .i64 0, .slice a 2 2], .agg #[.int .i64 5, .string ⟨#[102]⟩, .int .i64 0, .slice b 2 2]] W (fun e w' => ∃ g o cu, e = Ending.returned (.tuple #[.slice (some ⟨g, o, none⟩) 2 cu, .bool true]) ∧ (∃ a1 c1 a2 c2, g < w'.heap.size ∧ Tv.ok w' ⟨uA, a1, c1⟩ ∧ Tv.ok w' ⟨uB, a2, c2⟩ ∧ TvAt w' g (o + 1) ⟨uA, a1, c1⟩ ∧ TvAt w' g (o + 5 + 1) ⟨uB, a2, c2⟩) ∧ Below W.heap.size W w') from
    (PU ⟨uP, a, 2⟩ ⟨uQ, b, 2⟩ W _ (two_ok7 ha) (two_ok7 hb) uP_plain uQ_plain uP_small uQ_small row_yes).mono (fun e w' ⟨u, h1, h2, h3⟩ => by
      have h2' : Bds w' u (ofB (solveL [(⟨#[88]⟩, uA), (⟨#[89]⟩, uB)])) := h2
      rw [uni_yes] at h2'
      obtain ⟨au, cu, rfl, _⟩ := id h2'
      obtain ⟨_, b, o, a1, c1, a2, c2, rfl, h⟩ := uni_cells h2'
      exact ⟨b, o, cu, h1, ⟨a1, c1, a2, c2, h⟩, h3⟩)))
  have CN := Lib.hid (fun (W : World) => (show Calls Try.prog 11 #[.agg #[.int .i64 5, .string ⟨#[97]⟩, .int .i64 0, .slice none 0 0], .agg #[.int .i64 5, .string ⟨#[98]⟩, .int .i64 0, .slice none 0 0]] W (fun e w' => e = Ending.returned (.bool false) ∧ Below W.heap.size W w') from
    (PC ⟨uA, none, 0⟩ ⟨uB, none, 0⟩ W _ (uA_ok _) (uB_ok _) uA_plain uB_plain uA_small uB_small row_no)))
  have SA := Lib.hid (fun (a : Option Addr) (c : Nat) (W : World) (h : Tv.ok W ⟨uA, a, c⟩) => (show Calls Try.prog 15 #[.agg #[.int .i64 5, .string ⟨#[97]⟩, .int .i64 0, .slice a 0 c], .agg #[.int .i64 5, .string ⟨#[97]⟩, .int .i64 0, .slice none 0 0]] W (fun e w' => e = Ending.returned (.bool true) ∧ Below W.heap.size W w') from
    (same_tm _ ⟨uA, a, c⟩ ⟨uA, none, 0⟩ W (Nat.le_refl _) h (uA_ok _)).mono (fun e w' ⟨h1, h2⟩ => ⟨by rw [h1, eqT_iff.2 rfl], h2⟩)))
  have SB := Lib.hid (fun (a : Option Addr) (c : Nat) (W : World) (h : Tv.ok W ⟨uB, a, c⟩) => (show Calls Try.prog 15 #[.agg #[.int .i64 5, .string ⟨#[98]⟩, .int .i64 0, .slice a 0 c], .agg #[.int .i64 5, .string ⟨#[98]⟩, .int .i64 0, .slice none 0 0]] W (fun e w' => e = Ending.returned (.bool true) ∧ Below W.heap.size W w') from
    (same_tm _ ⟨uB, a, c⟩ ⟨uB, none, 0⟩ W (Nat.le_refl _) h (uB_ok _)).mono (fun e w' ⟨h1, h2⟩ => ⟨by rw [h1, eqT_iff.2 rfl], h2⟩)))
  clear PC PU
  go_enter Try.func6, Try.ntmps6
  go_wp2_with fail
  refine (V.out _ _).mono ?_; rintro e w1 ⟨rfl, hb1⟩
  go_wp2_with fail
  refine (V.out _ _).mono ?_; rintro e w2 ⟨rfl, hb2⟩
  have hbA := below_next hb1 (below_next hb2 (below_two w2 (.cells #[.int .i64 1, .string ⟨#[88]⟩, .int .i64 0, .slice none 0 0] 24) (.cells #[.int .i64 1, .string ⟨#[89]⟩, .int .i64 0, .slice none 0 0] 24)))
  have bX := (box_new w2 (.int .i64 1) (.string ⟨#[88]⟩) (.int .i64 0) (.slice none 0 0) 24).below ((Below.refl _ _).alloc (Nat.le_refl _) (.cells #[.int .i64 1, .string ⟨#[89]⟩, .int .i64 0, .slice none 0 0] 24)) (by simp)
  have bY := alloc_two w2 (.cells #[.int .i64 1, .string ⟨#[88]⟩, .int .i64 0, .slice none 0 0] 24) (.int .i64 1) (.string ⟨#[89]⟩) (.int .i64 0) (.slice none 0 0) 24
  have hzA : ((w2.alloc (.cells #[.int .i64 1, .string ⟨#[88]⟩, .int .i64 0, .slice none 0 0] 24)).alloc (.cells #[.int .i64 1, .string ⟨#[89]⟩, .int .i64 0, .slice none 0 0] 24)).heap.size = w2.heap.size + 2 := by simp
  obtain ⟨wA, hwA⟩ : ∃ wA, wA = (w2.alloc (.cells #[.int .i64 1, .string ⟨#[88]⟩, .int .i64 0, .slice none 0 0] 24)).alloc (.cells #[.int .i64 1, .string ⟨#[89]⟩, .int .i64 0, .slice none 0 0] 24) := ⟨_, rfl⟩
  rw [← hwA] at hbA bX bY hzA
  go_wp2_with fail
  rw [← hwA]
  clear hwA hb1 hb2
  refine (F.out _ _ _ _ _).mono ?_; rintro e w3 ⟨rfl, hb3⟩
  go_wp2_with fail
  refine (F.out _ _ _ _ _).mono ?_; rintro e w4 ⟨rfl, hb4⟩
  have hbC := below_next hb3 (below_next hb4 (below_two w4 (.cells #[.int .i64 5, .string ⟨#[97]⟩, .int .i64 0, .slice none 0 0] 24) (.cells #[.int .i64 5, .string ⟨#[98]⟩, .int .i64 0, .slice none 0 0] 24)))
  have bA := (box_new w4 (.int .i64 5) (.string ⟨#[97]⟩) (.int .i64 0) (.slice none 0 0) 24).below ((Below.refl _ _).alloc (Nat.le_refl _) (.cells #[.int .i64 5, .string ⟨#[98]⟩, .int .i64 0, .slice none 0 0] 24)) (by simp)
  have bB := alloc_two w4 (.cells #[.int .i64 5, .string ⟨#[97]⟩, .int .i64 0, .slice none 0 0] 24) (.int .i64 5) (.string ⟨#[98]⟩) (.int .i64 0) (.slice none 0 0) 24
  have hzC : ((w4.alloc (.cells #[.int .i64 5, .string ⟨#[97]⟩, .int .i64 0, .slice none 0 0] 24)).alloc (.cells #[.int .i64 5, .string ⟨#[98]⟩, .int .i64 0, .slice none 0 0] 24)).heap.size = w4.heap.size + 2 := by simp
  obtain ⟨wc, hwc⟩ : ∃ wc, wc = (w4.alloc (.cells #[.int .i64 5, .string ⟨#[97]⟩, .int .i64 0, .slice none 0 0] 24)).alloc (.cells #[.int .i64 5, .string ⟨#[98]⟩, .int .i64 0, .slice none 0 0] 24) := ⟨_, rfl⟩
  rw [← hwc] at hbC bA bB hzC
  have KEEP := Lib.hid (fun (W : World) (h : Below wc.heap.size wc W) => (show Below wc.heap.size wc W ∧ (W.cell? ⟨w2.heap.size, 0, none⟩ = some (.int .i64 1) ∧ W.cell? ⟨w2.heap.size, 1, none⟩ = some (.string ⟨#[88]⟩) ∧ W.cell? ⟨w2.heap.size, 2, none⟩ = some (.int .i64 0) ∧ W.cell? ⟨w2.heap.size, 3, none⟩ = some (.slice none 0 0)) ∧ (W.cell? ⟨w2.heap.size + 1, 0, none⟩ = some (.int .i64 1) ∧ W.cell? ⟨w2.heap.size + 1, 1, none⟩ = some (.string ⟨#[89]⟩) ∧ W.cell? ⟨w2.heap.size + 1, 2, none⟩ = some (.int .i64 0) ∧ W.cell? ⟨w2.heap.size + 1, 3, none⟩ = some (.slice none 0 0)) ∧ (W.cell? ⟨w4.heap.size, 0, none⟩ = some (.int .i64 5) ∧ W.cell? ⟨w4.heap.size, 1, none⟩ = some (.string ⟨#[97]⟩) ∧ W.cell? ⟨w4.heap.size, 2, none⟩ = some (.int .i64 0) ∧ W.cell? ⟨w4.heap.size, 3, none⟩ = some (.slice none 0 0)) ∧ (W.cell? ⟨w4.heap.size + 1, 0, none⟩ = some (.int .i64 5) ∧ W.cell? ⟨w4.heap.size + 1, 1, none⟩ = some (.string ⟨#[98]⟩) ∧ W.cell? ⟨w4.heap.size + 1, 2, none⟩ = some (.int .i64 0) ∧ W.cell? ⟨w4.heap.size + 1, 3, none⟩ = some (.slice none 0 0)) from by
    have b1 := bX.below (below_next hbC h) (by omega)
    have b2 := bY.below (below_next hbC h) (by omega)
    have b3 := bA.below h (by omega)
    have b4 := bB.below h (by omega)
    exact ⟨h, ⟨b1.c0, b1.c1, b1.c2, b1.c3⟩, ⟨b2.c0, b2.c1, b2.c2, b2.c3⟩, ⟨b3.c0, b3.c1, b3.c2, b3.c3⟩, ⟨b4.c0, b4.c1, b4.c2, b4.c3⟩⟩))
  have HWC := Lib.hid (below_next hbA hbC)
  have KA := Lib.hid (fun (W : World) (o : Obj) (h : Below wc.heap.size wc W) => (show Below wc.heap.size wc (W.alloc o) from h.alloc h.size o))
  have AD := Lib.hid (fun (W : World) (h : Below wc.heap.size wc W) => (show Below wc.heap.size wc W.drew from h.drew))
  have FF := Lib.hid (fun (s : ByteArray) (a : Option Addr) (l c : Nat) (W : World) (h : Below wc.heap.size wc W) => (F.out s a l c W).mono (fun e w' ⟨he, hb⟩ => (show e = Ending.returned (.agg #[.int .i64 5, .string s, .int .i64 0, .slice a l c]) ∧ Below W.heap.size W w' ∧ Below wc.heap.size wc w' from ⟨he, hb, below_next h hb⟩)))
  have AL := Lib.hid (fun (W : World) (o : Obj) => (show Below W.heap.size W (W.alloc o) from (Below.refl _ _).alloc (Nat.le_refl _) _))
  have DR := Lib.hid (fun (W : World) => (show Below W.heap.size W W.drew from (Below.refl _ _).drew))
  have TX := Lib.hid (fun (W : World) => (show Tms (W.alloc (.cells #[.int .i64 1, .string ⟨#[88]⟩, .int .i64 0, .slice none 0 0, .int .i64 5, .string ⟨#[98]⟩, .int .i64 0, .slice none 0 0] 24)) (.slice (some ⟨W.heap.size, 0, none⟩) 2 2) [uX, uB] from tms_two7 W ⟨uX, none, 0⟩ ⟨uB, none, 0⟩ (uX_ok _) (uB_ok _) 24))
  have TY := Lib.hid (fun (W : World) => (show Tms (W.alloc (.cells #[.int .i64 5, .string ⟨#[97]⟩, .int .i64 0, .slice none 0 0, .int .i64 1, .string ⟨#[89]⟩, .int .i64 0, .slice none 0 0] 24)) (.slice (some ⟨W.heap.size, 0, none⟩) 2 2) [uA, uY] from tms_two7 W ⟨uA, none, 0⟩ ⟨uY, none, 0⟩ (uA_ok _) (uY_ok _) 24))
  have TX1 := Lib.hid (fun (W : World) (o : Obj) => (show Tms ((W.alloc o).alloc (.cells #[.int .i64 1, .string ⟨#[88]⟩, .int .i64 0, .slice none 0 0, .int .i64 5, .string ⟨#[98]⟩, .int .i64 0, .slice none 0 0] 24)) (.slice (some ⟨W.heap.size + 1, 0, none⟩) 2 2) [uX, uB] from by
    have h := TX.out (W.alloc o)
    rw [show (W.alloc o).heap.size = W.heap.size + 1 by simp] at h
    exact h))
  have TY1 := Lib.hid (fun (W : World) (o : Obj) => (show Tms ((W.alloc o).alloc (.cells #[.int .i64 5, .string ⟨#[97]⟩, .int .i64 0, .slice none 0 0, .int .i64 1, .string ⟨#[89]⟩, .int .i64 0, .slice none 0 0] 24)) (.slice (some ⟨W.heap.size + 1, 0, none⟩) 2 2) [uA, uY] from by
    have h := TY.out (W.alloc o)
    rw [show (W.alloc o).heap.size = W.heap.size + 1 by simp] at h
    exact h))
  have R0 := Lib.hid (Below.refl wc.heap.size wc)
  have B0 := Lib.hid (AD.out _ R0.out)
  have B1 := Lib.hid (fun o => AD.out _ (KA.out wc o R0.out))
  have B2 := Lib.hid (fun o o' => AD.out _ (KA.out _ o' (KA.out wc o R0.out)))
  have HWE := Lib.hid hwc
  clear bX bY bA bB hbA hzA hb3 hb4 hzC hbC V F
  obtain ⟨_, ⟨p0, p1, p2, p3⟩, ⟨q0, q1, q2, q3⟩, ⟨r0, r1, r2, r3⟩, ⟨s0, s1, s2, s3⟩⟩ := KEEP.out wc R0.out
  rw [hwc] at p0 p1 p2 p3 q0 q1 q2 q3 r0 r1 r2 r3 s0 s1 s2 s3
  clear hwc
  go_wp2_with fail
  rw [← HWE.out] at p0 p1 p2 p3 q0 q1 q2 q3 r0 r1 r2 r3 s0 s1 s2 s3 ⊢
  clear HWE
  have h0d := B0.out
  go_region_held3 (fun W => Below wc.heap.size wc W ∧ (W.cell? ⟨w2.heap.size, 0, none⟩ = some (.int .i64 1) ∧ W.cell? ⟨w2.heap.size, 1, none⟩ = some (.string ⟨#[88]⟩) ∧ W.cell? ⟨w2.heap.size, 2, none⟩ = some (.int .i64 0) ∧ W.cell? ⟨w2.heap.size, 3, none⟩ = some (.slice none 0 0)) ∧ (W.cell? ⟨w2.heap.size + 1, 0, none⟩ = some (.int .i64 1) ∧ W.cell? ⟨w2.heap.size + 1, 1, none⟩ = some (.string ⟨#[89]⟩) ∧ W.cell? ⟨w2.heap.size + 1, 2, none⟩ = some (.int .i64 0) ∧ W.cell? ⟨w2.heap.size + 1, 3, none⟩ = some (.slice none 0 0)) ∧ (W.cell? ⟨w4.heap.size, 0, none⟩ = some (.int .i64 5) ∧ W.cell? ⟨w4.heap.size, 1, none⟩ = some (.string ⟨#[97]⟩) ∧ W.cell? ⟨w4.heap.size, 2, none⟩ = some (.int .i64 0) ∧ W.cell? ⟨w4.heap.size, 3, none⟩ = some (.slice none 0 0)) ∧ (W.cell? ⟨w4.heap.size + 1, 0, none⟩ = some (.int .i64 5) ∧ W.cell? ⟨w4.heap.size + 1, 1, none⟩ = some (.string ⟨#[98]⟩) ∧ W.cell? ⟨w4.heap.size + 1, 2, none⟩ = some (.int .i64 0) ∧ W.cell? ⟨w4.heap.size + 1, 3, none⟩ = some (.slice none 0 0))) (first | exact KEEP.out _ (by with_reducible assumption) | exact KEEP.out _ B0.out | exact KEEP.out _ (B1.out _) | exact KEEP.out _ (B2.out _ _) | exact KEEP.out _ (KA.out _ _ (by with_reducible assumption)))
    ((first
      | (go_at_call 12; refine (M1.out w9 _ _ (by first | exact (TX.out wc).below (below_next (AL.out _ _) (below_next (DR.out _) (below_next hW8 hW9))) | exact (TX1.out wc _).below (below_next (DR.out _) (below_next hW8 hW9)) | exact (TX.out wc).below (below_next (DR.out _) (below_next hW8 (below_next (AL.out _ _) hW9)))) (by first | exact (TY1.out wc _).below (below_next (DR.out _) (below_next hW8 hW9)) | exact (TY.out wc).below (below_next (AL.out _ _) (below_next (DR.out _) (below_next hW8 hW9))) | exact (TY.out w8).below hW9)).mono ?_; rintro e w10 ⟨g, o, cu, rfl, hcl, hW10⟩; have hn10 := below_next hn9 hW10)
      | (go_at_call 21; refine (FF.out _ _ _ _ _ (by first | with_reducible exact hn8 | with_reducible exact KA.out _ _ hn8)).mono ?_; rintro e w9 ⟨rfl, hW9, hn9⟩)
      | (go_at_call 21; refine (FF.out _ _ _ _ _ (by first | with_reducible exact B1.out _ | with_reducible exact B2.out _ _)).mono ?_; rintro e w8 ⟨rfl, hW8, hn8⟩)))
  all_goals
    have H10 := Lib.hid hn10
    obtain ⟨a1, c1, a2, c2, hg, k1, k2, t1, t2⟩ := hcl
    have KP := Lib.hid (fun (W : World) (h : Below w10.heap.size w10 W) => (show Below w10.heap.size w10 W ∧ (W.cell? ⟨g, o + 1, none⟩ = some (.int .i64 5) ∧ W.cell? ⟨g, o + 1 + 1, none⟩ = some (.string ⟨#[97]⟩) ∧ W.cell? ⟨g, o + 1 + 2, none⟩ = some (.int .i64 0) ∧ W.cell? ⟨g, o + 1 + 3, none⟩ = some (.slice a1 0 c1)) ∧ (W.cell? ⟨g, o + 5 + 1, none⟩ = some (.int .i64 5) ∧ W.cell? ⟨g, o + 5 + 1 + 1, none⟩ = some (.string ⟨#[98]⟩) ∧ W.cell? ⟨g, o + 5 + 1 + 2, none⟩ = some (.int .i64 0) ∧ W.cell? ⟨g, o + 5 + 1 + 3, none⟩ = some (.slice a2 0 c2)) ∧ (W.cell? ⟨w4.heap.size, 0, none⟩ = some (.int .i64 5) ∧ W.cell? ⟨w4.heap.size, 1, none⟩ = some (.string ⟨#[97]⟩) ∧ W.cell? ⟨w4.heap.size, 2, none⟩ = some (.int .i64 0) ∧ W.cell? ⟨w4.heap.size, 3, none⟩ = some (.slice none 0 0)) ∧ (W.cell? ⟨w4.heap.size + 1, 0, none⟩ = some (.int .i64 5) ∧ W.cell? ⟨w4.heap.size + 1, 1, none⟩ = some (.string ⟨#[98]⟩) ∧ W.cell? ⟨w4.heap.size + 1, 2, none⟩ = some (.int .i64 0) ∧ W.cell? ⟨w4.heap.size + 1, 3, none⟩ = some (.slice none 0 0)) from by
      have e1 := t1.below h
      have e2 := t2.below h
      obtain ⟨_, _, _, b3, b4⟩ := KEEP.out W (below_next H10.out h)
      exact ⟨h, ⟨e1.c0, e1.c1, e1.c2, e1.c3⟩, ⟨e2.c0, e2.c1, e2.c2, e2.c3⟩, b3, b4⟩))
    have HK := Lib.hid (fun (W : World) (h : Below w10.heap.size w10 W) => (show Tv.ok W ⟨uA, a1, c1⟩ ∧ Tv.ok W ⟨uB, a2, c2⟩ from ⟨k1.below h, k2.below h⟩))
    clear hn8 hn9 hn10 hW8 hW9 hW10 p0 p1 p2 p3 q0 q1 q2 q3 r0 r1 r2 r3 s0 s1 s2 s3 h0d hg k1 k2 t1 t2 KEEP M1 FF KA AD AL TX TY TX1 TY1 R0 B0 B1 B2
    have D10 := Lib.hid (DR.out w10)
    have h0d := D10.out
    obtain ⟨_, ⟨p0, p1, p2, p3⟩, ⟨q0, q1, q2, q3⟩, ⟨r0, r1, r2, r3⟩, ⟨s0, s1, s2, s3⟩⟩ := KP.out w10 (Below.refl _ _)
    go_wp2_with fail
    go_region_held3 (fun W => Below w10.heap.size w10 W ∧ (W.cell? ⟨g, o + 1, none⟩ = some (.int .i64 5) ∧ W.cell? ⟨g, o + 1 + 1, none⟩ = some (.string ⟨#[97]⟩) ∧ W.cell? ⟨g, o + 1 + 2, none⟩ = some (.int .i64 0) ∧ W.cell? ⟨g, o + 1 + 3, none⟩ = some (.slice a1 0 c1)) ∧ (W.cell? ⟨g, o + 5 + 1, none⟩ = some (.int .i64 5) ∧ W.cell? ⟨g, o + 5 + 1 + 1, none⟩ = some (.string ⟨#[98]⟩) ∧ W.cell? ⟨g, o + 5 + 1 + 2, none⟩ = some (.int .i64 0) ∧ W.cell? ⟨g, o + 5 + 1 + 3, none⟩ = some (.slice a2 0 c2)) ∧ (W.cell? ⟨w4.heap.size, 0, none⟩ = some (.int .i64 5) ∧ W.cell? ⟨w4.heap.size, 1, none⟩ = some (.string ⟨#[97]⟩) ∧ W.cell? ⟨w4.heap.size, 2, none⟩ = some (.int .i64 0) ∧ W.cell? ⟨w4.heap.size, 3, none⟩ = some (.slice none 0 0)) ∧ (W.cell? ⟨w4.heap.size + 1, 0, none⟩ = some (.int .i64 5) ∧ W.cell? ⟨w4.heap.size + 1, 1, none⟩ = some (.string ⟨#[98]⟩) ∧ W.cell? ⟨w4.heap.size + 1, 2, none⟩ = some (.int .i64 0) ∧ W.cell? ⟨w4.heap.size + 1, 3, none⟩ = some (.slice none 0 0))) (first | exact KP.out _ (by with_reducible assumption) | exact KP.out _ D10.out)
      ((first
        | (go_at_call 11; refine (CN.out w12).mono ?_; rintro e w13 ⟨rfl, hW13⟩; have hn13 := below_next hn12 hW13)
        | (go_at_call 15; refine (SB.out a2 c2 w11 (HK.out w11 hn11).2).mono ?_; rintro e w12 ⟨rfl, hW12⟩; have hn12 := below_next hn11 hW12)
        | (go_at_call 15; refine (SA.out a1 c1 _ (HK.out _ D10.out).1).mono ?_; rintro e w11 ⟨rfl, hW11⟩; have hn11 := below_next D10.out hW11)))
    have HE := Lib.hid (below_next HWC.out (below_next H10.out hn13))
    clear hn11 hn12 hn13 hW11 hW12 hW13 p0 p1 p2 p3 q0 q1 q2 q3 r0 r1 r2 r3 s0 s1 s2 s3 h0d
    go_wp2_with fail
    go_ret
    exact ⟨rfl, HE.out⟩
end Go.Proofs.Ytedljdcliilggaa

namespace Go.Proofs.Ytedljdcliilggaa
open Go.RowKit

/-- New memory alone, and nothing drawn. -/
structure Onto (w w' : World) : Prop where
  below : Below w.heap.size w w'
  drawn : w'.drawn = w.drawn
theorem Onto.refl (w : World) : Onto w w := ⟨Below.refl _ _, rfl⟩
theorem Onto.alloc {w w' : World} (h : Onto w w') (o : Obj) : Onto w (w'.alloc o) := ⟨h.below.alloc h.below.size o, h.drawn⟩
theorem Onto.next {w w1 w2 : World} (h : Onto w w1) (k : Onto w1 w2) : Onto w w2 := ⟨below_next h.below k.below, k.drawn.trans h.drawn⟩
end Go.Proofs.Ytedljdcliilggaa

namespace Go.Proofs.Ytedljdcliilggaa
open Go.RowKit

set_option maxHeartbeats 400000 in
theorem nanI_any (a : Int) (w : World) : Calls Try.prog 82 #[.int .i64 a] w fun e w' => e = .returned (.bool false) ∧ w = w' := by
  have h : (a != a) = false := by simp
  go_enter Try.func82, Try.ntmps82
  go_wp2
  go_ret
  exact ⟨rfl, rfl⟩
set_option maxHeartbeats 400000 in
theorem nanS_any (s : ByteArray) (w : World) : Calls Try.prog 83 #[.string s] w fun e w' => e = .returned (.bool false) ∧ w = w' := by
  have h : (s.toList == s.toList) = true := by simp
  go_enter Try.func83, Try.ntmps83
  go_wp2
  go_ret
  exact ⟨rfl, rfl⟩
set_option maxHeartbeats 400000 in
theorem cmpI_any (a b : Int) (w : World) : Calls Try.prog 75 #[.int .i64 a, .int .i64 b] w fun e w' => e = .returned (.int .i64 (cmpI a b)) ∧ w = w' := by
  have N1 := Lib.hid (fun w => nanI_any a w)
  have N2 := Lib.hid (fun w => nanI_any b w)
  rcases (show a < b ∨ b < a ∨ a = b from by omega) with h | h | h
  · have hr := Lib.hid (show cmpI a b = -1 from by unfold cmpI; rw [if_pos h])
    go_enter Try.func75, Try.ntmps75
    go_wp2_with fail
    refine (N1.out _).mono ?_; rintro e w1 ⟨rfl, rfl⟩
    go_wp2_with fail
    refine (N2.out _).mono ?_; rintro e w1 ⟨rfl, rfl⟩
    go_wp2_with fail
    go_ret
    exact ⟨ret_int hr.out.symm, rfl⟩
  · have hr := Lib.hid (show cmpI a b = 1 from by unfold cmpI; rw [if_neg (by omega), if_pos h])
    have h' : ¬ a < b := by omega
    go_enter Try.func75, Try.ntmps75
    go_wp2_with fail
    refine (N1.out _).mono ?_; rintro e w1 ⟨rfl, rfl⟩
    go_wp2_with fail
    refine (N2.out _).mono ?_; rintro e w1 ⟨rfl, rfl⟩
    go_wp2_with fail
    go_ret
    exact ⟨ret_int hr.out.symm, rfl⟩
  · have hr := Lib.hid (show cmpI a b = 0 from by unfold cmpI; rw [if_neg (by omega), if_neg (by omega)])
    have h1 : ¬ a < b := by omega
    have h2 : ¬ b < a := by omega
    clear h
    go_enter Try.func75, Try.ntmps75
    go_wp2_with fail
    refine (N1.out _).mono ?_; rintro e w1 ⟨rfl, rfl⟩
    go_wp2_with fail
    refine (N2.out _).mono ?_; rintro e w1 ⟨rfl, rfl⟩
    go_wp2_with fail
    go_ret
    exact ⟨ret_int hr.out.symm, rfl⟩
set_option maxHeartbeats 400000 in
theorem cmpS_any (s t : ByteArray) (w : World) : Calls Try.prog 76 #[.string s, .string t] w fun e w' => e = .returned (.int .i64 (cmpS s t)) ∧ w = w' := by
  have N1 := Lib.hid (fun w => nanS_any s w)
  have N2 := Lib.hid (fun w => nanS_any t w)
  rcases texts_ways s t with ⟨h1, hr⟩ | ⟨h1, h2, hr⟩ | ⟨h1, h2, hr⟩
  all_goals
    have HR := Lib.hid hr
    clear hr
    go_enter Try.func76, Try.ntmps76
    go_wp2_with fail
    refine (N1.out _).mono ?_; rintro e w1 ⟨rfl, rfl⟩
    go_wp2_with fail
    refine (N2.out _).mono ?_; rintro e w1 ⟨rfl, rfl⟩
    go_wp2_with fail
    go_ret
    exact ⟨ret_int HR.out.symm, rfl⟩

/-- What Compare answers of two terms with fewer parts than m. -/
def CmpUpto (m : Nat) : Prop := ∀ (x y : Tv) (w : World), x.t.parts ≤ m → x.ok w → y.ok w →
    Calls Try.prog 67 #[x.val, y.val] w fun e w' => e = .returned (.int .i64 (cmpT x.t y.t)) ∧ Onto w w'

set_option maxRecDepth 100000 in
set_option maxHeartbeats 4000000 in
theorem cmpFunc_tm (m : Nat) (hC : CmpUpto m) (v u : Value) (xs ys : List Tm) (w : World) (hl : xs.length = ys.length) (hm : ∀ j (h : j < xs.length), xs[j].parts ≤ m) (hx : Tms w v xs) (hy : Tms w u ys) :
    Calls Try.prog 77 #[v, u, .func (.func 67) #[] #[]] w fun e w' => e = .returned (.int .i64 (cmpL xs ys)) ∧ Onto w w' := by
  obtain ⟨a, c, rfl, hxl, hxr⟩ := hx
  obtain ⟨a', c', rfl, hyl, hyr⟩ := hy
  have HC := Lib.hid hC
  have HL := Lib.hid hl
  have HM := Lib.hid hm
  have hq : ¬ (xs.length : Int) < (ys.length : Int) := by omega
  clear hC hl hm
  rcases hxr with rfl | ⟨b, off, rfl, hlt, hr⟩
  · have : ys = [] := by simpa using HL.out.symm
    subst this
    have h0 := Lib.hid (show cmpL [] [] = 0 from by rw [cmpL])
    go_enter Try.func77, Try.ntmps77
    go_wp2_with fail
    refine wp_loop_rounds 1 ?_; rw [rounds_succ]
    go_wp2_with fail
    go_ret
    exact ⟨ret_int h0.out.symm, Onto.refl _⟩
  rcases hyr with rfl | ⟨b', off', rfl, hlt', hr'⟩
  · have : xs = [] := by simpa using HL.out
    subst this
    have h0 := Lib.hid (show cmpL [] [] = 0 from by rw [cmpL])
    go_enter Try.func77, Try.ntmps77
    go_wp2_with fail
    refine wp_loop_rounds 1 ?_; rw [rounds_succ]
    go_wp2_with fail
    go_ret
    exact ⟨ret_int h0.out.symm, Onto.refl _⟩
  have HR := Lib.hid hr
  have HR' := Lib.hid hr'
  clear hr hr'
  go_enter Try.func77, Try.ntmps77
  go_wp2_with fail
  go_loopw [13] (fun i wr => ∃ j : Nat, j ≤ xs.length ∧ i = .int .i64 j ∧ CmpTo xs ys j ∧ Onto w wr) (fun i _ => xs.length - (intOf i).toNat)
  case atStart => exact ⟨0, Nat.zero_le _, rfl, (fun j _ _ hk => by omega), Onto.refl _⟩
  case round =>
    obtain ⟨j, hj, rfl, hal, hb⟩ := hrel
    have HA := Lib.hid hal
    clear hal
    by_cases hj1 : j < xs.length
    · have hj2 : j < ys.length := by have := HL.out; omega
      have hi1 : (j : Int) < (xs.length : Int) := by omega
      have hi2 : (j : Int) < (ys.length : Int) := by omega
      have hi3 : ¬ (ys.length : Int) ≤ (j : Int) := by omega
      obtain ⟨p, hu, huk, d0, d1, d2, d3⟩ := tmAt_tv ((rowAt_get HR.out hj1).below hb.below)
      obtain ⟨q, hv, hvk, hqa⟩ := tmAt_tv ((rowAt_get HR'.out hj2).below hb.below)
      obtain ⟨g0, g1, g2, g3⟩ := hqa.below ((Below.refl wr.heap.size wr).alloc (Nat.le_refl _) (.cells #[.int .i64 p.t.kind, .string p.t.name, .int .i64 p.t.n, .slice p.a p.t.args.length p.c] 24))
      have C := Lib.hid (fun w' (h : Below wr.heap.size wr w') => HC.out p q w' (by rw [hu]; exact HM.out j hj1) (huk.below h) (hvk.below h))
      have HU := Lib.hid hu
      have HV := Lib.hid hv
      have hbs := hb.below.size
      simp only [Tv.val] at C
      clear hu hv huk hvk hqa
      obtain ⟨r, hrr⟩ : ∃ r, r = cmpT p.t q.t := ⟨_, rfl⟩
      rw [← hrr] at C
      by_cases hr0 : r = 0
      · have HCC := Lib.hid (show cmpT xs[j] ys[j] = 0 from by rw [← HU.out, ← HV.out, ← hrr]; exact hr0)
        subst hr0
        clear hrr
        go_wp2_with fail
        refine (C.out _ (((Below.refl _ _).alloc (Nat.le_refl _) _).alloc (by simp) _)).mono ?_; rintro e w5 ⟨rfl, hb1⟩
        go_wp2_with fail
        go_roundw
        case rel => exact ⟨j + 1, by omega, by go_num, HA.out.succ hj1 hj2 HCC.out, ((hb.alloc _).alloc _).next hb1⟩
        case measure => simp [intOf]; omega
      · have HCC := Lib.hid (show cmpL xs ys = r from by rw [cmpL_at hj1 hj2 HA.out (by rw [← HU.out, ← HV.out, ← hrr]; exact hr0), hrr, HU.out, HV.out])
        have hq : (r != 0) = true := by rw [bne_iff_ne]; exact hr0
        clear hrr hr0
        go_wp2_with fail
        refine (C.out _ (((Below.refl _ _).alloc (Nat.le_refl _) _).alloc (by simp) _)).mono ?_; rintro e w5 ⟨rfl, hb1⟩
        go_wp2_with fail
        go_ret
        exact ⟨ret_int HCC.out.symm, ((hb.alloc _).alloc _).next hb1⟩
    · obtain rfl : j = xs.length := by omega
      have h0 := Lib.hid (show cmpL xs ys = 0 from cmpL_same fun j h1 h2 => HA.out j h1 h2 h1)
      go_wp2_with fail
      go_ret
      exact ⟨ret_int h0.out.symm, hb⟩

theorem cmpI_ne {a b : Int} (h : a ≠ b) : cmpI a b ≠ 0 := fun e => h (cmpI_zero.1 e)
theorem cmpS_ne {s t : ByteArray} (h : (s.toList == t.toList) = false) : cmpS s t ≠ 0 := fun e => by rw [cmpS_zero] at e; rw [e] at h; simp at h
theorem cmpS_eq {s t : ByteArray} (h : (s.toList == t.toList) = true) : cmpS s t = 0 := by rw [cmpS_zero]; simpa using h

set_option maxRecDepth 100000 in
set_option maxHeartbeats 4000000 in
theorem pcompare_tm (m : Nat) : CmpUpto m := by
  induction m with
  | zero => intro x y w h; have := parts_pos x.t; omega
  | succ m ih =>
    intro x y w hm hx hy
    obtain ⟨⟨k, s, n, xs⟩, a, c⟩ := x
    obtain ⟨⟨k', s', n', ys⟩, a', c'⟩ := y
    obtain ⟨_, hxa⟩ := hx
    obtain ⟨_, hya⟩ := hy
    simp only [Tv.val, Tm.kind, Tm.name, Tm.n, Tm.args] at hxa hya hm ⊢
    have hpl : ∀ j (h : j < xs.length), xs[j].parts ≤ m := fun j h => by
      have := parts_arg (.mk k s n xs) (j := j) h
      have e : (Tm.mk k s n xs).args[j] = xs[j] := rfl
      rw [e] at this; omega
    have hbb : Onto w ((w.alloc (.cells #[.int .i64 k, .string s, .int .i64 n, .slice a xs.length c] 24)).alloc (.cells #[.int .i64 k', .string s', .int .i64 n', .slice a' ys.length c'] 24)) := ((Onto.refl _).alloc _).alloc _
    have hE : cmpT (.mk k s n xs) (.mk k' s' n' ys) = if cmpI k k' ≠ 0 then cmpI k k' else if cmpI n n' ≠ 0 then cmpI n n' else if cmpS s s' ≠ 0 then cmpS s s' else if cmpI xs.length ys.length ≠ 0 then cmpI xs.length ys.length else cmpL xs ys := by rw [cmpT]
    have C1 := Lib.hid (fun w => cmpI_any k k' w)
    have C2 := Lib.hid (fun w => cmpI_any n n' w)
    have C3 := Lib.hid (fun w => cmpS_any s s' w)
    have C4 := Lib.hid (fun w => cmpI_any (xs.length : Int) (ys.length : Int) w)
    have CL := Lib.hid (fun hl w' (h : Below w.heap.size w w') => cmpFunc_tm m ih (.slice a xs.length c) (.slice a' ys.length c') xs ys w' hl hpl ⟨a, c, rfl, hxa.below h⟩ ⟨a', c', rfl, hya.below h⟩)
    clear ih hpl hm
    have hll := hxa.1
    have hll' := hya.1
    clear hxa hya
    by_cases h1 : k = k'
    case neg =>
      have hr := Lib.hid (show cmpT (.mk k s n xs) (.mk k' s' n' ys) = cmpI k k' from by rw [hE, if_pos (cmpI_ne h1)])
      have hq : (k != k') = true := by rw [bne_iff_ne]; exact h1
      clear hE h1
      go_enter Try.func67, Try.ntmps67
      go_wp2_with fail
      refine (C1.out _).mono ?_; rintro e w1 ⟨rfl, rfl⟩
      go_wp2_with fail
      go_ret
      exact ⟨ret_int hr.out.symm, hbb⟩
    have e1 := cmpI_zero.2 h1
    have q1 : (k != k') = false := by simp [h1]
    clear C1
    by_cases h2 : n = n'
    case neg =>
      have hr := Lib.hid (show cmpT (.mk k s n xs) (.mk k' s' n' ys) = cmpI n n' from by rw [hE, if_neg (by rw [e1]; simp), if_pos (cmpI_ne h2)])
      have hq : (n != n') = true := by rw [bne_iff_ne]; exact h2
      clear hE h1 h2 e1
      go_enter Try.func67, Try.ntmps67
      go_wp2_with fail
      refine (C2.out _).mono ?_; rintro e w1 ⟨rfl, rfl⟩
      go_wp2_with fail
      go_ret
      exact ⟨ret_int hr.out.symm, hbb⟩
    have e2 := cmpI_zero.2 h2
    have q2 : (n != n') = false := by simp [h2]
    clear C2
    cases h3 : (s.toList == s'.toList) with
    | false =>
      have hr := Lib.hid (show cmpT (.mk k s n xs) (.mk k' s' n' ys) = cmpS s s' from by rw [hE, if_neg (by rw [e1]; simp), if_neg (by rw [e2]; simp), if_pos (cmpS_ne h3)])
      clear hE h1 h2 e1 e2
      go_enter Try.func67, Try.ntmps67
      go_wp2_with fail
      refine (C3.out _).mono ?_; rintro e w1 ⟨rfl, rfl⟩
      go_wp2_with fail
      go_ret
      exact ⟨ret_int hr.out.symm, hbb⟩
    | true =>
      have e3 := cmpS_eq h3
      clear C3
      by_cases h4 : cmpI xs.length ys.length = 0
      case neg =>
        have hr := Lib.hid (show cmpT (.mk k s n xs) (.mk k' s' n' ys) = cmpI xs.length ys.length from by rw [hE, if_neg (by rw [e1]; simp), if_neg (by rw [e2]; simp), if_neg (by rw [e3]; simp), if_pos h4])
        obtain ⟨z, hz⟩ : ∃ z, z = cmpI (xs.length : Int) (ys.length : Int) := ⟨_, rfl⟩
        rw [← hz] at h4 hr C4
        have hq : (z != 0) = true := by rw [bne_iff_ne]; exact h4
        clear hE h1 h2 e1 e2 e3 h4 hz
        go_enter Try.func67, Try.ntmps67
        go_wp2_with fail
        refine (C4.out _).mono ?_; rintro e w1 ⟨rfl, rfl⟩
        go_wp2_with fail
        go_ret
        exact ⟨ret_int hr.out.symm, hbb⟩
      have hr := Lib.hid (show cmpT (.mk k s n xs) (.mk k' s' n' ys) = cmpL xs ys from by rw [hE, if_neg (by rw [e1]; simp), if_neg (by rw [e2]; simp), if_neg (by rw [e3]; simp), if_neg (by simpa using h4)])
      have C := Lib.hid (CL.out (by have := cmpI_zero.1 h4; omega))
      rw [h4] at C4
      clear hE h1 h2 e1 e2 e3 h4 CL
      go_enter Try.func67, Try.ntmps67
      go_wp2_with fail
      refine (C4.out _).mono ?_; rintro e w1 ⟨rfl, rfl⟩
      go_wp2_with fail
      refine (C.out _ hbb.below).mono ?_; rintro e w2 ⟨rfl, hb2⟩
      go_wp2_with fail
      go_ret
      exact ⟨ret_int hr.out.symm, hbb.next hb2⟩

set_option maxHeartbeats 1000000 in
theorem psame_tm (x y : Tv) (w : World) (hx : x.ok w) (hy : y.ok w) :
    Calls Try.prog 55 #[x.val, y.val] w fun e w' => e = .returned (.bool (eqT x.t y.t)) ∧ Onto w w' := by
  have C := Lib.hid (fun w' (h : Below w.heap.size w w') => pcompare_tm x.t.parts x y w' (Nat.le_refl _) (hx.below h) (hy.below h))
  have hie : ((cmpT x.t y.t == 0) = eqT x.t y.t) := by
    rw [Bool.eq_iff_iff, beq_iff_eq, eqT_iff]; exact cmpT_iff
  have HR := Lib.hid hie
  obtain ⟨tx, ax, cx⟩ := x
  obtain ⟨ty, ay, cy⟩ := y
  simp only [Tv.val] at *
  have hbb : Onto w ((w.alloc (.cells #[.int .i64 tx.kind, .string tx.name, .int .i64 tx.n, .slice ax tx.args.length cx] 24)).alloc (.cells #[.int .i64 ty.kind, .string ty.name, .int .i64 ty.n, .slice ay ty.args.length cy] 24)) := ((Onto.refl _).alloc _).alloc _
  clear hx hy hie
  obtain ⟨z, hz⟩ : ∃ z, z = cmpT tx ty := ⟨_, rfl⟩
  obtain ⟨q, hq⟩ : ∃ q, q = eqT tx ty := ⟨_, rfl⟩
  rw [← hz] at C HR
  rw [← hq] at HR ⊢
  clear hz hq
  go_enter Try.func55, Try.ntmps55
  go_wp2_with fail
  refine (C.out _ hbb.below).mono ?_; rintro e w1 ⟨rfl, hb1⟩
  go_wp2_with fail
  go_ret
  exact ⟨ret_bool HR.out, hbb.next hb1⟩
end Go.Proofs.Ytedljdcliilggaa
