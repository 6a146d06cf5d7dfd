/-
  Whether a term has variables, by the program's Ground: a range over All that is left at the first.
-/
import Derived.Test.YtpdbnhhpibpbnaaDoorPAllTm
import Derived.Test.YtpdbnhhpibpbnaaDoorVarsTm
namespace Go.Proofs.YtpdbnhhpibpbnaaDoor
open Go.RowKit Go.Shelf
attribute [local go_sem] Oper.semAt_some

theorem varStep_ne {acc : List ByteArray} (h : acc ≠ []) (x : Tm) : varStep acc x ≠ [] := by
  unfold varStep; split
  · simp
  · exact h
theorem varsL_ne : ∀ (l : List Tm) {acc : List ByteArray}, acc ≠ [] → l.foldl varStep acc ≠ []
  | [], _, h => h
  | x :: l, _, h => by rw [List.foldl_cons]; exact varsL_ne l (varStep_ne h x)
theorem varsL_none : ∀ {l : List Tm}, (∀ x ∈ l, (x.kind == 1) = false) → varsL l = []
  | [], _ => rfl
  | x :: l, h => by
    have h1 := h x (by simp)
    have e : varStep [] x = [] := by unfold varStep; rw [if_neg (by rw [h1]; simp)]
    unfold varsL; rw [List.foldl_cons, e]
    exact varsL_none (l := l) fun y hy => h y (by simp [hy])
theorem varsL_some : ∀ {l : List Tm} {x : Tm}, x ∈ l → (x.kind == 1) = true → varsL l ≠ []
  | y :: l, x, hx, hk => by
    unfold varsL; rw [List.foldl_cons]
    rcases List.mem_cons.1 hx with rfl | hx
    · have e : varStep [] x = [x.name] := by unfold varStep; rw [if_pos ⟨hk, rfl⟩]; rfl
      rw [e]; exact varsL_ne l (by simp)
    · by_cases h : varStep [] y = []
      · rw [h]; exact varsL_some hx hk
      · exact varsL_ne l h
theorem box_kept {W W' : World} {B : Nat} {x0 x1 x2 x3 : Value} (h : Box W B x0 x1 x2 x3) (hb : W'.heap[B]? = W.heap[B]?) : Box W' B x0 x1 x2 x3 := by
  obtain ⟨c0, c1, c2, c3, f0, f1, f2, f3⟩ := h
  constructor <;> simp only [World.cell?, World.frozen?, hb] at * <;> assumption
theorem box_own {β : Type} (B : Nat) (x0 x1 x2 x3 : Value) : Own (fun (_ : β) W => Box W B x0 x1 x2 x3) := fun _ X Y row hs hg hrow => by
  have hc := hs.c0
  have hlt := lt_of_cell hc
  refine box_kept hs (hg.block B hlt fun e => ?_)
  obtain ⟨o, ho, hoc⟩ := hrow B e.symm
  simp only [World.cell?, ho] at hc
  cases o <;> simp_all [Obj.isCells]
theorem box_lt {W : World} {B : Nat} {x0 x1 x2 x3 : Value} (h : Box W B x0 x1 x2 x3) : B < W.heap.size := lt_of_cell h.c0

set_option maxRecDepth 100000 in
set_option maxHeartbeats 2000000 in
theorem pground_tm (x : Tv) (w : World) (hx : x.ok w) :
    Calls Tryd.prog 28 #[x.val] w fun e w' => e = .returned (.bool x.t.vars.isEmpty) ∧ Below w.heap.size w w' := by
  have hS := fun w1 Bt h1 h2 h3 => all_stops Fence.wide rfl (5 - 1) trivial trivial rfl w Bt ⟨x, hx⟩ w1 h1 h2 h3
  have hA := fun w1 => all_in Fence.wide (5 - 1) trivial rfl x w1
  obtain ⟨t, a, c⟩ := x
  simp only [Tv.val] at hS hA ⊢
  refine callsIn_wide.1 (callsIn_of_wp_marks (n := 5) Tryd.func28 rfl trivial ?_ rfl)
  simp only [Tryd.ntmps28, List.size_toArray, List.length_cons, List.length_nil, Nat.reduceAdd, Nat.reduceSub, Array.replicate_succ, Array.replicate_zero, List.push_toArray, List.append_toArray, List.nil_append, List.cons_append]
  gi_wp2_with fail
  refine ⟨trivial, (hA _).mono ?_⟩; rintro e w1 ⟨rfl, rfl⟩
  have hz0 : (w.alloc (.cells #[.int .i64 t.kind, .string t.name, .int .i64 t.n, .slice a t.args.length c] 24)).heap.size = w.heap.size + 1 := by simp
  have hz1 : ((w.alloc (.cells #[.int .i64 t.kind, .string t.name, .int .i64 t.n, .slice a t.args.length c] 24)).alloc (.cells #[.bool false] 4)).heap.size = w.heap.size + 2 := by simp
  have bN := (Boxed.new (w.alloc (.cells #[.int .i64 t.kind, .string t.name, .int .i64 t.n, .slice a t.args.length c] 24)) 4 (.bool false)).alloc (.cells #[.int .i64 t.kind, .string t.name, .int .i64 t.n, .slice a t.args.length c] 24)
  have bX := box_new ((w.alloc (.cells #[.int .i64 t.kind, .string t.name, .int .i64 t.n, .slice a t.args.length c] 24)).alloc (.cells #[.bool false] 4)) (.int .i64 t.kind) (.string t.name) (.int .i64 t.n) (.slice a t.args.length c) 24
  have hB0 : Below w.heap.size w (((w.alloc (.cells #[.int .i64 t.kind, .string t.name, .int .i64 t.n, .slice a t.args.length c] 24)).alloc (.cells #[.bool false] 4)).alloc (.cells #[.int .i64 t.kind, .string t.name, .int .i64 t.n, .slice a t.args.length c] 24)) := (((Below.refl _ w).alloc (Nat.le_refl _) _).alloc (by simp) _).alloc (by simp; omega) _
  have hsz : (((w.alloc (.cells #[.int .i64 t.kind, .string t.name, .int .i64 t.n, .slice a t.args.length c] 24)).alloc (.cells #[.bool false] 4)).alloc (.cells #[.int .i64 t.kind, .string t.name, .int .i64 t.n, .slice a t.args.length c] 24)).heap.size = w.heap.size + 3 := by simp
  rw [hz1] at bX ⊢
  rw [hz0] at bN
  obtain ⟨W0, hW0⟩ : ∃ W0, (((w.alloc (.cells #[.int .i64 t.kind, .string t.name, .int .i64 t.n, .slice a t.args.length c] 24)).alloc (.cells #[.bool false] 4)).alloc (.cells #[.int .i64 t.kind, .string t.name, .int .i64 t.n, .slice a t.args.length c] 24)) = W0 := ⟨_, rfl⟩
  rw [hW0] at bN bX hB0 hsz ⊢
  clear hW0 hz0 hz1
  gi_wp2_with fail
  refine wpIn_rangeFunc_ownH rfl (by omega) (gf := 40) (lb := #[.pointer (some ⟨w.heap.size + 2, 0, none⟩)]) rfl trivial (enters_of Tryd.func40 (by kernel_rfl) rfl)
    (hS W0 (w.heap.size + 2) (by omega) bX hB0) keepsT_t (keepsT_b (by omega)) (Below.refl _ _) (fun _ => rfl)
    (fun (pre : List (TvIn w)) W => (Boxed W (w.heap.size + 1) 4 (.bool false) ∧ (∀ y ∈ tms pre, (y.kind == 1) = false)) ∧ Below w.heap.size w W)
    (fun c (pre : List (TvIn w)) W => ((Boxed W (w.heap.size + 1) 4 (.bool false) ∧ (c = .ret ∧ ∃ y ∈ tms pre, (y.kind == 1) = true))) ∧ Below w.heap.size w W)
    (OwnFrom.and (OwnFrom.and (Own.from (boxed_own _ _ (fun _ : List (TvIn w) => .bool false)) _) (ownFrom_pure _ _)) (ownFrom_below (Nat.le_refl _) (by omega)))
    (fun c => OwnFrom.and (OwnFrom.and (Own.from (boxed_own _ _ (fun _ : List (TvIn w) => .bool false)) _) (ownFrom_pure _ _)) (ownFrom_below (Nat.le_refl _) (by omega)))
    ⟨⟨bN, fun y hy => by cases hy⟩, hB0⟩
    (fun y a' W => ∃ Bx, w.heap.size + 1 < Bx ∧ Box W Bx (.int .i64 y.1.t.kind) (.string y.1.t.name) (.int .i64 y.1.t.n) (.slice y.1.a y.1.t.args.length y.1.c) ∧ a' = { tmps := #[.agg #[.int .i64 t.kind, .string t.name, .int .i64 t.n, .slice a t.args.length c], .pointer (some ⟨w.heap.size, 0, none⟩), .pointer (some ⟨w.heap.size + 1, 0, none⟩), .pointer (some ⟨Bx, 0, none⟩), .agg #[.int .i64 t.kind, .string t.name, .int .i64 t.n, .slice a t.args.length c], .func (.func 40) #[] #[.pointer (some ⟨w.heap.size + 2, 0, none⟩)], .agg #[.int .i64 y.1.t.kind, .string y.1.t.name, .int .i64 y.1.t.n, .slice y.1.a y.1.t.args.length y.1.c], undef, undef, undef], defers := [] })
    (fun y a' _ X Y row hs hg hr => by obtain ⟨Bx, h1, h2, h3⟩ := hs; exact ⟨Bx, h1, box_own Bx _ _ _ _ () X Y row h2 hg (fun r e => (hr r e).2), h3⟩)
    ?assign ?body ?done ?stop
  case assign =>
    rintro l pre y W K ⟨⟨bN1, hv⟩, hB1⟩ hK
    gi_wp2_with fail
    exact hK _ _ ((KeepsOthers.alloc _ _).from _) ((KeepsT.refl _ W).alloc hB1.size _) ⟨⟨bN1.alloc _, hv⟩, hB1.alloc hB1.size _⟩ ⟨W.heap.size, bN1.lt, box_new W _ _ _ _ _, rfl⟩
  case body =>
    rintro l pre y a' W hl _ ⟨⟨bN1, hv⟩, hB1⟩ ⟨Bx, hBx, bX, rfl⟩ hlt
    have c0 := bX.c0
    have cN := bN1.cell
    have fN := bN1.frozen
    have HV := Lib.hid hv
    clear hv
    cases hk : (y.1.t.kind == 1) with
    | true =>
      gi_wp2_with fail
      exact ⟨(KeepsOthers.setCell _ _ _).from _, ⟨bN1.set _, rfl, y.1.t, by rw [tms_append]; exact List.mem_append.2 (.inr (by simp [tms])), hk⟩, hB1.setCell (p := ⟨w.heap.size + 1, 0, none⟩) (by simp) _⟩
    | false =>
      gi_wp2_with fail
      exact ⟨KeepsFrom.refl _ _, KeepsT.refl _ _, ⟨bN1, fun z hz => by
        rw [tms_append] at hz
        rcases List.mem_append.1 hz with hz | hz
        · exact HV.out z hz
        · simp [tms] at hz; rw [hz]; exact hk⟩, hB1⟩
  case done =>
    rintro D ys W hD hys ⟨⟨bN1, hv⟩, hB1⟩ hK
    have fN := bN1.frozen
    have cN := bN1.cell
    rw [hys] at hv
    have hr : t.vars.isEmpty = true := by unfold Tm.vars; rw [varsL_none hv]; rfl
    have HR := Lib.hid hr
    clear hys hv hr
    gi_wp2_with fail
    have bR := bN1.set (.bool true)
    have hK' := (KeepsOthers.setCell W ⟨w.heap.size + 1, 0, none⟩ (.bool true)).same D _ hK rfl
    refine ⟨by simp, .inl ⟨_, _, rfl, run_takeDeferred hK', ?_⟩⟩
    have hc5 := cell_kept bR.cell (grownBy_putObj' _ D (.deferred none)) (fun r e => by cases e; exact ⟨_, hK', rfl⟩)
    refine ⟨.bool true, ?_, by rw [HR.out], (hB1.setCell (p := ⟨w.heap.size + 1, 0, none⟩) (by simp) _).trans (belowK_b (w := w) (Nat.le_refl _) _ D _ _ (by omega) hK' rfl rfl)⟩
    simp [results, Tryd.f28, go_sem, hc5]
  case stop =>
    rintro D c pre W hD hpre ⟨⟨bN1, rfl, y, hy, hk⟩, hB1⟩ hK
    have hr : t.vars.isEmpty = false := by
      have : y ∈ t.all := hpre.subset hy
      have h := varsL_some this hk
      unfold Tm.vars
      cases hh : varsL t.all with
      | nil => exact absurd hh h
      | cons _ _ => rfl
    have HR := Lib.hid hr
    clear hpre hr hk hy
    have cN := bN1.cell
    gi_wp2_with fail
    refine ⟨by simp, .inl ⟨_, _, rfl, run_takeDeferred hK, ?_⟩⟩
    have hc5 := cell_kept bN1.cell (grownBy_putObj' _ D (.deferred none)) (fun r e => by cases e; exact ⟨_, hK, rfl⟩)
    refine ⟨.bool false, ?_, by rw [HR.out], hB1.trans (belowK_b (w := w) (Nat.le_refl _) W D _ _ (by omega) hK rfl rfl)⟩
    simp [results, Tryd.f28, go_sem, hc5]
end Go.Proofs.YtpdbnhhpibpbnaaDoor
