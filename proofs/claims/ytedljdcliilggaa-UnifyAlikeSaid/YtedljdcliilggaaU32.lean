/-
  Whether a variable of a name stands in a term, by the program's Occurs: a range over All that is left at the first.
  One bind more among what was found, in memory: the table, the row of binds and the row of parts, one behind the other. No function of the program.
  A variable bound, by the program: the method bind of what was found.
-/
import Derived.Test.YtedljdcliilggaaU26
import Derived.Test.YtedljdcliilggaaU25
import Derived.Test.YtedljdcliilggaaU24
import Derived.Deep.AppendLies
import Derived.Test.YtedljdcliilggaaU31
import Derived.Test.YtedljdcliilggaaU09
import Derived.Deep.RegionLaw
import Derived.Deep.DeepCutAuto
namespace Go.Proofs.Ytedljdcliilggaa
open Go.RowKit Go.Shelf
attribute [local go_sem] Oper.semAt_some

theorem keepsT_of {n₀ : Nat} {W W' : World} (h : Below W.heap.size W W') (hn : n₀ ≤ W.heap.size) : KeepsT n₀ W W' := ⟨h.mono hn, fun k c f _ hk => by rw [h.block k (Array.getElem?_eq_some_iff.1 hk).1]; exact hk⟩
theorem keepsFrom_of {B : Nat} {W W' : World} (h : Below W.heap.size W W') : KeepsFrom B W W' := ⟨h.size, fun k o _ hk _ => by rw [h.block k (Array.getElem?_eq_some_iff.1 hk).1]; exact hk⟩
theorem boxed_below {W W' : World} {B : Nat} {t : TypeId} {v : Value} (hb : Boxed W B t v) (h : Below W.heap.size W W') : Boxed W' B t v := by
  have h1 : W.heap[B]? = some (Obj.cells #[v] t (0, 0)) := hb
  show W'.heap[B]? = _
  rw [h.block B (Array.getElem?_eq_some_iff.1 h1).1]; exact h1
/-- Whether a part is that variable. -/
def isV (s : ByteArray) (y : Tm) : Bool := varB y && (y.name.toList == s.toList)
/-- Whether a variable of that name stands in a term. -/
def occB (s : ByteArray) (t : Tm) : Bool := t.all.any (isV s)
theorem occB_iff {s : ByteArray} {t : Tm} (hp : PlainT t) : occB s t = true ↔ HasV s t := by
  unfold occB HasV
  rw [List.any_eq_true]
  constructor
  · rintro ⟨x, hx, h⟩
    unfold isV at h
    rw [Bool.and_eq_true, beq_name] at h
    refine ⟨x, hx, ?_, h.2⟩
    have h1 := h.1
    unfold varB at h1
    simp only [Bool.and_eq_true, beq_iff_eq] at h1
    exact h1.1.1
  · rintro ⟨x, hx, hk, hs⟩
    refine ⟨x, hx, ?_⟩
    unfold isV
    rw [Bool.and_eq_true, beq_name]
    refine ⟨?_, hs⟩
    obtain ⟨h1, h2⟩ := hp x hx hk
    unfold varB
    rw [hk, h1, h2]; rfl

set_option maxRecDepth 100000 in
set_option maxHeartbeats 2000000 in
theorem occurs_any (s : ByteArray) (x : Tv) (w : World) (hx : x.ok w) :
    Calls Try.prog 69 #[.string s, x.val] w fun e w' => e = .returned (.bool (occB s x.t)) ∧ Below w.heap.size w w' := by
  have hS := fun w1 Bt h1 h2 h3 => all_stops Fence.wide rfl (5 - 1) trivial trivial rfl w Bt ⟨x, hx⟩ w1 h1 h2 h3
  have hA := fun w1 => all_in Fence.wide (5 - 1) trivial rfl x w1
  obtain ⟨t, a, c⟩ := x
  simp only [Tv.val] at hS hA ⊢
  refine callsIn_wide.1 (callsIn_of_wp_marks (n := 5) Try.func69 rfl trivial ?_ rfl)
  simp only [Try.ntmps69, List.size_toArray, List.length_cons, List.length_nil, Nat.reduceAdd, Nat.reduceSub, Array.replicate_succ, Array.replicate_zero, List.push_toArray, List.append_toArray, List.nil_append, List.cons_append]
  gi_wp2_with fail
  refine ⟨trivial, (hA _).mono ?_⟩; rintro e w1 ⟨rfl, rfl⟩
  have hz1 : (w.alloc (.cells #[.string s] 9)).heap.size = w.heap.size + 1 := by simp
  have hz2 : ((w.alloc (.cells #[.string s] 9)).alloc (.cells #[.int .i64 t.kind, .string t.name, .int .i64 t.n, .slice a t.args.length c] 24)).heap.size = w.heap.size + 2 := by simp
  have hz3 : (((w.alloc (.cells #[.string s] 9)).alloc (.cells #[.int .i64 t.kind, .string t.name, .int .i64 t.n, .slice a t.args.length c] 24)).alloc (.cells #[.bool false] 4)).heap.size = w.heap.size + 3 := by simp
  have hz4 : ((((w.alloc (.cells #[.string s] 9)).alloc (.cells #[.int .i64 t.kind, .string t.name, .int .i64 t.n, .slice a t.args.length c] 24)).alloc (.cells #[.bool false] 4)).alloc (.cells #[.int .i64 t.kind, .string t.name, .int .i64 t.n, .slice a t.args.length c] 24)).heap.size = w.heap.size + 4 := by simp
  have bS := (((Boxed.new w 9 (.string s)).alloc (.cells #[.int .i64 t.kind, .string t.name, .int .i64 t.n, .slice a t.args.length c] 24)).alloc (.cells #[.bool false] 4)).alloc (.cells #[.int .i64 t.kind, .string t.name, .int .i64 t.n, .slice a t.args.length c] 24)
  have bN := (Boxed.new ((w.alloc (.cells #[.string s] 9)).alloc (.cells #[.int .i64 t.kind, .string t.name, .int .i64 t.n, .slice a t.args.length c] 24)) 4 (.bool false)).alloc (.cells #[.int .i64 t.kind, .string t.name, .int .i64 t.n, .slice a t.args.length c] 24)
  have bX := box_new (((w.alloc (.cells #[.string s] 9)).alloc (.cells #[.int .i64 t.kind, .string t.name, .int .i64 t.n, .slice a t.args.length c] 24)).alloc (.cells #[.bool false] 4)) (.int .i64 t.kind) (.string t.name) (.int .i64 t.n) (.slice a t.args.length c) 24
  have hB0 : Below w.heap.size w ((((w.alloc (.cells #[.string s] 9)).alloc (.cells #[.int .i64 t.kind, .string t.name, .int .i64 t.n, .slice a t.args.length c] 24)).alloc (.cells #[.bool false] 4)).alloc (.cells #[.int .i64 t.kind, .string t.name, .int .i64 t.n, .slice a t.args.length c] 24)) := ((((Below.refl _ w).alloc (Nat.le_refl _) _).alloc (by rw [hz1]; omega) _).alloc (by rw [hz2]; omega) _).alloc (by rw [hz3]; omega) _
  rw [hz2] at bN
  rw [hz3] at bX
  clear hz1 hz2
  simp only [Nat.add_assoc, Nat.reduceAdd] at hz3 ⊢
  rw [hz3]
  clear hz3
  obtain ⟨W0, hW0⟩ : ∃ W0, ((((w.alloc (.cells #[.string s] 9)).alloc (.cells #[.int .i64 t.kind, .string t.name, .int .i64 t.n, .slice a t.args.length c] 24)).alloc (.cells #[.bool false] 4)).alloc (.cells #[.int .i64 t.kind, .string t.name, .int .i64 t.n, .slice a t.args.length c] 24)) = W0 := ⟨_, rfl⟩
  rw [hW0] at bS bN bX hB0 hz4 ⊢
  clear hW0
  gi_wp2_with fail
  refine wpIn_rangeFunc_ownH rfl (by omega) (gf := 84) (lb := #[.pointer (some ⟨w.heap.size + 3, 0, none⟩)]) rfl trivial (enters_of Try.func84 (by kernel_rfl) rfl)
    (hS W0 (w.heap.size + 3) (by omega) bX hB0) keepsT_t (keepsT_b (by omega)) (Below.refl _ _) (fun _ => rfl)
    (fun (pre : List (TvIn w)) W => ((Boxed W w.heap.size 9 (.string s) ∧ Boxed W (w.heap.size + 2) 4 (.bool false)) ∧ (∀ y ∈ tms pre, isV s y = false)) ∧ Below w.heap.size w W)
    (fun c (pre : List (TvIn w)) W => ((Boxed W (w.heap.size + 2) 4 (.bool true) ∧ (c = .ret ∧ ∃ y ∈ tms pre, isV s y = true))) ∧ Below w.heap.size w W)
    (OwnFrom.and (OwnFrom.and (OwnFrom.and (Own.from (boxed_own _ _ (fun _ : List (TvIn w) => .string s)) _) (Own.from (boxed_own _ _ (fun _ : List (TvIn w) => .bool false)) _)) (ownFrom_pure _ _)) (ownFrom_below (Nat.le_refl _) (by omega)))
    (fun c => OwnFrom.and (OwnFrom.and (Own.from (boxed_own _ _ (fun _ : List (TvIn w) => .bool true)) _) (ownFrom_pure _ _)) (ownFrom_below (Nat.le_refl _) (by omega)))
    ⟨⟨⟨bS, bN⟩, fun y hy => by cases hy⟩, hB0⟩
    (fun y a' W => ∃ Bx, w.heap.size + 2 < Bx ∧ Box W Bx (.int .i64 y.1.t.kind) (.string y.1.t.name) (.int .i64 y.1.t.n) (.slice y.1.a y.1.t.args.length y.1.c) ∧ a' = { tmps := #[.string s, .agg #[.int .i64 t.kind, .string t.name, .int .i64 t.n, .slice a t.args.length c], .pointer (some ⟨w.heap.size, 0, none⟩), .pointer (some ⟨w.heap.size + 1, 0, none⟩), .pointer (some ⟨w.heap.size + 2, 0, none⟩), .pointer (some ⟨Bx, 0, none⟩), .agg #[.int .i64 t.kind, .string t.name, .int .i64 t.n, .slice a t.args.length c], .func (.func 84) #[] #[.pointer (some ⟨w.heap.size + 3, 0, none⟩)], .agg #[.int .i64 y.1.t.kind, .string y.1.t.name, .int .i64 y.1.t.n, .slice y.1.a y.1.t.args.length y.1.c], undef, undef, undef, undef, undef, undef, undef, undef], defers := [] })
    (fun y a' _ X Y row hs hg hr => by obtain ⟨Bx, h1, h2, h3⟩ := hs; exact ⟨Bx, h1, box_own Bx _ _ _ _ () X Y row h2 hg (fun r e => (hr r e).2), h3⟩)
    ?assign ?body ?done ?stop
  case assign =>
    rintro l pre y W K ⟨⟨⟨bS1, bN1⟩, hv⟩, hB1⟩ hK
    gi_wp2_with fail
    exact hK _ _ ((KeepsOthers.alloc _ _).from _) ((KeepsT.refl _ W).alloc hB1.size _) ⟨⟨⟨bS1.alloc _, bN1.alloc _⟩, hv⟩, hB1.alloc hB1.size _⟩ ⟨W.heap.size, bN1.lt, box_new W _ _ _ _ _, rfl⟩
  case body =>
    rintro l pre y a' W hl _ ⟨⟨⟨bS1, bN1⟩, hv⟩, hB1⟩ ⟨Bx, hBx, bX, rfl⟩ hlt
    have hbX := bX
    obtain ⟨x0, x1, x2, x3, _, _, _, _⟩ := bX
    have cS := bS1.cell
    have cN := bN1.cell
    have fN := bN1.frozen
    have HV := Lib.hid hv
    have hB1s := hB1.size
    clear hv
    have C := variable_any y.1 W
    simp only [Tv.val] at C
    cases hk : varB y.1.t with
    | false =>
      have HK := Lib.hid (show isV s y.1.t = false from by unfold isV; rw [hk]; rfl)
      rw [hk] at C
      clear hk
      gi_wp2_with fail
      refine ⟨trivial, (CallsIn.inRound l (callsIn_wide.2 C)).mono ?_⟩; clear C; rintro e W3 ⟨rfl, hO⟩
      gi_wp2_with fail
      exact ⟨keepsFrom_of hO, keepsT_of hO (by omega), ⟨⟨boxed_below bS1 hO, boxed_below bN1 hO⟩, fun z hz => by
        rw [tms_append] at hz
        rcases List.mem_append.1 hz with hz | hz
        · exact HV.out z hz
        · simp [tms] at hz; rw [hz]; exact HK.out⟩, below_next hB1 hO⟩
    | true =>
      rw [hk] at C
      cases he : (y.1.t.name.toList == s.toList) with
      | false =>
        have HK := Lib.hid (show isV s y.1.t = false from by unfold isV; rw [hk, he]; rfl)
        clear hk
        gi_wp2_with fail
        refine ⟨trivial, (CallsIn.inRound l (callsIn_wide.2 C)).mono ?_⟩; clear C; rintro e W3 ⟨rfl, hO⟩
        have hbX3 := hbX.below hO (box_lt hbX)
        obtain ⟨y0, y1, y2, y3, _, _, _, _⟩ := hbX3
        have cS3 := (boxed_below bS1 hO).cell
        gi_wp2_with fail
        exact ⟨keepsFrom_of hO, keepsT_of hO (by omega), ⟨⟨boxed_below bS1 hO, boxed_below bN1 hO⟩, fun z hz => by
          rw [tms_append] at hz
          rcases List.mem_append.1 hz with hz | hz
          · exact HV.out z hz
          · simp [tms] at hz; rw [hz]; exact HK.out⟩, below_next hB1 hO⟩
      | true =>
        have HK := Lib.hid (show isV s y.1.t = true from by unfold isV; rw [hk, he]; rfl)
        clear hk
        gi_wp2_with fail
        refine ⟨trivial, (CallsIn.inRound l (callsIn_wide.2 C)).mono ?_⟩; clear C; rintro e W3 ⟨rfl, hO⟩
        have hbX3 := hbX.below hO (box_lt hbX)
        obtain ⟨y0, y1, y2, y3, _, _, _, _⟩ := hbX3
        have cS3 := (boxed_below bS1 hO).cell
        have bN3 := boxed_below bN1 hO
        have cN3 := bN3.cell
        have fN3 := bN3.frozen
        gi_wp2_with fail
        exact ⟨(keepsFrom_of hO).trans ((KeepsOthers.setCell _ _ _).from _), ⟨bN3.set _, rfl, y.1.t, by rw [tms_append]; exact List.mem_append.2 (.inr (by simp [tms])), HK.out⟩, (below_next hB1 hO).setCell (p := ⟨w.heap.size + 2, 0, none⟩) (by simp) _⟩
  case done =>
    rintro D ys W hD hys ⟨⟨⟨bS1, bN1⟩, hv⟩, hB1⟩ hK
    have fN := bN1.frozen
    have cN := bN1.cell
    rw [hys] at hv
    have hr : occB s t = false := by unfold occB; rw [List.any_eq_false]; exact fun y hy => by rw [hv y hy]; simp
    have HR := Lib.hid hr
    clear hys hv hr
    gi_wp2_with fail
    have bR := bN1.set (.bool false)
    have hK' := (KeepsOthers.setCell W ⟨w.heap.size + 2, 0, none⟩ (.bool false)).same D _ hK rfl
    refine ⟨by simp, .inl ⟨_, _, rfl, run_takeDeferred hK', ?_⟩⟩
    have hc5 := cell_kept bR.cell (grownBy_putObj' _ D (.deferred none)) (fun r e => by cases e; exact ⟨_, hK', rfl⟩)
    refine ⟨.bool false, ?_, by rw [HR.out], (hB1.setCell (p := ⟨w.heap.size + 2, 0, none⟩) (by simp) _).trans (belowK_b (w := w) (Nat.le_refl _) _ D _ _ (by omega) hK' rfl rfl)⟩
    simp [results, Try.f69, go_sem, hc5]
  case stop =>
    rintro D c pre W hD hpre ⟨⟨bN1, rfl, y, hy, hk⟩, hB1⟩ hK
    have hr : occB s t = true := by unfold occB; rw [List.any_eq_true]; exact ⟨y, hpre.subset hy, hk⟩
    have HR := Lib.hid hr
    clear hpre hr hk hy
    have cN := bN1.cell
    gi_wp2_with fail
    refine ⟨by simp, .inl ⟨_, _, rfl, run_takeDeferred hK, ?_⟩⟩
    have hc5 := cell_kept bN1.cell (grownBy_putObj' _ D (.deferred none)) (fun r e => by cases e; exact ⟨_, hK, rfl⟩)
    refine ⟨.bool true, ?_, by rw [HR.out], hB1.trans (belowK_b (w := w) (Nat.le_refl _) W D _ _ (by omega) hK rfl rfl)⟩
    simp [results, Try.f69, go_sem, hc5]
end Go.Proofs.Ytedljdcliilggaa

namespace Go.Proofs.Ytedljdcliilggaa
open Go.RowKit Go.Maps

theorem grownBy_set (w : World) (a : Addr) (u : Value) : w.grownBy (w.setCell a u) (some a.block) :=
  ⟨rfl, rfl, rfl, by simp [World.setCell], fun k _ hne => Below.heap_setCell _ _ _ _ (fun e => hne (by rw [e]))⟩
theorem drew_below (w : World) : Below w.heap.size w w.drew := (Below.refl _ _).drew
/-- The blocks of what was found are of four kinds. -/
structure Kinds (W : World) (fb bm : Nat) (vb vn : Value) : Prop where
  box : ∃ c, W.heap[fb]? = some (.cells c 61 (0, 0))
  map : ∃ es ck, W.heap[bm]? = some (.map es ck)
  row : ∀ g, vb.ownBlock = some g → ∃ c, W.heap[g]? = some (.cells c 41 (0, 0))
  now : ∀ g, vn.ownBlock = some g → ∃ c, W.heap[g]? = some (.cells c 83 (0, 0))
theorem FnAt.kinds {w0 W : World} {fb bm : Nat} {vb vn : Value} {l : List Bn} {ps : List Pv} (h : FnAt w0 W fb bm vb vn l ps) : Kinds W fb bm vb vn where
  box := ⟨_, h.box⟩
  map := by obtain ⟨D, ⟨es, ck, h1, _⟩, _⟩ := h.table; exact ⟨es, ck, h1⟩
  row := fun g hg => by obtain ⟨vs, _, _, h1⟩ := h.row; exact own_block h1 hg
  now := fun g hg => own_block h.now hg
theorem Kinds.fm {W : World} {fb bm : Nat} {vb vn : Value} (h : Kinds W fb bm vb vn) : fb ≠ bm := fun e => by
  obtain ⟨c, h1⟩ := h.box; obtain ⟨es, ck, h2⟩ := h.map
  rw [e, h2] at h1; cases h1
theorem Kinds.fr {W : World} {fb bm : Nat} {vb vn : Value} (h : Kinds W fb bm vb vn) : some fb ≠ vb.ownBlock := fun e => by
  obtain ⟨c, h1⟩ := h.box; obtain ⟨c2, h2⟩ := h.row fb e.symm
  rw [h2] at h1; simp at h1
theorem Kinds.fn {W : World} {fb bm : Nat} {vb vn : Value} (h : Kinds W fb bm vb vn) : some fb ≠ vn.ownBlock := fun e => by
  obtain ⟨c, h1⟩ := h.box; obtain ⟨c2, h2⟩ := h.now fb e.symm
  rw [h2] at h1; simp at h1
theorem Kinds.mr {W : World} {fb bm : Nat} {vb vn : Value} (h : Kinds W fb bm vb vn) : some bm ≠ vb.ownBlock := fun e => by
  obtain ⟨es, ck, h1⟩ := h.map; obtain ⟨c2, h2⟩ := h.row bm e.symm
  rw [h2] at h1; cases h1
theorem Kinds.mn {W : World} {fb bm : Nat} {vb vn : Value} (h : Kinds W fb bm vb vn) : some bm ≠ vn.ownBlock := fun e => by
  obtain ⟨es, ck, h1⟩ := h.map; obtain ⟨c2, h2⟩ := h.now bm e.symm
  rw [h2] at h1; cases h1
theorem Kinds.rn {W : World} {fb bm : Nat} {vb vn : Value} (h : Kinds W fb bm vb vn) {g : Nat} (hg : vb.ownBlock = some g) : some g ≠ vn.ownBlock := fun e => by
  obtain ⟨c, h1⟩ := h.row g hg; obtain ⟨c2, h2⟩ := h.now g e.symm
  rw [h2] at h1; simp at h1
theorem own_grown {w W : World} {base : Nat} {e : TypeId} {size : Nat} {v : Value} {n : Nat} {xs : List Value} {row : Option Nat} (h : w.ownsRow base e size v n xs) (hg : w.grownBy W row) (hne : ∀ g, v.ownBlock = some g → some g ≠ row) : W.ownsRow base e size v n xs :=
  own_same h fun g h1 => by
    obtain ⟨c, h2⟩ := own_block h h1
    exact hg.block g (Array.getElem?_eq_some_iff.1 h2).1 (hne g h1)
theorem map_grown {H : Type} {P : Program} {k : TypeId} {R : Value → Option (DataW H × List MemPlace)} {b n : Nat} {D : DataW H} {w W : World} {row : Option Nat} (h : w.ownsMap P k R b n D) (hg : w.grownBy W row) (hne : some b ≠ row) : W.ownsMap P k R b n D := h.kept hg hne
theorem box_grown {w W : World} {b : Nat} {o : Obj} {row : Option Nat} (h : w.heap[b]? = some o) (hg : w.grownBy W row) (hne : some b ≠ row) : W.heap[b]? = some o :=
  (hg.block b (Array.getElem?_eq_some_iff.1 h).1 hne).trans h
/-- The table written. -/
structure Mid1 (w1 w6 w7 : World) (fb bm : Nat) (vb vn : Value) (l : List Bn) (s : ByteArray) (D : DataW Unit) (vs : List Bv) (ps : List Pv) : Prop where
  box : w7.heap[fb]? = some (.cells #[vb, .map (some bm), vn] 61 (0, 0))
  row : w7.ownsRow 0 41 5 vb l.length (rowBv vs)
  now : w7.ownsRow 0 83 5 vn ps.length (rowPv ps)
  map : w7.ownsMap Try.prog 9 (plainElem Try.prog 3) bm (l.length + 1) (D.put (keyF s) (.lit (.int .i64 l.length)))
  step : Step (InFn fb bm vb vn) w1 w6 w1 w7
theorem mid1 {w1 w6 w7 : World} {fb bm : Nat} {vb vn : Value} {l : List Bn} {ps : List Pv} {s : ByteArray} {D : DataW Unit} {vs : List Bv} (hF : FnAt w1 w6 fb bm vb vn l ps) (hr : Reads w1 w6) (hvr : w6.ownsRow 0 41 5 vb l.length (rowBv vs))
    (hm : w7.ownsMap Try.prog 9 (plainElem Try.prog 3) bm (l.length + 1) (D.put (keyF s) (.lit (.int .i64 l.length)))) (hg : w6.drew.grownBy w7 (some bm)) : Mid1 w1 w6 w7 fb bm vb vn l s D vs ps where
  box := box_grown (w := w6.drew) hF.box hg (fun e => hF.kinds.fm (Option.some.inj e))
  row := own_grown (w := w6.drew) hvr hg (fun g h1 e => hF.kinds.mr (by rw [h1, ← e]))
  now := own_grown (w := w6.drew) hF.now hg (fun g h1 e => hF.kinds.mn (by rw [h1, ← e]))
  map := hm
  step := ((Step.refl hr).below (drew_below w6)).grown hg fun g e => by obtain rfl := Option.some.inj e; exact ⟨hF.blm, fun _ => .inr (.inl rfl)⟩
/-- The row of binds written, and the box. -/
structure Mid2 (w1 w6 w9 : World) (fb bm : Nat) (vb v8 vn : Value) (l : List Bn) (s : ByteArray) (D : DataW Unit) (xs : List Value) (ps : List Pv) : Prop where
  box : w9.heap[fb]? = some (.cells #[v8, .map (some bm), vn] 61 (0, 0))
  row : w9.ownsRow 0 41 5 v8 (l.length + 1) xs
  now : w9.ownsRow 0 83 5 vn ps.length (rowPv ps)
  map : w9.ownsMap Try.prog 9 (plainElem Try.prog 3) bm (l.length + 1) (D.put (keyF s) (.lit (.int .i64 l.length)))
  step : Step (InFn fb bm vb vn) w1 w6 w1 w9
  bl : ∀ g, v8.ownBlock = some g → Blind w1 g ∧ (vb.ownBlock = some g ∨ w6.heap.size ≤ g)
theorem mid2 {w1 w6 w7 w8 w9 : World} {fb bm : Nat} {vb v8 vn : Value} {l : List Bn} {ps : List Pv} {s : ByteArray} {D : DataW Unit} {vs : List Bv} {xs : List Value} {o1 : Obj} (hF : FnAt w1 w6 fb bm vb vn l ps) (h : Mid1 w1 w6 w7 fb bm vb vn l s D vs ps)
    (hg : ((w7.alloc o1).drew).grownBy w8 vb.ownBlock) (h8 : w8.ownsRow 0 41 5 v8 (l.length + 1) xs) (ha : v8.ownBlock = vb.ownBlock ∨ v8.ownBlock = some ((w7.alloc o1).drew).heap.size) (hw : w9 = w8.setCell ⟨fb, 0, none⟩ v8) : Mid2 w1 w6 w9 fb bm vb v8 vn l s D xs ps := by
  have hk := hF.kinds
  have hA : Below w7.heap.size w7 ((w7.alloc o1).drew) := ((Below.refl _ _).alloc (Nat.le_refl _) _).drew
  have hk7 : fb < w7.heap.size := (Array.getElem?_eq_some_iff.1 h.box).1
  have b8 : w8.heap[fb]? = some (.cells #[vb, .map (some bm), vn] 61 (0, 0)) := box_grown ((hA.block fb hk7).trans h.box) hg hk.fr
  have hset := grownBy_set w8 ⟨fb, 0, none⟩ v8
  have hne : ∀ g, v8.ownBlock = some g → some g ≠ some fb := fun g h1 e => by
    obtain ⟨c, h2⟩ := own_block h8 h1
    rw [Option.some.inj e, b8] at h2; simp at h2
  subst hw
  have hs7 := h.step.size
  exact {
    box := by
      have := heap_setCell_same (o := 0) b8 v8
      rw [this]; rfl
    row := own_grown h8 hset hne
    now := own_grown (own_grown (own_same h.now fun g h1 => hA.block g (by obtain ⟨c, h2⟩ := own_block h.now h1; exact (Array.getElem?_eq_some_iff.1 h2).1)) hg (fun g h1 e => hk.rn e.symm (by rw [h1]))) hset (fun g h1 e => hk.fn (by rw [h1, ← e]))
    map := map_grown (map_grown (map_same h.map (hA.block bm h.map.lt)) hg hk.mr) hset (fun e => hk.fm (Option.some.inj e).symm)
    step := ((h.step.below hA).grown hg fun g e => ⟨hF.blb g e, fun _ => .inr (.inr (.inl e))⟩).set (p := ⟨fb, 0, none⟩) hF.blf (fun _ => .inl rfl) v8
    bl := fun g h1 => by
      rcases ha with e | e
      · rw [e] at h1; exact ⟨hF.blb g h1, .inl h1⟩
      · rw [e] at h1
        obtain rfl := Option.some.inj h1
        have h2 := h.step.on.size
        have h3 : ((w7.alloc o1).drew).heap.size = w7.heap.size + 1 := by show (w7.alloc o1).heap.size = _; simp
        exact ⟨blind_new (by omega), .inr (by omega)⟩ }
/-- The row of parts written, and the box. -/
theorem mid3 {w1 w6 w9 w10 w11 : World} {fb bm : Nat} {vb v8 vn v10 : Value} {l : List Bn} {ps : List Pv} {s : ByteArray} {D : DataW Unit} {vs : List Bv} {z : Tv} {o2 : Obj} (hF : FnAt w1 w6 fb bm vb vn l ps) (h : Mid2 w1 w6 w9 fb bm vb v8 vn l s D (rowBv vs ++ (Bv.mk s z).cells) ps)
    (hvm : vs.map Bv.bn = l) (hvo : ∀ x ∈ vs, x.v.ok w1 ∧ x.s.size ≤ 9223372036854775807) (hD : NameAt D l) (hz : z.ok w1) (hs : s.size ≤ 9223372036854775807)
    (hg : ((w9.alloc o2).drew).grownBy w10 vn.ownBlock) (h10 : w10.ownsRow 0 83 5 v10 (ps.length + 1) (rowPv ps ++ (Pv.mk z (l.length + 1)).cells)) (ha : v10.ownBlock = vn.ownBlock ∨ v10.ownBlock = some ((w9.alloc o2).drew).heap.size) (hw : w11 = w10.setCell ⟨fb, 2, none⟩ v10) :
    FnAt w1 w11 fb bm v8 v10 (l ++ [(s, z.t)]) (ps ++ [⟨z, l.length + 1⟩]) ∧ Step (InFn fb bm vb vn) w1 w6 w1 w11 ∧ (∀ g, v8.ownBlock = some g → vb.ownBlock = some g ∨ w6.heap.size ≤ g) ∧ (∀ g, v10.ownBlock = some g → vn.ownBlock = some g ∨ w6.heap.size ≤ g) := by
  have hk := hF.kinds
  have hA : Below w9.heap.size w9 ((w9.alloc o2).drew) := ((Below.refl _ _).alloc (Nat.le_refl _) _).drew
  have hk9 : fb < w9.heap.size := (Array.getElem?_eq_some_iff.1 h.box).1
  have b10 : w10.heap[fb]? = some (.cells #[v8, .map (some bm), vn] 61 (0, 0)) := box_grown ((hA.block fb hk9).trans h.box) hg hk.fn
  have hset := grownBy_set w10 ⟨fb, 2, none⟩ v10
  have hne : ∀ g, v10.ownBlock = some g → some g ≠ some fb := fun g h1 e => by
    obtain ⟨c, h2⟩ := own_block h10 h1
    rw [Option.some.inj e, b10] at h2; simp at h2
  have hrn : ∀ g, v8.ownBlock = some g → some g ≠ vn.ownBlock := fun g h1 e => by
    obtain ⟨c, h2⟩ := own_block h.row h1
    obtain ⟨c2, h3⟩ := own_block h.now e.symm
    rw [h2] at h3; simp at h3
  have hrf : ∀ g, v8.ownBlock = some g → some g ≠ some fb := fun g h1 e => by
    obtain ⟨c, h2⟩ := own_block h.row h1
    rw [Option.some.inj e, h.box] at h2; simp at h2
  subst hw
  have hs9 := h.step.size
  have blnew : ∀ g, v10.ownBlock = some g → Blind w1 g ∧ (vn.ownBlock = some g ∨ w6.heap.size ≤ g) := fun g h1 => by
    rcases ha with e | e
    · rw [e] at h1; exact ⟨hF.bln g h1, .inl h1⟩
    · rw [e] at h1
      obtain rfl := Option.some.inj h1
      have h2 := h.step.on.size
      have h3 : ((w9.alloc o2).drew).heap.size = w9.heap.size + 1 := by show (w9.alloc o2).heap.size = _; simp
      exact ⟨blind_new (by omega), .inr (by omega)⟩
  refine ⟨?_, ((h.step.below hA).grown hg fun g e => ⟨hF.bln g e, fun _ => .inr (.inr (.inr e))⟩).set (p := ⟨fb, 2, none⟩) hF.blf (fun _ => .inl rfl) v10, fun g h1 => (h.bl g h1).2, fun g h1 => (blnew g h1).2⟩
  exact {
    box := by
      have := heap_setCell_same (o := 2) b10 v10
      rw [this]; rfl
    row := ⟨vs ++ [⟨s, z⟩], by rw [List.map_append, hvm]; rfl, fun x hx => by
      rcases List.mem_append.1 hx with hx | hx
      · exact hvo x hx
      · rw [List.mem_singleton] at hx; subst hx; exact ⟨hz, hs⟩, by
      rw [rowBv_append, rowBv_one, List.length_append, List.length_singleton]
      exact own_grown (own_grown (own_same h.row fun g h1 => hA.block g (by obtain ⟨c, h2⟩ := own_block h.row h1; exact (Array.getElem?_eq_some_iff.1 h2).1)) hg hrn) hset hrf⟩
    now := by
      rw [rowPv_append, rowPv_one, List.length_append, List.length_singleton]
      exact own_grown h10 hset hne
    good := fun p hp => by
      rcases List.mem_append.1 hp with hp | hp
      · exact hF.good p hp
      · rw [List.mem_singleton] at hp; subst hp; exact hz
    table := ⟨D.put (keyF s) (.lit (.int .i64 l.length)), by
      rw [List.length_append, List.length_singleton]
      exact map_grown (map_grown (map_same h.map (hA.block bm h.map.lt)) hg hk.mn) hset (fun e => hk.fm (Option.some.inj e).symm), hD.snoc s z.t⟩
    blf := hF.blf
    blm := hF.blm
    blb := fun g h1 => (h.bl g h1).1
    bln := fun g h1 => (blnew g h1).1 }
end Go.Proofs.Ytedljdcliilggaa

namespace Go.Proofs.Ytedljdcliilggaa
open Go.RowKit Go.Maps

theorem partInfo : (Try.prog.info? 83).map (fun i => (i.zero, i.size, i.bytes)) = some (some (.agg #[.int .i64 0, .string ⟨#[]⟩, .int .i64 0, .slice none 0 0, .int .i64 0]), 5, 64) := by kernel_rfl
theorem pv_one (y : Pv) : ∀ x ∈ [Value.int .i64 y.v.t.kind, .string y.v.t.name, .int .i64 y.v.t.n, .slice y.v.a y.v.t.args.length y.v.c, .int .i64 y.f], x.oneCell' = true := by
  intro x hx
  simp only [List.mem_cons, List.not_mem_nil, or_false] at hx
  rcases hx with rfl | rfl | rfl | rfl | rfl <;> rfl
/-- What bind leaves. -/
def BindPost (w0 : World) (fb bm : Nat) (vb vn : Value) (l : List Bn) (s : ByteArray) (u : Tm) (w : World) (e : Ending) (w' : World) : Prop :=
  (occB s u = true ∧ e = .returned (.bool false) ∧ ∃ w1, Step (InFn fb bm vb vn) w0 w w1 w') ∨
  (occB s u = false ∧ e = .returned (.bool true) ∧ ∃ (w1 : World) (vb' vn' : Value) (ps : List Pv), FnAt w1 w' fb bm vb' vn' (l ++ [(s, u)]) ps ∧ Den (l ++ [(s, u)]) (ps.map Pv.pt) ∧ Step (InFn fb bm vb vn) w0 w w1 w' ∧ (∀ g, vb'.ownBlock = some g → vb.ownBlock = some g ∨ w.heap.size ≤ g) ∧ (∀ g, vn'.ownBlock = some g → vn.ownBlock = some g ∨ w.heap.size ≤ g))

set_option maxRecDepth 100000 in
set_option maxHeartbeats 8000000 in
theorem bind_any (w0 : World) (fb bm : Nat) (vb vn : Value) (l : List Bn) (hl : Sound l) (s : ByteArray) (hs : s.size ≤ 9223372036854775807) (p : Pv) (ps : List Pv) (w : World) (hpf : p.f ≤ l.length) (hpl : PlainT p.v.t) (hsz : (p.pt.whole l).parts ≤ mostT) (hpo : p.v.ok w0) (hr : Reads w0 w) (hF : FnAt w0 w fb bm vb vn l ps) (hden : Den l (ps.map Pv.pt)) (hnew : ∀ x ∈ l, x.1 ≠ s) :
    Calls Try.prog 56 #[.pointer (some ⟨fb, 0, none⟩), .string s, p.val] w (BindPost w0 fb bm vb vn l s (p.pt.whole l) w) := by
  obtain ⟨i0, hi, hz0, hz1, hz2⟩ := info_parts bindInfo
  obtain ⟨j0, hj, hy0, hy1, hy2⟩ := info_parts partInfo
  obtain ⟨⟨t, a, c⟩, f⟩ := p
  simp only at hpf hpl hpo
  have hB1 : Below w.heap.size w (w.alloc (.cells #[.int .i64 t.kind, .string t.name, .int .i64 t.n, .slice a t.args.length c, .int .i64 f] 83)) := (Below.refl _ _).alloc (Nat.le_refl _) _
  have b1 := five_new w (.int .i64 t.kind) (.string t.name) (.int .i64 t.n) (.slice a t.args.length c) (.int .i64 f) 83
  obtain ⟨wz, hwz⟩ : ∃ wz, wz = w.alloc (.cells #[.int .i64 t.kind, .string t.name, .int .i64 t.n, .slice a t.args.length c, .int .i64 f] 83) := ⟨_, rfl⟩
  rw [← hwz] at hB1 b1
  have hst : Step (InFn fb bm vb vn) w0 w w0 wz := step_below hr hB1
  have hpw := whole_plain hl.plain (p := ⟨t, f⟩) hpl
  obtain ⟨u, hu⟩ : ∃ u, u = (Pt.mk t f).whole l := ⟨_, rfl⟩
  have WH := Lib.hid ((whole_any fb bm vb vn l hl (l.length - f) w0 ⟨⟨t, a, c⟩, f⟩ ps wz (Nat.le_refl _) hpf hpl hsz hpo hst.on (hF.below hB1) hden).mono (fun e w' ⟨w1, z, ps1, h1, h2, h3, h4, h5, h6⟩ => (show ∃ (w1 : World) (tz : Tm) (az : Option Addr) (cz : Nat) (ps1 : List Pv), e = Ending.returned (.agg #[.int .i64 tz.kind, .string tz.name, .int .i64 tz.n, .slice az tz.args.length cz]) ∧ (tz = u ∧ Tv.ok w1 ⟨tz, az, cz⟩) ∧ FnAt w1 w' fb bm vb vn l ps1 ∧ Den l (ps1.map Pv.pt) ∧ Step (InNow vn) w0 wz w1 w' from ⟨w1, z.t, z.a, z.c, ps1, h1, ⟨by rw [hu]; exact h2, h3⟩, h4, h5, h6⟩)))
  have OC := Lib.hid (fun (x : Tv) (w1 W : World) (h : x.ok w1) (hr : Reads w1 W) => occurs_any s x W (h.reads hr))
  show Calls _ _ _ _ (BindPost w0 fb bm vb vn l s ((Pt.mk t f).whole l) w)
  rw [← hu] at hpw ⊢
  have HST := Lib.hid hst
  have HPW := Lib.hid hpw
  have HL := Lib.hid hl
  have HNEW := Lib.hid hnew
  obtain ⟨p0, p1, p2, p3, p4, _, _, _, _, _⟩ := b1
  simp only [Nat.zero_add] at p1 p2 p3 p4
  simp only [Pv.val]
  have hlm : l.length ≤ 900 := hl.few
  clear hpf hpl hsz hpo hr hF hden hB1 hst hu hpw hl hnew
  go_enter Try.func56, Try.ntmps56
  go_wp2_with fail
  rw [← hwz]
  clear hwz p0 p1 p2 p3 p4
  refine WH.out.mono ?_; rintro e w4 ⟨w1, tz, az, cz, ps1, rfl, hz, hF4, hden4, hst4⟩
  have bT := box_new w4 (.int .i64 tz.kind) (.string tz.name) (.int .i64 tz.n) (.slice az tz.args.length cz) 24
  have hB5 : Below w4.heap.size w4 (w4.alloc (.cells #[.int .i64 tz.kind, .string tz.name, .int .i64 tz.n, .slice az tz.args.length cz] 24)) := (Below.refl _ _).alloc (Nat.le_refl _) _
  obtain ⟨w5, hw5⟩ : ∃ w5, w5 = w4.alloc (.cells #[.int .i64 tz.kind, .string tz.name, .int .i64 tz.n, .slice az tz.args.length cz] 24) := ⟨_, rfl⟩
  rw [← hw5] at bT hB5
  have hst5 : Step (InFn fb bm vb vn) w0 w w1 w5 := (HST.out.trans (hst4.wider (fun k _ h => .inr (.inr (.inr h))))).below hB5
  have OC5 := Lib.hid (OC.out ⟨tz, az, cz⟩ w1 w5 hz.2 hst5.on)
  have H5 := Lib.hid (And.intro hz (And.intro (hF4.below hB5) (And.intro hden4 hst5)))
  have HBT := Lib.hid bT
  have HOLD := Lib.hid (fun (g : Nat) (h : InFn fb bm vb vn g) (e : g = w4.heap.size) => (show False from by have := hF4.lt h; omega))
  obtain ⟨b0, b1, b2, b3, _, _, _, _⟩ := bT
  have hb5 : w4.heap.size < w5.heap.size := by rw [hw5]; simp
  rw [hw5] at b0 b1 b2 b3
  simp only [Tv.val] at OC5
  clear hz hF4 hden4 hst4 hB5 hst5 WH OC
  go_wp2_with fail
  rw [← hw5]
  clear hw5 b0 b1 b2 b3
  cases hoc : occB s tz with
  | true =>
    rw [hoc] at OC5
    have HOC := Lib.hid hoc
    clear hoc
    refine OC5.out.mono ?_; rintro e w6 ⟨rfl, hb6⟩
    have HE := Lib.hid (H5.out.2.2.2.below hb6)
    clear hb6 OC5
    go_wp2_with fail
    go_ret
    exact .inl ⟨by rw [← H5.out.1.1]; exact HOC.out, rfl, w1, HE.out⟩
  | false =>
    rw [hoc] at OC5
    have HOC := Lib.hid hoc
    clear hoc
    refine OC5.out.mono ?_; rintro e w6 ⟨rfl, hb6⟩
    have hF6 := H5.out.2.1.below hb6
    have hst6 := H5.out.2.2.2.below hb6
    have HBT6 := Lib.hid (HBT.out.below hb6 hb5)
    obtain ⟨D, hown, hD⟩ := hF6.table
    obtain ⟨vs, hvm, hvo, hvr⟩ := hF6.row
    obtain ⟨ab, cb, an, cn, rfl, rfl, _⟩ := hF6.len
    have hpl1 : ps1.length = l.length := by have := H5.out.2.2.1.len; rwa [List.length_map] at this
    have HPL1 := Lib.hid hpl1
    have hpl2 : ps1.length ≤ 900 := by omega
    clear hpl1
    have HF6 := Lib.hid hF6
    have HS6 := Lib.hid hst6
    have HROW := Lib.hid (And.intro hvm (And.intro hvo (And.intro hvr hD)))
    have HOD := Lib.hid hown.drew
    have HMM : l.length < maxLen := by unfold maxLen; omega
    have HWF : (Lit.int .i64 (l.length : Int)).wf = true := WalkArith.wf_i64 (by omega)
    obtain ⟨w7, hrun, hown7, hg7⟩ := HOD.out.update keyed_name Try.underlying58 HMM (keyOfF hs) (plainElem_int Try.underlying3 HWF)
    have HM1 := Lib.hid (mid1 hF6 hst6.on hvr hown7 hg7)
    have K6 := Lib.hid (three_of hF6.box)
    have K7 := Lib.hid (three_of HM1.out.box)
    have hfb6 : fb < w6.heap.size := lt_of_cell K6.out.c0
    have hb76 : w4.heap.size < w6.heap.size := lt_of_cell HBT6.out.c0
    have hbm : w4.heap.size ≠ bm := fun e => by
      obtain ⟨es, clock, hb, _⟩ := hown
      have h0 := HBT6.out.c0
      rw [e] at h0
      simp [World.cell?, hb] at h0
    have HBT7 := Lib.hid (box_kept (W' := w7) HBT6.out (hg7.block _ hb76 (fun e => hbm (Option.some.inj e))))
    obtain ⟨z0, z1, _, _, _, _⟩ := K6.out
    clear hb6 OC5 hF6 hst6 hown hD hvm hvo hvr hown7 hg7 hbm
    go_wp2_with fail
    go_region_held3 (fun W => W.cell? ⟨fb, 0, none⟩ = some (.slice ab l.length cb) ∧ W.cell? ⟨fb, 1, none⟩ = some (.map (some bm))) (first | exact ⟨K6.out.c0, K6.out.c1⟩ | exact ⟨K7.out.c0, K7.out.c1⟩)
      ((fail))
    clear hrun z0 z1
    go_upto_region 5 with fail
    go_cut [33] (fun sb wc => ∃ (a8 : Option Addr) (c8 : Nat), sb = .slice a8 (l.length + 1) c8 ∧ Hid (Mid2 w1 w6 wc fb bm (.slice ab l.length cb) (.slice a8 (l.length + 1) c8) (.slice an ps1.length cn) l s D (rowBv vs ++ (Bv.mk s ⟨tz, az, cz⟩).cells) ps1 ∧ Box wc w4.heap.size (.int .i64 tz.kind) (.string tz.name) (.int .i64 tz.n) (.slice az tz.args.length cz)))
    case first =>
      have HMX : l.length + 1 ≤ maxLen := by unfold maxLen; omega
      have HMY : (l.length + 1) * 72 ≤ 140737488355328 := by omega
      have hbf : w4.heap.size ≠ fb := fun e => by
        have h1 := HBT7.out.c3
        have h2 := HM1.out.box
        rw [e] at h1
        rw [cell_of_row w7 fb 3 _ _ (0, 0) h2] at h1
        simp at h1
      have hb77 : w4.heap.size < w7.heap.size := lt_of_cell HBT7.out.c0
      have hfb7 : fb < w7.heap.size := lt_of_cell K7.out.c0
      have hob : ∀ g, (Value.slice ab l.length cb).ownBlock = some g → g ≠ fb ∧ g ≠ w4.heap.size := fun g h1 => by
        obtain ⟨c2, h2⟩ := own_block HM1.out.row h1
        refine ⟨fun e => ?_, fun e => ?_⟩
        · rw [e, HM1.out.box] at h2; simp at h2
        · exact HOLD.out g (.inr (.inr (.inl h1))) e
      have HOB := Lib.hid hob
      have HBF := Lib.hid hbf
      have HA7 := Lib.hid (show Below w7.heap.size w7 ((w7.alloc (.cells #[.string s, .int .i64 tz.kind, .string tz.name, .int .i64 tz.n, .slice az tz.args.length cz] 41)).drew) from ((Below.refl _ _).alloc (Nat.le_refl _) _).drew)
      have KB8 := Lib.hid (fun (W : World) (hg : ((w7.alloc (.cells #[.string s, .int .i64 tz.kind, .string tz.name, .int .i64 tz.n, .slice az tz.args.length cz] 41)).drew).grownBy W (Value.slice ab l.length cb).ownBlock) => (show Three W fb (.slice ab l.length cb) (.map (some bm)) (.slice an ps1.length cn) ∧ Box W w4.heap.size (.int .i64 tz.kind) (.string tz.name) (.int .i64 tz.n) (.slice az tz.args.length cz) from
        ⟨three_of (box_grown ((HA7.out.block fb hfb7).trans HM1.out.box) hg (fun e => (HOB.out fb e.symm).1 rfl)), box_kept (box_kept HBT7.out (HA7.out.block _ hb77)) (hg.block _ (Nat.lt_of_lt_of_le hb77 HA7.out.size) (fun e => (HOB.out _ e.symm).2 rfl))⟩))
      have HR7 := Lib.hid HM1.out.row
      obtain ⟨z0, z1, z2, g0, g1, g2⟩ := K7.out
      obtain ⟨b0, b1, b2, b3, _, _, _, _⟩ := HBT7.out
      clear hbf hob
      go_region_law
        ((refine step_append_at rfl _ _ 27 rfl 0 41 i0 (.agg #[.string ⟨#[]⟩, .int .i64 0, .string ⟨#[]⟩, .int .i64 0, .slice none 0 0]) 5 72 Try.underlying27 hi hz0 hz1 hz2 rfl (by decide) (.slice ab l.length cb) l.length (rowBv vs) rfl (HR7.out.alloc _).drew ⟨w7.heap.size, 0, none⟩ 1 1 [.string s, .int .i64 tz.kind, .string tz.name, .int .i64 tz.n, .slice az tz.args.length cz] rfl rfl (World.news_of_block (heap_alloc_new _ _)) (bv_one ⟨s, ⟨tz, az, cz⟩⟩) HMX HMY (Nat.zero_le _) _ rfl ?_; intro v8 w8 hown8 hg8 hat8; obtain ⟨a8, c8, rfl, _⟩ := own_shape hown8; obtain ⟨y0, y1, _, k0, k1, _⟩ := (KB8.out _ hg8).1))
      all_goals
        have HE := Lib.hid (mid2 (s := s) (xs := rowBv vs ++ (Bv.mk s ⟨tz, az, cz⟩).cells) HF6.out HM1.out hg8 hown8 hat8 rfl)
        have HX := Lib.hid ((KB8.out _ hg8).2.aside (p := ⟨fb, 0, none⟩) HBF.out (.slice a8 (l.length + 1) c8))
        clear hown8 hg8 hat8
        go_wp2_with fail
        go_meet
        case rel => exact ⟨a8, c8, rfl, Lib.hid ⟨HE.out, HX.out⟩⟩
    case rest =>
      obtain ⟨a8, c8, rfl, H9⟩ := hcut
      have HMX : ps1.length + 1 ≤ maxLen := by unfold maxLen; omega
      have HMY : (ps1.length + 1) * 64 ≤ 140737488355328 := by omega
      have K9 := Lib.hid (three_of H9.out.1.box)
      have hfb9 : fb < wc.heap.size := lt_of_cell K9.out.c0
      have hb79 : w4.heap.size < wc.heap.size := lt_of_cell H9.out.2.c0
      have hwl : IntKind.i64.wrap ((l.length : Int) + 1) = (l.length : Int) + 1 := IntWalk.i64_in _ (by omega)
      have HR9 := Lib.hid H9.out.1.now
      have hob : ∀ g, (Value.slice an ps1.length cn).ownBlock = some g → g ≠ fb := fun g h1 e => by
        obtain ⟨c2, h2⟩ := own_block H9.out.1.now h1
        rw [e, H9.out.1.box] at h2; simp at h2
      have HOB := Lib.hid hob
      have HA9 := Lib.hid (show Below wc.heap.size wc ((wc.alloc (.cells #[.int .i64 tz.kind, .string tz.name, .int .i64 tz.n, .slice az tz.args.length cz, (.int .i64 ((l.length : Int) + 1))] 83)).drew) from ((Below.refl _ _).alloc (Nat.le_refl _) _).drew)
      have KB10 := Lib.hid (fun (W : World) (hg : ((wc.alloc (.cells #[.int .i64 tz.kind, .string tz.name, .int .i64 tz.n, .slice az tz.args.length cz, (.int .i64 ((l.length : Int) + 1))] 83)).drew).grownBy W (Value.slice an ps1.length cn).ownBlock) => (show Three W fb (.slice a8 (l.length + 1) c8) (.map (some bm)) (.slice an ps1.length cn) from
        three_of (box_grown ((HA9.out.block fb hfb9).trans H9.out.1.box) hg (fun e => HOB.out fb e.symm rfl))))
      obtain ⟨z0, z1, z2, g0, g1, g2⟩ := K9.out
      obtain ⟨b0, b1, b2, b3, _, _, _, _⟩ := H9.out.2
      clear hob
      go_wp2_with fail
      go_region_law
        ((refine step_append_at rfl _ _ 59 rfl 0 83 j0 (.agg #[.int .i64 0, .string ⟨#[]⟩, .int .i64 0, .slice none 0 0, .int .i64 0]) 5 64 Try.underlying59 hj hy0 hy1 hy2 rfl (by decide) (.slice an ps1.length cn) ps1.length (rowPv ps1) rfl (HR9.out.alloc _).drew ⟨wc.heap.size, 0, none⟩ 1 1 [.int .i64 tz.kind, .string tz.name, .int .i64 tz.n, .slice az tz.args.length cz, (.int .i64 ((l.length : Int) + 1))] rfl rfl (World.news_of_block (heap_alloc_new _ _)) (by have h := pv_one ⟨⟨tz, az, cz⟩, l.length + 1⟩; simpa using h) HMX HMY (Nat.zero_le _) _ rfl ?_; intro v10 w10 hown10 hg10 hat10; obtain ⟨a10, c10, rfl, _⟩ := own_shape hown10; obtain ⟨y0, y1, y2, k0, k1, k2⟩ := KB10.out _ hg10))
      all_goals
        have HE := Lib.hid (mid3 (z := ⟨tz, az, cz⟩) HF6.out H9.out.1 HROW.out.1 HROW.out.2.1 HROW.out.2.2.2 H5.out.1.2 hs hg10 (by simpa [Pv.cells] using hown10) hat10 rfl)
        clear hown10 hg10 hat10
        (try go_wp2_with fail)
        go_ret
        have he := HE.out
        refine .inr ⟨by rw [← H5.out.1.1]; exact HOC.out, rfl, w1, _, _, _, by rw [← H5.out.1.1]; exact he.1, ?_, HS6.out.trans he.2.1, fun g hg => ?_, fun g hg => ?_⟩
        · rw [List.map_append, ← H5.out.1.1]
          exact H5.out.2.2.1.snoc s (by rw [H5.out.1.1]; exact HPW.out)
        · rcases he.2.2.1 g hg with h | h
          · exact .inl h
          · exact .inr (Nat.le_trans HS6.out.size h)
        · rcases he.2.2.2 g hg with h | h
          · exact .inl h
          · exact .inr (Nat.le_trans HS6.out.size h)
end Go.Proofs.Ytedljdcliilggaa
