/-
  Binds solved from the last one on: what has come out once so many are gone through. No function of the program.
  Each bind with all behind it put in, in order, by the program: Solve.
-/
import Derived.Test.YtedljdcliilggaaU36
import Derived.Test.YtedljdcliilggaaU31
import Derived.Test.YtedljdcliilggaaU21
namespace Go.Proofs.Ytedljdcliilggaa
open Go.RowKit

/-- One bind more: its term with what stands behind it put in. -/
def sweep1 (l : List Bn) (S : List Bn × List Bn) (i : Nat) : List Bn × List Bn := match l[i]? with
  | some x => (S.1.set i (x.1, appT S.2 x.2), (x.1, appT S.2 x.2) :: S.2)
  | none => S
def sweep (l : List Bn) (is : List Nat) : List Bn × List Bn := is.foldl (sweep1 l) (l, [])
theorem sweep_snoc (l : List Bn) (is : List Nat) (i : Nat) : sweep l (is ++ [i]) = sweep1 l (sweep l is) i := by unfold sweep; rw [List.foldl_append]; rfl
theorem sweep_len (l : List Bn) (is : List Nat) : (sweep l is).1.length = l.length ∧ (sweep l is).2.length ≤ is.length := by
  have : ∀ (is : List Nat) (S : List Bn × List Bn), (is.foldl (sweep1 l) S).1.length = S.1.length ∧ (is.foldl (sweep1 l) S).2.length ≤ S.2.length + is.length := by
    intro is
    induction is with
    | nil => intro S; exact ⟨rfl, by simp⟩
    | cons i r ih =>
      intro S
      rw [List.foldl_cons]
      obtain ⟨h1, h2⟩ := ih (sweep1 l S i)
      have h3 : (sweep1 l S i).1.length = S.1.length ∧ (sweep1 l S i).2.length ≤ S.2.length + 1 := by
        unfold sweep1; split
        · exact ⟨by rw [List.length_set], by simp⟩
        · exact ⟨rfl, by omega⟩
      exact ⟨h1.trans h3.1, by rw [List.length_cons]; omega⟩
  have h := this is (l, [])
  exact ⟨h.1, by have := h.2; rw [List.length_nil, Nat.zero_add] at this; exact this⟩
theorem sweep_names (l : List Bn) (is : List Nat) : (sweep l is).1.map Prod.fst = l.map Prod.fst := by
  have : ∀ (is : List Nat) (S : List Bn × List Bn), S.1.map Prod.fst = l.map Prod.fst → (is.foldl (sweep1 l) S).1.map Prod.fst = l.map Prod.fst := by
    intro is
    induction is with
    | nil => intro S h; exact h
    | cons i r ih =>
      intro S h
      rw [List.foldl_cons]
      refine ih _ ?_
      unfold sweep1; split
      · next x hx =>
        simp only
        rw [List.map_set, h]
        obtain ⟨hi, rfl⟩ := List.getElem?_eq_some_iff.1 hx
        refine List.ext_getElem? fun j => ?_
        rw [List.getElem?_set]
        split
        · next e =>
          subst e
          rw [if_pos (by rw [List.length_map]; exact hi), List.getElem?_map, List.getElem?_eq_getElem hi]; rfl
        · rfl
      · exact h
  exact this is (l, []) rfl
theorem sweep_back {l : List Bn} (hp : ∀ x ∈ l, PlainT x.2) : ∀ k, k ≤ l.length → sweep l (back l.length k) = (l.take (l.length - k) ++ solveL (l.drop (l.length - k)), solveL (l.drop (l.length - k)))
  | 0, _ => by
    unfold back sweep
    simp [solveL]
  | k + 1, hk => by
    have hi : l.length - 1 - k < l.length := by omega
    rw [back_succ, sweep_snoc, sweep_back hp k (by omega)]
    unfold sweep1
    rw [List.getElem?_eq_getElem hi]
    simp only
    have e1 : l.length - k = l.length - 1 - k + 1 := by omega
    have e2 : l.length - (k + 1) = l.length - 1 - k := by omega
    rw [e1, e2, List.drop_eq_getElem_cons hi, solveL, ← appR_solve _ (hp _ (List.getElem_mem hi))]
    refine Prod.ext ?_ rfl
    simp only
    rw [List.take_succ_eq_append_getElem hi, List.append_assoc, List.set_append_right _ _ (by rw [List.length_take]; omega)]
    congr 1
    rw [List.length_take, show l.length - 1 - k - min (l.length - 1 - k) l.length = 0 by omega]
    rfl
theorem sweep_all {l : List Bn} (hp : ∀ x ∈ l, PlainT x.2) : sweep l (back l.length l.length) = (solveL l, solveL l) := by
  rw [sweep_back hp _ (Nat.le_refl _), Nat.sub_self]; rfl
theorem stand_few (B : List Bn) (t : Tm) : (tellB (getB B) t.vars).length ≤ B.length := by
  have h1 : ((tellB (getB B) t.vars).map Prod.fst).length ≤ (B.map Prod.fst).length := by
    rw [tellB_names]
    refine nodup_le ((vars_nodup t).filter _) fun x hx => ?_
    have h2 := (List.mem_filter.1 hx).2
    obtain ⟨y, hy, e⟩ := getB_isSome.1 h2
    exact List.mem_map.2 ⟨y, hy, e⟩
  rwa [List.length_map, List.length_map] at h1
theorem stand_app (B : List Bn) (t : Tm) (hp : PlainT t) : appT (tellB (getB B) t.vars) t = appT B t :=
  app_on t hp fun s hs => by
    rw [app_varT, app_varT, tellB_get _ (has_in hs)]
/-- A memory sees no block that is no row of cells. -/
theorem blind_other {w1 W : World} (hr : Reads w1 W) {g : Nat} {o : Obj} (h : W.heap[g]? = some o) (ho : o.isCells = false) : Blind w1 g := fun p hp => by
  cases e : w1.cell? p with
  | none => rfl
  | some v =>
    have h2 := hr.cell p v e
    unfold World.cell? at h2
    rw [hp, h] at h2
    cases o <;> simp_all [Obj.isCells]
/-- A term written anew in a row of binds. -/
theorem rowBv_cons (v : Bv) (r : List Bv) : rowBv (v :: r) = v.cells ++ rowBv r := by unfold rowBv; rw [List.flatMap_cons]
theorem bv_set (u : Tv) : ∀ (vs : List Bv) (k : Nat) (z : Bv), vs[k]? = some z → rowBv (vs.set k ⟨z.s, u⟩) = ((((rowBv vs).set (k * 5 + 1) (.int .i64 u.t.kind)).set (k * 5 + 2) (.string u.t.name)).set (k * 5 + 3) (.int .i64 u.t.n)).set (k * 5 + 4) (.slice u.a u.t.args.length u.c)
  | [], _, _, h => by simp at h
  | v :: r, 0, z, h => by
    rw [List.getElem?_cons_zero] at h; cases h
    rw [List.set_cons_zero, rowBv_cons, rowBv_cons]; rfl
  | v :: r, k + 1, z, h => by
    rw [List.getElem?_cons_succ] at h
    rw [List.set_cons_succ, rowBv_cons, rowBv_cons, bv_set u r k z h]
    have e : ∀ (l : List Value) (i : Nat) (x : Value), (v.cells ++ l).set (5 + i) x = v.cells ++ l.set i x := fun l i x => by
      rw [List.set_append_right _ _ (by simp [Bv.cells])]; congr 2; simp [Bv.cells]
    rw [show (k + 1) * 5 + 1 = 5 + (k * 5 + 1) from by omega, show (k + 1) * 5 + 2 = 5 + (k * 5 + 2) from by omega, show (k + 1) * 5 + 3 = 5 + (k * 5 + 3) from by omega, show (k + 1) * 5 + 4 = 5 + (k * 5 + 4) from by omega, e, e, e, e]
theorem bv_put {w : World} {base : Nat} {e : TypeId} {g n m cap : Nat} {vs : List Bv} (h : w.ownsRow base e 5 (.slice (some ⟨g, 0, none⟩) m cap) n (rowBv vs)) (u : Tv) (k : Nat) (z : Bv) (hk : vs[k]? = some z) :
    ((((w.setCell ⟨g, k * 5 + 1, none⟩ (.int .i64 u.t.kind)).setCell ⟨g, k * 5 + 2, none⟩ (.string u.t.name)).setCell ⟨g, k * 5 + 3, none⟩ (.int .i64 u.t.n)).setCell ⟨g, k * 5 + 4, none⟩ (.slice u.a u.t.args.length u.c)).ownsRow base e 5 (.slice (some ⟨g, 0, none⟩) m cap) n (rowBv (vs.set k ⟨z.s, u⟩)) := by
  obtain ⟨hn, ⟨h, _⟩ | ⟨g', cap', cur, hv, hb, hgc, h1, h2, h3, hgt⟩⟩ := h
  · cases h
  · cases hv
    refine ⟨by rw [rowBv_length, List.length_set, ← rowBv_length]; exact hn, .inr ⟨g, cap, _, rfl, hb, heap_setCell_same (heap_setCell_same (heap_setCell_same (heap_setCell_same hgc _) _) _) _, h1, h2, by simpa using h3, ?_⟩⟩
    rw [bv_set u vs k z hk, ← hgt]
    simp only [Array.toList_setIfInBounds, List.take_set]
theorem bv_five {w : World} {base : Nat} {e : TypeId} {g n m cap : Nat} {vs : List Bv} (h : w.ownsRow base e 5 (.slice (some ⟨g, 0, none⟩) m cap) n (rowBv vs)) {k : Nat} {z : Bv} (hz : vs[k]? = some z) : Five w g (k * 5) (.string z.s) (.int .i64 z.v.t.kind) (.string z.v.t.name) (.int .i64 z.v.t.n) (.slice z.v.a z.v.t.args.length z.v.c) := by
  obtain ⟨hk, rfl⟩ := List.getElem?_eq_some_iff.1 hz
  obtain ⟨hn, ⟨h, _⟩ | ⟨g', cap', cur, hv, hb, hgc, h1, h2, h3, hgt⟩⟩ := h
  · cases h
  · cases hv
    have hc : ∀ i, i < 5 → cur[k * 5 + i]? = vs[k].cells[i]? := fun i hi => by
      rw [← rowBv_get vs k hk i hi, ← hgt, List.getElem?_take_of_lt (by rw [rowBv_length] at hn; omega)]
      simp
    exact five_of hgc (hc 0 (by omega)) (hc 1 (by omega)) (hc 2 (by omega)) (hc 3 (by omega)) (hc 4 (by omega))
theorem step_below_of' {n0 : Nat} {w0 w w1 w' : World} (h : Step (fun k => n0 ≤ k) w0 w w1 w') (hn : n0 ≤ w.heap.size) : Below n0 w w' where
  os := h.os
  tape := h.tape
  output := h.output
  size := h.size
  block := fun k hk => h.keep k (by omega) (by omega)
def noDefer (ops : Array Oper) : Bool := ops.toList.all fun o => match o.op with | .defer _ => false | _ => true
theorem noDefer_spec {ops : Array Oper} (h : noDefer ops = true) : ∀ o ∈ ops.toList, ∀ c, o.op ≠ .defer c := fun o ho c e => by
  have := List.all_eq_true.1 h o ho
  rw [e] at this; cases this
end Go.Proofs.Ytedljdcliilggaa

namespace Go.Proofs.Ytedljdcliilggaa
open Go.RowKit Go.Shelf Go.Maps
attribute [local go_sem] Oper.semAt_some

/-- What holds once some binds are gone through. -/
def SolI (w : World) (l : List Bn) (vs : List Bv) (vc : Value) (b3 bm b4 : Nat) (pre : List (BvIn vs)) (W : World) : Prop :=
  ∃ (w1 : World) (us : List Bv), us.map Bv.bn = (sweep l (idx pre)).1 ∧ (∀ x ∈ us, x.v.ok w1 ∧ x.s.size ≤ 9223372036854775807) ∧ W.ownsRow w.heap.size 41 5 vc l.length (rowBv us) ∧ StandI bm b4 pre.length (sweep l (idx pre)).2 w1 W ∧ Boxed W b3 27 vc ∧ Step (fun k => w.heap.size ≤ k) w w w1 W ∧ (∀ g, vc.ownBlock = some g → Blind w1 g) ∧ b4 + 2 ≤ W.heap.size
theorem solI_own {w : World} {l : List Bn} {vs : List Bv} {vc : Value} {b3 bm b4 B : Nat} (h3 : b3 < B) (hm : bm < B) (h4 : b4 < B) (hB : w.heap.size ≤ B) : OwnFrom B (fun (pre : List (BvIn vs)) W => SolI w l vs vc b3 bm b4 pre W) := fun pre X Y row hs hg hr => by
  obtain ⟨w1, us, e1, e2, e3, e4, e5, e6, e7, e8⟩ := hs
  have low : ∀ k, k < B → k < X.heap.size → Y.heap[k]? = X.heap[k]? := fun k hk hx => hg.block k hx fun e => by have := (hr k e.symm).1; omega
  refine ⟨w1, us, e1, e2, own_same e3 fun g h => ?_, ⟨e4.1.same (Reads.refl _) (low bm hm e4.1.lt), (low b4 h4 e4.2.lt).trans e4.2⟩, (low b3 h3 e5.lt).trans e5, e6.grown hg fun g e => ?_, e7, Nat.le_trans e8 hg.size⟩
  · obtain ⟨cur, hc⟩ := own_block e3 h
    refine hg.block g (Array.getElem?_eq_some_iff.1 hc).1 fun e => ?_
    obtain ⟨_, o, ho, hoc⟩ := hr g e.symm
    rw [hc] at ho; cases ho; simp [Obj.isCells] at hoc
  · obtain ⟨h1, o, ho, hoc⟩ := hr g e
    exact ⟨blind_other e6.on ho hoc, fun _ => by omega⟩

set_option maxRecDepth 100000 in
set_option maxHeartbeats 8000000 in
theorem solve_any (v : Value) (l : List Bn) (w : World) (hv : Bds w v l) (hlen : l.length ≤ 900) (hp : ∀ x ∈ l, PlainT x.2) (hsz : ∀ x ∈ l, x.2.parts ≤ 2300000000000) :
    Calls Try.prog 40 #[v] w fun e w' => ∃ u, e = .returned u ∧ Bds w' u (ofB (solveL l)) ∧ Below w.heap.size w w' := by
  have CL := Lib.hid ((callsIn_wide (n := 5 - 1)).2 (clone_any v l w hv (by omega)))
  obtain ⟨a, c, rfl, hl, h⟩ := hv
  obtain ⟨vs, hvt, hvo, hcell⟩ : ∃ vs : List Bv, vs.map Bv.bn = l ∧ (∀ x ∈ vs, x.v.ok w ∧ x.s.size ≤ 9223372036854775807) ∧ (vs.length = 0 ∨ ∃ b o, a = some ⟨b, o, none⟩ ∧ ∀ W, Below w.heap.size w W → ∀ q x, (rowBv vs)[q]? = some x → W.cell? ⟨b, o + q, none⟩ = some x) := by
    rcases h with rfl | ⟨b, o, rfl, hlt, hr⟩
    · exact ⟨[], rfl, (fun x hx => by cases hx), .inl rfl⟩
    · obtain ⟨vs, hvt, hvo, hc⟩ := rows_vs hr
      exact ⟨vs, hvt, hvo, .inr ⟨b, o, rfl, fun W hW q x hq => (hW.cell (p := ⟨b, o + q, none⟩) hlt).trans (hc q x hq)⟩⟩
  have hvl : vs.length = l.length := by rw [← hvt, List.length_map]
  have HC := Lib.hid hcell
  have HV := Lib.hid (And.intro hvt hvo)
  have HVL := Lib.hid hvl
  have HP := Lib.hid hp
  have HSZ := Lib.hid hsz
  have HLEN := Lib.hid hlen
  rw [← hvl] at CL ⊢
  have hS := fun w2 Bt h1 h2 => back_stops Fence.wide rfl (5 - 1) trivial rfl w Bt vs a c (by omega) w2 h1 HC.out h2
  have hA := fun w1 => back_in Fence.wide (5 - 1) trivial rfl a vs.length c w1
  clear hcell hvt hvo hvl hp hsz h hl hlen
  have hmm := @run_makeMap Try.prog
  refine callsIn_wide.1 (callsIn_of_wp_marks (n := 5) Try.func40 rfl trivial ?_ rfl)
  simp only [Try.ntmps40, List.size_toArray, List.length_cons, List.length_nil, Nat.reduceAdd, Nat.reduceSub, Array.replicate_succ, Array.replicate_zero, List.push_toArray, List.append_toArray, List.nil_append, List.cons_append]
  gi_wp2_with fail
  refine ⟨trivial, CL.out.mono ?_⟩; rintro e w1 ⟨u, rfl, hu, hb1⟩
  obtain ⟨us, e1, e2, e3⟩ := hu
  obtain ⟨au, cu, rfl, hau⟩ := own_shape e3
  have HU := Lib.hid (And.intro e1 (And.intro e2 (And.intro e3 hb1)))
  clear e1 e2 e3 hb1 CL
  gi_wp2_with fail
  refine ⟨trivial, (hA _).mono ?_⟩; rintro e w2 ⟨rfl, rfl⟩
  gi_wp2_with fail
  obtain ⟨s1, hs1⟩ : ∃ s1, s1 = w1.heap.size := ⟨_, rfl⟩
  rw [← hs1]
  have hz1 : (w1.alloc (.cells #[.slice au l.length cu] 27)).heap.size = s1 + 1 := by rw [hs1]; simp
  have hz2 : ((w1.alloc (.cells #[.slice au l.length cu] 27)).alloc (.map #[] 0)).heap.size = s1 + 2 := by rw [hs1]; simp
  have hz3 : (((w1.alloc (.cells #[.slice au l.length cu] 27)).alloc (.map #[] 0)).alloc (.cells #[.map (some (s1 + 1))] 86)).heap.size = s1 + 3 := by rw [hs1]; simp
  have hz4 : ((((w1.alloc (.cells #[.slice au l.length cu] 27)).alloc (.map #[] 0)).alloc (.cells #[.map (some (s1 + 1))] 86)).alloc (.cells #[.slice a vs.length c] 27)).heap.size = s1 + 4 := by rw [hs1]; simp
  have bC := (((Boxed.new w1 27 (.slice au l.length cu)).alloc (.map #[] 0)).alloc (.cells #[.map (some (s1 + 1))] 86)).alloc (.cells #[.slice a vs.length c] 27)
  have bM := (Boxed.new ((w1.alloc (.cells #[.slice au l.length cu] 27)).alloc (.map #[] 0)) 86 (.map (some (s1 + 1)))).alloc (.cells #[.slice a vs.length c] 27)
  have bB := Boxed.new (((w1.alloc (.cells #[.slice au l.length cu] 27)).alloc (.map #[] 0)).alloc (.cells #[.map (some (s1 + 1))] 86)) 27 (.slice a vs.length c)
  have hM := ((World.ownsMap_made (w1.alloc (.cells #[.slice au l.length cu] 27)) Try.prog 9 termR).alloc (.cells #[.map (some (s1 + 1))] 86)).alloc (.cells #[.slice a vs.length c] 27)
  have hB0 : Below w1.heap.size w1 ((((w1.alloc (.cells #[.slice au l.length cu] 27)).alloc (.map #[] 0)).alloc (.cells #[.map (some (s1 + 1))] 86)).alloc (.cells #[.slice a vs.length c] 27)) := ((((Below.refl _ w1).alloc (Nat.le_refl _) _).alloc (by omega) _).alloc (by omega) _).alloc (by omega) _
  rw [← hs1] at bC
  rw [hz2] at bM
  rw [hz3] at bB
  rw [hz1] at hM
  simp only [Nat.add_assoc, Nat.reduceAdd] at bC bM bB hM hB0 hz4 ⊢
  obtain ⟨W0, hW0⟩ : ∃ W0, ((((w1.alloc (.cells #[.slice au l.length cu] 27)).alloc (.map #[] 0)).alloc (.cells #[.map (some (s1 + 1))] 86)).alloc (.cells #[.slice a vs.length c] 27)) = W0 := ⟨_, rfl⟩
  rw [hW0] at bC bM bB hM hB0 hz4 ⊢
  have hn1 : w.heap.size ≤ s1 := by rw [hs1]; exact HU.out.2.2.2.size
  have hB1 : Below w.heap.size w W0 := HU.out.2.2.2.trans (hB0.mono HU.out.2.2.2.size)
  have hI0 : SolI w l vs (.slice au l.length cu) s1 (s1 + 1) (s1 + 2) [] W0 := ⟨w, us, HU.out.1, HU.out.2.1, own_same HU.out.2.2.1 (fun g hg => hB0.block g (HU.out.2.2.1.lt g hg).2), ⟨tab_none hM, bM⟩, bC, step_below (Reads.refl _) hB1, fun g hg => blind_new (own_row_ge HU.out.2.2.1 g hg), by omega⟩
  have HG := Lib.hid (fun g hg => (show g < s1 from by rw [hs1]; exact (HU.out.2.2.1.lt g hg).2))
  have HS1 := Lib.hid hs1
  clear hz1 hz2 hz3 hW0 hs1 hM bC bM hB0
  refine wpIn_rangeFunc_ownH rfl (by omega) (gf := 70) (lb := #[.pointer (some ⟨s1 + 3, 0, none⟩)]) rfl trivial (enters_of Try.func70 (by kernel_rfl) rfl)
    (hS W0 (s1 + 3) bB hB1) keepsB_t (keepsB_b (by omega) (by omega)) (Below.refl _ _) (fun _ => rfl)
    (fun pre W => SolI w l vs (.slice au l.length cu) s1 (s1 + 1) (s1 + 2) pre W) (fun _ _ _ => False)
    (solI_own (by omega) (by omega) (by omega) (by omega)) (fun _ _ _ _ _ h _ _ => h) hI0
    (fun y a' W => ∃ Bx, s1 + 4 ≤ Bx ∧ W.heap[Bx]? = some (.cells #[.string y.1.2.s, .int .i64 y.1.2.v.t.kind, .string y.1.2.v.t.name, .int .i64 y.1.2.v.t.n, .slice y.1.2.v.a y.1.2.v.t.args.length y.1.2.v.c] 41 (0, 0)) ∧ a' = { tmps := #[.slice a vs.length c, undef, .slice none 0 0, .pointer (some ⟨s1, 0, none⟩), .pointer (some ⟨s1 + 2, 0, none⟩), .int .i64 y.1.1, .pointer (some ⟨Bx, 0, none⟩), .slice a vs.length c, .slice au l.length cu, .map (some (s1 + 1)), .slice a vs.length c, .func (.func 70) #[] #[.pointer (some ⟨s1 + 3, 0, none⟩)], .int .i64 y.1.1, .agg #[.string y.1.2.s, .int .i64 y.1.2.v.t.kind, .string y.1.2.v.t.name, .int .i64 y.1.2.v.t.n, .slice y.1.2.v.a y.1.2.v.t.args.length y.1.2.v.c], undef, undef, undef, undef, undef, undef, undef, undef, undef, undef, undef, undef, undef, undef, undef, undef, undef, undef], defers := [] })
    (fun y a' _ X Y row hs hg hr => by
      obtain ⟨Bx, h1, h2, h3⟩ := hs
      refine ⟨Bx, h1, (hg.block Bx (Array.getElem?_eq_some_iff.1 h2).1 fun e => ?_).trans h2, h3⟩
      obtain ⟨_, o, ho, hoc⟩ := hr Bx e.symm
      rw [h2] at ho; cases ho; simp [Obj.isCells] at hoc)
    ?assign ?body ?done ?stop
  case assign =>
    rintro l0 pre y W K hI hK
    have hbs : s1 + 4 ≤ W.heap.size := by
      obtain ⟨_, _, _, _, _, _, _, _, _, h⟩ := hI; exact h
    have hI2 := solI_own (w := w) (l := l) (vs := vs) (vc := .slice au l.length cu) (b3 := s1) (bm := s1 + 1) (b4 := s1 + 2) (B := s1 + 4) (by omega) (by omega) (by omega) (by omega) pre W (W.alloc (.cells #[.string y.1.2.s, .int .i64 y.1.2.v.t.kind, .string y.1.2.v.t.name, .int .i64 y.1.2.v.t.n, .slice y.1.2.v.a y.1.2.v.t.args.length y.1.2.v.c] 41)) none hI (World.grownBy_alloc W _ none) (fun r e => by cases e)
    gi_wp2_with fail
    exact hK _ _ ((KeepsOthers.alloc _ _).from _) (keepsB_alloc (KeepsB.refl _ _ _) (by omega) (by omega) _) hI2 ⟨W.heap.size, hbs, heap_alloc_new W _, rfl⟩
  case body =>
    rintro l0 pre y a' W hl _ hI ⟨Bx, hBx, bX, rfl⟩ hlt
    obtain ⟨⟨i, ⟨s, ⟨t, at_, ct⟩⟩⟩, hz⟩ := y
    obtain ⟨w5, us5, e1, e2, e3, ⟨e4, e4'⟩, e5, e6, e7, e8⟩ := hI
    simp only at bX hz ⊢
    have hiv : i < vs.length := (List.getElem?_eq_some_iff.1 hz).1
    have hil : i < l.length := by have := HVL.out; omega
    have hli : l[i]? = some (s, t) := by rw [← HV.out.1, List.getElem?_map, hz]; rfl
    have hul : us5.length = l.length := by
      have := congrArg List.length e1
      rw [List.length_map, (sweep_len l (idx pre)).1] at this; exact this
    obtain ⟨z5, hz5⟩ : ∃ z5, us5[i]? = some z5 := ⟨_, List.getElem?_eq_getElem (by omega)⟩
    obtain ⟨g, rfl⟩ := hau (by omega)
    have hgs : g < s1 := HG.out g rfl
    have hgn : w.heap.size ≤ g := own_row_ge e3 g rfl
    obtain ⟨S, hSe⟩ : ∃ S, S = (sweep l (idx pre)).2 := ⟨_, rfl⟩
    rw [← hSe] at e4
    have hfew : S.length ≤ 900 := by
      have h1 := (sweep_len l (idx pre)).2
      rw [← hSe, idx_length] at h1
      have := HVL.out; have := HLEN.out; omega
    have hwd : Below W.heap.size W W.drew := (Below.refl _ _).drew
    have hzv := HV.out.2 _ (List.mem_of_getElem? hz)
    have PT := Lib.hid ((put_tells 61 #[.pointer (some ⟨s1 + 2, 0, none⟩)] (enters_of Try.func61 (by kernel_rfl) rfl) (getB S) (s1 + 3) (fun _ => False) (StandI (s1 + 1) (s1 + 2) pre.length S) (fun k h => h.elim) (stand_stays (by omega) (by omega)) (told_stand _ _ _ _ _ (by omega) (by omega)) ⟨t, at_, ct⟩ w5 W.drew (hzv.1.reads e6.up) (e6.on.trans (reads_below hwd)) (by show s1 + 3 ≤ W.heap.size; omega) ⟨e4.same (Reads.refl _) rfl, e4'⟩ (HSZ.out _ (List.mem_of_getElem? hli)) (Nat.le_trans (stand_few S t) (by omega))).mono (fun e w' ⟨w6, z, h1, h2, h3, h4, h5⟩ => (show ∃ (w6 : World) (tz : Tm) (az : Option Addr) (cz : Nat), e = Ending.returned (.agg #[.int .i64 tz.kind, .string tz.name, .int .i64 tz.n, .slice az tz.args.length cz]) ∧ (tz = appT S t ∧ Tv.ok w6 ⟨tz, az, cz⟩) ∧ StandI (s1 + 1) (s1 + 2) pre.length S w6 w' ∧ Step (fun _ => False) w5 W.drew w6 w' from
      ⟨w6, z.t, z.a, z.c, h1, ⟨h2.trans (stand_app S t (HP.out _ (List.mem_of_getElem? hli))), h3⟩, h4, h5⟩)))
    have hc3 := e5.cell
    have hx0 : W.cell? ⟨Bx, 0, none⟩ = some (.string s) := by rw [cell_of_row W Bx 0 _ _ (0, 0) bX]; rfl
    have hx1 : W.cell? ⟨Bx, 1, none⟩ = some (.int .i64 t.kind) := by rw [cell_of_row W Bx 1 _ _ (0, 0) bX]; rfl
    have hx2 : W.cell? ⟨Bx, 2, none⟩ = some (.string t.name) := by rw [cell_of_row W Bx 2 _ _ (0, 0) bX]; rfl
    have hx3 : W.cell? ⟨Bx, 3, none⟩ = some (.int .i64 t.n) := by rw [cell_of_row W Bx 3 _ _ (0, 0) bX]; rfl
    have hx4 : W.cell? ⟨Bx, 4, none⟩ = some (.slice at_ t.args.length ct) := by rw [cell_of_row W Bx 4 _ _ (0, 0) bX]; rfl
    have hxl : Bx < W.heap.size := (Array.getElem?_eq_some_iff.1 bX).1
    have SK := Lib.hid (fun (W' : World) (k1 : W'.heap[s1]? = W.heap[s1]?) (k2 : W'.heap[Bx]? = W.heap[Bx]?) => (show W'.cell? ⟨s1, 0, none⟩ = some (.slice (some ⟨g, 0, none⟩) l.length cu) ∧ W'.cell? ⟨Bx, 1, none⟩ = some (.int .i64 t.kind) ∧ W'.cell? ⟨Bx, 2, none⟩ = some (.string t.name) ∧ W'.cell? ⟨Bx, 3, none⟩ = some (.int .i64 t.n) ∧ W'.cell? ⟨Bx, 4, none⟩ = some (.slice at_ t.args.length ct) from
      ⟨(World.cell?_of_block (w := W) (w' := W') (a := ⟨s1, 0, none⟩) k1).trans hc3, (World.cell?_of_block (w := W) (w' := W') (a := ⟨Bx, 1, none⟩) k2).trans hx1, (World.cell?_of_block (w := W) (w' := W') (a := ⟨Bx, 2, none⟩) k2).trans hx2, (World.cell?_of_block (w := W) (w' := W') (a := ⟨Bx, 3, none⟩) k2).trans hx3, (World.cell?_of_block (w := W) (w' := W') (a := ⟨Bx, 4, none⟩) k2).trans hx4⟩))
    have HE := Lib.hid (And.intro e1 (And.intro e2 (And.intro e3 (And.intro e5 (And.intro e6 (And.intro e7 hz5))))))
    have HX := Lib.hid (And.intro hx0 (And.intro hli (And.intro hul (And.intro hSe hzv))))
    have hk0 : (0 : Int) ≤ (i : Int) := by omega
    have hk1 : (i : Int) < (l.length : Int) := by omega
    have hs8 : s1 + 4 ≤ W.heap.size := e8
    have HBX := Lib.hid bX
    have S0 := SK.out W.drew rfl rfl
    clear e1 e2 e3 e4 e4' e5 e6 e7 e8 hz5 hx0 hx1 hx2 hx3 hx4 hc3 hli hul hSe hzv hwd bX hS hA
    simp only [Tv.val] at PT
    gi_wp2_with fail
    refine region_round (S := fun W' => W'.cell? ⟨s1, 0, none⟩ = some (.slice (some ⟨g, 0, none⟩) l.length cu) ∧ W'.cell? ⟨Bx, 1, none⟩ = some (.int .i64 t.kind) ∧ W'.cell? ⟨Bx, 2, none⟩ = some (.string t.name) ∧ W'.cell? ⟨Bx, 3, none⟩ = some (.int .i64 t.n) ∧ W'.cell? ⟨Bx, 4, none⟩ = some (.slice at_ t.args.length ct)) l0 _ (noDefer_spec (by kernel_rfl)) (fun ⟨_, _, h⟩ => h) (by kernel_rfl) S0 (fun hHeld => ?_)
    refine wpAnyH_take (i := 0) (v := ?v1) rfl (by kernel_rfl) (by kernel_rfl) (by kernel_rfl) (fun _ _ _ h => h) (Or.inl ⟨by rfl, ?hy1⟩) (by assumption) ?rest1
    case hy1 => (intro w hSw; (try dsimp only at hSw); go_simp; (try with_reducible rfl))
    try simp only [Act.put, List.setIfInBounds_toArray]
    refine wpAnyH_take (i := 1) (v := ?v2) rfl (by kernel_rfl) (by kernel_rfl) (by kernel_rfl) (fun _ _ _ h => h) (Or.inl ⟨by rfl, ?hy2⟩) (by assumption) ?rest2
    case hy2 => (intro w hSw; (try dsimp only at hSw); go_simp; (try with_reducible rfl))
    try simp only [Act.put]
    refine wpAnyH_take (i := 2) (v := ?v3) rfl (by kernel_rfl) (by kernel_rfl) (by kernel_rfl) (fun _ _ _ h => h) (Or.inl ⟨by rfl, ?hy3⟩) (by assumption) ?rest3
    case hy3 => (intro w hSw; (try dsimp only at hSw); go_simp; (try with_reducible rfl))
    try simp only [Act.put]
    refine wpAnyH_take (i := 3) (v := ?v4) rfl (by kernel_rfl) (by kernel_rfl) (by kernel_rfl) (fun _ _ _ h => h) (Or.inl ⟨by rfl, ?hy4⟩) (by assumption) ?rest4
    case hy4 => (intro w hSw; (try dsimp only at hSw); go_simp; (try with_reducible rfl))
    try simp only [Act.put]
    refine wpAnyH_ready (rs := [4]) (by kernel_rfl) (by simp) ?_
    refine AllReadyH.cons rfl (fun K hK => ?_) AllReadyH.nil
    go_simp
    refine hK.out _ _ ?_ (fun hHeld => ?_)
    · exact S0
    clear hK K
    try simp only [Act.put, List.setIfInBounds_toArray, List.set_cons_zero, List.set_cons_succ]
    refine wpAnyH_ready (rs := [5]) (by kernel_rfl) (by simp) ?_
    refine AllReadyH.cons rfl (fun K hK => ?_) AllReadyH.nil
    go_simp
    (go_at_call 60; refine PT.out.mono ?_; rintro e w4 ⟨w6, tz, az, cz, rfl, hz6, hI6, hst6⟩; have S4 := SK.out w4 (hst6.keep s1 (by show s1 < W.heap.size; omega) (fun h => h)) (hst6.keep Bx hxl (fun h => h)); obtain ⟨r0, r1, r2, r3, r4, k0, k1, k2, k3, k4⟩ := bv_five (own_same HE.out.2.2.1 (fun b hb => hst6.keep b (by have hbg : g = b := Option.some.inj hb; show b < W.heap.size; omega) (fun h => h))) HE.out.2.2.2.2.2.2; have hg4 : g < w4.heap.size := lt_of_cell r0; have H6 := Lib.hid (And.intro hz6 (And.intro hI6 hst6)); clear hz6 hI6 hst6 PT)
    refine hK.out _ _ ?_ (fun hHeld => ?_)
    · exact S4
    clear hK K
    try simp only [Act.put, List.setIfInBounds_toArray, List.set_cons_zero, List.set_cons_succ]
    refine wpAnyH_take (i := 6) (v := ?v5) rfl (by kernel_rfl) (by kernel_rfl) (by kernel_rfl) (fun _ _ _ h => h) (Or.inl ⟨by rfl, ?hy5⟩) (by assumption) ?rest5
    case hy5 => (intro w hSw; (try dsimp only at hSw); go_simp; (try with_reducible rfl))
    try simp only [Act.put, List.setIfInBounds_toArray]
    refine wpAnyH_take (i := 7) (v := ?v6) rfl (by kernel_rfl) (by kernel_rfl) (by kernel_rfl) (fun _ _ _ h => h) (Or.inl ⟨by rfl, ?hy6⟩) (by assumption) ?rest6
    case hy6 => (intro w hSw; (try dsimp only at hSw); go_simp; (try with_reducible rfl))
    try simp only [Act.put]
    refine wpAnyH_ready (rs := [8]) (by kernel_rfl) (by simp) ?_
    refine AllReadyH.cons rfl (fun K hK => ?_) AllReadyH.nil
    go_simp
    simp only [Nat.add_assoc, Nat.reduceAdd]
    have HT := Lib.hid (step_four ((((Step.refl HE.out.2.2.2.2.1.on).below ((Below.refl _ W).drew)).trans (H6.out.2.2.wider (D := fun k => k = g ∨ k = s1 + 1) (fun _ _ h => h.elim)))) (g := g) (H6.out.2.2.blind g (by show g < W.heap.size; omega) (HE.out.2.2.2.2.2.1 g rfl)) (fun _ => .inl rfl) (i * 5 + 1) (i * 5 + 2) (i * 5 + 3) (i * 5 + 4) (.int .i64 tz.kind) (.string tz.name) (.int .i64 tz.n) (.slice az tz.args.length cz))
    have hown4 := own_same HE.out.2.2.1 (fun b hb => H6.out.2.2.keep b (by have hbg : g = b := Option.some.inj hb; show b < W.heap.size; omega) (fun h => h))
    have HO7 := Lib.hid (bv_put hown4 ⟨tz, az, cz⟩ i z5 HE.out.2.2.2.2.2.2)
    have hoth : ∀ b, b ≠ g → (((((w4.setCell ⟨g, i * 5 + 1, none⟩ (.int .i64 tz.kind)).setCell ⟨g, i * 5 + 2, none⟩ (.string tz.name)).setCell ⟨g, i * 5 + 3, none⟩ (.int .i64 tz.n)).setCell ⟨g, i * 5 + 4, none⟩ (.slice az tz.args.length cz))).heap[b]? = w4.heap[b]? := fun b hb => by
      rw [Below.heap_setCell _ _ _ _ hb, Below.heap_setCell _ _ _ _ hb, Below.heap_setCell _ _ _ _ hb, Below.heap_setCell _ _ _ _ hb]
    have S6 := SK.out (((((w4.setCell ⟨g, i * 5 + 1, none⟩ (.int .i64 tz.kind)).setCell ⟨g, i * 5 + 2, none⟩ (.string tz.name)).setCell ⟨g, i * 5 + 3, none⟩ (.int .i64 tz.n)).setCell ⟨g, i * 5 + 4, none⟩ (.slice az tz.args.length cz))) ((hoth s1 (by omega)).trans (H6.out.2.2.keep s1 (by show s1 < W.heap.size; omega) (fun h => h))) ((hoth Bx (by omega)).trans (H6.out.2.2.keep Bx hxl (fun h => h)))
    have HI7 := Lib.hid (show StandI (s1 + 1) (s1 + 2) pre.length S w6 (((((w4.setCell ⟨g, i * 5 + 1, none⟩ (.int .i64 tz.kind)).setCell ⟨g, i * 5 + 2, none⟩ (.string tz.name)).setCell ⟨g, i * 5 + 3, none⟩ (.int .i64 tz.n)).setCell ⟨g, i * 5 + 4, none⟩ (.slice az tz.args.length cz))) from ⟨H6.out.2.1.1.same (Reads.refl _) (hoth _ (by omega)), (hoth _ (by omega)).trans H6.out.2.1.2⟩)
    refine hK.out _ _ ?_ (fun hHeld2 => ?_)
    · exact S6
    clear hK K
    try simp only [Act.put, List.setIfInBounds_toArray, List.set_cons_zero, List.set_cons_succ]
    refine wpAnyH_done (by kernel_rfl) ?_ _
    obtain ⟨w7, hw7⟩ : ∃ w7, w7 = ((((w4.setCell ⟨g, i * 5 + 1, none⟩ (.int .i64 tz.kind)).setCell ⟨g, i * 5 + 2, none⟩ (.string tz.name)).setCell ⟨g, i * 5 + 3, none⟩ (.int .i64 tz.n)).setCell ⟨g, i * 5 + 4, none⟩ (.slice az tz.args.length cz)) := ⟨_, rfl⟩
    rw [← hw7] at HT HO7 HI7 S6 ⊢
    have hz7 : (us5.set i ⟨z5.s, ⟨tz, az, cz⟩⟩)[i]? = some ⟨z5.s, ⟨tz, az, cz⟩⟩ := by
      rw [List.getElem?_set, if_pos rfl, if_pos (List.getElem?_eq_some_iff.1 HE.out.2.2.2.2.2.2).1]
    obtain ⟨_, q1, q2, q3, q4, _, _, _, _, _⟩ := bv_five HO7.out hz7
    simp only at q1 q2 q3 q4
    have q5 := HI7.out.2.cell
    have q6 := S6.1
    have q0 : w7.cell? ⟨Bx, 0, none⟩ = some (.string s) := (World.cell?_of_block (w := W) (w' := w7) (a := ⟨Bx, 0, none⟩) (HT.out.keep Bx hxl (fun h => by omega))).trans HX.out.1
    obtain ⟨D, hown7, hmap7, htab7⟩ := HI7.out.1
    have hplen : pre.length < maxLen := by unfold maxLen; have := HLEN.out; have := HVL.out; omega
    obtain ⟨w8, hrun, hown8, hg8⟩ := World.ownsMap.update (w := w7.drew) hown7 keyed_name Try.underlying86 hplen (keyOfF HX.out.2.2.2.2.2) (show termR (.agg #[.int .i64 tz.kind, .string tz.name, .int .i64 tz.n, .slice az tz.args.length cz]) = some (.held (.agg #[.int .i64 tz.kind, .string tz.name, .int .i64 tz.n, .slice az tz.args.length cz]), []) from rfl)
    have HM8 := Lib.hid (And.intro hmap7 (And.intro htab7 (And.intro hown8 hg8)))
    have hoth8 : ∀ b, b < w7.heap.size → b ≠ s1 + 1 → w8.heap[b]? = w7.heap[b]? := fun b h1 h2 => hg8.block b h1 (fun e => h2 (Option.some.inj e))
    have hg7 : g < w7.heap.size := lt_of_cell q1
    have hs7 : s1 < w7.heap.size := lt_of_cell q6
    have hb7 : s1 + 2 < w7.heap.size := lt_of_cell q5
    have hx7 : Bx < w7.heap.size := lt_of_cell q0
    have S7 : w7.drew.cell? ⟨s1 + 2, 0, none⟩ = some (.map (some (s1 + 1))) ∧ w7.drew.cell? ⟨Bx, 0, none⟩ = some (.string s) ∧ w7.drew.cell? ⟨s1, 0, none⟩ = some (.slice (some ⟨g, 0, none⟩) l.length cu) ∧ w7.drew.cell? ⟨g, i * 5 + 1, none⟩ = some (.int .i64 tz.kind) ∧ w7.drew.cell? ⟨g, i * 5 + 2, none⟩ = some (.string tz.name) ∧ w7.drew.cell? ⟨g, i * 5 + 3, none⟩ = some (.int .i64 tz.n) ∧ w7.drew.cell? ⟨g, i * 5 + 4, none⟩ = some (.slice az tz.args.length cz) := ⟨q5, q0, q6, q1, q2, q3, q4⟩
    have S8 : w8.cell? ⟨s1 + 2, 0, none⟩ = some (.map (some (s1 + 1))) ∧ w8.cell? ⟨Bx, 0, none⟩ = some (.string s) ∧ w8.cell? ⟨s1, 0, none⟩ = some (.slice (some ⟨g, 0, none⟩) l.length cu) ∧ w8.cell? ⟨g, i * 5 + 1, none⟩ = some (.int .i64 tz.kind) ∧ w8.cell? ⟨g, i * 5 + 2, none⟩ = some (.string tz.name) ∧ w8.cell? ⟨g, i * 5 + 3, none⟩ = some (.int .i64 tz.n) ∧ w8.cell? ⟨g, i * 5 + 4, none⟩ = some (.slice az tz.args.length cz) := by
      have e := fun (b o : Nat) (h1 : b < w7.heap.size) (h2 : b ≠ s1 + 1) => World.cell?_of_block (w := w7) (w' := w8) (a := ⟨b, o, none⟩) (hoth8 b h1 h2)
      exact ⟨(e _ _ hb7 (by omega)).trans q5, (e _ _ hx7 (by omega)).trans q0, (e _ _ hs7 (by omega)).trans q6, (e _ _ hg7 (by omega)).trans q1, (e _ _ hg7 (by omega)).trans q2, (e _ _ hg7 (by omega)).trans q3, (e _ _ hg7 (by omega)).trans q4⟩
    have HS8 := Lib.hid S8
    have HOT := Lib.hid hoth8
    clear hw7 hoth hown4 S6 S4 S0 hHeld hHeld2 k0 k1 k2 k3 k4 r0 r1 r2 r3 r4 hg4 hown7 hmap7 htab7 hown8 hg8 hz7 q0 q1 q2 q3 q4 q5 q6 hoth8 S8
    gi_wp2_with fail
    refine region_round (S := fun W' => W'.cell? ⟨s1 + 2, 0, none⟩ = some (.map (some (s1 + 1))) ∧ W'.cell? ⟨Bx, 0, none⟩ = some (.string s) ∧ W'.cell? ⟨s1, 0, none⟩ = some (.slice (some ⟨g, 0, none⟩) l.length cu) ∧ W'.cell? ⟨g, i * 5 + 1, none⟩ = some (.int .i64 tz.kind) ∧ W'.cell? ⟨g, i * 5 + 2, none⟩ = some (.string tz.name) ∧ W'.cell? ⟨g, i * 5 + 3, none⟩ = some (.int .i64 tz.n) ∧ W'.cell? ⟨g, i * 5 + 4, none⟩ = some (.slice az tz.args.length cz)) l0 _ (noDefer_spec (by kernel_rfl)) (fun ⟨_, _, h⟩ => h) (by kernel_rfl) S7 (fun hHeld => ?_)
    refine wpAnyH_take (i := 0) (v := ?v7) rfl (by kernel_rfl) (by kernel_rfl) (by kernel_rfl) (fun _ _ _ h => h) (Or.inl ⟨by rfl, ?hy7⟩) (by assumption) ?rest7
    case hy7 => (intro w hSw; (try dsimp only at hSw); go_simp; (try with_reducible rfl))
    try simp only [Act.put, List.setIfInBounds_toArray]
    refine wpAnyH_take (i := 1) (v := ?v8) rfl (by kernel_rfl) (by kernel_rfl) (by kernel_rfl) (fun _ _ _ h => h) (Or.inl ⟨by rfl, ?hy8⟩) (by assumption) ?rest8
    case hy8 => (intro w hSw; (try dsimp only at hSw); go_simp; (try with_reducible rfl))
    try simp only [Act.put]
    refine wpAnyH_take (i := 2) (v := ?v9) rfl (by kernel_rfl) (by kernel_rfl) (by kernel_rfl) (fun _ _ _ h => h) (Or.inl ⟨by rfl, ?hy9⟩) (by assumption) ?rest9
    case hy9 => (intro w hSw; (try dsimp only at hSw); go_simp; (try with_reducible rfl))
    try simp only [Act.put]
    refine wpAnyH_take (i := 3) (v := ?v10) rfl (by kernel_rfl) (by kernel_rfl) (by kernel_rfl) (fun _ _ _ h => h) (Or.inl ⟨by rfl, ?hy10⟩) (by assumption) ?rest10
    case hy10 => (intro w hSw; (try dsimp only at hSw); go_simp; (try with_reducible rfl))
    try simp only [Act.put]
    refine wpAnyH_take (i := 4) (v := ?v11) rfl (by kernel_rfl) (by kernel_rfl) (by kernel_rfl) (fun _ _ _ h => h) (Or.inl ⟨by rfl, ?hy11⟩) (by assumption) ?rest11
    case hy11 => (intro w hSw; (try dsimp only at hSw); go_simp; (try with_reducible rfl))
    try simp only [Act.put]
    refine wpAnyH_take (i := 5) (v := ?v12) rfl (by kernel_rfl) (by kernel_rfl) (by kernel_rfl) (fun _ _ _ h => h) (Or.inl ⟨by rfl, ?hy12⟩) (by assumption) ?rest12
    case hy12 => (intro w hSw; (try dsimp only at hSw); go_simp; (try with_reducible rfl))
    try simp only [Act.put]
    refine wpAnyH_take (i := 6) (v := ?v13) rfl (by kernel_rfl) (by kernel_rfl) (by kernel_rfl) (fun _ _ _ h => h) (Or.inl ⟨by rfl, ?hy13⟩) (by assumption) ?rest13
    case hy13 => (intro w hSw; (try dsimp only at hSw); go_simp; (try with_reducible rfl))
    try simp only [Act.put]
    refine wpAnyH_take (i := 7) (v := ?v14) rfl (by kernel_rfl) (by kernel_rfl) (by kernel_rfl) (fun _ _ _ h => h) (Or.inl ⟨by rfl, ?hy14⟩) (by assumption) ?rest14
    case hy14 => (intro w hSw; (try dsimp only at hSw); go_simp; (try with_reducible rfl))
    try simp only [Act.put]
    refine wpAnyH_ready (rs := [8]) (by kernel_rfl) (by simp) ?_
    refine AllReadyH.cons rfl (fun K hK => ?_) AllReadyH.nil
    go_simp
    refine hK.out _ _ ?_ (fun hHeld2 => ?_)
    · exact HS8.out
    clear hK K
    try simp only [Act.put, List.setIfInBounds_toArray, List.set_cons_zero, List.set_cons_succ]
    refine wpAnyH_done (by kernel_rfl) ?_ _
    clear hrun hHeld hHeld2 S7
    (try gi_wp2_with fail)
    obtain ⟨hmap7, htab7, hown8, hg8⟩ := HM8.out
    have hbm : Blind w6 (s1 + 1) := by
      obtain ⟨_, ⟨es, clock, hh, _⟩, _⟩ := HI7.out.1
      exact blind_other HT.out.on hh rfl
    have HE8 := HT.out.grown (W2 := w8) (row := some (s1 + 1)) ⟨hg8.os, hg8.tape, hg8.output, hg8.size, hg8.block⟩ (fun k e => by cases e; exact ⟨hbm, fun _ => .inr rfl⟩)
    have hzs : z5.s = s := by
      have h1 := sweep_names l (idx pre)
      rw [← HE.out.1, List.map_map] at h1
      have h2 := congrArg (fun (x : List ByteArray) => x[i]?) h1
      rw [List.getElem?_map, HE.out.2.2.2.2.2.2, List.getElem?_map, HX.out.2.1] at h2
      exact Option.some.inj h2
    have hsw : sweep l (idx (pre ++ [(⟨(i, ⟨s, ⟨t, at_, ct⟩⟩), hz⟩ : BvIn vs)])) = ((sweep l (idx pre)).1.set i (s, tz), (s, tz) :: S) := by
      rw [idx_append]
      show sweep l (idx pre ++ [i]) = _
      rw [sweep_snoc]
      unfold sweep1
      rw [HX.out.2.1, HX.out.2.2.2.1, H6.out.1.1, HX.out.2.2.2.1]
    refine ⟨⟨HE8.size, fun k o hk ho _ => (HE8.keep k (Array.getElem?_eq_some_iff.1 ho).1 (fun h => by omega)).trans ho⟩, ⟨⟨HE8.os, HE8.tape, HE8.output, HE8.size, fun k hk => HE8.keep k (by omega) (fun h => by omega)⟩, HE8.keep (s1 + 3) (by omega) (fun h => by omega)⟩, w6, us5.set i ⟨z5.s, ⟨tz, az, cz⟩⟩, ?_, ?_, ?_, ⟨?_, ?_⟩, ?_, ?_, ?_, ?_⟩
    · rw [hsw, List.map_set, HE.out.1]
      show _ = (sweep l (idx pre)).1.set i (s, tz)
      rw [← hzs]; rfl
    · intro x hx
      rcases List.mem_or_eq_of_mem_set hx with hx | rfl
      · exact ⟨(HE.out.2.1 x hx).1.reads HE8.up, (HE.out.2.1 x hx).2⟩
      · exact ⟨H6.out.1.2, by show z5.s.size ≤ _; rw [hzs]; exact HX.out.2.2.2.2.2⟩
    · exact own_same HO7.out fun b hb => by
        have hbg : g = b := Option.some.inj hb
        subst hbg
        exact HOT.out g hg7 (by omega)
    · rw [hsw, List.length_append]
      exact TabAt.put hmap7 htab7 s ⟨tz, az, cz⟩ H6.out.1.2 hown8
    · exact (HOT.out _ hb7 (by omega)).trans HI7.out.2
    · exact (HE8.keep s1 (by omega) (fun h => by omega)).trans HE.out.2.2.2.1
    · exact HE.out.2.2.2.2.1.trans (HE8.wider fun k _ h => by rcases h with h | h <;> omega)
    · intro b hb
      have hbg : g = b := Option.some.inj hb
      subst hbg
      exact HE8.blind g (by omega) (HE.out.2.2.2.2.2.1 g rfl)
    · have := HE8.size; omega
  case done =>
    rintro D ys W hD hys ⟨w5, us5, e1, e2, e3, ⟨e4, e4'⟩, e5, e6, e7, e8⟩ hK
    have hsw : us5.map Bv.bn = solveL l := by
      rw [e1, hys, show vs.length = l.length from HVL.out, sweep_all HP.out]
    have hsl : (solveL l).length = l.length := by
      have := congrArg List.length (solve_names l)
      rwa [List.length_map, List.length_map] at this
    have hOw : OwnBv w5 W w.heap.size (.slice au l.length cu) (solveL l) := ⟨us5, hsw, e2, by rw [hsl]; exact e3⟩
    have hln := HLEN.out
    have hov := own_over (E := fun k => decide (w.heap.size ≤ k)) hOw e6.on (by omega) (fun k hk => decide_eq_true hk)
    have hon : Reads (over w5 W (fun k => decide (w.heap.size ≤ k))) W := over_on e6.on
    have OF := Lib.hid ((callsIn_wide (n := 5 - 1)).2 (of_rd _ _ _ W hov hon (by omega)))
    have hBL := blind_other hon hK rfl
    have HE := Lib.hid (And.intro hon (And.intro hBL (And.intro e6 hK)))
    have c3 := e5.cell
    have HSL := Lib.hid hsl
    clear e1 e2 e3 e4 e4' e5 e6 e7 hsw hsl hOw hov hon hBL hK hys hS hA
    gi_wp2_with fail
    refine ⟨trivial, OF.out.mono ?_⟩; rintro e w9 ⟨u, rfl, _, ⟨us9, o1, o2, o3⟩, hb9⟩
    have hK9 : w9.heap[D]? = some (.deferred (some [])) := (hb9.block D (Array.getElem?_eq_some_iff.1 HE.out.2.2.2).1).trans HE.out.2.2.2
    have HO9 := Lib.hid (And.intro o1 (And.intro o2 (And.intro o3 hb9)))
    clear o1 o2 o3 hb9 OF
    gi_wp2_with fail
    refine ⟨by simp, .inl ⟨_, _, rfl, run_takeDeferred hK9, ?_⟩⟩
    refine ⟨u, by simp [results, Try.f40], u, rfl, ?_, ?_⟩
    · obtain ⟨hon, hBL, _, _⟩ := HE.out
      obtain ⟨o1, o2, o3, hb9⟩ := HO9.out
      have hgr := grownBy_putObj' w9 D (.deferred none)
      have hne : ∀ k, k ≠ D → (w9.putObj D (.deferred none)).heap[k]? = w9.heap[k]? := fun k hk => by
        rcases Nat.lt_or_ge k w9.heap.size with h | h
        · exact hgr.block k h (fun e => hk (Option.some.inj e))
        · rw [Array.getElem?_eq_none h, Array.getElem?_eq_none (by simpa [World.putObj] using h)]
      have hrd : Reads (over w5 W (fun k => decide (w.heap.size ≤ k))) (w9.putObj D (.deferred none)) := reads_keep (hon.trans (reads_below hb9)) hgr.size fun k _ hn => hne k fun e => hn (e ▸ hBL)
      have hlo := ofB_length (solveL l)
      have hown : OwnBv (w9.putObj D (.deferred none)) (w9.putObj D (.deferred none)) 0 u (ofB (solveL l)) := ⟨us9, o1, fun x hx => ⟨(o2 x hx).1.reads hrd, (o2 x hx).2⟩, own_same (own_lower o3 (Nat.zero_le _)) fun g hg => hne g fun e => by
        obtain ⟨cur, hc⟩ := own_block o3 hg
        rw [e, hK9] at hc; cases hc⟩
      exact hown.bds (Below.refl _ _) (by have := HSL.out; omega)
    · have hst := HE.out.2.2.1
      exact (step_below_of' hst (Nat.le_refl _)).trans ((HO9.out.2.2.2.mono hst.size).trans (belowK_b (w := w) (Nat.le_refl _) w9 D _ _ (by omega) hK9 rfl rfl))
  case stop =>
    rintro D c pre W hD _ h _
    exact h.elim
end Go.Proofs.Ytedljdcliilggaa
