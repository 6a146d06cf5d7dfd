/-
  Whether one of a row has a term in it, by the program's among; Has and Proper.
-/
import Derived.Test.YtpdbnhhpibpbnaaDoorPHasTm
namespace Go.Proofs.YtpdbnhhpibpbnaaDoor
open Go.RowKit Go.Shelf
attribute [local go_sem] Oper.semAt_some

/-- Whether one of a row has a term in it. -/
noncomputable def amongT (ts : List Tm) (y : Tm) : Bool := ts.any fun t => inT t.all y

theorem keepsT_of {n₀ : Nat} {W W' : World} (h : Below W.heap.size W W') (hn : n₀ ≤ W.heap.size) : KeepsT n₀ W W' := ⟨h.mono hn, fun k c f _ hk => by rw [h.block k (Array.getElem?_eq_some_iff.1 hk).1]; exact hk⟩
theorem keepsFrom_of {B : Nat} {W W' : World} (h : Below W.heap.size W W') : KeepsFrom B W W' := ⟨h.size, fun k o _ hk _ => by rw [h.block k (Array.getElem?_eq_some_iff.1 hk).1]; exact hk⟩
theorem boxed_below {W W' : World} {B : Nat} {t : TypeId} {v : Value} (hb : Boxed W B t v) (h : Below W.heap.size W W') : Boxed W' B t v := by
  have h1 : W.heap[B]? = some (Obj.cells #[v] t (0, 0)) := hb
  show W'.heap[B]? = _
  rw [h.block B (Array.getElem?_eq_some_iff.1 h1).1]; exact h1
theorem marks_own {β : Type} {B : Nat} (Ds : List Nat) : OwnFrom B (fun (_ : β) W => ∀ D ∈ Ds, D < B ∧ W.heap[D]? = some (Obj.deferred (some []))) := fun _ X Y row hs hg hr D hD => by
  obtain ⟨h1, h2⟩ := hs D hD
  refine ⟨h1, ?_⟩
  rw [hg.block D (Array.getElem?_eq_some_iff.1 h2).1 (fun e => by have := (hr D e.symm).1; omega)]; exact h2
theorem mark_set {W : World} {D B : Nat} {t : TypeId} {v u : Value} (h : W.heap[D]? = some (Obj.deferred (some []))) (hb : Boxed W B t v) : (W.setCell ⟨B, 0, none⟩ u).heap[D]? = some (Obj.deferred (some [])) := by
  have h1 : W.heap[B]? = some (Obj.cells #[v] t (0, 0)) := hb
  rw [Below.heap_setCell _ _ _ _ (fun e => by subst e; rw [h] at h1; cases h1)]; exact h
theorem mark_below {W W' : World} {D : Nat} (h : W.heap[D]? = some (Obj.deferred (some []))) (hb : Below W.heap.size W W') : W'.heap[D]? = some (Obj.deferred (some [])) := by
  rw [hb.block D (Array.getElem?_eq_some_iff.1 h).1]; exact h
theorem tms_snoc {w0 : World} {pre : List (TvIn w0)} {z : TvIn w0} {p : Tm → Prop} (h : ∀ y ∈ tms pre, p y) (hz : p z.1.t) : ∀ y ∈ tms (pre ++ [z]), p y := fun y hy => by
  rw [tms_append] at hy
  rcases List.mem_append.1 hy with hy | hy
  · exact h y hy
  · have : y = z.1.t := by simpa [tms] using hy
    rw [this]; exact hz
theorem tms_last {w0 : World} (pre : List (TvIn w0)) (z : TvIn w0) : z.1.t ∈ tms (pre ++ [z]) := by rw [tms_append]; exact List.mem_append.2 (.inr (by simp [tms]))
theorem amongT_take {ts : List Tm} {y : Tm} {j : Nat} (hj : j < ts.length) : amongT (ts.take (j + 1)) y = (amongT (ts.take j) y || inT ts[j].all y) := by
  unfold amongT
  rw [List.take_succ_eq_append_getElem hj, List.any_append]
  simp
theorem amongT_here {ts : List Tm} {y : Tm} {j : Nat} (hj : j < ts.length) (h : y ∈ ts[j].all) : amongT ts y = true := by
  unfold amongT
  rw [List.any_eq_true]
  refine ⟨ts[j], List.getElem_mem hj, ?_⟩
  unfold inT
  rw [List.any_eq_true]
  exact ⟨y, h, eqT_true rfl⟩
theorem inT_not {l : List Tm} {y : Tm} (h : ∀ z ∈ l, z ≠ y) : inT l y = false := by
  unfold inT
  rw [List.any_eq_false]
  intro z hz
  rw [eqT_false (h z hz)]; simp

set_option maxRecDepth 100000 in
set_option maxHeartbeats 4000000 in
theorem among_tm (v : Value) (ts : List Tm) (y : Tv) (w0 w : World) (hb0 : Below w0.heap.size w0 w) (hv : Tms w0 v ts) (hy : y.ok w0) (hp : ∀ t ∈ ts, t.parts ≤ 100000) (hyp : y.t.parts ≤ 100000) :
    Calls Tryd.prog 51 #[v, y.val] w fun e w' => e = .returned (.bool (amongT ts y.t)) ∧ Below w.heap.size w w' := by
  have hA := fun x w1 => sized_in Fence.wide (5 - 1) trivial rfl x w1
  have hSz := fun w' (h : Below w0.heap.size w0 w') => (callsIn_wide.2 (psize_tm y w' (hy.below h) (by omega)) : CallsIn Fence.wide 4 _ _ _ _ _)
  obtain ⟨t, a, c⟩ := y
  obtain ⟨a1, c1, rfl, hl, hr⟩ := hv
  simp only [Tv.val] at hSz hyp ⊢
  refine callsIn_wide.1 (callsIn_of_wp_marks (n := 5) Tryd.func51 rfl trivial ?_ rfl)
  simp only [Tryd.ntmps51, List.size_toArray, List.length_cons, List.length_nil, Nat.reduceAdd, Nat.reduceSub, Array.replicate_succ, Array.replicate_zero, List.push_toArray, List.append_toArray, List.nil_append, List.cons_append]
  gi_wp2_with fail
  refine ⟨trivial, (hSz _ ?_).mono ?_⟩
  · exact (hb0.alloc hb0.size _).alloc (by have := hb0.size; simp; omega) _
  rintro e w1 ⟨rfl, hb1⟩
  have hz0 : (w.alloc (.cells #[.int .i64 t.kind, .string t.name, .int .i64 t.n, .slice a t.args.length c] 24)).heap.size = w.heap.size + 1 := by simp
  have hwa := ((Below.refl w.heap.size w).alloc (Nat.le_refl _) (.cells #[.int .i64 t.kind, .string t.name, .int .i64 t.n, .slice a t.args.length c] 24)).alloc (by simp) (.cells #[.bool false] 4)
  have bR := Boxed.new (w.alloc (.cells #[.int .i64 t.kind, .string t.name, .int .i64 t.n, .slice a t.args.length c] 24)) 4 (.bool false)
  have bY := (box_new w (.int .i64 t.kind) (.string t.name) (.int .i64 t.n) (.slice a t.args.length c) 24).below ((Below.refl _ _).alloc (Nat.le_refl _) (.cells #[.bool false] 4)) (by simp)
  have hwz : ((w.alloc (.cells #[.int .i64 t.kind, .string t.name, .int .i64 t.n, .slice a t.args.length c] 24)).alloc (.cells #[.bool false] 4)).heap.size = w.heap.size + 2 := by simp
  rw [hz0] at bR
  replace bR := boxed_below bR hb1
  replace bY := bY.below hb1 (by rw [hwz]; omega)
  have hwb := hwa.trans (hb1.mono (by rw [hwz]; omega))
  have hs1 := hb1.size
  rw [hwz] at hs1
  have bS := Boxed.new w1 3 (.int .i64 t.parts)
  replace bR := bR.alloc (.cells #[.int .i64 (t.parts : Nat)] 3)
  replace bY := bY.below ((Below.refl w1.heap.size w1).alloc (Nat.le_refl _) (.cells #[.int .i64 (t.parts : Nat)] 3)) (by omega)
  replace hwb := hwb.alloc (by omega) (.cells #[.int .i64 (t.parts : Nat)] 3)
  clear hb1 hwa hwz hz0 hSz
  gi_wp2_with fail
  have HP := Lib.hid hp
  have HB0 := Lib.hid hb0
  have HY := Lib.hid hy
  have HR := Lib.hid hr
  clear hp hr
  have hs0 := hb0.size
  refine wpIn_loop (fun ac W => ∃ (j : Nat) (Ds : List Nat) (u7 u15 u16 u17 u18 u19 u30 : Value), (j ≤ ts.length ∧ Hid (amongT (ts.take j) t = false) ∧ Ds.Nodup ∧ (∀ D ∈ Ds, w.heap.size ≤ D ∧ W.heap[D]? = some (Obj.deferred (some []))) ∧
      (Boxed W (w.heap.size + 1) 4 (.bool false) ∧ Boxed W w1.heap.size 3 (.int .i64 t.parts) ∧ Box W w.heap.size (.int .i64 t.kind) (.string t.name) (.int .i64 t.n) (.slice a t.args.length c)) ∧ Below w.heap.size w W) ∧
      ac = { tmps := #[.slice a1 ts.length c1, .agg #[.int .i64 t.kind, .string t.name, .int .i64 t.n, .slice a t.args.length c], undef, .pointer (some ⟨w.heap.size, 0, none⟩), .pointer (some ⟨w.heap.size + 1, 0, none⟩), .pointer (some ⟨w1.heap.size, 0, none⟩), undef, u7, undef, undef, .agg #[.int .i64 t.kind, .string t.name, .int .i64 t.n, .slice a t.args.length c], .int .i64 t.parts, .slice a1 ts.length c1, .int .i64 ts.length, .int .i64 j, u15, u16, u17, u18, u19, undef, undef, undef, undef, undef, undef, undef, undef, undef, undef, u30], defers := marks Ds }) (fun ac _ => ts.length - (intOf (ac.tmps.getD 14 undef)).toNat) ?_ ?_
  · exact ⟨0, [], undef, undef, undef, undef, undef, undef, undef, ⟨Nat.zero_le _, Lib.hid (by rw [List.take_zero]; rfl), List.nodup_nil, (fun D hD => by cases hD), ⟨bR, bS, bY⟩, hwb⟩, rfl⟩
  · clear bR bS bY hwb
    rintro _ W ⟨j, Ds, u7, u15, u16, u17, u18, u19, u30, ⟨hj, hno, hnd, hDs, ⟨bR, bS, bY⟩, hB⟩, rfl⟩
    have hsW := hB.size
    have HNO := Lib.hid hno
    have HDS := Lib.hid hDs
    clear hno hDs
    by_cases hjl : j < ts.length
    · have hil : (j : Int) < (ts.length : Int) := by omega
      obtain ⟨b, off, rfl, hlt, hrw⟩ : ∃ b off, a1 = some ⟨b, off, none⟩ ∧ b < w0.heap.size ∧ RowAt w0 ts b off := by
        rcases HR.out with h | h
        · subst h; simp at hjl
        · exact h
      obtain ⟨u, hu, huk, hat⟩ := tmAt_tv (rowAt_get hrw hjl)
      have hBW : Below w0.heap.size w0 W := HB0.out.trans (hB.mono hs0)
      obtain ⟨d0, d1, d2, d3⟩ := hat.below hBW
      have hup : u.t.parts ≤ 100000 := by rw [hu]; exact HP.out _ (List.getElem_mem hjl)
      have hSz : CallsIn Fence.wide 4 Tryd.prog 62 #[.agg #[.int .i64 u.t.kind, .string u.t.name, .int .i64 u.t.n, .slice u.a u.t.args.length u.c]] (W.alloc (.cells #[.int .i64 u.t.kind, .string u.t.name, .int .i64 u.t.n, .slice u.a u.t.args.length u.c] 24)) _ := hA u _
      have HU := Lib.hid hu
      clear hu hat
      gi_wp2_with fail
      refine ⟨trivial, hSz.mono ?_⟩; clear hSz; rintro e wc ⟨rfl, rfl⟩
      have hzz : (W.alloc (.cells #[.int .i64 u.t.kind, .string u.t.name, .int .i64 u.t.n, .slice u.a u.t.args.length u.c] 24)).heap.size = W.heap.size + 1 := by simp
      have hBc := (hB.alloc hsW (.cells #[.int .i64 u.t.kind, .string u.t.name, .int .i64 u.t.n, .slice u.a u.t.args.length u.c] 24)).alloc (by simp; omega) (.cells #[.int .i64 u.t.kind, .string u.t.name, .int .i64 u.t.n, .slice u.a u.t.args.length u.c] 24)
      have hWc := ((Below.refl W.heap.size W).alloc (Nat.le_refl _) (.cells #[.int .i64 u.t.kind, .string u.t.name, .int .i64 u.t.n, .slice u.a u.t.args.length u.c] 24)).alloc (by simp) (.cells #[.int .i64 u.t.kind, .string u.t.name, .int .i64 u.t.n, .slice u.a u.t.args.length u.c] 24)
      have bU := box_new (W.alloc (.cells #[.int .i64 u.t.kind, .string u.t.name, .int .i64 u.t.n, .slice u.a u.t.args.length u.c] 24)) (.int .i64 u.t.kind) (.string u.t.name) (.int .i64 u.t.n) (.slice u.a u.t.args.length u.c) 24
      have hszc : ((W.alloc (.cells #[.int .i64 u.t.kind, .string u.t.name, .int .i64 u.t.n, .slice u.a u.t.args.length u.c] 24)).alloc (.cells #[.int .i64 u.t.kind, .string u.t.name, .int .i64 u.t.n, .slice u.a u.t.args.length u.c] 24)).heap.size = W.heap.size + 2 := by simp
      rw [hzz] at bU ⊢
      obtain ⟨Wc, hWcc⟩ : ∃ Wc, ((W.alloc (.cells #[.int .i64 u.t.kind, .string u.t.name, .int .i64 u.t.n, .slice u.a u.t.args.length u.c] 24)).alloc (.cells #[.int .i64 u.t.kind, .string u.t.name, .int .i64 u.t.n, .slice u.a u.t.args.length u.c] 24)) = Wc := ⟨_, rfl⟩
      rw [hWcc] at hBc hWc bU hszc ⊢
      clear hWcc hzz
      replace bR := boxed_below bR hWc
      replace bS := boxed_below bS hWc
      replace bY := bY.below hWc (box_lt bY)
      have hBc0 : Below w0.heap.size w0 Wc := hBW.trans (hWc.mono (by omega))
      have hDc : ∀ D ∈ Ds, D < Wc.heap.size ∧ Wc.heap[D]? = some (Obj.deferred (some [])) := fun D hD => by
        have h := (HDS.out D hD).2
        have hl := (Array.getElem?_eq_some_iff.1 h).1
        exact ⟨by omega, by rw [hWc.block D hl]; exact h⟩
      have h1R : w.heap.size + 1 < Wc.heap.size := bR.lt
      have hS := sized_stops Fence.wide rfl (5 - 1) trivial trivial rfl w0 (W.heap.size + 1) ⟨u, huk⟩ (by show u.t.parts ≤ _; omega) Wc (by omega) bU hBc0
      simp only [Tv.val] at hS
      have h1S : w1.heap.size < Wc.heap.size := bS.lt
      gi_wp2_with fail
      refine wpIn_rangeFunc_ownH rfl (by omega) (gf := 77) (lb := #[.pointer (some ⟨W.heap.size + 1, 0, none⟩)]) rfl trivial (enters_of Tryd.func77 (by kernel_rfl) rfl)
        hS keepsT_t (keepsT_b (by omega)) (Below.refl _ _) (fun _ => rfl)
        (fun (pre : List (TvIn w0)) W => (((Boxed W (w.heap.size + 1) 4 (.bool false) ∧ Boxed W w1.heap.size 3 (.int .i64 t.parts)) ∧ Box W w.heap.size (.int .i64 t.kind) (.string t.name) (.int .i64 t.n) (.slice a t.args.length c)) ∧ (∀ z ∈ tms pre, z ≠ t)) ∧ ((∀ D ∈ Ds, D < Wc.heap.size ∧ W.heap[D]? = some (Obj.deferred (some []))) ∧ Below w.heap.size w W))
        (fun c (pre : List (TvIn w0)) W => (Boxed W (w.heap.size + 1) 4 (.bool true) ∧ (c = .ret ∧ ∃ z ∈ tms pre, z = t)) ∧ ((∀ D ∈ Ds, D < Wc.heap.size ∧ W.heap[D]? = some (Obj.deferred (some []))) ∧ Below w.heap.size w W))
        (OwnFrom.and (OwnFrom.and (OwnFrom.and (OwnFrom.and (Own.from (boxed_own _ _ (fun _ : List (TvIn w0) => .bool false)) _) (Own.from (boxed_own _ _ (fun _ : List (TvIn w0) => .int .i64 t.parts)) _)) (Own.from (box_own _ _ _ _ _) _)) (ownFrom_pure _ _)) (OwnFrom.and (marks_own _) (ownFrom_below (Nat.le_refl _) (by omega))))
        (fun c => OwnFrom.and (OwnFrom.and (Own.from (boxed_own _ _ (fun _ : List (TvIn w0) => .bool true)) _) (ownFrom_pure _ _)) (OwnFrom.and (marks_own _) (ownFrom_below (Nat.le_refl _) (by omega))))
        ⟨⟨⟨⟨bR, bS⟩, bY⟩, fun z hz => by cases hz⟩, hDc, hBc⟩
        (fun z a' Wv => ∃ Bx, w1.heap.size < Bx ∧ Box Wv Bx (.int .i64 z.1.t.kind) (.string z.1.t.name) (.int .i64 z.1.t.n) (.slice z.1.a z.1.t.args.length z.1.c) ∧ a' = { tmps := #[.slice (some ⟨b, off, none⟩) ts.length c1, .agg #[.int .i64 t.kind, .string t.name, .int .i64 t.n, .slice a t.args.length c], undef, .pointer (some ⟨w.heap.size, 0, none⟩), .pointer (some ⟨w.heap.size + 1, 0, none⟩), .pointer (some ⟨w1.heap.size, 0, none⟩), undef, .pointer (some ⟨W.heap.size, 0, none⟩), .pointer (some ⟨Bx, 0, none⟩), .int .i64 z.1.t.parts, .agg #[.int .i64 t.kind, .string t.name, .int .i64 t.n, .slice a t.args.length c], .int .i64 t.parts, .slice (some ⟨b, off, none⟩) ts.length c1, .int .i64 ts.length, .int .i64 j, .bool true, .pointer (some ⟨b, off + j * 4, none⟩), .agg #[.int .i64 u.t.kind, .string u.t.name, .int .i64 u.t.n, .slice u.a u.t.args.length u.c], .agg #[.int .i64 u.t.kind, .string u.t.name, .int .i64 u.t.n, .slice u.a u.t.args.length u.c], .func (.func 77) #[] #[.pointer (some ⟨W.heap.size + 1, 0, none⟩)], .agg #[.int .i64 z.1.t.kind, .string z.1.t.name, .int .i64 z.1.t.n, .slice z.1.a z.1.t.args.length z.1.c], .int .i64 z.1.t.parts, undef, undef, undef, undef, undef, undef, undef, undef, u30], defers := [] })
        (fun z a' _ X Y row hs hg hr => by obtain ⟨Bx, h1, h2, h3⟩ := hs; exact ⟨Bx, h1, box_own Bx _ _ _ _ () X Y row h2 hg (fun r e => (hr r e).2), h3⟩)
        ?assign ?body ?done ?stop
      case assign =>
        rintro l pre z W K ⟨⟨⟨⟨bR1, bS1⟩, bY1⟩, hv⟩, hD1, hB1⟩ hK
        gi_wp2_with fail
        refine hK _ _ ((KeepsOthers.alloc _ _).from _) ((KeepsT.refl _ W).alloc (by have := hB1.size; omega) _) ⟨⟨⟨⟨bR1.alloc _, bS1.alloc _⟩, bY1.below ((Below.refl _ _).alloc (Nat.le_refl _) _) (box_lt bY1)⟩, hv⟩, (fun D hD => ⟨(hD1 D hD).1, by rw [Below.heap_alloc _ _ _ (Array.getElem?_eq_some_iff.1 (hD1 D hD).2).1]; exact (hD1 D hD).2⟩), hB1.alloc hB1.size _⟩ ⟨W.heap.size, bS1.lt, box_new W _ _ _ _ _, ?_⟩
        rfl
      case body =>
        rintro l pre z a' W' hl _ ⟨⟨⟨⟨bR1, bS1⟩, bY1⟩, hv⟩, hD1, hB1⟩ ⟨Bx, hBx, bX, rfl⟩ hlt
        have hbY := bY1
        obtain ⟨x0, x1, x2, x3, _, _, _, _⟩ := bX
        obtain ⟨y0, y1, y2, y3, _, _, _, _⟩ := bY1
        have cS := bS1.cell
        have fS := bS1.frozen
        have cR := bR1.cell
        have fR := bR1.frozen
        have HV := Lib.hid hv
        have HD1 := Lib.hid hD1
        have hB1s := hB1.size
        clear hv hD1
        cases hk : ((z.1.t.parts : Int) == (t.parts : Int)) with
        | false =>
          have HK := Lib.hid (show z.1.t ≠ t from fun e => by rw [e] at hk; simp at hk)
          gi_wp2_with fail
          refine ⟨trivial, ?_⟩
          gi_wp2_with fail
          exact ⟨KeepsFrom.refl _ _, KeepsT.refl _ _, ⟨⟨⟨bR1, bS1⟩, hbY⟩, tms_snoc HV.out HK.out⟩, HD1.out, hB1⟩
        | true =>
          have C := psame_tm z.1 ⟨t, a, c⟩ W' (z.2.below ((HB0.out.trans (hB1.mono hs0)))) (hy.below (HB0.out.trans (hB1.mono hs0)))
          simp only [Tv.val] at C
          cases he : eqT z.1.t t with
          | false =>
            have HK := Lib.hid (show z.1.t ≠ t from fun e => by rw [e, eqT_true rfl] at he; cases he)
            rw [he] at C
            clear he
            gi_wp2_with fail
            refine ⟨trivial, (CallsIn.inRound l (callsIn_wide.2 C)).mono ?_⟩; clear C; rintro e W3 ⟨rfl, hO⟩
            gi_wp2_with fail
            exact ⟨keepsFrom_of hO.below, keepsT_of hO.below (by omega), ⟨⟨⟨boxed_below bR1 hO.below, boxed_below bS1 hO.below⟩, hbY.below hO.below (box_lt hbY)⟩, tms_snoc HV.out HK.out⟩, fun D hD => ⟨(HD1.out D hD).1, mark_below (HD1.out D hD).2 hO.below⟩, below_next hB1 hO.below⟩
          | true =>
            have HK := Lib.hid (eqT_iff.1 he)
            rw [he] at C
            clear he
            gi_wp2_with fail
            refine ⟨trivial, (CallsIn.inRound l (callsIn_wide.2 C)).mono ?_⟩; clear C; rintro e W3 ⟨rfl, hO⟩
            have bR3 := boxed_below bR1 hO.below
            have cR3 := bR3.cell
            have fR3 := bR3.frozen
            gi_wp2_with fail
            exact ⟨(keepsFrom_of hO.below).trans ((KeepsOthers.setCell _ _ _).from _), ⟨bR3.set _, rfl, z.1.t, tms_last _ _, HK.out⟩, fun D hD => ⟨(HD1.out D hD).1, mark_set (mark_below (HD1.out D hD).2 hO.below) bR3⟩, (below_next hB1 hO.below).setCell (p := ⟨w.heap.size + 1, 0, none⟩) (by simp) _⟩
      case done =>
        rintro D ys W' hD hys ⟨⟨⟨⟨bR1, bS1⟩, bY1⟩, hv⟩, hD1, hB1⟩ hK
        have hnew : inT ts[j].all t = false := inT_not fun z hz => hv z (by rw [hys]; show z ∈ u.t.post; rw [mem_post, HU.out]; exact hz)
        have HN := Lib.hid hnew
        have HD1 := Lib.hid hD1
        clear hys hD1 hv hnew
        gi_wp2_with fail
        refine ⟨⟨j + 1, D :: Ds, _, _, _, _, _, _, _, ⟨by omega, Lib.hid (by rw [amongT_take hjl, HNO.out.out, HN.out]; rfl), List.nodup_cons.2 ⟨fun h => by have := (HD1.out D h).1; omega, hnd⟩, ?_, ⟨bR1, bS1, bY1⟩, hB1⟩, rfl⟩, ?_⟩
        · intro E hE
          rcases List.mem_cons.1 hE with rfl | hE
          · exact ⟨by omega, hK⟩
          · exact ⟨(HDS.out E hE).1, (HD1.out E hE).2⟩
        · simp [intOf]; omega
      case stop =>
        rintro D cc pre W' hD hpre ⟨⟨bR1, rfl, z, hz, rfl⟩, hD1, hB1⟩ hK
        have hr : amongT ts z = true := amongT_here hjl (by rw [← mem_post, ← HU.out]; exact hpre.subset hz)
        have HRR := Lib.hid hr
        have HD1 := Lib.hid hD1
        clear hD1 hr
        gi_wp2_with fail
        refine leaves_marks w.heap.size (D :: Ds) W' (List.nodup_cons.2 ⟨fun h => by have := (HD1.out D h).1; omega, hnd⟩) ?_ ?_
        · intro E hE
          rcases List.mem_cons.1 hE with rfl | hE
          · exact ⟨by omega, hK⟩
          · exact ⟨(HDS.out E hE).1, (HD1.out E hE).2⟩
        · intro W9 hb9 hk9
          have hc9 : W9.cell? ⟨w.heap.size + 1, 0, none⟩ = some (.bool true) := by
            have h9 := hk9 _ _ bR1 rfl
            exact Boxed.cell h9
          exact ⟨.bool true, by simp [results, Tryd.f51, go_sem, hc9], by rw [HRR.out], hB1.trans hb9⟩
    · obtain rfl : j = ts.length := by omega
      have hr : amongT ts t = false := by have := HNO.out.out; rw [List.take_length] at this; exact this
      have HRR := Lib.hid hr
      have cR := bR.cell
      have fR := bR.frozen
      clear hr
      gi_wp2_with fail
      have bR9 := bR.set (.bool false)
      refine leaves_marks w.heap.size Ds _ hnd (fun E hE => ⟨(HDS.out E hE).1, mark_set (HDS.out E hE).2 bR⟩) ?_
      intro W9 hb9 hk9
      have hc9 : W9.cell? ⟨w.heap.size + 1, 0, none⟩ = some (.bool false) := by
        have h9 := hk9 _ _ bR9 rfl
        exact Boxed.cell h9
      exact ⟨.bool false, by simp [results, Tryd.f51, go_sem, hc9], by rw [HRR.out], (hB.setCell (p := ⟨w.heap.size + 1, 0, none⟩) (by simp) _).trans hb9⟩

theorem amongT_one (t y : Tm) : amongT [t] y = inT t.all y := by unfold amongT; simp
theorem amongT_all : ∀ (ts : List Tm) (y : Tm), amongT ts y = inT (allL ts) y
  | [], _ => by rw [allL]; rfl
  | t :: r, y => by
    have ih := amongT_all r y
    unfold amongT at *
    rw [List.any_cons, ih, allL]
    unfold inT
    rw [List.any_append]

set_option maxHeartbeats 1000000 in
theorem phas_tm (x y : Tv) (w : World) (hx : x.ok w) (hy : y.ok w) (hp : x.t.parts ≤ 100000) (hq : y.t.parts ≤ 100000) :
    Calls Tryd.prog 29 #[x.val, y.val] w fun e w' => e = .returned (.bool (inT x.t.all y.t)) ∧ Below w.heap.size w w' := by
  have hR := Lib.hid (amongT_one x.t y.t)
  have C := Lib.hid (fun v w' (hv : Tms w' v [x.t]) (h : Below w.heap.size w w') => among_tm v [x.t] y w' w' (Below.refl _ _) hv (hy.below h) (fun t ht => by rw [List.mem_singleton.1 ht]; exact hp) hq)
  have HX := Lib.hid hx
  obtain ⟨tx, ax, cx⟩ := x
  obtain ⟨ty, ay, cy⟩ := y
  simp only [Tv.val] at *
  have hbb : Below w.heap.size w (((w.alloc (.cells #[.int .i64 tx.kind, .string tx.name, .int .i64 tx.n, .slice ax tx.args.length cx] 24)).alloc (.cells #[.int .i64 ty.kind, .string ty.name, .int .i64 ty.n, .slice ay ty.args.length cy] 24)).alloc (.cells #[.int .i64 tx.kind, .string tx.name, .int .i64 tx.n, .slice ax tx.args.length cx] 24)) := ((((Below.refl _ _).alloc (Nat.le_refl _) _).alloc (by simp) _)).alloc (by simp; omega) _
  have hz2 : ((w.alloc (.cells #[.int .i64 tx.kind, .string tx.name, .int .i64 tx.n, .slice ax tx.args.length cx] 24)).alloc (.cells #[.int .i64 ty.kind, .string ty.name, .int .i64 ty.n, .slice ay ty.args.length cy] 24)).heap.size = w.heap.size + 2 := by simp
  have hT : Tms (((w.alloc (.cells #[.int .i64 tx.kind, .string tx.name, .int .i64 tx.n, .slice ax tx.args.length cx] 24)).alloc (.cells #[.int .i64 ty.kind, .string ty.name, .int .i64 ty.n, .slice ay ty.args.length cy] 24)).alloc (.cells #[.int .i64 tx.kind, .string tx.name, .int .i64 tx.n, .slice ax tx.args.length cx] 24)) (.slice (some ⟨w.heap.size + 2, 0, none⟩) 1 1) [tx] := by
    obtain ⟨c0, c1, c2, c3, _, _, _, _⟩ := box_next ((w.alloc (.cells #[.int .i64 tx.kind, .string tx.name, .int .i64 tx.n, .slice ax tx.args.length cx] 24)).alloc (.cells #[.int .i64 ty.kind, .string ty.name, .int .i64 ty.n, .slice ay ty.args.length cy] 24)) (w.heap.size + 2) hz2.symm (.int .i64 tx.kind) (.string tx.name) (.int .i64 tx.n) (.slice ax tx.args.length cx) 24
    refine ⟨_, 1, rfl, by simp, .inr ⟨w.heap.size + 2, 0, rfl, by simp, ?_⟩⟩
    rw [RowAt, RowAt]
    exact ⟨tv_tmAt (v := ⟨tx, ax, cx⟩) (HX.out.below hbb) ⟨c0, c1, c2, c3⟩, trivial⟩
  have HC := Lib.hid (C.out _ _ hT hbb)
  clear C hx hy hp hq hT hz2
  go_enter Tryd.func29, Tryd.ntmps29
  go_wp2_with fail
  refine HC.out.mono ?_; rintro e w1 ⟨rfl, hb1⟩
  go_wp2_with fail
  go_ret
  exact ⟨ret_bool hR.out, below_next hbb hb1⟩

set_option maxHeartbeats 1000000 in
theorem pproper_tm (x y : Tv) (w : World) (hx : x.ok w) (hy : y.ok w) (hp : x.t.parts ≤ 100000) (hq : y.t.parts ≤ 100000) :
    Calls Tryd.prog 31 #[x.val, y.val] w fun e w' => e = .returned (.bool (inT (allL x.t.args) y.t)) ∧ Below w.heap.size w w' := by
  have hR := Lib.hid (amongT_all x.t.args y.t)
  have C := Lib.hid (fun w' (h : Below w.heap.size w w') => among_tm (.slice x.a x.t.args.length x.c) x.t.args y w w' h ⟨_, _, rfl, hx.2⟩ hy (fun t ht => by
    obtain ⟨j, hj, rfl⟩ := List.mem_iff_getElem.1 ht
    have := parts_arg x.t hj; omega) hq)
  obtain ⟨tx, ax, cx⟩ := x
  obtain ⟨ty, ay, cy⟩ := y
  simp only [Tv.val] at *
  have hbb : Below w.heap.size w ((w.alloc (.cells #[.int .i64 tx.kind, .string tx.name, .int .i64 tx.n, .slice ax tx.args.length cx] 24)).alloc (.cells #[.int .i64 ty.kind, .string ty.name, .int .i64 ty.n, .slice ay ty.args.length cy] 24)) := (((Below.refl _ _).alloc (Nat.le_refl _) _).alloc (by simp) _)
  have HC := Lib.hid (C.out _ hbb)
  clear C hx hy hp hq
  go_enter Tryd.func31, Tryd.ntmps31
  go_wp2_with fail
  refine HC.out.mono ?_; rintro e w1 ⟨rfl, hb1⟩
  go_wp2_with fail
  go_ret
  exact ⟨ret_bool hR.out, below_next hbb hb1⟩
end Go.Proofs.YtpdbnhhpibpbnaaDoor
