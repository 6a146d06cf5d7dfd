/-
  Whether a term is of some functions, by package sign: Fits, for any functions in a row and any term: the first part that is not of them.
-/
import Derived.Test.YtehpkhcjejlbpaaS06
import Derived.Test.YtehpkhcjejlbpaaS09
import Derived.Test.YtehpkhcjejlbpaaS05
import Derived.Test.YtehpkhcjejlbpaaS10
namespace Go.Proofs.Ytehpkhcjejlbpaa
open Go.RowKit Go.Shelf
attribute [local go_sem] Oper.semAt_some

/-- The function that a term begins with. -/
def headF (t : Tm) : Fn := (t.name, (t.args.length : Int))
/-- A function that is not among these. -/
noncomputable def badF (fs : List Fn) (x : Tm) : Bool := (x.kind == 5) && !hasFn fs (headF x)
/-- What Fits answers at the first that is not of them. -/
def FitsBad (fs : List Fn) (t : Tm) (pre : List Tm) (code : Int) (p : List Int) : Prop :=
  ∃ (q : List Tm) (z : Tm), pre = q ++ [z] ∧ (∀ y ∈ q, badF fs y = false) ∧ badF fs z = true ∧ code = (if (arF fs z.name).isSome = true then 5 else 4) ∧ p = (findT t z).getD []
def FitsG (fs : List Fn) (t : Tm) (w : World) (e : Ending) (w' : World) : Prop := ∃ (code : Int) (v : Value) (p : List Int), e = .returned (.tuple #[.int .i64 code, v]) ∧ Nums w' v p ∧ Below w.heap.size w w' ∧
  ((code = 0 ∧ p = [] ∧ ∀ y ∈ t.all, badF fs y = false) ∨ ∃ pre, pre <+: t.all ∧ FitsBad fs t pre code p)
theorem head_key {w : World} (z : Tv) (hz : z.ok w) : FnKey (headF z.t) := by
  obtain ⟨hf, hl, _⟩ := hz
  exact ⟨⟨hf.len, by show _ ≤ (z.t.args.length : Int); omega, by show (z.t.args.length : Int) ≤ _; omega⟩, by have := hf.len; unfold maxLen; exact this⟩
/-- A row of numbers stands while blocks that hold no cells are written. -/
theorem at0_own {β : Type} {B : Nat} (v : Value) (p : List Int) : OwnFrom B (fun (_ : β) W => At0 W v p) := fun _ X Y row hs hg hr => At0.block hs fun g c hgc => by
  rw [hg.block g (Array.getElem?_eq_some_iff.1 hgc).1 (fun e => by
    obtain ⟨_, o, ho, hoc⟩ := hr g e.symm
    rw [hgc] at ho; cases ho; cases hoc)]
  exact hgc
theorem at0_set {W : World} {v : Value} {p : List Int} (h : At0 W v p) {B : Nat} {t : TypeId} {x : Value} (hb : Boxed W B t x) (ht : t ≠ 3) (u : Value) : At0 (W.setCell ⟨B, 0, none⟩ u) v p := At0.block h fun g c hgc => by
  have h1 : W.heap[B]? = some (Obj.cells #[x] t (0, 0)) := hb
  rw [Below.heap_setCell _ _ _ _ (fun e => by subst e; rw [hgc] at h1; simp only [Option.some.injEq, Obj.cells.injEq] at h1; exact ht h1.2.1.symm)]
  exact hgc
theorem boxed_other {W : World} {B C : Nat} {t : TypeId} {v : Value} (h : Boxed W B t v) (hne : B ≠ C) (u : Value) : Boxed (W.setCell ⟨C, 0, none⟩ u) B t v := by
  have h1 : W.heap[B]? = some (Obj.cells #[v] t (0, 0)) := h
  show (W.setCell ⟨C, 0, none⟩ u).heap[B]? = _
  rw [Below.heap_setCell _ _ _ _ hne]; exact h1

set_option maxRecDepth 100000 in
set_option maxHeartbeats 8000000 in
theorem pfits_any (v : Value) (fs : List Fn) (x : Tv) (w : World) (hv : Fus w v fs) (hk : ∀ f ∈ fs, FnKey f) (hl : fs.length ≤ 100000) (hx : x.ok w) (hp : x.t.parts ≤ 100000) :
    Calls Try.prog 18 #[v, x.val] w (FitsG fs x.t w) := by
  have hS := fun w1 Bt h1 h2 h3 => all_stopsM Fence.wide rfl (5 - 1) trivial trivial rfl w (fun t => t.parts ≤ 100000) (fun t j h k => by have := parts_arg t h; omega) Bt ⟨x, hx, hp⟩ w1 h1 h2 h3
  have hA := fun w1 => all_in Fence.wide (5 - 1) trivial rfl x w1
  have SO := Lib.hid (fun (W : World) (h : Below w.heap.size w W) => (callsIn_wide.2 (psetOf_any v fs W (hv.below h) hk hl) : CallsIn Fence.wide 4 _ _ _ _ _))
  have AR := Lib.hid (fun (l : Nat) (s : ByteArray) (W : World) (h : Below w.heap.size w W) => (CallsIn.inRound l (callsIn_wide.2 (parity_any v fs s W (hv.below h))) : CallsIn _ 2 _ _ _ _ _))
  have FD := Lib.hid (fun (l : Nat) (z : Tv) (W : World) (h : Below w.heap.size w W) (hz : z.ok W) (hzp : z.t.parts ≤ 100000) => (CallsIn.inRound l (callsIn_wide.2 (pfind_at x z W (hx.below h) hz hp hzp)) : CallsIn _ 2 _ _ _ _ _))
  have HK := Lib.hid hk
  obtain ⟨va, vn, vc, rfl⟩ : ∃ a n c, v = .slice a n c := by obtain ⟨a, c, h, _⟩ := hv; exact ⟨a, _, c, h⟩
  clear hv hk
  obtain ⟨t, a, c⟩ := x
  simp only [Tv.val] at hS hA hp FD ⊢
  refine callsIn_wide.1 (callsIn_of_wp_marks (n := 5) Try.func18 rfl trivial ?_ rfl)
  simp only [Try.ntmps18, List.size_toArray, List.length_cons, List.length_nil, Nat.reduceAdd, Nat.reduceSub, Array.replicate_succ, Array.replicate_zero, List.push_toArray, List.append_toArray, List.nil_append, List.cons_append]
  have hz1 : (w.alloc (.cells #[.slice va vn vc] 22)).heap.size = w.heap.size + 1 := by simp
  have hz2 : ((w.alloc (.cells #[.slice va vn vc] 22)).alloc (.cells #[.int .i64 t.kind, .string t.name, .int .i64 t.n, .slice a t.args.length c] 40)).heap.size = w.heap.size + 2 := by simp
  have hz3 : (((w.alloc (.cells #[.slice va vn vc] 22)).alloc (.cells #[.int .i64 t.kind, .string t.name, .int .i64 t.n, .slice a t.args.length c] 40)).alloc (.cells #[.int .i64 0] 29)).heap.size = w.heap.size + 3 := by simp
  have hz4 : ((((w.alloc (.cells #[.slice va vn vc] 22)).alloc (.cells #[.int .i64 t.kind, .string t.name, .int .i64 t.n, .slice a t.args.length c] 40)).alloc (.cells #[.int .i64 0] 29)).alloc (.cells #[.slice none 0 0] 42)).heap.size = w.heap.size + 4 := by simp
  have hB0 : Below w.heap.size w ((((w.alloc (.cells #[.slice va vn vc] 22)).alloc (.cells #[.int .i64 t.kind, .string t.name, .int .i64 t.n, .slice a t.args.length c] 40)).alloc (.cells #[.int .i64 0] 29)).alloc (.cells #[.slice none 0 0] 42)) := ((((Below.refl _ w).alloc (Nat.le_refl _) _).alloc (by rw [hz1]; omega) _).alloc (by rw [hz2]; omega) _).alloc (by rw [hz3]; omega) _
  have bF := (((Boxed.new w 22 (.slice va vn vc)).alloc (.cells #[.int .i64 t.kind, .string t.name, .int .i64 t.n, .slice a t.args.length c] 40)).alloc (.cells #[.int .i64 0] 29)).alloc (.cells #[.slice none 0 0] 42)
  have bX := ((box_new (w.alloc (.cells #[.slice va vn vc] 22)) (.int .i64 t.kind) (.string t.name) (.int .i64 t.n) (.slice a t.args.length c) 40).below ((Below.refl _ _).alloc (Nat.le_refl _) (.cells #[.int .i64 0] 29)) (by rw [hz1, hz2]; omega)).below ((Below.refl _ _).alloc (Nat.le_refl _) (.cells #[.slice none 0 0] 42)) (by rw [hz1, hz3]; omega)
  have bE := (Boxed.new ((w.alloc (.cells #[.slice va vn vc] 22)).alloc (.cells #[.int .i64 t.kind, .string t.name, .int .i64 t.n, .slice a t.args.length c] 40)) 29 (.int .i64 0)).alloc (.cells #[.slice none 0 0] 42)
  have bP := Boxed.new (((w.alloc (.cells #[.slice va vn vc] 22)).alloc (.cells #[.int .i64 t.kind, .string t.name, .int .i64 t.n, .slice a t.args.length c] 40)).alloc (.cells #[.int .i64 0] 29)) 42 (.slice none 0 0)
  rw [hz1] at bX
  rw [hz2] at bE
  rw [hz3] at bP
  gi_wp2_with fail
  refine ⟨trivial, (SO.out _ ?_).mono ?_⟩
  · exact hB0
  rintro e w1 ⟨bm, rfl, hm1, hb1⟩
  replace hB0 := below_next hB0 hb1
  replace bF := boxed_below bF hb1
  replace bX := bX.below hb1 (by rw [hz4]; omega)
  replace bE := boxed_below bE hb1
  replace bP := boxed_below bP hb1
  have hs1 := hb1.size
  rw [hz4] at hs1
  clear hz1 hz2 hz3 hz4 hb1 SO
  have bM := Boxed.new w1 53 (.map (some bm))
  have hL1 : Below w1.heap.size w1 (w1.alloc (.cells #[.map (some bm)] 53)) := (Below.refl _ _).alloc (Nat.le_refl _) _
  have hz5 : (w1.alloc (.cells #[.map (some bm)] 53)).heap.size = w1.heap.size + 1 := by simp
  replace hm1 := (hm1.alloc (.cells #[.map (some bm)] 53)).alloc (.cells #[.int .i64 t.kind, .string t.name, .int .i64 t.n, .slice a t.args.length c] 40)
  replace hB0 := below_next hB0 hL1
  replace bF := boxed_below bF hL1
  replace bX := bX.below hL1 (by omega)
  replace bE := boxed_below bE hL1
  replace bP := boxed_below bP hL1
  obtain ⟨x0, x1, x2, x3, y0, y1, y2, y3⟩ := id bX
  clear hL1
  gi_wp2_with fail
  refine ⟨trivial, (hA _).mono ?_⟩; rintro e w2 ⟨rfl, rfl⟩
  clear x0 x1 x2 x3 y0 y1 y2 y3 hA
  have bA := box_new (w1.alloc (.cells #[.map (some bm)] 53)) (.int .i64 t.kind) (.string t.name) (.int .i64 t.n) (.slice a t.args.length c) 40
  have hL1 : Below (w1.alloc (.cells #[.map (some bm)] 53)).heap.size (w1.alloc (.cells #[.map (some bm)] 53)) ((w1.alloc (.cells #[.map (some bm)] 53)).alloc (.cells #[.int .i64 t.kind, .string t.name, .int .i64 t.n, .slice a t.args.length c] 40)) := (Below.refl _ _).alloc (Nat.le_refl _) _
  have hz6 : ((w1.alloc (.cells #[.map (some bm)] 53)).alloc (.cells #[.int .i64 t.kind, .string t.name, .int .i64 t.n, .slice a t.args.length c] 40)).heap.size = w1.heap.size + 2 := by simp
  replace hB0 := below_next hB0 hL1
  replace bF := boxed_below bF hL1
  replace bX := bX.below hL1 (by rw [hz5]; omega)
  replace bE := boxed_below bE hL1
  replace bP := boxed_below bP hL1
  replace bM := boxed_below bM hL1
  rw [hz5] at bA
  simp only [hz5]
  clear hL1 hz5
  obtain ⟨w2, hw2⟩ : ∃ w2, ((w1.alloc (.cells #[.map (some bm)] 53)).alloc (.cells #[.int .i64 t.kind, .string t.name, .int .i64 t.n, .slice a t.args.length c] 40)) = w2 := ⟨_, rfl⟩
  have hbm := hm1.lt
  rw [hw2] at bM hm1 hB0 bF bX bE bP hz6 hbm bA ⊢
  clear hw2
  obtain ⟨M, hM⟩ : ∃ M, w1.heap.size = M := ⟨_, rfl⟩
  rw [hM] at hs1 hz6 bM bA ⊢
  clear hM w1
  gi_wp2_with fail
  gi_wp2_with fail
  refine wpIn_rangeFunc_ownH rfl (by omega) (gf := 47) (lb := #[.pointer (some ⟨M + 1, 0, none⟩)]) rfl trivial (enters_of Try.func47 (by kernel_rfl) rfl)
    (hS w2 (M + 1) (by omega) bA hB0) keepsT_t (keepsT_b (by omega)) (Below.refl _ _) (fun _ => rfl)
    (fun (pre : List (TvM w (fun t => t.parts ≤ 100000))) W => (((Boxed W w.heap.size 22 (.slice va vn vc) ∧ Boxed W (w.heap.size + 2) 29 (.int .i64 0)) ∧ (Boxed W (w.heap.size + 3) 42 (.slice none 0 0) ∧ Boxed W M 53 (.map (some bm)))) ∧ (Box W (w.heap.size + 1) (.int .i64 t.kind) (.string t.name) (.int .i64 t.n) (.slice a t.args.length c) ∧ (∀ z ∈ tmsM pre, badF fs z = false))) ∧
      (W.ownsMap Try.prog 24 (unitElem (H := Unit)) bm fs.length (fnSet fs) ∧ Below w.heap.size w W))
    (fun cc (pre : List (TvM w (fun t => t.parts ≤ 100000))) W => ∃ (code : Int) (vp : Value) (p : List Int), (Boxed W (w.heap.size + 2) 29 (.int .i64 code) ∧ Boxed W (w.heap.size + 3) 42 vp) ∧ (At0 W vp p ∧ ((cc = .ret ∧ FitsBad fs t (tmsM pre) code p) ∧ Below w.heap.size w W)))
    (OwnFrom.and (OwnFrom.and (OwnFrom.and (OwnFrom.and (Own.from (boxed_own _ _ (fun _ : List (TvM w (fun t => t.parts ≤ 100000)) => .slice va vn vc)) _) (Own.from (boxed_own _ _ (fun _ : List (TvM w (fun t => t.parts ≤ 100000)) => .int .i64 0)) _)) (OwnFrom.and (Own.from (boxed_own _ _ (fun _ : List (TvM w (fun t => t.parts ≤ 100000)) => .slice none 0 0)) _) (Own.from (boxed_own _ _ (fun _ : List (TvM w (fun t => t.parts ≤ 100000)) => .map (some bm))) _))) (OwnFrom.and (Own.from (box_own _ _ _ _ _) _) (ownFrom_pure _ _)))
      (OwnFrom.and (fun s X Y row hs hg hr => World.ownsMap.kept hs hg (fun e => by have := (hr _ e.symm).1; omega)) (ownFrom_below (Nat.le_refl _) (by omega))))
    (fun cc pre X Y row hs hg hr => by
      obtain ⟨code, vp, p, ⟨h1, h2⟩, h3, h4, h5⟩ := hs
      exact ⟨code, vp, p, ⟨Own.from (boxed_own _ _ (fun _ : Unit => .int .i64 code)) _ () X Y row h1 hg hr, Own.from (boxed_own _ _ (fun _ : Unit => vp)) _ () X Y row h2 hg hr⟩, at0_own vp p () X Y row h3 hg hr, h4, ownFrom_below (β := Unit) (Nat.le_refl _) (by omega) () X Y row h5 hg hr⟩)
    ⟨⟨⟨⟨bF, bE⟩, bP, bM⟩, bX, fun z hz => by cases hz⟩, hm1, hB0⟩
    (fun z a' Wv => ∃ Bx, M < Bx ∧ Box Wv Bx (.int .i64 z.1.t.kind) (.string z.1.t.name) (.int .i64 z.1.t.n) (.slice z.1.a z.1.t.args.length z.1.c) ∧ a' = { tmps := #[.slice va vn vc, .agg #[.int .i64 t.kind, .string t.name, .int .i64 t.n, .slice a t.args.length c], .pointer (some ⟨w.heap.size, 0, none⟩), .pointer (some ⟨w.heap.size + 1, 0, none⟩), .pointer (some ⟨w.heap.size + 2, 0, none⟩), .pointer (some ⟨w.heap.size + 3, 0, none⟩), .pointer (some ⟨M, 0, none⟩), .pointer (some ⟨Bx, 0, none⟩), undef, undef, undef, undef, .slice va vn vc, .map (some bm), .agg #[.int .i64 t.kind, .string t.name, .int .i64 t.n, .slice a t.args.length c], .func (.func 47) #[] #[.pointer (some ⟨M + 1, 0, none⟩)], .agg #[.int .i64 z.1.t.kind, .string z.1.t.name, .int .i64 z.1.t.n, .slice z.1.a z.1.t.args.length z.1.c], undef, undef, undef, undef, undef, undef, undef, undef, undef, undef, undef, undef, undef, undef, undef, undef, undef, undef, undef, undef, undef, undef, undef, undef, undef], defers := [] })
    (fun z a' _ X Y row hs hg hr => by obtain ⟨Bx, h1, h2, h3⟩ := hs; exact ⟨Bx, h1, box_own Bx _ _ _ _ () X Y row h2 hg (fun r e => (hr r e).2), h3⟩)
    ?assign ?body ?done ?stop
  case assign =>
    rintro l pre z W K ⟨⟨⟨⟨bF1, bE1⟩, bP1, bM1⟩, bX1, hg⟩, hm2, hB1⟩ hK
    gi_wp2_with fail
    refine hK _ _ ((KeepsOthers.alloc _ _).from _) ((KeepsT.refl _ W).alloc hB1.size _) ⟨⟨⟨⟨bF1.alloc _, bE1.alloc _⟩, bP1.alloc _, bM1.alloc _⟩, bX1.below ((Below.refl _ _).alloc (Nat.le_refl _) _) (box_lt bX1), hg⟩, hm2.alloc _, hB1.alloc hB1.size _⟩ ⟨W.heap.size, bM1.lt, box_new W _ _ _ _ _, ?_⟩
    rfl
  case body =>
    rintro l pre z a' W hl0 _ ⟨⟨⟨⟨bF1, bE1⟩, bP1, bM1⟩, bX1, hg⟩, hm2, hB1⟩ ⟨Bx, hBx, bZ, rfl⟩ hlt
    have hfk := head_key z.1 z.2.1
    have hzok := z.2.1.below hB1
    have hB1s := hB1.size
    have HG := Lib.hid hg
    have QZ := Lib.hid (fun p : After W => bZ.below p.below (box_lt bZ))
    have qM := fun p : After W => (boxed_below bM1 p.below).cell
    have q0 := fun p : After W => (QZ.out p).c0
    have q1 := fun p : After W => (QZ.out p).c1
    have q2 := fun p : After W => (QZ.out p).c2
    have q3 := fun p : After W => (QZ.out p).c3
    have SY := Lib.hid (fun p : After W => psymbol_any z.1 p.w (hzok.below p.below))
    have HS := Lib.hid (fun p : After W => phas_fn bm fs.length fs (headF z.1.t) p.w (hm2.kept (grown_of_below p.below) (by simp)) HK.out hfk)
    unfold fnVal Tv.val at SY
    unfold fnVal headF at HS
    simp only at SY HS
    clear hg hfk
    cases hk5 : (z.1.t.kind == 5) with
    | false =>
      have hk2 : (z.1.t.kind != 5) = true := by simpa using hk5
      have HBAD := Lib.hid (show badF fs z.1.t = false by unfold badF; rw [hk5]; rfl)
      clear hk5
      gi_wp2_with fail
      refine region_round_after (wb := W) l _ (by kernel_rfl) (fun ⟨_, _, h⟩ => h) (Below.refl _ W) (by kernel_rfl) (by kernel_rfl) ?_
      repeat (quiet_step (fail))
      refine wpQuiet_nil ?_
      intro _ hw'
      obtain ⟨⟨wq, hbq⟩, hw''⟩ := hw'
      subst hw''
      clear q0 q1 q2 q3 qM
      gi_wp2_with fail
      exact ⟨keepsFrom_of hbq, keepsT_of hbq (by omega), ⟨⟨⟨boxed_below bF1 hbq, boxed_below bE1 hbq⟩, boxed_below bP1 hbq, boxed_below bM1 hbq⟩, bX1.below hbq (box_lt bX1), tmsM_snoc HG.out HBAD.out⟩, hm2.kept (grown_of_below hbq) (by simp), below_next hB1 hbq⟩
    | true =>
      have hk2 : (z.1.t.kind != 5) = false := by simpa using hk5
      cases hh : hasFn fs (headF z.1.t) with
      | true =>
        have HBAD := Lib.hid (show badF fs z.1.t = false by unfold badF; rw [hk5, hh]; rfl)
        unfold headF at hh
        rw [hh] at HS
        clear hk5 hh
        gi_wp2_with fail
        refine region_round_after (wb := W) l _ (by kernel_rfl) (fun ⟨_, _, h⟩ => h) (Below.refl _ W) (by kernel_rfl) (by kernel_rfl) ?_
        repeat (quiet_step ((first | (go_at_call 30; exact after_call (SY.out _)) | (go_at_call 26; exact after_call (HS.out _)))))
        refine wpQuiet_nil ?_
        intro _ hw'
        obtain ⟨⟨wq, hbq⟩, hw''⟩ := hw'
        subst hw''
        clear q0 q1 q2 q3 qM
        gi_wp2_with fail
        exact ⟨keepsFrom_of hbq, keepsT_of hbq (by omega), ⟨⟨⟨boxed_below bF1 hbq, boxed_below bE1 hbq⟩, boxed_below bP1 hbq, boxed_below bM1 hbq⟩, bX1.below hbq (box_lt bX1), tmsM_snoc HG.out HBAD.out⟩, hm2.kept (grown_of_below hbq) (by simp), below_next hB1 hbq⟩
      | false =>
        have HBAD := Lib.hid (show badF fs z.1.t = true by unfold badF; rw [hk5, hh]; rfl)
        unfold headF at hh
        rw [hh] at HS
        clear hk5 hh
        have FDZ := Lib.hid (fun (V : World) (h : Below W.heap.size W V) => FD.out l z.1 V (below_next hB1 h) (hzok.below h) z.2.2)
        have ARZ := Lib.hid (fun (V : World) (h : Below W.heap.size W V) => AR.out l z.1.t.name V (below_next hB1 h))
        gi_wp2_with fail
        refine region_round_after (wb := W) l _ (by kernel_rfl) (fun ⟨_, _, h⟩ => h) (Below.refl _ W) (by kernel_rfl) (by kernel_rfl) ?_
        repeat (quiet_step ((first | (go_at_call 30; exact after_call (SY.out _)) | (go_at_call 26; exact after_call (HS.out _)))))
        refine wpQuiet_nil ?_
        intro _ hw'
        obtain ⟨⟨wq, hbq⟩, hw''⟩ := hw'
        subst hw''
        clear q0 q1 q2 q3 qM
        obtain ⟨p0, p1, p2, p3, _, _, _, _⟩ := bZ.below hbq (box_lt bZ)
        obtain ⟨r0, r1, r2, r3, _, _, _, _⟩ := bX1.below hbq (box_lt bX1)
        gi_wp2_with fail
        refine ⟨trivial, (FDZ.out _ hbq).mono ?_⟩; rintro e w3 ⟨vp, rfl, hnp, hb3⟩
        obtain ⟨av, nv, cv, rfl⟩ : ∃ a n c, vp = .slice a n c := by obtain ⟨a, c, h, _⟩ := hnp.nums; exact ⟨a, _, c, h⟩
        have hbw3 := below_next hbq hb3
        have HNP := Lib.hid hnp
        have HB3 := Lib.hid hbw3
        have cF3 := (boxed_below bF1 hbw3).cell
        obtain ⟨p0, p1, p2, p3, _, _, _, _⟩ := bZ.below hbw3 (box_lt bZ)
        clear hnp hb3
        gi_wp2_with fail
        refine ⟨trivial, (ARZ.out _ hbw3).mono ?_⟩; rintro e w4 ⟨rfl, hb4⟩
        have hbw4 := below_next hbw3 hb4
        have HB4 := Lib.hid hbw4
        have HNP4 := Lib.hid (HNP.out.below hb4)
        have bE4 := boxed_below bE1 hbw4
        have bP4 := boxed_below bP1 hbw4
        have cE4 := bE4.cell
        have fE4 := bE4.frozen
        have cP4 := bP4.cell
        have fP4 := bP4.frozen
        clear hb4 hbw3
        cases har : arF fs z.1.t.name with
        | none =>
          have HC := Lib.hid (show FitsBad fs t (tmsM (pre ++ [z])) 4 ((findT t z.1.t).getD []) from ⟨tmsM pre, z.1.t, by rw [tmsM_append]; rfl, HG.out, HBAD.out, by rw [har]; rfl, rfl⟩)
          unfold arEnd
          clear har
          gi_wp2_with fail
          have bE5 := boxed_other (bE4.set (.int .i64 4)) (C := w.heap.size + 3) (by omega) (.slice av nv cv)
          have bP5 := (boxed_other bP4 (C := w.heap.size + 2) (by omega) (.int .i64 4)).set (.slice av nv cv)
          have hA5 := at0_set (at0_set HNP4.out bE4 (by decide) (.int .i64 4)) (boxed_other bP4 (C := w.heap.size + 2) (by omega) (.int .i64 4)) (by decide) (.slice av nv cv)
          exact ⟨(keepsFrom_of HB4.out).trans (((KeepsOthers.setCell _ _ _).trans (KeepsOthers.setCell _ _ _)).from _), 4, .slice av nv cv, _, ⟨bE5, bP5⟩, hA5, ⟨rfl, HC.out⟩, ((below_next hB1 HB4.out).setCell (p := ⟨w.heap.size + 2, 0, none⟩) (by simp) _).setCell (p := ⟨w.heap.size + 3, 0, none⟩) (by simp) _⟩
        | some n =>
          have HC := Lib.hid (show FitsBad fs t (tmsM (pre ++ [z])) 5 ((findT t z.1.t).getD []) from ⟨tmsM pre, z.1.t, by rw [tmsM_append]; rfl, HG.out, HBAD.out, by rw [har]; rfl, rfl⟩)
          unfold arEnd
          clear har
          gi_wp2_with fail
          have bE5 := boxed_other (bE4.set (.int .i64 5)) (C := w.heap.size + 3) (by omega) (.slice av nv cv)
          have bP5 := (boxed_other bP4 (C := w.heap.size + 2) (by omega) (.int .i64 5)).set (.slice av nv cv)
          have hA5 := at0_set (at0_set HNP4.out bE4 (by decide) (.int .i64 5)) (boxed_other bP4 (C := w.heap.size + 2) (by omega) (.int .i64 5)) (by decide) (.slice av nv cv)
          exact ⟨(keepsFrom_of HB4.out).trans (((KeepsOthers.setCell _ _ _).trans (KeepsOthers.setCell _ _ _)).from _), 5, .slice av nv cv, _, ⟨bE5, bP5⟩, hA5, ⟨rfl, HC.out⟩, ((below_next hB1 HB4.out).setCell (p := ⟨w.heap.size + 2, 0, none⟩) (by simp) _).setCell (p := ⟨w.heap.size + 3, 0, none⟩) (by simp) _⟩
  case done =>
    rintro D ys W' hD hys ⟨⟨⟨⟨bF1, bE1⟩, bP1, bM1⟩, bX1, hg⟩, hm2, hB1⟩ hK
    rw [hys] at hg
    have HG := Lib.hid hg
    have cE := bE1.cell
    have fE := bE1.frozen
    have cP := bP1.cell
    have fP := bP1.frozen
    clear hys hg
    gi_wp2_with fail
    have bE5 := boxed_other (bE1.set (.int .i64 0)) (C := w.heap.size + 3) (by omega) (.slice none 0 0)
    have bP5 := (boxed_other bP1 (C := w.heap.size + 2) (by omega) (.int .i64 0)).set (.slice none 0 0)
    have hB5 := (hB1.setCell (p := ⟨w.heap.size + 2, 0, none⟩) (by simp) (.int .i64 0)).setCell (p := ⟨w.heap.size + 3, 0, none⟩) (by simp) (.slice none 0 0)
    refine leaves_marks w.heap.size [D] _ (by simp) (fun E hE => ?_) ?_
    · obtain rfl := List.mem_singleton.1 hE
      exact ⟨by omega, mark_set (mark_set hK bE1) (boxed_other bP1 (C := w.heap.size + 2) (by omega) (.int .i64 0))⟩
    · intro W9 hb9 hk9
      have hcE : W9.cell? ⟨w.heap.size + 2, 0, none⟩ = some (.int .i64 0) := Boxed.cell (hk9 _ _ bE5 rfl)
      have hcP : W9.cell? ⟨w.heap.size + 3, 0, none⟩ = some (.slice none 0 0) := Boxed.cell (hk9 _ _ bP5 rfl)
      exact ⟨.tuple #[.int .i64 0, .slice none 0 0], by simp [results, Try.f18, go_sem, hcE, hcP], 0, _, [], rfl, (At0.nil W9).nums, hB5.trans hb9, .inl ⟨rfl, rfl, HG.out⟩⟩
  case stop =>
    rintro D cc pre W' hD hpre ⟨code, vp, p, ⟨bE1, bP1⟩, hA1, ⟨rfl, hbad⟩, hB1⟩ hK
    have HB := Lib.hid hbad
    have HPR := Lib.hid hpre
    clear hbad hpre
    gi_wp2_with fail
    refine leaves_marks w.heap.size [D] _ (by simp) (fun E hE => ?_) ?_
    · obtain rfl := List.mem_singleton.1 hE
      exact ⟨by omega, hK⟩
    · intro W9 hb9 hk9
      have hcE : W9.cell? ⟨w.heap.size + 2, 0, none⟩ = some (.int .i64 code) := Boxed.cell (hk9 _ _ bE1 rfl)
      have hcP : W9.cell? ⟨w.heap.size + 3, 0, none⟩ = some vp := Boxed.cell (hk9 _ _ bP1 rfl)
      have hA9 : At0 W9 vp p := At0.block hA1 fun g c hgc => hk9 _ _ hgc rfl
      exact ⟨.tuple #[.int .i64 code, vp], by simp [results, Try.f18, go_sem, hcE, hcP], code, vp, p, rfl, hA9.nums, hB1.trans hb9, .inr ⟨_, HPR.out, HB.out⟩⟩
end Go.Proofs.Ytehpkhcjejlbpaa
