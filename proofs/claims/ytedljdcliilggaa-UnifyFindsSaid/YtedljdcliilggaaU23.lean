/-
  Whether patterns become their terms, by the program: the method fit of what is known.
  A memory that stays: what is written later lies in blocks that it doesn't see. Steps of a call, from one such memory to the next. No function of the program.
-/
import Derived.Test.YtedljdcliilggaaU22
import Derived.ScopeJumps
import Derived.WalkMore
import Derived.Test.YtedljdcliilggaaU02
import Derived.Test.YtedljdcliilggaaU05
namespace Go.Proofs.Ytedljdcliilggaa
open Go.RowKit Go.Maps

theorem list_all {L : List Value} {n : Nat} (h : L.length = n) : L = (List.range n).map fun i => L.getD i undef := by
  apply List.ext_getElem
  · rw [List.length_map, List.length_range, h]
  · intro i h1 h2
    rw [List.getElem_map, List.getElem_range, List.getD_eq_getElem?_getD, List.getElem?_eq_getElem h1]; rfl
theorem list_76 {L : List Value} (h : L.length = 76) : ∃ u : Nat → Value, L = (u 0 :: u 1 :: u 2 :: u 3 :: u 4 :: u 5 :: u 6 :: u 7 :: u 8 :: u 9 :: u 10 :: u 11 :: u 12 :: u 13 :: u 14 :: u 15 :: u 16 :: u 17 :: u 18 :: u 19 :: u 20 :: u 21 :: u 22 :: u 23 :: u 24 :: u 25 :: u 26 :: u 27 :: u 28 :: u 29 :: u 30 :: u 31 :: u 32 :: u 33 :: u 34 :: u 35 :: u 36 :: u 37 :: u 38 :: u 39 :: u 40 :: u 41 :: u 42 :: u 43 :: u 44 :: u 45 :: u 46 :: u 47 :: u 48 :: u 49 :: u 50 :: u 51 :: u 52 :: u 53 :: u 54 :: u 55 :: u 56 :: u 57 :: u 58 :: u 59 :: u 60 :: u 61 :: u 62 :: u 63 :: u 64 :: u 65 :: u 66 :: u 67 :: u 68 :: u 69 :: u 70 :: u 71 :: u 72 :: u 73 :: u 74 :: u 75 :: []) := ⟨fun i => L.getD i undef, (list_all h).trans (by rfl)⟩
theorem nat_least (p : Nat → Prop) (h : ∃ n, p n) : ∃ n, p n ∧ ∀ m, p m → n ≤ m := by
  obtain ⟨n, hn⟩ := h
  induction n using Nat.strongRecOn with
  | _ n ih =>
    by_cases hm : ∃ m, m < n ∧ p m
    · obtain ⟨m, h1, h2⟩ := hm; exact ih m h1 h2
    · exact ⟨n, hn, fun m h => Nat.le_of_not_lt fun hl => hm ⟨m, hl, h⟩⟩
open Classical in
/-- A number that what holds at a label holds with. -/
noncomputable def leastJ (J : Nat → Act → World → Prop) (a : Act) (w : World) : Nat := if h : ∃ n, J n a w then Classical.choose (nat_least _ h) else 0
/-- A scope in which the run jumps back to one label, each time with a lower number. -/
theorem wp_scope_falls {P : Program} {a : Act} {w : World} {Q : Exit → Act → World → Prop} {c rest : Code} (l : Nat) (J : Nat → Act → World → Prop) (hf : findLabel c l = some (Code.skip.seq rest))
    (pass : ∀ n a w, J n a w → rest.wp P (Exit.jump l (fun a' w' => ∃ m, m < n ∧ J m a' w') Q) a w)
    (first : (∀ n a w, J n a w → rest.wp P (Exit.jump l (fun a' w' => ∃ m, J m a' w') Q) a w) → c.wp P (Exit.jump l (fun a' w' => ∃ m, J m a' w') Q) a w) : (Code.scope c).wp P Q a w := by
  refine wp_scope_jumps l (fun a w => ∃ n, J n a w) (leastJ J) hf (first fun n a w h => Code.wp_mono (fun e a' w' hq => ?_) (pass n a w h)) ?_
  · cases e with
    | goto l' => obtain ⟨h1, m, _, h2⟩ := hq; exact ⟨h1, m, h2⟩
    | _ => exact hq
  · intro a w h
    have hs : J (leastJ J a w) a w := by
      unfold leastJ; rw [dif_pos h]; exact (Classical.choose_spec (nat_least _ h)).1
    refine wp_seq (wp_skip ?_)
    show rest.wp P _ a w
    refine Code.wp_mono (fun e a' w' hq => ?_) (pass _ a w hs)
    cases e with
    | goto l' =>
      obtain ⟨h1, m, h2, h3⟩ := hq
      refine ⟨h1, ⟨m, h3⟩, Nat.lt_of_le_of_lt ?_ h2⟩
      have he : ∃ n, J n a' w' := ⟨m, h3⟩
      unfold leastJ; rw [dif_pos he]; exact (Classical.choose_spec (nat_least _ he)).2 m h3
    | _ => exact hq

theorem snoc_cases (vs : List Rv) : vs = [] ∨ ∃ us r, vs = us ++ [r] := by
  rcases List.eq_nil_or_concat vs with h | ⟨us, r, h⟩
  · exact .inl h
  · exact .inr ⟨us, r, by rw [h, List.concat_eq_append]⟩
theorem leftS_length (vs : List Rv) : vs.length ≤ leftS (pile vs) := by
  have : ∀ st : List Lf, st.length ≤ leftS st := by
    intro st
    induction st with
    | nil => exact Nat.le_refl _
    | cons r st ih => rw [leftS_cons, List.length_cons]; omega
  have h := this (pile vs)
  unfold pile at h ⊢
  rwa [List.length_reverse, List.length_map] at h
theorem world_letter {R : Act → World → Prop} {a : Act} {w : World} (P : World → Prop) (hp : P w) (h : ∀ V, P V → R a V) : R a w := h w hp
/-- Two new boxes of terms. -/
structure TwoAt (W V : World) (g h : Nat) (x y : Tv) : Prop where
  one : Box V g (.int .i64 x.t.kind) (.string x.t.name) (.int .i64 x.t.n) (.slice x.a x.t.args.length x.c)
  two : Box V h (.int .i64 y.t.kind) (.string y.t.name) (.int .i64 y.t.n) (.slice y.a y.t.args.length y.c)
  below : Below W.heap.size W V
  new1 : W.heap.size ≤ g
  new2 : W.heap.size ≤ h
theorem Box.drew {w : World} {g : Nat} {x0 x1 x2 x3 : Value} (h : Box w g x0 x1 x2 x3) : Box w.drew g x0 x1 x2 x3 := ⟨h.c0, h.c1, h.c2, h.c3, h.f0, h.f1, h.f2, h.f3⟩
theorem two_at (W : World) (x y : Tv) : TwoAt W (((W.alloc (.cells #[.int .i64 x.t.kind, .string x.t.name, .int .i64 x.t.n, .slice x.a x.t.args.length x.c] 24)).alloc (.cells #[.int .i64 y.t.kind, .string y.t.name, .int .i64 y.t.n, .slice y.a y.t.args.length y.c] 24)).drew) W.heap.size (W.heap.size + 1) x y where
  one := ((box_new W (.int .i64 x.t.kind) (.string x.t.name) (.int .i64 x.t.n) (.slice x.a x.t.args.length x.c) 24).below ((Below.refl _ _).alloc (Nat.le_refl _) (.cells #[.int .i64 y.t.kind, .string y.t.name, .int .i64 y.t.n, .slice y.a y.t.args.length y.c] 24)) (by simp)).drew
  two := (alloc_two W (.cells #[.int .i64 x.t.kind, .string x.t.name, .int .i64 x.t.n, .slice x.a x.t.args.length x.c] 24) (.int .i64 y.t.kind) (.string y.t.name) (.int .i64 y.t.n) (.slice y.a y.t.args.length y.c) 24).drew
  below := (below_two W _ _).drew
  new1 := Nat.le_refl _
  new2 := Nat.le_succ _
theorem TwoAt.turn {W V : World} {g h : Nat} {x y : Tv} (t : TwoAt W V g h x y) : TwoAt W V h g y x := ⟨t.two, t.one, t.below, t.new2, t.new1⟩
/-- The top of the pile written anew, and two new boxes. -/
structure TopAt (w0 w X : World) (n0 kb bm : Nat) (l : List Bn) (rb cap : Nat) (vs : List Rv) (q : Rv) (g h : Nat) (x y : Tv) : Prop where
  pile : PileAt X rb cap (vs ++ [q])
  known : KnAt w0 X n0 kb bm l
  one : Box X g (.int .i64 x.t.kind) (.string x.t.name) (.int .i64 x.t.n) (.slice x.a x.t.args.length x.c)
  two : Box X h (.int .i64 y.t.kind) (.string y.t.name) (.int .i64 y.t.n) (.slice y.a y.t.args.length y.c)
  below : Below n0 w X
  le : n0 ≤ X.heap.size
theorem top_set {w0 w W V : World} {n0 kb bm : Nat} {l : List Bn} {rb cap g h : Nat} {vs : List Rv} {r q : Rv} {x y : Tv} (hT : TwoAt W V g h x y) (hP : PileAt W rb cap (vs ++ [r])) (hK : KnAt w0 W n0 kb bm l) (hrb : n0 ≤ rb) (hB : Below n0 w W) :
    TopAt w0 w (((V.setCell ⟨rb, vs.length * 2, none⟩ (.slice q.a1 q.ps.length q.c1)).setCell ⟨rb, vs.length * 2 + 1, none⟩ (.slice q.a2 q.ts.length q.c2)).drew) n0 kb bm l rb cap vs q g h x y := by
  have hl := hP.lt
  have hPV := hP.below hT.below
  have hKV := hK.below hT.below
  obtain ⟨cur, hc, _⟩ := hPV
  have hc1 := block_setCell (off := vs.length * 2) (.slice q.a1 q.ps.length q.c1) hc
  have hg := hT.new1
  have hh := hT.new2
  have hnW : n0 ≤ W.heap.size := by omega
  have hnV : n0 ≤ V.heap.size := Nat.le_trans hnW hT.below.size
  refine ⟨(hP.below hT.below).put (q := q), ?_, ?_, ?_, ?_, ?_⟩
  · have k1 := hKV.kept (grownBy_setCell V ⟨rb, vs.length * 2, none⟩ (.slice q.a1 q.ps.length q.c1)) (fun g e => by cases e; exact ⟨_, hc⟩)
    have k2 := k1.kept (grownBy_setCell _ ⟨rb, vs.length * 2 + 1, none⟩ (.slice q.a2 q.ts.length q.c2)) (fun g e => by cases e; exact ⟨_, hc1⟩)
    exact k2.below ((Below.refl _ _).drew)
  · exact ((hT.one.aside (p := ⟨rb, vs.length * 2, none⟩) (by show g ≠ rb; omega) _).aside (p := ⟨rb, vs.length * 2 + 1, none⟩) (by show g ≠ rb; omega) _).drew
  · exact ((hT.two.aside (p := ⟨rb, vs.length * 2, none⟩) (by show h ≠ rb; omega) _).aside (p := ⟨rb, vs.length * 2 + 1, none⟩) (by show h ≠ rb; omega) _).drew
  · exact (((hB.trans (hT.below.mono hnW)).setCell (p := ⟨rb, vs.length * 2, none⟩) hrb _).setCell (p := ⟨rb, vs.length * 2 + 1, none⟩) hrb _).drew
  · show n0 ≤ ((V.setCell _ _).setCell _ _).heap.size
    simpa [World.setCell] using hnV
theorem rowInfo : (Try.prog.info? 96).map (fun i => (i.zero, i.size, i.bytes)) = some (some (.agg #[.slice none 0 0, .slice none 0 0]), 2, 48) := by kernel_rfl
theorem mrow_one (a b : Option Addr) (n m c d : Nat) : ∀ u ∈ [Value.slice a n c, Value.slice b m d], u.oneCell' = true := by
  intro u hu; simp at hu; rcases hu with rfl | rfl <;> rfl
theorem rowRv_snoc (vs : List Rv) (r : Rv) : rowRv (vs ++ [r]) = rowRv vs ++ r.cells := by rw [rowRv_append, rowRv_one]
theorem pile_own {W : World} {n0 n : Nat} {v : Value} {xs : List Value} {vs : List Rv} (h : W.ownsRow n0 96 2 v n xs) (hx : xs = rowRv vs) (hn : vs.length = n) (h0 : 0 < n) : ∃ g c, v = .slice (some ⟨g, 0, none⟩) n c ∧ PileAt W g c vs ∧ n0 ≤ g := by
  obtain ⟨_, ⟨_, h⟩ | ⟨g, cap, cur, h1, h2, h3, h4, h5, h6, h7⟩⟩ := h
  · omega
  · subst hx hn
    exact ⟨g, cap, h1, ⟨cur, h3, h4, h5, h6, h7⟩, h2⟩
/-- What the method leaves. -/
def FitPost (w0 w : World) (n0 kb bm : Nat) (R : Option (List Bn)) (e : Ending) (w' : World) : Prop :=
  e = .returned (.bool R.isSome) ∧ Below n0 w w' ∧ ∀ m, R = some m → ∃ l, KnAt w0 w' n0 kb bm l ∧ l.length ≤ 1000000 ∧ ofB l = m
/-- What holds at its label. -/
def FitAt (w0 w : World) (n0 kb bm : Nat) (R : Option (List Bn)) (v1 v2 : Value) (n : Nat) (a : Act) (W : World) : Prop :=
  ∃ (vs : List Rv) (l : List Bn) (rb cap k : Nat) (L : List Value), n = leftS (pile vs) ∧ vs.length = k ∧ L.length = 76 ∧ a = { tmps := (.pointer (some ⟨kb, 0, none⟩) :: v1 :: v2 :: undef :: undef :: undef :: .bool false :: .slice (some ⟨rb, 0, none⟩) k cap :: L).toArray, defers := [] } ∧
    KnAt w0 W n0 kb bm l ∧ PileAt W rb cap vs ∧ n0 ≤ rb ∧ (∀ r ∈ vs, r.ok w0) ∧ Below n0 w W ∧ moreS (pile vs) l = R ∧ l.length + leftS (pile vs) ≤ 1000000

set_option maxRecDepth 100000 in
set_option maxHeartbeats 8000000 in
theorem fit_any (w0 w : World) (n0 kb bm : Nat) (l : List Bn) (r : Rv) (hk : KnAt w0 w n0 kb bm l) (hr : r.ok w0) (hb0 : Below w0.heap.size w0 w) (hw0 : w0.heap.size ≤ n0) (hn0 : n0 ≤ w.heap.size) (hl : l.length + 1 + 2 * partsL r.ps ≤ 1000000) :
    Calls Try.prog 52 #[.pointer (some ⟨kb, 0, none⟩), .slice r.a1 r.ps.length r.c1, .slice r.a2 r.ts.length r.c2] w (FitPost w0 w n0 kb bm (moreL r.ps r.ts l)) := by
  obtain ⟨R, hR⟩ : ∃ R, moreL r.ps r.ts l = R := ⟨_, rfl⟩
  rw [hR]
  go_enter Try.func52, Try.ntmps52
  go_wp2_with fail
  refine wp_scope_falls 0 (FitAt w0 w n0 kb bm R (.slice r.a1 r.ps.length r.c1) (.slice r.a2 r.ts.length r.c2)) rfl ?_ ?_
  · have BW := Lib.hid hb0
    have HBW := Lib.hid hn0
    clear hk hr hb0 hn0 hl hR
    rintro n a W ⟨vs, l, rb, cap, k, L, rfl, rfl, hL, rfl, hK, hP, hrb, hO, hB, hM, hN⟩
    obtain ⟨u, rfl⟩ := list_76 hL
    clear hL
    rcases snoc_cases vs with rfl | ⟨vs, ⟨a1, c1, ps, a2, c2, ts⟩, rfl⟩
    · have HR := Lib.hid (show some (ofB l) = R from hM)
      have HK := Lib.hid (And.intro hK hB)
      have HL := Lib.hid (show l.length ≤ 1000000 by omega)
      clear hM hK hP hO hB hN hrb
      go_wp2_with fail
      simp only [Exit.jump]
      go_ret
      refine ⟨by rw [← HR.out]; rfl, HK.out.2, fun m hm => ⟨l, HK.out.1, HL.out, ?_⟩⟩
      rw [← HR.out] at hm
      exact Option.some.inj hm
    · obtain ⟨hlen, hA1, hA2⟩ := hO _ (List.mem_append_right _ (List.mem_singleton_self _))
      simp only at hlen hA1 hA2
      have hT := hP.top
      have hrl := hP.lt
      have HOV := Lib.hid (fun q (hq : q ∈ vs) => hO q (List.mem_append_left _ hq))
      rw [pile_snoc] at hM hN ⊢
      simp only at hM hN
      have HK := Lib.hid hK
      have HP := Lib.hid hP
      have HRB := Lib.hid hrb
      have HB := Lib.hid hB
      simp only [List.length_append, List.length_singleton]
      have hvl : vs.length ≤ leftS (pile vs) := leftS_length vs
      rw [leftS_cons] at hN
      obtain ⟨q, hq⟩ : ∃ q, vs.length = q := ⟨_, rfl⟩
      rw [hq] at hT hvl ⊢
      have HQ := Lib.hid hq
      have hq1 : q + 1 ≤ 1000000 := by omega
      have hqi : IntKind.i64.wrap (((q + 1 : Nat) : Int) - 1) = (q : Int) := by rw [IntKind.wrap_i64]; omega
      have he0 : (((q : Nat) : Int) + 1 == 0) = false := by rw [beq_eq_false_iff_ne]; omega
      have hqc : q + 1 ≤ cap := by
        obtain ⟨_, _, h, _⟩ := hP
        rw [List.length_append, List.length_singleton, hq] at h; exact h
      have hqc' : q ≤ cap := by omega
      clear hq hO hK hP hrb hB
      obtain ⟨t0, t1, g0, g1⟩ := hT
      simp only at t0 t1
      cases ps with
      | nil =>
        obtain rfl : ts = [] := by cases ts with | nil => rfl | cons => simp at hlen
        have HM := Lib.hid (show moreS (pile vs) l = R by rw [← hM, moreS_pop])
        have HN := Lib.hid hN
        clear hM hN hlen hA1 hA2
        go_wp2_with fail
        go_step3
        obtain rfl := HQ.out
        refine ⟨rfl, _, ?_, ⟨vs, l, rb, cap, vs.length, _, rfl, rfl, ?_, rfl, HK.out, HP.out.pop, HRB.out, HOV.out, HB.out, HM.out, ?_⟩⟩
        · rw [leftS_cons]; omega
        · rfl
        · have := HN.out; omega
      | cons p ps =>
        obtain ⟨t, ts', rfl⟩ : ∃ t ts', ts = t :: ts' := by cases ts with | nil => simp at hlen | cons t ts' => exact ⟨t, ts', rfl⟩
        obtain ⟨b1, o1, rfl, hlt1, hat1⟩ := hA1.2.resolve_left (by simp)
        obtain ⟨b2, o2, rfl, hlt2, hat2⟩ := hA2.2.resolve_left (by simp)
        rw [RowAt] at hat1 hat2
        obtain ⟨⟨xt, xa, xc⟩, hxt, hxo, hxv⟩ := tmAt_tv hat1.1
        obtain ⟨⟨yt, ya, yc⟩, hyt, hyo, hyv⟩ := tmAt_tv hat2.1
        obtain rfl : xt = p := hxt
        obtain rfl : yt = t := hyt
        have HT1 := Lib.hid (args_tail hA1)
        have HT2 := Lib.hid (args_tail hA2)
        have HLEN := Lib.hid (show ps.length = ts'.length by simpa using hlen)
        have hbw : Below w0.heap.size w0 W := BW.out.trans (HB.out.mono hw0)
        obtain ⟨m0, m1, m2, m3⟩ : TvAt W b1 o1 ⟨xt, xa, xc⟩ := ⟨(hbw.cell (p := ⟨b1, o1, none⟩) hlt1).trans hxv.c0, (hbw.cell (p := ⟨b1, o1 + 1, none⟩) hlt1).trans hxv.c1, (hbw.cell (p := ⟨b1, o1 + 2, none⟩) hlt1).trans hxv.c2, (hbw.cell (p := ⟨b1, o1 + 3, none⟩) hlt1).trans hxv.c3⟩
        obtain ⟨k0, k1, k2, k3⟩ : TvAt W b2 o2 ⟨yt, ya, yc⟩ := ⟨(hbw.cell (p := ⟨b2, o2, none⟩) hlt2).trans hyv.c0, (hbw.cell (p := ⟨b2, o2 + 1, none⟩) hlt2).trans hyv.c1, (hbw.cell (p := ⟨b2, o2 + 2, none⟩) hlt2).trans hyv.c2, (hbw.cell (p := ⟨b2, o2 + 3, none⟩) hlt2).trans hyv.c3⟩
        have HXO := Lib.hid hxo
        have HYO := Lib.hid hyo
        have HM := Lib.hid hM
        have HN := Lib.hid hN
        simp only at m0 m1 m2 m3 k0 k1 k2 k3
        simp only [List.length_cons] at t0 t1
        have hl1 : (((ps.length : Nat) : Int) + 1 == 0) = false := by rw [beq_eq_false_iff_ne]; omega
        have hb1 : b1 < W.heap.size := lt_of_cell m0
        have hb2 : b2 < W.heap.size := lt_of_cell k0
        clear hM hN hlen hA1 hA2 hat1 hat2 hxv hyv hxo hyo hlt1 hlt2 hbw
        have KEEP := Lib.hid (fun (V : World) (h : Below W.heap.size W V) => (show (V.cell? ⟨rb, q * 2, none⟩ = some (.slice (some ⟨b1, o1, none⟩) (ps.length + 1) c1) ∧ V.cell? ⟨rb, q * 2 + 1, none⟩ = some (.slice (some ⟨b2, o2, none⟩) (ts'.length + 1) c2)) ∧ (V.cell? ⟨b1, o1, none⟩ = some (.int .i64 xt.kind) ∧ V.cell? ⟨b1, o1 + 1, none⟩ = some (.string xt.name) ∧ V.cell? ⟨b1, o1 + 2, none⟩ = some (.int .i64 xt.n) ∧ V.cell? ⟨b1, o1 + 3, none⟩ = some (.slice xa xt.args.length xc)) ∧
            (V.cell? ⟨b2, o2, none⟩ = some (.int .i64 yt.kind) ∧ V.cell? ⟨b2, o2 + 1, none⟩ = some (.string yt.name) ∧ V.cell? ⟨b2, o2 + 2, none⟩ = some (.int .i64 yt.n) ∧ V.cell? ⟨b2, o2 + 3, none⟩ = some (.slice ya yt.args.length yc)) from
          ⟨⟨(h.cell (p := ⟨rb, q * 2, none⟩) hrl).trans t0, (h.cell (p := ⟨rb, q * 2 + 1, none⟩) hrl).trans t1⟩, ⟨(h.cell (p := ⟨b1, o1, none⟩) hb1).trans m0, (h.cell (p := ⟨b1, o1 + 1, none⟩) hb1).trans m1, (h.cell (p := ⟨b1, o1 + 2, none⟩) hb1).trans m2, (h.cell (p := ⟨b1, o1 + 3, none⟩) hb1).trans m3⟩,
            ⟨(h.cell (p := ⟨b2, o2, none⟩) hb2).trans k0, (h.cell (p := ⟨b2, o2 + 1, none⟩) hb2).trans k1, (h.cell (p := ⟨b2, o2 + 2, none⟩) hb2).trans k2, (h.cell (p := ⟨b2, o2 + 3, none⟩) hb2).trans k3⟩⟩))
        have TW1 := Lib.hid (two_at W ⟨xt, xa, xc⟩ ⟨yt, ya, yc⟩)
        have TW2 := Lib.hid (two_at W ⟨yt, ya, yc⟩ ⟨xt, xa, xc⟩).turn
        simp only at TW1 TW2
        have BR := Lib.hid (Below.refl W.heap.size W)
        have BA := Lib.hid (fun (V : World) (o : Obj) (h : Below W.heap.size W V) => h.alloc h.size o)
        have BD := Lib.hid (fun (V : World) (h : Below W.heap.size W V) => h.drew)
        have BS := Lib.hid (fun (V : World) (g i : Nat) (v : Value) (hg : W.heap.size ≤ g) (h : Below W.heap.size W V) => h.setCell (p := ⟨g, i, none⟩) hg v)
        go_wp2_with fail
        go_region_held3 (fun V => (V.cell? ⟨rb, q * 2, none⟩ = some (.slice (some ⟨b1, o1, none⟩) (ps.length + 1) c1) ∧ V.cell? ⟨rb, q * 2 + 1, none⟩ = some (.slice (some ⟨b2, o2, none⟩) (ts'.length + 1) c2)) ∧ (V.cell? ⟨b1, o1, none⟩ = some (.int .i64 xt.kind) ∧ V.cell? ⟨b1, o1 + 1, none⟩ = some (.string xt.name) ∧ V.cell? ⟨b1, o1 + 2, none⟩ = some (.int .i64 xt.n) ∧ V.cell? ⟨b1, o1 + 3, none⟩ = some (.slice xa xt.args.length xc)) ∧
            (V.cell? ⟨b2, o2, none⟩ = some (.int .i64 yt.kind) ∧ V.cell? ⟨b2, o2 + 1, none⟩ = some (.string yt.name) ∧ V.cell? ⟨b2, o2 + 2, none⟩ = some (.int .i64 yt.n) ∧ V.cell? ⟨b2, o2 + 3, none⟩ = some (.slice ya yt.args.length yc)))
          (exact KEEP.out _ (by first | with_reducible exact BD.out _ BR.out | (repeat (first | with_reducible exact BR.out | with_reducible refine BD.out _ ?_ | with_reducible refine BA.out _ _ ?_ | (with_reducible refine BS.out _ _ _ _ ?_ ?_; omega)))))
          ((fail))
        all_goals
          first
          | (refine world_letter (R := Exit.then _ _ Exit.normal) (fun V => TwoAt W V W.heap.size (W.heap.size + 1) ⟨xt, xa, xc⟩ ⟨yt, ya, yc⟩) TW1.out ?_)
          | (refine world_letter (R := Exit.then _ _ Exit.normal) (fun V => TwoAt W V (W.heap.size + 1) W.heap.size ⟨xt, xa, xc⟩ ⟨yt, ya, yc⟩) TW2.out ?_)
          intro V hV
          obtain ⟨⟨⟨s0, s1⟩, _⟩, hs⟩ := And.intro (KEEP.out V hV.below) hV.below
          have sf0 := (hs.frozen (p := ⟨rb, q * 2, none⟩) hrl).trans g0
          have sf1 := (hs.frozen (p := ⟨rb, q * 2 + 1, none⟩) hrl).trans g1
          have HV := Lib.hid hV
          clear t0 t1 g0 g1 m0 m1 m2 m3 k0 k1 k2 k3 hV hs
          have n1 : (1 : Int) ≤ ((ps.length : Nat) : Int) + 1 := by omega
          have n2 : (1 : Int) ≤ ((ts'.length : Nat) : Int) + 1 := by omega
          go_wp2_with fail
          go_region
          refine world_letter (R := Exit.then _ _ Exit.normal) (fun X => TopAt w0 w X n0 kb bm l rb cap vs ⟨if c1 = 1 then some ⟨b1, o1, none⟩ else some ⟨b1, o1 + 4, none⟩, c1 - 1, ps, if c2 = 1 then some ⟨b2, o2, none⟩ else some ⟨b2, o2 + 4, none⟩, c2 - 1, ts'⟩ _ _ ⟨xt, xa, xc⟩ ⟨yt, ya, yc⟩) (by
            have h := top_set (q := ⟨if c1 = 1 then some ⟨b1, o1, none⟩ else some ⟨b1, o1 + 4, none⟩, c1 - 1, ps, if c2 = 1 then some ⟨b2, o2, none⟩ else some ⟨b2, o2 + 4, none⟩, c2 - 1, ts'⟩) HV.out HP.out HK.out HRB.out HB.out
            rw [HQ.out] at h
            exact h) ?_
          intro X hX
          have HX := Lib.hid hX
          have HQO := Lib.hid (show Rv.ok w0 ⟨if c1 = 1 then some ⟨b1, o1, none⟩ else some ⟨b1, o1 + 4, none⟩, c1 - 1, ps, if c2 = 1 then some ⟨b2, o2, none⟩ else some ⟨b2, o2 + 4, none⟩, c2 - 1, ts'⟩ from ⟨HLEN.out, HT1.out, HT2.out⟩)
          obtain ⟨A1, hA1⟩ : ∃ A1, (if c1 = 1 then some (⟨b1, o1, none⟩ : Addr) else some ⟨b1, o1 + 4, none⟩) = A1 := ⟨_, rfl⟩
          obtain ⟨A2, hA2⟩ : ∃ A2, (if c2 = 1 then some (⟨b2, o2, none⟩ : Addr) else some ⟨b2, o2 + 4, none⟩) = A2 := ⟨_, rfl⟩
          rw [hA1, hA2] at HX HQO
          rw [hA1, hA2]
          clear hA1 hA2 hX s0 s1 sf0 sf1 HV HP HK HT1 HT2 HB HLEN hb1 hb2 TW1 TW2 KEEP BR BA BD BS hrl
          have hbx := HX.out.one
          have hby := HX.out.two
          obtain ⟨p0, p1, p2, p3, _, _, _, _⟩ := hbx
          obtain ⟨q0, q1, q2, q3, _, _, _, _⟩ := hby
          simp only at p0 p1 p2 p3 q0 q1 q2 q3
          have HBX := Lib.hid (show Below w0.heap.size w0 X from BW.out.trans (HX.out.below.mono hw0))
          by_cases hk : xt.kind = 1
          · have hkd : (xt.kind == 1) = true := by rw [hk]; rfl
            have HKD := Lib.hid hk
            clear hk
            have hnl := HXO.out.1.len
            simp only at hnl
            cases hg : getB l xt.name with
            | some v =>
              have ST := Lib.hid (stands_old w0 X n0 kb bm l xt.name ⟨yt, ya, yc⟩ v HX.out.known HYO.out hnl HBX.out hg)
              have HG := Lib.hid hg
              simp only [Tv.val] at ST
              cases he : eqT v yt with
              | true =>
                rw [he] at ST
                have HM2 := Lib.hid (show moreS ((ps, ts') :: pile vs) l = R by rw [← HM.out, moreS_old HKD.out HG.out he])
                clear he hg hnl
                go_wp2_with fail
                refine ST.out.mono ?_; rintro e X2 ⟨rfl, hb2⟩
                have HX2 := Lib.hid hb2
                clear hb2 p0 p1 p2 p3 q0 q1 q2 q3
                go_wp2_with fail
                go_step3
                obtain rfl := HQ.out
                refine ⟨rfl, _, ?_, ⟨_, l, rb, cap, vs.length + 1, _, rfl, (by rw [List.length_append, List.length_singleton]), ?_, rfl, HX.out.known.below HX2.out, HX.out.pile.below HX2.out, HRB.out, ?_, HX.out.below.trans (HX2.out.mono HX.out.le), ?_, ?_⟩⟩
                · rw [pile_snoc]; exact leftS_step xt ps ts' (yt :: ts') (pile vs)
                · rfl
                · intro r' hr'
                  rcases List.mem_append.1 hr' with h | h
                  · exact HOV.out r' h
                  · rw [List.mem_singleton] at h; subst h; exact HQO.out
                · rw [pile_snoc]; exact HM2.out
                · rw [pile_snoc, leftS_cons]; have := HN.out; rw [partsL_cons] at this; simp only; omega
              | false =>
                rw [he] at ST
                have HM2 := Lib.hid (show none = R by rw [← HM.out, moreS_not HKD.out HG.out he])
                clear he hg hnl
                go_wp2_with fail
                refine ST.out.mono ?_; rintro e X2 ⟨rfl, hb2⟩
                have HX2 := Lib.hid (HX.out.below.trans (hb2.mono HX.out.le))
                clear hb2 p0 p1 p2 p3 q0 q1 q2 q3
                go_wp2_with fail
                simp only [Exit.jump]
                go_ret
                refine ⟨by rw [← HM2.out]; rfl, HX2.out, fun m hm => ?_⟩
                rw [← HM2.out] at hm; cases hm
            | none =>
              have ST := Lib.hid (stands_new w0 X n0 kb bm l xt.name ⟨yt, ya, yc⟩ HX.out.known HYO.out hnl HX.out.le (by have := HN.out; omega) hg)
              have HM2 := Lib.hid (show moreS ((ps, ts') :: pile vs) (l ++ [(xt.name, yt)]) = R by rw [← HM.out, moreS_new HKD.out hg])
              simp only [Tv.val] at ST
              clear hg hnl
              go_wp2_with fail
              refine ST.out.mono ?_; rintro e X2 ⟨rfl, hk2, hb2, hr2⟩
              have HX2 := Lib.hid (And.intro hk2 (And.intro hb2 hr2))
              clear hk2 hb2 hr2 p0 p1 p2 p3 q0 q1 q2 q3
              go_wp2_with fail
              go_step3
              obtain rfl := HQ.out
              refine ⟨rfl, _, ?_, ⟨_, l ++ [(xt.name, yt)], rb, cap, vs.length + 1, _, rfl, (by rw [List.length_append, List.length_singleton]), ?_, rfl, HX2.out.1, HX.out.pile.keep HX2.out.2.2, HRB.out, ?_, HX.out.below.trans HX2.out.2.1, ?_, ?_⟩⟩
              · rw [pile_snoc]; exact leftS_step xt ps ts' (yt :: ts') (pile vs)
              · rfl
              · intro r' hr'
                rcases List.mem_append.1 hr' with h | h
                · exact HOV.out r' h
                · rw [List.mem_singleton] at h; subst h; exact HQO.out
              · rw [pile_snoc]; exact HM2.out
              · rw [pile_snoc, leftS_cons, List.length_append, List.length_singleton]; have := HN.out; rw [partsL_cons] at this; have := parts_pos xt; simp only; omega
          · have hkd : (xt.kind == 1) = false := by rw [beq_eq_false_iff_ne]; exact hk
            have HKD := Lib.hid hk
            clear hk
            have AL := Lib.hid (palike_tm ⟨xt, xa, xc⟩ ⟨yt, ya, yc⟩ X)
            simp only [Tv.val] at AL
            cases he : alikeB xt yt with
            | false =>
              rw [he] at AL
              have HM2 := Lib.hid (show none = R by rw [← HM.out, moreS_far HKD.out he])
              clear he
              go_wp2_with fail
              refine AL.out.mono ?_; rintro e X2 ⟨rfl, hb2⟩
              have HX2 := Lib.hid (HX.out.below.trans (hb2.mono HX.out.le))
              clear hb2 p0 p1 p2 p3 q0 q1 q2 q3
              go_wp2_with fail
              simp only [Exit.jump]
              go_ret
              refine ⟨by rw [← HM2.out]; rfl, HX2.out, fun m hm => ?_⟩
              rw [← HM2.out] at hm; cases hm
            | true =>
              rw [he] at AL
              have HM2 := Lib.hid (show moreS ((xt.args, yt.args) :: (ps, ts') :: pile vs) l = R by rw [← HM.out, moreS_fun HKD.out he])
              have HNO := Lib.hid (show Rv.ok w0 ⟨xa, xc, xt.args, ya, yc, yt.args⟩ from ⟨by
                unfold alikeB at he
                rw [Bool.and_eq_true, decide_eq_true_iff] at he
                exact he.2, HXO.out.2, HYO.out.2⟩)
              clear he
              go_wp2_with fail
              refine AL.out.mono ?_; rintro e X2 ⟨rfl, hb2⟩
              have HX2 := Lib.hid hb2
              have hbx2 := HX.out.one.below hb2 (lt_of_cell HX.out.one.c0)
              have hby2 := HX.out.two.below hb2 (lt_of_cell HX.out.two.c0)
              clear hb2 p0 p1 p2 p3 q0 q1 q2 q3
              obtain ⟨p0, p1, p2, p3, _, _, _, _⟩ := hbx2
              obtain ⟨q0, q1, q2, q3, _, _, _, _⟩ := hby2
              simp only at p0 p1 p2 p3 q0 q1 q2 q3
              obtain ⟨i0, hi, hz0, hz1, hz2⟩ := info_parts rowInfo
              have HOW := Lib.hid (show X2.ownsRow n0 96 2 (.slice (some ⟨rb, 0, none⟩) (q + 1) cap) (q + 1) (rowRv (vs ++ [⟨A1, c1 - 1, ps, A2, c2 - 1, ts'⟩])) from by
                have h := (HX.out.pile.below HX2.out).owns HRB.out
                rw [List.length_append, List.length_singleton, HQ.out] at h
                exact h)
              have HM3 : q + 1 + 1 ≤ maxLen := by unfold maxLen; omega
              have HM4 : (q + 1 + 1) * 48 ≤ 140737488355328 := by omega
              go_wp2_with (at_builtin; refine wpList_append_own_at _ rfl _ _ 97 rfl n0 96 i0 (.agg #[.slice none 0 0, .slice none 0 0]) 2 48 Try.underlying97 hi hz0 hz1 hz2 rfl (by decide) (.slice (some ⟨rb, 0, none⟩) (q + 1) cap) (q + 1) _ rfl (HOW.out.alloc (.cells #[.slice xa xt.args.length xc, .slice ya yt.args.length yc] 96)) ⟨X2.heap.size, 0, none⟩ 1 1 [.slice xa xt.args.length xc, .slice ya yt.args.length yc] rfl rfl (World.news_of_block (heap_alloc_new _ _)) (mrow_one _ _ _ _ _ _) HM3 HM4 (by simp; have := HX2.out.size; have := HX.out.le; omega) ?_; intro v5 X5 hown5 hg5 _ _; obtain ⟨g5, c5, rfl, hP5, hn5⟩ := pile_own (vs := vs ++ [⟨A1, c1 - 1, ps, A2, c2 - 1, ts'⟩] ++ [⟨xa, xc, xt.args, ya, yc, yt.args⟩]) hown5 (rowRv_snoc (vs ++ [⟨A1, c1 - 1, ps, A2, c2 - 1, ts'⟩]) ⟨xa, xc, xt.args, ya, yc, yt.args⟩).symm (by rw [List.length_append, List.length_append, HQ.out]; rfl) (by omega); have HG5 := Lib.hid (And.intro hP5 (And.intro hn5 hg5)); clear hP5 hn5 hg5 hown5)
              go_step3
              obtain rfl := HQ.out
              have hPA := (HX.out.pile.below HX2.out).below ((Below.refl X2.heap.size X2).alloc (Nat.le_refl _) (.cells #[.slice xa xt.args.length xc, .slice ya yt.args.length yc] 96))
              have hKA := (HX.out.known.below HX2.out).below ((Below.refl X2.heap.size X2).alloc (Nat.le_refl _) (.cells #[.slice xa xt.args.length xc, .slice ya yt.args.length yc] 96))
              have hbA : Below n0 w (X2.alloc (.cells #[.slice xa xt.args.length xc, .slice ya yt.args.length yc] 96)) := (HX.out.below.trans (HX2.out.mono HX.out.le)).alloc (Nat.le_trans HX.out.le HX2.out.size) _
              have hb5 : Below n0 w X5 := hbA.grown HG5.out.2.2 (by simp; have := HX2.out.size; have := HX.out.le; omega) (fun k' e => by cases e; exact HRB.out)
              refine ⟨rfl, _, ?_, ⟨vs ++ [⟨A1, c1 - 1, ps, A2, c2 - 1, ts'⟩] ++ [⟨xa, xc, xt.args, ya, yc, yt.args⟩], l, g5, c5, vs.length + 1 + 1, _, rfl, (by rw [List.length_append, List.length_append]; rfl), ?_, rfl, hKA.kept HG5.out.2.2 (fun g e => ?_), HG5.out.1, HG5.out.2.1, ?_, hb5, ?_, ?_⟩⟩
              · rw [pile_snoc, pile_snoc]; exact leftS_fun xt ps yt.args ts' (yt :: ts') (pile vs)
              · rfl
              · obtain ⟨cur, hc, _⟩ := hPA
                cases e; exact ⟨cur, hc⟩
              · intro r' hr'
                rcases List.mem_append.1 hr' with h | h
                · rcases List.mem_append.1 h with h | h
                  · exact HOV.out r' h
                  · rw [List.mem_singleton] at h; subst h; exact HQO.out
                · rw [List.mem_singleton] at h; subst h; exact HNO.out
              · rw [pile_snoc, pile_snoc]; exact HM2.out
              · rw [pile_snoc, pile_snoc]
                have h1 := leftS_fun xt ps yt.args ts' (yt :: ts') (pile vs)
                have h2 := HN.out
                rw [leftS_cons (xt :: ps, yt :: ts')] at h1
                simp only at h1 ⊢
                omega
  · intro PASS
    have hP0 : PileAt (w.alloc (.cells #[.slice r.a1 r.ps.length r.c1, .slice r.a2 r.ts.length r.c2] 96)) w.heap.size 1 [r] := ⟨_, heap_alloc_new _ _, Nat.le_refl _, by unfold maxLen; omega, rfl, by simp [rowRv, Rv.cells]⟩
    have hK0 := hk.below ((Below.refl w.heap.size w).alloc (Nat.le_refl _) (.cells #[.slice r.a1 r.ps.length r.c1, .slice r.a2 r.ts.length r.c2] 96))
    have hB0 : Below n0 w (w.alloc (.cells #[.slice r.a1 r.ps.length r.c1, .slice r.a2 r.ts.length r.c2] 96)) := (Below.refl n0 w).alloc hn0 _
    have HS := Lib.hid (And.intro hP0 (And.intro hK0 hB0))
    have HR := Lib.hid hR
    have HRO := Lib.hid hr
    have HL := Lib.hid hl
    clear hP0 hK0 hB0 hk hr hR hl
    go_wp2_with fail
    rename_i K1 hK1
    go_step3
    refine hK1 _ _ (PASS _ _ _ ⟨[r], l, w.heap.size, 1, 1, _, rfl, rfl, ?_, rfl, HS.out.2.1, HS.out.1, hn0, ?_, HS.out.2.2, ?_, ?_⟩)
    · rfl
    · intro q hq; rw [List.mem_singleton] at hq; subst hq; exact HRO.out
    · show moreS [(r.ps, r.ts)] l = R; rw [moreS_one]; exact HR.out
    · show l.length + leftS [(r.ps, r.ts)] ≤ 1000000; rw [leftS_cons]; have := HL.out; simp only [leftS]; omega
end Go.Proofs.Ytedljdcliilggaa

namespace Go.Proofs.Ytedljdcliilggaa
open Go.RowKit

/-- A memory doesn't see a block. -/
def Blind (w0 : World) (g : Nat) : Prop := ∀ p : Addr, p.block = g → w0.cell? p = none
theorem blind_new {w0 : World} {g : Nat} (h : w0.heap.size ≤ g) : Blind w0 g := fun p hp => by
  cases e : w0.cell? p with
  | none => rfl
  | some v => have := World.block_lt_of_cell? w0 p e; omega
theorem reads_set {w0 W : World} {p : Addr} (h : Reads w0 W) (hb : Blind w0 p.block) (v : Value) : Reads w0 (W.setCell p v) := ⟨by simpa using h.size, fun q u hq => by
  have hne : q.block ≠ p.block := fun e => by rw [hb q e] at hq; cases hq
  rw [cell_aside p q hne]; exact h.cell q u hq⟩
theorem reads_keep {w0 W W' : World} (h : Reads w0 W) (hs : W.heap.size ≤ W'.heap.size) (hk : ∀ k, k < W.heap.size → ¬ Blind w0 k → W'.heap[k]? = W.heap[k]?) : Reads w0 W' := ⟨Nat.le_trans h.size hs, fun q u hq => by
  have hlt := World.block_lt_of_cell? W q (h.cell q u hq)
  rw [World.cell?_of_block (w := W) (w' := W') (a := q) (hk q.block hlt (fun hb => by rw [hb q rfl] at hq; cases hq))]
  exact h.cell q u hq⟩
theorem reads_alloc {w0 W : World} (h : Reads w0 W) (o : Obj) : Reads w0 (W.alloc o) := h.trans (reads_below ((Below.refl _ _).alloc (Nat.le_refl _) _))
/-- A memory, with some blocks of another one in sight. -/
def over (w0 W : World) (E : Nat → Bool) : World := { W with heap := Array.ofFn (n := W.heap.size) fun i => if E i.1 then W.heap[i.1] else (w0.heap[i.1]?).getD (.deferred none) }
theorem over_size (w0 W : World) (E : Nat → Bool) : (over w0 W E).heap.size = W.heap.size := by simp [over]
theorem over_get (w0 W : World) (E : Nat → Bool) {k : Nat} (hk : k < W.heap.size) : (over w0 W E).heap[k]? = some (if E k then W.heap[k] else (w0.heap[k]?).getD (.deferred none)) := by
  unfold over
  rw [Array.getElem?_ofFn, dif_pos hk]
theorem over_in (w0 W : World) {E : Nat → Bool} {k : Nat} (h : E k = true) : (over w0 W E).heap[k]? = W.heap[k]? := by
  rcases Nat.lt_or_ge k W.heap.size with hk | hk
  · rw [over_get w0 W E hk, if_pos h, Array.getElem?_eq_getElem hk]
  · rw [Array.getElem?_eq_none (by rw [over_size]; exact hk), Array.getElem?_eq_none hk]
theorem over_cell {w0 W : World} {E : Nat → Bool} {p : Addr} (h : E p.block = false) (hs : w0.heap.size ≤ W.heap.size) : (over w0 W E).cell? p = w0.cell? p := by
  rcases Nat.lt_or_ge p.block w0.heap.size with hk | hk
  · refine World.cell?_of_block (w := w0) (w' := over w0 W E) (a := p) ?_
    rw [over_get w0 W E (Nat.lt_of_lt_of_le hk hs), if_neg (by rw [h]; simp), Array.getElem?_eq_getElem hk]; rfl
  · rw [blind_new (w0 := w0) hk p rfl]
    rcases Nat.lt_or_ge p.block W.heap.size with hk2 | hk2
    · have e := over_get w0 W E hk2
      rw [if_neg (by rw [h]; simp), Array.getElem?_eq_none hk] at e
      unfold World.cell?
      rw [e]; rfl
    · exact blind_new (by rw [over_size]; exact hk2) p rfl
theorem over_up {w0 W : World} {E : Nat → Bool} (h : Reads w0 W) : Reads w0 (over w0 W E) := ⟨by rw [over_size]; exact h.size, fun p v hv => by
  cases e : E p.block with
  | true => rw [World.cell?_of_block (w := W) (w' := over w0 W E) (a := p) (over_in w0 W e)]; exact h.cell p v hv
  | false => rw [over_cell e h.size]; exact hv⟩
theorem over_on {w0 W : World} {E : Nat → Bool} (h : Reads w0 W) : Reads (over w0 W E) W := ⟨by rw [over_size]; exact Nat.le_refl _, fun p v hv => by
  cases e : E p.block with
  | true => rw [World.cell?_of_block (w := W) (w' := over w0 W E) (a := p) (over_in w0 W e)] at hv; exact hv
  | false => rw [over_cell e h.size] at hv; exact h.cell p v hv⟩
theorem over_blind {w0 W : World} {E : Nat → Bool} {g : Nat} (hs : w0.heap.size ≤ W.heap.size) (he : E g = false) (hb : Blind w0 g) : Blind (over w0 W E) g := fun p hp => by
  rw [over_cell (by rw [hp]; exact he) hs]; exact hb p hp

/-- A step: what was seen is seen on; of what lay before no more turns than C says. -/
structure Step (C : Nat → Prop) (w0 W w0' W' : World) : Prop where
  up : Reads w0 w0'
  on : Reads w0' W'
  blind : ∀ g, g < W.heap.size → Blind w0 g → Blind w0' g
  os : W'.os = W.os
  tape : W'.tape = W.tape
  output : W'.output = W.output
  size : W.heap.size ≤ W'.heap.size
  keep : ∀ k, k < W.heap.size → ¬ C k → W'.heap[k]? = W.heap[k]?
theorem Step.refl {C : Nat → Prop} {w0 W : World} (h : Reads w0 W) : Step C w0 W w0 W := ⟨Reads.refl _, h, fun _ _ h => h, rfl, rfl, rfl, Nat.le_refl _, fun _ _ _ => rfl⟩
theorem Step.trans {C : Nat → Prop} {w0 W w1 W1 w2 W2 : World} (h : Step C w0 W w1 W1) (k : Step C w1 W1 w2 W2) : Step C w0 W w2 W2 where
  up := h.up.trans k.up
  on := k.on
  blind := fun g hg hb => k.blind g (Nat.lt_of_lt_of_le hg h.size) (h.blind g hg hb)
  os := k.os.trans h.os
  tape := k.tape.trans h.tape
  output := k.output.trans h.output
  size := Nat.le_trans h.size k.size
  keep := fun b hb hc => (k.keep b (Nat.lt_of_lt_of_le hb h.size) hc).trans (h.keep b hb hc)
theorem Step.wider {C D : Nat → Prop} {w0 W w1 W1 : World} (h : Step C w0 W w1 W1) (hc : ∀ k, k < W.heap.size → C k → D k) : Step D w0 W w1 W1 :=
  ⟨h.up, h.on, h.blind, h.os, h.tape, h.output, h.size, fun k hk hd => h.keep k hk (fun c => hd (hc k hk c))⟩
theorem step_below {C : Nat → Prop} {w0 W W' : World} (h : Reads w0 W) (hb : Below W.heap.size W W') : Step C w0 W w0 W' :=
  ⟨Reads.refl _, h.trans (reads_below hb), fun _ _ h => h, hb.os, hb.tape, hb.output, hb.size, fun k hk _ => hb.block k hk⟩
theorem Step.below {C : Nat → Prop} {w0 W w1 W1 W2 : World} (h : Step C w0 W w1 W1) (hb : Below W1.heap.size W1 W2) : Step C w0 W w1 W2 := h.trans (step_below h.on hb)
theorem Step.alloc {C : Nat → Prop} {w0 W w1 W1 : World} (h : Step C w0 W w1 W1) (o : Obj) : Step C w0 W w1 (W1.alloc o) := h.below ((Below.refl _ _).alloc (Nat.le_refl _) _)
theorem Step.set {C : Nat → Prop} {w0 W w1 W1 : World} (h : Step C w0 W w1 W1) {p : Addr} (hb : Blind w1 p.block) (hc : p.block < W.heap.size → C p.block) (v : Value) : Step C w0 W w1 (W1.setCell p v) where
  up := h.up
  on := reads_set h.on hb v
  blind := h.blind
  os := h.os
  tape := h.tape
  output := h.output
  size := by simpa using h.size
  keep := fun k hk hn => by
    have hne : k ≠ p.block := fun e => hn (by rw [e]; exact hc (by rw [← e]; exact hk))
    rw [Below.heap_setCell _ _ _ _ hne]; exact h.keep k hk hn
theorem Step.grown {C : Nat → Prop} {w0 W w1 W1 W2 : World} (h : Step C w0 W w1 W1) {row : Option Nat} (hg : W1.grownBy W2 row) (hb : ∀ g, row = some g → Blind w1 g ∧ (g < W.heap.size → C g)) : Step C w0 W w1 W2 where
  up := h.up
  on := reads_keep h.on hg.size fun k hk hn => hg.block k hk fun e => hn (hb k e.symm).1
  blind := h.blind
  os := hg.os.trans h.os
  tape := hg.tape.trans h.tape
  output := hg.output.trans h.output
  size := Nat.le_trans h.size hg.size
  keep := fun k hk hn => by
    rw [hg.block k (Nat.lt_of_lt_of_le hk h.size) (fun e => hn ((hb k e.symm).2 hk))]; exact h.keep k hk hn
/-- What was made since comes in sight. -/
theorem Step.show_ {C : Nat → Prop} {w0 W w1 W1 : World} (h : Step C w0 W w1 W1) (E : Nat → Bool) (hE : ∀ k, k < W.heap.size → E k = false) : Step C w0 W (over w1 W1 E) W1 where
  up := h.up.trans (over_up h.on)
  on := over_on h.on
  blind := fun g hg hb => over_blind h.on.size (hE g hg) (h.blind g hg hb)
  os := h.os
  tape := h.tape
  output := h.output
  size := h.size
  keep := h.keep
theorem fresh_over {w0 w1 W W' : World} {E : Nat → Bool} {z : Tv} (h : Fresh w0 W W' z) (hu : Reads w0 w1) (hr : Reads w1 W') (hE : ∀ k, W.heap.size ≤ k → E k = true) : z.ok (over w1 W' E) :=
  h _ (hu.trans (over_up hr)) (by rw [over_size]; exact Nat.le_refl _) fun b hb _ => over_in w1 W' (hE b hb)
/-- The blocks of one memory that lie behind another one's, but for one. -/
def since (n g : Nat) (k : Nat) : Bool := decide (n ≤ k) && !decide (k = g)
end Go.Proofs.Ytedljdcliilggaa
