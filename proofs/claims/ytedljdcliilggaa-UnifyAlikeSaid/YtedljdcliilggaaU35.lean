/-
  Rows of terms made alike from the left, by the program: the method work of what was found.
-/
import Derived.Test.YtedljdcliilggaaU34
import Derived.Deep.DeepCutAuto
namespace Go.Proofs.Ytedljdcliilggaa
open Go.RowKit Go.Maps

theorem list_119 {L : List Value} (h : L.length = 119) : ∃ u : Nat → Value, L = (u 0 :: u 1 :: u 2 :: u 3 :: u 4 :: u 5 :: u 6 :: u 7 :: u 8 :: u 9 :: u 10 :: u 11 :: u 12 :: u 13 :: u 14 :: u 15 :: u 16 :: u 17 :: u 18 :: u 19 :: u 20 :: u 21 :: u 22 :: u 23 :: u 24 :: u 25 :: u 26 :: u 27 :: u 28 :: u 29 :: u 30 :: u 31 :: u 32 :: u 33 :: u 34 :: u 35 :: u 36 :: u 37 :: u 38 :: u 39 :: u 40 :: u 41 :: u 42 :: u 43 :: u 44 :: u 45 :: u 46 :: u 47 :: u 48 :: u 49 :: u 50 :: u 51 :: u 52 :: u 53 :: u 54 :: u 55 :: u 56 :: u 57 :: u 58 :: u 59 :: u 60 :: u 61 :: u 62 :: u 63 :: u 64 :: u 65 :: u 66 :: u 67 :: u 68 :: u 69 :: u 70 :: u 71 :: u 72 :: u 73 :: u 74 :: u 75 :: u 76 :: u 77 :: u 78 :: u 79 :: u 80 :: u 81 :: u 82 :: u 83 :: u 84 :: u 85 :: u 86 :: u 87 :: u 88 :: u 89 :: u 90 :: u 91 :: u 92 :: u 93 :: u 94 :: u 95 :: u 96 :: u 97 :: u 98 :: u 99 :: u 100 :: u 101 :: u 102 :: u 103 :: u 104 :: u 105 :: u 106 :: u 107 :: u 108 :: u 109 :: u 110 :: u 111 :: u 112 :: u 113 :: u 114 :: u 115 :: u 116 :: u 117 :: u 118 :: []) := ⟨fun i => L.getD i undef, (list_all h).trans (by rfl)⟩
/-- What the method leaves. -/
def WorkPost (w0 w : World) (n0 fb bm : Nat) (o : Option (List Bn)) (e : Ending) (w' : World) : Prop :=
  e = .returned (.bool o.isSome) ∧ ∃ w1, Step (fun k => n0 ≤ k) w0 w w1 w' ∧ ∀ l, o = some l → ∃ vb vn ps, FnAt w1 w' fb bm vb vn l ps
/-- What holds at its label. -/
def WorkAt (w0 w : World) (n0 fb bm : Nat) (o : Option (List Bn)) (v1 v3 : Value) (n : Nat) (a : Act) (W : World) : Prop :=
  ∃ (vs : List Wv) (l : List Bn) (ps : List Pv) (w1 : World) (vb vn : Value) (m rb cap k : Nat) (L : List Value), n = workN m (upA l vs) vs.length ∧ vs.length = k ∧ L.length = 119 ∧ a = { tmps := (.pointer (some ⟨fb, 0, none⟩) :: v1 :: undef :: v3 :: .bool false :: .slice (some ⟨rb, 0, none⟩) k cap :: L).toArray, defers := [] } ∧
    (FnAt w1 W fb bm vb vn l ps ∧ Den l (ps.map Pv.pt) ∧ (∀ k, InFn fb bm vb vn k → n0 ≤ k)) ∧ (WPile W rb cap vs ∧ n0 ≤ rb ∧ Blind w1 rb ∧ ∀ r ∈ vs, Wv.ok w1 l r) ∧ Step (fun k => n0 ≤ k) w0 w w1 W ∧ WPu o m l vs
/-- What holds where the two terms at the top are looked at. -/
structure WX (w0 w w1 : World) (n0 fb bm : Nat) (vb vn : Value) (l : List Bn) (rb cap : Nat) (us : List Wv) (ga : Nat) (a : Pv) (gb : Nat) (b : Pv) (X : World) : Prop where
  known : ∃ ps, FnAt w1 X fb bm vb vn l ps ∧ Den l (ps.map Pv.pt)
  pile : WPile X rb cap us
  one : FBox X ga (.int .i64 a.v.t.kind) (.string a.v.t.name) (.int .i64 a.v.t.n) (.slice a.v.a a.v.t.args.length a.v.c) (.int .i64 a.f)
  two : FBox X gb (.int .i64 b.v.t.kind) (.string b.v.t.name) (.int .i64 b.v.t.n) (.slice b.v.a b.v.t.args.length b.v.c) (.int .i64 b.f)
  step : Step (fun k => n0 ≤ k) w0 w w1 X
theorem FBox.below {V U : World} {g : Nat} {x0 x1 x2 x3 x4 : Value} (h : FBox V g x0 x1 x2 x3 x4) (hb : Below V.heap.size V U) : FBox U g x0 x1 x2 x3 x4 := (hb.block g h.lt).trans h
theorem WX.below {w0 w w1 : World} {n0 fb bm : Nat} {vb vn : Value} {l : List Bn} {rb cap : Nat} {us : List Wv} {ga : Nat} {a : Pv} {gb : Nat} {b : Pv} {X Y : World} (h : WX w0 w w1 n0 fb bm vb vn l rb cap us ga a gb b X) (hb : Below X.heap.size X Y) : WX w0 w w1 n0 fb bm vb vn l rb cap us ga a gb b Y where
  known := by obtain ⟨ps, h1, h2⟩ := h.known; exact ⟨ps, h1.below hb, h2⟩
  pile := h.pile.same (hb.block rb h.pile.lt)
  one := h.one.below hb
  two := h.two.below hb
  step := h.step.below hb
theorem build_part {e : Operand → Value} {i j : Nat} {k n : Int} {sv : ByteArray} {f : Int} {o : Oper} (ho : o.op = Op.build 83 #[(0, .tmp i), (1, .tmp j)]) {a1 : Option Addr} {n1 c1 : Nat} (h1 : e (.tmp i) = .agg #[.int .i64 k, .string sv, .int .i64 n, .slice a1 n1 c1]) (h2 : e (.tmp j) = .int .i64 f) (w : World) :
    Sem.run Try.prog (execOp e o) w = .ok (Next.value (.agg #[.int .i64 k, .string sv, .int .i64 n, .slice a1 n1 c1, .int .i64 f])) w := by
  unfold execOp
  rw [ho]
  go_simp
theorem store_part {ops : Array Oper} {o : Oper} {a : Act} {V : World} {K : Act → World → Prop} {Q : Exit → Act → World → Prop} {E : Prop} {i j g : Nat} {x0 x1 x2 x3 x4 : Value} {k n f : Int} {s : ByteArray} {ad : Option Addr} {m c : Nat} (hgd : o.guard = none) (ho : o.op = Op.store 83 (.tmp i) (.tmp j)) (h1 : a.eval (.tmp i) = .pointer (some ⟨g, 0, none⟩)) (h2 : a.eval (.tmp j) = .agg #[.int .i64 k, .string s, .int .i64 n, .slice ad m c, .int .i64 f])
    (hz : FBox V g x0 x1 x2 x3 x4) (h : K (a.put o.dst undef) (((((V.setCell ⟨g, 0, none⟩ (.int .i64 k)).setCell ⟨g, 1, none⟩ (.string s)).setCell ⟨g, 2, none⟩ (.int .i64 n)).setCell ⟨g, 3, none⟩ (.slice ad m c)).setCell ⟨g, 4, none⟩ (.int .i64 f))) :
    if Region.wanted o (yielded ops a.tmps) = true then Oper.wp Try.prog o a V K Q else E := by
  have hw : Region.wanted o (yielded ops a.tmps) = true := by simp [Region.wanted, hgd]
  rw [if_pos hw]
  obtain ⟨c0, c1, c2, c3, c4, f0, f1, f2, f3, f4⟩ := hz.five
  simp only [Nat.zero_add] at c1 c2 c3 c4 f1 f2 f3 f4
  have h1' : a.tmps[i]?.getD undef = .pointer (some ⟨g, 0, none⟩) := by simpa [Act.eval] using h1
  have h2' : a.tmps[j]?.getD undef = .agg #[.int .i64 k, .string s, .int .i64 n, .slice ad m c, .int .i64 f] := by simpa [Act.eval] using h2
  clear h1 h2
  unfold Oper.wp execOp
  rw [ho]
  go_simp
  exact h
/-- Two boxes, and a world behind. -/
structure WC (w1 W : World) (fb bm : Nat) (vb vn : Value) (l : List Bn) (ga : Nat) (a : Pv) (gb : Nat) (b : Pv) (V : World) : Prop where
  way : Way w1 W fb bm vb vn l V
  one : FBox V ga (.int .i64 a.v.t.kind) (.string a.v.t.name) (.int .i64 a.v.t.n) (.slice a.v.a a.v.t.args.length a.v.c) (.int .i64 a.f)
  two : FBox V gb (.int .i64 b.v.t.kind) (.string b.v.t.name) (.int .i64 b.v.t.n) (.slice b.v.a b.v.t.args.length b.v.c) (.int .i64 b.f)
  ge1 : W.heap.size ≤ ga
  ge2 : W.heap.size ≤ gb
theorem wc_sets {w1 W V : World} {fb bm : Nat} {vb vn : Value} {l : List Bn} {ga gb : Nat} (a b : Pv) {x0 x1 x2 x3 x4 : Value} (hw : Way w1 W fb bm vb vn l V) (hr : Reads w1 W) (hlt : ∀ k, InFn fb bm vb vn k → k < W.heap.size) (h1 : FBox V ga x0 x1 x2 x3 x4) (h2 : FBox V gb x0 x1 x2 x3 x4) (hne : ga ≠ gb) (g1 : W.heap.size ≤ ga) (g2 : W.heap.size ≤ gb) {V' : World}
    (hV : V' = (((((((((((V.setCell ⟨ga, 0, none⟩ (.int .i64 a.v.t.kind)).setCell ⟨ga, 1, none⟩ (.string a.v.t.name)).setCell ⟨ga, 2, none⟩ (.int .i64 a.v.t.n)).setCell ⟨ga, 3, none⟩ (.slice a.v.a a.v.t.args.length a.v.c)).setCell ⟨ga, 4, none⟩ (.int .i64 a.f)).setCell ⟨gb, 0, none⟩ (.int .i64 b.v.t.kind)).setCell ⟨gb, 1, none⟩ (.string b.v.t.name)).setCell ⟨gb, 2, none⟩ (.int .i64 b.v.t.n)).setCell ⟨gb, 3, none⟩ (.slice b.v.a b.v.t.args.length b.v.c)).setCell ⟨gb, 4, none⟩ (.int .i64 b.f)))) : WC w1 W fb bm vb vn l ga a gb b V' := by
  subst hV
  exact ⟨(hw.set5 (k0 := fun _ => True) hr hlt g1 _ _ _ _ _ rfl).set5 (k0 := fun _ => True) hr hlt g2 _ _ _ _ _ rfl, (h1.sets _ _ _ _ _).aside hne 0 1 2 3 4 _ _ _ _ _, (h2.aside hne.symm 0 1 2 3 4 _ _ _ _ _).sets _ _ _ _ _, g1, g2⟩
theorem WC.top {w0 w w1 W V : World} {n0 fb bm : Nat} {vb vn : Value} {l : List Bn} {ga gb rb cap : Nat} {a b : Pv} {vs : List Wv} {r : Wv} (h : WC w1 W fb bm vb vn l ga a gb b V) (hP : WPile W rb cap (vs ++ [r])) (hnow : ¬ InFn fb bm vb vn rb) (hge : ∀ k, InFn fb bm vb vn k → n0 ≤ k) (hrb : n0 ≤ rb) (hbl : Blind w1 rb) (hS : Step (fun k => n0 ≤ k) w0 w w1 W)
    (a1 : Option Addr) (c1 : Nat) (ps : List Tm) (a2 : Option Addr) (c2 : Nat) (ts : List Tm) :
    WX w0 w w1 n0 fb bm vb vn l rb cap (vs ++ [⟨a1, c1, ps, a2, c2, ts, r.f1, r.f2⟩]) ga a gb b (((V.setCell ⟨rb, vs.length * 4, none⟩ (.slice a1 ps.length c1)).setCell ⟨rb, vs.length * 4 + 1, none⟩ (.slice a2 ts.length c2)).drew) := by
  have hV := h.way.step
  have hPV : WPile V rb cap (vs ++ [r]) := hP.same (hV.keep rb hP.lt (fun e => hnow (.inr (.inr (.inr e)))))
  have hl := hP.lt
  have hne : ∀ b, b ≠ rb → (((V.setCell ⟨rb, vs.length * 4, none⟩ (.slice a1 ps.length c1)).setCell ⟨rb, vs.length * 4 + 1, none⟩ (.slice a2 ts.length c2)).drew).heap[b]? = V.heap[b]? := fun b hb => by
    show ((V.setCell _ _).setCell _ _).heap[b]? = _
    rw [Below.heap_setCell _ _ _ _ hb, Below.heap_setCell _ _ _ _ hb]
  have hS2 : Step (fun k => n0 ≤ k) w0 w w1 V := hS.trans (hV.wider (fun k _ e => hge k (.inr (.inr (.inr e)))))
  refine ⟨?_, ?_, ?_, ?_, ?_⟩
  · obtain ⟨ps, h1, h2⟩ := h.way.known
    exact ⟨ps, h1.same (Reads.refl _) (fun _ _ h => h) (fun k hk => hne k (fun e => hnow (e ▸ hk))), h2⟩
  · exact hPV.put a1 c1 ps a2 c2 ts
  · exact (hne ga (by have := h.ge1; omega)).trans h.one
  · exact (hne gb (by have := h.ge2; omega)).trans h.two
  · exact ((hS2.set (p := ⟨rb, vs.length * 4, none⟩) hbl (fun _ => hrb) _).set (p := ⟨rb, vs.length * 4 + 1, none⟩) hbl (fun _ => hrb) _).below (drew_below _)

set_option maxRecDepth 100000 in
set_option maxHeartbeats 16000000 in
theorem work_any (w0 w : World) (n0 fb bm : Nat) (o : Option (List Bn)) (vb vn : Value) (r0 : Wv) (hF : FnAt w0 w fb bm vb vn [] []) (hge : ∀ k, InFn fb bm vb vn k → n0 ≤ k) (hr : Reads w0 w) (hn0 : n0 ≤ w.heap.size) (hok : r0.ok w0 []) (hU : WPu o 80 [] [r0]) :
    Calls Try.prog 39 #[.pointer (some ⟨fb, 0, none⟩), .agg #[.slice r0.a1 r0.ps.length r0.c1, .slice r0.a2 r0.ts.length r0.c2, .int .i64 r0.f1, .int .i64 r0.f2]] w (WorkPost w0 w n0 fb bm o) := by
  go_enter Try.func39, Try.ntmps39
  go_wp2_with fail
  refine wp_scope_falls 0 (WorkAt w0 w n0 fb bm o (.agg #[.slice r0.a1 r0.ps.length r0.c1, .slice r0.a2 r0.ts.length r0.c2, .int .i64 r0.f1, .int .i64 r0.f2]) (.pointer (some ⟨w.heap.size, 0, none⟩))) rfl ?_ ?_
  · clear hF hge hok hU
    rintro n a W ⟨vs, l, ps0, w1, vb, vn, m, rb, cap, k, L, rfl, rfl, hL, rfl, ⟨hF, hden, hge⟩, ⟨hP, hrb, hbl, hok⟩, hS, hU⟩
    obtain ⟨u, rfl⟩ := list_119 hL
    clear hL
    rcases snocW vs with rfl | ⟨vs, ⟨a1, c1, ps, a2, c2, ts, f1, f2⟩, rfl⟩
    · have HO := Lib.hid (show o = some l from Goes.done (bs := upB l []) hU.goes)
      have HS := Lib.hid (And.intro hF hS)
      clear hF hden hge hP hrb hbl hok hS hU
      go_wp2_with fail
      simp only [Exit.jump]
      go_ret
      refine ⟨by rw [HO.out]; rfl, w1, HS.out.2, fun m hm => ?_⟩
      rw [HO.out] at hm
      obtain rfl := Option.some.inj hm
      exact ⟨vb, vn, ps0, HS.out.1⟩
    · have hfew := hU.deep.few
      rw [List.length_append, List.length_singleton] at hfew
      obtain ⟨hlen, hA1, hA2, hf1, hf2, hp1, hp2⟩ := hok _ (List.mem_append_right _ (List.mem_singleton_self _))
      simp only at hlen hA1 hA2 hf1 hf2 hp1 hp2
      have hT := hP.top
      have hrl := hP.lt
      have hap := hP.apart hF
      have HOV := Lib.hid (fun q (hq : q ∈ vs) => hok q (List.mem_append_left _ hq))
      have HK := Lib.hid (And.intro hF (And.intro hden hge))
      have HP := Lib.hid hP
      have HRB := Lib.hid (And.intro hrb (And.intro hbl hap))
      have HS := Lib.hid hS
      have HU := Lib.hid hU
      simp only [List.length_append, List.length_singleton]
      obtain ⟨q, hq⟩ : ∃ q, vs.length = q := ⟨_, rfl⟩
      have hqc : q + 1 ≤ cap := by
        obtain ⟨_, _, h, _⟩ := hP
        rw [List.length_append, List.length_singleton, hq] at h; exact h
      rw [hq] at hT hfew ⊢
      have HQ := Lib.hid hq
      have hqi : IntKind.i64.wrap (((q + 1 : Nat) : Int) - 1) = (q : Int) := by rw [IntKind.wrap_i64]; omega
      have he0 : (((q : Nat) : Int) + 1 == 0) = false := by rw [beq_eq_false_iff_ne]; omega
      have hqc' : q ≤ cap := by omega
      clear hq hok hF hden hge hP hrb hbl hap hS hU
      obtain ⟨t0, t1, t2, t3, g0, g1⟩ := hT
      simp only at t0 t1 t2 t3
      cases ps with
      | nil =>
        obtain rfl : ts = [] := by cases ts with | nil => rfl | cons => simp at hlen
        have HE := Lib.hid (wpu_pop HU.out rfl rfl q)
        clear hlen hA1 hA2
        go_wp2_with fail
        go_step3
        obtain rfl := HQ.out
        exact ⟨rfl, _, HE.out.2, ⟨vs, l, ps0, w1, vb, vn, m, rb, cap, vs.length, _, rfl, rfl, rfl, rfl, HK.out, ⟨HP.out.pop, HRB.out.1, HRB.out.2.1, HOV.out⟩, HS.out, HE.out.1⟩⟩
      | cons p ps =>
        obtain ⟨t, ts', rfl⟩ : ∃ t ts', ts = t :: ts' := by cases ts with | nil => simp at hlen | cons t ts' => exact ⟨t, ts', rfl⟩
        obtain ⟨b1, o1, rfl, hlt1, hat1⟩ := hA1.2.resolve_left (by simp)
        obtain ⟨b2, o2, rfl, hlt2, hat2⟩ := hA2.2.resolve_left (by simp)
        rw [RowAt] at hat1 hat2
        obtain ⟨⟨xt, xa, xc⟩, hxt, hxo, hxv⟩ := tmAt_tv hat1.1
        obtain ⟨⟨yt, ya, yc⟩, hyt, hyo, hyv⟩ := tmAt_tv hat2.1
        obtain rfl : xt = p := hxt
        obtain rfl : yt = t := hyt
        have HT1 := Lib.hid (args_tail hA1)
        have HT2 := Lib.hid (args_tail hA2)
        have HLEN := Lib.hid (show ps.length = ts'.length by simpa using hlen)
        have hnd := HU.out.st.nodup
        have hlm : l.length ≤ 80 := by have := HU.out.st.few; omega
        have hsnd : Sound l := HU.out.st.sound (by omega)
        have RW := Lib.hid HS.out.on
        have HLT := Lib.hid (fun k (hk : InFn fb bm vb vn k) => HK.out.1.lt hk)
        have NOW := Lib.hid (fun (g : Nat) (hg : W.heap.size ≤ g) (e : InNow vn g) => (show False from by have := HLT.out g (.inr (.inr (.inr e))); omega))
        have HXV := Lib.hid (And.intro hxv hyv)
        have HTP := Lib.hid (show Four W rb (q * 4) (.slice (some ⟨b1, o1, none⟩) (ps.length + 1) c1) (.slice (some ⟨b2, o2, none⟩) (ts'.length + 1) c2) (.int .i64 f1) (.int .i64 f2) from ⟨t0, t1, t2, t3, g0, g1⟩)
        have KEEP := Lib.hid (fun (V : World) (h : Way w1 W fb bm vb vn l V) => (show (V.cell? ⟨rb, q * 4, none⟩ = some (.slice (some ⟨b1, o1, none⟩) (ps.length + 1) c1) ∧ V.cell? ⟨rb, q * 4 + 1, none⟩ = some (.slice (some ⟨b2, o2, none⟩) (ts'.length + 1) c2) ∧ V.cell? ⟨rb, q * 4 + 2, none⟩ = some (.int .i64 f1) ∧ V.cell? ⟨rb, q * 4 + 3, none⟩ = some (.int .i64 f2)) ∧ (V.cell? ⟨b1, o1, none⟩ = some (.int .i64 xt.kind) ∧ V.cell? ⟨b1, o1 + 1, none⟩ = some (.string xt.name) ∧ V.cell? ⟨b1, o1 + 2, none⟩ = some (.int .i64 xt.n) ∧ V.cell? ⟨b1, o1 + 3, none⟩ = some (.slice xa xt.args.length xc)) ∧ (V.cell? ⟨b2, o2, none⟩ = some (.int .i64 yt.kind) ∧ V.cell? ⟨b2, o2 + 1, none⟩ = some (.string yt.name) ∧ V.cell? ⟨b2, o2 + 2, none⟩ = some (.int .i64 yt.n) ∧ V.cell? ⟨b2, o2 + 3, none⟩ = some (.slice ya yt.args.length yc)) from by
          have k := HTP.out.same (h.step.keep rb hrl (fun e => HRB.out.2.2 (.inr (.inr (.inr e)))))
          have r := h.step.on
          exact ⟨⟨k.c0, k.c1, k.c2, k.c3⟩, ⟨r.cell _ _ HXV.out.1.c0, r.cell _ _ HXV.out.1.c1, r.cell _ _ HXV.out.1.c2, r.cell _ _ HXV.out.1.c3⟩, ⟨r.cell _ _ HXV.out.2.c0, r.cell _ _ HXV.out.2.c1, r.cell _ _ HXV.out.2.c2, r.cell _ _ HXV.out.2.c3⟩⟩))
        have W0 := Lib.hid (show Way w1 W fb bm vb vn l W from ⟨⟨ps0, HK.out.1, HK.out.2.1⟩, Step.refl HS.out.on⟩)
        have WR := Lib.hid W0.out.drew
        have WA := Lib.hid (fun (V : World) (o : Obj) (h : Way w1 W fb bm vb vn l V) => h.alloc o)
        have WD := Lib.hid (fun (V : World) (h : Way w1 W fb bm vb vn l V) => h.drew)
        have RA := Lib.hid (fun (V : World) (h : Way w1 W fb bm vb vn l V) => (show Calls Try.prog 53 #[.pointer (some ⟨fb, 0, none⟩), .agg #[.int .i64 xt.kind, .string xt.name, .int .i64 xt.n, .slice xa xt.args.length xc, .int .i64 f1]] V fun e w' => ∃ (tq : Tm) (aq : Option Addr) (cq fq : Nat), e = Ending.returned (.agg #[.int .i64 tq.kind, .string tq.name, .int .i64 tq.n, .slice aq tq.args.length cq, .int .i64 fq]) ∧ (Rooted l ⟨xt, f1⟩ ⟨tq, fq⟩ ∧ Tv.ok w1 ⟨tq, aq, cq⟩) ∧ Way w1 W fb bm vb vn l w' ∧ Step (InNow vn) w1 V w1 w' from by
          obtain ⟨ps', h1, h2⟩ := h.known
          exact (root_any w1 fb bm vb vn l hnd (by omega) (l.length - f1) ⟨⟨xt, xa, xc⟩, f1⟩ ps' V (Nat.le_refl _) hf1 hp1.head hxo h.step.on h1 h2).mono fun e w' ⟨q, ps'', g1, g2, g3, g4, g5, g6⟩ => ⟨q.v.t, q.v.a, q.v.c, q.f, g1, ⟨g2, g3⟩, h.call g4 g5 g6, g6⟩))
        have RB := Lib.hid (fun (V : World) (h : Way w1 W fb bm vb vn l V) => (show Calls Try.prog 53 #[.pointer (some ⟨fb, 0, none⟩), .agg #[.int .i64 yt.kind, .string yt.name, .int .i64 yt.n, .slice ya yt.args.length yc, .int .i64 f2]] V fun e w' => ∃ (tq : Tm) (aq : Option Addr) (cq fq : Nat), e = Ending.returned (.agg #[.int .i64 tq.kind, .string tq.name, .int .i64 tq.n, .slice aq tq.args.length cq, .int .i64 fq]) ∧ (Rooted l ⟨yt, f2⟩ ⟨tq, fq⟩ ∧ Tv.ok w1 ⟨tq, aq, cq⟩) ∧ Way w1 W fb bm vb vn l w' ∧ Step (InNow vn) w1 V w1 w' from by
          obtain ⟨ps', h1, h2⟩ := h.known
          exact (root_any w1 fb bm vb vn l hnd (by omega) (l.length - f2) ⟨⟨yt, ya, yc⟩, f2⟩ ps' V (Nat.le_refl _) hf2 hp2.head hyo h.step.on h1 h2).mono fun e w' ⟨q, ps'', g1, g2, g3, g4, g5, g6⟩ => ⟨q.v.t, q.v.a, q.v.c, q.f, g1, ⟨g2, g3⟩, h.call g4 g5 g6, g6⟩))
        have HPT := Lib.hid (And.intro hp1 hp2)
        have HSND := Lib.hid hsnd
        simp only [List.length_cons] at t0 t1
        have hl1 : (((ps.length : Nat) : Int) + 1 == 0) = false := by rw [beq_eq_false_iff_ne]; omega
        clear hlen hA1 hA2 hat1 hat2 hxv hyv hxo hyo hlt1 hlt2 hp1 hp2 hsnd hnd t1 t2 t3 g0 g1
        go_upto_region 7 with fail
        clear t0
        go_cut [7, 8] (fun s7 s8 wc => ∃ (ga gb : Nat) (a b : Pv), s7 = .pointer (some ⟨ga, 0, none⟩) ∧ s8 = .pointer (some ⟨gb, 0, none⟩) ∧ Hid (WC w1 W fb bm vb vn l ga a gb b wc ∧ (Rooted l ⟨xt, f1⟩ a.pt ∧ a.v.ok w1) ∧ (Rooted l ⟨yt, f2⟩ b.pt ∧ b.v.ok w1)))
        case first => as_aux_lemma =>
          clear hl1 hqi he0
          refine wp_region_held_drew (S := fun V => (V.cell? ⟨rb, q * 4, none⟩ = some (.slice (some ⟨b1, o1, none⟩) (ps.length + 1) c1) ∧ V.cell? ⟨rb, q * 4 + 1, none⟩ = some (.slice (some ⟨b2, o2, none⟩) (ts'.length + 1) c2) ∧ V.cell? ⟨rb, q * 4 + 2, none⟩ = some (.int .i64 f1) ∧ V.cell? ⟨rb, q * 4 + 3, none⟩ = some (.int .i64 f2)) ∧ (V.cell? ⟨b1, o1, none⟩ = some (.int .i64 xt.kind) ∧ V.cell? ⟨b1, o1 + 1, none⟩ = some (.string xt.name) ∧ V.cell? ⟨b1, o1 + 2, none⟩ = some (.int .i64 xt.n) ∧ V.cell? ⟨b1, o1 + 3, none⟩ = some (.slice xa xt.args.length xc)) ∧ (V.cell? ⟨b2, o2, none⟩ = some (.int .i64 yt.kind) ∧ V.cell? ⟨b2, o2 + 1, none⟩ = some (.string yt.name) ∧ V.cell? ⟨b2, o2 + 2, none⟩ = some (.int .i64 yt.n) ∧ V.cell? ⟨b2, o2 + 3, none⟩ = some (.slice ya yt.args.length yc))) (by kernel_rfl) (KEEP.out _ WR.out) (fun hHeld => ?_)
          refine wpAnyH_take (i := 0) (oi := ?oi1) (v := ?v1) ?hi1 (by kernel_rfl) (by kernel_rfl) (by kernel_rfl) ?hp1 (Or.inl ⟨?hg1, ?hy1⟩) (by assumption) ?rest1
          case hi1 => (simp only [List.getElem?_toArray, List.getElem?_cons_zero]; rfl)
          case hp1 => exact fun _ _ _ h => h
          case hg1 => rfl
          case hy1 => (intro w hSw; (try dsimp only at hSw); go_simp; (try with_reducible rfl))
          try simp only [Act.put, List.setIfInBounds_toArray, List.set_cons_zero, List.set_cons_succ]
          refine wpAnyH_take (i := 1) (oi := ?oi2) (v := ?v2) ?hi2 (by kernel_rfl) (by kernel_rfl) (by kernel_rfl) ?hp2 (Or.inl ⟨?hg2, ?hy2⟩) (by assumption) ?rest2
          case hi2 => (simp only [List.getElem?_toArray, List.getElem?_cons_succ, List.getElem?_cons_zero]; rfl)
          case hp2 => exact fun _ _ _ h => h
          case hg2 => rfl
          case hy2 => (intro w hSw; (try dsimp only at hSw); go_simp; (try with_reducible rfl))
          try simp only [Act.put, List.setIfInBounds_toArray, List.set_cons_zero, List.set_cons_succ]
          refine wpAnyH_take (i := 2) (oi := ?oi3) (v := ?v3) ?hi3 (by kernel_rfl) (by kernel_rfl) (by kernel_rfl) ?hp3 (Or.inl ⟨?hg3, ?hy3⟩) (by assumption) ?rest3
          case hi3 => (simp only [List.getElem?_toArray, List.getElem?_cons_succ, List.getElem?_cons_zero]; rfl)
          case hp3 => exact fun _ _ _ h => h
          case hg3 => rfl
          case hy3 => (intro w hSw; (try dsimp only at hSw); go_simp; (try with_reducible rfl))
          try simp only [Act.put, List.setIfInBounds_toArray, List.set_cons_zero, List.set_cons_succ]
          refine wpAnyH_take (i := 3) (oi := ?oi4) (v := ?v4) ?hi4 (by kernel_rfl) (by kernel_rfl) (by kernel_rfl) ?hp4 (Or.inl ⟨?hg4, ?hy4⟩) (by assumption) ?rest4
          case hi4 => (simp only [List.getElem?_toArray, List.getElem?_cons_succ, List.getElem?_cons_zero]; rfl)
          case hp4 => exact fun _ _ _ h => h
          case hg4 => rfl
          case hy4 => (intro w hSw; (try dsimp only at hSw); go_simp; (try with_reducible rfl))
          try simp only [Act.put, List.setIfInBounds_toArray, List.set_cons_zero, List.set_cons_succ]
          refine wpAnyH_take (i := 4) (oi := ?oi5) (v := ?v5) ?hi5 (by kernel_rfl) (by kernel_rfl) (by kernel_rfl) ?hp5 (Or.inl ⟨?hg5, ?hy5⟩) (by assumption) ?rest5
          case hi5 => (simp only [List.getElem?_toArray, List.getElem?_cons_succ, List.getElem?_cons_zero]; rfl)
          case hp5 => exact fun _ _ _ h => h
          case hg5 => rfl
          case hy5 => (intro w hSw; (try dsimp only at hSw); go_simp; (try with_reducible rfl))
          try simp only [Act.put, List.setIfInBounds_toArray, List.set_cons_zero, List.set_cons_succ]
          refine wpAnyH_take (i := 5) (oi := ?oi6) (v := ?v6) ?hi6 (by kernel_rfl) (by kernel_rfl) (by kernel_rfl) ?hp6 (Or.inl ⟨?hg6, ?hy6⟩) (by assumption) ?rest6
          case hi6 => (simp only [List.getElem?_toArray, List.getElem?_cons_succ, List.getElem?_cons_zero]; rfl)
          case hp6 => exact fun _ _ _ h => h
          case hg6 => rfl
          case hy6 => (intro w hSw; (try dsimp only at hSw); go_simp; (try with_reducible rfl))
          try simp only [Act.put, List.setIfInBounds_toArray, List.set_cons_zero, List.set_cons_succ]
          refine wpAnyH_take (i := 6) (oi := ?oi7) (v := ?v7) ?hi7 (by kernel_rfl) (by kernel_rfl) (by kernel_rfl) ?hp7 (Or.inl ⟨?hg7, ?hy7⟩) (by assumption) ?rest7
          case hi7 => (simp only [List.getElem?_toArray, List.getElem?_cons_succ, List.getElem?_cons_zero]; rfl)
          case hp7 => exact fun _ _ _ h => h
          case hg7 => rfl
          case hy7 => (intro w hSw; (try dsimp only at hSw); go_simp; (try with_reducible rfl))
          try simp only [Act.put, List.setIfInBounds_toArray, List.set_cons_zero, List.set_cons_succ]
          refine wpAnyH_take (i := 7) (oi := ?oi8) (v := ?v8) ?hi8 (by kernel_rfl) (by kernel_rfl) (by kernel_rfl) ?hp8 (Or.inl ⟨?hg8, ?hy8⟩) (by assumption) ?rest8
          case hi8 => (simp only [List.getElem?_toArray, List.getElem?_cons_succ, List.getElem?_cons_zero]; rfl)
          case hp8 => exact fun _ _ _ h => h
          case hg8 => rfl
          case hy8 => (intro w hSw; (try dsimp only at hSw); go_simp; (try with_reducible rfl))
          try simp only [Act.put, List.setIfInBounds_toArray, List.set_cons_zero, List.set_cons_succ]
          refine wpAnyH_take (i := 8) (oi := ?oi9) (v := ?v9) ?hi9 (by kernel_rfl) (by kernel_rfl) (by kernel_rfl) ?hp9 (Or.inl ⟨?hg9, ?hy9⟩) (by assumption) ?rest9
          case hi9 => (simp only [List.getElem?_toArray, List.getElem?_cons_succ, List.getElem?_cons_zero]; rfl)
          case hp9 => exact fun _ _ _ h => h
          case hg9 => rfl
          case hy9 => (intro w hSw; (try dsimp only at hSw); go_simp; (try with_reducible rfl))
          try simp only [Act.put, List.setIfInBounds_toArray, List.set_cons_zero, List.set_cons_succ]
          refine wpAnyH_take (i := 9) (oi := ?oi10) (v := ?v10) ?hi10 (by kernel_rfl) (by kernel_rfl) (by kernel_rfl) ?hp10 (Or.inl ⟨?hg10, ?hy10⟩) (by assumption) ?rest10
          case hi10 => (simp only [List.getElem?_toArray, List.getElem?_cons_succ, List.getElem?_cons_zero]; rfl)
          case hp10 => exact fun _ _ _ h => h
          case hg10 => rfl
          case hy10 => (intro w hSw; (try dsimp only at hSw); go_simp; (try with_reducible rfl))
          try simp only [Act.put, List.setIfInBounds_toArray, List.set_cons_zero, List.set_cons_succ]
          refine wpAnyH_take (i := 10) (oi := ?oi11) (v := ?v11) ?hi11 (by kernel_rfl) (by kernel_rfl) (by kernel_rfl) ?hp11 (Or.inl ⟨?hg11, ?hy11⟩) (by assumption) ?rest11
          case hi11 => (simp only [List.getElem?_toArray, List.getElem?_cons_succ, List.getElem?_cons_zero]; rfl)
          case hp11 => exact fun _ _ _ h => h
          case hg11 => rfl
          case hy11 => (intro w hSw; (try dsimp only at hSw); go_simp; (try with_reducible rfl))
          try simp only [Act.put, List.setIfInBounds_toArray, List.set_cons_zero, List.set_cons_succ]
          refine wpAnyH_take (i := 11) (oi := ?oi12) (v := ?v12) ?hi12 (by kernel_rfl) (by kernel_rfl) (by kernel_rfl) ?hp12 (Or.inl ⟨?hg12, ?hy12⟩) (by assumption) ?rest12
          case hi12 => (simp only [List.getElem?_toArray, List.getElem?_cons_succ, List.getElem?_cons_zero]; rfl)
          case hp12 => exact fun _ _ _ h => h
          case hg12 => rfl
          case hy12 => (intro w _; refine Eq.trans (build_part (i := 36) (j := 40) rfl (by rfl) (by rfl) w) ?_; with_reducible rfl)
          try simp only [Act.put, List.setIfInBounds_toArray, List.set_cons_zero, List.set_cons_succ]
          refine wpAnyH_take (i := 13) (oi := ?oi13) (v := ?v13) ?hi13 (by kernel_rfl) (by kernel_rfl) (by kernel_rfl) ?hp13 (Or.inl ⟨?hg13, ?hy13⟩) (by assumption) ?rest13
          case hi13 => (simp only [List.getElem?_toArray, List.getElem?_cons_succ, List.getElem?_cons_zero]; rfl)
          case hp13 => exact fun _ _ _ h => h
          case hg13 => rfl
          case hy13 => (intro w hSw; (try dsimp only at hSw); go_simp; (try with_reducible rfl))
          try simp only [Act.put, List.setIfInBounds_toArray, List.set_cons_zero, List.set_cons_succ]
          refine wpAnyH_take (i := 14) (oi := ?oi14) (v := ?v14) ?hi14 (by kernel_rfl) (by kernel_rfl) (by kernel_rfl) ?hp14 (Or.inl ⟨?hg14, ?hy14⟩) (by assumption) ?rest14
          case hi14 => (simp only [List.getElem?_toArray, List.getElem?_cons_succ, List.getElem?_cons_zero]; rfl)
          case hp14 => exact fun _ _ _ h => h
          case hg14 => rfl
          case hy14 => (intro w hSw; (try dsimp only at hSw); go_simp; (try with_reducible rfl))
          try simp only [Act.put, List.setIfInBounds_toArray, List.set_cons_zero, List.set_cons_succ]
          refine wpAnyH_take (i := 15) (oi := ?oi15) (v := ?v15) ?hi15 (by kernel_rfl) (by kernel_rfl) (by kernel_rfl) ?hp15 (Or.inl ⟨?hg15, ?hy15⟩) (by assumption) ?rest15
          case hi15 => (simp only [List.getElem?_toArray, List.getElem?_cons_succ, List.getElem?_cons_zero]; rfl)
          case hp15 => exact fun _ _ _ h => h
          case hg15 => rfl
          case hy15 => (intro w hSw; (try dsimp only at hSw); go_simp; (try with_reducible rfl))
          try simp only [Act.put, List.setIfInBounds_toArray, List.set_cons_zero, List.set_cons_succ]
          refine wpAnyH_take (i := 16) (oi := ?oi16) (v := ?v16) ?hi16 (by kernel_rfl) (by kernel_rfl) (by kernel_rfl) ?hp16 (Or.inl ⟨?hg16, ?hy16⟩) (by assumption) ?rest16
          case hi16 => (simp only [List.getElem?_toArray, List.getElem?_cons_succ, List.getElem?_cons_zero]; rfl)
          case hp16 => exact fun _ _ _ h => h
          case hg16 => rfl
          case hy16 => (intro w hSw; (try dsimp only at hSw); go_simp; (try with_reducible rfl))
          try simp only [Act.put, List.setIfInBounds_toArray, List.set_cons_zero, List.set_cons_succ]
          refine wpAnyH_take (i := 17) (oi := ?oi17) (v := ?v17) ?hi17 (by kernel_rfl) (by kernel_rfl) (by kernel_rfl) ?hp17 (Or.inl ⟨?hg17, ?hy17⟩) (by assumption) ?rest17
          case hi17 => (simp only [List.getElem?_toArray, List.getElem?_cons_succ, List.getElem?_cons_zero]; rfl)
          case hp17 => exact fun _ _ _ h => h
          case hg17 => rfl
          case hy17 => (intro w hSw; (try dsimp only at hSw); go_simp; (try with_reducible rfl))
          try simp only [Act.put, List.setIfInBounds_toArray, List.set_cons_zero, List.set_cons_succ]
          refine wpAnyH_take (i := 18) (oi := ?oi18) (v := ?v18) ?hi18 (by kernel_rfl) (by kernel_rfl) (by kernel_rfl) ?hp18 (Or.inl ⟨?hg18, ?hy18⟩) (by assumption) ?rest18
          case hi18 => (simp only [List.getElem?_toArray, List.getElem?_cons_succ, List.getElem?_cons_zero]; rfl)
          case hp18 => exact fun _ _ _ h => h
          case hg18 => rfl
          case hy18 => (intro w hSw; (try dsimp only at hSw); go_simp; (try with_reducible rfl))
          try simp only [Act.put, List.setIfInBounds_toArray, List.set_cons_zero, List.set_cons_succ]
          refine wpAnyH_take (i := 19) (oi := ?oi19) (v := ?v19) ?hi19 (by kernel_rfl) (by kernel_rfl) (by kernel_rfl) ?hp19 (Or.inl ⟨?hg19, ?hy19⟩) (by assumption) ?rest19
          case hi19 => (simp only [List.getElem?_toArray, List.getElem?_cons_succ, List.getElem?_cons_zero]; rfl)
          case hp19 => exact fun _ _ _ h => h
          case hg19 => rfl
          case hy19 => (intro w hSw; (try dsimp only at hSw); go_simp; (try with_reducible rfl))
          try simp only [Act.put, List.setIfInBounds_toArray, List.set_cons_zero, List.set_cons_succ]
          refine wpAnyH_take (i := 20) (oi := ?oi20) (v := ?v20) ?hi20 (by kernel_rfl) (by kernel_rfl) (by kernel_rfl) ?hp20 (Or.inl ⟨?hg20, ?hy20⟩) (by assumption) ?rest20
          case hi20 => (simp only [List.getElem?_toArray, List.getElem?_cons_succ, List.getElem?_cons_zero]; rfl)
          case hp20 => exact fun _ _ _ h => h
          case hg20 => rfl
          case hy20 => (intro w hSw; (try dsimp only at hSw); go_simp; (try with_reducible rfl))
          try simp only [Act.put, List.setIfInBounds_toArray, List.set_cons_zero, List.set_cons_succ]
          refine wpAnyH_take (i := 21) (oi := ?oi21) (v := ?v21) ?hi21 (by kernel_rfl) (by kernel_rfl) (by kernel_rfl) ?hp21 (Or.inl ⟨?hg21, ?hy21⟩) (by assumption) ?rest21
          case hi21 => (simp only [List.getElem?_toArray, List.getElem?_cons_succ, List.getElem?_cons_zero]; rfl)
          case hp21 => exact fun _ _ _ h => h
          case hg21 => rfl
          case hy21 => (intro w hSw; (try dsimp only at hSw); go_simp; (try with_reducible rfl))
          try simp only [Act.put, List.setIfInBounds_toArray, List.set_cons_zero, List.set_cons_succ]
          refine wpAnyH_take (i := 22) (oi := ?oi22) (v := ?v22) ?hi22 (by kernel_rfl) (by kernel_rfl) (by kernel_rfl) ?hp22 (Or.inl ⟨?hg22, ?hy22⟩) (by assumption) ?rest22
          case hi22 => (simp only [List.getElem?_toArray, List.getElem?_cons_succ, List.getElem?_cons_zero]; rfl)
          case hp22 => exact fun _ _ _ h => h
          case hg22 => rfl
          case hy22 => (intro w hSw; (try dsimp only at hSw); go_simp; (try with_reducible rfl))
          try simp only [Act.put, List.setIfInBounds_toArray, List.set_cons_zero, List.set_cons_succ]
          refine wpAnyH_take (i := 23) (oi := ?oi23) (v := ?v23) ?hi23 (by kernel_rfl) (by kernel_rfl) (by kernel_rfl) ?hp23 (Or.inl ⟨?hg23, ?hy23⟩) (by assumption) ?rest23
          case hi23 => (simp only [List.getElem?_toArray, List.getElem?_cons_succ, List.getElem?_cons_zero]; rfl)
          case hp23 => exact fun _ _ _ h => h
          case hg23 => rfl
          case hy23 => (intro w hSw; (try dsimp only at hSw); go_simp; (try with_reducible rfl))
          try simp only [Act.put, List.setIfInBounds_toArray, List.set_cons_zero, List.set_cons_succ]
          refine wpAnyH_take (i := 24) (oi := ?oi24) (v := ?v24) ?hi24 (by kernel_rfl) (by kernel_rfl) (by kernel_rfl) ?hp24 (Or.inl ⟨?hg24, ?hy24⟩) (by assumption) ?rest24
          case hi24 => (simp only [List.getElem?_toArray, List.getElem?_cons_succ, List.getElem?_cons_zero]; rfl)
          case hp24 => exact fun _ _ _ h => h
          case hg24 => rfl
          case hy24 => (intro w _; refine Eq.trans (build_part (i := 49) (j := 53) rfl (by rfl) (by rfl) w) ?_; with_reducible rfl)
          try simp only [Act.put, List.setIfInBounds_toArray, List.set_cons_zero, List.set_cons_succ]
          have hw0 := WR.out
          have hx0 := W0.out
          refine wpAnyH_ready (rs := [12, 26, 27]) (by kernel_rfl) (by simp) ?_
          refine AllReadyH.cons (o := ?o27) ?ho27 (fun K hK => ?st27) (AllReadyH.cons (o := ?o26) ?ho26 (fun K hK => ?st26) (AllReadyH.cons (o := ?o25) ?ho25 (fun K hK => ?st25) AllReadyH.nil))
          case ho27 => (simp only [List.getElem?_toArray, List.getElem?_cons_succ, List.getElem?_cons_zero]; rfl)
          case ho26 => (simp only [List.getElem?_toArray, List.getElem?_cons_succ, List.getElem?_cons_zero]; rfl)
          case ho25 => (simp only [List.getElem?_toArray, List.getElem?_cons_succ, List.getElem?_cons_zero]; rfl)
          case st27 =>
            go_simp
            go_at_call 53
            refine (RA.out _ hw0).mono ?_; rintro e V1 ⟨ta, aa, ca, fa, rfl, hR12, hw1, hs1⟩
            have HR12 := Lib.hid hR12
            have hl1 : W.heap.size ≤ V1.heap.size := hw1.step.size
            clear hs1 hR12
            clear hHeld
            refine hK.out _ _ ?_ (fun hHeld => ?_)
            · exact KEEP.out _ hw1
            clear hK K
            try simp only [Act.put, List.setIfInBounds_toArray, List.set_cons_zero, List.set_cons_succ]
            refine wpAnyH_ready (rs := [25, 26, 27]) (by kernel_rfl) (by simp) ?_
            refine AllReadyH.cons (o := ?o30) ?ho30 (fun K hK => ?st30) (AllReadyH.cons (o := ?o29) ?ho29 (fun K hK => ?st29) (AllReadyH.cons (o := ?o28) ?ho28 (fun K hK => ?st28) AllReadyH.nil))
            case ho30 => (simp only [List.getElem?_toArray, List.getElem?_cons_succ, List.getElem?_cons_zero]; rfl)
            case ho29 => (simp only [List.getElem?_toArray, List.getElem?_cons_succ, List.getElem?_cons_zero]; rfl)
            case ho28 => (simp only [List.getElem?_toArray, List.getElem?_cons_succ, List.getElem?_cons_zero]; rfl)
            case st30 =>
              go_simp
              go_at_call 53
              refine (RB.out _ hw1).mono ?_; rintro e V2 ⟨tb, ab, cb, fb', rfl, hR25, hw2, hs2⟩
              have HR25 := Lib.hid hR25
              have hl2 : W.heap.size ≤ V2.heap.size := hw2.step.size
              clear hs2 hR25
              clear hHeld
              refine hK.out _ _ ?_ (fun hHeld => ?_)
              · exact KEEP.out _ hw2
              clear hK K
              try simp only [Act.put, List.setIfInBounds_toArray, List.set_cons_zero, List.set_cons_succ]
              refine wpAnyH_ready (rs := [26, 27]) (by kernel_rfl) (by simp) ?_
              refine AllReadyH.cons (o := ?o32) ?ho32 (fun K hK => ?st32) (AllReadyH.cons (o := ?o31) ?ho31 (fun K hK => ?st31) AllReadyH.nil)
              case ho32 => (simp only [List.getElem?_toArray, List.getElem?_cons_succ, List.getElem?_cons_zero]; rfl)
              case ho31 => (simp only [List.getElem?_toArray, List.getElem?_cons_succ, List.getElem?_cons_zero]; rfl)
              case st32 =>
                have hw3 : Way w1 W fb bm vb vn l ((V2.alloc (.cells #[.int .i64 0, .string ⟨#[]⟩, .int .i64 0, .slice none 0 0, .int .i64 0] 83))) := (WA.out _ _ hw2)
                have hz3_26 : FBox ((V2.alloc (.cells #[.int .i64 0, .string ⟨#[]⟩, .int .i64 0, .slice none 0 0, .int .i64 0] 83))) (V2.heap.size) (.int .i64 0) (.string ⟨#[]⟩) (.int .i64 0) (.slice none 0 0) (.int .i64 0) := by have h := fbox_new (V2) (.int .i64 0) (.string ⟨#[]⟩) (.int .i64 0) (.slice none 0 0) (.int .i64 0); exact h
                have hg26 : W.heap.size ≤ V2.heap.size := by omega
                go_simp
                clear hHeld
                refine hK.out _ _ ?_ (fun hHeld => ?_)
                · exact KEEP.out _ hw3
                clear hK K
                try simp only [Act.put, List.setIfInBounds_toArray, List.set_cons_zero, List.set_cons_succ]
                refine wpAnyH_ready (rs := [27]) (by kernel_rfl) (by simp) ?_
                refine AllReadyH.cons (o := ?o33) ?ho33 (fun K hK => ?st33) AllReadyH.nil
                case ho33 => (simp only [List.getElem?_toArray, List.getElem?_cons_succ, List.getElem?_cons_zero]; rfl)
                case st33 =>
                  have hw4 : Way w1 W fb bm vb vn l (((V2.alloc (.cells #[.int .i64 0, .string ⟨#[]⟩, .int .i64 0, .slice none 0 0, .int .i64 0] 83)).alloc (.cells #[.int .i64 0, .string ⟨#[]⟩, .int .i64 0, .slice none 0 0, .int .i64 0] 83))) := (WA.out _ _ hw3)
                  have hz4_26 : FBox (((V2.alloc (.cells #[.int .i64 0, .string ⟨#[]⟩, .int .i64 0, .slice none 0 0, .int .i64 0] 83)).alloc (.cells #[.int .i64 0, .string ⟨#[]⟩, .int .i64 0, .slice none 0 0, .int .i64 0] 83))) (V2.heap.size) (.int .i64 0) (.string ⟨#[]⟩) (.int .i64 0) (.slice none 0 0) (.int .i64 0) := hz3_26.alloc _
                  have hz4_27 : FBox (((V2.alloc (.cells #[.int .i64 0, .string ⟨#[]⟩, .int .i64 0, .slice none 0 0, .int .i64 0] 83)).alloc (.cells #[.int .i64 0, .string ⟨#[]⟩, .int .i64 0, .slice none 0 0, .int .i64 0] 83))) (V2.heap.size + 1) (.int .i64 0) (.string ⟨#[]⟩) (.int .i64 0) (.slice none 0 0) (.int .i64 0) := by have h := fbox_new ((V2.alloc (.cells #[.int .i64 0, .string ⟨#[]⟩, .int .i64 0, .slice none 0 0, .int .i64 0] 83))) (.int .i64 0) (.string ⟨#[]⟩) (.int .i64 0) (.slice none 0 0) (.int .i64 0); rw [show ((V2.alloc (.cells #[.int .i64 0, .string ⟨#[]⟩, .int .i64 0, .slice none 0 0, .int .i64 0] 83))).heap.size = V2.heap.size + 1 from by simp] at h; exact h
                  have hg27 : W.heap.size ≤ V2.heap.size + 1 := by omega
                  go_simp
                  clear hHeld
                  refine hK.out _ _ ?_ (fun hHeld => ?_)
                  · exact KEEP.out _ hw4
                  clear hK K
                  try simp only [Act.put, List.setIfInBounds_toArray, List.set_cons_zero, List.set_cons_succ]
                  have hne : (V2.heap.size) ≠ (V2.heap.size + 1) := by omega
                  have hne' : (V2.heap.size + 1) ≠ (V2.heap.size) := by omega
                  obtain ⟨Vf, hVf⟩ : ∃ Vf, Vf = ((V2.alloc (.cells #[.int .i64 0, .string ⟨#[]⟩, .int .i64 0, .slice none 0 0, .int .i64 0] 83)).alloc (.cells #[.int .i64 0, .string ⟨#[]⟩, .int .i64 0, .slice none 0 0, .int .i64 0] 83)) := ⟨_, rfl⟩
                  rw [← hVf] at hw4 hz4_26 hz4_27 hHeld ⊢
                  have HWF := Lib.hid hw4
                  have HZA := Lib.hid hz4_26
                  have HZB := Lib.hid hz4_27
                  clear hVf
                  have HW1 := Lib.hid (HWF.out.set5 (k0 := fun _ => True) RW.out HLT.out hg26 (.int .i64 ta.kind) (.string ta.name) (.int .i64 ta.n) (.slice aa ta.args.length ca) (.int .i64 fa) rfl)
                  have HW2 := Lib.hid (HW1.out.set5 (k0 := fun _ => True) RW.out HLT.out hg27 (.int .i64 tb.kind) (.string tb.name) (.int .i64 tb.n) (.slice ab tb.args.length cb) (.int .i64 fb') rfl)
                  have HZB2 := Lib.hid (HZB.out.aside hne' 0 1 2 3 4 (.int .i64 ta.kind) (.string ta.name) (.int .i64 ta.n) (.slice aa ta.args.length ca) (.int .i64 fa))
                  refine wpAnyH_ready (rs := [28]) (by kernel_rfl) (by simp) ?_
                  refine AllReadyH.cons (o := ?o34) ?ho34 (fun K hK => ?st34) AllReadyH.nil
                  case ho34 => (simp only [List.getElem?_toArray, List.getElem?_cons_succ, List.getElem?_cons_zero]; rfl)
                  refine store_part (i := 7) (j := 42) rfl rfl (by rfl) (by rfl) HZA.out ?_
                  clear hHeld
                  refine hK.out _ _ ?_ (fun hHeld => ?_)
                  · exact KEEP.out _ HW1.out
                  clear hK K
                  try simp only [Act.put]
                  refine wpAnyH_ready (rs := [29]) (by kernel_rfl) (by simp) ?_
                  refine AllReadyH.cons (o := ?o35) ?ho35 (fun K hK => ?st35) AllReadyH.nil
                  case ho35 => (simp only [List.getElem?_toArray, List.getElem?_cons_succ, List.getElem?_cons_zero]; rfl)
                  refine store_part (i := 8) (j := 55) rfl rfl (by rfl) (by rfl) HZB2.out ?_
                  clear hHeld
                  refine hK.out _ _ ?_ (fun hHeld => ?_)
                  · exact KEEP.out _ HW2.out
                  clear hK K
                  try simp only [Act.put]
                  refine wpAnyH_done (by kernel_rfl) ?_ _
                  go_wp2_with fail
                  go_meet
                  case rel => exact ⟨_, _, ⟨⟨ta, aa, ca⟩, fa⟩, ⟨⟨tb, ab, cb⟩, fb'⟩, rfl, rfl, Lib.hid ⟨wc_sets ⟨⟨ta, aa, ca⟩, fa⟩ ⟨⟨tb, ab, cb⟩, fb'⟩ HWF.out RW.out HLT.out HZA.out HZB.out hne hg26 hg27 rfl, HR12.out, HR25.out⟩⟩
              case st31 =>
                have hw3 : Way w1 W fb bm vb vn l ((V2.alloc (.cells #[.int .i64 0, .string ⟨#[]⟩, .int .i64 0, .slice none 0 0, .int .i64 0] 83))) := (WA.out _ _ hw2)
                have hz3_27 : FBox ((V2.alloc (.cells #[.int .i64 0, .string ⟨#[]⟩, .int .i64 0, .slice none 0 0, .int .i64 0] 83))) (V2.heap.size) (.int .i64 0) (.string ⟨#[]⟩) (.int .i64 0) (.slice none 0 0) (.int .i64 0) := by have h := fbox_new (V2) (.int .i64 0) (.string ⟨#[]⟩) (.int .i64 0) (.slice none 0 0) (.int .i64 0); exact h
                have hg27 : W.heap.size ≤ V2.heap.size := by omega
                go_simp
                clear hHeld
                refine hK.out _ _ ?_ (fun hHeld => ?_)
                · exact KEEP.out _ hw3
                clear hK K
                try simp only [Act.put, List.setIfInBounds_toArray, List.set_cons_zero, List.set_cons_succ]
                refine wpAnyH_ready (rs := [26]) (by kernel_rfl) (by simp) ?_
                refine AllReadyH.cons (o := ?o36) ?ho36 (fun K hK => ?st36) AllReadyH.nil
                case ho36 => (simp only [List.getElem?_toArray, List.getElem?_cons_succ, List.getElem?_cons_zero]; rfl)
                case st36 =>
                  have hw4 : Way w1 W fb bm vb vn l (((V2.alloc (.cells #[.int .i64 0, .string ⟨#[]⟩, .int .i64 0, .slice none 0 0, .int .i64 0] 83)).alloc (.cells #[.int .i64 0, .string ⟨#[]⟩, .int .i64 0, .slice none 0 0, .int .i64 0] 83))) := (WA.out _ _ hw3)
                  have hz4_27 : FBox (((V2.alloc (.cells #[.int .i64 0, .string ⟨#[]⟩, .int .i64 0, .slice none 0 0, .int .i64 0] 83)).alloc (.cells #[.int .i64 0, .string ⟨#[]⟩, .int .i64 0, .slice none 0 0, .int .i64 0] 83))) (V2.heap.size) (.int .i64 0) (.string ⟨#[]⟩) (.int .i64 0) (.slice none 0 0) (.int .i64 0) := hz3_27.alloc _
                  have hz4_26 : FBox (((V2.alloc (.cells #[.int .i64 0, .string ⟨#[]⟩, .int .i64 0, .slice none 0 0, .int .i64 0] 83)).alloc (.cells #[.int .i64 0, .string ⟨#[]⟩, .int .i64 0, .slice none 0 0, .int .i64 0] 83))) (V2.heap.size + 1) (.int .i64 0) (.string ⟨#[]⟩) (.int .i64 0) (.slice none 0 0) (.int .i64 0) := by have h := fbox_new ((V2.alloc (.cells #[.int .i64 0, .string ⟨#[]⟩, .int .i64 0, .slice none 0 0, .int .i64 0] 83))) (.int .i64 0) (.string ⟨#[]⟩) (.int .i64 0) (.slice none 0 0) (.int .i64 0); rw [show ((V2.alloc (.cells #[.int .i64 0, .string ⟨#[]⟩, .int .i64 0, .slice none 0 0, .int .i64 0] 83))).heap.size = V2.heap.size + 1 from by simp] at h; exact h
                  have hg26 : W.heap.size ≤ V2.heap.size + 1 := by omega
                  go_simp
                  clear hHeld
                  refine hK.out _ _ ?_ (fun hHeld => ?_)
                  · exact KEEP.out _ hw4
                  clear hK K
                  try simp only [Act.put, List.setIfInBounds_toArray, List.set_cons_zero, List.set_cons_succ]
                  have hne : (V2.heap.size + 1) ≠ (V2.heap.size) := by omega
                  have hne' : (V2.heap.size) ≠ (V2.heap.size + 1) := by omega
                  obtain ⟨Vf, hVf⟩ : ∃ Vf, Vf = ((V2.alloc (.cells #[.int .i64 0, .string ⟨#[]⟩, .int .i64 0, .slice none 0 0, .int .i64 0] 83)).alloc (.cells #[.int .i64 0, .string ⟨#[]⟩, .int .i64 0, .slice none 0 0, .int .i64 0] 83)) := ⟨_, rfl⟩
                  rw [← hVf] at hw4 hz4_26 hz4_27 hHeld ⊢
                  have HWF := Lib.hid hw4
                  have HZA := Lib.hid hz4_26
                  have HZB := Lib.hid hz4_27
                  clear hVf
                  have HW1 := Lib.hid (HWF.out.set5 (k0 := fun _ => True) RW.out HLT.out hg26 (.int .i64 ta.kind) (.string ta.name) (.int .i64 ta.n) (.slice aa ta.args.length ca) (.int .i64 fa) rfl)
                  have HW2 := Lib.hid (HW1.out.set5 (k0 := fun _ => True) RW.out HLT.out hg27 (.int .i64 tb.kind) (.string tb.name) (.int .i64 tb.n) (.slice ab tb.args.length cb) (.int .i64 fb') rfl)
                  have HZB2 := Lib.hid (HZB.out.aside hne' 0 1 2 3 4 (.int .i64 ta.kind) (.string ta.name) (.int .i64 ta.n) (.slice aa ta.args.length ca) (.int .i64 fa))
                  refine wpAnyH_ready (rs := [28]) (by kernel_rfl) (by simp) ?_
                  refine AllReadyH.cons (o := ?o37) ?ho37 (fun K hK => ?st37) AllReadyH.nil
                  case ho37 => (simp only [List.getElem?_toArray, List.getElem?_cons_succ, List.getElem?_cons_zero]; rfl)
                  refine store_part (i := 7) (j := 42) rfl rfl (by rfl) (by rfl) HZA.out ?_
                  clear hHeld
                  refine hK.out _ _ ?_ (fun hHeld => ?_)
                  · exact KEEP.out _ HW1.out
                  clear hK K
                  try simp only [Act.put]
                  refine wpAnyH_ready (rs := [29]) (by kernel_rfl) (by simp) ?_
                  refine AllReadyH.cons (o := ?o38) ?ho38 (fun K hK => ?st38) AllReadyH.nil
                  case ho38 => (simp only [List.getElem?_toArray, List.getElem?_cons_succ, List.getElem?_cons_zero]; rfl)
                  refine store_part (i := 8) (j := 55) rfl rfl (by rfl) (by rfl) HZB2.out ?_
                  clear hHeld
                  refine hK.out _ _ ?_ (fun hHeld => ?_)
                  · exact KEEP.out _ HW2.out
                  clear hK K
                  try simp only [Act.put]
                  refine wpAnyH_done (by kernel_rfl) ?_ _
                  go_wp2_with fail
                  go_meet
                  case rel => exact ⟨_, _, ⟨⟨ta, aa, ca⟩, fa⟩, ⟨⟨tb, ab, cb⟩, fb'⟩, rfl, rfl, Lib.hid ⟨wc_sets ⟨⟨ta, aa, ca⟩, fa⟩ ⟨⟨tb, ab, cb⟩, fb'⟩ HWF.out RW.out HLT.out HZA.out HZB.out hne hg26 hg27 rfl, HR12.out, HR25.out⟩⟩
            case st29 =>
              have hw2 : Way w1 W fb bm vb vn l ((V1.alloc (.cells #[.int .i64 0, .string ⟨#[]⟩, .int .i64 0, .slice none 0 0, .int .i64 0] 83))) := (WA.out _ _ hw1)
              have hz2_26 : FBox ((V1.alloc (.cells #[.int .i64 0, .string ⟨#[]⟩, .int .i64 0, .slice none 0 0, .int .i64 0] 83))) (V1.heap.size) (.int .i64 0) (.string ⟨#[]⟩) (.int .i64 0) (.slice none 0 0) (.int .i64 0) := by have h := fbox_new (V1) (.int .i64 0) (.string ⟨#[]⟩) (.int .i64 0) (.slice none 0 0) (.int .i64 0); exact h
              have hg26 : W.heap.size ≤ V1.heap.size := by omega
              go_simp
              clear hHeld
              refine hK.out _ _ ?_ (fun hHeld => ?_)
              · exact KEEP.out _ hw2
              clear hK K
              try simp only [Act.put, List.setIfInBounds_toArray, List.set_cons_zero, List.set_cons_succ]
              refine wpAnyH_ready (rs := [25, 27]) (by kernel_rfl) (by simp) ?_
              refine AllReadyH.cons (o := ?o40) ?ho40 (fun K hK => ?st40) (AllReadyH.cons (o := ?o39) ?ho39 (fun K hK => ?st39) AllReadyH.nil)
              case ho40 => (simp only [List.getElem?_toArray, List.getElem?_cons_succ, List.getElem?_cons_zero]; rfl)
              case ho39 => (simp only [List.getElem?_toArray, List.getElem?_cons_succ, List.getElem?_cons_zero]; rfl)
              case st40 =>
                go_simp
                go_at_call 53
                refine (RB.out _ hw2).mono ?_; rintro e V3 ⟨tb, ab, cb, fb', rfl, hR25, hw3, hs3⟩
                have HR25 := Lib.hid hR25
                have hl3 : W.heap.size ≤ V3.heap.size := hw3.step.size
                have hz3_26 : FBox V3 (V1.heap.size) (.int .i64 0) (.string ⟨#[]⟩) (.int .i64 0) (.slice none 0 0) (.int .i64 0) := hz2_26.call hs3 (NOW.out _ hg26)
                have hlt3_26 : V1.heap.size < V3.heap.size := hz3_26.lt
                clear hs3 hR25
                clear hHeld
                refine hK.out _ _ ?_ (fun hHeld => ?_)
                · exact KEEP.out _ hw3
                clear hK K
                try simp only [Act.put, List.setIfInBounds_toArray, List.set_cons_zero, List.set_cons_succ]
                refine wpAnyH_ready (rs := [27]) (by kernel_rfl) (by simp) ?_
                refine AllReadyH.cons (o := ?o41) ?ho41 (fun K hK => ?st41) AllReadyH.nil
                case ho41 => (simp only [List.getElem?_toArray, List.getElem?_cons_succ, List.getElem?_cons_zero]; rfl)
                case st41 =>
                  have hw4 : Way w1 W fb bm vb vn l ((V3.alloc (.cells #[.int .i64 0, .string ⟨#[]⟩, .int .i64 0, .slice none 0 0, .int .i64 0] 83))) := (WA.out _ _ hw3)
                  have hz4_26 : FBox ((V3.alloc (.cells #[.int .i64 0, .string ⟨#[]⟩, .int .i64 0, .slice none 0 0, .int .i64 0] 83))) (V1.heap.size) (.int .i64 0) (.string ⟨#[]⟩) (.int .i64 0) (.slice none 0 0) (.int .i64 0) := hz3_26.alloc _
                  have hz4_27 : FBox ((V3.alloc (.cells #[.int .i64 0, .string ⟨#[]⟩, .int .i64 0, .slice none 0 0, .int .i64 0] 83))) (V3.heap.size) (.int .i64 0) (.string ⟨#[]⟩) (.int .i64 0) (.slice none 0 0) (.int .i64 0) := by have h := fbox_new (V3) (.int .i64 0) (.string ⟨#[]⟩) (.int .i64 0) (.slice none 0 0) (.int .i64 0); exact h
                  have hg27 : W.heap.size ≤ V3.heap.size := by omega
                  go_simp
                  clear hHeld
                  refine hK.out _ _ ?_ (fun hHeld => ?_)
                  · exact KEEP.out _ hw4
                  clear hK K
                  try simp only [Act.put, List.setIfInBounds_toArray, List.set_cons_zero, List.set_cons_succ]
                  have hne : (V1.heap.size) ≠ (V3.heap.size) := by omega
                  have hne' : (V3.heap.size) ≠ (V1.heap.size) := by omega
                  obtain ⟨Vf, hVf⟩ : ∃ Vf, Vf = (V3.alloc (.cells #[.int .i64 0, .string ⟨#[]⟩, .int .i64 0, .slice none 0 0, .int .i64 0] 83)) := ⟨_, rfl⟩
                  rw [← hVf] at hw4 hz4_26 hz4_27 hHeld ⊢
                  have HWF := Lib.hid hw4
                  have HZA := Lib.hid hz4_26
                  have HZB := Lib.hid hz4_27
                  clear hVf
                  have HW1 := Lib.hid (HWF.out.set5 (k0 := fun _ => True) RW.out HLT.out hg26 (.int .i64 ta.kind) (.string ta.name) (.int .i64 ta.n) (.slice aa ta.args.length ca) (.int .i64 fa) rfl)
                  have HW2 := Lib.hid (HW1.out.set5 (k0 := fun _ => True) RW.out HLT.out hg27 (.int .i64 tb.kind) (.string tb.name) (.int .i64 tb.n) (.slice ab tb.args.length cb) (.int .i64 fb') rfl)
                  have HZB2 := Lib.hid (HZB.out.aside hne' 0 1 2 3 4 (.int .i64 ta.kind) (.string ta.name) (.int .i64 ta.n) (.slice aa ta.args.length ca) (.int .i64 fa))
                  refine wpAnyH_ready (rs := [28]) (by kernel_rfl) (by simp) ?_
                  refine AllReadyH.cons (o := ?o42) ?ho42 (fun K hK => ?st42) AllReadyH.nil
                  case ho42 => (simp only [List.getElem?_toArray, List.getElem?_cons_succ, List.getElem?_cons_zero]; rfl)
                  refine store_part (i := 7) (j := 42) rfl rfl (by rfl) (by rfl) HZA.out ?_
                  clear hHeld
                  refine hK.out _ _ ?_ (fun hHeld => ?_)
                  · exact KEEP.out _ HW1.out
                  clear hK K
                  try simp only [Act.put]
                  refine wpAnyH_ready (rs := [29]) (by kernel_rfl) (by simp) ?_
                  refine AllReadyH.cons (o := ?o43) ?ho43 (fun K hK => ?st43) AllReadyH.nil
                  case ho43 => (simp only [List.getElem?_toArray, List.getElem?_cons_succ, List.getElem?_cons_zero]; rfl)
                  refine store_part (i := 8) (j := 55) rfl rfl (by rfl) (by rfl) HZB2.out ?_
                  clear hHeld
                  refine hK.out _ _ ?_ (fun hHeld => ?_)
                  · exact KEEP.out _ HW2.out
                  clear hK K
                  try simp only [Act.put]
                  refine wpAnyH_done (by kernel_rfl) ?_ _
                  go_wp2_with fail
                  go_meet
                  case rel => exact ⟨_, _, ⟨⟨ta, aa, ca⟩, fa⟩, ⟨⟨tb, ab, cb⟩, fb'⟩, rfl, rfl, Lib.hid ⟨wc_sets ⟨⟨ta, aa, ca⟩, fa⟩ ⟨⟨tb, ab, cb⟩, fb'⟩ HWF.out RW.out HLT.out HZA.out HZB.out hne hg26 hg27 rfl, HR12.out, HR25.out⟩⟩
              case st39 =>
                have hw3 : Way w1 W fb bm vb vn l (((V1.alloc (.cells #[.int .i64 0, .string ⟨#[]⟩, .int .i64 0, .slice none 0 0, .int .i64 0] 83)).alloc (.cells #[.int .i64 0, .string ⟨#[]⟩, .int .i64 0, .slice none 0 0, .int .i64 0] 83))) := (WA.out _ _ hw2)
                have hz3_26 : FBox (((V1.alloc (.cells #[.int .i64 0, .string ⟨#[]⟩, .int .i64 0, .slice none 0 0, .int .i64 0] 83)).alloc (.cells #[.int .i64 0, .string ⟨#[]⟩, .int .i64 0, .slice none 0 0, .int .i64 0] 83))) (V1.heap.size) (.int .i64 0) (.string ⟨#[]⟩) (.int .i64 0) (.slice none 0 0) (.int .i64 0) := hz2_26.alloc _
                have hz3_27 : FBox (((V1.alloc (.cells #[.int .i64 0, .string ⟨#[]⟩, .int .i64 0, .slice none 0 0, .int .i64 0] 83)).alloc (.cells #[.int .i64 0, .string ⟨#[]⟩, .int .i64 0, .slice none 0 0, .int .i64 0] 83))) (V1.heap.size + 1) (.int .i64 0) (.string ⟨#[]⟩) (.int .i64 0) (.slice none 0 0) (.int .i64 0) := by have h := fbox_new ((V1.alloc (.cells #[.int .i64 0, .string ⟨#[]⟩, .int .i64 0, .slice none 0 0, .int .i64 0] 83))) (.int .i64 0) (.string ⟨#[]⟩) (.int .i64 0) (.slice none 0 0) (.int .i64 0); rw [show ((V1.alloc (.cells #[.int .i64 0, .string ⟨#[]⟩, .int .i64 0, .slice none 0 0, .int .i64 0] 83))).heap.size = V1.heap.size + 1 from by simp] at h; exact h
                have hg27 : W.heap.size ≤ V1.heap.size + 1 := by omega
                go_simp
                clear hHeld
                refine hK.out _ _ ?_ (fun hHeld => ?_)
                · exact KEEP.out _ hw3
                clear hK K
                try simp only [Act.put, List.setIfInBounds_toArray, List.set_cons_zero, List.set_cons_succ]
                refine wpAnyH_ready (rs := [25]) (by kernel_rfl) (by simp) ?_
                refine AllReadyH.cons (o := ?o44) ?ho44 (fun K hK => ?st44) AllReadyH.nil
                case ho44 => (simp only [List.getElem?_toArray, List.getElem?_cons_succ, List.getElem?_cons_zero]; rfl)
                case st44 =>
                  go_simp
                  go_at_call 53
                  refine (RB.out _ hw3).mono ?_; rintro e V4 ⟨tb, ab, cb, fb', rfl, hR25, hw4, hs4⟩
                  have HR25 := Lib.hid hR25
                  have hl4 : W.heap.size ≤ V4.heap.size := hw4.step.size
                  have hz4_26 : FBox V4 (V1.heap.size) (.int .i64 0) (.string ⟨#[]⟩) (.int .i64 0) (.slice none 0 0) (.int .i64 0) := hz3_26.call hs4 (NOW.out _ hg26)
                  have hz4_27 : FBox V4 (V1.heap.size + 1) (.int .i64 0) (.string ⟨#[]⟩) (.int .i64 0) (.slice none 0 0) (.int .i64 0) := hz3_27.call hs4 (NOW.out _ hg27)
                  have hlt4_26 : V1.heap.size < V4.heap.size := hz4_26.lt
                  have hlt4_27 : V1.heap.size + 1 < V4.heap.size := hz4_27.lt
                  clear hs4 hR25
                  clear hHeld
                  refine hK.out _ _ ?_ (fun hHeld => ?_)
                  · exact KEEP.out _ hw4
                  clear hK K
                  try simp only [Act.put, List.setIfInBounds_toArray, List.set_cons_zero, List.set_cons_succ]
                  have hne : (V1.heap.size) ≠ (V1.heap.size + 1) := by omega
                  have hne' : (V1.heap.size + 1) ≠ (V1.heap.size) := by omega
                  obtain ⟨Vf, hVf⟩ : ∃ Vf, Vf = V4 := ⟨_, rfl⟩
                  rw [← hVf] at hw4 hz4_26 hz4_27 hHeld ⊢
                  have HWF := Lib.hid hw4
                  have HZA := Lib.hid hz4_26
                  have HZB := Lib.hid hz4_27
                  clear hVf
                  have HW1 := Lib.hid (HWF.out.set5 (k0 := fun _ => True) RW.out HLT.out hg26 (.int .i64 ta.kind) (.string ta.name) (.int .i64 ta.n) (.slice aa ta.args.length ca) (.int .i64 fa) rfl)
                  have HW2 := Lib.hid (HW1.out.set5 (k0 := fun _ => True) RW.out HLT.out hg27 (.int .i64 tb.kind) (.string tb.name) (.int .i64 tb.n) (.slice ab tb.args.length cb) (.int .i64 fb') rfl)
                  have HZB2 := Lib.hid (HZB.out.aside hne' 0 1 2 3 4 (.int .i64 ta.kind) (.string ta.name) (.int .i64 ta.n) (.slice aa ta.args.length ca) (.int .i64 fa))
                  refine wpAnyH_ready (rs := [28]) (by kernel_rfl) (by simp) ?_
                  refine AllReadyH.cons (o := ?o45) ?ho45 (fun K hK => ?st45) AllReadyH.nil
                  case ho45 => (simp only [List.getElem?_toArray, List.getElem?_cons_succ, List.getElem?_cons_zero]; rfl)
                  refine store_part (i := 7) (j := 42) rfl rfl (by rfl) (by rfl) HZA.out ?_
                  clear hHeld
                  refine hK.out _ _ ?_ (fun hHeld => ?_)
                  · exact KEEP.out _ HW1.out
                  clear hK K
                  try simp only [Act.put]
                  refine wpAnyH_ready (rs := [29]) (by kernel_rfl) (by simp) ?_
                  refine AllReadyH.cons (o := ?o46) ?ho46 (fun K hK => ?st46) AllReadyH.nil
                  case ho46 => (simp only [List.getElem?_toArray, List.getElem?_cons_succ, List.getElem?_cons_zero]; rfl)
                  refine store_part (i := 8) (j := 55) rfl rfl (by rfl) (by rfl) HZB2.out ?_
                  clear hHeld
                  refine hK.out _ _ ?_ (fun hHeld => ?_)
                  · exact KEEP.out _ HW2.out
                  clear hK K
                  try simp only [Act.put]
                  refine wpAnyH_done (by kernel_rfl) ?_ _
                  go_wp2_with fail
                  go_meet
                  case rel => exact ⟨_, _, ⟨⟨ta, aa, ca⟩, fa⟩, ⟨⟨tb, ab, cb⟩, fb'⟩, rfl, rfl, Lib.hid ⟨wc_sets ⟨⟨ta, aa, ca⟩, fa⟩ ⟨⟨tb, ab, cb⟩, fb'⟩ HWF.out RW.out HLT.out HZA.out HZB.out hne hg26 hg27 rfl, HR12.out, HR25.out⟩⟩
            case st28 =>
              have hw2 : Way w1 W fb bm vb vn l ((V1.alloc (.cells #[.int .i64 0, .string ⟨#[]⟩, .int .i64 0, .slice none 0 0, .int .i64 0] 83))) := (WA.out _ _ hw1)
              have hz2_27 : FBox ((V1.alloc (.cells #[.int .i64 0, .string ⟨#[]⟩, .int .i64 0, .slice none 0 0, .int .i64 0] 83))) (V1.heap.size) (.int .i64 0) (.string ⟨#[]⟩) (.int .i64 0) (.slice none 0 0) (.int .i64 0) := by have h := fbox_new (V1) (.int .i64 0) (.string ⟨#[]⟩) (.int .i64 0) (.slice none 0 0) (.int .i64 0); exact h
              have hg27 : W.heap.size ≤ V1.heap.size := by omega
              go_simp
              clear hHeld
              refine hK.out _ _ ?_ (fun hHeld => ?_)
              · exact KEEP.out _ hw2
              clear hK K
              try simp only [Act.put, List.setIfInBounds_toArray, List.set_cons_zero, List.set_cons_succ]
              refine wpAnyH_ready (rs := [25, 26]) (by kernel_rfl) (by simp) ?_
              refine AllReadyH.cons (o := ?o48) ?ho48 (fun K hK => ?st48) (AllReadyH.cons (o := ?o47) ?ho47 (fun K hK => ?st47) AllReadyH.nil)
              case ho48 => (simp only [List.getElem?_toArray, List.getElem?_cons_succ, List.getElem?_cons_zero]; rfl)
              case ho47 => (simp only [List.getElem?_toArray, List.getElem?_cons_succ, List.getElem?_cons_zero]; rfl)
              case st48 =>
                go_simp
                go_at_call 53
                refine (RB.out _ hw2).mono ?_; rintro e V3 ⟨tb, ab, cb, fb', rfl, hR25, hw3, hs3⟩
                have HR25 := Lib.hid hR25
                have hl3 : W.heap.size ≤ V3.heap.size := hw3.step.size
                have hz3_27 : FBox V3 (V1.heap.size) (.int .i64 0) (.string ⟨#[]⟩) (.int .i64 0) (.slice none 0 0) (.int .i64 0) := hz2_27.call hs3 (NOW.out _ hg27)
                have hlt3_27 : V1.heap.size < V3.heap.size := hz3_27.lt
                clear hs3 hR25
                clear hHeld
                refine hK.out _ _ ?_ (fun hHeld => ?_)
                · exact KEEP.out _ hw3
                clear hK K
                try simp only [Act.put, List.setIfInBounds_toArray, List.set_cons_zero, List.set_cons_succ]
                refine wpAnyH_ready (rs := [26]) (by kernel_rfl) (by simp) ?_
                refine AllReadyH.cons (o := ?o49) ?ho49 (fun K hK => ?st49) AllReadyH.nil
                case ho49 => (simp only [List.getElem?_toArray, List.getElem?_cons_succ, List.getElem?_cons_zero]; rfl)
                case st49 =>
                  have hw4 : Way w1 W fb bm vb vn l ((V3.alloc (.cells #[.int .i64 0, .string ⟨#[]⟩, .int .i64 0, .slice none 0 0, .int .i64 0] 83))) := (WA.out _ _ hw3)
                  have hz4_27 : FBox ((V3.alloc (.cells #[.int .i64 0, .string ⟨#[]⟩, .int .i64 0, .slice none 0 0, .int .i64 0] 83))) (V1.heap.size) (.int .i64 0) (.string ⟨#[]⟩) (.int .i64 0) (.slice none 0 0) (.int .i64 0) := hz3_27.alloc _
                  have hz4_26 : FBox ((V3.alloc (.cells #[.int .i64 0, .string ⟨#[]⟩, .int .i64 0, .slice none 0 0, .int .i64 0] 83))) (V3.heap.size) (.int .i64 0) (.string ⟨#[]⟩) (.int .i64 0) (.slice none 0 0) (.int .i64 0) := by have h := fbox_new (V3) (.int .i64 0) (.string ⟨#[]⟩) (.int .i64 0) (.slice none 0 0) (.int .i64 0); exact h
                  have hg26 : W.heap.size ≤ V3.heap.size := by omega
                  go_simp
                  clear hHeld
                  refine hK.out _ _ ?_ (fun hHeld => ?_)
                  · exact KEEP.out _ hw4
                  clear hK K
                  try simp only [Act.put, List.setIfInBounds_toArray, List.set_cons_zero, List.set_cons_succ]
                  have hne : (V3.heap.size) ≠ (V1.heap.size) := by omega
                  have hne' : (V1.heap.size) ≠ (V3.heap.size) := by omega
                  obtain ⟨Vf, hVf⟩ : ∃ Vf, Vf = (V3.alloc (.cells #[.int .i64 0, .string ⟨#[]⟩, .int .i64 0, .slice none 0 0, .int .i64 0] 83)) := ⟨_, rfl⟩
                  rw [← hVf] at hw4 hz4_26 hz4_27 hHeld ⊢
                  have HWF := Lib.hid hw4
                  have HZA := Lib.hid hz4_26
                  have HZB := Lib.hid hz4_27
                  clear hVf
                  have HW1 := Lib.hid (HWF.out.set5 (k0 := fun _ => True) RW.out HLT.out hg26 (.int .i64 ta.kind) (.string ta.name) (.int .i64 ta.n) (.slice aa ta.args.length ca) (.int .i64 fa) rfl)
                  have HW2 := Lib.hid (HW1.out.set5 (k0 := fun _ => True) RW.out HLT.out hg27 (.int .i64 tb.kind) (.string tb.name) (.int .i64 tb.n) (.slice ab tb.args.length cb) (.int .i64 fb') rfl)
                  have HZB2 := Lib.hid (HZB.out.aside hne' 0 1 2 3 4 (.int .i64 ta.kind) (.string ta.name) (.int .i64 ta.n) (.slice aa ta.args.length ca) (.int .i64 fa))
                  refine wpAnyH_ready (rs := [28]) (by kernel_rfl) (by simp) ?_
                  refine AllReadyH.cons (o := ?o50) ?ho50 (fun K hK => ?st50) AllReadyH.nil
                  case ho50 => (simp only [List.getElem?_toArray, List.getElem?_cons_succ, List.getElem?_cons_zero]; rfl)
                  refine store_part (i := 7) (j := 42) rfl rfl (by rfl) (by rfl) HZA.out ?_
                  clear hHeld
                  refine hK.out _ _ ?_ (fun hHeld => ?_)
                  · exact KEEP.out _ HW1.out
                  clear hK K
                  try simp only [Act.put]
                  refine wpAnyH_ready (rs := [29]) (by kernel_rfl) (by simp) ?_
                  refine AllReadyH.cons (o := ?o51) ?ho51 (fun K hK => ?st51) AllReadyH.nil
                  case ho51 => (simp only [List.getElem?_toArray, List.getElem?_cons_succ, List.getElem?_cons_zero]; rfl)
                  refine store_part (i := 8) (j := 55) rfl rfl (by rfl) (by rfl) HZB2.out ?_
                  clear hHeld
                  refine hK.out _ _ ?_ (fun hHeld => ?_)
                  · exact KEEP.out _ HW2.out
                  clear hK K
                  try simp only [Act.put]
                  refine wpAnyH_done (by kernel_rfl) ?_ _
                  go_wp2_with fail
                  go_meet
                  case rel => exact ⟨_, _, ⟨⟨ta, aa, ca⟩, fa⟩, ⟨⟨tb, ab, cb⟩, fb'⟩, rfl, rfl, Lib.hid ⟨wc_sets ⟨⟨ta, aa, ca⟩, fa⟩ ⟨⟨tb, ab, cb⟩, fb'⟩ HWF.out RW.out HLT.out HZA.out HZB.out hne hg26 hg27 rfl, HR12.out, HR25.out⟩⟩
              case st47 =>
                have hw3 : Way w1 W fb bm vb vn l (((V1.alloc (.cells #[.int .i64 0, .string ⟨#[]⟩, .int .i64 0, .slice none 0 0, .int .i64 0] 83)).alloc (.cells #[.int .i64 0, .string ⟨#[]⟩, .int .i64 0, .slice none 0 0, .int .i64 0] 83))) := (WA.out _ _ hw2)
                have hz3_27 : FBox (((V1.alloc (.cells #[.int .i64 0, .string ⟨#[]⟩, .int .i64 0, .slice none 0 0, .int .i64 0] 83)).alloc (.cells #[.int .i64 0, .string ⟨#[]⟩, .int .i64 0, .slice none 0 0, .int .i64 0] 83))) (V1.heap.size) (.int .i64 0) (.string ⟨#[]⟩) (.int .i64 0) (.slice none 0 0) (.int .i64 0) := hz2_27.alloc _
                have hz3_26 : FBox (((V1.alloc (.cells #[.int .i64 0, .string ⟨#[]⟩, .int .i64 0, .slice none 0 0, .int .i64 0] 83)).alloc (.cells #[.int .i64 0, .string ⟨#[]⟩, .int .i64 0, .slice none 0 0, .int .i64 0] 83))) (V1.heap.size + 1) (.int .i64 0) (.string ⟨#[]⟩) (.int .i64 0) (.slice none 0 0) (.int .i64 0) := by have h := fbox_new ((V1.alloc (.cells #[.int .i64 0, .string ⟨#[]⟩, .int .i64 0, .slice none 0 0, .int .i64 0] 83))) (.int .i64 0) (.string ⟨#[]⟩) (.int .i64 0) (.slice none 0 0) (.int .i64 0); rw [show ((V1.alloc (.cells #[.int .i64 0, .string ⟨#[]⟩, .int .i64 0, .slice none 0 0, .int .i64 0] 83))).heap.size = V1.heap.size + 1 from by simp] at h; exact h
                have hg26 : W.heap.size ≤ V1.heap.size + 1 := by omega
                go_simp
                clear hHeld
                refine hK.out _ _ ?_ (fun hHeld => ?_)
                · exact KEEP.out _ hw3
                clear hK K
                try simp only [Act.put, List.setIfInBounds_toArray, List.set_cons_zero, List.set_cons_succ]
                refine wpAnyH_ready (rs := [25]) (by kernel_rfl) (by simp) ?_
                refine AllReadyH.cons (o := ?o52) ?ho52 (fun K hK => ?st52) AllReadyH.nil
                case ho52 => (simp only [List.getElem?_toArray, List.getElem?_cons_succ, List.getElem?_cons_zero]; rfl)
                case st52 =>
                  go_simp
                  go_at_call 53
                  refine (RB.out _ hw3).mono ?_; rintro e V4 ⟨tb, ab, cb, fb', rfl, hR25, hw4, hs4⟩
                  have HR25 := Lib.hid hR25
                  have hl4 : W.heap.size ≤ V4.heap.size := hw4.step.size
                  have hz4_27 : FBox V4 (V1.heap.size) (.int .i64 0) (.string ⟨#[]⟩) (.int .i64 0) (.slice none 0 0) (.int .i64 0) := hz3_27.call hs4 (NOW.out _ hg27)
                  have hz4_26 : FBox V4 (V1.heap.size + 1) (.int .i64 0) (.string ⟨#[]⟩) (.int .i64 0) (.slice none 0 0) (.int .i64 0) := hz3_26.call hs4 (NOW.out _ hg26)
                  have hlt4_27 : V1.heap.size < V4.heap.size := hz4_27.lt
                  have hlt4_26 : V1.heap.size + 1 < V4.heap.size := hz4_26.lt
                  clear hs4 hR25
                  clear hHeld
                  refine hK.out _ _ ?_ (fun hHeld => ?_)
                  · exact KEEP.out _ hw4
                  clear hK K
                  try simp only [Act.put, List.setIfInBounds_toArray, List.set_cons_zero, List.set_cons_succ]
                  have hne : (V1.heap.size + 1) ≠ (V1.heap.size) := by omega
                  have hne' : (V1.heap.size) ≠ (V1.heap.size + 1) := by omega
                  obtain ⟨Vf, hVf⟩ : ∃ Vf, Vf = V4 := ⟨_, rfl⟩
                  rw [← hVf] at hw4 hz4_26 hz4_27 hHeld ⊢
                  have HWF := Lib.hid hw4
                  have HZA := Lib.hid hz4_26
                  have HZB := Lib.hid hz4_27
                  clear hVf
                  have HW1 := Lib.hid (HWF.out.set5 (k0 := fun _ => True) RW.out HLT.out hg26 (.int .i64 ta.kind) (.string ta.name) (.int .i64 ta.n) (.slice aa ta.args.length ca) (.int .i64 fa) rfl)
                  have HW2 := Lib.hid (HW1.out.set5 (k0 := fun _ => True) RW.out HLT.out hg27 (.int .i64 tb.kind) (.string tb.name) (.int .i64 tb.n) (.slice ab tb.args.length cb) (.int .i64 fb') rfl)
                  have HZB2 := Lib.hid (HZB.out.aside hne' 0 1 2 3 4 (.int .i64 ta.kind) (.string ta.name) (.int .i64 ta.n) (.slice aa ta.args.length ca) (.int .i64 fa))
                  refine wpAnyH_ready (rs := [28]) (by kernel_rfl) (by simp) ?_
                  refine AllReadyH.cons (o := ?o53) ?ho53 (fun K hK => ?st53) AllReadyH.nil
                  case ho53 => (simp only [List.getElem?_toArray, List.getElem?_cons_succ, List.getElem?_cons_zero]; rfl)
                  refine store_part (i := 7) (j := 42) rfl rfl (by rfl) (by rfl) HZA.out ?_
                  clear hHeld
                  refine hK.out _ _ ?_ (fun hHeld => ?_)
                  · exact KEEP.out _ HW1.out
                  clear hK K
                  try simp only [Act.put]
                  refine wpAnyH_ready (rs := [29]) (by kernel_rfl) (by simp) ?_
                  refine AllReadyH.cons (o := ?o54) ?ho54 (fun K hK => ?st54) AllReadyH.nil
                  case ho54 => (simp only [List.getElem?_toArray, List.getElem?_cons_succ, List.getElem?_cons_zero]; rfl)
                  refine store_part (i := 8) (j := 55) rfl rfl (by rfl) (by rfl) HZB2.out ?_
                  clear hHeld
                  refine hK.out _ _ ?_ (fun hHeld => ?_)
                  · exact KEEP.out _ HW2.out
                  clear hK K
                  try simp only [Act.put]
                  refine wpAnyH_done (by kernel_rfl) ?_ _
                  go_wp2_with fail
                  go_meet
                  case rel => exact ⟨_, _, ⟨⟨ta, aa, ca⟩, fa⟩, ⟨⟨tb, ab, cb⟩, fb'⟩, rfl, rfl, Lib.hid ⟨wc_sets ⟨⟨ta, aa, ca⟩, fa⟩ ⟨⟨tb, ab, cb⟩, fb'⟩ HWF.out RW.out HLT.out HZA.out HZB.out hne hg26 hg27 rfl, HR12.out, HR25.out⟩⟩
          case st26 =>
            have hw1 : Way w1 W fb bm vb vn l ((W.alloc (.cells #[.int .i64 0, .string ⟨#[]⟩, .int .i64 0, .slice none 0 0, .int .i64 0] 83)).drew) := WD.out _ (WA.out _ _ hx0)
            have hx1 : Way w1 W fb bm vb vn l ((W.alloc (.cells #[.int .i64 0, .string ⟨#[]⟩, .int .i64 0, .slice none 0 0, .int .i64 0] 83))) := WA.out _ _ hx0
            have hz1_26 : FBox ((W.alloc (.cells #[.int .i64 0, .string ⟨#[]⟩, .int .i64 0, .slice none 0 0, .int .i64 0] 83)).drew) (W.heap.size) (.int .i64 0) (.string ⟨#[]⟩) (.int .i64 0) (.slice none 0 0) (.int .i64 0) := by have h := fbox_new (W) (.int .i64 0) (.string ⟨#[]⟩) (.int .i64 0) (.slice none 0 0) (.int .i64 0); exact h
            have hg26 : W.heap.size ≤ W.heap.size := by omega
            go_simp
            clear hHeld
            refine hK.out _ _ ?_ (fun hHeld => ?_)
            · exact KEEP.out _ hw1
            clear hK K
            try simp only [Act.put, List.setIfInBounds_toArray, List.set_cons_zero, List.set_cons_succ]
            refine wpAnyH_ready (rs := [12, 27]) (by kernel_rfl) (by simp) ?_
            refine AllReadyH.cons (o := ?o56) ?ho56 (fun K hK => ?st56) (AllReadyH.cons (o := ?o55) ?ho55 (fun K hK => ?st55) AllReadyH.nil)
            case ho56 => (simp only [List.getElem?_toArray, List.getElem?_cons_succ, List.getElem?_cons_zero]; rfl)
            case ho55 => (simp only [List.getElem?_toArray, List.getElem?_cons_succ, List.getElem?_cons_zero]; rfl)
            case st56 =>
              go_simp
              go_at_call 53
              refine (RA.out _ hw1).mono ?_; rintro e V2 ⟨ta, aa, ca, fa, rfl, hR12, hw2, hs2⟩
              have HR12 := Lib.hid hR12
              have hl2 : W.heap.size ≤ V2.heap.size := hw2.step.size
              have hz2_26 : FBox V2 (W.heap.size) (.int .i64 0) (.string ⟨#[]⟩) (.int .i64 0) (.slice none 0 0) (.int .i64 0) := hz1_26.call hs2 (NOW.out _ hg26)
              have hlt2_26 : W.heap.size < V2.heap.size := hz2_26.lt
              clear hs2 hR12
              clear hHeld
              refine hK.out _ _ ?_ (fun hHeld => ?_)
              · exact KEEP.out _ hw2
              clear hK K
              try simp only [Act.put, List.setIfInBounds_toArray, List.set_cons_zero, List.set_cons_succ]
              refine wpAnyH_ready (rs := [25, 27]) (by kernel_rfl) (by simp) ?_
              refine AllReadyH.cons (o := ?o58) ?ho58 (fun K hK => ?st58) (AllReadyH.cons (o := ?o57) ?ho57 (fun K hK => ?st57) AllReadyH.nil)
              case ho58 => (simp only [List.getElem?_toArray, List.getElem?_cons_succ, List.getElem?_cons_zero]; rfl)
              case ho57 => (simp only [List.getElem?_toArray, List.getElem?_cons_succ, List.getElem?_cons_zero]; rfl)
              case st58 =>
                go_simp
                go_at_call 53
                refine (RB.out _ hw2).mono ?_; rintro e V3 ⟨tb, ab, cb, fb', rfl, hR25, hw3, hs3⟩
                have HR25 := Lib.hid hR25
                have hl3 : W.heap.size ≤ V3.heap.size := hw3.step.size
                have hz3_26 : FBox V3 (W.heap.size) (.int .i64 0) (.string ⟨#[]⟩) (.int .i64 0) (.slice none 0 0) (.int .i64 0) := hz2_26.call hs3 (NOW.out _ hg26)
                have hlt3_26 : W.heap.size < V3.heap.size := hz3_26.lt
                clear hs3 hR25
                clear hHeld
                refine hK.out _ _ ?_ (fun hHeld => ?_)
                · exact KEEP.out _ hw3
                clear hK K
                try simp only [Act.put, List.setIfInBounds_toArray, List.set_cons_zero, List.set_cons_succ]
                refine wpAnyH_ready (rs := [27]) (by kernel_rfl) (by simp) ?_
                refine AllReadyH.cons (o := ?o59) ?ho59 (fun K hK => ?st59) AllReadyH.nil
                case ho59 => (simp only [List.getElem?_toArray, List.getElem?_cons_succ, List.getElem?_cons_zero]; rfl)
                case st59 =>
                  have hw4 : Way w1 W fb bm vb vn l ((V3.alloc (.cells #[.int .i64 0, .string ⟨#[]⟩, .int .i64 0, .slice none 0 0, .int .i64 0] 83))) := (WA.out _ _ hw3)
                  have hz4_26 : FBox ((V3.alloc (.cells #[.int .i64 0, .string ⟨#[]⟩, .int .i64 0, .slice none 0 0, .int .i64 0] 83))) (W.heap.size) (.int .i64 0) (.string ⟨#[]⟩) (.int .i64 0) (.slice none 0 0) (.int .i64 0) := hz3_26.alloc _
                  have hz4_27 : FBox ((V3.alloc (.cells #[.int .i64 0, .string ⟨#[]⟩, .int .i64 0, .slice none 0 0, .int .i64 0] 83))) (V3.heap.size) (.int .i64 0) (.string ⟨#[]⟩) (.int .i64 0) (.slice none 0 0) (.int .i64 0) := by have h := fbox_new (V3) (.int .i64 0) (.string ⟨#[]⟩) (.int .i64 0) (.slice none 0 0) (.int .i64 0); exact h
                  have hg27 : W.heap.size ≤ V3.heap.size := by omega
                  go_simp
                  clear hHeld
                  refine hK.out _ _ ?_ (fun hHeld => ?_)
                  · exact KEEP.out _ hw4
                  clear hK K
                  try simp only [Act.put, List.setIfInBounds_toArray, List.set_cons_zero, List.set_cons_succ]
                  have hne : (W.heap.size) ≠ (V3.heap.size) := by omega
                  have hne' : (V3.heap.size) ≠ (W.heap.size) := by omega
                  obtain ⟨Vf, hVf⟩ : ∃ Vf, Vf = (V3.alloc (.cells #[.int .i64 0, .string ⟨#[]⟩, .int .i64 0, .slice none 0 0, .int .i64 0] 83)) := ⟨_, rfl⟩
                  rw [← hVf] at hw4 hz4_26 hz4_27 hHeld ⊢
                  have HWF := Lib.hid hw4
                  have HZA := Lib.hid hz4_26
                  have HZB := Lib.hid hz4_27
                  clear hVf
                  have HW1 := Lib.hid (HWF.out.set5 (k0 := fun _ => True) RW.out HLT.out hg26 (.int .i64 ta.kind) (.string ta.name) (.int .i64 ta.n) (.slice aa ta.args.length ca) (.int .i64 fa) rfl)
                  have HW2 := Lib.hid (HW1.out.set5 (k0 := fun _ => True) RW.out HLT.out hg27 (.int .i64 tb.kind) (.string tb.name) (.int .i64 tb.n) (.slice ab tb.args.length cb) (.int .i64 fb') rfl)
                  have HZB2 := Lib.hid (HZB.out.aside hne' 0 1 2 3 4 (.int .i64 ta.kind) (.string ta.name) (.int .i64 ta.n) (.slice aa ta.args.length ca) (.int .i64 fa))
                  refine wpAnyH_ready (rs := [28]) (by kernel_rfl) (by simp) ?_
                  refine AllReadyH.cons (o := ?o60) ?ho60 (fun K hK => ?st60) AllReadyH.nil
                  case ho60 => (simp only [List.getElem?_toArray, List.getElem?_cons_succ, List.getElem?_cons_zero]; rfl)
                  refine store_part (i := 7) (j := 42) rfl rfl (by rfl) (by rfl) HZA.out ?_
                  clear hHeld
                  refine hK.out _ _ ?_ (fun hHeld => ?_)
                  · exact KEEP.out _ HW1.out
                  clear hK K
                  try simp only [Act.put]
                  refine wpAnyH_ready (rs := [29]) (by kernel_rfl) (by simp) ?_
                  refine AllReadyH.cons (o := ?o61) ?ho61 (fun K hK => ?st61) AllReadyH.nil
                  case ho61 => (simp only [List.getElem?_toArray, List.getElem?_cons_succ, List.getElem?_cons_zero]; rfl)
                  refine store_part (i := 8) (j := 55) rfl rfl (by rfl) (by rfl) HZB2.out ?_
                  clear hHeld
                  refine hK.out _ _ ?_ (fun hHeld => ?_)
                  · exact KEEP.out _ HW2.out
                  clear hK K
                  try simp only [Act.put]
                  refine wpAnyH_done (by kernel_rfl) ?_ _
                  go_wp2_with fail
                  go_meet
                  case rel => exact ⟨_, _, ⟨⟨ta, aa, ca⟩, fa⟩, ⟨⟨tb, ab, cb⟩, fb'⟩, rfl, rfl, Lib.hid ⟨wc_sets ⟨⟨ta, aa, ca⟩, fa⟩ ⟨⟨tb, ab, cb⟩, fb'⟩ HWF.out RW.out HLT.out HZA.out HZB.out hne hg26 hg27 rfl, HR12.out, HR25.out⟩⟩
              case st57 =>
                have hw3 : Way w1 W fb bm vb vn l ((V2.alloc (.cells #[.int .i64 0, .string ⟨#[]⟩, .int .i64 0, .slice none 0 0, .int .i64 0] 83))) := (WA.out _ _ hw2)
                have hz3_26 : FBox ((V2.alloc (.cells #[.int .i64 0, .string ⟨#[]⟩, .int .i64 0, .slice none 0 0, .int .i64 0] 83))) (W.heap.size) (.int .i64 0) (.string ⟨#[]⟩) (.int .i64 0) (.slice none 0 0) (.int .i64 0) := hz2_26.alloc _
                have hz3_27 : FBox ((V2.alloc (.cells #[.int .i64 0, .string ⟨#[]⟩, .int .i64 0, .slice none 0 0, .int .i64 0] 83))) (V2.heap.size) (.int .i64 0) (.string ⟨#[]⟩) (.int .i64 0) (.slice none 0 0) (.int .i64 0) := by have h := fbox_new (V2) (.int .i64 0) (.string ⟨#[]⟩) (.int .i64 0) (.slice none 0 0) (.int .i64 0); exact h
                have hg27 : W.heap.size ≤ V2.heap.size := by omega
                go_simp
                clear hHeld
                refine hK.out _ _ ?_ (fun hHeld => ?_)
                · exact KEEP.out _ hw3
                clear hK K
                try simp only [Act.put, List.setIfInBounds_toArray, List.set_cons_zero, List.set_cons_succ]
                refine wpAnyH_ready (rs := [25]) (by kernel_rfl) (by simp) ?_
                refine AllReadyH.cons (o := ?o62) ?ho62 (fun K hK => ?st62) AllReadyH.nil
                case ho62 => (simp only [List.getElem?_toArray, List.getElem?_cons_succ, List.getElem?_cons_zero]; rfl)
                case st62 =>
                  go_simp
                  go_at_call 53
                  refine (RB.out _ hw3).mono ?_; rintro e V4 ⟨tb, ab, cb, fb', rfl, hR25, hw4, hs4⟩
                  have HR25 := Lib.hid hR25
                  have hl4 : W.heap.size ≤ V4.heap.size := hw4.step.size
                  have hz4_26 : FBox V4 (W.heap.size) (.int .i64 0) (.string ⟨#[]⟩) (.int .i64 0) (.slice none 0 0) (.int .i64 0) := hz3_26.call hs4 (NOW.out _ hg26)
                  have hz4_27 : FBox V4 (V2.heap.size) (.int .i64 0) (.string ⟨#[]⟩) (.int .i64 0) (.slice none 0 0) (.int .i64 0) := hz3_27.call hs4 (NOW.out _ hg27)
                  have hlt4_26 : W.heap.size < V4.heap.size := hz4_26.lt
                  have hlt4_27 : V2.heap.size < V4.heap.size := hz4_27.lt
                  clear hs4 hR25
                  clear hHeld
                  refine hK.out _ _ ?_ (fun hHeld => ?_)
                  · exact KEEP.out _ hw4
                  clear hK K
                  try simp only [Act.put, List.setIfInBounds_toArray, List.set_cons_zero, List.set_cons_succ]
                  have hne : (W.heap.size) ≠ (V2.heap.size) := by omega
                  have hne' : (V2.heap.size) ≠ (W.heap.size) := by omega
                  obtain ⟨Vf, hVf⟩ : ∃ Vf, Vf = V4 := ⟨_, rfl⟩
                  rw [← hVf] at hw4 hz4_26 hz4_27 hHeld ⊢
                  have HWF := Lib.hid hw4
                  have HZA := Lib.hid hz4_26
                  have HZB := Lib.hid hz4_27
                  clear hVf
                  have HW1 := Lib.hid (HWF.out.set5 (k0 := fun _ => True) RW.out HLT.out hg26 (.int .i64 ta.kind) (.string ta.name) (.int .i64 ta.n) (.slice aa ta.args.length ca) (.int .i64 fa) rfl)
                  have HW2 := Lib.hid (HW1.out.set5 (k0 := fun _ => True) RW.out HLT.out hg27 (.int .i64 tb.kind) (.string tb.name) (.int .i64 tb.n) (.slice ab tb.args.length cb) (.int .i64 fb') rfl)
                  have HZB2 := Lib.hid (HZB.out.aside hne' 0 1 2 3 4 (.int .i64 ta.kind) (.string ta.name) (.int .i64 ta.n) (.slice aa ta.args.length ca) (.int .i64 fa))
                  refine wpAnyH_ready (rs := [28]) (by kernel_rfl) (by simp) ?_
                  refine AllReadyH.cons (o := ?o63) ?ho63 (fun K hK => ?st63) AllReadyH.nil
                  case ho63 => (simp only [List.getElem?_toArray, List.getElem?_cons_succ, List.getElem?_cons_zero]; rfl)
                  refine store_part (i := 7) (j := 42) rfl rfl (by rfl) (by rfl) HZA.out ?_
                  clear hHeld
                  refine hK.out _ _ ?_ (fun hHeld => ?_)
                  · exact KEEP.out _ HW1.out
                  clear hK K
                  try simp only [Act.put]
                  refine wpAnyH_ready (rs := [29]) (by kernel_rfl) (by simp) ?_
                  refine AllReadyH.cons (o := ?o64) ?ho64 (fun K hK => ?st64) AllReadyH.nil
                  case ho64 => (simp only [List.getElem?_toArray, List.getElem?_cons_succ, List.getElem?_cons_zero]; rfl)
                  refine store_part (i := 8) (j := 55) rfl rfl (by rfl) (by rfl) HZB2.out ?_
                  clear hHeld
                  refine hK.out _ _ ?_ (fun hHeld => ?_)
                  · exact KEEP.out _ HW2.out
                  clear hK K
                  try simp only [Act.put]
                  refine wpAnyH_done (by kernel_rfl) ?_ _
                  go_wp2_with fail
                  go_meet
                  case rel => exact ⟨_, _, ⟨⟨ta, aa, ca⟩, fa⟩, ⟨⟨tb, ab, cb⟩, fb'⟩, rfl, rfl, Lib.hid ⟨wc_sets ⟨⟨ta, aa, ca⟩, fa⟩ ⟨⟨tb, ab, cb⟩, fb'⟩ HWF.out RW.out HLT.out HZA.out HZB.out hne hg26 hg27 rfl, HR12.out, HR25.out⟩⟩
            case st55 =>
              have hw2 : Way w1 W fb bm vb vn l (((W.alloc (.cells #[.int .i64 0, .string ⟨#[]⟩, .int .i64 0, .slice none 0 0, .int .i64 0] 83)).alloc (.cells #[.int .i64 0, .string ⟨#[]⟩, .int .i64 0, .slice none 0 0, .int .i64 0] 83)).drew) := WD.out _ (WA.out _ _ hx1)
              have hx2 : Way w1 W fb bm vb vn l (((W.alloc (.cells #[.int .i64 0, .string ⟨#[]⟩, .int .i64 0, .slice none 0 0, .int .i64 0] 83)).alloc (.cells #[.int .i64 0, .string ⟨#[]⟩, .int .i64 0, .slice none 0 0, .int .i64 0] 83))) := WA.out _ _ hx1
              have hz2_26 : FBox (((W.alloc (.cells #[.int .i64 0, .string ⟨#[]⟩, .int .i64 0, .slice none 0 0, .int .i64 0] 83)).alloc (.cells #[.int .i64 0, .string ⟨#[]⟩, .int .i64 0, .slice none 0 0, .int .i64 0] 83)).drew) (W.heap.size) (.int .i64 0) (.string ⟨#[]⟩) (.int .i64 0) (.slice none 0 0) (.int .i64 0) := hz1_26.alloc _
              have hz2_27 : FBox (((W.alloc (.cells #[.int .i64 0, .string ⟨#[]⟩, .int .i64 0, .slice none 0 0, .int .i64 0] 83)).alloc (.cells #[.int .i64 0, .string ⟨#[]⟩, .int .i64 0, .slice none 0 0, .int .i64 0] 83)).drew) (W.heap.size + 1) (.int .i64 0) (.string ⟨#[]⟩) (.int .i64 0) (.slice none 0 0) (.int .i64 0) := by have h := fbox_new ((W.alloc (.cells #[.int .i64 0, .string ⟨#[]⟩, .int .i64 0, .slice none 0 0, .int .i64 0] 83))) (.int .i64 0) (.string ⟨#[]⟩) (.int .i64 0) (.slice none 0 0) (.int .i64 0); rw [show ((W.alloc (.cells #[.int .i64 0, .string ⟨#[]⟩, .int .i64 0, .slice none 0 0, .int .i64 0] 83))).heap.size = W.heap.size + 1 from by simp] at h; exact h
              have hg27 : W.heap.size ≤ W.heap.size + 1 := by omega
              go_simp
              clear hHeld
              refine hK.out _ _ ?_ (fun hHeld => ?_)
              · exact KEEP.out _ hw2
              clear hK K
              try simp only [Act.put, List.setIfInBounds_toArray, List.set_cons_zero, List.set_cons_succ]
              refine wpAnyH_ready (rs := [12]) (by kernel_rfl) (by simp) ?_
              refine AllReadyH.cons (o := ?o65) ?ho65 (fun K hK => ?st65) AllReadyH.nil
              case ho65 => (simp only [List.getElem?_toArray, List.getElem?_cons_succ, List.getElem?_cons_zero]; rfl)
              case st65 =>
                go_simp
                go_at_call 53
                refine (RA.out _ hw2).mono ?_; rintro e V3 ⟨ta, aa, ca, fa, rfl, hR12, hw3, hs3⟩
                have HR12 := Lib.hid hR12
                have hl3 : W.heap.size ≤ V3.heap.size := hw3.step.size
                have hz3_26 : FBox V3 (W.heap.size) (.int .i64 0) (.string ⟨#[]⟩) (.int .i64 0) (.slice none 0 0) (.int .i64 0) := hz2_26.call hs3 (NOW.out _ hg26)
                have hz3_27 : FBox V3 (W.heap.size + 1) (.int .i64 0) (.string ⟨#[]⟩) (.int .i64 0) (.slice none 0 0) (.int .i64 0) := hz2_27.call hs3 (NOW.out _ hg27)
                have hlt3_26 : W.heap.size < V3.heap.size := hz3_26.lt
                have hlt3_27 : W.heap.size + 1 < V3.heap.size := hz3_27.lt
                clear hs3 hR12
                clear hHeld
                refine hK.out _ _ ?_ (fun hHeld => ?_)
                · exact KEEP.out _ hw3
                clear hK K
                try simp only [Act.put, List.setIfInBounds_toArray, List.set_cons_zero, List.set_cons_succ]
                refine wpAnyH_ready (rs := [25]) (by kernel_rfl) (by simp) ?_
                refine AllReadyH.cons (o := ?o66) ?ho66 (fun K hK => ?st66) AllReadyH.nil
                case ho66 => (simp only [List.getElem?_toArray, List.getElem?_cons_succ, List.getElem?_cons_zero]; rfl)
                case st66 =>
                  go_simp
                  go_at_call 53
                  refine (RB.out _ hw3).mono ?_; rintro e V4 ⟨tb, ab, cb, fb', rfl, hR25, hw4, hs4⟩
                  have HR25 := Lib.hid hR25
                  have hl4 : W.heap.size ≤ V4.heap.size := hw4.step.size
                  have hz4_26 : FBox V4 (W.heap.size) (.int .i64 0) (.string ⟨#[]⟩) (.int .i64 0) (.slice none 0 0) (.int .i64 0) := hz3_26.call hs4 (NOW.out _ hg26)
                  have hz4_27 : FBox V4 (W.heap.size + 1) (.int .i64 0) (.string ⟨#[]⟩) (.int .i64 0) (.slice none 0 0) (.int .i64 0) := hz3_27.call hs4 (NOW.out _ hg27)
                  have hlt4_26 : W.heap.size < V4.heap.size := hz4_26.lt
                  have hlt4_27 : W.heap.size + 1 < V4.heap.size := hz4_27.lt
                  clear hs4 hR25
                  clear hHeld
                  refine hK.out _ _ ?_ (fun hHeld => ?_)
                  · exact KEEP.out _ hw4
                  clear hK K
                  try simp only [Act.put, List.setIfInBounds_toArray, List.set_cons_zero, List.set_cons_succ]
                  have hne : (W.heap.size) ≠ (W.heap.size + 1) := by omega
                  have hne' : (W.heap.size + 1) ≠ (W.heap.size) := by omega
                  obtain ⟨Vf, hVf⟩ : ∃ Vf, Vf = V4 := ⟨_, rfl⟩
                  rw [← hVf] at hw4 hz4_26 hz4_27 hHeld ⊢
                  have HWF := Lib.hid hw4
                  have HZA := Lib.hid hz4_26
                  have HZB := Lib.hid hz4_27
                  clear hVf
                  have HW1 := Lib.hid (HWF.out.set5 (k0 := fun _ => True) RW.out HLT.out hg26 (.int .i64 ta.kind) (.string ta.name) (.int .i64 ta.n) (.slice aa ta.args.length ca) (.int .i64 fa) rfl)
                  have HW2 := Lib.hid (HW1.out.set5 (k0 := fun _ => True) RW.out HLT.out hg27 (.int .i64 tb.kind) (.string tb.name) (.int .i64 tb.n) (.slice ab tb.args.length cb) (.int .i64 fb') rfl)
                  have HZB2 := Lib.hid (HZB.out.aside hne' 0 1 2 3 4 (.int .i64 ta.kind) (.string ta.name) (.int .i64 ta.n) (.slice aa ta.args.length ca) (.int .i64 fa))
                  refine wpAnyH_ready (rs := [28]) (by kernel_rfl) (by simp) ?_
                  refine AllReadyH.cons (o := ?o67) ?ho67 (fun K hK => ?st67) AllReadyH.nil
                  case ho67 => (simp only [List.getElem?_toArray, List.getElem?_cons_succ, List.getElem?_cons_zero]; rfl)
                  refine store_part (i := 7) (j := 42) rfl rfl (by rfl) (by rfl) HZA.out ?_
                  clear hHeld
                  refine hK.out _ _ ?_ (fun hHeld => ?_)
                  · exact KEEP.out _ HW1.out
                  clear hK K
                  try simp only [Act.put]
                  refine wpAnyH_ready (rs := [29]) (by kernel_rfl) (by simp) ?_
                  refine AllReadyH.cons (o := ?o68) ?ho68 (fun K hK => ?st68) AllReadyH.nil
                  case ho68 => (simp only [List.getElem?_toArray, List.getElem?_cons_succ, List.getElem?_cons_zero]; rfl)
                  refine store_part (i := 8) (j := 55) rfl rfl (by rfl) (by rfl) HZB2.out ?_
                  clear hHeld
                  refine hK.out _ _ ?_ (fun hHeld => ?_)
                  · exact KEEP.out _ HW2.out
                  clear hK K
                  try simp only [Act.put]
                  refine wpAnyH_done (by kernel_rfl) ?_ _
                  go_wp2_with fail
                  go_meet
                  case rel => exact ⟨_, _, ⟨⟨ta, aa, ca⟩, fa⟩, ⟨⟨tb, ab, cb⟩, fb'⟩, rfl, rfl, Lib.hid ⟨wc_sets ⟨⟨ta, aa, ca⟩, fa⟩ ⟨⟨tb, ab, cb⟩, fb'⟩ HWF.out RW.out HLT.out HZA.out HZB.out hne hg26 hg27 rfl, HR12.out, HR25.out⟩⟩
          case st25 =>
            have hw1 : Way w1 W fb bm vb vn l ((W.alloc (.cells #[.int .i64 0, .string ⟨#[]⟩, .int .i64 0, .slice none 0 0, .int .i64 0] 83)).drew) := WD.out _ (WA.out _ _ hx0)
            have hx1 : Way w1 W fb bm vb vn l ((W.alloc (.cells #[.int .i64 0, .string ⟨#[]⟩, .int .i64 0, .slice none 0 0, .int .i64 0] 83))) := WA.out _ _ hx0
            have hz1_27 : FBox ((W.alloc (.cells #[.int .i64 0, .string ⟨#[]⟩, .int .i64 0, .slice none 0 0, .int .i64 0] 83)).drew) (W.heap.size) (.int .i64 0) (.string ⟨#[]⟩) (.int .i64 0) (.slice none 0 0) (.int .i64 0) := by have h := fbox_new (W) (.int .i64 0) (.string ⟨#[]⟩) (.int .i64 0) (.slice none 0 0) (.int .i64 0); exact h
            have hg27 : W.heap.size ≤ W.heap.size := by omega
            go_simp
            clear hHeld
            refine hK.out _ _ ?_ (fun hHeld => ?_)
            · exact KEEP.out _ hw1
            clear hK K
            try simp only [Act.put, List.setIfInBounds_toArray, List.set_cons_zero, List.set_cons_succ]
            refine wpAnyH_ready (rs := [12, 26]) (by kernel_rfl) (by simp) ?_
            refine AllReadyH.cons (o := ?o70) ?ho70 (fun K hK => ?st70) (AllReadyH.cons (o := ?o69) ?ho69 (fun K hK => ?st69) AllReadyH.nil)
            case ho70 => (simp only [List.getElem?_toArray, List.getElem?_cons_succ, List.getElem?_cons_zero]; rfl)
            case ho69 => (simp only [List.getElem?_toArray, List.getElem?_cons_succ, List.getElem?_cons_zero]; rfl)
            case st70 =>
              go_simp
              go_at_call 53
              refine (RA.out _ hw1).mono ?_; rintro e V2 ⟨ta, aa, ca, fa, rfl, hR12, hw2, hs2⟩
              have HR12 := Lib.hid hR12
              have hl2 : W.heap.size ≤ V2.heap.size := hw2.step.size
              have hz2_27 : FBox V2 (W.heap.size) (.int .i64 0) (.string ⟨#[]⟩) (.int .i64 0) (.slice none 0 0) (.int .i64 0) := hz1_27.call hs2 (NOW.out _ hg27)
              have hlt2_27 : W.heap.size < V2.heap.size := hz2_27.lt
              clear hs2 hR12
              clear hHeld
              refine hK.out _ _ ?_ (fun hHeld => ?_)
              · exact KEEP.out _ hw2
              clear hK K
              try simp only [Act.put, List.setIfInBounds_toArray, List.set_cons_zero, List.set_cons_succ]
              refine wpAnyH_ready (rs := [25, 26]) (by kernel_rfl) (by simp) ?_
              refine AllReadyH.cons (o := ?o72) ?ho72 (fun K hK => ?st72) (AllReadyH.cons (o := ?o71) ?ho71 (fun K hK => ?st71) AllReadyH.nil)
              case ho72 => (simp only [List.getElem?_toArray, List.getElem?_cons_succ, List.getElem?_cons_zero]; rfl)
              case ho71 => (simp only [List.getElem?_toArray, List.getElem?_cons_succ, List.getElem?_cons_zero]; rfl)
              case st72 =>
                go_simp
                go_at_call 53
                refine (RB.out _ hw2).mono ?_; rintro e V3 ⟨tb, ab, cb, fb', rfl, hR25, hw3, hs3⟩
                have HR25 := Lib.hid hR25
                have hl3 : W.heap.size ≤ V3.heap.size := hw3.step.size
                have hz3_27 : FBox V3 (W.heap.size) (.int .i64 0) (.string ⟨#[]⟩) (.int .i64 0) (.slice none 0 0) (.int .i64 0) := hz2_27.call hs3 (NOW.out _ hg27)
                have hlt3_27 : W.heap.size < V3.heap.size := hz3_27.lt
                clear hs3 hR25
                clear hHeld
                refine hK.out _ _ ?_ (fun hHeld => ?_)
                · exact KEEP.out _ hw3
                clear hK K
                try simp only [Act.put, List.setIfInBounds_toArray, List.set_cons_zero, List.set_cons_succ]
                refine wpAnyH_ready (rs := [26]) (by kernel_rfl) (by simp) ?_
                refine AllReadyH.cons (o := ?o73) ?ho73 (fun K hK => ?st73) AllReadyH.nil
                case ho73 => (simp only [List.getElem?_toArray, List.getElem?_cons_succ, List.getElem?_cons_zero]; rfl)
                case st73 =>
                  have hw4 : Way w1 W fb bm vb vn l ((V3.alloc (.cells #[.int .i64 0, .string ⟨#[]⟩, .int .i64 0, .slice none 0 0, .int .i64 0] 83))) := (WA.out _ _ hw3)
                  have hz4_27 : FBox ((V3.alloc (.cells #[.int .i64 0, .string ⟨#[]⟩, .int .i64 0, .slice none 0 0, .int .i64 0] 83))) (W.heap.size) (.int .i64 0) (.string ⟨#[]⟩) (.int .i64 0) (.slice none 0 0) (.int .i64 0) := hz3_27.alloc _
                  have hz4_26 : FBox ((V3.alloc (.cells #[.int .i64 0, .string ⟨#[]⟩, .int .i64 0, .slice none 0 0, .int .i64 0] 83))) (V3.heap.size) (.int .i64 0) (.string ⟨#[]⟩) (.int .i64 0) (.slice none 0 0) (.int .i64 0) := by have h := fbox_new (V3) (.int .i64 0) (.string ⟨#[]⟩) (.int .i64 0) (.slice none 0 0) (.int .i64 0); exact h
                  have hg26 : W.heap.size ≤ V3.heap.size := by omega
                  go_simp
                  clear hHeld
                  refine hK.out _ _ ?_ (fun hHeld => ?_)
                  · exact KEEP.out _ hw4
                  clear hK K
                  try simp only [Act.put, List.setIfInBounds_toArray, List.set_cons_zero, List.set_cons_succ]
                  have hne : (V3.heap.size) ≠ (W.heap.size) := by omega
                  have hne' : (W.heap.size) ≠ (V3.heap.size) := by omega
                  obtain ⟨Vf, hVf⟩ : ∃ Vf, Vf = (V3.alloc (.cells #[.int .i64 0, .string ⟨#[]⟩, .int .i64 0, .slice none 0 0, .int .i64 0] 83)) := ⟨_, rfl⟩
                  rw [← hVf] at hw4 hz4_26 hz4_27 hHeld ⊢
                  have HWF := Lib.hid hw4
                  have HZA := Lib.hid hz4_26
                  have HZB := Lib.hid hz4_27
                  clear hVf
                  have HW1 := Lib.hid (HWF.out.set5 (k0 := fun _ => True) RW.out HLT.out hg26 (.int .i64 ta.kind) (.string ta.name) (.int .i64 ta.n) (.slice aa ta.args.length ca) (.int .i64 fa) rfl)
                  have HW2 := Lib.hid (HW1.out.set5 (k0 := fun _ => True) RW.out HLT.out hg27 (.int .i64 tb.kind) (.string tb.name) (.int .i64 tb.n) (.slice ab tb.args.length cb) (.int .i64 fb') rfl)
                  have HZB2 := Lib.hid (HZB.out.aside hne' 0 1 2 3 4 (.int .i64 ta.kind) (.string ta.name) (.int .i64 ta.n) (.slice aa ta.args.length ca) (.int .i64 fa))
                  refine wpAnyH_ready (rs := [28]) (by kernel_rfl) (by simp) ?_
                  refine AllReadyH.cons (o := ?o74) ?ho74 (fun K hK => ?st74) AllReadyH.nil
                  case ho74 => (simp only [List.getElem?_toArray, List.getElem?_cons_succ, List.getElem?_cons_zero]; rfl)
                  refine store_part (i := 7) (j := 42) rfl rfl (by rfl) (by rfl) HZA.out ?_
                  clear hHeld
                  refine hK.out _ _ ?_ (fun hHeld => ?_)
                  · exact KEEP.out _ HW1.out
                  clear hK K
                  try simp only [Act.put]
                  refine wpAnyH_ready (rs := [29]) (by kernel_rfl) (by simp) ?_
                  refine AllReadyH.cons (o := ?o75) ?ho75 (fun K hK => ?st75) AllReadyH.nil
                  case ho75 => (simp only [List.getElem?_toArray, List.getElem?_cons_succ, List.getElem?_cons_zero]; rfl)
                  refine store_part (i := 8) (j := 55) rfl rfl (by rfl) (by rfl) HZB2.out ?_
                  clear hHeld
                  refine hK.out _ _ ?_ (fun hHeld => ?_)
                  · exact KEEP.out _ HW2.out
                  clear hK K
                  try simp only [Act.put]
                  refine wpAnyH_done (by kernel_rfl) ?_ _
                  go_wp2_with fail
                  go_meet
                  case rel => exact ⟨_, _, ⟨⟨ta, aa, ca⟩, fa⟩, ⟨⟨tb, ab, cb⟩, fb'⟩, rfl, rfl, Lib.hid ⟨wc_sets ⟨⟨ta, aa, ca⟩, fa⟩ ⟨⟨tb, ab, cb⟩, fb'⟩ HWF.out RW.out HLT.out HZA.out HZB.out hne hg26 hg27 rfl, HR12.out, HR25.out⟩⟩
              case st71 =>
                have hw3 : Way w1 W fb bm vb vn l ((V2.alloc (.cells #[.int .i64 0, .string ⟨#[]⟩, .int .i64 0, .slice none 0 0, .int .i64 0] 83))) := (WA.out _ _ hw2)
                have hz3_27 : FBox ((V2.alloc (.cells #[.int .i64 0, .string ⟨#[]⟩, .int .i64 0, .slice none 0 0, .int .i64 0] 83))) (W.heap.size) (.int .i64 0) (.string ⟨#[]⟩) (.int .i64 0) (.slice none 0 0) (.int .i64 0) := hz2_27.alloc _
                have hz3_26 : FBox ((V2.alloc (.cells #[.int .i64 0, .string ⟨#[]⟩, .int .i64 0, .slice none 0 0, .int .i64 0] 83))) (V2.heap.size) (.int .i64 0) (.string ⟨#[]⟩) (.int .i64 0) (.slice none 0 0) (.int .i64 0) := by have h := fbox_new (V2) (.int .i64 0) (.string ⟨#[]⟩) (.int .i64 0) (.slice none 0 0) (.int .i64 0); exact h
                have hg26 : W.heap.size ≤ V2.heap.size := by omega
                go_simp
                clear hHeld
                refine hK.out _ _ ?_ (fun hHeld => ?_)
                · exact KEEP.out _ hw3
                clear hK K
                try simp only [Act.put, List.setIfInBounds_toArray, List.set_cons_zero, List.set_cons_succ]
                refine wpAnyH_ready (rs := [25]) (by kernel_rfl) (by simp) ?_
                refine AllReadyH.cons (o := ?o76) ?ho76 (fun K hK => ?st76) AllReadyH.nil
                case ho76 => (simp only [List.getElem?_toArray, List.getElem?_cons_succ, List.getElem?_cons_zero]; rfl)
                case st76 =>
                  go_simp
                  go_at_call 53
                  refine (RB.out _ hw3).mono ?_; rintro e V4 ⟨tb, ab, cb, fb', rfl, hR25, hw4, hs4⟩
                  have HR25 := Lib.hid hR25
                  have hl4 : W.heap.size ≤ V4.heap.size := hw4.step.size
                  have hz4_27 : FBox V4 (W.heap.size) (.int .i64 0) (.string ⟨#[]⟩) (.int .i64 0) (.slice none 0 0) (.int .i64 0) := hz3_27.call hs4 (NOW.out _ hg27)
                  have hz4_26 : FBox V4 (V2.heap.size) (.int .i64 0) (.string ⟨#[]⟩) (.int .i64 0) (.slice none 0 0) (.int .i64 0) := hz3_26.call hs4 (NOW.out _ hg26)
                  have hlt4_27 : W.heap.size < V4.heap.size := hz4_27.lt
                  have hlt4_26 : V2.heap.size < V4.heap.size := hz4_26.lt
                  clear hs4 hR25
                  clear hHeld
                  refine hK.out _ _ ?_ (fun hHeld => ?_)
                  · exact KEEP.out _ hw4
                  clear hK K
                  try simp only [Act.put, List.setIfInBounds_toArray, List.set_cons_zero, List.set_cons_succ]
                  have hne : (V2.heap.size) ≠ (W.heap.size) := by omega
                  have hne' : (W.heap.size) ≠ (V2.heap.size) := by omega
                  obtain ⟨Vf, hVf⟩ : ∃ Vf, Vf = V4 := ⟨_, rfl⟩
                  rw [← hVf] at hw4 hz4_26 hz4_27 hHeld ⊢
                  have HWF := Lib.hid hw4
                  have HZA := Lib.hid hz4_26
                  have HZB := Lib.hid hz4_27
                  clear hVf
                  have HW1 := Lib.hid (HWF.out.set5 (k0 := fun _ => True) RW.out HLT.out hg26 (.int .i64 ta.kind) (.string ta.name) (.int .i64 ta.n) (.slice aa ta.args.length ca) (.int .i64 fa) rfl)
                  have HW2 := Lib.hid (HW1.out.set5 (k0 := fun _ => True) RW.out HLT.out hg27 (.int .i64 tb.kind) (.string tb.name) (.int .i64 tb.n) (.slice ab tb.args.length cb) (.int .i64 fb') rfl)
                  have HZB2 := Lib.hid (HZB.out.aside hne' 0 1 2 3 4 (.int .i64 ta.kind) (.string ta.name) (.int .i64 ta.n) (.slice aa ta.args.length ca) (.int .i64 fa))
                  refine wpAnyH_ready (rs := [28]) (by kernel_rfl) (by simp) ?_
                  refine AllReadyH.cons (o := ?o77) ?ho77 (fun K hK => ?st77) AllReadyH.nil
                  case ho77 => (simp only [List.getElem?_toArray, List.getElem?_cons_succ, List.getElem?_cons_zero]; rfl)
                  refine store_part (i := 7) (j := 42) rfl rfl (by rfl) (by rfl) HZA.out ?_
                  clear hHeld
                  refine hK.out _ _ ?_ (fun hHeld => ?_)
                  · exact KEEP.out _ HW1.out
                  clear hK K
                  try simp only [Act.put]
                  refine wpAnyH_ready (rs := [29]) (by kernel_rfl) (by simp) ?_
                  refine AllReadyH.cons (o := ?o78) ?ho78 (fun K hK => ?st78) AllReadyH.nil
                  case ho78 => (simp only [List.getElem?_toArray, List.getElem?_cons_succ, List.getElem?_cons_zero]; rfl)
                  refine store_part (i := 8) (j := 55) rfl rfl (by rfl) (by rfl) HZB2.out ?_
                  clear hHeld
                  refine hK.out _ _ ?_ (fun hHeld => ?_)
                  · exact KEEP.out _ HW2.out
                  clear hK K
                  try simp only [Act.put]
                  refine wpAnyH_done (by kernel_rfl) ?_ _
                  go_wp2_with fail
                  go_meet
                  case rel => exact ⟨_, _, ⟨⟨ta, aa, ca⟩, fa⟩, ⟨⟨tb, ab, cb⟩, fb'⟩, rfl, rfl, Lib.hid ⟨wc_sets ⟨⟨ta, aa, ca⟩, fa⟩ ⟨⟨tb, ab, cb⟩, fb'⟩ HWF.out RW.out HLT.out HZA.out HZB.out hne hg26 hg27 rfl, HR12.out, HR25.out⟩⟩
            case st69 =>
              have hw2 : Way w1 W fb bm vb vn l (((W.alloc (.cells #[.int .i64 0, .string ⟨#[]⟩, .int .i64 0, .slice none 0 0, .int .i64 0] 83)).alloc (.cells #[.int .i64 0, .string ⟨#[]⟩, .int .i64 0, .slice none 0 0, .int .i64 0] 83)).drew) := WD.out _ (WA.out _ _ hx1)
              have hx2 : Way w1 W fb bm vb vn l (((W.alloc (.cells #[.int .i64 0, .string ⟨#[]⟩, .int .i64 0, .slice none 0 0, .int .i64 0] 83)).alloc (.cells #[.int .i64 0, .string ⟨#[]⟩, .int .i64 0, .slice none 0 0, .int .i64 0] 83))) := WA.out _ _ hx1
              have hz2_27 : FBox (((W.alloc (.cells #[.int .i64 0, .string ⟨#[]⟩, .int .i64 0, .slice none 0 0, .int .i64 0] 83)).alloc (.cells #[.int .i64 0, .string ⟨#[]⟩, .int .i64 0, .slice none 0 0, .int .i64 0] 83)).drew) (W.heap.size) (.int .i64 0) (.string ⟨#[]⟩) (.int .i64 0) (.slice none 0 0) (.int .i64 0) := hz1_27.alloc _
              have hz2_26 : FBox (((W.alloc (.cells #[.int .i64 0, .string ⟨#[]⟩, .int .i64 0, .slice none 0 0, .int .i64 0] 83)).alloc (.cells #[.int .i64 0, .string ⟨#[]⟩, .int .i64 0, .slice none 0 0, .int .i64 0] 83)).drew) (W.heap.size + 1) (.int .i64 0) (.string ⟨#[]⟩) (.int .i64 0) (.slice none 0 0) (.int .i64 0) := by have h := fbox_new ((W.alloc (.cells #[.int .i64 0, .string ⟨#[]⟩, .int .i64 0, .slice none 0 0, .int .i64 0] 83))) (.int .i64 0) (.string ⟨#[]⟩) (.int .i64 0) (.slice none 0 0) (.int .i64 0); rw [show ((W.alloc (.cells #[.int .i64 0, .string ⟨#[]⟩, .int .i64 0, .slice none 0 0, .int .i64 0] 83))).heap.size = W.heap.size + 1 from by simp] at h; exact h
              have hg26 : W.heap.size ≤ W.heap.size + 1 := by omega
              go_simp
              clear hHeld
              refine hK.out _ _ ?_ (fun hHeld => ?_)
              · exact KEEP.out _ hw2
              clear hK K
              try simp only [Act.put, List.setIfInBounds_toArray, List.set_cons_zero, List.set_cons_succ]
              refine wpAnyH_ready (rs := [12]) (by kernel_rfl) (by simp) ?_
              refine AllReadyH.cons (o := ?o79) ?ho79 (fun K hK => ?st79) AllReadyH.nil
              case ho79 => (simp only [List.getElem?_toArray, List.getElem?_cons_succ, List.getElem?_cons_zero]; rfl)
              case st79 =>
                go_simp
                go_at_call 53
                refine (RA.out _ hw2).mono ?_; rintro e V3 ⟨ta, aa, ca, fa, rfl, hR12, hw3, hs3⟩
                have HR12 := Lib.hid hR12
                have hl3 : W.heap.size ≤ V3.heap.size := hw3.step.size
                have hz3_27 : FBox V3 (W.heap.size) (.int .i64 0) (.string ⟨#[]⟩) (.int .i64 0) (.slice none 0 0) (.int .i64 0) := hz2_27.call hs3 (NOW.out _ hg27)
                have hz3_26 : FBox V3 (W.heap.size + 1) (.int .i64 0) (.string ⟨#[]⟩) (.int .i64 0) (.slice none 0 0) (.int .i64 0) := hz2_26.call hs3 (NOW.out _ hg26)
                have hlt3_27 : W.heap.size < V3.heap.size := hz3_27.lt
                have hlt3_26 : W.heap.size + 1 < V3.heap.size := hz3_26.lt
                clear hs3 hR12
                clear hHeld
                refine hK.out _ _ ?_ (fun hHeld => ?_)
                · exact KEEP.out _ hw3
                clear hK K
                try simp only [Act.put, List.setIfInBounds_toArray, List.set_cons_zero, List.set_cons_succ]
                refine wpAnyH_ready (rs := [25]) (by kernel_rfl) (by simp) ?_
                refine AllReadyH.cons (o := ?o80) ?ho80 (fun K hK => ?st80) AllReadyH.nil
                case ho80 => (simp only [List.getElem?_toArray, List.getElem?_cons_succ, List.getElem?_cons_zero]; rfl)
                case st80 =>
                  go_simp
                  go_at_call 53
                  refine (RB.out _ hw3).mono ?_; rintro e V4 ⟨tb, ab, cb, fb', rfl, hR25, hw4, hs4⟩
                  have HR25 := Lib.hid hR25
                  have hl4 : W.heap.size ≤ V4.heap.size := hw4.step.size
                  have hz4_27 : FBox V4 (W.heap.size) (.int .i64 0) (.string ⟨#[]⟩) (.int .i64 0) (.slice none 0 0) (.int .i64 0) := hz3_27.call hs4 (NOW.out _ hg27)
                  have hz4_26 : FBox V4 (W.heap.size + 1) (.int .i64 0) (.string ⟨#[]⟩) (.int .i64 0) (.slice none 0 0) (.int .i64 0) := hz3_26.call hs4 (NOW.out _ hg26)
                  have hlt4_27 : W.heap.size < V4.heap.size := hz4_27.lt
                  have hlt4_26 : W.heap.size + 1 < V4.heap.size := hz4_26.lt
                  clear hs4 hR25
                  clear hHeld
                  refine hK.out _ _ ?_ (fun hHeld => ?_)
                  · exact KEEP.out _ hw4
                  clear hK K
                  try simp only [Act.put, List.setIfInBounds_toArray, List.set_cons_zero, List.set_cons_succ]
                  have hne : (W.heap.size + 1) ≠ (W.heap.size) := by omega
                  have hne' : (W.heap.size) ≠ (W.heap.size + 1) := by omega
                  obtain ⟨Vf, hVf⟩ : ∃ Vf, Vf = V4 := ⟨_, rfl⟩
                  rw [← hVf] at hw4 hz4_26 hz4_27 hHeld ⊢
                  have HWF := Lib.hid hw4
                  have HZA := Lib.hid hz4_26
                  have HZB := Lib.hid hz4_27
                  clear hVf
                  have HW1 := Lib.hid (HWF.out.set5 (k0 := fun _ => True) RW.out HLT.out hg26 (.int .i64 ta.kind) (.string ta.name) (.int .i64 ta.n) (.slice aa ta.args.length ca) (.int .i64 fa) rfl)
                  have HW2 := Lib.hid (HW1.out.set5 (k0 := fun _ => True) RW.out HLT.out hg27 (.int .i64 tb.kind) (.string tb.name) (.int .i64 tb.n) (.slice ab tb.args.length cb) (.int .i64 fb') rfl)
                  have HZB2 := Lib.hid (HZB.out.aside hne' 0 1 2 3 4 (.int .i64 ta.kind) (.string ta.name) (.int .i64 ta.n) (.slice aa ta.args.length ca) (.int .i64 fa))
                  refine wpAnyH_ready (rs := [28]) (by kernel_rfl) (by simp) ?_
                  refine AllReadyH.cons (o := ?o81) ?ho81 (fun K hK => ?st81) AllReadyH.nil
                  case ho81 => (simp only [List.getElem?_toArray, List.getElem?_cons_succ, List.getElem?_cons_zero]; rfl)
                  refine store_part (i := 7) (j := 42) rfl rfl (by rfl) (by rfl) HZA.out ?_
                  clear hHeld
                  refine hK.out _ _ ?_ (fun hHeld => ?_)
                  · exact KEEP.out _ HW1.out
                  clear hK K
                  try simp only [Act.put]
                  refine wpAnyH_ready (rs := [29]) (by kernel_rfl) (by simp) ?_
                  refine AllReadyH.cons (o := ?o82) ?ho82 (fun K hK => ?st82) AllReadyH.nil
                  case ho82 => (simp only [List.getElem?_toArray, List.getElem?_cons_succ, List.getElem?_cons_zero]; rfl)
                  refine store_part (i := 8) (j := 55) rfl rfl (by rfl) (by rfl) HZB2.out ?_
                  clear hHeld
                  refine hK.out _ _ ?_ (fun hHeld => ?_)
                  · exact KEEP.out _ HW2.out
                  clear hK K
                  try simp only [Act.put]
                  refine wpAnyH_done (by kernel_rfl) ?_ _
                  go_wp2_with fail
                  go_meet
                  case rel => exact ⟨_, _, ⟨⟨ta, aa, ca⟩, fa⟩, ⟨⟨tb, ab, cb⟩, fb'⟩, rfl, rfl, Lib.hid ⟨wc_sets ⟨⟨ta, aa, ca⟩, fa⟩ ⟨⟨tb, ab, cb⟩, fb'⟩ HWF.out RW.out HLT.out HZA.out HZB.out hne hg26 hg27 rfl, HR12.out, HR25.out⟩⟩
        case rest => as_aux_lemma =>
          obtain ⟨ga, gb, ⟨⟨ta, aa, ca⟩, fa⟩, ⟨⟨tb, ab, cb⟩, fb'⟩, rfl, rfl, HC⟩ := hcut
          have kc := KEEP.out wc HC.out.1.way
          obtain ⟨⟨s0, s1, _, _⟩, _, _⟩ := kc
          have k4 := HTP.out.same (HC.out.1.way.step.keep rb hrl (fun e => HRB.out.2.2 (.inr (.inr (.inr e)))))
          have sf0 := k4.f0
          have sf1 := k4.f1
          clear k4
          have n1 : (1 : Int) ≤ ((ps.length : Nat) : Int) + 1 := by omega
          have n2 : (1 : Int) ≤ ((ts'.length : Nat) : Int) + 1 := by omega
          clear hl1
          go_wp2_with fail
          go_region
          refine world_letter (R := Exit.then _ _ Exit.normal) (fun X => WX w0 w w1 n0 fb bm vb vn l rb cap (vs ++ [⟨if c1 = 1 then some ⟨b1, o1, none⟩ else some ⟨b1, o1 + 4, none⟩, c1 - 1, ps, if c2 = 1 then some ⟨b2, o2, none⟩ else some ⟨b2, o2 + 4, none⟩, c2 - 1, ts', f1, f2⟩]) ga ⟨⟨ta, aa, ca⟩, fa⟩ gb ⟨⟨tb, ab, cb⟩, fb'⟩ X) (by
            have h := HC.out.1.top HP.out HRB.out.2.2 HK.out.2.2 HRB.out.1 HRB.out.2.1 HS.out (if c1 = 1 then some ⟨b1, o1, none⟩ else some ⟨b1, o1 + 4, none⟩) (c1 - 1) ps (if c2 = 1 then some ⟨b2, o2, none⟩ else some ⟨b2, o2 + 4, none⟩) (c2 - 1) ts'
            rw [HQ.out] at h
            exact h) ?_
          intro X hX
          have HX := Lib.hid hX
          have HQO := Lib.hid (show Wv.ok w1 l ⟨if c1 = 1 then some ⟨b1, o1, none⟩ else some ⟨b1, o1 + 4, none⟩, c1 - 1, ps, if c2 = 1 then some ⟨b2, o2, none⟩ else some ⟨b2, o2 + 4, none⟩, c2 - 1, ts', f1, f2⟩ from ⟨HLEN.out, by
            have h := HT1.out
            simpa [Addr.add] using h, by
            have h := HT2.out
            simpa [Addr.add] using h, hf1, hf2, HPT.out.1.tail, HPT.out.2.tail⟩)
          obtain ⟨A1, hA1⟩ : ∃ A1, (if c1 = 1 then some (⟨b1, o1, none⟩ : Addr) else some ⟨b1, o1 + 4, none⟩) = A1 := ⟨_, rfl⟩
          obtain ⟨A2, hA2⟩ : ∃ A2, (if c2 = 1 then some (⟨b2, o2, none⟩ : Addr) else some ⟨b2, o2 + 4, none⟩) = A2 := ⟨_, rfl⟩
          rw [hA1, hA2] at HX HQO
          try rw [hA1, hA2]
          have HGE := Lib.hid HK.out.2.2
          clear hA1 hA2 hX s0 s1 sf0 sf1 HK HT1 HT2 KEEP RA RB WR WA WD W0 n1 n2
          have HWT := Lib.hid (show WTop l ⟨some ⟨b1, o1, none⟩, c1, xt :: ps, some ⟨b2, o2, none⟩, c2, yt :: ts', f1, f2⟩ ⟨A1, c1 - 1, ps, A2, c2 - 1, ts', f1, f2⟩ xt yt ⟨ta, fa⟩ ⟨tb, fb'⟩ from ⟨rfl, rfl, rfl, rfl, HC.out.2.1.1, HC.out.2.2.1⟩)
          have HOQ := Lib.hid (show ∀ x ∈ vs ++ [⟨A1, c1 - 1, ps, A2, c2 - 1, ts', f1, f2⟩], Wv.ok w1 l x from fun x hx => by
            rcases List.mem_append.1 hx with h | h
            · exact HOV.out x h
            · rw [List.mem_singleton] at h; subst h; exact HQO.out)
          have HSD := Lib.hid (wpu_side HU.out HWT.out)
          have hpa : PlainT ta := HC.out.2.1.1.plain
          have hpb : PlainT tb := HC.out.2.2.1.plain
          have HPL := Lib.hid (And.intro hpa hpb)
          have hna : ta.name.size ≤ 9223372036854775807 := HC.out.2.1.2.1.len
          have hnb : tb.name.size ≤ 9223372036854775807 := HC.out.2.2.2.1.len
          have VA := Lib.hid (fun (V : World) => variable_any ⟨ta, aa, ca⟩ V)
          have VB := Lib.hid (fun (V : World) => variable_any ⟨tb, ab, cb⟩ V)
          have hva := varB_plain hpa
          have hvb := varB_plain hpb
          have SM := Lib.hid (fun (V : World) (h : Reads w1 V) => (psame_tm ⟨ta, aa, ca⟩ ⟨tb, ab, cb⟩ V (HC.out.2.1.2.reads h) (HC.out.2.2.2.reads h)).mono (fun e w' hh => (show e = Ending.returned (.bool (eqT ta tb)) ∧ Below V.heap.size V w' from ⟨hh.1, hh.2.below⟩)))
          have AL := Lib.hid (fun (V : World) => ulike_any ⟨ta, aa, ca⟩ ⟨tb, ab, cb⟩ V)
          simp only [Tv.val] at VA VB SM AL
          clear hpa hpb
          obtain ⟨p0, p1, p2, p3, p4, _, _, _, _, _⟩ := HX.out.one.five
          obtain ⟨q0, q1, q2, q3, q4, _, _, _, _, _⟩ := HX.out.two.five
          simp only [Nat.zero_add] at p0 p1 p2 p3 p4 q0 q1 q2 q3 q4
          by_cases hka : ta.kind = 1
          · rw [hva, decide_eq_true hka] at VA
            have HKA := Lib.hid hka
            clear hka hva hvb
            cases he : eqT ta tb with
            | true =>
              rw [he] at SM
              have HES := Lib.hid (wpu_same HU.out HWT.out HKA.out (eqT_iff.1 he) (q + 1))
              clear he
              go_wp2_with fail
              refine (VA.out _).mono ?_; rintro e X1 ⟨rfl, hb1⟩
              have HX1 := Lib.hid (HX.out.below hb1)
              clear hb1
              clear p0 p1 p2 p3 p4 q0 q1 q2 q3 q4
              obtain ⟨p0, p1, p2, p3, p4, _, _, _, _, _⟩ := HX1.out.one.five
              obtain ⟨q0, q1, q2, q3, q4, _, _, _, _, _⟩ := HX1.out.two.five
              simp only [Nat.zero_add] at p0 p1 p2 p3 p4 q0 q1 q2 q3 q4
              go_wp2_with fail
              refine (SM.out _ HX1.out.step.on).mono ?_; rintro e X2 ⟨rfl, hb2⟩
              have HX2 := Lib.hid (HX1.out.below hb2)
              clear hb2
              clear p0 p1 p2 p3 p4 q0 q1 q2 q3 q4
              go_wp2_with fail
              go_step3
              obtain rfl := HQ.out
              obtain ⟨psx, hFx, hDx⟩ := HX2.out.known
              exact ⟨rfl, _, HES.out.2, ⟨vs ++ [⟨A1, c1 - 1, ps, A2, c2 - 1, ts', f1, f2⟩], l, psx, w1, vb, vn, m, rb, cap, vs.length + 1, _, (by rw [List.length_append, List.length_singleton]), (by rw [List.length_append, List.length_singleton]), rfl, rfl, ⟨hFx, hDx, HGE.out⟩, ⟨HX2.out.pile, HRB.out.1, HRB.out.2.1, HOQ.out⟩, HX2.out.step, HES.out.1⟩⟩
            | false =>
              rw [he] at SM
              have HNE := Lib.hid (show ta ≠ tb from fun e => by rw [eqT_iff.2 e] at he; cases he)
              clear he
              go_wp2_with fail
              refine (VA.out _).mono ?_; rintro e X1 ⟨rfl, hb1⟩
              have HX1 := Lib.hid (HX.out.below hb1)
              clear hb1
              clear p0 p1 p2 p3 p4 q0 q1 q2 q3 q4
              obtain ⟨p0, p1, p2, p3, p4, _, _, _, _, _⟩ := HX1.out.one.five
              obtain ⟨q0, q1, q2, q3, q4, _, _, _, _, _⟩ := HX1.out.two.five
              simp only [Nat.zero_add] at p0 p1 p2 p3 p4 q0 q1 q2 q3 q4
              go_wp2_with fail
              refine (SM.out _ HX1.out.step.on).mono ?_; rintro e X2 ⟨rfl, hb2⟩
              have HX2 := Lib.hid (HX1.out.below hb2)
              clear hb2
              clear p0 p1 p2 p3 p4 q0 q1 q2 q3 q4
              obtain ⟨p0, p1, p2, p3, p4, _, _, _, _, _⟩ := HX2.out.one.five
              obtain ⟨q0, q1, q2, q3, q4, _, _, _, _, _⟩ := HX2.out.two.five
              simp only [Nat.zero_add] at p0 p1 p2 p3 p4 q0 q1 q2 q3 q4
              go_wp2_with fail
              refine (VA.out _).mono ?_; rintro e X3 ⟨rfl, hb3⟩
              have HX3 := Lib.hid (HX2.out.below hb3)
              clear hb3
              clear p0 p1 p2 p3 p4 q0 q1 q2 q3 q4
              obtain ⟨p0, p1, p2, p3, p4, _, _, _, _, _⟩ := HX3.out.one.five
              obtain ⟨q0, q1, q2, q3, q4, _, _, _, _, _⟩ := HX3.out.two.five
              simp only [Nat.zero_add] at p0 p1 p2 p3 p4 q0 q1 q2 q3 q4
              obtain ⟨psx, hFx, hDx⟩ := HX3.out.known
              have BA := Lib.hid (bind_any w1 fb bm vb vn l HSND.out ta.name hna ⟨⟨tb, ab, cb⟩, fb'⟩ psx X3 HC.out.2.2.1.to_ HPL.out.2 HSD.out.2.1 HC.out.2.2.2 HX3.out.step.on hFx hDx (HSD.out.2.2.1 HKA.out))
              have HFX := Lib.hid hFx
              have BP := Lib.hid (wpu_bind HU.out HWT.out (fun x hx => ⟨(HOQ.out x hx).le1, (HOQ.out x hx).le2⟩) HKA.out HNE.out (q + 1))
              obtain ⟨un, hun⟩ : ∃ un, un = (Pt.mk tb fb').whole l := ⟨_, rfl⟩
              have BA2 := Lib.hid (BA.out.mono (fun e w' h => (show BindPost w1 fb bm vb vn l ta.name un X3 e w' from by rw [hun]; exact h)))
              simp only at BP
              rw [← hun] at BP
              simp only [Pv.val] at BA2
              clear hFx hDx BA hun
              go_wp2_with fail
              refine BA2.out.mono ?_; rintro e X4 (⟨ho, rfl, w2, hs2⟩ | ⟨ho, rfl, w2, vb2, vn2, ps2, hF2, hD2, hs2, hv1, hv2⟩)
              · have HE := Lib.hid (And.intro (BP.out.1 ho) (HX3.out.step.trans (hs2.wider (fun k _ h => HGE.out k h))))
                clear ho hs2 BA2 BP p0 p1 p2 p3 p4 q0 q1 q2 q3 q4
                go_wp2_with fail
                simp only [Exit.jump]
                go_ret
                refine ⟨by rw [HE.out.1]; rfl, w2, HE.out.2, fun m hm => ?_⟩
                rw [HE.out.1] at hm; cases hm
              · have H2 := Lib.hid (And.intro ho (And.intro hF2 (And.intro hD2 (And.intro hs2 (And.intro hv1 hv2)))))
                clear ho hF2 hD2 hs2 hv1 hv2 BA2 p0 p1 p2 p3 p4 q0 q1 q2 q3 q4
                go_wp2_with fail
                go_step3
                obtain rfl := HQ.out
                obtain ⟨m2, hw2, hlt2⟩ := BP.out.2 H2.out.1
                have hst2 := HX3.out.step.trans (H2.out.2.2.2.1.wider (fun k _ h => HGE.out k h))
                have hx0 : n0 ≤ X3.heap.size := Nat.le_trans hn0 HX3.out.step.size
                have hpl := HX3.out.pile.lt
                refine ⟨rfl, _, hlt2, ⟨vs ++ [⟨A1, c1 - 1, ps, A2, c2 - 1, ts', f1, f2⟩], l ++ [(ta.name, un)], ps2, w2, vb2, vn2, m2, rb, cap, vs.length + 1, _, (by rw [List.length_append, List.length_singleton]), (by rw [List.length_append, List.length_singleton]), ?_, rfl, ⟨H2.out.2.1, H2.out.2.2.1, ?_⟩, ⟨HX3.out.pile.same (H2.out.2.2.2.1.keep rb hpl HRB.out.2.2), HRB.out.1, H2.out.2.2.2.1.blind rb hpl HRB.out.2.1, fun x hx => (HOQ.out x hx).more H2.out.2.2.2.1.up _⟩, hst2, hw2⟩⟩
                · rfl
                · intro k hk
                  rcases hk with h | h | h | h
                  · exact HGE.out k (.inl h)
                  · exact HGE.out k (.inr (.inl h))
                  · rcases H2.out.2.2.2.2.1 k h with h | h
                    · exact HGE.out k (.inr (.inr (.inl h)))
                    · omega
                  · rcases H2.out.2.2.2.2.2 k h with h | h
                    · exact HGE.out k (.inr (.inr (.inr h)))
                    · omega
          · rw [hva, decide_eq_false hka] at VA
            have HKA := Lib.hid hka
            clear hka hva
            by_cases hkb : tb.kind = 1
            · rw [hvb, decide_eq_true hkb] at VB
              have HKB := Lib.hid hkb
              clear hkb hvb
              go_wp2_with fail
              refine (VA.out _).mono ?_; rintro e X1 ⟨rfl, hb1⟩
              have HX1 := Lib.hid (HX.out.below hb1)
              clear hb1
              clear p0 p1 p2 p3 p4 q0 q1 q2 q3 q4
              obtain ⟨p0, p1, p2, p3, p4, _, _, _, _, _⟩ := HX1.out.one.five
              obtain ⟨q0, q1, q2, q3, q4, _, _, _, _, _⟩ := HX1.out.two.five
              simp only [Nat.zero_add] at p0 p1 p2 p3 p4 q0 q1 q2 q3 q4
              go_wp2_with fail
              refine (VA.out _).mono ?_; rintro e X2 ⟨rfl, hb2⟩
              have HX2 := Lib.hid (HX1.out.below hb2)
              clear hb2
              clear p0 p1 p2 p3 p4 q0 q1 q2 q3 q4
              obtain ⟨p0, p1, p2, p3, p4, _, _, _, _, _⟩ := HX2.out.one.five
              obtain ⟨q0, q1, q2, q3, q4, _, _, _, _, _⟩ := HX2.out.two.five
              simp only [Nat.zero_add] at p0 p1 p2 p3 p4 q0 q1 q2 q3 q4
              go_wp2_with fail
              refine (VB.out _).mono ?_; rintro e X3 ⟨rfl, hb3⟩
              have HX3 := Lib.hid (HX2.out.below hb3)
              clear hb3
              clear p0 p1 p2 p3 p4 q0 q1 q2 q3 q4
              obtain ⟨p0, p1, p2, p3, p4, _, _, _, _, _⟩ := HX3.out.one.five
              obtain ⟨q0, q1, q2, q3, q4, _, _, _, _, _⟩ := HX3.out.two.five
              simp only [Nat.zero_add] at p0 p1 p2 p3 p4 q0 q1 q2 q3 q4
              obtain ⟨psx, hFx, hDx⟩ := HX3.out.known
              have BA := Lib.hid (bind_any w1 fb bm vb vn l HSND.out tb.name hnb ⟨⟨ta, aa, ca⟩, fa⟩ psx X3 HC.out.2.1.1.to_ HPL.out.1 HSD.out.1 HC.out.2.1.2 HX3.out.step.on hFx hDx (HSD.out.2.2.2 HKB.out))
              have HFX := Lib.hid hFx
              have BP := Lib.hid (wpu_bind' HU.out HWT.out (fun x hx => ⟨(HOQ.out x hx).le1, (HOQ.out x hx).le2⟩) HKA.out HKB.out (q + 1))
              obtain ⟨un, hun⟩ : ∃ un, un = (Pt.mk ta fa).whole l := ⟨_, rfl⟩
              have BA2 := Lib.hid (BA.out.mono (fun e w' h => (show BindPost w1 fb bm vb vn l tb.name un X3 e w' from by rw [hun]; exact h)))
              simp only at BP
              rw [← hun] at BP
              simp only [Pv.val] at BA2
              clear hFx hDx BA hun
              go_wp2_with fail
              refine BA2.out.mono ?_; rintro e X4 (⟨ho, rfl, w2, hs2⟩ | ⟨ho, rfl, w2, vb2, vn2, ps2, hF2, hD2, hs2, hv1, hv2⟩)
              · have HE := Lib.hid (And.intro (BP.out.1 ho) (HX3.out.step.trans (hs2.wider (fun k _ h => HGE.out k h))))
                clear ho hs2 BA2 BP p0 p1 p2 p3 p4 q0 q1 q2 q3 q4
                go_wp2_with fail
                simp only [Exit.jump]
                go_ret
                refine ⟨by rw [HE.out.1]; rfl, w2, HE.out.2, fun m hm => ?_⟩
                rw [HE.out.1] at hm; cases hm
              · have H2 := Lib.hid (And.intro ho (And.intro hF2 (And.intro hD2 (And.intro hs2 (And.intro hv1 hv2)))))
                clear ho hF2 hD2 hs2 hv1 hv2 BA2 p0 p1 p2 p3 p4 q0 q1 q2 q3 q4
                go_wp2_with fail
                go_step3
                obtain rfl := HQ.out
                obtain ⟨m2, hw2, hlt2⟩ := BP.out.2 H2.out.1
                have hst2 := HX3.out.step.trans (H2.out.2.2.2.1.wider (fun k _ h => HGE.out k h))
                have hx0 : n0 ≤ X3.heap.size := Nat.le_trans hn0 HX3.out.step.size
                have hpl := HX3.out.pile.lt
                refine ⟨rfl, _, hlt2, ⟨vs ++ [⟨A1, c1 - 1, ps, A2, c2 - 1, ts', f1, f2⟩], l ++ [(tb.name, un)], ps2, w2, vb2, vn2, m2, rb, cap, vs.length + 1, _, (by rw [List.length_append, List.length_singleton]), (by rw [List.length_append, List.length_singleton]), ?_, rfl, ⟨H2.out.2.1, H2.out.2.2.1, ?_⟩, ⟨HX3.out.pile.same (H2.out.2.2.2.1.keep rb hpl HRB.out.2.2), HRB.out.1, H2.out.2.2.2.1.blind rb hpl HRB.out.2.1, fun x hx => (HOQ.out x hx).more H2.out.2.2.2.1.up _⟩, hst2, hw2⟩⟩
                · rfl
                · intro k hk
                  rcases hk with h | h | h | h
                  · exact HGE.out k (.inl h)
                  · exact HGE.out k (.inr (.inl h))
                  · rcases H2.out.2.2.2.2.1 k h with h | h
                    · exact HGE.out k (.inr (.inr (.inl h)))
                    · omega
                  · rcases H2.out.2.2.2.2.2 k h with h | h
                    · exact HGE.out k (.inr (.inr (.inr h)))
                    · omega
            · rw [hvb, decide_eq_false hkb] at VB
              have HKB := Lib.hid hkb
              clear hkb hvb
              cases hlk : likeB ta tb with
              | false =>
                rw [hlk] at AL
                have HO := Lib.hid (wpu_clash HU.out HWT.out HKA.out HKB.out hlk)
                clear hlk
                go_wp2_with fail
                refine (VA.out _).mono ?_; rintro e X1 ⟨rfl, hb1⟩
                have HX1 := Lib.hid (HX.out.below hb1)
                clear hb1
                clear p0 p1 p2 p3 p4 q0 q1 q2 q3 q4
                obtain ⟨p0, p1, p2, p3, p4, _, _, _, _, _⟩ := HX1.out.one.five
                obtain ⟨q0, q1, q2, q3, q4, _, _, _, _, _⟩ := HX1.out.two.five
                simp only [Nat.zero_add] at p0 p1 p2 p3 p4 q0 q1 q2 q3 q4
                go_wp2_with fail
                refine (VA.out _).mono ?_; rintro e X2 ⟨rfl, hb2⟩
                have HX2 := Lib.hid (HX1.out.below hb2)
                clear hb2
                clear p0 p1 p2 p3 p4 q0 q1 q2 q3 q4
                obtain ⟨p0, p1, p2, p3, p4, _, _, _, _, _⟩ := HX2.out.one.five
                obtain ⟨q0, q1, q2, q3, q4, _, _, _, _, _⟩ := HX2.out.two.five
                simp only [Nat.zero_add] at p0 p1 p2 p3 p4 q0 q1 q2 q3 q4
                go_wp2_with fail
                refine (VB.out _).mono ?_; rintro e X3 ⟨rfl, hb3⟩
                have HX3 := Lib.hid (HX2.out.below hb3)
                clear hb3
                clear p0 p1 p2 p3 p4 q0 q1 q2 q3 q4
                obtain ⟨p0, p1, p2, p3, p4, _, _, _, _, _⟩ := HX3.out.one.five
                obtain ⟨q0, q1, q2, q3, q4, _, _, _, _, _⟩ := HX3.out.two.five
                simp only [Nat.zero_add] at p0 p1 p2 p3 p4 q0 q1 q2 q3 q4
                go_wp2_with fail
                refine (AL.out _).mono ?_; rintro e X4 ⟨rfl, hb4⟩
                have HX4 := Lib.hid (HX3.out.below hb4)
                clear hb4
                clear p0 p1 p2 p3 p4 q0 q1 q2 q3 q4
                go_wp2_with fail
                simp only [Exit.jump]
                go_ret
                refine ⟨by rw [HO.out]; rfl, w1, HX4.out.step, fun m hm => ?_⟩
                rw [HO.out] at hm; cases hm
              | true =>
                rw [hlk] at AL
                have HES := Lib.hid (wpu_args (z := ⟨aa, ca, ta.args, ab, cb, tb.args, fa, fb'⟩) HU.out HWT.out HKA.out HKB.out hlk rfl rfl rfl rfl (q + 1))
                have HLA := Lib.hid ((like_head.1 hlk).2)
                clear hlk
                go_wp2_with fail
                refine (VA.out _).mono ?_; rintro e X1 ⟨rfl, hb1⟩
                have HX1 := Lib.hid (HX.out.below hb1)
                clear hb1
                clear p0 p1 p2 p3 p4 q0 q1 q2 q3 q4
                obtain ⟨p0, p1, p2, p3, p4, _, _, _, _, _⟩ := HX1.out.one.five
                obtain ⟨q0, q1, q2, q3, q4, _, _, _, _, _⟩ := HX1.out.two.five
                simp only [Nat.zero_add] at p0 p1 p2 p3 p4 q0 q1 q2 q3 q4
                go_wp2_with fail
                refine (VA.out _).mono ?_; rintro e X2 ⟨rfl, hb2⟩
                have HX2 := Lib.hid (HX1.out.below hb2)
                clear hb2
                clear p0 p1 p2 p3 p4 q0 q1 q2 q3 q4
                obtain ⟨p0, p1, p2, p3, p4, _, _, _, _, _⟩ := HX2.out.one.five
                obtain ⟨q0, q1, q2, q3, q4, _, _, _, _, _⟩ := HX2.out.two.five
                simp only [Nat.zero_add] at p0 p1 p2 p3 p4 q0 q1 q2 q3 q4
                go_wp2_with fail
                refine (VB.out _).mono ?_; rintro e X3 ⟨rfl, hb3⟩
                have HX3 := Lib.hid (HX2.out.below hb3)
                clear hb3
                clear p0 p1 p2 p3 p4 q0 q1 q2 q3 q4
                obtain ⟨p0, p1, p2, p3, p4, _, _, _, _, _⟩ := HX3.out.one.five
                obtain ⟨q0, q1, q2, q3, q4, _, _, _, _, _⟩ := HX3.out.two.five
                simp only [Nat.zero_add] at p0 p1 p2 p3 p4 q0 q1 q2 q3 q4
                go_wp2_with fail
                refine (AL.out _).mono ?_; rintro e X4 ⟨rfl, hb4⟩
                have HX4 := Lib.hid (HX3.out.below hb4)
                clear hb4
                clear p0 p1 p2 p3 p4 q0 q1 q2 q3 q4
                obtain ⟨p0, p1, p2, p3, p4, _, _, _, _, _⟩ := HX4.out.one.five
                obtain ⟨q0, q1, q2, q3, q4, _, _, _, _, _⟩ := HX4.out.two.five
                simp only [Nat.zero_add] at p0 p1 p2 p3 p4 q0 q1 q2 q3 q4
                obtain ⟨i0, hi, hz0, hz1', hz2'⟩ := info_parts wrowInfo
                have HOW := Lib.hid (show X4.ownsRow n0 64 4 (.slice (some ⟨rb, 0, none⟩) (q + 1) cap) (q + 1) (rowWv (vs ++ [⟨A1, c1 - 1, ps, A2, c2 - 1, ts', f1, f2⟩])) from by
                  have h := HX4.out.pile.owns HRB.out.1
                  rw [List.length_append, List.length_singleton, HQ.out] at h
                  exact h)
                have HM3 : q + 1 + 1 ≤ maxLen := by unfold maxLen; omega
                have HM4 : (q + 1 + 1) * 64 ≤ 140737488355328 := by omega
                have HBS := Lib.hid (show n0 ≤ (X4.alloc (.cells #[.slice aa ta.args.length ca, .slice ab tb.args.length cb, .int .i64 fa, .int .i64 fb'] 64)).heap.size from by have := HX4.out.step.size; simp; omega)
                go_wp2_with (at_builtin; refine wpList_append_own_at _ rfl _ _ 80 rfl n0 64 i0 (.agg #[.slice none 0 0, .slice none 0 0, .int .i64 0, .int .i64 0]) 4 64 Try.underlying80 hi hz0 hz1' hz2' rfl (by decide) (.slice (some ⟨rb, 0, none⟩) (q + 1) cap) (q + 1) _ rfl (HOW.out.alloc (.cells #[.slice aa ta.args.length ca, .slice ab tb.args.length cb, .int .i64 fa, .int .i64 fb'] 64)) ⟨X4.heap.size, 0, none⟩ 1 1 [.slice aa ta.args.length ca, .slice ab tb.args.length cb, .int .i64 fa, .int .i64 fb'] rfl rfl (World.news_of_block (heap_alloc_new _ _)) (wv_one ⟨aa, ca, ta.args, ab, cb, tb.args, fa, fb'⟩) HM3 HM4 HBS.out ?_; intro v5 X5 hown5 hg5 _ hat5; obtain ⟨g5, c5, rfl, hP5, hn5⟩ := wpile_own (vs := vs ++ [⟨A1, c1 - 1, ps, A2, c2 - 1, ts', f1, f2⟩] ++ [⟨aa, ca, ta.args, ab, cb, tb.args, fa, fb'⟩]) hown5 (by rw [rowWv_append (vs ++ [(⟨A1, c1 - 1, ps, A2, c2 - 1, ts', f1, f2⟩ : Wv)]) [(⟨aa, ca, ta.args, ab, cb, tb.args, fa, fb'⟩ : Wv)], rowWv_one]; rfl) (by rw [List.length_append, List.length_append, HQ.out]; rfl) (by omega); have HG5 := Lib.hid (And.intro hP5 (And.intro hn5 (And.intro hg5 hat5))); clear hP5 hn5 hg5 hat5 hown5)
                clear p0 p1 p2 p3 p4 q0 q1 q2 q3 q4
                go_step3
                obtain rfl := HQ.out
                obtain ⟨psx, hFx, hDx⟩ := HX4.out.known
                have hA : Below X4.heap.size X4 (X4.alloc (.cells #[.slice aa ta.args.length ca, .slice ab tb.args.length cb, .int .i64 fa, .int .i64 fb'] 64)) := (Below.refl _ _).alloc (Nat.le_refl _) _
                have hFA := hFx.below hA
                have hF5 := hFA.same (W1 := X5) (Reads.refl _) (fun _ _ h => h) (fun k hk => HG5.out.2.2.1.block k (hFA.lt hk) (fun e => HRB.out.2.2 (by have h : k = rb := Option.some.inj e; rw [← h]; exact hk)))
                have hS5 : Step (fun k => n0 ≤ k) w0 w w1 X5 := (HX4.out.step.below hA).grown HG5.out.2.2.1 (fun g e => by obtain rfl := Option.some.inj e; exact ⟨HRB.out.2.1, fun _ => HRB.out.1⟩)
                have hbl5 : Blind w1 g5 := by
                  rcases HG5.out.2.2.2 with e | e
                  · obtain rfl := Option.some.inj e; exact HRB.out.2.1
                  · obtain rfl := Option.some.inj e; exact blind_new (by have := HX4.out.step.on.size; have := hA.size; omega)
                refine ⟨rfl, _, HES.out.2, ⟨vs ++ [⟨A1, c1 - 1, ps, A2, c2 - 1, ts', f1, f2⟩] ++ [⟨aa, ca, ta.args, ab, cb, tb.args, fa, fb'⟩], l, psx, w1, vb, vn, m, g5, c5, vs.length + 1 + 1, _, (by rw [List.length_append, List.length_append]; rfl), (by rw [List.length_append, List.length_append]; rfl), ?_, rfl, ⟨hF5, hDx, HGE.out⟩, ⟨HG5.out.1, HG5.out.2.1, hbl5, ?_⟩, hS5, HES.out.1⟩⟩
                · rfl
                · intro x hx
                  rcases List.mem_append.1 hx with h | h
                  · exact HOQ.out x h
                  · rw [List.mem_singleton] at h; subst h
                    exact ⟨HLA.out, HC.out.2.1.2.2, HC.out.2.2.2.2, HC.out.2.1.1.to_, HC.out.2.2.1.to_, HPL.out.1.args, HPL.out.2.args⟩

  · intro PASS
    have hA : Below w.heap.size w ((w.alloc (.cells #[.slice r0.a1 r0.ps.length r0.c1, .slice r0.a2 r0.ts.length r0.c2, .int .i64 r0.f1, .int .i64 r0.f2] 64)).alloc (.cells #[.slice r0.a1 r0.ps.length r0.c1, .slice r0.a2 r0.ts.length r0.c2, .int .i64 r0.f1, .int .i64 r0.f2] 64)) := below_two _ _ _
    have hs1 : (w.alloc (.cells #[.slice r0.a1 r0.ps.length r0.c1, .slice r0.a2 r0.ts.length r0.c2, .int .i64 r0.f1, .int .i64 r0.f2] 64)).heap.size = w.heap.size + 1 := by simp
    have hP0 : WPile ((w.alloc (.cells #[.slice r0.a1 r0.ps.length r0.c1, .slice r0.a2 r0.ts.length r0.c2, .int .i64 r0.f1, .int .i64 r0.f2] 64)).alloc (.cells #[.slice r0.a1 r0.ps.length r0.c1, .slice r0.a2 r0.ts.length r0.c2, .int .i64 r0.f1, .int .i64 r0.f2] 64)) (w.heap.size + 1) 1 [r0] := ⟨_, by rw [← hs1]; exact heap_alloc_new _ _, Nat.le_refl _, by unfold maxLen; omega, rfl, by simp [rowWv, Wv.cells]⟩
    have HS0 := Lib.hid (And.intro hP0 (And.intro (hF.below hA) (And.intro (blind_new (w0 := w0) (g := w.heap.size + 1) (by have := hr.size; omega)) (step_below (C := fun k => n0 ≤ k) hr hA))))
    have HGE := Lib.hid hge
    have HOK := Lib.hid hok
    have HU := Lib.hid hU
    clear hP0 hA hs1 hF hge hok hU hr
    go_wp2_with fail
    rename_i K1 hK1
    go_step3
    refine hK1 _ _ (PASS _ _ _ ⟨[r0], [], [], w0, vb, vn, 80, w.heap.size + 1, 1, 1, _, rfl, rfl, ?_, rfl, ⟨HS0.out.2.1, den_nil, HGE.out⟩, ⟨HS0.out.1, by omega, HS0.out.2.2.1, ?_⟩, HS0.out.2.2.2, HU.out⟩)
    · rfl
    · intro q hq; rw [List.mem_singleton] at hq; subst hq; exact HOK.out
end Go.Proofs.Ytedljdcliilggaa
