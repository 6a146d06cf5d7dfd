/-
  Whether a variable stands for a term, or can from now on, by the program: the method stands of what is known; and whether two terms are alike but for what their arguments are.
  The pile of patterns and terms that are left, in memory: a row of the call's own, two slices each. No function of the program.
-/
import Derived.Test.YtedljdcliilggaaU14
import Derived.Test.YtedljdcliilggaaU15
import Derived.Test.YtedljdcliilggaaU21
import Derived.Test.YtedljdcliilggaaU09
import Derived.Deep.RegionHeld3
import Derived.Deep.AppendLies
import Derived.Deep.RegionLaw
namespace Go.Proofs.Ytedljdcliilggaa
open Go.RowKit Go.Maps

set_option maxRecDepth 100000 in
set_option maxHeartbeats 2000000 in
theorem palike_tm (x y : Tv) (w : World) :
    Calls Try.prog 65 #[x.val, y.val] w fun e w' => e = .returned (.bool (alikeB x.t y.t)) ∧ Below w.heap.size w w' := by
  obtain ⟨xt, xa, xc⟩ := x
  obtain ⟨yt, ya, yc⟩ := y
  have bX := (box_new w (.int .i64 xt.kind) (.string xt.name) (.int .i64 xt.n) (.slice xa xt.args.length xc) 24).below ((Below.refl _ _).alloc (Nat.le_refl _) (.cells #[.int .i64 yt.kind, .string yt.name, .int .i64 yt.n, .slice ya yt.args.length yc] 24)) (by simp)
  have bY := alloc_two w (.cells #[.int .i64 xt.kind, .string xt.name, .int .i64 xt.n, .slice xa xt.args.length xc] 24) (.int .i64 yt.kind) (.string yt.name) (.int .i64 yt.n) (.slice ya yt.args.length yc) 24
  have hB2 := below_two w (.cells #[.int .i64 xt.kind, .string xt.name, .int .i64 xt.n, .slice xa xt.args.length xc] 24) (.cells #[.int .i64 yt.kind, .string yt.name, .int .i64 yt.n, .slice ya yt.args.length yc] 24)
  have HB := Lib.hid hB2
  have HV := Lib.hid (show alikeB xt yt = ((((xt.kind == yt.kind) && (xt.n == yt.n)) && (xt.name.toList == yt.name.toList)) && ((xt.args.length : Int) == (yt.args.length : Int))) from by
    unfold alikeB headB
    congr 1
    rw [Bool.eq_iff_iff, decide_eq_true_iff, beq_iff_eq]
    omega)
  obtain ⟨p0, p1, p2, p3, _, _, _, _⟩ := bX
  obtain ⟨q0, q1, q2, q3, _, _, _, _⟩ := bY
  simp only [Tv.val]
  clear hB2
  obtain ⟨k1, hk1⟩ : ∃ k1, (xt.kind == yt.kind) = k1 := ⟨_, rfl⟩
  obtain ⟨k2, hk2⟩ : ∃ k2, (xt.n == yt.n) = k2 := ⟨_, rfl⟩
  obtain ⟨k3, hk3⟩ : ∃ k3, (xt.name.toList == yt.name.toList) = k3 := ⟨_, rfl⟩
  have HE := HV.out
  rw [hk1, hk2, hk3] at HE
  have HF := Lib.hid HE
  clear HE HV
  cases k1 <;> cases k2 <;> cases k3
  all_goals
    go_enter Try.func65, Try.ntmps65
    go_wp2_with fail
    go_ret
    refine ⟨?_, HB.out⟩
    rw [HF.out]
    simp

theorem own_form2 {w : World} {base : Nat} {e : TypeId} {size n : Nat} {v : Value} {xs : List Value} (h : w.ownsRow base e size v n xs) : ∃ a c, v = .slice a n c := by
  obtain ⟨_, ⟨rfl, rfl⟩ | ⟨g, cap, _, rfl, _⟩⟩ := h
  · exact ⟨none, 0, rfl⟩
  · exact ⟨_, cap, rfl⟩
/-- A store into a table as a step of a drawn region. -/
theorem step_mapUpdate {H : Type} {P : Program} {w : World} {ops : Array Oper} {o : Oper} {a : Act} {K : Act → World → Prop} {Q : Exit → Act → World → Prop} {E : Prop} (hgd : o.guard = none) (m x v : Operand) (t : TypeId)
    (ho : o.op = Op.mapUpdate t m x v) (k e : TypeId) (KK : Keyed P k) (ht : P.underlying t = some (.map k e)) (R : Value → Option (DataW H × List MemPlace)) (b n : Nat) (D : DataW H)
    (hm : a.eval m = .map (some b)) (hown : w.ownsMap P k R b n D) (hn : n < maxLen) (key val : Value) (kl : Lit) (hx : a.eval x = key) (hv : a.eval v = val) (hkey : keyOf P k key = some kl)
    (d : DataW H) (ps : List MemPlace) (hval : R val = some (d, ps))
    (h : ∀ w', w'.ownsMap P k R b (n + 1) (D.put kl d) → w.grownBy w' (some b) → K (a.put o.dst undef) w') :
    if Region.wanted o (yielded ops a.tmps) = true then Oper.wp P o a w K Q else E := by
  have hw : Region.wanted o (yielded ops a.tmps) = true := by simp [Region.wanted, hgd]
  rw [if_pos hw]
  obtain ⟨w', hrun, r1, r2⟩ := hown.update KK ht hn hkey hval
  unfold Oper.wp execOp
  simp only [ho, hm, hx, hv, Sem.run_bind, Sem.run_pure, Result.andThen_ok, hrun]
  exact h w' r1 r2
theorem keyOf_name {s : ByteArray} (h : s.size ≤ 9223372036854775807) : keyOf Try.prog 9 (.string s) = some (keyL s) := WideMaps.keyOf_string_mk Try.underlying9 (by unfold maxLen; omega)
/-- The row of what is known, in memory. -/
theorem KnAt.open_ {w0 W : World} {n0 kb bm : Nat} {l : List Bn} (h : KnAt w0 W n0 kb bm l) : ∃ a c, W.heap[kb]? = some (.cells #[.slice a l.length c, .map (some bm)] 79 (0, 0)) ∧ OwnBv w0 W n0 (.slice a l.length c) l := by
  obtain ⟨_, _, ⟨v, h1, h2⟩, _⟩ := h
  have h3 := h2
  obtain ⟨vs, rfl, _, _, ⟨rfl, h0⟩ | ⟨g, cap, cur, rfl, _⟩⟩ := h3
  · rw [← h0] at h1 h2 ⊢
    exact ⟨none, 0, by rw [h0] at h1 ⊢; exact h1, by rw [h0] at h2 ⊢; exact h2⟩
  · exact ⟨_, cap, h1, h2⟩
theorem known_cells {W : World} {kb : Nat} {x y : Value} {t : TypeId} (h : W.heap[kb]? = some (.cells #[x, y] t (0, 0))) : Pair W kb x y where
  c0 := by rw [cell_of_row W kb 0 _ _ (0, 0) h]; rfl
  c1 := by rw [cell_of_row W kb 1 _ _ (0, 0) h]; rfl
  f0 := by simp [World.frozen?, h]
  f1 := by simp [World.frozen?, h]
/-- What a bind of the row has, in cells. -/
theorem OwnBv.get {w0 W : World} {base : Nat} {a : Option Addr} {c : Nat} {l : List Bn} (h : OwnBv w0 W base (.slice a l.length c) l) {i : Nat} {x : Bn} (hi : l[i]? = some x) :
    ∃ (g : Nat) (z : Tv), a = some ⟨g, 0, none⟩ ∧ g < W.heap.size ∧ z.t = x.2 ∧ z.ok w0 ∧ TvAt W g (i * 5 + 1) z := by
  obtain ⟨vs, hm, hok, hn, ⟨h1, h0⟩ | ⟨g, cap, cur, h1, _, hg, _, _, _, ht⟩⟩ := h
  · have := (List.getElem?_eq_some_iff.1 hi).1; omega
  · cases h1
    subst hm
    rw [List.getElem?_map] at hi
    obtain ⟨y, hy, rfl⟩ := Option.map_eq_some_iff.1 hi
    obtain ⟨hj, rfl⟩ := List.getElem?_eq_some_iff.1 hy
    have cell : ∀ k, k < 5 → W.cell? ⟨g, i * 5 + k, none⟩ = vs[i].cells[k]? := by
      intro k hk
      rw [cell_of_row W g (i * 5 + k) cur _ (0, 0) hg, ← rowBv_get vs i hj k hk, ← ht, List.getElem?_take, if_pos (by simp; omega)]
      simp
    exact ⟨g, vs[i].v, rfl, (Array.getElem?_eq_some_iff.1 hg).1, rfl, (hok _ (List.getElem_mem hj)).1, cell 1 (by omega), cell 2 (by omega), cell 3 (by omega), cell 4 (by omega)⟩

set_option maxRecDepth 100000 in
set_option maxHeartbeats 4000000 in
theorem stands_old (w0 w : World) (n0 kb bm : Nat) (l : List Bn) (s : ByteArray) (z : Tv) (u : Tm) (hk : KnAt w0 w n0 kb bm l) (hz : z.ok w0) (hs : s.size ≤ 9223372036854775807) (hb0 : Below w0.heap.size w0 w) (hg : getB l s = some u) :
    Calls Try.prog 64 #[.pointer (some ⟨kb, 0, none⟩), .string s, z.val] w fun e w' => e = .returned (.bool (eqT u z.t)) ∧ Below w.heap.size w w' := by
  obtain ⟨a, c, hkb, hrow⟩ := hk.open_
  obtain ⟨D, hown, hD⟩ := hk.table
  have hhas : has D (keyL s) = true := by
    cases h : has D (keyL s) with
    | true => rfl
    | false => rw [(hD.2 s).2 h] at hg; cases hg
  obtain ⟨i, x, hi, hgx, hat0⟩ := (hD.2 s).1 hhas
  obtain rfl : x.2 = u := Option.some.inj (hgx.symm.trans hg)
  obtain ⟨g, ⟨yt, ya, yc⟩, rfl, hgl, hyx, hyo, hy⟩ := hrow.get hi
  have hil := (List.getElem?_eq_some_iff.1 hi).1
  obtain ⟨zt, za, zc⟩ := z
  have hb2 : Below w.heap.size w (w.alloc (.cells #[.int .i64 zt.kind, .string zt.name, .int .i64 zt.n, .slice za zt.args.length zc] 24)) := (Below.refl _ _).alloc (Nat.le_refl _) _
  have bZ := box_new w (.int .i64 zt.kind) (.string zt.name) (.int .i64 zt.n) (.slice za zt.args.length zc) 24
  have hown2 := hown.alloc (.cells #[.int .i64 zt.kind, .string zt.name, .int .i64 zt.n, .slice za zt.args.length zc] 24)
  have hzs : (w.alloc (.cells #[.int .i64 zt.kind, .string zt.name, .int .i64 zt.n, .slice za zt.args.length zc] 24)).heap.size = w.heap.size + 1 := by simp
  have hkl : kb < w.heap.size := (Array.getElem?_eq_some_iff.1 hkb).1
  have pk := (known_cells hkb).below hb2 hkl
  obtain ⟨w2, hw2⟩ : ∃ w2, w2 = w.alloc (.cells #[.int .i64 zt.kind, .string zt.name, .int .i64 zt.n, .slice za zt.args.length zc] 24) := ⟨_, rfl⟩
  rw [← hw2] at hb2 bZ hown2 hzs pk
  have hkey := keyOf_name hs
  have KEEP := Lib.hid (fun (W : World) (h : Below w2.heap.size w2 W) => (show (W.cell? ⟨kb, 0, none⟩ = some (.slice (some ⟨g, 0, none⟩) l.length c)) ∧ (W.cell? ⟨w.heap.size, 0, none⟩ = some (.int .i64 zt.kind) ∧ W.cell? ⟨w.heap.size, 1, none⟩ = some (.string zt.name) ∧ W.cell? ⟨w.heap.size, 2, none⟩ = some (.int .i64 zt.n) ∧ W.cell? ⟨w.heap.size, 3, none⟩ = some (.slice za zt.args.length zc)) ∧
      (W.cell? ⟨g, i * 5 + 1, none⟩ = some (.int .i64 yt.kind) ∧ W.cell? ⟨g, i * 5 + 1 + 1, none⟩ = some (.string yt.name) ∧ W.cell? ⟨g, i * 5 + 1 + 2, none⟩ = some (.int .i64 yt.n) ∧ W.cell? ⟨g, i * 5 + 1 + 3, none⟩ = some (.slice ya yt.args.length yc)) from by
    have b := bZ.below h (by omega)
    have k := pk.below h (by omega)
    have h1 := fun j => (below_next hb2 h).cell (p := ⟨g, i * 5 + 1 + j, none⟩) hgl
    exact ⟨k.c0, ⟨b.c0, b.c1, b.c2, b.c3⟩, (h1 0).trans hy.c0, (h1 1).trans hy.c1, (h1 2).trans hy.c2, (h1 3).trans hy.c3⟩))
  have SM := Lib.hid (fun (W : World) (h : Below w2.heap.size w2 W) => (psame_tm ⟨yt, ya, yc⟩ ⟨zt, za, zc⟩ W (hyo.below (hb0.trans ((below_next hb2 h).mono hb0.size))) (hz.below (hb0.trans ((below_next hb2 h).mono hb0.size)))).mono (fun e w' hh => (show e = .returned (.bool (eqT yt zt)) ∧ Below w2.heap.size w2 w' from ⟨hh.1, below_next h hh.2.below⟩)))
  have HV := Lib.hid (show eqT yt zt = eqT x.2 zt from by rw [show yt = x.2 from hyx])
  have HB := Lib.hid hb2
  have HAT := Lib.hid (fun (c : Int) (h : D.atKey (keyL s) (.lit (.int .i64 0)) = .lit (.int .i64 c)) => (show c = i from by rw [hat0] at h; injection h with h; injection h with _ h; exact h.symm))
  have A0 := Lib.hid (show Below w2.heap.size w2 w2.drew from (Below.refl _ _).drew)
  obtain ⟨_, p1, _, _⟩ := pk
  have HHAS := Lib.hid hhas
  have hk0 : (0 : Int) ≤ (i : Int) := by omega
  have hk1 : (i : Int) < (l.length : Int) := by omega
  have HO := Lib.hid hown2
  have HW2 := Lib.hid hw2
  simp only [Tv.val] at SM ⊢
  rw [hw2] at p1
  clear hk hz hb0 hg hkb hrow hown hD hhas hi hgx hat0 hgl hyx hyo hy hb2 bZ hzs hkl hw2 hown2
  go_enter Try.func64, Try.ntmps64
  go_wp2_with (at_lookup; refine wpList_lookup_own_ok_int _ rfl _ _ 58 rfl 9 3 .i64 law_name Try.underlying58 Try.underlying3 (zero_int _) bm l.length D rfl (by rw [← HW2.out]; exact HO.out) _ _ rfl hkey ?_; intro c hat hwc; obtain rfl := HAT.out c hat; rw [HHAS.out]; clear hat hwc)
  rw [← HW2.out]
  clear p1 HW2
  have h0d := A0.out
  go_region_held3 (fun W => (W.cell? ⟨kb, 0, none⟩ = some (.slice (some ⟨g, 0, none⟩) l.length c)) ∧ (W.cell? ⟨w.heap.size, 0, none⟩ = some (.int .i64 zt.kind) ∧ W.cell? ⟨w.heap.size, 1, none⟩ = some (.string zt.name) ∧ W.cell? ⟨w.heap.size, 2, none⟩ = some (.int .i64 zt.n) ∧ W.cell? ⟨w.heap.size, 3, none⟩ = some (.slice za zt.args.length zc)) ∧
      (W.cell? ⟨g, i * 5 + 1, none⟩ = some (.int .i64 yt.kind) ∧ W.cell? ⟨g, i * 5 + 1 + 1, none⟩ = some (.string yt.name) ∧ W.cell? ⟨g, i * 5 + 1 + 2, none⟩ = some (.int .i64 yt.n) ∧ W.cell? ⟨g, i * 5 + 1 + 3, none⟩ = some (.slice ya yt.args.length yc))) (first | exact KEEP.out _ A0.out | exact KEEP.out _ (by assumption))
    ((go_at_call 55; refine (SM.out _ A0.out).mono ?_; rintro e w' ⟨rfl, hn⟩))
  have HBN := Lib.hid (below_next HB.out hn)
  clear hn
  go_wp2_with fail
  go_ret
  exact ⟨ret_bool HV.out, HBN.out⟩

theorem grownBy_setCell (w : World) (a : Addr) (u : Value) : w.grownBy (w.setCell a u) (some a.block) :=
  ⟨rfl, rfl, rfl, by simp [World.setCell], fun k _ hne => Below.heap_setCell _ _ _ _ (fun e => hne (by rw [e]))⟩
theorem block_setCell {w : World} {b off : Nat} {cs : Array Value} {e : TypeId} {f : Nat × Nat} (u : Value) (h : w.heap[b]? = some (.cells cs e f)) : (w.setCell ⟨b, off, none⟩ u).heap[b]? = some (.cells (cs.setIfInBounds off u) e f) := by
  rw [Sort.setCell_eq]
  simp [Sort.mapBlock, Array.getElem?_modify, h, Sort.onCells]
/-- What is known, behind one bind more. -/
theorem known_more {w0 w2 w3 w4 : World} {n0 kb bm : Nat} {l : List Bn} {s : ByteArray} {z : Tv} {x v : Value} {o : Obj} {D : DataW Unit} {vs : List Bv} (hlek : n0 ≤ kb) (hlem : n0 ≤ bm) (hkb : w2.heap[kb]? = some (.cells #[x, .map (some bm)] 79 (0, 0)))
    (hD : NameIdx D l) (hg : getB l s = none) (hvm : vs.map Bv.bn = l) (hvo : ∀ y ∈ vs, y.v.ok w0 ∧ y.s.size ≤ 9223372036854775807) (hz : z.ok w0) (hs : s.size ≤ 9223372036854775807) (hx : w2.ownsRow n0 41 5 x l.length (rowBv vs))
    (hown3 : w3.ownsMap Try.prog 9 (plainElem Try.prog 3) bm (l.length + 1) (D.put (keyL s) (.lit (.int .i64 l.length)))) (hg3 : w2.drew.grownBy w3 (some bm)) (hmap : ∃ es clock, w2.heap[bm]? = some (.map es clock))
    (hg4 : ((w3.alloc o).drew).grownBy w4 x.ownBlock) (hown4 : w4.ownsRow n0 41 5 v (l.length + 1) (rowBv vs ++ [.string s, .int .i64 z.t.kind, .string z.t.name, .int .i64 z.t.n, .slice z.a z.t.args.length z.c])) :
    KnAt w0 (w4.setCell ⟨kb, 0, none⟩ v) n0 kb bm (l ++ [(s, z.t)]) ∧ (n0 ≤ w2.heap.size → Below n0 w2 (w4.setCell ⟨kb, 0, none⟩ v)) ∧ KeepR w2 (w4.setCell ⟨kb, 0, none⟩ v) := by
  have hkl : kb < w2.heap.size := (Array.getElem?_eq_some_iff.1 hkb).1
  obtain ⟨es, clock, hm⟩ := hmap
  have hbk : bm ≠ kb := fun e => by rw [e, hkb] at hm; cases hm
  have hkb3 : w3.heap[kb]? = some (.cells #[x, .map (some bm)] 79 (0, 0)) := (hg3.block kb hkl (fun e => hbk (Option.some.inj e).symm)).trans hkb
  have hx3 : w3.ownsRow n0 41 5 x l.length (rowBv vs) := World.ownsRow.kept (w := w2.drew) hx hg3 (by
    obtain ⟨_, ⟨rfl, _⟩ | ⟨g, cap, cur, rfl, _, hgb, _⟩⟩ := hx
    · exact .inl rfl
    · refine .inr fun e => ?_
      have : g = bm := Option.some.inj e
      rw [this, hm] at hgb; cases hgb)
  have hxn : ∀ g, x.ownBlock = some g → ∃ cur, w3.heap[g]? = some (.cells cur 41 (0, 0)) := fun g e => by
    obtain ⟨_, ⟨rfl, _⟩ | ⟨g', cap, cur, rfl, _, hgb, _⟩⟩ := hx3
    · cases e
    · cases e; exact ⟨cur, hgb⟩
  have ha : ∀ k, k < w3.heap.size → ((w3.alloc o).drew).heap[k]? = w3.heap[k]? := fun k hk => Below.heap_alloc _ _ _ hk
  have hkl3 : kb < w3.heap.size := (Array.getElem?_eq_some_iff.1 hkb3).1
  have hkx : some kb ≠ x.ownBlock := fun e => by
    obtain ⟨cur, hc⟩ := hxn kb e.symm
    rw [hkb3] at hc; simp at hc
  have hsz : w3.heap.size ≤ ((w3.alloc o).drew).heap.size := by show w3.heap.size ≤ (w3.alloc o).heap.size; simp
  have hkb4 : w4.heap[kb]? = some (.cells #[x, .map (some bm)] 79 (0, 0)) := (hg4.block kb (Nat.lt_of_lt_of_le hkl3 hsz) hkx).trans ((ha kb hkl3).trans hkb3)
  have hgs := grownBy_setCell w4 ⟨kb, 0, none⟩ v
  have hmx : some bm ≠ x.ownBlock := fun e => by
    obtain ⟨cur, hc⟩ := hxn bm e.symm
    obtain ⟨es, clock, hb, _⟩ := hown3
    rw [hb] at hc; cases hc
  have hown4m : w4.ownsMap Try.prog 9 (plainElem Try.prog 3) bm (l.length + 1) (D.put (keyL s) (.lit (.int .i64 l.length))) := World.ownsMap.kept (w := (w3.alloc o).drew) (hown3.alloc o).drew hg4 hmx
  have hv4 : v.ownBlock ≠ some kb := fun e => by
    obtain ⟨_, ⟨rfl, _⟩ | ⟨g', cap, cur, rfl, _, hgb, _⟩⟩ := hown4
    · cases e
    · have : g' = kb := Option.some.inj e
      rw [this, hkb4] at hgb; simp at hgb
  refine ⟨⟨hlek, hlem, ⟨v, ?_, ⟨vs ++ [⟨s, z⟩], ?_, ?_, ?_⟩⟩, ⟨D.put (keyL s) (.lit (.int .i64 l.length)), ?_, ?_⟩⟩, ?_, ?_⟩
  · rw [block_setCell v hkb4]; rfl
  · rw [List.map_append, hvm]; rfl
  · intro y hy
    rcases List.mem_append.1 hy with hy | hy
    · exact hvo y hy
    · rw [List.mem_singleton] at hy; subst hy; exact ⟨hz, hs⟩
  · rw [rowBv_append, rowBv_one, List.length_append, List.length_singleton]
    exact hown4.kept hgs (.inr hv4)
  · rw [List.length_append, List.length_singleton]
    exact hown4m.kept hgs (fun e => hbk (Option.some.inj e))
  · exact hD.snoc z.t hg
  · intro hn
    have b3 : Below n0 w2 w3 := (Below.refl n0 w2).drew.grown hg3 hn (fun k e => by cases e; exact hlem)
    have b4 : Below n0 w2 ((w3.alloc o).drew) := (b3.alloc (Nat.le_trans hn hg3.size) o).drew
    have b5 : Below n0 w2 w4 := b4.grown hg4 (Nat.le_trans (Nat.le_trans hn hg3.size) hsz) (fun k e => own_row_ge hx k e)
    exact b5.setCell hlek v
  · have r3 : KeepR w2 w3 := KeepR.grown (w := w2.drew) hg3 (fun g c e hc => by cases e; rw [show w2.drew.heap[bm]? = w2.heap[bm]? from rfl, hm] at hc; cases hc)
    have r4 : KeepR w3 ((w3.alloc o).drew) := fun k c hk => (ha k (Array.getElem?_eq_some_iff.1 hk).1).trans hk
    have r5 : KeepR ((w3.alloc o).drew) w4 := KeepR.grown hg4 (fun g c e hc => by
      obtain ⟨cur, hcur⟩ := hxn g e
      rw [ha g (Array.getElem?_eq_some_iff.1 hcur).1, hcur] at hc
      simp at hc)
    have r6 : KeepR w4 (w4.setCell ⟨kb, 0, none⟩ v) := KeepR.grown hgs (fun g c e hc => by cases e; rw [hkb4] at hc; simp at hc)
    exact ((r3.trans r4).trans r5).trans r6

set_option maxRecDepth 100000 in
set_option maxHeartbeats 4000000 in
theorem stands_new (w0 w : World) (n0 kb bm : Nat) (l : List Bn) (s : ByteArray) (z : Tv) (hk : KnAt w0 w n0 kb bm l) (hz : z.ok w0) (hs : s.size ≤ 9223372036854775807) (hn0 : n0 ≤ w.heap.size) (hl : l.length ≤ 1000000) (hg : getB l s = none) :
    Calls Try.prog 64 #[.pointer (some ⟨kb, 0, none⟩), .string s, z.val] w fun e w' => e = .returned (.bool true) ∧ KnAt w0 w' n0 kb bm (l ++ [(s, z.t)]) ∧ Below n0 w w' ∧ KeepR w w' := by
  obtain ⟨i0, hi, hz0, hz1, hz2⟩ := info_parts bindInfo
  obtain ⟨a, c, hkb, hrow⟩ := hk.open_
  obtain ⟨D, hown, hD⟩ := hk.table
  have hhas : has D (keyL s) = false := by
    cases h : has D (keyL s) with
    | false => rfl
    | true =>
      obtain ⟨i, x, _, h2, _⟩ := (hD.2 s).1 h
      rw [hg] at h2; cases h2
  obtain ⟨vs, hvm, hvo, hvr⟩ := hrow
  obtain ⟨zt, za, zc⟩ := z
  have hb2 : Below w.heap.size w (w.alloc (.cells #[.int .i64 zt.kind, .string zt.name, .int .i64 zt.n, .slice za zt.args.length zc] 24)) := (Below.refl _ _).alloc (Nat.le_refl _) _
  have bZ := box_new w (.int .i64 zt.kind) (.string zt.name) (.int .i64 zt.n) (.slice za zt.args.length zc) 24
  have hown2 := hown.alloc (.cells #[.int .i64 zt.kind, .string zt.name, .int .i64 zt.n, .slice za zt.args.length zc] 24)
  have hvr2 := hvr.alloc (.cells #[.int .i64 zt.kind, .string zt.name, .int .i64 zt.n, .slice za zt.args.length zc] 24)
  have hzs : (w.alloc (.cells #[.int .i64 zt.kind, .string zt.name, .int .i64 zt.n, .slice za zt.args.length zc] 24)).heap.size = w.heap.size + 1 := by simp
  have hkl : kb < w.heap.size := (Array.getElem?_eq_some_iff.1 hkb).1
  have hkb2 := (hb2.block kb hkl).trans hkb
  obtain ⟨w2, hw2⟩ : ∃ w2, w2 = w.alloc (.cells #[.int .i64 zt.kind, .string zt.name, .int .i64 zt.n, .slice za zt.args.length zc] 24) := ⟨_, rfl⟩
  rw [← hw2] at hb2 bZ hown2 hvr2 hzs hkb2
  have pk := known_cells hkb2
  have hkey := keyOf_name hs
  have HOD := Lib.hid hown2.drew
  have HHAS := Lib.hid hhas
  have HO := Lib.hid hown2
  have HW2 := Lib.hid hw2
  have HD := Lib.hid hD
  have HG := Lib.hid hg
  have HM : l.length < maxLen := by unfold maxLen; omega
  have HWF : (Lit.int .i64 (l.length : Int)).wf = true := WalkArith.wf_i64 (by omega)
  have HBM := Lib.hid (show bm ≠ kb from fun e => by
    obtain ⟨es, clock, hb, _⟩ := hown2
    rw [e, hkb2] at hb; cases hb)
  have HP := Lib.hid pk
  have HKB := Lib.hid hkb2
  have HB := Lib.hid hb2
  have HROW := Lib.hid (And.intro hvm (And.intro hvo hvr2))
  have HZ := Lib.hid (And.intro bZ hz)
  have HKK := Lib.hid (And.intro hk.lek (And.intro hk.lem (And.intro hn0 hzs)))
  have p1 := pk.c1
  simp only [Tv.val]
  rw [hw2] at p1
  have HKL := Lib.hid hkl
  clear hk hz hn0 hg hkb hown hD hhas hvm hvo hvr hvr2 hb2 bZ hzs hkl hw2 hown2 pk hkb2
  go_enter Try.func64, Try.ntmps64
  go_wp2_with (at_lookup; refine wpList_lookup_own_ok_int _ rfl _ _ 58 rfl 9 3 .i64 law_name Try.underlying58 Try.underlying3 (zero_int _) bm l.length D rfl (by rw [← HW2.out]; exact HO.out) _ _ rfl hkey ?_; intro cx hat hwc; rw [HHAS.out]; clear hat hwc)
  rw [← HW2.out]
  clear p1
  obtain ⟨p0, p1, f0, f1⟩ := HP.out
  obtain ⟨w3, hrun, hown3, hg3⟩ := HOD.out.update law_name Try.underlying58 HM hkey (plainElem_int Try.underlying3 HWF)
  have hb3 : w3.heap[kb]? = some (.cells #[.slice a l.length c, .map (some bm)] 79 (0, 0)) := (hg3.block kb (Array.getElem?_eq_some_iff.1 HKB.out).1 (fun e => HBM.out (Option.some.inj e).symm)).trans HKB.out
  have KS := Lib.hid (known_cells hb3)
  have H3 := Lib.hid (And.intro hown3 hg3)
  clear hown3 hg3 hb3
  go_region_held3 (fun W => W.cell? ⟨kb, 0, none⟩ = some (.slice a l.length c) ∧ W.cell? ⟨kb, 1, none⟩ = some (.map (some bm))) (first | exact ⟨HP.out.c0, HP.out.c1⟩ | exact ⟨KS.out.c0, KS.out.c1⟩)
    ((fail))
  clear hrun p0 p1 f0 f1
  have hr3 : w3.ownsRow n0 41 5 (.slice a l.length c) l.length (rowBv vs) := World.ownsRow.kept (w := w2.drew) HROW.out.2.2 H3.out.2 (by
    obtain ⟨_, ⟨e, _⟩ | ⟨g, cap, cur, e, _, hgb, _⟩⟩ := HROW.out.2.2
    · exact .inl (by rw [e]; rfl)
    · refine .inr fun e' => ?_
      rw [e] at e'
      obtain rfl : g = bm := Option.some.inj e'
      obtain ⟨es, clock, hb, _⟩ := HO.out
      rw [hb] at hgb; cases hgb)
  have hbb : Box w3 w.heap.size (.int .i64 zt.kind) (.string zt.name) (.int .i64 zt.n) (.slice za zt.args.length zc) := by
    have hlt : w.heap.size < w2.drew.heap.size := by show w.heap.size < w2.heap.size; have := HKK.out.2.2.2; omega
    have hne : some w.heap.size ≠ some bm := fun e => by
      have e := Option.some.inj e
      obtain ⟨es, clock, hb, _⟩ := HO.out
      have h0 := HZ.out.1.c0
      rw [e] at h0
      simp [World.cell?, hb] at h0
    have hblk := H3.out.2.block w.heap.size hlt hne
    have hc := fun i => World.cell?_of_block (w := w2) (w' := w3) (a := ⟨w.heap.size, i, none⟩) hblk
    have hf := fun i => World.frozen?_of_block (w := w2) (w' := w3) (a := ⟨w.heap.size, i, none⟩) hblk
    exact ⟨(hc 0).trans HZ.out.1.c0, (hc 1).trans HZ.out.1.c1, (hc 2).trans HZ.out.1.c2, (hc 3).trans HZ.out.1.c3, (hf 0).trans HZ.out.1.f0, (hf 1).trans HZ.out.1.f1, (hf 2).trans HZ.out.1.f2, (hf 3).trans HZ.out.1.f3⟩
  have HM1 : l.length + 1 ≤ maxLen := by unfold maxLen; omega
  have HM2 : (l.length + 1) * 72 ≤ 140737488355328 := by omega
  have HBASE := Lib.hid (show n0 ≤ ((w3.alloc (.cells #[.string s, .int .i64 zt.kind, .string zt.name, .int .i64 zt.n, .slice za zt.args.length zc] 41)).drew).heap.size by show n0 ≤ (w3.alloc _).heap.size; have := H3.out.2.size; have h4 : w2.drew.heap.size = w2.heap.size := rfl; have := HKK.out.2.2; simp; omega)
  have HR3 := Lib.hid hr3
  have KB4 := Lib.hid (fun (W : World) (hg4 : ((w3.alloc (.cells #[.string s, .int .i64 zt.kind, .string zt.name, .int .i64 zt.n, .slice za zt.args.length zc] 41)).drew).grownBy W (Value.slice a l.length c).ownBlock) => (show W.heap[kb]? = some (.cells #[.slice a l.length c, .map (some bm)] 79 (0, 0)) by
    have hb3 : w3.heap[kb]? = some (.cells #[.slice a l.length c, .map (some bm)] 79 (0, 0)) := (H3.out.2.block kb (Array.getElem?_eq_some_iff.1 HKB.out).1 (fun e => HBM.out (Option.some.inj e).symm)).trans HKB.out
    have hl3 := (Array.getElem?_eq_some_iff.1 hb3).1
    rw [hg4.block kb (by show kb < (w3.alloc _).heap.size; simp; omega) (fun e => by
      obtain ⟨_, ⟨e1, _⟩ | ⟨g, cap, cur, e1, _, hgb, _⟩⟩ := hr3
      · rw [e1] at e; cases e
      · rw [e1] at e
        obtain rfl : kb = g := Option.some.inj e
        rw [hb3] at hgb; simp at hgb)]
    exact (Below.heap_alloc _ _ _ hl3).trans hb3))
  have hk3 : kb < w3.heap.size := lt_of_cell KS.out.c0
  have hg3 : w.heap.size < w3.heap.size := lt_of_cell hbb.c0
  obtain ⟨p0, p1, _, _⟩ := KS.out
  obtain ⟨b0, b1, b2, b3, _, _, _, _⟩ := hbb
  clear hr3
  go_wp2_with fail
  go_region_law
    ((refine step_append_at rfl _ _ 27 rfl n0 41 i0 (.agg #[.string ⟨#[]⟩, .int .i64 0, .string ⟨#[]⟩, .int .i64 0, .slice none 0 0]) 5 72 Try.underlying27 hi hz0 hz1 hz2 rfl (by decide) (.slice a l.length c) l.length (rowBv vs) rfl (HR3.out.alloc _).drew ⟨w3.heap.size, 0, none⟩ 1 1 [.string s, .int .i64 zt.kind, .string zt.name, .int .i64 zt.n, .slice za zt.args.length zc] rfl rfl (World.news_of_block (heap_alloc_new _ _)) (bv_one ⟨s, ⟨zt, za, zc⟩⟩) HM1 HM2 HBASE.out _ rfl ?_; intro v4 w4 hown4 hg4 hat4; obtain ⟨a4, c4, rfl⟩ := own_form2 hown4; obtain ⟨q0, _, f0, _⟩ := known_cells (KB4.out _ hg4)))
  all_goals
    have HE := Lib.hid (known_more (o := .cells #[.string s, .int .i64 zt.kind, .string zt.name, .int .i64 zt.n, .slice za zt.args.length zc] 41) (z := ⟨zt, za, zc⟩) HKK.out.1 HKK.out.2.1 HKB.out HD.out HG.out HROW.out.1 HROW.out.2.1 HZ.out.2 hs HROW.out.2.2 H3.out.1 H3.out.2 (by obtain ⟨es, clock, hb, _⟩ := HO.out; exact ⟨es, clock, hb⟩) hg4 hown4)
    have HS := Lib.hid (show (Below n0 w (w4.setCell ⟨kb, 0, none⟩ (.slice a4 (l.length + 1) c4))) ∧ KeepR w (w4.setCell ⟨kb, 0, none⟩ (.slice a4 (l.length + 1) c4)) from ⟨(HB.out.mono HKK.out.2.2.1).trans (HE.out.2.1 (by have := HKK.out.2.2; omega)), (KeepR.below HB.out).trans HE.out.2.2⟩)
    clear hown4 hg4 hat4 p0 p1 b0 b1 b2 b3 q0 f0
    (try go_wp2_with fail)
    go_ret
    exact ⟨rfl, HE.out.1, HS.out.1, HS.out.2⟩
end Go.Proofs.Ytedljdcliilggaa

namespace Go.Proofs.Ytedljdcliilggaa
open Go.RowKit Go.Maps

/-- Two cells in the midst of a block. -/
structure Pair2 (w : World) (g o : Nat) (x0 x1 : Value) : Prop where
  c0 : w.cell? ⟨g, o, none⟩ = some x0
  c1 : w.cell? ⟨g, o + 1, none⟩ = some x1
  f0 : w.frozen? ⟨g, o, none⟩ = false
  f1 : w.frozen? ⟨g, o + 1, none⟩ = false
/-- Patterns that are left, and their terms, as slices. -/
structure Rv where
  a1 : Option Addr
  c1 : Nat
  ps : List Tm
  a2 : Option Addr
  c2 : Nat
  ts : List Tm
def Rv.cells (r : Rv) : List Value := [.slice r.a1 r.ps.length r.c1, .slice r.a2 r.ts.length r.c2]
def Rv.lf (r : Rv) : Lf := (r.ps, r.ts)
def Rv.ok (w0 : World) (r : Rv) : Prop := r.ps.length = r.ts.length ∧ Args w0 r.a1 r.c1 r.ps ∧ Args w0 r.a2 r.c2 r.ts
def rowRv (vs : List Rv) : List Value := vs.flatMap Rv.cells
theorem rowRv_length (vs : List Rv) : (rowRv vs).length = vs.length * 2 := by
  unfold rowRv
  induction vs with
  | nil => rfl
  | cons v r ih => rw [List.flatMap_cons, List.length_append, ih, List.length_cons]; simp [Rv.cells]; omega
theorem rowRv_append (a b : List Rv) : rowRv (a ++ b) = rowRv a ++ rowRv b := by unfold rowRv; rw [List.flatMap_append]
theorem rowRv_one (v : Rv) : rowRv [v] = v.cells := by unfold rowRv; simp
/-- The pile, the top first. -/
def pile (vs : List Rv) : List Lf := (vs.map Rv.lf).reverse
theorem pile_nil : pile [] = [] := rfl
theorem pile_snoc (vs : List Rv) (r : Rv) : pile (vs ++ [r]) = (r.ps, r.ts) :: pile vs := by unfold pile; rw [List.map_append, List.reverse_append]; rfl
/-- A row of pairs of slices in a block of its own. -/
def PileAt (W : World) (rb cap : Nat) (vs : List Rv) : Prop := ∃ cur, W.heap[rb]? = some (.cells cur 96 (0, 0)) ∧ vs.length ≤ cap ∧ cap ≤ maxLen ∧ cur.size = cap * 2 ∧ cur.toList.take (vs.length * 2) = rowRv vs
theorem PileAt.keep {W W' : World} {rb cap : Nat} {vs : List Rv} (h : PileAt W rb cap vs) (hk : KeepR W W') : PileAt W' rb cap vs := by
  obtain ⟨cur, h1, h2⟩ := h
  exact ⟨cur, hk rb cur h1, h2⟩
theorem PileAt.below {W W' : World} {rb cap : Nat} {vs : List Rv} (h : PileAt W rb cap vs) (hb : Below W.heap.size W W') : PileAt W' rb cap vs := h.keep (KeepR.below hb)
theorem PileAt.owns {W : World} {rb cap n0 : Nat} {vs : List Rv} (h : PileAt W rb cap vs) (hn : n0 ≤ rb) : W.ownsRow n0 96 2 (.slice (some ⟨rb, 0, none⟩) vs.length cap) vs.length (rowRv vs) := by
  obtain ⟨cur, h1, h2, h3, h4, h5⟩ := h
  exact ⟨rowRv_length vs, .inr ⟨rb, cap, cur, rfl, hn, h1, h2, h3, h4, h5⟩⟩
theorem PileAt.lt {W : World} {rb cap : Nat} {vs : List Rv} (h : PileAt W rb cap vs) : rb < W.heap.size := by
  obtain ⟨cur, h1, _⟩ := h
  exact (Array.getElem?_eq_some_iff.1 h1).1
/-- The top of a pile, in cells. -/
theorem PileAt.top {W : World} {rb cap : Nat} {vs : List Rv} {r : Rv} (h : PileAt W rb cap (vs ++ [r])) : Pair2 W rb (vs.length * 2) (.slice r.a1 r.ps.length r.c1) (.slice r.a2 r.ts.length r.c2) := by
  obtain ⟨cur, h1, h2, h3, h4, h5⟩ := h
  rw [rowRv_append, rowRv_one] at h5
  have hc : ∀ k, k < 2 → W.cell? ⟨rb, vs.length * 2 + k, none⟩ = r.cells[k]? := fun k hk => by
    rw [cell_of_row W rb _ cur _ (0, 0) h1]
    have e : (cur.toList.take ((vs ++ [r]).length * 2))[vs.length * 2 + k]? = r.cells[k]? := by
      rw [h5, List.getElem?_append_right (by rw [rowRv_length]; omega), rowRv_length]
      congr 1; omega
    rw [List.getElem?_take_of_lt (by rw [List.length_append, List.length_singleton]; omega)] at e
    simpa using e
  exact ⟨hc 0 (by omega), hc 1 (by omega), by simp [World.frozen?, h1], by simp [World.frozen?, h1]⟩
/-- The top taken off. -/
theorem PileAt.pop {W : World} {rb cap : Nat} {vs : List Rv} {r : Rv} (h : PileAt W rb cap (vs ++ [r])) : PileAt W rb cap vs := by
  obtain ⟨cur, h1, h2, h3, h4, h5⟩ := h
  rw [List.length_append, List.length_singleton] at h2 h5
  refine ⟨cur, h1, by omega, h3, h4, ?_⟩
  rw [rowRv_append] at h5
  have := congrArg (List.take (vs.length * 2)) h5
  rw [List.take_take, Nat.min_eq_left (by omega), List.take_append_of_le_length (by rw [rowRv_length]; exact Nat.le_refl _), List.take_of_length_le (l := rowRv vs) (by rw [rowRv_length]; exact Nat.le_refl _)] at this
  exact this
/-- The top written anew. -/
theorem PileAt.put {W : World} {rb cap : Nat} {vs : List Rv} {r q : Rv} (h : PileAt W rb cap (vs ++ [r])) : PileAt ((W.setCell ⟨rb, vs.length * 2, none⟩ (.slice q.a1 q.ps.length q.c1)).setCell ⟨rb, vs.length * 2 + 1, none⟩ (.slice q.a2 q.ts.length q.c2)) rb cap (vs ++ [q]) := by
  obtain ⟨cur, h1, h2, h3, h4, h5⟩ := h
  rw [List.length_append, List.length_singleton] at h2 h5
  refine ⟨(cur.setIfInBounds (vs.length * 2) (.slice q.a1 q.ps.length q.c1)).setIfInBounds (vs.length * 2 + 1) (.slice q.a2 q.ts.length q.c2), ?_, by rw [List.length_append, List.length_singleton]; exact h2, h3, by simpa using h4, ?_⟩
  · exact block_setCell _ (block_setCell _ h1)
  · rw [List.length_append, List.length_singleton, rowRv_append, rowRv_one]
    have hp : cur.toList.take (vs.length * 2) = rowRv vs := by
      rw [rowRv_append] at h5
      have := congrArg (List.take (vs.length * 2)) h5
      rw [List.take_take, Nat.min_eq_left (by omega), List.take_append_of_le_length (by rw [rowRv_length]; exact Nat.le_refl _), List.take_of_length_le (l := rowRv vs) (by rw [rowRv_length]; exact Nat.le_refl _)] at this
      exact this
    apply List.ext_getElem?
    intro i
    by_cases hi : i < vs.length * 2
    · rw [List.getElem?_take_of_lt (by omega), List.getElem?_append_left (by rw [rowRv_length]; exact hi), ← hp, List.getElem?_take_of_lt hi]
      simp only [Array.toList_setIfInBounds, List.getElem?_set]
      rw [if_neg (by omega), if_neg (by omega)]
    · by_cases h0 : i = vs.length * 2
      · subst h0
        rw [List.getElem?_take_of_lt (by omega), List.getElem?_append_right (by rw [rowRv_length]; exact Nat.le_refl _), rowRv_length, Nat.sub_self]
        simp only [Array.toList_setIfInBounds, List.getElem?_set]
        rw [if_neg (by omega), if_pos trivial, if_pos (by simp; omega)]
        rfl
      · by_cases h1' : i = vs.length * 2 + 1
        · subst h1'
          rw [List.getElem?_take_of_lt (by omega), List.getElem?_append_right (by rw [rowRv_length]; omega), rowRv_length, show vs.length * 2 + 1 - vs.length * 2 = 1 by omega]
          simp only [Array.toList_setIfInBounds, List.getElem?_set]
          rw [if_pos trivial, if_pos (by simp; omega)]
          rfl
        · rw [List.getElem?_eq_none (by rw [List.length_take]; omega), List.getElem?_eq_none (by rw [List.length_append, rowRv_length]; simp [Rv.cells]; omega)]
/-- The rest of a row of terms behind its first. -/
theorem args_tail {w : World} {a : Option Addr} {c : Nat} {t : Tm} {r : List Tm} (h : Args w a c (t :: r)) : Args w (if c = 1 then a else a.map (·.add 4)) (c - 1) r := by
  obtain ⟨⟨h1, h2⟩, h⟩ := h
  rw [List.length_cons] at h1 h2
  refine ⟨⟨by omega, by omega⟩, ?_⟩
  by_cases hr : r = []
  · exact .inl hr
  · rcases h with h | ⟨b, o, rfl, hlt, hat⟩
    · cases h
    · have hl : 0 < r.length := List.length_pos_iff.2 hr
      rw [if_neg (by omega)]
      rw [RowAt] at hat
      refine .inr ⟨b, o + 4, ?_, hlt, hat.2⟩
      simp [Addr.add]
end Go.Proofs.Ytedljdcliilggaa
