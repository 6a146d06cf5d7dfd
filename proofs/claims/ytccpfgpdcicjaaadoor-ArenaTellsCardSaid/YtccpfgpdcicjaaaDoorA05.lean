/-
  The program's arenas in memory: a struct of a table and a row of entries; what an entry holds lies in memory that is never written again.
  An arena stays what it is where other blocks turn; what is in it comes in sight.
  The program's arenas: made, Len, lacks, and New.
  What an arena tells of a number, by the program: Get, Size.
  What node an arena has at a number, by the program: At.
  An arena with one term more: its table has it, its row has its entry, what the entry holds was made since.
-/
import Derived.Test.YtccpfgpdcicjaaaDoorA02
import Derived.Test.YtccpfgpdcicjaaaDoorA04
import Derived.BigQuiet
import Derived.Test.YtccpfgpdcicjaaaDoorA03
import Derived.Maps.AppendAt
import Derived.Deep.RegionHeld3
namespace Go.Proofs.YtccpfgpdcicjaaaDoor
open Go.RowKit Go.Maps

/-- An entry of an arena: the term, where the numbers of its arguments lie, and these. -/
structure En where
  z : Tv
  a : Option Addr
  c : Nat
  is : List Int
def En.cells (e : En) : List Value := [.int .i64 e.z.t.kind, .string e.z.t.name, .int .i64 e.z.t.n, .slice e.z.a e.z.t.args.length e.z.c, .slice e.a e.is.length e.c, .int .i64 e.z.t.parts]
def rowE (es : List En) : List Value := es.flatMap En.cells
theorem rowE_length (es : List En) : (rowE es).length = es.length * 6 := by
  unfold rowE
  induction es with
  | nil => rfl
  | cons e r ih => rw [List.flatMap_cons, List.length_append, ih, List.length_cons]; simp [En.cells]; omega
theorem rowE_append (a b : List En) : rowE (a ++ b) = rowE a ++ rowE b := by unfold rowE; rw [List.flatMap_append]
theorem rowE_one (e : En) : rowE [e] = e.cells := by unfold rowE; simp
theorem rowE_get : ∀ (es : List En) (j : Nat) (h : j < es.length) (i : Nat), i < 6 → (rowE es)[j * 6 + i]? = es[j].cells[i]?
  | [], _, h, _, _ => by simp at h
  | e :: r, 0, _, i, hi => by
    unfold rowE
    rw [List.flatMap_cons, Nat.zero_mul, Nat.zero_add, List.getElem?_append_left (by simp [En.cells]; omega)]; rfl
  | e :: r, j + 1, h, i, hi => by
    have ih := rowE_get r j (by simpa using h) i hi
    unfold rowE at ih ⊢
    rw [List.flatMap_cons, List.getElem?_append_right (by simp [En.cells]; omega), List.getElem_cons_succ, ← ih]
    congr 1
    simp [En.cells]; omega
theorem rowE_one' (es : List En) : ∀ u ∈ rowE es, u.oneCell' = true := by
  intro u hu
  unfold rowE at hu
  obtain ⟨e, _, h⟩ := List.mem_flatMap.1 hu
  simp only [En.cells, List.mem_cons, List.not_mem_nil, or_false] at h
  rcases h with rfl | rfl | rfl | rfl | rfl | rfl <;> rfl
/-- What an entry holds. -/
structure En.ok (w1 : World) (L : List Tm) (e : En) : Prop where
  z : e.z.ok w1
  nums : Nums w1 (.slice e.a e.is.length e.c) e.is
  is : e.is = (argN L e.z.t).map fun i : Nat => (i : Int)
theorem En.ok.reads {w1 w2 : World} {L : List Tm} {e : En} (h : e.ok w1 L) (hr : Reads w1 w2) : e.ok w2 L := ⟨h.z.reads hr, h.nums.reads hr, h.is⟩
/-- A term as an arena keeps it: its numbers are int's, its name is short, it has few parts. -/
structure Few1 (t : Tm) : Prop where
  fit : Fit t.kind t.name t.n
  name : t.name.size ≤ 100
  parts : t.parts ≤ 300
theorem Few1.fine {t : Tm} (h : Few1 t) {L : List Tm} (hL : L.length ≤ 1200) : Fine L t :=
  ⟨h.fit, h.name, by have h1 := h.parts; have h2 := parts_eq t; have h3 := partsL_length t.args; omega, by omega⟩

/-- The blocks of an arena. -/
structure ArMem (g bm : Nat) (kv : Value) (es : List En) (D : DataW Unit) (L : List Tm) (W : World) : Prop where
  c0 : W.cell? ⟨g, 0, none⟩ = some (.map (some bm))
  c1 : W.cell? ⟨g, 1, none⟩ = some kv
  f0 : W.frozen? ⟨g, 0, none⟩ = false
  f1 : W.frozen? ⟨g, 1, none⟩ = false
  map : W.ownsMap Tryd.prog 75 (plainElem Tryd.prog 3) bm L.length D
  tab : TabOf D L
  row : W.ownsRow 0 68 6 kv L.length (rowE es)
  terms : es.map (fun e => e.z.t) = L
  gk : kv.ownBlock ≠ some g
/-- What lies in the blocks, and which these are. -/
structure ArSet (C : Nat → Prop) (w0 W : World) (F : Nat → Bool) (g bm : Nat) (kv : Value) (es : List En) (L : List Tm) : Prop where
  reads : Reads w0 W
  ord : Ord L
  few1 : ∀ x ∈ L, Few1 x
  few : L.length ≤ 1200
  es : ∀ e ∈ es, e.ok (over w0 W F) L
  pow : Pow W
  seen : ∃ v, w0.cell? ⟨0, 0, none⟩ = some v
  cg : C g
  cb : C bm
  ck : ∀ b, kv.ownBlock = some b → C b
  hid : ∀ k, F k = true → C k ∧ k ≠ g ∧ k ≠ bm ∧ kv.ownBlock ≠ some k
  own : ∀ k, C k → k < W.heap.size ∧ Blind w0 k
/-- An arena of the program's. -/
def AR : ARel := fun C w0 W p L => ∃ (F : Nat → Bool) (g bm : Nat) (kv : Value) (es : List En) (D : DataW Unit), p = .pointer (some ⟨g, 0, none⟩) ∧ ArMem g bm kv es D L W ∧ ArSet C w0 W F g bm kv es L

theorem ArMem.same {g bm : Nat} {kv : Value} {es : List En} {D : DataW Unit} {L : List Tm} {W W' : World} (h : ArMem g bm kv es D L W) (hg : W'.heap[g]? = W.heap[g]?) (hb : W'.heap[bm]? = W.heap[bm]?) (hk : ∀ b, kv.ownBlock = some b → W'.heap[b]? = W.heap[b]?) : ArMem g bm kv es D L W' where
  c0 := (World.cell?_of_block (a := ⟨g, 0, none⟩) hg).trans h.c0
  c1 := (World.cell?_of_block (a := ⟨g, 1, none⟩) hg).trans h.c1
  f0 := (World.frozen?_of_block (a := ⟨g, 0, none⟩) hg).trans h.f0
  f1 := (World.frozen?_of_block (a := ⟨g, 1, none⟩) hg).trans h.f1
  map := map_same h.map hb
  tab := h.tab
  row := own_same h.row hk
  terms := h.terms
  gk := h.gk
theorem ArMem.len {g bm : Nat} {kv : Value} {es : List En} {D : DataW Unit} {L : List Tm} {W : World} (h : ArMem g bm kv es D L W) : es.length = L.length := by rw [← h.terms, List.length_map]
theorem ArMem.get {g bm : Nat} {kv : Value} {es : List En} {D : DataW Unit} {L : List Tm} {W : World} (h : ArMem g bm kv es D L W) {i : Nat} (hi : i < L.length) : (es[i]'(by rw [h.len]; exact hi)).z.t = L[i] := by
  have := h.terms
  subst this
  simp
/-- Where an entry lies. -/
theorem ArMem.at_ {g bm : Nat} {kv : Value} {es : List En} {D : DataW Unit} {L : List Tm} {W : World} (h : ArMem g bm kv es D L W) {i : Nat} (hi : i < L.length) :
    ∃ (b c : Nat) (e : En), kv = .slice (some ⟨b, 0, none⟩) L.length c ∧ e ∈ es ∧ e.z.t = L[i] ∧ W.cell? ⟨b, i * 6, none⟩ = some (.int .i64 e.z.t.kind) ∧ W.cell? ⟨b, i * 6 + 1, none⟩ = some (.string e.z.t.name) ∧ W.cell? ⟨b, i * 6 + 2, none⟩ = some (.int .i64 e.z.t.n) ∧
      W.cell? ⟨b, i * 6 + 3, none⟩ = some (.slice e.z.a e.z.t.args.length e.z.c) ∧ W.cell? ⟨b, i * 6 + 4, none⟩ = some (.slice e.a e.is.length e.c) ∧ W.cell? ⟨b, i * 6 + 5, none⟩ = some (.int .i64 e.z.t.parts) := by
  have hlen := h.len
  have hie : i < es.length := by rw [hlen]; exact hi
  obtain ⟨hn, ⟨_, h0⟩ | ⟨b, cap, cur, rfl, _, hg, hcap, hmax, hsz, htake⟩⟩ := h.row
  · omega
  · have hc : ∀ j, j < 6 → W.cell? ⟨b, i * 6 + j, none⟩ = es[i].cells[j]? := fun j hj => by
      rw [cell_of_row W b (i * 6 + j) cur _ (0, 0) hg, ← rowE_get es i hie j hj, ← htake, List.getElem?_take, if_pos (by omega)]
      simp
    exact ⟨b, cap, es[i], rfl, List.getElem_mem hie, h.get hi, hc 0 (by omega), hc 1 (by omega), hc 2 (by omega), hc 3 (by omega), hc 4 (by omega), hc 5 (by omega)⟩
end Go.Proofs.YtccpfgpdcicjaaaDoor

namespace Go.Proofs.YtccpfgpdcicjaaaDoor
open Go.RowKit Go.Maps

theorem over_reads {w0 w1 W W' : World} {F : Nat → Bool} (hu : Reads w0 w1) (h0 : w0.heap.size ≤ W.heap.size) (h1 : w1.heap.size ≤ W'.heap.size) (hs : W.heap.size ≤ W'.heap.size) (hF : ∀ k, F k = true → k < W.heap.size → W'.heap[k]? = W.heap[k]?) : Reads (over w0 W F) (over w1 W' F) :=
  ⟨by rw [over_size, over_size]; exact hs, fun p v hv => by
    cases e : F p.block with
    | true =>
      rw [World.cell?_of_block (w := W) (w' := over w0 W F) (a := p) (over_in w0 W e)] at hv
      rw [World.cell?_of_block (w := W') (w' := over w1 W' F) (a := p) (over_in w1 W' e), World.cell?_of_block (w := W) (w' := W') (a := p) (hF _ e (World.block_lt_of_cell? W p hv))]
      exact hv
    | false =>
      rw [over_cell e h0] at hv
      rw [over_cell e h1]
      exact hu.cell p v hv⟩
theorem Pow.same {w w' : World} (h : Pow w) (hs : w.heap.size ≤ w'.heap.size) (he : w'.heap[0]? = w.heap[0]?) : Pow w' where
  pow := by
    have h1 := h.pow
    unfold Lib.TabIs World.var? at h1 ⊢
    rw [gPow] at h1 ⊢
    simp only [Option.bind_some] at h1 ⊢
    rw [he]
    exact h1
  size := Nat.lt_of_lt_of_le h.size hs
theorem Pow.seen {w : World} (h : Pow w) : ∃ v, w.cell? ⟨0, 0, none⟩ = some v := by
  have h1 := h.pow
  unfold Lib.TabIs World.var? at h1
  rw [gPow] at h1
  simp only [Option.bind_some] at h1
  split at h1
  · next cs t f e =>
    injection h1 with h1
    subst h1
    exact ⟨.int .u64 1, (cell_of_row w _ 0 _ t f e).trans rfl⟩
  · cases h1
theorem not_blind {w0 : World} {k : Nat} {v : Value} (h : w0.cell? ⟨k, 0, none⟩ = some v) : ¬ Blind w0 k := fun hb => by rw [hb _ rfl] at h; cases h

theorem ar_reads {C : Nat → Prop} {w0 W : World} {p : Value} {L : List Tm} (h : AR C w0 W p L) : Reads w0 W := by
  obtain ⟨_, _, _, _, _, _, _, _, hs⟩ := h; exact hs.reads
theorem ar_ord {C : Nat → Prop} {w0 W : World} {p : Value} {L : List Tm} (h : AR C w0 W p L) : Ord L := by
  obtain ⟨_, _, _, _, _, _, _, _, hs⟩ := h; exact hs.ord
theorem ar_own {C : Nat → Prop} {w0 W : World} {p : Value} {L : List Tm} (h : AR C w0 W p L) : ∀ k, C k → k < W.heap.size ∧ Blind w0 k := by
  obtain ⟨_, _, _, _, _, _, _, _, hs⟩ := h; exact hs.own
theorem ar_pow {C : Nat → Prop} {w0 W : World} {p : Value} {L : List Tm} (h : AR C w0 W p L) : Pow W := by
  obtain ⟨_, _, _, _, _, _, _, _, hs⟩ := h; exact hs.pow
theorem ar_stay {C D : Nat → Prop} {w0 w1 W W' : World} {p : Value} {L : List Tm} (h : AR C w0 W p L) (s : Step D w0 W w1 W') (hCD : ∀ k, C k → ¬ D k) (hD : ∀ k, D k → Blind w0 k) : AR C w1 W' p L := by
  obtain ⟨F, g, bm, kv, es, T, rfl, hm, hs⟩ := h
  have keep : ∀ k, C k → W'.heap[k]? = W.heap[k]? := fun k hk => s.keep k (hs.own k hk).1 (hCD k hk)
  refine ⟨F, g, bm, kv, es, T, rfl, hm.same (keep g hs.cg) (keep bm hs.cb) (fun b hb => keep b (hs.ck b hb)), ?_⟩
  obtain ⟨v, hv⟩ := hs.seen
  exact ⟨s.on, hs.ord, hs.few1, hs.few, fun e he => (hs.es e he).reads (over_reads s.up hs.reads.size s.on.size s.size (fun k hk _ => keep k (hs.hid k hk).1)),
    hs.pow.same s.size (s.keep _ hs.pow.size (fun hd => not_blind hv (hD _ hd))), ⟨v, s.up.cell _ _ hv⟩, hs.cg, hs.cb, hs.ck, hs.hid, fun k hk => ⟨Nat.lt_of_lt_of_le (hs.own k hk).1 s.size, s.blind k (hs.own k hk).1 (hCD k hk) (hs.own k hk).2⟩⟩
theorem ar_below {C : Nat → Prop} {w0 W W' : World} {p : Value} {L : List Tm} (h : AR C w0 W p L) (hb : Below W.heap.size W W') : AR C w0 W' p L := ar_stay h (step_below (C := fun _ => False) (ar_reads h) hb) (fun _ _ f => f) (fun _ f => f.elim)
/-- New memory alone. -/
theorem ar_post {C : Nat → Prop} {w0 W W' : World} {p : Value} {L : List Tm} {R : Ending → World → Prop} {e : Ending} (h : AR C w0 W p L) (hb : Below W.heap.size W W') (hr : R e W') : ArPost AR C w0 W p L R e W' :=
  ⟨C, hr, ar_below h hb, step_below (ar_reads h) hb, fun _ hk => .inl hk⟩
/-- What the entries hold comes in sight, and what has been made since: the blocks of the former are the arena's no longer. -/
def sightE (n : Nat) (F : Nat → Bool) (k : Nat) : Bool := F k || decide (n ≤ k)
theorem ar_sight {C : Nat → Prop} {w0 W W' : World} {F : Nat → Bool} {g bm : Nat} {kv : Value} {es : List En} {D : DataW Unit} {L : List Tm} (hm : ArMem g bm kv es D L W) (hs : ArSet C w0 W F g bm kv es L) (hb : Below W.heap.size W W') :
    ∃ (C' : Nat → Prop) (w1 : World), (∀ e ∈ es, e.ok w1 L) ∧ AR C' w1 W' (.pointer (some ⟨g, 0, none⟩)) L ∧ Step C w0 W w1 W' ∧ (∀ k, C' k → C k ∨ W.heap.size ≤ k) ∧ (∀ k, W.heap.size ≤ k → w1.heap[k]? = W'.heap[k]?) ∧ w1.heap.size = W'.heap.size := by
  have hr : Reads w0 W' := hs.reads.trans (reads_below hb)
  have hE : ∀ k, k < W.heap.size → F k = false → sightE W.heap.size F k = false := fun k hk hf => by unfold sightE; rw [hf, decide_eq_false (by omega)]; rfl
  have hu : Reads (over w0 W F) (over w0 W' (sightE W.heap.size F)) := ⟨by rw [over_size, over_size]; exact hb.size, fun p v hv => by
    cases e : F p.block with
    | true =>
      rw [World.cell?_of_block (w := W) (w' := over w0 W F) (a := p) (over_in w0 W e)] at hv
      rw [World.cell?_of_block (w := W') (w' := over w0 W' (sightE W.heap.size F)) (a := p) (over_in w0 W' (by unfold sightE; rw [e]; rfl)), World.cell?_of_block (w := W) (w' := W') (a := p) (hb.block _ (World.block_lt_of_cell? W p hv))]
      exact hv
    | false =>
      rw [over_cell e hs.reads.size] at hv
      exact (over_up hr).cell p v hv⟩
  have hes : ∀ e ∈ es, e.ok (over w0 W' (sightE W.heap.size F)) L := fun e he => (hs.es e he).reads hu
  obtain ⟨v, hv⟩ := hs.seen
  refine ⟨fun k => C k ∧ F k = false, over w0 W' (sightE W.heap.size F), hes, ⟨fun _ => false, g, bm, kv, es, D, rfl, hm.same (hb.block g (hs.own g hs.cg).1) (hb.block bm (hs.own bm hs.cb).1) (fun b h => hb.block b (hs.own b (hs.ck b h)).1), ?_⟩, ?_, fun k hk => .inl hk.1, fun k hk => over_in w0 W' (by unfold sightE; rw [decide_eq_true hk]; simp), over_size _ _ _⟩
  · refine ⟨over_on hr, hs.ord, hs.few1, hs.few, fun e he => (hes e he).reads (over_up (over_on hr)), hs.pow.below hb, ⟨v, (over_up hr).cell _ _ hv⟩, ⟨hs.cg, ?_⟩, ⟨hs.cb, ?_⟩, fun b h => ⟨hs.ck b h, ?_⟩, (fun k hk => by cases hk), fun k hk => ⟨Nat.lt_of_lt_of_le (hs.own k hk.1).1 hb.size, over_blind hr.size (hE k (hs.own k hk.1).1 hk.2) (hs.own k hk.1).2⟩⟩
    · cases e : F g with
      | false => rfl
      | true => exact absurd rfl (hs.hid g e).2.1
    · cases e : F bm with
      | false => rfl
      | true => exact absurd rfl (hs.hid bm e).2.2.1
    · cases e : F b with
      | false => rfl
      | true => exact absurd h (hs.hid b e).2.2.2
  · exact ⟨over_up hr, over_on hr, fun k hk hc hbl => over_blind hr.size (hE k hk (by
      cases e : F k with
      | false => rfl
      | true => exact absurd (hs.hid k e).1 hc)) hbl, hb.os, hb.tape, hb.output, hb.size, fun k hk _ => hb.block k hk⟩
end Go.Proofs.YtccpfgpdcicjaaaDoor

namespace Go.Proofs.YtccpfgpdcicjaaaDoor
open Go.RowKit Go.Maps

/-- The struct of an arena, as a walk reads it. -/
structure Head (W : World) (g bm : Nat) (kv : Value) : Prop where
  c0 : W.cell? ⟨g, 0, none⟩ = some (.map (some bm))
  c1 : W.cell? ⟨g, 1, none⟩ = some kv
theorem ArMem.head {g bm : Nat} {kv : Value} {es : List En} {D : DataW Unit} {L : List Tm} {W : World} (h : ArMem g bm kv es D L W) : Head W g bm kv := ⟨h.c0, h.c1⟩
theorem map_neq (p : Option Nat) : ∀ W : World, (binOp .neq 61 (.map p) (.map none)).run Tryd.prog W = .ok (.bool (!p.isNone)) W := fun W => run_neq_map_nil W _ _ _ _ Tryd.underlying61
set_option maxRecDepth 100000 in
theorem made_any (g bm : Nat) (kv : Value) (W : World) (h : Head W g bm kv) : Calls Tryd.prog 36 #[.pointer (some ⟨g, 0, none⟩)] W fun e W' => e = .returned (.bool true) ∧ W' = W := by
  obtain ⟨c0, c1⟩ := h
  have hq := map_neq (some bm)
  go_enter Tryd.func36, Tryd.ntmps36
  go_wp2_with fail
  go_ret
  exact ⟨rfl, rfl⟩
set_option maxRecDepth 100000 in
theorem made_none (W : World) : Calls Tryd.prog 36 #[.pointer none] W fun e W' => e = .returned (.bool false) ∧ W' = W := by
  go_enter Tryd.func36, Tryd.ntmps36
  go_wp2_with fail
  go_ret
  exact ⟨rfl, rfl⟩
set_option maxRecDepth 100000 in
theorem len_none (W : World) : Calls Tryd.prog 17 #[.pointer none] W fun e W' => e = .returned (.int .i64 0) ∧ W' = W := by
  have M := Lib.hid made_none
  go_enter Tryd.func17, Tryd.ntmps17
  go_wp2_with fail
  refine (M.out _).mono ?_; rintro e w1 ⟨rfl, rfl⟩
  go_wp2_with fail
  go_ret
  exact ⟨rfl, rfl⟩
set_option maxRecDepth 100000 in
theorem len_any (g bm : Nat) (a : Option Addr) (n c : Nat) (W : World) (h : Head W g bm (.slice a n c)) : Calls Tryd.prog 17 #[.pointer (some ⟨g, 0, none⟩)] W fun e W' => e = .returned (.int .i64 n) ∧ W' = W := by
  have M := Lib.hid (made_any g bm _ W h)
  obtain ⟨c0, c1⟩ := h
  go_enter Tryd.func17, Tryd.ntmps17
  go_wp2_with fail
  refine M.out.mono ?_; rintro e w1 ⟨rfl, rfl⟩
  go_wp2_with fail
  go_ret
  exact ⟨rfl, rfl⟩
set_option maxRecDepth 100000 in
theorem lacks_none (i : Int) (W : World) : Calls Tryd.prog 37 #[.pointer none, .int .i64 i] W fun e W' => e = .returned (.bool true) ∧ W' = W := by
  have LN := Lib.hid len_none
  by_cases h0 : i < 0
  · go_enter Tryd.func37, Tryd.ntmps37
    go_wp2_with fail
    go_ret
    exact ⟨rfl, rfl⟩
  · have h1 : (0 : Int) ≤ i := by omega
    go_enter Tryd.func37, Tryd.ntmps37
    go_wp2_with fail
    refine (LN.out _).mono ?_; rintro e w1 ⟨rfl, rfl⟩
    go_wp2_with fail
    go_ret
    exact ⟨rfl, rfl⟩
set_option maxRecDepth 100000 in
theorem lacks_any (g bm : Nat) (a : Option Addr) (n c : Nat) (i : Int) (W : World) (h : Head W g bm (.slice a n c)) : Calls Tryd.prog 37 #[.pointer (some ⟨g, 0, none⟩), .int .i64 i] W fun e W' => e = .returned (.bool (decide (i < 0 ∨ (n : Int) ≤ i))) ∧ W' = W := by
  have LN := Lib.hid (len_any g bm a n c W h)
  by_cases h0 : i < 0
  · rw [decide_eq_true (Or.inl h0)]
    go_enter Tryd.func37, Tryd.ntmps37
    go_wp2_with fail
    go_ret
    exact ⟨rfl, rfl⟩
  · by_cases h2 : (n : Int) ≤ i
    · rw [decide_eq_true (Or.inr h2)]
      go_enter Tryd.func37, Tryd.ntmps37
      go_wp2_with fail
      refine LN.out.mono ?_; rintro e w1 ⟨rfl, rfl⟩
      go_wp2_with fail
      go_ret
      exact ⟨rfl, rfl⟩
    · rw [decide_eq_false (by omega)]
      go_enter Tryd.func37, Tryd.ntmps37
      go_wp2_with fail
      refine LN.out.mono ?_; rintro e w1 ⟨rfl, rfl⟩
      go_wp2_with fail
      go_ret
      exact ⟨by simp [h2], rfl⟩
set_option maxRecDepth 100000 in
theorem new_any (w0 W : World) (hr : Reads w0 W) (h0 : Pow w0) (hT : Pow W) :
    Calls Tryd.prog 10 #[] W fun e W' => ∃ p C, e = .returned p ∧ AR C w0 W' p [] ∧ (∀ k, C k → W.heap.size ≤ k) ∧ Below W.heap.size W W' := by
  have hmm := @run_makeMap Tryd.prog
  have hM := World.ownsMap_made W Tryd.prog 75 (plainElem (H := Unit) Tryd.prog 3)
  have hz1 : (W.alloc (.map #[] 0)).heap.size = W.heap.size + 1 := by simp
  have hbelow : Below W.heap.size W ((W.alloc (.map #[] 0)).alloc (.cells #[.map (some W.heap.size), .slice none 0 0] 64)) := ((Below.refl _ _).alloc (Nat.le_refl _) _).alloc (by rw [hz1]; omega) _
  have END := Lib.hid (show AR (fun k => k = W.heap.size ∨ k = W.heap.size + 1) w0 ((W.alloc (.map #[] 0)).alloc (.cells #[.map (some W.heap.size), .slice none 0 0] 64)) (.pointer (some ⟨W.heap.size + 1, 0, none⟩)) [] from by
    refine ⟨fun _ => false, W.heap.size + 1, W.heap.size, .slice none 0 0, [], .map [], rfl, ⟨?_, ?_, ?_, ?_, (hM.alloc _), TabOf.nil, World.ownsRow_nil _ _ _ _, rfl, by simp [Value.ownBlock]⟩, ?_⟩
    · rw [← hz1, World.cell?_alloc_new]; rfl
    · rw [← hz1, World.cell?_alloc_new]; rfl
    · rw [← hz1, World.frozen?_alloc_new]
    · rw [← hz1, World.frozen?_alloc_new]
    · refine ⟨hr.trans (reads_below hbelow), Ord.nil, (fun x hx => by cases hx), by simp, (fun e he => by cases he), hT.below hbelow, h0.seen, .inr rfl, .inl rfl, (fun b hb => by simp [Value.ownBlock] at hb), (fun k hk => by cases hk), fun k hk => ⟨?_, blind_new ?_⟩⟩
      · rcases hk with rfl | rfl <;> simp <;> omega
      · have := hr.size
        rcases hk with rfl | rfl <;> omega)
  clear hM
  go_enter Tryd.func10, Tryd.ntmps10
  go_wp2_with fail
  go_ret
  exact ⟨_, _, rfl, END.out, fun k hk => by rcases hk with rfl | rfl <;> omega, hbelow⟩
end Go.Proofs.YtccpfgpdcicjaaaDoor

namespace Go.Proofs.YtccpfgpdcicjaaaDoor
open Go.RowKit Go.Maps

theorem Nums.range {w : World} {v : Value} {ns : List Int} (h : Nums w v ns) : ∀ x ∈ ns, -9223372036854775808 ≤ x ∧ x ≤ 9223372036854775807 := by
  obtain ⟨_, _, _, _, _, hn, _⟩ := h; exact hn
set_option maxRecDepth 100000 in
theorem get_none (W : World) (i : Int) : Calls Tryd.prog 25 #[.pointer none, .int .i64 i] W fun e W' => e = .returned (.tuple #[.agg #[.int .i64 0, .string ⟨#[]⟩, .int .i64 0, .slice none 0 0], .bool false]) ∧ Below W.heap.size W W' := by
  have LK := Lib.hid (lacks_none i)
  have hb := (Below.refl W.heap.size W).alloc (Nat.le_refl _) (.cells #[.int .i64 0, .string ⟨#[]⟩, .int .i64 0, .slice none 0 0] 28)
  have hx := box_new W (.int .i64 0) (.string ⟨#[]⟩) (.int .i64 0) (.slice none 0 0) 28
  go_enter Tryd.func25, Tryd.ntmps25
  go_wp2_with fail
  refine (LK.out _).mono ?_; rintro e w1 ⟨rfl, rfl⟩
  go_wp2_with fail
  obtain ⟨q0, q1, q2, q3, _, _, _, _⟩ := hx
  refine bodyPost_ret (v := .tuple #[.agg #[.int .i64 0, .string ⟨#[]⟩, .int .i64 0, .slice none 0 0], .bool false]) (by simp [results, Tryd.results25, go_sem, q0, q1, q2, q3]) rfl ?_
  exact ⟨rfl, hb⟩
set_option maxRecDepth 100000 in
theorem get_out {C : Nat → Prop} {w0 W : World} {p : Value} {L : List Tm} (i : Int) (ho : i < 0 ∨ (L.length : Int) ≤ i) (hA : AR C w0 W p L) :
    Calls Tryd.prog 25 #[p, .int .i64 i] W (ArPost AR C w0 W p L fun e _ => e = .returned (.tuple #[.agg #[.int .i64 0, .string ⟨#[]⟩, .int .i64 0, .slice none 0 0], .bool false])) := by
  have END := Lib.hid (fun (W' : World) (hb : Below W.heap.size W W') => ar_post (R := fun e _ => e = .returned (.tuple #[.agg #[.int .i64 0, .string ⟨#[]⟩, .int .i64 0, .slice none 0 0], .bool false])) hA hb rfl)
  obtain ⟨F, g, bm, kv, es, D, rfl, hm, hs⟩ := hA
  obtain ⟨a, c, rfl, _⟩ := own_shape hm.row
  have LK := Lib.hid (fun (V : World) (h : Head V g bm (.slice a L.length c)) => lacks_any g bm a L.length c i V h)
  rw [decide_eq_true ho] at LK
  have hb := (Below.refl W.heap.size W).alloc (Nat.le_refl _) (.cells #[.int .i64 0, .string ⟨#[]⟩, .int .i64 0, .slice none 0 0] 28)
  have hx := box_new W (.int .i64 0) (.string ⟨#[]⟩) (.int .i64 0) (.slice none 0 0) 28
  have hh := hm.head
  have hgl := (hs.own g hs.cg).1
  have H1 := Lib.hid (show Head (W.alloc (.cells #[.int .i64 0, .string ⟨#[]⟩, .int .i64 0, .slice none 0 0] 28)) g bm (.slice a L.length c) from ⟨(hb.cell (p := ⟨g, 0, none⟩) hgl).trans hh.c0, (hb.cell (p := ⟨g, 1, none⟩) hgl).trans hh.c1⟩)
  clear hm hs hh
  go_enter Tryd.func25, Tryd.ntmps25
  go_wp2_with fail
  refine (LK.out _ H1.out).mono ?_; rintro e w1 ⟨rfl, rfl⟩
  go_wp2_with fail
  obtain ⟨q0, q1, q2, q3, _, _, _, _⟩ := hx
  refine bodyPost_ret (v := .tuple #[.agg #[.int .i64 0, .string ⟨#[]⟩, .int .i64 0, .slice none 0 0], .bool false]) (by simp [results, Tryd.results25, go_sem, q0, q1, q2, q3]) rfl ?_
  exact END.out _ hb
/-- What Get does with a number that there is. -/
def GetPost (W : World) (e : En) (r : Ending) (W' : World) : Prop := r = .returned (tupleT e.z true) ∧ Below W.heap.size W W'
set_option maxRecDepth 100000 in
theorem get_at {g bm : Nat} {kv : Value} {es : List En} {D : DataW Unit} {L : List Tm} {W : World} (hm : ArMem g bm kv es D L W) {i : Nat} (hi : i < L.length) :
    ∃ e ∈ es, e.z.t = L[i] ∧ Calls Tryd.prog 25 #[.pointer (some ⟨g, 0, none⟩), .int .i64 i] W (GetPost W e) := by
  have hh := hm.head
  obtain ⟨b, c, e, rfl, he, het, d0, d1, d2, d3, d4, d5⟩ := hm.at_ hi
  refine ⟨e, he, het, ?_⟩
  obtain ⟨⟨t, za, zc⟩, ea, ec, is⟩ := e
  have LK := Lib.hid (fun (V : World) (h : Head V g bm (.slice (some ⟨b, 0, none⟩) L.length c)) => lacks_any g bm (some ⟨b, 0, none⟩) L.length c i V h)
  rw [decide_eq_false (by omega)] at LK
  have hb := (Below.refl W.heap.size W).alloc (Nat.le_refl _) (.cells #[.int .i64 0, .string ⟨#[]⟩, .int .i64 0, .slice none 0 0] 28)
  have hgl := lt_of_cell hh.c0
  have hbl := lt_of_cell d0
  have hgl1 : g < W.heap.size + 1 := by omega
  have hbl1 : b < W.heap.size + 1 := by omega
  have H1 := Lib.hid (show Head (W.alloc (.cells #[.int .i64 0, .string ⟨#[]⟩, .int .i64 0, .slice none 0 0] 28)) g bm (.slice (some ⟨b, 0, none⟩) L.length c) from ⟨(hb.cell (p := ⟨g, 0, none⟩) hgl).trans hh.c0, (hb.cell (p := ⟨g, 1, none⟩) hgl).trans hh.c1⟩)
  have hx := box_new W (.int .i64 t.kind) (.string t.name) (.int .i64 t.n) (.slice za t.args.length zc) 28
  have hb2 := (Below.refl W.heap.size W).alloc (Nat.le_refl _) (.cells #[.int .i64 t.kind, .string t.name, .int .i64 t.n, .slice za t.args.length zc] 28)
  have c1 := hh.c1
  have hi1 : (i : Int) < (L.length : Int) := by omega
  simp only at d0 d1 d2 d3
  clear hm hh he het d4 d5
  go_enter Tryd.func25, Tryd.ntmps25
  go_wp2_with fail
  refine (LK.out _ H1.out).mono ?_; rintro e w1 ⟨rfl, rfl⟩
  go_wp2_with fail
  obtain ⟨q0, q1, q2, q3, _, _, _, _⟩ := hx
  refine bodyPost_ret (v := .tuple #[.agg #[.int .i64 t.kind, .string t.name, .int .i64 t.n, .slice za t.args.length zc], .bool true]) (by simp [results, Tryd.results25, go_sem, q0, q1, q2, q3]) rfl ?_
  exact ⟨rfl, hb2⟩
set_option maxRecDepth 100000 in
theorem size_out {C : Nat → Prop} {w0 W : World} {p : Value} {L : List Tm} (i : Int) (ho : i < 0 ∨ (L.length : Int) ≤ i) (hA : AR C w0 W p L) :
    Calls Tryd.prog 26 #[p, .int .i64 i] W (ArPost AR C w0 W p L fun e _ => e = .returned (.int .i64 0)) := by
  have END := Lib.hid (ar_post (R := fun e _ => e = .returned (.int .i64 0)) hA (Below.refl _ _) rfl)
  obtain ⟨F, g, bm, kv, es, D, rfl, hm, hs⟩ := hA
  obtain ⟨a, c, rfl, _⟩ := own_shape hm.row
  have LK := Lib.hid (lacks_any g bm a L.length c i W hm.head)
  rw [decide_eq_true ho] at LK
  clear hm hs
  go_enter Tryd.func26, Tryd.ntmps26
  go_wp2_with fail
  refine LK.out.mono ?_; rintro e w1 ⟨rfl, rfl⟩
  go_wp2_with fail
  go_ret
  exact END.out
set_option maxRecDepth 100000 in
theorem size_any {C : Nat → Prop} {w0 W : World} {p : Value} {L : List Tm} (i : Nat) (hi : i < L.length) (hA : AR C w0 W p L) :
    Calls Tryd.prog 26 #[p, .int .i64 i] W (ArPost AR C w0 W p L fun e _ => e = .returned (.int .i64 L[i].parts)) := by
  have END := Lib.hid (ar_post (R := fun e _ => e = .returned (.int .i64 L[i].parts)) hA (Below.refl _ _) rfl)
  obtain ⟨F, g, bm, kv, es, D, rfl, hm, hs⟩ := hA
  have hh := hm.head
  obtain ⟨b, c, e, rfl, he, het, d0, d1, d2, d3, d4, d5⟩ := hm.at_ hi
  have LK := Lib.hid (lacks_any g bm _ L.length c i W hm.head)
  rw [decide_eq_false (by omega)] at LK
  have c1 := hh.c1
  have hi1 : (i : Int) < (L.length : Int) := by omega
  rw [het] at d5
  clear hm hs hh d0 d1 d2 d3 d4
  go_enter Tryd.func26, Tryd.ntmps26
  go_wp2_with fail
  refine LK.out.mono ?_; rintro e w1 ⟨rfl, rfl⟩
  go_wp2_with fail
  go_ret
  exact END.out
theorem get_any {C : Nat → Prop} {w0 W : World} {p : Value} {L : List Tm} (i : Nat) (hi : i < L.length) (hA : AR C w0 W p L) :
    Calls Tryd.prog 25 #[p, .int .i64 i] W (ArPost AR C w0 W p L fun e W' => ∃ z : Tv, e = .returned (tupleT z true) ∧ z.t = L[i] ∧ z.ok W') := by
  have hA2 := hA
  obtain ⟨F, g, bm, kv, es, D, rfl, hm, hs⟩ := hA
  obtain ⟨e, he, het, hc⟩ := get_at hm hi
  refine hc.mono ?_; rintro r W' ⟨rfl, hb⟩
  exact ar_post (R := fun e W' => ∃ z : Tv, e = .returned (tupleT z true) ∧ z.t = L[i] ∧ z.ok W') hA2 hb ⟨e.z, rfl, het, (((hs.es e he).z.reads (over_on hs.reads)).below hb)⟩
theorem getS_any {C : Nat → Prop} {w0 W : World} {p : Value} {L : List Tm} (i : Nat) (hi : i < L.length) (hA : AR C w0 W p L) :
    Calls Tryd.prog 25 #[p, .int .i64 i] W fun e W' => ∃ (C' : Nat → Prop) (w1 : World) (z : Tv), e = .returned (tupleT z true) ∧ z.t = L[i] ∧ z.ok w1 ∧ AR C' w1 W' p L ∧ Step C w0 W w1 W' ∧ ∀ k, C' k → C k ∨ W.heap.size ≤ k := by
  obtain ⟨F, g, bm, kv, es, D, rfl, hm, hs⟩ := hA
  obtain ⟨e, he, het, hc⟩ := get_at hm hi
  refine hc.mono ?_; rintro r W' ⟨rfl, hb⟩
  obtain ⟨C', w1, h1, h2, h3, h4, _, _⟩ := ar_sight hm hs hb
  exact ⟨C', w1, e.z, rfl, het, (h1 e he).z, h2, h3, h4⟩
set_option maxRecDepth 100000 in
/-- The same numbers in a row of the call's own. -/
theorem copied_any (a : Option Addr) (c : Nat) (is : List Int) (w : World) (h : Nums w (.slice a is.length c) is) (hl : is.length ≤ 100000) :
    Calls Tryd.prog 38 #[.slice a is.length c] w fun e w' => ∃ a' c', e = .returned (.slice a' is.length c') ∧ w'.ownsRow w.heap.size 3 1 (.slice a' is.length c') is.length (is.map (Value.int .i64)) ∧ Below w.heap.size w w' := by
  obtain ⟨i0, hi0, hiz0, his0, hib0⟩ := info_parts numInfo
  obtain ⟨a', c', he, _, _, hir, hn⟩ := h
  obtain ⟨rfl, rfl⟩ : a = a' ∧ c = c' := by cases he; exact ⟨rfl, rfl⟩
  have h0 : a = none → is.length = 0 := fun e => by
    rcases hn with hn | ⟨b, off, ha, _⟩
    · rw [hn]; rfl
    · rw [e] at ha; cases ha
  have hnews : ∀ ad, a = some ad → ∀ (j : Nat) (u : Value), (is.map (Value.int .i64))[j]? = some u → w.cell? (ad.add j) = some u := fun ad e j u hu => by
    rcases hn with hn | ⟨b, off, ha, _, hc⟩
    · rw [hn] at hu; simp at hu
    · rw [e] at ha; cases ha
      rw [List.getElem?_map, Option.map_eq_some_iff] at hu
      obtain ⟨x, hx, rfl⟩ := hu
      rw [show (⟨b, off, none⟩ : Addr).add j = ⟨b, off + j, none⟩ from by unfold Addr.add; split <;> simp_all]
      exact hc j x hx
  have HN := Lib.hid hnews
  have H0 := Lib.hid h0
  clear hn hnews he h0
  go_enter Tryd.func38, Tryd.ntmps38
  go_wp2_with (at_builtin; refine wpList_append_opt rfl _ _ 36 rfl w.heap.size 3 i0 (.int .i64 0) 1 8 Tryd.underlying36 hi0 hiz0 his0 hib0 rfl (by decide) (.slice none 0 0) 0 [] rfl (World.ownsRow_nil _ _ _ _) a is.length c (is.map (Value.int .i64)) rfl H0.out (by rw [List.length_map, Nat.mul_one]) HN.out (fun u hu => by obtain ⟨x, _, rfl⟩ := List.mem_map.1 hu; rfl) (by unfold maxLen; omega) (by omega) (Nat.le_refl _) ?_; intro v' w' hown hg _)
  have hb : Below w.heap.size w w' := (Below.refl _ _).grown hg (Nat.le_refl _) (fun b hb => by simp [Value.ownBlock] at hb)
  rw [Nat.zero_add, List.nil_append] at hown
  obtain ⟨a2, c2, rfl, _⟩ := own_shape hown
  go_wp2_with fail
  go_ret
  exact ⟨a2, c2, rfl, hown, hb⟩
set_option maxRecDepth 100000 in
theorem node_any (k : Int) (s : ByteArray) (n : Int) (a : Option Addr) (m c : Nat) (ua : Option Addr) (um uc : Nat) (w : World) :
    Calls Tryd.prog 35 #[.agg #[.int .i64 k, .string s, .int .i64 n, .slice a m c], .slice ua um uc] w fun e w' => e = .returned (.agg #[.int .i64 k, .string s, .int .i64 n, .slice ua um uc]) ∧ Below w.heap.size w w' := by
  have hb := ((Below.refl w.heap.size w).alloc (Nat.le_refl _) (.cells #[.int .i64 k, .string s, .int .i64 n, .slice a m c] 28)).alloc (by simp) (.cells #[.int .i64 k, .string s, .int .i64 n, .slice ua um uc] 38)
  have hx := box_new (w.alloc (.cells #[.int .i64 k, .string s, .int .i64 n, .slice a m c] 28)) (.int .i64 k) (.string s) (.int .i64 n) (.slice ua um uc) 38
  rw [show (w.alloc (.cells #[.int .i64 k, .string s, .int .i64 n, .slice a m c] 28)).heap.size = w.heap.size + 1 from by simp] at hx
  go_enter Tryd.func35, Tryd.ntmps35
  go_wp2_with fail
  obtain ⟨q0, q1, q2, q3, _, _, _, _⟩ := hx
  refine bodyPost_ret (v := .agg #[.int .i64 k, .string s, .int .i64 n, .slice ua um uc]) (by simp [results, Tryd.results35, go_sem, q0, q1, q2, q3]) rfl ?_
  exact ⟨rfl, hb⟩
end Go.Proofs.YtccpfgpdcicjaaaDoor

namespace Go.Proofs.YtccpfgpdcicjaaaDoor
open Go.RowKit Go.Maps

set_option maxRecDepth 100000 in
theorem at_out {C : Nat → Prop} {w0 W : World} {p : Value} {L : List Tm} (i : Int) (ho : i < 0 ∨ (L.length : Int) ≤ i) (hA : AR C w0 W p L) :
    Calls Tryd.prog 18 #[p, .int .i64 i] W (ArPost AR C w0 W p L fun e _ => e = .returned (.tuple #[.agg #[.int .i64 0, .string ⟨#[]⟩, .int .i64 0, .slice none 0 0], .bool false])) := by
  have END := Lib.hid (fun (W' : World) (hb : Below W.heap.size W W') => ar_post (R := fun e _ => e = .returned (.tuple #[.agg #[.int .i64 0, .string ⟨#[]⟩, .int .i64 0, .slice none 0 0], .bool false])) hA hb rfl)
  obtain ⟨F, g, bm, kv, es, D, rfl, hm, hs⟩ := hA
  obtain ⟨a, c, rfl, _⟩ := own_shape hm.row
  have LK := Lib.hid (fun (V : World) (h : Head V g bm (.slice a L.length c)) => lacks_any g bm a L.length c i V h)
  rw [decide_eq_true ho] at LK
  have hb := (Below.refl W.heap.size W).alloc (Nat.le_refl _) (.cells #[.int .i64 0, .string ⟨#[]⟩, .int .i64 0, .slice none 0 0] 38)
  have hx := box_new W (.int .i64 0) (.string ⟨#[]⟩) (.int .i64 0) (.slice none 0 0) 38
  have hh := hm.head
  have hgl := (hs.own g hs.cg).1
  have H1 := Lib.hid (show Head (W.alloc (.cells #[.int .i64 0, .string ⟨#[]⟩, .int .i64 0, .slice none 0 0] 38)) g bm (.slice a L.length c) from ⟨(hb.cell (p := ⟨g, 0, none⟩) hgl).trans hh.c0, (hb.cell (p := ⟨g, 1, none⟩) hgl).trans hh.c1⟩)
  clear hm hs hh
  go_enter Tryd.func18, Tryd.ntmps18
  go_wp2_with fail
  refine (LK.out _ H1.out).mono ?_; rintro e w1 ⟨rfl, rfl⟩
  go_wp2_with fail
  obtain ⟨q0, q1, q2, q3, _, _, _, _⟩ := hx
  refine bodyPost_ret (v := .tuple #[.agg #[.int .i64 0, .string ⟨#[]⟩, .int .i64 0, .slice none 0 0], .bool false]) (by simp [results, Tryd.results18, go_sem, q0, q1, q2, q3]) rfl ?_
  exact END.out _ hb
/-- What At does with a number that there is. -/
def AtPostE (W : World) (e : En) (r : Ending) (W' : World) : Prop := ∃ a c, r = .returned (.tuple #[.agg #[.int .i64 e.z.t.kind, .string e.z.t.name, .int .i64 e.z.t.n, .slice a e.is.length c], .bool true]) ∧
  W'.ownsRow W.heap.size 3 1 (.slice a e.is.length c) e.is.length (e.is.map (Value.int .i64)) ∧ Below W.heap.size W W'
set_option maxRecDepth 100000 in
set_option maxHeartbeats 1000000 in
theorem at_at {g bm : Nat} {kv : Value} {es : List En} {D : DataW Unit} {L : List Tm} {W w1 : World} (hm : ArMem g bm kv es D L W) (hes : ∀ e ∈ es, e.ok w1 L) (hr : Reads w1 W) (h300 : ∀ x ∈ L, Few1 x) {i : Nat} (hi : i < L.length) :
    ∃ e ∈ es, e.z.t = L[i] ∧ Calls Tryd.prog 18 #[.pointer (some ⟨g, 0, none⟩), .int .i64 i] W (AtPostE W e) := by
  have hh := hm.head
  obtain ⟨b, c, e, rfl, he, het, d0, d1, d2, d3, d4, d5⟩ := hm.at_ hi
  refine ⟨e, he, het, ?_⟩
  have hok := (hes e he).reads hr
  have hisl : e.is.length ≤ 300 := by
    rw [hok.is, List.length_map, argN, List.length_map]
    have h1 := (h300 L[i] (List.getElem_mem hi)).parts
    have h2 := parts_eq L[i]
    have h3 := partsL_length L[i].args
    rw [het]; omega
  have hnu := hok.nums
  obtain ⟨⟨t, za, zc⟩, ea, ec, is⟩ := e
  simp only at hisl hnu d0 d1 d2 d3 d4 d5
  have LK := Lib.hid (fun (V : World) (h : Head V g bm (.slice (some ⟨b, 0, none⟩) L.length c)) => lacks_any g bm (some ⟨b, 0, none⟩) L.length c i V h)
  rw [decide_eq_false (by omega)] at LK
  have hb := (Below.refl W.heap.size W).alloc (Nat.le_refl _) (.cells #[.int .i64 0, .string ⟨#[]⟩, .int .i64 0, .slice none 0 0] 38)
  have hgl := lt_of_cell hh.c0
  have hbl := lt_of_cell d0
  have hgl1 : g < W.heap.size + 1 := by omega
  have hbl1 : b < W.heap.size + 1 := by omega
  have H1 := Lib.hid (show Head (W.alloc (.cells #[.int .i64 0, .string ⟨#[]⟩, .int .i64 0, .slice none 0 0] 38)) g bm (.slice (some ⟨b, 0, none⟩) L.length c) from ⟨(hb.cell (p := ⟨g, 0, none⟩) hgl).trans hh.c0, (hb.cell (p := ⟨g, 1, none⟩) hgl).trans hh.c1⟩)
  have CP := Lib.hid (fun (V : World) (h : Nums V (.slice ea is.length ec) is) => copied_any ea ec is V h (by omega))
  have ND := Lib.hid (fun (a2 : Option Addr) (c2 : Nat) (V : World) => node_any t.kind t.name t.n za t.args.length zc a2 is.length c2 V)
  have HNU := Lib.hid hnu
  have c1 := hh.c1
  have hi1 : (i : Int) < (L.length : Int) := by omega
  clear hm hh he het hes hr h300 hok hnu
  go_enter Tryd.func18, Tryd.ntmps18
  go_wp2_with fail
  refine (LK.out _ H1.out).mono ?_; rintro e w1 ⟨rfl, rfl⟩
  go_wp2_with fail
  obtain ⟨wb, hwb⟩ : ∃ wb, wb = (W.alloc (.cells #[.int .i64 0, .string ⟨#[]⟩, .int .i64 0, .slice none 0 0] 38)).alloc (.cells #[.int .i64 t.kind, .string t.name, .int .i64 t.n, .slice za t.args.length zc, .slice ea is.length ec, .int .i64 t.parts] 68) := ⟨_, rfl⟩
  have hz1 : (W.alloc (.cells #[.int .i64 0, .string ⟨#[]⟩, .int .i64 0, .slice none 0 0] 38)).heap.size = W.heap.size + 1 := by simp
  have hzb : wb.heap.size = W.heap.size + 2 := by rw [hwb]; simp
  have hBW : Below W.heap.size W wb := by rw [hwb]; exact hb.alloc (by rw [hz1]; omega) _
  have bx : Box wb W.heap.size (.int .i64 0) (.string ⟨#[]⟩) (.int .i64 0) (.slice none 0 0) := by rw [hwb]; exact (box_new W _ _ _ _ _).below ((Below.refl _ _).alloc (Nat.le_refl _) _) (by rw [hz1]; omega)
  have e0 : wb.cell? ⟨W.heap.size + 1, 0, none⟩ = some (.int .i64 t.kind) := by rw [hwb, ← hz1, World.cell?_alloc_new]; rfl
  have e1 : wb.cell? ⟨W.heap.size + 1, 1, none⟩ = some (.string t.name) := by rw [hwb, ← hz1, World.cell?_alloc_new]; rfl
  have e2 : wb.cell? ⟨W.heap.size + 1, 2, none⟩ = some (.int .i64 t.n) := by rw [hwb, ← hz1, World.cell?_alloc_new]; rfl
  have e3 : wb.cell? ⟨W.heap.size + 1, 3, none⟩ = some (.slice za t.args.length zc) := by rw [hwb, ← hz1, World.cell?_alloc_new]; rfl
  have e4 : wb.cell? ⟨W.heap.size + 1, 4, none⟩ = some (.slice ea is.length ec) := by rw [hwb, ← hz1, World.cell?_alloc_new]; rfl
  rw [← hwb]
  have KEEP := Lib.hid (fun (V : World) (h : Below wb.heap.size wb V) => (show V.cell? ⟨W.heap.size + 1, 0, none⟩ = some (.int .i64 t.kind) ∧ V.cell? ⟨W.heap.size + 1, 1, none⟩ = some (.string t.name) ∧ V.cell? ⟨W.heap.size + 1, 2, none⟩ = some (.int .i64 t.n) ∧ V.cell? ⟨W.heap.size + 1, 3, none⟩ = some (.slice za t.args.length zc) ∧ V.cell? ⟨W.heap.size + 1, 4, none⟩ = some (.slice ea is.length ec) from
    ⟨(h.cell (p := ⟨W.heap.size + 1, 0, none⟩) (by show W.heap.size + 1 < _; omega)).trans e0, (h.cell (p := ⟨W.heap.size + 1, 1, none⟩) (by show W.heap.size + 1 < _; omega)).trans e1, (h.cell (p := ⟨W.heap.size + 1, 2, none⟩) (by show W.heap.size + 1 < _; omega)).trans e2, (h.cell (p := ⟨W.heap.size + 1, 3, none⟩) (by show W.heap.size + 1 < _; omega)).trans e3, (h.cell (p := ⟨W.heap.size + 1, 4, none⟩) (by show W.heap.size + 1 < _; omega)).trans e4⟩))
  have KEEP2 := Lib.hid (fun (V : World) (h : Below wb.heap.size wb V) (x0 x1 x2 x3 : Value) => (show (V.setCell ⟨W.heap.size, 0, none⟩ x0 |>.setCell ⟨W.heap.size, 1, none⟩ x1 |>.setCell ⟨W.heap.size, 2, none⟩ x2 |>.setCell ⟨W.heap.size, 3, none⟩ x3).cell? ⟨W.heap.size + 1, 0, none⟩ = some (.int .i64 t.kind) ∧
      (V.setCell ⟨W.heap.size, 0, none⟩ x0 |>.setCell ⟨W.heap.size, 1, none⟩ x1 |>.setCell ⟨W.heap.size, 2, none⟩ x2 |>.setCell ⟨W.heap.size, 3, none⟩ x3).cell? ⟨W.heap.size + 1, 1, none⟩ = some (.string t.name) ∧
      (V.setCell ⟨W.heap.size, 0, none⟩ x0 |>.setCell ⟨W.heap.size, 1, none⟩ x1 |>.setCell ⟨W.heap.size, 2, none⟩ x2 |>.setCell ⟨W.heap.size, 3, none⟩ x3).cell? ⟨W.heap.size + 1, 2, none⟩ = some (.int .i64 t.n) ∧
      (V.setCell ⟨W.heap.size, 0, none⟩ x0 |>.setCell ⟨W.heap.size, 1, none⟩ x1 |>.setCell ⟨W.heap.size, 2, none⟩ x2 |>.setCell ⟨W.heap.size, 3, none⟩ x3).cell? ⟨W.heap.size + 1, 3, none⟩ = some (.slice za t.args.length zc) ∧
      (V.setCell ⟨W.heap.size, 0, none⟩ x0 |>.setCell ⟨W.heap.size, 1, none⟩ x1 |>.setCell ⟨W.heap.size, 2, none⟩ x2 |>.setCell ⟨W.heap.size, 3, none⟩ x3).cell? ⟨W.heap.size + 1, 4, none⟩ = some (.slice ea is.length ec) from by
    obtain ⟨h0, h1, h2, h3, h4⟩ := KEEP.out V h
    refine ⟨?_, ?_, ?_, ?_, ?_⟩ <;> simp only [cell_aside _ _ (show (⟨W.heap.size + 1, _, none⟩ : Addr).block ≠ (⟨W.heap.size, _, none⟩ : Addr).block from by show W.heap.size + 1 ≠ W.heap.size; omega)] <;> assumption))
  have HC := Lib.hid (fun (V : World) (h : Below wb.heap.size wb V) => (CP.out V ((HNU.out.below hBW).below h)).mono fun e V' hh => (show ∃ a2 c2, e = .returned (.slice a2 is.length c2) ∧ V'.ownsRow wb.heap.size 3 1 (.slice a2 is.length c2) is.length (is.map (Value.int .i64)) ∧ Below wb.heap.size wb V' by
    obtain ⟨a2, c2, h1, h2, h3⟩ := hh; exact ⟨a2, c2, h1, own_lower h2 h.size, below_next h h3⟩))
  have HD := Lib.hid (fun (a2 : Option Addr) (c2 : Nat) (V : World) (h : Below wb.heap.size wb V) (ho : V.ownsRow wb.heap.size 3 1 (.slice a2 is.length c2) is.length (is.map (Value.int .i64))) => (ND.out a2 c2 V).mono fun e V' hh => (show e = .returned (.agg #[.int .i64 t.kind, .string t.name, .int .i64 t.n, .slice a2 is.length c2]) ∧ Below wb.heap.size wb V' ∧ V'.ownsRow wb.heap.size 3 1 (.slice a2 is.length c2) is.length (is.map (Value.int .i64)) by
    obtain ⟨h1, h2⟩ := hh; exact ⟨h1, below_next h h2, own_where ho (fun b _ hb => h2.block b hb)⟩))
  have hd : Below wb.heap.size wb wb.drew := (Below.refl _ _).drew
  have BX := Lib.hid (fun (V : World) (h : Below wb.heap.size wb V) => bx.below h (by omega))
  have HBW := Lib.hid hBW
  have HZ := Lib.hid hzb
  clear CP ND HNU bx e0 e1 e2 e3 e4 hb hz1 hwb d0 d1 d2 d3 d4 d5 H1 LK hBW hzb
  go_region_held3 (fun V => V.cell? ⟨W.heap.size + 1, 0, none⟩ = some (.int .i64 t.kind) ∧ V.cell? ⟨W.heap.size + 1, 1, none⟩ = some (.string t.name) ∧ V.cell? ⟨W.heap.size + 1, 2, none⟩ = some (.int .i64 t.n) ∧ V.cell? ⟨W.heap.size + 1, 3, none⟩ = some (.slice za t.args.length zc) ∧ V.cell? ⟨W.heap.size + 1, 4, none⟩ = some (.slice ea is.length ec)) (first | exact KEEP.out _ (by assumption) | exact KEEP2.out _ (by assumption) _ _ _ _)
    ((first
      | (go_at_call 38; refine (HC.out _ (by assumption)).mono ?_; rintro e w2 ⟨a2, c2, rfl, ho2, hn2⟩)
      | (go_at_call 35; refine (HD.out _ _ _ (by assumption) (by assumption)).mono ?_; rintro e w3 ⟨rfl, hn3, ho3⟩; obtain ⟨q0, q1, q2, q3, g0, g1, g2, g3⟩ := BX.out _ hn3)))
  go_wp2_with fail
  have hz := HZ.out
  have s0 : W.heap.size < wb.heap.size := by omega
  refine bodyPost_ret (v := .tuple #[.agg #[.int .i64 t.kind, .string t.name, .int .i64 t.n, .slice a2 is.length c2], .bool true]) (by simp [results, Tryd.results18, go_sem, q0, q1, q2, q3]) rfl ?_
  refine ⟨a2, c2, rfl, ?_, ?_⟩
  · exact own_lower (own_set (own_set (own_set (own_set ho3 s0 _) s0 _) s0 _) s0 _) HBW.out.size
  · exact ((((HBW.out.trans (hn3.mono HBW.out.size)).setCell (p := ⟨W.heap.size, 0, none⟩) (Nat.le_refl _) _).setCell (p := ⟨W.heap.size, 1, none⟩) (Nat.le_refl _) _).setCell (p := ⟨W.heap.size, 2, none⟩) (Nat.le_refl _) _).setCell (p := ⟨W.heap.size, 3, none⟩) (Nat.le_refl _) _
theorem is_numT {L : List Tm} {t : Tm} (h : ∀ x ∈ t.args, x ∈ L) : ((argN L t).map fun i : Nat => (i : Int)) = t.args.map (numT L) := by
  unfold argN
  rw [List.map_map]
  exact List.map_congr_left fun x hx => (numT_in (h x hx)).symm
theorem at_any {C : Nat → Prop} {w0 W : World} {p : Value} {L : List Tm} (i : Nat) (hi : i < L.length) (hA : AR C w0 W p L) :
    Calls Tryd.prog 18 #[p, .int .i64 i] W (ArPost AR C w0 W p L fun e W' => ∃ a m c, e = .returned (.tuple #[.agg #[.int .i64 L[i].kind, .string L[i].name, .int .i64 L[i].n, .slice a m c], .bool true]) ∧ Nums W' (.slice a m c) (L[i].args.map (numT L))) := by
  have hA2 := hA
  obtain ⟨F, g, bm, kv, es, D, rfl, hm, hs⟩ := hA
  obtain ⟨e, he, het, hc⟩ := at_at hm hs.es (over_on hs.reads) hs.few1 hi
  refine hc.mono ?_; rintro r W' ⟨a, c, rfl, ho, hb⟩
  have hi2 : e.is = L[i].args.map (numT L) := by rw [(hs.es e he).is, het]; exact is_numT (fun x hx => hs.ord.has (List.getElem_mem hi) hx)
  have hn := nums_of_own ho (hs.es e he).nums.range
  refine ar_post (R := fun e W' => ∃ a m c, e = .returned (.tuple #[.agg #[.int .i64 L[i].kind, .string L[i].name, .int .i64 L[i].n, .slice a m c], .bool true]) ∧ Nums W' (.slice a m c) (L[i].args.map (numT L))) hA2 hb ⟨a, e.is.length, c, by rw [het], by rw [← hi2]; exact hn⟩
theorem atS_any {C : Nat → Prop} {w0 W : World} {p : Value} {L : List Tm} (i : Nat) (hi : i < L.length) (hA : AR C w0 W p L) :
    Calls Tryd.prog 18 #[p, .int .i64 i] W fun e W' => ∃ (C' : Nat → Prop) (w1 : World) (a : Option Addr) (m c : Nat), e = .returned (.tuple #[.agg #[.int .i64 L[i].kind, .string L[i].name, .int .i64 L[i].n, .slice a m c], .bool true]) ∧ Nums w1 (.slice a m c) (L[i].args.map (numT L)) ∧ AR C' w1 W' p L ∧ Step C w0 W w1 W' ∧ ∀ k, C' k → C k ∨ W.heap.size ≤ k := by
  obtain ⟨F, g, bm, kv, es, D, rfl, hm, hs⟩ := hA
  obtain ⟨e, he, het, hc⟩ := at_at hm hs.es (over_on hs.reads) hs.few1 hi
  refine hc.mono ?_; rintro r W' ⟨a, c, rfl, ho, hb⟩
  have hi2 : e.is = L[i].args.map (numT L) := by rw [(hs.es e he).is, het]; exact is_numT (fun x hx => hs.ord.has (List.getElem_mem hi) hx)
  obtain ⟨C', w1, h1, h2, h3, h4, h5, h6⟩ := ar_sight hm hs hb
  have hn := nums_of_own (own_where ho (W := w1) (fun b hb _ => h5 b hb)) (hs.es e he).nums.range
  exact ⟨C', w1, a, e.is.length, c, by rw [het], by rw [← hi2]; exact hn, h2, h3, h4⟩
end Go.Proofs.YtccpfgpdcicjaaaDoor

namespace Go.Proofs.YtccpfgpdcicjaaaDoor
open Go.RowKit Go.Maps

theorem ar_add {C : Nat → Prop} {w0 W : World} {F : Nat → Bool} {g bm : Nat} {kv : Value} {es : List En} {D : DataW Unit} {L : List Tm} (hm : ArMem g bm kv es D L W) (hs : ArSet C w0 W F g bm kv es L)
    {T : Tm} (hT1 : Few1 T) (hTa : ∀ x ∈ T.args, x ∈ L) (hTn : T ∉ L) (hL : L.length + 1 ≤ 1200) {w4 w5 w6 w7 : World} {e : En} {v7 : Value} {o : Obj} (hb4 : Below W.heap.size W w4)
    (hmap : w5.ownsMap Tryd.prog 75 (plainElem Tryd.prog 3) bm (L.length + 1) (D.put (litT L T) (.lit (.int .i64 L.length)))) (hg5 : w4.grownBy w5 (some bm))
    (het : e.z.t = T) (hei : e.is = (argN L T).map fun i : Nat => (i : Int)) (hb6 : Below w5.heap.size w5 w6) (hl6 : Lives (fun U => e.z.ok U ∧ Nums U (.slice e.a e.is.length e.c) e.is) (over w0 W F) w5 w6)
    (hown7 : w7.ownsRow 0 68 6 v7 (L.length + 1) (rowE es ++ e.cells)) (hg7 : (w6.alloc o).grownBy w7 kv.ownBlock) (hat7 : v7.ownBlock = kv.ownBlock ∨ v7.ownBlock = some (w6.alloc o).heap.size) :
    ∃ C' : Nat → Prop, AR C' w0 (w7.setCell ⟨g, 1, none⟩ v7) (.pointer (some ⟨g, 0, none⟩)) (L ++ [T]) ∧ Step C w0 W w0 (w7.setCell ⟨g, 1, none⟩ v7) ∧ ∀ k, C' k → C k ∨ W.heap.size ≤ k := by
  have hz6 : (w6.alloc o).heap.size = w6.heap.size + 1 := by simp
  have z1 := hb4.size
  have z2 := hg5.size
  have z3 := hb6.size
  have z4 := hg7.size
  rw [hz6] at z4 hat7
  have hgl := (hs.own g hs.cg).1
  have hbl := (hs.own bm hs.cb).1
  have hkl : ∀ b, kv.ownBlock = some b → b < W.heap.size := fun b hb => (hs.own b (hs.ck b hb)).1
  have hgb : g ≠ bm := fun h => by
    obtain ⟨en, clock, hh, _⟩ := hm.map
    have := hm.c0
    rw [h] at this
    simp [World.cell?, hh] at this
  have hkb : kv.ownBlock ≠ some bm := fun h => by
    obtain ⟨cur, hh⟩ := own_block hm.row h
    obtain ⟨en, clock, hh2, _⟩ := hm.map
    rw [hh] at hh2; cases hh2
  -- what stands from W to the end
  have hst : ∀ k, k < W.heap.size → k ≠ bm → kv.ownBlock ≠ some k → w7.heap[k]? = W.heap[k]? := fun k hk h1 h2 => by
    rw [hg7.block k (by rw [hz6]; omega) (fun h => h2 h.symm), Below.heap_alloc _ _ _ (by omega), hb6.block k (by omega), hg5.block k (by omega) (fun h => h1 (Option.some.inj h)), hb4.block k hk]
  have hst6 : ∀ k, W.heap.size ≤ k → k < w6.heap.size → w7.heap[k]? = w6.heap[k]? := fun k h1 h2 => by
    rw [hg7.block k (by rw [hz6]; omega) (fun h => by have := hkl k h.symm; omega), Below.heap_alloc _ _ _ h2]
  have hset : ∀ k, k ≠ g → (w7.setCell ⟨g, 1, none⟩ v7).heap[k]? = w7.heap[k]? := fun k h => Below.heap_setCell _ _ _ _ h
  have hg7w := hst g hgl hgb hm.gk
  have c0 : w7.cell? ⟨g, 0, none⟩ = some (.map (some bm)) := (World.cell?_of_block (a := ⟨g, 0, none⟩) hg7w).trans hm.c0
  have c1 : w7.cell? ⟨g, 1, none⟩ = some kv := (World.cell?_of_block (a := ⟨g, 1, none⟩) hg7w).trans hm.c1
  have hsz : (w7.setCell ⟨g, 1, none⟩ v7).heap.size = w7.heap.size := by simp
  have hv7 : ∀ b, v7.ownBlock = some b → kv.ownBlock = some b ∨ b = w6.heap.size + 1 := fun b h => by
    rcases hat7 with h1 | h1
    · rw [h] at h1; exact .inl h1.symm
    · rw [h] at h1; exact .inr (Option.some.inj h1)
  have hv7l : ∀ b, v7.ownBlock = some b → b < w7.heap.size := fun b h => by
    obtain ⟨cur, hh⟩ := own_block hown7 h
    exact (Array.getElem?_eq_some_iff.1 hh).1
  let F' : Nat → Bool := fun k => F k || (decide (W.heap.size ≤ k) && decide (k < w6.heap.size))
  have hF1 : ∀ k, F k = true → F' k = true := fun k h => by show (F k || _) = true; rw [h]; rfl
  have hF2 : ∀ k, W.heap.size ≤ k → k < w6.heap.size → F' k = true := fun k h1 h2 => by show (F k || _) = true; rw [decide_eq_true h1, decide_eq_true h2]; simp
  have hF3 : ∀ k, F' k = true → F k = true ∨ (W.heap.size ≤ k ∧ k < w6.heap.size) := fun k h => by
    simp only [F', Bool.or_eq_true, Bool.and_eq_true, decide_eq_true_eq] at h; exact h
  have hFk : ∀ k, F k = true → (w7.setCell ⟨g, 1, none⟩ v7).heap[k]? = W.heap[k]? := fun k h => by
    obtain ⟨h1, h2, h3, h4⟩ := hs.hid k h
    rw [hset k h2, hst k (hs.own k h1).1 h3 h4]
  have hr : Reads w0 (w7.setCell ⟨g, 1, none⟩ v7) := reads_keep hs.reads (by rw [hsz]; omega) (fun k hk hb => by
    have h1 : ∀ j, C j → k ≠ j := fun j hj e => hb (by rw [e]; exact (hs.own j hj).2)
    rw [hset k (h1 g hs.cg), hst k hk (h1 bm hs.cb) (fun h => h1 k (hs.ck k h) rfl)])
  have hov : Reads (over w0 W F) (over w0 (w7.setCell ⟨g, 1, none⟩ v7) F') := ⟨by rw [over_size, over_size, hsz]; omega, fun p v hv => by
    cases e : F p.block with
    | true =>
      rw [World.cell?_of_block (w := W) (w' := over w0 W F) (a := p) (over_in w0 W e)] at hv
      rw [World.cell?_of_block (w := w7.setCell ⟨g, 1, none⟩ v7) (w' := over w0 (w7.setCell ⟨g, 1, none⟩ v7) F') (a := p) (over_in w0 _ (hF1 _ e)), World.cell?_of_block (w := W) (w' := w7.setCell ⟨g, 1, none⟩ v7) (a := p) (hFk _ e)]
      exact hv
    | false =>
      rw [over_cell e hs.reads.size] at hv
      exact (over_up hr).cell p v hv⟩
  have hle : ∀ x ∈ L, argN (L ++ [T]) x = argN L x := fun x hx => by
    unfold argN; exact List.map_congr_left (fun y hy => idxT_append (hs.ord.has hx hy))
  have hleT : argN (L ++ [T]) T = argN L T := by
    unfold argN; exact List.map_congr_left (fun y hy => idxT_append (hTa y hy))
  have hmemL : ∀ e' ∈ es, e'.z.t ∈ L := fun e' h => by rw [← hm.terms]; exact List.mem_map.2 ⟨e', h, rfl⟩
  obtain ⟨v, hv⟩ := hs.seen
  have hpow : 0 ≠ g ∧ 0 ≠ bm ∧ kv.ownBlock ≠ some 0 :=
    ⟨fun h => not_blind hv (by rw [h]; exact (hs.own g hs.cg).2), fun h => not_blind hv (by rw [h]; exact (hs.own bm hs.cb).2), fun h => not_blind hv (hs.own _ (hs.ck _ h)).2⟩
  refine ⟨fun k => C k ∨ (W.heap.size ≤ k ∧ k < w7.heap.size), ⟨F', g, bm, v7, es ++ [e], D.put (litT L T) (.lit (.int .i64 L.length)), rfl, ⟨?_, ?_, ?_, ?_, ?_, ?_, ?_, ?_, ?_⟩, ?_⟩, ?_, fun k hk => hk.imp id (fun h => h.1)⟩
  · exact (World.cell?_setCell_other w7 ⟨g, 1, none⟩ ⟨g, 0, none⟩ v7 (fun h => by injection h with _ h2 _; cases h2)).trans c0
  · exact World.cell?_setCell_same w7 ⟨g, 1, none⟩ v7 c1
  · rw [World.frozen?_setCell]; exact (World.frozen?_of_block (a := ⟨g, 0, none⟩) hg7w).trans hm.f0
  · rw [World.frozen?_setCell]; exact (World.frozen?_of_block (a := ⟨g, 1, none⟩) hg7w).trans hm.f1
  · rw [List.length_append, List.length_singleton]
    refine map_same hmap ?_
    rw [hset bm (fun h => hgb h.symm), hg7.block bm (by rw [hz6]; omega) (fun h => hkb h.symm), Below.heap_alloc _ _ _ (by omega), hb6.block bm (by omega)]
  · exact hm.tab.add hs.ord (fun x hx => (hs.few1 x hx).fine hs.few) (hT1.fine hs.few) hTa hTn
  · rw [List.length_append, List.length_singleton, rowE_append, rowE_one]
    exact own_same hown7 (fun b hb => hset b (fun h => by
      rcases hv7 b hb with h1 | h1
      · exact hm.gk (by rw [h1, h])
      · omega))
  · rw [List.map_append, hm.terms, List.map_singleton, het]
  · intro h
    rcases hv7 g h with h1 | h1
    · exact hm.gk h1
    · omega
  · refine ⟨hr, ?_, ?_, by rw [List.length_append, List.length_singleton]; exact hL, ?_, ?_, ⟨v, hv⟩, .inl hs.cg, .inl hs.cb, ?_, ?_, ?_⟩
    · have := hs.ord.add hTa; rw [addT_out hTn] at this; exact this
    · intro x hx
      rcases List.mem_append.1 hx with h | h
      · exact hs.few1 x h
      · rw [List.mem_singleton.1 h]; exact hT1
    · intro e' he'
      rcases List.mem_append.1 he' with h | h
      · have h1 := (hs.es e' h).reads hov
        exact ⟨h1.z, h1.nums, by rw [h1.is, hle _ (hmemL e' h)]⟩
      · rw [List.mem_singleton.1 h]
        have h2 := hl6 (over w0 (w7.setCell ⟨g, 1, none⟩ v7) F') hov (by rw [over_size, hsz]; omega) (fun b hb1 hb2 => by
          rw [over_in w0 _ (hF2 b (by omega) hb2), hset b (by omega), hst6 b (by omega) hb2])
        exact ⟨h2.1, h2.2, by rw [hei, het, hleT]⟩
    · exact hs.pow.same (by rw [hsz]; omega) (by rw [hset _ hpow.1, hst _ hs.pow.size hpow.2.1 hpow.2.2])
    · intro b hb
      rcases hv7 b hb with h1 | h1
      · exact .inl (hs.ck b h1)
      · exact .inr ⟨by omega, hv7l b hb⟩
    · intro k hk
      rcases hF3 k hk with h | ⟨h1, h2⟩
      · obtain ⟨e1, e2, e3, e4⟩ := hs.hid k h
        refine ⟨.inl e1, e2, e3, fun h5 => ?_⟩
        rcases hv7 k h5 with h6 | h6
        · exact e4 h6
        · have := (hs.own k e1).1; omega
      · refine ⟨.inr ⟨h1, by omega⟩, by omega, by omega, fun h5 => ?_⟩
        rcases hv7 k h5 with h6 | h6
        · have := hkl k h6; omega
        · omega
    · intro k hk
      rw [hsz]
      rcases hk with h | ⟨h1, h2⟩
      · exact ⟨by have := (hs.own k h).1; omega, (hs.own k h).2⟩
      · exact ⟨h2, blind_new (by have := hs.reads.size; omega)⟩
  · refine ⟨Reads.refl _, hr, fun _ _ _ h => h, ?_, ?_, ?_, by rw [hsz]; omega, fun k hk hc => ?_⟩
    · show w7.os = W.os
      rw [hg7.os]; show w6.os = W.os; rw [hb6.os, hg5.os, hb4.os]
    · show w7.tape = W.tape
      rw [hg7.tape]; show w6.tape = W.tape; rw [hb6.tape, hg5.tape, hb4.tape]
    · show w7.output = W.output
      rw [hg7.output]; show w6.output = W.output; rw [hb6.output, hg5.output, hb4.output]
    · rw [hset k (fun h => hc (by rw [h]; exact hs.cg)), hst k hk (fun h => hc (by rw [h]; exact hs.cb)) (fun h => hc (hs.ck k h))]
end Go.Proofs.YtccpfgpdcicjaaaDoor
