/-
  A memory that stays: what is written later lies in blocks that it doesn't see. Steps of a call, from one such memory to the next. No function of the program.
  What a call has made lives on: it reads so wherever an elder memory reads on and the blocks that were made since stand as they did. No function of the program.
  A row of the call's own, with the elements of a slice behind it that may have none and no memory. No function of the program.
  A list of terms with one more, what is in it first, by the reference of layer 9: Put.
  All of some terms, put into a list, by the reference of layer 9: Puts; and whether terms are few and small: Few.
  Whether a term is in a row, or in another term, by the reference of layer 3: In, Has.
-/
import Derived.Test.YtccpfgpdcicjaaaDoorA02
import Derived.Test.YtccpfgpdcicjaaaDoorA01
import Derived.Maps.AppendAt
import Derived.Laws.AppendOwnNone
import Derived.Deep.AppendLies
import Derived.Deep.RegionWith
namespace Go.Proofs.YtccpfgpdcicjaaaDoor
open Go.RowKit

/-- A memory doesn't see a block. -/
def Blind (w0 : World) (g : Nat) : Prop := ∀ p : Addr, p.block = g → w0.cell? p = none
theorem blind_new {w0 : World} {g : Nat} (h : w0.heap.size ≤ g) : Blind w0 g := fun p hp => by
  cases e : w0.cell? p with
  | none => rfl
  | some v => have := World.block_lt_of_cell? w0 p e; omega
theorem reads_set {w0 W : World} {p : Addr} (h : Reads w0 W) (hb : Blind w0 p.block) (v : Value) : Reads w0 (W.setCell p v) := ⟨by simpa using h.size, fun q u hq => by
  have hne : q.block ≠ p.block := fun e => by rw [hb q e] at hq; cases hq
  rw [cell_aside p q hne]; exact h.cell q u hq⟩
theorem reads_keep {w0 W W' : World} (h : Reads w0 W) (hs : W.heap.size ≤ W'.heap.size) (hk : ∀ k, k < W.heap.size → ¬ Blind w0 k → W'.heap[k]? = W.heap[k]?) : Reads w0 W' := ⟨Nat.le_trans h.size hs, fun q u hq => by
  have hlt := World.block_lt_of_cell? W q (h.cell q u hq)
  rw [World.cell?_of_block (w := W) (w' := W') (a := q) (hk q.block hlt (fun hb => by rw [hb q rfl] at hq; cases hq))]
  exact h.cell q u hq⟩
theorem reads_alloc {w0 W : World} (h : Reads w0 W) (o : Obj) : Reads w0 (W.alloc o) := h.trans (reads_below ((Below.refl _ _).alloc (Nat.le_refl _) _))
/-- A memory, with some blocks of another one in sight. -/
def over (w0 W : World) (E : Nat → Bool) : World := { W with heap := Array.ofFn (n := W.heap.size) fun i => if E i.1 then W.heap[i.1] else (w0.heap[i.1]?).getD (.deferred none) }
theorem over_size (w0 W : World) (E : Nat → Bool) : (over w0 W E).heap.size = W.heap.size := by simp [over]
theorem over_get (w0 W : World) (E : Nat → Bool) {k : Nat} (hk : k < W.heap.size) : (over w0 W E).heap[k]? = some (if E k then W.heap[k] else (w0.heap[k]?).getD (.deferred none)) := by
  unfold over
  rw [Array.getElem?_ofFn, dif_pos hk]
theorem over_in (w0 W : World) {E : Nat → Bool} {k : Nat} (h : E k = true) : (over w0 W E).heap[k]? = W.heap[k]? := by
  rcases Nat.lt_or_ge k W.heap.size with hk | hk
  · rw [over_get w0 W E hk, if_pos h, Array.getElem?_eq_getElem hk]
  · rw [Array.getElem?_eq_none (by rw [over_size]; exact hk), Array.getElem?_eq_none hk]
theorem over_cell {w0 W : World} {E : Nat → Bool} {p : Addr} (h : E p.block = false) (hs : w0.heap.size ≤ W.heap.size) : (over w0 W E).cell? p = w0.cell? p := by
  rcases Nat.lt_or_ge p.block w0.heap.size with hk | hk
  · refine World.cell?_of_block (w := w0) (w' := over w0 W E) (a := p) ?_
    rw [over_get w0 W E (Nat.lt_of_lt_of_le hk hs), if_neg (by rw [h]; simp), Array.getElem?_eq_getElem hk]; rfl
  · rw [blind_new (w0 := w0) hk p rfl]
    rcases Nat.lt_or_ge p.block W.heap.size with hk2 | hk2
    · have e := over_get w0 W E hk2
      rw [if_neg (by rw [h]; simp), Array.getElem?_eq_none hk] at e
      unfold World.cell?
      rw [e]; rfl
    · exact blind_new (by rw [over_size]; exact hk2) p rfl
theorem over_up {w0 W : World} {E : Nat → Bool} (h : Reads w0 W) : Reads w0 (over w0 W E) := ⟨by rw [over_size]; exact h.size, fun p v hv => by
  cases e : E p.block with
  | true => rw [World.cell?_of_block (w := W) (w' := over w0 W E) (a := p) (over_in w0 W e)]; exact h.cell p v hv
  | false => rw [over_cell e h.size]; exact hv⟩
theorem over_on {w0 W : World} {E : Nat → Bool} (h : Reads w0 W) : Reads (over w0 W E) W := ⟨by rw [over_size]; exact Nat.le_refl _, fun p v hv => by
  cases e : E p.block with
  | true => rw [World.cell?_of_block (w := W) (w' := over w0 W E) (a := p) (over_in w0 W e)] at hv; exact hv
  | false => rw [over_cell e h.size] at hv; exact h.cell p v hv⟩
theorem over_blind {w0 W : World} {E : Nat → Bool} {g : Nat} (hs : w0.heap.size ≤ W.heap.size) (he : E g = false) (hb : Blind w0 g) : Blind (over w0 W E) g := fun p hp => by
  rw [over_cell (by rw [hp]; exact he) hs]; exact hb p hp

/-- A step: what was seen is seen on; of what lay before no more turns than C says. -/
structure Step (C : Nat → Prop) (w0 W w0' W' : World) : Prop where
  up : Reads w0 w0'
  on : Reads w0' W'
  blind : ∀ g, g < W.heap.size → ¬ C g → Blind w0 g → Blind w0' g
  os : W'.os = W.os
  tape : W'.tape = W.tape
  output : W'.output = W.output
  size : W.heap.size ≤ W'.heap.size
  keep : ∀ k, k < W.heap.size → ¬ C k → W'.heap[k]? = W.heap[k]?
theorem Step.refl {C : Nat → Prop} {w0 W : World} (h : Reads w0 W) : Step C w0 W w0 W := ⟨Reads.refl _, h, fun _ _ _ h => h, rfl, rfl, rfl, Nat.le_refl _, fun _ _ _ => rfl⟩
theorem Step.trans {C : Nat → Prop} {w0 W w1 W1 w2 W2 : World} (h : Step C w0 W w1 W1) (k : Step C w1 W1 w2 W2) : Step C w0 W w2 W2 where
  up := h.up.trans k.up
  on := k.on
  blind := fun g hg hc hb => k.blind g (Nat.lt_of_lt_of_le hg h.size) hc (h.blind g hg hc hb)
  os := k.os.trans h.os
  tape := k.tape.trans h.tape
  output := k.output.trans h.output
  size := Nat.le_trans h.size k.size
  keep := fun b hb hc => (k.keep b (Nat.lt_of_lt_of_le hb h.size) hc).trans (h.keep b hb hc)
theorem Step.wider {C D : Nat → Prop} {w0 W w1 W1 : World} (h : Step C w0 W w1 W1) (hc : ∀ k, k < W.heap.size → C k → D k) : Step D w0 W w1 W1 :=
  ⟨h.up, h.on, fun k hk hd => h.blind k hk (fun c => hd (hc k hk c)), h.os, h.tape, h.output, h.size, fun k hk hd => h.keep k hk (fun c => hd (hc k hk c))⟩
theorem step_below {C : Nat → Prop} {w0 W W' : World} (h : Reads w0 W) (hb : Below W.heap.size W W') : Step C w0 W w0 W' :=
  ⟨Reads.refl _, h.trans (reads_below hb), fun _ _ _ h => h, hb.os, hb.tape, hb.output, hb.size, fun k hk _ => hb.block k hk⟩
theorem Step.below {C : Nat → Prop} {w0 W w1 W1 W2 : World} (h : Step C w0 W w1 W1) (hb : Below W1.heap.size W1 W2) : Step C w0 W w1 W2 := h.trans (step_below h.on hb)
theorem Step.alloc {C : Nat → Prop} {w0 W w1 W1 : World} (h : Step C w0 W w1 W1) (o : Obj) : Step C w0 W w1 (W1.alloc o) := h.below ((Below.refl _ _).alloc (Nat.le_refl _) _)
theorem Step.set {C : Nat → Prop} {w0 W w1 W1 : World} (h : Step C w0 W w1 W1) {p : Addr} (hb : Blind w1 p.block) (hc : p.block < W.heap.size → C p.block) (v : Value) : Step C w0 W w1 (W1.setCell p v) where
  up := h.up
  on := reads_set h.on hb v
  blind := h.blind
  os := h.os
  tape := h.tape
  output := h.output
  size := by simpa using h.size
  keep := fun k hk hn => by
    have hne : k ≠ p.block := fun e => hn (by rw [e]; exact hc (by rw [← e]; exact hk))
    rw [Below.heap_setCell _ _ _ _ hne]; exact h.keep k hk hn
theorem Step.grown {C : Nat → Prop} {w0 W w1 W1 W2 : World} (h : Step C w0 W w1 W1) {row : Option Nat} (hg : W1.grownBy W2 row) (hb : ∀ g, row = some g → Blind w1 g ∧ (g < W.heap.size → C g)) : Step C w0 W w1 W2 where
  up := h.up
  on := reads_keep h.on hg.size fun k hk hn => hg.block k hk fun e => hn (hb k e.symm).1
  blind := h.blind
  os := hg.os.trans h.os
  tape := hg.tape.trans h.tape
  output := hg.output.trans h.output
  size := Nat.le_trans h.size hg.size
  keep := fun k hk hn => by
    rw [hg.block k (Nat.lt_of_lt_of_le hk h.size) (fun e => hn ((hb k e.symm).2 hk))]; exact h.keep k hk hn
/-- What was made since comes in sight. -/
theorem Step.show_ {C : Nat → Prop} {w0 W w1 W1 : World} (h : Step C w0 W w1 W1) (E : Nat → Bool) (hE : ∀ k, k < W.heap.size → E k = false) : Step C w0 W (over w1 W1 E) W1 where
  up := h.up.trans (over_up h.on)
  on := over_on h.on
  blind := fun g hg hc hb => over_blind h.on.size (hE g hg) (h.blind g hg hc hb)
  os := h.os
  tape := h.tape
  output := h.output
  size := h.size
  keep := h.keep
theorem fresh_over {w0 w1 W W' : World} {E : Nat → Bool} {z : Tv} (h : Fresh w0 W W' z) (hu : Reads w0 w1) (hr : Reads w1 W') (hE : ∀ k, W.heap.size ≤ k → E k = true) : z.ok (over w1 W' E) :=
  h _ (hu.trans (over_up hr)) (by rw [over_size]; exact Nat.le_refl _) fun b hb _ => over_in w1 W' (hE b hb)
/-- The blocks of one memory that lie behind another one's, but for one. -/
def since (n g : Nat) (k : Nat) : Bool := decide (n ≤ k) && !decide (k = g)
end Go.Proofs.YtccpfgpdcicjaaaDoor

namespace Go.Proofs.YtccpfgpdcicjaaaDoor
open Go.RowKit

/-- What holds wherever w0 reads on and the blocks from w on stand as in w'. -/
def Lives (R : World → Prop) (w0 w w' : World) : Prop := ∀ V, Reads w0 V → w'.heap.size ≤ V.heap.size → (∀ b, w.heap.size ≤ b → b < w'.heap.size → V.heap[b]? = w'.heap[b]?) → R V
/-- An elder memory, with what was made since. -/
def seen (w0 w w1 : World) : World := over w0 w1 (fun k => decide (w.heap.size ≤ k))
theorem seen_up {w0 w w1 : World} (h : Reads w0 w1) : Reads w0 (seen w0 w w1) := over_up h
theorem seen_on {w0 w w1 : World} (h : Reads w0 w1) : Reads (seen w0 w w1) w1 := over_on h
theorem seen_size (w0 w w1 : World) : (seen w0 w w1).heap.size = w1.heap.size := over_size _ _ _
theorem seen_reads {w0 w w1 V : World} (h : Reads w0 w1) (h1 : Reads w0 V) (h2 : w1.heap.size ≤ V.heap.size) (h3 : ∀ b, w.heap.size ≤ b → b < w1.heap.size → V.heap[b]? = w1.heap[b]?) : Reads (seen w0 w w1) V := ⟨by rw [seen_size]; exact h2, fun p v hv => by
  rcases Nat.lt_or_ge p.block w.heap.size with hk | hk
  · rw [seen, over_cell (decide_eq_false (by omega)) h.size] at hv
    exact h1.cell p v hv
  · have e : (seen w0 w w1).heap[p.block]? = w1.heap[p.block]? := over_in w0 w1 (decide_eq_true hk)
    rw [World.cell?_of_block (w := w1) (w' := seen w0 w w1) (a := p) e] at hv
    rw [World.cell?_of_block (w := w1) (w' := V) (a := p) (h3 p.block hk (World.block_lt_of_cell? w1 p hv))]
    exact hv⟩
variable {R : World → Prop} {w0 w w1 w2 : World}
theorem Lives.now (h : Lives R w0 w w1) (hr : Reads w0 w1) : R w1 := h w1 hr (Nat.le_refl _) (fun _ _ _ => rfl)
theorem Lives.old (h : ∀ V, Reads w0 V → R V) : Lives R w0 w w1 := fun V hr _ _ => h V hr
theorem Lives.sight (h : Lives R w0 w w1) (hr : Reads w0 w1) : R (seen w0 w w1) := h _ (seen_up hr) (by rw [seen_size]; exact Nat.le_refl _) (fun b hb _ => over_in w0 w1 (decide_eq_true hb))
theorem Lives.sight2 {wS : World} (h : Lives R w0 w w1) (hu : Reads w0 wS) (hr : Reads wS w1) : R (seen wS w w1) := h _ (hu.trans (seen_up hr)) (by rw [seen_size]; exact Nat.le_refl _) (fun b hb _ => over_in wS w1 (decide_eq_true hb))
theorem Lives.below (h : Lives R w0 w w1) (hb : Below w1.heap.size w1 w2) : Lives R w0 w w2 := fun V hr hs hv =>
  h V hr (Nat.le_trans hb.size hs) (fun b b1 b2 => (hv b b1 (Nat.lt_of_lt_of_le b2 hb.size)).trans (hb.block b b2))
theorem Lives.wider {wa : World} (h : Lives R w0 wa w2) (hs : w.heap.size ≤ wa.heap.size) : Lives R w0 w w2 := fun V hr h2 hv => h V hr h2 (fun b b1 b2 => hv b (Nat.le_trans hs b1) b2)
/-- Two calls, one behind the other. -/
theorem Lives.next (h : Lives R (seen w0 w w1) w1 w2) (hr : Reads w0 w1) (hs : w.heap.size ≤ w1.heap.size) (hb : Below w1.heap.size w1 w2) : Lives R w0 w w2 := fun V hv hz ha =>
  h V (seen_reads hr hv (Nat.le_trans hb.size hz) (fun b b1 b2 => (ha b b1 (Nat.lt_of_lt_of_le b2 hb.size)).trans (hb.block b b2))) hz (fun b b1 b2 => ha b (Nat.le_trans hs b1) b2)
theorem Lives.and {R2 : World → Prop} (h : Lives R w0 w w1) (k : Lives R2 w0 w w1) : Lives (fun V => R V ∧ R2 V) w0 w w1 := fun V a b c => ⟨h V a b c, k V a b c⟩
theorem Lives.imp {R2 : World → Prop} (h : Lives R w0 w w1) (k : ∀ V, R V → R2 V) : Lives R2 w0 w w1 := fun V a b c => k V (h V a b c)
theorem lives_fresh {y : Tv} (h : Fresh w0 w w1 y) : Lives (fun V => y.ok V) w0 w w1 := h
theorem Tms.lives {v : Value} {ts : List Tm} (h : Tms w0 v ts) : Lives (fun V => Tms V v ts) w0 w w1 := Lives.old (fun _ hr => h.reads hr)
/-- A row of the call's own over terms that live so. -/
theorem lives_row {wf : World} {v : Value} {vs : List Tv} {ts : List Tm} (hown : wf.ownsRow w.heap.size 28 4 v ts.length (rowTv vs)) (hvs : vs.map Tv.t = ts) (hlen : ts.length ≤ 9223372036854775807)
    (hok : Lives (fun V => ∀ x ∈ vs, x.ok V) w0 w wf) : Lives (fun V => Tms V v ts) w0 w wf := fun V hr hs ha =>
  (show OwnTv V V w.heap.size v ts from ⟨vs, hvs, hok V hr hs ha, own_where hown ha⟩).tms (Below.refl _ _) hlen
end Go.Proofs.YtccpfgpdcicjaaaDoor

namespace Go.Proofs.YtccpfgpdcicjaaaDoor
open Go.RowKit

theorem run_append_nil0 {P : Program} {w : World} (base : Nat) (t ty e : TypeId) (i : TypeInfo) (size : Nat) (ht : P.underlying t = some (.slice e)) (hi : P.info? e = some i)
    (v : Value) (n : Nat) (xs : List Value) (hown : w.ownsRow base e size v n xs) (c : Nat) :
    (Builtin.append_ #[t, t] ty #[v, .slice none 0 c]).run P w = .ok v w := by
  rcases hown.2 with ⟨rfl, rfl⟩ | ⟨g, cap, cur, rfl, _, _, hnc, _⟩
  · simp [Builtin.append_, run_underlying ht, sizeOf, typeInfo, hi, Builtin.lenOf, Builtin.firstCells]
  · simp [Builtin.append_, run_underlying ht, sizeOf, typeInfo, hi, Builtin.lenOf, Builtin.firstCells, hnc, storeCells]
theorem wpList_append_opt {P : Program} {w : World} {ops : Array Oper} {rest : List Oper} {o : Oper} {a : Act} {Q : Exit → Act → World → Prop} (hgd : o.guard = none) (s x : Operand) (t : TypeId)
    (ho : o.op = .call { callee := .builtin .append, args := #[s, x], argTypes := #[t, t] })
    (base : Nat) (e : TypeId) (i : TypeInfo) (z : Value) (size bytes : Nat) (ht : P.underlying t = some (.slice e)) (hi : P.info? e = some i) (hz : i.zero = some z)
    (hsize : i.size = size) (hby : i.bytes = bytes) (hzs : z.cells.size = size) (hsz : 0 < size)
    (v : Value) (n : Nat) (xs : List Value) (hs : a.eval s = v) (hown : w.ownsRow base e size v n xs)
    (oa : Option Addr) (m c : Nat) (news : List Value) (hx : a.eval x = .slice oa m c) (h0 : oa = none → m = 0) (hl : news.length = m * size) (hnews : ∀ ad, oa = some ad → ∀ j u, news[j]? = some u → w.cell? (ad.add j) = some u) (h1 : ∀ u ∈ news, u.oneCell' = true)
    (h63 : n + m ≤ maxLen) (hbytes : (n + m) * bytes ≤ 140737488355328) (hbase : base ≤ w.heap.size)
    (h : ∀ v' w', w'.ownsRow base e size v' (n + m) (xs ++ news) → w.grownBy w' v.ownBlock → (v'.ownBlock = v.ownBlock ∨ v'.ownBlock = some w.heap.size) → wpList P ops Q rest (a.put o.dst v') w') :
    wpList P ops Q (o :: rest) a w := by
  cases oa with
  | some ad => exact wpList_append_own_at w hgd s x t ho base e i z size bytes ht hi hz hsize hby hzs hsz v n xs hs hown ad m c news hx hl (hnews ad rfl) h1 h63 hbytes hbase (fun v' w' h2 h3 _ h5 => h v' w' h2 h3 h5)
  | none =>
    obtain rfl := h0 rfl
    obtain rfl : news = [] := List.eq_nil_of_length_eq_zero (by rw [hl, Nat.zero_mul])
    refine wpList_plain hgd fun K hK => ?_
    have hrun := run_append_nil0 (P := P) (w := w) base t o.type e i size ht hi v n xs hown c
    unfold Oper.wp
    simp [execOp, ho, resolve, invoke, builtin, hs, hx, hrun, Result.andThen]
    exact hK _ _ (h v w (by simpa using hown) ⟨rfl, rfl, rfl, Nat.le_refl _, fun _ _ _ => rfl⟩ (.inl rfl))
/-- Likewise as a step of a drawn region. -/
theorem step_append_at {P : Program} {w : World} {ops : Array Oper} {o : Oper} {a : Act} {K : Act → World → Prop} {Q : Exit → Act → World → Prop} {E : Prop} (hgd : o.guard = none) (s x : Operand) (t : TypeId)
    (ho : o.op = .call { callee := .builtin .append, args := #[s, x], argTypes := #[t, t] })
    (base : Nat) (e : TypeId) (i : TypeInfo) (z : Value) (size bytes : Nat) (ht : P.underlying t = some (.slice e)) (hi : P.info? e = some i) (hz : i.zero = some z)
    (hsize : i.size = size) (hby : i.bytes = bytes) (hzs : z.cells.size = size) (hsz : 0 < size)
    (v : Value) (n : Nat) (xs : List Value) (hs : a.eval s = v) (hown : w.ownsRow base e size v n xs)
    (ad : Addr) (m c : Nat) (news : List Value) (hx : a.eval x = .slice (some ad) m c) (hl : news.length = m * size) (hnews : ∀ j u, news[j]? = some u → w.cell? (ad.add j) = some u) (h1 : ∀ u ∈ news, u.oneCell' = true)
    (h63 : n + m ≤ maxLen) (hbytes : (n + m) * bytes ≤ 140737488355328) (hbase : base ≤ w.heap.size) (H : Nat) (hH : w.heap.size = H)
    (h : ∀ v' w', w'.ownsRow base e size v' (n + m) (xs ++ news) → w.grownBy w' v.ownBlock → (v'.ownBlock = v.ownBlock ∨ v'.ownBlock = some H) → K (a.put o.dst v') w') :
    if Region.wanted o (yielded ops a.tmps) = true then Oper.wp P o a w K Q else E := by
  have hw : Region.wanted o (yielded ops a.tmps) = true := by simp [Region.wanted, hgd]
  rw [if_pos hw]
  obtain ⟨v', w', hr, h2, h3, _, h5⟩ := run_append_own_at (P := P) w base t o.type e i z size bytes ht hi hz hsize hby hzs hsz v n xs hown ad m c news hl hnews h1 h63 hbytes hbase
  unfold Oper.wp execOp
  simp only [ho, resolve, invoke, builtin, Sem.run_bind, Sem.run_pure, Result.andThen_ok, List.map_toArray, List.map_cons, List.map_nil, hs, hx, hr]
  subst hH
  exact h v' w' h2 h3 h5
/-- A new row of no element. -/
theorem own_empty (w : World) (base : Nat) (e : TypeId) (size : Nat) (hb : base ≤ w.heap.size) : (w.alloc (.cells #[] e)).ownsRow base e size (.slice (some ⟨w.heap.size, 0, none⟩) 0 0) 0 [] :=
  ⟨by simp, .inr ⟨w.heap.size, 0, #[], rfl, hb, heap_alloc_new w _, Nat.le_refl _, by unfold maxLen; omega, by simp, by simp⟩⟩
end Go.Proofs.YtccpfgpdcicjaaaDoor

namespace Go.Proofs.YtccpfgpdcicjaaaDoor
open Go.RowKit

/-- What a call leaves that makes a list of terms. -/
def ListPost (L : List Tm) (w0 w : World) (e : Ending) (w' : World) : Prop := ∃ v, e = .returned v ∧ Lives (fun V => Tms V v L) w0 w w' ∧ Below w.heap.size w w'

theorem listPost_of {L : List Tm} {w0 w w' : World} {v : Value} (h : Lives (fun V => Tms V v L) w0 w w') (hb : Below w.heap.size w w') : ListPost L w0 w (.returned v) w' := ⟨v, rfl, h, hb⟩

set_option maxRecDepth 100000 in
set_option maxHeartbeats 2000000 in
theorem rput9_tm (m : Nat) : ∀ (x : Tv) (v : Value) (L : List Tm) (w0 w : World), x.t.parts ≤ m → m ≤ 100000 → x.ok w0 → Tms w0 v L → L.length + x.t.parts ≤ 100000 → Reads w0 w →
    Calls Tryd.prog 22 #[v, x.val] w (ListPost (putT x.t L) w0 w) := by
  induction m with
  | zero => intro x v L w0 w h; have := parts_pos x.t; omega
  | succ m ih =>
    intro x v L w0 w hm hm1 hx hv hlen hb0
    obtain ⟨t, ax, cx⟩ := x
    have hbx := box_new w (.int .i64 t.kind) (.string t.name) (.int .i64 t.n) (.slice ax t.args.length cx) 28
    have hBA : Below w.heap.size w (w.alloc (.cells #[.int .i64 t.kind, .string t.name, .int .i64 t.n, .slice ax t.args.length cx] 28)) := (Below.refl _ _).alloc (Nat.le_refl _) _
    obtain ⟨wz, hwz⟩ : ∃ wz, wz = w.alloc (.cells #[.int .i64 t.kind, .string t.name, .int .i64 t.n, .slice ax t.args.length cx] 28) := ⟨_, rfl⟩
    have hzs : wz.heap.size = w.heap.size + 1 := by rw [hwz]; simp
    rw [← hwz] at hbx hBA
    have hpe := parts_eq t
    have hpl : ∀ j (h : j < t.args.length), t.args[j].parts ≤ m := fun j h => by have := parts_arg t h; simp only at hm; omega
    have hpq : ∀ q, (putTs (t.args.take q) L).length ≤ L.length + partsL (t.args.take q) := fun q => putTs_length _ _
    have hpk : ∀ q, q < t.args.length → partsL (t.args.take q) + (t.args[q]?.map Tm.parts).getD 0 ≤ partsL t.args := fun q hq => by
      have h1 := partsL_take t.args hq
      have h2 := partsL_append (t.args.take (q + 1)) (t.args.drop (q + 1))
      rw [List.take_append_drop] at h2
      rw [List.getElem?_eq_getElem hq]; simp only [Option.map_some, Option.getD_some]; omega
    obtain ⟨i0, hi0, hiz0, his0, hib0⟩ := info_parts termInfo
    have HBX := Lib.hid (fun (V : World) (h : Below wz.heap.size wz V) => hbx.below h (by omega))
    have HW := Lib.hid (fun (V : World) (h : Below wz.heap.size wz V) => hBA.trans (h.mono hBA.size))
    have HX := Lib.hid hx
    have HV := Lib.hid hv
    have HB0 := Lib.hid hb0
    have IH := Lib.hid ih
    have HPL := Lib.hid hpl
    have HPQ := Lib.hid hpq
    have HPK := Lib.hid hpk
    have HPE := Lib.hid hpe
    have HLN := Lib.hid hlen
    have HZS := Lib.hid hzs
    obtain ⟨P, hP⟩ : ∃ P, P = putT t L := ⟨_, rfl⟩
    have HE := Lib.hid (show P = addT (putTs t.args L) t from by rw [hP, putT_eq])
    show Calls _ _ _ _ (ListPost (putT t L) w0 w)
    rw [← hP]
    clear hP
    obtain ⟨av, cv, rfl, _⟩ := id hv
    clear hbx hBA hx hv hb0 ih hpl hpq hpk hpe hlen hzs
    obtain ⟨p0, p1, p2, p3, _, _, _, _⟩ := HBX.out wz (Below.refl _ _)
    simp only [Tv.val] at *
    go_enter Tryd.func22, Tryd.ntmps22
    go_wp2_with fail
    rw [← hwz]
    clear hwz
    go_loopw [0, 11] (fun o k wr => ∃ q : Nat, q ≤ t.args.length ∧ k = .int .i64 q ∧ Hid (Lives (fun V => Tms V o (putTs (t.args.take q) L)) w0 wz wr) ∧ Hid (Below wz.heap.size wz wr)) (fun _ k _ => t.args.length - (intOf k).toNat)
    case atStart => exact ⟨0, Nat.zero_le _, rfl, Lib.hid (by rw [List.take_zero, putTs]; exact HV.out.lives), Lib.hid (Below.refl _ _)⟩
    case round =>
      obtain ⟨q, hq, rfl, HL, HBW⟩ := hrel
      have hbs := HBW.out.size
      have hrz := HB0.out.trans (reads_below (HW.out _ HBW.out))
      obtain ⟨a0, c0, e0, _⟩ := HL.out.now hrz
      obtain ⟨n0, hn0⟩ : ∃ n, (putTs (t.args.take q) L).length = n := ⟨_, rfl⟩
      rw [hn0] at e0
      subst e0
      have HN0 := Lib.hid hn0
      clear hn0
      by_cases hql : q < t.args.length
      · obtain ⟨b', o', rfl, hlt', hrow⟩ := HX.out.2.2.resolve_left (by intro h; simp only at h; rw [h] at hql; simp at hql)
        obtain ⟨y, hyt, hyo, hy⟩ := tmAt_tv (rowAt_get hrow hql)
        obtain ⟨m0, m1, m2, m3⟩ : TvAt wr b' (o' + q * 4) y := ⟨hrz.cell _ _ hy.c0, hrz.cell _ _ hy.c1, hrz.cell _ _ hy.c2, hrz.cell _ _ hy.c3⟩
        obtain ⟨zt, za, zc⟩ := y
        simp only at hyt hyo m0 m1 m2 m3
        have hwx : Below wr.heap.size wr (wr.alloc (.cells #[.int .i64 zt.kind, .string zt.name, .int .i64 zt.n, .slice za zt.args.length zc] 28)) := (Below.refl _ _).alloc (Nat.le_refl _) _
        have hzx : (wr.alloc (.cells #[.int .i64 zt.kind, .string zt.name, .int .i64 zt.n, .slice za zt.args.length zc] 28)).heap.size = wr.heap.size + 1 := by simp
        have hb1 := HPQ.out q
        have hb2 := HPK.out q hql
        rw [List.getElem?_eq_getElem hql, ← hyt] at hb2
        simp only [Option.map_some, Option.getD_some] at hb2
        have hb3 := HPE.out
        have hb4 := HLN.out
        have C := IH.out ⟨zt, za, zc⟩ _ _ (seen w0 wz wr) (wr.alloc (.cells #[.int .i64 zt.kind, .string zt.name, .int .i64 zt.n, .slice za zt.args.length zc] 28)) (by simp only; rw [hyt]; exact HPL.out q hql) (by omega) (hyo.reads (seen_up hrz)) (HL.out.sight hrz) (by simp only; omega) ((seen_on hrz).trans (reads_below hwx))
        have HC := Lib.hid C
        have HTS := Lib.hid (show putTs (t.args.take (q + 1)) L = putT zt (putTs (t.args.take q) L) by rw [putTs_take hql, hyt])
        have HZX := Lib.hid hzx
        have HWX := Lib.hid hwx
        obtain ⟨p0, p1, p2, p3, _, _, _, _⟩ := HBX.out wr HBW.out
        have hq0 : (0 : Int) ≤ (q : Int) := by omega
        have hq1 : (q : Int) < (t.args.length : Int) := by omega
        have hq5 : (q : Int) ≤ 100000 := by have := partsL_length t.args; omega
        clear hyt hyo hy hrow C hwx hzx hb1 hb2 hb3 hb4
        simp only at HC
        go_wp2_with fail
        refine HC.out.mono ?_; rintro e w4 ⟨v4, rfl, hl4, hb4⟩
        have HBN := Lib.hid (below_next HWX.out hb4)
        have HLV := Lib.hid ((hl4.wider (w := wr) (by rw [HZX.out]; omega)).next hrz hbs HBN.out)
        have HBE := Lib.hid (below_next HBW.out HBN.out)
        clear hl4 hb4 hrz m0 m1 m2 m3 p0 p1 p2 p3
        go_wp2_with fail
        go_roundw
        case rel => exact ⟨q + 1, by omega, by go_num, Lib.hid (by rw [HTS.out]; exact HLV.out), HBE⟩
        case measure => simp [intOf]; omega
      · have hqe : q = t.args.length := by omega
        have hqd : decide ((q : Int) < (t.args.length : Int)) = false := decide_eq_false (by omega)
        subst hqe
        obtain ⟨M, hM⟩ : ∃ M, putTs t.args L = M := ⟨_, rfl⟩
        have hLM := HL.out
        rw [List.take_length, hM] at hLM
        have hML := HPQ.out t.args.length
        rw [List.take_length, hM] at hML
        have hE := HE.out
        rw [hM] at hE
        have hb3 := HPE.out
        have hb4 := HLN.out
        have HLM := Lib.hid hLM
        have hnow := hLM.now hrz
        have HN := Lib.hid (rnum_any _ M ⟨t, ax, cx⟩ wr hnow (HX.out.reads hrz))
        obtain ⟨a1, c1, he1, hal, har⟩ := id hnow
        have hn0 := HN0.out
        rw [List.take_length, hM] at hn0
        simp only [Tv.val] at HN
        obtain ⟨p0, p1, p2, p3, _, _, _, _⟩ := HBX.out wr HBW.out
        by_cases hin : t ∈ M
        · rw [addT_in hin] at hE
          rw [numT_in hin] at HN
          have hnn : decide (((idxT M t : Nat) : Int) < 0) = false := decide_eq_false (by omega)
          have HEE := Lib.hid hE
          clear hE hM hLM hnow hin hML hb3 hb4
          go_wp2_with fail
          refine HN.out.mono ?_; rintro e w5 ⟨rfl, hb5⟩
          have HB5 := Lib.hid (HW.out _ (below_next HBW.out hb5))
          have HL5 := Lib.hid ((HLM.out.below hb5).wider (w := w) (by have := HZS.out; omega))
          clear hb5
          go_wp2_with fail
          go_ret
          rw [HEE.out]
          exact listPost_of HL5.out HB5.out
        · rw [addT_out hin] at hE
          rw [numT_out hin] at HN
          have HEE := Lib.hid hE
          have hS := HLM.out.sight hrz
          obtain ⟨a2, c2, he2, ⟨hal2, hac2⟩, har2⟩ := hS
          rw [hn0] at he2
          obtain ⟨rfl, rfl⟩ : a0 = a2 ∧ c0 = c2 := by cases he2; exact ⟨rfl, rfl⟩
          have hvs : ∃ vs : List Tv, vs.map Tv.t = M ∧ (∀ x ∈ vs, x.ok (seen w0 wz wr)) ∧ ∀ ad, a0 = some ad → ∀ j u, (rowTv vs)[j]? = some u → (seen w0 wz wr).cell? (ad.add j) = some u := by
            rcases har2 with h0 | ⟨b, o, ha, hlt, hr⟩
            · subst h0
              exact ⟨[], rfl, (fun _ h => by cases h), (fun ad _ j u hj => by simp [rowTv] at hj)⟩
            · obtain ⟨vs, h1, h2, h3⟩ := rowAt_vs hr
              refine ⟨vs, h1, h2, fun ad hA j u hj => ?_⟩
              rw [ha] at hA
              obtain rfl := Option.some.inj hA
              have e : ((⟨b, o, none⟩ : Addr).add j) = ⟨b, o + j, none⟩ := by
                unfold Addr.add; split
                · next h => subst h; rfl
                · rfl
              rw [e]
              exact h3 j u hj
          obtain ⟨vs, hvm, hvo, hvc⟩ := hvs
          have hvl : vs.length = n0 := by rw [← hn0, ← hvm, List.length_map]
          have h0n : a0 = none → n0 = 0 := fun h => by
            rcases har2 with h0 | ⟨b, o, ha, _⟩
            · rw [← hn0, h0]; rfl
            · rw [ha] at h; cases h
          have hrl : (rowTv vs).length = n0 * 4 := by rw [rowTv_length, hvl]
          have hLV : Lives (fun V => ∀ x ∈ vs, x.ok V) w0 wz wr := fun V h1 h2 h3 x hxm => (hvo x hxm).reads (seen_reads hrz h1 h2 h3)
          have HLV := Lib.hid hLV
          have HVC := Lib.hid hvc
          have HVM := Lib.hid hvm
          have HVL := Lib.hid hvl
          have HRL := Lib.hid hrl
          have H0N := Lib.hid h0n
          have HRZ := Lib.hid hrz
          have HMN := Lib.hid hn0
          have hnb : n0 ≤ 100000 := by omega
          have hone := Lib.hid (rowTv_one' vs)
          clear hE hM hLM hnow hin hML hb3 hb4 hvm hvo hvc hvl hrl h0n hLV hrz hn0 he1 hal har hal2 hac2 har2 he2
          go_wp2_with fail
          refine HN.out.mono ?_; rintro e w5 ⟨rfl, hb5⟩
          have hB5 := HW.out _ (below_next HBW.out hb5)
          have hs5 := hb5.size
          have hs6 := hB5.size
          have HN5 := Lib.hid (fun ad (hA : a0 = some ad) j u (hj : (rowTv vs)[j]? = some u) => (show w5.cell? (ad.add j) = some u from ((seen_on HRZ.out).trans (reads_below hb5)).cell _ _ (HVC.out ad hA j u hj)))
          have HB5 := Lib.hid hb5
          have HB5w := Lib.hid hB5
          obtain ⟨p0, p1, p2, p3, _, _, _, _⟩ := HBX.out _ (below_next HBW.out hb5)
          have hm1 : 0 + n0 ≤ maxLen := by unfold maxLen; omega
          have hmb : (0 + n0) * 56 ≤ 140737488355328 := by omega
          clear hb5 hB5
          have HO1 := Lib.hid (fun (y : Value) (hy : y ∈ [Value.int .i64 t.kind, .string t.name, .int .i64 t.n, .slice ax t.args.length cx]) => (show y.oneCell' = true from rowTv_one' [⟨t, ax, cx⟩] y (by rw [rowTv_one]; exact hy)))
          have hzw : wz.heap.size ≤ w5.heap.size := Nat.le_trans HBW.out.size HB5.out.size
          have hm2 : 0 + n0 + 1 ≤ maxLen := by unfold maxLen; omega
          have hmb2 : (0 + n0 + 1) * 56 ≤ 140737488355328 := by omega
          go_wp2_with (first
            | (at_builtin; refine wpList_append_own_at _ rfl _ _ 22 rfl w.heap.size 28 i0 (.agg #[.int .i64 0, .string ⟨#[]⟩, .int .i64 0, .slice none 0 0]) 4 56 Tryd.underlying22 hi0 hiz0 his0 hib0 rfl (by decide) _ (0 + n0) ([] ++ rowTv vs) rfl (HO6.out.alloc _) ⟨w6.heap.size, 0, none⟩ 1 1 [Value.int .i64 t.kind, .string t.name, .int .i64 t.n, .slice ax t.args.length cx] rfl rfl HN1.out HO1.out hm2 hmb2 hsz2 ?_; intro v7 w7 hown7 hg7 _ hat7; have HO7 := Lib.hid hown7; have HG7 := Lib.hid hg7; have HA7 := Lib.hid hat7; clear hown7 hg7 hat7)
            | (at_builtin; refine wpList_append_opt rfl _ _ 22 rfl w.heap.size 28 i0 (.agg #[.int .i64 0, .string ⟨#[]⟩, .int .i64 0, .slice none 0 0]) 4 56 Tryd.underlying22 hi0 hiz0 his0 hib0 rfl (by decide) _ 0 [] rfl (World.ownsRow_nil _ _ _ _) a0 n0 c0 (rowTv vs) rfl H0N.out HRL.out HN5.out hone.out hm1 hmb hs6 ?_; intro v6 w6 hown6 hg6 hat6; have HO6 := Lib.hid hown6; have HG6 := Lib.hid hg6; have HA6 := Lib.hid hat6; have hb6 : Below wz.heap.size wz w6 := (below_next HBW.out HB5.out).grown hg6 hzw (fun y e => by cases e); have HB6 := Lib.hid hb6; clear p0 p1 p2 p3; obtain ⟨p0, p1, p2, p3, _, _, _, _⟩ := HBX.out _ hb6; have HN1 := Lib.hid (World.news_of_block (heap_alloc_new w6 (.cells #[.int .i64 t.kind, .string t.name, .int .i64 t.n, .slice ax t.args.length cx] 28))); have hsz2 : w.heap.size ≤ (w6.alloc (.cells #[.int .i64 t.kind, .string t.name, .int .i64 t.n, .slice ax t.args.length cx] 28)).heap.size := Nat.le_trans (HW.out _ hb6).size (by simp); clear hown6 hg6 hat6 hb6))
          go_ret
          have hb57 : Below w5.heap.size w5 w7 := (((Below.refl _ _).grown HG6.out (Nat.le_refl _) (fun y e => by cases e)).alloc HG6.out.size _).grown HG7.out (Nat.le_trans HG6.out.size (by simp)) (fun y (e : v6.ownBlock = some y) => by
            rcases (show v6.ownBlock = (none : Option Nat) ∨ v6.ownBlock = some w5.heap.size from HA6.out) with h | h
            · rw [h] at e; cases e
            · rw [h] at e; injection e with e; omega)
          have hL7 : Lives (fun V => ∀ y ∈ vs ++ [(⟨t, ax, cx⟩ : Tv)], y.ok V) w0 w w7 := fun V h1 h2 h3 y hy => by
            rcases List.mem_append.1 hy with hy | hy
            · exact (((HLV.out.below HB5.out).below hb57).wider (by have := HZS.out; omega)) V h1 h2 h3 y hy
            · rw [List.mem_singleton] at hy
              subst hy
              exact HX.out.reads h1
          have hown : w7.ownsRow w.heap.size 28 4 v7 (M ++ [t]).length (rowTv (vs ++ [(⟨t, ax, cx⟩ : Tv)])) := by
            have h := HO7.out
            rw [List.nil_append] at h
            rw [rowTv_append, rowTv_one, List.length_append, HMN.out, List.length_singleton, show n0 + 1 = 0 + n0 + 1 from by omega]
            exact h
          rw [HEE.out]
          exact listPost_of (lives_row hown (by rw [List.map_append, HVM.out]; rfl) (by rw [List.length_append, HMN.out, List.length_singleton]; omega) hL7) (HB5w.out.trans (hb57.mono hs6))
end Go.Proofs.YtccpfgpdcicjaaaDoor

namespace Go.Proofs.YtccpfgpdcicjaaaDoor
open Go.RowKit

set_option maxRecDepth 100000 in
set_option maxHeartbeats 2000000 in
theorem rputs_any (v : Value) (ts : List Tm) (w0 w : World) (hv : Tms w0 v ts) (hlen : partsL ts ≤ 50000) (hb0 : Reads w0 w) :
    Calls Tryd.prog 11 #[v] w (ListPost (putTs ts []) w0 w) := by
  obtain ⟨av, cv, rfl, hl, hh⟩ := hv.open_
  have HR := Lib.hid hh
  have HB0 := Lib.hid hb0
  have HPQ := Lib.hid (fun q => (show (putTs (ts.take q) []).length ≤ partsL (ts.take q) from by have := putTs_length (ts.take q) []; simpa using this))
  have HPK := Lib.hid (fun q (hq : q < ts.length) => (show partsL (ts.take q) + ts[q].parts ≤ partsL ts from by
    have h1 := partsL_take ts hq
    have h2 := partsL_append (ts.take (q + 1)) (ts.drop (q + 1))
    rw [List.take_append_drop] at h2; omega))
  have hbl := partsL_length ts
  obtain ⟨P, hP⟩ : ∃ P, P = putTs ts [] := ⟨_, rfl⟩
  have HP := Lib.hid hP
  rw [← hP]
  clear hP hh hv hb0
  go_enter Tryd.func11, Tryd.ntmps11
  go_wp2_with fail
  go_loopw [3, 8] (fun o k wr => ∃ q : Nat, q ≤ ts.length ∧ k = .int .i64 q ∧ Hid (Lives (fun V => Tms V o (putTs (ts.take q) [])) w0 w wr) ∧ Hid (Below w.heap.size w wr)) (fun _ k _ => ts.length - (intOf k).toNat)
  case atStart => exact ⟨0, Nat.zero_le _, rfl, Lib.hid (by rw [List.take_zero, putTs]; exact Lives.old (fun V _ => Tms.none_ V none 0)), Lib.hid (Below.refl _ _)⟩
  case round =>
    obtain ⟨q, hq, rfl, HL, HBW⟩ := hrel
    have hbs := HBW.out.size
    have hrz := HB0.out.trans (reads_below HBW.out)
    obtain ⟨a0, c0, e0, _⟩ := HL.out.now hrz
    obtain ⟨n0, hn0⟩ : ∃ n, (putTs (ts.take q) []).length = n := ⟨_, rfl⟩
    rw [hn0] at e0
    subst e0
    have HN0 := Lib.hid hn0
    clear hn0
    by_cases hql : q < ts.length
    · obtain ⟨b', o', rfl, hlt', hrow⟩ := HR.out.resolve_left (by intro h; rw [h] at hql; simp at hql)
      obtain ⟨y, hyt, hyo, hy⟩ := hrow q hql
      obtain ⟨m0, m1, m2, m3⟩ : TvAt wr b' (o' + q * 4) y := ⟨hrz.cell _ _ hy.c0, hrz.cell _ _ hy.c1, hrz.cell _ _ hy.c2, hrz.cell _ _ hy.c3⟩
      obtain ⟨zt, za, zc⟩ := y
      simp only at hyt hyo m0 m1 m2 m3
      have hwx : Below wr.heap.size wr (wr.alloc (.cells #[.int .i64 zt.kind, .string zt.name, .int .i64 zt.n, .slice za zt.args.length zc] 28)) := (Below.refl _ _).alloc (Nat.le_refl _) _
      have hzx : (wr.alloc (.cells #[.int .i64 zt.kind, .string zt.name, .int .i64 zt.n, .slice za zt.args.length zc] 28)).heap.size = wr.heap.size + 1 := by simp
      have hb1 := HPQ.out q
      have hb2 := HPK.out q hql
      rw [← hyt] at hb2
      have C := rput9_tm zt.parts ⟨zt, za, zc⟩ _ _ (seen w0 w wr) (wr.alloc (.cells #[.int .i64 zt.kind, .string zt.name, .int .i64 zt.n, .slice za zt.args.length zc] 28)) (Nat.le_refl _) (by omega) (hyo.reads (seen_up hrz)) (HL.out.sight hrz) (by simp only; omega) ((seen_on hrz).trans (reads_below hwx))
      have HC := Lib.hid C
      have HTS := Lib.hid (show putTs (ts.take (q + 1)) [] = putT zt (putTs (ts.take q) []) by rw [putTs_take hql, hyt])
      have HZX := Lib.hid hzx
      have HWX := Lib.hid hwx
      have hq0 : (0 : Int) ≤ (q : Int) := by omega
      have hq1 : (q : Int) < (ts.length : Int) := by omega
      have hq5 : (q : Int) ≤ 100000 := by omega
      clear hyt hyo hy hrow C hwx hzx hb1 hb2
      simp only [Tv.val] at HC
      go_wp2_with fail
      refine HC.out.mono ?_; rintro e w4 ⟨v4, rfl, hl4, hb4⟩
      have HBN := Lib.hid (below_next HWX.out hb4)
      have HLV := Lib.hid ((hl4.wider (w := wr) (by rw [HZX.out]; omega)).next hrz hbs HBN.out)
      have HBE := Lib.hid (below_next HBW.out HBN.out)
      clear hl4 hb4 hrz m0 m1 m2 m3
      go_wp2_with fail
      go_roundw
      case rel => exact ⟨q + 1, by omega, by go_num, Lib.hid (by rw [HTS.out]; exact HLV.out), HBE⟩
      case measure => simp [intOf]; omega
    · have hqe : q = ts.length := by omega
      subst hqe
      have hLM := HL.out
      rw [List.take_length, ← HP.out] at hLM
      have HLM := Lib.hid hLM
      clear hLM hrz
      go_wp2_with fail
      go_ret
      exact listPost_of HLM.out HBW.out

/-- Few, and small. -/
def fewA (ts : List Tm) : Bool := decide (ts.length ≤ 12) && ts.all (fun t => withinB t 60)
theorem fewA_of {ts : List Tm} (h : fewA ts = true) : ts.length ≤ 12 ∧ ∀ x ∈ ts, withinB x 60 = true := by
  unfold fewA at h
  rw [Bool.and_eq_true, List.all_eq_true] at h
  exact ⟨by simpa using h.1, h.2⟩
theorem partsL_bound {B : Nat} : ∀ {ts : List Tm}, (∀ x ∈ ts, x.parts ≤ B) → partsL ts ≤ ts.length * B
  | [], _ => by rw [partsL_nil]; omega
  | t :: r, h => by
    rw [partsL_cons, List.length_cons, Nat.succ_mul]
    have h1 := h t (List.mem_cons_self ..)
    have h2 := partsL_bound (ts := r) (fun x hx => h x (List.mem_cons_of_mem _ hx))
    omega
theorem fewA_parts {ts : List Tm} (h : fewA ts = true) : partsL ts ≤ 720 := by
  obtain ⟨h1, h2⟩ := fewA_of h
  have := partsL_bound (B := 60) (fun x hx => by have := within_parts (h2 x hx); omega)
  have h3 : ts.length * 60 ≤ 12 * 60 := Nat.mul_le_mul_right _ h1
  omega
theorem fewA_all {ts : List Tm} (h : ∀ j (h : j < ts.length), withinB ts[j] 60 = true) : decide ((ts.length : Int) ≤ 12) = fewA ts := by
  unfold fewA
  have : ts.all (fun t => withinB t 60) = true := by
    rw [List.all_eq_true]
    intro x hx
    obtain ⟨j, hj, rfl⟩ := List.getElem_of_mem hx
    exact h j hj
  rw [this, Bool.and_true]
  by_cases hl : ts.length ≤ 12
  · rw [decide_eq_true hl, decide_eq_true (by omega)]
  · rw [decide_eq_false hl, decide_eq_false (by omega)]
theorem fewA_bad {ts : List Tm} {k : Nat} (hk : k < ts.length) (h : withinB ts[k] 60 = false) : fewA ts = false := by
  unfold fewA
  have : ts.all (fun t => withinB t 60) = false := by
    rw [List.all_eq_false]
    exact ⟨ts[k], List.getElem_mem _, by rw [h]; simp⟩
  rw [this, Bool.and_false]

set_option maxRecDepth 100000 in
set_option maxHeartbeats 2000000 in
theorem rfewa_any (v : Value) (ts : List Tm) (w : World) (hv : Tms w v ts) :
    Calls Tryd.prog 9 #[v] w fun e w' => e = .returned (.bool (fewA ts)) ∧ Below w.heap.size w w' := by
  obtain ⟨av, cv, rfl, hl, hh⟩ := hv.open_
  have HR := Lib.hid hh
  have WT := Lib.hid (fun (y : Tv) (W : World) (h : y.ok W) => within_tm y 60 (by omega) (by omega) W h)
  clear hh hv
  go_enter Tryd.func9, Tryd.ntmps9
  go_wp2_with fail
  go_loopw [7] (fun i wr => ∃ k : Nat, k ≤ ts.length ∧ i = .int .i64 k ∧ Hid (∀ j (h : j < ts.length), j < k → withinB ts[j] 60 = true) ∧ Hid (Below w.heap.size w wr)) (fun i _ => ts.length - (intOf i).toNat)
  case atStart => exact ⟨0, Nat.zero_le _, rfl, Lib.hid (fun j hj hk => by omega), Lib.hid (Below.refl _ _)⟩
  case round =>
    obtain ⟨k, hk, rfl, HK, HB⟩ := hrel
    by_cases hkl : k < ts.length
    · have hi : (k : Int) < (ts.length : Int) := by omega
      obtain ⟨b, o, rfl, hlt, hr⟩ := HR.out.resolve_left (by intro h; rw [h] at hkl; simp at hkl)
      obtain ⟨u, hu, huo, hat⟩ := hr k hkl
      obtain ⟨d0, d1, d2, d3⟩ := hat.below HB.out
      obtain ⟨ut, ua, uc⟩ := u
      simp only at hu d0 d1 d2 d3
      have hL : Below wr.heap.size wr (wr.alloc (.cells #[.int .i64 ut.kind, .string ut.name, .int .i64 ut.n, .slice ua ut.args.length uc] 28)) := (Below.refl _ _).alloc (Nat.le_refl _) _
      have hbL := below_next HB.out hL
      have W1 := WT.out ⟨ut, ua, uc⟩ _ (huo.below hbL)
      simp only [Tv.val] at W1
      have HBL := Lib.hid hbL
      cases hwi : withinB ut 60 with
      | false =>
        rw [hwi] at W1
        have HW1 := Lib.hid W1
        have HF := Lib.hid (fewA_bad hkl (by rw [← hu]; exact hwi))
        clear W1 hwi hu huo hat hr hL hbL
        go_wp2_with fail
        refine HW1.out.mono ?_; rintro e w2 ⟨rfl, hb2⟩
        have HE := Lib.hid (below_next HBL.out hb2)
        clear hb2
        go_wp2_with fail
        go_ret
        exact ⟨ret_bool HF.out.symm, HE.out⟩
      | true =>
        rw [hwi] at W1
        have HW1 := Lib.hid W1
        have HK2 := Lib.hid (fun j (hj : j < ts.length) (hjk : j < k + 1) => (show withinB ts[j] 60 = true from by
          by_cases e : j = k
          · subst e; rw [← hu]; exact hwi
          · exact HK.out j hj (by omega)))
        clear W1 hwi hu huo hat hr hL hbL
        go_wp2_with fail
        refine HW1.out.mono ?_; rintro e w2 ⟨rfl, hb2⟩
        have HE := Lib.hid (below_next HBL.out hb2)
        clear hb2
        go_wp2_with fail
        go_roundw
        case rel => exact ⟨k + 1, by omega, by go_num, HK2, HE⟩
        case measure => simp [intOf]; omega
    · obtain rfl : k = ts.length := by omega
      have HF := Lib.hid (fewA_all (fun j hj => HK.out j hj hj))
      obtain ⟨z, hz⟩ : ∃ z, decide ((ts.length : Int) ≤ 12) = z := ⟨_, rfl⟩
      rw [hz] at HF
      go_wp2_with fail
      go_ret
      exact ⟨ret_bool HF.out, HB.out⟩
end Go.Proofs.YtccpfgpdcicjaaaDoor

namespace Go.Proofs.YtccpfgpdcicjaaaDoor
open Go.RowKit

/-- A term is among others. -/
noncomputable def inT (ts : List Tm) (t : Tm) : Bool := ts.any fun x => eqT x t
def NoneTo (ts : List Tm) (t : Tm) (k : Nat) : Prop := ∀ j (h : j < ts.length), j < k → ts[j] ≠ t
theorem NoneTo.succ {ts : List Tm} {t : Tm} {k : Nat} (h : NoneTo ts t k) (hk : k < ts.length) (hs : ts[k] ≠ t) : NoneTo ts t (k + 1) := by
  intro j hj hjk
  by_cases e : j = k
  · subst e; exact hs
  · exact h j hj (by omega)
theorem NoneTo.all {ts : List Tm} {t : Tm} (h : NoneTo ts t ts.length) : inT ts t = false := by
  unfold inT; rw [← Bool.not_eq_true, List.any_eq_true]
  rintro ⟨x, hx, he⟩
  obtain ⟨j, hj, rfl⟩ := List.getElem_of_mem hx
  exact h j hj hj (eqT_iff.1 he)
theorem in_here {ts : List Tm} {t : Tm} {k : Nat} (hk : k < ts.length) (h : ts[k] = t) : inT ts t = true := by
  unfold inT; rw [List.any_eq_true]; exact ⟨ts[k], List.getElem_mem hk, eqT_true h⟩
theorem in_nil (t : Tm) : inT [] t = false := rfl

set_option maxRecDepth 100000 in
set_option maxHeartbeats 1000000 in
theorem in_tm (v : Value) (ts : List Tm) (x : Tv) (w : World) (hv : Tms w v ts) (hx : x.ok w) :
    Calls Tryd.prog 55 #[v, x.val] w fun e w' => e = .returned (.bool (inT ts x.t)) ∧ Below w.heap.size w w' := by
  obtain ⟨a, c, rfl, hl, h⟩ := hv.open_
  clear hv
  have HX := Lib.hid hx
  clear hx
  rcases h with rfl | ⟨b, off, rfl, hlt, hc⟩
  · have HN := Lib.hid (in_nil x.t)
    obtain ⟨t, a2, c2⟩ := x
    simp only [Tv.val]
    go_enter Tryd.func55, Tryd.ntmps55
    go_wp2
    refine wp_loop_rounds 1 ?_; rw [rounds_succ]
    go_wp2
    go_ret
    exact ⟨ret_bool HN.out.symm, (Below.refl _ _).alloc (Nat.le_refl _) _⟩
  · have HC := Lib.hid hc
    have S := Lib.hid (fun y w hx hy => same_tm y.t.parts y x w (Nat.le_refl _) hx hy)
    clear hc
    have HA := Lib.hid (fun (h : NoneTo ts x.t ts.length) => h.all)
    have HH := Lib.hid (fun k (hk : k < ts.length) (h : ts[k] = x.t) => in_here hk h)
    obtain ⟨z, hz⟩ : ∃ z, z = inT ts x.t := ⟨_, rfl⟩
    rw [← hz] at HA HH ⊢
    clear hz
    obtain ⟨xk, xs, xn, xa, xl, xc, hxv⟩ := x.val_shape
    rw [hxv] at S ⊢
    clear hxv
    go_enter Tryd.func55, Tryd.ntmps55
    go_wp2
    go_loopw [9] (fun i wr => ∃ k : Nat, k ≤ ts.length ∧ i = .int .i64 k ∧ NoneTo ts x.t k ∧ Below (w.heap.size + 1) (w.alloc (.cells #[.int .i64 xk, .string xs, .int .i64 xn, .slice xa xl xc] 28)) wr) (fun i _ => ts.length - (intOf i).toNat)
    case atStart => exact ⟨0, Nat.zero_le _, rfl, (fun j hj hk => by omega), Below.refl _ _⟩
    case round =>
      obtain ⟨k, hk, rfl, hsh, hbb⟩ := hrel
      have hb : Below w.heap.size w wr := below_pair hbb
      have hbs := hbb.size
      simp at hbs
      have HS := Lib.hid hsh
      clear hsh
      by_cases hkl : k < ts.length
      · have hi : (k : Int) < (ts.length : Int) := by omega
        obtain ⟨y, hy, hyk, hat⟩ := HC.out k hkl
        obtain ⟨d0, d1, d2, d3⟩ := hat.below hb
        obtain ⟨p0, p1, p2, p3, _, _, _, _⟩ := (box_new w (.int .i64 xk) (.string xs) (.int .i64 xn) (.slice xa xl xc) 28).below hbb (by omega)
        have hwl : w.heap.size < wr.heap.size := by omega
        have C := Lib.hid (S.out y (wr.alloc (.cells #[.int .i64 y.t.kind, .string y.t.name, .int .i64 y.t.n, .slice y.a y.t.args.length y.c] 28)) ((hyk.below hb).below ((Below.refl _ _).alloc (Nat.le_refl _) _)) ((HX.out.below hb).below ((Below.refl _ _).alloc (Nat.le_refl _) _)))
        have HY := Lib.hid hy
        simp only [Tv.val] at C
        clear hyk hat hy
        cases hs : eqT y.t x.t with
        | true =>
          rw [hs] at C
          have HN := Lib.hid (show ts[k] = x.t from by rw [← HY.out]; exact eqT_iff.1 hs)
          clear hs
          go_wp2_with fail
          refine C.out.mono ?_; rintro e w1 ⟨rfl, hb1⟩
          go_wp2_with fail
          go_ret
          exact ⟨ret_bool (HH.out k hkl HN.out).symm, below_next (hb.alloc hb.size _) hb1⟩
        | false =>
          rw [hs] at C
          have HN : Hid (ts[k] ≠ x.t) := Lib.hid (fun e => by rw [← HY.out] at e; rw [eqT_true e] at hs; cases hs)
          clear hs
          go_wp2_with fail
          refine C.out.mono ?_; rintro e w1 ⟨rfl, hb1⟩
          go_wp2_with fail
          go_roundw
          case rel => exact ⟨k + 1, by omega, by go_num, HS.out.succ hkl HN.out, (hbb.alloc hbs _).trans (hb1.mono (by simp; omega))⟩
          case measure => simp [intOf]; omega
      · obtain rfl : k = ts.length := by omega
        go_wp2
        go_ret
        exact ⟨ret_bool (HA.out HS.out).symm, hb⟩

set_option maxRecDepth 100000 in
set_option maxHeartbeats 1000000 in
theorem has_tm (x y : Tv) (w : World) (hx : x.ok w) (hy : y.ok w) (hp : x.t.parts ≤ 100000) :
    Calls Tryd.prog 46 #[x.val, y.val] w fun e w' => e = .returned (.bool (inT x.t.all y.t)) ∧ Below w.heap.size w w' := by
  have A := Lib.hid (fun w' (h : Below w.heap.size w w') => all_tm x.t.parts x w w' (Nat.le_refl _) (by omega) hx h)
  have I := Lib.hid (fun v ts w1 (hv : Tms w1 v ts) (h : Below w.heap.size w w1) => in_tm v ts y w1 hv (hy.below h))
  have HAL := Lib.hid (all_length x.t)
  have HPB := Lib.hid hp
  obtain ⟨xk, xs, xn, xa, xl, xc, hxv⟩ := x.val_shape
  obtain ⟨yk, ys, yn, ya, yl, yc, hyv⟩ := y.val_shape
  rw [hxv] at A ⊢
  rw [hyv] at I ⊢
  clear hxv hyv hx hy hp
  have hb : Below w.heap.size w ((w.alloc (.cells #[.int .i64 xk, .string xs, .int .i64 xn, .slice xa xl xc] 28)).alloc (.cells #[.int .i64 yk, .string ys, .int .i64 yn, .slice ya yl yc] 28)) := ((Below.refl _ _).alloc (Nat.le_refl _) _).alloc (by simp) _
  have B1 := (box_new w (.int .i64 xk) (.string xs) (.int .i64 xn) (.slice xa xl xc) 28).below ((Below.refl (w.alloc (.cells #[.int .i64 xk, .string xs, .int .i64 xn, .slice xa xl xc] 28)).heap.size _).alloc (Nat.le_refl _) (.cells #[.int .i64 yk, .string ys, .int .i64 yn, .slice ya yl yc] 28)) (by simp)
  have B2 := box_next (w.alloc (.cells #[.int .i64 xk, .string xs, .int .i64 xn, .slice xa xl xc] 28)) (w.heap.size + 1) (by simp) (.int .i64 yk) (.string ys) (.int .i64 yn) (.slice ya yl yc) 28
  go_enter Tryd.func46, Tryd.ntmps46
  go_wp2
  have hz : w.heap.size + 2 = ((w.alloc (.cells #[.int .i64 xk, .string xs, .int .i64 xn, .slice xa xl xc] 28)).alloc (.cells #[.int .i64 yk, .string ys, .int .i64 yn, .slice ya yl yc] 28)).heap.size := by simp
  generalize ((w.alloc (.cells #[.int .i64 xk, .string xs, .int .i64 xn, .slice xa xl xc] 28)).alloc (.cells #[.int .i64 yk, .string ys, .int .i64 yn, .slice ya yl yc] 28)) = wa at hb B1 B2 hz ⊢
  have HZ := Lib.hid hz
  have BX2 := Lib.hid B2
  have hz1 : w.heap.size < wa.heap.size := by omega
  have hz2 : w.heap.size + 1 < wa.heap.size := by omega
  obtain ⟨c0, c1, c2, c3, _, _, _, _⟩ := B1
  obtain ⟨d0, d1, d2, d3, _, _, _, _⟩ := B2
  clear hz
  go_region_with (first | (go_at_call 41; refine (A.out _ ?_).mono ?_; exact hb.drew; rintro e w1 ⟨v, rfl, hov, hnn, hb1⟩; obtain ⟨e0, e1, e2, e3, _, _, _, _⟩ := BX2.out.below ((Below.refl wa.heap.size wa).drew.trans hb1) hz2; have hb2 : Below w.heap.size w w1 := hb.trans ((Below.refl wa.heap.size wa).drew.trans hb1 |>.mono hb.size); have HTM := Lib.hid (hov.tms hb2 (by have := HAL.out; have := HPB.out; omega)); clear hov hnn) | (go_at_call 55; refine (I.out _ _ _ HTM.out ?_).mono ?_; exact hb2; rintro e w2 ⟨rfl, hb3⟩))
  all_goals (try go_wp2)
  all_goals go_ret
  all_goals exact ⟨rfl, below_next hb2 hb3⟩
end Go.Proofs.YtccpfgpdcicjaaaDoor
