/-
  What stands while the program's grammar reads an item: the reader, the item's box, the answer's box, its two rows.
  Slices that read as lists of whole numbers: places. Nothing of the program's functions.
  What reads so in one memory and reads so in another; memory with one block out of sight. No function of the program.
  What stands at a place, as data; the zero term; what a call leaves that answers a term, or none. No function of the program.
  Boxes of four cells that are written, and what stands at a place in parts. Nothing of the program's functions.
  Rows of terms that the call itself has made: their cells, stores into them, and rows in memory as values. No function of the program.
  Terms that a call has made, and where they stand on: what the call was handed, and the blocks that it has made itself. No function of the program.
  A tree as a term, by the program's grammar: Plain.
-/
import Derived.Test.YtldgbdmiebipnaaDoorB09
import Derived.Test.YtldgbdmiebipnaaDoorB07
import Derived.Maps.AppendAt
import Derived.Test.YtldgbdmiebipnaaDoorB01
import Derived.Test.YtldgbdmiebipnaaDoorB02
import Derived.Test.YtldgbdmiebipnaaDoorB03
import Derived.Test.YtldgbdmiebipnaaDoorB06
import Derived.Test.YtldgbdmiebipnaaDoorB05
namespace Go.Proofs.YtldgbdmiebipnaaDoor
open Go.RowKit

/-! Operations on items and rows of trees. -/
theorem item_field2 (x : Nat) (w : World) : (Instr.fieldAt 69 (.pointer (some ⟨x, 0, none⟩)) 2).run Tryd.prog w = .ok (.pointer (some ⟨x, 2, none⟩)) w := by kernel_rfl
theorem item_field3 (x : Nat) (w : World) : (Instr.fieldAt 69 (.pointer (some ⟨x, 0, none⟩)) 3).run Tryd.prog w = .ok (.pointer (some ⟨x, 3, none⟩)) w := by kernel_rfl
theorem trees_load (p : Addr) (w : World) (v : Value) (h : w.cell? p = some v) : (Instr.loadAt 34 (.pointer (some p))).run Tryd.prog w = .ok v w := by
  go_simp
theorem trees_store (p : Addr) (w : World) (a : Option Addr) (n c : Nat) (u : Value) (h : w.cell? p = some u) (hf : w.frozen? p = false) : (Instr.storeAt 34 (.pointer (some p)) (.slice a n c)).run Tryd.prog w = .ok () (w.setCell p (.slice a n c)) := by
  go_simp
theorem tree_slice (y : Rv) (w : World) : (Instr.buildSlice 34 1 #[(0, y.val)]).run Tryd.prog w = .ok (.slice (some ⟨w.heap.size, 0, none⟩) 1 1) (w.alloc (.cells y.cells.toArray 36)) := by
  unfold Rv.val Rv.cells
  go_simp
theorem fn_word (v : Value) (w : World) : (callFunc 56 #[v]).run Tryd.prog w = .ok (.enter 56 #[v]) w := by kernel_rfl
theorem fn_number (v : Value) (w : World) : (callFunc 58 #[v]).run Tryd.prog w = .ok (.enter 58 #[v]) w := by kernel_rfl
theorem fn_term (v : Value) (w : World) : (callFunc 44 #[v]).run Tryd.prog w = .ok (.enter 44 #[v]) w := by kernel_rfl
theorem treeInfoP : (Tryd.prog.info? 36).map (fun i => (i.zero, i.size, i.bytes)) = some (some (.agg #[.int .i64 0, .string ⟨#[]⟩, .int .i64 0, .int .i64 0, .slice none 0 0]), 5, 64) := by kernel_rfl
/-- One tree more, behind a call that has answered it: what is left to be done. -/
theorem tree_after {Q : Exit → Act → World → Prop} {p : Addr} {v0 : Value} {fin : Value → Value → Act} {y : Rv} {w1 : World} {base n : Nat} {xs : List Value}
    (hown : w1.ownsRow base 36 5 v0 n xs) (hb : base ≤ w1.heap.size) (hc : w1.cell? p = some v0) (hf : w1.frozen? p = false) (hn : v0.ownBlock ≠ some p.block) (hlen : n ≤ 1000000)
    (h : ∀ v1 w2, w2.ownsRow base 36 5 v1 (n + 1) (xs ++ y.cells) → (w1.alloc (.cells y.cells.toArray 36)).grownBy w2 v0.ownBlock → (v1.ownBlock = v0.ownBlock ∨ v1.ownBlock = some (w1.alloc (.cells y.cells.toArray 36)).heap.size) → Q .normal (fin (.slice (some ⟨w1.heap.size, 0, none⟩) 1 1) v1) (w2.setCell p v1)) :
    AppAfter Tryd.prog Q 34 p v0 fin y.val w1 := by
  obtain ⟨i0, hti, hz0, hz1, hz2⟩ := info_parts treeInfoP
  have hpl : p.block < w1.heap.size := World.block_lt_of_cell? w1 p hc
  have hsz : (w1.alloc (.cells y.cells.toArray 36)).heap.size = w1.heap.size + 1 := by simp
  have hcB : (w1.alloc (.cells y.cells.toArray 36)).cell? p = some v0 := by rw [World.cell?_alloc_lt _ _ _ hpl]; exact hc
  have hfB : (w1.alloc (.cells y.cells.toArray 36)).frozen? p = false := by rw [World.frozen?_alloc_old _ _ _ (Nat.ne_of_lt hpl)]; exact hf
  refine ⟨hc, _, _, tree_slice y w1, hcB, ?_⟩
  obtain ⟨v1, w2, hr, h2, h3, _, h5⟩ := run_append_own_at (P := Tryd.prog) (w1.alloc (.cells y.cells.toArray 36)) base 34 34 36 i0 (.agg #[.int .i64 0, .string ⟨#[]⟩, .int .i64 0, .int .i64 0, .slice none 0 0]) 5 64 Tryd.underlying34 hti hz0 hz1 hz2 rfl (by decide) v0 n xs (hown.alloc _) ⟨w1.heap.size, 0, none⟩ 1 1 y.cells rfl (new_row w1 _ _) (rv_one y) (by unfold maxLen; omega) (by omega) (by rw [hsz]; omega)
  refine ⟨v1, w2, hr, ?_⟩
  obtain ⟨a, c, rfl⟩ := own_slice h2
  have hk : w2.heap[p.block]? = (w1.alloc (.cells y.cells.toArray 36)).heap[p.block]? := h3.block _ (by omega) (fun e => hn e.symm)
  refine ⟨_, trees_store p w2 a (n + 1) c v0 ((World.cell?_of_block hk).trans hcB) ((World.frozen?_of_block hk).trans hfB), h _ _ h2 h3 h5⟩

/-! What stands. -/
structure ItSt (W0 : World) (g b o c : Nat) (L : List Tok) (x : Nat) (it : It) (j : Nat) (vw vt : Value) (W : World) : Prop where
  rdr : Rdr W g b o c L j 0
  only : W0.grownBy W (some g)
  glt : g < W0.heap.size
  res : Box W W0.heap.size (.string ⟨#[]⟩) (.int .i64 0) (.slice none 0 0) (.slice none 0 0)
  arg : Box W x (.string it.key) (.int .i64 it.spot) vw vt
  lt : W0.heap.size < x
  rows : RowsI W (fun k => k = x ∨ k = W0.heap.size) 36 W0.heap.size vw it.words vt it.trees
theorem RowsI.only {W W' : World} {Z : Nat → Prop} {e : TypeId} {base g : Nat} {vw vt : Value} {ws ts : List Tr} (h : RowsI W Z e base vw ws vt ts) (hb : W.grownBy W' (some g)) (hg : g < base) : RowsI W' Z e base vw ws vt ts := by
  have hlt := h.lt
  obtain ⟨⟨vs, h1, h2, h3⟩, ⟨us, k1, k2, k3⟩, ha, ho⟩ := h
  have hne : ∀ k, base ≤ k → some k ≠ some g := fun k hk e => by injection e with e; omega
  have hK : ∀ y : Rv, LiveA W (rowsZ Z vw vt) base y → LiveA W' (rowsZ Z vw vt) base y := fun y hy => by
    obtain ⟨lo, hi, q1, q2, q3, q4, q5⟩ := hy
    refine ⟨lo, hi, q1, q2, Nat.le_trans q3 hb.size, q4, fun W2 g1 g2 => q5 W2 g1 fun k k1 k2 => ?_⟩
    rw [g2 k k1 k2]
    exact hb.block k (by omega) (hne k (by omega))
  exact ⟨⟨vs, h1, fun x hx => hK x (h2 x hx), own_at h3 fun k q => hb.block k (hlt k (.inl q)).2 (hne k (hlt k (.inl q)).1)⟩, ⟨us, k1, fun x hx => hK x (k2 x hx), own_at k3 fun k q => hb.block k (hlt k (.inr q)).2 (hne k (hlt k (.inr q)).1)⟩, ha, ho⟩
section
variable {W0 W W' : World} {g b o c : Nat} {L : List Tok} {x : Nat} {it : It} {j j' : Nat} {vw vt : Value}
/-- Behind a call that turns the reader alone. -/
theorem ItSt.call (h : ItSt W0 g b o c L x it j vw vt W) (hr : Rdr W' g b o c L j' 0) (ho : W.grownBy W' (some g)) : ItSt W0 g b o c L x it j' vw vt W' := by
  have h1 := h.glt
  have h2 := h.lt
  have hb : ∀ k, g < k → k < W.heap.size → W'.heap[k]? = W.heap[k]? := fun k k1 k2 => ho.block k k2 (fun e => by injection e with e; omega)
  refine ⟨hr, only_trans h.only ho, h1, h.res.stays (hb _ h1 (lt_of_cellR h.res.c0)), h.arg.stays (hb _ (by omega) (lt_of_cellR h.arg.c0)), h2, h.rows.only ho h1⟩
/-- One term more. -/
theorem ItSt.push (h : ItSt W0 g b o c L x it j vw vt W) {y : Rv} {us : List Rv} (h1 : us.map Rv.t = it.trees) (h2 : ∀ z ∈ us, LiveA W (rowsZ (fun k => k = x ∨ k = W0.heap.size) vw vt) W0.heap.size z)
    (hy : LiveA W (rowsZ (fun k => k = x ∨ k = W0.heap.size) vw vt) W0.heap.size y) {O : Obj} {v1 : Value} {w2 : World} (hown : w2.ownsRow W0.heap.size 36 5 v1 (it.trees.length + 1) (rowRv us ++ y.cells))
    (hg : (W.alloc O).grownBy w2 vt.ownBlock) (hat : v1.ownBlock = vt.ownBlock ∨ v1.ownBlock = some (W.alloc O).heap.size) :
    ItSt W0 g b o c L x { it with trees := it.trees ++ [y.t] } j vw v1 (w2.setCell ⟨x, 3, none⟩ v1) := by
  have hB : Below W.heap.size W (W.alloc O) := (Below.refl _ _).alloc (Nat.le_refl _) _
  have hlt := h.rows.lt
  have k1 := h.glt
  have k2 := h.lt
  have kx := lt_of_cellR h.arg.c0
  have kr := lt_of_cellR h.res.c0
  have hge : ∀ k, vt.ownBlock = some k → W0.heap.size ≤ k := fun k e => (hlt k (.inr e)).1
  have hnx : ∀ k, k = x ∨ k = W0.heap.size → vt.ownBlock ≠ some k := fun k hk e => h.rows.out k (.inr e) hk
  have hsz : (W.alloc O).heap.size = W.heap.size + 1 := by simp
  have hbk : ∀ k, k < W.heap.size → vt.ownBlock ≠ some k → w2.heap[k]? = W.heap[k]? := fun k q1 q2 => (hg.block k (by omega) (fun e => q2 e.symm)).trans (hB.block k q1)
  have hset : ∀ k, k ≠ x → (w2.setCell ⟨x, 3, none⟩ v1).heap[k]? = w2.heap[k]? := fun k hk => Below.heap_setCell _ _ _ _ hk
  have hrows := (h.rows.below hB).more (news := [y]) h1 (fun z hz => (h2 z hz).below hB) (fun z hz => by rw [List.mem_singleton] at hz; rw [hz]; exact hy.below hB) (n := it.trees.length + 1) rfl (by rw [rowRv_one]; exact hown) hg hat (fun k hk => by rcases hk with rfl | rfl <;> omega)
  refine ⟨?_, ?_, k1, ?_, ?_, k2, ?_⟩
  · have hr2 := (h.rdr.below hB).row hg (fun q e => by have := hge q e; omega)
    exact hr2.stay (hset g (by omega)) (hset b (by have := h.rdr.lt; omega))
  · exact only_put (only_row (only_next h.only hB) hg hge) (p := ⟨x, 3, none⟩) (by show W0.heap.size ≤ x; omega) v1
  · exact (h.res.stays (hbk _ kr (hnx _ (.inr rfl)))).stays (hset _ (by omega))
  · exact (h.arg.stays (hbk _ kx (hnx _ (.inl rfl)))).put3 v1
  · exact hrows.aside (by simp) (fun k hk => hset k (fun e => hk (.inl e)))
/-- One word more. -/
theorem ItSt.pushW (h : ItSt W0 g b o c L x it j vw vt W) {y : Rv} {us : List Rv} (h1 : us.map Rv.t = it.words) (h2 : ∀ z ∈ us, LiveA W (rowsZ (fun k => k = x ∨ k = W0.heap.size) vw vt) W0.heap.size z)
    (hy : LiveA W (rowsZ (fun k => k = x ∨ k = W0.heap.size) vw vt) W0.heap.size y) {O : Obj} {v1 : Value} {w2 : World} (hown : w2.ownsRow W0.heap.size 36 5 v1 (it.words.length + 1) (rowRv us ++ y.cells))
    (hg : (W.alloc O).grownBy w2 vw.ownBlock) (hat : v1.ownBlock = vw.ownBlock ∨ v1.ownBlock = some (W.alloc O).heap.size) :
    ItSt W0 g b o c L x { it with words := it.words ++ [y.t] } j v1 vt (w2.setCell ⟨x, 2, none⟩ v1) := by
  have hB : Below W.heap.size W (W.alloc O) := (Below.refl _ _).alloc (Nat.le_refl _) _
  have hlt := h.rows.lt
  have k1 := h.glt
  have k2 := h.lt
  have kx := lt_of_cellR h.arg.c0
  have kr := lt_of_cellR h.res.c0
  have hge : ∀ k, vw.ownBlock = some k → W0.heap.size ≤ k := fun k e => (hlt k (.inl e)).1
  have hnx : ∀ k, k = x ∨ k = W0.heap.size → vw.ownBlock ≠ some k := fun k hk e => h.rows.out k (.inl e) hk
  have hsz : (W.alloc O).heap.size = W.heap.size + 1 := by simp
  have hbk : ∀ k, k < W.heap.size → vw.ownBlock ≠ some k → w2.heap[k]? = W.heap[k]? := fun k q1 q2 => (hg.block k (by omega) (fun e => q2 e.symm)).trans (hB.block k q1)
  have hset : ∀ k, k ≠ x → (w2.setCell ⟨x, 2, none⟩ v1).heap[k]? = w2.heap[k]? := fun k hk => Below.heap_setCell _ _ _ _ hk
  have hZ : rowsZ (fun k => k = x ∨ k = W0.heap.size) vt vw = rowsZ (fun k => k = x ∨ k = W0.heap.size) vw vt := by funext k; unfold rowsZ; rw [rowsP_swap]
  have hrows := (h.rows.swap.below hB).more (news := [y]) h1 (fun z hz => by rw [hZ]; exact (h2 z hz).below hB) (fun z hz => by rw [List.mem_singleton] at hz; rw [hz, hZ]; exact hy.below hB) (n := it.words.length + 1) rfl (by rw [rowRv_one]; exact hown) hg hat (fun k hk => by rcases hk with rfl | rfl <;> omega)
  refine ⟨?_, ?_, k1, ?_, ?_, k2, ?_⟩
  · have hr2 := (h.rdr.below hB).row hg (fun q e => by have := hge q e; omega)
    exact hr2.stay (hset g (by omega)) (hset b (by have := h.rdr.lt; omega))
  · exact only_put (only_row (only_next h.only hB) hg hge) (p := ⟨x, 2, none⟩) (by show W0.heap.size ≤ x; omega) v1
  · exact (h.res.stays (hbk _ kr (hnx _ (.inr rfl)))).stays (hset _ (by omega))
  · exact (h.arg.stays (hbk _ kx (hnx _ (.inl rfl)))).put2 v1
  · exact hrows.swap.aside (by simp) (fun k hk => hset k (fun e => hk (.inl e)))
end
end Go.Proofs.YtldgbdmiebipnaaDoor

namespace Go.Proofs.YtldgbdmiebipnaaDoor
open Go.RowKit

/-- A slice value that reads as a list of int's. -/
def Nums (w : World) (v : Value) (ns : List Int) : Prop :=
  ∃ a c, v = .slice a ns.length c ∧ ns.length ≤ c ∧ c ≤ 9223372036854775807 ∧ (∀ n ∈ ns, -9223372036854775808 ≤ n ∧ n ≤ 9223372036854775807) ∧
    (ns = [] ∨ ∃ b off, a = some ⟨b, off, none⟩ ∧ b < w.heap.size ∧ ∀ (j : Nat) n, ns[j]? = some n → w.cell? ⟨b, off + j, none⟩ = some (.int .i64 n))
theorem Nums.below {w w' : World} {v : Value} {ns : List Int} (h : Nums w v ns) (hb : Below w.heap.size w w') : Nums w' v ns := by
  obtain ⟨a, c, hv, hl, hc, hn, h⟩ := h
  refine ⟨a, c, hv, hl, hc, hn, ?_⟩
  rcases h with h | ⟨b, off, ha, hlt, hc⟩
  · exact .inl h
  · exact .inr ⟨b, off, ha, Nat.lt_of_lt_of_le hlt hb.size, fun j n hj => by rw [hb.cell (p := ⟨b, off + j, none⟩) hlt]; exact hc j n hj⟩
/-- The rest of a place behind its first number. -/
theorem nums_tail {w : World} {b off c n : Nat} {i : Int} {r : List Int} (hn : n = r.length + 1) (h : Nums w (.slice (some ⟨b, off, none⟩) n c) (i :: r)) (a : Option Addr) (ha : r ≠ [] → a = some ⟨b, off + 1, none⟩) :
    Nums w (.slice a r.length (c - 1)) r := by
  subst hn
  obtain ⟨a', c', hv, hl, hc, hm, h⟩ := h
  cases hv
  simp only [List.length_cons] at hl
  refine ⟨a, _, rfl, by omega, by omega, fun x hx => hm x (by simp [hx]), ?_⟩
  by_cases hr : r = []
  · exact .inl hr
  · rcases h with h | ⟨b', off', he, hlt, h⟩
    · cases h
    · cases he
      exact .inr ⟨b, off + 1, ha hr, hlt, fun j x hj => by have := h (j + 1) x (by simpa using hj); rw [show off + 1 + j = off + (j + 1) from by omega]; exact this⟩
end Go.Proofs.YtldgbdmiebipnaaDoor

namespace Go.Proofs.YtldgbdmiebipnaaDoor
open Go.RowKit

/-- Every cell that reads in w0 reads so in W. -/
structure Reads (w0 W : World) : Prop where
  size : w0.heap.size ≤ W.heap.size
  cell : ∀ p v, w0.cell? p = some v → W.cell? p = some v
theorem Reads.refl (w : World) : Reads w w := ⟨Nat.le_refl _, fun _ _ h => h⟩
theorem Reads.trans {a b c : World} (h : Reads a b) (k : Reads b c) : Reads a c := ⟨Nat.le_trans h.size k.size, fun p v hv => k.cell p v (h.cell p v hv)⟩
theorem reads_below {w0 W : World} (h : Below w0.heap.size w0 W) : Reads w0 W := ⟨h.size, fun p v hv => by
  rw [h.cell (World.block_lt_of_cell? w0 p hv)]; exact hv⟩
mutual
theorem TmAt.reads {w w' : World} (hb : Reads w w') : ∀ {t : Tm} {b o : Nat}, TmAt w t b o → TmAt w' t b o
  | .mk k s n xs, b, o, h => by
    rw [TmAt] at h ⊢
    obtain ⟨hf, h0, h1, h2, a, c, h3, hl, hr⟩ := h
    refine ⟨hf, hb.cell _ _ h0, hb.cell _ _ h1, hb.cell _ _ h2, a, c, hb.cell _ _ h3, hl, ?_⟩
    rcases hr with hr | ⟨b', o', ha, hb', hr⟩
    · exact .inl hr
    · exact .inr ⟨b', o', ha, Nat.lt_of_lt_of_le hb' hb.size, RowAt.reads hb hr⟩
theorem RowAt.reads {w w' : World} (hb : Reads w w') : ∀ {xs : List Tm} {b o : Nat}, RowAt w xs b o → RowAt w' xs b o
  | [], _, _, _ => by rw [RowAt]; trivial
  | t :: r, b, o, h => by
    rw [RowAt] at h ⊢
    exact ⟨TmAt.reads hb h.1, RowAt.reads hb h.2⟩
end
theorem Args.reads {w w' : World} {a : Option Addr} {c : Nat} {xs : List Tm} (h : Args w a c xs) (hb : Reads w w') : Args w' a c xs := by
  obtain ⟨hl, h⟩ := h
  refine ⟨hl, ?_⟩
  rcases h with h | ⟨b, o, ha, hlt, hr⟩
  · exact .inl h
  · exact .inr ⟨b, o, ha, Nat.lt_of_lt_of_le hlt hb.size, hr.reads hb⟩
theorem Tv.ok.reads {w w' : World} {v : Tv} (h : v.ok w) (hb : Reads w w') : v.ok w' := ⟨h.1, Args.reads h.2 hb⟩
theorem Tms.reads {w w' : World} {v : Value} {ts : List Tm} (h : Tms w v ts) (hb : Reads w w') : Tms w' v ts := by
  obtain ⟨a, c, hv, h⟩ := h
  exact ⟨a, c, hv, h.reads hb⟩
/-- A memory with one block out of sight. -/
def mask (w : World) (g : Nat) : World := { w with heap := w.heap.setIfInBounds g (.deferred none) }
theorem mask_size (w : World) (g : Nat) : (mask w g).heap.size = w.heap.size := by simp [mask]
theorem mask_other (w : World) {g k : Nat} (h : k ≠ g) : (mask w g).heap[k]? = w.heap[k]? := by
  simp only [mask]
  rw [Array.getElem?_setIfInBounds, if_neg (by omega)]
theorem mask_cell {w : World} {g : Nat} {p : Addr} {v : Value} (h : (mask w g).cell? p = some v) : p.block ≠ g ∧ w.cell? p = some v := by
  have hne : p.block ≠ g := fun e => by
    have hlt := World.block_lt_of_cell? (mask w g) p h
    have : (mask w g).heap[p.block]? = some (.deferred none) := by
      rw [e] at hlt ⊢
      simp only [mask]
      rw [mask_size] at hlt
      rw [Array.getElem?_setIfInBounds_self, if_pos hlt]
    unfold World.cell? at h
    rw [this] at h
    simp at h
  exact ⟨hne, by rw [← World.cell?_of_block (w := w) (w' := mask w g) (a := p) (mask_other w hne)]; exact h⟩
/-- What is seen with a block out of sight is seen in whatever differs there alone. -/
theorem reads_mask {w W : World} {g : Nat} (hs : w.heap.size ≤ W.heap.size) (h : ∀ k, k < w.heap.size → k ≠ g → W.heap[k]? = w.heap[k]?) : Reads (mask w g) W := ⟨by rw [mask_size]; exact hs, fun p v hv => by
  obtain ⟨hne, hc⟩ := mask_cell hv
  rw [World.cell?_of_block (w := w) (w' := W) (a := p) (h p.block (World.block_lt_of_cell? w p hc) hne)]; exact hc⟩
/-- An elder memory is seen, where a block beyond it is out of sight. -/
theorem reads_into {w0 w : World} {g : Nat} (h : Reads w0 w) (hg : w0.heap.size ≤ g) : Reads w0 (mask w g) := ⟨by rw [mask_size]; exact h.size, fun p v hv => by
  have hlt := World.block_lt_of_cell? w0 p hv
  rw [World.cell?_of_block (w := w) (w' := mask w g) (a := p) (mask_other w (by omega))]; exact h.cell p v hv⟩
/-- A memory with the block of a row out of sight. -/
def shade (w : World) (o : Value) : World := match o.ownBlock with | some g => mask w g | none => w
theorem shade_size (w : World) (o : Value) : (shade w o).heap.size = w.heap.size := by
  unfold shade; split
  · exact mask_size _ _
  · rfl
theorem shade_block {w : World} {o : Value} {k : Nat} (h : some k ≠ o.ownBlock) : (shade w o).heap[k]? = w.heap[k]? := by
  unfold shade; split
  · next g e => exact mask_other w (fun e2 => h (by rw [e2, e]))
  · rfl
theorem shade_cell {w : World} {o : Value} {p : Addr} {v : Value} (h : (shade w o).cell? p = some v) : some p.block ≠ o.ownBlock ∧ w.cell? p = some v := by
  unfold shade at h; split at h
  · next g e =>
    obtain ⟨h1, h2⟩ := mask_cell h
    exact ⟨fun e2 => h1 (by rw [e] at e2; exact Option.some.inj e2), h2⟩
  · next e => exact ⟨fun e2 => (by rw [e] at e2; cases e2), h⟩
theorem shade_reads (w : World) (o : Value) : Reads (shade w o) w := ⟨by rw [shade_size]; exact Nat.le_refl _, fun _ _ h => (shade_cell h).2⟩
theorem shade_into {w0 w : World} {o : Value} (h : Reads w0 w) (hg : ∀ g, o.ownBlock = some g → w0.heap.size ≤ g) : Reads w0 (shade w o) := by
  unfold shade; split
  · next g e => exact reads_into h (hg g e)
  · exact h
theorem shade_to {w W : World} {o o' : Value} (hs : w.heap.size ≤ W.heap.size) (h : ∀ k, k < w.heap.size → some k ≠ o.ownBlock → W.heap[k]? = w.heap[k]? ∧ some k ≠ o'.ownBlock) : Reads (shade w o) (shade W o') := by
  refine ⟨by rw [shade_size, shade_size]; exact hs, fun p v hv => ?_⟩
  obtain ⟨h1, h2⟩ := shade_cell hv
  obtain ⟨h3, h4⟩ := h p.block (World.block_lt_of_cell? w p h2) h1
  rw [World.cell?_of_block (w := w) (w' := shade W o') (a := p) ((shade_block h4).trans h3)]
  exact h2
theorem shade_below {w W : World} {o : Value} (h : Below w.heap.size w W) : Reads (shade w o) (shade W o) := shade_to h.size fun k hk hne => ⟨h.block k hk, hne⟩
theorem shade_grow {w W : World} {o o' : Value} (h : w.grownBy W o.ownBlock) (hat : o'.ownBlock = o.ownBlock ∨ o'.ownBlock = some w.heap.size) : Reads (shade w o) (shade W o') := shade_to h.size fun k hk hne => ⟨h.block k hk hne, by
  rcases hat with e | e
  · rw [e]; exact hne
  · rw [e]; intro e2; injection e2 with e2; omega⟩
end Go.Proofs.YtldgbdmiebipnaaDoor

namespace Go.Proofs.YtldgbdmiebipnaaDoor
open Go.RowKit

/-- The zero term. -/
def zeroT : Tm := .mk 0 ⟨#[]⟩ 0 []
def zeroV : Tv := ⟨zeroT, none, 0⟩
theorem zeroV_ok (w : World) : zeroV.ok w := by refine ⟨⟨?_, ?_, ?_, ?_, ?_⟩, ?_, .inl rfl⟩ <;> decide
/-- What stands at a place, if there is such a place. -/
def atT : Tm → List Int → Option Tm
  | t, [] => some t
  | t, i :: r => if h : 0 ≤ i ∧ i < t.args.length then atT (t.args[i.toNat]'(by omega)) r else none
theorem atT_nil (t : Tm) : atT t [] = some t := by rw [atT]
theorem atT_in {t : Tm} {j : Nat} {r : List Int} (h : j < t.args.length) : atT t ((j : Int) :: r) = atT t.args[j] r := by
  rw [atT, dif_pos (by omega)]; simp
theorem atT_out {t : Tm} {i : Int} {r : List Int} (h : ¬ (0 ≤ i ∧ i < t.args.length)) : atT t (i :: r) = none := by rw [atT, dif_neg h]

/-- What a call of At leaves. -/
def AtPost (o : Option Tm) (w0 w : World) (e : Ending) (w' : World) : Prop :=
  ∃ y : Tv, e = .returned (.tuple #[y.val, .bool o.isSome]) ∧ y.t = o.getD zeroT ∧ y.ok w0 ∧ Below w.heap.size w w'
end Go.Proofs.YtldgbdmiebipnaaDoor

namespace Go.Proofs.YtldgbdmiebipnaaDoor
open Go.RowKit

theorem cell_aside {W : World} {u : Value} (p q : Addr) (h : q.block ≠ p.block) : (W.setCell p u).cell? q = W.cell? q := World.cell?_of_block (Below.heap_setCell _ _ _ _ h)
theorem frozen_aside {W : World} {u : Value} (p q : Addr) (h : q.block ≠ p.block) : (W.setCell p u).frozen? q = W.frozen? q := World.frozen?_of_block (Below.heap_setCell _ _ _ _ h)
theorem cell_off {W : World} {u : Value} (g i j : Nat) (h : i ≠ j) : (W.setCell ⟨g, i, none⟩ u).cell? ⟨g, j, none⟩ = W.cell? ⟨g, j, none⟩ := World.cell?_setCell_other _ _ _ _ (fun e => h (by cases e; rfl))
theorem Box.sets {w : World} {g : Nat} {x0 x1 x2 x3 : Value} (h : Box w g x0 x1 x2 x3) (y0 y1 y2 y3 : Value) :
    Box ((((w.setCell ⟨g, 0, none⟩ y0).setCell ⟨g, 1, none⟩ y1).setCell ⟨g, 2, none⟩ y2).setCell ⟨g, 3, none⟩ y3) g y0 y1 y2 y3 where
  c0 := by
    rw [cell_off g 3 0 (by decide), cell_off g 2 0 (by decide), cell_off g 1 0 (by decide)]
    exact World.cell?_setCell_same _ _ _ h.c0
  c1 := by
    rw [cell_off g 3 1 (by decide), cell_off g 2 1 (by decide)]
    refine World.cell?_setCell_same (u := x1) _ _ _ ?_
    rw [cell_off g 0 1 (by decide)]; exact h.c1
  c2 := by
    rw [cell_off g 3 2 (by decide)]
    refine World.cell?_setCell_same (u := x2) _ _ _ ?_
    rw [cell_off g 1 2 (by decide), cell_off g 0 2 (by decide)]; exact h.c2
  c3 := by
    refine World.cell?_setCell_same (u := x3) _ _ _ ?_
    rw [cell_off g 2 3 (by decide), cell_off g 1 3 (by decide), cell_off g 0 3 (by decide)]; exact h.c3
  f0 := by simp [h.f0]
  f1 := by simp [h.f1]
  f2 := by simp [h.f2]
  f3 := by simp [h.f3]
theorem Box.aside {w : World} {g : Nat} {x0 x1 x2 x3 : Value} (h : Box w g x0 x1 x2 x3) {p : Addr} (hp : g ≠ p.block) (y : Value) : Box (w.setCell p y) g x0 x1 x2 x3 where
  c0 := (cell_aside p ⟨g, 0, none⟩ hp).trans h.c0
  c1 := (cell_aside p ⟨g, 1, none⟩ hp).trans h.c1
  c2 := (cell_aside p ⟨g, 2, none⟩ hp).trans h.c2
  c3 := (cell_aside p ⟨g, 3, none⟩ hp).trans h.c3
  f0 := (frozen_aside p ⟨g, 0, none⟩ hp).trans h.f0
  f1 := (frozen_aside p ⟨g, 1, none⟩ hp).trans h.f1
  f2 := (frozen_aside p ⟨g, 2, none⟩ hp).trans h.f2
  f3 := (frozen_aside p ⟨g, 3, none⟩ hp).trans h.f3
theorem Box.asides {w : World} {g k : Nat} {x0 x1 x2 x3 : Value} (h : Box w g x0 x1 x2 x3) (hp : g ≠ k) (y0 y1 y2 y3 : Value) :
    Box ((((w.setCell ⟨k, 0, none⟩ y0).setCell ⟨k, 1, none⟩ y1).setCell ⟨k, 2, none⟩ y2).setCell ⟨k, 3, none⟩ y3) g x0 x1 x2 x3 :=
  (((h.aside (p := ⟨k, 0, none⟩) hp _).aside (p := ⟨k, 1, none⟩) hp _).aside (p := ⟨k, 2, none⟩) hp _).aside (p := ⟨k, 3, none⟩) hp _
theorem below_sets {B : Nat} {a w : World} (h : Below B a w) {g : Nat} (hg : B ≤ g) (y0 y1 y2 y3 : Value) : Below B a ((((w.setCell ⟨g, 0, none⟩ y0).setCell ⟨g, 1, none⟩ y1).setCell ⟨g, 2, none⟩ y2).setCell ⟨g, 3, none⟩ y3) :=
  (((h.setCell (p := ⟨g, 0, none⟩) hg _).setCell (p := ⟨g, 1, none⟩) hg _).setCell (p := ⟨g, 2, none⟩) hg _).setCell (p := ⟨g, 3, none⟩) hg _
theorem atT_append {u : Tm} : ∀ (p q : List Int) {t : Tm}, atT t p = some u → atT t (p ++ q) = atT u q
  | [], q, t, h => by rw [atT] at h; cases h; rfl
  | i :: r, q, t, h => by
    rw [List.cons_append]
    rw [atT] at h ⊢
    split at h
    · next hi => rw [dif_pos hi]; exact atT_append r q h
    · cases h
theorem atT_take {u t : Tm} {ns : List Int} {j : Nat} (h : atT t (ns.take j) = some u) : atT t ns = atT u (ns.drop j) := by
  have := atT_append (ns.take j) (ns.drop j) h
  rwa [List.take_append_drop] at this
theorem atT_take_succ {u t : Tm} {ns : List Int} {j : Nat} {n : Int} (h : atT t (ns.take j) = some u) (hn : ns[j]? = some n) : atT t (ns.take (j + 1)) = atT u [n] := by
  obtain ⟨hj, rfl⟩ := List.getElem?_eq_some_iff.1 hn
  rw [List.take_succ_eq_append_getElem hj]
  exact atT_append _ _ h
theorem atT_one {u : Tm} {n : Nat} (h : n < u.args.length) : atT u [(n : Int)] = some u.args[n] := by rw [atT_in h, atT_nil]
theorem atT_stop {u t : Tm} {ns : List Int} {j : Nat} {n : Int} (h : atT t (ns.take j) = some u) (hn : ns[j]? = some n) (ho : ¬ (0 ≤ n ∧ n < u.args.length)) : atT t ns = none := by
  obtain ⟨hj, rfl⟩ := List.getElem?_eq_some_iff.1 hn
  rw [atT_take h, List.drop_eq_getElem_cons hj, atT_out ho]
end Go.Proofs.YtldgbdmiebipnaaDoor

namespace Go.Proofs.YtldgbdmiebipnaaDoor
open Go.RowKit

/-- A row in memory as values: their cells, one behind the other. -/
theorem rowAt_vs {w : World} : ∀ {ts : List Tm} {b o : Nat}, RowAt w ts b o → ∃ vs : List Tv, vs.map Tv.t = ts ∧ (∀ x ∈ vs, x.ok w) ∧ ∀ q x, (rowTv vs)[q]? = some x → w.cell? ⟨b, o + q, none⟩ = some x
  | [], _, _, _ => ⟨[], rfl, (fun _ h => by cases h), (fun q x h => by simp [rowTv] at h)⟩
  | t :: r, b, o, h => by
    rw [RowAt] at h
    obtain ⟨u, hu, huk, c0, c1, c2, c3⟩ := tmAt_tv h.1
    obtain ⟨vs, hv, hvk, hc⟩ := rowAt_vs h.2
    refine ⟨u :: vs, by rw [List.map_cons, hu, hv], fun x hx => ?_, fun q x hq => ?_⟩
    · rcases List.mem_cons.1 hx with rfl | hx
      · exact huk
      · exact hvk x hx
    · have e : rowTv (u :: vs) = u.cells ++ rowTv vs := by unfold rowTv; rw [List.flatMap_cons]
      rw [e] at hq
      rcases Nat.lt_or_ge q 4 with h4 | h4
      · rw [List.getElem?_append_left (by simpa [Tv.cells] using h4)] at hq
        rcases (show q = 0 ∨ q = 1 ∨ q = 2 ∨ q = 3 from by omega) with rfl | rfl | rfl | rfl
        all_goals
          simp only [Tv.cells, List.getElem?_cons_zero, List.getElem?_cons_succ, Option.some.injEq] at hq
          subst hq
          assumption
      · rw [List.getElem?_append_right (by simpa [Tv.cells] using h4)] at hq
        have := hc (q - 4) x (by simpa [Tv.cells] using hq)
        rw [show o + 4 + (q - 4) = o + q from by omega] at this
        exact this
theorem addr_row (b o q : Nat) : ((⟨b, o, none⟩ : Addr).add q) = ⟨b, o + q, none⟩ := by
  unfold Addr.add; split
  · next h => subst h; rfl
  · rfl

/-- A row that the call itself has made, behind a store into a block that lay before. -/
theorem own_setCell {w : World} {base : Nat} {e : TypeId} {size : Nat} {v : Value} {n : Nat} {xs : List Value} (h : w.ownsRow base e size v n xs) {p : Addr} (hp : p.block < base) (u : Value) : (w.setCell p u).ownsRow base e size v n xs := by
  obtain ⟨hn, h⟩ := h
  refine ⟨hn, ?_⟩
  rcases h with h | ⟨g, cap, cur, rfl, hbb, hg, hr⟩
  · exact .inl h
  · exact .inr ⟨g, cap, cur, rfl, hbb, by rw [Below.heap_setCell _ _ _ _ (by omega)]; exact hg, hr⟩

theorem rowTv_cons (v : Tv) (r : List Tv) : rowTv (v :: r) = v.cells ++ rowTv r := by unfold rowTv; rw [List.flatMap_cons]
theorem rowTv_set (u : Tv) : ∀ (vs : List Tv) (k : Nat), k < vs.length → rowTv (vs.set k u) = ((((rowTv vs).set (k * 4) (.int .i64 u.t.kind)).set (k * 4 + 1) (.string u.t.name)).set (k * 4 + 2) (.int .i64 u.t.n)).set (k * 4 + 3) (.slice u.a u.t.args.length u.c)
  | [], _, h => by simp at h
  | v :: r, 0, _ => by rw [List.set_cons_zero, rowTv_cons, rowTv_cons]; rfl
  | v :: r, k + 1, h => by
    rw [List.set_cons_succ, rowTv_cons, rowTv_cons, rowTv_set u r k (by simpa using h)]
    have e : ∀ (l : List Value) (i : Nat) (x : Value), (v.cells ++ l).set (4 + i) x = v.cells ++ l.set i x := fun l i x => by
      rw [List.set_append_right _ _ (by simp [Tv.cells])]; congr 2; simp [Tv.cells]
    rw [show (k + 1) * 4 = 4 + k * 4 from by omega, show 4 + k * 4 + 1 = 4 + (k * 4 + 1) from by omega, show 4 + k * 4 + 2 = 4 + (k * 4 + 2) from by omega, show 4 + k * 4 + 3 = 4 + (k * 4 + 3) from by omega, e, e, e, e]
theorem heap_setCell_same {w : World} {g o : Nat} {cur : Array Value} {e : TypeId} {fr : Nat × Nat} (h : w.heap[g]? = some (.cells cur e fr)) (x : Value) : (w.setCell ⟨g, o, none⟩ x).heap[g]? = some (.cells (cur.setIfInBounds o x) e fr) := by
  simp [World.setCell, Array.getElem?_modify, h]
/-- A store of a term into a row of the call's own. -/
theorem own_put {w : World} {base : Nat} {e : TypeId} {g n cap : Nat} {vs : List Tv} (h : w.ownsRow base e 4 (.slice (some ⟨g, 0, none⟩) n cap) n (rowTv vs)) (u : Tv) (k : Nat) (hk : k < vs.length) :
    ((((w.setCell ⟨g, k * 4, none⟩ (.int .i64 u.t.kind)).setCell ⟨g, k * 4 + 1, none⟩ (.string u.t.name)).setCell ⟨g, k * 4 + 2, none⟩ (.int .i64 u.t.n)).setCell ⟨g, k * 4 + 3, none⟩ (.slice u.a u.t.args.length u.c)).ownsRow base e 4 (.slice (some ⟨g, 0, none⟩) n cap) n (rowTv (vs.set k u)) := by
  obtain ⟨hn, ⟨h, _⟩ | ⟨g', cap', cur, hv, hb, hgc, h1, h2, h3, hgt⟩⟩ := h
  · cases h
  · cases hv
    refine ⟨by rw [rowTv_length, List.length_set, ← rowTv_length]; exact hn, .inr ⟨g, cap, _, rfl, hb, heap_setCell_same (heap_setCell_same (heap_setCell_same (heap_setCell_same hgc _) _) _) _, h1, h2, by simpa using h3, ?_⟩⟩
    rw [rowTv_set u vs k hk, ← hgt]
    simp only [Array.toList_setIfInBounds, List.take_set]
end Go.Proofs.YtldgbdmiebipnaaDoor

namespace Go.Proofs.YtldgbdmiebipnaaDoor
open Go.RowKit

/-- A term in the memory of w0 and in the blocks that were made from w on: it reads so wherever both stand. -/
def Fresh (w0 w w' : World) (y : Tv) : Prop := ∀ W, Reads w0 W → w'.heap.size ≤ W.heap.size → (∀ b, w.heap.size ≤ b → b < w'.heap.size → W.heap[b]? = w'.heap[b]?) → y.ok W
theorem Fresh.ok {w0 w w' : World} {y : Tv} (h : Fresh w0 w w' y) (hb : Below w0.heap.size w0 w') : y.ok w' := h w' (reads_below hb) (Nat.le_refl _) (fun _ _ _ => rfl)
theorem fresh_old {w0 w w' : World} {y : Tv} (h : y.ok w0) : Fresh w0 w w' y := fun _ hb _ _ => h.reads hb
/-- Likewise, but for one block, which holds a copy. -/
def Near (w0 : World) (B : Nat) (wd : World) (g : Nat) (y : Tv) : Prop := ∀ W, Reads w0 W → wd.heap.size ≤ W.heap.size → (∀ b, B ≤ b → b < wd.heap.size → b ≠ g → W.heap[b]? = wd.heap[b]?) → y.ok W
theorem near_alloc {w0 ws w4 : World} {y : Tv} {B : Nat} (hB : B = ws.heap.size) (h : Fresh w0 ws w4 y) (o : Obj) : Near w0 B (w4.alloc o) w4.heap.size y := fun W hb hs hag => by
  subst hB
  refine h W hb (by simp at hs; omega) (fun b h1 h2 => ?_)
  rw [hag b h1 (by simp; omega) (by omega)]
  exact heap_alloc_old w4 _ h2
theorem near_sets {w0 ws w4 : World} {y : Tv} {g : Nat} (hg : ws.heap.size = g + 1) (h : Fresh w0 ws w4 y) (u0 u1 u2 u3 : Value) :
    Near w0 g ((((w4.setCell ⟨g, 0, none⟩ u0).setCell ⟨g, 1, none⟩ u1).setCell ⟨g, 2, none⟩ u2).setCell ⟨g, 3, none⟩ u3) g y := fun W hb hs hag => by
  refine h W hb (by simpa using hs) (fun b h1 h2 => ?_)
  have hne : b ≠ g := by omega
  rw [hag b (by omega) (by simpa using h2) hne]
  rw [Below.heap_setCell _ _ _ _ hne, Below.heap_setCell _ _ _ _ hne, Below.heap_setCell _ _ _ _ hne, Below.heap_setCell _ _ _ _ hne]
theorem own_where {w W : World} {base : Nat} {e : TypeId} {size : Nat} {v : Value} {n : Nat} {xs : List Value} (h : w.ownsRow base e size v n xs) (hb : ∀ b, base ≤ b → b < w.heap.size → W.heap[b]? = w.heap[b]?) : W.ownsRow base e size v n xs := by
  obtain ⟨hn, h⟩ := h
  refine ⟨hn, ?_⟩
  rcases h with h | ⟨g, cap, cur, rfl, hbb, hg, hr⟩
  · exact .inl h
  · exact .inr ⟨g, cap, cur, rfl, hbb, by rw [hb g hbb (Array.getElem?_eq_some_iff.1 hg).1]; exact hg, hr⟩
/-- A term over a row that the call has made. -/
theorem fresh_row {w0 w wf : World} {a : Option Addr} {cap n : Nat} {vs : List Tv} {k : Int} {s : ByteArray} {nn : Int} {ts : List Tm} (hown : wf.ownsRow w.heap.size 48 4 (.slice a n cap) n (rowTv vs)) (hn : ts.length = n) (hvs : vs.map Tv.t = ts) (hfit : Fit k s nn) (hlen : n ≤ 9223372036854775807)
    (hok : ∀ W, Reads w0 W → wf.heap.size ≤ W.heap.size → (∀ b, w.heap.size ≤ b → b < wf.heap.size → W.heap[b]? = wf.heap[b]?) → ∀ v ∈ vs, v.ok W) : Fresh w0 w wf ⟨.mk k s nn ts, a, cap⟩ := fun W hb hs hag => by
  subst hn
  have h1 : OwnTv W W w.heap.size (.slice a ts.length cap) ts := ⟨vs, hvs, hok W hb hs hag, own_where hown hag⟩
  obtain ⟨a', c', e, hA⟩ := h1.tms (Below.refl _ _) hlen
  obtain ⟨rfl, rfl⟩ : a = a' ∧ cap = c' := by cases e; exact ⟨rfl, rfl⟩
  exact ⟨hfit, hA⟩
theorem map_set_t (vs : List Tv) (j : Nat) (u : Tv) : (vs.set j u).map Tv.t = (vs.map Tv.t).set j u.t := by rw [List.map_set]
/-- Where terms of a row that grows stand: what the call was handed, and all that it has made, but for the row itself. -/
def Beside (w0 w wr : World) (o : Value) (y : Tv) : Prop := ∀ W, Reads w0 W → wr.heap.size ≤ W.heap.size → (∀ b, w.heap.size ≤ b → b < wr.heap.size → some b ≠ o.ownBlock → W.heap[b]? = wr.heap[b]?) → y.ok W
theorem Beside.below {w0 w wr w' : World} {o : Value} {y : Tv} (h : Beside w0 w wr o y) (hb : Below wr.heap.size wr w') : Beside w0 w w' o y := fun W h1 h2 h3 =>
  h W h1 (Nat.le_trans hb.size h2) (fun b b1 b2 b3 => by rw [h3 b b1 (Nat.lt_of_lt_of_le b2 hb.size) b3]; exact hb.block b b2)
theorem Beside.grown {w0 w wr w' : World} {o o' : Value} {y : Tv} (h : Beside w0 w wr o y) (hg : wr.grownBy w' o.ownBlock) (hat : o'.ownBlock = o.ownBlock ∨ o'.ownBlock = some wr.heap.size) : Beside w0 w w' o' y := fun W h1 h2 h3 =>
  h W h1 (Nat.le_trans hg.size h2) (fun b b1 b2 b3 => by
    rw [h3 b b1 (Nat.lt_of_lt_of_le b2 hg.size) (by
      rcases hat with e | e
      · rw [e]; exact b3
      · rw [e]; intro he; injection he with he; omega)]
    exact hg.block b b2 b3)
theorem beside_old {w0 w wr : World} {o : Value} {y : Tv} (h : y.ok w0) : Beside w0 w wr o y := fun _ hb _ _ => h.reads hb
/-- What an inner call has made, beside a row that lay before. -/
theorem beside_fresh {w0 w ws wr : World} {o : Value} {y : Tv} (h : Fresh w0 ws wr y) (hs : w.heap.size ≤ ws.heap.size) (ho : ∀ g, o.ownBlock = some g → g < ws.heap.size) : Beside w0 w wr o y := fun W h1 h2 h3 =>
  h W h1 h2 (fun b b1 b2 => h3 b (by omega) b2 (fun e => by have := ho b e.symm; omega))
theorem beside_near {w0 w wd : World} {g : Nat} {o : Value} {z : Tv} (h : Near w0 g wd g z) (hs : w.heap.size ≤ g) (ho : ∀ k, o.ownBlock = some k → k < g) : Beside w0 w wd o z := fun W h1 h2 h3 =>
  h W h1 h2 (fun b b1 b2 _ => h3 b (by omega) b2 (fun e => by have := ho b e.symm; omega))
end Go.Proofs.YtldgbdmiebipnaaDoor

namespace Go.Proofs.YtldgbdmiebipnaaDoor
open Go.RowKit

mutual
/-- A tree with arguments at a function alone. -/
def WfR : Tr → Prop
  | .mk k _ _ _ xs => (k ≠ 5 → xs = []) ∧ WfRs xs
def WfRs : List Tr → Prop
  | [] => True
  | t :: r => WfR t ∧ WfRs r
end
theorem wfRs_get : ∀ {l : List Tr}, WfRs l → ∀ {j : Nat} (h : j < l.length), WfR l[j]
  | [], _, j, h => by simp at h
  | t :: r, hw, 0, _ => by rw [WfRs] at hw; exact hw.1
  | t :: r, hw, j + 1, h => by rw [WfRs] at hw; exact wfRs_get hw.2 (j := j) (by simpa using h)
theorem wfR_args {t : Tr} (h : WfR t) : (t.kind ≠ 5 → t.args = []) ∧ WfRs t.args := by cases t; rw [WfR] at h; exact h
theorem plain_take {xs : List Tr} {j : Nat} (h : j < xs.length) : (xs.take (j + 1)).map plainR = (xs.take j).map plainR ++ [plainR xs[j]] := by
  rw [List.take_succ_eq_append_getElem h, List.map_append]; rfl

theorem terms_load (p : Addr) (w : World) (v : Value) (h : w.cell? p = some v) : (Instr.loadAt 46 (.pointer (some p))).run Tryd.prog w = .ok v w := by
  go_simp
theorem terms_store (p : Addr) (w : World) (a : Option Addr) (n c : Nat) (u : Value) (h : w.cell? p = some u) (hf : w.frozen? p = false) : (Instr.storeAt 46 (.pointer (some p)) (.slice a n c)).run Tryd.prog w = .ok () (w.setCell p (.slice a n c)) := by
  go_simp
theorem term_field3 (x : Nat) (w : World) : (Instr.fieldAt 48 (.pointer (some ⟨x, 0, none⟩)) 3).run Tryd.prog w = .ok (.pointer (some ⟨x, 3, none⟩)) w := by kernel_rfl
theorem term_slice (y : Tv) (w : World) : (Instr.buildSlice 46 1 #[(0, y.val)]).run Tryd.prog w = .ok (.slice (some ⟨w.heap.size, 0, none⟩) 1 1) (w.alloc (.cells y.cells.toArray 48)) := by
  unfold Tv.val Tv.cells
  go_simp
theorem fn_plain (v : Value) (w : World) : (callFunc 14 #[v]).run Tryd.prog w = .ok (.enter 14 #[v]) w := by kernel_rfl
theorem tree_load {w : World} {g : Nat} {x0 x1 x2 x3 x4 : Value} (h : Box5 w g x0 x1 x2 x3 x4) : (Instr.loadAt 36 (.pointer (some ⟨g, 0, none⟩))).run Tryd.prog w = .ok (.agg #[x0, x1, x2, x3, x4]) w := by
  obtain ⟨c0, c1, c2, c3, c4, _, _, _, _, _⟩ := h
  go_simp
theorem tv_one (y : Tv) : ∀ u ∈ y.cells, u.oneCell' = true := by rw [← rowTv_one]; exact rowTv_one' [y]
/-- One term more, behind a call that has answered it: what is left to be done. -/
theorem term_after {Q : Exit → Act → World → Prop} {p : Addr} {v0 : Value} {fin : Value → Value → Act} {y : Tv} {w1 : World} {base n : Nat} {xs : List Value}
    (hown : w1.ownsRow base 48 4 v0 n xs) (hb : base ≤ w1.heap.size) (hc : w1.cell? p = some v0) (hf : w1.frozen? p = false) (hn : v0.ownBlock ≠ some p.block) (hlen : n ≤ 1000000)
    (h : ∀ v1 w2, w2.ownsRow base 48 4 v1 (n + 1) (xs ++ y.cells) → (w1.alloc (.cells y.cells.toArray 48)).grownBy w2 v0.ownBlock → (v1.ownBlock = v0.ownBlock ∨ v1.ownBlock = some (w1.alloc (.cells y.cells.toArray 48)).heap.size) → Q .normal (fin (.slice (some ⟨w1.heap.size, 0, none⟩) 1 1) v1) (w2.setCell p v1)) :
    AppAfter Tryd.prog Q 46 p v0 fin y.val w1 := by
  obtain ⟨i0, hti, hz0, hz1, hz2⟩ := info_parts termInfo
  have hpl : p.block < w1.heap.size := World.block_lt_of_cell? w1 p hc
  have hsz : (w1.alloc (.cells y.cells.toArray 48)).heap.size = w1.heap.size + 1 := by simp
  have hcB : (w1.alloc (.cells y.cells.toArray 48)).cell? p = some v0 := by rw [World.cell?_alloc_lt _ _ _ hpl]; exact hc
  have hfB : (w1.alloc (.cells y.cells.toArray 48)).frozen? p = false := by rw [World.frozen?_alloc_old _ _ _ (Nat.ne_of_lt hpl)]; exact hf
  refine ⟨hc, _, _, term_slice y w1, hcB, ?_⟩
  obtain ⟨v1, w2, hr, h2, h3, _, h5⟩ := run_append_own_at (P := Tryd.prog) (w1.alloc (.cells y.cells.toArray 48)) base 46 46 48 i0 (.agg #[.int .i64 0, .string ⟨#[]⟩, .int .i64 0, .slice none 0 0]) 4 56 Tryd.underlying46 hti hz0 hz1 hz2 rfl (by decide) v0 n xs (hown.alloc _) ⟨w1.heap.size, 0, none⟩ 1 1 y.cells rfl (new_row w1 _ _) (tv_one y) (by unfold maxLen; omega) (by omega) (by rw [hsz]; omega)
  refine ⟨v1, w2, hr, ?_⟩
  obtain ⟨a, c, rfl⟩ := own_slice h2
  have hk : w2.heap[p.block]? = (w1.alloc (.cells y.cells.toArray 48)).heap[p.block]? := h3.block _ (by omega) (fun e => hn e.symm)
  refine ⟨_, terms_store p w2 a (n + 1) c v0 ((World.cell?_of_block hk).trans hcB) ((World.frozen?_of_block hk).trans hfB), h _ _ h2 h3 h5⟩

theorem three_box (w : World) (O : Obj) (x0 x1 x2 x3 : Value) (t : TypeId) : Box (((w.alloc O).alloc (.cells #[x0, x1, x2, x3] t)).alloc (.cells #[x0, x1, x2, x3] t)) (w.heap.size + 1) x0 x1 x2 x3 := by
  have h := (box_new (w.alloc O) x0 x1 x2 x3 t).below ((Below.refl _ _).alloc (Nat.le_refl _) (.cells #[x0, x1, x2, x3] t)) (by simp)
  rwa [show (w.alloc O).heap.size = w.heap.size + 1 from by simp] at h
/-- What a call of Plain leaves. -/
def PlainPost (u : Tm) (w : World) (e : Ending) (w' : World) : Prop := ∃ z : Tv, e = .returned z.val ∧ z.t = u ∧ MadeT w w' z ∧ Below w.heap.size w w'
set_option maxRecDepth 100000 in
set_option maxHeartbeats 4000000 in
theorem pplain_tm (m : Nat) : ∀ (x : Rv) (w : World), x.t.parts ≤ m → m ≤ 1000000 → WfR x.t → x.ok w →
    Calls Tryd.prog 14 #[x.val] w (PlainPost (plainR x.t) w) := by
  induction m with
  | zero => intro x w h; have := trParts_pos x.t; omega
  | succ m ih =>
    intro x w hm hm1 hwf hx
    obtain ⟨⟨kd, tx, tn, tp, xs⟩, ax, cx⟩ := x
    obtain ⟨hfit, hargs⟩ := hx
    obtain ⟨hne, hwfs⟩ := wfR_args hwf
    simp only [Tr.kind, Tr.text, Tr.n, Tr.spot, Tr.args] at hfit hargs hne hwfs
    have HE := Lib.hid (show plainR (.mk kd tx tn tp xs) = .mk kd (if kd = 1 ∨ kd = 5 then tx else ⟨#[]⟩) (if kd = 3 ∨ kd = 4 then tn else 0) (plainRs xs) by rw [plainR])
    have PP := Lib.hid (fun (e : Ending) (w' : World) (z : Tv) (h1 : e = .returned z.val) (h2 : z.t = plainR (.mk kd tx tn tp xs)) (h3 : MadeT w w' z) (h4 : Below w.heap.size w w') => (show PlainPost (plainR (.mk kd tx tn tp xs)) w e w' from ⟨z, h1, h2, h3, h4⟩))
    unfold Rv.val
    simp only [Tr.kind, Tr.text, Tr.n, Tr.spot, Tr.args]
    by_cases h5 : kd = 5
    · subst h5
      have hlenm : xs.length ≤ m := by have h1 := partsR_length xs; have h2 := trParts_eq (.mk 5 tx tn tp xs); simp only [Tr.args] at h2; simp only at hm; omega
      have HPL := Lib.hid (fun j (h : j < xs.length) => (show xs[j].parts ≤ m by have h1 := partsR_get xs h; have h2 := trParts_eq (.mk 5 tx tn tp xs); simp only [Tr.args] at h2; simp only at hm; omega))
      have HWF := Lib.hid (fun j (h : j < xs.length) => wfRs_get hwfs h)
      have IH := Lib.hid ih
      have HA := Lib.hid hargs
      have hxl := hargs.1.1
      have hz3 : (((w.alloc (.cells #[.int .i64 5, .string tx, .int .i64 tn, .int .i64 tp, .slice ax xs.length cx] 36)).alloc (.cells #[.int .i64 0, .string ⟨#[]⟩, .int .i64 0, .slice none 0 0] 48)).alloc (.cells #[.int .i64 5, .string tx, .int .i64 0, .slice none 0 0] 48)).heap.size = w.heap.size + 3 := by simp
      have hB3 : Below w.heap.size w (((w.alloc (.cells #[.int .i64 5, .string tx, .int .i64 tn, .int .i64 tp, .slice ax xs.length cx] 36)).alloc (.cells #[.int .i64 0, .string ⟨#[]⟩, .int .i64 0, .slice none 0 0] 48)).alloc (.cells #[.int .i64 5, .string tx, .int .i64 0, .slice none 0 0] 48)) := (((Below.refl w.heap.size w).alloc (Nat.le_refl _) _).alloc (by simp) _).alloc (by simp; omega) _
      have bR := (box_new (w.alloc (.cells #[.int .i64 5, .string tx, .int .i64 tn, .int .i64 tp, .slice ax xs.length cx] 36)) (.int .i64 0) (.string ⟨#[]⟩) (.int .i64 0) (.slice none 0 0) 48).below ((Below.refl _ _).alloc (Nat.le_refl _) (.cells #[.int .i64 5, .string tx, .int .i64 0, .slice none 0 0] 48)) (by simp)
      have bP := box_new ((w.alloc (.cells #[.int .i64 5, .string tx, .int .i64 tn, .int .i64 tp, .slice ax xs.length cx] 36)).alloc (.cells #[.int .i64 0, .string ⟨#[]⟩, .int .i64 0, .slice none 0 0] 48)) (.int .i64 5) (.string tx) (.int .i64 0) (.slice none 0 0) 48
      rw [show (w.alloc (.cells #[.int .i64 5, .string tx, .int .i64 tn, .int .i64 tp, .slice ax xs.length cx] 36)).heap.size = w.heap.size + 1 from by simp] at bR
      rw [show ((w.alloc (.cells #[.int .i64 5, .string tx, .int .i64 tn, .int .i64 tp, .slice ax xs.length cx] 36)).alloc (.cells #[.int .i64 0, .string ⟨#[]⟩, .int .i64 0, .slice none 0 0] 48)).heap.size = w.heap.size + 1 + 1 from by simp] at bP
      obtain ⟨w3, hw3⟩ : ∃ w3, ((w.alloc (.cells #[.int .i64 5, .string tx, .int .i64 tn, .int .i64 tp, .slice ax xs.length cx] 36)).alloc (.cells #[.int .i64 0, .string ⟨#[]⟩, .int .i64 0, .slice none 0 0] 48)).alloc (.cells #[.int .i64 5, .string tx, .int .i64 0, .slice none 0 0] 48) = w3 := ⟨_, rfl⟩
      rw [hw3] at hz3 hB3 bR bP
      replace hw3 := Lib.hid hw3
      have HB3 := Lib.hid hB3
      have HR3 := Lib.hid bR
      have HP3 := Lib.hid bP
      have HZ3 := Lib.hid hz3
      clear hB3 bR bP ih hargs hwfs hne hm hwf hz3
      go_enter Tryd.func14, Tryd.ntmps14
      go_wp2_with fail
      rw [hw3.out]
      go_loopw [30] (fun iv wr => ∃ (q : Nat) (v : Value), iv = .int .i64 q ∧ q ≤ xs.length ∧ Box wr (w.heap.size + 1 + 1) (.int .i64 5) (.string tx) (.int .i64 0) v ∧ Box wr (w.heap.size + 1) (.int .i64 0) (.string ⟨#[]⟩) (.int .i64 0) (.slice none 0 0) ∧ RowT wr (w.heap.size + 3) v ((xs.take q).map plainR) ∧ Below w.heap.size w wr ∧ w.heap.size + 3 ≤ wr.heap.size) (fun iv _ => xs.length - (intOf iv).toNat)
      case atStart => exact ⟨0, .slice none 0 0, rfl, Nat.zero_le _, HP3.out, HR3.out, rowT_nil _ _, HB3.out, by rw [HZ3.out]; exact Nat.le_refl _⟩
      case round =>
        obtain ⟨q, v, rfl, hq, hP, hR, hrow, hb, hsz⟩ := hrel
        have HP := Lib.hid hP
        have HR := Lib.hid hR
        have HROW := Lib.hid hrow
        have HB := Lib.hid hb
        clear hP hR hrow hb
        by_cases hql : q < xs.length
        · have hq0 : (0 : Int) ≤ (q : Int) := by omega
          have hq1 : (q : Int) < (xs.length : Int) := by omega
          rcases HA.out.2 with h | ⟨b, o, rfl, hlt, hc⟩
          · rw [h] at hql; cases hql
          obtain ⟨y, hyt, hyk, hya⟩ := trAt_rv (rowRAt_get hc hql)
          obtain ⟨m0, m1, m2, m3, m4⟩ := hya.below HB.out
          have hyw := hyk.below HB.out
          have HYT := Lib.hid hyt
          have hbx : Below wr.heap.size wr (wr.alloc (.cells #[.int .i64 y.t.kind, .string y.t.text, .int .i64 y.t.n, .int .i64 y.t.spot, .slice y.a y.t.args.length y.c] 36)) := (Below.refl _ _).alloc (Nat.le_refl _) _
          have HBX := Lib.hid hbx
          have hzx : (wr.alloc (.cells #[.int .i64 y.t.kind, .string y.t.text, .int .i64 y.t.n, .int .i64 y.t.spot, .slice y.a y.t.args.length y.c] 36)).heap.size = wr.heap.size + 1 := by simp
          have HZX := Lib.hid hzx
          have b5 := box5_new wr (.int .i64 y.t.kind) (.string y.t.text) (.int .i64 y.t.n) (.int .i64 y.t.spot) (.slice y.a y.t.args.length y.c) 36
          obtain ⟨g5, hg5⟩ : ∃ g5, wr.heap.size = g5 := ⟨_, rfl⟩
          rw [hg5] at b5
          have HG5 := Lib.hid hg5
          obtain ⟨wx, hwx⟩ : ∃ wx, wr.alloc (.cells #[.int .i64 y.t.kind, .string y.t.text, .int .i64 y.t.n, .int .i64 y.t.spot, .slice y.a y.t.args.length y.c] 36) = wx := ⟨_, rfl⟩
          rw [hwx] at HBX HZX b5
          have HWX := Lib.hid hwx
          have HB5 := Lib.hid b5
          have C := Lib.hid (IH.out y wx.drew (by rw [hyt]; exact HPL.out q hql) (by omega) (by rw [hyt]; exact HWF.out q hql) (hyw.below (HBX.out.trans (Below.refl _ _).drew)))
          unfold PlainPost at C
          have HPX := Lib.hid ((HP.out.below HBX.out (by omega)).stays (w1 := wx.drew) rfl)
          have HRX := Lib.hid ((HR.out.below HBX.out (by omega)).stays (w1 := wx.drew) rfl)
          have HROWX := Lib.hid ((HROW.out.below HBX.out).keep (W' := wx.drew) (Nat.le_refl _) (fun _ _ _ => rfl))
          have HBWX := Lib.hid (below_next HB.out (HBX.out.trans (Below.refl _ _).drew))
          clear hyk hya hyw hbx hzx b5 hwx hyt hg5
          go_wp2_with fail
          rw [HWX.out, HG5.out]
          unfold Rv.val at C
          refine app_regionL (by kernel_rfl) (w.heap.size + 1 + 1) ⟨w.heap.size + 1 + 1, 3, none⟩ ⟨g5, 0, none⟩ (.agg #[.int .i64 y.t.kind, .string y.t.text, .int .i64 y.t.n, .int .i64 y.t.spot, .slice y.a y.t.args.length y.c]) v 43 rfl (by decide) (by decide) rfl rfl (tree_load (HB5.out.same (w1 := wx.drew) rfl)) (term_field3 _) (fun _ _ h => terms_load _ _ _ h) (fn_plain _) HPX.out.c3 (fun _ _ _ _ _ h => h) ?_
          refine C.out.mono ?_
          rintro e w4 ⟨z, rfl, hzt, hzm, hb4⟩
          have hs4 := hb4.size
          have hzd : wx.drew.heap.size = wx.heap.size := rfl
          have hs5 : wr.heap.size + 1 ≤ w4.heap.size := by have := HZX.out; omega
          obtain ⟨vs, h1, h2, hown⟩ := HROWX.out.below hb4
          have hP4 := HPX.out.below hb4 (by rw [hzd, HZX.out]; omega)
          have hR4 := HRX.out.below hb4 (by rw [hzd, HZX.out]; omega)
          have hlr : ∀ k, v.ownBlock = some k → k < wx.drew.heap.size := by obtain ⟨_, _, _, ho⟩ := HROWX.out; exact own_row_lt ho
          have hlo := own_row_ge hown
          have hlenq : ((xs.take q).map plainR).length = q := by rw [List.length_map, List.length_take]; omega
          rw [hlenq] at hown
          refine term_after hown (by omega) hP4.c3 hP4.f3 (fun e => by have := hlo _ e; simp at this; omega) (by omega) ?_
          intro v1 w5 g1 g2 g3
          obtain ⟨a1, c1, hv1⟩ : ∃ a c, v1 = .slice a (q + 1) c := own_slice g1
          subst hv1
          have hB45 : Below w4.heap.size w4 (w4.alloc (.cells z.cells.toArray 48)) := (Below.refl _ _).alloc (Nat.le_refl _) _
          have hz45 : (w4.alloc (.cells z.cells.toArray 48)).heap.size = w4.heap.size + 1 := by simp
          have hlive : LiveT (w4.alloc (.cells z.cells.toArray 48)) v.ownBlock (w.heap.size + 3) z := (hzm.live hs4 (by rw [hzd, HZX.out]; omega) (fun k e => .inl (hlr k e))).keep hB45.size (fun k _ hk _ => hB45.block k hk) (fun k e => .inl e)
          have hrow5 := RowT.snoc (ts := (xs.take q).map plainR) (v' := .slice a1 (q + 1) c1) h1 (fun x hx => (h2 x hx).keep hB45.size (fun k _ hk _ => hB45.block k hk) (fun k e => .inl e)) hlive (by rw [hlenq]; exact g1) g2 g3
          have hset : ∀ k, k ≠ w.heap.size + 1 + 1 → (w5.setCell ⟨w.heap.size + 1 + 1, 3, none⟩ (.slice a1 (q + 1) c1)).heap[k]? = w5.heap[k]? := fun k hk => Below.heap_setCell _ _ _ _ hk
          have hbk : ∀ k, k < w.heap.size + 3 → w5.heap[k]? = w4.heap[k]? := fun k hk => (g2.block k (by rw [hz45]; omega) (fun e => by have := hlo k e.symm; omega)).trans (hB45.block k (by omega))
          have HROW6 := Lib.hid (hrow5.keep (W' := w5.setCell ⟨w.heap.size + 1 + 1, 3, none⟩ (.slice a1 (q + 1) c1)) (by simp) (fun k k1 _ => hset k (by omega)))
          have HP6 := Lib.hid ((hP4.stays (hbk _ (by omega))).put3 (.slice a1 (q + 1) c1))
          have HR6 := Lib.hid ((hR4.stays (hbk _ (by omega))).stays (hset _ (by omega)))
          have hsz5 := g2.size
          have HB6 := Lib.hid (show Below w.heap.size w (w5.setCell ⟨w.heap.size + 1 + 1, 3, none⟩ (.slice a1 (q + 1) c1)) from
            (((below_next HBWX.out hb4).alloc (by omega) _).grown g2 (by rw [hz45]; omega) (fun k e => by have := hlo k e; omega)).setCell (p := ⟨w.heap.size + 1 + 1, 3, none⟩) (by show w.heap.size ≤ w.heap.size + 1 + 1; omega) _)
          have hsz6 : w.heap.size + 3 ≤ (w5.setCell ⟨w.heap.size + 1 + 1, 3, none⟩ (.slice a1 (q + 1) c1)).heap.size := by simp; rw [hz45] at hsz5; omega
          have HTK := Lib.hid (show (xs.take q).map plainR ++ [z.t] = (xs.take (q + 1)).map plainR by rw [plain_take hql, hzt, HYT.out])
          obtain ⟨w6, hw6⟩ : ∃ w6, w5.setCell ⟨w.heap.size + 1 + 1, 3, none⟩ (.slice a1 (q + 1) c1) = w6 := ⟨_, rfl⟩
          rw [hw6] at HROW6 HP6 HR6 HB6 hsz6 ⊢
          clear hzt hzm hb4 hs4 hs5 hzd h1 h2 hown hP4 hR4 hlr hlo hlenq g1 g2 g3 hB45 hz45 hlive hrow5 hset hbk hsz5 hw6
          simp only [Act.put, List.setIfInBounds_toArray, List.set_cons_zero, List.set_cons_succ]
          go_wp2_with fail
          go_roundw
          case rel => exact ⟨q + 1, .slice a1 (q + 1) c1, by go_num, by omega, HP6.out, HR6.out, by rw [← HTK.out]; exact HROW6.out, HB6.out, hsz6⟩
          case measure => simp [intOf]; omega
        · obtain rfl : q = xs.length := by omega
          have hqd : decide ((xs.length : Int) < (xs.length : Int)) = false := decide_eq_false (by omega)
          have HT := Lib.hid (show (xs.take xs.length).map plainR = plainRs xs by rw [List.take_length, plainRs_map])
          obtain ⟨a7, c7, hv7⟩ : ∃ a c, v = .slice a xs.length c := by
            obtain ⟨_, _, _, ho⟩ := HROW.out
            rw [List.length_map, List.take_length] at ho
            exact own_slice ho
          subst hv7
          have hrow8 := HROW.out.keep (W' := (((wr.setCell ⟨w.heap.size + 1, 0, none⟩ (.int .i64 5)).setCell ⟨w.heap.size + 1, 1, none⟩ (.string tx)).setCell ⟨w.heap.size + 1, 2, none⟩ (.int .i64 0)).setCell ⟨w.heap.size + 1, 3, none⟩ (.slice a7 xs.length c7)) (by simp) (fun k k1 _ => by
            rw [Below.heap_setCell _ _ _ _ (by show k ≠ w.heap.size + 1; omega), Below.heap_setCell _ _ _ _ (by show k ≠ w.heap.size + 1; omega), Below.heap_setCell _ _ _ _ (by show k ≠ w.heap.size + 1; omega), Below.heap_setCell _ _ _ _ (by show k ≠ w.heap.size + 1; omega)])
          rw [HT.out] at hrow8
          have HMK := Lib.hid (hrow8.made (w := w) (k := 5) (s := tx) (n := 0) ⟨by decide, by decide, by decide, by decide, hfit.len⟩ (by omega) (by rw [plainRs_map, List.length_map]; exact hxl))
          have HB8 := Lib.hid (below_sets HB.out (Nat.le_succ w.heap.size) (.int .i64 5) (.string tx) (.int .i64 0) (.slice a7 xs.length c7))
          have HX8 := Lib.hid (HR.out.fill (.int .i64 5) (.string tx) (.int .i64 0) (.slice a7 xs.length c7))
          obtain ⟨p0, p1, p2, p3, _, _, _, _⟩ := HP.out
          obtain ⟨r0, r1, r2, r3, rf0, rf1, rf2, rf3⟩ := HR.out
          clear hrow8
          go_wp2_with fail
          obtain ⟨r0, r1, r2, r3, _, _, _, _⟩ := HX8.out
          refine bodyPost_ret (v := .agg #[.int .i64 5, .string tx, .int .i64 0, .slice a7 xs.length c7]) (by simp [results, Tryd.results14, go_sem, r0, r1, r2, r3]) rfl ?_
          exact PP.out _ _ ⟨.mk 5 tx 0 (plainRs xs), a7, c7⟩ (by unfold Tv.val; simp only [Tm.kind, Tm.name, Tm.n, Tm.args]; rw [plainRs_map, List.length_map]) (by rw [HE.out]; simp) HMK.out HB8.out
    · have hxs := hne h5
      subst hxs
      simp only [List.length_nil]
      have q5 : (kd == 5) = false := by rw [beq_eq_false_iff_ne]; exact h5
      have HB3 := Lib.hid (fun (O : Obj) (k : Int) (s : ByteArray) (n : Int) => three_box w O (.int .i64 k) (.string s) (.int .i64 n) (.slice none 0 0) 48)
      clear ih hne hwfs hwf hargs
      cases q1 : (kd == 1) with
      | true =>
        have H1 := Lib.hid (show kd = 1 by simpa using q1)
        go_enter Tryd.func14, Tryd.ntmps14
        go_wp2_with fail
        obtain ⟨r0, r1, r2, r3, _, _, _, _⟩ := HB3.out (.cells #[.int .i64 kd, .string tx, .int .i64 tn, .int .i64 tp, .slice ax 0 cx] 36) kd tx 0
        refine bodyPost_ret (v := .agg #[.int .i64 kd, .string tx, .int .i64 0, .slice none 0 0]) (by simp [results, Tryd.results14, go_sem, r0, r1, r2, r3]) rfl ?_
        exact PP.out _ _ ⟨.mk kd tx 0 [], none, 0⟩ rfl (by rw [HE.out, plainRs]; have e1 := H1.out; rw [if_pos (.inl e1), if_neg (by omega)]) (tv_plain ⟨hfit.klo, hfit.khi, by decide, by decide, hfit.len⟩ _ _) (((Below.refl w.heap.size w).alloc (Nat.le_refl _) _).alloc (by simp) _ |>.alloc (by simp; omega) _)
      | false =>
        have H1 := Lib.hid (show kd ≠ 1 by simpa using q1)
        cases q3 : (kd == 3) with
        | true =>
          have H3 := Lib.hid (show kd = 3 by simpa using q3)
          go_enter Tryd.func14, Tryd.ntmps14
          go_wp2_with fail
          obtain ⟨r0, r1, r2, r3, _, _, _, _⟩ := HB3.out (.cells #[.int .i64 kd, .string tx, .int .i64 tn, .int .i64 tp, .slice ax 0 cx] 36) kd ⟨#[]⟩ tn
          refine bodyPost_ret (v := .agg #[.int .i64 kd, .string ⟨#[]⟩, .int .i64 tn, .slice none 0 0]) (by simp [results, Tryd.results14, go_sem, r0, r1, r2, r3]) rfl ?_
          exact PP.out _ _ ⟨.mk kd ⟨#[]⟩ tn [], none, 0⟩ rfl (by rw [HE.out, plainRs]; have e1 := H1.out; have e3 := H3.out; rw [if_neg (by omega), if_pos (.inl e3)]) (tv_plain ⟨hfit.klo, hfit.khi, hfit.nlo, hfit.nhi, by decide⟩ _ _) (((Below.refl w.heap.size w).alloc (Nat.le_refl _) _).alloc (by simp) _ |>.alloc (by simp; omega) _)
        | false =>
          have H3 := Lib.hid (show kd ≠ 3 by simpa using q3)
          cases q4 : (kd == 4) with
          | true =>
            have H4 := Lib.hid (show kd = 4 by simpa using q4)
            go_enter Tryd.func14, Tryd.ntmps14
            go_wp2_with fail
            obtain ⟨r0, r1, r2, r3, _, _, _, _⟩ := HB3.out (.cells #[.int .i64 kd, .string tx, .int .i64 tn, .int .i64 tp, .slice ax 0 cx] 36) kd ⟨#[]⟩ tn
            refine bodyPost_ret (v := .agg #[.int .i64 kd, .string ⟨#[]⟩, .int .i64 tn, .slice none 0 0]) (by simp [results, Tryd.results14, go_sem, r0, r1, r2, r3]) rfl ?_
            exact PP.out _ _ ⟨.mk kd ⟨#[]⟩ tn [], none, 0⟩ rfl (by rw [HE.out, plainRs]; have e1 := H1.out; have e4 := H4.out; rw [if_neg (by omega), if_pos (.inr e4)]) (tv_plain ⟨hfit.klo, hfit.khi, hfit.nlo, hfit.nhi, by decide⟩ _ _) (((Below.refl w.heap.size w).alloc (Nat.le_refl _) _).alloc (by simp) _ |>.alloc (by simp; omega) _)
          | false =>
            have H4 := Lib.hid (show kd ≠ 4 by simpa using q4)
            go_enter Tryd.func14, Tryd.ntmps14
            go_wp2_with fail
            obtain ⟨r0, r1, r2, r3, _, _, _, _⟩ := HB3.out (.cells #[.int .i64 kd, .string tx, .int .i64 tn, .int .i64 tp, .slice ax 0 cx] 36) kd ⟨#[]⟩ 0
            refine bodyPost_ret (v := .agg #[.int .i64 kd, .string ⟨#[]⟩, .int .i64 0, .slice none 0 0]) (by simp [results, Tryd.results14, go_sem, r0, r1, r2, r3]) rfl ?_
            exact PP.out _ _ ⟨.mk kd ⟨#[]⟩ 0 [], none, 0⟩ rfl (by rw [HE.out, plainRs]; have e1 := H1.out; have e3 := H3.out; have e4 := H4.out; rw [if_neg (by omega), if_neg (by omega)]) (tv_plain ⟨hfit.klo, hfit.khi, by decide, by decide, by decide⟩ _ _) (((Below.refl w.heap.size w).alloc (Nat.le_refl _) _).alloc (by simp) _ |>.alloc (by simp; omega) _)
end Go.Proofs.YtldgbdmiebipnaaDoor
