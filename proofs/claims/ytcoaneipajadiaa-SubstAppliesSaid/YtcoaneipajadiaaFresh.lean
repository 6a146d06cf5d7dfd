/-
  Terms that a call has made, and where they stand on: what the call was handed, and the blocks that it has made itself. No function of the program.
-/
import Derived.Test.YtcoaneipajadiaaRowTv
import Derived.Test.YtcoaneipajadiaaSets
namespace Go.Proofs.Ytcoaneipajadiaa
open Go.RowKit

/-- A term in the memory of w0 and in the blocks that were made from w on: it reads so wherever both stand. -/
def Fresh (w0 w w' : World) (y : Tv) : Prop := ∀ W, Below w0.heap.size w0 W → w'.heap.size ≤ W.heap.size → (∀ b, w.heap.size ≤ b → b < w'.heap.size → W.heap[b]? = w'.heap[b]?) → y.ok W
theorem Fresh.ok {w0 w w' : World} {y : Tv} (h : Fresh w0 w w' y) (hb : Below w0.heap.size w0 w') : y.ok w' := h w' hb (Nat.le_refl _) (fun _ _ _ => rfl)
theorem fresh_old {w0 w w' : World} {y : Tv} (h : y.ok w0) : Fresh w0 w w' y := fun _ hb _ _ => h.below hb
/-- Likewise, but for one block, which holds a copy. -/
def Near (w0 : World) (B : Nat) (wd : World) (g : Nat) (y : Tv) : Prop := ∀ W, Below w0.heap.size w0 W → wd.heap.size ≤ W.heap.size → (∀ b, B ≤ b → b < wd.heap.size → b ≠ g → W.heap[b]? = wd.heap[b]?) → y.ok W
theorem near_alloc {w0 ws w4 : World} {y : Tv} {B : Nat} (hB : B = ws.heap.size) (h : Fresh w0 ws w4 y) (o : Obj) : Near w0 B (w4.alloc o) w4.heap.size y := fun W hb hs hag => by
  subst hB
  refine h W hb (by simp at hs; omega) (fun b h1 h2 => ?_)
  rw [hag b h1 (by simp; omega) (by omega)]
  exact heap_alloc_old w4 _ h2
theorem near_sets {w0 ws w4 : World} {y : Tv} {g : Nat} (hg : ws.heap.size = g + 1) (h : Fresh w0 ws w4 y) (u0 u1 u2 u3 : Value) :
    Near w0 g ((((w4.setCell ⟨g, 0, none⟩ u0).setCell ⟨g, 1, none⟩ u1).setCell ⟨g, 2, none⟩ u2).setCell ⟨g, 3, none⟩ u3) g y := fun W hb hs hag => by
  refine h W hb (by simpa using hs) (fun b h1 h2 => ?_)
  have hne : b ≠ g := by omega
  rw [hag b (by omega) (by simpa using h2) hne]
  rw [Below.heap_setCell _ _ _ _ hne, Below.heap_setCell _ _ _ _ hne, Below.heap_setCell _ _ _ _ hne, Below.heap_setCell _ _ _ _ hne]
theorem own_where {w W : World} {base : Nat} {e : TypeId} {size : Nat} {v : Value} {n : Nat} {xs : List Value} (h : w.ownsRow base e size v n xs) (hb : ∀ b, base ≤ b → b < w.heap.size → W.heap[b]? = w.heap[b]?) : W.ownsRow base e size v n xs := by
  obtain ⟨hn, h⟩ := h
  refine ⟨hn, ?_⟩
  rcases h with h | ⟨g, cap, cur, rfl, hbb, hg, hr⟩
  · exact .inl h
  · exact .inr ⟨g, cap, cur, rfl, hbb, by rw [hb g hbb (Array.getElem?_eq_some_iff.1 hg).1]; exact hg, hr⟩
/-- A term over a row that the call has made. -/
theorem fresh_row {w0 w wf : World} {a : Option Addr} {cap n : Nat} {vs : List Tv} {k : Int} {s : ByteArray} {nn : Int} {ts : List Tm} (hown : wf.ownsRow w.heap.size 25 4 (.slice a n cap) n (rowTv vs)) (hn : ts.length = n) (hvs : vs.map Tv.t = ts) (hfit : Fit k s nn) (hlen : n ≤ 9223372036854775807)
    (hok : ∀ W, Below w0.heap.size w0 W → wf.heap.size ≤ W.heap.size → (∀ b, w.heap.size ≤ b → b < wf.heap.size → W.heap[b]? = wf.heap[b]?) → ∀ v ∈ vs, v.ok W) : Fresh w0 w wf ⟨.mk k s nn ts, a, cap⟩ := fun W hb hs hag => by
  subst hn
  have h1 : OwnTv W W w.heap.size (.slice a ts.length cap) ts := ⟨vs, hvs, hok W hb hs hag, own_where hown hag⟩
  obtain ⟨a', c', e, hA⟩ := h1.tms (Below.refl _ _) hlen
  obtain ⟨rfl, rfl⟩ : a = a' ∧ cap = c' := by cases e; exact ⟨rfl, rfl⟩
  exact ⟨hfit, hA⟩
theorem map_set_t (vs : List Tv) (j : Nat) (u : Tv) : (vs.set j u).map Tv.t = (vs.map Tv.t).set j u.t := by rw [List.map_set]
/-- Where terms of a row that grows stand: what the call was handed, and all that it has made, but for the row itself. -/
def Beside (w0 w wr : World) (o : Value) (y : Tv) : Prop := ∀ W, Below w0.heap.size w0 W → wr.heap.size ≤ W.heap.size → (∀ b, w.heap.size ≤ b → b < wr.heap.size → some b ≠ o.ownBlock → W.heap[b]? = wr.heap[b]?) → y.ok W
theorem Beside.below {w0 w wr w' : World} {o : Value} {y : Tv} (h : Beside w0 w wr o y) (hb : Below wr.heap.size wr w') : Beside w0 w w' o y := fun W h1 h2 h3 =>
  h W h1 (Nat.le_trans hb.size h2) (fun b b1 b2 b3 => by rw [h3 b b1 (Nat.lt_of_lt_of_le b2 hb.size) b3]; exact hb.block b b2)
theorem Beside.grown {w0 w wr w' : World} {o o' : Value} {y : Tv} (h : Beside w0 w wr o y) (hg : wr.grownBy w' o.ownBlock) (hat : o'.ownBlock = o.ownBlock ∨ o'.ownBlock = some wr.heap.size) : Beside w0 w w' o' y := fun W h1 h2 h3 =>
  h W h1 (Nat.le_trans hg.size h2) (fun b b1 b2 b3 => by
    rw [h3 b b1 (Nat.lt_of_lt_of_le b2 hg.size) (by
      rcases hat with e | e
      · rw [e]; exact b3
      · rw [e]; intro he; injection he with he; omega)]
    exact hg.block b b2 b3)
theorem beside_old {w0 w wr : World} {o : Value} {y : Tv} (h : y.ok w0) : Beside w0 w wr o y := fun _ hb _ _ => h.below hb
/-- What an inner call has made, beside a row that lay before. -/
theorem beside_fresh {w0 w ws wr : World} {o : Value} {y : Tv} (h : Fresh w0 ws wr y) (hs : w.heap.size ≤ ws.heap.size) (ho : ∀ g, o.ownBlock = some g → g < ws.heap.size) : Beside w0 w wr o y := fun W h1 h2 h3 =>
  h W h1 h2 (fun b b1 b2 => h3 b (by omega) b2 (fun e => by have := ho b e.symm; omega))
theorem beside_near {w0 w wd : World} {g : Nat} {o : Value} {z : Tv} (h : Near w0 g wd g z) (hs : w.heap.size ≤ g) (ho : ∀ k, o.ownBlock = some k → k < g) : Beside w0 w wd o z := fun W h1 h2 h3 =>
  h W h1 h2 (fun b b1 b2 _ => h3 b (by omega) b2 (fun e => by have := ho b e.symm; omega))
end Go.Proofs.Ytcoaneipajadiaa
