/-
  Rows of terms that the call itself has made: their cells, stores into them, and rows in memory as values. No function of the program.
-/
import Derived.Test.YtcoaneipajadiaaAllTm
namespace Go.Proofs.Ytcoaneipajadiaa
open Go.RowKit

/-- A row in memory as values: their cells, one behind the other. -/
theorem rowAt_vs {w : World} : ∀ {ts : List Tm} {b o : Nat}, RowAt w ts b o → ∃ vs : List Tv, vs.map Tv.t = ts ∧ (∀ x ∈ vs, x.ok w) ∧ ∀ q x, (rowTv vs)[q]? = some x → w.cell? ⟨b, o + q, none⟩ = some x
  | [], _, _, _ => ⟨[], rfl, (fun _ h => by cases h), (fun q x h => by simp [rowTv] at h)⟩
  | t :: r, b, o, h => by
    rw [RowAt] at h
    obtain ⟨u, hu, huk, c0, c1, c2, c3⟩ := tmAt_tv h.1
    obtain ⟨vs, hv, hvk, hc⟩ := rowAt_vs h.2
    refine ⟨u :: vs, by rw [List.map_cons, hu, hv], fun x hx => ?_, fun q x hq => ?_⟩
    · rcases List.mem_cons.1 hx with rfl | hx
      · exact huk
      · exact hvk x hx
    · have e : rowTv (u :: vs) = u.cells ++ rowTv vs := by unfold rowTv; rw [List.flatMap_cons]
      rw [e] at hq
      rcases Nat.lt_or_ge q 4 with h4 | h4
      · rw [List.getElem?_append_left (by simpa [Tv.cells] using h4)] at hq
        rcases (show q = 0 ∨ q = 1 ∨ q = 2 ∨ q = 3 from by omega) with rfl | rfl | rfl | rfl
        all_goals
          simp only [Tv.cells, List.getElem?_cons_zero, List.getElem?_cons_succ, Option.some.injEq] at hq
          subst hq
          assumption
      · rw [List.getElem?_append_right (by simpa [Tv.cells] using h4)] at hq
        have := hc (q - 4) x (by simpa [Tv.cells] using hq)
        rw [show o + 4 + (q - 4) = o + q from by omega] at this
        exact this
theorem addr_row (b o q : Nat) : ((⟨b, o, none⟩ : Addr).add q) = ⟨b, o + q, none⟩ := by
  unfold Addr.add; split
  · next h => subst h; rfl
  · rfl

/-- A row that the call itself has made, behind a store into a block that lay before. -/
theorem own_setCell {w : World} {base : Nat} {e : TypeId} {size : Nat} {v : Value} {n : Nat} {xs : List Value} (h : w.ownsRow base e size v n xs) {p : Addr} (hp : p.block < base) (u : Value) : (w.setCell p u).ownsRow base e size v n xs := by
  obtain ⟨hn, h⟩ := h
  refine ⟨hn, ?_⟩
  rcases h with h | ⟨g, cap, cur, rfl, hbb, hg, hr⟩
  · exact .inl h
  · exact .inr ⟨g, cap, cur, rfl, hbb, by rw [Below.heap_setCell _ _ _ _ (by omega)]; exact hg, hr⟩

theorem rowTv_cons (v : Tv) (r : List Tv) : rowTv (v :: r) = v.cells ++ rowTv r := by unfold rowTv; rw [List.flatMap_cons]
theorem rowTv_set (u : Tv) : ∀ (vs : List Tv) (k : Nat), k < vs.length → rowTv (vs.set k u) = ((((rowTv vs).set (k * 4) (.int .i64 u.t.kind)).set (k * 4 + 1) (.string u.t.name)).set (k * 4 + 2) (.int .i64 u.t.n)).set (k * 4 + 3) (.slice u.a u.t.args.length u.c)
  | [], _, h => by simp at h
  | v :: r, 0, _ => by rw [List.set_cons_zero, rowTv_cons, rowTv_cons]; rfl
  | v :: r, k + 1, h => by
    rw [List.set_cons_succ, rowTv_cons, rowTv_cons, rowTv_set u r k (by simpa using h)]
    have e : ∀ (l : List Value) (i : Nat) (x : Value), (v.cells ++ l).set (4 + i) x = v.cells ++ l.set i x := fun l i x => by
      rw [List.set_append_right _ _ (by simp [Tv.cells])]; congr 2; simp [Tv.cells]
    rw [show (k + 1) * 4 = 4 + k * 4 from by omega, show 4 + k * 4 + 1 = 4 + (k * 4 + 1) from by omega, show 4 + k * 4 + 2 = 4 + (k * 4 + 2) from by omega, show 4 + k * 4 + 3 = 4 + (k * 4 + 3) from by omega, e, e, e, e]
theorem heap_setCell_same {w : World} {g o : Nat} {cur : Array Value} {e : TypeId} {fr : Nat × Nat} (h : w.heap[g]? = some (.cells cur e fr)) (x : Value) : (w.setCell ⟨g, o, none⟩ x).heap[g]? = some (.cells (cur.setIfInBounds o x) e fr) := by
  simp [World.setCell, Array.getElem?_modify, h]
/-- A store of a term into a row of the call's own. -/
theorem own_put {w : World} {base : Nat} {e : TypeId} {g n cap : Nat} {vs : List Tv} (h : w.ownsRow base e 4 (.slice (some ⟨g, 0, none⟩) n cap) n (rowTv vs)) (u : Tv) (k : Nat) (hk : k < vs.length) :
    ((((w.setCell ⟨g, k * 4, none⟩ (.int .i64 u.t.kind)).setCell ⟨g, k * 4 + 1, none⟩ (.string u.t.name)).setCell ⟨g, k * 4 + 2, none⟩ (.int .i64 u.t.n)).setCell ⟨g, k * 4 + 3, none⟩ (.slice u.a u.t.args.length u.c)).ownsRow base e 4 (.slice (some ⟨g, 0, none⟩) n cap) n (rowTv (vs.set k u)) := by
  obtain ⟨hn, ⟨h, _⟩ | ⟨g', cap', cur, hv, hb, hgc, h1, h2, h3, hgt⟩⟩ := h
  · cases h
  · cases hv
    refine ⟨by rw [rowTv_length, List.length_set, ← rowTv_length]; exact hn, .inr ⟨g, cap, _, rfl, hb, heap_setCell_same (heap_setCell_same (heap_setCell_same (heap_setCell_same hgc _) _) _) _, h1, h2, by simpa using h3, ?_⟩⟩
    rw [rowTv_set u vs k hk, ← hgt]
    simp only [Array.toList_setIfInBounds, List.take_set]
end Go.Proofs.Ytcoaneipajadiaa
