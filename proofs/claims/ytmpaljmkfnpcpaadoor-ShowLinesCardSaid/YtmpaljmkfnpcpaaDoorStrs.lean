/-
  Slices that read as lists of texts. Nothing of the program's functions.
-/
import Derived.Test.YtmpaljmkfnpcpaaDoorBase
namespace Go.Proofs.YtmpaljmkfnpcpaaDoor
open Go.RowKit

/-- A slice value that reads as a list of texts. -/
def Strs (w : World) (v : Value) (zs : List ByteArray) : Prop :=
  ∃ a c, v = .slice a zs.length c ∧ zs.length ≤ 9223372036854775806 ∧ (zs = [] ∨ ∃ b off, a = some ⟨b, off, none⟩ ∧ b < w.heap.size ∧ ∀ j, j < zs.length → w.cell? ⟨b, off + j, none⟩ = some (.string (zs.getD j ByteArray.empty)))

theorem Strs.below {w w' : World} {v : Value} {zs : List ByteArray} (h : Strs w v zs) (hb : Below w.heap.size w w') : Strs w' v zs := by
  obtain ⟨a, c, hv, hl, h⟩ := h
  refine ⟨a, c, hv, hl, ?_⟩
  rcases h with h | ⟨b, off, ha, hlt, hc⟩
  · exact .inl h
  · exact .inr ⟨b, off, ha, Nat.lt_of_lt_of_le hlt hb.size, fun j hj => by rw [hb.cell (p := ⟨b, off + j, none⟩) hlt]; exact hc j hj⟩

theorem strs_alloc (w : World) (zs : List ByteArray) (t : TypeId) (hn : zs.length ≤ 9223372036854775806) :
    Strs (w.alloc (.cells (zs.map Value.string).toArray t)) (.slice (some ⟨w.heap.size, 0, none⟩) zs.length zs.length) zs := by
  refine ⟨_, _, rfl, hn, .inr ⟨w.heap.size, 0, rfl, by simp, fun j hj => ?_⟩⟩
  have e := World.cell?_alloc_mark w (zs.map Value.string).toArray t (0, 0) (0 + j)
  rw [e]
  simp [hj]

/-- x isn't among the first k. -/
def NotYet (zs : List ByteArray) (x : ByteArray) (k : Nat) : Prop := ∀ j, j < k → zs.getD j ByteArray.empty ≠ x
theorem NotYet.succ {zs : List ByteArray} {x : ByteArray} {k : Nat} (h : NotYet zs x k) (hk : zs.getD k ByteArray.empty ≠ x) : NotYet zs x (k + 1) := by
  intro j hj
  by_cases e : j = k
  · rw [e]; exact hk
  · exact h j (by omega)
theorem NotYet.all {zs : List ByteArray} {x : ByteArray} (h : NotYet zs x zs.length) : Lib.containsS zs x = false := by
  rw [← Bool.not_eq_true, Lib.containsS_iff]
  intro hm
  obtain ⟨j, hj, e⟩ := List.getElem_of_mem hm
  exact h j hj (by simpa [List.getD, hj] using e)
theorem contains_here {zs : List ByteArray} {x : ByteArray} {k : Nat} (hk : k < zs.length) (h : zs[k] = x) : Lib.containsS zs x = true := by
  rw [Lib.containsS_iff, ← h]; exact List.getElem_mem _
theorem strInfo : (Tryd.prog.info? 9).map (fun i => (i.zero, i.size, i.bytes)) = some (some (.string ⟨#[]⟩), 1, 16) := by kernel_rfl
theorem own_cells {w : World} {base : Nat} {e : TypeId} {v : Value} {n : Nat} {xs : List ByteArray} (h : w.ownsRow base e 1 v n (xs.map Value.string)) : (v = .slice none 0 0 ∧ xs = []) ∨
    ∃ g cap, v = .slice (some ⟨g, 0, none⟩) xs.length cap ∧ g < w.heap.size ∧ xs.length ≤ cap ∧ ∀ (j : Nat) x, xs[j]? = some x → w.cell? ⟨g, 0 + j, none⟩ = some (.string x) := by
  obtain ⟨hn, h⟩ := h
  have hxn : xs.length = n := by simpa using hn
  subst hxn
  rcases h with ⟨rfl, h0⟩ | ⟨g, cap, cur, rfl, hb, hg, hcap, hmax, hsz, htake⟩
  · exact .inl ⟨rfl, List.eq_nil_of_length_eq_zero h0⟩
  · refine .inr ⟨g, cap, rfl, ?_, hcap, fun j x hj => ?_⟩
    · rcases Nat.lt_or_ge g w.heap.size with hlt | hge
      · exact hlt
      · rw [Array.getElem?_eq_none hge] at hg; cases hg
    · have hjl : j < xs.length := (List.getElem?_eq_some_iff.1 hj).1
      rw [cell_of_row w g (0 + j) cur e (0, 0) hg]
      have : (xs.map Value.string)[j]? = some (.string x) := by rw [List.getElem?_map, hj]; rfl
      rw [← htake, List.getElem?_take, if_pos (by omega)] at this
      rw [Nat.zero_add]
      simpa using this
/-- A row of texts that the call itself has made reads as a list of texts. -/
theorem strs_of_own {w : World} {base : Nat} {e : TypeId} {v : Value} {n : Nat} {zs : List ByteArray} (h : w.ownsRow base e 1 v n (zs.map Value.string)) (hl : zs.length ≤ 9223372036854775806) : Strs w v zs := by
  rcases own_cells h with ⟨rfl, rfl⟩ | ⟨g, cap, rfl, hg, _, hc⟩
  · exact ⟨none, 0, rfl, by simp, .inl rfl⟩
  · refine ⟨_, cap, rfl, hl, .inr ⟨g, 0, rfl, hg, fun j hj => ?_⟩⟩
    have := hc j zs[j] (by rw [List.getElem?_eq_getElem hj])
    rw [this]; simp [List.getD, hj]
end Go.Proofs.YtmpaljmkfnpcpaaDoor
