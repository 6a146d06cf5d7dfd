/-
  Slices that read as lists of whole numbers: places. Nothing of the program's functions.
-/
import Derived.Test.YtmpaljmkfnpcpaaDoorBase
namespace Go.Proofs.YtmpaljmkfnpcpaaDoor
open Go.RowKit

/-- A slice value that reads as a list of int's. -/
def Nums (w : World) (v : Value) (ns : List Int) : Prop :=
  ∃ a c, v = .slice a ns.length c ∧ ns.length ≤ c ∧ c ≤ 9223372036854775807 ∧ (∀ n ∈ ns, -9223372036854775808 ≤ n ∧ n ≤ 9223372036854775807) ∧
    (ns = [] ∨ ∃ b off, a = some ⟨b, off, none⟩ ∧ b < w.heap.size ∧ ∀ (j : Nat) n, ns[j]? = some n → w.cell? ⟨b, off + j, none⟩ = some (.int .i64 n))
theorem Nums.below {w w' : World} {v : Value} {ns : List Int} (h : Nums w v ns) (hb : Below w.heap.size w w') : Nums w' v ns := by
  obtain ⟨a, c, hv, hl, hc, hn, h⟩ := h
  refine ⟨a, c, hv, hl, hc, hn, ?_⟩
  rcases h with h | ⟨b, off, ha, hlt, hc⟩
  · exact .inl h
  · exact .inr ⟨b, off, ha, Nat.lt_of_lt_of_le hlt hb.size, fun j n hj => by rw [hb.cell (p := ⟨b, off + j, none⟩) hlt]; exact hc j n hj⟩
/-- The rest of a place behind its first number. -/
theorem nums_tail {w : World} {b off c n : Nat} {i : Int} {r : List Int} (hn : n = r.length + 1) (h : Nums w (.slice (some ⟨b, off, none⟩) n c) (i :: r)) (a : Option Addr) (ha : r ≠ [] → a = some ⟨b, off + 1, none⟩) :
    Nums w (.slice a r.length (c - 1)) r := by
  subst hn
  obtain ⟨a', c', hv, hl, hc, hm, h⟩ := h
  cases hv
  simp only [List.length_cons] at hl
  refine ⟨a, _, rfl, by omega, by omega, fun x hx => hm x (by simp [hx]), ?_⟩
  by_cases hr : r = []
  · exact .inl hr
  · rcases h with h | ⟨b', off', he, hlt, h⟩
    · cases h
    · cases he
      exact .inr ⟨b, off + 1, ha hr, hlt, fun j x hj => by have := h (j + 1) x (by simpa using hj); rw [show off + 1 + j = off + (j + 1) from by omega]; exact this⟩
end Go.Proofs.YtmpaljmkfnpcpaaDoor
