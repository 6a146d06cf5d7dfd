/-
  Terms that are small, rows of terms held against each other, and whether a term is in a row, by the reference of layer 3: Within, Small, Smalls, Sames, In, Has.
-/
import Derived.Test.YtmpaljmkfnpcpaaDoorAllTm
namespace Go.Proofs.YtmpaljmkfnpcpaaDoor
open Go.RowKit

def nameB (t : Tm) : Bool := decide (t.name.size ≤ 100)
/-- At most so many parts, with short names. -/
def withinB (t : Tm) (most : Int) : Bool := decide ((t.parts : Int) ≤ most) && t.all.all nameB
def smallB (t : Tm) : Bool := withinB t 300
theorem within_parts {t : Tm} {most : Int} (h : withinB t most = true) : (t.parts : Int) ≤ most := by
  unfold withinB at h; rw [Bool.and_eq_true, decide_eq_true_eq] at h; exact h.1
theorem within_names {t : Tm} {most : Int} (h : withinB t most = true) : ∀ x ∈ t.all, x.name.size ≤ 100 := by
  unfold withinB at h; rw [Bool.and_eq_true, List.all_eq_true] at h
  intro x hx; have := h.2 x hx; unfold nameB at this; simpa using this
theorem small_parts {t : Tm} (h : smallB t = true) : t.parts ≤ 300 := by have := within_parts h; omega
theorem within_big {t : Tm} {most : Int} (h : ¬ (t.parts : Int) ≤ most) : withinB t most = false := by unfold withinB; rw [decide_eq_false h, Bool.false_and]
/-- Names are short up to k. -/
def NamesTo (ts : List Tm) (k : Nat) : Prop := ∀ j (h : j < ts.length), j < k → nameB ts[j] = true
theorem NamesTo.succ {ts : List Tm} {k : Nat} (h : NamesTo ts k) (hk : k < ts.length) (hs : nameB ts[k] = true) : NamesTo ts (k + 1) := by
  intro j hj hjk
  by_cases e : j = k
  · subst e; exact hs
  · exact h j hj (by omega)
theorem NamesTo.all {t : Tm} {most : Int} (h : NamesTo t.all t.all.length) (hp : (t.parts : Int) ≤ most) : withinB t most = true := by
  unfold withinB; rw [decide_eq_true hp, Bool.true_and, List.all_eq_true]
  intro x hx
  obtain ⟨j, hj, rfl⟩ := List.getElem_of_mem hx
  exact h j hj hj
theorem names_bad {t : Tm} {most : Int} {k : Nat} (hk : k < t.all.length) (h : nameB t.all[k] = false) : withinB t most = false := by
  unfold withinB; rw [Bool.and_eq_false_iff]; right
  rw [← Bool.not_eq_true, List.all_eq_true]; intro hall
  rw [hall _ (List.getElem_mem hk)] at h; cases h
/-- A row of terms, opened: empty, or at an address. -/
theorem Tms.open_ {w : World} {v : Value} {ts : List Tm} (h : Tms w v ts) : ∃ a c, v = .slice a ts.length c ∧ ts.length ≤ 9223372036854775807 ∧ (ts = [] ∨ ∃ b o, a = some ⟨b, o, none⟩ ∧ b < w.heap.size ∧
    ∀ j (h : j < ts.length), ∃ u : Tv, u.t = ts[j] ∧ u.ok w ∧ TvAt w b (o + j * 4) u) := by
  obtain ⟨a, c, hv, hl, h⟩ := h
  refine ⟨a, c, hv, hl.1, ?_⟩
  rcases h with h | ⟨b, o, ha, hlt, hr⟩
  · exact .inl h
  · exact .inr ⟨b, o, ha, hlt, fun j hj => tmAt_tv (rowAt_get hr hj)⟩

end Go.Proofs.YtmpaljmkfnpcpaaDoor
