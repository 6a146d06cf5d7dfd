/-
  A slice of terms cut from a place on, and what it reads as.
-/
import Derived.Test.YtpdbnhhpibpbnaaDoorSmallTm
namespace Go.Proofs.YtpdbnhhpibpbnaaDoor
open Go.RowKit

/-- Where a slice of terms begins that is cut from l on. -/
def cutAt (g o cap l : Nat) : Option Addr := if cap = l then some ⟨g, o, none⟩ else some ⟨g, o + l * 4, none⟩
theorem cut_from (g o len cap l : Nat) (hl : l ≤ len) (_hc : len ≤ cap) (w : World) :
    (Instr.slice 22 (.slice (some ⟨g, o, none⟩) len cap) (some (.int .i64 (l : Int))) none none).run Tryd.prog w = .ok (.slice (cutAt g o cap l) (len - l) (cap - l)) w := by
  have hu := Tryd.underlying22
  have hz := Tryd.sizeOf24
  have he : Tryd.prog.elem 22 = 24 := by kernel_rfl
  rw [run_slice_l w 22 _ len cap (by rw [he]; exact hu) .i64 l (by omega) (by omega), he]
  simp only [hz, Result.andThen, sliced, Int.toNat_natCast]
  unfold cutAt
  by_cases h : cap = l
  · rw [if_pos h, if_pos h]
  · rw [if_neg h, if_neg h]
    have : (Option.map (fun x => x.add (l * 4)) (some (⟨g, o, none⟩ : Addr))) = some ⟨g, o + l * 4, none⟩ := by
      simp only [Option.map_some]
      unfold Addr.add
      split
      · next h0 => rw [h0]; rfl
      · rfl
    rw [this]
theorem cut_to (g o len cap h : Nat) (hh : h ≤ cap) (w : World) :
    (Instr.slice 22 (.slice (some ⟨g, o, none⟩) len cap) none (some (.int .i64 (h : Int))) none).run Tryd.prog w = .ok (.slice (cutAt g o cap 0) h cap) w := by
  have hu := Tryd.underlying22
  have hz := Tryd.sizeOf24
  have he : Tryd.prog.elem 22 = 24 := by kernel_rfl
  rw [run_slice_h w 22 _ len cap (by rw [he]; exact hu) .i64 h (by omega) (by omega), he]
  simp only [hz, Result.andThen, sliced, Int.toNat_natCast]
  unfold cutAt
  by_cases h : cap = 0
  · rw [if_pos h, if_pos h, Nat.sub_zero, Nat.sub_zero]
  · rw [if_neg h, if_neg h, Nat.sub_zero, Nat.sub_zero]
    rfl
theorem rowAt_drop {w : World} {ts : List Tm} {g o : Nat} (h : RowAt w ts g o) (l : Nat) : RowAt w (ts.drop l) g (o + l * 4) := by
  refine rowAt_of fun {j} hj => ?_
  rw [List.length_drop] at hj
  have := rowAt_get h (j := l + j) (by omega)
  rw [List.getElem_drop, show o + l * 4 + j * 4 = o + (l + j) * 4 from by omega]
  exact this
theorem cut_args {w : World} {ts : List Tm} {g o cap l : Nat} (h : RowAt w ts g o) (hg : g < w.heap.size) (hc : ts.length ≤ cap) (hm : ts.length ≤ 9223372036854775807) : Args w (cutAt g o cap l) (ts.drop l) := by
  refine ⟨by rw [List.length_drop]; omega, ?_⟩
  by_cases he : ts.drop l = []
  · exact .inl he
  · right
    have : l < ts.length := by
      rcases Nat.lt_or_ge l ts.length with h | h
      · exact h
      · exact absurd (List.drop_eq_nil_of_le h) he
    unfold cutAt
    rw [if_neg (by omega)]
    exact ⟨g, o + l * 4, rfl, hg, rowAt_drop h l⟩
/-- All but the first. -/
theorem cut_tail (g n cap : Nat) (hc : n + 1 ≤ cap) (w : World) :
    (Instr.slice 22 (.slice (some ⟨g, 0, none⟩) (n + 1) cap) (some (.int .i64 1)) none none).run Tryd.prog w = .ok (.slice (cutAt g 0 cap 1) n (cap - 1)) w := cut_from g 0 (n + 1) cap 1 (by omega) hc w
theorem tail_tms {w : World} {t : Tm} {r : List Tm} {g cap : Nat} (h : RowAt w (t :: r) g 0) (hg : g < w.heap.size) (hc : r.length + 1 ≤ cap) (hm : r.length + 1 ≤ 9223372036854775807) : Tms w (.slice (cutAt g 0 cap 1) r.length (cap - 1)) r :=
  ⟨_, _, rfl, cut_args (ts := t :: r) (l := 1) h hg hc hm⟩
end Go.Proofs.YtpdbnhhpibpbnaaDoor
