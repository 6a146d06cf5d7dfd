/-
  A row of binds cut: s[l:] and s[:h]. No function of the program.
-/
import Derived.Test.YtcoaneipajadiaaTyC
namespace Go.Proofs.Ytcoaneipajadiaa
open Go.RowKit Go.Shelf Go.Lib Go.Sort

theorem elemB {P : Program} {k : Nat} (T : TyB P k) : P.elem 22 = 50 := by unfold Program.elem; rw [T.t22]
theorem cutk_from {P : Program} {k : Nat} (T : TyB P k) (g o len cap l : Nat) (hl : l ≤ len) (hc : l < cap) (w : World) :
    (Instr.slice 22 (.slice (some ⟨g, o, none⟩) len cap) (some (.int .i64 (l : Int))) none none).run P w = .ok (.slice (some ⟨g, o + l * k, none⟩) (len - l) (cap - l)) w := by
  have hu := T.t22
  have hz := T.zE
  have he := elemB T
  rw [run_slice_l w 22 _ len cap (by rw [he]; exact hu) .i64 l (by omega) (by omega), he]
  simp only [hz, Result.andThen, sliced, Int.toNat_natCast]
  rw [if_neg (by omega)]
  have : (Option.map (fun x => x.add (l * k)) (some (⟨g, o, none⟩ : Addr))) = some ⟨g, o + l * k, none⟩ := by
    simp only [Option.map_some]
    unfold Addr.add
    split
    · next h => rw [h]; simp
    · rfl
  rw [this]
theorem cutk_to {P : Program} {k : Nat} (T : TyB P k) (g o len cap h : Nat) (hh : h ≤ cap) (h0 : 0 < cap) (w : World) :
    (Instr.slice 22 (.slice (some ⟨g, o, none⟩) len cap) none (some (.int .i64 (h : Int))) none).run P w = .ok (.slice (some ⟨g, o, none⟩) h cap) w := by
  have hu := T.t22
  have hz := T.zE
  have he := elemB T
  rw [run_slice_h w 22 _ len cap (by rw [he]; exact hu) .i64 h (by omega) (by omega), he]
  simp only [hz, Result.andThen, sliced, Int.toNat_natCast]
  rw [if_neg (by omega), Nat.zero_mul]
  rfl
end Go.Proofs.Ytcoaneipajadiaa
