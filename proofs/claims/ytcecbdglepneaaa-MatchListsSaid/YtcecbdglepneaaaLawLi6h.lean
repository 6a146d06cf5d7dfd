/-
  Any patterns and terms, one by one, together: the law answers true.
-/
import Derived.Test.YtcecbdglepneaaaLawLi6
import Derived.Test.YtcecbdglepneaaaPMatch
namespace Go.Proofs.Ytcecbdglepneaaa
open Go.RowKit

theorem partsL_upto {m : Nat} : ∀ {l : List Tm}, (∀ p ∈ l, p.parts ≤ m) → partsL l ≤ l.length * m
  | [], _ => by rw [partsL_nil]; omega
  | t :: r, h => by
    have h1 := h t (by simp)
    have h2 := partsL_upto (l := r) fun p hp => h p (by simp [hp])
    rw [partsL_cons, List.length_cons, Nat.add_mul]; omega
theorem lawLists_any (v : Value) (bs : List Bn) (va : Value) (ps : List Tm) (vb : Value) (ts : List Tm) (w : World) (hv : Bds w v bs) (ha : Tms w va ps) (hb : Tms w vb ts) :
    Calls Try.prog 5 #[v, va, vb] w fun e w' => e = .returned (.bool true) ∧ Below w.heap.size w w' :=
  lawLists_of6 (fun x y w hx hy h1 _ => pmatch_any x y w hx hy (by omega))
    (fun v va vb ps ts l w ha hb hv hl h1 _ h3 _ => pall_any v va vb ps ts l w ha hb hv (by have := partsL_upto h3; have : ps.length * 300 ≤ 8 * 300 := Nat.mul_le_mul_right _ h1; omega)) v bs va ps vb ts w hv ha hb
end Go.Proofs.Ytcecbdglepneaaa
