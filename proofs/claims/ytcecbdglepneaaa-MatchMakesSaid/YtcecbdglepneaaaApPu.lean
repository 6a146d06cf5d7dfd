/-
  Binds put into terms, as data, and what a call of Apply leaves. No function of the program.
-/
import Derived.Test.YtcecbdglepneaaaBds
import Derived.Test.YtcecbdglepneaaaFresh
namespace Go.Proofs.Ytcecbdglepneaaa
open Go.RowKit

mutual
/-- A term with what its variables stand for. -/
def appT (bs : List Bn) : Tm → Tm
  | .mk k s n xs => if k = 1 then (match getB bs s with | some t => t | none => .mk k s n (appL bs xs)) else .mk k s n (appL bs xs)
def appL (bs : List Bn) : List Tm → List Tm
  | [] => []
  | t :: r => appT bs t :: appL bs r
end
theorem appL_map (bs : List Bn) : ∀ l : List Tm, appL bs l = l.map (appT bs)
  | [] => by rw [appL]; rfl
  | t :: r => by rw [appL, appL_map bs r]; rfl
theorem appT_eq (bs : List Bn) (t : Tm) : appT bs t = if t.kind = 1 then (match getB bs t.name with | some u => u | none => .mk t.kind t.name t.n (t.args.map (appT bs))) else .mk t.kind t.name t.n (t.args.map (appT bs)) := by
  cases t; rw [appT, appL_map]; rfl
theorem map_take_succ (bs : List Bn) {l : List Tm} {k : Nat} (h : k < l.length) : (l.take (k + 1)).map (appT bs) = (l.take k).map (appT bs) ++ [appT bs l[k]] := by
  rw [List.take_succ_eq_append_getElem h, List.map_append]; rfl
/-- What a call of Apply leaves. -/
def ApPost (u : Tm) (w0 w : World) (e : Ending) (w' : World) : Prop := ∃ z : Tv, e = .returned z.val ∧ z.t = u ∧ Fresh w0 w w' z ∧ Below w.heap.size w w'
end Go.Proofs.Ytcecbdglepneaaa
