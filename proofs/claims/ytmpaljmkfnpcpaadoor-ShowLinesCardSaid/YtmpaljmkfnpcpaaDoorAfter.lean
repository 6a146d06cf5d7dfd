/-
  A drawn region whose operations read and whose callees make new memory alone, walked once in the order of the text: Quiet's theorem at the class of the worlds that lie behind a given one. No function of the program.
-/
import Derived.Test.YtmpaljmkfnpcpaaDoorBase
import Derived.Deep.QuietTactic
namespace Go.Proofs.YtmpaljmkfnpcpaaDoor
open Go.RowKit

/-- A world that lies behind wb: what wb holds stands in it as it was. -/
structure After (wb : World) where
  w : World
  below : Below wb.heap.size wb w
instance (wb : World) : Inhabited (After wb) := ⟨⟨wb, Below.refl _ _⟩⟩
theorem wp_region_after {P : Program} {id : Nat} {Q : Exit → Act → World → Prop} {a : Act} {wb w : World} {l : List Oper} (hb : Below wb.heap.size wb w) (hm : P.follows .mixedOrders = true) (hB : Region.lexB .any l.toArray = true)
    (h : wpQuiet P l.toArray (fun w' => ∃ p : After wb, w' = p.w) (fun a' => ∀ w', (∃ p : After wb, w' = p.w) → Q .normal a' w') l a) : (Code.region id l.toArray true).wp P Q a w :=
  wp_region_quiet (C := fun w' => ∃ p : After wb, w' = p.w) hm hB ⟨⟨w.drew, hb.drew⟩, rfl⟩ (by simpa using h)
theorem after_call {P : Program} {f : FuncId} {args : Array Value} {wb : World} {p : After wb} {v : Value} (h : Calls P f args p.w fun e w' => e = .returned v ∧ Below p.w.heap.size p.w w') :
    Calls P f args p.w fun e w'' => e = .returned v ∧ ∃ q : After wb, w'' = q.w :=
  h.mono fun _ w' ⟨he, hb⟩ => ⟨he, ⟨⟨w', below_next p.below hb⟩, rfl⟩⟩
end Go.Proofs.YtmpaljmkfnpcpaaDoor
