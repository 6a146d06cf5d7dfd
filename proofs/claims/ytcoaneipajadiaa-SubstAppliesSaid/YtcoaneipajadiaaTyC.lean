/-
  What the library's functions over rows of binds ask of a program besides: the types of their predicates, and the zero bind.
-/
import Derived.Test.YtcoaneipajadiaaSetK
import Derived.Test.YtcoaneipajadiaaCompB
namespace Go.Proofs.Ytcoaneipajadiaa
open Go.RowKit Go.Shelf Go.Lib Go.Sort

structure TyC (P : Program) (k : Nat) : Prop extends TyB P k where
  t55 : P.underlying 55 = some (TypeDesc.func #[50, 50] #[4] false)
  a55 : ∀ w, (isAgg 55).run P w = .ok false w
  z55 : ∀ w, (Go.sizeOf 55).run P w = .ok 1 w
  v55 : ∀ w, (zeroValue 55).run P w = .ok (Value.nilFunc) w
  t61 : P.underlying 61 = some (TypeDesc.func #[50] #[4] false)
  a61 : ∀ w, (isAgg 61).run P w = .ok false w
  z61 : ∀ w, (Go.sizeOf 61).run P w = .ok 1 w
  v61 : ∀ w, (zeroValue 61).run P w = .ok (Value.nilFunc) w
theorem tyC : TyC Try.prog 5 where
  toTyB := tyB
  t55 := by kernel_rfl
  a55 := fun _ => by kernel_rfl
  z55 := fun _ => by kernel_rfl
  v55 := fun _ => by kernel_rfl
  t61 := by kernel_rfl
  a61 := fun _ => by kernel_rfl
  z61 := fun _ => by kernel_rfl
  v61 := fun _ => by kernel_rfl
/-- What is asked of a test on one bind, on two: in whatever world of the row's; it may lay blocks. -/
def PredLays {α : Type} [Inhabited α] (P : Program) (g : Nat) (cb : Array Value) (enc : α → List Value) (k : Nat) (pf : α → Bool) (blk off size : Nat) (w : World) : Prop :=
  ∀ (m : Nat) (os : Array Obj) (dk : Array α), dk.size = size → ∀ x : α,
    Calls P g (#[.agg (enc x).toArray] ++ cb) (sortWorldK enc k w blk off m dk os) fun e w' => e = .returned (.bool (pf x)) ∧ ∃ q os', w' = grow ((sortWorldK enc k w blk off m dk os).drewN q) os'
def EqLays {α : Type} [Inhabited α] (P : Program) (g : Nat) (cb : Array Value) (enc : α → List Value) (k : Nat) (ef : α → α → Bool) (blk off size : Nat) (w : World) : Prop :=
  ∀ (m : Nat) (os : Array Obj) (dk : Array α), dk.size = size → ∀ x y : α,
    Calls P g (#[.agg (enc x).toArray, .agg (enc y).toArray] ++ cb) (sortWorldK enc k w blk off m dk os) fun e w' => e = .returned (.bool (ef x y)) ∧ ∃ q os', w' = grow ((sortWorldK enc k w blk off m dk os).drewN q) os'
theorem swk_pred {α : Type} [Inhabited α] {P : Program} {k : Nat} {enc : α → List Value} {w0 W : World} {blk off : Nat} {dk : Array α} {g : Nat} {cb : Array Value} {pf : α → Bool} {size : Nat} (h : SWK enc k w0 blk off dk W) (hC : PredLays P g cb enc k pf blk off size w0) (hs : dk.size = size) (x : α) :
    Calls P g (#[.agg (enc x).toArray] ++ cb) W fun e w' => e = .returned (.bool (pf x)) ∧ ∃ q os', w' = grow (W.drewN q) os' := by
  obtain ⟨m, os0, hw⟩ := h
  rw [hw]
  exact hC m os0 dk hs x
theorem swk_eq2 {α : Type} [Inhabited α] {P : Program} {k : Nat} {enc : α → List Value} {w0 W : World} {blk off : Nat} {dk : Array α} {g : Nat} {cb : Array Value} {ef : α → α → Bool} {size : Nat} (h : SWK enc k w0 blk off dk W) (hC : EqLays P g cb enc k ef blk off size w0) (hs : dk.size = size) (x y : α) (n : Nat) (os : Array Obj) :
    Calls P g (#[.agg (enc x).toArray, .agg (enc y).toArray] ++ cb) (grow (W.drewN n) os) fun e w' => e = .returned (.bool (ef x y)) ∧ ∃ q os', w' = grow ((grow (W.drewN n) os).drewN q) os' := by
  obtain ⟨m, os0, hw⟩ := h.grown n os
  rw [hw]
  exact hC m os0 dk hs x y
end Go.Proofs.Ytcoaneipajadiaa
