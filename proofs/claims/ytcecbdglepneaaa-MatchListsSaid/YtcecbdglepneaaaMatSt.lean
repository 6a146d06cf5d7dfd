/-
  Patterns and terms that are left, in a pile; binds as they are found, unsorted; and a table of where each name's bind is. No function of the program.
-/
import Derived.Test.YtcecbdglepneaaaMatPu
namespace Go.Proofs.Ytcecbdglepneaaa
open Go.RowKit

theorem moreT_congr {l l' : List Bn} (h : ∀ s, getB l s = getB l' s) (p t : Tm) : moreT p t l = moreT p t l' := by
  rw [moreT_eq, moreT_eq, h, ofB_congr h]
  rw [show ofB ((p.name, t) :: l) = ofB ((p.name, t) :: l') from ofB_congr fun s => by
    by_cases e : p.name = s
    · rw [getB_hit _ _ e, getB_hit _ _ e]
    · rw [getB_miss _ _ e, getB_miss _ _ e, h]]
theorem moreL_congr {l l' : List Bn} (h : ∀ s, getB l s = getB l' s) : ∀ ps ts : List Tm, moreL ps ts l = moreL ps ts l'
  | [], [] => by rw [moreL_nil, moreL_nil, ofB_congr h]
  | [], _ :: _ => by rw [moreL, moreL]
  | _ :: _, [] => by rw [moreL, moreL]
  | p :: ps, t :: ts => by rw [moreL_cons, moreL_cons, moreT_congr h]
theorem moreL_of (ps ts : List Tm) (l : List Bn) : moreL ps ts (ofB l) = moreL ps ts l := moreL_congr (fun s => ofB_get l s) ps ts

/-- Patterns that are left, and their terms. -/
abbrev Lf := List Tm × List Tm
/-- What is found for a pile, the top first. -/
noncomputable def moreS : List Lf → List Bn → Option (List Bn)
  | [], l => some (ofB l)
  | r :: st, l => (moreL r.1 r.2 l).bind fun m => moreS st m
theorem moreS_nil (l : List Bn) : moreS [] l = some (ofB l) := rfl
theorem moreS_cons (r : Lf) (st : List Lf) (l : List Bn) : moreS (r :: st) l = (moreL r.1 r.2 l).bind fun m => moreS st m := rfl
theorem moreS_congr {l l' : List Bn} (h : ∀ s, getB l s = getB l' s) : ∀ st : List Lf, moreS st l = moreS st l'
  | [] => by rw [moreS_nil, moreS_nil, ofB_congr h]
  | r :: st => by rw [moreS_cons, moreS_cons, moreL_congr h]
theorem moreS_of (st : List Lf) (l : List Bn) : moreS st (ofB l) = moreS st l := moreS_congr (fun s => ofB_get l s) st
theorem moreS_one (ps ts : List Tm) (l : List Bn) : moreS [(ps, ts)] l = moreL ps ts l := by
  rw [moreS_cons]
  cases hm : moreL ps ts l with
  | none => rfl
  | some m => show moreS [] m = some m; rw [moreS_nil, moreL_rise hm]
theorem moreS_pop (st : List Lf) (l : List Bn) : moreS (([], []) :: st) l = moreS st l := by
  rw [moreS_cons, moreL_nil]
  exact moreS_of st l
theorem moreS_step (p t : Tm) (ps ts : List Tm) (st : List Lf) (l : List Bn) : moreS ((p :: ps, t :: ts) :: st) l = (moreT p t l).bind fun m => moreS ((ps, ts) :: st) m := by
  rw [moreS_cons, moreL_cons]
  cases moreT p t l <;> rfl
theorem moreS_new {p t : Tm} {ps ts : List Tm} {st : List Lf} {l : List Bn} (hk : p.kind = 1) (hg : getB l p.name = none) : moreS ((p :: ps, t :: ts) :: st) l = moreS ((ps, ts) :: st) (l ++ [(p.name, t)]) := by
  rw [moreS_step, moreT_eq, if_pos hk, hg]
  show moreS ((ps, ts) :: st) (ofB ((p.name, t) :: l)) = _
  rw [moreS_of]
  refine moreS_congr (fun s => ?_) _
  rw [getB_append]
  by_cases e : p.name = s
  · subst e
    rw [getB_hit (p.name, t) l rfl, hg, getB_hit (p.name, t) [] rfl]; rfl
  · rw [getB_miss (p.name, t) l e, getB_miss (p.name, t) [] e, getB_nil]
    cases getB l s <;> rfl
theorem moreS_old {p t u : Tm} {ps ts : List Tm} {st : List Lf} {l : List Bn} (hk : p.kind = 1) (hg : getB l p.name = some u) (he : eqT u t = true) : moreS ((p :: ps, t :: ts) :: st) l = moreS ((ps, ts) :: st) l := by
  rw [moreS_step, moreT_eq, if_pos hk, hg]
  simp only
  rw [if_pos he]
  exact moreS_of _ _
theorem moreS_not {p t u : Tm} {ps ts : List Tm} {st : List Lf} {l : List Bn} (hk : p.kind = 1) (hg : getB l p.name = some u) (he : eqT u t = false) : moreS ((p :: ps, t :: ts) :: st) l = none := by
  rw [moreS_step, moreT_eq, if_pos hk, hg]
  simp only
  rw [if_neg (by rw [he]; simp)]
  rfl
/-- Whether two terms are alike but for what their arguments are. -/
def alikeB (p t : Tm) : Bool := headB p t && decide (p.args.length = t.args.length)
theorem moreS_fun {p t : Tm} {ps ts : List Tm} {st : List Lf} {l : List Bn} (hk : ¬ p.kind = 1) (ha : alikeB p t = true) : moreS ((p :: ps, t :: ts) :: st) l = moreS ((p.args, t.args) :: (ps, ts) :: st) l := by
  unfold alikeB at ha
  rw [Bool.and_eq_true] at ha
  rw [moreS_step, moreT_eq, if_neg hk, if_pos ha.1, moreL_of, moreS_cons]
theorem moreS_far {p t : Tm} {ps ts : List Tm} {st : List Lf} {l : List Bn} (hk : ¬ p.kind = 1) (ha : alikeB p t = false) : moreS ((p :: ps, t :: ts) :: st) l = none := by
  rw [moreS_step, moreT_eq, if_neg hk]
  cases h : headB p t with
  | false => rfl
  | true =>
    unfold alikeB at ha
    rw [h, Bool.true_and, decide_eq_false_iff_not] at ha
    rw [if_pos rfl, moreL_short ha]
    rfl
/-- What is left to do of a pile. -/
def leftS : List Lf → Nat
  | [] => 0
  | r :: st => 1 + 2 * partsL r.1 + leftS st
theorem leftS_cons (r : Lf) (st : List Lf) : leftS (r :: st) = 1 + 2 * partsL r.1 + leftS st := rfl
theorem leftS_step (p : Tm) (ps a b : List Tm) (st : List Lf) : leftS ((ps, a) :: st) < leftS ((p :: ps, b) :: st) := by
  rw [leftS_cons, leftS_cons, partsL_cons]; have := parts_pos p; simp only; omega
theorem leftS_fun (p : Tm) (ps a b c : List Tm) (st : List Lf) : leftS ((p.args, a) :: (ps, b) :: st) < leftS ((p :: ps, c) :: st) := by
  rw [leftS_cons, leftS_cons, leftS_cons, partsL_cons, parts_eq]; simp only; omega
end Go.Proofs.Ytcecbdglepneaaa
