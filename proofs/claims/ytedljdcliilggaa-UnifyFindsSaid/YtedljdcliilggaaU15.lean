/-
  Patterns and terms that are left, in a pile; binds as they are found, unsorted; and a table of where each name's bind is. No function of the program.
  What is known of variables, in memory: a box of two cells that leads to a row of binds, in the order in which they are found, and to a table of their places. No function of the program.
-/
import Derived.Test.YtedljdcliilggaaU07
import Derived.Test.YtedljdcliilggaaU05
import Derived.Maps.OwnSet
namespace Go.Proofs.Ytedljdcliilggaa
open Go.RowKit

theorem moreT_congr {l l' : List Bn} (h : ∀ s, getB l s = getB l' s) (p t : Tm) : moreT p t l = moreT p t l' := by
  rw [moreT_eq, moreT_eq, h, ofB_congr h]
  rw [show ofB ((p.name, t) :: l) = ofB ((p.name, t) :: l') from ofB_congr fun s => by
    by_cases e : p.name = s
    · rw [getB_hit _ _ e, getB_hit _ _ e]
    · rw [getB_miss _ _ e, getB_miss _ _ e, h]]
theorem moreL_congr {l l' : List Bn} (h : ∀ s, getB l s = getB l' s) : ∀ ps ts : List Tm, moreL ps ts l = moreL ps ts l'
  | [], [] => by rw [moreL_nil, moreL_nil, ofB_congr h]
  | [], _ :: _ => by rw [moreL, moreL]
  | _ :: _, [] => by rw [moreL, moreL]
  | p :: ps, t :: ts => by rw [moreL_cons, moreL_cons, moreT_congr h]
theorem moreL_of (ps ts : List Tm) (l : List Bn) : moreL ps ts (ofB l) = moreL ps ts l := moreL_congr (fun s => ofB_get l s) ps ts

/-- Patterns that are left, and their terms. -/
abbrev Lf := List Tm × List Tm
/-- What is found for a pile, the top first. -/
noncomputable def moreS : List Lf → List Bn → Option (List Bn)
  | [], l => some (ofB l)
  | r :: st, l => (moreL r.1 r.2 l).bind fun m => moreS st m
theorem moreS_nil (l : List Bn) : moreS [] l = some (ofB l) := rfl
theorem moreS_cons (r : Lf) (st : List Lf) (l : List Bn) : moreS (r :: st) l = (moreL r.1 r.2 l).bind fun m => moreS st m := rfl
theorem moreS_congr {l l' : List Bn} (h : ∀ s, getB l s = getB l' s) : ∀ st : List Lf, moreS st l = moreS st l'
  | [] => by rw [moreS_nil, moreS_nil, ofB_congr h]
  | r :: st => by rw [moreS_cons, moreS_cons, moreL_congr h]
theorem moreS_of (st : List Lf) (l : List Bn) : moreS st (ofB l) = moreS st l := moreS_congr (fun s => ofB_get l s) st
theorem moreS_one (ps ts : List Tm) (l : List Bn) : moreS [(ps, ts)] l = moreL ps ts l := by
  rw [moreS_cons]
  cases hm : moreL ps ts l with
  | none => rfl
  | some m => show moreS [] m = some m; rw [moreS_nil, moreL_rise hm]
theorem moreS_pop (st : List Lf) (l : List Bn) : moreS (([], []) :: st) l = moreS st l := by
  rw [moreS_cons, moreL_nil]
  exact moreS_of st l
theorem moreS_step (p t : Tm) (ps ts : List Tm) (st : List Lf) (l : List Bn) : moreS ((p :: ps, t :: ts) :: st) l = (moreT p t l).bind fun m => moreS ((ps, ts) :: st) m := by
  rw [moreS_cons, moreL_cons]
  cases moreT p t l <;> rfl
theorem moreS_new {p t : Tm} {ps ts : List Tm} {st : List Lf} {l : List Bn} (hk : p.kind = 1) (hg : getB l p.name = none) : moreS ((p :: ps, t :: ts) :: st) l = moreS ((ps, ts) :: st) (l ++ [(p.name, t)]) := by
  rw [moreS_step, moreT_eq, if_pos hk, hg]
  show moreS ((ps, ts) :: st) (ofB ((p.name, t) :: l)) = _
  rw [moreS_of]
  refine moreS_congr (fun s => ?_) _
  rw [getB_append]
  by_cases e : p.name = s
  · subst e
    rw [getB_hit (p.name, t) l rfl, hg, getB_hit (p.name, t) [] rfl]; rfl
  · rw [getB_miss (p.name, t) l e, getB_miss (p.name, t) [] e, getB_nil]
    cases getB l s <;> rfl
theorem moreS_old {p t u : Tm} {ps ts : List Tm} {st : List Lf} {l : List Bn} (hk : p.kind = 1) (hg : getB l p.name = some u) (he : eqT u t = true) : moreS ((p :: ps, t :: ts) :: st) l = moreS ((ps, ts) :: st) l := by
  rw [moreS_step, moreT_eq, if_pos hk, hg]
  simp only
  rw [if_pos he]
  exact moreS_of _ _
theorem moreS_not {p t u : Tm} {ps ts : List Tm} {st : List Lf} {l : List Bn} (hk : p.kind = 1) (hg : getB l p.name = some u) (he : eqT u t = false) : moreS ((p :: ps, t :: ts) :: st) l = none := by
  rw [moreS_step, moreT_eq, if_pos hk, hg]
  simp only
  rw [if_neg (by rw [he]; simp)]
  rfl
/-- Whether two terms are alike but for what their arguments are. -/
def alikeB (p t : Tm) : Bool := headB p t && decide (p.args.length = t.args.length)
theorem moreS_fun {p t : Tm} {ps ts : List Tm} {st : List Lf} {l : List Bn} (hk : ¬ p.kind = 1) (ha : alikeB p t = true) : moreS ((p :: ps, t :: ts) :: st) l = moreS ((p.args, t.args) :: (ps, ts) :: st) l := by
  unfold alikeB at ha
  rw [Bool.and_eq_true] at ha
  rw [moreS_step, moreT_eq, if_neg hk, if_pos ha.1, moreL_of, moreS_cons]
theorem moreS_far {p t : Tm} {ps ts : List Tm} {st : List Lf} {l : List Bn} (hk : ¬ p.kind = 1) (ha : alikeB p t = false) : moreS ((p :: ps, t :: ts) :: st) l = none := by
  rw [moreS_step, moreT_eq, if_neg hk]
  cases h : headB p t with
  | false => rfl
  | true =>
    unfold alikeB at ha
    rw [h, Bool.true_and, decide_eq_false_iff_not] at ha
    rw [if_pos rfl, moreL_short ha]
    rfl
/-- What is left to do of a pile. -/
def leftS : List Lf → Nat
  | [] => 0
  | r :: st => 1 + 2 * partsL r.1 + leftS st
theorem leftS_cons (r : Lf) (st : List Lf) : leftS (r :: st) = 1 + 2 * partsL r.1 + leftS st := rfl
theorem leftS_step (p : Tm) (ps a b : List Tm) (st : List Lf) : leftS ((ps, a) :: st) < leftS ((p :: ps, b) :: st) := by
  rw [leftS_cons, leftS_cons, partsL_cons]; have := parts_pos p; simp only; omega
theorem leftS_fun (p : Tm) (ps a b c : List Tm) (st : List Lf) : leftS ((p.args, a) :: (ps, b) :: st) < leftS ((p :: ps, c) :: st) := by
  rw [leftS_cons, leftS_cons, leftS_cons, partsL_cons, parts_eq]; simp only; omega
end Go.Proofs.Ytedljdcliilggaa

namespace Go.Proofs.Ytedljdcliilggaa
open Go.RowKit Go.Maps

/-- A name as a key. -/
def keyL (s : ByteArray) : Lit := .string s.data.toList
theorem keyL_ne {s z : ByteArray} (h : s ≠ z) : keyL s ≠ keyL z := fun e => h (by
  unfold keyL at e
  injection e with e
  cases s; cases z
  simp only at e
  congr 1
  exact Array.toList_inj.1 e)
theorem keyL_is (s : ByteArray) : WideAt.IsKeyLit (keyL s) := by unfold keyL; trivial
theorem law_name : Keyed Try.prog 9 := string_keyed Try.underlying9
theorem zero_int (w : World) : (zeroValue 3).run Try.prog w = .ok (.int .i64 0) w := by kernel_rfl
/-- A table has each name's place. -/
def NameIdx (D : DataW Unit) (l : List Bn) : Prop := IsMap D ∧ ∀ s : ByteArray, (has D (keyL s) = true → ∃ (i : Nat) (x : Bn), l[i]? = some x ∧ getB l s = some x.2 ∧ D.atKey (keyL s) (.lit (.int .i64 0)) = .lit (.int .i64 i)) ∧ (has D (keyL s) = false → getB l s = none)
theorem nameIdx_none : NameIdx (.map []) [] := ⟨isMap_empty, fun s => ⟨fun h => by simp [has] at h, fun _ => rfl⟩⟩
theorem NameIdx.snoc {D : DataW Unit} {l : List Bn} (h : NameIdx D l) {s : ByteArray} (t : Tm) (hs : getB l s = none) : NameIdx (D.put (keyL s) (.lit (.int .i64 l.length))) (l ++ [(s, t)]) := by
  refine ⟨h.1.put _ _, fun z => ?_⟩
  by_cases e : s = z
  · subst e
    refine ⟨fun _ => ⟨l.length, (s, t), by simp, ?_, atKey_put_same h.1 (keyL_is s) _ _⟩, fun hf => ?_⟩
    · rw [getB_append, hs, getB_hit (s, t) [] rfl]; rfl
    · rw [has_put_same h.1 (keyL_is s)] at hf; cases hf
  · have hne : keyL z ≠ keyL s := keyL_ne (fun e' => e e'.symm)
    have hg : getB (l ++ [(s, t)]) z = getB l z := by
      rw [getB_append, getB_miss (s, t) [] e, getB_nil]; cases getB l z <;> rfl
    rw [has_put_other hne, atKey_put_other hne, hg]
    refine ⟨fun hh => ?_, (h.2 z).2⟩
    obtain ⟨i, x, h1, h2, h3⟩ := (h.2 z).1 hh
    exact ⟨i, x, by rw [List.getElem?_append_left (List.getElem?_eq_some_iff.1 h1).1]; exact h1, h2, h3⟩

/-- What is known, from block n0 on: the box kb, the table bm. -/
structure KnAt (w0 W : World) (n0 kb bm : Nat) (l : List Bn) : Prop where
  lek : n0 ≤ kb
  lem : n0 ≤ bm
  row : ∃ v, W.heap[kb]? = some (.cells #[v, .map (some bm)] 79 (0, 0)) ∧ OwnBv w0 W n0 v l
  table : ∃ D, W.ownsMap Try.prog 9 (plainElem Try.prog 3) bm l.length D ∧ NameIdx D l
theorem OwnBv.kept {w0 w w' : World} {base : Nat} {v : Value} {bs : List Bn} {row : Option Nat} (h : OwnBv w0 w base v bs) (hg : w.grownBy w' row) (hne : ∀ g c, row = some g → w.heap[g]? ≠ some (.cells c 41 (0, 0))) : OwnBv w0 w' base v bs := by
  obtain ⟨vs, h1, h2, h3⟩ := h
  refine ⟨vs, h1, h2, h3.kept hg ?_⟩
  obtain ⟨_, ⟨rfl, _⟩ | ⟨g, cap, cur, rfl, _, hgb, _⟩⟩ := h3
  · exact .inl rfl
  · exact .inr fun e => hne g cur e.symm hgb
/-- It stays, where no more is written than a row of patterns and terms that are left. -/
theorem KnAt.kept {w0 w w' : World} {n0 kb bm : Nat} {l : List Bn} {row : Option Nat} (h : KnAt w0 w n0 kb bm l) (hg : w.grownBy w' row) (hr : ∀ g, row = some g → ∃ c, w.heap[g]? = some (.cells c 96 (0, 0))) : KnAt w0 w' n0 kb bm l := by
  obtain ⟨h1, h2, ⟨v, h3, h4⟩, ⟨D, h5, h6⟩⟩ := h
  refine ⟨h1, h2, ⟨v, ?_, h4.kept hg fun g c e hc => ?_⟩, ⟨D, h5.kept hg fun e => ?_, h6⟩⟩
  · rw [hg.block kb (Array.getElem?_eq_some_iff.1 h3).1 fun e => ?_]
    · exact h3
    · obtain ⟨c, hc⟩ := hr kb e.symm
      rw [h3] at hc
      simp at hc
  · obtain ⟨c', hc'⟩ := hr g e
    rw [hc] at hc'
    simp at hc'
  · obtain ⟨c, hc⟩ := hr bm e.symm
    obtain ⟨es, clock, hb, _⟩ := h5
    rw [hb] at hc
    cases hc
theorem grownBy_below {w w' : World} (h : Below w.heap.size w w') : w.grownBy w' none := ⟨h.os, h.tape, h.output, h.size, fun k hk _ => h.block k hk⟩
theorem KnAt.below {w0 w w' : World} {n0 kb bm : Nat} {l : List Bn} (h : KnAt w0 w n0 kb bm l) (hb : Below w.heap.size w w') : KnAt w0 w' n0 kb bm l := h.kept (grownBy_below hb) (fun g e => by cases e)
/-- Rows of patterns and terms that are left stay as they were. -/
def KeepR (w w' : World) : Prop := ∀ (k : Nat) (c : Array Value), w.heap[k]? = some (Obj.cells c 96 (0, 0)) → w'.heap[k]? = some (Obj.cells c 96 (0, 0))
theorem KeepR.refl (w : World) : KeepR w w := fun _ _ h => h
theorem KeepR.trans {a b c : World} (h : KeepR a b) (k : KeepR b c) : KeepR a c := fun i x hx => k i x (h i x hx)
theorem KeepR.below {w w' : World} (h : Below w.heap.size w w') : KeepR w w' := fun k c hk => by rw [h.block k (Array.getElem?_eq_some_iff.1 hk).1]; exact hk
theorem KeepR.grown {w w' : World} {row : Option Nat} (h : w.grownBy w' row) (hr : ∀ g c, row = some g → w.heap[g]? ≠ some (.cells c 96 (0, 0))) : KeepR w w' := fun k c hk => by
  rw [h.block k (Array.getElem?_eq_some_iff.1 hk).1 (fun e => hr k c e.symm hk)]; exact hk
end Go.Proofs.Ytedljdcliilggaa
