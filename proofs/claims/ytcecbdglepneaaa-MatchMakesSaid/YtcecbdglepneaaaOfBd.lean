/-
  Binds in the order of their names, of each name the first one: as data. What tells two such rows to be one. No function of the program.
-/
import Derived.Test.YtcecbdglepneaaaBds
import Derived.Test.YtcecbdglepneaaaOrderTm
import Derived.Test.YtcecbdglepneaaaStrs
namespace Go.Proofs.Ytcecbdglepneaaa
open Go.RowKit

def ltN (s t : ByteArray) : Bool := Op.bytesLess s.toList t.toList
theorem ltN_irr (s : ByteArray) : ltN s s = false := bl_irr _
theorem ltN_trans {s t u : ByteArray} (h : ltN s t = true) (k : ltN t u = true) : ltN s u = true := bl_trans h k
theorem ltN_tot {s t : ByteArray} (h : ltN s t = false) (hn : s ≠ t) : ltN t s = true := bl_tot h (fun e => hn ((Lib.bytes_beq_iff _ _).1 (by rw [e]; simp)))
theorem ltN_ne {s t : ByteArray} (h : ltN s t = true) : s ≠ t := fun e => by rw [e, ltN_irr] at h; cases h
theorem beq_name {s t : ByteArray} : (s.toList == t.toList) = true ↔ s = t := Lib.bytes_beq_iff _ _
theorem getB_hit (x : Bn) (l : List Bn) {s : ByteArray} (h : x.1 = s) : getB (x :: l) s = some x.2 := by
  unfold getB; rw [List.find?_cons, beq_name.2 h]; rfl
theorem getB_miss (x : Bn) (l : List Bn) {s : ByteArray} (h : x.1 ≠ s) : getB (x :: l) s = getB l s := by
  unfold getB
  rw [List.find?_cons]
  cases e : (x.1.toList == s.toList) with
  | true => exact absurd (beq_name.1 e) h
  | false => rfl
theorem getB_none {l : List Bn} {s : ByteArray} (h : ∀ x ∈ l, x.1 ≠ s) : getB l s = none := by
  induction l with
  | nil => rfl
  | cons x r ih => rw [getB_miss x r (h x (by simp)), ih fun y hy => h y (by simp [hy])]
theorem getB_append (l m : List Bn) (s : ByteArray) : getB (l ++ m) s = (getB l s).or (getB m s) := by
  induction l with
  | nil => rfl
  | cons x r ih =>
    by_cases h : x.1 = s
    · rw [List.cons_append, getB_hit x _ h, getB_hit x _ h]; rfl
    · rw [List.cons_append, getB_miss x _ h, getB_miss x _ h, ih]
theorem getB_isSome {l : List Bn} {s : ByteArray} : (getB l s).isSome = true ↔ ∃ x ∈ l, x.1 = s := by
  induction l with
  | nil => simp [getB_nil]
  | cons x r ih =>
    by_cases h : x.1 = s
    · rw [getB_hit x r h]; simp [h]
    · rw [getB_miss x r h, ih]; simp [h]
/-- Names rise, each once. -/
def Rising (l : List Bn) : Prop := l.Pairwise fun x y => ltN x.1 y.1 = true
theorem rising_one : ∀ {l m : List Bn}, Rising l → Rising m → (∀ s, getB l s = getB m s) → l = m
  | [], [], _, _, _ => rfl
  | [], y :: m, _, _, h => by have := h y.1; rw [getB_hit y m rfl, getB_nil] at this; cases this
  | x :: l, [], _, _, h => by have := h x.1; rw [getB_hit x l rfl, getB_nil] at this; cases this
  | x :: l, y :: m, hl, hm, h => by
    unfold Rising at hl hm
    rw [List.pairwise_cons] at hl hm
    have hn : x.1 = y.1 := by
      cases h1 : ltN x.1 y.1 with
      | true =>
        have := h x.1
        rw [getB_hit x l rfl, getB_miss y m (fun e => ltN_ne h1 e.symm), getB_none fun z hz e => by
          have := ltN_trans h1 (hm.1 z hz)
          rw [e, ltN_irr] at this; cases this] at this
        cases this
      | false =>
        by_cases e : x.1 = y.1
        · exact e
        · have h2 := ltN_tot h1 e
          have := h y.1
          rw [getB_hit y m rfl, getB_miss x l e, getB_none fun z hz e' => by
            have := ltN_trans h2 (hl.1 z hz)
            rw [e', ltN_irr] at this; cases this] at this
          cases this
    have h0 := h x.1
    rw [getB_hit x l rfl, getB_hit y m hn.symm] at h0
    have hx : x = y := Prod.ext hn (Option.some.inj h0)
    subst hx
    congr 1
    refine rising_one hl.2 hm.2 fun s => ?_
    by_cases e : x.1 = s
    · rw [getB_none fun z hz e' => ltN_ne (hl.1 z hz) (e.trans e'.symm), getB_none fun z hz e' => ltN_ne (hm.1 z hz) (e.trans e'.symm)]
    · have := h s
      rwa [getB_miss x l e, getB_miss x m e] at this

/-! ### Names, each once, in their order -/
/-- A name put into its place. -/
def insW : List ByteArray → ByteArray → List ByteArray
  | [], s => [s]
  | x :: l, s => if ltN x s = true then x :: insW l s else s :: x :: l
def insN (acc : List ByteArray) (s : ByteArray) : List ByteArray := if Lib.containsS acc s = true then acc else insW acc s
def namesB (l : List Bn) : List ByteArray := l.foldl (fun acc x => insN acc x.1) []
def RiseN (l : List ByteArray) : Prop := l.Pairwise fun x y => ltN x y = true
theorem mem_insW (s y : ByteArray) : ∀ l : List ByteArray, y ∈ insW l s ↔ y = s ∨ y ∈ l
  | [] => by simp [insW]
  | x :: l => by
    rw [insW]
    split
    · rw [List.mem_cons, mem_insW s y l, List.mem_cons]
      constructor
      · rintro (h | h | h) <;> simp [h]
      · rintro (h | h | h) <;> simp [h]
    · simp
theorem contains_iff {l : List ByteArray} {s : ByteArray} : Lib.containsS l s = true ↔ s ∈ l := Lib.containsS_iff l s
theorem mem_insN (s y : ByteArray) (l : List ByteArray) : y ∈ insN l s ↔ y = s ∨ y ∈ l := by
  unfold insN
  split
  · next h => rw [contains_iff] at h; constructor
              · exact .inr
              · rintro (rfl | h'); exact h; exact h'
  · exact mem_insW s y l
theorem rise_insW (s : ByteArray) : ∀ {l : List ByteArray}, RiseN l → s ∉ l → RiseN (insW l s)
  | [], _, _ => by simp [insW, RiseN]
  | x :: l, h, hn => by
    unfold RiseN at h
    rw [List.pairwise_cons] at h
    rw [insW]
    have hsx : x ≠ s := fun e => hn (by simp [e])
    have hsl : s ∉ l := fun e => hn (by simp [e])
    split
    · next hx =>
      refine List.pairwise_cons.2 ⟨fun y hy => ?_, rise_insW s h.2 hsl⟩
      rcases (mem_insW s y l).1 hy with rfl | hy
      · exact hx
      · exact h.1 y hy
    · next hx =>
      have hx' : ltN x s = false := by simpa using hx
      have h2 := ltN_tot hx' hsx
      refine List.pairwise_cons.2 ⟨fun y hy => ?_, List.pairwise_cons.2 h⟩
      rcases List.mem_cons.1 hy with rfl | hy
      · exact h2
      · exact ltN_trans h2 (h.1 y hy)
theorem rise_insN (s : ByteArray) {l : List ByteArray} (h : RiseN l) : RiseN (insN l s) := by
  unfold insN
  split
  · exact h
  · next hc => exact rise_insW s h (fun e => hc (contains_iff.2 e))
theorem names_fold : ∀ (l : List Bn) (acc : List ByteArray), RiseN acc → RiseN (l.foldl (fun acc x => insN acc x.1) acc) ∧ ∀ y, y ∈ l.foldl (fun acc x => insN acc x.1) acc ↔ y ∈ acc ∨ ∃ x ∈ l, x.1 = y
  | [], acc, h => ⟨h, fun y => by simp⟩
  | x :: l, acc, h => by
    obtain ⟨h1, h2⟩ := names_fold l (insN acc x.1) (rise_insN x.1 h)
    refine ⟨h1, fun y => ?_⟩
    rw [List.foldl_cons, h2, mem_insN]
    constructor
    · rintro ((rfl | h) | ⟨z, hz, rfl⟩)
      · exact .inr ⟨x, by simp, rfl⟩
      · exact .inl h
      · exact .inr ⟨z, by simp [hz], rfl⟩
    · rintro (h | ⟨z, hz, rfl⟩)
      · exact .inl (.inr h)
      · rcases List.mem_cons.1 hz with rfl | hz
        · exact .inl (.inl rfl)
        · exact .inr ⟨z, hz, rfl⟩
theorem namesB_rise (l : List Bn) : RiseN (namesB l) := (names_fold l [] List.Pairwise.nil).1
theorem mem_namesB {l : List Bn} {y : ByteArray} : y ∈ namesB l ↔ ∃ x ∈ l, x.1 = y := by unfold namesB; rw [(names_fold l [] List.Pairwise.nil).2]; simp
theorem namesB_succ {l : List Bn} {k : Nat} {x : Bn} (h : l[k]? = some x) : namesB (l.take (k + 1)) = insN (namesB (l.take k)) x.1 := by
  obtain ⟨hk, rfl⟩ := List.getElem?_eq_some_iff.1 h
  unfold namesB
  rw [List.take_succ_eq_append_getElem hk, List.foldl_append]; rfl
/-- A row of binds, made of names and what each stands for. -/
def rowOfN (f : ByteArray → Tm) (ns : List ByteArray) : List Bn := ns.map fun n => (n, f n)
theorem rising_rowOfN {f : ByteArray → Tm} {ns : List ByteArray} (h : RiseN ns) : Rising (rowOfN f ns) := by
  unfold Rising rowOfN; rw [List.pairwise_map]; exact h
theorem getB_rowOfN (f : ByteArray → Tm) (ns : List ByteArray) (s : ByteArray) : getB (rowOfN f ns) s = if Lib.containsS ns s = true then some (f s) else none := by
  induction ns with
  | nil => rfl
  | cons n r ih =>
    unfold rowOfN at ih ⊢
    rw [List.map_cons]
    by_cases h : n = s
    · rw [getB_hit _ _ h, if_pos (contains_iff.2 (by simp [h])), ← h]
    · rw [getB_miss _ _ h, ih]
      have : Lib.containsS r s = Lib.containsS (n :: r) s := by
        rw [Bool.eq_iff_iff, contains_iff, contains_iff, List.mem_cons]
        constructor
        · exact .inr
        · rintro (e | e); exact absurd e.symm h; exact e
      rw [this]
/-- Binds in order, of each name the first. -/
def ofB (l : List Bn) : List Bn := rowOfN (fun n => (getB l n).getD (.mk 0 ⟨#[]⟩ 0 [])) (namesB l)
theorem ofB_rising (l : List Bn) : Rising (ofB l) := rising_rowOfN (namesB_rise l)
theorem ofB_get (l : List Bn) (s : ByteArray) : getB (ofB l) s = getB l s := by
  unfold ofB
  rw [getB_rowOfN]
  cases h : getB l s with
  | some t =>
    have : s ∈ namesB l := mem_namesB.2 (getB_isSome.1 (by rw [h]; rfl))
    rw [if_pos (contains_iff.2 this)]; rfl
  | none =>
    rw [if_neg]
    intro hc
    have := getB_isSome.2 (mem_namesB.1 (contains_iff.1 hc))
    rw [h] at this; cases this
theorem ofB_one {l m : List Bn} (h : Rising m) (hg : ∀ s, getB m s = getB l s) : m = ofB l := rising_one h (ofB_rising l) fun s => (hg s).trans (ofB_get l s).symm
theorem ofB_congr {l m : List Bn} (h : ∀ s, getB l s = getB m s) : ofB l = ofB m := rising_one (ofB_rising l) (ofB_rising m) fun s => by rw [ofB_get, ofB_get, h]
theorem ofB_rise {l : List Bn} (h : Rising l) : ofB l = l := (ofB_one h fun _ => rfl).symm
end Go.Proofs.Ytcecbdglepneaaa
