/-
  Binds in the order of their names, of each name the first one: as data. What tells two such rows to be one. No function of the program.
  Rows of binds of the calls' own, names in order, a row as values. No function of the program.
  One bind put into terms, by the reference of layer 7: One.
  Whether a text is among others, by the reference of layer 1: In.
-/
import Derived.Test.YtedljdcliilggaaU03
import Derived.Test.YtedljdcliilggaaU04
import Derived.Test.YtedljdcliilggaaU02
import Derived.Maps.AppendAt
import Derived.Laws.AppendOwnNone
import Derived.Deep.AppendLies
namespace Go.Proofs.Ytedljdcliilggaa
open Go.RowKit

def ltN (s t : ByteArray) : Bool := Op.bytesLess s.toList t.toList
theorem ltN_irr (s : ByteArray) : ltN s s = false := bl_irr _
theorem ltN_trans {s t u : ByteArray} (h : ltN s t = true) (k : ltN t u = true) : ltN s u = true := bl_trans h k
theorem ltN_tot {s t : ByteArray} (h : ltN s t = false) (hn : s ≠ t) : ltN t s = true := bl_tot h (fun e => hn ((Lib.bytes_beq_iff _ _).1 (by rw [e]; simp)))
theorem ltN_ne {s t : ByteArray} (h : ltN s t = true) : s ≠ t := fun e => by rw [e, ltN_irr] at h; cases h
theorem beq_name {s t : ByteArray} : (s.toList == t.toList) = true ↔ s = t := Lib.bytes_beq_iff _ _
theorem getB_hit (x : Bn) (l : List Bn) {s : ByteArray} (h : x.1 = s) : getB (x :: l) s = some x.2 := by
  unfold getB; rw [List.find?_cons, beq_name.2 h]; rfl
theorem getB_miss (x : Bn) (l : List Bn) {s : ByteArray} (h : x.1 ≠ s) : getB (x :: l) s = getB l s := by
  unfold getB
  rw [List.find?_cons]
  cases e : (x.1.toList == s.toList) with
  | true => exact absurd (beq_name.1 e) h
  | false => rfl
theorem getB_none {l : List Bn} {s : ByteArray} (h : ∀ x ∈ l, x.1 ≠ s) : getB l s = none := by
  induction l with
  | nil => rfl
  | cons x r ih => rw [getB_miss x r (h x (by simp)), ih fun y hy => h y (by simp [hy])]
theorem getB_append (l m : List Bn) (s : ByteArray) : getB (l ++ m) s = (getB l s).or (getB m s) := by
  induction l with
  | nil => rfl
  | cons x r ih =>
    by_cases h : x.1 = s
    · rw [List.cons_append, getB_hit x _ h, getB_hit x _ h]; rfl
    · rw [List.cons_append, getB_miss x _ h, getB_miss x _ h, ih]
theorem getB_isSome {l : List Bn} {s : ByteArray} : (getB l s).isSome = true ↔ ∃ x ∈ l, x.1 = s := by
  induction l with
  | nil => simp [getB_nil]
  | cons x r ih =>
    by_cases h : x.1 = s
    · rw [getB_hit x r h]; simp [h]
    · rw [getB_miss x r h, ih]; simp [h]
/-- Names rise, each once. -/
def Rising (l : List Bn) : Prop := l.Pairwise fun x y => ltN x.1 y.1 = true
theorem rising_one : ∀ {l m : List Bn}, Rising l → Rising m → (∀ s, getB l s = getB m s) → l = m
  | [], [], _, _, _ => rfl
  | [], y :: m, _, _, h => by have := h y.1; rw [getB_hit y m rfl, getB_nil] at this; cases this
  | x :: l, [], _, _, h => by have := h x.1; rw [getB_hit x l rfl, getB_nil] at this; cases this
  | x :: l, y :: m, hl, hm, h => by
    unfold Rising at hl hm
    rw [List.pairwise_cons] at hl hm
    have hn : x.1 = y.1 := by
      cases h1 : ltN x.1 y.1 with
      | true =>
        have := h x.1
        rw [getB_hit x l rfl, getB_miss y m (fun e => ltN_ne h1 e.symm), getB_none fun z hz e => by
          have := ltN_trans h1 (hm.1 z hz)
          rw [e, ltN_irr] at this; cases this] at this
        cases this
      | false =>
        by_cases e : x.1 = y.1
        · exact e
        · have h2 := ltN_tot h1 e
          have := h y.1
          rw [getB_hit y m rfl, getB_miss x l e, getB_none fun z hz e' => by
            have := ltN_trans h2 (hl.1 z hz)
            rw [e', ltN_irr] at this; cases this] at this
          cases this
    have h0 := h x.1
    rw [getB_hit x l rfl, getB_hit y m hn.symm] at h0
    have hx : x = y := Prod.ext hn (Option.some.inj h0)
    subst hx
    congr 1
    refine rising_one hl.2 hm.2 fun s => ?_
    by_cases e : x.1 = s
    · rw [getB_none fun z hz e' => ltN_ne (hl.1 z hz) (e.trans e'.symm), getB_none fun z hz e' => ltN_ne (hm.1 z hz) (e.trans e'.symm)]
    · have := h s
      rwa [getB_miss x l e, getB_miss x m e] at this

/-! ### Names, each once, in their order -/
/-- A name put into its place. -/
def insW : List ByteArray → ByteArray → List ByteArray
  | [], s => [s]
  | x :: l, s => if ltN x s = true then x :: insW l s else s :: x :: l
def insN (acc : List ByteArray) (s : ByteArray) : List ByteArray := if Lib.containsS acc s = true then acc else insW acc s
def namesB (l : List Bn) : List ByteArray := l.foldl (fun acc x => insN acc x.1) []
def RiseN (l : List ByteArray) : Prop := l.Pairwise fun x y => ltN x y = true
theorem mem_insW (s y : ByteArray) : ∀ l : List ByteArray, y ∈ insW l s ↔ y = s ∨ y ∈ l
  | [] => by simp [insW]
  | x :: l => by
    rw [insW]
    split
    · rw [List.mem_cons, mem_insW s y l, List.mem_cons]
      constructor
      · rintro (h | h | h) <;> simp [h]
      · rintro (h | h | h) <;> simp [h]
    · simp
theorem contains_iff {l : List ByteArray} {s : ByteArray} : Lib.containsS l s = true ↔ s ∈ l := Lib.containsS_iff l s
theorem mem_insN (s y : ByteArray) (l : List ByteArray) : y ∈ insN l s ↔ y = s ∨ y ∈ l := by
  unfold insN
  split
  · next h => rw [contains_iff] at h; constructor
              · exact .inr
              · rintro (rfl | h'); exact h; exact h'
  · exact mem_insW s y l
theorem rise_insW (s : ByteArray) : ∀ {l : List ByteArray}, RiseN l → s ∉ l → RiseN (insW l s)
  | [], _, _ => by simp [insW, RiseN]
  | x :: l, h, hn => by
    unfold RiseN at h
    rw [List.pairwise_cons] at h
    rw [insW]
    have hsx : x ≠ s := fun e => hn (by simp [e])
    have hsl : s ∉ l := fun e => hn (by simp [e])
    split
    · next hx =>
      refine List.pairwise_cons.2 ⟨fun y hy => ?_, rise_insW s h.2 hsl⟩
      rcases (mem_insW s y l).1 hy with rfl | hy
      · exact hx
      · exact h.1 y hy
    · next hx =>
      have hx' : ltN x s = false := by simpa using hx
      have h2 := ltN_tot hx' hsx
      refine List.pairwise_cons.2 ⟨fun y hy => ?_, List.pairwise_cons.2 h⟩
      rcases List.mem_cons.1 hy with rfl | hy
      · exact h2
      · exact ltN_trans h2 (h.1 y hy)
theorem rise_insN (s : ByteArray) {l : List ByteArray} (h : RiseN l) : RiseN (insN l s) := by
  unfold insN
  split
  · exact h
  · next hc => exact rise_insW s h (fun e => hc (contains_iff.2 e))
theorem names_fold : ∀ (l : List Bn) (acc : List ByteArray), RiseN acc → RiseN (l.foldl (fun acc x => insN acc x.1) acc) ∧ ∀ y, y ∈ l.foldl (fun acc x => insN acc x.1) acc ↔ y ∈ acc ∨ ∃ x ∈ l, x.1 = y
  | [], acc, h => ⟨h, fun y => by simp⟩
  | x :: l, acc, h => by
    obtain ⟨h1, h2⟩ := names_fold l (insN acc x.1) (rise_insN x.1 h)
    refine ⟨h1, fun y => ?_⟩
    rw [List.foldl_cons, h2, mem_insN]
    constructor
    · rintro ((rfl | h) | ⟨z, hz, rfl⟩)
      · exact .inr ⟨x, by simp, rfl⟩
      · exact .inl h
      · exact .inr ⟨z, by simp [hz], rfl⟩
    · rintro (h | ⟨z, hz, rfl⟩)
      · exact .inl (.inr h)
      · rcases List.mem_cons.1 hz with rfl | hz
        · exact .inl (.inl rfl)
        · exact .inr ⟨z, hz, rfl⟩
theorem namesB_rise (l : List Bn) : RiseN (namesB l) := (names_fold l [] List.Pairwise.nil).1
theorem mem_namesB {l : List Bn} {y : ByteArray} : y ∈ namesB l ↔ ∃ x ∈ l, x.1 = y := by unfold namesB; rw [(names_fold l [] List.Pairwise.nil).2]; simp
theorem namesB_succ {l : List Bn} {k : Nat} {x : Bn} (h : l[k]? = some x) : namesB (l.take (k + 1)) = insN (namesB (l.take k)) x.1 := by
  obtain ⟨hk, rfl⟩ := List.getElem?_eq_some_iff.1 h
  unfold namesB
  rw [List.take_succ_eq_append_getElem hk, List.foldl_append]; rfl
/-- A row of binds, made of names and what each stands for. -/
def rowOfN (f : ByteArray → Tm) (ns : List ByteArray) : List Bn := ns.map fun n => (n, f n)
theorem rising_rowOfN {f : ByteArray → Tm} {ns : List ByteArray} (h : RiseN ns) : Rising (rowOfN f ns) := by
  unfold Rising rowOfN; rw [List.pairwise_map]; exact h
theorem getB_rowOfN (f : ByteArray → Tm) (ns : List ByteArray) (s : ByteArray) : getB (rowOfN f ns) s = if Lib.containsS ns s = true then some (f s) else none := by
  induction ns with
  | nil => rfl
  | cons n r ih =>
    unfold rowOfN at ih ⊢
    rw [List.map_cons]
    by_cases h : n = s
    · rw [getB_hit _ _ h, if_pos (contains_iff.2 (by simp [h])), ← h]
    · rw [getB_miss _ _ h, ih]
      have : Lib.containsS r s = Lib.containsS (n :: r) s := by
        rw [Bool.eq_iff_iff, contains_iff, contains_iff, List.mem_cons]
        constructor
        · exact .inr
        · rintro (e | e); exact absurd e.symm h; exact e
      rw [this]
/-- Binds in order, of each name the first. -/
def ofB (l : List Bn) : List Bn := rowOfN (fun n => (getB l n).getD (.mk 0 ⟨#[]⟩ 0 [])) (namesB l)
theorem ofB_rising (l : List Bn) : Rising (ofB l) := rising_rowOfN (namesB_rise l)
theorem ofB_get (l : List Bn) (s : ByteArray) : getB (ofB l) s = getB l s := by
  unfold ofB
  rw [getB_rowOfN]
  cases h : getB l s with
  | some t =>
    have : s ∈ namesB l := mem_namesB.2 (getB_isSome.1 (by rw [h]; rfl))
    rw [if_pos (contains_iff.2 this)]; rfl
  | none =>
    rw [if_neg]
    intro hc
    have := getB_isSome.2 (mem_namesB.1 (contains_iff.1 hc))
    rw [h] at this; cases this
theorem ofB_one {l m : List Bn} (h : Rising m) (hg : ∀ s, getB m s = getB l s) : m = ofB l := rising_one h (ofB_rising l) fun s => (hg s).trans (ofB_get l s).symm
theorem ofB_congr {l m : List Bn} (h : ∀ s, getB l s = getB m s) : ofB l = ofB m := rising_one (ofB_rising l) (ofB_rising m) fun s => by rw [ofB_get, ofB_get, h]
theorem ofB_rise {l : List Bn} (h : Rising l) : ofB l = l := (ofB_one h fun _ => rfl).symm
end Go.Proofs.Ytedljdcliilggaa

namespace Go.Proofs.Ytedljdcliilggaa
open Go.RowKit

theorem bindInfo : (Try.prog.info? 41).map (fun i => (i.zero, i.size, i.bytes)) = some (some (.agg #[.string ⟨#[]⟩, .int .i64 0, .string ⟨#[]⟩, .int .i64 0, .slice none 0 0]), 5, 72) := by kernel_rfl
theorem list_choose {β : Type} {P : Nat → β → Prop} : ∀ {n : Nat}, (∀ j, j < n → ∃ y, P j y) → ∃ vs : List β, vs.length = n ∧ ∀ (j : Nat) (hj : j < vs.length), P j vs[j]
  | 0, _ => ⟨[], rfl, fun j hj => by simp at hj⟩
  | n + 1, h => by
    obtain ⟨vs, hl, hv⟩ := list_choose (n := n) fun j hj => h j (by omega)
    obtain ⟨y, hy⟩ := h n (by omega)
    refine ⟨vs ++ [y], by simp [hl], fun j hj => ?_⟩
    by_cases e : j < vs.length
    · rw [List.getElem_append_left e]; exact hv j e
    · have e2 : j = vs.length := by rw [List.length_append, List.length_singleton] at hj; omega
      subst e2
      rw [List.getElem_append_right (Nat.le_refl _)]
      simp only [Nat.sub_self, List.getElem_cons_zero]
      rw [hl]; exact hy
/-- A row of binds in memory as values. -/
theorem rows_vs {w : World} {bs : List Bn} {b o : Nat} (h : ∀ (j : Nat) x, bs[j]? = some x → BdAt w x b (o + j * 5)) :
    ∃ vs : List Bv, vs.map Bv.bn = bs ∧ (∀ x ∈ vs, x.v.ok w ∧ x.s.size ≤ 9223372036854775807) ∧ ∀ q x, (rowBv vs)[q]? = some x → w.cell? ⟨b, o + q, none⟩ = some x := by
  obtain ⟨vs, hl, hv⟩ := list_choose (β := Bv) (n := bs.length) (P := fun j y => ∃ x, bs[j]? = some x ∧ y.bn = x ∧ y.v.ok w ∧ y.s.size ≤ 9223372036854775807 ∧ BvAt w b (o + j * 5) y) fun j hj => by
    have hx := List.getElem?_eq_getElem hj
    have hA := h j _ hx
    obtain ⟨y, h1, h2, h3⟩ := bdAt_bv hA
    exact ⟨y, _, hx, h1, h2, by have := hA.1; rw [← h1] at this; exact this, h3⟩
  refine ⟨vs, ?_, fun x hx => ?_, fun q x hq => ?_⟩
  · apply List.ext_getElem
    · rw [List.length_map, hl]
    · intro j h1 h2
      rw [List.length_map] at h1
      obtain ⟨x, hx, e, _⟩ := hv j h1
      rw [List.getElem?_eq_getElem h2] at hx
      rw [List.getElem_map, e]; exact (Option.some.inj hx).symm
  · obtain ⟨j, hj, rfl⟩ := List.getElem_of_mem hx
    obtain ⟨_, _, _, h2, h3, _⟩ := hv j hj
    exact ⟨h2, h3⟩
  · have hq5 : q < vs.length * 5 := by rw [← rowBv_length]; exact (List.getElem?_eq_some_iff.1 hq).1
    have hj : q / 5 < vs.length := by omega
    obtain ⟨_, _, _, _, _, m0, m1, m2, m3, m4⟩ := hv (q / 5) hj
    have e : q = q / 5 * 5 + q % 5 := by omega
    rw [e, rowBv_get vs (q / 5) hj (q % 5) (by omega)] at hq
    rcases (show q % 5 = 0 ∨ q % 5 = 1 ∨ q % 5 = 2 ∨ q % 5 = 3 ∨ q % 5 = 4 from by omega) with hr | hr | hr | hr | hr
    all_goals
      rw [hr] at hq
      simp only [Bv.cells, List.getElem?_cons_zero, List.getElem?_cons_succ, Option.some.injEq] at hq
      subst hq
      rw [show o + q = o + q / 5 * 5 + q % 5 from by omega, hr]
      assumption
/-- The place of a name: all before it are less. -/
def PassN (l : List ByteArray) (s : ByteArray) (j : Nat) : Prop := ∀ i (h : i < l.length), i < j → ltN l[i] s = true
theorem PassN.succ {l : List ByteArray} {s : ByteArray} {j : Nat} (h : PassN l s j) (hj : j < l.length) (hl : ltN l[j] s = true) : PassN l s (j + 1) := fun i hi hij => by
  by_cases e : i = j
  · subst e; exact hl
  · exact h i hi (by omega)
theorem insW_at : ∀ {l : List ByteArray} {s : ByteArray} {j : Nat}, PassN l s j → j ≤ l.length → (∀ h : j < l.length, ltN l[j] s = false) → insW l s = l.take j ++ s :: l.drop j
  | [], s, j, _, hj, _ => by
    obtain rfl : j = 0 := by simpa using hj
    rfl
  | x :: l, s, 0, _, _, hs => by
    have : ltN x s = false := hs (by simp)
    rw [insW, if_neg (by rw [this]; simp)]; rfl
  | x :: l, s, j + 1, hp, hj, hs => by
    have h0 : ltN x s = true := hp 0 (by simp) (by omega)
    rw [insW, if_pos h0, insW_at (l := l) (s := s) (j := j) (fun i hi hij => by have := hp (i + 1) (by simpa using hi) (by omega); simpa using this) (by simpa using hj) (fun h => by have := hs (by simpa using h); simpa using this)]
    rfl
theorem insW_len (s : ByteArray) : ∀ l : List ByteArray, (insW l s).length = l.length + 1
  | [] => rfl
  | x :: l => by
    rw [insW]
    split
    · rw [List.length_cons, insW_len s l, List.length_cons]
    · rfl
theorem insN_len (l : List ByteArray) (s : ByteArray) : (insN l s).length ≤ l.length + 1 := by
  unfold insN; split
  · omega
  · rw [insW_len]; omega
theorem namesB_take {l : List Bn} {k : Nat} {x : Bn} (h : l[k]? = some x) : namesB (l.take (k + 1)) = insN (namesB (l.take k)) x.1 := by
  obtain ⟨hk, rfl⟩ := List.getElem?_eq_some_iff.1 h
  unfold namesB; rw [List.take_succ_eq_append_getElem hk, List.foldl_append]; rfl
theorem namesB_len (l : List Bn) : (namesB l).length ≤ l.length := by
  have : ∀ (l : List Bn) (acc : List ByteArray), (l.foldl (fun acc x => insN acc x.1) acc).length ≤ acc.length + l.length := by
    intro l
    induction l with
    | nil => intro acc; simp
    | cons x r ih => intro acc; rw [List.foldl_cons, List.length_cons]; have := ih (insN acc x.1); have := insN_len acc x.1; omega
  simpa [namesB] using this l []
/-- The row of names that the call itself has made. -/
def OwnS (w w' : World) (u : Value) (zs : List ByteArray) : Prop := w'.ownsRow w.heap.size 9 1 u zs.length (zs.map Value.string)
theorem strs_one (l : List ByteArray) : ∀ u ∈ l.map Value.string, u.oneCell' = true := by
  intro u hu; obtain ⟨s, _, rfl⟩ := List.mem_map.1 hu; rfl
theorem new_row5 (w : World) (b : Nat) (hb : b = w.heap.size) (x0 x1 x2 x3 x4 : Value) (t : TypeId) : ∀ j u, [x0, x1, x2, x3, x4][j]? = some u → (w.alloc (.cells #[x0, x1, x2, x3, x4] t)).cell? ((⟨b, 0, none⟩ : Addr).add j) = some u := by
  subst hb
  intro j u hj
  have e := World.cell?_alloc_mark w #[x0, x1, x2, x3, x4] t (0, 0) (0 + j)
  have : ((⟨w.heap.size, 0, none⟩ : Addr).add j) = ⟨w.heap.size, 0 + j, none⟩ := by
    unfold Addr.add; split
    · next h => subst h; rfl
    · rfl
  rw [this, e]
  simpa using hj
theorem bv_one (y : Bv) : ∀ x ∈ [Value.string y.s, .int .i64 y.v.t.kind, .string y.v.t.name, .int .i64 y.v.t.n, .slice y.v.a y.v.t.args.length y.v.c], x.oneCell' = true := by
  intro x hx; simp at hx; rcases hx with rfl | rfl | rfl | rfl | rfl <;> rfl
/-- One bind more, behind a row that the call itself has made. -/
theorem ownBv_snoc {w0 w : World} {base : Nat} {v : Value} {bs : List Bn} {y : Bv} {vs : List Bv} {x0 x1 x2 x3 x4 : Value} (hvt : vs.map Bv.bn = bs) (hvo : ∀ x ∈ vs, x.v.ok w0 ∧ x.s.size ≤ 9223372036854775807) (hy : y.v.ok w0) (hs : y.s.size ≤ 9223372036854775807)
    (hc : y.cells = [x0, x1, x2, x3, x4]) (h : w.ownsRow base 41 5 v (bs.length + 1) (rowBv vs ++ [x0, x1, x2, x3, x4])) : OwnBv w0 w base v (bs ++ [y.bn]) :=
  ⟨vs ++ [y], by rw [List.map_append, hvt]; rfl, fun x hx => by
    rcases List.mem_append.1 hx with hx | hx
    · exact hvo x hx
    · rw [List.mem_singleton] at hx; subst hx; exact ⟨hy, hs⟩, by
    rw [rowBv_append, rowBv_one, hc, List.length_append, List.length_singleton]; exact h⟩
theorem name_size {w : World} {v : Value} {bs : List Bn} (h : Bds w v bs) {s : ByteArray} (hs : s ∈ namesB bs) : s.size ≤ 9223372036854775807 := by
  obtain ⟨a, c, rfl, _, h⟩ := h
  obtain ⟨x, hx, rfl⟩ := mem_namesB.1 hs
  rcases h with rfl | ⟨b, o, rfl, _, hat⟩
  · cases hx
  · obtain ⟨j, hj, rfl⟩ := List.getElem_of_mem hx
    exact (hat j _ (List.getElem?_eq_getElem hj)).1
def ofTo (bs : List Bn) (k : Nat) : List Bn := rowOfN (fun n => (getB bs n).getD (.mk 0 ⟨#[]⟩ 0 [])) ((namesB bs).take k)
theorem ofTo_succ {bs : List Bn} {k : Nat} {s : ByteArray} (h : (namesB bs)[k]? = some s) : ofTo bs (k + 1) = ofTo bs k ++ [(s, (getB bs s).getD (.mk 0 ⟨#[]⟩ 0 []))] := by
  obtain ⟨hk, rfl⟩ := List.getElem?_eq_some_iff.1 h
  unfold ofTo rowOfN; rw [List.take_succ_eq_append_getElem hk, List.map_append]; rfl
theorem ofTo_len {bs : List Bn} {k : Nat} (h : k ≤ (namesB bs).length) : (ofTo bs k).length = k := by
  unfold ofTo rowOfN; rw [List.length_map, List.length_take]; omega
theorem ofTo_all (bs : List Bn) : ofTo bs (namesB bs).length = ofB bs := by unfold ofTo ofB; rw [List.take_length]
def butB (s : ByteArray) (x : Bn) : Bool := !(x.1.toList == s.toList)
theorem getB_but (s n : ByteArray) : ∀ l : List Bn, n ≠ s → getB (l.filter (butB s)) n = getB l n
  | [], _ => rfl
  | x :: l, hn => by
    rw [List.filter_cons]
    by_cases h : x.1 = n
    · have hb : butB s x = true := by
        unfold butB
        cases hh : (x.1.toList == s.toList) with
        | false => rfl
        | true => exact absurd ((Lib.bytes_beq_iff _ _).1 hh) (by rw [h]; exact hn)
      rw [if_pos hb, getB_hit x _ h, getB_hit x _ h]
    · split
      · rw [getB_miss x _ h, getB_miss x _ h, getB_but s n l hn]
      · rw [getB_miss x _ h, getB_but s n l hn]
theorem getB_own (s : ByteArray) : ∀ l : List Bn, getB (l.filter (butB s)) s = none := fun l => getB_none fun x hx e => by
  have := (List.mem_filter.1 hx).2
  unfold butB at this; rw [e] at this; simp at this
theorem ofB_with (l : List Bn) (s : ByteArray) (t : Tm) : ofB (l.filter (butB s) ++ [(s, t)]) = ofB ((s, t) :: l) := ofB_congr fun n => by
  rw [getB_append]
  by_cases h : n = s
  · subst h; rw [getB_own, getB_hit (n, t) l rfl, getB_hit (n, t) [] rfl]; rfl
  · rw [getB_but s n l h, getB_miss (s, t) l (fun e => h e.symm), getB_miss (s, t) [] (fun e => h e.symm), getB_nil]
    cases getB l n <;> rfl
theorem filter_take {p : Bn → Bool} {l : List Bn} {k : Nat} {x : Bn} (h : l[k]? = some x) : (l.take (k + 1)).filter p = (l.take k).filter p ++ if p x = true then [x] else [] := by
  obtain ⟨hk, rfl⟩ := List.getElem?_eq_some_iff.1 h
  rw [List.take_succ_eq_append_getElem hk, List.filter_append, List.filter_cons]; rfl
def onB (zs : List ByteArray) (x : Bn) : Bool := Lib.containsS zs x.1
theorem insW_length (s : ByteArray) : ∀ l : List ByteArray, (insW l s).length = l.length + 1
  | [] => rfl
  | x :: l => by
    rw [insW]
    split
    · rw [List.length_cons, insW_length s l, List.length_cons]
    · rfl
theorem names_fold_length : ∀ (l : List Bn) (acc : List ByteArray), (l.foldl (fun acc x => insN acc x.1) acc).length ≤ acc.length + l.length
  | [], acc => by simp
  | x :: l, acc => by
    rw [List.foldl_cons]
    have h := names_fold_length l (insN acc x.1)
    have : (insN acc x.1).length ≤ acc.length + 1 := by
      unfold insN; split
      · omega
      · rw [insW_length]; exact Nat.le_refl _
    rw [List.length_cons]; omega
theorem ofB_length (l : List Bn) : (ofB l).length ≤ l.length := by
  unfold ofB rowOfN
  rw [List.length_map]
  have := names_fold_length l []
  rw [List.length_nil, Nat.zero_add] at this
  exact this
theorem bds_own {w0 w : World} {base : Nat} {v : Value} {vs : List Bv} {n : Nat} (h : w.ownsRow base 41 5 v n (rowBv vs)) (hn : vs.length = n) (hok : ∀ x ∈ vs, x.v.ok w0 ∧ x.s.size ≤ 9223372036854775807) (hb : Below w0.heap.size w0 w) (hl : n ≤ 9223372036854775807) : Bds w v (vs.map Bv.bn) := by
  subst hn
  have : OwnBv w0 w base v (vs.map Bv.bn) := ⟨vs, rfl, hok, by rw [List.length_map]; exact h⟩
  exact this.bds hb (by rw [List.length_map]; exact hl)
theorem own_one5 (w : World) (x : Bv) (base : Nat) (hb : base ≤ w.heap.size) : (w.alloc (.cells #[.string x.s, .int .i64 x.v.t.kind, .string x.v.t.name, .int .i64 x.v.t.n, .slice x.v.a x.v.t.args.length x.v.c] 41)).ownsRow base 41 5 (.slice (some ⟨w.heap.size, 0, none⟩) 1 1) 1 (rowBv [x]) := by
  refine ⟨by rw [rowBv_length]; rfl, .inr ⟨w.heap.size, 1, #[.string x.s, .int .i64 x.v.t.kind, .string x.v.t.name, .int .i64 x.v.t.n, .slice x.v.a x.v.t.args.length x.v.c], rfl, hb, heap_alloc_new w _, Nat.le_refl _, by unfold maxLen; omega, rfl, by simp [rowBv, Bv.cells]⟩⟩
theorem below_two (w : World) (a b : Obj) : Below w.heap.size w ((w.alloc a).alloc b) := ((Below.refl _ _).alloc (Nat.le_refl _) _).alloc (by simp) _
theorem alloc_two (w : World) (a : Obj) (x0 x1 x2 x3 : Value) (ty : TypeId) : Box ((w.alloc a).alloc (.cells #[x0, x1, x2, x3] ty)) (w.heap.size + 1) x0 x1 x2 x3 := by
  have h := box_new (w.alloc a) x0 x1 x2 x3 ty
  rwa [show (w.alloc a).heap.size = w.heap.size + 1 by simp] at h
theorem Fresh.widen {w0 w ws w' w'' : World} {z : Tv} (h : Fresh w0 ws w' z) (hs : w.heap.size ≤ ws.heap.size) (hz : w'.heap.size ≤ w''.heap.size) (he : ∀ b, ws.heap.size ≤ b → b < w'.heap.size → w''.heap[b]? = w'.heap[b]?) : Fresh w0 w w'' z := fun W hb hsz hag =>
  h W hb (Nat.le_trans hz hsz) (fun b h1 h2 => (hag b (Nat.le_trans hs h1) (Nat.lt_of_lt_of_le h2 hz)).trans (he b h1 h2))
/-- A row of binds, opened: as values, and its cells in every later world. -/
theorem bds_open {w0 w : World} {v : Value} {bs : List Bn} (h : Bds w0 v bs) (hb0 : Below w0.heap.size w0 w) : ∃ a c, ∃ vs : List Bv, v = .slice a bs.length c ∧ vs.map Bv.bn = bs ∧ (∀ x ∈ vs, x.v.ok w0 ∧ x.s.size ≤ 9223372036854775807) ∧ (a = none → bs.length = 0) ∧
    ∀ W, Below w.heap.size w W → ∀ ad, a = some ad → ∀ q x, (rowBv vs)[q]? = some x → W.cell? (ad.add q) = some x := by
  obtain ⟨a, c, rfl, _, h⟩ := h
  rcases h with rfl | ⟨b, o, rfl, hlt, hr⟩
  · exact ⟨a, c, [], rfl, rfl, (fun x hx => by cases hx), (fun _ => rfl), fun W hW ad ha q x hq => by simp [rowBv] at hq⟩
  · obtain ⟨vs, hvt, hvo, hc⟩ := rows_vs hr
    refine ⟨_, c, vs, rfl, hvt, hvo, (fun h => by cases h), fun W hW ad ha q x hq => ?_⟩
    cases ha
    rw [addr_row]
    exact ((hb0.trans (hW.mono hb0.size)).cell (p := ⟨b, o + q, none⟩) hlt).trans (hc q x hq)
end Go.Proofs.Ytedljdcliilggaa

namespace Go.Proofs.Ytedljdcliilggaa
open Go.RowKit

/-- What One leaves: a new row of terms. -/
def OnePost (w0 w : World) (bn : Bn) (ts : List Tm) (e : Ending) (w' : World) : Prop :=
  ∃ u, e = .returned u ∧ (∃ vs : List Tv, vs.map Tv.t = appL [bn] ts ∧ (∀ z ∈ vs, Beside w0 w w' u z) ∧ w'.ownsRow w.heap.size 24 4 u ts.length (rowTv vs)) ∧ Below w.heap.size w w'
/-- A new row of one bind. -/
theorem bdsOk_one (w0 w : World) (b : Bv) (hb : b.v.ok w0) (hs : b.s.size ≤ 9223372036854775807) (t : TypeId) :
    BdsOk w0 (w.alloc (.cells #[.string b.s, .int .i64 b.v.t.kind, .string b.v.t.name, .int .i64 b.v.t.n, .slice b.v.a b.v.t.args.length b.v.c] t)) (.slice (some ⟨w.heap.size, 0, none⟩) 1 1) [b.bn] := by
  refine ⟨_, 1, rfl, by simp, .inr ⟨w.heap.size, 0, rfl, by simp, fun j x hj => ?_⟩⟩
  cases j with
  | zero =>
    simp only [List.getElem?_cons_zero, Option.some.injEq] at hj
    subst hj
    have e := fun i => World.cell?_alloc_mark w #[.string b.s, .int .i64 b.v.t.kind, .string b.v.t.name, .int .i64 b.v.t.n, .slice b.v.a b.v.t.args.length b.v.c] t (0, 0) i
    exact ⟨b, rfl, hb, hs, e 0, e (0 + 1), e (0 + 2), e (0 + 3), e (0 + 4)⟩
  | succ j => simp at hj

set_option maxRecDepth 100000 in
set_option maxHeartbeats 4000000 in
theorem one_row (b : Bv) (vl : Value) (ts : List Tm) (w0 w : World) (hbo : b.v.ok w0) (hbs : b.s.size ≤ 9223372036854775807) (hl : Tms w0 vl ts) (hb0 : Reads w0 w) (hm : ∀ t ∈ ts, t.parts ≤ 2300000000000) (hn : ts.length ≤ 2300000000000) :
    Calls Try.prog 27 #[b.val, vl] w (OnePost w0 w b.bn ts) := by
  have AP := Lib.hid (fun (x : Tv) (wv W : World) (v : Value) (hv : BdsOk w0 wv v [b.bn]) (h0v : Reads w0 wv) (hW : Below wv.heap.size wv W) (hx : x.ok w0) (hp : x.t.parts ≤ 2300000000000) => rapply_ok [b.bn] v w0 wv hv h0v 2300000000000 x W hp (Nat.le_refl _) hx hW)
  have BO := Lib.hid (fun (W : World) => bdsOk_one w0 W b hbo hbs 41)
  obtain ⟨bn, hbn⟩ : ∃ bn, b.bn = bn := ⟨_, rfl⟩
  rw [hbn] at AP BO ⊢
  obtain ⟨bs, ⟨bt, ba, bc⟩⟩ := b
  simp only [Bv.val] at BO ⊢
  obtain ⟨i0, hi0, hiz0, his0, hib0⟩ := info_parts termInfo
  obtain ⟨al, cl, rfl, hll, hlr⟩ := hl
  have hB1 : Below w.heap.size w (w.alloc (.cells #[.string bs, .int .i64 bt.kind, .string bt.name, .int .i64 bt.n, .slice ba bt.args.length bc] 41)) := (Below.refl _ _).alloc (Nat.le_refl _) _
  have hBX := fun i => World.cell?_alloc_mark w #[.string bs, .int .i64 bt.kind, .string bt.name, .int .i64 bt.n, .slice ba bt.args.length bc] 41 (0, 0) i
  have hzs : (w.alloc (.cells #[.string bs, .int .i64 bt.kind, .string bt.name, .int .i64 bt.n, .slice ba bt.args.length bc] 41)).heap.size = w.heap.size + 1 := by simp
  obtain ⟨wz, hwz⟩ : ∃ wz, wz = w.alloc (.cells #[.string bs, .int .i64 bt.kind, .string bt.name, .int .i64 bt.n, .slice ba bt.args.length bc] 41) := ⟨_, rfl⟩
  rw [← hwz] at hB1 hBX hzs
  have KB := Lib.hid (fun (V : World) (h : Below wz.heap.size wz V) => (show (V.cell? ⟨w.heap.size, 0, none⟩ = some (.string bs) ∧ V.cell? ⟨w.heap.size, 1, none⟩ = some (.int .i64 bt.kind) ∧ V.cell? ⟨w.heap.size, 2, none⟩ = some (.string bt.name) ∧ V.cell? ⟨w.heap.size, 3, none⟩ = some (.int .i64 bt.n) ∧ V.cell? ⟨w.heap.size, 4, none⟩ = some (.slice ba bt.args.length bc)) from
    ⟨(h.cell (p := ⟨w.heap.size, 0, none⟩) (by show w.heap.size < _; omega)).trans (hBX 0), (h.cell (p := ⟨w.heap.size, 1, none⟩) (by show w.heap.size < _; omega)).trans (hBX 1), (h.cell (p := ⟨w.heap.size, 2, none⟩) (by show w.heap.size < _; omega)).trans (hBX 2), (h.cell (p := ⟨w.heap.size, 3, none⟩) (by show w.heap.size < _; omega)).trans (hBX 3), (h.cell (p := ⟨w.heap.size, 4, none⟩) (by show w.heap.size < _; omega)).trans (hBX 4)⟩))
  have HBZ := Lib.hid hB1
  have HB0 := Lib.hid hb0
  have HL := Lib.hid hlr
  have HM := Lib.hid hm
  have HZS := Lib.hid hzs
  clear hbo hbs hbn hb0 hm hlr hB1 hBX hzs
  go_enter Try.func27, Try.ntmps27
  go_wp2_with fail
  rw [← hwz]
  clear hwz
  go_loopw [5, 10] (fun o k wr => ∃ (q : Nat) (vs : List Tv), q ≤ ts.length ∧ k = .int .i64 q ∧ Hid (vs.map Tv.t = (ts.take q).map (appT [bn])) ∧ vs.length = q ∧ Hid (∀ z ∈ vs, Beside w0 wz wr o z) ∧ Hid (wr.ownsRow wz.heap.size 24 4 o q (rowTv vs)) ∧ Hid (Below wz.heap.size wz wr)) (fun _ k _ => ts.length - (intOf k).toNat)
  case atStart => exact ⟨0, [], Nat.zero_le _, rfl, Lib.hid (by simp), rfl, Lib.hid (fun _ h => nomatch h), Lib.hid (World.ownsRow_nil _ _ _ _), Lib.hid (Below.refl _ _)⟩
  case round =>
    obtain ⟨q, vs, hq, rfl, HVT, hvl, HVB, HOWN, HBW⟩ := hrel
    have hbs := HBW.out.size
    have hB0w := HB0.out.trans (reads_below (HBZ.out.trans (HBW.out.mono HBZ.out.size)))
    by_cases hql : q < ts.length
    · obtain ⟨b', o', rfl, hlt', hrow⟩ := HL.out.resolve_left (by intro h; rw [h] at hql; simp at hql)
      obtain ⟨y, hyt, hyo, hy⟩ := tmAt_tv (rowAt_get hrow hql)
      obtain ⟨m0, m1, m2, m3⟩ : TvAt wr b' (o' + q * 4) y := ⟨hB0w.cell _ _ hy.c0, hB0w.cell _ _ hy.c1, hB0w.cell _ _ hy.c2, hB0w.cell _ _ hy.c3⟩
      obtain ⟨zt, za, zc⟩ := y
      simp only at hyt hyo m0 m1 m2 m3
      have hX1 : Below wr.heap.size wr (wr.alloc (.cells #[.int .i64 zt.kind, .string zt.name, .int .i64 zt.n, .slice za zt.args.length zc] 24)) := (Below.refl _ _).alloc (Nat.le_refl _) _
      have hX2 : Below wr.heap.size wr ((wr.alloc (.cells #[.int .i64 zt.kind, .string zt.name, .int .i64 zt.n, .slice za zt.args.length zc] 24)).alloc (.cells #[.string bs, .int .i64 bt.kind, .string bt.name, .int .i64 bt.n, .slice ba bt.args.length bc] 41)) := hX1.alloc hX1.size _
      have hzz : (wr.alloc (.cells #[.int .i64 zt.kind, .string zt.name, .int .i64 zt.n, .slice za zt.args.length zc] 24)).heap.size = wr.heap.size + 1 := by simp
      have BOr := BO.out (wr.alloc (.cells #[.int .i64 zt.kind, .string zt.name, .int .i64 zt.n, .slice za zt.args.length zc] 24))
      rw [hzz] at BOr
      have C := AP.out ⟨zt, za, zc⟩ _ _ _ BOr (hB0w.trans (reads_below hX2)) (Below.refl _ _) hyo (by show zt.parts ≤ _; rw [hyt]; exact HM.out _ (List.getElem_mem hql))
      have HC := Lib.hid C
      have HTS := Lib.hid (show (ts.take (q + 1)).map (appT [bn]) = (ts.take q).map (appT [bn]) ++ [appT [bn] zt] by rw [map_take_succ [bn] hql, hyt])
      obtain ⟨p0, p1, p2, p3, p4⟩ := KB.out _ (HBW.out.trans (hX1.mono hbs))
      have hq0 : (0 : Int) ≤ (q : Int) := by omega
      have hq1 : (q : Int) < (ts.length : Int) := by omega
      have hqd : decide ((q : Int) < (ts.length : Int)) = true := decide_eq_true hq1
      have hq5 : (q : Int) ≤ 2300000000000 := by omega
      have hmm : q + 1 ≤ maxLen := by unfold maxLen; omega
      have hmb : (q + 1) * 56 ≤ 140737488355328 := by omega
      have hol : ∀ g, u5.ownBlock = some g → g < wr.heap.size := fun g e => (HOWN.out.lt g e).2
      have HOL := Lib.hid hol
      have HX2 := Lib.hid hX2
      have hwl : w.heap.size < wr.heap.size := by have := HZS.out; omega
      clear hyt hyo hy hrow C hol BOr hX1 hX2 hzz
      go_wp2_with fail
      refine HC.out.mono ?_; rintro e w4 ⟨⟨ty, aY, cY⟩, rfl, hzt, hzf, hb4⟩
      have hb4r := below_next HX2.out hb4
      have hzf' : Fresh w0 wr w4 ⟨ty, aY, cY⟩ := hzf.widen HX2.out.size (Nat.le_refl _) (fun _ _ _ => rfl)
      have hbA := hb4r.alloc hb4r.size (.cells #[.int .i64 ty.kind, .string ty.name, .int .i64 ty.n, .slice aY ty.args.length cY] 24)
      have hownA := own_below HOWN.out hbA
      have hbB := beside_fresh (w := wz) hzf' hbs HOL.out
      have HBB := Lib.hid hbB
      have HAA := Lib.hid hbA
      have HVT2 := Lib.hid (show (vs ++ [(⟨ty, aY, cY⟩ : Tv)]).map Tv.t = (ts.take (q + 1)).map (appT [bn]) by rw [List.map_append, HVT.out, HTS.out]; exact congrArg (fun x => _ ++ [x]) hzt)
      have HN1 := Lib.hid (World.news_of_block (heap_alloc_new w4 (.cells #[.int .i64 ty.kind, .string ty.name, .int .i64 ty.n, .slice aY ty.args.length cY] 24)))
      have HO1 := Lib.hid (fun (x : Value) (hx : x ∈ [Value.int .i64 ty.kind, .string ty.name, .int .i64 ty.n, .slice aY ty.args.length cY]) => (show x.oneCell' = true from rowTv_one' [⟨ty, aY, cY⟩] x (by rw [rowTv_one]; exact hx)))
      have hsz : wz.heap.size ≤ (w4.alloc (.cells #[.int .i64 ty.kind, .string ty.name, .int .i64 ty.n, .slice aY ty.args.length cY] 24)).heap.size := by have h2 := hbA.size; omega
      clear hzt hzf hzf' hb4 hb4r hbA hbB m0 m1 m2 m3 p0 p1 p2 p3 p4
      simp only [Tv.val]
      go_wp2_with (at_builtin; refine wpList_append_own_at _ rfl _ _ 22 rfl wz.heap.size 24 i0 (.agg #[.int .i64 0, .string ⟨#[]⟩, .int .i64 0, .slice none 0 0]) 4 56 Try.underlying22 hi0 hiz0 his0 hib0 rfl (by decide) _ q (rowTv vs) rfl hownA ⟨w4.heap.size, 0, none⟩ 1 1 [.int .i64 ty.kind, .string ty.name, .int .i64 ty.n, .slice aY ty.args.length cY] rfl rfl HN1.out HO1.out hmm hmb hsz ?_; intro v5 w5 hown5 hg5 _ hat5)
      go_roundw
      case rel =>
        have hb5 : Below wz.heap.size wz w5 := (HBW.out.trans (HAA.out.mono hbs)).grown hg5 hsz (fun y e => (hownA.lt y e).1)
        have hAB : Below w4.heap.size w4 (w4.alloc (.cells #[.int .i64 ty.kind, .string ty.name, .int .i64 ty.n, .slice aY ty.args.length cY] 24)) := (Below.refl _ _).alloc (Nat.le_refl _) _
        have hall : ∀ x ∈ vs ++ [(⟨ty, aY, cY⟩ : Tv)], Beside w0 wz w5 v5 x := fun x hx => by
          rcases List.mem_append.1 hx with hx | hx
          · exact ((HVB.out x hx).below HAA.out).grown hg5 hat5
          · rw [List.mem_singleton] at hx
            subst hx
            exact (HBB.out.below hAB).grown hg5 hat5
        have hrow : w5.ownsRow wz.heap.size 24 4 v5 (q + 1) (rowTv (vs ++ [(⟨ty, aY, cY⟩ : Tv)])) := by rw [rowTv_append, rowTv_one]; exact hown5
        first
          | exact ⟨v5, _, .int .i64 ((q : Int) + 1), ⟨q + 1, by omega, by go_num, vs ++ [(⟨ty, aY, cY⟩ : Tv)], Lib.hid HVT2.out, by rw [List.length_append, hvl]; rfl, Lib.hid hall, Lib.hid hrow, Lib.hid hb5⟩, rfl, rfl, rfl⟩
          | exact ⟨q + 1, vs ++ [(⟨ty, aY, cY⟩ : Tv)], by omega, by go_num, Lib.hid HVT2.out, by rw [List.length_append, hvl]; rfl, Lib.hid hall, Lib.hid hrow, Lib.hid hb5⟩
      case measure => simp [intOf]; omega
    · have hqe : q = ts.length := by omega
      have hqd : decide ((q : Int) < (ts.length : Int)) = false := decide_eq_false (by omega)
      have hqn : ¬ (q : Int) < (ts.length : Int) := by omega
      have hql1 : ts.length ≤ q := by omega
      have HT := Lib.hid (show ∃ vs : List Tv, vs.map Tv.t = appL [bn] ts ∧ (∀ z ∈ vs, Beside w0 w wr u5 z) ∧ wr.ownsRow w.heap.size 24 4 u5 ts.length (rowTv vs) from by
        have h := HVT.out
        rw [List.take_of_length_le hql1] at h
        refine ⟨vs, by rw [appL_map]; exact h, fun z hz => (fun W h1 h2 h3 => HVB.out z hz W h1 h2 (fun k k1 => h3 k (Nat.le_trans HBZ.out.size k1))), ?_⟩
        rw [← hqe]; exact own_lower HOWN.out HBZ.out.size)
      have HBE := Lib.hid (HBZ.out.trans (HBW.out.mono HBZ.out.size))
      clear hqe hB0w
      go_wp2_with fail
      go_ret
      exact ⟨_, rfl, HT.out, HBE.out⟩
theorem OnePost.tms {w0 w w' : World} {bn : Bn} {ts : List Tm} {e : Ending} (h : OnePost w0 w bn ts e w') (h0 : Reads w0 w) (hn : ts.length ≤ 2300000000000) : ∃ u, e = .returned u ∧ Tms w' u (appL [bn] ts) ∧ Below w.heap.size w w' := by
  obtain ⟨u, he, ⟨vs, hvt, hvb, hown⟩, hb⟩ := h
  have hl : (appL [bn] ts).length = ts.length := by rw [appL_map, List.length_map]
  have o : OwnTv w' w' w.heap.size u (appL [bn] ts) := ⟨vs, hvt, fun x hx => hvb x hx w' (h0.trans (reads_below hb)) (Nat.le_refl _) (fun _ _ _ _ => rfl), by rw [hl]; exact hown⟩
  exact ⟨u, he, o.tms (Below.refl _ _) (by rw [hl]; omega), hb⟩
theorem one_any (b : Bv) (vl : Value) (ts : List Tm) (w0 w : World) (hbo : b.v.ok w0) (hbs : b.s.size ≤ 9223372036854775807) (hl : Tms w0 vl ts) (hb0 : Below w0.heap.size w0 w) (hm : ∀ t ∈ ts, t.parts ≤ 2300000000000) (hn : ts.length ≤ 2300000000000) :
    Calls Try.prog 27 #[b.val, vl] w fun e w' => ∃ u, e = .returned u ∧ Tms w' u (appL [b.bn] ts) ∧ Below w.heap.size w w' :=
  (one_row b vl ts w0 w hbo hbs hl (reads_below hb0) hm hn).mono fun _ _ h => h.tms (reads_below hb0) hn
end Go.Proofs.Ytedljdcliilggaa

namespace Go.Proofs.Ytedljdcliilggaa
open Go.RowKit

set_option maxHeartbeats 400000 in
theorem rin_any (v : Value) (zs : List ByteArray) (x : ByteArray) (w : World) (hv : Strs w v zs) :
    Calls Try.prog 25 #[v, .string x] w fun e w' => e = .returned (.bool (Lib.containsS zs x)) ∧ w = w' := by
  obtain ⟨a, c, rfl, hl, h⟩ := hv
  rcases h with rfl | ⟨b, off, rfl, hlt, hc⟩
  · go_enter Try.func25, Try.ntmps25
    go_wp2
    refine wp_loop_rounds 1 ?_; rw [rounds_succ]
    go_wp2
    go_ret
    exact ⟨rfl, rfl⟩
  · have HC := Lib.hid hc
    clear hc
    go_enter Try.func25, Try.ntmps25
    go_wp2
    go_loop [9] (fun i => ∃ k : Nat, k ≤ zs.length ∧ i = .int .i64 k ∧ NotYet zs x k) (fun i => zs.length - (intOf i).toNat)
    case atStart => exact ⟨0, Nat.zero_le _, rfl, (fun j hj => by omega)⟩
    case round =>
      obtain ⟨k, hk, rfl, hne⟩ := hrel
      have HN := Lib.hid hne
      clear hne
      by_cases hlt : k < zs.length
      · have hcell : w.cell? ⟨b, off + k, none⟩ = some (.string zs[k]) := by rw [HC.out k hlt]; simp [List.getD, hlt]
        by_cases he : zs[k] = x
        · have hq : (zs[k].toList == x.toList) = true := by rw [Lib.bytes_beq_iff]; exact he
          have HE := Lib.hid he
          clear he
          go_wp2
          go_ret
          exact ⟨ret_bool (contains_here hlt HE.out).symm, rfl⟩
        · have hq : (zs[k].toList == x.toList) = false := by rw [Lib.bytes_beq_false_iff]; exact he
          have HE := Lib.hid (show zs.getD k ByteArray.empty ≠ x from by simpa [List.getD, hlt] using he)
          clear he
          go_wp2
          go_round
          case rel => exact ⟨k + 1, by omega, by go_num, HN.out.succ HE.out⟩
          case measure => simp [intOf]; omega
      · obtain rfl : k = zs.length := by omega
        go_wp2
        go_ret
        exact ⟨ret_bool HN.out.all.symm, rfl⟩
end Go.Proofs.Ytedljdcliilggaa
