/-
  Rows of binds of the calls' own, names in order, a row as values. No function of the program.
-/
import Derived.Test.YtcecbdglepneaaaOfBd
import Derived.Test.YtcecbdglepneaaaFresh
import Derived.Maps.AppendAt
import Derived.Laws.AppendOwnNone
namespace Go.Proofs.Ytcecbdglepneaaa
open Go.RowKit

theorem bindInfo : (Try.prog.info? 46).map (fun i => (i.zero, i.size, i.bytes)) = some (some (.agg #[.string ⟨#[]⟩, .int .i64 0, .string ⟨#[]⟩, .int .i64 0, .slice none 0 0]), 5, 72) := by kernel_rfl
theorem list_choose {β : Type} {P : Nat → β → Prop} : ∀ {n : Nat}, (∀ j, j < n → ∃ y, P j y) → ∃ vs : List β, vs.length = n ∧ ∀ (j : Nat) (hj : j < vs.length), P j vs[j]
  | 0, _ => ⟨[], rfl, fun j hj => by simp at hj⟩
  | n + 1, h => by
    obtain ⟨vs, hl, hv⟩ := list_choose (n := n) fun j hj => h j (by omega)
    obtain ⟨y, hy⟩ := h n (by omega)
    refine ⟨vs ++ [y], by simp [hl], fun j hj => ?_⟩
    by_cases e : j < vs.length
    · rw [List.getElem_append_left e]; exact hv j e
    · have e2 : j = vs.length := by rw [List.length_append, List.length_singleton] at hj; omega
      subst e2
      rw [List.getElem_append_right (Nat.le_refl _)]
      simp only [Nat.sub_self, List.getElem_cons_zero]
      rw [hl]; exact hy
/-- A row of binds in memory as values. -/
theorem rows_vs {w : World} {bs : List Bn} {b o : Nat} (h : ∀ (j : Nat) x, bs[j]? = some x → BdAt w x b (o + j * 5)) :
    ∃ vs : List Bv, vs.map Bv.bn = bs ∧ (∀ x ∈ vs, x.v.ok w ∧ x.s.size ≤ 9223372036854775807) ∧ ∀ q x, (rowBv vs)[q]? = some x → w.cell? ⟨b, o + q, none⟩ = some x := by
  obtain ⟨vs, hl, hv⟩ := list_choose (β := Bv) (n := bs.length) (P := fun j y => ∃ x, bs[j]? = some x ∧ y.bn = x ∧ y.v.ok w ∧ y.s.size ≤ 9223372036854775807 ∧ BvAt w b (o + j * 5) y) fun j hj => by
    have hx := List.getElem?_eq_getElem hj
    have hA := h j _ hx
    obtain ⟨y, h1, h2, h3⟩ := bdAt_bv hA
    exact ⟨y, _, hx, h1, h2, by have := hA.1; rw [← h1] at this; exact this, h3⟩
  refine ⟨vs, ?_, fun x hx => ?_, fun q x hq => ?_⟩
  · apply List.ext_getElem
    · rw [List.length_map, hl]
    · intro j h1 h2
      rw [List.length_map] at h1
      obtain ⟨x, hx, e, _⟩ := hv j h1
      rw [List.getElem?_eq_getElem h2] at hx
      rw [List.getElem_map, e]; exact (Option.some.inj hx).symm
  · obtain ⟨j, hj, rfl⟩ := List.getElem_of_mem hx
    obtain ⟨_, _, _, h2, h3, _⟩ := hv j hj
    exact ⟨h2, h3⟩
  · have hq5 : q < vs.length * 5 := by rw [← rowBv_length]; exact (List.getElem?_eq_some_iff.1 hq).1
    have hj : q / 5 < vs.length := by omega
    obtain ⟨_, _, _, _, _, m0, m1, m2, m3, m4⟩ := hv (q / 5) hj
    have e : q = q / 5 * 5 + q % 5 := by omega
    rw [e, rowBv_get vs (q / 5) hj (q % 5) (by omega)] at hq
    rcases (show q % 5 = 0 ∨ q % 5 = 1 ∨ q % 5 = 2 ∨ q % 5 = 3 ∨ q % 5 = 4 from by omega) with hr | hr | hr | hr | hr
    all_goals
      rw [hr] at hq
      simp only [Bv.cells, List.getElem?_cons_zero, List.getElem?_cons_succ, Option.some.injEq] at hq
      subst hq
      rw [show o + q = o + q / 5 * 5 + q % 5 from by omega, hr]
      assumption
/-- The place of a name: all before it are less. -/
def PassN (l : List ByteArray) (s : ByteArray) (j : Nat) : Prop := ∀ i (h : i < l.length), i < j → ltN l[i] s = true
theorem PassN.succ {l : List ByteArray} {s : ByteArray} {j : Nat} (h : PassN l s j) (hj : j < l.length) (hl : ltN l[j] s = true) : PassN l s (j + 1) := fun i hi hij => by
  by_cases e : i = j
  · subst e; exact hl
  · exact h i hi (by omega)
theorem insW_at : ∀ {l : List ByteArray} {s : ByteArray} {j : Nat}, PassN l s j → j ≤ l.length → (∀ h : j < l.length, ltN l[j] s = false) → insW l s = l.take j ++ s :: l.drop j
  | [], s, j, _, hj, _ => by
    obtain rfl : j = 0 := by simpa using hj
    rfl
  | x :: l, s, 0, _, _, hs => by
    have : ltN x s = false := hs (by simp)
    rw [insW, if_neg (by rw [this]; simp)]; rfl
  | x :: l, s, j + 1, hp, hj, hs => by
    have h0 : ltN x s = true := hp 0 (by simp) (by omega)
    rw [insW, if_pos h0, insW_at (l := l) (s := s) (j := j) (fun i hi hij => by have := hp (i + 1) (by simpa using hi) (by omega); simpa using this) (by simpa using hj) (fun h => by have := hs (by simpa using h); simpa using this)]
    rfl
theorem insW_len (s : ByteArray) : ∀ l : List ByteArray, (insW l s).length = l.length + 1
  | [] => rfl
  | x :: l => by
    rw [insW]
    split
    · rw [List.length_cons, insW_len s l, List.length_cons]
    · rfl
theorem insN_len (l : List ByteArray) (s : ByteArray) : (insN l s).length ≤ l.length + 1 := by
  unfold insN; split
  · omega
  · rw [insW_len]; omega
theorem namesB_take {l : List Bn} {k : Nat} {x : Bn} (h : l[k]? = some x) : namesB (l.take (k + 1)) = insN (namesB (l.take k)) x.1 := by
  obtain ⟨hk, rfl⟩ := List.getElem?_eq_some_iff.1 h
  unfold namesB; rw [List.take_succ_eq_append_getElem hk, List.foldl_append]; rfl
theorem namesB_len (l : List Bn) : (namesB l).length ≤ l.length := by
  have : ∀ (l : List Bn) (acc : List ByteArray), (l.foldl (fun acc x => insN acc x.1) acc).length ≤ acc.length + l.length := by
    intro l
    induction l with
    | nil => intro acc; simp
    | cons x r ih => intro acc; rw [List.foldl_cons, List.length_cons]; have := ih (insN acc x.1); have := insN_len acc x.1; omega
  simpa [namesB] using this l []
/-- The row of names that the call itself has made. -/
def OwnS (w w' : World) (u : Value) (zs : List ByteArray) : Prop := w'.ownsRow w.heap.size 9 1 u zs.length (zs.map Value.string)
theorem strs_one (l : List ByteArray) : ∀ u ∈ l.map Value.string, u.oneCell' = true := by
  intro u hu; obtain ⟨s, _, rfl⟩ := List.mem_map.1 hu; rfl
theorem new_row5 (w : World) (b : Nat) (hb : b = w.heap.size) (x0 x1 x2 x3 x4 : Value) (t : TypeId) : ∀ j u, [x0, x1, x2, x3, x4][j]? = some u → (w.alloc (.cells #[x0, x1, x2, x3, x4] t)).cell? ((⟨b, 0, none⟩ : Addr).add j) = some u := by
  subst hb
  intro j u hj
  have e := World.cell?_alloc_mark w #[x0, x1, x2, x3, x4] t (0, 0) (0 + j)
  have : ((⟨w.heap.size, 0, none⟩ : Addr).add j) = ⟨w.heap.size, 0 + j, none⟩ := by
    unfold Addr.add; split
    · next h => subst h; rfl
    · rfl
  rw [this, e]
  simpa using hj
theorem bv_one (y : Bv) : ∀ x ∈ [Value.string y.s, .int .i64 y.v.t.kind, .string y.v.t.name, .int .i64 y.v.t.n, .slice y.v.a y.v.t.args.length y.v.c], x.oneCell' = true := by
  intro x hx; simp at hx; rcases hx with rfl | rfl | rfl | rfl | rfl <;> rfl
/-- One bind more, behind a row that the call itself has made. -/
theorem ownBv_snoc {w0 w : World} {base : Nat} {v : Value} {bs : List Bn} {y : Bv} {vs : List Bv} {x0 x1 x2 x3 x4 : Value} (hvt : vs.map Bv.bn = bs) (hvo : ∀ x ∈ vs, x.v.ok w0 ∧ x.s.size ≤ 9223372036854775807) (hy : y.v.ok w0) (hs : y.s.size ≤ 9223372036854775807)
    (hc : y.cells = [x0, x1, x2, x3, x4]) (h : w.ownsRow base 46 5 v (bs.length + 1) (rowBv vs ++ [x0, x1, x2, x3, x4])) : OwnBv w0 w base v (bs ++ [y.bn]) :=
  ⟨vs ++ [y], by rw [List.map_append, hvt]; rfl, fun x hx => by
    rcases List.mem_append.1 hx with hx | hx
    · exact hvo x hx
    · rw [List.mem_singleton] at hx; subst hx; exact ⟨hy, hs⟩, by
    rw [rowBv_append, rowBv_one, hc, List.length_append, List.length_singleton]; exact h⟩
theorem name_size {w : World} {v : Value} {bs : List Bn} (h : Bds w v bs) {s : ByteArray} (hs : s ∈ namesB bs) : s.size ≤ 9223372036854775807 := by
  obtain ⟨a, c, rfl, _, h⟩ := h
  obtain ⟨x, hx, rfl⟩ := mem_namesB.1 hs
  rcases h with rfl | ⟨b, o, rfl, _, hat⟩
  · cases hx
  · obtain ⟨j, hj, rfl⟩ := List.getElem_of_mem hx
    exact (hat j _ (List.getElem?_eq_getElem hj)).1
def ofTo (bs : List Bn) (k : Nat) : List Bn := rowOfN (fun n => (getB bs n).getD (.mk 0 ⟨#[]⟩ 0 [])) ((namesB bs).take k)
theorem ofTo_succ {bs : List Bn} {k : Nat} {s : ByteArray} (h : (namesB bs)[k]? = some s) : ofTo bs (k + 1) = ofTo bs k ++ [(s, (getB bs s).getD (.mk 0 ⟨#[]⟩ 0 []))] := by
  obtain ⟨hk, rfl⟩ := List.getElem?_eq_some_iff.1 h
  unfold ofTo rowOfN; rw [List.take_succ_eq_append_getElem hk, List.map_append]; rfl
theorem ofTo_len {bs : List Bn} {k : Nat} (h : k ≤ (namesB bs).length) : (ofTo bs k).length = k := by
  unfold ofTo rowOfN; rw [List.length_map, List.length_take]; omega
theorem ofTo_all (bs : List Bn) : ofTo bs (namesB bs).length = ofB bs := by unfold ofTo ofB; rw [List.take_length]
def butB (s : ByteArray) (x : Bn) : Bool := !(x.1.toList == s.toList)
theorem getB_but (s n : ByteArray) : ∀ l : List Bn, n ≠ s → getB (l.filter (butB s)) n = getB l n
  | [], _ => rfl
  | x :: l, hn => by
    rw [List.filter_cons]
    by_cases h : x.1 = n
    · have hb : butB s x = true := by
        unfold butB
        cases hh : (x.1.toList == s.toList) with
        | false => rfl
        | true => exact absurd ((Lib.bytes_beq_iff _ _).1 hh) (by rw [h]; exact hn)
      rw [if_pos hb, getB_hit x _ h, getB_hit x _ h]
    · split
      · rw [getB_miss x _ h, getB_miss x _ h, getB_but s n l hn]
      · rw [getB_miss x _ h, getB_but s n l hn]
theorem getB_own (s : ByteArray) : ∀ l : List Bn, getB (l.filter (butB s)) s = none := fun l => getB_none fun x hx e => by
  have := (List.mem_filter.1 hx).2
  unfold butB at this; rw [e] at this; simp at this
theorem ofB_with (l : List Bn) (s : ByteArray) (t : Tm) : ofB (l.filter (butB s) ++ [(s, t)]) = ofB ((s, t) :: l) := ofB_congr fun n => by
  rw [getB_append]
  by_cases h : n = s
  · subst h; rw [getB_own, getB_hit (n, t) l rfl, getB_hit (n, t) [] rfl]; rfl
  · rw [getB_but s n l h, getB_miss (s, t) l (fun e => h e.symm), getB_miss (s, t) [] (fun e => h e.symm), getB_nil]
    cases getB l n <;> rfl
theorem filter_take {p : Bn → Bool} {l : List Bn} {k : Nat} {x : Bn} (h : l[k]? = some x) : (l.take (k + 1)).filter p = (l.take k).filter p ++ if p x = true then [x] else [] := by
  obtain ⟨hk, rfl⟩ := List.getElem?_eq_some_iff.1 h
  rw [List.take_succ_eq_append_getElem hk, List.filter_append, List.filter_cons]; rfl
def onB (zs : List ByteArray) (x : Bn) : Bool := Lib.containsS zs x.1
theorem insW_length (s : ByteArray) : ∀ l : List ByteArray, (insW l s).length = l.length + 1
  | [] => rfl
  | x :: l => by
    rw [insW]
    split
    · rw [List.length_cons, insW_length s l, List.length_cons]
    · rfl
theorem names_fold_length : ∀ (l : List Bn) (acc : List ByteArray), (l.foldl (fun acc x => insN acc x.1) acc).length ≤ acc.length + l.length
  | [], acc => by simp
  | x :: l, acc => by
    rw [List.foldl_cons]
    have h := names_fold_length l (insN acc x.1)
    have : (insN acc x.1).length ≤ acc.length + 1 := by
      unfold insN; split
      · omega
      · rw [insW_length]; exact Nat.le_refl _
    rw [List.length_cons]; omega
theorem ofB_length (l : List Bn) : (ofB l).length ≤ l.length := by
  unfold ofB rowOfN
  rw [List.length_map]
  have := names_fold_length l []
  rw [List.length_nil, Nat.zero_add] at this
  exact this
theorem bds_own {w0 w : World} {base : Nat} {v : Value} {vs : List Bv} {n : Nat} (h : w.ownsRow base 46 5 v n (rowBv vs)) (hn : vs.length = n) (hok : ∀ x ∈ vs, x.v.ok w0 ∧ x.s.size ≤ 9223372036854775807) (hb : Below w0.heap.size w0 w) (hl : n ≤ 9223372036854775807) : Bds w v (vs.map Bv.bn) := by
  subst hn
  have : OwnBv w0 w base v (vs.map Bv.bn) := ⟨vs, rfl, hok, by rw [List.length_map]; exact h⟩
  exact this.bds hb (by rw [List.length_map]; exact hl)
theorem own_one5 (w : World) (x : Bv) (base : Nat) (hb : base ≤ w.heap.size) : (w.alloc (.cells #[.string x.s, .int .i64 x.v.t.kind, .string x.v.t.name, .int .i64 x.v.t.n, .slice x.v.a x.v.t.args.length x.v.c] 46)).ownsRow base 46 5 (.slice (some ⟨w.heap.size, 0, none⟩) 1 1) 1 (rowBv [x]) := by
  refine ⟨by rw [rowBv_length]; rfl, .inr ⟨w.heap.size, 1, #[.string x.s, .int .i64 x.v.t.kind, .string x.v.t.name, .int .i64 x.v.t.n, .slice x.v.a x.v.t.args.length x.v.c], rfl, hb, heap_alloc_new w _, Nat.le_refl _, by unfold maxLen; omega, rfl, by simp [rowBv, Bv.cells]⟩⟩
theorem below_two (w : World) (a b : Obj) : Below w.heap.size w ((w.alloc a).alloc b) := ((Below.refl _ _).alloc (Nat.le_refl _) _).alloc (by simp) _
theorem alloc_two (w : World) (a : Obj) (x0 x1 x2 x3 : Value) (ty : TypeId) : Box ((w.alloc a).alloc (.cells #[x0, x1, x2, x3] ty)) (w.heap.size + 1) x0 x1 x2 x3 := by
  have h := box_new (w.alloc a) x0 x1 x2 x3 ty
  rwa [show (w.alloc a).heap.size = w.heap.size + 1 by simp] at h
theorem Fresh.widen {w0 w ws w' w'' : World} {z : Tv} (h : Fresh w0 ws w' z) (hs : w.heap.size ≤ ws.heap.size) (hz : w'.heap.size ≤ w''.heap.size) (he : ∀ b, ws.heap.size ≤ b → b < w'.heap.size → w''.heap[b]? = w'.heap[b]?) : Fresh w0 w w'' z := fun W hb hsz hag =>
  h W hb (Nat.le_trans hz hsz) (fun b h1 h2 => (hag b (Nat.le_trans hs h1) (Nat.lt_of_lt_of_le h2 hz)).trans (he b h1 h2))
/-- A row of binds, opened: as values, and its cells in every later world. -/
theorem bds_open {w0 w : World} {v : Value} {bs : List Bn} (h : Bds w0 v bs) (hb0 : Below w0.heap.size w0 w) : ∃ a c, ∃ vs : List Bv, v = .slice a bs.length c ∧ vs.map Bv.bn = bs ∧ (∀ x ∈ vs, x.v.ok w0 ∧ x.s.size ≤ 9223372036854775807) ∧ (a = none → bs.length = 0) ∧
    ∀ W, Below w.heap.size w W → ∀ ad, a = some ad → ∀ q x, (rowBv vs)[q]? = some x → W.cell? (ad.add q) = some x := by
  obtain ⟨a, c, rfl, _, h⟩ := h
  rcases h with rfl | ⟨b, o, rfl, hlt, hr⟩
  · exact ⟨a, c, [], rfl, rfl, (fun x hx => by cases hx), (fun _ => rfl), fun W hW ad ha q x hq => by simp [rowBv] at hq⟩
  · obtain ⟨vs, hvt, hvo, hc⟩ := rows_vs hr
    refine ⟨_, c, vs, rfl, hvt, hvo, (fun h => by cases h), fun W hW ad ha q x hq => ?_⟩
    cases ha
    rw [addr_row]
    exact ((hb0.trans (hW.mono hb0.size)).cell (p := ⟨b, o + q, none⟩) hlt).trans (hc q x hq)
end Go.Proofs.Ytcecbdglepneaaa
