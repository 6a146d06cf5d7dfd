/-
  Binds that are put in late, as data: a term with the number of the bind from which on binds are yet to be put in it. No function of the program.
  The binds that were found, in memory: a box of three cells that leads to a row of binds, to a table of their places, and to a row of parts, what each bind's term has come to since. No function of the program.
-/
import Derived.Test.YtedljdcliilggaaU09
import Derived.Test.YtedljdcliilggaaU08
import Derived.Test.YtedljdcliilggaaU10
import Derived.Test.YtedljdcliilggaaU23
import Derived.Maps.OwnSet
namespace Go.Proofs.Ytedljdcliilggaa
open Go.RowKit

/-- A term in which binds are yet to be put, from one on. -/
structure Pt where
  t : Tm
  f : Nat
def Pt.whole (l : List Bn) (p : Pt) : Tm := appR (l.drop p.f) p.t
theorem appR_more : ∀ (l m : List Bn) (t : Tm), appR (l ++ m) t = appR m (appR l t)
  | [], m, t => by rw [List.nil_append, appR]
  | c :: l, m, t => by rw [List.cons_append, appR, appR, appR_more l m]
theorem drop_more {l : List Bn} {f : Nat} (h : f ≤ l.length) (c : Bn) : (l ++ [c]).drop f = l.drop f ++ [c] := List.drop_append_of_le_length h
theorem whole_more {l : List Bn} {p : Pt} (h : p.f ≤ l.length) (c : Bn) : p.whole (l ++ [c]) = appT [c] (p.whole l) := by
  unfold Pt.whole; rw [drop_more h, appR_more, appR, appR]
theorem has_var {s z : ByteArray} : HasV z (varT s) ↔ s = z := by
  unfold varT
  rw [hasV_mk]
  exact ⟨fun h => by rcases h with ⟨_, h⟩ | h; exact h; exact absurd h hasL_nil, fun h => .inl ⟨rfl, h⟩⟩
/-- A name that is bound from there on. -/
theorem appR_hit {l : List Bn} (hn : (l.map Prod.fst).Nodup) {i : Nat} {x : Bn} (hx : l[i]? = some x) {f : Nat} (hf : f ≤ i) : appR (l.drop f) (varT x.1) = appR (l.drop (i + 1)) x.2 := by
  obtain ⟨hi, rfl⟩ := List.getElem?_eq_some_iff.1 hx
  have e : l.drop f = (l.drop f).take (i - f) ++ l[i] :: l.drop (i + 1) := by
    have h1 := (List.take_append_drop (i - f) (l.drop f)).symm
    rw [List.drop_drop, show f + (i - f) = i by omega, List.drop_eq_getElem_cons hi] at h1
    exact h1
  rw [e, appR_more, appR_free (l := (l.drop f).take (i - f)) (varT l[i].1) (fun z hz h => ?_), appR_var, if_pos rfl]
  rw [has_var] at h
  subst h
  rw [List.map_take, List.map_drop] at hz
  obtain ⟨j, hj, he⟩ := List.getElem_of_mem hz
  rw [List.length_take, List.length_drop, List.length_map] at hj
  rw [List.getElem_take, List.getElem_drop] at he
  have h2 := List.pairwise_iff_getElem.1 hn (f + j) i (by rw [List.length_map]; omega) (by rw [List.length_map]; exact hi) (by omega)
  exact h2 (he.trans (List.getElem_map _).symm)
theorem appR_miss {l : List Bn} {s : ByteArray} {f : Nat} (h : ∀ j y, l[j]? = some y → f ≤ j → y.1 ≠ s) : appR (l.drop f) (varT s) = varT s :=
  appR_free _ fun z hz hv => by
    rw [has_var] at hv
    subst hv
    obtain ⟨y, hy, rfl⟩ := List.mem_map.1 hz
    obtain ⟨j, hj, rfl⟩ := List.getElem_of_mem hy
    rw [List.length_drop] at hj
    rw [List.getElem_drop] at h
    exact h (f + j) _ (List.getElem?_eq_getElem (by omega)) (by omega) rfl
/-- What each bind's term has come to since. -/
structure Den (l : List Bn) (ns : List Pt) : Prop where
  len : ns.length = l.length
  late : ∀ (i : Nat) p, ns[i]? = some p → i < p.f ∧ p.f ≤ l.length
  den : ∀ (i : Nat) p x, ns[i]? = some p → l[i]? = some x → p.whole l = appR (l.drop (i + 1)) x.2
  plain : ∀ p ∈ ns, PlainT p.t
theorem den_nil : Den [] [] := ⟨rfl, fun i p h => by simp at h, fun i p x h => by simp at h, fun p h => by cases h⟩
theorem Den.set {l : List Bn} {ns : List Pt} (h : Den l ns) {i : Nat} {p q : Pt} (hp : ns[i]? = some p) (h1 : i < q.f) (h2 : q.f ≤ l.length) (h3 : PlainT q.t) (h4 : q.whole l = p.whole l) : Den l (ns.set i q) where
  len := by rw [List.length_set]; exact h.len
  late := fun j r hr => by
    rw [List.getElem?_set] at hr
    split at hr
    · next e =>
      subst e
      split at hr
      · injection hr with hr; subst hr; exact ⟨h1, h2⟩
      · cases hr
    · exact h.late j r hr
  den := fun j r x hr hx => by
    rw [List.getElem?_set] at hr
    split at hr
    · next e =>
      subst e
      split at hr
      · injection hr with hr; subst hr; rw [h4]; exact h.den i p x hp hx
      · cases hr
    · exact h.den j r x hr hx
  plain := fun r hr => by
    rcases List.mem_or_eq_of_mem_set hr with hr | rfl
    · exact h.plain r hr
    · exact h3
theorem Den.snoc {l : List Bn} {ns : List Pt} (h : Den l ns) (s : ByteArray) {t : Tm} (ht : PlainT t) : Den (l ++ [(s, t)]) (ns ++ [⟨t, l.length + 1⟩]) where
  len := by rw [List.length_append, List.length_append, h.len]; rfl
  late := fun i p hp => by
    rw [List.length_append, List.length_singleton]
    rcases Nat.lt_or_ge i ns.length with hi | hi
    · rw [List.getElem?_append_left hi] at hp
      have := h.late i p hp
      omega
    · rw [List.getElem?_append_right hi] at hp
      have : i - ns.length = 0 := by
        rcases Nat.eq_zero_or_pos (i - ns.length) with e | e
        · exact e
        · rw [List.getElem?_eq_none (by rw [List.length_singleton]; omega)] at hp; cases hp
      rw [this] at hp
      simp only [List.getElem?_cons_zero, Option.some.injEq] at hp
      subst hp
      have := h.len
      simp only
      omega
  den := fun i p x hp hx => by
    rcases Nat.lt_or_ge i ns.length with hi | hi
    · rw [List.getElem?_append_left hi] at hp
      rw [List.getElem?_append_left (by rw [← h.len]; exact hi)] at hx
      have h1 := h.late i p hp
      rw [whole_more h1.2, h.den i p x hp hx, drop_more (by omega), appR_more, appR, appR]
    · rw [List.getElem?_append_right hi] at hp
      have e : i - ns.length = 0 := by
        rcases Nat.eq_zero_or_pos (i - ns.length) with e | e
        · exact e
        · rw [List.getElem?_eq_none (by rw [List.length_singleton]; omega)] at hp; cases hp
      rw [e] at hp
      have ei : i = l.length := by have := h.len; omega
      subst ei
      rw [List.getElem?_append_right (Nat.le_refl _), Nat.sub_self] at hx
      simp only [List.getElem?_cons_zero, Option.some.injEq] at hp hx
      subst hp hx
      rw [List.drop_eq_nil_of_le (by rw [List.length_append, List.length_singleton]; omega), appR]
      show appR (_ : List Bn) t = t
      rw [List.drop_eq_nil_of_le (by rw [List.length_append, List.length_singleton]; exact Nat.le_refl _), appR]
  plain := fun p hp => by
    rcases List.mem_append.1 hp with hp | hp
    · exact h.plain p hp
    · rw [List.mem_singleton] at hp; subst hp; exact ht
/-- A part at whose root no bind is to be put in. -/
structure Rooted (l : List Bn) (p q : Pt) : Prop where
  same : q.whole l = p.whole l
  late : p.f ≤ q.f
  to_ : q.f ≤ l.length
  plain : PlainT q.t
  free : q.t.kind = 1 → ∀ j y, l[j]? = some y → q.f ≤ j → y.1 ≠ q.t.name
theorem Rooted.var {l : List Bn} {p q : Pt} (h : Rooted l p q) (hk : q.t.kind = 1) : p.whole l = q.t := by
  rw [← h.same]
  unfold Pt.whole
  rw [plain_var h.plain hk]
  exact appR_miss (h.free hk)
theorem Rooted.head {l : List Bn} {p q : Pt} (h : Rooted l p q) (hk : q.t.kind ≠ 1) : p.whole l = .mk q.t.kind q.t.name q.t.n (q.t.args.map (appR (l.drop q.f))) := by
  rw [← h.same]
  unfold Pt.whole
  rw [appR_head _ hk]
theorem Rooted.kind {l : List Bn} {p q : Pt} (h : Rooted l p q) : (p.whole l).kind = q.t.kind := by
  by_cases hk : q.t.kind = 1
  · rw [h.var hk]
  · rw [h.head hk]; rfl
/-- A part whose root is a variable that is bound goes on as the bind's part. -/
theorem whole_hit {l : List Bn} {ns : List Pt} (hd : Den l ns) (hn : (l.map Prod.fst).Nodup) {p q : Pt} {i : Nat} {x : Bn} (hp : PlainT p.t) (hk : p.t.kind = 1) (hx : l[i]? = some x) (hs : x.1 = p.t.name) (hf : p.f ≤ i) (hq : ns[i]? = some q) : q.whole l = p.whole l := by
  rw [hd.den i q x hq hx]
  unfold Pt.whole
  rw [plain_var hp hk, ← hs, appR_hit hn hx hf]
mutual
/-- A term without more put into a term makes it no smaller. -/
theorem parts_le_app {a : List Bn} : ∀ (t : Tm), PlainT t → t.parts ≤ (appT a t).parts
  | .mk k z n xs, hp => by
    by_cases hk : k = 1
    · have h := hp.self (show (Tm.mk k z n xs).kind = 1 from hk)
      have h1 := h.1
      simp only [Tm.args] at h1
      have : (Tm.mk k z n xs).parts = 1 := by rw [parts_eq]; simp only [Tm.args]; rw [h1, partsL_nil]
      rw [this]; exact parts_pos _
    · have h1 := parts_le_appL (a := a) xs hp.args
      rw [app_head (t := .mk k z n xs) hk, parts_eq, parts_eq]
      simp only [Tm.args]
      omega
theorem parts_le_appL {a : List Bn} : ∀ (l : List Tm), PlainL l → partsL l ≤ partsL (appL a l)
  | [], _ => by rw [appL]; exact Nat.le_refl _
  | t :: r, hp => by
    have h1 := parts_le_app (a := a) t hp.head
    have h2 := parts_le_appL (a := a) r hp.tail
    rw [appL, partsL_cons, partsL_cons]; omega
end
theorem parts_le_appR : ∀ {l : List Bn} (t : Tm), (∀ x ∈ l, PlainT x.2) → PlainT t → t.parts ≤ (appR l t).parts
  | [], t, _, _ => by rw [appR]; exact Nat.le_refl _
  | c :: l, t, hl, ht => by
    have hP : ∀ x ∈ [c], PlainT x.2 := fun x hx => by rw [List.mem_singleton] at hx; subst hx; exact hl _ List.mem_cons_self
    have h1 := parts_le_app (a := [c]) t ht
    have h2 := parts_le_appR (l := l) (appT [c] t) (fun x hx => hl x (List.mem_cons_of_mem _ hx)) (plain_app hP t ht)
    rw [appR]; omega
theorem whole_parts {l : List Bn} (hl : ∀ x ∈ l, PlainT x.2) {p : Pt} (hp : PlainT p.t) : p.t.parts ≤ (p.whole l).parts :=
  parts_le_appR p.t (fun x hx => hl x (List.mem_of_mem_drop hx)) hp
theorem whole_plain {l : List Bn} (hl : ∀ x ∈ l, PlainT x.2) {p : Pt} (hp : PlainT p.t) : PlainT (p.whole l) :=
  plain_appR p.t (fun x hx => hl x (List.mem_of_mem_drop hx)) hp

/-! ### What a function tells of a term's variables, put in -/
theorem varStep_keep {acc : List ByteArray} {s : ByteArray} (x : Tm) (h : s ∈ acc) : s ∈ varStep acc x := by
  unfold varStep; split
  · exact List.mem_append_left _ h
  · exact h
theorem fold_keep {s : ByteArray} : ∀ (l : List Tm) {acc : List ByteArray}, s ∈ acc → s ∈ l.foldl varStep acc
  | [], _, h => h
  | x :: l, _, h => fold_keep l (varStep_keep x h)
theorem fold_has {y : Tm} (hk : y.kind = 1) : ∀ (l : List Tm) {acc : List ByteArray}, y ∈ l → y.name ∈ l.foldl varStep acc
  | [], _, h => by cases h
  | x :: l, acc, h => by
    rcases List.mem_cons.1 h with rfl | h
    · refine fold_keep l ?_
      unfold varStep
      by_cases hc : Lib.containsS acc y.name = false
      · rw [if_pos ⟨by rw [hk]; rfl, hc⟩]; exact List.mem_append_right _ (by simp)
      · rw [if_neg (fun h => hc h.2)]
        exact (Lib.containsS_iff _ _).1 (by simpa using hc)
    · exact fold_has hk l h
theorem has_in {s : ByteArray} {t : Tm} (h : HasV s t) : s ∈ t.vars := by
  obtain ⟨x, hx, hk, rfl⟩ := h
  exact fold_has hk t.all hx
/-- What a function tells of names, as binds. -/
def tellB (f : ByteArray → Option Tm) : List ByteArray → List Bn
  | [] => []
  | s :: r => match f s with
    | some u => (s, u) :: tellB f r
    | none => tellB f r
theorem tellB_append (f : ByteArray → Option Tm) : ∀ (a b : List ByteArray), tellB f (a ++ b) = tellB f a ++ tellB f b
  | [], b => rfl
  | s :: a, b => by
    rw [List.cons_append, tellB, tellB, tellB_append f a b]
    cases f s <;> rfl
theorem tellB_get (f : ByteArray → Option Tm) {s : ByteArray} : ∀ {l : List ByteArray}, s ∈ l → getB (tellB f l) s = f s
  | z :: r, h => by
    rw [tellB]
    by_cases e : z = s
    · subst e
      cases hf : f z with
      | some u => rw [getB_hit (z, u) _ rfl]
      | none =>
        by_cases hr : z ∈ r
        · rw [← hf]; simp only [hf]; rw [tellB_get f hr, hf]
        · exact getB_none fun x hx e => hr (by
            rw [← e]; exact tellB_mem f hx)
    · have hr : s ∈ r := by
        rcases List.mem_cons.1 h with h | h
        · exact absurd h.symm e
        · exact h
      cases hf : f z with
      | some u => simp only; rw [getB_miss (z, u) _ e, tellB_get f hr]
      | none => simp only; exact tellB_get f hr
where
  tellB_mem (f : ByteArray → Option Tm) {x : Bn} : ∀ {l : List ByteArray}, x ∈ tellB f l → x.1 ∈ l
  | z :: r, h => by
    rw [tellB] at h
    cases hf : f z with
    | some u =>
      rw [hf] at h
      rcases List.mem_cons.1 h with rfl | h
      · exact List.mem_cons_self
      · exact List.mem_cons_of_mem _ (tellB_mem f h)
    | none =>
      rw [hf] at h
      exact List.mem_cons_of_mem _ (tellB_mem f h)
theorem tellB_len (f : ByteArray → Option Tm) : ∀ (l : List ByteArray), (tellB f l).length ≤ l.length
  | [] => Nat.le_refl _
  | s :: r => by
    have := tellB_len f r
    rw [tellB]
    cases f s with
    | some u => simp only [List.length_cons]; omega
    | none => simp only [List.length_cons]; omega
mutual
theorem app_on {a b : List Bn} : ∀ (t : Tm), PlainT t → (∀ s, HasV s t → appT a (varT s) = appT b (varT s)) → appT a t = appT b t
  | .mk k z n xs, hp, h => by
    by_cases hk : k = 1
    · have e := plain_var hp hk
      simp only [Tm.name] at e
      have := h z (hasV_mk.2 (.inl ⟨hk, rfl⟩))
      rw [e]; exact this
    · rw [app_head (t := .mk k z n xs) hk, app_head (t := .mk k z n xs) hk]
      simp only [Tm.args]
      rw [app_onL xs hp.args (fun s hs => h s (hasV_mk.2 (.inr hs)))]
theorem app_onL {a b : List Bn} : ∀ (l : List Tm), PlainL l → (∀ s, HasL s l → appT a (varT s) = appT b (varT s)) → appL a l = appL b l
  | [], _, _ => by rw [appL, appL]
  | t :: r, hp, h => by rw [appL, appL, app_on t hp.head (fun s hs => h s (hasL_cons.2 (.inl hs))), app_onL r hp.tail (fun s hs => h s (hasL_cons.2 (.inr hs)))]
end
theorem app_varT (a : List Bn) (s : ByteArray) : appT a (varT s) = (getB a s).getD (varT s) := by
  unfold varT; rw [appT, if_pos rfl, appL]; cases getB a s <;> rfl
/-- What is told of a term's variables, put in: as binds that do the same to each of them. -/
theorem tell_app {f : ByteArray → Option Tm} {b : List Bn} {t : Tm} (hp : PlainT t) (h : ∀ s, HasV s t → (f s).getD (varT s) = appT b (varT s)) : appT (tellB f t.vars) t = appT b t :=
  app_on t hp fun s hs => by rw [app_varT, tellB_get f (has_in hs), h s hs]
open Classical in
/-- What is told of a name where binds from one on are put in. -/
noncomputable def foundB (l : List Bn) (f : Nat) (s : ByteArray) : Option Tm := if ∃ j y, l[j]? = some y ∧ f ≤ j ∧ y.1 = s then some (appR (l.drop f) (varT s)) else none
theorem foundB_hit {l : List Bn} {f j : Nat} {y : Bn} (h : l[j]? = some y) (hf : f ≤ j) : foundB l f y.1 = some (appR (l.drop f) (varT y.1)) := by
  unfold foundB; rw [if_pos ⟨j, y, h, hf, rfl⟩]
theorem foundB_miss {l : List Bn} {f : Nat} {s : ByteArray} (h : ∀ j y, l[j]? = some y → f ≤ j → y.1 ≠ s) : foundB l f s = none := by
  unfold foundB; rw [if_neg (fun ⟨j, y, h1, h2, h3⟩ => h j y h1 h2 h3)]
theorem found_whole (l : List Bn) {p : Pt} (hp : PlainT p.t) : appT (tellB (foundB l p.f) p.t.vars) p.t = p.whole l := by
  unfold Pt.whole
  rw [appR_solve p.t hp]
  refine tell_app hp fun s _ => ?_
  rw [← appR_varT]
  unfold foundB; split
  · rfl
  · next h => rw [appR_miss (fun j y h1 h2 h3 => h ⟨j, y, h1, h2, h3⟩)]; rfl
end Go.Proofs.Ytedljdcliilggaa

namespace Go.Proofs.Ytedljdcliilggaa
open Go.RowKit Go.Maps

/-- A part as values: a term, and from which bind on binds are yet to be put in it. -/
structure Pv where
  v : Tv
  f : Nat
def Pv.cells (p : Pv) : List Value := [.int .i64 p.v.t.kind, .string p.v.t.name, .int .i64 p.v.t.n, .slice p.v.a p.v.t.args.length p.v.c, .int .i64 p.f]
def Pv.val (p : Pv) : Value := .agg #[.int .i64 p.v.t.kind, .string p.v.t.name, .int .i64 p.v.t.n, .slice p.v.a p.v.t.args.length p.v.c, .int .i64 p.f]
def Pv.pt (p : Pv) : Pt := ⟨p.v.t, p.f⟩
def rowPv (ps : List Pv) : List Value := ps.flatMap Pv.cells
theorem rowPv_cons (v : Pv) (r : List Pv) : rowPv (v :: r) = v.cells ++ rowPv r := by unfold rowPv; rw [List.flatMap_cons]
theorem rowPv_length (vs : List Pv) : (rowPv vs).length = vs.length * 5 := by
  induction vs with
  | nil => rfl
  | cons v r ih => rw [rowPv_cons, List.length_append, ih, List.length_cons]; simp [Pv.cells]; omega
theorem rowPv_append (a b : List Pv) : rowPv (a ++ b) = rowPv a ++ rowPv b := by unfold rowPv; rw [List.flatMap_append]
theorem rowPv_one (v : Pv) : rowPv [v] = v.cells := by unfold rowPv; simp
theorem rowPv_get : ∀ (vs : List Pv) (j : Nat) (h : j < vs.length) (i : Nat), i < 5 → (rowPv vs)[j * 5 + i]? = vs[j].cells[i]?
  | [], _, h, _, _ => by simp at h
  | v :: r, 0, _, i, hi => by
    rw [rowPv_cons, List.getElem?_append_left (by simp [Pv.cells]; omega)]; simp
  | v :: r, j + 1, h, i, hi => by
    have := rowPv_get r j (by simpa using h) i hi
    rw [rowPv_cons, List.getElem?_append_right (by simp [Pv.cells]; omega)]
    rw [show (j + 1) * 5 + i - v.cells.length = j * 5 + i from by simp [Pv.cells]; omega, this]
    simp
theorem rowPv_set (u : Pv) : ∀ (vs : List Pv) (k : Nat), k < vs.length → rowPv (vs.set k u) = (((((rowPv vs).set (k * 5) (.int .i64 u.v.t.kind)).set (k * 5 + 1) (.string u.v.t.name)).set (k * 5 + 2) (.int .i64 u.v.t.n)).set (k * 5 + 3) (.slice u.v.a u.v.t.args.length u.v.c)).set (k * 5 + 4) (.int .i64 u.f)
  | [], _, h => by simp at h
  | v :: r, 0, _ => by rw [List.set_cons_zero, rowPv_cons, rowPv_cons]; rfl
  | v :: r, k + 1, h => by
    rw [List.set_cons_succ, rowPv_cons, rowPv_cons, rowPv_set u r k (by simpa using h)]
    have e : ∀ (l : List Value) (i : Nat) (x : Value), (v.cells ++ l).set (5 + i) x = v.cells ++ l.set i x := fun l i x => by
      rw [List.set_append_right _ _ (by simp [Pv.cells])]; congr 2; simp [Pv.cells]
    rw [show (k + 1) * 5 = 5 + k * 5 from by omega, show 5 + k * 5 + 1 = 5 + (k * 5 + 1) from by omega, show 5 + k * 5 + 2 = 5 + (k * 5 + 2) from by omega, show 5 + k * 5 + 3 = 5 + (k * 5 + 3) from by omega, show 5 + k * 5 + 4 = 5 + (k * 5 + 4) from by omega, e, e, e, e, e]
/-- Five cells in the midst of a block. -/
structure Five (w : World) (g o : Nat) (x0 x1 x2 x3 x4 : Value) : Prop where
  c0 : w.cell? ⟨g, o, none⟩ = some x0
  c1 : w.cell? ⟨g, o + 1, none⟩ = some x1
  c2 : w.cell? ⟨g, o + 2, none⟩ = some x2
  c3 : w.cell? ⟨g, o + 3, none⟩ = some x3
  c4 : w.cell? ⟨g, o + 4, none⟩ = some x4
  f0 : w.frozen? ⟨g, o, none⟩ = false
  f1 : w.frozen? ⟨g, o + 1, none⟩ = false
  f2 : w.frozen? ⟨g, o + 2, none⟩ = false
  f3 : w.frozen? ⟨g, o + 3, none⟩ = false
  f4 : w.frozen? ⟨g, o + 4, none⟩ = false
theorem Five.same {w W : World} {g o : Nat} {x0 x1 x2 x3 x4 : Value} (h : Five w g o x0 x1 x2 x3 x4) (hb : W.heap[g]? = w.heap[g]?) : Five W g o x0 x1 x2 x3 x4 := by
  have hc := fun i => World.cell?_of_block (w := w) (w' := W) (a := ⟨g, i, none⟩) hb
  have hf := fun i => World.frozen?_of_block (w := w) (w' := W) (a := ⟨g, i, none⟩) hb
  exact ⟨(hc _).trans h.c0, (hc _).trans h.c1, (hc _).trans h.c2, (hc _).trans h.c3, (hc _).trans h.c4, (hf _).trans h.f0, (hf _).trans h.f1, (hf _).trans h.f2, (hf _).trans h.f3, (hf _).trans h.f4⟩
theorem five_of {w : World} {g o : Nat} {cur : Array Value} {e : TypeId} {x0 x1 x2 x3 x4 : Value} (h : w.heap[g]? = some (.cells cur e (0, 0))) (h0 : cur[o]? = some x0) (h1 : cur[o + 1]? = some x1) (h2 : cur[o + 2]? = some x2) (h3 : cur[o + 3]? = some x3) (h4 : cur[o + 4]? = some x4) : Five w g o x0 x1 x2 x3 x4 := by
  have c := fun i => cell_of_row w g i cur e (0, 0) h
  have f : ∀ i, w.frozen? ⟨g, i, none⟩ = false := fun i => by simp [World.frozen?, h]
  exact ⟨(c _).trans h0, (c _).trans h1, (c _).trans h2, (c _).trans h3, (c _).trans h4, f _, f _, f _, f _, f _⟩
/-- A part of the row, in cells. -/
theorem now_five {w : World} {base : Nat} {e : TypeId} {g n m cap : Nat} {vs : List Pv} (h : w.ownsRow base e 5 (.slice (some ⟨g, 0, none⟩) m cap) n (rowPv vs)) {k : Nat} {p : Pv} (hk : vs[k]? = some p) : Five w g (k * 5) (.int .i64 p.v.t.kind) (.string p.v.t.name) (.int .i64 p.v.t.n) (.slice p.v.a p.v.t.args.length p.v.c) (.int .i64 p.f) := by
  obtain ⟨hkl, rfl⟩ := List.getElem?_eq_some_iff.1 hk
  obtain ⟨hn, ⟨h, _⟩ | ⟨g', cap', cur, hv, hb, hgc, h1, h2, h3, hgt⟩⟩ := h
  · cases h
  · cases hv
    have hc : ∀ i, i < 5 → cur[k * 5 + i]? = vs[k].cells[i]? := fun i hi => by
      rw [← rowPv_get vs k hkl i hi, ← hgt, List.getElem?_take_of_lt (by rw [rowPv_length] at hn; omega)]
      simp
    exact five_of hgc (hc 0 (by omega)) (hc 1 (by omega)) (hc 2 (by omega)) (hc 3 (by omega)) (hc 4 (by omega))
/-- A store of a part into the row. -/
theorem now_put {w : World} {base : Nat} {e : TypeId} {g n m cap : Nat} {vs : List Pv} (h : w.ownsRow base e 5 (.slice (some ⟨g, 0, none⟩) m cap) n (rowPv vs)) (u : Pv) (k : Nat) (hk : k < vs.length) :
    (((((w.setCell ⟨g, k * 5, none⟩ (.int .i64 u.v.t.kind)).setCell ⟨g, k * 5 + 1, none⟩ (.string u.v.t.name)).setCell ⟨g, k * 5 + 2, none⟩ (.int .i64 u.v.t.n)).setCell ⟨g, k * 5 + 3, none⟩ (.slice u.v.a u.v.t.args.length u.v.c)).setCell ⟨g, k * 5 + 4, none⟩ (.int .i64 u.f)).ownsRow base e 5 (.slice (some ⟨g, 0, none⟩) m cap) n (rowPv (vs.set k u)) := by
  obtain ⟨hn, ⟨h, _⟩ | ⟨g', cap', cur, hv, hb, hgc, h1, h2, h3, hgt⟩⟩ := h
  · cases h
  · cases hv
    refine ⟨by rw [rowPv_length, List.length_set, ← rowPv_length]; exact hn, .inr ⟨g, cap, _, rfl, hb, heap_setCell_same (heap_setCell_same (heap_setCell_same (heap_setCell_same (heap_setCell_same hgc _) _) _) _) _, h1, h2, by simpa using h3, ?_⟩⟩
    rw [rowPv_set u vs k hk, ← hgt]
    simp only [Array.toList_setIfInBounds, List.take_set]
theorem own_same {w W : World} {base : Nat} {e : TypeId} {size : Nat} {v : Value} {n : Nat} {xs : List Value} (h : w.ownsRow base e size v n xs) (hb : ∀ g, v.ownBlock = some g → W.heap[g]? = w.heap[g]?) : W.ownsRow base e size v n xs := by
  obtain ⟨hn, h⟩ := h
  refine ⟨hn, ?_⟩
  rcases h with h | ⟨g, cap, cur, rfl, hbb, hg, hr⟩
  · exact .inl h
  · exact .inr ⟨g, cap, cur, rfl, hbb, (hb g rfl).trans hg, hr⟩
theorem own_block {w : World} {base : Nat} {e : TypeId} {size : Nat} {v : Value} {n : Nat} {xs : List Value} (h : w.ownsRow base e size v n xs) {g : Nat} (hg : v.ownBlock = some g) : ∃ cur, w.heap[g]? = some (.cells cur e (0, 0)) := by
  obtain ⟨_, ⟨rfl, _⟩ | ⟨g', cap, cur, rfl, _, hgb, _⟩⟩ := h
  · cases hg
  · cases hg; exact ⟨cur, hgb⟩
theorem own_shape {w : World} {base : Nat} {e : TypeId} {size n : Nat} {v : Value} {xs : List Value} (h : w.ownsRow base e size v n xs) : ∃ a c, v = .slice a n c ∧ (0 < n → ∃ g, a = some ⟨g, 0, none⟩) := by
  obtain ⟨_, ⟨rfl, rfl⟩ | ⟨g, cap, _, rfl, _⟩⟩ := h
  · exact ⟨none, 0, rfl, fun h => by omega⟩
  · exact ⟨_, cap, rfl, fun _ => ⟨g, rfl⟩⟩

/-- A name as a key. -/
def keyF (s : ByteArray) : Lit := .string s.data.toList
theorem keyF_inj {s z : ByteArray} (h : keyF s = keyF z) : s = z := by
  unfold keyF at h
  injection h with h
  cases s; cases z
  simp only at h
  congr 1
  exact Array.toList_inj.1 h
theorem keyF_is (s : ByteArray) : WideAt.IsKeyLit (keyF s) := by unfold keyF; trivial
theorem keyed_name : Keyed Try.prog 9 := string_keyed Try.underlying9
theorem zeroI (w : World) : (zeroValue 3).run Try.prog w = .ok (.int .i64 0) w := by kernel_rfl
theorem keyOfF {s : ByteArray} (h : s.size ≤ 9223372036854775807) : keyOf Try.prog 9 (.string s) = some (keyF s) := WideMaps.keyOf_string_mk Try.underlying9 (by unfold maxLen; omega)
/-- A table has the place of each bind, and no other name. -/
def NameAt (D : DataW Unit) (l : List Bn) : Prop := IsMap D ∧ ∀ s : ByteArray, (has D (keyF s) = true → ∃ (i : Nat) (x : Bn), l[i]? = some x ∧ x.1 = s ∧ D.atKey (keyF s) (.lit (.int .i64 0)) = .lit (.int .i64 i)) ∧ (has D (keyF s) = false → ∀ x ∈ l, x.1 ≠ s)
theorem nameAt_none : NameAt (.map []) [] := ⟨isMap_empty, fun s => ⟨fun h => by simp [has] at h, fun _ x hx => by cases hx⟩⟩
theorem NameAt.snoc {D : DataW Unit} {l : List Bn} (h : NameAt D l) (s : ByteArray) (t : Tm) : NameAt (D.put (keyF s) (.lit (.int .i64 l.length))) (l ++ [(s, t)]) := by
  refine ⟨h.1.put _ _, fun z => ?_⟩
  by_cases e : s = z
  · subst e
    refine ⟨fun _ => ⟨l.length, (s, t), by simp, rfl, atKey_put_same h.1 (keyF_is s) _ _⟩, fun hf => ?_⟩
    rw [has_put_same h.1 (keyF_is s)] at hf; cases hf
  · have hne : keyF z ≠ keyF s := fun h => e (keyF_inj h).symm
    rw [has_put_other hne, atKey_put_other hne]
    refine ⟨fun hh => ?_, fun hh x hx => ?_⟩
    · obtain ⟨i, x, h1, h2, h3⟩ := (h.2 z).1 hh
      exact ⟨i, x, by rw [List.getElem?_append_left (List.getElem?_eq_some_iff.1 h1).1]; exact h1, h2, h3⟩
    · rcases List.mem_append.1 hx with hx | hx
      · exact (h.2 z).2 hh x hx
      · rw [List.mem_singleton] at hx; subst hx; exact e

/-- What was found, in memory: the box fb, the table bm, the binds' row vb, the parts' row vn. -/
structure FnAt (w0 W : World) (fb bm : Nat) (vb vn : Value) (l : List Bn) (ps : List Pv) : Prop where
  box : W.heap[fb]? = some (.cells #[vb, .map (some bm), vn] 61 (0, 0))
  row : ∃ vs : List Bv, vs.map Bv.bn = l ∧ (∀ x ∈ vs, x.v.ok w0 ∧ x.s.size ≤ 9223372036854775807) ∧ W.ownsRow 0 41 5 vb l.length (rowBv vs)
  now : W.ownsRow 0 83 5 vn ps.length (rowPv ps)
  good : ∀ p ∈ ps, p.v.ok w0
  table : ∃ D, W.ownsMap Try.prog 9 (plainElem Try.prog 3) bm l.length D ∧ NameAt D l
  blf : Blind w0 fb
  blm : Blind w0 bm
  blb : ∀ g, vb.ownBlock = some g → Blind w0 g
  bln : ∀ g, vn.ownBlock = some g → Blind w0 g
/-- The blocks of what was found. -/
def InFn (fb bm : Nat) (vb vn : Value) (k : Nat) : Prop := k = fb ∨ k = bm ∨ vb.ownBlock = some k ∨ vn.ownBlock = some k
theorem FnAt.lt {w0 W : World} {fb bm : Nat} {vb vn : Value} {l : List Bn} {ps : List Pv} (h : FnAt w0 W fb bm vb vn l ps) {k : Nat} (hk : InFn fb bm vb vn k) : k < W.heap.size := by
  rcases hk with rfl | rfl | hk | hk
  · exact (Array.getElem?_eq_some_iff.1 h.box).1
  · obtain ⟨D, h1, _⟩ := h.table; exact h1.lt
  · obtain ⟨vs, _, _, h1⟩ := h.row
    obtain ⟨cur, h2⟩ := own_block h1 hk
    exact (Array.getElem?_eq_some_iff.1 h2).1
  · obtain ⟨cur, h2⟩ := own_block h.now hk
    exact (Array.getElem?_eq_some_iff.1 h2).1
theorem map_same {H : Type} {P : Program} {k : TypeId} {R : Value → Option (DataW H × List MemPlace)} {b n : Nat} {D : DataW H} {w W : World} (h : w.ownsMap P k R b n D) (hb : W.heap[b]? = w.heap[b]?) : W.ownsMap P k R b n D := by
  obtain ⟨es, clock, hh, F, hs, hD⟩ := h
  exact ⟨es, clock, hb.trans hh, F, hs, hD⟩
/-- It stays where its blocks stay. -/
theorem FnAt.same {w0 W w1 W1 : World} {fb bm : Nat} {vb vn : Value} {l : List Bn} {ps : List Pv} (h : FnAt w0 W fb bm vb vn l ps) (hu : Reads w0 w1) (hbl : ∀ g, g < W.heap.size → Blind w0 g → Blind w1 g) (hk : ∀ k, InFn fb bm vb vn k → W1.heap[k]? = W.heap[k]?) : FnAt w1 W1 fb bm vb vn l ps where
  box := (hk fb (.inl rfl)).trans h.box
  row := by
    obtain ⟨vs, h1, h2, h3⟩ := h.row
    exact ⟨vs, h1, fun x hx => ⟨(h2 x hx).1.reads hu, (h2 x hx).2⟩, own_same h3 fun g hg => hk g (.inr (.inr (.inl hg)))⟩
  now := own_same h.now fun g hg => hk g (.inr (.inr (.inr hg)))
  good := fun p hp => (h.good p hp).reads hu
  table := by
    obtain ⟨D, h1, h2⟩ := h.table
    exact ⟨D, map_same h1 (hk bm (.inr (.inl rfl))), h2⟩
  blf := hbl fb (h.lt (.inl rfl)) h.blf
  blm := hbl bm (h.lt (.inr (.inl rfl))) h.blm
  blb := fun g hg => hbl g (h.lt (.inr (.inr (.inl hg)))) (h.blb g hg)
  bln := fun g hg => hbl g (h.lt (.inr (.inr (.inr hg)))) (h.bln g hg)
theorem FnAt.step {w0 W w1 W1 : World} {fb bm : Nat} {vb vn : Value} {l : List Bn} {ps : List Pv} {C : Nat → Prop} (h : FnAt w0 W fb bm vb vn l ps) (hs : Step C w0 W w1 W1) (hC : ∀ k, InFn fb bm vb vn k → ¬ C k) : FnAt w1 W1 fb bm vb vn l ps :=
  h.same hs.up hs.blind fun k hk => hs.keep k (h.lt hk) (hC k hk)
theorem FnAt.below {w0 W W1 : World} {fb bm : Nat} {vb vn : Value} {l : List Bn} {ps : List Pv} (h : FnAt w0 W fb bm vb vn l ps) (hb : Below W.heap.size W W1) : FnAt w0 W1 fb bm vb vn l ps :=
  h.same (Reads.refl _) (fun _ _ h => h) fun k hk => hb.block k (h.lt hk)
theorem FnAt.len {w0 W : World} {fb bm : Nat} {vb vn : Value} {l : List Bn} {ps : List Pv} (h : FnAt w0 W fb bm vb vn l ps) : ∃ ab cb an cn, vb = .slice ab l.length cb ∧ vn = .slice an ps.length cn ∧ (0 < ps.length → ∃ g, an = some ⟨g, 0, none⟩) := by
  obtain ⟨vs, _, _, h1⟩ := h.row
  obtain ⟨ab, cb, e1, _⟩ := own_shape h1
  obtain ⟨an, cn, e2, h2⟩ := own_shape h.now
  exact ⟨ab, cb, an, cn, e1, e2, h2⟩
/-- Three cells of a box. -/
structure Three (W : World) (g : Nat) (x y z : Value) : Prop where
  c0 : W.cell? ⟨g, 0, none⟩ = some x
  c1 : W.cell? ⟨g, 1, none⟩ = some y
  c2 : W.cell? ⟨g, 2, none⟩ = some z
  f0 : W.frozen? ⟨g, 0, none⟩ = false
  f1 : W.frozen? ⟨g, 1, none⟩ = false
  f2 : W.frozen? ⟨g, 2, none⟩ = false
theorem three_of {W : World} {g : Nat} {x y z : Value} {t : TypeId} (h : W.heap[g]? = some (.cells #[x, y, z] t (0, 0))) : Three W g x y z where
  c0 := by rw [cell_of_row W g 0 _ _ (0, 0) h]; rfl
  c1 := by rw [cell_of_row W g 1 _ _ (0, 0) h]; rfl
  c2 := by rw [cell_of_row W g 2 _ _ (0, 0) h]; rfl
  f0 := by simp [World.frozen?, h]
  f1 := by simp [World.frozen?, h]
  f2 := by simp [World.frozen?, h]
/-- Only the row of parts turns. -/
def InNow (vn : Value) (k : Nat) : Prop := vn.ownBlock = some k
/-- Blocks of different types are different. -/
theorem FnAt.apart {w0 W : World} {fb bm : Nat} {vb vn : Value} {l : List Bn} {ps : List Pv} (h : FnAt w0 W fb bm vb vn l ps) {g : Nat} (hg : vn.ownBlock = some g) : g ≠ fb ∧ g ≠ bm ∧ vb.ownBlock ≠ some g := by
  obtain ⟨cur, h1⟩ := own_block h.now hg
  refine ⟨fun e => ?_, fun e => ?_, fun e => ?_⟩
  · rw [e, h.box] at h1; simp at h1
  · obtain ⟨D, ⟨es, clock, h2, _⟩, _⟩ := h.table
    rw [e, h2] at h1; cases h1
  · obtain ⟨vs, _, _, h2⟩ := h.row
    obtain ⟨cur2, h3⟩ := own_block h2 e
    rw [h1] at h3; simp at h3
/-- One part written anew. -/
theorem FnAt.put {w0 W W1 : World} {fb bm g m cap : Nat} {vb : Value} {l : List Bn} {ps : List Pv} (h : FnAt w0 W fb bm vb (.slice (some ⟨g, 0, none⟩) m cap) l ps) (u : Pv) (hu : u.v.ok w0) {k : Nat} (hk : k < ps.length)
    (hW : W1 = (((((W.setCell ⟨g, k * 5, none⟩ (.int .i64 u.v.t.kind)).setCell ⟨g, k * 5 + 1, none⟩ (.string u.v.t.name)).setCell ⟨g, k * 5 + 2, none⟩ (.int .i64 u.v.t.n)).setCell ⟨g, k * 5 + 3, none⟩ (.slice u.v.a u.v.t.args.length u.v.c)).setCell ⟨g, k * 5 + 4, none⟩ (.int .i64 u.f))) :
    FnAt w0 W1 fb bm vb (.slice (some ⟨g, 0, none⟩) m cap) l (ps.set k u) := by
  obtain ⟨n1, n2, n3⟩ := h.apart (g := g) rfl
  have other : ∀ b, b ≠ g → W1.heap[b]? = W.heap[b]? := fun b hb => by
    rw [hW, Below.heap_setCell _ _ _ _ hb, Below.heap_setCell _ _ _ _ hb, Below.heap_setCell _ _ _ _ hb, Below.heap_setCell _ _ _ _ hb, Below.heap_setCell _ _ _ _ hb]
  exact {
    box := (other fb (fun e => n1 e.symm)).trans h.box
    row := by
      obtain ⟨vs, h1, h2, h3⟩ := h.row
      exact ⟨vs, h1, h2, own_same h3 fun b hb => other b (fun e => n3 (e ▸ hb))⟩
    now := by rw [hW, List.length_set]; exact now_put h.now u k hk
    good := fun p hp => by
      rcases List.mem_or_eq_of_mem_set hp with hp | rfl
      · exact h.good p hp
      · exact hu
    table := by
      obtain ⟨D, h1, h2⟩ := h.table
      exact ⟨D, map_same h1 (other bm (fun e => n2 e.symm)), h2⟩
    blf := h.blf
    blm := h.blm
    blb := h.blb
    bln := h.bln }
theorem step_five {C : Nat → Prop} {w0 W w1 W1 : World} (h : Step C w0 W w1 W1) {g : Nat} (hb : Blind w1 g) (hc : g < W.heap.size → C g) (i0 i1 i2 i3 i4 : Nat) (u0 u1 u2 u3 u4 : Value) :
    Step C w0 W w1 (((((W1.setCell ⟨g, i0, none⟩ u0).setCell ⟨g, i1, none⟩ u1).setCell ⟨g, i2, none⟩ u2).setCell ⟨g, i3, none⟩ u3).setCell ⟨g, i4, none⟩ u4) :=
  ((((h.set (p := ⟨g, i0, none⟩) hb hc u0).set (p := ⟨g, i1, none⟩) hb hc u1).set (p := ⟨g, i2, none⟩) hb hc u2).set (p := ⟨g, i3, none⟩) hb hc u3).set (p := ⟨g, i4, none⟩) hb hc u4
theorem step_four {C : Nat → Prop} {w0 W w1 W1 : World} (h : Step C w0 W w1 W1) {g : Nat} (hb : Blind w1 g) (hc : g < W.heap.size → C g) (i0 i1 i2 i3 : Nat) (u0 u1 u2 u3 : Value) :
    Step C w0 W w1 ((((W1.setCell ⟨g, i0, none⟩ u0).setCell ⟨g, i1, none⟩ u1).setCell ⟨g, i2, none⟩ u2).setCell ⟨g, i3, none⟩ u3) :=
  (((h.set (p := ⟨g, i0, none⟩) hb hc u0).set (p := ⟨g, i1, none⟩) hb hc u1).set (p := ⟨g, i2, none⟩) hb hc u2).set (p := ⟨g, i3, none⟩) hb hc u3
end Go.Proofs.Ytedljdcliilggaa
