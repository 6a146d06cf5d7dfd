/-
  What is found, put into one another: it does the same at once as one behind the other; putting it in once more changes nothing; whatever makes both alike is some binds behind it. No function of the program.
  A row of the call's own, with the elements of a slice behind it that may have none and no memory. No function of the program.
  Each bind with all behind it put in, in order, by the reference of layer 7: Solve.
-/
import Derived.Test.YtedljdcliilggaaU08
import Derived.Test.YtedljdcliilggaaU01
import Derived.Maps.AppendAt
import Derived.Laws.AppendOwnNone
import Derived.Test.YtedljdcliilggaaU05
import Derived.Test.YtedljdcliilggaaU06
import Derived.Deep.RegionHeld3
import Derived.Deep.AppendLies
import Derived.Deep.RegionLaw
namespace Go.Proofs.Ytedljdcliilggaa
open Go.RowKit

/-- ONE ANSWER. -/
theorem row_one {us bs : List Tm} {o : Option (List Bn)} (h : RowU us bs o) : ∀ {q : Option (List Bn)}, RowU us bs q → o = q := by
  induction h with
  | done bs => intro q h; cases h; rfl
  | same h ih =>
    intro q g
    cases g with
    | same g => exact ih g
    | occ hn => exact absurd rfl hn
    | occ' hn => exact absurd rfl hn
    | bind hn => exact absurd rfl hn
    | bind' hn => exact absurd rfl hn
    | clash _ _ hh => exact absurd ⟨headB_iff.2 ⟨rfl, rfl, rfl⟩, rfl⟩ hh
    | args hn => exact absurd rfl hn
  | occ hn hk ho =>
    intro q g
    cases g with
    | same g => exact absurd rfl hn
    | occ => rfl
    | occ' => rfl
    | bind _ _ ho' => exact absurd ho ho'
    | bind' _ hk' => exact absurd hk hk'
    | clash => rfl
    | args _ hk' => exact absurd hk hk'
  | occ' hn hk hl ho =>
    intro q g
    cases g with
    | same g => exact absurd rfl hn
    | occ => rfl
    | occ' => rfl
    | bind _ hk' => exact absurd hk' hk
    | bind' _ _ _ ho' => exact absurd ho ho'
    | clash => rfl
    | args _ _ hl' => exact absurd hl hl'
  | bind hn hk ho h ih =>
    intro q g
    cases g with
    | same g => exact absurd rfl hn
    | occ _ _ ho' => exact absurd ho' ho
    | occ' _ hk' => exact absurd hk hk'
    | bind _ _ _ g => rw [ih g]
    | bind' _ hk' => exact absurd hk hk'
    | clash hk' => exact absurd hk hk'
    | args _ hk' => exact absurd hk hk'
  | bind' hn hk hl ho h ih =>
    intro q g
    cases g with
    | same g => exact absurd rfl hn
    | occ _ hk' => exact absurd hk' hk
    | occ' _ _ _ ho' => exact absurd ho' ho
    | bind _ hk' => exact absurd hk' hk
    | bind' _ _ _ _ g => rw [ih g]
    | clash _ hl' => exact absurd hl hl'
    | args _ _ hl' => exact absurd hl hl'
  | clash hk hl hh =>
    intro q g
    cases g with
    | same g => exact absurd ⟨headB_iff.2 ⟨rfl, rfl, rfl⟩, rfl⟩ hh
    | occ => rfl
    | occ' => rfl
    | bind _ hk' => exact absurd hk' hk
    | bind' _ _ hl' => exact absurd hl' hl
    | clash => rfl
    | args _ _ _ h1 h2 => exact absurd ⟨h1, h2⟩ hh
  | args hn hk hl hh he h ih =>
    intro q g
    cases g with
    | same g => exact absurd rfl hn
    | occ _ hk' => exact absurd hk' hk
    | occ' _ _ hl' => exact absurd hl' hl
    | bind _ hk' => exact absurd hk' hk
    | bind' _ _ hl' => exact absurd hl' hl
    | clash _ _ hh' => exact absurd ⟨hh, he⟩ hh'
    | args _ _ _ _ _ g => exact ih g

/-- Each bind with all that stand behind it put in. -/
def solveL : List Bn → List Bn
  | [] => []
  | c :: l => (c.1, appR l c.2) :: solveL l
theorem solve_names : ∀ (l : List Bn), (solveL l).map Prod.fst = l.map Prod.fst
  | [] => rfl
  | c :: l => by rw [solveL, List.map_cons, List.map_cons, solve_names l]
theorem appR_var (c : Bn) (l : List Bn) (s : ByteArray) : appR (c :: l) (varT s) = if c.1 = s then appR l c.2 else appR l (varT s) := by
  obtain ⟨z, u⟩ := c
  rw [appR]
  by_cases h : z = s
  · subst h; rw [if_pos rfl, app_var]
  · rw [if_neg h]
    congr 1
    refine app_free _ (fun hv => ?_)
    unfold varT at hv
    rcases hasV_mk.1 hv with ⟨_, e⟩ | hv
    · exact h e.symm
    · exact hasL_nil hv
theorem appR_varT : ∀ (l : List Bn) (s : ByteArray), appR l (varT s) = appT (solveL l) (varT s)
  | [], s => by rw [appR, solveL]; unfold varT; rw [appT, if_pos rfl, getB_nil, appL]
  | c :: l, s => by
    rw [appR_var, solveL, appR_varT l s]
    by_cases h : c.1 = s
    · rw [if_pos h]; unfold varT; rw [appT, if_pos rfl, getB_hit _ _ (show ((c.1, appR l c.2) : Bn).1 = s from h)]
    · rw [if_neg h]; unfold varT; rw [appT, appT, if_pos rfl, if_pos rfl, getB_miss _ _ (show ((c.1, appR l c.2) : Bn).1 ≠ s from h), appL, appL]
mutual
/-- AT ONCE AS ONE BEHIND THE OTHER. -/
theorem appR_solve {l : List Bn} : ∀ (t : Tm), PlainT t → appR l t = appT (solveL l) t
  | .mk k z n xs, hp => by
    by_cases hk : k = 1
    · have e := plain_var hp hk
      simp only [Tm.name] at e
      rw [e]; exact appR_varT l z
    · rw [appR_head l (t := .mk k z n xs) hk, app_head (t := .mk k z n xs) hk]
      simp only [Tm.kind, Tm.name, Tm.n, Tm.args]
      rw [appR_solveL xs hp.args]
theorem appR_solveL {l : List Bn} : ∀ (m : List Tm), PlainL m → m.map (appR l) = appL (solveL l) m
  | [], _ => by rw [appL]; rfl
  | t :: r, hp => by rw [appL, List.map_cons, appR_solve t hp.head, appR_solveL r hp.tail]
end

/-- A bind's name stands neither in its term nor in what stands behind it. -/
def Behind : List Bn → Prop
  | [] => True
  | c :: l => ¬ HasV c.1 c.2 ∧ (∀ x ∈ l, x.1 ≠ c.1 ∧ ¬ HasV c.1 x.2) ∧ Behind l
theorem plain_appR : ∀ {l : List Bn} (t : Tm), (∀ x ∈ l, PlainT x.2) → PlainT t → PlainT (appR l t)
  | [], t, _, ht => ht
  | c :: l, t, hl, ht => by
    rw [appR]
    refine plain_appR _ (fun x hx => hl x (List.mem_cons_of_mem _ hx)) (plain_app (fun x hx => ?_) t ht)
    rw [List.mem_singleton] at hx; subst hx; exact hl _ List.mem_cons_self
theorem has_appR {z : ByteArray} : ∀ {l : List Bn} (t : Tm), (∀ x ∈ l, PlainT x.2) → PlainT t → HasV z (appR l t) → HasV z t ∨ ∃ x ∈ l, HasV z x.2
  | [], t, _, _, h => .inl h
  | (s, u) :: l, t, hl, ht, h => by
    rw [appR] at h
    have hP : ∀ x ∈ [((s, u) : Bn)], PlainT x.2 := fun x hx => by rw [List.mem_singleton] at hx; subst hx; exact hl _ List.mem_cons_self
    rcases has_appR _ (fun x hx => hl x (List.mem_cons_of_mem _ hx)) (plain_app hP t ht) h with h | ⟨x, hx, h⟩
    · rcases has_app t ht h with ⟨h, _⟩ | h
      · exact .inl h
      · exact .inr ⟨_, List.mem_cons_self, h⟩
    · exact .inr ⟨x, List.mem_cons_of_mem _ hx, h⟩
/-- No name that was bound is left. -/
theorem tri_gone {z : ByteArray} : ∀ {l : List Bn} (t : Tm), Behind l → (∀ x ∈ l, PlainT x.2) → PlainT t → z ∈ l.map Prod.fst → ¬ HasV z (appR l t)
  | [], _, _, _, _, h, _ => by cases h
  | (s, u) :: l, t, ht, hl, hp, hz, h => by
    obtain ⟨h1, h2, h3⟩ := ht
    rw [appR] at h
    have hP : ∀ x ∈ [((s, u) : Bn)], PlainT x.2 := fun x hx => by rw [List.mem_singleton] at hx; subst hx; exact hl _ List.mem_cons_self
    have hl' : ∀ x ∈ l, PlainT x.2 := fun x hx => hl x (List.mem_cons_of_mem _ hx)
    by_cases hin : z ∈ l.map Prod.fst
    · exact tri_gone _ h3 hl' (plain_app hP t hp) hin h
    · have e : z = s := by
        rcases List.mem_cons.1 (by simpa using hz : z ∈ s :: l.map Prod.fst) with e | e
        · exact e
        · exact absurd e hin
      subst e
      rcases has_appR _ hl' (plain_app hP t hp) h with h | ⟨x, hx, h⟩
      · rcases has_app t hp h with ⟨_, h⟩ | h
        · exact h rfl
        · exact h1 h
      · exact (h2 x hx).2 h
theorem appR_free : ∀ {l : List Bn} (t : Tm), (∀ z ∈ l.map Prod.fst, ¬ HasV z t) → appR l t = t
  | [], t, _ => rfl
  | (s, u) :: l, t, h => by
    rw [appR, app_free t (h s (by simp))]
    exact appR_free t (fun z hz => h z (by rw [List.map_cons]; exact List.mem_cons_of_mem _ hz))
/-- ONCE MORE CHANGES NOTHING. -/
theorem appR_twice {l : List Bn} (ht : Behind l) (hl : ∀ x ∈ l, PlainT x.2) (t : Tm) (hp : PlainT t) : appR l (appR l t) = appR l t :=
  appR_free _ (fun _ hz => tri_gone t ht hl hp hz)

theorem row_tri {us bs : List Tm} {o : Option (List Bn)} (h : RowU us bs o) : ∀ l, o = some l → PlainL us → PlainL bs →
    Behind l ∧ (∀ x ∈ l, PlainT x.2) ∧ (∀ x ∈ l, ∀ z, z = x.1 ∨ HasV z x.2 → HasL z us ∨ HasL z bs) := by
  induction h with
  | done bs => intro l hl _ _; cases hl; exact ⟨trivial, (fun x hx => by cases hx), (fun x hx => by cases hx)⟩
  | same h ih =>
    intro l hl hp hq
    obtain ⟨h1, h2, h3⟩ := ih l hl hp.tail hq.tail
    exact ⟨h1, h2, fun x hx z hz => (h3 x hx z hz).imp (fun h => hasL_cons.2 (.inr h)) (fun h => hasL_cons.2 (.inr h))⟩
  | occ => intro l hl; cases hl
  | occ' => intro l hl; cases hl
  | clash => intro l hl; cases hl
  | @bind x y us bs o hn hk ho h ih =>
    intro l hl hp hq
    obtain ⟨m, hm, rfl⟩ := Option.map_eq_some_iff.1 hl
    have hP : ∀ z ∈ [((x.name, y) : Bn)], PlainT z.2 := fun z hz => by rw [List.mem_singleton] at hz; subst hz; exact hq.head
    obtain ⟨h1, h2, h3⟩ := ih m hm (plain_appL hP _ hp.tail) (plain_appL hP _ hq.tail)
    have h4 : ∀ c ∈ m, ∀ z, z = c.1 ∨ HasV z c.2 → ((HasL z us ∨ HasL z bs) ∧ z ≠ x.name) ∨ HasV z y := fun c hc z hz => by
      rcases h3 c hc z hz with h | h
      · exact (has_appL _ hp.tail h).imp (fun h => ⟨.inl h.1, h.2⟩) id
      · exact (has_appL _ hq.tail h).imp (fun h => ⟨.inr h.1, h.2⟩) id
    have h5 : ∀ c ∈ m, ∀ z, z = c.1 ∨ HasV z c.2 → z ≠ x.name := fun c hc z hz => by
      rcases h4 c hc z hz with h | h
      · exact h.2
      · intro e; exact ho (e ▸ h)
    refine ⟨⟨ho, fun c hc => ⟨h5 c hc _ (.inl rfl), fun hv => h5 c hc _ (.inr hv) rfl⟩, h1⟩, fun c hc => ?_, fun c hc z hz => ?_⟩
    · rcases List.mem_cons.1 hc with rfl | hc
      · exact hq.head
      · exact h2 c hc
    · rcases List.mem_cons.1 hc with rfl | hc
      · rcases hz with rfl | hz
        · exact .inl (hasL_cons.2 (.inl (has_self hk)))
        · exact .inr (hasL_cons.2 (.inl hz))
      · rcases h4 c hc z hz with ⟨h | h, _⟩ | h
        · exact .inl (hasL_cons.2 (.inr h))
        · exact .inr (hasL_cons.2 (.inr h))
        · exact .inr (hasL_cons.2 (.inl h))
  | @bind' x y us bs o hn hk hlv ho h ih =>
    intro l hl hp hq
    obtain ⟨m, hm, rfl⟩ := Option.map_eq_some_iff.1 hl
    have hP : ∀ z ∈ [((y.name, x) : Bn)], PlainT z.2 := fun z hz => by rw [List.mem_singleton] at hz; subst hz; exact hp.head
    obtain ⟨h1, h2, h3⟩ := ih m hm (plain_appL hP _ hp.tail) (plain_appL hP _ hq.tail)
    have h4 : ∀ c ∈ m, ∀ z, z = c.1 ∨ HasV z c.2 → ((HasL z us ∨ HasL z bs) ∧ z ≠ y.name) ∨ HasV z x := fun c hc z hz => by
      rcases h3 c hc z hz with h | h
      · exact (has_appL _ hp.tail h).imp (fun h => ⟨.inl h.1, h.2⟩) id
      · exact (has_appL _ hq.tail h).imp (fun h => ⟨.inr h.1, h.2⟩) id
    have h5 : ∀ c ∈ m, ∀ z, z = c.1 ∨ HasV z c.2 → z ≠ y.name := fun c hc z hz => by
      rcases h4 c hc z hz with h | h
      · exact h.2
      · intro e; exact ho (e ▸ h)
    refine ⟨⟨ho, fun c hc => ⟨h5 c hc _ (.inl rfl), fun hv => h5 c hc _ (.inr hv) rfl⟩, h1⟩, fun c hc => ?_, fun c hc z hz => ?_⟩
    · rcases List.mem_cons.1 hc with rfl | hc
      · exact hp.head
      · exact h2 c hc
    · rcases List.mem_cons.1 hc with rfl | hc
      · rcases hz with rfl | hz
        · exact .inr (hasL_cons.2 (.inl (has_self hlv)))
        · exact .inl (hasL_cons.2 (.inl hz))
      · rcases h4 c hc z hz with ⟨h | h, _⟩ | h
        · exact .inl (hasL_cons.2 (.inr h))
        · exact .inr (hasL_cons.2 (.inr h))
        · exact .inl (hasL_cons.2 (.inl h))
  | @args x y us bs o hn hk hlv hh he h ih =>
    intro l hl hp hq
    obtain ⟨h1, h2, h3⟩ := ih l hl (plainL_append hp.head.args hp.tail) (plainL_append hq.head.args hq.tail)
    have hargs : ∀ (s : ByteArray) (t : Tm), HasL s t.args → HasV s t := fun _ t h => by obtain ⟨k, z, n, xs⟩ := t; exact hasV_mk.2 (.inr h)
    refine ⟨h1, h2, fun c hc z hz => (h3 c hc z hz).imp (fun h => ?_) (fun h => ?_)⟩
    · rcases hasL_append.1 h with h | h
      · exact hasL_cons.2 (.inl (hargs _ _ h))
      · exact hasL_cons.2 (.inr h)
    · rcases hasL_append.1 h with h | h
      · exact hasL_cons.2 (.inl (hargs _ _ h))
      · exact hasL_cons.2 (.inr h)

/-- What agrees with each of the binds found does the same behind all of them. -/
theorem agree_row {a : List Bn} : ∀ {l : List Bn} (t : Tm), (∀ x ∈ l, PlainT x.2 ∧ appT a (varT x.1) = appT a x.2) → PlainT t → appT a (appR l t) = appT a t
  | [], _, _, _ => rfl
  | (s, u) :: l, t, hl, hp => by
    have h1 := hl _ List.mem_cons_self
    rw [appR, agree_row _ (fun x hx => hl x (List.mem_cons_of_mem _ hx)) (plain_app (fun x hx => by rw [List.mem_singleton] at hx; subst hx; exact h1.1) t hp)]
    exact app_agree h1.2 t hp
/-- MOST GENERAL: what makes both alike is, at each name bound, itself behind what is found. -/
theorem row_most {us bs : List Tm} {o : Option (List Bn)} (h : RowU us bs o) (a : List Bn) (hlen : us.length = bs.length) (hp : PlainL us) (hq : PlainL bs) (he : appL a us = appL a bs) :
    ∃ l, o = some l ∧ ∀ x ∈ solveL l, appT a x.2 = appT a (varT x.1) := by
  obtain ⟨l, rfl, hall⟩ := row_general h a hlen hp hq he
  refine ⟨l, rfl, ?_⟩
  clear h
  induction l with
  | nil => intro x hx; cases hx
  | cons c l ih =>
    intro x hx
    rw [solveL] at hx
    rcases List.mem_cons.1 hx with rfl | hx
    · have hc := hall _ List.mem_cons_self
      show appT a (appR l c.2) = appT a (varT c.1)
      rw [agree_row _ (fun x hx => hall x (List.mem_cons_of_mem _ hx)) hc.1, hc.2]
    · exact ih (fun x hx => hall x (List.mem_cons_of_mem _ hx)) x hx
end Go.Proofs.Ytedljdcliilggaa

namespace Go.Proofs.Ytedljdcliilggaa
open Go.RowKit

theorem run_append_nil0 {P : Program} {w : World} (base : Nat) (t ty e : TypeId) (i : TypeInfo) (size : Nat) (ht : P.underlying t = some (.slice e)) (hi : P.info? e = some i)
    (v : Value) (n : Nat) (xs : List Value) (hown : w.ownsRow base e size v n xs) (c : Nat) :
    (Builtin.append_ #[t, t] ty #[v, .slice none 0 c]).run P w = .ok v w := by
  rcases hown.2 with ⟨rfl, rfl⟩ | ⟨g, cap, cur, rfl, _, _, hnc, _⟩
  · simp [Builtin.append_, run_underlying ht, sizeOf, typeInfo, hi, Builtin.lenOf, Builtin.firstCells]
  · simp [Builtin.append_, run_underlying ht, sizeOf, typeInfo, hi, Builtin.lenOf, Builtin.firstCells, hnc, storeCells]
theorem wpList_append_opt {P : Program} {w : World} {ops : Array Oper} {rest : List Oper} {o : Oper} {a : Act} {Q : Exit → Act → World → Prop} (hgd : o.guard = none) (s x : Operand) (t : TypeId)
    (ho : o.op = .call { callee := .builtin .append, args := #[s, x], argTypes := #[t, t] })
    (base : Nat) (e : TypeId) (i : TypeInfo) (z : Value) (size bytes : Nat) (ht : P.underlying t = some (.slice e)) (hi : P.info? e = some i) (hz : i.zero = some z)
    (hsize : i.size = size) (hby : i.bytes = bytes) (hzs : z.cells.size = size) (hsz : 0 < size)
    (v : Value) (n : Nat) (xs : List Value) (hs : a.eval s = v) (hown : w.ownsRow base e size v n xs)
    (oa : Option Addr) (m c : Nat) (news : List Value) (hx : a.eval x = .slice oa m c) (h0 : oa = none → m = 0) (hl : news.length = m * size) (hnews : ∀ ad, oa = some ad → ∀ j u, news[j]? = some u → w.cell? (ad.add j) = some u) (h1 : ∀ u ∈ news, u.oneCell' = true)
    (h63 : n + m ≤ maxLen) (hbytes : (n + m) * bytes ≤ 140737488355328) (hbase : base ≤ w.heap.size)
    (h : ∀ v' w', w'.ownsRow base e size v' (n + m) (xs ++ news) → w.grownBy w' v.ownBlock → (v'.ownBlock = v.ownBlock ∨ v'.ownBlock = some w.heap.size) → wpList P ops Q rest (a.put o.dst v') w') :
    wpList P ops Q (o :: rest) a w := by
  cases oa with
  | some ad => exact wpList_append_own_at w hgd s x t ho base e i z size bytes ht hi hz hsize hby hzs hsz v n xs hs hown ad m c news hx hl (hnews ad rfl) h1 h63 hbytes hbase (fun v' w' h2 h3 _ h5 => h v' w' h2 h3 h5)
  | none =>
    obtain rfl := h0 rfl
    obtain rfl : news = [] := List.eq_nil_of_length_eq_zero (by rw [hl, Nat.zero_mul])
    refine wpList_plain hgd fun K hK => ?_
    have hrun := run_append_nil0 (P := P) (w := w) base t o.type e i size ht hi v n xs hown c
    unfold Oper.wp
    simp [execOp, ho, resolve, invoke, builtin, hs, hx, hrun, Result.andThen]
    exact hK _ _ (h v w (by simpa using hown) ⟨rfl, rfl, rfl, Nat.le_refl _, fun _ _ _ => rfl⟩ (.inl rfl))
/-- Likewise as a step of a drawn region. -/
theorem step_append_at {P : Program} {w : World} {ops : Array Oper} {o : Oper} {a : Act} {K : Act → World → Prop} {Q : Exit → Act → World → Prop} {E : Prop} (hgd : o.guard = none) (s x : Operand) (t : TypeId)
    (ho : o.op = .call { callee := .builtin .append, args := #[s, x], argTypes := #[t, t] })
    (base : Nat) (e : TypeId) (i : TypeInfo) (z : Value) (size bytes : Nat) (ht : P.underlying t = some (.slice e)) (hi : P.info? e = some i) (hz : i.zero = some z)
    (hsize : i.size = size) (hby : i.bytes = bytes) (hzs : z.cells.size = size) (hsz : 0 < size)
    (v : Value) (n : Nat) (xs : List Value) (hs : a.eval s = v) (hown : w.ownsRow base e size v n xs)
    (ad : Addr) (m c : Nat) (news : List Value) (hx : a.eval x = .slice (some ad) m c) (hl : news.length = m * size) (hnews : ∀ j u, news[j]? = some u → w.cell? (ad.add j) = some u) (h1 : ∀ u ∈ news, u.oneCell' = true)
    (h63 : n + m ≤ maxLen) (hbytes : (n + m) * bytes ≤ 140737488355328) (hbase : base ≤ w.heap.size) (H : Nat) (hH : w.heap.size = H)
    (h : ∀ v' w', w'.ownsRow base e size v' (n + m) (xs ++ news) → w.grownBy w' v.ownBlock → (v'.ownBlock = v.ownBlock ∨ v'.ownBlock = some H) → K (a.put o.dst v') w') :
    if Region.wanted o (yielded ops a.tmps) = true then Oper.wp P o a w K Q else E := by
  have hw : Region.wanted o (yielded ops a.tmps) = true := by simp [Region.wanted, hgd]
  rw [if_pos hw]
  obtain ⟨v', w', hr, h2, h3, _, h5⟩ := run_append_own_at (P := P) w base t o.type e i z size bytes ht hi hz hsize hby hzs hsz v n xs hown ad m c news hl hnews h1 h63 hbytes hbase
  unfold Oper.wp execOp
  simp only [ho, resolve, invoke, builtin, Sem.run_bind, Sem.run_pure, Result.andThen_ok, List.map_toArray, List.map_cons, List.map_nil, hs, hx, hr]
  subst hH
  exact h v' w' h2 h3 h5
/-- A new row of no element. -/
theorem own_empty (w : World) (base : Nat) (e : TypeId) (size : Nat) (hb : base ≤ w.heap.size) : (w.alloc (.cells #[] e)).ownsRow base e size (.slice (some ⟨w.heap.size, 0, none⟩) 0 0) 0 [] :=
  ⟨by simp, .inr ⟨w.heap.size, 0, #[], rfl, hb, heap_alloc_new w _, Nat.le_refl _, by unfold maxLen; omega, by simp, by simp⟩⟩
end Go.Proofs.Ytedljdcliilggaa

namespace Go.Proofs.Ytedljdcliilggaa
open Go.RowKit

/-- l[i:] of a row of binds. -/
def cutB (g o cap l : Nat) : Addr := if cap = l then ⟨g, o, none⟩ else ⟨g, o + l * 5, none⟩
theorem cutB_of {g o cap l : Nat} (h : l < cap) : cutB g o cap l = ⟨g, o + l * 5, none⟩ := by unfold cutB; rw [if_neg (by omega)]
theorem cutb_from (g o len cap l : Nat) (hl : l ≤ len) (w : World) :
    (Instr.slice 27 (.slice (some ⟨g, o, none⟩) len cap) (some (.int .i64 (l : Int))) none none).run Try.prog w = .ok (.slice (some (cutB g o cap l)) (len - l) (cap - l)) w := by
  have hu := Try.underlying27
  have hz := Try.sizeOf41
  have he : Try.prog.elem 27 = 41 := by kernel_rfl
  rw [run_slice_l w 27 _ len cap (by rw [he]; exact hu) .i64 l (by omega) (by omega), he]
  simp only [hz, Result.andThen, sliced, Int.toNat_natCast]
  unfold cutB
  by_cases h : cap = l
  · rw [if_pos h, if_pos h]
  · rw [if_neg h, if_neg h]
    have : (Option.map (fun x => x.add (l * 5)) (some (⟨g, o, none⟩ : Addr))) = some ⟨g, o + l * 5, none⟩ := by
      simp only [Option.map_some]
      unfold Addr.add
      split
      · next h => rw [h]; simp
      · rfl
    rw [this]
theorem appR_snoc : ∀ (m : List Bn) (c : Bn) (t : Tm), appR (m ++ [c]) t = appT [c] (appR m t)
  | [], c, t => by rw [List.nil_append, appR, appR, appR]
  | d :: m, c, t => by rw [List.cons_append, appR, appR_snoc m c, appR]
theorem solve_len (l : List Bn) : (solveL l).length = l.length := by
  have := congrArg List.length (solve_names l)
  rwa [List.length_map, List.length_map] at this
theorem solve_get : ∀ (l : List Bn) (k : Nat) (x : Bn), l[k]? = some x → (solveL l)[k]? = some (x.1, appR (l.drop (k + 1)) x.2)
  | [], k, x, h => by simp at h
  | c :: l, 0, x, h => by
    rw [List.getElem?_cons_zero] at h; cases h
    rw [solveL, List.getElem?_cons_zero]; rfl
  | c :: l, k + 1, x, h => by
    rw [List.getElem?_cons_succ] at h
    rw [solveL, List.getElem?_cons_succ, solve_get l k x h]; rfl
theorem take_snoc {α : Type} {l : List α} {k : Nat} {x : α} (h : l[k]? = some x) : l.take (k + 1) = l.take k ++ [x] := by
  obtain ⟨hk, rfl⟩ := List.getElem?_eq_some_iff.1 h
  exact List.take_succ_eq_append_getElem hk
/-- A new row of one term, with a block out of sight. -/
theorem tms_new {w : World} {o : Value} (x : Tv) (hx : x.ok (shade (w.alloc (.cells #[.int .i64 x.t.kind, .string x.t.name, .int .i64 x.t.n, .slice x.a x.t.args.length x.c] 24)) o)) (ho : ∀ g, o.ownBlock = some g → g < w.heap.size) :
    Tms (shade (w.alloc (.cells #[.int .i64 x.t.kind, .string x.t.name, .int .i64 x.t.n, .slice x.a x.t.args.length x.c] 24)) o) (.slice (some ⟨w.heap.size, 0, none⟩) 1 1) [x.t] := by
  have hown : (shade (w.alloc (.cells #[.int .i64 x.t.kind, .string x.t.name, .int .i64 x.t.n, .slice x.a x.t.args.length x.c] 24)) o).ownsRow w.heap.size 24 4 (.slice (some ⟨w.heap.size, 0, none⟩) 1 1) 1 (rowTv [x]) :=
    ⟨by rw [rowTv_one]; rfl, .inr ⟨w.heap.size, 1, #[.int .i64 x.t.kind, .string x.t.name, .int .i64 x.t.n, .slice x.a x.t.args.length x.c], rfl, Nat.le_refl _, (shade_block (fun e => by have := ho _ e.symm; omega)).trans (heap_alloc_new w _), Nat.le_refl _, by unfold maxLen; omega, rfl, by simp [rowTv_one, Tv.cells]⟩⟩
  have : OwnTv _ (shade (w.alloc (.cells #[.int .i64 x.t.kind, .string x.t.name, .int .i64 x.t.n, .slice x.a x.t.args.length x.c] 24)) o) w.heap.size (.slice (some ⟨w.heap.size, 0, none⟩) 1 1) [x.t] := ⟨[x], rfl, fun y hy => by rw [List.mem_singleton] at hy; rw [hy]; exact hx, hown⟩
  exact this.tms (Below.refl _ _) (by simp)
theorem OnePost.shade {w W w' : World} {o : Value} {bn : Bn} {t : Tm} {e : Ending} (h : OnePost (shade w o) W bn [t] e w') (hW : Below w.heap.size w W) (ho : ∀ g, o.ownBlock = some g → g < w.heap.size) :
    ∃ a c, e = .returned (.slice a 1 c) ∧ Tms (Go.Proofs.Ytedljdcliilggaa.shade w' o) (.slice a 1 c) [appT [bn] t] ∧ Below W.heap.size W w' := by
  obtain ⟨u, he, ⟨vs, hvt, hvb, hown⟩, hb⟩ := h
  have hne : ∀ b, W.heap.size ≤ b → some b ≠ o.ownBlock := fun b hb e => by have := ho b e.symm; have := hW.size; omega
  have hown2 : (Go.Proofs.Ytedljdcliilggaa.shade w' o).ownsRow W.heap.size 24 4 u 1 (rowTv vs) := own_where hown fun b h1 _ => shade_block (hne b h1)
  have hl : appL [bn] [t] = [appT [bn] t] := by rw [appL_map]; rfl
  rw [hl] at hvt
  have : OwnTv _ (Go.Proofs.Ytedljdcliilggaa.shade w' o) W.heap.size u [appT [bn] t] := ⟨vs, hvt, fun x hx => hvb x hx _ (shade_below (below_next hW hb)) (by rw [shade_size]; exact Nat.le_refl _) (fun b h1 _ _ => shade_block (hne b h1)), hown2⟩
  have ht := this.tms (Below.refl _ _) (by simp)
  obtain ⟨a, c, rfl, _⟩ := id ht
  exact ⟨a, c, he, ht, hb⟩
theorem own_formS {w : World} {base : Nat} {e : TypeId} {size n : Nat} {v : Value} {xs : List Value} (h : w.ownsRow base e size v n xs) : ∃ a c, v = .slice a n c := by
  rcases h.2 with ⟨h, h0⟩ | ⟨g, cap, cur, h, _⟩
  · exact ⟨none, 0, by rw [h, h0]⟩
  · exact ⟨_, cap, h⟩
set_option maxRecDepth 100000 in
set_option maxHeartbeats 8000000 in
theorem rsolve_any (v : Value) (l : List Bn) (w0 w : World) (hv : Bds w0 v l) (hb0 : Below w0.heap.size w0 w) (hs : Soft l) (hlen : l.length ≤ 1000) :
    Calls Try.prog 13 #[v] w fun e w' => ∃ u, e = .returned u ∧ Bds w' u (ofB (solveL l)) ∧ Below w.heap.size w w' := by
  obtain ⟨i0, hi, hz0, hz1, hz2⟩ := info_parts bindInfo
  have hsl := solve_len l
  have OF := Lib.hid (fun (W : World) (vo : Value) (h : Bds W vo (solveL l)) => (rof_any vo (solveL l) W W h (Below.refl _ _) (by omega)).mono (fun e w' ⟨u, h1, h2, h3⟩ => (show ∃ u, e = Ending.returned u ∧ Bds w' u (ofB (solveL l)) ∧ Below W.heap.size W w' from ⟨u, h1, h2.bds h3 (by have := ofB_length (solveL l); omega), h3⟩)))
  obtain ⟨a, c, rfl, ⟨hl1, hcap⟩, hrow⟩ := hv
  have HB := Lib.hid hb0
  have HR := Lib.hid hrow
  have HS := Lib.hid (fun (k : Nat) (x : Bn) (h : l[k]? = some x) (q : Nat) => hs k x h q)
  have HSL := Lib.hid hsl
  clear hb0 hrow hs hsl
  go_enter Try.func13, Try.ntmps13
  go_wp2_with fail
  go_loopw [3, 11] (fun o i wr => ∃ (k : Nat) (vs : List Bv), k ≤ l.length ∧ i = .int .i64 k ∧ vs.length = k ∧ Hid (vs.map Bv.bn = (solveL l).take k) ∧ Hid (∀ x ∈ vs, x.v.ok (shade wr o) ∧ x.s.size ≤ 9223372036854775807) ∧
    Hid (wr.ownsRow w.heap.size 41 5 o k (rowBv vs)) ∧ Hid (Below w.heap.size w wr)) (fun _ i _ => l.length - (intOf i).toNat)
  case atStart => exact ⟨0, [], Nat.zero_le _, rfl, rfl, Lib.hid (by simp), Lib.hid (fun x hx => by cases hx), Lib.hid (World.ownsRow_nil _ _ _ _), Lib.hid (Below.refl _ _)⟩
  case round =>
    obtain ⟨k, vs, hk, rfl, hvl, HVT, HVO, HOWN, HBW⟩ := hrel
    obtain ⟨wo, hwo⟩ : ∃ wo, wo = wr := ⟨_, rfl⟩
    subst hwo
    by_cases hkl : k < l.length
    · obtain ⟨b, o, rfl, hlt, hr⟩ := HR.out.resolve_left (by intro h; rw [h] at hkl; simp at hkl)
      have HRR := Lib.hid hr
      have hbw : Below w0.heap.size w0 wo := HB.out.trans (HBW.out.mono HB.out.size)
      obtain ⟨x, hx⟩ : ∃ x, l[k]? = some x := ⟨_, List.getElem?_eq_getElem hkl⟩
      obtain ⟨y, hyb, hyo, hy⟩ := bdAt_bv (hr k x hx)
      obtain ⟨m0, m1, m2, m3, m4⟩ := (hy.below (hbw.mono (Nat.le_refl _)))
      have hys : y.s.size ≤ 9223372036854775807 := by have := (hr k x hx).1; rw [← hyb] at this; exact this
      obtain ⟨ys, ⟨yt, ya, yc⟩⟩ := y
      simp only at m0 m1 m2 m3 m4 hys
      obtain rfl : (ys, yt) = x := hyb
      have HYS := Lib.hid hys
      have HYO := Lib.hid hyo
      have HX := Lib.hid hx
      have hol : ∀ g, u3.ownBlock = some g → g < wo.heap.size := fun g e => (HOWN.out.lt g e).2
      have hog : ∀ g, u3.ownBlock = some g → w0.heap.size ≤ g := fun g e => Nat.le_trans HB.out.size (own_row_ge HOWN.out g e)
      have HOL := Lib.hid hol
      have HOG := Lib.hid hog
      obtain ⟨n1, hn1⟩ : ∃ n1, l.length - (k + 1) = n1 := ⟨_, rfl⟩
      obtain ⟨A, hA⟩ : ∃ A, cutB b o c (k + 1) = A := ⟨_, rfl⟩
      have hcf : ∀ W, (Instr.slice 27 (.slice (some ⟨b, o, none⟩) l.length c) (some (.int .i64 ((k : Int) + 1))) none none).run Try.prog W = .ok (.slice (some A) n1 (c - (k + 1))) W := fun W => by
        rw [show ((k : Int) + 1) = ((k + 1 : Nat) : Int) from by omega, ← hn1, ← hA]; exact cutb_from b o l.length c (k + 1) (by omega) W
      have HN1 := Lib.hid hn1
      have HA := Lib.hid hA
      have hB1 : Below wo.heap.size wo (wo.alloc (.cells #[.string ys, .int .i64 yt.kind, .string yt.name, .int .i64 yt.n, .slice ya yt.args.length yc] 41)) := (Below.refl _ _).alloc (Nat.le_refl _) _
      have hz1' : (wo.alloc (.cells #[.string ys, .int .i64 yt.kind, .string yt.name, .int .i64 yt.n, .slice ya yt.args.length yc] 41)).heap.size = wo.heap.size + 1 := by simp
      have hBX := fun i => World.cell?_alloc_mark wo #[.string ys, .int .i64 yt.kind, .string yt.name, .int .i64 yt.n, .slice ya yt.args.length yc] 41 (0, 0) i
      have p0 := hBX 0
      have p1 := hBX 1
      have p2 := hBX 2
      have p3 := hBX 3
      have p4 := hBX 4
      have hk0 : (0 : Int) ≤ (k : Int) := by omega
      have hk1 : (k : Int) < (l.length : Int) := by omega
      have hkd : decide ((k : Int) < (l.length : Int)) = true := decide_eq_true hk1
      have hk5 : (k : Int) ≤ 1000 := by omega
      have hB2 := hB1.alloc hB1.size (.cells #[.int .i64 yt.kind, .string yt.name, .int .i64 yt.n, .slice ya yt.args.length yc] 24)
      have hol1 : ∀ g, u3.ownBlock = some g → g < (wo.alloc (.cells #[.string ys, .int .i64 yt.kind, .string yt.name, .int .i64 yt.n, .slice ya yt.args.length yc] 41)).heap.size := fun g e => by have := HOL.out g e; omega
      have hrd : Reads w0 (shade ((wo.alloc (.cells #[.string ys, .int .i64 yt.kind, .string yt.name, .int .i64 yt.n, .slice ya yt.args.length yc] 41)).alloc (.cells #[.int .i64 yt.kind, .string yt.name, .int .i64 yt.n, .slice ya yt.args.length yc] 24)) u3) := shade_into (reads_below (hbw.trans (hB2.mono hbw.size))) HOG.out
      have htm := tms_new (w := wo.alloc (.cells #[.string ys, .int .i64 yt.kind, .string yt.name, .int .i64 yt.n, .slice ya yt.args.length yc] 41)) (o := u3) ⟨yt, ya, yc⟩ (HYO.out.reads hrd) hol1
      rw [hz1'] at htm
      obtain ⟨w1, hw1⟩ : ∃ w1, w1 = (wo.alloc (.cells #[.string ys, .int .i64 yt.kind, .string yt.name, .int .i64 yt.n, .slice ya yt.args.length yc] 41)).alloc (.cells #[.int .i64 yt.kind, .string yt.name, .int .i64 yt.n, .slice ya yt.args.length yc] 24) := ⟨_, rfl⟩
      simp only at htm
      rw [← hw1] at hB2 htm
      have HB2 := Lib.hid hB2
      have HTM := Lib.hid htm
      have HK1 := Lib.hid (show w1.cell? ⟨wo.heap.size, 0, none⟩ = some (.string ys) from by
        rw [hw1]; exact (((Below.refl _ _).alloc (Nat.le_refl _) (.cells #[.int .i64 yt.kind, .string yt.name, .int .i64 yt.n, .slice ya yt.args.length yc] 24)).cell (p := ⟨wo.heap.size, 0, none⟩) (by show wo.heap.size < _; omega)).trans p0)
      have HS1 := Lib.hid (show w1.heap.size = wo.heap.size + 2 by rw [hw1]; simp)
      have HBWR := Lib.hid hbw
      clear hr hyo hy hys hx hol hog hn1 hA hbw hBX hB2 hrd htm hol1
      go_wp2_with fail
      rw [← hw1]
      clear hw1 hB1 hz1' p0 p1 p2 p3 p4 m0 m1 m2 m3 m4
      go_loopw [6, 24] (fun one j wr => ∃ q : Nat, q ≤ n1 ∧ j = .int .i64 q ∧ Hid (Tms (shade wr u3) one [appR ((l.drop (k + 1)).take q) yt]) ∧ Hid (Below w1.heap.size w1 wr)) (fun _ j _ => n1 - (intOf j).toNat)
      case atStart => exact ⟨0, Nat.zero_le _, rfl, HTM, Lib.hid (Below.refl _ _)⟩
      case round =>
        obtain ⟨q, hq, rfl, HT, HBV⟩ := hrel
        by_cases hql : q < n1
        · have hlq : k + 1 + q < l.length := by have := HN1.out; omega
          obtain ⟨x2, hx2⟩ : ∃ x2, l[k + 1 + q]? = some x2 := ⟨_, List.getElem?_eq_getElem hlq⟩
          obtain ⟨z, hzb, hzo, hzz⟩ := bdAt_bv (HRR.out (k + 1 + q) x2 hx2)
          have hwv : Below w0.heap.size w0 wr := HBWR.out.trans ((below_next HB2.out HBV.out).mono HBWR.out.size)
          obtain ⟨m0, m1, m2, m3, m4⟩ := hzz.below hwv
          have hzs : z.s.size ≤ 9223372036854775807 := by have := (HRR.out (k + 1 + q) x2 hx2).1; rw [← hzb] at this; exact this
          obtain ⟨zs, ⟨zt, za, zc⟩⟩ := z
          simp only at m0 m1 m2 m3 m4 hzs
          rw [show o + (k + 1 + q) * 5 = o + (k + 1) * 5 + q * 5 from by omega] at m0 m1 m2 m3 m4
          obtain rfl : (zs, zt) = x2 := hzb
          obtain rfl : A = ⟨b, o + (k + 1) * 5, none⟩ := HA.out.symm.trans (cutB_of (by omega))
          have hAZ : Below wr.heap.size wr (wr.alloc (.cells #[.string zs, .int .i64 zt.kind, .string zt.name, .int .i64 zt.n, .slice za zt.args.length zc] 41)) := (Below.refl _ _).alloc (Nat.le_refl _) _
          have hzr : (⟨zt, za, zc⟩ : Tv).ok (shade wr u3) := Tv.ok.reads hzo (shade_into (reads_below hwv) HOG.out)
          have hol2 : ∀ g, u3.ownBlock = some g → g < wr.heap.size := fun g e => Nat.lt_of_lt_of_le (HOL.out g e) (Nat.le_trans HB2.out.size HBV.out.size)
          have C := Lib.hid ((one_row ⟨zs, ⟨zt, za, zc⟩⟩ u6 [appR ((l.drop (k + 1)).take q) yt] (shade wr u3) (wr.alloc (.cells #[.string zs, .int .i64 zt.kind, .string zt.name, .int .i64 zt.n, .slice za zt.args.length zc] 41)) hzr hzs HT.out ((shade_reads _ _).trans (reads_below hAZ)) (fun t ht => by rw [List.mem_singleton] at ht; rw [ht]; have := HS.out k _ HX.out q; unfold mostT at this; simp only at this; omega) (by simp)).mono (fun e w' h => OnePost.shade h hAZ hol2))
          have HTK := Lib.hid (show appT [(zs, zt)] (appR ((l.drop (k + 1)).take q) yt) = appR ((l.drop (k + 1)).take (q + 1)) yt by
            rw [take_snoc (x := (zs, zt)) (by rw [List.getElem?_drop]; exact hx2), appR_snoc])
          have HAZ := Lib.hid hAZ
          have hq0 : (0 : Int) ≤ (q : Int) := by omega
          have hq1 : (q : Int) < (n1 : Int) := by omega
          have hqd : decide ((q : Int) < (n1 : Int)) = true := decide_eq_true hq1
          have hq5 : (q : Int) ≤ 1000 := by omega
          have hbz := fun i => World.cell?_alloc_mark wr #[.string zs, .int .i64 zt.kind, .string zt.name, .int .i64 zt.n, .slice za zt.args.length zc] 41 (0, 0) i
          have p0 := hbz 0
          have p1 := hbz 1
          have p2 := hbz 2
          have p3 := hbz 3
          have p4 := hbz 4
          clear hzo hzz hwv hzs hAZ hzr hol2 hbz hx2 hcf
          simp only [Bv.val] at C
          go_wp2_with fail
          refine C.out.mono ?_; rintro e w4 ⟨a4, c4, rfl, ht4, hb4⟩
          have HT4 := Lib.hid ht4
          have HB4 := Lib.hid (below_next HBV.out (below_next HAZ.out hb4))
          clear ht4 hb4 p0 p1 p2 p3 p4 m0 m1 m2 m3 m4
          go_wp2_with fail
          go_roundw
          case rel => exact ⟨q + 1, by omega, by go_num, Lib.hid (by rw [← HTK.out]; exact HT4.out), HB4⟩
          case measure => simp [intOf]; omega
        · have hqd : decide ((q : Int) < (n1 : Int)) = false := decide_eq_false (by omega)
          have hqn : ¬ (q : Int) < (n1 : Int) := by omega
          have hqe : n1 ≤ q := by omega
          have htt := HT.out
          rw [List.take_of_length_le (by rw [List.length_drop]; have := HN1.out; omega)] at htt
          obtain ⟨a6, c6, rfl, hA6⟩ := htt
          obtain ⟨b6, o6, rfl, hlt6, hr6⟩ := hA6.2.resolve_left (by intro h; cases h)
          rw [RowAt] at hr6
          obtain ⟨z, hzt, hzo, hzz⟩ := tmAt_tv hr6.1
          obtain ⟨m0, m1, m2, m3⟩ : TvAt wr b6 o6 z := ⟨(shade_reads _ _).cell _ _ hzz.c0, (shade_reads _ _).cell _ _ hzz.c1, (shade_reads _ _).cell _ _ hzz.c2, (shade_reads _ _).cell _ _ hzz.c3⟩
          obtain ⟨zt, za, zc⟩ := z
          simp only at m0 m1 m2 m3 hzt
          have p0 : wr.cell? ⟨wo.heap.size, 0, none⟩ = some (.string ys) := (HBV.out.cell (p := ⟨wo.heap.size, 0, none⟩) (by show wo.heap.size < _; have := HS1.out; omega)).trans HK1.out
          have HZO := Lib.hid hzo
          have HZT := Lib.hid hzt
          have hbw := below_next HB2.out HBV.out
          have hownR := own_below HOWN.out hbw
          have HOR := Lib.hid hownR
          have HWR := Lib.hid hbw
          have HBWW := Lib.hid (HBW.out.trans (hbw.mono HBW.out.size))
          have hbase : w.heap.size ≤ wr.heap.size := HBWW.out.size
          clear hzo hzt hzz hr6 hlt6 hA6 hbw hownR hcf hqe
          have HM1 := Lib.hid (show k + 1 ≤ maxLen by unfold maxLen; omega)
          have HM2 := Lib.hid (show (k + 1) * 72 ≤ 140737488355328 by omega)
          have HBASE := Lib.hid (show w.heap.size ≤ (wr.alloc (.cells #[.string ys, .int .i64 zt.kind, .string zt.name, .int .i64 zt.n, .slice za zt.args.length zc] 41)).drew.heap.size from by
            show w.heap.size ≤ (wr.alloc (.cells #[.string ys, .int .i64 zt.kind, .string zt.name, .int .i64 zt.n, .slice za zt.args.length zc] 41)).heap.size
            simp; omega)
          go_wp2_with fail
          go_region_law
            ((refine step_append_at rfl _ _ 27 rfl w.heap.size 41 i0 (.agg #[.string ⟨#[]⟩, .int .i64 0, .string ⟨#[]⟩, .int .i64 0, .slice none 0 0]) 5 72 Try.underlying27 hi hz0 hz1 hz2 rfl (by decide) u3 k (rowBv vs) rfl (HOR.out.alloc _).drew ⟨wr.heap.size, 0, none⟩ 1 1 [.string ys, .int .i64 zt.kind, .string zt.name, .int .i64 zt.n, .slice za zt.args.length zc] rfl rfl (World.news_of_block (heap_alloc_new _ _)) (bv_one ⟨ys, ⟨zt, za, zc⟩⟩) HM1.out HM2.out HBASE.out _ rfl ?_; intro v4 w4 hown4 hg4 hat4; obtain ⟨a4, c4, rfl⟩ := own_formS hown4))
          all_goals
            have had : Below wr.heap.size wr (wr.alloc (.cells #[.string ys, .int .i64 zt.kind, .string zt.name, .int .i64 zt.n, .slice za zt.args.length zc] 41)).drew := ((Below.refl _ _).alloc (Nat.le_refl _) _).drew
            have hend : Below w.heap.size w w4 := (HBWW.out.trans (had.mono HBWW.out.size)).grown hg4 HBASE.out (own_row_ge HOR.out)
            have hrr : Reads (shade wr u3) (shade w4 (.slice a4 (k + 1) c4)) := (shade_below had).trans (shade_grow hg4 hat4)
            have HEND := Lib.hid hend
            have HALL := Lib.hid (show ∀ x ∈ vs ++ [(⟨ys, ⟨zt, za, zc⟩⟩ : Bv)], x.v.ok (shade w4 (.slice a4 (k + 1) c4)) ∧ x.s.size ≤ 9223372036854775807 from fun x hx => by
              rcases List.mem_append.1 hx with hx | hx
              · exact ⟨Tv.ok.reads (HVO.out x hx).1 ((shade_below HWR.out).trans hrr), (HVO.out x hx).2⟩
              · rw [List.mem_singleton] at hx
                subst hx
                exact ⟨Tv.ok.reads HZO.out hrr, HYS.out⟩)
            have HROW := Lib.hid (show w4.ownsRow w.heap.size 41 5 (.slice a4 (k + 1) c4) (k + 1) (rowBv (vs ++ [(⟨ys, ⟨zt, za, zc⟩⟩ : Bv)])) by rw [rowBv_append, rowBv_one]; exact hown4)
            have HVT2 := Lib.hid (show (vs ++ [(⟨ys, ⟨zt, za, zc⟩⟩ : Bv)]).map Bv.bn = (solveL l).take (k + 1) by
              rw [List.map_append, HVT.out, take_snoc (solve_get l k _ HX.out)]
              show _ ++ [(ys, zt)] = _
              rw [show zt = appR (l.drop (k + 1)) yt from HZT.out])
            have hvl2 : (vs ++ [(⟨ys, ⟨zt, za, zc⟩⟩ : Bv)]).length = k + 1 := by rw [List.length_append, hvl]; rfl
            clear had hend hrr hown4 hg4 hat4 m0 m1 m2 m3 p0
            (try go_wp2_with fail)
            go_roundw
            case rel =>
              first
                | exact ⟨k + 1, vs ++ [(⟨ys, ⟨zt, za, zc⟩⟩ : Bv)], by omega, by go_num, hvl2, HVT2, HALL, HROW, HEND⟩
                | exact ⟨_, _, .int .i64 ((k : Int) + 1), ⟨k + 1, vs ++ [(⟨ys, ⟨zt, za, zc⟩⟩ : Bv)], by omega, by go_num, hvl2, HVT2, HALL, HROW, HEND⟩, rfl, rfl, rfl⟩
            case measure => simp [intOf]; omega
    · have hke : k = l.length := by omega
      have hkd : decide ((k : Int) < (l.length : Int)) = false := decide_eq_false (by omega)
      have hkn : ¬ (k : Int) < (l.length : Int) := by omega
      have HBD := Lib.hid (show Bds wo u3 (solveL l) from by
        have hv := HVT.out
        rw [List.take_of_length_le (by have := HSL.out; omega)] at hv
        rw [← hv]
        exact bds_own (w0 := wo) HOWN.out hvl (fun x hx => ⟨Tv.ok.reads (HVO.out x hx).1 (shade_reads _ _), (HVO.out x hx).2⟩) (Below.refl _ _) (by omega))
      clear hke
      go_wp2_with fail
      refine (OF.out _ _ HBD.out).mono ?_; rintro e w9 ⟨u, rfl, hu, hb9⟩
      have HU := Lib.hid hu
      have HB9 := Lib.hid (HBW.out.trans (hb9.mono HBW.out.size))
      clear hu hb9
      go_wp2_with fail
      go_ret
      exact ⟨_, rfl, HU.out, HB9.out⟩
end Go.Proofs.Ytedljdcliilggaa
