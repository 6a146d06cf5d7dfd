/-
  What holds of all pairs that are left while two terms are made alike: each is without arguments, or one of few terms that are closed under arguments; so none is greater than mostT. No function of the program.
  Making terms alike comes to an end: by the variables that are left, then by how great the rows are. No function of the program.
  What may be asked of all pairs that are left while two terms of no more than 40 parts each are made alike, and of what is found. No function of the program.
-/
import Derived.Test.YtedljdcliilggaaU07
namespace Go.Proofs.Ytedljdcliilggaa
open Go.RowKit

/-- Without arguments, or in a list. -/
def GoodT (P : List Tm) (x : Tm) : Prop := x.args = [] ∨ x ∈ P
theorem app_args {b : List Bn} {x : Tm} (hk : x.kind ≠ 1) : (appT b x).args = appL b x.args := by rw [app_head hk]; rfl
theorem app_kind {b : List Bn} {x : Tm} (hk : x.kind ≠ 1) : (appT b x).kind ≠ 1 := by rw [app_head hk]; exact hk
theorem app_leaf {s : ByteArray} {t x : Tm} (h : x.args = []) : (appT [(s, t)] x).args = [] ∨ appT [(s, t)] x = t := by
  obtain ⟨k, z, n, xs⟩ := x
  simp only [Tm.args] at h
  subst h
  rw [appT]
  split
  · split
    · next u hu =>
      by_cases e : s = z
      · rw [getB_hit (s, t) [] e] at hu; exact .inr (Option.some.inj hu).symm
      · rw [getB_miss (s, t) [] e, getB_nil] at hu; cases hu
    · left; simp only [Tm.args, appL]
  · left; simp only [Tm.args, appL]
theorem good_app {P : List Tm} {s : ByteArray} {t x : Tm} (hx : GoodT P x) (ht : GoodT P t) (ho : ¬ HasV s t) : GoodT (P.map (appT [(s, t)])) (appT [(s, t)] x) := by
  rcases hx with hx | hx
  · rcases app_leaf (s := s) (t := t) hx with h | h
    · exact .inl h
    · rw [h]
      rcases ht with ht | ht
      · exact .inl ht
      · exact .inr (List.mem_map.2 ⟨t, ht, app_free t ho⟩)
  · exact .inr (List.mem_map.2 ⟨x, hx, rfl⟩)
/-- What holds of the pairs that are left. -/
structure UInv (P : List Tm) (A : Tm) (us bs : List Tm) : Prop where
  closed : ClosedT P
  kinds : ∀ u ∈ P, u.kind ≠ 1
  ar : arS P + 2 * A.args.length ≤ 78
  root : A.kind ≠ 1
  some_ : 1 ≤ A.args.length
  rargs : ∀ x ∈ A.args, GoodT P x
  gus : ∀ x ∈ us, GoodT P x
  gbs : ∀ x ∈ bs, GoodT P x
  left : ∀ θ, partsL (appL θ us) ≤ (appT θ A).parts
theorem arS_map {P : List Tm} {b : List Bn} (h : ∀ u ∈ P, u.kind ≠ 1) : arS (P.map (appT b)) = arS P := by
  induction P with
  | nil => rfl
  | cons t r ih =>
    rw [List.map_cons, arS_cons, arS_cons, ih (fun u hu => h u (by simp [hu])), app_args (h t (by simp)), appL_len]
theorem UInv.good {P : List Tm} {A : Tm} {us bs : List Tm} (h : UInv P A us bs) {x : Tm} (hx : GoodT P x) : x.parts ≤ gT (78 - 2 * A.args.length) := by
  have := h.ar
  rcases hx with hx | hx
  · rw [parts_leaf hx]; exact g_pos (by omega)
  · exact Nat.le_trans (closed_size P.length P (Nat.le_refl _) h.closed (by omega) x hx) (g_mono (by omega) (by omega))
theorem UInv.root_le {P : List Tm} {A : Tm} {us bs : List Tm} (h : UInv P A us bs) : A.parts ≤ mostT := by
  have h1 := partsL_most (l := A.args) (m := gT (78 - 2 * A.args.length)) fun x hx => h.good (h.rargs x hx)
  have h2 := h.ar
  have h3 := g_root (d := A.args.length) (by omega)
  rw [parts_eq]; omega
theorem UInv.good_le {P : List Tm} {A : Tm} {us bs : List Tm} (h : UInv P A us bs) {x : Tm} (hx : GoodT P x) : x.parts ≤ mostT := by
  have h1 := h.good hx
  have h2 := h.ar
  have h3 := g_root (d := A.args.length) (by omega)
  have h4 : 1 * gT (78 - 2 * A.args.length) ≤ A.args.length * gT (78 - 2 * A.args.length) := Nat.mul_le_mul_right _ h.some_
  omega
mutual
theorem appT_none : ∀ t : Tm, appT [] t = t
  | .mk k s n xs => by
    have := appL_none xs
    rw [appT, getB_nil, this]
    split <;> rfl
theorem appL_none : ∀ l : List Tm, appL [] l = l
  | [] => by rw [appL]
  | t :: r => by rw [appL, appT_none t, appL_none r]
end
theorem UInv.us_parts {P : List Tm} {A : Tm} {us bs : List Tm} (h : UInv P A us bs) : partsL us ≤ mostT := by
  have := h.left []
  rw [appT_none, appL_none] at this
  exact Nat.le_trans this h.root_le
theorem UInv.us_length {P : List Tm} {A : Tm} {us bs : List Tm} (h : UInv P A us bs) : us.length ≤ mostT := Nat.le_trans (partsL_length us) h.us_parts
theorem UInv.same {P : List Tm} {A a b : Tm} {us bs : List Tm} (h : UInv P A (a :: us) (b :: bs)) : UInv P A us bs where
  closed := h.closed
  kinds := h.kinds
  ar := h.ar
  root := h.root
  some_ := h.some_
  rargs := h.rargs
  gus := fun x hx => h.gus x (List.mem_cons_of_mem _ hx)
  gbs := fun x hx => h.gbs x (List.mem_cons_of_mem _ hx)
  left := fun θ => by have := h.left θ; rw [appL, partsL_cons] at this; omega
theorem UInv.args {P : List Tm} {A a b : Tm} {us bs : List Tm} (h : UInv P A (a :: us) (b :: bs)) (hk : a.kind ≠ 1) : UInv P A (a.args ++ us) (b.args ++ bs) where
  closed := h.closed
  kinds := h.kinds
  ar := h.ar
  root := h.root
  some_ := h.some_
  rargs := h.rargs
  gus := fun x hx => by
    rcases List.mem_append.1 hx with hx | hx
    · rcases h.gus a List.mem_cons_self with ha | ha
      · rw [ha] at hx; cases hx
      · exact h.closed a ha x hx
    · exact h.gus x (List.mem_cons_of_mem _ hx)
  gbs := fun x hx => by
    rcases List.mem_append.1 hx with hx | hx
    · rcases h.gbs b List.mem_cons_self with hb | hb
      · rw [hb] at hx; cases hx
      · exact h.closed b hb x hx
    · exact h.gbs x (List.mem_cons_of_mem _ hx)
  left := fun θ => by
    have h1 := h.left θ
    rw [appL, partsL_cons, parts_eq, app_args hk] at h1
    rw [appL_append, partsL_append]; omega
theorem UInv.put {P : List Tm} {A a b t : Tm} {s : ByteArray} {us bs : List Tm} (h : UInv P A (a :: us) (b :: bs)) (ht : GoodT P t) (ho : ¬ HasV s t) :
    UInv (P.map (appT [(s, t)])) (appT [(s, t)] A) (appL [(s, t)] us) (appL [(s, t)] bs) where
  closed := fun u' hu x' hx => by
    obtain ⟨u, hu0, rfl⟩ := List.mem_map.1 hu
    rw [app_args (h.kinds u hu0), appL_map] at hx
    obtain ⟨x, hx0, rfl⟩ := List.mem_map.1 hx
    exact good_app (h.closed u hu0 x hx0) ht ho
  kinds := fun u' hu => by
    obtain ⟨u, hu0, rfl⟩ := List.mem_map.1 hu
    exact app_kind (h.kinds u hu0)
  ar := by rw [arS_map h.kinds, app_args h.root, appL_len]; exact h.ar
  root := app_kind h.root
  some_ := by rw [app_args h.root, appL_len]; exact h.some_
  rargs := fun x' hx => by
    rw [app_args h.root, appL_map] at hx
    obtain ⟨x, hx0, rfl⟩ := List.mem_map.1 hx
    exact good_app (h.rargs x hx0) ht ho
  gus := fun x' hx => by
    rw [appL_map] at hx
    obtain ⟨x, hx0, rfl⟩ := List.mem_map.1 hx
    exact good_app (h.gus x (List.mem_cons_of_mem _ hx0)) ht ho
  gbs := fun x' hx => by
    rw [appL_map] at hx
    obtain ⟨x, hx0, rfl⟩ := List.mem_map.1 hx
    exact good_app (h.gbs x (List.mem_cons_of_mem _ hx0)) ht ho
  left := fun θ => by
    have h1 := h.left (thenB [(s, t)] θ)
    rw [appL, partsL_cons, then_appL, then_app, then_app] at h1
    omega
mutual
theorem all_args : ∀ (t : Tm) {u x : Tm}, u ∈ t.all → x ∈ u.args → x ∈ t.all
  | .mk k s n xs, u, x, hu, hx => by
    rw [all_eq] at hu ⊢
    rcases List.mem_cons.1 hu with rfl | hu
    · exact List.mem_cons_of_mem _ (mem_allL hx)
    · exact List.mem_cons_of_mem _ (allL_args xs hu hx)
theorem allL_args : ∀ (l : List Tm) {u x : Tm}, u ∈ allL l → x ∈ u.args → x ∈ allL l
  | [], _, _, hu, _ => by rw [allL] at hu; cases hu
  | t :: r, u, x, hu, hx => by
    rw [allL_cons] at hu ⊢
    rcases List.mem_append.1 hu with hu | hu
    · exact List.mem_append_left _ (all_args t hu hx)
    · exact List.mem_append_right _ (allL_args r hu hx)
theorem mem_allL : ∀ {l : List Tm} {x : Tm}, x ∈ l → x ∈ allL l
  | t :: r, x, hx => by
    rw [allL_cons]
    rcases List.mem_cons.1 hx with rfl | hx
    · exact List.mem_append_left _ (by rw [all_eq]; exact List.mem_cons_self)
    · exact List.mem_append_right _ (mem_allL hx)
end
mutual
theorem arS_all : ∀ t : Tm, arS t.all + 1 = t.parts
  | .mk k s n xs => by
    have := arS_allL xs
    rw [all_eq, arS_cons, parts_eq]
    simp only [Tm.args]
    omega
theorem arS_allL : ∀ l : List Tm, arS (allL l) + l.length = partsL l
  | [] => by rw [allL, partsL_nil]; rfl
  | t :: r => by
    have h1 := arS_all t
    have h2 := arS_allL r
    rw [allL_cons, arS_append, partsL_cons, List.length_cons]; omega
end
/-- At the start: two terms of no more than 40 parts, taken apart. -/
theorem uinv_start {a b : Tm} (ha : PlainT a) (hb : PlainT b) (hk : a.kind ≠ 1) (hl : a.args.length = b.args.length) (h1 : 1 ≤ a.args.length) (pa : a.parts ≤ 40) (pb : b.parts ≤ 40) : ∃ P, UInv P a a.args b.args := by
  refine ⟨(allL a.args ++ allL b.args).filter (fun t => decide (t.args ≠ [])), ?_⟩
  have key : ∀ x : Tm, x ∈ allL a.args ∨ x ∈ allL b.args → GoodT ((allL a.args ++ allL b.args).filter (fun t => decide (t.args ≠ []))) x := fun x hx => by
    by_cases e : x.args = []
    · exact .inl e
    · exact .inr (List.mem_filter.2 ⟨List.mem_append.2 hx, decide_eq_true e⟩)
  exact {
    closed := fun u hu x hx => by
      rcases List.mem_append.1 (List.mem_filter.1 hu).1 with h | h
      · exact key x (.inl (allL_args _ h hx))
      · exact key x (.inr (allL_args _ h hx))
    kinds := fun u hu hk1 => by
      have hne := of_decide_eq_true (List.mem_filter.1 hu).2
      rcases List.mem_append.1 (List.mem_filter.1 hu).1 with h | h
      · exact hne (ha.args u h hk1).1
      · exact hne (hb.args u h hk1).1
    ar := by
      have h2 := arS_filter (fun t => decide (t.args ≠ [])) (allL a.args ++ allL b.args)
      have h3 := arS_allL a.args
      have h4 := arS_allL b.args
      rw [arS_append] at h2
      rw [parts_eq] at pa pb
      omega
    root := hk
    some_ := h1
    rargs := fun x hx => key x (.inl (mem_allL hx))
    gus := fun x hx => key x (.inl (mem_allL hx))
    gbs := fun x hx => key x (.inr (mem_allL hx))
    left := fun θ => by
      have h2 := parts_eq (appT θ a)
      rw [app_args hk] at h2; omega }
end Go.Proofs.Ytedljdcliilggaa

namespace Go.Proofs.Ytedljdcliilggaa
open Go.RowKit

theorem hasL_append {s : ByteArray} {l m : List Tm} : HasL s (l ++ m) ↔ HasL s l ∨ HasL s m := by
  unfold HasL
  rw [allL_append]
  constructor
  · rintro ⟨x, hx, h⟩
    rcases List.mem_append.1 hx with hx | hx
    · exact .inl ⟨x, hx, h⟩
    · exact .inr ⟨x, hx, h⟩
  · rintro (⟨x, hx, h⟩ | ⟨x, hx, h⟩)
    · exact ⟨x, List.mem_append_left _ hx, h⟩
    · exact ⟨x, List.mem_append_right _ hx, h⟩
theorem hasL_nil {s : ByteArray} : ¬ HasL s [] := by rintro ⟨x, hx, _⟩; rw [allL] at hx; cases hx
mutual
/-- What stands in a term into which something was put stood in it, or in that. -/
theorem has_app {s z : ByteArray} {u : Tm} : ∀ (t : Tm), PlainT t → HasV s (appT [(z, u)] t) → (HasV s t ∧ s ≠ z) ∨ HasV s u
  | .mk k y n xs, hp, h => by
    by_cases hk : k = 1
    · have e := plain_var hp hk
      simp only [Tm.name] at e
      rw [e] at h ⊢
      by_cases hz : z = y
      · subst hz; rw [app_var] at h; exact .inr h
      · have h1 : appT [(z, u)] (varT y) = varT y := app_free _ (fun h => by
          unfold varT at h
          rcases hasV_mk.1 h with ⟨_, e⟩ | h
          · exact hz e.symm
          · exact hasL_nil h)
        rw [h1] at h
        refine .inl ⟨h, fun e2 => ?_⟩
        unfold varT at h
        rcases hasV_mk.1 h with ⟨_, e3⟩ | h
        · exact hz (e2.symm.trans e3.symm)
        · exact hasL_nil h
    · have e : appT [(z, u)] (.mk k y n xs) = .mk k y n (appL [(z, u)] xs) := by rw [appT, if_neg hk]
      rw [e] at h
      rcases hasV_mk.1 h with ⟨h1, _⟩ | h1
      · exact absurd h1 hk
      · rcases has_appL xs hp.args h1 with ⟨h2, h3⟩ | h2
        · exact .inl ⟨hasV_mk.2 (.inr h2), h3⟩
        · exact .inr h2
theorem has_appL {s z : ByteArray} {u : Tm} : ∀ (l : List Tm), PlainL l → HasL s (appL [(z, u)] l) → (HasL s l ∧ s ≠ z) ∨ HasV s u
  | [], _, h => by rw [appL] at h; exact absurd h hasL_nil
  | t :: r, hp, h => by
    rw [appL] at h
    rcases hasL_cons.1 h with h | h
    · rcases has_app t hp.head h with ⟨h1, h2⟩ | h1
      · exact .inl ⟨hasL_cons.2 (.inl h1), h2⟩
      · exact .inr h1
    · rcases has_appL r hp.tail h with ⟨h1, h2⟩ | h1
      · exact .inl ⟨hasL_cons.2 (.inr h1), h2⟩
      · exact .inr h1
end
theorem has_self {t : Tm} (hk : t.kind = 1) : HasV t.name t := by
  obtain ⟨k, s, n, xs⟩ := t
  exact hasV_mk.2 (.inl ⟨hk, rfl⟩)
open Classical in
theorem drop_lt {V : List ByteArray} {s : ByteArray} (h : s ∈ V) : (V.filter (fun z => decide (z ≠ s))).length < V.length :=
  List.length_filter_lt_length_iff_exists.2 ⟨s, h, by simp⟩

open Classical in
/-- SOMETHING IS ALWAYS ANSWERED. -/
theorem row_ends : ∀ (n m : Nat) (V : List ByteArray) (us bs : List Tm), V.length ≤ n → partsL us + partsL bs ≤ m → us.length = bs.length → PlainL us → PlainL bs → (∀ s, HasL s us ∨ HasL s bs → s ∈ V) → ∃ o, RowU us bs o := by
  intro n
  induction n using Nat.strongRecOn with
  | _ n ihn =>
  intro m
  induction m using Nat.strongRecOn with
  | _ m ihm =>
  intro V us bs hV hm hlen hp hq hin
  match us, bs, hlen with
  | [], bs, _ => exact ⟨_, .done bs⟩
  | x :: us, y :: bs, hlen =>
    have hx1 : 1 ≤ x.parts := by rw [parts_eq]; omega
    have hlen' : us.length = bs.length := by simpa using hlen
    rw [partsL_cons, partsL_cons] at hm
    have step : ∀ (s : ByteArray) (u : Tm), s ∈ V → PlainT u → ¬ HasV s u → (∀ z, HasV z u → z ∈ V) → ∃ o, RowU (appL [(s, u)] us) (appL [(s, u)] bs) o := by
      intro s u hs hu ho huV
      have hP : ∀ z ∈ [((s, u) : Bn)], PlainT z.2 := fun z hz => by rw [List.mem_singleton] at hz; subst hz; exact hu
      have hlt := drop_lt hs
      refine ihn (V.filter (fun z => decide (z ≠ s))).length (by omega) _ (V.filter (fun z => decide (z ≠ s))) _ _ (Nat.le_refl _) (Nat.le_refl _) (by rw [appL_len, appL_len, hlen']) (plain_appL hP _ hp.tail) (plain_appL hP _ hq.tail) ?_
      intro z hz
      have hz' : (z ∈ V ∧ z ≠ s) ∨ HasV z u := by
        rcases hz with hz | hz
        · rcases has_appL _ hp.tail hz with ⟨h1, h2⟩ | h1
          · exact .inl ⟨hin z (.inl (hasL_cons.2 (.inr h1))), h2⟩
          · exact .inr h1
        · rcases has_appL _ hq.tail hz with ⟨h1, h2⟩ | h1
          · exact .inl ⟨hin z (.inr (hasL_cons.2 (.inr h1))), h2⟩
          · exact .inr h1
      rw [List.mem_filter]
      rcases hz' with ⟨h1, h2⟩ | h1
      · exact ⟨h1, by simpa using h2⟩
      · refine ⟨huV z h1, ?_⟩
        have : z ≠ s := fun e => ho (e ▸ h1)
        simpa using this
    by_cases hn : x = y
    · subst hn
      obtain ⟨o, ho⟩ := ihm (partsL us + partsL bs) (by omega) V us bs hV (Nat.le_refl _) hlen' hp.tail hq.tail (fun s hs => hin s (hs.imp (fun h => hasL_cons.2 (.inr h)) (fun h => hasL_cons.2 (.inr h))))
      exact ⟨o, .same ho⟩
    · by_cases hk : x.kind = 1
      · by_cases hh : HasV x.name y
        · exact ⟨_, .occ hn hk hh⟩
        · obtain ⟨o, ho⟩ := step x.name y (hin _ (.inl (hasL_cons.2 (.inl (has_self hk))))) hq.head hh (fun z hz => hin z (.inr (hasL_cons.2 (.inl hz))))
          exact ⟨_, .bind hn hk hh ho⟩
      · by_cases hl : y.kind = 1
        · by_cases hh : HasV y.name x
          · exact ⟨_, .occ' hn hk hl hh⟩
          · obtain ⟨o, ho⟩ := step y.name x (hin _ (.inr (hasL_cons.2 (.inl (has_self hl))))) hp.head hh (fun z hz => hin z (.inl (hasL_cons.2 (.inl hz))))
            exact ⟨_, .bind' hn hk hl hh ho⟩
        · by_cases hh : headB x y = true ∧ x.args.length = y.args.length
          · have e1 := parts_eq x
            have e2 := parts_eq y
            have hargs : ∀ (s : ByteArray) (t : Tm), HasL s t.args → HasV s t := fun _ t h => by obtain ⟨k, z, n, xs⟩ := t; exact hasV_mk.2 (.inr h)
            obtain ⟨o, ho⟩ := ihm (partsL (x.args ++ us) + partsL (y.args ++ bs)) (by rw [partsL_append, partsL_append]; omega) V (x.args ++ us) (y.args ++ bs) hV (Nat.le_refl _) (by rw [List.length_append, List.length_append, hh.2, hlen']) (plainL_append hp.head.args hp.tail) (plainL_append hq.head.args hq.tail) (fun s hs => by
              refine hin s (hs.imp (fun h => ?_) (fun h => ?_))
              · rcases hasL_append.1 h with h | h
                · exact hasL_cons.2 (.inl (hargs s x h))
                · exact hasL_cons.2 (.inr h)
              · rcases hasL_append.1 h with h | h
                · exact hasL_cons.2 (.inl (hargs s y h))
                · exact hasL_cons.2 (.inr h))
            exact ⟨o, .args hn hk hl hh.1 hh.2 ho⟩
          · exact ⟨_, .clash hk hl hh⟩
/-- The names in a row, as a list. -/
theorem names_of (l : List Tm) : ∃ V : List ByteArray, ∀ s, HasL s l → s ∈ V :=
  ⟨(allL l).map Tm.name, fun _ ⟨x, hx, _, e⟩ => List.mem_map.2 ⟨x, hx, e⟩⟩
theorem row_any (us bs : List Tm) (hlen : us.length = bs.length) (hp : PlainL us) (hq : PlainL bs) : ∃ o, RowU us bs o := by
  obtain ⟨V, hV⟩ := names_of us
  obtain ⟨W, hW⟩ := names_of bs
  exact row_ends _ _ (V ++ W) us bs (Nat.le_refl _) (Nat.le_refl _) hlen hp hq (fun s h => by
    rcases h with h | h
    · exact List.mem_append_left _ (hV s h)
    · exact List.mem_append_right _ (hW s h))
end Go.Proofs.Ytedljdcliilggaa

namespace Go.Proofs.Ytedljdcliilggaa
open Go.RowKit

/-- What comes of binds one behind the other, while they are put into each other. -/
def Soft (l : List Bn) : Prop := ∀ i x, l[i]? = some x → ∀ k, (appR ((l.drop (i + 1)).take k) x.2).parts ≤ mostT
theorem row_soft {us bs : List Tm} {o : Option (List Bn)} (h : RowU us bs o) : ∀ {P : List Tm} {A : Tm}, UInv P A us bs → ∀ l, o = some l →
    (∀ t, GoodT P t → ∀ k, (appR (l.take k) t).parts ≤ mostT) ∧ (∀ k, (appR (l.take k) A).parts ≤ mostT) ∧ Soft l := by
  have put : ∀ {us bs : List Tm} {a b t : Tm} {s : ByteArray} {P : List Tm} {A : Tm} {m : List Bn}, UInv P A (a :: us) (b :: bs) → GoodT P t → ¬ HasV s t →
      ((∀ t', GoodT (P.map (appT [(s, t)])) t' → ∀ k, (appR (m.take k) t').parts ≤ mostT) ∧ (∀ k, (appR (m.take k) (appT [(s, t)] A)).parts ≤ mostT) ∧ Soft m) →
      (∀ t', GoodT P t' → ∀ k, (appR (((s, t) :: m).take k) t').parts ≤ mostT) ∧ (∀ k, (appR (((s, t) :: m).take k) A).parts ≤ mostT) ∧ Soft ((s, t) :: m) := by
    intro us bs a b t s P A m hU ht ho ⟨i1, i2, i3⟩
    refine ⟨fun t' ht' k => ?_, fun k => ?_, fun i x hx k => ?_⟩
    · cases k with
      | zero => exact hU.good_le ht'
      | succ k => rw [List.take_succ_cons, appR]; exact i1 _ (good_app ht' ht ho) k
    · cases k with
      | zero => exact hU.root_le
      | succ k => rw [List.take_succ_cons, appR]; exact i2 k
    · cases i with
      | zero =>
        simp only [List.getElem?_cons_zero, Option.some.injEq] at hx
        subst hx
        rw [List.drop_succ_cons, List.drop_zero]
        have := good_app ht ht ho
        rw [app_free t ho] at this
        exact i1 t this k
      | succ i =>
        rw [List.drop_succ_cons]
        exact i3 i x (by simpa using hx) k
  induction h with
  | done bs =>
    intro P A hU l hl
    cases hl
    exact ⟨fun t ht k => by rw [List.take_nil]; exact hU.good_le ht, fun k => by rw [List.take_nil]; exact hU.root_le, fun i x hx => by simp at hx⟩
  | same h ih => intro P A hU l hl; exact ih hU.same l hl
  | occ => intro P A hU l hl; cases hl
  | occ' => intro P A hU l hl; cases hl
  | @bind x y us bs o hn hk ho h ih =>
    intro P A hU l hl
    obtain ⟨m, hm, rfl⟩ := Option.map_eq_some_iff.1 hl
    have ht := hU.gbs y List.mem_cons_self
    exact put hU ht ho (ih (hU.put ht ho) m hm)
  | @bind' x y us bs o hn hk hl ho h ih =>
    intro P A hU l hlo
    obtain ⟨m, hm, rfl⟩ := Option.map_eq_some_iff.1 hlo
    have ht := hU.gus x List.mem_cons_self
    exact put hU ht ho (ih (hU.put ht ho) m hm)
  | clash => intro P A hU l hl; cases hl
  | @args x y us bs o hn hk hl hh he h ih => intro P A hU l hlo; exact ih (hU.args hk) l hlo
/-- No more is bound than there are names. -/
theorem row_few {us bs : List Tm} {o : Option (List Bn)} (h : RowU us bs o) : ∀ (V : List ByteArray), PlainL us → PlainL bs → (∀ s, HasL s us ∨ HasL s bs → s ∈ V) → ∀ l, o = some l → l.length ≤ V.length := by
  have put : ∀ {us bs : List Tm} {t : Tm} {s : ByteArray} {V : List ByteArray}, PlainL us → PlainL bs → ¬ HasV s t → (∀ z, HasL z us ∨ HasL z bs ∨ HasV z t → z ∈ V) →
      ∀ z, HasL z (appL [(s, t)] us) ∨ HasL z (appL [(s, t)] bs) → z ∈ V.filter (fun z => decide (z ≠ s)) := by
    intro us bs t s V hp hq ho hV z hz
    have key : ∀ l : List Tm, PlainL l → (∀ z, HasL z l → z ∈ V) → HasL z (appL [(s, t)] l) → z ∈ V.filter (fun z => decide (z ≠ s)) := fun l hl hVl h => by
      rcases has_appL l hl h with ⟨h1, h2⟩ | h1
      · exact List.mem_filter.2 ⟨hVl z h1, decide_eq_true h2⟩
      · exact List.mem_filter.2 ⟨hV z (.inr (.inr h1)), decide_eq_true (fun e => ho (e ▸ h1))⟩
    rcases hz with hz | hz
    · exact key us hp (fun z h => hV z (.inl h)) hz
    · exact key bs hq (fun z h => hV z (.inr (.inl h))) hz
  induction h with
  | done bs => intro V _ _ _ l hl; cases hl; exact Nat.zero_le _
  | same h ih => intro V hp hq hV l hl; exact ih V hp.tail hq.tail (fun s hs => hV s (hs.imp (fun h => hasL_cons.2 (.inr h)) (fun h => hasL_cons.2 (.inr h)))) l hl
  | occ => intro V _ _ _ l hl; cases hl
  | occ' => intro V _ _ _ l hl; cases hl
  | @bind x y us bs o hn hk ho h ih =>
    intro V hp hq hV l hl
    obtain ⟨m, hm, rfl⟩ := Option.map_eq_some_iff.1 hl
    have hP : ∀ z ∈ [((x.name, y) : Bn)], PlainT z.2 := fun z hz => by rw [List.mem_singleton] at hz; subst hz; exact hq.head
    have h1 := ih (V.filter (fun z => decide (z ≠ x.name))) (plain_appL hP _ hp.tail) (plain_appL hP _ hq.tail) (put hp.tail hq.tail ho (fun z hz => by
      rcases hz with hz | hz | hz
      · exact hV z (.inl (hasL_cons.2 (.inr hz)))
      · exact hV z (.inr (hasL_cons.2 (.inr hz)))
      · exact hV z (.inr (hasL_cons.2 (.inl hz))))) m hm
    have h2 := drop_lt (hV x.name (.inl (hasL_cons.2 (.inl (has_self hk)))))
    rw [List.length_cons]; omega
  | @bind' x y us bs o hn hk hl ho h ih =>
    intro V hp hq hV l hlo
    obtain ⟨m, hm, rfl⟩ := Option.map_eq_some_iff.1 hlo
    have hP : ∀ z ∈ [((y.name, x) : Bn)], PlainT z.2 := fun z hz => by rw [List.mem_singleton] at hz; subst hz; exact hp.head
    have h1 := ih (V.filter (fun z => decide (z ≠ y.name))) (plain_appL hP _ hp.tail) (plain_appL hP _ hq.tail) (put hp.tail hq.tail ho (fun z hz => by
      rcases hz with hz | hz | hz
      · exact hV z (.inl (hasL_cons.2 (.inr hz)))
      · exact hV z (.inr (hasL_cons.2 (.inr hz)))
      · exact hV z (.inl (hasL_cons.2 (.inl hz))))) m hm
    have h2 := drop_lt (hV y.name (.inr (hasL_cons.2 (.inl (has_self hl)))))
    rw [List.length_cons]; omega
  | clash => intro V _ _ _ l hl; cases hl
  | @args x y us bs o hn hk hl hh he h ih =>
    intro V hp hq hV l hlo
    have sub : ∀ {t : Tm} {s : ByteArray}, HasL s t.args → HasV s t := fun {t s} ⟨x, hx, h⟩ => ⟨x, by rw [all_eq]; exact List.mem_cons_of_mem _ hx, h⟩
    refine ih V (plainL_append hp.head.args hp.tail) (plainL_append hq.head.args hq.tail) (fun s hs => ?_) l hlo
    rcases hs with hs | hs
    · rcases hasL_append.1 hs with hs | hs
      · exact hV s (.inl (hasL_cons.2 (.inl (sub hs))))
      · exact hV s (.inl (hasL_cons.2 (.inr hs)))
    · rcases hasL_append.1 hs with hs | hs
      · exact hV s (.inr (hasL_cons.2 (.inl (sub hs))))
      · exact hV s (.inr (hasL_cons.2 (.inr hs)))
/-- What may be asked of the pairs that are left. -/
def Fine (us bs : List Tm) : Prop := (∃ P A, UInv P A us bs) ∨ (∃ a b, us = [a] ∧ bs = [b] ∧ PlainT a ∧ PlainT b ∧ a.parts ≤ 40 ∧ b.parts ≤ 40) ∨ (us = [] ∧ bs = [])
theorem Fine.one {us bs : List Tm} (h : Fine us bs) : ∀ x, x ∈ us ∨ x ∈ bs → x.parts ≤ mostT := fun x hx => by
  rcases h with ⟨P, A, h⟩ | ⟨a, b, rfl, rfl, _, _, h1, h2⟩ | ⟨rfl, rfl⟩
  · rcases hx with hx | hx
    · exact h.good_le (h.gus x hx)
    · exact h.good_le (h.gbs x hx)
  · rcases hx with hx | hx
    · rw [List.mem_singleton.1 hx]; unfold mostT; omega
    · rw [List.mem_singleton.1 hx]; unfold mostT; omega
  · rcases hx with hx | hx <;> cases hx
theorem Fine.len {us bs : List Tm} (h : Fine us bs) : us.length ≤ mostT := by
  rcases h with ⟨P, A, h⟩ | ⟨a, b, rfl, rfl, _⟩ | ⟨rfl, rfl⟩
  · exact h.us_length
  · unfold mostT; simp
  · unfold mostT; simp
theorem Fine.same {a b : Tm} {us bs : List Tm} (h : Fine (a :: us) (b :: bs)) : Fine us bs := by
  rcases h with ⟨P, A, h⟩ | ⟨_, _, e1, e2, _⟩ | ⟨e, _⟩
  · exact .inl ⟨P, A, h.same⟩
  · injection e1 with _ e1; injection e2 with _ e2; exact .inr (.inr ⟨e1, e2⟩)
  · cases e
theorem Fine.put {a b : Tm} {us bs : List Tm} {s : ByteArray} {t : Tm} (h : Fine (a :: us) (b :: bs)) (ht : t = a ∨ t = b) (ho : ¬ HasV s t) : Fine (appL [(s, t)] us) (appL [(s, t)] bs) := by
  rcases h with ⟨P, A, h⟩ | ⟨_, _, e1, e2, _⟩ | ⟨e, _⟩
  · exact .inl ⟨_, _, h.put (by rcases ht with rfl | rfl; exact h.gus _ List.mem_cons_self; exact h.gbs _ List.mem_cons_self) ho⟩
  · injection e1 with _ e1; injection e2 with _ e2
    subst e1 e2
    exact .inr (.inr ⟨by rw [appL], by rw [appL]⟩)
  · cases e
theorem Fine.args {a b : Tm} {us bs : List Tm} (h : Fine (a :: us) (b :: bs)) (hk : a.kind ≠ 1) (he : a.args.length = b.args.length) : Fine (a.args ++ us) (b.args ++ bs) := by
  rcases h with ⟨P, A, h⟩ | ⟨_, _, e1, e2, h1, h2, h3, h4⟩ | ⟨e, _⟩
  · exact .inl ⟨P, A, h.args hk⟩
  · injection e1 with e1 e3; injection e2 with e2 e4
    subst e1 e2 e3 e4
    rw [List.append_nil, List.append_nil]
    by_cases h0 : a.args.length = 0
    · exact .inr (.inr ⟨List.eq_nil_of_length_eq_zero h0, List.eq_nil_of_length_eq_zero (by omega)⟩)
    · obtain ⟨P, h⟩ := uinv_start h1 h2 hk he (by omega) h3 h4
      exact .inl ⟨P, a, h⟩
  · cases e
theorem fine_start {a b : Tm} (ha : PlainT a) (hb : PlainT b) (pa : a.parts ≤ 40) (pb : b.parts ≤ 40) : Fine [a] [b] := .inr (.inl ⟨a, b, rfl, rfl, ha, hb, pa, pb⟩)
theorem row_nil {bs : List Tm} {o : Option (List Bn)} (h : RowU [] bs o) : o = some [] := by
  cases h; rfl
theorem soft_nil : Soft [] := fun i x hx => by simp at hx
theorem few_le {n : Nat} (h : n ≤ 40) : n ≤ mostT := by unfold mostT; omega
/-- OF TWO TERMS OF NO MORE THAN 40 PARTS EACH nothing that is found, put in or not, is greater than mostT, and no more is bound than 80. -/
theorem row_fine {us bs : List Tm} {o : Option (List Bn)} (h : RowU us bs o) {a b : Tm} (hu : us = [a]) (hb : bs = [b]) {l : List Bn} (ho : o = some l) (ha : PlainT a) (hq : PlainT b) (pa : a.parts ≤ 40) (pb : b.parts ≤ 40) :
    Soft l ∧ (∀ k, (appR (l.take k) a).parts ≤ mostT) ∧ (appR l b).parts ≤ mostT ∧ l.length ≤ 80 := by
  have few : l.length ≤ 80 := by
    have h1 := row_few h ((allL us).map Tm.name ++ (allL bs).map Tm.name) (by rw [hu]; intro x hx; rw [allL_cons, allL, List.append_nil] at hx; exact ha x hx) (by rw [hb]; intro x hx; rw [allL_cons, allL, List.append_nil] at hx; exact hq x hx)
      (fun s hs => by
        rcases hs with ⟨x, hx, _, e⟩ | ⟨x, hx, _, e⟩
        · exact List.mem_append_left _ (List.mem_map.2 ⟨x, hx, e⟩)
        · exact List.mem_append_right _ (List.mem_map.2 ⟨x, hx, e⟩)) l ho
    rw [List.length_append, List.length_map, List.length_map, allL_length, allL_length, hu, hb, partsL_cons, partsL_cons, partsL_nil] at h1
    omega
  have alike : (appR l a).parts = (appR l b).parts := by
    have h1 := row_alike h l ho (by rw [hu, hb]; rfl) (by rw [hu]; intro x hx; rw [allL_cons, allL, List.append_nil] at hx; exact ha x hx) (by rw [hb]; intro x hx; rw [allL_cons, allL, List.append_nil] at hx; exact hq x hx)
    rw [hu, hb, List.map_cons, List.map_cons] at h1
    injection h1 with h1 _
    rw [h1]
  suffices hs : Soft l ∧ (∀ k, (appR (l.take k) a).parts ≤ mostT) from ⟨hs.1, hs.2, by have := hs.2 l.length; rw [List.take_length] at this; omega, few⟩
  cases h with
  | done => cases hu
  | same h =>
    injection hu with _ e; subst e
    rw [row_nil h] at ho
    cases ho
    exact ⟨soft_nil, fun k => by rw [List.take_nil]; exact few_le pa⟩
  | occ => cases ho
  | occ' => cases ho
  | bind hn hk hv h =>
    injection hu with e1 e; subst e e1
    injection hb with e2 e; subst e e2
    rw [appL] at h
    rw [row_nil h] at ho
    cases ho
    refine ⟨fun i x hx k => ?_, fun k => ?_⟩
    · cases i with
      | zero =>
        simp only [List.getElem?_cons_zero, Option.some.injEq] at hx
        subst hx
        simp only [List.drop_succ_cons, List.drop_zero, List.take_nil, appR]
        exact few_le pb
      | succ i => simp at hx
    · cases k with
      | zero => exact few_le pa
      | succ k =>
        rw [List.take_succ_cons, List.take_nil, appR, appR, plain_var ha hk]
        simp only [Tm.name, varT]
        exact few_le (by rw [show appT [(_, _)] (Tm.mk 1 _ 0 []) = _ from app_var _ _]; exact pb)
  | bind' hn hk hl hv h =>
    injection hu with e1 e; subst e e1
    injection hb with e2 e; subst e e2
    rw [appL] at h
    rw [row_nil h] at ho
    cases ho
    refine ⟨fun i x hx k => ?_, fun k => ?_⟩
    · cases i with
      | zero =>
        simp only [List.getElem?_cons_zero, Option.some.injEq] at hx
        subst hx
        simp only [List.drop_succ_cons, List.drop_zero, List.take_nil, appR]
        exact few_le pa
      | succ i => simp at hx
    · cases k with
      | zero => exact few_le pa
      | succ k =>
        rw [List.take_succ_cons, List.take_nil, appR, appR, app_free _ hv]
        exact few_le pa
  | clash => cases ho
  | @args x y us' bs' o' hn hk hl hh he h =>
    injection hu with e1 e; subst e e1
    injection hb with e2 e; subst e e2
    rw [List.append_nil, List.append_nil] at h
    by_cases h0 : x.args.length = 0
    · rw [List.eq_nil_of_length_eq_zero h0] at h
      rw [row_nil h] at ho
      cases ho
      exact ⟨soft_nil, fun k => by rw [List.take_nil]; exact few_le pa⟩
    · obtain ⟨P, hU⟩ := uinv_start ha hq hk he (by omega) pa pb
      obtain ⟨_, h2, h3⟩ := row_soft h hU l ho
      exact ⟨h3, h2⟩
end Go.Proofs.Ytedljdcliilggaa
