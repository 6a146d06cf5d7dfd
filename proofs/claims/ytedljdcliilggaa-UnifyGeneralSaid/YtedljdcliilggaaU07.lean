/-
  Binds with which a pattern is a term, as data: what is found makes the pattern the term; what is put into a pattern is found. No function of the program.
  Terms made alike, as data: what is found in the order in which it is found makes both alike; whatever makes both alike agrees with it. No function of the program.
  How great terms may become that are made alike: of two terms of no more than 40 parts each, no term that comes up has more than 2,212,364,702,435 parts. No function of the program.
-/
import Derived.Test.YtedljdcliilggaaU06
import Derived.Test.YtedljdcliilggaaU01
namespace Go.Proofs.Ytedljdcliilggaa
open Go.RowKit

/-- Whether two terms are alike but for their arguments. -/
def headB (p t : Tm) : Bool := p.kind == t.kind && p.n == t.n && p.name.toList == t.name.toList
theorem headB_iff {p t : Tm} : headB p t = true ↔ p.kind = t.kind ∧ p.n = t.n ∧ p.name = t.name := by
  unfold headB; rw [Bool.and_eq_true, Bool.and_eq_true, beq_iff_eq, beq_iff_eq, beq_name, and_assoc]
mutual
/-- The binds with which a pattern is a term, beginning with some. -/
noncomputable def moreT : Tm → Tm → List Bn → Option (List Bn)
  | .mk k s n xs, t, l => if k = 1 then (match getB l s with | none => some (ofB ((s, t) :: l)) | some u => if eqT u t = true then some (ofB l) else none)
      else if headB (.mk k s n xs) t = true then moreL xs t.args (ofB l) else none
noncomputable def moreL : List Tm → List Tm → List Bn → Option (List Bn)
  | [], [], l => some (ofB l)
  | [], _ :: _, _ => none
  | _ :: _, [], _ => none
  | p :: ps, t :: ts, l => match moreT p t l with | some m => moreL ps ts m | none => none
end
theorem moreT_eq (p t : Tm) (l : List Bn) : moreT p t l = if p.kind = 1 then (match getB l p.name with | none => some (ofB ((p.name, t) :: l)) | some u => if eqT u t = true then some (ofB l) else none) else if headB p t = true then moreL p.args t.args (ofB l) else none := by
  cases p; rw [moreT]; rfl
theorem moreL_nil (l : List Bn) : moreL [] [] l = some (ofB l) := by rw [moreL]
theorem moreL_cons (p t : Tm) (ps ts : List Tm) (l : List Bn) : moreL (p :: ps) (t :: ts) l = (moreT p t l).bind fun m => moreL ps ts m := by
  rw [moreL]; cases moreT p t l <;> rfl
theorem moreL_length : ∀ {ps ts : List Tm} {l m : List Bn}, moreL ps ts l = some m → ps.length = ts.length
  | [], [], _, _, _ => rfl
  | [], _ :: _, _, _, h => by rw [moreL] at h; cases h
  | _ :: _, [], _, _, h => by rw [moreL] at h; cases h
  | p :: ps, t :: ts, l, m, h => by
    rw [moreL_cons] at h
    cases hm : moreT p t l with
    | none => rw [hm] at h; cases h
    | some m1 =>
      rw [hm] at h
      rw [List.length_cons, List.length_cons, moreL_length (l := m1) (m := m) h]
theorem moreT_of (p t : Tm) (l : List Bn) : moreT p t (ofB l) = moreT p t l := by
  rw [moreT_eq, moreT_eq, ofB_get, ofB_rise (ofB_rising l)]
  rw [show ofB ((p.name, t) :: ofB l) = ofB ((p.name, t) :: l) from ofB_congr fun s => by
    by_cases h : p.name = s
    · rw [getB_hit _ _ h, getB_hit _ _ h]
    · rw [getB_miss _ _ h, getB_miss _ _ h, ofB_get]]
theorem moreL_rise0 {ps ts : List Tm} {l m : List Bn} (h : moreL ps ts l = some m) (hl : ∀ p ∈ ps, ∀ t l m, moreT p t l = some m → ofB m = m) : ofB m = m := by
  induction ps generalizing ts l with
  | nil =>
    cases ts with
    | nil => rw [moreL_nil] at h; cases h; exact ofB_rise (ofB_rising l)
    | cons => rw [moreL] at h; cases h
  | cons p ps ih =>
    cases ts with
    | nil => rw [moreL] at h; cases h
    | cons t ts =>
      rw [moreL_cons] at h
      cases hm : moreT p t l with
      | none => rw [hm] at h; cases h
      | some m1 => rw [hm] at h; exact ih (ts := ts) (l := m1) h (fun q hq => hl q (by simp [hq]))
theorem moreT_rise {p t : Tm} {l m : List Bn} (h : moreT p t l = some m) : ofB m = m := by
  have key : ∀ n : Nat, ∀ (p : Tm), p.parts ≤ n → ∀ (t : Tm) (l m : List Bn), moreT p t l = some m → ofB m = m := by
    intro n
    induction n with
    | zero => intro p hp; have := parts_pos p; omega
    | succ n ih =>
      intro p hp t l m h
      rw [moreT_eq] at h
      split at h
      · split at h
        · cases h; exact ofB_rise (ofB_rising _)
        · split at h
          · cases h; exact ofB_rise (ofB_rising _)
          · cases h
      · split at h
        · exact moreL_rise0 h fun q hq t' l' m' h' => by
            obtain ⟨j, hj, rfl⟩ := List.getElem_of_mem hq
            exact ih _ (by have := parts_arg p hj; omega) t' l' m' h'
        · cases h
  exact key p.parts p (Nat.le_refl _) t l m h
theorem moreL_rise {ps ts : List Tm} {l m : List Bn} (h : moreL ps ts l = some m) : ofB m = m := moreL_rise0 h (fun _ _ _ _ _ h => moreT_rise h)
theorem moreL_snoc : ∀ (ps ts : List Tm) (p t : Tm) (l : List Bn), ps.length = ts.length → moreL (ps ++ [p]) (ts ++ [t]) l = (moreL ps ts l).bind fun m => moreT p t m
  | [], [], p, t, l, _ => by
    rw [List.nil_append, List.nil_append, moreL_cons, moreL_nil]
    show (moreT p t l).bind (fun m => moreL [] [] m) = moreT p t (ofB l)
    have e : moreT p t (ofB l) = moreT p t l := moreT_of p t l
    rw [e]
    cases hm : moreT p t l with
    | none => rfl
    | some m => show moreL [] [] m = some m; rw [moreL_nil, moreT_rise hm]
  | x :: ps, y :: ts, p, t, l, h => by
    rw [List.cons_append, List.cons_append, moreL_cons, moreL_cons]
    cases hm : moreT x y l with
    | none => rfl
    | some m => exact moreL_snoc ps ts p t m (by simpa using h)
/-- The first few of two lists of patterns and terms. -/
theorem moreL_take {ps ts : List Tm} (l : List Bn) {k : Nat} (hp : k < ps.length) (ht : k < ts.length) : moreL (ps.take (k + 1)) (ts.take (k + 1)) l = (moreL (ps.take k) (ts.take k) l).bind fun m => moreT ps[k] ts[k] m := by
  rw [List.take_succ_eq_append_getElem hp, List.take_succ_eq_append_getElem ht, moreL_snoc]
  rw [List.length_take, List.length_take]; omega
theorem moreL_short {ps ts : List Tm} {l : List Bn} (h : ps.length ≠ ts.length) : moreL ps ts l = none := by
  cases hm : moreL ps ts l with
  | none => rfl
  | some m => exact absurd (moreL_length hm) h
theorem moreL_stop : ∀ {ps ts : List Tm} {l : List Bn} {k : Nat}, k ≤ ps.length → ps.length = ts.length → moreL (ps.take k) (ts.take k) l = none → moreL ps ts l = none
  | [], [], l, k, _, _, h => by simpa using h
  | p :: ps, t :: ts, l, 0, _, _, h => by rw [List.take_zero, List.take_zero, moreL_nil] at h; cases h
  | p :: ps, t :: ts, l, k + 1, hk, hl, h => by
    rw [List.take_succ_cons, List.take_succ_cons, moreL_cons] at h
    rw [moreL_cons]
    cases hm : moreT p t l with
    | none => rfl
    | some m =>
      rw [hm] at h
      exact moreL_stop (k := k) (by simpa using hk) (by simpa using hl) h

/-! ### How many there are -/
theorem ofB_le (l : List Bn) : (ofB l).length ≤ l.length := by
  have hW : ∀ (s : ByteArray) (l : List ByteArray), (insW l s).length = l.length + 1 := fun s l => by
    induction l with
    | nil => rfl
    | cons x l ih => rw [insW]; split <;> simp [ih]
  have hN : ∀ (l : List ByteArray) (s : ByteArray), (insN l s).length ≤ l.length + 1 := fun l s => by
    unfold insN; split
    · omega
    · rw [hW]; omega
  have : ∀ (l : List Bn) (acc : List ByteArray), (l.foldl (fun acc x => insN acc x.1) acc).length ≤ acc.length + l.length := by
    intro l
    induction l with
    | nil => intro acc; simp
    | cons x r ih => intro acc; rw [List.foldl_cons, List.length_cons]; have := ih (insN acc x.1); have := hN acc x.1; omega
  unfold ofB rowOfN namesB
  rw [List.length_map]
  simpa using this l []
mutual
theorem moreT_len : ∀ (p t : Tm) (l m : List Bn), moreT p t l = some m → m.length ≤ l.length + p.parts
  | .mk k s n xs, t, l, m, h => by
    rw [moreT_eq] at h
    rw [parts_eq]
    split at h
    · split at h
      · cases h; have := ofB_le ((s, t) :: l); rw [List.length_cons] at this; simp only [Tm.name]; omega
      · split at h
        · cases h; have := ofB_le l; omega
        · cases h
    · split at h
      · have h1 := moreL_len xs _ _ _ h
        have := ofB_le l
        simp only [Tm.args]
        omega
      · cases h
theorem moreL_len : ∀ (ps ts : List Tm) (l m : List Bn), moreL ps ts l = some m → m.length ≤ l.length + partsL ps
  | [], [], l, m, h => by rw [moreL_nil] at h; cases h; have := ofB_le l; omega
  | [], _ :: _, _, _, h => by rw [moreL] at h; cases h
  | _ :: _, [], _, _, h => by rw [moreL] at h; cases h
  | p :: ps, t :: ts, l, m, h => by
    rw [moreL_cons] at h
    cases hm : moreT p t l with
    | none => rw [hm] at h; cases h
    | some m1 =>
      rw [hm] at h
      have h1 := moreT_len p t l m1 hm
      have h2 := moreL_len ps ts m1 m h
      rw [partsL_cons]; omega
end

/-! ### What is found makes the pattern the term -/
def Ext (l m : List Bn) : Prop := ∀ s u, getB l s = some u → getB m s = some u
theorem Ext.refl (l : List Bn) : Ext l l := fun _ _ h => h
theorem Ext.trans {l m n : List Bn} (h : Ext l m) (k : Ext m n) : Ext l n := fun s u hu => k s u (h s u hu)
theorem ext_of (l : List Bn) : Ext l (ofB l) := fun s u h => by rw [ofB_get]; exact h
def PlainT (t : Tm) : Prop := ∀ x ∈ t.all, x.kind = 1 → x.args = [] ∧ x.n = 0
def PlainL (l : List Tm) : Prop := ∀ x ∈ allL l, x.kind = 1 → x.args = [] ∧ x.n = 0
theorem allL_cons (t : Tm) (r : List Tm) : allL (t :: r) = t.all ++ allL r := by rw [allL]
theorem PlainT.args {t : Tm} (h : PlainT t) : PlainL t.args := fun x hx => h x (by rw [all_eq]; exact List.mem_cons_of_mem _ hx)
theorem PlainT.self {t : Tm} (h : PlainT t) : t.kind = 1 → t.args = [] ∧ t.n = 0 := h t (by rw [all_eq]; exact List.mem_cons_self)
theorem PlainL.head {t : Tm} {r : List Tm} (h : PlainL (t :: r)) : PlainT t := fun x hx => h x (by rw [allL_cons]; exact List.mem_append_left _ hx)
theorem PlainL.tail {t : Tm} {r : List Tm} (h : PlainL (t :: r)) : PlainL r := fun x hx => h x (by rw [allL_cons]; exact List.mem_append_right _ hx)
mutual
theorem moreT_ext : ∀ (p t : Tm) (l m : List Bn), moreT p t l = some m → Ext l m ∧ (PlainT p → ∀ m', Ext m m' → appT m' p = t)
  | .mk k s n xs, .mk k' s' n' ts, l, m, h => by
    rw [moreT_eq] at h
    by_cases hk : k = 1
    · subst hk
      rw [if_pos (show (Tm.mk 1 s n xs).kind = 1 from rfl)] at h
      simp only [Tm.name] at h
      cases hg : getB l s with
      | none =>
        rw [hg] at h
        simp only [Option.some.injEq] at h
        subst h
        refine ⟨fun z u hz => ?_, fun hp m' he => ?_⟩
        · rw [ofB_get, getB_miss _ _ (show ((s, Tm.mk k' s' n' ts) : Bn).1 ≠ z from fun e => by subst e; rw [hg] at hz; cases hz)]; exact hz
        · have := he s (.mk k' s' n' ts) (by rw [ofB_get]; exact getB_hit _ _ rfl)
          rw [appT, if_pos rfl, this]
      | some u =>
        rw [hg] at h
        simp only at h
        split at h
        · next he =>
          cases h
          have hu := eqT_iff.1 he
          subst hu
          refine ⟨ext_of l, fun hp m' hm => ?_⟩
          have := hm s _ (by rw [ofB_get]; exact hg)
          rw [appT, if_pos rfl, this]
        · cases h
    · rw [if_neg (show ¬ (Tm.mk k s n xs).kind = 1 from hk)] at h
      simp only [Tm.args] at h
      split at h
      · next hh =>
        obtain ⟨h1, h2, h3⟩ := headB_iff.1 hh
        simp only [Tm.kind, Tm.n, Tm.name] at h1 h2 h3
        obtain ⟨e1, e2⟩ := moreL_ext xs ts _ _ h
        refine ⟨(ext_of l).trans e1, fun hp m' hm => ?_⟩
        rw [appT, if_neg hk, e2 hp.args m' hm, h1, h2, h3]
      · cases h
theorem moreL_ext : ∀ (ps ts : List Tm) (l m : List Bn), moreL ps ts l = some m → Ext l m ∧ (PlainL ps → ∀ m', Ext m m' → appL m' ps = ts)
  | [], [], l, m, h => by rw [moreL_nil] at h; cases h; exact ⟨ext_of l, fun _ _ _ => by rw [appL]⟩
  | [], _ :: _, _, _, h => by rw [moreL] at h; cases h
  | _ :: _, [], _, _, h => by rw [moreL] at h; cases h
  | p :: ps, t :: ts, l, m, h => by
    rw [moreL_cons] at h
    cases hm : moreT p t l with
    | none => rw [hm] at h; cases h
    | some m1 =>
      rw [hm] at h
      obtain ⟨a1, a2⟩ := moreT_ext p t l m1 hm
      obtain ⟨b1, b2⟩ := moreL_ext ps ts m1 m h
      refine ⟨a1.trans b1, fun hp m' hm' => ?_⟩
      rw [appL, a2 hp.head m' (b1.trans hm'), b2 hp.tail m' hm']
end
theorem more_makes {p t : Tm} {l m : List Bn} (hp : PlainT p) (h : moreT p t l = some m) : appT m p = t := (moreT_ext p t l m h).2 hp m (Ext.refl m)

/-! ### What is put into a pattern is found -/
def Com (a l : List Bn) : Prop := ∀ s u, getB l s = some u → u = appT a (.mk 1 s 0 [])
theorem com_nil (a : List Bn) : Com a [] := fun s u h => by rw [getB_nil] at h; cases h
theorem Com.of {a l : List Bn} (h : Com a l) : Com a (ofB l) := fun s u hu => h s u (by rwa [ofB_get] at hu)
mutual
theorem moreT_done (a : List Bn) : ∀ (p : Tm) (l : List Bn), PlainT p → Com a l → ∃ m, moreT p (appT a p) l = some m ∧ Com a m
  | .mk k s n xs, l, hp, hc => by
    rw [moreT_eq]
    by_cases hk : k = 1
    · subst hk
      obtain ⟨hx, hn⟩ := hp.self rfl
      simp only [Tm.args, Tm.n] at hx hn
      subst hx hn
      rw [if_pos (show (Tm.mk 1 s 0 []).kind = 1 from rfl)]
      simp only [Tm.name]
      cases hg : getB l s with
      | none =>
        refine ⟨_, rfl, Com.of fun z u hz => ?_⟩
        by_cases e : s = z
        · subst e
          rw [getB_hit _ _ rfl] at hz
          exact (Option.some.inj hz).symm
        · rw [getB_miss _ _ (show ((s, appT a (.mk 1 s 0 [])) : Bn).1 ≠ z from e)] at hz
          exact hc z u hz
      | some u =>
        have hu := hc s u hg
        simp only
        rw [if_pos (eqT_iff.2 hu)]
        exact ⟨_, rfl, hc.of⟩
    · rw [if_neg (show ¬ (Tm.mk k s n xs).kind = 1 from hk)]
      have e : appT a (.mk k s n xs) = .mk k s n (appL a xs) := by rw [appT, if_neg hk]
      rw [e, if_pos (show headB (.mk k s n xs) (.mk k s n (appL a xs)) = true from headB_iff.2 ⟨rfl, rfl, rfl⟩)]
      exact moreL_done a xs (ofB l) hp.args hc.of
theorem moreL_done (a : List Bn) : ∀ (ps : List Tm) (l : List Bn), PlainL ps → Com a l → ∃ m, moreL ps (appL a ps) l = some m ∧ Com a m
  | [], l, _, hc => ⟨_, by rw [appL, moreL_nil], hc.of⟩
  | p :: ps, l, hp, hc => by
    rw [appL, moreL_cons]
    obtain ⟨m1, h1, c1⟩ := moreT_done a p l hp.head hc
    rw [h1]
    exact moreL_done a ps m1 hp.tail c1
end
end Go.Proofs.Ytedljdcliilggaa

namespace Go.Proofs.Ytedljdcliilggaa
open Go.RowKit

/-- A variable without more. -/
def varT (s : ByteArray) : Tm := .mk 1 s 0 []
/-- A variable of that name stands in a term. -/
def HasV (s : ByteArray) (t : Tm) : Prop := ∃ x ∈ t.all, x.kind = 1 ∧ x.name = s
def HasL (s : ByteArray) (l : List Tm) : Prop := ∃ x ∈ allL l, x.kind = 1 ∧ x.name = s
theorem hasL_cons {s : ByteArray} {t : Tm} {r : List Tm} : HasL s (t :: r) ↔ HasV s t ∨ HasL s r := by
  unfold HasL HasV
  rw [allL_cons]
  constructor
  · rintro ⟨x, hx, h⟩
    rcases List.mem_append.1 hx with hx | hx
    · exact .inl ⟨x, hx, h⟩
    · exact .inr ⟨x, hx, h⟩
  · rintro (⟨x, hx, h⟩ | ⟨x, hx, h⟩)
    · exact ⟨x, List.mem_append_left _ hx, h⟩
    · exact ⟨x, List.mem_append_right _ hx, h⟩
theorem hasV_mk {s : ByteArray} {k : Int} {z : ByteArray} {n : Int} {xs : List Tm} : HasV s (.mk k z n xs) ↔ (k = 1 ∧ z = s) ∨ HasL s xs := by
  unfold HasV HasL
  rw [all_eq]
  constructor
  · rintro ⟨x, hx, h⟩
    rcases List.mem_cons.1 hx with rfl | hx
    · exact .inl h
    · exact .inr ⟨x, hx, h⟩
  · rintro (h | ⟨x, hx, h⟩)
    · exact ⟨_, List.mem_cons_self, h⟩
    · exact ⟨x, List.mem_cons_of_mem _ hx, h⟩
mutual
/-- A bind whose name doesn't stand in a term changes nothing. -/
theorem app_free {s : ByteArray} {u : Tm} : ∀ (t : Tm), ¬ HasV s t → appT [(s, u)] t = t
  | .mk k z n xs, h => by
    have h1 := app_freeL (s := s) (u := u) xs (fun hl => h (hasV_mk.2 (.inr hl)))
    rw [appT, h1]
    split
    · next hk =>
      have hz : s ≠ z := fun e => h (hasV_mk.2 (.inl ⟨hk, e.symm⟩))
      rw [getB_miss _ _ (show ((s, u) : Bn).1 ≠ z from hz), getB_nil]
    · rfl
theorem app_freeL {s : ByteArray} {u : Tm} : ∀ (l : List Tm), ¬ HasL s l → appL [(s, u)] l = l
  | [], _ => by rw [appL]
  | t :: r, h => by
    rw [appL, app_free t (fun hv => h (hasL_cons.2 (.inl hv))), app_freeL r (fun hv => h (hasL_cons.2 (.inr hv)))]
end
theorem app_var (s : ByteArray) (u : Tm) : appT [(s, u)] (varT s) = u := by
  unfold varT; rw [appT, if_pos rfl, getB_hit _ _ rfl]
theorem plain_var {t : Tm} (hp : PlainT t) (hk : t.kind = 1) : t = varT t.name := by
  obtain ⟨k, s, n, xs⟩ := t
  obtain ⟨h1, h2⟩ := hp.self hk
  simp only [Tm.kind, Tm.args, Tm.n] at hk h1 h2
  subst hk h1 h2
  rfl
mutual
/-- What agrees with a bind does the same behind it. -/
theorem app_agree {a : List Bn} {s : ByteArray} {u : Tm} (hs : appT a (varT s) = appT a u) : ∀ (t : Tm), PlainT t → appT a (appT [(s, u)] t) = appT a t
  | .mk k z n xs, hp => by
    by_cases hk : k = 1
    · have e := plain_var hp hk
      simp only [Tm.name] at e
      rw [e]
      by_cases hz : s = z
      · subst hz; rw [app_var]; exact hs.symm
      · have : appT [(s, u)] (varT z) = varT z := app_free _ (fun h => by
          unfold varT at h
          rcases hasV_mk.1 h with ⟨_, e⟩ | ⟨x, hx, _⟩
          · exact hz e.symm
          · rw [allL] at hx; cases hx)
        rw [this]
    · have h1 := app_agreeL hs xs hp.args
      have e : appT [(s, u)] (.mk k z n xs) = .mk k z n (appL [(s, u)] xs) := by rw [appT, if_neg hk]
      rw [e, appT, appT, if_neg hk, if_neg hk, h1]
theorem app_agreeL {a : List Bn} {s : ByteArray} {u : Tm} (hs : appT a (varT s) = appT a u) : ∀ (l : List Tm), PlainL l → appL a (appL [(s, u)] l) = appL a l
  | [], _ => by rw [appL, appL]
  | t :: r, hp => by rw [appL, appL, appL, app_agree hs t hp.head, app_agreeL hs r hp.tail]
end
mutual
theorem plain_app {a : List Bn} (ha : ∀ x ∈ a, PlainT x.2) : ∀ (t : Tm), PlainT t → PlainT (appT a t)
  | .mk k z n xs, hp => by
    have h1 := plain_appL ha xs hp.args
    rw [appT]
    split
    · next hk =>
      split
      · next u hu => obtain ⟨x, hx, rfl⟩ := getB_mem hu; exact ha x hx
      · obtain ⟨hx, hn⟩ := hp.self hk
        simp only [Tm.args, Tm.n] at hx hn
        subst hx hn
        intro y hy
        rw [all_eq] at hy
        simp only [Tm.args, appL, allL, List.mem_cons, List.not_mem_nil, or_false] at hy
        subst hy
        exact fun _ => ⟨rfl, rfl⟩
    · next hk =>
      intro y hy hyk
      rw [all_eq] at hy
      rcases List.mem_cons.1 hy with rfl | hy
      · exact absurd hyk hk
      · exact h1 y hy hyk
theorem plain_appL {a : List Bn} (ha : ∀ x ∈ a, PlainT x.2) : ∀ (l : List Tm), PlainL l → PlainL (appL a l)
  | [], h => by rw [appL]; exact h
  | t :: r, h => by
    have h1 := plain_app ha t h.head
    have h2 := plain_appL ha r h.tail
    rw [appL]
    intro x hx
    rw [allL_cons] at hx
    rcases List.mem_append.1 hx with hx | hx
    · exact h1 x hx
    · exact h2 x hx
end
mutual
/-- What stands in a term is no greater than it, put in or not. -/
theorem has_parts {a : List Bn} {s : ByteArray} : ∀ (t : Tm), PlainT t → HasV s t → (appT a (varT s)).parts ≤ (appT a t).parts ∧ (t ≠ varT s → (appT a (varT s)).parts < (appT a t).parts)
  | .mk k z n xs, hp, h => by
    by_cases hk : k = 1
    · have e := plain_var hp hk
      simp only [Tm.name] at e
      have hz : z = s := by
        rw [e] at h
        unfold varT at h
        rcases hasV_mk.1 h with ⟨_, e⟩ | ⟨x, hx, _⟩
        · exact e
        · rw [allL] at hx; cases hx
      subst hz
      rw [e]
      exact ⟨Nat.le_refl _, fun hn => absurd rfl hn⟩
    · have hl : HasL s xs := by
        rcases hasV_mk.1 h with ⟨h1, _⟩ | h1
        · exact absurd h1 hk
        · exact h1
      have h1 := has_partsL (a := a) xs hp.args hl
      have e : appT a (.mk k z n xs) = .mk k z n (appL a xs) := by rw [appT, if_neg hk]
      have hlt : (appT a (varT s)).parts < (appT a (.mk k z n xs)).parts := by
        rw [e]
        show _ < (Tm.mk k z n (appL a xs)).parts
        have h2 := parts_eq (.mk k z n (appL a xs))
        simp only [Tm.args] at h2
        omega
      exact ⟨Nat.le_of_lt hlt, fun _ => hlt⟩
theorem has_partsL {a : List Bn} {s : ByteArray} : ∀ (l : List Tm), PlainL l → HasL s l → (appT a (varT s)).parts ≤ partsL (appL a l)
  | [], _, h => by obtain ⟨x, hx, _⟩ := h; rw [allL] at hx; cases hx
  | t :: r, hp, h => by
    rw [appL, partsL_cons]
    rcases hasL_cons.1 h with h | h
    · have := (has_parts (a := a) t hp.head h).1; omega
    · have := has_partsL (a := a) r hp.tail h; omega
end

/-- The binds by which two lists are made alike, in the order in which they are found. -/
inductive RowU : List Tm → List Tm → Option (List Bn) → Prop
  | done (bs : List Tm) : RowU [] bs (some [])
  | same {a : Tm} {us bs : List Tm} {o : Option (List Bn)} (h : RowU us bs o) : RowU (a :: us) (a :: bs) o
  | occ {a b : Tm} {us bs : List Tm} (hn : a ≠ b) (hk : a.kind = 1) (ho : HasV a.name b) : RowU (a :: us) (b :: bs) none
  | occ' {a b : Tm} {us bs : List Tm} (hn : a ≠ b) (hk : a.kind ≠ 1) (hl : b.kind = 1) (ho : HasV b.name a) : RowU (a :: us) (b :: bs) none
  | bind {a b : Tm} {us bs : List Tm} {o : Option (List Bn)} (hn : a ≠ b) (hk : a.kind = 1) (ho : ¬ HasV a.name b) (h : RowU (appL [(a.name, b)] us) (appL [(a.name, b)] bs) o) : RowU (a :: us) (b :: bs) (o.map fun l => (a.name, b) :: l)
  | bind' {a b : Tm} {us bs : List Tm} {o : Option (List Bn)} (hn : a ≠ b) (hk : a.kind ≠ 1) (hl : b.kind = 1) (ho : ¬ HasV b.name a) (h : RowU (appL [(b.name, a)] us) (appL [(b.name, a)] bs) o) : RowU (a :: us) (b :: bs) (o.map fun l => (b.name, a) :: l)
  | clash {a b : Tm} {us bs : List Tm} (hk : a.kind ≠ 1) (hl : b.kind ≠ 1) (hh : ¬ (headB a b = true ∧ a.args.length = b.args.length)) : RowU (a :: us) (b :: bs) none
  | args {a b : Tm} {us bs : List Tm} {o : Option (List Bn)} (hn : a ≠ b) (hk : a.kind ≠ 1) (hl : b.kind ≠ 1) (hh : headB a b = true) (he : a.args.length = b.args.length) (h : RowU (a.args ++ us) (b.args ++ bs) o) : RowU (a :: us) (b :: bs) o

theorem appL_append (a : List Bn) : ∀ (l m : List Tm), appL a (l ++ m) = appL a l ++ appL a m := fun l m => by rw [appL_map, appL_map, appL_map, List.map_append]
theorem appL_len (a : List Bn) (l : List Tm) : (appL a l).length = l.length := by rw [appL_map, List.length_map]
theorem plainL_append {l m : List Tm} (hl : PlainL l) (hm : PlainL m) : PlainL (l ++ m) := fun x hx => by
  rw [allL_append] at hx
  rcases List.mem_append.1 hx with hx | hx
  · exact hl x hx
  · exact hm x hx
theorem app_head {a : List Bn} {t : Tm} (hk : t.kind ≠ 1) : appT a t = .mk t.kind t.name t.n (appL a t.args) := by
  obtain ⟨k, s, n, xs⟩ := t
  rw [appT, if_neg (show ¬ k = 1 from hk)]; rfl

/-- WHATEVER MAKES BOTH ALIKE AGREES WITH WHAT IS FOUND, and something is found. -/
theorem row_general {us bs : List Tm} {o : Option (List Bn)} (h : RowU us bs o) : ∀ (a : List Bn), us.length = bs.length → PlainL us → PlainL bs → appL a us = appL a bs →
    ∃ l, o = some l ∧ (∀ x ∈ l, PlainT x.2 ∧ appT a (varT x.1) = appT a x.2) := by
  induction h with
  | done bs => intro a _ _ _ _; exact ⟨[], rfl, fun x hx => by cases hx⟩
  | same h ih =>
    intro a hl hp hq he
    rw [appL, appL] at he
    injection he with h1 h2
    exact ih a (by simpa using hl) hp.tail hq.tail h2
  | @occ x y us bs hn hk ho =>
    intro a hl hp hq he
    rw [appL, appL] at he
    injection he with h1 h2
    have e := plain_var hp.head hk
    have hlt := (has_parts (a := a) y hq.head ho).2 (fun e2 => hn (e.trans e2.symm))
    rw [← e, h1] at hlt
    exact absurd hlt (Nat.lt_irrefl _)
  | @occ' x y us bs hn hk hl ho =>
    intro a hlen hp hq he
    rw [appL, appL] at he
    injection he with h1 h2
    have e := plain_var hq.head hl
    have hlt := (has_parts (a := a) x hp.head ho).2 (fun e2 => hn (e2.trans e.symm))
    rw [← e, h1] at hlt
    exact absurd hlt (Nat.lt_irrefl _)
  | @bind x y us bs o hn hk ho h ih =>
    intro a hl hp hq he
    rw [appL, appL] at he
    injection he with h1 h2
    have e := plain_var hp.head hk
    have hs : appT a (varT x.name) = appT a y := by rw [← e]; exact h1
    have hP : ∀ z ∈ [((x.name, y) : Bn)], PlainT z.2 := fun z hz => by rw [List.mem_singleton] at hz; subst hz; exact hq.head
    obtain ⟨l, rfl, hall⟩ := ih a (by rw [appL_len, appL_len]; simpa using hl) (plain_appL hP _ hp.tail) (plain_appL hP _ hq.tail) (by rw [app_agreeL hs _ hp.tail, app_agreeL hs _ hq.tail]; exact h2)
    exact ⟨_, rfl, fun z hz => by
      rcases List.mem_cons.1 hz with rfl | hz
      · exact ⟨hq.head, hs⟩
      · exact hall z hz⟩
  | @bind' x y us bs o hn hk hl ho h ih =>
    intro a hlen hp hq he
    rw [appL, appL] at he
    injection he with h1 h2
    have e := plain_var hq.head hl
    have hs : appT a (varT y.name) = appT a x := by rw [← e]; exact h1.symm
    have hP : ∀ z ∈ [((y.name, x) : Bn)], PlainT z.2 := fun z hz => by rw [List.mem_singleton] at hz; subst hz; exact hp.head
    obtain ⟨l, rfl, hall⟩ := ih a (by rw [appL_len, appL_len]; simpa using hlen) (plain_appL hP _ hp.tail) (plain_appL hP _ hq.tail) (by rw [app_agreeL hs _ hp.tail, app_agreeL hs _ hq.tail]; exact h2)
    exact ⟨_, rfl, fun z hz => by
      rcases List.mem_cons.1 hz with rfl | hz
      · exact ⟨hp.head, hs⟩
      · exact hall z hz⟩
  | @clash x y us bs hk hl hh =>
    intro a hlen hp hq he
    rw [appL, appL] at he
    injection he with h1 h2
    rw [app_head hk, app_head hl] at h1
    injection h1 with e1 e2 e3 e4
    exact absurd ⟨headB_iff.2 ⟨e1, e3, e2⟩, by have := congrArg List.length e4; rwa [appL_len, appL_len] at this⟩ hh
  | @args x y us bs o hn hk hl hh he h ih =>
    intro a hlen hp hq heq
    rw [appL, appL] at heq
    injection heq with h1 h2
    rw [app_head hk, app_head hl] at h1
    injection h1 with e1 e2 e3 e4
    exact ih a (by rw [List.length_append, List.length_append, he]; simpa using hlen) (plainL_append hp.head.args hp.tail) (plainL_append hq.head.args hq.tail) (by rw [appL_append, appL_append, e4, h2])

/-- Binds put in one behind the other. -/
def appR : List Bn → Tm → Tm
  | [], t => t
  | c :: l, t => appR l (appT [c] t)
theorem appR_head (l : List Bn) : ∀ {t : Tm}, t.kind ≠ 1 → appR l t = .mk t.kind t.name t.n (t.args.map (appR l)) := by
  induction l with
  | nil => intro t _; obtain ⟨k, s, n, xs⟩ := t; simp [appR, Tm.kind, Tm.name, Tm.n, Tm.args]
  | cons c l ih =>
    intro t hk
    rw [appR, app_head hk, ih (t := .mk t.kind t.name t.n (appL [c] t.args)) hk]
    simp only [Tm.kind, Tm.name, Tm.n, Tm.args]
    congr 1
    rw [appL_map, List.map_map]
    rfl
/-- WHAT IS FOUND MAKES BOTH ALIKE. -/
theorem row_alike {us bs : List Tm} {o : Option (List Bn)} (h : RowU us bs o) : ∀ l, o = some l → us.length = bs.length → PlainL us → PlainL bs → us.map (appR l) = bs.map (appR l) := by
  induction h with
  | done bs =>
    intro l _ hl _ _
    rw [List.length_nil] at hl
    rw [List.eq_nil_of_length_eq_zero hl.symm]
  | same h ih =>
    intro l hl hlen hp hq
    rw [List.map_cons, List.map_cons, ih l hl (by simpa using hlen) hp.tail hq.tail]
  | occ => intro l hl; cases hl
  | occ' => intro l hl; cases hl
  | @bind x y us bs o hn hk ho h ih =>
    intro l hl hlen hp hq
    obtain ⟨m, hm, rfl⟩ := Option.map_eq_some_iff.1 hl
    have e := plain_var hp.head hk
    have hP : ∀ z ∈ [((x.name, y) : Bn)], PlainT z.2 := fun z hz => by rw [List.mem_singleton] at hz; subst hz; exact hq.head
    have ht := ih m hm (by rw [appL_len, appL_len]; simpa using hlen) (plain_appL hP _ hp.tail) (plain_appL hP _ hq.tail)
    rw [appL_map, appL_map, List.map_map, List.map_map] at ht
    rw [List.map_cons, List.map_cons]
    have h1 : appR ((x.name, y) :: m) x = appR ((x.name, y) :: m) y := by
      rw [appR, appR, app_free y ho]
      congr 1
      rw [e]; exact app_var _ _
    rw [h1]
    congr 1
  | @bind' x y us bs o hn hk hl ho h ih =>
    intro l hlo hlen hp hq
    obtain ⟨m, hm, rfl⟩ := Option.map_eq_some_iff.1 hlo
    have e := plain_var hq.head hl
    have hP : ∀ z ∈ [((y.name, x) : Bn)], PlainT z.2 := fun z hz => by rw [List.mem_singleton] at hz; subst hz; exact hp.head
    have ht := ih m hm (by rw [appL_len, appL_len]; simpa using hlen) (plain_appL hP _ hp.tail) (plain_appL hP _ hq.tail)
    rw [appL_map, appL_map, List.map_map, List.map_map] at ht
    rw [List.map_cons, List.map_cons]
    have h1 : appR ((y.name, x) :: m) x = appR ((y.name, x) :: m) y := by
      rw [appR, appR, app_free x ho]
      congr 1
      rw [e]; exact (app_var _ _).symm
    rw [h1]
    congr 1
  | clash => intro l hl; cases hl
  | @args x y us bs o hn hk hl hh he h ih =>
    intro l hlo hlen hp hq
    obtain ⟨h1, h2, h3⟩ := headB_iff.1 hh
    have ht := ih l hlo (by rw [List.length_append, List.length_append, he]; simpa using hlen) (plainL_append hp.head.args hp.tail) (plainL_append hq.head.args hq.tail)
    rw [List.map_append, List.map_append] at ht
    obtain ⟨e1, e2⟩ := List.append_inj ht (by rw [List.length_map, List.length_map, he])
    rw [List.map_cons, List.map_cons, appR_head l hk, appR_head l hl, e1, e2, h1, h2, h3]
end Go.Proofs.Ytedljdcliilggaa

namespace Go.Proofs.Ytedljdcliilggaa
open Go.RowKit

/-- The greatest that a term can be whose different parts that have arguments have so many in all. -/
def gList : List Nat := 1 :: 2 :: 3 :: 5 :: 7 :: 11 :: 16 :: 23 :: 34 :: 49 :: 70 :: 103 :: 148 :: 211 :: 310 :: 445 :: 634 :: 931 :: 1336 :: 1903 :: 2794 :: 4009 :: 5710 :: 8383 :: 12028 :: 17131 :: 25150 :: 36085 :: 51394 :: 75451 :: 108256 :: 154183 :: 226354 :: 324769 :: 462550 :: 679063 :: 974308 :: 1387651 :: 2037190 :: 2922925 :: 4162954 :: 6111571 :: 8768776 :: 12488863 :: 18334714 :: 26306329 :: 37466590 :: 55004143 :: 78918988 :: 112399771 :: 165012430 :: 236756965 :: 337199314 :: 495037291 :: 710270896 :: 1011597943 :: 1485111874 :: 2130812689 :: 3034793830 :: 4455335623 :: 6392438068 :: 9104381491 :: 13366006870 :: 19177314205 :: 27313144474 :: 40098020611 :: 57531942616 :: 81939433423 :: 120294061834 :: 172595827849 :: 245818300270 :: 360882185503 :: 517787483548 :: 737454900811 :: 1082646556510 :: 1553362450645 :: 2212364702434 :: 3247939669531 :: 4660087351936 :: []
def gT (n : Nat) : Nat := gList.getD n 0
def mostT : Nat := 2212364702435
theorem g_all : ((List.range 79).all fun D => (List.range 79).all fun d => decide (D + d < 79 → 1 + d * gT D ≤ gT (D + d))) = true := by decide +kernel
theorem g_step {D d : Nat} (h : D + d < 79) : 1 + d * gT D ≤ gT (D + d) := by
  have h1 := List.all_eq_true.1 g_all D (List.mem_range.2 (by omega))
  have h2 := List.all_eq_true.1 h1 d (List.mem_range.2 (by omega))
  exact of_decide_eq_true h2 h
theorem g_most : ((List.range 40).all fun d => decide (1 + d * gT (78 - 2 * d) ≤ mostT)) = true := by decide +kernel
theorem g_root {d : Nat} (h : d < 40) : 1 + d * gT (78 - 2 * d) ≤ mostT := of_decide_eq_true (List.all_eq_true.1 g_most d (List.mem_range.2 h))
theorem g_mono {D E : Nat} (h : D ≤ E) (hE : E < 79) : gT D ≤ gT E := by
  induction E with
  | zero => have : D = 0 := by omega
            rw [this]; exact Nat.le_refl _
  | succ E ih =>
    by_cases e : D = E + 1
    · rw [e]; exact Nat.le_refl _
    · have h1 := ih (by omega) (by omega)
      have h2 := g_step (D := E) (d := 1) hE
      omega
theorem g_pos {D : Nat} (h : D < 79) : 1 ≤ gT D := by
  have h1 := g_step (D := D) (d := 0) h
  rw [Nat.add_zero, Nat.zero_mul] at h1
  omega

/-- All arguments of the terms of a list are without arguments, or in it. -/
def ClosedT (L : List Tm) : Prop := ∀ u ∈ L, ∀ x ∈ u.args, x.args = [] ∨ x ∈ L
/-- How many arguments the terms of a list have in all. -/
def arS : List Tm → Nat
  | [] => 0
  | t :: r => t.args.length + arS r
theorem arS_cons (t : Tm) (r : List Tm) : arS (t :: r) = t.args.length + arS r := rfl
theorem arS_append (a b : List Tm) : arS (a ++ b) = arS a + arS b := by
  induction a with
  | nil => simp [arS]
  | cons t r ih => rw [List.cons_append, arS_cons, arS_cons, ih]; omega
theorem arS_filter (p : Tm → Bool) (l : List Tm) : arS (l.filter p) ≤ arS l := by
  induction l with
  | nil => exact Nat.le_refl _
  | cons t r ih =>
    rw [List.filter_cons]
    split
    · rw [arS_cons, arS_cons]; omega
    · rw [arS_cons]; omega
theorem arS_drop {w : Tm} : ∀ {l : List Tm}, w ∈ l → arS (l.filter fun t => !eqT t w) + w.args.length ≤ arS l
  | t :: r, h => by
    rw [List.filter_cons]
    by_cases e : t = w
    · subst e
      rw [if_neg (by rw [eqT_true rfl]; simp), arS_cons]
      have := arS_filter (fun t' => !eqT t' t) r
      omega
    · rw [if_pos (by rw [eqT_false e]; rfl), arS_cons, arS_cons]
      have := arS_drop (l := r) (w := w) (by rcases List.mem_cons.1 h with h | h; exact absurd h.symm e; exact h)
      omega
theorem max_mem : ∀ {l : List Tm}, l ≠ [] → ∃ w ∈ l, ∀ v ∈ l, v.parts ≤ w.parts
  | [t], _ => ⟨t, by simp, fun v hv => by rw [List.mem_singleton.1 hv]; exact Nat.le_refl _⟩
  | t :: u :: r, _ => by
    obtain ⟨w, hw, hm⟩ := max_mem (l := u :: r) (by simp)
    by_cases h : t.parts ≤ w.parts
    · exact ⟨w, List.mem_cons_of_mem _ hw, fun v hv => by
        rcases List.mem_cons.1 hv with rfl | hv
        · exact h
        · exact hm v hv⟩
    · exact ⟨t, List.mem_cons_self, fun v hv => by
        rcases List.mem_cons.1 hv with rfl | hv
        · exact Nat.le_refl _
        · have := hm v hv; omega⟩
theorem partsL_most {m : Nat} : ∀ {l : List Tm}, (∀ x ∈ l, x.parts ≤ m) → partsL l ≤ l.length * m
  | [], _ => by rw [partsL_nil]; omega
  | t :: r, h => by
    have h1 := h t (by simp)
    have h2 := partsL_most (l := r) fun p hp => h p (by simp [hp])
    rw [partsL_cons, List.length_cons, Nat.add_mul]; omega
theorem parts_leaf {t : Tm} (h : t.args = []) : t.parts = 1 := by rw [parts_eq, h, partsL_nil]
theorem parts_mem_arg {t x : Tm} (h : x ∈ t.args) : x.parts < t.parts := by
  obtain ⟨j, hj, rfl⟩ := List.getElem_of_mem h
  have := parts_arg t hj; omega
/-- HOW GREAT A TERM CAN BE: by how many arguments its different parts have in all. -/
theorem closed_size : ∀ (n : Nat) (L : List Tm), L.length ≤ n → ClosedT L → arS L < 79 → ∀ v ∈ L, v.parts ≤ gT (arS L)
  | 0, L, hn, _, _, v, hv => by rw [List.eq_nil_of_length_eq_zero (Nat.le_zero.1 hn)] at hv; cases hv
  | n + 1, L, hn, hc, ha, v, hv => by
    obtain ⟨w, hw, hm⟩ := max_mem (l := L) (fun e => by rw [e] at hv; cases hv)
    refine Nat.le_trans (hm v hv) ?_
    have hd := arS_drop hw
    have hlen : (L.filter fun t => !eqT t w).length < L.length := by
      have h1 := List.length_filter_le (fun t => !eqT t w) L
      rcases Nat.lt_or_ge (L.filter fun t => !eqT t w).length L.length with h | h
      · exact h
      · have := List.length_filter_eq_length_iff.1 (Nat.le_antisymm h1 h) w hw
        rw [eqT_true rfl] at this; cases this
    have hc' : ClosedT (L.filter fun t => !eqT t w) := fun u hu x hx => by
      have hu1 := (List.mem_filter.1 hu).1
      rcases hc u hu1 x hx with h | h
      · exact .inl h
      · refine .inr (List.mem_filter.2 ⟨h, ?_⟩)
        rw [eqT_false (fun e => by
          have h1 := parts_mem_arg hx
          have h2 := hm u hu1
          rw [e] at h1; omega)]
        rfl
    have ih := closed_size n (L.filter fun t => !eqT t w) (by omega) hc' (by omega)
    have hp : partsL w.args ≤ w.args.length * gT (arS (L.filter fun t => !eqT t w)) := partsL_most fun x hx => by
      rcases hc w hw x hx with h | h
      · rw [parts_leaf h]; exact g_pos (by omega)
      · refine ih x (List.mem_filter.2 ⟨h, ?_⟩)
        rw [eqT_false (fun e => by have h1 := parts_mem_arg hx; rw [e] at h1; omega)]
        rfl
    rw [parts_eq]
    have h1 := g_step (D := arS (L.filter fun t => !eqT t w)) (d := w.args.length) (by omega)
    have h2 := g_mono hd ha
    omega
end Go.Proofs.Ytedljdcliilggaa
