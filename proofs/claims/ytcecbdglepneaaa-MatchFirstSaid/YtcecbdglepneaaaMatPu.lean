/-
  Binds with which a pattern is a term, as data: what is found makes the pattern the term; what is put into a pattern is found. No function of the program.
-/
import Derived.Test.YtcecbdglepneaaaThenPu
import Derived.Test.YtcecbdglepneaaaSameTm
namespace Go.Proofs.Ytcecbdglepneaaa
open Go.RowKit

/-- Whether two terms are alike but for their arguments. -/
def headB (p t : Tm) : Bool := p.kind == t.kind && p.n == t.n && p.name.toList == t.name.toList
theorem headB_iff {p t : Tm} : headB p t = true ↔ p.kind = t.kind ∧ p.n = t.n ∧ p.name = t.name := by
  unfold headB; rw [Bool.and_eq_true, Bool.and_eq_true, beq_iff_eq, beq_iff_eq, beq_name, and_assoc]
mutual
/-- The binds with which a pattern is a term, beginning with some. -/
noncomputable def moreT : Tm → Tm → List Bn → Option (List Bn)
  | .mk k s n xs, t, l => if k = 1 then (match getB l s with | none => some (ofB ((s, t) :: l)) | some u => if eqT u t = true then some (ofB l) else none)
      else if headB (.mk k s n xs) t = true then moreL xs t.args (ofB l) else none
noncomputable def moreL : List Tm → List Tm → List Bn → Option (List Bn)
  | [], [], l => some (ofB l)
  | [], _ :: _, _ => none
  | _ :: _, [], _ => none
  | p :: ps, t :: ts, l => match moreT p t l with | some m => moreL ps ts m | none => none
end
theorem moreT_eq (p t : Tm) (l : List Bn) : moreT p t l = if p.kind = 1 then (match getB l p.name with | none => some (ofB ((p.name, t) :: l)) | some u => if eqT u t = true then some (ofB l) else none) else if headB p t = true then moreL p.args t.args (ofB l) else none := by
  cases p; rw [moreT]; rfl
theorem moreL_nil (l : List Bn) : moreL [] [] l = some (ofB l) := by rw [moreL]
theorem moreL_cons (p t : Tm) (ps ts : List Tm) (l : List Bn) : moreL (p :: ps) (t :: ts) l = (moreT p t l).bind fun m => moreL ps ts m := by
  rw [moreL]; cases moreT p t l <;> rfl
theorem moreL_length : ∀ {ps ts : List Tm} {l m : List Bn}, moreL ps ts l = some m → ps.length = ts.length
  | [], [], _, _, _ => rfl
  | [], _ :: _, _, _, h => by rw [moreL] at h; cases h
  | _ :: _, [], _, _, h => by rw [moreL] at h; cases h
  | p :: ps, t :: ts, l, m, h => by
    rw [moreL_cons] at h
    cases hm : moreT p t l with
    | none => rw [hm] at h; cases h
    | some m1 =>
      rw [hm] at h
      rw [List.length_cons, List.length_cons, moreL_length (l := m1) (m := m) h]
theorem moreT_of (p t : Tm) (l : List Bn) : moreT p t (ofB l) = moreT p t l := by
  rw [moreT_eq, moreT_eq, ofB_get, ofB_rise (ofB_rising l)]
  rw [show ofB ((p.name, t) :: ofB l) = ofB ((p.name, t) :: l) from ofB_congr fun s => by
    by_cases h : p.name = s
    · rw [getB_hit _ _ h, getB_hit _ _ h]
    · rw [getB_miss _ _ h, getB_miss _ _ h, ofB_get]]
theorem moreL_rise0 {ps ts : List Tm} {l m : List Bn} (h : moreL ps ts l = some m) (hl : ∀ p ∈ ps, ∀ t l m, moreT p t l = some m → ofB m = m) : ofB m = m := by
  induction ps generalizing ts l with
  | nil =>
    cases ts with
    | nil => rw [moreL_nil] at h; cases h; exact ofB_rise (ofB_rising l)
    | cons => rw [moreL] at h; cases h
  | cons p ps ih =>
    cases ts with
    | nil => rw [moreL] at h; cases h
    | cons t ts =>
      rw [moreL_cons] at h
      cases hm : moreT p t l with
      | none => rw [hm] at h; cases h
      | some m1 => rw [hm] at h; exact ih (ts := ts) (l := m1) h (fun q hq => hl q (by simp [hq]))
theorem moreT_rise {p t : Tm} {l m : List Bn} (h : moreT p t l = some m) : ofB m = m := by
  have key : ∀ n : Nat, ∀ (p : Tm), p.parts ≤ n → ∀ (t : Tm) (l m : List Bn), moreT p t l = some m → ofB m = m := by
    intro n
    induction n with
    | zero => intro p hp; have := parts_pos p; omega
    | succ n ih =>
      intro p hp t l m h
      rw [moreT_eq] at h
      split at h
      · split at h
        · cases h; exact ofB_rise (ofB_rising _)
        · split at h
          · cases h; exact ofB_rise (ofB_rising _)
          · cases h
      · split at h
        · exact moreL_rise0 h fun q hq t' l' m' h' => by
            obtain ⟨j, hj, rfl⟩ := List.getElem_of_mem hq
            exact ih _ (by have := parts_arg p hj; omega) t' l' m' h'
        · cases h
  exact key p.parts p (Nat.le_refl _) t l m h
theorem moreL_rise {ps ts : List Tm} {l m : List Bn} (h : moreL ps ts l = some m) : ofB m = m := moreL_rise0 h (fun _ _ _ _ _ h => moreT_rise h)
theorem moreL_snoc : ∀ (ps ts : List Tm) (p t : Tm) (l : List Bn), ps.length = ts.length → moreL (ps ++ [p]) (ts ++ [t]) l = (moreL ps ts l).bind fun m => moreT p t m
  | [], [], p, t, l, _ => by
    rw [List.nil_append, List.nil_append, moreL_cons, moreL_nil]
    show (moreT p t l).bind (fun m => moreL [] [] m) = moreT p t (ofB l)
    have e : moreT p t (ofB l) = moreT p t l := moreT_of p t l
    rw [e]
    cases hm : moreT p t l with
    | none => rfl
    | some m => show moreL [] [] m = some m; rw [moreL_nil, moreT_rise hm]
  | x :: ps, y :: ts, p, t, l, h => by
    rw [List.cons_append, List.cons_append, moreL_cons, moreL_cons]
    cases hm : moreT x y l with
    | none => rfl
    | some m => exact moreL_snoc ps ts p t m (by simpa using h)
/-- The first few of two lists of patterns and terms. -/
theorem moreL_take {ps ts : List Tm} (l : List Bn) {k : Nat} (hp : k < ps.length) (ht : k < ts.length) : moreL (ps.take (k + 1)) (ts.take (k + 1)) l = (moreL (ps.take k) (ts.take k) l).bind fun m => moreT ps[k] ts[k] m := by
  rw [List.take_succ_eq_append_getElem hp, List.take_succ_eq_append_getElem ht, moreL_snoc]
  rw [List.length_take, List.length_take]; omega
theorem moreL_short {ps ts : List Tm} {l : List Bn} (h : ps.length ≠ ts.length) : moreL ps ts l = none := by
  cases hm : moreL ps ts l with
  | none => rfl
  | some m => exact absurd (moreL_length hm) h
theorem moreL_stop : ∀ {ps ts : List Tm} {l : List Bn} {k : Nat}, k ≤ ps.length → ps.length = ts.length → moreL (ps.take k) (ts.take k) l = none → moreL ps ts l = none
  | [], [], l, k, _, _, h => by simpa using h
  | p :: ps, t :: ts, l, 0, _, _, h => by rw [List.take_zero, List.take_zero, moreL_nil] at h; cases h
  | p :: ps, t :: ts, l, k + 1, hk, hl, h => by
    rw [List.take_succ_cons, List.take_succ_cons, moreL_cons] at h
    rw [moreL_cons]
    cases hm : moreT p t l with
    | none => rfl
    | some m =>
      rw [hm] at h
      exact moreL_stop (k := k) (by simpa using hk) (by simpa using hl) h

/-! ### How many there are -/
theorem ofB_le (l : List Bn) : (ofB l).length ≤ l.length := by
  have hW : ∀ (s : ByteArray) (l : List ByteArray), (insW l s).length = l.length + 1 := fun s l => by
    induction l with
    | nil => rfl
    | cons x l ih => rw [insW]; split <;> simp [ih]
  have hN : ∀ (l : List ByteArray) (s : ByteArray), (insN l s).length ≤ l.length + 1 := fun l s => by
    unfold insN; split
    · omega
    · rw [hW]; omega
  have : ∀ (l : List Bn) (acc : List ByteArray), (l.foldl (fun acc x => insN acc x.1) acc).length ≤ acc.length + l.length := by
    intro l
    induction l with
    | nil => intro acc; simp
    | cons x r ih => intro acc; rw [List.foldl_cons, List.length_cons]; have := ih (insN acc x.1); have := hN acc x.1; omega
  unfold ofB rowOfN namesB
  rw [List.length_map]
  simpa using this l []
mutual
theorem moreT_len : ∀ (p t : Tm) (l m : List Bn), moreT p t l = some m → m.length ≤ l.length + p.parts
  | .mk k s n xs, t, l, m, h => by
    rw [moreT_eq] at h
    rw [parts_eq]
    split at h
    · split at h
      · cases h; have := ofB_le ((s, t) :: l); rw [List.length_cons] at this; simp only [Tm.name]; omega
      · split at h
        · cases h; have := ofB_le l; omega
        · cases h
    · split at h
      · have h1 := moreL_len xs _ _ _ h
        have := ofB_le l
        simp only [Tm.args]
        omega
      · cases h
theorem moreL_len : ∀ (ps ts : List Tm) (l m : List Bn), moreL ps ts l = some m → m.length ≤ l.length + partsL ps
  | [], [], l, m, h => by rw [moreL_nil] at h; cases h; have := ofB_le l; omega
  | [], _ :: _, _, _, h => by rw [moreL] at h; cases h
  | _ :: _, [], _, _, h => by rw [moreL] at h; cases h
  | p :: ps, t :: ts, l, m, h => by
    rw [moreL_cons] at h
    cases hm : moreT p t l with
    | none => rw [hm] at h; cases h
    | some m1 =>
      rw [hm] at h
      have h1 := moreT_len p t l m1 hm
      have h2 := moreL_len ps ts m1 m h
      rw [partsL_cons]; omega
end

/-! ### What is found makes the pattern the term -/
def Ext (l m : List Bn) : Prop := ∀ s u, getB l s = some u → getB m s = some u
theorem Ext.refl (l : List Bn) : Ext l l := fun _ _ h => h
theorem Ext.trans {l m n : List Bn} (h : Ext l m) (k : Ext m n) : Ext l n := fun s u hu => k s u (h s u hu)
theorem ext_of (l : List Bn) : Ext l (ofB l) := fun s u h => by rw [ofB_get]; exact h
def PlainT (t : Tm) : Prop := ∀ x ∈ t.all, x.kind = 1 → x.args = [] ∧ x.n = 0
def PlainL (l : List Tm) : Prop := ∀ x ∈ allL l, x.kind = 1 → x.args = [] ∧ x.n = 0
theorem allL_cons (t : Tm) (r : List Tm) : allL (t :: r) = t.all ++ allL r := by rw [allL]
theorem PlainT.args {t : Tm} (h : PlainT t) : PlainL t.args := fun x hx => h x (by rw [all_eq]; exact List.mem_cons_of_mem _ hx)
theorem PlainT.self {t : Tm} (h : PlainT t) : t.kind = 1 → t.args = [] ∧ t.n = 0 := h t (by rw [all_eq]; exact List.mem_cons_self)
theorem PlainL.head {t : Tm} {r : List Tm} (h : PlainL (t :: r)) : PlainT t := fun x hx => h x (by rw [allL_cons]; exact List.mem_append_left _ hx)
theorem PlainL.tail {t : Tm} {r : List Tm} (h : PlainL (t :: r)) : PlainL r := fun x hx => h x (by rw [allL_cons]; exact List.mem_append_right _ hx)
mutual
theorem moreT_ext : ∀ (p t : Tm) (l m : List Bn), moreT p t l = some m → Ext l m ∧ (PlainT p → ∀ m', Ext m m' → appT m' p = t)
  | .mk k s n xs, .mk k' s' n' ts, l, m, h => by
    rw [moreT_eq] at h
    by_cases hk : k = 1
    · subst hk
      rw [if_pos (show (Tm.mk 1 s n xs).kind = 1 from rfl)] at h
      simp only [Tm.name] at h
      cases hg : getB l s with
      | none =>
        rw [hg] at h
        simp only [Option.some.injEq] at h
        subst h
        refine ⟨fun z u hz => ?_, fun hp m' he => ?_⟩
        · rw [ofB_get, getB_miss _ _ (show ((s, Tm.mk k' s' n' ts) : Bn).1 ≠ z from fun e => by subst e; rw [hg] at hz; cases hz)]; exact hz
        · have := he s (.mk k' s' n' ts) (by rw [ofB_get]; exact getB_hit _ _ rfl)
          rw [appT, if_pos rfl, this]
      | some u =>
        rw [hg] at h
        simp only at h
        split at h
        · next he =>
          cases h
          have hu := eqT_iff.1 he
          subst hu
          refine ⟨ext_of l, fun hp m' hm => ?_⟩
          have := hm s _ (by rw [ofB_get]; exact hg)
          rw [appT, if_pos rfl, this]
        · cases h
    · rw [if_neg (show ¬ (Tm.mk k s n xs).kind = 1 from hk)] at h
      simp only [Tm.args] at h
      split at h
      · next hh =>
        obtain ⟨h1, h2, h3⟩ := headB_iff.1 hh
        simp only [Tm.kind, Tm.n, Tm.name] at h1 h2 h3
        obtain ⟨e1, e2⟩ := moreL_ext xs ts _ _ h
        refine ⟨(ext_of l).trans e1, fun hp m' hm => ?_⟩
        rw [appT, if_neg hk, e2 hp.args m' hm, h1, h2, h3]
      · cases h
theorem moreL_ext : ∀ (ps ts : List Tm) (l m : List Bn), moreL ps ts l = some m → Ext l m ∧ (PlainL ps → ∀ m', Ext m m' → appL m' ps = ts)
  | [], [], l, m, h => by rw [moreL_nil] at h; cases h; exact ⟨ext_of l, fun _ _ _ => by rw [appL]⟩
  | [], _ :: _, _, _, h => by rw [moreL] at h; cases h
  | _ :: _, [], _, _, h => by rw [moreL] at h; cases h
  | p :: ps, t :: ts, l, m, h => by
    rw [moreL_cons] at h
    cases hm : moreT p t l with
    | none => rw [hm] at h; cases h
    | some m1 =>
      rw [hm] at h
      obtain ⟨a1, a2⟩ := moreT_ext p t l m1 hm
      obtain ⟨b1, b2⟩ := moreL_ext ps ts m1 m h
      refine ⟨a1.trans b1, fun hp m' hm' => ?_⟩
      rw [appL, a2 hp.head m' (b1.trans hm'), b2 hp.tail m' hm']
end
theorem more_makes {p t : Tm} {l m : List Bn} (hp : PlainT p) (h : moreT p t l = some m) : appT m p = t := (moreT_ext p t l m h).2 hp m (Ext.refl m)

/-! ### What is put into a pattern is found -/
def Com (a l : List Bn) : Prop := ∀ s u, getB l s = some u → u = appT a (.mk 1 s 0 [])
theorem com_nil (a : List Bn) : Com a [] := fun s u h => by rw [getB_nil] at h; cases h
theorem Com.of {a l : List Bn} (h : Com a l) : Com a (ofB l) := fun s u hu => h s u (by rwa [ofB_get] at hu)
mutual
theorem moreT_done (a : List Bn) : ∀ (p : Tm) (l : List Bn), PlainT p → Com a l → ∃ m, moreT p (appT a p) l = some m ∧ Com a m
  | .mk k s n xs, l, hp, hc => by
    rw [moreT_eq]
    by_cases hk : k = 1
    · subst hk
      obtain ⟨hx, hn⟩ := hp.self rfl
      simp only [Tm.args, Tm.n] at hx hn
      subst hx hn
      rw [if_pos (show (Tm.mk 1 s 0 []).kind = 1 from rfl)]
      simp only [Tm.name]
      cases hg : getB l s with
      | none =>
        refine ⟨_, rfl, Com.of fun z u hz => ?_⟩
        by_cases e : s = z
        · subst e
          rw [getB_hit _ _ rfl] at hz
          exact (Option.some.inj hz).symm
        · rw [getB_miss _ _ (show ((s, appT a (.mk 1 s 0 [])) : Bn).1 ≠ z from e)] at hz
          exact hc z u hz
      | some u =>
        have hu := hc s u hg
        simp only
        rw [if_pos (eqT_iff.2 hu)]
        exact ⟨_, rfl, hc.of⟩
    · rw [if_neg (show ¬ (Tm.mk k s n xs).kind = 1 from hk)]
      have e : appT a (.mk k s n xs) = .mk k s n (appL a xs) := by rw [appT, if_neg hk]
      rw [e, if_pos (show headB (.mk k s n xs) (.mk k s n (appL a xs)) = true from headB_iff.2 ⟨rfl, rfl, rfl⟩)]
      exact moreL_done a xs (ofB l) hp.args hc.of
theorem moreL_done (a : List Bn) : ∀ (ps : List Tm) (l : List Bn), PlainL ps → Com a l → ∃ m, moreL ps (appL a ps) l = some m ∧ Com a m
  | [], l, _, hc => ⟨_, by rw [appL, moreL_nil], hc.of⟩
  | p :: ps, l, hp, hc => by
    rw [appL, moreL_cons]
    obtain ⟨m1, h1, c1⟩ := moreT_done a p l hp.head hc
    rw [h1]
    exact moreL_done a ps m1 hp.tail c1
end
end Go.Proofs.Ytcecbdglepneaaa
