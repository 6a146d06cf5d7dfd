/-
  Rows of terms that are yet to be made alike: what is left behind one step. No function of the program.
-/
import Derived.Test.YtedljdcliilggaaU33
namespace Go.Proofs.Ytedljdcliilggaa
open Go.RowKit

/-- How much is left to do: m names may still be bound. -/
def workN (m : Nat) (us : List Tm) (k : Nat) : Nat := m * 4424729404872 + 2 * partsL us + k
/-- What holds of the rows that wait. -/
structure WPu (o : Option (List Bn)) (m : Nat) (l : List Bn) (vs : List Wv) : Prop where
  st : USt 80 m l (upA l vs) (upB l vs)
  goes : Goes o l (upA l vs) (upB l vs)
  deep : Deep l vs
theorem USt.sound {N m : Nat} {l : List Bn} {us bs : List Tm} (h : USt N m l us bs) (hN : N ≤ 900) : Sound l := ⟨h.nodup, by have := h.few; omega, h.pl, fun i x hx => h.held.bound hx⟩
theorem wpu_pop {o : Option (List Bn)} {m : Nat} {l : List Bn} {vs : List Wv} {r : Wv} (h : WPu o m l (vs ++ [r])) (h1 : r.ps = []) (h2 : r.ts = []) (n : Nat) : WPu o m l vs ∧ workN m (upA l vs) n < workN m (upA l (vs ++ [r])) (n + 1) := by
  have e1 : upA l (vs ++ [r]) = upA l vs := by rw [upA_snoc, h1]; rfl
  have e2 : upB l (vs ++ [r]) = upB l vs := by rw [upB_snoc, h2]; rfl
  have h3 := h.st
  have h4 := h.goes
  rw [e1, e2] at h3 h4
  exact ⟨⟨h3, h4, h.deep.pop h1 h2⟩, by rw [e1]; unfold workN; omega⟩
/-- The top row, its first pair looked at: a and b are what is at the roots. -/
structure WTop (l : List Bn) (r q : Wv) (p t : Tm) (a b : Pt) : Prop where
  h1 : r.ps = p :: q.ps
  h2 : r.ts = t :: q.ts
  h3 : q.f1 = r.f1
  h4 : q.f2 = r.f2
  ra : Rooted l ⟨p, r.f1⟩ a
  rb : Rooted l ⟨t, r.f2⟩ b
theorem WTop.one {l : List Bn} {r q : Wv} {p t : Tm} {a b : Pt} (h : WTop l r q p t a b) (vs : List Wv) : upA l (vs ++ [r]) = a.whole l :: upA l (vs ++ [q]) ∧ upB l (vs ++ [r]) = b.whole l :: upB l (vs ++ [q]) := by
  have k := top_of (l := l) (vs := vs) h.h1 h.h2 h.h3 h.h4
  have e1 : a.whole l = appR (l.drop r.f1) p := h.ra.same
  have e2 : b.whole l = appR (l.drop r.f2) t := h.rb.same
  rw [e1, e2]; exact ⟨k.one, k.two⟩
theorem pt_var {l : List Bn} {p a : Pt} (h : Rooted l p a) (hk : a.t.kind = 1) : a.whole l = a.t := h.same.trans (h.var hk)
theorem pt_head {l : List Bn} {p a : Pt} (h : Rooted l p a) (hk : a.t.kind ≠ 1) : a.whole l = .mk a.t.kind a.t.name a.t.n (a.t.args.map (appR (l.drop a.f))) := h.same.trans (h.head hk)
theorem wpu_same {o : Option (List Bn)} {m : Nat} {l : List Bn} {vs : List Wv} {r q : Wv} {p t : Tm} {a b : Pt} (h : WPu o m l (vs ++ [r])) (k : WTop l r q p t a b) (hk : a.t.kind = 1) (he : a.t = b.t) (n : Nat) :
    WPu o m l (vs ++ [q]) ∧ workN m (upA l (vs ++ [q])) n < workN m (upA l (vs ++ [r])) n := by
  obtain ⟨e1, e2⟩ := k.one vs
  have eb : b.whole l = a.whole l := by rw [pt_var k.ra hk, pt_var k.rb (he ▸ hk), he]
  have h1 := h.st
  have h2 := h.goes
  rw [e1, e2] at h1 h2
  rw [eb] at h2
  refine ⟨⟨h1.same, h2.same h1.same, h.deep.same k.h1 k.h2 k.h3 k.h4⟩, ?_⟩
  unfold workN
  rw [e1, partsL_cons]
  have := parts_pos (a.whole l)
  omega
theorem wpu_side {o : Option (List Bn)} {m : Nat} {l : List Bn} {vs : List Wv} {r q : Wv} {p t : Tm} {a b : Pt} (h : WPu o m l (vs ++ [r])) (k : WTop l r q p t a b) :
    (a.whole l).parts ≤ mostT ∧ (b.whole l).parts ≤ mostT ∧ (a.t.kind = 1 → ∀ x ∈ l, x.1 ≠ a.t.name) ∧ (b.t.kind = 1 → ∀ x ∈ l, x.1 ≠ b.t.name) := by
  obtain ⟨e1, e2⟩ := k.one vs
  have h1 := h.st
  rw [e1, e2] at h1
  refine ⟨h1.held.fine.one _ (.inl List.mem_cons_self), h1.held.fine.one _ (.inr List.mem_cons_self), fun hk x hx e => ?_, fun hk x hx e => ?_⟩
  · refine (h1.gone x.1 (List.mem_map.2 ⟨x, hx, rfl⟩)).1 (hasL_cons.2 (.inl ?_))
    rw [pt_var k.ra hk, e]; exact has_self hk
  · refine (h1.gone x.1 (List.mem_map.2 ⟨x, hx, rfl⟩)).2 (hasL_cons.2 (.inl ?_))
    rw [pt_var k.rb hk, e]; exact has_self hk
theorem wpu_bind {o : Option (List Bn)} {m : Nat} {l : List Bn} {vs : List Wv} {r q : Wv} {p t : Tm} {a b : Pt} (h : WPu o m l (vs ++ [r])) (k : WTop l r q p t a b) (hf : ∀ x ∈ vs ++ [q], x.f1 ≤ l.length ∧ x.f2 ≤ l.length) (hk : a.t.kind = 1) (hne : a.t ≠ b.t) (n : Nat) :
    (occB a.t.name (b.whole l) = true → o = none) ∧ (occB a.t.name (b.whole l) = false → ∃ m', WPu o m' (l ++ [(a.t.name, b.whole l)]) (vs ++ [q]) ∧ workN m' (upA (l ++ [(a.t.name, b.whole l)]) (vs ++ [q])) n < workN m (upA l (vs ++ [r])) n) := by
  obtain ⟨e1, e2⟩ := k.one vs
  have h1 := h.st
  have h2 := h.goes
  rw [e1, e2] at h1 h2
  have ea := pt_var k.ra hk
  have hab : a.whole l ≠ b.whole l := fun e => by
    by_cases hb : b.t.kind = 1
    · rw [ea, pt_var k.rb hb] at e; exact hne e
    · have h3 := congrArg Tm.kind e
      rw [ea, pt_head k.rb hb] at h3
      exact hb (h3.symm.trans hk)
  have hka : (a.whole l).kind = 1 := by rw [ea]; exact hk
  have hna : (a.whole l).name = a.t.name := by rw [ea]
  have hpb : PlainT (b.whole l) := h1.pv.head
  refine ⟨fun ho => h2.occ hab hka (by rw [hna]; exact (occB_iff hpb).1 ho), fun ho => ?_⟩
  have hno : ¬ HasV a.t.name (b.whole l) := fun hv => by rw [(occB_iff hpb).2 hv] at ho; cases ho
  obtain ⟨hm, h3⟩ := h1.put (s := a.t.name) (t := b.whole l) (.inl ⟨rfl, by rw [ea]; exact has_self hk⟩) hno
  have h4 := h2.bind hab hka (by rw [hna]; exact hno) (by rw [hna]; exact h3)
  rw [hna] at h4
  have u1 := upA_more l (a.t.name, b.whole l) (vs ++ [q]) (fun x hx => (hf x hx).1)
  have u2 := upB_more l (a.t.name, b.whole l) (vs ++ [q]) (fun x hx => (hf x hx).2)
  refine ⟨m - 1, ⟨by rw [u1, u2]; exact h3, by rw [u1, u2]; exact h4, h.deep.bind k.h1 k.h2 k.h3 k.h4 hf (.inr k.rb.same) hno⟩, ?_⟩
  rw [u1]
  have h5 := h3.held.left
  unfold mostT at h5
  unfold workN
  have h6 : m * 4424729404872 = (m - 1) * 4424729404872 + 4424729404872 := by omega
  omega
theorem wpu_bind' {o : Option (List Bn)} {m : Nat} {l : List Bn} {vs : List Wv} {r q : Wv} {p t : Tm} {a b : Pt} (h : WPu o m l (vs ++ [r])) (k : WTop l r q p t a b) (hf : ∀ x ∈ vs ++ [q], x.f1 ≤ l.length ∧ x.f2 ≤ l.length) (ka : a.t.kind ≠ 1) (hk : b.t.kind = 1) (n : Nat) :
    (occB b.t.name (a.whole l) = true → o = none) ∧ (occB b.t.name (a.whole l) = false → ∃ m', WPu o m' (l ++ [(b.t.name, a.whole l)]) (vs ++ [q]) ∧ workN m' (upA (l ++ [(b.t.name, a.whole l)]) (vs ++ [q])) n < workN m (upA l (vs ++ [r])) n) := by
  obtain ⟨e1, e2⟩ := k.one vs
  have h1 := h.st
  have h2 := h.goes
  rw [e1, e2] at h1 h2
  have eb := pt_var k.rb hk
  have hka : (a.whole l).kind ≠ 1 := by rw [pt_head k.ra ka]; exact ka
  have hkb : (b.whole l).kind = 1 := by rw [eb]; exact hk
  have hnb : (b.whole l).name = b.t.name := by rw [eb]
  have hpa : PlainT (a.whole l) := h1.pu.head
  refine ⟨fun ho => h2.occ' hka hkb (by rw [hnb]; exact (occB_iff hpa).1 ho), fun ho => ?_⟩
  have hno : ¬ HasV b.t.name (a.whole l) := fun hv => by rw [(occB_iff hpa).2 hv] at ho; cases ho
  obtain ⟨hm, h3⟩ := h1.put (s := b.t.name) (t := a.whole l) (.inr ⟨rfl, by rw [eb]; exact has_self hk⟩) hno
  have h4 := h2.bind' hka hkb (by rw [hnb]; exact hno) (by rw [hnb]; exact h3)
  rw [hnb] at h4
  have u1 := upA_more l (b.t.name, a.whole l) (vs ++ [q]) (fun x hx => (hf x hx).1)
  have u2 := upB_more l (b.t.name, a.whole l) (vs ++ [q]) (fun x hx => (hf x hx).2)
  refine ⟨m - 1, ⟨by rw [u1, u2]; exact h3, by rw [u1, u2]; exact h4, h.deep.bind k.h1 k.h2 k.h3 k.h4 hf (.inl k.ra.same) hno⟩, ?_⟩
  rw [u1]
  have h5 := h3.held.left
  unfold mostT at h5
  unfold workN
  have h6 : m * 4424729404872 = (m - 1) * 4424729404872 + 4424729404872 := by omega
  omega
theorem like_head {x y : Tm} : likeB x y = true ↔ headB x y = true ∧ x.args.length = y.args.length := by
  unfold likeB headB
  rw [Bool.and_eq_true, beq_iff_eq (a := (x.args.length : Int))]
  constructor
  · exact fun h => ⟨h.1, by omega⟩
  · exact fun h => ⟨h.1, by omega⟩
theorem wpu_args {o : Option (List Bn)} {m : Nat} {l : List Bn} {vs : List Wv} {r q z : Wv} {p t : Tm} {a b : Pt} (h : WPu o m l (vs ++ [r])) (k : WTop l r q p t a b) (ka : a.t.kind ≠ 1) (kb : b.t.kind ≠ 1) (hl : likeB a.t b.t = true) (z1 : z.ps = a.t.args) (z2 : z.ts = b.t.args) (z3 : z.f1 = a.f) (z4 : z.f2 = b.f) (n : Nat) :
    WPu o m l (vs ++ [q] ++ [z]) ∧ workN m (upA l (vs ++ [q] ++ [z])) (n + 1) < workN m (upA l (vs ++ [r])) n := by
  obtain ⟨e1, e2⟩ := k.one vs
  have h1 := h.st
  have h2 := h.goes
  rw [e1, e2] at h1 h2
  have ea := pt_head k.ra ka
  have eb := pt_head k.rb kb
  obtain ⟨hh, he⟩ := like_head.1 hl
  have hka : (a.whole l).kind ≠ 1 := by rw [ea]; exact ka
  have hkb : (b.whole l).kind ≠ 1 := by rw [eb]; exact kb
  have hla : (a.whole l).args.length = (b.whole l).args.length := by rw [ea, eb]; show (a.t.args.map _).length = (b.t.args.map _).length; rw [List.length_map, List.length_map]; exact he
  have hhd : headB (a.whole l) (b.whole l) = true := by rw [ea, eb]; exact hh
  have u1 : upA l (vs ++ [q] ++ [z]) = (a.whole l).args ++ upA l (vs ++ [q]) := by rw [upA_snoc, z1, z3, ea]; rfl
  have u2 : upB l (vs ++ [q] ++ [z]) = (b.whole l).args ++ upB l (vs ++ [q]) := by rw [upB_snoc, z2, z4, eb]; rfl
  refine ⟨⟨by rw [u1, u2]; exact h1.args hka hla, by rw [u1, u2]; exact h2.args hka hkb hhd hla (h1.args hka hla) h1.same, h.deep.args k.h1 k.h2 k.h3 k.h4 k.ra.same k.rb.same ka kb he z1 z2 z3 z4⟩, ?_⟩
  unfold workN
  rw [u1, e1, partsL_append, partsL_cons, parts_eq (a.whole l)]
  omega
theorem wpu_clash {o : Option (List Bn)} {m : Nat} {l : List Bn} {vs : List Wv} {r q : Wv} {p t : Tm} {a b : Pt} (h : WPu o m l (vs ++ [r])) (k : WTop l r q p t a b) (ka : a.t.kind ≠ 1) (kb : b.t.kind ≠ 1) (hl : likeB a.t b.t = false) : o = none := by
  obtain ⟨e1, e2⟩ := k.one vs
  have h2 := h.goes
  rw [e1, e2] at h2
  have ea := pt_head k.ra ka
  have eb := pt_head k.rb kb
  refine h2.clash (by rw [ea]; exact ka) (by rw [eb]; exact kb) (fun ⟨h3, h4⟩ => ?_)
  rw [ea, eb] at h3 h4
  have h5 : (a.t.args.map (appR (l.drop a.f))).length = (b.t.args.map (appR (l.drop b.f))).length := h4
  rw [List.length_map, List.length_map] at h5
  have h6 : likeB a.t b.t = true := like_head.2 ⟨h3, h5⟩
  rw [h6] at hl; cases hl
end Go.Proofs.Ytedljdcliilggaa
