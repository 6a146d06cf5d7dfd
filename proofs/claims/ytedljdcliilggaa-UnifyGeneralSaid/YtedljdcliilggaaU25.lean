/-
  Where terms are made alike pair by pair: what holds of the binds that were found and of the pairs that are left. No function of the program.
  Whether a term is a variable, whether two are alike but for what their arguments are, and which bind is the next one to be put in, by the program: variable, alike, bound.
  Binds put in at the root alone, by the program: the method root of what was found.
-/
import Derived.Test.YtedljdcliilggaaU24
import Derived.Deep.RegionHeld3
import Derived.Deep.RegionWith
namespace Go.Proofs.Ytedljdcliilggaa
open Go.RowKit

/-- What was found and what is left is of bounded size. -/
def Held (l : List Bn) (us bs : List Tm) : Prop :=
  (∃ P A, UInv P A us bs ∧ ∀ (i : Nat) x, l[i]? = some x → GoodT P (appR (l.drop (i + 1)) x.2)) ∨
  (l = [] ∧ ∃ a b, us = [a] ∧ bs = [b] ∧ PlainT a ∧ PlainT b ∧ a.parts ≤ 40 ∧ b.parts ≤ 40) ∨
  (us = [] ∧ bs = [] ∧ ∀ (i : Nat) x, l[i]? = some x → (appR (l.drop (i + 1)) x.2).parts ≤ mostT)
theorem Held.fine {l : List Bn} {us bs : List Tm} (h : Held l us bs) : Fine us bs := by
  rcases h with ⟨P, A, h, _⟩ | ⟨_, h⟩ | ⟨h1, h2, _⟩
  · exact .inl ⟨P, A, h⟩
  · exact .inr (.inl h)
  · exact .inr (.inr ⟨h1, h2⟩)
theorem Held.bound {l : List Bn} {us bs : List Tm} (h : Held l us bs) {i : Nat} {x : Bn} (hx : l[i]? = some x) : (appR (l.drop (i + 1)) x.2).parts ≤ mostT := by
  rcases h with ⟨P, A, h, h1⟩ | ⟨rfl, _⟩ | ⟨_, _, h1⟩
  · exact h.good_le (h1 i x hx)
  · simp at hx
  · exact h1 i x hx
theorem Held.left {l : List Bn} {us bs : List Tm} (h : Held l us bs) : partsL us ≤ mostT := by
  rcases h with ⟨P, A, h, _⟩ | ⟨_, a, b, rfl, _, _, _, h, _⟩ | ⟨rfl, _⟩
  · exact h.us_parts
  · rw [partsL_cons, partsL_nil]; unfold mostT; omega
  · rw [partsL_nil]; exact Nat.zero_le _
theorem Held.same {l : List Bn} {a b : Tm} {us bs : List Tm} (h : Held l (a :: us) (b :: bs)) : Held l us bs := by
  rcases h with ⟨P, A, h, h1⟩ | ⟨rfl, _, _, e1, e2, _⟩ | ⟨e, _⟩
  · exact .inl ⟨P, A, h.same, h1⟩
  · injection e1 with _ e1; injection e2 with _ e2; exact .inr (.inr ⟨e1, e2, fun i x hx => by simp at hx⟩)
  · cases e
theorem Held.put {l : List Bn} {a b : Tm} {us bs : List Tm} {s : ByteArray} {t : Tm} (h : Held l (a :: us) (b :: bs)) (ht : t = a ∨ t = b) (ho : ¬ HasV s t) : Held (l ++ [(s, t)]) (appL [(s, t)] us) (appL [(s, t)] bs) := by
  have hone := h.fine.one
  rcases h with ⟨P, A, h, h1⟩ | ⟨rfl, _, _, e1, e2, _⟩ | ⟨e, _⟩
  · have hg : GoodT P t := by rcases ht with rfl | rfl; exact h.gus _ List.mem_cons_self; exact h.gbs _ List.mem_cons_self
    have hp := h.put hg ho
    refine .inl ⟨_, _, hp, fun i x hx => ?_⟩
    rcases Nat.lt_or_ge i l.length with hi | hi
    · rw [List.getElem?_append_left hi] at hx
      rw [drop_more (by omega), appR_more, appR, appR]
      exact good_app (h1 i x hx) hg ho
    · rw [List.getElem?_append_right hi] at hx
      have e : i - l.length = 0 := by
        rcases Nat.eq_zero_or_pos (i - l.length) with e | e
        · exact e
        · rw [List.getElem?_eq_none (by rw [List.length_singleton]; omega)] at hx; cases hx
      rw [e] at hx
      simp only [List.getElem?_cons_zero, Option.some.injEq] at hx
      subst hx
      rw [List.drop_eq_nil_of_le (by rw [List.length_append, List.length_singleton]; omega), appR]
      have := good_app hg hg ho
      rw [app_free t ho] at this
      exact this
  · injection e1 with e0 e1; injection e2 with e3 e2
    subst e1 e2
    refine .inr (.inr ⟨by rw [appL], by rw [appL], fun i x hx => ?_⟩)
    rw [List.nil_append] at hx ⊢
    cases i with
    | zero =>
      simp only [List.getElem?_cons_zero, Option.some.injEq] at hx
      subst hx
      simp only [List.drop_succ_cons, List.drop_zero, appR]
      exact hone t (by rcases ht with rfl | rfl; exact .inl List.mem_cons_self; exact .inr List.mem_cons_self)
    | succ i => simp at hx
  · cases e
theorem Held.args {l : List Bn} {a b : Tm} {us bs : List Tm} (h : Held l (a :: us) (b :: bs)) (hk : a.kind ≠ 1) (he : a.args.length = b.args.length) : Held l (a.args ++ us) (b.args ++ bs) := by
  rcases h with ⟨P, A, h, h1⟩ | ⟨rfl, _, _, e1, e2, h1, h2, h3, h4⟩ | ⟨e, _⟩
  · exact .inl ⟨P, A, h.args hk, h1⟩
  · injection e1 with e1 e3; injection e2 with e2 e4
    subst e1 e2 e3 e4
    rw [List.append_nil, List.append_nil]
    by_cases h0 : a.args.length = 0
    · exact .inr (.inr ⟨List.eq_nil_of_length_eq_zero h0, List.eq_nil_of_length_eq_zero (by omega), fun i x hx => by simp at hx⟩)
    · obtain ⟨P, h⟩ := uinv_start h1 h2 hk he (by omega) h3 h4
      exact .inl ⟨P, a, h, fun i x hx => by simp at hx⟩
  · cases e

/-- What was found, and the pairs that are left: m names at most may still be bound. -/
structure USt (N m : Nat) (l : List Bn) (us bs : List Tm) : Prop where
  len : us.length = bs.length
  pu : PlainL us
  pv : PlainL bs
  pl : ∀ x ∈ l, PlainT x.2
  nodup : (l.map Prod.fst).Nodup
  gone : ∀ z ∈ l.map Prod.fst, ¬ HasL z us ∧ ¬ HasL z bs
  held : Held l us bs
  names : ∃ V : List ByteArray, V.length ≤ m ∧ ∀ s, HasL s us ∨ HasL s bs → s ∈ V
  few : l.length + m ≤ N
theorem USt.same {N m : Nat} {l : List Bn} {a b : Tm} {us bs : List Tm} (h : USt N m l (a :: us) (b :: bs)) : USt N m l us bs where
  len := by simpa using h.len
  pu := h.pu.tail
  pv := h.pv.tail
  pl := h.pl
  nodup := h.nodup
  gone := fun z hz => ⟨fun k => (h.gone z hz).1 (hasL_cons.2 (.inr k)), fun k => (h.gone z hz).2 (hasL_cons.2 (.inr k))⟩
  held := h.held.same
  names := by
    obtain ⟨V, h1, h2⟩ := h.names
    exact ⟨V, h1, fun s hs => h2 s (hs.imp (fun k => hasL_cons.2 (.inr k)) (fun k => hasL_cons.2 (.inr k)))⟩
  few := h.few
theorem has_sub {s : ByteArray} {t : Tm} (h : HasL s t.args) : HasV s t := by obtain ⟨k, z, n, xs⟩ := t; exact hasV_mk.2 (.inr h)
theorem USt.args {N m : Nat} {l : List Bn} {a b : Tm} {us bs : List Tm} (h : USt N m l (a :: us) (b :: bs)) (hk : a.kind ≠ 1) (he : a.args.length = b.args.length) : USt N m l (a.args ++ us) (b.args ++ bs) where
  len := by have := h.len; rw [List.length_cons, List.length_cons] at this; rw [List.length_append, List.length_append]; omega
  pu := plainL_append h.pu.head.args h.pu.tail
  pv := plainL_append h.pv.head.args h.pv.tail
  pl := h.pl
  nodup := h.nodup
  gone := fun z hz => ⟨fun k => (h.gone z hz).1 (by
    rcases hasL_append.1 k with k | k
    · exact hasL_cons.2 (.inl (has_sub k))
    · exact hasL_cons.2 (.inr k)), fun k => (h.gone z hz).2 (by
    rcases hasL_append.1 k with k | k
    · exact hasL_cons.2 (.inl (has_sub k))
    · exact hasL_cons.2 (.inr k))⟩
  held := h.held.args hk he
  names := by
    obtain ⟨V, h1, h2⟩ := h.names
    refine ⟨V, h1, fun s hs => h2 s (hs.imp (fun k => ?_) (fun k => ?_))⟩
    · rcases hasL_append.1 k with k | k
      · exact hasL_cons.2 (.inl (has_sub k))
      · exact hasL_cons.2 (.inr k)
    · rcases hasL_append.1 k with k | k
      · exact hasL_cons.2 (.inl (has_sub k))
      · exact hasL_cons.2 (.inr k)
  few := h.few
theorem USt.put {N m : Nat} {l : List Bn} {a b : Tm} {us bs : List Tm} {s : ByteArray} {t : Tm} (h : USt N m l (a :: us) (b :: bs)) (ht : (t = b ∧ HasV s a) ∨ (t = a ∧ HasV s b)) (ho : ¬ HasV s t) :
    1 ≤ m ∧ USt N (m - 1) (l ++ [(s, t)]) (appL [(s, t)] us) (appL [(s, t)] bs) := by
  have hpt : PlainT t := by rcases ht with ⟨rfl, _⟩ | ⟨rfl, _⟩; exact h.pv.head; exact h.pu.head
  have hP : ∀ z ∈ [((s, t) : Bn)], PlainT z.2 := fun z hz => by rw [List.mem_singleton] at hz; subst hz; exact hpt
  have hs : HasL s (a :: us) ∨ HasL s (b :: bs) := by rcases ht with ⟨_, k⟩ | ⟨_, k⟩; exact .inl (hasL_cons.2 (.inl k)); exact .inr (hasL_cons.2 (.inl k))
  have htv : ∀ z, HasV z t → HasL z (a :: us) ∨ HasL z (b :: bs) := fun z hz => by
    rcases ht with ⟨rfl, _⟩ | ⟨rfl, _⟩
    · exact .inr (hasL_cons.2 (.inl hz))
    · exact .inl (hasL_cons.2 (.inl hz))
  have hin : ∀ z, HasL z (appL [(s, t)] us) ∨ HasL z (appL [(s, t)] bs) → (HasL z (a :: us) ∨ HasL z (b :: bs)) ∧ z ≠ s := fun z hz => by
    rcases hz with hz | hz
    · rcases has_appL _ h.pu.tail hz with ⟨k1, k2⟩ | k
      · exact ⟨.inl (hasL_cons.2 (.inr k1)), k2⟩
      · exact ⟨htv z k, fun e => ho (e ▸ k)⟩
    · rcases has_appL _ h.pv.tail hz with ⟨k1, k2⟩ | k
      · exact ⟨.inr (hasL_cons.2 (.inr k1)), k2⟩
      · exact ⟨htv z k, fun e => ho (e ▸ k)⟩
  obtain ⟨V, hV, hin2⟩ := h.names
  have hlt := drop_lt (hin2 s hs)
  have hnew : s ∉ l.map Prod.fst := fun k => by rcases hs with k1 | k1; exact (h.gone s k).1 k1; exact (h.gone s k).2 k1
  have hfew := h.few
  refine ⟨by omega, ?_⟩
  exact {
    len := by rw [appL_len, appL_len]; simpa using h.len
    pu := plain_appL hP _ h.pu.tail
    pv := plain_appL hP _ h.pv.tail
    pl := fun x hx => by
      rcases List.mem_append.1 hx with hx | hx
      · exact h.pl x hx
      · exact hP x hx
    nodup := by
      rw [List.map_append, List.map_singleton]
      exact List.nodup_append.2 ⟨h.nodup, by simp, fun x hx y hy => by rw [List.mem_singleton] at hy; subst hy; exact fun e => hnew (e ▸ hx)⟩
    gone := fun z hz => by
      rw [List.map_append, List.map_singleton] at hz
      have key : ∀ u, (HasL u (a :: us) ∨ HasL u (b :: bs)) ∧ u ≠ s → u ≠ z := fun u ⟨k1, k2⟩ e => by
        subst e
        rcases List.mem_append.1 hz with hz | hz
        · rcases k1 with k1 | k1
          · exact (h.gone u hz).1 k1
          · exact (h.gone u hz).2 k1
        · rw [List.mem_singleton] at hz; exact k2 hz
      exact ⟨fun k => key z (hin z (.inl k)) rfl, fun k => key z (hin z (.inr k)) rfl⟩
    held := h.held.put (by rcases ht with ⟨k, _⟩ | ⟨k, _⟩; exact .inr k; exact .inl k) ho
    names := ⟨V.filter (fun z => decide (z ≠ s)), by
      have e : (V.filter (fun z => decide (z ≠ s))).length < V.length := List.length_filter_lt_length_iff_exists.2 ⟨s, hin2 s hs, by simp⟩
      omega, fun z hz => List.mem_filter.2 ⟨hin2 z (hin z hz).1, decide_eq_true (hin z hz).2⟩⟩
    few := by rw [List.length_append, List.length_singleton]; omega }
theorem ust_start {a b : Tm} (ha : PlainT a) (hb : PlainT b) (pa : a.parts ≤ 40) (pb : b.parts ≤ 40) : USt 80 80 [] [a] [b] where
  len := rfl
  pu := fun x hx => by rw [allL_cons, allL, List.append_nil] at hx; exact ha x hx
  pv := fun x hx => by rw [allL_cons, allL, List.append_nil] at hx; exact hb x hx
  pl := fun x hx => by cases hx
  nodup := by simp
  gone := fun z hz => by cases hz
  held := .inr (.inl ⟨rfl, a, b, rfl, rfl, ha, hb, pa, pb⟩)
  names := ⟨(allL [a]).map Tm.name ++ (allL [b]).map Tm.name, by
      rw [List.length_append, List.length_map, List.length_map, allL_length, allL_length, partsL_cons, partsL_cons, partsL_nil]; omega, fun s hs => by
    rcases hs with ⟨x, hx, _, e⟩ | ⟨x, hx, _, e⟩
    · exact List.mem_append_left _ (List.mem_map.2 ⟨x, hx, e⟩)
    · exact List.mem_append_right _ (List.mem_map.2 ⟨x, hx, e⟩)⟩
  few := Nat.le_refl _
/-- Equal terms ahead of what is left need nothing. -/
theorem row_pass {us bs : List Tm} {o : Option (List Bn)} (h : RowU us bs o) : ∀ xs : List Tm, RowU (xs ++ us) (xs ++ bs) o
  | [] => h
  | _ :: xs => .same (row_pass h xs)
theorem USt.row {N m : Nat} {l : List Bn} {us bs : List Tm} (h : USt N m l us bs) : ∃ o, RowU us bs o := row_any us bs h.len h.pu h.pv
/-- What is asked, from here on: what was found ahead of what will be. -/
def Goes (o : Option (List Bn)) (l : List Bn) (us bs : List Tm) : Prop := ∃ q, RowU us bs q ∧ o = q.map fun r => l ++ r
theorem Goes.same {o : Option (List Bn)} {l : List Bn} {a : Tm} {us bs : List Tm} {N m : Nat} (h : Goes o l (a :: us) (a :: bs)) (hs : USt N m l us bs) : Goes o l us bs := by
  obtain ⟨q, hq, e⟩ := h
  obtain ⟨r, hr⟩ := hs.row
  rw [row_one hq (.same hr)] at e
  exact ⟨r, hr, e⟩
theorem Goes.occ {o : Option (List Bn)} {l : List Bn} {a b : Tm} {us bs : List Tm} (h : Goes o l (a :: us) (b :: bs)) (hn : a ≠ b) (hk : a.kind = 1) (ho : HasV a.name b) : o = none := by
  obtain ⟨q, hq, e⟩ := h
  rw [e, row_one hq (.occ hn hk ho)]; rfl
theorem Goes.occ' {o : Option (List Bn)} {l : List Bn} {a b : Tm} {us bs : List Tm} (h : Goes o l (a :: us) (b :: bs)) (hk : a.kind ≠ 1) (hl : b.kind = 1) (ho : HasV b.name a) : o = none := by
  obtain ⟨q, hq, e⟩ := h
  rw [e, row_one hq (.occ' (fun e => hk (e ▸ hl)) hk hl ho)]; rfl
theorem Goes.clash {o : Option (List Bn)} {l : List Bn} {a b : Tm} {us bs : List Tm} (h : Goes o l (a :: us) (b :: bs)) (hk : a.kind ≠ 1) (hl : b.kind ≠ 1) (hh : ¬ (headB a b = true ∧ a.args.length = b.args.length)) : o = none := by
  obtain ⟨q, hq, e⟩ := h
  rw [e, row_one hq (.clash hk hl hh)]; rfl
theorem Goes.bind {o : Option (List Bn)} {l : List Bn} {a b : Tm} {us bs : List Tm} {N m : Nat} (h : Goes o l (a :: us) (b :: bs)) (hn : a ≠ b) (hk : a.kind = 1) (ho : ¬ HasV a.name b) (hs : USt N m (l ++ [(a.name, b)]) (appL [(a.name, b)] us) (appL [(a.name, b)] bs)) :
    Goes o (l ++ [(a.name, b)]) (appL [(a.name, b)] us) (appL [(a.name, b)] bs) := by
  obtain ⟨q, hq, e⟩ := h
  obtain ⟨r, hr⟩ := hs.row
  rw [row_one hq (.bind hn hk ho hr)] at e
  refine ⟨r, hr, ?_⟩
  rw [e, Option.map_map]
  congr 1
  funext z
  simp
theorem Goes.bind' {o : Option (List Bn)} {l : List Bn} {a b : Tm} {us bs : List Tm} {N m : Nat} (h : Goes o l (a :: us) (b :: bs)) (hk : a.kind ≠ 1) (hl : b.kind = 1) (ho : ¬ HasV b.name a) (hs : USt N m (l ++ [(b.name, a)]) (appL [(b.name, a)] us) (appL [(b.name, a)] bs)) :
    Goes o (l ++ [(b.name, a)]) (appL [(b.name, a)] us) (appL [(b.name, a)] bs) := by
  obtain ⟨q, hq, e⟩ := h
  obtain ⟨r, hr⟩ := hs.row
  rw [row_one hq (.bind' (fun e => hk (e ▸ hl)) hk hl ho hr)] at e
  refine ⟨r, hr, ?_⟩
  rw [e, Option.map_map]
  congr 1
  funext z
  simp
open Classical in
theorem Goes.args {o : Option (List Bn)} {l : List Bn} {a b : Tm} {us bs : List Tm} {N m : Nat} (h : Goes o l (a :: us) (b :: bs)) (hk : a.kind ≠ 1) (hl : b.kind ≠ 1) (hh : headB a b = true) (he : a.args.length = b.args.length) (hs : USt N m l (a.args ++ us) (b.args ++ bs)) (hs2 : USt N m l us bs) :
    Goes o l (a.args ++ us) (b.args ++ bs) := by
  obtain ⟨q, hq, e⟩ := h
  by_cases hn : a = b
  · subst hn
    obtain ⟨r, hr⟩ := hs2.row
    rw [row_one hq (.same hr)] at e
    exact ⟨r, row_pass hr a.args, e⟩
  · obtain ⟨r, hr⟩ := hs.row
    rw [row_one hq (.args hn hk hl hh he hr)] at e
    exact ⟨r, hr, e⟩
theorem Goes.done {o : Option (List Bn)} {l : List Bn} {bs : List Tm} (h : Goes o l [] bs) : o = some l := by
  obtain ⟨q, hq, e⟩ := h
  rw [e, row_nil hq]
  simp
end Go.Proofs.Ytedljdcliilggaa

namespace Go.Proofs.Ytedljdcliilggaa
open Go.RowKit Go.Maps

/-- A variable with nothing that it doesn't need. -/
def varB (t : Tm) : Bool := ((t.kind == 1) && (t.n == 0)) && ((t.args.length : Int) == 0)
theorem varB_plain {t : Tm} (hp : PlainT t) : varB t = decide (t.kind = 1) := by
  unfold varB
  by_cases hk : t.kind = 1
  · obtain ⟨h1, h2⟩ := hp.self hk
    rw [h1, h2, hk]; rfl
  · rw [decide_eq_false hk, show (t.kind == 1) = false from by simpa using hk]; rfl
set_option maxRecDepth 100000 in
set_option maxHeartbeats 2000000 in
theorem variable_any (x : Tv) (w : World) : Calls Try.prog 54 #[x.val] w fun e w' => e = .returned (.bool (varB x.t)) ∧ Below w.heap.size w w' := by
  obtain ⟨xt, xa, xc⟩ := x
  have bX := box_new w (.int .i64 xt.kind) (.string xt.name) (.int .i64 xt.n) (.slice xa xt.args.length xc) 24
  have HB := Lib.hid ((Below.refl w.heap.size w).alloc (Nat.le_refl _) (.cells #[.int .i64 xt.kind, .string xt.name, .int .i64 xt.n, .slice xa xt.args.length xc] 24))
  have HV := Lib.hid (show varB xt = (((xt.kind == 1) && (xt.n == 0)) && ((xt.args.length : Int) == 0)) from rfl)
  obtain ⟨p0, p1, p2, p3, _, _, _, _⟩ := bX
  simp only [Tv.val]
  obtain ⟨k1, hk1⟩ : ∃ k1, (xt.kind == 1) = k1 := ⟨_, rfl⟩
  obtain ⟨k2, hk2⟩ : ∃ k2, (xt.n == 0) = k2 := ⟨_, rfl⟩
  obtain ⟨k3, hk3⟩ : ∃ k3, ((xt.args.length : Int) == 0) = k3 := ⟨_, rfl⟩
  have HE := HV.out
  rw [hk1, hk2, hk3] at HE
  have HF := Lib.hid HE
  clear HE HV
  cases k1 <;> cases k2 <;> cases k3
  all_goals
    go_enter Try.func54, Try.ntmps54
    go_wp2_with fail
    go_ret
    refine ⟨?_, HB.out⟩
    rw [HF.out]
    simp
def likeB (x y : Tm) : Bool := ((((x.kind == y.kind) && (x.n == y.n)) && (x.name.toList == y.name.toList)) && ((x.args.length : Int) == (y.args.length : Int)))
set_option maxRecDepth 100000 in
set_option maxHeartbeats 2000000 in
theorem ulike_any (x y : Tv) (w : World) : Calls Try.prog 57 #[x.val, y.val] w fun e w' => e = .returned (.bool (likeB x.t y.t)) ∧ Below w.heap.size w w' := by
  obtain ⟨xt, xa, xc⟩ := x
  obtain ⟨yt, ya, yc⟩ := y
  have bX := (box_new w (.int .i64 xt.kind) (.string xt.name) (.int .i64 xt.n) (.slice xa xt.args.length xc) 24).below ((Below.refl _ _).alloc (Nat.le_refl _) (.cells #[.int .i64 yt.kind, .string yt.name, .int .i64 yt.n, .slice ya yt.args.length yc] 24)) (by simp)
  have bY := alloc_two w (.cells #[.int .i64 xt.kind, .string xt.name, .int .i64 xt.n, .slice xa xt.args.length xc] 24) (.int .i64 yt.kind) (.string yt.name) (.int .i64 yt.n) (.slice ya yt.args.length yc) 24
  have hB2 := below_two w (.cells #[.int .i64 xt.kind, .string xt.name, .int .i64 xt.n, .slice xa xt.args.length xc] 24) (.cells #[.int .i64 yt.kind, .string yt.name, .int .i64 yt.n, .slice ya yt.args.length yc] 24)
  have HB := Lib.hid hB2
  have HV := Lib.hid (show likeB xt yt = ((((xt.kind == yt.kind) && (xt.n == yt.n)) && (xt.name.toList == yt.name.toList)) && ((xt.args.length : Int) == (yt.args.length : Int))) from rfl)
  obtain ⟨p0, p1, p2, p3, _, _, _, _⟩ := bX
  obtain ⟨q0, q1, q2, q3, _, _, _, _⟩ := bY
  simp only [Tv.val]
  clear hB2
  obtain ⟨k1, hk1⟩ : ∃ k1, (xt.kind == yt.kind) = k1 := ⟨_, rfl⟩
  obtain ⟨k2, hk2⟩ : ∃ k2, (xt.n == yt.n) = k2 := ⟨_, rfl⟩
  obtain ⟨k3, hk3⟩ : ∃ k3, (xt.name.toList == yt.name.toList) = k3 := ⟨_, rfl⟩
  have HE := HV.out
  rw [hk1, hk2, hk3] at HE
  have HF := Lib.hid HE
  clear HE HV
  cases k1 <;> cases k2 <;> cases k3
  all_goals
    go_enter Try.func57, Try.ntmps57
    go_wp2_with fail
    go_ret
    refine ⟨?_, HB.out⟩
    rw [HF.out]
    simp

theorem nodup_at {l : List Bn} (hn : (l.map Prod.fst).Nodup) {i j : Nat} {x y : Bn} (hx : l[i]? = some x) (hy : l[j]? = some y) (h : x.1 = y.1) : i = j := by
  obtain ⟨hi, rfl⟩ := List.getElem?_eq_some_iff.1 hx
  obtain ⟨hj, rfl⟩ := List.getElem?_eq_some_iff.1 hy
  have key : ∀ i j, (hi : i < l.length) → (hj : j < l.length) → l[i].1 = l[j].1 → ¬ i < j := fun i j hi hj h hlt => by
    have h2 := List.pairwise_iff_getElem.1 hn i j (by rw [List.length_map]; exact hi) (by rw [List.length_map]; exact hj) hlt
    rw [List.getElem_map, List.getElem_map] at h2
    exact h2 h
  have h1 := key i j hi hj h
  have h2 := key j i hj hi h.symm
  omega
/-- What bound leaves. -/
def BoundPost (l : List Bn) (s : ByteArray) (f : Nat) (w : World) (e : Ending) (w' : World) : Prop :=
  w' = w ∧ ((∃ (i : Nat) (x : Bn), l[i]? = some x ∧ x.1 = s ∧ f ≤ i ∧ e = .returned (.tuple #[.int .i64 i, .bool true])) ∨ ((∀ j y, l[j]? = some y → f ≤ j → y.1 ≠ s) ∧ ∃ c : Int, e = .returned (.tuple #[.int .i64 c, .bool false])))
set_option maxRecDepth 100000 in
set_option maxHeartbeats 4000000 in
theorem bound_any {w0 W : World} {fb bm : Nat} {vb vn : Value} {l : List Bn} {ps : List Pv} (h : FnAt w0 W fb bm vb vn l ps) (hn : (l.map Prod.fst).Nodup) (hl : l.length ≤ 1000) (s : ByteArray) (hs : s.size ≤ 9223372036854775807) (f : Nat) (hf : f ≤ 1000) :
    Calls Try.prog 66 #[.pointer (some ⟨fb, 0, none⟩), .string s, .int .i64 f] W (BoundPost l s f W) := by
  obtain ⟨D, hown, hD⟩ := h.table
  have hkey := keyOfF hs
  obtain ⟨p0, p1, p2, _, _, _⟩ := three_of h.box
  have HO := Lib.hid hown
  clear h hown
  cases hh : has D (keyF s) with
  | true =>
    obtain ⟨i, x, hi, hx, hat0⟩ := (hD.2 s).1 hh
    have hil := (List.getElem?_eq_some_iff.1 hi).1
    have HAT := Lib.hid (fun (c : Int) (h : D.atKey (keyF s) (.lit (.int .i64 0)) = .lit (.int .i64 c)) => (show c = i from by rw [hat0] at h; injection h with h; injection h with _ h; exact h.symm))
    have HHAS := Lib.hid hh
    have HI := Lib.hid (And.intro hi hx)
    have HN := Lib.hid hn
    have hi1 : (i : Int) ≤ 1000 := by omega
    have hi2 : (0 : Int) ≤ i := by omega
    have hf2 : (0 : Int) ≤ f := by omega
    have hf1 : (f : Int) ≤ 1000 := by omega
    clear hh hat0 hi hx hD hn
    by_cases hfi : f ≤ i
    · have hfd : decide ((f : Int) ≤ (i : Int)) = true := decide_eq_true (by omega)
      have hfd2 : decide ((i : Int) ≥ (f : Int)) = true := decide_eq_true (by omega)
      have hfd3 : (f : Int) ≤ (i : Int) := by omega
      go_enter Try.func66, Try.ntmps66
      go_wp2_with (at_lookup; refine wpList_lookup_own_ok_int _ rfl _ _ 58 rfl 9 3 .i64 keyed_name Try.underlying58 Try.underlying3 (zeroI _) bm l.length D rfl HO.out _ _ rfl hkey ?_; intro c hat hwc; obtain rfl := HAT.out c hat; rw [HHAS.out]; clear hat hwc)
      go_ret2
      exact ⟨rfl, .inl ⟨i, x, HI.out.1, HI.out.2, hfi, rfl⟩⟩
    · have hfd : decide ((f : Int) ≤ (i : Int)) = false := decide_eq_false (by omega)
      have hfd2 : decide ((i : Int) ≥ (f : Int)) = false := decide_eq_false (by omega)
      have hfd3 : ¬ (f : Int) ≤ (i : Int) := by omega
      go_enter Try.func66, Try.ntmps66
      go_wp2_with (at_lookup; refine wpList_lookup_own_ok_int _ rfl _ _ 58 rfl 9 3 .i64 keyed_name Try.underlying58 Try.underlying3 (zeroI _) bm l.length D rfl HO.out _ _ rfl hkey ?_; intro c hat hwc; obtain rfl := HAT.out c hat; rw [HHAS.out]; clear hat hwc)
      go_ret2
      exact ⟨rfl, .inr ⟨fun j y hj hfj e => hfi (by rw [nodup_at HN.out HI.out.1 hj (HI.out.2.trans e.symm)]; exact hfj), i, rfl⟩⟩
  | false =>
    have HHAS := Lib.hid hh
    have HNO := Lib.hid ((hD.2 s).2 hh)
    clear hh hD hn
    go_enter Try.func66, Try.ntmps66
    go_wp2_with (at_lookup; refine wpList_lookup_own_ok_int _ rfl _ _ 58 rfl 9 3 .i64 keyed_name Try.underlying58 Try.underlying3 (zeroI _) bm l.length D rfl HO.out _ _ rfl hkey ?_; intro c hat hwc; rw [HHAS.out]; clear hat hwc)
    go_ret2
    exact ⟨rfl, .inr ⟨fun j y hj _ e => HNO.out y (List.mem_of_getElem? hj) e, _, rfl⟩⟩
end Go.Proofs.Ytedljdcliilggaa

namespace Go.Proofs.Ytedljdcliilggaa
open Go.RowKit Go.Maps

/-- What root leaves. -/
def RootPost (w0 : World) (fb bm : Nat) (vb vn : Value) (l : List Bn) (p : Pv) (w : World) (e : Ending) (w' : World) : Prop :=
  ∃ (q : Pv) (ps : List Pv), e = .returned q.val ∧ Rooted l p.pt q.pt ∧ q.v.ok w0 ∧ FnAt w0 w' fb bm vb vn l ps ∧ Den l (ps.map Pv.pt) ∧ Step (InNow vn) w0 w w0 w'
theorem five_new (w : World) (x0 x1 x2 x3 x4 : Value) (t : TypeId) : Five (w.alloc (.cells #[x0, x1, x2, x3, x4] t)) w.heap.size 0 x0 x1 x2 x3 x4 := by
  have h := heap_alloc_new w (.cells #[x0, x1, x2, x3, x4] t)
  exact five_of h rfl rfl rfl rfl rfl
theorem Five.sets {w : World} {g : Nat} {x0 x1 x2 x3 x4 : Value} (h : Five w g 0 x0 x1 x2 x3 x4) (y0 y1 y2 y3 y4 : Value) :
    Five (((((w.setCell ⟨g, 0, none⟩ y0).setCell ⟨g, 1, none⟩ y1).setCell ⟨g, 2, none⟩ y2).setCell ⟨g, 3, none⟩ y3).setCell ⟨g, 4, none⟩ y4) g 0 y0 y1 y2 y3 y4 where
  c0 := by
    rw [cell_off g 4 0 (by decide), cell_off g 3 0 (by decide), cell_off g 2 0 (by decide), cell_off g 1 0 (by decide)]
    exact World.cell?_setCell_same _ _ _ h.c0
  c1 := by
    rw [cell_off g 4 (0 + 1) (by decide), cell_off g 3 (0 + 1) (by decide), cell_off g 2 (0 + 1) (by decide)]
    refine World.cell?_setCell_same (u := x1) _ _ _ ?_
    rw [cell_off g 0 1 (by decide)]; exact h.c1
  c2 := by
    rw [cell_off g 4 (0 + 2) (by decide), cell_off g 3 (0 + 2) (by decide)]
    refine World.cell?_setCell_same (u := x2) _ _ _ ?_
    rw [cell_off g 1 2 (by decide), cell_off g 0 2 (by decide)]; exact h.c2
  c3 := by
    rw [cell_off g 4 (0 + 3) (by decide)]
    refine World.cell?_setCell_same (u := x3) _ _ _ ?_
    rw [cell_off g 2 3 (by decide), cell_off g 1 3 (by decide), cell_off g 0 3 (by decide)]; exact h.c3
  c4 := by
    refine World.cell?_setCell_same (u := x4) _ _ _ ?_
    rw [cell_off g 3 4 (by decide), cell_off g 2 4 (by decide), cell_off g 1 4 (by decide), cell_off g 0 4 (by decide)]; exact h.c4
  f0 := by simpa using h.f0
  f1 := by simpa using h.f1
  f2 := by simpa using h.f2
  f3 := by simpa using h.f3
  f4 := by simpa using h.f4
theorem FnAt.box5 {w0 W : World} {fb bm : Nat} {vb vn : Value} {l : List Bn} {ps : List Pv} (h : FnAt w0 W fb bm vb vn l ps) {g : Nat} (hg : ∀ k, InFn fb bm vb vn k → k ≠ g) (i0 i1 i2 i3 i4 : Nat) (u0 u1 u2 u3 u4 : Value) :
    FnAt w0 (((((W.setCell ⟨g, i0, none⟩ u0).setCell ⟨g, i1, none⟩ u1).setCell ⟨g, i2, none⟩ u2).setCell ⟨g, i3, none⟩ u3).setCell ⟨g, i4, none⟩ u4) fb bm vb vn l ps :=
  h.same (Reads.refl _) (fun _ _ h => h) fun k hk => by
    rw [Below.heap_setCell _ _ _ _ (hg k hk), Below.heap_setCell _ _ _ _ (hg k hk), Below.heap_setCell _ _ _ _ (hg k hk), Below.heap_setCell _ _ _ _ (hg k hk), Below.heap_setCell _ _ _ _ (hg k hk)]
theorem FnAt.box4 {w0 W : World} {fb bm : Nat} {vb vn : Value} {l : List Bn} {ps : List Pv} (h : FnAt w0 W fb bm vb vn l ps) {g : Nat} (hg : ∀ k, InFn fb bm vb vn k → k ≠ g) (i0 i1 i2 i3 : Nat) (u0 u1 u2 u3 : Value) :
    FnAt w0 ((((W.setCell ⟨g, i0, none⟩ u0).setCell ⟨g, i1, none⟩ u1).setCell ⟨g, i2, none⟩ u2).setCell ⟨g, i3, none⟩ u3) fb bm vb vn l ps :=
  h.same (Reads.refl _) (fun _ _ h => h) fun k hk => by
    rw [Below.heap_setCell _ _ _ _ (hg k hk), Below.heap_setCell _ _ _ _ (hg k hk), Below.heap_setCell _ _ _ _ (hg k hk), Below.heap_setCell _ _ _ _ (hg k hk)]
/-- A part written anew by what root tells of it. -/
theorem root_put {w0 w1 w4 w5 : World} {fb bm g m cn i f : Nat} {vb : Value} {l : List Bn} {ps4 : List Pv} {pi pj q : Pv} {x : Bn} {t : Tm} (hF : FnAt w0 w4 fb bm vb (.slice (some ⟨g, 0, none⟩) m cn) l ps4) (hD : Den l (ps4.map Pv.pt)) (hst : Step (InNow (.slice (some ⟨g, 0, none⟩) m cn)) w0 w1 w0 w4) (hpj : ps4[i]? = some pj)
    (hr : Rooted l pi.pt q.pt) (hq : q.v.ok w0) (hx : l[i]? = some x) (hw : pi.pt.whole l = (⟨t, f⟩ : Pt).whole l) (hlt : f ≤ pi.f) (hii : i < pi.f) (hdn : pi.pt.whole l = appR (l.drop (i + 1)) x.2)
    (hw5 : w5 = (((((w4.setCell ⟨g, i * 5, none⟩ (.int .i64 q.v.t.kind)).setCell ⟨g, i * 5 + 1, none⟩ (.string q.v.t.name)).setCell ⟨g, i * 5 + 2, none⟩ (.int .i64 q.v.t.n)).setCell ⟨g, i * 5 + 3, none⟩ (.slice q.v.a q.v.t.args.length q.v.c)).setCell ⟨g, i * 5 + 4, none⟩ (.int .i64 q.f))) :
    (ps4.set i q)[i]? = some q ∧ FnAt w0 w5 fb bm vb (.slice (some ⟨g, 0, none⟩) m cn) l (ps4.set i q) ∧ (Den l ((ps4.set i q).map Pv.pt) ∧ Rooted l ⟨t, f⟩ q.pt) ∧ Step (InNow (.slice (some ⟨g, 0, none⟩) m cn)) w0 w1 w0 w5 := by
  have hil := (List.getElem?_eq_some_iff.1 hpj).1
  have hbl := hF.bln g rfl
  refine ⟨by rw [List.getElem?_set, if_pos rfl, if_pos hil], hF.put q hq hil hw5, ⟨?_, ?_⟩, ?_⟩
  · rw [List.map_set]
    have e : (ps4.map Pv.pt)[i]? = some pj.pt := by rw [List.getElem?_map, hpj]; rfl
    refine hD.set e (Nat.lt_of_lt_of_le hii hr.late) hr.to_ hr.plain ?_
    rw [hr.same, hdn, hD.den i _ x e hx]
  · exact ⟨hr.same.trans hw, Nat.le_trans hlt hr.late, hr.to_, hr.plain, hr.free⟩
  · rw [hw5]
    exact step_five hst hbl (fun _ => rfl) _ _ _ _ _ _ _ _ _ _
set_option maxRecDepth 100000 in
set_option maxHeartbeats 8000000 in
theorem root_any (w0 : World) (fb bm : Nat) (vb vn : Value) (l : List Bn) (hnd : (l.map Prod.fst).Nodup) (hlen : l.length ≤ 900) : ∀ (d : Nat) (p : Pv) (ps : List Pv) (w : World), l.length - p.f ≤ d → p.f ≤ l.length → PlainT p.v.t → p.v.ok w0 → Reads w0 w → FnAt w0 w fb bm vb vn l ps → Den l (ps.map Pv.pt) →
    Calls Try.prog 53 #[.pointer (some ⟨fb, 0, none⟩), p.val] w (RootPost w0 fb bm vb vn l p w) := by
  intro d
  induction d using Nat.strongRecOn with
  | _ d ih =>
    intro p ps w hd hpf hpl hpo hr hF hden
    obtain ⟨⟨t, a, c⟩, f⟩ := p
    simp only at hd hpf hpl hpo
    have b1 := (five_new w (.int .i64 t.kind) (.string t.name) (.int .i64 t.n) (.slice a t.args.length c) (.int .i64 f) 83).same (W := (w.alloc (.cells #[.int .i64 t.kind, .string t.name, .int .i64 t.n, .slice a t.args.length c, .int .i64 f] 83)).alloc (.cells #[.int .i64 0, .string ⟨#[]⟩, .int .i64 0, .slice none 0 0, .int .i64 0] 83)) (Below.heap_alloc _ _ _ (by simp))
    have b2 := five_new (w.alloc (.cells #[.int .i64 t.kind, .string t.name, .int .i64 t.n, .slice a t.args.length c, .int .i64 f] 83)) (.int .i64 0) (.string ⟨#[]⟩) (.int .i64 0) (.slice none 0 0) (.int .i64 0) 83
    have hB2 := below_two w (.cells #[.int .i64 t.kind, .string t.name, .int .i64 t.n, .slice a t.args.length c, .int .i64 f] 83) (.cells #[.int .i64 0, .string ⟨#[]⟩, .int .i64 0, .slice none 0 0, .int .i64 0] 83)
    have hz1 : (w.alloc (.cells #[.int .i64 t.kind, .string t.name, .int .i64 t.n, .slice a t.args.length c, .int .i64 f] 83)).heap.size = w.heap.size + 1 := by simp
    rw [hz1] at b2
    obtain ⟨wz, hwz⟩ : ∃ wz, wz = ((w.alloc (.cells #[.int .i64 t.kind, .string t.name, .int .i64 t.n, .slice a t.args.length c, .int .i64 f] 83)).alloc (.cells #[.int .i64 0, .string ⟨#[]⟩, .int .i64 0, .slice none 0 0, .int .i64 0] 83)) := ⟨_, rfl⟩
    have hzs : wz.heap.size = w.heap.size + 2 := by rw [hwz]; simp
    rw [← hwz] at b1 b2 hB2
    have HF := Lib.hid (hF.below hB2)
    have HF0 := Lib.hid hF
    have hst : Step (InNow vn) w0 w w0 wz := step_below hr hB2
    have HST := Lib.hid hst
    have HZS := Lib.hid hzs
    have HB1 := Lib.hid b1
    have HB2 := Lib.hid b2
    have HPO := Lib.hid hpo
    have HDEN := Lib.hid hden
    have HPL := Lib.hid hpl
    have HR := Lib.hid hr
    obtain ⟨p0, p1, p2, p3, p4, _, _, _, _, _⟩ := b1
    obtain ⟨q0, q1, q2, q3, q4, g0, g1, g2, g3, g4⟩ := b2
    simp only [Nat.zero_add] at p1 p2 p3 p4 q1 q2 q3 q4 g1 g2 g3 g4
    -- the part itself, where nothing is to be put in
    have SELF := Lib.hid (fun (hk : t.kind = 1 → ∀ j y, l[j]? = some y → f ≤ j → y.1 ≠ t.name) => (show RootPost w0 fb bm vb vn l ⟨⟨t, a, c⟩, f⟩ w (.returned (Pv.val ⟨⟨t, a, c⟩, f⟩)) (((((wz.setCell ⟨w.heap.size + 1, 0, none⟩ (.int .i64 t.kind)).setCell ⟨w.heap.size + 1, 1, none⟩ (.string t.name)).setCell ⟨w.heap.size + 1, 2, none⟩ (.int .i64 t.n)).setCell ⟨w.heap.size + 1, 3, none⟩ (.slice a t.args.length c)).setCell ⟨w.heap.size + 1, 4, none⟩ (.int .i64 f)) from by
      have hbl : Blind w0 (w.heap.size + 1) := blind_new (by have := hr.size; omega)
      have hs2 := step_five hst (g := w.heap.size + 1) hbl (fun h => by omega) 0 1 2 3 4 (.int .i64 t.kind) (.string t.name) (.int .i64 t.n) (.slice a t.args.length c) (.int .i64 f)
      exact ⟨⟨⟨t, a, c⟩, f⟩, ps, rfl, ⟨rfl, Nat.le_refl _, hpf, hpl, hk⟩, hpo, hF.same (Reads.refl _) (fun _ _ h => h) (fun k hk => by
        have hlt := hF.lt hk
        have hne : k ≠ w.heap.size + 1 := by omega
        rw [Below.heap_setCell _ _ _ _ hne, Below.heap_setCell _ _ _ _ hne, Below.heap_setCell _ _ _ _ hne, Below.heap_setCell _ _ _ _ hne, Below.heap_setCell _ _ _ _ hne]
        exact hB2.block k hlt), hden, hs2⟩))
    have hsz : t.name.size ≤ 9223372036854775807 := hpo.1.len
    have BD := Lib.hid (bound_any HF.out hnd (by omega) t.name hsz f (by omega))
    have IH := Lib.hid ih
    clear hF hst hzs hpo hden hpl hr hB2 hz1 ih
    simp only [Pv.val] at SELF ⊢
    by_cases hk : t.kind = 1
    · have hkd : (t.kind != 1) = false := by rw [hk]; rfl
      have HK := Lib.hid hk
      clear hk
      go_enter Try.func53, Try.ntmps53
      go_wp2_with fail
      rw [← hwz]
      clear hwz
      refine BD.out.mono ?_; rintro e w1 ⟨rfl, ⟨i, x, hi, hx, hfi, rfl⟩ | ⟨hno, ci, rfl⟩⟩
      · have hil := (List.getElem?_eq_some_iff.1 hi).1
        have hpl : ps.length = l.length := by have := HDEN.out.len; rwa [List.length_map] at this
        obtain ⟨ab, cb, an, cn, rfl, rfl, hang⟩ := HF.out.len
        obtain ⟨g, rfl⟩ := hang (by omega)
        obtain ⟨pi, hpi⟩ : ∃ pi, ps[i]? = some pi := ⟨_, List.getElem?_eq_getElem (by omega)⟩
        have hpt : (ps.map Pv.pt)[i]? = some pi.pt := by rw [List.getElem?_map, hpi]; rfl
        obtain ⟨hl1, hl2⟩ := HDEN.out.late i _ hpt
        have hpp := HDEN.out.plain _ (List.mem_of_getElem? hpt)
        have hpo := HF.out.good pi (List.mem_of_getElem? hpi)
        have hwd : Below w1.heap.size w1 w1.drew := (Below.refl _ _).drew
        have C6 := Lib.hid (IH.out (l.length - pi.f) (by have : pi.pt.f = pi.f := rfl; omega) pi ps w1.drew (Nat.le_refl _) hl2 hpp hpo (HST.out.on.trans (reads_below hwd)) (HF.out.below hwd) HDEN.out)
        have WH := Lib.hid (whole_hit HDEN.out hnd (p := ⟨t, f⟩) HPL.out HK.out hi hx hfi hpt)
        have HLT := Lib.hid (show f ≤ pi.f ∧ i < pi.f ∧ pi.pt.whole l = appR (l.drop (i + 1)) x.2 from ⟨by have : pi.pt.f = pi.f := rfl; omega, hl1, HDEN.out.den i _ x hpt hi⟩)
        have HSD := Lib.hid ((HST.out).below hwd)
        obtain ⟨n0, n1, n2, n3, n4, _, _, _, _, _⟩ := now_five HF.out.now hpi
        obtain ⟨_, _, z2, _, _, _⟩ := three_of HF.out.box
        obtain ⟨_, _, y2, _, _, _⟩ := three_of (HF.out.below hwd).box
        have hk0 : (0 : Int) ≤ (i : Int) := by omega
        have hk1 : (i : Int) < (ps.length : Int) := by omega
        have hil2 : i < ps.length := by omega
        have hg : g < w1.heap.size := lt_of_cell n0
        have hfb : fb < w1.heap.size := lt_of_cell z2
        obtain ⟨⟨ti, ai, ci⟩, fi⟩ := pi
        have HIL := Lib.hid hil
        have HI := Lib.hid (And.intro hi (And.intro hpi (And.intro hil hpl)))
        simp only [Pv.val] at *
        clear SELF hl1 hl2 hpp hpo hwd hi hx hpi hpt hpl hang
        go_wp2_with fail
        go_region_with (first
          | (go_at_call 53; refine C6.out.mono ?_; rintro e w4 ⟨⟨⟨tq, aq, cq⟩, fq⟩, ps4, rfl, hrt, hqo, hF4, hden4, hst4⟩; simp only [Pv.val]; have e4 : ps4.length = l.length := (by have := hden4.len; rwa [List.length_map] at this); obtain ⟨pj, hpj⟩ : ∃ pj, ps4[i]? = some pj := ⟨_, List.getElem?_eq_getElem (by rw [e4]; exact HIL.out)⟩; obtain ⟨r0, r1, r2, r3, r4, k0, k1, k2, k3, k4⟩ := now_five hF4.now hpj; obtain ⟨_, _, x2, _, _, _⟩ := three_of hF4.box; have H4 := Lib.hid (And.intro hF4 (And.intro hden4 (And.intro hst4 (And.intro hpj e4)))); have H5 := Lib.hid (And.intro hrt hqo); have hg4 : g < w4.heap.size := lt_of_cell r0; clear hF4 hden4 hst4 hpj e4 hrt hqo C6 n0 n1 n2 n3 n4))
        all_goals
          obtain ⟨w5, hw5⟩ : ∃ w5, w5 = (((((w4.setCell ⟨g, i * 5, none⟩ (.int .i64 tq.kind)).setCell ⟨g, i * 5 + 1, none⟩ (.string tq.name)).setCell ⟨g, i * 5 + 2, none⟩ (.int .i64 tq.n)).setCell ⟨g, i * 5 + 3, none⟩ (.slice aq tq.args.length cq)).setCell ⟨g, i * 5 + 4, none⟩ (.int .i64 fq)) := ⟨_, rfl⟩
          rw [← hw5]
          have HE := Lib.hid (root_put H4.out.1 H4.out.2.1 H4.out.2.2.1 H4.out.2.2.2.1 H5.out.1 H5.out.2 HI.out.1 WH.out HLT.out.1 HLT.out.2.1 HLT.out.2.2 hw5)
          have hB5 : Five w5 (w.heap.size + 1) 0 (.int .i64 0) (.string ⟨#[]⟩) (.int .i64 0) (.slice none 0 0) (.int .i64 0) := HB2.out.same ((HE.out.2.2.2.keep (w.heap.size + 1) (by show _ < w1.heap.size; have := HZS.out; omega) (fun h => by
            have hgg : g = w.heap.size + 1 := Option.some.inj h
            have hgl : g < w.heap.size := HF0.out.lt (.inr (.inr (.inr (rfl : (Value.slice (some ⟨g, 0, none⟩) ps.length cn).ownBlock = some g))))
            omega)))
          have HB5 := Lib.hid hB5
          obtain ⟨r0, r1, r2, r3, r4, _, _, _, _, _⟩ := now_five HE.out.2.1.now HE.out.1
          obtain ⟨_, _, x2, _, _, _⟩ := three_of HE.out.2.1.box
          simp only at r0 r1 r2 r3 r4
          have hg5 : g < w5.heap.size := lt_of_cell r0
          have hr5 : w.heap.size + 1 < w5.heap.size := lt_of_cell hB5.c0
          obtain ⟨q0, q1, q2, q3, q4, g0, g1, g2, g3, g4⟩ := hB5
          simp only [Nat.zero_add] at q1 q2 q3 q4 g1 g2 g3 g4
          clear hw5 H4 k0 k1 k2 k3 k4 hg4
          go_wp2_with fail
          obtain ⟨q0, q1, q2, q3, q4, _, _, _, _, _⟩ := HB5.out.sets (.int .i64 tq.kind) (.string tq.name) (.int .i64 tq.n) (.slice aq tq.args.length cq) (.int .i64 fq)
          simp only [Nat.zero_add] at q1 q2 q3 q4
          refine bodyPost_ret (v := .agg #[.int .i64 tq.kind, .string tq.name, .int .i64 tq.n, .slice aq tq.args.length cq, .int .i64 fq]) (by simp [results, Try.results53, go_sem, q0, q1, q2, q3, q4]) rfl ?_
          exact ⟨⟨⟨tq, aq, cq⟩, fq⟩, ps4.set i ⟨⟨tq, aq, cq⟩, fq⟩, rfl, HE.out.2.2.1.2, H5.out.2, HE.out.2.1.box5 (g := w.heap.size + 1) (fun k hk => by have := HF0.out.lt hk; omega) _ _ _ _ _ _ _ _ _ _, HE.out.2.2.1.1, step_five (HSD.out.trans HE.out.2.2.2) (blind_new (by have := HR.out.size; omega)) (fun h => by omega) _ _ _ _ _ _ _ _ _ _⟩
      · have HS := Lib.hid (SELF.out (fun _ => hno))
        clear SELF
        go_wp2_with fail
        have b2 := (HB2.out.sets (.int .i64 t.kind) (.string t.name) (.int .i64 t.n) (.slice a t.args.length c) (.int .i64 f))
        obtain ⟨q0, q1, q2, q3, q4, _, _, _, _, _⟩ := b2
        refine bodyPost_ret (v := .agg #[.int .i64 t.kind, .string t.name, .int .i64 t.n, .slice a t.args.length c, .int .i64 f]) (by simp [results, Try.results53, go_sem, q0, q1, q2, q3, q4]) rfl ?_
        exact HS.out
    · have hkd : (t.kind != 1) = true := by simpa using hk
      have HPL2 := Lib.hid hk
      clear SELF hk
      go_enter Try.func53, Try.ntmps53
      go_wp2_with fail
      have hB3 := below_two w (.cells #[.int .i64 t.kind, .string t.name, .int .i64 t.n, .slice a t.args.length c, .int .i64 f] 83) (.cells #[.int .i64 t.kind, .string t.name, .int .i64 t.n, .slice a t.args.length c, .int .i64 f] 83)
      have hz1 : (w.alloc (.cells #[.int .i64 t.kind, .string t.name, .int .i64 t.n, .slice a t.args.length c, .int .i64 f] 83)).heap.size = w.heap.size + 1 := by simp
      have b2 := five_new (w.alloc (.cells #[.int .i64 t.kind, .string t.name, .int .i64 t.n, .slice a t.args.length c, .int .i64 f] 83)) (.int .i64 t.kind) (.string t.name) (.int .i64 t.n) (.slice a t.args.length c) (.int .i64 f) 83
      rw [hz1] at b2
      obtain ⟨q0, q1, q2, q3, q4, _, _, _, _, _⟩ := b2
      simp only [Nat.zero_add] at q1 q2 q3 q4
      refine bodyPost_ret (v := .agg #[.int .i64 t.kind, .string t.name, .int .i64 t.n, .slice a t.args.length c, .int .i64 f]) (by simp [results, Try.results53, go_sem, q0, q1, q2, q3, q4]) rfl ?_
      exact ⟨⟨⟨t, a, c⟩, f⟩, ps, rfl, ⟨rfl, Nat.le_refl _, hpf, HPL.out, fun h => absurd h HPL2.out⟩, HPO.out, HF0.out.below hB3, HDEN.out, step_below HR.out hB3⟩
end Go.Proofs.Ytedljdcliilggaa
