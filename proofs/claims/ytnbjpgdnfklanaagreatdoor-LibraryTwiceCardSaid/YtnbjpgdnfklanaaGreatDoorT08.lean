/-
  Functions added, joined, and those of a term: what is answered, and how it hangs together, as data. No function of the program.
  Primitives used one behind the other: what a theory has then. No function of the program.
-/
import Derived.Test.YtnbjpgdnfklanaaGreatDoorT06
import Derived.Test.YtnbjpgdnfklanaaGreatDoorT07
import Derived.Test.YtnbjpgdnfklanaaGreatDoorT01
namespace Go.Proofs.YtnbjpgdnfklanaaGreatDoor
open Go.RowKit
def AddPost (fs : List Fn) (f : Fn) (w : World) (e : Ending) (w' : World) : Prop := ∃ v, e = .returned (.tuple #[v, .int .i64 (addE fs f)]) ∧ Fus w' v (addL fs f) ∧ Below w.heap.size w w'
theorem add_bad {fs : List Fn} {f : Fn} {w w' : World} {n : Int} (h : addE fs f = n) (hn : n ≠ 0) (hb : Below w.heap.size w w') : AddPost fs f w (.returned (.tuple #[.slice none 0 0, .int .i64 n])) w' :=
  ⟨_, by rw [h], by rw [addL_bad (by rw [h]; exact hn)]; exact Fus.none_ _ _ _, hb⟩
def JoinPost (fs bs : List Fn) (w : World) (e : Ending) (w' : World) : Prop := ∃ v, e = .returned (.tuple #[v, .int .i64 (joinE fs bs)]) ∧ Fus w' v (joinL fs bs) ∧ Below w.heap.size w w'
theorem dropF_cons {bs : List Fn} {k : Nat} {x : Fn} (hk : bs[k]? = some x) : bs.drop k = x :: bs.drop (k + 1) := by
  obtain ⟨hl, rfl⟩ := List.getElem?_eq_some_iff.1 hk
  exact List.drop_eq_getElem_cons hl
theorem join_has {fs os bs : List Fn} {k : Nat} {x : Fn} (hk : bs[k]? = some x) (h : hasFn fs x = true) : joinR fs os (bs.drop k) = joinR fs os (bs.drop (k + 1)) := by
  rw [dropF_cons hk, joinR, if_pos h]
theorem join_add {fs os bs : List Fn} {k : Nat} {x : Fn} (hk : bs[k]? = some x) (h : hasFn fs x = false) (h0 : addE os x = 0) : joinR fs os (bs.drop k) = joinR fs (os ++ [x]) (bs.drop (k + 1)) := by
  rw [dropF_cons hk, joinR, if_neg (by rw [h]; simp), if_pos h0]
theorem join_err {fs os bs : List Fn} {k : Nat} {x : Fn} (hk : bs[k]? = some x) (h : hasFn fs x = false) (h0 : addE os x ≠ 0) : joinR fs os (bs.drop k) = (addE os x, []) := by
  rw [dropF_cons hk, joinR, if_neg (by rw [h]; simp), if_neg h0]
def fitsR (fs : List Fn) (t : Tm) : List (List Int) → Int × List Int
  | [] => (0, [])
  | p :: r => match arF fs ((atT t p).getD zeroT).name with
    | none => (4, p)
    | some n => if n = ((atT t p).getD zeroT).args.length then fitsR fs t r else (5, p)
def fitsF (fs : List Fn) (t : Tm) : Int × List Int := fitsR fs t (innerT t)
def FitsPost (fs : List Fn) (t : Tm) (w : World) (e : Ending) (w' : World) : Prop := ∃ v, e = .returned (.tuple #[.int .i64 (fitsF fs t).1, v]) ∧ Nums w' v (fitsF fs t).2 ∧ Below w.heap.size w w'
theorem fits_none {fs : List Fn} {t : Tm} {l : List (List Int)} {k : Nat} {p : List Int} (hk : l[k]? = some p) (h : arF fs ((atT t p).getD zeroT).name = none) : fitsR fs t (l.drop k) = (4, p) := by
  obtain ⟨hl, rfl⟩ := List.getElem?_eq_some_iff.1 hk
  rw [List.drop_eq_getElem_cons hl, fitsR, h]
theorem fits_same {fs : List Fn} {t : Tm} {l : List (List Int)} {k : Nat} {p : List Int} {n : Int} (hk : l[k]? = some p) (h : arF fs ((atT t p).getD zeroT).name = some n) (hn : n = ((atT t p).getD zeroT).args.length) : fitsR fs t (l.drop k) = fitsR fs t (l.drop (k + 1)) := by
  obtain ⟨hl, rfl⟩ := List.getElem?_eq_some_iff.1 hk
  rw [List.drop_eq_getElem_cons hl, fitsR, h]
  exact if_pos hn
theorem fits_other {fs : List Fn} {t : Tm} {l : List (List Int)} {k : Nat} {p : List Int} {n : Int} (hk : l[k]? = some p) (h : arF fs ((atT t p).getD zeroT).name = some n) (hn : n ≠ ((atT t p).getD zeroT).args.length) : fitsR fs t (l.drop k) = (5, p) := by
  obtain ⟨hl, rfl⟩ := List.getElem?_eq_some_iff.1 hk
  rw [List.drop_eq_getElem_cons hl, fitsR, h]
  exact if_neg hn
theorem nums_none (w : World) : Nums w (.slice none 0 0) [] := ⟨none, 0, rfl, Nat.le_refl _, by omega, fun n hn => (by cases hn), .inl rfl⟩
theorem join_keep : ∀ (fs bs os : List Fn), (joinR fs os bs).1 = 0 → ∀ f ∈ os, f ∈ (joinR fs os bs).2
  | fs, [], os, _, f, hf => by rw [joinR]; exact hf
  | fs, b :: r, os, h, f, hf => by
    rw [joinR] at h ⊢
    split at h
    · next hh => rw [if_pos hh]; exact join_keep fs r os h f hf
    · next hh =>
      rw [if_neg hh]
      split at h
      · next h0 => rw [if_pos h0]; exact join_keep fs r _ h f (List.mem_append_left _ hf)
      · next h0 => exact absurd h h0
theorem join_all : ∀ (fs bs os : List Fn), (∀ f ∈ fs, f ∈ os) → (joinR fs os bs).1 = 0 → ∀ f ∈ bs, f ∈ (joinR fs os bs).2
  | fs, [], os, _, _, f, hf => by cases hf
  | fs, b :: r, os, hos, h, f, hf => by
    rw [joinR] at h ⊢
    split at h
    · next hh =>
      rw [if_pos hh]
      rcases List.mem_cons.1 hf with rfl | hf
      · exact join_keep fs r os h f (hos f (hasFn_iff.1 hh))
      · exact join_all fs r os hos h f hf
    · next hh =>
      rw [if_neg hh]
      split at h
      · next h0 =>
        rw [if_pos h0]
        rcases List.mem_cons.1 hf with rfl | hf
        · exact join_keep fs r _ h f (List.mem_append_right _ (List.mem_singleton.2 rfl))
        · exact join_all fs r _ (fun g hg => List.mem_append_left _ (hos g hg)) h f hf
      · next h0 => exact absurd h h0
theorem join_same : ∀ (fs bs os : List Fn), (∀ f ∈ bs, f ∈ fs) → joinR fs os bs = (0, os)
  | fs, [], os, _ => by rw [joinR]
  | fs, b :: r, os, h => by
    rw [joinR, if_pos (hasFn_iff.2 (h b (List.mem_cons_self ..)))]
    exact join_same fs r os (fun f hf => h f (List.mem_cons_of_mem _ hf))
theorem join_mem : ∀ (fs bs os : List Fn) (f : Fn), f ∈ (joinR fs os bs).2 → f ∈ os ∨ f ∈ bs
  | fs, [], os, f, h => by rw [joinR] at h; exact .inl h
  | fs, b :: r, os, f, h => by
    rw [joinR] at h
    split at h
    · rcases join_mem fs r os f h with h | h
      · exact .inl h
      · exact .inr (List.mem_cons_of_mem _ h)
    · split at h
      · rcases join_mem fs r _ f h with h | h
        · rcases List.mem_append.1 h with h | h
          · exact .inl h
          · exact .inr (by rw [List.mem_singleton.1 h]; exact List.mem_cons_self ..)
        · exact .inr (List.mem_cons_of_mem _ h)
      · cases h
mutual
theorem places_at : ∀ t : Tm, (placesT t).map (fun p => (atT t p).getD zeroT) = t.all
  | .mk k s n xs => by
    rw [placesT, List.map_cons, atT_nil, all_eq]
    congr 1
    have h := places_atL xs xs 0 (fun j hj => ⟨by simpa using hj, by simp⟩) (.mk k s n xs) rfl
    exact h
theorem places_atL : ∀ (l ys : List Tm) (i : Nat), (∀ j (h : j < l.length), ∃ h2 : i + j < ys.length, ys[i + j] = l[j]) → ∀ t : Tm, t.args = ys → (placesL i l).map (fun p => (atT t p).getD zeroT) = allL l
  | [], _, _, _, _, _ => by rw [placesL, allL]; rfl
  | x :: r, ys, i, h, t, ht => by
    rw [placesL, List.map_append, List.map_map, allL]
    obtain ⟨h2, h3⟩ := h 0 (by simp)
    congr 1
    · rw [← places_at x]
      refine List.map_congr_left fun p _ => ?_
      show (atT t ((i : Int) :: p)).getD zeroT = _
      have hi : i < t.args.length := by rw [ht]; exact h2
      rw [atT_in hi]
      have : t.args[i] = x := by
        simp only [ht]
        exact h3
      rw [this]
    · exact places_atL r ys (i + 1) (fun j hj => by
        obtain ⟨g1, g2⟩ := h (j + 1) (by simpa using hj)
        have e : i + 1 + j = i + (j + 1) := by omega
        exact ⟨by omega, by simp only [e]; rw [g2]; rfl⟩) t ht
end
theorem inner_at (t : Tm) : (innerT t).map (fun p => (atT t p).getD zeroT) = t.all.filter fun x => x.kind == 5 := by
  rw [← places_at t, List.filter_map]; rfl
theorem fitsR_ok {fs : List Fn} {t : Tm} : ∀ {l : List (List Int)}, (fitsR fs t l).1 = 0 ↔ ∀ p ∈ l, arF fs ((atT t p).getD zeroT).name = some (((atT t p).getD zeroT).args.length : Int)
  | [] => by rw [fitsR]; simp
  | p :: r => by
    rw [fitsR]
    cases h : arF fs ((atT t p).getD zeroT).name with
    | none => simp [h]
    | some n =>
      by_cases hn : n = (((atT t p).getD zeroT).args.length : Int)
      · rw [show (match some n with | none => ((4 : Int), p) | some n => if n = (((atT t p).getD zeroT).args.length : Int) then fitsR fs t r else (5, p)) = fitsR fs t r from if_pos hn, fitsR_ok (l := r)]
        constructor
        · intro hr q hq
          rcases List.mem_cons.1 hq with rfl | hq
          · rw [h, hn]
          · exact hr q hq
        · intro hr q hq
          exact hr q (List.mem_cons_of_mem _ hq)
      · rw [show (match some n with | none => ((4 : Int), p) | some n => if n = (((atT t p).getD zeroT).args.length : Int) then fitsR fs t r else (5, p)) = (5, p) from if_neg hn]
        constructor
        · intro hr; exact absurd (show (5 : Int) = 0 from hr) (by decide)
        · intro hr
          have := hr p (List.mem_cons_self ..)
          rw [h] at this
          exact absurd (Option.some.inj this) hn
theorem fitsF_ok {fs : List Fn} {t : Tm} : (fitsF fs t).1 = 0 ↔ ∀ x ∈ t.all, x.kind = 5 → arF fs x.name = some (x.args.length : Int) := by
  unfold fitsF
  rw [fitsR_ok]
  have hm := inner_at t
  constructor
  · intro h x hx hk
    have hxm : x ∈ (innerT t).map (fun p => (atT t p).getD zeroT) := by
      rw [hm]; exact List.mem_filter.2 ⟨hx, by rw [hk]; rfl⟩
    obtain ⟨p, hp, rfl⟩ := List.mem_map.1 hxm
    exact h p hp
  · intro h p hp
    have hxm : (atT t p).getD zeroT ∈ t.all.filter fun x => x.kind == 5 := by
      rw [← hm]; exact List.mem_map.2 ⟨p, hp, rfl⟩
    obtain ⟨h1, h2⟩ := List.mem_filter.1 hxm
    exact h _ h1 (by simpa using h2)
theorem arF_mem {fs : List Fn} {s : ByteArray} {n : Int} (h : arF fs s = some n) : (s, n) ∈ fs := by
  unfold arF at h
  obtain ⟨x, hx, rfl⟩ := Option.map_eq_some_iff.1 h
  have h1 := List.find?_some hx
  rw [toList_iff] at h1
  have h2 := List.mem_of_find?_eq_some hx
  obtain ⟨a, b⟩ := x
  simp only at h1
  subst h1; exact h2
theorem arF_is {fs : List Fn} {s : ByteArray} {n : Int} (h : (s, n) ∈ fs) : ∃ m, arF fs s = some m := by
  unfold arF
  cases hf : fs.find? (fun x => x.1.toList == s.toList) with
  | some x => exact ⟨x.2, rfl⟩
  | none =>
    have := List.find?_eq_none.1 hf (s, n) h
    simp at this
end Go.Proofs.YtnbjpgdnfklanaaGreatDoor

namespace Go.Proofs.YtnbjpgdnfklanaaGreatDoor
open Go.RowKit
def allFns : List Fn := fsPair ++ (fsSenc ++ (fsRenc ++ (fsAenc ++ (fsRaenc ++ (fsSign ++ (fsHash ++ (fsBlind ++ fsWrap)))))))
def allRls : List Rl := rsPair ++ (rsSenc ++ (rsRenc ++ (rsAenc ++ (rsRaenc ++ (rsSign ++ (rsHash ++ (rsBlind ++ rsWrap)))))))
theorem tx_pair : libT nmPair = txPair := by kernel_rfl
theorem tx_senc : libT nmSenc = txSenc := by kernel_rfl
theorem tx_renc : libT nmRenc = txRenc := by kernel_rfl
theorem tx_aenc : libT nmAenc = txAenc := by kernel_rfl
theorem tx_raenc : libT nmRaenc = txRaenc := by kernel_rfl
theorem tx_sign : libT nmSign = txSign := by kernel_rfl
theorem tx_hash : libT nmHash = txHash := by kernel_rfl
theorem tx_blind : libT nmBlind = txBlind := by kernel_rfl
theorem tx_wrap : libT nmWrap = txWrap := by kernel_rfl
theorem entF_pair : entF nmPair = fsPair := by unfold entF; rw [tx_pair]; exact fsPair_is.2.1
theorem entF_senc : entF nmSenc = fsSenc := by unfold entF; rw [tx_senc]; exact fsSenc_is.2.1
theorem entF_renc : entF nmRenc = fsRenc := by unfold entF; rw [tx_renc]; exact fsRenc_is.2.1
theorem entF_aenc : entF nmAenc = fsAenc := by unfold entF; rw [tx_aenc]; exact fsAenc_is.2.1
theorem entF_raenc : entF nmRaenc = fsRaenc := by unfold entF; rw [tx_raenc]; exact fsRaenc_is.2.1
theorem entF_sign : entF nmSign = fsSign := by unfold entF; rw [tx_sign]; exact fsSign_is.2.1
theorem entF_hash : entF nmHash = fsHash := by unfold entF; rw [tx_hash]; exact fsHash_is.2.1
theorem entF_blind : entF nmBlind = fsBlind := by unfold entF; rw [tx_blind]; exact fsBlind_is.2.1
theorem entF_wrap : entF nmWrap = fsWrap := by unfold entF; rw [tx_wrap]; exact fsWrap_is.2.1
theorem entR_pair : entR nmPair = rsPair := by unfold entR; rw [tx_pair]; exact fsPair_is.2.2
theorem entR_senc : entR nmSenc = rsSenc := by unfold entR; rw [tx_senc]; exact fsSenc_is.2.2
theorem entR_renc : entR nmRenc = rsRenc := by unfold entR; rw [tx_renc]; exact fsRenc_is.2.2
theorem entR_aenc : entR nmAenc = rsAenc := by unfold entR; rw [tx_aenc]; exact fsAenc_is.2.2
theorem entR_raenc : entR nmRaenc = rsRaenc := by unfold entR; rw [tx_raenc]; exact fsRaenc_is.2.2
theorem entR_sign : entR nmSign = rsSign := by unfold entR; rw [tx_sign]; exact fsSign_is.2.2
theorem entR_hash : entR nmHash = rsHash := by unfold entR; rw [tx_hash]; exact fsHash_is.2.2
theorem entR_blind : entR nmBlind = rsBlind := by unfold entR; rw [tx_blind]; exact fsBlind_is.2.2
theorem entR_wrap : entR nmWrap = rsWrap := by unfold entR; rw [tx_wrap]; exact fsWrap_is.2.2
theorem lib_each {P : ByteArray → Prop} (h1 : P nmPair) (h2 : P nmSenc) (h3 : P nmRenc) (h4 : P nmAenc) (h5 : P nmRaenc) (h6 : P nmSign) (h7 : P nmHash) (h8 : P nmBlind) (h9 : P nmWrap) (s : ByteArray) (hs : s ∈ libN) : P s := by
  unfold libN at hs
  simp only [List.mem_cons, List.not_mem_nil, or_false] at hs
  rcases hs with rfl | rfl | rfl | rfl | rfl | rfl | rfl | rfl | rfl <;> assumption
def eachOk (P : List Fn → List Rl → Bool) : Bool := P fsPair rsPair && P fsSenc rsSenc && P fsRenc rsRenc && P fsAenc rsAenc && P fsRaenc rsRaenc && P fsSign rsSign && P fsHash rsHash && P fsBlind rsBlind && P fsWrap rsWrap
theorem each_of {P : List Fn → List Rl → Bool} (h : eachOk P = true) (s : ByteArray) (hs : s ∈ libN) : P (entF s) (entR s) = true := by
  unfold eachOk at h
  simp only [Bool.and_eq_true] at h
  obtain ⟨⟨⟨⟨⟨⟨⟨⟨h1, h2⟩, h3⟩, h4⟩, h5⟩, h6⟩, h7⟩, h8⟩, h9⟩ := h
  refine lib_each (P := fun s => P (entF s) (entR s) = true) ?_ ?_ ?_ ?_ ?_ ?_ ?_ ?_ ?_ s hs
  · rw [entF_pair, entR_pair]; exact h1
  · rw [entF_senc, entR_senc]; exact h2
  · rw [entF_renc, entR_renc]; exact h3
  · rw [entF_aenc, entR_aenc]; exact h4
  · rw [entF_raenc, entR_raenc]; exact h5
  · rw [entF_sign, entR_sign]; exact h6
  · rw [entF_hash, entR_hash]; exact h7
  · rw [entF_blind, entR_blind]; exact h8
  · rw [entF_wrap, entR_wrap]; exact h9
def eqFn (f g : Fn) : Bool := (f.1.toList == g.1.toList) && (f.2 == g.2)
theorem eqFn_iff {f g : Fn} : eqFn f g = true ↔ f = g := by
  obtain ⟨a, b⟩ := f
  obtain ⟨c, d⟩ := g
  unfold eqFn
  rw [Bool.and_eq_true, toList_iff]
  simp
def onceF : List Fn → Bool
  | [] => true
  | f :: r => r.all (fun g => !(eqFn f g)) && onceF r
theorem onceF_nodup : ∀ {l : List Fn}, onceF l = true → l.Nodup
  | [], _ => List.nodup_nil
  | f :: r, h => by
    rw [onceF, Bool.and_eq_true, List.all_eq_true] at h
    refine List.nodup_cons.2 ⟨fun hm => ?_, onceF_nodup h.2⟩
    have := h.1 f hm
    rw [eqFn_iff.2 rfl] at this; cases this
def onceR : List Rl → Bool
  | [] => true
  | r :: l => l.all (fun q => !(r.1.name.toList == q.1.name.toList)) && onceR l
theorem onceR_apart : ∀ {l : List Rl}, onceR l = true → ∀ r ∈ l, ∀ q ∈ l, r.1.name = q.1.name → r = q
  | [], _, r, hr => by cases hr
  | x :: l, h, r, hr => by
    rw [onceR, Bool.and_eq_true, List.all_eq_true] at h
    intro q hq e
    rcases List.mem_cons.1 hr with hr1 | hr1
    · rcases List.mem_cons.1 hq with hq1 | hq1
      · rw [hr1, hq1]
      · have := h.1 q hq1
        rw [← hr1, toList_iff.2 e] at this; cases this
    · rcases List.mem_cons.1 hq with hq1 | hq1
      · have := h.1 r hr1
        rw [← hq1, toList_iff.2 e.symm] at this; cases this
      · exact onceR_apart h.2 r hr1 q hq1 e
theorem onceR_nodup : ∀ {l : List Rl}, onceR l = true → l.Nodup
  | [], _ => List.nodup_nil
  | x :: l, h => by
    rw [onceR, Bool.and_eq_true, List.all_eq_true] at h
    refine List.nodup_cons.2 ⟨fun hm => ?_, onceR_nodup h.2⟩
    have := h.1 x hm
    rw [toList_iff.2 rfl] at this; cases this
theorem names_apart : (allFns.all fun f => allFns.all fun g => !(f.1.toList == g.1.toList) || (f.2 == g.2)) = true := by kernel_rfl
theorem fns_apart {f g : Fn} (hf : f ∈ allFns) (hg : g ∈ allFns) (h : f.1 = g.1) : f = g := by
  have := List.all_eq_true.1 (List.all_eq_true.1 names_apart f hf) g hg
  rw [toList_iff.2 h] at this
  exact Prod.ext h (by simpa using this)
theorem fns_arg : (allFns.all argOk) = true := by kernel_rfl
theorem rls_once : onceR allRls = true := by kernel_rfl
theorem rls_kind : (allRls.all fun r => r.1.kind == 5) = true := by kernel_rfl
theorem ent_sub (s : ByteArray) (hs : s ∈ libN) : (∀ f ∈ entF s, f ∈ allFns) ∧ ∀ r ∈ entR s, r ∈ allRls := by
  refine lib_each (P := fun s => (∀ f ∈ entF s, f ∈ allFns) ∧ ∀ r ∈ entR s, r ∈ allRls) ?_ ?_ ?_ ?_ ?_ ?_ ?_ ?_ ?_ s hs
  · rw [entF_pair, entR_pair]; unfold allFns allRls; simp +contextual only [List.mem_append, true_or, implies_true, and_self]
  · rw [entF_senc, entR_senc]; unfold allFns allRls; simp +contextual only [List.mem_append, or_true, true_or, implies_true, and_self]
  · rw [entF_renc, entR_renc]; unfold allFns allRls; simp +contextual only [List.mem_append, or_true, true_or, implies_true, and_self]
  · rw [entF_aenc, entR_aenc]; unfold allFns allRls; simp +contextual only [List.mem_append, or_true, true_or, implies_true, and_self]
  · rw [entF_raenc, entR_raenc]; unfold allFns allRls; simp +contextual only [List.mem_append, or_true, true_or, implies_true, and_self]
  · rw [entF_sign, entR_sign]; unfold allFns allRls; simp +contextual only [List.mem_append, or_true, true_or, implies_true, and_self]
  · rw [entF_hash, entR_hash]; unfold allFns allRls; simp +contextual only [List.mem_append, or_true, true_or, implies_true, and_self]
  · rw [entF_blind, entR_blind]; unfold allFns allRls; simp +contextual only [List.mem_append, or_true, true_or, implies_true, and_self]
  · rw [entF_wrap, entR_wrap]; unfold allFns allRls; simp +contextual only [List.mem_append, or_true, implies_true, and_self]
theorem ent_once (s : ByteArray) (hs : s ∈ libN) : (entF s).Nodup ∧ (entR s).Nodup := by
  have h := each_of (P := fun a b => onceF a && onceR b) (by kernel_rfl) s hs
  rw [Bool.and_eq_true] at h
  exact ⟨onceF_nodup h.1, onceR_nodup h.2⟩
def asksF (fs : List Fn) (l : List Tm) : Bool := l.all fun x => !(x.kind == 5) || fs.any fun f => eqFn f (x.name, x.args.length)
theorem ent_fit (s : ByteArray) (hs : s ∈ libN) : ∀ r ∈ entR s, asksF (entF s) r.1.all = true ∧ asksF (entF s) r.2.all = true := by
  have h := each_of (P := fun a b => b.all fun r => asksF a r.1.all && asksF a r.2.all) (by kernel_rfl) s hs
  intro r hr
  have := List.all_eq_true.1 h r hr
  rwa [Bool.and_eq_true] at this
theorem isEnt_iff {s : ByteArray} : isEnt s = true ↔ s ∈ libN := by
  constructor
  · intro h
    unfold isEnt libT at h
    repeat' split at h
    all_goals (try (next hh => rw [toList_iff] at hh; rw [hh]; unfold libN; simp; done))
    rw [show (!(⟨#[]⟩ : ByteArray).toList.isEmpty) = false from by kernel_rfl] at h
    cases h
  · intro h
    refine lib_each (P := fun s => isEnt s = true) ?_ ?_ ?_ ?_ ?_ ?_ ?_ ?_ ?_ s h
    all_goals kernel_rfl
theorem nodup_le {α : Type} : ∀ {l m : List α}, l.Nodup → (∀ x ∈ l, x ∈ m) → l.length ≤ m.length
  | [], m, _, _ => Nat.zero_le _
  | x :: r, m, hn, hs => by
    classical
    obtain ⟨h1, h2⟩ := List.nodup_cons.1 hn
    have hx := hs x (List.mem_cons_self ..)
    have := nodup_le (m := m.erase x) h2 fun y hy => (List.mem_erase_of_ne (fun e => h1 (by rw [← e]; exact hy))).2 (hs y (List.mem_cons_of_mem _ hy))
    have he := List.length_erase_of_mem hx
    have hp : 0 < m.length := List.length_pos_of_mem hx
    rw [List.length_cons]; omega
theorem fns_few {fs : List Fn} (hn : fs.Nodup) (hs : ∀ f ∈ fs, f ∈ allFns) : fs.length ≤ 28 := nodup_le hn hs
theorem rls_few {rs : List Rl} (hn : rs.Nodup) (hs : ∀ r ∈ rs, r ∈ allRls) : rs.length ≤ 12 := nodup_le hn hs
theorem eqTs_iff {ts us : List Tm} : eqTs ts us = true ↔ ts = us := @decide_eq_true_iff _ (Classical.propDecidable _)
theorem rls_same {x q : Rl} (hx : x ∈ allRls) (hq : q ∈ allRls) : sameUp x q = true ↔ x = q := by
  constructor
  · intro h
    have he : canonT [x.1, x.2] = canonT [q.1, q.2] := by
      unfold sameUp at h
      exact eqTs_iff.1 h
    unfold canonT at he
    have h1 := (List.cons.inj he).1
    have kx : x.1.kind = 5 := by simpa using List.all_eq_true.1 rls_kind x hx
    have kq : q.1.kind = 5 := by simpa using List.all_eq_true.1 rls_kind q hq
    rw [appT_eq, appT_eq _ q.1, if_neg (by rw [kx]; decide), if_neg (by rw [kq]; decide)] at h1
    refine onceR_apart rls_once x hx q hq ?_
    have := congrArg Tm.name h1
    simpa [Tm.name] using this
  · rintro rfl
    unfold sameUp
    exact eqTs_iff.2 rfl
structure Rch (ns : List ByteArray) (fs : List Fn) (rs : List Rl) : Prop where
  lib : ∀ s ∈ ns, s ∈ libN
  funs : ∀ f, f ∈ fs ↔ ∃ s ∈ ns, f ∈ entF s
  rules : ∀ r, r ∈ rs ↔ ∃ s ∈ ns, r ∈ entR s
  onceF : fs.Nodup
  onceR : rs.Nodup
theorem rch_nil : Rch [] [] [] := ⟨fun s h => (by cases h), fun f => by simp, fun r => by simp, List.nodup_nil, List.nodup_nil⟩
section
variable {ns : List ByteArray} {fs : List Fn} {rs : List Rl}
theorem Rch.subF (h : Rch ns fs rs) : ∀ f ∈ fs, f ∈ allFns := fun f hf => by
  obtain ⟨s, hs, hfs⟩ := (h.funs f).1 hf
  exact (ent_sub s (h.lib s hs)).1 f hfs
theorem Rch.subR (h : Rch ns fs rs) : ∀ r ∈ rs, r ∈ allRls := fun r hr => by
  obtain ⟨s, hs, hrs⟩ := (h.rules r).1 hr
  exact (ent_sub s (h.lib s hs)).2 r hrs
end
theorem arF_new {os : List Fn} {f : Fn} (hs : ∀ g ∈ os, g ∈ allFns) (hf : f ∈ allFns) (hn : f ∉ os) : arF os f.1 = none := by
  cases h : arF os f.1 with
  | none => rfl
  | some n =>
    have hm := arF_mem h
    have := fns_apart (hs _ hm) hf rfl
    rw [← this] at hn
    exact absurd hm hn
theorem add_lib {os : List Fn} {f : Fn} (ho : os.Nodup) (hs : ∀ g ∈ os, g ∈ allFns) (hf : f ∈ allFns) (hn : f ∉ os) : addE os f = 0 :=
  addE_zero.2 ⟨List.all_eq_true.1 fns_arg f hf, arF_new hs hf hn, by have := fns_few ho hs; omega⟩
theorem join_lib (fs : List Fn) : ∀ (bs os : List Fn), os.Nodup → (∀ g ∈ os, g ∈ allFns) → bs.Nodup → (∀ g ∈ bs, g ∈ allFns) → (∀ g ∈ bs, g ∉ fs → g ∉ os) → (joinR fs os bs).1 = 0 ∧ (joinR fs os bs).2.Nodup
  | [], os, ho, _, _, _, _ => by rw [joinR]; exact ⟨rfl, ho⟩
  | b :: r, os, ho, hs, hb, hbs, hx => by
    obtain ⟨hb1, hb2⟩ := List.nodup_cons.1 hb
    rw [joinR]
    by_cases hh : hasFn fs b = true
    · rw [if_pos hh]
      exact join_lib fs r os ho hs hb2 (fun g hg => hbs g (List.mem_cons_of_mem _ hg)) (fun g hg => hx g (List.mem_cons_of_mem _ hg))
    · rw [if_neg hh]
      have hnf : b ∉ fs := fun e => hh (hasFn_iff.2 e)
      have hno := hx b (List.mem_cons_self ..) hnf
      have hba := hbs b (List.mem_cons_self ..)
      rw [if_pos (add_lib ho hs hba hno)]
      refine join_lib fs r _ (List.nodup_append.2 ⟨ho, by simp, fun a ha c hc => ?_⟩) (fun g hg => ?_) hb2 (fun g hg => hbs g (List.mem_cons_of_mem _ hg)) (fun g hg hgf hgo => ?_)
      · rw [List.mem_singleton] at hc; rintro rfl; subst hc; exact hno ha
      · rcases List.mem_append.1 hg with hg | hg
        · exact hs g hg
        · rw [List.mem_singleton.1 hg]; exact hba
      · rcases List.mem_append.1 hgo with hgo | hgo
        · exact hx g (List.mem_cons_of_mem _ hg) hgf hgo
        · rw [List.mem_singleton] at hgo; subst hgo; exact hb1 hg
theorem newR_mem {rs qs : List Rl} (h1 : ∀ r ∈ rs, r ∈ allRls) (h2 : ∀ r ∈ qs, r ∈ allRls) (r : Rl) : r ∈ newR rs qs ↔ r ∈ rs ∨ r ∈ qs := by
  unfold newR
  rw [List.mem_append, List.mem_filter]
  constructor
  · rintro (h | ⟨h, _⟩)
    · exact .inl h
    · exact .inr h
  · rintro (h | h)
    · exact .inl h
    · by_cases hr : r ∈ rs
      · exact .inl hr
      · refine .inr ⟨h, ?_⟩
        rw [Bool.not_eq_true', ← Bool.not_eq_true, List.any_eq_true]
        rintro ⟨x, hx, hxs⟩
        rw [rls_same (h1 x hx) (h2 r h)] at hxs
        subst hxs; exact hr hx
theorem newR_once {rs qs : List Rl} (h1 : ∀ r ∈ rs, r ∈ allRls) (h2 : ∀ r ∈ qs, r ∈ allRls) (n1 : rs.Nodup) (n2 : qs.Nodup) : (newR rs qs).Nodup := by
  unfold newR
  refine List.nodup_append.2 ⟨n1, n2.sublist (List.filter_sublist ..), fun a ha b hb => ?_⟩
  rintro rfl
  obtain ⟨hb1, hb2⟩ := List.mem_filter.1 hb
  rw [Bool.not_eq_true', ← Bool.not_eq_true, List.any_eq_true] at hb2
  exact hb2 ⟨a, ha, (rls_same (h1 a ha) (h2 a hb1)).2 rfl⟩
section
variable {ns : List ByteArray} {fs : List Fn} {rs : List Rl}
theorem Rch.use (h : Rch ns fs rs) {s : ByteArray} (hs : s ∈ libN) : useS fs rs s = (0, joinL fs (entF s), newR rs (entR s)) ∧ Rch (s :: ns) (joinL fs (entF s)) (newR rs (entR s)) := by
  obtain ⟨e1, e2⟩ := ent_sub s hs
  obtain ⟨o1, o2⟩ := ent_once s hs
  obtain ⟨j1, j2⟩ := join_lib fs (entF s) fs h.onceF h.subF o1 e1 (fun g _ hg => hg)
  have hm := newR_mem h.subR e2
  have hn := newR_once h.subR e2 h.onceR o2
  have hle := rls_few hn fun r hr => by
    rcases (hm r).1 hr with hr | hr
    · exact h.subR r hr
    · exact e2 r hr
  refine ⟨?_, ⟨fun x hx => ?_, fun f => ?_, fun r => ?_, j2, hn⟩⟩
  · unfold useS
    rw [if_neg (by rw [isEnt_iff.2 hs]; decide), if_neg (fun q => q j1), if_neg (by omega)]
  · rcases List.mem_cons.1 hx with rfl | hx
    · exact hs
    · exact h.lib x hx
  · constructor
    · intro hf
      rcases join_mem fs (entF s) fs f hf with hf | hf
      · obtain ⟨x, hx, hfx⟩ := (h.funs f).1 hf
        exact ⟨x, List.mem_cons_of_mem _ hx, hfx⟩
      · exact ⟨s, List.mem_cons_self .., hf⟩
    · rintro ⟨x, hx, hfx⟩
      rcases List.mem_cons.1 hx with rfl | hx
      · exact join_all fs _ fs (fun f hf => hf) j1 f hfx
      · exact join_keep fs _ fs j1 f ((h.funs f).2 ⟨x, hx, hfx⟩)
  · rw [hm]
    constructor
    · rintro (hr | hr)
      · obtain ⟨x, hx, hrx⟩ := (h.rules r).1 hr
        exact ⟨x, List.mem_cons_of_mem _ hx, hrx⟩
      · exact ⟨s, List.mem_cons_self .., hr⟩
    · rintro ⟨x, hx, hrx⟩
      rcases List.mem_cons.1 hx with rfl | hx
      · exact .inr hrx
      · exact .inl ((h.rules r).2 ⟨x, hx, hrx⟩)
theorem Rch.again (h : Rch ns fs rs) {s : ByteArray} (hs : s ∈ ns) : useS fs rs s = (0, fs, rs) := by
  obtain ⟨hu, _⟩ := h.use (h.lib s hs)
  have hj := join_same fs (entF s) fs fun f hf => (h.funs f).2 ⟨s, hs, hf⟩
  rw [hu]
  have hq : newR rs (entR s) = rs := by
    unfold newR
    have : ((entR s).filter fun q => !(rs.any fun x => sameUp x q)) = [] := by
      rw [List.filter_eq_nil_iff]
      intro q hq
      have hqr := (h.rules q).2 ⟨s, hs, hq⟩
      rw [Bool.not_eq_true', Bool.not_eq_false, List.any_eq_true]
      exact ⟨q, hqr, (rls_same (h.subR q hqr) (h.subR q hqr)).2 rfl⟩
    rw [this, List.append_nil]
  rw [hq]
  unfold joinL
  rw [hj]
theorem Rch.fits (h : Rch ns fs rs) {r : Rl} (hr : r ∈ rs) : (fitsF fs r.1).1 = 0 ∧ (fitsF fs r.2).1 = 0 := by
  obtain ⟨s, hs, hrs⟩ := (h.rules r).1 hr
  obtain ⟨f1, f2⟩ := ent_fit s (h.lib s hs) r hrs
  have key : ∀ l : List Tm, asksF (entF s) l = true → ∀ x ∈ l, x.kind = 5 → arF fs x.name = some (x.args.length : Int) := fun l hl x hx hk => by
    have := List.all_eq_true.1 hl x hx
    rw [hk] at this
    rw [show (!((5 : Int) == 5)) = false from rfl, Bool.false_or] at this
    obtain ⟨f, hf, he⟩ := List.any_eq_true.1 this
    rw [eqFn_iff] at he
    have hm : (x.name, (x.args.length : Int)) ∈ fs := by rw [← he]; exact (h.funs f).2 ⟨s, hs, hf⟩
    obtain ⟨m, hm2⟩ := arF_is hm
    have := fns_apart (h.subF _ (arF_mem hm2)) (h.subF _ hm) rfl
    rw [hm2, (Prod.mk.inj this).2]
  exact ⟨fitsF_ok.2 (key _ f1), fitsF_ok.2 (key _ f2)⟩
end
def nmAt (k : Nat) : ByteArray := (libN[k]?).getD nmPair
theorem libN_at (k : Nat) : nmAt k ∈ libN := by
  unfold nmAt
  rcases Nat.lt_or_ge k libN.length with h | h
  · rw [List.getElem?_eq_getElem h]; exact List.getElem_mem h
  · rw [List.getElem?_eq_none h]; unfold libN; simp
end Go.Proofs.YtnbjpgdnfklanaaGreatDoor
