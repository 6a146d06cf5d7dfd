/-
  Binds behind binds, as data: put in at once they do what the one does, then the other. No function of the program.
-/
import Derived.Test.YtcecbdglepneaaaApPu
import Derived.Test.YtcecbdglepneaaaOfBd
namespace Go.Proofs.Ytcecbdglepneaaa
open Go.RowKit

mutual
theorem appT_congr {l m : List Bn} (h : ∀ s, getB l s = getB m s) : ∀ t : Tm, appT l t = appT m t
  | .mk k s n xs => by rw [appT, appT, h s, appL_congr h xs]
theorem appL_congr {l m : List Bn} (h : ∀ s, getB l s = getB m s) : ∀ ts : List Tm, appL l ts = appL m ts
  | [] => by rw [appL, appL]
  | t :: r => by rw [appL, appL, appT_congr h t, appL_congr h r]
end
/-- What one row of binds has, with the other one put into it. -/
def putB (b a : List Bn) : List Bn := a.map fun x => (x.1, appT b x.2)
theorem getB_put (b : List Bn) (s : ByteArray) : ∀ a : List Bn, getB (putB b a) s = (getB a s).map (appT b)
  | [] => rfl
  | x :: a => by
    by_cases h : x.1 = s
    · rw [getB_hit x a h]; exact getB_hit (x.1, appT b x.2) _ h
    · rw [getB_miss x a h, ← getB_put b s a]; exact getB_miss (x.1, appT b x.2) _ h
theorem putB_succ {a : List Bn} (b : List Bn) {k : Nat} {x : Bn} (h : a[k]? = some x) : putB b (a.take (k + 1)) = putB b (a.take k) ++ [(x.1, appT b x.2)] := by
  obtain ⟨hk, rfl⟩ := List.getElem?_eq_some_iff.1 h
  unfold putB; rw [List.take_succ_eq_append_getElem hk, List.map_append]; rfl
/-- One behind the other. -/
def thenB (a b : List Bn) : List Bn := ofB (putB b a ++ b)
theorem thenB_get (a b : List Bn) (s : ByteArray) : getB (thenB a b) s = ((getB a s).map (appT b)).or (getB b s) := by
  unfold thenB; rw [ofB_get, getB_append, getB_put]
mutual
theorem then_app (a b : List Bn) : ∀ t : Tm, appT (thenB a b) t = appT b (appT a t)
  | .mk k s n xs => by
    have h := then_appL a b xs
    by_cases hk : k = 1
    · cases ha : getB a s with
      | some u =>
        have e1 : appT a (.mk k s n xs) = u := by rw [appT, if_pos hk, ha]
        have e2 : appT (thenB a b) (.mk k s n xs) = appT b u := by rw [appT, if_pos hk, thenB_get, ha]; rfl
        rw [e1, e2]
      | none =>
        have e1 : appT a (.mk k s n xs) = .mk k s n (appL a xs) := by rw [appT, if_pos hk, ha]
        rw [e1, appT, appT, if_pos hk, if_pos hk, thenB_get, ha, h]
        simp only [Option.map_none, Option.none_or]
    · have e1 : appT a (.mk k s n xs) = .mk k s n (appL a xs) := by rw [appT, if_neg hk]
      rw [e1, appT, appT, if_neg hk, if_neg hk, h]
theorem then_appL (a b : List Bn) : ∀ ts : List Tm, appL (thenB a b) ts = appL b (appL a ts)
  | [] => by rw [appL, appL, appL]
  | t :: r => by rw [appL, appL, appL, then_app a b t, then_appL a b r]
end
theorem getB_mem {l : List Bn} {s : ByteArray} {t : Tm} (h : getB l s = some t) : ∃ x ∈ l, x.2 = t := by
  unfold getB at h
  obtain ⟨x, hx, rfl⟩ := Option.map_eq_some_iff.1 h
  exact ⟨x, List.mem_of_find?_eq_some hx, rfl⟩
mutual
theorem appT_parts {bs : List Bn} {m : Nat} (hm : 1 ≤ m) (h : ∀ x ∈ bs, x.2.parts ≤ m) : ∀ t : Tm, (appT bs t).parts ≤ t.parts * m
  | .mk k s n xs => by
    have h2 := appL_parts hm h xs
    have e : partsL (appL bs xs) + 1 ≤ (partsL xs + 1) * m := by rw [Nat.add_mul]; omega
    rw [appT, Tm.parts]
    split
    · split
      · next u hu =>
        obtain ⟨x, hx, rfl⟩ := getB_mem hu
        have h3 := h x hx
        rw [Nat.add_mul]; omega
      · rw [Tm.parts]; exact e
    · rw [Tm.parts]; exact e
theorem appL_parts {bs : List Bn} {m : Nat} (hm : 1 ≤ m) (h : ∀ x ∈ bs, x.2.parts ≤ m) : ∀ ts : List Tm, partsL (appL bs ts) ≤ partsL ts * m
  | [] => by rw [appL, partsL_nil]; omega
  | t :: r => by
    have h1 := appT_parts hm h t
    have h2 := appL_parts hm h r
    rw [appL, partsL_cons, partsL_cons, Nat.add_mul]; omega
end
/-- What a name stands for in one row behind another. -/
def thenF (a b : List Bn) (n : ByteArray) : Tm := match getB a n with | some t => appT b t | none => (getB b n).getD (.mk 0 ⟨#[]⟩ 0 [])
theorem thenN_eq (a b : List Bn) : rowOfN (thenF a b) (namesB (a ++ b)) = thenB a b := by
  refine rising_one (rising_rowOfN (namesB_rise _)) (ofB_rising _) fun s => ?_
  rw [thenB_get, getB_rowOfN]
  by_cases hc : s ∈ namesB (a ++ b)
  · rw [if_pos (contains_iff.2 hc)]
    have hs := getB_isSome.2 (mem_namesB.1 hc)
    rw [getB_append] at hs
    unfold thenF
    cases ha : getB a s with
    | some t => rfl
    | none =>
      rw [ha] at hs
      cases hb : getB b s with
      | some u => rfl
      | none => rw [hb] at hs; cases hs
  · rw [if_neg (fun h => hc (contains_iff.1 h))]
    have hn : getB (a ++ b) s = none := by
      cases h : getB (a ++ b) s with
      | none => rfl
      | some t => exact absurd (mem_namesB.2 (getB_isSome.1 (by rw [h]; rfl))) hc
    rw [getB_append] at hn
    cases ha : getB a s with
    | some t => rw [ha] at hn; cases hn
    | none =>
      rw [ha] at hn
      exact hn.symm
def thenTo (a b : List Bn) (k : Nat) : List Bn := rowOfN (thenF a b) ((namesB (a ++ b)).take k)
theorem thenTo_succ {a b : List Bn} {k : Nat} {s : ByteArray} (h : (namesB (a ++ b))[k]? = some s) : thenTo a b (k + 1) = thenTo a b k ++ [(s, thenF a b s)] := by
  obtain ⟨hk, rfl⟩ := List.getElem?_eq_some_iff.1 h
  unfold thenTo rowOfN; rw [List.take_succ_eq_append_getElem hk, List.map_append]; rfl
theorem thenTo_all (a b : List Bn) : thenTo a b (namesB (a ++ b)).length = thenB a b := by unfold thenTo; rw [List.take_length, thenN_eq]
theorem thenB_length (a b : List Bn) : (thenB a b).length = (namesB (a ++ b)).length := by rw [← thenN_eq]; unfold rowOfN; rw [List.length_map]
end Go.Proofs.Ytcecbdglepneaaa
