/-
  A sorted row of binds, of each run of one name the first alone: these are the binds in order. No function of the program.
  What the library's functions over rows of binds ask of a program besides: the types of their predicates, and the zero bind.
  A row of binds cut: s[l:] and s[:h]. No function of the program.
-/
import Derived.Test.YtnbjpgdnfklanaaGreatDoorT24
import Derived.Test.YtnbjpgdnfklanaaGreatDoorT25
namespace Go.Proofs.YtnbjpgdnfklanaaGreatDoor
open Go.RowKit Go.Sort
section
variable {α : Type} (ef : α → α → Bool)
def compF : α → List α → List α
  | _, [] => []
  | p, y :: r => if ef y p = true then compF y r else y :: compF y r
def compA : List α → List α
  | [] => []
  | x :: r => x :: compF ef x r
theorem compF_snoc (p : α) (r : List α) (y : α) : compF ef p (r ++ [y]) = compF ef p r ++ (if ef y ((p :: r).getLast (by simp)) = true then [] else [y]) := by
  induction r generalizing p with
  | nil => rw [List.nil_append, compF, compF, compF]; rfl
  | cons x r ih =>
    rw [List.cons_append, compF, compF, ih x]
    have e : ((p :: x :: r).getLast (by simp)) = ((x :: r).getLast (by simp)) := List.getLast_cons_cons
    rw [e]
    split
    · rfl
    · rw [List.cons_append]
theorem compA_snoc (l : List α) (y : α) (h : l ≠ []) : compA ef (l ++ [y]) = compA ef l ++ (if ef y (l.getLast h) = true then [] else [y]) := by
  cases l with
  | nil => exact absurd rfl h
  | cons x r => rw [List.cons_append, compA, compF_snoc, compA]; rfl
end
theorem comp_succ {α : Type} [Inhabited α] (ef : α → α → Bool) (d : Array α) {j : Nat} (h1 : 0 < j) (h2 : j < d.size) :
    compA ef (d.toList.take (j + 1)) = compA ef (d.toList.take j) ++ (if ef d[j]! d[j - 1]! = true then [] else [d[j]!]) := by
  have hl : j < d.toList.length := by simpa using h2
  have hne : d.toList.take j ≠ [] := by
    intro e; have := congrArg List.length e; rw [List.length_take, List.length_nil] at this; omega
  have e1 : d.toList[j] = d[j]! := by rw [getElem!_pos d j h2]; simp
  have e2 : (d.toList.take j).getLast hne = d[j - 1]! := by
    rw [List.getLast_eq_getElem, List.getElem_take, getElem!_pos d (j - 1) (by omega)]
    have : (d.toList.take j).length - 1 = j - 1 := by rw [List.length_take]; omega
    simp only [this, Array.getElem_toList]
  rw [List.take_succ_eq_append_getElem hl, compA_snoc ef _ _ hne, e1, e2]
theorem comp_one {α : Type} [Inhabited α] (ef : α → α → Bool) (d : Array α) (h : 0 < d.size) : compA ef (d.toList.take 1) = d.toList.take 1 := by
  cases hd : d.toList with
  | nil => have := congrArg List.length hd; rw [Array.length_toList, List.length_nil] at this; omega
  | cons x r => rfl
def sameN (x y : Bv) : Bool := x.s.toList == y.s.toList
def cfN (x y : Bv) : Int := cmpS x.s y.s
theorem cmpS_lt {s t : ByteArray} : cmpS s t < 0 ↔ ltN s t = true := by
  unfold cmpS ltN
  split
  · next h => simp [h]
  · next h => split <;> simp [h]
theorem ltN_of (x y : Bv) : ltOf cfN x y = ltN x.s y.s := by
  unfold ltOf cfN
  cases h : ltN x.s y.s with
  | true => exact decide_eq_true (cmpS_lt.2 h)
  | false => exact decide_eq_false (fun e => by rw [cmpS_lt.1 e] at h; cases h)
theorem swoN : SWO (ltOf cfN) where
  irrefl x := by rw [ltN_of]; exact ltN_irr _
  trans x y z h1 h2 := by rw [ltN_of] at *; exact ltN_trans h1 h2
  ntrans x y z h1 h2 := by
    rw [ltN_of] at *
    cases h : ltN x.s z.s with
    | false => rfl
    | true =>
      by_cases e : x.s = y.s
      · rw [e, h2] at h; cases h
      · have h3 := ltN_tot h1 e
        have h4 := ltN_trans h3 h
        rw [h2] at h4; cases h4
theorem compF_spec : ∀ (p : Bv) (r : List Bv), (p :: r).Pairwise (fun x y => ltN y.s x.s = false) →
    (∀ z ∈ compF sameN p r, ltN p.s z.s = true) ∧ Rising ((compF sameN p r).map Bv.bn) ∧ ∀ s, s ≠ p.s → getB ((compF sameN p r).map Bv.bn) s = getB (r.map Bv.bn) s
  | _, [], _ => ⟨fun z hz => (by simp [compF] at hz), List.Pairwise.nil, fun _ _ => rfl⟩
  | p, y :: r, h => by
    rw [List.pairwise_cons] at h
    obtain ⟨h1, h2, h3⟩ := compF_spec y r h.2
    rw [compF]
    by_cases e : y.s = p.s
    · rw [if_pos (show sameN y p = true from beq_name.2 e)]
      refine ⟨fun z hz => by rw [← e]; exact h1 z hz, h2, fun s hs => ?_⟩
      rw [h3 s (by rw [e]; exact hs), List.map_cons, getB_miss _ _ (fun e' => hs (e'.symm.trans e))]
    · rw [if_neg (show ¬ sameN y p = true from fun h => e (beq_name.1 h))]
      have hpy : ltN p.s y.s = true := ltN_tot (h.1 y (by simp)) e
      refine ⟨fun z hz => ?_, ?_, fun s hs => ?_⟩
      · rcases List.mem_cons.1 hz with rfl | hz
        · exact hpy
        · exact ltN_trans hpy (h1 z hz)
      · rw [List.map_cons]
        refine List.pairwise_cons.2 ⟨fun z hz => ?_, h2⟩
        obtain ⟨u, hu, rfl⟩ := List.mem_map.1 hz
        exact h1 u hu
      · rw [List.map_cons, List.map_cons]
        by_cases e' : y.s = s
        · rw [getB_hit _ _ (show (Bv.bn y).1 = s from e'), getB_hit _ _ (show (Bv.bn y).1 = s from e')]
        · rw [getB_miss _ _ (show (Bv.bn y).1 ≠ s from e'), getB_miss _ _ (show (Bv.bn y).1 ≠ s from e'), h3 s (fun h => e' h.symm)]
theorem compA_spec {l : List Bv} (h : l.Pairwise fun x y => ltN y.s x.s = false) : Rising ((compA sameN l).map Bv.bn) ∧ ∀ s, getB ((compA sameN l).map Bv.bn) s = getB (l.map Bv.bn) s := by
  cases l with
  | nil => exact ⟨List.Pairwise.nil, fun _ => rfl⟩
  | cons x r =>
    obtain ⟨h1, h2, h3⟩ := compF_spec x r h
    refine ⟨?_, fun s => ?_⟩
    · rw [compA, List.map_cons]
      refine List.pairwise_cons.2 ⟨fun z hz => ?_, h2⟩
      obtain ⟨u, hu, rfl⟩ := List.mem_map.1 hz
      exact h1 u hu
    · rw [compA, List.map_cons, List.map_cons]
      by_cases e : x.s = s
      · rw [getB_hit _ _ (show (Bv.bn x).1 = s from e), getB_hit _ _ (show (Bv.bn x).1 = s from e)]
      · rw [getB_miss _ _ (show (Bv.bn x).1 ≠ s from e), getB_miss _ _ (show (Bv.bn x).1 ≠ s from e), h3 s (fun h => e h.symm)]
theorem getB_filter (l : List Bv) (s : ByteArray) : getB (l.map Bv.bn) s = ((l.filter fun x => x.s.toList == s.toList).head?).map fun x => x.v.t := by
  induction l with
  | nil => rfl
  | cons x r ih =>
    rw [List.map_cons, List.filter_cons]
    by_cases e : x.s = s
    · rw [getB_hit _ _ (show (Bv.bn x).1 = s from e), if_pos (beq_name.2 e)]; rfl
    · rw [getB_miss _ _ (show (Bv.bn x).1 ≠ s from e), if_neg (fun h => e (beq_name.1 h)), ih]
theorem cls_name (s : ByteArray) : Cls (ltOf cfN) (fun x : Bv => x.s.toList == s.toList) := fun x y hx hy => by
  rw [ltN_of, beq_name.1 hx, beq_name.1 hy]; exact ltN_irr _
theorem sorted_list {d : Array Bv} (h : SortedIn (ltOf cfN) 0 d.size d) : d.toList.Pairwise fun x y => ltN y.s x.s = false := by
  rw [List.pairwise_iff_getElem]
  intro i j hi hj hij
  have hi' : i < d.size := by simpa using hi
  have hj' : j < d.size := by simpa using hj
  have := h i j (Nat.zero_le _) hij hj'
  rw [getElem!_pos d i hi', getElem!_pos d j hj', ltN_of] at this
  simpa using this
theorem stab_ofB {d d' : Array Bv} (h : Stab (ltOf cfN) d d') (hs : SortedIn (ltOf cfN) 0 d'.size d') : (compA sameN d'.toList).map Bv.bn = ofB (d.toList.map Bv.bn) := by
  obtain ⟨h1, h2⟩ := compA_spec (sorted_list hs)
  refine ofB_one h1 fun s => ?_
  rw [h2, getB_filter, getB_filter, h.2 _ (cls_name s)]
theorem mem_compF {x : Bv} : ∀ {p : Bv} {r : List Bv}, x ∈ compF sameN p r → x ∈ r
  | _, [], h => by simp [compF] at h
  | p, y :: r, h => by
    rw [compF] at h
    split at h
    · exact List.mem_cons_of_mem _ (mem_compF h)
    · rcases List.mem_cons.1 h with rfl | h
      · simp
      · exact List.mem_cons_of_mem _ (mem_compF h)
theorem mem_compA {x : Bv} {l : List Bv} (h : x ∈ compA sameN l) : x ∈ l := by
  cases l with
  | nil => exact h
  | cons y r =>
    rw [compA] at h
    rcases List.mem_cons.1 h with rfl | h
    · simp
    · exact List.mem_cons_of_mem _ (mem_compF h)
theorem stab_mem {d d' : Array Bv} (h : Stab (ltOf cfN) d d') {x : Bv} (hx : x ∈ d'.toList) : x ∈ d.toList := by
  have : x ∈ d'.toList.filter fun y => y.s.toList == x.s.toList := List.mem_filter.2 ⟨hx, by simp⟩
  rw [h.2 _ (cls_name x.s)] at this
  exact (List.mem_filter.1 this).1
end Go.Proofs.YtnbjpgdnfklanaaGreatDoor
namespace Go.Proofs.YtnbjpgdnfklanaaGreatDoor
open Go.RowKit Go.Shelf Go.Lib Go.Sort
structure TyC (P : Program) (k : Nat) : Prop extends TyB P k where
  t55 : P.underlying 192 = some (TypeDesc.func #[146, 146] #[4] false)
  a55 : ∀ w, (isAgg 192).run P w = .ok false w
  z55 : ∀ w, (Go.sizeOf 192).run P w = .ok 1 w
  v55 : ∀ w, (zeroValue 192).run P w = .ok (Value.nilFunc) w
theorem tyC : TyC Tryz.prog 5 where
  toTyB := tyB
  t55 := by kernel_rfl
  a55 := fun _ => by kernel_rfl
  z55 := fun _ => by kernel_rfl
  v55 := fun _ => by kernel_rfl
def EqLays {α : Type} [Inhabited α] (P : Program) (g : Nat) (cb : Array Value) (enc : α → List Value) (k : Nat) (ef : α → α → Bool) (blk off size : Nat) (w : World) : Prop :=
  ∀ (m : Nat) (os : Array Obj) (dk : Array α), dk.size = size → ∀ x y : α,
    Calls P g (#[.agg (enc x).toArray, .agg (enc y).toArray] ++ cb) (sortWorldK enc k w blk off m dk os) fun e w' => e = .returned (.bool (ef x y)) ∧ ∃ q os', w' = grow ((sortWorldK enc k w blk off m dk os).drewN q) os'
theorem swk_eq2 {α : Type} [Inhabited α] {P : Program} {k : Nat} {enc : α → List Value} {w0 W : World} {blk off : Nat} {dk : Array α} {g : Nat} {cb : Array Value} {ef : α → α → Bool} {size : Nat} (h : SWK enc k w0 blk off dk W) (hC : EqLays P g cb enc k ef blk off size w0) (hs : dk.size = size) (x y : α) (n : Nat) (os : Array Obj) :
    Calls P g (#[.agg (enc x).toArray, .agg (enc y).toArray] ++ cb) (grow (W.drewN n) os) fun e w' => e = .returned (.bool (ef x y)) ∧ ∃ q os', w' = grow ((grow (W.drewN n) os).drewN q) os' := by
  obtain ⟨m, os0, hw⟩ := h.grown n os
  rw [hw]
  exact hC m os0 dk hs x y
end Go.Proofs.YtnbjpgdnfklanaaGreatDoor
namespace Go.Proofs.YtnbjpgdnfklanaaGreatDoor
open Go.RowKit Go.Shelf Go.Lib Go.Sort
theorem elemB {P : Program} {k : Nat} (T : TyB P k) : P.elem 143 = 146 := by unfold Program.elem; rw [T.t22]
theorem cutk_from {P : Program} {k : Nat} (T : TyB P k) (g o len cap l : Nat) (hl : l ≤ len) (hc : l < cap) (w : World) :
    (Instr.slice 143 (.slice (some ⟨g, o, none⟩) len cap) (some (.int .i64 (l : Int))) none none).run P w = .ok (.slice (some ⟨g, o + l * k, none⟩) (len - l) (cap - l)) w := by
  have hu := T.t22
  have hz := T.zE
  have he := elemB T
  rw [run_slice_l w 143 _ len cap (by rw [he]; exact hu) .i64 l (by omega) (by omega), he]
  simp only [hz, Result.andThen, sliced, Int.toNat_natCast]
  rw [if_neg (by omega)]
  have : (Option.map (fun x => x.add (l * k)) (some (⟨g, o, none⟩ : Addr))) = some ⟨g, o + l * k, none⟩ := by
    simp only [Option.map_some]
    unfold Addr.add
    split
    · next h => rw [h]; simp
    · rfl
  rw [this]
theorem cutk_to {P : Program} {k : Nat} (T : TyB P k) (g o len cap h : Nat) (hh : h ≤ cap) (h0 : 0 < cap) (w : World) :
    (Instr.slice 143 (.slice (some ⟨g, o, none⟩) len cap) none (some (.int .i64 (h : Int))) none).run P w = .ok (.slice (some ⟨g, o, none⟩) h cap) w := by
  have hu := T.t22
  have hz := T.zE
  have he := elemB T
  rw [run_slice_h w 143 _ len cap (by rw [he]; exact hu) .i64 h (by omega) (by omega), he]
  simp only [hz, Result.andThen, sliced, Int.toNat_natCast]
  rw [if_neg (by omega), Nat.zero_mul]
  rfl
end Go.Proofs.YtnbjpgdnfklanaaGreatDoor
