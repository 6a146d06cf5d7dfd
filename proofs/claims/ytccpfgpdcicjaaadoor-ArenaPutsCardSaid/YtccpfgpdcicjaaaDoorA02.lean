/-
  Plain facts on bytes and decimal digits: what text a number has, and that no two numbers have the same one. Nothing of the program.
  Rows of numbers as texts, a comma behind each: no two rows have the same text. The keys by which nodes are found in a table, and what a table says of a list of terms.
  Terms that are small, rows of terms held against each other, and whether a term is in a row, by the reference of layer 3: Within, Small, Smalls, Sames, In, Has.
  The number of a term in a list, by the reference of layer 9: Number.
  Slices that read as lists of whole numbers: places. Nothing of the program's functions.
  What reads so in one memory and reads so in another; memory with one block out of sight. No function of the program.
  What stands at a place, as data; the zero term; what a call leaves that answers a term, or none. No function of the program.
  Boxes of four cells that are written, and what stands at a place in parts. Nothing of the program's functions.
  Rows of terms that the call itself has made: their cells, stores into them, and rows in memory as values. No function of the program.
  Terms that a call has made, and where they stand on: what the call was handed, and the blocks that it has made itself. No function of the program.
-/
import Derived.Lib.ItoaNum
import Derived.Lib.ItoaMem
import Derived.Lib.AtoiTie
import Derived.Lib.AtoiAllCases
import Derived.Test.YtccpfgpdcicjaaaDoorA01
import Derived.Test.YtccpfgpdcicjaaaDoorProg
import Derived.Maps.OwnSet
import Derived.Lib.Hide
import Derived.ProofKit
import Derived.DeepKeys4
import Derived.Lib.ItoaLen
namespace Go.Proofs.YtccpfgpdcicjaaaDoor

/-- The number that a row of digits is. -/
def decVal (l : List UInt8) : Nat := l.foldl (fun a c => 10 * a + (c.toNat - 48)) 0
theorem decVal_snoc (l : List UInt8) (c : UInt8) : decVal (l ++ [c]) = 10 * decVal l + (c.toNat - 48) := by simp [decVal]
theorem digit_val {d : Nat} (h : d < 10) : (UInt8.ofNat (48 + d)).toNat = 48 + d := by
  simp; omega
theorem decDigits_big {u : Nat} (h : ¬ u < 10) : Lib.decDigits u = Lib.decDigits (u / 10) ++ [UInt8.ofNat (48 + u % 10)] := by
  rw [Lib.decDigits, dif_neg h]
theorem decVal_digits (u : Nat) : decVal (Lib.decDigits u) = u := by
  induction u using Nat.strongRecOn with
  | ind u ih =>
    by_cases h : u < 10
    · rw [Lib.decDigits_one h]
      have := decVal_snoc [] (UInt8.ofNat (48 + u))
      rw [List.nil_append] at this
      rw [this, digit_val h]; simp [decVal]
    · rw [decDigits_big h, decVal_snoc, ih (u / 10) (by omega), digit_val (by omega)]; omega
theorem decDigits_inj {a b : Nat} (h : Lib.decDigits a = Lib.decDigits b) : a = b := by
  rw [← decVal_digits a, ← decVal_digits b, h]
theorem decDigits_range (u : Nat) : ∀ c ∈ Lib.decDigits u, 48 ≤ c.toNat ∧ c.toNat ≤ 57 := by
  induction u using Nat.strongRecOn with
  | ind u ih =>
    by_cases h : u < 10
    · rw [Lib.decDigits_one h]; intro c hc; rw [List.mem_singleton] at hc; subst hc; rw [digit_val h]; omega
    · rw [decDigits_big h]; intro c hc
      rcases List.mem_append.1 hc with h1 | h1
      · exact ih (u / 10) (by omega) c h1
      · rw [List.mem_singleton] at h1; subst h1; rw [digit_val (by omega)]; omega
theorem decDigits_ne_nil (u : Nat) : Lib.decDigits u ≠ [] := by
  intro h
  have := Lib.decDigits_length u
  rw [h] at this
  have h2 := Lib.nDigits_pos u
  simp at this; omega
theorem nDigits_le3 {n : Nat} (h : n ≤ 999) : Lib.nDigits n ≤ 3 := by
  by_cases h1 : n < 10
  · rw [Lib.nDigits_small h1]; omega
  · rw [Lib.nDigits_big h1]
    by_cases h2 : n / 10 < 10
    · rw [Lib.nDigits_small h2]; omega
    · rw [Lib.nDigits_big h2, Lib.nDigits_small (by omega)]; omega
theorem itoa_of_neg {n : Int} (h : n < 0) : ∃ u, Lib.itoa n = 45 :: Lib.decDigits u := ⟨_, by unfold Lib.itoa; rw [if_pos h]⟩
theorem itoa_inj {a b : Int} (h : Lib.itoa a = Lib.itoa b) : a = b := by
  unfold Lib.itoa at h
  have nodash : ∀ u v : Nat, 45 :: Lib.decDigits u ≠ Lib.decDigits v := by
    intro u v e
    have := decDigits_range v 45 (by rw [← e]; exact List.mem_cons_self ..)
    exact absurd this.1 (by decide)
  by_cases h1 : a < 0 <;> by_cases h2 : b < 0
  · rw [if_pos h1, if_pos h2] at h
    have := decDigits_inj (List.cons.inj h).2
    omega
  · rw [if_pos h1, if_neg h2] at h; exact absurd h (nodash _ _)
  · rw [if_neg h1, if_pos h2] at h; exact absurd h.symm (nodash _ _)
  · rw [if_neg h1, if_neg h2] at h
    have := decDigits_inj h
    omega

theorem decFrom_snoc (l : List UInt8) : ∀ (acc n : Nat) (b : UInt8) (d : Nat), Lib.decFrom acc l = some n → Lib.digitVal b = some d → Lib.decFrom acc (l ++ [b]) = some (10 * n + d) := by
  intro acc n b d h1 h2
  have := Lib.decFrom_take (l ++ [b]) l.length acc n b d (by simpa using h1) (by simp) h2
  rw [show (l ++ [b]).take (l.length + 1) = l ++ [b] from List.take_of_length_le (by simp)] at this
  rw [this]; congr 1; omega
theorem digitVal_ofNat {d : Nat} (h : d < 10) : Lib.digitVal (UInt8.ofNat (48 + d)) = some d := by
  unfold Lib.digitVal; rw [digit_val h, if_pos (by omega)]; congr 1; omega
theorem decFrom_digits (u : Nat) : Lib.decFrom 0 (Lib.decDigits u) = some u := by
  induction u using Nat.strongRecOn with
  | ind u ih =>
    by_cases h : u < 10
    · rw [Lib.decDigits_one h]
      have := decFrom_snoc [] 0 0 _ _ rfl (digitVal_ofNat h)
      simpa using this
    · rw [decDigits_big h, decFrom_snoc _ _ _ _ _ (ih (u / 10) (by omega)) (digitVal_ofNat (by omega : u % 10 < 10))]
      congr 1; omega
/-- A number's own digits are read as it. -/
theorem atoi_digits {u : Nat} (h : u ≤ 999) : Lib.atoiAll (Lib.decDigits u) = .ok (u : Int) := by
  have h1 := Lib.atoiAll_short (Lib.decDigits u) (by rw [Lib.decDigits_length]; have := nDigits_le3 h; omega)
  rw [h1]
  have h2 := decFrom_digits u
  have hr := decDigits_range u
  cases hd : Lib.decDigits u with
  | nil => exact absurd hd (decDigits_ne_nil u)
  | cons c r =>
    rw [hd] at h2 hr
    have hc := hr c (List.mem_cons_self ..)
    have e1 : (c == 45) = false := by
      rw [beq_eq_false_iff_ne]; rintro rfl; exact absurd hc.1 (by decide)
    have e2 : (c == 43) = false := by
      rw [beq_eq_false_iff_ne]; rintro rfl; exact absurd hc.1 (by decide)
    simp only [Lib.atoi, e1, e2, Bool.false_eq_true, if_false]
    unfold Lib.decNat
    rw [List.isEmpty_cons, if_neg (by simp), h2]
    rfl

/-- The number from 0 to 999 whose digits a text is. -/
def numOf (l : List UInt8) : Option Nat := (List.range 1000).find? fun n => Lib.decDigits n == l
theorem numOf_some {l : List UInt8} {n : Nat} (h : numOf l = some n) : n ≤ 999 ∧ Lib.decDigits n = l := by
  unfold numOf at h
  have h1 := List.find?_some h
  have h2 := List.mem_of_find?_eq_some h
  rw [List.mem_range] at h2
  exact ⟨by omega, by simpa using h1⟩
theorem numOf_none {l : List UInt8} (h : numOf l = none) (n : Nat) (hn : n ≤ 999) : Lib.decDigits n ≠ l := by
  unfold numOf at h
  rw [List.find?_eq_none] at h
  have := h n (by rw [List.mem_range]; omega)
  simpa using this
theorem numOf_digits {n : Nat} (h : n ≤ 999) : numOf (Lib.decDigits n) = some n := by
  cases hn : numOf (Lib.decDigits n) with
  | none => exact absurd rfl (numOf_none hn n h)
  | some m => rw [decDigits_inj (numOf_some hn).2]
theorem numOf_itoa {n : Int} (h : ¬ (0 ≤ n ∧ n ≤ 999)) : numOf (Lib.itoa n) = none := by
  cases hn : numOf (Lib.itoa n) with
  | none => rfl
  | some m =>
    obtain ⟨h1, h2⟩ := numOf_some hn
    rw [← Lib.itoa_nonneg m] at h2
    have := itoa_inj h2
    omega
/-- What Number tells beside the bool: the number, or 0. -/
def numVal (l : List UInt8) : Int := ((numOf l).getD 0 : Nat)
def isNum (l : List UInt8) : Bool := (numOf l).isSome

end Go.Proofs.YtccpfgpdcicjaaaDoor

namespace Go.Proofs.YtccpfgpdcicjaaaDoor
open Go.RowKit Go.Maps

/-- A row of numbers as a text: each in decimal, a comma behind it. -/
def numsL : List Nat → List UInt8
  | [] => []
  | i :: r => Lib.itoa (i : Int) ++ 44 :: numsL r
theorem numsL_snoc : ∀ (l : List Nat) (i : Nat), numsL (l ++ [i]) = numsL l ++ Lib.itoa (i : Int) ++ [44]
  | [], i => by simp [numsL]
  | a :: r, i => by rw [List.cons_append, numsL, numsL, numsL_snoc r i]; simp
theorem comma_cut : ∀ {a b x y : List UInt8}, (∀ c ∈ a, c ≠ 44) → (∀ c ∈ b, c ≠ 44) → a ++ 44 :: x = b ++ 44 :: y → a = b ∧ x = y
  | [], [], _, _, _, _, h => by simp at h; exact ⟨rfl, h⟩
  | [], d :: b, _, _, _, hb, h => by
    simp only [List.nil_append, List.cons_append, List.cons.injEq] at h
    exact absurd h.1.symm (hb d (List.mem_cons_self ..))
  | c :: a, [], _, _, ha, _, h => by
    simp only [List.nil_append, List.cons_append, List.cons.injEq] at h
    exact absurd h.1 (ha c (List.mem_cons_self ..))
  | c :: a, d :: b, x, y, ha, hb, h => by
    simp only [List.cons_append, List.cons.injEq] at h
    obtain ⟨e1, e2⟩ := comma_cut (fun c hc => ha c (List.mem_cons_of_mem _ hc)) (fun c hc => hb c (List.mem_cons_of_mem _ hc)) h.2
    exact ⟨by rw [h.1, e1], e2⟩
theorem itoa_no_comma (i : Nat) : ∀ c ∈ Lib.itoa (i : Int), c ≠ 44 := fun c hc e => by
  rw [Lib.itoa_nonneg] at hc
  have := decDigits_range i c hc
  rw [e] at this
  exact absurd this.1 (by decide)
theorem numsL_inj : ∀ {a b : List Nat}, numsL a = numsL b → a = b
  | [], [], _ => rfl
  | [], i :: r, h => by
    have := congrArg List.length h
    simp [numsL] at this
  | i :: r, [], h => by
    have := congrArg List.length h
    simp [numsL] at this
  | i :: r, j :: s, h => by
    rw [numsL, numsL] at h
    obtain ⟨e1, e2⟩ := comma_cut (itoa_no_comma i) (itoa_no_comma j) h
    rw [Lib.itoa_nonneg, Lib.itoa_nonneg] at e1
    rw [decDigits_inj e1, numsL_inj e2]

/-- The key of a node. -/
def keyV (k n : Int) (s : ByteArray) (is : List Nat) : Value := .agg #[.int .i64 k, .int .i64 n, .string s, .string ⟨(numsL is).toArray⟩]
theorem keyV_inj {k n k' n' : Int} {s s' : ByteArray} {is is' : List Nat} (h : keyV k n s is = keyV k' n' s' is') : k = k' ∧ n = n' ∧ s = s' ∧ is = is' := by
  unfold keyV at h
  simp only [Value.agg.injEq, Array.mk.injEq, List.cons.injEq, Value.int.injEq, true_and, Value.string.injEq, ByteArray.mk.injEq, and_true] at h
  obtain ⟨h1, h2, h3, h4⟩ := h
  exact ⟨h1, h2, h3, numsL_inj h4⟩
theorem keyType : Tryd.prog.keyTypeAt 9 75 = true := by kernel_rfl
theorem keyTypeOf : Tryd.prog.keyType 75 = true := by kernel_rfl
theorem keyLaid : laidOutB Tryd.prog = true := by kernel_rfl
theorem keyRow : 75 < Tryd.prog.types.size := of_decide_eq_true (by kernel_rfl)
theorem keyed_node : Keyed Tryd.prog 75 := Keyed.of_law (deep_law_laid keyLaid (m := 9) (by omega) keyRow keyType (by rw [Tryd.underlying75]))
theorem cellsInt : Tryd.prog.cellsOf 3 = 1 := by kernel_rfl
theorem cellsStr : Tryd.prog.cellsOf 9 = 1 := by kernel_rfl
theorem cellsKey : Tryd.prog.cellsOf 75 = 4 := by kernel_rfl
/-- What such a key reads as. -/
def keyLit (k n : Int) (s : ByteArray) (is : List Nat) : Lit := .string (keyBytes [.int .i64 k, .int .i64 n, .string s.data.toList, .string (numsL is)])
theorem keyOf_node (k n : Int) (s : ByteArray) (is : List Nat) (hk0 : -9223372036854775808 ≤ k) (hk1 : k ≤ 9223372036854775807) (hn0 : -9223372036854775808 ≤ n) (hn1 : n ≤ 9223372036854775807) (hs : s.size ≤ maxLen) (hi : (numsL is).length ≤ maxLen) :
    keyOf Tryd.prog 75 (keyV k n s is) = some (keyLit k n s is) := by
  unfold keyOf
  rw [Tryd.underlying75]
  simp only [keyTypeOf, Bool.true_and]
  have hf : (keyV k n s is).formed Tryd.prog 75 = true := by
    unfold keyV Value.formed
    simp only [Tryd.underlying75, cellsKey]; rfl
  rw [if_pos hf]
  obtain ⟨d, hd⟩ : ∃ d, Tryd.prog.types.size = d + 1 := ⟨Tryd.prog.types.size - 1, by have := keyRow; omega⟩
  rw [hd]
  have hi1 : ∀ x : Int, -9223372036854775808 ≤ x → x ≤ 9223372036854775807 → (Lit.int .i64 x).wf = true := fun x h0 h1 => WalkArith.wf_i64 ⟨h0, h1⟩
  have eI : ∀ x : Int, -9223372036854775808 ≤ x → x ≤ 9223372036854775807 → Tryd.prog.keyLits (d + 1) 3 [.int .i64 x] = some [.int .i64 x] := fun x h0 h1 => by
    unfold Program.keyLits
    simp only [Tryd.underlying3]
    rw [if_pos ⟨trivial, hi1 x h0 h1⟩]
  have eS : ∀ x : ByteArray, x.size ≤ maxLen → Tryd.prog.keyLits (d + 1) 9 [.string x] = some [.string x.data.toList] := fun x h => by
    unfold Program.keyLits
    simp only [Tryd.underlying9]
    rw [if_pos h]
  have e1 := eI k hk0 hk1
  have e2 := eI n hn0 hn1
  have e3 := eS s hs
  have e4 := eS ⟨(numsL is).toArray⟩ (by show (numsL is).toArray.size ≤ maxLen; simpa using hi)
  unfold Program.keyLits
  simp only [Tryd.underlying75, keyV, Value.cells]
  rw [if_pos ⟨by rw [cellsKey]; rfl, by simp⟩]
  simp [e1, e2, e3, e4, cellsInt, cellsStr, keyLit]
theorem keyLit_inj {k n k' n' : Int} {s s' : ByteArray} {is is' : List Nat} (hk0 : -9223372036854775808 ≤ k) (hk1 : k ≤ 9223372036854775807) (hn0 : -9223372036854775808 ≤ n) (hn1 : n ≤ 9223372036854775807) (hs : s.size ≤ maxLen) (hi : (numsL is).length ≤ maxLen)
    (hk0' : -9223372036854775808 ≤ k') (hk1' : k' ≤ 9223372036854775807) (hn0' : -9223372036854775808 ≤ n') (hn1' : n' ≤ 9223372036854775807) (hs' : s'.size ≤ maxLen) (hi' : (numsL is').length ≤ maxLen) (h : keyLit k n s is = keyLit k' n' s' is') :
    k = k' ∧ n = n' ∧ s = s' ∧ is = is' := by
  have e1 := keyOf_node k n s is hk0 hk1 hn0 hn1 hs hi
  have e2 := keyOf_node k' n' s' is' hk0' hk1' hn0' hn1' hs' hi'
  rw [h] at e1
  exact keyV_inj (keyed_node.inj e1 e2)

/-- The numbers of a term's arguments in a list. -/
noncomputable def argN (L : List Tm) (t : Tm) : List Nat := t.args.map (idxT L)
noncomputable def litT (L : List Tm) (t : Tm) : Lit := keyLit t.kind t.n t.name (argN L t)
/-- A term that a key can be made of: its numbers are int's, its name is short, and it has few arguments. -/
structure Fine (L : List Tm) (t : Tm) : Prop where
  fit : Fit t.kind t.name t.n
  name : t.name.size ≤ 100
  args : t.args.length ≤ 300
  few : L.length ≤ 100000
theorem numsL_len : ∀ {l : List Nat}, (∀ i ∈ l, i ≤ 9223372036854775807) → (numsL l).length ≤ l.length * 22
  | [], _ => by simp [numsL]
  | i :: r, h => by
    have h1 := numsL_len (l := r) (fun x hx => h x (List.mem_cons_of_mem _ hx))
    have h2 := Lib.itoa_length_le (i : Int) (by omega) (by have := h i (List.mem_cons_self ..); omega)
    rw [numsL, List.length_append, List.length_cons, List.length_cons]; omega
theorem argN_le (L : List Tm) (t : Tm) : ∀ i ∈ argN L t, i ≤ L.length := fun i hi => by
  unfold argN at hi
  obtain ⟨x, _, rfl⟩ := List.mem_map.1 hi
  exact idxT_le L x
theorem Fine.len {L : List Tm} {t : Tm} (h : Fine L t) : (numsL (argN L t)).length ≤ 6600 := by
  have h1 := numsL_len (l := argN L t) (fun i hi => by have := argN_le L t i hi; have := h.few; omega)
  have h2 : (argN L t).length = t.args.length := by unfold argN; rw [List.length_map]
  have := h.args
  omega
theorem map_idx_inj {L : List Tm} : ∀ {a b : List Tm}, (∀ x ∈ a, x ∈ L) → (∀ x ∈ b, x ∈ L) → a.map (idxT L) = b.map (idxT L) → a = b
  | [], [], _, _, _ => rfl
  | [], _ :: _, _, _, h => by simp at h
  | _ :: _, [], _, _, h => by simp at h
  | x :: a, y :: b, ha, hb, h => by
    rw [List.map_cons, List.map_cons, List.cons.injEq] at h
    have e1 := idxT_get (idxT_mem (ha x (List.mem_cons_self ..)))
    have e2 := idxT_get (idxT_mem (hb y (List.mem_cons_self ..)))
    rw [h.1, e2] at e1
    rw [Option.some.inj e1, map_idx_inj (fun z hz => ha z (List.mem_cons_of_mem _ hz)) (fun z hz => hb z (List.mem_cons_of_mem _ hz)) h.2]
theorem lit_inj {L : List Tm} {t x : Tm} (ht : Fine L t) (hx : Fine L x) (ht2 : ∀ y ∈ t.args, y ∈ L) (hx2 : ∀ y ∈ x.args, y ∈ L) (h : litT L t = litT L x) : t = x := by
  have e := keyLit_inj ht.fit.klo ht.fit.khi ht.fit.nlo ht.fit.nhi (by have := ht.name; unfold maxLen; omega) (by have := ht.len; unfold maxLen; omega)
    hx.fit.klo hx.fit.khi hx.fit.nlo hx.fit.nhi (by have := hx.name; unfold maxLen; omega) (by have := hx.len; unfold maxLen; omega) h
  obtain ⟨h1, h2, h3, h4⟩ := e
  rw [Tm.eta t, Tm.eta x, h1, h2, h3, map_idx_inj ht2 hx2 h4]
theorem Fine.key {L : List Tm} {t : Tm} (h : Fine L t) : keyOf Tryd.prog 75 (keyV t.kind t.n t.name (argN L t)) = some (litT L t) :=
  keyOf_node _ _ _ _ h.fit.klo h.fit.khi h.fit.nlo h.fit.nhi (by have := h.name; unfold maxLen; omega) (by have := h.len; unfold maxLen; omega)

/-- A table has the number of each term of a list, and nothing else. -/
structure TabOf (D : DataW Unit) (L : List Tm) : Prop where
  isMap : IsMap D
  hit : ∀ (i : Nat) (h : i < L.length), has D (litT L L[i]) = true ∧ D.atKey (litT L L[i]) (.lit (.int .i64 0)) = .lit (.int .i64 i)
  only : ∀ l, has D l = true → ∃ (i : Nat) (h : i < L.length), l = litT L L[i]
theorem TabOf.nil : TabOf (.map []) [] := ⟨isMap_empty, fun i h => by simp at h, fun l h => by simp [has] at h⟩
theorem TabOf.in_ {D : DataW Unit} {L : List Tm} (h : TabOf D L) {t : Tm} (ht : t ∈ L) : has D (litT L t) = true ∧ D.atKey (litT L t) (.lit (.int .i64 0)) = .lit (.int .i64 (idxT L t)) := by
  have e := idxT_get (idxT_mem ht)
  have h1 := h.hit _ (idxT_mem ht)
  rw [List.getElem?_eq_getElem (idxT_mem ht)] at e
  rw [Option.some.inj e] at h1
  exact h1
theorem TabOf.out {D : DataW Unit} {L : List Tm} (h : TabOf D L) (ho : Ord L) (hL : ∀ x ∈ L, Fine L x) {t : Tm} (hf : Fine L t) (ha : ∀ x ∈ t.args, x ∈ L) (ht : t ∉ L) : has D (litT L t) = false := by
  rw [← Bool.not_eq_true]
  intro hh
  obtain ⟨i, hi, e⟩ := h.only _ hh
  have hm := List.getElem_mem hi
  exact ht (by rw [lit_inj hf (hL _ hm) ha (fun y hy => ho.has hm hy) e]; exact hm)
theorem litT_append {L M : List Tm} {t : Tm} (h : ∀ x ∈ t.args, x ∈ L) : litT (L ++ M) t = litT L t := by
  unfold litT argN
  rw [List.map_congr_left (fun x hx => idxT_append (h x hx))]
/-- One more. -/
theorem TabOf.add {D : DataW Unit} {L : List Tm} (h : TabOf D L) (ho : Ord L) (hL : ∀ x ∈ L, Fine L x) {t : Tm} (hf : Fine L t) (ha : ∀ x ∈ t.args, x ∈ L) (ht : t ∉ L) : TabOf (D.put (litT L t) (.lit (.int .i64 L.length))) (L ++ [t]) := by
  have hk : WideAt.IsKeyLit (litT L t) := by unfold litT keyLit; trivial
  refine ⟨h.isMap.put _ _, fun i hi => ?_, fun l hl => ?_⟩
  · rw [List.length_append, List.length_singleton] at hi
    rcases Nat.lt_or_ge i L.length with h1 | h1
    · have hm := List.getElem_mem h1
      have e : (L ++ [t])[i]'(by simp; omega) = L[i] := List.getElem_append_left h1
      rw [e, litT_append (fun x hx => ho.has hm hx)]
      have hne : litT L L[i] ≠ litT L t := fun e2 => ht (by rw [lit_inj hf (hL _ hm) ha (fun y hy => ho.has hm hy) e2.symm]; exact hm)
      rw [has_put_other hne, atKey_put_other hne]
      exact h.hit i h1
    · obtain rfl : i = L.length := by omega
      have e : (L ++ [t])[L.length]'(by simp) = t := by simp
      rw [e, litT_append ha, has_put_same h.isMap hk, atKey_put_same h.isMap hk]
      exact ⟨rfl, rfl⟩
  · by_cases e : l = litT L t
    · exact ⟨L.length, by simp, by rw [e]; simp [litT_append ha]⟩
    · rw [has_put_other e] at hl
      obtain ⟨i, hi, e2⟩ := h.only _ hl
      have hm := List.getElem_mem hi
      refine ⟨i, by simp; omega, ?_⟩
      have e3 : (L ++ [t])[i]'(by simp; omega) = L[i] := List.getElem_append_left hi
      rw [e3, litT_append (fun x hx => ho.has hm hx)]; exact e2
end Go.Proofs.YtccpfgpdcicjaaaDoor

namespace Go.Proofs.YtccpfgpdcicjaaaDoor
open Go.RowKit

def nameB (t : Tm) : Bool := decide (t.name.size ≤ 100)
/-- At most so many parts, with short names. -/
def withinB (t : Tm) (most : Int) : Bool := decide ((t.parts : Int) ≤ most) && t.all.all nameB
def smallB (t : Tm) : Bool := withinB t 300
theorem within_parts {t : Tm} {most : Int} (h : withinB t most = true) : (t.parts : Int) ≤ most := by
  unfold withinB at h; rw [Bool.and_eq_true, decide_eq_true_eq] at h; exact h.1
theorem within_names {t : Tm} {most : Int} (h : withinB t most = true) : ∀ x ∈ t.all, x.name.size ≤ 100 := by
  unfold withinB at h; rw [Bool.and_eq_true, List.all_eq_true] at h
  intro x hx; have := h.2 x hx; unfold nameB at this; simpa using this
theorem small_parts {t : Tm} (h : smallB t = true) : t.parts ≤ 300 := by have := within_parts h; omega
theorem within_big {t : Tm} {most : Int} (h : ¬ (t.parts : Int) ≤ most) : withinB t most = false := by unfold withinB; rw [decide_eq_false h, Bool.false_and]
/-- Names are short up to k. -/
def NamesTo (ts : List Tm) (k : Nat) : Prop := ∀ j (h : j < ts.length), j < k → nameB ts[j] = true
theorem NamesTo.succ {ts : List Tm} {k : Nat} (h : NamesTo ts k) (hk : k < ts.length) (hs : nameB ts[k] = true) : NamesTo ts (k + 1) := by
  intro j hj hjk
  by_cases e : j = k
  · subst e; exact hs
  · exact h j hj (by omega)
theorem NamesTo.all {t : Tm} {most : Int} (h : NamesTo t.all t.all.length) (hp : (t.parts : Int) ≤ most) : withinB t most = true := by
  unfold withinB; rw [decide_eq_true hp, Bool.true_and, List.all_eq_true]
  intro x hx
  obtain ⟨j, hj, rfl⟩ := List.getElem_of_mem hx
  exact h j hj hj
theorem names_bad {t : Tm} {most : Int} {k : Nat} (hk : k < t.all.length) (h : nameB t.all[k] = false) : withinB t most = false := by
  unfold withinB; rw [Bool.and_eq_false_iff]; right
  rw [← Bool.not_eq_true, List.all_eq_true]; intro hall
  rw [hall _ (List.getElem_mem hk)] at h; cases h
/-- A row of terms, opened: empty, or at an address. -/
theorem Tms.open_ {w : World} {v : Value} {ts : List Tm} (h : Tms w v ts) : ∃ a c, v = .slice a ts.length c ∧ ts.length ≤ 9223372036854775807 ∧ (ts = [] ∨ ∃ b o, a = some ⟨b, o, none⟩ ∧ b < w.heap.size ∧
    ∀ j (h : j < ts.length), ∃ u : Tv, u.t = ts[j] ∧ u.ok w ∧ TvAt w b (o + j * 4) u) := by
  obtain ⟨a, c, hv, hl, h⟩ := h
  refine ⟨a, c, hv, hl.1, ?_⟩
  rcases h with h | ⟨b, o, ha, hlt, hr⟩
  · exact .inl h
  · exact .inr ⟨b, o, ha, hlt, fun j hj => tmAt_tv (rowAt_get hr hj)⟩

set_option maxRecDepth 100000 in
set_option maxHeartbeats 1000000 in
theorem within_tm (x : Tv) (most : Int) (h0 : 0 ≤ most) (h1 : most ≤ 100000) (w : World) (hx : x.ok w) :
    Calls Tryd.prog 20 #[x.val, .int .i64 most] w fun e w' => e = .returned (.bool (withinB x.t most)) ∧ Below w.heap.size w w' := by
  have C := Lib.hid (fun w hx => count_tm x.t.parts x most w (Nat.le_refl _) hx h0 (by omega))
  by_cases hp : (x.t.parts : Int) ≤ most
  · have hcn := cnt_in hp
    have A := Lib.hid (fun w hx => all_tm x.t.parts x w w (Nat.le_refl _) (by omega) hx (Below.refl _ _))
    rw [hcn] at C
    have HX := Lib.hid hx
    have HP := Lib.hid hp
    have HAL := Lib.hid (all_length x.t)
    have hpb : x.t.parts ≤ 100000 := by omega
    have HNE := Lib.hid (show x.t.all ≠ [] from by rw [all_eq]; simp)
    have hNT := fun (h : NamesTo x.t.all x.t.all.length) => h.all hp
    have HNT := Lib.hid hNT
    have HNB := Lib.hid (fun k hk h => names_bad (t := x.t) (most := most) (k := k) hk h)
    obtain ⟨p, hpe⟩ : ∃ p, p = x.t.parts := ⟨_, rfl⟩
    obtain ⟨ts, hts⟩ : ∃ ts, ts = x.t.all := ⟨_, rfl⟩
    obtain ⟨z, hz⟩ : ∃ z, z = withinB x.t most := ⟨_, rfl⟩
    rw [← hpe] at C hp hpb HAL
    rw [← hts] at A HNT HNB HAL HNE
    rw [← hz] at HNT HNB ⊢
    clear hcn hx hpe hts hz hNT
    obtain ⟨t, a, c⟩ := x
    simp only [Tv.val] at C A ⊢
    go_enter Tryd.func20, Tryd.ntmps20
    go_wp2_with fail
    refine (C.out _ (HX.out.below ((Below.refl _ _).alloc (Nat.le_refl _) _))).mono ?_; rintro e w1 ⟨rfl, hb1⟩
    obtain ⟨hbx, hb, hlt⟩ := below_box' (box_new _ _ _ _ _ _) hb1
    obtain ⟨c0, c1, c2, c3, _, _, _, _⟩ := hbx
    go_wp2_with fail
    refine (A.out _ (HX.out.below hb)).mono ?_; rintro e w2 ⟨v, rfl, hov, hnn, hb2⟩
    have htm := hov.tms hb2 (by have := HAL.out; omega)
    obtain ⟨a', c', rfl, hl, hh⟩ := htm.open_
    rcases hh with hh | ⟨b, o, rfl, hblt, hr⟩
    · exact absurd hh HNE.out
    have HR := Lib.hid hr
    have hbz := below_next hb hb2
    clear hov hnn hr htm hb2 hb1 hb c0 c1 c2 c3
    go_wp2
    go_loopw [15] (fun i wr => ∃ k : Nat, k ≤ ts.length ∧ i = .int .i64 k ∧ NamesTo ts k ∧ Below w2.heap.size w2 wr) (fun i _ => ts.length - (intOf i).toNat)
    case atStart => exact ⟨0, Nat.zero_le _, rfl, (fun j hj hk => by omega), Below.refl _ _⟩
    case round =>
      obtain ⟨k, hk, rfl, hsh, hbr⟩ := hrel
      have HS := Lib.hid hsh
      clear hsh
      by_cases hkl : k < ts.length
      · have hi : (k : Int) < (ts.length : Int) := by omega
        obtain ⟨u, hu, _, hat⟩ := HR.out k hkl
        obtain ⟨d0, d1, d2, d3⟩ := hat.below hbr
        have HU := Lib.hid hu
        clear hu hat
        by_cases hs : u.t.name.size ≤ 100
        · have HN := Lib.hid (show nameB ts[k] = true from by rw [← HU.out]; unfold nameB; exact decide_eq_true hs)
          go_wp2
          go_roundw
          case rel => exact ⟨k + 1, by omega, by go_num, HS.out.succ hkl HN.out, hbr.alloc hbr.size _⟩
          case measure => simp [intOf]; omega
        · have HN := Lib.hid (show nameB ts[k] = false from by rw [← HU.out]; unfold nameB; exact decide_eq_false hs)
          go_wp2
          go_ret
          exact ⟨ret_bool (HNB.out k hkl HN.out).symm, below_next hbz (hbr.alloc hbr.size _)⟩
      · obtain rfl : k = ts.length := by omega
        go_wp2
        go_ret
        exact ⟨ret_bool (HNT.out HS.out).symm, below_next hbz hbr⟩
  · have hcn := cnt_out hp
    rw [hcn] at C
    have HW := Lib.hid (within_big hp)
    have HX := Lib.hid hx
    clear hcn hp hx
    obtain ⟨t, a, c⟩ := x
    simp only [Tv.val] at C ⊢
    go_enter Tryd.func20, Tryd.ntmps20
    go_wp2_with fail
    refine (C.out _ (HX.out.below ((Below.refl _ _).alloc (Nat.le_refl _) _))).mono ?_; rintro e w1 ⟨rfl, hb1⟩
    have hb := below_box hb1
    clear hb1
    go_wp2_with fail
    go_ret
    exact ⟨ret_bool HW.out.symm, hb⟩
end Go.Proofs.YtccpfgpdcicjaaaDoor

namespace Go.Proofs.YtccpfgpdcicjaaaDoor
open Go.RowKit

set_option maxRecDepth 100000 in
set_option maxHeartbeats 1000000 in
theorem rnum_any (v : Value) (L : List Tm) (x : Tv) (w : World) (hv : Tms w v L) (hx : x.ok w) :
    Calls Tryd.prog 13 #[v, x.val] w fun e w' => e = .returned (.int .i64 (numT L x.t)) ∧ Below w.heap.size w w' := by
  obtain ⟨av, cv, rfl, hl, hh⟩ := hv.open_
  have HR := Lib.hid hh
  have HX := Lib.hid hx
  have HNA := Lib.hid (fun (k : Nat) (hk : L[k]? = some x.t) (h : ∀ j, j < k → L[j]? ≠ some x.t) => numT_at hk h)
  have HNN := Lib.hid (fun (h : ∀ j, j < L.length → L[j]? ≠ some x.t) => numT_none h)
  clear hh hx hv
  obtain ⟨t, a, c⟩ := x
  have SM := Lib.hid (fun (y : Tv) (W : World) (h1 : y.ok W) (h2 : Tv.ok W ⟨t, a, c⟩) => same_tm y.t.parts y ⟨t, a, c⟩ W (Nat.le_refl _) h1 h2)
  have hbx := box_new w (.int .i64 t.kind) (.string t.name) (.int .i64 t.n) (.slice a t.args.length c) 28
  have hBA : Below w.heap.size w (w.alloc (.cells #[.int .i64 t.kind, .string t.name, .int .i64 t.n, .slice a t.args.length c] 28)) := (Below.refl _ _).alloc (Nat.le_refl _) _
  obtain ⟨wb, hwb⟩ : ∃ wb, wb = w.alloc (.cells #[.int .i64 t.kind, .string t.name, .int .i64 t.n, .slice a t.args.length c] 28) := ⟨_, rfl⟩
  have hz : wb.heap.size = w.heap.size + 1 := by rw [hwb]; simp
  rw [← hwb] at hbx hBA
  have HBX := Lib.hid (fun (V : World) (h : Below wb.heap.size wb V) => hbx.below h (by omega))
  have HW := Lib.hid (fun (V : World) (h : Below wb.heap.size wb V) => hBA.trans (h.mono hBA.size))
  clear hbx hBA hz
  simp only [Tv.val] at *
  go_enter Tryd.func13, Tryd.ntmps13
  go_wp2_with fail
  rw [← hwb]
  clear hwb
  go_loopw [9] (fun i wr => ∃ k : Nat, k ≤ L.length ∧ i = .int .i64 k ∧ Hid (∀ j, j < k → L[j]? ≠ some t) ∧ Hid (Below wb.heap.size wb wr)) (fun i _ => L.length - (intOf i).toNat)
  case atStart => exact ⟨0, Nat.zero_le _, rfl, Lib.hid (fun j hj => by omega), Lib.hid (Below.refl _ _)⟩
  case round =>
    obtain ⟨k, hk, rfl, HN, HB⟩ := hrel
    by_cases hkl : k < L.length
    · have hi : (k : Int) < (L.length : Int) := by omega
      obtain ⟨b, o, rfl, hlt, hr⟩ := HR.out.resolve_left (by intro h; rw [h] at hkl; simp at hkl)
      obtain ⟨u, hu, huo, hat⟩ := hr k hkl
      have hbw := HW.out _ HB.out
      obtain ⟨d0, d1, d2, d3⟩ := hat.below hbw
      have HU := Lib.hid (show L[k]? = some u.t from by rw [List.getElem?_eq_getElem hkl, hu])
      have huw := huo.below hbw
      have hxw := HX.out.below hbw
      obtain ⟨ut, ua, uc⟩ := u
      have hL : Below wr.heap.size wr (wr.alloc (.cells #[.int .i64 ut.kind, .string ut.name, .int .i64 ut.n, .slice ua ut.args.length uc] 28)) := (Below.refl _ _).alloc (Nat.le_refl _) _
      have S1 := Lib.hid (SM.out ⟨ut, ua, uc⟩ _ (huw.below hL) (hxw.below hL))
      have HB1 := Lib.hid (below_next HB.out hL)
      obtain ⟨p0, p1, p2, p3, _, _, _, _⟩ := HBX.out _ HB1.out
      simp only at S1 d0 d1 d2 d3
      by_cases he : ut = t
      · rw [eqT_true he] at S1
        have HNK := Lib.hid (HNA.out k (by rw [HU.out]; simp only; rw [he]) HN.out)
        clear he hu huo hat huw hxw hL hbw hr
        go_wp2_with fail
        refine S1.out.mono ?_; rintro e w2 ⟨rfl, hb2⟩
        have HE := Lib.hid (HW.out _ (below_next HB1.out hb2))
        clear hb2
        go_wp2_with fail
        go_ret
        exact ⟨ret_int HNK.out.symm, HE.out⟩
      · rw [eqT_false he] at S1
        have HNK := Lib.hid (fun j (hj : j < k + 1) => (show L[j]? ≠ some t from by
          by_cases e : j = k
          · rw [e, HU.out]; intro h; exact he (Option.some.inj h)
          · exact HN.out j (by omega)))
        clear he hu huo hat huw hxw hL hbw hr
        go_wp2_with fail
        refine S1.out.mono ?_; rintro e w2 ⟨rfl, hb2⟩
        have HE := Lib.hid (below_next HB1.out hb2)
        clear hb2
        go_wp2_with fail
        go_roundw
        case rel => exact ⟨k + 1, by omega, by go_num, HNK, HE⟩
        case measure => simp [intOf]; omega
    · obtain rfl : k = L.length := by omega
      have HNK := Lib.hid (HNN.out HN.out)
      have HE := Lib.hid (HW.out _ HB.out)
      go_wp2_with fail
      go_ret
      exact ⟨ret_int HNK.out.symm, HE.out⟩
end Go.Proofs.YtccpfgpdcicjaaaDoor

namespace Go.Proofs.YtccpfgpdcicjaaaDoor
open Go.RowKit

/-- A slice value that reads as a list of int's. -/
def Nums (w : World) (v : Value) (ns : List Int) : Prop :=
  ∃ a c, v = .slice a ns.length c ∧ ns.length ≤ c ∧ c ≤ 9223372036854775807 ∧ (∀ n ∈ ns, -9223372036854775808 ≤ n ∧ n ≤ 9223372036854775807) ∧
    (ns = [] ∨ ∃ b off, a = some ⟨b, off, none⟩ ∧ b < w.heap.size ∧ ∀ (j : Nat) n, ns[j]? = some n → w.cell? ⟨b, off + j, none⟩ = some (.int .i64 n))
theorem Nums.below {w w' : World} {v : Value} {ns : List Int} (h : Nums w v ns) (hb : Below w.heap.size w w') : Nums w' v ns := by
  obtain ⟨a, c, hv, hl, hc, hn, h⟩ := h
  refine ⟨a, c, hv, hl, hc, hn, ?_⟩
  rcases h with h | ⟨b, off, ha, hlt, hc⟩
  · exact .inl h
  · exact .inr ⟨b, off, ha, Nat.lt_of_lt_of_le hlt hb.size, fun j n hj => by rw [hb.cell (p := ⟨b, off + j, none⟩) hlt]; exact hc j n hj⟩
/-- The rest of a place behind its first number. -/
theorem nums_tail {w : World} {b off c n : Nat} {i : Int} {r : List Int} (hn : n = r.length + 1) (h : Nums w (.slice (some ⟨b, off, none⟩) n c) (i :: r)) (a : Option Addr) (ha : r ≠ [] → a = some ⟨b, off + 1, none⟩) :
    Nums w (.slice a r.length (c - 1)) r := by
  subst hn
  obtain ⟨a', c', hv, hl, hc, hm, h⟩ := h
  cases hv
  simp only [List.length_cons] at hl
  refine ⟨a, _, rfl, by omega, by omega, fun x hx => hm x (by simp [hx]), ?_⟩
  by_cases hr : r = []
  · exact .inl hr
  · rcases h with h | ⟨b', off', he, hlt, h⟩
    · cases h
    · cases he
      exact .inr ⟨b, off + 1, ha hr, hlt, fun j x hj => by have := h (j + 1) x (by simpa using hj); rw [show off + 1 + j = off + (j + 1) from by omega]; exact this⟩
end Go.Proofs.YtccpfgpdcicjaaaDoor

namespace Go.Proofs.YtccpfgpdcicjaaaDoor
open Go.RowKit

/-- Every cell that reads in w0 reads so in W. -/
structure Reads (w0 W : World) : Prop where
  size : w0.heap.size ≤ W.heap.size
  cell : ∀ p v, w0.cell? p = some v → W.cell? p = some v
theorem Reads.refl (w : World) : Reads w w := ⟨Nat.le_refl _, fun _ _ h => h⟩
theorem Reads.trans {a b c : World} (h : Reads a b) (k : Reads b c) : Reads a c := ⟨Nat.le_trans h.size k.size, fun p v hv => k.cell p v (h.cell p v hv)⟩
theorem reads_below {w0 W : World} (h : Below w0.heap.size w0 W) : Reads w0 W := ⟨h.size, fun p v hv => by
  rw [h.cell (World.block_lt_of_cell? w0 p hv)]; exact hv⟩
mutual
theorem TmAt.reads {w w' : World} (hb : Reads w w') : ∀ {t : Tm} {b o : Nat}, TmAt w t b o → TmAt w' t b o
  | .mk k s n xs, b, o, h => by
    rw [TmAt] at h ⊢
    obtain ⟨hf, h0, h1, h2, a, c, h3, hl, hr⟩ := h
    refine ⟨hf, hb.cell _ _ h0, hb.cell _ _ h1, hb.cell _ _ h2, a, c, hb.cell _ _ h3, hl, ?_⟩
    rcases hr with hr | ⟨b', o', ha, hb', hr⟩
    · exact .inl hr
    · exact .inr ⟨b', o', ha, Nat.lt_of_lt_of_le hb' hb.size, RowAt.reads hb hr⟩
theorem RowAt.reads {w w' : World} (hb : Reads w w') : ∀ {xs : List Tm} {b o : Nat}, RowAt w xs b o → RowAt w' xs b o
  | [], _, _, _ => by rw [RowAt]; trivial
  | t :: r, b, o, h => by
    rw [RowAt] at h ⊢
    exact ⟨TmAt.reads hb h.1, RowAt.reads hb h.2⟩
end
theorem Args.reads {w w' : World} {a : Option Addr} {c : Nat} {xs : List Tm} (h : Args w a c xs) (hb : Reads w w') : Args w' a c xs := by
  obtain ⟨hl, h⟩ := h
  refine ⟨hl, ?_⟩
  rcases h with h | ⟨b, o, ha, hlt, hr⟩
  · exact .inl h
  · exact .inr ⟨b, o, ha, Nat.lt_of_lt_of_le hlt hb.size, hr.reads hb⟩
theorem Tv.ok.reads {w w' : World} {v : Tv} (h : v.ok w) (hb : Reads w w') : v.ok w' := ⟨h.1, Args.reads h.2 hb⟩
theorem Tms.reads {w w' : World} {v : Value} {ts : List Tm} (h : Tms w v ts) (hb : Reads w w') : Tms w' v ts := by
  obtain ⟨a, c, hv, h⟩ := h
  exact ⟨a, c, hv, h.reads hb⟩
/-- A memory with one block out of sight. -/
def mask (w : World) (g : Nat) : World := { w with heap := w.heap.setIfInBounds g (.deferred none) }
theorem mask_size (w : World) (g : Nat) : (mask w g).heap.size = w.heap.size := by simp [mask]
theorem mask_other (w : World) {g k : Nat} (h : k ≠ g) : (mask w g).heap[k]? = w.heap[k]? := by
  simp only [mask]
  rw [Array.getElem?_setIfInBounds, if_neg (by omega)]
theorem mask_cell {w : World} {g : Nat} {p : Addr} {v : Value} (h : (mask w g).cell? p = some v) : p.block ≠ g ∧ w.cell? p = some v := by
  have hne : p.block ≠ g := fun e => by
    have hlt := World.block_lt_of_cell? (mask w g) p h
    have : (mask w g).heap[p.block]? = some (.deferred none) := by
      rw [e] at hlt ⊢
      simp only [mask]
      rw [mask_size] at hlt
      rw [Array.getElem?_setIfInBounds_self, if_pos hlt]
    unfold World.cell? at h
    rw [this] at h
    simp at h
  exact ⟨hne, by rw [← World.cell?_of_block (w := w) (w' := mask w g) (a := p) (mask_other w hne)]; exact h⟩
/-- What is seen with a block out of sight is seen in whatever differs there alone. -/
theorem reads_mask {w W : World} {g : Nat} (hs : w.heap.size ≤ W.heap.size) (h : ∀ k, k < w.heap.size → k ≠ g → W.heap[k]? = w.heap[k]?) : Reads (mask w g) W := ⟨by rw [mask_size]; exact hs, fun p v hv => by
  obtain ⟨hne, hc⟩ := mask_cell hv
  rw [World.cell?_of_block (w := w) (w' := W) (a := p) (h p.block (World.block_lt_of_cell? w p hc) hne)]; exact hc⟩
/-- An elder memory is seen, where a block beyond it is out of sight. -/
theorem reads_into {w0 w : World} {g : Nat} (h : Reads w0 w) (hg : w0.heap.size ≤ g) : Reads w0 (mask w g) := ⟨by rw [mask_size]; exact h.size, fun p v hv => by
  have hlt := World.block_lt_of_cell? w0 p hv
  rw [World.cell?_of_block (w := w) (w' := mask w g) (a := p) (mask_other w (by omega))]; exact h.cell p v hv⟩
/-- A memory with the block of a row out of sight. -/
def shade (w : World) (o : Value) : World := match o.ownBlock with | some g => mask w g | none => w
theorem shade_size (w : World) (o : Value) : (shade w o).heap.size = w.heap.size := by
  unfold shade; split
  · exact mask_size _ _
  · rfl
theorem shade_block {w : World} {o : Value} {k : Nat} (h : some k ≠ o.ownBlock) : (shade w o).heap[k]? = w.heap[k]? := by
  unfold shade; split
  · next g e => exact mask_other w (fun e2 => h (by rw [e2, e]))
  · rfl
theorem shade_cell {w : World} {o : Value} {p : Addr} {v : Value} (h : (shade w o).cell? p = some v) : some p.block ≠ o.ownBlock ∧ w.cell? p = some v := by
  unfold shade at h; split at h
  · next g e =>
    obtain ⟨h1, h2⟩ := mask_cell h
    exact ⟨fun e2 => h1 (by rw [e] at e2; exact Option.some.inj e2), h2⟩
  · next e => exact ⟨fun e2 => (by rw [e] at e2; cases e2), h⟩
theorem shade_reads (w : World) (o : Value) : Reads (shade w o) w := ⟨by rw [shade_size]; exact Nat.le_refl _, fun _ _ h => (shade_cell h).2⟩
theorem shade_into {w0 w : World} {o : Value} (h : Reads w0 w) (hg : ∀ g, o.ownBlock = some g → w0.heap.size ≤ g) : Reads w0 (shade w o) := by
  unfold shade; split
  · next g e => exact reads_into h (hg g e)
  · exact h
theorem shade_to {w W : World} {o o' : Value} (hs : w.heap.size ≤ W.heap.size) (h : ∀ k, k < w.heap.size → some k ≠ o.ownBlock → W.heap[k]? = w.heap[k]? ∧ some k ≠ o'.ownBlock) : Reads (shade w o) (shade W o') := by
  refine ⟨by rw [shade_size, shade_size]; exact hs, fun p v hv => ?_⟩
  obtain ⟨h1, h2⟩ := shade_cell hv
  obtain ⟨h3, h4⟩ := h p.block (World.block_lt_of_cell? w p h2) h1
  rw [World.cell?_of_block (w := w) (w' := shade W o') (a := p) ((shade_block h4).trans h3)]
  exact h2
theorem shade_below {w W : World} {o : Value} (h : Below w.heap.size w W) : Reads (shade w o) (shade W o) := shade_to h.size fun k hk hne => ⟨h.block k hk, hne⟩
theorem shade_grow {w W : World} {o o' : Value} (h : w.grownBy W o.ownBlock) (hat : o'.ownBlock = o.ownBlock ∨ o'.ownBlock = some w.heap.size) : Reads (shade w o) (shade W o') := shade_to h.size fun k hk hne => ⟨h.block k hk hne, by
  rcases hat with e | e
  · rw [e]; exact hne
  · rw [e]; intro e2; injection e2 with e2; omega⟩
end Go.Proofs.YtccpfgpdcicjaaaDoor

namespace Go.Proofs.YtccpfgpdcicjaaaDoor
open Go.RowKit

/-- The zero term. -/
def zeroT : Tm := .mk 0 ⟨#[]⟩ 0 []
def zeroV : Tv := ⟨zeroT, none, 0⟩
theorem zeroV_ok (w : World) : zeroV.ok w := by refine ⟨⟨?_, ?_, ?_, ?_, ?_⟩, ?_, .inl rfl⟩ <;> decide
/-- What stands at a place, if there is such a place. -/
def atT : Tm → List Int → Option Tm
  | t, [] => some t
  | t, i :: r => if h : 0 ≤ i ∧ i < t.args.length then atT (t.args[i.toNat]'(by omega)) r else none
theorem atT_nil (t : Tm) : atT t [] = some t := by rw [atT]
theorem atT_in {t : Tm} {j : Nat} {r : List Int} (h : j < t.args.length) : atT t ((j : Int) :: r) = atT t.args[j] r := by
  rw [atT, dif_pos (by omega)]; simp
theorem atT_out {t : Tm} {i : Int} {r : List Int} (h : ¬ (0 ≤ i ∧ i < t.args.length)) : atT t (i :: r) = none := by rw [atT, dif_neg h]

/-- What a call of At leaves. -/
def AtPost (o : Option Tm) (w0 w : World) (e : Ending) (w' : World) : Prop :=
  ∃ y : Tv, e = .returned (.tuple #[y.val, .bool o.isSome]) ∧ y.t = o.getD zeroT ∧ y.ok w0 ∧ Below w.heap.size w w'
end Go.Proofs.YtccpfgpdcicjaaaDoor

namespace Go.Proofs.YtccpfgpdcicjaaaDoor
open Go.RowKit

theorem cell_aside {W : World} {u : Value} (p q : Addr) (h : q.block ≠ p.block) : (W.setCell p u).cell? q = W.cell? q := World.cell?_of_block (Below.heap_setCell _ _ _ _ h)
theorem frozen_aside {W : World} {u : Value} (p q : Addr) (h : q.block ≠ p.block) : (W.setCell p u).frozen? q = W.frozen? q := World.frozen?_of_block (Below.heap_setCell _ _ _ _ h)
theorem cell_off {W : World} {u : Value} (g i j : Nat) (h : i ≠ j) : (W.setCell ⟨g, i, none⟩ u).cell? ⟨g, j, none⟩ = W.cell? ⟨g, j, none⟩ := World.cell?_setCell_other _ _ _ _ (fun e => h (by cases e; rfl))
theorem Box.sets {w : World} {g : Nat} {x0 x1 x2 x3 : Value} (h : Box w g x0 x1 x2 x3) (y0 y1 y2 y3 : Value) :
    Box ((((w.setCell ⟨g, 0, none⟩ y0).setCell ⟨g, 1, none⟩ y1).setCell ⟨g, 2, none⟩ y2).setCell ⟨g, 3, none⟩ y3) g y0 y1 y2 y3 where
  c0 := by
    rw [cell_off g 3 0 (by decide), cell_off g 2 0 (by decide), cell_off g 1 0 (by decide)]
    exact World.cell?_setCell_same _ _ _ h.c0
  c1 := by
    rw [cell_off g 3 1 (by decide), cell_off g 2 1 (by decide)]
    refine World.cell?_setCell_same (u := x1) _ _ _ ?_
    rw [cell_off g 0 1 (by decide)]; exact h.c1
  c2 := by
    rw [cell_off g 3 2 (by decide)]
    refine World.cell?_setCell_same (u := x2) _ _ _ ?_
    rw [cell_off g 1 2 (by decide), cell_off g 0 2 (by decide)]; exact h.c2
  c3 := by
    refine World.cell?_setCell_same (u := x3) _ _ _ ?_
    rw [cell_off g 2 3 (by decide), cell_off g 1 3 (by decide), cell_off g 0 3 (by decide)]; exact h.c3
  f0 := by simp [h.f0]
  f1 := by simp [h.f1]
  f2 := by simp [h.f2]
  f3 := by simp [h.f3]
theorem Box.aside {w : World} {g : Nat} {x0 x1 x2 x3 : Value} (h : Box w g x0 x1 x2 x3) {p : Addr} (hp : g ≠ p.block) (y : Value) : Box (w.setCell p y) g x0 x1 x2 x3 where
  c0 := (cell_aside p ⟨g, 0, none⟩ hp).trans h.c0
  c1 := (cell_aside p ⟨g, 1, none⟩ hp).trans h.c1
  c2 := (cell_aside p ⟨g, 2, none⟩ hp).trans h.c2
  c3 := (cell_aside p ⟨g, 3, none⟩ hp).trans h.c3
  f0 := (frozen_aside p ⟨g, 0, none⟩ hp).trans h.f0
  f1 := (frozen_aside p ⟨g, 1, none⟩ hp).trans h.f1
  f2 := (frozen_aside p ⟨g, 2, none⟩ hp).trans h.f2
  f3 := (frozen_aside p ⟨g, 3, none⟩ hp).trans h.f3
theorem Box.asides {w : World} {g k : Nat} {x0 x1 x2 x3 : Value} (h : Box w g x0 x1 x2 x3) (hp : g ≠ k) (y0 y1 y2 y3 : Value) :
    Box ((((w.setCell ⟨k, 0, none⟩ y0).setCell ⟨k, 1, none⟩ y1).setCell ⟨k, 2, none⟩ y2).setCell ⟨k, 3, none⟩ y3) g x0 x1 x2 x3 :=
  (((h.aside (p := ⟨k, 0, none⟩) hp _).aside (p := ⟨k, 1, none⟩) hp _).aside (p := ⟨k, 2, none⟩) hp _).aside (p := ⟨k, 3, none⟩) hp _
theorem below_sets {B : Nat} {a w : World} (h : Below B a w) {g : Nat} (hg : B ≤ g) (y0 y1 y2 y3 : Value) : Below B a ((((w.setCell ⟨g, 0, none⟩ y0).setCell ⟨g, 1, none⟩ y1).setCell ⟨g, 2, none⟩ y2).setCell ⟨g, 3, none⟩ y3) :=
  (((h.setCell (p := ⟨g, 0, none⟩) hg _).setCell (p := ⟨g, 1, none⟩) hg _).setCell (p := ⟨g, 2, none⟩) hg _).setCell (p := ⟨g, 3, none⟩) hg _
theorem atT_append {u : Tm} : ∀ (p q : List Int) {t : Tm}, atT t p = some u → atT t (p ++ q) = atT u q
  | [], q, t, h => by rw [atT] at h; cases h; rfl
  | i :: r, q, t, h => by
    rw [List.cons_append]
    rw [atT] at h ⊢
    split at h
    · next hi => rw [dif_pos hi]; exact atT_append r q h
    · cases h
theorem atT_take {u t : Tm} {ns : List Int} {j : Nat} (h : atT t (ns.take j) = some u) : atT t ns = atT u (ns.drop j) := by
  have := atT_append (ns.take j) (ns.drop j) h
  rwa [List.take_append_drop] at this
theorem atT_take_succ {u t : Tm} {ns : List Int} {j : Nat} {n : Int} (h : atT t (ns.take j) = some u) (hn : ns[j]? = some n) : atT t (ns.take (j + 1)) = atT u [n] := by
  obtain ⟨hj, rfl⟩ := List.getElem?_eq_some_iff.1 hn
  rw [List.take_succ_eq_append_getElem hj]
  exact atT_append _ _ h
theorem atT_one {u : Tm} {n : Nat} (h : n < u.args.length) : atT u [(n : Int)] = some u.args[n] := by rw [atT_in h, atT_nil]
theorem atT_stop {u t : Tm} {ns : List Int} {j : Nat} {n : Int} (h : atT t (ns.take j) = some u) (hn : ns[j]? = some n) (ho : ¬ (0 ≤ n ∧ n < u.args.length)) : atT t ns = none := by
  obtain ⟨hj, rfl⟩ := List.getElem?_eq_some_iff.1 hn
  rw [atT_take h, List.drop_eq_getElem_cons hj, atT_out ho]
end Go.Proofs.YtccpfgpdcicjaaaDoor

namespace Go.Proofs.YtccpfgpdcicjaaaDoor
open Go.RowKit

/-- A row in memory as values: their cells, one behind the other. -/
theorem rowAt_vs {w : World} : ∀ {ts : List Tm} {b o : Nat}, RowAt w ts b o → ∃ vs : List Tv, vs.map Tv.t = ts ∧ (∀ x ∈ vs, x.ok w) ∧ ∀ q x, (rowTv vs)[q]? = some x → w.cell? ⟨b, o + q, none⟩ = some x
  | [], _, _, _ => ⟨[], rfl, (fun _ h => by cases h), (fun q x h => by simp [rowTv] at h)⟩
  | t :: r, b, o, h => by
    rw [RowAt] at h
    obtain ⟨u, hu, huk, c0, c1, c2, c3⟩ := tmAt_tv h.1
    obtain ⟨vs, hv, hvk, hc⟩ := rowAt_vs h.2
    refine ⟨u :: vs, by rw [List.map_cons, hu, hv], fun x hx => ?_, fun q x hq => ?_⟩
    · rcases List.mem_cons.1 hx with rfl | hx
      · exact huk
      · exact hvk x hx
    · have e : rowTv (u :: vs) = u.cells ++ rowTv vs := by unfold rowTv; rw [List.flatMap_cons]
      rw [e] at hq
      rcases Nat.lt_or_ge q 4 with h4 | h4
      · rw [List.getElem?_append_left (by simpa [Tv.cells] using h4)] at hq
        rcases (show q = 0 ∨ q = 1 ∨ q = 2 ∨ q = 3 from by omega) with rfl | rfl | rfl | rfl
        all_goals
          simp only [Tv.cells, List.getElem?_cons_zero, List.getElem?_cons_succ, Option.some.injEq] at hq
          subst hq
          assumption
      · rw [List.getElem?_append_right (by simpa [Tv.cells] using h4)] at hq
        have := hc (q - 4) x (by simpa [Tv.cells] using hq)
        rw [show o + 4 + (q - 4) = o + q from by omega] at this
        exact this
theorem addr_row (b o q : Nat) : ((⟨b, o, none⟩ : Addr).add q) = ⟨b, o + q, none⟩ := by
  unfold Addr.add; split
  · next h => subst h; rfl
  · rfl

/-- A row that the call itself has made, behind a store into a block that lay before. -/
theorem own_setCell {w : World} {base : Nat} {e : TypeId} {size : Nat} {v : Value} {n : Nat} {xs : List Value} (h : w.ownsRow base e size v n xs) {p : Addr} (hp : p.block < base) (u : Value) : (w.setCell p u).ownsRow base e size v n xs := by
  obtain ⟨hn, h⟩ := h
  refine ⟨hn, ?_⟩
  rcases h with h | ⟨g, cap, cur, rfl, hbb, hg, hr⟩
  · exact .inl h
  · exact .inr ⟨g, cap, cur, rfl, hbb, by rw [Below.heap_setCell _ _ _ _ (by omega)]; exact hg, hr⟩

theorem rowTv_cons (v : Tv) (r : List Tv) : rowTv (v :: r) = v.cells ++ rowTv r := by unfold rowTv; rw [List.flatMap_cons]
theorem rowTv_set (u : Tv) : ∀ (vs : List Tv) (k : Nat), k < vs.length → rowTv (vs.set k u) = ((((rowTv vs).set (k * 4) (.int .i64 u.t.kind)).set (k * 4 + 1) (.string u.t.name)).set (k * 4 + 2) (.int .i64 u.t.n)).set (k * 4 + 3) (.slice u.a u.t.args.length u.c)
  | [], _, h => by simp at h
  | v :: r, 0, _ => by rw [List.set_cons_zero, rowTv_cons, rowTv_cons]; rfl
  | v :: r, k + 1, h => by
    rw [List.set_cons_succ, rowTv_cons, rowTv_cons, rowTv_set u r k (by simpa using h)]
    have e : ∀ (l : List Value) (i : Nat) (x : Value), (v.cells ++ l).set (4 + i) x = v.cells ++ l.set i x := fun l i x => by
      rw [List.set_append_right _ _ (by simp [Tv.cells])]; congr 2; simp [Tv.cells]
    rw [show (k + 1) * 4 = 4 + k * 4 from by omega, show 4 + k * 4 + 1 = 4 + (k * 4 + 1) from by omega, show 4 + k * 4 + 2 = 4 + (k * 4 + 2) from by omega, show 4 + k * 4 + 3 = 4 + (k * 4 + 3) from by omega, e, e, e, e]
theorem heap_setCell_same {w : World} {g o : Nat} {cur : Array Value} {e : TypeId} {fr : Nat × Nat} (h : w.heap[g]? = some (.cells cur e fr)) (x : Value) : (w.setCell ⟨g, o, none⟩ x).heap[g]? = some (.cells (cur.setIfInBounds o x) e fr) := by
  simp [World.setCell, Array.getElem?_modify, h]
/-- A store of a term into a row of the call's own. -/
theorem own_put {w : World} {base : Nat} {e : TypeId} {g n cap : Nat} {vs : List Tv} (h : w.ownsRow base e 4 (.slice (some ⟨g, 0, none⟩) n cap) n (rowTv vs)) (u : Tv) (k : Nat) (hk : k < vs.length) :
    ((((w.setCell ⟨g, k * 4, none⟩ (.int .i64 u.t.kind)).setCell ⟨g, k * 4 + 1, none⟩ (.string u.t.name)).setCell ⟨g, k * 4 + 2, none⟩ (.int .i64 u.t.n)).setCell ⟨g, k * 4 + 3, none⟩ (.slice u.a u.t.args.length u.c)).ownsRow base e 4 (.slice (some ⟨g, 0, none⟩) n cap) n (rowTv (vs.set k u)) := by
  obtain ⟨hn, ⟨h, _⟩ | ⟨g', cap', cur, hv, hb, hgc, h1, h2, h3, hgt⟩⟩ := h
  · cases h
  · cases hv
    refine ⟨by rw [rowTv_length, List.length_set, ← rowTv_length]; exact hn, .inr ⟨g, cap, _, rfl, hb, heap_setCell_same (heap_setCell_same (heap_setCell_same (heap_setCell_same hgc _) _) _) _, h1, h2, by simpa using h3, ?_⟩⟩
    rw [rowTv_set u vs k hk, ← hgt]
    simp only [Array.toList_setIfInBounds, List.take_set]
end Go.Proofs.YtccpfgpdcicjaaaDoor

namespace Go.Proofs.YtccpfgpdcicjaaaDoor
open Go.RowKit

/-- A term in the memory of w0 and in the blocks that were made from w on: it reads so wherever both stand. -/
def Fresh (w0 w w' : World) (y : Tv) : Prop := ∀ W, Reads w0 W → w'.heap.size ≤ W.heap.size → (∀ b, w.heap.size ≤ b → b < w'.heap.size → W.heap[b]? = w'.heap[b]?) → y.ok W
theorem Fresh.ok {w0 w w' : World} {y : Tv} (h : Fresh w0 w w' y) (hb : Below w0.heap.size w0 w') : y.ok w' := h w' (reads_below hb) (Nat.le_refl _) (fun _ _ _ => rfl)
theorem fresh_old {w0 w w' : World} {y : Tv} (h : y.ok w0) : Fresh w0 w w' y := fun _ hb _ _ => h.reads hb
/-- Likewise, but for one block, which holds a copy. -/
def Near (w0 : World) (B : Nat) (wd : World) (g : Nat) (y : Tv) : Prop := ∀ W, Reads w0 W → wd.heap.size ≤ W.heap.size → (∀ b, B ≤ b → b < wd.heap.size → b ≠ g → W.heap[b]? = wd.heap[b]?) → y.ok W
theorem near_alloc {w0 ws w4 : World} {y : Tv} {B : Nat} (hB : B = ws.heap.size) (h : Fresh w0 ws w4 y) (o : Obj) : Near w0 B (w4.alloc o) w4.heap.size y := fun W hb hs hag => by
  subst hB
  refine h W hb (by simp at hs; omega) (fun b h1 h2 => ?_)
  rw [hag b h1 (by simp; omega) (by omega)]
  exact heap_alloc_old w4 _ h2
theorem near_sets {w0 ws w4 : World} {y : Tv} {g : Nat} (hg : ws.heap.size = g + 1) (h : Fresh w0 ws w4 y) (u0 u1 u2 u3 : Value) :
    Near w0 g ((((w4.setCell ⟨g, 0, none⟩ u0).setCell ⟨g, 1, none⟩ u1).setCell ⟨g, 2, none⟩ u2).setCell ⟨g, 3, none⟩ u3) g y := fun W hb hs hag => by
  refine h W hb (by simpa using hs) (fun b h1 h2 => ?_)
  have hne : b ≠ g := by omega
  rw [hag b (by omega) (by simpa using h2) hne]
  rw [Below.heap_setCell _ _ _ _ hne, Below.heap_setCell _ _ _ _ hne, Below.heap_setCell _ _ _ _ hne, Below.heap_setCell _ _ _ _ hne]
theorem own_where {w W : World} {base : Nat} {e : TypeId} {size : Nat} {v : Value} {n : Nat} {xs : List Value} (h : w.ownsRow base e size v n xs) (hb : ∀ b, base ≤ b → b < w.heap.size → W.heap[b]? = w.heap[b]?) : W.ownsRow base e size v n xs := by
  obtain ⟨hn, h⟩ := h
  refine ⟨hn, ?_⟩
  rcases h with h | ⟨g, cap, cur, rfl, hbb, hg, hr⟩
  · exact .inl h
  · exact .inr ⟨g, cap, cur, rfl, hbb, by rw [hb g hbb (Array.getElem?_eq_some_iff.1 hg).1]; exact hg, hr⟩
/-- A term over a row that the call has made. -/
theorem fresh_row {w0 w wf : World} {a : Option Addr} {cap n : Nat} {vs : List Tv} {k : Int} {s : ByteArray} {nn : Int} {ts : List Tm} (hown : wf.ownsRow w.heap.size 28 4 (.slice a n cap) n (rowTv vs)) (hn : ts.length = n) (hvs : vs.map Tv.t = ts) (hfit : Fit k s nn) (hlen : n ≤ 9223372036854775807)
    (hok : ∀ W, Reads w0 W → wf.heap.size ≤ W.heap.size → (∀ b, w.heap.size ≤ b → b < wf.heap.size → W.heap[b]? = wf.heap[b]?) → ∀ v ∈ vs, v.ok W) : Fresh w0 w wf ⟨.mk k s nn ts, a, cap⟩ := fun W hb hs hag => by
  subst hn
  have h1 : OwnTv W W w.heap.size (.slice a ts.length cap) ts := ⟨vs, hvs, hok W hb hs hag, own_where hown hag⟩
  obtain ⟨a', c', e, hA⟩ := h1.tms (Below.refl _ _) hlen
  obtain ⟨rfl, rfl⟩ : a = a' ∧ cap = c' := by cases e; exact ⟨rfl, rfl⟩
  exact ⟨hfit, hA⟩
theorem map_set_t (vs : List Tv) (j : Nat) (u : Tv) : (vs.set j u).map Tv.t = (vs.map Tv.t).set j u.t := by rw [List.map_set]
/-- Where terms of a row that grows stand: what the call was handed, and all that it has made, but for the row itself. -/
def Beside (w0 w wr : World) (o : Value) (y : Tv) : Prop := ∀ W, Reads w0 W → wr.heap.size ≤ W.heap.size → (∀ b, w.heap.size ≤ b → b < wr.heap.size → some b ≠ o.ownBlock → W.heap[b]? = wr.heap[b]?) → y.ok W
theorem Beside.below {w0 w wr w' : World} {o : Value} {y : Tv} (h : Beside w0 w wr o y) (hb : Below wr.heap.size wr w') : Beside w0 w w' o y := fun W h1 h2 h3 =>
  h W h1 (Nat.le_trans hb.size h2) (fun b b1 b2 b3 => by rw [h3 b b1 (Nat.lt_of_lt_of_le b2 hb.size) b3]; exact hb.block b b2)
theorem Beside.grown {w0 w wr w' : World} {o o' : Value} {y : Tv} (h : Beside w0 w wr o y) (hg : wr.grownBy w' o.ownBlock) (hat : o'.ownBlock = o.ownBlock ∨ o'.ownBlock = some wr.heap.size) : Beside w0 w w' o' y := fun W h1 h2 h3 =>
  h W h1 (Nat.le_trans hg.size h2) (fun b b1 b2 b3 => by
    rw [h3 b b1 (Nat.lt_of_lt_of_le b2 hg.size) (by
      rcases hat with e | e
      · rw [e]; exact b3
      · rw [e]; intro he; injection he with he; omega)]
    exact hg.block b b2 b3)
theorem beside_old {w0 w wr : World} {o : Value} {y : Tv} (h : y.ok w0) : Beside w0 w wr o y := fun _ hb _ _ => h.reads hb
/-- What an inner call has made, beside a row that lay before. -/
theorem beside_fresh {w0 w ws wr : World} {o : Value} {y : Tv} (h : Fresh w0 ws wr y) (hs : w.heap.size ≤ ws.heap.size) (ho : ∀ g, o.ownBlock = some g → g < ws.heap.size) : Beside w0 w wr o y := fun W h1 h2 h3 =>
  h W h1 h2 (fun b b1 b2 => h3 b (by omega) b2 (fun e => by have := ho b e.symm; omega))
theorem beside_near {w0 w wd : World} {g : Nat} {o : Value} {z : Tv} (h : Near w0 g wd g z) (hs : w.heap.size ≤ g) (ho : ∀ k, o.ownBlock = some k → k < g) : Beside w0 w wd o z := fun W h1 h2 h3 =>
  h W h1 h2 (fun b b1 b2 _ => h3 b (by omega) b2 (fun e => by have := ho b e.symm; omega))
end Go.Proofs.YtccpfgpdcicjaaaDoor
