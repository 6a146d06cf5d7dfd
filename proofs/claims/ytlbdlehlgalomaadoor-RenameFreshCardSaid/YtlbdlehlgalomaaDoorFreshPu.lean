/-
  The first name made of a name that is not used, as data. No function of the program.
-/
import Derived.Test.YtlbdlehlgalomaaDoorStrs
import Derived.Test.YtlbdlehlgalomaaDoorPlain
namespace Go.Proofs.YtlbdlehlgalomaaDoor

theorem length_le_nodup {α : Type} : ∀ (l m : List α), l.Nodup → (∀ x ∈ l, x ∈ m) → l.length ≤ m.length
  | [], _, _, _ => Nat.zero_le _
  | a :: l, m, hn, hs => by
    classical
    have hn' := List.nodup_cons.1 hn
    have ham : a ∈ m := hs a (List.mem_cons_self ..)
    have h := length_le_nodup l (m.erase a) hn'.2 (fun x hx => by
      have hne : x ≠ a := fun e => hn'.1 (by rw [← e]; exact hx)
      exact (List.mem_erase_of_ne hne).2 (hs x (List.mem_cons_of_mem _ hx)))
    have := List.length_erase_of_mem ham
    have hp := List.length_pos_of_mem ham
    rw [List.length_cons]; omega
/-- A name with a number behind. -/
def numbered (name : ByteArray) (n : Nat) : ByteArray := name ++ ⟨#[95]⟩ ++ ⟨(Lib.itoa n).toArray⟩
theorem numbered_data (name : ByteArray) (n : Nat) : (numbered name n).data.toList = name.data.toList ++ (95 :: Lib.itoa n) := by
  unfold numbered; simp
theorem numbered_inj {name : ByteArray} {m n : Nat} (h : numbered name m = numbered name n) : m = n := by
  have e := congrArg (fun b : ByteArray => b.data.toList) h
  simp only [numbered_data] at e
  have e2 := List.append_cancel_left e
  have e3 := (List.cons.inj e2).2
  have := itoa_inj e3
  omega
/-- The least number from 1 on with which a name is not used. -/
structure FirstFree (name : ByteArray) (used : List ByteArray) (n : Nat) : Prop where
  pos : 1 ≤ n
  before : ∀ m, 1 ≤ m → m < n → numbered name m ∈ used
  free : numbered name n ∉ used
theorem FirstFree.one {name : ByteArray} {used : List ByteArray} {m n : Nat} (h : FirstFree name used m) (k : FirstFree name used n) : m = n := by
  rcases Nat.lt_trichotomy m n with hlt | he | hgt
  · exact absurd (k.before m h.pos hlt) h.free
  · exact he
  · exact absurd (h.before n k.pos hgt) k.free
/-- Where all numbers up to k are used, there are k names at least. -/
theorem used_many {name : ByteArray} {used : List ByteArray} {k : Nat} (h : ∀ m, 1 ≤ m → m < k + 1 → numbered name m ∈ used) : k ≤ used.length := by
  have hl : ((List.range k).map (fun i => numbered name (i + 1))).length = k := by simp
  rw [← hl]
  refine length_le_nodup _ _ ?_ ?_
  · unfold List.Nodup
    rw [List.pairwise_map]
    refine List.Pairwise.imp ?_ (List.nodup_range (n := k))
    intro a b hab e
    exact hab (by have := numbered_inj e; omega)
  · intro x hx
    obtain ⟨i, hi, rfl⟩ := List.mem_map.1 hx
    rw [List.mem_range] at hi
    exact h (i + 1) (by omega) (by omega)
theorem FirstFree.le {name : ByteArray} {used : List ByteArray} {n : Nat} (h : FirstFree name used n) : n ≤ used.length + 1 := by
  have := used_many (k := n - 1) (name := name) (used := used) (fun m h1 h2 => h.before m h1 (by have := h.pos; omega))
  omega
theorem free_from (name : ByteArray) (used : List ByteArray) : ∀ (d n : Nat), used.length + 1 ≤ n + d → 1 ≤ n → (∀ m, 1 ≤ m → m < n → numbered name m ∈ used) → ∃ k, FirstFree name used k := by
  classical
  intro d
  induction d with
  | zero =>
    intro n hn h1 hb
    by_cases hm : numbered name n ∈ used
    · exfalso
      have := used_many (k := n) (name := name) (used := used) (fun m g1 g2 => by
        by_cases e : m = n
        · rw [e]; exact hm
        · exact hb m g1 (by omega))
      omega
    · exact ⟨n, h1, hb, hm⟩
  | succ d ih =>
    intro n hn h1 hb
    by_cases hm : numbered name n ∈ used
    · exact ih (n + 1) (by omega) (by omega) (fun m g1 g2 => by
        by_cases e : m = n
        · rw [e]; exact hm
        · exact hb m g1 (by omega))
    · exact ⟨n, h1, hb, hm⟩
theorem free_is (name : ByteArray) (used : List ByteArray) : ∃ k, FirstFree name used k := free_from name used used.length 1 (by omega) (Nat.le_refl _) (fun m h1 h2 => by omega)
/-- The number. -/
noncomputable def freeN (name : ByteArray) (used : List ByteArray) : Nat := Classical.choose (free_is name used)
theorem freeN_is (name : ByteArray) (used : List ByteArray) : FirstFree name used (freeN name used) := Classical.choose_spec (free_is name used)
theorem freeN_eq {name : ByteArray} {used : List ByteArray} {n : Nat} (h : FirstFree name used n) : freeN name used = n := (freeN_is name used).one h
theorem freeN_le (name : ByteArray) (used : List ByteArray) : freeN name used ≤ used.length + 1 := (freeN_is name used).le
/-- A name, or the first one made of it, that is not used. -/
noncomputable def freshS (name : ByteArray) (used : List ByteArray) : ByteArray := if Lib.containsS used name = true then numbered name (freeN name used) else name
theorem freshS_old {name : ByteArray} {used : List ByteArray} (h : Lib.containsS used name = false) : freshS name used = name := by unfold freshS; rw [if_neg (by rw [h]; exact Bool.false_ne_true)]
theorem freshS_new {name : ByteArray} {used : List ByteArray} {n : Nat} (h : Lib.containsS used name = true) (k : FirstFree name used n) : freshS name used = numbered name n := by
  unfold freshS; rw [if_pos h, freeN_eq k]
theorem freshS_free (name : ByteArray) (used : List ByteArray) : Lib.containsS used (freshS name used) = false := by
  cases hc : Lib.containsS used name with
  | false => rw [freshS_old hc]; exact hc
  | true =>
    rw [freshS_new hc (freeN_is name used), ← Bool.not_eq_true, Lib.containsS_iff]
    exact (freeN_is name used).free
end Go.Proofs.YtlbdlehlgalomaaDoor
