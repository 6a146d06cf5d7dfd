/-
  A text as tokens, as a function of the text: what a scan answers, step by step. Nothing of memory.
-/
import Derived.Test.YtljkaaliagppdaaDoorAt
import Derived.Test.YtljkaaliagppdaaDoorRow
namespace Go.Proofs.YtljkaaliagppdaaDoor
open Go.RowKit

/-- A byte that doesn't end a line. -/
def inLine (c : UInt8) : Bool := (c.toNat : Int) != 10
/-- How many bytes of a remark stand at place i. -/
def rem (s : ByteArray) (i : Nat) : Nat := ((s.data.toList.drop i).takeWhile inLine).length
theorem rem_some (s : ByteArray) {i : Nat} (h : i < s.size) (hp : ((s[i].toNat : Int) == 10) = false) : rem s i = rem s (i + 1) + 1 := by
  unfold rem; rw [drop_cons s h, List.takeWhile_cons_of_pos (by unfold inLine; rw [bne, hp]; rfl)]; rfl
theorem rem_none (s : ByteArray) {i : Nat} (h : i < s.size) (hp : ((s[i].toNat : Int) == 10) = true) : rem s i = 0 := by
  unfold rem; rw [drop_cons s h, List.takeWhile_cons_of_neg (by unfold inLine; rw [bne, hp]; simp)]; rfl
theorem rem_end (s : ByteArray) : rem s s.size = 0 := by
  unfold rem; rw [List.drop_of_length_le (by simp)]; rfl

/-- The token that a cut at place i is. -/
def tokAt (s : ByteArray) (i : Nat) (c : Cut) : Tok := ⟨c.kind, s.extract i (i + c.len), c.n, i⟩
/-- The end's token. -/
def endTok (s : ByteArray) : Tok := ⟨0, ⟨#[]⟩, 0, s.size⟩
/-- The scan from place i on, with what was told ahead; so many steps at most. -/
def scanF : Nat → ByteArray → Nat → List Tok → Nat ⊕ List Tok
  | 0, s, _, acc => .inr (acc ++ [endTok s])
  | f + 1, s, i, acc =>
    if s.size ≤ i then .inr (acc ++ [endTok s])
    else if cls (head (s.data.toList.drop i)) = 5 then scanF f s (i + 1) acc
    else if head (s.data.toList.drop i) = 35 then scanF f s (i + rem s i) acc
    else match tokL (s.data.toList.drop i) with
      | none => .inl i
      | some c => scanF f s (i + c.len) (acc ++ [tokAt s i c])
/-- What the scan of a text tells: where it breaks, or its tokens. -/
def scanS (s : ByteArray) : Nat ⊕ List Tok := scanF s.size s 0 []

/-- The scan has come to place i, with acc told ahead. -/
def ScanTo (s : ByteArray) (i : Nat) (acc : List Tok) : Prop := i ≤ s.size ∧ acc.length ≤ i ∧ ∃ f, s.size - i ≤ f ∧ scanS s = scanF f s i acc
theorem scan_start (s : ByteArray) : ScanTo s 0 [] := ⟨Nat.zero_le _, Nat.zero_le _, s.size, by omega, rfl⟩
theorem scan_end {s : ByteArray} {i : Nat} {acc : List Tok} (h : ScanTo s i acc) (hi : ¬ i < s.size) : scanS s = .inr (acc ++ [endTok s]) := by
  obtain ⟨_, _, f, _, he⟩ := h
  rw [he]
  cases f with
  | zero => rfl
  | succ f => unfold scanF; rw [if_pos (by omega)]
theorem scan_space {s : ByteArray} {i : Nat} {acc : List Tok} (h : ScanTo s i acc) (hi : i < s.size) (hc : cls (s[i].toNat : Int) = 5) : ScanTo s (i + 1) acc := by
  obtain ⟨h1, h2, f, hf, he⟩ := h
  cases f with
  | zero => omega
  | succ f =>
    refine ⟨by omega, by omega, f, by omega, ?_⟩
    rw [he]; show scanF (f + 1) s i acc = _
    rw [scanF, if_neg (by omega), head_at hi, if_pos hc]
theorem rem_pos {s : ByteArray} {i : Nat} (hi : i < s.size) (hb : (s[i].toNat : Int) = 35) : 1 ≤ rem s i := by
  rw [rem_some s hi (by rw [hb]; decide)]; omega
theorem rem_le (s : ByteArray) {i : Nat} (h : i ≤ s.size) : i + rem s i ≤ s.size := by
  unfold rem
  have h1 := tw_len inLine (s.data.toList.drop i)
  rw [List.length_drop] at h1
  have h2 : s.data.toList.length = s.size := by simp
  omega
theorem scan_remark {s : ByteArray} {i : Nat} {acc : List Tok} (h : ScanTo s i acc) (hi : i < s.size) (hb : (s[i].toNat : Int) = 35) : ScanTo s (i + rem s i) acc := by
  obtain ⟨h1, h2, f, hf, he⟩ := h
  have hp := rem_pos hi hb
  have hl := rem_le s h1
  cases f with
  | zero => omega
  | succ f =>
    refine ⟨by omega, by omega, f, by omega, ?_⟩
    rw [he, scanF, if_neg (by omega), head_at hi, if_neg (by rw [hb]; decide), if_pos hb]
theorem tokL_pos {l : List UInt8} {c : Cut} (h : tokL l = some c) (hl : l ≠ []) : 1 ≤ c.len ∧ c.len ≤ l.length := by
  obtain ⟨b, r, rfl⟩ := List.exists_cons_of_ne_nil hl
  have hr := tw_len pc r
  have hbr := tw_len pc (b :: r)
  simp only [List.length_cons] at hbr ⊢
  unfold tokL at h
  simp only [List.tail_cons] at h
  split at h
  · rw [numCut_len h]; omega
  · split at h
    · rw [numCut_len h]; omega
    · split at h
      · cases h; simp
      · split at h
        · next h3 =>
          rw [numCut_len h]
          have : pc b = true := by unfold pc part; rw [decide_eq_true_eq]; left; rw [show head (b :: r) = (b.toNat : Int) from rfl] at h3; omega
          rw [List.takeWhile_cons_of_pos this] at hbr ⊢
          simp only [List.length_cons] at hbr ⊢; omega
        · split at h
          · next h3 =>
            have : pc b = true := by unfold pc part; rw [decide_eq_true_eq]; left; rw [show head (b :: r) = (b.toNat : Int) from rfl] at h3; omega
            rw [List.takeWhile_cons_of_pos this] at hbr h
            simp only [List.length_cons] at hbr h
            split at h
            · cases h; simp; omega
            · split at h
              · cases h; simp; omega
              · cases h
          · cases h
theorem scan_token {s : ByteArray} {i : Nat} {acc : List Tok} {c : Cut} (h : ScanTo s i acc) (hi : i < s.size) (h5 : cls (s[i].toNat : Int) ≠ 5) (hb : (s[i].toNat : Int) ≠ 35) (hc : tokL (s.data.toList.drop i) = some c) :
    ScanTo s (i + c.len) (acc ++ [tokAt s i c]) ∧ 1 ≤ c.len := by
  obtain ⟨h1, h2, f, hf, he⟩ := h
  have hp := tokL_pos hc (by rw [drop_cons s hi]; simp)
  rw [List.length_drop] at hp
  have hsz : s.data.toList.length = s.size := by simp
  cases f with
  | zero => omega
  | succ f =>
    refine ⟨⟨by omega, by simp; omega, f, by omega, ?_⟩, hp.1⟩
    rw [he, scanF, if_neg (by omega), head_at hi, if_neg h5, if_neg hb, hc]
theorem scan_bad {s : ByteArray} {i : Nat} {acc : List Tok} (h : ScanTo s i acc) (hi : i < s.size) (h5 : cls (s[i].toNat : Int) ≠ 5) (hb : (s[i].toNat : Int) ≠ 35) (hc : tokL (s.data.toList.drop i) = none) : scanS s = .inl i := by
  obtain ⟨h1, h2, f, hf, he⟩ := h
  cases f with
  | zero => omega
  | succ f => rw [he, scanF, if_neg (by omega), head_at hi, if_neg h5, if_neg hb, hc]

/-- What Scan answers: its tokens, its error, the place of that. -/
def outToks (s : ByteArray) : List Tok := if s.size ≤ 8192 then (match scanS s with | .inl _ => [] | .inr ts => ts) else []
def outErr (s : ByteArray) : Int := if s.size ≤ 8192 then (match scanS s with | .inl _ => 2 | .inr _ => 0) else 3
def outAt (s : ByteArray) : Int := if s.size ≤ 8192 then (match scanS s with | .inl i => (i : Int) | .inr _ => 0) else 0
theorem out_long {s : ByteArray} (h : ¬ s.size ≤ 8192) : outToks s = [] ∧ outErr s = 3 ∧ outAt s = 0 := by
  unfold outToks outErr outAt; rw [if_neg h, if_neg h, if_neg h]; exact ⟨rfl, rfl, rfl⟩
theorem out_bad {s : ByteArray} {i : Nat} (h : s.size ≤ 8192) (hs : scanS s = .inl i) : outToks s = [] ∧ outErr s = 2 ∧ outAt s = i := by
  unfold outToks outErr outAt; rw [if_pos h, if_pos h, if_pos h, hs]; exact ⟨rfl, rfl, rfl⟩
theorem out_good {s : ByteArray} {ts : List Tok} (h : s.size ≤ 8192) (hs : scanS s = .inr ts) : outToks s = ts ∧ outErr s = 0 ∧ outAt s = 0 := by
  unfold outToks outErr outAt; rw [if_pos h, if_pos h, if_pos h, hs]; exact ⟨rfl, rfl, rfl⟩
/-- What a call of Scan leaves. -/
def ScanPost (s : ByteArray) (w : World) (e : Ending) (w' : World) : Prop :=
  ∃ v, e = .returned (.tuple #[v, .agg #[.int .i64 (outErr s), .int .i64 (outAt s)]]) ∧ Toks w' v (outToks s) ∧ Below w.heap.size w w'
end Go.Proofs.YtljkaaliagppdaaDoor
