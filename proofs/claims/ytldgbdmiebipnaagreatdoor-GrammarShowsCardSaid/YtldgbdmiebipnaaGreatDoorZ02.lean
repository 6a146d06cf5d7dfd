/-
  Whether two rows of tokens are alike in all, by the reference, for any two rows. (as data)
  Rows of tokens that the call itself makes: the tokens without their places, by the reference and by package lex. (as data)
  A text as tokens, as a function of the text: what a scan answers, step by step. Nothing of memory. (as data)
  The texts of tokens with a blank between: Show of package lex and of the reference, for any tokens whose texts are short enough together. (as data)
  There and back: what the tokens of a text are shown as has the same tokens. Nothing of memory. (as data)
  Texts that are spelt out of tokens and of what may stand between them: they are scanned as these tokens. Nothing of memory.
  Terms xs data; struct values and rows in memory that read xs terms; and that a call which makes new memory alone leaves them xs they were.
-/
import Derived.Test.YtldgbdmiebipnaaGreatDoorZ01
import Derived.Lib.SlicesS
import Derived.OwnWalk
import Derived.Laws.MakeOwn
import Derived.Lib.Join
import Derived.Laws.Concat
import Derived.WalkSpells
import Derived.Below
import Derived.Laws.OwnMore
namespace Go.Proofs.YtldgbdmiebipnaaGreatDoor
open Go.RowKit

theorem Tok.eq_of {t u : Tok} (h0 : t.kind = u.kind) (h1 : t.text = u.text) (h2 : t.n = u.n) (h3 : t.place = u.place) : t = u := by
  cases t; cases u; simp_all
/-- Two rows are alike in all. -/
noncomputable def alike (ts us : List Tok) : Bool := @decide (ts = us) (Classical.propDecidable _)
theorem alike_true {ts us : List Tok} (h : ts = us) : alike ts us = true := by unfold alike; simp [h]
theorem alike_false {ts us : List Tok} (h : ts ≠ us) : alike ts us = false := by unfold alike; simp [h]
theorem alike_self (ts : List Tok) : alike ts ts = true := alike_true rfl
/-- The two rows are alike up to k. -/
def SameTo (ts us : List Tok) (k : Nat) : Prop := ∀ j (h1 : j < ts.length) (h2 : j < us.length), j < k → ts[j] = us[j]
theorem SameTo.succ {ts us : List Tok} {k : Nat} (h : SameTo ts us k) (h1 : k < ts.length) (h2 : k < us.length) (hk : ts[k] = us[k]) : SameTo ts us (k + 1) := by
  intro j a b hj
  by_cases e : j = k
  · subst e; exact hk
  · exact h j a b (by omega)
theorem SameTo.all {ts us : List Tok} (h : SameTo ts us ts.length) (hl : ts.length = us.length) : alike ts us = true :=
  alike_true (List.ext_getElem hl fun j h1 h2 => h j h1 h2 h1)
theorem unlike_at' {ts us : List Tok} {k : Nat} (h1 : k < ts.length) (h2 : k < us.length) (h : ts[k] ≠ us[k]) : alike ts us = false := by
  apply alike_false; rintro rfl; exact h rfl
theorem unlike_len' {ts us : List Tok} (h : ts.length ≠ us.length) : alike ts us = false := by
  apply alike_false; rintro rfl; exact h rfl
/-- Where two tokens part first. -/
theorem tok_ways (t u : Tok) : t = u ∨ (t ≠ u ∧ ((t.kind != u.kind) = true ∨ ((t.kind != u.kind) = false ∧ (((t.text.toList == u.text.toList) = false) ∨ ((t.text.toList == u.text.toList) = true ∧ ((t.n != u.n) = true ∨ ((t.n != u.n) = false ∧ (t.place != u.place) = true))))))) := by
  by_cases h0 : t.kind = u.kind
  · by_cases h1 : t.text = u.text
    · by_cases h2 : t.n = u.n
      · by_cases h3 : t.place = u.place
        · exact .inl (Tok.eq_of h0 h1 h2 h3)
        · exact .inr ⟨by rintro rfl; exact h3 rfl, .inr ⟨by simp [h0], .inr ⟨by simp [h1], .inr ⟨by simp [h2], by rw [bne_iff_ne]; exact h3⟩⟩⟩⟩
      · exact .inr ⟨by rintro rfl; exact h2 rfl, .inr ⟨by simp [h0], .inr ⟨by simp [h1], .inl (by rw [bne_iff_ne]; exact h2)⟩⟩⟩
    · exact .inr ⟨by rintro rfl; exact h1 rfl, .inr ⟨by simp [h0], .inl (by rw [Lib.bytes_beq_false_iff]; exact h1)⟩⟩
  · exact .inr ⟨by rintro rfl; exact h0 rfl, .inl (by rw [bne_iff_ne]; exact h0)⟩
end Go.Proofs.YtldgbdmiebipnaaGreatDoor

namespace Go.Proofs.YtldgbdmiebipnaaGreatDoor
open Go.RowKit

theorem tokInfo : (Tryz.prog.info? 50).map (fun i => (i.zero, i.size, i.bytes)) = some (some (.agg #[.int .i64 0, .string ⟨#[]⟩, .int .i64 0, .int .i64 0]), 4, 40) := by kernel_rfl
/-- The cells of a row of tokens. -/
def rowOf (ts : List Tok) : List Value := ts.flatMap Tok.cells
theorem rowOf_length (ts : List Tok) : (rowOf ts).length = ts.length * 4 := by
  unfold rowOf
  induction ts with
  | nil => rfl
  | cons t r ih => rw [List.flatMap_cons, List.length_append, ih]; simp [Tok.cells]; omega
theorem rowOf_snoc (ts : List Tok) (t : Tok) : rowOf (ts ++ [t]) = rowOf ts ++ t.cells := by
  unfold rowOf; rw [List.flatMap_append]; simp
theorem rowOf_get (ts : List Tok) (j : Nat) (h : j < ts.length) (i : Nat) (hi : i < 4) : (rowOf ts)[j * 4 + i]? = ts[j].cells[i]? := by
  induction ts generalizing j with
  | nil => simp at h
  | cons t r ih =>
    unfold rowOf
    rw [List.flatMap_cons]
    cases j with
    | zero => rw [Nat.zero_mul, Nat.zero_add, List.getElem?_append_left (by simp [Tok.cells]; omega)]; rfl
    | succ j =>
      rw [List.getElem?_append_right (by simp [Tok.cells]; omega)]
      have := ih j (by simpa using h)
      rw [show (j + 1) * 4 + i - t.cells.length = j * 4 + i from by simp [Tok.cells]; omega]
      exact this
/-- A token without its place. -/
def Tok.plain (t : Tok) : Tok := { t with place := 0 }
/-- The first k tokens, without their places. -/
def plainTo (ts : List Tok) (k : Nat) : List Tok := (ts.take k).map Tok.plain
theorem plainTo_length {ts : List Tok} {k : Nat} (h : k ≤ ts.length) : (plainTo ts k).length = k := by
  unfold plainTo; rw [List.length_map, List.length_take]; omega
theorem plainTo_snoc {ts : List Tok} {k : Nat} (h : k < ts.length) : plainTo ts (k + 1) = plainTo ts k ++ [ts[k].plain] := by
  unfold plainTo; rw [List.take_succ_eq_append_getElem h, List.map_append]; rfl
theorem plainTo_all (ts : List Tok) : plainTo ts ts.length = ts.map Tok.plain := by
  unfold plainTo; rw [List.take_length]
/-- What is owned reads as a row of tokens. -/
theorem toks_of_own {w : World} {base : Nat} {e : TypeId} {v : Value} {ts : List Tok} (h : w.ownsRow base e 4 v ts.length (rowOf ts)) (hl : ts.length ≤ 9223372036854775807) : Toks w v ts := by
  obtain ⟨hn, h⟩ := h
  rcases h with ⟨rfl, h0⟩ | ⟨g, cap, cur, rfl, hb, hg, hcap, hmax, hsz, htake⟩
  · have : ts = [] := List.eq_nil_of_length_eq_zero h0
    subst this
    exact Toks.none_ _ _ _
  · refine ⟨_, cap, rfl, hl, .inr ⟨g, 0, rfl, ?_, fun j hj => ?_⟩⟩
    · rcases Nat.lt_or_ge g w.heap.size with hlt | hge
      · exact hlt
      · rw [Array.getElem?_eq_none hge] at hg; cases hg
    · have cell : ∀ i, i < 4 → w.cell? ⟨g, 0 + j * 4 + i, none⟩ = ts[j].cells[i]? := by
        intro i hi
        rw [cell_of_row w g (0 + j * 4 + i) cur e (0, 0) hg, ← rowOf_get ts j hj i hi, ← htake, List.getElem?_take, if_pos (by omega), Nat.zero_add]
        simp
      exact ⟨cell 0 (by omega), cell 1 (by omega), cell 2 (by omega), cell 3 (by omega)⟩
end Go.Proofs.YtldgbdmiebipnaaGreatDoor

namespace Go.Proofs.YtldgbdmiebipnaaGreatDoor
open Go.RowKit

/-- A byte that doesn't end a line. -/
def inLine (c : UInt8) : Bool := (c.toNat : Int) != 10
/-- How many bytes of a remark stand at place i. -/
def rem (s : ByteArray) (i : Nat) : Nat := ((s.data.toList.drop i).takeWhile inLine).length
theorem rem_some (s : ByteArray) {i : Nat} (h : i < s.size) (hp : ((s[i].toNat : Int) == 10) = false) : rem s i = rem s (i + 1) + 1 := by
  unfold rem; rw [drop_cons s h, List.takeWhile_cons_of_pos (by unfold inLine; rw [bne, hp]; rfl)]; rfl
theorem rem_none (s : ByteArray) {i : Nat} (h : i < s.size) (hp : ((s[i].toNat : Int) == 10) = true) : rem s i = 0 := by
  unfold rem; rw [drop_cons s h, List.takeWhile_cons_of_neg (by unfold inLine; rw [bne, hp]; simp)]; rfl
theorem rem_end (s : ByteArray) : rem s s.size = 0 := by
  unfold rem; rw [List.drop_of_length_le (by simp)]; rfl
/-- The token that a cut at place i is. -/
def tokAt (s : ByteArray) (i : Nat) (c : Cut) : Tok := ⟨c.kind, s.extract i (i + c.len), c.n, i⟩
/-- The end's token. -/
def endTok (s : ByteArray) : Tok := ⟨0, ⟨#[]⟩, 0, s.size⟩
/-- The scan from place i on, with what was told ahead; so many steps at most. -/
def scanF : Nat → ByteArray → Nat → List Tok → Nat ⊕ List Tok
  | 0, s, _, acc => .inr (acc ++ [endTok s])
  | f + 1, s, i, acc =>
    if s.size ≤ i then .inr (acc ++ [endTok s])
    else if cls (head (s.data.toList.drop i)) = 5 then scanF f s (i + 1) acc
    else if head (s.data.toList.drop i) = 35 then scanF f s (i + rem s i) acc
    else match tokL (s.data.toList.drop i) with
      | none => .inl i
      | some c => scanF f s (i + c.len) (acc ++ [tokAt s i c])
/-- What the scan of a text tells: where it breaks, or its tokens. -/
def scanS (s : ByteArray) : Nat ⊕ List Tok := scanF s.size s 0 []
/-- The scan has come to place i, with acc told ahead. -/
def ScanTo (s : ByteArray) (i : Nat) (acc : List Tok) : Prop := i ≤ s.size ∧ acc.length ≤ i ∧ ∃ f, s.size - i ≤ f ∧ scanS s = scanF f s i acc
theorem scan_start (s : ByteArray) : ScanTo s 0 [] := ⟨Nat.zero_le _, Nat.zero_le _, s.size, by omega, rfl⟩
theorem scan_end {s : ByteArray} {i : Nat} {acc : List Tok} (h : ScanTo s i acc) (hi : ¬ i < s.size) : scanS s = .inr (acc ++ [endTok s]) := by
  obtain ⟨_, _, f, _, he⟩ := h
  rw [he]
  cases f with
  | zero => rfl
  | succ f => unfold scanF; rw [if_pos (by omega)]
theorem scan_space {s : ByteArray} {i : Nat} {acc : List Tok} (h : ScanTo s i acc) (hi : i < s.size) (hc : cls (s[i].toNat : Int) = 5) : ScanTo s (i + 1) acc := by
  obtain ⟨h1, h2, f, hf, he⟩ := h
  cases f with
  | zero => omega
  | succ f =>
    refine ⟨by omega, by omega, f, by omega, ?_⟩
    rw [he]; show scanF (f + 1) s i acc = _
    rw [scanF, if_neg (by omega), head_at hi, if_pos hc]
theorem rem_pos {s : ByteArray} {i : Nat} (hi : i < s.size) (hb : (s[i].toNat : Int) = 35) : 1 ≤ rem s i := by
  rw [rem_some s hi (by rw [hb]; decide)]; omega
theorem rem_le (s : ByteArray) {i : Nat} (h : i ≤ s.size) : i + rem s i ≤ s.size := by
  unfold rem
  have h1 := tw_len inLine (s.data.toList.drop i)
  rw [List.length_drop] at h1
  have h2 : s.data.toList.length = s.size := by simp
  omega
theorem scan_remark {s : ByteArray} {i : Nat} {acc : List Tok} (h : ScanTo s i acc) (hi : i < s.size) (hb : (s[i].toNat : Int) = 35) : ScanTo s (i + rem s i) acc := by
  obtain ⟨h1, h2, f, hf, he⟩ := h
  have hp := rem_pos hi hb
  have hl := rem_le s h1
  cases f with
  | zero => omega
  | succ f =>
    refine ⟨by omega, by omega, f, by omega, ?_⟩
    rw [he, scanF, if_neg (by omega), head_at hi, if_neg (by rw [hb]; decide), if_pos hb]
theorem tokL_pos {l : List UInt8} {c : Cut} (h : tokL l = some c) (hl : l ≠ []) : 1 ≤ c.len ∧ c.len ≤ l.length := by
  obtain ⟨b, r, rfl⟩ := List.exists_cons_of_ne_nil hl
  have hr := tw_len pc r
  have hbr := tw_len pc (b :: r)
  simp only [List.length_cons] at hbr ⊢
  unfold tokL at h
  simp only [List.tail_cons] at h
  split at h
  · rw [numCut_len h]; omega
  · split at h
    · rw [numCut_len h]; omega
    · split at h
      · cases h; simp
      · split at h
        · next h3 =>
          rw [numCut_len h]
          have : pc b = true := by unfold pc part; rw [decide_eq_true_eq]; left; rw [show head (b :: r) = (b.toNat : Int) from rfl] at h3; omega
          rw [List.takeWhile_cons_of_pos this] at hbr ⊢
          simp only [List.length_cons] at hbr ⊢; omega
        · split at h
          · next h3 =>
            have : pc b = true := by unfold pc part; rw [decide_eq_true_eq]; left; rw [show head (b :: r) = (b.toNat : Int) from rfl] at h3; omega
            rw [List.takeWhile_cons_of_pos this] at hbr h
            simp only [List.length_cons] at hbr h
            split at h
            · cases h; simp; omega
            · split at h
              · cases h; simp; omega
              · cases h
          · cases h
theorem scan_token {s : ByteArray} {i : Nat} {acc : List Tok} {c : Cut} (h : ScanTo s i acc) (hi : i < s.size) (h5 : cls (s[i].toNat : Int) ≠ 5) (hb : (s[i].toNat : Int) ≠ 35) (hc : tokL (s.data.toList.drop i) = some c) :
    ScanTo s (i + c.len) (acc ++ [tokAt s i c]) ∧ 1 ≤ c.len := by
  obtain ⟨h1, h2, f, hf, he⟩ := h
  have hp := tokL_pos hc (by rw [drop_cons s hi]; simp)
  rw [List.length_drop] at hp
  have hsz : s.data.toList.length = s.size := by simp
  cases f with
  | zero => omega
  | succ f =>
    refine ⟨⟨by omega, by simp; omega, f, by omega, ?_⟩, hp.1⟩
    rw [he, scanF, if_neg (by omega), head_at hi, if_neg h5, if_neg hb, hc]
theorem scan_bad {s : ByteArray} {i : Nat} {acc : List Tok} (h : ScanTo s i acc) (hi : i < s.size) (h5 : cls (s[i].toNat : Int) ≠ 5) (hb : (s[i].toNat : Int) ≠ 35) (hc : tokL (s.data.toList.drop i) = none) : scanS s = .inl i := by
  obtain ⟨h1, h2, f, hf, he⟩ := h
  cases f with
  | zero => omega
  | succ f => rw [he, scanF, if_neg (by omega), head_at hi, if_neg h5, if_neg hb, hc]
/-- What Scan answers: its tokens, its error, the place of that. -/
def outToks (s : ByteArray) : List Tok := if s.size ≤ 8192 then (match scanS s with | .inl _ => [] | .inr ts => ts) else []
def outErr (s : ByteArray) : Int := if s.size ≤ 8192 then (match scanS s with | .inl _ => 2 | .inr _ => 0) else 3
def outAt (s : ByteArray) : Int := if s.size ≤ 8192 then (match scanS s with | .inl i => (i : Int) | .inr _ => 0) else 0
theorem out_long {s : ByteArray} (h : ¬ s.size ≤ 8192) : outToks s = [] ∧ outErr s = 3 ∧ outAt s = 0 := by
  unfold outToks outErr outAt; rw [if_neg h, if_neg h, if_neg h]; exact ⟨rfl, rfl, rfl⟩
theorem out_bad {s : ByteArray} {i : Nat} (h : s.size ≤ 8192) (hs : scanS s = .inl i) : outToks s = [] ∧ outErr s = 2 ∧ outAt s = i := by
  unfold outToks outErr outAt; rw [if_pos h, if_pos h, if_pos h, hs]; exact ⟨rfl, rfl, rfl⟩
theorem out_good {s : ByteArray} {ts : List Tok} (h : s.size ≤ 8192) (hs : scanS s = .inr ts) : outToks s = ts ∧ outErr s = 0 ∧ outAt s = 0 := by
  unfold outToks outErr outAt; rw [if_pos h, if_pos h, if_pos h, hs]; exact ⟨rfl, rfl, rfl⟩
/-- What a call of Scan leaves. -/
def ScanPost (s : ByteArray) (w : World) (e : Ending) (w' : World) : Prop :=
  ∃ v, e = .returned (.tuple #[v, .agg #[.int .i64 (outErr s), .int .i64 (outAt s)]]) ∧ Toks w' v (outToks s) ∧ Below w.heap.size w w'
end Go.Proofs.YtldgbdmiebipnaaGreatDoor

namespace Go.Proofs.YtldgbdmiebipnaaGreatDoor
open Go.RowKit

/-- The texts of all tokens that are no ends. -/
def texts (ts : List Tok) : List ByteArray := (ts.filter fun t => t.kind != 0).map Tok.text
def lists (l : List ByteArray) : List (List UInt8) := l.map (·.data.toList)
/-- The texts with a blank between. -/
def sh (ts : List Tok) : List UInt8 := Lib.join (lists (texts ts)) [32]
/-- How long the texts are together, with a blank each. -/
def total (ts : List Tok) : Nat := (ts.map fun t => t.text.size + 1).sum
theorem total_cons (t : Tok) (r : List Tok) : total (t :: r) = t.text.size + 1 + total r := by unfold total; simp
theorem texts_nil : texts [] = [] := rfl
theorem texts_cons_end {t : Tok} (r : List Tok) (h : (t.kind != 0) = false) : texts (t :: r) = texts r := by
  unfold texts; rw [List.filter_cons]; simp [h]
theorem texts_cons_some {t : Tok} (r : List Tok) (h : (t.kind != 0) = true) : texts (t :: r) = t.text :: texts r := by
  unfold texts; rw [List.filter_cons]; simp [h]
theorem texts_snoc_end {l : List Tok} {t : Tok} (h : (t.kind != 0) = false) : texts (l ++ [t]) = texts l := by
  unfold texts; rw [List.filter_append]; simp [h]
theorem texts_snoc_some {l : List Tok} {t : Tok} (h : (t.kind != 0) = true) : texts (l ++ [t]) = texts l ++ [t.text] := by
  unfold texts; rw [List.filter_append]; simp [h]
theorem lens_texts (ts : List Tok) : Lib.lens (lists (texts ts)) + (texts ts).length ≤ total ts := by
  induction ts with
  | nil => simp [texts, lists, Lib.lens, total]
  | cons t r ih =>
    rw [total_cons]
    cases h : t.kind != 0 with
    | false => rw [texts_cons_end r h]; omega
    | true =>
      rw [texts_cons_some r h]
      simp only [lists, List.map_cons, Lib.lens, List.sum_cons, List.length_cons] at ih ⊢
      have : t.text.data.toList.length = t.text.size := by simp
      omega
theorem join_len (l : List (List UInt8)) : (Lib.join l [32]).length ≤ Lib.lens l + l.length := by
  cases l with
  | nil => simp [Lib.join_nil]
  | cons x r => rw [Lib.join_length]; simp; omega
theorem sh_len (ts : List Tok) : (sh ts).length ≤ total ts := by
  unfold sh
  have h1 := join_len (lists (texts ts))
  have h2 := lens_texts ts
  have h3 : (lists (texts ts)).length = (texts ts).length := by unfold lists; simp
  omega
theorem total_take (ts : List Tok) (k : Nat) : total (ts.take k) ≤ total ts := by
  induction ts generalizing k with
  | nil => simp
  | cons t r ih =>
    cases k with
    | zero => simp [total]
    | succ k => rw [List.take_succ_cons, total_cons, total_cons]; have := ih k; omega
theorem total_get {ts : List Tok} {k : Nat} (h : k < ts.length) : ts[k].text.size ≤ total ts := by
  induction ts generalizing k with
  | nil => simp at h
  | cons t r ih =>
    rw [total_cons]
    cases k with
    | zero => simp; omega
    | succ k => have := ih (k := k) (by simpa using h); simp; omega
theorem total_length (ts : List Tok) : ts.length ≤ total ts := by
  induction ts with
  | nil => simp
  | cons t r ih => rw [total_cons]; simp; omega
theorem texts_len (ts : List Tok) : (texts ts).length ≤ ts.length := by
  unfold texts; rw [List.length_map]; exact List.length_filter_le _ _
theorem join_snoc (l : List (List UInt8)) (x : List UInt8) : Lib.join (l ++ [x]) [32] = if l.isEmpty then x else Lib.join l [32] ++ [32] ++ x := by
  cases l with
  | nil => simp [Lib.join_one]
  | cons y r =>
    rw [List.cons_append, Lib.join_cons, Lib.join_cons]
    simp [Lib.joinTail, List.append_assoc]
theorem sh_snoc_end {l : List Tok} {t : Tok} (h : (t.kind != 0) = false) : sh (l ++ [t]) = sh l := by unfold sh; rw [texts_snoc_end h]
theorem sh_snoc_first {l : List Tok} {t : Tok} (h : (t.kind != 0) = true) (he : (texts l).isEmpty = true) : sh (l ++ [t]) = t.text.data.toList := by
  unfold sh; rw [texts_snoc_some h]
  have : texts l = [] := by simpa using he
  rw [this]; simp [lists, Lib.join_one]
theorem sh_snoc_more {l : List Tok} {t : Tok} (h : (t.kind != 0) = true) (he : (texts l).isEmpty = false) : sh (l ++ [t]) = sh l ++ [32] ++ t.text.data.toList := by
  unfold sh; rw [texts_snoc_some h]
  unfold lists; rw [List.map_append, List.map_cons, List.map_nil, join_snoc, if_neg (by simpa using he)]
theorem sh_empty {l : List Tok} (he : (texts l).isEmpty = true) : sh l = [] := by
  unfold sh
  have : texts l = [] := by simpa using he
  rw [this]; rfl
/-- Whether any text was told by then. -/
def someB (ts : List Tok) (k : Nat) : Bool := !(texts (ts.take k)).isEmpty
theorem cat_one (l : List UInt8) (t : ByteArray) : (⟨l.toArray⟩ : ByteArray) ++ t = ⟨(l ++ t.data.toList).toArray⟩ := by
  apply ByteArray.ext; simp
/-- The texts of the first k tokens. -/
def textsTo (ts : List Tok) (k : Nat) : List ByteArray := texts (ts.take k)
theorem textsTo_len {ts : List Tok} {k : Nat} : (textsTo ts k).length ≤ ts.length := by
  have := texts_len (ts.take k)
  unfold textsTo; rw [List.length_take] at this; omega
end Go.Proofs.YtldgbdmiebipnaaGreatDoor

namespace Go.Proofs.YtldgbdmiebipnaaGreatDoor
open Go.RowKit

/-- Nothing, or a blank and more. -/
def Apart (rest : List UInt8) : Prop := rest = [] ∨ ∃ r, rest = 32 :: r
/-- A token that is told again, whatever is apart behind it. -/
structure Good (t : Tok) : Prop where
  nz : t.kind ≠ 0
  pos : 1 ≤ t.text.size
  c5 : cls (head t.text.data.toList) ≠ 5
  c35 : head t.text.data.toList ≠ 35
  tok : ∀ rest, Apart rest → tokL (t.text.data.toList ++ rest) = some ⟨t.kind, t.n, t.text.size⟩
theorem tw_all (p : UInt8 → Bool) (l : List UInt8) : ∀ y ∈ l.takeWhile p, p y = true := by
  induction l with
  | nil => intro y hy; cases hy
  | cons c r ih =>
    cases hc : p c with
    | true =>
      rw [List.takeWhile_cons_of_pos hc]
      intro y hy
      rcases List.mem_cons.1 hy with rfl | h
      · exact hc
      · exact ih y h
    | false => rw [List.takeWhile_cons_of_neg (by rw [hc]; simp)]; intro y hy; cases hy
theorem pc_blank : pc 32 = false := by decide
theorem tw_apart {x rest : List UInt8} (hx : ∀ y ∈ x, pc y = true) (hr : Apart rest) : (x ++ rest).takeWhile pc = x := by
  rw [List.takeWhile_append_of_pos hx]
  rcases hr with rfl | ⟨r, rfl⟩
  · simp
  · rw [List.takeWhile_cons_of_neg (by rw [pc_blank]; simp), List.append_nil]
theorem numCut_some {k : Int} {t : List UInt8} {least : Int} {len : Nat} {c : Cut} (h : numCut k t least len = some c) : c = ⟨k, numVal t, len⟩ := by
  unfold numCut at h; split at h
  · cases h; rfl
  · cases h
theorem pc_of_cls {b : UInt8} (h : cls (b.toNat : Int) = 1 ∨ cls (b.toNat : Int) = 2 ∨ cls (b.toNat : Int) = 3) : pc b = true := by
  unfold pc part; rw [decide_eq_true_eq]; left; omega
theorem kind_pos {l : List UInt8} {c : Cut} (h : tokL l = some c) : c.kind ≠ 0 := by
  have hn : ∀ {k : Int} {t : List UInt8} {least : Int} {len : Nat}, k ≠ 0 → numCut k t least len = some c → c.kind ≠ 0 := by
    intro k t least len hk h
    rw [numCut_some h]; exact hk
  unfold tokL at h
  split at h
  · exact hn (by decide) h
  · split at h
    · exact hn (by decide) h
    · split at h
      · cases h; decide
      · split at h
        · exact hn (by decide) h
        · split at h
          · split at h
            · cases h; exact (by decide : (2 : Int) ≠ 0)
            · split at h
              · cases h; exact (by decide : (1 : Int) ≠ 0)
              · cases h
          · cases h
/-- The text that is cut, with something apart behind it, is cut again. -/
theorem tok_again {b : UInt8} {r : List UInt8} {c : Cut} (h : tokL (b :: r) = some c) (rest : List UInt8) (hr : Apart rest) : tokL ((b :: r).take c.len ++ rest) = some c := by
  have hh : head (b :: r) = (b.toNat : Int) := rfl
  by_cases h36 : head (b :: r) = 36
  · rw [tokL_36 h36, List.tail_cons] at h
    have hl := numCut_len h
    have ht : (b :: r).take c.len = b :: r.takeWhile pc := by rw [hl, Nat.add_comm, List.take_succ_cons, tw_take]
    rw [ht, List.cons_append, tokL_36 (by exact h36), List.tail_cons, tw_apart (tw_all pc r) hr]
    exact h
  · by_cases h37 : head (b :: r) = 37
    · rw [tokL_37 h37, List.tail_cons] at h
      have hl := numCut_len h
      have ht : (b :: r).take c.len = b :: r.takeWhile pc := by rw [hl, Nat.add_comm, List.take_succ_cons, tw_take]
      rw [ht, List.cons_append, tokL_37 (by exact h37), List.tail_cons, tw_apart (tw_all pc r) hr]
      exact h
    · have hbd := cls_bd (head (b :: r))
      rcases (show cls (head (b :: r)) = 4 ∨ cls (head (b :: r)) = 3 ∨ (cls (head (b :: r)) = 1 ∨ cls (head (b :: r)) = 2) ∨ (cls (head (b :: r)) = 0 ∨ cls (head (b :: r)) = 5) from by omega) with h4 | h3 | h12 | h05
      · rw [tokL_sign h36 h37 h4] at h
        cases h
        show tokL ((b :: r).take 1 ++ rest) = _
        rw [List.take_succ_cons, List.take_zero]
        exact tokL_sign (l := b :: rest) (show ¬ head (b :: r) = 36 from h36) (show ¬ head (b :: r) = 37 from h37) (show cls (head (b :: r)) = 4 from h4)
      · have hp : pc b = true := pc_of_cls (by rw [hh] at h3; omega)
        rw [tokL_digit h3] at h
        have hl := numCut_len h
        have ht : (b :: r).take c.len = b :: r.takeWhile pc := by rw [hl, tw_take, List.takeWhile_cons_of_pos hp]
        have hc : ((b :: r.takeWhile pc) ++ rest).takeWhile pc = (b :: r).takeWhile pc := by
          rw [List.takeWhile_cons_of_pos hp]
          exact tw_apart (by intro y hy; rcases List.mem_cons.1 hy with rfl | hy; exact hp; exact tw_all pc r y hy) hr
        rw [ht, tokL_digit (by exact h3), hc]
        exact h
      · have hp : pc b = true := pc_of_cls (by rw [hh] at h12; omega)
        rw [tokL_word h12] at h
        have hl := wordCut_len h
        have ht : (b :: r).take c.len = b :: r.takeWhile pc := by rw [hl, tw_take, List.takeWhile_cons_of_pos hp]
        have hc : ((b :: r.takeWhile pc) ++ rest).takeWhile pc = (b :: r).takeWhile pc := by
          rw [List.takeWhile_cons_of_pos hp]
          exact tw_apart (by intro y hy; rcases List.mem_cons.1 hy with rfl | hy; exact hp; exact tw_all pc r y hy) hr
        rw [ht, tokL_word (by exact h12), hc]
        exact h
      · rw [tokL_none h05] at h; cases h
theorem good_tok {s : ByteArray} {i : Nat} {c : Cut} (hi : i < s.size) (h5 : cls (s[i].toNat : Int) ≠ 5) (hb : (s[i].toNat : Int) ≠ 35) (hc : tokL (s.data.toList.drop i) = some c) : Good (tokAt s i c) := by
  have hp := tokL_pos hc (by rw [drop_cons s hi]; simp)
  rw [List.length_drop] at hp
  have hsz : s.data.toList.length = s.size := by simp
  have hx : (s.extract i (i + c.len)).data.toList = (s.data.toList.drop i).take c.len := by rw [ext_list, List.drop_take, show i + c.len - i = c.len from by omega]
  have hs : (s.extract i (i + c.len)).size = c.len := by simp; omega
  have hcons := drop_cons s hi
  obtain ⟨k, hk⟩ : ∃ k, c.len = k + 1 := ⟨c.len - 1, by omega⟩
  have hhd : head ((s.data.toList.drop i).take c.len) = (s[i].toNat : Int) := by
    rw [hcons, hk, List.take_succ_cons]; rfl
  refine ⟨kind_pos hc, by show 1 ≤ (s.extract i (i + c.len)).size; omega, ?_, ?_, fun rest hr => ?_⟩
  · show cls (head (s.extract i (i + c.len)).data.toList) ≠ 5
    rw [hx, hhd]; exact h5
  · show head (s.extract i (i + c.len)).data.toList ≠ 35
    rw [hx, hhd]; exact hb
  · show tokL ((s.extract i (i + c.len)).data.toList ++ rest) = some ⟨c.kind, c.n, (s.extract i (i + c.len)).size⟩
    rw [hx, hs, hcons]
    rw [hcons] at hc
    exact tok_again hc rest hr
/-- The texts' bytes, all together. -/
def bytesOf (ts : List Tok) : Nat := (ts.map fun t => t.text.size).sum
theorem total_bytes (ts : List Tok) : total ts = bytesOf ts + ts.length := by
  unfold total bytesOf
  induction ts with
  | nil => rfl
  | cons t r ih => simp only [List.map_cons, List.sum_cons, List.length_cons]; omega
/-- What a scan that does not break tells: good tokens, of no more bytes than the text, and the end. -/
theorem scanF_good (s : ByteArray) : ∀ (f i : Nat) (acc ts : List Tok), i ≤ s.size → scanF f s i acc = .inr ts → ∃ more, ts = acc ++ more ++ [endTok s] ∧ (∀ t ∈ more, Good t) ∧ bytesOf more + i ≤ s.size := by
  intro f
  induction f with
  | zero =>
    intro i acc ts hi h
    refine ⟨[], ?_, (by intro t ht; cases ht), (by show 0 + i ≤ s.size; omega)⟩
    rw [List.append_nil]; exact (Sum.inr.inj h).symm
  | succ f ih =>
    intro i acc ts hi h
    rw [scanF] at h
    split at h
    · refine ⟨[], ?_, (by intro t ht; cases ht), (by show 0 + i ≤ s.size; omega)⟩
      rw [List.append_nil]; exact (Sum.inr.inj h).symm
    · next hlt =>
      have hlt : i < s.size := by omega
      rw [head_at hlt] at h
      split at h
      · obtain ⟨more, h1, h2, h3⟩ := ih _ _ _ (by omega) h
        exact ⟨more, h1, h2, by omega⟩
      · next h5 =>
        split at h
        · obtain ⟨more, h1, h2, h3⟩ := ih _ _ _ (rem_le s hi) h
          exact ⟨more, h1, h2, by omega⟩
        · next h35 =>
          cases hc : tokL (s.data.toList.drop i) with
          | none => rw [hc] at h; cases h
          | some c =>
            rw [hc] at h
            have hp := tokL_pos hc (by rw [drop_cons s hlt]; simp)
            rw [List.length_drop] at hp
            have hsz : s.data.toList.length = s.size := by simp
            obtain ⟨more, h1, h2, h3⟩ := ih (i + c.len) (acc ++ [tokAt s i c]) ts (by omega) h
            refine ⟨tokAt s i c :: more, by rw [h1]; simp, ?_, ?_⟩
            · intro t ht
              rcases List.mem_cons.1 ht with rfl | ht
              · exact good_tok hlt h5 h35 hc
              · exact h2 t ht
            · have hs : (s.extract i (i + c.len)).size = c.len := by simp; omega
              show ((tokAt s i c :: more).map fun t => t.text.size).sum + i ≤ s.size
              rw [List.map_cons, List.sum_cons]
              show (s.extract i (i + c.len)).size + bytesOf more + i ≤ s.size
              omega
theorem sh_cons {t : Tok} {r : List Tok} (hg : Good t) (hr : ∀ u ∈ r, Good u) : sh (t :: r) = t.text.data.toList ++ (if r.isEmpty then [] else 32 :: sh r) := by
  have hk : (t.kind != 0) = true := by rw [bne_iff_ne]; exact hg.nz
  unfold sh
  rw [texts_cons_some r hk]
  cases r with
  | nil => simp [texts, lists, Lib.join_one]
  | cons u q =>
    have hu : (u.kind != 0) = true := by rw [bne_iff_ne]; exact (hr u (List.mem_cons_self ..)).nz
    rw [texts_cons_some q hu]
    unfold lists
    simp only [List.map_cons]
    rw [Lib.join_cons, Lib.join_cons]
    simp [Lib.joinTail]
/-- A text that goes on from place i as good tokens are shown has these tokens from there on. -/
theorem scan_shown (u : ByteArray) : ∀ (ts : List Tok) (i : Nat) (acc : List Tok), (∀ t ∈ ts, Good t) → u.data.toList.drop i = sh ts → ScanTo u i acc →
    ∃ more, scanS u = .inr (acc ++ more ++ [endTok u]) ∧ more.map Tok.plain = ts.map Tok.plain := by
  have hsz : u.data.toList.length = u.size := by simp
  intro ts
  induction ts with
  | nil =>
    intro i acc _ hd hs
    refine ⟨[], ?_, rfl⟩
    rw [List.append_nil]
    apply scan_end hs
    intro hlt
    rw [drop_cons u hlt] at hd
    cases hd
  | cons t r ih =>
    intro i acc hg hd hs
    have hgt := hg t (List.mem_cons_self ..)
    have hgr : ∀ x ∈ r, Good x := fun x hx => hg x (List.mem_cons_of_mem _ hx)
    rw [sh_cons hgt hgr] at hd
    have htl : t.text.data.toList.length = t.text.size := by simp
    have hpos := hgt.pos
    have hlen := congrArg List.length hd
    rw [List.length_drop, List.length_append, htl, hsz] at hlen
    have hlt : i < u.size := by omega
    have hhd := head_at hlt
    have hhd2 : head (u.data.toList.drop i) = head t.text.data.toList := by
      rw [hd]
      cases hx : t.text.data.toList with
      | nil => rw [hx] at htl; simp at htl; omega
      | cons b q => rfl
    have hap : Apart (if r.isEmpty then [] else 32 :: sh r) := by
      cases r with
      | nil => exact .inl rfl
      | cons x q => exact .inr ⟨_, rfl⟩
    have htok := hgt.tok _ hap
    rw [← hd] at htok
    have h5 : cls (u[i].toNat : Int) ≠ 5 := by rw [← hhd, hhd2]; exact hgt.c5
    have h35 : (u[i].toNat : Int) ≠ 35 := by rw [← hhd, hhd2]; exact hgt.c35
    have hst := (scan_token hs hlt h5 h35 htok).1
    have hpl : (tokAt u i ⟨t.kind, t.n, t.text.size⟩).plain = t.plain := by
      unfold tokAt Tok.plain
      have : u.extract i (i + t.text.size) = t.text := by
        rw [← bs_list (u.extract i (i + t.text.size)), ext_list, List.drop_take, show i + t.text.size - i = t.text.size from by omega, hd, ← htl, List.take_left, bs_list]
      simp only [this]
    have hdrop : u.data.toList.drop (i + t.text.size) = (if r.isEmpty then [] else 32 :: sh r) := by
      rw [← List.drop_drop, hd, ← htl, List.drop_left]
    cases hre : r with
    | nil =>
      subst hre
      refine ⟨[tokAt u i ⟨t.kind, t.n, t.text.size⟩], ?_, by simp [hpl]⟩
      apply scan_end hst
      intro hlt2
      rw [drop_cons u hlt2] at hdrop
      simp at hdrop
    | cons x q =>
      have hnn : r.isEmpty = false := by rw [hre]; rfl
      rw [hnn] at hdrop
      simp only [Bool.false_eq_true, if_false] at hdrop
      have hlt2 : i + t.text.size < u.size := by
        have := congrArg List.length hdrop
        rw [List.length_drop, hsz] at this
        simp at this; omega
      have hb := drop_cons u hlt2
      rw [hdrop] at hb
      have hb32 : u[i + t.text.size] = 32 := (List.cons.inj hb).1.symm
      have hst2 := scan_space hst hlt2 (by rw [hb32]; decide)
      obtain ⟨more, h1, h2⟩ := ih (i + t.text.size + 1) _ hgr (List.cons.inj hb).2.symm hst2
      rw [← hre]
      exact ⟨tokAt u i ⟨t.kind, t.n, t.text.size⟩ :: more, by rw [h1]; simp, by rw [List.map_cons, List.map_cons, h2, hpl]⟩
theorem plain_end (s : ByteArray) : (endTok s).plain = ⟨0, ⟨#[]⟩, 0, 0⟩ := rfl
theorem sh_end (ts : List Tok) (s : ByteArray) : sh (ts ++ [endTok s]) = sh ts := sh_snoc_end (by show ((0 : Int) != 0) = false; decide)
/-- There and back: the tokens of what is shown are the same but for places, and as many. -/
theorem there_and_back {s : ByteArray} {ts : List Tok} (hs : s.size ≤ 4000) (h : scanS s = .inr ts) :
    total ts ≤ 8001 ∧ ∃ us, scanS (bs (sh ts)) = .inr us ∧ us.map Tok.plain = ts.map Tok.plain ∧ (bs (sh ts)).size ≤ 8192 := by
  obtain ⟨more, h1, h2, h3⟩ := scanF_good s s.size 0 [] ts (Nat.zero_le _) h
  rw [List.nil_append] at h1
  have hml : more.length ≤ bytesOf more := by
    have : ∀ l : List Tok, (∀ t ∈ l, Good t) → l.length ≤ bytesOf l := by
      intro l
      induction l with
      | nil => intro _; exact Nat.le_refl _
      | cons t r ih =>
        intro hg
        have := ih (fun x hx => hg x (List.mem_cons_of_mem _ hx))
        have hp := (hg t (List.mem_cons_self ..)).pos
        unfold bytesOf at this ⊢
        simp only [List.map_cons, List.sum_cons, List.length_cons]; omega
    exact this more h2
  have htot : total ts ≤ 8001 := by
    rw [h1]
    have e : total (more ++ [endTok s]) = total more + 1 := by
      unfold total; rw [List.map_append, List.sum_append]; rfl
    rw [e, total_bytes]; omega
  have hshl := sh_len ts
  have hbsz : (bs (sh ts)).size = (sh ts).length := by unfold bs; show (sh ts).toArray.size = _; simp
  have hsh : sh ts = sh more := by rw [h1, sh_end]
  have hd : (bs (sh ts)).data.toList.drop 0 = sh more := by rw [List.drop_zero, ← hsh]; unfold bs; simp
  obtain ⟨us, h4, h5⟩ := scan_shown (bs (sh ts)) more 0 [] h2 hd (scan_start _)
  refine ⟨htot, us ++ [endTok (bs (sh ts))], by rw [h4, List.nil_append], ?_, by omega⟩
  rw [h1, List.map_append, List.map_append, h5]; rfl
end Go.Proofs.YtldgbdmiebipnaaGreatDoor

namespace Go.Proofs.YtldgbdmiebipnaaGreatDoor
open Go.RowKit

/-- Nothing, or something that begins with no part of a word. -/
def NoPart (rest : List UInt8) : Prop := ∀ b r, rest = b :: r → pc b = false
theorem noPart_nil : NoPart [] := fun b r h => by cases h
theorem noPart_cons {b : UInt8} {r : List UInt8} (h : pc b = false) : NoPart (b :: r) := fun c q e => by cases e; exact h
/-- A token that is told again, whatever stands behind it that is no part of it. -/
structure Sound (t : Tok) : Prop where
  nz : t.kind ≠ 0
  pos : 1 ≤ t.text.size
  c5 : cls (head t.text.data.toList) ≠ 5
  c35 : head t.text.data.toList ≠ 35
  tok : ∀ rest, (t.kind = 6 ∨ NoPart rest) → tokL (t.text.data.toList ++ rest) = some ⟨t.kind, t.n, t.text.size⟩
theorem tw_noPart {x rest : List UInt8} (hx : ∀ y ∈ x, pc y = true) (hr : NoPart rest) : (x ++ rest).takeWhile pc = x := by
  rw [List.takeWhile_append_of_pos hx]
  cases rest with
  | nil => simp
  | cons b r => rw [List.takeWhile_cons_of_neg (by rw [hr b r rfl]; simp), List.append_nil]
theorem numCut_kind {k : Int} {t : List UInt8} {least : Int} {len : Nat} {c : Cut} (h : numCut k t least len = some c) : c.kind = k := by rw [numCut_some h]
/-- What is cut, with something behind it that is no part of it, is cut again. -/
theorem tok_sound {b : UInt8} {r : List UInt8} {c : Cut} (h : tokL (b :: r) = some c) (rest : List UInt8) (hr : c.kind = 6 ∨ NoPart rest) : tokL ((b :: r).take c.len ++ rest) = some c := by
  have hh : head (b :: r) = (b.toNat : Int) := rfl
  by_cases h36 : head (b :: r) = 36
  · rw [tokL_36 h36, List.tail_cons] at h
    have hl := numCut_len h
    have hk := numCut_kind h
    have hr := hr.resolve_left (by rw [hk]; decide)
    have ht : (b :: r).take c.len = b :: r.takeWhile pc := by rw [hl, Nat.add_comm, List.take_succ_cons, tw_take]
    rw [ht, List.cons_append, tokL_36 (by exact h36), List.tail_cons, tw_noPart (tw_all pc r) hr]
    exact h
  · by_cases h37 : head (b :: r) = 37
    · rw [tokL_37 h37, List.tail_cons] at h
      have hl := numCut_len h
      have hk := numCut_kind h
      have hr := hr.resolve_left (by rw [hk]; decide)
      have ht : (b :: r).take c.len = b :: r.takeWhile pc := by rw [hl, Nat.add_comm, List.take_succ_cons, tw_take]
      rw [ht, List.cons_append, tokL_37 (by exact h37), List.tail_cons, tw_noPart (tw_all pc r) hr]
      exact h
    · have hbd := cls_bd (head (b :: r))
      rcases (show cls (head (b :: r)) = 4 ∨ cls (head (b :: r)) = 3 ∨ (cls (head (b :: r)) = 1 ∨ cls (head (b :: r)) = 2) ∨ (cls (head (b :: r)) = 0 ∨ cls (head (b :: r)) = 5) from by omega) with h4 | h3 | h12 | h05
      · rw [tokL_sign h36 h37 h4] at h
        cases h
        show tokL ((b :: r).take 1 ++ rest) = _
        rw [List.take_succ_cons, List.take_zero]
        exact tokL_sign (l := b :: rest) (show ¬ head (b :: r) = 36 from h36) (show ¬ head (b :: r) = 37 from h37) (show cls (head (b :: r)) = 4 from h4)
      · have hp : pc b = true := pc_of_cls (by rw [hh] at h3; omega)
        rw [tokL_digit h3] at h
        have hl := numCut_len h
        have hk := numCut_kind h
        have hr := hr.resolve_left (by rw [hk]; decide)
        have ht : (b :: r).take c.len = b :: r.takeWhile pc := by rw [hl, tw_take, List.takeWhile_cons_of_pos hp]
        have hc : ((b :: r.takeWhile pc) ++ rest).takeWhile pc = (b :: r).takeWhile pc := by
          rw [List.takeWhile_cons_of_pos hp]
          exact tw_noPart (by intro y hy; rcases List.mem_cons.1 hy with rfl | hy; exact hp; exact tw_all pc r y hy) hr
        rw [ht, tokL_digit (by exact h3), hc]
        exact h
      · have hp : pc b = true := pc_of_cls (by rw [hh] at h12; omega)
        rw [tokL_word h12] at h
        have hl := wordCut_len h
        have hk : c.kind ≠ 6 := by
          have hw := h
          unfold wordCut at hw
          split at hw
          · cases hw; exact (by decide : (2 : Int) ≠ 6)
          · split at hw
            · cases hw; exact (by decide : (1 : Int) ≠ 6)
            · cases hw
        have hr := hr.resolve_left hk
        have ht : (b :: r).take c.len = b :: r.takeWhile pc := by rw [hl, tw_take, List.takeWhile_cons_of_pos hp]
        have hc : ((b :: r.takeWhile pc) ++ rest).takeWhile pc = (b :: r).takeWhile pc := by
          rw [List.takeWhile_cons_of_pos hp]
          exact tw_noPart (by intro y hy; rcases List.mem_cons.1 hy with rfl | hy; exact hp; exact tw_all pc r y hy) hr
        rw [ht, tokL_word (by exact h12), hc]
        exact h
      · rw [tokL_none h05] at h; cases h
theorem sound_tok {s : ByteArray} {i : Nat} {c : Cut} (hi : i < s.size) (h5 : cls (s[i].toNat : Int) ≠ 5) (hb : (s[i].toNat : Int) ≠ 35) (hc : tokL (s.data.toList.drop i) = some c) : Sound (tokAt s i c) := by
  have hp := tokL_pos hc (by rw [drop_cons s hi]; simp)
  rw [List.length_drop] at hp
  have hsz : s.data.toList.length = s.size := by simp
  have hx : (s.extract i (i + c.len)).data.toList = (s.data.toList.drop i).take c.len := by rw [ext_list, List.drop_take, show i + c.len - i = c.len from by omega]
  have hs : (s.extract i (i + c.len)).size = c.len := by simp; omega
  have hcons := drop_cons s hi
  obtain ⟨k, hk⟩ : ∃ k, c.len = k + 1 := ⟨c.len - 1, by omega⟩
  have hhd : head ((s.data.toList.drop i).take c.len) = (s[i].toNat : Int) := by
    rw [hcons, hk, List.take_succ_cons]; rfl
  refine ⟨kind_pos hc, by show 1 ≤ (s.extract i (i + c.len)).size; omega, ?_, ?_, fun rest hr => ?_⟩
  · show cls (head (s.extract i (i + c.len)).data.toList) ≠ 5
    rw [hx, hhd]; exact h5
  · show head (s.extract i (i + c.len)).data.toList ≠ 35
    rw [hx, hhd]; exact hb
  · show tokL ((s.extract i (i + c.len)).data.toList ++ rest) = some ⟨c.kind, c.n, (s.extract i (i + c.len)).size⟩
    rw [hx, hs, hcons]
    rw [hcons] at hc
    exact tok_sound hc rest hr
/-- What a scan that does not break tells: sound tokens, of no more bytes than the text, and the end. -/
theorem scanF_sound (s : ByteArray) : ∀ (f i : Nat) (acc ts : List Tok), i ≤ s.size → scanF f s i acc = .inr ts → ∃ more, ts = acc ++ more ++ [endTok s] ∧ (∀ t ∈ more, Sound t) ∧ bytesOf more + i ≤ s.size := by
  intro f
  induction f with
  | zero =>
    intro i acc ts hi h
    refine ⟨[], ?_, (by intro t ht; cases ht), (by show 0 + i ≤ s.size; omega)⟩
    rw [List.append_nil]; exact (Sum.inr.inj h).symm
  | succ f ih =>
    intro i acc ts hi h
    rw [scanF] at h
    split at h
    · refine ⟨[], ?_, (by intro t ht; cases ht), (by show 0 + i ≤ s.size; omega)⟩
      rw [List.append_nil]; exact (Sum.inr.inj h).symm
    · next hlt =>
      have hlt : i < s.size := by omega
      rw [head_at hlt] at h
      split at h
      · obtain ⟨more, h1, h2, h3⟩ := ih _ _ _ (by omega) h
        exact ⟨more, h1, h2, by omega⟩
      · next h5 =>
        split at h
        · obtain ⟨more, h1, h2, h3⟩ := ih _ _ _ (rem_le s hi) h
          exact ⟨more, h1, h2, by omega⟩
        · next h35 =>
          cases hc : tokL (s.data.toList.drop i) with
          | none => rw [hc] at h; cases h
          | some c =>
            rw [hc] at h
            have hp := tokL_pos hc (by rw [drop_cons s hlt]; simp)
            rw [List.length_drop] at hp
            have hsz : s.data.toList.length = s.size := by simp
            obtain ⟨more, h1, h2, h3⟩ := ih (i + c.len) (acc ++ [tokAt s i c]) ts (by omega) h
            refine ⟨tokAt s i c :: more, by rw [h1]; simp, ?_, ?_⟩
            · intro t ht
              rcases List.mem_cons.1 ht with rfl | ht
              · exact sound_tok hlt h5 h35 hc
              · exact h2 t ht
            · have hs : (s.extract i (i + c.len)).size = c.len := by simp; omega
              show ((tokAt s i c :: more).map fun t => t.text.size).sum + i ≤ s.size
              rw [List.map_cons, List.sum_cons]
              show (s.extract i (i + c.len)).size + bytesOf more + i ≤ s.size
              omega
theorem scanS_sound {s : ByteArray} {ts : List Tok} (h : scanS s = .inr ts) : ∃ more, ts = more ++ [endTok s] ∧ (∀ t ∈ more, Sound t) ∧ bytesOf more ≤ s.size := by
  obtain ⟨more, h1, h2, h3⟩ := scanF_sound s s.size 0 [] ts (Nat.zero_le _) h
  exact ⟨more, by rw [h1, List.nil_append], h2, by omega⟩

/-- Pieces of a text: what stands ahead of a token, and the token. -/
abbrev Piece := List UInt8 × Tok
/-- What may stand between. -/
def Blank (g : List UInt8) : Prop := ∀ b ∈ g, cls (b.toNat : Int) = 5
/-- The pieces as a text. -/
def spell (ps : List Piece) : List UInt8 := ps.flatMap fun p => p.1 ++ p.2.text.data.toList
theorem spell_cons (p : Piece) (r : List Piece) : spell (p :: r) = p.1 ++ (p.2.text.data.toList ++ spell r) := by unfold spell; rw [List.flatMap_cons, List.append_assoc]
theorem spell_append (a b : List Piece) : spell (a ++ b) = spell a ++ spell b := by unfold spell; rw [List.flatMap_append]
/-- No two tokens run into each other; last: whether the one ahead may be followed by anything. -/
def Fits2 : Bool → List Piece → Prop
  | _, [] => True
  | any, p :: r => (any = true ∨ p.1 ≠ [] ∨ pc (p.2.text.data.toList.headD 0) = false) ∧ Fits2 (p.2.kind == 6) r
theorem blank_noPart {b : UInt8} (h : cls (b.toNat : Int) = 5) : pc b = false := by
  rw [← Bool.not_eq_true]
  unfold pc part
  rw [decide_eq_true_eq]
  rintro (hh | hh)
  · omega
  · rw [hh] at h; exact absurd h (by decide)
/-- What follows a token that may be followed by the pieces. -/
theorem fits_noPart {ps : List Piece} {tail : List UInt8} (h : Fits2 false ps) (hb : ∀ p ∈ ps, Blank p.1 ∧ 1 ≤ p.2.text.size) (ht : Blank tail) : NoPart (spell ps ++ tail) := by
  cases ps with
  | nil =>
    intro b r e
    exact blank_noPart (ht b (by rw [show spell [] ++ tail = tail from rfl] at e; rw [e]; exact List.mem_cons_self ..))
  | cons p q =>
    obtain ⟨h1, _⟩ := h
    obtain ⟨hpb, hps⟩ := hb p (List.mem_cons_self ..)
    intro b r e
    rw [spell_cons, List.append_assoc] at e
    cases hg : p.1 with
    | cons c g =>
      rw [hg, List.cons_append] at e
      have := (List.cons.inj e).1
      rw [← this]
      exact blank_noPart (hpb c (by rw [hg]; exact List.mem_cons_self ..))
    | nil =>
      rcases h1 with h1 | h1 | h1
      · cases h1
      · exact absurd hg h1
      · rw [hg, List.nil_append] at e
        cases hx : p.2.text.data.toList with
        | nil =>
          have : p.2.text.data.toList.length = p.2.text.size := by simp
          rw [hx] at this; simp at this; omega
        | cons c t =>
          rw [hx] at e h1
          simp only [List.cons_append] at e
          rw [← (List.cons.inj e).1]
          exact h1
theorem scan_blanks (u : ByteArray) : ∀ (g : List UInt8) (i : Nat) (acc : List Tok) (rest : List UInt8), Blank g → u.data.toList.drop i = g ++ rest → ScanTo u i acc → ScanTo u (i + g.length) acc ∧ u.data.toList.drop (i + g.length) = rest
  | [], i, acc, rest, _, hd, hs => ⟨hs, hd⟩
  | b :: g, i, acc, rest, hb, hd, hs => by
    have hsz : u.data.toList.length = u.size := by simp
    have hlt : i < u.size := by
      have := congrArg List.length hd
      rw [List.length_drop, hsz] at this
      simp at this; omega
    have hc := drop_cons u hlt
    rw [hd, List.cons_append] at hc
    obtain ⟨h1, h2⟩ := List.cons.inj hc
    have hst := scan_space hs hlt (by rw [← h1]; exact hb b (List.mem_cons_self ..))
    have := scan_blanks u g (i + 1) acc rest (fun x hx => hb x (List.mem_cons_of_mem _ hx)) h2.symm hst
    rw [List.length_cons, show i + (g.length + 1) = i + 1 + g.length from by omega]
    exact this
/-- A text that goes on from place i as pieces are spelt has their tokens from there on. -/
theorem scan_spelt (u : ByteArray) (tail : List UInt8) (ht : Blank tail) : ∀ (ps : List Piece) (any : Bool) (i : Nat) (acc : List Tok), (∀ p ∈ ps, Blank p.1 ∧ Sound p.2) → Fits2 any ps → u.data.toList.drop i = spell ps ++ tail → ScanTo u i acc →
    ∃ more, scanS u = .inr (acc ++ more ++ [endTok u]) ∧ more.map Tok.plain = (ps.map Prod.snd).map Tok.plain := by
  have hsz : u.data.toList.length = u.size := by simp
  intro ps
  induction ps with
  | nil =>
    intro any i acc _ _ hd hs
    refine ⟨[], ?_, rfl⟩
    rw [List.append_nil]
    obtain ⟨h1, h2⟩ := scan_blanks u tail i acc [] ht (by rw [hd, List.append_nil]; rfl) hs
    apply scan_end h1
    intro hlt
    rw [drop_cons u hlt] at h2
    cases h2
  | cons p q ih =>
    intro any i acc hp hf hd hs
    obtain ⟨hpb, hpt⟩ := hp p (List.mem_cons_self ..)
    have hq : ∀ x ∈ q, Blank x.1 ∧ Sound x.2 := fun x hx => hp x (List.mem_cons_of_mem _ hx)
    rw [spell_cons, List.append_assoc] at hd
    obtain ⟨hs1, hd1⟩ := scan_blanks u p.1 i acc _ hpb hd hs
    rw [List.append_assoc] at hd1
    generalize i + p.1.length = j at hs1 hd1
    have htl : p.2.text.data.toList.length = p.2.text.size := by simp
    have hpos := hpt.pos
    have hlen := congrArg List.length hd1
    rw [List.length_drop, List.length_append, htl, hsz] at hlen
    have hlt : j < u.size := by omega
    have hhd := head_at hlt
    have hhd2 : head (u.data.toList.drop j) = head p.2.text.data.toList := by
      rw [hd1]
      cases hx : p.2.text.data.toList with
      | nil => rw [hx] at htl; simp at htl; omega
      | cons b q => rfl
    have hno : p.2.kind = 6 ∨ NoPart (spell q ++ tail) := by
      by_cases hk : p.2.kind = 6
      · exact .inl hk
      · right
        have hf2 := hf.2
        rw [show (p.2.kind == 6) = false from by rw [beq_eq_false_iff_ne]; exact hk] at hf2
        exact fits_noPart hf2 (fun x hx => ⟨(hq x hx).1, (hq x hx).2.pos⟩) ht
    have htok := hpt.tok _ hno
    rw [← hd1] at htok
    have h5 : cls (u[j].toNat : Int) ≠ 5 := by rw [← hhd, hhd2]; exact hpt.c5
    have h35 : (u[j].toNat : Int) ≠ 35 := by rw [← hhd, hhd2]; exact hpt.c35
    have hst := (scan_token hs1 hlt h5 h35 htok).1
    have hpl : (tokAt u j ⟨p.2.kind, p.2.n, p.2.text.size⟩).plain = p.2.plain := by
      unfold tokAt Tok.plain
      have : u.extract j (j + p.2.text.size) = p.2.text := by
        rw [← bs_list (u.extract j (j + p.2.text.size)), ext_list, List.drop_take, show j + p.2.text.size - j = p.2.text.size from by omega, hd1, ← htl, List.take_left, bs_list]
      simp only [this]
    have hdrop : u.data.toList.drop (j + p.2.text.size) = spell q ++ tail := by
      rw [← List.drop_drop, hd1, ← htl, List.drop_left]
    obtain ⟨more, h1, h2⟩ := ih _ _ _ hq hf.2 hdrop hst
    exact ⟨tokAt u j ⟨p.2.kind, p.2.n, p.2.text.size⟩ :: more, by rw [h1]; simp, by rw [List.map_cons, List.map_cons, List.map_cons, h2, hpl]⟩
/-- A text that is spelt out of sound tokens is scanned as these. -/
theorem spelt_scan {ps : List Piece} {tail : List UInt8} (hp : ∀ p ∈ ps, Blank p.1 ∧ Sound p.2) (hf : Fits2 true ps) (ht : Blank tail) :
    ∃ us, scanS (bs (spell ps ++ tail)) = .inr (us ++ [endTok (bs (spell ps ++ tail))]) ∧ us.map Tok.plain = (ps.map Prod.snd).map Tok.plain := by
  have hd : (bs (spell ps ++ tail)).data.toList.drop 0 = spell ps ++ tail := by rw [List.drop_zero]; unfold bs; simp
  obtain ⟨us, h1, h2⟩ := scan_spelt _ tail ht ps true 0 [] hp hf hd (scan_start _)
  exact ⟨us, by rw [h1, List.nil_append], h2⟩
end Go.Proofs.YtldgbdmiebipnaaGreatDoor

namespace Go.Proofs.YtldgbdmiebipnaaGreatDoor
open Go.RowKit

/-- A term: its kind, its name, its number, and its arguments. -/
inductive Tm where
  | mk (kind : Int) (name : ByteArray) (n : Int) (args : List Tm)
def Tm.kind : Tm → Int | .mk k _ _ _ => k
def Tm.name : Tm → ByteArray | .mk _ s _ _ => s
def Tm.n : Tm → Int | .mk _ _ n _ => n
def Tm.args : Tm → List Tm | .mk _ _ _ xs => xs
theorem Tm.eta (t : Tm) : t = .mk t.kind t.name t.n t.args := by cases t; rfl
instance : Inhabited Tm := ⟨.mk 0 ⟨#[]⟩ 0 []⟩

mutual
/-- How many parts a term has. -/
def Tm.parts : Tm → Nat
  | .mk _ _ _ xs => partsL xs + 1
def partsL : List Tm → Nat
  | [] => 0
  | t :: r => t.parts + partsL r
end
theorem parts_eq (t : Tm) : t.parts = partsL t.args + 1 := by cases t; rw [Tm.parts]; rfl
theorem parts_pos (t : Tm) : 1 ≤ t.parts := by rw [parts_eq]; omega
theorem partsL_cons (t : Tm) (r : List Tm) : partsL (t :: r) = t.parts + partsL r := by rw [partsL]
theorem partsL_nil : partsL [] = 0 := by rw [partsL]
theorem partsL_append (a b : List Tm) : partsL (a ++ b) = partsL a + partsL b := by
  induction a with
  | nil => rw [List.nil_append, partsL_nil]; omega
  | cons t r ih => rw [List.cons_append, partsL_cons, partsL_cons, ih]; omega
theorem parts_get (l : List Tm) {j : Nat} (h : j < l.length) : l[j].parts ≤ partsL l := by
  induction l generalizing j with
  | nil => simp at h
  | cons t r ih =>
    rw [partsL_cons]
    cases j with
    | zero => simp
    | succ j => have := ih (j := j) (by simpa using h); simp; omega
theorem parts_arg (t : Tm) {j : Nat} (h : j < t.args.length) : t.args[j].parts < t.parts := by
  rw [parts_eq t]; have := parts_get t.args h; omega
theorem partsL_length (l : List Tm) : l.length ≤ partsL l := by
  induction l with
  | nil => simp
  | cons t r ih => rw [partsL_cons, List.length_cons]; have := parts_pos t; omega
theorem partsL_take (l : List Tm) {k : Nat} (h : k < l.length) : partsL (l.take (k + 1)) = partsL (l.take k) + l[k].parts := by
  rw [List.take_succ_eq_append_getElem h, partsL_append, partsL_cons, partsL_nil]; omega

/-- A term's numbers are int's, and its name is no longer than a text can be. -/
structure Fit (k : Int) (s : ByteArray) (n : Int) : Prop where
  klo : -9223372036854775808 ≤ k
  khi : k ≤ 9223372036854775807
  nlo : -9223372036854775808 ≤ n
  nhi : n ≤ 9223372036854775807
  len : s.size ≤ 9223372036854775807
mutual
/-- A term lies at an address: four cells, and its arguments where the fourth says. -/
def TmAt (w : World) : Tm → Nat → Nat → Prop
  | .mk k s n xs, b, o => Fit k s n ∧ w.cell? ⟨b, o, none⟩ = some (.int .i64 k) ∧ w.cell? ⟨b, o + 1, none⟩ = some (.string s) ∧ w.cell? ⟨b, o + 2, none⟩ = some (.int .i64 n) ∧
    ∃ a c, w.cell? ⟨b, o + 3, none⟩ = some (.slice a xs.length c) ∧ (xs.length ≤ 9223372036854775807 ∧ xs.length ≤ c) ∧ (xs = [] ∨ ∃ b' o', a = some ⟨b', o', none⟩ ∧ b' < w.heap.size ∧ RowAt w xs b' o')
def RowAt (w : World) : List Tm → Nat → Nat → Prop
  | [], _, _ => True
  | t :: r, b, o => TmAt w t b o ∧ RowAt w r b (o + 4)
end
/-- What a slice's address says of its elements. -/
def Args (w : World) (a : Option Addr) (c : Nat) (xs : List Tm) : Prop := (xs.length ≤ 9223372036854775807 ∧ xs.length ≤ c) ∧ (xs = [] ∨ ∃ b o, a = some ⟨b, o, none⟩ ∧ b < w.heap.size ∧ RowAt w xs b o)
theorem rowAt_get {w : World} : ∀ {xs : List Tm} {b o : Nat}, RowAt w xs b o → ∀ {j : Nat} (h : j < xs.length), TmAt w xs[j] b (o + j * 4)
  | [], _, _, _, _, h => by simp at h
  | t :: r, b, o, hr, 0, _ => by rw [RowAt] at hr; simpa using hr.1
  | t :: r, b, o, hr, j + 1, h => by
    rw [RowAt] at hr
    have := rowAt_get hr.2 (j := j) (by simpa using h)
    rw [show o + (j + 1) * 4 = o + 4 + j * 4 from by omega]
    exact this
theorem rowAt_of {w : World} : ∀ {xs : List Tm} {b o : Nat}, (∀ {j : Nat} (h : j < xs.length), TmAt w xs[j] b (o + j * 4)) → RowAt w xs b o
  | [], _, _, _ => by rw [RowAt]; trivial
  | t :: r, b, o, h => by
    rw [RowAt]
    refine ⟨(show TmAt w t b (o + 0 * 4) from h (j := 0) (by simp)), rowAt_of fun {j} hj => ?_⟩
    have := h (j := j + 1) (by simpa using hj)
    rw [show o + (j + 1) * 4 = o + 4 + j * 4 from by omega] at this
    exact this

/-- A term xs a value: the term, the address of its arguments, and their capacity. -/
structure Tv where
  t : Tm
  a : Option Addr
  c : Nat
def Tv.val (v : Tv) : Value := .agg #[.int .i64 v.t.kind, .string v.t.name, .int .i64 v.t.n, .slice v.a v.t.args.length v.c]
def Tv.cells (v : Tv) : List Value := [.int .i64 v.t.kind, .string v.t.name, .int .i64 v.t.n, .slice v.a v.t.args.length v.c]
def Tv.ok (w : World) (v : Tv) : Prop := Fit v.t.kind v.t.name v.t.n ∧ Args w v.a v.c v.t.args
/-- The four cells of a value. -/
structure TvAt (w : World) (b o : Nat) (v : Tv) : Prop where
  c0 : w.cell? ⟨b, o, none⟩ = some (.int .i64 v.t.kind)
  c1 : w.cell? ⟨b, o + 1, none⟩ = some (.string v.t.name)
  c2 : w.cell? ⟨b, o + 2, none⟩ = some (.int .i64 v.t.n)
  c3 : w.cell? ⟨b, o + 3, none⟩ = some (.slice v.a v.t.args.length v.c)
theorem tmAt_tv {w : World} {t : Tm} {b o : Nat} (h : TmAt w t b o) : ∃ v : Tv, v.t = t ∧ v.ok w ∧ TvAt w b o v := by
  cases t with
  | mk k s n xs =>
    rw [TmAt] at h
    obtain ⟨hf, h0, h1, h2, a, c, h3, hl, hr⟩ := h
    exact ⟨⟨.mk k s n xs, a, c⟩, rfl, ⟨hf, hl, hr⟩, h0, h1, h2, h3⟩
theorem tv_tmAt {w : World} {v : Tv} {b o : Nat} (hk : v.ok w) (h : TvAt w b o v) : TmAt w v.t b o := by
  obtain ⟨t, a, c⟩ := v
  cases t with
  | mk k s n xs =>
    rw [TmAt]
    exact ⟨hk.1, h.c0, h.c1, h.c2, a, c, h.c3, hk.2.1, hk.2.2⟩

theorem lt_of_cell {w : World} {b o : Nat} {x : Value} (h : w.cell? ⟨b, o, none⟩ = some x) : b < w.heap.size := by
  rcases Nat.lt_or_ge b w.heap.size with hlt | hge
  · exact hlt
  · unfold World.cell? at h
    simp [Array.getElem?_eq_none hge] at h
mutual
theorem TmAt.below {w w' : World} (hb : Below w.heap.size w w') : ∀ {t : Tm} {b o : Nat}, TmAt w t b o → TmAt w' t b o
  | .mk k s n xs, b, o, h => by
    rw [TmAt] at h ⊢
    obtain ⟨hf, h0, h1, h2, a, c, h3, hl, hr⟩ := h
    have hlt := lt_of_cell h0
    refine ⟨hf, (hb.cell (p := ⟨b, o, none⟩) hlt).trans h0, (hb.cell (p := ⟨b, o + 1, none⟩) hlt).trans h1, (hb.cell (p := ⟨b, o + 2, none⟩) hlt).trans h2, a, c, (hb.cell (p := ⟨b, o + 3, none⟩) hlt).trans h3, hl, ?_⟩
    rcases hr with hr | ⟨b', o', ha, hb', hr⟩
    · exact .inl hr
    · exact .inr ⟨b', o', ha, Nat.lt_of_lt_of_le hb' hb.size, RowAt.below hb hr⟩
theorem RowAt.below {w w' : World} (hb : Below w.heap.size w w') : ∀ {xs : List Tm} {b o : Nat}, RowAt w xs b o → RowAt w' xs b o
  | [], _, _, _ => by rw [RowAt]; trivial
  | t :: r, b, o, h => by
    rw [RowAt] at h ⊢
    exact ⟨TmAt.below hb h.1, RowAt.below hb h.2⟩
end
theorem Args.below {w w' : World} {a : Option Addr} {c : Nat} {xs : List Tm} (h : Args w a c xs) (hb : Below w.heap.size w w') : Args w' a c xs := by
  obtain ⟨hl, h⟩ := h
  refine ⟨hl, ?_⟩
  rcases h with h | ⟨b, o, ha, hlt, hr⟩
  · exact .inl h
  · exact .inr ⟨b, o, ha, Nat.lt_of_lt_of_le hlt hb.size, hr.below hb⟩
theorem Tv.ok.below {w w' : World} {v : Tv} (h : v.ok w) (hb : Below w.heap.size w w') : v.ok w' := ⟨h.1, Args.below h.2 hb⟩

/-- A slice value that reads xs a row of terms. -/
def Tms (w : World) (v : Value) (ts : List Tm) : Prop := ∃ a c, v = .slice a ts.length c ∧ Args w a c ts
theorem Tms.below {w w' : World} {v : Value} {ts : List Tm} (h : Tms w v ts) (hb : Below w.heap.size w w') : Tms w' v ts := by
  obtain ⟨a, c, hv, h⟩ := h
  exact ⟨a, c, hv, h.below hb⟩
theorem Tms.none_ (w : World) (a : Option Addr) (c : Nat) : Tms w (.slice a 0 c) [] := ⟨a, c, rfl, by simp, .inl rfl⟩

/-- Equal, for terms. -/
noncomputable def eqT (t u : Tm) : Bool := @decide (t = u) (Classical.propDecidable _)
theorem eqT_true {t u : Tm} (h : t = u) : eqT t u = true := by unfold eqT; simp [h]
theorem eqT_false {t u : Tm} (h : t ≠ u) : eqT t u = false := by unfold eqT; simp [h]
theorem eqT_iff {t u : Tm} : eqT t u = true ↔ t = u := by unfold eqT; simp
noncomputable def eqTs (ts us : List Tm) : Bool := @decide (ts = us) (Classical.propDecidable _)
theorem eqTs_true {ts us : List Tm} (h : ts = us) : eqTs ts us = true := by unfold eqTs; simp [h]
theorem eqTs_false {ts us : List Tm} (h : ts ≠ us) : eqTs ts us = false := by unfold eqTs; simp [h]
theorem Tv.val_shape (x : Tv) : ∃ (k : Int) (s : ByteArray) (n : Int) (a : Option Addr) (l c : Nat), x.val = .agg #[.int .i64 k, .string s, .int .i64 n, .slice a l c] := ⟨_, _, _, _, _, _, rfl⟩
theorem TvAt.below {w w' : World} {b o : Nat} {v : Tv} (h : TvAt w b o v) (hb : Below w.heap.size w w') : TvAt w' b o v where
  c0 := (hb.cell (p := ⟨b, o, none⟩) (lt_of_cell h.c0)).trans h.c0
  c1 := (hb.cell (p := ⟨b, o + 1, none⟩) (lt_of_cell h.c0)).trans h.c1
  c2 := (hb.cell (p := ⟨b, o + 2, none⟩) (lt_of_cell h.c0)).trans h.c2
  c3 := (hb.cell (p := ⟨b, o + 3, none⟩) (lt_of_cell h.c0)).trans h.c3
end Go.Proofs.YtldgbdmiebipnaaGreatDoor
