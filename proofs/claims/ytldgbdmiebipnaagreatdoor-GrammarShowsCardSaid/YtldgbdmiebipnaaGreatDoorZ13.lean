/-
  Items as lines, by the reference of layer 11: Show.
  How many parts a term has that tokens are read as, and how long its text can be. No function of the program.
  How large what a text is read as can be: errors, parts. No function of the program.
  Items that a text has: they have what their shapes ask for, and their terms are small. No function of the program.
  What a text has is small. No function of the program.
  Any text's items as lines, and whether two texts' items are alike: the law answers true, from what the program's grammar answers.
  Terms that calls have made live on in whatever leaves their blocks as they are; rows of them that grow. No function of the program.
-/
import Derived.Test.YtldgbdmiebipnaaGreatDoorZ12
import Derived.Test.YtldgbdmiebipnaaGreatDoorZ06
import Derived.Test.YtldgbdmiebipnaaGreatDoorZ10
import Derived.Test.YtldgbdmiebipnaaGreatDoorZ11
import Derived.Test.YtldgbdmiebipnaaGreatDoorZ04
import Derived.Test.YtldgbdmiebipnaaGreatDoorZ03
namespace Go.Proofs.YtldgbdmiebipnaaGreatDoor
open Go.RowKit

set_option maxRecDepth 100000 in
set_option maxHeartbeats 1000000 in
theorem rshows_any (v : Value) (xs : List It) (w : World) (hv : Its w v xs) (hfit : ∀ x ∈ xs, FitI x) (hlen : (showS xs).length ≤ 100000000) (hts : ∀ x ∈ xs, ∀ t ∈ x.trees, t.parts ≤ 1000000 ∧ wtT (plainR t) ≤ 100000000) :
    Calls Tryz.prog 8 #[v] w fun e w' => e = .returned (.string ⟨(showS xs).toArray⟩) ∧ Below w.heap.size w w' := by
  obtain ⟨a, c, rfl, ⟨hal, hac⟩, hxo⟩ := hv
  have HXO := Lib.hid hxo
  have HF := Lib.hid hfit
  have HTS := Lib.hid hts
  clear hxo hfit hts
  go_enter Tryz.func8, Tryz.ntmps8
  go_wp2_with fail
  go_loopw [3, 8] (fun s k wr => ∃ (q : Nat) (p : List UInt8), s = .string ⟨p.toArray⟩ ∧ k = .int .i64 q ∧ q ≤ xs.length ∧ Hid (p = showS (xs.take q)) ∧ Below w.heap.size w wr) (fun _ k _ => xs.length - (intOf k).toNat)
  case atStart => exact ⟨0, [], rfl, rfl, Nat.zero_le _, Lib.hid (by rw [List.take_zero]; rfl), Below.refl _ _⟩
  case round =>
    obtain ⟨q, p, rfl, rfl, hq, HP, hb⟩ := hrel
    have hpp := showS_part xs q
    have hpl : p.length ≤ 100000000 := by rw [HP.out]; omega
    have HB := Lib.hid hb
    by_cases hql : q < xs.length
    · have hqq : (q : Int) < (xs.length : Int) := by omega
      have hq0 : (0 : Int) ≤ (q : Int) := by omega
      rcases HXO.out with h | ⟨b, o, rfl, hlt, hX⟩
      · rw [h] at hql; cases hql
      obtain ⟨y, hyt, hyk, hya⟩ := hX q hql
      obtain ⟨k0, k1, k2, k3⟩ := hya.below hb
      have hba : Below wr.heap.size wr (wr.alloc (.cells #[.string y.it.key, .int .i64 y.it.spot, y.vw, y.vt] 54)) := (Below.refl _ _).alloc (Nat.le_refl _) _
      have hnx := showS_take hql
      have hpq := showS_part xs (q + 1)
      rw [← hyt] at hnx
      have hll : (lineS y.it).length + 1 ≤ 100000000 := by
        have h := congrArg List.length hnx
        simp only [List.length_append, List.length_singleton] at h; omega
      have HC := rline_any y (wr.alloc (.cells #[.string y.it.key, .int .i64 y.it.spot, y.vw, y.vt] 54)) ((hyk.below hb).below hba) (by rw [hyt]; exact HF.out _ (List.getElem_mem hql)) (by omega) (by rw [hyt]; exact HTS.out _ (List.getElem_mem hql))
      obtain ⟨z, hz⟩ : ∃ z, lineS y.it ++ [10] = z := ⟨_, rfl⟩
      have hzl : z.length ≤ 100000000 := by rw [← hz, List.length_append, List.length_singleton]; exact hll
      rw [hz] at HC hnx
      obtain ⟨aw, cw, e1, _⟩ := hyk.words
      obtain ⟨at_, ct, e2, _⟩ := hyk.trees
      rw [e1, e2] at HC hba
      rw [e1] at k2
      rw [e2] at k3
      replace HC := Lib.hid HC
      have HBA := Lib.hid hba
      have HN := Lib.hid (show p ++ z = showS (xs.take (q + 1)) by rw [hnx, HP.out])
      clear hX hyt hyk hya hba hnx hpq hll hz e1 e2 hpp hb
      go_wp2_with fail
      refine HC.out.mono ?_; rintro e w5 ⟨rfl, hb5⟩
      have HB5 := Lib.hid hb5
      clear hb5 k0 k1 k2 k3
      go_wp2_with fail
      go_roundw
      case rel => exact ⟨q + 1, p ++ z, by rw [cat_list], by go_num, by omega, HN, below_next (below_next HB.out HBA.out) HB5.out⟩
      case measure => simp [intOf]; omega
    · have hqe : q = xs.length := by omega
      have hqn : ¬ ((q : Int) < (xs.length : Int)) := by omega
      have HN := Lib.hid (show p = showS xs by rw [HP.out, hqe, List.take_length])
      clear hqe
      go_wp2_with fail
      go_ret
      exact ⟨by rw [HN.out]; rfl, HB.out⟩
end Go.Proofs.YtldgbdmiebipnaaGreatDoor

namespace Go.Proofs.YtldgbdmiebipnaaGreatDoor
open Go.RowKit

theorem parts_mk (k : Int) (s : ByteArray) (n p : Int) (xs : List Tr) : (Tr.mk k s n p xs).parts = partsR xs + 1 := by rw [Tr.parts]
/-- No more parts than tokens. -/
theorem termF_parts : ∀ (f : Nat) (L : List Tok), (∀ i op, (termF f L i op).1.parts ≤ (termF f L i op).2.1 - i + 1 ∧ ((termF f L i op).2.2 = true → (termF f L i op).1.parts ≤ (termF f L i op).2.1 - i)) ∧
    ∀ i sg op, partsR (termsF f L i sg op).1 ≤ (termsF f L i sg op).2.1 - i
  | 0, L => ⟨fun i op => by rw [termF]; exact ⟨by rw [parts_mk, partsR_nil]; omega, fun h => by cases h⟩, fun i sg op => by rw [termsF, partsR_nil]; omega⟩
  | f + 1, L => by
    obtain ⟨h1, h2⟩ := termF_parts f L
    obtain ⟨l1, l2⟩ := termF_le f L
    refine ⟨fun i op => ?_, fun i sg op => ?_⟩
    · rw [termF]
      have a := h2 (i + 2) sComma (op + 1)
      have b := l2 (i + 2) sComma (op + 1)
      repeat' split
      all_goals
        simp only [parts_mk, partsR_nil]
        refine ⟨by omega, fun h => ?_⟩
        first | omega | cases h
    · rw [termsF]
      have a := h1 i op
      have b := l1 i op
      have c := h2 ((termF f L i op).2.1 + 1) sg op
      have d := l2 ((termF f L i op).2.1 + 1) sg op
      by_cases h : (termF f L i op).2.2 = false
      · rw [if_pos h, partsR_nil]; exact Nat.zero_le _
      · rw [if_neg h]
        have ht : (termF f L i op).2.2 = true := by simpa using h
        have a2 := a.2 ht
        have b2 := b.2 ht
        split
        · rw [partsR_cons, partsR_nil]; show _ ≤ (termF f L i op).2.1 - i; omega
        · rw [partsR_cons]; show _ ≤ (termsF f L ((termF f L i op).2.1 + 1) sg op).2.1 - i; omega
theorem termP_parts (L : List Tok) (i op : Nat) : (termP L i op).1.parts ≤ (termP L i op).2.1 - i + 1 := ((termF_parts _ L).1 i op).1
theorem termsP_parts (L : List Tok) (i : Nat) (sg : ByteArray) (op : Nat) : partsR (termsP L i sg op).1 ≤ (termsP L i sg op).2.1 - i := (termF_parts _ L).2 i sg op
mutual
/-- All texts of a tree are no longer than M. -/
def textsR (M : Nat) : Tr → Prop
  | .mk _ s _ _ xs => s.size ≤ M ∧ textsRs M xs
def textsRs (M : Nat) : List Tr → Prop
  | [] => True
  | t :: r => textsR M t ∧ textsRs M r
end
theorem termF_texts {L : List Tok} {M : Nat} (hM : ∀ i, (tkD L i).text.size ≤ M) : ∀ (f : Nat), (∀ i op, textsR M (termF f L i op).1) ∧ ∀ i sg op, textsRs M (termsF f L i sg op).1
  | 0 => ⟨fun i op => by rw [termF, textsR, textsRs]; exact ⟨Nat.zero_le _, trivial⟩, fun i sg op => by rw [termsF, textsRs]; trivial⟩
  | f + 1 => by
    obtain ⟨h1, h2⟩ := termF_texts hM f
    refine ⟨fun i op => ?_, fun i sg op => ?_⟩
    · rw [termF]
      have a := h2 (i + 2) sComma (op + 1)
      have b := hM i
      repeat' split
      all_goals
        simp only [textsR, textsRs, and_true]
        first | exact b | exact ⟨b, a⟩
    · rw [termsF]
      have a := h1 i op
      have c := h2 ((termF f L i op).2.1 + 1) sg op
      repeat' split
      · rw [textsRs]; trivial
      · rw [textsRs, textsRs]; exact ⟨a, trivial⟩
      · rw [textsRs]; exact ⟨a, c⟩
theorem termP_texts {L : List Tok} {M : Nat} (hM : ∀ i, (tkD L i).text.size ≤ M) (i op : Nat) : textsR M (termP L i op).1 := (termF_texts hM _).1 i op
theorem termsP_texts {L : List Tok} {M : Nat} (hM : ∀ i, (tkD L i).text.size ≤ M) (i : Nat) (sg : ByteArray) (op : Nat) : textsRs M (termsP L i sg op).1 := (termF_texts hM _).2 i sg op
mutual
/-- How long a term's text can be. -/
theorem wt_plain {M : Nat} : ∀ t : Tr, textsR M t → wtT (plainR t) ≤ (M + 30) * t.parts
  | .mk k s n p xs, h => by
    rw [textsR] at h
    have := wt_plains xs h.2
    rw [plainR, wtT, parts_mk, Nat.mul_add, Nat.mul_one]
    have hs : (if k = 1 ∨ k = 5 then s else (⟨#[]⟩ : ByteArray)).size ≤ M := by
      split
      · exact h.1
      · exact Nat.zero_le _
    omega
theorem wt_plains {M : Nat} : ∀ l : List Tr, textsRs M l → wtL (plainRs l) ≤ (M + 30) * partsR l
  | [], _ => by rw [plainRs, wtL, partsR_nil]; exact Nat.zero_le _
  | t :: r, h => by
    rw [textsRs] at h
    have h1 := wt_plain t h.1
    have h2 := wt_plains r h.2
    rw [plainRs, wtL, partsR_cons, Nat.mul_add]; omega
end
end Go.Proofs.YtldgbdmiebipnaaGreatDoor

namespace Go.Proofs.YtldgbdmiebipnaaGreatDoor
open Go.RowKit

theorem parseS_bd (s : ByteArray) : -9223372036854775808 ≤ (parseS s).1 ∧ (parseS s).1 ≤ 9223372036854775807 := by
  unfold parseS
  repeat' split
  all_goals (simp only; exact ⟨by decide, by decide⟩)

theorem whole_small (s : ByteArray) : (wholeS s).2.2.parts ≤ 1000000 := by
  have hz : zeroR.parts ≤ 1000000 := by unfold zeroR; rw [parts_mk, partsR_nil]; omega
  unfold wholeS
  by_cases h0 : outErr s = 0
  · rw [if_neg (by simp [h0])]
    split
    · exact hz
    · obtain ⟨h8, ts, hts⟩ := scan_of h0
      obtain ⟨o1, o2, o3⟩ := out_good h8 hts
      have hT := textToks_of hts
      have hlen := (scanS_small hts).2
      have h1 := termP_parts ts 0 0
      have h2 := termP_in hT.ended 0 hT.pos
      rw [o1]
      show (termP ts 0 0).1.parts ≤ 1000000
      omega
  · rw [if_pos h0]; exact hz
theorem wholeS_bd (s : ByteArray) : -9223372036854775808 ≤ (wholeS s).1 ∧ (wholeS s).1 ≤ 9223372036854775807 := by
  have h : outErr s = 0 ∨ outErr s = 2 ∨ outErr s = 3 := by
    unfold outErr
    repeat' split
    all_goals simp
  unfold wholeS
  repeat' split
  all_goals (simp only; exact ⟨by omega, by omega⟩)
theorem wholeS_is (s : ByteArray) : (wholeS s).1 = 0 ∨ (wholeS s).1 = 2 ∨ (wholeS s).1 = 3 := by
  have h : outErr s = 0 ∨ outErr s = 2 ∨ outErr s = 3 := by
    unfold outErr
    repeat' split
    all_goals simp
  unfold wholeS
  repeat' split
  all_goals (first | exact h | (simp))
end Go.Proofs.YtldgbdmiebipnaaGreatDoor

namespace Go.Proofs.YtldgbdmiebipnaaGreatDoor
open Go.RowKit

theorem wN_cons (c : UInt8) (r : List UInt8) : wN (c :: r) = (if c = 119 ∨ c = 110 then 1 else 0) + wN r := by
  unfold wN; rw [List.countP_cons]; simp; omega
theorem tN_cons (c : UInt8) (r : List UInt8) : tN (c :: r) = (if c = 116 then 1 else 0) + tN r := by
  unfold tN; rw [List.countP_cons]; simp; omega
theorem oneP_fit (L : List Tok) (x : It) (i : Nat) (c : UInt8) (h : (oneP x L i c).2.2 = true) :
    x.words.length + (if c = 119 ∨ c = 110 then 1 else 0) ≤ (oneP x L i c).1.words.length ∧ x.trees.length + (if c = 116 then 1 else 0) ≤ (oneP x L i c).1.trees.length := by
  unfold oneP at h ⊢
  by_cases h1 : c = 119
  · rw [if_pos h1] at h ⊢
    rw [if_pos (show c = 119 ∨ c = 110 from .inl h1), if_neg (show ¬ c = 116 by rw [h1]; decide)]
    split at h
    · next hw => rw [if_pos hw]; simp
    · cases h
  rw [if_neg h1] at h ⊢
  by_cases h2 : c = 110
  · rw [if_pos h2] at h ⊢
    rw [if_pos (show c = 119 ∨ c = 110 from .inr h2), if_neg (show ¬ c = 116 by rw [h2]; decide)]
    split at h
    · next hw => rw [if_pos hw]; simp
    · cases h
  rw [if_neg h2] at h ⊢
  rw [if_neg (show ¬ (c = 119 ∨ c = 110) from fun e => e.elim h1 h2)]
  by_cases h3 : c = 116
  · rw [if_pos h3] at h ⊢
    rw [if_pos (show c = 116 from h3)]
    split at h
    · next hw => rw [if_pos hw]; simp
    · cases h
  rw [if_neg h3] at h ⊢
  rw [if_neg h3]
  repeat' split
  all_goals simp
theorem goP_fit (L : List Tok) : ∀ (r : List UInt8) (x : It) (i : Nat), (goP L r x i).2.2 = true → x.words.length + wN r ≤ (goP L r x i).1.words.length ∧ x.trees.length + tN r ≤ (goP L r x i).1.trees.length
  | [], x, i, _ => by rw [goP]; exact ⟨Nat.le_refl _, Nat.le_refl _⟩
  | c :: r, x, i, h => by
    rw [goP] at h ⊢
    by_cases h1 : (oneP x L i c).2.2 = false
    · rw [if_pos h1] at h; cases h
    · rw [if_neg h1] at h ⊢
      have a := oneP_fit L x i c (by simpa using h1)
      have b := goP_fit L r _ _ h
      rw [wN_cons, tN_cons]
      exact ⟨by omega, by omega⟩
section
variable {L : List Tok} {Q : Tr → Prop} (h1 : ∀ i op, Q (termP L i op).1) (h2 : ∀ i sg op, ∀ t ∈ (termsP L i sg op).1, Q t)
include h1 h2
theorem oneP_all (x : It) (i : Nat) (c : UInt8) (h : ∀ t ∈ x.trees, Q t) : ∀ t ∈ (oneP x L i c).1.trees, Q t := by
  unfold oneP
  repeat' split
  all_goals (first | exact h | (intro t ht; simp only [List.mem_append, List.mem_singleton] at ht; rcases ht with ht | ht; exact h t ht; first | (rw [ht]; exact h1 _ _) | exact h2 _ _ _ t ht))
theorem goP_all : ∀ (r : List UInt8) (x : It) (i : Nat), (∀ t ∈ x.trees, Q t) → ∀ t ∈ (goP L r x i).1.trees, Q t
  | [], x, i, h => by rw [goP]; exact h
  | c :: r, x, i, h => by
    rw [goP]
    split
    · exact h
    · exact goP_all r _ _ (oneP_all h1 h2 x i c h)
theorem itemsF_all : ∀ (f i : Nat) (xs : List It), itemsF f L i = .inr xs → ∀ x ∈ xs, FitI x ∧ ∀ t ∈ x.trees, Q t
  | 0, i, xs, h => by rw [itemsF] at h; cases h
  | f + 1, i, xs, h => by
    rw [itemsF] at h
    split at h
    · cases h; intro x hx; cases hx
    split at h
    · cases h
    split at h
    · cases h
    · next hg =>
      split at h
      · cases h
      · next r hr =>
        cases h
        intro x hx
        rcases List.mem_cons.1 hx with rfl | hx
        · have hf := goP_fit L (shapesOf (tkD L i).text) ⟨(tkD L i).text, (tkD L i).place, [], []⟩ (i + 1) (by simpa using hg)
          have hk := (goP_key L (shapesOf (tkD L i).text) ⟨(tkD L i).text, (tkD L i).place, [], []⟩ (i + 1)).1
          simp only [List.length_nil, Nat.zero_add] at hf
          exact ⟨⟨by rw [hk]; exact hf.1, by rw [hk]; exact hf.2⟩, goP_all h1 h2 _ _ _ (fun t ht => by cases ht)⟩
        · exact itemsF_all f _ r hr x hx
end
end Go.Proofs.YtldgbdmiebipnaaGreatDoor

namespace Go.Proofs.YtldgbdmiebipnaaGreatDoor
open Go.RowKit

theorem textsRs_mem {M : Nat} : ∀ {l : List Tr} {t : Tr}, textsRs M l → t ∈ l → textsR M t
  | u :: r, t, h, ht => by
    rw [textsRs] at h
    rcases List.mem_cons.1 ht with rfl | ht
    · exact h.1
    · exact textsRs_mem h.2 ht
theorem partsR_mem : ∀ {l : List Tr} {t : Tr}, t ∈ l → t.parts ≤ partsR l
  | u :: r, t, ht => by
    rw [partsR_cons]
    rcases List.mem_cons.1 ht with rfl | ht
    · omega
    · have := partsR_mem ht; omega
theorem termP_far {L : List Tok} {i : Nat} (hi : L.length ≤ i) (op : Nat) : termP L i op = (.mk 0 ⟨#[]⟩ 0 0 [], i, false) := by
  rw [termP_none (by rw [tkD_out hi]; decide) (by rw [tkD_out hi]; rfl), tkD_out hi]; rfl
theorem termsP_far {L : List Tok} {i : Nat} (hi : L.length ≤ i) (sg : ByteArray) (op : Nat) : (termsP L i sg op).1 = [] := by
  rw [termsP_eq, termP_far hi op, if_pos rfl]
/-- What a text has is small. -/
theorem items_small (s : ByteArray) : (∀ x ∈ (parseS s).2.2, FitI x) ∧ (∀ x ∈ (parseS s).2.2, ∀ t ∈ x.trees, t.parts ≤ 1000000 ∧ wtT (plainR t) ≤ 100000000) ∧ (showS (parseS s).2.2).length ≤ 100000000 := by
  by_cases h0 : (parseS s).1 = 0
  · obtain ⟨h8, ts, xs, h1, h2, h3⟩ := parseS_ok h0
    rw [h3]
    simp only
    have hT := textToks_of h1
    obtain ⟨hsm, hlen⟩ := scanS_small h1
    have hM : ∀ i, (tkD ts i).text.size ≤ 8192 := fun i => by
      rcases Nat.lt_or_ge i ts.length with hi | hi
      · rw [tkD_at hi]
        have h := hsm _ (List.getElem_mem hi)
        have := h.len
        omega
      · rw [tkD_out hi]; decide
    have hQ : ∀ t : Tr, t.parts ≤ 8195 → textsR 8192 t → t.parts ≤ 1000000 ∧ wtT (plainR t) ≤ 100000000 := fun t hp ht => by
      have h := wt_plain t ht
      exact ⟨by omega, by omega⟩
    have hA : ∀ x ∈ xs, FitI x ∧ ∀ t ∈ x.trees, t.parts ≤ 1000000 ∧ wtT (plainR t) ≤ 100000000 :=
      itemsF_all (Q := fun t => t.parts ≤ 1000000 ∧ wtT (plainR t) ≤ 100000000) (fun i op => by
        rcases Nat.lt_or_ge i ts.length with hi | hi
        · have a := termP_parts ts i op
          have b := termP_in hT.ended op hi
          exact hQ _ (by omega) (termP_texts hM i op)
        · have a := termP_far hi op
          rw [a]
          show Tr.parts (.mk 0 ⟨#[]⟩ 0 0 []) ≤ 1000000 ∧ wtT (plainR (.mk 0 ⟨#[]⟩ 0 0 [])) ≤ 100000000
          exact hQ _ (by rw [parts_mk, partsR_nil]; omega) (by rw [textsR, textsRs]; exact ⟨by decide, trivial⟩))
        (fun i sg op t ht => by
        rcases Nat.lt_or_ge i ts.length with hi | hi
        · have a := termsP_parts ts i sg op
          have b := termsP_in hT.ended sg op hi
          have c := partsR_mem ht
          exact hQ _ (by omega) (textsRs_mem (termsP_texts hM i sg op) ht)
        · rw [termsP_far hi sg op] at ht; cases ht) _ _ xs h2
    obtain ⟨hsz, _⟩ := back_toks h1 h2
    rw [bs_size] at hsz
    exact ⟨fun x hx => (hA x hx).1, fun x hx => (hA x hx).2, by omega⟩
  · rw [parseS_bad h0]
    refine ⟨?_, ?_, ?_⟩
    · intro x hx; cases hx
    · intro x hx; cases hx
    · show ([] : List UInt8).length ≤ _; simp

end Go.Proofs.YtldgbdmiebipnaaGreatDoor

namespace Go.Proofs.YtldgbdmiebipnaaGreatDoor
open Go.RowKit

set_option maxRecDepth 100000 in
set_option maxHeartbeats 2000000 in
theorem lawShows11_of (w : World) (I : GramI w) (s s' : ByteArray) :
    Calls Tryz.prog 3 #[.string s, .string s'] w fun e w' => e = .returned (.bool true) ∧ Below w.heap.size w w' := by
  have AW := Lib.hid (awake11_of w I.toGramA w (Below.refl _ _))
  rcases Int.lt_or_le 2500 (s.size : Int) with hs | hs
  · have hd : decide ((2500 : Int) < (s.size : Int)) = true := decide_eq_true hs
    clear I
    go_enter Tryz.func3, Tryz.ntmps3
    go_wp2_with fail
    refine AW.out.mono ?_; rintro e w1 ⟨rfl, hb1⟩
    go_wp2_with fail
    go_ret
    exact ⟨rfl, hb1⟩
  have hd : decide ((2500 : Int) < (s.size : Int)) = false := decide_eq_false (by omega)
  rcases Int.lt_or_le 2500 (s'.size : Int) with hs' | hs'
  · have hd' : decide ((2500 : Int) < (s'.size : Int)) = true := decide_eq_true hs'
    clear I
    go_enter Tryz.func3, Tryz.ntmps3
    go_wp2_with fail
    refine AW.out.mono ?_; rintro e w1 ⟨rfl, hb1⟩
    go_wp2_with fail
    go_ret
    exact ⟨rfl, hb1⟩
  have hd' : decide ((2500 : Int) < (s'.size : Int)) = false := decide_eq_false (by omega)
  have PP := Lib.hid (fun (W : World) (h : Below w.heap.size w W) => I.parse s W h (by omega))
  have PP2 := Lib.hid (fun (W : World) (h : Below w.heap.size w W) => I.parse s' W h (by omega))
  have PR := Lib.hid (fun (W : World) => rparse_any s (by omega) W)
  have PR2 := Lib.hid (fun (W : World) => rparse_any s' (by omega) W)
  unfold ParsePost at PR PR2
  have SH := Lib.hid (fun (v : Value) (W : World) (h : Below w.heap.size w W) (hv : Its W v (parseS s).2.2) => I.show_ v _ W h hv ⟨s, by omega, rfl⟩)
  have SR := Lib.hid (fun (v : Value) (W : World) (hv : Its W v (parseS s).2.2) => rshows_any v _ W hv (items_small s).1 (items_small s).2.2 (items_small s).2.1)
  have SM := Lib.hid (fun (v u : Value) (W : World) (h : Below w.heap.size w W) (hv : Its W v (parseS s).2.2) (hu : Its W u (parseS s').2.2) => I.same v u _ _ W h hv hu ⟨s, by omega, rfl⟩ ⟨s', by omega, rfl⟩)
  have RM := Lib.hid (fun (v u : Value) (W : World) (hv : Its W v (parseS s).2.2) (hu : Its W u (parseS s').2.2) => rsame_any v u _ _ W hv hu)
  have hbd := parseS_bd s
  have hbd2 := parseS_bd s'
  unfold bs at SH
  obtain ⟨⟨e0, e1, xs⟩, hx⟩ : ∃ x, parseS s = x := ⟨_, rfl⟩
  obtain ⟨⟨f0, f1, ys⟩, hy⟩ : ∃ x, parseS s' = x := ⟨_, rfl⟩
  rw [hx] at PP PR SH SR SM RM hbd
  rw [hy] at PP2 PR2 SM RM hbd2
  simp only at PP PR SH SR SM RM hbd PP2 PR2 hbd2
  obtain ⟨hbd0, hbd1⟩ := hbd
  obtain ⟨hbd2, hbd3⟩ := hbd2
  obtain ⟨t, ht⟩ : ∃ t : ByteArray, ⟨(showS xs).toArray⟩ = t := ⟨_, rfl⟩
  rw [ht] at SH SR
  obtain ⟨sm, hsm⟩ : ∃ b, saI xs ys = b := ⟨_, rfl⟩
  rw [hsm] at SM RM
  have q0 : (t.toList == t.toList) = true := by rw [Lib.bytes_beq_iff]
  have q1 : (e0 != e0) = false := by simp
  have q2 : (f0 != f0) = false := by simp
  have q3 : (sm == sm) = true := by simp
  clear I hx hy ht hsm hs hs'
  go_enter Tryz.func3, Tryz.ntmps3
  go_wp2_with fail
  refine AW.out.mono ?_; rintro e w1 ⟨rfl, hb1⟩
  go_wp2_with fail
  refine (PP.out _ hb1).mono ?_; rintro e w2 ⟨v, rfl, hv, hb2⟩
  have HB2 := Lib.hid (below_next hb1 hb2)
  clear hb1 hb2
  go_wp2_with fail
  have hb3 := (Below.refl w2.heap.size w2).alloc (Nat.le_refl _) (.cells #[.int .i64 e0, .int .i64 e1] 26)
  have hs3 : (w2.alloc (.cells #[.int .i64 e0, .int .i64 e1] 26)).heap.size = w2.heap.size + 1 := by simp
  have c0 := World.cell?_alloc_mark w2 #[.int .i64 e0, .int .i64 e1] 26 (0, 0) 0
  obtain ⟨w3, hw3⟩ : ∃ w3, w3 = w2.alloc (.cells #[.int .i64 e0, .int .i64 e1] 26) := ⟨_, rfl⟩
  rw [← hw3] at hb3 hs3 ⊢
  have c0' : w3.cell? ⟨w2.heap.size, 0, none⟩ = some (.int .i64 e0) := by rw [hw3]; exact c0
  have HB3 := Lib.hid (below_next HB2.out hb3)
  have hv3 := hv.below hb3
  clear hw3 c0 hv
  refine (PP2.out _ HB3.out).mono ?_; rintro e w4 ⟨u, rfl, hu, hb4⟩
  go_wp2_with fail
  have hb5 := (Below.refl w4.heap.size w4).alloc (Nat.le_refl _) (.cells #[.int .i64 f0, .int .i64 f1] 26)
  have hs5 : (w4.alloc (.cells #[.int .i64 f0, .int .i64 f1] 26)).heap.size = w4.heap.size + 1 := by simp
  have d0 := World.cell?_alloc_mark w4 #[.int .i64 f0, .int .i64 f1] 26 (0, 0) 0
  obtain ⟨w5, hw5⟩ : ∃ w5, w5 = w4.alloc (.cells #[.int .i64 f0, .int .i64 f1] 26) := ⟨_, rfl⟩
  rw [← hw5] at hb5 hs5 ⊢
  have d0' : w5.cell? ⟨w4.heap.size, 0, none⟩ = some (.int .i64 f0) := by rw [hw5]; exact d0
  clear hw5 d0
  have h35 := below_next hb4 hb5
  have HB5 := Lib.hid (below_next HB3.out h35)
  have hv5 := hv3.below h35
  have hu5 := hu.below hb5
  refine (PR.out _).mono ?_; rintro e w6 ⟨v', rfl, hv', hb6⟩
  go_wp2_with fail
  refine (PR2.out _).mono ?_; rintro e w7 ⟨u', rfl, hu', hb7⟩
  have h57 := below_next hb6 hb7
  have h37 := below_next h35 h57
  have k0 := (h37.cell (p := ⟨w2.heap.size, 0, none⟩) (by show w2.heap.size < _; omega)).trans c0'
  have k1 := (h57.cell (p := ⟨w4.heap.size, 0, none⟩) (by show w4.heap.size < _; omega)).trans d0'
  have HB7 := Lib.hid (below_next HB5.out h57)
  have hv7 := hv5.below h57
  have hu7 := hu5.below h57
  have hx7 := hv'.below hb7
  clear h57 h37 h35 hb3 hb4 hb5 hb6 hb7 hs3 hs5 c0' d0' hv3 hv5 hu5 hu hv'
  go_wp2_with fail
  refine (SH.out _ _ HB7.out hv7).mono ?_; rintro e w8 ⟨rfl, hb8⟩
  have HB8 := Lib.hid (below_next HB7.out hb8)
  have hv8 := hv7.below hb8
  have hu8 := hu7.below hb8
  have hx8 := hx7.below hb8
  have hy8 := hu'.below hb8
  clear hv7 hu7 hx7 hu' hb8 k0 k1
  go_wp2_with fail
  refine (SR.out _ _ hx8).mono ?_; rintro e w9 ⟨rfl, hb9⟩
  have HB9 := Lib.hid (below_next HB8.out hb9)
  have hv9 := hv8.below hb9
  have hu9 := hu8.below hb9
  have hx9 := hx8.below hb9
  have hy9 := hy8.below hb9
  clear hv8 hu8 hx8 hy8 hb9
  go_wp2_with fail
  refine (SM.out _ _ _ HB9.out hv9 hu9).mono ?_; rintro e w10 ⟨rfl, hb10⟩
  have HB10 := Lib.hid (below_next HB9.out hb10)
  have hx10 := hx9.below hb10
  have hy10 := hy9.below hb10
  clear hv9 hu9 hx9 hy9 hb10
  go_wp2_with fail
  refine (RM.out _ _ _ hx10 hy10).mono ?_; rintro e w11 ⟨rfl, r, rfl⟩
  go_wp2_with fail
  go_ret
  exact ⟨rfl, below_drewN HB10.out r⟩
end Go.Proofs.YtldgbdmiebipnaaGreatDoor

namespace Go.Proofs.YtldgbdmiebipnaaGreatDoor
open Go.RowKit

/-- What a call from w to w' has made reads so wherever its blocks stand. -/
def MadeT (w w' : World) (y : Tv) : Prop := ∀ W', w'.heap.size ≤ W'.heap.size → (∀ k, w.heap.size ≤ k → k < w'.heap.size → W'.heap[k]? = w'.heap[k]?) → y.ok W'
theorem MadeT.ok {w w' : World} {y : Tv} (h : MadeT w w' y) : y.ok w' := h w' (Nat.le_refl _) fun _ _ _ => rfl
theorem MadeT.wide {u w w' W : World} {y : Tv} (h : MadeT w w' y) (h1 : u.heap.size ≤ w.heap.size) (h2 : w'.heap.size ≤ W.heap.size) (h3 : ∀ k, w.heap.size ≤ k → k < w'.heap.size → W.heap[k]? = w'.heap[k]?) : MadeT u W y := fun W' g1 g2 =>
  h W' (Nat.le_trans h2 g1) fun k k1 k2 => (g2 k (Nat.le_trans h1 k1) (Nat.lt_of_lt_of_le k2 h2)).trans (h3 k k1 k2)
/-- A term without arguments lives anywhere. -/
theorem tv_plain {k : Int} {s : ByteArray} {n : Int} (h : Fit k s n) (w w' : World) : MadeT w w' ⟨.mk k s n [], none, 0⟩ := fun _ _ _ => ⟨h, by show (0 : Nat) ≤ _ ∧ (0 : Nat) ≤ 0; omega, .inl rfl⟩
/-- A term in a row that grows: its blocks lie from base on, and the row's block g is none of them. -/
def LiveT (W : World) (g : Option Nat) (base : Nat) (y : Tv) : Prop := ∃ lo hi, base ≤ lo ∧ lo ≤ hi ∧ hi ≤ W.heap.size ∧ (∀ k, g = some k → k < lo ∨ hi ≤ k) ∧
  ∀ W', hi ≤ W'.heap.size → (∀ k, lo ≤ k → k < hi → W'.heap[k]? = W.heap[k]?) → y.ok W'
theorem LiveT.ok {W : World} {g : Option Nat} {base : Nat} {y : Tv} (h : LiveT W g base y) : y.ok W := by
  obtain ⟨lo, hi, _, _, h3, _, h5⟩ := h
  exact h5 W h3 fun _ _ _ => rfl
theorem MadeT.live {w w' : World} {y : Tv} (h : MadeT w w' y) (hs : w.heap.size ≤ w'.heap.size) {g : Option Nat} {base : Nat} (hb : base ≤ w.heap.size) (hg : ∀ k, g = some k → k < w.heap.size ∨ w'.heap.size ≤ k) : LiveT w' g base y :=
  ⟨w.heap.size, w'.heap.size, hb, hs, Nat.le_refl _, hg, h⟩
theorem LiveT.keep {W W' : World} {g g' : Option Nat} {base : Nat} {y : Tv} (h : LiveT W g base y) (hs : W.heap.size ≤ W'.heap.size) (hk : ∀ k, base ≤ k → k < W.heap.size → some k ≠ g → W'.heap[k]? = W.heap[k]?) (hg : ∀ k, g' = some k → g = some k ∨ W.heap.size ≤ k) : LiveT W' g' base y := by
  obtain ⟨lo, hi, h1, h2, h3, h4, h5⟩ := h
  refine ⟨lo, hi, h1, h2, Nat.le_trans h3 hs, fun k e => ?_, fun W2 g1 g2 => h5 W2 g1 fun k k1 k2 => ?_⟩
  · rcases hg k e with e | e
    · exact h4 k e
    · exact .inr (Nat.le_trans h3 e)
  · rw [g2 k k1 k2]
    refine hk k (Nat.le_trans h1 k1) (Nat.lt_of_lt_of_le k2 h3) fun e => ?_
    rcases h4 k e.symm with e | e <;> omega
theorem LiveT.grown {W W' : World} {g g' : Option Nat} {base : Nat} {y : Tv} (h : LiveT W g base y) (hg : W.grownBy W' g) (hat : g' = g ∨ g' = some W.heap.size) : LiveT W' g' base y := h.keep hg.size (fun k _ hk e => hg.block k hk e) fun k e => by
  rcases hat with e2 | e2
  · left; rw [← e2]; exact e
  · right; rw [e2] at e; injection e with e; omega
/-- A row of terms that grows. -/
structure RowT (W : World) (base : Nat) (v : Value) (ts : List Tm) : Prop where
  row : ∃ vs : List Tv, vs.map Tv.t = ts ∧ (∀ x ∈ vs, LiveT W v.ownBlock base x) ∧ W.ownsRow base 100 4 v ts.length (rowTv vs)
theorem rowT_nil (W : World) (base : Nat) : RowT W base (.slice none 0 0) [] := ⟨[], rfl, (fun x hx => by cases hx), World.ownsRow_nil _ _ _ _⟩
theorem RowT.keep {W W' : World} {base : Nat} {v : Value} {ts : List Tm} (h : RowT W base v ts) (hs : W.heap.size ≤ W'.heap.size) (hk : ∀ k, base ≤ k → k < W.heap.size → W'.heap[k]? = W.heap[k]?) : RowT W' base v ts := by
  obtain ⟨vs, h1, h2, h3⟩ := h
  exact ⟨vs, h1, fun x hx => (h2 x hx).keep hs (fun k q1 q2 _ => hk k q1 q2) (fun k e => .inl e), own_at h3 fun q e => hk q (own_row_ge h3 q e) (own_row_lt h3 q e)⟩
theorem RowT.below {W W' : World} {base : Nat} {v : Value} {ts : List Tm} (h : RowT W base v ts) (hb : Below W.heap.size W W') : RowT W' base v ts := h.keep hb.size fun k _ hk => hb.block k hk
/-- One term more. -/
theorem RowT.snoc {W W' : World} {base : Nat} {v v' : Value} {ts : List Tm} {vs : List Tv} {y : Tv} (h1 : vs.map Tv.t = ts) (h2 : ∀ x ∈ vs, LiveT W v.ownBlock base x) (hy : LiveT W v.ownBlock base y)
    (hown : W'.ownsRow base 100 4 v' (ts.length + 1) (rowTv vs ++ y.cells)) (hg : W.grownBy W' v.ownBlock) (hat : v'.ownBlock = v.ownBlock ∨ v'.ownBlock = some W.heap.size) : RowT W' base v' (ts ++ [y.t]) := by
  refine ⟨vs ++ [y], by rw [List.map_append, h1]; rfl, fun x hx => ?_, ?_⟩
  · rcases List.mem_append.1 hx with hx | hx
    · exact (h2 x hx).grown hg hat
    · rw [List.mem_singleton] at hx; rw [hx]; exact hy.grown hg hat
  · rw [List.length_append, rowTv_append, rowTv_one]; exact hown
/-- A term over such a row is made by the call that began at base. -/
theorem RowT.made {w W : World} {base : Nat} {a : Option Addr} {m c : Nat} {ts : List Tm} {k : Int} {s : ByteArray} {n : Int} (h : RowT W base (.slice a m c) ts) (hfit : Fit k s n) (hb : w.heap.size ≤ base) (hl : ts.length ≤ 9223372036854775807) : MadeT w W ⟨.mk k s n ts, a, c⟩ := fun W' g1 g2 => by
  obtain ⟨vs, h1, h2, h3⟩ := h
  have hlive : ∀ x ∈ vs, x.ok W' := fun x hx => by
    obtain ⟨lo, hi, k1, _, k3, _, k5⟩ := h2 x hx
    exact k5 W' (Nat.le_trans k3 g1) fun q q1 q2 => g2 q (by omega) (by omega)
  have hown := own_at (w' := W') h3 fun q e => g2 q (Nat.le_trans hb (own_row_ge h3 q e)) (own_row_lt h3 q e)
  subst h1
  obtain ⟨hn, ⟨hv, h0⟩ | ⟨g, cap, cur, hv, _, hg, hcap, hmax, hsz, htake⟩⟩ := hown
  · have : vs = [] := by simpa using h0
    subst this
    cases hv
    exact ⟨hfit, by show (0 : Nat) ≤ _ ∧ (0 : Nat) ≤ 0; omega, .inl rfl⟩
  · cases hv
    have hrow : RowAt W' (vs.map Tv.t) g 0 := rowAt_of fun {j} hj => by
      have hjv : j < vs.length := by simpa using hj
      rw [List.getElem_map]
      have cell : ∀ i, i < 4 → W'.cell? ⟨g, 0 + j * 4 + i, none⟩ = vs[j].cells[i]? := by
        intro i hi
        rw [cell_of_row W' g (0 + j * 4 + i) cur _ (0, 0) hg, ← rowTv_get vs j hjv i hi, ← htake, List.getElem?_take, if_pos (by simp; omega), Nat.zero_add]
        simp
      exact tv_tmAt (hlive _ (List.getElem_mem hjv)) ⟨cell 0 (by omega), cell 1 (by omega), cell 2 (by omega), cell 3 (by omega)⟩
    exact ⟨hfit, ⟨hl, hcap⟩, .inr ⟨g, 0, rfl, (Array.getElem?_eq_some_iff.1 hg).1, hrow⟩⟩
end Go.Proofs.YtldgbdmiebipnaaGreatDoor
