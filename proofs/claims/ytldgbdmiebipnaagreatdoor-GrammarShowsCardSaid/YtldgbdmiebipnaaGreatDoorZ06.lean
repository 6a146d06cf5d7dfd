/-
  A text's items, and there and back: what items are shown as has the same items. No function of the program.
  The tokens of a text are small: their numbers, places, texts, and how many they are. No function of the program.
  What a call of Parse leaves; the items from a token on, step by step.
  The term that a text is: as data. No function of the program.
  Whether trees and items are alike but for places: the pure part. No function of the program.
  What a program's grammar must do, in the memory of w and whatever lies behind it; chapter 11's example.
  Chapter 11's example answers true, and any text's items are what the grammar says: from what the program's grammar answers.
  A row of the call's own, with the elements of a slice behind it that may have none and no memory. No function of the program.
  The terms that begin at a token, with a sign between, by the reference of layer 11: Terms, where Term is as it should be; then both.
-/
import Derived.Test.YtldgbdmiebipnaaGreatDoorZ05
import Derived.Test.YtldgbdmiebipnaaGreatDoorZ02
import Derived.Test.YtldgbdmiebipnaaGreatDoorZ04
import Derived.Test.YtldgbdmiebipnaaGreatDoorZ01
import Derived.Maps.AppendAt
import Derived.Laws.AppendOwnNone
namespace Go.Proofs.YtldgbdmiebipnaaGreatDoor
open Go.RowKit

/-! The tokens of a text. -/
theorem tkD_snoc (more : List Tok) (e : Tok) (i : Nat) : tkD (more ++ [e]) i = if h : i < more.length then more[i] else if i = more.length then e else nilTok := by
  by_cases h : i < more.length
  · rw [dif_pos h, tkD_at (by rw [List.length_append, List.length_singleton]; omega), List.getElem_append_left h]
  · rw [dif_neg h]
    by_cases e1 : i = more.length
    · subst e1
      rw [if_pos rfl, tkD_at (by rw [List.length_append, List.length_singleton]; omega), List.getElem_append_right (Nat.le_refl _)]
      simp
    · rw [if_neg e1, tkD_out (by rw [List.length_append, List.length_singleton]; omega)]
/-- The tokens of a text: sound, and an end. -/
structure TextToks (L : List Tok) : Prop where
  ended : Ended L
  sound : AllSound L
  once : ∀ i, i < L.length → (tkD L i).kind = 0 → i + 1 = L.length
  pos : 1 ≤ L.length
theorem textToks_of {s : ByteArray} {ts : List Tok} (h : scanS s = .inr ts) : TextToks ts := by
  obtain ⟨more, rfl, hS, _⟩ := scanS_sound h
  have hk : ∀ i, (tkD (more ++ [endTok s]) i).kind ≠ 0 → ∃ h : i < more.length, tkD (more ++ [endTok s]) i = more[i] := fun i hne => by
    rw [tkD_snoc] at hne ⊢
    by_cases hi : i < more.length
    · exact ⟨hi, by rw [dif_pos hi]⟩
    · rw [dif_neg hi] at hne
      split at hne
      · exact absurd rfl hne
      · exact absurd rfl hne
  refine ⟨fun i hne => ?_, fun i hne => ?_, fun i hi h0 => ?_, by rw [List.length_append, List.length_singleton]; omega⟩
  · obtain ⟨hi, _⟩ := hk i hne
    rw [List.length_append, List.length_singleton]; omega
  · obtain ⟨hi, e⟩ := hk i hne
    rw [e]; exact hS _ (List.getElem_mem hi)
  · rw [List.length_append, List.length_singleton] at hi ⊢
    rw [tkD_snoc] at h0
    by_cases hl : i < more.length
    · rw [dif_pos hl] at h0
      exact absurd h0 (hS _ (List.getElem_mem hl)).nz
    · omega
/-- Enough steps are as good as more. -/
theorem itemsF_same : ∀ (f f' : Nat) (L : List Tok) (i : Nat), Ended L → L.length - i + 1 ≤ f → L.length - i + 1 ≤ f' → itemsF f L i = itemsF f' L i
  | 0, _, _, _, _, h, _ => by omega
  | _ + 1, 0, _, _, _, _, h => by omega
  | f + 1, f' + 1, L, i, hE, h, h' => by
    rw [itemsF, itemsF]
    by_cases h0 : (tkD L i).kind = 0
    · rw [if_pos h0, if_pos h0]
    · rw [if_neg h0, if_neg h0]
      have hi := hE i h0
      by_cases h1 : (tkD L i).kind ≠ 1 ∨ wordK (tkD L i) = true
      · rw [if_pos h1, if_pos h1]
      · rw [if_neg h1, if_neg h1]
        have hle := goP_le L (shapesOf (tkD L i).text) ⟨(tkD L i).text, (tkD L i).place, [], []⟩ (i + 1)
        rw [itemsF_same f f' L _ hE (by omega) (by omega)]
/-- The items from a token on. -/
def itemsP (L : List Tok) (i : Nat) : Nat ⊕ List It := itemsF (L.length + 1) L i
/-- Items as lines, but for the last line's end; ahead of the first stands g. -/
def showG (g : List UInt8) : List It → List UInt8
  | [] => []
  | [x] => g ++ lineS x
  | x :: y :: r => g ++ lineS x ++ showG [10] (y :: r)
theorem showG_cons (g : List UInt8) (x : It) {r : List It} (h : r ≠ []) : showG g (x :: r) = g ++ lineS x ++ showG [10] r := by
  cases r with
  | nil => exact absurd rfl h
  | cons y r => rw [showG]
theorem showG_eq : ∀ (xs : List It) (g : List UInt8), xs ≠ [] → showG g xs ++ [10] = g ++ showS xs
  | [], _, h => absurd rfl h
  | [x], g, _ => by rw [showG, showS]; simp
  | x :: y :: r, g, _ => by
    rw [showG, List.append_assoc, showG_eq (y :: r) [10] (by simp)]
    unfold showS
    simp
theorem shapes_head (k : ByteArray) : (shapesOf k).head? ≠ some 110 := by
  unfold shapesOf
  repeat' split
  all_goals decide
theorem items_spelt {L : List Tok} (h : TextToks L) : ∀ (f i : Nat) (g : List UInt8) (xs : List It), i < L.length → Gap g → itemsF f L i = .inr xs → Spelt (g ≠ []) (showG g xs) (seg L i (L.length - 1))
  | 0, i, g, xs, _, _, he => by rw [itemsF] at he; cases he
  | f + 1, i, g, xs, hi, hg, he => by
    rw [itemsF] at he
    by_cases h0 : (tkD L i).kind = 0
    · rw [if_pos h0] at he
      cases he
      have := h.once i hi h0
      rw [show L.length - 1 = i from by omega, seg_end]
      exact ⟨[], rfl, rfl, (fun p hp => by cases hp), trivial, fun _ => trivial⟩
    · rw [if_neg h0] at he
      have hi1 := h.ended i h0
      by_cases h1 : (tkD L i).kind ≠ 1 ∨ wordK (tkD L i) = true
      · rw [if_pos h1] at he; cases he
      · rw [if_neg h1] at he
        by_cases h2 : (goP L (shapesOf (tkD L i).text) ⟨(tkD L i).text, (tkD L i).place, [], []⟩ (i + 1)).2.2 = false
        · rw [if_pos h2] at he; cases he
        · rw [if_neg h2] at he
          obtain ⟨ws, ts, e1, e2, _, hsp⟩ := goP_spelt h.ended h.sound (shapesOf (tkD L i).text) ⟨(tkD L i).text, (tkD L i).place, [], []⟩ (i + 1) (shapes_ok _) hi1 (by simpa using h2)
          have hkey := (goP_key L (shapesOf (tkD L i).text) ⟨(tkD L i).text, (tkD L i).place, [], []⟩ (i + 1)).1
          have hle := goP_le L (shapesOf (tkD L i).text) ⟨(tkD L i).text, (tkD L i).place, [], []⟩ (i + 1)
          have hin := goP_in h.ended (shapesOf (tkD L i).text) ⟨(tkD L i).text, (tkD L i).place, [], []⟩ (i + 1) hi1
          generalize goP L (shapesOf (tkD L i).text) ⟨(tkD L i).text, (tkD L i).place, [], []⟩ (i + 1) = R at *
          have hline : lineS R.1 = (tkD L i).text.data.toList ++ lineR (shapesOf (tkD L i).text) ws ts := by
            unfold lineS
            simp only [List.nil_append] at e1 e2
            rw [hkey, e1, e2]
          have a := ((spelt_one g hg (tkD L i)).weak (Q := g ≠ []) .inl).cat hsp (by simp) (.inl (shapes_head _))
          rw [← seg_one hi, ← seg_cat L (Nat.le_succ i) hle, List.append_assoc, ← hline] at a
          cases hr : itemsF f L R.2.1 with
          | inl e => rw [hr] at he; cases he
          | inr r =>
            rw [hr] at he
            cases he
            have b := items_spelt h f R.2.1 [10] r hin blank_line hr
            by_cases hre : r = []
            · subst hre
              rw [showG]
              rw [show showG [10] ([] : List It) = [] from rfl] at b
              obtain ⟨ps, b1, b2, _⟩ := b
              have : seg L R.2.1 (L.length - 1) = [] := by
                cases ps with
                | nil => exact b1.symm
                | cons p q =>
                  exfalso
                  cases f with
                  | zero => rw [itemsF] at hr; cases hr
                  | succ f =>
                    rw [itemsF] at hr
                    by_cases k0 : (tkD L R.2.1).kind = 0
                    · have := h.once _ hin k0
                      rw [show L.length - 1 = R.2.1 from by omega, seg_end] at b1
                      cases b1
                    · rw [if_neg k0] at hr
                      split at hr
                      · cases hr
                      · split at hr
                        · cases hr
                        · split at hr
                          · cases hr
                          · cases hr
              rw [seg_cat L (show i ≤ R.2.1 by omega) (show R.2.1 ≤ L.length - 1 by omega), this, List.append_nil]
              exact a
            · rw [showG_cons _ _ hre, seg_cat L (show i ≤ R.2.1 by omega) (show R.2.1 ≤ L.length - 1 by omega)]
              exact a.cat b (seg_ne (by omega) hi) (.inl (by simp))

/-! Without places. -/
def It.bare (x : It) : It := ⟨x.key, 0, bareL x.words, bareL x.trees⟩
theorem bareL_append (a b : List Tr) : bareL (a ++ b) = bareL a ++ bareL b := by rw [bareL_map, bareL_map, bareL_map, List.map_append]
theorem bareL_one (t : Tr) : bareL [t] = [t.bare] := by rw [bareL, bareL]
theorem oneP_like {L L' : List Tok} (hL : LikeT L L') {x y : It} (hx : x.bare = y.bare) (i : Nat) (c : UInt8) : (oneP x L i c).1.bare = (oneP y L' i c).1.bare ∧ (oneP x L i c).2 = (oneP y L' i c).2 := by
  obtain ⟨k, p, ws, ts⟩ := x
  obtain ⟨k', p', ws', ts'⟩ := y
  unfold It.bare at hx
  injection hx with h1 _ h3 h4
  simp only at h1 h3 h4
  subst h1
  have hp := likeT_at hL i
  obtain ⟨t1, t2⟩ := termP_like hL i 0
  obtain ⟨u1, u2⟩ := termsP_like hL i sSemi 0
  unfold oneP
  rw [wordK_plain hp, plain_kind hp, plain_text hp, plain_n hp, isS_plain hp sDot, isS_plain hp, t2, u2]
  repeat' split
  all_goals refine ⟨?_, rfl⟩
  all_goals unfold It.bare
  all_goals simp only [bareL_append, Tr.bare, bareL, h3, h4, t1, u1]
theorem goP_like {L L' : List Tok} (hL : LikeT L L') : ∀ (r : List UInt8) {x y : It} (i : Nat), x.bare = y.bare → (goP L r x i).1.bare = (goP L' r y i).1.bare ∧ (goP L r x i).2 = (goP L' r y i).2
  | [], x, y, i, h => ⟨h, rfl⟩
  | c :: r, x, y, i, h => by
    obtain ⟨h1, h2⟩ := oneP_like hL h i c
    rw [goP, goP, h2]
    split
    · exact ⟨h, rfl⟩
    · exact goP_like hL r _ h1
/-- What is read hangs on the tokens, but for places. -/
theorem itemsF_like {L L' : List Tok} (hL : LikeT L L') : ∀ (f i : Nat), (∃ j, itemsF f L i = .inl j ∧ itemsF f L' i = .inl j) ∨ ∃ xs ys, itemsF f L i = .inr xs ∧ itemsF f L' i = .inr ys ∧ xs.map It.bare = ys.map It.bare
  | 0, i => .inl ⟨i, by rw [itemsF], by rw [itemsF]⟩
  | f + 1, i => by
    have hp := likeT_at hL i
    obtain ⟨g1, g2⟩ := goP_like hL (shapesOf (tkD L' i).text) (x := ⟨(tkD L' i).text, (tkD L i).place, [], []⟩) (y := ⟨(tkD L' i).text, (tkD L' i).place, [], []⟩) (i + 1) rfl
    rw [itemsF, itemsF, plain_kind hp, wordK_plain hp, plain_text hp, g2]
    split
    · exact .inr ⟨[], [], rfl, rfl, rfl⟩
    · split
      · exact .inl ⟨i, rfl, rfl⟩
      · split
        · exact .inl ⟨_, rfl, rfl⟩
        · rcases itemsF_like hL f (goP L' (shapesOf (tkD L' i).text) ⟨(tkD L' i).text, (tkD L' i).place, [], []⟩ (i + 1)).2.1 with ⟨j, e1, e2⟩ | ⟨xs, ys, e1, e2, e3⟩
          · exact .inl ⟨j, by rw [e1], by rw [e2]⟩
          · exact .inr ⟨_, _, by rw [e1], by rw [e2], by rw [List.map_cons, List.map_cons, g1, e3]⟩

/-! What is shown hangs on no place. -/
theorem bare_text (t : Tr) : t.bare.text = t.text := by cases t; rw [Tr.bare]; rfl
mutual
theorem plainR_bare : ∀ t : Tr, plainR t.bare = plainR t
  | .mk k s n p xs => by rw [Tr.bare, plainR, plainR, plainRs_bare xs]
theorem plainRs_bare : ∀ l : List Tr, plainRs (bareL l) = plainRs l
  | [] => by rw [bareL]
  | t :: r => by rw [bareL, plainRs, plainRs, plainR_bare t, plainRs_bare r]
end
theorem shR_bare (t : Tr) : shR t.bare = shR t := by unfold shR; rw [plainR_bare]
theorem shR_of {t u : Tr} (h : t.bare = u.bare) : shR t = shR u := by rw [← shR_bare t, ← shR_bare u, h]
theorem text_of {t u : Tr} (h : t.bare = u.bare) : t.text = u.text := by rw [← bare_text t, ← bare_text u, h]
theorem sepS_bare (sg : List UInt8) : ∀ (g : List UInt8) (ts : List Tr), sepS g sg (bareL ts) = sepS g sg ts
  | g, [] => by rw [bareL]
  | g, [t] => by rw [bareL, bareL, sepS, sepS, shR_bare]
  | g, t :: u :: r => by
    have := sepS_bare sg [32] (u :: r)
    rw [bareL] at this
    rw [bareL, bareL, sepS, sepS, shR_bare, this]
theorem headD_bare (l : List Tr) : (bareL l).headD default = ((l.headD default).bare) ∨ l = [] := by
  cases l with
  | nil => exact .inr rfl
  | cons t r => exact .inl (by rw [bareL]; rfl)
theorem tail_bare (l : List Tr) : (bareL l).tail = bareL l.tail := by
  cases l with
  | nil => rw [bareL]; rfl
  | cons t r => rw [bareL]; rfl
theorem lineR_bare : ∀ (r : List UInt8) (ws ts : List Tr), lineR r (bareL ws) (bareL ts) = lineR r ws ts
  | [], _, _ => rfl
  | c :: r, ws, ts => by
    have hw : ((bareL ws).headD default).text = (ws.headD default).text := by
      cases ws with
      | nil => rw [bareL]
      | cons t r => rw [bareL]; exact bare_text t
    have ht : shR ((bareL ts).headD default) = shR (ts.headD default) := by
      cases ts with
      | nil => rw [bareL]
      | cons t r => rw [bareL]; exact shR_bare t
    rw [lineR, lineR, hw, ht, sepS_bare, tail_bare, tail_bare, lineR_bare r ws.tail ts, lineR_bare r ws ts.tail, lineR_bare r ws ts]
theorem lineS_bare (x : It) : lineS x.bare = lineS x := by
  unfold lineS It.bare
  simp only
  rw [lineR_bare]
theorem showS_bare (xs : List It) : showS (xs.map It.bare) = showS xs := by
  unfold showS
  induction xs with
  | nil => rfl
  | cons x r ih => rw [List.map_cons, List.flatMap_cons, List.flatMap_cons, ih, lineS_bare]
theorem showS_of {xs ys : List It} (h : xs.map It.bare = ys.map It.bare) : showS xs = showS ys := by rw [← showS_bare xs, ← showS_bare ys, h]

/-! There and back. -/
theorem spell_len : ∀ ps : List Piece, (∀ p ∈ ps, Gap p.1) → (spell ps).length ≤ ps.length + bytesOf (ps.map Prod.snd)
  | [], _ => Nat.le_refl _
  | p :: r, h => by
    have h1 := (h p (List.mem_cons_self ..)).2
    have h2 := spell_len r fun x hx => h x (List.mem_cons_of_mem _ hx)
    have h3 : p.2.text.data.toList.length = p.2.text.size := by simp
    rw [spell_cons, List.length_append, List.length_append]
    unfold bytesOf at h2 ⊢
    simp only [List.map_cons, List.sum_cons, List.length_cons] at h2 ⊢
    omega
theorem sound_len {ts : List Tok} (h : ∀ t ∈ ts, Sound t) : ts.length ≤ bytesOf ts := by
  induction ts with
  | nil => exact Nat.le_refl _
  | cons t r ih =>
    have := ih fun x hx => h x (List.mem_cons_of_mem _ hx)
    have hp := (h t (List.mem_cons_self ..)).pos
    unfold bytesOf at this ⊢
    simp only [List.map_cons, List.sum_cons, List.length_cons]; omega
theorem bs_size (l : List UInt8) : (bs l).size = l.length := by unfold bs; show l.toArray.size = _; simp
/-- What a text's items are shown as has tokens alike, and is no longer than twice the text, and one byte. -/
theorem back_toks {s : ByteArray} {ts : List Tok} {xs : List It} (h : scanS s = .inr ts) (hp : itemsP ts 0 = .inr xs) :
    (bs (showS xs)).size ≤ 2 * s.size + 1 ∧ ∃ us, scanS (bs (showS xs)) = .inr us ∧ LikeT us ts := by
  have hT := textToks_of h
  obtain ⟨more, hts, hS, hby⟩ := scanS_sound h
  have hseg : seg ts 0 (ts.length - 1) = more := by
    unfold seg
    rw [hts, List.drop_zero, List.length_append, List.length_singleton, show more.length + 1 - 1 - 0 = more.length from by omega, List.take_left]
  have hsp := items_spelt hT _ 0 [] xs hT.pos blank_nil hp
  rw [hseg] at hsp
  obtain ⟨ps, h1, h2, h3, h4, _⟩ := hsp
  have hpsS : ∀ p ∈ ps, Blank p.1 ∧ Sound p.2 := fun p hp => ⟨(h3 p hp).1, hS _ (by rw [← h1]; exact List.mem_map.2 ⟨p, hp, rfl⟩)⟩
  have hlen := spell_len ps h3
  have hpl : ps.length = more.length := by rw [← h1, List.length_map]
  have hml := sound_len hS
  rw [h1] at hlen
  by_cases hx : xs = []
  · subst hx
    rw [show showG [] ([] : List It) = [] from rfl] at h2
    have hpe : ps = [] := by
      cases ps with
      | nil => rfl
      | cons p q =>
        exfalso
        have hpos := (hpsS p (List.mem_cons_self ..)).2.pos
        have h3 : p.2.text.data.toList.length = p.2.text.size := by simp
        have := congrArg List.length h2
        rw [spell_cons, List.length_append, List.length_append, List.length_nil] at this
        omega
    have hme : more = [] := by rw [← h1, hpe]; rfl
    refine ⟨by rw [bs_size]; simp [showS], ?_⟩
    have hsc := spelt_scan (ps := []) (tail := []) (fun p hp => by cases hp) trivial blank_nil.1
    obtain ⟨us, hu1, hu2⟩ := hsc
    refine ⟨_, hu1, ?_⟩
    unfold LikeT
    rw [List.map_append, hu2, hts, hme]; rfl
  · have hsh : showS xs = spell ps ++ [10] := by
      have := showG_eq xs [] hx
      rw [List.nil_append] at this
      rw [← this, h2]
    refine ⟨by rw [bs_size, hsh, List.length_append, List.length_singleton]; omega, ?_⟩
    obtain ⟨us, hu1, hu2⟩ := spelt_scan (tail := [10]) hpsS h4 blank_line.1
    rw [hsh]
    refine ⟨_, hu1, ?_⟩
    unfold LikeT
    rw [List.map_append, hu2, h1, hts, List.map_append]; rfl

/-- What Parse answers: the error, its byte, the items. -/
def parseS (s : ByteArray) : Int × Int × List It :=
  if s.size ≤ 8192 then (match scanS s with
    | .inl i => (2, (i : Int), [])
    | .inr ts => match itemsP ts 0 with
      | .inl j => (2, (tkD ts j).place, [])
      | .inr xs => (0, 0, xs))
  else (3, 0, [])
theorem parseS_ok {s : ByteArray} (h : (parseS s).1 = 0) : s.size ≤ 8192 ∧ ∃ ts xs, scanS s = .inr ts ∧ itemsP ts 0 = .inr xs ∧ parseS s = (0, 0, xs) := by
  unfold parseS at h ⊢
  by_cases hs : s.size ≤ 8192
  · rw [if_pos hs] at h ⊢
    refine ⟨hs, ?_⟩
    cases hsc : scanS s with
    | inl i => rw [hsc] at h; exact absurd (show (2 : Int) = 0 from h) (by decide)
    | inr ts =>
      rw [hsc] at h
      simp only at h ⊢
      cases hit : itemsP ts 0 with
      | inl j => rw [hit] at h; exact absurd (show (2 : Int) = 0 from h) (by decide)
      | inr xs => exact ⟨ts, xs, rfl, hit, by simp only⟩
  · rw [if_neg hs] at h; exact absurd (show (3 : Int) = 0 from h) (by decide)
theorem parseS_bad {s : ByteArray} (h : (parseS s).1 ≠ 0) : (parseS s).2.2 = [] := by
  unfold parseS at h ⊢
  split
  · next hs =>
    rw [if_pos hs] at h
    cases hsc : scanS s with
    | inl i => rfl
    | inr ts =>
      rw [hsc] at h
      simp only at h ⊢
      cases hit : itemsP ts 0 with
      | inl j => rfl
      | inr xs => rw [hit] at h; exact absurd rfl h
  · rfl
/-- There and back: items alike, and shown as they were. -/
theorem parse_back {s : ByteArray} (h : (parseS s).1 = 0) (hs : s.size ≤ 4000) :
    (parseS (bs (showS (parseS s).2.2))).1 = 0 ∧ (parseS (bs (showS (parseS s).2.2))).2.2.map It.bare = (parseS s).2.2.map It.bare ∧
      showS (parseS (bs (showS (parseS s).2.2))).2.2 = showS (parseS s).2.2 ∧ (bs (showS (parseS s).2.2)).size ≤ 2 * s.size + 1 := by
  obtain ⟨_, ts, xs, h1, h2, h3⟩ := parseS_ok h
  obtain ⟨hsz, us, hu, hl⟩ := back_toks h1 h2
  rw [h3]
  simp only
  have hlen := likeT_len hl
  have hT := textToks_of hu
  have key : ∃ ys, itemsP us 0 = .inr ys ∧ ys.map It.bare = xs.map It.bare := by
    unfold itemsP at h2 ⊢
    rw [hlen]
    rcases itemsF_like hl (ts.length + 1) 0 with ⟨j, _, e2⟩ | ⟨ys, xs', e1, e2, e3⟩
    · rw [h2] at e2; cases e2
    · rw [h2] at e2
      cases e2
      exact ⟨ys, e1, e3⟩
  obtain ⟨ys, hy, hb⟩ := key
  have hP : parseS (bs (showS xs)) = (0, 0, ys) := by
    unfold parseS
    rw [if_pos (by omega), hu]
    simp only [hy]
  rw [hP]
  exact ⟨rfl, hb, showS_of hb, hsz⟩
end Go.Proofs.YtldgbdmiebipnaaGreatDoor

namespace Go.Proofs.YtldgbdmiebipnaaGreatDoor
open Go.RowKit

structure SmallTok (s : ByteArray) (t : Tok) : Prop where
  n0 : 0 ≤ t.n
  n1 : t.n ≤ 999
  len : t.text.size ≤ s.size
  p0 : 0 ≤ t.place
  p1 : t.place ≤ s.size
theorem tokL_n {l : List UInt8} {c : Cut} (h : tokL l = some c) : 0 ≤ c.n ∧ c.n ≤ 999 := by
  have hn : ∀ {k : Int} {t : List UInt8} {least : Int} {len : Nat}, numCut k t least len = some c → 0 ≤ c.n ∧ c.n ≤ 999 := fun h => by
    rw [numCut_some h]; exact numVal_bd _
  unfold tokL at h
  split at h
  · exact hn h
  · split at h
    · exact hn h
    · split at h
      · (injection h with h; subst h; exact ⟨(show (0 : Int) ≤ 0 by decide), (show (0 : Int) ≤ 999 by decide)⟩)
      · split at h
        · exact hn h
        · split at h
          · split at h
            · (injection h with h; subst h; exact ⟨(show (0 : Int) ≤ 0 by decide), (show (0 : Int) ≤ 999 by decide)⟩)
            · split at h
              · (injection h with h; subst h; exact ⟨(show (0 : Int) ≤ 0 by decide), (show (0 : Int) ≤ 999 by decide)⟩)
              · cases h
          · cases h
theorem small_end (s : ByteArray) : SmallTok s (endTok s) := ⟨(show (0 : Int) ≤ 0 by decide), (show (0 : Int) ≤ 999 by decide), Nat.zero_le _, Int.natCast_nonneg _, Int.le_refl _⟩
theorem scanF_small (s : ByteArray) : ∀ (f i : Nat) (acc ts : List Tok), i ≤ s.size → (∀ t ∈ acc, SmallTok s t) → scanF f s i acc = .inr ts → ∀ t ∈ ts, SmallTok s t := by
  have hend : ∀ (acc ts : List Tok), (∀ t ∈ acc, SmallTok s t) → (Sum.inr (acc ++ [endTok s]) : Nat ⊕ List Tok) = .inr ts → ∀ t ∈ ts, SmallTok s t := fun acc ts ha h t ht => by
    rw [← Sum.inr.inj h] at ht
    rcases List.mem_append.1 ht with ht | ht
    · exact ha t ht
    · rw [List.mem_singleton] at ht; rw [ht]; exact small_end s
  intro f
  induction f with
  | zero => intro i acc ts _ ha h; exact hend acc ts ha h
  | succ f ih =>
    intro i acc ts hi ha h
    rw [scanF] at h
    split at h
    · exact hend acc ts ha h
    · next hlt =>
      have hlt : i < s.size := by omega
      rw [head_at hlt] at h
      split at h
      · exact ih _ _ _ (by omega) ha h
      · split at h
        · exact ih _ _ _ (rem_le s hi) ha h
        · cases hc : tokL (s.data.toList.drop i) with
          | none => rw [hc] at h; cases h
          | some c =>
            rw [hc] at h
            have hp := tokL_pos hc (by rw [drop_cons s hlt]; simp)
            rw [List.length_drop] at hp
            have hsz : s.data.toList.length = s.size := by simp
            refine ih (i + c.len) (acc ++ [tokAt s i c]) ts (by omega) (fun t ht => ?_) h
            rcases List.mem_append.1 ht with ht | ht
            · exact ha t ht
            · rw [List.mem_singleton] at ht
              rw [ht]
              have hn := tokL_n hc
              exact ⟨hn.1, hn.2, by show (s.extract i (i + c.len)).size ≤ s.size; simp; omega, Int.natCast_nonneg _, by show (i : Int) ≤ s.size; omega⟩
theorem scanS_small {s : ByteArray} {ts : List Tok} (h : scanS s = .inr ts) : (∀ t ∈ ts, SmallTok s t) ∧ ts.length ≤ s.size + 1 := by
  refine ⟨scanF_small s s.size 0 [] ts (Nat.zero_le _) (fun t ht => by cases ht) h, ?_⟩
  obtain ⟨more, rfl, hS, hb⟩ := scanS_sound h
  have hl : ∀ l : List Tok, (∀ t ∈ l, Sound t) → l.length ≤ bytesOf l := fun l => by
    induction l with
    | nil => intro _; exact Nat.zero_le _
    | cons t r ih =>
      intro hl
      have h1 := (hl t (by simp)).pos
      have h2 := ih fun u hu => hl u (by simp [hu])
      show r.length + 1 ≤ ((t :: r).map fun t => t.text.size).sum
      rw [List.map_cons, List.sum_cons]
      show r.length + 1 ≤ t.text.size + bytesOf r
      omega
  have := hl more hS
  rw [List.length_append, List.length_singleton]; omega
end Go.Proofs.YtldgbdmiebipnaaGreatDoor

namespace Go.Proofs.YtldgbdmiebipnaaGreatDoor
open Go.RowKit

def ParsePost (s : ByteArray) (w : World) (e : Ending) (w' : World) : Prop :=
  ∃ v, e = .returned (.tuple #[v, .int .i64 (parseS s).1, .int .i64 (parseS s).2.1]) ∧ Its w' v (parseS s).2.2 ∧ Below w.heap.size w w'
theorem parseS_err {s : ByteArray} (h : outErr s ≠ 0) : parseS s = (outErr s, outAt s, []) := by
  unfold outErr at h
  unfold parseS outErr outAt
  by_cases hs : s.size ≤ 8192
  · rw [if_pos hs] at h ⊢
    rw [if_pos hs, if_pos hs]
    cases hsc : scanS s with
    | inl i => rfl
    | inr ts => rw [hsc] at h; exact absurd rfl h
  · rw [if_neg hs, if_neg hs, if_neg hs]
theorem scan_of {s : ByteArray} (h : outErr s = 0) : s.size ≤ 8192 ∧ ∃ ts, scanS s = .inr ts := by
  unfold outErr at h
  by_cases hs : s.size ≤ 8192
  · rw [if_pos hs] at h
    cases hsc : scanS s with
    | inl i => rw [hsc] at h; exact absurd (show (2 : Int) = 0 from h) (by decide)
    | inr ts => exact ⟨hs, ts, rfl⟩
  · rw [if_neg hs] at h; exact absurd h (by decide)
theorem parseS_of {s : ByteArray} {ts : List Tok} (h8 : s.size ≤ 8192) (h : scanS s = .inr ts) : parseS s = match itemsP ts 0 with
    | .inl j => (2, (tkD ts j).place, [])
    | .inr xs => (0, 0, xs) := by
  unfold parseS; rw [if_pos h8, h]
  all_goals (cases h2 : itemsP ts 0 <;> simp only [h2])
theorem tokOk_of {s : ByteArray} {ts : List Tok} (h8 : s.size ≤ 8192) (h : scanS s = .inr ts) (i : Nat) : TokOk (tkD ts i) := by
  rcases Nat.lt_or_ge i ts.length with hi | hi
  · rw [tkD_at hi]
    have := (scanS_small h).1 _ (List.getElem_mem hi)
    obtain ⟨a, b, c, d, e⟩ := this
    exact ⟨by omega, by omega, by omega, by omega, by omega⟩
  · rw [tkD_out hi]
    exact ⟨by decide, by decide, by decide, by decide, by decide⟩
/-- Items ahead of what is read from here on. -/
def joinI (acc : List It) : Nat ⊕ List It → Nat ⊕ List It
  | .inl j => .inl j
  | .inr xs => .inr (acc ++ xs)
theorem itemsP_at {L : List Tok} (hE : Ended L) (i : Nat) : itemsP L i =
    if (tkD L i).kind = 0 then .inr []
    else if (tkD L i).kind ≠ 1 ∨ wordK (tkD L i) = true then .inl i
    else if (goP L (shapesOf (tkD L i).text) ⟨(tkD L i).text, (tkD L i).place, [], []⟩ (i + 1)).2.2 = false then .inl (goP L (shapesOf (tkD L i).text) ⟨(tkD L i).text, (tkD L i).place, [], []⟩ (i + 1)).2.1
    else joinI [(goP L (shapesOf (tkD L i).text) ⟨(tkD L i).text, (tkD L i).place, [], []⟩ (i + 1)).1] (itemsP L (goP L (shapesOf (tkD L i).text) ⟨(tkD L i).text, (tkD L i).place, [], []⟩ (i + 1)).2.1) := by
  unfold itemsP
  rw [itemsF_same (L.length + 1) (L.length + 1 + 1) L i hE (by omega) (by omega), itemsF]
  by_cases h0 : (tkD L i).kind = 0
  · rw [if_pos h0, if_pos h0]
  rw [if_neg h0, if_neg h0]
  by_cases h1 : (tkD L i).kind ≠ 1 ∨ wordK (tkD L i) = true
  · rw [if_pos h1, if_pos h1]
  rw [if_neg h1, if_neg h1]
  by_cases h2 : (goP L (shapesOf (tkD L i).text) ⟨(tkD L i).text, (tkD L i).place, [], []⟩ (i + 1)).2.2 = false
  · rw [if_pos h2, if_pos h2]
  rw [if_neg h2, if_neg h2]
  cases itemsF (L.length + 1) L (goP L (shapesOf (tkD L i).text) ⟨(tkD L i).text, (tkD L i).place, [], []⟩ (i + 1)).2.1 <;> rfl
theorem joinI_join (acc : List It) (x : It) (r : Nat ⊕ List It) : joinI acc (joinI [x] r) = joinI (acc ++ [x]) r := by
  cases r with
  | inl j => rfl
  | inr xs => show Sum.inr (acc ++ ([x] ++ xs)) = Sum.inr (acc ++ [x] ++ xs); rw [List.append_assoc]

end Go.Proofs.YtldgbdmiebipnaaGreatDoor

namespace Go.Proofs.YtldgbdmiebipnaaGreatDoor
open Go.RowKit

def zeroR : Tr := .mk 0 ⟨#[]⟩ 0 0 []
/-- What Whole answers: the error, its byte, the term. -/
def wholeS (s : ByteArray) : Int × Int × Tr :=
  if outErr s ≠ 0 then (outErr s, outAt s, zeroR)
  else if (termP (outToks s) 0 0).2.2 = false ∨ (tkD (outToks s) (termP (outToks s) 0 0).2.1).kind ≠ 0 then (2, (tkD (outToks s) (termP (outToks s) 0 0).2.1).place, zeroR)
  else (0, 0, (termP (outToks s) 0 0).1)
theorem zero_ok (w : World) : Rv.ok w ⟨zeroR, none, 0⟩ := ⟨⟨by decide, by decide, by decide, by decide, by decide, by decide, by decide⟩, by show (0 : Nat) ≤ _ ∧ (0 : Nat) ≤ 0; omega, .inl rfl⟩
end Go.Proofs.YtldgbdmiebipnaaGreatDoor

namespace Go.Proofs.YtldgbdmiebipnaaGreatDoor
open Go.RowKit

open Classical in
/-- Trees alike, but for places. -/
noncomputable def alR (xs ys : List Tr) : Bool := decide (bareL xs = bareL ys)
theorem alR_true {xs ys : List Tr} (h : bareL xs = bareL ys) : alR xs ys = true := by unfold alR; simpa using h
theorem alR_false {xs ys : List Tr} (h : bareL xs ≠ bareL ys) : alR xs ys = false := by unfold alR; simpa using h
theorem alR_iff {xs ys : List Tr} : alR xs ys = true ↔ bareL xs = bareL ys := by unfold alR; simp
theorem bareL_take_succ {xs : List Tr} {j : Nat} (h : j < xs.length) : bareL (xs.take (j + 1)) = bareL (xs.take j) ++ [xs[j].bare] := by
  rw [bareL_map, bareL_map, List.take_succ_eq_append_getElem h, List.map_append]; rfl
theorem bareL_at {xs ys : List Tr} (h : bareL xs = bareL ys) {j : Nat} (h1 : j < xs.length) (h2 : j < ys.length) : xs[j].bare = ys[j].bare := by
  rw [bareL_map, bareL_map] at h
  have e1 : (xs.map Tr.bare)[j]'(by simpa using h1) = xs[j].bare := by simp
  have e2 : (ys.map Tr.bare)[j]'(by simpa using h2) = ys[j].bare := by simp
  rw [← e1, ← e2]
  congr 1
theorem bare_head {t u : Tr} (h : t.bare = u.bare) : t.kind = u.kind ∧ t.text = u.text ∧ t.n = u.n ∧ bareL t.args = bareL u.args := by
  cases t; cases u
  rw [Tr.bare, Tr.bare] at h
  injection h with a b c _ d
  exact ⟨a, b, c, d⟩
theorem bare_of {t u : Tr} (h : t.kind = u.kind) (h2 : t.text = u.text) (h3 : t.n = u.n) (h4 : bareL t.args = bareL u.args) : t.bare = u.bare := by
  cases t; cases u
  rw [Tr.bare, Tr.bare]
  simp only [Tr.kind, Tr.text, Tr.n, Tr.args] at h h2 h3 h4
  rw [h, h2, h3, h4]
/-- Where two heads part first. -/
theorem tr_ways (t u : Tr) : (t.kind != u.kind) = true ∨ ((t.kind != u.kind) = false ∧ ((t.text.toList == u.text.toList) = false ∨ ((t.text.toList == u.text.toList) = true ∧ ((t.n != u.n) = true ∨ (t.n != u.n) = false)))) := by
  cases h1 : (t.kind != u.kind) with
  | true => exact .inl rfl
  | false =>
    refine .inr ⟨rfl, ?_⟩
    cases h2 : (t.text.toList == u.text.toList) with
    | false => exact .inl rfl
    | true =>
      refine .inr ⟨rfl, ?_⟩
      cases h3 : (t.n != u.n) with
      | true => exact .inl rfl
      | false => exact .inr rfl

open Classical in
/-- Items alike, but for places. -/
noncomputable def saI (xs ys : List It) : Bool := decide (xs.map It.bare = ys.map It.bare)
theorem saI_true {xs ys : List It} (h : xs.map It.bare = ys.map It.bare) : saI xs ys = true := by unfold saI; simpa using h
theorem saI_false {xs ys : List It} (h : xs.map It.bare ≠ ys.map It.bare) : saI xs ys = false := by unfold saI; simpa using h
theorem bareI_succ {xs : List It} {j : Nat} (h : j < xs.length) : (xs.take (j + 1)).map It.bare = (xs.take j).map It.bare ++ [xs[j].bare] := by
  rw [List.take_succ_eq_append_getElem h, List.map_append]; rfl
theorem bareI_at {xs ys : List It} (h : xs.map It.bare = ys.map It.bare) {j : Nat} (h1 : j < xs.length) (h2 : j < ys.length) : xs[j].bare = ys[j].bare := by
  have e1 : (xs.map It.bare)[j]'(by simpa using h1) = xs[j].bare := by simp
  have e2 : (ys.map It.bare)[j]'(by simpa using h2) = ys[j].bare := by simp
  rw [← e1, ← e2]
  congr 1
theorem bareI_head {x y : It} (h : x.bare = y.bare) : x.key = y.key ∧ bareL x.words = bareL y.words ∧ bareL x.trees = bareL y.trees := by
  unfold It.bare at h
  injection h with a _ b c
  exact ⟨a, b, c⟩
theorem bareI_of {x y : It} (h : x.key = y.key) (h2 : bareL x.words = bareL y.words) (h3 : bareL x.trees = bareL y.trees) : x.bare = y.bare := by
  unfold It.bare; rw [h, h2, h3]

end Go.Proofs.YtldgbdmiebipnaaGreatDoor

namespace Go.Proofs.YtldgbdmiebipnaaGreatDoor
open Go.RowKit

/-- Items that a text has. -/
def ItemsOf (xs : List It) : Prop := ∃ s : ByteArray, s.size ≤ 9000 ∧ (parseS s).2.2 = xs
/-- What it reads. -/
structure GramA (w : World) : Prop where
  parse : ∀ (s : ByteArray) (W : World), Below w.heap.size w W → s.size ≤ 9000 → Calls Tryz.prog 5 #[.string s] W fun e w' => ∃ v, e = .returned (.tuple #[v, .agg #[.int .i64 (parseS s).1, .int .i64 (parseS s).2.1]]) ∧ Its w' v (parseS s).2.2 ∧ Below W.heap.size W w'
  term : ∀ (s : ByteArray) (W : World), Below w.heap.size w W → s.size ≤ 9000 → Calls Tryz.prog 11 #[.string s] W fun e w' => ∃ y : Rv, e = .returned (.tuple #[y.val, .agg #[.int .i64 (wholeS s).1, .int .i64 (wholeS s).2.1]]) ∧ y.t = (wholeS s).2.2 ∧ y.ok w' ∧ Below W.heap.size W w'
  plain : ∀ (x : Rv) (W : World), Below w.heap.size w W → x.ok W → (∃ s : ByteArray, s.size ≤ 9000 ∧ x.t = (wholeS s).2.2) → Calls Tryz.prog 66 #[x.val] W fun e w' => ∃ z : Tv, e = .returned z.val ∧ z.t = plainR x.t ∧ z.ok w' ∧ Below W.heap.size W w'
/-- Likewise, and what it shows and compares. -/
structure GramI (w : World) : Prop extends GramA w where
  show_ : ∀ (v : Value) (xs : List It) (W : World), Below w.heap.size w W → Its W v xs → ItemsOf xs → Calls Tryz.prog 7 #[v] W fun e w' => e = .returned (.string (bs (showS xs))) ∧ Below W.heap.size W w'
  same : ∀ (va vb : Value) (xs ys : List It) (W : World), Below w.heap.size w W → Its W va xs → Its W vb ys → ItemsOf xs → ItemsOf ys → Calls Tryz.prog 9 #[va, vb] W fun e w' => e = .returned (.bool (saI xs ys)) ∧ Below W.heap.size W w'
def txt11 : ByteArray := ⟨#[102, 40, 88, 44, 32, 36, 49, 41]⟩
def bad11 : ByteArray := ⟨#[117, 115, 101, 32, 46]⟩
theorem whole11 : (wholeS txt11).1 = 0 ∧ (wholeS txt11).2.2.kind = 5 ∧ (wholeS txt11).2.2.args.length = 2 := by decide +kernel
theorem parse11 : (parseS bad11).1 = 2 ∧ (parseS bad11).2.1 = 4 := by decide +kernel
end Go.Proofs.YtldgbdmiebipnaaGreatDoor

namespace Go.Proofs.YtldgbdmiebipnaaGreatDoor
open Go.RowKit

set_option maxRecDepth 100000 in
set_option maxHeartbeats 1000000 in
theorem awake11_of (w : World) (I : GramA w) (W : World) (h : Below w.heap.size w W) :
    Calls Tryz.prog 4 #[] W fun e w' => e = .returned (.bool true) ∧ Below W.heap.size W w' := by
  have T := Lib.hid (I.term txt11 W h (by decide))
  have P := Lib.hid (fun (V : World) (hb : Below W.heap.size W V) => I.parse bad11 V (h.trans (hb.mono h.size)) (by decide))
  have HW := whole11
  have HP := parse11
  obtain ⟨⟨e0, e1, u⟩, hu⟩ : ∃ x, wholeS txt11 = x := ⟨_, rfl⟩
  obtain ⟨⟨f0, f1, us⟩, hus⟩ : ∃ x, parseS bad11 = x := ⟨_, rfl⟩
  rw [hu] at T HW
  rw [hus] at P HP
  obtain ⟨rfl, hk, hl⟩ := HW
  obtain ⟨rfl, rfl⟩ := HP
  simp only at T P hk hl
  clear I hu hus
  go_enter Tryz.func4, Tryz.ntmps4
  go_wp2_with fail
  refine T.out.mono ?_; rintro e w1 ⟨y, rfl, hyt, hyk, hb1⟩
  have HB1 := Lib.hid hb1
  have hyk5 : y.t.kind = 5 := by rw [hyt]; exact hk
  have hyl2 : y.t.args.length = 2 := by rw [hyt]; exact hl
  simp only [Rv.val]
  rw [hyk5, hyl2]
  obtain ⟨kx, hkx⟩ : ∃ k, y.t.text = k := ⟨_, rfl⟩
  obtain ⟨nx, hnx⟩ : ∃ k, y.t.n = k := ⟨_, rfl⟩
  obtain ⟨px, hpx⟩ : ∃ k, y.t.spot = k := ⟨_, rfl⟩
  rw [hkx, hnx, hpx]
  clear hb1 hyt hyk hyk5 hyl2 hkx hnx hpx hk hl
  go_wp2_with fail
  have hz1 : (w1.alloc (.cells #[.int .i64 5, .string kx, .int .i64 nx, .int .i64 px, .slice y.a 2 y.c] 39)).heap.size = w1.heap.size + 1 := by simp
  have hV : Below w1.heap.size w1 ((w1.alloc (.cells #[.int .i64 5, .string kx, .int .i64 nx, .int .i64 px, .slice y.a 2 y.c] 39)).alloc (.cells #[.int .i64 0, .int .i64 e1] 26)) := ((Below.refl _ _).alloc (Nat.le_refl _) _).alloc (by rw [hz1]; omega) _
  have bT := (box5_new w1 (.int .i64 5) (.string kx) (.int .i64 nx) (.int .i64 px) (.slice y.a 2 y.c) 39).below ((Below.refl _ _).alloc (Nat.le_refl _) (.cells #[.int .i64 0, .int .i64 e1] 26)) (by rw [hz1]; omega)
  have bF := World.cell?_alloc_mark (w1.alloc (.cells #[.int .i64 5, .string kx, .int .i64 nx, .int .i64 px, .slice y.a 2 y.c] 39)) #[.int .i64 0, .int .i64 e1] 26 (0, 0) 0
  rw [hz1] at bF
  have hsz : ((w1.alloc (.cells #[.int .i64 5, .string kx, .int .i64 nx, .int .i64 px, .slice y.a 2 y.c] 39)).alloc (.cells #[.int .i64 0, .int .i64 e1] 26)).heap.size = w1.heap.size + 2 := by simp
  obtain ⟨V, hVe⟩ : ∃ V, V = ((w1.alloc (.cells #[.int .i64 5, .string kx, .int .i64 nx, .int .i64 px, .slice y.a 2 y.c] 39)).alloc (.cells #[.int .i64 0, .int .i64 e1] 26)) := ⟨_, rfl⟩
  rw [← hVe] at hV bT hsz ⊢
  have bF' : V.cell? ⟨w1.heap.size + 1, 0, none⟩ = some (.int .i64 0) := by rw [hVe]; exact bF
  clear hVe bF hz1
  refine (P.out _ (below_next HB1.out hV)).mono ?_; rintro e w2 ⟨v, rfl, _, hb2⟩
  have hb3 := hb2.alloc hb2.size (.cells #[.int .i64 2, .int .i64 4] 26)
  obtain ⟨k0, k1, k2, k3, k4, _, _, _, _, _⟩ := bT.below hb3 (by omega)
  have k5 := (hb3.cell (p := ⟨w1.heap.size + 1, 0, none⟩) (by show w1.heap.size + 1 < _; omega)).trans bF'
  have HB2 := Lib.hid (below_next (below_next HB1.out hV) hb2)
  clear hb2 hb3 bT bF' hV hsz
  go_wp2_with fail
  go_ret
  exact ⟨rfl, HB2.out.alloc HB2.out.size _⟩
end Go.Proofs.YtldgbdmiebipnaaGreatDoor

namespace Go.Proofs.YtldgbdmiebipnaaGreatDoor
open Go.RowKit

theorem run_append_nil0 {P : Program} {w : World} (base : Nat) (t ty e : TypeId) (i : TypeInfo) (size : Nat) (ht : P.underlying t = some (.slice e)) (hi : P.info? e = some i)
    (v : Value) (n : Nat) (xs : List Value) (hown : w.ownsRow base e size v n xs) (c : Nat) :
    (Builtin.append_ #[t, t] ty #[v, .slice none 0 c]).run P w = .ok v w := by
  rcases hown.2 with ⟨rfl, rfl⟩ | ⟨g, cap, cur, rfl, _, _, hnc, _⟩
  · simp [Builtin.append_, run_underlying ht, sizeOf, typeInfo, hi, Builtin.lenOf, Builtin.firstCells]
  · simp [Builtin.append_, run_underlying ht, sizeOf, typeInfo, hi, Builtin.lenOf, Builtin.firstCells, hnc, storeCells]
theorem wpList_append_opt {P : Program} {w : World} {ops : Array Oper} {rest : List Oper} {o : Oper} {a : Act} {Q : Exit → Act → World → Prop} (hgd : o.guard = none) (s x : Operand) (t : TypeId)
    (ho : o.op = .call { callee := .builtin .append, args := #[s, x], argTypes := #[t, t] })
    (base : Nat) (e : TypeId) (i : TypeInfo) (z : Value) (size bytes : Nat) (ht : P.underlying t = some (.slice e)) (hi : P.info? e = some i) (hz : i.zero = some z)
    (hsize : i.size = size) (hby : i.bytes = bytes) (hzs : z.cells.size = size) (hsz : 0 < size)
    (v : Value) (n : Nat) (xs : List Value) (hs : a.eval s = v) (hown : w.ownsRow base e size v n xs)
    (oa : Option Addr) (m c : Nat) (news : List Value) (hx : a.eval x = .slice oa m c) (h0 : oa = none → m = 0) (hl : news.length = m * size) (hnews : ∀ ad, oa = some ad → ∀ j u, news[j]? = some u → w.cell? (ad.add j) = some u) (h1 : ∀ u ∈ news, u.oneCell' = true)
    (h63 : n + m ≤ maxLen) (hbytes : (n + m) * bytes ≤ 140737488355328) (hbase : base ≤ w.heap.size)
    (h : ∀ v' w', w'.ownsRow base e size v' (n + m) (xs ++ news) → w.grownBy w' v.ownBlock → (v'.ownBlock = v.ownBlock ∨ v'.ownBlock = some w.heap.size) → wpList P ops Q rest (a.put o.dst v') w') :
    wpList P ops Q (o :: rest) a w := by
  cases oa with
  | some ad => exact wpList_append_own_at w hgd s x t ho base e i z size bytes ht hi hz hsize hby hzs hsz v n xs hs hown ad m c news hx hl (hnews ad rfl) h1 h63 hbytes hbase (fun v' w' h2 h3 _ h5 => h v' w' h2 h3 h5)
  | none =>
    obtain rfl := h0 rfl
    obtain rfl : news = [] := List.eq_nil_of_length_eq_zero (by rw [hl, Nat.zero_mul])
    refine wpList_plain hgd fun K hK => ?_
    have hrun := run_append_nil0 (P := P) (w := w) base t o.type e i size ht hi v n xs hown c
    unfold Oper.wp
    simp [execOp, ho, resolve, invoke, builtin, hs, hx, hrun, Result.andThen]
    exact hK _ _ (h v w (by simpa using hown) ⟨rfl, rfl, rfl, Nat.le_refl _, fun _ _ _ => rfl⟩ (.inl rfl))
/-- Likewise as a step of a drawn region. -/
theorem step_append_at {P : Program} {w : World} {ops : Array Oper} {o : Oper} {a : Act} {K : Act → World → Prop} {Q : Exit → Act → World → Prop} {E : Prop} (hgd : o.guard = none) (s x : Operand) (t : TypeId)
    (ho : o.op = .call { callee := .builtin .append, args := #[s, x], argTypes := #[t, t] })
    (base : Nat) (e : TypeId) (i : TypeInfo) (z : Value) (size bytes : Nat) (ht : P.underlying t = some (.slice e)) (hi : P.info? e = some i) (hz : i.zero = some z)
    (hsize : i.size = size) (hby : i.bytes = bytes) (hzs : z.cells.size = size) (hsz : 0 < size)
    (v : Value) (n : Nat) (xs : List Value) (hs : a.eval s = v) (hown : w.ownsRow base e size v n xs)
    (ad : Addr) (m c : Nat) (news : List Value) (hx : a.eval x = .slice (some ad) m c) (hl : news.length = m * size) (hnews : ∀ j u, news[j]? = some u → w.cell? (ad.add j) = some u) (h1 : ∀ u ∈ news, u.oneCell' = true)
    (h63 : n + m ≤ maxLen) (hbytes : (n + m) * bytes ≤ 140737488355328) (hbase : base ≤ w.heap.size) (H : Nat) (hH : w.heap.size = H)
    (h : ∀ v' w', w'.ownsRow base e size v' (n + m) (xs ++ news) → w.grownBy w' v.ownBlock → (v'.ownBlock = v.ownBlock ∨ v'.ownBlock = some H) → K (a.put o.dst v') w') :
    if Region.wanted o (yielded ops a.tmps) = true then Oper.wp P o a w K Q else E := by
  have hw : Region.wanted o (yielded ops a.tmps) = true := by simp [Region.wanted, hgd]
  rw [if_pos hw]
  obtain ⟨v', w', hr, h2, h3, _, h5⟩ := run_append_own_at (P := P) w base t o.type e i z size bytes ht hi hz hsize hby hzs hsz v n xs hown ad m c news hl hnews h1 h63 hbytes hbase
  unfold Oper.wp execOp
  simp only [ho, resolve, invoke, builtin, Sem.run_bind, Sem.run_pure, Result.andThen_ok, List.map_toArray, List.map_cons, List.map_nil, hs, hx, hr]
  subst hH
  exact h v' w' h2 h3 h5
/-- A new row of no element. -/
theorem own_empty (w : World) (base : Nat) (e : TypeId) (size : Nat) (hb : base ≤ w.heap.size) : (w.alloc (.cells #[] e)).ownsRow base e size (.slice (some ⟨w.heap.size, 0, none⟩) 0 0) 0 [] :=
  ⟨by simp, .inr ⟨w.heap.size, 0, #[], rfl, hb, heap_alloc_new w _, Nat.le_refl _, by unfold maxLen; omega, by simp, by simp⟩⟩
end Go.Proofs.YtldgbdmiebipnaaGreatDoor

namespace Go.Proofs.YtldgbdmiebipnaaGreatDoor
open Go.RowKit

theorem treeInfo : (Tryz.prog.info? 87).map (fun i => (i.zero, i.size, i.bytes)) = some (some (.agg #[.int .i64 0, .string ⟨#[]⟩, .int .i64 0, .int .i64 0, .slice none 0 0]), 5, 64) := by kernel_rfl
/-- One tree more, in a row of the call's own. -/
theorem RowR.snoc {W W' : World} {e : TypeId} {base : Nat} {v v' : Value} {ts : List Tr} {vs : List Rv} {y : Rv} (h1 : vs.map Rv.t = ts) (h2 : ∀ x ∈ vs, LiveR W v.ownBlock base x) (hy : LiveR W v.ownBlock base y)
    (hown : W'.ownsRow base e 5 v' (ts.length + 1) (rowRv vs ++ y.cells)) (hg : W.grownBy W' v.ownBlock) (hat : v'.ownBlock = v.ownBlock ∨ v'.ownBlock = some W.heap.size) : RowR W' e base v' (ts ++ [y.t]) := by
  refine ⟨vs ++ [y], by rw [List.map_append, h1]; rfl, fun x hx => ?_, ?_⟩
  · rcases List.mem_append.1 hx with hx | hx
    · exact (h2 x hx).grown hg hat
    · rw [List.mem_singleton] at hx; rw [hx]; exact hy.grown hg hat
  · rw [List.length_append, rowRv_append, rowRv_one]; exact hown

set_option maxRecDepth 100000 in
set_option maxHeartbeats 4000000 in
theorem rterms_one (v : Value) (L : List Tok) (hE : Ended L) (hlen : L.length ≤ 100000) (i : Nat) (sg : ByteArray) (op : Nat) (hi : i < L.length) (w : World) (hv : Toks w v L)
    (hT : ∀ (j : Nat) (W : World), i ≤ j → j < L.length → Toks W v L → Calls Tryz.prog 35 #[v, .int .i64 j, .int .i64 op] W (TermGPost L j op W)) :
    Calls Tryz.prog 37 #[v, .int .i64 i, .string sg, .int .i64 op] w (TermsGPost L i sg op w) := by
  obtain ⟨i0, hti, hz0, hz1, hz2⟩ := info_parts treeInfo
  have HVB := Lib.hid (fun (W : World) (h : Below w.heap.size w W) => hv.below h)
  have HT := Lib.hid (fun (j : Nat) (W : World) (h : Below w.heap.size w W) (h1 : i ≤ j) (h2 : j < L.length) => hT j W h1 h2 (HVB.out W h))
  unfold TermGPost at HT
  obtain ⟨a, c, rfl, hl, h⟩ := hv
  rcases h with h | ⟨b, off, rfl, hlt, hc⟩
  · subst h; cases hi
  have HC := Lib.hid (fun (j : Nat) (hj : j < L.length) (W : World) (h : Below w.heap.size w W) => (hc j hj).below h hlt)
  have IS := Lib.hid (fun (t : Tok) (W : World) => ris_any t sg W)
  have HI := Lib.hid hi
  have HOWN := Lib.hid (rowR_nil w 87 w.heap.size)
  have HB0 := Lib.hid (Below.refl w.heap.size w)
  clear hT hc hi
  go_enter Tryz.func37, Tryz.ntmps37
  go_wp2_with fail
  go_loopw [1, 11] (fun j o wr => ∃ (k : Nat) (ts : List Tr), j = .int .i64 k ∧ i ≤ k ∧ k < L.length ∧ ts.length ≤ k ∧
    Hid (termsP L i sg op = (ts ++ (termsP L k sg op).1, (termsP L k sg op).2)) ∧ RowR wr 87 w.heap.size o ts ∧ Below w.heap.size w wr) (fun j _ _ => L.length - (intOf j).toNat)
  case atStart => exact ⟨i, [], rfl, Nat.le_refl _, HI.out, Nat.zero_le _, Lib.hid (by simp), HOWN.out, HB0.out⟩
  case round =>
    obtain ⟨k, ts, rfl, hik, hkl, htk, HP, hrow, hb⟩ := hrel
    have T := Lib.hid (fun (W : World) (h : Below w.heap.size w W) => HT.out k W h hik hkl)
    have hn2 := termP_in hE op hkl
    have hle := termP_le L k op
    have HS := termsP_eq L k sg op
    obtain ⟨y0, hy0⟩ : ∃ y0, (termP L k op).1 = y0 := ⟨_, rfl⟩
    obtain ⟨n2, hn2e⟩ : ∃ n2, (termP L k op).2.1 = n2 := ⟨_, rfl⟩
    obtain ⟨b2, hb2e⟩ : ∃ b2, (termP L k op).2.2 = b2 := ⟨_, rfl⟩
    rw [hy0, hn2e, hb2e] at T HS
    rw [hn2e] at hn2
    rw [hn2e, hb2e] at hle
    replace HS := Lib.hid HS
    clear hy0 hn2e hb2e
    have HROW := Lib.hid hrow
    have HB := Lib.hid hb
    clear hrow hb
    go_wp2_with fail
    refine (T.out _ HB.out).mono ?_; rintro e w1 ⟨⟨⟨kd, s, nn, pp, xs⟩, ya, yc⟩, rfl, hyt, hm, hb1⟩
    cases hyt
    have HM := Lib.hid hm
    have HB1 := Lib.hid (below_next HB.out hb1)
    have HROW1 := Lib.hid (HROW.out.below hb1)
    have HBN := Lib.hid hb1
    unfold Rv.val
    simp only [Tr.kind, Tr.text, Tr.n, Tr.spot, Tr.args]
    clear hm hb1
    cases b2 with
    | false =>
      have HQ := Lib.hid (show termsP L i sg op = (ts, n2, false) by rw [HP.out, HS.out, if_pos rfl]; simp)
      have HBE := Lib.hid (HB1.out.alloc HB1.out.size (.cells #[.int .i64 kd, .string s, .int .i64 nn, .int .i64 pp, .slice ya xs.length yc] 87))
      have HRE := Lib.hid (HROW1.out.below ((Below.refl w1.heap.size w1).alloc (Nat.le_refl _) (.cells #[.int .i64 kd, .string s, .int .i64 nn, .int .i64 pp, .slice ya xs.length yc] 87)))
      go_wp2_with fail
      go_ret3
      unfold TermsGPost
      rw [HQ.out]
      exact ⟨_, rfl, HRE.out.made (Nat.le_refl _) (by omega), HBE.out, HRE.out, by show ts.length ≤ _; omega⟩
    | true =>
      obtain ⟨vs, hvt, hvl, hown⟩ := HROW1.out
      have hw0 : u11.ownBlock = none ∨ ∀ g, u11.ownBlock = some g → g < wr.heap.size := by
        obtain ⟨_, _, _, h⟩ := HROW.out
        exact .inr (own_row_lt h)
      have hW : Below w1.heap.size w1 ((w1.alloc (.cells #[.int .i64 kd, .string s, .int .i64 nn, .int .i64 pp, .slice ya xs.length yc] 87)).alloc (.cells #[.int .i64 kd, .string s, .int .i64 nn, .int .i64 pp, .slice ya xs.length yc] 87)) := ((Below.refl _ _).alloc (Nat.le_refl _) _).alloc (by simp) _
      have hy := (HM.out.live HBN.out.size (g := u11.ownBlock) (base := w.heap.size) HB.out.size (fun g e => .inl (by
        rcases hw0 with h | h
        · rw [h] at e; cases e
        · exact h g e))).below hW
      have HY := Lib.hid hy
      have HVL := Lib.hid (fun x hx => (hvl x hx).below hW)
      have HVT := Lib.hid hvt
      have HBW := Lib.hid (below_next HB1.out hW)
      have hsz := HB1.out.size
      clear hy hvl hvt hW hw0
      go_wp2_with (at_builtin; refine wpList_append_own_at _ rfl _ _ 52 rfl w.heap.size 87 i0 (.agg #[.int .i64 0, .string ⟨#[]⟩, .int .i64 0, .int .i64 0, .slice none 0 0]) 5 64 Tryz.underlying52 hti hz0 hz1 hz2 rfl (by decide) _ ts.length _ rfl ((hown.alloc _).alloc _) ⟨w1.heap.size + 1, 0, none⟩ 1 1 [.int .i64 kd, .string s, .int .i64 nn, .int .i64 pp, .slice ya xs.length yc] rfl rfl ?c1 ?c2 ?c3 ?c4 ?c5 ?_)
      case c2 => exact ⟨rfl, rfl, rfl, rfl, rfl⟩
      case c3 => unfold maxLen; omega
      case c4 => omega
      case c5 => omega
      intro v' w3 hown' hgrow _ hat
      have hrow3 := RowR.snoc (y := ⟨.mk kd s nn pp xs, ya, yc⟩) HVT.out HVL.out HY.out hown' hgrow (by simpa using hat)
      have hb3 := HBW.out.grown hgrow HBW.out.size (own_row_ge hown)
      have HROW3 := Lib.hid hrow3
      have HB3 := Lib.hid hb3
      clear hrow3 hb3 hown' hgrow hat hown
      obtain ⟨z, hz⟩ : ∃ z, tkD L n2 = z := ⟨_, rfl⟩
      have hzi : L[n2] = z := by rw [← hz, tkD_at hn2]
      have HZ := HC.out n2 hn2 w3 HB3.out
      have hEn := hE n2
      rw [hzi] at HZ
      rw [hz] at HS hEn
      have IZ := Lib.hid (fun (W : World) => IS.out z W)
      clear hz hzi
      obtain ⟨zk, zx, zn, zp⟩ := z
      unfold tokVal at IZ
      obtain ⟨e0, e1, e2, e3⟩ := HZ
      simp only at e0 e1 e2 e3 IZ
      have hn2c : (n2 : Int) < (L.length : Int) := by omega
      have hn20 : (0 : Int) ≤ (n2 : Int) := by omega
      have HEN := Lib.hid hEn
      clear hEn
      go_wp2_with fail
      refine (IZ.out _).mono ?_; rintro e w4 ⟨rfl, hb4⟩
      have HB4 := Lib.hid (below_next HB3.out hb4)
      have HROW4 := Lib.hid (HROW3.out.below hb4)
      clear hb4 e0 e1 e2 e3
      cases hs : isS ⟨zk, zx, zn, zp⟩ sg with
      | false =>
        have HQ := Lib.hid (show termsP L i sg op = (ts ++ [.mk kd s nn pp xs], n2, true) by rw [HP.out, HS.out, if_neg (by decide), if_pos hs])
        clear hs
        go_wp2_with fail
        go_ret3
        unfold TermsGPost
        rw [HQ.out]
        exact ⟨_, rfl, HROW4.out.made (Nat.le_refl _) (by rw [List.length_append]; simp; omega), HB4.out, HROW4.out, by show (ts ++ [_]).length ≤ _; rw [List.length_append]; simp; omega⟩
      | true =>
        have HQ := Lib.hid (show termsP L i sg op = ((ts ++ [.mk kd s nn pp xs]) ++ (termsP L (n2 + 1) sg op).1, (termsP L (n2 + 1) sg op).2) by rw [HP.out, HS.out, if_neg (by decide), if_neg (by rw [hs]; decide)]; simp)
        have hn3 : n2 + 1 < L.length := HEN.out (show zk ≠ 0 by rw [show zk = 6 from sgn_kind hs]; decide)
        have hkn : k < n2 := hle.2 trivial
        clear hs
        go_wp2_with fail
        go_roundw
        case rel => exact ⟨n2 + 1, ts ++ [.mk kd s nn pp xs], by go_num, by omega, hn3, by rw [List.length_append]; simp; omega, Lib.hid HQ.out, HROW4.out, HB4.out⟩
        case measure => simp [intOf]; omega
/-- Terms and lists of terms are read as they should be. -/
theorem rterm_both (v : Value) (L : List Tok) (hE : Ended L) (hO : ∀ i, TokOk (tkD L i)) (hlen : L.length ≤ 100000) : ∀ (n : Nat),
    (∀ (i op : Nat), L.length - i ≤ n → i < L.length → op ≤ 41 → ∀ w, Toks w v L → Calls Tryz.prog 35 #[v, .int .i64 i, .int .i64 op] w (TermGPost L i op w)) ∧
    ∀ (i : Nat) (sg : ByteArray) (op : Nat), L.length - i ≤ n → i < L.length → op ≤ 41 → ∀ w, Toks w v L → Calls Tryz.prog 37 #[v, .int .i64 i, .string sg, .int .i64 op] w (TermsGPost L i sg op w)
  | 0 => ⟨fun i op h hi => by omega, fun i sg op h hi => by omega⟩
  | n + 1 => by
    obtain ⟨_, h2⟩ := rterm_both v L hE hO hlen n
    have ht : ∀ (i op : Nat), L.length - i ≤ n + 1 → i < L.length → op ≤ 41 → ∀ w, Toks w v L → Calls Tryz.prog 35 #[v, .int .i64 i, .int .i64 op] w (TermGPost L i op w) := fun i op h hi hop w hv =>
      rterm_one v L hE hO hlen i op hi (by omega) w hv fun j W h40 hj hjl hW => by
        have := h2 j sComma (op + 1) (by omega) hjl (by omega) W hW
        rwa [show ((op + 1 : Nat) : Int) = (op : Int) + 1 from by omega] at this
    exact ⟨ht, fun i sg op h hi hop w hv => rterms_one v L hE hlen i sg op hi w hv fun j W hj hjl hW => ht j op (by omega) hjl hop W hW⟩
theorem rterm_any (v : Value) (L : List Tok) (hE : Ended L) (hO : ∀ i, TokOk (tkD L i)) (hlen : L.length ≤ 100000) (i op : Nat) (hi : i < L.length) (hop : op ≤ 41) (w : World) (hv : Toks w v L) :
    Calls Tryz.prog 35 #[v, .int .i64 i, .int .i64 op] w (TermGPost L i op w) := (rterm_both v L hE hO hlen _).1 i op (Nat.le_refl _) hi hop w hv
theorem rterms_any (v : Value) (L : List Tok) (hE : Ended L) (hO : ∀ i, TokOk (tkD L i)) (hlen : L.length ≤ 100000) (i : Nat) (sg : ByteArray) (op : Nat) (hi : i < L.length) (hop : op ≤ 41) (w : World) (hv : Toks w v L) :
    Calls Tryz.prog 37 #[v, .int .i64 i, .string sg, .int .i64 op] w (TermsGPost L i sg op w) := (rterm_both v L hE hO hlen _).2 i sg op (Nat.le_refl _) hi hop w hv
end Go.Proofs.YtldgbdmiebipnaaGreatDoor
