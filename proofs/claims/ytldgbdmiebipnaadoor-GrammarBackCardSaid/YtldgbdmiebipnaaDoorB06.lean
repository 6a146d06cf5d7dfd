/-
  A text's items, and there and back: what items are shown as has the same items. No function of the program.
  The tokens of a text are small: their numbers, places, texts, and how many they are. No function of the program.
  What a call of Parse leaves; the items from a token on, step by step.
  The term that a text is: as data. No function of the program.
  Whether trees and items are alike but for places: the pure part. No function of the program.
  What a program's grammar must do, in the memory of w and whatever lies behind it; chapter 11's example.
  Chapter 11's example answers true, and any text's items are what the grammar says: from what the program's grammar answers.
  How many parts a term has that tokens are read as, and how long its text can be. No function of the program.
  How large what a text is read as can be: errors, parts. No function of the program.
  What any text's items are shown as has the same items: the law answers true, from what the program's grammar answers.
  Terms that calls have made live on in whatever leaves their blocks as they are; rows of them that grow. No function of the program.
-/
import Derived.Test.YtldgbdmiebipnaaDoorB05
import Derived.Test.YtldgbdmiebipnaaDoorB02
import Derived.Test.YtldgbdmiebipnaaDoorB04
import Derived.Test.YtldgbdmiebipnaaDoorB03
namespace Go.Proofs.YtldgbdmiebipnaaDoor
open Go.RowKit

/-! The tokens of a text. -/
theorem tkD_snoc (more : List Tok) (e : Tok) (i : Nat) : tkD (more ++ [e]) i = if h : i < more.length then more[i] else if i = more.length then e else nilTok := by
  by_cases h : i < more.length
  · rw [dif_pos h, tkD_at (by rw [List.length_append, List.length_singleton]; omega), List.getElem_append_left h]
  · rw [dif_neg h]
    by_cases e1 : i = more.length
    · subst e1
      rw [if_pos rfl, tkD_at (by rw [List.length_append, List.length_singleton]; omega), List.getElem_append_right (Nat.le_refl _)]
      simp
    · rw [if_neg e1, tkD_out (by rw [List.length_append, List.length_singleton]; omega)]
/-- The tokens of a text: sound, and an end. -/
structure TextToks (L : List Tok) : Prop where
  ended : Ended L
  sound : AllSound L
  once : ∀ i, i < L.length → (tkD L i).kind = 0 → i + 1 = L.length
  pos : 1 ≤ L.length
theorem textToks_of {s : ByteArray} {ts : List Tok} (h : scanS s = .inr ts) : TextToks ts := by
  obtain ⟨more, rfl, hS, _⟩ := scanS_sound h
  have hk : ∀ i, (tkD (more ++ [endTok s]) i).kind ≠ 0 → ∃ h : i < more.length, tkD (more ++ [endTok s]) i = more[i] := fun i hne => by
    rw [tkD_snoc] at hne ⊢
    by_cases hi : i < more.length
    · exact ⟨hi, by rw [dif_pos hi]⟩
    · rw [dif_neg hi] at hne
      split at hne
      · exact absurd rfl hne
      · exact absurd rfl hne
  refine ⟨fun i hne => ?_, fun i hne => ?_, fun i hi h0 => ?_, by rw [List.length_append, List.length_singleton]; omega⟩
  · obtain ⟨hi, _⟩ := hk i hne
    rw [List.length_append, List.length_singleton]; omega
  · obtain ⟨hi, e⟩ := hk i hne
    rw [e]; exact hS _ (List.getElem_mem hi)
  · rw [List.length_append, List.length_singleton] at hi ⊢
    rw [tkD_snoc] at h0
    by_cases hl : i < more.length
    · rw [dif_pos hl] at h0
      exact absurd h0 (hS _ (List.getElem_mem hl)).nz
    · omega
/-- Enough steps are as good as more. -/
theorem itemsF_same : ∀ (f f' : Nat) (L : List Tok) (i : Nat), Ended L → L.length - i + 1 ≤ f → L.length - i + 1 ≤ f' → itemsF f L i = itemsF f' L i
  | 0, _, _, _, _, h, _ => by omega
  | _ + 1, 0, _, _, _, _, h => by omega
  | f + 1, f' + 1, L, i, hE, h, h' => by
    rw [itemsF, itemsF]
    by_cases h0 : (tkD L i).kind = 0
    · rw [if_pos h0, if_pos h0]
    · rw [if_neg h0, if_neg h0]
      have hi := hE i h0
      by_cases h1 : (tkD L i).kind ≠ 1 ∨ wordK (tkD L i) = true
      · rw [if_pos h1, if_pos h1]
      · rw [if_neg h1, if_neg h1]
        have hle := goP_le L (shapesOf (tkD L i).text) ⟨(tkD L i).text, (tkD L i).place, [], []⟩ (i + 1)
        rw [itemsF_same f f' L _ hE (by omega) (by omega)]
/-- The items from a token on. -/
def itemsP (L : List Tok) (i : Nat) : Nat ⊕ List It := itemsF (L.length + 1) L i
/-- Items as lines, but for the last line's end; ahead of the first stands g. -/
def showG (g : List UInt8) : List It → List UInt8
  | [] => []
  | [x] => g ++ lineS x
  | x :: y :: r => g ++ lineS x ++ showG [10] (y :: r)
theorem showG_cons (g : List UInt8) (x : It) {r : List It} (h : r ≠ []) : showG g (x :: r) = g ++ lineS x ++ showG [10] r := by
  cases r with
  | nil => exact absurd rfl h
  | cons y r => rw [showG]
theorem showG_eq : ∀ (xs : List It) (g : List UInt8), xs ≠ [] → showG g xs ++ [10] = g ++ showS xs
  | [], _, h => absurd rfl h
  | [x], g, _ => by rw [showG, showS]; simp
  | x :: y :: r, g, _ => by
    rw [showG, List.append_assoc, showG_eq (y :: r) [10] (by simp)]
    unfold showS
    simp
theorem shapes_head (k : ByteArray) : (shapesOf k).head? ≠ some 110 := by
  unfold shapesOf
  repeat' split
  all_goals decide
theorem items_spelt {L : List Tok} (h : TextToks L) : ∀ (f i : Nat) (g : List UInt8) (xs : List It), i < L.length → Gap g → itemsF f L i = .inr xs → Spelt (g ≠ []) (showG g xs) (seg L i (L.length - 1))
  | 0, i, g, xs, _, _, he => by rw [itemsF] at he; cases he
  | f + 1, i, g, xs, hi, hg, he => by
    rw [itemsF] at he
    by_cases h0 : (tkD L i).kind = 0
    · rw [if_pos h0] at he
      cases he
      have := h.once i hi h0
      rw [show L.length - 1 = i from by omega, seg_end]
      exact ⟨[], rfl, rfl, (fun p hp => by cases hp), trivial, fun _ => trivial⟩
    · rw [if_neg h0] at he
      have hi1 := h.ended i h0
      by_cases h1 : (tkD L i).kind ≠ 1 ∨ wordK (tkD L i) = true
      · rw [if_pos h1] at he; cases he
      · rw [if_neg h1] at he
        by_cases h2 : (goP L (shapesOf (tkD L i).text) ⟨(tkD L i).text, (tkD L i).place, [], []⟩ (i + 1)).2.2 = false
        · rw [if_pos h2] at he; cases he
        · rw [if_neg h2] at he
          obtain ⟨ws, ts, e1, e2, _, hsp⟩ := goP_spelt h.ended h.sound (shapesOf (tkD L i).text) ⟨(tkD L i).text, (tkD L i).place, [], []⟩ (i + 1) (shapes_ok _) hi1 (by simpa using h2)
          have hkey := (goP_key L (shapesOf (tkD L i).text) ⟨(tkD L i).text, (tkD L i).place, [], []⟩ (i + 1)).1
          have hle := goP_le L (shapesOf (tkD L i).text) ⟨(tkD L i).text, (tkD L i).place, [], []⟩ (i + 1)
          have hin := goP_in h.ended (shapesOf (tkD L i).text) ⟨(tkD L i).text, (tkD L i).place, [], []⟩ (i + 1) hi1
          generalize goP L (shapesOf (tkD L i).text) ⟨(tkD L i).text, (tkD L i).place, [], []⟩ (i + 1) = R at *
          have hline : lineS R.1 = (tkD L i).text.data.toList ++ lineR (shapesOf (tkD L i).text) ws ts := by
            unfold lineS
            simp only [List.nil_append] at e1 e2
            rw [hkey, e1, e2]
          have a := ((spelt_one g hg (tkD L i)).weak (Q := g ≠ []) .inl).cat hsp (by simp) (.inl (shapes_head _))
          rw [← seg_one hi, ← seg_cat L (Nat.le_succ i) hle, List.append_assoc, ← hline] at a
          cases hr : itemsF f L R.2.1 with
          | inl e => rw [hr] at he; cases he
          | inr r =>
            rw [hr] at he
            cases he
            have b := items_spelt h f R.2.1 [10] r hin blank_line hr
            by_cases hre : r = []
            · subst hre
              rw [showG]
              rw [show showG [10] ([] : List It) = [] from rfl] at b
              obtain ⟨ps, b1, b2, _⟩ := b
              have : seg L R.2.1 (L.length - 1) = [] := by
                cases ps with
                | nil => exact b1.symm
                | cons p q =>
                  exfalso
                  cases f with
                  | zero => rw [itemsF] at hr; cases hr
                  | succ f =>
                    rw [itemsF] at hr
                    by_cases k0 : (tkD L R.2.1).kind = 0
                    · have := h.once _ hin k0
                      rw [show L.length - 1 = R.2.1 from by omega, seg_end] at b1
                      cases b1
                    · rw [if_neg k0] at hr
                      split at hr
                      · cases hr
                      · split at hr
                        · cases hr
                        · split at hr
                          · cases hr
                          · cases hr
              rw [seg_cat L (show i ≤ R.2.1 by omega) (show R.2.1 ≤ L.length - 1 by omega), this, List.append_nil]
              exact a
            · rw [showG_cons _ _ hre, seg_cat L (show i ≤ R.2.1 by omega) (show R.2.1 ≤ L.length - 1 by omega)]
              exact a.cat b (seg_ne (by omega) hi) (.inl (by simp))

/-! Without places. -/
def It.bare (x : It) : It := ⟨x.key, 0, bareL x.words, bareL x.trees⟩
theorem bareL_append (a b : List Tr) : bareL (a ++ b) = bareL a ++ bareL b := by rw [bareL_map, bareL_map, bareL_map, List.map_append]
theorem bareL_one (t : Tr) : bareL [t] = [t.bare] := by rw [bareL, bareL]
theorem oneP_like {L L' : List Tok} (hL : LikeT L L') {x y : It} (hx : x.bare = y.bare) (i : Nat) (c : UInt8) : (oneP x L i c).1.bare = (oneP y L' i c).1.bare ∧ (oneP x L i c).2 = (oneP y L' i c).2 := by
  obtain ⟨k, p, ws, ts⟩ := x
  obtain ⟨k', p', ws', ts'⟩ := y
  unfold It.bare at hx
  injection hx with h1 _ h3 h4
  simp only at h1 h3 h4
  subst h1
  have hp := likeT_at hL i
  obtain ⟨t1, t2⟩ := termP_like hL i 0
  obtain ⟨u1, u2⟩ := termsP_like hL i sSemi 0
  unfold oneP
  rw [wordK_plain hp, plain_kind hp, plain_text hp, plain_n hp, isS_plain hp sDot, isS_plain hp, t2, u2]
  repeat' split
  all_goals refine ⟨?_, rfl⟩
  all_goals unfold It.bare
  all_goals simp only [bareL_append, Tr.bare, bareL, h3, h4, t1, u1]
theorem goP_like {L L' : List Tok} (hL : LikeT L L') : ∀ (r : List UInt8) {x y : It} (i : Nat), x.bare = y.bare → (goP L r x i).1.bare = (goP L' r y i).1.bare ∧ (goP L r x i).2 = (goP L' r y i).2
  | [], x, y, i, h => ⟨h, rfl⟩
  | c :: r, x, y, i, h => by
    obtain ⟨h1, h2⟩ := oneP_like hL h i c
    rw [goP, goP, h2]
    split
    · exact ⟨h, rfl⟩
    · exact goP_like hL r _ h1
/-- What is read hangs on the tokens, but for places. -/
theorem itemsF_like {L L' : List Tok} (hL : LikeT L L') : ∀ (f i : Nat), (∃ j, itemsF f L i = .inl j ∧ itemsF f L' i = .inl j) ∨ ∃ xs ys, itemsF f L i = .inr xs ∧ itemsF f L' i = .inr ys ∧ xs.map It.bare = ys.map It.bare
  | 0, i => .inl ⟨i, by rw [itemsF], by rw [itemsF]⟩
  | f + 1, i => by
    have hp := likeT_at hL i
    obtain ⟨g1, g2⟩ := goP_like hL (shapesOf (tkD L' i).text) (x := ⟨(tkD L' i).text, (tkD L i).place, [], []⟩) (y := ⟨(tkD L' i).text, (tkD L' i).place, [], []⟩) (i + 1) rfl
    rw [itemsF, itemsF, plain_kind hp, wordK_plain hp, plain_text hp, g2]
    split
    · exact .inr ⟨[], [], rfl, rfl, rfl⟩
    · split
      · exact .inl ⟨i, rfl, rfl⟩
      · split
        · exact .inl ⟨_, rfl, rfl⟩
        · rcases itemsF_like hL f (goP L' (shapesOf (tkD L' i).text) ⟨(tkD L' i).text, (tkD L' i).place, [], []⟩ (i + 1)).2.1 with ⟨j, e1, e2⟩ | ⟨xs, ys, e1, e2, e3⟩
          · exact .inl ⟨j, by rw [e1], by rw [e2]⟩
          · exact .inr ⟨_, _, by rw [e1], by rw [e2], by rw [List.map_cons, List.map_cons, g1, e3]⟩

/-! What is shown hangs on no place. -/
theorem bare_text (t : Tr) : t.bare.text = t.text := by cases t; rw [Tr.bare]; rfl
mutual
theorem plainR_bare : ∀ t : Tr, plainR t.bare = plainR t
  | .mk k s n p xs => by rw [Tr.bare, plainR, plainR, plainRs_bare xs]
theorem plainRs_bare : ∀ l : List Tr, plainRs (bareL l) = plainRs l
  | [] => by rw [bareL]
  | t :: r => by rw [bareL, plainRs, plainRs, plainR_bare t, plainRs_bare r]
end
theorem shR_bare (t : Tr) : shR t.bare = shR t := by unfold shR; rw [plainR_bare]
theorem shR_of {t u : Tr} (h : t.bare = u.bare) : shR t = shR u := by rw [← shR_bare t, ← shR_bare u, h]
theorem text_of {t u : Tr} (h : t.bare = u.bare) : t.text = u.text := by rw [← bare_text t, ← bare_text u, h]
theorem sepS_bare (sg : List UInt8) : ∀ (g : List UInt8) (ts : List Tr), sepS g sg (bareL ts) = sepS g sg ts
  | g, [] => by rw [bareL]
  | g, [t] => by rw [bareL, bareL, sepS, sepS, shR_bare]
  | g, t :: u :: r => by
    have := sepS_bare sg [32] (u :: r)
    rw [bareL] at this
    rw [bareL, bareL, sepS, sepS, shR_bare, this]
theorem headD_bare (l : List Tr) : (bareL l).headD default = ((l.headD default).bare) ∨ l = [] := by
  cases l with
  | nil => exact .inr rfl
  | cons t r => exact .inl (by rw [bareL]; rfl)
theorem tail_bare (l : List Tr) : (bareL l).tail = bareL l.tail := by
  cases l with
  | nil => rw [bareL]; rfl
  | cons t r => rw [bareL]; rfl
theorem lineR_bare : ∀ (r : List UInt8) (ws ts : List Tr), lineR r (bareL ws) (bareL ts) = lineR r ws ts
  | [], _, _ => rfl
  | c :: r, ws, ts => by
    have hw : ((bareL ws).headD default).text = (ws.headD default).text := by
      cases ws with
      | nil => rw [bareL]
      | cons t r => rw [bareL]; exact bare_text t
    have ht : shR ((bareL ts).headD default) = shR (ts.headD default) := by
      cases ts with
      | nil => rw [bareL]
      | cons t r => rw [bareL]; exact shR_bare t
    rw [lineR, lineR, hw, ht, sepS_bare, tail_bare, tail_bare, lineR_bare r ws.tail ts, lineR_bare r ws ts.tail, lineR_bare r ws ts]
theorem lineS_bare (x : It) : lineS x.bare = lineS x := by
  unfold lineS It.bare
  simp only
  rw [lineR_bare]
theorem showS_bare (xs : List It) : showS (xs.map It.bare) = showS xs := by
  unfold showS
  induction xs with
  | nil => rfl
  | cons x r ih => rw [List.map_cons, List.flatMap_cons, List.flatMap_cons, ih, lineS_bare]
theorem showS_of {xs ys : List It} (h : xs.map It.bare = ys.map It.bare) : showS xs = showS ys := by rw [← showS_bare xs, ← showS_bare ys, h]

/-! There and back. -/
theorem spell_len : ∀ ps : List Piece, (∀ p ∈ ps, Gap p.1) → (spell ps).length ≤ ps.length + bytesOf (ps.map Prod.snd)
  | [], _ => Nat.le_refl _
  | p :: r, h => by
    have h1 := (h p (List.mem_cons_self ..)).2
    have h2 := spell_len r fun x hx => h x (List.mem_cons_of_mem _ hx)
    have h3 : p.2.text.data.toList.length = p.2.text.size := by simp
    rw [spell_cons, List.length_append, List.length_append]
    unfold bytesOf at h2 ⊢
    simp only [List.map_cons, List.sum_cons, List.length_cons] at h2 ⊢
    omega
theorem sound_len {ts : List Tok} (h : ∀ t ∈ ts, Sound t) : ts.length ≤ bytesOf ts := by
  induction ts with
  | nil => exact Nat.le_refl _
  | cons t r ih =>
    have := ih fun x hx => h x (List.mem_cons_of_mem _ hx)
    have hp := (h t (List.mem_cons_self ..)).pos
    unfold bytesOf at this ⊢
    simp only [List.map_cons, List.sum_cons, List.length_cons]; omega
theorem bs_size (l : List UInt8) : (bs l).size = l.length := by unfold bs; show l.toArray.size = _; simp
/-- What a text's items are shown as has tokens alike, and is no longer than twice the text, and one byte. -/
theorem back_toks {s : ByteArray} {ts : List Tok} {xs : List It} (h : scanS s = .inr ts) (hp : itemsP ts 0 = .inr xs) :
    (bs (showS xs)).size ≤ 2 * s.size + 1 ∧ ∃ us, scanS (bs (showS xs)) = .inr us ∧ LikeT us ts := by
  have hT := textToks_of h
  obtain ⟨more, hts, hS, hby⟩ := scanS_sound h
  have hseg : seg ts 0 (ts.length - 1) = more := by
    unfold seg
    rw [hts, List.drop_zero, List.length_append, List.length_singleton, show more.length + 1 - 1 - 0 = more.length from by omega, List.take_left]
  have hsp := items_spelt hT _ 0 [] xs hT.pos blank_nil hp
  rw [hseg] at hsp
  obtain ⟨ps, h1, h2, h3, h4, _⟩ := hsp
  have hpsS : ∀ p ∈ ps, Blank p.1 ∧ Sound p.2 := fun p hp => ⟨(h3 p hp).1, hS _ (by rw [← h1]; exact List.mem_map.2 ⟨p, hp, rfl⟩)⟩
  have hlen := spell_len ps h3
  have hpl : ps.length = more.length := by rw [← h1, List.length_map]
  have hml := sound_len hS
  rw [h1] at hlen
  by_cases hx : xs = []
  · subst hx
    rw [show showG [] ([] : List It) = [] from rfl] at h2
    have hpe : ps = [] := by
      cases ps with
      | nil => rfl
      | cons p q =>
        exfalso
        have hpos := (hpsS p (List.mem_cons_self ..)).2.pos
        have h3 : p.2.text.data.toList.length = p.2.text.size := by simp
        have := congrArg List.length h2
        rw [spell_cons, List.length_append, List.length_append, List.length_nil] at this
        omega
    have hme : more = [] := by rw [← h1, hpe]; rfl
    refine ⟨by rw [bs_size]; simp [showS], ?_⟩
    have hsc := spelt_scan (ps := []) (tail := []) (fun p hp => by cases hp) trivial blank_nil.1
    obtain ⟨us, hu1, hu2⟩ := hsc
    refine ⟨_, hu1, ?_⟩
    unfold LikeT
    rw [List.map_append, hu2, hts, hme]; rfl
  · have hsh : showS xs = spell ps ++ [10] := by
      have := showG_eq xs [] hx
      rw [List.nil_append] at this
      rw [← this, h2]
    refine ⟨by rw [bs_size, hsh, List.length_append, List.length_singleton]; omega, ?_⟩
    obtain ⟨us, hu1, hu2⟩ := spelt_scan (tail := [10]) hpsS h4 blank_line.1
    rw [hsh]
    refine ⟨_, hu1, ?_⟩
    unfold LikeT
    rw [List.map_append, hu2, h1, hts, List.map_append]; rfl

/-- What Parse answers: the error, its byte, the items. -/
def parseS (s : ByteArray) : Int × Int × List It :=
  if s.size ≤ 8192 then (match scanS s with
    | .inl i => (2, (i : Int), [])
    | .inr ts => match itemsP ts 0 with
      | .inl j => (2, (tkD ts j).place, [])
      | .inr xs => (0, 0, xs))
  else (3, 0, [])
theorem parseS_ok {s : ByteArray} (h : (parseS s).1 = 0) : s.size ≤ 8192 ∧ ∃ ts xs, scanS s = .inr ts ∧ itemsP ts 0 = .inr xs ∧ parseS s = (0, 0, xs) := by
  unfold parseS at h ⊢
  by_cases hs : s.size ≤ 8192
  · rw [if_pos hs] at h ⊢
    refine ⟨hs, ?_⟩
    cases hsc : scanS s with
    | inl i => rw [hsc] at h; exact absurd (show (2 : Int) = 0 from h) (by decide)
    | inr ts =>
      rw [hsc] at h
      simp only at h ⊢
      cases hit : itemsP ts 0 with
      | inl j => rw [hit] at h; exact absurd (show (2 : Int) = 0 from h) (by decide)
      | inr xs => exact ⟨ts, xs, rfl, hit, by simp only⟩
  · rw [if_neg hs] at h; exact absurd (show (3 : Int) = 0 from h) (by decide)
theorem parseS_bad {s : ByteArray} (h : (parseS s).1 ≠ 0) : (parseS s).2.2 = [] := by
  unfold parseS at h ⊢
  split
  · next hs =>
    rw [if_pos hs] at h
    cases hsc : scanS s with
    | inl i => rfl
    | inr ts =>
      rw [hsc] at h
      simp only at h ⊢
      cases hit : itemsP ts 0 with
      | inl j => rfl
      | inr xs => rw [hit] at h; exact absurd rfl h
  · rfl
/-- There and back: items alike, and shown as they were. -/
theorem parse_back {s : ByteArray} (h : (parseS s).1 = 0) (hs : s.size ≤ 4000) :
    (parseS (bs (showS (parseS s).2.2))).1 = 0 ∧ (parseS (bs (showS (parseS s).2.2))).2.2.map It.bare = (parseS s).2.2.map It.bare ∧
      showS (parseS (bs (showS (parseS s).2.2))).2.2 = showS (parseS s).2.2 ∧ (bs (showS (parseS s).2.2)).size ≤ 2 * s.size + 1 := by
  obtain ⟨_, ts, xs, h1, h2, h3⟩ := parseS_ok h
  obtain ⟨hsz, us, hu, hl⟩ := back_toks h1 h2
  rw [h3]
  simp only
  have hlen := likeT_len hl
  have hT := textToks_of hu
  have key : ∃ ys, itemsP us 0 = .inr ys ∧ ys.map It.bare = xs.map It.bare := by
    unfold itemsP at h2 ⊢
    rw [hlen]
    rcases itemsF_like hl (ts.length + 1) 0 with ⟨j, _, e2⟩ | ⟨ys, xs', e1, e2, e3⟩
    · rw [h2] at e2; cases e2
    · rw [h2] at e2
      cases e2
      exact ⟨ys, e1, e3⟩
  obtain ⟨ys, hy, hb⟩ := key
  have hP : parseS (bs (showS xs)) = (0, 0, ys) := by
    unfold parseS
    rw [if_pos (by omega), hu]
    simp only [hy]
  rw [hP]
  exact ⟨rfl, hb, showS_of hb, hsz⟩
end Go.Proofs.YtldgbdmiebipnaaDoor

namespace Go.Proofs.YtldgbdmiebipnaaDoor
open Go.RowKit

structure SmallTok (s : ByteArray) (t : Tok) : Prop where
  n0 : 0 ≤ t.n
  n1 : t.n ≤ 999
  len : t.text.size ≤ s.size
  p0 : 0 ≤ t.place
  p1 : t.place ≤ s.size
theorem tokL_n {l : List UInt8} {c : Cut} (h : tokL l = some c) : 0 ≤ c.n ∧ c.n ≤ 999 := by
  have hn : ∀ {k : Int} {t : List UInt8} {least : Int} {len : Nat}, numCut k t least len = some c → 0 ≤ c.n ∧ c.n ≤ 999 := fun h => by
    rw [numCut_some h]; exact numVal_bd _
  unfold tokL at h
  split at h
  · exact hn h
  · split at h
    · exact hn h
    · split at h
      · (injection h with h; subst h; exact ⟨(show (0 : Int) ≤ 0 by decide), (show (0 : Int) ≤ 999 by decide)⟩)
      · split at h
        · exact hn h
        · split at h
          · split at h
            · (injection h with h; subst h; exact ⟨(show (0 : Int) ≤ 0 by decide), (show (0 : Int) ≤ 999 by decide)⟩)
            · split at h
              · (injection h with h; subst h; exact ⟨(show (0 : Int) ≤ 0 by decide), (show (0 : Int) ≤ 999 by decide)⟩)
              · cases h
          · cases h
theorem small_end (s : ByteArray) : SmallTok s (endTok s) := ⟨(show (0 : Int) ≤ 0 by decide), (show (0 : Int) ≤ 999 by decide), Nat.zero_le _, Int.natCast_nonneg _, Int.le_refl _⟩
theorem scanF_small (s : ByteArray) : ∀ (f i : Nat) (acc ts : List Tok), i ≤ s.size → (∀ t ∈ acc, SmallTok s t) → scanF f s i acc = .inr ts → ∀ t ∈ ts, SmallTok s t := by
  have hend : ∀ (acc ts : List Tok), (∀ t ∈ acc, SmallTok s t) → (Sum.inr (acc ++ [endTok s]) : Nat ⊕ List Tok) = .inr ts → ∀ t ∈ ts, SmallTok s t := fun acc ts ha h t ht => by
    rw [← Sum.inr.inj h] at ht
    rcases List.mem_append.1 ht with ht | ht
    · exact ha t ht
    · rw [List.mem_singleton] at ht; rw [ht]; exact small_end s
  intro f
  induction f with
  | zero => intro i acc ts _ ha h; exact hend acc ts ha h
  | succ f ih =>
    intro i acc ts hi ha h
    rw [scanF] at h
    split at h
    · exact hend acc ts ha h
    · next hlt =>
      have hlt : i < s.size := by omega
      rw [head_at hlt] at h
      split at h
      · exact ih _ _ _ (by omega) ha h
      · split at h
        · exact ih _ _ _ (rem_le s hi) ha h
        · cases hc : tokL (s.data.toList.drop i) with
          | none => rw [hc] at h; cases h
          | some c =>
            rw [hc] at h
            have hp := tokL_pos hc (by rw [drop_cons s hlt]; simp)
            rw [List.length_drop] at hp
            have hsz : s.data.toList.length = s.size := by simp
            refine ih (i + c.len) (acc ++ [tokAt s i c]) ts (by omega) (fun t ht => ?_) h
            rcases List.mem_append.1 ht with ht | ht
            · exact ha t ht
            · rw [List.mem_singleton] at ht
              rw [ht]
              have hn := tokL_n hc
              exact ⟨hn.1, hn.2, by show (s.extract i (i + c.len)).size ≤ s.size; simp; omega, Int.natCast_nonneg _, by show (i : Int) ≤ s.size; omega⟩
theorem scanS_small {s : ByteArray} {ts : List Tok} (h : scanS s = .inr ts) : (∀ t ∈ ts, SmallTok s t) ∧ ts.length ≤ s.size + 1 := by
  refine ⟨scanF_small s s.size 0 [] ts (Nat.zero_le _) (fun t ht => by cases ht) h, ?_⟩
  obtain ⟨more, rfl, hS, hb⟩ := scanS_sound h
  have hl : ∀ l : List Tok, (∀ t ∈ l, Sound t) → l.length ≤ bytesOf l := fun l => by
    induction l with
    | nil => intro _; exact Nat.zero_le _
    | cons t r ih =>
      intro hl
      have h1 := (hl t (by simp)).pos
      have h2 := ih fun u hu => hl u (by simp [hu])
      show r.length + 1 ≤ ((t :: r).map fun t => t.text.size).sum
      rw [List.map_cons, List.sum_cons]
      show r.length + 1 ≤ t.text.size + bytesOf r
      omega
  have := hl more hS
  rw [List.length_append, List.length_singleton]; omega
end Go.Proofs.YtldgbdmiebipnaaDoor

namespace Go.Proofs.YtldgbdmiebipnaaDoor
open Go.RowKit

def ParsePost (s : ByteArray) (w : World) (e : Ending) (w' : World) : Prop :=
  ∃ v, e = .returned (.tuple #[v, .int .i64 (parseS s).1, .int .i64 (parseS s).2.1]) ∧ Its w' v (parseS s).2.2 ∧ Below w.heap.size w w'
theorem parseS_err {s : ByteArray} (h : outErr s ≠ 0) : parseS s = (outErr s, outAt s, []) := by
  unfold outErr at h
  unfold parseS outErr outAt
  by_cases hs : s.size ≤ 8192
  · rw [if_pos hs] at h ⊢
    rw [if_pos hs, if_pos hs]
    cases hsc : scanS s with
    | inl i => rfl
    | inr ts => rw [hsc] at h; exact absurd rfl h
  · rw [if_neg hs, if_neg hs, if_neg hs]
theorem scan_of {s : ByteArray} (h : outErr s = 0) : s.size ≤ 8192 ∧ ∃ ts, scanS s = .inr ts := by
  unfold outErr at h
  by_cases hs : s.size ≤ 8192
  · rw [if_pos hs] at h
    cases hsc : scanS s with
    | inl i => rw [hsc] at h; exact absurd (show (2 : Int) = 0 from h) (by decide)
    | inr ts => exact ⟨hs, ts, rfl⟩
  · rw [if_neg hs] at h; exact absurd h (by decide)
theorem parseS_of {s : ByteArray} {ts : List Tok} (h8 : s.size ≤ 8192) (h : scanS s = .inr ts) : parseS s = match itemsP ts 0 with
    | .inl j => (2, (tkD ts j).place, [])
    | .inr xs => (0, 0, xs) := by
  unfold parseS; rw [if_pos h8, h]
  all_goals (cases h2 : itemsP ts 0 <;> simp only [h2])
theorem tokOk_of {s : ByteArray} {ts : List Tok} (h8 : s.size ≤ 8192) (h : scanS s = .inr ts) (i : Nat) : TokOk (tkD ts i) := by
  rcases Nat.lt_or_ge i ts.length with hi | hi
  · rw [tkD_at hi]
    have := (scanS_small h).1 _ (List.getElem_mem hi)
    obtain ⟨a, b, c, d, e⟩ := this
    exact ⟨by omega, by omega, by omega, by omega, by omega⟩
  · rw [tkD_out hi]
    exact ⟨by decide, by decide, by decide, by decide, by decide⟩
/-- Items ahead of what is read from here on. -/
def joinI (acc : List It) : Nat ⊕ List It → Nat ⊕ List It
  | .inl j => .inl j
  | .inr xs => .inr (acc ++ xs)
theorem itemsP_at {L : List Tok} (hE : Ended L) (i : Nat) : itemsP L i =
    if (tkD L i).kind = 0 then .inr []
    else if (tkD L i).kind ≠ 1 ∨ wordK (tkD L i) = true then .inl i
    else if (goP L (shapesOf (tkD L i).text) ⟨(tkD L i).text, (tkD L i).place, [], []⟩ (i + 1)).2.2 = false then .inl (goP L (shapesOf (tkD L i).text) ⟨(tkD L i).text, (tkD L i).place, [], []⟩ (i + 1)).2.1
    else joinI [(goP L (shapesOf (tkD L i).text) ⟨(tkD L i).text, (tkD L i).place, [], []⟩ (i + 1)).1] (itemsP L (goP L (shapesOf (tkD L i).text) ⟨(tkD L i).text, (tkD L i).place, [], []⟩ (i + 1)).2.1) := by
  unfold itemsP
  rw [itemsF_same (L.length + 1) (L.length + 1 + 1) L i hE (by omega) (by omega), itemsF]
  by_cases h0 : (tkD L i).kind = 0
  · rw [if_pos h0, if_pos h0]
  rw [if_neg h0, if_neg h0]
  by_cases h1 : (tkD L i).kind ≠ 1 ∨ wordK (tkD L i) = true
  · rw [if_pos h1, if_pos h1]
  rw [if_neg h1, if_neg h1]
  by_cases h2 : (goP L (shapesOf (tkD L i).text) ⟨(tkD L i).text, (tkD L i).place, [], []⟩ (i + 1)).2.2 = false
  · rw [if_pos h2, if_pos h2]
  rw [if_neg h2, if_neg h2]
  cases itemsF (L.length + 1) L (goP L (shapesOf (tkD L i).text) ⟨(tkD L i).text, (tkD L i).place, [], []⟩ (i + 1)).2.1 <;> rfl
theorem joinI_join (acc : List It) (x : It) (r : Nat ⊕ List It) : joinI acc (joinI [x] r) = joinI (acc ++ [x]) r := by
  cases r with
  | inl j => rfl
  | inr xs => show Sum.inr (acc ++ ([x] ++ xs)) = Sum.inr (acc ++ [x] ++ xs); rw [List.append_assoc]

end Go.Proofs.YtldgbdmiebipnaaDoor

namespace Go.Proofs.YtldgbdmiebipnaaDoor
open Go.RowKit

def zeroR : Tr := .mk 0 ⟨#[]⟩ 0 0 []
/-- What Whole answers: the error, its byte, the term. -/
def wholeS (s : ByteArray) : Int × Int × Tr :=
  if outErr s ≠ 0 then (outErr s, outAt s, zeroR)
  else if (termP (outToks s) 0 0).2.2 = false ∨ (tkD (outToks s) (termP (outToks s) 0 0).2.1).kind ≠ 0 then (2, (tkD (outToks s) (termP (outToks s) 0 0).2.1).place, zeroR)
  else (0, 0, (termP (outToks s) 0 0).1)
theorem zero_ok (w : World) : Rv.ok w ⟨zeroR, none, 0⟩ := ⟨⟨by decide, by decide, by decide, by decide, by decide, by decide, by decide⟩, by show (0 : Nat) ≤ _ ∧ (0 : Nat) ≤ 0; omega, .inl rfl⟩
end Go.Proofs.YtldgbdmiebipnaaDoor

namespace Go.Proofs.YtldgbdmiebipnaaDoor
open Go.RowKit

open Classical in
/-- Trees alike, but for places. -/
noncomputable def alR (xs ys : List Tr) : Bool := decide (bareL xs = bareL ys)
theorem alR_true {xs ys : List Tr} (h : bareL xs = bareL ys) : alR xs ys = true := by unfold alR; simpa using h
theorem alR_false {xs ys : List Tr} (h : bareL xs ≠ bareL ys) : alR xs ys = false := by unfold alR; simpa using h
theorem alR_iff {xs ys : List Tr} : alR xs ys = true ↔ bareL xs = bareL ys := by unfold alR; simp
theorem bareL_take_succ {xs : List Tr} {j : Nat} (h : j < xs.length) : bareL (xs.take (j + 1)) = bareL (xs.take j) ++ [xs[j].bare] := by
  rw [bareL_map, bareL_map, List.take_succ_eq_append_getElem h, List.map_append]; rfl
theorem bareL_at {xs ys : List Tr} (h : bareL xs = bareL ys) {j : Nat} (h1 : j < xs.length) (h2 : j < ys.length) : xs[j].bare = ys[j].bare := by
  rw [bareL_map, bareL_map] at h
  have e1 : (xs.map Tr.bare)[j]'(by simpa using h1) = xs[j].bare := by simp
  have e2 : (ys.map Tr.bare)[j]'(by simpa using h2) = ys[j].bare := by simp
  rw [← e1, ← e2]
  congr 1
theorem bare_head {t u : Tr} (h : t.bare = u.bare) : t.kind = u.kind ∧ t.text = u.text ∧ t.n = u.n ∧ bareL t.args = bareL u.args := by
  cases t; cases u
  rw [Tr.bare, Tr.bare] at h
  injection h with a b c _ d
  exact ⟨a, b, c, d⟩
theorem bare_of {t u : Tr} (h : t.kind = u.kind) (h2 : t.text = u.text) (h3 : t.n = u.n) (h4 : bareL t.args = bareL u.args) : t.bare = u.bare := by
  cases t; cases u
  rw [Tr.bare, Tr.bare]
  simp only [Tr.kind, Tr.text, Tr.n, Tr.args] at h h2 h3 h4
  rw [h, h2, h3, h4]
/-- Where two heads part first. -/
theorem tr_ways (t u : Tr) : (t.kind != u.kind) = true ∨ ((t.kind != u.kind) = false ∧ ((t.text.toList == u.text.toList) = false ∨ ((t.text.toList == u.text.toList) = true ∧ ((t.n != u.n) = true ∨ (t.n != u.n) = false)))) := by
  cases h1 : (t.kind != u.kind) with
  | true => exact .inl rfl
  | false =>
    refine .inr ⟨rfl, ?_⟩
    cases h2 : (t.text.toList == u.text.toList) with
    | false => exact .inl rfl
    | true =>
      refine .inr ⟨rfl, ?_⟩
      cases h3 : (t.n != u.n) with
      | true => exact .inl rfl
      | false => exact .inr rfl

open Classical in
/-- Items alike, but for places. -/
noncomputable def saI (xs ys : List It) : Bool := decide (xs.map It.bare = ys.map It.bare)
theorem saI_true {xs ys : List It} (h : xs.map It.bare = ys.map It.bare) : saI xs ys = true := by unfold saI; simpa using h
theorem saI_false {xs ys : List It} (h : xs.map It.bare ≠ ys.map It.bare) : saI xs ys = false := by unfold saI; simpa using h
theorem bareI_succ {xs : List It} {j : Nat} (h : j < xs.length) : (xs.take (j + 1)).map It.bare = (xs.take j).map It.bare ++ [xs[j].bare] := by
  rw [List.take_succ_eq_append_getElem h, List.map_append]; rfl
theorem bareI_at {xs ys : List It} (h : xs.map It.bare = ys.map It.bare) {j : Nat} (h1 : j < xs.length) (h2 : j < ys.length) : xs[j].bare = ys[j].bare := by
  have e1 : (xs.map It.bare)[j]'(by simpa using h1) = xs[j].bare := by simp
  have e2 : (ys.map It.bare)[j]'(by simpa using h2) = ys[j].bare := by simp
  rw [← e1, ← e2]
  congr 1
theorem bareI_head {x y : It} (h : x.bare = y.bare) : x.key = y.key ∧ bareL x.words = bareL y.words ∧ bareL x.trees = bareL y.trees := by
  unfold It.bare at h
  injection h with a _ b c
  exact ⟨a, b, c⟩
theorem bareI_of {x y : It} (h : x.key = y.key) (h2 : bareL x.words = bareL y.words) (h3 : bareL x.trees = bareL y.trees) : x.bare = y.bare := by
  unfold It.bare; rw [h, h2, h3]

end Go.Proofs.YtldgbdmiebipnaaDoor

namespace Go.Proofs.YtldgbdmiebipnaaDoor
open Go.RowKit

/-- Items that a text has. -/
def ItemsOf (xs : List It) : Prop := ∃ s : ByteArray, s.size ≤ 9000 ∧ (parseS s).2.2 = xs
/-- What it reads. -/
structure GramA (w : World) : Prop where
  parse : ∀ (s : ByteArray) (W : World), Below w.heap.size w W → s.size ≤ 9000 → Calls Tryd.prog 7 #[.string s] W fun e w' => ∃ v, e = .returned (.tuple #[v, .agg #[.int .i64 (parseS s).1, .int .i64 (parseS s).2.1]]) ∧ Its w' v (parseS s).2.2 ∧ Below W.heap.size W w'
  term : ∀ (s : ByteArray) (W : World), Below w.heap.size w W → s.size ≤ 9000 → Calls Tryd.prog 10 #[.string s] W fun e w' => ∃ y : Rv, e = .returned (.tuple #[y.val, .agg #[.int .i64 (wholeS s).1, .int .i64 (wholeS s).2.1]]) ∧ y.t = (wholeS s).2.2 ∧ y.ok w' ∧ Below W.heap.size W w'
  plain : ∀ (x : Rv) (W : World), Below w.heap.size w W → x.ok W → (∃ s : ByteArray, s.size ≤ 9000 ∧ x.t = (wholeS s).2.2) → Calls Tryd.prog 14 #[x.val] W fun e w' => ∃ z : Tv, e = .returned z.val ∧ z.t = plainR x.t ∧ z.ok w' ∧ Below W.heap.size W w'
/-- Likewise, and what it shows and compares. -/
structure GramI (w : World) : Prop extends GramA w where
  show_ : ∀ (v : Value) (xs : List It) (W : World), Below w.heap.size w W → Its W v xs → ItemsOf xs → Calls Tryd.prog 16 #[v] W fun e w' => e = .returned (.string (bs (showS xs))) ∧ Below W.heap.size W w'
  same : ∀ (va vb : Value) (xs ys : List It) (W : World), Below w.heap.size w W → Its W va xs → Its W vb ys → ItemsOf xs → ItemsOf ys → Calls Tryd.prog 17 #[va, vb] W fun e w' => e = .returned (.bool (saI xs ys)) ∧ Below W.heap.size W w'
def txt11 : ByteArray := ⟨#[102, 40, 88, 44, 32, 36, 49, 41]⟩
def bad11 : ByteArray := ⟨#[117, 115, 101, 32, 46]⟩
theorem whole11 : (wholeS txt11).1 = 0 ∧ (wholeS txt11).2.2.kind = 5 ∧ (wholeS txt11).2.2.args.length = 2 := by decide +kernel
theorem parse11 : (parseS bad11).1 = 2 ∧ (parseS bad11).2.1 = 4 := by decide +kernel
end Go.Proofs.YtldgbdmiebipnaaDoor

namespace Go.Proofs.YtldgbdmiebipnaaDoor
open Go.RowKit

set_option maxRecDepth 100000 in
set_option maxHeartbeats 1000000 in
theorem awake11_of (w : World) (I : GramA w) (W : World) (h : Below w.heap.size w W) :
    Calls Tryd.prog 6 #[] W fun e w' => e = .returned (.bool true) ∧ Below W.heap.size W w' := by
  have T := Lib.hid (I.term txt11 W h (by decide))
  have P := Lib.hid (fun (V : World) (hb : Below W.heap.size W V) => I.parse bad11 V (h.trans (hb.mono h.size)) (by decide))
  have HW := whole11
  have HP := parse11
  obtain ⟨⟨e0, e1, u⟩, hu⟩ : ∃ x, wholeS txt11 = x := ⟨_, rfl⟩
  obtain ⟨⟨f0, f1, us⟩, hus⟩ : ∃ x, parseS bad11 = x := ⟨_, rfl⟩
  rw [hu] at T HW
  rw [hus] at P HP
  obtain ⟨rfl, hk, hl⟩ := HW
  obtain ⟨rfl, rfl⟩ := HP
  simp only at T P hk hl
  clear I hu hus
  go_enter Tryd.func6, Tryd.ntmps6
  go_wp2_with fail
  refine T.out.mono ?_; rintro e w1 ⟨y, rfl, hyt, hyk, hb1⟩
  have HB1 := Lib.hid hb1
  have hyk5 : y.t.kind = 5 := by rw [hyt]; exact hk
  have hyl2 : y.t.args.length = 2 := by rw [hyt]; exact hl
  simp only [Rv.val]
  rw [hyk5, hyl2]
  obtain ⟨kx, hkx⟩ : ∃ k, y.t.text = k := ⟨_, rfl⟩
  obtain ⟨nx, hnx⟩ : ∃ k, y.t.n = k := ⟨_, rfl⟩
  obtain ⟨px, hpx⟩ : ∃ k, y.t.spot = k := ⟨_, rfl⟩
  rw [hkx, hnx, hpx]
  clear hb1 hyt hyk hyk5 hyl2 hkx hnx hpx hk hl
  go_wp2_with fail
  have hz1 : (w1.alloc (.cells #[.int .i64 5, .string kx, .int .i64 nx, .int .i64 px, .slice y.a 2 y.c] 36)).heap.size = w1.heap.size + 1 := by simp
  have hV : Below w1.heap.size w1 ((w1.alloc (.cells #[.int .i64 5, .string kx, .int .i64 nx, .int .i64 px, .slice y.a 2 y.c] 36)).alloc (.cells #[.int .i64 0, .int .i64 e1] 26)) := ((Below.refl _ _).alloc (Nat.le_refl _) _).alloc (by rw [hz1]; omega) _
  have bT := (box5_new w1 (.int .i64 5) (.string kx) (.int .i64 nx) (.int .i64 px) (.slice y.a 2 y.c) 36).below ((Below.refl _ _).alloc (Nat.le_refl _) (.cells #[.int .i64 0, .int .i64 e1] 26)) (by rw [hz1]; omega)
  have bF := World.cell?_alloc_mark (w1.alloc (.cells #[.int .i64 5, .string kx, .int .i64 nx, .int .i64 px, .slice y.a 2 y.c] 36)) #[.int .i64 0, .int .i64 e1] 26 (0, 0) 0
  rw [hz1] at bF
  have hsz : ((w1.alloc (.cells #[.int .i64 5, .string kx, .int .i64 nx, .int .i64 px, .slice y.a 2 y.c] 36)).alloc (.cells #[.int .i64 0, .int .i64 e1] 26)).heap.size = w1.heap.size + 2 := by simp
  obtain ⟨V, hVe⟩ : ∃ V, V = ((w1.alloc (.cells #[.int .i64 5, .string kx, .int .i64 nx, .int .i64 px, .slice y.a 2 y.c] 36)).alloc (.cells #[.int .i64 0, .int .i64 e1] 26)) := ⟨_, rfl⟩
  rw [← hVe] at hV bT hsz ⊢
  have bF' : V.cell? ⟨w1.heap.size + 1, 0, none⟩ = some (.int .i64 0) := by rw [hVe]; exact bF
  clear hVe bF hz1
  refine (P.out _ (below_next HB1.out hV)).mono ?_; rintro e w2 ⟨v, rfl, _, hb2⟩
  have hb3 := hb2.alloc hb2.size (.cells #[.int .i64 2, .int .i64 4] 26)
  obtain ⟨k0, k1, k2, k3, k4, _, _, _, _, _⟩ := bT.below hb3 (by omega)
  have k5 := (hb3.cell (p := ⟨w1.heap.size + 1, 0, none⟩) (by show w1.heap.size + 1 < _; omega)).trans bF'
  have HB2 := Lib.hid (below_next (below_next HB1.out hV) hb2)
  clear hb2 hb3 bT bF' hV hsz
  go_wp2_with fail
  go_ret
  exact ⟨rfl, HB2.out.alloc HB2.out.size _⟩
end Go.Proofs.YtldgbdmiebipnaaDoor

namespace Go.Proofs.YtldgbdmiebipnaaDoor
open Go.RowKit

theorem parts_mk (k : Int) (s : ByteArray) (n p : Int) (xs : List Tr) : (Tr.mk k s n p xs).parts = partsR xs + 1 := by rw [Tr.parts]
/-- No more parts than tokens. -/
theorem termF_parts : ∀ (f : Nat) (L : List Tok), (∀ i op, (termF f L i op).1.parts ≤ (termF f L i op).2.1 - i + 1 ∧ ((termF f L i op).2.2 = true → (termF f L i op).1.parts ≤ (termF f L i op).2.1 - i)) ∧
    ∀ i sg op, partsR (termsF f L i sg op).1 ≤ (termsF f L i sg op).2.1 - i
  | 0, L => ⟨fun i op => by rw [termF]; exact ⟨by rw [parts_mk, partsR_nil]; omega, fun h => by cases h⟩, fun i sg op => by rw [termsF, partsR_nil]; omega⟩
  | f + 1, L => by
    obtain ⟨h1, h2⟩ := termF_parts f L
    obtain ⟨l1, l2⟩ := termF_le f L
    refine ⟨fun i op => ?_, fun i sg op => ?_⟩
    · rw [termF]
      have a := h2 (i + 2) sComma (op + 1)
      have b := l2 (i + 2) sComma (op + 1)
      repeat' split
      all_goals
        simp only [parts_mk, partsR_nil]
        refine ⟨by omega, fun h => ?_⟩
        first | omega | cases h
    · rw [termsF]
      have a := h1 i op
      have b := l1 i op
      have c := h2 ((termF f L i op).2.1 + 1) sg op
      have d := l2 ((termF f L i op).2.1 + 1) sg op
      by_cases h : (termF f L i op).2.2 = false
      · rw [if_pos h, partsR_nil]; exact Nat.zero_le _
      · rw [if_neg h]
        have ht : (termF f L i op).2.2 = true := by simpa using h
        have a2 := a.2 ht
        have b2 := b.2 ht
        split
        · rw [partsR_cons, partsR_nil]; show _ ≤ (termF f L i op).2.1 - i; omega
        · rw [partsR_cons]; show _ ≤ (termsF f L ((termF f L i op).2.1 + 1) sg op).2.1 - i; omega
theorem termP_parts (L : List Tok) (i op : Nat) : (termP L i op).1.parts ≤ (termP L i op).2.1 - i + 1 := ((termF_parts _ L).1 i op).1
theorem termsP_parts (L : List Tok) (i : Nat) (sg : ByteArray) (op : Nat) : partsR (termsP L i sg op).1 ≤ (termsP L i sg op).2.1 - i := (termF_parts _ L).2 i sg op
mutual
/-- All texts of a tree are no longer than M. -/
def textsR (M : Nat) : Tr → Prop
  | .mk _ s _ _ xs => s.size ≤ M ∧ textsRs M xs
def textsRs (M : Nat) : List Tr → Prop
  | [] => True
  | t :: r => textsR M t ∧ textsRs M r
end
theorem termF_texts {L : List Tok} {M : Nat} (hM : ∀ i, (tkD L i).text.size ≤ M) : ∀ (f : Nat), (∀ i op, textsR M (termF f L i op).1) ∧ ∀ i sg op, textsRs M (termsF f L i sg op).1
  | 0 => ⟨fun i op => by rw [termF, textsR, textsRs]; exact ⟨Nat.zero_le _, trivial⟩, fun i sg op => by rw [termsF, textsRs]; trivial⟩
  | f + 1 => by
    obtain ⟨h1, h2⟩ := termF_texts hM f
    refine ⟨fun i op => ?_, fun i sg op => ?_⟩
    · rw [termF]
      have a := h2 (i + 2) sComma (op + 1)
      have b := hM i
      repeat' split
      all_goals
        simp only [textsR, textsRs, and_true]
        first | exact b | exact ⟨b, a⟩
    · rw [termsF]
      have a := h1 i op
      have c := h2 ((termF f L i op).2.1 + 1) sg op
      repeat' split
      · rw [textsRs]; trivial
      · rw [textsRs, textsRs]; exact ⟨a, trivial⟩
      · rw [textsRs]; exact ⟨a, c⟩
theorem termP_texts {L : List Tok} {M : Nat} (hM : ∀ i, (tkD L i).text.size ≤ M) (i op : Nat) : textsR M (termP L i op).1 := (termF_texts hM _).1 i op
theorem termsP_texts {L : List Tok} {M : Nat} (hM : ∀ i, (tkD L i).text.size ≤ M) (i : Nat) (sg : ByteArray) (op : Nat) : textsRs M (termsP L i sg op).1 := (termF_texts hM _).2 i sg op
mutual
/-- How long a term's text can be. -/
theorem wt_plain {M : Nat} : ∀ t : Tr, textsR M t → wtT (plainR t) ≤ (M + 30) * t.parts
  | .mk k s n p xs, h => by
    rw [textsR] at h
    have := wt_plains xs h.2
    rw [plainR, wtT, parts_mk, Nat.mul_add, Nat.mul_one]
    have hs : (if k = 1 ∨ k = 5 then s else (⟨#[]⟩ : ByteArray)).size ≤ M := by
      split
      · exact h.1
      · exact Nat.zero_le _
    omega
theorem wt_plains {M : Nat} : ∀ l : List Tr, textsRs M l → wtL (plainRs l) ≤ (M + 30) * partsR l
  | [], _ => by rw [plainRs, wtL, partsR_nil]; exact Nat.zero_le _
  | t :: r, h => by
    rw [textsRs] at h
    have h1 := wt_plain t h.1
    have h2 := wt_plains r h.2
    rw [plainRs, wtL, partsR_cons, Nat.mul_add]; omega
end
end Go.Proofs.YtldgbdmiebipnaaDoor

namespace Go.Proofs.YtldgbdmiebipnaaDoor
open Go.RowKit

theorem parseS_bd (s : ByteArray) : -9223372036854775808 ≤ (parseS s).1 ∧ (parseS s).1 ≤ 9223372036854775807 := by
  unfold parseS
  repeat' split
  all_goals (simp only; exact ⟨by decide, by decide⟩)

theorem whole_small (s : ByteArray) : (wholeS s).2.2.parts ≤ 1000000 := by
  have hz : zeroR.parts ≤ 1000000 := by unfold zeroR; rw [parts_mk, partsR_nil]; omega
  unfold wholeS
  by_cases h0 : outErr s = 0
  · rw [if_neg (by simp [h0])]
    split
    · exact hz
    · obtain ⟨h8, ts, hts⟩ := scan_of h0
      obtain ⟨o1, o2, o3⟩ := out_good h8 hts
      have hT := textToks_of hts
      have hlen := (scanS_small hts).2
      have h1 := termP_parts ts 0 0
      have h2 := termP_in hT.ended 0 hT.pos
      rw [o1]
      show (termP ts 0 0).1.parts ≤ 1000000
      omega
  · rw [if_pos h0]; exact hz
theorem wholeS_bd (s : ByteArray) : -9223372036854775808 ≤ (wholeS s).1 ∧ (wholeS s).1 ≤ 9223372036854775807 := by
  have h : outErr s = 0 ∨ outErr s = 2 ∨ outErr s = 3 := by
    unfold outErr
    repeat' split
    all_goals simp
  unfold wholeS
  repeat' split
  all_goals (simp only; exact ⟨by omega, by omega⟩)
theorem wholeS_is (s : ByteArray) : (wholeS s).1 = 0 ∨ (wholeS s).1 = 2 ∨ (wholeS s).1 = 3 := by
  have h : outErr s = 0 ∨ outErr s = 2 ∨ outErr s = 3 := by
    unfold outErr
    repeat' split
    all_goals simp
  unfold wholeS
  repeat' split
  all_goals (first | exact h | (simp))
end Go.Proofs.YtldgbdmiebipnaaDoor

namespace Go.Proofs.YtldgbdmiebipnaaDoor
open Go.RowKit

set_option maxRecDepth 100000 in
set_option maxHeartbeats 2000000 in
theorem lawBack11_of (w : World) (I : GramI w) (s : ByteArray) :
    Calls Tryd.prog 5 #[.string s] w fun e w' => e = .returned (.bool true) ∧ Below w.heap.size w w' := by
  have AW := Lib.hid (awake11_of w I.toGramA w (Below.refl _ _))
  rcases Int.lt_or_le 2500 (s.size : Int) with hs | hs
  · have hd : decide ((2500 : Int) < (s.size : Int)) = true := decide_eq_true hs
    clear I
    go_enter Tryd.func5, Tryd.ntmps5
    go_wp2_with fail
    refine AW.out.mono ?_; rintro e w1 ⟨rfl, hb1⟩
    go_wp2_with fail
    go_ret
    exact ⟨rfl, hb1⟩
  · have hd : decide ((2500 : Int) < (s.size : Int)) = false := decide_eq_false (by omega)
    have PP := Lib.hid (fun (W : World) (h : Below w.heap.size w W) => I.parse s W h (by omega))
    by_cases h0 : (parseS s).1 = 0
    · obtain ⟨hk1, hk2, hk3, hk4⟩ := parse_back h0 (by omega)
      have SH := Lib.hid (fun (v : Value) (W : World) (h : Below w.heap.size w W) (hv : Its W v (parseS s).2.2) => I.show_ v _ W h hv ⟨s, by omega, rfl⟩)
      have SH2 := Lib.hid (fun (v : Value) (W : World) (h : Below w.heap.size w W) (hv : Its W v (parseS (bs (showS (parseS s).2.2))).2.2) => I.show_ v _ W h hv ⟨_, by omega, rfl⟩)
      have PP2 := Lib.hid (fun (W : World) (h : Below w.heap.size w W) => I.parse (bs (showS (parseS s).2.2)) W h (by omega))
      have SM := Lib.hid (fun (v u : Value) (W : World) (h : Below w.heap.size w W) (hv : Its W v (parseS s).2.2) (hu : Its W u (parseS (bs (showS (parseS s).2.2))).2.2) => I.same v u _ _ W h hv hu ⟨s, by omega, rfl⟩ ⟨_, by omega, rfl⟩)
      rw [hk3] at SH2
      rw [saI_true hk2.symm] at SM
      rw [h0] at PP
      rw [hk1] at PP2
      obtain ⟨xs, hxs⟩ : ∃ x, (parseS s).2.2 = x := ⟨_, rfl⟩
      rw [hxs] at PP SH SH2 SM PP2
      obtain ⟨e1, he1⟩ : ∃ x, (parseS s).2.1 = x := ⟨_, rfl⟩
      rw [he1] at PP
      obtain ⟨t, ht⟩ : ∃ t, bs (showS xs) = t := ⟨_, rfl⟩
      rw [ht] at SH SH2 SM PP2
      obtain ⟨⟨g0, g1, ys⟩, hg⟩ : ∃ x, parseS t = x := ⟨_, rfl⟩
      rw [hg] at PP2 SH2 SM
      simp only at PP2 SH2 SM
      clear I hk1 hk2 hk3 hk4 h0 hxs he1 ht hg
      have q0 : (t.toList == t.toList) = true := by rw [Lib.bytes_beq_iff]
      go_enter Tryd.func5, Tryd.ntmps5
      go_wp2_with fail
      refine AW.out.mono ?_; rintro e w1 ⟨rfl, hb1⟩
      go_wp2_with fail
      refine (PP.out _ hb1).mono ?_; rintro e w2 ⟨v, rfl, hv, hb2⟩
      have hB2 := below_next hb1 hb2
      have HB2 := Lib.hid hB2
      clear hb1 hb2 hB2
      go_wp2_with fail
      have hb3 := (Below.refl w2.heap.size w2).alloc (Nat.le_refl _) (.cells #[.int .i64 0, .int .i64 e1] 26)
      have HB3 := Lib.hid (HB2.out.trans (hb3.mono HB2.out.size))
      have hv3 := hv.below hb3
      clear hb3 hv
      refine (SH.out _ _ HB3.out hv3).mono ?_; rintro e w4 ⟨rfl, hb4⟩
      have HB4 := Lib.hid (below_next HB3.out hb4)
      have hv4 := hv3.below hb4
      clear hb4 hv3
      go_wp2_with fail
      refine (PP2.out _ HB4.out).mono ?_; rintro e w5 ⟨u, rfl, hu5, hb5⟩
      have HB5 := Lib.hid (below_next HB4.out hb5)
      have hv5 := hv4.below hb5
      clear hb5 hv4
      go_wp2_with fail
      have hb6 := (Below.refl w5.heap.size w5).alloc (Nat.le_refl _) (.cells #[.int .i64 0, .int .i64 g1] 26)
      have HB6 := Lib.hid (below_next HB5.out hb6)
      have hv6 := hv5.below hb6
      have hu6 := hu5.below hb6
      refine (SM.out _ _ _ HB6.out hv6 hu6).mono ?_; rintro e w7 ⟨rfl, hb7⟩
      have HB7 := Lib.hid (below_next HB6.out hb7)
      have hu7 := hu6.below hb7
      clear hb6 hb7 hv5 hu5 hv6 hu6
      go_wp2_with fail
      refine (SH2.out _ _ HB7.out hu7).mono ?_; rintro e w8 ⟨rfl, hb8⟩
      have HB8 := Lib.hid (below_next HB7.out hb8)
      clear hb8
      go_wp2_with fail
      go_ret
      exact ⟨rfl, HB8.out⟩
    · have hbad := parseS_bad h0
      have hbd := parseS_bd s
      obtain ⟨⟨e0, e1, xs⟩, hx⟩ : ∃ x, parseS s = x := ⟨_, rfl⟩
      rw [hx] at PP h0 hbad hbd
      simp only at PP h0 hbad hbd
      subst hbad
      obtain ⟨hbd0, hbd1⟩ := hbd
      have q0 : (e0 != 0) = true := by simpa using h0
      clear I hx h0
      go_enter Tryd.func5, Tryd.ntmps5
      go_wp2_with fail
      refine AW.out.mono ?_; rintro e w1 ⟨rfl, hb1⟩
      go_wp2_with fail
      refine (PP.out _ hb1).mono ?_; rintro e w2 ⟨v, rfl, ⟨a, c, rfl, _, _⟩, hb2⟩
      have HB2 := Lib.hid (below_next hb1 hb2)
      clear hb1 hb2
      go_wp2_with fail
      go_ret
      exact ⟨rfl, HB2.out.alloc HB2.out.size _⟩
end Go.Proofs.YtldgbdmiebipnaaDoor

namespace Go.Proofs.YtldgbdmiebipnaaDoor
open Go.RowKit

/-- What a call from w to w' has made reads so wherever its blocks stand. -/
def MadeT (w w' : World) (y : Tv) : Prop := ∀ W', w'.heap.size ≤ W'.heap.size → (∀ k, w.heap.size ≤ k → k < w'.heap.size → W'.heap[k]? = w'.heap[k]?) → y.ok W'
theorem MadeT.ok {w w' : World} {y : Tv} (h : MadeT w w' y) : y.ok w' := h w' (Nat.le_refl _) fun _ _ _ => rfl
theorem MadeT.wide {u w w' W : World} {y : Tv} (h : MadeT w w' y) (h1 : u.heap.size ≤ w.heap.size) (h2 : w'.heap.size ≤ W.heap.size) (h3 : ∀ k, w.heap.size ≤ k → k < w'.heap.size → W.heap[k]? = w'.heap[k]?) : MadeT u W y := fun W' g1 g2 =>
  h W' (Nat.le_trans h2 g1) fun k k1 k2 => (g2 k (Nat.le_trans h1 k1) (Nat.lt_of_lt_of_le k2 h2)).trans (h3 k k1 k2)
/-- A term without arguments lives anywhere. -/
theorem tv_plain {k : Int} {s : ByteArray} {n : Int} (h : Fit k s n) (w w' : World) : MadeT w w' ⟨.mk k s n [], none, 0⟩ := fun _ _ _ => ⟨h, by show (0 : Nat) ≤ _ ∧ (0 : Nat) ≤ 0; omega, .inl rfl⟩
/-- A term in a row that grows: its blocks lie from base on, and the row's block g is none of them. -/
def LiveT (W : World) (g : Option Nat) (base : Nat) (y : Tv) : Prop := ∃ lo hi, base ≤ lo ∧ lo ≤ hi ∧ hi ≤ W.heap.size ∧ (∀ k, g = some k → k < lo ∨ hi ≤ k) ∧
  ∀ W', hi ≤ W'.heap.size → (∀ k, lo ≤ k → k < hi → W'.heap[k]? = W.heap[k]?) → y.ok W'
theorem LiveT.ok {W : World} {g : Option Nat} {base : Nat} {y : Tv} (h : LiveT W g base y) : y.ok W := by
  obtain ⟨lo, hi, _, _, h3, _, h5⟩ := h
  exact h5 W h3 fun _ _ _ => rfl
theorem MadeT.live {w w' : World} {y : Tv} (h : MadeT w w' y) (hs : w.heap.size ≤ w'.heap.size) {g : Option Nat} {base : Nat} (hb : base ≤ w.heap.size) (hg : ∀ k, g = some k → k < w.heap.size ∨ w'.heap.size ≤ k) : LiveT w' g base y :=
  ⟨w.heap.size, w'.heap.size, hb, hs, Nat.le_refl _, hg, h⟩
theorem LiveT.keep {W W' : World} {g g' : Option Nat} {base : Nat} {y : Tv} (h : LiveT W g base y) (hs : W.heap.size ≤ W'.heap.size) (hk : ∀ k, base ≤ k → k < W.heap.size → some k ≠ g → W'.heap[k]? = W.heap[k]?) (hg : ∀ k, g' = some k → g = some k ∨ W.heap.size ≤ k) : LiveT W' g' base y := by
  obtain ⟨lo, hi, h1, h2, h3, h4, h5⟩ := h
  refine ⟨lo, hi, h1, h2, Nat.le_trans h3 hs, fun k e => ?_, fun W2 g1 g2 => h5 W2 g1 fun k k1 k2 => ?_⟩
  · rcases hg k e with e | e
    · exact h4 k e
    · exact .inr (Nat.le_trans h3 e)
  · rw [g2 k k1 k2]
    refine hk k (Nat.le_trans h1 k1) (Nat.lt_of_lt_of_le k2 h3) fun e => ?_
    rcases h4 k e.symm with e | e <;> omega
theorem LiveT.grown {W W' : World} {g g' : Option Nat} {base : Nat} {y : Tv} (h : LiveT W g base y) (hg : W.grownBy W' g) (hat : g' = g ∨ g' = some W.heap.size) : LiveT W' g' base y := h.keep hg.size (fun k _ hk e => hg.block k hk e) fun k e => by
  rcases hat with e2 | e2
  · left; rw [← e2]; exact e
  · right; rw [e2] at e; injection e with e; omega
/-- A row of terms that grows. -/
structure RowT (W : World) (base : Nat) (v : Value) (ts : List Tm) : Prop where
  row : ∃ vs : List Tv, vs.map Tv.t = ts ∧ (∀ x ∈ vs, LiveT W v.ownBlock base x) ∧ W.ownsRow base 48 4 v ts.length (rowTv vs)
theorem rowT_nil (W : World) (base : Nat) : RowT W base (.slice none 0 0) [] := ⟨[], rfl, (fun x hx => by cases hx), World.ownsRow_nil _ _ _ _⟩
theorem RowT.keep {W W' : World} {base : Nat} {v : Value} {ts : List Tm} (h : RowT W base v ts) (hs : W.heap.size ≤ W'.heap.size) (hk : ∀ k, base ≤ k → k < W.heap.size → W'.heap[k]? = W.heap[k]?) : RowT W' base v ts := by
  obtain ⟨vs, h1, h2, h3⟩ := h
  exact ⟨vs, h1, fun x hx => (h2 x hx).keep hs (fun k q1 q2 _ => hk k q1 q2) (fun k e => .inl e), own_at h3 fun q e => hk q (own_row_ge h3 q e) (own_row_lt h3 q e)⟩
theorem RowT.below {W W' : World} {base : Nat} {v : Value} {ts : List Tm} (h : RowT W base v ts) (hb : Below W.heap.size W W') : RowT W' base v ts := h.keep hb.size fun k _ hk => hb.block k hk
/-- One term more. -/
theorem RowT.snoc {W W' : World} {base : Nat} {v v' : Value} {ts : List Tm} {vs : List Tv} {y : Tv} (h1 : vs.map Tv.t = ts) (h2 : ∀ x ∈ vs, LiveT W v.ownBlock base x) (hy : LiveT W v.ownBlock base y)
    (hown : W'.ownsRow base 48 4 v' (ts.length + 1) (rowTv vs ++ y.cells)) (hg : W.grownBy W' v.ownBlock) (hat : v'.ownBlock = v.ownBlock ∨ v'.ownBlock = some W.heap.size) : RowT W' base v' (ts ++ [y.t]) := by
  refine ⟨vs ++ [y], by rw [List.map_append, h1]; rfl, fun x hx => ?_, ?_⟩
  · rcases List.mem_append.1 hx with hx | hx
    · exact (h2 x hx).grown hg hat
    · rw [List.mem_singleton] at hx; rw [hx]; exact hy.grown hg hat
  · rw [List.length_append, rowTv_append, rowTv_one]; exact hown
/-- A term over such a row is made by the call that began at base. -/
theorem RowT.made {w W : World} {base : Nat} {a : Option Addr} {m c : Nat} {ts : List Tm} {k : Int} {s : ByteArray} {n : Int} (h : RowT W base (.slice a m c) ts) (hfit : Fit k s n) (hb : w.heap.size ≤ base) (hl : ts.length ≤ 9223372036854775807) : MadeT w W ⟨.mk k s n ts, a, c⟩ := fun W' g1 g2 => by
  obtain ⟨vs, h1, h2, h3⟩ := h
  have hlive : ∀ x ∈ vs, x.ok W' := fun x hx => by
    obtain ⟨lo, hi, k1, _, k3, _, k5⟩ := h2 x hx
    exact k5 W' (Nat.le_trans k3 g1) fun q q1 q2 => g2 q (by omega) (by omega)
  have hown := own_at (w' := W') h3 fun q e => g2 q (Nat.le_trans hb (own_row_ge h3 q e)) (own_row_lt h3 q e)
  subst h1
  obtain ⟨hn, ⟨hv, h0⟩ | ⟨g, cap, cur, hv, _, hg, hcap, hmax, hsz, htake⟩⟩ := hown
  · have : vs = [] := by simpa using h0
    subst this
    cases hv
    exact ⟨hfit, by show (0 : Nat) ≤ _ ∧ (0 : Nat) ≤ 0; omega, .inl rfl⟩
  · cases hv
    have hrow : RowAt W' (vs.map Tv.t) g 0 := rowAt_of fun {j} hj => by
      have hjv : j < vs.length := by simpa using hj
      rw [List.getElem_map]
      have cell : ∀ i, i < 4 → W'.cell? ⟨g, 0 + j * 4 + i, none⟩ = vs[j].cells[i]? := by
        intro i hi
        rw [cell_of_row W' g (0 + j * 4 + i) cur _ (0, 0) hg, ← rowTv_get vs j hjv i hi, ← htake, List.getElem?_take, if_pos (by simp; omega), Nat.zero_add]
        simp
      exact tv_tmAt (hlive _ (List.getElem_mem hjv)) ⟨cell 0 (by omega), cell 1 (by omega), cell 2 (by omega), cell 3 (by omega)⟩
    exact ⟨hfit, ⟨hl, hcap⟩, .inr ⟨g, 0, rfl, (Array.getElem?_eq_some_iff.1 hg).1, hrow⟩⟩
end Go.Proofs.YtldgbdmiebipnaaDoor
