/-
  The texts of tokens with a blank between: Show of package lex and of the reference, for any tokens whose texts are short enough together.
-/
import Derived.Test.YtljkaaliagppdaaDoorRow
import Derived.Test.YtljkaaliagppdaaDoorShelf
import Derived.Lib.Join
import Derived.Laws.Concat
namespace Go.Proofs.YtljkaaliagppdaaDoor
open Go.RowKit

/-- The texts of all tokens that are no ends. -/
def texts (ts : List Tok) : List ByteArray := (ts.filter fun t => t.kind != 0).map Tok.text
def lists (l : List ByteArray) : List (List UInt8) := l.map (·.data.toList)
/-- The texts with a blank between. -/
def sh (ts : List Tok) : List UInt8 := Lib.join (lists (texts ts)) [32]
/-- How long the texts are together, with a blank each. -/
def total (ts : List Tok) : Nat := (ts.map fun t => t.text.size + 1).sum

theorem total_cons (t : Tok) (r : List Tok) : total (t :: r) = t.text.size + 1 + total r := by unfold total; simp
theorem texts_nil : texts [] = [] := rfl
theorem texts_cons_end {t : Tok} (r : List Tok) (h : (t.kind != 0) = false) : texts (t :: r) = texts r := by
  unfold texts; rw [List.filter_cons]; simp [h]
theorem texts_cons_some {t : Tok} (r : List Tok) (h : (t.kind != 0) = true) : texts (t :: r) = t.text :: texts r := by
  unfold texts; rw [List.filter_cons]; simp [h]
theorem texts_snoc_end {l : List Tok} {t : Tok} (h : (t.kind != 0) = false) : texts (l ++ [t]) = texts l := by
  unfold texts; rw [List.filter_append]; simp [h]
theorem texts_snoc_some {l : List Tok} {t : Tok} (h : (t.kind != 0) = true) : texts (l ++ [t]) = texts l ++ [t.text] := by
  unfold texts; rw [List.filter_append]; simp [h]
theorem lens_texts (ts : List Tok) : Lib.lens (lists (texts ts)) + (texts ts).length ≤ total ts := by
  induction ts with
  | nil => simp [texts, lists, Lib.lens, total]
  | cons t r ih =>
    rw [total_cons]
    cases h : t.kind != 0 with
    | false => rw [texts_cons_end r h]; omega
    | true =>
      rw [texts_cons_some r h]
      simp only [lists, List.map_cons, Lib.lens, List.sum_cons, List.length_cons] at ih ⊢
      have : t.text.data.toList.length = t.text.size := by simp
      omega
theorem join_len (l : List (List UInt8)) : (Lib.join l [32]).length ≤ Lib.lens l + l.length := by
  cases l with
  | nil => simp [Lib.join_nil]
  | cons x r => rw [Lib.join_length]; simp; omega
theorem sh_len (ts : List Tok) : (sh ts).length ≤ total ts := by
  unfold sh
  have h1 := join_len (lists (texts ts))
  have h2 := lens_texts ts
  have h3 : (lists (texts ts)).length = (texts ts).length := by unfold lists; simp
  omega
theorem total_take (ts : List Tok) (k : Nat) : total (ts.take k) ≤ total ts := by
  induction ts generalizing k with
  | nil => simp
  | cons t r ih =>
    cases k with
    | zero => simp [total]
    | succ k => rw [List.take_succ_cons, total_cons, total_cons]; have := ih k; omega
theorem total_get {ts : List Tok} {k : Nat} (h : k < ts.length) : ts[k].text.size ≤ total ts := by
  induction ts generalizing k with
  | nil => simp at h
  | cons t r ih =>
    rw [total_cons]
    cases k with
    | zero => simp; omega
    | succ k => have := ih (k := k) (by simpa using h); simp; omega
theorem total_length (ts : List Tok) : ts.length ≤ total ts := by
  induction ts with
  | nil => simp
  | cons t r ih => rw [total_cons]; simp; omega
theorem texts_len (ts : List Tok) : (texts ts).length ≤ ts.length := by
  unfold texts; rw [List.length_map]; exact List.length_filter_le _ _

theorem join_snoc (l : List (List UInt8)) (x : List UInt8) : Lib.join (l ++ [x]) [32] = if l.isEmpty then x else Lib.join l [32] ++ [32] ++ x := by
  cases l with
  | nil => simp [Lib.join_one]
  | cons y r =>
    rw [List.cons_append, Lib.join_cons, Lib.join_cons]
    simp [Lib.joinTail, List.append_assoc]
theorem sh_snoc_end {l : List Tok} {t : Tok} (h : (t.kind != 0) = false) : sh (l ++ [t]) = sh l := by unfold sh; rw [texts_snoc_end h]
theorem sh_snoc_first {l : List Tok} {t : Tok} (h : (t.kind != 0) = true) (he : (texts l).isEmpty = true) : sh (l ++ [t]) = t.text.data.toList := by
  unfold sh; rw [texts_snoc_some h]
  have : texts l = [] := by simpa using he
  rw [this]; simp [lists, Lib.join_one]
theorem sh_snoc_more {l : List Tok} {t : Tok} (h : (t.kind != 0) = true) (he : (texts l).isEmpty = false) : sh (l ++ [t]) = sh l ++ [32] ++ t.text.data.toList := by
  unfold sh; rw [texts_snoc_some h]
  unfold lists; rw [List.map_append, List.map_cons, List.map_nil, join_snoc, if_neg (by simpa using he)]
theorem sh_empty {l : List Tok} (he : (texts l).isEmpty = true) : sh l = [] := by
  unfold sh
  have : texts l = [] := by simpa using he
  rw [this]; rfl

/-- Whether any text was told by then. -/
def someB (ts : List Tok) (k : Nat) : Bool := !(texts (ts.take k)).isEmpty

theorem cat_one (l : List UInt8) (t : ByteArray) : (⟨l.toArray⟩ : ByteArray) ++ t = ⟨(l ++ t.data.toList).toArray⟩ := by
  apply ByteArray.ext; simp

set_option maxHeartbeats 1000000 in
theorem rshow_any (v : Value) (ts : List Tok) (w : World) (hv : Toks w v ts) (htot : total ts ≤ 1000000) :
    Calls Tryd.prog 15 #[v] w fun e w' => e = .returned (.string ⟨(sh ts).toArray⟩) ∧ Below w.heap.size w w' := by
  obtain ⟨a, c, rfl, hl, h⟩ := hv
  rcases h with rfl | ⟨b, off, rfl, hlt, hc⟩
  · go_enter Tryd.func15, Tryd.ntmps15
    go_wp2
    refine wp_loop_rounds 1 ?_; rw [rounds_succ]
    go_wp2
    go_ret
    exact ⟨rfl, Below.refl _ _⟩
  · have HC := Lib.hid hc
    clear hc
    go_enter Tryd.func15, Tryd.ntmps15
    go_wp2
    go_loopw [3, 4, 9] (fun s o i wr => ∃ k : Nat, k ≤ ts.length ∧ i = .int .i64 k ∧ s = .string ⟨(sh (ts.take k)).toArray⟩ ∧ o = .bool (someB ts k) ∧ Below w.heap.size w wr) (fun _ _ i _ => ts.length - (intOf i).toNat)
    case atStart => exact ⟨0, Nat.zero_le _, rfl, rfl, rfl, Below.refl _ _⟩
    case round =>
      obtain ⟨k, hk, rfl, rfl, rfl, hb⟩ := hrel
      by_cases hkl : k < ts.length
      · have hil : (k : Int) < (ts.length : Int) := by omega
        obtain ⟨d0, d1, d2, d3⟩ := (HC.out k hkl).below hb hlt
        obtain ⟨t, ht⟩ : ∃ t, t = ts[k] := ⟨_, rfl⟩
        rw [← ht] at d0 d1 d2 d3
        have hbs := hb.size
        have hpl : (sh (ts.take k)).length ≤ 1000000 := by have := sh_len (ts.take k); have := total_take ts k; omega
        have htl : t.text.size ≤ 1000000 := by have := total_get hkl; rw [← ht] at this; omega
        have hts : ts.take (k + 1) = ts.take k ++ [t] := by rw [List.take_succ_eq_append_getElem hkl, ht]
        have HT := Lib.hid hts
        clear ht hts
        have hb' : Below w.heap.size w (wr.alloc (.cells #[.int .i64 t.kind, .string t.text, .int .i64 t.n, .int .i64 t.place] 38)) := hb.alloc hbs _
        obtain ⟨p, hp⟩ : ∃ p, p = sh (ts.take k) := ⟨_, rfl⟩
        rw [← hp] at hpl ⊢
        have HP := Lib.hid hp
        clear hp
        cases hkd : t.kind != 0 with
        | false =>
          have hk0 : (t.kind == 0) = true := by simpa using hkd
          have HK := Lib.hid hkd
          clear hkd
          obtain ⟨o, ho⟩ : ∃ o, o = someB ts k := ⟨_, rfl⟩
          rw [← ho]
          have HO := Lib.hid ho
          clear ho
          go_wp2
          go_roundw
          case rel => exact ⟨k + 1, by omega, by go_num, by rw [HT.out, sh_snoc_end HK.out, HP.out], by rw [HO.out]; unfold someB; rw [HT.out, texts_snoc_end HK.out], hb'⟩
          case measure => simp [intOf]; omega
        | true =>
          have hk0 : (t.kind == 0) = false := by simpa using hkd
          have HK := Lib.hid hkd
          clear hkd
          cases ho : someB ts k with
          | false =>
            have HO := Lib.hid ho
            clear ho
            go_wp2
            go_roundw
            case rel =>
              have he : (texts (ts.take k)).isEmpty = true := by have := HO.out; unfold someB at this; simpa using this
              refine ⟨k + 1, by omega, by go_num, ?_, ?_, hb'⟩
              · rw [cat_one, HT.out, sh_snoc_first HK.out he, HP.out, sh_empty he]; rfl
              · unfold someB; rw [HT.out, texts_snoc_some HK.out]; simp
            case measure => simp [intOf]; omega
          | true =>
            have HO := Lib.hid ho
            clear ho
            go_wp2
            go_roundw
            case rel =>
              have he : (texts (ts.take k)).isEmpty = false := by have := HO.out; unfold someB at this; simpa using this
              refine ⟨k + 1, by omega, by go_num, ?_, ?_, hb'⟩
              · rw [cat_one, cat_one, HT.out, sh_snoc_more HK.out he, HP.out]
              · unfold someB; rw [HT.out, texts_snoc_some HK.out]; simp
            case measure => simp [intOf]; omega
      · obtain rfl : k = ts.length := by omega
        go_wp2
        go_ret
        exact ⟨by rw [List.take_length]; rfl, hb⟩

theorem strInfo : (Tryd.prog.info? 9).map (fun i => (i.zero, i.size, i.bytes)) = some (some (.string ⟨#[]⟩), 1, 16) := by kernel_rfl
/-- The texts of the first k tokens. -/
def textsTo (ts : List Tok) (k : Nat) : List ByteArray := texts (ts.take k)
theorem textsTo_len {ts : List Tok} {k : Nat} : (textsTo ts k).length ≤ ts.length := by
  have := texts_len (ts.take k)
  unfold textsTo; rw [List.length_take] at this; omega

theorem own_cells {w : World} {base : Nat} {e : TypeId} {v : Value} {n : Nat} {xs : List ByteArray} (h : w.ownsRow base e 1 v n (xs.map Value.string)) : (v = .slice none 0 0 ∧ xs = []) ∨
    ∃ g cap, v = .slice (some ⟨g, 0, none⟩) xs.length cap ∧ g < w.heap.size ∧ xs.length ≤ cap ∧ ∀ (j : Nat) x, xs[j]? = some x → w.cell? ⟨g, 0 + j, none⟩ = some (.string x) := by
  obtain ⟨hn, h⟩ := h
  have hxn : xs.length = n := by simpa using hn
  subst hxn
  rcases h with ⟨rfl, h0⟩ | ⟨g, cap, cur, rfl, hb, hg, hcap, hmax, hsz, htake⟩
  · exact .inl ⟨rfl, List.eq_nil_of_length_eq_zero h0⟩
  · refine .inr ⟨g, cap, rfl, ?_, hcap, fun j x hj => ?_⟩
    · rcases Nat.lt_or_ge g w.heap.size with hlt | hge
      · exact hlt
      · rw [Array.getElem?_eq_none hge] at hg; cases hg
    · have hjl : j < xs.length := (List.getElem?_eq_some_iff.1 hj).1
      rw [cell_of_row w g (0 + j) cur e (0, 0) hg]
      have : (xs.map Value.string)[j]? = some (.string x) := by rw [List.getElem?_map, hj]; rfl
      rw [← htake, List.getElem?_take, if_pos (by omega)] at this
      rw [Nat.zero_add]
      simpa using this

set_option maxHeartbeats 1000000 in
theorem lshow_any (v : Value) (ts : List Tok) (w : World) (hv : Toks w v ts) (htot : total ts ≤ 1000000) :
    Calls Tryd.prog 11 #[v] w fun e w' => e = .returned (.string ⟨(sh ts).toArray⟩) ∧ Below w.heap.size w w' := by
  obtain ⟨a, c, rfl, hl, h⟩ := hv
  obtain ⟨i0, hi, hz0, hz1, hz2⟩ := info_parts strInfo
  rcases h with rfl | ⟨b, off, rfl, hlt, hc⟩
  · have J := Lib.hid (fun a c w => Tryd.strings_Join_none a c ⟨#[32]⟩ w)
    go_enter Tryd.func11, Tryd.ntmps11
    go_wp2
    refine wp_loop_rounds 1 ?_; rw [rounds_succ]
    go_wp2_with (go_at_call 23; refine (J.out _ _ _).mono ?_; rintro e w1 ⟨rfl, rfl⟩)
    go_ret
    exact ⟨rfl, Below.refl _ _⟩
  · have HC := Lib.hid hc
    clear hc
    have htl0 := total_length ts
    go_enter Tryd.func11, Tryd.ntmps11
    go_wp2
    go_loopw [3, 8] (fun o i wr => ∃ k : Nat, k ≤ ts.length ∧ i = .int .i64 k ∧ wr.ownsRow w.heap.size 9 1 o (textsTo ts k).length ((textsTo ts k).map Value.string) ∧ Below w.heap.size w wr) (fun _ i _ => ts.length - (intOf i).toNat)
    case atStart => exact ⟨0, Nat.zero_le _, rfl, World.ownsRow_nil _ _ _ _, Below.refl _ _⟩
    case round =>
      obtain ⟨k, hk, rfl, hown, hb⟩ := hrel
      by_cases hkl : k < ts.length
      · have hil : (k : Int) < (ts.length : Int) := by omega
        obtain ⟨d0, d1, d2, d3⟩ := (HC.out k hkl).below hb hlt
        obtain ⟨t, ht⟩ : ∃ t, t = ts[k] := ⟨_, rfl⟩
        rw [← ht] at d0 d1 d2 d3
        have hbs := hb.size
        have hts : ts.take (k + 1) = ts.take k ++ [t] := by rw [List.take_succ_eq_append_getElem hkl, ht]
        have HT := Lib.hid hts
        clear ht hts
        have hxl := textsTo_len (ts := ts) (k := k)
        cases hkd : t.kind != 0 with
        | false =>
          have he : textsTo ts (k + 1) = textsTo ts k := by unfold textsTo; rw [HT.out, texts_snoc_end hkd]
          have hb' : Below w.heap.size w (wr.alloc (.cells #[.int .i64 t.kind, .string t.text, .int .i64 t.n, .int .i64 t.place] 38)) := hb.alloc hbs _
          have hown2 : (wr.alloc (.cells #[.int .i64 t.kind, .string t.text, .int .i64 t.n, .int .i64 t.place] 38)).ownsRow w.heap.size 9 1 u3 (textsTo ts (k + 1)).length ((textsTo ts (k + 1)).map Value.string) := by
            rw [he]; exact hown.alloc _
          clear hown he
          go_wp2
          go_roundw
          case rel => exact ⟨k + 1, by omega, by go_num, hown2, hb'⟩
          case measure => simp [intOf]; omega
        | true =>
          have he : textsTo ts (k + 1) = textsTo ts k ++ [t.text] := by unfold textsTo; rw [HT.out, texts_snoc_some hkd]
          have HE := Lib.hid he
          clear he
          obtain ⟨m, hm⟩ : ∃ m, m = (textsTo ts k).length := ⟨_, rfl⟩
          obtain ⟨xs, hxs⟩ : ∃ xs, xs = (textsTo ts k).map Value.string := ⟨_, rfl⟩
          rw [← hm, ← hxs] at hown
          rw [← hm] at hxl
          have HM := Lib.hid hm
          have HX := Lib.hid hxs
          clear hm hxs
          go_wp2_with (at_builtin; refine wpList_append_own _ rfl _ _ 43 rfl w.heap.size 9 i0 (.string ⟨#[]⟩) 1 16 Tryd.underlying43 hi hz0 hz1 hz2 rfl (by decide) _ m _ rfl ((hown.alloc _).alloc _) ⟨wr.heap.size + 1, 0, none⟩ 1 1 [.string t.text] rfl rfl ?c1 ?c2 ?c3 ?c4 ?c5 ?_)
          case c1 =>
            have hz : wr.heap.size + 1 = (wr.alloc (.cells #[.int .i64 t.kind, .string t.text, .int .i64 t.n, .int .i64 t.place] 38)).heap.size := by simp
            rw [hz]
            exact cell_one_new _ _ _
          case c2 => intro u hu; simp at hu; rw [hu]; rfl
          case c3 => unfold maxLen; omega
          case c4 => omega
          case c5 => simp; omega
          intro v' w1 hown' hgrow _
          have hb' : Below w.heap.size w w1 := ((hb.alloc hbs _).alloc (by simp; omega) _).grown hgrow (by simp; omega) (own_row_ge hown)
          have hown2 : w1.ownsRow w.heap.size 9 1 v' (textsTo ts (k + 1)).length ((textsTo ts (k + 1)).map Value.string) := by
            rw [HE.out, List.map_append, List.length_append, ← HM.out, ← HX.out]; exact hown'
          clear hown hown' hgrow d0 d1 d2 d3 hb
          go_wp2
          go_roundw
          case rel => exact ⟨k + 1, by omega, by go_num, hown2, hb'⟩
          case measure => simp [intOf]; omega
      · obtain rfl : k = ts.length := by omega
        have he : textsTo ts ts.length = texts ts := by unfold textsTo; rw [List.take_length]
        rw [he] at hown
        clear he
        rcases own_cells hown with ⟨rfl, h0⟩ | ⟨g, cap, rfl, hg, hcap, hcell⟩
        · have J := Lib.hid (fun a c w => Tryd.strings_Join_none a c ⟨#[32]⟩ w)
          have HS := Lib.hid (show sh ts = [] from sh_empty (by rw [h0]; rfl))
          clear hown h0
          go_wp2_with (go_at_call 23; refine (J.out _ _ _).mono ?_; rintro e w1 ⟨rfl, rfl⟩)
          go_ret
          exact ⟨by rw [HS.out]; rfl, hb⟩
        · have hjl := sh_len ts
          have hxl := texts_len ts
          have J := Lib.hid (Tryd.strings_Join g 0 cap (texts ts) ⟨#[32]⟩ wr hcell hg (by omega) hcap (by show (sh ts).length ≤ _; omega))
          clear hown hcell
          obtain ⟨m, hm⟩ : ∃ m, m = (texts ts).length := ⟨_, rfl⟩
          go_wp2_with (go_at_call 23; refine J.out.mono ?_; rintro e w1 ⟨rfl, hb1⟩)
          go_ret
          exact ⟨rfl, hb.trans (hb1.mono hb.size)⟩
end Go.Proofs.YtljkaaliagppdaaDoor
