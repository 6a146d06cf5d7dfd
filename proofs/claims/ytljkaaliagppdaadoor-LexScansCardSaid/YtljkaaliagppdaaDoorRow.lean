/-
  Rows of tokens that the call itself makes: the tokens without their places, by the reference and by package lex.
-/
import Derived.Test.YtljkaaliagppdaaDoorAlike
import Derived.OwnWalk
import Derived.Laws.MakeOwn
namespace Go.Proofs.YtljkaaliagppdaaDoor
open Go.RowKit

theorem tokInfo : (Tryd.prog.info? 38).map (fun i => (i.zero, i.size, i.bytes)) = some (some (.agg #[.int .i64 0, .string ⟨#[]⟩, .int .i64 0, .int .i64 0]), 4, 40) := by kernel_rfl
theorem new_row4 (w : World) (b : Nat) (hb : b = w.heap.size) (x0 x1 x2 x3 : Value) (t : TypeId) : ∀ j u, [x0, x1, x2, x3][j]? = some u → (w.alloc (.cells #[x0, x1, x2, x3] t)).cell? ((⟨b, 0, none⟩ : Addr).add j) = some u := by
  subst hb
  intro j u hj
  have e := World.cell?_alloc_mark w #[x0, x1, x2, x3] t (0, 0) (0 + j)
  have : ((⟨w.heap.size, 0, none⟩ : Addr).add j) = ⟨w.heap.size, 0 + j, none⟩ := by
    unfold Addr.add; split
    · next h => subst h; rfl
    · rfl
  rw [this, e]
  simpa using hj
theorem own_row_ge {w : World} {base : Nat} {e : TypeId} {size : Nat} {v : Value} {n : Nat} {xs : List Value} (h : w.ownsRow base e size v n xs) : ∀ g, v.ownBlock = some g → base ≤ g := by
  intro g hg
  obtain ⟨_, ⟨rfl, _⟩ | ⟨g', cap, cur, rfl, hb, _⟩⟩ := h
  · cases hg
  · cases hg; exact hb
/-- The cells of a row of tokens. -/
def rowOf (ts : List Tok) : List Value := ts.flatMap Tok.cells
theorem rowOf_length (ts : List Tok) : (rowOf ts).length = ts.length * 4 := by
  unfold rowOf
  induction ts with
  | nil => rfl
  | cons t r ih => rw [List.flatMap_cons, List.length_append, ih]; simp [Tok.cells]; omega
theorem rowOf_snoc (ts : List Tok) (t : Tok) : rowOf (ts ++ [t]) = rowOf ts ++ t.cells := by
  unfold rowOf; rw [List.flatMap_append]; simp
theorem rowOf_get (ts : List Tok) (j : Nat) (h : j < ts.length) (i : Nat) (hi : i < 4) : (rowOf ts)[j * 4 + i]? = ts[j].cells[i]? := by
  induction ts generalizing j with
  | nil => simp at h
  | cons t r ih =>
    unfold rowOf
    rw [List.flatMap_cons]
    cases j with
    | zero => rw [Nat.zero_mul, Nat.zero_add, List.getElem?_append_left (by simp [Tok.cells]; omega)]; rfl
    | succ j =>
      rw [List.getElem?_append_right (by simp [Tok.cells]; omega)]
      have := ih j (by simpa using h)
      rw [show (j + 1) * 4 + i - t.cells.length = j * 4 + i from by simp [Tok.cells]; omega]
      exact this

/-- A token without its place. -/
def Tok.plain (t : Tok) : Tok := { t with place := 0 }
/-- The first k tokens, without their places. -/
def plainTo (ts : List Tok) (k : Nat) : List Tok := (ts.take k).map Tok.plain
theorem plainTo_length {ts : List Tok} {k : Nat} (h : k ≤ ts.length) : (plainTo ts k).length = k := by
  unfold plainTo; rw [List.length_map, List.length_take]; omega
theorem plainTo_snoc {ts : List Tok} {k : Nat} (h : k < ts.length) : plainTo ts (k + 1) = plainTo ts k ++ [ts[k].plain] := by
  unfold plainTo; rw [List.take_succ_eq_append_getElem h, List.map_append]; rfl
theorem plainTo_all (ts : List Tok) : plainTo ts ts.length = ts.map Tok.plain := by
  unfold plainTo; rw [List.take_length]

/-- What is owned reads as a row of tokens. -/
theorem toks_of_own {w : World} {base : Nat} {e : TypeId} {v : Value} {ts : List Tok} (h : w.ownsRow base e 4 v ts.length (rowOf ts)) (hl : ts.length ≤ 9223372036854775807) : Toks w v ts := by
  obtain ⟨hn, h⟩ := h
  rcases h with ⟨rfl, h0⟩ | ⟨g, cap, cur, rfl, hb, hg, hcap, hmax, hsz, htake⟩
  · have : ts = [] := List.eq_nil_of_length_eq_zero h0
    subst this
    exact Toks.none_ _ _ _
  · refine ⟨_, cap, rfl, hl, .inr ⟨g, 0, rfl, ?_, fun j hj => ?_⟩⟩
    · rcases Nat.lt_or_ge g w.heap.size with hlt | hge
      · exact hlt
      · rw [Array.getElem?_eq_none hge] at hg; cases hg
    · have cell : ∀ i, i < 4 → w.cell? ⟨g, 0 + j * 4 + i, none⟩ = ts[j].cells[i]? := by
        intro i hi
        rw [cell_of_row w g (0 + j * 4 + i) cur e (0, 0) hg, ← rowOf_get ts j hj i hi, ← htake, List.getElem?_take, if_pos (by omega), Nat.zero_add]
        simp
      exact ⟨cell 0 (by omega), cell 1 (by omega), cell 2 (by omega), cell 3 (by omega)⟩

set_option maxHeartbeats 1000000 in
theorem rplain_any (v : Value) (ts : List Tok) (w : World) (hv : Toks w v ts) (hlen : ts.length ≤ 1000000) :
    Calls Tryd.prog 13 #[v] w fun e w' => ∃ u, e = .returned u ∧ Toks w' u (ts.map Tok.plain) ∧ Below w.heap.size w w' := by
  obtain ⟨a, c, rfl, hl, h⟩ := hv
  obtain ⟨i0, hi, hz0, hz1, hz2⟩ := info_parts tokInfo
  rcases h with rfl | ⟨b, off, rfl, hlt, hc⟩
  · go_enter Tryd.func13, Tryd.ntmps13
    go_wp2
    refine wp_loop_rounds 1 ?_; rw [rounds_succ]
    go_wp2
    go_ret
    exact ⟨_, rfl, Toks.none_ _ _ _, Below.refl _ _⟩
  · have HC := Lib.hid hc
    clear hc
    go_enter Tryd.func13, Tryd.ntmps13
    go_wp2
    go_loopw [3, 8] (fun o i wr => ∃ k : Nat, k ≤ ts.length ∧ i = .int .i64 k ∧ wr.ownsRow w.heap.size 38 4 o k (rowOf (plainTo ts k)) ∧ Below w.heap.size w wr) (fun _ i _ => ts.length - (intOf i).toNat)
    case atStart => exact ⟨0, Nat.zero_le _, rfl, World.ownsRow_nil _ _ _ _, Below.refl _ _⟩
    case round =>
      obtain ⟨k, hk, rfl, hown, hb⟩ := hrel
      by_cases hkl : k < ts.length
      · have hil : (k : Int) < (ts.length : Int) := by omega
        obtain ⟨d0, d1, d2, d3⟩ := (HC.out k hkl).below hb hlt
        obtain ⟨t, ht⟩ : ∃ t, t = ts[k] := ⟨_, rfl⟩
        rw [← ht] at d0 d1 d2 d3
        have HT := Lib.hid ht
        clear ht
        have hbs := hb.size
        go_wp2_with (at_builtin; refine wpList_append_own _ rfl _ _ 23 rfl w.heap.size 38 i0 (.agg #[.int .i64 0, .string ⟨#[]⟩, .int .i64 0, .int .i64 0]) 4 40 Tryd.underlying23 hi hz0 hz1 hz2 rfl (by decide) _ k _ rfl ((hown.alloc _).alloc _) ⟨wr.heap.size + 1, 0, none⟩ 1 1 [.int .i64 t.kind, .string t.text, .int .i64 t.n, .int .i64 0] rfl rfl ?c1 ?c2 ?c3 ?c4 ?c5 ?_)
        case c1 => exact new_row4 _ _ (by simp) _ _ _ _ _
        case c2 => intro u hu; simp at hu; rcases hu with rfl | rfl | rfl | rfl <;> rfl
        case c3 => unfold maxLen; omega
        case c4 => omega
        case c5 => simp; omega
        intro v' w1 hown' hgrow _
        have hb' : Below w.heap.size w w1 := ((hb.alloc hbs _).alloc (by simp; omega) _).grown hgrow (by simp; omega) (own_row_ge hown)
        have hown2 : w1.ownsRow w.heap.size 38 4 v' (k + 1) (rowOf (plainTo ts (k + 1))) := by
          rw [plainTo_snoc hkl, rowOf_snoc, ← HT.out]; exact hown'
        clear hown hown' hgrow d0 d1 d2 d3 hb
        go_wp2
        go_roundw
        case rel => exact ⟨k + 1, by omega, by go_num, hown2, hb'⟩
        case measure => simp [intOf]; omega
      · obtain rfl : k = ts.length := by omega
        go_wp2
        go_ret
        rw [plainTo_all] at hown
        exact ⟨_, rfl, toks_of_own (by simpa using hown) (by simp; omega), hb⟩

set_option maxHeartbeats 1000000 in
theorem lplain_any (v : Value) (ts : List Tok) (w : World) (hv : Toks w v ts) (hlen : ts.length ≤ 1000000) :
    Calls Tryd.prog 16 #[v] w fun e w' => ∃ u, e = .returned u ∧ Toks w' u (ts.map Tok.plain) ∧ Below w.heap.size w w' := by
  obtain ⟨a, c, rfl, hl, h⟩ := hv
  obtain ⟨i0, hi, hz0, hz1, hz2⟩ := info_parts tokInfo
  rcases h with rfl | ⟨b, off, rfl, hlt, hc⟩
  · go_enter Tryd.func16, Tryd.ntmps16
    go_wp2_with (at_make; refine wpList_make_own _ rfl _ _ 23 rfl w.heap.size 38 i0 (.agg #[.int .i64 0, .string ⟨#[]⟩, .int .i64 0, .int .i64 0]) 4 Tryd.underlying23 hi hz0 hz1 _ _ _ 0 rfl rfl rfl ?b2 ?b3 (Nat.le_refl _) ?_)
    case b2 => omega
    case b3 => unfold maxLen; omega
    intro w1 hown hgrow
    have hb : Below w.heap.size w w1 := (Below.refl _ _).grown hgrow (Nat.le_refl _) (fun j hj => by cases hj)
    clear hown hgrow
    go_wp2
    refine wp_loop_rounds 1 ?_; rw [rounds_succ]
    go_wp2
    go_ret
    exact ⟨_, rfl, Toks.none_ _ _ _, hb⟩
  · have HC := Lib.hid hc
    clear hc
    go_enter Tryd.func16, Tryd.ntmps16
    go_wp2_with (at_make; refine wpList_make_own _ rfl _ _ 23 rfl w.heap.size 38 i0 (.agg #[.int .i64 0, .string ⟨#[]⟩, .int .i64 0, .int .i64 0]) 4 Tryd.underlying23 hi hz0 hz1 _ _ _ ts.length rfl rfl rfl ?b2 ?b3 (Nat.le_refl _) ?_)
    case b2 => rw [hz2]; omega
    case b3 => unfold maxLen; omega
    intro w1 hown1 hgrow
    have hb1 : Below w.heap.size w w1 := (Below.refl _ _).grown hgrow (Nat.le_refl _) (fun j hj => by cases hj)
    clear hgrow
    go_wp2
    go_loopw [3, 11] (fun o i wr => ∃ k : Nat, k ≤ ts.length ∧ i = .int .i64 k ∧ wr.ownsRow w.heap.size 38 4 o k (rowOf (plainTo ts k)) ∧ Below w.heap.size w wr) (fun _ i _ => ts.length - (intOf i).toNat)
    case atStart => exact ⟨0, Nat.zero_le _, rfl, hown1, hb1⟩
    case round =>
      obtain ⟨k, hk, rfl, hown, hb⟩ := hrel
      by_cases hkl : k < ts.length
      · have hil : (k : Int) < (ts.length : Int) := by omega
        obtain ⟨d0, d1, d2, d3⟩ := (HC.out k hkl).below hb hlt
        obtain ⟨t, ht⟩ : ∃ t, t = ts[k] := ⟨_, rfl⟩
        rw [← ht] at d0 d1 d2 d3
        have HT := Lib.hid ht
        clear ht
        have hbs := hb.size
        go_wp2_with (at_builtin; refine wpList_append_own _ rfl _ _ 23 rfl w.heap.size 38 i0 (.agg #[.int .i64 0, .string ⟨#[]⟩, .int .i64 0, .int .i64 0]) 4 40 Tryd.underlying23 hi hz0 hz1 hz2 rfl (by decide) _ k _ rfl ((hown.alloc _).alloc _) ⟨wr.heap.size + 1, 0, none⟩ 1 1 [.int .i64 t.kind, .string t.text, .int .i64 t.n, .int .i64 0] rfl rfl ?c1 ?c2 ?c3 ?c4 ?c5 ?_)
        case c1 => exact new_row4 _ _ (by simp) _ _ _ _ _
        case c2 => intro u hu; simp at hu; rcases hu with rfl | rfl | rfl | rfl <;> rfl
        case c3 => unfold maxLen; omega
        case c4 => omega
        case c5 => simp; omega
        intro v' w2 hown' hgrow _
        have hb' : Below w.heap.size w w2 := ((hb.alloc hbs _).alloc (by simp; omega) _).grown hgrow (by simp; omega) (own_row_ge hown)
        have hown2 : w2.ownsRow w.heap.size 38 4 v' (k + 1) (rowOf (plainTo ts (k + 1))) := by
          rw [plainTo_snoc hkl, rowOf_snoc, ← HT.out]; exact hown'
        clear hown hown' hgrow d0 d1 d2 d3 hb
        go_wp2
        go_roundw
        case rel => exact ⟨k + 1, by omega, by go_num, hown2, hb'⟩
        case measure => simp [intOf]; omega
      · obtain rfl : k = ts.length := by omega
        go_wp2
        go_ret
        rw [plainTo_all] at hown
        exact ⟨_, rfl, toks_of_own (by simpa using hown) (by simp; omega), hb⟩
end Go.Proofs.YtljkaaliagppdaaDoor
