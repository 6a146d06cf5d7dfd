/-
  Tokens as data, and slices that read as rows of them; whether tokens are few and short, by the reference.
-/
import Derived.Test.YtljkaaliagppdaaDoorParts
import Derived.WalkSpells
import Derived.Below
import Derived.Laws.OwnMore
namespace Go.Proofs.YtljkaaliagppdaaDoor
open Go.RowKit

/-- A token: its kind, its text, its number, and where it begins. -/
structure Tok where
  kind : Int
  text : ByteArray
  n : Int
  place : Int

/-- The four cells of a token. -/
def Tok.cells (t : Tok) : List Value := [.int .i64 t.kind, .string t.text, .int .i64 t.n, .int .i64 t.place]
/-- A token lies at an address. -/
structure TokAt (w : World) (b o : Nat) (t : Tok) : Prop where
  c0 : w.cell? ⟨b, o, none⟩ = some (.int .i64 t.kind)
  c1 : w.cell? ⟨b, o + 1, none⟩ = some (.string t.text)
  c2 : w.cell? ⟨b, o + 2, none⟩ = some (.int .i64 t.n)
  c3 : w.cell? ⟨b, o + 3, none⟩ = some (.int .i64 t.place)
theorem TokAt.below {w w' : World} {b o : Nat} {t : Tok} (h : TokAt w b o t) {B : Nat} (hb : Below B w w') (hlt : b < B) : TokAt w' b o t where
  c0 := (hb.cell (p := ⟨b, o, none⟩) hlt).trans h.c0
  c1 := (hb.cell (p := ⟨b, o + 1, none⟩) hlt).trans h.c1
  c2 := (hb.cell (p := ⟨b, o + 2, none⟩) hlt).trans h.c2
  c3 := (hb.cell (p := ⟨b, o + 3, none⟩) hlt).trans h.c3

/-- A slice value that reads as a row of tokens. -/
def Toks (w : World) (v : Value) (ts : List Tok) : Prop :=
  ∃ a c, v = .slice a ts.length c ∧ ts.length ≤ 9223372036854775807 ∧ (ts = [] ∨ ∃ b off, a = some ⟨b, off, none⟩ ∧ b < w.heap.size ∧ ∀ j (h : j < ts.length), TokAt w b (off + j * 4) ts[j])
theorem Toks.below {w w' : World} {v : Value} {ts : List Tok} (h : Toks w v ts) (hb : Below w.heap.size w w') : Toks w' v ts := by
  obtain ⟨a, c, hv, hl, h⟩ := h
  refine ⟨a, c, hv, hl, ?_⟩
  rcases h with h | ⟨b, off, ha, hlt, hc⟩
  · exact .inl h
  · exact .inr ⟨b, off, ha, Nat.lt_of_lt_of_le hlt hb.size, fun j hj => (hc j hj).below hb hlt⟩
theorem Toks.none_ (w : World) (a : Option Addr) (c : Nat) : Toks w (.slice a 0 c) [] := ⟨a, c, rfl, by simp, .inl rfl⟩

def short (t : Tok) : Bool := decide (t.text.size ≤ 300)
def fewB (ts : List Tok) : Bool := decide (ts.length ≤ 200) && ts.all short
def ShortTo (ts : List Tok) (k : Nat) : Prop := ∀ j (h : j < ts.length), j < k → short ts[j] = true
theorem ShortTo.succ {ts : List Tok} {k : Nat} (h : ShortTo ts k) (hk : k < ts.length) (hs : short ts[k] = true) : ShortTo ts (k + 1) := by
  intro j hj hjk
  by_cases e : j = k
  · subst e; exact hs
  · exact h j hj (by omega)
theorem ShortTo.all {ts : List Tok} (h : ShortTo ts ts.length) (hl : ts.length ≤ 200) : fewB ts = true := by
  unfold fewB; rw [decide_eq_true hl, Bool.true_and, List.all_eq_true]
  intro t ht
  obtain ⟨j, hj, rfl⟩ := List.getElem_of_mem ht
  exact h j hj hj
theorem few_bad {ts : List Tok} {k : Nat} (hk : k < ts.length) (h : ¬ ts[k].text.size ≤ 300) : fewB ts = false := by
  unfold fewB; rw [Bool.and_eq_false_iff]; right
  rw [← Bool.not_eq_true, List.all_eq_true]; intro hall
  have := hall _ (List.getElem_mem hk)
  unfold short at this
  rw [decide_eq_true_eq] at this; exact h this
theorem few_long {ts : List Tok} (h : ¬ ts.length ≤ 200) : fewB ts = false := by
  unfold fewB; rw [decide_eq_false h, Bool.false_and]

set_option maxHeartbeats 1000000 in
theorem few_any (v : Value) (ts : List Tok) (w : World) (hv : Toks w v ts) :
    Calls Tryd.prog 14 #[v] w fun e w' => e = .returned (.bool (fewB ts)) ∧ Below w.heap.size w w' := by
  obtain ⟨a, c, rfl, hl, h⟩ := hv
  by_cases hlen : ts.length ≤ 200
  · rcases h with rfl | ⟨b, off, rfl, hlt, hc⟩
    · go_enter Tryd.func14, Tryd.ntmps14
      go_wp2
      refine wp_loop_rounds 1 ?_; rw [rounds_succ]
      go_wp2
      go_ret
      exact ⟨rfl, Below.refl _ _⟩
    · have HC := Lib.hid hc
      clear hc
      go_enter Tryd.func14, Tryd.ntmps14
      go_wp2
      go_loopw [10] (fun i wr => ∃ k : Nat, k ≤ ts.length ∧ i = .int .i64 k ∧ ShortTo ts k ∧ Below w.heap.size w wr) (fun i _ => ts.length - (intOf i).toNat)
      case atStart => exact ⟨0, Nat.zero_le _, rfl, (fun j hj hk => by omega), Below.refl _ _⟩
      case round =>
        obtain ⟨k, hk, rfl, hsh, hb⟩ := hrel
        have HS := Lib.hid hsh
        clear hsh
        by_cases hkl : k < ts.length
        · have hi : (k : Int) < (ts.length : Int) := by omega
          obtain ⟨d0, d1, d2, d3⟩ := (HC.out k hkl).below hb hlt
          obtain ⟨t, ht⟩ : ∃ t, t = ts[k] := ⟨_, rfl⟩
          rw [← ht] at d0 d1 d2 d3
          have HT := Lib.hid ht
          clear ht
          by_cases hs : t.text.size ≤ 300
          · go_wp2
            go_roundw
            case rel => exact ⟨k + 1, by omega, by go_num, HS.out.succ hkl (by rw [← HT.out]; unfold short; exact decide_eq_true hs), hb.alloc hb.size _⟩
            case measure => simp [intOf]; omega
          · go_wp2
            go_ret
            exact ⟨ret_bool (few_bad hkl (by rw [← HT.out]; exact hs)).symm, hb.alloc hb.size _⟩
        · obtain rfl : k = ts.length := by omega
          go_wp2
          go_ret
          exact ⟨ret_bool (HS.out.all hlen).symm, hb⟩
  · have hi : ¬ ((ts.length : Int) ≤ 200) := by omega
    go_enter Tryd.func14, Tryd.ntmps14
    go_wp2
    go_ret
    exact ⟨ret_bool (few_long hlen).symm, Below.refl _ _⟩
end Go.Proofs.YtljkaaliagppdaaDoor
