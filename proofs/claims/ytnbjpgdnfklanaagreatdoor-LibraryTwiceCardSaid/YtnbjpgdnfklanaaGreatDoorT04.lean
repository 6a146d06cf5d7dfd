/-
  Two rows of trees that grow beside each other: an item's words and its terms. No function of the program.
  Terms as they are shown are spelt out of the tokens that they were read of. No function of the program.
  Items read of tokens, and shown: there and back. No function of the program.
  Items in memory: a key, a place, two rows of trees; rows of items. A world cut off at a block. No function of the program.
  A text's items, and there and back: what items are shown as has the same items. No function of the program.
  The tokens of a text are small: their numbers, places, texts, and how many they are. No function of the program.
  What a call of Parse leaves; the items from a token on, step by step.
  Rows of function symbols in memory: each a name and an arity. No function of the program.
-/
import Derived.Test.YtnbjpgdnfklanaaGreatDoorT02
import Derived.Test.YtnbjpgdnfklanaaGreatDoorT03
import Derived.Test.YtnbjpgdnfklanaaGreatDoorT01
import Derived.Below
import Derived.Laws.OwnMore
import Derived.Lib.SlicesS
namespace Go.Proofs.YtnbjpgdnfklanaaGreatDoor
open Go.RowKit
def LiveA (W : World) (P : Nat → Prop) (base : Nat) (y : Rv) : Prop := ∃ lo hi, base ≤ lo ∧ lo ≤ hi ∧ hi ≤ W.heap.size ∧ (∀ k, P k → k < lo ∨ hi ≤ k) ∧
  ∀ W', hi ≤ W'.heap.size → (∀ k, lo ≤ k → k < hi → W'.heap[k]? = W.heap[k]?) → y.ok W'
theorem LiveA.ok {W : World} {P : Nat → Prop} {base : Nat} {y : Rv} (h : LiveA W P base y) : y.ok W := by
  obtain ⟨lo, hi, _, _, h3, _, h5⟩ := h
  exact h5 W h3 fun _ _ _ => rfl
theorem LiveA.keep {W W' : World} {P P' : Nat → Prop} {base : Nat} {y : Rv} (h : LiveA W P base y) (hs : W.heap.size ≤ W'.heap.size) (hk : ∀ k, k < W.heap.size → ¬ P k → W'.heap[k]? = W.heap[k]?) (hP : ∀ k, P' k → P k ∨ W.heap.size ≤ k) : LiveA W' P' base y := by
  obtain ⟨lo, hi, h1, h2, h3, h4, h5⟩ := h
  refine ⟨lo, hi, h1, h2, Nat.le_trans h3 hs, fun k e => ?_, fun W2 g1 g2 => h5 W2 g1 fun k k1 k2 => ?_⟩
  · rcases hP k e with e | e
    · exact h4 k e
    · exact .inr (Nat.le_trans h3 e)
  · rw [g2 k k1 k2]
    refine hk k (Nat.lt_of_lt_of_le k2 h3) fun e => ?_
    rcases h4 k e with e | e <;> omega
theorem LiveA.below {W W' : World} {P : Nat → Prop} {base : Nat} {y : Rv} (h : LiveA W P base y) (hb : Below W.heap.size W W') : LiveA W' P base y := h.keep hb.size (fun k hk _ => hb.block k hk) fun _ e => .inl e
def rowsP (vw vt : Value) (k : Nat) : Prop := vw.ownBlock = some k ∨ vt.ownBlock = some k
def rowsZ (Z : Nat → Prop) (vw vt : Value) (k : Nat) : Prop := rowsP vw vt k ∨ Z k
structure RowsI (W : World) (Z : Nat → Prop) (e : TypeId) (base : Nat) (vw : Value) (ws : List Tr) (vt : Value) (ts : List Tr) : Prop where
  wds : ∃ vs : List Rv, vs.map Rv.t = ws ∧ (∀ x ∈ vs, LiveA W (rowsZ Z vw vt) base x) ∧ W.ownsRow base e 5 vw ws.length (rowRv vs)
  trs : ∃ us : List Rv, us.map Rv.t = ts ∧ (∀ x ∈ us, LiveA W (rowsZ Z vw vt) base x) ∧ W.ownsRow base e 5 vt ts.length (rowRv us)
  apart : ∀ k, vw.ownBlock = some k → vt.ownBlock ≠ some k
  out : ∀ k, rowsP vw vt k → ¬ Z k
theorem rowsP_swap (vw vt : Value) : rowsP vt vw = rowsP vw vt := by funext k; unfold rowsP; rw [Or.comm]
theorem RowsI.swap {W : World} {Z : Nat → Prop} {e : TypeId} {base : Nat} {vw vt : Value} {ws ts : List Tr} (h : RowsI W Z e base vw ws vt ts) : RowsI W Z e base vt ts vw ws := by
  have hP : rowsZ Z vt vw = rowsZ Z vw vt := by funext k; unfold rowsZ; rw [rowsP_swap]
  refine ⟨?_, ?_, fun k h1 h2 => h.apart k h2 h1, ?_⟩
  · rw [hP]; exact h.trs
  · rw [hP]; exact h.wds
  · rw [rowsP_swap]; exact h.out
theorem RowsI.below {W W' : World} {Z : Nat → Prop} {e : TypeId} {base : Nat} {vw vt : Value} {ws ts : List Tr} (h : RowsI W Z e base vw ws vt ts) (hb : Below W.heap.size W W') : RowsI W' Z e base vw ws vt ts := by
  obtain ⟨⟨vs, h1, h2, h3⟩, ⟨us, k1, k2, k3⟩, ha, ho⟩ := h
  exact ⟨⟨vs, h1, fun x hx => (h2 x hx).below hb, own_below h3 hb⟩, ⟨us, k1, fun x hx => (k2 x hx).below hb, own_below k3 hb⟩, ha, ho⟩
theorem RowsI.lt {W : World} {Z : Nat → Prop} {e : TypeId} {base : Nat} {vw vt : Value} {ws ts : List Tr} (h : RowsI W Z e base vw ws vt ts) : ∀ k, rowsP vw vt k → base ≤ k ∧ k < W.heap.size := by
  obtain ⟨⟨vs, _, _, h3⟩, ⟨us, _, _, k3⟩, _, _⟩ := h
  intro k hk
  rcases hk with hk | hk
  · exact ⟨own_row_ge h3 k hk, own_row_lt h3 k hk⟩
  · exact ⟨own_row_ge k3 k hk, own_row_lt k3 k hk⟩
theorem RowsI.beside {W : World} {Z Z' : Nat → Prop} {e : TypeId} {base : Nat} {vw vt : Value} {ws ts : List Tr} (h : RowsI W Z e base vw ws vt ts) (hZ : ∀ k, Z' k → Z k ∨ W.heap.size ≤ k) : RowsI W Z' e base vw ws vt ts := by
  have hlt := h.lt
  obtain ⟨⟨vs, h1, h2, h3⟩, ⟨us, k1, k2, k3⟩, ha, ho⟩ := h
  have hK : ∀ x : Rv, LiveA W (rowsZ Z vw vt) base x → LiveA W (rowsZ Z' vw vt) base x := fun x hx => hx.keep (Nat.le_refl _) (fun _ _ _ => rfl) fun k e => by
    rcases e with e | e
    · exact .inl (.inl e)
    · rcases hZ k e with q | q
      · exact .inl (.inr q)
      · exact .inr q
  refine ⟨⟨vs, h1, fun x hx => hK x (h2 x hx), h3⟩, ⟨us, k1, fun x hx => hK x (k2 x hx), k3⟩, ha, fun k e z => ?_⟩
  rcases hZ k z with q | q
  · exact ho k e q
  · have := (hlt k e).2; omega
theorem RowsI.aside {W W' : World} {Z : Nat → Prop} {e : TypeId} {base : Nat} {vw vt : Value} {ws ts : List Tr} (h : RowsI W Z e base vw ws vt ts) (hs : W.heap.size ≤ W'.heap.size) (hk : ∀ k, ¬ Z k → W'.heap[k]? = W.heap[k]?) : RowsI W' Z e base vw ws vt ts := by
  obtain ⟨⟨vs, h1, h2, h3⟩, ⟨us, k1, k2, k3⟩, ha, ho⟩ := h
  have hK : ∀ x : Rv, LiveA W (rowsZ Z vw vt) base x → LiveA W' (rowsZ Z vw vt) base x := fun x hx => hx.keep hs (fun k _ q => hk k fun z => q (.inr z)) fun k e => .inl e
  exact ⟨⟨vs, h1, fun x hx => hK x (h2 x hx), own_at h3 fun g q => hk g (ho g (.inl q))⟩, ⟨us, k1, fun x hx => hK x (k2 x hx), own_at k3 fun g q => hk g (ho g (.inr q))⟩, ha, ho⟩
theorem RowsI.more {W W' : World} {Z : Nat → Prop} {e : TypeId} {base : Nat} {vw vt vt' : Value} {ws ts : List Tr} {us news : List Rv} {n : Nat} (h : RowsI W Z e base vw ws vt ts) (h1 : us.map Rv.t = ts) (h2 : ∀ x ∈ us, LiveA W (rowsZ Z vw vt) base x)
    (hy : ∀ x ∈ news, LiveA W (rowsZ Z vw vt) base x) (hn : ts.length + news.length = n) (hown : W'.ownsRow base e 5 vt' n (rowRv us ++ rowRv news)) (hg : W.grownBy W' vt.ownBlock) (hat : vt'.ownBlock = vt.ownBlock ∨ vt'.ownBlock = some W.heap.size) (hZ : ∀ k, Z k → k < W.heap.size) :
    RowsI W' Z e base vw ws vt' (ts ++ news.map Rv.t) := by
  have hlt := h.lt
  obtain ⟨⟨vs, w1, w2, w3⟩, _, ha, ho⟩ := h
  have hP : ∀ k, rowsZ Z vw vt' k → rowsZ Z vw vt k ∨ W.heap.size ≤ k := fun k e => by
    rcases e with (e | e) | e
    · exact .inl (.inl (.inl e))
    · rcases hat with e2 | e2
      · exact .inl (.inl (.inr (by rw [← e2]; exact e)))
      · rw [e2] at e; injection e with e; exact .inr (by omega)
    · exact .inl (.inr e)
  have hK : ∀ x : Rv, LiveA W (rowsZ Z vw vt) base x → LiveA W' (rowsZ Z vw vt') base x := fun x hx => hx.keep hg.size (fun k hk e => hg.block k hk fun q => e (.inl (.inr q.symm))) hP
  refine ⟨⟨vs, w1, fun x hx => hK x (w2 x hx), ?_⟩, ⟨us ++ news, by rw [List.map_append, h1], fun x hx => ?_, ?_⟩, fun k e1 e2 => ?_, fun k e z => ?_⟩
  · exact own_at w3 fun g e => hg.block g (hlt g (.inl e)).2 fun q => ha g e q.symm
  · rcases List.mem_append.1 hx with hx | hx
    · exact hK x (h2 x hx)
    · exact hK x (hy x hx)
  · rw [List.length_append, List.length_map, rowRv_append, hn]; exact hown
  · rcases hat with q | q
    · exact ha k e1 (by rw [← q]; exact e2)
    · rw [q] at e2; injection e2 with e2; have := (hlt k (.inl e1)).2; omega
  · rcases e with e | e
    · exact ho k (.inl e) z
    · rcases hat with q | q
      · exact ho k (.inr (by rw [← q]; exact e)) z
      · rw [q] at e; injection e with e; have := hZ k z; omega
theorem own_slice {w : World} {base : Nat} {e : TypeId} {size : Nat} {v : Value} {n : Nat} {xs : List Value} (h : w.ownsRow base e size v n xs) : ∃ a c, v = .slice a n c := by
  obtain ⟨_, ⟨rfl, rfl⟩ | ⟨g, cap, cur, rfl, _⟩⟩ := h
  · exact ⟨none, 0, rfl⟩
  · exact ⟨_, _, rfl⟩
end Go.Proofs.YtnbjpgdnfklanaaGreatDoor

namespace Go.Proofs.YtnbjpgdnfklanaaGreatDoor
open Go.RowKit
mutual

def plainR : Tr → Tm
  | .mk k s n _ xs => .mk k (if k = 1 ∨ k = 5 then s else ⟨#[]⟩) (if k = 3 ∨ k = 4 then n else 0) (plainRs xs)
def plainRs : List Tr → List Tm
  | [] => []
  | t :: r => plainR t :: plainRs r
end
end Go.Proofs.YtnbjpgdnfklanaaGreatDoor

namespace Go.Proofs.YtnbjpgdnfklanaaGreatDoor
open Go.RowKit
structure It where
  key : ByteArray
  spot : Int
  words : List Tr
  trees : List Tr
def shapesOf (k : ByteArray) : List UInt8 :=
  if (k.toList == (⟨#[102, 117, 110]⟩ : ByteArray).toList) = true then [119, 47, 110, 46]
  else if (k.toList == (⟨#[110, 97, 109, 101]⟩ : ByteArray).toList) = true ∨ (k.toList == (⟨#[117, 115, 101]⟩ : ByteArray).toList) = true then [119, 46]
  else if (k.toList == (⟨#[114, 117, 108, 101]⟩ : ByteArray).toList) = true then [116, 61, 116, 46]
  else if (k.toList == (⟨#[102, 114, 97, 109, 101]⟩ : ByteArray).toList) = true then [119, 58, 108, 46]
  else if (k.toList == (⟨#[100, 101, 100, 117, 99, 101]⟩ : ByteArray).toList) = true then [119, 116, 46]
  else if (k.toList == (⟨#[101, 113, 117, 105, 118]⟩ : ByteArray).toList) = true then [119, 119, 46]
  else [116, 46]
def oneP (x : It) (L : List Tok) (i : Nat) (c : UInt8) : It × Nat × Bool :=
  if c = 119 then (if wordK (tkD L i) = true then ({ x with words := x.words ++ [.mk 5 (tkD L i).text 0 (tkD L i).place []] }, i + 1, true) else (x, i, false))
  else if c = 110 then (if (tkD L i).kind = 3 then ({ x with words := x.words ++ [.mk 0 (tkD L i).text (tkD L i).n (tkD L i).place []] }, i + 1, true) else (x, i, false))
  else if c = 116 then (if (termP L i 0).2.2 = true then ({ x with trees := x.trees ++ [(termP L i 0).1] }, (termP L i 0).2.1, true) else (x, (termP L i 0).2.1, false))
  else if c = 108 then (if isS (tkD L i) sDot = true then (x, i, true) else ({ x with trees := x.trees ++ (termsP L i sSemi 0).1 }, (termsP L i sSemi 0).2.1, (termsP L i sSemi 0).2.2))
  else (if isS (tkD L i) ⟨#[c]⟩ = true then (x, i + 1, true) else (x, i, false))
def goP (L : List Tok) : List UInt8 → It → Nat → It × Nat × Bool
  | [], x, i => (x, i, true)
  | c :: r, x, i => if (oneP x L i c).2.2 = false then (x, (oneP x L i c).2.1, false) else goP L r (oneP x L i c).1 (oneP x L i c).2.1
def itemsF : Nat → List Tok → Nat → Nat ⊕ List It
  | 0, _, i => .inl i
  | f + 1, L, i =>
    if (tkD L i).kind = 0 then .inr []
    else if (tkD L i).kind ≠ 1 ∨ wordK (tkD L i) = true then .inl i
    else if (goP L (shapesOf (tkD L i).text) ⟨(tkD L i).text, (tkD L i).place, [], []⟩ (i + 1)).2.2 = false then .inl (goP L (shapesOf (tkD L i).text) ⟨(tkD L i).text, (tkD L i).place, [], []⟩ (i + 1)).2.1
    else match itemsF f L (goP L (shapesOf (tkD L i).text) ⟨(tkD L i).text, (tkD L i).place, [], []⟩ (i + 1)).2.1 with
      | .inl e => .inl e
      | .inr r => .inr ((goP L (shapesOf (tkD L i).text) ⟨(tkD L i).text, (tkD L i).place, [], []⟩ (i + 1)).1 :: r)
end Go.Proofs.YtnbjpgdnfklanaaGreatDoor

namespace Go.Proofs.YtnbjpgdnfklanaaGreatDoor
open Go.RowKit
structure Iv where
  it : It
  vw : Value
  vt : Value
def Iv.cells (y : Iv) : List Value := [.string y.it.key, .int .i64 y.it.spot, y.vw, y.vt]
structure Iv.ok (W : World) (y : Iv) : Prop where
  words : Trs W y.vw y.it.words
  trees : Trs W y.vt y.it.trees
  len : y.it.key.size ≤ 9223372036854775807
theorem Iv.ok.below {w w' : World} {y : Iv} (h : y.ok w) (hb : Below w.heap.size w w') : y.ok w' := ⟨h.words.below hb, h.trees.below hb, h.len⟩
def rowIv (vs : List Iv) : List Value := vs.flatMap Iv.cells
structure IvAt (w : World) (b o : Nat) (y : Iv) : Prop where
  c0 : w.cell? ⟨b, o, none⟩ = some (.string y.it.key)
  c1 : w.cell? ⟨b, o + 1, none⟩ = some (.int .i64 y.it.spot)
  c2 : w.cell? ⟨b, o + 2, none⟩ = some y.vw
  c3 : w.cell? ⟨b, o + 3, none⟩ = some y.vt
theorem IvAt.below {w w' : World} {b o : Nat} {y : Iv} (h : IvAt w b o y) (hb : Below w.heap.size w w') : IvAt w' b o y := by
  have hlt := lt_of_cellR h.c0
  exact ⟨(hb.cell (p := ⟨b, o, none⟩) hlt).trans h.c0, (hb.cell (p := ⟨b, o + 1, none⟩) hlt).trans h.c1, (hb.cell (p := ⟨b, o + 2, none⟩) hlt).trans h.c2, (hb.cell (p := ⟨b, o + 3, none⟩) hlt).trans h.c3⟩
def Its (w : World) (v : Value) (xs : List It) : Prop := ∃ a c, v = .slice a xs.length c ∧ (xs.length ≤ 9223372036854775807 ∧ xs.length ≤ c) ∧ (xs = [] ∨ ∃ b o, a = some ⟨b, o, none⟩ ∧ b < w.heap.size ∧ ∀ (j : Nat) (h : j < xs.length), ∃ y : Iv, y.it = xs[j] ∧ y.ok w ∧ IvAt w b (o + j * 4) y)
theorem Its.none_ (w : World) (a : Option Addr) (c : Nat) : Its w (.slice a 0 c) [] := ⟨a, c, rfl, by simp, .inl rfl⟩
theorem Its.below {w w' : World} {v : Value} {xs : List It} (h : Its w v xs) (hb : Below w.heap.size w w') : Its w' v xs := by
  obtain ⟨a, c, hv, hl, h⟩ := h
  refine ⟨a, c, hv, hl, ?_⟩
  rcases h with h | ⟨b, o, ha, hlt, h⟩
  · exact .inl h
  · refine .inr ⟨b, o, ha, Nat.lt_of_lt_of_le hlt hb.size, fun j hj => ?_⟩
    obtain ⟨y, h1, h2, h3⟩ := h j hj
    exact ⟨y, h1, h2.below hb, h3.below hb⟩
def LiveIt (W : World) (g : Option Nat) (base : Nat) (y : Iv) : Prop := ∃ lo hi, base ≤ lo ∧ lo ≤ hi ∧ hi ≤ W.heap.size ∧ (∀ k, g = some k → k < lo ∨ hi ≤ k) ∧
  ∀ W', hi ≤ W'.heap.size → (∀ k, lo ≤ k → k < hi → W'.heap[k]? = W.heap[k]?) → y.ok W'
theorem LiveIt.ok {W : World} {g : Option Nat} {base : Nat} {y : Iv} (h : LiveIt W g base y) : y.ok W := by
  obtain ⟨lo, hi, _, _, h3, _, h5⟩ := h
  exact h5 W h3 fun _ _ _ => rfl
theorem LiveIt.keep {W W' : World} {g g' : Option Nat} {base : Nat} {y : Iv} (h : LiveIt W g base y) (hs : W.heap.size ≤ W'.heap.size) (hk : ∀ k, k < W.heap.size → some k ≠ g → W'.heap[k]? = W.heap[k]?) (hg : ∀ k, g' = some k → g = some k ∨ W.heap.size ≤ k) : LiveIt W' g' base y := by
  obtain ⟨lo, hi, h1, h2, h3, h4, h5⟩ := h
  refine ⟨lo, hi, h1, h2, Nat.le_trans h3 hs, fun k e => ?_, fun W2 g1 g2 => h5 W2 g1 fun k k1 k2 => ?_⟩
  · rcases hg k e with e | e
    · exact h4 k e
    · exact .inr (Nat.le_trans h3 e)
  · rw [g2 k k1 k2]
    refine hk k (Nat.lt_of_lt_of_le k2 h3) fun e => ?_
    rcases h4 k e.symm with e | e <;> omega
theorem LiveIt.below {W W' : World} {g : Option Nat} {base : Nat} {y : Iv} (h : LiveIt W g base y) (hb : Below W.heap.size W W') : LiveIt W' g base y := h.keep hb.size (fun k hk _ => hb.block k hk) fun _ e => .inl e
theorem LiveIt.grown {W W' : World} {g g' : Option Nat} {base : Nat} {y : Iv} (h : LiveIt W g base y) (hg : W.grownBy W' g) (hat : g' = g ∨ g' = some W.heap.size) : LiveIt W' g' base y := h.keep hg.size (fun k hk e => hg.block k hk e) fun k e => by
  rcases hat with e2 | e2
  · left; rw [← e2]; exact e
  · right; rw [e2] at e; injection e with e; omega
structure RowIt (W : World) (e : TypeId) (base : Nat) (v : Value) (xs : List It) : Prop where
  row : ∃ vs : List Iv, vs.map Iv.it = xs ∧ (∀ y ∈ vs, LiveIt W v.ownBlock base y) ∧ W.ownsRow base e 4 v xs.length (rowIv vs)
theorem RowIt.keep {W W' : World} {e : TypeId} {base : Nat} {v : Value} {xs : List It} (h : RowIt W e base v xs) (hs : W.heap.size ≤ W'.heap.size) (hk : ∀ k, k < W.heap.size → W'.heap[k]? = W.heap[k]?) : RowIt W' e base v xs := by
  obtain ⟨vs, h1, h2, h3⟩ := h
  exact ⟨vs, h1, fun x hx => (h2 x hx).keep hs (fun k q _ => hk k q) fun k e => .inl e, own_at h3 fun g q => hk g (own_row_lt h3 g q)⟩
theorem RowIt.below {W W' : World} {e : TypeId} {base : Nat} {v : Value} {xs : List It} (h : RowIt W e base v xs) (hb : Below W.heap.size W W') : RowIt W' e base v xs := h.keep hb.size fun k hk => hb.block k hk
end Go.Proofs.YtnbjpgdnfklanaaGreatDoor

namespace Go.Proofs.YtnbjpgdnfklanaaGreatDoor
open Go.RowKit
def itemsP (L : List Tok) (i : Nat) : Nat ⊕ List It := itemsF (L.length + 1) L i
def It.bare (x : It) : It := ⟨x.key, 0, bareL x.words, bareL x.trees⟩
mutual
theorem plainR_bare : ∀ t : Tr, plainR t.bare = plainR t
  | .mk k s n p xs => by rw [Tr.bare, plainR, plainR, plainRs_bare xs]
theorem plainRs_bare : ∀ l : List Tr, plainRs (bareL l) = plainRs l
  | [] => by rw [bareL]
  | t :: r => by rw [bareL, plainRs, plainRs, plainR_bare t, plainRs_bare r]
end
def parseS (s : ByteArray) : Int × Int × List It :=
  if s.size ≤ 8192 then (match scanS s with
    | .inl i => (2, (i : Int), [])
    | .inr ts => match itemsP ts 0 with
      | .inl j => (2, (tkD ts j).place, [])
      | .inr xs => (0, 0, xs))
  else (3, 0, [])
end Go.Proofs.YtnbjpgdnfklanaaGreatDoor

namespace Go.Proofs.YtnbjpgdnfklanaaGreatDoor
open Go.RowKit
end Go.Proofs.YtnbjpgdnfklanaaGreatDoor

namespace Go.Proofs.YtnbjpgdnfklanaaGreatDoor
open Go.RowKit
end Go.Proofs.YtnbjpgdnfklanaaGreatDoor

namespace Go.Proofs.YtnbjpgdnfklanaaGreatDoor
open Go.RowKit
abbrev Fn := ByteArray × Int
structure FnOk (f : Fn) : Prop where
  size : f.1.size ≤ 9223372036854775807
  lo : -9223372036854775808 ≤ f.2
  hi : f.2 ≤ 9223372036854775807
structure FnAt (w : World) (f : Fn) (b o : Nat) : Prop where
  ok : FnOk f
  c0 : w.cell? ⟨b, o, none⟩ = some (.string f.1)
  c1 : w.cell? ⟨b, o + 1, none⟩ = some (.int .i64 f.2)
def fnVal (f : Fn) : Value := .agg #[.string f.1, .int .i64 f.2]
def Fus (w : World) (v : Value) (fs : List Fn) : Prop := ∃ a c, v = .slice a fs.length c ∧ (fs.length ≤ 9223372036854775807 ∧ fs.length ≤ c) ∧ (fs = [] ∨ ∃ b o, a = some ⟨b, o, none⟩ ∧ b < w.heap.size ∧ ∀ (j : Nat) x, fs[j]? = some x → FnAt w x b (o + j * 2))
theorem FnAt.lt {w : World} {x : Fn} {b o : Nat} (h : FnAt w x b o) : b < w.heap.size := by
  have h := h.c0
  unfold World.cell? at h
  rcases Nat.lt_or_ge b w.heap.size with h' | h'
  · exact h'
  · simp [Array.getElem?_eq_none h'] at h
theorem FnAt.below {w w' : World} {x : Fn} {b o : Nat} (h : FnAt w x b o) (hb : Below w.heap.size w w') : FnAt w' x b o :=
  ⟨h.ok, (hb.cell (p := ⟨b, o, none⟩) h.lt).trans h.c0, (hb.cell (p := ⟨b, o + 1, none⟩) h.lt).trans h.c1⟩
theorem Fus.below {w w' : World} {v : Value} {fs : List Fn} (h : Fus w v fs) (hb : Below w.heap.size w w') : Fus w' v fs := by
  obtain ⟨a, c, hv, hl, h⟩ := h
  refine ⟨a, c, hv, hl, ?_⟩
  rcases h with h | ⟨b, o, ha, hlt, h⟩
  · exact .inl h
  · exact .inr ⟨b, o, ha, Nat.lt_of_lt_of_le hlt hb.size, fun j x hj => (h j x hj).below hb⟩
theorem Fus.none_ (w : World) (a : Option Addr) (c : Nat) : Fus w (.slice a 0 c) [] := ⟨a, c, rfl, by simp, .inl rfl⟩
theorem Fus.ok {w : World} {v : Value} {fs : List Fn} (h : Fus w v fs) : ∀ f ∈ fs, FnOk f := by
  intro f hf
  obtain ⟨j, hj, rfl⟩ := List.getElem_of_mem hf
  obtain ⟨a, c, _, _, rfl | ⟨b, o, _, _, hc⟩⟩ := h
  · simp at hj
  · exact (hc j _ (List.getElem?_eq_getElem hj)).ok
def rowFn (fs : List Fn) : List Value := fs.flatMap fun f => [.string f.1, .int .i64 f.2]
theorem rowFn_length (fs : List Fn) : (rowFn fs).length = fs.length * 2 := by
  unfold rowFn
  induction fs with
  | nil => rfl
  | cons v r ih => rw [List.flatMap_cons, List.length_append, ih, List.length_cons]; simp; omega
theorem rowFn_append (a b : List Fn) : rowFn (a ++ b) = rowFn a ++ rowFn b := by unfold rowFn; rw [List.flatMap_append]
theorem rowFn_one (f : Fn) : rowFn [f] = [.string f.1, .int .i64 f.2] := by unfold rowFn; simp
theorem rowFn_get : ∀ (fs : List Fn) (j : Nat) (h : j < fs.length) (i : Nat), i < 2 → (rowFn fs)[j * 2 + i]? = ([.string fs[j].1, .int .i64 fs[j].2] : List Value)[i]?
  | [], _, h, _, _ => by simp at h
  | v :: r, 0, _, i, hi => by
    unfold rowFn
    rw [List.flatMap_cons, List.getElem?_append_left (by simp; omega)]; simp
  | v :: r, j + 1, h, i, hi => by
    have := rowFn_get r j (by simpa using h) i hi
    unfold rowFn at this ⊢
    rw [List.flatMap_cons, List.getElem?_append_right (by simp; omega)]
    rw [show (j + 1) * 2 + i - ([.string v.1, .int .i64 v.2] : List Value).length = j * 2 + i from by simp; omega, this]
    simp
theorem rowFn_one' (fs : List Fn) : ∀ u ∈ rowFn fs, u.oneCell' = true := by
  intro u hu
  unfold rowFn at hu
  obtain ⟨v, _, hv⟩ := List.mem_flatMap.1 hu
  simp only [List.mem_cons, List.not_mem_nil, or_false] at hv
  rcases hv with rfl | rfl <;> rfl
def OwnFn (w : World) (base : Nat) (v : Value) (fs : List Fn) : Prop := (∀ f ∈ fs, FnOk f) ∧ w.ownsRow base 75 2 v fs.length (rowFn fs)
theorem OwnFn.fus {w : World} {base : Nat} {v : Value} {fs : List Fn} (h : OwnFn w base v fs) (hl : fs.length ≤ 9223372036854775807) : Fus w v fs := by
  obtain ⟨hok, hn, h⟩ := h
  rcases h with ⟨rfl, h0⟩ | ⟨g, cap, cur, rfl, _, hg, hcap, hmax, hsz, htake⟩
  · have : fs = [] := by simpa using h0
    subst this
    exact Fus.none_ _ _ _
  · refine ⟨_, cap, rfl, ⟨hl, hcap⟩, .inr ⟨g, 0, rfl, (Array.getElem?_eq_some_iff.1 hg).1, fun j x hj => ?_⟩⟩
    obtain ⟨hjv, rfl⟩ := List.getElem?_eq_some_iff.1 hj
    have cell : ∀ i, i < 2 → w.cell? ⟨g, 0 + j * 2 + i, none⟩ = ([.string fs[j].1, .int .i64 fs[j].2] : List Value)[i]? := by
      intro i hi
      rw [cell_of_row w g (0 + j * 2 + i) cur _ (0, 0) hg, ← rowFn_get fs j hjv i hi, ← htake, List.getElem?_take, if_pos (by omega), Nat.zero_add]
      simp
    exact ⟨hok _ (List.getElem_mem hjv), cell 0 (by omega), cell 1 (by omega)⟩
theorem OwnFn.below {w w' : World} {base : Nat} {v : Value} {fs : List Fn} (h : OwnFn w base v fs) (hb : Below w.heap.size w w') : OwnFn w' base v fs := ⟨h.1, own_below h.2 hb⟩
theorem funInfo : (Tryz.prog.info? 75).map (fun i => (i.zero, i.size, i.bytes)) = some (some (.agg #[.string ⟨#[]⟩, .int .i64 0]), 2, 24) := by kernel_rfl
theorem addr_add (b o j : Nat) : ((⟨b, o, none⟩ : Addr).add j) = ⟨b, o + j, none⟩ := by
  unfold Addr.add; split
  · next h => subst h; rfl
  · rfl
theorem Fus.news {w : World} {a : Option Addr} {n c : Nat} {fs : List Fn} (h : Fus w (.slice a n c) fs) : n = fs.length ∧ (a = none → n = 0) ∧ (rowFn fs).length = n * 2 ∧ (∀ W, Below w.heap.size w W → ∀ ad, a = some ad → ∀ j u, (rowFn fs)[j]? = some u → W.cell? (ad.add j) = some u) ∧ ∀ f ∈ fs, FnOk f := by
  have hok := h.ok
  obtain ⟨a', c', hv, hl, h⟩ := h
  cases hv
  refine ⟨rfl, ?_, rowFn_length fs, ?_, hok⟩
  · intro ha
    rcases h with rfl | ⟨b, o, hb, _⟩
    · rfl
    · rw [ha] at hb; cases hb
  · intro W hW ad ha j u hj
    rcases h with rfl | ⟨b, o, hb, hlt, h⟩
    · simp [rowFn] at hj
    · rw [ha] at hb
      cases hb
      have hjl := (List.getElem?_eq_some_iff.1 hj).1
      rw [rowFn_length] at hjl
      have hq : j / 2 < fs.length := by omega
      have hA := (h (j / 2) _ (List.getElem?_eq_getElem hq)).below hW
      have hr := rowFn_get fs (j / 2) hq (j % 2) (by omega)
      rw [show j / 2 * 2 + j % 2 = j from by omega, hj] at hr
      rw [addr_add]
      rcases Nat.mod_two_eq_zero_or_one j with e | e
      · rw [e] at hr
        rw [show o + j = o + j / 2 * 2 from by omega, hA.c0, hr]; rfl
      · rw [e] at hr
        rw [show o + j = o + j / 2 * 2 + 1 from by omega, hA.c1, hr]; rfl
def arF (fs : List Fn) (s : ByteArray) : Option Int := (fs.find? fun x => x.1.toList == s.toList).map Prod.snd
theorem arF_take {fs : List Fn} {s : ByteArray} {k : Nat} {x : Fn} (h : arF (fs.take k) s = none) (hk : fs[k]? = some x) : arF (fs.take (k + 1)) s = if (x.1.toList == s.toList) = true then some x.2 else none := by
  obtain ⟨hl, rfl⟩ := List.getElem?_eq_some_iff.1 hk
  unfold arF at h ⊢
  rw [Option.map_eq_none_iff] at h
  rw [List.take_succ_eq_append_getElem hl, List.find?_append, h, List.find?_cons]
  cases fs[k].1.toList == s.toList <;> rfl
theorem arF_some {fs : List Fn} {s : ByteArray} {k : Nat} {n : Int} (h : arF (fs.take k) s = some n) : arF fs s = some n := by
  unfold arF at h ⊢
  obtain ⟨x, hx, rfl⟩ := Option.map_eq_some_iff.1 h
  have e : fs.find? (fun x => x.1.toList == s.toList) = some x := by
    rw [← List.take_append_drop k fs, List.find?_append, hx]; rfl
  rw [e]; rfl
def arEnd (o : Option Int) : Ending := .returned (.tuple #[.int .i64 (o.getD 0), .bool o.isSome])
noncomputable def hasFn (fs : List Fn) (f : Fn) : Bool := @decide (f ∈ fs) (Classical.propDecidable _)
theorem toList_iff {s z : ByteArray} : (s.toList == z.toList) = true ↔ s = z := Lib.bytes_beq_iff ..
end Go.Proofs.YtnbjpgdnfklanaaGreatDoor
