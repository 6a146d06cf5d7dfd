/-
  Two rows of trees that grow beside each other: an item's words and its terms. No function of the program.
  Terms as they are shown are spelt out of the tokens that they were read of. No function of the program.
  Items read of tokens, and shown: there and back. No function of the program.
  Items in memory: a key, a place, two rows of trees; rows of items. A world cut off at a block. No function of the program.
-/
import Derived.Test.YtldgbdmiebipnaaGreatDoorZ04
import Derived.Test.YtldgbdmiebipnaaGreatDoorZ03
namespace Go.Proofs.YtldgbdmiebipnaaGreatDoor
open Go.RowKit

/-- A tree that lives on: its blocks lie from base on, and none of them is one of P. -/
def LiveA (W : World) (P : Nat → Prop) (base : Nat) (y : Rv) : Prop := ∃ lo hi, base ≤ lo ∧ lo ≤ hi ∧ hi ≤ W.heap.size ∧ (∀ k, P k → k < lo ∨ hi ≤ k) ∧
  ∀ W', hi ≤ W'.heap.size → (∀ k, lo ≤ k → k < hi → W'.heap[k]? = W.heap[k]?) → y.ok W'
theorem LiveA.ok {W : World} {P : Nat → Prop} {base : Nat} {y : Rv} (h : LiveA W P base y) : y.ok W := by
  obtain ⟨lo, hi, _, _, h3, _, h5⟩ := h
  exact h5 W h3 fun _ _ _ => rfl
theorem LiveA.keep {W W' : World} {P P' : Nat → Prop} {base : Nat} {y : Rv} (h : LiveA W P base y) (hs : W.heap.size ≤ W'.heap.size) (hk : ∀ k, k < W.heap.size → ¬ P k → W'.heap[k]? = W.heap[k]?) (hP : ∀ k, P' k → P k ∨ W.heap.size ≤ k) : LiveA W' P' base y := by
  obtain ⟨lo, hi, h1, h2, h3, h4, h5⟩ := h
  refine ⟨lo, hi, h1, h2, Nat.le_trans h3 hs, fun k e => ?_, fun W2 g1 g2 => h5 W2 g1 fun k k1 k2 => ?_⟩
  · rcases hP k e with e | e
    · exact h4 k e
    · exact .inr (Nat.le_trans h3 e)
  · rw [g2 k k1 k2]
    refine hk k (Nat.lt_of_lt_of_le k2 h3) fun e => ?_
    rcases h4 k e with e | e <;> omega
theorem LiveA.below {W W' : World} {P : Nat → Prop} {base : Nat} {y : Rv} (h : LiveA W P base y) (hb : Below W.heap.size W W') : LiveA W' P base y := h.keep hb.size (fun k hk _ => hb.block k hk) fun _ e => .inl e
/-- A tree without arguments lives anywhere. -/
theorem live_plain {k : Int} {s : ByteArray} {n p : Int} (h : FitR k s n p) (W : World) (P : Nat → Prop) {base : Nat} (hb : base ≤ W.heap.size) : LiveA W P base ⟨.mk k s n p [], none, 0⟩ :=
  ⟨base, base, Nat.le_refl _, Nat.le_refl _, hb, fun k _ => by omega, fun _ _ _ => ⟨h, by show (0 : Nat) ≤ _ ∧ (0 : Nat) ≤ 0; omega, .inl rfl⟩⟩
/-- What a call has made lives on. -/
theorem MadeR.liveA {w w' : World} {y : Rv} (h : MadeR w w' y) (hs : w.heap.size ≤ w'.heap.size) {P : Nat → Prop} {base : Nat} (hb : base ≤ w.heap.size) (hg : ∀ k, P k → k < w.heap.size) : LiveA w' P base y :=
  ⟨w.heap.size, w'.heap.size, hb, hs, Nat.le_refl _, fun k e => .inl (hg k e), h⟩
theorem LiveR.liveA {W : World} {g : Option Nat} {b0 base : Nat} {y : Rv} (h : LiveR W g b0 y) {P : Nat → Prop} (hb : base ≤ b0) (hg : ∀ k, P k → k < b0) : LiveA W P base y := by
  obtain ⟨lo, hi, h1, h2, h3, _, h5⟩ := h
  exact ⟨lo, hi, Nat.le_trans hb h1, h2, h3, fun k e => .inl (Nat.lt_of_lt_of_le (hg k e) h1), h5⟩
/-- The blocks of two rows. -/
def rowsP (vw vt : Value) (k : Nat) : Prop := vw.ownBlock = some k ∨ vt.ownBlock = some k
/-- The blocks of two rows, and Z. -/
def rowsZ (Z : Nat → Prop) (vw vt : Value) (k : Nat) : Prop := rowsP vw vt k ∨ Z k
/-- Two rows of trees, of a call's own; the trees live on beside Z, which is no part of them. -/
structure RowsI (W : World) (Z : Nat → Prop) (e : TypeId) (base : Nat) (vw : Value) (ws : List Tr) (vt : Value) (ts : List Tr) : Prop where
  wds : ∃ vs : List Rv, vs.map Rv.t = ws ∧ (∀ x ∈ vs, LiveA W (rowsZ Z vw vt) base x) ∧ W.ownsRow base e 5 vw ws.length (rowRv vs)
  trs : ∃ us : List Rv, us.map Rv.t = ts ∧ (∀ x ∈ us, LiveA W (rowsZ Z vw vt) base x) ∧ W.ownsRow base e 5 vt ts.length (rowRv us)
  apart : ∀ k, vw.ownBlock = some k → vt.ownBlock ≠ some k
  out : ∀ k, rowsP vw vt k → ¬ Z k
theorem rowsI_nil (W : World) (Z : Nat → Prop) (e : TypeId) (base : Nat) : RowsI W Z e base (.slice none 0 0) [] (.slice none 0 0) [] :=
  ⟨⟨[], rfl, (fun x hx => by cases hx), World.ownsRow_nil _ _ _ _⟩, ⟨[], rfl, (fun x hx => by cases hx), World.ownsRow_nil _ _ _ _⟩, (fun k h => by cases h), fun k h => by rcases h with h | h <;> cases h⟩
theorem rowsP_swap (vw vt : Value) : rowsP vt vw = rowsP vw vt := by funext k; unfold rowsP; rw [Or.comm]
theorem RowsI.swap {W : World} {Z : Nat → Prop} {e : TypeId} {base : Nat} {vw vt : Value} {ws ts : List Tr} (h : RowsI W Z e base vw ws vt ts) : RowsI W Z e base vt ts vw ws := by
  have hP : rowsZ Z vt vw = rowsZ Z vw vt := by funext k; unfold rowsZ; rw [rowsP_swap]
  refine ⟨?_, ?_, fun k h1 h2 => h.apart k h2 h1, ?_⟩
  · rw [hP]; exact h.trs
  · rw [hP]; exact h.wds
  · rw [rowsP_swap]; exact h.out
theorem RowsI.below {W W' : World} {Z : Nat → Prop} {e : TypeId} {base : Nat} {vw vt : Value} {ws ts : List Tr} (h : RowsI W Z e base vw ws vt ts) (hb : Below W.heap.size W W') : RowsI W' Z e base vw ws vt ts := by
  obtain ⟨⟨vs, h1, h2, h3⟩, ⟨us, k1, k2, k3⟩, ha, ho⟩ := h
  exact ⟨⟨vs, h1, fun x hx => (h2 x hx).below hb, own_below h3 hb⟩, ⟨us, k1, fun x hx => (k2 x hx).below hb, own_below k3 hb⟩, ha, ho⟩
/-- The blocks of the rows are there. -/
theorem RowsI.lt {W : World} {Z : Nat → Prop} {e : TypeId} {base : Nat} {vw vt : Value} {ws ts : List Tr} (h : RowsI W Z e base vw ws vt ts) : ∀ k, rowsP vw vt k → base ≤ k ∧ k < W.heap.size := by
  obtain ⟨⟨vs, _, _, h3⟩, ⟨us, _, _, k3⟩, _, _⟩ := h
  intro k hk
  rcases hk with hk | hk
  · exact ⟨own_row_ge h3 k hk, own_row_lt h3 k hk⟩
  · exact ⟨own_row_ge k3 k hk, own_row_lt k3 k hk⟩
/-- Beside other blocks, that are less or new. -/
theorem RowsI.beside {W : World} {Z Z' : Nat → Prop} {e : TypeId} {base : Nat} {vw vt : Value} {ws ts : List Tr} (h : RowsI W Z e base vw ws vt ts) (hZ : ∀ k, Z' k → Z k ∨ W.heap.size ≤ k) : RowsI W Z' e base vw ws vt ts := by
  have hlt := h.lt
  obtain ⟨⟨vs, h1, h2, h3⟩, ⟨us, k1, k2, k3⟩, ha, ho⟩ := h
  have hK : ∀ x : Rv, LiveA W (rowsZ Z vw vt) base x → LiveA W (rowsZ Z' vw vt) base x := fun x hx => hx.keep (Nat.le_refl _) (fun _ _ _ => rfl) fun k e => by
    rcases e with e | e
    · exact .inl (.inl e)
    · rcases hZ k e with q | q
      · exact .inl (.inr q)
      · exact .inr q
  refine ⟨⟨vs, h1, fun x hx => hK x (h2 x hx), h3⟩, ⟨us, k1, fun x hx => hK x (k2 x hx), k3⟩, ha, fun k e z => ?_⟩
  rcases hZ k z with q | q
  · exact ho k e q
  · have := (hlt k e).2; omega
/-- A store into one of the blocks beside. -/
theorem RowsI.aside {W W' : World} {Z : Nat → Prop} {e : TypeId} {base : Nat} {vw vt : Value} {ws ts : List Tr} (h : RowsI W Z e base vw ws vt ts) (hs : W.heap.size ≤ W'.heap.size) (hk : ∀ k, ¬ Z k → W'.heap[k]? = W.heap[k]?) : RowsI W' Z e base vw ws vt ts := by
  obtain ⟨⟨vs, h1, h2, h3⟩, ⟨us, k1, k2, k3⟩, ha, ho⟩ := h
  have hK : ∀ x : Rv, LiveA W (rowsZ Z vw vt) base x → LiveA W' (rowsZ Z vw vt) base x := fun x hx => hx.keep hs (fun k _ q => hk k fun z => q (.inr z)) fun k e => .inl e
  exact ⟨⟨vs, h1, fun x hx => hK x (h2 x hx), own_at h3 fun g q => hk g (ho g (.inl q))⟩, ⟨us, k1, fun x hx => hK x (k2 x hx), own_at k3 fun g q => hk g (ho g (.inr q))⟩, ha, ho⟩
/-- More terms, in the row of terms. -/
theorem RowsI.more {W W' : World} {Z : Nat → Prop} {e : TypeId} {base : Nat} {vw vt vt' : Value} {ws ts : List Tr} {us news : List Rv} {n : Nat} (h : RowsI W Z e base vw ws vt ts) (h1 : us.map Rv.t = ts) (h2 : ∀ x ∈ us, LiveA W (rowsZ Z vw vt) base x)
    (hy : ∀ x ∈ news, LiveA W (rowsZ Z vw vt) base x) (hn : ts.length + news.length = n) (hown : W'.ownsRow base e 5 vt' n (rowRv us ++ rowRv news)) (hg : W.grownBy W' vt.ownBlock) (hat : vt'.ownBlock = vt.ownBlock ∨ vt'.ownBlock = some W.heap.size) (hZ : ∀ k, Z k → k < W.heap.size) :
    RowsI W' Z e base vw ws vt' (ts ++ news.map Rv.t) := by
  have hlt := h.lt
  obtain ⟨⟨vs, w1, w2, w3⟩, _, ha, ho⟩ := h
  have hP : ∀ k, rowsZ Z vw vt' k → rowsZ Z vw vt k ∨ W.heap.size ≤ k := fun k e => by
    rcases e with (e | e) | e
    · exact .inl (.inl (.inl e))
    · rcases hat with e2 | e2
      · exact .inl (.inl (.inr (by rw [← e2]; exact e)))
      · rw [e2] at e; injection e with e; exact .inr (by omega)
    · exact .inl (.inr e)
  have hK : ∀ x : Rv, LiveA W (rowsZ Z vw vt) base x → LiveA W' (rowsZ Z vw vt') base x := fun x hx => hx.keep hg.size (fun k hk e => hg.block k hk fun q => e (.inl (.inr q.symm))) hP
  refine ⟨⟨vs, w1, fun x hx => hK x (w2 x hx), ?_⟩, ⟨us ++ news, by rw [List.map_append, h1], fun x hx => ?_, ?_⟩, fun k e1 e2 => ?_, fun k e z => ?_⟩
  · exact own_at w3 fun g e => hg.block g (hlt g (.inl e)).2 fun q => ha g e q.symm
  · rcases List.mem_append.1 hx with hx | hx
    · exact hK x (h2 x hx)
    · exact hK x (hy x hx)
  · rw [List.length_append, List.length_map, rowRv_append, hn]; exact hown
  · rcases hat with q | q
    · exact ha k e1 (by rw [← q]; exact e2)
    · rw [q] at e2; injection e2 with e2; have := (hlt k (.inl e1)).2; omega
  · rcases e with e | e
    · exact ho k (.inl e) z
    · rcases hat with q | q
      · exact ho k (.inr (by rw [← q]; exact e)) z
      · rw [q] at e; injection e with e; have := hZ k z; omega
/-- An item whose rows are its own reads so wherever its blocks stand. -/
theorem RowsI.made {W : World} {Z : Nat → Prop} {e : TypeId} {base : Nat} {vw vt : Value} {ws ts : List Tr} (h : RowsI W Z e base vw ws vt ts) (hl1 : ws.length ≤ 9223372036854775807) (hl2 : ts.length ≤ 9223372036854775807) (W' : World) (g1 : W.heap.size ≤ W'.heap.size) (g2 : ∀ k, base ≤ k → k < W.heap.size → W'.heap[k]? = W.heap[k]?) : Trs W' vw ws ∧ Trs W' vt ts := by
  have hlt := h.lt
  obtain ⟨⟨vs, w1, w2, w3⟩, ⟨us, k1, k2, k3⟩, ha, _⟩ := h
  have hK : ∀ x : Rv, LiveA W (rowsZ Z vw vt) base x → x.ok W' := fun x hx => by
    obtain ⟨lo, hi, q1, _, q3, _, q5⟩ := hx
    exact q5 W' (Nat.le_trans q3 g1) fun k j1 j2 => g2 k (by omega) (by omega)
  constructor
  · exact OwnRv.trs (w0 := W') (e := e) (base := base) ⟨vs, w1, fun x hx => hK x (w2 x hx), own_at w3 fun g q => g2 g (hlt g (.inl q)).1 (hlt g (.inl q)).2⟩ (fun x h => h) hl1
  · exact OwnRv.trs (w0 := W') (e := e) (base := base) ⟨us, k1, fun x hx => hK x (k2 x hx), own_at k3 fun g q => g2 g (hlt g (.inr q)).1 (hlt g (.inr q)).2⟩ (fun x h => h) hl2
/-- A row of the call's own is a slice. -/
theorem own_slice {w : World} {base : Nat} {e : TypeId} {size : Nat} {v : Value} {n : Nat} {xs : List Value} (h : w.ownsRow base e size v n xs) : ∃ a c, v = .slice a n c := by
  obtain ⟨_, ⟨rfl, rfl⟩ | ⟨g, cap, cur, rfl, _⟩⟩ := h
  · exact ⟨none, 0, rfl⟩
  · exact ⟨_, _, rfl⟩
end Go.Proofs.YtldgbdmiebipnaaGreatDoor

namespace Go.Proofs.YtldgbdmiebipnaaGreatDoor
open Go.RowKit

mutual
/-- A tree as a term. -/
def plainR : Tr → Tm
  | .mk k s n _ xs => .mk k (if k = 1 ∨ k = 5 then s else ⟨#[]⟩) (if k = 3 ∨ k = 4 then n else 0) (plainRs xs)
def plainRs : List Tr → List Tm
  | [] => []
  | t :: r => plainR t :: plainRs r
end
theorem plainRs_map (l : List Tr) : plainRs l = l.map plainR := by
  induction l with
  | nil => rw [plainRs]; rfl
  | cons t r ih => rw [plainRs, ih]; rfl
/-- A tree as a text. -/
def shR (t : Tr) : List UInt8 := showT (plainR t)

/-- The tokens from i to n. -/
def seg (L : List Tok) (i n : Nat) : List Tok := (L.drop i).take (n - i)
theorem seg_one {L : List Tok} {i : Nat} (h : i < L.length) : seg L i (i + 1) = [tkD L i] := by
  unfold seg
  rw [List.drop_eq_getElem_cons h, show i + 1 - i = 1 from by omega, List.take_succ_cons, List.take_zero, tkD_at h]
theorem seg_cat (L : List Tok) {i m n : Nat} (h1 : i ≤ m) (h2 : m ≤ n) : seg L i n = seg L i m ++ seg L m n := by
  unfold seg
  rw [show n - i = (m - i) + (n - m) from by omega, List.take_add, List.drop_drop, show i + (m - i) = m from by omega]
theorem seg_end (L : List Tok) (i : Nat) : seg L i i = [] := by unfold seg; rw [Nat.sub_self]; exact List.take_zero ..

/-- What stands between: nothing, or one blank. -/
def Gap (g : List UInt8) : Prop := Blank g ∧ g.length ≤ 1
/-- A text is spelt out of tokens; where 'strong', whatever stands ahead of it. -/
def Spelt (strong : Prop) (s : List UInt8) (ts : List Tok) : Prop := ∃ ps : List Piece, ps.map Prod.snd = ts ∧ spell ps = s ∧ (∀ p ∈ ps, Gap p.1) ∧ Fits2 true ps ∧ (strong → Fits2 false ps)
theorem Spelt.weak {P Q : Prop} {s : List UInt8} {ts : List Tok} (h : Spelt P s ts) (k : Q → P) : Spelt Q s ts := by
  obtain ⟨ps, h1, h2, h3, h4, h5⟩ := h
  exact ⟨ps, h1, h2, h3, h4, fun q => h5 (k q)⟩
def lastAny (any : Bool) (ps : List Piece) : Bool := match ps.getLast? with | none => any | some p => p.2.kind == 6
theorem fits2_append : ∀ (A B : List Piece) (any : Bool), Fits2 any (A ++ B) ↔ Fits2 any A ∧ Fits2 (lastAny any A) B
  | [], B, any => by simp [Fits2, lastAny]
  | p :: r, B, any => by
    rw [List.cons_append, Fits2, Fits2, fits2_append r B]
    have : lastAny any (p :: r) = lastAny (p.2.kind == 6) r := by
      unfold lastAny
      cases r with
      | nil => rfl
      | cons q r => rw [List.getLast?_cons_cons]; cases h : (q :: r).getLast? with
        | none => simp at h
        | some x => rfl
    rw [this, and_assoc]
theorem fits2_up {ps : List Piece} : Fits2 false ps → ∀ any, Fits2 any ps
  | h, false => h
  | h, true => by
    cases ps with
    | nil => trivial
    | cons p r => exact ⟨.inl rfl, h.2⟩
/-- A row of tokens ends with a sign. -/
def EndsSign (ts : List Tok) : Prop := ∃ t, ts.getLast? = some t ∧ t.kind = 6
theorem Spelt.cat {A B : Prop} {s s' : List UInt8} {ts ts' : List Tok} (h : Spelt A s ts) (h' : Spelt B s' ts') (hn : ts ≠ []) (hb : B ∨ EndsSign ts) : Spelt A (s ++ s') (ts ++ ts') := by
  obtain ⟨ps, h1, h2, h3, h4, h5⟩ := h
  obtain ⟨qs, k1, k2, k3, k4, k5⟩ := h'
  have hne : ps ≠ [] := fun e => hn (by rw [← h1, e]; rfl)
  have hq : ∀ any, Fits2 (lastAny any ps) qs := fun any => by
    rcases hb with hb | ⟨t, ht, hk⟩
    · exact fits2_up (k5 hb) _
    · have : lastAny any ps = true := by
        unfold lastAny
        rw [← h1, List.getLast?_map] at ht
        obtain ⟨p, hp, rfl⟩ := Option.map_eq_some_iff.1 ht
        rw [hp]
        show (p.2.kind == 6) = true
        rw [beq_iff_eq]; exact hk
      rw [this]; exact k4
  refine ⟨ps ++ qs, by rw [List.map_append, h1, k1], by rw [spell_append, h2, k2], fun p hp => ?_, (fits2_append _ _ _).2 ⟨h4, hq true⟩, fun a => (fits2_append _ _ _).2 ⟨h5 a, hq false⟩⟩
  rcases List.mem_append.1 hp with hp | hp
  · exact h3 p hp
  · exact k3 p hp
theorem spelt_one (g : List UInt8) (hg : Gap g) (t : Tok) : Spelt (g ≠ [] ∨ pc (t.text.data.toList.headD 0) = false) (g ++ t.text.data.toList) [t] :=
  ⟨[(g, t)], rfl, by unfold spell; simp, (fun p hp => by rw [List.mem_singleton.1 hp]; exact hg), ⟨.inl rfl, trivial⟩, fun h => ⟨.inr h, trivial⟩⟩
theorem endsSign_one {t : Tok} (h : t.kind = 6) : EndsSign [t] := ⟨t, rfl, h⟩
theorem endsSign_cat {a b : List Tok} (h : EndsSign b) : EndsSign (a ++ b) := by
  obtain ⟨t, h1, h2⟩ := h
  refine ⟨t, ?_, h2⟩
  rw [List.getLast?_append, h1]; rfl
/-- A sign may stand behind anything. -/
theorem spelt_sign {t : Tok} {s : ByteArray} (h : isS t s = true) (hp : pc (s.data.toList.headD 0) = false) : Spelt True s.data.toList [t] := by
  have := spelt_one [] ⟨fun b hb => (by cases hb), Nat.zero_le _⟩ t
  rw [sgn_text h, List.nil_append] at this
  exact this.weak fun _ => .inr hp

/-! The texts of handles and of fresh constants. -/
theorem numCut_is {k : Int} {r : List UInt8} {least : Int} {n : Int} {len : Nat} {kind : Int} (h : numCut k (r.takeWhile pc) least (1 + (r.takeWhile pc).length) = some ⟨kind, n, len⟩) (hl : len = 1 + r.length) : r = Lib.itoa n := by
  unfold numCut at h
  split at h
  · next hn =>
    injection h with h
    injection h with _ h2 h3
    have htw : r.takeWhile pc = r := by
      refine (List.takeWhile_prefix pc).eq_of_length ?_
      omega
    rw [htw] at hn h2
    obtain ⟨m, hm⟩ := Option.isSome_iff_exists.1 (show (numOf r).isSome = true from hn.1)
    obtain ⟨_, hd⟩ := numOf_some hm
    have : n = (m : Int) := by rw [← h2]; unfold numVal; rw [hm]; rfl
    rw [this, Lib.itoa_nonneg, hd]
  · cases h
theorem sound_num {t : Tok} (h : Sound t) : (t.kind = 4 → t.text.data.toList = 36 :: Lib.itoa t.n) ∧ (t.kind = 5 → t.text.data.toList = 37 :: Lib.itoa t.n) := by
  have htok := h.tok [] (.inr noPart_nil)
  rw [List.append_nil] at htok
  have hlen : t.text.data.toList.length = t.text.size := by simp
  have hpos := h.pos
  cases hx : t.text.data.toList with
  | nil => rw [hx] at hlen; simp at hlen; omega
  | cons b r =>
    rw [hx] at htok hlen
    rw [List.length_cons] at hlen
    have hb : head (b :: r) = (b.toNat : Int) := rfl
    have hbyte : ∀ m : Nat, (b.toNat : Int) = (m : Int) → m < 256 → b = UInt8.ofNat m := fun m e hm => by
      apply UInt8.toNat_inj.1
      rw [UInt8.toNat_ofNat']
      omega
    by_cases h36 : head (b :: r) = 36
    · rw [tokL_36 h36, List.tail_cons] at htok
      have hk := numCut_kind htok
      simp only at hk
      refine ⟨fun _ => ?_, (fun e => by rw [e] at hk; cases hk)⟩
      rw [numCut_is htok (by omega), hbyte 36 (by rw [← hb]; exact h36) (by omega)]
      rfl
    · by_cases h37 : head (b :: r) = 37
      · rw [tokL_37 h37, List.tail_cons] at htok
        have hk := numCut_kind htok
        simp only at hk
        refine ⟨(fun e => by rw [e] at hk; cases hk), fun _ => ?_⟩
        rw [numCut_is htok (by omega), hbyte 37 (by rw [← hb]; exact h37) (by omega)]
        rfl
      · have hbd := cls_bd (head (b :: r))
        have hk : t.kind ≠ 4 ∧ t.kind ≠ 5 := by
          rcases (show cls (head (b :: r)) = 4 ∨ cls (head (b :: r)) = 3 ∨ (cls (head (b :: r)) = 1 ∨ cls (head (b :: r)) = 2) ∨ (cls (head (b :: r)) = 0 ∨ cls (head (b :: r)) = 5) from by omega) with h4 | h3 | h12 | h05
          · rw [tokL_sign h36 h37 h4] at htok
            injection htok with htok
            injection htok with hk _ _
            omega
          · rw [tokL_digit h3] at htok
            have hk := numCut_kind htok
            simp only at hk
            omega
          · rw [tokL_word h12] at htok
            unfold wordCut at htok
            split at htok
            · injection htok with htok
              injection htok with hk _ _
              omega
            · split at htok
              · injection htok with htok
                injection htok with hk _ _
                omega
              · cases htok
          · rw [tokL_none h05] at htok; cases htok
        exact ⟨fun e => absurd e hk.1, fun e => absurd e hk.2⟩

/-! Terms. -/
/-- All tokens but ends are sound. -/
def AllSound (L : List Tok) : Prop := ∀ i, (tkD L i).kind ≠ 0 → Sound (tkD L i)
/-- Trees one behind the other: what stands ahead of the first, and what between. -/
def sepS (g : List UInt8) (sg : List UInt8) : List Tr → List UInt8
  | [] => []
  | [t] => g ++ shR t
  | t :: u :: r => g ++ shR t ++ (sg ++ sepS [32] sg (u :: r))
theorem sepS_cons (g sg : List UInt8) (t : Tr) {r : List Tr} (h : r ≠ []) : sepS g sg (t :: r) = g ++ shR t ++ (sg ++ sepS [32] sg r) := by
  cases r with
  | nil => exact absurd rfl h
  | cons u r => rw [sepS]
theorem sepS_join (sg : List UInt8) : ∀ (ts : List Tr) (g : List UInt8), ts ≠ [] → sepS g sg ts = g ++ Lib.join (ts.map shR) (sg ++ [32])
  | [], _, h => absurd rfl h
  | [t], g, _ => by rw [sepS, List.map_cons, List.map_nil, Lib.join_one]
  | t :: u :: r, g, _ => by
    rw [sepS, sepS_join sg (u :: r) [32] (by simp), List.map_cons, List.map_cons, Lib.join_cons, Lib.join_cons]
    simp [Lib.joinTail]
theorem shR_args {s : ByteArray} {n p : Int} {xs : List Tr} (h : xs ≠ []) : shR (.mk 5 s n p xs) = s.data.toList ++ (40 :: (sepS [] [44] xs ++ [41])) := by
  unfold shR
  rw [plainR, if_pos (show (5 : Int) = 1 ∨ (5 : Int) = 5 from .inr rfl), showT, if_neg (by decide), if_neg (by decide), if_neg (by decide), if_neg (by decide)]
  have he : (showsL (plainRs xs)).isEmpty = false := by
    rw [showsL_empty, plainRs_map]; cases xs with
    | nil => exact absurd rfl h
    | cons t r => rfl
  have hm : showsL (plainRs xs) = xs.map shR := by rw [showsL_map, plainRs_map, List.map_map]; rfl
  unfold pre close
  rw [if_neg (by rw [he]; simp), if_neg (by rw [he]; simp), hm, sepS_join [44] xs [] h]
  simp
theorem shR_const (s : ByteArray) (n p : Int) : shR (.mk 5 s n p []) = s.data.toList := by
  unfold shR
  rw [plainR, showT, plainRs, showsL, if_neg (by decide), if_neg (by decide), if_neg (by decide), if_neg (by decide)]
  simp [pre, close]
theorem shR_leaf {t : Tok} (hs : Sound t) (h : leafK t ≠ 0) : shR (.mk (leafK t) t.text t.n t.place []) = t.text.data.toList := by
  unfold shR
  unfold leafK at h ⊢
  by_cases h2 : t.kind = 2
  · rw [if_pos h2, plainR, showT]; simp
  · rw [if_neg h2] at h ⊢
    by_cases h4 : t.kind = 4
    · rw [if_pos h4, plainR, showT, (sound_num hs).1 h4]; simp
    · rw [if_neg h4] at h ⊢
      by_cases h5 : t.kind = 5
      · rw [if_pos h5, plainR, showT, (sound_num hs).2 h5]; simp
      · rw [if_neg h5] at h; exact absurd rfl h
theorem pc_signs : pc 40 = false ∧ pc 41 = false ∧ pc 44 = false ∧ pc 59 = false ∧ pc 46 = false ∧ pc 47 = false ∧ pc 58 = false ∧ pc 61 = false := by decide
theorem blank_one : Gap [32] := ⟨fun b hb => (by rw [List.mem_singleton.1 hb]; decide), Nat.le_refl _⟩
theorem blank_nil : Gap [] := ⟨fun b hb => (by cases hb), Nat.zero_le _⟩
theorem blank_line : Gap [10] := ⟨fun b hb => (by rw [List.mem_singleton.1 hb]; decide), Nat.le_refl _⟩
theorem seg_ne {L : List Tok} {i n : Nat} (h : i < n) (hi : i < L.length) : seg L i n ≠ [] := by
  rw [seg_cat L (Nat.le_succ i) h, seg_one hi]; simp
/-- What is read of tokens is shown as them. -/
theorem termF_spelt {L : List Tok} (hE : Ended L) (hS : AllSound L) : ∀ (f : Nat),
    (∀ i op (g : List UInt8), i < L.length → Gap g → (termF f L i op).2.2 = true → Spelt (g ≠ []) (g ++ shR (termF f L i op).1) (seg L i (termF f L i op).2.1)) ∧
    ∀ i (sg : ByteArray) op (g : List UInt8), i < L.length → Gap g → pc (sg.data.toList.headD 0) = false → (termsF f L i sg op).2.2 = true → (termsF f L i sg op).1 ≠ [] ∧ Spelt (g ≠ []) (sepS g sg.data.toList (termsF f L i sg op).1) (seg L i (termsF f L i sg op).2.1)
  | 0 => ⟨(fun i op g _ _ h => by rw [termF] at h; cases h), (fun i sg op g _ _ _ h => by rw [termsF] at h; cases h)⟩
  | f + 1 => by
    obtain ⟨h1, h2⟩ := termF_spelt hE hS f
    refine ⟨fun i op g hi hg hok => ?_, fun i sg op g hi hg hp hok => ?_⟩
    · rw [termF] at hok ⊢
      by_cases hl : leafK (tkD L i) ≠ 0
      · rw [if_pos hl]
        show Spelt _ (g ++ shR _) (seg L i (i + 1))
        rw [shR_leaf (hS i (leafK_kind hl)) hl, seg_one hi]
        exact (spelt_one g hg _).weak .inl
      · rw [if_neg hl] at hok ⊢
        by_cases hw : wordK (tkD L i) = false
        · rw [if_pos hw] at hok; cases hok
        · rw [if_neg hw] at hok ⊢
          by_cases ho : isS (tkD L (i + 1)) sOpen = false
          · rw [if_pos ho]
            show Spelt _ (g ++ shR _) (seg L i (i + 1))
            rw [shR_const, seg_one hi]
            exact (spelt_one g hg _).weak .inl
          · rw [if_neg ho] at hok ⊢
            have ho' : isS (tkD L (i + 1)) sOpen = true := by simpa using ho
            have hi1 := isS_in ho'
            have hi2 := hE (i + 1) (by rw [sgn_kind ho']; decide)
            by_cases hd : 40 ≤ op
            · rw [if_pos hd] at hok; cases hok
            · rw [if_neg hd] at hok ⊢
              by_cases hc : (termsF f L (i + 2) sComma (op + 1)).2.2 = false ∨ isS (tkD L (termsF f L (i + 2) sComma (op + 1)).2.1) sClose = false
              · rw [if_pos hc] at hok; cases hok
              · rw [if_neg hc]
                rw [not_or] at hc
                have hok2 : (termsF f L (i + 2) sComma (op + 1)).2.2 = true := by simpa using hc.1
                have hcl : isS (tkD L (termsF f L (i + 2) sComma (op + 1)).2.1) sClose = true := by simpa using hc.2
                have hle := ((termF_le f L).2 (i + 2) sComma (op + 1)).2 hok2
                obtain ⟨hne, hsp⟩ := h2 (i + 2) sComma (op + 1) [] hi2 blank_nil pc_signs.2.2.1 hok2
                generalize (termsF f L (i + 2) sComma (op + 1)).1 = xs at *
                generalize (termsF f L (i + 2) sComma (op + 1)).2.1 = m at *
                have him := isS_in hcl
                show Spelt _ (g ++ shR _) (seg L i (m + 1))
                rw [shR_args hne]
                have e1 : g ++ ((tkD L i).text.data.toList ++ (40 :: (sepS [] [44] xs ++ [41]))) = (g ++ (tkD L i).text.data.toList) ++ (sOpen.data.toList ++ (sepS [] [44] xs ++ sClose.data.toList)) := by
                  simp [sOpen, sClose]
                rw [e1, seg_cat L (show i ≤ i + 1 by omega) (show i + 1 ≤ m + 1 by omega), seg_cat L (show i + 1 ≤ i + 2 by omega) (show i + 2 ≤ m + 1 by omega), seg_cat L (show i + 2 ≤ m by omega) (show m ≤ m + 1 by omega), seg_one hi, seg_one hi1, seg_one him]
                have c1 := (spelt_one g hg (tkD L i)).weak (Q := g ≠ []) .inl
                have c2 := spelt_sign ho' pc_signs.1
                have c4 := spelt_sign hcl pc_signs.2.1
                have c34 := hsp.cat c4 (seg_ne hle hi2) (.inl trivial)
                have c234 := c2.cat c34 (by simp) (.inr (endsSign_one (sgn_kind ho')))
                exact c1.cat c234 (by simp) (.inl trivial)
    · rw [termsF] at hok ⊢
      by_cases hk : (termF f L i op).2.2 = false
      · rw [if_pos hk] at hok; cases hok
      · rw [if_neg hk] at hok ⊢
        have hk' : (termF f L i op).2.2 = true := by simpa using hk
        have hsp := h1 i op g hi hg hk'
        have hlt := ((termF_le f L).1 i op).2 hk'
        by_cases hs : isS (tkD L (termF f L i op).2.1) sg = false
        · rw [if_pos hs]
          refine ⟨by simp, ?_⟩
          show Spelt _ (sepS g sg.data.toList [_]) _
          rw [sepS]; exact hsp
        · rw [if_neg hs] at hok ⊢
          have hs' : isS (tkD L (termF f L i op).2.1) sg = true := by simpa using hs
          have hin := isS_in hs'
          have hin2 := hE _ (by rw [sgn_kind hs']; decide)
          obtain ⟨hne, hsp2⟩ := h2 ((termF f L i op).2.1 + 1) sg op [32] hin2 blank_one hp hok
          have hle2 := ((termF_le f L).2 ((termF f L i op).2.1 + 1) sg op).2 hok
          generalize termsF f L ((termF f L i op).2.1 + 1) sg op = R at *
          generalize termF f L i op = T at *
          refine ⟨by simp, ?_⟩
          show Spelt _ (sepS g sg.data.toList (T.1 :: R.1)) (seg L i R.2.1)
          rw [sepS_cons _ _ _ hne, seg_cat L (show i ≤ T.2.1 by omega) (show T.2.1 ≤ R.2.1 by omega), seg_cat L (show T.2.1 ≤ T.2.1 + 1 by omega) (show T.2.1 + 1 ≤ R.2.1 by omega), seg_one hin]
          have c2 := spelt_sign hs' hp
          have c23 := c2.cat hsp2 (by simp) (.inl (by simp))
          exact hsp.cat c23 (seg_ne hlt hi) (.inl trivial)
end Go.Proofs.YtldgbdmiebipnaaGreatDoor

namespace Go.Proofs.YtldgbdmiebipnaaGreatDoor
open Go.RowKit

/-- A declaration, or a query. -/
structure It where
  key : ByteArray
  spot : Int
  words : List Tr
  trees : List Tr
/-- What stands behind a key. -/
def shapesOf (k : ByteArray) : List UInt8 :=
  if (k.toList == (⟨#[102, 117, 110]⟩ : ByteArray).toList) = true then [119, 47, 110, 46]
  else if (k.toList == (⟨#[110, 97, 109, 101]⟩ : ByteArray).toList) = true ∨ (k.toList == (⟨#[117, 115, 101]⟩ : ByteArray).toList) = true then [119, 46]
  else if (k.toList == (⟨#[114, 117, 108, 101]⟩ : ByteArray).toList) = true then [116, 61, 116, 46]
  else if (k.toList == (⟨#[102, 114, 97, 109, 101]⟩ : ByteArray).toList) = true then [119, 58, 108, 46]
  else if (k.toList == (⟨#[100, 101, 100, 117, 99, 101]⟩ : ByteArray).toList) = true then [119, 116, 46]
  else if (k.toList == (⟨#[101, 113, 117, 105, 118]⟩ : ByteArray).toList) = true then [119, 119, 46]
  else [116, 46]
/-- What a letter stands for, at a token. -/
def oneP (x : It) (L : List Tok) (i : Nat) (c : UInt8) : It × Nat × Bool :=
  if c = 119 then (if wordK (tkD L i) = true then ({ x with words := x.words ++ [.mk 5 (tkD L i).text 0 (tkD L i).place []] }, i + 1, true) else (x, i, false))
  else if c = 110 then (if (tkD L i).kind = 3 then ({ x with words := x.words ++ [.mk 0 (tkD L i).text (tkD L i).n (tkD L i).place []] }, i + 1, true) else (x, i, false))
  else if c = 116 then (if (termP L i 0).2.2 = true then ({ x with trees := x.trees ++ [(termP L i 0).1] }, (termP L i 0).2.1, true) else (x, (termP L i 0).2.1, false))
  else if c = 108 then (if isS (tkD L i) sDot = true then (x, i, true) else ({ x with trees := x.trees ++ (termsP L i sSemi 0).1 }, (termsP L i sSemi 0).2.1, (termsP L i sSemi 0).2.2))
  else (if isS (tkD L i) ⟨#[c]⟩ = true then (x, i + 1, true) else (x, i, false))
/-- What a shape stands for. -/
def goP (L : List Tok) : List UInt8 → It → Nat → It × Nat × Bool
  | [], x, i => (x, i, true)
  | c :: r, x, i => if (oneP x L i c).2.2 = false then (x, (oneP x L i c).2.1, false) else goP L r (oneP x L i c).1 (oneP x L i c).2.1
/-- The items from a token on, or the token where they break off. -/
def itemsF : Nat → List Tok → Nat → Nat ⊕ List It
  | 0, _, i => .inl i
  | f + 1, L, i =>
    if (tkD L i).kind = 0 then .inr []
    else if (tkD L i).kind ≠ 1 ∨ wordK (tkD L i) = true then .inl i
    else if (goP L (shapesOf (tkD L i).text) ⟨(tkD L i).text, (tkD L i).place, [], []⟩ (i + 1)).2.2 = false then .inl (goP L (shapesOf (tkD L i).text) ⟨(tkD L i).text, (tkD L i).place, [], []⟩ (i + 1)).2.1
    else match itemsF f L (goP L (shapesOf (tkD L i).text) ⟨(tkD L i).text, (tkD L i).place, [], []⟩ (i + 1)).2.1 with
      | .inl e => .inl e
      | .inr r => .inr ((goP L (shapesOf (tkD L i).text) ⟨(tkD L i).text, (tkD L i).place, [], []⟩ (i + 1)).1 :: r)
/-- What a shape is shown as. -/
def lineR : List UInt8 → List Tr → List Tr → List UInt8
  | [], _, _ => []
  | c :: r, ws, ts =>
    if c = 119 then 32 :: (ws.headD default).text.data.toList ++ lineR r ws.tail ts
    else if c = 110 then (ws.headD default).text.data.toList ++ lineR r ws.tail ts
    else if c = 116 then 32 :: shR (ts.headD default) ++ lineR r ws ts.tail
    else if c = 108 then sepS [32] [59] ts ++ lineR r ws ts
    else if c = 61 then [32, 61] ++ lineR r ws ts
    else c :: lineR r ws ts
def lineS (x : It) : List UInt8 := x.key.data.toList ++ lineR (shapesOf x.key) x.words x.trees
/-- Items as lines. -/
def showS (xs : List It) : List UInt8 := xs.flatMap fun x => lineS x ++ [10]
/-- The letters of a shape stand so that what is shown is read again. -/
def okShape : List UInt8 → Bool
  | [] => true
  | c :: r => (if c = 119 ∨ c = 110 ∨ c = 116 ∨ c = 108 then r.head? != some 110 else pc c == false) && (if c = 108 then r.all fun d => d != 116 && d != 108 else true) && okShape r
theorem shapes_ok (k : ByteArray) : okShape (shapesOf k) = true := by
  unfold shapesOf
  repeat' split
  all_goals decide
theorem lineR_noTrees : ∀ (r : List UInt8) (ws ts ts' : List Tr), (r.all fun d => d != 116 && d != 108) = true → lineR r ws ts = lineR r ws ts'
  | [], _, _, _, _ => rfl
  | c :: r, ws, ts, ts', h => by
    rw [List.all_cons, Bool.and_eq_true] at h
    obtain ⟨h1, h2⟩ := h
    simp only [Bool.and_eq_true, bne_iff_ne, ne_eq] at h1
    rw [lineR, lineR, lineR_noTrees r ws.tail ts ts' h2, lineR_noTrees r ws ts ts' h2, if_neg h1.1, if_neg h1.1, if_neg h1.2, if_neg h1.2]
theorem oneP_le (L : List Tok) (x : It) (i : Nat) (c : UInt8) : i ≤ (oneP x L i c).2.1 := by
  unfold oneP
  have := (termP_le L i 0).1
  have := (termsP_le L i sSemi 0).1
  repeat' split
  all_goals (simp only []; omega)
theorem oneP_in {L : List Tok} (hE : Ended L) (x : It) {i : Nat} (c : UInt8) (hi : i < L.length) : (oneP x L i c).2.1 < L.length := by
  unfold oneP
  have h1 := termP_in hE 0 hi
  have h2 := termsP_in hE sSemi 0 hi
  repeat' split
  all_goals (simp only [])
  all_goals first
    | exact hi
    | exact h1
    | exact h2
    | (next h => exact hE i (by rw [wordK_kind h]; decide))
    | (next h => exact hE i (by rw [h]; decide))
    | (next h => exact hE i (by rw [sgn_kind h]; decide))
theorem goP_le (L : List Tok) : ∀ (r : List UInt8) (x : It) (i : Nat), i ≤ (goP L r x i).2.1
  | [], x, i => Nat.le_refl _
  | c :: r, x, i => by
    rw [goP]
    have := oneP_le L x i c
    split
    · exact this
    · exact Nat.le_trans this (goP_le L r _ _)
theorem goP_in {L : List Tok} (hE : Ended L) : ∀ (r : List UInt8) (x : It) (i : Nat), i < L.length → (goP L r x i).2.1 < L.length
  | [], x, i, h => h
  | c :: r, x, i, h => by
    rw [goP]
    have := oneP_in hE x c h
    split
    · exact this
    · exact goP_in hE r _ _ this
theorem goP_key (L : List Tok) : ∀ (r : List UInt8) (x : It) (i : Nat), (goP L r x i).1.key = x.key ∧ (goP L r x i).1.spot = x.spot
  | [], x, i => ⟨rfl, rfl⟩
  | c :: r, x, i => by
    rw [goP]
    split
    · exact ⟨rfl, rfl⟩
    · have h := goP_key L r (oneP x L i c).1 (oneP x L i c).2.1
      have k : (oneP x L i c).1.key = x.key ∧ (oneP x L i c).1.spot = x.spot := by
        unfold oneP
        repeat' split
        all_goals exact ⟨rfl, rfl⟩
      rw [h.1, h.2, k.1, k.2]; exact ⟨rfl, rfl⟩
/-- What is read of a shape is shown as the tokens that it was read of. -/
theorem goP_spelt {L : List Tok} (hE : Ended L) (hS : AllSound L) : ∀ (r : List UInt8) (x : It) (i : Nat), okShape r = true → i < L.length → (goP L r x i).2.2 = true →
    ∃ ws ts, (goP L r x i).1.words = x.words ++ ws ∧ (goP L r x i).1.trees = x.trees ++ ts ∧ ((r.all fun d => d != 116 && d != 108) = true → ts = []) ∧ Spelt (r.head? ≠ some 110) (lineR r ws ts) (seg L i (goP L r x i).2.1)
  | [], x, i, _, hi, _ => ⟨[], [], by simp [goP], by simp [goP], fun _ => rfl, by rw [goP, seg_end]; exact ⟨[], rfl, rfl, (fun p hp => by cases hp), trivial, fun _ => trivial⟩⟩
  | c :: r, x, i, ho, hi, hok => by
    rw [okShape, Bool.and_eq_true, Bool.and_eq_true] at ho
    obtain ⟨⟨ho1, ho2⟩, ho3⟩ := ho
    rw [goP] at hok ⊢
    by_cases h1 : (oneP x L i c).2.2 = false
    · rw [if_pos h1] at hok; cases hok
    · rw [if_neg h1] at hok ⊢
      have h1' : (oneP x L i c).2.2 = true := by simpa using h1
      have hin := oneP_in hE x c hi
      have hle := oneP_le L x i c
      obtain ⟨ws, ts, e1, e2, e3, hsp⟩ := goP_spelt hE hS r (oneP x L i c).1 (oneP x L i c).2.1 ho3 hin hok
      have hle2 := goP_le L r (oneP x L i c).1 (oneP x L i c).2.1
      by_cases c1 : c = 119
      · subst c1
        have hp : oneP x L i 119 = if wordK (tkD L i) = true then ({ x with words := x.words ++ [.mk 5 (tkD L i).text 0 (tkD L i).place []] }, i + 1, true) else (x, i, false) := by unfold oneP; rw [if_pos rfl]
        by_cases hw : wordK (tkD L i) = true
        · rw [if_pos hw] at hp
          rw [hp] at e1 e2 hsp hle2 ⊢
          simp only at e1 e2 hsp hle2 ⊢
          refine ⟨_ :: ws, ts, by rw [e1, List.append_assoc]; rfl, e2, fun h => e3 (by rw [List.all_cons, Bool.and_eq_true] at h; exact h.2), ?_⟩
          rw [seg_cat L (Nat.le_succ i) hle2, seg_one hi, lineR, if_pos rfl]
          have a := (spelt_one [32] blank_one (tkD L i)).weak (Q := True) fun _ => .inl (by simp)
          have hr : r.head? ≠ some 110 := by simpa using ho1
          exact (a.cat hsp (by simp) (.inl hr)).weak fun _ => trivial
        · rw [if_neg hw] at hp; rw [hp] at h1'; cases h1'
      · by_cases c2 : c = 110
        · subst c2
          have hp : oneP x L i 110 = if (tkD L i).kind = 3 then ({ x with words := x.words ++ [.mk 0 (tkD L i).text (tkD L i).n (tkD L i).place []] }, i + 1, true) else (x, i, false) := by unfold oneP; rw [if_neg (by decide), if_pos rfl]
          by_cases hw : (tkD L i).kind = 3
          · rw [if_pos hw] at hp
            rw [hp] at e1 e2 hsp hle2 ⊢
            simp only at e1 e2 hsp hle2 ⊢
            refine ⟨_ :: ws, ts, by rw [e1, List.append_assoc]; rfl, e2, fun h => e3 (by rw [List.all_cons, Bool.and_eq_true] at h; exact h.2), ?_⟩
            rw [seg_cat L (Nat.le_succ i) hle2, seg_one hi, lineR, if_neg (by decide), if_pos rfl]
            have a := (spelt_one [] blank_nil (tkD L i)).weak (Q := False) fun h => h.elim
            have hr : r.head? ≠ some 110 := by simpa using ho1
            exact (a.cat hsp (by simp) (.inl hr)).weak fun h => (h rfl).elim
          · rw [if_neg hw] at hp; rw [hp] at h1'; cases h1'
        · by_cases c3 : c = 116
          · subst c3
            have hp : oneP x L i 116 = if (termP L i 0).2.2 = true then ({ x with trees := x.trees ++ [(termP L i 0).1] }, (termP L i 0).2.1, true) else (x, (termP L i 0).2.1, false) := by unfold oneP; rw [if_neg (by decide), if_neg (by decide), if_pos rfl]
            by_cases hw : (termP L i 0).2.2 = true
            · rw [if_pos hw] at hp
              rw [hp] at e1 e2 hsp hle2 hle ⊢
              simp only at e1 e2 hsp hle2 hle ⊢
              refine ⟨ws, _ :: ts, e1, by rw [e2, List.append_assoc]; rfl, fun h => by rw [List.all_cons, Bool.and_eq_true] at h; exact absurd h.1 (by decide), ?_⟩
              have hs := (termF_spelt hE hS (2 * L.length + 2)).1 i 0 [32] hi blank_one hw
              have hlt := (termP_le L i 0).2 hw
              rw [seg_cat L hle hle2, lineR, if_neg (by decide), if_neg (by decide), if_pos rfl]
              have hr : r.head? ≠ some 110 := by simpa using ho1
              exact ((hs.weak (Q := True) fun _ => (by simp)).cat hsp (seg_ne hlt hi) (.inl hr)).weak fun _ => trivial
            · rw [if_neg hw] at hp; rw [hp] at h1'; cases h1'
          · by_cases c4 : c = 108
            · subst c4
              have hp : oneP x L i 108 = if isS (tkD L i) sDot = true then (x, i, true) else ({ x with trees := x.trees ++ (termsP L i sSemi 0).1 }, (termsP L i sSemi 0).2.1, (termsP L i sSemi 0).2.2) := by unfold oneP; rw [if_neg (by decide), if_neg (by decide), if_neg (by decide), if_pos rfl]
              rw [if_pos rfl] at ho2
              have hts := e3 ho2
              subst hts
              have hr : r.head? ≠ some 110 := by simpa using ho1
              by_cases hw : isS (tkD L i) sDot = true
              · rw [if_pos hw] at hp
                rw [hp] at e1 e2 hsp hle2 ⊢
                simp only at e1 e2 hsp hle2 ⊢
                refine ⟨ws, [], e1, e2, fun _ => rfl, ?_⟩
                rw [lineR, if_neg (by decide), if_neg (by decide), if_neg (by decide), if_pos rfl, sepS, List.nil_append]
                exact hsp.weak fun _ => hr
              · rw [if_neg hw] at hp
                rw [hp] at e1 e2 hsp hle2 h1' hle ⊢
                simp only at e1 e2 hsp hle2 h1' hle ⊢
                refine ⟨ws, (termsP L i sSemi 0).1, e1, by rw [e2, List.append_nil], fun h => by rw [List.all_cons, Bool.and_eq_true] at h; exact absurd h.1 (by decide), ?_⟩
                have hs := ((termF_spelt hE hS (2 * L.length + 2)).2 i sSemi 0 [32] hi blank_one pc_signs.2.2.2.1 h1').2
                have hlt := (termsP_le L i sSemi 0).2 h1'
                rw [seg_cat L hle hle2, lineR, if_neg (by decide), if_neg (by decide), if_neg (by decide), if_pos rfl, lineR_noTrees r ws _ [] ho2]
                exact ((hs.weak (Q := True) fun _ => (by simp)).cat hsp (seg_ne hlt hi) (.inl hr)).weak fun _ => trivial
            · have hp : oneP x L i c = if isS (tkD L i) ⟨#[c]⟩ = true then (x, i + 1, true) else (x, i, false) := by unfold oneP; rw [if_neg c1, if_neg c2, if_neg c3, if_neg c4]
              by_cases hw : isS (tkD L i) ⟨#[c]⟩ = true
              · rw [if_pos hw] at hp
                rw [hp] at e1 e2 hsp hle2 ⊢
                simp only at e1 e2 hsp hle2 ⊢
                have hpc : pc c = false := by
                  rw [if_neg (by simp [c1, c2, c3, c4])] at ho1
                  simpa using ho1
                refine ⟨ws, ts, e1, e2, fun h => e3 (by rw [List.all_cons, Bool.and_eq_true] at h; exact h.2), ?_⟩
                rw [seg_cat L (Nat.le_succ i) hle2, seg_one hi, lineR, if_neg c1, if_neg c2, if_neg c3, if_neg c4]
                by_cases c5 : c = 61
                · subst c5
                  rw [if_pos rfl]
                  have a := (spelt_one [32] blank_one (tkD L i)).weak (Q := True) fun _ => .inl (by simp)
                  rw [sgn_text hw] at a
                  exact (a.cat hsp (by simp) (.inr (endsSign_one (sgn_kind hw)))).weak fun _ => trivial
                · rw [if_neg c5]
                  have a := spelt_sign hw hpc
                  exact (a.cat hsp (by simp) (.inr (endsSign_one (sgn_kind hw)))).weak fun _ => trivial
              · rw [if_neg hw] at hp; rw [hp] at h1'; cases h1'
end Go.Proofs.YtldgbdmiebipnaaGreatDoor

namespace Go.Proofs.YtldgbdmiebipnaaGreatDoor
open Go.RowKit

/-- An item as a value: the item, and its two slices. -/
structure Iv where
  it : It
  vw : Value
  vt : Value
def Iv.cells (y : Iv) : List Value := [.string y.it.key, .int .i64 y.it.spot, y.vw, y.vt]
structure Iv.ok (W : World) (y : Iv) : Prop where
  words : Trs W y.vw y.it.words
  trees : Trs W y.vt y.it.trees
  len : y.it.key.size ≤ 9223372036854775807
theorem Iv.ok.below {w w' : World} {y : Iv} (h : y.ok w) (hb : Below w.heap.size w w') : y.ok w' := ⟨h.words.below hb, h.trees.below hb, h.len⟩
def rowIv (vs : List Iv) : List Value := vs.flatMap Iv.cells
theorem rowIv_length (vs : List Iv) : (rowIv vs).length = vs.length * 4 := by
  unfold rowIv
  induction vs with
  | nil => rfl
  | cons v r ih => rw [List.flatMap_cons, List.length_append, ih, List.length_cons]; unfold Iv.cells; simp; omega
theorem rowIv_append (a b : List Iv) : rowIv (a ++ b) = rowIv a ++ rowIv b := by unfold rowIv; rw [List.flatMap_append]
theorem rowIv_one (v : Iv) : rowIv [v] = v.cells := by unfold rowIv; simp
theorem rowIv_get : ∀ (vs : List Iv) (j : Nat) (h : j < vs.length) (i : Nat), i < 4 → (rowIv vs)[j * 4 + i]? = vs[j].cells[i]?
  | [], _, h, _, _ => by simp at h
  | v :: r, 0, _, i, hi => by
    unfold rowIv
    rw [List.flatMap_cons, List.getElem?_append_left (by unfold Iv.cells; simp; omega)]; simp
  | v :: r, j + 1, h, i, hi => by
    have := rowIv_get r j (by simpa using h) i hi
    unfold rowIv at this ⊢
    rw [List.flatMap_cons, List.getElem?_append_right (by unfold Iv.cells; simp; omega)]
    rw [show (j + 1) * 4 + i - v.cells.length = j * 4 + i from by unfold Iv.cells; simp; omega, this]
    simp
/-- The four cells of a value. -/
structure IvAt (w : World) (b o : Nat) (y : Iv) : Prop where
  c0 : w.cell? ⟨b, o, none⟩ = some (.string y.it.key)
  c1 : w.cell? ⟨b, o + 1, none⟩ = some (.int .i64 y.it.spot)
  c2 : w.cell? ⟨b, o + 2, none⟩ = some y.vw
  c3 : w.cell? ⟨b, o + 3, none⟩ = some y.vt
theorem IvAt.below {w w' : World} {b o : Nat} {y : Iv} (h : IvAt w b o y) (hb : Below w.heap.size w w') : IvAt w' b o y := by
  have hlt := lt_of_cellR h.c0
  exact ⟨(hb.cell (p := ⟨b, o, none⟩) hlt).trans h.c0, (hb.cell (p := ⟨b, o + 1, none⟩) hlt).trans h.c1, (hb.cell (p := ⟨b, o + 2, none⟩) hlt).trans h.c2, (hb.cell (p := ⟨b, o + 3, none⟩) hlt).trans h.c3⟩
/-- A slice value that reads as a row of items. -/
def Its (w : World) (v : Value) (xs : List It) : Prop := ∃ a c, v = .slice a xs.length c ∧ (xs.length ≤ 9223372036854775807 ∧ xs.length ≤ c) ∧ (xs = [] ∨ ∃ b o, a = some ⟨b, o, none⟩ ∧ b < w.heap.size ∧ ∀ (j : Nat) (h : j < xs.length), ∃ y : Iv, y.it = xs[j] ∧ y.ok w ∧ IvAt w b (o + j * 4) y)
theorem Its.none_ (w : World) (a : Option Addr) (c : Nat) : Its w (.slice a 0 c) [] := ⟨a, c, rfl, by simp, .inl rfl⟩
theorem Its.below {w w' : World} {v : Value} {xs : List It} (h : Its w v xs) (hb : Below w.heap.size w w') : Its w' v xs := by
  obtain ⟨a, c, hv, hl, h⟩ := h
  refine ⟨a, c, hv, hl, ?_⟩
  rcases h with h | ⟨b, o, ha, hlt, h⟩
  · exact .inl h
  · refine .inr ⟨b, o, ha, Nat.lt_of_lt_of_le hlt hb.size, fun j hj => ?_⟩
    obtain ⟨y, h1, h2, h3⟩ := h j hj
    exact ⟨y, h1, h2.below hb, h3.below hb⟩
/-- An item in a row that grows: it lives on. -/
def LiveIt (W : World) (g : Option Nat) (base : Nat) (y : Iv) : Prop := ∃ lo hi, base ≤ lo ∧ lo ≤ hi ∧ hi ≤ W.heap.size ∧ (∀ k, g = some k → k < lo ∨ hi ≤ k) ∧
  ∀ W', hi ≤ W'.heap.size → (∀ k, lo ≤ k → k < hi → W'.heap[k]? = W.heap[k]?) → y.ok W'
theorem LiveIt.ok {W : World} {g : Option Nat} {base : Nat} {y : Iv} (h : LiveIt W g base y) : y.ok W := by
  obtain ⟨lo, hi, _, _, h3, _, h5⟩ := h
  exact h5 W h3 fun _ _ _ => rfl
theorem LiveIt.keep {W W' : World} {g g' : Option Nat} {base : Nat} {y : Iv} (h : LiveIt W g base y) (hs : W.heap.size ≤ W'.heap.size) (hk : ∀ k, k < W.heap.size → some k ≠ g → W'.heap[k]? = W.heap[k]?) (hg : ∀ k, g' = some k → g = some k ∨ W.heap.size ≤ k) : LiveIt W' g' base y := by
  obtain ⟨lo, hi, h1, h2, h3, h4, h5⟩ := h
  refine ⟨lo, hi, h1, h2, Nat.le_trans h3 hs, fun k e => ?_, fun W2 g1 g2 => h5 W2 g1 fun k k1 k2 => ?_⟩
  · rcases hg k e with e | e
    · exact h4 k e
    · exact .inr (Nat.le_trans h3 e)
  · rw [g2 k k1 k2]
    refine hk k (Nat.lt_of_lt_of_le k2 h3) fun e => ?_
    rcases h4 k e.symm with e | e <;> omega
theorem LiveIt.below {W W' : World} {g : Option Nat} {base : Nat} {y : Iv} (h : LiveIt W g base y) (hb : Below W.heap.size W W') : LiveIt W' g base y := h.keep hb.size (fun k hk _ => hb.block k hk) fun _ e => .inl e
theorem LiveIt.grown {W W' : World} {g g' : Option Nat} {base : Nat} {y : Iv} (h : LiveIt W g base y) (hg : W.grownBy W' g) (hat : g' = g ∨ g' = some W.heap.size) : LiveIt W' g' base y := h.keep hg.size (fun k hk e => hg.block k hk e) fun k e => by
  rcases hat with e2 | e2
  · left; rw [← e2]; exact e
  · right; rw [e2] at e; injection e with e; omega
/-- A row of items that grows. -/
structure RowIt (W : World) (e : TypeId) (base : Nat) (v : Value) (xs : List It) : Prop where
  row : ∃ vs : List Iv, vs.map Iv.it = xs ∧ (∀ y ∈ vs, LiveIt W v.ownBlock base y) ∧ W.ownsRow base e 4 v xs.length (rowIv vs)
theorem rowIt_nil (W : World) (e : TypeId) (base : Nat) : RowIt W e base (.slice none 0 0) [] := ⟨[], rfl, (fun x hx => by cases hx), World.ownsRow_nil _ _ _ _⟩
theorem RowIt.keep {W W' : World} {e : TypeId} {base : Nat} {v : Value} {xs : List It} (h : RowIt W e base v xs) (hs : W.heap.size ≤ W'.heap.size) (hk : ∀ k, k < W.heap.size → W'.heap[k]? = W.heap[k]?) : RowIt W' e base v xs := by
  obtain ⟨vs, h1, h2, h3⟩ := h
  exact ⟨vs, h1, fun x hx => (h2 x hx).keep hs (fun k q _ => hk k q) fun k e => .inl e, own_at h3 fun g q => hk g (own_row_lt h3 g q)⟩
theorem RowIt.below {W W' : World} {e : TypeId} {base : Nat} {v : Value} {xs : List It} (h : RowIt W e base v xs) (hb : Below W.heap.size W W') : RowIt W' e base v xs := h.keep hb.size fun k hk => hb.block k hk
theorem RowIt.snoc {W W' : World} {e : TypeId} {base : Nat} {v v' : Value} {xs : List It} {vs : List Iv} {y : Iv} (h1 : vs.map Iv.it = xs) (h2 : ∀ x ∈ vs, LiveIt W v.ownBlock base x) (hy : LiveIt W v.ownBlock base y)
    (hown : W'.ownsRow base e 4 v' (xs.length + 1) (rowIv vs ++ y.cells)) (hg : W.grownBy W' v.ownBlock) (hat : v'.ownBlock = v.ownBlock ∨ v'.ownBlock = some W.heap.size) : RowIt W' e base v' (xs ++ [y.it]) := by
  refine ⟨vs ++ [y], by rw [List.map_append, h1]; rfl, fun x hx => ?_, ?_⟩
  · rcases List.mem_append.1 hx with hx | hx
    · exact (h2 x hx).grown hg hat
    · rw [List.mem_singleton] at hx; rw [hx]; exact hy.grown hg hat
  · rw [List.length_append, rowIv_append, rowIv_one]; exact hown
theorem RowIt.its {W : World} {e : TypeId} {base : Nat} {v : Value} {xs : List It} (h : RowIt W e base v xs) (hl : xs.length ≤ 9223372036854775807) : Its W v xs := by
  obtain ⟨vs, rfl, hok, hn, h⟩ := h
  rcases h with ⟨rfl, h0⟩ | ⟨g, cap, cur, rfl, _, hg, hcap, hmax, hsz, htake⟩
  · have : vs = [] := by simpa using h0
    subst this
    exact Its.none_ _ _ _
  · refine ⟨_, cap, rfl, ⟨hl, hcap⟩, .inr ⟨g, 0, rfl, ?_, fun j hj => ?_⟩⟩
    · rcases Nat.lt_or_ge g W.heap.size with q | q
      · exact q
      · rw [Array.getElem?_eq_none q] at hg; cases hg
    · have hjv : j < vs.length := by simpa using hj
      have hc : ∀ i, i < 4 → W.cell? ⟨g, 0 + j * 4 + i, none⟩ = vs[j].cells[i]? := fun i hi => by
        rw [cell_of_row W g (0 + j * 4 + i) cur _ (0, 0) hg, ← rowIv_get vs j hjv i hi, ← htake, List.getElem?_take, if_pos (by simp; omega), Nat.zero_add]
        simp
      refine ⟨vs[j], by simp, (hok _ (List.getElem_mem hjv)).ok, ?_, ?_, ?_, ?_⟩
      · exact hc 0 (by omega)
      · exact hc 1 (by omega)
      · exact hc 2 (by omega)
      · exact hc 3 (by omega)
/-- A world cut off at a block. -/
def cutW (w : World) (n : Nat) : World := { w with heap := w.heap.extract 0 n }
theorem cutW_size (w : World) {n : Nat} (h : n ≤ w.heap.size) : (cutW w n).heap.size = n := by unfold cutW; simp; omega
theorem cutW_block (w : World) {n k : Nat} (h : n ≤ w.heap.size) (hk : k < n) : (cutW w n).heap[k]? = w.heap[k]? := by
  unfold cutW
  simp only [Array.getElem?_extract]
  rw [if_pos (by omega)]
  simp
theorem cutW_below (w : World) {n : Nat} (h : n ≤ w.heap.size) : Below n (cutW w n) w :=
  ⟨rfl, rfl, rfl, by rw [cutW_size w h]; exact h, fun k hk => (cutW_block w h hk).symm⟩
/-- What was there ahead of the cut is there. -/
theorem below_cutW {w0 w : World} (hb : Below w0.heap.size w0 w) {n : Nat} (h0 : w0.heap.size ≤ n) (h : n ≤ w.heap.size) : Below w0.heap.size w0 (cutW w n) :=
  ⟨hb.os, hb.tape, hb.output, by rw [cutW_size w h]; exact h0, fun k hk => (cutW_block w h (by omega)).trans (hb.block k hk)⟩
theorem cutW_back {w w' : World} {n : Nat} (h : n ≤ w.heap.size) (hs : w.heap.size ≤ w'.heap.size) (hb : Below n (cutW w n) w') : Below n w w' :=
  ⟨hb.os, hb.tape, hb.output, hs, fun k hk => (hb.block k hk).trans (cutW_block w h hk)⟩
end Go.Proofs.YtldgbdmiebipnaaGreatDoor
