/-
  The reader of the program's grammar: term; then term and terms by one induction.
  What stands while the program's grammar reads an item: the reader, the item's box, the answer's box, its two rows.
  A tree as a term, by the program's grammar: Plain.
-/
import Derived.Test.YtldgbdmiebipnaaGreatDoorZ15
import Derived.Test.YtldgbdmiebipnaaGreatDoorZ07
import Derived.Test.YtldgbdmiebipnaaGreatDoorZ14
import Derived.Maps.AppendAt
import Derived.Test.YtldgbdmiebipnaaGreatDoorZ13
import Derived.Test.YtldgbdmiebipnaaGreatDoorZ05
import Derived.Test.YtldgbdmiebipnaaGreatDoorZ11
namespace Go.Proofs.YtldgbdmiebipnaaGreatDoor
open Go.RowKit

/-- The signs of the grammar. -/
def signL : List ByteArray := [sOpen, sClose, sComma, sSemi, sDot, ⟨#[47]⟩, ⟨#[58]⟩, ⟨#[61]⟩]
/-- Tokens as a text has them. -/
structure Fine (L : List Tok) : Prop where
  ended : Ended L
  ok : ∀ i, TokOk (tkD L i)
  len : L.length ≤ 100000
  sign : ∀ s, s ∈ signL → ∀ k, k < L.length → ((tkD L k).text.toList == s.toList) = isS (tkD L k) s
  word0 : ∀ k, wordK (tkD L k) = true → (tkD L k).n = 0
  key : ∀ k, Lib.containsS keyList (tkD L k).text = true → (tkD L k).kind = 1

section
variable {g b o c : Nat} {L : List Tok}
theorem leafK_ways (k : Int) (s : ByteArray) (n p : Int) : (leafK ⟨k, s, n, p⟩ = 1 ∧ (k == 2) = true) ∨ (leafK ⟨k, s, n, p⟩ = 3 ∧ (k == 2) = false ∧ (k == 4) = true) ∨ (leafK ⟨k, s, n, p⟩ = 4 ∧ (k == 2) = false ∧ (k == 4) = false ∧ (k == 5) = true) ∨ (leafK ⟨k, s, n, p⟩ = 0 ∧ (k == 2) = false ∧ (k == 4) = false ∧ (k == 5) = false) := by
  unfold leafK
  simp only
  cases h2 : (k == 2) with
  | true => exact .inl ⟨if_pos (by simpa using h2), rfl⟩
  | false =>
    rw [if_neg (by simpa using h2)]
    cases h4 : (k == 4) with
    | true => exact .inr (.inl ⟨if_pos (by simpa using h4), rfl, rfl⟩)
    | false =>
      rw [if_neg (by simpa using h4)]
      cases h5 : (k == 5) with
      | true => exact .inr (.inr (.inl ⟨if_pos (by simpa using h5), rfl, rfl, rfl⟩))
      | false => exact .inr (.inr (.inr ⟨if_neg (by simpa using h5), rfl, rfl, rfl⟩))

theorem Box5.same {w w1 : World} {x : Nat} {x0 x1 x2 x3 x4 : Value} (h : Box5 w x x0 x1 x2 x3 x4) (hk : w1.heap[x]? = w.heap[x]?) : Box5 w1 x x0 x1 x2 x3 x4 :=
  ⟨(World.cell?_of_block (a := ⟨x, 0, none⟩) hk).trans h.c0, (World.cell?_of_block (a := ⟨x, 1, none⟩) hk).trans h.c1, (World.cell?_of_block (a := ⟨x, 2, none⟩) hk).trans h.c2, (World.cell?_of_block (a := ⟨x, 3, none⟩) hk).trans h.c3, (World.cell?_of_block (a := ⟨x, 4, none⟩) hk).trans h.c4,
    (World.frozen?_of_block (a := ⟨x, 0, none⟩) hk).trans h.f0, (World.frozen?_of_block (a := ⟨x, 1, none⟩) hk).trans h.f1, (World.frozen?_of_block (a := ⟨x, 2, none⟩) hk).trans h.f2, (World.frozen?_of_block (a := ⟨x, 3, none⟩) hk).trans h.f3, (World.frozen?_of_block (a := ⟨x, 4, none⟩) hk).trans h.f4⟩

set_option maxRecDepth 100000 in
set_option maxHeartbeats 4000000 in
theorem term_one (hF : Fine L) (i op : Nat) (W : World) (h : Rdr W g b o c L i op) (hop : op ≤ 40)
    (hT : ∀ (V : World), op < 40 → Rdr V g b o c L (i + 2) (op + 1) → Calls Tryz.prog 56 #[.pointer (some ⟨g, 0, none⟩), .string sComma] V (TermsPPost g b o c L (i + 2) sComma (op + 1) V)) :
    Calls Tryz.prog 47 #[.pointer (some ⟨g, 0, none⟩)] W (TermPPost g b o c L i op W) := by
  have hEi := hF.ended i
  have hok := hF.ok i
  have h0 := h.c0
  have hi := h.here
  have hg := h.glt
  have hlt := h.lt
  have hbw : b < W.heap.size := by omega
  have hbw1 : b < W.heap.size + 1 := by omega
  have hg1 : g < W.heap.size + 1 := by omega
  have hgne : W.heap.size ≠ g := by omega
  have HT := Lib.hid (show ∀ e w', TermPPost g b o c L i op W e w' ↔ (((termP L i op).2.2 = true ∧ ∃ y : Rv, e = .returned y.val ∧ y.t = (termP L i op).1 ∧ MadeR W w' y ∧ Rdr w' g b o c L (termP L i op).2.1 op ∧ W.grownBy w' (some g)) ∨
    ((termP L i op).2.2 = false ∧ e = diesAt L (termP L i op).2.1 ∧ W.grownBy w' (some g))) from fun _ _ => Iff.rfl)
  have HL1 := Lib.hid (fun h => termP_leaf (L := L) (i := i) (op := op) h)
  have HL2 := Lib.hid (fun h1 h2 => termP_none (L := L) (i := i) (op := op) h1 h2)
  have HL3 := Lib.hid (fun h1 h2 h3 => termP_const (L := L) (i := i) (op := op) h1 h2 h3)
  have HL4 := Lib.hid (fun h1 h2 h3 h4 => termP_deep (L := L) (i := i) (op := op) h1 h2 h3 h4)
  have HL5 := Lib.hid (fun h1 h2 h3 h4 => termP_args (L := L) (i := i) (op := op) h1 h2 h3 h4)
  have hwn := hF.word0 i
  have hB0 : Below W.heap.size W (W.alloc (.cells #[.int .i64 0, .string ⟨#[]⟩, .int .i64 0, .int .i64 0, .slice none 0 0] 39)) := (Below.refl _ _).alloc (Nat.le_refl _) _
  have hr0 := h.below hB0
  have T := Lib.hid (fun kd h1 => take_any kd _ hr0 h1 hF.len)
  have WD := word_at _ hr0 hF.ended hF.len
  unfold TakePost at WD
  replace WD := Lib.hid WD
  have NX := Lib.hid (fun (V : World) (hv : Rdr V g b o c L (i + 1) op) => (next_any sOpen V hv).mono fun e w' hh => (show e = .returned (.bool (isS (tkD L (i + 1)) sOpen)) ∧ V = w' by rw [hF.sign sOpen (by unfold signL; simp) _ hv.here] at hh; exact hh))
  have AG := Lib.hid (fun (V : World) (hv : Rdr V g b o c L (i + 1) op) hb => args_one hF.ended (i + 1) op V hv hop (fun s hs => hF.sign s (by unfold signL; rcases hs with rfl | rfl <;> simp)) hb hT)
  obtain ⟨t0, t1, t2, t3⟩ := h.toks i hi
  obtain ⟨t, ht⟩ : ∃ t, tkD L i = t := ⟨_, rfl⟩
  have hti : L[i] = t := by rw [← ht, tkD_at hi]
  rw [ht] at hEi hok T WD HL1 HL2 HL3 HL4 HL5 hwn
  rw [hti] at t0 t1 t2 t3
  have HD := Lib.hid (show diesAt L i = .panicked [{ v := .iface 26 (.agg #[.int .i64 2, .int .i64 t.place]), recovered := false }] by unfold diesAt fltV; rw [ht])
  clear ht hti hT
  obtain ⟨tk, tx, tn, tp⟩ := t
  obtain ⟨ok1, ok2, ok3, ok4, ok5⟩ := hok
  simp only at t0 t1 t2 t3 hEi T WD HL1 HL2 HL3 HL4 HL5 HD ok1 ok2 ok3 ok4 ok5 hwn
  have BX := box5_new W (.int .i64 0) (.string ⟨#[]⟩) (.int .i64 0) (.int .i64 0) (.slice none 0 0) 39
  obtain ⟨n, hn⟩ : ∃ n, L.length - i = n := ⟨_, rfl⟩
  obtain ⟨k, hk⟩ : ∃ k, c - i = k := ⟨_, rfl⟩
  obtain ⟨a, ha⟩ : ∃ a, o + i * 4 = a := ⟨_, rfl⟩
  have hn0 : (0 : Int) < (n : Int) := by omega
  rw [hn, hk, ha] at h0
  rw [ha] at t0 t1 t2 t3
  clear hn hk ha
  have hz0 : (W.alloc (.cells #[.int .i64 0, .string ⟨#[]⟩, .int .i64 0, .int .i64 0, .slice none 0 0] 39)).heap.size = W.heap.size + 1 := by simp
  obtain ⟨w0, hw0⟩ : ∃ w0, W.alloc (.cells #[.int .i64 0, .string ⟨#[]⟩, .int .i64 0, .int .i64 0, .slice none 0 0] 39) = w0 := ⟨_, rfl⟩
  rw [hw0] at hB0 hr0 T WD BX hz0
  replace hw0 := Lib.hid hw0
  have HB0 := Lib.hid (only_below hB0 (some g))
  have HBX := Lib.hid BX
  clear hB0 hr0 BX h
  -- a token that is a term by itself
  have LEAF : ∀ (kd : Int) (tx : ByteArray) (tn tp : Int), FitR kd tx tn tp → termP L i op = (.mk kd tx tn tp [], i + 1, true) → ∀ w1, Rdr w1 g b o c L (i + 1) op → W.grownBy w1 (some g) → TermPPost g b o c L i op W (.returned (.agg #[.int .i64 kd, .string tx, .int .i64 tn, .int .i64 tp, .slice none 0 0])) w1 := by
    intro kd tx tn tp hfit hP w1 hr1 ho1
    refine (HT.out _ _).2 (.inl ⟨by rw [hP], ⟨.mk kd tx tn tp [], none, 0⟩, rfl, by rw [hP], rv_plain hfit _ _, by rw [hP]; exact hr1, ho1⟩)
  replace LEAF := Lib.hid LEAF
  rcases leafK_ways tk tx tn tp with ⟨hlk, q2⟩ | ⟨hlk, q2, q4⟩ | ⟨hlk, q2, q4, q5⟩ | ⟨hlk, q2, q4, q5⟩
  case inl =>
    have HP := Lib.hid (HL1.out (by rw [hlk]; decide))
    rw [hlk] at HP
    have T' := Lib.hid (T.out 1 (hEi (by rw [show tk = 2 by simpa using q2]; decide)))
    clear HL1 HL2 HL3 HL4 HL5 hEi hlk T WD NX AG
    go_enter Tryz.func47, Tryz.ntmps47
    go_wp2_with fail
    rw [hw0.out]
    refine T'.out.mono ?_; rintro e w1 ⟨rfl, hr1, ho1⟩
    have HX1 := Lib.hid (HBX.out.only ho1 hgne)
    have HR1 := Lib.hid (hr1.sets5 (x := W.heap.size) hg (.int .i64 1) (.string tx) (.int .i64 tn) (.int .i64 tp) (.slice none 0 0))
    have HO1 := Lib.hid (only_sets5 (only_trans HB0.out ho1) (Nat.le_refl _) (.int .i64 1) (.string tx) (.int .i64 tn) (.int .i64 tp) (.slice none 0 0))
    have HX2 := Lib.hid (HX1.out.sets (.int .i64 1) (.string tx) (.int .i64 tn) (.int .i64 tp) (.slice none 0 0))
    obtain ⟨r0, r1, r2, r3, r4, rf0, rf1, rf2, rf3, rf4⟩ := HX1.out
    clear hr1 ho1 t0 t1 t2 t3 h0
    go_wp2_with fail
    obtain ⟨r0, r1, r2, r3, r4, _, _, _, _, _⟩ := HX2.out
    refine bodyPost_ret (v := .agg #[.int .i64 1, .string tx, .int .i64 tn, .int .i64 tp, .slice none 0 0]) (by simp [results, Tryz.results47, go_sem, r0, r1, r2, r3, r4]) rfl ?_
    exact LEAF.out 1 tx tn tp ⟨by omega, by omega, ok1, ok2, ok3, ok4, ok5⟩ HP.out _ HR1.out HO1.out
  case inr.inl =>
    have HP := Lib.hid (HL1.out (by rw [hlk]; decide))
    rw [hlk] at HP
    have T' := Lib.hid (T.out 3 (hEi (by rw [show tk = 4 by simpa using q4]; decide)))
    clear HL1 HL2 HL3 HL4 HL5 hEi hlk T WD NX AG
    go_enter Tryz.func47, Tryz.ntmps47
    go_wp2_with fail
    rw [hw0.out]
    refine T'.out.mono ?_; rintro e w1 ⟨rfl, hr1, ho1⟩
    have HX1 := Lib.hid (HBX.out.only ho1 hgne)
    have HR1 := Lib.hid (hr1.sets5 (x := W.heap.size) hg (.int .i64 3) (.string tx) (.int .i64 tn) (.int .i64 tp) (.slice none 0 0))
    have HO1 := Lib.hid (only_sets5 (only_trans HB0.out ho1) (Nat.le_refl _) (.int .i64 3) (.string tx) (.int .i64 tn) (.int .i64 tp) (.slice none 0 0))
    have HX2 := Lib.hid (HX1.out.sets (.int .i64 3) (.string tx) (.int .i64 tn) (.int .i64 tp) (.slice none 0 0))
    obtain ⟨r0, r1, r2, r3, r4, rf0, rf1, rf2, rf3, rf4⟩ := HX1.out
    clear hr1 ho1 t0 t1 t2 t3 h0
    go_wp2_with fail
    obtain ⟨r0, r1, r2, r3, r4, _, _, _, _, _⟩ := HX2.out
    refine bodyPost_ret (v := .agg #[.int .i64 3, .string tx, .int .i64 tn, .int .i64 tp, .slice none 0 0]) (by simp [results, Tryz.results47, go_sem, r0, r1, r2, r3, r4]) rfl ?_
    exact LEAF.out 3 tx tn tp ⟨by omega, by omega, ok1, ok2, ok3, ok4, ok5⟩ HP.out _ HR1.out HO1.out
  case inr.inr.inl =>
    have HP := Lib.hid (HL1.out (by rw [hlk]; decide))
    rw [hlk] at HP
    have T' := Lib.hid (T.out 4 (hEi (by rw [show tk = 5 by simpa using q5]; decide)))
    clear HL1 HL2 HL3 HL4 HL5 hEi hlk T WD NX AG
    go_enter Tryz.func47, Tryz.ntmps47
    go_wp2_with fail
    rw [hw0.out]
    refine T'.out.mono ?_; rintro e w1 ⟨rfl, hr1, ho1⟩
    have HX1 := Lib.hid (HBX.out.only ho1 hgne)
    have HR1 := Lib.hid (hr1.sets5 (x := W.heap.size) hg (.int .i64 4) (.string tx) (.int .i64 tn) (.int .i64 tp) (.slice none 0 0))
    have HO1 := Lib.hid (only_sets5 (only_trans HB0.out ho1) (Nat.le_refl _) (.int .i64 4) (.string tx) (.int .i64 tn) (.int .i64 tp) (.slice none 0 0))
    have HX2 := Lib.hid (HX1.out.sets (.int .i64 4) (.string tx) (.int .i64 tn) (.int .i64 tp) (.slice none 0 0))
    obtain ⟨r0, r1, r2, r3, r4, rf0, rf1, rf2, rf3, rf4⟩ := HX1.out
    clear hr1 ho1 t0 t1 t2 t3 h0
    go_wp2_with fail
    obtain ⟨r0, r1, r2, r3, r4, _, _, _, _, _⟩ := HX2.out
    refine bodyPost_ret (v := .agg #[.int .i64 4, .string tx, .int .i64 tn, .int .i64 tp, .slice none 0 0]) (by simp [results, Tryz.results47, go_sem, r0, r1, r2, r3, r4]) rfl ?_
    exact LEAF.out 4 tx tn tp ⟨by omega, by omega, ok1, ok2, ok3, ok4, ok5⟩ HP.out _ HR1.out HO1.out
  case inr.inr.inr =>
    have WD' := WD
    clear HL1 T WD LEAF
    cases hwk : wordK ⟨tk, tx, tn, tp⟩ with
    | false =>
      have HP := Lib.hid (HL2.out hlk hwk)
      rw [hwk] at WD'
      clear HL2 HL3 HL4 HL5 hEi hlk NX AG hwk
      go_enter Tryz.func47, Tryz.ntmps47
      go_wp2_with fail
      rw [hw0.out]
      refine WD'.out.mono ?_; rintro e w1 (⟨hf, _⟩ | ⟨_, hd, ho1⟩)
      case inl => cases hf
      have HO1 := Lib.hid (only_trans HB0.out ho1)
      have HE := Lib.hid hd
      rw [HD.out] at hd
      subst hd
      clear ho1
      go_wp2_with fail
      exact ⟨rfl, (HT.out _ _).2 (.inr ⟨by rw [HP.out], by rw [HP.out]; exact HE.out, HO1.out⟩)⟩
    | true =>
      have htk : tk = 1 := wordK_kind hwk
      have hi1 : i + 1 < L.length := hEi (by rw [htk]; decide)
      have hfit : FitR 5 tx 0 tp := ⟨by omega, by omega, by omega, by omega, ok3, ok4, ok5⟩
      have htn : tn = 0 := hwn hwk
      have HL3' := Lib.hid (HL3.out hlk hwk)
      have HL4' := Lib.hid (HL4.out hlk hwk)
      have HL5' := Lib.hid (HL5.out hlk hwk)
      rw [hwk] at WD'
      clear HL2 HL3 HL4 HL5 hEi hlk hwn hwk htk
      go_enter Tryz.func47, Tryz.ntmps47
      go_wp2_with fail
      rw [hw0.out]
      refine WD'.out.mono ?_; rintro e w1 (⟨_, rfl, hr1, ho1⟩ | ⟨hf, _⟩)
      case inr => cases hf
      subst htn
      have hX1 := HBX.out.only ho1 hgne
      have hO1 := only_trans HB0.out ho1
      have hs1 := ho1.size
      have hB2 : Below w1.heap.size w1 (w1.alloc (.cells #[.int .i64 5, .string tx, .int .i64 0, .int .i64 tp, .slice none 0 0] 39)) := (Below.refl _ _).alloc (Nat.le_refl _) _
      have hr2 := hr1.below hB2
      have hO2 := only_next hO1 hB2
      have hX2 := hX1.below hB2 (by omega)
      have hY2 := box5_new w1 (.int .i64 5) (.string tx) (.int .i64 0) (.int .i64 tp) (.slice none 0 0) 39
      have hz2 : (w1.alloc (.cells #[.int .i64 5, .string tx, .int .i64 0, .int .i64 tp, .slice none 0 0] 39)).heap.size = w1.heap.size + 1 := by simp
      obtain ⟨w2, hw2⟩ : ∃ w2, w1.alloc (.cells #[.int .i64 5, .string tx, .int .i64 0, .int .i64 tp, .slice none 0 0] 39) = w2 := ⟨_, rfl⟩
      rw [hw2] at hr2 hO2 hX2 hY2 hz2
      obtain ⟨y, hy⟩ : ∃ y, w1.heap.size = y := ⟨_, rfl⟩
      rw [hy] at hY2 hz2 hs1
      replace hw2 := Lib.hid hw2
      have HY := Lib.hid hy
      have HR2 := Lib.hid hr2
      have HO2 := Lib.hid hO2
      have HX2 := Lib.hid hX2
      have HY2 := Lib.hid hY2
      clear hr1 ho1 hX1 hO1 hB2 hr2 hO2 hX2 hY2 t0 t1 t2 t3 h0 hy
      go_wp2_with fail
      rw [hw2.out]
      (try rw [HY.out])
      refine (NX.out _ HR2.out).mono ?_; rintro e w3 ⟨rfl, rfl⟩
      cases hs : isS (tkD L (i + 1)) sOpen with
      | false =>
        have HP := Lib.hid (HL3'.out hs)
        have HX3 := Lib.hid (HX2.out.sets (.int .i64 5) (.string tx) (.int .i64 0) (.int .i64 tp) (.slice none 0 0))
        have HR3 := Lib.hid (HR2.out.sets5 (x := W.heap.size) hg (.int .i64 5) (.string tx) (.int .i64 0) (.int .i64 tp) (.slice none 0 0))
        have HO3 := Lib.hid (only_sets5 HO2.out (Nat.le_refl _) (.int .i64 5) (.string tx) (.int .i64 0) (.int .i64 tp) (.slice none 0 0))
        obtain ⟨y0, y1, y2, y3, y4, _, _, _, _, _⟩ := HY2.out
        obtain ⟨r0, r1, r2, r3, r4, rf0, rf1, rf2, rf3, rf4⟩ := HX2.out
        clear hs NX AG
        go_wp2_with fail
        obtain ⟨r0, r1, r2, r3, r4, _, _, _, _, _⟩ := HX3.out
        refine bodyPost_ret (v := .agg #[.int .i64 5, .string tx, .int .i64 0, .int .i64 tp, .slice none 0 0]) (by simp [results, Tryz.results47, go_sem, r0, r1, r2, r3, r4]) rfl ?_
        exact (HT.out _ _).2 (.inl ⟨by rw [HP.out], ⟨.mk 5 tx 0 tp [], none, 0⟩, rfl, by rw [HP.out], rv_plain hfit _ _, by rw [HP.out]; exact HR3.out, HO3.out⟩)
      | true =>
        have HL4'' := Lib.hid (HL4'.out hs)
        have HL5'' := Lib.hid (HL5'.out hs)
        have A := Lib.hid (AG.out w2 HR2.out hs)
        obtain ⟨⟨ts, n2, ok⟩, hx⟩ : ∃ x, termsP L (i + 2) sComma (op + 1) = x := ⟨_, rfl⟩
        unfold ArgsPPost at A
        rw [show i + 1 + 1 = i + 2 from rfl, hx] at A
        rw [hx] at HL5''
        simp only at A HL5''
        clear hs NX AG hx HL3' HL4' HL5'
        go_wp2_with fail
        refine A.out.mono ?_; rintro e w3 (⟨hop1, hok, hcl, v, rfl, hrow, hlen, hr3, ho3⟩ | ⟨h40, hd, ho3⟩ | ⟨hop1, hbad, hd, ho3⟩)
        case inr.inl =>
          have HP := Lib.hid (HL4''.out h40)
          have HO3 := Lib.hid (only_trans HO2.out ho3)
          have HE := Lib.hid hd
          unfold diesAt at hd
          subst hd
          clear ho3
          go_wp2_with fail
          exact ⟨rfl, (HT.out _ _).2 (.inr ⟨by rw [HP.out], by rw [HP.out]; exact HE.out, HO3.out⟩)⟩
        case inr.inr =>
          have HP := Lib.hid ((HL5''.out (by omega)).trans (if_pos hbad))
          have HO3 := Lib.hid (only_trans HO2.out ho3)
          have HE := Lib.hid hd
          unfold diesAt at hd
          subst hd
          clear ho3 hbad
          go_wp2_with fail
          exact ⟨rfl, (HT.out _ _).2 (.inr ⟨by rw [HP.out], by rw [HP.out]; exact HE.out, HO3.out⟩)⟩
        case inl =>
          have HP := Lib.hid ((HL5''.out (by omega)).trans (if_neg (by rw [hok, hcl]; simp)))
          obtain ⟨aY, cY, hv⟩ : ∃ a cc, v = .slice a ts.length cc := by
            obtain ⟨_, _, _, hown⟩ := hrow
            exact own_slice hown
          subst hv
          have HM := Lib.hid (hrow.made (w := w2) (Nat.le_refl _) (by omega))
          have HO3 := Lib.hid (only_trans HO2.out ho3)
          have HR3 := Lib.hid hr3
          have hsz3 := ho3.size
          have HX3 := Lib.hid (HX2.out.only ho3 hgne)
          have HY3 := Lib.hid (HY2.out.only ho3 (by omega))
          clear hok hcl hrow hr3 ho3
          have HY4 := Lib.hid (HY3.out.set4 (.slice aY ts.length cY))
          have HK4 := Lib.hid (fun j (h : j ≠ y) => Below.heap_setCell w3 ⟨y, 4, none⟩ (.slice aY ts.length cY) j h)
          have HX4 := Lib.hid (HX3.out.same (HK4.out W.heap.size (by omega)))
          have HR4 := Lib.hid (HR3.out.stay (HK4.out g (by omega)) (HK4.out b (by omega)))
          have HO4 := Lib.hid (only_put HO3.out (p := ⟨y, 4, none⟩) (by show W.heap.size ≤ y; omega) (.slice aY ts.length cY))
          have hz4 : (w3.setCell ⟨y, 4, none⟩ (.slice aY ts.length cY)).heap.size = w3.heap.size := by simp
          obtain ⟨w4, hw4⟩ : ∃ w4, w3.setCell ⟨y, 4, none⟩ (.slice aY ts.length cY) = w4 := ⟨_, rfl⟩
          rw [hw4] at HY4 HK4 HX4 HR4 HO4 hz4
          have HX5 := Lib.hid (HX4.out.sets (.int .i64 5) (.string tx) (.int .i64 0) (.int .i64 tp) (.slice aY ts.length cY))
          have HR5 := Lib.hid (HR4.out.sets5 (x := W.heap.size) hg (.int .i64 5) (.string tx) (.int .i64 0) (.int .i64 tp) (.slice aY ts.length cY))
          have HO5 := Lib.hid (only_sets5 HO4.out (Nat.le_refl _) (.int .i64 5) (.string tx) (.int .i64 0) (.int .i64 tp) (.slice aY ts.length cY))
          have HMK := Lib.hid (rv_args (w := W) (U := sets5 w4 W.heap.size (.int .i64 5) (.string tx) (.int .i64 0) (.int .i64 tp) (.slice aY ts.length cY)) hfit HM.out (by omega) (by simp [hz4]) (fun j j1 j2 => by
            rw [sets5_heap _ _ _ _ _ _ _ j (by omega), HK4.out j (by omega)]))
          obtain ⟨y0, y1, y2, y3, y4, yf0, yf1, yf2, yf3, yf4⟩ := HY3.out
          obtain ⟨z0, z1, z2, z3, z4, _, _, _, _, _⟩ := HY4.out
          obtain ⟨r0, r1, r2, r3, r4, rf0, rf1, rf2, rf3, rf4⟩ := HX4.out
          clear hw2 hw0
          go_wp2_with fail
          (try rw [hw4])
          obtain ⟨r0, r1, r2, r3, r4, _, _, _, _, _⟩ := HX5.out
          refine bodyPost_ret (v := .agg #[.int .i64 5, .string tx, .int .i64 0, .int .i64 tp, .slice aY ts.length cY]) (by simp [results, Tryz.results47, go_sem, r0, r1, r2, r3, r4]) rfl ?_
          exact (HT.out _ _).2 (.inl ⟨by rw [HP.out], ⟨.mk 5 tx 0 tp ts, aY, cY⟩, rfl, by rw [HP.out], HMK.out, by rw [HP.out]; exact HR5.out, HO5.out⟩)

/-- term and terms do as they should. -/
theorem term_both (hF : Fine L) : ∀ (m : Nat),
    (∀ (i op : Nat), L.length - i ≤ m → op ≤ 40 → ∀ W, Rdr W g b o c L i op → Calls Tryz.prog 47 #[.pointer (some ⟨g, 0, none⟩)] W (TermPPost g b o c L i op W)) ∧
    ∀ (i : Nat) (sg : ByteArray) (op : Nat), L.length - i ≤ m → op ≤ 40 → sg ∈ signL → ∀ W, Rdr W g b o c L i op → Calls Tryz.prog 56 #[.pointer (some ⟨g, 0, none⟩), .string sg] W (TermsPPost g b o c L i sg op W)
  | 0 => ⟨fun i op h _ W hr => by have := hr.here; omega, fun i sg op h _ _ W hr => by have := hr.here; omega⟩
  | m + 1 => by
    obtain ⟨_, h2⟩ := term_both hF m
    have ht : ∀ (i op : Nat), L.length - i ≤ m + 1 → op ≤ 40 → ∀ W, Rdr W g b o c L i op → Calls Tryz.prog 47 #[.pointer (some ⟨g, 0, none⟩)] W (TermPPost g b o c L i op W) := fun i op h hop W hr =>
      term_one hF i op W hr hop fun V h40 hv => h2 (i + 2) sComma (op + 1) (by have := hr.here; omega) (by omega) (by unfold signL; simp) V hv
    exact ⟨ht, fun i sg op h hop hs W hr => terms_one hF.ended hF.len i sg op W hr (hF.sign sg hs) fun j V hj hv => ht j op (by omega) hop V hv⟩
theorem term_any (hF : Fine L) (i op : Nat) (hop : op ≤ 40) (W : World) (h : Rdr W g b o c L i op) : Calls Tryz.prog 47 #[.pointer (some ⟨g, 0, none⟩)] W (TermPPost g b o c L i op W) := (term_both hF _).1 i op (Nat.le_refl _) hop W h
theorem terms_any (hF : Fine L) (i : Nat) (sg : ByteArray) (op : Nat) (hop : op ≤ 40) (hs : sg ∈ signL) (W : World) (h : Rdr W g b o c L i op) : Calls Tryz.prog 56 #[.pointer (some ⟨g, 0, none⟩), .string sg] W (TermsPPost g b o c L i sg op W) := (term_both hF _).2 i sg op (Nat.le_refl _) hop hs W h
end
end Go.Proofs.YtldgbdmiebipnaaGreatDoor

namespace Go.Proofs.YtldgbdmiebipnaaGreatDoor
open Go.RowKit

/-! Operations on items and rows of trees. -/
theorem item_field2 (x : Nat) (w : World) : (Instr.fieldAt 63 (.pointer (some ⟨x, 0, none⟩)) 2).run Tryz.prog w = .ok (.pointer (some ⟨x, 2, none⟩)) w := by kernel_rfl
theorem item_field3 (x : Nat) (w : World) : (Instr.fieldAt 63 (.pointer (some ⟨x, 0, none⟩)) 3).run Tryz.prog w = .ok (.pointer (some ⟨x, 3, none⟩)) w := by kernel_rfl
theorem trees_load (p : Addr) (w : World) (v : Value) (h : w.cell? p = some v) : (Instr.loadAt 37 (.pointer (some p))).run Tryz.prog w = .ok v w := by
  go_simp
theorem trees_store (p : Addr) (w : World) (a : Option Addr) (n c : Nat) (u : Value) (h : w.cell? p = some u) (hf : w.frozen? p = false) : (Instr.storeAt 37 (.pointer (some p)) (.slice a n c)).run Tryz.prog w = .ok () (w.setCell p (.slice a n c)) := by
  go_simp
theorem tree_slice (y : Rv) (w : World) : (Instr.buildSlice 37 1 #[(0, y.val)]).run Tryz.prog w = .ok (.slice (some ⟨w.heap.size, 0, none⟩) 1 1) (w.alloc (.cells y.cells.toArray 39)) := by
  unfold Rv.val Rv.cells
  go_simp
theorem fn_word (v : Value) (w : World) : (callFunc 52 #[v]).run Tryz.prog w = .ok (.enter 52 #[v]) w := by kernel_rfl
theorem fn_number (v : Value) (w : World) : (callFunc 54 #[v]).run Tryz.prog w = .ok (.enter 54 #[v]) w := by kernel_rfl
theorem fn_term (v : Value) (w : World) : (callFunc 47 #[v]).run Tryz.prog w = .ok (.enter 47 #[v]) w := by kernel_rfl
theorem treeInfoP : (Tryz.prog.info? 39).map (fun i => (i.zero, i.size, i.bytes)) = some (some (.agg #[.int .i64 0, .string ⟨#[]⟩, .int .i64 0, .int .i64 0, .slice none 0 0]), 5, 64) := by kernel_rfl
/-- One tree more, behind a call that has answered it: what is left to be done. -/
theorem tree_after {Q : Exit → Act → World → Prop} {p : Addr} {v0 : Value} {fin : Value → Value → Act} {y : Rv} {w1 : World} {base n : Nat} {xs : List Value}
    (hown : w1.ownsRow base 39 5 v0 n xs) (hb : base ≤ w1.heap.size) (hc : w1.cell? p = some v0) (hf : w1.frozen? p = false) (hn : v0.ownBlock ≠ some p.block) (hlen : n ≤ 1000000)
    (h : ∀ v1 w2, w2.ownsRow base 39 5 v1 (n + 1) (xs ++ y.cells) → (w1.alloc (.cells y.cells.toArray 39)).grownBy w2 v0.ownBlock → (v1.ownBlock = v0.ownBlock ∨ v1.ownBlock = some (w1.alloc (.cells y.cells.toArray 39)).heap.size) → Q .normal (fin (.slice (some ⟨w1.heap.size, 0, none⟩) 1 1) v1) (w2.setCell p v1)) :
    AppAfter Tryz.prog Q 37 p v0 fin y.val w1 := by
  obtain ⟨i0, hti, hz0, hz1, hz2⟩ := info_parts treeInfoP
  have hpl : p.block < w1.heap.size := World.block_lt_of_cell? w1 p hc
  have hsz : (w1.alloc (.cells y.cells.toArray 39)).heap.size = w1.heap.size + 1 := by simp
  have hcB : (w1.alloc (.cells y.cells.toArray 39)).cell? p = some v0 := by rw [World.cell?_alloc_lt _ _ _ hpl]; exact hc
  have hfB : (w1.alloc (.cells y.cells.toArray 39)).frozen? p = false := by rw [World.frozen?_alloc_old _ _ _ (Nat.ne_of_lt hpl)]; exact hf
  refine ⟨hc, _, _, tree_slice y w1, hcB, ?_⟩
  obtain ⟨v1, w2, hr, h2, h3, _, h5⟩ := run_append_own_at (P := Tryz.prog) (w1.alloc (.cells y.cells.toArray 39)) base 37 37 39 i0 (.agg #[.int .i64 0, .string ⟨#[]⟩, .int .i64 0, .int .i64 0, .slice none 0 0]) 5 64 Tryz.underlying37 hti hz0 hz1 hz2 rfl (by decide) v0 n xs (hown.alloc _) ⟨w1.heap.size, 0, none⟩ 1 1 y.cells rfl (new_row w1 _ _) (rv_one y) (by unfold maxLen; omega) (by omega) (by rw [hsz]; omega)
  refine ⟨v1, w2, hr, ?_⟩
  obtain ⟨a, c, rfl⟩ := own_slice h2
  have hk : w2.heap[p.block]? = (w1.alloc (.cells y.cells.toArray 39)).heap[p.block]? := h3.block _ (by omega) (fun e => hn e.symm)
  refine ⟨_, trees_store p w2 a (n + 1) c v0 ((World.cell?_of_block hk).trans hcB) ((World.frozen?_of_block hk).trans hfB), h _ _ h2 h3 h5⟩

/-! What stands. -/
structure ItSt (W0 : World) (g b o c : Nat) (L : List Tok) (x : Nat) (it : It) (j : Nat) (vw vt : Value) (W : World) : Prop where
  rdr : Rdr W g b o c L j 0
  only : W0.grownBy W (some g)
  glt : g < W0.heap.size
  res : Box W W0.heap.size (.string ⟨#[]⟩) (.int .i64 0) (.slice none 0 0) (.slice none 0 0)
  arg : Box W x (.string it.key) (.int .i64 it.spot) vw vt
  lt : W0.heap.size < x
  rows : RowsI W (fun k => k = x ∨ k = W0.heap.size) 39 W0.heap.size vw it.words vt it.trees
theorem RowsI.only {W W' : World} {Z : Nat → Prop} {e : TypeId} {base g : Nat} {vw vt : Value} {ws ts : List Tr} (h : RowsI W Z e base vw ws vt ts) (hb : W.grownBy W' (some g)) (hg : g < base) : RowsI W' Z e base vw ws vt ts := by
  have hlt := h.lt
  obtain ⟨⟨vs, h1, h2, h3⟩, ⟨us, k1, k2, k3⟩, ha, ho⟩ := h
  have hne : ∀ k, base ≤ k → some k ≠ some g := fun k hk e => by injection e with e; omega
  have hK : ∀ y : Rv, LiveA W (rowsZ Z vw vt) base y → LiveA W' (rowsZ Z vw vt) base y := fun y hy => by
    obtain ⟨lo, hi, q1, q2, q3, q4, q5⟩ := hy
    refine ⟨lo, hi, q1, q2, Nat.le_trans q3 hb.size, q4, fun W2 g1 g2 => q5 W2 g1 fun k k1 k2 => ?_⟩
    rw [g2 k k1 k2]
    exact hb.block k (by omega) (hne k (by omega))
  exact ⟨⟨vs, h1, fun x hx => hK x (h2 x hx), own_at h3 fun k q => hb.block k (hlt k (.inl q)).2 (hne k (hlt k (.inl q)).1)⟩, ⟨us, k1, fun x hx => hK x (k2 x hx), own_at k3 fun k q => hb.block k (hlt k (.inr q)).2 (hne k (hlt k (.inr q)).1)⟩, ha, ho⟩
section
variable {W0 W W' : World} {g b o c : Nat} {L : List Tok} {x : Nat} {it : It} {j j' : Nat} {vw vt : Value}
/-- Behind a call that turns the reader alone. -/
theorem ItSt.call (h : ItSt W0 g b o c L x it j vw vt W) (hr : Rdr W' g b o c L j' 0) (ho : W.grownBy W' (some g)) : ItSt W0 g b o c L x it j' vw vt W' := by
  have h1 := h.glt
  have h2 := h.lt
  have hb : ∀ k, g < k → k < W.heap.size → W'.heap[k]? = W.heap[k]? := fun k k1 k2 => ho.block k k2 (fun e => by injection e with e; omega)
  refine ⟨hr, only_trans h.only ho, h1, h.res.stays (hb _ h1 (lt_of_cellR h.res.c0)), h.arg.stays (hb _ (by omega) (lt_of_cellR h.arg.c0)), h2, h.rows.only ho h1⟩
/-- One term more. -/
theorem ItSt.push (h : ItSt W0 g b o c L x it j vw vt W) {y : Rv} {us : List Rv} (h1 : us.map Rv.t = it.trees) (h2 : ∀ z ∈ us, LiveA W (rowsZ (fun k => k = x ∨ k = W0.heap.size) vw vt) W0.heap.size z)
    (hy : LiveA W (rowsZ (fun k => k = x ∨ k = W0.heap.size) vw vt) W0.heap.size y) {O : Obj} {v1 : Value} {w2 : World} (hown : w2.ownsRow W0.heap.size 39 5 v1 (it.trees.length + 1) (rowRv us ++ y.cells))
    (hg : (W.alloc O).grownBy w2 vt.ownBlock) (hat : v1.ownBlock = vt.ownBlock ∨ v1.ownBlock = some (W.alloc O).heap.size) :
    ItSt W0 g b o c L x { it with trees := it.trees ++ [y.t] } j vw v1 (w2.setCell ⟨x, 3, none⟩ v1) := by
  have hB : Below W.heap.size W (W.alloc O) := (Below.refl _ _).alloc (Nat.le_refl _) _
  have hlt := h.rows.lt
  have k1 := h.glt
  have k2 := h.lt
  have kx := lt_of_cellR h.arg.c0
  have kr := lt_of_cellR h.res.c0
  have hge : ∀ k, vt.ownBlock = some k → W0.heap.size ≤ k := fun k e => (hlt k (.inr e)).1
  have hnx : ∀ k, k = x ∨ k = W0.heap.size → vt.ownBlock ≠ some k := fun k hk e => h.rows.out k (.inr e) hk
  have hsz : (W.alloc O).heap.size = W.heap.size + 1 := by simp
  have hbk : ∀ k, k < W.heap.size → vt.ownBlock ≠ some k → w2.heap[k]? = W.heap[k]? := fun k q1 q2 => (hg.block k (by omega) (fun e => q2 e.symm)).trans (hB.block k q1)
  have hset : ∀ k, k ≠ x → (w2.setCell ⟨x, 3, none⟩ v1).heap[k]? = w2.heap[k]? := fun k hk => Below.heap_setCell _ _ _ _ hk
  have hrows := (h.rows.below hB).more (news := [y]) h1 (fun z hz => (h2 z hz).below hB) (fun z hz => by rw [List.mem_singleton] at hz; rw [hz]; exact hy.below hB) (n := it.trees.length + 1) rfl (by rw [rowRv_one]; exact hown) hg hat (fun k hk => by rcases hk with rfl | rfl <;> omega)
  refine ⟨?_, ?_, k1, ?_, ?_, k2, ?_⟩
  · have hr2 := (h.rdr.below hB).row hg (fun q e => by have := hge q e; omega)
    exact hr2.stay (hset g (by omega)) (hset b (by have := h.rdr.lt; omega))
  · exact only_put (only_row (only_next h.only hB) hg hge) (p := ⟨x, 3, none⟩) (by show W0.heap.size ≤ x; omega) v1
  · exact (h.res.stays (hbk _ kr (hnx _ (.inr rfl)))).stays (hset _ (by omega))
  · exact (h.arg.stays (hbk _ kx (hnx _ (.inl rfl)))).put3 v1
  · exact hrows.aside (by simp) (fun k hk => hset k (fun e => hk (.inl e)))
/-- One word more. -/
theorem ItSt.pushW (h : ItSt W0 g b o c L x it j vw vt W) {y : Rv} {us : List Rv} (h1 : us.map Rv.t = it.words) (h2 : ∀ z ∈ us, LiveA W (rowsZ (fun k => k = x ∨ k = W0.heap.size) vw vt) W0.heap.size z)
    (hy : LiveA W (rowsZ (fun k => k = x ∨ k = W0.heap.size) vw vt) W0.heap.size y) {O : Obj} {v1 : Value} {w2 : World} (hown : w2.ownsRow W0.heap.size 39 5 v1 (it.words.length + 1) (rowRv us ++ y.cells))
    (hg : (W.alloc O).grownBy w2 vw.ownBlock) (hat : v1.ownBlock = vw.ownBlock ∨ v1.ownBlock = some (W.alloc O).heap.size) :
    ItSt W0 g b o c L x { it with words := it.words ++ [y.t] } j v1 vt (w2.setCell ⟨x, 2, none⟩ v1) := by
  have hB : Below W.heap.size W (W.alloc O) := (Below.refl _ _).alloc (Nat.le_refl _) _
  have hlt := h.rows.lt
  have k1 := h.glt
  have k2 := h.lt
  have kx := lt_of_cellR h.arg.c0
  have kr := lt_of_cellR h.res.c0
  have hge : ∀ k, vw.ownBlock = some k → W0.heap.size ≤ k := fun k e => (hlt k (.inl e)).1
  have hnx : ∀ k, k = x ∨ k = W0.heap.size → vw.ownBlock ≠ some k := fun k hk e => h.rows.out k (.inl e) hk
  have hsz : (W.alloc O).heap.size = W.heap.size + 1 := by simp
  have hbk : ∀ k, k < W.heap.size → vw.ownBlock ≠ some k → w2.heap[k]? = W.heap[k]? := fun k q1 q2 => (hg.block k (by omega) (fun e => q2 e.symm)).trans (hB.block k q1)
  have hset : ∀ k, k ≠ x → (w2.setCell ⟨x, 2, none⟩ v1).heap[k]? = w2.heap[k]? := fun k hk => Below.heap_setCell _ _ _ _ hk
  have hZ : rowsZ (fun k => k = x ∨ k = W0.heap.size) vt vw = rowsZ (fun k => k = x ∨ k = W0.heap.size) vw vt := by funext k; unfold rowsZ; rw [rowsP_swap]
  have hrows := (h.rows.swap.below hB).more (news := [y]) h1 (fun z hz => by rw [hZ]; exact (h2 z hz).below hB) (fun z hz => by rw [List.mem_singleton] at hz; rw [hz, hZ]; exact hy.below hB) (n := it.words.length + 1) rfl (by rw [rowRv_one]; exact hown) hg hat (fun k hk => by rcases hk with rfl | rfl <;> omega)
  refine ⟨?_, ?_, k1, ?_, ?_, k2, ?_⟩
  · have hr2 := (h.rdr.below hB).row hg (fun q e => by have := hge q e; omega)
    exact hr2.stay (hset g (by omega)) (hset b (by have := h.rdr.lt; omega))
  · exact only_put (only_row (only_next h.only hB) hg hge) (p := ⟨x, 2, none⟩) (by show W0.heap.size ≤ x; omega) v1
  · exact (h.res.stays (hbk _ kr (hnx _ (.inr rfl)))).stays (hset _ (by omega))
  · exact (h.arg.stays (hbk _ kx (hnx _ (.inl rfl)))).put2 v1
  · exact hrows.swap.aside (by simp) (fun k hk => hset k (fun e => hk (.inl e)))
end
end Go.Proofs.YtldgbdmiebipnaaGreatDoor

namespace Go.Proofs.YtldgbdmiebipnaaGreatDoor
open Go.RowKit

mutual
/-- A tree with arguments at a function alone. -/
def WfR : Tr → Prop
  | .mk k _ _ _ xs => (k ≠ 5 → xs = []) ∧ WfRs xs
def WfRs : List Tr → Prop
  | [] => True
  | t :: r => WfR t ∧ WfRs r
end
theorem wfRs_get : ∀ {l : List Tr}, WfRs l → ∀ {j : Nat} (h : j < l.length), WfR l[j]
  | [], _, j, h => by simp at h
  | t :: r, hw, 0, _ => by rw [WfRs] at hw; exact hw.1
  | t :: r, hw, j + 1, h => by rw [WfRs] at hw; exact wfRs_get hw.2 (j := j) (by simpa using h)
theorem wfR_args {t : Tr} (h : WfR t) : (t.kind ≠ 5 → t.args = []) ∧ WfRs t.args := by cases t; rw [WfR] at h; exact h
theorem plain_take {xs : List Tr} {j : Nat} (h : j < xs.length) : (xs.take (j + 1)).map plainR = (xs.take j).map plainR ++ [plainR xs[j]] := by
  rw [List.take_succ_eq_append_getElem h, List.map_append]; rfl

theorem terms_load (p : Addr) (w : World) (v : Value) (h : w.cell? p = some v) : (Instr.loadAt 98 (.pointer (some p))).run Tryz.prog w = .ok v w := by
  go_simp
theorem terms_store (p : Addr) (w : World) (a : Option Addr) (n c : Nat) (u : Value) (h : w.cell? p = some u) (hf : w.frozen? p = false) : (Instr.storeAt 98 (.pointer (some p)) (.slice a n c)).run Tryz.prog w = .ok () (w.setCell p (.slice a n c)) := by
  go_simp
theorem term_field3 (x : Nat) (w : World) : (Instr.fieldAt 100 (.pointer (some ⟨x, 0, none⟩)) 3).run Tryz.prog w = .ok (.pointer (some ⟨x, 3, none⟩)) w := by kernel_rfl
theorem term_slice (y : Tv) (w : World) : (Instr.buildSlice 98 1 #[(0, y.val)]).run Tryz.prog w = .ok (.slice (some ⟨w.heap.size, 0, none⟩) 1 1) (w.alloc (.cells y.cells.toArray 100)) := by
  unfold Tv.val Tv.cells
  go_simp
theorem fn_plain (v : Value) (w : World) : (callFunc 66 #[v]).run Tryz.prog w = .ok (.enter 66 #[v]) w := by kernel_rfl
theorem tree_load {w : World} {g : Nat} {x0 x1 x2 x3 x4 : Value} (h : Box5 w g x0 x1 x2 x3 x4) : (Instr.loadAt 39 (.pointer (some ⟨g, 0, none⟩))).run Tryz.prog w = .ok (.agg #[x0, x1, x2, x3, x4]) w := by
  obtain ⟨c0, c1, c2, c3, c4, _, _, _, _, _⟩ := h
  go_simp
theorem tv_one (y : Tv) : ∀ u ∈ y.cells, u.oneCell' = true := by rw [← rowTv_one]; exact rowTv_one' [y]
/-- One term more, behind a call that has answered it: what is left to be done. -/
theorem term_after {Q : Exit → Act → World → Prop} {p : Addr} {v0 : Value} {fin : Value → Value → Act} {y : Tv} {w1 : World} {base n : Nat} {xs : List Value}
    (hown : w1.ownsRow base 100 4 v0 n xs) (hb : base ≤ w1.heap.size) (hc : w1.cell? p = some v0) (hf : w1.frozen? p = false) (hn : v0.ownBlock ≠ some p.block) (hlen : n ≤ 1000000)
    (h : ∀ v1 w2, w2.ownsRow base 100 4 v1 (n + 1) (xs ++ y.cells) → (w1.alloc (.cells y.cells.toArray 100)).grownBy w2 v0.ownBlock → (v1.ownBlock = v0.ownBlock ∨ v1.ownBlock = some (w1.alloc (.cells y.cells.toArray 100)).heap.size) → Q .normal (fin (.slice (some ⟨w1.heap.size, 0, none⟩) 1 1) v1) (w2.setCell p v1)) :
    AppAfter Tryz.prog Q 98 p v0 fin y.val w1 := by
  obtain ⟨i0, hti, hz0, hz1, hz2⟩ := info_parts termInfo
  have hpl : p.block < w1.heap.size := World.block_lt_of_cell? w1 p hc
  have hsz : (w1.alloc (.cells y.cells.toArray 100)).heap.size = w1.heap.size + 1 := by simp
  have hcB : (w1.alloc (.cells y.cells.toArray 100)).cell? p = some v0 := by rw [World.cell?_alloc_lt _ _ _ hpl]; exact hc
  have hfB : (w1.alloc (.cells y.cells.toArray 100)).frozen? p = false := by rw [World.frozen?_alloc_old _ _ _ (Nat.ne_of_lt hpl)]; exact hf
  refine ⟨hc, _, _, term_slice y w1, hcB, ?_⟩
  obtain ⟨v1, w2, hr, h2, h3, _, h5⟩ := run_append_own_at (P := Tryz.prog) (w1.alloc (.cells y.cells.toArray 100)) base 98 98 100 i0 (.agg #[.int .i64 0, .string ⟨#[]⟩, .int .i64 0, .slice none 0 0]) 4 56 Tryz.underlying98 hti hz0 hz1 hz2 rfl (by decide) v0 n xs (hown.alloc _) ⟨w1.heap.size, 0, none⟩ 1 1 y.cells rfl (new_row w1 _ _) (tv_one y) (by unfold maxLen; omega) (by omega) (by rw [hsz]; omega)
  refine ⟨v1, w2, hr, ?_⟩
  obtain ⟨a, c, rfl⟩ := own_slice h2
  have hk : w2.heap[p.block]? = (w1.alloc (.cells y.cells.toArray 100)).heap[p.block]? := h3.block _ (by omega) (fun e => hn e.symm)
  refine ⟨_, terms_store p w2 a (n + 1) c v0 ((World.cell?_of_block hk).trans hcB) ((World.frozen?_of_block hk).trans hfB), h _ _ h2 h3 h5⟩

theorem three_box (w : World) (O : Obj) (x0 x1 x2 x3 : Value) (t : TypeId) : Box (((w.alloc O).alloc (.cells #[x0, x1, x2, x3] t)).alloc (.cells #[x0, x1, x2, x3] t)) (w.heap.size + 1) x0 x1 x2 x3 := by
  have h := (box_new (w.alloc O) x0 x1 x2 x3 t).below ((Below.refl _ _).alloc (Nat.le_refl _) (.cells #[x0, x1, x2, x3] t)) (by simp)
  rwa [show (w.alloc O).heap.size = w.heap.size + 1 from by simp] at h
/-- What a call of Plain leaves. -/
def PlainPost (u : Tm) (w : World) (e : Ending) (w' : World) : Prop := ∃ z : Tv, e = .returned z.val ∧ z.t = u ∧ MadeT w w' z ∧ Below w.heap.size w w'
set_option maxRecDepth 100000 in
set_option maxHeartbeats 4000000 in
theorem pplain_tm (m : Nat) : ∀ (x : Rv) (w : World), x.t.parts ≤ m → m ≤ 1000000 → WfR x.t → x.ok w →
    Calls Tryz.prog 66 #[x.val] w (PlainPost (plainR x.t) w) := by
  induction m with
  | zero => intro x w h; have := trParts_pos x.t; omega
  | succ m ih =>
    intro x w hm hm1 hwf hx
    obtain ⟨⟨kd, tx, tn, tp, xs⟩, ax, cx⟩ := x
    obtain ⟨hfit, hargs⟩ := hx
    obtain ⟨hne, hwfs⟩ := wfR_args hwf
    simp only [Tr.kind, Tr.text, Tr.n, Tr.spot, Tr.args] at hfit hargs hne hwfs
    have HE := Lib.hid (show plainR (.mk kd tx tn tp xs) = .mk kd (if kd = 1 ∨ kd = 5 then tx else ⟨#[]⟩) (if kd = 3 ∨ kd = 4 then tn else 0) (plainRs xs) by rw [plainR])
    have PP := Lib.hid (fun (e : Ending) (w' : World) (z : Tv) (h1 : e = .returned z.val) (h2 : z.t = plainR (.mk kd tx tn tp xs)) (h3 : MadeT w w' z) (h4 : Below w.heap.size w w') => (show PlainPost (plainR (.mk kd tx tn tp xs)) w e w' from ⟨z, h1, h2, h3, h4⟩))
    unfold Rv.val
    simp only [Tr.kind, Tr.text, Tr.n, Tr.spot, Tr.args]
    by_cases h5 : kd = 5
    · subst h5
      have hlenm : xs.length ≤ m := by have h1 := partsR_length xs; have h2 := trParts_eq (.mk 5 tx tn tp xs); simp only [Tr.args] at h2; simp only at hm; omega
      have HPL := Lib.hid (fun j (h : j < xs.length) => (show xs[j].parts ≤ m by have h1 := partsR_get xs h; have h2 := trParts_eq (.mk 5 tx tn tp xs); simp only [Tr.args] at h2; simp only at hm; omega))
      have HWF := Lib.hid (fun j (h : j < xs.length) => wfRs_get hwfs h)
      have IH := Lib.hid ih
      have HA := Lib.hid hargs
      have hxl := hargs.1.1
      have hz3 : (((w.alloc (.cells #[.int .i64 5, .string tx, .int .i64 tn, .int .i64 tp, .slice ax xs.length cx] 39)).alloc (.cells #[.int .i64 0, .string ⟨#[]⟩, .int .i64 0, .slice none 0 0] 100)).alloc (.cells #[.int .i64 5, .string tx, .int .i64 0, .slice none 0 0] 100)).heap.size = w.heap.size + 3 := by simp
      have hB3 : Below w.heap.size w (((w.alloc (.cells #[.int .i64 5, .string tx, .int .i64 tn, .int .i64 tp, .slice ax xs.length cx] 39)).alloc (.cells #[.int .i64 0, .string ⟨#[]⟩, .int .i64 0, .slice none 0 0] 100)).alloc (.cells #[.int .i64 5, .string tx, .int .i64 0, .slice none 0 0] 100)) := (((Below.refl w.heap.size w).alloc (Nat.le_refl _) _).alloc (by simp) _).alloc (by simp; omega) _
      have bR := (box_new (w.alloc (.cells #[.int .i64 5, .string tx, .int .i64 tn, .int .i64 tp, .slice ax xs.length cx] 39)) (.int .i64 0) (.string ⟨#[]⟩) (.int .i64 0) (.slice none 0 0) 100).below ((Below.refl _ _).alloc (Nat.le_refl _) (.cells #[.int .i64 5, .string tx, .int .i64 0, .slice none 0 0] 100)) (by simp)
      have bP := box_new ((w.alloc (.cells #[.int .i64 5, .string tx, .int .i64 tn, .int .i64 tp, .slice ax xs.length cx] 39)).alloc (.cells #[.int .i64 0, .string ⟨#[]⟩, .int .i64 0, .slice none 0 0] 100)) (.int .i64 5) (.string tx) (.int .i64 0) (.slice none 0 0) 100
      rw [show (w.alloc (.cells #[.int .i64 5, .string tx, .int .i64 tn, .int .i64 tp, .slice ax xs.length cx] 39)).heap.size = w.heap.size + 1 from by simp] at bR
      rw [show ((w.alloc (.cells #[.int .i64 5, .string tx, .int .i64 tn, .int .i64 tp, .slice ax xs.length cx] 39)).alloc (.cells #[.int .i64 0, .string ⟨#[]⟩, .int .i64 0, .slice none 0 0] 100)).heap.size = w.heap.size + 1 + 1 from by simp] at bP
      obtain ⟨w3, hw3⟩ : ∃ w3, ((w.alloc (.cells #[.int .i64 5, .string tx, .int .i64 tn, .int .i64 tp, .slice ax xs.length cx] 39)).alloc (.cells #[.int .i64 0, .string ⟨#[]⟩, .int .i64 0, .slice none 0 0] 100)).alloc (.cells #[.int .i64 5, .string tx, .int .i64 0, .slice none 0 0] 100) = w3 := ⟨_, rfl⟩
      rw [hw3] at hz3 hB3 bR bP
      replace hw3 := Lib.hid hw3
      have HB3 := Lib.hid hB3
      have HR3 := Lib.hid bR
      have HP3 := Lib.hid bP
      have HZ3 := Lib.hid hz3
      clear hB3 bR bP ih hargs hwfs hne hm hwf hz3
      go_enter Tryz.func66, Tryz.ntmps66
      go_wp2_with fail
      rw [hw3.out]
      go_loopw [30] (fun iv wr => ∃ (q : Nat) (v : Value), iv = .int .i64 q ∧ q ≤ xs.length ∧ Box wr (w.heap.size + 1 + 1) (.int .i64 5) (.string tx) (.int .i64 0) v ∧ Box wr (w.heap.size + 1) (.int .i64 0) (.string ⟨#[]⟩) (.int .i64 0) (.slice none 0 0) ∧ RowT wr (w.heap.size + 3) v ((xs.take q).map plainR) ∧ Below w.heap.size w wr ∧ w.heap.size + 3 ≤ wr.heap.size) (fun iv _ => xs.length - (intOf iv).toNat)
      case atStart => exact ⟨0, .slice none 0 0, rfl, Nat.zero_le _, HP3.out, HR3.out, rowT_nil _ _, HB3.out, by rw [HZ3.out]; exact Nat.le_refl _⟩
      case round =>
        obtain ⟨q, v, rfl, hq, hP, hR, hrow, hb, hsz⟩ := hrel
        have HP := Lib.hid hP
        have HR := Lib.hid hR
        have HROW := Lib.hid hrow
        have HB := Lib.hid hb
        clear hP hR hrow hb
        by_cases hql : q < xs.length
        · have hq0 : (0 : Int) ≤ (q : Int) := by omega
          have hq1 : (q : Int) < (xs.length : Int) := by omega
          rcases HA.out.2 with h | ⟨b, o, rfl, hlt, hc⟩
          · rw [h] at hql; cases hql
          obtain ⟨y, hyt, hyk, hya⟩ := trAt_rv (rowRAt_get hc hql)
          obtain ⟨m0, m1, m2, m3, m4⟩ := hya.below HB.out
          have hyw := hyk.below HB.out
          have HYT := Lib.hid hyt
          have hbx : Below wr.heap.size wr (wr.alloc (.cells #[.int .i64 y.t.kind, .string y.t.text, .int .i64 y.t.n, .int .i64 y.t.spot, .slice y.a y.t.args.length y.c] 39)) := (Below.refl _ _).alloc (Nat.le_refl _) _
          have HBX := Lib.hid hbx
          have hzx : (wr.alloc (.cells #[.int .i64 y.t.kind, .string y.t.text, .int .i64 y.t.n, .int .i64 y.t.spot, .slice y.a y.t.args.length y.c] 39)).heap.size = wr.heap.size + 1 := by simp
          have HZX := Lib.hid hzx
          have b5 := box5_new wr (.int .i64 y.t.kind) (.string y.t.text) (.int .i64 y.t.n) (.int .i64 y.t.spot) (.slice y.a y.t.args.length y.c) 39
          obtain ⟨g5, hg5⟩ : ∃ g5, wr.heap.size = g5 := ⟨_, rfl⟩
          rw [hg5] at b5
          have HG5 := Lib.hid hg5
          obtain ⟨wx, hwx⟩ : ∃ wx, wr.alloc (.cells #[.int .i64 y.t.kind, .string y.t.text, .int .i64 y.t.n, .int .i64 y.t.spot, .slice y.a y.t.args.length y.c] 39) = wx := ⟨_, rfl⟩
          rw [hwx] at HBX HZX b5
          have HWX := Lib.hid hwx
          have HB5 := Lib.hid b5
          have C := Lib.hid (IH.out y wx.drew (by rw [hyt]; exact HPL.out q hql) (by omega) (by rw [hyt]; exact HWF.out q hql) (hyw.below (HBX.out.trans (Below.refl _ _).drew)))
          unfold PlainPost at C
          have HPX := Lib.hid ((HP.out.below HBX.out (by omega)).stays (w1 := wx.drew) rfl)
          have HRX := Lib.hid ((HR.out.below HBX.out (by omega)).stays (w1 := wx.drew) rfl)
          have HROWX := Lib.hid ((HROW.out.below HBX.out).keep (W' := wx.drew) (Nat.le_refl _) (fun _ _ _ => rfl))
          have HBWX := Lib.hid (below_next HB.out (HBX.out.trans (Below.refl _ _).drew))
          clear hyk hya hyw hbx hzx b5 hwx hyt hg5
          go_wp2_with fail
          rw [HWX.out, HG5.out]
          unfold Rv.val at C
          refine app_regionL (by kernel_rfl) (w.heap.size + 1 + 1) ⟨w.heap.size + 1 + 1, 3, none⟩ ⟨g5, 0, none⟩ (.agg #[.int .i64 y.t.kind, .string y.t.text, .int .i64 y.t.n, .int .i64 y.t.spot, .slice y.a y.t.args.length y.c]) v 43 rfl (by decide) (by decide) rfl rfl (tree_load (HB5.out.same (w1 := wx.drew) rfl)) (term_field3 _) (fun _ _ h => terms_load _ _ _ h) (fn_plain _) HPX.out.c3 (fun _ _ _ _ _ h => h) ?_
          refine C.out.mono ?_
          rintro e w4 ⟨z, rfl, hzt, hzm, hb4⟩
          have hs4 := hb4.size
          have hzd : wx.drew.heap.size = wx.heap.size := rfl
          have hs5 : wr.heap.size + 1 ≤ w4.heap.size := by have := HZX.out; omega
          obtain ⟨vs, h1, h2, hown⟩ := HROWX.out.below hb4
          have hP4 := HPX.out.below hb4 (by rw [hzd, HZX.out]; omega)
          have hR4 := HRX.out.below hb4 (by rw [hzd, HZX.out]; omega)
          have hlr : ∀ k, v.ownBlock = some k → k < wx.drew.heap.size := by obtain ⟨_, _, _, ho⟩ := HROWX.out; exact own_row_lt ho
          have hlo := own_row_ge hown
          have hlenq : ((xs.take q).map plainR).length = q := by rw [List.length_map, List.length_take]; omega
          rw [hlenq] at hown
          refine term_after hown (by omega) hP4.c3 hP4.f3 (fun e => by have := hlo _ e; simp at this; omega) (by omega) ?_
          intro v1 w5 g1 g2 g3
          obtain ⟨a1, c1, hv1⟩ : ∃ a c, v1 = .slice a (q + 1) c := own_slice g1
          subst hv1
          have hB45 : Below w4.heap.size w4 (w4.alloc (.cells z.cells.toArray 100)) := (Below.refl _ _).alloc (Nat.le_refl _) _
          have hz45 : (w4.alloc (.cells z.cells.toArray 100)).heap.size = w4.heap.size + 1 := by simp
          have hlive : LiveT (w4.alloc (.cells z.cells.toArray 100)) v.ownBlock (w.heap.size + 3) z := (hzm.live hs4 (by rw [hzd, HZX.out]; omega) (fun k e => .inl (hlr k e))).keep hB45.size (fun k _ hk _ => hB45.block k hk) (fun k e => .inl e)
          have hrow5 := RowT.snoc (ts := (xs.take q).map plainR) (v' := .slice a1 (q + 1) c1) h1 (fun x hx => (h2 x hx).keep hB45.size (fun k _ hk _ => hB45.block k hk) (fun k e => .inl e)) hlive (by rw [hlenq]; exact g1) g2 g3
          have hset : ∀ k, k ≠ w.heap.size + 1 + 1 → (w5.setCell ⟨w.heap.size + 1 + 1, 3, none⟩ (.slice a1 (q + 1) c1)).heap[k]? = w5.heap[k]? := fun k hk => Below.heap_setCell _ _ _ _ hk
          have hbk : ∀ k, k < w.heap.size + 3 → w5.heap[k]? = w4.heap[k]? := fun k hk => (g2.block k (by rw [hz45]; omega) (fun e => by have := hlo k e.symm; omega)).trans (hB45.block k (by omega))
          have HROW6 := Lib.hid (hrow5.keep (W' := w5.setCell ⟨w.heap.size + 1 + 1, 3, none⟩ (.slice a1 (q + 1) c1)) (by simp) (fun k k1 _ => hset k (by omega)))
          have HP6 := Lib.hid ((hP4.stays (hbk _ (by omega))).put3 (.slice a1 (q + 1) c1))
          have HR6 := Lib.hid ((hR4.stays (hbk _ (by omega))).stays (hset _ (by omega)))
          have hsz5 := g2.size
          have HB6 := Lib.hid (show Below w.heap.size w (w5.setCell ⟨w.heap.size + 1 + 1, 3, none⟩ (.slice a1 (q + 1) c1)) from
            (((below_next HBWX.out hb4).alloc (by omega) _).grown g2 (by rw [hz45]; omega) (fun k e => by have := hlo k e; omega)).setCell (p := ⟨w.heap.size + 1 + 1, 3, none⟩) (by show w.heap.size ≤ w.heap.size + 1 + 1; omega) _)
          have hsz6 : w.heap.size + 3 ≤ (w5.setCell ⟨w.heap.size + 1 + 1, 3, none⟩ (.slice a1 (q + 1) c1)).heap.size := by simp; rw [hz45] at hsz5; omega
          have HTK := Lib.hid (show (xs.take q).map plainR ++ [z.t] = (xs.take (q + 1)).map plainR by rw [plain_take hql, hzt, HYT.out])
          obtain ⟨w6, hw6⟩ : ∃ w6, w5.setCell ⟨w.heap.size + 1 + 1, 3, none⟩ (.slice a1 (q + 1) c1) = w6 := ⟨_, rfl⟩
          rw [hw6] at HROW6 HP6 HR6 HB6 hsz6 ⊢
          clear hzt hzm hb4 hs4 hs5 hzd h1 h2 hown hP4 hR4 hlr hlo hlenq g1 g2 g3 hB45 hz45 hlive hrow5 hset hbk hsz5 hw6
          simp only [Act.put, List.setIfInBounds_toArray, List.set_cons_zero, List.set_cons_succ]
          go_wp2_with fail
          go_roundw
          case rel => exact ⟨q + 1, .slice a1 (q + 1) c1, by go_num, by omega, HP6.out, HR6.out, by rw [← HTK.out]; exact HROW6.out, HB6.out, hsz6⟩
          case measure => simp [intOf]; omega
        · obtain rfl : q = xs.length := by omega
          have hqd : decide ((xs.length : Int) < (xs.length : Int)) = false := decide_eq_false (by omega)
          have HT := Lib.hid (show (xs.take xs.length).map plainR = plainRs xs by rw [List.take_length, plainRs_map])
          obtain ⟨a7, c7, hv7⟩ : ∃ a c, v = .slice a xs.length c := by
            obtain ⟨_, _, _, ho⟩ := HROW.out
            rw [List.length_map, List.take_length] at ho
            exact own_slice ho
          subst hv7
          have hrow8 := HROW.out.keep (W' := (((wr.setCell ⟨w.heap.size + 1, 0, none⟩ (.int .i64 5)).setCell ⟨w.heap.size + 1, 1, none⟩ (.string tx)).setCell ⟨w.heap.size + 1, 2, none⟩ (.int .i64 0)).setCell ⟨w.heap.size + 1, 3, none⟩ (.slice a7 xs.length c7)) (by simp) (fun k k1 _ => by
            rw [Below.heap_setCell _ _ _ _ (by show k ≠ w.heap.size + 1; omega), Below.heap_setCell _ _ _ _ (by show k ≠ w.heap.size + 1; omega), Below.heap_setCell _ _ _ _ (by show k ≠ w.heap.size + 1; omega), Below.heap_setCell _ _ _ _ (by show k ≠ w.heap.size + 1; omega)])
          rw [HT.out] at hrow8
          have HMK := Lib.hid (hrow8.made (w := w) (k := 5) (s := tx) (n := 0) ⟨by decide, by decide, by decide, by decide, hfit.len⟩ (by omega) (by rw [plainRs_map, List.length_map]; exact hxl))
          have HB8 := Lib.hid (below_sets HB.out (Nat.le_succ w.heap.size) (.int .i64 5) (.string tx) (.int .i64 0) (.slice a7 xs.length c7))
          have HX8 := Lib.hid (HR.out.fill (.int .i64 5) (.string tx) (.int .i64 0) (.slice a7 xs.length c7))
          obtain ⟨p0, p1, p2, p3, _, _, _, _⟩ := HP.out
          obtain ⟨r0, r1, r2, r3, rf0, rf1, rf2, rf3⟩ := HR.out
          clear hrow8
          go_wp2_with fail
          obtain ⟨r0, r1, r2, r3, _, _, _, _⟩ := HX8.out
          refine bodyPost_ret (v := .agg #[.int .i64 5, .string tx, .int .i64 0, .slice a7 xs.length c7]) (by simp [results, Tryz.results66, go_sem, r0, r1, r2, r3]) rfl ?_
          exact PP.out _ _ ⟨.mk 5 tx 0 (plainRs xs), a7, c7⟩ (by unfold Tv.val; simp only [Tm.kind, Tm.name, Tm.n, Tm.args]; rw [plainRs_map, List.length_map]) (by rw [HE.out]; simp) HMK.out HB8.out
    · have hxs := hne h5
      subst hxs
      simp only [List.length_nil]
      have q5 : (kd == 5) = false := by rw [beq_eq_false_iff_ne]; exact h5
      have HB3 := Lib.hid (fun (O : Obj) (k : Int) (s : ByteArray) (n : Int) => three_box w O (.int .i64 k) (.string s) (.int .i64 n) (.slice none 0 0) 100)
      clear ih hne hwfs hwf hargs
      cases q1 : (kd == 1) with
      | true =>
        have H1 := Lib.hid (show kd = 1 by simpa using q1)
        go_enter Tryz.func66, Tryz.ntmps66
        go_wp2_with fail
        obtain ⟨r0, r1, r2, r3, _, _, _, _⟩ := HB3.out (.cells #[.int .i64 kd, .string tx, .int .i64 tn, .int .i64 tp, .slice ax 0 cx] 39) kd tx 0
        refine bodyPost_ret (v := .agg #[.int .i64 kd, .string tx, .int .i64 0, .slice none 0 0]) (by simp [results, Tryz.results66, go_sem, r0, r1, r2, r3]) rfl ?_
        exact PP.out _ _ ⟨.mk kd tx 0 [], none, 0⟩ rfl (by rw [HE.out, plainRs]; have e1 := H1.out; rw [if_pos (.inl e1), if_neg (by omega)]) (tv_plain ⟨hfit.klo, hfit.khi, by decide, by decide, hfit.len⟩ _ _) (((Below.refl w.heap.size w).alloc (Nat.le_refl _) _).alloc (by simp) _ |>.alloc (by simp; omega) _)
      | false =>
        have H1 := Lib.hid (show kd ≠ 1 by simpa using q1)
        cases q3 : (kd == 3) with
        | true =>
          have H3 := Lib.hid (show kd = 3 by simpa using q3)
          go_enter Tryz.func66, Tryz.ntmps66
          go_wp2_with fail
          obtain ⟨r0, r1, r2, r3, _, _, _, _⟩ := HB3.out (.cells #[.int .i64 kd, .string tx, .int .i64 tn, .int .i64 tp, .slice ax 0 cx] 39) kd ⟨#[]⟩ tn
          refine bodyPost_ret (v := .agg #[.int .i64 kd, .string ⟨#[]⟩, .int .i64 tn, .slice none 0 0]) (by simp [results, Tryz.results66, go_sem, r0, r1, r2, r3]) rfl ?_
          exact PP.out _ _ ⟨.mk kd ⟨#[]⟩ tn [], none, 0⟩ rfl (by rw [HE.out, plainRs]; have e1 := H1.out; have e3 := H3.out; rw [if_neg (by omega), if_pos (.inl e3)]) (tv_plain ⟨hfit.klo, hfit.khi, hfit.nlo, hfit.nhi, by decide⟩ _ _) (((Below.refl w.heap.size w).alloc (Nat.le_refl _) _).alloc (by simp) _ |>.alloc (by simp; omega) _)
        | false =>
          have H3 := Lib.hid (show kd ≠ 3 by simpa using q3)
          cases q4 : (kd == 4) with
          | true =>
            have H4 := Lib.hid (show kd = 4 by simpa using q4)
            go_enter Tryz.func66, Tryz.ntmps66
            go_wp2_with fail
            obtain ⟨r0, r1, r2, r3, _, _, _, _⟩ := HB3.out (.cells #[.int .i64 kd, .string tx, .int .i64 tn, .int .i64 tp, .slice ax 0 cx] 39) kd ⟨#[]⟩ tn
            refine bodyPost_ret (v := .agg #[.int .i64 kd, .string ⟨#[]⟩, .int .i64 tn, .slice none 0 0]) (by simp [results, Tryz.results66, go_sem, r0, r1, r2, r3]) rfl ?_
            exact PP.out _ _ ⟨.mk kd ⟨#[]⟩ tn [], none, 0⟩ rfl (by rw [HE.out, plainRs]; have e1 := H1.out; have e4 := H4.out; rw [if_neg (by omega), if_pos (.inr e4)]) (tv_plain ⟨hfit.klo, hfit.khi, hfit.nlo, hfit.nhi, by decide⟩ _ _) (((Below.refl w.heap.size w).alloc (Nat.le_refl _) _).alloc (by simp) _ |>.alloc (by simp; omega) _)
          | false =>
            have H4 := Lib.hid (show kd ≠ 4 by simpa using q4)
            go_enter Tryz.func66, Tryz.ntmps66
            go_wp2_with fail
            obtain ⟨r0, r1, r2, r3, _, _, _, _⟩ := HB3.out (.cells #[.int .i64 kd, .string tx, .int .i64 tn, .int .i64 tp, .slice ax 0 cx] 39) kd ⟨#[]⟩ 0
            refine bodyPost_ret (v := .agg #[.int .i64 kd, .string ⟨#[]⟩, .int .i64 0, .slice none 0 0]) (by simp [results, Tryz.results66, go_sem, r0, r1, r2, r3]) rfl ?_
            exact PP.out _ _ ⟨.mk kd ⟨#[]⟩ 0 [], none, 0⟩ rfl (by rw [HE.out, plainRs]; have e1 := H1.out; have e3 := H3.out; have e4 := H4.out; rw [if_neg (by omega), if_neg (by omega)]) (tv_plain ⟨hfit.klo, hfit.khi, by decide, by decide, by decide⟩ _ _) (((Below.refl w.heap.size w).alloc (Nat.le_refl _) _).alloc (by simp) _ |>.alloc (by simp; omega) _)
end Go.Proofs.YtldgbdmiebipnaaGreatDoor
