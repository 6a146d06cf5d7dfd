/-
  What a shape's letter stands for, by the reference of layer 11: one.
  What a shape's letter stands for: a number, by the reference of layer 11: one.
  What a shape's letter stands for: a term, by the reference of layer 11: one.
  What a shape's letter stands for: terms, or none, by the reference of layer 11: one.
  What a shape's letter stands for: a sign, by the reference of layer 11: one.
  What a shape's letter stands for, whichever it is, by the reference of layer 11: one.
  What a shape's letter stands for, with the item's rows from a block on, by the reference of layer 11.
  What stands behind a key, by the reference of layer 11: shapes. (printed by tools/genshape.py)
  Scan of the reference, walked: it answers what the scan of the text tells. (as data)
  How many bytes that may be part of a word stand at a place of a text: what parts of package lex answers, and Long of the reference, for every text and every place in it. Neither changes anything. (the reference)
  Digits of the reference of layer 1: a number in decimal. The call makes new memory alone.
  Digits and Number of package chars, and the same of the reference: a number in decimal, and the number from 0 to 999 that a text is; in every world in which the listed variables of strconv hold what they were laid with. Each call makes new memory alone. (the reference)
  Whether a text is the word of a variable, by the reference. Each call makes new memory alone.
  The token that begins at a place of a text, as At of the reference tells it. (the reference)
  Scan of the reference, walked: it answers what the scan of the text tells. (the reference)
  A text's items, by the reference of layer 11: Parse.
  What a call leaves that makes a term. No function of the program.
  Terms that are made: Of of the reference of layer 3.
  A tree as a term, by the reference of layer 11: Plain.
  A primitive's functions and rules, by the reference of layer 12: Get.
  The arity of the first function of a name, and whether a function is in a row, by the reference of layer 10: Arity, Has, Few.
  One function more, by the reference of layer 10: Add.
  Whether a function is in a row, by the reference of layer 10: Has.
  Two rows of functions joined, by the reference of layer 10: Join.
  What a name stands for, by the reference of layer 5: Get.
  Binds put into a term, by the reference of layer 5: Apply.
  Terms that are made: Var of the reference of layer 3.
  Terms with their variables by number, by the reference of layer 8: Canon.
  Whether rows of terms are alike, by the reference of layer 3: Sames.
  Whether two rules are alike but for names, by the reference of layer 8: Same. (printed by tools/gensame.py)
  A theory with a primitive behind, by the reference of layer 12: Use.
  Use and Theory in the words of slices; the laws of layer 12 begin with the chapter's example: awake.
  A box that holds a theory, and is written again.
  The primitives' names, by the reference of layer 12: Names.
-/
import Derived.Test.YtnbjpgdnfklanaaGreatDoorT44
import Derived.Test.YtnbjpgdnfklanaaGreatDoorT04
import Derived.Test.YtnbjpgdnfklanaaGreatDoorT03
import Derived.Test.YtnbjpgdnfklanaaGreatDoorT02
import Derived.Lib.Hide
import Derived.WalkKit
import Derived.WalkSpells
import Derived.Test.YtnbjpgdnfklanaaGreatDoorT01
import Derived.Lib.ItoaLen
import Derived.Test.YtnbjpgdnfklanaaGreatDoorT05
import Derived.Maps.AppendAt
import Derived.Deep.AppendLies
import Derived.Test.YtnbjpgdnfklanaaGreatDoorT09
import Derived.Test.YtnbjpgdnfklanaaGreatDoorT11
import Derived.Test.YtnbjpgdnfklanaaGreatDoorT06
import Derived.BigQuiet
import Derived.Test.YtnbjpgdnfklanaaGreatDoorT08
import Derived.Test.YtnbjpgdnfklanaaGreatDoorT10
import Derived.Test.YtnbjpgdnfklanaaGreatDoorT36
import Derived.Deep.RegionHeld3
import Derived.Test.YtnbjpgdnfklanaaGreatDoorT42
import Derived.Deep.LoopGhost
import Derived.WalkMore
import Derived.OwnWalk
import Derived.Test.YtnbjpgdnfklanaaGreatDoorT39
import Derived.Test.YtnbjpgdnfklanaaGreatDoorT43
import Derived.ProofKit
namespace Go.Proofs.YtnbjpgdnfklanaaGreatDoor
open Go.RowKit
theorem OneSt.start {A w : World} {Z : Nat → Prop} {T e1 e2 e3 : TypeId} {x : It} {vw vt : Value} (t : Tok) (hA : Below A.heap.size A w) (hr : RowsI w Z T A.heap.size vw x.words vt x.trees) (hZ : ∀ k, Z k → k < w.heap.size) {R : Nat → Prop} (hR : ∀ k, rowsP vw vt k → R k) :
    OneSt A R Z w T w.heap.size x t vw vt (((w.alloc (.cells #[.string x.key, .int .i64 x.spot, vw, vt] e1)).alloc (.cells #[.string ⟨#[]⟩, .int .i64 0, .slice none 0 0, .slice none 0 0] e2)).alloc (.cells #[.int .i64 t.kind, .string t.text, .int .i64 t.n, .int .i64 t.place] e3)) := by
  have hs := hA.size
  have hb : Below w.heap.size w (((w.alloc (.cells #[.string x.key, .int .i64 x.spot, vw, vt] e1)).alloc (.cells #[.string ⟨#[]⟩, .int .i64 0, .slice none 0 0, .slice none 0 0] e2)).alloc (.cells #[.int .i64 t.kind, .string t.text, .int .i64 t.n, .int .i64 t.place] e3)) :=
    (((Below.refl _ _).alloc (Nat.le_refl _) _).alloc (by simp) _).alloc (by simp; omega) _
  refine ⟨((hA.alloc (by omega) _).alloc (by simp; omega) _).alloc (by simp; omega) _, ?_, ?_, ?_, hs, hZ, ?_, fun k hk _ => hb.block k hk, fun k e => .inl (hR k e)⟩
  · exact (box_new w _ _ _ _ e1).below (((Below.refl _ _).alloc (Nat.le_refl _) _).alloc (by simp) _) (by simp)
  · have := box_new (w.alloc (.cells #[.string x.key, .int .i64 x.spot, vw, vt] e1)) (.string ⟨#[]⟩) (.int .i64 0) (.slice none 0 0) (.slice none 0 0) e2
    rw [show (w.alloc (.cells #[.string x.key, .int .i64 x.spot, vw, vt] e1)).heap.size = w.heap.size + 1 from by simp] at this
    exact ⟨_, _, _, _, this.below ((Below.refl _ _).alloc (Nat.le_refl _) _) (by simp)⟩
  · have := box_new ((w.alloc (.cells #[.string x.key, .int .i64 x.spot, vw, vt] e1)).alloc (.cells #[.string ⟨#[]⟩, .int .i64 0, .slice none 0 0, .slice none 0 0] e2)) (.int .i64 t.kind) (.string t.text) (.int .i64 t.n) (.int .i64 t.place) e3
    rw [show ((w.alloc (.cells #[.string x.key, .int .i64 x.spot, vw, vt] e1)).alloc (.cells #[.string ⟨#[]⟩, .int .i64 0, .slice none 0 0, .slice none 0 0] e2)).heap.size = w.heap.size + 2 from by simp] at this
    exact this
  · exact (hr.beside (Z' := zP Z w.heap.size) fun k hk => by
      rcases hk with hk | hk
      · exact .inl hk
      · exact .inr hk.1).below hb
theorem RowsI.slices {W : World} {Z : Nat → Prop} {e : TypeId} {base : Nat} {vw vt : Value} {ws ts : List Tr} (h : RowsI W Z e base vw ws vt ts) : (∃ a c, vw = .slice a ws.length c) ∧ ∃ a c, vt = .slice a ts.length c := by
  obtain ⟨⟨_, _, _, h1⟩, ⟨_, _, _, h2⟩, _, _⟩ := h
  exact ⟨own_slice h1, own_slice h2⟩
end Go.Proofs.YtnbjpgdnfklanaaGreatDoor

namespace Go.Proofs.YtnbjpgdnfklanaaGreatDoor
open Go.RowKit
end Go.Proofs.YtnbjpgdnfklanaaGreatDoor

namespace Go.Proofs.YtnbjpgdnfklanaaGreatDoor
open Go.RowKit
end Go.Proofs.YtnbjpgdnfklanaaGreatDoor

namespace Go.Proofs.YtnbjpgdnfklanaaGreatDoor
open Go.RowKit
end Go.Proofs.YtnbjpgdnfklanaaGreatDoor

namespace Go.Proofs.YtnbjpgdnfklanaaGreatDoor
open Go.RowKit
end Go.Proofs.YtnbjpgdnfklanaaGreatDoor

namespace Go.Proofs.YtnbjpgdnfklanaaGreatDoor
open Go.RowKit
end Go.Proofs.YtnbjpgdnfklanaaGreatDoor

namespace Go.Proofs.YtnbjpgdnfklanaaGreatDoor
open Go.RowKit
end Go.Proofs.YtnbjpgdnfklanaaGreatDoor

namespace Go.Proofs.YtnbjpgdnfklanaaGreatDoor
open Go.RowKit
end Go.Proofs.YtnbjpgdnfklanaaGreatDoor

namespace Go.Proofs.YtnbjpgdnfklanaaGreatDoor
open Go.RowKit
end Go.Proofs.YtnbjpgdnfklanaaGreatDoor

namespace Go.Proofs.YtnbjpgdnfklanaaGreatDoor
open Go.RowKit
end Go.Proofs.YtnbjpgdnfklanaaGreatDoor

namespace Go.Proofs.YtnbjpgdnfklanaaGreatDoor
open Go.RowKit
def str (l : List UInt8) : Value := .string ⟨l.toArray⟩
end Go.Proofs.YtnbjpgdnfklanaaGreatDoor

namespace Go.Proofs.YtnbjpgdnfklanaaGreatDoor
open Go.RowKit
end Go.Proofs.YtnbjpgdnfklanaaGreatDoor

namespace Go.Proofs.YtnbjpgdnfklanaaGreatDoor
open Go.RowKit
end Go.Proofs.YtnbjpgdnfklanaaGreatDoor

namespace Go.Proofs.YtnbjpgdnfklanaaGreatDoor
open Go.RowKit
end Go.Proofs.YtnbjpgdnfklanaaGreatDoor

namespace Go.Proofs.YtnbjpgdnfklanaaGreatDoor
open Go.RowKit
end Go.Proofs.YtnbjpgdnfklanaaGreatDoor

namespace Go.Proofs.YtnbjpgdnfklanaaGreatDoor
open Go.RowKit
end Go.Proofs.YtnbjpgdnfklanaaGreatDoor

namespace Go.Proofs.YtnbjpgdnfklanaaGreatDoor
open Go.RowKit
end Go.Proofs.YtnbjpgdnfklanaaGreatDoor

namespace Go.Proofs.YtnbjpgdnfklanaaGreatDoor
open Go.RowKit
end Go.Proofs.YtnbjpgdnfklanaaGreatDoor

namespace Go.Proofs.YtnbjpgdnfklanaaGreatDoor
open Go.RowKit
end Go.Proofs.YtnbjpgdnfklanaaGreatDoor

namespace Go.Proofs.YtnbjpgdnfklanaaGreatDoor
open Go.RowKit
end Go.Proofs.YtnbjpgdnfklanaaGreatDoor

namespace Go.Proofs.YtnbjpgdnfklanaaGreatDoor
open Go.RowKit
set_option maxRecDepth 100000 in
set_option maxHeartbeats 1000000 in
theorem rarity_any (v : Value) (fs : List Fn) (s : ByteArray) (w : World) (hv : Fus w v fs) :
    Calls Tryz.prog 37 #[v, .string s] w fun e w' => e = arEnd (arF fs s) ∧ Below w.heap.size w w' := by
  obtain ⟨a, c, rfl, hl, hrow⟩ := hv
  have HR := Lib.hid hrow
  clear hrow
  go_enter Tryz.func37, Tryz.ntmps37
  go_wp2_with fail
  go_loopw [10] (fun i wr => ∃ k : Nat, k ≤ fs.length ∧ i = .int .i64 k ∧ Hid (arF (fs.take k) s = none) ∧ Below w.heap.size w wr) (fun i _ => fs.length - (intOf i).toNat)
  case atStart => exact ⟨0, Nat.zero_le _, rfl, Lib.hid (by rw [List.take_zero]; rfl), Below.refl _ _⟩
  case round =>
    obtain ⟨k, hk, rfl, HN, hb⟩ := hrel
    by_cases hkl : k < fs.length
    · obtain ⟨b, o, rfl, hlt, hat⟩ := HR.out.resolve_left (by intro h; rw [h] at hkl; simp at hkl)
      obtain ⟨x, hx⟩ : ∃ x, fs[k]? = some x := ⟨_, List.getElem?_eq_getElem hkl⟩
      have hA := hat k x hx
      have m0 := (hb.cell (p := ⟨b, o + k * 2, none⟩) hlt).trans hA.c0
      have m1 := (hb.cell (p := ⟨b, o + k * 2 + 1, none⟩) hlt).trans hA.c1
      have hstep := Lib.hid (arF_take HN.out hx)
      have hk0 : (0 : Int) ≤ (k : Int) := by omega
      have hk1 : (k : Int) < (fs.length : Int) := by omega
      clear hat hx hA
      obtain ⟨xs, xn⟩ := x
      simp only at m0 m1
      cases he : (xs.toList == s.toList) with
      | true =>
        have HG := Lib.hid (show arF fs s = some xn from arF_some (k := k + 1) (by rw [hstep.out, if_pos he]))
        go_wp2_with fail
        go_ret2
        exact ⟨by rw [HG.out]; rfl, hb.alloc hb.size _⟩
      | false =>
        have HNN := Lib.hid (show arF (fs.take (k + 1)) s = none by rw [hstep.out, if_neg (by rw [he]; simp)])
        go_wp2_with fail
        go_roundw
        case rel => exact ⟨k + 1, by omega, by go_num, HNN, hb.alloc hb.size _⟩
        case measure => simp [intOf]; omega
    · have hke : k = fs.length := by omega
      have HG := Lib.hid (show arF fs s = none by have h := HN.out; rw [hke, List.take_length] at h; exact h)
      clear hke
      go_wp2_with fail
      go_ret2
      exact ⟨by rw [HG.out]; rfl, hb⟩
end Go.Proofs.YtnbjpgdnfklanaaGreatDoor

namespace Go.Proofs.YtnbjpgdnfklanaaGreatDoor
open Go.RowKit
end Go.Proofs.YtnbjpgdnfklanaaGreatDoor

namespace Go.Proofs.YtnbjpgdnfklanaaGreatDoor
open Go.RowKit
def NotFn (fs : List Fn) (f : Fn) (k : Nat) : Prop := ∀ j x, j < k → fs[j]? = some x → x ≠ f
theorem NotFn.succ {fs : List Fn} {f : Fn} {k : Nat} {x : Fn} (h : NotFn fs f k) (hk : fs[k]? = some x) (hx : x ≠ f) : NotFn fs f (k + 1) := by
  intro j y hj hy
  by_cases e : j = k
  · subst e; rw [hk] at hy; rw [← Option.some.inj hy]; exact hx
  · exact h j y (by omega) hy
theorem NotFn.all {fs : List Fn} {f : Fn} (h : NotFn fs f fs.length) : hasFn fs f = false := by
  refine @decide_eq_false _ (Classical.propDecidable _) fun hm => ?_
  obtain ⟨j, hj, e⟩ := List.getElem_of_mem hm
  exact h j _ hj (List.getElem?_eq_getElem hj) e
end Go.Proofs.YtnbjpgdnfklanaaGreatDoor

namespace Go.Proofs.YtnbjpgdnfklanaaGreatDoor
open Go.RowKit
end Go.Proofs.YtnbjpgdnfklanaaGreatDoor

namespace Go.Proofs.YtnbjpgdnfklanaaGreatDoor
open Go.RowKit
end Go.Proofs.YtnbjpgdnfklanaaGreatDoor

namespace Go.Proofs.YtnbjpgdnfklanaaGreatDoor
open Go.RowKit
end Go.Proofs.YtnbjpgdnfklanaaGreatDoor

namespace Go.Proofs.YtnbjpgdnfklanaaGreatDoor
open Go.RowKit
end Go.Proofs.YtnbjpgdnfklanaaGreatDoor

namespace Go.Proofs.YtnbjpgdnfklanaaGreatDoor
open Go.RowKit
end Go.Proofs.YtnbjpgdnfklanaaGreatDoor

namespace Go.Proofs.YtnbjpgdnfklanaaGreatDoor
open Go.RowKit
end Go.Proofs.YtnbjpgdnfklanaaGreatDoor

namespace Go.Proofs.YtnbjpgdnfklanaaGreatDoor
open Go.RowKit
end Go.Proofs.YtnbjpgdnfklanaaGreatDoor

namespace Go.Proofs.YtnbjpgdnfklanaaGreatDoor
open Go.RowKit
end Go.Proofs.YtnbjpgdnfklanaaGreatDoor

namespace Go.Proofs.YtnbjpgdnfklanaaGreatDoor
open Go.RowKit
def ThyAt (W : World) (a : Option Addr) (n c : Nat) (b : Option Addr) (m d : Nat) (fs : List Fn) (rs : List Rl) : Prop := fs.length = n ∧ rs.length = m ∧ Fus W (.slice a n c) fs ∧ Rls W (.slice b m d) rs
theorem ThyAt.below {W W' : World} {a b : Option Addr} {n c m d : Nat} {fs : List Fn} {rs : List Rl} (h : ThyAt W a n c b m d fs rs) (hb : Below W.heap.size W W') : ThyAt W' a n c b m d fs rs := ⟨h.1, h.2.1, h.2.2.1.below hb, h.2.2.2.below hb⟩
theorem thyAt_none (W : World) : ThyAt W none 0 0 none 0 0 [] [] := ⟨rfl, rfl, Fus.none_ _ _ _, Rls.none_ _ _ _⟩
theorem use_form {fs : List Fn} {rs : List Rl} {s : ByteArray} {w w' : World} {e : Ending} (h : UsePost fs rs s w e w') {E : Int} {fs' : List Fn} {rs' : List Rl} (hu : useS fs rs s = (E, fs', rs')) :
    ∃ a n c b m d, e = .returned (.tuple #[.agg #[.slice a n c, .slice b m d], .int .i64 E]) ∧ ThyAt w' a n c b m d fs' rs' ∧ Below w.heap.size w w' := by
  obtain ⟨⟨vf, vr, zf, zr⟩, e1, e2, e3, e4, e5⟩ := h
  rw [hu] at e1 e2 e3
  simp only at e1 e2 e3
  subst e2 e3
  have h1 := e4.funs
  have h2 := e4.rules
  simp only at h1 h2
  have k1 := h1
  have k2 := h2
  obtain ⟨a, c, rfl, _, _⟩ := k1
  obtain ⟨b, d, rfl, _, _⟩ := k2
  exact ⟨a, _, c, b, _, d, e1, ⟨rfl, rfl, h1, h2⟩, e5⟩
theorem puse_f {W : World} {a b : Option Addr} {n c m d : Nat} {fs : List Fn} {rs : List Rl} {s : ByteArray} {E : Int} {fs' : List Fn} {rs' : List Rl} (HPW : Pow W) (h : ThyAt W a n c b m d fs rs) (hm : ModY fs rs) (hu : useS fs rs s = (E, fs', rs')) :
    Calls Tryz.prog 16 #[.agg #[.slice a n c, .slice b m d], .string s] W fun e w' => ∃ a n c b m d, e = .returned (.tuple #[.agg #[.slice a n c, .slice b m d], .int .i64 E]) ∧ ThyAt w' a n c b m d fs' rs' ∧ Below W.heap.size W w' := by
  obtain ⟨rfl, rfl, h1, h2⟩ := h
  exact (puse_any ⟨.slice a fs.length c, .slice b rs.length d, fs, rs⟩ s W HPW ⟨h1, h2⟩ hm).mono fun e w' hh => use_form hh hu
theorem thy_same {W : World} {a b a' b' : Option Addr} {n c m d n' c' m' d' : Nat} {fs : List Fn} {rs : List Rl} (h : ThyAt W a n c b m d fs rs) (h' : ThyAt W a' n' c' b' m' d' fs rs) :
    Calls Tryz.prog 18 #[.agg #[.slice a n c, .slice b m d], .agg #[.slice a' n' c', .slice b' m' d']] W fun e w' => e = .returned (.bool true) ∧ Below W.heap.size W w' := by
  obtain ⟨rfl, rfl, h1, h2⟩ := h
  obtain ⟨rfl, rfl, h3, h4⟩ := h'
  exact (rthy_any ⟨.slice a fs.length c, .slice b rs.length d, fs, rs⟩ ⟨.slice a' fs.length c', .slice b' rs.length d', fs, rs⟩ W ⟨h1, h2⟩ ⟨h3, h4⟩).mono fun e w' hh => ⟨by rw [hh.1, eqF_yes rfl, eqRs_true rfl]; rfl, hh.2⟩
theorem pair_first : ∃ fs rs, useS [] [] nmPair = (0, fs, rs) ∧ rs.length = 2 ∧ useS fs rs nmPair = (0, fs, rs) ∧ ModY fs rs := by
  have hp : nmPair ∈ libN := by unfold libN; simp
  obtain ⟨h1, h2⟩ := rch_nil.use hp
  refine ⟨_, _, h1, ?_, h2.again (List.mem_cons_self ..), modY_rch h2⟩
  rw [entR_pair]
  unfold newR rsPair
  simp
set_option maxRecDepth 100000 in
set_option maxHeartbeats 2000000 in
theorem awake12_any (w : World) (HPW : Pow w) :
    Calls Tryz.prog 7 #[] w fun e w' => e = .returned (.bool true) ∧ Below w.heap.size w w' := by
  obtain ⟨fs, rs, h1, h2, h3, hm⟩ := pair_first
  have U1 := Lib.hid (puse_f (s := nmPair) HPW (thyAt_none w) ⟨⟨by simp, by simp⟩, by simp, by simp⟩ h1)
  have U2 := Lib.hid (fun (W : World) (hb : Below w.heap.size w W) (a b : Option Addr) (n c m d : Nat) (h : ThyAt W a n c b m d fs rs) => puse_f (s := nmPair) (HPW.below hb) h hm h3)
  have HL := Lib.hid h2
  clear h1 h2 h3 hm HPW
  go_enter Tryz.func7, Tryz.ntmps7
  go_wp2_with fail
  refine U1.out.mono ?_; rintro e w1 ⟨a, n, c, b, m, d, rfl, ht, hb1⟩
  have hm2 : m = 2 := by rw [← ht.2.1, HL.out]
  subst hm2
  have hbA : Below w1.heap.size w1 (w1.alloc (.cells #[.slice a n c, .slice b 2 d] 38)) := (Below.refl _ _).alloc (Nat.le_refl _) _
  have hx := box2_new w1 (.slice a n c) (.slice b 2 d) 38
  have HX := Lib.hid hx
  obtain ⟨x0, x1, _, _⟩ := hx
  have U := Lib.hid (U2.out _ (below_next hb1 hbA) _ _ _ _ _ _ (ht.below hbA))
  have HT := Lib.hid (ht.below hbA)
  have HBA := Lib.hid (below_next hb1 hbA)
  clear ht hb1 hbA
  go_wp2_with fail
  refine U.out.mono ?_; rintro e w2 ⟨a', n', c', b', m', d', rfl, ht', hb2⟩
  have hbB : Below w2.heap.size w2 (w2.alloc (.cells #[.slice a' n' c', .slice b' m' d'] 38)) := (Below.refl _ _).alloc (Nat.le_refl _) _
  have hx' := box2_new w2 (.slice a' n' c') (.slice b' m' d') 38
  obtain ⟨y0, y1, _, _⟩ := hx'
  obtain ⟨x0, x1, _, _⟩ := HX.out.below (below_next hb2 hbB)
  have T := Lib.hid (thy_same ((HT.out.below hb2).below hbB) (ht'.below hbB))
  have HBB := Lib.hid (below_next (below_next HBA.out hb2) hbB)
  clear ht' hb2 hbB
  go_wp2_with fail
  refine T.out.mono ?_; rintro e w3 ⟨rfl, hb3⟩
  have HB3 := Lib.hid (below_next HBB.out hb3)
  clear hb3
  go_wp2_with fail
  go_ret
  exact ⟨rfl, HB3.out⟩
end Go.Proofs.YtnbjpgdnfklanaaGreatDoor

namespace Go.Proofs.YtnbjpgdnfklanaaGreatDoor
open Go.RowKit
def BoxT (W : World) (g : Nat) (a : Option Addr) (n c : Nat) (b : Option Addr) (m d : Nat) : Prop := W.heap[g]? = some (.cells #[.slice a n c, .slice b m d] 38 (0, 0))
section
variable {W W' : World} {g : Nat} {a b a' b' : Option Addr} {n c m d n' c' m' d' : Nat}
theorem boxT_new (w : World) (a b : Option Addr) (n c m d : Nat) : BoxT (w.alloc (.cells #[.slice a n c, .slice b m d] 38)) w.heap.size a n c b m d := heap_alloc_new w _
theorem BoxT.lt (h : BoxT W g a n c b m d) : g < W.heap.size := (Array.getElem?_eq_some_iff.1 h).1
theorem BoxT.block (h : BoxT W g a n c b m d) (hk : W'.heap[g]? = W.heap[g]?) : BoxT W' g a n c b m d := hk.trans h
theorem BoxT.below (h : BoxT W g a n c b m d) (hb : Below W.heap.size W W') : BoxT W' g a n c b m d := h.block (hb.block g h.lt)
theorem BoxT.slB (h : BoxT W g a n c b m d) : SlB W g := slB_two h
theorem BoxT.box2 (h : BoxT W g a n c b m d) : Box2 W g (.slice a n c) (.slice b m d) := by
  unfold BoxT at h
  refine ⟨?_, ?_, ?_, ?_⟩
  · rw [cell_of_row W g 0 _ _ (0, 0) h]; rfl
  · rw [cell_of_row W g 1 _ _ (0, 0) h]; rfl
  · simp [World.frozen?, h]
  · simp [World.frozen?, h]
theorem BoxT.set (h : BoxT W g a n c b m d) : BoxT ((W.setCell ⟨g, 0, none⟩ (.slice a' n' c')).setCell ⟨g, 1, none⟩ (.slice b' m' d')) g a' n' c' b' m' d' := by
  unfold BoxT at h ⊢
  simp [World.setCell, Array.getElem?_modify, h]
theorem set_other {x y : Value} : ∀ k, k ≠ g → ((W.setCell ⟨g, 0, none⟩ x).setCell ⟨g, 1, none⟩ y).heap[k]? = W.heap[k]? := fun k hk => by
  rw [Below.heap_setCell _ _ _ _ hk, Below.heap_setCell _ _ _ _ hk]
end
theorem ThyAt.off {w W : World} {g : Nat} {a b : Option Addr} {n c m d : Nat} {fs : List Fn} {rs : List Rl} (h : ThyAt w a n c b m d fs rs) (hg : SlB w g) (hs : w.heap.size ≤ W.heap.size) (hk : ∀ k, k < w.heap.size → k ≠ g → W.heap[k]? = w.heap[k]?) : ThyAt W a n c b m d fs rs :=
  ⟨h.1, h.2.1, h.2.2.1.off hg hs hk, h.2.2.2.off hg hs hk⟩
theorem strs_at {w : World} {v : Value} {zs : List ByteArray} (h : Strs w v zs) {g : Nat} (hg : SlB w g) : ∃ a c, v = .slice a zs.length c ∧ ∀ j (hj : j < zs.length), ∃ b o, a = some ⟨b, o, none⟩ ∧ ∀ W : World, w.grownBy W (some g) → W.cell? ⟨b, o + j, none⟩ = some (.string zs[j]) := by
  obtain ⟨a, c, rfl, _, h⟩ := h
  refine ⟨a, c, rfl, fun j hj => ?_⟩
  rcases h with h | ⟨b, o, rfl, hlt, hc⟩
  · rw [h] at hj; cases hj
  · have h1 := hc j hj
    rw [show zs.getD j ByteArray.empty = zs[j] by simp [List.getD, List.getElem?_eq_getElem hj]] at h1
    exact ⟨b, o, rfl, fun W hW => (World.cell?_of_block (hW.block b hlt (fun e => hg.str h1 (Option.some.inj e)))).trans h1⟩
theorem round_grown {w2 wr w3 : World} {g : Nat} {x y : Value} (h : w2.grownBy wr (some g)) (hb : Below wr.heap.size wr w3) (_hg : g < w2.heap.size) : w2.grownBy ((w3.setCell ⟨g, 0, none⟩ x).setCell ⟨g, 1, none⟩ y) (some g) :=
  ⟨hb.os.trans h.os, hb.tape.trans h.tape, hb.output.trans h.output, by have := h.size; have := hb.size; simp; omega, fun k hk hne => by
    have hkg : k ≠ g := fun e => hne (by rw [e])
    rw [set_other k hkg, hb.block k (by have := h.size; omega)]
    exact h.block k hk hne⟩
theorem grown_below12 {w w2 wr : World} {g : Nat} (hb : Below w.heap.size w w2) (h : w2.grownBy wr (some g)) (hg : w.heap.size ≤ g) : Below w.heap.size w wr := hb.grown h hb.size (fun k hk => by injection hk with hk; omega)
end Go.Proofs.YtnbjpgdnfklanaaGreatDoor

namespace Go.Proofs.YtnbjpgdnfklanaaGreatDoor
open Go.RowKit
set_option maxRecDepth 100000 in
theorem rnames12_any (w : World) :
    Calls Tryz.prog 14 #[] w fun e w' => ∃ v, e = .returned v ∧ Strs w' v libN ∧ Below w.heap.size w w' := by
  have HS := Lib.hid (strs_alloc w libN 9 (by decide))
  have HB := Lib.hid ((Below.refl w.heap.size w).alloc (Nat.le_refl _) (.cells (libN.map Value.string).toArray 9))
  go_enter Tryz.func14, Tryz.ntmps14
  go_wp2_with fail
  go_ret
  exact ⟨_, rfl, HS.out, HB.out⟩
end Go.Proofs.YtnbjpgdnfklanaaGreatDoor
