/-
  What a shape's letter stands for: a sign, by the reference of layer 11: one.
  What a shape's letter stands for, whichever it is, by the reference of layer 11: one.
  What a shape's letter stands for, with the item's rows from a block on, by the reference of layer 11.
  What stands behind a key, by the reference of layer 11: shapes. (printed by tools/genshape.py)
  Scan of the reference, walked: it answers what the scan of the text tells. (as data)
  How many bytes that may be part of a word stand at a place of a text: what parts of package lex answers, and Long of the reference, for every text and every place in it. Neither changes anything. (the reference)
  Digits of the reference of layer 1: a number in decimal. The call makes new memory alone.
  Digits and Number of package chars, and the same of the reference: a number in decimal, and the number from 0 to 999 that a text is; in every world in which the listed variables of strconv hold what they were laid with. Each call makes new memory alone. (the reference)
  Whether a text is the word of a variable, by the reference. Each call makes new memory alone.
  The token that begins at a place of a text, as At of the reference tells it. (the reference)
-/
import Derived.Test.YtldgbdmiebipnaaGreatDoorZ07
import Derived.Test.YtldgbdmiebipnaaGreatDoorZ05
import Derived.Test.YtldgbdmiebipnaaGreatDoorZ03
import Derived.Test.YtldgbdmiebipnaaGreatDoorZ02
import Derived.Test.YtldgbdmiebipnaaGreatDoorZ01
import Derived.Lib.Hide
import Derived.WalkKit
import Derived.WalkSpells
import Derived.Lib.ItoaLen
namespace Go.Proofs.YtldgbdmiebipnaaGreatDoor
open Go.RowKit

theorem conv_sign (w : World) (c : UInt8) :
    (convert 59 9 (.slice (some ⟨w.heap.size, 0, none⟩) 1 1)).run Tryz.prog (w.alloc (.cells #[.int .u8 (c.toNat : Int)] 5)) = .ok (.string ⟨#[c]⟩) (w.alloc (.cells #[.int .u8 (c.toNat : Int)] 5)) :=
  run_convert_bytes_back (P := Tryz.prog) (w.alloc (.cells #[.int .u8 (c.toNat : Int)] 5)) 59 9 5 ⟨w.heap.size, 0, none⟩ 1 [c] Tryz.underlying59 Tryz.underlying5 Tryz.underlying9
    (fun j hj => by
      have : j = 0 := by simp at hj; omega
      subst this
      exact World.cell?_alloc_mark w #[.int .u8 (c.toNat : Int)] 5 (0, 0) 0)

set_option maxRecDepth 100000 in
set_option maxHeartbeats 1000000 in
theorem rone_sign (v : Value) (L : List Tok) (A : World) (hv : Toks A v L) (x : It) (vw vt : Value) (c : UInt8) (g1 : c ≠ 119) (g2 : c ≠ 110) (g3 : c ≠ 116) (g4 : c ≠ 108) (i : Nat) (hlen : L.length ≤ 100000) (hi : i < L.length) (w : World) (hA : Below A.heap.size A w)
    (R : Nat → Prop) (hR : ∀ k, rowsP vw vt k → R k) (Z : Nat → Prop) (hZ : ∀ k, Z k → k < w.heap.size) (hr : RowsI w Z 87 A.heap.size vw x.words vt x.trees) :
    Calls Tryz.prog 17 #[itVal x vw vt, v, .int .i64 i, .int .u8 (c.toNat : Int)] w (OnePost A R Z w x L i c) := by
  obtain ⟨⟨aw, cw, rfl⟩, at_, ct, rfl⟩ := hr.slices
  obtain ⟨a, cv, rfl, hl, h⟩ := hv
  rcases h with h | ⟨b, off, rfl, hlt, hc⟩
  · subst h; cases hi
  obtain ⟨t, ht⟩ : ∃ t, tkD L i = t := ⟨_, rfl⟩
  have hti2 : L[i] = t := by rw [← ht, tkD_at hi]
  have hci := hc i hi
  rw [hti2] at hci
  have HC := Lib.hid (fun (W : World) (h : Below A.heap.size A W) => hci.below h hlt)
  have HS := Lib.hid (fun e1 e2 e3 => OneSt.start (e1 := e1) (e2 := e2) (e3 := e3) t hA hr hZ hR)
  have HOP := Lib.hid (show oneP x L i c = if isS t ⟨#[c]⟩ = true then (x, i + 1, true) else (x, i, false) by unfold oneP; rw [if_neg g1, if_neg g2, if_neg g3, if_neg g4, ht])
  have IS := Lib.hid (fun (W : World) => ris_any t ⟨#[c]⟩ W)
  have hcn : ∀ n : Nat, n < 256 → c ≠ UInt8.ofNat n → ((c.toNat : Int) == (n : Int)) = false := fun n hn h => by
    rw [beq_eq_false_iff_ne]
    intro e
    exact h (by rw [← show c.toNat = n from by omega]; simp)
  have d1 := hcn 119 (by decide) g1
  have d2 := hcn 110 (by decide) g2
  have d3 := hcn 116 (by decide) g3
  have d4 := hcn 108 (by decide) g4
  have ST := Lib.hid (fun (ok : Bool) (W : World) => rstep_any i ok (by omega) W)
  have HA := Lib.hid hA
  have hsz := hA.size
  clear hcn ht hti2 hc hci hr hA hR hZ
  obtain ⟨tk, tx, tn, tp⟩ := t
  obtain ⟨key, spot, ws, ts⟩ := x
  unfold tokVal at IS
  unfold itVal
  simp only at HS HOP IS d1 d2 d3 d4
  have hk1 : (i : Int) < (L.length : Int) := by omega
  have hk0 : (0 : Int) ≤ (i : Int) := by omega
  obtain ⟨m0, m1, m2, m3⟩ := HC.out _ ((HA.out.alloc hsz (.cells #[.string key, .int .i64 spot, .slice aw ws.length cw, .slice at_ ts.length ct] 54)).alloc (by simp; omega) (.cells #[.string ⟨#[]⟩, .int .i64 0, .slice none 0 0, .slice none 0 0] 54))
  simp only at m0 m1 m2 m3
  have KEEPS := Lib.hid (fun (W : World) (h : OneSt A R Z w 87 w.heap.size ⟨key, spot, ws, ts⟩ ⟨tk, tx, tn, tp⟩ (.slice aw ws.length cw) (.slice at_ ts.length ct) W) => h.cells)
  have FILLS := Lib.hid (fun (z0 z1 z2 z3 : Value) (W : World) (h : OneSt A R Z w 87 w.heap.size ⟨key, spot, ws, ts⟩ ⟨tk, tx, tn, tp⟩ (.slice aw ws.length cw) (.slice at_ ts.length ct) W) => h.filled z0 z1 z2 z3)
  have FILL := Lib.hid (fun (W : World) (h : OneSt A R Z w 87 w.heap.size ⟨key, spot, ws, ts⟩ ⟨tk, tx, tn, tp⟩ (.slice aw ws.length cw) (.slice at_ ts.length ct) W) => h.fill)
  simp only at KEEPS FILLS FILL
  have h0 := HS.out 54 54 50
  obtain ⟨wa, hwa⟩ : ∃ wa, (((w.alloc (.cells #[.string key, .int .i64 spot, .slice aw ws.length cw, .slice at_ ts.length ct] 54)).alloc (.cells #[.string ⟨#[]⟩, .int .i64 0, .slice none 0 0, .slice none 0 0] 54)).alloc (.cells #[.int .i64 tk, .string tx, .int .i64 tn, .int .i64 tp] 50)) = wa := ⟨_, rfl⟩
  rw [hwa] at h0
  obtain ⟨_, k0, k1, k2, k3, k4, k5, k6, k7, k8, k9, k10, k11, k12, k13⟩ := KEEPS.out _ h0
  have hcv := conv_sign wa c
  go_enter Tryz.func17, Tryz.ntmps17
  go_wp2_with fail
  refine (IS.out _).mono ?_; rintro e wb ⟨rfl, hbb⟩
  have h1 := (h0.below ((Below.refl wa.heap.size wa).alloc (Nat.le_refl _) (.cells #[.int .u8 (c.toNat : Int)] 5))).below hbb
  have h1d := h1.below (Below.refl _ _).drew
  clear hcv hbb hwa h0 h1 k0 k1 k2 k3 k4 k5 k6 k7 k8 k9 k10 k11 k12 k13
  cases hs : isS ⟨tk, tx, tn, tp⟩ ⟨#[c]⟩ with
  | false =>
    replace HOP := Lib.hid (HOP.out.trans (if_neg (by rw [hs]; decide)))
    clear hs
    have ST2 := Lib.hid (fun (W : World) (h : OneSt A R Z w 87 w.heap.size ⟨key, spot, ws, ts⟩ ⟨tk, tx, tn, tp⟩ (.slice aw ws.length cw) (.slice at_ ts.length ct) W) => (ST.out false W).mono fun e w' hh => (show e = .returned (.int .i64 i) ∧ OneSt A R Z w 87 w.heap.size ⟨key, spot, ws, ts⟩ ⟨tk, tx, tn, tp⟩ (.slice aw ws.length cw) (.slice at_ ts.length ct) w' from ⟨hh.1, hh.2 ▸ h⟩))
    go_wp2_with fail
    go_region_held3 (fun W => OneSt A R Z w 87 w.heap.size ⟨key, spot, ws, ts⟩ ⟨tk, tx, tn, tp⟩ (.slice aw ws.length cw) (.slice at_ ts.length ct) W ∧
      W.cell? ⟨w.heap.size, 0, none⟩ = some (.string key) ∧ W.cell? ⟨w.heap.size, 1, none⟩ = some (.int .i64 spot) ∧ W.cell? ⟨w.heap.size, 2, none⟩ = some (.slice aw ws.length cw) ∧ W.cell? ⟨w.heap.size, 3, none⟩ = some (.slice at_ ts.length ct) ∧
      W.cell? ⟨w.heap.size + 1 + 1, 0, none⟩ = some (.int .i64 tk) ∧ W.cell? ⟨w.heap.size + 1 + 1, 1, none⟩ = some (.string tx) ∧ W.cell? ⟨w.heap.size + 1 + 1, 2, none⟩ = some (.int .i64 tn) ∧ W.cell? ⟨w.heap.size + 1 + 1, 3, none⟩ = some (.int .i64 tp) ∧
      W.frozen? ⟨w.heap.size + 1, 0, none⟩ = false ∧ W.frozen? ⟨w.heap.size + 1, 1, none⟩ = false ∧ W.frozen? ⟨w.heap.size + 1, 2, none⟩ = false ∧ W.frozen? ⟨w.heap.size + 1, 3, none⟩ = false ∧ W.frozen? ⟨w.heap.size, 2, none⟩ = false ∧ W.frozen? ⟨w.heap.size, 3, none⟩ = false)
      (first
        | exact KEEPS.out _ (by assumption)
        | exact KEEPS.out _ (FILLS.out _ _ _ _ _ (by assumption)))
      ((go_at_call 34; refine (ST2.out _ (by assumption)).mono ?_; rintro e w' ⟨rfl, hn⟩; obtain ⟨y0, y1, y2, y3, ⟨q0, q1, q2, q3, _, _, _, _⟩⟩ := hn.res))
    have HE := Lib.hid (FILL.out _ hn)
    go_wp2_with fail
    obtain ⟨hbel, ⟨r0, r1, r2, r3, rf0, rf1, rf2, rf3⟩, hrw, hkp, hri⟩ := HE.out
    refine bodyPost_ret (v := .tuple #[.agg #[.string key, .int .i64 spot, .slice aw ws.length cw, .slice at_ ts.length ct], .int .i64 (i : Int), .bool false]) (by simp [results, Tryz.results17, go_sem, r0, r1, r2, r3]) rfl ?_
    unfold OnePost
    rw [HOP.out]
    exact ⟨_, _, rfl, hrw, hbel, hkp, hri, Nat.le_of_lt (Nat.lt_of_succ_lt (lt_of_cellR r0))⟩
  | true =>
    replace HOP := Lib.hid (HOP.out.trans (if_pos hs))
    clear hs
    have ST2 := Lib.hid (fun (W : World) (h : OneSt A R Z w 87 w.heap.size ⟨key, spot, ws, ts⟩ ⟨tk, tx, tn, tp⟩ (.slice aw ws.length cw) (.slice at_ ts.length ct) W) => (ST.out true W).mono fun e w' hh => (show e = .returned (.int .i64 ((i : Int) + 1)) ∧ OneSt A R Z w 87 w.heap.size ⟨key, spot, ws, ts⟩ ⟨tk, tx, tn, tp⟩ (.slice aw ws.length cw) (.slice at_ ts.length ct) w' from ⟨hh.1, hh.2 ▸ h⟩))
    go_wp2_with fail
    go_region_held3 (fun W => OneSt A R Z w 87 w.heap.size ⟨key, spot, ws, ts⟩ ⟨tk, tx, tn, tp⟩ (.slice aw ws.length cw) (.slice at_ ts.length ct) W ∧
      W.cell? ⟨w.heap.size, 0, none⟩ = some (.string key) ∧ W.cell? ⟨w.heap.size, 1, none⟩ = some (.int .i64 spot) ∧ W.cell? ⟨w.heap.size, 2, none⟩ = some (.slice aw ws.length cw) ∧ W.cell? ⟨w.heap.size, 3, none⟩ = some (.slice at_ ts.length ct) ∧
      W.cell? ⟨w.heap.size + 1 + 1, 0, none⟩ = some (.int .i64 tk) ∧ W.cell? ⟨w.heap.size + 1 + 1, 1, none⟩ = some (.string tx) ∧ W.cell? ⟨w.heap.size + 1 + 1, 2, none⟩ = some (.int .i64 tn) ∧ W.cell? ⟨w.heap.size + 1 + 1, 3, none⟩ = some (.int .i64 tp) ∧
      W.frozen? ⟨w.heap.size + 1, 0, none⟩ = false ∧ W.frozen? ⟨w.heap.size + 1, 1, none⟩ = false ∧ W.frozen? ⟨w.heap.size + 1, 2, none⟩ = false ∧ W.frozen? ⟨w.heap.size + 1, 3, none⟩ = false ∧ W.frozen? ⟨w.heap.size, 2, none⟩ = false ∧ W.frozen? ⟨w.heap.size, 3, none⟩ = false)
      (first
        | exact KEEPS.out _ (by assumption)
        | exact KEEPS.out _ (FILLS.out _ _ _ _ _ (by assumption)))
      ((go_at_call 34; refine (ST2.out _ (by assumption)).mono ?_; rintro e w' ⟨rfl, hn⟩; obtain ⟨y0, y1, y2, y3, ⟨q0, q1, q2, q3, _, _, _, _⟩⟩ := hn.res))
    have HE := Lib.hid (FILL.out _ hn)
    go_wp2_with fail
    obtain ⟨hbel, ⟨r0, r1, r2, r3, rf0, rf1, rf2, rf3⟩, hrw, hkp, hri⟩ := HE.out
    refine bodyPost_ret (v := .tuple #[.agg #[.string key, .int .i64 spot, .slice aw ws.length cw, .slice at_ ts.length ct], .int .i64 ((i : Int) + 1), .bool true]) (by simp [results, Tryz.results17, go_sem, r0, r1, r2, r3]) rfl ?_
    unfold OnePost
    rw [HOP.out]
    exact ⟨_, _, rfl, hrw, hbel, hkp, hri, Nat.le_of_lt (Nat.lt_of_succ_lt (lt_of_cellR r0))⟩
end Go.Proofs.YtldgbdmiebipnaaGreatDoor

namespace Go.Proofs.YtldgbdmiebipnaaGreatDoor
open Go.RowKit

theorem rone_any (v : Value) (L : List Tok) (A : World) (hv : Toks A v L) (hE : Ended L) (hO : ∀ i, TokOk (tkD L i)) (hlen : L.length ≤ 100000) (x : It) (vw vt : Value) (c : UInt8) (hl1 : x.words.length ≤ 100000) (hl2 : x.trees.length ≤ 1000000) (i : Nat) (hi : i < L.length) (w : World) (hA : Below A.heap.size A w)
    (R : Nat → Prop) (hR : ∀ k, rowsP vw vt k → R k) (Z : Nat → Prop) (hZ : ∀ k, Z k → k < w.heap.size) (hr : RowsI w Z 87 A.heap.size vw x.words vt x.trees) :
    Calls Tryz.prog 17 #[itVal x vw vt, v, .int .i64 i, .int .u8 (c.toNat : Int)] w (OnePost A R Z w x L i c) := by
  by_cases g1 : c = 119
  · subst g1; exact rone_word v L A hv x vw vt hO hl1 i hlen hi w hA R hR Z hZ hr
  by_cases g2 : c = 110
  · subst g2; exact rone_num v L A hv x vw vt hO hl1 i hlen hi w hA R hR Z hZ hr
  by_cases g3 : c = 116
  · subst g3; exact rone_term v L A hv x vw vt hO hE hl2 i hlen hi w hA R hR Z hZ hr
  by_cases g4 : c = 108
  · subst g4; exact rone_list v L A hv x vw vt hO hE hl2 i hlen hi w hA R hR Z hZ hr
  exact rone_sign v L A hv x vw vt c g1 g2 g3 g4 i hlen hi w hA R hR Z hZ hr
end Go.Proofs.YtldgbdmiebipnaaGreatDoor

namespace Go.Proofs.YtldgbdmiebipnaaGreatDoor
open Go.RowKit

def OneAt (Z : Nat → Prop) (x : It) (vw vt : Value) (L : List Tok) (i : Nat) (c : UInt8) (base : Nat) (w : World) (e : Ending) (w' : World) : Prop :=
  ∃ vw' vt', e = .returned (.tuple #[itVal x vw' vt', .int .i64 (oneP x L i c).2.1, .bool (oneP x L i c).2.2]) ∧ RowsI w' Z 87 base vw' (oneP x L i c).1.words vt' (oneP x L i c).1.trees ∧ Below base w w' ∧
    (∀ k, k < w.heap.size → ¬ rowsP vw vt k → w'.heap[k]? = w.heap[k]?) ∧ ∀ k, rowsP vw' vt' k → rowsP vw vt k ∨ w.heap.size ≤ k
theorem rone_at (v : Value) (L : List Tok) (w1 : World) (hv : Toks w1 v L) (hE : Ended L) (hO : ∀ i, TokOk (tkD L i)) (hlen : L.length ≤ 100000) (x : It) (vw vt : Value) (c : UInt8) (hl1 : x.words.length ≤ 100000) (hl2 : x.trees.length ≤ 1000000) (i : Nat) (hi : i < L.length)
    (base : Nat) (h1 : w1.heap.size ≤ base) (w : World) (hbw : base ≤ w.heap.size) (hb : Below w1.heap.size w1 w) (Z : Nat → Prop) (hZ : ∀ k, Z k → k < w.heap.size) (hr : RowsI w Z 87 base vw x.words vt x.trees) :
    Calls Tryz.prog 17 #[itVal x vw vt, v, .int .i64 i, .int .u8 (c.toNat : Int)] w (OneAt Z x vw vt L i c base w) := by
  have hz := cutW_size w hbw
  have := rone_any v L (cutW w base) (hv.below (below_cutW hb h1 hbw)) hE hO hlen x vw vt c hl1 hl2 i hi w (by rw [hz]; exact cutW_below w hbw) (rowsP vw vt) (fun k h => h) Z hZ (by rw [hz]; exact hr)
  refine this.mono ?_
  rintro e w' ⟨vw', vt', rfl, q1, q2, q3, q4, q5⟩
  rw [hz] at q1 q2
  exact ⟨vw', vt', rfl, q1, cutW_back hbw q5 q2, q3, q4⟩
end Go.Proofs.YtldgbdmiebipnaaGreatDoor

namespace Go.Proofs.YtldgbdmiebipnaaGreatDoor
open Go.RowKit

/-- A shape as a text. -/
def shapeB (k : ByteArray) : ByteArray := ⟨(shapesOf k).toArray⟩
set_option maxRecDepth 100000 in
set_option maxHeartbeats 2000000 in
theorem rshapes_any (k : ByteArray) (w : World) :
    Calls Tryz.prog 16 #[.string k] w fun e w' => e = .returned (.string (shapeB k)) ∧ w = w' := by
  have HE : ∀ l : List UInt8, shapesOf k = l → Hid (shapeB k = ⟨l.toArray⟩) := fun l h => Lib.hid (by unfold shapeB; rw [h])
  have e0 : (⟨#[102, 117, 110]⟩ : ByteArray).toList = [102, 117, 110] := by simp
  have e1 : (⟨#[110, 97, 109, 101]⟩ : ByteArray).toList = [110, 97, 109, 101] := by simp
  have e2 : (⟨#[117, 115, 101]⟩ : ByteArray).toList = [117, 115, 101] := by simp
  have e3 : (⟨#[114, 117, 108, 101]⟩ : ByteArray).toList = [114, 117, 108, 101] := by simp
  have e4 : (⟨#[102, 114, 97, 109, 101]⟩ : ByteArray).toList = [102, 114, 97, 109, 101] := by simp
  have e5 : (⟨#[100, 101, 100, 117, 99, 101]⟩ : ByteArray).toList = [100, 101, 100, 117, 99, 101] := by simp
  have e6 : (⟨#[101, 113, 117, 105, 118]⟩ : ByteArray).toList = [101, 113, 117, 105, 118] := by simp
  cases g0 : (k.toList == [102, 117, 110]) with
  | true =>
    have HV := HE [119, 47, 110, 46] (by unfold shapesOf; rw [if_pos (by rw [e0]; exact g0)])
    clear HE
    go_enter Tryz.func16, Tryz.ntmps16
    go_wp2_with fail
    go_ret
    exact ⟨by rw [HV.out]; rfl, rfl⟩
  | false =>
    cases g1 : (k.toList == [110, 97, 109, 101]) with
    | true =>
      have HV := HE [119, 46] (by unfold shapesOf; rw [if_neg (by rw [e0, g0]; decide), if_pos (.inl (by rw [e1]; exact g1))])
      clear HE
      go_enter Tryz.func16, Tryz.ntmps16
      go_wp2_with fail
      go_ret
      exact ⟨by rw [HV.out]; rfl, rfl⟩
    | false =>
      cases g2 : (k.toList == [117, 115, 101]) with
      | true =>
        have HV := HE [119, 46] (by unfold shapesOf; rw [if_neg (by rw [e0, g0]; decide), if_pos (.inr (by rw [e2]; exact g2))])
        clear HE
        go_enter Tryz.func16, Tryz.ntmps16
        go_wp2_with fail
        go_ret
        exact ⟨by rw [HV.out]; rfl, rfl⟩
      | false =>
        cases g3 : (k.toList == [114, 117, 108, 101]) with
        | true =>
          have HV := HE [116, 61, 116, 46] (by unfold shapesOf; rw [if_neg (by rw [e0, g0]; decide), if_neg (by rw [e1, e2, g1, g2]; decide), if_pos (by rw [e3]; exact g3)])
          clear HE
          go_enter Tryz.func16, Tryz.ntmps16
          go_wp2_with fail
          go_ret
          exact ⟨by rw [HV.out]; rfl, rfl⟩
        | false =>
          cases g4 : (k.toList == [102, 114, 97, 109, 101]) with
          | true =>
            have HV := HE [119, 58, 108, 46] (by unfold shapesOf; rw [if_neg (by rw [e0, g0]; decide), if_neg (by rw [e1, e2, g1, g2]; decide), if_neg (by rw [e3, g3]; decide), if_pos (by rw [e4]; exact g4)])
            clear HE
            go_enter Tryz.func16, Tryz.ntmps16
            go_wp2_with fail
            go_ret
            exact ⟨by rw [HV.out]; rfl, rfl⟩
          | false =>
            cases g5 : (k.toList == [100, 101, 100, 117, 99, 101]) with
            | true =>
              have HV := HE [119, 116, 46] (by unfold shapesOf; rw [if_neg (by rw [e0, g0]; decide), if_neg (by rw [e1, e2, g1, g2]; decide), if_neg (by rw [e3, g3]; decide), if_neg (by rw [e4, g4]; decide), if_pos (by rw [e5]; exact g5)])
              clear HE
              go_enter Tryz.func16, Tryz.ntmps16
              go_wp2_with fail
              go_ret
              exact ⟨by rw [HV.out]; rfl, rfl⟩
            | false =>
              cases g6 : (k.toList == [101, 113, 117, 105, 118]) with
              | true =>
                have HV := HE [119, 119, 46] (by unfold shapesOf; rw [if_neg (by rw [e0, g0]; decide), if_neg (by rw [e1, e2, g1, g2]; decide), if_neg (by rw [e3, g3]; decide), if_neg (by rw [e4, g4]; decide), if_neg (by rw [e5, g5]; decide), if_pos (by rw [e6]; exact g6)])
                clear HE
                go_enter Tryz.func16, Tryz.ntmps16
                go_wp2_with fail
                go_ret
                exact ⟨by rw [HV.out]; rfl, rfl⟩
              | false =>
                have HV := HE [116, 46] (by unfold shapesOf; rw [if_neg (by rw [e0, g0]; decide), if_neg (by rw [e1, e2, g1, g2]; decide), if_neg (by rw [e3, g3]; decide), if_neg (by rw [e4, g4]; decide), if_neg (by rw [e5, g5]; decide), if_neg (by rw [e6, g6]; decide)])
                clear HE
                go_enter Tryz.func16, Tryz.ntmps16
                go_wp2_with fail
                go_ret
                exact ⟨by rw [HV.out]; rfl, rfl⟩
end Go.Proofs.YtldgbdmiebipnaaGreatDoor

namespace Go.Proofs.YtldgbdmiebipnaaGreatDoor
open Go.RowKit

theorem hb_text {s : ByteArray} {i : Nat} {c : Cut} (h : 1 ≤ c.len ∧ i + c.len ≤ s.size) : (s.extract i (i + c.len)).size = c.len := by simp; omega
end Go.Proofs.YtldgbdmiebipnaaGreatDoor

namespace Go.Proofs.YtldgbdmiebipnaaGreatDoor
open Go.RowKit

set_option maxHeartbeats 400000 in
theorem long_any (s : ByteArray) (fi : Int) (f m : Nat) (hfi : fi = f) (hm : m = run s f) (hf : f ≤ s.size) (hs : s.size ≤ 4611686018427387904) (w : World) :
    Calls Tryz.prog 58 #[.string s, .int .i64 fi] w fun e w' => e = .returned (.int .i64 m) ∧ w = w' := by
  subst hfi
  have HM := Lib.hid hm
  clear hm
  go_enter Tryz.func58, Tryz.ntmps58
  go_wp2
  go_loop [5] (fun i => ∃ k : Nat, f + k ≤ s.size ∧ i = .int .i64 k ∧ m = k + run s (f + k)) (fun i => s.size - (intOf i).toNat)
  case atStart => exact ⟨0, by omega, rfl, by have := HM.out; simpa using this⟩
  case round =>
    obtain ⟨k, hk, rfl, ha⟩ := hrel
    have HA := Lib.hid ha
    clear ha
    by_cases hlt : f + k < s.size
    · have hi : (f : Int) + (k : Int) < (s.size : Int) := by omega
      have HI := Lib.hid (show ((f : Int) + (k : Int)) = ((f + k : Nat) : Int) from by omega)
      have hi2 : ((f : Int) + (k : Int)).toNat = f + k := by omega
      cases hp : part (s[f + k].toNat : Int) with
      | true =>
        have HP := Lib.hid hp
        clear hp
        go_wp2_with (go_at_call 77; refine (rpart_any _ _).mono ?_; rintro e w' ⟨rfl, rfl⟩; rw [HP.out])
        go_round
        case rel => exact ⟨k + 1, by omega, by go_num, by have := run_some s hlt HP.out; have := HA.out; rw [show f + (k + 1) = f + k + 1 from by omega]; omega⟩
        case measure => simp [intOf]; omega
      | false =>
        have HP := Lib.hid hp
        clear hp
        go_wp2_with (go_at_call 77; refine (rpart_any _ _).mono ?_; rintro e w' ⟨rfl, rfl⟩; rw [HP.out])
        go_ret
        exact ⟨ret_int (by have := run_none s hlt HP.out; have := HA.out; omega), rfl⟩
    · have hi : ¬ (f : Int) + (k : Int) < (s.size : Int) := by omega
      go_wp2
      go_ret
      refine ⟨ret_int ?_, rfl⟩
      have e : f + k = s.size := by omega
      have := run_end s
      have := HA.out
      rw [e] at this
      omega
end Go.Proofs.YtldgbdmiebipnaaGreatDoor

namespace Go.Proofs.YtldgbdmiebipnaaGreatDoor
open Go.RowKit

def str (l : List UInt8) : Value := .string ⟨l.toArray⟩
theorem ret_str {a b : List UInt8} (h : a = b) : Ending.returned (.string ⟨a.toArray⟩) = .returned (.string ⟨b.toArray⟩) := by rw [h]

/-- The last digit of a number, as a byte. -/
def lastDigit (u : Nat) : UInt8 := UInt8.ofNat (48 + u % 10)
theorem digits_small {u : Nat} (h : u < 10) : Lib.decDigits u = [lastDigit u] := by
  rw [Lib.decDigits_one h]; unfold lastDigit; rw [Nat.mod_eq_of_lt h]
theorem digits_len {u : Nat} (h : u < 18446744073709551616) : (Lib.decDigits (u / 10)).length ≤ 21 := by
  rw [← Lib.itoa_nonneg]
  exact Lib.itoa_length_le _ (by omega) (by omega)
theorem conv_one (w : World) (u : Nat) :
    (convert 59 9 (.slice (some ⟨w.heap.size, 0, none⟩) 1 1)).run Tryz.prog (w.alloc (.cells #[.int .u8 (48 + (u : Int) % 10)] 5)) = .ok (.string ⟨#[lastDigit u]⟩) (w.alloc (.cells #[.int .u8 (48 + (u : Int) % 10)] 5)) := by
  have h := run_convert_bytes_back (P := Tryz.prog) (w.alloc (.cells #[.int .u8 (48 + (u : Int) % 10)] 5)) 59 9 5 ⟨w.heap.size, 0, none⟩ 1 [lastDigit u] Tryz.underlying59 Tryz.underlying5 Tryz.underlying9
    (fun j hj => by
      have : j = 0 := by simp at hj; omega
      subst this
      have e := World.cell?_alloc_mark w #[.int .u8 (48 + (u : Int) % 10)] 5 (0, 0) 0
      show (w.alloc (.cells #[.int .u8 (48 + (u : Int) % 10)] 5)).cell? ⟨w.heap.size, 0, none⟩ = _
      rw [e]
      show some (Value.int .u8 (48 + (u : Int) % 10)) = some (.int .u8 ((UInt8.ofNat (48 + u % 10)).toNat : Int))
      rw [digit_val (by omega)]
      congr 2)
  exact h

set_option maxRecDepth 100000 in
set_option maxHeartbeats 400000 in
theorem ahead_any (u : Nat) (hu : u < 18446744073709551616) : ∀ w : World,
    Calls Tryz.prog 81 #[.int .u64 u] w fun e w' => e = .returned (.string ⟨(Lib.decDigits u).toArray⟩) ∧ Below w.heap.size w w' := by
  induction u using Nat.strongRecOn with
  | ind u ih =>
    intro w
    have hc := conv_one w u
    by_cases h : u < 10
    · have HS := Lib.hid (digits_small h)
      go_enter Tryz.func81, Tryz.ntmps81
      go_wp2_with fail
      go_ret
      refine ⟨?_, (Below.refl _ _).alloc (Nat.le_refl _) _⟩
      rw [HS.out]; rfl
    · have IH := Lib.hid (ih (u / 10) (by omega) (by omega))
      clear ih
      have hd : ((u : Int) / 10) = ((u / 10 : Nat) : Int) := by omega
      have HD := Lib.hid hd
      have HB := Lib.hid (show Lib.decDigits u = Lib.decDigits (u / 10) ++ [lastDigit u] from decDigits_big h)
      have hl := digits_len hu
      clear hd
      go_enter Tryz.func81, Tryz.ntmps81
      go_wp2_with (go_at_call 81; rw [HD.out]; refine (IH.out _).mono ?_; rintro e w' ⟨rfl, hb⟩)
      go_ret
      refine ⟨?_, ((Below.refl _ _).alloc (Nat.le_refl _) _).trans (hb.mono (by simp))⟩
      rw [HB.out]
      show Ending.returned (.string (⟨(Lib.decDigits (u / 10)).toArray⟩ ++ ⟨#[lastDigit u]⟩)) = _
      rw [show ((⟨(Lib.decDigits (u / 10)).toArray⟩ : ByteArray) ++ ⟨#[lastDigit u]⟩) = ⟨(Lib.decDigits (u / 10) ++ [lastDigit u]).toArray⟩ from by apply ByteArray.ext; simp]

theorem digits_len2 {u : Nat} (h : u ≤ 9223372036854775808) : (Lib.decDigits u).length ≤ 42 := by
  by_cases h1 : u < 10
  · rw [Lib.decDigits_one h1]; simp
  · rw [decDigits_big h1]
    have := digits_len (u := u) (by omega)
    simp; omega
set_option maxHeartbeats 400000 in
theorem rdigits_any (n : Int) (h0 : -9223372036854775808 ≤ n) (h1 : n ≤ 9223372036854775807) (w : World) :
    Calls Tryz.prog 67 #[.int .i64 n] w fun e w' => e = .returned (.string ⟨(Lib.itoa n).toArray⟩) ∧ Below w.heap.size w w' := by
  by_cases hn : n < 0
  · have HN := Lib.hid (show -(n + 1) + 1 = ((n.natAbs : Nat) : Int) from by omega)
    have HI := Lib.hid (show Lib.itoa n = 45 :: Lib.decDigits n.natAbs from by unfold Lib.itoa; rw [if_pos hn])
    have hl := digits_len2 (u := n.natAbs) (by omega)
    have C := Lib.hid (fun w => ahead_any n.natAbs (by omega) w)
    go_enter Tryz.func67, Tryz.ntmps67
    go_wp2_with (go_at_call 81; rw [HN.out]; refine (C.out _).mono ?_; rintro e w' ⟨rfl, hb⟩)
    go_ret
    refine ⟨?_, hb⟩
    rw [HI.out]
    show Ending.returned (.string (⟨#[45]⟩ ++ ⟨(Lib.decDigits n.natAbs).toArray⟩)) = _
    rw [show ((⟨#[45]⟩ : ByteArray) ++ ⟨(Lib.decDigits n.natAbs).toArray⟩) = ⟨(45 :: Lib.decDigits n.natAbs).toArray⟩ from by apply ByteArray.ext; simp]
  · obtain ⟨m, rfl⟩ := Int.eq_ofNat_of_zero_le (Int.not_lt.1 hn)
    have HI := Lib.hid (Lib.itoa_nonneg m)
    have C := Lib.hid (fun w => ahead_any m (by omega) w)
    go_enter Tryz.func67, Tryz.ntmps67
    go_wp2_with (go_at_call 81; refine (C.out _).mono ?_; rintro e w' ⟨rfl, hb⟩)
    go_ret
    refine ⟨?_, hb⟩
    rw [HI.out]; rfl
end Go.Proofs.YtldgbdmiebipnaaGreatDoor

namespace Go.Proofs.YtldgbdmiebipnaaGreatDoor
open Go.RowKit

set_option maxHeartbeats 400000 in
theorem rnumber_any (s : ByteArray) (w : World) :
    Calls Tryz.prog 59 #[.string s] w fun e w' => e = numEnd s ∧ Below w.heap.size w w' := by
  go_enter Tryz.func59, Tryz.ntmps59
  go_wp2
  go_loopw [4] (fun i wr => ∃ k : Nat, k ≤ 1000 ∧ i = .int .i64 k ∧ NoneYet s.data.toList k ∧ Below w.heap.size w wr) (fun i _ => 1000 - (intOf i).toNat)
  case atStart => exact ⟨0, by omega, rfl, (fun j hj => by omega), Below.refl _ _⟩
  case round =>
    obtain ⟨k, hk, rfl, hnone, hb⟩ := hrel
    have HN := Lib.hid hnone
    clear hnone
    by_cases hlt : k ≤ 999
    · have D := Lib.hid (fun w => rdigits_any (k : Int) (by omega) (by omega) w)
      have HI := Lib.hid (Lib.itoa_nonneg k)
      by_cases he : Lib.decDigits k = s.data.toList
      · have hq : (Lib.itoa k == s.toList) = true := by rw [beq_iff_eq, Lib.itoa_nonneg, he, ByteArray.toList_eq]
        have HE := Lib.hid he
        clear he
        go_wp2_with (go_at_call 67; refine (D.out _).mono ?_; rintro e w2 ⟨rfl, hw2⟩)
        go_ret2
        exact ⟨numEnd_some (num_here hlt HE.out), hb.trans (hw2.mono hb.size)⟩
      · have hq : (Lib.itoa k == s.toList) = false := by rw [beq_eq_false_iff_ne, Lib.itoa_nonneg, ByteArray.toList_eq]; exact he
        have HE := Lib.hid he
        clear he
        go_wp2_with (go_at_call 67; refine (D.out _).mono ?_; rintro e w2 ⟨rfl, hw2⟩)
        go_roundw
        case rel => exact ⟨k + 1, by omega, by go_num, HN.out.succ HE.out, hb.trans (hw2.mono hb.size)⟩
        case measure => simp [intOf]; omega
    · obtain rfl : k = 1000 := by omega
      go_wp2
      go_ret2
      exact ⟨numEnd_none HN.out.none, hb⟩
end Go.Proofs.YtldgbdmiebipnaaGreatDoor

namespace Go.Proofs.YtldgbdmiebipnaaGreatDoor
open Go.RowKit

set_option maxHeartbeats 400000 in
theorem rupper_any (s : ByteArray) (hs : s.size ≤ 9223372036854775806) (w : World) :
    Calls Tryz.prog 60 #[.string s] w fun e w' => e = .returned (.bool (upperB s)) ∧ Below w.heap.size w w' := by
  by_cases h0 : 1 ≤ s.size
  · by_cases h1 : s.size ≤ 20
    · have hw : upperB s = ((cls (s[0].toNat : Int) == 2) && allPart s.data.toList) := by
        rw [upper_spelt]; unfold speltB; rw [decide_eq_true ⟨h0, h1⟩, fits_eq (.inr rfl) (by omega)]; rfl
      have HW := Lib.hid hw
      clear hw
      have C := Lib.hid (fun b w => rclass_any b w)
      have A := Lib.hid (fun w => rparts_any s hs w)
      have hi : (0 : Int) < (s.size : Int) := by omega
      cases hc : (cls (s[0].toNat : Int) == 2) with
      | false =>
        have HC := Lib.hid hc
        go_enter Tryz.func60, Tryz.ntmps60
        go_wp2_with (go_at_call 30; refine (C.out _ _).mono ?_; rintro e w1 ⟨rfl, rfl⟩)
        go_ret
        exact ⟨ret_bool (by rw [HW.out, HC.out]; rfl), Below.refl _ _⟩
      | true =>
        have HC := Lib.hid hc
        go_enter Tryz.func60, Tryz.ntmps60
        go_wp2_with (first | (go_at_call 30; refine (C.out _ _).mono ?_; rintro e w1 ⟨rfl, rfl⟩) | (go_at_call 78; refine (A.out _).mono ?_; rintro e w1 ⟨rfl, rfl⟩))
        go_ret
        exact ⟨ret_bool (by rw [HW.out, HC.out]; rfl), Below.refl _ _⟩
    · have HF := Lib.hid (show upperB s = false from by unfold upperB speltB; rw [decide_eq_false (by omega)]; rfl)
      go_enter Tryz.func60, Tryz.ntmps60
      go_wp2_with fail
      go_ret
      exact ⟨ret_bool HF.out.symm, Below.refl _ _⟩
  · have HF := Lib.hid (show upperB s = false from by unfold upperB speltB; rw [decide_eq_false (by omega)]; rfl)
    go_enter Tryz.func60, Tryz.ntmps60
    go_wp2_with fail
    go_ret
    exact ⟨ret_bool HF.out.symm, Below.refl _ _⟩
end Go.Proofs.YtldgbdmiebipnaaGreatDoor

namespace Go.Proofs.YtldgbdmiebipnaaGreatDoor
open Go.RowKit

set_option maxRecDepth 100000 in
set_option maxHeartbeats 4000000 in
theorem at_36 (s : ByteArray) (i : Nat) (h0 : i < s.size) (hs : s.size ≤ 1000000) (hby : (s[i].toNat : Int) = 36) (w : World) :
    Calls Tryz.prog 31 #[.string s, .int .i64 i] w (TokAtPost s i w) := by
  have hi : (i : Int) < (s.size : Int) := by omega
  have hh := head_at h0
  have hle := run_le s (i := i + 1) (by omega)
  obtain ⟨m, hm⟩ : ∃ m, m = run s (i + 1) := ⟨_, rfl⟩
  have hms : i + 1 + m ≤ s.size := by omega
  have L1 := Lib.hid (fun w => long_any s ((i : Int) + 1) (i + 1) m (by omega) hm (by omega) (by omega) w)
  have hx1 := text_next s i
  have hr1 := run_next s i
  rw [← hm] at hx1 hr1
  obtain ⟨c, hc⟩ : ∃ c, c = cls (s[i].toNat : Int) := ⟨_, rfl⟩
  have CL := Lib.hid (fun w => (rclass_any (s[i].toNat : Int) w).mono fun e w' h => (show e = .returned (.int .i64 c) ∧ w = w' by rw [hc]; exact h))
  have N := Lib.hid (fun x w => rnumber_any x w)
  clear hle hm hc
  have hq : ((s[i].toNat : Int) == 36) = true := by rw [beq_iff_eq]; exact hby
  have hq2 : ((s[i].toNat : Int) == 37) = false := by rw [beq_eq_false_iff_ne]; omega
  have ht := tokL_36 (l := s.data.toList.drop i) (by rw [hh]; exact hby)
  rw [← hr1, ← hx1] at ht
  obtain ⟨x, hx⟩ : ∃ x, x = s.extract (i + 1) (i + 1 + m) := ⟨_, rfl⟩
  rw [← hx] at ht
  have HX := Lib.hid hx
  have hnv := numVal_bd x.data.toList
  have hE : numEnd x = .returned (.tuple #[.int .i64 (numVal x.data.toList), .bool (isNum x.data.toList)]) := rfl
  have HTk := Lib.hid ht
  clear hx hx1 hr1 hh ht hby
  cases hnum : isNum x.data.toList with
  | false =>
    have HA := Lib.hid (show ∀ k y n a, AtSays s i k y n a false from fun k y n a => by
      unfold AtSays; rw [HTk.out]; unfold numCut; rw [if_neg (by rw [hnum]; simp)])
    rw [hnum] at hE
    have E := Lib.hid hE
    clear hE hnum
    go_enter Tryz.func31, Tryz.ntmps31
    go_wp2_with fail
    refine (CL.out _).mono ?_; rintro e w1 ⟨rfl, rfl⟩
    go_wp2_with fail
    refine (L1.out _).mono ?_; rintro e w1 ⟨rfl, rfl⟩
    go_wp2_with fail
    rw [← HX.out]
    refine (N.out _ _).mono ?_; rintro e w1 ⟨rfl, hb⟩
    rw [E.out]
    obtain ⟨c0, c1, c2, c3, f0, f1, f2, f3⟩ := box_after hb
    replace hb := below_box hb
    go_wp2_with fail
    exact bodyPost_ret (v := .tuple #[.agg #[.int .i64 0, .string ⟨#[]⟩, .int .i64 0, .int .i64 0], .bool false]) (by simp [results, Tryz.results31, go_sem, c0, c1, c2, c3]) rfl ⟨_, _, _, _, _, rfl, HA.out _ _ _ _, (((hb.setCell (Nat.le_refl _) _).setCell (Nat.le_refl _) _).setCell (Nat.le_refl _) _).setCell (Nat.le_refl _) _⟩
  | true =>
    rw [hnum] at hE
    have E := Lib.hid hE
    clear hE
    by_cases hlt : numVal x.data.toList < 1
    · have hz : (numVal x.data.toList == 0) = true := by rw [beq_iff_eq]; omega
      have HA := Lib.hid (show ∀ k y n a, AtSays s i k y n a false from fun k y n a => by
        unfold AtSays; rw [HTk.out]; unfold numCut; rw [if_neg]; rintro ⟨_, h⟩; exact h hlt)
      clear hnum
      obtain ⟨v, hv⟩ : ∃ v, v = numVal x.data.toList := ⟨_, rfl⟩
      rw [← hv] at hlt E hnv hz
      have HV := Lib.hid hv
      clear hv
      go_enter Tryz.func31, Tryz.ntmps31
      go_wp2_with fail
      refine (CL.out _).mono ?_; rintro e w1 ⟨rfl, rfl⟩
      go_wp2_with fail
      refine (L1.out _).mono ?_; rintro e w1 ⟨rfl, rfl⟩
      go_wp2_with fail
      rw [← HX.out]
      refine (N.out _ _).mono ?_; rintro e w1 ⟨rfl, hb⟩
      rw [E.out]
      obtain ⟨c0, c1, c2, c3, f0, f1, f2, f3⟩ := box_after hb
      replace hb := below_box hb
      go_wp2_with fail
      exact bodyPost_ret (v := .tuple #[.agg #[.int .i64 0, .string ⟨#[]⟩, .int .i64 0, .int .i64 0], .bool false]) (by simp [results, Tryz.results31, go_sem, c0, c1, c2, c3]) rfl ⟨_, _, _, _, _, rfl, HA.out _ _ _ _, (((hb.setCell (Nat.le_refl _) _).setCell (Nat.le_refl _) _).setCell (Nat.le_refl _) _).setCell (Nat.le_refl _) _⟩
    · have hz : (numVal x.data.toList == 0) = false := by rw [beq_eq_false_iff_ne]; omega
      have HA := Lib.hid (show AtSays s i 4 (s.extract i (i + 1 + m)) (numVal x.data.toList) i true from by
        unfold AtSays; rw [HTk.out]; unfold numCut; rw [if_pos ⟨hnum, hlt⟩]; exact ⟨rfl, rfl, by rw [Nat.add_assoc], rfl, rfl⟩)
      clear hnum
      obtain ⟨v, hv⟩ : ∃ v, v = numVal x.data.toList := ⟨_, rfl⟩
      rw [← hv] at hlt E hnv hz HA
      have HV := Lib.hid hv
      clear hv
      go_enter Tryz.func31, Tryz.ntmps31
      go_wp2_with fail
      refine (CL.out _).mono ?_; rintro e w1 ⟨rfl, rfl⟩
      go_wp2_with fail
      refine (L1.out _).mono ?_; rintro e w1 ⟨rfl, rfl⟩
      go_wp2_with fail
      rw [← HX.out]
      refine (N.out _ _).mono ?_; rintro e w1 ⟨rfl, hb⟩
      rw [E.out]
      obtain ⟨c0, c1, c2, c3, f0, f1, f2, f3⟩ := box_after hb
      replace hb := below_box hb
      go_wp2_with fail
      exact bodyPost_ret (v := .tuple #[.agg #[.int .i64 4, .string (s.extract i (i + 1 + m)), .int .i64 v, .int .i64 i], .bool true]) (by simp [results, Tryz.results31, go_sem, c0, c1, c2, c3]) rfl ⟨_, _, _, _, _, rfl, HA.out, (((hb.setCell (Nat.le_refl _) _).setCell (Nat.le_refl _) _).setCell (Nat.le_refl _) _).setCell (Nat.le_refl _) _⟩
set_option maxRecDepth 100000 in
set_option maxHeartbeats 4000000 in
theorem at_37 (s : ByteArray) (i : Nat) (h0 : i < s.size) (hs : s.size ≤ 1000000) (hby : (s[i].toNat : Int) = 37) (w : World) :
    Calls Tryz.prog 31 #[.string s, .int .i64 i] w (TokAtPost s i w) := by
  have hi : (i : Int) < (s.size : Int) := by omega
  have hh := head_at h0
  have hle := run_le s (i := i + 1) (by omega)
  obtain ⟨m, hm⟩ : ∃ m, m = run s (i + 1) := ⟨_, rfl⟩
  have hms : i + 1 + m ≤ s.size := by omega
  have L1 := Lib.hid (fun w => long_any s ((i : Int) + 1) (i + 1) m (by omega) hm (by omega) (by omega) w)
  have hx1 := text_next s i
  have hr1 := run_next s i
  rw [← hm] at hx1 hr1
  obtain ⟨c, hc⟩ : ∃ c, c = cls (s[i].toNat : Int) := ⟨_, rfl⟩
  have CL := Lib.hid (fun w => (rclass_any (s[i].toNat : Int) w).mono fun e w' h => (show e = .returned (.int .i64 c) ∧ w = w' by rw [hc]; exact h))
  have N := Lib.hid (fun x w => rnumber_any x w)
  clear hle hm hc
  have hq : ((s[i].toNat : Int) == 36) = false := by rw [beq_eq_false_iff_ne]; omega
  have hq2 : ((s[i].toNat : Int) == 37) = true := by rw [beq_iff_eq]; exact hby
  have ht := tokL_37 (l := s.data.toList.drop i) (by rw [hh]; exact hby)
  rw [← hr1, ← hx1] at ht
  obtain ⟨x, hx⟩ : ∃ x, x = s.extract (i + 1) (i + 1 + m) := ⟨_, rfl⟩
  rw [← hx] at ht
  have HX := Lib.hid hx
  have hnv := numVal_bd x.data.toList
  have hE : numEnd x = .returned (.tuple #[.int .i64 (numVal x.data.toList), .bool (isNum x.data.toList)]) := rfl
  have HTk := Lib.hid ht
  clear hx hx1 hr1 hh ht hby
  cases hnum : isNum x.data.toList with
  | false =>
    have HA := Lib.hid (show ∀ k y n a, AtSays s i k y n a false from fun k y n a => by
      unfold AtSays; rw [HTk.out]; unfold numCut; rw [if_neg (by rw [hnum]; simp)])
    rw [hnum] at hE
    have E := Lib.hid hE
    clear hE hnum
    go_enter Tryz.func31, Tryz.ntmps31
    go_wp2_with fail
    refine (CL.out _).mono ?_; rintro e w1 ⟨rfl, rfl⟩
    go_wp2_with fail
    refine (L1.out _).mono ?_; rintro e w1 ⟨rfl, rfl⟩
    go_wp2_with fail
    rw [← HX.out]
    refine (N.out _ _).mono ?_; rintro e w1 ⟨rfl, hb⟩
    rw [E.out]
    obtain ⟨c0, c1, c2, c3, f0, f1, f2, f3⟩ := box_after hb
    replace hb := below_box hb
    go_wp2_with fail
    exact bodyPost_ret (v := .tuple #[.agg #[.int .i64 0, .string ⟨#[]⟩, .int .i64 0, .int .i64 0], .bool false]) (by simp [results, Tryz.results31, go_sem, c0, c1, c2, c3]) rfl ⟨_, _, _, _, _, rfl, HA.out _ _ _ _, (((hb.setCell (Nat.le_refl _) _).setCell (Nat.le_refl _) _).setCell (Nat.le_refl _) _).setCell (Nat.le_refl _) _⟩
  | true =>
    rw [hnum] at hE
    have E := Lib.hid hE
    clear hE
    by_cases hlt : numVal x.data.toList < 0
    · have hz : (numVal x.data.toList == 0) = true := by rw [beq_iff_eq]; omega
      have HA := Lib.hid (show ∀ k y n a, AtSays s i k y n a false from fun k y n a => by
        unfold AtSays; rw [HTk.out]; unfold numCut; rw [if_neg]; rintro ⟨_, h⟩; exact h hlt)
      clear hnum
      obtain ⟨v, hv⟩ : ∃ v, v = numVal x.data.toList := ⟨_, rfl⟩
      rw [← hv] at hlt E hnv hz
      have HV := Lib.hid hv
      clear hv
      exfalso; omega
    · have HA := Lib.hid (show AtSays s i 5 (s.extract i (i + 1 + m)) (numVal x.data.toList) i true from by
        unfold AtSays; rw [HTk.out]; unfold numCut; rw [if_pos ⟨hnum, hlt⟩]; exact ⟨rfl, rfl, by rw [Nat.add_assoc], rfl, rfl⟩)
      clear hnum
      obtain ⟨v, hv⟩ : ∃ v, v = numVal x.data.toList := ⟨_, rfl⟩
      rw [← hv] at hlt E hnv HA
      have HV := Lib.hid hv
      clear hv
      go_enter Tryz.func31, Tryz.ntmps31
      go_wp2_with fail
      refine (CL.out _).mono ?_; rintro e w1 ⟨rfl, rfl⟩
      go_wp2_with fail
      refine (L1.out _).mono ?_; rintro e w1 ⟨rfl, rfl⟩
      go_wp2_with fail
      rw [← HX.out]
      refine (N.out _ _).mono ?_; rintro e w1 ⟨rfl, hb⟩
      rw [E.out]
      obtain ⟨c0, c1, c2, c3, f0, f1, f2, f3⟩ := box_after hb
      replace hb := below_box hb
      go_wp2_with fail
      exact bodyPost_ret (v := .tuple #[.agg #[.int .i64 5, .string (s.extract i (i + 1 + m)), .int .i64 v, .int .i64 i], .bool true]) (by simp [results, Tryz.results31, go_sem, c0, c1, c2, c3]) rfl ⟨_, _, _, _, _, rfl, HA.out, (((hb.setCell (Nat.le_refl _) _).setCell (Nat.le_refl _) _).setCell (Nat.le_refl _) _).setCell (Nat.le_refl _) _⟩
set_option maxRecDepth 100000 in
set_option maxHeartbeats 4000000 in
theorem at_sign (s : ByteArray) (i : Nat) (h0 : i < s.size) (hs : s.size ≤ 1000000) (h36 : ¬ (s[i].toNat : Int) = 36) (h37 : ¬ (s[i].toNat : Int) = 37) (hcl : cls (s[i].toNat : Int) = 4) (w : World) :
    Calls Tryz.prog 31 #[.string s, .int .i64 i] w (TokAtPost s i w) := by
  have hi : (i : Int) < (s.size : Int) := by omega
  have hh := head_at h0
  have hq : ((s[i].toNat : Int) == 36) = false := by rw [beq_eq_false_iff_ne]; exact h36
  have hq2 : ((s[i].toNat : Int) == 37) = false := by rw [beq_eq_false_iff_ne]; exact h37
  obtain ⟨c, hc⟩ : ∃ c, c = cls (s[i].toNat : Int) := ⟨_, rfl⟩
  have CL := Lib.hid (fun w => (rclass_any (s[i].toNat : Int) w).mono fun e w' h => (show e = .returned (.int .i64 c) ∧ w = w' by rw [hc]; exact h))
  rw [← hc] at hcl
  have ht := tokL_sign (l := s.data.toList.drop i) (by rw [hh]; exact h36) (by rw [hh]; exact h37) (by rw [hh, ← hc]; exact hcl)
  have HA := Lib.hid (show AtSays s i 6 (s.extract i (i + 1)) 0 i true from by unfold AtSays; rw [ht]; exact ⟨rfl, rfl, rfl, rfl, rfl⟩)
  subst hcl
  clear hc hh ht h36 h37
  go_enter Tryz.func31, Tryz.ntmps31
  go_wp2_with fail
  refine (CL.out _).mono ?_; rintro e w1 ⟨rfl, rfl⟩
  go_wp2_with fail
  exact bodyPost_ret (v := .tuple #[.agg #[.int .i64 6, .string (s.extract i (i + 1)), .int .i64 0, .int .i64 i], .bool true]) (by simp [results, Tryz.results31, go_sem]) rfl ⟨_, _, _, _, _, rfl, HA.out, (Below.refl _ _).alloc (Nat.le_refl _) _⟩
set_option maxRecDepth 100000 in
set_option maxHeartbeats 4000000 in
theorem at_none (s : ByteArray) (i : Nat) (h0 : i < s.size) (_hs : s.size ≤ 1000000) (h36 : ¬ (s[i].toNat : Int) = 36) (h37 : ¬ (s[i].toNat : Int) = 37) (hcl : cls (s[i].toNat : Int) = 0 ∨ cls (s[i].toNat : Int) = 5) (w : World) :
    Calls Tryz.prog 31 #[.string s, .int .i64 i] w (TokAtPost s i w) := by
  have hi : (i : Int) < (s.size : Int) := by omega
  have hh := head_at h0
  have hq : ((s[i].toNat : Int) == 36) = false := by rw [beq_eq_false_iff_ne]; exact h36
  have hq2 : ((s[i].toNat : Int) == 37) = false := by rw [beq_eq_false_iff_ne]; exact h37
  obtain ⟨c, hc⟩ : ∃ c, c = cls (s[i].toNat : Int) := ⟨_, rfl⟩
  have CL := Lib.hid (fun w => (rclass_any (s[i].toNat : Int) w).mono fun e w' h => (show e = .returned (.int .i64 c) ∧ w = w' by rw [hc]; exact h))
  have ht := tokL_none (l := s.data.toList.drop i) (by rw [hh]; exact hcl)
  have HA := Lib.hid (show ∀ k y n a, AtSays s i k y n a false from fun k y n a => by unfold AtSays; rw [ht])
  rw [← hc] at hcl
  clear hc hh ht h36 h37
  rcases hcl with rfl | rfl
  all_goals
    go_enter Tryz.func31, Tryz.ntmps31
    go_wp2_with fail
    refine (CL.out _).mono ?_; rintro e w1 ⟨rfl, rfl⟩
    go_wp2_with fail
    exact bodyPost_ret (v := .tuple #[.agg #[.int .i64 0, .string ⟨#[]⟩, .int .i64 0, .int .i64 0], .bool false]) (by simp [results, Tryz.results31, go_sem]) rfl ⟨_, _, _, _, _, rfl, HA.out _ _ _ _, (Below.refl _ _).alloc (Nat.le_refl _) _⟩
set_option maxRecDepth 100000 in
set_option maxHeartbeats 4000000 in
theorem at_digit (s : ByteArray) (i : Nat) (h0 : i < s.size) (hs : s.size ≤ 1000000) (h36 : ¬ (s[i].toNat : Int) = 36) (h37 : ¬ (s[i].toNat : Int) = 37) (hcl : cls (s[i].toNat : Int) = 3) (w : World) :
    Calls Tryz.prog 31 #[.string s, .int .i64 i] w (TokAtPost s i w) := by
  have hi : (i : Int) < (s.size : Int) := by omega
  have hh := head_at h0
  have hle0 := run_le s (i := i) (by omega)
  obtain ⟨m, hm⟩ : ∃ m, m = run s i := ⟨_, rfl⟩
  have hms : i + m ≤ s.size := by omega
  have L0 := Lib.hid (fun w => long_any s (i : Int) i m rfl hm (by omega) (by omega) w)
  have hx0 := text_at s i
  have hr0 := run_at s i
  rw [← hm] at hx0 hr0
  have hq : ((s[i].toNat : Int) == 36) = false := by rw [beq_eq_false_iff_ne]; exact h36
  have hq2 : ((s[i].toNat : Int) == 37) = false := by rw [beq_eq_false_iff_ne]; exact h37
  obtain ⟨c, hc⟩ : ∃ c, c = cls (s[i].toNat : Int) := ⟨_, rfl⟩
  have CL := Lib.hid (fun w => (rclass_any (s[i].toNat : Int) w).mono fun e w' h => (show e = .returned (.int .i64 c) ∧ w = w' by rw [hc]; exact h))
  have N := Lib.hid (fun x w => rnumber_any x w)
  have ht := tokL_digit (l := s.data.toList.drop i) (by rw [hh]; exact hcl)
  rw [← hr0, ← hx0] at ht
  rw [← hc] at hcl
  obtain ⟨x, hx⟩ : ∃ x, x = s.extract i (i + m) := ⟨_, rfl⟩
  rw [← hx] at ht
  have hnv := numVal_bd x.data.toList
  have hE : numEnd x = .returned (.tuple #[.int .i64 (numVal x.data.toList), .bool (isNum x.data.toList)]) := rfl
  have HA : AtSays s i 3 x (numVal x.data.toList) i (isNum x.data.toList) := by
    unfold AtSays; rw [ht]; unfold numCut
    cases hn : isNum x.data.toList with
    | true => rw [if_pos ⟨rfl, by omega⟩]; exact ⟨rfl, rfl, hx, rfl, rfl⟩
    | false => rw [if_neg (by rintro ⟨h, _⟩; cases h)]
  have E := Lib.hid hE
  have HX := Lib.hid hx
  obtain ⟨v, hv⟩ : ∃ v, v = numVal x.data.toList := ⟨_, rfl⟩
  obtain ⟨b, hbb⟩ : ∃ b, b = isNum x.data.toList := ⟨_, rfl⟩
  rw [← hv] at E hnv HA
  rw [← hbb] at E HA
  have HA := Lib.hid HA
  subst hcl
  clear hle0 hc hh ht h36 h37 hx hE hv hbb hx0 hr0 hm
  go_enter Tryz.func31, Tryz.ntmps31
  go_wp2_with fail
  refine (CL.out _).mono ?_; rintro e w1 ⟨rfl, rfl⟩
  go_wp2_with fail
  refine (L0.out _).mono ?_; rintro e w1 ⟨rfl, rfl⟩
  go_wp2_with fail
  rw [← HX.out]
  refine (N.out _ _).mono ?_; rintro e w1 ⟨rfl, hb⟩
  rw [E.out]
  obtain ⟨c0, c1, c2, c3, f0, f1, f2, f3⟩ := box_after hb
  replace hb := below_box hb
  go_wp2_with fail
  exact bodyPost_ret (v := .tuple #[.agg #[.int .i64 3, .string x, .int .i64 v, .int .i64 i], .bool b]) (by simp [results, Tryz.results31, go_sem, c0, c1, c2, c3]) rfl ⟨_, _, _, _, _, rfl, HA.out, (((hb.setCell (Nat.le_refl _) _).setCell (Nat.le_refl _) _).setCell (Nat.le_refl _) _).setCell (Nat.le_refl _) _⟩
set_option maxRecDepth 100000 in
set_option maxHeartbeats 8000000 in
theorem at_word (s : ByteArray) (i : Nat) (h0 : i < s.size) (hs : s.size ≤ 1000000) (h36 : ¬ (s[i].toNat : Int) = 36) (h37 : ¬ (s[i].toNat : Int) = 37) (hcl : cls (s[i].toNat : Int) = 1 ∨ cls (s[i].toNat : Int) = 2) (w : World) :
    Calls Tryz.prog 31 #[.string s, .int .i64 i] w (TokAtPost s i w) := by
  have hi : (i : Int) < (s.size : Int) := by omega
  have hh := head_at h0
  have hle0 := run_le s (i := i) (by omega)
  obtain ⟨m, hm⟩ : ∃ m, m = run s i := ⟨_, rfl⟩
  have hms : i + m ≤ s.size := by omega
  have L0 := Lib.hid (fun w => long_any s (i : Int) i m rfl hm (by omega) (by omega) w)
  have hx0 := text_at s i
  have hr0 := run_at s i
  rw [← hm] at hx0 hr0
  have hq : ((s[i].toNat : Int) == 36) = false := by rw [beq_eq_false_iff_ne]; exact h36
  have hq2 : ((s[i].toNat : Int) == 37) = false := by rw [beq_eq_false_iff_ne]; exact h37
  obtain ⟨c, hc⟩ : ∃ c, c = cls (s[i].toNat : Int) := ⟨_, rfl⟩
  have CL := Lib.hid (fun w => (rclass_any (s[i].toNat : Int) w).mono fun e w' h => (show e = .returned (.int .i64 c) ∧ w = w' by rw [hc]; exact h))
  have N := Lib.hid (fun x w => rnumber_any x w)
  have ht := tokL_word (l := s.data.toList.drop i) (by rw [hh]; exact hcl)
  obtain ⟨x, hx⟩ : ∃ x, x = s.extract i (i + m) := ⟨_, rfl⟩
  rw [← hr0, ← hx0, bs_list, ← hx] at ht
  rw [← hc] at hcl
  have hxs : x.size ≤ 1000000 := by rw [hx]; simp; omega
  have HTk := Lib.hid ht
  have HX := Lib.hid hx
  have U := Lib.hid (fun w => rupper_any x (by omega) w)
  have W := Lib.hid (fun w => rword_any x (by omega) w)
  have K := Lib.hid (fun w => rkeys_any w)
  have I := Lib.hid (fun v w hv => rin_any v keyList x w hv)
  have hE : numEnd x = .returned (.tuple #[.int .i64 (numVal x.data.toList), .bool (isNum x.data.toList)]) := rfl
  have E := Lib.hid hE
  generalize numVal x.data.toList = v at E
  generalize isNum x.data.toList = b at E
  clear hle0 hc hh ht h36 h37 hx hE hx0 hr0 hm
  cases hu : upperB x with
  | true =>
    have HA := Lib.hid (show AtSays s i 2 x 0 i true from by unfold AtSays; rw [HTk.out]; unfold wordCut; rw [if_pos hu]; exact ⟨rfl, rfl, HX.out, rfl, rfl⟩)
    rw [hu] at U
    clear hu
    rcases hcl with rfl | rfl
    all_goals
      go_enter Tryz.func31, Tryz.ntmps31
      go_wp2_with fail
      refine (CL.out _).mono ?_; rintro e w1 ⟨rfl, rfl⟩
      go_wp2_with fail
      refine (L0.out _).mono ?_; rintro e w1 ⟨rfl, rfl⟩
      go_wp2_with fail
      rw [← HX.out]
      refine (N.out _ _).mono ?_; rintro e w1 ⟨rfl, hb⟩
      rw [E.out]
      obtain ⟨hx, hb, hlt⟩ := below_box' (box_new _ _ _ _ _ _) hb
      go_wp2_with fail
      refine (U.out _).mono ?_; rintro e w2 ⟨rfl, hb2⟩
      replace hx := hx.below hb2 hlt
      replace hlt := Nat.lt_of_lt_of_le hlt hb2.size
      replace hb := hb.trans (hb2.mono hb.size)
      clear hb2
      obtain ⟨c0, c1, c2, c3, f0, f1, f2, f3⟩ := hx
      go_wp2_with fail
      exact bodyPost_ret (v := .tuple #[.agg #[.int .i64 2, .string x, .int .i64 0, .int .i64 i], .bool true]) (by simp [results, Tryz.results31, go_sem, c0, c1, c2, c3]) rfl ⟨_, _, _, _, _, rfl, HA.out, (((hb.setCell (Nat.le_refl _) _).setCell (Nat.le_refl _) _).setCell (Nat.le_refl _) _).setCell (Nat.le_refl _) _⟩
  | false =>
    cases hw : wordB x with
    | true =>
      have HA := Lib.hid (show AtSays s i 1 x 0 i true from by unfold AtSays; rw [HTk.out]; unfold wordCut; rw [if_neg (by rw [hu]; simp), if_pos (.inl hw)]; exact ⟨rfl, rfl, HX.out, rfl, rfl⟩)
      rw [hu] at U
      rw [hw] at W
      clear hu hw
      rcases hcl with rfl | rfl
      all_goals
        go_enter Tryz.func31, Tryz.ntmps31
        go_wp2_with fail
        refine (CL.out _).mono ?_; rintro e w1 ⟨rfl, rfl⟩
        go_wp2_with fail
        refine (L0.out _).mono ?_; rintro e w1 ⟨rfl, rfl⟩
        go_wp2_with fail
        rw [← HX.out]
        refine (N.out _ _).mono ?_; rintro e w1 ⟨rfl, hb⟩
        rw [E.out]
        obtain ⟨hx, hb, hlt⟩ := below_box' (box_new _ _ _ _ _ _) hb
        go_wp2_with fail
        refine (U.out _).mono ?_; rintro e w2 ⟨rfl, hb2⟩
        replace hx := hx.below hb2 hlt
        replace hlt := Nat.lt_of_lt_of_le hlt hb2.size
        replace hb := hb.trans (hb2.mono hb.size)
        clear hb2
        go_wp2_with fail
        refine (W.out _).mono ?_; rintro e w3 ⟨rfl, hb2⟩
        replace hx := hx.below hb2 hlt
        replace hlt := Nat.lt_of_lt_of_le hlt hb2.size
        replace hb := hb.trans (hb2.mono hb.size)
        clear hb2
        obtain ⟨c0, c1, c2, c3, f0, f1, f2, f3⟩ := hx
        go_wp2_with fail
        exact bodyPost_ret (v := .tuple #[.agg #[.int .i64 1, .string x, .int .i64 0, .int .i64 i], .bool true]) (by simp [results, Tryz.results31, go_sem, c0, c1, c2, c3]) rfl ⟨_, _, _, _, _, rfl, HA.out, (((hb.setCell (Nat.le_refl _) _).setCell (Nat.le_refl _) _).setCell (Nat.le_refl _) _).setCell (Nat.le_refl _) _⟩
    | false =>
      have HA : AtSays s i 1 x 0 i (Lib.containsS keyList x) := by
        unfold AtSays; rw [HTk.out]; unfold wordCut; rw [if_neg (by rw [hu]; simp)]
        cases hk : Lib.containsS keyList x with
        | true => rw [if_pos (.inr rfl)]; exact ⟨rfl, rfl, HX.out, rfl, rfl⟩
        | false => rw [if_neg (by rw [hw]; simp)]
      rw [hu] at U
      rw [hw] at W
      generalize Lib.containsS keyList x = z at HA I
      have HA := Lib.hid HA
      clear hu hw
      rcases hcl with rfl | rfl
      all_goals
        go_enter Tryz.func31, Tryz.ntmps31
        go_wp2_with fail
        refine (CL.out _).mono ?_; rintro e w1 ⟨rfl, rfl⟩
        go_wp2_with fail
        refine (L0.out _).mono ?_; rintro e w1 ⟨rfl, rfl⟩
        go_wp2_with fail
        rw [← HX.out]
        refine (N.out _ _).mono ?_; rintro e w1 ⟨rfl, hb⟩
        rw [E.out]
        obtain ⟨hx, hb, hlt⟩ := below_box' (box_new _ _ _ _ _ _) hb
        go_wp2_with fail
        refine (U.out _).mono ?_; rintro e w2 ⟨rfl, hb2⟩
        replace hx := hx.below hb2 hlt
        replace hlt := Nat.lt_of_lt_of_le hlt hb2.size
        replace hb := hb.trans (hb2.mono hb.size)
        clear hb2
        go_wp2_with fail
        refine (W.out _).mono ?_; rintro e w3 ⟨rfl, hb2⟩
        replace hx := hx.below hb2 hlt
        replace hlt := Nat.lt_of_lt_of_le hlt hb2.size
        replace hb := hb.trans (hb2.mono hb.size)
        clear hb2
        go_wp2_with fail
        refine (K.out _).mono ?_; rintro e w4 ⟨kv, rfl, hkv, hb2⟩
        replace hx := hx.below hb2 hlt
        replace hlt := Nat.lt_of_lt_of_le hlt hb2.size
        replace hb := hb.trans (hb2.mono hb.size)
        clear hb2
        have I1 := Lib.hid (I.out _ _ hkv)
        clear hkv
        go_wp2_with fail
        refine I1.out.mono ?_; rintro e w5 ⟨rfl, rfl⟩
        obtain ⟨c0, c1, c2, c3, f0, f1, f2, f3⟩ := hx
        go_wp2_with fail
        exact bodyPost_ret (v := .tuple #[.agg #[.int .i64 1, .string x, .int .i64 0, .int .i64 i], .bool z]) (by simp [results, Tryz.results31, go_sem, c0, c1, c2, c3]) rfl ⟨_, _, _, _, _, rfl, HA.out, (((hb.setCell (Nat.le_refl _) _).setCell (Nat.le_refl _) _).setCell (Nat.le_refl _) _).setCell (Nat.le_refl _) _⟩
theorem at_fn (s : ByteArray) (i : Nat) (h0 : i < s.size) (hs : s.size ≤ 1000000) (w : World) :
    Calls Tryz.prog 31 #[.string s, .int .i64 i] w (TokAtPost s i w) := by
  by_cases h36 : (s[i].toNat : Int) = 36
  · exact at_36 s i h0 hs h36 w
  · by_cases h37 : (s[i].toNat : Int) = 37
    · exact at_37 s i h0 hs h37 w
    · have hbd := cls_bd (s[i].toNat : Int)
      rcases (show cls (s[i].toNat : Int) = 4 ∨ cls (s[i].toNat : Int) = 3 ∨ (cls (s[i].toNat : Int) = 1 ∨ cls (s[i].toNat : Int) = 2) ∨ (cls (s[i].toNat : Int) = 0 ∨ cls (s[i].toNat : Int) = 5) from by omega) with h | h | h | h
      · exact at_sign s i h0 hs h36 h37 h w
      · exact at_digit s i h0 hs h36 h37 h w
      · exact at_word s i h0 hs h36 h37 h w
      · exact at_none s i h0 hs h36 h37 h w
end Go.Proofs.YtldgbdmiebipnaaGreatDoor
