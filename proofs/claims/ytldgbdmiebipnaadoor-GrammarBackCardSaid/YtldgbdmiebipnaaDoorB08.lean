/-
  The reader of the program's grammar in memory: what is left of the tokens, and how many brackets are open; what calls turn of it. No function of the program.
  The reader of the program's grammar: next, fail, take.
  What the byte functions of package chars answer: the class, or whether the byte may be part of a word, for every byte and in every world; nothing is changed.
  Whether a text is a word, and one of those that begin items, by package chars. Each call makes new memory alone.
  The reader of the program's grammar: pass, word, number.
  A row of the call's own, with the elements of a slice behind it that may have none and no memory. No function of the program.
  The terms that begin at a token, with a sign between, by the reference of layer 11: Terms, where Term is as it should be; then both.
-/
import Derived.Test.YtldgbdmiebipnaaDoorB03
import Derived.Test.YtldgbdmiebipnaaDoorB04
import Derived.Deep.RegionHeld3
import Derived.BigQuiet
import Derived.Test.YtldgbdmiebipnaaDoorB01
import Derived.WalkKit
import Derived.WalkSpells
import Derived.WalkLawsBesides
import Derived.Test.YtldgbdmiebipnaaDoorShelf
import Derived.Deep.QuietTactic
import Derived.Maps.AppendAt
import Derived.Laws.AppendOwnNone
namespace Go.Proofs.YtldgbdmiebipnaaDoor
open Go.RowKit

/-- The reader lies in block g: tokens from i on are left, op brackets are open; the tokens lie in block b. -/
structure Rdr (W : World) (g b o c : Nat) (L : List Tok) (i op : Nat) : Prop where
  box : W.heap[g]? = some (.cells #[.slice (some ⟨b, o + i * 4, none⟩) (L.length - i) (c - i), .int .i64 op] 89 (0, 0))
  cap : L.length ≤ c
  lt : b < g
  toks : ∀ (j : Nat) (h : j < L.length), TokAt W b (o + j * 4) L[j]
  here : i < L.length
theorem heap_lt {W : World} {g : Nat} {x : Obj} (h : W.heap[g]? = some x) : g < W.heap.size := by
  rcases Nat.lt_or_ge g W.heap.size with q | q
  · exact q
  · rw [Array.getElem?_eq_none q] at h; cases h
section
variable {W W' : World} {g b o c : Nat} {L : List Tok} {i op : Nat}
theorem Rdr.glt (h : Rdr W g b o c L i op) : g < W.heap.size := heap_lt h.box
theorem Rdr.c0 (h : Rdr W g b o c L i op) : W.cell? ⟨g, 0, none⟩ = some (.slice (some ⟨b, o + i * 4, none⟩) (L.length - i) (c - i)) := cell_of_row W g 0 _ _ (0, 0) h.box
theorem Rdr.c1 (h : Rdr W g b o c L i op) : W.cell? ⟨g, 1, none⟩ = some (.int .i64 op) := cell_of_row W g 1 _ _ (0, 0) h.box
theorem Rdr.f0 (h : Rdr W g b o c L i op) : W.frozen? ⟨g, 0, none⟩ = false := by simp [World.frozen?, h.box]
theorem Rdr.f1 (h : Rdr W g b o c L i op) : W.frozen? ⟨g, 1, none⟩ = false := by simp [World.frozen?, h.box]
theorem TokAt.stay {b o : Nat} {t : Tok} (h : TokAt W b o t) (hk : W'.heap[b]? = W.heap[b]?) : TokAt W' b o t := by
  obtain ⟨h0, h1, h2, h3⟩ := h
  exact ⟨(World.cell?_of_block (a := ⟨b, _, none⟩) hk).trans h0, (World.cell?_of_block (a := ⟨b, _, none⟩) hk).trans h1, (World.cell?_of_block (a := ⟨b, _, none⟩) hk).trans h2, (World.cell?_of_block (a := ⟨b, _, none⟩) hk).trans h3⟩
/-- Where all blocks stay. -/
theorem Rdr.keep (h : Rdr W g b o c L i op) (hk : ∀ k, k < W.heap.size → W'.heap[k]? = W.heap[k]?) : Rdr W' g b o c L i op :=
  ⟨(hk g h.glt).trans h.box, h.cap, h.lt, fun j hj => (h.toks j hj).stay (hk b (Nat.lt_trans h.lt h.glt)), h.here⟩
theorem Rdr.below (h : Rdr W g b o c L i op) (hb : Below W.heap.size W W') : Rdr W' g b o c L i op := h.keep fun k hk => hb.block k hk
/-- Behind a store of what is left. -/
theorem Rdr.left (h : Rdr W g b o c L i op) {j : Nat} (hj : j < L.length) {v : Value} (hv : v = .slice (some ⟨b, o + j * 4, none⟩) (L.length - j) (c - j)) : Rdr (W.setCell ⟨g, 0, none⟩ v) g b o c L j op := by
  subst hv
  refine ⟨?_, h.cap, h.lt, fun q hq => (h.toks q hq).stay (Below.heap_setCell _ _ _ _ (Nat.ne_of_lt h.lt)), hj⟩
  simp [World.setCell, Array.getElem?_modify, h.box]
/-- Behind a store of how many brackets are open. -/
theorem Rdr.opened (h : Rdr W g b o c L i op) {q : Nat} {v : Value} (hv : v = .int .i64 q) : Rdr (W.setCell ⟨g, 1, none⟩ v) g b o c L i q := by
  subst hv
  refine ⟨?_, h.cap, h.lt, fun q hq => (h.toks q hq).stay (Below.heap_setCell _ _ _ _ (Nat.ne_of_lt h.lt)), h.here⟩
  simp [World.setCell, Array.getElem?_modify, h.box]
end

/-! What a call turns: the reader's block alone. -/
theorem only_refl (W : World) (G : Option Nat) : W.grownBy W G := ⟨rfl, rfl, rfl, Nat.le_refl _, fun _ _ _ => rfl⟩
theorem only_trans {a b c : World} {G : Option Nat} (h : a.grownBy b G) (k : b.grownBy c G) : a.grownBy c G :=
  ⟨k.os.trans h.os, k.tape.trans h.tape, k.output.trans h.output, Nat.le_trans h.size k.size, fun i hi hn => (k.block i (Nat.lt_of_lt_of_le hi h.size) hn).trans (h.block i hi hn)⟩
theorem only_below {a b : World} (h : Below a.heap.size a b) (G : Option Nat) : a.grownBy b G := ⟨h.os, h.tape, h.output, h.size, fun k hk _ => h.block k hk⟩
theorem only_next {a b c : World} {G : Option Nat} (h : a.grownBy b G) (k : Below b.heap.size b c) : a.grownBy c G := only_trans h (only_below k G)
theorem only_alloc {a b : World} {G : Option Nat} (h : a.grownBy b G) (x : Obj) : a.grownBy (b.alloc x) G := only_next h ((Below.refl _ _).alloc (Nat.le_refl _) x)
theorem only_set {a b : World} {g : Nat} (h : a.grownBy b (some g)) (j : Nat) (v : Value) : a.grownBy (b.setCell ⟨g, j, none⟩ v) (some g) :=
  ⟨h.os, h.tape, h.output, by simpa using h.size, fun k hk hn => (Below.heap_setCell _ _ _ _ (fun e => hn (by rw [e]))).trans (h.block k hk hn)⟩
/-- A store into memory that was not there. -/
theorem only_put {a b : World} {G : Option Nat} (h : a.grownBy b G) {p : Addr} (hp : a.heap.size ≤ p.block) (v : Value) : a.grownBy (b.setCell p v) G :=
  ⟨h.os, h.tape, h.output, by simpa using h.size, fun k hk hn => (Below.heap_setCell _ _ _ _ (fun e => by subst e; omega)).trans (h.block k hk hn)⟩
theorem only_drewN {a b : World} {G : Option Nat} (h : a.grownBy b G) (r : Nat) : a.grownBy (b.drewN r) G := ⟨h.os, h.tape, h.output, h.size, h.block⟩
/-- Below the reader all stays. -/
theorem only_under {a b : World} {g B : Nat} (h : a.grownBy b (some g)) (hB : B ≤ g) (hs : B ≤ a.heap.size) : Below B a b :=
  ⟨h.os, h.tape, h.output, h.size, fun k hk => h.block k (by omega) (fun e => by injection e with e; omega)⟩
/-- What a call has made lives on. -/
theorem MadeR.only {u w w' W : World} {y : Rv} {g : Nat} (h : MadeR w w' y) (h1 : u.heap.size ≤ w.heap.size) (hb : w'.grownBy W (some g)) (hg : g < w.heap.size) : MadeR u W y := h.wide h1 hb.size fun k k1 k2 => hb.block k k2 (fun e => by injection e with e; omega)
theorem LiveR.only {W W' : World} {G : Option Nat} {base g : Nat} {y : Rv} (h : LiveR W G base y) (hb : W.grownBy W' (some g)) (hg : g < base) : LiveR W' G base y := by
  obtain ⟨lo, hi, h1, h2, h3, h4, h5⟩ := h
  refine ⟨lo, hi, h1, h2, Nat.le_trans h3 hb.size, h4, fun W2 g1 g2 => h5 W2 g1 fun k k1 k2 => ?_⟩
  rw [g2 k k1 k2]
  exact hb.block k (by omega) (fun e => by injection e with e; omega)
theorem RowR.only {W W' : World} {e : TypeId} {base g : Nat} {v : Value} {ts : List Tr} (h : RowR W e base v ts) (hb : W.grownBy W' (some g)) (hg : g < base) : RowR W' e base v ts := by
  obtain ⟨vs, h1, h2, h3⟩ := h
  exact ⟨vs, h1, fun x hx => (h2 x hx).only hb hg, own_at h3 fun k e => hb.block k (own_row_lt h3 k e) (fun q => by injection q with q; have := own_row_ge h3 k e; omega)⟩

/-! Boxes of five behind what turns the reader alone. -/
theorem Box5.only {w w1 : World} {x g : Nat} {x0 x1 x2 x3 x4 : Value} (h : Box5 w x x0 x1 x2 x3 x4) (ho : w.grownBy w1 (some g)) (hn : x ≠ g) : Box5 w1 x x0 x1 x2 x3 x4 := by
  have hk : w1.heap[x]? = w.heap[x]? := ho.block x (lt_of_cellR h.c0) (fun e => hn (by injection e))
  exact ⟨(World.cell?_of_block (a := ⟨x, 0, none⟩) hk).trans h.c0, (World.cell?_of_block (a := ⟨x, 1, none⟩) hk).trans h.c1, (World.cell?_of_block (a := ⟨x, 2, none⟩) hk).trans h.c2, (World.cell?_of_block (a := ⟨x, 3, none⟩) hk).trans h.c3, (World.cell?_of_block (a := ⟨x, 4, none⟩) hk).trans h.c4,
    (World.frozen?_of_block (a := ⟨x, 0, none⟩) hk).trans h.f0, (World.frozen?_of_block (a := ⟨x, 1, none⟩) hk).trans h.f1, (World.frozen?_of_block (a := ⟨x, 2, none⟩) hk).trans h.f2, (World.frozen?_of_block (a := ⟨x, 3, none⟩) hk).trans h.f3, (World.frozen?_of_block (a := ⟨x, 4, none⟩) hk).trans h.f4⟩
/-- Five cells of a block written. -/
abbrev sets5 (w : World) (x : Nat) (y0 y1 y2 y3 y4 : Value) : World := ((((w.setCell ⟨x, 0, none⟩ y0).setCell ⟨x, 1, none⟩ y1).setCell ⟨x, 2, none⟩ y2).setCell ⟨x, 3, none⟩ y3).setCell ⟨x, 4, none⟩ y4
theorem only_sets5 {a b : World} {G : Option Nat} (h : a.grownBy b G) {x : Nat} (hx : a.heap.size ≤ x) (y0 y1 y2 y3 y4 : Value) : a.grownBy (sets5 b x y0 y1 y2 y3 y4) G :=
  only_put (only_put (only_put (only_put (only_put h (p := ⟨x, 0, none⟩) hx _) (p := ⟨x, 1, none⟩) hx _) (p := ⟨x, 2, none⟩) hx _) (p := ⟨x, 3, none⟩) hx _) (p := ⟨x, 4, none⟩) hx _
theorem Rdr.stay {W W' : World} {g b o c : Nat} {L : List Tok} {i op : Nat} (h : Rdr W g b o c L i op) (h1 : W'.heap[g]? = W.heap[g]?) (h2 : W'.heap[b]? = W.heap[b]?) : Rdr W' g b o c L i op :=
  ⟨h1.trans h.box, h.cap, h.lt, fun j hj => (h.toks j hj).stay h2, h.here⟩
theorem Rdr.sets5 {W : World} {g b o c : Nat} {L : List Tok} {i op : Nat} (h : Rdr W g b o c L i op) {x : Nat} (hx : g < x) (y0 y1 y2 y3 y4 : Value) : Rdr (sets5 W x y0 y1 y2 y3 y4) g b o c L i op :=
  h.stay (sets5_heap _ _ _ _ _ _ _ g (by omega)) (sets5_heap _ _ _ _ _ _ _ b (by have := h.lt; omega))

/-- The fault at a token. -/
def fltV (L : List Tok) (i : Nat) : Value := .iface 26 (.agg #[.int .i64 2, .int .i64 (tkD L i).place])
def diesAt (L : List Tok) (i : Nat) : Ending := .panicked [{ v := fltV L i, recovered := false }]
end Go.Proofs.YtldgbdmiebipnaaDoor

namespace Go.Proofs.YtldgbdmiebipnaaDoor
open Go.RowKit

section
variable {g b o c : Nat} {L : List Tok} {i op : Nat}
set_option maxRecDepth 100000 in
set_option maxHeartbeats 1000000 in
/-- Whether a text is next. -/
theorem next_any (s : ByteArray) (W : World) (h : Rdr W g b o c L i op) :
    Calls Tryd.prog 59 #[.pointer (some ⟨g, 0, none⟩), .string s] W fun e w' => e = .returned (.bool ((tkD L i).text.toList == s.toList)) ∧ W = w' := by
  have h0 := h.c0
  have hi := h.here
  obtain ⟨t0, t1, t2, t3⟩ := h.toks i hi
  rw [tkD_at hi]
  obtain ⟨x, hx⟩ : ∃ x, L[i].text = x := ⟨_, rfl⟩
  obtain ⟨n, hn⟩ : ∃ n, L.length - i = n := ⟨_, rfl⟩
  obtain ⟨k, hk⟩ : ∃ k, c - i = k := ⟨_, rfl⟩
  obtain ⟨a, ha⟩ : ∃ a, o + i * 4 = a := ⟨_, rfl⟩
  have hn0 : (0 : Int) < (n : Int) := by omega
  rw [hx] at t1 ⊢
  rw [hn, hk, ha] at h0
  rw [ha] at t0 t1 t2 t3
  clear h hx hn hk ha
  go_enter Tryd.func59, Tryd.ntmps59
  go_wp2_with fail
  go_ret
  exact ⟨rfl, rfl⟩
set_option maxRecDepth 100000 in
set_option maxHeartbeats 1000000 in
/-- The fault at the next token. -/
theorem fail_any (W : World) (h : Rdr W g b o c L i op) :
    Calls Tryd.prog 45 #[.pointer (some ⟨g, 0, none⟩)] W fun e w' => e = diesAt L i ∧ W = w' := by
  have h0 := h.c0
  have hi := h.here
  obtain ⟨t0, t1, t2, t3⟩ := h.toks i hi
  unfold diesAt fltV
  rw [tkD_at hi]
  obtain ⟨x, hx⟩ : ∃ x, L[i].place = x := ⟨_, rfl⟩
  obtain ⟨n, hn⟩ : ∃ n, L.length - i = n := ⟨_, rfl⟩
  obtain ⟨k, hk⟩ : ∃ k, c - i = k := ⟨_, rfl⟩
  obtain ⟨a, ha⟩ : ∃ a, o + i * 4 = a := ⟨_, rfl⟩
  have hn0 : (0 : Int) < (n : Int) := by omega
  rw [hx] at t3 ⊢
  rw [hn, hk, ha] at h0
  rw [ha] at t0 t1 t2 t3
  clear h hx hn hk ha
  go_enter Tryd.func45, Tryd.ntmps45
  go_wp2_with fail
  exact ⟨rfl, rfl, rfl⟩
set_option maxRecDepth 100000 in
set_option maxHeartbeats 1000000 in
/-- The next token as a tree, passed over. -/
theorem take_any (kd : Int) (W : World) (h : Rdr W g b o c L i op) (hi1 : i + 1 < L.length) (_hlen : L.length ≤ 100000) :
    Calls Tryd.prog 66 #[.pointer (some ⟨g, 0, none⟩), .int .i64 kd] W fun e w' => e = .returned (.agg #[.int .i64 kd, .string (tkD L i).text, .int .i64 (tkD L i).n, .int .i64 (tkD L i).place, .slice none 0 0]) ∧ Rdr w' g b o c L (i + 1) op ∧ W.grownBy w' (some g) := by
  have h0 := h.c0
  have hf := h.f0
  have hi := h.here
  have hg := h.glt
  have hcap := h.cap
  have hlt := h.lt
  obtain ⟨t0, t1, t2, t3⟩ := h.toks i hi
  rw [tkD_at hi]
  obtain ⟨t, ht⟩ : ∃ t, L[i] = t := ⟨_, rfl⟩
  rw [ht] at t0 t1 t2 t3 ⊢
  clear ht
  obtain ⟨tk, tx, tn, tp⟩ := t
  simp only at t0 t1 t2 t3 ⊢
  have hbw : b < W.heap.size := by omega
  have hbw1 : b < W.heap.size + 1 := by omega
  have hbw2 : b < W.heap.size + 1 + 1 := by omega
  have hg1 : g < W.heap.size + 1 := by omega
  have HW := Lib.hid h
  obtain ⟨n, hn⟩ : ∃ n, L.length - i = n + 1 + 1 := ⟨L.length - i - 2, by omega⟩
  obtain ⟨k, hk⟩ : ∃ k, c - i = k + 1 + 1 := ⟨c - i - 2, by omega⟩
  obtain ⟨a, ha⟩ : ∃ a, o + i * 4 = a := ⟨_, rfl⟩
  have hn0 : (0 : Int) < ((n + 1 + 1 : Nat) : Int) := by omega
  have hn1 : (1 : Int) < ((n + 1 + 1 : Nat) : Int) := by omega
  have hnk : n ≤ k := by omega
  rw [hn, hk, ha] at h0
  rw [ha] at t0 t1 t2 t3
  clear h
  go_enter Tryd.func66, Tryd.ntmps66
  go_wp2_with fail
  have hz : (W.setCell ⟨g, 0, none⟩ (.slice (some ⟨b, a + 4, none⟩) (n + 1) (k + 1))).heap.size = W.heap.size := by simp
  obtain ⟨V, hV⟩ : ∃ V, W.setCell ⟨g, 0, none⟩ (.slice (some ⟨b, a + 4, none⟩) (n + 1) (k + 1)) = V := ⟨_, rfl⟩
  rw [hV] at hz ⊢
  have hR : Rdr V g b o c L (i + 1) op := by
    rw [← hV]
    refine HW.out.left hi1 ?_
    rw [show o + (i + 1) * 4 = a + 4 from by omega, show L.length - (i + 1) = n + 1 from by omega, show c - (i + 1) = k + 1 from by omega]
  have hO : W.grownBy V (some g) := by rw [← hV]; exact only_set (only_refl _ _) _ _
  have bx := (box5_new V (.int .i64 kd) (.string tx) (.int .i64 tn) (.int .i64 tp) (.slice none 0 0) 36).below ((Below.refl _ _).alloc (Nat.le_refl _) (.cells #[.int .i64 tk, .string tx, .int .i64 tn, .int .i64 tp] 61)) (by simp)
  rw [hz] at bx
  obtain ⟨r0, r1, r2, r3, r4, _, _, _, _, _⟩ := bx
  have hB : Below V.heap.size V ((V.alloc (.cells #[.int .i64 kd, .string tx, .int .i64 tn, .int .i64 tp, .slice none 0 0] 36)).alloc (.cells #[.int .i64 tk, .string tx, .int .i64 tn, .int .i64 tp] 61)) := ((Below.refl _ _).alloc (Nat.le_refl _) _).alloc (by simp) _
  clear hV
  refine bodyPost_ret (v := .agg #[.int .i64 kd, .string tx, .int .i64 tn, .int .i64 tp, .slice none 0 0]) (by simp [results, Tryd.results66, go_sem, r0, r1, r2, r3, r4]) rfl ?_
  exact ⟨rfl, hR.below hB, only_next hO hB⟩
end
end Go.Proofs.YtldgbdmiebipnaaDoor

namespace Go.Proofs.YtldgbdmiebipnaaDoor
open Go.RowKit

set_option maxHeartbeats 400000 in
theorem class_any (b : Int) (w : World) :
    Calls Tryd.prog 53 #[.int .u8 b] w fun e w' => e = .returned (.int .i64 (cls b)) ∧ w = w' := by
  go_enter Tryd.func53, Tryd.ntmps53
  go_wp2
  all_goals go_ret
  all_goals refine ⟨ret_int ?_, rfl⟩
  all_goals (try simp only [beq_iff_eq, beq_eq_false_iff_ne, ne_eq] at *)
  all_goals (unfold cls; repeat (first | rw [if_pos (by omega)] | rw [if_neg (by omega)]))
set_option maxHeartbeats 400000 in
theorem part_any (b : Int) (w : World) :
    Calls Tryd.prog 84 #[.int .u8 b] w fun e w' => e = .returned (.bool (part b)) ∧ w = w' := by
  have hb := cls_bd b
  have hp : part b = decide (1 ≤ cls b ∧ cls b ≤ 3 ∨ b = 95) := rfl
  have h95 : b = 95 → cls b = 0 := by rintro rfl; decide
  have H := Lib.hid hp
  have H3 := Lib.hid h95
  clear hp h95
  generalize hc : cls b = c at H H3 hb
  have H2 := Lib.hid hc
  clear hc
  go_enter Tryd.func84, Tryd.ntmps84
  go_wp2_with (go_at_call 53; refine (class_any _ _).mono ?_; rintro e w' ⟨rfl, rfl⟩; rw [H2.out])
  all_goals go_ret
  all_goals refine ⟨ret_bool ?_, rfl⟩
  all_goals rw [H.out]
  all_goals have h95 := H3.out
  all_goals (try simp only [beq_iff_eq, beq_eq_false_iff_ne, bne_iff_ne, bne_eq_false_iff_eq, ne_eq] at *)
  all_goals first | (rw [decide_eq_true (by omega)]) | (rw [decide_eq_false (by omega)])
end Go.Proofs.YtldgbdmiebipnaaDoor

namespace Go.Proofs.YtldgbdmiebipnaaDoor
open Go.RowKit

set_option maxHeartbeats 400000 in
theorem keys_any (w : World) :
    Calls Tryd.prog 76 #[] w fun e w' => ∃ v, e = .returned v ∧ Strs w' v keyList ∧ Below w.heap.size w w' := by
  go_enter Tryd.func76, Tryd.ntmps76
  go_wp2
  go_ret
  exact ⟨_, rfl, strs_alloc w keyList 9 (by decide), (Below.refl _ _).alloc (Nat.le_refl _) _⟩
theorem contains_any (v : Value) (zs : List ByteArray) (x : ByteArray) (w : World) (hv : Strs w v zs) :
    Calls Tryd.prog 75 #[v, .string x] w fun e w' => e = .returned (.bool (Lib.containsS zs x)) ∧ w = w' := by
  obtain ⟨a, c, rfl, hl, h⟩ := hv
  rcases h with rfl | ⟨b, off, rfl, hlt, hc⟩
  · refine (Tryd.slices_Contains_string_empty a c x w).mono ?_
    rintro e w' ⟨rfl, rfl⟩
    exact ⟨rfl, rfl⟩
  · refine (Tryd.slices_Contains_string b off zs.length c zs x w (Nat.le_refl _) (by omega) hc).mono ?_
    rintro e w' ⟨rfl, rfl⟩
    rw [List.take_length]
    exact ⟨rfl, rfl⟩
set_option maxHeartbeats 400000 in
theorem key_any (s : ByteArray) (w : World) :
    Calls Tryd.prog 55 #[.string s] w fun e w' => e = .returned (.bool (Lib.containsS keyList s)) ∧ Below w.heap.size w w' := by
  go_enter Tryd.func55, Tryd.ntmps55
  go_wp2_with (first | (go_at_call 76; refine (keys_any _).mono ?_; rintro e w1 ⟨v, rfl, hv, hb⟩; replace hv := Lib.hid hv) | (go_at_call 75; refine (contains_any _ _ _ _ (Hid.out (by assumption))).mono ?_; rintro e w2 ⟨rfl, rfl⟩))
  go_ret
  exact ⟨rfl, hb⟩
set_option maxHeartbeats 400000 in
theorem fits_any (s : ByteArray) (f : Int) (k : Nat) (hk : k < s.size) (hs : s.size ≤ 9223372036854775806) (w : World) :
    Calls Tryd.prog 96 #[.agg #[.string s, .int .i64 f], .int .i64 k] w fun e w' => e = .returned (.bool (fitAt s f k)) ∧ Below w.heap.size w w' := by
  by_cases h0 : k = 0
  · subst h0
    have hq : (((0 : Nat) : Int) == 0) = true := rfl
    have HF := Lib.hid (fitAt_zero (f := f) hk)
    have hi : (0 : Int) < (s.size : Int) := by omega
    go_enter Tryd.func96, Tryd.ntmps96
    go_wp2_with fail
    go_quiet ((go_at_call 53; exact Calls.quiet_of_same ((class_any _ _).mono fun e w' h => ⟨h.1, h.2.symm⟩)))
    go_wp2
    go_ret
    exact ⟨ret_bool HF.out.symm, below_drewN ((Below.refl _ _).alloc (Nat.le_refl _) _) _⟩
  · have hq : ((k : Int) == 0) = false := by rw [beq_eq_false_iff_ne]; omega
    have HF := Lib.hid (fitAt_next (f := f) hk h0)
    clear h0
    go_enter Tryd.func96, Tryd.ntmps96
    go_wp2_with (go_at_call 84; refine (part_any _ _).mono ?_; rintro e w' ⟨rfl, rfl⟩)
    go_ret
    exact ⟨ret_bool HF.out.symm, (Below.refl _ _).alloc (Nat.le_refl _) _⟩
set_option maxHeartbeats 400000 in
theorem every_any (s : ByteArray) (f : Int) (hs : s.size ≤ 9223372036854775806) (w : World) :
    Calls Tryd.prog 95 #[.int .i64 s.size, .func (Fn.func 96) #[.agg #[.string s, .int .i64 f]] #[]] w fun e w' => e = .returned (.bool (fitsAll s f)) ∧ Below w.heap.size w w' := by
  go_enter Tryd.func95, Tryd.ntmps95
  go_wp2
  go_loopw [7] (fun i wr => ∃ k : Nat, k ≤ s.size ∧ i = .int .i64 k ∧ FitsTo s f k ∧ Below w.heap.size w wr) (fun i _ => s.size - (intOf i).toNat)
  case atStart => exact ⟨0, Nat.zero_le _, rfl, (fun j hj => by omega), Below.refl _ _⟩
  case round =>
    obtain ⟨k, hk, rfl, ha, hb⟩ := hrel
    have HA := Lib.hid ha
    clear ha
    by_cases hlt : k < s.size
    · cases hp : fitAt s f k with
      | true =>
        have HP := Lib.hid hp
        clear hp
        go_wp2_with (go_at_call 96; refine (fits_any s f k hlt hs _).mono ?_; rintro e w' ⟨rfl, hb2⟩; rw [HP.out])
        go_roundw
        case rel => exact ⟨k + 1, by omega, by go_num, HA.out.succ HP.out, hb.trans (hb2.mono hb.size)⟩
        case measure => simp [intOf]; omega
      | false =>
        have HP := Lib.hid hp
        clear hp
        go_wp2_with (go_at_call 96; refine (fits_any s f k hlt hs _).mono ?_; rintro e w' ⟨rfl, hb2⟩; rw [HP.out])
        go_ret
        exact ⟨ret_bool (fitsAll_bad hlt HP.out).symm, hb.trans (hb2.mono hb.size)⟩
    · obtain rfl : k = s.size := by omega
      go_wp2
      go_ret
      exact ⟨ret_bool HA.out.all.symm, hb⟩
set_option maxHeartbeats 400000 in
theorem spelt_any (s : ByteArray) (f : Int) (hs : s.size ≤ 9223372036854775806) (w : World) :
    Calls Tryd.prog 91 #[.string s, .int .i64 f] w fun e w' => e = .returned (.bool (speltB s f)) ∧ Below w.heap.size w w' := by
  by_cases h0 : 1 ≤ s.size
  · have h3 := toList_some h0
    have h4 : (s.toList == []) = false := by rw [beq_eq_false_iff_ne]; intro e; rw [e] at h3; cases h3
    by_cases h1 : s.size ≤ 20
    · have HF := Lib.hid (show speltB s f = fitsAll s f from by unfold speltB; rw [decide_eq_true ⟨h0, h1⟩]; rfl)
      have C := Lib.hid (fun w => every_any s f hs w)
      go_enter Tryd.func91, Tryd.ntmps91
      go_wp2_with (go_at_call 95; refine (C.out _).mono ?_; rintro e w' ⟨rfl, hb⟩)
      go_ret
      exact ⟨ret_bool HF.out.symm, hb⟩
    · have HF := Lib.hid (show speltB s f = false from by unfold speltB; rw [decide_eq_false (by omega)]; rfl)
      go_enter Tryd.func91, Tryd.ntmps91
      go_wp2_with fail
      go_ret
      exact ⟨ret_bool HF.out.symm, Below.refl _ _⟩
  · have HF := Lib.hid (show speltB s f = false from by unfold speltB; rw [decide_eq_false (by omega)]; rfl)
    have h3 := toList_empty (s := s) (by omega)
    have h4 : (s.toList == []) = true := by rw [h3]; rfl
    have h5 : s.toList.isEmpty = true := by rw [h3]; rfl
    have H3 := Lib.hid h3
    clear h3 h0
    go_enter Tryd.func91, Tryd.ntmps91
    go_wp2_with fail
    go_ret
    exact ⟨ret_bool HF.out.symm, Below.refl _ _⟩
set_option maxHeartbeats 400000 in
theorem word_any (s : ByteArray) (hs : s.size ≤ 9223372036854775806) (w : World) :
    Calls Tryd.prog 82 #[.string s] w fun e w' => e = .returned (.bool (wordB s)) ∧ Below w.heap.size w w' := by
  have HW := Lib.hid (show wordB s = (speltB s 1 && !Lib.containsS keyList s) from rfl)
  have C := Lib.hid (fun w => spelt_any s 1 hs w)
  have K := Lib.hid (fun w => key_any s w)
  cases hp : speltB s 1 with
  | true =>
    have HP := Lib.hid hp
    clear hp
    go_enter Tryd.func82, Tryd.ntmps82
    go_wp2_with (first | (go_at_call 91; refine (C.out _).mono ?_; rintro e w1 ⟨rfl, hb⟩; rw [HP.out]) | (go_at_call 55; refine (K.out _).mono ?_; rintro e w2 ⟨rfl, hb2⟩))
    go_ret
    exact ⟨ret_bool (by rw [HW.out, HP.out]; rfl), hb.trans (hb2.mono hb.size)⟩
  | false =>
    have HP := Lib.hid hp
    clear hp
    go_enter Tryd.func82, Tryd.ntmps82
    go_wp2_with (go_at_call 91; refine (C.out _).mono ?_; rintro e w1 ⟨rfl, hb⟩; rw [HP.out])
    go_ret
    exact ⟨ret_bool (by rw [HW.out, HP.out]; rfl), hb⟩
end Go.Proofs.YtldgbdmiebipnaaDoor

namespace Go.Proofs.YtldgbdmiebipnaaDoor
open Go.RowKit

section
variable {g b o c : Nat} {L : List Tok} {i op : Nat}
/-- A sign was passed over, or nothing was. -/
def PassPost (g b o c : Nat) (L : List Tok) (i op : Nat) (s : ByteArray) (w : World) (e : Ending) (w' : World) : Prop :=
  (isS (tkD L i) s = true ∧ e = .returned (.tuple #[]) ∧ Rdr w' g b o c L (i + 1) op ∧ w.grownBy w' (some g)) ∨ (isS (tkD L i) s = false ∧ e = diesAt L i ∧ w.grownBy w' (some g))
set_option maxRecDepth 100000 in
set_option maxHeartbeats 1000000 in
theorem pass_any (s : ByteArray) (W : World) (h : Rdr W g b o c L i op) (hE : Ended L) (hs : ((tkD L i).text.toList == s.toList) = isS (tkD L i) s) :
    Calls Tryd.prog 57 #[.pointer (some ⟨g, 0, none⟩), .string s] W (PassPost g b o c L i op s W) := by
  have N := Lib.hid (next_any s W h)
  have F := Lib.hid (fail_any W h)
  have HW := Lib.hid h
  unfold diesAt at F
  have hEi := hE i
  rw [hs] at N
  cases hq : isS (tkD L i) s with
  | false =>
    rw [hq] at N
    have HQ := Lib.hid hq
    clear hs hq h hE hEi
    go_enter Tryd.func57, Tryd.ntmps57
    go_wp2_with fail
    refine N.out.mono ?_; rintro e w1 ⟨rfl, rfl⟩
    go_wp2_with fail
    refine F.out.mono ?_; rintro e w1 ⟨rfl, rfl⟩
    go_wp2_with fail
    exact ⟨rfl, .inr ⟨HQ.out, rfl, only_refl _ _⟩⟩
  | true =>
    have hi1 : i + 1 < L.length := hEi (by rw [sgn_kind hq]; decide)
    rw [hq] at N
    have h0 := h.c0
    have hf := h.f0
    have hi := h.here
    have hcap := h.cap
    obtain ⟨n, hn⟩ : ∃ n, L.length - i = n + 1 + 1 := ⟨L.length - i - 2, by omega⟩
    obtain ⟨k, hk⟩ : ∃ k, c - i = k + 1 + 1 := ⟨c - i - 2, by omega⟩
    obtain ⟨a, ha⟩ : ∃ a, o + i * 4 = a := ⟨_, rfl⟩
    have hn1 : (1 : Int) < ((n + 1 + 1 : Nat) : Int) := by omega
    have hnk : n ≤ k := by omega
    rw [hn, hk, ha] at h0
    have HR := Lib.hid (HW.out.left (j := i + 1) (v := .slice (some ⟨b, a + 4, none⟩) (n + 1) (k + 1)) hi1 (by
      rw [show o + (i + 1) * 4 = a + 4 from by omega, show L.length - (i + 1) = n + 1 from by omega, show c - (i + 1) = k + 1 from by omega]))
    have HQ := Lib.hid hq
    clear hs hq h hE hEi hn hk ha
    go_enter Tryd.func57, Tryd.ntmps57
    go_wp2_with fail
    refine N.out.mono ?_; rintro e w1 ⟨rfl, rfl⟩
    go_wp2_with fail
    go_end0
    exact .inl ⟨HQ.out, rfl, HR.out, only_set (only_refl _ _) _ _⟩

/-- The next token as a tree of that kind, passed over, or a fault. -/
def TakePost (g b o c : Nat) (L : List Tok) (i op : Nat) (ok : Bool) (kd : Int) (w : World) (e : Ending) (w' : World) : Prop :=
  (ok = true ∧ e = .returned (.agg #[.int .i64 kd, .string (tkD L i).text, .int .i64 (tkD L i).n, .int .i64 (tkD L i).place, .slice none 0 0]) ∧ Rdr w' g b o c L (i + 1) op ∧ w.grownBy w' (some g)) ∨ (ok = false ∧ e = diesAt L i ∧ w.grownBy w' (some g))

set_option maxRecDepth 100000 in
set_option maxHeartbeats 1000000 in
theorem number_at (W : World) (h : Rdr W g b o c L i op) (hE : Ended L) (hlen : L.length ≤ 100000) :
    Calls Tryd.prog 58 #[.pointer (some ⟨g, 0, none⟩)] W (TakePost g b o c L i op ((tkD L i).kind == 3) 0 W) := by
  have hZ : Below W.heap.size W (W.alloc (.cells #[.int .i64 0, .string ⟨#[]⟩, .int .i64 0, .int .i64 0, .slice none 0 0] 36)) := (Below.refl _ _).alloc (Nat.le_refl _) _
  have h' := h.below hZ
  have F := Lib.hid (fail_any _ h')
  have T := Lib.hid (fun h1 => take_any 0 _ h' h1 hlen)
  have hO := only_below hZ (some g)
  have HO := Lib.hid hO
  have HT := Lib.hid (show ∀ ok e w', TakePost g b o c L i op ok 0 W e w' ↔ ((ok = true ∧ e = .returned (.agg #[.int .i64 0, .string (tkD L i).text, .int .i64 (tkD L i).n, .int .i64 (tkD L i).place, .slice none 0 0]) ∧ Rdr w' g b o c L (i + 1) op ∧ W.grownBy w' (some g)) ∨ (ok = false ∧ e = diesAt L i ∧ W.grownBy w' (some g))) from fun _ _ _ => Iff.rfl)
  have hEi := hE i
  have h0 := h.c0
  have hi := h.here
  have hg := h.glt
  have hlt := h.lt
  have hbw : b < W.heap.size := by omega
  have hbw1 : b < W.heap.size + 1 := by omega
  have hg1 : g < W.heap.size + 1 := by omega
  have hgne : W.heap.size ≠ g := by omega
  have BX := Lib.hid (box5_new W (.int .i64 0) (.string ⟨#[]⟩) (.int .i64 0) (.int .i64 0) (.slice none 0 0) 36)
  obtain ⟨t0, t1, t2, t3⟩ := h.toks i hi
  obtain ⟨t, ht⟩ : ∃ t, tkD L i = t := ⟨_, rfl⟩
  have hti : L[i] = t := by rw [← ht, tkD_at hi]
  rw [ht] at hEi T HT
  rw [hti] at t0 t1 t2 t3
  rw [ht]
  unfold diesAt fltV at F
  rw [ht] at F
  have HD := Lib.hid (show diesAt L i = .panicked [{ v := .iface 26 (.agg #[.int .i64 2, .int .i64 t.place]), recovered := false }] by unfold diesAt fltV; rw [ht])
  clear ht hti
  obtain ⟨tk, tx, tn, tp⟩ := t
  simp only at t0 t1 t2 t3 hEi T HT F HD
  obtain ⟨n, hn⟩ : ∃ n, L.length - i = n := ⟨_, rfl⟩
  obtain ⟨k, hk⟩ : ∃ k, c - i = k := ⟨_, rfl⟩
  obtain ⟨a, ha⟩ : ∃ a, o + i * 4 = a := ⟨_, rfl⟩
  have hn0 : (0 : Int) < (n : Int) := by omega
  rw [hn, hk, ha] at h0
  rw [ha] at t0 t1 t2 t3
  clear hn hk ha hO h' hZ h hE
  obtain ⟨w0, hw0⟩ : ∃ w0, W.alloc (.cells #[.int .i64 0, .string ⟨#[]⟩, .int .i64 0, .int .i64 0, .slice none 0 0] 36) = w0 := ⟨_, rfl⟩
  rw [hw0] at F T HO BX
  replace hw0 := Lib.hid hw0
  show Calls _ _ _ _ (TakePost g b o c L i op (tk == 3) 0 W)
  cases hq : (tk == 3) with
  | false =>
    have hq' : (tk != 3) = true := by rw [bne, hq]; rfl
    clear hq
    go_enter Tryd.func58, Tryd.ntmps58
    go_wp2_with fail
    rw [hw0.out]
    refine F.out.mono ?_; rintro e w1 ⟨rfl, rfl⟩
    go_wp2_with fail
    exact ⟨rfl, (HT.out _ _ _).2 (.inr ⟨rfl, HD.out.symm, HO.out⟩)⟩
  | true =>
    have hq' : (tk != 3) = false := by rw [bne, hq]; rfl
    have hi1 : i + 1 < L.length := hEi (by rw [show tk = 3 by simpa using hq]; decide)
    have T' := Lib.hid (T.out hi1)
    clear hq hEi
    go_enter Tryd.func58, Tryd.ntmps58
    go_wp2_with fail
    rw [hw0.out]
    refine T'.out.mono ?_; rintro e w1 ⟨rfl, hr1, ho1⟩
    have HB := Lib.hid (BX.out.only ho1 hgne)
    have HR1 := Lib.hid (hr1.sets5 (x := W.heap.size) hg (.int .i64 0) (.string tx) (.int .i64 tn) (.int .i64 tp) (.slice none 0 0))
    have HO1 := Lib.hid (only_sets5 (only_trans HO.out ho1) (Nat.le_refl _) (.int .i64 0) (.string tx) (.int .i64 tn) (.int .i64 tp) (.slice none 0 0))
    have HB2 := Lib.hid (HB.out.sets (.int .i64 0) (.string tx) (.int .i64 tn) (.int .i64 tp) (.slice none 0 0))
    obtain ⟨r0, r1, r2, r3, r4, rf0, rf1, rf2, rf3, rf4⟩ := HB.out
    clear hr1 ho1 t0 t1 t2 t3 h0
    go_wp2_with fail
    obtain ⟨r0, r1, r2, r3, r4, _, _, _, _, _⟩ := HB2.out
    refine bodyPost_ret (v := .agg #[.int .i64 0, .string tx, .int .i64 tn, .int .i64 tp, .slice none 0 0]) (by simp [results, Tryd.results58, go_sem, r0, r1, r2, r3, r4]) rfl ?_
    exact (HT.out _ _ _).2 (.inl ⟨rfl, rfl, HR1.out, HO1.out⟩)

set_option maxRecDepth 100000 in
set_option maxHeartbeats 1000000 in
theorem word_at (W : World) (h : Rdr W g b o c L i op) (hE : Ended L) (hlen : L.length ≤ 100000) :
    Calls Tryd.prog 56 #[.pointer (some ⟨g, 0, none⟩)] W (TakePost g b o c L i op (wordK (tkD L i)) 5 W) := by
  have F := Lib.hid (fun (V : World) (hv : Rdr V g b o c L i op) => fail_any V hv)
  have T := Lib.hid (fun (V : World) (hv : Rdr V g b o c L i op) h1 => take_any 5 V hv h1 hlen)
  have HT := Lib.hid (show ∀ ok e w', TakePost g b o c L i op ok 5 W e w' ↔ ((ok = true ∧ e = .returned (.agg #[.int .i64 5, .string (tkD L i).text, .int .i64 (tkD L i).n, .int .i64 (tkD L i).place, .slice none 0 0]) ∧ Rdr w' g b o c L (i + 1) op ∧ W.grownBy w' (some g)) ∨ (ok = false ∧ e = diesAt L i ∧ W.grownBy w' (some g))) from fun _ _ _ => Iff.rfl)
  have hEi := hE i
  have h0 := h.c0
  have hi := h.here
  have hg := h.glt
  have hlt := h.lt
  have hbw : b < W.heap.size := by omega
  have hbw1 : b < W.heap.size + 1 := by omega
  have hg1 : g < W.heap.size + 1 := by omega
  have hgne : W.heap.size ≠ g := by omega
  obtain ⟨t0, t1, t2, t3⟩ := h.toks i hi
  obtain ⟨t, ht⟩ : ∃ t, tkD L i = t := ⟨_, rfl⟩
  have hti : L[i] = t := by rw [← ht, tkD_at hi]
  rw [ht] at hEi T HT
  rw [hti] at t0 t1 t2 t3
  rw [ht]
  unfold diesAt fltV at F
  rw [ht] at F
  have HD := Lib.hid (show diesAt L i = .panicked [{ v := .iface 26 (.agg #[.int .i64 2, .int .i64 t.place]), recovered := false }] by unfold diesAt fltV; rw [ht])
  clear ht hti
  obtain ⟨tk, tx, tn, tp⟩ := t
  simp only at t0 t1 t2 t3 hEi T HT F HD
  have K := Lib.hid (fun (V : World) => key_any tx V)
  have HI := Lib.hid (show wordK ⟨tk, tx, tn, tp⟩ = ((tk == 1) && !Lib.containsS keyList tx) from rfl)
  obtain ⟨kb, hkb⟩ : ∃ kb, Lib.containsS keyList tx = kb := ⟨_, rfl⟩
  rw [hkb] at K HI
  obtain ⟨n, hn⟩ : ∃ n, L.length - i = n := ⟨_, rfl⟩
  obtain ⟨k, hk⟩ : ∃ k, c - i = k := ⟨_, rfl⟩
  obtain ⟨a, ha⟩ : ∃ a, o + i * 4 = a := ⟨_, rfl⟩
  have hn0 : (0 : Int) < (n : Int) := by omega
  rw [hn, hk, ha] at h0
  rw [ha] at t0 t1 t2 t3
  clear hn hk ha hE hkb
  have hB0 : Below W.heap.size W ((W.alloc (.cells #[.int .i64 0, .string ⟨#[]⟩, .int .i64 0, .int .i64 0, .slice none 0 0] 36)).alloc (.cells #[.int .i64 tk, .string tx, .int .i64 tn, .int .i64 tp] 61)) := ((Below.refl _ _).alloc (Nat.le_refl _) _).alloc (by simp) _
  have BX := (box5_new W (.int .i64 0) (.string ⟨#[]⟩) (.int .i64 0) (.int .i64 0) (.slice none 0 0) 36).below ((Below.refl _ _).alloc (Nat.le_refl _) (.cells #[.int .i64 tk, .string tx, .int .i64 tn, .int .i64 tp] 61)) (by simp)
  have hz : ((W.alloc (.cells #[.int .i64 0, .string ⟨#[]⟩, .int .i64 0, .int .i64 0, .slice none 0 0] 36)).alloc (.cells #[.int .i64 tk, .string tx, .int .i64 tn, .int .i64 tp] 61)).heap.size = W.heap.size + 2 := by simp
  have hr0 := h.below hB0
  obtain ⟨w0, hw0⟩ : ∃ w0, (W.alloc (.cells #[.int .i64 0, .string ⟨#[]⟩, .int .i64 0, .int .i64 0, .slice none 0 0] 36)).alloc (.cells #[.int .i64 tk, .string tx, .int .i64 tn, .int .i64 tp] 61) = w0 := ⟨_, rfl⟩
  rw [hw0] at hB0 BX hz hr0
  replace hw0 := Lib.hid hw0
  have HR0 := Lib.hid hr0
  have HB0 := Lib.hid hB0
  have HBX := Lib.hid BX
  clear hr0 hB0 BX h
  show Calls _ _ _ _ (TakePost g b o c L i op (wordK ⟨tk, tx, tn, tp⟩) 5 W)
  cases hq : (tk == 1) with
  | false =>
    have hq' : (tk != 1) = true := by rw [bne, hq]; rfl
    have HN := Lib.hid (show wordK ⟨tk, tx, tn, tp⟩ = false by rw [HI.out, hq]; rfl)
    clear hq
    go_enter Tryd.func56, Tryd.ntmps56
    go_wp2_with fail
    rw [hw0.out]
    refine (F.out _ HR0.out).mono ?_; rintro e w1 ⟨rfl, rfl⟩
    go_wp2_with fail
    exact ⟨rfl, (HT.out _ _ _).2 (.inr ⟨HN.out, HD.out.symm, only_below HB0.out _⟩)⟩
  | true =>
    have hq' : (tk != 1) = false := by rw [bne, hq]; rfl
    have hi1 : i + 1 < L.length := hEi (by rw [show tk = 1 by simpa using hq]; decide)
    have T' := Lib.hid (fun (V : World) (hv : Rdr V g b o c L i op) => T.out V hv hi1)
    cases kb with
    | true =>
      have HN := Lib.hid (show wordK ⟨tk, tx, tn, tp⟩ = false by rw [HI.out, hq]; rfl)
      clear hq hEi
      go_enter Tryd.func56, Tryd.ntmps56
      go_wp2_with fail
      rw [hw0.out]
      refine (K.out _).mono ?_; rintro e w1 ⟨rfl, hb1⟩
      have HB1 := Lib.hid (below_next HB0.out hb1)
      have HR1 := Lib.hid (HR0.out.below hb1)
      clear hb1
      go_wp2_with fail
      refine (F.out _ HR1.out).mono ?_; rintro e w2 ⟨rfl, rfl⟩
      go_wp2_with fail
      exact ⟨rfl, (HT.out _ _ _).2 (.inr ⟨HN.out, HD.out.symm, only_below HB1.out _⟩)⟩
    | false =>
      have HN := Lib.hid (show wordK ⟨tk, tx, tn, tp⟩ = true by rw [HI.out, hq]; rfl)
      clear hq hEi
      go_enter Tryd.func56, Tryd.ntmps56
      go_wp2_with fail
      rw [hw0.out]
      refine (K.out _).mono ?_; rintro e w1 ⟨rfl, hb1⟩
      have HB1 := Lib.hid (below_next HB0.out hb1)
      have HR1 := Lib.hid (HR0.out.below hb1)
      have HX1 := Lib.hid (HBX.out.below hb1 (by omega))
      clear hb1
      go_wp2_with fail
      refine (T'.out _ HR1.out).mono ?_; rintro e w2 ⟨rfl, hr2, ho2⟩
      have HX2 := Lib.hid (HX1.out.only ho2 hgne)
      have HR2 := Lib.hid (hr2.sets5 (x := W.heap.size) hg (.int .i64 5) (.string tx) (.int .i64 tn) (.int .i64 tp) (.slice none 0 0))
      have HO2 := Lib.hid (only_sets5 (only_trans (only_below HB1.out _) ho2) (Nat.le_refl _) (.int .i64 5) (.string tx) (.int .i64 tn) (.int .i64 tp) (.slice none 0 0))
      have HX3 := Lib.hid (HX2.out.sets (.int .i64 5) (.string tx) (.int .i64 tn) (.int .i64 tp) (.slice none 0 0))
      obtain ⟨r0, r1, r2, r3, r4, rf0, rf1, rf2, rf3, rf4⟩ := HX2.out
      clear hr2 ho2 t0 t1 t2 t3 h0
      go_wp2_with fail
      obtain ⟨r0, r1, r2, r3, r4, _, _, _, _, _⟩ := HX3.out
      refine bodyPost_ret (v := .agg #[.int .i64 5, .string tx, .int .i64 tn, .int .i64 tp, .slice none 0 0]) (by simp [results, Tryd.results56, go_sem, r0, r1, r2, r3, r4]) rfl ?_
      exact (HT.out _ _ _).2 (.inl ⟨HN.out, rfl, HR2.out, HO2.out⟩)
end
end Go.Proofs.YtldgbdmiebipnaaDoor

namespace Go.Proofs.YtldgbdmiebipnaaDoor
open Go.RowKit

theorem run_append_nil0 {P : Program} {w : World} (base : Nat) (t ty e : TypeId) (i : TypeInfo) (size : Nat) (ht : P.underlying t = some (.slice e)) (hi : P.info? e = some i)
    (v : Value) (n : Nat) (xs : List Value) (hown : w.ownsRow base e size v n xs) (c : Nat) :
    (Builtin.append_ #[t, t] ty #[v, .slice none 0 c]).run P w = .ok v w := by
  rcases hown.2 with ⟨rfl, rfl⟩ | ⟨g, cap, cur, rfl, _, _, hnc, _⟩
  · simp [Builtin.append_, run_underlying ht, sizeOf, typeInfo, hi, Builtin.lenOf, Builtin.firstCells]
  · simp [Builtin.append_, run_underlying ht, sizeOf, typeInfo, hi, Builtin.lenOf, Builtin.firstCells, hnc, storeCells]
theorem wpList_append_opt {P : Program} {w : World} {ops : Array Oper} {rest : List Oper} {o : Oper} {a : Act} {Q : Exit → Act → World → Prop} (hgd : o.guard = none) (s x : Operand) (t : TypeId)
    (ho : o.op = .call { callee := .builtin .append, args := #[s, x], argTypes := #[t, t] })
    (base : Nat) (e : TypeId) (i : TypeInfo) (z : Value) (size bytes : Nat) (ht : P.underlying t = some (.slice e)) (hi : P.info? e = some i) (hz : i.zero = some z)
    (hsize : i.size = size) (hby : i.bytes = bytes) (hzs : z.cells.size = size) (hsz : 0 < size)
    (v : Value) (n : Nat) (xs : List Value) (hs : a.eval s = v) (hown : w.ownsRow base e size v n xs)
    (oa : Option Addr) (m c : Nat) (news : List Value) (hx : a.eval x = .slice oa m c) (h0 : oa = none → m = 0) (hl : news.length = m * size) (hnews : ∀ ad, oa = some ad → ∀ j u, news[j]? = some u → w.cell? (ad.add j) = some u) (h1 : ∀ u ∈ news, u.oneCell' = true)
    (h63 : n + m ≤ maxLen) (hbytes : (n + m) * bytes ≤ 140737488355328) (hbase : base ≤ w.heap.size)
    (h : ∀ v' w', w'.ownsRow base e size v' (n + m) (xs ++ news) → w.grownBy w' v.ownBlock → (v'.ownBlock = v.ownBlock ∨ v'.ownBlock = some w.heap.size) → wpList P ops Q rest (a.put o.dst v') w') :
    wpList P ops Q (o :: rest) a w := by
  cases oa with
  | some ad => exact wpList_append_own_at w hgd s x t ho base e i z size bytes ht hi hz hsize hby hzs hsz v n xs hs hown ad m c news hx hl (hnews ad rfl) h1 h63 hbytes hbase (fun v' w' h2 h3 _ h5 => h v' w' h2 h3 h5)
  | none =>
    obtain rfl := h0 rfl
    obtain rfl : news = [] := List.eq_nil_of_length_eq_zero (by rw [hl, Nat.zero_mul])
    refine wpList_plain hgd fun K hK => ?_
    have hrun := run_append_nil0 (P := P) (w := w) base t o.type e i size ht hi v n xs hown c
    unfold Oper.wp
    simp [execOp, ho, resolve, invoke, builtin, hs, hx, hrun, Result.andThen]
    exact hK _ _ (h v w (by simpa using hown) ⟨rfl, rfl, rfl, Nat.le_refl _, fun _ _ _ => rfl⟩ (.inl rfl))
/-- Likewise as a step of a drawn region. -/
theorem step_append_at {P : Program} {w : World} {ops : Array Oper} {o : Oper} {a : Act} {K : Act → World → Prop} {Q : Exit → Act → World → Prop} {E : Prop} (hgd : o.guard = none) (s x : Operand) (t : TypeId)
    (ho : o.op = .call { callee := .builtin .append, args := #[s, x], argTypes := #[t, t] })
    (base : Nat) (e : TypeId) (i : TypeInfo) (z : Value) (size bytes : Nat) (ht : P.underlying t = some (.slice e)) (hi : P.info? e = some i) (hz : i.zero = some z)
    (hsize : i.size = size) (hby : i.bytes = bytes) (hzs : z.cells.size = size) (hsz : 0 < size)
    (v : Value) (n : Nat) (xs : List Value) (hs : a.eval s = v) (hown : w.ownsRow base e size v n xs)
    (ad : Addr) (m c : Nat) (news : List Value) (hx : a.eval x = .slice (some ad) m c) (hl : news.length = m * size) (hnews : ∀ j u, news[j]? = some u → w.cell? (ad.add j) = some u) (h1 : ∀ u ∈ news, u.oneCell' = true)
    (h63 : n + m ≤ maxLen) (hbytes : (n + m) * bytes ≤ 140737488355328) (hbase : base ≤ w.heap.size) (H : Nat) (hH : w.heap.size = H)
    (h : ∀ v' w', w'.ownsRow base e size v' (n + m) (xs ++ news) → w.grownBy w' v.ownBlock → (v'.ownBlock = v.ownBlock ∨ v'.ownBlock = some H) → K (a.put o.dst v') w') :
    if Region.wanted o (yielded ops a.tmps) = true then Oper.wp P o a w K Q else E := by
  have hw : Region.wanted o (yielded ops a.tmps) = true := by simp [Region.wanted, hgd]
  rw [if_pos hw]
  obtain ⟨v', w', hr, h2, h3, _, h5⟩ := run_append_own_at (P := P) w base t o.type e i z size bytes ht hi hz hsize hby hzs hsz v n xs hown ad m c news hl hnews h1 h63 hbytes hbase
  unfold Oper.wp execOp
  simp only [ho, resolve, invoke, builtin, Sem.run_bind, Sem.run_pure, Result.andThen_ok, List.map_toArray, List.map_cons, List.map_nil, hs, hx, hr]
  subst hH
  exact h v' w' h2 h3 h5
/-- A new row of no element. -/
theorem own_empty (w : World) (base : Nat) (e : TypeId) (size : Nat) (hb : base ≤ w.heap.size) : (w.alloc (.cells #[] e)).ownsRow base e size (.slice (some ⟨w.heap.size, 0, none⟩) 0 0) 0 [] :=
  ⟨by simp, .inr ⟨w.heap.size, 0, #[], rfl, hb, heap_alloc_new w _, Nat.le_refl _, by unfold maxLen; omega, by simp, by simp⟩⟩
end Go.Proofs.YtldgbdmiebipnaaDoor

namespace Go.Proofs.YtldgbdmiebipnaaDoor
open Go.RowKit

theorem treeInfo : (Tryd.prog.info? 41).map (fun i => (i.zero, i.size, i.bytes)) = some (some (.agg #[.int .i64 0, .string ⟨#[]⟩, .int .i64 0, .int .i64 0, .slice none 0 0]), 5, 64) := by kernel_rfl
/-- One tree more, in a row of the call's own. -/
theorem RowR.snoc {W W' : World} {e : TypeId} {base : Nat} {v v' : Value} {ts : List Tr} {vs : List Rv} {y : Rv} (h1 : vs.map Rv.t = ts) (h2 : ∀ x ∈ vs, LiveR W v.ownBlock base x) (hy : LiveR W v.ownBlock base y)
    (hown : W'.ownsRow base e 5 v' (ts.length + 1) (rowRv vs ++ y.cells)) (hg : W.grownBy W' v.ownBlock) (hat : v'.ownBlock = v.ownBlock ∨ v'.ownBlock = some W.heap.size) : RowR W' e base v' (ts ++ [y.t]) := by
  refine ⟨vs ++ [y], by rw [List.map_append, h1]; rfl, fun x hx => ?_, ?_⟩
  · rcases List.mem_append.1 hx with hx | hx
    · exact (h2 x hx).grown hg hat
    · rw [List.mem_singleton] at hx; rw [hx]; exact hy.grown hg hat
  · rw [List.length_append, rowRv_append, rowRv_one]; exact hown

set_option maxRecDepth 100000 in
set_option maxHeartbeats 4000000 in
theorem rterms_one (v : Value) (L : List Tok) (hE : Ended L) (hlen : L.length ≤ 100000) (i : Nat) (sg : ByteArray) (op : Nat) (hi : i < L.length) (w : World) (hv : Toks w v L)
    (hT : ∀ (j : Nat) (W : World), i ≤ j → j < L.length → Toks W v L → Calls Tryd.prog 26 #[v, .int .i64 j, .int .i64 op] W (TermGPost L j op W)) :
    Calls Tryd.prog 42 #[v, .int .i64 i, .string sg, .int .i64 op] w (TermsGPost L i sg op w) := by
  obtain ⟨i0, hti, hz0, hz1, hz2⟩ := info_parts treeInfo
  have HVB := Lib.hid (fun (W : World) (h : Below w.heap.size w W) => hv.below h)
  have HT := Lib.hid (fun (j : Nat) (W : World) (h : Below w.heap.size w W) (h1 : i ≤ j) (h2 : j < L.length) => hT j W h1 h2 (HVB.out W h))
  unfold TermGPost at HT
  obtain ⟨a, c, rfl, hl, h⟩ := hv
  rcases h with h | ⟨b, off, rfl, hlt, hc⟩
  · subst h; cases hi
  have HC := Lib.hid (fun (j : Nat) (hj : j < L.length) (W : World) (h : Below w.heap.size w W) => (hc j hj).below h hlt)
  have IS := Lib.hid (fun (t : Tok) (W : World) => ris_any t sg W)
  have HI := Lib.hid hi
  have HOWN := Lib.hid (rowR_nil w 41 w.heap.size)
  have HB0 := Lib.hid (Below.refl w.heap.size w)
  clear hT hc hi
  go_enter Tryd.func42, Tryd.ntmps42
  go_wp2_with fail
  go_loopw [1, 11] (fun j o wr => ∃ (k : Nat) (ts : List Tr), j = .int .i64 k ∧ i ≤ k ∧ k < L.length ∧ ts.length ≤ k ∧
    Hid (termsP L i sg op = (ts ++ (termsP L k sg op).1, (termsP L k sg op).2)) ∧ RowR wr 41 w.heap.size o ts ∧ Below w.heap.size w wr) (fun j _ _ => L.length - (intOf j).toNat)
  case atStart => exact ⟨i, [], rfl, Nat.le_refl _, HI.out, Nat.zero_le _, Lib.hid (by simp), HOWN.out, HB0.out⟩
  case round =>
    obtain ⟨k, ts, rfl, hik, hkl, htk, HP, hrow, hb⟩ := hrel
    have T := Lib.hid (fun (W : World) (h : Below w.heap.size w W) => HT.out k W h hik hkl)
    have hn2 := termP_in hE op hkl
    have hle := termP_le L k op
    have HS := termsP_eq L k sg op
    obtain ⟨y0, hy0⟩ : ∃ y0, (termP L k op).1 = y0 := ⟨_, rfl⟩
    obtain ⟨n2, hn2e⟩ : ∃ n2, (termP L k op).2.1 = n2 := ⟨_, rfl⟩
    obtain ⟨b2, hb2e⟩ : ∃ b2, (termP L k op).2.2 = b2 := ⟨_, rfl⟩
    rw [hy0, hn2e, hb2e] at T HS
    rw [hn2e] at hn2
    rw [hn2e, hb2e] at hle
    replace HS := Lib.hid HS
    clear hy0 hn2e hb2e
    have HROW := Lib.hid hrow
    have HB := Lib.hid hb
    clear hrow hb
    go_wp2_with fail
    refine (T.out _ HB.out).mono ?_; rintro e w1 ⟨⟨⟨kd, s, nn, pp, xs⟩, ya, yc⟩, rfl, hyt, hm, hb1⟩
    cases hyt
    have HM := Lib.hid hm
    have HB1 := Lib.hid (below_next HB.out hb1)
    have HROW1 := Lib.hid (HROW.out.below hb1)
    have HBN := Lib.hid hb1
    unfold Rv.val
    simp only [Tr.kind, Tr.text, Tr.n, Tr.spot, Tr.args]
    clear hm hb1
    cases b2 with
    | false =>
      have HQ := Lib.hid (show termsP L i sg op = (ts, n2, false) by rw [HP.out, HS.out, if_pos rfl]; simp)
      have HBE := Lib.hid (HB1.out.alloc HB1.out.size (.cells #[.int .i64 kd, .string s, .int .i64 nn, .int .i64 pp, .slice ya xs.length yc] 41))
      have HRE := Lib.hid (HROW1.out.below ((Below.refl w1.heap.size w1).alloc (Nat.le_refl _) (.cells #[.int .i64 kd, .string s, .int .i64 nn, .int .i64 pp, .slice ya xs.length yc] 41)))
      go_wp2_with fail
      go_ret3
      unfold TermsGPost
      rw [HQ.out]
      exact ⟨_, rfl, HRE.out.made (Nat.le_refl _) (by omega), HBE.out, HRE.out, by show ts.length ≤ _; omega⟩
    | true =>
      obtain ⟨vs, hvt, hvl, hown⟩ := HROW1.out
      have hw0 : u11.ownBlock = none ∨ ∀ g, u11.ownBlock = some g → g < wr.heap.size := by
        obtain ⟨_, _, _, h⟩ := HROW.out
        exact .inr (own_row_lt h)
      have hW : Below w1.heap.size w1 ((w1.alloc (.cells #[.int .i64 kd, .string s, .int .i64 nn, .int .i64 pp, .slice ya xs.length yc] 41)).alloc (.cells #[.int .i64 kd, .string s, .int .i64 nn, .int .i64 pp, .slice ya xs.length yc] 41)) := ((Below.refl _ _).alloc (Nat.le_refl _) _).alloc (by simp) _
      have hy := (HM.out.live HBN.out.size (g := u11.ownBlock) (base := w.heap.size) HB.out.size (fun g e => .inl (by
        rcases hw0 with h | h
        · rw [h] at e; cases e
        · exact h g e))).below hW
      have HY := Lib.hid hy
      have HVL := Lib.hid (fun x hx => (hvl x hx).below hW)
      have HVT := Lib.hid hvt
      have HBW := Lib.hid (below_next HB1.out hW)
      have hsz := HB1.out.size
      clear hy hvl hvt hW hw0
      go_wp2_with (at_builtin; refine wpList_append_own_at _ rfl _ _ 39 rfl w.heap.size 41 i0 (.agg #[.int .i64 0, .string ⟨#[]⟩, .int .i64 0, .int .i64 0, .slice none 0 0]) 5 64 Tryd.underlying39 hti hz0 hz1 hz2 rfl (by decide) _ ts.length _ rfl ((hown.alloc _).alloc _) ⟨w1.heap.size + 1, 0, none⟩ 1 1 [.int .i64 kd, .string s, .int .i64 nn, .int .i64 pp, .slice ya xs.length yc] rfl rfl ?c1 ?c2 ?c3 ?c4 ?c5 ?_)
      case c2 => exact ⟨rfl, rfl, rfl, rfl, rfl⟩
      case c3 => unfold maxLen; omega
      case c4 => omega
      case c5 => omega
      intro v' w3 hown' hgrow _ hat
      have hrow3 := RowR.snoc (y := ⟨.mk kd s nn pp xs, ya, yc⟩) HVT.out HVL.out HY.out hown' hgrow (by simpa using hat)
      have hb3 := HBW.out.grown hgrow HBW.out.size (own_row_ge hown)
      have HROW3 := Lib.hid hrow3
      have HB3 := Lib.hid hb3
      clear hrow3 hb3 hown' hgrow hat hown
      obtain ⟨z, hz⟩ : ∃ z, tkD L n2 = z := ⟨_, rfl⟩
      have hzi : L[n2] = z := by rw [← hz, tkD_at hn2]
      have HZ := HC.out n2 hn2 w3 HB3.out
      have hEn := hE n2
      rw [hzi] at HZ
      rw [hz] at HS hEn
      have IZ := Lib.hid (fun (W : World) => IS.out z W)
      clear hz hzi
      obtain ⟨zk, zx, zn, zp⟩ := z
      unfold tokVal at IZ
      obtain ⟨e0, e1, e2, e3⟩ := HZ
      simp only at e0 e1 e2 e3 IZ
      have hn2c : (n2 : Int) < (L.length : Int) := by omega
      have hn20 : (0 : Int) ≤ (n2 : Int) := by omega
      have HEN := Lib.hid hEn
      clear hEn
      go_wp2_with fail
      refine (IZ.out _).mono ?_; rintro e w4 ⟨rfl, hb4⟩
      have HB4 := Lib.hid (below_next HB3.out hb4)
      have HROW4 := Lib.hid (HROW3.out.below hb4)
      clear hb4 e0 e1 e2 e3
      cases hs : isS ⟨zk, zx, zn, zp⟩ sg with
      | false =>
        have HQ := Lib.hid (show termsP L i sg op = (ts ++ [.mk kd s nn pp xs], n2, true) by rw [HP.out, HS.out, if_neg (by decide), if_pos hs])
        clear hs
        go_wp2_with fail
        go_ret3
        unfold TermsGPost
        rw [HQ.out]
        exact ⟨_, rfl, HROW4.out.made (Nat.le_refl _) (by rw [List.length_append]; simp; omega), HB4.out, HROW4.out, by show (ts ++ [_]).length ≤ _; rw [List.length_append]; simp; omega⟩
      | true =>
        have HQ := Lib.hid (show termsP L i sg op = ((ts ++ [.mk kd s nn pp xs]) ++ (termsP L (n2 + 1) sg op).1, (termsP L (n2 + 1) sg op).2) by rw [HP.out, HS.out, if_neg (by decide), if_neg (by rw [hs]; decide)]; simp)
        have hn3 : n2 + 1 < L.length := HEN.out (show zk ≠ 0 by rw [show zk = 6 from sgn_kind hs]; decide)
        have hkn : k < n2 := hle.2 trivial
        clear hs
        go_wp2_with fail
        go_roundw
        case rel => exact ⟨n2 + 1, ts ++ [.mk kd s nn pp xs], by go_num, by omega, hn3, by rw [List.length_append]; simp; omega, Lib.hid HQ.out, HROW4.out, HB4.out⟩
        case measure => simp [intOf]; omega
/-- Terms and lists of terms are read as they should be. -/
theorem rterm_both (v : Value) (L : List Tok) (hE : Ended L) (hO : ∀ i, TokOk (tkD L i)) (hlen : L.length ≤ 100000) : ∀ (n : Nat),
    (∀ (i op : Nat), L.length - i ≤ n → i < L.length → op ≤ 41 → ∀ w, Toks w v L → Calls Tryd.prog 26 #[v, .int .i64 i, .int .i64 op] w (TermGPost L i op w)) ∧
    ∀ (i : Nat) (sg : ByteArray) (op : Nat), L.length - i ≤ n → i < L.length → op ≤ 41 → ∀ w, Toks w v L → Calls Tryd.prog 42 #[v, .int .i64 i, .string sg, .int .i64 op] w (TermsGPost L i sg op w)
  | 0 => ⟨fun i op h hi => by omega, fun i sg op h hi => by omega⟩
  | n + 1 => by
    obtain ⟨_, h2⟩ := rterm_both v L hE hO hlen n
    have ht : ∀ (i op : Nat), L.length - i ≤ n + 1 → i < L.length → op ≤ 41 → ∀ w, Toks w v L → Calls Tryd.prog 26 #[v, .int .i64 i, .int .i64 op] w (TermGPost L i op w) := fun i op h hi hop w hv =>
      rterm_one v L hE hO hlen i op hi (by omega) w hv fun j W h40 hj hjl hW => by
        have := h2 j sComma (op + 1) (by omega) hjl (by omega) W hW
        rwa [show ((op + 1 : Nat) : Int) = (op : Int) + 1 from by omega] at this
    exact ⟨ht, fun i sg op h hi hop w hv => rterms_one v L hE hlen i sg op hi w hv fun j W hj hjl hW => ht j op (by omega) hjl hop W hW⟩
theorem rterm_any (v : Value) (L : List Tok) (hE : Ended L) (hO : ∀ i, TokOk (tkD L i)) (hlen : L.length ≤ 100000) (i op : Nat) (hi : i < L.length) (hop : op ≤ 41) (w : World) (hv : Toks w v L) :
    Calls Tryd.prog 26 #[v, .int .i64 i, .int .i64 op] w (TermGPost L i op w) := (rterm_both v L hE hO hlen _).1 i op (Nat.le_refl _) hi hop w hv
theorem rterms_any (v : Value) (L : List Tok) (hE : Ended L) (hO : ∀ i, TokOk (tkD L i)) (hlen : L.length ≤ 100000) (i : Nat) (sg : ByteArray) (op : Nat) (hi : i < L.length) (hop : op ≤ 41) (w : World) (hv : Toks w v L) :
    Calls Tryd.prog 42 #[v, .int .i64 i, .string sg, .int .i64 op] w (TermsGPost L i sg op w) := (rterm_both v L hE hO hlen _).2 i sg op (Nat.le_refl _) hi hop w hv
end Go.Proofs.YtldgbdmiebipnaaDoor
