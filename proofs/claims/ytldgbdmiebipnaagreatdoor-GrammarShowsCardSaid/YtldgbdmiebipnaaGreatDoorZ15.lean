/-
  The reader of the program's grammar in memory: what is left of the tokens, and how many brackets are open; what calls turn of it. No function of the program.
  The reader of the program's grammar: next, fail, take.
  What the byte functions of package chars answer: the class, or whether the byte may be part of a word, for every byte and in every world; nothing is changed.
  Whether a text is a word, and one of those that begin items, by package chars. Each call makes new memory alone.
  The reader of the program's grammar: pass, word, number.
  The reader of the program's grammar: terms, where term is as it should be.
  The reader of the program's grammar: args, where terms is as it should be.
-/
import Derived.Test.YtldgbdmiebipnaaGreatDoorZ03
import Derived.Test.YtldgbdmiebipnaaGreatDoorZ04
import Derived.Deep.RegionHeld3
import Derived.BigQuiet
import Derived.Test.YtldgbdmiebipnaaGreatDoorZ01
import Derived.WalkKit
import Derived.WalkSpells
import Derived.WalkLawsBesides
import Derived.Test.YtldgbdmiebipnaaGreatDoorShelf
import Derived.Deep.QuietTactic
import Derived.Test.YtldgbdmiebipnaaGreatDoorZ06
import Derived.Test.YtldgbdmiebipnaaGreatDoorZ05
import Derived.Deep.LoopGhost
import Derived.WalkMore
namespace Go.Proofs.YtldgbdmiebipnaaGreatDoor
open Go.RowKit

/-- The reader lies in block g: tokens from i on are left, op brackets are open; the tokens lie in block b. -/
structure Rdr (W : World) (g b o c : Nat) (L : List Tok) (i op : Nat) : Prop where
  box : W.heap[g]? = some (.cells #[.slice (some ⟨b, o + i * 4, none⟩) (L.length - i) (c - i), .int .i64 op] 78 (0, 0))
  cap : L.length ≤ c
  lt : b < g
  toks : ∀ (j : Nat) (h : j < L.length), TokAt W b (o + j * 4) L[j]
  here : i < L.length
theorem heap_lt {W : World} {g : Nat} {x : Obj} (h : W.heap[g]? = some x) : g < W.heap.size := by
  rcases Nat.lt_or_ge g W.heap.size with q | q
  · exact q
  · rw [Array.getElem?_eq_none q] at h; cases h
section
variable {W W' : World} {g b o c : Nat} {L : List Tok} {i op : Nat}
theorem Rdr.glt (h : Rdr W g b o c L i op) : g < W.heap.size := heap_lt h.box
theorem Rdr.c0 (h : Rdr W g b o c L i op) : W.cell? ⟨g, 0, none⟩ = some (.slice (some ⟨b, o + i * 4, none⟩) (L.length - i) (c - i)) := cell_of_row W g 0 _ _ (0, 0) h.box
theorem Rdr.c1 (h : Rdr W g b o c L i op) : W.cell? ⟨g, 1, none⟩ = some (.int .i64 op) := cell_of_row W g 1 _ _ (0, 0) h.box
theorem Rdr.f0 (h : Rdr W g b o c L i op) : W.frozen? ⟨g, 0, none⟩ = false := by simp [World.frozen?, h.box]
theorem Rdr.f1 (h : Rdr W g b o c L i op) : W.frozen? ⟨g, 1, none⟩ = false := by simp [World.frozen?, h.box]
theorem TokAt.stay {b o : Nat} {t : Tok} (h : TokAt W b o t) (hk : W'.heap[b]? = W.heap[b]?) : TokAt W' b o t := by
  obtain ⟨h0, h1, h2, h3⟩ := h
  exact ⟨(World.cell?_of_block (a := ⟨b, _, none⟩) hk).trans h0, (World.cell?_of_block (a := ⟨b, _, none⟩) hk).trans h1, (World.cell?_of_block (a := ⟨b, _, none⟩) hk).trans h2, (World.cell?_of_block (a := ⟨b, _, none⟩) hk).trans h3⟩
/-- Where all blocks stay. -/
theorem Rdr.keep (h : Rdr W g b o c L i op) (hk : ∀ k, k < W.heap.size → W'.heap[k]? = W.heap[k]?) : Rdr W' g b o c L i op :=
  ⟨(hk g h.glt).trans h.box, h.cap, h.lt, fun j hj => (h.toks j hj).stay (hk b (Nat.lt_trans h.lt h.glt)), h.here⟩
theorem Rdr.below (h : Rdr W g b o c L i op) (hb : Below W.heap.size W W') : Rdr W' g b o c L i op := h.keep fun k hk => hb.block k hk
/-- Behind a store of what is left. -/
theorem Rdr.left (h : Rdr W g b o c L i op) {j : Nat} (hj : j < L.length) {v : Value} (hv : v = .slice (some ⟨b, o + j * 4, none⟩) (L.length - j) (c - j)) : Rdr (W.setCell ⟨g, 0, none⟩ v) g b o c L j op := by
  subst hv
  refine ⟨?_, h.cap, h.lt, fun q hq => (h.toks q hq).stay (Below.heap_setCell _ _ _ _ (Nat.ne_of_lt h.lt)), hj⟩
  simp [World.setCell, Array.getElem?_modify, h.box]
/-- Behind a store of how many brackets are open. -/
theorem Rdr.opened (h : Rdr W g b o c L i op) {q : Nat} {v : Value} (hv : v = .int .i64 q) : Rdr (W.setCell ⟨g, 1, none⟩ v) g b o c L i q := by
  subst hv
  refine ⟨?_, h.cap, h.lt, fun q hq => (h.toks q hq).stay (Below.heap_setCell _ _ _ _ (Nat.ne_of_lt h.lt)), h.here⟩
  simp [World.setCell, Array.getElem?_modify, h.box]
end

/-! What a call turns: the reader's block alone. -/
theorem only_refl (W : World) (G : Option Nat) : W.grownBy W G := ⟨rfl, rfl, rfl, Nat.le_refl _, fun _ _ _ => rfl⟩
theorem only_trans {a b c : World} {G : Option Nat} (h : a.grownBy b G) (k : b.grownBy c G) : a.grownBy c G :=
  ⟨k.os.trans h.os, k.tape.trans h.tape, k.output.trans h.output, Nat.le_trans h.size k.size, fun i hi hn => (k.block i (Nat.lt_of_lt_of_le hi h.size) hn).trans (h.block i hi hn)⟩
theorem only_below {a b : World} (h : Below a.heap.size a b) (G : Option Nat) : a.grownBy b G := ⟨h.os, h.tape, h.output, h.size, fun k hk _ => h.block k hk⟩
theorem only_next {a b c : World} {G : Option Nat} (h : a.grownBy b G) (k : Below b.heap.size b c) : a.grownBy c G := only_trans h (only_below k G)
theorem only_alloc {a b : World} {G : Option Nat} (h : a.grownBy b G) (x : Obj) : a.grownBy (b.alloc x) G := only_next h ((Below.refl _ _).alloc (Nat.le_refl _) x)
theorem only_set {a b : World} {g : Nat} (h : a.grownBy b (some g)) (j : Nat) (v : Value) : a.grownBy (b.setCell ⟨g, j, none⟩ v) (some g) :=
  ⟨h.os, h.tape, h.output, by simpa using h.size, fun k hk hn => (Below.heap_setCell _ _ _ _ (fun e => hn (by rw [e]))).trans (h.block k hk hn)⟩
/-- A store into memory that was not there. -/
theorem only_put {a b : World} {G : Option Nat} (h : a.grownBy b G) {p : Addr} (hp : a.heap.size ≤ p.block) (v : Value) : a.grownBy (b.setCell p v) G :=
  ⟨h.os, h.tape, h.output, by simpa using h.size, fun k hk hn => (Below.heap_setCell _ _ _ _ (fun e => by subst e; omega)).trans (h.block k hk hn)⟩
theorem only_drewN {a b : World} {G : Option Nat} (h : a.grownBy b G) (r : Nat) : a.grownBy (b.drewN r) G := ⟨h.os, h.tape, h.output, h.size, h.block⟩
/-- Below the reader all stays. -/
theorem only_under {a b : World} {g B : Nat} (h : a.grownBy b (some g)) (hB : B ≤ g) (hs : B ≤ a.heap.size) : Below B a b :=
  ⟨h.os, h.tape, h.output, h.size, fun k hk => h.block k (by omega) (fun e => by injection e with e; omega)⟩
/-- What a call has made lives on. -/
theorem MadeR.only {u w w' W : World} {y : Rv} {g : Nat} (h : MadeR w w' y) (h1 : u.heap.size ≤ w.heap.size) (hb : w'.grownBy W (some g)) (hg : g < w.heap.size) : MadeR u W y := h.wide h1 hb.size fun k k1 k2 => hb.block k k2 (fun e => by injection e with e; omega)
theorem LiveR.only {W W' : World} {G : Option Nat} {base g : Nat} {y : Rv} (h : LiveR W G base y) (hb : W.grownBy W' (some g)) (hg : g < base) : LiveR W' G base y := by
  obtain ⟨lo, hi, h1, h2, h3, h4, h5⟩ := h
  refine ⟨lo, hi, h1, h2, Nat.le_trans h3 hb.size, h4, fun W2 g1 g2 => h5 W2 g1 fun k k1 k2 => ?_⟩
  rw [g2 k k1 k2]
  exact hb.block k (by omega) (fun e => by injection e with e; omega)
theorem RowR.only {W W' : World} {e : TypeId} {base g : Nat} {v : Value} {ts : List Tr} (h : RowR W e base v ts) (hb : W.grownBy W' (some g)) (hg : g < base) : RowR W' e base v ts := by
  obtain ⟨vs, h1, h2, h3⟩ := h
  exact ⟨vs, h1, fun x hx => (h2 x hx).only hb hg, own_at h3 fun k e => hb.block k (own_row_lt h3 k e) (fun q => by injection q with q; have := own_row_ge h3 k e; omega)⟩

/-! Boxes of five behind what turns the reader alone. -/
theorem Box5.only {w w1 : World} {x g : Nat} {x0 x1 x2 x3 x4 : Value} (h : Box5 w x x0 x1 x2 x3 x4) (ho : w.grownBy w1 (some g)) (hn : x ≠ g) : Box5 w1 x x0 x1 x2 x3 x4 := by
  have hk : w1.heap[x]? = w.heap[x]? := ho.block x (lt_of_cellR h.c0) (fun e => hn (by injection e))
  exact ⟨(World.cell?_of_block (a := ⟨x, 0, none⟩) hk).trans h.c0, (World.cell?_of_block (a := ⟨x, 1, none⟩) hk).trans h.c1, (World.cell?_of_block (a := ⟨x, 2, none⟩) hk).trans h.c2, (World.cell?_of_block (a := ⟨x, 3, none⟩) hk).trans h.c3, (World.cell?_of_block (a := ⟨x, 4, none⟩) hk).trans h.c4,
    (World.frozen?_of_block (a := ⟨x, 0, none⟩) hk).trans h.f0, (World.frozen?_of_block (a := ⟨x, 1, none⟩) hk).trans h.f1, (World.frozen?_of_block (a := ⟨x, 2, none⟩) hk).trans h.f2, (World.frozen?_of_block (a := ⟨x, 3, none⟩) hk).trans h.f3, (World.frozen?_of_block (a := ⟨x, 4, none⟩) hk).trans h.f4⟩
/-- Five cells of a block written. -/
abbrev sets5 (w : World) (x : Nat) (y0 y1 y2 y3 y4 : Value) : World := ((((w.setCell ⟨x, 0, none⟩ y0).setCell ⟨x, 1, none⟩ y1).setCell ⟨x, 2, none⟩ y2).setCell ⟨x, 3, none⟩ y3).setCell ⟨x, 4, none⟩ y4
theorem only_sets5 {a b : World} {G : Option Nat} (h : a.grownBy b G) {x : Nat} (hx : a.heap.size ≤ x) (y0 y1 y2 y3 y4 : Value) : a.grownBy (sets5 b x y0 y1 y2 y3 y4) G :=
  only_put (only_put (only_put (only_put (only_put h (p := ⟨x, 0, none⟩) hx _) (p := ⟨x, 1, none⟩) hx _) (p := ⟨x, 2, none⟩) hx _) (p := ⟨x, 3, none⟩) hx _) (p := ⟨x, 4, none⟩) hx _
theorem Rdr.stay {W W' : World} {g b o c : Nat} {L : List Tok} {i op : Nat} (h : Rdr W g b o c L i op) (h1 : W'.heap[g]? = W.heap[g]?) (h2 : W'.heap[b]? = W.heap[b]?) : Rdr W' g b o c L i op :=
  ⟨h1.trans h.box, h.cap, h.lt, fun j hj => (h.toks j hj).stay h2, h.here⟩
theorem Rdr.sets5 {W : World} {g b o c : Nat} {L : List Tok} {i op : Nat} (h : Rdr W g b o c L i op) {x : Nat} (hx : g < x) (y0 y1 y2 y3 y4 : Value) : Rdr (sets5 W x y0 y1 y2 y3 y4) g b o c L i op :=
  h.stay (sets5_heap _ _ _ _ _ _ _ g (by omega)) (sets5_heap _ _ _ _ _ _ _ b (by have := h.lt; omega))

/-- The fault at a token. -/
def fltV (L : List Tok) (i : Nat) : Value := .iface 26 (.agg #[.int .i64 2, .int .i64 (tkD L i).place])
def diesAt (L : List Tok) (i : Nat) : Ending := .panicked [{ v := fltV L i, recovered := false }]
end Go.Proofs.YtldgbdmiebipnaaGreatDoor

namespace Go.Proofs.YtldgbdmiebipnaaGreatDoor
open Go.RowKit

section
variable {g b o c : Nat} {L : List Tok} {i op : Nat}
set_option maxRecDepth 100000 in
set_option maxHeartbeats 1000000 in
/-- Whether a text is next. -/
theorem next_any (s : ByteArray) (W : World) (h : Rdr W g b o c L i op) :
    Calls Tryz.prog 55 #[.pointer (some ⟨g, 0, none⟩), .string s] W fun e w' => e = .returned (.bool ((tkD L i).text.toList == s.toList)) ∧ W = w' := by
  have h0 := h.c0
  have hi := h.here
  obtain ⟨t0, t1, t2, t3⟩ := h.toks i hi
  rw [tkD_at hi]
  obtain ⟨x, hx⟩ : ∃ x, L[i].text = x := ⟨_, rfl⟩
  obtain ⟨n, hn⟩ : ∃ n, L.length - i = n := ⟨_, rfl⟩
  obtain ⟨k, hk⟩ : ∃ k, c - i = k := ⟨_, rfl⟩
  obtain ⟨a, ha⟩ : ∃ a, o + i * 4 = a := ⟨_, rfl⟩
  have hn0 : (0 : Int) < (n : Int) := by omega
  rw [hx] at t1 ⊢
  rw [hn, hk, ha] at h0
  rw [ha] at t0 t1 t2 t3
  clear h hx hn hk ha
  go_enter Tryz.func55, Tryz.ntmps55
  go_wp2_with fail
  go_ret
  exact ⟨rfl, rfl⟩
set_option maxRecDepth 100000 in
set_option maxHeartbeats 1000000 in
/-- The fault at the next token. -/
theorem fail_any (W : World) (h : Rdr W g b o c L i op) :
    Calls Tryz.prog 48 #[.pointer (some ⟨g, 0, none⟩)] W fun e w' => e = diesAt L i ∧ W = w' := by
  have h0 := h.c0
  have hi := h.here
  obtain ⟨t0, t1, t2, t3⟩ := h.toks i hi
  unfold diesAt fltV
  rw [tkD_at hi]
  obtain ⟨x, hx⟩ : ∃ x, L[i].place = x := ⟨_, rfl⟩
  obtain ⟨n, hn⟩ : ∃ n, L.length - i = n := ⟨_, rfl⟩
  obtain ⟨k, hk⟩ : ∃ k, c - i = k := ⟨_, rfl⟩
  obtain ⟨a, ha⟩ : ∃ a, o + i * 4 = a := ⟨_, rfl⟩
  have hn0 : (0 : Int) < (n : Int) := by omega
  rw [hx] at t3 ⊢
  rw [hn, hk, ha] at h0
  rw [ha] at t0 t1 t2 t3
  clear h hx hn hk ha
  go_enter Tryz.func48, Tryz.ntmps48
  go_wp2_with fail
  exact ⟨rfl, rfl, rfl⟩
set_option maxRecDepth 100000 in
set_option maxHeartbeats 1000000 in
/-- The next token as a tree, passed over. -/
theorem take_any (kd : Int) (W : World) (h : Rdr W g b o c L i op) (hi1 : i + 1 < L.length) (_hlen : L.length ≤ 100000) :
    Calls Tryz.prog 69 #[.pointer (some ⟨g, 0, none⟩), .int .i64 kd] W fun e w' => e = .returned (.agg #[.int .i64 kd, .string (tkD L i).text, .int .i64 (tkD L i).n, .int .i64 (tkD L i).place, .slice none 0 0]) ∧ Rdr w' g b o c L (i + 1) op ∧ W.grownBy w' (some g) := by
  have h0 := h.c0
  have hf := h.f0
  have hi := h.here
  have hg := h.glt
  have hcap := h.cap
  have hlt := h.lt
  obtain ⟨t0, t1, t2, t3⟩ := h.toks i hi
  rw [tkD_at hi]
  obtain ⟨t, ht⟩ : ∃ t, L[i] = t := ⟨_, rfl⟩
  rw [ht] at t0 t1 t2 t3 ⊢
  clear ht
  obtain ⟨tk, tx, tn, tp⟩ := t
  simp only at t0 t1 t2 t3 ⊢
  have hbw : b < W.heap.size := by omega
  have hbw1 : b < W.heap.size + 1 := by omega
  have hbw2 : b < W.heap.size + 1 + 1 := by omega
  have hg1 : g < W.heap.size + 1 := by omega
  have HW := Lib.hid h
  obtain ⟨n, hn⟩ : ∃ n, L.length - i = n + 1 + 1 := ⟨L.length - i - 2, by omega⟩
  obtain ⟨k, hk⟩ : ∃ k, c - i = k + 1 + 1 := ⟨c - i - 2, by omega⟩
  obtain ⟨a, ha⟩ : ∃ a, o + i * 4 = a := ⟨_, rfl⟩
  have hn0 : (0 : Int) < ((n + 1 + 1 : Nat) : Int) := by omega
  have hn1 : (1 : Int) < ((n + 1 + 1 : Nat) : Int) := by omega
  have hnk : n ≤ k := by omega
  rw [hn, hk, ha] at h0
  rw [ha] at t0 t1 t2 t3
  clear h
  go_enter Tryz.func69, Tryz.ntmps69
  go_wp2_with fail
  have hz : (W.setCell ⟨g, 0, none⟩ (.slice (some ⟨b, a + 4, none⟩) (n + 1) (k + 1))).heap.size = W.heap.size := by simp
  obtain ⟨V, hV⟩ : ∃ V, W.setCell ⟨g, 0, none⟩ (.slice (some ⟨b, a + 4, none⟩) (n + 1) (k + 1)) = V := ⟨_, rfl⟩
  rw [hV] at hz ⊢
  have hR : Rdr V g b o c L (i + 1) op := by
    rw [← hV]
    refine HW.out.left hi1 ?_
    rw [show o + (i + 1) * 4 = a + 4 from by omega, show L.length - (i + 1) = n + 1 from by omega, show c - (i + 1) = k + 1 from by omega]
  have hO : W.grownBy V (some g) := by rw [← hV]; exact only_set (only_refl _ _) _ _
  have bx := (box5_new V (.int .i64 kd) (.string tx) (.int .i64 tn) (.int .i64 tp) (.slice none 0 0) 39).below ((Below.refl _ _).alloc (Nat.le_refl _) (.cells #[.int .i64 tk, .string tx, .int .i64 tn, .int .i64 tp] 50)) (by simp)
  rw [hz] at bx
  obtain ⟨r0, r1, r2, r3, r4, _, _, _, _, _⟩ := bx
  have hB : Below V.heap.size V ((V.alloc (.cells #[.int .i64 kd, .string tx, .int .i64 tn, .int .i64 tp, .slice none 0 0] 39)).alloc (.cells #[.int .i64 tk, .string tx, .int .i64 tn, .int .i64 tp] 50)) := ((Below.refl _ _).alloc (Nat.le_refl _) _).alloc (by simp) _
  clear hV
  refine bodyPost_ret (v := .agg #[.int .i64 kd, .string tx, .int .i64 tn, .int .i64 tp, .slice none 0 0]) (by simp [results, Tryz.results69, go_sem, r0, r1, r2, r3, r4]) rfl ?_
  exact ⟨rfl, hR.below hB, only_next hO hB⟩
end
end Go.Proofs.YtldgbdmiebipnaaGreatDoor

namespace Go.Proofs.YtldgbdmiebipnaaGreatDoor
open Go.RowKit

set_option maxHeartbeats 400000 in
theorem class_any (b : Int) (w : World) :
    Calls Tryz.prog 49 #[.int .u8 b] w fun e w' => e = .returned (.int .i64 (cls b)) ∧ w = w' := by
  go_enter Tryz.func49, Tryz.ntmps49
  go_wp2
  all_goals go_ret
  all_goals refine ⟨ret_int ?_, rfl⟩
  all_goals (try simp only [beq_iff_eq, beq_eq_false_iff_ne, ne_eq] at *)
  all_goals (unfold cls; repeat (first | rw [if_pos (by omega)] | rw [if_neg (by omega)]))
set_option maxHeartbeats 400000 in
theorem part_any (b : Int) (w : World) :
    Calls Tryz.prog 84 #[.int .u8 b] w fun e w' => e = .returned (.bool (part b)) ∧ w = w' := by
  have hb := cls_bd b
  have hp : part b = decide (1 ≤ cls b ∧ cls b ≤ 3 ∨ b = 95) := rfl
  have h95 : b = 95 → cls b = 0 := by rintro rfl; decide
  have H := Lib.hid hp
  have H3 := Lib.hid h95
  clear hp h95
  generalize hc : cls b = c at H H3 hb
  have H2 := Lib.hid hc
  clear hc
  go_enter Tryz.func84, Tryz.ntmps84
  go_wp2_with (go_at_call 49; refine (class_any _ _).mono ?_; rintro e w' ⟨rfl, rfl⟩; rw [H2.out])
  all_goals go_ret
  all_goals refine ⟨ret_bool ?_, rfl⟩
  all_goals rw [H.out]
  all_goals have h95 := H3.out
  all_goals (try simp only [beq_iff_eq, beq_eq_false_iff_ne, bne_iff_ne, bne_eq_false_iff_eq, ne_eq] at *)
  all_goals first | (rw [decide_eq_true (by omega)]) | (rw [decide_eq_false (by omega)])
end Go.Proofs.YtldgbdmiebipnaaGreatDoor

namespace Go.Proofs.YtldgbdmiebipnaaGreatDoor
open Go.RowKit

set_option maxHeartbeats 400000 in
theorem keys_any (w : World) :
    Calls Tryz.prog 76 #[] w fun e w' => ∃ v, e = .returned v ∧ Strs w' v keyList ∧ Below w.heap.size w w' := by
  go_enter Tryz.func76, Tryz.ntmps76
  go_wp2
  go_ret
  exact ⟨_, rfl, strs_alloc w keyList 9 (by decide), (Below.refl _ _).alloc (Nat.le_refl _) _⟩
theorem contains_any (v : Value) (zs : List ByteArray) (x : ByteArray) (w : World) (hv : Strs w v zs) :
    Calls Tryz.prog 75 #[v, .string x] w fun e w' => e = .returned (.bool (Lib.containsS zs x)) ∧ w = w' := by
  obtain ⟨a, c, rfl, hl, h⟩ := hv
  rcases h with rfl | ⟨b, off, rfl, hlt, hc⟩
  · refine (Tryz.slices_Contains_string_empty a c x w).mono ?_
    rintro e w' ⟨rfl, rfl⟩
    exact ⟨rfl, rfl⟩
  · refine (Tryz.slices_Contains_string b off zs.length c zs x w (Nat.le_refl _) (by omega) hc).mono ?_
    rintro e w' ⟨rfl, rfl⟩
    rw [List.take_length]
    exact ⟨rfl, rfl⟩
set_option maxHeartbeats 400000 in
theorem key_any (s : ByteArray) (w : World) :
    Calls Tryz.prog 51 #[.string s] w fun e w' => e = .returned (.bool (Lib.containsS keyList s)) ∧ Below w.heap.size w w' := by
  go_enter Tryz.func51, Tryz.ntmps51
  go_wp2_with (first | (go_at_call 76; refine (keys_any _).mono ?_; rintro e w1 ⟨v, rfl, hv, hb⟩; replace hv := Lib.hid hv) | (go_at_call 75; refine (contains_any _ _ _ _ (Hid.out (by assumption))).mono ?_; rintro e w2 ⟨rfl, rfl⟩))
  go_ret
  exact ⟨rfl, hb⟩
set_option maxHeartbeats 400000 in
theorem fits_any (s : ByteArray) (f : Int) (k : Nat) (hk : k < s.size) (hs : s.size ≤ 9223372036854775806) (w : World) :
    Calls Tryz.prog 95 #[.agg #[.string s, .int .i64 f], .int .i64 k] w fun e w' => e = .returned (.bool (fitAt s f k)) ∧ Below w.heap.size w w' := by
  by_cases h0 : k = 0
  · subst h0
    have hq : (((0 : Nat) : Int) == 0) = true := rfl
    have HF := Lib.hid (fitAt_zero (f := f) hk)
    have hi : (0 : Int) < (s.size : Int) := by omega
    go_enter Tryz.func95, Tryz.ntmps95
    go_wp2_with fail
    go_quiet ((go_at_call 49; exact Calls.quiet_of_same ((class_any _ _).mono fun e w' h => ⟨h.1, h.2.symm⟩)))
    go_wp2
    go_ret
    exact ⟨ret_bool HF.out.symm, below_drewN ((Below.refl _ _).alloc (Nat.le_refl _) _) _⟩
  · have hq : ((k : Int) == 0) = false := by rw [beq_eq_false_iff_ne]; omega
    have HF := Lib.hid (fitAt_next (f := f) hk h0)
    clear h0
    go_enter Tryz.func95, Tryz.ntmps95
    go_wp2_with (go_at_call 84; refine (part_any _ _).mono ?_; rintro e w' ⟨rfl, rfl⟩)
    go_ret
    exact ⟨ret_bool HF.out.symm, (Below.refl _ _).alloc (Nat.le_refl _) _⟩
set_option maxHeartbeats 400000 in
theorem every_any (s : ByteArray) (f : Int) (hs : s.size ≤ 9223372036854775806) (w : World) :
    Calls Tryz.prog 94 #[.int .i64 s.size, .func (Fn.func 95) #[.agg #[.string s, .int .i64 f]] #[]] w fun e w' => e = .returned (.bool (fitsAll s f)) ∧ Below w.heap.size w w' := by
  go_enter Tryz.func94, Tryz.ntmps94
  go_wp2
  go_loopw [7] (fun i wr => ∃ k : Nat, k ≤ s.size ∧ i = .int .i64 k ∧ FitsTo s f k ∧ Below w.heap.size w wr) (fun i _ => s.size - (intOf i).toNat)
  case atStart => exact ⟨0, Nat.zero_le _, rfl, (fun j hj => by omega), Below.refl _ _⟩
  case round =>
    obtain ⟨k, hk, rfl, ha, hb⟩ := hrel
    have HA := Lib.hid ha
    clear ha
    by_cases hlt : k < s.size
    · cases hp : fitAt s f k with
      | true =>
        have HP := Lib.hid hp
        clear hp
        go_wp2_with (go_at_call 95; refine (fits_any s f k hlt hs _).mono ?_; rintro e w' ⟨rfl, hb2⟩; rw [HP.out])
        go_roundw
        case rel => exact ⟨k + 1, by omega, by go_num, HA.out.succ HP.out, hb.trans (hb2.mono hb.size)⟩
        case measure => simp [intOf]; omega
      | false =>
        have HP := Lib.hid hp
        clear hp
        go_wp2_with (go_at_call 95; refine (fits_any s f k hlt hs _).mono ?_; rintro e w' ⟨rfl, hb2⟩; rw [HP.out])
        go_ret
        exact ⟨ret_bool (fitsAll_bad hlt HP.out).symm, hb.trans (hb2.mono hb.size)⟩
    · obtain rfl : k = s.size := by omega
      go_wp2
      go_ret
      exact ⟨ret_bool HA.out.all.symm, hb⟩
set_option maxHeartbeats 400000 in
theorem spelt_any (s : ByteArray) (f : Int) (hs : s.size ≤ 9223372036854775806) (w : World) :
    Calls Tryz.prog 90 #[.string s, .int .i64 f] w fun e w' => e = .returned (.bool (speltB s f)) ∧ Below w.heap.size w w' := by
  by_cases h0 : 1 ≤ s.size
  · have h3 := toList_some h0
    have h4 : (s.toList == []) = false := by rw [beq_eq_false_iff_ne]; intro e; rw [e] at h3; cases h3
    by_cases h1 : s.size ≤ 20
    · have HF := Lib.hid (show speltB s f = fitsAll s f from by unfold speltB; rw [decide_eq_true ⟨h0, h1⟩]; rfl)
      have C := Lib.hid (fun w => every_any s f hs w)
      go_enter Tryz.func90, Tryz.ntmps90
      go_wp2_with (go_at_call 94; refine (C.out _).mono ?_; rintro e w' ⟨rfl, hb⟩)
      go_ret
      exact ⟨ret_bool HF.out.symm, hb⟩
    · have HF := Lib.hid (show speltB s f = false from by unfold speltB; rw [decide_eq_false (by omega)]; rfl)
      go_enter Tryz.func90, Tryz.ntmps90
      go_wp2_with fail
      go_ret
      exact ⟨ret_bool HF.out.symm, Below.refl _ _⟩
  · have HF := Lib.hid (show speltB s f = false from by unfold speltB; rw [decide_eq_false (by omega)]; rfl)
    have h3 := toList_empty (s := s) (by omega)
    have h4 : (s.toList == []) = true := by rw [h3]; rfl
    have h5 : s.toList.isEmpty = true := by rw [h3]; rfl
    have H3 := Lib.hid h3
    clear h3 h0
    go_enter Tryz.func90, Tryz.ntmps90
    go_wp2_with fail
    go_ret
    exact ⟨ret_bool HF.out.symm, Below.refl _ _⟩
set_option maxHeartbeats 400000 in
theorem word_any (s : ByteArray) (hs : s.size ≤ 9223372036854775806) (w : World) :
    Calls Tryz.prog 82 #[.string s] w fun e w' => e = .returned (.bool (wordB s)) ∧ Below w.heap.size w w' := by
  have HW := Lib.hid (show wordB s = (speltB s 1 && !Lib.containsS keyList s) from rfl)
  have C := Lib.hid (fun w => spelt_any s 1 hs w)
  have K := Lib.hid (fun w => key_any s w)
  cases hp : speltB s 1 with
  | true =>
    have HP := Lib.hid hp
    clear hp
    go_enter Tryz.func82, Tryz.ntmps82
    go_wp2_with (first | (go_at_call 90; refine (C.out _).mono ?_; rintro e w1 ⟨rfl, hb⟩; rw [HP.out]) | (go_at_call 51; refine (K.out _).mono ?_; rintro e w2 ⟨rfl, hb2⟩))
    go_ret
    exact ⟨ret_bool (by rw [HW.out, HP.out]; rfl), hb.trans (hb2.mono hb.size)⟩
  | false =>
    have HP := Lib.hid hp
    clear hp
    go_enter Tryz.func82, Tryz.ntmps82
    go_wp2_with (go_at_call 90; refine (C.out _).mono ?_; rintro e w1 ⟨rfl, hb⟩; rw [HP.out])
    go_ret
    exact ⟨ret_bool (by rw [HW.out, HP.out]; rfl), hb⟩
end Go.Proofs.YtldgbdmiebipnaaGreatDoor

namespace Go.Proofs.YtldgbdmiebipnaaGreatDoor
open Go.RowKit

section
variable {g b o c : Nat} {L : List Tok} {i op : Nat}
/-- A sign was passed over, or nothing was. -/
def PassPost (g b o c : Nat) (L : List Tok) (i op : Nat) (s : ByteArray) (w : World) (e : Ending) (w' : World) : Prop :=
  (isS (tkD L i) s = true ∧ e = .returned (.tuple #[]) ∧ Rdr w' g b o c L (i + 1) op ∧ w.grownBy w' (some g)) ∨ (isS (tkD L i) s = false ∧ e = diesAt L i ∧ w.grownBy w' (some g))
set_option maxRecDepth 100000 in
set_option maxHeartbeats 1000000 in
theorem pass_any (s : ByteArray) (W : World) (h : Rdr W g b o c L i op) (hE : Ended L) (hs : ((tkD L i).text.toList == s.toList) = isS (tkD L i) s) :
    Calls Tryz.prog 53 #[.pointer (some ⟨g, 0, none⟩), .string s] W (PassPost g b o c L i op s W) := by
  have N := Lib.hid (next_any s W h)
  have F := Lib.hid (fail_any W h)
  have HW := Lib.hid h
  unfold diesAt at F
  have hEi := hE i
  rw [hs] at N
  cases hq : isS (tkD L i) s with
  | false =>
    rw [hq] at N
    have HQ := Lib.hid hq
    clear hs hq h hE hEi
    go_enter Tryz.func53, Tryz.ntmps53
    go_wp2_with fail
    refine N.out.mono ?_; rintro e w1 ⟨rfl, rfl⟩
    go_wp2_with fail
    refine F.out.mono ?_; rintro e w1 ⟨rfl, rfl⟩
    go_wp2_with fail
    exact ⟨rfl, .inr ⟨HQ.out, rfl, only_refl _ _⟩⟩
  | true =>
    have hi1 : i + 1 < L.length := hEi (by rw [sgn_kind hq]; decide)
    rw [hq] at N
    have h0 := h.c0
    have hf := h.f0
    have hi := h.here
    have hcap := h.cap
    obtain ⟨n, hn⟩ : ∃ n, L.length - i = n + 1 + 1 := ⟨L.length - i - 2, by omega⟩
    obtain ⟨k, hk⟩ : ∃ k, c - i = k + 1 + 1 := ⟨c - i - 2, by omega⟩
    obtain ⟨a, ha⟩ : ∃ a, o + i * 4 = a := ⟨_, rfl⟩
    have hn1 : (1 : Int) < ((n + 1 + 1 : Nat) : Int) := by omega
    have hnk : n ≤ k := by omega
    rw [hn, hk, ha] at h0
    have HR := Lib.hid (HW.out.left (j := i + 1) (v := .slice (some ⟨b, a + 4, none⟩) (n + 1) (k + 1)) hi1 (by
      rw [show o + (i + 1) * 4 = a + 4 from by omega, show L.length - (i + 1) = n + 1 from by omega, show c - (i + 1) = k + 1 from by omega]))
    have HQ := Lib.hid hq
    clear hs hq h hE hEi hn hk ha
    go_enter Tryz.func53, Tryz.ntmps53
    go_wp2_with fail
    refine N.out.mono ?_; rintro e w1 ⟨rfl, rfl⟩
    go_wp2_with fail
    go_end0
    exact .inl ⟨HQ.out, rfl, HR.out, only_set (only_refl _ _) _ _⟩

/-- The next token as a tree of that kind, passed over, or a fault. -/
def TakePost (g b o c : Nat) (L : List Tok) (i op : Nat) (ok : Bool) (kd : Int) (w : World) (e : Ending) (w' : World) : Prop :=
  (ok = true ∧ e = .returned (.agg #[.int .i64 kd, .string (tkD L i).text, .int .i64 (tkD L i).n, .int .i64 (tkD L i).place, .slice none 0 0]) ∧ Rdr w' g b o c L (i + 1) op ∧ w.grownBy w' (some g)) ∨ (ok = false ∧ e = diesAt L i ∧ w.grownBy w' (some g))

set_option maxRecDepth 100000 in
set_option maxHeartbeats 1000000 in
theorem number_at (W : World) (h : Rdr W g b o c L i op) (hE : Ended L) (hlen : L.length ≤ 100000) :
    Calls Tryz.prog 54 #[.pointer (some ⟨g, 0, none⟩)] W (TakePost g b o c L i op ((tkD L i).kind == 3) 0 W) := by
  have hZ : Below W.heap.size W (W.alloc (.cells #[.int .i64 0, .string ⟨#[]⟩, .int .i64 0, .int .i64 0, .slice none 0 0] 39)) := (Below.refl _ _).alloc (Nat.le_refl _) _
  have h' := h.below hZ
  have F := Lib.hid (fail_any _ h')
  have T := Lib.hid (fun h1 => take_any 0 _ h' h1 hlen)
  have hO := only_below hZ (some g)
  have HO := Lib.hid hO
  have HT := Lib.hid (show ∀ ok e w', TakePost g b o c L i op ok 0 W e w' ↔ ((ok = true ∧ e = .returned (.agg #[.int .i64 0, .string (tkD L i).text, .int .i64 (tkD L i).n, .int .i64 (tkD L i).place, .slice none 0 0]) ∧ Rdr w' g b o c L (i + 1) op ∧ W.grownBy w' (some g)) ∨ (ok = false ∧ e = diesAt L i ∧ W.grownBy w' (some g))) from fun _ _ _ => Iff.rfl)
  have hEi := hE i
  have h0 := h.c0
  have hi := h.here
  have hg := h.glt
  have hlt := h.lt
  have hbw : b < W.heap.size := by omega
  have hbw1 : b < W.heap.size + 1 := by omega
  have hg1 : g < W.heap.size + 1 := by omega
  have hgne : W.heap.size ≠ g := by omega
  have BX := Lib.hid (box5_new W (.int .i64 0) (.string ⟨#[]⟩) (.int .i64 0) (.int .i64 0) (.slice none 0 0) 39)
  obtain ⟨t0, t1, t2, t3⟩ := h.toks i hi
  obtain ⟨t, ht⟩ : ∃ t, tkD L i = t := ⟨_, rfl⟩
  have hti : L[i] = t := by rw [← ht, tkD_at hi]
  rw [ht] at hEi T HT
  rw [hti] at t0 t1 t2 t3
  rw [ht]
  unfold diesAt fltV at F
  rw [ht] at F
  have HD := Lib.hid (show diesAt L i = .panicked [{ v := .iface 26 (.agg #[.int .i64 2, .int .i64 t.place]), recovered := false }] by unfold diesAt fltV; rw [ht])
  clear ht hti
  obtain ⟨tk, tx, tn, tp⟩ := t
  simp only at t0 t1 t2 t3 hEi T HT F HD
  obtain ⟨n, hn⟩ : ∃ n, L.length - i = n := ⟨_, rfl⟩
  obtain ⟨k, hk⟩ : ∃ k, c - i = k := ⟨_, rfl⟩
  obtain ⟨a, ha⟩ : ∃ a, o + i * 4 = a := ⟨_, rfl⟩
  have hn0 : (0 : Int) < (n : Int) := by omega
  rw [hn, hk, ha] at h0
  rw [ha] at t0 t1 t2 t3
  clear hn hk ha hO h' hZ h hE
  obtain ⟨w0, hw0⟩ : ∃ w0, W.alloc (.cells #[.int .i64 0, .string ⟨#[]⟩, .int .i64 0, .int .i64 0, .slice none 0 0] 39) = w0 := ⟨_, rfl⟩
  rw [hw0] at F T HO BX
  replace hw0 := Lib.hid hw0
  show Calls _ _ _ _ (TakePost g b o c L i op (tk == 3) 0 W)
  cases hq : (tk == 3) with
  | false =>
    have hq' : (tk != 3) = true := by rw [bne, hq]; rfl
    clear hq
    go_enter Tryz.func54, Tryz.ntmps54
    go_wp2_with fail
    rw [hw0.out]
    refine F.out.mono ?_; rintro e w1 ⟨rfl, rfl⟩
    go_wp2_with fail
    exact ⟨rfl, (HT.out _ _ _).2 (.inr ⟨rfl, HD.out.symm, HO.out⟩)⟩
  | true =>
    have hq' : (tk != 3) = false := by rw [bne, hq]; rfl
    have hi1 : i + 1 < L.length := hEi (by rw [show tk = 3 by simpa using hq]; decide)
    have T' := Lib.hid (T.out hi1)
    clear hq hEi
    go_enter Tryz.func54, Tryz.ntmps54
    go_wp2_with fail
    rw [hw0.out]
    refine T'.out.mono ?_; rintro e w1 ⟨rfl, hr1, ho1⟩
    have HB := Lib.hid (BX.out.only ho1 hgne)
    have HR1 := Lib.hid (hr1.sets5 (x := W.heap.size) hg (.int .i64 0) (.string tx) (.int .i64 tn) (.int .i64 tp) (.slice none 0 0))
    have HO1 := Lib.hid (only_sets5 (only_trans HO.out ho1) (Nat.le_refl _) (.int .i64 0) (.string tx) (.int .i64 tn) (.int .i64 tp) (.slice none 0 0))
    have HB2 := Lib.hid (HB.out.sets (.int .i64 0) (.string tx) (.int .i64 tn) (.int .i64 tp) (.slice none 0 0))
    obtain ⟨r0, r1, r2, r3, r4, rf0, rf1, rf2, rf3, rf4⟩ := HB.out
    clear hr1 ho1 t0 t1 t2 t3 h0
    go_wp2_with fail
    obtain ⟨r0, r1, r2, r3, r4, _, _, _, _, _⟩ := HB2.out
    refine bodyPost_ret (v := .agg #[.int .i64 0, .string tx, .int .i64 tn, .int .i64 tp, .slice none 0 0]) (by simp [results, Tryz.results54, go_sem, r0, r1, r2, r3, r4]) rfl ?_
    exact (HT.out _ _ _).2 (.inl ⟨rfl, rfl, HR1.out, HO1.out⟩)

set_option maxRecDepth 100000 in
set_option maxHeartbeats 1000000 in
theorem word_at (W : World) (h : Rdr W g b o c L i op) (hE : Ended L) (hlen : L.length ≤ 100000) :
    Calls Tryz.prog 52 #[.pointer (some ⟨g, 0, none⟩)] W (TakePost g b o c L i op (wordK (tkD L i)) 5 W) := by
  have F := Lib.hid (fun (V : World) (hv : Rdr V g b o c L i op) => fail_any V hv)
  have T := Lib.hid (fun (V : World) (hv : Rdr V g b o c L i op) h1 => take_any 5 V hv h1 hlen)
  have HT := Lib.hid (show ∀ ok e w', TakePost g b o c L i op ok 5 W e w' ↔ ((ok = true ∧ e = .returned (.agg #[.int .i64 5, .string (tkD L i).text, .int .i64 (tkD L i).n, .int .i64 (tkD L i).place, .slice none 0 0]) ∧ Rdr w' g b o c L (i + 1) op ∧ W.grownBy w' (some g)) ∨ (ok = false ∧ e = diesAt L i ∧ W.grownBy w' (some g))) from fun _ _ _ => Iff.rfl)
  have hEi := hE i
  have h0 := h.c0
  have hi := h.here
  have hg := h.glt
  have hlt := h.lt
  have hbw : b < W.heap.size := by omega
  have hbw1 : b < W.heap.size + 1 := by omega
  have hg1 : g < W.heap.size + 1 := by omega
  have hgne : W.heap.size ≠ g := by omega
  obtain ⟨t0, t1, t2, t3⟩ := h.toks i hi
  obtain ⟨t, ht⟩ : ∃ t, tkD L i = t := ⟨_, rfl⟩
  have hti : L[i] = t := by rw [← ht, tkD_at hi]
  rw [ht] at hEi T HT
  rw [hti] at t0 t1 t2 t3
  rw [ht]
  unfold diesAt fltV at F
  rw [ht] at F
  have HD := Lib.hid (show diesAt L i = .panicked [{ v := .iface 26 (.agg #[.int .i64 2, .int .i64 t.place]), recovered := false }] by unfold diesAt fltV; rw [ht])
  clear ht hti
  obtain ⟨tk, tx, tn, tp⟩ := t
  simp only at t0 t1 t2 t3 hEi T HT F HD
  have K := Lib.hid (fun (V : World) => key_any tx V)
  have HI := Lib.hid (show wordK ⟨tk, tx, tn, tp⟩ = ((tk == 1) && !Lib.containsS keyList tx) from rfl)
  obtain ⟨kb, hkb⟩ : ∃ kb, Lib.containsS keyList tx = kb := ⟨_, rfl⟩
  rw [hkb] at K HI
  obtain ⟨n, hn⟩ : ∃ n, L.length - i = n := ⟨_, rfl⟩
  obtain ⟨k, hk⟩ : ∃ k, c - i = k := ⟨_, rfl⟩
  obtain ⟨a, ha⟩ : ∃ a, o + i * 4 = a := ⟨_, rfl⟩
  have hn0 : (0 : Int) < (n : Int) := by omega
  rw [hn, hk, ha] at h0
  rw [ha] at t0 t1 t2 t3
  clear hn hk ha hE hkb
  have hB0 : Below W.heap.size W ((W.alloc (.cells #[.int .i64 0, .string ⟨#[]⟩, .int .i64 0, .int .i64 0, .slice none 0 0] 39)).alloc (.cells #[.int .i64 tk, .string tx, .int .i64 tn, .int .i64 tp] 50)) := ((Below.refl _ _).alloc (Nat.le_refl _) _).alloc (by simp) _
  have BX := (box5_new W (.int .i64 0) (.string ⟨#[]⟩) (.int .i64 0) (.int .i64 0) (.slice none 0 0) 39).below ((Below.refl _ _).alloc (Nat.le_refl _) (.cells #[.int .i64 tk, .string tx, .int .i64 tn, .int .i64 tp] 50)) (by simp)
  have hz : ((W.alloc (.cells #[.int .i64 0, .string ⟨#[]⟩, .int .i64 0, .int .i64 0, .slice none 0 0] 39)).alloc (.cells #[.int .i64 tk, .string tx, .int .i64 tn, .int .i64 tp] 50)).heap.size = W.heap.size + 2 := by simp
  have hr0 := h.below hB0
  obtain ⟨w0, hw0⟩ : ∃ w0, (W.alloc (.cells #[.int .i64 0, .string ⟨#[]⟩, .int .i64 0, .int .i64 0, .slice none 0 0] 39)).alloc (.cells #[.int .i64 tk, .string tx, .int .i64 tn, .int .i64 tp] 50) = w0 := ⟨_, rfl⟩
  rw [hw0] at hB0 BX hz hr0
  replace hw0 := Lib.hid hw0
  have HR0 := Lib.hid hr0
  have HB0 := Lib.hid hB0
  have HBX := Lib.hid BX
  clear hr0 hB0 BX h
  show Calls _ _ _ _ (TakePost g b o c L i op (wordK ⟨tk, tx, tn, tp⟩) 5 W)
  cases hq : (tk == 1) with
  | false =>
    have hq' : (tk != 1) = true := by rw [bne, hq]; rfl
    have HN := Lib.hid (show wordK ⟨tk, tx, tn, tp⟩ = false by rw [HI.out, hq]; rfl)
    clear hq
    go_enter Tryz.func52, Tryz.ntmps52
    go_wp2_with fail
    rw [hw0.out]
    refine (F.out _ HR0.out).mono ?_; rintro e w1 ⟨rfl, rfl⟩
    go_wp2_with fail
    exact ⟨rfl, (HT.out _ _ _).2 (.inr ⟨HN.out, HD.out.symm, only_below HB0.out _⟩)⟩
  | true =>
    have hq' : (tk != 1) = false := by rw [bne, hq]; rfl
    have hi1 : i + 1 < L.length := hEi (by rw [show tk = 1 by simpa using hq]; decide)
    have T' := Lib.hid (fun (V : World) (hv : Rdr V g b o c L i op) => T.out V hv hi1)
    cases kb with
    | true =>
      have HN := Lib.hid (show wordK ⟨tk, tx, tn, tp⟩ = false by rw [HI.out, hq]; rfl)
      clear hq hEi
      go_enter Tryz.func52, Tryz.ntmps52
      go_wp2_with fail
      rw [hw0.out]
      refine (K.out _).mono ?_; rintro e w1 ⟨rfl, hb1⟩
      have HB1 := Lib.hid (below_next HB0.out hb1)
      have HR1 := Lib.hid (HR0.out.below hb1)
      clear hb1
      go_wp2_with fail
      refine (F.out _ HR1.out).mono ?_; rintro e w2 ⟨rfl, rfl⟩
      go_wp2_with fail
      exact ⟨rfl, (HT.out _ _ _).2 (.inr ⟨HN.out, HD.out.symm, only_below HB1.out _⟩)⟩
    | false =>
      have HN := Lib.hid (show wordK ⟨tk, tx, tn, tp⟩ = true by rw [HI.out, hq]; rfl)
      clear hq hEi
      go_enter Tryz.func52, Tryz.ntmps52
      go_wp2_with fail
      rw [hw0.out]
      refine (K.out _).mono ?_; rintro e w1 ⟨rfl, hb1⟩
      have HB1 := Lib.hid (below_next HB0.out hb1)
      have HR1 := Lib.hid (HR0.out.below hb1)
      have HX1 := Lib.hid (HBX.out.below hb1 (by omega))
      clear hb1
      go_wp2_with fail
      refine (T'.out _ HR1.out).mono ?_; rintro e w2 ⟨rfl, hr2, ho2⟩
      have HX2 := Lib.hid (HX1.out.only ho2 hgne)
      have HR2 := Lib.hid (hr2.sets5 (x := W.heap.size) hg (.int .i64 5) (.string tx) (.int .i64 tn) (.int .i64 tp) (.slice none 0 0))
      have HO2 := Lib.hid (only_sets5 (only_trans (only_below HB1.out _) ho2) (Nat.le_refl _) (.int .i64 5) (.string tx) (.int .i64 tn) (.int .i64 tp) (.slice none 0 0))
      have HX3 := Lib.hid (HX2.out.sets (.int .i64 5) (.string tx) (.int .i64 tn) (.int .i64 tp) (.slice none 0 0))
      obtain ⟨r0, r1, r2, r3, r4, rf0, rf1, rf2, rf3, rf4⟩ := HX2.out
      clear hr2 ho2 t0 t1 t2 t3 h0
      go_wp2_with fail
      obtain ⟨r0, r1, r2, r3, r4, _, _, _, _, _⟩ := HX3.out
      refine bodyPost_ret (v := .agg #[.int .i64 5, .string tx, .int .i64 tn, .int .i64 tp, .slice none 0 0]) (by simp [results, Tryz.results52, go_sem, r0, r1, r2, r3, r4]) rfl ?_
      exact (HT.out _ _ _).2 (.inl ⟨HN.out, rfl, HR2.out, HO2.out⟩)
end
end Go.Proofs.YtldgbdmiebipnaaGreatDoor

namespace Go.Proofs.YtldgbdmiebipnaaGreatDoor
open Go.RowKit

section
variable {g b o c : Nat} {L : List Tok}
/-- What a call of term leaves. -/
def TermPPost (g b o c : Nat) (L : List Tok) (i op : Nat) (w : World) (e : Ending) (w' : World) : Prop :=
  ((termP L i op).2.2 = true ∧ ∃ y : Rv, e = .returned y.val ∧ y.t = (termP L i op).1 ∧ MadeR w w' y ∧ Rdr w' g b o c L (termP L i op).2.1 op ∧ w.grownBy w' (some g)) ∨
  ((termP L i op).2.2 = false ∧ e = diesAt L (termP L i op).2.1 ∧ w.grownBy w' (some g))
/-- What a call of terms leaves. -/
def TermsPPost (g b o c : Nat) (L : List Tok) (i : Nat) (sg : ByteArray) (op : Nat) (w : World) (e : Ending) (w' : World) : Prop :=
  ((termsP L i sg op).2.2 = true ∧ ∃ v, e = .returned v ∧ RowR w' 39 w.heap.size v (termsP L i sg op).1 ∧ (termsP L i sg op).1.length ≤ 1000000 ∧ Rdr w' g b o c L (termsP L i sg op).2.1 op ∧ w.grownBy w' (some g)) ∨
  ((termsP L i sg op).2.2 = false ∧ e = diesAt L (termsP L i sg op).2.1 ∧ w.grownBy w' (some g))
/-- The terms that are read on behind some. -/
def contP (L : List Tok) (sg : ByteArray) (op : Nat) (ts : List Tr) (k : Nat) : List Tr × Nat × Bool :=
  if isS (tkD L k) sg = false then (ts, k, true) else (ts ++ (termsP L (k + 1) sg op).1, (termsP L (k + 1) sg op).2)
theorem contP_start {i : Nat} {sg : ByteArray} {op : Nat} (h : (termP L i op).2.2 = true) : termsP L i sg op = contP L sg op [(termP L i op).1] (termP L i op).2.1 := by
  rw [termsP_eq, if_neg (by rw [h]; decide)]; rfl
theorem termsP_fails {i : Nat} {sg : ByteArray} {op : Nat} (h : (termP L i op).2.2 = false) : termsP L i sg op = ([], (termP L i op).2.1, false) := by
  rw [termsP_eq, if_pos h]
theorem contP_stop {sg : ByteArray} {op : Nat} {ts : List Tr} {k : Nat} (h : isS (tkD L k) sg = false) : contP L sg op ts k = (ts, k, true) := by unfold contP; rw [if_pos h]
theorem contP_next {sg : ByteArray} {op : Nat} {ts : List Tr} {k : Nat} (h : isS (tkD L k) sg = true) (h2 : (termP L (k + 1) op).2.2 = true) : contP L sg op ts k = contP L sg op (ts ++ [(termP L (k + 1) op).1]) (termP L (k + 1) op).2.1 := by
  have e := contP_start (sg := sg) h2
  unfold contP at e ⊢
  rw [if_neg (by rw [h]; decide), e]
  split <;> simp
theorem contP_fails {sg : ByteArray} {op : Nat} {ts : List Tr} {k : Nat} (h : isS (tkD L k) sg = true) (h2 : (termP L (k + 1) op).2.2 = false) : contP L sg op ts k = (ts, (termP L (k + 1) op).2.1, false) := by
  unfold contP; rw [if_neg (by rw [h]; decide), termsP_fails h2]; simp
theorem only_row {a b c : World} {G R : Option Nat} (h : a.grownBy b G) (k : b.grownBy c R) (hR : ∀ j, R = some j → a.heap.size ≤ j) : a.grownBy c G :=
  ⟨k.os.trans h.os, k.tape.trans h.tape, k.output.trans h.output, Nat.le_trans h.size k.size, fun i hi hn => (k.block i (Nat.lt_of_lt_of_le hi h.size) (fun e => by have := hR i e.symm; omega)).trans (h.block i hi hn)⟩
theorem Rdr.row {W W' : World} {i op : Nat} {R : Option Nat} (h : Rdr W g b o c L i op) (k : W.grownBy W' R) (hR : ∀ j, R = some j → g < j) : Rdr W' g b o c L i op :=
  h.stay (k.block g h.glt (fun e => by have := hR g e.symm; omega)) (k.block b (Nat.lt_trans h.lt h.glt) (fun e => by have := hR b e.symm; have := h.lt; omega))
theorem new_row (w : World) (xs : List Value) (t : TypeId) : ∀ j u, xs[j]? = some u → (w.alloc (.cells xs.toArray t)).cell? ((⟨w.heap.size, 0, none⟩ : Addr).add j) = some u := by
  intro j u hj
  have e := World.cell?_alloc_mark w xs.toArray t (0, 0) (0 + j)
  have : ((⟨w.heap.size, 0, none⟩ : Addr).add j) = ⟨w.heap.size, 0 + j, none⟩ := by
    unfold Addr.add; split
    · next h => subst h; rfl
    · rfl
  rw [this, e]
  simpa using hj
/-- A new row of one tree. -/
theorem rowR_one {W : World} {base : Nat} {y : Rv} (hy : LiveR W none base y) (hb : base ≤ W.heap.size) : RowR (W.alloc (.cells y.cells.toArray 39)) 39 base (.slice (some ⟨W.heap.size, 0, none⟩) 1 1) [y.t] := by
  refine ⟨[y], rfl, fun x hx => ?_, ?_⟩
  · rw [List.mem_singleton] at hx
    subst hx
    exact hy.keep (by simp) (fun k hk _ => by rw [Below.heap_alloc _ _ _ hk]) (fun k e => .inr (by cases e; exact Nat.le_refl _))
  · refine ⟨by rw [rowRv_one]; rfl, .inr ⟨W.heap.size, 1, y.cells.toArray, rfl, hb, heap_alloc_new W _, Nat.le_refl _, by decide, rfl, by rw [rowRv_one]; rfl⟩⟩

set_option maxRecDepth 100000 in
set_option maxHeartbeats 4000000 in
theorem terms_one (hE : Ended L) (hlen : L.length ≤ 100000) (i : Nat) (sg : ByteArray) (op : Nat) (W : World) (h : Rdr W g b o c L i op) (hsg : ∀ k, k < L.length → ((tkD L k).text.toList == sg.toList) = isS (tkD L k) sg)
    (hT : ∀ (j : Nat) (V : World), i ≤ j → Rdr V g b o c L j op → Calls Tryz.prog 47 #[.pointer (some ⟨g, 0, none⟩)] V (TermPPost g b o c L j op V)) :
    Calls Tryz.prog 56 #[.pointer (some ⟨g, 0, none⟩), .string sg] W (TermsPPost g b o c L i sg op W) := by
  obtain ⟨i0, hti, hz0, hz1, hz2⟩ := info_parts (show (Tryz.prog.info? 39).map (fun i => (i.zero, i.size, i.bytes)) = some (some (.agg #[.int .i64 0, .string ⟨#[]⟩, .int .i64 0, .int .i64 0, .slice none 0 0]), 5, 64) by kernel_rfl)
  have hg := h.glt
  have hi := h.here
  have T0 := Lib.hid (hT i W (Nat.le_refl _) h)
  have T := Lib.hid (fun (j : Nat) (V : World) (h1 : i ≤ j) (hv : Rdr V g b o c L j op) => hT j V h1 hv)
  have N := Lib.hid (fun (k : Nat) (V : World) (hv : Rdr V g b o c L k op) => (next_any sg V hv).mono fun e w' hh => (show e = .returned (.bool (isS (tkD L k) sg)) ∧ V = w' by rw [hsg k hv.here] at hh; exact hh))
  have P := Lib.hid (fun (k : Nat) (V : World) (hv : Rdr V g b o c L k op) => pass_any sg V hv hE (hsg k hv.here))
  have HT := Lib.hid (show ∀ e w', TermsPPost g b o c L i sg op W e w' ↔ (((termsP L i sg op).2.2 = true ∧ ∃ v, e = .returned v ∧ RowR w' 39 W.heap.size v (termsP L i sg op).1 ∧ (termsP L i sg op).1.length ≤ 1000000 ∧ Rdr w' g b o c L (termsP L i sg op).2.1 op ∧ W.grownBy w' (some g)) ∨
    ((termsP L i sg op).2.2 = false ∧ e = diesAt L (termsP L i sg op).2.1 ∧ W.grownBy w' (some g))) from fun _ _ => Iff.rfl)
  have hle := termP_le L i op
  clear hT hsg
  go_enter Tryz.func56, Tryz.ntmps56
  go_wp2_with fail
  refine T0.out.mono ?_; rintro e w1 (⟨hok, y, rfl, hyt, hm, hr1, ho1⟩ | ⟨hok, hd, ho1⟩)
  case inr =>
    have HQ := Lib.hid (termsP_fails (sg := sg) hok)
    have HO1 := Lib.hid ho1
    have HD := Lib.hid hd
    unfold diesAt at hd
    subst hd
    clear hok ho1
    go_wp2_with fail
    exact ⟨rfl, (HT.out _ _).2 (.inr ⟨by rw [HQ.out], by rw [HQ.out]; exact HD.out, HO1.out⟩)⟩
  case inl =>
    have HQ := Lib.hid (contP_start (sg := sg) hok)
    have hlt1 := hle.2 hok
    obtain ⟨⟨kd, s, nn, pp, xs⟩, ya, yc⟩ := y
    simp only at hyt
    rw [← hyt] at HQ
    obtain ⟨n1, hn1⟩ : ∃ n1, (termP L i op).2.1 = n1 := ⟨_, rfl⟩
    rw [hn1] at HQ hr1 hlt1
    have HR1 := Lib.hid hr1
    have HO1 := Lib.hid ho1
    have hs1 := ho1.size
    have HM := Lib.hid (rowR_one (hm.live hs1 (g := none) (base := W.heap.size) (Nat.le_refl _) (fun k e => by cases e)) (by exact hs1))
    unfold Rv.val
    simp only [Tr.kind, Tr.text, Tr.n, Tr.spot, Tr.args]
    unfold Rv.cells at HM
    simp only [Tr.kind, Tr.text, Tr.n, Tr.spot, Tr.args] at HM
    clear hm hr1 ho1 hok hle hyt hn1
    go_wp2_with fail
    go_loopg [5] L.length (fun gg l wr => ∃ (k : Nat) (ts : List Tr), L.length - k ≤ gg ∧ i < k ∧ ts.length ≤ k ∧ Rdr wr g b o c L k op ∧ RowR wr 39 W.heap.size l ts ∧ W.grownBy wr (some g) ∧ Hid (termsP L i sg op = contP L sg op ts k))
    case atStart => exact ⟨n1, [.mk kd s nn pp xs], by omega, hlt1, by show 1 ≤ n1; omega, HR1.out.below ((Below.refl _ _).alloc (Nat.le_refl _) _), HM.out, only_alloc HO1.out _, HQ⟩
    case round =>
      clear HQ HR1 HO1 HM hs1 hlt1 T0
      obtain ⟨k, ts, hgg, hik, htk, hr, hrow, ho, HQ⟩ := hrel
      have HR := Lib.hid hr
      have HROW := Lib.hid hrow
      have HO := Lib.hid ho
      have hkl := hr.here
      have hzr := ho.size
      clear hr hrow ho
      go_wp2_with fail
      refine (N.out k _ HR.out).mono ?_; rintro e w2 ⟨rfl, rfl⟩
      cases hs : isS (tkD L k) sg with
      | false =>
        have HQ2 := Lib.hid (HQ.out.trans (contP_stop hs))
        clear hs HQ
        obtain ⟨a, cc, hv⟩ : ∃ a cc, u5 = .slice a ts.length cc := by
          obtain ⟨_, _, _, hown⟩ := HROW.out
          exact own_slice hown
        subst hv
        go_wp2_with fail
        go_ret
        exact (HT.out _ _).2 (.inl ⟨by rw [HQ2.out], _, rfl, by rw [HQ2.out]; exact HROW.out, by rw [HQ2.out]; show ts.length ≤ 1000000; omega, by rw [HQ2.out]; exact HR.out, HO.out⟩)
      | true =>
        have HS := Lib.hid hs
        clear hs
        go_wp2_with fail
        refine (P.out k _ HR.out).mono ?_; rintro e w2 (⟨_, rfl, hr2, ho2⟩ | ⟨hf, _⟩)
        case inr => rw [HS.out] at hf; cases hf
        have HR2 := Lib.hid hr2
        have HO2 := Lib.hid (only_trans HO.out ho2)
        have HROW2 := Lib.hid (HROW.out.only ho2 hg)
        have hsz2 := ho2.size
        clear hr2 ho2
        go_wp2_with fail
        have hle := termP_le L (k + 1) op
        refine (T.out (k + 1) _ (by omega) HR2.out).mono ?_; rintro e w3 (⟨hok, y, rfl, hyt, hm, hr3, ho3⟩ | ⟨hok, hd, ho3⟩)
        case inr =>
          have HQ2 := Lib.hid (HQ.out.trans (contP_fails HS.out hok))
          have HO3 := Lib.hid (only_trans HO2.out ho3)
          have HD := Lib.hid hd
          unfold diesAt at hd
          subst hd
          clear hok ho3
          go_wp2_with fail
          exact ⟨rfl, (HT.out _ _).2 (.inr ⟨by rw [HQ2.out], by rw [HQ2.out]; exact HD.out, HO3.out⟩)⟩
        case inl =>
          have HQ2 := Lib.hid (HQ.out.trans (contP_next HS.out hok))
          have hlt2 := hle.2 hok
          obtain ⟨⟨kd, s, nn, pp, xs⟩, ya, yc⟩ := y
          simp only at hyt
          rw [← hyt] at HQ2
          obtain ⟨n2, hn2⟩ : ∃ n2, (termP L (k + 1) op).2.1 = n2 := ⟨_, rfl⟩
          rw [hn2] at HQ2 hr3 hlt2
          have hsz3 := ho3.size
          have hB := (Below.refl w3.heap.size w3).alloc (Nat.le_refl _) (.cells #[.int .i64 kd, .string s, .int .i64 nn, .int .i64 pp, .slice ya xs.length yc] 39)
          have HR3 := Lib.hid (hr3.below hB)
          have HO3 := Lib.hid (only_alloc (only_trans HO2.out ho3) (.cells #[.int .i64 kd, .string s, .int .i64 nn, .int .i64 pp, .slice ya xs.length yc] 39))
          obtain ⟨vs, hvt, hvl, hown⟩ := HROW2.out.only ho3 hg
          obtain ⟨_, _, _, hownr⟩ := HROW2.out
          have hlr := own_row_lt hownr
          have hlo := own_row_ge hown
          have HY := Lib.hid ((hm.live hsz3 (g := u5.ownBlock) (base := W.heap.size) (by omega) (fun q e => .inl (hlr q e))).below hB)
          have HVL := Lib.hid (fun x hx => (hvl x hx).below hB)
          have HVT := Lib.hid hvt
          have hlen3 : ts.length ≤ 100000 := by omega
          unfold Rv.val
          simp only [Tr.kind, Tr.text, Tr.n, Tr.spot, Tr.args]
          clear hm hr3 ho3 hok hle hyt hn2 hvl hvt hB hownr hlr
          go_wp2_with (at_builtin; refine wpList_append_own_at _ rfl _ _ 37 rfl W.heap.size 39 i0 (.agg #[.int .i64 0, .string ⟨#[]⟩, .int .i64 0, .int .i64 0, .slice none 0 0]) 5 64 Tryz.underlying37 hti hz0 hz1 hz2 rfl (by decide) _ ts.length _ rfl (hown.alloc _) ⟨w3.heap.size, 0, none⟩ 1 1 [.int .i64 kd, .string s, .int .i64 nn, .int .i64 pp, .slice ya xs.length yc] rfl rfl ?c1 ?c2 ?c3 ?c4 ?c5 ?_)
          case c1 => exact new_row w3 _ _
          case c2 => exact rv_one ⟨.mk kd s nn pp xs, ya, yc⟩
          case c3 => unfold maxLen; omega
          case c4 => omega
          case c5 => simp; omega
          intro v' w4 hown' hgrow _ hat
          have hrow4 := RowR.snoc (y := ⟨.mk kd s nn pp xs, ya, yc⟩) HVT.out HVL.out HY.out hown' hgrow (by simpa using hat)
          have HROW4 := Lib.hid hrow4
          have HO4 := Lib.hid (only_row HO3.out hgrow hlo)
          have HR4 := Lib.hid (HR3.out.row hgrow (fun j e => by have := hlo j e; omega))
          clear hrow4 hown' hgrow hat hown hlo
          go_wp2_with fail
          go_roundg (L.length - n2)
          case measure => omega
          case rel => exact ⟨n2, ts ++ [.mk kd s nn pp xs], Nat.le_refl _, by omega, by rw [List.length_append]; show ts.length + 1 ≤ n2; omega, HR4.out, HROW4.out, HO4.out, HQ2⟩
end
end Go.Proofs.YtldgbdmiebipnaaGreatDoor

namespace Go.Proofs.YtldgbdmiebipnaaGreatDoor
open Go.RowKit

/-- A row that was begun later was begun earlier. -/
theorem RowR.since {W : World} {e : TypeId} {base base' : Nat} {v : Value} {ts : List Tr} (h : RowR W e base v ts) (hb : base' ≤ base) : RowR W e base' v ts := by
  obtain ⟨vs, h1, h2, hn, h3⟩ := h
  refine ⟨vs, h1, fun x hx => ?_, hn, ?_⟩
  · obtain ⟨lo, hi, k1, k2, k3, k4, k5⟩ := h2 x hx
    exact ⟨lo, hi, Nat.le_trans hb k1, k2, k3, k4, k5⟩
  · rcases h3 with h3 | ⟨q, cap, cur, r1, r2, r3⟩
    · exact .inl h3
    · exact .inr ⟨q, cap, cur, r1, Nat.le_trans hb r2, r3⟩

section
variable {g b o c : Nat} {L : List Tok}
/-- What a call of args leaves, at a bracket. -/
def ArgsPPost (g b o c : Nat) (L : List Tok) (i op : Nat) (w : World) (e : Ending) (w' : World) : Prop :=
  (op < 40 ∧ (termsP L (i + 1) sComma (op + 1)).2.2 = true ∧ isS (tkD L (termsP L (i + 1) sComma (op + 1)).2.1) sClose = true ∧ ∃ v, e = .returned v ∧ RowR w' 39 w.heap.size v (termsP L (i + 1) sComma (op + 1)).1 ∧ (termsP L (i + 1) sComma (op + 1)).1.length ≤ 1000000 ∧ Rdr w' g b o c L ((termsP L (i + 1) sComma (op + 1)).2.1 + 1) op ∧ w.grownBy w' (some g)) ∨
  (40 ≤ op ∧ e = diesAt L i ∧ w.grownBy w' (some g)) ∨
  (op < 40 ∧ ((termsP L (i + 1) sComma (op + 1)).2.2 = false ∨ isS (tkD L (termsP L (i + 1) sComma (op + 1)).2.1) sClose = false) ∧ e = diesAt L (termsP L (i + 1) sComma (op + 1)).2.1 ∧ w.grownBy w' (some g))

set_option maxRecDepth 100000 in
set_option maxHeartbeats 4000000 in
theorem args_one (hE : Ended L) (i op : Nat) (W : World) (h : Rdr W g b o c L i op) (hop : op ≤ 40) (hsg : ∀ s, s = sOpen ∨ s = sClose → ∀ k, k < L.length → ((tkD L k).text.toList == s.toList) = isS (tkD L k) s) (hb : isS (tkD L i) sOpen = true)
    (hT : ∀ (V : World), op < 40 → Rdr V g b o c L (i + 1) (op + 1) → Calls Tryz.prog 56 #[.pointer (some ⟨g, 0, none⟩), .string sComma] V (TermsPPost g b o c L (i + 1) sComma (op + 1) V)) :
    Calls Tryz.prog 70 #[.pointer (some ⟨g, 0, none⟩)] W (ArgsPPost g b o c L i op W) := by
  have HT := Lib.hid (show ∀ e w', ArgsPPost g b o c L i op W e w' ↔ ((op < 40 ∧ (termsP L (i + 1) sComma (op + 1)).2.2 = true ∧ isS (tkD L (termsP L (i + 1) sComma (op + 1)).2.1) sClose = true ∧ ∃ v, e = .returned v ∧ RowR w' 39 W.heap.size v (termsP L (i + 1) sComma (op + 1)).1 ∧ (termsP L (i + 1) sComma (op + 1)).1.length ≤ 1000000 ∧ Rdr w' g b o c L ((termsP L (i + 1) sComma (op + 1)).2.1 + 1) op ∧ W.grownBy w' (some g)) ∨
  (40 ≤ op ∧ e = diesAt L i ∧ W.grownBy w' (some g)) ∨
  (op < 40 ∧ ((termsP L (i + 1) sComma (op + 1)).2.2 = false ∨ isS (tkD L (termsP L (i + 1) sComma (op + 1)).2.1) sClose = false) ∧ e = diesAt L (termsP L (i + 1) sComma (op + 1)).2.1 ∧ W.grownBy w' (some g))) from fun _ _ => Iff.rfl)
  have h1 := h.c1
  have hf1 := h.f1
  have hg := h.glt
  have HR := Lib.hid h
  have F := Lib.hid (fail_any W h)
  have P1 := Lib.hid (pass_any sOpen W h hE (hsg sOpen (.inl rfl) i h.here))
  have P2 := Lib.hid (fun (k q : Nat) (V : World) (hv : Rdr V g b o c L k q) => pass_any sClose V hv hE (hsg sClose (.inr rfl) k hv.here))
  have HB := Lib.hid hb
  have HT2 := Lib.hid hT
  clear hsg hb hT hE h
  by_cases h40 : 40 ≤ op
  · have h40c : (op : Int) ≥ 40 := by omega
    unfold diesAt at F
    go_enter Tryz.func70, Tryz.ntmps70
    go_wp2_with fail
    refine F.out.mono ?_; rintro e w1 ⟨rfl, rfl⟩
    go_wp2_with fail
    exact ⟨rfl, (HT.out _ _).2 (.inr (.inl ⟨h40, rfl, only_refl _ _⟩))⟩
  · have h40c : (op : Int) < 40 := by omega
    have hop1 : IntKind.i64.wrap ((op : Int) + 1) = ((op + 1 : Nat) : Int) := by rw [IntKind.wrap_i64]; omega
    go_enter Tryz.func70, Tryz.ntmps70
    go_wp2_with fail
    refine P1.out.mono ?_; rintro e w1 (⟨_, rfl, hr1, ho1⟩ | ⟨hf, _⟩)
    case inr => rw [HB.out] at hf; cases hf
    have c1 := hr1.c1
    have f1 := hr1.f1
    have HR1 := Lib.hid hr1
    have HO1 := Lib.hid ho1
    clear hr1 ho1
    go_wp2_with fail
    have hr2 := HR1.out.opened (q := op + 1) (v := .int .i64 ((op : Int) + 1)) (by rw [show ((op + 1 : Nat) : Int) = (op : Int) + 1 from by omega])
    have HO2 := Lib.hid (only_set HO1.out 1 (.int .i64 ((op : Int) + 1)))
    have hz2 : (w1.setCell ⟨g, 1, none⟩ (.int .i64 ((op : Int) + 1))).heap.size = w1.heap.size := by simp
    obtain ⟨w2, hw2⟩ : ∃ w2, w1.setCell ⟨g, 1, none⟩ (.int .i64 ((op : Int) + 1)) = w2 := ⟨_, rfl⟩
    rw [hw2] at hr2 HO2 hz2 ⊢
    have hz1 := HO1.out.size
    have T := HT2.out w2 (by omega) hr2
    clear hw2 c1 f1
    obtain ⟨⟨ts, n, ok⟩, hx⟩ : ∃ x, termsP L (i + 1) sComma (op + 1) = x := ⟨_, rfl⟩
    unfold TermsPPost at T
    rw [hx] at T HT
    simp only at T HT
    replace T := Lib.hid T
    clear hx HT2 hr2
    refine T.out.mono ?_; rintro e w3 (⟨rfl, v, rfl, hrow, hlen, hr3, ho3⟩ | ⟨rfl, hd, ho3⟩)
    case inr =>
      have HO3 := Lib.hid (only_trans HO2.out ho3)
      have HD := Lib.hid hd
      unfold diesAt at hd
      subst hd
      clear ho3
      go_wp2_with fail
      exact ⟨rfl, (HT.out _ _).2 (.inr (.inr ⟨by omega, .inl (by first | rfl | trivial), HD.out, HO3.out⟩))⟩
    case inl =>
      have HO3 := Lib.hid (only_trans HO2.out ho3)
      have HR3 := Lib.hid hr3
      have HROW := Lib.hid hrow
      obtain ⟨a, cc, hv⟩ : ∃ a cc, v = .slice a ts.length cc := by
        obtain ⟨_, _, _, hown⟩ := hrow
        exact own_slice hown
      subst hv
      have hg2 : g < w2.heap.size := by omega
      clear hr3 ho3 hrow
      go_wp2_with fail
      refine (P2.out n (op + 1) _ HR3.out).mono ?_; rintro e w4 (⟨hc, rfl, hr4, ho4⟩ | ⟨hc, hd, ho4⟩)
      case inr =>
        have HO4 := Lib.hid (only_trans HO3.out ho4)
        have HD := Lib.hid hd
        have HC := Lib.hid hc
        unfold diesAt at hd
        subst hd
        clear ho4 hc
        go_wp2_with fail
        exact ⟨rfl, (HT.out _ _).2 (.inr (.inr ⟨by omega, .inr HC.out, HD.out, HO4.out⟩))⟩
      case inl =>
        have HC := Lib.hid hc
        have d1 : w4.cell? ⟨g, 1, none⟩ = some (.int .i64 ((op : Int) + 1)) := by rw [hr4.c1, show ((op + 1 : Nat) : Int) = (op : Int) + 1 from by omega]
        have e1 := hr4.f1
        have HR5 := Lib.hid (hr4.opened (q := op) (v := .int .i64 (op : Int)) rfl)
        have HO5 := Lib.hid (only_set (only_trans HO3.out ho4) 1 (.int .i64 (op : Int)))
        have HROW5 := Lib.hid (HROW.out.only (only_set ho4 1 (.int .i64 (op : Int))) hg2)
        have HZ := Lib.hid (show W.heap.size ≤ w2.heap.size by omega)
        have hsub : IntKind.i64.wrap ((op : Int) + 1 - 1) = (op : Int) := by rw [IntKind.wrap_i64]; omega
        clear hr4 ho4 hc
        go_wp2_with fail
        go_ret
        exact (HT.out _ _).2 (.inl ⟨by omega, (by first | rfl | trivial), HC.out, _, rfl, HROW5.out.since HZ.out, hlen, HR5.out, HO5.out⟩)
end
end Go.Proofs.YtldgbdmiebipnaaGreatDoor
