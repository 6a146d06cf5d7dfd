/-
  Whether a text is among others, by the reference of layer 1: In.
  The names of the variables of a term, by the reference of layer 3: Vars.
  Trees in memory: a kind, a text, a number, a place, and more trees; rows of them. No function of the program.
  Trees that calls have made live on in whatever leaves their blocks as they are. No function of the program.
  Rules in memory: each two terms; rows of rules. No function of the program.
  Terms with their variables by number, and whether two rules are alike but for names: as data. No function of the program.
  Classes of bytes, as data. No function of the program.
  How many bytes that may be part of a word stand at a place of a text: what parts of package lex answers, and Long of the reference, for every text and every place in it. Neither changes anything. (as data)
-/
import Derived.Test.YtnbjpgdnfklanaaGreatDoorT01
import Derived.WalkSpells
import Derived.Below
import Derived.Laws.OwnMore
import Derived.Lib.SlicesS
import Derived.Lib.Hide
namespace Go.Proofs.YtnbjpgdnfklanaaGreatDoor
open Go.RowKit
set_option maxHeartbeats 400000 in
theorem rin_any (v : Value) (zs : List ByteArray) (x : ByteArray) (w : World) (hv : Strs w v zs) :
    Calls Tryz.prog 19 #[v, .string x] w fun e w' => e = .returned (.bool (Lib.containsS zs x)) ∧ w = w' := by
  obtain ⟨a, c, rfl, hl, h⟩ := hv
  rcases h with rfl | ⟨b, off, rfl, hlt, hc⟩
  · go_enter Tryz.func19, Tryz.ntmps19
    go_wp2
    refine wp_loop_rounds 1 ?_; rw [rounds_succ]
    go_wp2
    go_ret
    exact ⟨rfl, rfl⟩
  · have HC := Lib.hid hc
    clear hc
    go_enter Tryz.func19, Tryz.ntmps19
    go_wp2
    go_loop [9] (fun i => ∃ k : Nat, k ≤ zs.length ∧ i = .int .i64 k ∧ NotYet zs x k) (fun i => zs.length - (intOf i).toNat)
    case atStart => exact ⟨0, Nat.zero_le _, rfl, (fun j hj => by omega)⟩
    case round =>
      obtain ⟨k, hk, rfl, hne⟩ := hrel
      have HN := Lib.hid hne
      clear hne
      by_cases hlt : k < zs.length
      · have hcell : w.cell? ⟨b, off + k, none⟩ = some (.string zs[k]) := by rw [HC.out k hlt]; simp [List.getD, hlt]
        by_cases he : zs[k] = x
        · have hq : (zs[k].toList == x.toList) = true := by rw [Lib.bytes_beq_iff]; exact he
          have HE := Lib.hid he
          clear he
          go_wp2
          go_ret
          exact ⟨ret_bool (contains_here hlt HE.out).symm, rfl⟩
        · have hq : (zs[k].toList == x.toList) = false := by rw [Lib.bytes_beq_false_iff]; exact he
          have HE := Lib.hid (show zs.getD k ByteArray.empty ≠ x from by simpa [List.getD, hlt] using he)
          clear he
          go_wp2
          go_round
          case rel => exact ⟨k + 1, by omega, by go_num, HN.out.succ HE.out⟩
          case measure => simp [intOf]; omega
      · obtain rfl : k = zs.length := by omega
        go_wp2
        go_ret
        exact ⟨ret_bool HN.out.all.symm, rfl⟩
end Go.Proofs.YtnbjpgdnfklanaaGreatDoor

namespace Go.Proofs.YtnbjpgdnfklanaaGreatDoor
open Go.RowKit
def varStep (acc : List ByteArray) (x : Tm) : List ByteArray := if (x.kind == 1) = true ∧ Lib.containsS acc x.name = false then acc ++ [x.name] else acc
def varsL (l : List Tm) : List ByteArray := l.foldl varStep []
def Tm.vars (t : Tm) : List ByteArray := varsL t.all
theorem varsL_take {l : List Tm} {k : Nat} (h : k < l.length) : varsL (l.take (k + 1)) = varStep (varsL (l.take k)) l[k] := by
  unfold varsL; rw [List.take_succ_eq_append_getElem h, List.foldl_append]; rfl
theorem varsL_len (l : List Tm) : (varsL l).length ≤ l.length := by
  have : ∀ (l : List Tm) (acc : List ByteArray), (l.foldl varStep acc).length ≤ acc.length + l.length := by
    intro l
    induction l with
    | nil => intro acc; simp
    | cons x r ih =>
      intro acc
      rw [List.foldl_cons, List.length_cons]
      have h1 := ih (varStep acc x)
      have h2 : (varStep acc x).length ≤ acc.length + 1 := by unfold varStep; split <;> simp
      omega
  have := this l []
  simpa [varsL] using this
end Go.Proofs.YtnbjpgdnfklanaaGreatDoor

namespace Go.Proofs.YtnbjpgdnfklanaaGreatDoor
open Go.RowKit
inductive Tr where
  | mk (kind : Int) (text : ByteArray) (n : Int) (spot : Int) (args : List Tr)
def Tr.kind : Tr → Int | .mk k _ _ _ _ => k
def Tr.text : Tr → ByteArray | .mk _ s _ _ _ => s
def Tr.n : Tr → Int | .mk _ _ n _ _ => n
def Tr.spot : Tr → Int | .mk _ _ _ p _ => p
def Tr.args : Tr → List Tr | .mk _ _ _ _ xs => xs
instance : Inhabited Tr := ⟨.mk 0 ⟨#[]⟩ 0 0 []⟩
mutual

def Tr.parts : Tr → Nat
  | .mk _ _ _ _ xs => partsR xs + 1
def partsR : List Tr → Nat
  | [] => 0
  | t :: r => t.parts + partsR r
end
structure FitR (k : Int) (s : ByteArray) (n p : Int) : Prop where
  klo : -9223372036854775808 ≤ k
  khi : k ≤ 9223372036854775807
  nlo : -9223372036854775808 ≤ n
  nhi : n ≤ 9223372036854775807
  plo : -9223372036854775808 ≤ p
  phi : p ≤ 9223372036854775807
  len : s.size ≤ 9223372036854775807
mutual

def TrAt (w : World) : Tr → Nat → Nat → Prop
  | .mk k s n p xs, b, o => FitR k s n p ∧ w.cell? ⟨b, o, none⟩ = some (.int .i64 k) ∧ w.cell? ⟨b, o + 1, none⟩ = some (.string s) ∧ w.cell? ⟨b, o + 2, none⟩ = some (.int .i64 n) ∧ w.cell? ⟨b, o + 3, none⟩ = some (.int .i64 p) ∧
    ∃ a c, w.cell? ⟨b, o + 4, none⟩ = some (.slice a xs.length c) ∧ (xs.length ≤ 9223372036854775807 ∧ xs.length ≤ c) ∧ (xs = [] ∨ ∃ b' o', a = some ⟨b', o', none⟩ ∧ b' < w.heap.size ∧ RowRAt w xs b' o')
def RowRAt (w : World) : List Tr → Nat → Nat → Prop
  | [], _, _ => True
  | t :: r, b, o => TrAt w t b o ∧ RowRAt w r b (o + 5)
end
def ArgR (w : World) (a : Option Addr) (c : Nat) (xs : List Tr) : Prop := (xs.length ≤ 9223372036854775807 ∧ xs.length ≤ c) ∧ (xs = [] ∨ ∃ b o, a = some ⟨b, o, none⟩ ∧ b < w.heap.size ∧ RowRAt w xs b o)
theorem rowRAt_of {w : World} : ∀ {xs : List Tr} {b o : Nat}, (∀ {j : Nat} (h : j < xs.length), TrAt w xs[j] b (o + j * 5)) → RowRAt w xs b o
  | [], _, _, _ => by rw [RowRAt]; trivial
  | t :: r, b, o, h => by
    rw [RowRAt]
    refine ⟨(show TrAt w t b (o + 0 * 5) from h (j := 0) (by simp)), rowRAt_of fun {j} hj => ?_⟩
    have := h (j := j + 1) (by simpa using hj)
    rw [show o + (j + 1) * 5 = o + 5 + j * 5 from by omega] at this
    exact this
structure Rv where
  t : Tr
  a : Option Addr
  c : Nat
def Rv.val (v : Rv) : Value := .agg #[.int .i64 v.t.kind, .string v.t.text, .int .i64 v.t.n, .int .i64 v.t.spot, .slice v.a v.t.args.length v.c]
def Rv.cells (v : Rv) : List Value := [.int .i64 v.t.kind, .string v.t.text, .int .i64 v.t.n, .int .i64 v.t.spot, .slice v.a v.t.args.length v.c]
def Rv.ok (w : World) (v : Rv) : Prop := FitR v.t.kind v.t.text v.t.n v.t.spot ∧ ArgR w v.a v.c v.t.args
structure RvAt (w : World) (b o : Nat) (v : Rv) : Prop where
  c0 : w.cell? ⟨b, o, none⟩ = some (.int .i64 v.t.kind)
  c1 : w.cell? ⟨b, o + 1, none⟩ = some (.string v.t.text)
  c2 : w.cell? ⟨b, o + 2, none⟩ = some (.int .i64 v.t.n)
  c3 : w.cell? ⟨b, o + 3, none⟩ = some (.int .i64 v.t.spot)
  c4 : w.cell? ⟨b, o + 4, none⟩ = some (.slice v.a v.t.args.length v.c)
theorem rv_trAt {w : World} {v : Rv} {b o : Nat} (hk : v.ok w) (h : RvAt w b o v) : TrAt w v.t b o := by
  obtain ⟨t, a, c⟩ := v
  cases t with
  | mk k s n p xs =>
    rw [TrAt]
    exact ⟨hk.1, h.c0, h.c1, h.c2, h.c3, a, c, h.c4, hk.2.1, hk.2.2⟩
theorem lt_of_cellR {w : World} {b o : Nat} {x : Value} (h : w.cell? ⟨b, o, none⟩ = some x) : b < w.heap.size := by
  rcases Nat.lt_or_ge b w.heap.size with hlt | hge
  · exact hlt
  · unfold World.cell? at h
    simp [Array.getElem?_eq_none hge] at h
mutual
theorem TrAt.below {w w' : World} (hb : Below w.heap.size w w') : ∀ {t : Tr} {b o : Nat}, TrAt w t b o → TrAt w' t b o
  | .mk k s n p xs, b, o, h => by
    rw [TrAt] at h ⊢
    obtain ⟨hf, h0, h1, h2, h3, a, c, h4, hl, hr⟩ := h
    have hlt := lt_of_cellR h0
    refine ⟨hf, (hb.cell (p := ⟨b, o, none⟩) hlt).trans h0, (hb.cell (p := ⟨b, o + 1, none⟩) hlt).trans h1, (hb.cell (p := ⟨b, o + 2, none⟩) hlt).trans h2, (hb.cell (p := ⟨b, o + 3, none⟩) hlt).trans h3, a, c, (hb.cell (p := ⟨b, o + 4, none⟩) hlt).trans h4, hl, ?_⟩
    rcases hr with hr | ⟨b', o', ha, hb', hr⟩
    · exact .inl hr
    · exact .inr ⟨b', o', ha, Nat.lt_of_lt_of_le hb' hb.size, RowRAt.below hb hr⟩
theorem RowRAt.below {w w' : World} (hb : Below w.heap.size w w') : ∀ {xs : List Tr} {b o : Nat}, RowRAt w xs b o → RowRAt w' xs b o
  | [], _, _, _ => by rw [RowRAt]; trivial
  | t :: r, b, o, h => by
    rw [RowRAt] at h ⊢
    exact ⟨TrAt.below hb h.1, RowRAt.below hb h.2⟩
end
theorem ArgR.below {w w' : World} {a : Option Addr} {c : Nat} {xs : List Tr} (h : ArgR w a c xs) (hb : Below w.heap.size w w') : ArgR w' a c xs := by
  obtain ⟨hl, h⟩ := h
  refine ⟨hl, ?_⟩
  rcases h with h | ⟨b, o, ha, hlt, hr⟩
  · exact .inl h
  · exact .inr ⟨b, o, ha, Nat.lt_of_lt_of_le hlt hb.size, hr.below hb⟩
theorem Rv.ok.below {w w' : World} {v : Rv} (h : v.ok w) (hb : Below w.heap.size w w') : v.ok w' := ⟨h.1, ArgR.below h.2 hb⟩
def Trs (w : World) (v : Value) (ts : List Tr) : Prop := ∃ a c, v = .slice a ts.length c ∧ ArgR w a c ts
theorem Trs.below {w w' : World} {v : Value} {ts : List Tr} (h : Trs w v ts) (hb : Below w.heap.size w w') : Trs w' v ts := by
  obtain ⟨a, c, hv, h⟩ := h
  exact ⟨a, c, hv, h.below hb⟩
theorem Trs.none_ (w : World) (a : Option Addr) (c : Nat) : Trs w (.slice a 0 c) [] := ⟨a, c, rfl, by simp, .inl rfl⟩
theorem RvAt.below {w w' : World} {b o : Nat} {v : Rv} (h : RvAt w b o v) (hb : Below w.heap.size w w') : RvAt w' b o v :=
  have hlt := lt_of_cellR h.c0
  ⟨(hb.cell (p := ⟨b, o, none⟩) hlt).trans h.c0, (hb.cell (p := ⟨b, o + 1, none⟩) hlt).trans h.c1, (hb.cell (p := ⟨b, o + 2, none⟩) hlt).trans h.c2, (hb.cell (p := ⟨b, o + 3, none⟩) hlt).trans h.c3, (hb.cell (p := ⟨b, o + 4, none⟩) hlt).trans h.c4⟩
def rowRv (vs : List Rv) : List Value := vs.flatMap Rv.cells
theorem rowRv_append (a b : List Rv) : rowRv (a ++ b) = rowRv a ++ rowRv b := by unfold rowRv; rw [List.flatMap_append]
theorem rowRv_get : ∀ (vs : List Rv) (j : Nat) (h : j < vs.length) (i : Nat), i < 5 → (rowRv vs)[j * 5 + i]? = vs[j].cells[i]?
  | [], _, h, _, _ => by simp at h
  | v :: r, 0, _, i, hi => by
    unfold rowRv
    rw [List.flatMap_cons, List.getElem?_append_left (by simp [Rv.cells]; omega)]; simp
  | v :: r, j + 1, h, i, hi => by
    have := rowRv_get r j (by simpa using h) i hi
    unfold rowRv at this ⊢
    rw [List.flatMap_cons, List.getElem?_append_right (by simp [Rv.cells]; omega)]
    rw [show (j + 1) * 5 + i - v.cells.length = j * 5 + i from by simp [Rv.cells]; omega, this]
    simp
def OwnRv (w0 w : World) (e : TypeId) (base : Nat) (v : Value) (ts : List Tr) : Prop :=
  ∃ vs : List Rv, vs.map Rv.t = ts ∧ (∀ x ∈ vs, x.ok w0) ∧ w.ownsRow base e 5 v ts.length (rowRv vs)
theorem OwnRv.trs {w0 w : World} {e : TypeId} {base : Nat} {v : Value} {ts : List Tr} (h : OwnRv w0 w e base v ts) (hb : ∀ x : Rv, x.ok w0 → x.ok w) (hl : ts.length ≤ 9223372036854775807) : Trs w v ts := by
  obtain ⟨vs, rfl, hok, hn, h⟩ := h
  rcases h with ⟨rfl, h0⟩ | ⟨g, cap, cur, rfl, _, hg, hcap, hmax, hsz, htake⟩
  · have : vs = [] := by simpa using h0
    subst this
    exact Trs.none_ _ _ _
  · refine ⟨_, cap, rfl, ⟨hl, hcap⟩, .inr ⟨g, 0, rfl, (Array.getElem?_eq_some_iff.1 hg).1, rowRAt_of fun {j} hj => ?_⟩⟩
    have hjv : j < vs.length := by simpa using hj
    rw [List.getElem_map]
    have cell : ∀ i, i < 5 → w.cell? ⟨g, 0 + j * 5 + i, none⟩ = vs[j].cells[i]? := by
      intro i hi
      rw [cell_of_row w g (0 + j * 5 + i) cur _ (0, 0) hg, ← rowRv_get vs j hjv i hi, ← htake, List.getElem?_take, if_pos (by simp; omega), Nat.zero_add]
      simp
    exact rv_trAt (hb _ (hok _ (List.getElem_mem hjv))) ⟨cell 0 (by omega), cell 1 (by omega), cell 2 (by omega), cell 3 (by omega), cell 4 (by omega)⟩
end Go.Proofs.YtnbjpgdnfklanaaGreatDoor

namespace Go.Proofs.YtnbjpgdnfklanaaGreatDoor
open Go.RowKit
def MadeR (w w' : World) (y : Rv) : Prop := ∀ W', w'.heap.size ≤ W'.heap.size → (∀ k, w.heap.size ≤ k → k < w'.heap.size → W'.heap[k]? = w'.heap[k]?) → y.ok W'
def MadeRs (w w' : World) (v : Value) (ts : List Tr) : Prop := ∀ W', w'.heap.size ≤ W'.heap.size → (∀ k, w.heap.size ≤ k → k < w'.heap.size → W'.heap[k]? = w'.heap[k]?) → Trs W' v ts
theorem MadeR.ok {w w' : World} {y : Rv} (h : MadeR w w' y) : y.ok w' := h w' (Nat.le_refl _) fun _ _ _ => rfl
theorem MadeRs.trs {w w' : World} {v : Value} {ts : List Tr} (h : MadeRs w w' v ts) : Trs w' v ts := h w' (Nat.le_refl _) fun _ _ _ => rfl
theorem MadeR.wide {u w w' W : World} {y : Rv} (h : MadeR w w' y) (h1 : u.heap.size ≤ w.heap.size) (h2 : w'.heap.size ≤ W.heap.size) (h3 : ∀ k, w.heap.size ≤ k → k < w'.heap.size → W.heap[k]? = w'.heap[k]?) : MadeR u W y := fun W' g1 g2 =>
  h W' (Nat.le_trans h2 g1) fun k k1 k2 => (g2 k (Nat.le_trans h1 k1) (Nat.lt_of_lt_of_le k2 h2)).trans (h3 k k1 k2)
theorem MadeR.below {u w w' W : World} {y : Rv} (h : MadeR w w' y) (h1 : u.heap.size ≤ w.heap.size) (hb : Below w'.heap.size w' W) : MadeR u W y := h.wide h1 hb.size fun k _ k2 => hb.block k k2
theorem MadeRs.below {u w w' W : World} {v : Value} {ts : List Tr} (h : MadeRs w w' v ts) (h1 : u.heap.size ≤ w.heap.size) (hb : Below w'.heap.size w' W) : MadeRs u W v ts := fun W' g1 g2 =>
  h W' (Nat.le_trans hb.size g1) fun k k1 k2 => (g2 k (Nat.le_trans h1 k1) (Nat.lt_of_lt_of_le k2 hb.size)).trans (hb.block k k2)
def LiveR (W : World) (g : Option Nat) (base : Nat) (y : Rv) : Prop := ∃ lo hi, base ≤ lo ∧ lo ≤ hi ∧ hi ≤ W.heap.size ∧ (∀ k, g = some k → k < lo ∨ hi ≤ k) ∧
  ∀ W', hi ≤ W'.heap.size → (∀ k, lo ≤ k → k < hi → W'.heap[k]? = W.heap[k]?) → y.ok W'
theorem LiveR.ok {W : World} {g : Option Nat} {base : Nat} {y : Rv} (h : LiveR W g base y) : y.ok W := by
  obtain ⟨lo, hi, _, _, h3, _, h5⟩ := h
  exact h5 W h3 fun _ _ _ => rfl
theorem LiveR.keep {W W' : World} {g g' : Option Nat} {base : Nat} {y : Rv} (h : LiveR W g base y) (hs : W.heap.size ≤ W'.heap.size) (hk : ∀ k, k < W.heap.size → some k ≠ g → W'.heap[k]? = W.heap[k]?) (hg : ∀ k, g' = some k → g = some k ∨ W.heap.size ≤ k) : LiveR W' g' base y := by
  obtain ⟨lo, hi, h1, h2, h3, h4, h5⟩ := h
  refine ⟨lo, hi, h1, h2, Nat.le_trans h3 hs, fun k e => ?_, fun W2 g1 g2 => h5 W2 g1 fun k k1 k2 => ?_⟩
  · rcases hg k e with e | e
    · exact h4 k e
    · exact .inr (Nat.le_trans h3 e)
  · rw [g2 k k1 k2]
    refine hk k (Nat.lt_of_lt_of_le k2 h3) fun e => ?_
    rcases h4 k e.symm with e | e <;> omega
theorem LiveR.below {W W' : World} {g : Option Nat} {base : Nat} {y : Rv} (h : LiveR W g base y) (hb : Below W.heap.size W W') : LiveR W' g base y := h.keep hb.size (fun k hk _ => hb.block k hk) fun _ e => .inl e
theorem LiveR.grown {W W' : World} {g g' : Option Nat} {base : Nat} {y : Rv} (h : LiveR W g base y) (hg : W.grownBy W' g) (hat : g' = g ∨ g' = some W.heap.size) : LiveR W' g' base y := h.keep hg.size (fun k hk e => hg.block k hk e) fun k e => by
  rcases hat with e2 | e2
  · left; rw [← e2]; exact e
  · right; rw [e2] at e; injection e with e; omega
theorem own_at {w w' : World} {base : Nat} {e : TypeId} {size : Nat} {v : Value} {n : Nat} {xs : List Value} (h : w.ownsRow base e size v n xs) (hk : ∀ g, v.ownBlock = some g → w'.heap[g]? = w.heap[g]?) : w'.ownsRow base e size v n xs := by
  obtain ⟨hn, h⟩ := h
  refine ⟨hn, ?_⟩
  rcases h with h | ⟨g, cap, cur, rfl, hbb, hg, hr⟩
  · exact .inl h
  · exact .inr ⟨g, cap, cur, rfl, hbb, (hk g rfl).trans hg, hr⟩
structure RowR (W : World) (e : TypeId) (base : Nat) (v : Value) (ts : List Tr) : Prop where
  row : ∃ vs : List Rv, vs.map Rv.t = ts ∧ (∀ x ∈ vs, LiveR W v.ownBlock base x) ∧ W.ownsRow base e 5 v ts.length (rowRv vs)
theorem RowR.below {W W' : World} {e : TypeId} {base : Nat} {v : Value} {ts : List Tr} (h : RowR W e base v ts) (hb : Below W.heap.size W W') : RowR W' e base v ts := by
  obtain ⟨vs, h1, h2, h3⟩ := h
  exact ⟨vs, h1, fun x hx => (h2 x hx).below hb, own_below h3 hb⟩
theorem RowR.trs {W : World} {e : TypeId} {base : Nat} {v : Value} {ts : List Tr} (h : RowR W e base v ts) (hl : ts.length ≤ 9223372036854775807) : Trs W v ts := by
  obtain ⟨vs, h1, h2, h3⟩ := h
  exact OwnRv.trs (w0 := W) (e := e) (base := base) ⟨vs, h1, fun x hx => (h2 x hx).ok, h3⟩ (fun x h => h) hl
end Go.Proofs.YtnbjpgdnfklanaaGreatDoor

namespace Go.Proofs.YtnbjpgdnfklanaaGreatDoor
open Go.RowKit
abbrev Rl := Tm × Tm
def RlAt (w : World) (x : Rl) (b o : Nat) : Prop := TmAt w x.1 b o ∧ TmAt w x.2 b (o + 4)
def Rls (w : World) (v : Value) (rs : List Rl) : Prop := ∃ a c, v = .slice a rs.length c ∧ (rs.length ≤ 9223372036854775807 ∧ rs.length ≤ c) ∧ (rs = [] ∨ ∃ b o, a = some ⟨b, o, none⟩ ∧ b < w.heap.size ∧ ∀ (j : Nat) x, rs[j]? = some x → RlAt w x b (o + j * 8))
theorem RlAt.below {w w' : World} {x : Rl} {b o : Nat} (h : RlAt w x b o) (hb : Below w.heap.size w w') : RlAt w' x b o := ⟨h.1.below hb, h.2.below hb⟩
theorem Rls.below {w w' : World} {v : Value} {rs : List Rl} (h : Rls w v rs) (hb : Below w.heap.size w w') : Rls w' v rs := by
  obtain ⟨a, c, hv, hl, h⟩ := h
  refine ⟨a, c, hv, hl, ?_⟩
  rcases h with h | ⟨b, o, ha, hlt, h⟩
  · exact .inl h
  · exact .inr ⟨b, o, ha, Nat.lt_of_lt_of_le hlt hb.size, fun j x hj => (h j x hj).below hb⟩
theorem Rls.none_ (w : World) (a : Option Addr) (c : Nat) : Rls w (.slice a 0 c) [] := ⟨a, c, rfl, by simp, .inl rfl⟩
structure Qv where
  l : Tv
  r : Tv
def Qv.cells (x : Qv) : List Value := [.int .i64 x.l.t.kind, .string x.l.t.name, .int .i64 x.l.t.n, .slice x.l.a x.l.t.args.length x.l.c, .int .i64 x.r.t.kind, .string x.r.t.name, .int .i64 x.r.t.n, .slice x.r.a x.r.t.args.length x.r.c]
def Qv.val (x : Qv) : Value := .agg #[.int .i64 x.l.t.kind, .string x.l.t.name, .int .i64 x.l.t.n, .slice x.l.a x.l.t.args.length x.l.c, .int .i64 x.r.t.kind, .string x.r.t.name, .int .i64 x.r.t.n, .slice x.r.a x.r.t.args.length x.r.c]
def Qv.rl (x : Qv) : Rl := (x.l.t, x.r.t)
def Qv.ok (w : World) (x : Qv) : Prop := x.l.ok w ∧ x.r.ok w
theorem Qv.ok.below {w w' : World} {x : Qv} (h : Qv.ok w x) (hb : Below w.heap.size w w') : Qv.ok w' x := ⟨h.1.below hb, h.2.below hb⟩
structure QvAt (w : World) (b o : Nat) (x : Qv) : Prop where
  c0 : w.cell? ⟨b, o, none⟩ = some (.int .i64 x.l.t.kind)
  c1 : w.cell? ⟨b, o + 1, none⟩ = some (.string x.l.t.name)
  c2 : w.cell? ⟨b, o + 2, none⟩ = some (.int .i64 x.l.t.n)
  c3 : w.cell? ⟨b, o + 3, none⟩ = some (.slice x.l.a x.l.t.args.length x.l.c)
  c4 : w.cell? ⟨b, o + 4, none⟩ = some (.int .i64 x.r.t.kind)
  c5 : w.cell? ⟨b, o + 5, none⟩ = some (.string x.r.t.name)
  c6 : w.cell? ⟨b, o + 6, none⟩ = some (.int .i64 x.r.t.n)
  c7 : w.cell? ⟨b, o + 7, none⟩ = some (.slice x.r.a x.r.t.args.length x.r.c)
theorem rlAt_qv {w : World} {x : Rl} {b o : Nat} (h : RlAt w x b o) : ∃ y : Qv, y.rl = x ∧ y.ok w ∧ QvAt w b o y := by
  obtain ⟨u, hu, hk, h0, h1, h2, h3⟩ := tmAt_tv h.1
  obtain ⟨v, hv, hm, k0, k1, k2, k3⟩ := tmAt_tv h.2
  exact ⟨⟨u, v⟩, by unfold Qv.rl; rw [hu, hv], ⟨hk, hm⟩, h0, h1, h2, h3, k0, k1, k2, k3⟩
theorem qv_rlAt {w : World} {y : Qv} {b o : Nat} (hk : y.ok w) (h : QvAt w b o y) : RlAt w y.rl b o :=
  ⟨tv_tmAt hk.1 ⟨h.c0, h.c1, h.c2, h.c3⟩, tv_tmAt hk.2 ⟨h.c4, h.c5, h.c6, h.c7⟩⟩
theorem QvAt.below {w w' : World} {b o : Nat} {x : Qv} (h : QvAt w b o x) (hb : Below w.heap.size w w') : QvAt w' b o x :=
  have hlt := lt_of_cell h.c0
  ⟨(hb.cell (p := ⟨b, o, none⟩) hlt).trans h.c0, (hb.cell (p := ⟨b, o + 1, none⟩) hlt).trans h.c1, (hb.cell (p := ⟨b, o + 2, none⟩) hlt).trans h.c2, (hb.cell (p := ⟨b, o + 3, none⟩) hlt).trans h.c3, (hb.cell (p := ⟨b, o + 4, none⟩) hlt).trans h.c4, (hb.cell (p := ⟨b, o + 5, none⟩) hlt).trans h.c5, (hb.cell (p := ⟨b, o + 6, none⟩) hlt).trans h.c6, (hb.cell (p := ⟨b, o + 7, none⟩) hlt).trans h.c7⟩
def rowQv (ss : List Qv) : List Value := ss.flatMap Qv.cells
theorem rowQv_length (vs : List Qv) : (rowQv vs).length = vs.length * 8 := by
  unfold rowQv
  induction vs with
  | nil => rfl
  | cons v r ih => rw [List.flatMap_cons, List.length_append, ih, List.length_cons]; simp [Qv.cells]; omega
theorem rowQv_append (a b : List Qv) : rowQv (a ++ b) = rowQv a ++ rowQv b := by unfold rowQv; rw [List.flatMap_append]
theorem rowQv_one (v : Qv) : rowQv [v] = v.cells := by unfold rowQv; simp
theorem rowQv_get : ∀ (vs : List Qv) (j : Nat) (h : j < vs.length) (i : Nat), i < 8 → (rowQv vs)[j * 8 + i]? = vs[j].cells[i]?
  | [], _, h, _, _ => by simp at h
  | v :: r, 0, _, i, hi => by
    unfold rowQv
    rw [List.flatMap_cons, List.getElem?_append_left (by simp [Qv.cells]; omega)]; simp
  | v :: r, j + 1, h, i, hi => by
    have := rowQv_get r j (by simpa using h) i hi
    unfold rowQv at this ⊢
    rw [List.flatMap_cons, List.getElem?_append_right (by simp [Qv.cells]; omega)]
    rw [show (j + 1) * 8 + i - v.cells.length = j * 8 + i from by simp [Qv.cells]; omega, this]
    simp
theorem rowQv_one' (vs : List Qv) : ∀ u ∈ rowQv vs, u.oneCell' = true := by
  intro u hu
  unfold rowQv at hu
  obtain ⟨v, _, hv⟩ := List.mem_flatMap.1 hu
  simp only [Qv.cells, List.mem_cons, List.not_mem_nil, or_false] at hv
  rcases hv with rfl | rfl | rfl | rfl | rfl | rfl | rfl | rfl <;> rfl
structure RowQ (W : World) (e : TypeId) (base : Nat) (v : Value) (rs : List Rl) : Prop where
  row : ∃ vs : List Qv, vs.map Qv.rl = rs ∧ (∀ y ∈ vs, y.ok W) ∧ W.ownsRow base e 8 v rs.length (rowQv vs)
theorem RowQ.rls {W : World} {e : TypeId} {base : Nat} {v : Value} {rs : List Rl} (h : RowQ W e base v rs) (hl : rs.length ≤ 9223372036854775807) : Rls W v rs := by
  obtain ⟨vs, rfl, hok, hn, h⟩ := h
  rcases h with ⟨rfl, h0⟩ | ⟨g, cap, cur, rfl, _, hg, hcap, hmax, hsz, htake⟩
  · have : vs = [] := by simpa using h0
    subst this
    exact Rls.none_ _ _ _
  · refine ⟨_, cap, rfl, ⟨hl, hcap⟩, .inr ⟨g, 0, rfl, (Array.getElem?_eq_some_iff.1 hg).1, fun j x hj => ?_⟩⟩
    rw [List.getElem?_map] at hj
    have hjv : j < vs.length := by
      rcases Nat.lt_or_ge j vs.length with h | h
      · exact h
      · rw [List.getElem?_eq_none h] at hj; cases hj
    rw [List.getElem?_eq_getElem hjv] at hj
    injection hj with hj
    subst hj
    have cell : ∀ i, i < 8 → W.cell? ⟨g, 0 + j * 8 + i, none⟩ = vs[j].cells[i]? := by
      intro i hi
      rw [cell_of_row W g (0 + j * 8 + i) cur _ (0, 0) hg, ← rowQv_get vs j hjv i hi, ← htake, List.getElem?_take, if_pos (by simp; omega), Nat.zero_add]
      simp
    exact qv_rlAt (hok _ (List.getElem_mem hjv)) ⟨cell 0 (by omega), cell 1 (by omega), cell 2 (by omega), cell 3 (by omega), cell 4 (by omega), cell 5 (by omega), cell 6 (by omega), cell 7 (by omega)⟩
theorem eight_box (w : World) (x : Qv) (t : TypeId) : QvAt (w.alloc (.cells x.cells.toArray t)) w.heap.size 0 x := by
  have h := fun i => World.cell?_alloc_mark w x.cells.toArray t (0, 0) i
  exact ⟨h 0, h 1, h 2, h 3, h 4, h 5, h 6, h 7⟩
end Go.Proofs.YtnbjpgdnfklanaaGreatDoor

namespace Go.Proofs.YtnbjpgdnfklanaaGreatDoor
open Go.RowKit
def addN (acc : List ByteArray) (v : ByteArray) : List ByteArray := if Lib.containsS acc v = false then acc ++ [v] else acc
def canonN (l : List Tm) : List ByteArray := (l.flatMap Tm.vars).foldl addN []
theorem addN_has {acc : List ByteArray} {v : ByteArray} (h : Lib.containsS acc v = true) : addN acc v = acc := by unfold addN; rw [h]; rfl
theorem addN_keeps {acc : List ByteArray} {u : ByteArray} (v : ByteArray) (h : u ∈ acc) : u ∈ addN acc v := by
  unfold addN; split
  · exact List.mem_append_left _ h
  · exact h
theorem addN_new (acc : List ByteArray) (v : ByteArray) : v ∈ addN acc v := by
  unfold addN
  split
  · simp
  · next h => exact (Lib.containsS_iff _ _).1 (by simpa using h)
theorem foldN_keeps : ∀ (l acc : List ByteArray) {u : ByteArray}, u ∈ acc → u ∈ l.foldl addN acc
  | [], _, _, h => h
  | v :: r, acc, _, h => foldN_keeps r (addN acc v) (addN_keeps v h)
theorem foldN_mem : ∀ (l acc : List ByteArray) {u : ByteArray}, u ∈ l → u ∈ l.foldl addN acc
  | v :: r, acc, u, h => by
    rcases List.mem_cons.1 h with rfl | h
    · exact foldN_keeps r _ (addN_new acc u)
    · exact foldN_mem r _ h
theorem varStep_addN (acc : List ByteArray) (t : Tm) : varStep acc t = if (t.kind == 1) = true then addN acc t.name else acc := by
  unfold varStep addN
  by_cases h : (t.kind == 1) = true
  · rw [if_pos h]
    by_cases k : Lib.containsS acc t.name = false
    · rw [if_pos ⟨h, k⟩, if_pos k]
    · rw [if_neg (fun e => k e.2), if_neg k]
  · rw [if_neg h, if_neg (fun e => h e.1)]
theorem fold_varsTo (acc : List ByteArray) (ts : List Tm) : ∀ k, k ≤ ts.length → (varsL (ts.take k)).foldl addN acc = (ts.take k).foldl varStep acc
  | 0, _ => rfl
  | k + 1, hk => by
    have h0 : k < ts.length := by omega
    have ih := fold_varsTo acc ts k (by omega)
    rw [varsL_take h0, List.take_succ_eq_append_getElem h0, List.foldl_append, List.foldl_cons, List.foldl_nil, ← ih]
    rw [varStep_addN, varStep_addN]
    by_cases h : (ts[k].kind == 1) = true
    · rw [if_pos h, if_pos h]
      by_cases q : Lib.containsS (varsL (ts.take k)) ts[k].name = false
      · rw [show addN (varsL (ts.take k)) ts[k].name = varsL (ts.take k) ++ [ts[k].name] from by unfold addN; rw [if_pos q], List.foldl_append]; rfl
      · have hm := (Lib.containsS_iff _ _).1 (show Lib.containsS (varsL (ts.take k)) ts[k].name = true by simpa using q)
        rw [addN_has (by simpa using q), addN_has ((Lib.containsS_iff _ _).2 (foldN_mem _ acc hm))]
    · rw [if_neg h, if_neg h]
theorem fold_vars (acc : List ByteArray) (ts : List Tm) : (varsL ts).foldl addN acc = ts.foldl varStep acc := by
  have h := fold_varsTo acc ts ts.length (Nat.le_refl _)
  rwa [List.take_length] at h
theorem fold_all (acc : List ByteArray) : ∀ (l : List Tm), (l.flatMap Tm.vars).foldl addN acc = (l.flatMap Tm.all).foldl varStep acc
  | [] => rfl
  | t :: r => by
    rw [List.flatMap_cons, List.flatMap_cons, List.foldl_append, List.foldl_append]
    show (r.flatMap Tm.vars).foldl addN ((varsL t.all).foldl addN acc) = _
    rw [fold_vars acc t.all]
    exact fold_all _ r
theorem allL_flat : ∀ l : List Tm, allL l = l.flatMap Tm.all
  | [] => by rw [allL]; rfl
  | t :: r => by rw [allL, allL_flat r, List.flatMap_cons]
theorem canonN_is (s : ByteArray) (n : Int) (l : List Tm) : canonN l = (Tm.mk 5 s n l).vars := by
  unfold canonN
  rw [fold_all]
  unfold Tm.vars varsL
  have h : (Tm.mk 5 s n l).all = Tm.mk 5 s n l :: l.flatMap Tm.all := by
    rw [all_eq, allL_flat]; rfl
  rw [h, List.foldl_cons, varStep_addN]
  rfl
end Go.Proofs.YtnbjpgdnfklanaaGreatDoor

namespace Go.Proofs.YtnbjpgdnfklanaaGreatDoor
open Go.RowKit
def cls (b : Int) : Int :=
  if 97 ≤ b ∧ b ≤ 122 then 1 else if 65 ≤ b ∧ b ≤ 90 then 2 else if 48 ≤ b ∧ b ≤ 57 then 3
  else if b = 40 ∨ b = 41 ∨ b = 44 ∨ b = 47 ∨ b = 61 ∨ b = 46 ∨ b = 59 ∨ b = 58 ∨ b = 36 ∨ b = 37 then 4
  else if b = 32 ∨ b = 10 ∨ b = 13 ∨ b = 9 then 5 else 0
def part (b : Int) : Bool := decide (1 ≤ cls b ∧ cls b ≤ 3 ∨ b = 95)
theorem cls_bd (b : Int) : 0 ≤ cls b ∧ cls b ≤ 5 := by
  unfold cls; repeat' split
  all_goals omega
end Go.Proofs.YtnbjpgdnfklanaaGreatDoor

namespace Go.Proofs.YtnbjpgdnfklanaaGreatDoor
open Go.RowKit
def pc (c : UInt8) : Bool := part (c.toNat : Int)
def run (s : ByteArray) (i : Nat) : Nat := ((s.data.toList.drop i).takeWhile pc).length
end Go.Proofs.YtnbjpgdnfklanaaGreatDoor
