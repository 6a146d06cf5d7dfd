/-
  The program's grammar, an item: how it starts, what each letter of its shape asks, how it ends; what a call of item leaves.
  The program's grammar, an item that begins with 'fun'.
  The program's grammar, an item that begins with 'name'.
  The program's grammar, an item that begins with 'use'.
  The program's grammar, an item that begins with 'rule'.
-/
import Derived.Test.YtldgbdmiebipnaaGreatDoorZ16
namespace Go.Proofs.YtldgbdmiebipnaaGreatDoor
open Go.RowKit

section
variable {L : List Tok} {r : List UInt8} {it : It} {j : Nat}
theorem goP_of (c : UInt8) : goP L (c :: r) it j = if (oneP it L j c).2.2 = false then (it, (oneP it L j c).2.1, false) else goP L r (oneP it L j c).1 (oneP it L j c).2.1 := by rw [goP]
theorem goP_w_ok (h : wordK (tkD L j) = true) : goP L (119 :: r) it j = goP L r { it with words := it.words ++ [.mk 5 (tkD L j).text 0 (tkD L j).place []] } (j + 1) := by
  have e : oneP it L j 119 = ({ it with words := it.words ++ [.mk 5 (tkD L j).text 0 (tkD L j).place []] }, j + 1, true) := by unfold oneP; rw [if_pos rfl, if_pos h]
  rw [goP_of, e, if_neg (fun q => Bool.noConfusion q)]
theorem goP_w_bad (h : wordK (tkD L j) = false) : goP L (119 :: r) it j = (it, j, false) := by
  have e : oneP it L j 119 = (it, j, false) := by unfold oneP; rw [if_pos rfl, if_neg (by rw [h]; decide)]
  rw [goP_of, e, if_pos rfl]
theorem goP_n_ok (h : ((tkD L j).kind == 3) = true) : goP L (110 :: r) it j = goP L r { it with words := it.words ++ [.mk 0 (tkD L j).text (tkD L j).n (tkD L j).place []] } (j + 1) := by
  have e : oneP it L j 110 = ({ it with words := it.words ++ [.mk 0 (tkD L j).text (tkD L j).n (tkD L j).place []] }, j + 1, true) := by unfold oneP; rw [if_neg (by decide), if_pos rfl, if_pos (by simpa using h)]
  rw [goP_of, e, if_neg (fun q => Bool.noConfusion q)]
theorem goP_n_bad (h : ((tkD L j).kind == 3) = false) : goP L (110 :: r) it j = (it, j, false) := by
  have e : oneP it L j 110 = (it, j, false) := by unfold oneP; rw [if_neg (by decide), if_pos rfl, if_neg (by simpa using h)]
  rw [goP_of, e, if_pos rfl]
theorem goP_t_ok (h : (termP L j 0).2.2 = true) : goP L (116 :: r) it j = goP L r { it with trees := it.trees ++ [(termP L j 0).1] } (termP L j 0).2.1 := by
  have e : oneP it L j 116 = ({ it with trees := it.trees ++ [(termP L j 0).1] }, (termP L j 0).2.1, true) := by unfold oneP; rw [if_neg (by decide), if_neg (by decide), if_pos rfl, if_pos h]
  rw [goP_of, e, if_neg (fun q => Bool.noConfusion q)]
theorem goP_t_bad (h : (termP L j 0).2.2 = false) : goP L (116 :: r) it j = (it, (termP L j 0).2.1, false) := by
  have e : oneP it L j 116 = (it, (termP L j 0).2.1, false) := by unfold oneP; rw [if_neg (by decide), if_neg (by decide), if_pos rfl, if_neg (by rw [h]; decide)]
  rw [goP_of, e, if_pos rfl]
theorem goP_l_none (h : isS (tkD L j) sDot = true) : goP L (108 :: r) it j = goP L r it j := by
  have e : oneP it L j 108 = (it, j, true) := by unfold oneP; rw [if_neg (by decide), if_neg (by decide), if_neg (by decide), if_pos rfl, if_pos h]
  rw [goP_of, e, if_neg (fun q => Bool.noConfusion q)]
theorem goP_l_ok (h : isS (tkD L j) sDot = false) (h2 : (termsP L j sSemi 0).2.2 = true) : goP L (108 :: r) it j = goP L r { it with trees := it.trees ++ (termsP L j sSemi 0).1 } (termsP L j sSemi 0).2.1 := by
  have e : oneP it L j 108 = ({ it with trees := it.trees ++ (termsP L j sSemi 0).1 }, (termsP L j sSemi 0).2.1, (termsP L j sSemi 0).2.2) := by unfold oneP; rw [if_neg (by decide), if_neg (by decide), if_neg (by decide), if_pos rfl, if_neg (by rw [h]; decide)]
  rw [goP_of, e, if_neg (by rw [h2]; decide)]
theorem goP_l_bad (h : isS (tkD L j) sDot = false) (h2 : (termsP L j sSemi 0).2.2 = false) : goP L (108 :: r) it j = (it, (termsP L j sSemi 0).2.1, false) := by
  have e : oneP it L j 108 = ({ it with trees := it.trees ++ (termsP L j sSemi 0).1 }, (termsP L j sSemi 0).2.1, (termsP L j sSemi 0).2.2) := by unfold oneP; rw [if_neg (by decide), if_neg (by decide), if_neg (by decide), if_pos rfl, if_neg (by rw [h]; decide)]
  rw [goP_of, e, if_pos h2]
theorem goP_s_ok {c : UInt8} (hc : c ≠ 119 ∧ c ≠ 110 ∧ c ≠ 116 ∧ c ≠ 108) (h : isS (tkD L j) ⟨#[c]⟩ = true) : goP L (c :: r) it j = goP L r it (j + 1) := by
  have e : oneP it L j c = (it, j + 1, true) := by unfold oneP; rw [if_neg hc.1, if_neg hc.2.1, if_neg hc.2.2.1, if_neg hc.2.2.2, if_pos h]
  rw [goP_of, e, if_neg (fun q => Bool.noConfusion q)]
theorem goP_s_bad {c : UInt8} (hc : c ≠ 119 ∧ c ≠ 110 ∧ c ≠ 116 ∧ c ≠ 108) (h : isS (tkD L j) ⟨#[c]⟩ = false) : goP L (c :: r) it j = (it, j, false) := by
  have e : oneP it L j c = (it, j, false) := by unfold oneP; rw [if_neg hc.1, if_neg hc.2.1, if_neg hc.2.2.1, if_neg hc.2.2.2, if_neg (by rw [h]; decide)]
  rw [goP_of, e, if_pos rfl]
theorem goP_end : goP L [] it j = (it, j, true) := by rw [goP]
end

theorem sg_59 : (⟨#[59]⟩ : ByteArray) ∈ signL := by unfold signL sSemi; simp
theorem sg_46 : (⟨#[46]⟩ : ByteArray) ∈ signL := by unfold signL sDot; simp
theorem sg_47 : (⟨#[47]⟩ : ByteArray) ∈ signL := by unfold signL; simp
theorem sg_58 : (⟨#[58]⟩ : ByteArray) ∈ signL := by unfold signL; simp
theorem sg_61 : (⟨#[61]⟩ : ByteArray) ∈ signL := by unfold signL; simp
/-- What an item that begins at a token is read as. -/
def itemR (L : List Tok) (i : Nat) : It × Nat × Bool := goP L (shapesOf (tkD L i).text) ⟨(tkD L i).text, (tkD L i).place, [], []⟩ (i + 1)
/-- What a call of item leaves. -/
def ItemPost (g b o c : Nat) (L : List Tok) (i : Nat) (w : World) (e : Ending) (w' : World) : Prop :=
  (Lib.containsS keyList (tkD L i).text = true ∧ (itemR L i).2.2 = true ∧ ∃ vw vt, e = .returned (.agg #[.string (tkD L i).text, .int .i64 (tkD L i).place, vw, vt]) ∧ RowsI w' (fun _ => False) 39 w.heap.size vw (itemR L i).1.words vt (itemR L i).1.trees ∧ Rdr w' g b o c L (itemR L i).2.1 0 ∧ w.grownBy w' (some g)) ∨
  (Lib.containsS keyList (tkD L i).text = true ∧ (itemR L i).2.2 = false ∧ e = diesAt L (itemR L i).2.1 ∧ w.grownBy w' (some g)) ∨
  (Lib.containsS keyList (tkD L i).text = false ∧ e = diesAt L i ∧ w.grownBy w' (some g))

section
variable {W w1 : World} {g b o c : Nat} {L : List Tok} {i : Nat}
theorem ItSt.start (hres : Box w1 W.heap.size (.string ⟨#[]⟩) (.int .i64 0) (.slice none 0 0) (.slice none 0 0)) (hW : W.grownBy w1 (some g)) (hg : g < W.heap.size) (hr : Rdr w1 g b o c L i 0) (hi1 : i + 1 < L.length) (key : ByteArray) (spot : Int) {v : Value} (hv : v = .slice (some ⟨b, o + (i + 1) * 4, none⟩) (L.length - (i + 1)) (c - (i + 1))) :
    ItSt W g b o c L w1.heap.size ⟨key, spot, [], []⟩ (i + 1) (.slice none 0 0) (.slice none 0 0) ((w1.setCell ⟨g, 0, none⟩ v).alloc (.cells #[.string key, .int .i64 spot, .slice none 0 0, .slice none 0 0] 63)) := by
  have hz : (w1.setCell ⟨g, 0, none⟩ v).heap.size = w1.heap.size := by simp
  have hl := lt_of_cellR hres.c0
  have hB : Below (w1.setCell ⟨g, 0, none⟩ v).heap.size (w1.setCell ⟨g, 0, none⟩ v) ((w1.setCell ⟨g, 0, none⟩ v).alloc (.cells #[.string key, .int .i64 spot, .slice none 0 0, .slice none 0 0] 63)) := (Below.refl _ _).alloc (Nat.le_refl _) _
  refine ⟨(hr.left hi1 hv).below hB, only_next (only_set hW 0 v) hB, hg, ?_, ?_, hl, rowsI_nil _ _ _ _⟩
  · exact (hres.stays (Below.heap_setCell _ _ _ _ (by show W.heap.size ≠ g; omega))).below hB (by rw [hz]; exact hl)
  · have := box_new (w1.setCell ⟨g, 0, none⟩ v) (.string key) (.int .i64 spot) (.slice none 0 0) (.slice none 0 0) 63
    rw [hz] at this
    exact this
end
section
variable {W0 W : World} {g b o c : Nat} {L : List Tok} {x : Nat} {it : It} {j : Nat} {vw vt : Value}
theorem ItSt.drew (h : ItSt W0 g b o c L x it j vw vt W) : ItSt W0 g b o c L x it j vw vt W.drew :=
  ⟨h.rdr.keep fun _ _ => rfl, ⟨h.only.os, h.only.tape, h.only.output, h.only.size, h.only.block⟩, h.glt, h.res.stays rfl, h.arg.stays rfl, h.lt, h.rows.below (Below.refl _ _).drew⟩
/-- The rows' data, for one more. -/
theorem ItSt.words (h : ItSt W0 g b o c L x it j vw vt W) : ∃ us : List Rv, us.map Rv.t = it.words ∧ (∀ z ∈ us, LiveA W (rowsZ (fun k => k = x ∨ k = W0.heap.size) vw vt) W0.heap.size z) ∧ W.ownsRow W0.heap.size 39 5 vw it.words.length (rowRv us) ∧ vw.ownBlock ≠ some x :=
  let ⟨us, h1, h2, h3⟩ := h.rows.wds
  ⟨us, h1, h2, h3, fun e => h.rows.out x (.inl e) (.inl rfl)⟩
theorem ItSt.trees (h : ItSt W0 g b o c L x it j vw vt W) : ∃ us : List Rv, us.map Rv.t = it.trees ∧ (∀ z ∈ us, LiveA W (rowsZ (fun k => k = x ∨ k = W0.heap.size) vw vt) W0.heap.size z) ∧ W.ownsRow W0.heap.size 39 5 vt it.trees.length (rowRv us) ∧ vt.ownBlock ≠ some x :=
  let ⟨us, h1, h2, h3⟩ := h.rows.trs
  ⟨us, h1, h2, h3, fun e => h.rows.out x (.inr e) (.inl rfl)⟩
/-- A row of terms that a call has made, where there was none. -/
theorem ItSt.setT (h : ItSt W0 g b o c L x it j vw vt W) (ht : it.trees = []) {j' : Nat} {w : World} {v : Value} {ts : List Tr} (hrow : RowR w 39 W.heap.size v ts) (ho : W.grownBy w (some g)) (hr : Rdr w g b o c L j' 0) :
    ItSt W0 g b o c L x { it with trees := it.trees ++ ts } j' vw v (w.setCell ⟨x, 3, none⟩ v) := by
  have st2 := h.call hr ho
  have kx := lt_of_cellR h.arg.c0
  have kr := lt_of_cellR h.res.c0
  have kg := h.glt
  have kl := h.lt
  have hs0 := h.only.size
  have hlt := h.rows.lt
  have hset : ∀ k, k ≠ x → (w.setCell ⟨x, 3, none⟩ v).heap[k]? = w.heap[k]? := fun k hk => Below.heap_setCell _ _ _ _ hk
  obtain ⟨us, u1, u2, u3⟩ := hrow
  have hge := own_row_ge u3
  obtain ⟨vs, h1, h2, h3⟩ := h.rows.wds
  have hout := h.rows.out
  have hP : ∀ k, rowsZ (fun k => k = x ∨ k = W0.heap.size) vw v k → rowsZ (fun k => k = x ∨ k = W0.heap.size) vw vt k ∨ W.heap.size ≤ k := fun k e => by
    rcases e with (e | e) | e
    · exact .inl (.inl (.inl e))
    · exact .inr (hge k e)
    · exact .inl (.inr e)
  have hrows : RowsI w (fun k => k = x ∨ k = W0.heap.size) 39 W0.heap.size vw it.words v ts := by
    refine ⟨⟨vs, h1, fun z hz => ?_, own_at h3 fun q e => ?_⟩, ⟨us, u1, fun z hz => ?_, ?_⟩, fun k e1 e2 => ?_, fun k e z => ?_⟩
    · obtain ⟨lo, hi, q1, q2, q3, q4, q5⟩ := h2 z hz
      refine ⟨lo, hi, q1, q2, Nat.le_trans q3 ho.size, fun k e => ?_, fun W2 g1 g2 => q5 W2 g1 fun k k1 k2 => ?_⟩
      · rcases hP k e with e | e
        · exact q4 k e
        · exact .inr (Nat.le_trans q3 e)
      · rw [g2 k k1 k2]
        exact ho.block k (by omega) (fun e => by injection e with e; omega)
    · have := hlt q (.inl e)
      exact ho.block q this.2 (fun e => by injection e with e; omega)
    · obtain ⟨lo, hi, q1, q2, q3, q4, q5⟩ := u2 z hz
      refine ⟨lo, hi, by omega, q2, q3, fun k e => ?_, q5⟩
      rcases e with (e | e) | (rfl | rfl)
      · have := hlt k (.inl e); left; omega
      · exact q4 k e
      · left; omega
      · left; omega
    · obtain ⟨hn, hq⟩ := u3
      refine ⟨hn, ?_⟩
      rcases hq with hq | ⟨q, cap, cur, r1, r2, r3⟩
      · exact .inl hq
      · exact .inr ⟨q, cap, cur, r1, by omega, r3⟩
    · have := hlt k (.inl e1); have := hge k e2; omega
    · rcases e with e | e
      · exact hout k (.inl e) z
      · have := hge k e; rcases z with rfl | rfl <;> omega
  refine ⟨st2.rdr.stay (hset g (by omega)) (hset b (by have := h.rdr.lt; omega)), only_put st2.only (p := ⟨x, 3, none⟩) (by show W0.heap.size ≤ x; omega) v, kg, st2.res.stays (hset _ (by omega)), st2.arg.put3 v, kl, ?_⟩
  have e : it.trees ++ ts = ts := by rw [ht, List.nil_append]
  show RowsI _ _ _ _ vw it.words v (it.trees ++ ts)
  rw [e]
  exact hrows.aside (by simp) (fun k hk => hset k (fun e => hk (.inl e)))
/-- The blocks that live terms keep off are there. -/
theorem ItSt.there (h : ItSt W0 g b o c L x it j vw vt W) : ∀ k, rowsZ (fun k => k = x ∨ k = W0.heap.size) vw vt k → k < W.heap.size := fun k hk => by
  rcases hk with hk | rfl | rfl
  · exact (h.rows.lt k hk).2
  · exact lt_of_cellR h.arg.c0
  · exact lt_of_cellR h.res.c0
/-- What is answered. -/
theorem ItSt.done (h : ItSt W0 g b o c L x it j vw vt W) (y0 y1 y2 y3 : Value) :
    RowsI ((((W.setCell ⟨W0.heap.size, 0, none⟩ y0).setCell ⟨W0.heap.size, 1, none⟩ y1).setCell ⟨W0.heap.size, 2, none⟩ y2).setCell ⟨W0.heap.size, 3, none⟩ y3) (fun _ => False) 39 W0.heap.size vw it.words vt it.trees ∧
    Rdr ((((W.setCell ⟨W0.heap.size, 0, none⟩ y0).setCell ⟨W0.heap.size, 1, none⟩ y1).setCell ⟨W0.heap.size, 2, none⟩ y2).setCell ⟨W0.heap.size, 3, none⟩ y3) g b o c L j 0 ∧
    W0.grownBy ((((W.setCell ⟨W0.heap.size, 0, none⟩ y0).setCell ⟨W0.heap.size, 1, none⟩ y1).setCell ⟨W0.heap.size, 2, none⟩ y2).setCell ⟨W0.heap.size, 3, none⟩ y3) (some g) := by
  have hk : ∀ k, k ≠ W0.heap.size → ((((W.setCell ⟨W0.heap.size, 0, none⟩ y0).setCell ⟨W0.heap.size, 1, none⟩ y1).setCell ⟨W0.heap.size, 2, none⟩ y2).setCell ⟨W0.heap.size, 3, none⟩ y3).heap[k]? = W.heap[k]? := fun k e => by
    rw [Below.heap_setCell _ _ _ _ e, Below.heap_setCell _ _ _ _ e, Below.heap_setCell _ _ _ _ e, Below.heap_setCell _ _ _ _ e]
  have hg := h.glt
  refine ⟨?_, h.rdr.stay (hk g (by omega)) (hk b (by have := h.rdr.lt; omega)), only_put (only_put (only_put (only_put h.only (p := ⟨W0.heap.size, 0, none⟩) (Nat.le_refl _) _) (p := ⟨W0.heap.size, 1, none⟩) (Nat.le_refl _) _) (p := ⟨W0.heap.size, 2, none⟩) (Nat.le_refl _) _) (p := ⟨W0.heap.size, 3, none⟩) (Nat.le_refl _) _⟩
  exact (h.rows.aside (by simp) (fun k e => hk k (fun q => e (.inr q)))).beside (fun k e => e.elim)
end
end Go.Proofs.YtldgbdmiebipnaaGreatDoor

namespace Go.Proofs.YtldgbdmiebipnaaGreatDoor
open Go.RowKit

section
variable {g b o c : Nat} {L : List Tok}
set_option maxRecDepth 100000 in
set_option maxHeartbeats 4000000 in
theorem item_fun (hF : Fine L) (i : Nat) (W : World) (h : Rdr W g b o c L i 0) (ht0 : (tkD L i).text = ⟨#[102, 117, 110]⟩) :
    Calls Tryz.prog 29 #[.pointer (some ⟨g, 0, none⟩)] W (ItemPost g b o c L i W) := by
  have hkey : Lib.containsS keyList (tkD L i).text = true := by rw [ht0]; decide +kernel
  have hk1 := hF.key i hkey
  have hi1 : i + 1 < L.length := hF.ended i (by rw [hk1]; decide)
  have HG := Lib.hid (show itemR L i = goP L [119, 47, 110, 46] ⟨(tkD L i).text, (tkD L i).place, [], []⟩ (i + 1) by unfold itemR; rw [show shapesOf (tkD L i).text = [119, 47, 110, 46] by rw [ht0]; decide +kernel])
  have q_fun : ((tkD L i).text.toList == [102, 117, 110]) = true := by rw [ht0]; decide +kernel
  have FAILS := Lib.hid (fun (it : It) (q : Nat) (e : Ending) (w' : World) (hr : itemR L i = (it, q, false)) (he : e = diesAt L q) (ho : W.grownBy w' (some g)) => (show ItemPost g b o c L i W e w' from .inr (.inl ⟨hkey, by rw [hr], by rw [hr]; exact he, ho⟩)))
  have DONE := Lib.hid (fun (it : It) (q : Nat) (vw vt : Value) (w' : World) (hr : itemR L i = (it, q, true)) (h1 : RowsI w' (fun _ => False) 39 W.heap.size vw it.words vt it.trees) (h2 : Rdr w' g b o c L q 0) (h3 : W.grownBy w' (some g)) =>
    (show ItemPost g b o c L i W (.returned (.agg #[.string (tkD L i).text, .int .i64 (tkD L i).place, vw, vt])) w' from .inl ⟨hkey, by rw [hr], vw, vt, rfl, by rw [hr]; exact h1, by rw [hr]; exact h2, h3⟩))
  have h0 := h.c0
  have hf := h.f0
  have hi := h.here
  have hg := h.glt
  have hlt := h.lt
  have hcap := h.cap
  have hbw : b < W.heap.size := by omega
  have hbw1 : b < W.heap.size + 1 := by omega
  have hbw2 : b < W.heap.size + 1 + 1 := by omega
  have hg1 : g < W.heap.size + 1 := by omega
  obtain ⟨t0, t1, t2, t3⟩ := h.toks i hi
  have K := key_any (tkD L i).text
  rw [hkey] at K
  obtain ⟨t, ht⟩ : ∃ t, tkD L i = t := ⟨_, rfl⟩
  have hti : L[i] = t := by rw [← ht, tkD_at hi]
  rw [ht] at q_fun hk1 HG DONE K
  rw [hti] at t0 t1 t2 t3
  clear ht hti ht0 hkey
  obtain ⟨tk, tx, tn, tp⟩ := t
  simp only at t0 t1 t2 t3 q_fun hk1 HG DONE K
  subst hk1
  replace K := Lib.hid K
  obtain ⟨n, hn⟩ : ∃ n, L.length - i = n + 1 + 1 := ⟨L.length - i - 2, by omega⟩
  obtain ⟨k, hk⟩ : ∃ k, c - i = k + 1 + 1 := ⟨c - i - 2, by omega⟩
  obtain ⟨a, ha⟩ : ∃ a, o + i * 4 = a := ⟨_, rfl⟩
  have hn0 : (0 : Int) < ((n + 1 + 1 : Nat) : Int) := by omega
  have hn1 : (1 : Int) < ((n + 1 + 1 : Nat) : Int) := by omega
  have hnk : n ≤ k := by omega
  rw [hn, hk, ha] at h0
  rw [ha] at t0 t1 t2 t3
  have HV := Lib.hid (show Value.slice (some ⟨b, a + 4, none⟩) (n + 1) (k + 1) = .slice (some ⟨b, o + (i + 1) * 4, none⟩) (L.length - (i + 1)) (c - (i + 1)) by
    rw [show o + (i + 1) * 4 = a + 4 from by omega, show L.length - (i + 1) = n + 1 from by omega, show c - (i + 1) = k + 1 from by omega])
  have hB0 : Below W.heap.size W ((W.alloc (.cells #[.string ⟨#[]⟩, .int .i64 0, .slice none 0 0, .slice none 0 0] 63)).alloc (.cells #[.int .i64 1, .string tx, .int .i64 tn, .int .i64 tp] 50)) := ((Below.refl _ _).alloc (Nat.le_refl _) _).alloc (by simp) _
  have hr0 := h.below hB0
  have hzz : ((W.alloc (.cells #[.string ⟨#[]⟩, .int .i64 0, .slice none 0 0, .slice none 0 0] 63)).alloc (.cells #[.int .i64 1, .string tx, .int .i64 tn, .int .i64 tp] 50)).heap.size = W.heap.size + 2 := by simp
  have bR0 := (box_new W (.string ⟨#[]⟩) (.int .i64 0) (.slice none 0 0) (.slice none 0 0) 63).below ((Below.refl _ _).alloc (Nat.le_refl _) (.cells #[.int .i64 1, .string tx, .int .i64 tn, .int .i64 tp] 50)) (by simp)
  have bT0 := box_new (W.alloc (.cells #[.string ⟨#[]⟩, .int .i64 0, .slice none 0 0, .slice none 0 0] 63)) (.int .i64 1) (.string tx) (.int .i64 tn) (.int .i64 tp) 50
  rw [show (W.alloc (.cells #[.string ⟨#[]⟩, .int .i64 0, .slice none 0 0, .slice none 0 0] 63)).heap.size = W.heap.size + 1 from by simp] at bT0
  go_enter Tryz.func29, Tryz.ntmps29
  go_wp2_with fail
  refine (K.out _).mono ?_; rintro e w1 ⟨rfl, hb1⟩
  have hr1 := hr0.below hb1
  have d0 := hr1.c0
  have e0 := hr1.f0
  obtain ⟨x0, x1, x2, x3, _, _, _, _⟩ := bT0.below hb1 (by omega)
  have bR := bR0.below hb1 (by omega)
  rw [hn, hk, ha] at d0
  have hs1 := hb1.size
  rw [hzz] at hs1
  have hg2 : g < w1.heap.size := by omega
  have hg3 : W.heap.size + 1 ≠ g := by omega
  have hg4 : W.heap.size + 1 < w1.heap.size := by omega
  have ST := Lib.hid (ItSt.start bR (only_below (below_next hB0 hb1) (some g)) hg hr1 hi1 tx tp HV.out)
  clear hb1 hr1 hB0 hr0 bR0 bT0 bR hzz h HV
  go_wp2_with fail
  obtain ⟨x, hx⟩ : ∃ x, w1.heap.size = x := ⟨_, rfl⟩
  rw [hx] at ST
  (try rw [hx])
  obtain ⟨V, hV⟩ : ∃ V, (w1.setCell ⟨g, 0, none⟩ (.slice (some ⟨b, a + 4, none⟩) (n + 1) (k + 1))).alloc (.cells #[.string tx, .int .i64 tp, .slice none 0 0, .slice none 0 0] 63) = V := ⟨_, rfl⟩
  rw [hV] at ST ⊢
  clear hV x0 x1 x2 x3 hs1 hg2 hg3 hg4 hx d0 e0 t0 t1 t2 t3 h0 hf hn hk ha K
  refine app_region (by kernel_rfl) x ⟨x, 2, none⟩ (.pointer (some ⟨g, 0, none⟩)) (.slice none 0 0) 134 rfl (by decide) (by decide) rfl rfl (item_field2 x) (fun _ _ q => trees_load _ _ _ q) (fn_word _) ST.out.drew.arg.c2 (fun _ _ _ _ _ q => q) ?_
  refine (word_at _ ST.out.drew.rdr hF.ended hF.len).mono ?_
  rintro e w2 (⟨hok, rfl, hr2, ho2⟩ | ⟨hok, hd, ho2⟩)
  case inr =>
    have HB := Lib.hid (FAILS.out _ _ e w2 (HG.out.trans (goP_w_bad hok)) hd (only_trans ST.out.drew.only ho2))
    unfold diesAt at hd
    subst hd
    exact And.intro rfl HB.out
  have st2 := ST.out.drew.call hr2 ho2
  obtain ⟨us, h1, h2, h3, h4⟩ := st2.words
  have hok1 := hF.ok (i + 1)
  have hn2 := hF.word0 _ hok
  have hfit : FitR 5 (tkD L (i + 1)).text (tkD L (i + 1)).n (tkD L (i + 1)).place := ⟨by decide, by decide, hok1.nlo, hok1.nhi, hok1.plo, hok1.phi, hok1.len⟩
  refine tree_after (y := ⟨.mk 5 (tkD L (i + 1)).text (tkD L (i + 1)).n (tkD L (i + 1)).place [], none, 0⟩) h3 st2.only.size st2.arg.c2 st2.arg.f2 h4 (by simp) ?_
  intro v1 w3 g1 g2 g3
  have st3 := st2.pushW h1 h2 (live_plain hfit w2 _ st2.only.size) g1 g2 g3
  obtain ⟨a1, c1, hv1⟩ : ∃ a c, v1 = .slice a 1 c := own_slice g1
  subst hv1
  replace HG := Lib.hid (HG.out.trans (goP_w_ok hok))
  obtain ⟨V1, hV⟩ : ∃ V', w3.setCell ⟨x, 2, none⟩ (.slice a1 1 c1) = V' := ⟨_, rfl⟩
  rw [hV] at st3 ⊢
  simp only [hn2] at st3
  replace ST := Lib.hid st3
  clear hr2 ho2 st2 h1 h2 h3 h4 hok1 hfit g1 g2 g3 hV st3 hn2
  simp only [Act.put, List.setIfInBounds_toArray, List.set_cons_zero, List.set_cons_succ]
  go_wp2_with fail
  refine (pass_any ⟨#[47]⟩ _ ST.out.rdr hF.ended (hF.sign _ sg_47 _ ST.out.rdr.here)).mono ?_
  rintro e w2 (⟨hok, rfl, hr2, ho2⟩ | ⟨hok, hd, ho2⟩)
  case inr =>
    have HB := Lib.hid (FAILS.out _ _ e w2 (HG.out.trans (goP_s_bad (by decide) hok)) hd (only_trans ST.out.only ho2))
    unfold diesAt at hd
    subst hd
    clear hok ho2
    go_wp2_with fail
    exact ⟨rfl, HB.out⟩
  have st2 := ST.out.call hr2 ho2
  replace HG := Lib.hid (HG.out.trans (goP_s_ok (by decide) hok))
  replace ST := Lib.hid st2
  clear hr2 ho2 st2 hok
  go_wp2_with fail
  refine app_region (by kernel_rfl) x ⟨x, 2, none⟩ (.pointer (some ⟨g, 0, none⟩)) (.slice a1 1 c1) 134 rfl (by decide) (by decide) rfl rfl (item_field2 x) (fun _ _ q => trees_load _ _ _ q) (fn_number _) ST.out.drew.arg.c2 (fun _ _ _ _ _ q => q) ?_
  refine (number_at _ ST.out.drew.rdr hF.ended hF.len).mono ?_
  rintro e w2 (⟨hok, rfl, hr2, ho2⟩ | ⟨hok, hd, ho2⟩)
  case inr =>
    have HB := Lib.hid (FAILS.out _ _ e w2 (HG.out.trans (goP_n_bad hok)) hd (only_trans ST.out.drew.only ho2))
    unfold diesAt at hd
    subst hd
    exact And.intro rfl HB.out
  have st2 := ST.out.drew.call hr2 ho2
  obtain ⟨us, h1, h2, h3, h4⟩ := st2.words
  have hok1 := hF.ok (i + 1 + 1 + 1)
  have hfit : FitR 0 (tkD L (i + 1 + 1 + 1)).text (tkD L (i + 1 + 1 + 1)).n (tkD L (i + 1 + 1 + 1)).place := ⟨by decide, by decide, hok1.nlo, hok1.nhi, hok1.plo, hok1.phi, hok1.len⟩
  refine tree_after (y := ⟨.mk 0 (tkD L (i + 1 + 1 + 1)).text (tkD L (i + 1 + 1 + 1)).n (tkD L (i + 1 + 1 + 1)).place [], none, 0⟩) h3 st2.only.size st2.arg.c2 st2.arg.f2 h4 (by simp) ?_
  intro v1 w3 g1 g2 g3
  have st3 := st2.pushW h1 h2 (live_plain hfit w2 _ st2.only.size) g1 g2 g3
  obtain ⟨a2, c2, hv1⟩ : ∃ a c, v1 = .slice a 2 c := own_slice g1
  subst hv1
  replace HG := Lib.hid (HG.out.trans (goP_n_ok hok))
  obtain ⟨V2, hV⟩ : ∃ V', w3.setCell ⟨x, 2, none⟩ (.slice a2 2 c2) = V' := ⟨_, rfl⟩
  rw [hV] at st3 ⊢
  replace ST := Lib.hid st3
  clear hr2 ho2 st2 h1 h2 h3 h4 hok1 hfit g1 g2 g3 hV st3
  simp only [Act.put, List.setIfInBounds_toArray, List.set_cons_zero, List.set_cons_succ]
  go_wp2_with fail
  refine (pass_any ⟨#[46]⟩ _ ST.out.rdr hF.ended (hF.sign _ sg_46 _ ST.out.rdr.here)).mono ?_
  rintro e w2 (⟨hok, rfl, hr2, ho2⟩ | ⟨hok, hd, ho2⟩)
  case inr =>
    have HB := Lib.hid (FAILS.out _ _ e w2 (HG.out.trans (goP_s_bad (by decide) hok)) hd (only_trans ST.out.only ho2))
    unfold diesAt at hd
    subst hd
    clear hok ho2
    go_wp2_with fail
    exact ⟨rfl, HB.out⟩
  have st2 := ST.out.call hr2 ho2
  replace HG := Lib.hid (HG.out.trans (goP_s_ok (by decide) hok))
  replace ST := Lib.hid st2
  clear hr2 ho2 st2 hok
  have HF := Lib.hid (HG.out.trans goP_end)
  obtain ⟨k0, k1, k2, k3, _, _, _, _⟩ := ST.out.arg
  obtain ⟨r0, r1, r2, r3, rf0, rf1, rf2, rf3⟩ := ST.out.res
  have HE := Lib.hid (ST.out.done (.string tx) (.int .i64 tp) (.slice a2 2 c2) (.slice none 0 0))
  have HX := Lib.hid (ST.out.res.fill (.string tx) (.int .i64 tp) (.slice a2 2 c2) (.slice none 0 0))
  simp only at k0 k1
  go_wp2_with fail
  obtain ⟨r0, r1, r2, r3, _, _, _, _⟩ := HX.out
  refine bodyPost_ret (v := .agg #[.string tx, .int .i64 tp, .slice a2 2 c2, .slice none 0 0]) (by simp [results, Tryz.results29, go_sem, r0, r1, r2, r3]) rfl ?_
  obtain ⟨f1, f2, f3⟩ := HE.out
  exact DONE.out _ _ _ _ _ HF.out f1 f2 f3
end
end Go.Proofs.YtldgbdmiebipnaaGreatDoor

namespace Go.Proofs.YtldgbdmiebipnaaGreatDoor
open Go.RowKit

section
variable {g b o c : Nat} {L : List Tok}
set_option maxRecDepth 100000 in
set_option maxHeartbeats 4000000 in
theorem item_name (hF : Fine L) (i : Nat) (W : World) (h : Rdr W g b o c L i 0) (ht0 : (tkD L i).text = ⟨#[110, 97, 109, 101]⟩) :
    Calls Tryz.prog 29 #[.pointer (some ⟨g, 0, none⟩)] W (ItemPost g b o c L i W) := by
  have hkey : Lib.containsS keyList (tkD L i).text = true := by rw [ht0]; decide +kernel
  have hk1 := hF.key i hkey
  have hi1 : i + 1 < L.length := hF.ended i (by rw [hk1]; decide)
  have HG := Lib.hid (show itemR L i = goP L [119, 46] ⟨(tkD L i).text, (tkD L i).place, [], []⟩ (i + 1) by unfold itemR; rw [show shapesOf (tkD L i).text = [119, 46] by rw [ht0]; decide +kernel])
  have q_fun : ((tkD L i).text.toList == [102, 117, 110]) = false := by rw [ht0]; decide +kernel
  have q_name : ((tkD L i).text.toList == [110, 97, 109, 101]) = true := by rw [ht0]; decide +kernel
  have FAILS := Lib.hid (fun (it : It) (q : Nat) (e : Ending) (w' : World) (hr : itemR L i = (it, q, false)) (he : e = diesAt L q) (ho : W.grownBy w' (some g)) => (show ItemPost g b o c L i W e w' from .inr (.inl ⟨hkey, by rw [hr], by rw [hr]; exact he, ho⟩)))
  have DONE := Lib.hid (fun (it : It) (q : Nat) (vw vt : Value) (w' : World) (hr : itemR L i = (it, q, true)) (h1 : RowsI w' (fun _ => False) 39 W.heap.size vw it.words vt it.trees) (h2 : Rdr w' g b o c L q 0) (h3 : W.grownBy w' (some g)) =>
    (show ItemPost g b o c L i W (.returned (.agg #[.string (tkD L i).text, .int .i64 (tkD L i).place, vw, vt])) w' from .inl ⟨hkey, by rw [hr], vw, vt, rfl, by rw [hr]; exact h1, by rw [hr]; exact h2, h3⟩))
  have h0 := h.c0
  have hf := h.f0
  have hi := h.here
  have hg := h.glt
  have hlt := h.lt
  have hcap := h.cap
  have hbw : b < W.heap.size := by omega
  have hbw1 : b < W.heap.size + 1 := by omega
  have hbw2 : b < W.heap.size + 1 + 1 := by omega
  have hg1 : g < W.heap.size + 1 := by omega
  obtain ⟨t0, t1, t2, t3⟩ := h.toks i hi
  have K := key_any (tkD L i).text
  rw [hkey] at K
  obtain ⟨t, ht⟩ : ∃ t, tkD L i = t := ⟨_, rfl⟩
  have hti : L[i] = t := by rw [← ht, tkD_at hi]
  rw [ht] at q_fun q_name hk1 HG DONE K
  rw [hti] at t0 t1 t2 t3
  clear ht hti ht0 hkey
  obtain ⟨tk, tx, tn, tp⟩ := t
  simp only at t0 t1 t2 t3 q_fun q_name hk1 HG DONE K
  subst hk1
  replace K := Lib.hid K
  obtain ⟨n, hn⟩ : ∃ n, L.length - i = n + 1 + 1 := ⟨L.length - i - 2, by omega⟩
  obtain ⟨k, hk⟩ : ∃ k, c - i = k + 1 + 1 := ⟨c - i - 2, by omega⟩
  obtain ⟨a, ha⟩ : ∃ a, o + i * 4 = a := ⟨_, rfl⟩
  have hn0 : (0 : Int) < ((n + 1 + 1 : Nat) : Int) := by omega
  have hn1 : (1 : Int) < ((n + 1 + 1 : Nat) : Int) := by omega
  have hnk : n ≤ k := by omega
  rw [hn, hk, ha] at h0
  rw [ha] at t0 t1 t2 t3
  have HV := Lib.hid (show Value.slice (some ⟨b, a + 4, none⟩) (n + 1) (k + 1) = .slice (some ⟨b, o + (i + 1) * 4, none⟩) (L.length - (i + 1)) (c - (i + 1)) by
    rw [show o + (i + 1) * 4 = a + 4 from by omega, show L.length - (i + 1) = n + 1 from by omega, show c - (i + 1) = k + 1 from by omega])
  have hB0 : Below W.heap.size W ((W.alloc (.cells #[.string ⟨#[]⟩, .int .i64 0, .slice none 0 0, .slice none 0 0] 63)).alloc (.cells #[.int .i64 1, .string tx, .int .i64 tn, .int .i64 tp] 50)) := ((Below.refl _ _).alloc (Nat.le_refl _) _).alloc (by simp) _
  have hr0 := h.below hB0
  have hzz : ((W.alloc (.cells #[.string ⟨#[]⟩, .int .i64 0, .slice none 0 0, .slice none 0 0] 63)).alloc (.cells #[.int .i64 1, .string tx, .int .i64 tn, .int .i64 tp] 50)).heap.size = W.heap.size + 2 := by simp
  have bR0 := (box_new W (.string ⟨#[]⟩) (.int .i64 0) (.slice none 0 0) (.slice none 0 0) 63).below ((Below.refl _ _).alloc (Nat.le_refl _) (.cells #[.int .i64 1, .string tx, .int .i64 tn, .int .i64 tp] 50)) (by simp)
  have bT0 := box_new (W.alloc (.cells #[.string ⟨#[]⟩, .int .i64 0, .slice none 0 0, .slice none 0 0] 63)) (.int .i64 1) (.string tx) (.int .i64 tn) (.int .i64 tp) 50
  rw [show (W.alloc (.cells #[.string ⟨#[]⟩, .int .i64 0, .slice none 0 0, .slice none 0 0] 63)).heap.size = W.heap.size + 1 from by simp] at bT0
  go_enter Tryz.func29, Tryz.ntmps29
  go_wp2_with fail
  refine (K.out _).mono ?_; rintro e w1 ⟨rfl, hb1⟩
  have hr1 := hr0.below hb1
  have d0 := hr1.c0
  have e0 := hr1.f0
  obtain ⟨x0, x1, x2, x3, _, _, _, _⟩ := bT0.below hb1 (by omega)
  have bR := bR0.below hb1 (by omega)
  rw [hn, hk, ha] at d0
  have hs1 := hb1.size
  rw [hzz] at hs1
  have hg2 : g < w1.heap.size := by omega
  have hg3 : W.heap.size + 1 ≠ g := by omega
  have hg4 : W.heap.size + 1 < w1.heap.size := by omega
  have ST := Lib.hid (ItSt.start bR (only_below (below_next hB0 hb1) (some g)) hg hr1 hi1 tx tp HV.out)
  clear hb1 hr1 hB0 hr0 bR0 bT0 bR hzz h HV
  go_wp2_with fail
  obtain ⟨x, hx⟩ : ∃ x, w1.heap.size = x := ⟨_, rfl⟩
  rw [hx] at ST
  (try rw [hx])
  obtain ⟨V, hV⟩ : ∃ V, (w1.setCell ⟨g, 0, none⟩ (.slice (some ⟨b, a + 4, none⟩) (n + 1) (k + 1))).alloc (.cells #[.string tx, .int .i64 tp, .slice none 0 0, .slice none 0 0] 63) = V := ⟨_, rfl⟩
  rw [hV] at ST ⊢
  clear hV x0 x1 x2 x3 hs1 hg2 hg3 hg4 hx d0 e0 t0 t1 t2 t3 h0 hf hn hk ha K
  refine app_region (by kernel_rfl) x ⟨x, 2, none⟩ (.pointer (some ⟨g, 0, none⟩)) (.slice none 0 0) 134 rfl (by decide) (by decide) rfl rfl (item_field2 x) (fun _ _ q => trees_load _ _ _ q) (fn_word _) ST.out.drew.arg.c2 (fun _ _ _ _ _ q => q) ?_
  refine (word_at _ ST.out.drew.rdr hF.ended hF.len).mono ?_
  rintro e w2 (⟨hok, rfl, hr2, ho2⟩ | ⟨hok, hd, ho2⟩)
  case inr =>
    have HB := Lib.hid (FAILS.out _ _ e w2 (HG.out.trans (goP_w_bad hok)) hd (only_trans ST.out.drew.only ho2))
    unfold diesAt at hd
    subst hd
    exact And.intro rfl HB.out
  have st2 := ST.out.drew.call hr2 ho2
  obtain ⟨us, h1, h2, h3, h4⟩ := st2.words
  have hok1 := hF.ok (i + 1)
  have hn2 := hF.word0 _ hok
  have hfit : FitR 5 (tkD L (i + 1)).text (tkD L (i + 1)).n (tkD L (i + 1)).place := ⟨by decide, by decide, hok1.nlo, hok1.nhi, hok1.plo, hok1.phi, hok1.len⟩
  refine tree_after (y := ⟨.mk 5 (tkD L (i + 1)).text (tkD L (i + 1)).n (tkD L (i + 1)).place [], none, 0⟩) h3 st2.only.size st2.arg.c2 st2.arg.f2 h4 (by simp) ?_
  intro v1 w3 g1 g2 g3
  have st3 := st2.pushW h1 h2 (live_plain hfit w2 _ st2.only.size) g1 g2 g3
  obtain ⟨a1, c1, hv1⟩ : ∃ a c, v1 = .slice a 1 c := own_slice g1
  subst hv1
  replace HG := Lib.hid (HG.out.trans (goP_w_ok hok))
  obtain ⟨V1, hV⟩ : ∃ V', w3.setCell ⟨x, 2, none⟩ (.slice a1 1 c1) = V' := ⟨_, rfl⟩
  rw [hV] at st3 ⊢
  simp only [hn2] at st3
  replace ST := Lib.hid st3
  clear hr2 ho2 st2 h1 h2 h3 h4 hok1 hfit g1 g2 g3 hV st3 hn2
  simp only [Act.put, List.setIfInBounds_toArray, List.set_cons_zero, List.set_cons_succ]
  go_wp2_with fail
  refine (pass_any ⟨#[46]⟩ _ ST.out.rdr hF.ended (hF.sign _ sg_46 _ ST.out.rdr.here)).mono ?_
  rintro e w2 (⟨hok, rfl, hr2, ho2⟩ | ⟨hok, hd, ho2⟩)
  case inr =>
    have HB := Lib.hid (FAILS.out _ _ e w2 (HG.out.trans (goP_s_bad (by decide) hok)) hd (only_trans ST.out.only ho2))
    unfold diesAt at hd
    subst hd
    clear hok ho2
    go_wp2_with fail
    exact ⟨rfl, HB.out⟩
  have st2 := ST.out.call hr2 ho2
  replace HG := Lib.hid (HG.out.trans (goP_s_ok (by decide) hok))
  replace ST := Lib.hid st2
  clear hr2 ho2 st2 hok
  have HF := Lib.hid (HG.out.trans goP_end)
  obtain ⟨k0, k1, k2, k3, _, _, _, _⟩ := ST.out.arg
  obtain ⟨r0, r1, r2, r3, rf0, rf1, rf2, rf3⟩ := ST.out.res
  have HE := Lib.hid (ST.out.done (.string tx) (.int .i64 tp) (.slice a1 1 c1) (.slice none 0 0))
  have HX := Lib.hid (ST.out.res.fill (.string tx) (.int .i64 tp) (.slice a1 1 c1) (.slice none 0 0))
  simp only at k0 k1
  go_wp2_with fail
  obtain ⟨r0, r1, r2, r3, _, _, _, _⟩ := HX.out
  refine bodyPost_ret (v := .agg #[.string tx, .int .i64 tp, .slice a1 1 c1, .slice none 0 0]) (by simp [results, Tryz.results29, go_sem, r0, r1, r2, r3]) rfl ?_
  obtain ⟨f1, f2, f3⟩ := HE.out
  exact DONE.out _ _ _ _ _ HF.out f1 f2 f3
end
end Go.Proofs.YtldgbdmiebipnaaGreatDoor

namespace Go.Proofs.YtldgbdmiebipnaaGreatDoor
open Go.RowKit

section
variable {g b o c : Nat} {L : List Tok}
set_option maxRecDepth 100000 in
set_option maxHeartbeats 4000000 in
theorem item_use (hF : Fine L) (i : Nat) (W : World) (h : Rdr W g b o c L i 0) (ht0 : (tkD L i).text = ⟨#[117, 115, 101]⟩) :
    Calls Tryz.prog 29 #[.pointer (some ⟨g, 0, none⟩)] W (ItemPost g b o c L i W) := by
  have hkey : Lib.containsS keyList (tkD L i).text = true := by rw [ht0]; decide +kernel
  have hk1 := hF.key i hkey
  have hi1 : i + 1 < L.length := hF.ended i (by rw [hk1]; decide)
  have HG := Lib.hid (show itemR L i = goP L [119, 46] ⟨(tkD L i).text, (tkD L i).place, [], []⟩ (i + 1) by unfold itemR; rw [show shapesOf (tkD L i).text = [119, 46] by rw [ht0]; decide +kernel])
  have q_fun : ((tkD L i).text.toList == [102, 117, 110]) = false := by rw [ht0]; decide +kernel
  have q_name : ((tkD L i).text.toList == [110, 97, 109, 101]) = false := by rw [ht0]; decide +kernel
  have q_use : ((tkD L i).text.toList == [117, 115, 101]) = true := by rw [ht0]; decide +kernel
  have FAILS := Lib.hid (fun (it : It) (q : Nat) (e : Ending) (w' : World) (hr : itemR L i = (it, q, false)) (he : e = diesAt L q) (ho : W.grownBy w' (some g)) => (show ItemPost g b o c L i W e w' from .inr (.inl ⟨hkey, by rw [hr], by rw [hr]; exact he, ho⟩)))
  have DONE := Lib.hid (fun (it : It) (q : Nat) (vw vt : Value) (w' : World) (hr : itemR L i = (it, q, true)) (h1 : RowsI w' (fun _ => False) 39 W.heap.size vw it.words vt it.trees) (h2 : Rdr w' g b o c L q 0) (h3 : W.grownBy w' (some g)) =>
    (show ItemPost g b o c L i W (.returned (.agg #[.string (tkD L i).text, .int .i64 (tkD L i).place, vw, vt])) w' from .inl ⟨hkey, by rw [hr], vw, vt, rfl, by rw [hr]; exact h1, by rw [hr]; exact h2, h3⟩))
  have h0 := h.c0
  have hf := h.f0
  have hi := h.here
  have hg := h.glt
  have hlt := h.lt
  have hcap := h.cap
  have hbw : b < W.heap.size := by omega
  have hbw1 : b < W.heap.size + 1 := by omega
  have hbw2 : b < W.heap.size + 1 + 1 := by omega
  have hg1 : g < W.heap.size + 1 := by omega
  obtain ⟨t0, t1, t2, t3⟩ := h.toks i hi
  have K := key_any (tkD L i).text
  rw [hkey] at K
  obtain ⟨t, ht⟩ : ∃ t, tkD L i = t := ⟨_, rfl⟩
  have hti : L[i] = t := by rw [← ht, tkD_at hi]
  rw [ht] at q_fun q_name q_use hk1 HG DONE K
  rw [hti] at t0 t1 t2 t3
  clear ht hti ht0 hkey
  obtain ⟨tk, tx, tn, tp⟩ := t
  simp only at t0 t1 t2 t3 q_fun q_name q_use hk1 HG DONE K
  subst hk1
  replace K := Lib.hid K
  obtain ⟨n, hn⟩ : ∃ n, L.length - i = n + 1 + 1 := ⟨L.length - i - 2, by omega⟩
  obtain ⟨k, hk⟩ : ∃ k, c - i = k + 1 + 1 := ⟨c - i - 2, by omega⟩
  obtain ⟨a, ha⟩ : ∃ a, o + i * 4 = a := ⟨_, rfl⟩
  have hn0 : (0 : Int) < ((n + 1 + 1 : Nat) : Int) := by omega
  have hn1 : (1 : Int) < ((n + 1 + 1 : Nat) : Int) := by omega
  have hnk : n ≤ k := by omega
  rw [hn, hk, ha] at h0
  rw [ha] at t0 t1 t2 t3
  have HV := Lib.hid (show Value.slice (some ⟨b, a + 4, none⟩) (n + 1) (k + 1) = .slice (some ⟨b, o + (i + 1) * 4, none⟩) (L.length - (i + 1)) (c - (i + 1)) by
    rw [show o + (i + 1) * 4 = a + 4 from by omega, show L.length - (i + 1) = n + 1 from by omega, show c - (i + 1) = k + 1 from by omega])
  have hB0 : Below W.heap.size W ((W.alloc (.cells #[.string ⟨#[]⟩, .int .i64 0, .slice none 0 0, .slice none 0 0] 63)).alloc (.cells #[.int .i64 1, .string tx, .int .i64 tn, .int .i64 tp] 50)) := ((Below.refl _ _).alloc (Nat.le_refl _) _).alloc (by simp) _
  have hr0 := h.below hB0
  have hzz : ((W.alloc (.cells #[.string ⟨#[]⟩, .int .i64 0, .slice none 0 0, .slice none 0 0] 63)).alloc (.cells #[.int .i64 1, .string tx, .int .i64 tn, .int .i64 tp] 50)).heap.size = W.heap.size + 2 := by simp
  have bR0 := (box_new W (.string ⟨#[]⟩) (.int .i64 0) (.slice none 0 0) (.slice none 0 0) 63).below ((Below.refl _ _).alloc (Nat.le_refl _) (.cells #[.int .i64 1, .string tx, .int .i64 tn, .int .i64 tp] 50)) (by simp)
  have bT0 := box_new (W.alloc (.cells #[.string ⟨#[]⟩, .int .i64 0, .slice none 0 0, .slice none 0 0] 63)) (.int .i64 1) (.string tx) (.int .i64 tn) (.int .i64 tp) 50
  rw [show (W.alloc (.cells #[.string ⟨#[]⟩, .int .i64 0, .slice none 0 0, .slice none 0 0] 63)).heap.size = W.heap.size + 1 from by simp] at bT0
  go_enter Tryz.func29, Tryz.ntmps29
  go_wp2_with fail
  refine (K.out _).mono ?_; rintro e w1 ⟨rfl, hb1⟩
  have hr1 := hr0.below hb1
  have d0 := hr1.c0
  have e0 := hr1.f0
  obtain ⟨x0, x1, x2, x3, _, _, _, _⟩ := bT0.below hb1 (by omega)
  have bR := bR0.below hb1 (by omega)
  rw [hn, hk, ha] at d0
  have hs1 := hb1.size
  rw [hzz] at hs1
  have hg2 : g < w1.heap.size := by omega
  have hg3 : W.heap.size + 1 ≠ g := by omega
  have hg4 : W.heap.size + 1 < w1.heap.size := by omega
  have ST := Lib.hid (ItSt.start bR (only_below (below_next hB0 hb1) (some g)) hg hr1 hi1 tx tp HV.out)
  clear hb1 hr1 hB0 hr0 bR0 bT0 bR hzz h HV
  go_wp2_with fail
  obtain ⟨x, hx⟩ : ∃ x, w1.heap.size = x := ⟨_, rfl⟩
  rw [hx] at ST
  (try rw [hx])
  obtain ⟨V, hV⟩ : ∃ V, (w1.setCell ⟨g, 0, none⟩ (.slice (some ⟨b, a + 4, none⟩) (n + 1) (k + 1))).alloc (.cells #[.string tx, .int .i64 tp, .slice none 0 0, .slice none 0 0] 63) = V := ⟨_, rfl⟩
  rw [hV] at ST ⊢
  clear hV x0 x1 x2 x3 hs1 hg2 hg3 hg4 hx d0 e0 t0 t1 t2 t3 h0 hf hn hk ha K
  refine app_region (by kernel_rfl) x ⟨x, 2, none⟩ (.pointer (some ⟨g, 0, none⟩)) (.slice none 0 0) 134 rfl (by decide) (by decide) rfl rfl (item_field2 x) (fun _ _ q => trees_load _ _ _ q) (fn_word _) ST.out.drew.arg.c2 (fun _ _ _ _ _ q => q) ?_
  refine (word_at _ ST.out.drew.rdr hF.ended hF.len).mono ?_
  rintro e w2 (⟨hok, rfl, hr2, ho2⟩ | ⟨hok, hd, ho2⟩)
  case inr =>
    have HB := Lib.hid (FAILS.out _ _ e w2 (HG.out.trans (goP_w_bad hok)) hd (only_trans ST.out.drew.only ho2))
    unfold diesAt at hd
    subst hd
    exact And.intro rfl HB.out
  have st2 := ST.out.drew.call hr2 ho2
  obtain ⟨us, h1, h2, h3, h4⟩ := st2.words
  have hok1 := hF.ok (i + 1)
  have hn2 := hF.word0 _ hok
  have hfit : FitR 5 (tkD L (i + 1)).text (tkD L (i + 1)).n (tkD L (i + 1)).place := ⟨by decide, by decide, hok1.nlo, hok1.nhi, hok1.plo, hok1.phi, hok1.len⟩
  refine tree_after (y := ⟨.mk 5 (tkD L (i + 1)).text (tkD L (i + 1)).n (tkD L (i + 1)).place [], none, 0⟩) h3 st2.only.size st2.arg.c2 st2.arg.f2 h4 (by simp) ?_
  intro v1 w3 g1 g2 g3
  have st3 := st2.pushW h1 h2 (live_plain hfit w2 _ st2.only.size) g1 g2 g3
  obtain ⟨a1, c1, hv1⟩ : ∃ a c, v1 = .slice a 1 c := own_slice g1
  subst hv1
  replace HG := Lib.hid (HG.out.trans (goP_w_ok hok))
  obtain ⟨V1, hV⟩ : ∃ V', w3.setCell ⟨x, 2, none⟩ (.slice a1 1 c1) = V' := ⟨_, rfl⟩
  rw [hV] at st3 ⊢
  simp only [hn2] at st3
  replace ST := Lib.hid st3
  clear hr2 ho2 st2 h1 h2 h3 h4 hok1 hfit g1 g2 g3 hV st3 hn2
  simp only [Act.put, List.setIfInBounds_toArray, List.set_cons_zero, List.set_cons_succ]
  go_wp2_with fail
  refine (pass_any ⟨#[46]⟩ _ ST.out.rdr hF.ended (hF.sign _ sg_46 _ ST.out.rdr.here)).mono ?_
  rintro e w2 (⟨hok, rfl, hr2, ho2⟩ | ⟨hok, hd, ho2⟩)
  case inr =>
    have HB := Lib.hid (FAILS.out _ _ e w2 (HG.out.trans (goP_s_bad (by decide) hok)) hd (only_trans ST.out.only ho2))
    unfold diesAt at hd
    subst hd
    clear hok ho2
    go_wp2_with fail
    exact ⟨rfl, HB.out⟩
  have st2 := ST.out.call hr2 ho2
  replace HG := Lib.hid (HG.out.trans (goP_s_ok (by decide) hok))
  replace ST := Lib.hid st2
  clear hr2 ho2 st2 hok
  have HF := Lib.hid (HG.out.trans goP_end)
  obtain ⟨k0, k1, k2, k3, _, _, _, _⟩ := ST.out.arg
  obtain ⟨r0, r1, r2, r3, rf0, rf1, rf2, rf3⟩ := ST.out.res
  have HE := Lib.hid (ST.out.done (.string tx) (.int .i64 tp) (.slice a1 1 c1) (.slice none 0 0))
  have HX := Lib.hid (ST.out.res.fill (.string tx) (.int .i64 tp) (.slice a1 1 c1) (.slice none 0 0))
  simp only at k0 k1
  go_wp2_with fail
  obtain ⟨r0, r1, r2, r3, _, _, _, _⟩ := HX.out
  refine bodyPost_ret (v := .agg #[.string tx, .int .i64 tp, .slice a1 1 c1, .slice none 0 0]) (by simp [results, Tryz.results29, go_sem, r0, r1, r2, r3]) rfl ?_
  obtain ⟨f1, f2, f3⟩ := HE.out
  exact DONE.out _ _ _ _ _ HF.out f1 f2 f3
end
end Go.Proofs.YtldgbdmiebipnaaGreatDoor

namespace Go.Proofs.YtldgbdmiebipnaaGreatDoor
open Go.RowKit

section
variable {g b o c : Nat} {L : List Tok}
set_option maxRecDepth 100000 in
set_option maxHeartbeats 4000000 in
theorem item_rule (hF : Fine L) (i : Nat) (W : World) (h : Rdr W g b o c L i 0) (ht0 : (tkD L i).text = ⟨#[114, 117, 108, 101]⟩) :
    Calls Tryz.prog 29 #[.pointer (some ⟨g, 0, none⟩)] W (ItemPost g b o c L i W) := by
  have hkey : Lib.containsS keyList (tkD L i).text = true := by rw [ht0]; decide +kernel
  have hk1 := hF.key i hkey
  have hi1 : i + 1 < L.length := hF.ended i (by rw [hk1]; decide)
  have HG := Lib.hid (show itemR L i = goP L [116, 61, 116, 46] ⟨(tkD L i).text, (tkD L i).place, [], []⟩ (i + 1) by unfold itemR; rw [show shapesOf (tkD L i).text = [116, 61, 116, 46] by rw [ht0]; decide +kernel])
  have q_fun : ((tkD L i).text.toList == [102, 117, 110]) = false := by rw [ht0]; decide +kernel
  have q_name : ((tkD L i).text.toList == [110, 97, 109, 101]) = false := by rw [ht0]; decide +kernel
  have q_use : ((tkD L i).text.toList == [117, 115, 101]) = false := by rw [ht0]; decide +kernel
  have q_rule : ((tkD L i).text.toList == [114, 117, 108, 101]) = true := by rw [ht0]; decide +kernel
  have FAILS := Lib.hid (fun (it : It) (q : Nat) (e : Ending) (w' : World) (hr : itemR L i = (it, q, false)) (he : e = diesAt L q) (ho : W.grownBy w' (some g)) => (show ItemPost g b o c L i W e w' from .inr (.inl ⟨hkey, by rw [hr], by rw [hr]; exact he, ho⟩)))
  have DONE := Lib.hid (fun (it : It) (q : Nat) (vw vt : Value) (w' : World) (hr : itemR L i = (it, q, true)) (h1 : RowsI w' (fun _ => False) 39 W.heap.size vw it.words vt it.trees) (h2 : Rdr w' g b o c L q 0) (h3 : W.grownBy w' (some g)) =>
    (show ItemPost g b o c L i W (.returned (.agg #[.string (tkD L i).text, .int .i64 (tkD L i).place, vw, vt])) w' from .inl ⟨hkey, by rw [hr], vw, vt, rfl, by rw [hr]; exact h1, by rw [hr]; exact h2, h3⟩))
  have h0 := h.c0
  have hf := h.f0
  have hi := h.here
  have hg := h.glt
  have hlt := h.lt
  have hcap := h.cap
  have hbw : b < W.heap.size := by omega
  have hbw1 : b < W.heap.size + 1 := by omega
  have hbw2 : b < W.heap.size + 1 + 1 := by omega
  have hg1 : g < W.heap.size + 1 := by omega
  obtain ⟨t0, t1, t2, t3⟩ := h.toks i hi
  have K := key_any (tkD L i).text
  rw [hkey] at K
  obtain ⟨t, ht⟩ : ∃ t, tkD L i = t := ⟨_, rfl⟩
  have hti : L[i] = t := by rw [← ht, tkD_at hi]
  rw [ht] at q_fun q_name q_use q_rule hk1 HG DONE K
  rw [hti] at t0 t1 t2 t3
  clear ht hti ht0 hkey
  obtain ⟨tk, tx, tn, tp⟩ := t
  simp only at t0 t1 t2 t3 q_fun q_name q_use q_rule hk1 HG DONE K
  subst hk1
  replace K := Lib.hid K
  obtain ⟨n, hn⟩ : ∃ n, L.length - i = n + 1 + 1 := ⟨L.length - i - 2, by omega⟩
  obtain ⟨k, hk⟩ : ∃ k, c - i = k + 1 + 1 := ⟨c - i - 2, by omega⟩
  obtain ⟨a, ha⟩ : ∃ a, o + i * 4 = a := ⟨_, rfl⟩
  have hn0 : (0 : Int) < ((n + 1 + 1 : Nat) : Int) := by omega
  have hn1 : (1 : Int) < ((n + 1 + 1 : Nat) : Int) := by omega
  have hnk : n ≤ k := by omega
  rw [hn, hk, ha] at h0
  rw [ha] at t0 t1 t2 t3
  have HV := Lib.hid (show Value.slice (some ⟨b, a + 4, none⟩) (n + 1) (k + 1) = .slice (some ⟨b, o + (i + 1) * 4, none⟩) (L.length - (i + 1)) (c - (i + 1)) by
    rw [show o + (i + 1) * 4 = a + 4 from by omega, show L.length - (i + 1) = n + 1 from by omega, show c - (i + 1) = k + 1 from by omega])
  have hB0 : Below W.heap.size W ((W.alloc (.cells #[.string ⟨#[]⟩, .int .i64 0, .slice none 0 0, .slice none 0 0] 63)).alloc (.cells #[.int .i64 1, .string tx, .int .i64 tn, .int .i64 tp] 50)) := ((Below.refl _ _).alloc (Nat.le_refl _) _).alloc (by simp) _
  have hr0 := h.below hB0
  have hzz : ((W.alloc (.cells #[.string ⟨#[]⟩, .int .i64 0, .slice none 0 0, .slice none 0 0] 63)).alloc (.cells #[.int .i64 1, .string tx, .int .i64 tn, .int .i64 tp] 50)).heap.size = W.heap.size + 2 := by simp
  have bR0 := (box_new W (.string ⟨#[]⟩) (.int .i64 0) (.slice none 0 0) (.slice none 0 0) 63).below ((Below.refl _ _).alloc (Nat.le_refl _) (.cells #[.int .i64 1, .string tx, .int .i64 tn, .int .i64 tp] 50)) (by simp)
  have bT0 := box_new (W.alloc (.cells #[.string ⟨#[]⟩, .int .i64 0, .slice none 0 0, .slice none 0 0] 63)) (.int .i64 1) (.string tx) (.int .i64 tn) (.int .i64 tp) 50
  rw [show (W.alloc (.cells #[.string ⟨#[]⟩, .int .i64 0, .slice none 0 0, .slice none 0 0] 63)).heap.size = W.heap.size + 1 from by simp] at bT0
  go_enter Tryz.func29, Tryz.ntmps29
  go_wp2_with fail
  refine (K.out _).mono ?_; rintro e w1 ⟨rfl, hb1⟩
  have hr1 := hr0.below hb1
  have d0 := hr1.c0
  have e0 := hr1.f0
  obtain ⟨x0, x1, x2, x3, _, _, _, _⟩ := bT0.below hb1 (by omega)
  have bR := bR0.below hb1 (by omega)
  rw [hn, hk, ha] at d0
  have hs1 := hb1.size
  rw [hzz] at hs1
  have hg2 : g < w1.heap.size := by omega
  have hg3 : W.heap.size + 1 ≠ g := by omega
  have hg4 : W.heap.size + 1 < w1.heap.size := by omega
  have ST := Lib.hid (ItSt.start bR (only_below (below_next hB0 hb1) (some g)) hg hr1 hi1 tx tp HV.out)
  clear hb1 hr1 hB0 hr0 bR0 bT0 bR hzz h HV
  go_wp2_with fail
  obtain ⟨x, hx⟩ : ∃ x, w1.heap.size = x := ⟨_, rfl⟩
  rw [hx] at ST
  (try rw [hx])
  obtain ⟨V, hV⟩ : ∃ V, (w1.setCell ⟨g, 0, none⟩ (.slice (some ⟨b, a + 4, none⟩) (n + 1) (k + 1))).alloc (.cells #[.string tx, .int .i64 tp, .slice none 0 0, .slice none 0 0] 63) = V := ⟨_, rfl⟩
  rw [hV] at ST ⊢
  clear hV x0 x1 x2 x3 hs1 hg2 hg3 hg4 hx d0 e0 t0 t1 t2 t3 h0 hf hn hk ha K
  refine app_region (by kernel_rfl) x ⟨x, 3, none⟩ (.pointer (some ⟨g, 0, none⟩)) (.slice none 0 0) 134 rfl (by decide) (by decide) rfl rfl (item_field3 x) (fun _ _ q => trees_load _ _ _ q) (fn_term _) ST.out.drew.arg.c3 (fun _ _ _ _ _ q => q) ?_
  refine (term_any hF (i + 1) 0 (by decide) _ ST.out.drew.rdr).mono ?_
  rintro e w2 (⟨hok, y, rfl, hyt, hm, hr2, ho2⟩ | ⟨hok, hd, ho2⟩)
  case inr =>
    have HB := Lib.hid (FAILS.out _ _ e w2 (HG.out.trans (goP_t_bad hok)) hd (only_trans ST.out.drew.only ho2))
    unfold diesAt at hd
    subst hd
    exact And.intro rfl HB.out
  have st2 := ST.out.drew.call hr2 ho2
  obtain ⟨us, h1, h2, h3, h4⟩ := st2.trees
  refine tree_after h3 st2.only.size st2.arg.c3 st2.arg.f3 h4 (by simp) ?_
  intro v1 w3 g1 g2 g3
  have st3 := st2.push h1 h2 (hm.liveA ho2.size ST.out.drew.only.size ST.out.drew.there) g1 g2 g3
  obtain ⟨a1, c1, hv1⟩ : ∃ a c, v1 = .slice a 1 c := own_slice g1
  subst hv1
  replace HG := Lib.hid (HG.out.trans (goP_t_ok hok))
  rw [← hyt] at HG
  obtain ⟨j1, hj⟩ : ∃ q, (termP L (i + 1) 0).2.1 = q := ⟨_, rfl⟩
  rw [hj] at HG st3
  obtain ⟨V1, hV⟩ : ∃ V', w3.setCell ⟨x, 3, none⟩ (.slice a1 1 c1) = V' := ⟨_, rfl⟩
  rw [hV] at st3 ⊢
  replace ST := Lib.hid st3
  clear hr2 ho2 st2 h1 h2 h3 h4 hm hyt g1 g2 g3 hV st3 hj
  simp only [Act.put, List.setIfInBounds_toArray, List.set_cons_zero, List.set_cons_succ]
  go_wp2_with fail
  refine (pass_any ⟨#[61]⟩ _ ST.out.rdr hF.ended (hF.sign _ sg_61 _ ST.out.rdr.here)).mono ?_
  rintro e w2 (⟨hok, rfl, hr2, ho2⟩ | ⟨hok, hd, ho2⟩)
  case inr =>
    have HB := Lib.hid (FAILS.out _ _ e w2 (HG.out.trans (goP_s_bad (by decide) hok)) hd (only_trans ST.out.only ho2))
    unfold diesAt at hd
    subst hd
    clear hok ho2
    go_wp2_with fail
    exact ⟨rfl, HB.out⟩
  have st2 := ST.out.call hr2 ho2
  replace HG := Lib.hid (HG.out.trans (goP_s_ok (by decide) hok))
  replace ST := Lib.hid st2
  clear hr2 ho2 st2 hok
  go_wp2_with fail
  refine app_region (by kernel_rfl) x ⟨x, 3, none⟩ (.pointer (some ⟨g, 0, none⟩)) (.slice a1 1 c1) 134 rfl (by decide) (by decide) rfl rfl (item_field3 x) (fun _ _ q => trees_load _ _ _ q) (fn_term _) ST.out.drew.arg.c3 (fun _ _ _ _ _ q => q) ?_
  refine (term_any hF (j1 + 1) 0 (by decide) _ ST.out.drew.rdr).mono ?_
  rintro e w2 (⟨hok, y, rfl, hyt, hm, hr2, ho2⟩ | ⟨hok, hd, ho2⟩)
  case inr =>
    have HB := Lib.hid (FAILS.out _ _ e w2 (HG.out.trans (goP_t_bad hok)) hd (only_trans ST.out.drew.only ho2))
    unfold diesAt at hd
    subst hd
    exact And.intro rfl HB.out
  have st2 := ST.out.drew.call hr2 ho2
  obtain ⟨us, h1, h2, h3, h4⟩ := st2.trees
  refine tree_after h3 st2.only.size st2.arg.c3 st2.arg.f3 h4 (by simp) ?_
  intro v1 w3 g1 g2 g3
  have st3 := st2.push h1 h2 (hm.liveA ho2.size ST.out.drew.only.size ST.out.drew.there) g1 g2 g3
  obtain ⟨a2, c2, hv1⟩ : ∃ a c, v1 = .slice a 2 c := own_slice g1
  subst hv1
  replace HG := Lib.hid (HG.out.trans (goP_t_ok hok))
  rw [← hyt] at HG
  obtain ⟨j2, hj⟩ : ∃ q, (termP L (j1 + 1) 0).2.1 = q := ⟨_, rfl⟩
  rw [hj] at HG st3
  obtain ⟨V2, hV⟩ : ∃ V', w3.setCell ⟨x, 3, none⟩ (.slice a2 2 c2) = V' := ⟨_, rfl⟩
  rw [hV] at st3 ⊢
  replace ST := Lib.hid st3
  clear hr2 ho2 st2 h1 h2 h3 h4 hm hyt g1 g2 g3 hV st3 hj
  simp only [Act.put, List.setIfInBounds_toArray, List.set_cons_zero, List.set_cons_succ]
  go_wp2_with fail
  refine (pass_any ⟨#[46]⟩ _ ST.out.rdr hF.ended (hF.sign _ sg_46 _ ST.out.rdr.here)).mono ?_
  rintro e w2 (⟨hok, rfl, hr2, ho2⟩ | ⟨hok, hd, ho2⟩)
  case inr =>
    have HB := Lib.hid (FAILS.out _ _ e w2 (HG.out.trans (goP_s_bad (by decide) hok)) hd (only_trans ST.out.only ho2))
    unfold diesAt at hd
    subst hd
    clear hok ho2
    go_wp2_with fail
    exact ⟨rfl, HB.out⟩
  have st2 := ST.out.call hr2 ho2
  replace HG := Lib.hid (HG.out.trans (goP_s_ok (by decide) hok))
  replace ST := Lib.hid st2
  clear hr2 ho2 st2 hok
  have HF := Lib.hid (HG.out.trans goP_end)
  obtain ⟨k0, k1, k2, k3, _, _, _, _⟩ := ST.out.arg
  obtain ⟨r0, r1, r2, r3, rf0, rf1, rf2, rf3⟩ := ST.out.res
  have HE := Lib.hid (ST.out.done (.string tx) (.int .i64 tp) (.slice none 0 0) (.slice a2 2 c2))
  have HX := Lib.hid (ST.out.res.fill (.string tx) (.int .i64 tp) (.slice none 0 0) (.slice a2 2 c2))
  simp only at k0 k1
  go_wp2_with fail
  obtain ⟨r0, r1, r2, r3, _, _, _, _⟩ := HX.out
  refine bodyPost_ret (v := .agg #[.string tx, .int .i64 tp, .slice none 0 0, .slice a2 2 c2]) (by simp [results, Tryz.results29, go_sem, r0, r1, r2, r3]) rfl ?_
  obtain ⟨f1, f2, f3⟩ := HE.out
  exact DONE.out _ _ _ _ _ HF.out f1 f2 f3
end
end Go.Proofs.YtldgbdmiebipnaaGreatDoor
