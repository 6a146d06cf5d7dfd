/-
  The program's grammar: file: the items of all tokens, or the first token that can't stand.
  Scan of the reference, walked: it answers what the scan of the text tells. (as data)
  Scan of package lex, walked: it answers what the scan of the text tells. (as data)
  How many bytes that may be part of a word stand at a place of a text: what parts of package lex answers, and Long of the reference, for every text and every place in it. Neither changes anything. (the program)
  What a listed package variable gives a walk: one of a list, its block, and the table of powers of ten.
  What the listed package-level variables of strconv give a walk: the table of powers of ten, and the two errors; and that a call which only makes new blocks leaves them as they were.
  Digits and Number of package chars, and the same of the reference: a number in decimal, and the number from 0 to 999 that a text is; in every world in which the listed variables of strconv hold what they were laid with. Each call makes new memory alone. (the program)
  Whether a text is the word of a variable, by package chars. Each call makes new memory alone.
  The token that a text begins with: token, word, sign and number of package lex. (the program)
  The token that a text begins with, as token of package lex tells it, and as At of the reference tells it of any place of a text. (the program)
-/
import Derived.Test.YtldgbdmiebipnaaDoorB13
import Derived.Test.YtldgbdmiebipnaaDoorB05
import Derived.Test.YtldgbdmiebipnaaDoorB06
import Derived.Deep.LoopGhost
import Derived.Test.YtldgbdmiebipnaaDoorB02
import Derived.WalkMore
import Derived.Test.YtldgbdmiebipnaaDoorB01
import Derived.Test.YtldgbdmiebipnaaDoorB08
import Derived.Lib.Hide
import Derived.WalkKit
import Derived.WalkSpells
import Derived.Test.YtldgbdmiebipnaaDoorRows
import Derived.ProofKit
import Derived.Stop.LaidErr
import Derived.WalkSmall
import Derived.Deep.DeepHandedRow
import Derived.Lib.LaidTab
import Derived.MakeChecks
import Derived.Lib.ItoaLen
import Derived.Test.YtldgbdmiebipnaaDoorShelf
namespace Go.Proofs.YtldgbdmiebipnaaDoor
open Go.RowKit

theorem own_max {w : World} {base : Nat} {e : TypeId} {size : Nat} {v : Value} {n : Nat} {xs : List Value} (h : w.ownsRow base e size v n xs) : n ≤ 9223372036854775807 := by
  obtain ⟨_, ⟨_, rfl⟩ | ⟨g, cap, cur, _, _, _, h1, h2, _⟩⟩ := h
  · exact Nat.zero_le _
  · unfold maxLen at h2; omega
theorem LiveIt.only {W W' : World} {G : Option Nat} {base g : Nat} {y : Iv} (h : LiveIt W G base y) (hb : W.grownBy W' (some g)) (hg : g < base) : LiveIt W' G base y := by
  obtain ⟨lo, hi, h1, h2, h3, h4, h5⟩ := h
  refine ⟨lo, hi, h1, h2, Nat.le_trans h3 hb.size, h4, fun W2 g1 g2 => h5 W2 g1 fun k k1 k2 => ?_⟩
  rw [g2 k k1 k2]
  exact hb.block k (by omega) (fun e => by injection e with e; omega)
theorem RowIt.only {W W' : World} {e : TypeId} {base g : Nat} {v : Value} {xs : List It} (h : RowIt W e base v xs) (hb : W.grownBy W' (some g)) (hg : g < base) : RowIt W' e base v xs := by
  obtain ⟨vs, h1, h2, h3⟩ := h
  exact ⟨vs, h1, fun x hx => (h2 x hx).only hb hg, own_at h3 fun k e => hb.block k (own_row_lt h3 k e) (fun q => by injection q with q; have := own_row_ge h3 k e; omega)⟩
theorem iv_one (y : Iv) (hw : y.vw.oneCell' = true) (ht : y.vt.oneCell' = true) : ∀ u ∈ y.cells, u.oneCell' = true := by
  intro u hu
  unfold Iv.cells at hu
  simp only [List.mem_cons, List.not_mem_nil, or_false] at hu
  rcases hu with rfl | rfl | rfl | rfl
  · rfl
  · rfl
  · exact hw
  · exact ht

/-- Items that a call has made read so wherever its blocks stand. -/
def MadeI (w w' : World) (v : Value) (xs : List It) : Prop := ∀ W', w'.heap.size ≤ W'.heap.size → (∀ k, w.heap.size ≤ k → k < w'.heap.size → W'.heap[k]? = w'.heap[k]?) → Its W' v xs
theorem MadeI.its {w w' : World} {v : Value} {xs : List It} (h : MadeI w w' v xs) : Its w' v xs := h w' (Nat.le_refl _) fun _ _ _ => rfl
theorem MadeI.none_ (w w' : World) (a : Option Addr) (c : Nat) : MadeI w w' (.slice a 0 c) [] := fun _ _ _ => Its.none_ _ _ _
theorem MadeI.wide {u w w' : World} {v : Value} {xs : List It} (h : MadeI w w' v xs) (h1 : u.heap.size ≤ w.heap.size) : MadeI u w' v xs := fun W' g1 g2 => h W' g1 fun k k1 k2 => g2 k (Nat.le_trans h1 k1) k2
theorem RowIt.made {w W : World} {e : TypeId} {base : Nat} {v : Value} {xs : List It} (h : RowIt W e base v xs) (hb : w.heap.size ≤ base) (hl : xs.length ≤ 9223372036854775807) : MadeI w W v xs := fun W' g1 g2 => by
  obtain ⟨vs, h1, h2, h3⟩ := h
  refine RowIt.its (e := e) (base := base) ⟨vs, h1, fun x hx => ?_, own_at h3 fun q e => g2 q (Nat.le_trans hb (own_row_ge h3 q e)) (own_row_lt h3 q e)⟩ hl
  obtain ⟨lo, hi, k1, k2, k3, k4, k5⟩ := h2 x hx
  exact ⟨lo, hi, k1, k2, Nat.le_trans k3 g1, k4, fun W2 q1 q2 => k5 W2 q1 fun k j1 j2 => (q2 k j1 j2).trans (g2 k (by omega) (by omega))⟩

section
variable {g b o c : Nat} {L : List Tok}
theorem items_none (hE : Ended L) {k : Nat} (h : (tkD L k).kind = 0) : itemsP L k = .inr [] := by rw [itemsP_at hE, if_pos h]
theorem items_nokey (hE : Ended L) {k : Nat} (h : (tkD L k).kind ≠ 0) (hk : Lib.containsS keyList (tkD L k).text = false) : itemsP L k = .inl k := by
  rw [itemsP_at hE, if_neg h]
  by_cases h1 : (tkD L k).kind = 1
  · rw [if_pos (.inr (by unfold wordK; rw [h1, hk]; rfl))]
  · rw [if_pos (.inl h1)]
theorem items_key (hF : Fine L) {k : Nat} (hk : Lib.containsS keyList (tkD L k).text = true) : itemsP L k = if (itemR L k).2.2 = false then .inl (itemR L k).2.1 else joinI [(itemR L k).1] (itemsP L (itemR L k).2.1) := by
  have h1 := hF.key k hk
  rw [itemsP_at hF.ended, if_neg (by rw [h1]; decide), if_neg (by rw [not_or]; exact ⟨by simp [h1], by unfold wordK; rw [hk]; simp⟩)]
  rfl
/-- What a call of file leaves. -/
def FilePost (g : Nat) (L : List Tok) (w : World) (e : Ending) (w' : World) : Prop :=
  (∃ xs, itemsP L 0 = .inr xs ∧ ∃ v, e = .returned v ∧ MadeI w w' v xs ∧ w.grownBy w' (some g)) ∨ (∃ j, itemsP L 0 = .inl j ∧ e = diesAt L j ∧ w.grownBy w' (some g))

set_option maxRecDepth 100000 in
set_option maxHeartbeats 4000000 in
theorem file_any (hF : Fine L) (W : World) (h : Rdr W g b o c L 0 0) :
    Calls Tryd.prog 19 #[.pointer (some ⟨g, 0, none⟩)] W (FilePost g L W) := by
  obtain ⟨i0, hti, hz0, hz1, hz2⟩ := info_parts (show (Tryd.prog.info? 69).map (fun i => (i.zero, i.size, i.bytes)) = some (some (.agg #[.string ⟨#[]⟩, .int .i64 0, .slice none 0 0, .slice none 0 0]), 4, 72) by kernel_rfl)
  have hg := h.glt
  have HR0 := Lib.hid h
  have hlen := hF.len
  have IT := Lib.hid (fun (k : Nat) (V : World) (hv : Rdr V g b o c L k 0) => item_any hF k V hv)
  have OK := Lib.hid (fun (xs : List It) (v : Value) (w' : World) (h1 : itemsP L 0 = .inr xs) (h2 : MadeI W w' v xs) (h3 : W.grownBy w' (some g)) => (show FilePost g L W (.returned v) w' from .inl ⟨xs, h1, v, rfl, h2, h3⟩))
  have BAD := Lib.hid (fun (j : Nat) (e : Ending) (w' : World) (h1 : itemsP L 0 = .inl j) (h2 : e = diesAt L j) (h3 : W.grownBy w' (some g)) => (show FilePost g L W e w' from .inr ⟨j, h1, h2, h3⟩))
  clear h
  go_enter Tryd.func19, Tryd.ntmps19
  go_wp2_with fail
  go_loopg [3] L.length (fun gg l wr => ∃ (k : Nat) (xs : List It), L.length - k ≤ gg ∧ xs.length ≤ k ∧ Rdr wr g b o c L k 0 ∧ RowIt wr 69 W.heap.size l xs ∧ W.grownBy wr (some g) ∧ Hid (itemsP L 0 = joinI xs (itemsP L k)))
  case atStart => exact ⟨0, [], by omega, Nat.zero_le _, HR0.out, rowIt_nil _ _ _, only_refl _ _, Lib.hid (by cases itemsP L 0 <;> rfl)⟩
  case round =>
    obtain ⟨k, xs, hgg, hxk, hr, hrow, ho, HQ⟩ := hrel
    have h0 := hr.c0
    have hk := hr.here
    obtain ⟨t0, t1, t2, t3⟩ := hr.toks k hk
    have HR := Lib.hid hr
    have HROW := Lib.hid hrow
    have HO := Lib.hid ho
    have HTI := Lib.hid (tkD_at hk)
    obtain ⟨tk, htk⟩ : ∃ tk, L[k].kind = tk := ⟨_, rfl⟩
    rw [htk] at t0
    have HTK := Lib.hid (show (tkD L k).kind = tk by rw [HTI.out, htk])
    obtain ⟨n, hn⟩ : ∃ n, L.length - k = n := ⟨_, rfl⟩
    obtain ⟨q, hq⟩ : ∃ q, c - k = q := ⟨_, rfl⟩
    obtain ⟨a, ha⟩ : ∃ a, o + k * 4 = a := ⟨_, rfl⟩
    have hn0 : (0 : Int) < (n : Int) := by omega
    rw [hn, hq, ha] at h0
    rw [ha] at t0 t1 t2 t3
    have HN := Lib.hid hn
    clear hr hrow ho htk hq ha hn
    cases hz : (tk == 0) with
    | true =>
      have hz' : (tk != 0) = false := by rw [bne, hz]; rfl
      have HF2 := Lib.hid (show itemsP L 0 = .inr xs by rw [HQ.out, items_none hF.ended (by rw [HTK.out]; simpa using hz)]; show Sum.inr (xs ++ []) = _; rw [List.append_nil])
      have HI := Lib.hid (HROW.out.made (w := W) (Nat.le_refl _) (by omega))
      obtain ⟨a', c', hv⟩ : ∃ a' c', u3 = .slice a' xs.length c' := by
        obtain ⟨_, _, _, hown⟩ := HROW.out
        exact own_slice hown
      subst hv
      clear hz
      go_wp2_with fail
      go_ret
      exact OK.out xs _ _ HF2.out HI.out HO.out
    | false =>
      have hz' : (tk != 0) = true := by rw [bne, hz]; rfl
      have HNZ := Lib.hid (show (tkD L k).kind ≠ 0 by rw [HTK.out]; simpa using hz)
      clear hz
      go_wp2_with fail
      refine (IT.out k _ HR.out).mono ?_
      rintro e w2 (⟨hkey, hok, vw, vt, rfl, hrw, hr2, ho2⟩ | ⟨hkey, hok, hd, ho2⟩ | ⟨hkey, hd, ho2⟩)
      case inr.inl =>
        have HB := Lib.hid (BAD.out _ e w2 (show itemsP L 0 = .inl (itemR L k).2.1 by rw [HQ.out, items_key hF hkey, if_pos hok]; rfl) hd (only_trans HO.out ho2))
        unfold diesAt at hd
        subst hd
        clear ho2
        go_wp2_with fail
        exact ⟨rfl, HB.out⟩
      case inr.inr =>
        have HB := Lib.hid (BAD.out _ e w2 (show itemsP L 0 = .inl k by rw [HQ.out, items_nokey hF.ended HNZ.out hkey]; rfl) hd (only_trans HO.out ho2))
        unfold diesAt at hd
        subst hd
        clear ho2
        go_wp2_with fail
        exact ⟨rfl, HB.out⟩
      case inl =>
        have hle : k + 1 ≤ (itemR L k).2.1 := goP_le L _ _ (k + 1)
        have hkeys := goP_key L (shapesOf (tkD L k).text) ⟨(tkD L k).text, (tkD L k).place, [], []⟩ (k + 1)
        have HQ2 := Lib.hid (show itemsP L 0 = joinI (xs ++ [(itemR L k).1]) (itemsP L (itemR L k).2.1) by rw [HQ.out, items_key hF hkey, if_neg (by rw [hok]; decide), joinI_join])
        have hfit := (hF.ok k).len
        obtain ⟨⟨aw, cw, rfl⟩, at_, ct, rfl⟩ := hrw.slices
        have hm1 : (itemR L k).1.words.length ≤ 9223372036854775807 := by obtain ⟨_, _, _, hown⟩ := hrw.wds; exact own_max hown
        have hm2 : (itemR L k).1.trees.length ≤ 9223372036854775807 := by obtain ⟨_, _, _, hown⟩ := hrw.trs; exact own_max hown
        have hsz2 := ho2.size
        have hszr := HO.out.size
        have hmade := fun W' g1 g2 => hrw.made hm1 hm2 W' g1 g2
        obtain ⟨⟨⟨key, spot, ws, ts⟩, j, ok⟩, hx⟩ : ∃ y, itemR L k = y := ⟨_, rfl⟩
        unfold itemR at hx
        rw [hx] at hkeys
        obtain ⟨hkk, hks⟩ := hkeys
        simp only at hkk hks
        have hx' : itemR L k = (⟨key, spot, ws, ts⟩, j, ok) := hx
        rw [hx'] at HQ2 hr2 hle hmade hrw
        rw [hx']
        simp only at HQ2 hr2 hle hmade hrw ⊢
        rw [← hkk, ← hks]
        have HKS := Lib.hid (show key.size ≤ 9223372036854775807 by rw [hkk]; exact hfit)
        have hB : Below w2.heap.size w2 (w2.alloc (.cells #[.string key, .int .i64 spot, .slice aw ws.length cw, .slice at_ ts.length ct] 69)) := (Below.refl _ _).alloc (Nat.le_refl _) _
        have HR3 := Lib.hid (hr2.below hB)
        have HO3 := Lib.hid (only_next (only_trans HO.out ho2) hB)
        obtain ⟨vs, hvt, hvl, hown⟩ := HROW.out.only ho2 hg
        obtain ⟨_, _, _, hownr⟩ := HROW.out
        have hlr := own_row_lt hownr
        have hlo := own_row_ge hown
        have hlive : LiveIt w2 u3.ownBlock W.heap.size ⟨⟨key, spot, ws, ts⟩, .slice aw ws.length cw, .slice at_ ts.length ct⟩ :=
          ⟨wr.heap.size, w2.heap.size, hszr, hsz2, Nat.le_refl _, fun q e => .inl (hlr q e), fun W' g1 g2 => ⟨(hmade W' g1 g2).1, (hmade W' g1 g2).2, HKS.out⟩⟩
        have HY := Lib.hid (hlive.below hB)
        have HVL := Lib.hid (fun x hx => (hvl x hx).below hB)
        have HVT := Lib.hid hvt
        have hlen3 : xs.length ≤ 100000 := by omega
        clear hkey hok hrw hr2 ho2 hm1 hm2 hmade hx hx' hkk hks hfit hB hlive hvl hvt hownr hlr
        go_wp2_with (at_builtin; refine wpList_append_own_at _ rfl _ _ 23 rfl W.heap.size 69 i0 (.agg #[.string ⟨#[]⟩, .int .i64 0, .slice none 0 0, .slice none 0 0]) 4 72 Tryd.underlying23 hti hz0 hz1 hz2 rfl (by decide) _ xs.length _ rfl (hown.alloc _) ⟨w2.heap.size, 0, none⟩ 1 1 [.string key, .int .i64 spot, .slice aw ws.length cw, .slice at_ ts.length ct] rfl rfl ?c1 ?c2 ?c3 ?c4 ?c5 ?_)
        case c1 => exact new_row w2 _ _
        case c2 => exact iv_one ⟨⟨key, spot, ws, ts⟩, .slice aw ws.length cw, .slice at_ ts.length ct⟩ rfl rfl
        case c3 => unfold maxLen; omega
        case c4 => omega
        case c5 => simp; omega
        intro v' w4 hown' hgrow _ hat
        have hrow4 := RowIt.snoc (y := ⟨⟨key, spot, ws, ts⟩, .slice aw ws.length cw, .slice at_ ts.length ct⟩) HVT.out HVL.out HY.out hown' hgrow (by simpa using hat)
        have HROW4 := Lib.hid hrow4
        have HO4 := Lib.hid (only_row HO3.out hgrow hlo)
        have HR4 := Lib.hid (HR3.out.row hgrow (fun q e => by have := hlo q e; omega))
        clear hrow4 hown' hgrow hat hown hlo
        go_wp2_with fail
        go_roundg (L.length - j)
        case measure => omega
        case rel => exact ⟨j, xs ++ [⟨key, spot, ws, ts⟩], Nat.le_refl _, by rw [List.length_append]; show xs.length + 1 ≤ j; omega, HR4.out, HROW4.out, HO4.out, HQ2⟩
end
end Go.Proofs.YtldgbdmiebipnaaDoor

namespace Go.Proofs.YtldgbdmiebipnaaDoor
open Go.RowKit

theorem hb_text {s : ByteArray} {i : Nat} {c : Cut} (h : 1 ≤ c.len ∧ i + c.len ≤ s.size) : (s.extract i (i + c.len)).size = c.len := by simp; omega
end Go.Proofs.YtldgbdmiebipnaaDoor

namespace Go.Proofs.YtldgbdmiebipnaaDoor
open Go.RowKit

theorem tokL_kind {l : List UInt8} {c : Cut} (h : tokL l = some c) : c.kind ≠ 0 := by
  have hn : ∀ {k : Int} {t : List UInt8} {least : Int} {len : Nat}, k ≠ 0 → numCut k t least len = some c → c.kind ≠ 0 := by
    intro k t least len hk h
    unfold numCut at h; split at h
    · cases h; exact hk
    · cases h
  unfold tokL at h
  split at h
  · exact hn (by decide) h
  · split at h
    · exact hn (by decide) h
    · split at h
      · cases h; decide
      · split at h
        · exact hn (by decide) h
        · split at h
          · split at h
            · cases h; exact (by decide : (2 : Int) ≠ 0)
            · split at h
              · cases h; exact (by decide : (1 : Int) ≠ 0)
              · cases h
          · cases h
theorem rest_list (s : ByteArray) (i : Nat) : (s.extract i s.size).data.toList = s.data.toList.drop i := by
  rw [ext_list, List.take_of_length_le (by simp)]
theorem rest_text (s : ByteArray) {i n : Nat} (_h : i + n ≤ s.size) : (s.extract i s.size).extract 0 n = s.extract i (i + n) := by
  rw [← bs_list ((s.extract i s.size).extract 0 n), ext_list, rest_list, List.drop_zero, ← bs_list (s.extract i (i + n)), ext_list, List.drop_take, show i + n - i = n from by omega]
end Go.Proofs.YtldgbdmiebipnaaDoor

namespace Go.Proofs.YtldgbdmiebipnaaDoor
open Go.RowKit

set_option maxHeartbeats 400000 in
theorem parts_any (s : ByteArray) (fi : Int) (f m : Nat) (hfi : fi = f) (hm : m = f + run s f) (hf : f ≤ s.size) (hs : s.size ≤ 9223372036854775806) (w : World) :
    Calls Tryd.prog 72 #[.string s, .int .i64 fi] w fun e w' => e = .returned (.int .i64 m) ∧ w = w' := by
  subst hfi
  have HM := Lib.hid hm
  clear hm
  go_enter Tryd.func72, Tryd.ntmps72
  go_wp2
  go_loop [1] (fun i => ∃ k : Nat, k ≤ s.size ∧ i = .int .i64 k ∧ m = k + run s k) (fun i => s.size - (intOf i).toNat)
  case atStart => exact ⟨f, hf, rfl, HM.out⟩
  case round =>
    obtain ⟨k, hk, rfl, ha⟩ := hrel
    have HA := Lib.hid ha
    clear ha
    by_cases hlt : k < s.size
    · cases hp : part (s[k].toNat : Int) with
      | true =>
        have HP := Lib.hid hp
        clear hp
        go_wp2_with (go_at_call 84; refine (part_any _ _).mono ?_; rintro e w' ⟨rfl, rfl⟩; rw [HP.out])
        go_round
        case rel => exact ⟨k + 1, by omega, by go_num, by have := run_some s hlt HP.out; have := HA.out; omega⟩
        case measure => simp [intOf]; omega
      | false =>
        have HP := Lib.hid hp
        clear hp
        go_wp2_with (go_at_call 84; refine (part_any _ _).mono ?_; rintro e w' ⟨rfl, rfl⟩; rw [HP.out])
        go_ret
        exact ⟨ret_int (by have := run_none s hlt HP.out; have := HA.out; omega), rfl⟩
    · go_wp2
      go_ret
      refine ⟨ret_int ?_, rfl⟩
      have e : k = s.size := by omega
      have := run_end s
      have := HA.out
      rw [e] at this
      omega
end Go.Proofs.YtldgbdmiebipnaaDoor

namespace Go.Proofs.YtldgbdmiebipnaaDoor
open Go.RowKit

theorem laidMet_head {P : Program} {x : String × DataW Unit} {r : List (String × DataW Unit)} {w : World} (h : laidMet P (x :: r) w) : laidMet P [x] w := by
  obtain ⟨ps, hv, hnd, hrows⟩ := h
  obtain ⟨n, d⟩ := x
  obtain ⟨g, t, cs, fuel, p, q, h1, h2, h3, h4, hq, rfl⟩ := hv
  refine ⟨_, ⟨g, t, cs, fuel, p, [], h1, h2, h3, h4, rfl, rfl⟩, ?_, ?_⟩
  · rw [List.append_nil]
    exact List.Nodup.sublist (List.sublist_append_left _ _) hnd
  · intro b off hm
    rw [List.append_nil] at hm
    exact hrows b off (List.mem_append_left _ hm)
theorem laidMet_one {P : Program} {x : String × DataW Unit} {w : World} : ∀ {l : List (String × DataW Unit)}, laidMet P l w → x ∈ l → laidMet P [x] w
  | [], _, hm => by cases hm
  | y :: r, h, hm => by
    rcases List.mem_cons.1 hm with rfl | hm
    · exact laidMet_head h
    · exact laidMet_one h.tail hm
theorem gPow : Tryd.prog.globalNamed "internal/strconv.uint64pow10" = some 3 := by kernel_rfl
theorem gPowType : (Tryd.prog.globals[3]?).map (·.type) = some 160 := by kernel_rfl
theorem cellsPow : Tryd.prog.cellsOf 160 = 20 := by kernel_rfl
theorem cellsU64 : Tryd.prog.cellsOf 127 = 1 := by kernel_rfl
theorem lt_of_var {w : World} {n : String} {g : Nat} {cs : Array Value} (hg : Tryd.prog.globalNamed n = some g) (h : w.var? Tryd.prog n = some cs) : g < w.heap.size := by
  unfold World.var? at h
  rw [hg] at h
  simp only [Option.bind_some] at h
  rcases Nat.lt_or_ge g w.heap.size with h' | h'
  · exact h'
  · simp [Array.getElem?_eq_none h'] at h
theorem below_grow (w : World) (k : Nat) (os : Array Obj) : Below w.heap.size w (Sort.grow (w.drewN k) os) :=
  ⟨rfl, rfl, rfl, by show w.heap.size ≤ (w.heap ++ os).size; simp, fun i hi => by show (w.heap ++ os)[i]? = _; rw [Array.getElem?_append_left hi]⟩
end Go.Proofs.YtldgbdmiebipnaaDoor

namespace Go.Proofs.YtldgbdmiebipnaaDoor
open Go.RowKit

theorem gRange : Tryd.prog.globalNamed "strconv.ErrRange" = some 2 := by kernel_rfl
theorem gRangeType : (Tryd.prog.globals[2]?).map (·.type) = some 81 := by kernel_rfl
theorem gSyntax : Tryd.prog.globalNamed "strconv.ErrSyntax" = some 1 := by kernel_rfl
theorem gSyntaxType : (Tryd.prog.globals[1]?).map (·.type) = some 81 := by kernel_rfl
theorem cellsErr : Tryd.prog.cellsOf 157 = 1 := by kernel_rfl
theorem cellsStr : Tryd.prog.cellsOf 9 = 1 := by kernel_rfl
theorem starErr : "*" ++ "errors.errorString" = "*errors.errorString" := by decide
theorem rowErr (u : TypeId) (h : Tryd.prog.typeName? 3 u = some "*errors.errorString") : u = 155 :=
  typeName_ptr_named (nm := "errors.errorString") (by rw [starErr]; kernel_rfl) (by kernel_rfl) (by decide) u (by rw [starErr]; exact h)

/-- What the contracts of strconv ask of a world. -/
structure Tabs (w : World) : Prop where
  pow : Lib.TabIs Tryd.prog w "internal/strconv.uint64pow10" .u64 Lib.pow10Tab
  eSyn : ∃ tp p, w.var? Tryd.prog "strconv.ErrSyntax" = some #[.iface tp p]
  eRng : ∃ tp p, w.var? Tryd.prog "strconv.ErrRange" = some #[.iface tp p]
  size : 3 < w.heap.size ∧ 1 < w.heap.size ∧ 2 < w.heap.size

theorem var_below {w w' : World} {n : String} {g : Nat} {cs : Array Value} (hb : Below w.heap.size w w') (hg : Tryd.prog.globalNamed n = some g) (hl : g < w.heap.size) (h : w.var? Tryd.prog n = some cs) : w'.var? Tryd.prog n = some cs := by
  unfold World.var? at h ⊢
  rw [hg] at h ⊢
  simp only [Option.bind_some] at h ⊢
  rw [hb.block g hl]
  exact h
theorem Tabs.below {w w' : World} (h : Tabs w) (hb : Below w.heap.size w w') : Tabs w' where
  pow := var_below hb gPow h.size.1 h.pow
  eSyn := by obtain ⟨tp, p, e⟩ := h.eSyn; exact ⟨tp, p, var_below hb gSyntax h.size.2.1 e⟩
  eRng := by obtain ⟨tp, p, e⟩ := h.eRng; exact ⟨tp, p, var_below hb gRange h.size.2.2 e⟩
  size := ⟨Nat.lt_of_lt_of_le h.size.1 hb.size, Nat.lt_of_lt_of_le h.size.2.1 hb.size, Nat.lt_of_lt_of_le h.size.2.2 hb.size⟩

theorem tabs_of {l : List (String × DataW Unit)} {w : World} (h : laidMetH Tryd.prog l w) (hp : (l.all fun x => x.2.handleName?.isNone) = true)
    (h1 : ("internal/strconv.uint64pow10", Rows.laid_internal_strconv_uint64pow10) ∈ l) (h2 : ("strconv.ErrRange", Rows.laid_strconv_ErrRange) ∈ l) (h3 : ("strconv.ErrSyntax", Rows.laid_strconv_ErrSyntax) ∈ l) : Tabs w := by
  rw [MakeChecks.laidMetH_plain _ _ _ hp] at h
  have a1 : Lib.TabIs Tryd.prog w "internal/strconv.uint64pow10" .u64 Lib.pow10Tab :=
    Lib.tabIs_of_head (rest := []) gPow gPowType Tryd.underlying160 Tryd.underlying127 cellsU64 cellsPow (laidMet_one h h1)
  obtain ⟨a, s, hv, _⟩ := laid_sentinel (laidMet_one h h2) gRange gRangeType Tryd.underlying81 rowErr Tryd.underlying155 Tryd.underlying157 rfl rfl Tryd.underlying9 cellsErr cellsStr
  obtain ⟨a', s', hv', _⟩ := laid_sentinel (laidMet_one h h3) gSyntax gSyntaxType Tryd.underlying81 rowErr Tryd.underlying155 Tryd.underlying157 rfl rfl Tryd.underlying9 cellsErr cellsStr
  exact ⟨a1, ⟨_, _, hv'⟩, ⟨_, _, hv⟩, lt_of_var gPow a1, lt_of_var gSyntax hv', lt_of_var gRange hv⟩

/-- strconv.Atoi at a text that is no numeral, and not out of range: an error that isn't nil. -/
theorem atoi_bad (s : ByteArray) (hlim : s.size ≤ 281474976710656) (h1 : ∀ v, Lib.atoiAll s.data.toList ≠ .ok v) (h2 : Lib.atoiAll s.data.toList ≠ .range) (tp : TypeId) (p : Value) (w : World)
    (hvar : w.var? Tryd.prog "strconv.ErrSyntax" = some #[.iface tp p]) :
    Calls Tryd.prog 92 #[.string s] w fun e w' => ∃ N, e = .returned (.tuple #[.int .i64 0, .iface 139 (.pointer (some ⟨N, 0, none⟩))]) ∧ Below w.heap.size w w' := by
  cases ha : Lib.atoiAll s.data.toList with
  | ok v => exact absurd ha (h1 v)
  | range => exact absurd ha h2
  | _ =>
    refine (Go.Proofs.Any.strconv_Atoi_syntax_var Tryd.laysC172 s hlim ha tp p w hvar).mono ?_
    rintro e w' ⟨N, h, _, _, hb⟩
    exact ⟨N, h, hb⟩

end Go.Proofs.YtldgbdmiebipnaaDoor

namespace Go.Proofs.YtldgbdmiebipnaaDoor
open Go.RowKit

set_option maxHeartbeats 400000 in
theorem digits_any (n : Int) (h0 : -9223372036854775808 ≤ n) (h1 : n ≤ 9223372036854775807) (w : World) (hT : Tabs w) :
    Calls Tryd.prog 89 #[.int .i64 n] w fun e w' => e = .returned (.string ⟨(Lib.itoa n).toArray⟩) ∧ Below w.heap.size w w' := by
  have c := Tryd.strconv_Itoa n h0 h1 w hT.pow
  have C := Lib.hid c
  clear c hT
  go_enter Tryd.func89, Tryd.ntmps89
  go_wp2_with (go_at_call 94; refine C.out.mono ?_; rintro e w' ⟨rfl, k, os, rfl⟩)
  go_ret
  exact ⟨rfl, below_grow _ _ _⟩
theorem below_bytes {w w' : World} (h : w' = w ∨ ∃ t, w' = Lib.bytesWorld w 5 t) : Below w.heap.size w w' := by
  rcases h with rfl | ⟨t, rfl⟩
  · exact Below.refl _ _
  · exact Lib.bytesWorld_below _ _ _
set_option maxHeartbeats 400000 in
theorem number_any (s : ByteArray) (hs : s.size ≤ 281474976710656) (w : World) (hT : Tabs w) :
    Calls Tryd.prog 85 #[.string s] w fun e w' => e = numEnd s ∧ Below w.heap.size w w' := by
  have HT := Lib.hid hT
  cases ha : Lib.atoiAll s.data.toList with
  | ok v =>
    have C := Lib.hid (Tryd.strconv_Atoi_ok s (by omega) v ha w)
    have hb := Lib.atoiAll_bounds ha
    have HA := Lib.hid ha
    clear ha hT
    by_cases hv : 0 ≤ v ∧ v ≤ 999
    · have D := Lib.hid (fun w (hT : Tabs w) => digits_any v hb.1 hb.2 w hT)
      obtain ⟨v, rfl⟩ := Int.eq_ofNat_of_zero_le hv.1
      by_cases he : Lib.itoa v = s.data.toList
      · have hq : (Lib.itoa v == s.toList) = true := by rw [beq_iff_eq, he, ByteArray.toList_eq]
        have HE := Lib.hid he
        clear he
        go_enter Tryd.func85, Tryd.ntmps85
        go_wp2_with (first | (go_at_call 92; refine C.out.mono ?_; rintro e w1 ⟨rfl, hw⟩; replace hw := below_bytes hw) | (go_at_call 89; refine (D.out _ (HT.out.below (by assumption))).mono ?_; rintro e w2 ⟨rfl, hw2⟩))
        go_ret2
        exact ⟨numEnd_some (num_good hv.1 hv.2 HE.out), hw.trans (hw2.mono hw.size)⟩
      · have hq : (Lib.itoa v == s.toList) = false := by rw [beq_eq_false_iff_ne, ByteArray.toList_eq]; exact he
        have HE := Lib.hid he
        clear he
        go_enter Tryd.func85, Tryd.ntmps85
        go_wp2_with (first | (go_at_call 92; refine C.out.mono ?_; rintro e w1 ⟨rfl, hw⟩; replace hw := below_bytes hw) | (go_at_call 89; refine (D.out _ (HT.out.below (by assumption))).mono ?_; rintro e w2 ⟨rfl, hw2⟩))
        go_ret2
        exact ⟨numEnd_none (num_other HA.out HE.out), hw.trans (hw2.mono hw.size)⟩
    · go_enter Tryd.func85, Tryd.ntmps85
      go_wp2_with (go_at_call 92; refine C.out.mono ?_; rintro e w1 ⟨rfl, hw⟩; replace hw := below_bytes hw)
      all_goals go_ret2
      all_goals exact ⟨numEnd_none (num_bad HA.out hv), hw⟩
  | range =>
    obtain ⟨tp, p, hv⟩ := hT.eRng
    have C := Lib.hid (Tryd.strconv_Atoi_range_var s hs ha tp p w hv)
    have HN := Lib.hid (num_err (l := s.data.toList) (fun v => by rw [ha]; exact fun e => by cases e))
    clear ha hT hv
    go_enter Tryd.func85, Tryd.ntmps85
    go_wp2_with (go_at_call 92; refine C.out.mono ?_; rintro e w1 ⟨N, rfl, _, _, hw⟩)
    go_ret2
    exact ⟨numEnd_none HN.out, hw⟩
  | _ =>
    obtain ⟨tp, p, hv⟩ := hT.eSyn
    have C := Lib.hid (atoi_bad s hs (fun v e => by rw [ha] at e; cases e) (fun e => by rw [ha] at e; cases e) tp p w hv)
    have HN := Lib.hid (num_err (l := s.data.toList) (fun v => by rw [ha]; exact fun e => by cases e))
    clear ha hT hv
    go_enter Tryd.func85, Tryd.ntmps85
    go_wp2_with (go_at_call 92; refine C.out.mono ?_; rintro e w1 ⟨N, rfl, hw⟩)
    go_ret2
    exact ⟨numEnd_none HN.out, hw⟩
end Go.Proofs.YtldgbdmiebipnaaDoor

namespace Go.Proofs.YtldgbdmiebipnaaDoor
open Go.RowKit

set_option maxHeartbeats 400000 in
theorem upper_any (s : ByteArray) (hs : s.size ≤ 9223372036854775806) (w : World) :
    Calls Tryd.prog 83 #[.string s] w fun e w' => e = .returned (.bool (upperB s)) ∧ Below w.heap.size w w' := by
  have HW := Lib.hid (show upperB s = (speltB s 2 && !Lib.containsS keyList s) from rfl)
  have C := Lib.hid (fun w => spelt_any s 2 hs w)
  have K := Lib.hid (fun w => key_any s w)
  cases hp : speltB s 2 with
  | true =>
    have HP := Lib.hid hp
    clear hp
    go_enter Tryd.func83, Tryd.ntmps83
    go_wp2_with (first | (go_at_call 91; refine (C.out _).mono ?_; rintro e w1 ⟨rfl, hb⟩; rw [HP.out]) | (go_at_call 55; refine (K.out _).mono ?_; rintro e w2 ⟨rfl, hb2⟩))
    go_ret
    exact ⟨ret_bool (by rw [HW.out, HP.out]; rfl), hb.trans (hb2.mono hb.size)⟩
  | false =>
    have HP := Lib.hid hp
    clear hp
    go_enter Tryd.func83, Tryd.ntmps83
    go_wp2_with (go_at_call 91; refine (C.out _).mono ?_; rintro e w1 ⟨rfl, hb⟩; rw [HP.out])
    go_ret
    exact ⟨ret_bool (by rw [HW.out, HP.out]; rfl), hb⟩
end Go.Proofs.YtldgbdmiebipnaaDoor

namespace Go.Proofs.YtldgbdmiebipnaaDoor
open Go.RowKit

set_option maxRecDepth 100000 in
set_option maxHeartbeats 400000 in
theorem number_fn (kind : Int) (t x : ByteArray) (fi : Int) (f : Nat) (least : Int) (len : Nat) (hfi : fi = f) (hf : f ≤ t.size) (hx : t.extract f t.size = x) (hs : t.size ≤ 281474976710656) (w : World) (hT : Tabs w) :
    Calls Tryd.prog 73 #[.int .i64 kind, .string t, .int .i64 fi, .int .i64 least] w fun e w' => e = .returned (tokV t (numCut kind x.data.toList least len)) ∧ Below w.heap.size w w' := by
  subst hfi
  have hxs : x.size ≤ 281474976710656 := by rw [← hx]; simp; omega
  have C := Lib.hid (fun w hT => number_any x hxs w hT)
  have HX := Lib.hid hx
  have HT := Lib.hid hT
  clear hx hT
  have hE : numEnd x = .returned (.tuple #[.int .i64 (numVal x.data.toList), .bool (isNum x.data.toList)]) := rfl
  have hv := numVal_bd x.data.toList
  cases hi : isNum x.data.toList with
  | false =>
    have HC := Lib.hid (show numCut kind x.data.toList least len = none from by unfold numCut; rw [hi]; simp)
    rw [hi] at hE
    have E := Lib.hid hE
    clear hE hi
    go_enter Tryd.func73, Tryd.ntmps73
    go_wp2_with fail
    rw [HX.out]
    refine (C.out _ (HT.out.below ((Below.refl _ _).alloc (Nat.le_refl _) _))).mono ?_; rintro e w1 ⟨rfl, hb⟩
    rw [E.out]
    obtain ⟨c0, c1, c2, c3, f0, f1, f2, f3⟩ := box_after hb
    replace hb := below_box hb
    go_wp2_with fail

    exact bodyPost_ret (v := tokV t none) (by simp [results, Tryd.results73, go_sem, tokV, c0, c1, c2, c3]) rfl ⟨by rw [HC.out], (((hb.setCell (Nat.le_refl _) _).setCell (Nat.le_refl _) _).setCell (Nat.le_refl _) _).setCell (Nat.le_refl _) _⟩
  | true =>
    rw [hi] at hE
    have E := Lib.hid hE
    clear hE
    by_cases hlt : numVal x.data.toList < least
    · have HC := Lib.hid (show numCut kind x.data.toList least len = none from by unfold numCut; rw [if_neg]; rintro ⟨_, h⟩; exact h hlt)
      clear hi
      obtain ⟨n, hn⟩ : ∃ n, n = numVal x.data.toList := ⟨_, rfl⟩
      rw [← hn] at hlt E hv
      have HN := Lib.hid hn
      clear hn
      go_enter Tryd.func73, Tryd.ntmps73
      go_wp2_with fail
      rw [HX.out]
      refine (C.out _ (HT.out.below ((Below.refl _ _).alloc (Nat.le_refl _) _))).mono ?_; rintro e w1 ⟨rfl, hb⟩
      rw [E.out]
      obtain ⟨c0, c1, c2, c3, f0, f1, f2, f3⟩ := box_after hb
      replace hb := below_box hb
      go_wp2_with fail
      exact bodyPost_ret (v := tokV t none) (by simp [results, Tryd.results73, go_sem, tokV, c0, c1, c2, c3]) rfl ⟨by rw [HC.out], (((hb.setCell (Nat.le_refl _) _).setCell (Nat.le_refl _) _).setCell (Nat.le_refl _) _).setCell (Nat.le_refl _) _⟩
    · have HC := Lib.hid (show numCut kind x.data.toList least len = some ⟨kind, numVal x.data.toList, len⟩ from by unfold numCut; rw [if_pos ⟨hi, hlt⟩])
      clear hi
      obtain ⟨n, hn⟩ : ∃ n, n = numVal x.data.toList := ⟨_, rfl⟩
      rw [← hn] at hlt E hv HC
      have HN := Lib.hid hn
      clear hn
      go_enter Tryd.func73, Tryd.ntmps73
      go_wp2_with fail
      rw [HX.out]
      refine (C.out _ (HT.out.below ((Below.refl _ _).alloc (Nat.le_refl _) _))).mono ?_; rintro e w1 ⟨rfl, hb⟩
      rw [E.out]
      obtain ⟨c0, c1, c2, c3, f0, f1, f2, f3⟩ := box_after hb
      replace hb := below_box hb
      go_wp2_with fail
      exact bodyPost_ret (v := tokV t (some ⟨kind, n, len⟩)) (by simp [results, Tryd.results73, go_sem, tokV, c0, c1, c2, c3]) rfl ⟨by rw [HC.out], (((hb.setCell (Nat.le_refl _) _).setCell (Nat.le_refl _) _).setCell (Nat.le_refl _) _).setCell (Nat.le_refl _) _⟩
set_option maxRecDepth 100000 in
set_option maxHeartbeats 400000 in
theorem word_fn (t : ByteArray) (len : Nat) (hs : t.size ≤ 1000000) (w : World) :
    Calls Tryd.prog 71 #[.string t] w fun e w' => e = .returned (tokV t (wordCut t len)) ∧ Below w.heap.size w w' := by
  have W := Lib.hid (fun w => word_any t (by omega) w)
  have K := Lib.hid (fun w => key_any t w)
  have U := Lib.hid (fun w => upper_any t (by omega) w)
  cases hw : wordB t with
  | true =>
    have HC := Lib.hid (show wordCut t len = some ⟨1, 0, len⟩ from by unfold wordCut; rw [if_neg (by rw [word_not_upper hw]; simp), if_pos (.inl hw)])
    rw [hw] at W
    clear hw
    go_enter Tryd.func71, Tryd.ntmps71
    go_wp2_with fail
    refine (W.out _).mono ?_; rintro e w1 ⟨rfl, hb⟩
    obtain ⟨c0, c1, c2, c3, f0, f1, f2, f3⟩ := box_after hb
    replace hb := below_box hb
    go_wp2_with fail
    exact bodyPost_ret (v := tokV t (some ⟨1, 0, len⟩)) (by simp [results, Tryd.results71, go_sem, tokV, c0, c1, c2, c3]) rfl ⟨by rw [HC.out], (((hb.setCell (Nat.le_refl _) _).setCell (Nat.le_refl _) _).setCell (Nat.le_refl _) _).setCell (Nat.le_refl _) _⟩
  | false =>
    cases hk : Lib.containsS keyList t with
    | true =>
      have HC := Lib.hid (show wordCut t len = some ⟨1, 0, len⟩ from by unfold wordCut; rw [if_neg (by rw [key_not_upper hk]; simp), if_pos (.inr hk)])
      rw [hw] at W
      rw [hk] at K
      clear hw hk
      go_enter Tryd.func71, Tryd.ntmps71
      go_wp2_with fail
      refine (W.out _).mono ?_; rintro e w1 ⟨rfl, hb⟩
      replace hb := below_box' (box_new _ _ _ _ _ _) hb
      obtain ⟨hx, hb⟩ := hb
      go_wp2_with fail
      refine (K.out _).mono ?_; rintro e w2 ⟨rfl, hb2⟩
      have hx2 := hx.below hb2 hb.2
      replace hb := hb.1.trans (hb2.mono hb.1.size)
      clear hb2 hx
      obtain ⟨c0, c1, c2, c3, f0, f1, f2, f3⟩ := hx2
      go_wp2_with fail
      exact bodyPost_ret (v := tokV t (some ⟨1, 0, len⟩)) (by simp [results, Tryd.results71, go_sem, tokV, c0, c1, c2, c3]) rfl ⟨by rw [HC.out], (((hb.setCell (Nat.le_refl _) _).setCell (Nat.le_refl _) _).setCell (Nat.le_refl _) _).setCell (Nat.le_refl _) _⟩
    | false =>
      cases hu : upperB t with
      | true =>
        have HC := Lib.hid (show wordCut t len = some ⟨2, 0, len⟩ from by unfold wordCut; rw [if_pos hu])
        rw [hw] at W
        rw [hk] at K
        rw [hu] at U
        clear hw hk hu
        go_enter Tryd.func71, Tryd.ntmps71
        go_wp2_with fail
        refine (W.out _).mono ?_; rintro e w1 ⟨rfl, hb⟩
        replace hb := below_box' (box_new _ _ _ _ _ _) hb
        obtain ⟨hx, hb⟩ := hb
        go_wp2_with fail
        refine (K.out _).mono ?_; rintro e w2 ⟨rfl, hb2⟩
        have hx2 := hx.below hb2 hb.2
        have hb3 : Below w.heap.size w w2 ∧ w.heap.size < w2.heap.size := ⟨hb.1.trans (hb2.mono hb.1.size), Nat.lt_of_lt_of_le hb.2 hb2.size⟩
        clear hb2 hx hb
        go_wp2_with fail
        refine (U.out _).mono ?_; rintro e w3 ⟨rfl, hb4⟩
        have hx3 := hx2.below hb4 hb3.2
        have hb := hb3.1.trans (hb4.mono hb3.1.size)
        clear hb4 hx2 hb3
        obtain ⟨c0, c1, c2, c3, f0, f1, f2, f3⟩ := hx3
        go_wp2_with fail
        exact bodyPost_ret (v := tokV t (some ⟨2, 0, len⟩)) (by simp [results, Tryd.results71, go_sem, tokV, c0, c1, c2, c3]) rfl ⟨by rw [HC.out], (((hb.setCell (Nat.le_refl _) _).setCell (Nat.le_refl _) _).setCell (Nat.le_refl _) _).setCell (Nat.le_refl _) _⟩
      | false =>
        have HC := Lib.hid (show wordCut t len = none from by unfold wordCut; rw [if_neg (by rw [hu]; simp), if_neg (by rw [hw, hk]; simp)])
        rw [hw] at W
        rw [hk] at K
        rw [hu] at U
        clear hw hk hu
        go_enter Tryd.func71, Tryd.ntmps71
        go_wp2_with fail
        refine (W.out _).mono ?_; rintro e w1 ⟨rfl, hb⟩
        replace hb := below_box' (box_new _ _ _ _ _ _) hb
        obtain ⟨hx, hb⟩ := hb
        go_wp2_with fail
        refine (K.out _).mono ?_; rintro e w2 ⟨rfl, hb2⟩
        have hx2 := hx.below hb2 hb.2
        have hb3 : Below w.heap.size w w2 ∧ w.heap.size < w2.heap.size := ⟨hb.1.trans (hb2.mono hb.1.size), Nat.lt_of_lt_of_le hb.2 hb2.size⟩
        clear hb2 hx hb
        go_wp2_with fail
        refine (U.out _).mono ?_; rintro e w3 ⟨rfl, hb4⟩
        have hx3 := hx2.below hb4 hb3.2
        have hb := hb3.1.trans (hb4.mono hb3.1.size)
        clear hb4 hx2 hb3
        obtain ⟨c0, c1, c2, c3, f0, f1, f2, f3⟩ := hx3
        go_wp2_with fail
        exact bodyPost_ret (v := tokV t none) (by simp [results, Tryd.results71, go_sem, tokV, c0, c1, c2, c3]) rfl ⟨by rw [HC.out], (((hb.setCell (Nat.le_refl _) _).setCell (Nat.le_refl _) _).setCell (Nat.le_refl _) _).setCell (Nat.le_refl _) _⟩
end Go.Proofs.YtldgbdmiebipnaaDoor

namespace Go.Proofs.YtldgbdmiebipnaaDoor
open Go.RowKit

set_option maxRecDepth 100000 in
set_option maxHeartbeats 400000 in
theorem sign_fn (s : ByteArray) (h0 : 0 < s.size) (hc : cls (s[0].toNat : Int) = 4) (hs : s.size ≤ 1000000) (w : World) (hT : Tabs w) :
    Calls Tryd.prog 74 #[.string s] w fun e w' => e = .returned (tokenV s) ∧ Below w.heap.size w w' := by
  have hi : (0 : Int) < (s.size : Int) := by omega
  have HT := Lib.hid hT
  have hle := run_le s (i := 1) (by omega)
  obtain ⟨m, hm⟩ : ∃ m, m = 1 + run s 1 := ⟨_, rfl⟩
  have hms : m ≤ s.size := by omega
  have P := Lib.hid (fun w => parts_any s 1 1 m rfl hm (by omega) (by omega) w)
  have hx := sign_text hm h0
  have hh := head_first h0
  have hr := run_one s
  obtain ⟨k, x, n, hS⟩ := tokenV_shape s
  have HS := Lib.hid hS
  clear hS
  by_cases h36 : (s[0].toNat : Int) = 36
  · have hq : ((s[0].toNat : Int) == 36) = true := by rw [beq_iff_eq]; exact h36
    have ht := tokL_36 (l := s.data.toList) (by rw [hh]; exact h36)
    rw [← hr, ← hm, ← hx] at ht
    have HV := Lib.hid (tokenV_num ht)
    have N := Lib.hid (fun w hT => number_fn 4 (s.extract 0 m) _ 1 1 1 m rfl (by simp; omega) rfl (by simp; omega) w hT)
    clear hT hm hx hh hr h36 ht hc
    go_enter Tryd.func74, Tryd.ntmps74
    go_wp2_with fail
    refine (P.out _).mono ?_; rintro e w1 ⟨rfl, rfl⟩
    go_wp2_with fail
    refine (N.out _ (HT.out.below ((Below.refl _ _).alloc (Nat.le_refl _) _))).mono ?_; rintro e w1 ⟨rfl, hb⟩
    rw [HV.out, HS.out]
    obtain ⟨c0, c1, c2, c3, f0, f1, f2, f3⟩ := box_after hb
    replace hb := below_box hb
    go_wp2_with fail
    exact bodyPost_ret (v := .agg #[.int .i64 k, .string x, .int .i64 n, .int .i64 0]) (by simp [results, Tryd.results74, go_sem, c0, c1, c2, c3]) rfl ⟨by rw [HS.out], (((hb.setCell (Nat.le_refl _) _).setCell (Nat.le_refl _) _).setCell (Nat.le_refl _) _).setCell (Nat.le_refl _) _⟩
  · by_cases h37 : (s[0].toNat : Int) = 37
    · have hq : ((s[0].toNat : Int) == 36) = false := by rw [beq_eq_false_iff_ne]; exact h36
      have hq2 : ((s[0].toNat : Int) == 37) = true := by rw [beq_iff_eq]; exact h37
      have ht := tokL_37 (l := s.data.toList) (by rw [hh]; exact h37)
      rw [← hr, ← hm, ← hx] at ht
      have HV := Lib.hid (tokenV_num ht)
      have N := Lib.hid (fun w hT => number_fn 5 (s.extract 0 m) _ 1 1 0 m rfl (by simp; omega) rfl (by simp; omega) w hT)
      clear hT hm hx hh hr h36 h37 ht hc
      go_enter Tryd.func74, Tryd.ntmps74
      go_wp2_with fail
      refine (P.out _).mono ?_; rintro e w1 ⟨rfl, rfl⟩
      go_wp2_with fail
      refine (N.out _ (HT.out.below ((Below.refl _ _).alloc (Nat.le_refl _) _))).mono ?_; rintro e w1 ⟨rfl, hb⟩
      rw [HV.out, HS.out]
      obtain ⟨c0, c1, c2, c3, f0, f1, f2, f3⟩ := box_after hb
      replace hb := below_box hb
      go_wp2_with fail
      exact bodyPost_ret (v := .agg #[.int .i64 k, .string x, .int .i64 n, .int .i64 0]) (by simp [results, Tryd.results74, go_sem, c0, c1, c2, c3]) rfl ⟨by rw [HS.out], (((hb.setCell (Nat.le_refl _) _).setCell (Nat.le_refl _) _).setCell (Nat.le_refl _) _).setCell (Nat.le_refl _) _⟩
    · have hq : ((s[0].toNat : Int) == 36) = false := by rw [beq_eq_false_iff_ne]; exact h36
      have hq2 : ((s[0].toNat : Int) == 37) = false := by rw [beq_eq_false_iff_ne]; exact h37
      have ht := tokL_sign (l := s.data.toList) (by rw [hh]; exact h36) (by rw [hh]; exact h37) (by rw [hh]; exact hc)
      have HV := Lib.hid (tokenV_some ht)
      clear hT hm hx hh hr h36 h37 ht hc HS
      go_enter Tryd.func74, Tryd.ntmps74
      go_wp2_with fail
      exact bodyPost_ret (v := tokV (s.extract 0 1) (some ⟨6, 0, 1⟩)) (by simp [results, Tryd.results74, go_sem, tokV]) rfl ⟨by rw [HV.out], (Below.refl _ _).alloc (Nat.le_refl _) _⟩
set_option maxRecDepth 100000 in
set_option maxHeartbeats 1000000 in
theorem token_fn (s : ByteArray) (h0 : 0 < s.size) (hs : s.size ≤ 1000000) (w : World) (hT : Tabs w) :
    Calls Tryd.prog 54 #[.string s] w fun e w' => e = .returned (tokenV s) ∧ Below w.heap.size w w' := by
  have hi : (0 : Int) < (s.size : Int) := by omega
  have HT := Lib.hid hT
  have hle := run_le s (i := 0) (by omega)
  obtain ⟨m, hm⟩ : ∃ m, m = 0 + run s 0 := ⟨_, rfl⟩
  have hms : m ≤ s.size := by omega
  have P := Lib.hid (fun w => parts_any s 0 0 m rfl hm (by omega) (by omega) w)
  have hm0 : m = run s 0 := by omega
  have hx := word_text s
  rw [← hm0] at hx
  have hr := run_zero s
  rw [← hm0] at hr
  have hh := head_first h0
  have hxl : (s.extract 0 m).data.toList = s.data.toList.takeWhile pc := by rw [ext_list, List.drop_zero, hr, tw_take]
  have hbd := cls_bd (s[0].toNat : Int)
  obtain ⟨k, x, n, hS⟩ := tokenV_shape s
  have HS := Lib.hid hS
  clear hS
  have hw : cls (s[0].toNat : Int) = 1 ∨ cls (s[0].toNat : Int) = 2 → tokL s.data.toList = wordCut (s.extract 0 m) m := fun h => by
    rw [tokL_word (by rw [hh]; exact h), hx, hr]
  have hd : cls (s[0].toNat : Int) = 3 → tokL s.data.toList = numCut 3 (s.extract 0 m).data.toList 0 m := fun h => by
    rw [tokL_digit (by rw [hh]; exact h), hxl, hr]
  have hn : cls (s[0].toNat : Int) = 0 ∨ cls (s[0].toNat : Int) = 5 → tokL s.data.toList = none := fun h => tokL_none (by rw [hh]; exact h)
  obtain ⟨c, hc⟩ : ∃ c, c = cls (s[0].toNat : Int) := ⟨_, rfl⟩
  rw [← hc] at hw hd hn hbd
  have HC := Lib.hid hc
  have S := Lib.hid (fun (h : c = 4) w hT => sign_fn s h0 (hc.symm.trans h) hs w hT)
  have CL := Lib.hid (fun w => (class_any (s[0].toNat : Int) w).mono fun e w' h => (show e = .returned (.int .i64 c) ∧ w = w' by rw [hc]; exact h))
  clear hc hT hx hr hh hm hm0
  rcases (show c = 1 ∨ c = 2 ∨ c = 3 ∨ c = 4 ∨ c = 0 ∨ c = 5 from by omega) with h | h | h | h | h | h
  · have HV := Lib.hid (tokenV_word (hw (.inl h)) rfl)
    have W := Lib.hid (fun w => word_fn (s.extract 0 m) m (by simp; omega) w)
    subst h
    clear hw hd hn hxl
    go_enter Tryd.func54, Tryd.ntmps54
    go_wp2_with fail
    refine (CL.out _).mono ?_; rintro e w1 ⟨rfl, rfl⟩
    go_wp2_with fail
    refine (P.out _).mono ?_; rintro e w1 ⟨rfl, rfl⟩
    go_wp2_with fail
    refine (W.out _).mono ?_; rintro e w1 ⟨rfl, hb⟩
    rw [HV.out, HS.out]
    obtain ⟨c0, c1, c2, c3, f0, f1, f2, f3⟩ := box_after hb
    replace hb := below_box hb
    go_wp2_with fail
    exact bodyPost_ret (v := .agg #[.int .i64 k, .string x, .int .i64 n, .int .i64 0]) (by simp [results, Tryd.results54, go_sem, c0, c1, c2, c3]) rfl ⟨by rw [HS.out], (((hb.setCell (Nat.le_refl _) _).setCell (Nat.le_refl _) _).setCell (Nat.le_refl _) _).setCell (Nat.le_refl _) _⟩
  · have HV := Lib.hid (tokenV_word (hw (.inr h)) rfl)
    have W := Lib.hid (fun w => word_fn (s.extract 0 m) m (by simp; omega) w)
    subst h
    clear hw hd hn hxl
    go_enter Tryd.func54, Tryd.ntmps54
    go_wp2_with fail
    refine (CL.out _).mono ?_; rintro e w1 ⟨rfl, rfl⟩
    go_wp2_with fail
    refine (P.out _).mono ?_; rintro e w1 ⟨rfl, rfl⟩
    go_wp2_with fail
    refine (W.out _).mono ?_; rintro e w1 ⟨rfl, hb⟩
    rw [HV.out, HS.out]
    obtain ⟨c0, c1, c2, c3, f0, f1, f2, f3⟩ := box_after hb
    replace hb := below_box hb
    go_wp2_with fail
    exact bodyPost_ret (v := .agg #[.int .i64 k, .string x, .int .i64 n, .int .i64 0]) (by simp [results, Tryd.results54, go_sem, c0, c1, c2, c3]) rfl ⟨by rw [HS.out], (((hb.setCell (Nat.le_refl _) _).setCell (Nat.le_refl _) _).setCell (Nat.le_refl _) _).setCell (Nat.le_refl _) _⟩
  · have HV := Lib.hid (tokenV_num (hd h))
    have N := Lib.hid (fun w hT => number_fn 3 (s.extract 0 m) (s.extract 0 m) 0 0 0 m rfl (by omega) (ext_whole _) (by simp; omega) w hT)
    subst h
    clear hw hd hn hxl
    go_enter Tryd.func54, Tryd.ntmps54
    go_wp2_with fail
    refine (CL.out _).mono ?_; rintro e w1 ⟨rfl, rfl⟩
    go_wp2_with fail
    refine (P.out _).mono ?_; rintro e w1 ⟨rfl, rfl⟩
    go_wp2_with fail
    refine (N.out _ (HT.out.below ((Below.refl _ _).alloc (Nat.le_refl _) _))).mono ?_; rintro e w1 ⟨rfl, hb⟩
    rw [HV.out, HS.out]
    obtain ⟨c0, c1, c2, c3, f0, f1, f2, f3⟩ := box_after hb
    replace hb := below_box hb
    go_wp2_with fail
    exact bodyPost_ret (v := .agg #[.int .i64 k, .string x, .int .i64 n, .int .i64 0]) (by simp [results, Tryd.results54, go_sem, c0, c1, c2, c3]) rfl ⟨by rw [HS.out], (((hb.setCell (Nat.le_refl _) _).setCell (Nat.le_refl _) _).setCell (Nat.le_refl _) _).setCell (Nat.le_refl _) _⟩
  · have G := Lib.hid (fun w hT => S.out h w hT)
    subst h
    clear hw hd hn hxl S
    go_enter Tryd.func54, Tryd.ntmps54
    go_wp2_with fail
    refine (CL.out _).mono ?_; rintro e w1 ⟨rfl, rfl⟩
    go_wp2_with fail
    refine (G.out _ (HT.out.below ((Below.refl _ _).alloc (Nat.le_refl _) _))).mono ?_; rintro e w1 ⟨rfl, hb⟩
    rw [HS.out]
    obtain ⟨c0, c1, c2, c3, f0, f1, f2, f3⟩ := box_after hb
    replace hb := below_box hb
    go_wp2_with fail
    exact bodyPost_ret (v := .agg #[.int .i64 k, .string x, .int .i64 n, .int .i64 0]) (by simp [results, Tryd.results54, go_sem, c0, c1, c2, c3]) rfl ⟨by rw [HS.out], (((hb.setCell (Nat.le_refl _) _).setCell (Nat.le_refl _) _).setCell (Nat.le_refl _) _).setCell (Nat.le_refl _) _⟩
  · have HV := Lib.hid (tokenV_none (hn (.inl h)))
    subst h
    clear hw hd hn hxl HS
    go_enter Tryd.func54, Tryd.ntmps54
    go_wp2_with fail
    refine (CL.out _).mono ?_; rintro e w1 ⟨rfl, rfl⟩
    go_wp2_with fail
    exact bodyPost_ret (v := tokV ⟨#[]⟩ none) (by simp [results, Tryd.results54, go_sem, tokV]) rfl ⟨by rw [HV.out], (Below.refl _ _).alloc (Nat.le_refl _) _⟩
  · have HV := Lib.hid (tokenV_none (hn (.inr h)))
    subst h
    clear hw hd hn hxl HS
    go_enter Tryd.func54, Tryd.ntmps54
    go_wp2_with fail
    refine (CL.out _).mono ?_; rintro e w1 ⟨rfl, rfl⟩
    go_wp2_with fail
    exact bodyPost_ret (v := tokV ⟨#[]⟩ none) (by simp [results, Tryd.results54, go_sem, tokV]) rfl ⟨by rw [HV.out], (Below.refl _ _).alloc (Nat.le_refl _) _⟩
end Go.Proofs.YtldgbdmiebipnaaDoor
