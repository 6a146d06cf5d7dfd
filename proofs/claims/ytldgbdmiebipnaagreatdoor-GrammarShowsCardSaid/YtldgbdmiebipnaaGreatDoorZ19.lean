/-
  The program's grammar, an item that begins with 'equiv'.
  The program's grammar, an item that begins with 'normal'.
  The program's grammar: item, of any token.
  The tokens of a text are as the program's grammar asks: signs, words and keys are told by their texts. No function of the program.
  The program's grammar: file: the items of all tokens, or the first token that can't stand.
  Scan of package lex, walked: it answers what the scan of the text tells. (as data)
  How many bytes that may be part of a word stand at a place of a text: what parts of package lex answers, and Long of the reference, for every text and every place in it. Neither changes anything. (the program)
  What a listed package variable gives a walk: one of a list, its block, and the table of powers of ten.
  What the listed package-level variables of strconv give a walk: the table of powers of ten, and the two errors; and that a call which only makes new blocks leaves them as they were.
  Digits and Number of package chars, and the same of the reference: a number in decimal, and the number from 0 to 999 that a text is; in every world in which the listed variables of strconv hold what they were laid with. Each call makes new memory alone. (the program)
  Whether a text is the word of a variable, by package chars. Each call makes new memory alone.
-/
import Derived.Test.YtldgbdmiebipnaaGreatDoorZ18
import Derived.Test.YtldgbdmiebipnaaGreatDoorZ17
import Derived.Test.YtldgbdmiebipnaaGreatDoorZ06
import Derived.Test.YtldgbdmiebipnaaGreatDoorZ05
import Derived.Test.YtldgbdmiebipnaaGreatDoorZ07
import Derived.Deep.LoopGhost
import Derived.Test.YtldgbdmiebipnaaGreatDoorZ08
import Derived.WalkMore
import Derived.Test.YtldgbdmiebipnaaGreatDoorZ01
import Derived.Test.YtldgbdmiebipnaaGreatDoorZ15
import Derived.Lib.Hide
import Derived.WalkKit
import Derived.WalkSpells
import Derived.Test.YtldgbdmiebipnaaGreatDoorRows
import Derived.ProofKit
import Derived.Stop.LaidErr
import Derived.WalkSmall
import Derived.Deep.DeepHandedRow
import Derived.Lib.LaidTab
import Derived.MakeChecks
import Derived.Lib.ItoaLen
import Derived.Test.YtldgbdmiebipnaaGreatDoorShelf
namespace Go.Proofs.YtldgbdmiebipnaaGreatDoor
open Go.RowKit

section
variable {g b o c : Nat} {L : List Tok}
set_option maxRecDepth 100000 in
set_option maxHeartbeats 4000000 in
theorem item_equiv (hF : Fine L) (i : Nat) (W : World) (h : Rdr W g b o c L i 0) (ht0 : (tkD L i).text = ⟨#[101, 113, 117, 105, 118]⟩) :
    Calls Tryz.prog 29 #[.pointer (some ⟨g, 0, none⟩)] W (ItemPost g b o c L i W) := by
  have hkey : Lib.containsS keyList (tkD L i).text = true := by rw [ht0]; decide +kernel
  have hk1 := hF.key i hkey
  have hi1 : i + 1 < L.length := hF.ended i (by rw [hk1]; decide)
  have HG := Lib.hid (show itemR L i = goP L [119, 119, 46] ⟨(tkD L i).text, (tkD L i).place, [], []⟩ (i + 1) by unfold itemR; rw [show shapesOf (tkD L i).text = [119, 119, 46] by rw [ht0]; decide +kernel])
  have q_fun : ((tkD L i).text.toList == [102, 117, 110]) = false := by rw [ht0]; decide +kernel
  have q_name : ((tkD L i).text.toList == [110, 97, 109, 101]) = false := by rw [ht0]; decide +kernel
  have q_use : ((tkD L i).text.toList == [117, 115, 101]) = false := by rw [ht0]; decide +kernel
  have q_rule : ((tkD L i).text.toList == [114, 117, 108, 101]) = false := by rw [ht0]; decide +kernel
  have q_frame : ((tkD L i).text.toList == [102, 114, 97, 109, 101]) = false := by rw [ht0]; decide +kernel
  have q_deduce : ((tkD L i).text.toList == [100, 101, 100, 117, 99, 101]) = false := by rw [ht0]; decide +kernel
  have q_equiv : ((tkD L i).text.toList == [101, 113, 117, 105, 118]) = true := by rw [ht0]; decide +kernel
  have FAILS := Lib.hid (fun (it : It) (q : Nat) (e : Ending) (w' : World) (hr : itemR L i = (it, q, false)) (he : e = diesAt L q) (ho : W.grownBy w' (some g)) => (show ItemPost g b o c L i W e w' from .inr (.inl ⟨hkey, by rw [hr], by rw [hr]; exact he, ho⟩)))
  have DONE := Lib.hid (fun (it : It) (q : Nat) (vw vt : Value) (w' : World) (hr : itemR L i = (it, q, true)) (h1 : RowsI w' (fun _ => False) 39 W.heap.size vw it.words vt it.trees) (h2 : Rdr w' g b o c L q 0) (h3 : W.grownBy w' (some g)) =>
    (show ItemPost g b o c L i W (.returned (.agg #[.string (tkD L i).text, .int .i64 (tkD L i).place, vw, vt])) w' from .inl ⟨hkey, by rw [hr], vw, vt, rfl, by rw [hr]; exact h1, by rw [hr]; exact h2, h3⟩))
  have h0 := h.c0
  have hf := h.f0
  have hi := h.here
  have hg := h.glt
  have hlt := h.lt
  have hcap := h.cap
  have hbw : b < W.heap.size := by omega
  have hbw1 : b < W.heap.size + 1 := by omega
  have hbw2 : b < W.heap.size + 1 + 1 := by omega
  have hg1 : g < W.heap.size + 1 := by omega
  obtain ⟨t0, t1, t2, t3⟩ := h.toks i hi
  have K := key_any (tkD L i).text
  rw [hkey] at K
  obtain ⟨t, ht⟩ : ∃ t, tkD L i = t := ⟨_, rfl⟩
  have hti : L[i] = t := by rw [← ht, tkD_at hi]
  rw [ht] at q_fun q_name q_use q_rule q_frame q_deduce q_equiv hk1 HG DONE K
  rw [hti] at t0 t1 t2 t3
  clear ht hti ht0 hkey
  obtain ⟨tk, tx, tn, tp⟩ := t
  simp only at t0 t1 t2 t3 q_fun q_name q_use q_rule q_frame q_deduce q_equiv hk1 HG DONE K
  subst hk1
  replace K := Lib.hid K
  obtain ⟨n, hn⟩ : ∃ n, L.length - i = n + 1 + 1 := ⟨L.length - i - 2, by omega⟩
  obtain ⟨k, hk⟩ : ∃ k, c - i = k + 1 + 1 := ⟨c - i - 2, by omega⟩
  obtain ⟨a, ha⟩ : ∃ a, o + i * 4 = a := ⟨_, rfl⟩
  have hn0 : (0 : Int) < ((n + 1 + 1 : Nat) : Int) := by omega
  have hn1 : (1 : Int) < ((n + 1 + 1 : Nat) : Int) := by omega
  have hnk : n ≤ k := by omega
  rw [hn, hk, ha] at h0
  rw [ha] at t0 t1 t2 t3
  have HV := Lib.hid (show Value.slice (some ⟨b, a + 4, none⟩) (n + 1) (k + 1) = .slice (some ⟨b, o + (i + 1) * 4, none⟩) (L.length - (i + 1)) (c - (i + 1)) by
    rw [show o + (i + 1) * 4 = a + 4 from by omega, show L.length - (i + 1) = n + 1 from by omega, show c - (i + 1) = k + 1 from by omega])
  have hB0 : Below W.heap.size W ((W.alloc (.cells #[.string ⟨#[]⟩, .int .i64 0, .slice none 0 0, .slice none 0 0] 63)).alloc (.cells #[.int .i64 1, .string tx, .int .i64 tn, .int .i64 tp] 50)) := ((Below.refl _ _).alloc (Nat.le_refl _) _).alloc (by simp) _
  have hr0 := h.below hB0
  have hzz : ((W.alloc (.cells #[.string ⟨#[]⟩, .int .i64 0, .slice none 0 0, .slice none 0 0] 63)).alloc (.cells #[.int .i64 1, .string tx, .int .i64 tn, .int .i64 tp] 50)).heap.size = W.heap.size + 2 := by simp
  have bR0 := (box_new W (.string ⟨#[]⟩) (.int .i64 0) (.slice none 0 0) (.slice none 0 0) 63).below ((Below.refl _ _).alloc (Nat.le_refl _) (.cells #[.int .i64 1, .string tx, .int .i64 tn, .int .i64 tp] 50)) (by simp)
  have bT0 := box_new (W.alloc (.cells #[.string ⟨#[]⟩, .int .i64 0, .slice none 0 0, .slice none 0 0] 63)) (.int .i64 1) (.string tx) (.int .i64 tn) (.int .i64 tp) 50
  rw [show (W.alloc (.cells #[.string ⟨#[]⟩, .int .i64 0, .slice none 0 0, .slice none 0 0] 63)).heap.size = W.heap.size + 1 from by simp] at bT0
  go_enter Tryz.func29, Tryz.ntmps29
  go_wp2_with fail
  refine (K.out _).mono ?_; rintro e w1 ⟨rfl, hb1⟩
  have hr1 := hr0.below hb1
  have d0 := hr1.c0
  have e0 := hr1.f0
  obtain ⟨x0, x1, x2, x3, _, _, _, _⟩ := bT0.below hb1 (by omega)
  have bR := bR0.below hb1 (by omega)
  rw [hn, hk, ha] at d0
  have hs1 := hb1.size
  rw [hzz] at hs1
  have hg2 : g < w1.heap.size := by omega
  have hg3 : W.heap.size + 1 ≠ g := by omega
  have hg4 : W.heap.size + 1 < w1.heap.size := by omega
  have ST := Lib.hid (ItSt.start bR (only_below (below_next hB0 hb1) (some g)) hg hr1 hi1 tx tp HV.out)
  clear hb1 hr1 hB0 hr0 bR0 bT0 bR hzz h HV
  go_wp2_with fail
  obtain ⟨x, hx⟩ : ∃ x, w1.heap.size = x := ⟨_, rfl⟩
  rw [hx] at ST
  (try rw [hx])
  obtain ⟨V, hV⟩ : ∃ V, (w1.setCell ⟨g, 0, none⟩ (.slice (some ⟨b, a + 4, none⟩) (n + 1) (k + 1))).alloc (.cells #[.string tx, .int .i64 tp, .slice none 0 0, .slice none 0 0] 63) = V := ⟨_, rfl⟩
  rw [hV] at ST ⊢
  clear hV x0 x1 x2 x3 hs1 hg2 hg3 hg4 hx d0 e0 t0 t1 t2 t3 h0 hf hn hk ha K
  refine app_region2 (by kernel_rfl) x ⟨x, 2, none⟩ (.pointer (some ⟨g, 0, none⟩)) (.slice none 0 0) rfl rfl rfl (item_field2 x) (fun _ _ q => trees_load _ _ _ q) (fn_word _) ST.out.drew.arg.c2 (fun _ _ _ _ _ => Iff.rfl) ?_
  refine (word_at _ ST.out.drew.rdr hF.ended hF.len).mono ?_
  rintro e w2 (⟨hok, rfl, hr2, ho2⟩ | ⟨hok, hd, ho2⟩)
  case inr =>
    have HB := Lib.hid (FAILS.out _ _ e w2 (HG.out.trans (goP_w_bad hok)) hd (only_trans ST.out.drew.only ho2))
    unfold diesAt at hd
    subst hd
    exact And.intro rfl HB.out
  have st2 := ST.out.drew.call hr2 ho2
  have hok1 := hF.ok (i + 1)
  have hn2 := hF.word0 _ hok
  have hfit : FitR 5 (tkD L (i + 1)).text (tkD L (i + 1)).n (tkD L (i + 1)).place := ⟨by decide, by decide, hok1.nlo, hok1.nhi, hok1.plo, hok1.phi, hok1.len⟩
  replace HG := Lib.hid (HG.out.trans (goP_w_ok hok))
  clear hr2 ho2 hok hok1
  have ST2 := Lib.hid st2
  clear st2
  refine ⟨ST2.out.arg.c2, ?_⟩
  refine (word_at _ ST2.out.rdr hF.ended hF.len).mono ?_
  rintro e w3 (⟨hok, rfl, hr3, ho3⟩ | ⟨hok, hd, ho3⟩)
  case inr =>
    have HB := Lib.hid (FAILS.out _ _ e w3 (HG.out.trans (goP_w_bad hok)) hd (only_trans ST2.out.only ho3))
    unfold diesAt at hd
    subst hd
    exact And.intro rfl HB.out
  have st3 := ST2.out.call hr3 ho3
  obtain ⟨us, h1, h2, h3, h4⟩ := st3.words
  have hok2 := hF.ok (i + 1 + 1)
  have hn3 := hF.word0 _ hok
  have hfit2 : FitR 5 (tkD L (i + 1 + 1)).text (tkD L (i + 1 + 1)).n (tkD L (i + 1 + 1)).place := ⟨by decide, by decide, hok2.nlo, hok2.nhi, hok2.plo, hok2.phi, hok2.len⟩
  replace HG := Lib.hid (HG.out.trans (goP_w_ok hok))
  refine tree_after2 (y1 := ⟨.mk 5 (tkD L (i + 1)).text (tkD L (i + 1)).n (tkD L (i + 1)).place [], none, 0⟩) (y2 := ⟨.mk 5 (tkD L (i + 1 + 1)).text (tkD L (i + 1 + 1)).n (tkD L (i + 1 + 1)).place [], none, 0⟩) h3 st3.only.size st3.arg.c2 st3.arg.f2 h4 (by simp) ?_
  intro v1 w4 g1 g2 g3
  have st4 := st3.pushWs (news := [⟨.mk 5 (tkD L (i + 1)).text (tkD L (i + 1)).n (tkD L (i + 1)).place [], none, 0⟩, ⟨.mk 5 (tkD L (i + 1 + 1)).text (tkD L (i + 1 + 1)).n (tkD L (i + 1 + 1)).place [], none, 0⟩]) h1 h2 (fun z hz => by
    rcases List.mem_cons.1 hz with rfl | hz
    · exact live_plain hfit w3 _ st3.only.size
    · rw [List.mem_singleton] at hz; subst hz; exact live_plain hfit2 w3 _ st3.only.size) rfl (by unfold rowRv at g1 ⊢; simpa using g1) g2 g3
  obtain ⟨a1, c1, hv1⟩ : ∃ a c, v1 = .slice a 2 c := own_slice g1
  subst hv1
  obtain ⟨V1, hV⟩ : ∃ V', w4.setCell ⟨x, 2, none⟩ (.slice a1 2 c1) = V' := ⟨_, rfl⟩
  rw [hV] at st4 ⊢
  simp only [List.map_cons, List.map_nil, hn2, hn3, List.nil_append] at st4
  replace HG := Lib.hid HG.out
  replace ST := Lib.hid (show ItSt W g b o c L x ⟨tx, tp, [] ++ [.mk 5 (tkD L (i + 1)).text 0 (tkD L (i + 1)).place []] ++ [.mk 5 (tkD L (i + 1 + 1)).text 0 (tkD L (i + 1 + 1)).place []], []⟩ (i + 1 + 1 + 1) (.slice a1 2 c1) (.slice none 0 0) V1 from st4)
  clear hr3 ho3 st3 h1 h2 h3 h4 hok hok2 hfit hfit2 g1 g2 g3 hV st4 hn2 hn3 ST2
  simp only [Act.put, List.setIfInBounds_toArray, List.set_cons_zero, List.set_cons_succ]
  go_wp2_with fail
  refine (pass_any ⟨#[46]⟩ _ ST.out.rdr hF.ended (hF.sign _ sg_46 _ ST.out.rdr.here)).mono ?_
  rintro e w2 (⟨hok, rfl, hr2, ho2⟩ | ⟨hok, hd, ho2⟩)
  case inr =>
    have HB := Lib.hid (FAILS.out _ _ e w2 (HG.out.trans (goP_s_bad (by decide) hok)) hd (only_trans ST.out.only ho2))
    unfold diesAt at hd
    subst hd
    clear hok ho2
    go_wp2_with fail
    exact ⟨rfl, HB.out⟩
  have st2 := ST.out.call hr2 ho2
  replace HG := Lib.hid (HG.out.trans (goP_s_ok (by decide) hok))
  replace ST := Lib.hid st2
  clear hr2 ho2 st2 hok
  have HF := Lib.hid (HG.out.trans goP_end)
  obtain ⟨k0, k1, k2, k3, _, _, _, _⟩ := ST.out.arg
  obtain ⟨r0, r1, r2, r3, rf0, rf1, rf2, rf3⟩ := ST.out.res
  have HE := Lib.hid (ST.out.done (.string tx) (.int .i64 tp) (.slice a1 2 c1) (.slice none 0 0))
  have HX := Lib.hid (ST.out.res.fill (.string tx) (.int .i64 tp) (.slice a1 2 c1) (.slice none 0 0))
  simp only at k0 k1
  go_wp2_with fail
  obtain ⟨r0, r1, r2, r3, _, _, _, _⟩ := HX.out
  refine bodyPost_ret (v := .agg #[.string tx, .int .i64 tp, .slice a1 2 c1, .slice none 0 0]) (by simp [results, Tryz.results29, go_sem, r0, r1, r2, r3]) rfl ?_
  obtain ⟨f1, f2, f3⟩ := HE.out
  exact DONE.out _ _ _ _ _ HF.out f1 f2 f3
end
end Go.Proofs.YtldgbdmiebipnaaGreatDoor

namespace Go.Proofs.YtldgbdmiebipnaaGreatDoor
open Go.RowKit

section
variable {g b o c : Nat} {L : List Tok}
set_option maxRecDepth 100000 in
set_option maxHeartbeats 4000000 in
theorem item_normal (hF : Fine L) (i : Nat) (W : World) (h : Rdr W g b o c L i 0) (ht0 : (tkD L i).text = ⟨#[110, 111, 114, 109, 97, 108]⟩) :
    Calls Tryz.prog 29 #[.pointer (some ⟨g, 0, none⟩)] W (ItemPost g b o c L i W) := by
  have hkey : Lib.containsS keyList (tkD L i).text = true := by rw [ht0]; decide +kernel
  have hk1 := hF.key i hkey
  have hi1 : i + 1 < L.length := hF.ended i (by rw [hk1]; decide)
  have HG := Lib.hid (show itemR L i = goP L [116, 46] ⟨(tkD L i).text, (tkD L i).place, [], []⟩ (i + 1) by unfold itemR; rw [show shapesOf (tkD L i).text = [116, 46] by rw [ht0]; decide +kernel])
  have q_fun : ((tkD L i).text.toList == [102, 117, 110]) = false := by rw [ht0]; decide +kernel
  have q_name : ((tkD L i).text.toList == [110, 97, 109, 101]) = false := by rw [ht0]; decide +kernel
  have q_use : ((tkD L i).text.toList == [117, 115, 101]) = false := by rw [ht0]; decide +kernel
  have q_rule : ((tkD L i).text.toList == [114, 117, 108, 101]) = false := by rw [ht0]; decide +kernel
  have q_frame : ((tkD L i).text.toList == [102, 114, 97, 109, 101]) = false := by rw [ht0]; decide +kernel
  have q_deduce : ((tkD L i).text.toList == [100, 101, 100, 117, 99, 101]) = false := by rw [ht0]; decide +kernel
  have q_equiv : ((tkD L i).text.toList == [101, 113, 117, 105, 118]) = false := by rw [ht0]; decide +kernel
  have q_normal : ((tkD L i).text.toList == [110, 111, 114, 109, 97, 108]) = true := by rw [ht0]; decide +kernel
  have FAILS := Lib.hid (fun (it : It) (q : Nat) (e : Ending) (w' : World) (hr : itemR L i = (it, q, false)) (he : e = diesAt L q) (ho : W.grownBy w' (some g)) => (show ItemPost g b o c L i W e w' from .inr (.inl ⟨hkey, by rw [hr], by rw [hr]; exact he, ho⟩)))
  have DONE := Lib.hid (fun (it : It) (q : Nat) (vw vt : Value) (w' : World) (hr : itemR L i = (it, q, true)) (h1 : RowsI w' (fun _ => False) 39 W.heap.size vw it.words vt it.trees) (h2 : Rdr w' g b o c L q 0) (h3 : W.grownBy w' (some g)) =>
    (show ItemPost g b o c L i W (.returned (.agg #[.string (tkD L i).text, .int .i64 (tkD L i).place, vw, vt])) w' from .inl ⟨hkey, by rw [hr], vw, vt, rfl, by rw [hr]; exact h1, by rw [hr]; exact h2, h3⟩))
  have h0 := h.c0
  have hf := h.f0
  have hi := h.here
  have hg := h.glt
  have hlt := h.lt
  have hcap := h.cap
  have hbw : b < W.heap.size := by omega
  have hbw1 : b < W.heap.size + 1 := by omega
  have hbw2 : b < W.heap.size + 1 + 1 := by omega
  have hg1 : g < W.heap.size + 1 := by omega
  obtain ⟨t0, t1, t2, t3⟩ := h.toks i hi
  have K := key_any (tkD L i).text
  rw [hkey] at K
  obtain ⟨t, ht⟩ : ∃ t, tkD L i = t := ⟨_, rfl⟩
  have hti : L[i] = t := by rw [← ht, tkD_at hi]
  rw [ht] at q_fun q_name q_use q_rule q_frame q_deduce q_equiv q_normal hk1 HG DONE K
  rw [hti] at t0 t1 t2 t3
  clear ht hti ht0 hkey
  obtain ⟨tk, tx, tn, tp⟩ := t
  simp only at t0 t1 t2 t3 q_fun q_name q_use q_rule q_frame q_deduce q_equiv q_normal hk1 HG DONE K
  subst hk1
  replace K := Lib.hid K
  obtain ⟨n, hn⟩ : ∃ n, L.length - i = n + 1 + 1 := ⟨L.length - i - 2, by omega⟩
  obtain ⟨k, hk⟩ : ∃ k, c - i = k + 1 + 1 := ⟨c - i - 2, by omega⟩
  obtain ⟨a, ha⟩ : ∃ a, o + i * 4 = a := ⟨_, rfl⟩
  have hn0 : (0 : Int) < ((n + 1 + 1 : Nat) : Int) := by omega
  have hn1 : (1 : Int) < ((n + 1 + 1 : Nat) : Int) := by omega
  have hnk : n ≤ k := by omega
  rw [hn, hk, ha] at h0
  rw [ha] at t0 t1 t2 t3
  have HV := Lib.hid (show Value.slice (some ⟨b, a + 4, none⟩) (n + 1) (k + 1) = .slice (some ⟨b, o + (i + 1) * 4, none⟩) (L.length - (i + 1)) (c - (i + 1)) by
    rw [show o + (i + 1) * 4 = a + 4 from by omega, show L.length - (i + 1) = n + 1 from by omega, show c - (i + 1) = k + 1 from by omega])
  have hB0 : Below W.heap.size W ((W.alloc (.cells #[.string ⟨#[]⟩, .int .i64 0, .slice none 0 0, .slice none 0 0] 63)).alloc (.cells #[.int .i64 1, .string tx, .int .i64 tn, .int .i64 tp] 50)) := ((Below.refl _ _).alloc (Nat.le_refl _) _).alloc (by simp) _
  have hr0 := h.below hB0
  have hzz : ((W.alloc (.cells #[.string ⟨#[]⟩, .int .i64 0, .slice none 0 0, .slice none 0 0] 63)).alloc (.cells #[.int .i64 1, .string tx, .int .i64 tn, .int .i64 tp] 50)).heap.size = W.heap.size + 2 := by simp
  have bR0 := (box_new W (.string ⟨#[]⟩) (.int .i64 0) (.slice none 0 0) (.slice none 0 0) 63).below ((Below.refl _ _).alloc (Nat.le_refl _) (.cells #[.int .i64 1, .string tx, .int .i64 tn, .int .i64 tp] 50)) (by simp)
  have bT0 := box_new (W.alloc (.cells #[.string ⟨#[]⟩, .int .i64 0, .slice none 0 0, .slice none 0 0] 63)) (.int .i64 1) (.string tx) (.int .i64 tn) (.int .i64 tp) 50
  rw [show (W.alloc (.cells #[.string ⟨#[]⟩, .int .i64 0, .slice none 0 0, .slice none 0 0] 63)).heap.size = W.heap.size + 1 from by simp] at bT0
  go_enter Tryz.func29, Tryz.ntmps29
  go_wp2_with fail
  refine (K.out _).mono ?_; rintro e w1 ⟨rfl, hb1⟩
  have hr1 := hr0.below hb1
  have d0 := hr1.c0
  have e0 := hr1.f0
  obtain ⟨x0, x1, x2, x3, _, _, _, _⟩ := bT0.below hb1 (by omega)
  have bR := bR0.below hb1 (by omega)
  rw [hn, hk, ha] at d0
  have hs1 := hb1.size
  rw [hzz] at hs1
  have hg2 : g < w1.heap.size := by omega
  have hg3 : W.heap.size + 1 ≠ g := by omega
  have hg4 : W.heap.size + 1 < w1.heap.size := by omega
  have ST := Lib.hid (ItSt.start bR (only_below (below_next hB0 hb1) (some g)) hg hr1 hi1 tx tp HV.out)
  clear hb1 hr1 hB0 hr0 bR0 bT0 bR hzz h HV
  go_wp2_with fail
  obtain ⟨x, hx⟩ : ∃ x, w1.heap.size = x := ⟨_, rfl⟩
  rw [hx] at ST
  (try rw [hx])
  obtain ⟨V, hV⟩ : ∃ V, (w1.setCell ⟨g, 0, none⟩ (.slice (some ⟨b, a + 4, none⟩) (n + 1) (k + 1))).alloc (.cells #[.string tx, .int .i64 tp, .slice none 0 0, .slice none 0 0] 63) = V := ⟨_, rfl⟩
  rw [hV] at ST ⊢
  clear hV x0 x1 x2 x3 hs1 hg2 hg3 hg4 hx d0 e0 t0 t1 t2 t3 h0 hf hn hk ha K
  refine app_region (by kernel_rfl) x ⟨x, 3, none⟩ (.pointer (some ⟨g, 0, none⟩)) (.slice none 0 0) 134 rfl (by decide) (by decide) rfl rfl (item_field3 x) (fun _ _ q => trees_load _ _ _ q) (fn_term _) ST.out.drew.arg.c3 (fun _ _ _ _ _ q => q) ?_
  refine (term_any hF (i + 1) 0 (by decide) _ ST.out.drew.rdr).mono ?_
  rintro e w2 (⟨hok, y, rfl, hyt, hm, hr2, ho2⟩ | ⟨hok, hd, ho2⟩)
  case inr =>
    have HB := Lib.hid (FAILS.out _ _ e w2 (HG.out.trans (goP_t_bad hok)) hd (only_trans ST.out.drew.only ho2))
    unfold diesAt at hd
    subst hd
    exact And.intro rfl HB.out
  have st2 := ST.out.drew.call hr2 ho2
  obtain ⟨us, h1, h2, h3, h4⟩ := st2.trees
  refine tree_after h3 st2.only.size st2.arg.c3 st2.arg.f3 h4 (by simp) ?_
  intro v1 w3 g1 g2 g3
  have st3 := st2.push h1 h2 (hm.liveA ho2.size ST.out.drew.only.size ST.out.drew.there) g1 g2 g3
  obtain ⟨a1, c1, hv1⟩ : ∃ a c, v1 = .slice a 1 c := own_slice g1
  subst hv1
  replace HG := Lib.hid (HG.out.trans (goP_t_ok hok))
  rw [← hyt] at HG
  obtain ⟨j1, hj⟩ : ∃ q, (termP L (i + 1) 0).2.1 = q := ⟨_, rfl⟩
  rw [hj] at HG st3
  obtain ⟨V1, hV⟩ : ∃ V', w3.setCell ⟨x, 3, none⟩ (.slice a1 1 c1) = V' := ⟨_, rfl⟩
  rw [hV] at st3 ⊢
  replace ST := Lib.hid st3
  clear hr2 ho2 st2 h1 h2 h3 h4 hm hyt g1 g2 g3 hV st3 hj
  simp only [Act.put, List.setIfInBounds_toArray, List.set_cons_zero, List.set_cons_succ]
  go_wp2_with fail
  refine (pass_any ⟨#[46]⟩ _ ST.out.rdr hF.ended (hF.sign _ sg_46 _ ST.out.rdr.here)).mono ?_
  rintro e w2 (⟨hok, rfl, hr2, ho2⟩ | ⟨hok, hd, ho2⟩)
  case inr =>
    have HB := Lib.hid (FAILS.out _ _ e w2 (HG.out.trans (goP_s_bad (by decide) hok)) hd (only_trans ST.out.only ho2))
    unfold diesAt at hd
    subst hd
    clear hok ho2
    go_wp2_with fail
    exact ⟨rfl, HB.out⟩
  have st2 := ST.out.call hr2 ho2
  replace HG := Lib.hid (HG.out.trans (goP_s_ok (by decide) hok))
  replace ST := Lib.hid st2
  clear hr2 ho2 st2 hok
  have HF := Lib.hid (HG.out.trans goP_end)
  obtain ⟨k0, k1, k2, k3, _, _, _, _⟩ := ST.out.arg
  obtain ⟨r0, r1, r2, r3, rf0, rf1, rf2, rf3⟩ := ST.out.res
  have HE := Lib.hid (ST.out.done (.string tx) (.int .i64 tp) (.slice none 0 0) (.slice a1 1 c1))
  have HX := Lib.hid (ST.out.res.fill (.string tx) (.int .i64 tp) (.slice none 0 0) (.slice a1 1 c1))
  simp only at k0 k1
  go_wp2_with fail
  obtain ⟨r0, r1, r2, r3, _, _, _, _⟩ := HX.out
  refine bodyPost_ret (v := .agg #[.string tx, .int .i64 tp, .slice none 0 0, .slice a1 1 c1]) (by simp [results, Tryz.results29, go_sem, r0, r1, r2, r3]) rfl ?_
  obtain ⟨f1, f2, f3⟩ := HE.out
  exact DONE.out _ _ _ _ _ HF.out f1 f2 f3
end
end Go.Proofs.YtldgbdmiebipnaaGreatDoor

namespace Go.Proofs.YtldgbdmiebipnaaGreatDoor
open Go.RowKit

theorem key_ways {s : ByteArray} (h : Lib.containsS keyList s = true) : s = ⟨#[102, 117, 110]⟩ ∨ s = ⟨#[110, 97, 109, 101]⟩ ∨ s = ⟨#[117, 115, 101]⟩ ∨ s = ⟨#[114, 117, 108, 101]⟩ ∨ s = ⟨#[102, 114, 97, 109, 101]⟩ ∨ s = ⟨#[100, 101, 100, 117, 99, 101]⟩ ∨ s = ⟨#[101, 113, 117, 105, 118]⟩ ∨ s = ⟨#[110, 111, 114, 109, 97, 108]⟩ := by
  rw [Lib.containsS_iff] at h
  unfold keyList at h
  simp only [List.mem_cons, List.not_mem_nil, or_false] at h
  rcases h with e | e | e | e | e | e | e | e
  · exact .inl e
  · exact .inr (.inl e)
  · exact .inr (.inr (.inr (.inl e)))
  · exact .inr (.inr (.inr (.inr (.inl e))))
  · exact .inr (.inr (.inr (.inr (.inr (.inl e)))))
  · exact .inr (.inr (.inr (.inr (.inr (.inr (.inl e))))))
  · exact .inr (.inr (.inr (.inr (.inr (.inr (.inr e))))))
  · exact .inr (.inr (.inl e))

section
variable {g b o c : Nat} {L : List Tok}
set_option maxRecDepth 100000 in
set_option maxHeartbeats 4000000 in
theorem item_none (i : Nat) (W : World) (h : Rdr W g b o c L i 0) (hkey : Lib.containsS keyList (tkD L i).text = false) :
    Calls Tryz.prog 29 #[.pointer (some ⟨g, 0, none⟩)] W (ItemPost g b o c L i W) := by
  have HT := Lib.hid (fun (e : Ending) (w' : World) (he : e = diesAt L i) (ho : W.grownBy w' (some g)) => (show ItemPost g b o c L i W e w' from .inr (.inr ⟨hkey, he, ho⟩)))
  have F := Lib.hid (fun (V : World) (hv : Rdr V g b o c L i 0) => fail_any V hv)
  have h0 := h.c0
  have hi := h.here
  have hg := h.glt
  have hlt := h.lt
  have hbw : b < W.heap.size := by omega
  have hbw1 : b < W.heap.size + 1 := by omega
  have hbw2 : b < W.heap.size + 1 + 1 := by omega
  have hg1 : g < W.heap.size + 1 := by omega
  obtain ⟨t0, t1, t2, t3⟩ := h.toks i hi
  have K := key_any (tkD L i).text
  rw [hkey] at K
  unfold diesAt at F
  obtain ⟨t, ht⟩ : ∃ t, tkD L i = t := ⟨_, rfl⟩
  have hti : L[i] = t := by rw [← ht, tkD_at hi]
  rw [ht] at K
  rw [hti] at t0 t1 t2 t3
  clear ht hti hkey
  obtain ⟨tk, tx, tn, tp⟩ := t
  simp only at t0 t1 t2 t3 K
  replace K := Lib.hid K
  obtain ⟨n, hn⟩ : ∃ n, L.length - i = n := ⟨_, rfl⟩
  obtain ⟨k, hk⟩ : ∃ k, c - i = k := ⟨_, rfl⟩
  obtain ⟨a, ha⟩ : ∃ a, o + i * 4 = a := ⟨_, rfl⟩
  have hn0 : (0 : Int) < (n : Int) := by omega
  rw [hn, hk, ha] at h0
  rw [ha] at t0 t1 t2 t3
  have hB0 : Below W.heap.size W ((W.alloc (.cells #[.string ⟨#[]⟩, .int .i64 0, .slice none 0 0, .slice none 0 0] 63)).alloc (.cells #[.int .i64 tk, .string tx, .int .i64 tn, .int .i64 tp] 50)) := ((Below.refl _ _).alloc (Nat.le_refl _) _).alloc (by simp) _
  have HB0 := Lib.hid hB0
  have HR0 := Lib.hid (h.below hB0)
  clear hn hk ha h hB0
  go_enter Tryz.func29, Tryz.ntmps29
  go_wp2_with fail
  refine (K.out _).mono ?_; rintro e w1 ⟨rfl, hb1⟩
  have HR1 := Lib.hid (HR0.out.below hb1)
  have HB1 := Lib.hid (below_next HB0.out hb1)
  clear hb1
  go_wp2_with fail
  refine (F.out _ HR1.out).mono ?_; rintro e w2 ⟨rfl, rfl⟩
  go_wp2_with fail
  exact ⟨rfl, HT.out _ _ rfl (only_below HB1.out _)⟩
/-- An item is read as it should be. -/
theorem item_any (hF : Fine L) (i : Nat) (W : World) (h : Rdr W g b o c L i 0) :
    Calls Tryz.prog 29 #[.pointer (some ⟨g, 0, none⟩)] W (ItemPost g b o c L i W) := by
  cases hk : Lib.containsS keyList (tkD L i).text with
  | false => exact item_none i W h hk
  | true =>
    rcases key_ways hk with e | e | e | e | e | e | e | e
    · exact item_fun hF i W h e
    · exact item_name hF i W h e
    · exact item_use hF i W h e
    · exact item_rule hF i W h e
    · exact item_frame hF i W h e
    · exact item_deduce hF i W h e
    · exact item_equiv hF i W h e
    · exact item_normal hF i W h e
end
end Go.Proofs.YtldgbdmiebipnaaGreatDoor

namespace Go.Proofs.YtldgbdmiebipnaaGreatDoor
open Go.RowKit

theorem tokL_one {l : List UInt8} {c : Cut} (h : tokL l = some c) (hk : c.kind = 1) : c.n = 0 := by
  have hn : ∀ {k : Int} {t : List UInt8} {least : Int} {len : Nat}, k ≠ 1 → numCut k t least len = some c → c.n = 0 := fun hne h => absurd ((numCut_kind h).symm.trans hk) hne
  unfold tokL at h
  split at h
  · exact hn (by decide) h
  · split at h
    · exact hn (by decide) h
    · split at h
      · injection h with h; subst h; rfl
      · split at h
        · exact hn (by decide) h
        · split at h
          · split at h
            · injection h with h; subst h; rfl
            · split at h
              · injection h with h; subst h; rfl
              · cases h
          · cases h
theorem sound_text {t : Tok} (h : Sound t) : tokL t.text.data.toList = some ⟨t.kind, t.n, t.text.size⟩ := by
  have := h.tok [] (.inr noPart_nil)
  rwa [List.append_nil] at this
theorem sign_cut {s : ByteArray} (h : s ∈ signL) : (tokL s.data.toList).map Cut.kind = some 6 := by
  unfold signL sOpen sClose sComma sSemi sDot at h
  simp only [List.mem_cons, List.not_mem_nil, or_false] at h
  rcases h with rfl | rfl | rfl | rfl | rfl | rfl | rfl | rfl <;> decide +kernel
theorem key_cut {s : ByteArray} (h : Lib.containsS keyList s = true) : (tokL s.data.toList).map Cut.kind = some 1 := by
  rcases key_ways h with rfl | rfl | rfl | rfl | rfl | rfl | rfl | rfl <;> decide +kernel
theorem sign_size {s : ByteArray} (h : s ∈ signL) : s ≠ ⟨#[]⟩ := by
  intro e
  have := sign_cut h
  rw [e] at this
  revert this
  decide +kernel
theorem fine_of {s : ByteArray} {ts : List Tok} (h8 : s.size ≤ 8192) (h : scanS s = .inr ts) : Fine ts := by
  have hT := textToks_of h
  have hlen := (scanS_small h).2
  have hW : ∀ k, Sound (tkD ts k) ∨ ((tkD ts k).kind = 0 ∧ (tkD ts k).text = ⟨#[]⟩) := by
    obtain ⟨more, rfl, hS, _⟩ := scanS_sound h
    intro k
    rw [tkD_snoc]
    by_cases hk : k < more.length
    · rw [dif_pos hk]; exact .inl (hS _ (List.getElem_mem hk))
    · rw [dif_neg hk]
      split
      · exact .inr ⟨rfl, rfl⟩
      · exact .inr ⟨rfl, rfl⟩
  refine ⟨hT.ended, fun i => tokOk_of h8 h i, by omega, fun sg hsg k _ => ?_, fun k hk => ?_, fun k hk => ?_⟩
  · unfold isS
    cases hx : ((tkD ts k).text.toList == sg.toList) with
    | false => rw [Bool.and_false]
    | true =>
      rw [Lib.bytes_beq_iff] at hx
      rcases hW k with hs | ⟨_, ht⟩
      · have h1 := sound_text hs
        have h2 := sign_cut hsg
        rw [hx] at h1
        rw [h1] at h2
        injection h2 with h2
        simp only at h2
        rw [h2]; rfl
      · rw [ht] at hx; exact absurd hx.symm (sign_size hsg)
  · have h1 := wordK_kind hk
    rcases hW k with hs | ⟨h0, _⟩
    · exact tokL_one (sound_text hs) h1
    · rw [h0] at h1; cases h1
  · rcases hW k with hs | ⟨_, ht⟩
    · have h1 := sound_text hs
      have h2 := key_cut hk
      rw [h1] at h2
      injection h2 with h2
    · rw [ht, show Lib.containsS keyList ⟨#[]⟩ = false by decide +kernel] at hk; cases hk
end Go.Proofs.YtldgbdmiebipnaaGreatDoor

namespace Go.Proofs.YtldgbdmiebipnaaGreatDoor
open Go.RowKit

theorem own_max {w : World} {base : Nat} {e : TypeId} {size : Nat} {v : Value} {n : Nat} {xs : List Value} (h : w.ownsRow base e size v n xs) : n ≤ 9223372036854775807 := by
  obtain ⟨_, ⟨_, rfl⟩ | ⟨g, cap, cur, _, _, _, h1, h2, _⟩⟩ := h
  · exact Nat.zero_le _
  · unfold maxLen at h2; omega
theorem LiveIt.only {W W' : World} {G : Option Nat} {base g : Nat} {y : Iv} (h : LiveIt W G base y) (hb : W.grownBy W' (some g)) (hg : g < base) : LiveIt W' G base y := by
  obtain ⟨lo, hi, h1, h2, h3, h4, h5⟩ := h
  refine ⟨lo, hi, h1, h2, Nat.le_trans h3 hb.size, h4, fun W2 g1 g2 => h5 W2 g1 fun k k1 k2 => ?_⟩
  rw [g2 k k1 k2]
  exact hb.block k (by omega) (fun e => by injection e with e; omega)
theorem RowIt.only {W W' : World} {e : TypeId} {base g : Nat} {v : Value} {xs : List It} (h : RowIt W e base v xs) (hb : W.grownBy W' (some g)) (hg : g < base) : RowIt W' e base v xs := by
  obtain ⟨vs, h1, h2, h3⟩ := h
  exact ⟨vs, h1, fun x hx => (h2 x hx).only hb hg, own_at h3 fun k e => hb.block k (own_row_lt h3 k e) (fun q => by injection q with q; have := own_row_ge h3 k e; omega)⟩
theorem iv_one (y : Iv) (hw : y.vw.oneCell' = true) (ht : y.vt.oneCell' = true) : ∀ u ∈ y.cells, u.oneCell' = true := by
  intro u hu
  unfold Iv.cells at hu
  simp only [List.mem_cons, List.not_mem_nil, or_false] at hu
  rcases hu with rfl | rfl | rfl | rfl
  · rfl
  · rfl
  · exact hw
  · exact ht

/-- Items that a call has made read so wherever its blocks stand. -/
def MadeI (w w' : World) (v : Value) (xs : List It) : Prop := ∀ W', w'.heap.size ≤ W'.heap.size → (∀ k, w.heap.size ≤ k → k < w'.heap.size → W'.heap[k]? = w'.heap[k]?) → Its W' v xs
theorem MadeI.its {w w' : World} {v : Value} {xs : List It} (h : MadeI w w' v xs) : Its w' v xs := h w' (Nat.le_refl _) fun _ _ _ => rfl
theorem MadeI.none_ (w w' : World) (a : Option Addr) (c : Nat) : MadeI w w' (.slice a 0 c) [] := fun _ _ _ => Its.none_ _ _ _
theorem MadeI.wide {u w w' : World} {v : Value} {xs : List It} (h : MadeI w w' v xs) (h1 : u.heap.size ≤ w.heap.size) : MadeI u w' v xs := fun W' g1 g2 => h W' g1 fun k k1 k2 => g2 k (Nat.le_trans h1 k1) k2
theorem RowIt.made {w W : World} {e : TypeId} {base : Nat} {v : Value} {xs : List It} (h : RowIt W e base v xs) (hb : w.heap.size ≤ base) (hl : xs.length ≤ 9223372036854775807) : MadeI w W v xs := fun W' g1 g2 => by
  obtain ⟨vs, h1, h2, h3⟩ := h
  refine RowIt.its (e := e) (base := base) ⟨vs, h1, fun x hx => ?_, own_at h3 fun q e => g2 q (Nat.le_trans hb (own_row_ge h3 q e)) (own_row_lt h3 q e)⟩ hl
  obtain ⟨lo, hi, k1, k2, k3, k4, k5⟩ := h2 x hx
  exact ⟨lo, hi, k1, k2, Nat.le_trans k3 g1, k4, fun W2 q1 q2 => k5 W2 q1 fun k j1 j2 => (q2 k j1 j2).trans (g2 k (by omega) (by omega))⟩

section
variable {g b o c : Nat} {L : List Tok}
theorem items_none (hE : Ended L) {k : Nat} (h : (tkD L k).kind = 0) : itemsP L k = .inr [] := by rw [itemsP_at hE, if_pos h]
theorem items_nokey (hE : Ended L) {k : Nat} (h : (tkD L k).kind ≠ 0) (hk : Lib.containsS keyList (tkD L k).text = false) : itemsP L k = .inl k := by
  rw [itemsP_at hE, if_neg h]
  by_cases h1 : (tkD L k).kind = 1
  · rw [if_pos (.inr (by unfold wordK; rw [h1, hk]; rfl))]
  · rw [if_pos (.inl h1)]
theorem items_key (hF : Fine L) {k : Nat} (hk : Lib.containsS keyList (tkD L k).text = true) : itemsP L k = if (itemR L k).2.2 = false then .inl (itemR L k).2.1 else joinI [(itemR L k).1] (itemsP L (itemR L k).2.1) := by
  have h1 := hF.key k hk
  rw [itemsP_at hF.ended, if_neg (by rw [h1]; decide), if_neg (by rw [not_or]; exact ⟨by simp [h1], by unfold wordK; rw [hk]; simp⟩)]
  rfl
/-- What a call of file leaves. -/
def FilePost (g : Nat) (L : List Tok) (w : World) (e : Ending) (w' : World) : Prop :=
  (∃ xs, itemsP L 0 = .inr xs ∧ ∃ v, e = .returned v ∧ MadeI w w' v xs ∧ w.grownBy w' (some g)) ∨ (∃ j, itemsP L 0 = .inl j ∧ e = diesAt L j ∧ w.grownBy w' (some g))

set_option maxRecDepth 100000 in
set_option maxHeartbeats 4000000 in
theorem file_any (hF : Fine L) (W : World) (h : Rdr W g b o c L 0 0) :
    Calls Tryz.prog 13 #[.pointer (some ⟨g, 0, none⟩)] W (FilePost g L W) := by
  obtain ⟨i0, hti, hz0, hz1, hz2⟩ := info_parts (show (Tryz.prog.info? 63).map (fun i => (i.zero, i.size, i.bytes)) = some (some (.agg #[.string ⟨#[]⟩, .int .i64 0, .slice none 0 0, .slice none 0 0]), 4, 72) by kernel_rfl)
  have hg := h.glt
  have HR0 := Lib.hid h
  have hlen := hF.len
  have IT := Lib.hid (fun (k : Nat) (V : World) (hv : Rdr V g b o c L k 0) => item_any hF k V hv)
  have OK := Lib.hid (fun (xs : List It) (v : Value) (w' : World) (h1 : itemsP L 0 = .inr xs) (h2 : MadeI W w' v xs) (h3 : W.grownBy w' (some g)) => (show FilePost g L W (.returned v) w' from .inl ⟨xs, h1, v, rfl, h2, h3⟩))
  have BAD := Lib.hid (fun (j : Nat) (e : Ending) (w' : World) (h1 : itemsP L 0 = .inl j) (h2 : e = diesAt L j) (h3 : W.grownBy w' (some g)) => (show FilePost g L W e w' from .inr ⟨j, h1, h2, h3⟩))
  clear h
  go_enter Tryz.func13, Tryz.ntmps13
  go_wp2_with fail
  go_loopg [3] L.length (fun gg l wr => ∃ (k : Nat) (xs : List It), L.length - k ≤ gg ∧ xs.length ≤ k ∧ Rdr wr g b o c L k 0 ∧ RowIt wr 63 W.heap.size l xs ∧ W.grownBy wr (some g) ∧ Hid (itemsP L 0 = joinI xs (itemsP L k)))
  case atStart => exact ⟨0, [], by omega, Nat.zero_le _, HR0.out, rowIt_nil _ _ _, only_refl _ _, Lib.hid (by cases itemsP L 0 <;> rfl)⟩
  case round =>
    obtain ⟨k, xs, hgg, hxk, hr, hrow, ho, HQ⟩ := hrel
    have h0 := hr.c0
    have hk := hr.here
    obtain ⟨t0, t1, t2, t3⟩ := hr.toks k hk
    have HR := Lib.hid hr
    have HROW := Lib.hid hrow
    have HO := Lib.hid ho
    have HTI := Lib.hid (tkD_at hk)
    obtain ⟨tk, htk⟩ : ∃ tk, L[k].kind = tk := ⟨_, rfl⟩
    rw [htk] at t0
    have HTK := Lib.hid (show (tkD L k).kind = tk by rw [HTI.out, htk])
    obtain ⟨n, hn⟩ : ∃ n, L.length - k = n := ⟨_, rfl⟩
    obtain ⟨q, hq⟩ : ∃ q, c - k = q := ⟨_, rfl⟩
    obtain ⟨a, ha⟩ : ∃ a, o + k * 4 = a := ⟨_, rfl⟩
    have hn0 : (0 : Int) < (n : Int) := by omega
    rw [hn, hq, ha] at h0
    rw [ha] at t0 t1 t2 t3
    have HN := Lib.hid hn
    clear hr hrow ho htk hq ha hn
    cases hz : (tk == 0) with
    | true =>
      have hz' : (tk != 0) = false := by rw [bne, hz]; rfl
      have HF2 := Lib.hid (show itemsP L 0 = .inr xs by rw [HQ.out, items_none hF.ended (by rw [HTK.out]; simpa using hz)]; show Sum.inr (xs ++ []) = _; rw [List.append_nil])
      have HI := Lib.hid (HROW.out.made (w := W) (Nat.le_refl _) (by omega))
      obtain ⟨a', c', hv⟩ : ∃ a' c', u3 = .slice a' xs.length c' := by
        obtain ⟨_, _, _, hown⟩ := HROW.out
        exact own_slice hown
      subst hv
      clear hz
      go_wp2_with fail
      go_ret
      exact OK.out xs _ _ HF2.out HI.out HO.out
    | false =>
      have hz' : (tk != 0) = true := by rw [bne, hz]; rfl
      have HNZ := Lib.hid (show (tkD L k).kind ≠ 0 by rw [HTK.out]; simpa using hz)
      clear hz
      go_wp2_with fail
      refine (IT.out k _ HR.out).mono ?_
      rintro e w2 (⟨hkey, hok, vw, vt, rfl, hrw, hr2, ho2⟩ | ⟨hkey, hok, hd, ho2⟩ | ⟨hkey, hd, ho2⟩)
      case inr.inl =>
        have HB := Lib.hid (BAD.out _ e w2 (show itemsP L 0 = .inl (itemR L k).2.1 by rw [HQ.out, items_key hF hkey, if_pos hok]; rfl) hd (only_trans HO.out ho2))
        unfold diesAt at hd
        subst hd
        clear ho2
        go_wp2_with fail
        exact ⟨rfl, HB.out⟩
      case inr.inr =>
        have HB := Lib.hid (BAD.out _ e w2 (show itemsP L 0 = .inl k by rw [HQ.out, items_nokey hF.ended HNZ.out hkey]; rfl) hd (only_trans HO.out ho2))
        unfold diesAt at hd
        subst hd
        clear ho2
        go_wp2_with fail
        exact ⟨rfl, HB.out⟩
      case inl =>
        have hle : k + 1 ≤ (itemR L k).2.1 := goP_le L _ _ (k + 1)
        have hkeys := goP_key L (shapesOf (tkD L k).text) ⟨(tkD L k).text, (tkD L k).place, [], []⟩ (k + 1)
        have HQ2 := Lib.hid (show itemsP L 0 = joinI (xs ++ [(itemR L k).1]) (itemsP L (itemR L k).2.1) by rw [HQ.out, items_key hF hkey, if_neg (by rw [hok]; decide), joinI_join])
        have hfit := (hF.ok k).len
        obtain ⟨⟨aw, cw, rfl⟩, at_, ct, rfl⟩ := hrw.slices
        have hm1 : (itemR L k).1.words.length ≤ 9223372036854775807 := by obtain ⟨_, _, _, hown⟩ := hrw.wds; exact own_max hown
        have hm2 : (itemR L k).1.trees.length ≤ 9223372036854775807 := by obtain ⟨_, _, _, hown⟩ := hrw.trs; exact own_max hown
        have hsz2 := ho2.size
        have hszr := HO.out.size
        have hmade := fun W' g1 g2 => hrw.made hm1 hm2 W' g1 g2
        obtain ⟨⟨⟨key, spot, ws, ts⟩, j, ok⟩, hx⟩ : ∃ y, itemR L k = y := ⟨_, rfl⟩
        unfold itemR at hx
        rw [hx] at hkeys
        obtain ⟨hkk, hks⟩ := hkeys
        simp only at hkk hks
        have hx' : itemR L k = (⟨key, spot, ws, ts⟩, j, ok) := hx
        rw [hx'] at HQ2 hr2 hle hmade hrw
        rw [hx']
        simp only at HQ2 hr2 hle hmade hrw ⊢
        rw [← hkk, ← hks]
        have HKS := Lib.hid (show key.size ≤ 9223372036854775807 by rw [hkk]; exact hfit)
        have hB : Below w2.heap.size w2 (w2.alloc (.cells #[.string key, .int .i64 spot, .slice aw ws.length cw, .slice at_ ts.length ct] 63)) := (Below.refl _ _).alloc (Nat.le_refl _) _
        have HR3 := Lib.hid (hr2.below hB)
        have HO3 := Lib.hid (only_next (only_trans HO.out ho2) hB)
        obtain ⟨vs, hvt, hvl, hown⟩ := HROW.out.only ho2 hg
        obtain ⟨_, _, _, hownr⟩ := HROW.out
        have hlr := own_row_lt hownr
        have hlo := own_row_ge hown
        have hlive : LiveIt w2 u3.ownBlock W.heap.size ⟨⟨key, spot, ws, ts⟩, .slice aw ws.length cw, .slice at_ ts.length ct⟩ :=
          ⟨wr.heap.size, w2.heap.size, hszr, hsz2, Nat.le_refl _, fun q e => .inl (hlr q e), fun W' g1 g2 => ⟨(hmade W' g1 g2).1, (hmade W' g1 g2).2, HKS.out⟩⟩
        have HY := Lib.hid (hlive.below hB)
        have HVL := Lib.hid (fun x hx => (hvl x hx).below hB)
        have HVT := Lib.hid hvt
        have hlen3 : xs.length ≤ 100000 := by omega
        clear hkey hok hrw hr2 ho2 hm1 hm2 hmade hx hx' hkk hks hfit hB hlive hvl hvt hownr hlr
        go_wp2_with (at_builtin; refine wpList_append_own_at _ rfl _ _ 23 rfl W.heap.size 63 i0 (.agg #[.string ⟨#[]⟩, .int .i64 0, .slice none 0 0, .slice none 0 0]) 4 72 Tryz.underlying23 hti hz0 hz1 hz2 rfl (by decide) _ xs.length _ rfl (hown.alloc _) ⟨w2.heap.size, 0, none⟩ 1 1 [.string key, .int .i64 spot, .slice aw ws.length cw, .slice at_ ts.length ct] rfl rfl ?c1 ?c2 ?c3 ?c4 ?c5 ?_)
        case c1 => exact new_row w2 _ _
        case c2 => exact iv_one ⟨⟨key, spot, ws, ts⟩, .slice aw ws.length cw, .slice at_ ts.length ct⟩ rfl rfl
        case c3 => unfold maxLen; omega
        case c4 => omega
        case c5 => simp; omega
        intro v' w4 hown' hgrow _ hat
        have hrow4 := RowIt.snoc (y := ⟨⟨key, spot, ws, ts⟩, .slice aw ws.length cw, .slice at_ ts.length ct⟩) HVT.out HVL.out HY.out hown' hgrow (by simpa using hat)
        have HROW4 := Lib.hid hrow4
        have HO4 := Lib.hid (only_row HO3.out hgrow hlo)
        have HR4 := Lib.hid (HR3.out.row hgrow (fun q e => by have := hlo q e; omega))
        clear hrow4 hown' hgrow hat hown hlo
        go_wp2_with fail
        go_roundg (L.length - j)
        case measure => omega
        case rel => exact ⟨j, xs ++ [⟨key, spot, ws, ts⟩], Nat.le_refl _, by rw [List.length_append]; show xs.length + 1 ≤ j; omega, HR4.out, HROW4.out, HO4.out, HQ2⟩
end
end Go.Proofs.YtldgbdmiebipnaaGreatDoor

namespace Go.Proofs.YtldgbdmiebipnaaGreatDoor
open Go.RowKit

theorem tokL_kind {l : List UInt8} {c : Cut} (h : tokL l = some c) : c.kind ≠ 0 := by
  have hn : ∀ {k : Int} {t : List UInt8} {least : Int} {len : Nat}, k ≠ 0 → numCut k t least len = some c → c.kind ≠ 0 := by
    intro k t least len hk h
    unfold numCut at h; split at h
    · cases h; exact hk
    · cases h
  unfold tokL at h
  split at h
  · exact hn (by decide) h
  · split at h
    · exact hn (by decide) h
    · split at h
      · cases h; decide
      · split at h
        · exact hn (by decide) h
        · split at h
          · split at h
            · cases h; exact (by decide : (2 : Int) ≠ 0)
            · split at h
              · cases h; exact (by decide : (1 : Int) ≠ 0)
              · cases h
          · cases h
theorem rest_list (s : ByteArray) (i : Nat) : (s.extract i s.size).data.toList = s.data.toList.drop i := by
  rw [ext_list, List.take_of_length_le (by simp)]
theorem rest_text (s : ByteArray) {i n : Nat} (_h : i + n ≤ s.size) : (s.extract i s.size).extract 0 n = s.extract i (i + n) := by
  rw [← bs_list ((s.extract i s.size).extract 0 n), ext_list, rest_list, List.drop_zero, ← bs_list (s.extract i (i + n)), ext_list, List.drop_take, show i + n - i = n from by omega]
end Go.Proofs.YtldgbdmiebipnaaGreatDoor

namespace Go.Proofs.YtldgbdmiebipnaaGreatDoor
open Go.RowKit

set_option maxHeartbeats 400000 in
theorem parts_any (s : ByteArray) (fi : Int) (f m : Nat) (hfi : fi = f) (hm : m = f + run s f) (hf : f ≤ s.size) (hs : s.size ≤ 9223372036854775806) (w : World) :
    Calls Tryz.prog 72 #[.string s, .int .i64 fi] w fun e w' => e = .returned (.int .i64 m) ∧ w = w' := by
  subst hfi
  have HM := Lib.hid hm
  clear hm
  go_enter Tryz.func72, Tryz.ntmps72
  go_wp2
  go_loop [1] (fun i => ∃ k : Nat, k ≤ s.size ∧ i = .int .i64 k ∧ m = k + run s k) (fun i => s.size - (intOf i).toNat)
  case atStart => exact ⟨f, hf, rfl, HM.out⟩
  case round =>
    obtain ⟨k, hk, rfl, ha⟩ := hrel
    have HA := Lib.hid ha
    clear ha
    by_cases hlt : k < s.size
    · cases hp : part (s[k].toNat : Int) with
      | true =>
        have HP := Lib.hid hp
        clear hp
        go_wp2_with (go_at_call 84; refine (part_any _ _).mono ?_; rintro e w' ⟨rfl, rfl⟩; rw [HP.out])
        go_round
        case rel => exact ⟨k + 1, by omega, by go_num, by have := run_some s hlt HP.out; have := HA.out; omega⟩
        case measure => simp [intOf]; omega
      | false =>
        have HP := Lib.hid hp
        clear hp
        go_wp2_with (go_at_call 84; refine (part_any _ _).mono ?_; rintro e w' ⟨rfl, rfl⟩; rw [HP.out])
        go_ret
        exact ⟨ret_int (by have := run_none s hlt HP.out; have := HA.out; omega), rfl⟩
    · go_wp2
      go_ret
      refine ⟨ret_int ?_, rfl⟩
      have e : k = s.size := by omega
      have := run_end s
      have := HA.out
      rw [e] at this
      omega
end Go.Proofs.YtldgbdmiebipnaaGreatDoor

namespace Go.Proofs.YtldgbdmiebipnaaGreatDoor
open Go.RowKit

theorem laidMet_head {P : Program} {x : String × DataW Unit} {r : List (String × DataW Unit)} {w : World} (h : laidMet P (x :: r) w) : laidMet P [x] w := by
  obtain ⟨ps, hv, hnd, hrows⟩ := h
  obtain ⟨n, d⟩ := x
  obtain ⟨g, t, cs, fuel, p, q, h1, h2, h3, h4, hq, rfl⟩ := hv
  refine ⟨_, ⟨g, t, cs, fuel, p, [], h1, h2, h3, h4, rfl, rfl⟩, ?_, ?_⟩
  · rw [List.append_nil]
    exact List.Nodup.sublist (List.sublist_append_left _ _) hnd
  · intro b off hm
    rw [List.append_nil] at hm
    exact hrows b off (List.mem_append_left _ hm)
theorem laidMet_one {P : Program} {x : String × DataW Unit} {w : World} : ∀ {l : List (String × DataW Unit)}, laidMet P l w → x ∈ l → laidMet P [x] w
  | [], _, hm => by cases hm
  | y :: r, h, hm => by
    rcases List.mem_cons.1 hm with rfl | hm
    · exact laidMet_head h
    · exact laidMet_one h.tail hm
theorem gPow : Tryz.prog.globalNamed "internal/strconv.uint64pow10" = some 3 := by kernel_rfl
theorem gPowType : (Tryz.prog.globals[3]?).map (·.type) = some 160 := by kernel_rfl
theorem cellsPow : Tryz.prog.cellsOf 160 = 20 := by kernel_rfl
theorem cellsU64 : Tryz.prog.cellsOf 126 = 1 := by kernel_rfl
theorem lt_of_var {w : World} {n : String} {g : Nat} {cs : Array Value} (hg : Tryz.prog.globalNamed n = some g) (h : w.var? Tryz.prog n = some cs) : g < w.heap.size := by
  unfold World.var? at h
  rw [hg] at h
  simp only [Option.bind_some] at h
  rcases Nat.lt_or_ge g w.heap.size with h' | h'
  · exact h'
  · simp [Array.getElem?_eq_none h'] at h
theorem below_grow (w : World) (k : Nat) (os : Array Obj) : Below w.heap.size w (Sort.grow (w.drewN k) os) :=
  ⟨rfl, rfl, rfl, by show w.heap.size ≤ (w.heap ++ os).size; simp, fun i hi => by show (w.heap ++ os)[i]? = _; rw [Array.getElem?_append_left hi]⟩
end Go.Proofs.YtldgbdmiebipnaaGreatDoor

namespace Go.Proofs.YtldgbdmiebipnaaGreatDoor
open Go.RowKit

theorem gRange : Tryz.prog.globalNamed "strconv.ErrRange" = some 2 := by kernel_rfl
theorem gRangeType : (Tryz.prog.globals[2]?).map (·.type) = some 65 := by kernel_rfl
theorem gSyntax : Tryz.prog.globalNamed "strconv.ErrSyntax" = some 1 := by kernel_rfl
theorem gSyntaxType : (Tryz.prog.globals[1]?).map (·.type) = some 65 := by kernel_rfl
theorem cellsErr : Tryz.prog.cellsOf 157 = 1 := by kernel_rfl
theorem cellsStr : Tryz.prog.cellsOf 9 = 1 := by kernel_rfl
theorem starErr : "*" ++ "errors.errorString" = "*errors.errorString" := by decide
theorem rowErr (u : TypeId) (h : Tryz.prog.typeName? 3 u = some "*errors.errorString") : u = 155 :=
  typeName_ptr_named (nm := "errors.errorString") (by rw [starErr]; kernel_rfl) (by kernel_rfl) (by decide) u (by rw [starErr]; exact h)

/-- What the contracts of strconv ask of a world. -/
structure Tabs (w : World) : Prop where
  pow : Lib.TabIs Tryz.prog w "internal/strconv.uint64pow10" .u64 Lib.pow10Tab
  eSyn : ∃ tp p, w.var? Tryz.prog "strconv.ErrSyntax" = some #[.iface tp p]
  eRng : ∃ tp p, w.var? Tryz.prog "strconv.ErrRange" = some #[.iface tp p]
  size : 3 < w.heap.size ∧ 1 < w.heap.size ∧ 2 < w.heap.size

theorem var_below {w w' : World} {n : String} {g : Nat} {cs : Array Value} (hb : Below w.heap.size w w') (hg : Tryz.prog.globalNamed n = some g) (hl : g < w.heap.size) (h : w.var? Tryz.prog n = some cs) : w'.var? Tryz.prog n = some cs := by
  unfold World.var? at h ⊢
  rw [hg] at h ⊢
  simp only [Option.bind_some] at h ⊢
  rw [hb.block g hl]
  exact h
theorem Tabs.below {w w' : World} (h : Tabs w) (hb : Below w.heap.size w w') : Tabs w' where
  pow := var_below hb gPow h.size.1 h.pow
  eSyn := by obtain ⟨tp, p, e⟩ := h.eSyn; exact ⟨tp, p, var_below hb gSyntax h.size.2.1 e⟩
  eRng := by obtain ⟨tp, p, e⟩ := h.eRng; exact ⟨tp, p, var_below hb gRange h.size.2.2 e⟩
  size := ⟨Nat.lt_of_lt_of_le h.size.1 hb.size, Nat.lt_of_lt_of_le h.size.2.1 hb.size, Nat.lt_of_lt_of_le h.size.2.2 hb.size⟩

theorem tabs_of {l : List (String × DataW Unit)} {w : World} (h : laidMetH Tryz.prog l w) (hp : (l.all fun x => x.2.handleName?.isNone) = true)
    (h1 : ("internal/strconv.uint64pow10", Rows.laid_internal_strconv_uint64pow10) ∈ l) (h2 : ("strconv.ErrRange", Rows.laid_strconv_ErrRange) ∈ l) (h3 : ("strconv.ErrSyntax", Rows.laid_strconv_ErrSyntax) ∈ l) : Tabs w := by
  rw [MakeChecks.laidMetH_plain _ _ _ hp] at h
  have a1 : Lib.TabIs Tryz.prog w "internal/strconv.uint64pow10" .u64 Lib.pow10Tab :=
    Lib.tabIs_of_head (rest := []) gPow gPowType Tryz.underlying160 Tryz.underlying126 cellsU64 cellsPow (laidMet_one h h1)
  obtain ⟨a, s, hv, _⟩ := laid_sentinel (laidMet_one h h2) gRange gRangeType Tryz.underlying65 rowErr Tryz.underlying155 Tryz.underlying157 rfl rfl Tryz.underlying9 cellsErr cellsStr
  obtain ⟨a', s', hv', _⟩ := laid_sentinel (laidMet_one h h3) gSyntax gSyntaxType Tryz.underlying65 rowErr Tryz.underlying155 Tryz.underlying157 rfl rfl Tryz.underlying9 cellsErr cellsStr
  exact ⟨a1, ⟨_, _, hv'⟩, ⟨_, _, hv⟩, lt_of_var gPow a1, lt_of_var gSyntax hv', lt_of_var gRange hv⟩

/-- strconv.Atoi at a text that is no numeral, and not out of range: an error that isn't nil. -/
theorem atoi_bad (s : ByteArray) (hlim : s.size ≤ 281474976710656) (h1 : ∀ v, Lib.atoiAll s.data.toList ≠ .ok v) (h2 : Lib.atoiAll s.data.toList ≠ .range) (tp : TypeId) (p : Value) (w : World)
    (hvar : w.var? Tryz.prog "strconv.ErrSyntax" = some #[.iface tp p]) :
    Calls Tryz.prog 91 #[.string s] w fun e w' => ∃ N, e = .returned (.tuple #[.int .i64 0, .iface 139 (.pointer (some ⟨N, 0, none⟩))]) ∧ Below w.heap.size w w' := by
  cases ha : Lib.atoiAll s.data.toList with
  | ok v => exact absurd ha (h1 v)
  | range => exact absurd ha h2
  | _ =>
    refine (Go.Proofs.Any.strconv_Atoi_syntax_var Tryz.laysC172 s hlim ha tp p w hvar).mono ?_
    rintro e w' ⟨N, h, _, _, hb⟩
    exact ⟨N, h, hb⟩

end Go.Proofs.YtldgbdmiebipnaaGreatDoor

namespace Go.Proofs.YtldgbdmiebipnaaGreatDoor
open Go.RowKit

set_option maxHeartbeats 400000 in
theorem digits_any (n : Int) (h0 : -9223372036854775808 ≤ n) (h1 : n ≤ 9223372036854775807) (w : World) (hT : Tabs w) :
    Calls Tryz.prog 88 #[.int .i64 n] w fun e w' => e = .returned (.string ⟨(Lib.itoa n).toArray⟩) ∧ Below w.heap.size w w' := by
  have c := Tryz.strconv_Itoa n h0 h1 w hT.pow
  have C := Lib.hid c
  clear c hT
  go_enter Tryz.func88, Tryz.ntmps88
  go_wp2_with (go_at_call 93; refine C.out.mono ?_; rintro e w' ⟨rfl, k, os, rfl⟩)
  go_ret
  exact ⟨rfl, below_grow _ _ _⟩
theorem below_bytes {w w' : World} (h : w' = w ∨ ∃ t, w' = Lib.bytesWorld w 5 t) : Below w.heap.size w w' := by
  rcases h with rfl | ⟨t, rfl⟩
  · exact Below.refl _ _
  · exact Lib.bytesWorld_below _ _ _
set_option maxHeartbeats 400000 in
theorem number_any (s : ByteArray) (hs : s.size ≤ 281474976710656) (w : World) (hT : Tabs w) :
    Calls Tryz.prog 85 #[.string s] w fun e w' => e = numEnd s ∧ Below w.heap.size w w' := by
  have HT := Lib.hid hT
  cases ha : Lib.atoiAll s.data.toList with
  | ok v =>
    have C := Lib.hid (Tryz.strconv_Atoi_ok s (by omega) v ha w)
    have hb := Lib.atoiAll_bounds ha
    have HA := Lib.hid ha
    clear ha hT
    by_cases hv : 0 ≤ v ∧ v ≤ 999
    · have D := Lib.hid (fun w (hT : Tabs w) => digits_any v hb.1 hb.2 w hT)
      obtain ⟨v, rfl⟩ := Int.eq_ofNat_of_zero_le hv.1
      by_cases he : Lib.itoa v = s.data.toList
      · have hq : (Lib.itoa v == s.toList) = true := by rw [beq_iff_eq, he, ByteArray.toList_eq]
        have HE := Lib.hid he
        clear he
        go_enter Tryz.func85, Tryz.ntmps85
        go_wp2_with (first | (go_at_call 91; refine C.out.mono ?_; rintro e w1 ⟨rfl, hw⟩; replace hw := below_bytes hw) | (go_at_call 88; refine (D.out _ (HT.out.below (by assumption))).mono ?_; rintro e w2 ⟨rfl, hw2⟩))
        go_ret2
        exact ⟨numEnd_some (num_good hv.1 hv.2 HE.out), hw.trans (hw2.mono hw.size)⟩
      · have hq : (Lib.itoa v == s.toList) = false := by rw [beq_eq_false_iff_ne, ByteArray.toList_eq]; exact he
        have HE := Lib.hid he
        clear he
        go_enter Tryz.func85, Tryz.ntmps85
        go_wp2_with (first | (go_at_call 91; refine C.out.mono ?_; rintro e w1 ⟨rfl, hw⟩; replace hw := below_bytes hw) | (go_at_call 88; refine (D.out _ (HT.out.below (by assumption))).mono ?_; rintro e w2 ⟨rfl, hw2⟩))
        go_ret2
        exact ⟨numEnd_none (num_other HA.out HE.out), hw.trans (hw2.mono hw.size)⟩
    · go_enter Tryz.func85, Tryz.ntmps85
      go_wp2_with (go_at_call 91; refine C.out.mono ?_; rintro e w1 ⟨rfl, hw⟩; replace hw := below_bytes hw)
      all_goals go_ret2
      all_goals exact ⟨numEnd_none (num_bad HA.out hv), hw⟩
  | range =>
    obtain ⟨tp, p, hv⟩ := hT.eRng
    have C := Lib.hid (Tryz.strconv_Atoi_range_var s hs ha tp p w hv)
    have HN := Lib.hid (num_err (l := s.data.toList) (fun v => by rw [ha]; exact fun e => by cases e))
    clear ha hT hv
    go_enter Tryz.func85, Tryz.ntmps85
    go_wp2_with (go_at_call 91; refine C.out.mono ?_; rintro e w1 ⟨N, rfl, _, _, hw⟩)
    go_ret2
    exact ⟨numEnd_none HN.out, hw⟩
  | _ =>
    obtain ⟨tp, p, hv⟩ := hT.eSyn
    have C := Lib.hid (atoi_bad s hs (fun v e => by rw [ha] at e; cases e) (fun e => by rw [ha] at e; cases e) tp p w hv)
    have HN := Lib.hid (num_err (l := s.data.toList) (fun v => by rw [ha]; exact fun e => by cases e))
    clear ha hT hv
    go_enter Tryz.func85, Tryz.ntmps85
    go_wp2_with (go_at_call 91; refine C.out.mono ?_; rintro e w1 ⟨N, rfl, hw⟩)
    go_ret2
    exact ⟨numEnd_none HN.out, hw⟩
end Go.Proofs.YtldgbdmiebipnaaGreatDoor

namespace Go.Proofs.YtldgbdmiebipnaaGreatDoor
open Go.RowKit

set_option maxHeartbeats 400000 in
theorem upper_any (s : ByteArray) (hs : s.size ≤ 9223372036854775806) (w : World) :
    Calls Tryz.prog 83 #[.string s] w fun e w' => e = .returned (.bool (upperB s)) ∧ Below w.heap.size w w' := by
  have HW := Lib.hid (show upperB s = (speltB s 2 && !Lib.containsS keyList s) from rfl)
  have C := Lib.hid (fun w => spelt_any s 2 hs w)
  have K := Lib.hid (fun w => key_any s w)
  cases hp : speltB s 2 with
  | true =>
    have HP := Lib.hid hp
    clear hp
    go_enter Tryz.func83, Tryz.ntmps83
    go_wp2_with (first | (go_at_call 90; refine (C.out _).mono ?_; rintro e w1 ⟨rfl, hb⟩; rw [HP.out]) | (go_at_call 51; refine (K.out _).mono ?_; rintro e w2 ⟨rfl, hb2⟩))
    go_ret
    exact ⟨ret_bool (by rw [HW.out, HP.out]; rfl), hb.trans (hb2.mono hb.size)⟩
  | false =>
    have HP := Lib.hid hp
    clear hp
    go_enter Tryz.func83, Tryz.ntmps83
    go_wp2_with (go_at_call 90; refine (C.out _).mono ?_; rintro e w1 ⟨rfl, hb⟩; rw [HP.out])
    go_ret
    exact ⟨ret_bool (by rw [HW.out, HP.out]; rfl), hb⟩
end Go.Proofs.YtldgbdmiebipnaaGreatDoor
