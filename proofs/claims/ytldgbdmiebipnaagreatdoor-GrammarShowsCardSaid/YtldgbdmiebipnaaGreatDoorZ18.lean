/-
  The program's grammar, an item that begins with 'frame'.
  The program's grammar, an item that begins with 'deduce'.
  The region 'x.f = append(x.f, call(r), call(r))' at its slots: its operations in whatever order; any program. No function of the program. (printed by tools/genapp3.py)
  The program's grammar, an item: two words at once.
-/
import Derived.Test.YtldgbdmiebipnaaGreatDoorZ17
import Derived.Test.YtldgbdmiebipnaaGreatDoorZ14
namespace Go.Proofs.YtldgbdmiebipnaaGreatDoor
open Go.RowKit

section
variable {g b o c : Nat} {L : List Tok}
set_option maxRecDepth 100000 in
set_option maxHeartbeats 4000000 in
theorem item_frame (hF : Fine L) (i : Nat) (W : World) (h : Rdr W g b o c L i 0) (ht0 : (tkD L i).text = ⟨#[102, 114, 97, 109, 101]⟩) :
    Calls Tryz.prog 29 #[.pointer (some ⟨g, 0, none⟩)] W (ItemPost g b o c L i W) := by
  have hkey : Lib.containsS keyList (tkD L i).text = true := by rw [ht0]; decide +kernel
  have hk1 := hF.key i hkey
  have hi1 : i + 1 < L.length := hF.ended i (by rw [hk1]; decide)
  have HG := Lib.hid (show itemR L i = goP L [119, 58, 108, 46] ⟨(tkD L i).text, (tkD L i).place, [], []⟩ (i + 1) by unfold itemR; rw [show shapesOf (tkD L i).text = [119, 58, 108, 46] by rw [ht0]; decide +kernel])
  have q_fun : ((tkD L i).text.toList == [102, 117, 110]) = false := by rw [ht0]; decide +kernel
  have q_name : ((tkD L i).text.toList == [110, 97, 109, 101]) = false := by rw [ht0]; decide +kernel
  have q_use : ((tkD L i).text.toList == [117, 115, 101]) = false := by rw [ht0]; decide +kernel
  have q_rule : ((tkD L i).text.toList == [114, 117, 108, 101]) = false := by rw [ht0]; decide +kernel
  have q_frame : ((tkD L i).text.toList == [102, 114, 97, 109, 101]) = true := by rw [ht0]; decide +kernel
  have FAILS := Lib.hid (fun (it : It) (q : Nat) (e : Ending) (w' : World) (hr : itemR L i = (it, q, false)) (he : e = diesAt L q) (ho : W.grownBy w' (some g)) => (show ItemPost g b o c L i W e w' from .inr (.inl ⟨hkey, by rw [hr], by rw [hr]; exact he, ho⟩)))
  have DONE := Lib.hid (fun (it : It) (q : Nat) (vw vt : Value) (w' : World) (hr : itemR L i = (it, q, true)) (h1 : RowsI w' (fun _ => False) 39 W.heap.size vw it.words vt it.trees) (h2 : Rdr w' g b o c L q 0) (h3 : W.grownBy w' (some g)) =>
    (show ItemPost g b o c L i W (.returned (.agg #[.string (tkD L i).text, .int .i64 (tkD L i).place, vw, vt])) w' from .inl ⟨hkey, by rw [hr], vw, vt, rfl, by rw [hr]; exact h1, by rw [hr]; exact h2, h3⟩))
  have h0 := h.c0
  have hf := h.f0
  have hi := h.here
  have hg := h.glt
  have hlt := h.lt
  have hcap := h.cap
  have hbw : b < W.heap.size := by omega
  have hbw1 : b < W.heap.size + 1 := by omega
  have hbw2 : b < W.heap.size + 1 + 1 := by omega
  have hg1 : g < W.heap.size + 1 := by omega
  obtain ⟨t0, t1, t2, t3⟩ := h.toks i hi
  have K := key_any (tkD L i).text
  rw [hkey] at K
  obtain ⟨t, ht⟩ : ∃ t, tkD L i = t := ⟨_, rfl⟩
  have hti : L[i] = t := by rw [← ht, tkD_at hi]
  rw [ht] at q_fun q_name q_use q_rule q_frame hk1 HG DONE K
  rw [hti] at t0 t1 t2 t3
  clear ht hti ht0 hkey
  obtain ⟨tk, tx, tn, tp⟩ := t
  simp only at t0 t1 t2 t3 q_fun q_name q_use q_rule q_frame hk1 HG DONE K
  subst hk1
  replace K := Lib.hid K
  obtain ⟨n, hn⟩ : ∃ n, L.length - i = n + 1 + 1 := ⟨L.length - i - 2, by omega⟩
  obtain ⟨k, hk⟩ : ∃ k, c - i = k + 1 + 1 := ⟨c - i - 2, by omega⟩
  obtain ⟨a, ha⟩ : ∃ a, o + i * 4 = a := ⟨_, rfl⟩
  have hn0 : (0 : Int) < ((n + 1 + 1 : Nat) : Int) := by omega
  have hn1 : (1 : Int) < ((n + 1 + 1 : Nat) : Int) := by omega
  have hnk : n ≤ k := by omega
  rw [hn, hk, ha] at h0
  rw [ha] at t0 t1 t2 t3
  have HV := Lib.hid (show Value.slice (some ⟨b, a + 4, none⟩) (n + 1) (k + 1) = .slice (some ⟨b, o + (i + 1) * 4, none⟩) (L.length - (i + 1)) (c - (i + 1)) by
    rw [show o + (i + 1) * 4 = a + 4 from by omega, show L.length - (i + 1) = n + 1 from by omega, show c - (i + 1) = k + 1 from by omega])
  have hB0 : Below W.heap.size W ((W.alloc (.cells #[.string ⟨#[]⟩, .int .i64 0, .slice none 0 0, .slice none 0 0] 63)).alloc (.cells #[.int .i64 1, .string tx, .int .i64 tn, .int .i64 tp] 50)) := ((Below.refl _ _).alloc (Nat.le_refl _) _).alloc (by simp) _
  have hr0 := h.below hB0
  have hzz : ((W.alloc (.cells #[.string ⟨#[]⟩, .int .i64 0, .slice none 0 0, .slice none 0 0] 63)).alloc (.cells #[.int .i64 1, .string tx, .int .i64 tn, .int .i64 tp] 50)).heap.size = W.heap.size + 2 := by simp
  have bR0 := (box_new W (.string ⟨#[]⟩) (.int .i64 0) (.slice none 0 0) (.slice none 0 0) 63).below ((Below.refl _ _).alloc (Nat.le_refl _) (.cells #[.int .i64 1, .string tx, .int .i64 tn, .int .i64 tp] 50)) (by simp)
  have bT0 := box_new (W.alloc (.cells #[.string ⟨#[]⟩, .int .i64 0, .slice none 0 0, .slice none 0 0] 63)) (.int .i64 1) (.string tx) (.int .i64 tn) (.int .i64 tp) 50
  rw [show (W.alloc (.cells #[.string ⟨#[]⟩, .int .i64 0, .slice none 0 0, .slice none 0 0] 63)).heap.size = W.heap.size + 1 from by simp] at bT0
  go_enter Tryz.func29, Tryz.ntmps29
  go_wp2_with fail
  refine (K.out _).mono ?_; rintro e w1 ⟨rfl, hb1⟩
  have hr1 := hr0.below hb1
  have d0 := hr1.c0
  have e0 := hr1.f0
  obtain ⟨x0, x1, x2, x3, _, _, _, _⟩ := bT0.below hb1 (by omega)
  have bR := bR0.below hb1 (by omega)
  rw [hn, hk, ha] at d0
  have hs1 := hb1.size
  rw [hzz] at hs1
  have hg2 : g < w1.heap.size := by omega
  have hg3 : W.heap.size + 1 ≠ g := by omega
  have hg4 : W.heap.size + 1 < w1.heap.size := by omega
  have ST := Lib.hid (ItSt.start bR (only_below (below_next hB0 hb1) (some g)) hg hr1 hi1 tx tp HV.out)
  clear hb1 hr1 hB0 hr0 bR0 bT0 bR hzz h HV
  go_wp2_with fail
  obtain ⟨x, hx⟩ : ∃ x, w1.heap.size = x := ⟨_, rfl⟩
  rw [hx] at ST
  (try rw [hx])
  obtain ⟨V, hV⟩ : ∃ V, (w1.setCell ⟨g, 0, none⟩ (.slice (some ⟨b, a + 4, none⟩) (n + 1) (k + 1))).alloc (.cells #[.string tx, .int .i64 tp, .slice none 0 0, .slice none 0 0] 63) = V := ⟨_, rfl⟩
  rw [hV] at ST ⊢
  clear hV x0 x1 x2 x3 hs1 hg2 hg3 hg4 hx d0 e0 t0 t1 t2 t3 h0 hf hn hk ha K
  refine app_region (by kernel_rfl) x ⟨x, 2, none⟩ (.pointer (some ⟨g, 0, none⟩)) (.slice none 0 0) 134 rfl (by decide) (by decide) rfl rfl (item_field2 x) (fun _ _ q => trees_load _ _ _ q) (fn_word _) ST.out.drew.arg.c2 (fun _ _ _ _ _ q => q) ?_
  refine (word_at _ ST.out.drew.rdr hF.ended hF.len).mono ?_
  rintro e w2 (⟨hok, rfl, hr2, ho2⟩ | ⟨hok, hd, ho2⟩)
  case inr =>
    have HB := Lib.hid (FAILS.out _ _ e w2 (HG.out.trans (goP_w_bad hok)) hd (only_trans ST.out.drew.only ho2))
    unfold diesAt at hd
    subst hd
    exact And.intro rfl HB.out
  have st2 := ST.out.drew.call hr2 ho2
  obtain ⟨us, h1, h2, h3, h4⟩ := st2.words
  have hok1 := hF.ok (i + 1)
  have hn2 := hF.word0 _ hok
  have hfit : FitR 5 (tkD L (i + 1)).text (tkD L (i + 1)).n (tkD L (i + 1)).place := ⟨by decide, by decide, hok1.nlo, hok1.nhi, hok1.plo, hok1.phi, hok1.len⟩
  refine tree_after (y := ⟨.mk 5 (tkD L (i + 1)).text (tkD L (i + 1)).n (tkD L (i + 1)).place [], none, 0⟩) h3 st2.only.size st2.arg.c2 st2.arg.f2 h4 (by simp) ?_
  intro v1 w3 g1 g2 g3
  have st3 := st2.pushW h1 h2 (live_plain hfit w2 _ st2.only.size) g1 g2 g3
  obtain ⟨a1, c1, hv1⟩ : ∃ a c, v1 = .slice a 1 c := own_slice g1
  subst hv1
  replace HG := Lib.hid (HG.out.trans (goP_w_ok hok))
  obtain ⟨V1, hV⟩ : ∃ V', w3.setCell ⟨x, 2, none⟩ (.slice a1 1 c1) = V' := ⟨_, rfl⟩
  rw [hV] at st3 ⊢
  simp only [hn2] at st3
  replace ST := Lib.hid st3
  clear hr2 ho2 st2 h1 h2 h3 h4 hok1 hfit g1 g2 g3 hV st3 hn2
  simp only [Act.put, List.setIfInBounds_toArray, List.set_cons_zero, List.set_cons_succ]
  go_wp2_with fail
  refine (pass_any ⟨#[58]⟩ _ ST.out.rdr hF.ended (hF.sign _ sg_58 _ ST.out.rdr.here)).mono ?_
  rintro e w2 (⟨hok, rfl, hr2, ho2⟩ | ⟨hok, hd, ho2⟩)
  case inr =>
    have HB := Lib.hid (FAILS.out _ _ e w2 (HG.out.trans (goP_s_bad (by decide) hok)) hd (only_trans ST.out.only ho2))
    unfold diesAt at hd
    subst hd
    clear hok ho2
    go_wp2_with fail
    exact ⟨rfl, HB.out⟩
  have st2 := ST.out.call hr2 ho2
  replace HG := Lib.hid (HG.out.trans (goP_s_ok (by decide) hok))
  replace ST := Lib.hid st2
  clear hr2 ho2 st2 hok
  go_wp2_with fail
  refine (next_any ⟨#[46]⟩ _ ST.out.rdr).mono ?_
  rintro e w2 ⟨rfl, rfl⟩
  rw [hF.sign _ sg_46 _ ST.out.rdr.here]
  cases hs : isS (tkD L (i + 1 + 1 + 1)) ⟨#[46]⟩ with
  | true =>
    replace HG := Lib.hid (HG.out.trans (goP_l_none hs))
    clear hs
    go_wp2_with fail
    refine (pass_any ⟨#[46]⟩ _ ST.out.rdr hF.ended (hF.sign _ sg_46 _ ST.out.rdr.here)).mono ?_
    rintro e w2 (⟨hok, rfl, hr2, ho2⟩ | ⟨hok, hd, ho2⟩)
    case inr =>
      have HB := Lib.hid (FAILS.out _ _ e w2 (HG.out.trans (goP_s_bad (by decide) hok)) hd (only_trans ST.out.only ho2))
      unfold diesAt at hd
      subst hd
      clear hok ho2
      go_wp2_with fail
      exact ⟨rfl, HB.out⟩
    have st2 := ST.out.call hr2 ho2
    replace HG := Lib.hid (HG.out.trans (goP_s_ok (by decide) hok))
    replace ST := Lib.hid st2
    clear hr2 ho2 st2 hok
    have HF := Lib.hid (HG.out.trans goP_end)
    obtain ⟨k0, k1, k2, k3, _, _, _, _⟩ := ST.out.arg
    obtain ⟨r0, r1, r2, r3, rf0, rf1, rf2, rf3⟩ := ST.out.res
    have HE := Lib.hid (ST.out.done (.string tx) (.int .i64 tp) (.slice a1 1 c1) (.slice none 0 0))
    have HX := Lib.hid (ST.out.res.fill (.string tx) (.int .i64 tp) (.slice a1 1 c1) (.slice none 0 0))
    simp only at k0 k1
    go_wp2_with fail
    obtain ⟨r0, r1, r2, r3, _, _, _, _⟩ := HX.out
    refine bodyPost_ret (v := .agg #[.string tx, .int .i64 tp, .slice a1 1 c1, .slice none 0 0]) (by simp [results, Tryz.results29, go_sem, r0, r1, r2, r3]) rfl ?_
    obtain ⟨f1, f2, f3⟩ := HE.out
    exact DONE.out _ _ _ _ _ HF.out f1 f2 f3
  | false =>
    have HS := Lib.hid hs
    clear hs
    go_wp2_with fail
    refine (terms_any hF (i + 1 + 1 + 1) ⟨#[59]⟩ 0 (by decide) sg_59 _ ST.out.rdr).mono ?_
    rintro e w2 (⟨hok, v, rfl, hrow, hlen, hr2, ho2⟩ | ⟨hok, hd, ho2⟩)
    case inr =>
      have HB := Lib.hid (FAILS.out _ _ e w2 (HG.out.trans (goP_l_bad HS.out hok)) hd (only_trans ST.out.only ho2))
      unfold diesAt at hd
      subst hd
      clear hok ho2
      go_wp2_with fail
      exact ⟨rfl, HB.out⟩
    have st2 := ST.out.setT rfl hrow ho2 hr2
    have st4 := ST.out.call hr2 ho2
    replace HG := Lib.hid (HG.out.trans (goP_l_ok HS.out hok))
    change Hid (itemR L i = goP L _ { key := _, spot := _, words := _, trees := _ ++ (termsP L (i + 1 + 1 + 1) ⟨#[59]⟩ 0).1 } (termsP L (i + 1 + 1 + 1) ⟨#[59]⟩ 0).2.1) at HG
    obtain ⟨⟨ts, n2, ok⟩, hx⟩ : ∃ y, termsP L (i + 1 + 1 + 1) ⟨#[59]⟩ 0 = y := ⟨_, rfl⟩
    obtain ⟨a9, c9, hv1⟩ : ∃ a c, v = .slice a ts.length c := by
      obtain ⟨_, _, _, hown⟩ := hrow
      rw [hx] at hown
      exact own_slice hown
    rw [hx] at HG st2
    simp only at HG st2
    subst hv1
    obtain ⟨_, _, _, c3, _, _, _, f3⟩ := st4.arg
    obtain ⟨V9, hV⟩ : ∃ V', w2.setCell ⟨x, 3, none⟩ (.slice a9 ts.length c9) = V' := ⟨_, rfl⟩
    rw [hV] at st2
    replace ST := Lib.hid st2
    clear hok hrow hlen hr2 ho2 st2 st4 hx HS
    go_wp2_with fail
    (try rw [hV])
    clear hV c3 f3
    refine (pass_any ⟨#[46]⟩ _ ST.out.rdr hF.ended (hF.sign _ sg_46 _ ST.out.rdr.here)).mono ?_
    rintro e w2 (⟨hok, rfl, hr2, ho2⟩ | ⟨hok, hd, ho2⟩)
    case inr =>
      have HB := Lib.hid (FAILS.out _ _ e w2 (HG.out.trans (goP_s_bad (by decide) hok)) hd (only_trans ST.out.only ho2))
      unfold diesAt at hd
      subst hd
      clear hok ho2
      go_wp2_with fail
      exact ⟨rfl, HB.out⟩
    have st2 := ST.out.call hr2 ho2
    replace HG := Lib.hid (HG.out.trans (goP_s_ok (by decide) hok))
    replace ST := Lib.hid st2
    clear hr2 ho2 st2 hok
    have HF := Lib.hid (HG.out.trans goP_end)
    obtain ⟨k0, k1, k2, k3, _, _, _, _⟩ := ST.out.arg
    obtain ⟨r0, r1, r2, r3, rf0, rf1, rf2, rf3⟩ := ST.out.res
    have HE := Lib.hid (ST.out.done (.string tx) (.int .i64 tp) (.slice a1 1 c1) (.slice a9 ts.length c9))
    have HX := Lib.hid (ST.out.res.fill (.string tx) (.int .i64 tp) (.slice a1 1 c1) (.slice a9 ts.length c9))
    simp only at k0 k1
    go_wp2_with fail
    obtain ⟨r0, r1, r2, r3, _, _, _, _⟩ := HX.out
    refine bodyPost_ret (v := .agg #[.string tx, .int .i64 tp, .slice a1 1 c1, .slice a9 ts.length c9]) (by simp [results, Tryz.results29, go_sem, r0, r1, r2, r3]) rfl ?_
    obtain ⟨f1, f2, f3⟩ := HE.out
    exact DONE.out _ _ _ _ _ HF.out f1 f2 f3
end
end Go.Proofs.YtldgbdmiebipnaaGreatDoor

namespace Go.Proofs.YtldgbdmiebipnaaGreatDoor
open Go.RowKit

section
variable {g b o c : Nat} {L : List Tok}
set_option maxRecDepth 100000 in
set_option maxHeartbeats 4000000 in
theorem item_deduce (hF : Fine L) (i : Nat) (W : World) (h : Rdr W g b o c L i 0) (ht0 : (tkD L i).text = ⟨#[100, 101, 100, 117, 99, 101]⟩) :
    Calls Tryz.prog 29 #[.pointer (some ⟨g, 0, none⟩)] W (ItemPost g b o c L i W) := by
  have hkey : Lib.containsS keyList (tkD L i).text = true := by rw [ht0]; decide +kernel
  have hk1 := hF.key i hkey
  have hi1 : i + 1 < L.length := hF.ended i (by rw [hk1]; decide)
  have HG := Lib.hid (show itemR L i = goP L [119, 116, 46] ⟨(tkD L i).text, (tkD L i).place, [], []⟩ (i + 1) by unfold itemR; rw [show shapesOf (tkD L i).text = [119, 116, 46] by rw [ht0]; decide +kernel])
  have q_fun : ((tkD L i).text.toList == [102, 117, 110]) = false := by rw [ht0]; decide +kernel
  have q_name : ((tkD L i).text.toList == [110, 97, 109, 101]) = false := by rw [ht0]; decide +kernel
  have q_use : ((tkD L i).text.toList == [117, 115, 101]) = false := by rw [ht0]; decide +kernel
  have q_rule : ((tkD L i).text.toList == [114, 117, 108, 101]) = false := by rw [ht0]; decide +kernel
  have q_frame : ((tkD L i).text.toList == [102, 114, 97, 109, 101]) = false := by rw [ht0]; decide +kernel
  have q_deduce : ((tkD L i).text.toList == [100, 101, 100, 117, 99, 101]) = true := by rw [ht0]; decide +kernel
  have FAILS := Lib.hid (fun (it : It) (q : Nat) (e : Ending) (w' : World) (hr : itemR L i = (it, q, false)) (he : e = diesAt L q) (ho : W.grownBy w' (some g)) => (show ItemPost g b o c L i W e w' from .inr (.inl ⟨hkey, by rw [hr], by rw [hr]; exact he, ho⟩)))
  have DONE := Lib.hid (fun (it : It) (q : Nat) (vw vt : Value) (w' : World) (hr : itemR L i = (it, q, true)) (h1 : RowsI w' (fun _ => False) 39 W.heap.size vw it.words vt it.trees) (h2 : Rdr w' g b o c L q 0) (h3 : W.grownBy w' (some g)) =>
    (show ItemPost g b o c L i W (.returned (.agg #[.string (tkD L i).text, .int .i64 (tkD L i).place, vw, vt])) w' from .inl ⟨hkey, by rw [hr], vw, vt, rfl, by rw [hr]; exact h1, by rw [hr]; exact h2, h3⟩))
  have h0 := h.c0
  have hf := h.f0
  have hi := h.here
  have hg := h.glt
  have hlt := h.lt
  have hcap := h.cap
  have hbw : b < W.heap.size := by omega
  have hbw1 : b < W.heap.size + 1 := by omega
  have hbw2 : b < W.heap.size + 1 + 1 := by omega
  have hg1 : g < W.heap.size + 1 := by omega
  obtain ⟨t0, t1, t2, t3⟩ := h.toks i hi
  have K := key_any (tkD L i).text
  rw [hkey] at K
  obtain ⟨t, ht⟩ : ∃ t, tkD L i = t := ⟨_, rfl⟩
  have hti : L[i] = t := by rw [← ht, tkD_at hi]
  rw [ht] at q_fun q_name q_use q_rule q_frame q_deduce hk1 HG DONE K
  rw [hti] at t0 t1 t2 t3
  clear ht hti ht0 hkey
  obtain ⟨tk, tx, tn, tp⟩ := t
  simp only at t0 t1 t2 t3 q_fun q_name q_use q_rule q_frame q_deduce hk1 HG DONE K
  subst hk1
  replace K := Lib.hid K
  obtain ⟨n, hn⟩ : ∃ n, L.length - i = n + 1 + 1 := ⟨L.length - i - 2, by omega⟩
  obtain ⟨k, hk⟩ : ∃ k, c - i = k + 1 + 1 := ⟨c - i - 2, by omega⟩
  obtain ⟨a, ha⟩ : ∃ a, o + i * 4 = a := ⟨_, rfl⟩
  have hn0 : (0 : Int) < ((n + 1 + 1 : Nat) : Int) := by omega
  have hn1 : (1 : Int) < ((n + 1 + 1 : Nat) : Int) := by omega
  have hnk : n ≤ k := by omega
  rw [hn, hk, ha] at h0
  rw [ha] at t0 t1 t2 t3
  have HV := Lib.hid (show Value.slice (some ⟨b, a + 4, none⟩) (n + 1) (k + 1) = .slice (some ⟨b, o + (i + 1) * 4, none⟩) (L.length - (i + 1)) (c - (i + 1)) by
    rw [show o + (i + 1) * 4 = a + 4 from by omega, show L.length - (i + 1) = n + 1 from by omega, show c - (i + 1) = k + 1 from by omega])
  have hB0 : Below W.heap.size W ((W.alloc (.cells #[.string ⟨#[]⟩, .int .i64 0, .slice none 0 0, .slice none 0 0] 63)).alloc (.cells #[.int .i64 1, .string tx, .int .i64 tn, .int .i64 tp] 50)) := ((Below.refl _ _).alloc (Nat.le_refl _) _).alloc (by simp) _
  have hr0 := h.below hB0
  have hzz : ((W.alloc (.cells #[.string ⟨#[]⟩, .int .i64 0, .slice none 0 0, .slice none 0 0] 63)).alloc (.cells #[.int .i64 1, .string tx, .int .i64 tn, .int .i64 tp] 50)).heap.size = W.heap.size + 2 := by simp
  have bR0 := (box_new W (.string ⟨#[]⟩) (.int .i64 0) (.slice none 0 0) (.slice none 0 0) 63).below ((Below.refl _ _).alloc (Nat.le_refl _) (.cells #[.int .i64 1, .string tx, .int .i64 tn, .int .i64 tp] 50)) (by simp)
  have bT0 := box_new (W.alloc (.cells #[.string ⟨#[]⟩, .int .i64 0, .slice none 0 0, .slice none 0 0] 63)) (.int .i64 1) (.string tx) (.int .i64 tn) (.int .i64 tp) 50
  rw [show (W.alloc (.cells #[.string ⟨#[]⟩, .int .i64 0, .slice none 0 0, .slice none 0 0] 63)).heap.size = W.heap.size + 1 from by simp] at bT0
  go_enter Tryz.func29, Tryz.ntmps29
  go_wp2_with fail
  refine (K.out _).mono ?_; rintro e w1 ⟨rfl, hb1⟩
  have hr1 := hr0.below hb1
  have d0 := hr1.c0
  have e0 := hr1.f0
  obtain ⟨x0, x1, x2, x3, _, _, _, _⟩ := bT0.below hb1 (by omega)
  have bR := bR0.below hb1 (by omega)
  rw [hn, hk, ha] at d0
  have hs1 := hb1.size
  rw [hzz] at hs1
  have hg2 : g < w1.heap.size := by omega
  have hg3 : W.heap.size + 1 ≠ g := by omega
  have hg4 : W.heap.size + 1 < w1.heap.size := by omega
  have ST := Lib.hid (ItSt.start bR (only_below (below_next hB0 hb1) (some g)) hg hr1 hi1 tx tp HV.out)
  clear hb1 hr1 hB0 hr0 bR0 bT0 bR hzz h HV
  go_wp2_with fail
  obtain ⟨x, hx⟩ : ∃ x, w1.heap.size = x := ⟨_, rfl⟩
  rw [hx] at ST
  (try rw [hx])
  obtain ⟨V, hV⟩ : ∃ V, (w1.setCell ⟨g, 0, none⟩ (.slice (some ⟨b, a + 4, none⟩) (n + 1) (k + 1))).alloc (.cells #[.string tx, .int .i64 tp, .slice none 0 0, .slice none 0 0] 63) = V := ⟨_, rfl⟩
  rw [hV] at ST ⊢
  clear hV x0 x1 x2 x3 hs1 hg2 hg3 hg4 hx d0 e0 t0 t1 t2 t3 h0 hf hn hk ha K
  refine app_region (by kernel_rfl) x ⟨x, 2, none⟩ (.pointer (some ⟨g, 0, none⟩)) (.slice none 0 0) 134 rfl (by decide) (by decide) rfl rfl (item_field2 x) (fun _ _ q => trees_load _ _ _ q) (fn_word _) ST.out.drew.arg.c2 (fun _ _ _ _ _ q => q) ?_
  refine (word_at _ ST.out.drew.rdr hF.ended hF.len).mono ?_
  rintro e w2 (⟨hok, rfl, hr2, ho2⟩ | ⟨hok, hd, ho2⟩)
  case inr =>
    have HB := Lib.hid (FAILS.out _ _ e w2 (HG.out.trans (goP_w_bad hok)) hd (only_trans ST.out.drew.only ho2))
    unfold diesAt at hd
    subst hd
    exact And.intro rfl HB.out
  have st2 := ST.out.drew.call hr2 ho2
  obtain ⟨us, h1, h2, h3, h4⟩ := st2.words
  have hok1 := hF.ok (i + 1)
  have hn2 := hF.word0 _ hok
  have hfit : FitR 5 (tkD L (i + 1)).text (tkD L (i + 1)).n (tkD L (i + 1)).place := ⟨by decide, by decide, hok1.nlo, hok1.nhi, hok1.plo, hok1.phi, hok1.len⟩
  refine tree_after (y := ⟨.mk 5 (tkD L (i + 1)).text (tkD L (i + 1)).n (tkD L (i + 1)).place [], none, 0⟩) h3 st2.only.size st2.arg.c2 st2.arg.f2 h4 (by simp) ?_
  intro v1 w3 g1 g2 g3
  have st3 := st2.pushW h1 h2 (live_plain hfit w2 _ st2.only.size) g1 g2 g3
  obtain ⟨a1, c1, hv1⟩ : ∃ a c, v1 = .slice a 1 c := own_slice g1
  subst hv1
  replace HG := Lib.hid (HG.out.trans (goP_w_ok hok))
  obtain ⟨V1, hV⟩ : ∃ V', w3.setCell ⟨x, 2, none⟩ (.slice a1 1 c1) = V' := ⟨_, rfl⟩
  rw [hV] at st3 ⊢
  simp only [hn2] at st3
  replace ST := Lib.hid st3
  clear hr2 ho2 st2 h1 h2 h3 h4 hok1 hfit g1 g2 g3 hV st3 hn2
  simp only [Act.put, List.setIfInBounds_toArray, List.set_cons_zero, List.set_cons_succ]
  go_wp2_with fail
  refine app_region (by kernel_rfl) x ⟨x, 3, none⟩ (.pointer (some ⟨g, 0, none⟩)) (.slice none 0 0) 134 rfl (by decide) (by decide) rfl rfl (item_field3 x) (fun _ _ q => trees_load _ _ _ q) (fn_term _) ST.out.drew.arg.c3 (fun _ _ _ _ _ q => q) ?_
  refine (term_any hF (i + 1 + 1) 0 (by decide) _ ST.out.drew.rdr).mono ?_
  rintro e w2 (⟨hok, y, rfl, hyt, hm, hr2, ho2⟩ | ⟨hok, hd, ho2⟩)
  case inr =>
    have HB := Lib.hid (FAILS.out _ _ e w2 (HG.out.trans (goP_t_bad hok)) hd (only_trans ST.out.drew.only ho2))
    unfold diesAt at hd
    subst hd
    exact And.intro rfl HB.out
  have st2 := ST.out.drew.call hr2 ho2
  obtain ⟨us, h1, h2, h3, h4⟩ := st2.trees
  refine tree_after h3 st2.only.size st2.arg.c3 st2.arg.f3 h4 (by simp) ?_
  intro v1 w3 g1 g2 g3
  have st3 := st2.push h1 h2 (hm.liveA ho2.size ST.out.drew.only.size ST.out.drew.there) g1 g2 g3
  obtain ⟨a2, c2, hv1⟩ : ∃ a c, v1 = .slice a 1 c := own_slice g1
  subst hv1
  replace HG := Lib.hid (HG.out.trans (goP_t_ok hok))
  rw [← hyt] at HG
  obtain ⟨j2, hj⟩ : ∃ q, (termP L (i + 1 + 1) 0).2.1 = q := ⟨_, rfl⟩
  rw [hj] at HG st3
  obtain ⟨V2, hV⟩ : ∃ V', w3.setCell ⟨x, 3, none⟩ (.slice a2 1 c2) = V' := ⟨_, rfl⟩
  rw [hV] at st3 ⊢
  replace ST := Lib.hid st3
  clear hr2 ho2 st2 h1 h2 h3 h4 hm hyt g1 g2 g3 hV st3 hj
  simp only [Act.put, List.setIfInBounds_toArray, List.set_cons_zero, List.set_cons_succ]
  go_wp2_with fail
  refine (pass_any ⟨#[46]⟩ _ ST.out.rdr hF.ended (hF.sign _ sg_46 _ ST.out.rdr.here)).mono ?_
  rintro e w2 (⟨hok, rfl, hr2, ho2⟩ | ⟨hok, hd, ho2⟩)
  case inr =>
    have HB := Lib.hid (FAILS.out _ _ e w2 (HG.out.trans (goP_s_bad (by decide) hok)) hd (only_trans ST.out.only ho2))
    unfold diesAt at hd
    subst hd
    clear hok ho2
    go_wp2_with fail
    exact ⟨rfl, HB.out⟩
  have st2 := ST.out.call hr2 ho2
  replace HG := Lib.hid (HG.out.trans (goP_s_ok (by decide) hok))
  replace ST := Lib.hid st2
  clear hr2 ho2 st2 hok
  have HF := Lib.hid (HG.out.trans goP_end)
  obtain ⟨k0, k1, k2, k3, _, _, _, _⟩ := ST.out.arg
  obtain ⟨r0, r1, r2, r3, rf0, rf1, rf2, rf3⟩ := ST.out.res
  have HE := Lib.hid (ST.out.done (.string tx) (.int .i64 tp) (.slice a1 1 c1) (.slice a2 1 c2))
  have HX := Lib.hid (ST.out.res.fill (.string tx) (.int .i64 tp) (.slice a1 1 c1) (.slice a2 1 c2))
  simp only at k0 k1
  go_wp2_with fail
  obtain ⟨r0, r1, r2, r3, _, _, _, _⟩ := HX.out
  refine bodyPost_ret (v := .agg #[.string tx, .int .i64 tp, .slice a1 1 c1, .slice a2 1 c2]) (by simp [results, Tryz.results29, go_sem, r0, r1, r2, r3]) rfl ?_
  obtain ⟨f1, f2, f3⟩ := HE.out
  exact DONE.out _ _ _ _ _ HF.out f1 f2 f3
end
end Go.Proofs.YtldgbdmiebipnaaGreatDoor

namespace Go.Proofs.YtldgbdmiebipnaaGreatDoor
open Go.RowKit

theorem exec_slice2 {P : Program} {A : Act} {o : Oper} {w w' : World} {R : TypeId} {x y : Operand} {u v q : Value} (ho : o.op = .buildSlice R 2 #[(0, x), (1, y)]) (hx : A.eval x = v) (hy : A.eval y = q) (h : (Instr.buildSlice R 2 #[(0, v), (1, q)]).run P w = .ok u w') : (execOp A.eval o).run P w = .ok (.value u) w' := by
  unfold execOp; simp only [ho]; simp [hx, hy, h, Result.andThen]
/-- What two calls that have answered y1, y2 leave to be done. -/
def AppAfter2 (P : Program) (Q : Exit → Act → World → Prop) (R : TypeId) (p : Addr) (v0 : Value) (fin : Value → Value → Act) (y1 y2 : Value) (w2 : World) : Prop :=
  w2.cell? p = some v0 ∧ ∃ sl wB, (Instr.buildSlice R 2 #[(0, y1), (1, y2)]).run P w2 = .ok sl wB ∧ wB.cell? p = some v0 ∧
    ∃ v1 w3, (Builtin.append_ #[R, R] R #[v0, sl]).run P wB = .ok v1 w3 ∧ ∃ w4, (Instr.storeAt R (.pointer (some p)) v1).run P w3 = .ok () w4 ∧ Q .normal (fin sl v1) w4
/-- What the second call is asked. -/
def AppSecond (P : Program) (Q : Exit → Act → World → Prop) (R : TypeId) (p : Addr) (f : FuncId) (rv v0 : Value) (a : Act) (fin : Value → Value → Value → Value → Act) (y1 : Value) (w1 : World) : Prop :=
  w1.cell? p = some v0 ∧ Calls P f #[rv] w1 fun e w2 => match e with
    | .returned y2 => AppAfter2 P Q R p v0 (fin y1 y2) y1 y2 w2
    | .panicked chain => Q (.panic chain) a w2
    | .outgrown => LetsOut Q

set_option maxRecDepth 100000 in
set_option maxHeartbeats 4000000 in
theorem app_region2 {P : Program} (hm : P.follows .mixedOrders = true) {Q : Exit → Act → World → Prop} {id : Nat} {T R E tr : TypeId} {f : FuncId} {fld : Nat} {p0 p1 p2 p3 p4 p5 p6 p7 p8 p9 : String} {a : Act} {w : World}
    (bx : Nat) (p : Addr) (rv v0 : Value) (hN : a.tmps.size = 134)
    (hx : a.eval (.tmp 4) = .pointer (some ⟨bx, 0, none⟩)) (hr : a.eval (.tmp 0) = rv)
    (HF : ∀ w, (Instr.fieldAt T (.pointer (some ⟨bx, 0, none⟩)) fld).run P w = .ok (.pointer (some p)) w)
    (HL : ∀ w v, w.cell? p = some v → (Instr.loadAt R (.pointer (some p))).run P w = .ok v w)
    (HC : ∀ w, (callFunc f #[rv]).run P w = .ok (.enter f #[rv]) w)
    (h0 : w.drew.cell? p = some v0)
    (HQ : ∀ c (i : Nat) v (A : Act) W, Q (.panic c) (A.put (some i) v) W ↔ Q (.panic c) A W)
    (CALL : Calls P f #[rv] w.drew fun e w1 => match e with
      | .returned y1 => AppSecond P Q R p f rv v0 a (fun y1 y2 sl v1 => (((((((((a.put (some 113) (.pointer (some p))).put (some 115) rv).put (some 117) rv).put (some 114) v0).put (some 116) y1).put (some 118) y2).put (some 119) sl).put (some 120) v1).put (some 121) (.pointer (some p)))) y1 w1
      | .panicked chain => Q (.panic chain) a w1
      | .outgrown => LetsOut Q) :
    Code.wp P (Code.region id #[{ dst := some 113, op := .fieldAddr T (.tmp 4) fld, type := 0, pos := p0, after := #[], guard := none },
    { dst := some 114, op := .load R (.tmp 113), type := R, pos := p1, after := #[{ on := 0, ground := Ground.data }], guard := none },
    { dst := some 115, op := .move (.tmp 0), type := tr, pos := p2, after := #[], guard := none },
    { dst := some 116, op := .call { callee := .value (.func f), args := #[.tmp 115], argTypes := #[tr] }, type := E, pos := p3, after := #[{ on := 2, ground := Ground.data }], guard := none },
    { dst := some 117, op := .move (.tmp 0), type := tr, pos := p4, after := #[], guard := none },
    { dst := some 118, op := .call { callee := .value (.func f), args := #[.tmp 117], argTypes := #[tr] }, type := E, pos := p5, after := #[{ on := 4, ground := Ground.data }, { on := 3, ground := Ground.chain }], guard := none },
    { dst := some 119, op := .buildSlice R 2 #[(0, .tmp 116), (1, .tmp 118)], type := R, pos := p6, after := #[{ on := 3, ground := Ground.data }, { on := 5, ground := Ground.data }], guard := none },
    { dst := some 120, op := .call { callee := .builtin .append, args := #[.tmp 114, .tmp 119], argTypes := #[R, R] }, type := R, pos := p7, after := #[{ on := 1, ground := Ground.data }, { on := 6, ground := Ground.data }, { on := 5, ground := Ground.chain }], guard := none },
    { dst := some 121, op := .fieldAddr T (.tmp 4) fld, type := 0, pos := p8, after := #[{ on := 0, ground := Ground.phase }, { on := 1, ground := Ground.phase }, { on := 2, ground := Ground.phase }, { on := 3, ground := Ground.phase }, { on := 4, ground := Ground.phase }, { on := 5, ground := Ground.phase }, { on := 6, ground := Ground.phase }, { on := 7, ground := Ground.phase }], guard := none },
    { dst := none, op := .store R (.tmp 121) (.tmp 120), type := 0, pos := p9, after := #[{ on := 8, ground := Ground.data }, { on := 7, ground := Ground.data }, { on := 7, ground := Ground.chain }, { on := 0, ground := Ground.phase }, { on := 1, ground := Ground.phase }, { on := 2, ground := Ground.phase }, { on := 3, ground := Ground.phase }, { on := 4, ground := Ground.phase }, { on := 5, ground := Ground.phase }, { on := 6, ground := Ground.phase }, { on := 7, ground := Ground.phase }], guard := none }] true) Q a w := by
  obtain ⟨ptr, hptr⟩ : ∃ q : Value, q = .pointer (some p) := ⟨_, rfl⟩
  rw [← hptr] at HF HL CALL
  obtain ⟨OPS, hOPS⟩ : ∃ O : Array Oper, O = #[{ dst := some 113, op := .fieldAddr T (.tmp 4) fld, type := 0, pos := p0, after := #[], guard := none },
    { dst := some 114, op := .load R (.tmp 113), type := R, pos := p1, after := #[{ on := 0, ground := Ground.data }], guard := none },
    { dst := some 115, op := .move (.tmp 0), type := tr, pos := p2, after := #[], guard := none },
    { dst := some 116, op := .call { callee := .value (.func f), args := #[.tmp 115], argTypes := #[tr] }, type := E, pos := p3, after := #[{ on := 2, ground := Ground.data }], guard := none },
    { dst := some 117, op := .move (.tmp 0), type := tr, pos := p4, after := #[], guard := none },
    { dst := some 118, op := .call { callee := .value (.func f), args := #[.tmp 117], argTypes := #[tr] }, type := E, pos := p5, after := #[{ on := 4, ground := Ground.data }, { on := 3, ground := Ground.chain }], guard := none },
    { dst := some 119, op := .buildSlice R 2 #[(0, .tmp 116), (1, .tmp 118)], type := R, pos := p6, after := #[{ on := 3, ground := Ground.data }, { on := 5, ground := Ground.data }], guard := none },
    { dst := some 120, op := .call { callee := .builtin .append, args := #[.tmp 114, .tmp 119], argTypes := #[R, R] }, type := R, pos := p7, after := #[{ on := 1, ground := Ground.data }, { on := 6, ground := Ground.data }, { on := 5, ground := Ground.chain }], guard := none },
    { dst := some 121, op := .fieldAddr T (.tmp 4) fld, type := 0, pos := p8, after := #[{ on := 0, ground := Ground.phase }, { on := 1, ground := Ground.phase }, { on := 2, ground := Ground.phase }, { on := 3, ground := Ground.phase }, { on := 4, ground := Ground.phase }, { on := 5, ground := Ground.phase }, { on := 6, ground := Ground.phase }, { on := 7, ground := Ground.phase }], guard := none },
    { dst := none, op := .store R (.tmp 121) (.tmp 120), type := 0, pos := p9, after := #[{ on := 8, ground := Ground.data }, { on := 7, ground := Ground.data }, { on := 7, ground := Ground.chain }, { on := 0, ground := Ground.phase }, { on := 1, ground := Ground.phase }, { on := 2, ground := Ground.phase }, { on := 3, ground := Ground.phase }, { on := 4, ground := Ground.phase }, { on := 5, ground := Ground.phase }, { on := 6, ground := Ground.phase }, { on := 7, ground := Ground.phase }], guard := none }] := ⟨_, rfl⟩
  rw [← hOPS]
  have ep0 : (a.put (some 113) ptr).eval (.tmp 0) = rv := (eval_put_ne (by decide)).trans hr
  have ep2 : ((a.put (some 113) ptr).put (some 115) rv).eval (.tmp 0) = rv := (eval_put_ne (by decide)).trans ep0
  obtain ⟨B, hB⟩ : ∃ B, B = ((a.put (some 113) ptr).put (some 115) rv).put (some 117) rv := ⟨_, rfl⟩
  have e0 : B.eval (.tmp 113) = ptr := by rw [hB]; exact (eval_put_ne (by decide)).trans ((eval_put_ne (by decide)).trans (eval_put_eq (by rw [hN]; decide)))
  have e2 : B.eval (.tmp 115) = rv := by rw [hB]; exact (eval_put_ne (by decide)).trans (eval_put_eq (by simp only [size_put]; rw [hN]; decide))
  have e4 : B.eval (.tmp 117) = rv := by rw [hB]; exact eval_put_eq (by simp only [size_put]; rw [hN]; decide)
  have eX : B.eval (.tmp 4) = .pointer (some ⟨bx, 0, none⟩) := by rw [hB]; exact (eval_put_ne (by decide)).trans ((eval_put_ne (by decide)).trans ((eval_put_ne (by decide)).trans hx))
  have hNB : B.tmps.size = 134 := by rw [hB]; simp only [size_put]; exact hN
  have HB : ∀ c W, Q (.panic c) a W → Q (.panic c) B W := fun c W h => by rw [hB]; exact (HQ _ _ _ _ _).2 ((HQ _ _ _ _ _).2 ((HQ _ _ _ _ _).2 h))
  rw [← hB] at CALL
  have st9 : ∀ (A : Act) (w2 : World) (v1 : Value) (w3 : World), A.eval (.tmp 121) = ptr → A.eval (.tmp 120) = v1 → (Instr.storeAt R ptr v1).run P w2 = .ok () w3 → Q .normal A w3 → wpAnyH P .any OPS Q (fun _ => True) 1 #[true, true, true, true, true, true, true, true, true, false] A w2 := by
    intro A w2 v1 w3 e6 e5 hs hq
    refine wpAnyH_ready (rs := [9]) (by rw [hOPS]; kernel_rfl) (by simp) ?_
    refine (AllReadyH.cons (o := { dst := none, op := .store R (.tmp 121) (.tmp 120), type := 0, pos := p9, after := #[{ on := 8, ground := Ground.data }, { on := 7, ground := Ground.data }, { on := 7, ground := Ground.chain }, { on := 0, ground := Ground.phase }, { on := 1, ground := Ground.phase }, { on := 2, ground := Ground.phase }, { on := 3, ground := Ground.phase }, { on := 4, ground := Ground.phase }, { on := 5, ground := Ground.phase }, { on := 6, ground := Ground.phase }, { on := 7, ground := Ground.phase }], guard := none }) (by rw [hOPS]; rfl) (fun K hK => ?_) AllReadyH.nil)
    refine step_none (w' := w3) rfl rfl (exec_store rfl e6 e5 hs) (hK.out _ _ trivial fun _ => ?_)
    exact wpAnyH_done (by rw [hOPS]; kernel_rfl) hq _
  have st13 : ∀ (y1 y2 sl : Value) (wB : World), wB.cell? p = some v0 → (∃ v1 w3, (Builtin.append_ #[R, R] R #[v0, sl]).run P wB = .ok v1 w3 ∧ ∃ w4, (Instr.storeAt R ptr v1).run P w3 = .ok () w4 ∧ Q .normal ((((((B.put (some 114) v0).put (some 116) y1).put (some 118) y2).put (some 119) sl).put (some 120) v1).put (some 121) ptr) w4) → ∀ A, A = ((((B.put (some 114) v0).put (some 116) y1).put (some 118) y2).put (some 119) sl) → wpAnyH P .any OPS Q (fun _ => True) 3 #[true, true, true, true, true, true, true, false, false, false] A wB := by
    intro y1 y2 sl wB hc hA
    intro A hAe
    obtain ⟨v1, w3, ha, w4, hs, hq⟩ := hA
    have f1 : A.eval (.tmp 114) = v0 := by rw [hAe]; exact (eval_put_ne (by decide)).trans ((eval_put_ne (by decide)).trans ((eval_put_ne (by decide)).trans (eval_put_eq (by rw [hNB]; decide))))
    have f6 : A.eval (.tmp 119) = sl := by rw [hAe]; exact eval_put_eq (by simp only [size_put]; rw [hNB]; decide)
    have fX : (A.put (some 120) v1).eval (.tmp 4) = .pointer (some ⟨bx, 0, none⟩) := by rw [hAe]; exact (eval_put_ne (by decide)).trans ((eval_put_ne (by decide)).trans ((eval_put_ne (by decide)).trans ((eval_put_ne (by decide)).trans ((eval_put_ne (by decide)).trans (eX)))))
    have f8 : ((A.put (some 120) v1).put (some 121) ptr).eval (.tmp 121) = ptr := by rw [hAe]; exact eval_put_eq (by simp only [size_put]; rw [hNB]; decide)
    have f7 : ((A.put (some 120) v1).put (some 121) ptr).eval (.tmp 120) = v1 := by rw [hAe]; exact (eval_put_ne (by decide)).trans (eval_put_eq (by simp only [size_put]; rw [hNB]; decide))
    rw [← hAe] at hq
    clear hAe
    refine wpAnyH_ready (rs := [7]) (by rw [hOPS]; kernel_rfl) (by simp) ?_
    refine (AllReadyH.cons (o := { dst := some 120, op := .call { callee := .builtin .append, args := #[.tmp 114, .tmp 119], argTypes := #[R, R] }, type := R, pos := p7, after := #[{ on := 1, ground := Ground.data }, { on := 6, ground := Ground.data }, { on := 5, ground := Ground.chain }], guard := none }) (by rw [hOPS]; rfl) (fun K hK => ?_) AllReadyH.nil)
    refine step_val (v := v1) (w' := w3) rfl (exec_append rfl f1 f6 ha) (hK.out _ _ trivial fun _ => ?_)
    clear hK f1 f6
    refine wpAnyH_ready (rs := [8]) (by rw [hOPS]; kernel_rfl) (by simp) ?_
    refine (AllReadyH.cons (o := { dst := some 121, op := .fieldAddr T (.tmp 4) fld, type := 0, pos := p8, after := #[{ on := 0, ground := Ground.phase }, { on := 1, ground := Ground.phase }, { on := 2, ground := Ground.phase }, { on := 3, ground := Ground.phase }, { on := 4, ground := Ground.phase }, { on := 5, ground := Ground.phase }, { on := 6, ground := Ground.phase }, { on := 7, ground := Ground.phase }], guard := none }) (by rw [hOPS]; rfl) (fun K hK => ?_) AllReadyH.nil)
    refine step_val (v := ptr) (w' := w3) rfl (exec_field rfl fX (HF _)) (hK.out _ _ trivial fun _ => ?_)
    exact st9 _ w3 v1 w4 f8 f7 hs hq
  have st03 : ∀ (y1 y2 sl : Value) (wB : World), wB.cell? p = some v0 → (∃ v1 w3, (Builtin.append_ #[R, R] R #[v0, sl]).run P wB = .ok v1 w3 ∧ ∃ w4, (Instr.storeAt R ptr v1).run P w3 = .ok () w4 ∧ Q .normal ((((((B.put (some 114) v0).put (some 116) y1).put (some 118) y2).put (some 119) sl).put (some 120) v1).put (some 121) ptr) w4) → ∀ A, A = (((B.put (some 116) y1).put (some 118) y2).put (some 119) sl) → wpAnyH P .any OPS Q (fun _ => True) 4 #[true, false, true, true, true, true, true, false, false, false] A wB := by
    intro y1 y2 sl wB hc hA
    intro A hAe
    have g0 : A.eval (.tmp 113) = ptr := by rw [hAe]; exact (eval_put_ne (by decide)).trans ((eval_put_ne (by decide)).trans ((eval_put_ne (by decide)).trans (e0)))
    refine wpAnyH_ready (rs := [1]) (by rw [hOPS]; kernel_rfl) (by simp) ?_
    refine (AllReadyH.cons (o := { dst := some 114, op := .load R (.tmp 113), type := R, pos := p1, after := #[{ on := 0, ground := Ground.data }], guard := none }) (by rw [hOPS]; rfl) (fun K hK => ?_) AllReadyH.nil)
    · refine step_val (v := v0) (w' := wB) rfl (exec_load rfl g0 (HL _ _ hc)) (hK.out _ _ trivial fun _ => ?_)
      exact st13 y1 y2 sl wB hc hA _ (by rw [hAe]; rw [put_comm' (s := 119) (t := 114) _ _ (by decide), put_comm' (s := 118) (t := 114) _ _ (by decide), put_comm' (s := 116) (t := 114) _ _ (by decide)])
  have st12 : ∀ (y1 y2 : Value) (w2 : World), AppAfter2 P Q R p v0 ((fun y1 y2 sl v1 => ((((((B.put (some 114) v0).put (some 116) y1).put (some 118) y2).put (some 119) sl).put (some 120) v1).put (some 121) ptr)) y1 y2) y1 y2 w2 → ∀ A, A = (((B.put (some 114) v0).put (some 116) y1).put (some 118) y2) → wpAnyH P .any OPS Q (fun _ => True) 4 #[true, true, true, true, true, true, false, false, false, false] A w2 := by
    intro y1 y2 w2 hA
    intro A hAe
    have g3 : A.eval (.tmp 116) = y1 := by rw [hAe]; exact (eval_put_ne (by decide)).trans (eval_put_eq (by simp only [size_put]; rw [hNB]; decide))
    have g5 : A.eval (.tmp 118) = y2 := by rw [hAe]; exact eval_put_eq (by simp only [size_put]; rw [hNB]; decide)
    refine wpAnyH_ready (rs := [6]) (by rw [hOPS]; kernel_rfl) (by simp) ?_
    refine (AllReadyH.cons (o := { dst := some 119, op := .buildSlice R 2 #[(0, .tmp 116), (1, .tmp 118)], type := R, pos := p6, after := #[{ on := 3, ground := Ground.data }, { on := 5, ground := Ground.data }], guard := none }) (by rw [hOPS]; rfl) (fun K hK => ?_) AllReadyH.nil)
    · obtain ⟨hc1, sl, wB, hb, hcB, hR⟩ := hA
      refine step_val (v := sl) (w' := wB) rfl (exec_slice2 rfl g3 g5 hb) (hK.out _ _ trivial fun _ => st13 y1 y2 sl wB hcB (by rw [hptr]; rw [hptr] at hR; exact hR) _ (by rw [hAe]))
  have st02 : ∀ (y1 y2 : Value) (w2 : World), AppAfter2 P Q R p v0 ((fun y1 y2 sl v1 => ((((((B.put (some 114) v0).put (some 116) y1).put (some 118) y2).put (some 119) sl).put (some 120) v1).put (some 121) ptr)) y1 y2) y1 y2 w2 → ∀ A, A = ((B.put (some 116) y1).put (some 118) y2) → wpAnyH P .any OPS Q (fun _ => True) 5 #[true, false, true, true, true, true, false, false, false, false] A w2 := by
    intro y1 y2 w2 hA
    intro A hAe
    have g0 : A.eval (.tmp 113) = ptr := by rw [hAe]; exact (eval_put_ne (by decide)).trans ((eval_put_ne (by decide)).trans (e0))
    have g3 : A.eval (.tmp 116) = y1 := by rw [hAe]; exact (eval_put_ne (by decide)).trans (eval_put_eq (by rw [hNB]; decide))
    have g5 : A.eval (.tmp 118) = y2 := by rw [hAe]; exact eval_put_eq (by simp only [size_put]; rw [hNB]; decide)
    refine wpAnyH_ready (rs := [1, 6]) (by rw [hOPS]; kernel_rfl) (by simp) ?_
    refine (AllReadyH.cons (o := { dst := some 114, op := .load R (.tmp 113), type := R, pos := p1, after := #[{ on := 0, ground := Ground.data }], guard := none }) (by rw [hOPS]; rfl) (fun K hK => ?_) (AllReadyH.cons (o := { dst := some 119, op := .buildSlice R 2 #[(0, .tmp 116), (1, .tmp 118)], type := R, pos := p6, after := #[{ on := 3, ground := Ground.data }, { on := 5, ground := Ground.data }], guard := none }) (by rw [hOPS]; rfl) (fun K hK => ?_) AllReadyH.nil))
    · refine step_val (v := v0) (w' := w2) rfl (exec_load rfl g0 (HL _ _ hA.1)) (hK.out _ _ trivial fun _ => ?_)
      exact st12 y1 y2 w2 hA _ (by rw [hAe]; rw [put_comm' (s := 118) (t := 114) _ _ (by decide), put_comm' (s := 116) (t := 114) _ _ (by decide)])
    · obtain ⟨hc1, sl, wB, hb, hcB, hR⟩ := hA
      refine step_val (v := sl) (w' := wB) rfl (exec_slice2 rfl g3 g5 hb) (hK.out _ _ trivial fun _ => st03 y1 y2 sl wB hcB (by rw [hptr]; rw [hptr] at hR; exact hR) _ (by rw [hAe]))
  have st11 : ∀ (y1 : Value) (w1 : World), AppSecond P Q R p f rv v0 a (fun y1 y2 sl v1 => ((((((B.put (some 114) v0).put (some 116) y1).put (some 118) y2).put (some 119) sl).put (some 120) v1).put (some 121) ptr)) y1 w1 → ∀ A, A = ((B.put (some 114) v0).put (some 116) y1) → wpAnyH P .any OPS Q (fun _ => True) 5 #[true, true, true, true, true, false, false, false, false, false] A w1 := by
    intro y1 w1 hA
    intro A hAe
    have gr : A.eval (.tmp 117) = rv := by rw [hAe]; exact (eval_put_ne (by decide)).trans ((eval_put_ne (by decide)).trans (e4))
    have gq : ∀ c W, Q (.panic c) a W → Q (.panic c) A W := fun c W h => by rw [hAe]; exact (HQ _ _ _ _ _).2 ((HQ _ _ _ _ _).2 (HB c W h))
    refine wpAnyH_ready (rs := [5]) (by rw [hOPS]; kernel_rfl) (by simp) ?_
    refine (AllReadyH.cons (o := { dst := some 118, op := .call { callee := .value (.func f), args := #[.tmp 117], argTypes := #[tr] }, type := E, pos := p5, after := #[{ on := 4, ground := Ground.data }, { on := 3, ground := Ground.chain }], guard := none }) (by rw [hOPS]; rfl) (fun K hK => ?_) AllReadyH.nil)
    · refine step_fn (f := f) (args := #[rv]) rfl (exec_fn1 (HC _) rfl gr) (hA.2.mono ?_)
      intro e w9 he
      cases e with
      | returned y2 => exact hK.out _ _ trivial fun _ => st12 y1 y2 w9 he _ (by rw [hAe])
      | panicked chain => exact gq _ _ he
      | outgrown => exact he
  have st01 : ∀ (y1 : Value) (w1 : World), AppSecond P Q R p f rv v0 a (fun y1 y2 sl v1 => ((((((B.put (some 114) v0).put (some 116) y1).put (some 118) y2).put (some 119) sl).put (some 120) v1).put (some 121) ptr)) y1 w1 → ∀ A, A = (B.put (some 116) y1) → wpAnyH P .any OPS Q (fun _ => True) 6 #[true, false, true, true, true, false, false, false, false, false] A w1 := by
    intro y1 w1 hA
    intro A hAe
    have g0 : A.eval (.tmp 113) = ptr := by rw [hAe]; exact (eval_put_ne (by decide)).trans (e0)
    have gr : A.eval (.tmp 117) = rv := by rw [hAe]; exact (eval_put_ne (by decide)).trans (e4)
    have gq : ∀ c W, Q (.panic c) a W → Q (.panic c) A W := fun c W h => by rw [hAe]; exact (HQ _ _ _ _ _).2 (HB c W h)
    refine wpAnyH_ready (rs := [1, 5]) (by rw [hOPS]; kernel_rfl) (by simp) ?_
    refine (AllReadyH.cons (o := { dst := some 114, op := .load R (.tmp 113), type := R, pos := p1, after := #[{ on := 0, ground := Ground.data }], guard := none }) (by rw [hOPS]; rfl) (fun K hK => ?_) (AllReadyH.cons (o := { dst := some 118, op := .call { callee := .value (.func f), args := #[.tmp 117], argTypes := #[tr] }, type := E, pos := p5, after := #[{ on := 4, ground := Ground.data }, { on := 3, ground := Ground.chain }], guard := none }) (by rw [hOPS]; rfl) (fun K hK => ?_) AllReadyH.nil))
    · refine step_val (v := v0) (w' := w1) rfl (exec_load rfl g0 (HL _ _ hA.1)) (hK.out _ _ trivial fun _ => ?_)
      exact st11 y1 w1 hA _ (by rw [hAe]; rw [put_comm' (s := 116) (t := 114) _ _ (by decide)])
    · refine step_fn (f := f) (args := #[rv]) rfl (exec_fn1 (HC _) rfl gr) (hA.2.mono ?_)
      intro e w9 he
      cases e with
      | returned y2 => exact hK.out _ _ trivial fun _ => st02 y1 y2 w9 he _ (by rw [hAe])
      | panicked chain => exact gq _ _ he
      | outgrown => exact he
  have st10 : ∀ A, A = (B.put (some 114) v0) → wpAnyH P .any OPS Q (fun _ => True) 6 #[true, true, true, false, true, false, false, false, false, false] A w.drew := by
    intro A hAe
    have gr : A.eval (.tmp 115) = rv := by rw [hAe]; exact (eval_put_ne (by decide)).trans (e2)
    have gq : ∀ c W, Q (.panic c) a W → Q (.panic c) A W := fun c W h => by rw [hAe]; exact (HQ _ _ _ _ _).2 (HB c W h)
    refine wpAnyH_ready (rs := [3]) (by rw [hOPS]; kernel_rfl) (by simp) ?_
    refine (AllReadyH.cons (o := { dst := some 116, op := .call { callee := .value (.func f), args := #[.tmp 115], argTypes := #[tr] }, type := E, pos := p3, after := #[{ on := 2, ground := Ground.data }], guard := none }) (by rw [hOPS]; rfl) (fun K hK => ?_) AllReadyH.nil)
    · refine step_fn (f := f) (args := #[rv]) rfl (exec_fn1 (HC _) rfl gr) (CALL.mono ?_)
      intro e w9 he
      cases e with
      | returned y1 => exact hK.out _ _ trivial fun _ => st11 y1 w9 he _ (by rw [hAe])
      | panicked chain => exact gq _ _ he
      | outgrown => exact he
  have st00 : ∀ A, A = B → wpAnyH P .any OPS Q (fun _ => True) 7 #[true, false, true, false, true, false, false, false, false, false] A w.drew := by
    intro A hAe
    have g0 : A.eval (.tmp 113) = ptr := by rw [hAe]; exact e0
    have gr : A.eval (.tmp 115) = rv := by rw [hAe]; exact e2
    have gq : ∀ c W, Q (.panic c) a W → Q (.panic c) A W := fun c W h => by rw [hAe]; exact HB c W h
    refine wpAnyH_ready (rs := [1, 3]) (by rw [hOPS]; kernel_rfl) (by simp) ?_
    refine (AllReadyH.cons (o := { dst := some 114, op := .load R (.tmp 113), type := R, pos := p1, after := #[{ on := 0, ground := Ground.data }], guard := none }) (by rw [hOPS]; rfl) (fun K hK => ?_) (AllReadyH.cons (o := { dst := some 116, op := .call { callee := .value (.func f), args := #[.tmp 115], argTypes := #[tr] }, type := E, pos := p3, after := #[{ on := 2, ground := Ground.data }], guard := none }) (by rw [hOPS]; rfl) (fun K hK => ?_) AllReadyH.nil))
    · refine step_val (v := v0) (w' := w.drew) rfl (exec_load rfl g0 (HL _ _ h0)) (hK.out _ _ trivial fun _ => ?_)
      exact st10 _ (by rw [hAe])
    · refine step_fn (f := f) (args := #[rv]) rfl (exec_fn1 (HC _) rfl gr) (CALL.mono ?_)
      intro e w9 he
      cases e with
      | returned y1 => exact hK.out _ _ trivial fun _ => st01 y1 w9 he _ (by rw [hAe])
      | panicked chain => exact gq _ _ he
      | outgrown => exact he
  refine wp_region_held_drew (S := fun _ => True) hm trivial (fun _ => ?_)
  have hp : ∀ (n : Nat) (v : Value) (c : List PanicEntry) (A : Act) (W : World), Q (.panic c) (A.put (some n) v) W → Q (.panic c) A W := fun n v c A W h => (HQ _ _ _ _ _).1 h
  have hsz : OPS.size = 10 := by rw [hOPS]; rfl
  rw [hsz]
  show wpAnyH P .any OPS Q (fun _ => True) 10 #[false, false, false, false, false, false, false, false, false, false] a w.drew
  refine wpAnyH_take (P := P) (md := .any) (Q := Q) (S := fun _ => True) (ops := OPS) (i := 0) (oi := { dst := some 113, op := .fieldAddr T (.tmp 4) fld, type := 0, pos := p0, after := #[], guard := none }) (v := ptr) (by rw [hOPS]; rfl) (by rw [hOPS]; kernel_rfl) (by rw [hOPS]; kernel_rfl) (by rw [hOPS]; kernel_rfl) (fun c A W h => hp _ _ c A W h) (Or.inl ⟨by rfl, fun w _ => exec_field rfl hx (HF _)⟩) trivial ?_
  refine wpAnyH_take (P := P) (md := .any) (Q := Q) (S := fun _ => True) (ops := OPS) (i := 2) (oi := { dst := some 115, op := .move (.tmp 0), type := tr, pos := p2, after := #[], guard := none }) (v := rv) (by rw [hOPS]; rfl) (by rw [hOPS]; kernel_rfl) (by rw [hOPS]; kernel_rfl) (by rw [hOPS]; kernel_rfl) (fun c A W h => hp _ _ c A W h) (Or.inl ⟨by rfl, fun w _ => exec_move rfl ep0⟩) trivial ?_
  refine wpAnyH_take (P := P) (md := .any) (Q := Q) (S := fun _ => True) (ops := OPS) (i := 4) (oi := { dst := some 117, op := .move (.tmp 0), type := tr, pos := p4, after := #[], guard := none }) (v := rv) (by rw [hOPS]; rfl) (by rw [hOPS]; kernel_rfl) (by rw [hOPS]; kernel_rfl) (by rw [hOPS]; kernel_rfl) (fun c A W h => hp _ _ c A W h) (Or.inl ⟨by rfl, fun w _ => exec_move rfl ep2⟩) trivial ?_
  exact st00 _ hB.symm
end Go.Proofs.YtldgbdmiebipnaaGreatDoor

namespace Go.Proofs.YtldgbdmiebipnaaGreatDoor
open Go.RowKit

theorem tree_slice2 (y1 y2 : Rv) (w : World) : (Instr.buildSlice 37 2 #[(0, y1.val), (1, y2.val)]).run Tryz.prog w = .ok (.slice (some ⟨w.heap.size, 0, none⟩) 2 2) (w.alloc (.cells (y1.cells ++ y2.cells).toArray 39)) := by
  unfold Rv.val Rv.cells
  go_simp
theorem two_one (y1 y2 : Rv) : ∀ u ∈ y1.cells ++ y2.cells, u.oneCell' = true := by
  intro u hu
  rcases List.mem_append.1 hu with h | h
  · exact rv_one y1 u h
  · exact rv_one y2 u h
/-- Two trees more, behind calls that have answered them: what is left to be done. -/
theorem tree_after2 {Q : Exit → Act → World → Prop} {p : Addr} {v0 : Value} {fin : Value → Value → Act} {y1 y2 : Rv} {w1 : World} {base n : Nat} {xs : List Value}
    (hown : w1.ownsRow base 39 5 v0 n xs) (hb : base ≤ w1.heap.size) (hc : w1.cell? p = some v0) (hf : w1.frozen? p = false) (hn : v0.ownBlock ≠ some p.block) (hlen : n ≤ 1000000)
    (h : ∀ v1 w2, w2.ownsRow base 39 5 v1 (n + 2) (xs ++ (y1.cells ++ y2.cells)) → (w1.alloc (.cells (y1.cells ++ y2.cells).toArray 39)).grownBy w2 v0.ownBlock → (v1.ownBlock = v0.ownBlock ∨ v1.ownBlock = some (w1.alloc (.cells (y1.cells ++ y2.cells).toArray 39)).heap.size) → Q .normal (fin (.slice (some ⟨w1.heap.size, 0, none⟩) 2 2) v1) (w2.setCell p v1)) :
    AppAfter2 Tryz.prog Q 37 p v0 fin y1.val y2.val w1 := by
  obtain ⟨i0, hti, hz0, hz1, hz2⟩ := info_parts treeInfoP
  have hpl : p.block < w1.heap.size := World.block_lt_of_cell? w1 p hc
  have hsz : (w1.alloc (.cells (y1.cells ++ y2.cells).toArray 39)).heap.size = w1.heap.size + 1 := by simp
  have hcB : (w1.alloc (.cells (y1.cells ++ y2.cells).toArray 39)).cell? p = some v0 := by rw [World.cell?_alloc_lt _ _ _ hpl]; exact hc
  have hfB : (w1.alloc (.cells (y1.cells ++ y2.cells).toArray 39)).frozen? p = false := by rw [World.frozen?_alloc_old _ _ _ (Nat.ne_of_lt hpl)]; exact hf
  refine ⟨hc, _, _, tree_slice2 y1 y2 w1, hcB, ?_⟩
  obtain ⟨v1, w2, hr, h2, h3, _, h5⟩ := run_append_own_at (P := Tryz.prog) (w1.alloc (.cells (y1.cells ++ y2.cells).toArray 39)) base 37 37 39 i0 (.agg #[.int .i64 0, .string ⟨#[]⟩, .int .i64 0, .int .i64 0, .slice none 0 0]) 5 64 Tryz.underlying37 hti hz0 hz1 hz2 rfl (by decide) v0 n xs (hown.alloc _) ⟨w1.heap.size, 0, none⟩ 2 2 (y1.cells ++ y2.cells) rfl (new_row w1 _ _) (two_one y1 y2) (by unfold maxLen; omega) (by omega) (by rw [hsz]; omega)
  refine ⟨v1, w2, hr, ?_⟩
  obtain ⟨a, c, rfl⟩ := own_slice h2
  have hk : w2.heap[p.block]? = (w1.alloc (.cells (y1.cells ++ y2.cells).toArray 39)).heap[p.block]? := h3.block _ (by omega) (fun e => hn e.symm)
  refine ⟨_, trees_store p w2 a (n + 2) c v0 ((World.cell?_of_block hk).trans hcB) ((World.frozen?_of_block hk).trans hfB), h _ _ h2 h3 h5⟩
section
variable {W0 W W' : World} {g b o c : Nat} {L : List Tok} {x : Nat} {it : It} {j j' : Nat} {vw vt : Value}
/-- Some words more. -/
theorem ItSt.pushWs (h : ItSt W0 g b o c L x it j vw vt W) {us news : List Rv} (h1 : us.map Rv.t = it.words) (h2 : ∀ z ∈ us, LiveA W (rowsZ (fun k => k = x ∨ k = W0.heap.size) vw vt) W0.heap.size z)
    (hy : ∀ z ∈ news, LiveA W (rowsZ (fun k => k = x ∨ k = W0.heap.size) vw vt) W0.heap.size z) {O : Obj} {v1 : Value} {w2 : World} {n : Nat} (hn : it.words.length + news.length = n) (hown : w2.ownsRow W0.heap.size 39 5 v1 n (rowRv us ++ rowRv news))
    (hg : (W.alloc O).grownBy w2 vw.ownBlock) (hat : v1.ownBlock = vw.ownBlock ∨ v1.ownBlock = some (W.alloc O).heap.size) :
    ItSt W0 g b o c L x { it with words := it.words ++ news.map Rv.t } j v1 vt (w2.setCell ⟨x, 2, none⟩ v1) := by
  have hB : Below W.heap.size W (W.alloc O) := (Below.refl _ _).alloc (Nat.le_refl _) _
  have hlt := h.rows.lt
  have k1 := h.glt
  have k2 := h.lt
  have kx := lt_of_cellR h.arg.c0
  have kr := lt_of_cellR h.res.c0
  have hge : ∀ k, vw.ownBlock = some k → W0.heap.size ≤ k := fun k e => (hlt k (.inl e)).1
  have hnx : ∀ k, k = x ∨ k = W0.heap.size → vw.ownBlock ≠ some k := fun k hk e => h.rows.out k (.inl e) hk
  have hsz : (W.alloc O).heap.size = W.heap.size + 1 := by simp
  have hbk : ∀ k, k < W.heap.size → vw.ownBlock ≠ some k → w2.heap[k]? = W.heap[k]? := fun k q1 q2 => (hg.block k (by omega) (fun e => q2 e.symm)).trans (hB.block k q1)
  have hset : ∀ k, k ≠ x → (w2.setCell ⟨x, 2, none⟩ v1).heap[k]? = w2.heap[k]? := fun k hk => Below.heap_setCell _ _ _ _ hk
  have hZ : rowsZ (fun k => k = x ∨ k = W0.heap.size) vt vw = rowsZ (fun k => k = x ∨ k = W0.heap.size) vw vt := by funext k; unfold rowsZ; rw [rowsP_swap]
  have hrows := (h.rows.swap.below hB).more (news := news) h1 (fun z hz => by rw [hZ]; exact (h2 z hz).below hB) (fun z hz => by rw [hZ]; exact (hy z hz).below hB) hn hown hg hat (fun k hk => by rcases hk with rfl | rfl <;> omega)
  refine ⟨?_, ?_, k1, ?_, ?_, k2, ?_⟩
  · have hr2 := (h.rdr.below hB).row hg (fun q e => by have := hge q e; omega)
    exact hr2.stay (hset g (by omega)) (hset b (by have := h.rdr.lt; omega))
  · exact only_put (only_row (only_next h.only hB) hg hge) (p := ⟨x, 2, none⟩) (by show W0.heap.size ≤ x; omega) v1
  · exact (h.res.stays (hbk _ kr (hnx _ (.inr rfl)))).stays (hset _ (by omega))
  · exact (h.arg.stays (hbk _ kx (hnx _ (.inl rfl)))).put2 v1
  · exact hrows.swap.aside (by simp) (fun k hk => hset k (fun e => hk (.inl e)))
end
end Go.Proofs.YtldgbdmiebipnaaGreatDoor
