/-
  The program's grammar, an item: two words at once.
  The program's grammar, an item that begins with 'equiv'.
  The program's grammar, an item that begins with 'normal'.
  The program's grammar: item, of any token.
  The tokens of a text are as the program's grammar asks: signs, words and keys are told by their texts. No function of the program.
  What a shape's letter stands for, by the reference of layer 11: one.
-/
import Derived.Test.YtldgbdmiebipnaaDoorB11
import Derived.Test.YtldgbdmiebipnaaDoorB12
import Derived.Test.YtldgbdmiebipnaaDoorB06
import Derived.Test.YtldgbdmiebipnaaDoorB08
import Derived.Test.YtldgbdmiebipnaaDoorB09
namespace Go.Proofs.YtldgbdmiebipnaaDoor
open Go.RowKit

theorem tree_slice2 (y1 y2 : Rv) (w : World) : (Instr.buildSlice 34 2 #[(0, y1.val), (1, y2.val)]).run Tryd.prog w = .ok (.slice (some ⟨w.heap.size, 0, none⟩) 2 2) (w.alloc (.cells (y1.cells ++ y2.cells).toArray 36)) := by
  unfold Rv.val Rv.cells
  go_simp
theorem two_one (y1 y2 : Rv) : ∀ u ∈ y1.cells ++ y2.cells, u.oneCell' = true := by
  intro u hu
  rcases List.mem_append.1 hu with h | h
  · exact rv_one y1 u h
  · exact rv_one y2 u h
/-- Two trees more, behind calls that have answered them: what is left to be done. -/
theorem tree_after2 {Q : Exit → Act → World → Prop} {p : Addr} {v0 : Value} {fin : Value → Value → Act} {y1 y2 : Rv} {w1 : World} {base n : Nat} {xs : List Value}
    (hown : w1.ownsRow base 36 5 v0 n xs) (hb : base ≤ w1.heap.size) (hc : w1.cell? p = some v0) (hf : w1.frozen? p = false) (hn : v0.ownBlock ≠ some p.block) (hlen : n ≤ 1000000)
    (h : ∀ v1 w2, w2.ownsRow base 36 5 v1 (n + 2) (xs ++ (y1.cells ++ y2.cells)) → (w1.alloc (.cells (y1.cells ++ y2.cells).toArray 36)).grownBy w2 v0.ownBlock → (v1.ownBlock = v0.ownBlock ∨ v1.ownBlock = some (w1.alloc (.cells (y1.cells ++ y2.cells).toArray 36)).heap.size) → Q .normal (fin (.slice (some ⟨w1.heap.size, 0, none⟩) 2 2) v1) (w2.setCell p v1)) :
    AppAfter2 Tryd.prog Q 34 p v0 fin y1.val y2.val w1 := by
  obtain ⟨i0, hti, hz0, hz1, hz2⟩ := info_parts treeInfoP
  have hpl : p.block < w1.heap.size := World.block_lt_of_cell? w1 p hc
  have hsz : (w1.alloc (.cells (y1.cells ++ y2.cells).toArray 36)).heap.size = w1.heap.size + 1 := by simp
  have hcB : (w1.alloc (.cells (y1.cells ++ y2.cells).toArray 36)).cell? p = some v0 := by rw [World.cell?_alloc_lt _ _ _ hpl]; exact hc
  have hfB : (w1.alloc (.cells (y1.cells ++ y2.cells).toArray 36)).frozen? p = false := by rw [World.frozen?_alloc_old _ _ _ (Nat.ne_of_lt hpl)]; exact hf
  refine ⟨hc, _, _, tree_slice2 y1 y2 w1, hcB, ?_⟩
  obtain ⟨v1, w2, hr, h2, h3, _, h5⟩ := run_append_own_at (P := Tryd.prog) (w1.alloc (.cells (y1.cells ++ y2.cells).toArray 36)) base 34 34 36 i0 (.agg #[.int .i64 0, .string ⟨#[]⟩, .int .i64 0, .int .i64 0, .slice none 0 0]) 5 64 Tryd.underlying34 hti hz0 hz1 hz2 rfl (by decide) v0 n xs (hown.alloc _) ⟨w1.heap.size, 0, none⟩ 2 2 (y1.cells ++ y2.cells) rfl (new_row w1 _ _) (two_one y1 y2) (by unfold maxLen; omega) (by omega) (by rw [hsz]; omega)
  refine ⟨v1, w2, hr, ?_⟩
  obtain ⟨a, c, rfl⟩ := own_slice h2
  have hk : w2.heap[p.block]? = (w1.alloc (.cells (y1.cells ++ y2.cells).toArray 36)).heap[p.block]? := h3.block _ (by omega) (fun e => hn e.symm)
  refine ⟨_, trees_store p w2 a (n + 2) c v0 ((World.cell?_of_block hk).trans hcB) ((World.frozen?_of_block hk).trans hfB), h _ _ h2 h3 h5⟩
section
variable {W0 W W' : World} {g b o c : Nat} {L : List Tok} {x : Nat} {it : It} {j j' : Nat} {vw vt : Value}
/-- Some words more. -/
theorem ItSt.pushWs (h : ItSt W0 g b o c L x it j vw vt W) {us news : List Rv} (h1 : us.map Rv.t = it.words) (h2 : ∀ z ∈ us, LiveA W (rowsZ (fun k => k = x ∨ k = W0.heap.size) vw vt) W0.heap.size z)
    (hy : ∀ z ∈ news, LiveA W (rowsZ (fun k => k = x ∨ k = W0.heap.size) vw vt) W0.heap.size z) {O : Obj} {v1 : Value} {w2 : World} {n : Nat} (hn : it.words.length + news.length = n) (hown : w2.ownsRow W0.heap.size 36 5 v1 n (rowRv us ++ rowRv news))
    (hg : (W.alloc O).grownBy w2 vw.ownBlock) (hat : v1.ownBlock = vw.ownBlock ∨ v1.ownBlock = some (W.alloc O).heap.size) :
    ItSt W0 g b o c L x { it with words := it.words ++ news.map Rv.t } j v1 vt (w2.setCell ⟨x, 2, none⟩ v1) := by
  have hB : Below W.heap.size W (W.alloc O) := (Below.refl _ _).alloc (Nat.le_refl _) _
  have hlt := h.rows.lt
  have k1 := h.glt
  have k2 := h.lt
  have kx := lt_of_cellR h.arg.c0
  have kr := lt_of_cellR h.res.c0
  have hge : ∀ k, vw.ownBlock = some k → W0.heap.size ≤ k := fun k e => (hlt k (.inl e)).1
  have hnx : ∀ k, k = x ∨ k = W0.heap.size → vw.ownBlock ≠ some k := fun k hk e => h.rows.out k (.inl e) hk
  have hsz : (W.alloc O).heap.size = W.heap.size + 1 := by simp
  have hbk : ∀ k, k < W.heap.size → vw.ownBlock ≠ some k → w2.heap[k]? = W.heap[k]? := fun k q1 q2 => (hg.block k (by omega) (fun e => q2 e.symm)).trans (hB.block k q1)
  have hset : ∀ k, k ≠ x → (w2.setCell ⟨x, 2, none⟩ v1).heap[k]? = w2.heap[k]? := fun k hk => Below.heap_setCell _ _ _ _ hk
  have hZ : rowsZ (fun k => k = x ∨ k = W0.heap.size) vt vw = rowsZ (fun k => k = x ∨ k = W0.heap.size) vw vt := by funext k; unfold rowsZ; rw [rowsP_swap]
  have hrows := (h.rows.swap.below hB).more (news := news) h1 (fun z hz => by rw [hZ]; exact (h2 z hz).below hB) (fun z hz => by rw [hZ]; exact (hy z hz).below hB) hn hown hg hat (fun k hk => by rcases hk with rfl | rfl <;> omega)
  refine ⟨?_, ?_, k1, ?_, ?_, k2, ?_⟩
  · have hr2 := (h.rdr.below hB).row hg (fun q e => by have := hge q e; omega)
    exact hr2.stay (hset g (by omega)) (hset b (by have := h.rdr.lt; omega))
  · exact only_put (only_row (only_next h.only hB) hg hge) (p := ⟨x, 2, none⟩) (by show W0.heap.size ≤ x; omega) v1
  · exact (h.res.stays (hbk _ kr (hnx _ (.inr rfl)))).stays (hset _ (by omega))
  · exact (h.arg.stays (hbk _ kx (hnx _ (.inl rfl)))).put2 v1
  · exact hrows.swap.aside (by simp) (fun k hk => hset k (fun e => hk (.inl e)))
end
end Go.Proofs.YtldgbdmiebipnaaDoor

namespace Go.Proofs.YtldgbdmiebipnaaDoor
open Go.RowKit

section
variable {g b o c : Nat} {L : List Tok}
set_option maxRecDepth 100000 in
set_option maxHeartbeats 4000000 in
theorem item_equiv (hF : Fine L) (i : Nat) (W : World) (h : Rdr W g b o c L i 0) (ht0 : (tkD L i).text = ⟨#[101, 113, 117, 105, 118]⟩) :
    Calls Tryd.prog 35 #[.pointer (some ⟨g, 0, none⟩)] W (ItemPost g b o c L i W) := by
  have hkey : Lib.containsS keyList (tkD L i).text = true := by rw [ht0]; decide +kernel
  have hk1 := hF.key i hkey
  have hi1 : i + 1 < L.length := hF.ended i (by rw [hk1]; decide)
  have HG := Lib.hid (show itemR L i = goP L [119, 119, 46] ⟨(tkD L i).text, (tkD L i).place, [], []⟩ (i + 1) by unfold itemR; rw [show shapesOf (tkD L i).text = [119, 119, 46] by rw [ht0]; decide +kernel])
  have q_fun : ((tkD L i).text.toList == [102, 117, 110]) = false := by rw [ht0]; decide +kernel
  have q_name : ((tkD L i).text.toList == [110, 97, 109, 101]) = false := by rw [ht0]; decide +kernel
  have q_use : ((tkD L i).text.toList == [117, 115, 101]) = false := by rw [ht0]; decide +kernel
  have q_rule : ((tkD L i).text.toList == [114, 117, 108, 101]) = false := by rw [ht0]; decide +kernel
  have q_frame : ((tkD L i).text.toList == [102, 114, 97, 109, 101]) = false := by rw [ht0]; decide +kernel
  have q_deduce : ((tkD L i).text.toList == [100, 101, 100, 117, 99, 101]) = false := by rw [ht0]; decide +kernel
  have q_equiv : ((tkD L i).text.toList == [101, 113, 117, 105, 118]) = true := by rw [ht0]; decide +kernel
  have FAILS := Lib.hid (fun (it : It) (q : Nat) (e : Ending) (w' : World) (hr : itemR L i = (it, q, false)) (he : e = diesAt L q) (ho : W.grownBy w' (some g)) => (show ItemPost g b o c L i W e w' from .inr (.inl ⟨hkey, by rw [hr], by rw [hr]; exact he, ho⟩)))
  have DONE := Lib.hid (fun (it : It) (q : Nat) (vw vt : Value) (w' : World) (hr : itemR L i = (it, q, true)) (h1 : RowsI w' (fun _ => False) 36 W.heap.size vw it.words vt it.trees) (h2 : Rdr w' g b o c L q 0) (h3 : W.grownBy w' (some g)) =>
    (show ItemPost g b o c L i W (.returned (.agg #[.string (tkD L i).text, .int .i64 (tkD L i).place, vw, vt])) w' from .inl ⟨hkey, by rw [hr], vw, vt, rfl, by rw [hr]; exact h1, by rw [hr]; exact h2, h3⟩))
  have h0 := h.c0
  have hf := h.f0
  have hi := h.here
  have hg := h.glt
  have hlt := h.lt
  have hcap := h.cap
  have hbw : b < W.heap.size := by omega
  have hbw1 : b < W.heap.size + 1 := by omega
  have hbw2 : b < W.heap.size + 1 + 1 := by omega
  have hg1 : g < W.heap.size + 1 := by omega
  obtain ⟨t0, t1, t2, t3⟩ := h.toks i hi
  have K := key_any (tkD L i).text
  rw [hkey] at K
  obtain ⟨t, ht⟩ : ∃ t, tkD L i = t := ⟨_, rfl⟩
  have hti : L[i] = t := by rw [← ht, tkD_at hi]
  rw [ht] at q_fun q_name q_use q_rule q_frame q_deduce q_equiv hk1 HG DONE K
  rw [hti] at t0 t1 t2 t3
  clear ht hti ht0 hkey
  obtain ⟨tk, tx, tn, tp⟩ := t
  simp only at t0 t1 t2 t3 q_fun q_name q_use q_rule q_frame q_deduce q_equiv hk1 HG DONE K
  subst hk1
  replace K := Lib.hid K
  obtain ⟨n, hn⟩ : ∃ n, L.length - i = n + 1 + 1 := ⟨L.length - i - 2, by omega⟩
  obtain ⟨k, hk⟩ : ∃ k, c - i = k + 1 + 1 := ⟨c - i - 2, by omega⟩
  obtain ⟨a, ha⟩ : ∃ a, o + i * 4 = a := ⟨_, rfl⟩
  have hn0 : (0 : Int) < ((n + 1 + 1 : Nat) : Int) := by omega
  have hn1 : (1 : Int) < ((n + 1 + 1 : Nat) : Int) := by omega
  have hnk : n ≤ k := by omega
  rw [hn, hk, ha] at h0
  rw [ha] at t0 t1 t2 t3
  have HV := Lib.hid (show Value.slice (some ⟨b, a + 4, none⟩) (n + 1) (k + 1) = .slice (some ⟨b, o + (i + 1) * 4, none⟩) (L.length - (i + 1)) (c - (i + 1)) by
    rw [show o + (i + 1) * 4 = a + 4 from by omega, show L.length - (i + 1) = n + 1 from by omega, show c - (i + 1) = k + 1 from by omega])
  have hB0 : Below W.heap.size W ((W.alloc (.cells #[.string ⟨#[]⟩, .int .i64 0, .slice none 0 0, .slice none 0 0] 69)).alloc (.cells #[.int .i64 1, .string tx, .int .i64 tn, .int .i64 tp] 61)) := ((Below.refl _ _).alloc (Nat.le_refl _) _).alloc (by simp) _
  have hr0 := h.below hB0
  have hzz : ((W.alloc (.cells #[.string ⟨#[]⟩, .int .i64 0, .slice none 0 0, .slice none 0 0] 69)).alloc (.cells #[.int .i64 1, .string tx, .int .i64 tn, .int .i64 tp] 61)).heap.size = W.heap.size + 2 := by simp
  have bR0 := (box_new W (.string ⟨#[]⟩) (.int .i64 0) (.slice none 0 0) (.slice none 0 0) 69).below ((Below.refl _ _).alloc (Nat.le_refl _) (.cells #[.int .i64 1, .string tx, .int .i64 tn, .int .i64 tp] 61)) (by simp)
  have bT0 := box_new (W.alloc (.cells #[.string ⟨#[]⟩, .int .i64 0, .slice none 0 0, .slice none 0 0] 69)) (.int .i64 1) (.string tx) (.int .i64 tn) (.int .i64 tp) 61
  rw [show (W.alloc (.cells #[.string ⟨#[]⟩, .int .i64 0, .slice none 0 0, .slice none 0 0] 69)).heap.size = W.heap.size + 1 from by simp] at bT0
  go_enter Tryd.func35, Tryd.ntmps35
  go_wp2_with fail
  refine (K.out _).mono ?_; rintro e w1 ⟨rfl, hb1⟩
  have hr1 := hr0.below hb1
  have d0 := hr1.c0
  have e0 := hr1.f0
  obtain ⟨x0, x1, x2, x3, _, _, _, _⟩ := bT0.below hb1 (by omega)
  have bR := bR0.below hb1 (by omega)
  rw [hn, hk, ha] at d0
  have hs1 := hb1.size
  rw [hzz] at hs1
  have hg2 : g < w1.heap.size := by omega
  have hg3 : W.heap.size + 1 ≠ g := by omega
  have hg4 : W.heap.size + 1 < w1.heap.size := by omega
  have ST := Lib.hid (ItSt.start bR (only_below (below_next hB0 hb1) (some g)) hg hr1 hi1 tx tp HV.out)
  clear hb1 hr1 hB0 hr0 bR0 bT0 bR hzz h HV
  go_wp2_with fail
  obtain ⟨x, hx⟩ : ∃ x, w1.heap.size = x := ⟨_, rfl⟩
  rw [hx] at ST
  (try rw [hx])
  obtain ⟨V, hV⟩ : ∃ V, (w1.setCell ⟨g, 0, none⟩ (.slice (some ⟨b, a + 4, none⟩) (n + 1) (k + 1))).alloc (.cells #[.string tx, .int .i64 tp, .slice none 0 0, .slice none 0 0] 69) = V := ⟨_, rfl⟩
  rw [hV] at ST ⊢
  clear hV x0 x1 x2 x3 hs1 hg2 hg3 hg4 hx d0 e0 t0 t1 t2 t3 h0 hf hn hk ha K
  refine app_region2 (by kernel_rfl) x ⟨x, 2, none⟩ (.pointer (some ⟨g, 0, none⟩)) (.slice none 0 0) rfl rfl rfl (item_field2 x) (fun _ _ q => trees_load _ _ _ q) (fn_word _) ST.out.drew.arg.c2 (fun _ _ _ _ _ => Iff.rfl) ?_
  refine (word_at _ ST.out.drew.rdr hF.ended hF.len).mono ?_
  rintro e w2 (⟨hok, rfl, hr2, ho2⟩ | ⟨hok, hd, ho2⟩)
  case inr =>
    have HB := Lib.hid (FAILS.out _ _ e w2 (HG.out.trans (goP_w_bad hok)) hd (only_trans ST.out.drew.only ho2))
    unfold diesAt at hd
    subst hd
    exact And.intro rfl HB.out
  have st2 := ST.out.drew.call hr2 ho2
  have hok1 := hF.ok (i + 1)
  have hn2 := hF.word0 _ hok
  have hfit : FitR 5 (tkD L (i + 1)).text (tkD L (i + 1)).n (tkD L (i + 1)).place := ⟨by decide, by decide, hok1.nlo, hok1.nhi, hok1.plo, hok1.phi, hok1.len⟩
  replace HG := Lib.hid (HG.out.trans (goP_w_ok hok))
  clear hr2 ho2 hok hok1
  have ST2 := Lib.hid st2
  clear st2
  refine ⟨ST2.out.arg.c2, ?_⟩
  refine (word_at _ ST2.out.rdr hF.ended hF.len).mono ?_
  rintro e w3 (⟨hok, rfl, hr3, ho3⟩ | ⟨hok, hd, ho3⟩)
  case inr =>
    have HB := Lib.hid (FAILS.out _ _ e w3 (HG.out.trans (goP_w_bad hok)) hd (only_trans ST2.out.only ho3))
    unfold diesAt at hd
    subst hd
    exact And.intro rfl HB.out
  have st3 := ST2.out.call hr3 ho3
  obtain ⟨us, h1, h2, h3, h4⟩ := st3.words
  have hok2 := hF.ok (i + 1 + 1)
  have hn3 := hF.word0 _ hok
  have hfit2 : FitR 5 (tkD L (i + 1 + 1)).text (tkD L (i + 1 + 1)).n (tkD L (i + 1 + 1)).place := ⟨by decide, by decide, hok2.nlo, hok2.nhi, hok2.plo, hok2.phi, hok2.len⟩
  replace HG := Lib.hid (HG.out.trans (goP_w_ok hok))
  refine tree_after2 (y1 := ⟨.mk 5 (tkD L (i + 1)).text (tkD L (i + 1)).n (tkD L (i + 1)).place [], none, 0⟩) (y2 := ⟨.mk 5 (tkD L (i + 1 + 1)).text (tkD L (i + 1 + 1)).n (tkD L (i + 1 + 1)).place [], none, 0⟩) h3 st3.only.size st3.arg.c2 st3.arg.f2 h4 (by simp) ?_
  intro v1 w4 g1 g2 g3
  have st4 := st3.pushWs (news := [⟨.mk 5 (tkD L (i + 1)).text (tkD L (i + 1)).n (tkD L (i + 1)).place [], none, 0⟩, ⟨.mk 5 (tkD L (i + 1 + 1)).text (tkD L (i + 1 + 1)).n (tkD L (i + 1 + 1)).place [], none, 0⟩]) h1 h2 (fun z hz => by
    rcases List.mem_cons.1 hz with rfl | hz
    · exact live_plain hfit w3 _ st3.only.size
    · rw [List.mem_singleton] at hz; subst hz; exact live_plain hfit2 w3 _ st3.only.size) rfl (by unfold rowRv at g1 ⊢; simpa using g1) g2 g3
  obtain ⟨a1, c1, hv1⟩ : ∃ a c, v1 = .slice a 2 c := own_slice g1
  subst hv1
  obtain ⟨V1, hV⟩ : ∃ V', w4.setCell ⟨x, 2, none⟩ (.slice a1 2 c1) = V' := ⟨_, rfl⟩
  rw [hV] at st4 ⊢
  simp only [List.map_cons, List.map_nil, hn2, hn3, List.nil_append] at st4
  replace HG := Lib.hid HG.out
  replace ST := Lib.hid (show ItSt W g b o c L x ⟨tx, tp, [] ++ [.mk 5 (tkD L (i + 1)).text 0 (tkD L (i + 1)).place []] ++ [.mk 5 (tkD L (i + 1 + 1)).text 0 (tkD L (i + 1 + 1)).place []], []⟩ (i + 1 + 1 + 1) (.slice a1 2 c1) (.slice none 0 0) V1 from st4)
  clear hr3 ho3 st3 h1 h2 h3 h4 hok hok2 hfit hfit2 g1 g2 g3 hV st4 hn2 hn3 ST2
  simp only [Act.put, List.setIfInBounds_toArray, List.set_cons_zero, List.set_cons_succ]
  go_wp2_with fail
  refine (pass_any ⟨#[46]⟩ _ ST.out.rdr hF.ended (hF.sign _ sg_46 _ ST.out.rdr.here)).mono ?_
  rintro e w2 (⟨hok, rfl, hr2, ho2⟩ | ⟨hok, hd, ho2⟩)
  case inr =>
    have HB := Lib.hid (FAILS.out _ _ e w2 (HG.out.trans (goP_s_bad (by decide) hok)) hd (only_trans ST.out.only ho2))
    unfold diesAt at hd
    subst hd
    clear hok ho2
    go_wp2_with fail
    exact ⟨rfl, HB.out⟩
  have st2 := ST.out.call hr2 ho2
  replace HG := Lib.hid (HG.out.trans (goP_s_ok (by decide) hok))
  replace ST := Lib.hid st2
  clear hr2 ho2 st2 hok
  have HF := Lib.hid (HG.out.trans goP_end)
  obtain ⟨k0, k1, k2, k3, _, _, _, _⟩ := ST.out.arg
  obtain ⟨r0, r1, r2, r3, rf0, rf1, rf2, rf3⟩ := ST.out.res
  have HE := Lib.hid (ST.out.done (.string tx) (.int .i64 tp) (.slice a1 2 c1) (.slice none 0 0))
  have HX := Lib.hid (ST.out.res.fill (.string tx) (.int .i64 tp) (.slice a1 2 c1) (.slice none 0 0))
  simp only at k0 k1
  go_wp2_with fail
  obtain ⟨r0, r1, r2, r3, _, _, _, _⟩ := HX.out
  refine bodyPost_ret (v := .agg #[.string tx, .int .i64 tp, .slice a1 2 c1, .slice none 0 0]) (by simp [results, Tryd.results35, go_sem, r0, r1, r2, r3]) rfl ?_
  obtain ⟨f1, f2, f3⟩ := HE.out
  exact DONE.out _ _ _ _ _ HF.out f1 f2 f3
end
end Go.Proofs.YtldgbdmiebipnaaDoor

namespace Go.Proofs.YtldgbdmiebipnaaDoor
open Go.RowKit

section
variable {g b o c : Nat} {L : List Tok}
set_option maxRecDepth 100000 in
set_option maxHeartbeats 4000000 in
theorem item_normal (hF : Fine L) (i : Nat) (W : World) (h : Rdr W g b o c L i 0) (ht0 : (tkD L i).text = ⟨#[110, 111, 114, 109, 97, 108]⟩) :
    Calls Tryd.prog 35 #[.pointer (some ⟨g, 0, none⟩)] W (ItemPost g b o c L i W) := by
  have hkey : Lib.containsS keyList (tkD L i).text = true := by rw [ht0]; decide +kernel
  have hk1 := hF.key i hkey
  have hi1 : i + 1 < L.length := hF.ended i (by rw [hk1]; decide)
  have HG := Lib.hid (show itemR L i = goP L [116, 46] ⟨(tkD L i).text, (tkD L i).place, [], []⟩ (i + 1) by unfold itemR; rw [show shapesOf (tkD L i).text = [116, 46] by rw [ht0]; decide +kernel])
  have q_fun : ((tkD L i).text.toList == [102, 117, 110]) = false := by rw [ht0]; decide +kernel
  have q_name : ((tkD L i).text.toList == [110, 97, 109, 101]) = false := by rw [ht0]; decide +kernel
  have q_use : ((tkD L i).text.toList == [117, 115, 101]) = false := by rw [ht0]; decide +kernel
  have q_rule : ((tkD L i).text.toList == [114, 117, 108, 101]) = false := by rw [ht0]; decide +kernel
  have q_frame : ((tkD L i).text.toList == [102, 114, 97, 109, 101]) = false := by rw [ht0]; decide +kernel
  have q_deduce : ((tkD L i).text.toList == [100, 101, 100, 117, 99, 101]) = false := by rw [ht0]; decide +kernel
  have q_equiv : ((tkD L i).text.toList == [101, 113, 117, 105, 118]) = false := by rw [ht0]; decide +kernel
  have q_normal : ((tkD L i).text.toList == [110, 111, 114, 109, 97, 108]) = true := by rw [ht0]; decide +kernel
  have FAILS := Lib.hid (fun (it : It) (q : Nat) (e : Ending) (w' : World) (hr : itemR L i = (it, q, false)) (he : e = diesAt L q) (ho : W.grownBy w' (some g)) => (show ItemPost g b o c L i W e w' from .inr (.inl ⟨hkey, by rw [hr], by rw [hr]; exact he, ho⟩)))
  have DONE := Lib.hid (fun (it : It) (q : Nat) (vw vt : Value) (w' : World) (hr : itemR L i = (it, q, true)) (h1 : RowsI w' (fun _ => False) 36 W.heap.size vw it.words vt it.trees) (h2 : Rdr w' g b o c L q 0) (h3 : W.grownBy w' (some g)) =>
    (show ItemPost g b o c L i W (.returned (.agg #[.string (tkD L i).text, .int .i64 (tkD L i).place, vw, vt])) w' from .inl ⟨hkey, by rw [hr], vw, vt, rfl, by rw [hr]; exact h1, by rw [hr]; exact h2, h3⟩))
  have h0 := h.c0
  have hf := h.f0
  have hi := h.here
  have hg := h.glt
  have hlt := h.lt
  have hcap := h.cap
  have hbw : b < W.heap.size := by omega
  have hbw1 : b < W.heap.size + 1 := by omega
  have hbw2 : b < W.heap.size + 1 + 1 := by omega
  have hg1 : g < W.heap.size + 1 := by omega
  obtain ⟨t0, t1, t2, t3⟩ := h.toks i hi
  have K := key_any (tkD L i).text
  rw [hkey] at K
  obtain ⟨t, ht⟩ : ∃ t, tkD L i = t := ⟨_, rfl⟩
  have hti : L[i] = t := by rw [← ht, tkD_at hi]
  rw [ht] at q_fun q_name q_use q_rule q_frame q_deduce q_equiv q_normal hk1 HG DONE K
  rw [hti] at t0 t1 t2 t3
  clear ht hti ht0 hkey
  obtain ⟨tk, tx, tn, tp⟩ := t
  simp only at t0 t1 t2 t3 q_fun q_name q_use q_rule q_frame q_deduce q_equiv q_normal hk1 HG DONE K
  subst hk1
  replace K := Lib.hid K
  obtain ⟨n, hn⟩ : ∃ n, L.length - i = n + 1 + 1 := ⟨L.length - i - 2, by omega⟩
  obtain ⟨k, hk⟩ : ∃ k, c - i = k + 1 + 1 := ⟨c - i - 2, by omega⟩
  obtain ⟨a, ha⟩ : ∃ a, o + i * 4 = a := ⟨_, rfl⟩
  have hn0 : (0 : Int) < ((n + 1 + 1 : Nat) : Int) := by omega
  have hn1 : (1 : Int) < ((n + 1 + 1 : Nat) : Int) := by omega
  have hnk : n ≤ k := by omega
  rw [hn, hk, ha] at h0
  rw [ha] at t0 t1 t2 t3
  have HV := Lib.hid (show Value.slice (some ⟨b, a + 4, none⟩) (n + 1) (k + 1) = .slice (some ⟨b, o + (i + 1) * 4, none⟩) (L.length - (i + 1)) (c - (i + 1)) by
    rw [show o + (i + 1) * 4 = a + 4 from by omega, show L.length - (i + 1) = n + 1 from by omega, show c - (i + 1) = k + 1 from by omega])
  have hB0 : Below W.heap.size W ((W.alloc (.cells #[.string ⟨#[]⟩, .int .i64 0, .slice none 0 0, .slice none 0 0] 69)).alloc (.cells #[.int .i64 1, .string tx, .int .i64 tn, .int .i64 tp] 61)) := ((Below.refl _ _).alloc (Nat.le_refl _) _).alloc (by simp) _
  have hr0 := h.below hB0
  have hzz : ((W.alloc (.cells #[.string ⟨#[]⟩, .int .i64 0, .slice none 0 0, .slice none 0 0] 69)).alloc (.cells #[.int .i64 1, .string tx, .int .i64 tn, .int .i64 tp] 61)).heap.size = W.heap.size + 2 := by simp
  have bR0 := (box_new W (.string ⟨#[]⟩) (.int .i64 0) (.slice none 0 0) (.slice none 0 0) 69).below ((Below.refl _ _).alloc (Nat.le_refl _) (.cells #[.int .i64 1, .string tx, .int .i64 tn, .int .i64 tp] 61)) (by simp)
  have bT0 := box_new (W.alloc (.cells #[.string ⟨#[]⟩, .int .i64 0, .slice none 0 0, .slice none 0 0] 69)) (.int .i64 1) (.string tx) (.int .i64 tn) (.int .i64 tp) 61
  rw [show (W.alloc (.cells #[.string ⟨#[]⟩, .int .i64 0, .slice none 0 0, .slice none 0 0] 69)).heap.size = W.heap.size + 1 from by simp] at bT0
  go_enter Tryd.func35, Tryd.ntmps35
  go_wp2_with fail
  refine (K.out _).mono ?_; rintro e w1 ⟨rfl, hb1⟩
  have hr1 := hr0.below hb1
  have d0 := hr1.c0
  have e0 := hr1.f0
  obtain ⟨x0, x1, x2, x3, _, _, _, _⟩ := bT0.below hb1 (by omega)
  have bR := bR0.below hb1 (by omega)
  rw [hn, hk, ha] at d0
  have hs1 := hb1.size
  rw [hzz] at hs1
  have hg2 : g < w1.heap.size := by omega
  have hg3 : W.heap.size + 1 ≠ g := by omega
  have hg4 : W.heap.size + 1 < w1.heap.size := by omega
  have ST := Lib.hid (ItSt.start bR (only_below (below_next hB0 hb1) (some g)) hg hr1 hi1 tx tp HV.out)
  clear hb1 hr1 hB0 hr0 bR0 bT0 bR hzz h HV
  go_wp2_with fail
  obtain ⟨x, hx⟩ : ∃ x, w1.heap.size = x := ⟨_, rfl⟩
  rw [hx] at ST
  (try rw [hx])
  obtain ⟨V, hV⟩ : ∃ V, (w1.setCell ⟨g, 0, none⟩ (.slice (some ⟨b, a + 4, none⟩) (n + 1) (k + 1))).alloc (.cells #[.string tx, .int .i64 tp, .slice none 0 0, .slice none 0 0] 69) = V := ⟨_, rfl⟩
  rw [hV] at ST ⊢
  clear hV x0 x1 x2 x3 hs1 hg2 hg3 hg4 hx d0 e0 t0 t1 t2 t3 h0 hf hn hk ha K
  refine app_region (by kernel_rfl) x ⟨x, 3, none⟩ (.pointer (some ⟨g, 0, none⟩)) (.slice none 0 0) 134 rfl (by decide) (by decide) rfl rfl (item_field3 x) (fun _ _ q => trees_load _ _ _ q) (fn_term _) ST.out.drew.arg.c3 (fun _ _ _ _ _ q => q) ?_
  refine (term_any hF (i + 1) 0 (by decide) _ ST.out.drew.rdr).mono ?_
  rintro e w2 (⟨hok, y, rfl, hyt, hm, hr2, ho2⟩ | ⟨hok, hd, ho2⟩)
  case inr =>
    have HB := Lib.hid (FAILS.out _ _ e w2 (HG.out.trans (goP_t_bad hok)) hd (only_trans ST.out.drew.only ho2))
    unfold diesAt at hd
    subst hd
    exact And.intro rfl HB.out
  have st2 := ST.out.drew.call hr2 ho2
  obtain ⟨us, h1, h2, h3, h4⟩ := st2.trees
  refine tree_after h3 st2.only.size st2.arg.c3 st2.arg.f3 h4 (by simp) ?_
  intro v1 w3 g1 g2 g3
  have st3 := st2.push h1 h2 (hm.liveA ho2.size ST.out.drew.only.size ST.out.drew.there) g1 g2 g3
  obtain ⟨a1, c1, hv1⟩ : ∃ a c, v1 = .slice a 1 c := own_slice g1
  subst hv1
  replace HG := Lib.hid (HG.out.trans (goP_t_ok hok))
  rw [← hyt] at HG
  obtain ⟨j1, hj⟩ : ∃ q, (termP L (i + 1) 0).2.1 = q := ⟨_, rfl⟩
  rw [hj] at HG st3
  obtain ⟨V1, hV⟩ : ∃ V', w3.setCell ⟨x, 3, none⟩ (.slice a1 1 c1) = V' := ⟨_, rfl⟩
  rw [hV] at st3 ⊢
  replace ST := Lib.hid st3
  clear hr2 ho2 st2 h1 h2 h3 h4 hm hyt g1 g2 g3 hV st3 hj
  simp only [Act.put, List.setIfInBounds_toArray, List.set_cons_zero, List.set_cons_succ]
  go_wp2_with fail
  refine (pass_any ⟨#[46]⟩ _ ST.out.rdr hF.ended (hF.sign _ sg_46 _ ST.out.rdr.here)).mono ?_
  rintro e w2 (⟨hok, rfl, hr2, ho2⟩ | ⟨hok, hd, ho2⟩)
  case inr =>
    have HB := Lib.hid (FAILS.out _ _ e w2 (HG.out.trans (goP_s_bad (by decide) hok)) hd (only_trans ST.out.only ho2))
    unfold diesAt at hd
    subst hd
    clear hok ho2
    go_wp2_with fail
    exact ⟨rfl, HB.out⟩
  have st2 := ST.out.call hr2 ho2
  replace HG := Lib.hid (HG.out.trans (goP_s_ok (by decide) hok))
  replace ST := Lib.hid st2
  clear hr2 ho2 st2 hok
  have HF := Lib.hid (HG.out.trans goP_end)
  obtain ⟨k0, k1, k2, k3, _, _, _, _⟩ := ST.out.arg
  obtain ⟨r0, r1, r2, r3, rf0, rf1, rf2, rf3⟩ := ST.out.res
  have HE := Lib.hid (ST.out.done (.string tx) (.int .i64 tp) (.slice none 0 0) (.slice a1 1 c1))
  have HX := Lib.hid (ST.out.res.fill (.string tx) (.int .i64 tp) (.slice none 0 0) (.slice a1 1 c1))
  simp only at k0 k1
  go_wp2_with fail
  obtain ⟨r0, r1, r2, r3, _, _, _, _⟩ := HX.out
  refine bodyPost_ret (v := .agg #[.string tx, .int .i64 tp, .slice none 0 0, .slice a1 1 c1]) (by simp [results, Tryd.results35, go_sem, r0, r1, r2, r3]) rfl ?_
  obtain ⟨f1, f2, f3⟩ := HE.out
  exact DONE.out _ _ _ _ _ HF.out f1 f2 f3
end
end Go.Proofs.YtldgbdmiebipnaaDoor

namespace Go.Proofs.YtldgbdmiebipnaaDoor
open Go.RowKit

theorem key_ways {s : ByteArray} (h : Lib.containsS keyList s = true) : s = ⟨#[102, 117, 110]⟩ ∨ s = ⟨#[110, 97, 109, 101]⟩ ∨ s = ⟨#[117, 115, 101]⟩ ∨ s = ⟨#[114, 117, 108, 101]⟩ ∨ s = ⟨#[102, 114, 97, 109, 101]⟩ ∨ s = ⟨#[100, 101, 100, 117, 99, 101]⟩ ∨ s = ⟨#[101, 113, 117, 105, 118]⟩ ∨ s = ⟨#[110, 111, 114, 109, 97, 108]⟩ := by
  rw [Lib.containsS_iff] at h
  unfold keyList at h
  simp only [List.mem_cons, List.not_mem_nil, or_false] at h
  rcases h with e | e | e | e | e | e | e | e
  · exact .inl e
  · exact .inr (.inl e)
  · exact .inr (.inr (.inr (.inl e)))
  · exact .inr (.inr (.inr (.inr (.inl e))))
  · exact .inr (.inr (.inr (.inr (.inr (.inl e)))))
  · exact .inr (.inr (.inr (.inr (.inr (.inr (.inl e))))))
  · exact .inr (.inr (.inr (.inr (.inr (.inr (.inr e))))))
  · exact .inr (.inr (.inl e))

section
variable {g b o c : Nat} {L : List Tok}
set_option maxRecDepth 100000 in
set_option maxHeartbeats 4000000 in
theorem item_none (i : Nat) (W : World) (h : Rdr W g b o c L i 0) (hkey : Lib.containsS keyList (tkD L i).text = false) :
    Calls Tryd.prog 35 #[.pointer (some ⟨g, 0, none⟩)] W (ItemPost g b o c L i W) := by
  have HT := Lib.hid (fun (e : Ending) (w' : World) (he : e = diesAt L i) (ho : W.grownBy w' (some g)) => (show ItemPost g b o c L i W e w' from .inr (.inr ⟨hkey, he, ho⟩)))
  have F := Lib.hid (fun (V : World) (hv : Rdr V g b o c L i 0) => fail_any V hv)
  have h0 := h.c0
  have hi := h.here
  have hg := h.glt
  have hlt := h.lt
  have hbw : b < W.heap.size := by omega
  have hbw1 : b < W.heap.size + 1 := by omega
  have hbw2 : b < W.heap.size + 1 + 1 := by omega
  have hg1 : g < W.heap.size + 1 := by omega
  obtain ⟨t0, t1, t2, t3⟩ := h.toks i hi
  have K := key_any (tkD L i).text
  rw [hkey] at K
  unfold diesAt at F
  obtain ⟨t, ht⟩ : ∃ t, tkD L i = t := ⟨_, rfl⟩
  have hti : L[i] = t := by rw [← ht, tkD_at hi]
  rw [ht] at K
  rw [hti] at t0 t1 t2 t3
  clear ht hti hkey
  obtain ⟨tk, tx, tn, tp⟩ := t
  simp only at t0 t1 t2 t3 K
  replace K := Lib.hid K
  obtain ⟨n, hn⟩ : ∃ n, L.length - i = n := ⟨_, rfl⟩
  obtain ⟨k, hk⟩ : ∃ k, c - i = k := ⟨_, rfl⟩
  obtain ⟨a, ha⟩ : ∃ a, o + i * 4 = a := ⟨_, rfl⟩
  have hn0 : (0 : Int) < (n : Int) := by omega
  rw [hn, hk, ha] at h0
  rw [ha] at t0 t1 t2 t3
  have hB0 : Below W.heap.size W ((W.alloc (.cells #[.string ⟨#[]⟩, .int .i64 0, .slice none 0 0, .slice none 0 0] 69)).alloc (.cells #[.int .i64 tk, .string tx, .int .i64 tn, .int .i64 tp] 61)) := ((Below.refl _ _).alloc (Nat.le_refl _) _).alloc (by simp) _
  have HB0 := Lib.hid hB0
  have HR0 := Lib.hid (h.below hB0)
  clear hn hk ha h hB0
  go_enter Tryd.func35, Tryd.ntmps35
  go_wp2_with fail
  refine (K.out _).mono ?_; rintro e w1 ⟨rfl, hb1⟩
  have HR1 := Lib.hid (HR0.out.below hb1)
  have HB1 := Lib.hid (below_next HB0.out hb1)
  clear hb1
  go_wp2_with fail
  refine (F.out _ HR1.out).mono ?_; rintro e w2 ⟨rfl, rfl⟩
  go_wp2_with fail
  exact ⟨rfl, HT.out _ _ rfl (only_below HB1.out _)⟩
/-- An item is read as it should be. -/
theorem item_any (hF : Fine L) (i : Nat) (W : World) (h : Rdr W g b o c L i 0) :
    Calls Tryd.prog 35 #[.pointer (some ⟨g, 0, none⟩)] W (ItemPost g b o c L i W) := by
  cases hk : Lib.containsS keyList (tkD L i).text with
  | false => exact item_none i W h hk
  | true =>
    rcases key_ways hk with e | e | e | e | e | e | e | e
    · exact item_fun hF i W h e
    · exact item_name hF i W h e
    · exact item_use hF i W h e
    · exact item_rule hF i W h e
    · exact item_frame hF i W h e
    · exact item_deduce hF i W h e
    · exact item_equiv hF i W h e
    · exact item_normal hF i W h e
end
end Go.Proofs.YtldgbdmiebipnaaDoor

namespace Go.Proofs.YtldgbdmiebipnaaDoor
open Go.RowKit

theorem tokL_one {l : List UInt8} {c : Cut} (h : tokL l = some c) (hk : c.kind = 1) : c.n = 0 := by
  have hn : ∀ {k : Int} {t : List UInt8} {least : Int} {len : Nat}, k ≠ 1 → numCut k t least len = some c → c.n = 0 := fun hne h => absurd ((numCut_kind h).symm.trans hk) hne
  unfold tokL at h
  split at h
  · exact hn (by decide) h
  · split at h
    · exact hn (by decide) h
    · split at h
      · injection h with h; subst h; rfl
      · split at h
        · exact hn (by decide) h
        · split at h
          · split at h
            · injection h with h; subst h; rfl
            · split at h
              · injection h with h; subst h; rfl
              · cases h
          · cases h
theorem sound_text {t : Tok} (h : Sound t) : tokL t.text.data.toList = some ⟨t.kind, t.n, t.text.size⟩ := by
  have := h.tok [] (.inr noPart_nil)
  rwa [List.append_nil] at this
theorem sign_cut {s : ByteArray} (h : s ∈ signL) : (tokL s.data.toList).map Cut.kind = some 6 := by
  unfold signL sOpen sClose sComma sSemi sDot at h
  simp only [List.mem_cons, List.not_mem_nil, or_false] at h
  rcases h with rfl | rfl | rfl | rfl | rfl | rfl | rfl | rfl <;> decide +kernel
theorem key_cut {s : ByteArray} (h : Lib.containsS keyList s = true) : (tokL s.data.toList).map Cut.kind = some 1 := by
  rcases key_ways h with rfl | rfl | rfl | rfl | rfl | rfl | rfl | rfl <;> decide +kernel
theorem sign_size {s : ByteArray} (h : s ∈ signL) : s ≠ ⟨#[]⟩ := by
  intro e
  have := sign_cut h
  rw [e] at this
  revert this
  decide +kernel
theorem fine_of {s : ByteArray} {ts : List Tok} (h8 : s.size ≤ 8192) (h : scanS s = .inr ts) : Fine ts := by
  have hT := textToks_of h
  have hlen := (scanS_small h).2
  have hW : ∀ k, Sound (tkD ts k) ∨ ((tkD ts k).kind = 0 ∧ (tkD ts k).text = ⟨#[]⟩) := by
    obtain ⟨more, rfl, hS, _⟩ := scanS_sound h
    intro k
    rw [tkD_snoc]
    by_cases hk : k < more.length
    · rw [dif_pos hk]; exact .inl (hS _ (List.getElem_mem hk))
    · rw [dif_neg hk]
      split
      · exact .inr ⟨rfl, rfl⟩
      · exact .inr ⟨rfl, rfl⟩
  refine ⟨hT.ended, fun i => tokOk_of h8 h i, by omega, fun sg hsg k _ => ?_, fun k hk => ?_, fun k hk => ?_⟩
  · unfold isS
    cases hx : ((tkD ts k).text.toList == sg.toList) with
    | false => rw [Bool.and_false]
    | true =>
      rw [Lib.bytes_beq_iff] at hx
      rcases hW k with hs | ⟨_, ht⟩
      · have h1 := sound_text hs
        have h2 := sign_cut hsg
        rw [hx] at h1
        rw [h1] at h2
        injection h2 with h2
        simp only at h2
        rw [h2]; rfl
      · rw [ht] at hx; exact absurd hx.symm (sign_size hsg)
  · have h1 := wordK_kind hk
    rcases hW k with hs | ⟨h0, _⟩
    · exact tokL_one (sound_text hs) h1
    · rw [h0] at h1; cases h1
  · rcases hW k with hs | ⟨_, ht⟩
    · have h1 := sound_text hs
      have h2 := key_cut hk
      rw [h1] at h2
      injection h2 with h2
    · rw [ht, show Lib.containsS keyList ⟨#[]⟩ = false by decide +kernel] at hk; cases hk
end Go.Proofs.YtldgbdmiebipnaaDoor

namespace Go.Proofs.YtldgbdmiebipnaaDoor
open Go.RowKit

theorem OneSt.start {A w : World} {Z : Nat → Prop} {T e1 e2 e3 : TypeId} {x : It} {vw vt : Value} (t : Tok) (hA : Below A.heap.size A w) (hr : RowsI w Z T A.heap.size vw x.words vt x.trees) (hZ : ∀ k, Z k → k < w.heap.size) {R : Nat → Prop} (hR : ∀ k, rowsP vw vt k → R k) :
    OneSt A R Z w T w.heap.size x t vw vt (((w.alloc (.cells #[.string x.key, .int .i64 x.spot, vw, vt] e1)).alloc (.cells #[.string ⟨#[]⟩, .int .i64 0, .slice none 0 0, .slice none 0 0] e2)).alloc (.cells #[.int .i64 t.kind, .string t.text, .int .i64 t.n, .int .i64 t.place] e3)) := by
  have hs := hA.size
  have hb : Below w.heap.size w (((w.alloc (.cells #[.string x.key, .int .i64 x.spot, vw, vt] e1)).alloc (.cells #[.string ⟨#[]⟩, .int .i64 0, .slice none 0 0, .slice none 0 0] e2)).alloc (.cells #[.int .i64 t.kind, .string t.text, .int .i64 t.n, .int .i64 t.place] e3)) :=
    (((Below.refl _ _).alloc (Nat.le_refl _) _).alloc (by simp) _).alloc (by simp; omega) _
  refine ⟨((hA.alloc (by omega) _).alloc (by simp; omega) _).alloc (by simp; omega) _, ?_, ?_, ?_, hs, hZ, ?_, fun k hk _ => hb.block k hk, fun k e => .inl (hR k e)⟩
  · exact (box_new w _ _ _ _ e1).below (((Below.refl _ _).alloc (Nat.le_refl _) _).alloc (by simp) _) (by simp)
  · have := box_new (w.alloc (.cells #[.string x.key, .int .i64 x.spot, vw, vt] e1)) (.string ⟨#[]⟩) (.int .i64 0) (.slice none 0 0) (.slice none 0 0) e2
    rw [show (w.alloc (.cells #[.string x.key, .int .i64 x.spot, vw, vt] e1)).heap.size = w.heap.size + 1 from by simp] at this
    exact ⟨_, _, _, _, this.below ((Below.refl _ _).alloc (Nat.le_refl _) _) (by simp)⟩
  · have := box_new ((w.alloc (.cells #[.string x.key, .int .i64 x.spot, vw, vt] e1)).alloc (.cells #[.string ⟨#[]⟩, .int .i64 0, .slice none 0 0, .slice none 0 0] e2)) (.int .i64 t.kind) (.string t.text) (.int .i64 t.n) (.int .i64 t.place) e3
    rw [show ((w.alloc (.cells #[.string x.key, .int .i64 x.spot, vw, vt] e1)).alloc (.cells #[.string ⟨#[]⟩, .int .i64 0, .slice none 0 0, .slice none 0 0] e2)).heap.size = w.heap.size + 2 from by simp] at this
    exact this
  · exact (hr.beside (Z' := zP Z w.heap.size) fun k hk => by
      rcases hk with hk | hk
      · exact .inl hk
      · exact .inr hk.1).below hb
theorem new_rowR (w : World) (b : Nat) (hb : b = w.heap.size) (x0 x1 x2 x3 x4 : Value) (t : TypeId) : ∀ j u, [x0, x1, x2, x3, x4][j]? = some u → (w.alloc (.cells #[x0, x1, x2, x3, x4] t)).cell? ((⟨b, 0, none⟩ : Addr).add j) = some u := by
  subst hb
  intro j u hj
  have e := World.cell?_alloc_mark w #[x0, x1, x2, x3, x4] t (0, 0) (0 + j)
  have : ((⟨w.heap.size, 0, none⟩ : Addr).add j) = ⟨w.heap.size, 0 + j, none⟩ := by
    unfold Addr.add; split
    · next h => subst h; rfl
    · rfl
  rw [this, e]
  simpa using hj
theorem RowsI.slices {W : World} {Z : Nat → Prop} {e : TypeId} {base : Nat} {vw vt : Value} {ws ts : List Tr} (h : RowsI W Z e base vw ws vt ts) : (∃ a c, vw = .slice a ws.length c) ∧ ∃ a c, vt = .slice a ts.length c := by
  obtain ⟨⟨_, _, _, h1⟩, ⟨_, _, _, h2⟩, _, _⟩ := h
  exact ⟨own_slice h1, own_slice h2⟩
/-- An item as a value. -/
def itVal (x : It) (vw vt : Value) : Value := .agg #[.string x.key, .int .i64 x.spot, vw, vt]
def OnePost (A : World) (R Z : Nat → Prop) (w : World) (x : It) (L : List Tok) (i : Nat) (c : UInt8) (e : Ending) (w' : World) : Prop :=
  ∃ vw vt, e = .returned (.tuple #[itVal x vw vt, .int .i64 (oneP x L i c).2.1, .bool (oneP x L i c).2.2]) ∧ RowsI w' Z 41 A.heap.size vw (oneP x L i c).1.words vt (oneP x L i c).1.trees ∧ Below A.heap.size A w' ∧ (∀ k, k < w.heap.size → ¬ R k → w'.heap[k]? = w.heap[k]?) ∧ (∀ k, rowsP vw vt k → R k ∨ w.heap.size ≤ k) ∧ w.heap.size ≤ w'.heap.size

set_option maxRecDepth 100000 in
set_option maxHeartbeats 4000000 in
theorem rone_word (v : Value) (L : List Tok) (A : World) (hv : Toks A v L) (x : It) (vw vt : Value) (hO : ∀ i, TokOk (tkD L i)) (hl1 : x.words.length ≤ 100000) (i : Nat) (hlen : L.length ≤ 100000) (hi : i < L.length) (w : World) (hA : Below A.heap.size A w)
    (R : Nat → Prop) (hR : ∀ k, rowsP vw vt k → R k) (Z : Nat → Prop) (hZ : ∀ k, Z k → k < w.heap.size) (hr : RowsI w Z 41 A.heap.size vw x.words vt x.trees) :
    Calls Tryd.prog 23 #[itVal x vw vt, v, .int .i64 i, .int .u8 119] w (OnePost A R Z w x L i 119) := by
  obtain ⟨i0, hti, hz0, hz1, hz2⟩ := info_parts treeInfo
  obtain ⟨⟨aw, cw, rfl⟩, at_, ct, rfl⟩ := hr.slices
  obtain ⟨a, c, rfl, hl, h⟩ := hv
  rcases h with h | ⟨b, off, rfl, hlt, hc⟩
  · subst h; cases hi
  obtain ⟨t, ht⟩ : ∃ t, tkD L i = t := ⟨_, rfl⟩
  have hok := hO i
  have hti2 : L[i] = t := by rw [← ht, tkD_at hi]
  have hci := hc i hi
  rw [hti2] at hci
  have HC := Lib.hid (fun (W : World) (h : Below A.heap.size A W) => hci.below h hlt)
  have HS := Lib.hid (fun e1 e2 e3 => OneSt.start (e1 := e1) (e2 := e2) (e3 := e3) t hA hr hZ hR)
  have HOP := Lib.hid (show oneP x L i 119 = if wordK t = true then ({ x with words := x.words ++ [.mk 5 t.text 0 t.place []] }, i + 1, true) else (x, i, false) by unfold oneP; rw [if_pos rfl, ht])
  rw [ht] at hok
  have WK := Lib.hid (fun (W : World) => rwordk_any t W)
  have ST := Lib.hid (fun (ok : Bool) (W : World) => rstep_any i ok (by omega) W)
  have HA := Lib.hid hA
  have hsz := hA.size
  clear ht hti2 hc hci hr hA hR hZ
  obtain ⟨tk, tx, tn, tp⟩ := t
  obtain ⟨key, spot, ws, ts⟩ := x
  obtain ⟨ok1, ok2, ok3, ok4, ok5⟩ := hok
  unfold tokVal at WK
  unfold itVal
  simp only at HS HOP WK ok1 ok2 ok3 ok4 ok5 hl1
  have hk1 : (i : Int) < (L.length : Int) := by omega
  have hk0 : (0 : Int) ≤ (i : Int) := by omega
  obtain ⟨m0, m1, m2, m3⟩ := HC.out _ ((HA.out.alloc hsz (.cells #[.string key, .int .i64 spot, .slice aw ws.length cw, .slice at_ ts.length ct] 64)).alloc (by simp; omega) (.cells #[.string ⟨#[]⟩, .int .i64 0, .slice none 0 0, .slice none 0 0] 64))
  simp only at m0 m1 m2 m3
  have KEEPS := Lib.hid (fun (ws' : List Tr) (vw : Value) (W : World) (h : OneSt A R Z w 41 w.heap.size ⟨key, spot, ws', ts⟩ ⟨tk, tx, tn, tp⟩ vw (.slice at_ ts.length ct) W) => h.cells)
  have FILLS := Lib.hid (fun (ws' : List Tr) (vw : Value) (z0 z1 z2 z3 : Value) (W : World) (h : OneSt A R Z w 41 w.heap.size ⟨key, spot, ws', ts⟩ ⟨tk, tx, tn, tp⟩ vw (.slice at_ ts.length ct) W) => h.filled z0 z1 z2 z3)
  have FILL := Lib.hid (fun (ws' : List Tr) (vw : Value) (W : World) (h : OneSt A R Z w 41 w.heap.size ⟨key, spot, ws', ts⟩ ⟨tk, tx, tn, tp⟩ vw (.slice at_ ts.length ct) W) => h.fill)
  simp only at KEEPS FILLS FILL
  cases hwk : wordK ⟨tk, tx, tn, tp⟩ with
  | false =>
    rw [hwk] at WK HOP
    replace HOP := Lib.hid (HOP.out.trans (if_neg (by decide)))
    have WK2 := Lib.hid (fun (W : World) (h : OneSt A R Z w 41 w.heap.size ⟨key, spot, ws, ts⟩ ⟨tk, tx, tn, tp⟩ (.slice aw ws.length cw) (.slice at_ ts.length ct) W) => (WK.out W).mono fun e w' hh => (show e = .returned (.bool false) ∧ OneSt A R Z w 41 w.heap.size ⟨key, spot, ws, ts⟩ ⟨tk, tx, tn, tp⟩ (.slice aw ws.length cw) (.slice at_ ts.length ct) w' from ⟨hh.1, h.below hh.2⟩))
    have ST2 := Lib.hid (fun (W : World) => (ST.out false W).mono fun e w' hh => (show e = .returned (.int .i64 i) ∧ W = w' from hh))
    clear hwk
    go_enter Tryd.func23, Tryd.ntmps23
    go_wp2_with fail
    have h0 := HS.out 64 64 61
    refine (WK2.out _ h0).mono ?_; rintro e w1 ⟨rfl, h1⟩
    clear h0 m0 m1 m2 m3
    obtain ⟨k0, k1, k2, k3, k4, k5, k6, k7, k8, k9, k10, k11, k12, k13, k14⟩ := KEEPS.out _ _ _ h1
    go_wp2_with fail
    have h1d := h1.below (Below.refl _ _).drew
    clear h1 k0 k1 k2 k3 k4 k5 k6 k7 k8 k9 k10 k11 k12 k13 k14
    go_region_held3 (fun W => OneSt A R Z w 41 w.heap.size ⟨key, spot, ws, ts⟩ ⟨tk, tx, tn, tp⟩ (.slice aw ws.length cw) (.slice at_ ts.length ct) W ∧
      W.cell? ⟨w.heap.size, 0, none⟩ = some (.string key) ∧ W.cell? ⟨w.heap.size, 1, none⟩ = some (.int .i64 spot) ∧ W.cell? ⟨w.heap.size, 2, none⟩ = some (.slice aw ws.length cw) ∧ W.cell? ⟨w.heap.size, 3, none⟩ = some (.slice at_ ts.length ct) ∧
      W.cell? ⟨w.heap.size + 1 + 1, 0, none⟩ = some (.int .i64 tk) ∧ W.cell? ⟨w.heap.size + 1 + 1, 1, none⟩ = some (.string tx) ∧ W.cell? ⟨w.heap.size + 1 + 1, 2, none⟩ = some (.int .i64 tn) ∧ W.cell? ⟨w.heap.size + 1 + 1, 3, none⟩ = some (.int .i64 tp) ∧
      W.frozen? ⟨w.heap.size + 1, 0, none⟩ = false ∧ W.frozen? ⟨w.heap.size + 1, 1, none⟩ = false ∧ W.frozen? ⟨w.heap.size + 1, 2, none⟩ = false ∧ W.frozen? ⟨w.heap.size + 1, 3, none⟩ = false ∧ W.frozen? ⟨w.heap.size, 2, none⟩ = false ∧ W.frozen? ⟨w.heap.size, 3, none⟩ = false)
      (first
        | exact KEEPS.out _ _ _ (by assumption)
        | exact KEEPS.out _ _ _ (FILLS.out _ _ _ _ _ _ _ (by assumption)))
      ((first
        | (go_at_call 21; refine (WK2.out _ (by assumption)).mono ?_; rintro e w' ⟨rfl, hn⟩; obtain ⟨y0, y1, y2, y3, ⟨q0, q1, q2, q3, _, _, _, _⟩⟩ := hn.res)
        | (go_at_call 40; refine (ST2.out _).mono ?_; rintro e w' ⟨rfl, rfl⟩)))
    have HE := Lib.hid (FILL.out _ _ _ hn)
    go_wp2_with fail
    obtain ⟨hbel, ⟨r0, r1, r2, r3, rf0, rf1, rf2, rf3⟩, hrw, hkp, hri⟩ := HE.out
    refine bodyPost_ret (v := .tuple #[.agg #[.string key, .int .i64 spot, .slice aw ws.length cw, .slice at_ ts.length ct], .int .i64 (i : Int), .bool false]) (by simp [results, Tryd.results23, go_sem, r0, r1, r2, r3]) rfl ?_
    unfold OnePost
    rw [HOP.out]
    exact ⟨_, _, rfl, hrw, hbel, hkp, hri, Nat.le_of_lt (Nat.lt_of_succ_lt (lt_of_cellR r0))⟩
  | true =>
    rw [hwk] at WK HOP
    replace HOP := Lib.hid (HOP.out.trans (if_pos rfl))
    have h0 := HS.out 64 64 61
    have WK1 := Lib.hid (fun (W : World) (h : OneSt A R Z w 41 w.heap.size ⟨key, spot, ws, ts⟩ ⟨tk, tx, tn, tp⟩ (.slice aw ws.length cw) (.slice at_ ts.length ct) W) => (WK.out W).mono fun e w' hh => (show e = .returned (.bool true) ∧ OneSt A R Z w 41 w.heap.size ⟨key, spot, ws, ts⟩ ⟨tk, tx, tn, tp⟩ (.slice aw ws.length cw) (.slice at_ ts.length ct) w' from ⟨hh.1, h.below hh.2⟩))
    have ST2 := Lib.hid (fun (W : World) => (ST.out true W).mono fun e w' hh => (show e = .returned (.int .i64 ((i : Int) + 1)) ∧ W = w' from hh))
    clear hwk
    go_enter Tryd.func23, Tryd.ntmps23
    go_wp2_with fail
    refine (WK1.out _ h0).mono ?_; rintro e w1 ⟨rfl, h1⟩
    clear h0 m0 m1 m2 m3
    obtain ⟨_, k0, k1, k2, k3, k4, k5, k6, k7, k8, k9, k10, k11, k12, k13⟩ := KEEPS.out _ _ _ h1
    obtain ⟨vs, hvt, hvl, hown⟩ := h1.rows.wds
    have hb1 : Below w1.heap.size w1 (w1.alloc (.cells #[.int .i64 5, .string tx, .int .i64 0, .int .i64 tp, .slice none 0 0] 41)) := (Below.refl _ _).alloc (Nat.le_refl _) _
    have hFit : FitR 5 tx 0 tp := ⟨by omega, by omega, by omega, by omega, ok3, ok4, ok5⟩
    have hsz1 := h1.bel.size
    have H1 := Lib.hid (h1.below hb1)
    have HNL := Lib.hid (fun (P : Nat → Prop) => live_plain hFit (w1.alloc (.cells #[.int .i64 5, .string tx, .int .i64 0, .int .i64 tp, .slice none 0 0] 41)) P (base := A.heap.size) (by simp; omega))
    have HVT := Lib.hid hvt
    have HVL := Lib.hid (fun y hy => (hvl y hy).below hb1)
    have hlt1 := h1.lt
    clear hvt hvl hb1 h1
    go_wp2_with (at_builtin; refine wpList_append_own_at _ rfl _ _ 39 rfl A.heap.size 41 i0 (.agg #[.int .i64 0, .string ⟨#[]⟩, .int .i64 0, .int .i64 0, .slice none 0 0]) 5 64 Tryd.underlying39 hti hz0 hz1 hz2 rfl (by decide) _ ws.length _ rfl (hown.alloc _) ⟨w1.heap.size, 0, none⟩ 1 1 [.int .i64 5, .string tx, .int .i64 0, .int .i64 tp, .slice none 0 0] rfl rfl ?c1 ?c2 ?c3 ?c4 ?c5 ?_)
    case c1 => exact new_rowR _ _ rfl _ _ _ _ _ _
    case c2 => exact rv_one ⟨.mk 5 tx 0 tp [], none, 0⟩
    case c3 => unfold maxLen; omega
    case c4 => omega
    case c5 => simp; omega
    intro v' w3 hown' hgrow _ hat
    obtain ⟨a3, c3, rfl⟩ := own_slice hown'
    have hN := H1.out.words (news := [⟨.mk 5 tx 0 tp [], none, 0⟩]) HVT.out HVL.out (fun y hy => by rw [List.mem_singleton.1 hy]; exact HNL.out _) rfl hown' hgrow (by simpa using hat)
    obtain ⟨p0, p1, p2, p3, pf0, pf1, pf2, pf3⟩ := H1.out.argGrown (fun k e => .inl e) hgrow
    simp only [List.map_cons, List.map_nil] at hN
    have HN := Lib.hid hN
    clear hN hown' hgrow hat k0 k1 k2 k3 k4 k5 k6 k7 k8 k9 k10 k11 k12 k13
    obtain ⟨w4, hw4⟩ : ∃ w4, w3.setCell ⟨w.heap.size, 2, none⟩ (.slice a3 (ws.length + 1) c3) = w4 := ⟨_, rfl⟩
    rw [hw4] at HN
    have WK2 := Lib.hid (fun (W : World) (h : OneSt A R Z w 41 w.heap.size ⟨key, spot, ws ++ [.mk 5 tx 0 tp []], ts⟩ ⟨tk, tx, tn, tp⟩ (.slice a3 (ws.length + 1) c3) (.slice at_ ts.length ct) W) => (WK.out W).mono fun e w' hh => (show e = .returned (.bool true) ∧ OneSt A R Z w 41 w.heap.size ⟨key, spot, ws ++ [.mk 5 tx 0 tp []], ts⟩ ⟨tk, tx, tn, tp⟩ (.slice a3 (ws.length + 1) c3) (.slice at_ ts.length ct) w' from ⟨hh.1, h.below hh.2⟩))
    have h1d := HN.out.below (Below.refl _ _).drew
    go_wp2_with fail
    (try rw [hw4])
    (try go_wp2_with fail)
    go_region_held3 (fun W => OneSt A R Z w 41 w.heap.size ⟨key, spot, ws ++ [.mk 5 tx 0 tp []], ts⟩ ⟨tk, tx, tn, tp⟩ (.slice a3 (ws.length + 1) c3) (.slice at_ ts.length ct) W ∧
      W.cell? ⟨w.heap.size, 0, none⟩ = some (.string key) ∧ W.cell? ⟨w.heap.size, 1, none⟩ = some (.int .i64 spot) ∧ W.cell? ⟨w.heap.size, 2, none⟩ = some (.slice a3 (ws.length + 1) c3) ∧ W.cell? ⟨w.heap.size, 3, none⟩ = some (.slice at_ ts.length ct) ∧
      W.cell? ⟨w.heap.size + 1 + 1, 0, none⟩ = some (.int .i64 tk) ∧ W.cell? ⟨w.heap.size + 1 + 1, 1, none⟩ = some (.string tx) ∧ W.cell? ⟨w.heap.size + 1 + 1, 2, none⟩ = some (.int .i64 tn) ∧ W.cell? ⟨w.heap.size + 1 + 1, 3, none⟩ = some (.int .i64 tp) ∧
      W.frozen? ⟨w.heap.size + 1, 0, none⟩ = false ∧ W.frozen? ⟨w.heap.size + 1, 1, none⟩ = false ∧ W.frozen? ⟨w.heap.size + 1, 2, none⟩ = false ∧ W.frozen? ⟨w.heap.size + 1, 3, none⟩ = false ∧ W.frozen? ⟨w.heap.size, 2, none⟩ = false ∧ W.frozen? ⟨w.heap.size, 3, none⟩ = false)
      (first
        | exact KEEPS.out _ _ _ (by assumption)
        | exact KEEPS.out _ _ _ (FILLS.out _ _ _ _ _ _ _ (by assumption)))
      ((first
        | (go_at_call 21; refine (WK2.out _ (by assumption)).mono ?_; rintro e w' ⟨rfl, hn⟩; obtain ⟨y0, y1, y2, y3, ⟨q0, q1, q2, q3, _, _, _, _⟩⟩ := hn.res)
        | (go_at_call 40; refine (ST2.out _).mono ?_; rintro e w' ⟨rfl, rfl⟩)))
    have HE := Lib.hid (FILL.out _ _ _ hn)
    go_wp2_with fail
    obtain ⟨hbel, ⟨r0, r1, r2, r3, rf0, rf1, rf2, rf3⟩, hrw, hkp, hri⟩ := HE.out
    refine bodyPost_ret (v := .tuple #[.agg #[.string key, .int .i64 spot, .slice a3 (ws.length + 1) c3, .slice at_ ts.length ct], .int .i64 ((i : Int) + 1), .bool true]) (by simp [results, Tryd.results23, go_sem, r0, r1, r2, r3]) rfl ?_
    unfold OnePost
    rw [HOP.out]
    exact ⟨_, _, rfl, hrw, hbel, hkp, hri, Nat.le_of_lt (Nat.lt_of_succ_lt (lt_of_cellR r0))⟩
end Go.Proofs.YtldgbdmiebipnaaDoor
