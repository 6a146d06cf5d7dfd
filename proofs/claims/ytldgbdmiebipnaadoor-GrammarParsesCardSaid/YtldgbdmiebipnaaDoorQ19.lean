/-
  The program's grammar: lone: the term that all tokens are.
  The program's grammar: read, of one term: the tree, or the fault, which is recovered.
  The program's grammar: Parse and Term.
  What a text has are trees with arguments at functions alone; and what the program's grammar answers: its parse, its terms, its Plain.
  GrammarParses holds for package grammar as it landed.
  The term that a text is, by the reference of layer 11: Whole.
  What a call leaves that makes a term. No function of the program.
  Terms that are made: Of of the reference of layer 3.
-/
import Derived.Test.YtldgbdmiebipnaaDoorQ13
import Derived.Test.YtldgbdmiebipnaaDoorQ18
import Derived.Test.YtldgbdmiebipnaaDoorQ06
import Derived.Test.YtldgbdmiebipnaaDoorQ14
import Derived.Test.YtldgbdmiebipnaaDoorQ15
import Derived.Test.YtldgbdmiebipnaaDoorQ11
import Derived.Test.YtldgbdmiebipnaaDoorQ10
import Derived.Test.YtldgbdmiebipnaaDoorQ02
namespace Go.Proofs.YtldgbdmiebipnaaDoor
open Go.RowKit

section
variable {g b o c : Nat} {L : List Tok}
/-- What a call of lone leaves. -/
def LonePost (g : Nat) (L : List Tok) (w : World) (e : Ending) (w' : World) : Prop :=
  ((termP L 0 0).2.2 = true ∧ (tkD L (termP L 0 0).2.1).kind = 0 ∧ ∃ y : Rv, e = .returned y.val ∧ y.t = (termP L 0 0).1 ∧ MadeR w w' y ∧ w.grownBy w' (some g)) ∨
  (((termP L 0 0).2.2 = false ∨ (tkD L (termP L 0 0).2.1).kind ≠ 0) ∧ e = diesAt L (termP L 0 0).2.1 ∧ w.grownBy w' (some g))

set_option maxRecDepth 100000 in
set_option maxHeartbeats 4000000 in
theorem lone_any (hF : Fine L) (W : World) (h : Rdr W g b o c L 0 0) :
    Calls Tryd.prog 25 #[.pointer (some ⟨g, 0, none⟩)] W (LonePost g L W) := by
  have hg := h.glt
  have hgne : W.heap.size ≠ g := by omega
  have OK := Lib.hid (fun (y : Rv) (w' : World) (h1 : (termP L 0 0).2.2 = true) (h2 : (tkD L (termP L 0 0).2.1).kind = 0) (h3 : y.t = (termP L 0 0).1) (h4 : MadeR W w' y) (h5 : W.grownBy w' (some g)) => (show LonePost g L W (.returned y.val) w' from .inl ⟨h1, h2, y, rfl, h3, h4, h5⟩))
  have BAD := Lib.hid (fun (e : Ending) (w' : World) (h1 : (termP L 0 0).2.2 = false ∨ (tkD L (termP L 0 0).2.1).kind ≠ 0) (h2 : e = diesAt L (termP L 0 0).2.1) (h3 : W.grownBy w' (some g)) => (show LonePost g L W e w' from .inr ⟨h1, h2, h3⟩))
  have hB0 : Below W.heap.size W (W.alloc (.cells #[.int .i64 0, .string ⟨#[]⟩, .int .i64 0, .int .i64 0, .slice none 0 0] 36)) := (Below.refl _ _).alloc (Nat.le_refl _) _
  have hr0 := h.below hB0
  have BX := box5_new W (.int .i64 0) (.string ⟨#[]⟩) (.int .i64 0) (.int .i64 0) (.slice none 0 0) 36
  have hz0 : (W.alloc (.cells #[.int .i64 0, .string ⟨#[]⟩, .int .i64 0, .int .i64 0, .slice none 0 0] 36)).heap.size = W.heap.size + 1 := by simp
  obtain ⟨w0, hw0⟩ : ∃ w0, W.alloc (.cells #[.int .i64 0, .string ⟨#[]⟩, .int .i64 0, .int .i64 0, .slice none 0 0] 36) = w0 := ⟨_, rfl⟩
  rw [hw0] at hB0 hr0 BX hz0
  replace hw0 := Lib.hid hw0
  have T := Lib.hid (term_any hF 0 0 (by decide) w0 hr0)
  have HB0 := Lib.hid (only_below hB0 (some g))
  have HBX := Lib.hid BX
  have F := Lib.hid (fun (V : World) (j : Nat) (hv : Rdr V g b o c L j 0) => fail_any V hv)
  clear h hB0 hr0 BX
  go_enter Tryd.func25, Tryd.ntmps25
  go_wp2_with fail
  rw [hw0.out]
  refine T.out.mono ?_; rintro e w1 (⟨hok, y, rfl, hyt, hm, hr1, ho1⟩ | ⟨hok, hd, ho1⟩)
  case inr =>
    have HB := Lib.hid (BAD.out e w1 (.inl hok) hd (only_trans HB0.out ho1))
    unfold diesAt at hd
    subst hd
    clear ho1
    go_wp2_with fail
    exact ⟨rfl, HB.out⟩
  case inl =>
    obtain ⟨⟨kd, s, nn, pp, xs⟩, ya, yc⟩ := y
    have hs1 := ho1.size
    have hB2 : Below w1.heap.size w1 (w1.alloc (.cells #[.int .i64 kd, .string s, .int .i64 nn, .int .i64 pp, .slice ya xs.length yc] 36)) := (Below.refl _ _).alloc (Nat.le_refl _) _
    have HX2 := Lib.hid ((HBX.out.only ho1 hgne).below hB2 (by omega))
    have HO2 := Lib.hid (only_next (only_trans HB0.out ho1) hB2)
    have HR2 := Lib.hid (hr1.below hB2)
    have HY2 := Lib.hid (box5_new w1 (.int .i64 kd) (.string s) (.int .i64 nn) (.int .i64 pp) (.slice ya xs.length yc) 36)
    have HM := Lib.hid hm
    have HYT := Lib.hid hyt
    have HOK := Lib.hid hok
    obtain ⟨j, hj⟩ : ∃ j, (termP L 0 0).2.1 = j := ⟨_, rfl⟩
    rw [hj] at HR2 OK BAD
    have h0 := HR2.out.c0
    have hjl := HR2.out.here
    obtain ⟨t0, t1, t2, t3⟩ := HR2.out.toks j hjl
    have HTI := Lib.hid (tkD_at hjl)
    obtain ⟨tk, htk⟩ : ∃ tk, L[j].kind = tk := ⟨_, rfl⟩
    rw [htk] at t0
    have HTK := Lib.hid (show (tkD L j).kind = tk by rw [HTI.out, htk])
    obtain ⟨n, hn⟩ : ∃ n, L.length - j = n := ⟨_, rfl⟩
    obtain ⟨q, hq⟩ : ∃ q, c - j = q := ⟨_, rfl⟩
    obtain ⟨a, ha⟩ : ∃ a, o + j * 4 = a := ⟨_, rfl⟩
    have hn0 : (0 : Int) < (n : Int) := by omega
    rw [hn, hq, ha] at h0
    rw [ha] at t0 t1 t2 t3
    have hgw := hr1.glt
    have hzw : (w1.alloc (.cells #[.int .i64 kd, .string s, .int .i64 nn, .int .i64 pp, .slice ya xs.length yc] 36)).heap.size = w1.heap.size + 1 := by simp
    unfold Rv.val
    simp only [Tr.kind, Tr.text, Tr.n, Tr.spot, Tr.args]
    obtain ⟨w2, hw2⟩ : ∃ w2, w1.alloc (.cells #[.int .i64 kd, .string s, .int .i64 nn, .int .i64 pp, .slice ya xs.length yc] 36) = w2 := ⟨_, rfl⟩
    rw [hw2] at h0 t0 t1 t2 t3 HX2 HO2 HR2 HY2 hB2 hzw
    obtain ⟨y0, y1, y2, y3, y4, _, _, _, _, _⟩ := HY2.out
    obtain ⟨r0, r1, r2, r3, r4, rf0, rf1, rf2, rf3, rf4⟩ := HX2.out
    have HB2 := Lib.hid hB2
    have HMK := Lib.hid ((hm.wide (u := W) (W := sets5 w2 W.heap.size (.int .i64 kd) (.string s) (.int .i64 nn) (.int .i64 pp) (.slice ya xs.length yc)) (by omega) (by simp; omega) (fun k k1 k2 => by rw [sets5_heap _ _ _ _ _ _ _ k (by omega)]; exact hB2.block k k2)))
    have HX3 := Lib.hid (HX2.out.sets (.int .i64 kd) (.string s) (.int .i64 nn) (.int .i64 pp) (.slice ya xs.length yc))
    have HO3 := Lib.hid (only_sets5 HO2.out (Nat.le_refl _) (.int .i64 kd) (.string s) (.int .i64 nn) (.int .i64 pp) (.slice ya xs.length yc))
    have F2 := F.out w2 j HR2.out
    unfold diesAt at F2
    replace F2 := Lib.hid F2
    clear hok hyt hm hr1 ho1 hj htk hn hq ha hB2
    cases hz : (tk == 0) with
    | true =>
      have hz' : (tk != 0) = false := by rw [bne, hz]; rfl
      have HE := Lib.hid (OK.out ⟨.mk kd s nn pp xs, ya, yc⟩ _ HOK.out (by rw [HTK.out]; simpa using hz) HYT.out HMK.out HO3.out)
      clear hz
      go_wp2_with fail
      (try rw [hw2])
      (try go_wp2_with fail)
      obtain ⟨r0, r1, r2, r3, r4, _, _, _, _, _⟩ := HX3.out
      refine bodyPost_ret (v := .agg #[.int .i64 kd, .string s, .int .i64 nn, .int .i64 pp, .slice ya xs.length yc]) (by simp [results, Tryd.results25, go_sem, r0, r1, r2, r3, r4]) rfl ?_
      exact HE.out
    | false =>
      have hz' : (tk != 0) = true := by rw [bne, hz]; rfl
      have HE := Lib.hid (BAD.out _ w2 (.inr (by rw [HTK.out]; simpa using hz)) rfl HO2.out)
      unfold diesAt at HE
      clear hz
      go_wp2_with fail
      (try rw [hw2])
      (try go_wp2_with fail)
      refine F2.out.mono ?_; rintro e w3 ⟨rfl, rfl⟩
      go_wp2_with fail
      exact ⟨rfl, HE.out⟩
end
end Go.Proofs.YtldgbdmiebipnaaDoor

namespace Go.Proofs.YtldgbdmiebipnaaDoor
open Go.RowKit

/-- What a call of read leaves, of a term. -/
def ReadTPost (s : ByteArray) (w : World) (e : Ending) (w' : World) : Prop :=
  ∃ y : Rv, e = .returned (.tuple #[y.val, .agg #[.int .i64 (wholeS s).1, .int .i64 (wholeS s).2.1]]) ∧ y.t = (wholeS s).2.2 ∧ MadeR w w' y ∧ Below w.heap.size w w'
theorem zero_made (w w' : World) : MadeR w w' ⟨zeroR, none, 0⟩ := rv_plain ⟨by decide, by decide, by decide, by decide, by decide, by decide, by decide⟩ w w'
theorem sets5_self {w : World} {x : Nat} {x0 x1 x2 x3 x4 : Value} (h : Box5 w x x0 x1 x2 x3 x4) : sets5 w x x0 x1 x2 x3 x4 = w := by
  unfold sets5
  rw [setCell_self h.c0, setCell_self h.c1, setCell_self h.c2, setCell_self h.c3, setCell_self h.c4]
theorem Pair.off {w : World} {g x : Nat} {x0 x1 : Value} (h : Pair w g x0 x1) (hx : g ≠ x) (y0 y1 y2 y3 y4 : Value) : Pair (sets5 w x y0 y1 y2 y3 y4) g x0 x1 := h.keeps (sets5_heap _ _ _ _ _ _ _ g hx)

set_option maxRecDepth 100000 in
set_option maxHeartbeats 4000000 in
theorem readT_any (s : ByteArray) (hs : s.size ≤ 9000) (w : World) (hT : Tabs w) :
    Calls Tryd.prog 24 #[.string s, .func (.func 25) #[] #[]] w (ReadTPost s w) := by
  have hmf : ∀ (fn : Fn) (first cap : Array Value) (w : World), (Instr.makeFunc fn first cap).run Tryd.prog w = .ok (.func fn first cap) w := fun _ _ _ _ => rfl
  have hB0 : Below w.heap.size w ((w.alloc (.cells #[.int .i64 0, .string ⟨#[]⟩, .int .i64 0, .int .i64 0, .slice none 0 0] 36)).alloc (.cells #[.int .i64 0, .int .i64 0] 26)) := ((Below.refl _ _).alloc (Nat.le_refl _) _).alloc (by simp) _
  have hz0 : ((w.alloc (.cells #[.int .i64 0, .string ⟨#[]⟩, .int .i64 0, .int .i64 0, .slice none 0 0] 36)).alloc (.cells #[.int .i64 0, .int .i64 0] 26)).heap.size = w.heap.size + 2 := by simp
  have hp := pair_new (w.alloc (.cells #[.int .i64 0, .string ⟨#[]⟩, .int .i64 0, .int .i64 0, .slice none 0 0] 36)) (.int .i64 0) (.int .i64 0) 26
  rw [show (w.alloc (.cells #[.int .i64 0, .string ⟨#[]⟩, .int .i64 0, .int .i64 0, .slice none 0 0] 36)).heap.size = w.heap.size + 1 from by simp] at hp
  have hb5 := (box5_new w (.int .i64 0) (.string ⟨#[]⟩) (.int .i64 0) (.int .i64 0) (.slice none 0 0) 36).below ((Below.refl _ _).alloc (Nat.le_refl _) (.cells #[.int .i64 0, .int .i64 0] 26)) (by simp)
  obtain ⟨w0, hw0⟩ : ∃ w0, (w.alloc (.cells #[.int .i64 0, .string ⟨#[]⟩, .int .i64 0, .int .i64 0, .slice none 0 0] 36)).alloc (.cells #[.int .i64 0, .int .i64 0] 26) = w0 := ⟨_, rfl⟩
  rw [hw0] at hB0 hz0 hp hb5
  replace hw0 := Lib.hid hw0
  have SC := lscanC_any s (by omega) w0 (hT.below hB0)
  unfold ScanPostC at SC
  have HP := Lib.hid hp
  have HB0 := Lib.hid hB0
  have H5 := Lib.hid hb5
  clear hp hB0 hb5
  by_cases h0 : outErr s = 0
  · obtain ⟨h8, ts, hts⟩ := scan_of h0
    obtain ⟨o1, o2, o3⟩ := out_good h8 hts
    rw [o1, o2, o3] at SC
    replace SC := Lib.hid SC
    have HPS := Lib.hid (show wholeS s = if (termP ts 0 0).2.2 = false ∨ (tkD ts (termP ts 0 0).2.1).kind ≠ 0 then (2, (tkD ts (termP ts 0 0).2.1).place, zeroR) else (0, 0, (termP ts 0 0).1) by unfold wholeS; rw [if_neg (by rw [h0]; decide), o1])
    have hF := fine_of h8 hts
    have hpos := (textToks_of hts).pos
    have HF := Lib.hid hF
    clear h0 o1 o2 o3 hts hF
    go_enter_defers Tryd.func24, Tryd.ntmps24
    go_wp2_with fail
    rw [hw0.out]
    refine SC.out.mono ?_; rintro e w1 ⟨v, rfl, ⟨hv, a, c, rfl, hcap⟩, hb1⟩
    obtain ⟨p0, p1, pf0, pf1⟩ := HP.out.below hb1 (by omega)
    have HS0 := Lib.hid (setCell_self p0)
    have HS1 := Lib.hid (setCell_self p1)
    obtain ⟨a', c', hvv, _, hv⟩ := hv
    cases hvv
    rcases hv with hv | ⟨b, o, rfl, hlt, hc⟩
    · subst hv; exact absurd hpos (by decide)
    have FI := Lib.hid (lone_any HF.out _ (rdr_new hlt hcap hpos hc))
    have hs1 := hb1.size
    have hB1 : Below w.heap.size w (w1.alloc (.cells #[.slice (some ⟨b, o, none⟩) ts.length c, .int .i64 0] 89)) := (HB0.out.trans (hb1.mono HB0.out.size)).alloc (by omega) _
    have hPa := (HP.out.below hb1 (by omega)).below ((Below.refl w1.heap.size w1).alloc (Nat.le_refl _) (.cells #[.slice (some ⟨b, o, none⟩) ts.length c, .int .i64 0] 89)) (by omega)
    have hX := (H5.out.below hb1 (by omega)).below ((Below.refl w1.heap.size w1).alloc (Nat.le_refl _) (.cells #[.slice (some ⟨b, o, none⟩) ts.length c, .int .i64 0] 89)) (by omega)
    have HB1 := Lib.hid hB1
    have HPA := Lib.hid hPa
    have HXA := Lib.hid hX
    have hNg : w.heap.size + 1 < w1.heap.size := by omega
    clear hB1 hPa hX hc
    go_wp2_with fail
    rw [HS0.out, HS1.out]
    refine FI.out.mono ?_
    rintro e w3 (⟨hok, hkd, y, rfl, hyt, hm, ho⟩ | ⟨hbad, hd, ho⟩)
    case inl =>
      have hx : wholeS s = (0, 0, (termP ts 0 0).1) := by rw [HPS.out, if_neg (by rw [not_or]; exact ⟨by rw [hok]; decide, by rw [hkd]; decide⟩)]
      rw [← hyt] at hx
      obtain ⟨⟨kd, tx, nn, pp, xs⟩, ya, yc⟩ := y
      have hP3 := HPA.out.keeps (ho.block (w.heap.size + 1) (by simp; omega) (fun e => by injection e with e; omega))
      have hX3 := HXA.out.only ho (by omega)
      have hB3 := HB1.out.trans (only_under ho (by omega) (by simp; omega))
      have hsz := ho.size
      have HB3 := Lib.hid (below_sets5 hB3 (Nat.le_refl _) (.int .i64 kd) (.string tx) (.int .i64 nn) (.int .i64 pp) (.slice ya xs.length yc))
      have HMK := Lib.hid (hm.wide (u := w) (W := sets5 w3 w.heap.size (.int .i64 kd) (.string tx) (.int .i64 nn) (.int .i64 pp) (.slice ya xs.length yc)) (by simp; omega) (by simp) (fun k k1 k2 => sets5_heap _ _ _ _ _ _ _ k (by simp at k1; omega)))
      have hP4 := hP3.off (by omega) (.int .i64 kd) (.string tx) (.int .i64 nn) (.int .i64 pp) (.slice ya xs.length yc) (x := w.heap.size)
      have HX4 := Lib.hid (hX3.sets (.int .i64 kd) (.string tx) (.int .i64 nn) (.int .i64 pp) (.slice ya xs.length yc))
      have HP4 := Lib.hid hP4
      have HS2 := Lib.hid (setCell_self hP4.c0)
      have HS3 := Lib.hid (setCell_self hP4.c1)
      have HX := Lib.hid hx
      obtain ⟨q0, q1, qf0, qf1⟩ := hP3
      obtain ⟨x0, x1, x2, x3, x4, xf0, xf1, xf2, xf3, xf4⟩ := hX3
      have hne : w.heap.size ≠ w.heap.size + 1 := by omega
      have hne2 : w.heap.size + 1 ≠ w.heap.size := by omega
      unfold Rv.val
      simp only [Tr.kind, Tr.text, Tr.n, Tr.spot, Tr.args]
      clear hx ho hok hkd hm hB3 hP4 hyt
      go_wp2_with fail
      refine leaves_cons (f := 43) (args := #[.pointer (some ⟨w.heap.size + 1, 0, none⟩)]) (by simp) (by simp [go_sem]) ?_
      refine (catchT_idle (w.heap.size + 1) _).mono ?_
      rintro e u' w'' ⟨rfl, rfl, rfl⟩
      have hw : ((sets5 w3 w.heap.size (.int .i64 kd) (.string tx) (.int .i64 nn) (.int .i64 pp) (.slice ya xs.length yc)).setCell ⟨w.heap.size + 1, 0, none⟩ (.int .i64 0)).setCell ⟨w.heap.size + 1, 1, none⟩ (.int .i64 0) = sets5 w3 w.heap.size (.int .i64 kd) (.string tx) (.int .i64 nn) (.int .i64 pp) (.slice ya xs.length yc) := by rw [HS2.out, HS3.out]
      obtain ⟨y0, y1, y2, y3, y4, _, _, _, _, _⟩ := HX4.out
      obtain ⟨z0, z1, _, _⟩ := HP4.out
      rw [hw]
      refine ⟨.tuple #[.agg #[.int .i64 kd, .string tx, .int .i64 nn, .int .i64 pp, .slice ya xs.length yc], .agg #[.int .i64 0, .int .i64 0]], by simp [results, Tryd.results24, go_sem, y0, y1, y2, y3, y4, z0, z1], ?_⟩
      unfold ReadTPost
      rw [HX.out]
      exact ⟨⟨.mk kd tx nn pp xs, ya, yc⟩, rfl, rfl, HMK.out, HB3.out⟩
    case inr =>
      have hx : wholeS s = (2, (tkD ts (termP ts 0 0).2.1).place, zeroR) := by rw [HPS.out, if_pos hbad]
      have hP3 := HPA.out.keeps (ho.block (w.heap.size + 1) (by simp; omega) (fun e => by injection e with e; omega))
      have hX3 := HXA.out.only ho (by omega)
      have HB3 := Lib.hid (HB1.out.trans (only_under ho (by omega) (by simp; omega)))
      have HX := Lib.hid hx
      unfold diesAt fltV at hd
      subst hd
      obtain ⟨tp, htp⟩ : ∃ tp, (tkD ts (termP ts 0 0).2.1).place = tp := ⟨_, rfl⟩
      rw [htp] at HX ⊢
      have hk : ∀ k, k ≠ w.heap.size + 1 → ((w3.setCell ⟨w.heap.size + 1, 0, none⟩ (.int .i64 2)).setCell ⟨w.heap.size + 1, 1, none⟩ (.int .i64 tp)).heap[k]? = w3.heap[k]? := fun k e => by
        rw [Below.heap_setCell _ _ _ _ e, Below.heap_setCell _ _ _ _ e]
      obtain ⟨z0, z1, _, _⟩ := hP3.sets (.int .i64 2) (.int .i64 tp)
      obtain ⟨y0, y1, y2, y3, y4, _, _, _, _, _⟩ := hX3.same (hk w.heap.size (by omega))
      obtain ⟨q0, q1, qf0, qf1⟩ := hP3
      clear hx ho hbad htp
      refine leaves_cons (f := 43) (args := #[.pointer (some ⟨w.heap.size + 1, 0, none⟩)]) (by simp) (by simp [go_sem]) ?_
      refine (catchT_panics (w.heap.size + 1) _ _ tp [] w3 q0 q1 qf0 qf1).mono ?_
      rintro e u' w'' ⟨rfl, rfl, rfl⟩
      show Leaves _ _ _ _ _ (settle (.panicking [_])) _
      refine ⟨.tuple #[.agg #[.int .i64 0, .string ⟨#[]⟩, .int .i64 0, .int .i64 0, .slice none 0 0], .agg #[.int .i64 2, .int .i64 tp]], by simp [results, Tryd.results24, go_sem, y0, y1, y2, y3, y4, z0, z1], ?_⟩
      unfold ReadTPost
      rw [HX.out]
      exact ⟨⟨zeroR, none, 0⟩, rfl, rfl, zero_made _ _, below_sets2 HB3.out (Nat.le_succ _) _ _⟩
  · have HX := Lib.hid (show wholeS s = (outErr s, outAt s, zeroR) by unfold wholeS; rw [if_pos h0])
    obtain ⟨er, her⟩ : ∃ er, outErr s = er := ⟨_, rfl⟩
    obtain ⟨ea, hea⟩ : ∃ ea, outAt s = ea := ⟨_, rfl⟩
    rw [her, hea] at SC HX
    rw [her] at h0
    have hn : (er != 0) = true := by simpa using h0
    replace SC := Lib.hid SC
    clear her hea h0
    go_enter_defers Tryd.func24, Tryd.ntmps24
    go_wp2_with fail
    rw [hw0.out]
    refine SC.out.mono ?_; rintro e w1 ⟨v, rfl, ⟨hv, a, c, rfl, hcap⟩, hb1⟩
    have hP1 := HP.out.below hb1 (by omega)
    have hX1 := H5.out.below hb1 (by omega)
    have hk : ∀ k, k ≠ w.heap.size + 1 → ((w1.setCell ⟨w.heap.size + 1, 0, none⟩ (.int .i64 er)).setCell ⟨w.heap.size + 1, 1, none⟩ (.int .i64 ea)).heap[k]? = w1.heap[k]? := fun k e => by
      rw [Below.heap_setCell _ _ _ _ e, Below.heap_setCell _ _ _ _ e]
    have hP2 := hP1.sets (.int .i64 er) (.int .i64 ea)
    have hX2 := hX1.same (hk w.heap.size (by omega))
    have hB2 := below_sets2 (HB0.out.trans (hb1.mono HB0.out.size)) (Nat.le_succ w.heap.size) (.int .i64 er) (.int .i64 ea)
    obtain ⟨p0, p1, pf0, pf1⟩ := hP1
    obtain ⟨w2, hw2⟩ : ∃ w2, (w1.setCell ⟨w.heap.size + 1, 0, none⟩ (.int .i64 er)).setCell ⟨w.heap.size + 1, 1, none⟩ (.int .i64 ea) = w2 := ⟨_, rfl⟩
    rw [hw2] at hP2 hX2 hB2
    have HB2 := Lib.hid hB2
    have HP2 := Lib.hid hP2
    have HX2 := Lib.hid hX2
    have hne : w.heap.size ≠ w.heap.size + 1 := by omega
    have hne2 : w.heap.size + 1 ≠ w.heap.size := by omega
    clear hb1 hv hk hB2
    obtain ⟨x0, x1, x2, x3, x4, xf0, xf1, xf2, xf3, xf4⟩ := hX2
    obtain ⟨q0, q1, qf0, qf1⟩ := hP2
    go_wp2_with fail
    (try rw [hw2])
    (try go_wp2_with fail)
    go_region
    go_wp2_with fail
    have hw : ((sets5 w2 w.heap.size (.int .i64 0) (.string ⟨#[]⟩) (.int .i64 0) (.int .i64 0) (.slice none 0 0)).setCell ⟨w.heap.size + 1, 0, none⟩ (.int .i64 er)).setCell ⟨w.heap.size + 1, 1, none⟩ (.int .i64 ea) = w2 := by
      rw [sets5_self HX2.out, setCell_self HP2.out.c0, setCell_self HP2.out.c1]
    show Leaves _ _ _ _ _ _ (World.drew (((sets5 w2 w.heap.size (.int .i64 0) (.string ⟨#[]⟩) (.int .i64 0) (.int .i64 0) (.slice none 0 0)).setCell ⟨w.heap.size + 1, 0, none⟩ (.int .i64 er)).setCell ⟨w.heap.size + 1, 1, none⟩ (.int .i64 ea)))
    rw [hw]
    refine ⟨.tuple #[.agg #[.int .i64 0, .string ⟨#[]⟩, .int .i64 0, .int .i64 0, .slice none 0 0], .agg #[.int .i64 er, .int .i64 ea]], by simp [results, Tryd.results24, go_sem, x0, x1, x2, x3, x4, q0, q1], ?_⟩
    unfold ReadTPost
    rw [HX.out]
    exact ⟨⟨zeroR, none, 0⟩, rfl, rfl, zero_made _ _, below_drewN HB2.out 1⟩
end Go.Proofs.YtldgbdmiebipnaaDoor

namespace Go.Proofs.YtldgbdmiebipnaaDoor
open Go.RowKit

set_option maxRecDepth 100000 in
set_option maxHeartbeats 4000000 in
theorem pparse_any (s : ByteArray) (hs : s.size ≤ 9000) (w : World) (hT : Tabs w) :
    Calls Tryd.prog 7 #[.string s] w fun e w' => ∃ v, e = .returned (.tuple #[v, .agg #[.int .i64 (parseS s).1, .int .i64 (parseS s).2.1]]) ∧ Its w' v (parseS s).2.2 ∧ Below w.heap.size w w' := by
  have hB0 : Below w.heap.size w (w.alloc (.cells #[.int .i64 0, .int .i64 0] 26)) := (Below.refl _ _).alloc (Nat.le_refl _) _
  have hz0 : (w.alloc (.cells #[.int .i64 0, .int .i64 0] 26)).heap.size = w.heap.size + 1 := by simp
  have hp := pair_new w (.int .i64 0) (.int .i64 0) 26
  have RD := readI_any s hs _ (hT.below hB0)
  unfold ReadIPost at RD
  obtain ⟨⟨e0, e1, xs⟩, hx⟩ : ∃ x, parseS s = x := ⟨_, rfl⟩
  rw [hx] at RD ⊢
  simp only at RD ⊢
  obtain ⟨w0, hw0⟩ : ∃ w0, w.alloc (.cells #[.int .i64 0, .int .i64 0] 26) = w0 := ⟨_, rfl⟩
  rw [hw0] at hB0 hz0 hp RD
  replace hw0 := Lib.hid hw0
  replace RD := Lib.hid RD
  have HB0 := Lib.hid hB0
  clear hx hB0
  go_enter Tryd.func7, Tryd.ntmps7
  go_wp2_with fail
  rw [hw0.out]
  refine RD.out.mono ?_; rintro e w1 ⟨v, rfl, hm, hb1⟩
  have hP := hp.below hb1 (by omega)
  have HP2 := Lib.hid (hP.sets (.int .i64 e0) (.int .i64 e1))
  have HB2 := Lib.hid (below_sets2 (HB0.out.trans (hb1.mono HB0.out.size)) (Nat.le_refl _) (.int .i64 e0) (.int .i64 e1))
  have HM := Lib.hid (hm ((w1.setCell ⟨w.heap.size, 0, none⟩ (.int .i64 e0)).setCell ⟨w.heap.size, 1, none⟩ (.int .i64 e1)) (by simp) (fun k k1 k2 => by
    rw [Below.heap_setCell _ _ _ _ (by show k ≠ w.heap.size; omega), Below.heap_setCell _ _ _ _ (by show k ≠ w.heap.size; omega)]))
  obtain ⟨av, cv, rfl, _, _⟩ := hm.its
  obtain ⟨p0, p1, pf0, pf1⟩ := hP
  clear hp hm hb1
  go_wp2_with fail
  obtain ⟨r0, r1, _, _⟩ := HP2.out
  refine bodyPost_ret (v := .tuple #[.slice av xs.length cv, .agg #[.int .i64 e0, .int .i64 e1]]) (by simp [results, Tryd.results7, go_sem, r0, r1]) rfl ?_
  exact ⟨_, rfl, HM.out, HB2.out⟩

set_option maxRecDepth 100000 in
set_option maxHeartbeats 4000000 in
theorem pterm_any (s : ByteArray) (hs : s.size ≤ 9000) (w : World) (hT : Tabs w) :
    Calls Tryd.prog 10 #[.string s] w fun e w' => ∃ y : Rv, e = .returned (.tuple #[y.val, .agg #[.int .i64 (wholeS s).1, .int .i64 (wholeS s).2.1]]) ∧ y.t = (wholeS s).2.2 ∧ y.ok w' ∧ Below w.heap.size w w' := by
  have hB0 : Below w.heap.size w ((w.alloc (.cells #[.int .i64 0, .string ⟨#[]⟩, .int .i64 0, .int .i64 0, .slice none 0 0] 36)).alloc (.cells #[.int .i64 0, .int .i64 0] 26)) := ((Below.refl _ _).alloc (Nat.le_refl _) _).alloc (by simp) _
  have hz0 : ((w.alloc (.cells #[.int .i64 0, .string ⟨#[]⟩, .int .i64 0, .int .i64 0, .slice none 0 0] 36)).alloc (.cells #[.int .i64 0, .int .i64 0] 26)).heap.size = w.heap.size + 2 := by simp
  have hp := pair_new (w.alloc (.cells #[.int .i64 0, .string ⟨#[]⟩, .int .i64 0, .int .i64 0, .slice none 0 0] 36)) (.int .i64 0) (.int .i64 0) 26
  rw [show (w.alloc (.cells #[.int .i64 0, .string ⟨#[]⟩, .int .i64 0, .int .i64 0, .slice none 0 0] 36)).heap.size = w.heap.size + 1 from by simp] at hp
  have hb5 := (box5_new w (.int .i64 0) (.string ⟨#[]⟩) (.int .i64 0) (.int .i64 0) (.slice none 0 0) 36).below ((Below.refl _ _).alloc (Nat.le_refl _) (.cells #[.int .i64 0, .int .i64 0] 26)) (by simp)
  have RD := readT_any s hs _ (hT.below hB0)
  unfold ReadTPost at RD
  obtain ⟨⟨e0, e1, t⟩, hx⟩ : ∃ x, wholeS s = x := ⟨_, rfl⟩
  rw [hx] at RD ⊢
  simp only at RD ⊢
  obtain ⟨w0, hw0⟩ : ∃ w0, (w.alloc (.cells #[.int .i64 0, .string ⟨#[]⟩, .int .i64 0, .int .i64 0, .slice none 0 0] 36)).alloc (.cells #[.int .i64 0, .int .i64 0] 26) = w0 := ⟨_, rfl⟩
  rw [hw0] at hB0 hz0 hp hb5 RD
  replace hw0 := Lib.hid hw0
  replace RD := Lib.hid RD
  have HB0 := Lib.hid hB0
  clear hx hB0
  go_enter Tryd.func10, Tryd.ntmps10
  go_wp2_with fail
  rw [hw0.out]
  refine RD.out.mono ?_; rintro e w1 ⟨⟨⟨kd, tx, nn, pp, xs⟩, ya, yc⟩, rfl, hyt, hm, hb1⟩
  cases hyt
  unfold Rv.val
  simp only [Tr.kind, Tr.text, Tr.n, Tr.spot, Tr.args]
  have hs1 := hb1.size
  have hP := hp.below hb1 (by omega)
  have hX := hb5.below hb1 (by omega)
  have hP2 := hP.off (x := w.heap.size) (by omega) (.int .i64 kd) (.string tx) (.int .i64 nn) (.int .i64 pp) (.slice ya xs.length yc)
  have HP3 := Lib.hid (hP2.sets (.int .i64 e0) (.int .i64 e1))
  have hk : ∀ k, k ≠ w.heap.size → k ≠ w.heap.size + 1 → (((sets5 w1 w.heap.size (.int .i64 kd) (.string tx) (.int .i64 nn) (.int .i64 pp) (.slice ya xs.length yc)).setCell ⟨w.heap.size + 1, 0, none⟩ (.int .i64 e0)).setCell ⟨w.heap.size + 1, 1, none⟩ (.int .i64 e1)).heap[k]? = w1.heap[k]? := fun k k1 k2 => by
    rw [Below.heap_setCell _ _ _ _ k2, Below.heap_setCell _ _ _ _ k2, sets5_heap _ _ _ _ _ _ _ k k1]
  have HX3 := Lib.hid ((hX.sets (.int .i64 kd) (.string tx) (.int .i64 nn) (.int .i64 pp) (.slice ya xs.length yc)).same (w1 := ((sets5 w1 w.heap.size (.int .i64 kd) (.string tx) (.int .i64 nn) (.int .i64 pp) (.slice ya xs.length yc)).setCell ⟨w.heap.size + 1, 0, none⟩ (.int .i64 e0)).setCell ⟨w.heap.size + 1, 1, none⟩ (.int .i64 e1)) (by
    rw [Below.heap_setCell _ _ _ _ (by show w.heap.size ≠ w.heap.size + 1; omega), Below.heap_setCell _ _ _ _ (by show w.heap.size ≠ w.heap.size + 1; omega)]))
  have HB2 := Lib.hid (below_sets2 (below_sets5 (HB0.out.trans (hb1.mono HB0.out.size)) (Nat.le_refl _) (.int .i64 kd) (.string tx) (.int .i64 nn) (.int .i64 pp) (.slice ya xs.length yc)) (Nat.le_succ w.heap.size) (.int .i64 e0) (.int .i64 e1))
  have HM := Lib.hid (hm (((sets5 w1 w.heap.size (.int .i64 kd) (.string tx) (.int .i64 nn) (.int .i64 pp) (.slice ya xs.length yc)).setCell ⟨w.heap.size + 1, 0, none⟩ (.int .i64 e0)).setCell ⟨w.heap.size + 1, 1, none⟩ (.int .i64 e1)) (by simp) (fun k k1 k2 => hk k (by omega) (by omega)))
  obtain ⟨p0, p1, pf0, pf1⟩ := hP
  obtain ⟨x0, x1, x2, x3, x4, xf0, xf1, xf2, xf3, xf4⟩ := hX
  have hne : w.heap.size ≠ w.heap.size + 1 := by omega
  have hne2 : w.heap.size + 1 ≠ w.heap.size := by omega
  clear hp hm hb1 hk hP2 hb5
  go_wp2_with fail
  obtain ⟨r0, r1, _, _⟩ := HP3.out
  obtain ⟨y0, y1, y2, y3, y4, _, _, _, _, _⟩ := HX3.out
  refine bodyPost_ret (v := .tuple #[.agg #[.int .i64 kd, .string tx, .int .i64 nn, .int .i64 pp, .slice ya xs.length yc], .agg #[.int .i64 e0, .int .i64 e1]]) (by simp [results, Tryd.results10, go_sem, r0, r1, y0, y1, y2, y3, y4]) rfl ?_
  exact ⟨⟨.mk kd tx nn pp xs, ya, yc⟩, rfl, rfl, HM.out, HB2.out⟩
end Go.Proofs.YtldgbdmiebipnaaDoor

namespace Go.Proofs.YtldgbdmiebipnaaDoor
open Go.RowKit

theorem termF_wf : ∀ (f : Nat) (L : List Tok), (∀ i op, WfR (termF f L i op).1) ∧ ∀ i sg op, WfRs (termsF f L i sg op).1
  | 0, L => ⟨fun i op => by rw [termF, WfR, WfRs]; exact ⟨fun _ => rfl, trivial⟩, fun i sg op => by rw [termsF, WfRs]; trivial⟩
  | f + 1, L => by
    obtain ⟨h1, h2⟩ := termF_wf f L
    refine ⟨fun i op => ?_, fun i sg op => ?_⟩
    · rw [termF]
      have := h2 (i + 2) sComma (op + 1)
      repeat' split
      all_goals (simp only []; rw [WfR])
      all_goals first
        | exact ⟨fun _ => rfl, by rw [WfRs]; trivial⟩
        | exact ⟨fun h => absurd rfl h, this⟩
    · rw [termsF]
      have k1 := h1 i op
      have k2 := h2 ((termF f L i op).2.1 + 1) sg op
      repeat' split
      all_goals (simp only []; rw [WfRs])
      all_goals first
        | trivial
        | exact ⟨k1, by rw [WfRs]; trivial⟩
        | exact ⟨k1, k2⟩
theorem wfRs_mem : ∀ {l : List Tr} {t : Tr}, WfRs l → t ∈ l → WfR t
  | u :: r, t, h, ht => by
    rw [WfRs] at h
    rcases List.mem_cons.1 ht with rfl | ht
    · exact h.1
    · exact wfRs_mem h.2 ht
theorem whole_wf (s : ByteArray) : WfR (wholeS s).2.2 := by
  have hz : WfR zeroR := by unfold zeroR; rw [WfR, WfRs]; exact ⟨fun _ => rfl, trivial⟩
  unfold wholeS
  repeat' split
  · exact hz
  · exact hz
  · exact (termF_wf _ _).1 _ _
theorem items_wf (s : ByteArray) : ∀ x ∈ (parseS s).2.2, ∀ t ∈ x.trees, WfR t := by
  by_cases h0 : (parseS s).1 = 0
  · obtain ⟨h8, ts, xs, h1, h2, h3⟩ := parseS_ok h0
    rw [h3]
    simp only
    have h : ∀ x ∈ xs, FitI x ∧ ∀ t ∈ x.trees, WfR t :=
      itemsF_all (Q := WfR) (fun i op => (termF_wf _ _).1 _ _) (fun i sg op t ht => wfRs_mem ((termF_wf _ _).2 _ _ _) ht) _ _ xs h2
    exact fun x hx => (h x hx).2
  · rw [parseS_bad h0]; intro x hx; cases hx

theorem gramA_of (w : World) (hT : Tabs w) : GramA w where
  parse s W hb hs := pparse_any s (by omega) W (hT.below hb)
  term s W hb hs := pterm_any s (by omega) W (hT.below hb)
  plain x W hb hx ht := by
    obtain ⟨s, _, ht⟩ := ht
    refine (pplain_tm 1000000 x W (by rw [ht]; exact whole_small s) (by omega) (by rw [ht]; exact whole_wf s) hx).mono ?_
    rintro e w' ⟨z, h1, h2, h3, h4⟩
    exact ⟨z, h1, h2, h3.ok, h4⟩
end Go.Proofs.YtldgbdmiebipnaaDoor

namespace Go.Proofs.YtldgbdmiebipnaaDoor
open Go.RowKit

theorem lawParses11_any (s : ByteArray) (w : World) (hT : Tabs w) :
    Calls Tryd.prog 3 #[.string s] w fun e w' => e = .returned (.bool true) ∧ Below w.heap.size w w' :=
  lawParses11_of w (gramA_of w hT) s
end Go.Proofs.YtldgbdmiebipnaaDoor

namespace Go.Proofs.YtldgbdmiebipnaaDoor
open Go.RowKit

def WholePost (s : ByteArray) (w : World) (e : Ending) (w' : World) : Prop :=
  ∃ y : Rv, e = .returned (.tuple #[y.val, .int .i64 (wholeS s).1, .int .i64 (wholeS s).2.1]) ∧ y.t = (wholeS s).2.2 ∧ y.ok w' ∧ Below w.heap.size w w'
/-- What is there, stored again, changes no cell. -/
theorem cell_again {W : World} {a : Addr} {v : Value} (h : W.cell? a = some v) (p : Addr) : (W.setCell a v).cell? p = W.cell? p := by
  by_cases e : p = a
  · subst e; rw [World.cell?_setCell_same _ _ _ h, h]
  · exact World.cell?_setCell_other _ _ _ _ (fun q => e (by first | exact q | exact q.symm))
theorem Box5.again {W : World} {g : Nat} {x0 x1 x2 x3 x4 : Value} (h : Box5 W g x0 x1 x2 x3 x4) (p : Addr) : (((((W.setCell ⟨g, 0, none⟩ x0).setCell ⟨g, 1, none⟩ x1).setCell ⟨g, 2, none⟩ x2).setCell ⟨g, 3, none⟩ x3).setCell ⟨g, 4, none⟩ x4).cell? p = W.cell? p := by
  have e0 := fun q => cell_again h.c0 q
  have e1 := fun q => (cell_again ((e0 ⟨g, 1, none⟩).trans h.c1) q).trans (e0 q)
  have e2 := fun q => (cell_again ((e1 ⟨g, 2, none⟩).trans h.c2) q).trans (e1 q)
  have e3 := fun q => (cell_again ((e2 ⟨g, 3, none⟩).trans h.c3) q).trans (e2 q)
  exact (cell_again ((e3 ⟨g, 4, none⟩).trans h.c4) p).trans (e3 p)

set_option maxRecDepth 100000 in
set_option maxHeartbeats 1000000 in
theorem rwhole_any (s : ByteArray) (hs : s.size ≤ 1000000) (w : World) :
    Calls Tryd.prog 11 #[.string s] w (WholePost s w) := by
  have SC := Lib.hid (fun (W : World) => rscan_any s hs W)
  unfold ScanPost at SC
  have br := box5_new w (.int .i64 0) (.string ⟨#[]⟩) (.int .i64 0) (.int .i64 0) (.slice none 0 0) 41
  have hb0 : Below w.heap.size w (w.alloc (.cells #[.int .i64 0, .string ⟨#[]⟩, .int .i64 0, .int .i64 0, .slice none 0 0] 41)) := (Below.refl _ _).alloc (Nat.le_refl _) _
  have hz0 : (w.alloc (.cells #[.int .i64 0, .string ⟨#[]⟩, .int .i64 0, .int .i64 0, .slice none 0 0] 41)).heap.size = w.heap.size + 1 := by simp
  have HBR := Lib.hid (fun (W : World) (h : Below (w.heap.size + 1) (w.alloc (.cells #[.int .i64 0, .string ⟨#[]⟩, .int .i64 0, .int .i64 0, .slice none 0 0] 41)) W) => br.below h (Nat.lt_succ_self _))
  have HB0 := Lib.hid hb0
  by_cases h0 : outErr s = 0
  · obtain ⟨h8, ts, hts⟩ := scan_of h0
    obtain ⟨o1, o2, o3⟩ := out_good h8 hts
    have HW := Lib.hid (show wholeS s = if (termP ts 0 0).2.2 = false ∨ (tkD ts (termP ts 0 0).2.1).kind ≠ 0 then (2, (tkD ts (termP ts 0 0).2.1).place, zeroR) else (0, 0, (termP ts 0 0).1) by unfold wholeS; rw [if_neg (by rw [h0]; decide), o1])
    rw [o1, o2, o3] at SC
    have hT := textToks_of hts
    have hlen := (scanS_small hts).2
    have hE := hT.ended
    have hpos := hT.pos
    have TM := Lib.hid (fun (v : Value) (W : World) (hv : Toks W v ts) => rterm_any v ts hE (tokOk_of h8 hts) (by omega) 0 0 hpos (by decide) W hv)
    unfold TermGPost at TM
    have hn2 := termP_in hE 0 hpos
    obtain ⟨y0, hy0⟩ : ∃ y0, (termP ts 0 0).1 = y0 := ⟨_, rfl⟩
    obtain ⟨n2, hn2e⟩ : ∃ n2, (termP ts 0 0).2.1 = n2 := ⟨_, rfl⟩
    obtain ⟨b2, hb2e⟩ : ∃ b2, (termP ts 0 0).2.2 = b2 := ⟨_, rfl⟩
    rw [hy0, hn2e, hb2e] at TM HW
    rw [hn2e] at hn2
    clear hy0 hn2e hb2e h0 o1 o2 o3 hts hT
    go_enter Tryd.func11, Tryd.ntmps11
    go_wp2_with fail
    refine (SC.out _).mono ?_; rintro e w1 ⟨v, rfl, hv, hb1⟩
    rw [hz0] at hb1
    have hs1 := hb1.size
    rw [hz0] at hs1
    obtain ⟨p0, p1, _, _⟩ := pair_new w1 (.int .i64 0) (.int .i64 0) 26
    have hbf1 : Below w1.heap.size w1 (w1.alloc (.cells #[.int .i64 0, .int .i64 0] 26)) := (Below.refl _ _).alloc (Nat.le_refl _) _
    have hvf := hv.below hbf1
    have HVF := Lib.hid hvf
    have hbf := hb1.trans (hbf1.mono (by omega))
    have HBF := Lib.hid hbf
    obtain ⟨a, c, rfl, hl, hv⟩ := hvf
    rcases hv with hv | ⟨b, off, rfl, hlt, hc⟩
    · subst hv; exact absurd hpos (by decide)
    have HC := Lib.hid (fun (W : World) (h : Below (w1.alloc (.cells #[.int .i64 0, .int .i64 0] 26)).heap.size (w1.alloc (.cells #[.int .i64 0, .int .i64 0] 26)) W) => (hc n2 hn2).below h hlt)
    clear hc hb1 hbf1 hbf
    have hsf : w.heap.size + 1 ≤ (w1.alloc (.cells #[.int .i64 0, .int .i64 0] 26)).heap.size := by simp; omega
    go_wp2_with fail
    obtain ⟨wf, hwf⟩ : ∃ wf, w1.alloc (.cells #[.int .i64 0, .int .i64 0] 26) = wf := ⟨_, rfl⟩
    rw [hwf] at HVF HBF HC hsf
    (try rw [hwf])
    refine (TM.out _ _ HVF.out).mono ?_; rintro e w2 ⟨⟨⟨kd, s', nn, pp, xs⟩, ya, yc⟩, rfl, hyt, hm, hb2⟩
    cases hyt
    unfold Rv.val
    simp only [Tr.kind, Tr.text, Tr.n, Tr.spot, Tr.args]
    clear p0 p1
    have hba : Below w2.heap.size w2 (w2.alloc (.cells #[.int .i64 kd, .string s', .int .i64 nn, .int .i64 pp, .slice ya xs.length yc] 41)) := (Below.refl _ _).alloc (Nat.le_refl _) _
    have hb3 := below_next hb2 hba
    obtain ⟨t0, _, _, t3⟩ := HC.out _ hb3
    have hz := hb2.size
    have HB3 := Lib.hid (HBF.out.trans (hb3.mono hsf))
    have HR := Lib.hid (HBR.out _ HB3.out)
    have hnz : w.heap.size ≠ w2.heap.size := by omega
    have hn2c : (n2 : Int) < (ts.length : Int) := by omega
    have hn20 : (0 : Int) ≤ (n2 : Int) := by omega
    have HY := Lib.hid (box5_new w2 (.int .i64 kd) (.string s') (.int .i64 nn) (.int .i64 pp) (.slice ya xs.length yc) 41)
    obtain ⟨w3, hw3⟩ : ∃ w3, w2.alloc (.cells #[.int .i64 kd, .string s', .int .i64 nn, .int .i64 pp, .slice ya xs.length yc] 41) = w3 := ⟨_, rfl⟩
    rw [hw3] at HB3 HR HY t0 t3 hba hb3
    have HB4 := Lib.hid (HB0.out.trans (HB3.out.mono (Nat.le_succ _)))
    have HRz := Lib.hid (HR.out.sets (.int .i64 0) (.string ⟨#[]⟩) (.int .i64 0) (.int .i64 0) (.slice none 0 0))
    have HRy := Lib.hid (HR.out.sets (.int .i64 kd) (.string s') (.int .i64 nn) (.int .i64 pp) (.slice ya xs.length yc))
    have HBz := Lib.hid (below_sets5 HB4.out (Nat.le_refl _) (.int .i64 0) (.string ⟨#[]⟩) (.int .i64 0) (.int .i64 0) (.slice none 0 0))
    have HBy := Lib.hid (below_sets5 HB4.out (Nat.le_refl _) (.int .i64 kd) (.string s') (.int .i64 nn) (.int .i64 pp) (.slice ya xs.length yc))
    have HOK := Lib.hid (hm (((((w3.setCell ⟨w.heap.size, 0, none⟩ (.int .i64 kd)).setCell ⟨w.heap.size, 1, none⟩ (.string s')).setCell ⟨w.heap.size, 2, none⟩ (.int .i64 nn)).setCell ⟨w.heap.size, 3, none⟩ (.int .i64 pp)).setCell ⟨w.heap.size, 4, none⟩ (.slice ya xs.length yc)) (by simp; exact hba.size) fun j j1 j2 => by
      rw [sets5_heap _ _ _ _ _ _ _ j (by omega)]; exact hba.block j j2)
    obtain ⟨r0, r1, r2, r3, r4, rf0, rf1, rf2, rf3, rf4⟩ := HR.out
    obtain ⟨z0, z1, z2, z3, z4, _, _, _, _, _⟩ := HY.out
    have HTK := Lib.hid (tkD_at hn2)
    clear hm hb2 hba hb3 hv hz0
    obtain ⟨tk, htk⟩ : ∃ tk, ts[n2].kind = tk := ⟨_, rfl⟩
    obtain ⟨tp, htp⟩ : ∃ tp, ts[n2].place = tp := ⟨_, rfl⟩
    rw [htk] at t0
    rw [htp] at t3
    rw [HTK.out, htk, htp] at HW
    have t3z := (HR.out.again ⟨b, off + n2 * 4 + 3, none⟩).trans t3
    clear htk htp
    cases b2 with
    | false =>
      have HF := Lib.hid (show wholeS s = (2, tp, zeroR) by rw [HW.out, if_pos (.inl rfl)])
      clear HW
      go_wp2_with fail
      (try rw [hw3])
      (try go_wp2_with fail)
      go_region
      go_wp2_with fail
      obtain ⟨r0, r1, r2, r3, r4, rf0, rf1, rf2, rf3, rf4⟩ := HRz.out
      refine bodyPost_ret (v := .tuple #[.agg #[.int .i64 0, .string ⟨#[]⟩, .int .i64 0, .int .i64 0, .slice none 0 0], .int .i64 2, .int .i64 tp]) (by simp [results, Tryd.results11, go_sem, r0, r1, r2, r3, r4]) rfl ?_
      unfold WholePost
      rw [HF.out]
      exact ⟨⟨zeroR, none, 0⟩, rfl, rfl, zero_ok _, HBz.out.drew⟩
    | true =>
      cases hk : (tk == 0) with
      | false =>
        have HF := Lib.hid (show wholeS s = (2, tp, zeroR) by rw [HW.out, if_pos (.inr (by simpa using hk))])
        have hk' : (tk != 0) = true := by rw [bne, hk]; rfl
        clear HW hk
        go_wp2_with fail
        (try rw [hw3])
        (try go_wp2_with fail)
        go_region
        go_wp2_with fail
        obtain ⟨r0, r1, r2, r3, r4, rf0, rf1, rf2, rf3, rf4⟩ := HRz.out
        refine bodyPost_ret (v := .tuple #[.agg #[.int .i64 0, .string ⟨#[]⟩, .int .i64 0, .int .i64 0, .slice none 0 0], .int .i64 2, .int .i64 tp]) (by simp [results, Tryd.results11, go_sem, r0, r1, r2, r3, r4]) rfl ?_
        unfold WholePost
        rw [HF.out]
        exact ⟨⟨zeroR, none, 0⟩, rfl, rfl, zero_ok _, HBz.out.drew⟩
      | true =>
        have HF := Lib.hid (show wholeS s = (0, 0, .mk kd s' nn pp xs) by rw [HW.out, if_neg (by rw [show tk = 0 by simpa using hk]; simp)])
        have hk' : (tk != 0) = false := by rw [bne, hk]; rfl
        clear HW hk
        go_wp2_with fail
        (try rw [hw3])
        (try go_wp2_with fail)
        obtain ⟨r0, r1, r2, r3, r4, rf0, rf1, rf2, rf3, rf4⟩ := HRy.out
        refine bodyPost_ret (v := .tuple #[.agg #[.int .i64 kd, .string s', .int .i64 nn, .int .i64 pp, .slice ya xs.length yc], .int .i64 0, .int .i64 0]) (by simp [results, Tryd.results11, go_sem, r0, r1, r2, r3, r4]) rfl ?_
        unfold WholePost
        rw [HF.out]
        exact ⟨⟨.mk kd s' nn pp xs, ya, yc⟩, rfl, rfl, HOK.out, HBy.out⟩
  · have HF := Lib.hid (show wholeS s = (outErr s, outAt s, zeroR) by unfold wholeS; rw [if_pos h0])
    obtain ⟨er, her⟩ : ∃ er, outErr s = er := ⟨_, rfl⟩
    obtain ⟨ea, hea⟩ : ∃ ea, outAt s = ea := ⟨_, rfl⟩
    rw [her, hea] at SC HF
    rw [her] at h0
    have hn : (er != 0) = true := by simpa using h0
    clear her hea h0 br hb0
    go_enter Tryd.func11, Tryd.ntmps11
    go_wp2_with fail
    refine (SC.out _).mono ?_; rintro e w1 ⟨v, rfl, _, hb1⟩
    rw [hz0] at hb1
    have hs1 := hb1.size
    rw [hz0] at hs1
    obtain ⟨p0, p1, _, _⟩ := pair_new w1 (.int .i64 er) (.int .i64 ea) 26
    have hbf := hb1.alloc (by omega) (.cells #[.int .i64 er, .int .i64 ea] 26)
    have HBF := Lib.hid (HB0.out.trans (hbf.mono (Nat.le_succ _)))
    have HR := Lib.hid (HBR.out _ hbf)
    have HR2 := Lib.hid (HR.out.sets (.int .i64 0) (.string ⟨#[]⟩) (.int .i64 0) (.int .i64 0) (.slice none 0 0))
    have HBE := Lib.hid (below_sets5 HBF.out (Nat.le_refl _) (.int .i64 0) (.string ⟨#[]⟩) (.int .i64 0) (.int .i64 0) (.slice none 0 0))
    obtain ⟨r0, r1, r2, r3, r4, rf0, rf1, rf2, rf3, rf4⟩ := HR.out
    have hne : w.heap.size ≠ w1.heap.size := by omega
    clear hb1 hbf
    go_wp2_with fail
    go_region
    go_wp2_with fail
    obtain ⟨r0, r1, r2, r3, r4, rf0, rf1, rf2, rf3, rf4⟩ := HR2.out
    refine bodyPost_ret (v := .tuple #[.agg #[.int .i64 0, .string ⟨#[]⟩, .int .i64 0, .int .i64 0, .slice none 0 0], .int .i64 er, .int .i64 ea]) (by simp [results, Tryd.results11, go_sem, r0, r1, r2, r3, r4]) rfl ?_
    unfold WholePost
    rw [HF.out]
    exact ⟨⟨zeroR, none, 0⟩, rfl, rfl, zero_ok _, HBE.out.drew⟩
end Go.Proofs.YtldgbdmiebipnaaDoor

namespace Go.Proofs.YtldgbdmiebipnaaDoor
open Go.RowKit

/-- What a call leaves that makes a term. -/
def MadePost (u : Tm) (w0 w : World) (e : Ending) (w' : World) : Prop := ∃ z : Tv, e = .returned z.val ∧ z.t = u ∧ Fresh w0 w w' z ∧ Below w.heap.size w w'
/-- A term over a row of the call's own, behind a call that makes nothing of note. -/
theorem made_row {w0 w wz wr w5 : World} {a : Option Addr} {c n : Nat} {vs : List Tv} {k : Int} {s : ByteArray} {nn : Int} {ts : List Tm} (hn : ts.length = n) (hvt : vs.map Tv.t = ts) (hfit : Fit k s nn) (hlen : n ≤ 9223372036854775807)
    (hown : wr.ownsRow wz.heap.size 48 4 (.slice a n c) n (rowTv vs)) (hvb : ∀ z ∈ vs, Beside w0 wz wr (.slice a n c) z) (hwz : Below w.heap.size w wz) (hbw : Below wz.heap.size wz wr) (hb5 : Below wr.heap.size wr w5) :
    MadePost (.mk k s nn ts) w0 w (.returned (.agg #[.int .i64 k, .string s, .int .i64 nn, .slice a n c])) w5 := by
  have hbe := below_next hbw hb5
  refine ⟨⟨.mk k s nn ts, a, c⟩, by simp [Tv.val, Tm.kind, Tm.name, Tm.n, Tm.args, hn], rfl, ?_, hwz.trans (hbe.mono hwz.size)⟩
  have h5 := own_below hown hb5
  refine fresh_row (vs := vs) (n := n) (own_lower h5 hwz.size) hn hvt hfit hlen (fun W hWb hWs hWa v hv => ?_)
  refine hvb v hv W hWb (by have := hb5.size; omega) (fun k k1 k2 _ => ?_)
  rw [hWa k (by have := hwz.size; omega) (by have := hb5.size; omega)]
  exact hb5.block k k2
/-- Likewise, where the answer was put into a box of the call's own. -/
theorem made_box {w0 w wz wr w5 : World} {a : Option Addr} {c n : Nat} {vs : List Tv} {k : Int} {s : ByteArray} {nn : Int} {ts : List Tm} (hn : ts.length = n) (hvt : vs.map Tv.t = ts) (hfit : Fit k s nn) (hlen : n ≤ 9223372036854775807)
    (hown : wr.ownsRow wz.heap.size 48 4 (.slice a n c) n (rowTv vs)) (hvb : ∀ z ∈ vs, Beside w0 wz wr (.slice a n c) z) (hwz : Below w.heap.size w wz) (hbw : Below wz.heap.size wz wr) (hb5 : Below wr.heap.size wr w5)
    {g : Nat} (hg : w.heap.size ≤ g) (hg2 : g < wz.heap.size) (u0 u1 u2 u3 : Value) :
    MadePost (.mk k s nn ts) w0 w (.returned (.agg #[.int .i64 k, .string s, .int .i64 nn, .slice a n c])) ((((w5.setCell ⟨g, 0, none⟩ u0).setCell ⟨g, 1, none⟩ u1).setCell ⟨g, 2, none⟩ u2).setCell ⟨g, 3, none⟩ u3) := by
  have hbe := below_next hbw hb5
  refine ⟨⟨.mk k s nn ts, a, c⟩, by simp [Tv.val, Tm.kind, Tm.name, Tm.n, Tm.args, hn], rfl, ?_, below_sets (hwz.trans (hbe.mono hwz.size)) hg _ _ _ _⟩
  have h5 := own_below hown hb5
  have h8 := own_setCell (own_setCell (own_setCell (own_setCell h5 (p := ⟨g, 0, none⟩) hg2 u0) (p := ⟨g, 1, none⟩) hg2 u1) (p := ⟨g, 2, none⟩) hg2 u2) (p := ⟨g, 3, none⟩) hg2 u3
  refine fresh_row (vs := vs) (n := n) (own_lower h8 hwz.size) hn hvt hfit hlen (fun W hWb hWs hWa v hv => ?_)
  have hkk : ∀ k, k ≠ g → ((((w5.setCell ⟨g, 0, none⟩ u0).setCell ⟨g, 1, none⟩ u1).setCell ⟨g, 2, none⟩ u2).setCell ⟨g, 3, none⟩ u3).heap[k]? = w5.heap[k]? := fun k hkR => by
    rw [Below.heap_setCell _ _ _ _ hkR, Below.heap_setCell _ _ _ _ hkR, Below.heap_setCell _ _ _ _ hkR, Below.heap_setCell _ _ _ _ hkR]
  have hz := hwz.size
  have hsz5 := hb5.size
  refine hvb v hv W hWb (by simp at hWs; omega) (fun k k1 k2 _ => ?_)
  rw [hWa k (by omega) (by simp; omega), hkk k (by omega)]
  exact hb5.block k k2
end Go.Proofs.YtldgbdmiebipnaaDoor

namespace Go.Proofs.YtldgbdmiebipnaaDoor
open Go.RowKit

set_option maxHeartbeats 400000 in
theorem of_any (k : Int) (s : ByteArray) (n : Int) (a : Option Addr) (l c : Nat) (w : World) :
    Calls Tryd.prog 27 #[.int .i64 k, .string s, .int .i64 n, .slice a l c] w fun e w' => e = .returned (.agg #[.int .i64 k, .string s, .int .i64 n, .slice a l c]) ∧ Below w.heap.size w w' := by
  go_enter Tryd.func27, Tryd.ntmps27
  go_wp2_with fail
  exact bodyPost_ret (v := .agg #[.int .i64 k, .string s, .int .i64 n, .slice a l c]) (by simp [results, Tryd.results27, go_sem]) rfl ⟨rfl, (Below.refl _ _).alloc (Nat.le_refl _) _⟩
end Go.Proofs.YtldgbdmiebipnaaDoor
