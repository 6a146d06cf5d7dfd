/-
  The program's grammar: read, of one term: the tree, or the fault, which is recovered.
  The program's grammar: Parse and Term.
  What a text has are trees with arguments at functions alone; and what the program's grammar answers: its parse, its terms, its Plain.
  What leaves all that lay, and every box of one term, as it was. No function of the program.
  strings.Builder's WriteString, walked at this program: what it leaves, and that every box of a term stands as it stood.
  What the listed table of powers of ten gives a walk.
  A number in decimal, by the program's Digits (the table of powers of ten: Pw).
  A term as a text, by the program's Show: write and writeArgs put it behind what a builder holds.
-/
import Derived.Test.YtldgbdmiebipnaaGreatDoorZ20
import Derived.Test.YtldgbdmiebipnaaGreatDoorZ06
import Derived.Test.YtldgbdmiebipnaaGreatDoorZ16
import Derived.Test.YtldgbdmiebipnaaGreatDoorZ13
import Derived.Test.YtldgbdmiebipnaaGreatDoorZ02
import Derived.RangeFuncNested
import Derived.Shelf.Abstract
import Derived.Shelf.RegionOpen
import Derived.WalkKit
import Derived.OwnWalkIn
import Derived.Shelf.Strings.Builder1
import Derived.Test.YtldgbdmiebipnaaGreatDoorZ01
import Derived.Test.YtldgbdmiebipnaaGreatDoorZ19
import Derived.Test.YtldgbdmiebipnaaGreatDoorRows
import Derived.ProofKit
import Derived.Lib.Hide
import Derived.Stop.LaidErr
import Derived.WalkSmall
import Derived.Deep.DeepHandedRow
import Derived.Lib.LaidTab
import Derived.MakeChecks
import Derived.Lib.ItoaLen
import Derived.Test.YtldgbdmiebipnaaGreatDoorShelf
import Derived.Test.YtldgbdmiebipnaaGreatDoorZ03
namespace Go.Proofs.YtldgbdmiebipnaaGreatDoor
open Go.RowKit

/-- What a call of read leaves, of a term. -/
def ReadTPost (s : ByteArray) (w : World) (e : Ending) (w' : World) : Prop :=
  ∃ y : Rv, e = .returned (.tuple #[y.val, .agg #[.int .i64 (wholeS s).1, .int .i64 (wholeS s).2.1]]) ∧ y.t = (wholeS s).2.2 ∧ MadeR w w' y ∧ Below w.heap.size w w'
theorem zero_made (w w' : World) : MadeR w w' ⟨zeroR, none, 0⟩ := rv_plain ⟨by decide, by decide, by decide, by decide, by decide, by decide, by decide⟩ w w'
theorem sets5_self {w : World} {x : Nat} {x0 x1 x2 x3 x4 : Value} (h : Box5 w x x0 x1 x2 x3 x4) : sets5 w x x0 x1 x2 x3 x4 = w := by
  unfold sets5
  rw [setCell_self h.c0, setCell_self h.c1, setCell_self h.c2, setCell_self h.c3, setCell_self h.c4]
theorem Pair.off {w : World} {g x : Nat} {x0 x1 : Value} (h : Pair w g x0 x1) (hx : g ≠ x) (y0 y1 y2 y3 y4 : Value) : Pair (sets5 w x y0 y1 y2 y3 y4) g x0 x1 := h.keeps (sets5_heap _ _ _ _ _ _ _ g hx)

set_option maxRecDepth 100000 in
set_option maxHeartbeats 4000000 in
theorem readT_any (s : ByteArray) (hs : s.size ≤ 9000) (w : World) (hT : Tabs w) :
    Calls Tryz.prog 25 #[.string s, .func (.func 26) #[] #[]] w (ReadTPost s w) := by
  have hmf : ∀ (fn : Fn) (first cap : Array Value) (w : World), (Instr.makeFunc fn first cap).run Tryz.prog w = .ok (.func fn first cap) w := fun _ _ _ _ => rfl
  have hB0 : Below w.heap.size w ((w.alloc (.cells #[.int .i64 0, .string ⟨#[]⟩, .int .i64 0, .int .i64 0, .slice none 0 0] 39)).alloc (.cells #[.int .i64 0, .int .i64 0] 26)) := ((Below.refl _ _).alloc (Nat.le_refl _) _).alloc (by simp) _
  have hz0 : ((w.alloc (.cells #[.int .i64 0, .string ⟨#[]⟩, .int .i64 0, .int .i64 0, .slice none 0 0] 39)).alloc (.cells #[.int .i64 0, .int .i64 0] 26)).heap.size = w.heap.size + 2 := by simp
  have hp := pair_new (w.alloc (.cells #[.int .i64 0, .string ⟨#[]⟩, .int .i64 0, .int .i64 0, .slice none 0 0] 39)) (.int .i64 0) (.int .i64 0) 26
  rw [show (w.alloc (.cells #[.int .i64 0, .string ⟨#[]⟩, .int .i64 0, .int .i64 0, .slice none 0 0] 39)).heap.size = w.heap.size + 1 from by simp] at hp
  have hb5 := (box5_new w (.int .i64 0) (.string ⟨#[]⟩) (.int .i64 0) (.int .i64 0) (.slice none 0 0) 39).below ((Below.refl _ _).alloc (Nat.le_refl _) (.cells #[.int .i64 0, .int .i64 0] 26)) (by simp)
  obtain ⟨w0, hw0⟩ : ∃ w0, (w.alloc (.cells #[.int .i64 0, .string ⟨#[]⟩, .int .i64 0, .int .i64 0, .slice none 0 0] 39)).alloc (.cells #[.int .i64 0, .int .i64 0] 26) = w0 := ⟨_, rfl⟩
  rw [hw0] at hB0 hz0 hp hb5
  replace hw0 := Lib.hid hw0
  have SC := lscanC_any s (by omega) w0 (hT.below hB0)
  unfold ScanPostC at SC
  have HP := Lib.hid hp
  have HB0 := Lib.hid hB0
  have H5 := Lib.hid hb5
  clear hp hB0 hb5
  by_cases h0 : outErr s = 0
  · obtain ⟨h8, ts, hts⟩ := scan_of h0
    obtain ⟨o1, o2, o3⟩ := out_good h8 hts
    rw [o1, o2, o3] at SC
    replace SC := Lib.hid SC
    have HPS := Lib.hid (show wholeS s = if (termP ts 0 0).2.2 = false ∨ (tkD ts (termP ts 0 0).2.1).kind ≠ 0 then (2, (tkD ts (termP ts 0 0).2.1).place, zeroR) else (0, 0, (termP ts 0 0).1) by unfold wholeS; rw [if_neg (by rw [h0]; decide), o1])
    have hF := fine_of h8 hts
    have hpos := (textToks_of hts).pos
    have HF := Lib.hid hF
    clear h0 o1 o2 o3 hts hF
    go_enter_defers Tryz.func25, Tryz.ntmps25
    go_wp2_with fail
    rw [hw0.out]
    refine SC.out.mono ?_; rintro e w1 ⟨v, rfl, ⟨hv, a, c, rfl, hcap⟩, hb1⟩
    obtain ⟨p0, p1, pf0, pf1⟩ := HP.out.below hb1 (by omega)
    have HS0 := Lib.hid (setCell_self p0)
    have HS1 := Lib.hid (setCell_self p1)
    obtain ⟨a', c', hvv, _, hv⟩ := hv
    cases hvv
    rcases hv with hv | ⟨b, o, rfl, hlt, hc⟩
    · subst hv; exact absurd hpos (by decide)
    have FI := Lib.hid (lone_any HF.out _ (rdr_new hlt hcap hpos hc))
    have hs1 := hb1.size
    have hB1 : Below w.heap.size w (w1.alloc (.cells #[.slice (some ⟨b, o, none⟩) ts.length c, .int .i64 0] 78)) := (HB0.out.trans (hb1.mono HB0.out.size)).alloc (by omega) _
    have hPa := (HP.out.below hb1 (by omega)).below ((Below.refl w1.heap.size w1).alloc (Nat.le_refl _) (.cells #[.slice (some ⟨b, o, none⟩) ts.length c, .int .i64 0] 78)) (by omega)
    have hX := (H5.out.below hb1 (by omega)).below ((Below.refl w1.heap.size w1).alloc (Nat.le_refl _) (.cells #[.slice (some ⟨b, o, none⟩) ts.length c, .int .i64 0] 78)) (by omega)
    have HB1 := Lib.hid hB1
    have HPA := Lib.hid hPa
    have HXA := Lib.hid hX
    have hNg : w.heap.size + 1 < w1.heap.size := by omega
    clear hB1 hPa hX hc
    go_wp2_with fail
    rw [HS0.out, HS1.out]
    refine FI.out.mono ?_
    rintro e w3 (⟨hok, hkd, y, rfl, hyt, hm, ho⟩ | ⟨hbad, hd, ho⟩)
    case inl =>
      have hx : wholeS s = (0, 0, (termP ts 0 0).1) := by rw [HPS.out, if_neg (by rw [not_or]; exact ⟨by rw [hok]; decide, by rw [hkd]; decide⟩)]
      rw [← hyt] at hx
      obtain ⟨⟨kd, tx, nn, pp, xs⟩, ya, yc⟩ := y
      have hP3 := HPA.out.keeps (ho.block (w.heap.size + 1) (by simp; omega) (fun e => by injection e with e; omega))
      have hX3 := HXA.out.only ho (by omega)
      have hB3 := HB1.out.trans (only_under ho (by omega) (by simp; omega))
      have hsz := ho.size
      have HB3 := Lib.hid (below_sets5 hB3 (Nat.le_refl _) (.int .i64 kd) (.string tx) (.int .i64 nn) (.int .i64 pp) (.slice ya xs.length yc))
      have HMK := Lib.hid (hm.wide (u := w) (W := sets5 w3 w.heap.size (.int .i64 kd) (.string tx) (.int .i64 nn) (.int .i64 pp) (.slice ya xs.length yc)) (by simp; omega) (by simp) (fun k k1 k2 => sets5_heap _ _ _ _ _ _ _ k (by simp at k1; omega)))
      have hP4 := hP3.off (by omega) (.int .i64 kd) (.string tx) (.int .i64 nn) (.int .i64 pp) (.slice ya xs.length yc) (x := w.heap.size)
      have HX4 := Lib.hid (hX3.sets (.int .i64 kd) (.string tx) (.int .i64 nn) (.int .i64 pp) (.slice ya xs.length yc))
      have HP4 := Lib.hid hP4
      have HS2 := Lib.hid (setCell_self hP4.c0)
      have HS3 := Lib.hid (setCell_self hP4.c1)
      have HX := Lib.hid hx
      obtain ⟨q0, q1, qf0, qf1⟩ := hP3
      obtain ⟨x0, x1, x2, x3, x4, xf0, xf1, xf2, xf3, xf4⟩ := hX3
      have hne : w.heap.size ≠ w.heap.size + 1 := by omega
      have hne2 : w.heap.size + 1 ≠ w.heap.size := by omega
      unfold Rv.val
      simp only [Tr.kind, Tr.text, Tr.n, Tr.spot, Tr.args]
      clear hx ho hok hkd hm hB3 hP4 hyt
      go_wp2_with fail
      refine leaves_cons (f := 46) (args := #[.pointer (some ⟨w.heap.size + 1, 0, none⟩)]) (by simp) (by simp [go_sem]) ?_
      refine (catchT_idle (w.heap.size + 1) _).mono ?_
      rintro e u' w'' ⟨rfl, rfl, rfl⟩
      have hw : ((sets5 w3 w.heap.size (.int .i64 kd) (.string tx) (.int .i64 nn) (.int .i64 pp) (.slice ya xs.length yc)).setCell ⟨w.heap.size + 1, 0, none⟩ (.int .i64 0)).setCell ⟨w.heap.size + 1, 1, none⟩ (.int .i64 0) = sets5 w3 w.heap.size (.int .i64 kd) (.string tx) (.int .i64 nn) (.int .i64 pp) (.slice ya xs.length yc) := by rw [HS2.out, HS3.out]
      obtain ⟨y0, y1, y2, y3, y4, _, _, _, _, _⟩ := HX4.out
      obtain ⟨z0, z1, _, _⟩ := HP4.out
      rw [hw]
      refine ⟨.tuple #[.agg #[.int .i64 kd, .string tx, .int .i64 nn, .int .i64 pp, .slice ya xs.length yc], .agg #[.int .i64 0, .int .i64 0]], by simp [results, Tryz.results25, go_sem, y0, y1, y2, y3, y4, z0, z1], ?_⟩
      unfold ReadTPost
      rw [HX.out]
      exact ⟨⟨.mk kd tx nn pp xs, ya, yc⟩, rfl, rfl, HMK.out, HB3.out⟩
    case inr =>
      have hx : wholeS s = (2, (tkD ts (termP ts 0 0).2.1).place, zeroR) := by rw [HPS.out, if_pos hbad]
      have hP3 := HPA.out.keeps (ho.block (w.heap.size + 1) (by simp; omega) (fun e => by injection e with e; omega))
      have hX3 := HXA.out.only ho (by omega)
      have HB3 := Lib.hid (HB1.out.trans (only_under ho (by omega) (by simp; omega)))
      have HX := Lib.hid hx
      unfold diesAt fltV at hd
      subst hd
      obtain ⟨tp, htp⟩ : ∃ tp, (tkD ts (termP ts 0 0).2.1).place = tp := ⟨_, rfl⟩
      rw [htp] at HX ⊢
      have hk : ∀ k, k ≠ w.heap.size + 1 → ((w3.setCell ⟨w.heap.size + 1, 0, none⟩ (.int .i64 2)).setCell ⟨w.heap.size + 1, 1, none⟩ (.int .i64 tp)).heap[k]? = w3.heap[k]? := fun k e => by
        rw [Below.heap_setCell _ _ _ _ e, Below.heap_setCell _ _ _ _ e]
      obtain ⟨z0, z1, _, _⟩ := hP3.sets (.int .i64 2) (.int .i64 tp)
      obtain ⟨y0, y1, y2, y3, y4, _, _, _, _, _⟩ := hX3.same (hk w.heap.size (by omega))
      obtain ⟨q0, q1, qf0, qf1⟩ := hP3
      clear hx ho hbad htp
      refine leaves_cons (f := 46) (args := #[.pointer (some ⟨w.heap.size + 1, 0, none⟩)]) (by simp) (by simp [go_sem]) ?_
      refine (catchT_panics (w.heap.size + 1) _ _ tp [] w3 q0 q1 qf0 qf1).mono ?_
      rintro e u' w'' ⟨rfl, rfl, rfl⟩
      show Leaves _ _ _ _ _ (settle (.panicking [_])) _
      refine ⟨.tuple #[.agg #[.int .i64 0, .string ⟨#[]⟩, .int .i64 0, .int .i64 0, .slice none 0 0], .agg #[.int .i64 2, .int .i64 tp]], by simp [results, Tryz.results25, go_sem, y0, y1, y2, y3, y4, z0, z1], ?_⟩
      unfold ReadTPost
      rw [HX.out]
      exact ⟨⟨zeroR, none, 0⟩, rfl, rfl, zero_made _ _, below_sets2 HB3.out (Nat.le_succ _) _ _⟩
  · have HX := Lib.hid (show wholeS s = (outErr s, outAt s, zeroR) by unfold wholeS; rw [if_pos h0])
    obtain ⟨er, her⟩ : ∃ er, outErr s = er := ⟨_, rfl⟩
    obtain ⟨ea, hea⟩ : ∃ ea, outAt s = ea := ⟨_, rfl⟩
    rw [her, hea] at SC HX
    rw [her] at h0
    have hn : (er != 0) = true := by simpa using h0
    replace SC := Lib.hid SC
    clear her hea h0
    go_enter_defers Tryz.func25, Tryz.ntmps25
    go_wp2_with fail
    rw [hw0.out]
    refine SC.out.mono ?_; rintro e w1 ⟨v, rfl, ⟨hv, a, c, rfl, hcap⟩, hb1⟩
    have hP1 := HP.out.below hb1 (by omega)
    have hX1 := H5.out.below hb1 (by omega)
    have hk : ∀ k, k ≠ w.heap.size + 1 → ((w1.setCell ⟨w.heap.size + 1, 0, none⟩ (.int .i64 er)).setCell ⟨w.heap.size + 1, 1, none⟩ (.int .i64 ea)).heap[k]? = w1.heap[k]? := fun k e => by
      rw [Below.heap_setCell _ _ _ _ e, Below.heap_setCell _ _ _ _ e]
    have hP2 := hP1.sets (.int .i64 er) (.int .i64 ea)
    have hX2 := hX1.same (hk w.heap.size (by omega))
    have hB2 := below_sets2 (HB0.out.trans (hb1.mono HB0.out.size)) (Nat.le_succ w.heap.size) (.int .i64 er) (.int .i64 ea)
    obtain ⟨p0, p1, pf0, pf1⟩ := hP1
    obtain ⟨w2, hw2⟩ : ∃ w2, (w1.setCell ⟨w.heap.size + 1, 0, none⟩ (.int .i64 er)).setCell ⟨w.heap.size + 1, 1, none⟩ (.int .i64 ea) = w2 := ⟨_, rfl⟩
    rw [hw2] at hP2 hX2 hB2
    have HB2 := Lib.hid hB2
    have HP2 := Lib.hid hP2
    have HX2 := Lib.hid hX2
    have hne : w.heap.size ≠ w.heap.size + 1 := by omega
    have hne2 : w.heap.size + 1 ≠ w.heap.size := by omega
    clear hb1 hv hk hB2
    obtain ⟨x0, x1, x2, x3, x4, xf0, xf1, xf2, xf3, xf4⟩ := hX2
    obtain ⟨q0, q1, qf0, qf1⟩ := hP2
    go_wp2_with fail
    (try rw [hw2])
    (try go_wp2_with fail)
    go_region
    go_wp2_with fail
    have hw : ((sets5 w2 w.heap.size (.int .i64 0) (.string ⟨#[]⟩) (.int .i64 0) (.int .i64 0) (.slice none 0 0)).setCell ⟨w.heap.size + 1, 0, none⟩ (.int .i64 er)).setCell ⟨w.heap.size + 1, 1, none⟩ (.int .i64 ea) = w2 := by
      rw [sets5_self HX2.out, setCell_self HP2.out.c0, setCell_self HP2.out.c1]
    show Leaves _ _ _ _ _ _ (World.drew (((sets5 w2 w.heap.size (.int .i64 0) (.string ⟨#[]⟩) (.int .i64 0) (.int .i64 0) (.slice none 0 0)).setCell ⟨w.heap.size + 1, 0, none⟩ (.int .i64 er)).setCell ⟨w.heap.size + 1, 1, none⟩ (.int .i64 ea)))
    rw [hw]
    refine ⟨.tuple #[.agg #[.int .i64 0, .string ⟨#[]⟩, .int .i64 0, .int .i64 0, .slice none 0 0], .agg #[.int .i64 er, .int .i64 ea]], by simp [results, Tryz.results25, go_sem, x0, x1, x2, x3, x4, q0, q1], ?_⟩
    unfold ReadTPost
    rw [HX.out]
    exact ⟨⟨zeroR, none, 0⟩, rfl, rfl, zero_made _ _, below_drewN HB2.out 1⟩
end Go.Proofs.YtldgbdmiebipnaaGreatDoor

namespace Go.Proofs.YtldgbdmiebipnaaGreatDoor
open Go.RowKit

set_option maxRecDepth 100000 in
set_option maxHeartbeats 4000000 in
theorem pparse_any (s : ByteArray) (hs : s.size ≤ 9000) (w : World) (hT : Tabs w) :
    Calls Tryz.prog 5 #[.string s] w fun e w' => ∃ v, e = .returned (.tuple #[v, .agg #[.int .i64 (parseS s).1, .int .i64 (parseS s).2.1]]) ∧ Its w' v (parseS s).2.2 ∧ Below w.heap.size w w' := by
  have hB0 : Below w.heap.size w (w.alloc (.cells #[.int .i64 0, .int .i64 0] 26)) := (Below.refl _ _).alloc (Nat.le_refl _) _
  have hz0 : (w.alloc (.cells #[.int .i64 0, .int .i64 0] 26)).heap.size = w.heap.size + 1 := by simp
  have hp := pair_new w (.int .i64 0) (.int .i64 0) 26
  have RD := readI_any s hs _ (hT.below hB0)
  unfold ReadIPost at RD
  obtain ⟨⟨e0, e1, xs⟩, hx⟩ : ∃ x, parseS s = x := ⟨_, rfl⟩
  rw [hx] at RD ⊢
  simp only at RD ⊢
  obtain ⟨w0, hw0⟩ : ∃ w0, w.alloc (.cells #[.int .i64 0, .int .i64 0] 26) = w0 := ⟨_, rfl⟩
  rw [hw0] at hB0 hz0 hp RD
  replace hw0 := Lib.hid hw0
  replace RD := Lib.hid RD
  have HB0 := Lib.hid hB0
  clear hx hB0
  go_enter Tryz.func5, Tryz.ntmps5
  go_wp2_with fail
  rw [hw0.out]
  refine RD.out.mono ?_; rintro e w1 ⟨v, rfl, hm, hb1⟩
  have hP := hp.below hb1 (by omega)
  have HP2 := Lib.hid (hP.sets (.int .i64 e0) (.int .i64 e1))
  have HB2 := Lib.hid (below_sets2 (HB0.out.trans (hb1.mono HB0.out.size)) (Nat.le_refl _) (.int .i64 e0) (.int .i64 e1))
  have HM := Lib.hid (hm ((w1.setCell ⟨w.heap.size, 0, none⟩ (.int .i64 e0)).setCell ⟨w.heap.size, 1, none⟩ (.int .i64 e1)) (by simp) (fun k k1 k2 => by
    rw [Below.heap_setCell _ _ _ _ (by show k ≠ w.heap.size; omega), Below.heap_setCell _ _ _ _ (by show k ≠ w.heap.size; omega)]))
  obtain ⟨av, cv, rfl, _, _⟩ := hm.its
  obtain ⟨p0, p1, pf0, pf1⟩ := hP
  clear hp hm hb1
  go_wp2_with fail
  obtain ⟨r0, r1, _, _⟩ := HP2.out
  refine bodyPost_ret (v := .tuple #[.slice av xs.length cv, .agg #[.int .i64 e0, .int .i64 e1]]) (by simp [results, Tryz.results5, go_sem, r0, r1]) rfl ?_
  exact ⟨_, rfl, HM.out, HB2.out⟩

set_option maxRecDepth 100000 in
set_option maxHeartbeats 4000000 in
theorem pterm_any (s : ByteArray) (hs : s.size ≤ 9000) (w : World) (hT : Tabs w) :
    Calls Tryz.prog 11 #[.string s] w fun e w' => ∃ y : Rv, e = .returned (.tuple #[y.val, .agg #[.int .i64 (wholeS s).1, .int .i64 (wholeS s).2.1]]) ∧ y.t = (wholeS s).2.2 ∧ y.ok w' ∧ Below w.heap.size w w' := by
  have hB0 : Below w.heap.size w ((w.alloc (.cells #[.int .i64 0, .string ⟨#[]⟩, .int .i64 0, .int .i64 0, .slice none 0 0] 39)).alloc (.cells #[.int .i64 0, .int .i64 0] 26)) := ((Below.refl _ _).alloc (Nat.le_refl _) _).alloc (by simp) _
  have hz0 : ((w.alloc (.cells #[.int .i64 0, .string ⟨#[]⟩, .int .i64 0, .int .i64 0, .slice none 0 0] 39)).alloc (.cells #[.int .i64 0, .int .i64 0] 26)).heap.size = w.heap.size + 2 := by simp
  have hp := pair_new (w.alloc (.cells #[.int .i64 0, .string ⟨#[]⟩, .int .i64 0, .int .i64 0, .slice none 0 0] 39)) (.int .i64 0) (.int .i64 0) 26
  rw [show (w.alloc (.cells #[.int .i64 0, .string ⟨#[]⟩, .int .i64 0, .int .i64 0, .slice none 0 0] 39)).heap.size = w.heap.size + 1 from by simp] at hp
  have hb5 := (box5_new w (.int .i64 0) (.string ⟨#[]⟩) (.int .i64 0) (.int .i64 0) (.slice none 0 0) 39).below ((Below.refl _ _).alloc (Nat.le_refl _) (.cells #[.int .i64 0, .int .i64 0] 26)) (by simp)
  have RD := readT_any s hs _ (hT.below hB0)
  unfold ReadTPost at RD
  obtain ⟨⟨e0, e1, t⟩, hx⟩ : ∃ x, wholeS s = x := ⟨_, rfl⟩
  rw [hx] at RD ⊢
  simp only at RD ⊢
  obtain ⟨w0, hw0⟩ : ∃ w0, (w.alloc (.cells #[.int .i64 0, .string ⟨#[]⟩, .int .i64 0, .int .i64 0, .slice none 0 0] 39)).alloc (.cells #[.int .i64 0, .int .i64 0] 26) = w0 := ⟨_, rfl⟩
  rw [hw0] at hB0 hz0 hp hb5 RD
  replace hw0 := Lib.hid hw0
  replace RD := Lib.hid RD
  have HB0 := Lib.hid hB0
  clear hx hB0
  go_enter Tryz.func11, Tryz.ntmps11
  go_wp2_with fail
  rw [hw0.out]
  refine RD.out.mono ?_; rintro e w1 ⟨⟨⟨kd, tx, nn, pp, xs⟩, ya, yc⟩, rfl, hyt, hm, hb1⟩
  cases hyt
  unfold Rv.val
  simp only [Tr.kind, Tr.text, Tr.n, Tr.spot, Tr.args]
  have hs1 := hb1.size
  have hP := hp.below hb1 (by omega)
  have hX := hb5.below hb1 (by omega)
  have hP2 := hP.off (x := w.heap.size) (by omega) (.int .i64 kd) (.string tx) (.int .i64 nn) (.int .i64 pp) (.slice ya xs.length yc)
  have HP3 := Lib.hid (hP2.sets (.int .i64 e0) (.int .i64 e1))
  have hk : ∀ k, k ≠ w.heap.size → k ≠ w.heap.size + 1 → (((sets5 w1 w.heap.size (.int .i64 kd) (.string tx) (.int .i64 nn) (.int .i64 pp) (.slice ya xs.length yc)).setCell ⟨w.heap.size + 1, 0, none⟩ (.int .i64 e0)).setCell ⟨w.heap.size + 1, 1, none⟩ (.int .i64 e1)).heap[k]? = w1.heap[k]? := fun k k1 k2 => by
    rw [Below.heap_setCell _ _ _ _ k2, Below.heap_setCell _ _ _ _ k2, sets5_heap _ _ _ _ _ _ _ k k1]
  have HX3 := Lib.hid ((hX.sets (.int .i64 kd) (.string tx) (.int .i64 nn) (.int .i64 pp) (.slice ya xs.length yc)).same (w1 := ((sets5 w1 w.heap.size (.int .i64 kd) (.string tx) (.int .i64 nn) (.int .i64 pp) (.slice ya xs.length yc)).setCell ⟨w.heap.size + 1, 0, none⟩ (.int .i64 e0)).setCell ⟨w.heap.size + 1, 1, none⟩ (.int .i64 e1)) (by
    rw [Below.heap_setCell _ _ _ _ (by show w.heap.size ≠ w.heap.size + 1; omega), Below.heap_setCell _ _ _ _ (by show w.heap.size ≠ w.heap.size + 1; omega)]))
  have HB2 := Lib.hid (below_sets2 (below_sets5 (HB0.out.trans (hb1.mono HB0.out.size)) (Nat.le_refl _) (.int .i64 kd) (.string tx) (.int .i64 nn) (.int .i64 pp) (.slice ya xs.length yc)) (Nat.le_succ w.heap.size) (.int .i64 e0) (.int .i64 e1))
  have HM := Lib.hid (hm (((sets5 w1 w.heap.size (.int .i64 kd) (.string tx) (.int .i64 nn) (.int .i64 pp) (.slice ya xs.length yc)).setCell ⟨w.heap.size + 1, 0, none⟩ (.int .i64 e0)).setCell ⟨w.heap.size + 1, 1, none⟩ (.int .i64 e1)) (by simp) (fun k k1 k2 => hk k (by omega) (by omega)))
  obtain ⟨p0, p1, pf0, pf1⟩ := hP
  obtain ⟨x0, x1, x2, x3, x4, xf0, xf1, xf2, xf3, xf4⟩ := hX
  have hne : w.heap.size ≠ w.heap.size + 1 := by omega
  have hne2 : w.heap.size + 1 ≠ w.heap.size := by omega
  clear hp hm hb1 hk hP2 hb5
  go_wp2_with fail
  obtain ⟨r0, r1, _, _⟩ := HP3.out
  obtain ⟨y0, y1, y2, y3, y4, _, _, _, _, _⟩ := HX3.out
  refine bodyPost_ret (v := .tuple #[.agg #[.int .i64 kd, .string tx, .int .i64 nn, .int .i64 pp, .slice ya xs.length yc], .agg #[.int .i64 e0, .int .i64 e1]]) (by simp [results, Tryz.results11, go_sem, r0, r1, y0, y1, y2, y3, y4]) rfl ?_
  exact ⟨⟨.mk kd tx nn pp xs, ya, yc⟩, rfl, rfl, HM.out, HB2.out⟩
end Go.Proofs.YtldgbdmiebipnaaGreatDoor

namespace Go.Proofs.YtldgbdmiebipnaaGreatDoor
open Go.RowKit

theorem termF_wf : ∀ (f : Nat) (L : List Tok), (∀ i op, WfR (termF f L i op).1) ∧ ∀ i sg op, WfRs (termsF f L i sg op).1
  | 0, L => ⟨fun i op => by rw [termF, WfR, WfRs]; exact ⟨fun _ => rfl, trivial⟩, fun i sg op => by rw [termsF, WfRs]; trivial⟩
  | f + 1, L => by
    obtain ⟨h1, h2⟩ := termF_wf f L
    refine ⟨fun i op => ?_, fun i sg op => ?_⟩
    · rw [termF]
      have := h2 (i + 2) sComma (op + 1)
      repeat' split
      all_goals (simp only []; rw [WfR])
      all_goals first
        | exact ⟨fun _ => rfl, by rw [WfRs]; trivial⟩
        | exact ⟨fun h => absurd rfl h, this⟩
    · rw [termsF]
      have k1 := h1 i op
      have k2 := h2 ((termF f L i op).2.1 + 1) sg op
      repeat' split
      all_goals (simp only []; rw [WfRs])
      all_goals first
        | trivial
        | exact ⟨k1, by rw [WfRs]; trivial⟩
        | exact ⟨k1, k2⟩
theorem wfRs_mem : ∀ {l : List Tr} {t : Tr}, WfRs l → t ∈ l → WfR t
  | u :: r, t, h, ht => by
    rw [WfRs] at h
    rcases List.mem_cons.1 ht with rfl | ht
    · exact h.1
    · exact wfRs_mem h.2 ht
theorem whole_wf (s : ByteArray) : WfR (wholeS s).2.2 := by
  have hz : WfR zeroR := by unfold zeroR; rw [WfR, WfRs]; exact ⟨fun _ => rfl, trivial⟩
  unfold wholeS
  repeat' split
  · exact hz
  · exact hz
  · exact (termF_wf _ _).1 _ _
theorem items_wf (s : ByteArray) : ∀ x ∈ (parseS s).2.2, ∀ t ∈ x.trees, WfR t := by
  by_cases h0 : (parseS s).1 = 0
  · obtain ⟨h8, ts, xs, h1, h2, h3⟩ := parseS_ok h0
    rw [h3]
    simp only
    have h : ∀ x ∈ xs, FitI x ∧ ∀ t ∈ x.trees, WfR t :=
      itemsF_all (Q := WfR) (fun i op => (termF_wf _ _).1 _ _) (fun i sg op t ht => wfRs_mem ((termF_wf _ _).2 _ _ _) ht) _ _ xs h2
    exact fun x hx => (h x hx).2
  · rw [parseS_bad h0]; intro x hx; cases hx

theorem gramA_of (w : World) (hT : Tabs w) : GramA w where
  parse s W hb hs := pparse_any s (by omega) W (hT.below hb)
  term s W hb hs := pterm_any s (by omega) W (hT.below hb)
  plain x W hb hx ht := by
    obtain ⟨s, _, ht⟩ := ht
    refine (pplain_tm 1000000 x W (by rw [ht]; exact whole_small s) (by omega) (by rw [ht]; exact whole_wf s) hx).mono ?_
    rintro e w' ⟨z, h1, h2, h3, h4⟩
    exact ⟨z, h1, h2, h3.ok, h4⟩
end Go.Proofs.YtldgbdmiebipnaaGreatDoor

namespace Go.Proofs.YtldgbdmiebipnaaGreatDoor
open Go.RowKit

/-- What a round leaves as it was: all that lay when the call began, and every box of one term. -/
structure KeepsT (n₀ : Nat) (W W' : World) : Prop where
  below : Below n₀ W W'
  same : ∀ (k : Nat) (c : Array Value) (f : Nat × Nat), c.size = 4 → W.heap[k]? = some (Obj.cells c 100 f) → W'.heap[k]? = some (Obj.cells c 100 f)
theorem KeepsT.refl (n₀ : Nat) (W : World) : KeepsT n₀ W W := ⟨Below.refl _ _, fun _ _ _ _ h => h⟩
theorem KeepsT.trans {n₀ : Nat} {A B C : World} (h : KeepsT n₀ A B) (k : KeepsT n₀ B C) : KeepsT n₀ A C := ⟨h.below.trans k.below, fun i c f h4 hi => k.same i c f h4 (h.same i c f h4 hi)⟩
theorem KeepsT.alloc {n₀ : Nat} {A B : World} (h : KeepsT n₀ A B) (hn : n₀ ≤ B.heap.size) (o : Obj) : KeepsT n₀ A (B.alloc o) :=
  ⟨h.below.alloc hn o, fun k c f h4 hk => by
    have := h.same k c f h4 hk
    rw [Below.heap_alloc _ _ _ (Array.getElem?_eq_some_iff.1 this).1]; exact this⟩
/-- Behind growth that turns one block at most, which is no box of a term. -/
theorem KeepsT.grown {n₀ : Nat} {A B C : World} (h : KeepsT n₀ A B) {row : Option Nat} (hg : B.grownBy C row) (hn : n₀ ≤ B.heap.size) (hr : ∀ k, row = some k → n₀ ≤ k ∧ ∀ c f, B.heap[k]? ≠ some (Obj.cells c 100 f)) : KeepsT n₀ A C :=
  ⟨h.below.grown hg hn (fun k e => (hr k e).1), fun k c f h4 hk => by
    have := h.same k c f h4 hk
    rw [hg.block k (Array.getElem?_eq_some_iff.1 this).1 (fun e => (hr k e.symm).2 c f this)]; exact this⟩
theorem KeepsT.setBox {n₀ : Nat} {A W : World} (h : KeepsT n₀ A W) {B : Nat} {t : TypeId} {v : Value} (hb : Boxed W B t v) (ht : t ≠ 100) (hB : n₀ ≤ B) (u : Value) : KeepsT n₀ A (W.setCell ⟨B, 0, none⟩ u) :=
  ⟨h.below.setCell (p := ⟨B, 0, none⟩) hB u, fun k c f h4 hk => by
    have h1 := h.same k c f h4 hk
    have h2 : W.heap[B]? = some (Obj.cells #[v] t (0, 0)) := hb
    rw [Below.heap_setCell _ _ _ _ (fun e => by
      subst e
      rw [h2] at h1
      injection h1 with h1
      injection h1 with _ h1 _
      exact ht h1)]
    exact h1⟩
theorem keepsT_t {n₀ : Nat} {A B C : World} (h : KeepsT n₀ A B) (k : KeepsT n₀ B C) : KeepsT n₀ A C := h.trans k
theorem keepsT_b {n₀ : Nat} {w : World} (hn : n₀ ≤ w.heap.size) (W : World) (l : Nat) (o o' : Obj) (hl : w.heap.size ≤ l) (h : W.heap[l]? = some o) (hc : o.isCells = false) (_ : o.isWalk = false) : KeepsT n₀ W (W.putObj l o') :=
  (KeepsT.refl n₀ W).grown (grownBy_putObj' W l o') (by have := (Array.getElem?_eq_some_iff.1 h).1; omega) (fun k e => by
    cases e
    refine ⟨by omega, fun c f e => ?_⟩
    rw [h] at e
    injection e with e
    subst e
    cases hc)
/-- A box of a term, behind what leaves them. -/
theorem KeepsT.box {n₀ : Nat} {W W' : World} {x0 x1 x2 x3 : Value} (h : KeepsT n₀ (W.alloc (.cells #[x0, x1, x2, x3] 100)) W') : Box W' W.heap.size x0 x1 x2 x3 := by
  have h1 := h.same W.heap.size #[x0, x1, x2, x3] (0, 0) rfl (World.alloc_heap_new W _)
  constructor <;> simp [World.cell?, World.frozen?, h1]

end Go.Proofs.YtldgbdmiebipnaaGreatDoor

namespace Go.Proofs.YtldgbdmiebipnaaGreatDoor
open Go.RowKit Go.Shelf

theorem builderSize : (Tryz.prog.info? 61).map (·.size) = some 2 := by kernel_rfl
theorem builderLies : liesAt Tryz.prog Tryz.prog.depth 61 (2 / Tryz.prog.cellsOf 61) 0 61 1 = true := by kernel_rfl
theorem byteInfo : (Tryz.prog.info? 5).map (fun i => (i.zero, i.size, i.bytes)) = some (some (.int .u8 0), 1, 1) := by kernel_rfl

set_option maxRecDepth 100000 in
set_option maxHeartbeats 400000 in
theorem check_used (b : Nat) (w : World) (h0 : w.cell? ⟨b, 0, none⟩ = some (.pointer (some ⟨b, 0, none⟩))) :
    Calls Tryz.prog 38 #[.pointer (some ⟨b, 0, none⟩)] w fun e w' => e = .returned (.tuple #[]) ∧ w' = w := by
  obtain ⟨j, hj, _⟩ := Option.map_eq_some_iff.1 builderSize
  go_enter Tryz.func38, Tryz.ntmps38
  go_wp2_with fail
  rw [Lib.run_neq_ptr_same w _ Tryz.underlying58 hj]
  go_wp2_with fail
  go_end0
  exact ⟨rfl, rfl⟩

set_option maxRecDepth 100000 in
set_option maxHeartbeats 400000 in
theorem check_fresh (b : Nat) (w : World) (h0 : w.cell? ⟨b, 0, none⟩ = some (.pointer none)) (hsh : w.shape? b = some (61, 2)) (hfz : w.frozen? ⟨b, 0, none⟩ = false) :
    Calls Tryz.prog 38 #[.pointer (some ⟨b, 0, none⟩)] w fun e w' => e = .returned (.tuple #[]) ∧ w' = w.setCell ⟨b, 0, none⟩ (.pointer (some ⟨b, 0, none⟩)) := by
  obtain ⟨j, hj, hjs⟩ := Option.map_eq_some_iff.1 builderSize
  go_enter Tryz.func38, Tryz.ntmps38
  go_wp2_with fail
  rw [Lib.run_to_unsafe w ⟨b, 0, none⟩ Tryz.underlying58 Tryz.underlying113 hj (by rw [hjs]; decide) hsh (Nat.zero_lt_succ 1)]
  simp only [Result.andThen]
  rw [Oper.upon_value]
  go_wp2_with fail
  rw [run_callFunc_extern Tryz.func63 (by kernel_rfl) (by kernel_rfl) (by kernel_rfl) (e := Extern.AbiNoEscape.same) (by kernel_rfl)]
  rw [Lib.run_noEscape]
  simp only [Result.andThen]
  rw [Oper.upon_value]
  go_wp2_with fail
  rw [Lib.run_from_unsafe w ⟨b, 0, none⟩ Tryz.underlying113 Tryz.underlying58 hj hsh builderLies]
  simp only [Result.andThen]
  rw [Oper.upon_value]
  go_wp2_with fail
  go_end0
  exact ⟨rfl, rfl⟩

/-- A builder of the call's own, that holds these bytes. -/
def Bld (B b : Nat) (l : List UInt8) (w : World) : Prop := Lib.IsBuilder 61 5 B b (Lib.byteCells l) w
theorem bld_not_term {b : Nat} {p v : Value} {w : World} (hb : w.heap[b]? = some (Obj.cells #[p, v] 61 (0, 0))) : ∀ c f, w.heap[b]? ≠ some (Obj.cells c 100 f) := fun c f h => by
  rw [hb] at h; injection h with h; injection h with _ h _; exact absurd h (by decide)
theorem KeepsT.setIn {n₀ : Nat} {A W : World} (h : KeepsT n₀ A W) {p : Addr} (hp : n₀ ≤ p.block) (hn : ∀ c f, W.heap[p.block]? ≠ some (Obj.cells c 100 f)) (u : Value) : KeepsT n₀ A (W.setCell p u) :=
  ⟨h.below.setCell hp u, fun k c f h4 hk => by
    have h1 := h.same k c f h4 hk
    rw [Below.heap_setCell _ _ _ _ (fun e => by subst e; exact hn c f h1)]
    exact h1⟩

set_option maxRecDepth 100000 in
set_option maxHeartbeats 1000000 in
theorem wstr_any (B b : Nat) (l : List UInt8) (s : ByteArray) (w : World) (h : Bld B b l w) (hlen : l.length + s.size ≤ 140737488355328) (hBw : B ≤ w.heap.size) :
    Calls Tryz.prog 18 #[.pointer (some ⟨b, 0, none⟩), .string s] w fun e w' => e = .returned (.tuple #[.int .i64 s.size, .nilIface]) ∧ Bld B b (l ++ s.data.toList) w' ∧ KeepsT B w w' := by
  obtain ⟨i0, hi, hz0, hz1, hz2⟩ := info_parts byteInfo
  have hC : Calls Tryz.prog 38 #[.pointer (some ⟨b, 0, none⟩)] w fun e w' => e = .returned (.tuple #[]) ∧ Lib.BuilderAt 61 5 B b (.pointer (some ⟨b, 0, none⟩)) (Lib.byteCells l) w' ∧ KeepsT B w w' := by
    rcases h with h | h
    · refine (check_fresh b w h.cell0 h.shape h.frozen0).mono ?_
      rintro e w' ⟨rfl, rfl⟩
      obtain ⟨hB, v, hbk, _⟩ := id h
      exact ⟨rfl, h.used _, (KeepsT.refl _ _).setIn (p := ⟨b, 0, none⟩) h.1 (bld_not_term hbk) _⟩
    · refine (check_used b w h.cell0).mono ?_
      rintro e w' ⟨rfl, rfl⟩
      exact ⟨rfl, h, KeepsT.refl _ _⟩
  have hll : (Lib.byteCells l).length = l.length := Lib.byteCells_length l
  have hcat : Lib.byteCells (l ++ s.data.toList) = Lib.byteCells l ++ Lib.strCells s := by rw [Lib.byteCells_append, Lib.strCells_eq]
  have HCAT := Lib.hid hcat
  have HC := Lib.hid hC
  have hbl : (Lib.byteCells l).length + s.size ≤ 140737488355328 := by omega
  clear h hC hcat hll
  go_enter Tryz.func18, Tryz.ntmps18
  go_wp2_with fail
  refine HC.out.mono ?_
  rintro e w1 ⟨rfl, h1, hk1⟩
  obtain ⟨hB, v, hbk, hown, hne⟩ := h1
  have hb1 := hk1.below
  have hs1 := hb1.size
  have c0 : w1.cell? ⟨b, 0, none⟩ = some (.pointer (some ⟨b, 0, none⟩)) := by rw [Lib.cell_of_heap hbk]; rfl
  have c1 : w1.cell? ⟨b, 1, none⟩ = some v := by rw [Lib.cell_of_heap hbk]; rfl
  go_wp2_with (at_builtin; refine Lib.wpList_append_own_string _ rfl _ _ 59 9 rfl B 5 i0 Tryz.underlying59 Tryz.underlying9 hi hz0 hz1 hz2 _ _ _ rfl hown s rfl ?c3 ?c4 ?c5 ?_)
  case c3 => unfold maxLen; omega
  case c4 => omega
  case c5 => omega
  intro v' w2 hown' hgrow _
  have hlt : b < w1.heap.size := (Array.getElem?_eq_some_iff.1 hbk).1
  have hb2 : w2.heap[b]? = some (.cells #[.pointer (some ⟨b, 0, none⟩), v] 61 (0, 0)) := by
    rw [hgrow.block b hlt (fun e => hne e.symm)]
    exact hbk
  have d0 : w2.cell? ⟨b, 0, none⟩ = some (.pointer (some ⟨b, 0, none⟩)) := by rw [Lib.cell_of_heap hb2]; rfl
  have d1 : w2.cell? ⟨b, 1, none⟩ = some v := by rw [Lib.cell_of_heap hb2]; rfl
  have f1 : w2.frozen? ⟨b, 1, none⟩ = false := Lib.frozen_of_heap hb2 1
  obtain ⟨ao, n', cap, rfl⟩ : ∃ ao n' cap, v' = .slice ao n' cap := by
    rcases hown'.2 with ⟨hv, _⟩ | ⟨g, cap, cur, hv, _⟩
    · exact ⟨_, _, _, hv⟩
    · exact ⟨_, _, _, hv⟩
  have hk2 : KeepsT B w w2 := hk1.grown hgrow (by omega) (fun k hk => ⟨(hown.lt k hk).1, fun c f e => Lib.ownBlock_ne (B := B) hown e (by decide) hk⟩)
  have HK := Lib.hid (hk2.setIn (p := ⟨b, 1, none⟩) hB (bld_not_term hb2) (.slice ao n' cap))
  have HB := Lib.hid (Lib.BuilderAt.put (T := 61) (e := 5) hB hb2 (bs' := Lib.byteCells l ++ Lib.strCells s) (by simpa [Lib.strCells_length] using hown') (by decide))
  clear hk2 hk1 hb1 hgrow hown' hown hne
  go_wp2_with fail
  go_ret2
  refine ⟨rfl, ?_, HK.out⟩
  show Lib.IsBuilder _ _ _ _ (Lib.byteCells (l ++ s.data.toList)) _
  rw [HCAT.out]
  exact Or.inr HB.out
end Go.Proofs.YtldgbdmiebipnaaGreatDoor

namespace Go.Proofs.YtldgbdmiebipnaaGreatDoor
open Go.RowKit

/-- What the contract of strconv.Itoa asks of a world. -/
structure Pow (w : World) : Prop where
  pow : Lib.TabIs Tryz.prog w "internal/strconv.uint64pow10" .u64 Lib.pow10Tab
  size : 3 < w.heap.size
theorem Pow.below {w w' : World} (h : Pow w) (hb : Below w.heap.size w w') : Pow w' where
  pow := by
    have h1 := h.pow
    unfold Lib.TabIs World.var? at h1 ⊢
    rw [gPow] at h1 ⊢
    simp only [Option.bind_some] at h1 ⊢
    rw [hb.block _ h.size]
    exact h1
  size := Nat.lt_of_lt_of_le h.size hb.size
theorem pow_of {l : List (String × DataW Unit)} {w : World} (h : laidMetH Tryz.prog l w) (hp : (l.all fun x => x.2.handleName?.isNone) = true)
    (h1 : ("internal/strconv.uint64pow10", Rows.laid_internal_strconv_uint64pow10) ∈ l) : Pow w := by
  rw [MakeChecks.laidMetH_plain _ _ _ hp] at h
  have a1 : Lib.TabIs Tryz.prog w "internal/strconv.uint64pow10" .u64 Lib.pow10Tab :=
    Lib.tabIs_of_head (rest := []) gPow gPowType Tryz.underlying160 Tryz.underlying126 cellsU64 cellsPow (laidMet_one h h1)
  exact ⟨a1, lt_of_var gPow a1⟩
end Go.Proofs.YtldgbdmiebipnaaGreatDoor

namespace Go.Proofs.YtldgbdmiebipnaaGreatDoor
open Go.RowKit

set_option maxHeartbeats 400000 in
theorem pdigits_any (n : Int) (h0 : -9223372036854775808 ≤ n) (h1 : n ≤ 9223372036854775807) (w : World) (hT : Pow w) :
    Calls Tryz.prog 88 #[.int .i64 n] w fun e w' => e = .returned (.string ⟨(Lib.itoa n).toArray⟩) ∧ Below w.heap.size w w' := by
  have c := Tryz.strconv_Itoa n h0 h1 w hT.pow
  have C := Lib.hid c
  clear c hT
  go_enter Tryz.func88, Tryz.ntmps88
  go_wp2_with (go_at_call 93; refine C.out.mono ?_; rintro e w' ⟨rfl, k, os, rfl⟩)
  go_ret
  exact ⟨rfl, below_grow _ _ _⟩
end Go.Proofs.YtldgbdmiebipnaaGreatDoor

namespace Go.Proofs.YtldgbdmiebipnaaGreatDoor
open Go.RowKit Go.Shelf

theorem keepsT_in {n₀ : Nat} {W W' : World} (h : Below W.heap.size W W') (hn : n₀ ≤ W.heap.size) : KeepsT n₀ W W' := ⟨h.mono hn, fun k c f _ hk => by rw [h.block k (Array.getElem?_eq_some_iff.1 hk).1]; exact hk⟩
theorem bld_below {B b : Nat} {l : List UInt8} {w w' : World} (h : Bld B b l w) (hb : Below w.heap.size w w') : Bld B b l w' := by
  have key : ∀ p, Lib.BuilderAt 61 5 B b p (Lib.byteCells l) w → Lib.BuilderAt 61 5 B b p (Lib.byteCells l) w' := fun p ⟨hB, v, hbk, hown, hne⟩ =>
    ⟨hB, v, by rw [hb.block b (Array.getElem?_eq_some_iff.1 hbk).1]; exact hbk, own_below hown hb, hne⟩
  exact h.elim (fun h => .inl (key _ h)) (fun h => .inr (key _ h))
/-- What stands ahead of an argument. -/
def sepB (j : Nat) : List UInt8 := if j = 0 then [40] else [44, 32]
theorem pre_step {xs : List Tm} {j : Nat} (hj : j < xs.length) : pre (showsL (xs.take (j + 1))) = pre (showsL (xs.take j)) ++ sepB j ++ showT xs[j] := by
  rw [showsL_take hj]
  by_cases h : j = 0
  · subst h
    rw [List.take_zero, showsL, List.nil_append, pre_first]
    rfl
  · have hne : (showsL (xs.take j)).isEmpty = false := by
      rw [showsL_empty]
      cases xs with
      | nil => simp at hj
      | cons x r => cases j with
        | zero => exact absurd rfl h
        | succ j => rfl
    rw [pre_more _ hne]
    unfold sepB
    rw [if_neg h]

/-- What a call of write leaves, of terms with no more than m parts. -/
def WriteUpto (w0 : World) (B b m : Nat) : Prop := ∀ (x : Tv) (l : List UInt8) (w : World), x.t.parts ≤ m → x.ok w0 → l.length + wtT x.t ≤ 100000000 → Bld B b l w → Below w0.heap.size w0 w → B ≤ w.heap.size →
    Calls Tryz.prog 80 #[.pointer (some ⟨b, 0, none⟩), x.val] w fun e w' => e = .returned (.tuple #[]) ∧ (showT x.t).length + 4 ≤ wtT x.t ∧ Bld B b (l ++ showT x.t) w' ∧ KeepsT B w w'

set_option maxRecDepth 100000 in
set_option maxHeartbeats 2000000 in
theorem writeArgs_tm (w0 : World) (B b m : Nat) (hB : w0.heap.size ≤ B) (hC : WriteUpto w0 B b m) (v : Value) (xs : List Tm) (l : List UInt8) (w : World) (hm : ∀ j (h : j < xs.length), xs[j].parts ≤ m) (hx : Tms w0 v xs) (h0 : xs ≠ [])
    (hlen : l.length + wtL xs + 4 ≤ 100000000) (hb : Bld B b l w) (hb0 : Below w0.heap.size w0 w) (hBw : B ≤ w.heap.size) :
    Calls Tryz.prog 89 #[.pointer (some ⟨b, 0, none⟩), v] w fun e w' => e = .returned (.tuple #[]) ∧ (pre (showsL xs)).length ≤ wtL xs ∧ Bld B b (l ++ (pre (showsL xs) ++ [41])) w' ∧ KeepsT B w w' := by
  obtain ⟨a, c, rfl, hxl, hxr⟩ := hx
  obtain ⟨g, off, rfl, hlt, hr⟩ : ∃ g off, a = some ⟨g, off, none⟩ ∧ g < w0.heap.size ∧ RowAt w0 xs g off := hxr.resolve_left h0
  have HC := Lib.hid hC
  have HM := Lib.hid hm
  have HR := Lib.hid hr
  have WS := Lib.hid (fun l s w h1 h2 h3 => wstr_any B b l s w h1 h2 h3)
  clear hC hm hr hxr
  go_enter Tryz.func89, Tryz.ntmps89
  go_wp2_with fail
  go_loopw [4, 9] (fun s i wr => ∃ j : Nat, j ≤ xs.length ∧ i = .int .i64 j ∧ s = .string ⟨(sepB j).toArray⟩ ∧ Hid ((pre (showsL (xs.take j))).length ≤ wtL (xs.take j)) ∧ Hid (Bld B b (l ++ pre (showsL (xs.take j))) wr) ∧ KeepsT B w wr) (fun _ i _ => xs.length - (intOf i).toNat)
  case atStart => exact ⟨0, Nat.zero_le _, rfl, rfl, Lib.hid (by rw [List.take_zero, showsL]; simp [pre]), Lib.hid (by rw [List.take_zero, showsL]; simp only [pre, List.isEmpty_nil, if_true, List.append_nil]; exact hb), KeepsT.refl _ _⟩
  case round =>
    obtain ⟨j, hj, rfl, rfl, HL, HB, hk⟩ := hrel
    have hbr := hb0.trans (hk.below.mono hB)
    have hbs := hk.below.size
    have hlw := wtL_part xs j
    have hll : (l ++ pre (showsL (xs.take j))).length ≤ l.length + wtL (xs.take j) := by rw [List.length_append]; have := HL.out; omega
    by_cases hjl : j < xs.length
    · have hil : (j : Int) < (xs.length : Int) := by omega
      obtain ⟨u, hu, huk, hat⟩ := tmAt_tv (rowAt_get HR.out hjl)
      obtain ⟨d0, d1, d2, d3⟩ := hat.below hbr
      have hwn := wtL_take hjl
      have hwp := wtL_part xs (j + 1)
      have hps := pre_step hjl
      rw [← hu] at hps hwn
      have HPS := Lib.hid hps
      have HWN := Lib.hid hwn
      have hsl : (sepB j).length ≤ 2 := by unfold sepB; split <;> simp
      have hss : (⟨(sepB j).toArray⟩ : ByteArray).size = (sepB j).length := by show (sepB j).toArray.size = _; simp
      have W1 := WS.out (l ++ pre (showsL (xs.take j))) ⟨(sepB j).toArray⟩ (wr.alloc (.cells #[.int .i64 u.t.kind, .string u.t.name, .int .i64 u.t.n, .slice u.a u.t.args.length u.c] 100)) (bld_below HB.out ((Below.refl _ _).alloc (Nat.le_refl _) _)) (by omega) (by simp; omega)
      have hka := hk.alloc (by omega) (.cells #[.int .i64 u.t.kind, .string u.t.name, .int .i64 u.t.n, .slice u.a u.t.args.length u.c] 100)
      have C := Lib.hid (fun w' h3 h4 h5 => HC.out u (l ++ pre (showsL (xs.take j)) ++ sepB j) w' (by rw [hu]; exact HM.out j hjl) huk (by rw [List.length_append]; omega) h3 h4 h5)
      simp only [Tv.val] at C
      have W1H := Lib.hid W1
      have HSL := Lib.hid hsl
      have HLL := Lib.hid hll
      clear hu huk hat hps hwn W1 hsl hss hll
      go_wp2_with fail
      refine W1H.out.mono ?_; rintro e w1 ⟨rfl, hb1, hk1⟩
      obtain ⟨b0, b1, b2, b3, _, _, _, _⟩ := hk1.box
      have hka1 := hka.trans hk1
      have hb1' : Bld B b (l ++ pre (showsL (xs.take j)) ++ sepB j) w1 := by simpa using hb1
      have C1 := Lib.hid (C.out w1 hb1' (hb0.trans (hka1.below.mono hB)) (by have := hka1.below.size; omega))
      clear hb1 hk1 hb1'
      go_wp2_with fail
      refine C1.out.mono ?_; rintro e w2 ⟨rfl, hlen2, hb2, hk2⟩
      have HL2 := Lib.hid hlen2
      have HB2 := Lib.hid hb2
      have hka2 := hka1.trans hk2
      clear hlen2 hb2 hk2
      go_wp2_with fail
      go_roundw
      case rel =>
        refine ⟨j + 1, by omega, by go_num, ?_, Lib.hid ?_, Lib.hid ?_, hka2⟩
        · unfold sepB; rw [if_neg (by omega)]
        · rw [HPS.out, List.length_append, List.length_append]; have := HL.out; have := HL2.out; have := HSL.out; have := HWN.out; omega
        · rw [HPS.out, ← List.append_assoc, ← List.append_assoc]; exact HB2.out
      case measure => simp [intOf]; omega
    · obtain rfl : j = xs.length := by omega
      rw [List.take_length] at HB HL
      rw [List.take_length] at hll
      have W1 := Lib.hid (WS.out _ ⟨#[41]⟩ wr HB.out (by have := hll; show _ + 1 ≤ _; omega) (by omega))
      have HLL := Lib.hid hll
      clear hll
      go_wp2_with fail
      refine W1.out.mono ?_; rintro e w1 ⟨rfl, hb1, hk1⟩
      have HB1 := Lib.hid hb1
      clear hb1
      go_wp2_with fail
      go_end0
      exact ⟨rfl, HL.out, by rw [← List.append_assoc]; exact HB1.out, hk.trans hk1⟩

set_option maxRecDepth 100000 in
set_option maxHeartbeats 4000000 in
theorem write_tm (w0 : World) (B b : Nat) (hB : w0.heap.size ≤ B) (hP : Pow w0) (m : Nat) : WriteUpto w0 B b m := by
  induction m with
  | zero => intro x l w h; have := parts_pos x.t; omega
  | succ m ih =>
    intro x l w hm hx hlen hb hb0 hBw
    obtain ⟨⟨k, s, n, xs⟩, a, c⟩ := x
    obtain ⟨hfit, hxa⟩ := hx
    have hE : showT (.mk k s n xs) = if k = 1 ∨ k = 2 then s.data.toList else if k = 3 then 36 :: Lib.itoa n else if k = 4 then 37 :: Lib.itoa n else if k ≠ 5 then [63] else s.data.toList ++ pre (showsL xs) ++ close (showsL xs) := by rw [showT]
    have hW : wtT (.mk k s n xs) = s.size + 30 + wtL xs := by rw [wtT]
    simp only [Tv.val, Tm.kind, Tm.name, Tm.n, Tm.args] at hfit hxa hm hlen ⊢
    have hpl : ∀ j (h : j < xs.length), xs[j].parts ≤ m := fun j h => by
      have := parts_arg (.mk k s n xs) (j := j) h
      have e : (Tm.mk k s n xs).args[j] = xs[j] := rfl
      rw [e] at this; omega
    have hil := Lib.itoa_length_le n hfit.nlo hfit.nhi
    have hka : KeepsT B w (w.alloc (.cells #[.int .i64 k, .string s, .int .i64 n, .slice a xs.length c] 100)) := (KeepsT.refl _ _).alloc hBw _
    have hba := bld_below hb ((Below.refl w.heap.size w).alloc (Nat.le_refl _) (.cells #[.int .i64 k, .string s, .int .i64 n, .slice a xs.length c] 100))
    have D := Lib.hid (fun w' (h : Below w0.heap.size w0 w') => pdigits_any n hfit.nlo hfit.nhi w' (hP.below h))
    have WS := Lib.hid (fun l s w h1 h2 h3 => wstr_any B b l s w h1 h2 h3)
    have hss : s.data.toList.length = s.size := by simp
    have hxl := hxa.1
    have W0 := Lib.hid (WS.out l s (w.alloc (.cells #[.int .i64 k, .string s, .int .i64 n, .slice a xs.length c] 100)) hba (by omega) (by simp; omega))
    have WA := Lib.hid (fun l' w' h0 h1 h2 h3 h4 => writeArgs_tm w0 B b m hB ih (.slice a xs.length c) xs l' w' hpl ⟨a, c, rfl, hxa⟩ h0 h1 h2 h3 h4)
    have HB0 := Lib.hid hb0
    have HBA := Lib.hid hba
    clear ih hpl hm hfit hxa hb hb0 hba
    by_cases h12 : k = 1 ∨ k = 2
    · have hr := Lib.hid (show showT (.mk k s n xs) = s.data.toList from by rw [hE, if_pos h12])
      have HW := Lib.hid (show (showT (.mk k s n xs)).length + 4 ≤ wtT (.mk k s n xs) from by rw [hr.out, hss, hW]; omega)
      clear hE hW hss
      rcases h12 with rfl | rfl
      all_goals
        go_enter Tryz.func80, Tryz.ntmps80
        go_wp2_with fail
        refine W0.out.mono ?_; rintro e w1 ⟨rfl, hb1, hk1⟩
        obtain ⟨b0, b1, b2, b3, _, _, _, _⟩ := hk1.box
        have HB1 := Lib.hid hb1
        clear hb1
        go_wp2_with fail
        go_end0
        exact ⟨rfl, HW.out, by rw [hr.out]; exact HB1.out, hka.trans hk1⟩
    · have q1 : (k == 1) = false := by rw [beq_eq_false_iff_ne]; omega
      have q2 : (k == 2) = false := by rw [beq_eq_false_iff_ne]; omega
      rw [if_neg h12] at hE
      by_cases h3 : k = 3
      · have hr := Lib.hid (show showT (.mk k s n xs) = 36 :: Lib.itoa n from by rw [hE, if_pos h3])
        have HW := Lib.hid (show (showT (.mk k s n xs)).length + 4 ≤ wtT (.mk k s n xs) from by rw [hr.out, List.length_cons, hW]; omega)
        subst h3
        clear hE hW hss h12 W0 WA
        generalize Lib.itoa n = il at D hil hr
        have hcs : ((⟨#[36]⟩ : ByteArray) ++ ⟨il.toArray⟩).data.toList = 36 :: il := by simp
        have hcz : ((⟨#[36]⟩ : ByteArray) ++ ⟨il.toArray⟩).size = il.length + 1 := by show ((⟨#[36]⟩ : ByteArray) ++ ⟨il.toArray⟩).data.size = _; rw [← Array.length_toList, hcs]; rfl
        have HCS := Lib.hid hcs
        have HCZ := Lib.hid hcz
        clear hcs hcz
        go_enter Tryz.func80, Tryz.ntmps80
        go_wp2_with fail
        refine (D.out _ (HB0.out.alloc (by omega) _)).mono ?_; rintro e w1 ⟨rfl, hb1⟩
        have hk1 := keepsT_in (n₀ := B) hb1 (by simp; omega)
        have HBD := Lib.hid (bld_below HBA.out hb1)
        have hs1 := hb1.size
        simp at hs1
        go_wp2_with fail
        refine (WS.out l _ _ HBD.out (by have := HCZ.out; simp only [HCZ.out]; omega) (by omega)).mono ?_; rintro e w2 ⟨rfl, hb2, hk2⟩
        have hkk := hk1.trans hk2
        obtain ⟨b0, b1, b2, b3, _, _, _, _⟩ := hkk.box
        have HB1 := Lib.hid hb2
        clear hb2
        go_wp2_with fail
        go_end0
        exact ⟨rfl, HW.out, by rw [hr.out, ← HCS.out]; exact HB1.out, hka.trans hkk⟩
      by_cases h4 : k = 4
      · have hr := Lib.hid (show showT (.mk k s n xs) = 37 :: Lib.itoa n from by rw [hE, if_neg h3, if_pos h4])
        have HW := Lib.hid (show (showT (.mk k s n xs)).length + 4 ≤ wtT (.mk k s n xs) from by rw [hr.out, List.length_cons, hW]; omega)
        subst h4
        clear hE hW hss h12 W0 WA
        generalize Lib.itoa n = il at D hil hr
        have hcs : ((⟨#[37]⟩ : ByteArray) ++ ⟨il.toArray⟩).data.toList = 37 :: il := by simp
        have hcz : ((⟨#[37]⟩ : ByteArray) ++ ⟨il.toArray⟩).size = il.length + 1 := by show ((⟨#[37]⟩ : ByteArray) ++ ⟨il.toArray⟩).data.size = _; rw [← Array.length_toList, hcs]; rfl
        have HCS := Lib.hid hcs
        have HCZ := Lib.hid hcz
        clear hcs hcz
        go_enter Tryz.func80, Tryz.ntmps80
        go_wp2_with fail
        refine (D.out _ (HB0.out.alloc (by omega) _)).mono ?_; rintro e w1 ⟨rfl, hb1⟩
        have hk1 := keepsT_in (n₀ := B) hb1 (by simp; omega)
        have HBD := Lib.hid (bld_below HBA.out hb1)
        have hs1 := hb1.size
        simp at hs1
        go_wp2_with fail
        refine (WS.out l _ _ HBD.out (by have := HCZ.out; simp only [HCZ.out]; omega) (by omega)).mono ?_; rintro e w2 ⟨rfl, hb2, hk2⟩
        have hkk := hk1.trans hk2
        obtain ⟨b0, b1, b2, b3, _, _, _, _⟩ := hkk.box
        have HB1 := Lib.hid hb2
        clear hb2
        go_wp2_with fail
        go_end0
        exact ⟨rfl, HW.out, by rw [hr.out, ← HCS.out]; exact HB1.out, hka.trans hkk⟩
      have q3 : (k == 3) = false := by rw [beq_eq_false_iff_ne]; exact h3
      have q4 : (k == 4) = false := by rw [beq_eq_false_iff_ne]; exact h4
      rw [if_neg h3, if_neg h4] at hE
      by_cases h5 : k = 5
      case neg =>
        have hr := Lib.hid (show showT (.mk k s n xs) = [63] from by rw [hE, if_pos h5])
        have HW := Lib.hid (show (showT (.mk k s n xs)).length + 4 ≤ wtT (.mk k s n xs) from by rw [hr.out, hW]; simp; omega)
        have q5 : (k == 5) = false := by rw [beq_eq_false_iff_ne]; exact h5
        have WQ := Lib.hid (WS.out l ⟨#[63]⟩ _ HBA.out (by show l.length + 1 ≤ _; omega) (by simp; omega))
        clear hE hW hss h12 W0 WA h3 h4 h5
        go_enter Tryz.func80, Tryz.ntmps80
        go_wp2_with fail
        refine WQ.out.mono ?_; rintro e w1 ⟨rfl, hb1, hk1⟩
        obtain ⟨b0, b1, b2, b3, _, _, _, _⟩ := hk1.box
        have HB1 := Lib.hid hb1
        clear hb1
        go_wp2_with fail
        go_end0
        exact ⟨rfl, HW.out, by rw [hr.out]; exact HB1.out, hka.trans hk1⟩
      subst h5
      rw [if_neg (by simp)] at hE
      by_cases hx : xs = []
      · subst hx
        have hr := Lib.hid (show showT (.mk 5 s n []) = s.data.toList from by rw [hE, showsL]; simp [pre, close])
        have HW := Lib.hid (show (showT (.mk 5 s n [])).length + 4 ≤ wtT (.mk 5 s n []) from by rw [hr.out, hss, hW]; omega)
        simp only [List.length_nil] at hka W0
        clear hE hW hss h12 WA h3 h4
        go_enter Tryz.func80, Tryz.ntmps80
        go_wp2_with fail
        refine W0.out.mono ?_; rintro e w1 ⟨rfl, hb1, hk1⟩
        obtain ⟨b0, b1, b2, b3, _, _, _, _⟩ := hk1.box
        have HB1 := Lib.hid hb1
        clear hb1
        go_wp2_with fail
        go_end0
        exact ⟨rfl, HW.out, by rw [hr.out]; exact HB1.out, hka.trans hk1⟩
      · have hne : (showsL xs).isEmpty = false := by
          rw [showsL_empty]; cases xs with
          | nil => exact absurd rfl hx
          | cons _ _ => rfl
        have hr := Lib.hid (show showT (.mk 5 s n xs) = s.data.toList ++ (pre (showsL xs) ++ [41]) from by rw [hE, List.append_assoc]; unfold close; rw [hne]; rfl)
        have hx1 : 0 < (xs.length : Int) := by have := List.length_pos_iff.2 hx; omega
        have HX := Lib.hid hx
        have HWW := Lib.hid hW
        have HSS := Lib.hid hss
        clear hE hW hss h12 h3 h4 hx hne
        go_enter Tryz.func80, Tryz.ntmps80
        go_wp2_with fail
        refine W0.out.mono ?_; rintro e w1 ⟨rfl, hb1, hk1⟩
        obtain ⟨b0, b1, b2, b3, _, _, _, _⟩ := hk1.box
        have hk01 := hka.trans hk1
        have hbw := hk01.below.size
        have W2 := Lib.hid (WA.out (l ++ s.data.toList) w1 HX.out (by rw [List.length_append]; have := HWW.out; have := HSS.out; omega) hb1 (HB0.out.trans (hk01.below.mono hB)) (by omega))
        clear hb1
        go_wp2_with fail
        refine W2.out.mono ?_; rintro e w2 ⟨rfl, hl2, hb2, hk2⟩
        have HB2 := Lib.hid hb2
        have HL2 := Lib.hid hl2
        clear hb2 hl2
        go_wp2_with fail
        go_end0
        exact ⟨rfl, by rw [hr.out, List.length_append, List.length_append, HSS.out, HWW.out]; have := HL2.out; simp; omega, by rw [hr.out, ← List.append_assoc]; exact HB2.out, hk01.trans hk2⟩

set_option maxRecDepth 100000 in
set_option maxHeartbeats 1000000 in
/-- A term as a text, by the program's Show. -/
theorem pshow_tm (x : Tv) (w : World) (hx : x.ok w) (hP : Pow w) (hw : wtT x.t ≤ 100000000) :
    Calls Tryz.prog 65 #[x.val] w fun e w' => e = .returned (.string ⟨(showT x.t).toArray⟩) ∧ Below w.heap.size w w' := by
  have hW := fun B b hB => write_tm w B b hB hP x.t.parts x
  obtain ⟨t, a, c⟩ := x
  simp only [Tv.val] at hW hw ⊢
  have hz0 : (w.alloc (.cells #[.int .i64 t.kind, .string t.name, .int .i64 t.n, .slice a t.args.length c] 100)).heap.size = w.heap.size + 1 := by simp
  have hF := Lib.fresh_isBuilder 61 5 (w.alloc (.cells #[.int .i64 t.kind, .string t.name, .int .i64 t.n, .slice a t.args.length c] 100))
  rw [hz0] at hF
  have hB1 : Below w.heap.size w ((w.alloc (.cells #[.int .i64 t.kind, .string t.name, .int .i64 t.n, .slice a t.args.length c] 100)).alloc (.cells #[.pointer none, .slice none 0 0] 61)) := ((Below.refl _ _).alloc (Nat.le_refl _) _).alloc (by simp) _
  have C := Lib.hid (hW (w.heap.size + 1) (w.heap.size + 1) (by omega) [] _ (Nat.le_refl _) hx (by simpa using hw) hF hB1 (by simp))
  have HB1 := Lib.hid hB1
  clear hW hF hx hB1
  go_enter Tryz.func65, Tryz.ntmps65
  go_wp2_with fail
  refine C.out.mono ?_; rintro e w1 ⟨rfl, _, hb1, hk1⟩
  rw [List.nil_append] at hb1
  have S := Lib.hid (Tryz.Builder_String_any (w.heap.size + 1) (w.heap.size + 1) (showT t) w1 hb1 (by have := hk1.below.size; simp at this; omega))
  have HK := Lib.hid (HB1.out.trans (hk1.below.mono (by omega)))
  clear hb1 hk1 C
  go_wp2_with fail
  refine S.out.mono ?_; rintro e w2 ⟨rfl, hb2⟩
  go_wp2_with fail
  go_ret
  exact ⟨rfl, HK.out.trans (hb2.mono (by omega))⟩
end Go.Proofs.YtldgbdmiebipnaaGreatDoor
