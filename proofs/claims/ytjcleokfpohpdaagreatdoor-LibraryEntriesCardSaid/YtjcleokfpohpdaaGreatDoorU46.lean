/-
  LibraryEntries: the functions and rules of any primitive; the primitives' names.
-/
import Derived.Test.YtjcleokfpohpdaaGreatDoorU45
import Derived.Test.YtjcleokfpohpdaaGreatDoorU33
namespace Go.Proofs.YtjcleokfpohpdaaGreatDoor
open Go.RowKit
set_option maxRecDepth 100000 in
set_option maxHeartbeats 4000000 in
theorem lawEntries12_any (s : ByteArray) (w : World) (HPW : Pow w) :
    Calls Tryz.prog 7 #[.string s] w fun e w' => e = .returned (.bool true) ∧ Below w.heap.size w w' := by
  have AW := Lib.hid (awake12_any w HPW)
  have PG := Lib.hid (fun (W : World) => pget12_any s W)
  have RG := Lib.hid (fun (W : World) => rget12_any s W)
  unfold PGetPost at PG
  unfold RGetPost at RG
  have PN := Lib.hid (fun (W : World) => pnames12_any W)
  have RN := Lib.hid (fun (W : World) => rnames12_any W)
  have TX := Lib.hid (fun (u v : Value) (W : World) (h1 : Strs W u libN) (h2 : Strs W v libN) => (rtexts_any u v libN libN W h1 h2).mono fun e w' hh => (show e = .returned (.bool true) ∧ Below W.heap.size W w' from ⟨by rw [hh.1]; simp, hh.2⟩))
  have SF := Lib.hid (fun (u v : Value) (W : World) (h1 : Fus W u (entF s)) (h2 : Fus W v (entF s)) => (rsamef_any u v (entF s) (entF s) W h1 h2).mono fun e w' hh => (show e = .returned (.bool true) ∧ Below W.heap.size W w' from ⟨by rw [hh.1, eqF_yes rfl], hh.2⟩))
  have SR := Lib.hid (fun (u v : Value) (W : World) (h1 : Rls W u (entR s)) (h2 : Rls W v (entR s)) => (rrules_any u v (entR s) (entR s) W h1 h2).mono fun e w' hh => (show e = .returned (.bool true) ∧ Below W.heap.size W w' from ⟨by rw [hh.1, eqRs_true rfl], hh.2⟩))
  clear HPW
  rcases Int.lt_or_le 100 (s.size : Int) with hs | hs
  · go_enter Tryz.func7, Tryz.ntmps7
    go_wp2_with fail
    refine AW.out.mono ?_; rintro e w1 ⟨rfl, hb1⟩
    have HB1 := Lib.hid hb1
    clear hb1
    go_wp2_with fail
    go_ret
    exact ⟨rfl, HB1.out⟩
  · have HEN := Lib.hid (show (isEnt s = true → entN s = s) ∧ (isEnt s = false → entN s = ⟨#[]⟩) from ⟨fun h => by unfold entN; rw [h]; rfl, fun h => by unfold entN; rw [h]; rfl⟩)
    have KEY : ∀ (is : Bool) (nm : ByteArray), isEnt s = is → entN s = nm → (nm = if is then s else ⟨#[]⟩) → Calls Tryz.prog 7 #[.string s] w fun e w' => e = .returned (.bool true) ∧ Below w.heap.size w w' := by
      intro is nm his hnm hne
      rw [his, hnm] at PG
      rw [his] at RG
      clear his hnm HEN
      cases is with
      | true =>
        obtain rfl : nm = s := hne
        go_enter Tryz.func7, Tryz.ntmps7
        go_wp2_with fail
        refine AW.out.mono ?_; rintro e w1 ⟨rfl, hb1⟩
        have HB1 := Lib.hid hb1
        clear hb1
        go_wp2_with fail
        refine (PG.out _).mono ?_; rintro e w2 ⟨vf, vr, rfl, hf, hr, hb2⟩
        have HF := Lib.hid hf
        have HR := Lib.hid hr
        obtain ⟨a3, c3, rfl, _, _⟩ := hf
        obtain ⟨a4, c4, rfl, _, _⟩ := hr
        have hbx := box3_new w2 (.string nm) (.slice a3 (entF nm).length c3) (.slice a4 (entR nm).length c4) 88
        have hbA : Below w2.heap.size w2 (w2.alloc (.cells #[.string nm, .slice a3 (entF nm).length c3, .slice a4 (entR nm).length c4] 88)) := (Below.refl _ _).alloc (Nat.le_refl _) _
        have HBX := Lib.hid hbx
        have HBA := Lib.hid hbA
        have HB2 := Lib.hid (below_next (below_next HB1.out hb2) hbA)
        clear hb2 hbx hbA
        go_wp2_with fail
        refine (RG.out _).mono ?_; rintro e w3 ⟨rf, rr, rfl, hrf, hrr, hb3⟩
        have hbw := below_next HBA.out hb3
        have SFF := Lib.hid (SF.out (.slice a3 (entF nm).length c3) rf w3 (HF.out.below hbw) hrf)
        have HRR := Lib.hid hrr
        have HRW := Lib.hid (HR.out.below hbw)
        have HB3 := Lib.hid (below_next HB2.out hb3)
        obtain ⟨a5, c5, rfl, _, _⟩ := hrf
        obtain ⟨a6, c6, rfl, _, _⟩ := hrr
        obtain ⟨x0, x1, x2, _, _, _⟩ := HBX.out.below hb3
        have HX3 := Lib.hid (HBX.out.below hb3)
        have hnn : (nm.toList == nm.toList) = true := by simp
        clear hb3 hbw
        go_wp2_with fail
        refine SFF.out.mono ?_; rintro e w4 ⟨rfl, hb4⟩
        obtain ⟨x0, x1, x2, _, _, _⟩ := HX3.out.below hb4
        have SRR := Lib.hid (SR.out _ _ w4 (HRW.out.below hb4) (HRR.out.below hb4))
        have HB4 := Lib.hid (below_next HB3.out hb4)
        clear hb4
        go_wp2_with fail
        refine SRR.out.mono ?_; rintro e w5 ⟨rfl, hb5⟩
        have HB5 := Lib.hid (below_next HB4.out hb5)
        clear hb5 x0 x1 x2
        go_wp2_with fail
        refine (PN.out _).mono ?_; rintro e w6 ⟨un, rfl, hun, hb6⟩
        have HUN := Lib.hid hun
        obtain ⟨a7, c7, rfl, _, _⟩ := hun
        have HB6 := Lib.hid (below_next HB5.out hb6)
        clear hb6
        go_wp2_with fail
        refine (RN.out _).mono ?_; rintro e w7 ⟨rn, rfl, hrn, hb7⟩
        have T := Lib.hid (TX.out _ rn w7 (HUN.out.below hb7) hrn)
        obtain ⟨a8, c8, rfl, _, _⟩ := hrn
        have HB7 := Lib.hid (below_next HB6.out hb7)
        clear hb7
        go_wp2_with fail
        refine T.out.mono ?_; rintro e w8 ⟨rfl, hb8⟩
        have HB8 := Lib.hid (below_next HB7.out hb8)
        clear hb8
        go_wp2_with fail
        go_ret
        exact ⟨rfl, HB8.out⟩
      | false =>
        obtain rfl : nm = ⟨#[]⟩ := hne
        go_enter Tryz.func7, Tryz.ntmps7
        go_wp2_with fail
        refine AW.out.mono ?_; rintro e w1 ⟨rfl, hb1⟩
        have HB1 := Lib.hid hb1
        clear hb1
        go_wp2_with fail
        refine (PG.out _).mono ?_; rintro e w2 ⟨vf, vr, rfl, hf, hr, hb2⟩
        have HF := Lib.hid hf
        have HR := Lib.hid hr
        obtain ⟨a3, c3, rfl, _, _⟩ := hf
        obtain ⟨a4, c4, rfl, _, _⟩ := hr
        have hbx := box3_new w2 (.string ⟨#[]⟩) (.slice a3 (entF s).length c3) (.slice a4 (entR s).length c4) 88
        have hbA : Below w2.heap.size w2 (w2.alloc (.cells #[.string ⟨#[]⟩, .slice a3 (entF s).length c3, .slice a4 (entR s).length c4] 88)) := (Below.refl _ _).alloc (Nat.le_refl _) _
        have HBX := Lib.hid hbx
        have HBA := Lib.hid hbA
        have HB2 := Lib.hid (below_next (below_next HB1.out hb2) hbA)
        clear hb2 hbx hbA
        go_wp2_with fail
        refine (RG.out _).mono ?_; rintro e w3 ⟨rf, rr, rfl, hrf, hrr, hb3⟩
        have hbw := below_next HBA.out hb3
        have SFF := Lib.hid (SF.out (.slice a3 (entF s).length c3) rf w3 (HF.out.below hbw) hrf)
        have HRR := Lib.hid hrr
        have HRW := Lib.hid (HR.out.below hbw)
        have HB3 := Lib.hid (below_next HB2.out hb3)
        obtain ⟨a5, c5, rfl, _, _⟩ := hrf
        obtain ⟨a6, c6, rfl, _, _⟩ := hrr
        obtain ⟨x0, x1, x2, _, _, _⟩ := HBX.out.below hb3
        have HX3 := Lib.hid (HBX.out.below hb3)
        clear hb3 hbw
        go_wp2_with fail
        refine SFF.out.mono ?_; rintro e w4 ⟨rfl, hb4⟩
        obtain ⟨x0, x1, x2, _, _, _⟩ := HX3.out.below hb4
        have SRR := Lib.hid (SR.out _ _ w4 (HRW.out.below hb4) (HRR.out.below hb4))
        have HB4 := Lib.hid (below_next HB3.out hb4)
        clear hb4
        go_wp2_with fail
        refine SRR.out.mono ?_; rintro e w5 ⟨rfl, hb5⟩
        have HB5 := Lib.hid (below_next HB4.out hb5)
        clear hb5 x0 x1 x2
        go_wp2_with fail
        refine (PN.out _).mono ?_; rintro e w6 ⟨un, rfl, hun, hb6⟩
        have HUN := Lib.hid hun
        obtain ⟨a7, c7, rfl, _, _⟩ := hun
        have HB6 := Lib.hid (below_next HB5.out hb6)
        clear hb6
        go_wp2_with fail
        refine (RN.out _).mono ?_; rintro e w7 ⟨rn, rfl, hrn, hb7⟩
        have T := Lib.hid (TX.out _ rn w7 (HUN.out.below hb7) hrn)
        obtain ⟨a8, c8, rfl, _, _⟩ := hrn
        have HB7 := Lib.hid (below_next HB6.out hb7)
        clear hb7
        go_wp2_with fail
        refine T.out.mono ?_; rintro e w8 ⟨rfl, hb8⟩
        have HB8 := Lib.hid (below_next HB7.out hb8)
        clear hb8
        go_wp2_with fail
        go_ret
        exact ⟨rfl, HB8.out⟩
    exact KEY (isEnt s) (entN s) rfl rfl (by unfold entN; rfl)
end Go.Proofs.YtjcleokfpohpdaaGreatDoor
