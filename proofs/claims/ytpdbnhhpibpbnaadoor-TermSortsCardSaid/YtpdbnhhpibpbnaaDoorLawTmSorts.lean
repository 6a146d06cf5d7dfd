/-
  Layer 3's law of the order of rows, walked, from what the program's Sort and Set answer.
-/
import Derived.Test.YtpdbnhhpibpbnaaDoorSetTm
namespace Go.Proofs.YtpdbnhhpibpbnaaDoor
open Go.RowKit

theorem smalls_parts {ts : List Tm} (h : smallsB ts = true) : ts.length ≤ 1000 ∧ ∀ t ∈ ts, t.parts ≤ 100000 :=
  ⟨by have := (smalls_of h).1; omega, fun t ht => by have := small_parts ((smalls_of h).2 t ht); omega⟩
theorem setL_len (ts : List Tm) : (setL ts).length ≤ ts.length := by
  unfold setL; have := onceL_len (sortL ts); rw [sortL_len] at this; exact this
theorem eqTs_self (ts : List Tm) : eqTs ts ts = true := eqTs_true rfl

set_option maxRecDepth 100000 in
set_option maxHeartbeats 2000000 in
theorem lawSorts_of
    (w : World) (AW : ∀ w' : World, Below w.heap.size w w' → Calls Tryd.prog 8 #[] w' fun e w'' => e = .returned (.bool true) ∧ Below w'.heap.size w' w'')
    (PSORT : ∀ (v : Value) (ts : List Tm) (w : World), Tms w v ts → ts.length ≤ 1000 → (∀ t ∈ ts, t.parts ≤ 100000) →
      Calls Tryd.prog 21 #[v] w fun e w' => ∃ u, e = .returned u ∧ Tms w' u (sortL ts) ∧ Below w.heap.size w w')
    (PSET : ∀ (v : Value) (ts : List Tm) (w : World), Tms w v ts → ts.length ≤ 1000 → (∀ t ∈ ts, t.parts ≤ 100000) →
      Calls Tryd.prog 23 #[v] w fun e w' => ∃ u, e = .returned u ∧ Tms w' u (setL ts) ∧ Below w.heap.size w w')
    (v : Value) (ts : List Tm) (hv : Tms w v ts) :
    Calls Tryd.prog 5 #[v] w fun e w' => e = .returned (.bool true) ∧ Below w.heap.size w w' := by
  have A := Lib.hid (AW w (Below.refl _ _))
  have HV := Lib.hid hv
  have SM := Lib.hid (fun w hv => smalls_tm v ts w hv)
  clear AW hv
  cases hf : smallsB ts with
  | false =>
    rw [hf] at SM
    clear hf PSORT PSET
    go_enter Tryd.func5, Tryd.ntmps5
    go_wp2_with fail
    refine A.out.mono ?_; rintro e w1 ⟨rfl, hb1⟩
    go_wp2_with fail
    refine (SM.out _ (HV.out.below hb1)).mono ?_; rintro e w2 ⟨rfl, hb2⟩
    replace hb1 := below_next hb1 hb2
    clear hb2
    go_wp2_with fail
    go_ret
    exact ⟨rfl, hb1⟩
  | true =>
    rw [hf] at SM
    obtain ⟨hl, hp⟩ := smalls_parts hf
    have hsl : (sortL ts).length ≤ 9223372036854775807 := by rw [sortL_len]; omega
    have hul : (setL ts).length ≤ 9223372036854775807 := by have := setL_len ts; omega
    have P1 := Lib.hid (fun w h => PSORT v ts w h hl hp)
    have P2 := Lib.hid (fun w h => PSET v ts w h hl hp)
    have R1 := Lib.hid (fun w h => sort_tm v ts w h hl hp)
    have R2 := Lib.hid (fun w h => set_tm v ts w h hl hp)
    have T := Lib.hid (fun v u ts us w hv hu => sames_tm v u ts us w hv hu)
    have HL := Lib.hid (And.intro hsl hul)
    clear hf PSORT PSET hp hl hsl hul
    go_enter Tryd.func5, Tryd.ntmps5
    go_wp2_with fail
    refine A.out.mono ?_; rintro e w1 ⟨rfl, hb1⟩
    go_wp2_with fail
    refine (SM.out _ (HV.out.below hb1)).mono ?_; rintro e w2 ⟨rfl, hb2⟩
    replace hb1 := below_next hb1 hb2
    clear hb2
    go_wp2_with fail
    refine (P1.out _ (HV.out.below hb1)).mono ?_; rintro e w3 ⟨u1, rfl, hu1, hb2⟩
    replace hb1 := below_next hb1 hb2
    clear hb2
    go_wp2_with fail
    refine (R1.out _ (HV.out.below hb1)).mono ?_; rintro e w4 ⟨u2, rfl, hu2, hb2⟩
    have hu1' := hu1.below hb2
    have hu2' := hu2.tms hb2 HL.out.1
    replace hb1 := below_next hb1 hb2
    have TT := Lib.hid (T.out u1 u2 _ _ w4 hu1' hu2')
    rw [eqTs_self] at TT
    clear hb2 hu1 hu2 hu1' hu2'
    go_wp2_with fail
    refine TT.out.mono ?_; rintro e w5 ⟨rfl, hb2⟩
    replace hb1 := below_next hb1 hb2
    clear hb2 TT
    go_wp2_with fail
    refine (P2.out _ (HV.out.below hb1)).mono ?_; rintro e w6 ⟨u3, rfl, hu1, hb2⟩
    replace hb1 := below_next hb1 hb2
    clear hb2
    go_wp2_with fail
    refine (R2.out _ (HV.out.below hb1)).mono ?_; rintro e w7 ⟨u4, rfl, hu2, hb2⟩
    have hu1' := hu1.below hb2
    have hu2' := hu2.tms hb2 HL.out.2
    replace hb1 := below_next hb1 hb2
    have TT := Lib.hid (T.out u3 u4 _ _ w7 hu1' hu2')
    rw [eqTs_self] at TT
    clear hb2 hu1 hu2 hu1' hu2'
    go_wp2_with fail
    refine TT.out.mono ?_; rintro e w8 ⟨rfl, hb2⟩
    replace hb1 := below_next hb1 hb2
    clear hb2 TT
    go_wp2_with fail
    go_ret
    exact ⟨rfl, hb1⟩
end Go.Proofs.YtpdbnhhpibpbnaaDoor
