/-
  Any name, or the first one made of it that is not used; and chapter 8's example: what the law and the example answer, from what the program's Fresh answers.
-/
import Derived.Test.YtlbdlehlgalomaaDoorRFreshS
import Derived.Test.YtlbdlehlgalomaaDoorRFewS
namespace Go.Proofs.YtlbdlehlgalomaaDoor
open Go.RowKit

/-- A call of the program's Fresh, in the memory of w and whatever lies behind it. -/
def AskFresh (w : World) : Prop := ∀ (s : ByteArray) (v : Value) (zs : List ByteArray) (W : World), Below w.heap.size w W → Strs W v zs → zs.length ≤ 40 → (∀ z ∈ zs, z.size ≤ 100) → s.size ≤ 100 →
  Calls Tryd.prog 6 #[.string s, v] W fun e w' => e = .returned (.string (freshS s zs)) ∧ Below W.heap.size W w'
theorem fresh_x : freshS ⟨#[88]⟩ [⟨#[88]⟩, ⟨#[88, 95, 49]⟩] = ⟨#[88, 95, 50]⟩ := by
  have e1 : numbered ⟨#[88]⟩ 1 = ⟨#[88, 95, 49]⟩ := by
    unfold numbered; rw [Lib.itoa_nonneg, Lib.decDigits_one (by omega)]; rfl
  have e2 : numbered ⟨#[88]⟩ 2 = ⟨#[88, 95, 50]⟩ := by
    unfold numbered; rw [Lib.itoa_nonneg, Lib.decDigits_one (by omega)]; rfl
  rw [← e2]
  refine freshS_new ((Lib.containsS_iff _ _).2 (List.mem_cons_self ..)) ⟨by omega, fun m h1 h2 => ?_, ?_⟩
  · obtain rfl : m = 1 := by omega
    rw [e1]; exact List.mem_cons_of_mem _ (List.mem_cons_self ..)
  · rw [e2]; intro h
    rcases List.mem_cons.1 h with h | h
    · exact absurd (congrArg (fun b : ByteArray => b.data.size) h) (by decide)
    · rw [List.mem_singleton] at h
      exact absurd (congrArg (fun b : ByteArray => b.data.toList) h) (by decide)
theorem fresh_two : ∀ z ∈ [(⟨#[88]⟩ : ByteArray), ⟨#[88, 95, 49]⟩], z.size ≤ 100 := by
  intro z hz
  rcases List.mem_cons.1 hz with rfl | hz
  · decide
  · rw [List.mem_singleton.1 hz]; decide
theorem fresh_y : freshS ⟨#[89]⟩ [] = ⟨#[89]⟩ := freshS_old (by rw [← Bool.not_eq_true, Lib.containsS_iff]; simp)

set_option maxRecDepth 100000 in
set_option maxHeartbeats 1000000 in
theorem awake8_of (w : World) (PF : AskFresh w) (W : World) (h : Below w.heap.size w W) :
    Calls Tryd.prog 4 #[] W fun e w' => e = .returned (.bool true) ∧ Below W.heap.size W w' := by
  have F1 := Lib.hid (fun (v : Value) (V : World) (hv : Strs V v [⟨#[88]⟩, ⟨#[88, 95, 49]⟩]) (hb : Below W.heap.size W V) => PF ⟨#[88]⟩ v _ V (h.trans (hb.mono h.size)) hv (by decide) fresh_two (by decide))
  have F2 := Lib.hid (fun (V : World) (hb : Below W.heap.size W V) => PF ⟨#[89]⟩ (.slice none 0 0) [] V (h.trans (hb.mono h.size)) ⟨none, 0, rfl, by decide, .inl rfl⟩ (by decide) (fun z hz => by cases hz) (by decide))
  rw [fresh_x] at F1
  rw [fresh_y] at F2
  have hst := Lib.hid (strs_alloc W [⟨#[88]⟩, ⟨#[88, 95, 49]⟩] 9 (by decide))
  clear PF
  go_enter Tryd.func4, Tryd.ntmps4
  go_wp2_with fail
  refine (F1.out _ _ hst.out ((Below.refl _ _).alloc (Nat.le_refl _) _)).mono ?_; rintro e w1 ⟨rfl, hb1⟩
  have hb2 := below_box hb1
  clear hb1
  go_wp2_with fail
  refine (F2.out _ hb2).mono ?_; rintro e w2 ⟨rfl, hb3⟩
  have hb4 := below_next hb2 hb3
  go_wp2_with fail
  go_ret
  exact ⟨rfl, hb4⟩

set_option maxRecDepth 100000 in
set_option maxHeartbeats 1000000 in
theorem lawFresh8_of (w : World) (PF : AskFresh w) (s : ByteArray) (v : Value) (zs : List ByteArray) (hv : Txts w v zs) :
    Calls Tryd.prog 3 #[.string s, v] w fun e w' => e = .returned (.bool true) ∧ Below w.heap.size w w' := by
  have AW := Lib.hid (awake8_of w PF w (Below.refl _ _))
  have HV := Lib.hid hv
  have FW := Lib.hid (fun (W : World) (h : Below w.heap.size w W) => (rfews_any v zs W (hv.below h)).mono (fun e w' hh => (show e = Ending.returned (.bool (fewS zs)) ∧ W = w' from hh)))
  obtain ⟨a, c, rfl, _, _⟩ := hv
  rcases Int.lt_or_le 100 (s.size : Int) with hs | hs
  · have hd : decide ((100 : Int) < (s.size : Int)) = true := decide_eq_true hs
    clear PF
    go_enter Tryd.func3, Tryd.ntmps3
    go_wp2_with fail
    refine AW.out.mono ?_; rintro e w1 ⟨rfl, hb1⟩
    go_wp2_with fail
    go_ret
    exact ⟨rfl, hb1⟩
  · have hd : decide ((100 : Int) < (s.size : Int)) = false := decide_eq_false (by omega)
    cases hf : fewS zs with
    | false =>
      rw [hf] at FW
      clear PF hf
      go_enter Tryd.func3, Tryd.ntmps3
      go_wp2_with fail
      refine AW.out.mono ?_; rintro e w1 ⟨rfl, hb1⟩
      go_wp2_with fail
      refine (FW.out _ hb1).mono ?_; rintro e w2 ⟨rfl, rfl⟩
      go_wp2_with fail
      go_ret
      exact ⟨rfl, hb1⟩
    | true =>
      rw [hf] at FW
      have hl := (fewS_of hf).1
      have hz := (fewS_of hf).2
      have HS := Lib.hid (fun (W : World) (h : Below w.heap.size w W) => (HV.out.below h).strs (by omega))
      have P1 := Lib.hid (fun (W : World) (h : Below w.heap.size w W) => PF s _ zs W h (HS.out W h) hl hz (by omega))
      have R1 := Lib.hid (fun (W : World) (h : Below w.heap.size w W) => rfreshs_any _ zs s W (HS.out W h) (by omega) (by omega))
      have I1 := Lib.hid (fun (W : World) (h : Below w.heap.size w W) => (rin_any _ zs (freshS s zs) W (HS.out W h)).mono (fun e w' hh => (show e = Ending.returned (.bool false) ∧ W = w' from by rw [freshS_free] at hh; exact hh)))
      obtain ⟨r, hr⟩ : ∃ r, freshS s zs = r := ⟨_, rfl⟩
      rw [hr] at P1 R1 I1
      have hq : (r.toList == r.toList) = true := by rw [Lib.bytes_beq_iff]
      clear PF hf hr hz
      go_enter Tryd.func3, Tryd.ntmps3
      go_wp2_with fail
      refine AW.out.mono ?_; rintro e w1 ⟨rfl, hb1⟩
      go_wp2_with fail
      refine (FW.out _ hb1).mono ?_; rintro e w2 ⟨rfl, rfl⟩
      go_wp2_with fail
      refine (P1.out _ hb1).mono ?_; rintro e w3 ⟨rfl, hb3⟩
      have hb4 := below_next hb1 hb3
      go_wp2_with fail
      refine (R1.out _ hb4).mono ?_; rintro e w5 ⟨rfl, hb5⟩
      have hb6 := below_next hb4 hb5
      go_wp2_with fail
      refine (I1.out _ hb6).mono ?_; rintro e w7 ⟨rfl, rfl⟩
      go_wp2_with fail
      go_ret
      exact ⟨rfl, hb6⟩
end Go.Proofs.YtlbdlehlgalomaaDoor
