/-
  The first name made of a name that is not used, by the program's free, over one set.
-/
import Derived.Test.YtlbdlehlgalomaaDoorPNms
import Derived.Test.YtlbdlehlgalomaaDoorPow
import Derived.Test.YtlbdlehlgalomaaDoorFreshPu
import Derived.Deep.LoopGhost
import Derived.WalkMore
namespace Go.Proofs.YtlbdlehlgalomaaDoor
open Go.RowKit

/-- The names that are tried, one after the other. -/
def candS (s : ByteArray) (k : Nat) : ByteArray := if k = 0 then s else numbered s k
theorem cand_pos (s : ByteArray) {k : Nat} (h : 1 ≤ k) : candS s k = numbered s k := by unfold candS; rw [if_neg (by omega)]
theorem cand_free {s : ByteArray} {zs : List ByteArray} {k : Nat} (h : ∀ m, m < k → candS s m ∈ zs) (hf : Lib.containsS zs (candS s k) = false) : freshS s zs = candS s k := by
  rw [← Bool.not_eq_true, Lib.containsS_iff] at hf
  by_cases hk : k = 0
  · subst hk
    show freshS s zs = s
    exact freshS_old (by rw [← Bool.not_eq_true, Lib.containsS_iff]; exact hf)
  · rw [cand_pos s (by omega)] at hf ⊢
    exact freshS_new ((Lib.containsS_iff _ _).2 (h 0 (by omega))) ⟨by omega, fun m h1 h2 => by have := h m h2; rwa [cand_pos s h1] at this, hf⟩
theorem cand_le {s : ByteArray} {zs : List ByteArray} {k : Nat} (h : ∀ m, m < k → candS s m ∈ zs) : k ≤ zs.length + 1 := by
  have := used_many (name := s) (used := zs) (k := k - 1) (fun m h1 h2 => by have := h m (by omega); rwa [cand_pos s h1] at this)
  omega
theorem itoa_short' {n : Nat} (h : n ≤ 9223372036854775807) : (Lib.itoa n).length ≤ 42 := by
  have := Lib.itoa_length_le (n : Int) (by omega) (by omega)
  omega
theorem numbered_size (s : ByteArray) (n : Nat) : (numbered s n).size = s.size + 1 + (Lib.itoa n).length := by
  have h : ∀ b : ByteArray, b.size = b.data.toList.length := fun b => by simp
  rw [h, numbered_data, h s]; simp; omega
theorem cand_size {s : ByteArray} {k : Nat} (hs : s.size ≤ 1000) (hk : k ≤ 100000) : (candS s k).size ≤ 2000 := by
  unfold candS
  split
  · omega
  · rw [numbered_size]; have := itoa_short' (n := k) (by omega); omega

set_option maxRecDepth 100000 in
set_option maxHeartbeats 2000000 in
theorem pfree_any (s : ByteArray) (zs : List ByteArray) (g c bm : Nat) (w : World) (hT : Pow w) (hg : g < w.heap.size) (hc : w.cell? ⟨g, 0, none⟩ = some (.map (some bm)))
    (hm : w.ownsMap Tryd.prog 9 (unitElem (H := Unit)) bm zs.length (nameSet zs)) (hs : s.size ≤ 1000) (hl : zs.length ≤ 1000) :
    Calls Tryd.prog 9 #[.string s, .slice (some ⟨g, 0, none⟩) 1 c] w fun e w' => e = .returned (.string (freshS s zs)) ∧ Below w.heap.size w w' := by
  have HC := Lib.hid (fun (wr : World) (hb : Below w.heap.size w wr) => (hb.cell (p := ⟨g, 0, none⟩) hg).trans hc)
  have HM := Lib.hid (fun (wr : World) (hb : Below w.heap.size w wr) => hm.kept (grown_of_below hb) (by simp))
  have DG := Lib.hid (fun (n : Nat) (h : n ≤ 100001) (W : World) (hb : Below w.heap.size w W) => pdigits_any n (by omega) (by omega) W (hT.below hb))
  clear hc hm hT
  go_enter Tryd.func9, Tryd.ntmps9
  go_wp2
  go_step3
  go_wp2
  go_step3
  go_wp2
  go_loopw [5, 6] (fun t i wr => ∃ k : Nat, i = .int .i64 (k + 1 : Nat) ∧ t = .string (candS s k) ∧ Hid (∀ m, m < k → candS s m ∈ zs) ∧ Below w.heap.size w wr) (fun _ i _ => zs.length + 3 - (intOf i).toNat)
  case atStart => exact ⟨0, rfl, rfl, Lib.hid (fun m h => by cases h), Below.refl _ _⟩
  case round =>
    obtain ⟨k, rfl, rfl, HB, hb⟩ := hrel
    have hk := cand_le HB.out
    have hts := cand_size (s := s) (k := k) hs (by omega)
    have hc1 := HC.out wr hb
    have hm1 := HM.out wr hb
    have hdl : (Lib.itoa ((k : Int) + 1)).length ≤ 42 := itoa_short' (n := k + 1) (by omega)
    have hkey : keyOf Tryd.prog 9 (.string (candS s k)) = some (.string (candS s k).data.toList) := Go.WideMaps.keyOf_string_mk Tryd.underlying9 (by unfold maxLen; omega)
    have hh := nameSet_has zs (candS s k)
    cases hin : Lib.containsS zs (candS s k) with
    | true =>
      rw [hin] at hh
      have HI := Lib.hid ((Lib.containsS_iff _ _).1 hin)
      have HN := Lib.hid (show candS s (k + 1) = numbered s (k + 1) from cand_pos s (by omega))
      have D := Lib.hid (fun W hW => (show Calls Tryd.prog 12 #[.int .i64 ((k : Int) + 1)] W fun e w' => e = .returned (.string ⟨(Lib.itoa ((k + 1 : Nat) : Int)).toArray⟩) ∧ Below W.heap.size W w' from DG.out (k + 1) (by omega) W hW))
      clear hin
      obtain ⟨t, ht⟩ : ∃ t, candS s k = t := ⟨_, rfl⟩
      rw [ht] at hkey hh hts ⊢
      go_wp2_with fail
      refine wp_loop_rounds 1 ?_
      rw [rounds_succ]
      go_wp2_with (first
        | (at_lookup; refine wpList_lookup_own_unit _ rfl _ _ 30 rfl 9 34 (Maps.string_keyed Tryd.underlying9) Tryd.underlying30 (zero_unit _) bm zs.length _ rfl hm1 _ _ rfl hkey ?_)
        | fail)
      refine (D.out _ (hb.alloc hb.size _)).mono ?_; rintro e w2 ⟨rfl, hb2⟩
      have hb3 := hb.trans (below_box hb2 |>.mono hb.size)
      go_wp2_with fail
      go_roundw
      case rel => exact ⟨k + 1, by go_num, by rw [HN.out]; rfl, Lib.hid (fun m h1 => by
        by_cases e : m = k
        · rw [e]; exact HI.out
        · exact HB.out m (by omega)), hb3⟩
      case measure => simp [intOf]; omega
    | false =>
      rw [hin] at hh
      have HF := Lib.hid (cand_free HB.out hin)
      clear hin
      obtain ⟨t, ht⟩ : ∃ t, candS s k = t := ⟨_, rfl⟩
      rw [ht] at hkey hh hts HF ⊢
      go_wp2_with fail
      refine wp_loop_rounds 2 ?_
      rw [rounds_succ]
      go_wp2_with (first
        | (at_lookup; refine wpList_lookup_own_unit _ rfl _ _ 30 rfl 9 34 (Maps.string_keyed Tryd.underlying9) Tryd.underlying30 (zero_unit _) bm zs.length _ rfl hm1 _ _ rfl hkey ?_)
        | fail)
      rw [rounds_succ]
      go_wp2_with fail
      (try rw [Exit.noGoto_ret])
      go_ret
      exact ⟨by rw [HF.out]; rfl, hb.alloc hb.size _⟩
end Go.Proofs.YtlbdlehlgalomaaDoor
