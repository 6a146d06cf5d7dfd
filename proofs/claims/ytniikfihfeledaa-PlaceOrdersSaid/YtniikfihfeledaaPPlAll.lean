/-
  All places of a term, and those of its functions, by the program's All and Inner.
-/
import Derived.Test.YtniikfihfeledaaPSpots
import Derived.Test.YtniikfihfeledaaInnerTm
namespace Go.Proofs.Ytniikfihfeledaa
open Go.RowKit

theorem pls_sel {W w : World} {base : Nat} {v : Value} {sel : List Sp} (h : w.ownsRow base 25 1 v sel.length (sel.map Sp.at_)) (hall : ∀ s ∈ sel, At0 W s.at_ s.p) (hb : Below W.heap.size W w) : Pls w v (sel.map Sp.p) := by
  obtain ⟨_, h⟩ := h
  rcases h with ⟨rfl, h0⟩ | ⟨g, cap, cur, rfl, _, hg, hk, hm, hs, ht⟩
  · have : sel = [] := List.eq_nil_of_length_eq_zero h0
    subst this
    exact ⟨none, 0, rfl, Nat.le_refl _, by omega, .inl rfl⟩
  · refine ⟨_, cap, by rw [List.length_map], by rw [List.length_map]; exact hk, by unfold maxLen at hm; omega, .inr ⟨g, 0, rfl, (Array.getElem?_eq_some_iff.1 hg).1, fun j p hj => ?_⟩⟩
    rw [List.getElem?_map] at hj
    have hjl : j < sel.length := by
      rcases Nat.lt_or_ge j sel.length with h | h
      · exact h
      · rw [List.getElem?_eq_none h] at hj; cases hj
    rw [List.getElem?_eq_getElem hjl] at hj
    injection hj with hj
    subst hj
    refine ⟨sel[j].at_, ?_, (hall _ (List.getElem_mem hjl)).nums.below hb⟩
    have h1 : (sel.map Sp.at_)[j]? = some sel[j].at_ := by rw [List.getElem?_map, List.getElem?_eq_getElem hjl]; rfl
    rw [← ht, List.getElem?_take, if_pos (by omega)] at h1
    rw [Nat.zero_add, cell_of_row w g j cur _ (0, 0) hg]
    simpa using h1

set_option maxRecDepth 100000 in
set_option maxHeartbeats 4000000 in
theorem pall_tm (x : Tv) (w0 w : World) (hx : x.ok w0) (hb0 : Below w0.heap.size w0 w) (hp : x.t.parts ≤ 100000) :
    Calls Try.prog 17 #[x.val] w fun e w' => ∃ v, e = .returned v ∧ Pls w' v (placesT x.t) ∧ Below w.heap.size w w' := by
  have PS := Lib.hid (fun (W : World) (h : Below w.heap.size w W) => pspots_tm x w0 W hx (hb0.trans (h.mono hb0.size)) hp)
  clear hx hb0
  obtain ⟨t, a, c⟩ := x
  obtain ⟨i2, hi2, hiz2, his2, hib2⟩ := info_parts intsInfo
  have hw : Below w.heap.size w (w.alloc (.cells #[.int .i64 t.kind, .string t.name, .int .i64 t.n, .slice a t.args.length c] 24)) := (Below.refl _ _).alloc (Nat.le_refl _) _
  simp only [Tv.val] at *
  go_enter Try.func17, Try.ntmps17
  go_wp2_with fail
  refine (PS.out _ hw).mono ?_; rintro e w1 ⟨u, rfl, ⟨ss, hkey, hok, hrow⟩, hun, hb1⟩
  have hsl : ss.length = (spT [] t).length := by rw [← hkey, List.length_map]
  rw [← hsl] at hrow
  have hform : ∃ g cap, u = .slice (some ⟨g, 0, none⟩) ss.length cap ∧ g < w1.heap.size ∧ ss.length ≤ cap := by
    rcases hrow.2 with ⟨rfl, _⟩ | ⟨g, cap, cur, rfl, _, hg, hk, _⟩
    · exact absurd rfl hun
    · exact ⟨g, cap, rfl, (Array.getElem?_eq_some_iff.1 hg).1, hk⟩
  obtain ⟨g1, c1, rfl, hg1, hc1⟩ := hform
  have hplen : ss.length ≤ 100000 := by rw [hsl, spT_length]; exact hp
  have HK := Lib.hid hkey
  have HOK := Lib.hid hok
  have HROW := Lib.hid hrow
  have hbw1 : Below w.heap.size w w1 := hw.trans (hb1.mono hw.size)
  clear hkey hok hrow hun hb1 hsl PS hw
  go_wp2_with fail
  go_loopw [3, 9] (fun o i wr => ∃ j : Nat, j ≤ ss.length ∧ i = .int .i64 j ∧ Hid (wr.ownsRow w1.heap.size 25 1 o (ss.take j).length ((ss.take j).map Sp.at_)) ∧ Below w1.heap.size w1 wr) (fun _ i _ => ss.length - (intOf i).toNat)
  case atStart => exact ⟨0, Nat.zero_le _, rfl, Lib.hid (World.ownsRow_nil _ _ _ _), Below.refl _ _⟩
  case round =>
    obtain ⟨j, hj, rfl, hown, hbw⟩ := hrel
    by_cases hjl : j < ss.length
    · obtain ⟨y, hy⟩ : ∃ y, ss[j] = y := ⟨_, rfl⟩
      have hd := fun (i : Nat) (hi : i < 5) (v : Value) (hv : y.cells[i]? = some v) => (hbw.cell (p := ⟨g1, j * 5 + i, none⟩) hg1).trans (own_cell5 HROW.out hjl hi (by rw [hy]; exact hv))
      have hT : ss.take (j + 1) = ss.take j ++ [y] := by rw [List.take_succ_eq_append_getElem hjl, hy]
      have hlt : (ss.take j).length ≤ 100000 := by rw [List.length_take]; omega
      obtain ⟨sel, hsel⟩ : ∃ sel, ss.take j = sel := ⟨_, rfl⟩
      rw [hsel] at hown hT hlt
      have HT := Lib.hid hT
      clear hT hsel hy
      obtain ⟨yp, ya, yc, ⟨yt, yta, ytc⟩⟩ := y
      have d0 := hd 0 (by decide) _ rfl
      have d1 := hd 1 (by decide) _ rfl
      have d2 := hd 2 (by decide) _ rfl
      have d3 := hd 3 (by decide) _ rfl
      have d4 := hd 4 (by decide) _ rfl
      simp only [Nat.add_zero] at d0
      have hj0 : (0 : Int) ≤ (j : Int) := by omega
      have hj1 : (j : Int) < (ss.length : Int) := by omega
      have hbs := hbw.size
      obtain ⟨wz, hwz⟩ : ∃ wz, wz = wr.alloc (.cells #[.slice ya yp.length yc, .int .i64 yt.kind, .string yt.name, .int .i64 yt.n, .slice yta yt.args.length ytc] 52) := ⟨_, rfl⟩
      have hzs : wz.heap.size = wr.heap.size + 1 := by rw [hwz]; simp
      have hBz : Below wr.heap.size wr wz := by rw [hwz]; exact (Below.refl _ _).alloc (Nat.le_refl _) _
      have hN := cell_one_new wz (.slice ya yp.length yc) 25
      rw [hzs] at hN
      have HN := Lib.hid hN
      have hBt : Below wr.heap.size wr (wz.alloc (.cells #[.slice ya yp.length yc] 25)) := hBz.alloc hBz.size _
      have hown2 := own_below hown.out hBt
      have HS2 : w1.heap.size ≤ (wz.alloc (.cells #[.slice ya yp.length yc] 25)).heap.size := by have := hBt.size; omega
      have HBT := Lib.hid hBt
      subst hwz
      clear hd hN hzs hBz hBt
      go_wp2_with (at_builtin; refine wpList_append_own_at _ rfl _ _ 37 rfl w1.heap.size 25 i2 (.slice none 0 0) 1 24 Try.underlying37 hi2 hiz2 his2 hib2 rfl (by decide) _ sel.length _ rfl hown2 ⟨wr.heap.size + 1, 0, none⟩ 1 1 [.slice ya yp.length yc] (by simp [Act.eval]) rfl HN.out (by simp [Value.oneCell']) (by unfold maxLen; omega) (by omega) HS2 ?_; intro v4 w4 hown4 hg4 _ hat4)
      go_roundw
      case rel =>
        have hbt := hbw.trans (HBT.out.mono hbw.size)
        refine ⟨j + 1, by omega, by go_num, Lib.hid ?_, hbt.grown hg4 hbt.size (fun y e => (hown2.lt y e).1)⟩
        rw [HT.out, List.length_append, List.map_append]; exact hown4
      case measure => simp [intOf]; omega
    · have hje : j = ss.length := by omega
      have hjd : decide ((j : Int) < (ss.length : Int)) = false := decide_eq_false (by omega)
      have hjl1 : ss.length ≤ j := by omega
      have hf := hown.out
      rw [hje, List.take_length] at hf
      have HF := Lib.hid hf
      clear hje hf
      go_wp2_with fail
      go_ret
      have h1 := pls_sel HF.out (fun s hs => (HOK.out s hs).2) hbw
      have h2 : ss.map Sp.p = placesT t := by rw [← spT_fst0, ← HK.out, List.map_map]; rfl
      rw [h2] at h1
      exact ⟨_, rfl, h1, hbw1.trans (hbw.mono hbw1.size)⟩
end Go.Proofs.Ytniikfihfeledaa
