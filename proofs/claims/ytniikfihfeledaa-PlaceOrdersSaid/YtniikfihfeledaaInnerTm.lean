/-
  The places of a term's functions, by the reference of layer 4: Inner.
-/
import Derived.Test.YtniikfihfeledaaPlAll
namespace Go.Proofs.Ytniikfihfeledaa
open Go.RowKit

theorem OwnPl.lower {w : World} {base base' : Nat} {v : Value} {pss : List (List Int)} (h : OwnPl w base v pss) (hb : base' ≤ base) : OwnPl w base' v pss := by
  obtain ⟨vs, hl, hall, hn, hr⟩ := h
  refine ⟨vs, hl, hall, hn, ?_⟩
  rcases hr with h | ⟨g, cap, cur, hv, hbg, hr⟩
  · exact .inl h
  · exact .inr ⟨g, cap, cur, hv, Nat.le_trans hb hbg, hr⟩
def innerB (t : Tm) (p : List Int) : Bool := ((atT t p).getD zeroT).kind == 5
theorem inner_take {t : Tm} {k : Nat} {p : List Int} (hp : (placesT t)[k]? = some p) : ((placesT t).take (k + 1)).filter (innerB t) = ((placesT t).take k).filter (innerB t) ++ (if innerB t p = true then [p] else []) := by
  obtain ⟨hk, rfl⟩ := List.getElem?_eq_some_iff.1 hp
  rw [List.take_succ_eq_append_getElem hk, List.filter_append]
  congr 1
  by_cases h : innerB t (placesT t)[k] = true
  · rw [if_pos h]; simp [h]
  · rw [if_neg h]; simp [h]

set_option maxRecDepth 100000 in
set_option maxHeartbeats 4000000 in
theorem rinner_tm (x : Tv) (w : World) (hx : x.ok w) (hp : x.t.parts ≤ 100000) :
    Calls Try.prog 22 #[x.val] w fun e w' => ∃ v, e = .returned v ∧ OwnPl w' w.heap.size v (innerT x.t) ∧ Below w.heap.size w w' := by
  have AL := Lib.hid (fun (w' : World) (h : Below w.heap.size w w') => rplaces_tm x.t.parts x w w' (Nat.le_refl _) hp hx h)
  have AT := Lib.hid (fun (ps : List Int) (v : Value) (w' : World) (hn : Nums w' v ps) (h : Below w.heap.size w w') => at_tm w' ps x v w' (hx.below h) hn (Below.refl _ _))
  clear hx
  obtain ⟨t, a, c⟩ := x
  obtain ⟨i2, hi2, hiz2, his2, hib2⟩ := info_parts intsInfo
  have hbx := box_new w (.int .i64 t.kind) (.string t.name) (.int .i64 t.n) (.slice a t.args.length c) 24
  have hw : Below w.heap.size w (w.alloc (.cells #[.int .i64 t.kind, .string t.name, .int .i64 t.n, .slice a t.args.length c] 24)) := (Below.refl _ _).alloc (Nat.le_refl _) _
  have hz2 : (w.alloc (.cells #[.int .i64 t.kind, .string t.name, .int .i64 t.n, .slice a t.args.length c] 24)).heap.size = w.heap.size + 1 := by simp
  simp only [Tv.val] at *
  go_enter Try.func22, Try.ntmps22
  go_wp2_with fail
  obtain ⟨wb, hwb⟩ : ∃ wb, wb = (w.alloc (.cells #[.int .i64 t.kind, .string t.name, .int .i64 t.n, .slice a t.args.length c] 24)) := ⟨_, rfl⟩
  rw [← hwb] at hw hbx hz2 ⊢
  clear hwb
  have HBX := Lib.hid (fun (V : World) (h : Below wb.heap.size wb V) => hbx.below h (by omega))
  clear hbx
  refine (AL.out _ hw).mono ?_; rintro e w1 ⟨u, rfl, hu, hun, hb1⟩
  have hne1 : ∃ g1 c1, u = .slice (some ⟨g1, 0, none⟩) (placesT t).length c1 ∧ g1 < w1.heap.size ∧ (placesT t).length ≤ c1 := by
    obtain ⟨_, _, _, hr⟩ := hu
    rcases hr.2 with ⟨rfl, _⟩ | ⟨g, cap, cur, rfl, _, hg, hk, _⟩
    · exact absurd rfl hun
    · exact ⟨g, cap, rfl, (Array.getElem?_eq_some_iff.1 hg).1, hk⟩
  obtain ⟨g1, c1, rfl, hg1, hc1⟩ := hne1
  have HU := Lib.hid hu
  have hpl := placesT_length t
  clear hu hun
  go_wp2_with fail
  go_loopw [3, 11] (fun o i wr => ∃ k : Nat, k ≤ (placesT t).length ∧ i = .int .i64 k ∧ Hid (OwnPl wr wb.heap.size o (((placesT t).take k).filter (innerB t))) ∧ o.ownBlock ≠ some g1 ∧
    Hid (∃ B1, OwnPl wr B1 (.slice (some ⟨g1, 0, none⟩) (placesT t).length c1) (placesT t)) ∧ g1 < wr.heap.size ∧ Below wb.heap.size wb wr) (fun _ i _ => (placesT t).length - (intOf i).toNat)
  case atStart => exact ⟨0, Nat.zero_le _, rfl, Lib.hid ⟨[], rfl, fun j x p h => by simp at h, World.ownsRow_nil _ _ _ _⟩, by simp [Value.ownBlock], Lib.hid ⟨_, HU.out⟩, hg1, hb1⟩
  case round =>
    obtain ⟨k, hk, rfl, hown, hob, hU, hgl, hbw⟩ := hrel
    have hww := below_next hw hbw
    by_cases hkl : k < (placesT t).length
    · obtain ⟨p, hpe⟩ : ∃ p, (placesT t)[k]? = some p := ⟨_, List.getElem?_eq_getElem hkl⟩
      obtain ⟨B1, vs, hvl, hvall, hvr⟩ := hU.out
      obtain ⟨v, hve⟩ : ∃ v, vs[k]? = some v := ⟨_, List.getElem?_eq_getElem (show k < vs.length by omega)⟩
      have hx := hvall k v p hve hpe
      have hcv := hvr.cells rfl k v hve
      rw [addr_row', Nat.zero_add] at hcv
      have hU1 : OwnPl wr B1 (.slice (some ⟨g1, 0, none⟩) (placesT t).length c1) (placesT t) := ⟨vs, hvl, hvall, hvr⟩
      have HU1 := Lib.hid hU1
      have HX := Lib.hid hx
      have A := Lib.hid (AT.out p v wr hx.nums hww)
      have HTK := Lib.hid (inner_take hpe)
      have hfl : (((placesT t).take k).filter (innerB t)).length ≤ 100000 := by
        have h1 := List.length_filter_le (innerB t) ((placesT t).take k)
        rw [List.length_take] at h1; omega
      obtain ⟨pss, hpss⟩ : ∃ pss, ((placesT t).take k).filter (innerB t) = pss := ⟨_, rfl⟩
      rw [hpss] at hfl hown HTK
      have hvf : ∃ gx cx, v = .slice (some ⟨gx, 0, none⟩) p.length cx := by
        rcases hx.1.2 with ⟨h, _⟩ | ⟨g, cap, cur, h, _⟩
        · exact absurd (by rw [h]; rfl) hx.2.2
        · exact ⟨g, cap, h⟩
      obtain ⟨gx, cx, rfl⟩ := hvf
      obtain ⟨p0, p1, p2, p3, _, _, _, _⟩ := HBX.out wr hbw
      have hkq : (k : Int) ≤ 100000 := by omega
      have hki : (k : Int) < ((placesT t).length : Int) := by omega
      clear hpe hvall hvr hvl hve hx hU hU1 hpss
      go_wp2_with fail
      refine A.out.mono ?_; rintro e w2 ⟨z, rfl, hzt, hzk, hb2⟩
      have hB2 : Below wr.heap.size wr (w2.alloc (.cells #[.int .i64 z.t.kind, .string z.t.name, .int .i64 z.t.n, .slice z.a z.t.args.length z.c] 24)) := hb2.alloc hb2.size _
      have hbz := box_new w2 (.int .i64 z.t.kind) (.string z.t.name) (.int .i64 z.t.n) (.slice z.a z.t.args.length z.c) 24
      have HZ := Lib.hid (show innerB t p = (z.t.kind == 5) by unfold innerB; rw [← hzt])
      obtain ⟨tz, az, cz⟩ := z
      simp only [Tv.val] at *
      clear hzt hzk p0 p1 p2 p3
      obtain ⟨m0, m1, m2, m3, _, _, _, _⟩ := hbz
      obtain ⟨wz, hwz⟩ : ∃ x, x = (w2.alloc (.cells #[.int .i64 tz.kind, .string tz.name, .int .i64 tz.n, .slice az tz.args.length cz] 24)) := ⟨_, rfl⟩
      have h2s : wz.heap.size = w2.heap.size + 1 := by rw [hwz]; simp
      have hN := cell_one_new wz (.slice (some ⟨gx, 0, none⟩) p.length cx) 25
      rw [h2s] at hN
      have HNN := Lib.hid hN
      clear hN
      have hBz : Below wr.heap.size wr wz := by rw [hwz]; exact hB2
      have ho := hown.out.below hBz
      have hu := HU1.out.below hBz
      have HXZ := Lib.hid (HX.out.below hBz)
      have hgz : g1 < wz.heap.size := Nat.lt_of_lt_of_le hgl hBz.size
      have hBt : Below wz.heap.size wz (wz.alloc (.cells #[.slice (some ⟨gx, 0, none⟩) p.length cx] 25)) := (Below.refl _ _).alloc (Nat.le_refl _) _
      obtain ⟨vs4, hvl4, hva4, hvr4⟩ := ho.below hBt
      have hbz2 := below_next hbw hBz
      have hwws := (below_next hw hbz2).size
      cases he : (tz.kind == 5) with
      | false =>
        have HF := Lib.hid (show ((placesT t).take (k + 1)).filter (innerB t) = pss by rw [HTK.out, if_neg (by rw [HZ.out, he]; simp), List.append_nil])
        subst hwz
        go_wp2_with fail
        go_roundw
        case rel => exact ⟨k + 1, by omega, by go_num, Lib.hid (by rw [HF.out]; exact ho), hob, Lib.hid ⟨B1, hu⟩, hgz, hbz2⟩
        case measure => simp [intOf]; omega
      | true =>
        have HF := Lib.hid (show ((placesT t).take (k + 1)).filter (innerB t) = pss ++ [p] by rw [HTK.out, if_pos (by rw [HZ.out, he])])
        have hz4 : (wz.alloc (.cells #[.slice (some ⟨gx, 0, none⟩) p.length cx] 25)).heap.size = wz.heap.size + 1 := by simp
        subst hwz
        go_wp2_with (at_builtin; refine wpList_append_own_at _ rfl _ _ 37 rfl wb.heap.size 25 i2 (.slice none 0 0) 1 24 Try.underlying37 hi2 hiz2 his2 hib2 rfl (by decide) _ pss.length _ rfl hvr4 ⟨w2.heap.size + 1, 0, none⟩ 1 1 [.slice (some ⟨gx, 0, none⟩) p.length cx] (by simp [Act.eval]) rfl HNN.out (by simp [Value.oneCell']) (by unfold maxLen; omega) (by omega) (by have := hbz2.size; rw [hz4]; omega) ?_; intro v4 w4 hown4 hg4 _ hat4)
        go_roundw
        case rel =>
          have hnew := ownPl_snoc hvl4 hva4 hvr4 (HXZ.out.below hBt) hg4 hown4
          have hne4 : v4.ownBlock ≠ some g1 := by
            rcases hat4 with h | h
            · rw [h]; exact hob
            · rw [h, hz4]; intro e; injection e with e; omega
          have hb4 := (hbz2.alloc hbz2.size (.cells #[.slice (some ⟨gx, 0, none⟩) p.length cx] 25)).grown hg4 (by have := hbz2.size; omega) (fun y e => (hvr4.lt y e).1)
          exact ⟨k + 1, by omega, by go_num, Lib.hid (by rw [HF.out]; exact hnew), hne4, Lib.hid ⟨B1, (hu.below hBt).kept hvr4 hg4 (fun e => hob e.symm)⟩, by have := hg4.size; omega, hb4⟩
        case measure => simp [intOf]; omega
    · have hke : k = (placesT t).length := by omega
      have hkd : decide ((k : Int) < ((placesT t).length : Int)) = false := decide_eq_false (by omega)
      have hkl1 : (placesT t).length ≤ k := by omega
      have HK := Lib.hid hke
      clear hke
      go_wp2_with fail
      go_ret
      have h1 := hown.out
      rw [HK.out, List.take_length] at h1
      exact ⟨_, rfl, h1.lower (by omega), hww⟩
end Go.Proofs.Ytniikfihfeledaa
