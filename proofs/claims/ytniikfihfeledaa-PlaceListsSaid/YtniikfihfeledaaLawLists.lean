/-
  All places of any term, and those of its functions, in order, each once: the law answers true.
-/
import Derived.Test.YtniikfihfeledaaAwakePl
import Derived.Test.YtniikfihfeledaaPPlIn
import Derived.Test.YtniikfihfeledaaSmallTm
namespace Go.Proofs.Ytniikfihfeledaa
open Go.RowKit

theorem sorted_next {t : Tm} {q : Nat} {a b : List Int} (ha : (placesT t)[q]? = some a) (hb : (placesT t)[q + 1]? = some b) : cmpP a b = -1 := by
  obtain ⟨h1, rfl⟩ := List.getElem?_eq_some_iff.1 ha
  obtain ⟨h2, rfl⟩ := List.getElem?_eq_some_iff.1 hb
  have h := List.pairwise_iff_getElem.1 (placesT_sorted t) q (q + 1) h1 h2 (by omega)
  have := (cmpP_bd (placesT t)[q] (placesT t)[q + 1]).1
  unfold LtP at h
  omega

set_option maxRecDepth 100000 in
set_option maxHeartbeats 4000000 in
theorem lawLists_any (x : Tv) (w : World) (hx : x.ok w) :
    Calls Try.prog 6 #[x.val] w fun e w' => e = .returned (.bool true) ∧ Below w.heap.size w w' := by
  have AW := Lib.hid (fun W => awake_pl W)
  have SM := Lib.hid (fun (W : World) (h : Below w.heap.size w W) => small_tm x W (hx.below h))
  have PA := Lib.hid (fun (W : World) (h : Below w.heap.size w W) (hp : x.t.parts ≤ 100000) => pall_tm x w W hx h hp)
  have PI := Lib.hid (fun (W : World) (h : Below w.heap.size w W) (hp : x.t.parts ≤ 100000) => pinner_tm x w W hx h hp)
  have RA := Lib.hid (fun (W : World) (h : Below w.heap.size w W) (hp : x.t.parts ≤ 100000) => rplaces_tm x.t.parts x w W (Nat.le_refl _) hp hx h)
  have RI := Lib.hid (fun (W : World) (h : Below w.heap.size w W) (hp : x.t.parts ≤ 100000) => rinner_tm x W (hx.below h) hp)
  clear hx
  obtain ⟨t, ax, cx⟩ := x
  have hbx := box_new w (.int .i64 t.kind) (.string t.name) (.int .i64 t.n) (.slice ax t.args.length cx) 24
  have hw : Below w.heap.size w (w.alloc (.cells #[.int .i64 t.kind, .string t.name, .int .i64 t.n, .slice ax t.args.length cx] 24)) := (Below.refl _ _).alloc (Nat.le_refl _) _
  have hz : (w.alloc (.cells #[.int .i64 t.kind, .string t.name, .int .i64 t.n, .slice ax t.args.length cx] 24)).heap.size = w.heap.size + 1 := by simp
  obtain ⟨wb, hwb⟩ : ∃ wb, wb = (w.alloc (.cells #[.int .i64 t.kind, .string t.name, .int .i64 t.n, .slice ax t.args.length cx] 24)) := ⟨_, rfl⟩
  rw [← hwb] at hbx hw hz
  have HBX := Lib.hid (fun (V : World) (h : Below wb.heap.size wb V) => hbx.below h (by omega))
  have HW := Lib.hid (fun (V : World) (h : Below wb.heap.size wb V) => hw.trans (h.mono hw.size))
  clear hbx hw hz
  simp only [Tv.val] at *
  go_enter Try.func6, Try.ntmps6
  go_wp2_with fail
  rw [← hwb]
  clear hwb
  refine (AW.out _).mono ?_; rintro e w1 ⟨rfl, hb1⟩
  obtain ⟨p0, p1, p2, p3, _, _, _, _⟩ := HBX.out w1 hb1
  go_wp2_with fail
  refine (SM.out _ (HW.out _ hb1)).mono ?_; rintro e w2 ⟨rfl, hb2⟩
  replace hb2 := below_next hb1 hb2
  clear p0 p1 p2 p3 hb1
  cases hs : smallB t with
  | false =>
    have HE := Lib.hid (HW.out _ hb2)
    clear hb2
    go_wp2_with fail
    go_ret
    exact ⟨rfl, HE.out⟩
  | true =>
    have hpp : t.parts ≤ 300 := small_parts hs
    have hp5 : t.parts ≤ 100000 := by omega
    obtain ⟨p0, p1, p2, p3, _, _, _, _⟩ := HBX.out w2 hb2
    go_wp2_with fail
    refine (PA.out _ (HW.out _ hb2) hp5).mono ?_; rintro e w3 ⟨v, rfl, hv, hb3⟩
    replace hb3 := below_next hb2 hb3
    obtain ⟨aP, cP, rfl, hlc, hcm, hcs⟩ := id hv
    have hpl := placesT_length t
    have hp1 := parts_pos t
    obtain ⟨b, off, rfl, hlt, hc⟩ := hcs.resolve_left (by intro h; rw [h] at hpl; simp at hpl; omega)
    have HC := Lib.hid hc
    have HV := Lib.hid hv
    have HB3 := Lib.hid hb3
    obtain ⟨n, hn⟩ : ∃ n, (placesT t).length = n := ⟨_, rfl⟩
    rw [hn] at hlc hpl ⊢
    have HN := Lib.hid hn
    have hn5 : n ≤ 100000 := by omega
    have hn1 : 1 ≤ n := by omega
    clear hpl
    clear hc hv p0 p1 p2 p3 hb2 hb3 hcs hn PA
    go_wp2_with fail
    go_loopw [4] (fun i wr => ∃ q : Nat, q + 1 ≤ n ∧ i = .int .i64 ((q : Int) + 1) ∧ Below w3.heap.size w3 wr) (fun i _ => n - (intOf i).toNat)
    case atStart => exact ⟨0, by omega, rfl, Below.refl _ _⟩
    case round =>
      obtain ⟨q, hq, rfl, hbw⟩ := hrel
      by_cases hql : q + 1 < n
      · have h1 : q < (placesT t).length := by rw [HN.out]; omega
        have h2 : q + 1 < (placesT t).length := by rw [HN.out]; omega
        obtain ⟨xa, hca, hna⟩ := HC.out q _ (List.getElem?_eq_getElem h1)
        obtain ⟨xb, hcb, hnb⟩ := HC.out (q + 1) _ (List.getElem?_eq_getElem h2)
        have hm := sorted_next (List.getElem?_eq_getElem h1) (List.getElem?_eq_getElem h2)
        have C := Lib.hid (fun (m : Nat) => (show Calls Try.prog 18 #[xa, xb] (wr.drewN m) (fun e w' => e = .returned (.int .i64 (-1)) ∧ ∃ r, w' = wr.drewN r) from by
          have h := plcompare_any xa xb _ _ (wr.drewN m) ((hna.below hbw).below (below_drewN (Below.refl _ _) m)) ((hnb.below hbw).below (below_drewN (Below.refl _ _) m))
          rw [hm] at h
          exact h.mono (fun e w' hh => ⟨hh.1, m, hh.2.symm⟩)))
        replace hca := (hbw.cell (p := ⟨b, off + q, none⟩) hlt).trans hca
        replace hcb := (hbw.cell (p := ⟨b, off + (q + 1), none⟩) hlt).trans hcb
        have hq0 : (0 : Int) ≤ (q : Int) := by omega
        have hq1 : (q : Int) < (n : Int) := by omega
        have hq2 : (q : Int) + 1 < (n : Int) := by omega
        have hq3 : (q : Int) ≤ 100000 := by omega
        have hq4 : decide ((q : Int) + 1 < (n : Int)) = true := decide_eq_true hq2
        clear hna hnb hm h1 h2
        go_wp2_with fail
        go_quiet ((go_at_call 18; exact C.out _))
        go_wp2_with fail
        go_roundw
        case rel => exact ⟨q + 1, by omega, by go_num, below_drewN hbw nq⟩
        case measure => simp [intOf]; omega
      · have hq4 : decide ((q : Int) + 1 < (n : Int)) = false := decide_eq_false (by omega)
        have hq5 : ¬ q + 1 < n := by omega
        have hq6 : (q : Int) ≤ 100000 := by omega
        have hbz : Below wb.heap.size wb wr := below_next HB3.out hbw
        have hbX := HBX.out wr hbz
        have hwz := HW.out _ hbz
        have KEEP := Lib.hid (fun (W : World) (h : Below wr.heap.size wr W) => hbX.below h (by have := hbz.size; have := hbX.c0; exact lt_of_cell this))
        have CRA := Lib.hid (fun (W : World) (h : Below wr.heap.size wr W) => (RA.out W (hwz.trans (h.mono hwz.size)) hp5).mono (fun e w' hh => (show ∃ v, e = .returned v ∧ Pls w' v (placesT t) ∧ Below wr.heap.size wr w' from by obtain ⟨v, rfl, ho, _, hb⟩ := hh; exact ⟨v, rfl, ho.pls, below_next h hb⟩)))
        have CPI := Lib.hid (fun (W : World) (h : Below wr.heap.size wr W) => (PI.out W (hwz.trans (h.mono hwz.size)) hp5).mono (fun e w' hh => (show ∃ v, e = .returned v ∧ Pls w' v (innerT t) ∧ Below W.heap.size W w' ∧ Below wr.heap.size wr w' from by obtain ⟨v, rfl, ho, hb⟩ := hh; exact ⟨v, rfl, ho, hb, below_next h hb⟩)))
        have CRI := Lib.hid (fun (W : World) (h : Below wr.heap.size wr W) => (RI.out W (hwz.trans (h.mono hwz.size)) hp5).mono (fun e w' hh => (show ∃ v, e = .returned v ∧ Pls w' v (innerT t) ∧ Below W.heap.size W w' ∧ Below wr.heap.size wr w' from by obtain ⟨v, rfl, ho, hb⟩ := hh; exact ⟨v, rfl, ho.pls, hb, below_next h hb⟩)))
        have CP1 := Lib.hid (fun (W : World) (u : Value) (h : Below wr.heap.size wr W) (hu : Pls W u (placesT t)) => (places_any (.slice (some ⟨b, off, none⟩) n cP) u _ _ W ((HV.out.below hbw).below h |> fun k => by rw [HN.out] at k; exact k) hu).mono (fun e w' hh => (show e = .returned (.bool true) ∧ Below wr.heap.size wr w' from by obtain ⟨rfl, k, rfl⟩ := hh; exact ⟨by rw [decide_eq_true rfl], below_drewN h k⟩)))
        have CP2 := Lib.hid (fun (W : World) (v u : Value) (h : Below wr.heap.size wr W) (hv : Pls W v (innerT t)) (hu : Pls W u (innerT t)) => (places_any v u _ _ W hv hu).mono (fun e w' hh => (show e = .returned (.bool true) ∧ Below wr.heap.size wr w' from by obtain ⟨rfl, k, rfl⟩ := hh; exact ⟨by rw [decide_eq_true rfl], below_drewN h k⟩)))
        have HWZ := Lib.hid hwz
        have h0d : Below wr.heap.size wr wr.drew := (Below.refl _ _).drew
        obtain ⟨p0, p1, p2, p3, _, _, _, _⟩ := id hbX
        clear hbX hwz hbz hbw
        go_wp2_with fail
        go_region_held3 (fun W => Below wr.heap.size wr W ∧ W.cell? ⟨w.heap.size, 0, none⟩ = some (.int .i64 t.kind) ∧ W.cell? ⟨w.heap.size, 1, none⟩ = some (.string t.name) ∧ W.cell? ⟨w.heap.size, 2, none⟩ = some (.int .i64 t.n) ∧ W.cell? ⟨w.heap.size, 3, none⟩ = some (.slice ax t.args.length cx)) (exact ⟨by with_reducible assumption, (KEEP.out _ (by with_reducible assumption)).c0, (KEEP.out _ (by with_reducible assumption)).c1, (KEEP.out _ (by with_reducible assumption)).c2, (KEEP.out _ (by with_reducible assumption)).c3⟩)
          ((first
            | (go_at_call 20; refine (CRA.out _ (by assumption)).mono ?_; rintro e w' ⟨vR, rfl, hR, hn⟩)
            | (go_at_call 21; refine (CPI.out _ (by assumption)).mono ?_; rintro e w' ⟨vI, rfl, hI, kI, hn⟩)
            | (go_at_call 22; refine (CRI.out _ (by assumption)).mono ?_; rintro e w' ⟨vJ, rfl, hJ, kJ, hn⟩)
            | (go_at_call_has 19 (Value.slice (some ⟨b, off, none⟩) n cP); refine (CP1.out _ _ (by assumption) (by assumption)).mono ?_; rintro e w' ⟨rfl, hn⟩)
            | (go_at_call 19; refine (CP2.out _ _ _ (by assumption) (by first | exact hI | exact hI.below kJ) (by first | exact hJ | exact hJ.below kI)).mono ?_; rintro e w' ⟨rfl, hn⟩)))
        all_goals (go_wp2_with fail)
        all_goals go_ret
        all_goals exact ⟨rfl, below_next HWZ.out (by assumption)⟩
end Go.Proofs.Ytniikfihfeledaa
