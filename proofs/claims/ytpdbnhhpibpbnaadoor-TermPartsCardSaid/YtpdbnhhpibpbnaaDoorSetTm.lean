/-
  Terms each once, by the reference of layer 3: Set, for rows of terms in memory that are not too long.
-/
import Derived.Test.YtpdbnhhpibpbnaaDoorSortTm
namespace Go.Proofs.YtpdbnhhpibpbnaaDoor
open Go.RowKit

/-- One more behind, unless it's the last one already. -/
noncomputable def onceT (l : List Tm) (t : Tm) : List Tm :=
  match l.getLast? with
  | none => [t]
  | some x => if eqT x t = true then l else l ++ [t]
noncomputable def setL (l : List Tm) : List Tm := (sortL l).foldl onceT []
theorem onceL_take {l : List Tm} {k : Nat} (h : k < l.length) : (l.take (k + 1)).foldl onceT [] = onceT ((l.take k).foldl onceT []) l[k] := by
  rw [List.take_succ_eq_append_getElem h, List.foldl_append]; rfl
theorem onceT_len (l : List Tm) (t : Tm) : (onceT l t).length ≤ l.length + 1 := by
  unfold onceT
  split
  · simp
  · split
    · omega
    · simp
theorem onceL_len (l : List Tm) : (l.foldl onceT []).length ≤ l.length := by
  have : ∀ (l acc : List Tm), (l.foldl onceT acc).length ≤ acc.length + l.length := by
    intro l
    induction l with
    | nil => intro acc; simp
    | cons x r ih => intro acc; rw [List.foldl_cons, List.length_cons]; have := ih (onceT acc x); have := onceT_len acc x; omega
  have := this l []
  simpa using this
theorem onceT_nil (t : Tm) : onceT [] t = [t] := rfl
theorem onceT_snoc (l : List Tm) (h : 0 < l.length) (t : Tm) : onceT l t = if eqT (l[l.length - 1]) t = true then l else l ++ [t] := by
  have e : l.getLast? = some (l[l.length - 1]) := by rw [List.getLast?_eq_getElem?, List.getElem?_eq_getElem (by omega)]
  unfold onceT; rw [e]

set_option maxRecDepth 100000 in
set_option maxHeartbeats 8000000 in
theorem set_tm (v : Value) (ts : List Tm) (w : World) (hv : Tms w v ts) (hlen : ts.length ≤ 1000) (hpt : ∀ t ∈ ts, t.parts ≤ 100000) :
    Calls Tryd.prog 24 #[v] w fun e w' => ∃ u, e = .returned u ∧ OwnTv w w' w.heap.size u (setL ts) ∧ Below w.heap.size w w' := by
  obtain ⟨i0, hi, hz0, hz1, hz2⟩ := info_parts termInfo
  have S := Lib.hid (sort_tm v ts w hv hlen hpt)
  have SAME := Lib.hid (fun (x y : Tv) w hx hy => same_tm x.t.parts x y w (Nat.le_refl _) hx hy)
  clear hpt
  go_enter Tryd.func24, Tryd.ntmps24
  go_wp2_with fail
  refine S.out.mono ?_; rintro e w1 ⟨v1, rfl, ⟨us, hus, huo, hown⟩, hb1⟩
  have hul : us.length = ts.length := by rw [← sortL_len ts, ← hus, List.length_map]
  have hus1 : us.length ≤ 1000 := by omega
  have hb1s := hb1.size
  have HUS := Lib.hid hus
  have HUO := Lib.hid huo
  rw [sortL_len, ← hul] at hown
  have HOWN := Lib.hid hown
  have HUL := Lib.hid hul
  clear hus huo hul
  obtain ⟨hrl, h0 | ⟨g, cap, cur, rfl, hg1, hgg, hgn, hgm, _, _⟩⟩ := hown
  · obtain ⟨rfl, hu0⟩ := h0
    have hus0 : us = [] := List.eq_nil_of_length_eq_zero (by simpa using hu0)
    go_wp2
    refine wp_loop_rounds 1 ?_; rw [rounds_succ]
    go_wp2
    go_ret
    refine ⟨_, rfl, ⟨[], ?_, (fun x hx => by cases hx), ?_⟩, hb1⟩
    · unfold setL; rw [← HUS.out, hus0]; rfl
    · have e : setL ts = [] := by unfold setL; rw [← HUS.out, hus0]; rfl
      rw [e]; exact World.ownsRow_nil _ _ _ _
  have hglt : g < w1.heap.size := by
    rcases Nat.lt_or_ge g w1.heap.size with h | h
    · exact h
    · rw [Array.getElem?_eq_none h] at hgg; cases hgg
  clear hrl hgg
  go_wp2
  go_loopw [3, 9] (fun o i wr => ∃ (k : Nat) (os : List Tv), k ≤ us.length ∧ i = .int .i64 k ∧ os.map Tv.t = ((us.map Tv.t).take k).foldl onceT [] ∧ (∀ x ∈ os, x.ok w) ∧ ((os = [] ∧ o = .slice none 0 0) ∨ os ≠ []) ∧
      wr.ownsRow w1.heap.size 24 4 o os.length (rowTv os) ∧ Below w1.heap.size w1 wr) (fun _ i _ => us.length - (intOf i).toNat)
  case atStart => exact ⟨0, [], Nat.zero_le _, rfl, rfl, (fun x hx => by cases hx), .inl ⟨rfl, rfl⟩, World.ownsRow_nil _ _ _ _, Below.refl _ _⟩
  case round =>
    obtain ⟨k, os, hk, rfl, hvt, hvo, hvn, howo, hb⟩ := hrel
    have hbs := hb.size
    by_cases hkl : k < us.length
    · have hil : (k : Int) < (us.length : Int) := by omega
      obtain ⟨u, hu⟩ : ∃ u, u = us[k] := ⟨_, rfl⟩
      have hat := own_tvAt (own_below HOWN.out hb) hkl
      rw [← hu, Nat.zero_add] at hat
      have huk : u.ok w := HUO.out u (by rw [hu]; exact List.getElem_mem hkl)
      obtain ⟨d0, d1, d2, d3⟩ := hat
      have hvl : os.length ≤ 1000 := by
        have := congrArg List.length hvt
        have h2 := onceL_len ((us.map Tv.t).take k)
        rw [List.length_map] at this
        rw [List.length_take, List.length_map] at h2; omega
      have HU := Lib.hid hu
      have HUK := Lib.hid huk
      have HVT := Lib.hid hvt
      have HVO := Lib.hid hvo
      have HOUT := Lib.hid howo
      clear hu huk hvt hvo
      rcases hvn with ⟨rfl, rfl⟩ | hvn
      · clear howo
        go_wp2
        go_quiet (fail)
        go_wp2_with (at_builtin; refine wpList_append_own _ rfl _ _ 22 rfl w1.heap.size 24 i0 (.agg #[.int .i64 0, .string ⟨#[]⟩, .int .i64 0, .slice none 0 0]) 4 56 Tryd.underlying22 hi hz0 hz1 hz2 rfl (by decide) _ 0 _ rfl (World.ownsRow_nil _ _ _ _) ⟨wr.heap.size + 1, 0, none⟩ 1 1 [.int .i64 u.t.kind, .string u.t.name, .int .i64 u.t.n, .slice u.a u.t.args.length u.c] rfl rfl ?n1 (tv_one u) ?n3 ?n4 ?n5 ?_)
        case n1 => exact new_row4 _ _ (by simp) _ _ _ _ _
        case n3 => unfold maxLen; omega
        case n4 => omega
        case n5 => simp; omega
        intro v2 w7 hown7 hgrow7 _
        have hb7 : Below w1.heap.size w1 w7 := by
          refine Below.grown ?_ hgrow7 (by simp; omega) (fun q hq => by cases hq)
          exact (below_drewN (hb.alloc hbs _) _).alloc (by simp; omega) _
        have HB7 := Lib.hid hb7
        have hown7' : w7.ownsRow w1.heap.size 24 4 v2 1 (rowTv [u]) := by rw [rowTv_one]; exact hown7
        have HO7 := Lib.hid hown7'
        clear hgrow7 hb7 hown7' hown7
        go_wp2_with fail
        go_roundw
        case rel =>
          refine ⟨k + 1, [u], by omega, by go_num, ?_, ?_, .inr (by simp), HO7.out, HB7.out⟩
          · rw [onceL_take (by simpa using hkl), ← HVT.out, List.getElem_map, ← HU.out]; rfl
          · intro x hx; rw [List.mem_singleton.1 hx]; exact HUK.out
        case measure => simp [intOf]; omega
      · obtain ⟨hro, h0 | ⟨g', cap', cur', rfl, hh1, hhg, hhn, hhm, _, _⟩⟩ := howo
        · exfalso; exact hvn (List.eq_nil_of_length_eq_zero h0.2)
        have hhlt : g' < wr.heap.size := by
          rcases Nat.lt_or_ge g' wr.heap.size with h | h
          · exact h
          · rw [Array.getElem?_eq_none h] at hhg; cases hhg
        have hvpos : 0 < os.length := List.length_pos_iff.2 hvn
        obtain ⟨q, hq⟩ : ∃ q, q = os.length - 1 := ⟨_, rfl⟩
        have hql : q < os.length := by omega
        have hql' : (q : Int) < (os.length : Int) := by omega
        have hz0' : ((os.length : Int) == 0) = false := by simp; omega
        have hwp : IntKind.i64.wrap ((os.length : Int) - 1) = (q : Int) := by
          have e : ((os.length : Int) - 1) = (q : Int) := by omega
          rw [e, IntKind.wrap_i64]; omega
        have HQ := Lib.hid hq
        clear hq
        obtain ⟨y, hy⟩ : ∃ y, y = os[q] := ⟨_, rfl⟩
        have hyk : y.ok w := HVO.out y (by rw [hy]; exact List.getElem_mem _)
        have hwb := hb1.trans (hb.mono hb1s)
        have hbx0 : Below w.heap.size w (wr.alloc (.cells #[.int .i64 u.t.kind, .string u.t.name, .int .i64 u.t.n, .slice u.a u.t.args.length u.c] 24)) := hwb.alloc (by omega) _
        have hby0 : Below w1.heap.size w1 (wr.alloc (.cells #[.int .i64 u.t.kind, .string u.t.name, .int .i64 u.t.n, .slice u.a u.t.args.length u.c] 24)) := hb.alloc hbs _
        have hyx := own_tvAt (HOUT.out.alloc (.cells #[.int .i64 u.t.kind, .string u.t.name, .int .i64 u.t.n, .slice u.a u.t.args.length u.c] 24)) hql
        have HOX := Lib.hid (HOUT.out.alloc (.cells #[.int .i64 u.t.kind, .string u.t.name, .int .i64 u.t.n, .slice u.a u.t.args.length u.c] 24))
        have HBX := Lib.hid (box_new wr (.int .i64 u.t.kind) (.string u.t.name) (.int .i64 u.t.n) (.slice u.a u.t.args.length u.c) 24)
        have hwl : wr.heap.size < (wr.alloc (.cells #[.int .i64 u.t.kind, .string u.t.name, .int .i64 u.t.n, .slice u.a u.t.args.length u.c] 24)).heap.size := by simp
        have C := Lib.hid (SAME.out y u (wr.alloc (.cells #[.int .i64 u.t.kind, .string u.t.name, .int .i64 u.t.n, .slice u.a u.t.args.length u.c] 24)).drew (hyk.below hbx0).drew (HUK.out.below hbx0).drew)
        simp only [Tv.val] at C
        obtain ⟨r, hr⟩ : ∃ r, r = eqT y.t u.t := ⟨_, rfl⟩
        rw [← hr] at C
        have HR := Lib.hid hr
        rw [← hy] at hyx
        have HY := Lib.hid hy
        clear hy hyk hro hhg hr hwb
        go_wp2
        obtain ⟨wq, hwq⟩ : ∃ wq, wq = wr.alloc (.cells #[.int .i64 u.t.kind, .string u.t.name, .int .i64 u.t.n, .slice u.a u.t.args.length u.c] 24) := ⟨_, rfl⟩
        rw [← hwq] at C hyx HOX HBX hwl hbx0 hby0 ⊢
        clear hwq
        rw [Nat.zero_add] at hyx
        obtain ⟨e0, e1, e2, e3⟩ := hyx
        obtain ⟨x0, x1, x2, x3, _, _, _, _⟩ := HBX.out
        cases r
        · go_still_tail 11, (by kernel_rfl)
          go_wp2_with fail
          refine C.out.mono ?_; rintro e w5 ⟨rfl, hb5⟩
          have hb5' : Below wq.heap.size wq w5 := ((Below.refl _ _).drew).trans (hb5.mono (show wq.heap.size ≤ wq.drew.heap.size from Nat.le_refl _))
          have hown5 := own_below HOX.out hb5'
          have hbs5 := hb5'.size
          obtain ⟨y0, y1, y2, y3, _, _, _, _⟩ := HBX.out.below hb5' hwl
          have hb9 : Below w1.heap.size w1 w5 := hby0.trans (hb5'.mono hby0.size)
          have hbs9 := hb9.size
          clear e0 e1 e2 e3 x0 x1 x2 x3 C hb5
          go_wp2_with (at_builtin; refine wpList_append_own _ rfl _ _ 22 rfl w1.heap.size 24 i0 (.agg #[.int .i64 0, .string ⟨#[]⟩, .int .i64 0, .slice none 0 0]) 4 56 Tryd.underlying22 hi hz0 hz1 hz2 rfl (by decide) _ os.length _ rfl (hown5.alloc _) ⟨w5.heap.size, 0, none⟩ 1 1 [.int .i64 u.t.kind, .string u.t.name, .int .i64 u.t.n, .slice u.a u.t.args.length u.c] rfl rfl (new_row4 _ _ rfl _ _ _ _ _) (tv_one u) ?m3 ?m4 ?m5 ?_)
          case m3 => unfold maxLen; omega
          case m4 => omega
          case m5 => first | omega | (simp; omega)
          intro v2 w7 hown7 hgrow7 _
          have hb7 : Below w1.heap.size w1 w7 := (hb9.alloc hbs9 _).grown hgrow7 (by simp; omega) (own_row_ge hown5)
          have HB7 := Lib.hid hb7
          have hown7' : w7.ownsRow w1.heap.size 24 4 v2 (os ++ [u]).length (rowTv (os ++ [u])) := by rw [rowTv_append, rowTv_one, List.length_append]; exact hown7
          have HO7 := Lib.hid hown7'
          clear hgrow7 hb7 hown7' hown7 hown5
          go_wp2_with fail
          go_roundw
          case rel =>
            refine ⟨k + 1, os ++ [u], by omega, by go_num, ?_, ?_, .inr (by simp), HO7.out, HB7.out⟩
            · rw [onceL_take (by simpa using hkl), ← HVT.out, List.getElem_map, ← HU.out, onceT_snoc _ (by simpa using hvpos)]
              have e : eqT ((os.map Tv.t)[(os.map Tv.t).length - 1]'(by rw [List.length_map]; omega)) u.t = false := by
                simp only [List.getElem_map, List.length_map]
                have : os[os.length - 1]'(by omega) = y := by rw [HY.out]; congr 1; exact HQ.out.symm
                rw [this]; exact HR.out.symm
              rw [e]; simp
            · intro x hx
              rcases List.mem_append.1 hx with h | h
              · exact HVO.out x h
              · rw [List.mem_singleton.1 h]; exact HUK.out
          case measure => simp [intOf]; omega
        · go_still_tail 11, (by kernel_rfl)
          go_wp2_with fail
          refine C.out.mono ?_; rintro e w5 ⟨rfl, hb5⟩
          have hb5' : Below wq.heap.size wq w5 := ((Below.refl _ _).drew).trans (hb5.mono (show wq.heap.size ≤ wq.drew.heap.size from Nat.le_refl _))
          have hb9 : Below w1.heap.size w1 w5 := hby0.trans (hb5'.mono hby0.size)
          have HB7 := Lib.hid hb9
          have HO7 := Lib.hid (own_below HOX.out hb5')
          clear e0 e1 e2 e3 x0 x1 x2 x3 C hb5
          go_wp2_with fail
          go_roundw
          case rel =>
            refine ⟨k + 1, os, by omega, by go_num, ?_, HVO.out, .inr hvn, HO7.out, HB7.out⟩
            · rw [onceL_take (by simpa using hkl), ← HVT.out, List.getElem_map, ← HU.out, onceT_snoc _ (by simpa using hvpos)]
              have e : eqT ((os.map Tv.t)[(os.map Tv.t).length - 1]'(by rw [List.length_map]; omega)) u.t = true := by
                simp only [List.getElem_map, List.length_map]
                have : os[os.length - 1]'(by omega) = y := by rw [HY.out]; congr 1; exact HQ.out.symm
                rw [this]; exact HR.out.symm
              rw [e]; simp
          case measure => simp [intOf]; omega
    · obtain rfl : k = us.length := by omega
      rw [List.take_of_length_le (by simp)] at hvt
      have hst : os.map Tv.t = setL ts := by unfold setL; rw [hvt, HUS.out]
      have hlenv : os.length = (setL ts).length := by rw [← hst, List.length_map]
      rw [hlenv] at howo
      have HVT := Lib.hid hst
      have HVO := Lib.hid hvo
      clear hvt hvo hlenv hvn hst
      have HB := Lib.hid (hb1.trans (hb.mono hb1s))
      go_wp2
      go_ret
      exact ⟨_, rfl, ⟨os, HVT.out, HVO.out, own_lower (base := w1.heap.size) howo hb1s⟩, HB.out⟩
end Go.Proofs.YtpdbnhhpibpbnaaDoor
