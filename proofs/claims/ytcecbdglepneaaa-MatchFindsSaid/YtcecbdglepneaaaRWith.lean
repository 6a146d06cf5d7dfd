/-
  One bind more, by the reference of layer 5: With.
-/
import Derived.Test.YtcecbdglepneaaaROf
namespace Go.Proofs.Ytcecbdglepneaaa
open Go.RowKit

set_option maxRecDepth 100000 in
set_option maxHeartbeats 8000000 in
theorem rwith_any (v : Value) (bs : List Bn) (s : ByteArray) (t : Tv) (w0 w : World) (hv : Bds w0 v bs) (ht : t.ok w0) (hs : s.size ≤ 9223372036854775807) (hb0 : Below w0.heap.size w0 w) (hlen : bs.length ≤ 90000) :
    Calls Try.prog 29 #[v, .string s, t.val] w fun e w' => ∃ u, e = .returned u ∧ Bds w' u (ofB ((s, t.t) :: bs)) ∧ Below w.heap.size w w' := by
  obtain ⟨i0, hi, hz0, hz1, hz2⟩ := info_parts bindInfo
  have OF := Lib.hid (fun (u : Value) (cs : List Bn) (W : World) (h : Bds W u cs) (hl : cs.length ≤ 100000) => rof_any u cs W W h (Below.refl _ _) hl)
  have HT := Lib.hid (And.intro ht hs)
  have hbx := box_new w (.int .i64 t.t.kind) (.string t.t.name) (.int .i64 t.t.n) (.slice t.a t.t.args.length t.c) 25
  have hw : Below w.heap.size w (w.alloc (.cells #[.int .i64 t.t.kind, .string t.t.name, .int .i64 t.t.n, .slice t.a t.t.args.length t.c] 25)) := (Below.refl _ _).alloc (Nat.le_refl _) _
  have hz : (w.alloc (.cells #[.int .i64 t.t.kind, .string t.t.name, .int .i64 t.t.n, .slice t.a t.t.args.length t.c] 25)).heap.size = w.heap.size + 1 := by simp
  obtain ⟨wz, hwz⟩ : ∃ wz, wz = (w.alloc (.cells #[.int .i64 t.t.kind, .string t.t.name, .int .i64 t.t.n, .slice t.a t.t.args.length t.c] 25)) := ⟨_, rfl⟩
  rw [← hwz] at hbx hw hz
  have HBX := Lib.hid (fun (V : World) (h : Below wz.heap.size wz V) => hbx.below h (by omega))
  have HBZ := Lib.hid hw
  have HB := Lib.hid hb0
  have HZS := Lib.hid hz
  have hv0 := hv
  obtain ⟨a, c, rfl, hlm, hrow⟩ := hv
  have HR := Lib.hid hrow
  have HSZ := Lib.hid (fun (x : Bn) (hx : x ∈ bs) => (show x.1.size ≤ 9223372036854775807 from by
    rcases hrow with h | ⟨b, o, _, _, hat⟩
    · rw [h] at hx; cases hx
    · obtain ⟨j, hj, rfl⟩ := List.getElem_of_mem hx
      exact (hat j _ (List.getElem?_eq_getElem hj)).1))
  clear hb0 hrow hv0 ht hs hbx hw hz
  simp only [Tv.val] at *
  go_enter Try.func29, Try.ntmps29
  go_wp2_with fail
  rw [← hwz]
  clear hwz
  go_loopw [7, 12] (fun o i wr => ∃ (q : Nat) (vs : List Bv), q ≤ bs.length ∧ i = .int .i64 q ∧ vs.length ≤ q ∧ Hid (vs.map Bv.bn = (bs.take q).filter (butB s)) ∧ Hid (∀ x ∈ vs, x.v.ok w0 ∧ x.s.size ≤ 9223372036854775807) ∧
    Hid (wr.ownsRow wz.heap.size 46 5 o vs.length (rowBv vs)) ∧ Below wz.heap.size wz wr) (fun _ i _ => bs.length - (intOf i).toNat)
  case atStart => exact ⟨0, [], Nat.zero_le _, rfl, Nat.le_refl _, Lib.hid rfl, Lib.hid (fun x hx => by cases hx), Lib.hid (World.ownsRow_nil _ _ _ _), Below.refl _ _⟩
  case round =>
    obtain ⟨q, vs, hq, rfl, hvl, HVT, HVO, HOWN, hb⟩ := hrel
    have hbs := hb.size
    have hb0r := HB.out.trans ((HBZ.out.trans (hb.mono HBZ.out.size)).mono HB.out.size)
    by_cases hql : q < bs.length
    · obtain ⟨b, o, rfl, hlt, hat⟩ := HR.out.resolve_left (by intro h; rw [h] at hql; simp at hql)
      obtain ⟨x, hx⟩ : ∃ x, bs[q]? = some x := ⟨_, List.getElem?_eq_getElem hql⟩
      obtain ⟨y, hyx, hyo, hy⟩ := bdAt_bv (hat q x hx)
      obtain ⟨m0, m1, m2, m3, m4⟩ : BvAt wr b (o + q * 5) y := ⟨(hb0r.cell (p := ⟨b, o + q * 5, none⟩) hlt).trans hy.c0, (hb0r.cell (p := ⟨b, o + q * 5 + 1, none⟩) hlt).trans hy.c1, (hb0r.cell (p := ⟨b, o + q * 5 + 2, none⟩) hlt).trans hy.c2, (hb0r.cell (p := ⟨b, o + q * 5 + 3, none⟩) hlt).trans hy.c3, (hb0r.cell (p := ⟨b, o + q * 5 + 4, none⟩) hlt).trans hy.c4⟩
      have HST := Lib.hid (show (bs.take (q + 1)).filter (butB s) = (bs.take q).filter (butB s) ++ if butB s y.bn = true then [y.bn] else [] by rw [filter_take hx, hyx])
      have HYO := Lib.hid (And.intro hyo (show y.s.size ≤ 9223372036854775807 from by have := HSZ.out x (List.mem_of_getElem? hx); rw [← hyx] at this; exact this))
      have hk0 : (0 : Int) ≤ (q : Int) := by omega
      have hk1 : (q : Int) < (bs.length : Int) := by omega
      have hkd : decide ((q : Int) < (bs.length : Int)) = true := decide_eq_true hk1
      have HBL := Lib.hid (hb.alloc hbs (.cells #[.string y.s, .int .i64 y.v.t.kind, .string y.v.t.name, .int .i64 y.v.t.n, .slice y.v.a y.v.t.args.length y.v.c] 46))
      have HOL := Lib.hid (own_below HOWN.out ((Below.refl _ _).alloc (Nat.le_refl _) (.cells #[.string y.s, .int .i64 y.v.t.kind, .string y.v.t.name, .int .i64 y.v.t.n, .slice y.v.a y.v.t.args.length y.v.c] 46)))
      have HB1 := Lib.hid hb
      have hnl : vs.length ≤ 90000 := by omega
      clear hy hat hx hb0r hyx hyo hb
      cases he : (y.s.toList == s.toList) with
      | true =>
        have HNX := Lib.hid (show vs.map Bv.bn = (bs.take (q + 1)).filter (butB s) by rw [HST.out, if_neg (by unfold butB; show ¬ (!(y.s.toList == s.toList)) = true; rw [he]; simp), List.append_nil]; exact HVT.out)
        go_wp2_with fail
        go_roundw
        case rel => exact ⟨q + 1, vs, by omega, by go_num, by omega, HNX, HVO, HOL, HBL.out⟩
        case measure => simp [intOf]; omega
      | false =>
        have HNX := Lib.hid (show (vs ++ [y]).map Bv.bn = (bs.take (q + 1)).filter (butB s) by rw [HST.out, if_pos (by unfold butB; show (!(y.s.toList == s.toList)) = true; rw [he]; rfl), List.map_append, HVT.out]; rfl)
        go_wp2_with (at_builtin; refine wpList_append_own _ rfl _ _ 22 rfl wz.heap.size 46 i0 (.agg #[.string ⟨#[]⟩, .int .i64 0, .string ⟨#[]⟩, .int .i64 0, .slice none 0 0]) 5 72 Try.underlying22 hi hz0 hz1 hz2 rfl (by decide) _ vs.length _ rfl (HOL.out.alloc _) ⟨wr.heap.size + 1, 0, none⟩ 1 1 [.string y.s, .int .i64 y.v.t.kind, .string y.v.t.name, .int .i64 y.v.t.n, .slice y.v.a y.v.t.args.length y.v.c] rfl rfl (new_row5 _ _ (by simp) _ _ _ _ _ _) (bv_one y) ?n3 ?n4 ?n5 ?_)
        case n3 => unfold maxLen; omega
        case n4 => omega
        case n5 => first | omega | (simp; omega)
        intro v3 w3 hown3 hgrow3 _
        have HB3 := Lib.hid ((HBL.out.alloc (by simp; omega) _).grown hgrow3 (by simp; omega) (own_row_ge HOL.out))
        have HO3 := Lib.hid hown3
        clear hgrow3 hown3
        go_wp2_with fail
        go_roundw
        case rel =>
          refine ⟨q + 1, vs ++ [y], by omega, by go_num, by simp; omega, HNX, Lib.hid ?_, Lib.hid ?_, HB3.out⟩
          · intro x hx
            rcases List.mem_append.1 hx with hx | hx
            · exact HVO.out x hx
            · rw [List.mem_singleton] at hx; subst hx; exact HYO.out
          · rw [rowBv_append, rowBv_one, List.length_append]; exact HO3.out
        case measure => simp [intOf]; omega
    · have hke : q = bs.length := by omega
      have hkd : decide ((q : Int) < (bs.length : Int)) = false := decide_eq_false (by omega)
      have hkn : ¬ (q : Int) < (bs.length : Int) := by omega
      have hnl : vs.length ≤ 90000 := by omega
      have HKE := Lib.hid (show vs.map Bv.bn = bs.filter (butB s) by have h := HVT.out; rw [hke, List.take_length] at h; exact h)
      have HBE := Lib.hid hb
      have HB0R := Lib.hid hb0r
      obtain ⟨p0, p1, p2, p3, _, _, _, _⟩ := HBX.out wr hb
      have hown := HOWN.out
      clear hke hb hb0r
      go_wp2_with (at_builtin; refine wpList_append_own _ rfl _ _ 22 rfl wz.heap.size 46 i0 (.agg #[.string ⟨#[]⟩, .int .i64 0, .string ⟨#[]⟩, .int .i64 0, .slice none 0 0]) 5 72 Try.underlying22 hi hz0 hz1 hz2 rfl (by decide) _ vs.length _ rfl (hown.alloc _) ⟨wr.heap.size, 0, none⟩ 1 1 [.string s, .int .i64 t.t.kind, .string t.t.name, .int .i64 t.t.n, .slice t.a t.t.args.length t.c] rfl rfl (new_row5 _ _ rfl _ _ _ _ _ _) (bv_one ⟨s, t⟩) ?e3 ?e4 ?e5 ?_)
      case e3 => unfold maxLen; omega
      case e4 => omega
      case e5 => first | omega | (simp; omega)
      intro v3 w3 hown3 hgrow3 _
      have hb3 := (HBE.out.alloc hbs _).grown hgrow3 (by simp; omega) (own_row_ge hown)
      have hO3 : w3.ownsRow wz.heap.size 46 5 v3 (vs.length + 1) (rowBv (vs ++ [⟨s, t⟩])) := by rw [rowBv_append, rowBv_one]; exact hown3
      have hB3 : Below w.heap.size w w3 := HBZ.out.trans (hb3.mono HBZ.out.size)
      have hbd := bds_own (w0 := w0) hO3 (by simp) (fun x hx => by
        rcases List.mem_append.1 hx with hx | hx
        · exact HVO.out x hx
        · rw [List.mem_singleton] at hx; subst hx; exact HT.out) (HB.out.trans (hB3.mono HB.out.size)) (by omega)
      have HBD := Lib.hid (show Bds w3 v3 (bs.filter (butB s) ++ [(s, t.t)]) by rw [← HKE.out]; rw [List.map_append] at hbd; exact hbd)
      have HB3 := Lib.hid hB3
      have HL3 := Lib.hid (show (bs.filter (butB s) ++ [(s, t.t)]).length ≤ 100000 by rw [← HKE.out, List.length_append, List.length_map, List.length_singleton]; omega)
      clear hgrow3 hown3 hO3 hB3 hbd hb3 hown p0 p1 p2 p3
      go_wp2_with fail
      refine (OF.out _ _ _ HBD.out HL3.out).mono ?_; rintro e w4 ⟨u, rfl, hu, hb4⟩
      have HE := Lib.hid (hu.bds hb4 (by have := ofB_length (bs.filter (butB s) ++ [(s, t.t)]); have := HL3.out; omega))
      have HB4 := Lib.hid (below_next HB3.out hb4)
      clear hu hb4
      go_wp2_with fail
      go_ret
      exact ⟨_, rfl, by rw [← ofB_with]; exact HE.out, HB4.out⟩
end Go.Proofs.Ytcecbdglepneaaa
