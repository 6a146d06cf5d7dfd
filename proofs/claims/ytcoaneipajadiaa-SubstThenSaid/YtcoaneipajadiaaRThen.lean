/-
  Binds behind binds, by the reference of layer 5: Then.
-/
import Derived.Test.YtcoaneipajadiaaRBinds
import Derived.Test.YtcoaneipajadiaaThenPu
import Derived.Test.YtcoaneipajadiaaAppOpt
import Derived.Test.YtcoaneipajadiaaPHands
namespace Go.Proofs.Ytcoaneipajadiaa
open Go.RowKit

/-- A row of binds, opened: as values, and its cells in every later world. -/
theorem bds_open {w0 w : World} {v : Value} {bs : List Bn} (h : Bds w0 v bs) (hb0 : Below w0.heap.size w0 w) : ∃ a c, ∃ vs : List Bv, v = .slice a bs.length c ∧ vs.map Bv.bn = bs ∧ (∀ x ∈ vs, x.v.ok w0 ∧ x.s.size ≤ 9223372036854775807) ∧ (a = none → bs.length = 0) ∧
    ∀ W, Below w.heap.size w W → ∀ ad, a = some ad → ∀ q x, (rowBv vs)[q]? = some x → W.cell? (ad.add q) = some x := by
  obtain ⟨a, c, rfl, _, h⟩ := h
  rcases h with rfl | ⟨b, o, rfl, hlt, hr⟩
  · exact ⟨a, c, [], rfl, rfl, (fun x hx => by cases hx), (fun _ => rfl), fun W hW ad ha q x hq => by simp [rowBv] at hq⟩
  · obtain ⟨vs, hvt, hvo, hc⟩ := rows_vs hr
    refine ⟨_, c, vs, rfl, hvt, hvo, (fun h => by cases h), fun W hW ad ha q x hq => ?_⟩
    cases ha
    rw [addr_row]
    exact ((hb0.trans (hW.mono hb0.size)).cell (p := ⟨b, o + q, none⟩) hlt).trans (hc q x hq)

set_option maxRecDepth 100000 in
set_option maxHeartbeats 8000000 in
theorem rthen_any (va vb : Value) (cs bs : List Bn) (w0 w : World) (ha : Bds w0 va cs) (hb : Bds w0 vb bs) (hb0 : Below w0.heap.size w0 w) (hl1 : cs.length ≤ 40) (hl2 : bs.length ≤ 40) (hp : ∀ x ∈ cs, x.2.parts ≤ 100) :
    Calls Try.prog 26 #[va, vb] w fun e w' => ∃ u, e = .returned u ∧ Bds w' u (thenB cs bs) ∧ Below w.heap.size w w' := by
  obtain ⟨i0, hi, hz0, hz1, hz2⟩ := info_parts bindInfo
  have GA := Lib.hid (fun (s : ByteArray) (W : World) (h : Below w0.heap.size w0 W) => rget_any va cs s w0 W ha h)
  have GB := Lib.hid (fun (s : ByteArray) (W : World) (h : Below w0.heap.size w0 W) => rget_any vb bs s w0 W hb h)
  have RA := Lib.hid (fun (y : Tv) (W : World) (hy : y.t.parts ≤ 100) (ho : y.ok w0) (h : Below w0.heap.size w0 W) => (rapply_tm bs vb w0 hb 100 y W hy (by omega) ho h).mono (fun e w' ⟨z, h1, h2, h3, h4⟩ => (show ∃ (tz : Tm) (az : Option Addr) (cz : Nat), e = Ending.returned (.agg #[.int .i64 tz.kind, .string tz.name, .int .i64 tz.n, .slice az tz.args.length cz]) ∧ tz = appT bs y.t ∧ Fresh w0 W w' ⟨tz, az, cz⟩ ∧ Below W.heap.size W w' from ⟨z.t, z.a, z.c, h1, h2, h3, h4⟩)))
  have NS := Lib.hid (fun (s : ByteArray) (h : s ∈ namesB (cs ++ bs)) => (show s.size ≤ 9223372036854775807 from by
    obtain ⟨x, hx, e⟩ := mem_namesB.1 h
    rcases List.mem_append.1 hx with hx | hx
    · exact name_size ha (mem_namesB.2 ⟨x, hx, e⟩)
    · exact name_size hb (mem_namesB.2 ⟨x, hx, e⟩)))
  have HP := Lib.hid (fun (s : ByteArray) (t : Tm) (h : getB cs s = some t) => (show t.parts ≤ 100 from by
    obtain ⟨x, hx, rfl⟩ := getB_mem h
    exact hp x hx))
  have HB := Lib.hid hb0
  obtain ⟨aa, ca, vsA, rfl, hAt, hAo, hA0, hAc⟩ := bds_open ha hb0
  obtain ⟨ab, cb, vsB, rfl, hBt, hBo, hBx, hBc⟩ := bds_open hb hb0
  have hAl : vsA.length = cs.length := by rw [← hAt, List.length_map]
  have hBl : vsB.length = bs.length := by rw [← hBt, List.length_map]
  have HA := Lib.hid (And.intro hA0 (And.intro (show (rowBv vsA).length = cs.length * 5 by rw [rowBv_length, hAl]) (And.intro hAc (rowBv_one' vsA))))
  have HBB := Lib.hid (And.intro hBx (And.intro (show (rowBv vsB).length = bs.length * 5 by rw [rowBv_length, hBl]) (And.intro hBc (rowBv_one' vsB))))
  have HVS := Lib.hid (show (vsA ++ vsB).map Bv.bn = cs ++ bs ∧ (∀ x ∈ vsA ++ vsB, x.v.ok w0 ∧ x.s.size ≤ 9223372036854775807) ∧ (vsA ++ vsB).length = cs.length + bs.length from
    ⟨by rw [List.map_append, hAt, hBt], fun x hx => (List.mem_append.1 hx).elim (hAo x) (hBo x), by rw [List.length_append, hAl, hBl]⟩)
  have HE0 := Lib.hid (own_empty w w.heap.size 50 5 (Nat.le_refl _))
  have hba : Below w.heap.size w (w.alloc (.cells #[] 50)) := (Below.refl _ _).alloc (Nat.le_refl _) _
  have HBA := Lib.hid hba
  have hnl : (namesB (cs ++ bs)).length ≤ 80 := by have := namesB_len (cs ++ bs); rw [List.length_append] at this; omega
  clear ha hb hb0 hAt hAo hA0 hAc hBt hBo hBx hBc hAl hBl hba hp
  go_enter Try.func26, Try.ntmps26
  go_wp2_with (at_builtin; refine wpList_append_opt rfl _ _ 22 rfl w.heap.size 50 i0 (.agg #[.string ⟨#[]⟩, .int .i64 0, .string ⟨#[]⟩, .int .i64 0, .slice none 0 0]) 5 72 Try.underlying22 hi hz0 hz1 hz2 rfl (by decide) _ 0 _ rfl HE0.out aa cs.length ca (rowBv vsA) rfl HA.out.1 HA.out.2.1 (HA.out.2.2.1 _ HBA.out) HA.out.2.2.2 ?ap3 ?ap4 ?ap5 ?_)
  case ap3 => unfold maxLen; omega
  case ap4 => omega
  case ap5 => first | omega | (simp; done) | (simp; omega)
  intro v1 w1 hown1 hg1 _
  have hb1 : Below w.heap.size w w1 := HBA.out.grown hg1 (by simp) (own_row_ge HE0.out)
  have HB1 := Lib.hid hb1
  have HO1 := Lib.hid hown1
  clear hown1 hg1 hb1
  go_wp2_with (at_builtin; refine wpList_append_opt rfl _ _ 22 rfl w.heap.size 50 i0 (.agg #[.string ⟨#[]⟩, .int .i64 0, .string ⟨#[]⟩, .int .i64 0, .slice none 0 0]) 5 72 Try.underlying22 hi hz0 hz1 hz2 rfl (by decide) _ cs.length _ rfl HO1.out ab bs.length cb (rowBv vsB) rfl HBB.out.1 HBB.out.2.1 (HBB.out.2.2.1 _ HB1.out) HBB.out.2.2.2 ?bp3 ?bp4 ?bp5 ?_)
  case bp3 => unfold maxLen; omega
  case bp4 => omega
  case bp5 => exact HB1.out.size
  intro v2 w2 hown2 hg2 _
  have hb2 : Below w.heap.size w w2 := HB1.out.grown hg2 HB1.out.size (own_row_ge HO1.out)
  have hbd : Bds w2 v2 (cs ++ bs) := by
    rw [← HVS.out.1]
    rw [← rowBv_append] at hown2
    exact bds_own (w0 := w0) hown2 HVS.out.2.2 HVS.out.2.1 (HB.out.trans (hb2.mono HB.out.size)) (by omega)
  have HB2 := Lib.hid hb2
  have NM := Lib.hid (rnames_any v2 (cs ++ bs) w2 w2 hbd (Below.refl _ _) (by rw [List.length_append]; omega))
  clear hown2 hg2 hb2 hbd HO1 HA HBB
  go_wp2_with fail
  refine NM.out.mono ?_; rintro e w3 ⟨un, rfl, hn, hb3⟩
  have HB3 := Lib.hid (below_next HB2.out hb3)
  clear hb3 NM
  rcases own_cells hn with ⟨rfl, h0⟩ | ⟨g, cap, rfl, hg, hcap, hcell⟩
  · have HE := Lib.hid (show thenB cs bs = [] by rw [← thenTo_all, h0]; rfl)
    clear hn h0
    go_wp2_with fail
    refine wp_loop_rounds 1 ?_; rw [rounds_succ]
    go_wp2_with fail
    go_ret
    exact ⟨_, rfl, by rw [HE.out]; exact Bds.none_ _ _ _, HB3.out⟩
  · have CEL := Lib.hid hcell
    clear hn hcell
    go_wp2_with fail
    go_loopw [5, 17] (fun o i wr => ∃ (k : Nat) (vs : List Bv), k ≤ (namesB (cs ++ bs)).length ∧ i = .int .i64 k ∧ vs.length = k ∧ Hid (vs.map Bv.bn = thenTo cs bs k) ∧ Hid (∀ x ∈ vs, Beside w0 w3 wr o x.v ∧ x.s.size ≤ 9223372036854775807) ∧
      Hid (wr.ownsRow w3.heap.size 50 5 o k (rowBv vs)) ∧ Below w3.heap.size w3 wr) (fun _ i _ => (namesB (cs ++ bs)).length - (intOf i).toNat)
    case atStart => exact ⟨0, [], Nat.zero_le _, rfl, rfl, Lib.hid rfl, Lib.hid (fun x hx => by cases hx), Lib.hid (World.ownsRow_nil _ _ _ _), Below.refl _ _⟩
    case round =>
      obtain ⟨k, vs, hk, rfl, hvl, HVT, HVO, HOWN, hb⟩ := hrel
      by_cases hkl : k < (namesB (cs ++ bs)).length
      · obtain ⟨s, hs⟩ : ∃ s, (namesB (cs ++ bs))[k]? = some s := ⟨_, List.getElem?_eq_getElem hkl⟩
        have m0 : wr.cell? ⟨g, 0 + k, none⟩ = some (.string s) := (hb.cell (p := ⟨g, 0 + k, none⟩) hg).trans (CEL.out k s hs)
        rw [Nat.zero_add] at m0
        have HSZ := Lib.hid (NS.out s (List.mem_of_getElem? hs))
        have HNX := Lib.hid (thenTo_succ hs)
        have hbw : Below w.heap.size w wr := HB3.out.trans (hb.mono HB3.out.size)
        have G := GA.out s wr (HB.out.trans (hbw.mono HB.out.size))
        have hk0 : (0 : Int) ≤ (k : Int) := by omega
        have hk1 : (k : Int) < ((namesB (cs ++ bs)).length : Int) := by omega
        have hkd : decide ((k : Int) < ((namesB (cs ++ bs)).length : Int)) = true := decide_eq_true hk1
        have HBW := Lib.hid hb
        have HWW := Lib.hid hbw
        have HOL := Lib.hid (fun g' (e : u5.ownBlock = some g') => (HOWN.out.lt g' e).2)
        obtain ⟨og, hog⟩ : ∃ og, getB cs s = og := ⟨_, rfl⟩
        rw [hog] at G
        have HG := Lib.hid G
        have HOG := Lib.hid hog
        clear hs hb hbw G hog
        cases og with
        | none =>
          go_wp2_with fail
          refine HG.out.mono ?_; rintro e w4 ⟨⟨ty, ay, cy⟩, rfl, hyt, hyo, hb4⟩
          have hby := box_new w4 (.int .i64 ty.kind) (.string ty.name) (.int .i64 ty.n) (.slice ay ty.args.length cy) 25
          have hz4 : (w4.alloc (.cells #[.int .i64 ty.kind, .string ty.name, .int .i64 ty.n, .slice ay ty.args.length cy] 25)).heap.size = w4.heap.size + 1 := by simp
          have hb5 := hb4.alloc hb4.size (.cells #[.int .i64 ty.kind, .string ty.name, .int .i64 ty.n, .slice ay ty.args.length cy] 25)
          obtain ⟨w5, hw5⟩ : ∃ w5, w5 = (w4.alloc (.cells #[.int .i64 ty.kind, .string ty.name, .int .i64 ty.n, .slice ay ty.args.length cy] 25)) := ⟨_, rfl⟩
          rw [← hw5] at hby hz4 hb5
          have HBX5 := Lib.hid (fun (V : World) (h : Below w5.heap.size w5 V) => hby.below h (by omega))
          have HX5 := Lib.hid hb5
          have HW4 := Lib.hid hb4.size
          have H45 := Lib.hid hz4
          have HYO := Lib.hid hyo
          have HB05 := Lib.hid (HB.out.trans ((HWW.out.trans (hb5.mono HWW.out.size)).mono HB.out.size))
          have HZN := Lib.hid (show thenF cs bs s = (getB bs s).getD zeroT by unfold thenF; rw [HOG.out]; rfl)
          have G2 := Lib.hid (GB.out s w5 HB05.out)
          clear hyt hyo hb4 hby hz4 hb5 m0
          simp only [Tv.val]
          go_wp2_with fail
          rw [← hw5]
          clear hw5
          refine G2.out.mono ?_; rintro e w6 ⟨⟨tz, az, cz⟩, rfl, hzt, hzo, hb6⟩
          have HZT := Lib.hid (show tz = thenF cs bs s by rw [HZN.out]; exact hzt)
          clear hzt
          have hbw5 := HWW.out.trans (HX5.out.mono HWW.out.size)
          have hbx6 := HBX5.out w6 hb6
          have hbs := hbx6.sets (.int .i64 tz.kind) (.string tz.name) (.int .i64 tz.n) (.slice az tz.args.length cz)
          have hsz7 : ((((w6.setCell ⟨w4.heap.size, 0, none⟩ (.int .i64 tz.kind)).setCell ⟨w4.heap.size, 1, none⟩ (.string tz.name)).setCell ⟨w4.heap.size, 2, none⟩ (.int .i64 tz.n)).setCell ⟨w4.heap.size, 3, none⟩ (.slice az tz.args.length cz)).heap.size = w6.heap.size := by simp
          have hb7 := below_sets (below_next HX5.out hb6) HW4.out (.int .i64 tz.kind) (.string tz.name) (.int .i64 tz.n) (.slice az tz.args.length cz)
          have hwid : ∀ b, w5.heap.size ≤ b → ((((w6.setCell ⟨w4.heap.size, 0, none⟩ (.int .i64 tz.kind)).setCell ⟨w4.heap.size, 1, none⟩ (.string tz.name)).setCell ⟨w4.heap.size, 2, none⟩ (.int .i64 tz.n)).setCell ⟨w4.heap.size, 3, none⟩ (.slice az tz.args.length cz)).heap[b]? = w6.heap[b]? := fun b hbb => by
            have hne : b ≠ w4.heap.size := by have := H45.out; omega
            rw [Below.heap_setCell _ _ _ _ hne, Below.heap_setCell _ _ _ _ hne, Below.heap_setCell _ _ _ _ hne, Below.heap_setCell _ _ _ _ hne]
          obtain ⟨w7, hw7⟩ : ∃ w7, w7 = ((((w6.setCell ⟨w4.heap.size, 0, none⟩ (.int .i64 tz.kind)).setCell ⟨w4.heap.size, 1, none⟩ (.string tz.name)).setCell ⟨w4.heap.size, 2, none⟩ (.int .i64 tz.n)).setCell ⟨w4.heap.size, 3, none⟩ (.slice az tz.args.length cz)) := ⟨_, rfl⟩
          rw [← hw7] at hbs hb7 hwid hsz7
          have HBE := Lib.hid (show Beside w0 w3 w7 u5 ⟨tz, az, cz⟩ from beside_old hzo)
          have hown7 := own_below HOWN.out hb7
          have hown8 := hown7.alloc (.cells #[.string s, .int .i64 tz.kind, .string tz.name, .int .i64 tz.n, .slice az tz.args.length cz] 50)
          have hb8 := hb7.alloc hb7.size (.cells #[.string s, .int .i64 tz.kind, .string tz.name, .int .i64 tz.n, .slice az tz.args.length cz] 50)
          have HB7 := Lib.hid hb7
          have HB8 := Lib.hid hb8
          have HO8 := Lib.hid hown8
          have HS8 := Lib.hid (show w3.heap.size ≤ (w7.alloc (.cells #[.string s, .int .i64 tz.kind, .string tz.name, .int .i64 tz.n, .slice az tz.args.length cz] 50)).heap.size from Nat.le_trans HBW.out.size hb8.size)
          have HN8 := Lib.hid (new_row5 w7 _ rfl (.string s) (.int .i64 tz.kind) (.string tz.name) (.int .i64 tz.n) (.slice az tz.args.length cz) 50)
          obtain ⟨q0, q1, q2, q3, f0, f1, f2, f3⟩ := hbx6
          have HS7 := Lib.hid hbs
          clear hb6 hb7 hb8 hown7 hown8 hwid hsz7 hbw5 hbs hzo
          simp only [Tv.val]
          rename_i K2 hK2 K1 hK1 K0 hK0
          have HK1 := Lib.hid hK1
          clear hK1
          go_wp2_with fail
          rw [← hw7]
          clear hw7 q0 q1 q2 q3 f0 f1 f2 f3
          obtain ⟨s0, s1, s2, s3, _, _, _, _⟩ := HS7.out
          refine HK1.out _ _ ?_
          go_wp2_with (at_builtin; refine wpList_append_own_at _ rfl _ _ 22 rfl w3.heap.size 50 i0 (.agg #[.string ⟨#[]⟩, .int .i64 0, .string ⟨#[]⟩, .int .i64 0, .slice none 0 0]) 5 72 Try.underlying22 hi hz0 hz1 hz2 rfl (by decide) _ k _ rfl HO8.out ⟨w7.heap.size, 0, none⟩ 1 1 [.string s, .int .i64 tz.kind, .string tz.name, .int .i64 tz.n, .slice az tz.args.length cz] rfl rfl HN8.out (bv_one ⟨s, ⟨tz, az, cz⟩⟩) ?n3 ?n4 ?n5 ?_)
          case n3 => unfold maxLen; omega
          case n4 => omega
          case n5 => exact HS8.out
          intro v9 w9 hown9 hg9 _ hat9
          have hb9 : Below w3.heap.size w3 w9 := (HBW.out.trans (HB8.out.mono HBW.out.size)).grown hg9 HS8.out (own_row_ge HO8.out)
          have hA7 : Below w7.heap.size w7 (w7.alloc (.cells #[.string s, .int .i64 tz.kind, .string tz.name, .int .i64 tz.n, .slice az tz.args.length cz] 50)) := (Below.refl _ _).alloc (Nat.le_refl _) _
          have HALL := Lib.hid (show ∀ x ∈ vs ++ [(⟨s, ⟨tz, az, cz⟩⟩ : Bv)], Beside w0 w3 w9 v9 x.v ∧ x.s.size ≤ 9223372036854775807 from fun x hx => by
            rcases List.mem_append.1 hx with hx | hx
            · exact ⟨((HVO.out x hx).1.below HB8.out).grown hg9 (by simpa using hat9), (HVO.out x hx).2⟩
            · rw [List.mem_singleton] at hx
              subst hx
              exact ⟨(HBE.out.below hA7).grown hg9 (by simpa using hat9), HSZ.out⟩)
          have HROW := Lib.hid (show w9.ownsRow w3.heap.size 50 5 v9 (k + 1) (rowBv (vs ++ [(⟨s, ⟨tz, az, cz⟩⟩ : Bv)])) by rw [rowBv_append, rowBv_one]; exact hown9)
          have HVT2 := Lib.hid (show (vs ++ [(⟨s, ⟨tz, az, cz⟩⟩ : Bv)]).map Bv.bn = thenTo cs bs (k + 1) by rw [List.map_append, HVT.out, HNX.out, ← HZT.out]; rfl)
          have HB9 := Lib.hid hb9
          clear hown9 hg9 hat9 hb9 hA7 s0 s1 s2 s3
          go_wp2_with fail
          go_roundw
          case rel => exact ⟨k + 1, vs ++ [(⟨s, ⟨tz, az, cz⟩⟩ : Bv)], by omega, by go_num, by rw [List.length_append, hvl]; rfl, HVT2, HALL, HROW, HB9.out⟩
          case measure => simp [intOf]; omega
        | some t0 =>
          go_wp2_with fail
          refine HG.out.mono ?_; rintro e w4 ⟨⟨ty, ay, cy⟩, rfl, hyt, hyo, hb4⟩
          have hby := box_new w4 (.int .i64 ty.kind) (.string ty.name) (.int .i64 ty.n) (.slice ay ty.args.length cy) 25
          have hz4 : (w4.alloc (.cells #[.int .i64 ty.kind, .string ty.name, .int .i64 ty.n, .slice ay ty.args.length cy] 25)).heap.size = w4.heap.size + 1 := by simp
          have hb5 := hb4.alloc hb4.size (.cells #[.int .i64 ty.kind, .string ty.name, .int .i64 ty.n, .slice ay ty.args.length cy] 25)
          obtain ⟨w5, hw5⟩ : ∃ w5, w5 = (w4.alloc (.cells #[.int .i64 ty.kind, .string ty.name, .int .i64 ty.n, .slice ay ty.args.length cy] 25)) := ⟨_, rfl⟩
          rw [← hw5] at hby hz4 hb5
          have HBX5 := Lib.hid (fun (V : World) (h : Below w5.heap.size w5 V) => hby.below h (by omega))
          have HX5 := Lib.hid hb5
          have HW4 := Lib.hid hb4.size
          have H45 := Lib.hid hz4
          have HYO := Lib.hid hyo
          have HB05 := Lib.hid (HB.out.trans ((HWW.out.trans (hb5.mono HWW.out.size)).mono HB.out.size))
          have hyt0 : ty = t0 := hyt
          have HZN := Lib.hid (show thenF cs bs s = appT bs t0 by unfold thenF; rw [HOG.out])
          have A1 := Lib.hid (RA.out ⟨ty, ay, cy⟩ w5 (by rw [show (⟨ty, ay, cy⟩ : Tv).t = t0 from hyt0]; exact HP.out s t0 HOG.out) HYO.out HB05.out)
          have HY0 := Lib.hid hyt0
          obtain ⟨q0, q1, q2, q3, _, _, _, _⟩ := HBX5.out w5 (Below.refl _ _)
          have HW5 := Lib.hid hw5
          rw [hw5] at q0 q1 q2 q3
          clear hyt hyt0 hyo hb4 hby hz4 hb5 m0 hw5
          simp only [Tv.val] at A1
          simp only [Tv.val]
          go_wp2_with fail
          rw [← HW5.out]
          clear q0 q1 q2 q3 HW5
          refine A1.out.mono ?_; rintro e w6 ⟨tz, az, cz, rfl, hzt, hzf, hb6⟩
          have HZT := Lib.hid (show tz = thenF cs bs s by rw [HZN.out, ← HY0.out]; exact hzt)
          clear hzt
          have hbw5 := HWW.out.trans (HX5.out.mono HWW.out.size)
          have hbx6 := HBX5.out w6 hb6
          have hbs := hbx6.sets (.int .i64 tz.kind) (.string tz.name) (.int .i64 tz.n) (.slice az tz.args.length cz)
          have hsz7 : ((((w6.setCell ⟨w4.heap.size, 0, none⟩ (.int .i64 tz.kind)).setCell ⟨w4.heap.size, 1, none⟩ (.string tz.name)).setCell ⟨w4.heap.size, 2, none⟩ (.int .i64 tz.n)).setCell ⟨w4.heap.size, 3, none⟩ (.slice az tz.args.length cz)).heap.size = w6.heap.size := by simp
          have hb7 := below_sets (below_next HX5.out hb6) HW4.out (.int .i64 tz.kind) (.string tz.name) (.int .i64 tz.n) (.slice az tz.args.length cz)
          have hwid : ∀ b, w5.heap.size ≤ b → ((((w6.setCell ⟨w4.heap.size, 0, none⟩ (.int .i64 tz.kind)).setCell ⟨w4.heap.size, 1, none⟩ (.string tz.name)).setCell ⟨w4.heap.size, 2, none⟩ (.int .i64 tz.n)).setCell ⟨w4.heap.size, 3, none⟩ (.slice az tz.args.length cz)).heap[b]? = w6.heap[b]? := fun b hbb => by
            have hne : b ≠ w4.heap.size := by have := H45.out; omega
            rw [Below.heap_setCell _ _ _ _ hne, Below.heap_setCell _ _ _ _ hne, Below.heap_setCell _ _ _ _ hne, Below.heap_setCell _ _ _ _ hne]
          obtain ⟨w7, hw7⟩ : ∃ w7, w7 = ((((w6.setCell ⟨w4.heap.size, 0, none⟩ (.int .i64 tz.kind)).setCell ⟨w4.heap.size, 1, none⟩ (.string tz.name)).setCell ⟨w4.heap.size, 2, none⟩ (.int .i64 tz.n)).setCell ⟨w4.heap.size, 3, none⟩ (.slice az tz.args.length cz)) := ⟨_, rfl⟩
          rw [← hw7] at hbs hb7 hwid hsz7
          have HBE := Lib.hid (beside_fresh (w := w3) (o := u5) (hzf.widen (Nat.le_refl _) (by rw [hsz7]; exact Nat.le_refl _) (fun b h1 _ => hwid b h1)) (Nat.le_trans HBW.out.size HX5.out.size) (fun g' e => Nat.lt_of_lt_of_le (HOL.out g' e) HX5.out.size))
          have hown7 := own_below HOWN.out hb7
          have hown8 := hown7.alloc (.cells #[.string s, .int .i64 tz.kind, .string tz.name, .int .i64 tz.n, .slice az tz.args.length cz] 50)
          have hb8 := hb7.alloc hb7.size (.cells #[.string s, .int .i64 tz.kind, .string tz.name, .int .i64 tz.n, .slice az tz.args.length cz] 50)
          have HB7 := Lib.hid hb7
          have HB8 := Lib.hid hb8
          have HO8 := Lib.hid hown8
          have HS8 := Lib.hid (show w3.heap.size ≤ (w7.alloc (.cells #[.string s, .int .i64 tz.kind, .string tz.name, .int .i64 tz.n, .slice az tz.args.length cz] 50)).heap.size from Nat.le_trans HBW.out.size hb8.size)
          have HN8 := Lib.hid (new_row5 w7 _ rfl (.string s) (.int .i64 tz.kind) (.string tz.name) (.int .i64 tz.n) (.slice az tz.args.length cz) 50)
          obtain ⟨q0, q1, q2, q3, f0, f1, f2, f3⟩ := hbx6
          have HS7 := Lib.hid hbs
          clear hb6 hb7 hb8 hown7 hown8 hwid hsz7 hbw5 hbs hzf
          rename_i K2 hK2 K1 hK1 K0 hK0
          have HK1 := Lib.hid hK1
          clear hK1
          go_wp2_with fail
          rw [← hw7]
          clear hw7 q0 q1 q2 q3 f0 f1 f2 f3
          obtain ⟨s0, s1, s2, s3, _, _, _, _⟩ := HS7.out
          refine HK1.out _ _ ?_
          go_wp2_with (at_builtin; refine wpList_append_own_at _ rfl _ _ 22 rfl w3.heap.size 50 i0 (.agg #[.string ⟨#[]⟩, .int .i64 0, .string ⟨#[]⟩, .int .i64 0, .slice none 0 0]) 5 72 Try.underlying22 hi hz0 hz1 hz2 rfl (by decide) _ k _ rfl HO8.out ⟨w7.heap.size, 0, none⟩ 1 1 [.string s, .int .i64 tz.kind, .string tz.name, .int .i64 tz.n, .slice az tz.args.length cz] rfl rfl HN8.out (bv_one ⟨s, ⟨tz, az, cz⟩⟩) ?n3 ?n4 ?n5 ?_)
          case n3 => unfold maxLen; omega
          case n4 => omega
          case n5 => exact HS8.out
          intro v9 w9 hown9 hg9 _ hat9
          have hb9 : Below w3.heap.size w3 w9 := (HBW.out.trans (HB8.out.mono HBW.out.size)).grown hg9 HS8.out (own_row_ge HO8.out)
          have hA7 : Below w7.heap.size w7 (w7.alloc (.cells #[.string s, .int .i64 tz.kind, .string tz.name, .int .i64 tz.n, .slice az tz.args.length cz] 50)) := (Below.refl _ _).alloc (Nat.le_refl _) _
          have HALL := Lib.hid (show ∀ x ∈ vs ++ [(⟨s, ⟨tz, az, cz⟩⟩ : Bv)], Beside w0 w3 w9 v9 x.v ∧ x.s.size ≤ 9223372036854775807 from fun x hx => by
            rcases List.mem_append.1 hx with hx | hx
            · exact ⟨((HVO.out x hx).1.below HB8.out).grown hg9 (by simpa using hat9), (HVO.out x hx).2⟩
            · rw [List.mem_singleton] at hx
              subst hx
              exact ⟨(HBE.out.below hA7).grown hg9 (by simpa using hat9), HSZ.out⟩)
          have HROW := Lib.hid (show w9.ownsRow w3.heap.size 50 5 v9 (k + 1) (rowBv (vs ++ [(⟨s, ⟨tz, az, cz⟩⟩ : Bv)])) by rw [rowBv_append, rowBv_one]; exact hown9)
          have HVT2 := Lib.hid (show (vs ++ [(⟨s, ⟨tz, az, cz⟩⟩ : Bv)]).map Bv.bn = thenTo cs bs (k + 1) by rw [List.map_append, HVT.out, HNX.out, ← HZT.out]; rfl)
          have HB9 := Lib.hid hb9
          clear hown9 hg9 hat9 hb9 hA7 s0 s1 s2 s3
          go_wp2_with fail
          go_roundw
          case rel => exact ⟨k + 1, vs ++ [(⟨s, ⟨tz, az, cz⟩⟩ : Bv)], by omega, by go_num, by rw [List.length_append, hvl]; rfl, HVT2, HALL, HROW, HB9.out⟩
          case measure => simp [intOf]; omega
      · have hke : k = (namesB (cs ++ bs)).length := by omega
        have hkd : decide ((k : Int) < ((namesB (cs ++ bs)).length : Int)) = false := decide_eq_false (by omega)
        have hkn : ¬ (k : Int) < ((namesB (cs ++ bs)).length : Int) := by omega
        have hbw : Below w.heap.size w wr := HB3.out.trans (hb.mono HB3.out.size)
        have hbd := bds_own (w0 := wr) HOWN.out hvl (fun x hx => ⟨(HVO.out x hx).1 wr (HB.out.trans (hbw.mono HB.out.size)) (Nat.le_refl _) (fun _ _ _ _ => rfl), (HVO.out x hx).2⟩) (Below.refl _ _) (by omega)
        rw [HVT.out, hke, thenTo_all] at hbd
        have HE := Lib.hid hbd
        have HBE := Lib.hid hbw
        clear hke hb hbd hbw
        go_wp2_with fail
        go_ret
        exact ⟨_, rfl, HE.out, HBE.out⟩
end Go.Proofs.Ytcoaneipajadiaa
