/-
  All parts of a term, by the reference of layer 3: All, for any term in memory that has not too many; the row lies in new memory, the parts' arguments where they lay.
-/
import Derived.Test.YtmpaljmkfnpcpaaDoorAllPu
import Derived.Test.YtmpaljmkfnpcpaaDoorCountPu
namespace Go.Proofs.YtmpaljmkfnpcpaaDoor
open Go.RowKit

set_option maxRecDepth 100000 in
set_option maxHeartbeats 2000000 in
theorem all_tm (m : Nat) : ∀ (x : Tv) (w0 w : World), x.t.parts ≤ m → m ≤ 2300000000000 → x.ok w0 → Below w0.heap.size w0 w →
    Calls Tryd.prog 32 #[x.val] w fun e w' => ∃ v, e = .returned v ∧ OwnTv w0 w' w.heap.size v x.t.all ∧ v.ownBlock ≠ none ∧ Below w.heap.size w w' := by
  induction m with
  | zero => intro x w0 w h; have := parts_pos x.t; omega
  | succ m ih =>
    intro x w0 w hm hm1 hx hb0
    obtain ⟨i0, hi, hz0, hz1, hz2⟩ := info_parts termInfo
    have hxw := hx.below hb0
    have hX := hx
    obtain ⟨⟨k, s, n, xs⟩, a, c⟩ := x
    obtain ⟨_, hxl, hxr⟩ := hx
    have hpe : (Tm.mk k s n xs).parts = partsL xs + 1 := parts_eq _
    simp only [Tv.val, Tm.kind, Tm.name, Tm.n, Tm.args] at hxl hxr hm ⊢
    have hpl : ∀ j (h : j < xs.length), xs[j].parts ≤ m := fun j h => by
      have := parts_arg (.mk k s n xs) (j := j) h
      have e : (Tm.mk k s n xs).args[j] = xs[j] := rfl
      rw [e] at this; omega
    have HX := Lib.hid hX
    have hwz : Below w.heap.size w ((w.alloc (.cells #[.int .i64 k, .string s, .int .i64 n, .slice a xs.length c] 26)).alloc (.cells #[.int .i64 k, .string s, .int .i64 n, .slice a xs.length c] 26)) := ((Below.refl _ _).alloc (Nat.le_refl _) _).alloc (by simp) _
    have hown0 : ((w.alloc (.cells #[.int .i64 k, .string s, .int .i64 n, .slice a xs.length c] 26)).alloc (.cells #[.int .i64 k, .string s, .int .i64 n, .slice a xs.length c] 26)).ownsRow w.heap.size 26 4 (.slice (some ⟨w.heap.size + 1, 0, none⟩) 1 1) 1 (rowTv [⟨.mk k s n xs, a, c⟩]) := by
      have := own_first (w.alloc (.cells #[.int .i64 k, .string s, .int .i64 n, .slice a xs.length c] 26)) w.heap.size (by simp) ⟨.mk k s n xs, a, c⟩
      rw [show (w.alloc (.cells #[.int .i64 k, .string s, .int .i64 n, .slice a xs.length c] 26)).heap.size = w.heap.size + 1 from by simp] at this
      exact this
    have hpr := partsL_length xs
    have HE := Lib.hid hpe
    have hps : partsL xs + 1 ≤ 2300000000000 := by omega
    have IH := Lib.hid (fun x w0 w h1 h2 h3 => ih x w0 w h1 (by omega) h2 h3)
    have HP := Lib.hid hpl
    have HO := Lib.hid hown0
    clear ih hpl hm hpe hX hown0 hxw
    rcases hxr with rfl | ⟨b, off, rfl, hlt, hr⟩
    · go_enter Tryd.func32, Tryd.ntmps32
      go_wp2
      refine wp_loop_rounds 1 ?_; rw [rounds_succ]
      go_wp2
      go_ret
      exact ⟨_, rfl, ⟨[⟨.mk k s n [], a, c⟩], by rw [Tm.all, allL]; rfl, by intro x hx; rw [List.mem_singleton.1 hx]; exact HX.out, by rw [Tm.all, allL]; exact HO.out⟩, by simp [Value.ownBlock], hwz⟩
    · have HR := Lib.hid hr
      have HB0 := Lib.hid hb0
      have hlt0 : b < w.heap.size := Nat.lt_of_lt_of_le hlt hb0.size
      clear hr hb0
      go_enter Tryd.func32, Tryd.ntmps32
      go_wp2
      go_loopw [3, 11] (fun o i wr => ∃ (j : Nat) (vs : List Tv), j ≤ xs.length ∧ i = .int .i64 j ∧ vs.length = partsL (xs.take j) + 1 ∧ vs.map Tv.t = Tm.mk k s n xs :: allL (xs.take j) ∧ (∀ x ∈ vs, x.ok w0) ∧
        wr.ownsRow w.heap.size 26 4 o vs.length (rowTv vs) ∧ o.ownBlock ≠ none ∧ Below w.heap.size w wr) (fun _ i _ => xs.length - (intOf i).toNat)
      case atStart => exact ⟨0, [⟨.mk k s n xs, some ⟨b, off, none⟩, c⟩], Nat.zero_le _, rfl, by rw [List.take_zero, partsL_nil]; rfl, by rw [List.take_zero, allL]; rfl, by intro x hx; rw [List.mem_singleton.1 hx]; exact HX.out, HO.out, by simp [Value.ownBlock], hwz⟩
      case round =>
        obtain ⟨j, vs, hj, rfl, hvl, hvt, hvo, hown, hnn, hb⟩ := hrel
        have hbs := hb.size
        by_cases hjl : j < xs.length
        · have hil : (j : Int) < (xs.length : Int) := by omega
          obtain ⟨u, hu, huk, hat⟩ := tmAt_tv (rowAt_get HR.out hjl)
          obtain ⟨d0, d1, d2, d3⟩ := (hat.below HB0.out).below hb
          have hup : u.t.parts ≤ partsL xs := by rw [hu]; exact parts_get xs hjl
          have hnx := partsL_take xs hjl
          rw [← hu] at hnx
          have hall : partsL (xs.take (j + 1)) ≤ partsL xs := by
            have e := partsL_append (xs.take (j + 1)) (xs.drop (j + 1))
            rw [List.take_append_drop] at e; omega
          have hat2 := allL_take hjl
          rw [← hu] at hat2
          have C := Lib.hid (fun w' (h : Below wr.heap.size wr w') => IH.out u w0 w' (by rw [hu]; exact HP.out j hjl) huk (HB0.out.trans ((hb.mono (by exact HB0.out.size)).trans (h.mono (by have := HB0.out.size; omega)))))
          have HVT := Lib.hid hvt
          have HVO := Lib.hid hvo
          have HA := Lib.hid hat2
          have HN := Lib.hid hnx
          have HL := Lib.hid hvl
          have hvb : vs.length + u.t.parts ≤ 2300000000000 := by omega
          have hvb2 : vs.length ≤ 2300000000000 := by omega
          clear hvt hvo hat2 hnx hvl hat hu huk hall hup
          go_wp2_with fail
          refine (C.out _ ((Below.refl _ _).alloc (Nat.le_refl _) _)).mono ?_; rintro e w1 ⟨v1, rfl, ⟨us, hut, huo, hown1⟩, hnn1, hb1⟩
          have hbw1 : Below wr.heap.size wr w1 := ((Below.refl _ _).alloc (Nat.le_refl _) _).trans (hb1.mono (by simp))
          have hown2 := own_below (hown.alloc _) hb1
          have hge1 := own_row_ge hown1
          have hlt1 := own_row_lt hown1
          have hown1' := hown1
          rw [all_length] at hown1
          obtain ⟨hrl, hv1 | ⟨g, cap, cur, rfl, hg1, hgc, hgn, hgm, hgs, hgt⟩⟩ := hown1
          · rw [hv1.1] at hnn1; exact absurd rfl hnn1
          have hnews : ∀ q x, (rowTv us)[q]? = some x → w1.cell? ((⟨g, 0, none⟩ : Addr).add q) = some x := by
            intro q x hq
            have hql : q < (rowTv us).length := (List.getElem?_eq_some_iff.1 hq).1
            have e : ((⟨g, 0, none⟩ : Addr).add q) = ⟨g, q, none⟩ := by
              unfold Addr.add; split
              · next h => subst h; rfl
              · simp
            rw [e, cell_of_row w1 g q cur _ (0, 0) hgc, ← hq, ← hgt, List.getElem?_take, if_pos (by omega)]
            simp
          have hn1 := rowTv_one' us
          have hbs1 := hbw1.size
          have HNW := Lib.hid hnews
          have HN1 := Lib.hid hn1
          have hpp : ∃ p, p = u.t.parts := ⟨_, rfl⟩
          obtain ⟨p, hp⟩ := hpp
          rw [← hp] at hvb hgn hgt hrl ⊢
          have HPP := Lib.hid hp
          have HUT := Lib.hid hut
          have HUO := Lib.hid huo
          have HRL := Lib.hid hrl
          clear hnews hn1 hgt hgs hgc hp hut huo hrl hown hown1' hge1 hlt1
          go_wp2_with (at_builtin; refine wpList_append_own _ rfl _ _ 24 rfl w.heap.size 26 i0 (.agg #[.int .i64 0, .string ⟨#[]⟩, .int .i64 0, .slice none 0 0]) 4 56 Tryd.underlying24 hi hz0 hz1 hz2 rfl (by decide) _ vs.length _ rfl hown2 ⟨g, 0, none⟩ p cap (rowTv us) rfl HRL.out HNW.out HN1.out ?c3 ?c4 ?c5 ?_)
          case c3 => unfold maxLen; omega
          case c4 => omega
          case c5 => omega
          intro v' w2 hown3 hgrow hnil
          have hb2 : Below w.heap.size w w2 := (hb.trans (hbw1.mono hbs)).grown hgrow (by omega) (own_row_ge hown2)
          have hnn2 : v'.ownBlock ≠ none := by
            obtain ⟨_, h⟩ := hown3
            rcases h with ⟨rfl, h0⟩ | ⟨g', cap', cur', rfl, _⟩
            · have := HL.out; omega
            · simp [Value.ownBlock]
          have hrel : (vs ++ us).length = partsL (xs.take (j + 1)) + 1 ∧ (vs ++ us).map Tv.t = Tm.mk k s n xs :: allL (xs.take (j + 1)) ∧ (∀ x ∈ vs ++ us, x.ok w0) ∧ w2.ownsRow w.heap.size 26 4 v' (vs ++ us).length (rowTv (vs ++ us)) := by
            have hul : us.length = p := by
              have := congrArg List.length HUT.out
              rw [List.length_map, all_length] at this
              rw [this, HPP.out]
            refine ⟨?_, ?_, ?_, ?_⟩
            · rw [List.length_append, hul, HN.out, HL.out, ← HPP.out]; omega
            · rw [List.map_append, HVT.out, HUT.out, HA.out]; rfl
            · intro x hx
              rcases List.mem_append.1 hx with h | h
              · exact HVO.out x h
              · exact HUO.out x h
            · rw [rowTv_append, List.length_append, hul]; exact hown3
          have HREL := Lib.hid hrel
          clear hown3 hgrow hnil hown2 hrel hb1 hbw1 hb
          go_wp2_with fail
          go_roundw
          case rel => exact ⟨j + 1, vs ++ us, by omega, by go_num, HREL.out.1, HREL.out.2.1, HREL.out.2.2.1, HREL.out.2.2.2, hnn2, hb2⟩
          case measure => simp [intOf]; omega
        · obtain rfl : j = xs.length := by omega
          rw [List.take_length] at hvl hvt
          have hown' : wr.ownsRow w.heap.size 26 4 u3 (Tm.mk k s n xs).all.length (rowTv vs) := by
            rw [all_length, HE.out, ← hvl]; exact hown
          have hvt' : vs.map Tv.t = (Tm.mk k s n xs).all := by rw [hvt, Tm.all]
          have HVT := Lib.hid hvt'
          have HVO := Lib.hid hvo
          clear hvl hvt hvt' hvo hown
          go_wp2
          go_ret
          exact ⟨_, rfl, ⟨vs, HVT.out, HVO.out, hown'⟩, hnn, hb⟩
end Go.Proofs.YtmpaljmkfnpcpaaDoor
