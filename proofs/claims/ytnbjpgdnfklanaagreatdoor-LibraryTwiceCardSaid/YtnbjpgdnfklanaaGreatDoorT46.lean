/-
  All places of a term, by the reference of layer 4: All.
  The places of a term's functions, by the reference of layer 4: Inner.
  Rows of places in memory, as they are read. No function of the program.
-/
import Derived.Test.YtnbjpgdnfklanaaGreatDoorT07
import Derived.Maps.AppendAt
namespace Go.Proofs.YtnbjpgdnfklanaaGreatDoor
open Go.RowKit
theorem intInfo : (Tryz.prog.info? 3).map (fun i => (i.zero, i.size, i.bytes)) = some (some (.int .i64 0), 1, 8) := by kernel_rfl
theorem intsInfo : (Tryz.prog.info? 53).map (fun i => (i.zero, i.size, i.bytes)) = some (some (.slice none 0 0), 1, 24) := by kernel_rfl
theorem addr_row' (b o q : Nat) : ((⟨b, o, none⟩ : Addr).add q) = ⟨b, o + q, none⟩ := by
  first | rfl | simp [Addr.add]
theorem heap_new (w : World) (o : Obj) : (w.alloc o).heap[w.heap.size]? = some o := by show (w.heap.push o)[w.heap.size]? = _; simp
theorem plc_first (w : World) (b : Nat) (hb : b ≤ w.heap.size) : OwnPl ((w.alloc (.cells #[] 3)).alloc (.cells #[.slice (some ⟨w.heap.size, 0, none⟩) 0 0] 53)) b (.slice (some ⟨w.heap.size + 1, 0, none⟩) 1 1) [[]] := by
  have hz : (w.alloc (.cells #[] 3)).heap.size = w.heap.size + 1 := by simp
  have h1 : (w.alloc (.cells #[] 3)).ownsRow 0 3 1 (.slice (some ⟨w.heap.size, 0, none⟩) 0 0) 0 [] :=
    ⟨rfl, .inr ⟨w.heap.size, 0, #[], rfl, Nat.zero_le _, heap_new w _, Nat.le_refl _, by decide, rfl, rfl⟩⟩
  refine ⟨[.slice (some ⟨w.heap.size, 0, none⟩) 0 0], rfl, fun j x p hx hp => ?_, rfl, .inr ⟨w.heap.size + 1, 1, _, rfl, by omega, by have := heap_new (w.alloc (.cells #[] 3)) (.cells #[.slice (some ⟨w.heap.size, 0, none⟩) 0 0] 53); rwa [hz] at this, Nat.le_refl _, by decide, rfl, rfl⟩⟩
  have hj : j = 0 := by
    have := (List.getElem?_eq_some_iff.1 hx).1
    simp at this; omega
  subst hj
  simp at hx hp
  subst hx; subst hp
  exact ⟨h1.alloc _, (fun n hn => nomatch hn), by simp [Value.ownBlock]⟩
set_option maxRecDepth 100000 in
set_option maxHeartbeats 4000000 in
theorem rplaces_tm (m : Nat) : ∀ (x : Tv) (w0 w : World), x.t.parts ≤ m → m ≤ 100000 → x.ok w0 → Below w0.heap.size w0 w →
    Calls Tryz.prog 67 #[x.val] w fun e w' => ∃ v, e = .returned v ∧ OwnPl w' w.heap.size v (placesT x.t) ∧ v.ownBlock ≠ none ∧ Below w.heap.size w w' := by
  induction m with
  | zero => intro x w0 w h; have := parts_pos x.t; omega
  | succ m ih =>
    intro x w0 w hm hm1 hx hb0
    obtain ⟨⟨k, s, n, xs⟩, a, c⟩ := x
    obtain ⟨_, hxl, hxr⟩ := hx
    simp only [Tv.val, Tm.kind, Tm.name, Tm.n, Tm.args] at hxl hxr ⊢
    have hpl : ∀ j (h : j < xs.length), xs[j].parts ≤ m := fun j h => by
      have := parts_arg (.mk k s n xs) (j := j) h
      have e : (Tm.mk k s n xs).args[j] = xs[j] := rfl
      rw [e] at this; simp only at hm; omega
    have hpp : partsL xs + 1 ≤ 100001 := by have : (Tm.mk k s n xs).parts = partsL xs + 1 := by rw [Tm.parts]
                                            simp only at hm; omega
    have hz1 : (w.alloc (.cells #[.int .i64 k, .string s, .int .i64 n, .slice a xs.length c] 50)).heap.size = w.heap.size + 1 := by simp
    have hO := plc_first (w.alloc (.cells #[.int .i64 k, .string s, .int .i64 n, .slice a xs.length c] 50)) w.heap.size (by omega)
    rw [hz1] at hO
    have hwz : Below w.heap.size w (((w.alloc (.cells #[.int .i64 k, .string s, .int .i64 n, .slice a xs.length c] 50)).alloc (.cells #[] 3)).alloc (.cells #[.slice (some ⟨w.heap.size + 1, 0, none⟩) 0 0] 53)) := (((Below.refl _ _).alloc (Nat.le_refl _) _).alloc (by simp) _).alloc (by simp; omega) _
    have IH := Lib.hid ih
    have HP := Lib.hid hpl
    have hE := placesT_eq (.mk k s n xs)
    have HE := Lib.hid (show placesT (.mk k s n xs) = [] :: placesL 0 xs from hE)
    obtain ⟨i1, hi1, hiz1, his1, hib1⟩ := info_parts intInfo
    obtain ⟨i2, hi2, hiz2, his2, hib2⟩ := info_parts intsInfo
    clear ih hpl hE
    have HO := Lib.hid hO
    rcases hxr with rfl | ⟨b, off, rfl, hlt, hr⟩
    · clear hO
      go_enter Tryz.func67, Tryz.ntmps67
      go_wp2_with fail
      refine wp_loop_rounds 1 ?_; rw [rounds_succ]
      go_wp2_with fail
      go_ret
      exact ⟨_, rfl, by rw [HE.out, placesL]; exact HO.out, by simp [Value.ownBlock], hwz⟩
    · have HR := Lib.hid hr
      have HB0 := Lib.hid hb0
      have hlt0 : b < w.heap.size := Nat.lt_of_lt_of_le hlt hb0.size
      clear hr hb0 hO
      go_enter Tryz.func67, Tryz.ntmps67
      go_wp2_with fail
      go_loopw [3, 14] (fun o i wr => ∃ j : Nat, j ≤ xs.length ∧ i = .int .i64 j ∧ Hid (OwnPl wr w.heap.size o ([] :: placesL 0 (xs.take j))) ∧ o.ownBlock ≠ none ∧ Below w.heap.size w wr) (fun _ i _ => xs.length - (intOf i).toNat)
      case atStart => exact ⟨0, Nat.zero_le _, rfl, by rw [List.take_zero, placesL]; exact HO, by simp [Value.ownBlock], hwz⟩
      case round =>
        obtain ⟨j, hj, rfl, hown, hnn, hb⟩ := hrel
        have hbs := hb.size
        by_cases hjl : j < xs.length
        · have hil : (j : Int) < (xs.length : Int) := by omega
          obtain ⟨u, hu, huk, hat⟩ := tmAt_tv (rowAt_get HR.out hjl)
          obtain ⟨d0, d1, d2, d3⟩ := (hat.below HB0.out).below hb
          have hup : u.t.parts ≤ partsL xs := by rw [hu]; exact parts_get xs hjl
          have C := Lib.hid (fun w' (h : Below wr.heap.size wr w') => IH.out u w0 w' (by rw [hu]; exact HP.out j hjl) (by omega) huk (HB0.out.trans ((hb.mono (by exact HB0.out.size)).trans (h.mono (by have := HB0.out.size; omega)))))
          have HT := Lib.hid (show placesL 0 (xs.take (j + 1)) = placesL 0 (xs.take j) ++ (placesT u.t).map ((j : Int) :: ·) by rw [hu]; exact placesL_take hjl)
          have HU := Lib.hid hup
          have hul : (placesL 0 (xs.take j)).length + (placesT u.t).length ≤ 100000 := by
            have h1 := placesL_length 0 (xs.take (j + 1))
            rw [HT.out, List.length_append, List.length_map] at h1
            have e := partsL_append (xs.take (j + 1)) (xs.drop (j + 1))
            rw [List.take_append_drop] at e; omega
          have HUL := Lib.hid hul
          have hjm : j ≤ 100000 := by have := partsL_length xs; omega
          clear hu huk hat hup hul
          go_wp2_with fail
          refine (C.out _ ((Below.refl _ _).alloc (Nat.le_refl _) _)).mono ?_; rintro e w1 ⟨u1, rfl, hu1, hun, hb1⟩
          have hbw1 : Below wr.heap.size wr w1 := ((Below.refl _ _).alloc (Nat.le_refl _) _).trans (hb1.mono (by simp))
          have hown1 := Lib.hid (hown.out.below hbw1)
          have hne1 : ∃ g1 c1, u1 = .slice (some ⟨g1, 0, none⟩) (placesT u.t).length c1 ∧ wr.heap.size < g1 + 1 ∧ (placesT u.t).length ≤ c1 := by
            obtain ⟨_, _, _, hr⟩ := hu1
            rcases hr.2 with ⟨rfl, _⟩ | ⟨g, cap, cur, rfl, hbg, _, hk, _⟩
            · exact absurd rfl hun
            · exact ⟨g, cap, rfl, by simp at hbg; omega, hk⟩
          obtain ⟨g1, c1, rfl, hg1, hc1⟩ := hne1
          have hob : u3.ownBlock ≠ some g1 := fun e => by
            obtain ⟨_, _, _, hr⟩ := hown.out
            have := (hr.lt g1 e).2; omega
          have HU1 := Lib.hid hu1
          have hbb := hb.trans (hbw1.mono hbs)
          clear hu1 hb1 C hown
          go_wp2_with fail
          go_loopw [3, 22] (fun o' i' wr2 => ∃ q : Nat, q ≤ (placesT u.t).length ∧ i' = .int .i64 q ∧ Hid (OwnPl wr2 w.heap.size o' (([] :: placesL 0 (xs.take j)) ++ ((placesT u.t).take q).map ((j : Int) :: ·))) ∧ o'.ownBlock ≠ none ∧ o'.ownBlock ≠ some g1 ∧
            Hid (∃ B1, OwnPl wr2 B1 (.slice (some ⟨g1, 0, none⟩) (placesT u.t).length c1) (placesT u.t)) ∧ Below w.heap.size w wr2) (fun _ i _ => (placesT u.t).length - (intOf i).toNat)
          case atStart => exact ⟨0, Nat.zero_le _, rfl, by rw [List.take_zero, List.map_nil, List.append_nil]; exact hown1, hnn, hob, Lib.hid ⟨_, HU1.out⟩, hbb⟩
          case round =>
            obtain ⟨q, hq, rfl, hown2, hnn2, hob2, hU2, hb2⟩ := hrel
            by_cases hql : q < (placesT u.t).length
            · have hqi : (q : Int) < ((placesT u.t).length : Int) := by omega
              have hq8 : (placesT u.t).length ≤ 100000 := by have := HUL.out; omega
              have hq9 : (q : Int) ≤ 100000 := by omega
              obtain ⟨B1, vs, hvl, hvall, hvr⟩ := hU2.out
              have hqv : q < vs.length := by omega
              have hx := hvall q vs[q] (placesT u.t)[q] (List.getElem?_eq_getElem hqv) (List.getElem?_eq_getElem hql)
              have hcx := hvr.cells rfl q vs[q] (List.getElem?_eq_getElem hqv)
              rw [addr_row', Nat.zero_add] at hcx
              have hpl2 : (placesT u.t)[q].length ≤ 100000 := by
                have h1 := placesT_len u.t _ (List.getElem_mem hql)
                have h2 := HU.out; omega
              have hT2 : (placesT u.t).take (q + 1) = (placesT u.t).take q ++ [(placesT u.t)[q]] := List.take_succ_eq_append_getElem hql
              obtain ⟨x, hxe⟩ : ∃ x, vs[q] = x := ⟨_, rfl⟩
              obtain ⟨p, hpe⟩ : ∃ p, (placesT u.t)[q] = p := ⟨_, rfl⟩
              rw [hxe] at hx hcx
              rw [hpe] at hx hpl2 hT2
              have HT2 := Lib.hid hT2
              have hxf : ∃ gx cx, x = .slice (some ⟨gx, 0, none⟩) p.length cx := by
                rcases hx.1.2 with ⟨h, _⟩ | ⟨g, cap, cur, h, _⟩
                · exact absurd (by rw [h]; rfl) hx.2.2
                · exact ⟨g, cap, h⟩
              obtain ⟨gx, cx, rfl⟩ := hxf
              have hBa : Below wr.heap.size wr (wr.alloc (.cells #[.int .i64 j] 3)) := (Below.refl _ _).alloc (Nat.le_refl _) _
              have hA : (wr.alloc (.cells #[.int .i64 j] 3)).ownsRow wr.heap.size 3 1 (.slice (some ⟨wr.heap.size, 0, none⟩) 1 1) 1 [.int .i64 j] := ⟨rfl, .inr ⟨wr.heap.size, 1, #[.int .i64 j], rfl, Nat.le_refl _, heap_new _ _, Nat.le_refl _, by decide, rfl, rfl⟩⟩
              have hpc := (hx.below hBa).1.cells rfl
              have hp1 : ∀ y ∈ p.map (Value.int .i64), y.oneCell' = true := by intro y hy; obtain ⟨z, _, rfl⟩ := List.mem_map.1 hy; rfl
              have hpb := hx.2.1
              have hlen : (([] :: placesL 0 (xs.take j)) ++ ((placesT u.t).take q).map ((j : Int) :: ·)).length ≤ 100001 := by
                have := HUL.out
                rw [List.length_append, List.length_map, List.length_take, List.length_cons]; omega
              obtain ⟨pss, hpss⟩ : ∃ pss, (([] :: placesL 0 (xs.take j)) ++ ((placesT u.t).take q).map ((j : Int) :: ·)) = pss := ⟨_, rfl⟩
              rw [hpss] at hlen hown2
              have HPS := Lib.hid hpss
              have HX := Lib.hid hpb
              have hU3 : OwnPl wr B1 (.slice (some ⟨g1, 0, none⟩) (placesT u.t).length c1) (placesT u.t) := ⟨vs, hvl, hvall, hvr⟩
              have HU3 := Lib.hid hU3
              clear hU3 hpss hT2 hx hpb hvr hvall hU2 hvl hqv hxe hpe
              go_wp2_with (first
                | (at_builtin; refine wpList_append_own_at _ rfl _ _ 53 rfl wr.heap.size 3 i1 (.int .i64 0) 1 8 Tryz.underlying53 hi1 hiz1 his1 hib1 rfl (by decide) _ 1 _ rfl hA ⟨gx, 0, none⟩ p.length cx (p.map (Value.int .i64)) rfl (by simp) hpc hp1 (by unfold maxLen; omega) (by omega) (by simp) ?_; intro v3 w3 hown3 hg3 _ hat3; obtain ⟨g3, c3, rfl, hg3l⟩ := own_form hown3 (by omega); have hb3 : Below wr.heap.size wr w3 := (hBa.grown hg3 (by simp) (fun y e => by cases e; exact Nat.le_refl _)); have ho3 := hown2.out.below hb3; have hu3 := HU3.out.below hb3; obtain ⟨vs4, hvl4, hva4, hvr4⟩ := ho3.below ((Below.refl _ _).alloc (Nat.le_refl _) (.cells #[.slice (some ⟨g3, 0, none⟩) (1 + p.length) c3] 53)))
                | (at_builtin; refine wpList_append_own_at _ rfl _ _ 86 rfl w.heap.size 53 i2 (.slice none 0 0) 1 24 Tryz.underlying86 hi2 hiz2 his2 hib2 rfl (by decide) _ pss.length _ rfl hvr4 ⟨w3.heap.size, 0, none⟩ 1 1 [.slice (some ⟨g3, 0, none⟩) (1 + p.length) c3] rfl rfl (cell_one_new _ _ _) (by simp [Value.oneCell']) (by unfold maxLen; omega) (by omega) (by have h1 := hb3.size; have h2 := hb2.size; simp; omega) ?_; intro v4 w4 hown4 hg4 _ hat4))
              go_roundw
              case rel =>
                have hz4 : (w3.alloc (.cells #[.slice (some ⟨g3, 0, none⟩) (1 + p.length) c3] 53)).heap.size = w3.heap.size + 1 := by simp
                have hb3s := hb3.size
                have hx3 : OwnInts w3 (.slice (some ⟨g3, 0, none⟩) (1 + p.length) c3) ((j : Int) :: p) := by
                  refine ⟨⟨by simp, ?_⟩, fun z hz => ?_, by simp [Value.ownBlock]⟩
                  · rcases hown3.2 with ⟨h, _⟩ | ⟨g, cap, cur, h, _, hr⟩
                    · cases h
                    · rw [Nat.add_comm] at h
                      exact .inr ⟨g, cap, cur, by rw [Nat.add_comm]; exact h, Nat.zero_le _, by simpa [Nat.add_comm] using hr⟩
                  · rcases List.mem_cons.1 hz with rfl | hz
                    · omega
                    · exact HX.out z hz
                have hBt : Below w3.heap.size w3 (w3.alloc (.cells #[.slice (some ⟨g3, 0, none⟩) (1 + p.length) c3] 53)) := (Below.refl _ _).alloc (Nat.le_refl _) _
                have hnew := ownPl_snoc hvl4 hva4 hvr4 (hx3.below hBt) hg4 hown4
                obtain ⟨g4, c4, rfl, hg4l⟩ := own_form hown4 (by omega)
                have hlt1 : g1 < w3.heap.size := by
                  obtain ⟨_, _, _, hr⟩ := hu3
                  exact (hr.lt g1 rfl).2
                have hne4 : (Value.slice (some ⟨g4, 0, none⟩) (pss.length + 1) c4).ownBlock ≠ some g1 := by
                  rcases hat4 with h | h
                  · rw [h]; exact hob2
                  · rw [h, hz4]; intro e; injection e with e; omega
                have hb4 : Below w.heap.size w w4 := ((hb2.trans (hb3.mono hb2.size)).alloc (by have := hb2.size; omega) _).grown hg4 (by have := hb2.size; simp; omega) (fun y e => (hvr4.lt y e).1)
                refine ⟨q + 1, by omega, by go_num, Lib.hid ?_, by simp [Value.ownBlock], hne4, Lib.hid ⟨B1, (hu3.below hBt).kept hvr4 hg4 (fun e => hob2 e.symm)⟩, hb4⟩
                rw [HT2.out, List.map_append, ← List.append_assoc, HPS.out]; exact hnew
              case measure => simp [intOf]; omega
            · have hqe : q = (placesT u.t).length := by omega
              have hql1 : (placesT u.t).length ≤ q := by omega
              have hqd : decide ((q : Int) < ((placesT u.t).length : Int)) = false := decide_eq_false (by omega)
              have HQ := Lib.hid hqe
              clear hqe
              go_wp2_with fail
              go_roundw
              case rel =>
                refine ⟨j + 1, by omega, by go_num, Lib.hid ?_, hnn2, hb2⟩
                have h1 := hown2.out
                rw [HQ.out, List.take_length] at h1
                rw [HT.out]; exact h1
              case measure => simp [intOf]; omega
        · have hje : j = xs.length := by omega
          have hjd : decide ((j : Int) < (xs.length : Int)) = false := decide_eq_false (by omega)
          have hjl1 : xs.length ≤ j := by omega
          have HJ := Lib.hid hje
          clear hje
          go_wp2_with fail
          go_ret
          have h1 := hown.out
          rw [HJ.out, List.take_length] at h1
          exact ⟨_, rfl, by rw [HE.out]; exact h1, hnn, hb⟩
end Go.Proofs.YtnbjpgdnfklanaaGreatDoor

namespace Go.Proofs.YtnbjpgdnfklanaaGreatDoor
open Go.RowKit
theorem OwnPl.lower {w : World} {base base' : Nat} {v : Value} {pss : List (List Int)} (h : OwnPl w base v pss) (hb : base' ≤ base) : OwnPl w base' v pss := by
  obtain ⟨vs, hl, hall, hn, hr⟩ := h
  refine ⟨vs, hl, hall, hn, ?_⟩
  rcases hr with h | ⟨g, cap, cur, hv, hbg, hr⟩
  · exact .inl h
  · exact .inr ⟨g, cap, cur, hv, Nat.le_trans hb hbg, hr⟩
def innerB (t : Tm) (p : List Int) : Bool := ((atT t p).getD zeroT).kind == 5
theorem inner_take {t : Tm} {k : Nat} {p : List Int} (hp : (placesT t)[k]? = some p) : ((placesT t).take (k + 1)).filter (innerB t) = ((placesT t).take k).filter (innerB t) ++ (if innerB t p = true then [p] else []) := by
  obtain ⟨hk, rfl⟩ := List.getElem?_eq_some_iff.1 hp
  rw [List.take_succ_eq_append_getElem hk, List.filter_append]
  congr 1
  by_cases h : innerB t (placesT t)[k] = true
  · rw [if_pos h]; simp [h]
  · rw [if_neg h]; simp [h]
set_option maxRecDepth 100000 in
set_option maxHeartbeats 4000000 in
theorem rinner_tm (x : Tv) (w : World) (hx : x.ok w) (hp : x.t.parts ≤ 100000) :
    Calls Tryz.prog 35 #[x.val] w fun e w' => ∃ v, e = .returned v ∧ OwnPl w' w.heap.size v (innerT x.t) ∧ Below w.heap.size w w' := by
  have AL := Lib.hid (fun (w' : World) (h : Below w.heap.size w w') => rplaces_tm x.t.parts x w w' (Nat.le_refl _) hp hx h)
  have AT := Lib.hid (fun (ps : List Int) (v : Value) (w' : World) (hn : Nums w' v ps) (h : Below w.heap.size w w') => at_tm w' ps x v w' (hx.below h) hn (Below.refl _ _))
  clear hx
  obtain ⟨t, a, c⟩ := x
  obtain ⟨i2, hi2, hiz2, his2, hib2⟩ := info_parts intsInfo
  have hbx := box_new w (.int .i64 t.kind) (.string t.name) (.int .i64 t.n) (.slice a t.args.length c) 50
  have hw : Below w.heap.size w (w.alloc (.cells #[.int .i64 t.kind, .string t.name, .int .i64 t.n, .slice a t.args.length c] 50)) := (Below.refl _ _).alloc (Nat.le_refl _) _
  have hz2 : (w.alloc (.cells #[.int .i64 t.kind, .string t.name, .int .i64 t.n, .slice a t.args.length c] 50)).heap.size = w.heap.size + 1 := by simp
  simp only [Tv.val] at *
  go_enter Tryz.func35, Tryz.ntmps35
  go_wp2_with fail
  obtain ⟨wb, hwb⟩ : ∃ wb, wb = (w.alloc (.cells #[.int .i64 t.kind, .string t.name, .int .i64 t.n, .slice a t.args.length c] 50)) := ⟨_, rfl⟩
  rw [← hwb] at hw hbx hz2 ⊢
  clear hwb
  have HBX := Lib.hid (fun (V : World) (h : Below wb.heap.size wb V) => hbx.below h (by omega))
  clear hbx
  refine (AL.out _ hw).mono ?_; rintro e w1 ⟨u, rfl, hu, hun, hb1⟩
  have hne1 : ∃ g1 c1, u = .slice (some ⟨g1, 0, none⟩) (placesT t).length c1 ∧ g1 < w1.heap.size ∧ (placesT t).length ≤ c1 := by
    obtain ⟨_, _, _, hr⟩ := hu
    rcases hr.2 with ⟨rfl, _⟩ | ⟨g, cap, cur, rfl, _, hg, hk, _⟩
    · exact absurd rfl hun
    · exact ⟨g, cap, rfl, (Array.getElem?_eq_some_iff.1 hg).1, hk⟩
  obtain ⟨g1, c1, rfl, hg1, hc1⟩ := hne1
  have HU := Lib.hid hu
  have hpl := placesT_length t
  clear hu hun
  go_wp2_with fail
  go_loopw [3, 11] (fun o i wr => ∃ k : Nat, k ≤ (placesT t).length ∧ i = .int .i64 k ∧ Hid (OwnPl wr wb.heap.size o (((placesT t).take k).filter (innerB t))) ∧ o.ownBlock ≠ some g1 ∧
    Hid (∃ B1, OwnPl wr B1 (.slice (some ⟨g1, 0, none⟩) (placesT t).length c1) (placesT t)) ∧ g1 < wr.heap.size ∧ Below wb.heap.size wb wr) (fun _ i _ => (placesT t).length - (intOf i).toNat)
  case atStart => exact ⟨0, Nat.zero_le _, rfl, Lib.hid ⟨[], rfl, fun j x p h => by simp at h, World.ownsRow_nil _ _ _ _⟩, by simp [Value.ownBlock], Lib.hid ⟨_, HU.out⟩, hg1, hb1⟩
  case round =>
    obtain ⟨k, hk, rfl, hown, hob, hU, hgl, hbw⟩ := hrel
    have hww := below_next hw hbw
    by_cases hkl : k < (placesT t).length
    · obtain ⟨p, hpe⟩ : ∃ p, (placesT t)[k]? = some p := ⟨_, List.getElem?_eq_getElem hkl⟩
      obtain ⟨B1, vs, hvl, hvall, hvr⟩ := hU.out
      obtain ⟨v, hve⟩ : ∃ v, vs[k]? = some v := ⟨_, List.getElem?_eq_getElem (show k < vs.length by omega)⟩
      have hx := hvall k v p hve hpe
      have hcv := hvr.cells rfl k v hve
      rw [addr_row', Nat.zero_add] at hcv
      have hU1 : OwnPl wr B1 (.slice (some ⟨g1, 0, none⟩) (placesT t).length c1) (placesT t) := ⟨vs, hvl, hvall, hvr⟩
      have HU1 := Lib.hid hU1
      have HX := Lib.hid hx
      have A := Lib.hid (AT.out p v wr hx.nums hww)
      have HTK := Lib.hid (inner_take hpe)
      have hfl : (((placesT t).take k).filter (innerB t)).length ≤ 100000 := by
        have h1 := List.length_filter_le (innerB t) ((placesT t).take k)
        rw [List.length_take] at h1; omega
      obtain ⟨pss, hpss⟩ : ∃ pss, ((placesT t).take k).filter (innerB t) = pss := ⟨_, rfl⟩
      rw [hpss] at hfl hown HTK
      have hvf : ∃ gx cx, v = .slice (some ⟨gx, 0, none⟩) p.length cx := by
        rcases hx.1.2 with ⟨h, _⟩ | ⟨g, cap, cur, h, _⟩
        · exact absurd (by rw [h]; rfl) hx.2.2
        · exact ⟨g, cap, h⟩
      obtain ⟨gx, cx, rfl⟩ := hvf
      obtain ⟨p0, p1, p2, p3, _, _, _, _⟩ := HBX.out wr hbw
      have hkq : (k : Int) ≤ 100000 := by omega
      have hki : (k : Int) < ((placesT t).length : Int) := by omega
      clear hpe hvall hvr hvl hve hx hU hU1 hpss
      go_wp2_with fail
      refine A.out.mono ?_; rintro e w2 ⟨z, rfl, hzt, hzk, hb2⟩
      have hB2 : Below wr.heap.size wr (w2.alloc (.cells #[.int .i64 z.t.kind, .string z.t.name, .int .i64 z.t.n, .slice z.a z.t.args.length z.c] 50)) := hb2.alloc hb2.size _
      have hbz := box_new w2 (.int .i64 z.t.kind) (.string z.t.name) (.int .i64 z.t.n) (.slice z.a z.t.args.length z.c) 50
      have HZ := Lib.hid (show innerB t p = (z.t.kind == 5) by unfold innerB; rw [← hzt])
      obtain ⟨tz, az, cz⟩ := z
      simp only [Tv.val] at *
      clear hzt hzk p0 p1 p2 p3
      obtain ⟨m0, m1, m2, m3, _, _, _, _⟩ := hbz
      obtain ⟨wz, hwz⟩ : ∃ x, x = (w2.alloc (.cells #[.int .i64 tz.kind, .string tz.name, .int .i64 tz.n, .slice az tz.args.length cz] 50)) := ⟨_, rfl⟩
      have h2s : wz.heap.size = w2.heap.size + 1 := by rw [hwz]; simp
      have hN := cell_one_new wz (.slice (some ⟨gx, 0, none⟩) p.length cx) 53
      rw [h2s] at hN
      have HNN := Lib.hid hN
      clear hN
      have hBz : Below wr.heap.size wr wz := by rw [hwz]; exact hB2
      have ho := hown.out.below hBz
      have hu := HU1.out.below hBz
      have HXZ := Lib.hid (HX.out.below hBz)
      have hgz : g1 < wz.heap.size := Nat.lt_of_lt_of_le hgl hBz.size
      have hBt : Below wz.heap.size wz (wz.alloc (.cells #[.slice (some ⟨gx, 0, none⟩) p.length cx] 53)) := (Below.refl _ _).alloc (Nat.le_refl _) _
      obtain ⟨vs4, hvl4, hva4, hvr4⟩ := ho.below hBt
      have hbz2 := below_next hbw hBz
      have hwws := (below_next hw hbz2).size
      cases he : (tz.kind == 5) with
      | false =>
        have HF := Lib.hid (show ((placesT t).take (k + 1)).filter (innerB t) = pss by rw [HTK.out, if_neg (by rw [HZ.out, he]; simp), List.append_nil])
        subst hwz
        go_wp2_with fail
        go_roundw
        case rel => exact ⟨k + 1, by omega, by go_num, Lib.hid (by rw [HF.out]; exact ho), hob, Lib.hid ⟨B1, hu⟩, hgz, hbz2⟩
        case measure => simp [intOf]; omega
      | true =>
        have HF := Lib.hid (show ((placesT t).take (k + 1)).filter (innerB t) = pss ++ [p] by rw [HTK.out, if_pos (by rw [HZ.out, he])])
        have hz4 : (wz.alloc (.cells #[.slice (some ⟨gx, 0, none⟩) p.length cx] 53)).heap.size = wz.heap.size + 1 := by simp
        subst hwz
        go_wp2_with (at_builtin; refine wpList_append_own_at _ rfl _ _ 86 rfl wb.heap.size 53 i2 (.slice none 0 0) 1 24 Tryz.underlying86 hi2 hiz2 his2 hib2 rfl (by decide) _ pss.length _ rfl hvr4 ⟨w2.heap.size + 1, 0, none⟩ 1 1 [.slice (some ⟨gx, 0, none⟩) p.length cx] (by simp [Act.eval]) rfl HNN.out (by simp [Value.oneCell']) (by unfold maxLen; omega) (by omega) (by have := hbz2.size; rw [hz4]; omega) ?_; intro v4 w4 hown4 hg4 _ hat4)
        go_roundw
        case rel =>
          have hnew := ownPl_snoc hvl4 hva4 hvr4 (HXZ.out.below hBt) hg4 hown4
          have hne4 : v4.ownBlock ≠ some g1 := by
            rcases hat4 with h | h
            · rw [h]; exact hob
            · rw [h, hz4]; intro e; injection e with e; omega
          have hb4 := (hbz2.alloc hbz2.size (.cells #[.slice (some ⟨gx, 0, none⟩) p.length cx] 53)).grown hg4 (by have := hbz2.size; omega) (fun y e => (hvr4.lt y e).1)
          exact ⟨k + 1, by omega, by go_num, Lib.hid (by rw [HF.out]; exact hnew), hne4, Lib.hid ⟨B1, (hu.below hBt).kept hvr4 hg4 (fun e => hob e.symm)⟩, by have := hg4.size; omega, hb4⟩
        case measure => simp [intOf]; omega
    · have hke : k = (placesT t).length := by omega
      have hkd : decide ((k : Int) < ((placesT t).length : Int)) = false := decide_eq_false (by omega)
      have hkl1 : (placesT t).length ≤ k := by omega
      have HK := Lib.hid hke
      clear hke
      go_wp2_with fail
      go_ret
      have h1 := hown.out
      rw [HK.out, List.take_length] at h1
      exact ⟨_, rfl, h1.lower (by omega), hww⟩
end Go.Proofs.YtnbjpgdnfklanaaGreatDoor

namespace Go.Proofs.YtnbjpgdnfklanaaGreatDoor
open Go.RowKit
def Pls (w : World) (v : Value) (pss : List (List Int)) : Prop :=
  ∃ a c, v = .slice a pss.length c ∧ pss.length ≤ c ∧ c ≤ 9223372036854775807 ∧
    (pss = [] ∨ ∃ b off, a = some ⟨b, off, none⟩ ∧ b < w.heap.size ∧ ∀ (j : Nat) p, pss[j]? = some p → ∃ x, w.cell? ⟨b, off + j, none⟩ = some x ∧ Nums w x p)
theorem Pls.below {w w' : World} {v : Value} {pss : List (List Int)} (h : Pls w v pss) (hb : Below w.heap.size w w') : Pls w' v pss := by
  obtain ⟨a, c, hv, hl, hc, h⟩ := h
  refine ⟨a, c, hv, hl, hc, ?_⟩
  rcases h with h | ⟨b, off, ha, hlt, hc⟩
  · exact .inl h
  · exact .inr ⟨b, off, ha, Nat.lt_of_lt_of_le hlt hb.size, fun j p hj => by obtain ⟨x, h1, h2⟩ := hc j p hj; exact ⟨x, by rw [hb.cell (p := ⟨b, off + j, none⟩) hlt]; exact h1, h2.below hb⟩⟩
theorem OwnPl.pls {w : World} {base : Nat} {v : Value} {pss : List (List Int)} (h : OwnPl w base v pss) : Pls w v pss := by
  obtain ⟨vs, hl, hall, hn, h⟩ := h
  rcases h with ⟨rfl, h0⟩ | ⟨g, cap, cur, rfl, _, hg, hk, hm, hs, ht⟩
  · have : pss = [] := List.eq_nil_of_length_eq_zero h0
    subst this
    exact ⟨none, 0, rfl, Nat.le_refl _, by omega, .inl rfl⟩
  · refine ⟨_, cap, rfl, hk, by unfold maxLen at hm; omega, .inr ⟨g, 0, rfl, ?_, fun j p hj => ?_⟩⟩
    · rcases Nat.lt_or_ge g w.heap.size with h | h
      · exact h
      · rw [Array.getElem?_eq_none h] at hg; cases hg
    · have hjl : j < pss.length := (List.getElem?_eq_some_iff.1 hj).1
      obtain ⟨y, h1⟩ : ∃ y, vs[j]? = some y := ⟨_, List.getElem?_eq_getElem (show j < vs.length by omega)⟩
      refine ⟨y, ?_, (hall j _ p h1 hj).nums⟩
      rw [← ht, List.getElem?_take, if_pos (by omega)] at h1
      rw [Nat.zero_add, cell_of_row w g j cur _ (0, 0) hg]
      simpa using h1
theorem Nums.drewN {w : World} {v : Value} {p : List Int} (h : Nums w v p) (n : Nat) : Nums (w.drewN n) v p := h.below (below_drewN (Below.refl _ _) n)
end Go.Proofs.YtnbjpgdnfklanaaGreatDoor
