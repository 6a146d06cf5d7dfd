/-
  All places of a term, by the reference of layer 4: All.
  The order of terms, as data: cmpT. No function of the program.
  The order of terms is one: turned about it is turned, it goes on over a third, and only the same stand alike. No function of the program.
  New memory alone, and nothing drawn. No function of the program.
  Which of two terms is first, by the program's Compare, and whether they are alike, by its Same: for any two terms in memory. Nothing is drawn; new memory alone.
-/
import Derived.Test.YtehpkhcjejlbpaaS03
import Derived.Maps.AppendAt
import Derived.Test.YtehpkhcjejlbpaaS02
namespace Go.Proofs.Ytehpkhcjejlbpaa
open Go.RowKit

theorem intInfo : (Try.prog.info? 3).map (fun i => (i.zero, i.size, i.bytes)) = some (some (.int .i64 0), 1, 8) := by kernel_rfl
theorem intsInfo : (Try.prog.info? 42).map (fun i => (i.zero, i.size, i.bytes)) = some (some (.slice none 0 0), 1, 24) := by kernel_rfl
theorem addr_row' (b o q : Nat) : ((⟨b, o, none⟩ : Addr).add q) = ⟨b, o + q, none⟩ := by
  first | rfl | simp [Addr.add]
theorem heap_new (w : World) (o : Obj) : (w.alloc o).heap[w.heap.size]? = some o := by show (w.heap.push o)[w.heap.size]? = _; simp
theorem plc_first (w : World) (b : Nat) (hb : b ≤ w.heap.size) : OwnPl ((w.alloc (.cells #[] 3)).alloc (.cells #[.slice (some ⟨w.heap.size, 0, none⟩) 0 0] 42)) b (.slice (some ⟨w.heap.size + 1, 0, none⟩) 1 1) [[]] := by
  have hz : (w.alloc (.cells #[] 3)).heap.size = w.heap.size + 1 := by simp
  have h1 : (w.alloc (.cells #[] 3)).ownsRow 0 3 1 (.slice (some ⟨w.heap.size, 0, none⟩) 0 0) 0 [] :=
    ⟨rfl, .inr ⟨w.heap.size, 0, #[], rfl, Nat.zero_le _, heap_new w _, Nat.le_refl _, by decide, rfl, rfl⟩⟩
  refine ⟨[.slice (some ⟨w.heap.size, 0, none⟩) 0 0], rfl, fun j x p hx hp => ?_, rfl, .inr ⟨w.heap.size + 1, 1, _, rfl, by omega, by have := heap_new (w.alloc (.cells #[] 3)) (.cells #[.slice (some ⟨w.heap.size, 0, none⟩) 0 0] 42); rwa [hz] at this, Nat.le_refl _, by decide, rfl, rfl⟩⟩
  have hj : j = 0 := by
    have := (List.getElem?_eq_some_iff.1 hx).1
    simp at this; omega
  subst hj
  simp at hx hp
  subst hx; subst hp
  exact ⟨h1.alloc _, (fun n hn => nomatch hn), by simp [Value.ownBlock]⟩

set_option maxRecDepth 100000 in
set_option maxHeartbeats 4000000 in
theorem rplaces_tm (m : Nat) : ∀ (x : Tv) (w0 w : World), x.t.parts ≤ m → m ≤ 100000 → x.ok w0 → Below w0.heap.size w0 w →
    Calls Try.prog 51 #[x.val] w fun e w' => ∃ v, e = .returned v ∧ OwnPl w' w.heap.size v (placesT x.t) ∧ v.ownBlock ≠ none ∧ Below w.heap.size w w' := by
  induction m with
  | zero => intro x w0 w h; have := parts_pos x.t; omega
  | succ m ih =>
    intro x w0 w hm hm1 hx hb0
    obtain ⟨⟨k, s, n, xs⟩, a, c⟩ := x
    obtain ⟨_, hxl, hxr⟩ := hx
    simp only [Tv.val, Tm.kind, Tm.name, Tm.n, Tm.args] at hxl hxr ⊢
    have hpl : ∀ j (h : j < xs.length), xs[j].parts ≤ m := fun j h => by
      have := parts_arg (.mk k s n xs) (j := j) h
      have e : (Tm.mk k s n xs).args[j] = xs[j] := rfl
      rw [e] at this; simp only at hm; omega
    have hpp : partsL xs + 1 ≤ 100001 := by have : (Tm.mk k s n xs).parts = partsL xs + 1 := by rw [Tm.parts]
                                            simp only at hm; omega
    have hz1 : (w.alloc (.cells #[.int .i64 k, .string s, .int .i64 n, .slice a xs.length c] 40)).heap.size = w.heap.size + 1 := by simp
    have hO := plc_first (w.alloc (.cells #[.int .i64 k, .string s, .int .i64 n, .slice a xs.length c] 40)) w.heap.size (by omega)
    rw [hz1] at hO
    have hwz : Below w.heap.size w (((w.alloc (.cells #[.int .i64 k, .string s, .int .i64 n, .slice a xs.length c] 40)).alloc (.cells #[] 3)).alloc (.cells #[.slice (some ⟨w.heap.size + 1, 0, none⟩) 0 0] 42)) := (((Below.refl _ _).alloc (Nat.le_refl _) _).alloc (by simp) _).alloc (by simp; omega) _
    have IH := Lib.hid ih
    have HP := Lib.hid hpl
    have hE := placesT_eq (.mk k s n xs)
    have HE := Lib.hid (show placesT (.mk k s n xs) = [] :: placesL 0 xs from hE)
    obtain ⟨i1, hi1, hiz1, his1, hib1⟩ := info_parts intInfo
    obtain ⟨i2, hi2, hiz2, his2, hib2⟩ := info_parts intsInfo
    clear ih hpl hE
    have HO := Lib.hid hO
    rcases hxr with rfl | ⟨b, off, rfl, hlt, hr⟩
    · clear hO
      go_enter Try.func51, Try.ntmps51
      go_wp2_with fail
      refine wp_loop_rounds 1 ?_; rw [rounds_succ]
      go_wp2_with fail
      go_ret
      exact ⟨_, rfl, by rw [HE.out, placesL]; exact HO.out, by simp [Value.ownBlock], hwz⟩
    · have HR := Lib.hid hr
      have HB0 := Lib.hid hb0
      have hlt0 : b < w.heap.size := Nat.lt_of_lt_of_le hlt hb0.size
      clear hr hb0 hO
      go_enter Try.func51, Try.ntmps51
      go_wp2_with fail
      go_loopw [3, 14] (fun o i wr => ∃ j : Nat, j ≤ xs.length ∧ i = .int .i64 j ∧ Hid (OwnPl wr w.heap.size o ([] :: placesL 0 (xs.take j))) ∧ o.ownBlock ≠ none ∧ Below w.heap.size w wr) (fun _ i _ => xs.length - (intOf i).toNat)
      case atStart => exact ⟨0, Nat.zero_le _, rfl, by rw [List.take_zero, placesL]; exact HO, by simp [Value.ownBlock], hwz⟩
      case round =>
        obtain ⟨j, hj, rfl, hown, hnn, hb⟩ := hrel
        have hbs := hb.size
        by_cases hjl : j < xs.length
        · have hil : (j : Int) < (xs.length : Int) := by omega
          obtain ⟨u, hu, huk, hat⟩ := tmAt_tv (rowAt_get HR.out hjl)
          obtain ⟨d0, d1, d2, d3⟩ := (hat.below HB0.out).below hb
          have hup : u.t.parts ≤ partsL xs := by rw [hu]; exact parts_get xs hjl
          have C := Lib.hid (fun w' (h : Below wr.heap.size wr w') => IH.out u w0 w' (by rw [hu]; exact HP.out j hjl) (by omega) huk (HB0.out.trans ((hb.mono (by exact HB0.out.size)).trans (h.mono (by have := HB0.out.size; omega)))))
          have HT := Lib.hid (show placesL 0 (xs.take (j + 1)) = placesL 0 (xs.take j) ++ (placesT u.t).map ((j : Int) :: ·) by rw [hu]; exact placesL_take hjl)
          have HU := Lib.hid hup
          have hul : (placesL 0 (xs.take j)).length + (placesT u.t).length ≤ 100000 := by
            have h1 := placesL_length 0 (xs.take (j + 1))
            rw [HT.out, List.length_append, List.length_map] at h1
            have e := partsL_append (xs.take (j + 1)) (xs.drop (j + 1))
            rw [List.take_append_drop] at e; omega
          have HUL := Lib.hid hul
          have hjm : j ≤ 100000 := by have := partsL_length xs; omega
          clear hu huk hat hup hul
          go_wp2_with fail
          refine (C.out _ ((Below.refl _ _).alloc (Nat.le_refl _) _)).mono ?_; rintro e w1 ⟨u1, rfl, hu1, hun, hb1⟩
          have hbw1 : Below wr.heap.size wr w1 := ((Below.refl _ _).alloc (Nat.le_refl _) _).trans (hb1.mono (by simp))
          have hown1 := Lib.hid (hown.out.below hbw1)
          have hne1 : ∃ g1 c1, u1 = .slice (some ⟨g1, 0, none⟩) (placesT u.t).length c1 ∧ wr.heap.size < g1 + 1 ∧ (placesT u.t).length ≤ c1 := by
            obtain ⟨_, _, _, hr⟩ := hu1
            rcases hr.2 with ⟨rfl, _⟩ | ⟨g, cap, cur, rfl, hbg, _, hk, _⟩
            · exact absurd rfl hun
            · exact ⟨g, cap, rfl, by simp at hbg; omega, hk⟩
          obtain ⟨g1, c1, rfl, hg1, hc1⟩ := hne1
          have hob : u3.ownBlock ≠ some g1 := fun e => by
            obtain ⟨_, _, _, hr⟩ := hown.out
            have := (hr.lt g1 e).2; omega
          have HU1 := Lib.hid hu1
          have hbb := hb.trans (hbw1.mono hbs)
          clear hu1 hb1 C hown
          go_wp2_with fail
          go_loopw [3, 22] (fun o' i' wr2 => ∃ q : Nat, q ≤ (placesT u.t).length ∧ i' = .int .i64 q ∧ Hid (OwnPl wr2 w.heap.size o' (([] :: placesL 0 (xs.take j)) ++ ((placesT u.t).take q).map ((j : Int) :: ·))) ∧ o'.ownBlock ≠ none ∧ o'.ownBlock ≠ some g1 ∧
            Hid (∃ B1, OwnPl wr2 B1 (.slice (some ⟨g1, 0, none⟩) (placesT u.t).length c1) (placesT u.t)) ∧ Below w.heap.size w wr2) (fun _ i _ => (placesT u.t).length - (intOf i).toNat)
          case atStart => exact ⟨0, Nat.zero_le _, rfl, by rw [List.take_zero, List.map_nil, List.append_nil]; exact hown1, hnn, hob, Lib.hid ⟨_, HU1.out⟩, hbb⟩
          case round =>
            obtain ⟨q, hq, rfl, hown2, hnn2, hob2, hU2, hb2⟩ := hrel
            by_cases hql : q < (placesT u.t).length
            · have hqi : (q : Int) < ((placesT u.t).length : Int) := by omega
              have hq8 : (placesT u.t).length ≤ 100000 := by have := HUL.out; omega
              have hq9 : (q : Int) ≤ 100000 := by omega
              obtain ⟨B1, vs, hvl, hvall, hvr⟩ := hU2.out
              have hqv : q < vs.length := by omega
              have hx := hvall q vs[q] (placesT u.t)[q] (List.getElem?_eq_getElem hqv) (List.getElem?_eq_getElem hql)
              have hcx := hvr.cells rfl q vs[q] (List.getElem?_eq_getElem hqv)
              rw [addr_row', Nat.zero_add] at hcx
              have hpl2 : (placesT u.t)[q].length ≤ 100000 := by
                have h1 := placesT_len u.t _ (List.getElem_mem hql)
                have h2 := HU.out; omega
              have hT2 : (placesT u.t).take (q + 1) = (placesT u.t).take q ++ [(placesT u.t)[q]] := List.take_succ_eq_append_getElem hql
              obtain ⟨x, hxe⟩ : ∃ x, vs[q] = x := ⟨_, rfl⟩
              obtain ⟨p, hpe⟩ : ∃ p, (placesT u.t)[q] = p := ⟨_, rfl⟩
              rw [hxe] at hx hcx
              rw [hpe] at hx hpl2 hT2
              have HT2 := Lib.hid hT2
              have hxf : ∃ gx cx, x = .slice (some ⟨gx, 0, none⟩) p.length cx := by
                rcases hx.1.2 with ⟨h, _⟩ | ⟨g, cap, cur, h, _⟩
                · exact absurd (by rw [h]; rfl) hx.2.2
                · exact ⟨g, cap, h⟩
              obtain ⟨gx, cx, rfl⟩ := hxf
              have hBa : Below wr.heap.size wr (wr.alloc (.cells #[.int .i64 j] 3)) := (Below.refl _ _).alloc (Nat.le_refl _) _
              have hA : (wr.alloc (.cells #[.int .i64 j] 3)).ownsRow wr.heap.size 3 1 (.slice (some ⟨wr.heap.size, 0, none⟩) 1 1) 1 [.int .i64 j] := ⟨rfl, .inr ⟨wr.heap.size, 1, #[.int .i64 j], rfl, Nat.le_refl _, heap_new _ _, Nat.le_refl _, by decide, rfl, rfl⟩⟩
              have hpc := (hx.below hBa).1.cells rfl
              have hp1 : ∀ y ∈ p.map (Value.int .i64), y.oneCell' = true := by intro y hy; obtain ⟨z, _, rfl⟩ := List.mem_map.1 hy; rfl
              have hpb := hx.2.1
              have hlen : (([] :: placesL 0 (xs.take j)) ++ ((placesT u.t).take q).map ((j : Int) :: ·)).length ≤ 100001 := by
                have := HUL.out
                rw [List.length_append, List.length_map, List.length_take, List.length_cons]; omega
              obtain ⟨pss, hpss⟩ : ∃ pss, (([] :: placesL 0 (xs.take j)) ++ ((placesT u.t).take q).map ((j : Int) :: ·)) = pss := ⟨_, rfl⟩
              rw [hpss] at hlen hown2
              have HPS := Lib.hid hpss
              have HX := Lib.hid hpb
              have hU3 : OwnPl wr B1 (.slice (some ⟨g1, 0, none⟩) (placesT u.t).length c1) (placesT u.t) := ⟨vs, hvl, hvall, hvr⟩
              have HU3 := Lib.hid hU3
              clear hU3 hpss hT2 hx hpb hvr hvall hU2 hvl hqv hxe hpe
              go_wp2_with (first
                | (at_builtin; refine wpList_append_own_at _ rfl _ _ 42 rfl wr.heap.size 3 i1 (.int .i64 0) 1 8 Try.underlying42 hi1 hiz1 his1 hib1 rfl (by decide) _ 1 _ rfl hA ⟨gx, 0, none⟩ p.length cx (p.map (Value.int .i64)) rfl (by simp) hpc hp1 (by unfold maxLen; omega) (by omega) (by simp) ?_; intro v3 w3 hown3 hg3 _ hat3; obtain ⟨g3, c3, rfl, hg3l⟩ := own_form hown3 (by omega); have hb3 : Below wr.heap.size wr w3 := (hBa.grown hg3 (by simp) (fun y e => by cases e; exact Nat.le_refl _)); have ho3 := hown2.out.below hb3; have hu3 := HU3.out.below hb3; obtain ⟨vs4, hvl4, hva4, hvr4⟩ := ho3.below ((Below.refl _ _).alloc (Nat.le_refl _) (.cells #[.slice (some ⟨g3, 0, none⟩) (1 + p.length) c3] 42)))
                | (at_builtin; refine wpList_append_own_at _ rfl _ _ 63 rfl w.heap.size 42 i2 (.slice none 0 0) 1 24 Try.underlying63 hi2 hiz2 his2 hib2 rfl (by decide) _ pss.length _ rfl hvr4 ⟨w3.heap.size, 0, none⟩ 1 1 [.slice (some ⟨g3, 0, none⟩) (1 + p.length) c3] rfl rfl (cell_one_new _ _ _) (by simp [Value.oneCell']) (by unfold maxLen; omega) (by omega) (by have h1 := hb3.size; have h2 := hb2.size; simp; omega) ?_; intro v4 w4 hown4 hg4 _ hat4))
              go_roundw
              case rel =>
                have hz4 : (w3.alloc (.cells #[.slice (some ⟨g3, 0, none⟩) (1 + p.length) c3] 42)).heap.size = w3.heap.size + 1 := by simp
                have hb3s := hb3.size
                have hx3 : OwnInts w3 (.slice (some ⟨g3, 0, none⟩) (1 + p.length) c3) ((j : Int) :: p) := by
                  refine ⟨⟨by simp, ?_⟩, fun z hz => ?_, by simp [Value.ownBlock]⟩
                  · rcases hown3.2 with ⟨h, _⟩ | ⟨g, cap, cur, h, _, hr⟩
                    · cases h
                    · rw [Nat.add_comm] at h
                      exact .inr ⟨g, cap, cur, by rw [Nat.add_comm]; exact h, Nat.zero_le _, by simpa [Nat.add_comm] using hr⟩
                  · rcases List.mem_cons.1 hz with rfl | hz
                    · omega
                    · exact HX.out z hz
                have hBt : Below w3.heap.size w3 (w3.alloc (.cells #[.slice (some ⟨g3, 0, none⟩) (1 + p.length) c3] 42)) := (Below.refl _ _).alloc (Nat.le_refl _) _
                have hnew := ownPl_snoc hvl4 hva4 hvr4 (hx3.below hBt) hg4 hown4
                obtain ⟨g4, c4, rfl, hg4l⟩ := own_form hown4 (by omega)
                have hlt1 : g1 < w3.heap.size := by
                  obtain ⟨_, _, _, hr⟩ := hu3
                  exact (hr.lt g1 rfl).2
                have hne4 : (Value.slice (some ⟨g4, 0, none⟩) (pss.length + 1) c4).ownBlock ≠ some g1 := by
                  rcases hat4 with h | h
                  · rw [h]; exact hob2
                  · rw [h, hz4]; intro e; injection e with e; omega
                have hb4 : Below w.heap.size w w4 := ((hb2.trans (hb3.mono hb2.size)).alloc (by have := hb2.size; omega) _).grown hg4 (by have := hb2.size; simp; omega) (fun y e => (hvr4.lt y e).1)
                refine ⟨q + 1, by omega, by go_num, Lib.hid ?_, by simp [Value.ownBlock], hne4, Lib.hid ⟨B1, (hu3.below hBt).kept hvr4 hg4 (fun e => hob2 e.symm)⟩, hb4⟩
                rw [HT2.out, List.map_append, ← List.append_assoc, HPS.out]; exact hnew
              case measure => simp [intOf]; omega
            · have hqe : q = (placesT u.t).length := by omega
              have hql1 : (placesT u.t).length ≤ q := by omega
              have hqd : decide ((q : Int) < ((placesT u.t).length : Int)) = false := decide_eq_false (by omega)
              have HQ := Lib.hid hqe
              clear hqe
              go_wp2_with fail
              go_roundw
              case rel =>
                refine ⟨j + 1, by omega, by go_num, Lib.hid ?_, hnn2, hb2⟩
                have h1 := hown2.out
                rw [HQ.out, List.take_length] at h1
                rw [HT.out]; exact h1
              case measure => simp [intOf]; omega
        · have hje : j = xs.length := by omega
          have hjd : decide ((j : Int) < (xs.length : Int)) = false := decide_eq_false (by omega)
          have hjl1 : xs.length ≤ j := by omega
          have HJ := Lib.hid hje
          clear hje
          go_wp2_with fail
          go_ret
          have h1 := hown.out
          rw [HJ.out, List.take_length] at h1
          exact ⟨_, rfl, by rw [HE.out]; exact h1, hnn, hb⟩
end Go.Proofs.Ytehpkhcjejlbpaa

namespace Go.Proofs.Ytehpkhcjejlbpaa
open Go.RowKit

def cmpI (a b : Int) : Int := if a < b then -1 else if b < a then 1 else 0
def cmpS (s t : ByteArray) : Int := if Op.bytesLess s.toList t.toList = true then -1 else if (s.toList == t.toList) = true then 0 else 1
mutual
/-- Which of two terms is first: by kind, number, name, how many arguments, then these from the left. -/
def cmpT : Tm → Tm → Int
  | .mk k s n xs, .mk k' s' n' ys => if cmpI k k' ≠ 0 then cmpI k k' else if cmpI n n' ≠ 0 then cmpI n n' else if cmpS s s' ≠ 0 then cmpS s s' else if cmpI xs.length ys.length ≠ 0 then cmpI xs.length ys.length else cmpL xs ys
def cmpL : List Tm → List Tm → Int
  | [], _ => 0
  | _ :: _, [] => 0
  | x :: r, y :: q => if cmpT x y ≠ 0 then cmpT x y else cmpL r q
end
theorem cmpI_zero {a b : Int} : cmpI a b = 0 ↔ a = b := by unfold cmpI; split; omega; split <;> omega
theorem cmpI_bd (a b : Int) : -1 ≤ cmpI a b ∧ cmpI a b ≤ 1 := by unfold cmpI; split; omega; split <;> omega
theorem cmpS_bd (s t : ByteArray) : -1 ≤ cmpS s t ∧ cmpS s t ≤ 1 := by unfold cmpS; split; omega; split <;> omega
mutual
theorem cmpT_bd : ∀ t u : Tm, -1 ≤ cmpT t u ∧ cmpT t u ≤ 1
  | .mk k s n xs, .mk k' s' n' ys => by
    rw [cmpT]
    have h1 := cmpI_bd k k'
    have h2 := cmpI_bd n n'
    have h3 := cmpS_bd s s'
    have h4 := cmpI_bd xs.length ys.length
    have h5 := cmpL_bd xs ys
    repeat' split
    all_goals assumption
theorem cmpL_bd : ∀ xs ys : List Tm, -1 ≤ cmpL xs ys ∧ cmpL xs ys ≤ 1
  | [], _ => by rw [cmpL]; omega
  | _ :: _, [] => by rw [cmpL]; omega
  | x :: r, y :: q => by
    rw [cmpL]
    have h1 := cmpT_bd x y
    have h2 := cmpL_bd r q
    split <;> assumption
end
theorem cmpL_same : ∀ {xs ys : List Tm}, (∀ j (h1 : j < xs.length) (h2 : j < ys.length), cmpT xs[j] ys[j] = 0) → cmpL xs ys = 0
  | [], _, _ => by rw [cmpL]
  | _ :: _, [], _ => by rw [cmpL]
  | x :: r, y :: q, h => by
    have h0 := h 0 (by simp) (by simp)
    simp only [List.getElem_cons_zero] at h0
    rw [cmpL, if_neg (by rw [h0]; simp)]
    exact cmpL_same fun j h1 h2 => by
      have := h (j + 1) (by simpa using h1) (by simpa using h2)
      simpa using this
theorem cmpL_at : ∀ {xs ys : List Tm} {k : Nat} (h1 : k < xs.length) (h2 : k < ys.length), (∀ j (a : j < xs.length) (b : j < ys.length), j < k → cmpT xs[j] ys[j] = 0) → cmpT xs[k] ys[k] ≠ 0 → cmpL xs ys = cmpT xs[k] ys[k]
  | [], _, _, h1, _, _, _ => by simp at h1
  | _ :: _, [], _, _, h2, _, _ => by simp at h2
  | x :: r, y :: q, 0, _, _, _, hn => by
    simp only [List.getElem_cons_zero] at hn ⊢
    rw [cmpL, if_pos hn]
  | x :: r, y :: q, k + 1, h1, h2, h, hn => by
    have h0 := h 0 (by simp) (by simp) (by omega)
    simp only [List.getElem_cons_zero] at h0
    rw [cmpL, if_neg (by rw [h0]; simp)]
    simp only [List.getElem_cons_succ] at hn ⊢
    exact cmpL_at (by simpa using h1) (by simpa using h2) (fun j a b hj => by
      have := h (j + 1) (by simpa using a) (by simpa using b) (by omega)
      simpa using this) hn
/-- Up to k no pair parts. -/
def CmpTo (xs ys : List Tm) (k : Nat) : Prop := ∀ j (h1 : j < xs.length) (h2 : j < ys.length), j < k → cmpT xs[j] ys[j] = 0
theorem CmpTo.succ {xs ys : List Tm} {k : Nat} (h : CmpTo xs ys k) (h1 : k < xs.length) (h2 : k < ys.length) (hk : cmpT xs[k] ys[k] = 0) : CmpTo xs ys (k + 1) := by
  intro j a b hj
  by_cases e : j = k
  · subst e; exact hk
  · exact h j a b (by omega)

theorem texts_ways (s t : ByteArray) : (Op.bytesLess s.toList t.toList = true ∧ cmpS s t = -1) ∨ (Op.bytesLess s.toList t.toList = false ∧ (s.toList == t.toList) = true ∧ cmpS s t = 0) ∨ (Op.bytesLess s.toList t.toList = false ∧ (s.toList == t.toList) = false ∧ cmpS s t = 1) := by
  unfold cmpS
  cases h1 : Op.bytesLess s.toList t.toList with
  | true => left; exact ⟨rfl, by simp⟩
  | false =>
    right
    cases h2 : (s.toList == t.toList) with
    | true => left; exact ⟨rfl, rfl, by simp⟩
    | false => right; exact ⟨rfl, rfl, by simp⟩
end Go.Proofs.Ytehpkhcjejlbpaa

namespace Go.Proofs.Ytehpkhcjejlbpaa
open Go.RowKit

theorem bl_irr : ∀ x : List UInt8, Op.bytesLess x x = false
  | [] => rfl
  | a :: x => by simp [Op.bytesLess, bl_irr x]
theorem bl_tot : ∀ {x y : List UInt8}, Op.bytesLess x y = false → x ≠ y → Op.bytesLess y x = true
  | [], [], _, h => absurd rfl h
  | [], _ :: _, h, _ => by simp [Op.bytesLess] at h
  | _ :: _, [], _, _ => rfl
  | a :: x, b :: y, h, hn => by
    simp only [Op.bytesLess, Bool.or_eq_false_iff, decide_eq_false_iff_not, Bool.and_eq_false_iff, beq_eq_false_iff_ne] at h
    simp only [Op.bytesLess, Bool.or_eq_true, decide_eq_true_eq, Bool.and_eq_true, beq_iff_eq]
    obtain ⟨h1, h2⟩ := h
    by_cases e : a = b
    · subst e
      right
      refine ⟨rfl, bl_tot ?_ fun h => hn (by rw [h])⟩
      rcases h2 with h2 | h2
      · exact absurd rfl h2
      · exact h2
    · left
      rcases UInt8.lt_or_lt_of_ne e with h | h
      · exact absurd h h1
      · exact h
theorem bl_trans : ∀ {x y z : List UInt8}, Op.bytesLess x y = true → Op.bytesLess y z = true → Op.bytesLess x z = true
  | _, [], _, h, _ => by simp [Op.bytesLess] at h
  | _, _ :: _, [], _, h => by simp [Op.bytesLess] at h
  | [], _ :: _, _ :: _, _, _ => rfl
  | a :: x, b :: y, c :: z, h1, h2 => by
    simp only [Op.bytesLess, Bool.or_eq_true, decide_eq_true_eq, Bool.and_eq_true, beq_iff_eq] at h1 h2 ⊢
    rcases h1 with h1 | ⟨rfl, h1⟩
    · rcases h2 with h2 | ⟨rfl, _⟩
      · exact .inl (UInt8.lt_trans h1 h2)
      · exact .inl h1
    · rcases h2 with h2 | ⟨rfl, h2⟩
      · exact .inl h2
      · exact .inr ⟨rfl, bl_trans h1 h2⟩
theorem cmpS_zero {s t : ByteArray} : cmpS s t = 0 ↔ s.toList = t.toList := by
  unfold cmpS
  constructor
  · intro h
    split at h
    · cases h
    · split at h
      · next h1 => exact beq_iff_eq.1 h1
      · cases h
  · intro h
    rw [if_neg (by rw [h, bl_irr]; simp), if_pos (by rw [h]; simp)]
theorem cmpS_neg (s t : ByteArray) : cmpS t s = - cmpS s t := by
  by_cases e : s.toList = t.toList
  · rw [cmpS_zero.2 e, cmpS_zero.2 e.symm]; rfl
  · unfold cmpS
    rw [if_neg (c := (s.toList == t.toList) = true) (by simpa using e), if_neg (c := (t.toList == s.toList) = true) (by simpa using fun h => e h.symm)]
    cases h1 : Op.bytesLess s.toList t.toList with
    | true =>
      cases h2 : Op.bytesLess t.toList s.toList with
      | true => have := bl_trans h1 h2; rw [bl_irr] at this; cases this
      | false => rfl
    | false => rw [bl_tot h1 e]; rfl

/-- How three comparisons go together: of the first with the second, the second with the third, the first with the third. -/
def Tri (i j k : Int) : Prop := (i ≤ 0 → j ≤ 0 → k ≤ 0) ∧ (i < 0 → j ≤ 0 → k < 0) ∧ (i ≤ 0 → j < 0 → k < 0) ∧ (i = 0 → j = 0 → k = 0)
def lexI (i j : Int) : Int := if i ≠ 0 then i else j
theorem lexI_tri {i1 i2 i3 r1 r2 r3 : Int} (h : Tri i1 i2 i3) (hr : i1 = 0 → i2 = 0 → Tri r1 r2 r3) : Tri (lexI i1 r1) (lexI i2 r2) (lexI i3 r3) := by
  unfold Tri lexI at *
  obtain ⟨a1, a2, a3, a4⟩ := h
  by_cases e1 : i1 = 0
  · by_cases e2 : i2 = 0
    · have e3 := a4 e1 e2
      rw [e1, e2, e3]
      simpa using hr e1 e2
    · rw [if_neg (by simpa using e1), if_pos e2]
      refine ⟨fun b c => ?_, fun b c => ?_, fun b c => ?_, fun b c => absurd c e2⟩ <;> (have := a3 (by omega) (by omega); rw [if_pos (by omega)]; omega)
  · rw [if_pos e1]
    by_cases e2 : i2 = 0
    · rw [if_neg (by simpa using e2)]
      refine ⟨fun b c => ?_, fun b c => ?_, fun b c => ?_, fun b c => absurd b e1⟩ <;> (have := a2 (by omega) (by omega); rw [if_pos (by omega)]; omega)
    · rw [if_pos e2]
      refine ⟨fun b c => ?_, fun b c => ?_, fun b c => ?_, fun b c => absurd b e1⟩ <;> (have := a2 (by omega) (by omega); rw [if_pos (by omega)]; omega)
theorem cmpI_tri (a b c : Int) : Tri (cmpI a b) (cmpI b c) (cmpI a c) := by
  unfold Tri cmpI
  repeat' split
  all_goals omega
theorem cmpI_neg (a b : Int) : cmpI b a = - cmpI a b := by unfold cmpI; repeat' split
                                                           all_goals omega
theorem cmpS_tri (s t u : ByteArray) : Tri (cmpS s t) (cmpS t u) (cmpS s u) := by
  have key : ∀ s t : ByteArray, (cmpS s t < 0 ↔ Op.bytesLess s.toList t.toList = true) := by
    intro s t
    unfold cmpS
    constructor
    · intro h
      split at h
      · assumption
      · split at h <;> omega
    · intro h; rw [if_pos h]; decide
  have lt : ∀ {s t : ByteArray}, cmpS s t ≤ 0 → cmpS s t < 0 ∨ s.toList = t.toList := by
    intro s t h
    by_cases e : cmpS s t = 0
    · exact .inr (cmpS_zero.1 e)
    · exact .inl (by omega)
  have cr : ∀ {s t u : ByteArray}, s.toList = t.toList → cmpS s u = cmpS t u := fun h => by unfold cmpS; rw [h]
  have cl : ∀ {s t u : ByteArray}, t.toList = u.toList → cmpS s t = cmpS s u := fun h => by unfold cmpS; rw [h]
  have tr : cmpS s t < 0 → cmpS t u < 0 → cmpS s u < 0 := fun a b => (key _ _).2 (bl_trans ((key _ _).1 a) ((key _ _).1 b))
  refine ⟨fun a b => ?_, fun a b => ?_, fun a b => ?_, fun a b => ?_⟩
  · rcases lt a with a | a
    · rcases lt b with b | b
      · have := tr a b; omega
      · rw [← cl b]; omega
    · rw [cr a]; exact b
  · rcases lt b with b | b
    · exact tr a b
    · rw [← cl b]; exact a
  · rcases lt a with a | a
    · exact tr a b
    · rw [cr a]; exact b
  · rw [cr (cmpS_zero.1 a)]; exact b
theorem cmpT_lex (k k' : Int) (s s' : ByteArray) (n n' : Int) (xs ys : List Tm) :
    cmpT (.mk k s n xs) (.mk k' s' n' ys) = lexI (cmpI k k') (lexI (cmpI n n') (lexI (cmpS s s') (lexI (cmpI xs.length ys.length) (cmpL xs ys)))) := by
  rw [cmpT]; unfold lexI; rfl
theorem cmpL_lex (x y : Tm) (r q : List Tm) : cmpL (x :: r) (y :: q) = lexI (cmpT x y) (cmpL r q) := by rw [cmpL]; unfold lexI; rfl
mutual
theorem cmpT_tri : ∀ a b c : Tm, Tri (cmpT a b) (cmpT b c) (cmpT a c)
  | .mk k s n xs, .mk k' s' n' ys, .mk k'' s'' n'' zs => by
    rw [cmpT_lex, cmpT_lex, cmpT_lex]
    refine lexI_tri (cmpI_tri _ _ _) fun _ _ => lexI_tri (cmpI_tri _ _ _) fun _ _ => lexI_tri (cmpS_tri _ _ _) fun _ _ => lexI_tri (cmpI_tri _ _ _) fun h1 h2 => ?_
    exact cmpL_tri xs ys zs (by have := cmpI_zero.1 h1; omega) (by have := cmpI_zero.1 h2; omega)
theorem cmpL_tri : ∀ xs ys zs : List Tm, xs.length = ys.length → ys.length = zs.length → Tri (cmpL xs ys) (cmpL ys zs) (cmpL xs zs)
  | [], [], [], _, _ => by rw [cmpL]; exact ⟨fun _ _ => by omega, fun _ _ => by omega, fun _ _ => by omega, fun _ _ => rfl⟩
  | [], _ :: _, _, h, _ => by simp at h
  | _ :: _, [], _, h, _ => by simp at h
  | _, _ :: _, [], _, h => by simp at h
  | _, [], _ :: _, _, h => by simp at h
  | x :: r, y :: q, z :: p, h1, h2 => by
    rw [cmpL_lex, cmpL_lex, cmpL_lex]
    exact lexI_tri (cmpT_tri x y z) fun _ _ => cmpL_tri r q p (by simpa using h1) (by simpa using h2)
end
theorem lexI_neg {i j i' j' : Int} (h : i' = -i) (hr : i = 0 → j' = -j) : lexI i' j' = - lexI i j := by
  unfold lexI
  by_cases e : i = 0
  · rw [if_neg (by omega), if_neg (by simpa using e), hr e]
  · rw [if_pos (by omega), if_pos e, h]
mutual
theorem cmpT_neg : ∀ a b : Tm, cmpT b a = - cmpT a b
  | .mk k s n xs, .mk k' s' n' ys => by
    rw [cmpT_lex, cmpT_lex]
    refine lexI_neg (cmpI_neg _ _) fun _ => lexI_neg (cmpI_neg _ _) fun _ => lexI_neg (cmpS_neg _ _) fun _ => lexI_neg (cmpI_neg _ _) fun h => ?_
    exact cmpL_neg xs ys (by have := cmpI_zero.1 h; omega)
theorem cmpL_neg : ∀ xs ys : List Tm, xs.length = ys.length → cmpL ys xs = - cmpL xs ys
  | [], [], _ => by rw [cmpL]; rfl
  | [], _ :: _, h => by simp at h
  | _ :: _, [], h => by simp at h
  | x :: r, y :: q, h => by
    rw [cmpL_lex, cmpL_lex]
    exact lexI_neg (cmpT_neg x y) fun _ => cmpL_neg r q (by simpa using h)
end
theorem lexI_zero {i j : Int} : lexI i j = 0 ↔ i = 0 ∧ j = 0 := by
  unfold lexI
  by_cases e : i = 0
  · rw [if_neg (by simpa using e)]; exact ⟨fun h => ⟨e, h⟩, fun h => h.2⟩
  · rw [if_pos e]; exact ⟨fun h => absurd h e, fun h => h.1⟩
mutual
theorem cmpT_zero : ∀ a b : Tm, cmpT a b = 0 → a = b
  | .mk k s n xs, .mk k' s' n' ys => fun h => by
    rw [cmpT_lex, lexI_zero, lexI_zero, lexI_zero, lexI_zero] at h
    obtain ⟨h1, h2, h3, h4, h5⟩ := h
    have e1 := cmpI_zero.1 h1
    have e2 := cmpI_zero.1 h2
    have e3 : s = s' := by
      exact (Lib.bytes_beq_iff _ _).1 (beq_iff_eq.2 (cmpS_zero.1 h3))
    have e5 := cmpL_zero xs ys (by have := cmpI_zero.1 h4; omega) h5
    rw [e1, e2, e3, e5]
theorem cmpL_zero : ∀ xs ys : List Tm, xs.length = ys.length → cmpL xs ys = 0 → xs = ys
  | [], [], _, _ => rfl
  | [], _ :: _, h, _ => by simp at h
  | _ :: _, [], h, _ => by simp at h
  | x :: r, y :: q, h, h0 => by
    rw [cmpL_lex, lexI_zero] at h0
    rw [cmpT_zero x y h0.1, cmpL_zero r q (by simpa using h) h0.2]
end
theorem cmpT_self (a : Tm) : cmpT a a = 0 := by have := cmpT_neg a a; omega
theorem cmpT_iff {a b : Tm} : cmpT a b = 0 ↔ a = b := ⟨cmpT_zero a b, fun h => by rw [h]; exact cmpT_self b⟩
theorem cmpT_le {a b c : Tm} (h1 : cmpT a b ≤ 0) (h2 : cmpT b c ≤ 0) : cmpT a c ≤ 0 := (cmpT_tri a b c).1 h1 h2
end Go.Proofs.Ytehpkhcjejlbpaa

namespace Go.Proofs.Ytehpkhcjejlbpaa
open Go.RowKit

/-- New memory alone, and nothing drawn. -/
structure Onto (w w' : World) : Prop where
  below : Below w.heap.size w w'
  drawn : w'.drawn = w.drawn
theorem Onto.refl (w : World) : Onto w w := ⟨Below.refl _ _, rfl⟩
theorem Onto.alloc {w w' : World} (h : Onto w w') (o : Obj) : Onto w (w'.alloc o) := ⟨h.below.alloc h.below.size o, h.drawn⟩
theorem Onto.next {w w1 w2 : World} (h : Onto w w1) (k : Onto w1 w2) : Onto w w2 := ⟨below_next h.below k.below, k.drawn.trans h.drawn⟩
end Go.Proofs.Ytehpkhcjejlbpaa

namespace Go.Proofs.Ytehpkhcjejlbpaa
open Go.RowKit

set_option maxHeartbeats 400000 in
theorem nanI_any (a : Int) (w : World) : Calls Try.prog 66 #[.int .i64 a] w fun e w' => e = .returned (.bool false) ∧ w = w' := by
  have h : (a != a) = false := by simp
  go_enter Try.func66, Try.ntmps66
  go_wp2
  go_ret
  exact ⟨rfl, rfl⟩
set_option maxHeartbeats 400000 in
theorem nanS_any (s : ByteArray) (w : World) : Calls Try.prog 67 #[.string s] w fun e w' => e = .returned (.bool false) ∧ w = w' := by
  have h : (s.toList == s.toList) = true := by simp
  go_enter Try.func67, Try.ntmps67
  go_wp2
  go_ret
  exact ⟨rfl, rfl⟩
set_option maxHeartbeats 400000 in
theorem cmpI_any (a b : Int) (w : World) : Calls Try.prog 63 #[.int .i64 a, .int .i64 b] w fun e w' => e = .returned (.int .i64 (cmpI a b)) ∧ w = w' := by
  have N1 := Lib.hid (fun w => nanI_any a w)
  have N2 := Lib.hid (fun w => nanI_any b w)
  rcases (show a < b ∨ b < a ∨ a = b from by omega) with h | h | h
  · have hr := Lib.hid (show cmpI a b = -1 from by unfold cmpI; rw [if_pos h])
    go_enter Try.func63, Try.ntmps63
    go_wp2_with fail
    refine (N1.out _).mono ?_; rintro e w1 ⟨rfl, rfl⟩
    go_wp2_with fail
    refine (N2.out _).mono ?_; rintro e w1 ⟨rfl, rfl⟩
    go_wp2_with fail
    go_ret
    exact ⟨ret_int hr.out.symm, rfl⟩
  · have hr := Lib.hid (show cmpI a b = 1 from by unfold cmpI; rw [if_neg (by omega), if_pos h])
    have h' : ¬ a < b := by omega
    go_enter Try.func63, Try.ntmps63
    go_wp2_with fail
    refine (N1.out _).mono ?_; rintro e w1 ⟨rfl, rfl⟩
    go_wp2_with fail
    refine (N2.out _).mono ?_; rintro e w1 ⟨rfl, rfl⟩
    go_wp2_with fail
    go_ret
    exact ⟨ret_int hr.out.symm, rfl⟩
  · have hr := Lib.hid (show cmpI a b = 0 from by unfold cmpI; rw [if_neg (by omega), if_neg (by omega)])
    have h1 : ¬ a < b := by omega
    have h2 : ¬ b < a := by omega
    clear h
    go_enter Try.func63, Try.ntmps63
    go_wp2_with fail
    refine (N1.out _).mono ?_; rintro e w1 ⟨rfl, rfl⟩
    go_wp2_with fail
    refine (N2.out _).mono ?_; rintro e w1 ⟨rfl, rfl⟩
    go_wp2_with fail
    go_ret
    exact ⟨ret_int hr.out.symm, rfl⟩
set_option maxHeartbeats 400000 in
theorem cmpS_any (s t : ByteArray) (w : World) : Calls Try.prog 64 #[.string s, .string t] w fun e w' => e = .returned (.int .i64 (cmpS s t)) ∧ w = w' := by
  have N1 := Lib.hid (fun w => nanS_any s w)
  have N2 := Lib.hid (fun w => nanS_any t w)
  rcases texts_ways s t with ⟨h1, hr⟩ | ⟨h1, h2, hr⟩ | ⟨h1, h2, hr⟩
  all_goals
    have HR := Lib.hid hr
    clear hr
    go_enter Try.func64, Try.ntmps64
    go_wp2_with fail
    refine (N1.out _).mono ?_; rintro e w1 ⟨rfl, rfl⟩
    go_wp2_with fail
    refine (N2.out _).mono ?_; rintro e w1 ⟨rfl, rfl⟩
    go_wp2_with fail
    go_ret
    exact ⟨ret_int HR.out.symm, rfl⟩

/-- What Compare answers of two terms with fewer parts than m. -/
def CmpUpto (m : Nat) : Prop := ∀ (x y : Tv) (w : World), x.t.parts ≤ m → x.ok w → y.ok w →
    Calls Try.prog 62 #[x.val, y.val] w fun e w' => e = .returned (.int .i64 (cmpT x.t y.t)) ∧ Onto w w'

set_option maxRecDepth 100000 in
set_option maxHeartbeats 4000000 in
theorem cmpFunc_tm (m : Nat) (hC : CmpUpto m) (v u : Value) (xs ys : List Tm) (w : World) (hl : xs.length = ys.length) (hm : ∀ j (h : j < xs.length), xs[j].parts ≤ m) (hx : Tms w v xs) (hy : Tms w u ys) :
    Calls Try.prog 65 #[v, u, .func (.func 62) #[] #[]] w fun e w' => e = .returned (.int .i64 (cmpL xs ys)) ∧ Onto w w' := by
  obtain ⟨a, c, rfl, hxl, hxr⟩ := hx
  obtain ⟨a', c', rfl, hyl, hyr⟩ := hy
  have HC := Lib.hid hC
  have HL := Lib.hid hl
  have HM := Lib.hid hm
  have hq : ¬ (xs.length : Int) < (ys.length : Int) := by omega
  clear hC hl hm
  rcases hxr with rfl | ⟨b, off, rfl, hlt, hr⟩
  · have : ys = [] := by simpa using HL.out.symm
    subst this
    have h0 := Lib.hid (show cmpL [] [] = 0 from by rw [cmpL])
    go_enter Try.func65, Try.ntmps65
    go_wp2_with fail
    refine wp_loop_rounds 1 ?_; rw [rounds_succ]
    go_wp2_with fail
    go_ret
    exact ⟨ret_int h0.out.symm, Onto.refl _⟩
  rcases hyr with rfl | ⟨b', off', rfl, hlt', hr'⟩
  · have : xs = [] := by simpa using HL.out
    subst this
    have h0 := Lib.hid (show cmpL [] [] = 0 from by rw [cmpL])
    go_enter Try.func65, Try.ntmps65
    go_wp2_with fail
    refine wp_loop_rounds 1 ?_; rw [rounds_succ]
    go_wp2_with fail
    go_ret
    exact ⟨ret_int h0.out.symm, Onto.refl _⟩
  have HR := Lib.hid hr
  have HR' := Lib.hid hr'
  clear hr hr'
  go_enter Try.func65, Try.ntmps65
  go_wp2_with fail
  go_loopw [13] (fun i wr => ∃ j : Nat, j ≤ xs.length ∧ i = .int .i64 j ∧ CmpTo xs ys j ∧ Onto w wr) (fun i _ => xs.length - (intOf i).toNat)
  case atStart => exact ⟨0, Nat.zero_le _, rfl, (fun j _ _ hk => by omega), Onto.refl _⟩
  case round =>
    obtain ⟨j, hj, rfl, hal, hb⟩ := hrel
    have HA := Lib.hid hal
    clear hal
    by_cases hj1 : j < xs.length
    · have hj2 : j < ys.length := by have := HL.out; omega
      have hi1 : (j : Int) < (xs.length : Int) := by omega
      have hi2 : (j : Int) < (ys.length : Int) := by omega
      have hi3 : ¬ (ys.length : Int) ≤ (j : Int) := by omega
      obtain ⟨p, hu, huk, d0, d1, d2, d3⟩ := tmAt_tv ((rowAt_get HR.out hj1).below hb.below)
      obtain ⟨q, hv, hvk, hqa⟩ := tmAt_tv ((rowAt_get HR'.out hj2).below hb.below)
      obtain ⟨g0, g1, g2, g3⟩ := hqa.below ((Below.refl wr.heap.size wr).alloc (Nat.le_refl _) (.cells #[.int .i64 p.t.kind, .string p.t.name, .int .i64 p.t.n, .slice p.a p.t.args.length p.c] 40))
      have C := Lib.hid (fun w' (h : Below wr.heap.size wr w') => HC.out p q w' (by rw [hu]; exact HM.out j hj1) (huk.below h) (hvk.below h))
      have HU := Lib.hid hu
      have HV := Lib.hid hv
      have hbs := hb.below.size
      simp only [Tv.val] at C
      clear hu hv huk hvk hqa
      obtain ⟨r, hrr⟩ : ∃ r, r = cmpT p.t q.t := ⟨_, rfl⟩
      rw [← hrr] at C
      by_cases hr0 : r = 0
      · have HCC := Lib.hid (show cmpT xs[j] ys[j] = 0 from by rw [← HU.out, ← HV.out, ← hrr]; exact hr0)
        subst hr0
        clear hrr
        go_wp2_with fail
        refine (C.out _ (((Below.refl _ _).alloc (Nat.le_refl _) _).alloc (by simp) _)).mono ?_; rintro e w5 ⟨rfl, hb1⟩
        go_wp2_with fail
        go_roundw
        case rel => exact ⟨j + 1, by omega, by go_num, HA.out.succ hj1 hj2 HCC.out, ((hb.alloc _).alloc _).next hb1⟩
        case measure => simp [intOf]; omega
      · have HCC := Lib.hid (show cmpL xs ys = r from by rw [cmpL_at hj1 hj2 HA.out (by rw [← HU.out, ← HV.out, ← hrr]; exact hr0), hrr, HU.out, HV.out])
        have hq : (r != 0) = true := by rw [bne_iff_ne]; exact hr0
        clear hrr hr0
        go_wp2_with fail
        refine (C.out _ (((Below.refl _ _).alloc (Nat.le_refl _) _).alloc (by simp) _)).mono ?_; rintro e w5 ⟨rfl, hb1⟩
        go_wp2_with fail
        go_ret
        exact ⟨ret_int HCC.out.symm, ((hb.alloc _).alloc _).next hb1⟩
    · obtain rfl : j = xs.length := by omega
      have h0 := Lib.hid (show cmpL xs ys = 0 from cmpL_same fun j h1 h2 => HA.out j h1 h2 h1)
      go_wp2_with fail
      go_ret
      exact ⟨ret_int h0.out.symm, hb⟩

theorem cmpI_ne {a b : Int} (h : a ≠ b) : cmpI a b ≠ 0 := fun e => h (cmpI_zero.1 e)
theorem cmpS_ne {s t : ByteArray} (h : (s.toList == t.toList) = false) : cmpS s t ≠ 0 := fun e => by rw [cmpS_zero] at e; rw [e] at h; simp at h
theorem cmpS_eq {s t : ByteArray} (h : (s.toList == t.toList) = true) : cmpS s t = 0 := by rw [cmpS_zero]; simpa using h

set_option maxRecDepth 100000 in
set_option maxHeartbeats 4000000 in
theorem pcompare_tm (m : Nat) : CmpUpto m := by
  induction m with
  | zero => intro x y w h; have := parts_pos x.t; omega
  | succ m ih =>
    intro x y w hm hx hy
    obtain ⟨⟨k, s, n, xs⟩, a, c⟩ := x
    obtain ⟨⟨k', s', n', ys⟩, a', c'⟩ := y
    obtain ⟨_, hxa⟩ := hx
    obtain ⟨_, hya⟩ := hy
    simp only [Tv.val, Tm.kind, Tm.name, Tm.n, Tm.args] at hxa hya hm ⊢
    have hpl : ∀ j (h : j < xs.length), xs[j].parts ≤ m := fun j h => by
      have := parts_arg (.mk k s n xs) (j := j) h
      have e : (Tm.mk k s n xs).args[j] = xs[j] := rfl
      rw [e] at this; omega
    have hbb : Onto w ((w.alloc (.cells #[.int .i64 k, .string s, .int .i64 n, .slice a xs.length c] 40)).alloc (.cells #[.int .i64 k', .string s', .int .i64 n', .slice a' ys.length c'] 40)) := ((Onto.refl _).alloc _).alloc _
    have hE : cmpT (.mk k s n xs) (.mk k' s' n' ys) = if cmpI k k' ≠ 0 then cmpI k k' else if cmpI n n' ≠ 0 then cmpI n n' else if cmpS s s' ≠ 0 then cmpS s s' else if cmpI xs.length ys.length ≠ 0 then cmpI xs.length ys.length else cmpL xs ys := by rw [cmpT]
    have C1 := Lib.hid (fun w => cmpI_any k k' w)
    have C2 := Lib.hid (fun w => cmpI_any n n' w)
    have C3 := Lib.hid (fun w => cmpS_any s s' w)
    have C4 := Lib.hid (fun w => cmpI_any (xs.length : Int) (ys.length : Int) w)
    have CL := Lib.hid (fun hl w' (h : Below w.heap.size w w') => cmpFunc_tm m ih (.slice a xs.length c) (.slice a' ys.length c') xs ys w' hl hpl ⟨a, c, rfl, hxa.below h⟩ ⟨a', c', rfl, hya.below h⟩)
    clear ih hpl hm
    have hll := hxa.1
    have hll' := hya.1
    clear hxa hya
    by_cases h1 : k = k'
    case neg =>
      have hr := Lib.hid (show cmpT (.mk k s n xs) (.mk k' s' n' ys) = cmpI k k' from by rw [hE, if_pos (cmpI_ne h1)])
      have hq : (k != k') = true := by rw [bne_iff_ne]; exact h1
      clear hE h1
      go_enter Try.func62, Try.ntmps62
      go_wp2_with fail
      refine (C1.out _).mono ?_; rintro e w1 ⟨rfl, rfl⟩
      go_wp2_with fail
      go_ret
      exact ⟨ret_int hr.out.symm, hbb⟩
    have e1 := cmpI_zero.2 h1
    have q1 : (k != k') = false := by simp [h1]
    clear C1
    by_cases h2 : n = n'
    case neg =>
      have hr := Lib.hid (show cmpT (.mk k s n xs) (.mk k' s' n' ys) = cmpI n n' from by rw [hE, if_neg (by rw [e1]; simp), if_pos (cmpI_ne h2)])
      have hq : (n != n') = true := by rw [bne_iff_ne]; exact h2
      clear hE h1 h2 e1
      go_enter Try.func62, Try.ntmps62
      go_wp2_with fail
      refine (C2.out _).mono ?_; rintro e w1 ⟨rfl, rfl⟩
      go_wp2_with fail
      go_ret
      exact ⟨ret_int hr.out.symm, hbb⟩
    have e2 := cmpI_zero.2 h2
    have q2 : (n != n') = false := by simp [h2]
    clear C2
    cases h3 : (s.toList == s'.toList) with
    | false =>
      have hr := Lib.hid (show cmpT (.mk k s n xs) (.mk k' s' n' ys) = cmpS s s' from by rw [hE, if_neg (by rw [e1]; simp), if_neg (by rw [e2]; simp), if_pos (cmpS_ne h3)])
      clear hE h1 h2 e1 e2
      go_enter Try.func62, Try.ntmps62
      go_wp2_with fail
      refine (C3.out _).mono ?_; rintro e w1 ⟨rfl, rfl⟩
      go_wp2_with fail
      go_ret
      exact ⟨ret_int hr.out.symm, hbb⟩
    | true =>
      have e3 := cmpS_eq h3
      clear C3
      by_cases h4 : cmpI xs.length ys.length = 0
      case neg =>
        have hr := Lib.hid (show cmpT (.mk k s n xs) (.mk k' s' n' ys) = cmpI xs.length ys.length from by rw [hE, if_neg (by rw [e1]; simp), if_neg (by rw [e2]; simp), if_neg (by rw [e3]; simp), if_pos h4])
        obtain ⟨z, hz⟩ : ∃ z, z = cmpI (xs.length : Int) (ys.length : Int) := ⟨_, rfl⟩
        rw [← hz] at h4 hr C4
        have hq : (z != 0) = true := by rw [bne_iff_ne]; exact h4
        clear hE h1 h2 e1 e2 e3 h4 hz
        go_enter Try.func62, Try.ntmps62
        go_wp2_with fail
        refine (C4.out _).mono ?_; rintro e w1 ⟨rfl, rfl⟩
        go_wp2_with fail
        go_ret
        exact ⟨ret_int hr.out.symm, hbb⟩
      have hr := Lib.hid (show cmpT (.mk k s n xs) (.mk k' s' n' ys) = cmpL xs ys from by rw [hE, if_neg (by rw [e1]; simp), if_neg (by rw [e2]; simp), if_neg (by rw [e3]; simp), if_neg (by simpa using h4)])
      have C := Lib.hid (CL.out (by have := cmpI_zero.1 h4; omega))
      rw [h4] at C4
      clear hE h1 h2 e1 e2 e3 h4 CL
      go_enter Try.func62, Try.ntmps62
      go_wp2_with fail
      refine (C4.out _).mono ?_; rintro e w1 ⟨rfl, rfl⟩
      go_wp2_with fail
      refine (C.out _ hbb.below).mono ?_; rintro e w2 ⟨rfl, hb2⟩
      go_wp2_with fail
      go_ret
      exact ⟨ret_int hr.out.symm, hbb.next hb2⟩

set_option maxHeartbeats 1000000 in
theorem psame_tm (x y : Tv) (w : World) (hx : x.ok w) (hy : y.ok w) :
    Calls Try.prog 58 #[x.val, y.val] w fun e w' => e = .returned (.bool (eqT x.t y.t)) ∧ Onto w w' := by
  have C := Lib.hid (fun w' (h : Below w.heap.size w w') => pcompare_tm x.t.parts x y w' (Nat.le_refl _) (hx.below h) (hy.below h))
  have hie : ((cmpT x.t y.t == 0) = eqT x.t y.t) := by
    rw [Bool.eq_iff_iff, beq_iff_eq, eqT_iff]; exact cmpT_iff
  have HR := Lib.hid hie
  obtain ⟨tx, ax, cx⟩ := x
  obtain ⟨ty, ay, cy⟩ := y
  simp only [Tv.val] at *
  have hbb : Onto w ((w.alloc (.cells #[.int .i64 tx.kind, .string tx.name, .int .i64 tx.n, .slice ax tx.args.length cx] 40)).alloc (.cells #[.int .i64 ty.kind, .string ty.name, .int .i64 ty.n, .slice ay ty.args.length cy] 40)) := ((Onto.refl _).alloc _).alloc _
  clear hx hy hie
  obtain ⟨z, hz⟩ : ∃ z, z = cmpT tx ty := ⟨_, rfl⟩
  obtain ⟨q, hq⟩ : ∃ q, q = eqT tx ty := ⟨_, rfl⟩
  rw [← hz] at C HR
  rw [← hq] at HR ⊢
  clear hz hq
  go_enter Try.func58, Try.ntmps58
  go_wp2_with fail
  refine (C.out _ hbb.below).mono ?_; rintro e w1 ⟨rfl, hb1⟩
  go_wp2_with fail
  go_ret
  exact ⟨ret_bool HR.out, hbb.next hb1⟩
end Go.Proofs.Ytehpkhcjejlbpaa
