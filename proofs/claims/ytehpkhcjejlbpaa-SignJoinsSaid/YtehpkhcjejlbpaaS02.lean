/-
  How many parts a term has, up to a bound, by the reference of layer 3: count, for any term in memory. (as data)
  How terms are alike, as data: rows up to a place, where two heads part. No function of the program.
  How many parts a term has, up to a bound, by the reference of layer 3: count, for any term in memory.
  All parts of a term, by the reference of layer 3: All, for any term in memory that has not too many; the row lies in new memory, the parts' arguments where they lay.
  What reads so in one memory and reads so in another; memory with one block out of sight. No function of the program.
  What stands at a place, as data; the zero term; what a call leaves that answers a term, or none. No function of the program.
  Boxes of four cells that are written, and what stands at a place in parts. Nothing of the program's functions.
  Rows of terms that the call itself has made: their cells, stores into them, and rows in memory as values. No function of the program.
  Terms that a call has made, and where they stand on: what the call was handed, and the blocks that it has made itself. No function of the program.
  A shell: what Frsh has, beside the walk of All.
-/
import Derived.Test.YtehpkhcjejlbpaaS01
namespace Go.Proofs.Ytehpkhcjejlbpaa
open Go.RowKit

/-- So many, or one more than the most. -/
def cnt (p : Nat) (most : Int) : Int := if (p : Int) ≤ most then p else most + 1
theorem cnt_in {p : Nat} {most : Int} (h : (p : Int) ≤ most) : cnt p most = p := by unfold cnt; rw [if_pos h]
theorem cnt_out {p : Nat} {most : Int} (h : ¬ (p : Int) ≤ most) : cnt p most = most + 1 := by unfold cnt; rw [if_neg h]
theorem cnt_one {most : Int} (h : 0 ≤ most) : cnt 1 most = 1 := by unfold cnt; split <;> omega
theorem cnt_step {p q : Nat} {most : Int} (_h : (p : Int) ≤ most) : (p : Int) + cnt q (most - p) = cnt (p + q) most := by
  by_cases hq : (q : Int) ≤ most - p
  · rw [cnt_in hq, cnt_in (by omega)]; omega
  · rw [cnt_out hq, cnt_out (by omega)]; omega
theorem cnt_bd {p : Nat} {most : Int} (h : 0 ≤ most) : 0 ≤ cnt p most ∧ cnt p most ≤ most + 1 := by
  unfold cnt; split <;> omega
end Go.Proofs.Ytehpkhcjejlbpaa

namespace Go.Proofs.Ytehpkhcjejlbpaa
open Go.RowKit

theorem Tv.ok.drew {w : World} {v : Tv} (h : v.ok w) : v.ok w.drew := h.below ((Below.refl _ _).drew)
theorem box_next (w : World) (g : Nat) (hg : g = w.heap.size) (x0 x1 x2 x3 : Value) (t : TypeId) : Box (w.alloc (.cells #[x0, x1, x2, x3] t)) g x0 x1 x2 x3 := by
  subst hg; exact box_new w x0 x1 x2 x3 t
/-- Terms are alike up to k. -/
def TmsTo (xs ys : List Tm) (k : Nat) : Prop := ∀ j (h1 : j < xs.length) (h2 : j < ys.length), j < k → xs[j] = ys[j]
theorem TmsTo.succ {xs ys : List Tm} {k : Nat} (h : TmsTo xs ys k) (h1 : k < xs.length) (h2 : k < ys.length) (hk : xs[k] = ys[k]) : TmsTo xs ys (k + 1) := by
  intro j a b hj
  by_cases e : j = k
  · subst e; exact hk
  · exact h j a b (by omega)
theorem TmsTo.all {xs ys : List Tm} (h : TmsTo xs ys xs.length) (hl : xs.length = ys.length) : xs = ys :=
  List.ext_getElem hl fun j h1 h2 => h j h1 h2 h1
/-- Where two heads part first. -/
theorem tm_ways (k k' : Int) (s s' : ByteArray) (n n' : Int) (l l' : Nat) : (k = k' ∧ s = s' ∧ n = n' ∧ l = l') ∨ (¬ (k = k' ∧ s = s' ∧ n = n' ∧ l = l') ∧ ((k != k') = true ∨ ((k != k') = false ∧ ((n != n') = true ∨ ((n != n') = false ∧ (((s.toList == s'.toList) = false) ∨ ((s.toList == s'.toList) = true ∧ ((l : Int) != (l' : Int)) = true))))))) := by
  by_cases h0 : k = k'
  · by_cases h2 : n = n'
    · by_cases h1 : s = s'
      · by_cases h3 : l = l'
        · exact .inl ⟨h0, h1, h2, h3⟩
        · exact .inr ⟨fun h => h3 h.2.2.2, .inr ⟨by simp [h0], .inr ⟨by simp [h2], .inr ⟨by simp [h1], by rw [bne_iff_ne]; omega⟩⟩⟩⟩
      · exact .inr ⟨fun h => h1 h.2.1, .inr ⟨by simp [h0], .inr ⟨by simp [h2], .inl (by rw [Lib.bytes_beq_false_iff]; exact h1)⟩⟩⟩
    · exact .inr ⟨fun h => h2 h.2.2.1, .inr ⟨by simp [h0], .inl (by rw [bne_iff_ne]; exact h2)⟩⟩
  · exact .inr ⟨fun h => h0 h.1, .inl (by rw [bne_iff_ne]; exact h0)⟩
end Go.Proofs.Ytehpkhcjejlbpaa

namespace Go.Proofs.Ytehpkhcjejlbpaa
open Go.RowKit

set_option maxRecDepth 100000 in
set_option maxHeartbeats 2000000 in
theorem count_tm (m : Nat) : ∀ (x : Tv) (most : Int) (w : World), x.t.parts ≤ m → x.ok w → 0 ≤ most → most ≤ 1000000 →
    Calls Try.prog 45 #[x.val, .int .i64 most] w fun e w' => e = .returned (.int .i64 (cnt x.t.parts most)) ∧ Below w.heap.size w w' := by
  induction m with
  | zero => intro x most w h; have := parts_pos x.t; omega
  | succ m ih =>
    intro x most w hm hx hm0 hm1
    obtain ⟨⟨k, s, n, xs⟩, a, c⟩ := x
    obtain ⟨_, hxl, hxr⟩ := hx
    have hpe : (Tm.mk k s n xs).parts = partsL xs + 1 := parts_eq _
    simp only [Tv.val, Tm.kind, Tm.name, Tm.n, Tm.args] at hxl hxr ⊢
    have hpl : ∀ j (h : j < xs.length), xs[j].parts ≤ m := fun j h => by
      have := parts_arg (.mk k s n xs) (j := j) h
      have e : (Tm.mk k s n xs).args[j] = xs[j] := rfl
      rw [e] at this; simp only at hm; omega
    have IH := Lib.hid ih
    have HP := Lib.hid hpl
    have HE := Lib.hid hpe
    clear ih hpl hm hpe
    rcases hxr with rfl | ⟨b, off, rfl, hlt, hr⟩
    · by_cases hmm : (1 : Int) ≤ most
      · have hr := Lib.hid (show cnt (Tm.mk k s n []).parts most = 1 from by rw [HE.out, partsL_nil, cnt_in (by omega)]; rfl)
        go_enter Try.func45, Try.ntmps45
        go_wp2
        refine wp_loop_rounds 1 ?_; rw [rounds_succ]
        go_wp2
        go_ret
        exact ⟨ret_int hr.out.symm, (Below.refl _ _).alloc (Nat.le_refl _) _⟩
      · have hr := Lib.hid (show cnt (Tm.mk k s n []).parts most = most + 1 from by rw [HE.out, partsL_nil, cnt_out (by omega)])
        go_enter Try.func45, Try.ntmps45
        go_wp2
        refine wp_loop_rounds 1 ?_; rw [rounds_succ]
        go_wp2
        go_ret
        exact ⟨ret_int hr.out.symm, (Below.refl _ _).alloc (Nat.le_refl _) _⟩
    · have HR := Lib.hid hr
      clear hr
      go_enter Try.func45, Try.ntmps45
      go_wp2
      go_loopw [5, 11] (fun q i wr => ∃ j : Nat, j ≤ xs.length ∧ i = .int .i64 j ∧ q = .int .i64 (cnt (partsL (xs.take j) + 1) most) ∧ Below w.heap.size w wr) (fun _ i _ => xs.length - (intOf i).toNat)
      case atStart => exact ⟨0, Nat.zero_le _, rfl, by rw [List.take_zero, partsL_nil, cnt_one hm0], (Below.refl _ _).alloc (Nat.le_refl _) _⟩
      case round =>
        obtain ⟨j, hj, rfl, rfl, hb⟩ := hrel
        have hbs := hb.size
        by_cases hjl : j < xs.length
        · have hil : (j : Int) < (xs.length : Int) := by omega
          obtain ⟨u, hu, huk, d0, d1, d2, d3⟩ := tmAt_tv ((rowAt_get HR.out hjl).below hb)
          obtain ⟨p, hp⟩ : ∃ p, p = partsL (xs.take j) + 1 := ⟨_, rfl⟩
          have hnext : partsL (xs.take (j + 1)) + 1 = p + u.t.parts := by rw [partsL_take xs hjl, hp, hu]; omega
          have hall : p + u.t.parts ≤ partsL xs + 1 := by
            rw [← hnext]
            have e := partsL_append (xs.take (j + 1)) (xs.drop (j + 1))
            rw [List.take_append_drop] at e; omega
          rw [← hp]
          by_cases hpm : (p : Int) ≤ most
          · rw [cnt_in hpm]
            have hcb := cnt_bd (p := u.t.parts) (most := most - p) (by omega)
            have C := Lib.hid (fun w' (h : Below wr.heap.size wr w') => IH.out u (most - p) w' (by rw [hu]; exact HP.out j hjl) (huk.below h) (by omega) (by omega))
            have hst := cnt_step (q := u.t.parts) hpm
            obtain ⟨r, hr⟩ : ∃ r, r = cnt u.t.parts (most - p) := ⟨_, rfl⟩
            rw [← hr] at C hcb hst
            have HS := Lib.hid hst
            have HN := Lib.hid hnext
            clear hu hp hnext huk hr hst hall
            go_wp2_with fail
            refine (C.out _ ((Below.refl _ _).alloc (Nat.le_refl _) _)).mono ?_; rintro e w1 ⟨rfl, hb1⟩
            go_wp2_with fail
            go_roundw
            case rel => exact ⟨j + 1, by omega, by go_num, by rw [HN.out, ← HS.out], (hb.alloc hb.size _).trans (hb1.mono (by simp; omega))⟩
            case measure => simp [intOf]; omega
          · rw [cnt_out hpm]
            have hr := Lib.hid (show cnt (Tm.mk k s n xs).parts most = most + 1 from by rw [HE.out, cnt_out (by omega)])
            clear hu hp hnext huk hall
            go_wp2_with fail
            go_ret
            exact ⟨ret_int hr.out.symm, hb.alloc hb.size _⟩
        · obtain rfl : j = xs.length := by omega
          rw [List.take_length, ← HE.out]
          by_cases hpm : ((Tm.mk k s n xs).parts : Int) ≤ most
          · have hr := Lib.hid (cnt_in hpm)
            rw [hr.out]
            obtain ⟨p, hp⟩ : ∃ p, p = (Tm.mk k s n xs).parts := ⟨_, rfl⟩
            rw [← hp] at hr hpm ⊢
            have HQ := Lib.hid hp
            clear hp
            go_wp2_with fail
            go_ret
            exact ⟨ret_int (by rw [← HQ.out]; exact hr.out.symm), hb⟩
          · have hr := Lib.hid (cnt_out hpm)
            rw [hr.out]
            clear hpm
            go_wp2_with fail
            go_ret
            exact ⟨ret_int hr.out.symm, hb⟩
end Go.Proofs.Ytehpkhcjejlbpaa

namespace Go.Proofs.Ytehpkhcjejlbpaa
open Go.RowKit

set_option maxRecDepth 100000 in
set_option maxHeartbeats 2000000 in
theorem all_tm (m : Nat) : ∀ (x : Tv) (w0 w : World), x.t.parts ≤ m → m ≤ 2300000000000 → x.ok w0 → Below w0.heap.size w0 w →
    Calls Try.prog 46 #[x.val] w fun e w' => ∃ v, e = .returned v ∧ OwnTv w0 w' w.heap.size v x.t.all ∧ v.ownBlock ≠ none ∧ Below w.heap.size w w' := by
  induction m with
  | zero => intro x w0 w h; have := parts_pos x.t; omega
  | succ m ih =>
    intro x w0 w hm hm1 hx hb0
    obtain ⟨i0, hi, hz0, hz1, hz2⟩ := info_parts termInfo
    have hxw := hx.below hb0
    have hX := hx
    obtain ⟨⟨k, s, n, xs⟩, a, c⟩ := x
    obtain ⟨_, hxl, hxr⟩ := hx
    have hpe : (Tm.mk k s n xs).parts = partsL xs + 1 := parts_eq _
    simp only [Tv.val, Tm.kind, Tm.name, Tm.n, Tm.args] at hxl hxr hm ⊢
    have hpl : ∀ j (h : j < xs.length), xs[j].parts ≤ m := fun j h => by
      have := parts_arg (.mk k s n xs) (j := j) h
      have e : (Tm.mk k s n xs).args[j] = xs[j] := rfl
      rw [e] at this; omega
    have HX := Lib.hid hX
    have hwz : Below w.heap.size w ((w.alloc (.cells #[.int .i64 k, .string s, .int .i64 n, .slice a xs.length c] 40)).alloc (.cells #[.int .i64 k, .string s, .int .i64 n, .slice a xs.length c] 40)) := ((Below.refl _ _).alloc (Nat.le_refl _) _).alloc (by simp) _
    have hown0 : ((w.alloc (.cells #[.int .i64 k, .string s, .int .i64 n, .slice a xs.length c] 40)).alloc (.cells #[.int .i64 k, .string s, .int .i64 n, .slice a xs.length c] 40)).ownsRow w.heap.size 40 4 (.slice (some ⟨w.heap.size + 1, 0, none⟩) 1 1) 1 (rowTv [⟨.mk k s n xs, a, c⟩]) := by
      have := own_first (w.alloc (.cells #[.int .i64 k, .string s, .int .i64 n, .slice a xs.length c] 40)) w.heap.size (by simp) ⟨.mk k s n xs, a, c⟩
      rw [show (w.alloc (.cells #[.int .i64 k, .string s, .int .i64 n, .slice a xs.length c] 40)).heap.size = w.heap.size + 1 from by simp] at this
      exact this
    have hpr := partsL_length xs
    have HE := Lib.hid hpe
    have hps : partsL xs + 1 ≤ 2300000000000 := by omega
    have IH := Lib.hid (fun x w0 w h1 h2 h3 => ih x w0 w h1 (by omega) h2 h3)
    have HP := Lib.hid hpl
    have HO := Lib.hid hown0
    clear ih hpl hm hpe hX hown0 hxw
    rcases hxr with rfl | ⟨b, off, rfl, hlt, hr⟩
    · go_enter Try.func46, Try.ntmps46
      go_wp2
      refine wp_loop_rounds 1 ?_; rw [rounds_succ]
      go_wp2
      go_ret
      exact ⟨_, rfl, ⟨[⟨.mk k s n [], a, c⟩], by rw [Tm.all, allL]; rfl, by intro x hx; rw [List.mem_singleton.1 hx]; exact HX.out, by rw [Tm.all, allL]; exact HO.out⟩, by simp [Value.ownBlock], hwz⟩
    · have HR := Lib.hid hr
      have HB0 := Lib.hid hb0
      have hlt0 : b < w.heap.size := Nat.lt_of_lt_of_le hlt hb0.size
      clear hr hb0
      go_enter Try.func46, Try.ntmps46
      go_wp2
      go_loopw [3, 11] (fun o i wr => ∃ (j : Nat) (vs : List Tv), j ≤ xs.length ∧ i = .int .i64 j ∧ vs.length = partsL (xs.take j) + 1 ∧ vs.map Tv.t = Tm.mk k s n xs :: allL (xs.take j) ∧ (∀ x ∈ vs, x.ok w0) ∧
        wr.ownsRow w.heap.size 40 4 o vs.length (rowTv vs) ∧ o.ownBlock ≠ none ∧ Below w.heap.size w wr) (fun _ i _ => xs.length - (intOf i).toNat)
      case atStart => exact ⟨0, [⟨.mk k s n xs, some ⟨b, off, none⟩, c⟩], Nat.zero_le _, rfl, by rw [List.take_zero, partsL_nil]; rfl, by rw [List.take_zero, allL]; rfl, by intro x hx; rw [List.mem_singleton.1 hx]; exact HX.out, HO.out, by simp [Value.ownBlock], hwz⟩
      case round =>
        obtain ⟨j, vs, hj, rfl, hvl, hvt, hvo, hown, hnn, hb⟩ := hrel
        have hbs := hb.size
        by_cases hjl : j < xs.length
        · have hil : (j : Int) < (xs.length : Int) := by omega
          obtain ⟨u, hu, huk, hat⟩ := tmAt_tv (rowAt_get HR.out hjl)
          obtain ⟨d0, d1, d2, d3⟩ := (hat.below HB0.out).below hb
          have hup : u.t.parts ≤ partsL xs := by rw [hu]; exact parts_get xs hjl
          have hnx := partsL_take xs hjl
          rw [← hu] at hnx
          have hall : partsL (xs.take (j + 1)) ≤ partsL xs := by
            have e := partsL_append (xs.take (j + 1)) (xs.drop (j + 1))
            rw [List.take_append_drop] at e; omega
          have hat2 := allL_take hjl
          rw [← hu] at hat2
          have C := Lib.hid (fun w' (h : Below wr.heap.size wr w') => IH.out u w0 w' (by rw [hu]; exact HP.out j hjl) huk (HB0.out.trans ((hb.mono (by exact HB0.out.size)).trans (h.mono (by have := HB0.out.size; omega)))))
          have HVT := Lib.hid hvt
          have HVO := Lib.hid hvo
          have HA := Lib.hid hat2
          have HN := Lib.hid hnx
          have HL := Lib.hid hvl
          have hvb : vs.length + u.t.parts ≤ 2300000000000 := by omega
          have hvb2 : vs.length ≤ 2300000000000 := by omega
          clear hvt hvo hat2 hnx hvl hat hu huk hall hup
          go_wp2_with fail
          refine (C.out _ ((Below.refl _ _).alloc (Nat.le_refl _) _)).mono ?_; rintro e w1 ⟨v1, rfl, ⟨us, hut, huo, hown1⟩, hnn1, hb1⟩
          have hbw1 : Below wr.heap.size wr w1 := ((Below.refl _ _).alloc (Nat.le_refl _) _).trans (hb1.mono (by simp))
          have hown2 := own_below (hown.alloc _) hb1
          have hge1 := own_row_ge hown1
          have hlt1 := own_row_lt hown1
          have hown1' := hown1
          rw [all_length] at hown1
          obtain ⟨hrl, hv1 | ⟨g, cap, cur, rfl, hg1, hgc, hgn, hgm, hgs, hgt⟩⟩ := hown1
          · rw [hv1.1] at hnn1; exact absurd rfl hnn1
          have hnews : ∀ q x, (rowTv us)[q]? = some x → w1.cell? ((⟨g, 0, none⟩ : Addr).add q) = some x := by
            intro q x hq
            have hql : q < (rowTv us).length := (List.getElem?_eq_some_iff.1 hq).1
            have e : ((⟨g, 0, none⟩ : Addr).add q) = ⟨g, q, none⟩ := by
              unfold Addr.add; split
              · next h => subst h; rfl
              · simp
            rw [e, cell_of_row w1 g q cur _ (0, 0) hgc, ← hq, ← hgt, List.getElem?_take, if_pos (by omega)]
            simp
          have hn1 := rowTv_one' us
          have hbs1 := hbw1.size
          have HNW := Lib.hid hnews
          have HN1 := Lib.hid hn1
          have hpp : ∃ p, p = u.t.parts := ⟨_, rfl⟩
          obtain ⟨p, hp⟩ := hpp
          rw [← hp] at hvb hgn hgt hrl ⊢
          have HPP := Lib.hid hp
          have HUT := Lib.hid hut
          have HUO := Lib.hid huo
          have HRL := Lib.hid hrl
          clear hnews hn1 hgt hgs hgc hp hut huo hrl hown hown1' hge1 hlt1
          go_wp2_with (at_builtin; refine wpList_append_own _ rfl _ _ 38 rfl w.heap.size 40 i0 (.agg #[.int .i64 0, .string ⟨#[]⟩, .int .i64 0, .slice none 0 0]) 4 56 Try.underlying38 hi hz0 hz1 hz2 rfl (by decide) _ vs.length _ rfl hown2 ⟨g, 0, none⟩ p cap (rowTv us) rfl HRL.out HNW.out HN1.out ?c3 ?c4 ?c5 ?_)
          case c3 => unfold maxLen; omega
          case c4 => omega
          case c5 => omega
          intro v' w2 hown3 hgrow hnil
          have hb2 : Below w.heap.size w w2 := (hb.trans (hbw1.mono hbs)).grown hgrow (by omega) (own_row_ge hown2)
          have hnn2 : v'.ownBlock ≠ none := by
            obtain ⟨_, h⟩ := hown3
            rcases h with ⟨rfl, h0⟩ | ⟨g', cap', cur', rfl, _⟩
            · have := HL.out; omega
            · simp [Value.ownBlock]
          have hrel : (vs ++ us).length = partsL (xs.take (j + 1)) + 1 ∧ (vs ++ us).map Tv.t = Tm.mk k s n xs :: allL (xs.take (j + 1)) ∧ (∀ x ∈ vs ++ us, x.ok w0) ∧ w2.ownsRow w.heap.size 40 4 v' (vs ++ us).length (rowTv (vs ++ us)) := by
            have hul : us.length = p := by
              have := congrArg List.length HUT.out
              rw [List.length_map, all_length] at this
              rw [this, HPP.out]
            refine ⟨?_, ?_, ?_, ?_⟩
            · rw [List.length_append, hul, HN.out, HL.out, ← HPP.out]; omega
            · rw [List.map_append, HVT.out, HUT.out, HA.out]; rfl
            · intro x hx
              rcases List.mem_append.1 hx with h | h
              · exact HVO.out x h
              · exact HUO.out x h
            · rw [rowTv_append, List.length_append, hul]; exact hown3
          have HREL := Lib.hid hrel
          clear hown3 hgrow hnil hown2 hrel hb1 hbw1 hb
          go_wp2_with fail
          go_roundw
          case rel => exact ⟨j + 1, vs ++ us, by omega, by go_num, HREL.out.1, HREL.out.2.1, HREL.out.2.2.1, HREL.out.2.2.2, hnn2, hb2⟩
          case measure => simp [intOf]; omega
        · obtain rfl : j = xs.length := by omega
          rw [List.take_length] at hvl hvt
          have hown' : wr.ownsRow w.heap.size 40 4 u3 (Tm.mk k s n xs).all.length (rowTv vs) := by
            rw [all_length, HE.out, ← hvl]; exact hown
          have hvt' : vs.map Tv.t = (Tm.mk k s n xs).all := by rw [hvt, Tm.all]
          have HVT := Lib.hid hvt'
          have HVO := Lib.hid hvo
          clear hvl hvt hvt' hvo hown
          go_wp2
          go_ret
          exact ⟨_, rfl, ⟨vs, HVT.out, HVO.out, hown'⟩, hnn, hb⟩
end Go.Proofs.Ytehpkhcjejlbpaa

namespace Go.Proofs.Ytehpkhcjejlbpaa
open Go.RowKit

/-- Every cell that reads in w0 reads so in W. -/
structure Reads (w0 W : World) : Prop where
  size : w0.heap.size ≤ W.heap.size
  cell : ∀ p v, w0.cell? p = some v → W.cell? p = some v
theorem Reads.refl (w : World) : Reads w w := ⟨Nat.le_refl _, fun _ _ h => h⟩
theorem Reads.trans {a b c : World} (h : Reads a b) (k : Reads b c) : Reads a c := ⟨Nat.le_trans h.size k.size, fun p v hv => k.cell p v (h.cell p v hv)⟩
theorem reads_below {w0 W : World} (h : Below w0.heap.size w0 W) : Reads w0 W := ⟨h.size, fun p v hv => by
  rw [h.cell (World.block_lt_of_cell? w0 p hv)]; exact hv⟩
mutual
theorem TmAt.reads {w w' : World} (hb : Reads w w') : ∀ {t : Tm} {b o : Nat}, TmAt w t b o → TmAt w' t b o
  | .mk k s n xs, b, o, h => by
    rw [TmAt] at h ⊢
    obtain ⟨hf, h0, h1, h2, a, c, h3, hl, hr⟩ := h
    refine ⟨hf, hb.cell _ _ h0, hb.cell _ _ h1, hb.cell _ _ h2, a, c, hb.cell _ _ h3, hl, ?_⟩
    rcases hr with hr | ⟨b', o', ha, hb', hr⟩
    · exact .inl hr
    · exact .inr ⟨b', o', ha, Nat.lt_of_lt_of_le hb' hb.size, RowAt.reads hb hr⟩
theorem RowAt.reads {w w' : World} (hb : Reads w w') : ∀ {xs : List Tm} {b o : Nat}, RowAt w xs b o → RowAt w' xs b o
  | [], _, _, _ => by rw [RowAt]; trivial
  | t :: r, b, o, h => by
    rw [RowAt] at h ⊢
    exact ⟨TmAt.reads hb h.1, RowAt.reads hb h.2⟩
end
theorem Args.reads {w w' : World} {a : Option Addr} {c : Nat} {xs : List Tm} (h : Args w a c xs) (hb : Reads w w') : Args w' a c xs := by
  obtain ⟨hl, h⟩ := h
  refine ⟨hl, ?_⟩
  rcases h with h | ⟨b, o, ha, hlt, hr⟩
  · exact .inl h
  · exact .inr ⟨b, o, ha, Nat.lt_of_lt_of_le hlt hb.size, hr.reads hb⟩
theorem Tv.ok.reads {w w' : World} {v : Tv} (h : v.ok w) (hb : Reads w w') : v.ok w' := ⟨h.1, Args.reads h.2 hb⟩
theorem Tms.reads {w w' : World} {v : Value} {ts : List Tm} (h : Tms w v ts) (hb : Reads w w') : Tms w' v ts := by
  obtain ⟨a, c, hv, h⟩ := h
  exact ⟨a, c, hv, h.reads hb⟩
/-- A memory with one block out of sight. -/
def mask (w : World) (g : Nat) : World := { w with heap := w.heap.setIfInBounds g (.deferred none) }
theorem mask_size (w : World) (g : Nat) : (mask w g).heap.size = w.heap.size := by simp [mask]
theorem mask_other (w : World) {g k : Nat} (h : k ≠ g) : (mask w g).heap[k]? = w.heap[k]? := by
  simp only [mask]
  rw [Array.getElem?_setIfInBounds, if_neg (by omega)]
theorem mask_cell {w : World} {g : Nat} {p : Addr} {v : Value} (h : (mask w g).cell? p = some v) : p.block ≠ g ∧ w.cell? p = some v := by
  have hne : p.block ≠ g := fun e => by
    have hlt := World.block_lt_of_cell? (mask w g) p h
    have : (mask w g).heap[p.block]? = some (.deferred none) := by
      rw [e] at hlt ⊢
      simp only [mask]
      rw [mask_size] at hlt
      rw [Array.getElem?_setIfInBounds_self, if_pos hlt]
    unfold World.cell? at h
    rw [this] at h
    simp at h
  exact ⟨hne, by rw [← World.cell?_of_block (w := w) (w' := mask w g) (a := p) (mask_other w hne)]; exact h⟩
/-- What is seen with a block out of sight is seen in whatever differs there alone. -/
theorem reads_mask {w W : World} {g : Nat} (hs : w.heap.size ≤ W.heap.size) (h : ∀ k, k < w.heap.size → k ≠ g → W.heap[k]? = w.heap[k]?) : Reads (mask w g) W := ⟨by rw [mask_size]; exact hs, fun p v hv => by
  obtain ⟨hne, hc⟩ := mask_cell hv
  rw [World.cell?_of_block (w := w) (w' := W) (a := p) (h p.block (World.block_lt_of_cell? w p hc) hne)]; exact hc⟩
/-- An elder memory is seen, where a block beyond it is out of sight. -/
theorem reads_into {w0 w : World} {g : Nat} (h : Reads w0 w) (hg : w0.heap.size ≤ g) : Reads w0 (mask w g) := ⟨by rw [mask_size]; exact h.size, fun p v hv => by
  have hlt := World.block_lt_of_cell? w0 p hv
  rw [World.cell?_of_block (w := w) (w' := mask w g) (a := p) (mask_other w (by omega))]; exact h.cell p v hv⟩
/-- A memory with the block of a row out of sight. -/
def shade (w : World) (o : Value) : World := match o.ownBlock with | some g => mask w g | none => w
theorem shade_size (w : World) (o : Value) : (shade w o).heap.size = w.heap.size := by
  unfold shade; split
  · exact mask_size _ _
  · rfl
theorem shade_block {w : World} {o : Value} {k : Nat} (h : some k ≠ o.ownBlock) : (shade w o).heap[k]? = w.heap[k]? := by
  unfold shade; split
  · next g e => exact mask_other w (fun e2 => h (by rw [e2, e]))
  · rfl
theorem shade_cell {w : World} {o : Value} {p : Addr} {v : Value} (h : (shade w o).cell? p = some v) : some p.block ≠ o.ownBlock ∧ w.cell? p = some v := by
  unfold shade at h; split at h
  · next g e =>
    obtain ⟨h1, h2⟩ := mask_cell h
    exact ⟨fun e2 => h1 (by rw [e] at e2; exact Option.some.inj e2), h2⟩
  · next e => exact ⟨fun e2 => (by rw [e] at e2; cases e2), h⟩
theorem shade_reads (w : World) (o : Value) : Reads (shade w o) w := ⟨by rw [shade_size]; exact Nat.le_refl _, fun _ _ h => (shade_cell h).2⟩
theorem shade_into {w0 w : World} {o : Value} (h : Reads w0 w) (hg : ∀ g, o.ownBlock = some g → w0.heap.size ≤ g) : Reads w0 (shade w o) := by
  unfold shade; split
  · next g e => exact reads_into h (hg g e)
  · exact h
theorem shade_to {w W : World} {o o' : Value} (hs : w.heap.size ≤ W.heap.size) (h : ∀ k, k < w.heap.size → some k ≠ o.ownBlock → W.heap[k]? = w.heap[k]? ∧ some k ≠ o'.ownBlock) : Reads (shade w o) (shade W o') := by
  refine ⟨by rw [shade_size, shade_size]; exact hs, fun p v hv => ?_⟩
  obtain ⟨h1, h2⟩ := shade_cell hv
  obtain ⟨h3, h4⟩ := h p.block (World.block_lt_of_cell? w p h2) h1
  rw [World.cell?_of_block (w := w) (w' := shade W o') (a := p) ((shade_block h4).trans h3)]
  exact h2
theorem shade_below {w W : World} {o : Value} (h : Below w.heap.size w W) : Reads (shade w o) (shade W o) := shade_to h.size fun k hk hne => ⟨h.block k hk, hne⟩
theorem shade_grow {w W : World} {o o' : Value} (h : w.grownBy W o.ownBlock) (hat : o'.ownBlock = o.ownBlock ∨ o'.ownBlock = some w.heap.size) : Reads (shade w o) (shade W o') := shade_to h.size fun k hk hne => ⟨h.block k hk hne, by
  rcases hat with e | e
  · rw [e]; exact hne
  · rw [e]; intro e2; injection e2 with e2; omega⟩
end Go.Proofs.Ytehpkhcjejlbpaa

namespace Go.Proofs.Ytehpkhcjejlbpaa
open Go.RowKit

/-- The zero term. -/
def zeroT : Tm := .mk 0 ⟨#[]⟩ 0 []
def zeroV : Tv := ⟨zeroT, none, 0⟩
theorem zeroV_ok (w : World) : zeroV.ok w := by refine ⟨⟨?_, ?_, ?_, ?_, ?_⟩, ?_, .inl rfl⟩ <;> decide
/-- What stands at a place, if there is such a place. -/
def atT : Tm → List Int → Option Tm
  | t, [] => some t
  | t, i :: r => if h : 0 ≤ i ∧ i < t.args.length then atT (t.args[i.toNat]'(by omega)) r else none
theorem atT_nil (t : Tm) : atT t [] = some t := by rw [atT]
theorem atT_in {t : Tm} {j : Nat} {r : List Int} (h : j < t.args.length) : atT t ((j : Int) :: r) = atT t.args[j] r := by
  rw [atT, dif_pos (by omega)]; simp
theorem atT_out {t : Tm} {i : Int} {r : List Int} (h : ¬ (0 ≤ i ∧ i < t.args.length)) : atT t (i :: r) = none := by rw [atT, dif_neg h]

/-- What a call of At leaves. -/
def AtPost (o : Option Tm) (w0 w : World) (e : Ending) (w' : World) : Prop :=
  ∃ y : Tv, e = .returned (.tuple #[y.val, .bool o.isSome]) ∧ y.t = o.getD zeroT ∧ y.ok w0 ∧ Below w.heap.size w w'
end Go.Proofs.Ytehpkhcjejlbpaa

namespace Go.Proofs.Ytehpkhcjejlbpaa
open Go.RowKit

theorem cell_aside {W : World} {u : Value} (p q : Addr) (h : q.block ≠ p.block) : (W.setCell p u).cell? q = W.cell? q := World.cell?_of_block (Below.heap_setCell _ _ _ _ h)
theorem frozen_aside {W : World} {u : Value} (p q : Addr) (h : q.block ≠ p.block) : (W.setCell p u).frozen? q = W.frozen? q := World.frozen?_of_block (Below.heap_setCell _ _ _ _ h)
theorem cell_off {W : World} {u : Value} (g i j : Nat) (h : i ≠ j) : (W.setCell ⟨g, i, none⟩ u).cell? ⟨g, j, none⟩ = W.cell? ⟨g, j, none⟩ := World.cell?_setCell_other _ _ _ _ (fun e => h (by cases e; rfl))
theorem Box.sets {w : World} {g : Nat} {x0 x1 x2 x3 : Value} (h : Box w g x0 x1 x2 x3) (y0 y1 y2 y3 : Value) :
    Box ((((w.setCell ⟨g, 0, none⟩ y0).setCell ⟨g, 1, none⟩ y1).setCell ⟨g, 2, none⟩ y2).setCell ⟨g, 3, none⟩ y3) g y0 y1 y2 y3 where
  c0 := by
    rw [cell_off g 3 0 (by decide), cell_off g 2 0 (by decide), cell_off g 1 0 (by decide)]
    exact World.cell?_setCell_same _ _ _ h.c0
  c1 := by
    rw [cell_off g 3 1 (by decide), cell_off g 2 1 (by decide)]
    refine World.cell?_setCell_same (u := x1) _ _ _ ?_
    rw [cell_off g 0 1 (by decide)]; exact h.c1
  c2 := by
    rw [cell_off g 3 2 (by decide)]
    refine World.cell?_setCell_same (u := x2) _ _ _ ?_
    rw [cell_off g 1 2 (by decide), cell_off g 0 2 (by decide)]; exact h.c2
  c3 := by
    refine World.cell?_setCell_same (u := x3) _ _ _ ?_
    rw [cell_off g 2 3 (by decide), cell_off g 1 3 (by decide), cell_off g 0 3 (by decide)]; exact h.c3
  f0 := by simp [h.f0]
  f1 := by simp [h.f1]
  f2 := by simp [h.f2]
  f3 := by simp [h.f3]
theorem Box.aside {w : World} {g : Nat} {x0 x1 x2 x3 : Value} (h : Box w g x0 x1 x2 x3) {p : Addr} (hp : g ≠ p.block) (y : Value) : Box (w.setCell p y) g x0 x1 x2 x3 where
  c0 := (cell_aside p ⟨g, 0, none⟩ hp).trans h.c0
  c1 := (cell_aside p ⟨g, 1, none⟩ hp).trans h.c1
  c2 := (cell_aside p ⟨g, 2, none⟩ hp).trans h.c2
  c3 := (cell_aside p ⟨g, 3, none⟩ hp).trans h.c3
  f0 := (frozen_aside p ⟨g, 0, none⟩ hp).trans h.f0
  f1 := (frozen_aside p ⟨g, 1, none⟩ hp).trans h.f1
  f2 := (frozen_aside p ⟨g, 2, none⟩ hp).trans h.f2
  f3 := (frozen_aside p ⟨g, 3, none⟩ hp).trans h.f3
theorem Box.asides {w : World} {g k : Nat} {x0 x1 x2 x3 : Value} (h : Box w g x0 x1 x2 x3) (hp : g ≠ k) (y0 y1 y2 y3 : Value) :
    Box ((((w.setCell ⟨k, 0, none⟩ y0).setCell ⟨k, 1, none⟩ y1).setCell ⟨k, 2, none⟩ y2).setCell ⟨k, 3, none⟩ y3) g x0 x1 x2 x3 :=
  (((h.aside (p := ⟨k, 0, none⟩) hp _).aside (p := ⟨k, 1, none⟩) hp _).aside (p := ⟨k, 2, none⟩) hp _).aside (p := ⟨k, 3, none⟩) hp _
theorem below_sets {B : Nat} {a w : World} (h : Below B a w) {g : Nat} (hg : B ≤ g) (y0 y1 y2 y3 : Value) : Below B a ((((w.setCell ⟨g, 0, none⟩ y0).setCell ⟨g, 1, none⟩ y1).setCell ⟨g, 2, none⟩ y2).setCell ⟨g, 3, none⟩ y3) :=
  (((h.setCell (p := ⟨g, 0, none⟩) hg _).setCell (p := ⟨g, 1, none⟩) hg _).setCell (p := ⟨g, 2, none⟩) hg _).setCell (p := ⟨g, 3, none⟩) hg _
theorem atT_append {u : Tm} : ∀ (p q : List Int) {t : Tm}, atT t p = some u → atT t (p ++ q) = atT u q
  | [], q, t, h => by rw [atT] at h; cases h; rfl
  | i :: r, q, t, h => by
    rw [List.cons_append]
    rw [atT] at h ⊢
    split at h
    · next hi => rw [dif_pos hi]; exact atT_append r q h
    · cases h
theorem atT_take {u t : Tm} {ns : List Int} {j : Nat} (h : atT t (ns.take j) = some u) : atT t ns = atT u (ns.drop j) := by
  have := atT_append (ns.take j) (ns.drop j) h
  rwa [List.take_append_drop] at this
theorem atT_take_succ {u t : Tm} {ns : List Int} {j : Nat} {n : Int} (h : atT t (ns.take j) = some u) (hn : ns[j]? = some n) : atT t (ns.take (j + 1)) = atT u [n] := by
  obtain ⟨hj, rfl⟩ := List.getElem?_eq_some_iff.1 hn
  rw [List.take_succ_eq_append_getElem hj]
  exact atT_append _ _ h
theorem atT_one {u : Tm} {n : Nat} (h : n < u.args.length) : atT u [(n : Int)] = some u.args[n] := by rw [atT_in h, atT_nil]
theorem atT_stop {u t : Tm} {ns : List Int} {j : Nat} {n : Int} (h : atT t (ns.take j) = some u) (hn : ns[j]? = some n) (ho : ¬ (0 ≤ n ∧ n < u.args.length)) : atT t ns = none := by
  obtain ⟨hj, rfl⟩ := List.getElem?_eq_some_iff.1 hn
  rw [atT_take h, List.drop_eq_getElem_cons hj, atT_out ho]
end Go.Proofs.Ytehpkhcjejlbpaa

namespace Go.Proofs.Ytehpkhcjejlbpaa
open Go.RowKit

/-- A row in memory as values: their cells, one behind the other. -/
theorem rowAt_vs {w : World} : ∀ {ts : List Tm} {b o : Nat}, RowAt w ts b o → ∃ vs : List Tv, vs.map Tv.t = ts ∧ (∀ x ∈ vs, x.ok w) ∧ ∀ q x, (rowTv vs)[q]? = some x → w.cell? ⟨b, o + q, none⟩ = some x
  | [], _, _, _ => ⟨[], rfl, (fun _ h => by cases h), (fun q x h => by simp [rowTv] at h)⟩
  | t :: r, b, o, h => by
    rw [RowAt] at h
    obtain ⟨u, hu, huk, c0, c1, c2, c3⟩ := tmAt_tv h.1
    obtain ⟨vs, hv, hvk, hc⟩ := rowAt_vs h.2
    refine ⟨u :: vs, by rw [List.map_cons, hu, hv], fun x hx => ?_, fun q x hq => ?_⟩
    · rcases List.mem_cons.1 hx with rfl | hx
      · exact huk
      · exact hvk x hx
    · have e : rowTv (u :: vs) = u.cells ++ rowTv vs := by unfold rowTv; rw [List.flatMap_cons]
      rw [e] at hq
      rcases Nat.lt_or_ge q 4 with h4 | h4
      · rw [List.getElem?_append_left (by simpa [Tv.cells] using h4)] at hq
        rcases (show q = 0 ∨ q = 1 ∨ q = 2 ∨ q = 3 from by omega) with rfl | rfl | rfl | rfl
        all_goals
          simp only [Tv.cells, List.getElem?_cons_zero, List.getElem?_cons_succ, Option.some.injEq] at hq
          subst hq
          assumption
      · rw [List.getElem?_append_right (by simpa [Tv.cells] using h4)] at hq
        have := hc (q - 4) x (by simpa [Tv.cells] using hq)
        rw [show o + 4 + (q - 4) = o + q from by omega] at this
        exact this
theorem addr_row (b o q : Nat) : ((⟨b, o, none⟩ : Addr).add q) = ⟨b, o + q, none⟩ := by
  unfold Addr.add; split
  · next h => subst h; rfl
  · rfl

/-- A row that the call itself has made, behind a store into a block that lay before. -/
theorem own_setCell {w : World} {base : Nat} {e : TypeId} {size : Nat} {v : Value} {n : Nat} {xs : List Value} (h : w.ownsRow base e size v n xs) {p : Addr} (hp : p.block < base) (u : Value) : (w.setCell p u).ownsRow base e size v n xs := by
  obtain ⟨hn, h⟩ := h
  refine ⟨hn, ?_⟩
  rcases h with h | ⟨g, cap, cur, rfl, hbb, hg, hr⟩
  · exact .inl h
  · exact .inr ⟨g, cap, cur, rfl, hbb, by rw [Below.heap_setCell _ _ _ _ (by omega)]; exact hg, hr⟩

theorem rowTv_cons (v : Tv) (r : List Tv) : rowTv (v :: r) = v.cells ++ rowTv r := by unfold rowTv; rw [List.flatMap_cons]
theorem rowTv_set (u : Tv) : ∀ (vs : List Tv) (k : Nat), k < vs.length → rowTv (vs.set k u) = ((((rowTv vs).set (k * 4) (.int .i64 u.t.kind)).set (k * 4 + 1) (.string u.t.name)).set (k * 4 + 2) (.int .i64 u.t.n)).set (k * 4 + 3) (.slice u.a u.t.args.length u.c)
  | [], _, h => by simp at h
  | v :: r, 0, _ => by rw [List.set_cons_zero, rowTv_cons, rowTv_cons]; rfl
  | v :: r, k + 1, h => by
    rw [List.set_cons_succ, rowTv_cons, rowTv_cons, rowTv_set u r k (by simpa using h)]
    have e : ∀ (l : List Value) (i : Nat) (x : Value), (v.cells ++ l).set (4 + i) x = v.cells ++ l.set i x := fun l i x => by
      rw [List.set_append_right _ _ (by simp [Tv.cells])]; congr 2; simp [Tv.cells]
    rw [show (k + 1) * 4 = 4 + k * 4 from by omega, show 4 + k * 4 + 1 = 4 + (k * 4 + 1) from by omega, show 4 + k * 4 + 2 = 4 + (k * 4 + 2) from by omega, show 4 + k * 4 + 3 = 4 + (k * 4 + 3) from by omega, e, e, e, e]
theorem heap_setCell_same {w : World} {g o : Nat} {cur : Array Value} {e : TypeId} {fr : Nat × Nat} (h : w.heap[g]? = some (.cells cur e fr)) (x : Value) : (w.setCell ⟨g, o, none⟩ x).heap[g]? = some (.cells (cur.setIfInBounds o x) e fr) := by
  simp [World.setCell, Array.getElem?_modify, h]
/-- A store of a term into a row of the call's own. -/
theorem own_put {w : World} {base : Nat} {e : TypeId} {g n cap : Nat} {vs : List Tv} (h : w.ownsRow base e 4 (.slice (some ⟨g, 0, none⟩) n cap) n (rowTv vs)) (u : Tv) (k : Nat) (hk : k < vs.length) :
    ((((w.setCell ⟨g, k * 4, none⟩ (.int .i64 u.t.kind)).setCell ⟨g, k * 4 + 1, none⟩ (.string u.t.name)).setCell ⟨g, k * 4 + 2, none⟩ (.int .i64 u.t.n)).setCell ⟨g, k * 4 + 3, none⟩ (.slice u.a u.t.args.length u.c)).ownsRow base e 4 (.slice (some ⟨g, 0, none⟩) n cap) n (rowTv (vs.set k u)) := by
  obtain ⟨hn, ⟨h, _⟩ | ⟨g', cap', cur, hv, hb, hgc, h1, h2, h3, hgt⟩⟩ := h
  · cases h
  · cases hv
    refine ⟨by rw [rowTv_length, List.length_set, ← rowTv_length]; exact hn, .inr ⟨g, cap, _, rfl, hb, heap_setCell_same (heap_setCell_same (heap_setCell_same (heap_setCell_same hgc _) _) _) _, h1, h2, by simpa using h3, ?_⟩⟩
    rw [rowTv_set u vs k hk, ← hgt]
    simp only [Array.toList_setIfInBounds, List.take_set]
end Go.Proofs.Ytehpkhcjejlbpaa

namespace Go.Proofs.Ytehpkhcjejlbpaa
open Go.RowKit

/-- A term in the memory of w0 and in the blocks that were made from w on: it reads so wherever both stand. -/
def Fresh (w0 w w' : World) (y : Tv) : Prop := ∀ W, Reads w0 W → w'.heap.size ≤ W.heap.size → (∀ b, w.heap.size ≤ b → b < w'.heap.size → W.heap[b]? = w'.heap[b]?) → y.ok W
theorem Fresh.ok {w0 w w' : World} {y : Tv} (h : Fresh w0 w w' y) (hb : Below w0.heap.size w0 w') : y.ok w' := h w' (reads_below hb) (Nat.le_refl _) (fun _ _ _ => rfl)
theorem fresh_old {w0 w w' : World} {y : Tv} (h : y.ok w0) : Fresh w0 w w' y := fun _ hb _ _ => h.reads hb
/-- Likewise, but for one block, which holds a copy. -/
def Near (w0 : World) (B : Nat) (wd : World) (g : Nat) (y : Tv) : Prop := ∀ W, Reads w0 W → wd.heap.size ≤ W.heap.size → (∀ b, B ≤ b → b < wd.heap.size → b ≠ g → W.heap[b]? = wd.heap[b]?) → y.ok W
theorem near_alloc {w0 ws w4 : World} {y : Tv} {B : Nat} (hB : B = ws.heap.size) (h : Fresh w0 ws w4 y) (o : Obj) : Near w0 B (w4.alloc o) w4.heap.size y := fun W hb hs hag => by
  subst hB
  refine h W hb (by simp at hs; omega) (fun b h1 h2 => ?_)
  rw [hag b h1 (by simp; omega) (by omega)]
  exact heap_alloc_old w4 _ h2
theorem near_sets {w0 ws w4 : World} {y : Tv} {g : Nat} (hg : ws.heap.size = g + 1) (h : Fresh w0 ws w4 y) (u0 u1 u2 u3 : Value) :
    Near w0 g ((((w4.setCell ⟨g, 0, none⟩ u0).setCell ⟨g, 1, none⟩ u1).setCell ⟨g, 2, none⟩ u2).setCell ⟨g, 3, none⟩ u3) g y := fun W hb hs hag => by
  refine h W hb (by simpa using hs) (fun b h1 h2 => ?_)
  have hne : b ≠ g := by omega
  rw [hag b (by omega) (by simpa using h2) hne]
  rw [Below.heap_setCell _ _ _ _ hne, Below.heap_setCell _ _ _ _ hne, Below.heap_setCell _ _ _ _ hne, Below.heap_setCell _ _ _ _ hne]
theorem own_where {w W : World} {base : Nat} {e : TypeId} {size : Nat} {v : Value} {n : Nat} {xs : List Value} (h : w.ownsRow base e size v n xs) (hb : ∀ b, base ≤ b → b < w.heap.size → W.heap[b]? = w.heap[b]?) : W.ownsRow base e size v n xs := by
  obtain ⟨hn, h⟩ := h
  refine ⟨hn, ?_⟩
  rcases h with h | ⟨g, cap, cur, rfl, hbb, hg, hr⟩
  · exact .inl h
  · exact .inr ⟨g, cap, cur, rfl, hbb, by rw [hb g hbb (Array.getElem?_eq_some_iff.1 hg).1]; exact hg, hr⟩
/-- A term over a row that the call has made. -/
theorem fresh_row {w0 w wf : World} {a : Option Addr} {cap n : Nat} {vs : List Tv} {k : Int} {s : ByteArray} {nn : Int} {ts : List Tm} (hown : wf.ownsRow w.heap.size 40 4 (.slice a n cap) n (rowTv vs)) (hn : ts.length = n) (hvs : vs.map Tv.t = ts) (hfit : Fit k s nn) (hlen : n ≤ 9223372036854775807)
    (hok : ∀ W, Reads w0 W → wf.heap.size ≤ W.heap.size → (∀ b, w.heap.size ≤ b → b < wf.heap.size → W.heap[b]? = wf.heap[b]?) → ∀ v ∈ vs, v.ok W) : Fresh w0 w wf ⟨.mk k s nn ts, a, cap⟩ := fun W hb hs hag => by
  subst hn
  have h1 : OwnTv W W w.heap.size (.slice a ts.length cap) ts := ⟨vs, hvs, hok W hb hs hag, own_where hown hag⟩
  obtain ⟨a', c', e, hA⟩ := h1.tms (Below.refl _ _) hlen
  obtain ⟨rfl, rfl⟩ : a = a' ∧ cap = c' := by cases e; exact ⟨rfl, rfl⟩
  exact ⟨hfit, hA⟩
theorem map_set_t (vs : List Tv) (j : Nat) (u : Tv) : (vs.set j u).map Tv.t = (vs.map Tv.t).set j u.t := by rw [List.map_set]
/-- Where terms of a row that grows stand: what the call was handed, and all that it has made, but for the row itself. -/
def Beside (w0 w wr : World) (o : Value) (y : Tv) : Prop := ∀ W, Reads w0 W → wr.heap.size ≤ W.heap.size → (∀ b, w.heap.size ≤ b → b < wr.heap.size → some b ≠ o.ownBlock → W.heap[b]? = wr.heap[b]?) → y.ok W
theorem Beside.below {w0 w wr w' : World} {o : Value} {y : Tv} (h : Beside w0 w wr o y) (hb : Below wr.heap.size wr w') : Beside w0 w w' o y := fun W h1 h2 h3 =>
  h W h1 (Nat.le_trans hb.size h2) (fun b b1 b2 b3 => by rw [h3 b b1 (Nat.lt_of_lt_of_le b2 hb.size) b3]; exact hb.block b b2)
theorem Beside.grown {w0 w wr w' : World} {o o' : Value} {y : Tv} (h : Beside w0 w wr o y) (hg : wr.grownBy w' o.ownBlock) (hat : o'.ownBlock = o.ownBlock ∨ o'.ownBlock = some wr.heap.size) : Beside w0 w w' o' y := fun W h1 h2 h3 =>
  h W h1 (Nat.le_trans hg.size h2) (fun b b1 b2 b3 => by
    rw [h3 b b1 (Nat.lt_of_lt_of_le b2 hg.size) (by
      rcases hat with e | e
      · rw [e]; exact b3
      · rw [e]; intro he; injection he with he; omega)]
    exact hg.block b b2 b3)
theorem beside_old {w0 w wr : World} {o : Value} {y : Tv} (h : y.ok w0) : Beside w0 w wr o y := fun _ hb _ _ => h.reads hb
/-- What an inner call has made, beside a row that lay before. -/
theorem beside_fresh {w0 w ws wr : World} {o : Value} {y : Tv} (h : Fresh w0 ws wr y) (hs : w.heap.size ≤ ws.heap.size) (ho : ∀ g, o.ownBlock = some g → g < ws.heap.size) : Beside w0 w wr o y := fun W h1 h2 h3 =>
  h W h1 h2 (fun b b1 b2 => h3 b (by omega) b2 (fun e => by have := ho b e.symm; omega))
theorem beside_near {w0 w wd : World} {g : Nat} {o : Value} {z : Tv} (h : Near w0 g wd g z) (hs : w.heap.size ≤ g) (ho : ∀ k, o.ownBlock = some k → k < g) : Beside w0 w wd o z := fun W h1 h2 h3 =>
  h W h1 h2 (fun b b1 b2 _ => h3 b (by omega) b2 (fun e => by have := ho b e.symm; omega))
end Go.Proofs.Ytehpkhcjejlbpaa


