/-
  Binds in order, by the program's Of.
-/
import Derived.Test.YtcoaneipajadiaaPOf
import Derived.Test.YtcoaneipajadiaaRowTv
namespace Go.Proofs.Ytcoaneipajadiaa
open Go.RowKit Go.Shelf Go.Lib Go.Sort

theorem hold_none (w0 w : World) (base : Nat) : HoldBd w0 w base (.slice none 0 0) [] := ⟨[], rfl, (fun _ h => nomatch h), .inl ⟨rfl, rfl⟩⟩
/-- What Of leaves of a copy: the row turned, and of each name the first one. -/
theorem hold_of {w0 w w1 w2 w3 : World} {g cap n q : Nat} {vs : List Bv} {d2 d3 : Array Bv} (hvo : ∀ x ∈ vs, x.v.ok w0 ∧ x.s.size ≤ 9223372036854775807) (hb1 : Below w.heap.size w w1) (hg : w.heap.size ≤ g) (hn : vs.length = n) (hcap : n ≤ cap) (h0 : 0 < n) (hg1 : g < w1.heap.size)
    (hH : HoldsK Bv.cells 5 w1 g 0 vs.toArray) (h1 : Stab (ltOf cfN) vs.toArray d2) (h2 : SortedIn (ltOf cfN) 0 n d2) (h3 : SWK Bv.cells 5 w1 g 0 d2 w2) (hq : q ≤ n) (h4 : d3.size = n) (h5 : d3.toList.take q = compA sameN d2.toList) (h6 : SWK Bv.cells 5 w2 g 0 d3 w3) :
    HoldBd w0 w3 w.heap.size (.slice (some ⟨g, 0, none⟩) q cap) (ofB (vs.map Bv.bn)) ∧ Below w.heap.size w w3 := by
  have hs2 : d2.size = n := by rw [h1.1]; simp [hn]
  have hl : (d3.toList.take q).length = q := by rw [List.length_take, Array.length_toList]; omega
  have hb2 := below_sortW h3 hb1 hb1.size hg
  have hb3 := below_sortW h6 hb2 hb2.size hg
  have hH2 : HoldsK Bv.cells 5 w2 g 0 d2 := h3.holds hg1 hH (by rw [hs2]; simp [hn])
  have hg2 : g < w2.heap.size := Nat.lt_of_lt_of_le hg1 h3.le
  have hH3 : HoldsK Bv.cells 5 w3 g 0 d3 := h6.holds hg2 hH2 (by omega)
  refine ⟨⟨d3.toList.take q, ?_, fun x hx => ?_, .inr ⟨g, cap, by rw [hl], hg, Nat.lt_of_lt_of_le hg2 h6.le, by omega, by omega, ?_⟩⟩, hb3⟩
  · rw [h5, stab_ofB h1 (by rw [hs2]; exact h2)]
  · rw [h5] at hx
    have := stab_mem h1 (mem_compA hx)
    exact hvo x (by simpa using this)
  · exact holdsK_part (q := q) hH3 (by simp) (by omega)

set_option maxRecDepth 100000 in
set_option maxHeartbeats 2000000 in
theorem of_bd (v : Value) (bs : List Bn) (w0 w : World) (hv : Bds w0 v bs) (hb0 : Below w0.heap.size w0 w) (hlen : bs.length ≤ 1000000) :
    Calls Try.prog 15 #[v] w fun e w' => ∃ u, e = .returned u ∧ HoldBd w0 w' w.heap.size u (ofB bs) ∧ Below w.heap.size w w' := by
  obtain ⟨i0, hi, hz0, hz1, hz2⟩ := info_parts bindInfo
  have SN := Lib.hid (sortSt_none (.func (.func 34) #[] #[]))
  have CN := Lib.hid (compactB_none (.func (.func 36) #[] #[]))
  obtain ⟨a, c, rfl, hl, h⟩ := hv
  cases a with
  | none =>
    obtain rfl : bs = [] := by
      rcases h with h | ⟨b, o, ha, _⟩
      · exact h
      · cases ha
    go_enter Try.func15, Try.ntmps15
    go_wp2_with (at_builtin; refine wpList_append_own_none rfl _ _ 22 rfl w.heap.size 50 i0 5 Try.underlying22 hi _ 0 _ rfl (World.ownsRow_nil _ _ _ _) rfl ?_)
    go_wp2_with fail
    refine (SN.out _).mono ?_; rintro e w1 ⟨rfl, rfl⟩
    go_wp2_with fail
    refine (CN.out _).mono ?_; rintro e w1 ⟨rfl, rfl⟩
    go_wp2_with fail
    go_ret
    exact ⟨_, rfl, hold_none _ _ _, Below.refl _ _⟩
  | some ad =>
    obtain ⟨vs, hvt, hvo, hlt, hnews⟩ : ∃ vs : List Bv, vs.map Bv.bn = bs ∧ (∀ x ∈ vs, x.v.ok w0 ∧ x.s.size ≤ 9223372036854775807) ∧ (0 < bs.length → ad.block < w.heap.size) ∧ ∀ q x, (rowBv vs)[q]? = some x → w.cell? (ad.add q) = some x := by
      rcases h with rfl | ⟨b, o, ha, hlt, hr⟩
      · exact ⟨[], rfl, (fun x hx => by cases hx), by simp, fun q x h => by simp [rowBv] at h⟩
      · cases ha
        obtain ⟨vs, hvt, hvo, hc⟩ := rows_vs hr
        exact ⟨vs, hvt, hvo, fun _ => Nat.lt_of_lt_of_le hlt hb0.size, fun q x hq => by rw [addr_row]; exact (hb0.cell (p := ⟨b, o + q, none⟩) hlt).trans (hc q x hq)⟩
    have hvl : vs.length = bs.length := by rw [← hvt, List.length_map]
    have hrl : (rowBv vs).length = bs.length * 5 := by rw [rowBv_length, hvl]
    have HV := Lib.hid (And.intro hvt hvo)
    have H1 := Lib.hid (And.intro hrl (And.intro hnews (rowBv_one' vs)))
    have HVL := Lib.hid hvl
    clear hvt hvo hvl hrl hnews h hlt hb0
    go_enter Try.func15, Try.ntmps15
    go_wp2_with (at_builtin; refine wpList_append_own _ rfl _ _ 22 rfl w.heap.size 50 i0 (.agg #[.string ⟨#[]⟩, .int .i64 0, .string ⟨#[]⟩, .int .i64 0, .slice none 0 0]) 5 72 Try.underlying22 hi hz0 hz1 hz2 rfl (by decide) _ 0 _ rfl (World.ownsRow_nil _ _ _ _) ad bs.length c (rowBv vs) rfl H1.out.1 H1.out.2.1 H1.out.2.2 ?ap3 ?ap4 ?ap5 ?_)
    case ap3 => unfold maxLen; omega
    case ap4 => omega
    case ap5 => omega
    intro v1 w1 hown hgrow hnil
    have hb : Below w.heap.size w w1 := (Below.refl _ _).grown hgrow (Nat.le_refl _) (fun k hk => by cases hk)
    by_cases h0 : bs = []
    · subst h0
      obtain rfl : v1 = .slice none 0 0 := hnil.2 rfl
      have HB := Lib.hid hb
      clear hown hgrow hnil hb
      go_wp2_with fail
      refine (SN.out _).mono ?_; rintro e w2 ⟨rfl, rfl⟩
      go_wp2_with fail
      refine (CN.out _).mono ?_; rintro e w2 ⟨rfl, rfl⟩
      go_wp2_with fail
      go_ret
      exact ⟨_, rfl, hold_none _ _ _, HB.out⟩
    · have hpos : 0 < bs.length := List.length_pos_iff.2 h0
      obtain ⟨_, ⟨rfl, hz⟩ | ⟨g, cap, cur, rfl, hg1, hgb, hgn, hgm, hgs, htake⟩⟩ := hown
      · exact absurd (hnil.1 rfl) h0
      have hgl : g < w1.heap.size := (Array.getElem?_eq_some_iff.1 hgb).1
      have hds : vs.toArray.size = bs.length := by rw [List.size_toArray]; exact HVL.out
      have hH : HoldsK Bv.cells 5 w1 g 0 vs.toArray := holdsK_own hgb (by rw [hds]; exact htake)
      have S := sortSt_any g cap vs.toArray w1 hH hgl (by rw [hds]; exact hlen)
      rw [hds] at S
      have HS := Lib.hid S
      have HH := Lib.hid (And.intro hH (And.intro hgl (And.intro hb hg1)))
      have HN := Lib.hid hgn
      have HPOS := Lib.hid hpos
      clear S hgrow hnil hgb hgs htake hds hH hgl hb hpos h0 hgm hgn hg1
      go_wp2_with fail
      refine HS.out.mono ?_; rintro e w2 ⟨rfl, d2, h1, h2, h3⟩
      have hs2 : d2.size = bs.length := by rw [h1.1, List.size_toArray]; exact HVL.out
      have K := compactB_any g cap d2 w2 (h3.holds HH.out.2.1 HH.out.1 h1.1) (Nat.lt_of_lt_of_le HH.out.2.1 h3.le) (by rw [hs2]; exact HN.out) (by rw [hs2]; exact hlen)
      rw [hs2] at K
      have HK := Lib.hid K
      have H2 := Lib.hid (And.intro h1 (And.intro h2 h3))
      clear K h1 h2 h3 hs2
      go_wp2_with fail
      refine HK.out.mono ?_; rintro e w3 ⟨d3, q, rfl, hq, h4, h5, h6⟩
      have hf := hold_of HV.out.2 HH.out.2.2.1 HH.out.2.2.2 HVL.out HN.out HPOS.out HH.out.2.1 HH.out.1 H2.out.1 H2.out.2.1 H2.out.2.2 hq h4 h5 h6
      rw [HV.out.1] at hf
      have HF := Lib.hid hf
      clear hf hq h4 h5 h6
      go_wp2_with fail
      go_ret
      exact ⟨_, rfl, HF.out.1, HF.out.2⟩
end Go.Proofs.Ytcoaneipajadiaa
