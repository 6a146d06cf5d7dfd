/-
  Binds in order, by the program's Of: a copy, the library's stable sort, and of each name the first one.
-/
import Derived.Test.YtcecbdglepneaaaPNameBd
import Derived.Test.YtcecbdglepneaaaPStb
import Derived.Test.YtcecbdglepneaaaHoldPu
import Derived.Maps.AppendAt
namespace Go.Proofs.Ytcecbdglepneaaa
open Go.RowKit Go.Shelf Go.Lib Go.Sort

set_option maxRecDepth 100000 in
set_option maxHeartbeats 1000000 in
theorem ins_none (fv : Value) (w : World) : Calls Try.prog 54 #[.slice none 0 0, .int .i64 0, .int .i64 0, fv] w fun e w' => e = .returned (.tuple #[]) ∧ w = w' := by
  go_enter Try.func54, Try.ntmps54
  go_wp2
  refine wp_loop_rounds 1 ?_; rw [rounds_succ]
  go_wp2
  go_end0
  exact ⟨rfl, rfl⟩
set_option maxRecDepth 100000 in
set_option maxHeartbeats 1000000 in
theorem stb_none (fv : Value) (w : World) : Calls Try.prog 51 #[.slice none 0 0, .int .i64 0, fv] w fun e w' => e = .returned (.tuple #[]) ∧ w = w' := by
  have C := Lib.hid (ins_none fv)
  go_enter Try.func51, Try.ntmps51
  go_wp2_with fail
  refine wp_loop_rounds 1 ?_; rw [rounds_succ]
  go_wp2_with fail
  refine (C.out _).mono ?_; rintro e w' ⟨rfl, rfl⟩
  go_wp2_with fail
  refine wp_loop_rounds 1 ?_; rw [rounds_succ]
  go_wp2_with fail
  go_end0
  exact ⟨rfl, rfl⟩
set_option maxRecDepth 100000 in
set_option maxHeartbeats 1000000 in
theorem sortSt_none (fv : Value) (w : World) : Calls Try.prog 45 #[.slice none 0 0, fv] w fun e w' => e = .returned (.tuple #[]) ∧ w = w' := by
  have C := Lib.hid (stb_none fv)
  go_enter Try.func45, Try.ntmps45
  go_wp2_with fail
  refine (C.out _).mono ?_; rintro e w' ⟨rfl, rfl⟩
  go_wp2_with fail
  go_end0
  exact ⟨rfl, rfl⟩
set_option maxRecDepth 100000 in
set_option maxHeartbeats 1000000 in
theorem compactB_none (fv : Value) (w : World) : Calls Try.prog 46 #[.slice none 0 0, fv] w fun e w' => e = .returned (.slice none 0 0) ∧ w = w' := by
  go_enter Try.func46, Try.ntmps46
  go_wp2_with fail
  go_ret
  exact ⟨rfl, rfl⟩
set_option maxRecDepth 100000 in
set_option maxHeartbeats 1000000 in
theorem sortSt_any (g cap : Nat) (d : Array Bv) (w : World) (hH : HoldsK Bv.cells 5 w g 0 d) (hg : g < w.heap.size) (hsz : d.size ≤ 1000000) :
    Calls Try.prog 45 #[.slice (some ⟨g, 0, none⟩) d.size cap, .func (.func 40) #[] #[]] w fun e w' =>
      e = .returned (.tuple #[]) ∧ ∃ d', Stab (ltOf cfN) d d' ∧ SortedIn (ltOf cfN) 0 d.size d' ∧ SWK Bv.cells 5 w g 0 d' w' := by
  have eg : ∀ args w, (callFunc 40 args).run Try.prog w = .ok (.enter 40 args) w := enters_of Try.func40 (by kernel_rfl) rfl
  have C := Lib.hid (stb_gen tyB Try.func51 Try.func54 Try.func55 Try.func60 Try.func63 cfN 40 eg swoN g 0 cap d.size d d w w (cmpLaysN g 0 d.size w) (rowKBv hH hg) rfl hsz rfl (SWK.start hH))
  clear hH eg
  go_enter Try.func45, Try.ntmps45
  go_wp2_with fail
  refine C.out.mono ?_; rintro e w' ⟨rfl, d', h1, h2, h3⟩
  have HH := Lib.hid (And.intro h1 (And.intro h2 h3))
  clear h1 h2 h3
  go_wp2_with fail
  go_end0
  exact ⟨rfl, d', HH.out.1, HH.out.2.1, HH.out.2.2⟩
theorem compactB_any (g cap : Nat) (d : Array Bv) (w : World) (hH : HoldsK Bv.cells 5 w g 0 d) (hg : g < w.heap.size) (hcap : d.size ≤ cap) (hsz : d.size ≤ 1000000) :
    Calls Try.prog 46 #[.slice (some ⟨g, 0, none⟩) d.size cap, .func (.func 47) #[] #[]] w fun e w' =>
      ∃ (d' : Array Bv) (q : Nat), e = .returned (.slice (some ⟨g, 0, none⟩) q cap) ∧ q ≤ d.size ∧ d'.size = d.size ∧ d'.toList.take q = compA sameN d.toList ∧ SWK Bv.cells 5 w g 0 d' w' := by
  have eg : ∀ args w, (callFunc 47 args).run Try.prog w = .ok (.enter 47 args) w := enters_of Try.func47 (by kernel_rfl) rfl
  exact cpt_gen tyC Try.func46 sameN 47 eg zeroBv (.agg #[.string ⟨#[]⟩, .int .i64 0, .string ⟨#[]⟩, .int .i64 0, .slice none 0 0]) (fun _ => by kernel_rfl) (by rfl) g 0 cap d.size d d w w (eqLaysN g 0 d.size w) (rowKBv hH hg) (SWK.start hH) rfl rfl hcap hsz
theorem own_none (w0 w : World) (base : Nat) : OwnBv w0 w base (.slice none 0 0) [] := ⟨[], rfl, (fun _ h => nomatch h), World.ownsRow_nil _ _ _ _⟩
set_option maxRecDepth 100000 in
set_option maxHeartbeats 2000000 in
theorem of_own (v : Value) (bs : List Bn) (w0 w : World) (hv : Bds w0 v bs) (hb0 : Below w0.heap.size w0 w) (hlen : bs.length ≤ 1000000) :
    Calls Try.prog 35 #[v] w fun e w' => ∃ u, e = .returned u ∧ HoldBd w0 w' w.heap.size u (ofB bs) ∧ OwnBv w0 w' w.heap.size u (ofB bs) ∧ Below w.heap.size w w' := by
  obtain ⟨i0, hi, hz0, hz1, hz2⟩ := info_parts bindInfo
  have SN := Lib.hid (sortSt_none (.func (.func 40) #[] #[]))
  have CN := Lib.hid (compactB_none (.func (.func 47) #[] #[]))
  obtain ⟨a, c, rfl, hl, h⟩ := hv
  cases a with
  | none =>
    obtain rfl : bs = [] := by
      rcases h with h | ⟨b, o, ha, _⟩
      · exact h
      · cases ha
    go_enter Try.func35, Try.ntmps35
    go_wp2_with (at_builtin; refine wpList_append_own_none rfl _ _ 22 rfl w.heap.size 46 i0 5 Try.underlying22 hi _ 0 _ rfl (World.ownsRow_nil _ _ _ _) rfl ?_)
    go_wp2_with fail
    refine (SN.out _).mono ?_; rintro e w1 ⟨rfl, rfl⟩
    go_wp2_with fail
    refine (CN.out _).mono ?_; rintro e w1 ⟨rfl, rfl⟩
    go_wp2_with fail
    go_ret
    exact ⟨_, rfl, hold_none _ _ _, own_none _ _ _, Below.refl _ _⟩
  | some ad =>
    obtain ⟨vs, hvt, hvo, hlt, hnews⟩ : ∃ vs : List Bv, vs.map Bv.bn = bs ∧ (∀ x ∈ vs, x.v.ok w0 ∧ x.s.size ≤ 9223372036854775807) ∧ (0 < bs.length → ad.block < w.heap.size) ∧ ∀ q x, (rowBv vs)[q]? = some x → w.cell? (ad.add q) = some x := by
      rcases h with rfl | ⟨b, o, ha, hlt, hr⟩
      · exact ⟨[], rfl, (fun x hx => by cases hx), by simp, fun q x h => by simp [rowBv] at h⟩
      · cases ha
        obtain ⟨vs, hvt, hvo, hc⟩ := rows_vs hr
        exact ⟨vs, hvt, hvo, fun _ => Nat.lt_of_lt_of_le hlt hb0.size, fun q x hq => by rw [addr_row]; exact (hb0.cell (p := ⟨b, o + q, none⟩) hlt).trans (hc q x hq)⟩
    have hvl : vs.length = bs.length := by rw [← hvt, List.length_map]
    have hrl : (rowBv vs).length = bs.length * 5 := by rw [rowBv_length, hvl]
    have HV := Lib.hid (And.intro hvt hvo)
    have H1 := Lib.hid (And.intro hrl (And.intro hnews (rowBv_one' vs)))
    have HVL := Lib.hid hvl
    clear hvt hvo hvl hrl hnews h hlt hb0
    go_enter Try.func35, Try.ntmps35
    go_wp2_with (at_builtin; refine wpList_append_own _ rfl _ _ 22 rfl w.heap.size 46 i0 (.agg #[.string ⟨#[]⟩, .int .i64 0, .string ⟨#[]⟩, .int .i64 0, .slice none 0 0]) 5 72 Try.underlying22 hi hz0 hz1 hz2 rfl (by decide) _ 0 _ rfl (World.ownsRow_nil _ _ _ _) ad bs.length c (rowBv vs) rfl H1.out.1 H1.out.2.1 H1.out.2.2 ?ap3 ?ap4 ?ap5 ?_)
    case ap3 => unfold maxLen; omega
    case ap4 => omega
    case ap5 => omega
    intro v1 w1 hown hgrow hnil
    have hb : Below w.heap.size w w1 := (Below.refl _ _).grown hgrow (Nat.le_refl _) (fun k hk => by cases hk)
    by_cases h0 : bs = []
    · subst h0
      obtain rfl : v1 = .slice none 0 0 := hnil.2 rfl
      have HB := Lib.hid hb
      clear hown hgrow hnil hb
      go_wp2_with fail
      refine (SN.out _).mono ?_; rintro e w2 ⟨rfl, rfl⟩
      go_wp2_with fail
      refine (CN.out _).mono ?_; rintro e w2 ⟨rfl, rfl⟩
      go_wp2_with fail
      go_ret
      exact ⟨_, rfl, hold_none _ _ _, own_none _ _ _, HB.out⟩
    · have hpos : 0 < bs.length := List.length_pos_iff.2 h0
      obtain ⟨_, ⟨rfl, hz⟩ | ⟨g, cap, cur, rfl, hg1, hgb, hgn, hgm, hgs, htake⟩⟩ := hown
      · exact absurd (hnil.1 rfl) h0
      have hgl : g < w1.heap.size := (Array.getElem?_eq_some_iff.1 hgb).1
      have hds : vs.toArray.size = bs.length := by rw [List.size_toArray]; exact HVL.out
      have hH : HoldsK Bv.cells 5 w1 g 0 vs.toArray := holdsK_own hgb (by rw [hds]; exact htake)
      have S := sortSt_any g cap vs.toArray w1 hH hgl (by rw [hds]; exact hlen)
      rw [hds] at S
      have HS := Lib.hid S
      have HH := Lib.hid (And.intro hH (And.intro hgl (And.intro hb hg1)))
      have HN := Lib.hid hgn
      have HG := Lib.hid (And.intro hgb (And.intro hgm hgs))
      have HPOS := Lib.hid hpos
      clear S hgrow hnil hgb hgs htake hds hH hgl hb hpos h0 hgm hgn hg1
      go_wp2_with fail
      refine HS.out.mono ?_; rintro e w2 ⟨rfl, d2, h1, h2, h3⟩
      have hs2 : d2.size = bs.length := by rw [h1.1, List.size_toArray]; exact HVL.out
      have K := compactB_any g cap d2 w2 (h3.holds HH.out.2.1 HH.out.1 h1.1) (Nat.lt_of_lt_of_le HH.out.2.1 h3.le) (by rw [hs2]; exact HN.out) (by rw [hs2]; exact hlen)
      rw [hs2] at K
      have HK := Lib.hid K
      have H2 := Lib.hid (And.intro h1 (And.intro h2 h3))
      clear K h1 h2 h3 hs2
      go_wp2_with fail
      refine HK.out.mono ?_; rintro e w3 ⟨d3, q, rfl, hq, h4, h5, h6⟩
      have hf := hold_of HV.out.2 HH.out.2.2.1 HH.out.2.2.2 HVL.out HN.out HPOS.out HH.out.2.1 HH.out.1 H2.out.1 H2.out.2.1 H2.out.2.2 hq h4 h5 h6 HG.out.1 HG.out.2.1 HG.out.2.2
      rw [HV.out.1] at hf
      have HF := Lib.hid hf
      clear hf hq h4 h5 h6
      go_wp2_with fail
      go_ret
      exact ⟨_, rfl, HF.out.1, HF.out.2.1, HF.out.2.2⟩
theorem of_bd (v : Value) (bs : List Bn) (w0 w : World) (hv : Bds w0 v bs) (hb0 : Below w0.heap.size w0 w) (hlen : bs.length ≤ 1000000) :
    Calls Try.prog 35 #[v] w fun e w' => ∃ u, e = .returned u ∧ HoldBd w0 w' w.heap.size u (ofB bs) ∧ Below w.heap.size w w' :=
  (of_own v bs w0 w hv hb0 hlen).mono fun _ _ ⟨u, h1, h2, _, h4⟩ => ⟨u, h1, h2, h4⟩
end Go.Proofs.Ytcecbdglepneaaa
