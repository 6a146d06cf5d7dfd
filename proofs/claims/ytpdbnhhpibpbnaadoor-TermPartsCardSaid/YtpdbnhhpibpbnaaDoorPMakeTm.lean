/-
  Rows and terms that the program makes: copied, Var, Fun.
-/
import Derived.Test.YtpdbnhhpibpbnaaDoorSortTm
import Derived.Test.YtpdbnhhpibpbnaaDoorPCmpTm
namespace Go.Proofs.YtpdbnhhpibpbnaaDoor
open Go.RowKit

/-- A row in memory as values: their cells, one behind the other. -/
theorem rowAt_vs {w : World} : ∀ {ts : List Tm} {b o : Nat}, RowAt w ts b o → ∃ vs : List Tv, vs.map Tv.t = ts ∧ (∀ x ∈ vs, x.ok w) ∧ ∀ q x, (rowTv vs)[q]? = some x → w.cell? ⟨b, o + q, none⟩ = some x
  | [], _, _, _ => ⟨[], rfl, (fun _ h => by cases h), (fun q x h => by simp [rowTv] at h)⟩
  | t :: r, b, o, h => by
    rw [RowAt] at h
    obtain ⟨u, hu, huk, c0, c1, c2, c3⟩ := tmAt_tv h.1
    obtain ⟨vs, hv, hvk, hc⟩ := rowAt_vs h.2
    refine ⟨u :: vs, by rw [List.map_cons, hu, hv], fun x hx => ?_, fun q x hq => ?_⟩
    · rcases List.mem_cons.1 hx with rfl | hx
      · exact huk
      · exact hvk x hx
    · have e : rowTv (u :: vs) = u.cells ++ rowTv vs := by unfold rowTv; rw [List.flatMap_cons]
      rw [e] at hq
      rcases Nat.lt_or_ge q 4 with h4 | h4
      · rw [List.getElem?_append_left (by simpa [Tv.cells] using h4)] at hq
        rcases (show q = 0 ∨ q = 1 ∨ q = 2 ∨ q = 3 from by omega) with rfl | rfl | rfl | rfl
        all_goals
          simp only [Tv.cells, List.getElem?_cons_zero, List.getElem?_cons_succ, Option.some.injEq] at hq
          subst hq
          assumption
      · rw [List.getElem?_append_right (by simpa [Tv.cells] using h4)] at hq
        have := hc (q - 4) x (by simpa [Tv.cells] using hq)
        rw [show o + 4 + (q - 4) = o + q from by omega] at this
        exact this
theorem addr_row (b o q : Nat) : ((⟨b, o, none⟩ : Addr).add q) = ⟨b, o + q, none⟩ := by
  unfold Addr.add; split
  · next h => subst h; rfl
  · rfl

/-- A row that the call itself has made, behind a store into a block that lay before. -/
theorem own_setCell {w : World} {base : Nat} {e : TypeId} {size : Nat} {v : Value} {n : Nat} {xs : List Value} (h : w.ownsRow base e size v n xs) {p : Addr} (hp : p.block < base) (u : Value) : (w.setCell p u).ownsRow base e size v n xs := by
  obtain ⟨hn, h⟩ := h
  refine ⟨hn, ?_⟩
  rcases h with h | ⟨g, cap, cur, rfl, hbb, hg, hr⟩
  · exact .inl h
  · exact .inr ⟨g, cap, cur, rfl, hbb, by rw [Below.heap_setCell _ _ _ _ (by omega)]; exact hg, hr⟩

set_option maxRecDepth 100000 in
set_option maxHeartbeats 1000000 in
theorem copied_tm (v : Value) (ts : List Tm) (w0 w : World) (hv : Tms w0 v ts) (hb0 : Below w0.heap.size w0 w) (hlen : ts.length ≤ 1000000) :
    Calls Tryd.prog 47 #[v] w fun e w' => ∃ u, e = .returned u ∧ OwnTv w0 w' w.heap.size u ts ∧ (u = .slice none 0 0 ↔ ts = []) ∧ Below w.heap.size w w' := by
  obtain ⟨i0, hi, hz0, hz1, hz2⟩ := info_parts termInfo
  obtain ⟨a, c, rfl, hl, h⟩ := hv
  cases a with
  | none =>
    obtain rfl : ts = [] := by
      rcases h with h | ⟨b, o, ha, _⟩
      · exact h
      · cases ha
    go_enter Tryd.func47, Tryd.ntmps47
    go_wp2_with (at_builtin; refine wpList_append_own_none rfl _ _ 22 rfl w.heap.size 24 i0 4 Tryd.underlying22 hi _ 0 _ rfl (World.ownsRow_nil _ _ _ _) rfl ?_)
    go_wp2_with fail
    go_ret
    exact ⟨_, rfl, ⟨[], rfl, (fun x hx => by cases hx), World.ownsRow_nil _ _ _ _⟩, by simp, Below.refl _ _⟩
  | some ad =>
    obtain ⟨vs, hvt, hvo, hlt, hnews⟩ : ∃ vs : List Tv, vs.map Tv.t = ts ∧ (∀ x ∈ vs, x.ok w0) ∧ (0 < ts.length → ad.block < w.heap.size) ∧ ∀ q x, (rowTv vs)[q]? = some x → w.cell? (ad.add q) = some x := by
      rcases h with rfl | ⟨b, o, ha, hlt, hr⟩
      · exact ⟨[], rfl, (fun x hx => by cases hx), by simp, fun q x h => by simp [rowTv] at h⟩
      · cases ha
        obtain ⟨vs, hvt, hvo, hc⟩ := rowAt_vs hr
        exact ⟨vs, hvt, hvo, fun _ => Nat.lt_of_lt_of_le hlt hb0.size, fun q x hq => by rw [addr_row]; exact (hb0.cell (p := ⟨b, o + q, none⟩) hlt).trans (hc q x hq)⟩
    have hvl : vs.length = ts.length := by rw [← hvt, List.length_map]
    have hrl : (rowTv vs).length = ts.length * 4 := by rw [rowTv_length, hvl]
    have HV := Lib.hid (And.intro hvt hvo)
    have H1 := Lib.hid (And.intro hrl (And.intro hnews (rowTv_one' vs)))
    clear hvt hvo hvl hrl hnews h hlt hb0
    go_enter Tryd.func47, Tryd.ntmps47
    go_wp2_with (at_builtin; refine wpList_append_own _ rfl _ _ 22 rfl w.heap.size 24 i0 (.agg #[.int .i64 0, .string ⟨#[]⟩, .int .i64 0, .slice none 0 0]) 4 56 Tryd.underlying22 hi hz0 hz1 hz2 rfl (by decide) _ 0 _ rfl (World.ownsRow_nil _ _ _ _) ad ts.length c (rowTv vs) rfl H1.out.1 H1.out.2.1 H1.out.2.2 ?ap3 ?ap4 ?ap5 ?_)
    case ap3 => unfold maxLen; omega
    case ap4 => omega
    case ap5 => omega
    intro v1 w1 hown hgrow hnil
    have hb : Below w.heap.size w w1 := (Below.refl _ _).grown hgrow (Nat.le_refl _) (fun k hk => by cases hk)
    have HO := Lib.hid hown
    have HN := Lib.hid hnil
    clear hown hgrow hnil
    go_wp2_with fail
    go_ret
    exact ⟨_, rfl, ⟨vs, HV.out.1, HV.out.2, HO.out⟩, HN.out, hb⟩

set_option maxHeartbeats 400000 in
theorem pvar_any (s : ByteArray) (w : World) :
    Calls Tryd.prog 34 #[.string s] w fun e w' => e = .returned (.agg #[.int .i64 1, .string s, .int .i64 0, .slice none 0 0]) ∧ Below w.heap.size w w' := by
  go_enter Tryd.func34, Tryd.ntmps34
  go_wp2_with fail
  exact bodyPost_ret (v := .agg #[.int .i64 1, .string s, .int .i64 0, .slice none 0 0]) (by simp [results, Tryd.results34, go_sem]) rfl ⟨rfl, (Below.refl _ _).alloc (Nat.le_refl _) _⟩

set_option maxHeartbeats 1000000 in
theorem pfun_any (s : ByteArray) (v : Value) (ts : List Tm) (w : World) (hs : s.size ≤ 1000) (hv : Tms w v ts) (hl : ts.length ≤ 100) :
    Calls Tryd.prog 33 #[.string s, v] w fun e w' => ∃ x : Tv, e = .returned x.val ∧ x.t = .mk 5 s 0 ts ∧ x.ok w' ∧ Below w.heap.size w w' := by
  have hb1 : Below w.heap.size w (w.alloc (.cells #[.int .i64 0, .string ⟨#[]⟩, .int .i64 0, .slice none 0 0] 24)) := (Below.refl _ _).alloc (Nat.le_refl _) _
  have hbx := (box_new w (.int .i64 0) (.string ⟨#[]⟩) (.int .i64 0) (.slice none 0 0) 24)
  have hsz : w.heap.size < (w.alloc (.cells #[.int .i64 0, .string ⟨#[]⟩, .int .i64 0, .slice none 0 0] 24)).heap.size := by simp
  have C := Lib.hid (copied_tm v ts w (w.alloc (.cells #[.int .i64 0, .string ⟨#[]⟩, .int .i64 0, .slice none 0 0] 24)) hv hb1 (by omega))
  obtain ⟨a, c, rfl, hl2, h⟩ := hv
  clear h
  go_enter Tryd.func33, Tryd.ntmps33
  go_wp2_with fail
  refine C.out.mono ?_; rintro e w2 ⟨u, rfl, hown, _, hb2⟩
  obtain ⟨c0, c1, c2, c3, f0, f1, f2, f3⟩ := hbx.below hb2 hsz
  have hb := below_next hb1 hb2
  have hub : ∀ p0 p1 p2 p3 : Value, OwnTv w ((((w2.setCell ⟨w.heap.size, 0, none⟩ p0).setCell ⟨w.heap.size, 1, none⟩ p1).setCell ⟨w.heap.size, 2, none⟩ p2).setCell ⟨w.heap.size, 3, none⟩ p3) w.heap.size u ts := fun p0 p1 p2 p3 => by
    obtain ⟨vs, hvt, hvo, hr⟩ := hown
    exact ⟨vs, hvt, hvo, own_lower (own_setCell (own_setCell (own_setCell (own_setCell hr hsz _) hsz _) hsz _) hsz _) (by simp)⟩
  have hbb : ∀ p0 p1 p2 p3 : Value, Below w.heap.size w ((((w2.setCell ⟨w.heap.size, 0, none⟩ p0).setCell ⟨w.heap.size, 1, none⟩ p1).setCell ⟨w.heap.size, 2, none⟩ p2).setCell ⟨w.heap.size, 3, none⟩ p3) := fun p0 p1 p2 p3 => ((((hb.setCell (Nat.le_refl _) _).setCell (Nat.le_refl _) _).setCell (Nat.le_refl _) _).setCell (Nat.le_refl _) _)
  have htm := fun p0 p1 p2 p3 => (hub p0 p1 p2 p3).tms (hbb p0 p1 p2 p3) hl2
  obtain ⟨a2, n2, k2, rfl⟩ : ∃ a2 n2 k2, u = .slice a2 n2 k2 := by
    obtain ⟨a2, k2, e, _⟩ := htm .nilFunc .nilFunc .nilFunc .nilFunc
    exact ⟨a2, _, k2, e⟩
  have HT := Lib.hid htm
  have HB := Lib.hid hbb
  clear hown hbx C htm hub hbb hb hb1 hb2 hsz
  go_wp2_with fail
  obtain ⟨a3, k3, e3, ha3⟩ := HT.out (.int .i64 5) (.string s) (.int .i64 0) (.slice a2 n2 k2)
  cases e3
  exact bodyPost_ret (v := .agg #[.int .i64 5, .string s, .int .i64 0, .slice a2 ts.length k2]) (by simp [results, Tryd.results33, go_sem, c0, c1, c2, c3]) rfl ⟨⟨.mk 5 s 0 ts, a2, k2⟩, rfl, rfl, ⟨⟨by simp [Tm.kind], by simp [Tm.kind], by simp [Tm.n], by simp [Tm.n], by simp only [Tm.name]; omega⟩, ha3⟩, HB.out _ _ _ _⟩
end Go.Proofs.YtpdbnhhpibpbnaaDoor
