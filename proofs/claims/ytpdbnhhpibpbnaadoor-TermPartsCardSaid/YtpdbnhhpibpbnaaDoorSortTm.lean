/-
  Terms in order, and each once, by the reference of layer 3: Sort, Set, for rows of terms in memory that are not too long.
-/
import Derived.Test.YtpdbnhhpibpbnaaDoorCmpTm
import Derived.Test.YtpdbnhhpibpbnaaDoorSmallTm
import Derived.Laws.AppendOwnNone
import Derived.Deep.RegionWith
import Derived.BigQuiet
import Derived.Deep.QuietTactic
namespace Go.Proofs.YtpdbnhhpibpbnaaDoor
open Go.RowKit

/-- What isn't behind t. -/
def notBehind (t x : Tm) : Bool := decide (cmpT x t ≤ 0)
/-- One more, put in behind all that isn't behind it. -/
def insT (l : List Tm) (t : Tm) : List Tm := l.takeWhile (notBehind t) ++ t :: l.dropWhile (notBehind t)
def sortL (l : List Tm) : List Tm := l.foldl insT []
theorem sortL_take {l : List Tm} {k : Nat} (h : k < l.length) : sortL (l.take (k + 1)) = insT (sortL (l.take k)) l[k] := by
  unfold sortL; rw [List.take_succ_eq_append_getElem h, List.foldl_append]; rfl
theorem insT_len (l : List Tm) (t : Tm) : (insT l t).length = l.length + 1 := by
  unfold insT
  have := congrArg List.length (List.takeWhile_append_dropWhile (p := notBehind t) (l := l))
  rw [List.length_append] at this
  rw [List.length_append, List.length_cons]; omega
theorem sortL_len (l : List Tm) : (sortL l).length = l.length := by
  have : ∀ (l acc : List Tm), (l.foldl insT acc).length = acc.length + l.length := by
    intro l
    induction l with
    | nil => intro acc; simp
    | cons x r ih => intro acc; rw [List.foldl_cons, ih, insT_len, List.length_cons]; omega
  have := this l []
  simpa [sortL] using this
/-- The first k aren't behind t. -/
def PassTo (l : List Tm) (t : Tm) (k : Nat) : Prop := ∀ j (h : j < l.length), j < k → cmpT l[j] t ≤ 0
theorem PassTo.succ {l : List Tm} {t : Tm} {k : Nat} (h : PassTo l t k) (hk : k < l.length) (hs : cmpT l[k] t ≤ 0) : PassTo l t (k + 1) := by
  intro j hj hjk
  by_cases e : j = k
  · subst e; exact hs
  · exact h j hj (by omega)
theorem tw_pass : ∀ {l : List Tm} {t : Tm} {k : Nat}, PassTo l t k → k ≤ l.length → (∀ h : k < l.length, ¬ cmpT l[k] t ≤ 0) → l.takeWhile (notBehind t) = l.take k ∧ l.dropWhile (notBehind t) = l.drop k
  | [], _, k, _, _, _ => by simp
  | x :: r, t, 0, _, _, hn => by
    have h0 := hn (by simp)
    simp only [List.getElem_cons_zero] at h0
    have hb : notBehind t x = false := by unfold notBehind; exact decide_eq_false h0
    rw [List.takeWhile_cons_of_neg (by rw [hb]; simp), List.dropWhile_cons_of_neg (by rw [hb]; simp)]
    exact ⟨rfl, rfl⟩
  | x :: r, t, k + 1, h, hk, hn => by
    have h0 := h 0 (by simp) (by omega)
    simp only [List.getElem_cons_zero] at h0
    have hb : notBehind t x = true := by unfold notBehind; exact decide_eq_true h0
    have ih := tw_pass (l := r) (t := t) (k := k) (fun j hj hjk => by
      have := h (j + 1) (by simpa using hj) (by omega)
      simpa using this) (by simpa using hk) (fun hl => by
      have := hn (by simpa using hl)
      simpa using this)
    rw [List.takeWhile_cons_of_pos hb, List.dropWhile_cons_of_pos hb, ih.1, ih.2]
    exact ⟨rfl, rfl⟩
theorem insT_at {l : List Tm} {t : Tm} {k : Nat} (h : PassTo l t k) (hk : k ≤ l.length) (hn : ∀ h : k < l.length, ¬ cmpT l[k] t ≤ 0) : insT l t = l.take k ++ t :: l.drop k := by
  unfold insT; obtain ⟨h1, h2⟩ := tw_pass h hk hn; rw [h1, h2]

/-- Where a slice of terms begins that is cut from l on. -/
def cutAd (g o cap l : Nat) : Addr := if cap = l then ⟨g, o, none⟩ else ⟨g, o + l * 4, none⟩
theorem cutAd_of {g o cap l : Nat} (h : l < cap) : cutAd g o cap l = ⟨g, o + l * 4, none⟩ := by unfold cutAd; rw [if_neg (by omega)]
theorem cutad_from (g o len cap l : Nat) (hl : l ≤ len) (w : World) :
    (Instr.slice 22 (.slice (some ⟨g, o, none⟩) len cap) (some (.int .i64 (l : Int))) none none).run Tryd.prog w = .ok (.slice (some (cutAd g o cap l)) (len - l) (cap - l)) w := by
  have hu := Tryd.underlying22
  have hz := Tryd.sizeOf24
  have he : Tryd.prog.elem 22 = 24 := by kernel_rfl
  rw [run_slice_l w 22 _ len cap (by rw [he]; exact hu) .i64 l (by omega) (by omega), he]
  simp only [hz, Result.andThen, sliced, Int.toNat_natCast]
  unfold cutAd
  by_cases h : cap = l
  · rw [if_pos h, if_pos h]
  · rw [if_neg h, if_neg h]
    have : (Option.map (fun x => x.add (l * 4)) (some (⟨g, o, none⟩ : Addr))) = some ⟨g, o + l * 4, none⟩ := by
      simp only [Option.map_some]
      unfold Addr.add
      split
      · next h0 => rw [h0]; rfl
      · rfl
    rw [this]
theorem cutad_to (g o len cap h : Nat) (hh : h ≤ cap) (h0 : 0 < cap) (w : World) :
    (Instr.slice 22 (.slice (some ⟨g, o, none⟩) len cap) none (some (.int .i64 (h : Int))) none).run Tryd.prog w = .ok (.slice (some ⟨g, o, none⟩) h cap) w := by
  have hu := Tryd.underlying22
  have hz := Tryd.sizeOf24
  have he : Tryd.prog.elem 22 = 24 := by kernel_rfl
  rw [run_slice_h w 22 _ len cap (by rw [he]; exact hu) .i64 h (by omega) (by omega), he]
  simp only [hz, Result.andThen, sliced, Int.toNat_natCast]
  rw [if_neg (by omega)]
  rfl
theorem rowTv_take (vs : List Tv) (k : Nat) : (rowTv vs).take (k * 4) = rowTv (vs.take k) := by
  induction vs generalizing k with
  | nil => simp [rowTv]
  | cons v r ih =>
    cases k with
    | zero => simp [rowTv]
    | succ k =>
      have e : rowTv (v :: r) = v.cells ++ rowTv r := by unfold rowTv; rw [List.flatMap_cons]
      have e2 : rowTv ((v :: r).take (k + 1)) = v.cells ++ rowTv (r.take k) := by rw [List.take_succ_cons]; unfold rowTv; rw [List.flatMap_cons]
      rw [e, e2, ← ih k, show (k + 1) * 4 = v.cells.length + k * 4 from by simp [Tv.cells]; omega, List.take_length_add_append]
theorem rowTv_drop (vs : List Tv) (k : Nat) : (rowTv vs).drop (k * 4) = rowTv (vs.drop k) := by
  induction vs generalizing k with
  | nil => simp [rowTv]
  | cons v r ih =>
    cases k with
    | zero => simp
    | succ k =>
      have e : rowTv (v :: r) = v.cells ++ rowTv r := by unfold rowTv; rw [List.flatMap_cons]
      rw [e, List.drop_succ_cons, ← ih k, show (k + 1) * 4 = v.cells.length + k * 4 from by simp [Tv.cells]; omega, List.drop_length_add_append]
/-- The cells of a row that the call itself has made. -/
theorem own_row_cells {w : World} {base : Nat} {e : TypeId} {g n cap : Nat} {vs : List Tv} (h : w.ownsRow base e 4 (.slice (some ⟨g, 0, none⟩) n cap) n (rowTv vs)) : ∀ q x, (rowTv vs)[q]? = some x → w.cell? ⟨g, q, none⟩ = some x := by
  intro q x hq
  obtain ⟨hn, ⟨h, _⟩ | ⟨g', cap', cur, hv, _, hgc, _, _, _, hgt⟩⟩ := h
  · cases h
  · cases hv
    have hql : q < (rowTv vs).length := (List.getElem?_eq_some_iff.1 hq).1
    rw [cell_of_row w g q cur _ (0, 0) hgc, ← hq, ← hgt, List.getElem?_take, if_pos (by omega)]
    simp
theorem own_tvAt {w : World} {base : Nat} {e : TypeId} {g n cap : Nat} {vs : List Tv} (h : w.ownsRow base e 4 (.slice (some ⟨g, 0, none⟩) n cap) n (rowTv vs)) {k : Nat} (hk : k < vs.length) : TvAt w g (0 + k * 4) vs[k] := by
  have c : ∀ i, i < 4 → w.cell? ⟨g, 0 + k * 4 + i, none⟩ = vs[k].cells[i]? := fun i hi => by
    have hr := rowTv_get vs k hk i hi
    have hs : ∃ x, vs[k].cells[i]? = some x := ⟨vs[k].cells[i]'(by simp [Tv.cells]; omega), List.getElem?_eq_getElem _⟩
    obtain ⟨x, hx⟩ := hs
    rw [hx] at hr ⊢
    rw [Nat.zero_add]
    exact own_row_cells h _ x hr
  exact ⟨c 0 (by omega), c 1 (by omega), c 2 (by omega), c 3 (by omega)⟩

theorem tv_one (u : Tv) : ∀ x ∈ [Value.int .i64 u.t.kind, .string u.t.name, .int .i64 u.t.n, .slice u.a u.t.args.length u.c], x.oneCell' = true := by
  intro x hx; simp at hx; rcases hx with rfl | rfl | rfl | rfl <;> rfl

set_option maxRecDepth 100000 in
set_option maxHeartbeats 8000000 in
theorem sort_tm (v : Value) (ts : List Tm) (w : World) (hv : Tms w v ts) (hlen : ts.length ≤ 1000) (hpt : ∀ t ∈ ts, t.parts ≤ 100000) :
    Calls Tryd.prog 22 #[v] w fun e w' => ∃ u, e = .returned u ∧ OwnTv w w' w.heap.size u (sortL ts) ∧ Below w.heap.size w w' := by
  obtain ⟨i0, hi, hz0, hz1, hz2⟩ := info_parts termInfo
  obtain ⟨a, c, rfl, hl, h⟩ := hv.open_
  clear hv
  rcases h with rfl | ⟨b, off, rfl, hlt, hc⟩
  · go_enter Tryd.func22, Tryd.ntmps22
    go_wp2
    refine wp_loop_rounds 1 ?_; rw [rounds_succ]
    go_wp2
    go_ret
    exact ⟨_, rfl, ⟨[], rfl, (fun x hx => by cases hx), World.ownsRow_nil _ _ _ _⟩, Below.refl _ _⟩
  · have HC0 := Lib.hid hc
    have CMP := Lib.hid (fun (x y : Tv) w hx hy => compare_tm x.t.parts x y w (Nat.le_refl _) hx hy)
    clear hc hpt
    go_enter Tryd.func22, Tryd.ntmps22
    go_wp2
    go_loopw [3, 10] (fun o i wr => ∃ (k : Nat) (vs : List Tv), k ≤ ts.length ∧ i = .int .i64 k ∧ vs.map Tv.t = sortL (ts.take k) ∧ (∀ x ∈ vs, x.ok w) ∧ ((vs = [] ∧ o = .slice none 0 0) ∨ vs ≠ []) ∧
      wr.ownsRow w.heap.size 24 4 o vs.length (rowTv vs) ∧ Below w.heap.size w wr) (fun _ i _ => ts.length - (intOf i).toNat)
    case atStart => exact ⟨0, [], Nat.zero_le _, rfl, rfl, (fun x hx => by cases hx), .inl ⟨rfl, rfl⟩, World.ownsRow_nil _ _ _ _, Below.refl _ _⟩
    case round =>
      obtain ⟨k, vs, hk, rfl, hvt, hvo, hvn, hown, hb⟩ := hrel
      have hbs := hb.size
      by_cases hkl : k < ts.length
      · have hil : (k : Int) < (ts.length : Int) := by omega
        obtain ⟨u, hu, huk, hat⟩ := HC0.out k hkl
        obtain ⟨d0, d1, d2, d3⟩ := hat.below hb
        have hvl : vs.length ≤ 1000 := by
          have := congrArg List.length hvt
          rw [List.length_map, sortL_len, List.length_take] at this; omega
        have HU := Lib.hid hu
        have HUK := Lib.hid huk
        have HVT := Lib.hid hvt
        have HVO := Lib.hid hvo
        have HOWN := Lib.hid hown
        clear hu huk hat hvt hvo
        rcases hvn with ⟨rfl, rfl⟩ | hvn
        · clear hown
          go_wp2
          refine wp_loop_rounds 1 ?_; rw [rounds_succ]
          go_wp2
          go_quiet (fail)
          go_wp2_with (at_builtin; refine wpList_append_own _ rfl _ _ 22 rfl w.heap.size 24 i0 (.agg #[.int .i64 0, .string ⟨#[]⟩, .int .i64 0, .slice none 0 0]) 4 56 Tryd.underlying22 hi hz0 hz1 hz2 rfl (by decide) _ 0 _ rfl (World.ownsRow_nil _ _ _ _) ⟨wr.heap.size + 1, 0, none⟩ 1 1 [.int .i64 u.t.kind, .string u.t.name, .int .i64 u.t.n, .slice u.a u.t.args.length u.c] rfl rfl ?n1 (tv_one u) ?n3 ?n4 ?n5 ?_)
          case n1 => exact new_row4 _ _ (by simp) _ _ _ _ _
          case n3 => unfold maxLen; omega
          case n4 => omega
          case n5 => simp; omega
          intro v2 w7 hown7 hgrow7 _
          have hb7 : Below w.heap.size w w7 := by
            refine Below.grown ?_ hgrow7 (by simp; omega) (fun q hq => by cases hq)
            exact (below_drewN (hb.alloc hbs _) _).alloc (by simp; omega) _
          have HB7 := Lib.hid hb7
          have hown7' : w7.ownsRow w.heap.size 24 4 v2 1 (rowTv [u]) := by rw [rowTv_one]; exact hown7
          have HO7 := Lib.hid hown7'
          clear hgrow7 hb7 hown7'
          go_wp2_with (at_builtin; refine wpList_append_own_none rfl _ _ 22 rfl w.heap.size 24 i0 4 Tryd.underlying22 hi _ 1 _ rfl hown7 rfl ?_)
          clear hown7
          go_wp2_with fail
          go_roundw
          case rel =>
            refine ⟨k + 1, [u], by omega, by go_num, ?_, ?_, .inr (by simp), HO7.out, HB7.out⟩
            · rw [sortL_take hkl, ← HU.out, ← HVT.out]; rfl
            · intro x hx; rw [List.mem_singleton.1 hx]; exact HUK.out
          case measure => simp [intOf]; omega
        · obtain ⟨wo, hwo⟩ : ∃ wo, wo = wr := ⟨wr, rfl⟩
          subst hwo
          obtain ⟨hrl, h0 | ⟨g, cap, cur, rfl, hg1, hgg, hgn, hgm, _, _⟩⟩ := hown
          · exfalso; exact hvn (List.eq_nil_of_length_eq_zero h0.2)
          have hglt : g < wo.heap.size := by
            rcases Nat.lt_or_ge g wo.heap.size with h | h
            · exact h
            · rw [Array.getElem?_eq_none h] at hgg; cases hgg
          have hvpos : 0 < vs.length := List.length_pos_iff.2 hvn
          clear hrl hgg
          go_wp2
          go_loopw [6] (fun i wr => ∃ j : Nat, j ≤ vs.length ∧ i = .int .i64 j ∧ PassTo (vs.map Tv.t) u.t j ∧ Below (wo.heap.size + 1) (wo.alloc (.cells #[.int .i64 u.t.kind, .string u.t.name, .int .i64 u.t.n, .slice u.a u.t.args.length u.c] 24)) wr) (fun i _ => vs.length - (intOf i).toNat)
          case atStart => exact ⟨0, Nat.zero_le _, rfl, (fun j hj hk => by omega), Below.refl _ _⟩
          case round =>
            obtain ⟨j, hj, rfl, hpass, hbx0⟩ := hrel
            have HPASS := Lib.hid hpass
            have hbxs := hbx0.size
            simp at hbxs
            have hbwx : Below wo.heap.size wo wr := below_pair hbx0
            clear hpass
            by_cases hjl : j < vs.length
            · have hjl' : (j : Int) < (vs.length : Int) := by omega
              obtain ⟨y, hy⟩ : ∃ y, y = vs[j] := ⟨_, rfl⟩
              have hyat := own_tvAt (own_below HOWN.out hbwx) hjl
              rw [← hy, Nat.zero_add] at hyat
              obtain ⟨e0, e1, e2, e3⟩ := hyat
              have hyk : y.ok wr := ((HVO.out y (by rw [hy]; exact List.getElem_mem hjl)).below hb).below hbwx
              have huk : u.ok wr := (HUK.out.below hb).below hbwx
              obtain ⟨x0, x1, x2, x3, _, _, _, _⟩ := (box_new wo (.int .i64 u.t.kind) (.string u.t.name) (.int .i64 u.t.n) (.slice u.a u.t.args.length u.c) 24).below hbx0 (by omega)
              have C := Lib.hid (CMP.out y u wr.drew hyk.drew huk.drew)
              have hwl : wo.heap.size < wr.heap.size := by omega
              simp only [Tv.val] at C
              have HY := Lib.hid hy
              clear hy hyk huk
              obtain ⟨r, hr⟩ : ∃ r, r = cmpT y.t u.t := ⟨_, rfl⟩
              rw [← hr] at C
              have HR := Lib.hid hr
              clear hr
              by_cases hr0 : r ≤ 0
              · go_wp2
                go_still_tail 10, (by kernel_rfl)
                go_wp2_with fail
                refine C.out.mono ?_; rintro e w5 ⟨rfl, hb5⟩
                go_wp2_with fail
                go_roundw
                case rel => exact ⟨j + 1, by omega, by go_num, HPASS.out.succ (by simpa using hjl) (by rw [List.getElem_map, ← HY.out, ← HR.out]; exact hr0), hbx0.drew.trans (hb5.mono (by show _ ≤ wr.heap.size; omega))⟩
                case measure => simp [intOf]; omega
              · go_wp2
                go_still_tail 10, (by kernel_rfl)
                go_wp2_with fail
                refine C.out.mono ?_; rintro e w5 ⟨rfl, hb5⟩
                have HFIN := Lib.hid (insT_at HPASS.out (by simpa using hj) (fun h => by rw [List.getElem_map, ← HY.out, ← HR.out]; omega))
                have hbx1 : Below (wo.heap.size + 1) (wo.alloc (.cells #[.int .i64 u.t.kind, .string u.t.name, .int .i64 u.t.n, .slice u.a u.t.args.length u.c] 24)) w5 := hbx0.drew.trans (hb5.mono (by show _ ≤ wr.heap.size; omega))
                have hbw : Below wo.heap.size wo w5 := below_pair hbx1
                clear e0 e1 e2 e3 x0 x1 x2 x3 C hbwx hb5 hbx0
                have hbs5 := hbw.size
                have hwl5 : wo.heap.size < w5.heap.size := by
                  have := hbx1.size
                  simp at this; omega
                have hownc := own_below HOWN.out hbw
                have hgc : g < w5.heap.size := by omega
                have hcells := own_row_cells hownc
                have hnews1 : ∀ q x, (rowTv (vs.take j))[q]? = some x → w5.cell? ((⟨g, 0, none⟩ : Addr).add q) = some x := fun q x hq => by
                  rw [← rowTv_take, List.getElem?_take] at hq
                  split at hq
                  · have e : ((⟨g, 0, none⟩ : Addr).add q) = ⟨g, q, none⟩ := by
                      unfold Addr.add; split
                      · next h => subst h; rfl
                      · simp
                    rw [e]; exact hcells q x hq
                  · cases hq
                have hlen1 : (rowTv (vs.take j)).length = j * 4 := by rw [rowTv_length, List.length_take]; omega
                have hone1 := rowTv_one' (vs.take j)
                have H1 := Lib.hid (And.intro hlen1 (And.intro hnews1 hone1))
                have HC := Lib.hid hcells
                have hct := fun W => cutad_to g 0 vs.length cap j (by omega) (by omega) W
                have hcf := fun W => cutad_from g 0 vs.length cap j (by omega) W
                have hbx := (box_new wo (.int .i64 u.t.kind) (.string u.t.name) (.int .i64 u.t.n) (.slice u.a u.t.args.length u.c) 24).below hbx1 (by simp)
                have HBX := Lib.hid hbx
                clear hnews1 hlen1 hone1 hcells hownc hbx
                go_wp2_with (at_builtin; refine wpList_append_own _ rfl _ _ 22 rfl w5.heap.size 24 i0 (.agg #[.int .i64 0, .string ⟨#[]⟩, .int .i64 0, .slice none 0 0]) 4 56 Tryd.underlying22 hi hz0 hz1 hz2 rfl (by decide) _ 0 _ rfl (World.ownsRow_nil _ _ _ _) ⟨g, 0, none⟩ j cap (rowTv (vs.take j)) rfl H1.out.1 H1.out.2.1 H1.out.2.2 ?ap3 ?ap4 ?ap5 ?_)
                case ap3 => unfold maxLen; omega
                case ap4 => omega
                case ap5 => omega
                intro v1 w6 hown6 hgrow6 _
                have hb6 : Below w5.heap.size w5 w6 := (Below.refl _ _).grown hgrow6 (Nat.le_refl _) (fun k hk => by cases hk)
                obtain ⟨x0, x1, x2, x3, _, _, _, _⟩ := HBX.out.below hb6 (by omega)
                have hbs6 := hb6.size
                clear hgrow6 hct
                go_wp2_with (at_builtin; refine wpList_append_own _ rfl _ _ 22 rfl w5.heap.size 24 i0 (.agg #[.int .i64 0, .string ⟨#[]⟩, .int .i64 0, .slice none 0 0]) 4 56 Tryd.underlying22 hi hz0 hz1 hz2 rfl (by decide) _ j _ rfl (hown6.alloc _) ⟨w6.heap.size, 0, none⟩ 1 1 [.int .i64 u.t.kind, .string u.t.name, .int .i64 u.t.n, .slice u.a u.t.args.length u.c] rfl rfl (new_row4 _ _ rfl _ _ _ _ _) (tv_one u) ?bp3 ?bp4 ?bp5 ?_)
                case bp3 => unfold maxLen; omega
                case bp4 => omega
                case bp5 => first | omega | (simp; omega)
                intro v2 w7 hown7 hgrow7 _
                have hb7 : Below w5.heap.size w5 w7 := (hb6.alloc hbs6 _).grown hgrow7 (by simp; omega) (own_row_ge hown6)
                have hnews3 : ∀ q x, (rowTv (vs.drop j))[q]? = some x → w7.cell? ((cutAd g 0 cap j).add q) = some x := fun q x hq => by
                  have hjl : j < vs.length := by
                    rcases Nat.lt_or_ge j vs.length with h | h
                    · exact h
                    · rw [List.drop_eq_nil_of_le h] at hq; cases hq
                  rw [cutAd_of (by omega)]
                  have e : ((⟨g, 0 + j * 4, none⟩ : Addr).add q) = ⟨g, j * 4 + q, none⟩ := by
                    unfold Addr.add; split
                    · next h => subst h; simp
                    · simp
                  rw [e, hb7.cell (p := ⟨g, j * 4 + q, none⟩) hgc]
                  rw [← rowTv_drop, List.getElem?_drop] at hq
                  exact HC.out _ x hq
                have hlen3 : (rowTv (vs.drop j)).length = (vs.length - j) * 4 := by rw [rowTv_length, List.length_drop]
                have H3 := Lib.hid (And.intro hlen3 (And.intro hnews3 (rowTv_one' (vs.drop j))))
                have hbs7 := hb7.size
                clear hnews3 hlen3 hgrow7 hown6
                go_wp2_with (at_builtin; refine wpList_append_own _ rfl _ _ 22 rfl w5.heap.size 24 i0 (.agg #[.int .i64 0, .string ⟨#[]⟩, .int .i64 0, .slice none 0 0]) 4 56 Tryd.underlying22 hi hz0 hz1 hz2 rfl (by decide) _ (j + 1) _ rfl hown7 (cutAd g 0 cap j) (vs.length - j) (cap - j) (rowTv (vs.drop j)) rfl H3.out.1 H3.out.2.1 H3.out.2.2 ?dp3 ?dp4 ?dp5 ?_)
                case dp3 => unfold maxLen; omega
                case dp4 => omega
                case dp5 => omega
                intro v3 w8 hown8 hgrow8 hnil8
                have hb8 : Below w5.heap.size w5 w8 := hb7.grown hgrow8 hbs7 (own_row_ge hown7)
                have hb9 : Below w.heap.size w w8 := (hb.trans (hbw.mono hbs)).trans (hb8.mono (by omega))
                have hrel : w8.ownsRow w.heap.size 24 4 v3 (vs.take j ++ u :: vs.drop j).length (rowTv (vs.take j ++ u :: vs.drop j)) := by
                  have e : rowTv (vs.take j ++ u :: vs.drop j) = rowTv (vs.take j) ++ (.int .i64 u.t.kind :: .string u.t.name :: .int .i64 u.t.n :: .slice u.a u.t.args.length u.c :: rowTv (vs.drop j)) := by
                    rw [rowTv_append]
                    have : rowTv (u :: vs.drop j) = u.cells ++ rowTv (vs.drop j) := by unfold rowTv; rw [List.flatMap_cons]
                    rw [this]; rfl
                  have e2 : (vs.take j ++ u :: vs.drop j).length = j + 1 + (vs.length - j) := by rw [List.length_append, List.length_cons, List.length_take, List.length_drop]; omega
                  rw [e, e2]
                  exact own_lower (base := w5.heap.size) hown8 (by omega)
                have HREL := Lib.hid hrel
                have HB9 := Lib.hid hb9
                clear hrel hown8 hgrow8 hnil8 hown7 hcf hb6 hb7 hb8
                go_wp2_with fail
                go_roundw
                case rel =>
                  refine ⟨k + 1, vs.take j ++ u :: vs.drop j, by omega, by go_num, ?_, ?_, .inr (by simp), HREL.out, HB9.out⟩
                  · rw [sortL_take hkl, ← HU.out, ← HVT.out, HFIN.out, List.map_append, List.map_cons, List.map_take, List.map_drop]
                  · intro x hx
                    rcases List.mem_append.1 hx with h | h
                    · exact HVO.out x (List.mem_of_mem_take h)
                    · rcases List.mem_cons.1 h with h | h
                      · rw [h]; exact HUK.out
                      · exact HVO.out x (List.mem_of_mem_drop h)
                case measure => simp [intOf]; omega
            · have hjv : vs.length ≤ j := by omega
              have hjl' : ¬ (j : Int) < (vs.length : Int) := by omega
              have HFIN := Lib.hid (insT_at HPASS.out (by simpa using hj) (fun h => by rw [List.length_map] at h; exact absurd h hjl))
              have hbx1' := fun nq => below_drewN hbx0 nq
              clear hbwx
              go_wp2
              go_quiet (fail)
              obtain ⟨w5, hw5⟩ : ∃ w5, w5 = wr.drewN nq := ⟨_, rfl⟩
              rw [← hw5]
              have hbx1 := hbx1' nq
              rw [← hw5] at hbx1
              have hbw : Below wo.heap.size wo w5 := below_pair hbx1
              clear hw5 hbx1' hbx0
              have hbs5 := hbw.size
              have hwl5 : wo.heap.size < w5.heap.size := by
                have := hbx1.size
                simp at this; omega
              have hownc := own_below HOWN.out hbw
              have hgc : g < w5.heap.size := by omega
              have hcells := own_row_cells hownc
              have hnews1 : ∀ q x, (rowTv (vs.take j))[q]? = some x → w5.cell? ((⟨g, 0, none⟩ : Addr).add q) = some x := fun q x hq => by
                rw [← rowTv_take, List.getElem?_take] at hq
                split at hq
                · have e : ((⟨g, 0, none⟩ : Addr).add q) = ⟨g, q, none⟩ := by
                    unfold Addr.add; split
                    · next h => subst h; rfl
                    · simp
                  rw [e]; exact hcells q x hq
                · cases hq
              have hlen1 : (rowTv (vs.take j)).length = j * 4 := by rw [rowTv_length, List.length_take]; omega
              have hone1 := rowTv_one' (vs.take j)
              have H1 := Lib.hid (And.intro hlen1 (And.intro hnews1 hone1))
              have HC := Lib.hid hcells
              have hct := fun W => cutad_to g 0 vs.length cap j (by omega) (by omega) W
              have hcf := fun W => cutad_from g 0 vs.length cap j (by omega) W
              have hbx := (box_new wo (.int .i64 u.t.kind) (.string u.t.name) (.int .i64 u.t.n) (.slice u.a u.t.args.length u.c) 24).below hbx1 (by simp)
              have HBX := Lib.hid hbx
              clear hnews1 hlen1 hone1 hcells hownc hbx
              go_wp2_with (at_builtin; refine wpList_append_own _ rfl _ _ 22 rfl w5.heap.size 24 i0 (.agg #[.int .i64 0, .string ⟨#[]⟩, .int .i64 0, .slice none 0 0]) 4 56 Tryd.underlying22 hi hz0 hz1 hz2 rfl (by decide) _ 0 _ rfl (World.ownsRow_nil _ _ _ _) ⟨g, 0, none⟩ j cap (rowTv (vs.take j)) rfl H1.out.1 H1.out.2.1 H1.out.2.2 ?aq3 ?aq4 ?aq5 ?_)
              case aq3 => unfold maxLen; omega
              case aq4 => omega
              case aq5 => omega
              intro v1 w6 hown6 hgrow6 _
              have hb6 : Below w5.heap.size w5 w6 := (Below.refl _ _).grown hgrow6 (Nat.le_refl _) (fun k hk => by cases hk)
              obtain ⟨x0, x1, x2, x3, _, _, _, _⟩ := HBX.out.below hb6 (by omega)
              have hbs6 := hb6.size
              clear hgrow6 hct
              go_wp2_with (at_builtin; refine wpList_append_own _ rfl _ _ 22 rfl w5.heap.size 24 i0 (.agg #[.int .i64 0, .string ⟨#[]⟩, .int .i64 0, .slice none 0 0]) 4 56 Tryd.underlying22 hi hz0 hz1 hz2 rfl (by decide) _ j _ rfl (hown6.alloc _) ⟨w6.heap.size, 0, none⟩ 1 1 [.int .i64 u.t.kind, .string u.t.name, .int .i64 u.t.n, .slice u.a u.t.args.length u.c] rfl rfl (new_row4 _ _ rfl _ _ _ _ _) (tv_one u) ?bq3 ?bq4 ?bq5 ?_)
              case bq3 => unfold maxLen; omega
              case bq4 => omega
              case bq5 => first | omega | (simp; omega)
              intro v2 w7 hown7 hgrow7 _
              have hb7 : Below w5.heap.size w5 w7 := (hb6.alloc hbs6 _).grown hgrow7 (by simp; omega) (own_row_ge hown6)
              have hbs7 := hb7.size
              clear hgrow7 hown6
              go_wp2_with (at_builtin; refine wpList_append_own _ rfl _ _ 22 rfl w5.heap.size 24 i0 (.agg #[.int .i64 0, .string ⟨#[]⟩, .int .i64 0, .slice none 0 0]) 4 56 Tryd.underlying22 hi hz0 hz1 hz2 rfl (by decide) _ (j + 1) _ rfl hown7 (cutAd g 0 cap j) 0 (cap - j) [] rfl rfl (fun q x hq => by cases hq) (fun x hx => by cases hx) ?dq3 ?dq4 ?dq5 ?_)
              case dq3 => unfold maxLen; omega
              case dq4 => omega
              case dq5 => omega
              intro v3 w8 hown8 hgrow8 hnil8
              have hb8 : Below w5.heap.size w5 w8 := hb7.grown hgrow8 hbs7 (own_row_ge hown7)
              have hb9 : Below w.heap.size w w8 := (hb.trans (hbw.mono hbs)).trans (hb8.mono (by omega))
              have hrel : w8.ownsRow w.heap.size 24 4 v3 (vs.take j ++ u :: vs.drop j).length (rowTv (vs.take j ++ u :: vs.drop j)) := by
                have e : rowTv (vs.take j ++ u :: vs.drop j) = rowTv (vs.take j) ++ [.int .i64 u.t.kind, .string u.t.name, .int .i64 u.t.n, .slice u.a u.t.args.length u.c] := by
                  rw [List.drop_eq_nil_of_le hjv, rowTv_append, rowTv_one]; rfl
                have e2 : (vs.take j ++ u :: vs.drop j).length = j + 1 := by rw [List.length_append, List.length_cons, List.length_take, List.length_drop]; omega
                rw [e, e2]
                exact own_lower (base := w5.heap.size) (by simpa using hown8) (by omega)
              have HREL := Lib.hid hrel
              have HB9 := Lib.hid hb9
              clear hrel hown8 hgrow8 hnil8 hown7 hcf hb6 hb7 hb8
              go_wp2_with fail
              go_roundw
              case rel =>
                refine ⟨k + 1, vs.take j ++ u :: vs.drop j, by omega, by go_num, ?_, ?_, .inr (by simp), HREL.out, HB9.out⟩
                · rw [sortL_take hkl, ← HU.out, ← HVT.out, HFIN.out, List.map_append, List.map_cons, List.map_take, List.map_drop]
                · intro x hx
                  rcases List.mem_append.1 hx with h | h
                  · exact HVO.out x (List.mem_of_mem_take h)
                  · rcases List.mem_cons.1 h with h | h
                    · rw [h]; exact HUK.out
                    · exact HVO.out x (List.mem_of_mem_drop h)
              case measure => simp [intOf]; omega

      · obtain rfl : k = ts.length := by omega
        rw [List.take_length] at hvt
        have hlenv : vs.length = (sortL ts).length := by rw [← hvt, List.length_map]
        rw [hlenv] at hown
        have HVT := Lib.hid hvt
        have HVO := Lib.hid hvo
        clear hvt hvo hlenv hvn
        go_wp2
        go_ret
        exact ⟨_, rfl, ⟨vs, HVT.out, HVO.out, hown⟩, hb⟩
end Go.Proofs.YtpdbnhhpibpbnaaDoor
