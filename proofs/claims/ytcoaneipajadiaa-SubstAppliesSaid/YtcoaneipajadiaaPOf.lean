/-
  Binds in order, by the program's Of: a copy, the library's stable sort, and of each name the first one.
-/
import Derived.Test.YtcoaneipajadiaaPNameBd
import Derived.Test.YtcoaneipajadiaaPStb
import Derived.Maps.AppendAt
namespace Go.Proofs.Ytcoaneipajadiaa
open Go.RowKit Go.Shelf Go.Lib Go.Sort

theorem bindInfo : (Try.prog.info? 50).map (fun i => (i.zero, i.size, i.bytes)) = some (some (.agg #[.string ⟨#[]⟩, .int .i64 0, .string ⟨#[]⟩, .int .i64 0, .slice none 0 0]), 5, 72) := by kernel_rfl
/-- A row of binds of the call's own, held whole. -/
def HoldBd (w0 w : World) (base : Nat) (v : Value) (bs : List Bn) : Prop :=
  ∃ vs : List Bv, vs.map Bv.bn = bs ∧ (∀ x ∈ vs, x.v.ok w0 ∧ x.s.size ≤ 9223372036854775807) ∧
    ((v = .slice none 0 0 ∧ vs = []) ∨ ∃ blk cap, v = .slice (some ⟨blk, 0, none⟩) vs.length cap ∧ base ≤ blk ∧ blk < w.heap.size ∧ vs.length ≤ cap ∧ 0 < cap ∧ HoldsK Bv.cells 5 w blk 0 vs.toArray)
theorem rowBv_flat (d : Array Bv) (t : Nat) (ht : t < d.size * 5) : (rowBv d.toList)[t]? = some ((flatK Bv.cells 5 d)[t]!) := by
  rw [get_flatK _ _ _ _ ht]
  have hq : t / 5 < d.size := by omega
  have e : t = t / 5 * 5 + t % 5 := by omega
  have hr := rowBv_get d.toList (t / 5) (by simpa using hq) (t % 5) (by omega)
  rw [← e] at hr
  rw [hr, getElem!_pos d _ hq]
  simp only [Array.getElem_toList]
  rw [getElem!_pos (Bv.cells _) (t % 5) (by simp [Bv.cells]; omega)]
  exact List.getElem?_eq_getElem _
theorem holdsK_own {w : World} {g : Nat} {cur : Array Value} {d : Array Bv} {e : TypeId} (hb : w.heap[g]? = some (.cells cur e (0, 0))) (ht : cur.toList.take (d.size * 5) = rowBv d.toList) : HoldsK Bv.cells 5 w g 0 d := fun j hj => by
  rw [size_flatK] at hj
  have hr := rowBv_flat d j hj
  rw [← ht, List.getElem?_take, if_pos (by omega)] at hr
  rw [Nat.zero_add]
  refine ⟨?_, ?_⟩
  · rw [cell_of_row w g j cur _ (0, 0) hb]; simpa using hr
  · simp [World.frozen?, hb]
/-- A bind of a row that is held. -/
theorem holdsK_bv {w : World} {blk : Nat} {d : Array Bv} (h : HoldsK Bv.cells 5 w blk 0 d) (j : Nat) (hj : j < d.size) : BvAt w blk (0 + j * 5) d[j]! := by
  have c : ∀ i, i < 5 → ∀ x, (Bv.cells d[j]!)[i]? = some x → w.cell? ⟨blk, 0 + j * 5 + i, none⟩ = some x := fun i hi x hx => by
    have h1 := (h (j * 5 + i) (by rw [size_flatK]; omega)).1
    rw [get_flatK _ _ _ _ (by omega), show (j * 5 + i) / 5 = j from by omega, show (j * 5 + i) % 5 = i from by omega] at h1
    rw [Nat.zero_add] at h1 ⊢
    rw [h1]
    obtain ⟨hl, he⟩ := List.getElem?_eq_some_iff.1 hx
    rw [getElem!_pos (Bv.cells d[j]!) i hl, he]; rfl
  exact ⟨c 0 (by omega) _ rfl, c 1 (by omega) _ rfl, c 2 (by omega) _ rfl, c 3 (by omega) _ rfl, c 4 (by omega) _ rfl⟩
theorem HoldBd.bds {w0 w : World} {base : Nat} {v : Value} {bs : List Bn} (h : HoldBd w0 w base v bs) (hb : Below w0.heap.size w0 w) (hl : bs.length ≤ 9223372036854775807) : Bds w v bs := by
  obtain ⟨vs, rfl, hok, ⟨rfl, rfl⟩ | ⟨blk, cap, rfl, _, hlt, _, _, hH⟩⟩ := h
  · exact Bds.none_ _ _ _
  · refine ⟨_, cap, by rw [List.length_map], hl, .inr ⟨blk, 0, rfl, hlt, fun j x hj => ?_⟩⟩
    rw [List.getElem?_map] at hj
    obtain ⟨y, hy, rfl⟩ := Option.map_eq_some_iff.1 hj
    obtain ⟨hjl, rfl⟩ := List.getElem?_eq_some_iff.1 hy
    obtain ⟨hk, hs⟩ := hok _ (List.getElem_mem hjl)
    have e : vs.toArray[j]! = vs[j] := by rw [getElem!_pos vs.toArray j (by simpa using hjl)]; simp
    have := holdsK_bv hH j (by simpa using hjl)
    rw [e] at this
    exact bv_bdAt hs (hk.below hb) this
theorem grownBy_sortW {α : Type} [Inhabited α] {enc : α → List Value} {k : Nat} {w W : World} {g off : Nat} {d : Array α} (h : SWK enc k w g off d W) : w.grownBy W (some g) := by
  obtain ⟨n, os, rfl⟩ := h
  unfold sortWorldK putRowK
  refine ⟨rfl, rfl, rfl, by simp, fun k hk hne => ?_⟩
  rw [heap_grow_old _ _ (by simpa using hk)]
  have : g ≠ k := fun e => hne (by rw [e])
  simp [putRow, mapBlock, Sort.ahead, Array.getElem?_modify, this]
theorem below_sortW {α : Type} [Inhabited α] {enc : α → List Value} {k : Nat} {w0 w W : World} {g off B : Nat} {d : Array α} (h : SWK enc k w g off d W) (hb : Below B w0 w) (hB : B ≤ w.heap.size) (hg : B ≤ g) : Below B w0 W :=
  hb.grown (grownBy_sortW h) hB (fun k e => by cases e; exact hg)
theorem bvOne (x : Bv) : ∀ v ∈ x.cells, v.oneCell' = true := fun v hv => by
  simp only [Bv.cells, List.mem_cons, List.not_mem_nil, or_false] at hv
  rcases hv with rfl | rfl | rfl | rfl | rfl <;> rfl
theorem rowKBv {w : World} {g : Nat} {d : Array Bv} (hH : HoldsK Bv.cells 5 w g 0 d) (hg : g < w.heap.size) : RowK Bv.cells 5 w g 0 d := ⟨fun _ => rfl, bvOne, hH, hg⟩
/-- The first of a row that is held. -/
theorem holdsK_part {w : World} {g : Nat} {d d2 : Array Bv} {q : Nat} (hH : HoldsK Bv.cells 5 w g 0 d) (hd : d2.toList = d.toList.take q) (hq : q ≤ d.size) : HoldsK Bv.cells 5 w g 0 d2 := fun j hj => by
  have hs : d2.size = q := by rw [← Array.length_toList, hd, List.length_take, Array.length_toList]; omega
  rw [size_flatK, hs] at hj
  have h := hH j (by rw [size_flatK]; omega)
  rw [get_flatK _ _ _ _ (by omega)] at h
  rw [get_flatK _ _ _ _ (by omega)]
  have e : d2[j / 5]! = d[j / 5]! := by
    have h1 := get_list d2 (j / 5) (by omega)
    have h2 := get_list d (j / 5) (by omega)
    rw [hd, List.getElem?_take_of_lt (by omega), h2] at h1
    exact (Option.some.inj h1).symm
  rw [e]; exact h

set_option maxRecDepth 100000 in
set_option maxHeartbeats 1000000 in
theorem ins_none (fv : Value) (w : World) : Calls Try.prog 67 #[.slice none 0 0, .int .i64 0, .int .i64 0, fv] w fun e w' => e = .returned (.tuple #[]) ∧ w = w' := by
  go_enter Try.func67, Try.ntmps67
  go_wp2
  refine wp_loop_rounds 1 ?_; rw [rounds_succ]
  go_wp2
  go_end0
  exact ⟨rfl, rfl⟩
set_option maxRecDepth 100000 in
set_option maxHeartbeats 1000000 in
theorem stb_none (fv : Value) (w : World) : Calls Try.prog 54 #[.slice none 0 0, .int .i64 0, fv] w fun e w' => e = .returned (.tuple #[]) ∧ w = w' := by
  have C := Lib.hid (ins_none fv)
  go_enter Try.func54, Try.ntmps54
  go_wp2_with fail
  refine wp_loop_rounds 1 ?_; rw [rounds_succ]
  go_wp2_with fail
  refine (C.out _).mono ?_; rintro e w' ⟨rfl, rfl⟩
  go_wp2_with fail
  refine wp_loop_rounds 1 ?_; rw [rounds_succ]
  go_wp2_with fail
  go_end0
  exact ⟨rfl, rfl⟩
set_option maxRecDepth 100000 in
set_option maxHeartbeats 1000000 in
theorem sortSt_none (fv : Value) (w : World) : Calls Try.prog 33 #[.slice none 0 0, fv] w fun e w' => e = .returned (.tuple #[]) ∧ w = w' := by
  have C := Lib.hid (stb_none fv)
  go_enter Try.func33, Try.ntmps33
  go_wp2_with fail
  refine (C.out _).mono ?_; rintro e w' ⟨rfl, rfl⟩
  go_wp2_with fail
  go_end0
  exact ⟨rfl, rfl⟩
set_option maxRecDepth 100000 in
set_option maxHeartbeats 1000000 in
theorem compactB_none (fv : Value) (w : World) : Calls Try.prog 35 #[.slice none 0 0, fv] w fun e w' => e = .returned (.slice none 0 0) ∧ w = w' := by
  go_enter Try.func35, Try.ntmps35
  go_wp2_with fail
  go_ret
  exact ⟨rfl, rfl⟩
set_option maxRecDepth 100000 in
set_option maxHeartbeats 1000000 in
theorem sortSt_any (g cap : Nat) (d : Array Bv) (w : World) (hH : HoldsK Bv.cells 5 w g 0 d) (hg : g < w.heap.size) (hsz : d.size ≤ 1000000) :
    Calls Try.prog 33 #[.slice (some ⟨g, 0, none⟩) d.size cap, .func (.func 34) #[] #[]] w fun e w' =>
      e = .returned (.tuple #[]) ∧ ∃ d', Stab (ltOf cfN) d d' ∧ SortedIn (ltOf cfN) 0 d.size d' ∧ SWK Bv.cells 5 w g 0 d' w' := by
  have eg : ∀ args w, (callFunc 34 args).run Try.prog w = .ok (.enter 34 args) w := enters_of Try.func34 (by kernel_rfl) rfl
  have C := Lib.hid (stb_gen tyB Try.func54 Try.func67 Try.func68 Try.func82 Try.func92 cfN 34 eg swoN g 0 cap d.size d d w w (cmpLaysN g 0 d.size w) (rowKBv hH hg) rfl hsz rfl (SWK.start hH))
  clear hH eg
  go_enter Try.func33, Try.ntmps33
  go_wp2_with fail
  refine C.out.mono ?_; rintro e w' ⟨rfl, d', h1, h2, h3⟩
  have HH := Lib.hid (And.intro h1 (And.intro h2 h3))
  clear h1 h2 h3
  go_wp2_with fail
  go_end0
  exact ⟨rfl, d', HH.out.1, HH.out.2.1, HH.out.2.2⟩
def zeroBv : Bv := ⟨⟨#[]⟩, zeroV⟩
theorem compactB_any (g cap : Nat) (d : Array Bv) (w : World) (hH : HoldsK Bv.cells 5 w g 0 d) (hg : g < w.heap.size) (hcap : d.size ≤ cap) (hsz : d.size ≤ 1000000) :
    Calls Try.prog 35 #[.slice (some ⟨g, 0, none⟩) d.size cap, .func (.func 36) #[] #[]] w fun e w' =>
      ∃ (d' : Array Bv) (q : Nat), e = .returned (.slice (some ⟨g, 0, none⟩) q cap) ∧ q ≤ d.size ∧ d'.size = d.size ∧ d'.toList.take q = compA sameN d.toList ∧ SWK Bv.cells 5 w g 0 d' w' := by
  have eg : ∀ args w, (callFunc 36 args).run Try.prog w = .ok (.enter 36 args) w := enters_of Try.func36 (by kernel_rfl) rfl
  exact cpt_gen tyC Try.func35 sameN 36 eg zeroBv (.agg #[.string ⟨#[]⟩, .int .i64 0, .string ⟨#[]⟩, .int .i64 0, .slice none 0 0]) (fun _ => by kernel_rfl) (by rfl) g 0 cap d.size d d w w (eqLaysN g 0 d.size w) (rowKBv hH hg) (SWK.start hH) rfl rfl hcap hsz
theorem list_choose {β : Type} {P : Nat → β → Prop} : ∀ {n : Nat}, (∀ j, j < n → ∃ y, P j y) → ∃ vs : List β, vs.length = n ∧ ∀ (j : Nat) (hj : j < vs.length), P j vs[j]
  | 0, _ => ⟨[], rfl, fun j hj => by simp at hj⟩
  | n + 1, h => by
    obtain ⟨vs, hl, hv⟩ := list_choose (n := n) fun j hj => h j (by omega)
    obtain ⟨y, hy⟩ := h n (by omega)
    refine ⟨vs ++ [y], by simp [hl], fun j hj => ?_⟩
    by_cases e : j < vs.length
    · rw [List.getElem_append_left e]; exact hv j e
    · have e2 : j = vs.length := by rw [List.length_append, List.length_singleton] at hj; omega
      subst e2
      rw [List.getElem_append_right (Nat.le_refl _)]
      simp only [Nat.sub_self, List.getElem_cons_zero]
      rw [hl]; exact hy
/-- A row of binds in memory as values. -/
theorem rows_vs {w : World} {bs : List Bn} {b o : Nat} (h : ∀ (j : Nat) x, bs[j]? = some x → BdAt w x b (o + j * 5)) :
    ∃ vs : List Bv, vs.map Bv.bn = bs ∧ (∀ x ∈ vs, x.v.ok w ∧ x.s.size ≤ 9223372036854775807) ∧ ∀ q x, (rowBv vs)[q]? = some x → w.cell? ⟨b, o + q, none⟩ = some x := by
  obtain ⟨vs, hl, hv⟩ := list_choose (β := Bv) (n := bs.length) (P := fun j y => ∃ x, bs[j]? = some x ∧ y.bn = x ∧ y.v.ok w ∧ y.s.size ≤ 9223372036854775807 ∧ BvAt w b (o + j * 5) y) fun j hj => by
    have hx := List.getElem?_eq_getElem hj
    have hA := h j _ hx
    obtain ⟨y, h1, h2, h3⟩ := bdAt_bv hA
    exact ⟨y, _, hx, h1, h2, by have := hA.1; rw [← h1] at this; exact this, h3⟩
  refine ⟨vs, ?_, fun x hx => ?_, fun q x hq => ?_⟩
  · apply List.ext_getElem
    · rw [List.length_map, hl]
    · intro j h1 h2
      rw [List.length_map] at h1
      obtain ⟨x, hx, e, _⟩ := hv j h1
      rw [List.getElem?_eq_getElem h2] at hx
      rw [List.getElem_map, e]; exact (Option.some.inj hx).symm
  · obtain ⟨j, hj, rfl⟩ := List.getElem_of_mem hx
    obtain ⟨_, _, _, h2, h3, _⟩ := hv j hj
    exact ⟨h2, h3⟩
  · have hq5 : q < vs.length * 5 := by rw [← rowBv_length]; exact (List.getElem?_eq_some_iff.1 hq).1
    have hj : q / 5 < vs.length := by omega
    obtain ⟨_, _, _, _, _, m0, m1, m2, m3, m4⟩ := hv (q / 5) hj
    have e : q = q / 5 * 5 + q % 5 := by omega
    rw [e, rowBv_get vs (q / 5) hj (q % 5) (by omega)] at hq
    rcases (show q % 5 = 0 ∨ q % 5 = 1 ∨ q % 5 = 2 ∨ q % 5 = 3 ∨ q % 5 = 4 from by omega) with hr | hr | hr | hr | hr
    all_goals
      rw [hr] at hq
      simp only [Bv.cells, List.getElem?_cons_zero, List.getElem?_cons_succ, Option.some.injEq] at hq
      subst hq
      rw [show o + q = o + q / 5 * 5 + q % 5 from by omega, hr]
      assumption
end Go.Proofs.Ytcoaneipajadiaa
