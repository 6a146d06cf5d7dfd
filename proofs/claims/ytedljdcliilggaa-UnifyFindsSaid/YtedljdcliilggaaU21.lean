/-
  Rows of binds that are held whole. No function of the program.
  Binds in order, by the program's Of: a copy, the library's stable sort, and of each name the first one.
-/
import Derived.Test.YtedljdcliilggaaU17
import Derived.Test.YtedljdcliilggaaU05
import Derived.Test.YtedljdcliilggaaU20
import Derived.Maps.AppendAt
namespace Go.Proofs.Ytedljdcliilggaa
open Go.RowKit Go.Shelf Go.Lib Go.Sort

/-- A row of binds of the call's own, held whole. -/
def HoldBd (w0 w : World) (base : Nat) (v : Value) (bs : List Bn) : Prop :=
  ∃ vs : List Bv, vs.map Bv.bn = bs ∧ (∀ x ∈ vs, x.v.ok w0 ∧ x.s.size ≤ 9223372036854775807) ∧
    ((v = .slice none 0 0 ∧ vs = []) ∨ ∃ blk cap, v = .slice (some ⟨blk, 0, none⟩) vs.length cap ∧ base ≤ blk ∧ blk < w.heap.size ∧ vs.length ≤ cap ∧ 0 < cap ∧ HoldsK Bv.cells 5 w blk 0 vs.toArray)
theorem rowBv_flat (d : Array Bv) (t : Nat) (ht : t < d.size * 5) : (rowBv d.toList)[t]? = some ((flatK Bv.cells 5 d)[t]!) := by
  rw [get_flatK _ _ _ _ ht]
  have hq : t / 5 < d.size := by omega
  have e : t = t / 5 * 5 + t % 5 := by omega
  have hr := rowBv_get d.toList (t / 5) (by simpa using hq) (t % 5) (by omega)
  rw [← e] at hr
  rw [hr, getElem!_pos d _ hq]
  simp only [Array.getElem_toList]
  rw [getElem!_pos (Bv.cells _) (t % 5) (by simp [Bv.cells]; omega)]
  exact List.getElem?_eq_getElem _
theorem holdsK_own {w : World} {g : Nat} {cur : Array Value} {d : Array Bv} {e : TypeId} (hb : w.heap[g]? = some (.cells cur e (0, 0))) (ht : cur.toList.take (d.size * 5) = rowBv d.toList) : HoldsK Bv.cells 5 w g 0 d := fun j hj => by
  rw [size_flatK] at hj
  have hr := rowBv_flat d j hj
  rw [← ht, List.getElem?_take, if_pos (by omega)] at hr
  rw [Nat.zero_add]
  refine ⟨?_, ?_⟩
  · rw [cell_of_row w g j cur _ (0, 0) hb]; simpa using hr
  · simp [World.frozen?, hb]
/-- A bind of a row that is held. -/
theorem holdsK_bv {w : World} {blk : Nat} {d : Array Bv} (h : HoldsK Bv.cells 5 w blk 0 d) (j : Nat) (hj : j < d.size) : BvAt w blk (0 + j * 5) d[j]! := by
  have c : ∀ i, i < 5 → ∀ x, (Bv.cells d[j]!)[i]? = some x → w.cell? ⟨blk, 0 + j * 5 + i, none⟩ = some x := fun i hi x hx => by
    have h1 := (h (j * 5 + i) (by rw [size_flatK]; omega)).1
    rw [get_flatK _ _ _ _ (by omega), show (j * 5 + i) / 5 = j from by omega, show (j * 5 + i) % 5 = i from by omega] at h1
    rw [Nat.zero_add] at h1 ⊢
    rw [h1]
    obtain ⟨hl, he⟩ := List.getElem?_eq_some_iff.1 hx
    rw [getElem!_pos (Bv.cells d[j]!) i hl, he]; rfl
  exact ⟨c 0 (by omega) _ rfl, c 1 (by omega) _ rfl, c 2 (by omega) _ rfl, c 3 (by omega) _ rfl, c 4 (by omega) _ rfl⟩
theorem HoldBd.bds {w0 w : World} {base : Nat} {v : Value} {bs : List Bn} (h : HoldBd w0 w base v bs) (hb : Below w0.heap.size w0 w) (hl : bs.length ≤ 9223372036854775807) : Bds w v bs := by
  obtain ⟨vs, rfl, hok, ⟨rfl, rfl⟩ | ⟨blk, cap, rfl, h1, hlt, h2, h3, hH⟩⟩ := h
  · exact Bds.none_ _ _ _
  · refine ⟨_, cap, by rw [List.length_map], ⟨hl, by rw [List.length_map]; omega⟩, .inr ⟨blk, 0, rfl, hlt, fun j x hj => ?_⟩⟩
    rw [List.getElem?_map] at hj
    obtain ⟨y, hy, rfl⟩ := Option.map_eq_some_iff.1 hj
    obtain ⟨hjl, rfl⟩ := List.getElem?_eq_some_iff.1 hy
    obtain ⟨hk, hs⟩ := hok _ (List.getElem_mem hjl)
    have e : vs.toArray[j]! = vs[j] := by rw [getElem!_pos vs.toArray j (by simpa using hjl)]; simp
    have := holdsK_bv hH j (by simpa using hjl)
    rw [e] at this
    exact bv_bdAt hs (hk.below hb) this
theorem grownBy_sortW {α : Type} [Inhabited α] {enc : α → List Value} {k : Nat} {w W : World} {g off : Nat} {d : Array α} (h : SWK enc k w g off d W) : w.grownBy W (some g) := by
  obtain ⟨n, os, rfl⟩ := h
  unfold sortWorldK putRowK
  refine ⟨rfl, rfl, rfl, by simp, fun k hk hne => ?_⟩
  rw [heap_grow_old _ _ (by simpa using hk)]
  have : g ≠ k := fun e => hne (by rw [e])
  simp [putRow, mapBlock, Sort.ahead, Array.getElem?_modify, this]
theorem below_sortW {α : Type} [Inhabited α] {enc : α → List Value} {k : Nat} {w0 w W : World} {g off B : Nat} {d : Array α} (h : SWK enc k w g off d W) (hb : Below B w0 w) (hB : B ≤ w.heap.size) (hg : B ≤ g) : Below B w0 W :=
  hb.grown (grownBy_sortW h) hB (fun k e => by cases e; exact hg)
theorem bvOne (x : Bv) : ∀ v ∈ x.cells, v.oneCell' = true := fun v hv => by
  simp only [Bv.cells, List.mem_cons, List.not_mem_nil, or_false] at hv
  rcases hv with rfl | rfl | rfl | rfl | rfl <;> rfl
theorem rowKBv {w : World} {g : Nat} {d : Array Bv} (hH : HoldsK Bv.cells 5 w g 0 d) (hg : g < w.heap.size) : RowK Bv.cells 5 w g 0 d := ⟨fun _ => rfl, bvOne, hH, hg⟩
/-- The first of a row that is held. -/
theorem holdsK_part {w : World} {g : Nat} {d d2 : Array Bv} {q : Nat} (hH : HoldsK Bv.cells 5 w g 0 d) (hd : d2.toList = d.toList.take q) (hq : q ≤ d.size) : HoldsK Bv.cells 5 w g 0 d2 := fun j hj => by
  have hs : d2.size = q := by rw [← Array.length_toList, hd, List.length_take, Array.length_toList]; omega
  rw [size_flatK, hs] at hj
  have h := hH j (by rw [size_flatK]; omega)
  rw [get_flatK _ _ _ _ (by omega)] at h
  rw [get_flatK _ _ _ _ (by omega)]
  have e : d2[j / 5]! = d[j / 5]! := by
    have h1 := get_list d2 (j / 5) (by omega)
    have h2 := get_list d (j / 5) (by omega)
    rw [hd, List.getElem?_take_of_lt (by omega), h2] at h1
    exact (Option.some.inj h1).symm
  rw [e]; exact h
def zeroBv : Bv := ⟨⟨#[]⟩, zeroV⟩
theorem hold_none (w0 w : World) (base : Nat) : HoldBd w0 w base (.slice none 0 0) [] := ⟨[], rfl, (fun _ h => nomatch h), .inl ⟨rfl, rfl⟩⟩
/-- A sort's world keeps the block's form. -/
theorem cells_sortW {α : Type} [Inhabited α] {enc : α → List Value} {k : Nat} {w W : World} {g off : Nat} {d : Array α} (h : SWK enc k w g off d W) {cur : Array Value} {e : TypeId} {f : Nat × Nat} (hb : w.heap[g]? = some (.cells cur e f)) : ∃ cur', W.heap[g]? = some (.cells cur' e f) ∧ cur'.size = cur.size := by
  obtain ⟨n, os, rfl⟩ := h
  have hl : g < w.heap.size := (Array.getElem?_eq_some_iff.1 hb).1
  refine ⟨putCells id off (flatK enc k d) cur, ?_, by simp [putCells]⟩
  unfold sortWorldK putRowK
  rw [heap_grow_old _ _ (by simpa [putRow, mapBlock, Sort.ahead] using hl)]
  simp [putRow, mapBlock, Sort.ahead, Array.getElem?_modify, hb, onCells]
theorem take_holds {w : World} {g : Nat} {cur : Array Value} {e : TypeId} {vs : List Bv} (hb : w.heap[g]? = some (.cells cur e (0, 0))) (hH : HoldsK Bv.cells 5 w g 0 vs.toArray) : cur.toList.take (vs.length * 5) = rowBv vs := by
  apply List.ext_getElem?
  intro i
  by_cases hi : i < vs.length * 5
  · rw [List.getElem?_take_of_lt hi]
    have h1 := (hH i (by rw [size_flatK]; simpa using hi)).1
    rw [Nat.zero_add, cell_of_row w g i cur _ (0, 0) hb] at h1
    have h2 := rowBv_flat vs.toArray i (by simpa using hi)
    rw [show vs.toArray.toList = vs from by simp] at h2
    rw [h2]; simpa using h1
  · rw [List.getElem?_eq_none (by rw [List.length_take]; omega), List.getElem?_eq_none (by rw [rowBv_length]; omega)]
/-- What Of leaves of a copy: the row turned, and of each name the first one. -/
theorem hold_of {w0 w w1 w2 w3 : World} {g cap n q : Nat} {vs : List Bv} {d2 d3 : Array Bv} (hvo : ∀ x ∈ vs, x.v.ok w0 ∧ x.s.size ≤ 9223372036854775807) (hb1 : Below w.heap.size w w1) (hg : w.heap.size ≤ g) (hn : vs.length = n) (hcap : n ≤ cap) (h0 : 0 < n) (hg1 : g < w1.heap.size)
    (hH : HoldsK Bv.cells 5 w1 g 0 vs.toArray) (h1 : Stab (ltOf cfN) vs.toArray d2) (h2 : SortedIn (ltOf cfN) 0 n d2) (h3 : SWK Bv.cells 5 w1 g 0 d2 w2) (hq : q ≤ n) (h4 : d3.size = n) (h5 : d3.toList.take q = compA sameN d2.toList) (h6 : SWK Bv.cells 5 w2 g 0 d3 w3)
    {cur : Array Value} (hgb : w1.heap[g]? = some (.cells cur 41 (0, 0))) (hgm : cap ≤ maxLen) (hgs : cur.size = cap * 5) :
    HoldBd w0 w3 w.heap.size (.slice (some ⟨g, 0, none⟩) q cap) (ofB (vs.map Bv.bn)) ∧ OwnBv w0 w3 w.heap.size (.slice (some ⟨g, 0, none⟩) q cap) (ofB (vs.map Bv.bn)) ∧ Below w.heap.size w w3 := by
  have hs2 : d2.size = n := by rw [h1.1]; simp [hn]
  have hl : (d3.toList.take q).length = q := by rw [List.length_take, Array.length_toList]; omega
  have hb2 := below_sortW h3 hb1 hb1.size hg
  have hb3 := below_sortW h6 hb2 hb2.size hg
  have hH2 : HoldsK Bv.cells 5 w2 g 0 d2 := h3.holds hg1 hH (by rw [hs2]; simp [hn])
  have hg2 : g < w2.heap.size := Nat.lt_of_lt_of_le hg1 h3.le
  have hH3 : HoldsK Bv.cells 5 w3 g 0 d3 := h6.holds hg2 hH2 (by omega)
  have hm : (d3.toList.take q).map Bv.bn = ofB (vs.map Bv.bn) := by rw [h5, stab_ofB h1 (by rw [hs2]; exact h2)]
  have ho : ∀ x ∈ d3.toList.take q, x.v.ok w0 ∧ x.s.size ≤ 9223372036854775807 := fun x hx => by
    rw [h5] at hx
    have := stab_mem h1 (mem_compA hx)
    exact hvo x (by simpa using this)
  have hK := holdsK_part (q := q) (d2 := (d3.toList.take q).toArray) hH3 (by simp) (by omega)
  obtain ⟨cur2, hc2, hz2⟩ := cells_sortW h3 hgb
  obtain ⟨cur3, hc3, hz3⟩ := cells_sortW h6 hc2
  have hz : cur3.size = cap * 5 := by omega
  have ht := take_holds hc3 hK
  have hn3 : (ofB (vs.map Bv.bn)).length = q := by rw [← hm, List.length_map, hl]
  refine ⟨⟨d3.toList.take q, hm, ho, .inr ⟨g, cap, by rw [hl], hg, Nat.lt_of_lt_of_le hg2 h6.le, by omega, by omega, hK⟩⟩, ⟨d3.toList.take q, hm, ho, ?_⟩, hb3⟩
  rw [hn3]
  refine ⟨by rw [rowBv_length, hl], .inr ⟨g, cap, cur3, rfl, hg, hc3, by omega, hgm, hz, by rw [hl] at ht; exact ht⟩⟩
end Go.Proofs.Ytedljdcliilggaa

namespace Go.Proofs.Ytedljdcliilggaa
open Go.RowKit Go.Shelf Go.Lib Go.Sort

set_option maxRecDepth 100000 in
set_option maxHeartbeats 1000000 in
theorem ins_none (fv : Value) (w : World) : Calls Try.prog 73 #[.slice none 0 0, .int .i64 0, .int .i64 0, fv] w fun e w' => e = .returned (.tuple #[]) ∧ w = w' := by
  go_enter Try.func73, Try.ntmps73
  go_wp2
  refine wp_loop_rounds 1 ?_; rw [rounds_succ]
  go_wp2
  go_end0
  exact ⟨rfl, rfl⟩
set_option maxRecDepth 100000 in
set_option maxHeartbeats 1000000 in
theorem stb_none (fv : Value) (w : World) : Calls Try.prog 63 #[.slice none 0 0, .int .i64 0, fv] w fun e w' => e = .returned (.tuple #[]) ∧ w = w' := by
  have C := Lib.hid (ins_none fv)
  go_enter Try.func63, Try.ntmps63
  go_wp2_with fail
  refine wp_loop_rounds 1 ?_; rw [rounds_succ]
  go_wp2_with fail
  refine (C.out _).mono ?_; rintro e w' ⟨rfl, rfl⟩
  go_wp2_with fail
  refine wp_loop_rounds 1 ?_; rw [rounds_succ]
  go_wp2_with fail
  go_end0
  exact ⟨rfl, rfl⟩
set_option maxRecDepth 100000 in
set_option maxHeartbeats 1000000 in
theorem sortSt_none (fv : Value) (w : World) : Calls Try.prog 47 #[.slice none 0 0, fv] w fun e w' => e = .returned (.tuple #[]) ∧ w = w' := by
  have C := Lib.hid (stb_none fv)
  go_enter Try.func47, Try.ntmps47
  go_wp2_with fail
  refine (C.out _).mono ?_; rintro e w' ⟨rfl, rfl⟩
  go_wp2_with fail
  go_end0
  exact ⟨rfl, rfl⟩
set_option maxRecDepth 100000 in
set_option maxHeartbeats 1000000 in
theorem compactB_none (fv : Value) (w : World) : Calls Try.prog 48 #[.slice none 0 0, fv] w fun e w' => e = .returned (.slice none 0 0) ∧ w = w' := by
  go_enter Try.func48, Try.ntmps48
  go_wp2_with fail
  go_ret
  exact ⟨rfl, rfl⟩
set_option maxRecDepth 100000 in
set_option maxHeartbeats 1000000 in
theorem sortSt_any (g cap : Nat) (d : Array Bv) (w : World) (hH : HoldsK Bv.cells 5 w g 0 d) (hg : g < w.heap.size) (hsz : d.size ≤ 1000000) :
    Calls Try.prog 47 #[.slice (some ⟨g, 0, none⟩) d.size cap, .func (.func 44) #[] #[]] w fun e w' =>
      e = .returned (.tuple #[]) ∧ ∃ d', Stab (ltOf cfN) d d' ∧ SortedIn (ltOf cfN) 0 d.size d' ∧ SWK Bv.cells 5 w g 0 d' w' := by
  have eg : ∀ args w, (callFunc 44 args).run Try.prog w = .ok (.enter 44 args) w := enters_of Try.func44 (by kernel_rfl) rfl
  have C := Lib.hid (stb_gen tyB Try.func63 Try.func73 Try.func74 Try.func81 Try.func86 cfN 44 eg swoN g 0 cap d.size d d w w (cmpLaysN g 0 d.size w) (rowKBv hH hg) rfl hsz rfl (SWK.start hH))
  clear hH eg
  go_enter Try.func47, Try.ntmps47
  go_wp2_with fail
  refine C.out.mono ?_; rintro e w' ⟨rfl, d', h1, h2, h3⟩
  have HH := Lib.hid (And.intro h1 (And.intro h2 h3))
  clear h1 h2 h3
  go_wp2_with fail
  go_end0
  exact ⟨rfl, d', HH.out.1, HH.out.2.1, HH.out.2.2⟩
theorem compactB_any (g cap : Nat) (d : Array Bv) (w : World) (hH : HoldsK Bv.cells 5 w g 0 d) (hg : g < w.heap.size) (hcap : d.size ≤ cap) (hsz : d.size ≤ 1000000) :
    Calls Try.prog 48 #[.slice (some ⟨g, 0, none⟩) d.size cap, .func (.func 49) #[] #[]] w fun e w' =>
      ∃ (d' : Array Bv) (q : Nat), e = .returned (.slice (some ⟨g, 0, none⟩) q cap) ∧ q ≤ d.size ∧ d'.size = d.size ∧ d'.toList.take q = compA sameN d.toList ∧ SWK Bv.cells 5 w g 0 d' w' := by
  have eg : ∀ args w, (callFunc 49 args).run Try.prog w = .ok (.enter 49 args) w := enters_of Try.func49 (by kernel_rfl) rfl
  exact cpt_gen tyC Try.func48 sameN 49 eg zeroBv (.agg #[.string ⟨#[]⟩, .int .i64 0, .string ⟨#[]⟩, .int .i64 0, .slice none 0 0]) (fun _ => by kernel_rfl) (by rfl) g 0 cap d.size d d w w (eqLaysN g 0 d.size w) (rowKBv hH hg) (SWK.start hH) rfl rfl hcap hsz
theorem own_none (w0 w : World) (base : Nat) : OwnBv w0 w base (.slice none 0 0) [] := ⟨[], rfl, (fun _ h => nomatch h), World.ownsRow_nil _ _ _ _⟩
set_option maxRecDepth 100000 in
set_option maxHeartbeats 2000000 in
theorem of_rd (v : Value) (bs : List Bn) (w0 w : World) (hv : Bds w0 v bs) (hb0 : Reads w0 w) (hlen : bs.length ≤ 1000000) :
    Calls Try.prog 33 #[v] w fun e w' => ∃ u, e = .returned u ∧ HoldBd w0 w' w.heap.size u (ofB bs) ∧ OwnBv w0 w' w.heap.size u (ofB bs) ∧ Below w.heap.size w w' := by
  obtain ⟨i0, hi, hz0, hz1, hz2⟩ := info_parts bindInfo
  have SN := Lib.hid (sortSt_none (.func (.func 44) #[] #[]))
  have CN := Lib.hid (compactB_none (.func (.func 49) #[] #[]))
  obtain ⟨a, c, rfl, hl, h⟩ := hv
  cases a with
  | none =>
    obtain rfl : bs = [] := by
      rcases h with h | ⟨b, o, ha, _⟩
      · exact h
      · cases ha
    go_enter Try.func33, Try.ntmps33
    go_wp2_with (at_builtin; refine wpList_append_own_none rfl _ _ 27 rfl w.heap.size 41 i0 5 Try.underlying27 hi _ 0 _ rfl (World.ownsRow_nil _ _ _ _) rfl ?_)
    go_wp2_with fail
    refine (SN.out _).mono ?_; rintro e w1 ⟨rfl, rfl⟩
    go_wp2_with fail
    refine (CN.out _).mono ?_; rintro e w1 ⟨rfl, rfl⟩
    go_wp2_with fail
    go_ret
    exact ⟨_, rfl, hold_none _ _ _, own_none _ _ _, Below.refl _ _⟩
  | some ad =>
    obtain ⟨vs, hvt, hvo, hlt, hnews⟩ : ∃ vs : List Bv, vs.map Bv.bn = bs ∧ (∀ x ∈ vs, x.v.ok w0 ∧ x.s.size ≤ 9223372036854775807) ∧ (0 < bs.length → ad.block < w.heap.size) ∧ ∀ q x, (rowBv vs)[q]? = some x → w.cell? (ad.add q) = some x := by
      rcases h with rfl | ⟨b, o, ha, hlt, hr⟩
      · exact ⟨[], rfl, (fun x hx => by cases hx), by simp, fun q x h => by simp [rowBv] at h⟩
      · cases ha
        obtain ⟨vs, hvt, hvo, hc⟩ := rows_vs hr
        exact ⟨vs, hvt, hvo, fun _ => Nat.lt_of_lt_of_le hlt hb0.size, fun q x hq => by rw [addr_row]; exact hb0.cell _ _ (hc q x hq)⟩
    have hvl : vs.length = bs.length := by rw [← hvt, List.length_map]
    have hrl : (rowBv vs).length = bs.length * 5 := by rw [rowBv_length, hvl]
    have HV := Lib.hid (And.intro hvt hvo)
    have H1 := Lib.hid (And.intro hrl (And.intro hnews (rowBv_one' vs)))
    have HVL := Lib.hid hvl
    clear hvt hvo hvl hrl hnews h hlt hb0
    go_enter Try.func33, Try.ntmps33
    go_wp2_with (at_builtin; refine wpList_append_own _ rfl _ _ 27 rfl w.heap.size 41 i0 (.agg #[.string ⟨#[]⟩, .int .i64 0, .string ⟨#[]⟩, .int .i64 0, .slice none 0 0]) 5 72 Try.underlying27 hi hz0 hz1 hz2 rfl (by decide) _ 0 _ rfl (World.ownsRow_nil _ _ _ _) ad bs.length c (rowBv vs) rfl H1.out.1 H1.out.2.1 H1.out.2.2 ?ap3 ?ap4 ?ap5 ?_)
    case ap3 => unfold maxLen; omega
    case ap4 => omega
    case ap5 => omega
    intro v1 w1 hown hgrow hnil
    have hb : Below w.heap.size w w1 := (Below.refl _ _).grown hgrow (Nat.le_refl _) (fun k hk => by cases hk)
    by_cases h0 : bs = []
    · subst h0
      obtain rfl : v1 = .slice none 0 0 := hnil.2 rfl
      have HB := Lib.hid hb
      clear hown hgrow hnil hb
      go_wp2_with fail
      refine (SN.out _).mono ?_; rintro e w2 ⟨rfl, rfl⟩
      go_wp2_with fail
      refine (CN.out _).mono ?_; rintro e w2 ⟨rfl, rfl⟩
      go_wp2_with fail
      go_ret
      exact ⟨_, rfl, hold_none _ _ _, own_none _ _ _, HB.out⟩
    · have hpos : 0 < bs.length := List.length_pos_iff.2 h0
      obtain ⟨_, ⟨rfl, hz⟩ | ⟨g, cap, cur, rfl, hg1, hgb, hgn, hgm, hgs, htake⟩⟩ := hown
      · exact absurd (hnil.1 rfl) h0
      have hgl : g < w1.heap.size := (Array.getElem?_eq_some_iff.1 hgb).1
      have hds : vs.toArray.size = bs.length := by rw [List.size_toArray]; exact HVL.out
      have hH : HoldsK Bv.cells 5 w1 g 0 vs.toArray := holdsK_own hgb (by rw [hds]; exact htake)
      have S := sortSt_any g cap vs.toArray w1 hH hgl (by rw [hds]; exact hlen)
      rw [hds] at S
      have HS := Lib.hid S
      have HH := Lib.hid (And.intro hH (And.intro hgl (And.intro hb hg1)))
      have HN := Lib.hid hgn
      have HG := Lib.hid (And.intro hgb (And.intro hgm hgs))
      have HPOS := Lib.hid hpos
      clear S hgrow hnil hgb hgs htake hds hH hgl hb hpos h0 hgm hgn hg1
      go_wp2_with fail
      refine HS.out.mono ?_; rintro e w2 ⟨rfl, d2, h1, h2, h3⟩
      have hs2 : d2.size = bs.length := by rw [h1.1, List.size_toArray]; exact HVL.out
      have K := compactB_any g cap d2 w2 (h3.holds HH.out.2.1 HH.out.1 h1.1) (Nat.lt_of_lt_of_le HH.out.2.1 h3.le) (by rw [hs2]; exact HN.out) (by rw [hs2]; exact hlen)
      rw [hs2] at K
      have HK := Lib.hid K
      have H2 := Lib.hid (And.intro h1 (And.intro h2 h3))
      clear K h1 h2 h3 hs2
      go_wp2_with fail
      refine HK.out.mono ?_; rintro e w3 ⟨d3, q, rfl, hq, h4, h5, h6⟩
      have hf := hold_of HV.out.2 HH.out.2.2.1 HH.out.2.2.2 HVL.out HN.out HPOS.out HH.out.2.1 HH.out.1 H2.out.1 H2.out.2.1 H2.out.2.2 hq h4 h5 h6 HG.out.1 HG.out.2.1 HG.out.2.2
      rw [HV.out.1] at hf
      have HF := Lib.hid hf
      clear hf hq h4 h5 h6
      go_wp2_with fail
      go_ret
      exact ⟨_, rfl, HF.out.1, HF.out.2.1, HF.out.2.2⟩
theorem of_own (v : Value) (bs : List Bn) (w0 w : World) (hv : Bds w0 v bs) (hb0 : Below w0.heap.size w0 w) (hlen : bs.length ≤ 1000000) :
    Calls Try.prog 33 #[v] w fun e w' => ∃ u, e = .returned u ∧ HoldBd w0 w' w.heap.size u (ofB bs) ∧ OwnBv w0 w' w.heap.size u (ofB bs) ∧ Below w.heap.size w w' := of_rd v bs w0 w hv (reads_below hb0) hlen
theorem of_bd (v : Value) (bs : List Bn) (w0 w : World) (hv : Bds w0 v bs) (hb0 : Below w0.heap.size w0 w) (hlen : bs.length ≤ 1000000) :
    Calls Try.prog 33 #[v] w fun e w' => ∃ u, e = .returned u ∧ HoldBd w0 w' w.heap.size u (ofB bs) ∧ Below w.heap.size w w' :=
  (of_own v bs w0 w hv hb0 hlen).mono fun _ _ ⟨u, h1, h2, _, h4⟩ => ⟨u, h1, h2, h4⟩
end Go.Proofs.Ytedljdcliilggaa
