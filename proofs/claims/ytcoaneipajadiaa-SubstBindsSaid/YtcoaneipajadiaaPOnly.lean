/-
  The binds of some names, by the program's Only: a copy of the names, sorted; the binds in order; those struck out whose name isn't among them.
-/
import Derived.Test.YtcoaneipajadiaaRBinds
import Derived.Test.YtcoaneipajadiaaPDel
import Derived.Test.YtcoaneipajadiaaPBss
import Derived.Sort.OwnSorted
import Derived.Deep.AppendLies
namespace Go.Proofs.Ytcoaneipajadiaa
open Go.RowKit Go.Shelf Go.Lib Go.Sort

theorem ltN_dec (x y : ByteArray) : ltN x y = decide (x.data.toList < y.data.toList) := by
  unfold ltN; rw [bytesLess_eq, ByteArray.toList_eq, ByteArray.toList_eq]
/-- Texts as the library sorts them. -/
def srt (zs : List ByteArray) : List ByteArray := ((zs.map fun s => s.data.toList).mergeSort fun x y => decide (x ≤ y)).map fun l => ⟨l.toArray⟩
theorem srt_len (zs : List ByteArray) : (srt zs).length = zs.length := by unfold srt; simp
theorem srt_mem (zs : List ByteArray) (s : ByteArray) : s ∈ srt zs ↔ s ∈ zs := by
  unfold srt
  simp only [List.mem_map, List.mem_mergeSort]
  constructor
  · rintro ⟨l, ⟨t, ht, rfl⟩, rfl⟩
    simpa using ht
  · intro h
    exact ⟨s.data.toList, ⟨s, h, rfl⟩, by simp⟩
theorem srt_has (zs : List ByteArray) (s : ByteArray) : Lib.containsS (srt zs) s = Lib.containsS zs s := by
  rw [Bool.eq_iff_iff, contains_iff, contains_iff, srt_mem]
theorem srt_rise (zs : List ByteArray) : RiseLe (srt zs) := by
  unfold RiseLe srt
  rw [List.pairwise_map]
  have h := List.pairwise_mergeSort (le := fun (x y : List UInt8) => decide (x ≤ y)) (fun a b c h1 h2 => by simp only [decide_eq_true_eq] at *; exact List.le_trans h1 h2) (fun a b => by
    rcases List.le_total a b with h | h <;> simp [h]) (zs.map fun s => s.data.toList)
  refine h.imp fun {a b} hab => ?_
  simp only [decide_eq_true_eq] at hab
  rw [ltN_dec]
  exact decide_eq_false (by simpa using hab)
theorem srt_enc (zs : List ByteArray) : (((zs.map fun s => s.data.toList).mergeSort fun x y => decide (x ≤ y)).map encStr) = (srt zs).map Value.string := by
  unfold srt; rw [List.map_map]; rfl
theorem enc_data (zs : List ByteArray) : (zs.map fun s => s.data.toList).map encStr = zs.map Value.string := by
  rw [List.map_map]
  refine List.map_congr_left fun s _ => ?_
  simp [encStr]

theorem strs_one5 (l : List ByteArray) : ∀ u ∈ l.map Value.string, u.oneCell' = true := by
  intro u hu; obtain ⟨s, _, rfl⟩ := List.mem_map.1 hu; rfl
theorem own_slice {w : World} {base : Nat} {e : TypeId} {size n : Nat} {v : Value} {xs : List Value} (h : w.ownsRow base e size v n xs) : ∃ a c, v = .slice a n c := by
  obtain ⟨_, ⟨rfl, rfl⟩ | ⟨g, cap, _, rfl, _⟩⟩ := h
  · exact ⟨none, 0, rfl⟩
  · exact ⟨_, cap, rfl⟩
/-- Texts in a row of the call's own, sorted by the library. -/
theorem sort_txt (v : Value) (zs : List ByteArray) (base : Nat) (W : World) (h : W.ownsRow base 9 1 v zs.length (zs.map Value.string)) (hl : zs.length ≤ 1000000) :
    Calls Try.prog 38 #[v] W fun e w' => e = .returned (.tuple #[]) ∧ w'.ownsRow base 9 1 v zs.length ((srt zs).map Value.string) ∧ W.grownBy w' v.ownBlock := by
  obtain ⟨hn, h | ⟨g, cap, cur, rfl, hb, hg, hcap, hmax, hsz, htake⟩⟩ := h
  · obtain ⟨rfl, h0⟩ := h
    have hz : zs = [] := List.eq_nil_of_length_eq_zero h0
    subst hz
    refine (Try.slices_Sort_string_none none 0 W).mono ?_
    rintro e w' ⟨rfl, rfl⟩
    have e : srt [] = [] := by unfold srt; simp
    rw [e]
    exact ⟨rfl, World.ownsRow_nil _ _ _ _, ⟨rfl, rfl, rfl, Nat.le_refl _, fun _ _ _ => rfl⟩⟩
  · have hlen : (zs.map fun s => s.data.toList).length = zs.length := by simp
    have hH : Holds encStr W g 0 (zs.map fun s => s.data.toList).toArray := holds_of_block hg (by rw [hlen, enc_data]; simpa using htake)
    have C := Try.slices_Sort_string g 0 cap (zs.map fun s => s.data.toList) W hH (Array.getElem?_eq_some_iff.1 hg).1 (by rw [hlen]; omega)
    rw [hlen] at C
    refine C.mono ?_
    rintro e w' ⟨rfl, n, os, rfl⟩
    have hs := ownsRow_sorted (w := W) (base := base) (n := n) (os := os) (cap := cap) (ss := zs.map fun s => s.data.toList) (ts := (zs.map fun s => s.data.toList).mergeSort fun x y => decide (x ≤ y)) (by simp) hb hg (by rw [hlen]; exact hcap) hmax hsz
    rw [hlen, srt_enc] at hs
    exact ⟨rfl, hs, grownBy_sorted _⟩

set_option maxRecDepth 100000 in
set_option maxHeartbeats 1000000 in
theorem only1_any (x : Bv) (W : World) (g3 : Nat) (a : Option Addr) (c : Nat) (zs : List ByteArray) (hg : g3 < W.heap.size) (hc : W.cell? ⟨g3, 0, none⟩ = some (.slice a zs.length c)) (hr : RiseLe zs) (hl : zs.length ≤ 1000000)
    (hrow : zs = [] ∨ ∃ b o, a = some ⟨b, o, none⟩ ∧ ∀ (j : Nat) s, zs[j]? = some s → W.cell? ⟨b, o + j, none⟩ = some (.string s)) :
    Calls Try.prog 40 #[.agg x.cells.toArray, .pointer (some ⟨g3, 0, none⟩)] W fun e w' => e = .returned (.bool (!Lib.containsS zs x.s)) ∧ ∃ q os', w' = grow (W.drewN q) os' := by
  have BS := Lib.hid (show Calls Try.prog 41 #[.slice a zs.length c, .string x.s] (W.alloc (.cells #[.string x.s, .int .i64 x.v.t.kind, .string x.v.t.name, .int .i64 x.v.t.n, .slice x.v.a x.v.t.args.length x.v.c] 50)) (fun e w' => ∃ i : Nat, e = Ending.returned (.tuple #[.int .i64 i, .bool (Lib.containsS zs x.s)]) ∧ ∃ q, w' = (W.alloc (.cells #[.string x.s, .int .i64 x.v.t.kind, .string x.v.t.name, .int .i64 x.v.t.n, .slice x.v.a x.v.t.args.length x.v.c] 50)).drewN q) from by
    rcases hrow with rfl | ⟨b, o, rfl, hcell⟩
    · have e : Lib.containsS [] x.s = false := by
        cases h : Lib.containsS [] x.s with
        | false => rfl
        | true => rw [contains_iff] at h; cases h
      rw [e]
      exact bss_none a c x.s _
    · exact bss_any b o c zs.length zs x.s _ rfl hl hr (fun j s hj => Lib.cell?_alloc_some _ (hcell j s hj)))
  have HG := Lib.hid (fun q => (show (W.alloc (.cells #[.string x.s, .int .i64 x.v.t.kind, .string x.v.t.name, .int .i64 x.v.t.n, .slice x.v.a x.v.t.args.length x.v.c] 50)).drewN q = grow (W.drewN q) #[.cells #[.string x.s, .int .i64 x.v.t.kind, .string x.v.t.name, .int .i64 x.v.t.n, .slice x.v.a x.v.t.args.length x.v.c] 50] from rfl))
  obtain ⟨b, hb⟩ : ∃ b, Lib.containsS zs x.s = b := ⟨_, rfl⟩
  rw [hb] at BS ⊢
  clear hb hr hrow
  obtain ⟨xs, ⟨xt, xa, xc⟩⟩ := x
  simp only [Bv.cells] at *
  go_enter Try.func40, Try.ntmps40
  go_wp2_with fail
  refine BS.out.mono ?_; rintro e w' ⟨i, rfl, q, rfl⟩
  rw [HG.out]
  generalize hX : grow (W.drewN q) _ = X
  have HX := Lib.hid hX
  clear hX
  go_wp2_with fail
  go_ret
  exact ⟨rfl, q, _, HX.out.symm⟩

set_option maxRecDepth 100000 in
set_option maxHeartbeats 1000000 in
theorem idxF_none (fv : Value) (w : World) : Calls Try.prog 58 #[.slice none 0 0, fv] w fun e w' => e = .returned (.int .i64 (-1)) ∧ w = w' := by
  go_enter Try.func58, Try.ntmps58
  go_wp2_with fail
  refine wp_loop_rounds 1 ?_; rw [rounds_succ]
  go_wp2_with fail
  go_ret
  exact ⟨rfl, rfl⟩
set_option maxRecDepth 100000 in
set_option maxHeartbeats 1000000 in
theorem delF_none (fv : Value) (w : World) : Calls Try.prog 39 #[.slice none 0 0, fv] w fun e w' => e = .returned (.slice none 0 0) ∧ w = w' := by
  have C := Lib.hid (idxF_none fv)
  go_enter Try.func39, Try.ntmps39
  go_wp2_with fail
  refine (C.out _).mono ?_; rintro e w' ⟨rfl, rfl⟩
  go_wp2_with fail
  go_ret
  exact ⟨rfl, rfl⟩
/-- Binds struck out whose name isn't among some. -/
theorem del_bd (v : Value) (bs : List Bn) (zs : List ByteArray) (w0 w : World) (base g3 : Nat) (a : Option Addr) (c : Nat) (hv : HoldBd w0 w base v bs) (hb : base ≤ w.heap.size) (hlen : bs.length ≤ 1000000) (hg : g3 < w.heap.size) (hg3 : g3 < base) (hc : w.cell? ⟨g3, 0, none⟩ = some (.slice a zs.length c)) (hr : RiseLe zs) (hl : zs.length ≤ 1000000)
    (hrow : zs = [] ∨ ∃ b o, a = some ⟨b, o, none⟩ ∧ b < base ∧ ∀ (j : Nat) s, zs[j]? = some s → w.cell? ⟨b, o + j, none⟩ = some (.string s)) :
    Calls Try.prog 39 #[v, .func (.func 40) #[] #[.pointer (some ⟨g3, 0, none⟩)]] w fun e w' =>
      ∃ u, e = .returned u ∧ HoldBd w0 w' base u (bs.filter (onB zs)) ∧ Below base w w' := by
  obtain ⟨vs, rfl, hvo, ⟨rfl, rfl⟩ | ⟨blk, cap, rfl, hbk, hlt, hcap, h0, hH⟩⟩ := hv
  · refine (delF_none _ w).mono ?_
    rintro e w' ⟨rfl, rfl⟩
    exact ⟨_, rfl, ⟨[], rfl, (fun _ h => nomatch h), .inl ⟨rfl, rfl⟩⟩, Below.refl _ _⟩
  · have hvl : vs.length ≤ 1000000 := by rwa [List.length_map] at hlen
    have eg : ∀ args w, (callFunc 40 args).run Try.prog w = .ok (.enter 40 args) w := enters_of Try.func40 (by kernel_rfl) rfl
    have hp : PredLays Try.prog 40 #[.pointer (some ⟨g3, 0, none⟩)] Bv.cells 5 (fun x => !Lib.containsS zs x.s) blk 0 vs.length w := fun m os dk hdk x => by
      have hgb : w.grownBy (sortWorldK Bv.cells 5 w blk 0 m dk os) (some blk) := grownBy_sortW (d := dk) ⟨m, os, rfl⟩
      have far : ∀ (k o : Nat) (u : Value), k < base → w.cell? ⟨k, o, none⟩ = some u → (sortWorldK Bv.cells 5 w blk 0 m dk os).cell? ⟨k, o, none⟩ = some u := fun k o u hk hu => by
        rw [World.cell?_of_block (w := w) (hgb.block k (by omega) (by intro e; injection e with e; omega))]; exact hu
      exact only1_any x _ g3 a c zs (Nat.lt_of_lt_of_le hg hgb.size) (far g3 0 _ hg3 hc) hr hl (by
        rcases hrow with h | ⟨b, o, ha, hbb, hcell⟩
        · exact .inl h
        · exact .inr ⟨b, o, ha, fun j s hj => far b (o + j) _ hbb (hcell j s hj)⟩)
    have hsz : vs.toArray.size = vs.length := by simp
    have C := del_gen tyC Try.func58 Try.func39 (fun x => !Lib.containsS zs x.s) 40 #[.pointer (some ⟨g3, 0, none⟩)] eg zeroBv #[.string ⟨#[]⟩, .int .i64 0, .string ⟨#[]⟩, .int .i64 0, .slice none 0 0] (fun _ => by kernel_rfl) (by rfl) (by kernel_rfl) blk 0 cap vs.length vs.toArray vs.toArray w w hp (rowKBv hH hlt) (SWK.start hH) hsz hsz hcap hvl
    refine C.mono ?_
    rintro e w' ⟨d', q, rfl, hq, hs', hk, hS⟩
    have hlq : (d'.toList.take q).length = q := by rw [List.length_take, Array.length_toList]; omega
    have hfil : (d'.toList.take q).map Bv.bn = (vs.map Bv.bn).filter (onB zs) := by
      rw [hk, List.filter_map]
      congr 1
      refine List.filter_congr fun x _ => ?_
      simp [onB, Bv.bn]
    have hH' : HoldsK Bv.cells 5 w' blk 0 d' := hS.holds hlt hH (by omega)
    refine ⟨_, rfl, ⟨d'.toList.take q, hfil, fun x hx => ?_, .inr ⟨blk, cap, by rw [hlq], hbk, Nat.lt_of_lt_of_le hlt hS.le, by omega, h0, holdsK_part (q := q) hH' (by simp) (by omega)⟩⟩, below_sortW hS (Below.refl _ _) hb hbk⟩
    rw [hk] at hx
    exact hvo x (by have := (List.mem_filter.1 hx).1; simpa using this)

set_option maxRecDepth 100000 in
set_option maxHeartbeats 2000000 in
theorem only_bd (v ns : Value) (bs : List Bn) (zs : List ByteArray) (w0 w : World) (hv : Bds w0 v bs) (hns : Strs w0 ns zs) (hb0 : Below w0.heap.size w0 w) (hlen : bs.length ≤ 1000000) (hzl : zs.length ≤ 1000) :
    Calls Try.prog 19 #[v, ns] w fun e w' => ∃ u, e = .returned u ∧ Bds w' u ((ofB bs).filter (onB zs)) ∧ Below w.heap.size w w' := by
  obtain ⟨i0, hi, hz0, hz1, hz2⟩ := info_parts strInfo
  have OF := Lib.hid (fun (W : World) (h : Below w.heap.size w W) => of_bd v bs w0 W hv (hb0.trans (h.mono hb0.size)) hlen)
  have ST := Lib.hid (fun (u : Value) (W : World) (h : W.ownsRow w.heap.size 9 1 u zs.length (zs.map Value.string)) => sort_txt u zs w.heap.size W h (by omega))
  have DL := Lib.hid (fun (u : Value) (W : World) (base g3 : Nat) (a : Option Addr) (c : Nat) hv hb hg hg3 hc hrow => del_bd u (ofB bs) (srt zs) w0 W base g3 a c hv hb (Nat.le_trans (ofB_length bs) hlen) hg hg3 hc (srt_rise zs) (by rw [srt_len]; omega) hrow)
  have HON := Lib.hid (show (ofB bs).filter (onB (srt zs)) = (ofB bs).filter (onB zs) from List.filter_congr fun x _ => srt_has zs x.1)
  have HLE := Lib.hid (show ((ofB bs).filter (onB zs)).length ≤ 9223372036854775807 from Nat.le_trans (List.length_filter_le _ _) (by have := ofB_length bs; omega))
  have HB0 := Lib.hid hb0
  obtain ⟨a, c, rfl, _, _⟩ := hv
  obtain ⟨an, cn, rfl, _, hrow⟩ := hns
  cases an with
  | none =>
    obtain rfl : zs = [] := by
      rcases hrow with h | ⟨b, o, ha, _⟩
      · exact h
      · cases ha
    clear hrow hb0
    go_enter Try.func19, Try.ntmps19
    go_wp2_with (at_builtin; refine wpList_append_own_none rfl _ _ 26 rfl w.heap.size 9 i0 1 Try.underlying26 hi _ 0 _ rfl (World.ownsRow_nil _ _ _ _) rfl ?_)
    have hb : Below w.heap.size w w := Below.refl _ _
    have hown : w.ownsRow w.heap.size 9 1 (.slice none 0 0) ([] : List ByteArray).length (([] : List ByteArray).map Value.string) := World.ownsRow_nil _ _ _ _
    have hb2 := hb.alloc hb.size (.cells #[.slice none 0 0] 26)
    have hown2 := hown.alloc (.cells #[.slice none 0 0] 26)
    have hbx := World.cell?_alloc_mark w #[.slice none 0 0] 26 (0, 0) 0
    have hlt2 : w.heap.size < (w.alloc (.cells #[.slice none 0 0] 26)).heap.size := by simp
    have hne : some w.heap.size ≠ (Value.slice none 0 0).ownBlock := fun e => by have := (hown.lt _ e.symm).2; omega
    obtain ⟨W2, hW2⟩ : ∃ W2, W2 = w.alloc (.cells #[.slice none 0 0] 26) := ⟨_, rfl⟩
    rw [← hW2] at hb2 hown2 hbx hlt2
    have S := Lib.hid (ST.out _ W2 hown2)
    have HB2 := Lib.hid hb2
    have HW := Lib.hid hb.size
    have HO2 := Lib.hid hown2
    have HBX := Lib.hid (And.intro hbx (And.intro hlt2 hne))
    clear hown hb hb2 hown2 hbx hlt2 hne
    go_wp2_with fail
    rw [← hW2]
    clear hW2
    refine S.out.mono ?_; rintro e w3 ⟨rfl, hown3, hg3⟩
    have hb3 : Below w.heap.size w w3 := HB2.out.grown hg3 HB2.out.size (own_row_ge HO2.out)
    have hbx3 := (hg3.cell_far ⟨w.heap.size, 0, none⟩ HBX.out.2.1 HBX.out.2.2).trans HBX.out.1
    have HG3 := Lib.hid (show w.heap.size < w3.heap.size from Nat.lt_of_lt_of_le HBX.out.2.1 hg3.size)
    have HB3 := Lib.hid hb3
    have HC3 := Lib.hid hbx3
    have HO3 := Lib.hid hown3
    clear hb3 hbx3 hown3 hg3
    go_wp2_with fail
    refine (OF.out _ HB3.out).mono ?_; rintro e w4 ⟨u, rfl, hu, hb4⟩
    have HD := Lib.hid (DL.out u w4 w3.heap.size w.heap.size none 0 hu hb4.size (Nat.lt_of_lt_of_le HG3.out hb4.size) HG3.out (by rw [srt_len]; exact (hb4.cell (p := ⟨w.heap.size, 0, none⟩) HG3.out).trans HC3.out) (by
      rcases own_cells HO3.out with ⟨_, h0⟩ | ⟨g, cap, hv, hgl, _, hcell⟩
      · exact .inl h0
      · cases hv))
    obtain ⟨au, nu, cu, rfl⟩ : ∃ au nu cu, u = .slice au nu cu := by
      obtain ⟨vs, _, _, ⟨h, _⟩ | ⟨blk, cap, h, _⟩⟩ := hu
      · exact ⟨_, _, _, h⟩
      · exact ⟨_, _, _, h⟩
    have HB4 := Lib.hid hb4
    clear hu hb4
    go_wp2_with fail
    refine HD.out.mono ?_; rintro e w5 ⟨u5, rfl, hu5, hb5⟩
    have hB5 := HB4.out.trans hb5
    have HB5 := Lib.hid (below_next HB3.out hB5)
    have hbd := hu5.bds (HB0.out.trans (HB5.out.mono HB0.out.size)) (by rw [HON.out]; exact HLE.out)
    rw [HON.out] at hbd
    have HE := Lib.hid hbd
    clear hu5 hb5 hB5 hbd
    go_wp2_with fail
    go_ret
    exact ⟨_, rfl, HE.out, HB5.out⟩
  | some ad =>
    obtain ⟨hlt, hnews⟩ : (0 < zs.length → ad.block < w.heap.size) ∧ ∀ q x, (zs.map Value.string)[q]? = some x → w.cell? (ad.add q) = some x := by
      rcases hrow with rfl | ⟨b, o, ha, hlt, hr⟩
      · exact ⟨by simp, fun q x h => by simp at h⟩
      · cases ha
        refine ⟨fun _ => Nat.lt_of_lt_of_le hlt hb0.size, fun q x hq => ?_⟩
        rw [addr_row]
        rw [List.getElem?_map] at hq
        obtain ⟨y, hy, rfl⟩ := Option.map_eq_some_iff.1 hq
        have hql := (List.getElem?_eq_some_iff.1 hy).1
        refine (hb0.cell (p := ⟨b, o + q, none⟩) hlt).trans ((hr q hql).trans ?_)
        simp [List.getD, hy]
    have H1 := Lib.hid (And.intro (show (zs.map Value.string).length = zs.length * 1 by simp) (And.intro hnews (strs_one5 zs)))
    clear hnews hrow hb0 hlt
    go_enter Try.func19, Try.ntmps19
    go_wp2_with (at_builtin; refine wpList_append_own _ rfl _ _ 26 rfl w.heap.size 9 i0 (.string ⟨#[]⟩) 1 16 Try.underlying26 hi hz0 hz1 hz2 rfl (by decide) _ 0 _ rfl (World.ownsRow_nil _ _ _ _) ad zs.length cn (zs.map Value.string) rfl H1.out.1 H1.out.2.1 H1.out.2.2 ?ap3 ?ap4 ?ap5 ?_)
    case ap3 => unfold maxLen; omega
    case ap4 => omega
    case ap5 => omega
    intro v1 w1 hown0 hgrow _
    have hb : Below w.heap.size w w1 := (Below.refl _ _).grown hgrow (Nat.le_refl _) (fun k hk => by cases hk)
    have hown : w1.ownsRow w.heap.size 9 1 v1 zs.length (zs.map Value.string) := by simpa using hown0
    clear hown0 hgrow
    obtain ⟨a1, c1, rfl⟩ := own_slice hown
    have hb2 := hb.alloc hb.size (.cells #[.slice a1 zs.length c1] 26)
    have hown2 := hown.alloc (.cells #[.slice a1 zs.length c1] 26)
    have hbx := World.cell?_alloc_mark w1 #[.slice a1 zs.length c1] 26 (0, 0) 0
    have hlt2 : w1.heap.size < (w1.alloc (.cells #[.slice a1 zs.length c1] 26)).heap.size := by simp
    have hne : some w1.heap.size ≠ (Value.slice a1 zs.length c1).ownBlock := fun e => by have := (hown.lt _ e.symm).2; omega
    obtain ⟨W2, hW2⟩ : ∃ W2, W2 = w1.alloc (.cells #[.slice a1 zs.length c1] 26) := ⟨_, rfl⟩
    rw [← hW2] at hb2 hown2 hbx hlt2
    have S := Lib.hid (ST.out _ W2 hown2)
    have HB2 := Lib.hid hb2
    have HW := Lib.hid hb.size
    have HO2 := Lib.hid hown2
    have HBX := Lib.hid (And.intro hbx (And.intro hlt2 hne))
    clear hown hb hb2 hown2 hbx hlt2 hne
    go_wp2_with fail
    rw [← hW2]
    clear hW2
    refine S.out.mono ?_; rintro e w3 ⟨rfl, hown3, hg3⟩
    have hb3 : Below w.heap.size w w3 := HB2.out.grown hg3 HB2.out.size (own_row_ge HO2.out)
    have hbx3 := (hg3.cell_far ⟨w1.heap.size, 0, none⟩ HBX.out.2.1 HBX.out.2.2).trans HBX.out.1
    have HG3 := Lib.hid (show w1.heap.size < w3.heap.size from Nat.lt_of_lt_of_le HBX.out.2.1 hg3.size)
    have HB3 := Lib.hid hb3
    have HC3 := Lib.hid hbx3
    have HO3 := Lib.hid hown3
    clear hb3 hbx3 hown3 hg3
    go_wp2_with fail
    refine (OF.out _ HB3.out).mono ?_; rintro e w4 ⟨u, rfl, hu, hb4⟩
    have HD := Lib.hid (DL.out u w4 w3.heap.size w1.heap.size a1 c1 hu hb4.size (Nat.lt_of_lt_of_le HG3.out hb4.size) HG3.out (by rw [srt_len]; exact (hb4.cell (p := ⟨w1.heap.size, 0, none⟩) HG3.out).trans HC3.out) (by
      rcases own_cells HO3.out with ⟨_, h0⟩ | ⟨g, cap, hv, hgl, _, hcell⟩
      · exact .inl h0
      · obtain rfl : a1 = some ⟨g, 0, none⟩ := by injection hv
        exact .inr ⟨g, 0, rfl, hgl, fun j s hj => (hb4.cell (p := ⟨g, 0 + j, none⟩) hgl).trans (hcell j s hj)⟩))
    obtain ⟨au, nu, cu, rfl⟩ : ∃ au nu cu, u = .slice au nu cu := by
      obtain ⟨vs, _, _, ⟨h, _⟩ | ⟨blk, cap, h, _⟩⟩ := hu
      · exact ⟨_, _, _, h⟩
      · exact ⟨_, _, _, h⟩
    have HB4 := Lib.hid hb4
    clear hu hb4
    go_wp2_with fail
    refine HD.out.mono ?_; rintro e w5 ⟨u5, rfl, hu5, hb5⟩
    have hB5 := HB4.out.trans hb5
    have HB5 := Lib.hid (below_next HB3.out hB5)
    have hbd := hu5.bds (HB0.out.trans (HB5.out.mono HB0.out.size)) (by rw [HON.out]; exact HLE.out)
    rw [HON.out] at hbd
    have HE := Lib.hid hbd
    clear hu5 hb5 hB5 hbd
    go_wp2_with fail
    go_ret
    exact ⟨_, rfl, HE.out, HB5.out⟩
end Go.Proofs.Ytcoaneipajadiaa
