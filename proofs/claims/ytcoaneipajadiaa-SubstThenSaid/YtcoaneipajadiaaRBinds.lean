/-
  The names that binds have, each once, rising, by the reference of layer 5: names.
  Binds by their names, of each name the first one, by the reference of layer 5: Of.
  One bind more, by the reference of layer 5: With.
  The binds of some names, by the reference of layer 5: Only.
-/
import Derived.Test.YtcoaneipajadiaaOfBd
import Derived.Test.YtcoaneipajadiaaIn01
import Derived.Maps.AppendAt
import Derived.Test.YtcoaneipajadiaaBds
import Derived.Test.YtcoaneipajadiaaFresh
import Derived.Laws.AppendOwnNone
import Derived.Deep.RegionWith
import Derived.BigQuiet
import Derived.Deep.QuietTactic
import Derived.Test.YtcoaneipajadiaaApBd
import Derived.Test.YtcoaneipajadiaaPWith
namespace Go.Proofs.Ytcoaneipajadiaa
open Go.RowKit

/-- s[l:] of a row of texts. -/
def cutS (g o cap l : Nat) : Addr := if cap = l then ⟨g, o, none⟩ else ⟨g, o + l, none⟩
theorem cutS_of {g o cap l : Nat} (h : l < cap) : cutS g o cap l = ⟨g, o + l, none⟩ := by unfold cutS; rw [if_neg (by omega)]
theorem cuts_from (g o len cap l : Nat) (hl : l ≤ len) (w : World) :
    (Instr.slice 26 (.slice (some ⟨g, o, none⟩) len cap) (some (.int .i64 (l : Int))) none none).run Try.prog w = .ok (.slice (some (cutS g o cap l)) (len - l) (cap - l)) w := by
  have hu := Try.underlying26
  have hz := Try.sizeOf9
  have he : Try.prog.elem 26 = 9 := by kernel_rfl
  rw [run_slice_l w 26 _ len cap (by rw [he]; exact hu) .i64 l (by omega) (by omega), he]
  simp only [hz, Result.andThen, sliced, Int.toNat_natCast, Nat.mul_one]
  unfold cutS
  by_cases h : cap = l
  · rw [if_pos h, if_pos h]
  · rw [if_neg h, if_neg h]
    have : (Option.map (fun x => x.add l) (some (⟨g, o, none⟩ : Addr))) = some ⟨g, o + l, none⟩ := by
      simp only [Option.map_some]
      unfold Addr.add
      split
      · next h => rw [h]; simp
      · rfl
    rw [this]
theorem cuts_to (g o len cap h : Nat) (hh : h ≤ cap) (h0 : 0 < cap) (w : World) :
    (Instr.slice 26 (.slice (some ⟨g, o, none⟩) len cap) none (some (.int .i64 (h : Int))) none).run Try.prog w = .ok (.slice (some ⟨g, o, none⟩) h cap) w := by
  have hu := Try.underlying26
  have hz := Try.sizeOf9
  have he : Try.prog.elem 26 = 9 := by kernel_rfl
  rw [run_slice_h w 26 _ len cap (by rw [he]; exact hu) .i64 h (by omega) (by omega), he]
  simp only [hz, Result.andThen, sliced, Int.toNat_natCast]
  rw [if_neg (by omega)]
  rfl
/-- The place of a name: all before it are less. -/
def PassN (l : List ByteArray) (s : ByteArray) (j : Nat) : Prop := ∀ i (h : i < l.length), i < j → ltN l[i] s = true
theorem PassN.succ {l : List ByteArray} {s : ByteArray} {j : Nat} (h : PassN l s j) (hj : j < l.length) (hl : ltN l[j] s = true) : PassN l s (j + 1) := fun i hi hij => by
  by_cases e : i = j
  · subst e; exact hl
  · exact h i hi (by omega)
theorem insW_at : ∀ {l : List ByteArray} {s : ByteArray} {j : Nat}, PassN l s j → j ≤ l.length → (∀ h : j < l.length, ltN l[j] s = false) → insW l s = l.take j ++ s :: l.drop j
  | [], s, j, _, hj, _ => by
    obtain rfl : j = 0 := by simpa using hj
    rfl
  | x :: l, s, 0, _, _, hs => by
    have : ltN x s = false := hs (by simp)
    rw [insW, if_neg (by rw [this]; simp)]; rfl
  | x :: l, s, j + 1, hp, hj, hs => by
    have h0 : ltN x s = true := hp 0 (by simp) (by omega)
    rw [insW, if_pos h0, insW_at (l := l) (s := s) (j := j) (fun i hi hij => by have := hp (i + 1) (by simpa using hi) (by omega); simpa using this) (by simpa using hj) (fun h => by have := hs (by simpa using h); simpa using this)]
    rfl
theorem insW_len (s : ByteArray) : ∀ l : List ByteArray, (insW l s).length = l.length + 1
  | [] => rfl
  | x :: l => by
    rw [insW]
    split
    · rw [List.length_cons, insW_len s l, List.length_cons]
    · rfl
theorem insN_len (l : List ByteArray) (s : ByteArray) : (insN l s).length ≤ l.length + 1 := by
  unfold insN; split
  · omega
  · rw [insW_len]; omega
theorem namesB_take {l : List Bn} {k : Nat} {x : Bn} (h : l[k]? = some x) : namesB (l.take (k + 1)) = insN (namesB (l.take k)) x.1 := by
  obtain ⟨hk, rfl⟩ := List.getElem?_eq_some_iff.1 h
  unfold namesB; rw [List.take_succ_eq_append_getElem hk, List.foldl_append]; rfl
theorem namesB_len (l : List Bn) : (namesB l).length ≤ l.length := by
  have : ∀ (l : List Bn) (acc : List ByteArray), (l.foldl (fun acc x => insN acc x.1) acc).length ≤ acc.length + l.length := by
    intro l
    induction l with
    | nil => intro acc; simp
    | cons x r ih => intro acc; rw [List.foldl_cons, List.length_cons]; have := ih (insN acc x.1); have := insN_len acc x.1; omega
  simpa [namesB] using this l []
/-- The row of names that the call itself has made. -/
def OwnS (w w' : World) (u : Value) (zs : List ByteArray) : Prop := w'.ownsRow w.heap.size 9 1 u zs.length (zs.map Value.string)
theorem strs_one (l : List ByteArray) : ∀ u ∈ l.map Value.string, u.oneCell' = true := by
  intro u hu; obtain ⟨s, _, rfl⟩ := List.mem_map.1 hu; rfl

set_option maxRecDepth 100000 in
set_option maxHeartbeats 8000000 in
theorem rnames_any (v : Value) (bs : List Bn) (w0 w : World) (hv : Bds w0 v bs) (hb0 : Below w0.heap.size w0 w) (hlen : bs.length ≤ 1000) :
    Calls Try.prog 37 #[v] w fun e w' => ∃ u, e = .returned u ∧ OwnS w w' u (namesB bs) ∧ Below w.heap.size w w' := by
  obtain ⟨i0, hi, hz0, hz1, hz2⟩ := info_parts strInfo
  obtain ⟨a, c, rfl, hlm, hrow⟩ := hv
  have IN := Lib.hid (fun v zs s w hv => rin_any v zs s w hv)
  have HB := Lib.hid hb0
  have HR := Lib.hid hrow
  clear hb0 hrow
  go_enter Try.func37, Try.ntmps37
  go_wp2_with fail
  go_loopw [3, 10] (fun o i wr => ∃ (k : Nat) (zs : List ByteArray), k ≤ bs.length ∧ i = .int .i64 k ∧ Hid (zs = namesB (bs.take k)) ∧ ((zs = [] ∧ o = .slice none 0 0) ∨ zs ≠ []) ∧
    wr.ownsRow w.heap.size 9 1 o zs.length (zs.map Value.string) ∧ Below w.heap.size w wr) (fun _ i _ => bs.length - (intOf i).toNat)
  case atStart => exact ⟨0, [], Nat.zero_le _, rfl, Lib.hid rfl, .inl ⟨rfl, rfl⟩, World.ownsRow_nil _ _ _ _, Below.refl _ _⟩
  case round =>
    obtain ⟨k, zs, hk, rfl, HZ, hzn, hown, hb⟩ := hrel
    have hbs := hb.size
    have hzl : zs.length ≤ 1000 := by
      have := namesB_len (bs.take k)
      rw [← HZ.out, List.length_take] at this; omega
    by_cases hkl : k < bs.length
    · obtain ⟨b, o, rfl, hlt, hat⟩ := HR.out.resolve_left (by intro h; rw [h] at hkl; simp at hkl)
      obtain ⟨x, hx⟩ : ∃ x, bs[k]? = some x := ⟨_, List.getElem?_eq_getElem hkl⟩
      obtain ⟨y, hyx, _, hy⟩ := bdAt_bv (hat k x hx)
      have hb0r := HB.out.trans (hb.mono HB.out.size)
      obtain ⟨m0, m1, m2, m3, m4⟩ : BvAt wr b (o + k * 5) y := ⟨(hb0r.cell (p := ⟨b, o + k * 5, none⟩) hlt).trans hy.c0, (hb0r.cell (p := ⟨b, o + k * 5 + 1, none⟩) hlt).trans hy.c1, (hb0r.cell (p := ⟨b, o + k * 5 + 2, none⟩) hlt).trans hy.c2, (hb0r.cell (p := ⟨b, o + k * 5 + 3, none⟩) hlt).trans hy.c3, (hb0r.cell (p := ⟨b, o + k * 5 + 4, none⟩) hlt).trans hy.c4⟩
      have HST := Lib.hid (show namesB (bs.take (k + 1)) = insN zs y.s by rw [namesB_take hx, ← HZ.out, ← hyx]; rfl)
      have hk0 : (0 : Int) ≤ (k : Int) := by omega
      have hk1 : (k : Int) < (bs.length : Int) := by omega
      have HOWN := Lib.hid hown
      have hkd : decide ((k : Int) < (bs.length : Int)) = true := decide_eq_true hk1
      clear hy hat hx hb0r hyx
      have I := Lib.hid (IN.out _ zs y.s (wr.alloc (.cells #[.string y.s, .int .i64 y.v.t.kind, .string y.v.t.name, .int .i64 y.v.t.n, .slice y.v.a y.v.t.args.length y.v.c] 50)) (strs_of_own (hown.alloc _) (by omega)))
      cases hc : Lib.containsS zs y.s with
      | true =>
        rw [hc] at I
        have HNX := Lib.hid (show zs = namesB (bs.take (k + 1)) by rw [HST.out]; unfold insN; rw [if_pos hc])
        have HOX := Lib.hid (hown.alloc (.cells #[.string y.s, .int .i64 y.v.t.kind, .string y.v.t.name, .int .i64 y.v.t.n, .slice y.v.a y.v.t.args.length y.v.c] 50))
        have HBX := Lib.hid (hb.alloc hbs (.cells #[.string y.s, .int .i64 y.v.t.kind, .string y.v.t.name, .int .i64 y.v.t.n, .slice y.v.a y.v.t.args.length y.v.c] 50))
        have HZN := Lib.hid hzn
        clear hown hb hzn
        go_wp2_with fail
        refine I.out.mono ?_; rintro e w2 ⟨rfl, rfl⟩
        go_wp2_with fail
        go_roundw
        case rel => exact ⟨k + 1, zs, by omega, by go_num, HNX, HZN.out, HOX.out, HBX.out⟩
        case measure => simp [intOf]; omega
      | false =>
        rw [hc] at I
        have HNI := Lib.hid (show namesB (bs.take (k + 1)) = insW zs y.s by rw [HST.out]; unfold insN; rw [if_neg (by rw [hc]; simp)])
        rcases hzn with ⟨rfl, rfl⟩ | hzn
        · clear hown
          go_wp2_with fail
          refine I.out.mono ?_; rintro e w2 ⟨rfl, rfl⟩
          go_wp2_with fail
          refine wp_loop_rounds 1 ?_; rw [rounds_succ]
          go_wp2_with fail
          go_quiet (fail)
          go_wp2_with (at_builtin; refine wpList_append_own _ rfl _ _ 26 rfl w.heap.size 9 i0 (.string ⟨#[]⟩) 1 16 Try.underlying26 hi hz0 hz1 hz2 rfl (by decide) _ 0 _ rfl (World.ownsRow_nil _ _ _ _) ⟨wr.heap.size + 1, 0, none⟩ 1 1 [.string y.s] rfl rfl ?n1 (by simp [Value.oneCell']) ?n3 ?n4 ?n5 ?_)
          case n1 =>
            have e : wr.heap.size + 1 = ((wr.alloc (.cells #[.string y.s, .int .i64 y.v.t.kind, .string y.v.t.name, .int .i64 y.v.t.n, .slice y.v.a y.v.t.args.length y.v.c] 50)).drewN nq).heap.size := by simp
            rw [e]; exact cell_one_new _ _ _
          case n3 => unfold maxLen; omega
          case n4 => omega
          case n5 => simp; omega
          intro v2 w7 hown7 hgrow7 _
          have hb7 : Below w.heap.size w w7 := by
            refine Below.grown ?_ hgrow7 (by simp; omega) (fun q hq => by cases hq)
            exact (below_drewN (hb.alloc hbs _) _).alloc (by simp; omega) _
          have HB7 := Lib.hid hb7
          have HO7 := Lib.hid hown7
          clear hgrow7 hb7
          go_wp2_with (at_builtin; refine wpList_append_own_none rfl _ _ 26 rfl w.heap.size 9 i0 1 Try.underlying26 hi _ 1 _ rfl hown7 rfl ?_)
          clear hown7
          go_wp2_with fail
          go_roundw
          case rel => exact ⟨k + 1, [y.s], by omega, by go_num, Lib.hid (by rw [HNI.out]; rfl), .inr (by simp), HO7.out, HB7.out⟩
          case measure => simp [intOf]; omega
        · obtain ⟨wo, hwo⟩ : ∃ wo, wo = wr := ⟨wr, rfl⟩
          subst hwo
          obtain ⟨hrl, h0 | ⟨g, cap, cur, rfl, hg1, hgg, hgn, hgm, hgs, hgt⟩⟩ := hown
          · exfalso; exact hzn (List.eq_nil_of_length_eq_zero h0.2)
          have hglt : g < wo.heap.size := by
            rcases Nat.lt_or_ge g wo.heap.size with h | h
            · exact h
            · rw [Array.getElem?_eq_none h] at hgg; cases hgg
          have hvpos : 0 < zs.length := List.length_pos_iff.2 hzn
          have CEL := Lib.hid (fun (q : Nat) (x : ByteArray) (hq : zs[q]? = some x) => (show wo.cell? ⟨g, q, none⟩ = some (.string x) from by
            have hql : q < zs.length := (List.getElem?_eq_some_iff.1 hq).1
            have e : (zs.map Value.string)[q]? = some (.string x) := by rw [List.getElem?_map, hq]; rfl
            rw [cell_of_row wo g q cur _ (0, 0) hgg, ← e, ← hgt, List.getElem?_take, if_pos (by omega)]
            simp))
          clear hrl hgg hgs hgt
          go_wp2_with fail
          refine I.out.mono ?_; rintro e w2 ⟨rfl, rfl⟩
          go_wp2_with fail
          go_loopw [6] (fun i wr => ∃ j : Nat, j ≤ zs.length ∧ i = .int .i64 j ∧ Hid (PassN zs y.s j) ∧ Below (wo.heap.size + 1) (wo.alloc (.cells #[.string y.s, .int .i64 y.v.t.kind, .string y.v.t.name, .int .i64 y.v.t.n, .slice y.v.a y.v.t.args.length y.v.c] 50)) wr) (fun i _ => zs.length - (intOf i).toNat)
          case atStart => exact ⟨0, Nat.zero_le _, rfl, Lib.hid (fun i h hi => by omega), Below.refl _ _⟩
          case round =>
            obtain ⟨j, hj, rfl, HPASS, hbx0⟩ := hrel
            have hbxs := hbx0.size
            simp at hbxs
            have hbwx : Below wo.heap.size wo wr := below_pair hbx0
            have x0 : wr.cell? ⟨wo.heap.size, 0, none⟩ = some (.string y.s) := (hbx0.cell (p := ⟨wo.heap.size, 0, none⟩) (by simp)).trans (World.cell?_alloc_mark wo #[.string y.s, .int .i64 y.v.t.kind, .string y.v.t.name, .int .i64 y.v.t.n, .slice y.v.a y.v.t.args.length y.v.c] 50 (0, 0) 0)
            by_cases hjl : j < zs.length
            · have hjl' : (j : Int) < (zs.length : Int) := by omega
              have hjd : decide ((j : Int) < (zs.length : Int)) = true := decide_eq_true hjl'
              have hj0 : (0 : Int) ≤ (j : Int) := by omega
              obtain ⟨z, hz⟩ : ∃ z, zs[j]? = some z := ⟨_, List.getElem?_eq_getElem hjl⟩
              have e0 : wr.cell? ⟨g, j, none⟩ = some (.string z) := (hbwx.cell (p := ⟨g, j, none⟩) hglt).trans (CEL.out j z hz)
              have HZJ := Lib.hid (show zs[j] = z by rw [List.getElem?_eq_getElem hjl] at hz; exact Option.some.inj hz)
              have hwl : wo.heap.size < wr.heap.size := by omega
              clear hz hbwx
              cases hlt2 : Op.bytesLess z.toList y.s.toList with
              | true =>
                go_wp2_with fail
                go_quiet (fail)
                go_wp2_with fail
                go_roundw
                case rel => exact ⟨j + 1, by omega, by go_num, Lib.hid (HPASS.out.succ hjl (by rw [HZJ.out]; exact hlt2)), below_drewN hbx0 _⟩
                case measure => simp [intOf]; omega
              | false =>
                have HFIN := Lib.hid (insW_at HPASS.out hj (fun h => by rw [HZJ.out]; exact hlt2))
                go_wp2_with fail
                go_quiet (fail)
                clear e0
                obtain ⟨w5, hw5⟩ : ∃ w5, w5 = wr.drewN nq := ⟨_, rfl⟩
                rw [← hw5]
                have hbx1 : Below (wo.heap.size + 1) (wo.alloc (.cells #[.string y.s, .int .i64 y.v.t.kind, .string y.v.t.name, .int .i64 y.v.t.n, .slice y.v.a y.v.t.args.length y.v.c] 50)) w5 := by rw [hw5]; exact below_drewN hbx0 nq
                have hbw : Below wo.heap.size wo w5 := below_pair hbx1
                clear hw5 hbx0 x0
                have hbs5 := hbw.size
                have hwl5 : wo.heap.size < w5.heap.size := by
                  have := hbx1.size
                  simp at this; omega
                have hgc : g < w5.heap.size := by omega
                have hcells : ∀ q x, zs[q]? = some x → w5.cell? ⟨g, q, none⟩ = some (.string x) := fun q x hq => by
                  rw [hbw.cell (p := ⟨g, q, none⟩) hglt]; exact CEL.out q x hq
                have hnews1 : ∀ q x, ((zs.take j).map Value.string)[q]? = some x → w5.cell? ((⟨g, 0, none⟩ : Addr).add q) = some x := fun q x hq => by
                  rw [List.getElem?_map, List.getElem?_take] at hq
                  split at hq
                  · have e : ((⟨g, 0, none⟩ : Addr).add q) = ⟨g, q, none⟩ := by
                      unfold Addr.add; split
                      · next h => subst h; rfl
                      · simp
                    obtain ⟨z, hz, rfl⟩ := Option.map_eq_some_iff.1 hq
                    rw [e]; exact hcells q z hz
                  · cases hq
                have hlen1 : ((zs.take j).map Value.string).length = j * 1 := by rw [List.length_map, List.length_take]; omega
                have H1 := Lib.hid (And.intro hlen1 (And.intro hnews1 (strs_one (zs.take j))))
                have HC := Lib.hid hcells
                have hct := fun W => cuts_to g 0 zs.length cap j (by omega) (by omega) W
                have hcf := fun W => cuts_from g 0 zs.length cap j (by omega) W
                have hbx := World.cell?_alloc_mark wo #[.string y.s, .int .i64 y.v.t.kind, .string y.v.t.name, .int .i64 y.v.t.n, .slice y.v.a y.v.t.args.length y.v.c] 50 (0, 0) 0
                have hbx5 : w5.cell? ⟨wo.heap.size, 0, none⟩ = some (.string y.s) := (hbx1.cell (p := ⟨wo.heap.size, 0, none⟩) (by simp)).trans hbx
                have HBX := Lib.hid hbx5
                clear hnews1 hlen1 hcells hbx
                go_wp2_with (at_builtin; refine wpList_append_own _ rfl _ _ 26 rfl w5.heap.size 9 i0 (.string ⟨#[]⟩) 1 16 Try.underlying26 hi hz0 hz1 hz2 rfl (by decide) _ 0 _ rfl (World.ownsRow_nil _ _ _ _) ⟨g, 0, none⟩ j cap ((zs.take j).map Value.string) rfl H1.out.1 H1.out.2.1 H1.out.2.2 ?ap3 ?ap4 ?ap5 ?_)
                case ap3 => unfold maxLen; omega
                case ap4 => omega
                case ap5 => omega
                intro v1 w6 hown6 hgrow6 _
                have hb6 : Below w5.heap.size w5 w6 := (Below.refl _ _).grown hgrow6 (Nat.le_refl _) (fun k hk => by cases hk)
                have x0 : w6.cell? ⟨wo.heap.size, 0, none⟩ = some (.string y.s) := (hb6.cell (p := ⟨wo.heap.size, 0, none⟩) hwl5).trans HBX.out
                have hbs6 := hb6.size
                clear hgrow6 hct hbx5
                go_wp2_with (at_builtin; refine wpList_append_own _ rfl _ _ 26 rfl w5.heap.size 9 i0 (.string ⟨#[]⟩) 1 16 Try.underlying26 hi hz0 hz1 hz2 rfl (by decide) _ j _ rfl (hown6.alloc _) ⟨w6.heap.size, 0, none⟩ 1 1 [.string y.s] rfl rfl (cell_one_new _ _ _) (by simp [Value.oneCell']) ?bp3 ?bp4 ?bp5 ?_)
                case bp3 => unfold maxLen; omega
                case bp4 => omega
                case bp5 => first | omega | (simp; omega)
                intro v2 w7 hown7 hgrow7 _
                have hb7 : Below w5.heap.size w5 w7 := (hb6.alloc hbs6 _).grown hgrow7 (by simp; omega) (own_row_ge hown6)
                have hbs7 := hb7.size
                have hnews3 : ∀ q x, ((zs.drop j).map Value.string)[q]? = some x → w7.cell? ((cutS g 0 cap j).add q) = some x := fun q x hq => by
                  rw [cutS_of (by omega)]
                  have e : ((⟨g, 0 + j, none⟩ : Addr).add q) = ⟨g, j + q, none⟩ := by
                    unfold Addr.add; split
                    · next h => subst h; simp
                    · simp
                  rw [List.getElem?_map, List.getElem?_drop] at hq
                  obtain ⟨z, hz, rfl⟩ := Option.map_eq_some_iff.1 hq
                  rw [e, hb7.cell (p := ⟨g, j + q, none⟩) hgc]
                  exact HC.out _ z hz
                have hlen3 : ((zs.drop j).map Value.string).length = (zs.length - j) * 1 := by rw [List.length_map, List.length_drop]; omega
                have H3 := Lib.hid (And.intro hlen3 (And.intro hnews3 (strs_one (zs.drop j))))
                clear hnews3 hlen3 hgrow7 hown6
                go_wp2_with (at_builtin; refine wpList_append_own _ rfl _ _ 26 rfl w5.heap.size 9 i0 (.string ⟨#[]⟩) 1 16 Try.underlying26 hi hz0 hz1 hz2 rfl (by decide) _ (j + 1) _ rfl hown7 (cutS g 0 cap j) (zs.length - j) (cap - j) ((zs.drop j).map Value.string) rfl H3.out.1 H3.out.2.1 H3.out.2.2 ?dp3 ?dp4 ?dp5 ?_)
                case dp3 => unfold maxLen; omega
                case dp4 => omega
                case dp5 => omega
                intro v3 w8 hown8 hgrow8 hnil8
                have hb8 : Below w5.heap.size w5 w8 := hb7.grown hgrow8 hbs7 (own_row_ge hown7)
                have hb9 : Below w.heap.size w w8 := (hb.trans (hbw.mono hbs)).trans (hb8.mono (by omega))
                have hrel : w8.ownsRow w.heap.size 9 1 v3 (zs.take j ++ y.s :: zs.drop j).length ((zs.take j ++ y.s :: zs.drop j).map Value.string) := by
                  have e : (zs.take j ++ y.s :: zs.drop j).map Value.string = (zs.take j).map Value.string ++ (.string y.s :: (zs.drop j).map Value.string) := by rw [List.map_append, List.map_cons]
                  have e2 : (zs.take j ++ y.s :: zs.drop j).length = j + 1 + (zs.length - j) := by rw [List.length_append, List.length_cons, List.length_take, List.length_drop]; omega
                  rw [e, e2]
                  exact own_lower (base := w5.heap.size) (by simpa using hown8) (by omega)
                have HREL := Lib.hid hrel
                have HB9 := Lib.hid hb9
                clear hrel hown8 hgrow8 hnil8 hown7 hcf hb6 hb7 hb8
                go_wp2_with fail
                go_roundw
                case rel => exact ⟨k + 1, zs.take j ++ y.s :: zs.drop j, by omega, by go_num, Lib.hid (by rw [HNI.out, HFIN.out]), .inr (by simp), HREL.out, HB9.out⟩
                case measure => simp [intOf]; omega
            · have hjv : zs.length ≤ j := by omega
              have hjl' : ¬ (j : Int) < (zs.length : Int) := by omega
              have hjd : decide ((j : Int) < (zs.length : Int)) = false := decide_eq_false hjl'
              have HFIN := Lib.hid (insW_at HPASS.out hj (fun h => absurd h hjl))
              clear hbwx
              go_wp2_with fail
              go_quiet (fail)
              obtain ⟨w5, hw5⟩ : ∃ w5, w5 = wr.drewN nq := ⟨_, rfl⟩
              rw [← hw5]
              have hbx1 : Below (wo.heap.size + 1) (wo.alloc (.cells #[.string y.s, .int .i64 y.v.t.kind, .string y.v.t.name, .int .i64 y.v.t.n, .slice y.v.a y.v.t.args.length y.v.c] 50)) w5 := by rw [hw5]; exact below_drewN hbx0 nq
              have hbw : Below wo.heap.size wo w5 := below_pair hbx1
              clear hw5 hbx0 x0
              have hbs5 := hbw.size
              have hwl5 : wo.heap.size < w5.heap.size := by
                have := hbx1.size
                simp at this; omega
              have hgc : g < w5.heap.size := by omega
              have hcells : ∀ q x, zs[q]? = some x → w5.cell? ⟨g, q, none⟩ = some (.string x) := fun q x hq => by
                rw [hbw.cell (p := ⟨g, q, none⟩) hglt]; exact CEL.out q x hq
              have hnews1 : ∀ q x, ((zs.take j).map Value.string)[q]? = some x → w5.cell? ((⟨g, 0, none⟩ : Addr).add q) = some x := fun q x hq => by
                rw [List.getElem?_map, List.getElem?_take] at hq
                split at hq
                · have e : ((⟨g, 0, none⟩ : Addr).add q) = ⟨g, q, none⟩ := by
                    unfold Addr.add; split
                    · next h => subst h; rfl
                    · simp
                  obtain ⟨z, hz, rfl⟩ := Option.map_eq_some_iff.1 hq
                  rw [e]; exact hcells q z hz
                · cases hq
              have hlen1 : ((zs.take j).map Value.string).length = j * 1 := by rw [List.length_map, List.length_take]; omega
              have H1 := Lib.hid (And.intro hlen1 (And.intro hnews1 (strs_one (zs.take j))))
              have HC := Lib.hid hcells
              have hct := fun W => cuts_to g 0 zs.length cap j (by omega) (by omega) W
              have hcf := fun W => cuts_from g 0 zs.length cap j (by omega) W
              have hbx := World.cell?_alloc_mark wo #[.string y.s, .int .i64 y.v.t.kind, .string y.v.t.name, .int .i64 y.v.t.n, .slice y.v.a y.v.t.args.length y.v.c] 50 (0, 0) 0
              have hbx5 : w5.cell? ⟨wo.heap.size, 0, none⟩ = some (.string y.s) := (hbx1.cell (p := ⟨wo.heap.size, 0, none⟩) (by simp)).trans hbx
              have HBX := Lib.hid hbx5
              clear hnews1 hlen1 hcells hbx
              go_wp2_with (at_builtin; refine wpList_append_own _ rfl _ _ 26 rfl w5.heap.size 9 i0 (.string ⟨#[]⟩) 1 16 Try.underlying26 hi hz0 hz1 hz2 rfl (by decide) _ 0 _ rfl (World.ownsRow_nil _ _ _ _) ⟨g, 0, none⟩ j cap ((zs.take j).map Value.string) rfl H1.out.1 H1.out.2.1 H1.out.2.2 ?ap3 ?ap4 ?ap5 ?_)
              case ap3 => unfold maxLen; omega
              case ap4 => omega
              case ap5 => omega
              intro v1 w6 hown6 hgrow6 _
              have hb6 : Below w5.heap.size w5 w6 := (Below.refl _ _).grown hgrow6 (Nat.le_refl _) (fun k hk => by cases hk)
              have x0 : w6.cell? ⟨wo.heap.size, 0, none⟩ = some (.string y.s) := (hb6.cell (p := ⟨wo.heap.size, 0, none⟩) hwl5).trans HBX.out
              have hbs6 := hb6.size
              clear hgrow6 hct hbx5
              go_wp2_with (at_builtin; refine wpList_append_own _ rfl _ _ 26 rfl w5.heap.size 9 i0 (.string ⟨#[]⟩) 1 16 Try.underlying26 hi hz0 hz1 hz2 rfl (by decide) _ j _ rfl (hown6.alloc _) ⟨w6.heap.size, 0, none⟩ 1 1 [.string y.s] rfl rfl (cell_one_new _ _ _) (by simp [Value.oneCell']) ?bp3 ?bp4 ?bp5 ?_)
              case bp3 => unfold maxLen; omega
              case bp4 => omega
              case bp5 => first | omega | (simp; omega)
              intro v2 w7 hown7 hgrow7 _
              have hb7 : Below w5.heap.size w5 w7 := (hb6.alloc hbs6 _).grown hgrow7 (by simp; omega) (own_row_ge hown6)
              have hbs7 := hb7.size
              clear hgrow7 hown6
              go_wp2_with (at_builtin; refine wpList_append_own _ rfl _ _ 26 rfl w5.heap.size 9 i0 (.string ⟨#[]⟩) 1 16 Try.underlying26 hi hz0 hz1 hz2 rfl (by decide) _ (j + 1) _ rfl hown7 (cutS g 0 cap j) 0 (cap - j) [] rfl rfl (fun q x hq => by cases hq) (fun x hx => by cases hx) ?dq3 ?dq4 ?dq5 ?_)
              case dq3 => unfold maxLen; omega
              case dq4 => omega
              case dq5 => omega
              intro v3 w8 hown8 hgrow8 hnil8
              have hb8 : Below w5.heap.size w5 w8 := hb7.grown hgrow8 hbs7 (own_row_ge hown7)
              have hb9 : Below w.heap.size w w8 := (hb.trans (hbw.mono hbs)).trans (hb8.mono (by omega))
              have hrel : w8.ownsRow w.heap.size 9 1 v3 (zs.take j ++ y.s :: zs.drop j).length ((zs.take j ++ y.s :: zs.drop j).map Value.string) := by
                have e : (zs.take j ++ y.s :: zs.drop j).map Value.string = (zs.take j).map Value.string ++ [.string y.s] := by rw [List.drop_eq_nil_of_le hjv]; simp
                have e2 : (zs.take j ++ y.s :: zs.drop j).length = j + 1 + 0 := by rw [List.length_append, List.length_cons, List.length_take, List.length_drop]; omega
                rw [e, e2]
                exact own_lower (base := w5.heap.size) (by simpa using hown8) (by omega)
              have HREL := Lib.hid hrel
              have HB9 := Lib.hid hb9
              clear hrel hown8 hgrow8 hnil8 hown7 hcf hb6 hb7 hb8
              go_wp2_with fail
              go_roundw
              case rel => exact ⟨k + 1, zs.take j ++ y.s :: zs.drop j, by omega, by go_num, Lib.hid (by rw [HNI.out, HFIN.out]), .inr (by simp), HREL.out, HB9.out⟩
              case measure => simp [intOf]; omega
    · have hke : k = bs.length := by omega
      have hkd : decide ((k : Int) < (bs.length : Int)) = false := decide_eq_false (by omega)
      have hkn : ¬ (k : Int) < (bs.length : Int) := by omega
      have HF := Lib.hid (show zs = namesB bs by rw [HZ.out, hke, List.take_length])
      have HO := Lib.hid hown
      have HBE := Lib.hid hb
      clear hown hb hke hzn
      go_wp2_with fail
      go_ret
      refine ⟨_, rfl, ?_, HBE.out⟩
      rw [← HF.out]; exact HO.out
end Go.Proofs.Ytcoaneipajadiaa

namespace Go.Proofs.Ytcoaneipajadiaa
open Go.RowKit

theorem new_row5 (w : World) (b : Nat) (hb : b = w.heap.size) (x0 x1 x2 x3 x4 : Value) (t : TypeId) : ∀ j u, [x0, x1, x2, x3, x4][j]? = some u → (w.alloc (.cells #[x0, x1, x2, x3, x4] t)).cell? ((⟨b, 0, none⟩ : Addr).add j) = some u := by
  subst hb
  intro j u hj
  have e := World.cell?_alloc_mark w #[x0, x1, x2, x3, x4] t (0, 0) (0 + j)
  have : ((⟨w.heap.size, 0, none⟩ : Addr).add j) = ⟨w.heap.size, 0 + j, none⟩ := by
    unfold Addr.add; split
    · next h => subst h; rfl
    · rfl
  rw [this, e]
  simpa using hj
theorem bv_one (y : Bv) : ∀ x ∈ [Value.string y.s, .int .i64 y.v.t.kind, .string y.v.t.name, .int .i64 y.v.t.n, .slice y.v.a y.v.t.args.length y.v.c], x.oneCell' = true := by
  intro x hx; simp at hx; rcases hx with rfl | rfl | rfl | rfl | rfl <;> rfl
/-- One bind more, behind a row that the call itself has made. -/
theorem ownBv_snoc {w0 w : World} {base : Nat} {v : Value} {bs : List Bn} {y : Bv} {vs : List Bv} {x0 x1 x2 x3 x4 : Value} (hvt : vs.map Bv.bn = bs) (hvo : ∀ x ∈ vs, x.v.ok w0 ∧ x.s.size ≤ 9223372036854775807) (hy : y.v.ok w0) (hs : y.s.size ≤ 9223372036854775807)
    (hc : y.cells = [x0, x1, x2, x3, x4]) (h : w.ownsRow base 50 5 v (bs.length + 1) (rowBv vs ++ [x0, x1, x2, x3, x4])) : OwnBv w0 w base v (bs ++ [y.bn]) :=
  ⟨vs ++ [y], by rw [List.map_append, hvt]; rfl, fun x hx => by
    rcases List.mem_append.1 hx with hx | hx
    · exact hvo x hx
    · rw [List.mem_singleton] at hx; subst hx; exact ⟨hy, hs⟩, by
    rw [rowBv_append, rowBv_one, hc, List.length_append, List.length_singleton]; exact h⟩
theorem name_size {w : World} {v : Value} {bs : List Bn} (h : Bds w v bs) {s : ByteArray} (hs : s ∈ namesB bs) : s.size ≤ 9223372036854775807 := by
  obtain ⟨a, c, rfl, _, h⟩ := h
  obtain ⟨x, hx, rfl⟩ := mem_namesB.1 hs
  rcases h with rfl | ⟨b, o, rfl, _, hat⟩
  · cases hx
  · obtain ⟨j, hj, rfl⟩ := List.getElem_of_mem hx
    exact (hat j _ (List.getElem?_eq_getElem hj)).1
def ofTo (bs : List Bn) (k : Nat) : List Bn := rowOfN (fun n => (getB bs n).getD (.mk 0 ⟨#[]⟩ 0 [])) ((namesB bs).take k)
theorem ofTo_succ {bs : List Bn} {k : Nat} {s : ByteArray} (h : (namesB bs)[k]? = some s) : ofTo bs (k + 1) = ofTo bs k ++ [(s, (getB bs s).getD (.mk 0 ⟨#[]⟩ 0 []))] := by
  obtain ⟨hk, rfl⟩ := List.getElem?_eq_some_iff.1 h
  unfold ofTo rowOfN; rw [List.take_succ_eq_append_getElem hk, List.map_append]; rfl
theorem ofTo_len {bs : List Bn} {k : Nat} (h : k ≤ (namesB bs).length) : (ofTo bs k).length = k := by
  unfold ofTo rowOfN; rw [List.length_map, List.length_take]; omega
theorem ofTo_all (bs : List Bn) : ofTo bs (namesB bs).length = ofB bs := by unfold ofTo ofB; rw [List.take_length]

set_option maxRecDepth 100000 in
set_option maxHeartbeats 8000000 in
theorem rof_any (v : Value) (bs : List Bn) (w0 w : World) (hv : Bds w0 v bs) (hb0 : Below w0.heap.size w0 w) (hlen : bs.length ≤ 1000) :
    Calls Try.prog 16 #[v] w fun e w' => ∃ u, e = .returned u ∧ OwnBv w0 w' w.heap.size u (ofB bs) ∧ Below w.heap.size w w' := by
  obtain ⟨i0, hi, hz0, hz1, hz2⟩ := info_parts bindInfo
  have NM := Lib.hid (rnames_any v bs w0 w hv hb0 hlen)
  have GET := Lib.hid (fun (s : ByteArray) (W : World) (h : Below w0.heap.size w0 W) => rget_any v bs s w0 W hv h)
  have NS := Lib.hid (fun (s : ByteArray) (h : s ∈ namesB bs) => name_size hv h)
  have HB := Lib.hid hb0
  have hnl : (namesB bs).length ≤ 1000 := by have := namesB_len bs; omega
  obtain ⟨a, c, rfl, _, _⟩ := hv
  clear hb0
  go_enter Try.func16, Try.ntmps16
  go_wp2_with fail
  refine NM.out.mono ?_; rintro e w1 ⟨un, rfl, hn, hb1⟩
  rcases own_cells hn with ⟨rfl, h0⟩ | ⟨g, cap, rfl, hg, hcap, hcell⟩
  · have HE := Lib.hid (show OwnBv w0 w1 w.heap.size (.slice none 0 0) (ofB bs) from ⟨[], by unfold ofB rowOfN; rw [h0]; rfl, (fun x hx => by cases hx), by unfold ofB rowOfN; rw [h0]; exact World.ownsRow_nil _ _ _ _⟩)
    have HB1 := Lib.hid hb1
    clear hn hb1 h0
    go_wp2_with fail
    refine wp_loop_rounds 1 ?_; rw [rounds_succ]
    go_wp2_with fail
    go_ret
    exact ⟨_, rfl, HE.out, HB1.out⟩
  · have CEL := Lib.hid hcell
    clear hn hcell
    go_wp2_with fail
    go_loopw [3, 11] (fun o i wr => ∃ (k : Nat) (vs : List Bv), k ≤ (namesB bs).length ∧ i = .int .i64 k ∧ Hid (vs.map Bv.bn = ofTo bs k) ∧ Hid (∀ x ∈ vs, x.v.ok w0 ∧ x.s.size ≤ 9223372036854775807) ∧
      Hid (wr.ownsRow w1.heap.size 50 5 o k (rowBv vs)) ∧ Below w1.heap.size w1 wr) (fun _ i _ => (namesB bs).length - (intOf i).toNat)
    case atStart => exact ⟨0, [], Nat.zero_le _, rfl, Lib.hid rfl, Lib.hid (fun x hx => by cases hx), Lib.hid (World.ownsRow_nil _ _ _ _), Below.refl _ _⟩
    case round =>
      obtain ⟨k, vs, hk, rfl, HVT, HVO, HOWN, hb⟩ := hrel
      by_cases hkl : k < (namesB bs).length
      · obtain ⟨s, hs⟩ : ∃ s, (namesB bs)[k]? = some s := ⟨_, List.getElem?_eq_getElem hkl⟩
        have m0 : wr.cell? ⟨g, 0 + k, none⟩ = some (.string s) := (hb.cell (p := ⟨g, 0 + k, none⟩) hg).trans (CEL.out k s hs)
        rw [Nat.zero_add] at m0
        have HSZ := Lib.hid (NS.out s (List.mem_of_getElem? hs))
        have HNX := Lib.hid (ofTo_succ hs)
        have hbw : Below w.heap.size w wr := hb1.trans (hb.mono hb1.size)
        have G := Lib.hid (GET.out s wr (HB.out.trans (hbw.mono HB.out.size)))
        have hk0 : (0 : Int) ≤ (k : Int) := by omega
        have hk1 : (k : Int) < ((namesB bs).length : Int) := by omega
        have hkd : decide ((k : Int) < ((namesB bs).length : Int)) = true := decide_eq_true hk1
        have hbs := hbw.size
        clear hs
        go_wp2_with fail
        refine G.out.mono ?_; rintro e w2 ⟨⟨ty, ay, cy⟩, rfl, hyt, hyo, hb2⟩
        have hbw2 := hbw.trans (hb2.mono hbs)
        have hbw2s := hbw2.size
        have hbx2 := hb.trans (hb2.mono hb.size)
        have hbx2s := hbx2.size
        have hown2 := own_below HOWN.out hb2
        have HY := Lib.hid (And.intro hyt hyo)
        clear hyt hyo hb2
        simp only [Tv.val] at *
        go_wp2_with (at_builtin; refine wpList_append_own _ rfl _ _ 22 rfl w1.heap.size 50 i0 (.agg #[.string ⟨#[]⟩, .int .i64 0, .string ⟨#[]⟩, .int .i64 0, .slice none 0 0]) 5 72 Try.underlying22 hi hz0 hz1 hz2 rfl (by decide) _ k _ rfl ((hown2.alloc _).alloc _) ⟨w2.heap.size + 1, 0, none⟩ 1 1 [.string s, .int .i64 ty.kind, .string ty.name, .int .i64 ty.n, .slice ay ty.args.length cy] rfl rfl (new_row5 _ _ (by simp) _ _ _ _ _ _) (bv_one ⟨s, ⟨ty, ay, cy⟩⟩) ?n3 ?n4 ?n5 ?_)
        case n3 => unfold maxLen; omega
        case n4 => omega
        case n5 => first | omega | (simp; omega)
        intro v3 w3 hown3 hgrow3 _
        have hb3 : Below w1.heap.size w1 w3 := by
          refine ((hbx2.alloc hbx2.size _).alloc (by have := hbx2.size; simp; omega) _).grown hgrow3 (by have := hbx2.size; simp; omega) (own_row_ge hown2)
        have HEND := Lib.hid hb3
        have HO3 := Lib.hid hown3
        clear hgrow3 hown3 hb3
        go_wp2_with fail
        go_roundw
        case rel =>
          refine ⟨k + 1, vs ++ [⟨s, ⟨ty, ay, cy⟩⟩], by omega, by go_num, Lib.hid ?_, Lib.hid ?_, Lib.hid ?_, HEND.out⟩
          · rw [List.map_append, HVT.out, HNX.out]; show _ ++ [(s, ty)] = _; rw [show ty = _ from HY.out.1]; rfl
          · intro x hx
            rcases List.mem_append.1 hx with hx | hx
            · exact HVO.out x hx
            · rw [List.mem_singleton] at hx; subst hx; exact ⟨HY.out.2, HSZ.out⟩
          · rw [rowBv_append, rowBv_one]; exact HO3.out
        case measure => simp [intOf]; omega
      · have hke : k = (namesB bs).length := by omega
        have hkd : decide ((k : Int) < ((namesB bs).length : Int)) = false := decide_eq_false (by omega)
        have hkn : ¬ (k : Int) < ((namesB bs).length : Int) := by omega
        have HE := Lib.hid hke
        have HBE := Lib.hid (hb1.trans (hb.mono hb1.size))
        clear hke hb
        go_wp2_with fail
        go_ret
        exact ⟨_, rfl, ⟨vs, by rw [HVT.out, HE.out, ofTo_all], HVO.out, by rw [← ofTo_all, ofTo_len (Nat.le_refl _), ← HE.out]; exact own_lower HOWN.out hb1.size⟩, HBE.out⟩
end Go.Proofs.Ytcoaneipajadiaa

namespace Go.Proofs.Ytcoaneipajadiaa
open Go.RowKit

def butB (s : ByteArray) (x : Bn) : Bool := !(x.1.toList == s.toList)
theorem getB_but (s n : ByteArray) : ∀ l : List Bn, n ≠ s → getB (l.filter (butB s)) n = getB l n
  | [], _ => rfl
  | x :: l, hn => by
    rw [List.filter_cons]
    by_cases h : x.1 = n
    · have hb : butB s x = true := by
        unfold butB
        cases hh : (x.1.toList == s.toList) with
        | false => rfl
        | true => exact absurd ((Lib.bytes_beq_iff _ _).1 hh) (by rw [h]; exact hn)
      rw [if_pos hb, getB_hit x _ h, getB_hit x _ h]
    · split
      · rw [getB_miss x _ h, getB_miss x _ h, getB_but s n l hn]
      · rw [getB_miss x _ h, getB_but s n l hn]
theorem getB_own (s : ByteArray) : ∀ l : List Bn, getB (l.filter (butB s)) s = none := fun l => getB_none fun x hx e => by
  have := (List.mem_filter.1 hx).2
  unfold butB at this; rw [e] at this; simp at this
theorem ofB_with (l : List Bn) (s : ByteArray) (t : Tm) : ofB (l.filter (butB s) ++ [(s, t)]) = ofB ((s, t) :: l) := ofB_congr fun n => by
  rw [getB_append]
  by_cases h : n = s
  · subst h; rw [getB_own, getB_hit (n, t) l rfl, getB_hit (n, t) [] rfl]; rfl
  · rw [getB_but s n l h, getB_miss (s, t) l (fun e => h e.symm), getB_miss (s, t) [] (fun e => h e.symm), getB_nil]
    cases getB l n <;> rfl
theorem filter_take {p : Bn → Bool} {l : List Bn} {k : Nat} {x : Bn} (h : l[k]? = some x) : (l.take (k + 1)).filter p = (l.take k).filter p ++ if p x = true then [x] else [] := by
  obtain ⟨hk, rfl⟩ := List.getElem?_eq_some_iff.1 h
  rw [List.take_succ_eq_append_getElem hk, List.filter_append, List.filter_cons]; rfl

set_option maxRecDepth 100000 in
set_option maxHeartbeats 8000000 in
theorem rwith_any (v : Value) (bs : List Bn) (s : ByteArray) (t : Tv) (w0 w : World) (hv : Bds w0 v bs) (ht : t.ok w0) (hs : s.size ≤ 9223372036854775807) (hb0 : Below w0.heap.size w0 w) (hlen : bs.length ≤ 900) :
    Calls Try.prog 18 #[v, .string s, t.val] w fun e w' => ∃ u, e = .returned u ∧ Bds w' u (ofB ((s, t.t) :: bs)) ∧ Below w.heap.size w w' := by
  obtain ⟨i0, hi, hz0, hz1, hz2⟩ := info_parts bindInfo
  have OF := Lib.hid (fun (u : Value) (cs : List Bn) (W : World) (h : Bds W u cs) (hl : cs.length ≤ 1000) => rof_any u cs W W h (Below.refl _ _) hl)
  have HT := Lib.hid (And.intro ht hs)
  have hbx := box_new w (.int .i64 t.t.kind) (.string t.t.name) (.int .i64 t.t.n) (.slice t.a t.t.args.length t.c) 25
  have hw : Below w.heap.size w (w.alloc (.cells #[.int .i64 t.t.kind, .string t.t.name, .int .i64 t.t.n, .slice t.a t.t.args.length t.c] 25)) := (Below.refl _ _).alloc (Nat.le_refl _) _
  have hz : (w.alloc (.cells #[.int .i64 t.t.kind, .string t.t.name, .int .i64 t.t.n, .slice t.a t.t.args.length t.c] 25)).heap.size = w.heap.size + 1 := by simp
  obtain ⟨wz, hwz⟩ : ∃ wz, wz = (w.alloc (.cells #[.int .i64 t.t.kind, .string t.t.name, .int .i64 t.t.n, .slice t.a t.t.args.length t.c] 25)) := ⟨_, rfl⟩
  rw [← hwz] at hbx hw hz
  have HBX := Lib.hid (fun (V : World) (h : Below wz.heap.size wz V) => hbx.below h (by omega))
  have HBZ := Lib.hid hw
  have HB := Lib.hid hb0
  have HZS := Lib.hid hz
  have hv0 := hv
  obtain ⟨a, c, rfl, hlm, hrow⟩ := hv
  have HR := Lib.hid hrow
  have HSZ := Lib.hid (fun (x : Bn) (hx : x ∈ bs) => (show x.1.size ≤ 9223372036854775807 from by
    rcases hrow with h | ⟨b, o, _, _, hat⟩
    · rw [h] at hx; cases hx
    · obtain ⟨j, hj, rfl⟩ := List.getElem_of_mem hx
      exact (hat j _ (List.getElem?_eq_getElem hj)).1))
  clear hb0 hrow hv0 ht hs hbx hw hz
  simp only [Tv.val] at *
  go_enter Try.func18, Try.ntmps18
  go_wp2_with fail
  rw [← hwz]
  clear hwz
  go_loopw [7, 12] (fun o i wr => ∃ (q : Nat) (vs : List Bv), q ≤ bs.length ∧ i = .int .i64 q ∧ vs.length ≤ q ∧ Hid (vs.map Bv.bn = (bs.take q).filter (butB s)) ∧ Hid (∀ x ∈ vs, x.v.ok w0 ∧ x.s.size ≤ 9223372036854775807) ∧
    Hid (wr.ownsRow wz.heap.size 50 5 o vs.length (rowBv vs)) ∧ Below wz.heap.size wz wr) (fun _ i _ => bs.length - (intOf i).toNat)
  case atStart => exact ⟨0, [], Nat.zero_le _, rfl, Nat.le_refl _, Lib.hid rfl, Lib.hid (fun x hx => by cases hx), Lib.hid (World.ownsRow_nil _ _ _ _), Below.refl _ _⟩
  case round =>
    obtain ⟨q, vs, hq, rfl, hvl, HVT, HVO, HOWN, hb⟩ := hrel
    have hbs := hb.size
    have hb0r := HB.out.trans ((HBZ.out.trans (hb.mono HBZ.out.size)).mono HB.out.size)
    by_cases hql : q < bs.length
    · obtain ⟨b, o, rfl, hlt, hat⟩ := HR.out.resolve_left (by intro h; rw [h] at hql; simp at hql)
      obtain ⟨x, hx⟩ : ∃ x, bs[q]? = some x := ⟨_, List.getElem?_eq_getElem hql⟩
      obtain ⟨y, hyx, hyo, hy⟩ := bdAt_bv (hat q x hx)
      obtain ⟨m0, m1, m2, m3, m4⟩ : BvAt wr b (o + q * 5) y := ⟨(hb0r.cell (p := ⟨b, o + q * 5, none⟩) hlt).trans hy.c0, (hb0r.cell (p := ⟨b, o + q * 5 + 1, none⟩) hlt).trans hy.c1, (hb0r.cell (p := ⟨b, o + q * 5 + 2, none⟩) hlt).trans hy.c2, (hb0r.cell (p := ⟨b, o + q * 5 + 3, none⟩) hlt).trans hy.c3, (hb0r.cell (p := ⟨b, o + q * 5 + 4, none⟩) hlt).trans hy.c4⟩
      have HST := Lib.hid (show (bs.take (q + 1)).filter (butB s) = (bs.take q).filter (butB s) ++ if butB s y.bn = true then [y.bn] else [] by rw [filter_take hx, hyx])
      have HYO := Lib.hid (And.intro hyo (show y.s.size ≤ 9223372036854775807 from by have := HSZ.out x (List.mem_of_getElem? hx); rw [← hyx] at this; exact this))
      have hk0 : (0 : Int) ≤ (q : Int) := by omega
      have hk1 : (q : Int) < (bs.length : Int) := by omega
      have hkd : decide ((q : Int) < (bs.length : Int)) = true := decide_eq_true hk1
      have HBL := Lib.hid (hb.alloc hbs (.cells #[.string y.s, .int .i64 y.v.t.kind, .string y.v.t.name, .int .i64 y.v.t.n, .slice y.v.a y.v.t.args.length y.v.c] 50))
      have HOL := Lib.hid (own_below HOWN.out ((Below.refl _ _).alloc (Nat.le_refl _) (.cells #[.string y.s, .int .i64 y.v.t.kind, .string y.v.t.name, .int .i64 y.v.t.n, .slice y.v.a y.v.t.args.length y.v.c] 50)))
      have HB1 := Lib.hid hb
      have hnl : vs.length ≤ 900 := by omega
      clear hy hat hx hb0r hyx hyo hb
      cases he : (y.s.toList == s.toList) with
      | true =>
        have HNX := Lib.hid (show vs.map Bv.bn = (bs.take (q + 1)).filter (butB s) by rw [HST.out, if_neg (by unfold butB; show ¬ (!(y.s.toList == s.toList)) = true; rw [he]; simp), List.append_nil]; exact HVT.out)
        go_wp2_with fail
        go_roundw
        case rel => exact ⟨q + 1, vs, by omega, by go_num, by omega, HNX, HVO, HOL, HBL.out⟩
        case measure => simp [intOf]; omega
      | false =>
        have HNX := Lib.hid (show (vs ++ [y]).map Bv.bn = (bs.take (q + 1)).filter (butB s) by rw [HST.out, if_pos (by unfold butB; show (!(y.s.toList == s.toList)) = true; rw [he]; rfl), List.map_append, HVT.out]; rfl)
        go_wp2_with (at_builtin; refine wpList_append_own _ rfl _ _ 22 rfl wz.heap.size 50 i0 (.agg #[.string ⟨#[]⟩, .int .i64 0, .string ⟨#[]⟩, .int .i64 0, .slice none 0 0]) 5 72 Try.underlying22 hi hz0 hz1 hz2 rfl (by decide) _ vs.length _ rfl (HOL.out.alloc _) ⟨wr.heap.size + 1, 0, none⟩ 1 1 [.string y.s, .int .i64 y.v.t.kind, .string y.v.t.name, .int .i64 y.v.t.n, .slice y.v.a y.v.t.args.length y.v.c] rfl rfl (new_row5 _ _ (by simp) _ _ _ _ _ _) (bv_one y) ?n3 ?n4 ?n5 ?_)
        case n3 => unfold maxLen; omega
        case n4 => omega
        case n5 => first | omega | (simp; omega)
        intro v3 w3 hown3 hgrow3 _
        have HB3 := Lib.hid ((HBL.out.alloc (by simp; omega) _).grown hgrow3 (by simp; omega) (own_row_ge HOL.out))
        have HO3 := Lib.hid hown3
        clear hgrow3 hown3
        go_wp2_with fail
        go_roundw
        case rel =>
          refine ⟨q + 1, vs ++ [y], by omega, by go_num, by simp; omega, HNX, Lib.hid ?_, Lib.hid ?_, HB3.out⟩
          · intro x hx
            rcases List.mem_append.1 hx with hx | hx
            · exact HVO.out x hx
            · rw [List.mem_singleton] at hx; subst hx; exact HYO.out
          · rw [rowBv_append, rowBv_one, List.length_append]; exact HO3.out
        case measure => simp [intOf]; omega
    · have hke : q = bs.length := by omega
      have hkd : decide ((q : Int) < (bs.length : Int)) = false := decide_eq_false (by omega)
      have hkn : ¬ (q : Int) < (bs.length : Int) := by omega
      have hnl : vs.length ≤ 900 := by omega
      have HKE := Lib.hid (show vs.map Bv.bn = bs.filter (butB s) by have h := HVT.out; rw [hke, List.take_length] at h; exact h)
      have HBE := Lib.hid hb
      have HB0R := Lib.hid hb0r
      obtain ⟨p0, p1, p2, p3, _, _, _, _⟩ := HBX.out wr hb
      have hown := HOWN.out
      clear hke hb hb0r
      go_wp2_with (at_builtin; refine wpList_append_own _ rfl _ _ 22 rfl wz.heap.size 50 i0 (.agg #[.string ⟨#[]⟩, .int .i64 0, .string ⟨#[]⟩, .int .i64 0, .slice none 0 0]) 5 72 Try.underlying22 hi hz0 hz1 hz2 rfl (by decide) _ vs.length _ rfl (hown.alloc _) ⟨wr.heap.size, 0, none⟩ 1 1 [.string s, .int .i64 t.t.kind, .string t.t.name, .int .i64 t.t.n, .slice t.a t.t.args.length t.c] rfl rfl (new_row5 _ _ rfl _ _ _ _ _ _) (bv_one ⟨s, t⟩) ?e3 ?e4 ?e5 ?_)
      case e3 => unfold maxLen; omega
      case e4 => omega
      case e5 => first | omega | (simp; omega)
      intro v3 w3 hown3 hgrow3 _
      have hb3 := (HBE.out.alloc hbs _).grown hgrow3 (by simp; omega) (own_row_ge hown)
      have hO3 : w3.ownsRow wz.heap.size 50 5 v3 (vs.length + 1) (rowBv (vs ++ [⟨s, t⟩])) := by rw [rowBv_append, rowBv_one]; exact hown3
      have hB3 : Below w.heap.size w w3 := HBZ.out.trans (hb3.mono HBZ.out.size)
      have hbd := bds_own (w0 := w0) hO3 (by simp) (fun x hx => by
        rcases List.mem_append.1 hx with hx | hx
        · exact HVO.out x hx
        · rw [List.mem_singleton] at hx; subst hx; exact HT.out) (HB.out.trans (hB3.mono HB.out.size)) (by omega)
      have HBD := Lib.hid (show Bds w3 v3 (bs.filter (butB s) ++ [(s, t.t)]) by rw [← HKE.out]; rw [List.map_append] at hbd; exact hbd)
      have HB3 := Lib.hid hB3
      have HL3 := Lib.hid (show (bs.filter (butB s) ++ [(s, t.t)]).length ≤ 1000 by rw [← HKE.out, List.length_append, List.length_map, List.length_singleton]; omega)
      clear hgrow3 hown3 hO3 hB3 hbd hb3 hown p0 p1 p2 p3
      go_wp2_with fail
      refine (OF.out _ _ _ HBD.out HL3.out).mono ?_; rintro e w4 ⟨u, rfl, hu, hb4⟩
      have HE := Lib.hid (hu.bds hb4 (by have := ofB_length (bs.filter (butB s) ++ [(s, t.t)]); have := HL3.out; omega))
      have HB4 := Lib.hid (below_next HB3.out hb4)
      clear hu hb4
      go_wp2_with fail
      go_ret
      exact ⟨_, rfl, by rw [← ofB_with]; exact HE.out, HB4.out⟩
end Go.Proofs.Ytcoaneipajadiaa

namespace Go.Proofs.Ytcoaneipajadiaa
open Go.RowKit

def onB (zs : List ByteArray) (x : Bn) : Bool := Lib.containsS zs x.1

set_option maxRecDepth 100000 in
set_option maxHeartbeats 8000000 in
theorem ronly_any (v ns : Value) (bs : List Bn) (zs : List ByteArray) (w0 w : World) (hv : Bds w0 v bs) (hns : Strs w0 ns zs) (hb0 : Below w0.heap.size w0 w) (hlen : bs.length ≤ 900) :
    Calls Try.prog 20 #[v, ns] w fun e w' => ∃ u, e = .returned u ∧ Bds w' u ((ofB bs).filter (onB zs)) ∧ Below w.heap.size w w' := by
  obtain ⟨i0, hi, hz0, hz1, hz2⟩ := info_parts bindInfo
  have OF := Lib.hid (rof_any v bs w0 w hv hb0 (by omega))
  have IN := Lib.hid (fun (s : ByteArray) (W : World) (h : Below w0.heap.size w0 W) => rin_any ns zs s W (hns.below h))
  have HLO := Lib.hid (ofB_length bs)
  have HB := Lib.hid hb0
  obtain ⟨a, c, rfl, _, _⟩ := hv
  obtain ⟨an, cn, rfl, _, _⟩ := hns
  clear hb0
  go_enter Try.func20, Try.ntmps20
  go_wp2_with fail
  refine OF.out.mono ?_; rintro e w1 ⟨uo, rfl, hu, hb1⟩
  have hb01 := HB.out.trans (hb1.mono HB.out.size)
  have hbd := hu.bds hb01 (by have := HLO.out; omega)
  obtain ⟨a1, c1, rfl, hl1, hrow⟩ := hbd
  have HR := Lib.hid hrow
  have HB1 := Lib.hid hb1
  have hlo : (ofB bs).length ≤ 900 := by have := HLO.out; omega
  obtain ⟨ms, hms⟩ : ∃ ms, ofB bs = ms := ⟨_, rfl⟩
  rw [hms] at HR hlo ⊢
  have HMS := Lib.hid hms
  clear hms hu hrow hb1 hb01 HLO OF hl1
  have HSZ := Lib.hid (fun (x : Bn) (hx : x ∈ ms) => (show x.1.size ≤ 9223372036854775807 from by
    rcases HR.out with h | ⟨b, o, _, _, hat⟩
    · rw [h] at hx; cases hx
    · obtain ⟨j, hj, rfl⟩ := List.getElem_of_mem hx
      exact (hat j _ (List.getElem?_eq_getElem hj)).1))
  go_wp2_with fail
  go_loopw [5, 11] (fun o i wr => ∃ (q : Nat) (vs : List Bv), q ≤ ms.length ∧ i = .int .i64 q ∧ vs.length ≤ q ∧ Hid (vs.map Bv.bn = (ms.take q).filter (onB zs)) ∧ Hid (∀ x ∈ vs, x.v.ok w1 ∧ x.s.size ≤ 9223372036854775807) ∧
    Hid (wr.ownsRow w1.heap.size 50 5 o vs.length (rowBv vs)) ∧ Below w1.heap.size w1 wr) (fun _ i _ => ms.length - (intOf i).toNat)
  case atStart => exact ⟨0, [], Nat.zero_le _, rfl, Nat.le_refl _, Lib.hid rfl, Lib.hid (fun x hx => by cases hx), Lib.hid (World.ownsRow_nil _ _ _ _), Below.refl _ _⟩
  case round =>
    obtain ⟨q, vs, hq, rfl, hvl, HVT, HVO, HOWN, hb⟩ := hrel
    have hbs := hb.size
    by_cases hql : q < ms.length
    · obtain ⟨b, o, rfl, hlt, hat⟩ := HR.out.resolve_left (by intro h; rw [h] at hql; simp at hql)
      obtain ⟨x, hx⟩ : ∃ x, ms[q]? = some x := ⟨_, List.getElem?_eq_getElem hql⟩
      obtain ⟨y, hyx, hyo, hy⟩ := bdAt_bv (hat q x hx)
      obtain ⟨m0, m1, m2, m3, m4⟩ : BvAt wr b (o + q * 5) y := ⟨(hb.cell (p := ⟨b, o + q * 5, none⟩) hlt).trans hy.c0, (hb.cell (p := ⟨b, o + q * 5 + 1, none⟩) hlt).trans hy.c1, (hb.cell (p := ⟨b, o + q * 5 + 2, none⟩) hlt).trans hy.c2, (hb.cell (p := ⟨b, o + q * 5 + 3, none⟩) hlt).trans hy.c3, (hb.cell (p := ⟨b, o + q * 5 + 4, none⟩) hlt).trans hy.c4⟩
      have HST := Lib.hid (show (ms.take (q + 1)).filter (onB zs) = (ms.take q).filter (onB zs) ++ if onB zs y.bn = true then [y.bn] else [] by rw [filter_take hx, hyx])
      have HYO := Lib.hid (And.intro hyo (show y.s.size ≤ 9223372036854775807 from by have := HSZ.out x (List.mem_of_getElem? hx); rw [← hyx] at this; exact this))
      have hk0 : (0 : Int) ≤ (q : Int) := by omega
      have hk1 : (q : Int) < (ms.length : Int) := by omega
      have hkd : decide ((q : Int) < (ms.length : Int)) = true := decide_eq_true hk1
      have HBL := Lib.hid (hb.alloc hbs (.cells #[.string y.s, .int .i64 y.v.t.kind, .string y.v.t.name, .int .i64 y.v.t.n, .slice y.v.a y.v.t.args.length y.v.c] 50))
      have HOL := Lib.hid (own_below HOWN.out ((Below.refl _ _).alloc (Nat.le_refl _) (.cells #[.string y.s, .int .i64 y.v.t.kind, .string y.v.t.name, .int .i64 y.v.t.n, .slice y.v.a y.v.t.args.length y.v.c] 50)))
      have I := Lib.hid (IN.out y.s (wr.alloc (.cells #[.string y.s, .int .i64 y.v.t.kind, .string y.v.t.name, .int .i64 y.v.t.n, .slice y.v.a y.v.t.args.length y.v.c] 50)) (HB.out.trans ((HB1.out.trans (HBL.out.mono HB1.out.size)).mono HB.out.size)))
      have hbx := World.cell?_alloc_mark wr #[.string y.s, .int .i64 y.v.t.kind, .string y.v.t.name, .int .i64 y.v.t.n, .slice y.v.a y.v.t.args.length y.v.c] 50 (0, 0)
      have hnl : vs.length ≤ 900 := by omega
      clear hy hat hx hyx hyo hb hbx
      cases he : Lib.containsS zs y.s with
      | false =>
        rw [he] at I
        have HNX := Lib.hid (show vs.map Bv.bn = (ms.take (q + 1)).filter (onB zs) by rw [HST.out, if_neg (by show ¬ Lib.containsS zs y.s = true; rw [he]; simp), List.append_nil]; exact HVT.out)
        go_wp2_with fail
        refine I.out.mono ?_; rintro e w2 ⟨rfl, rfl⟩
        go_wp2_with fail
        go_roundw
        case rel => exact ⟨q + 1, vs, by omega, by go_num, by omega, HNX, HVO, HOL, HBL.out⟩
        case measure => simp [intOf]; omega
      | true =>
        rw [he] at I
        have HNX := Lib.hid (show (vs ++ [y]).map Bv.bn = (ms.take (q + 1)).filter (onB zs) by rw [HST.out, if_pos (by show Lib.containsS zs y.s = true; exact he), List.map_append, HVT.out]; rfl)
        go_wp2_with fail
        refine I.out.mono ?_; rintro e w2 ⟨rfl, rfl⟩
        go_wp2_with (at_builtin; refine wpList_append_own _ rfl _ _ 22 rfl w1.heap.size 50 i0 (.agg #[.string ⟨#[]⟩, .int .i64 0, .string ⟨#[]⟩, .int .i64 0, .slice none 0 0]) 5 72 Try.underlying22 hi hz0 hz1 hz2 rfl (by decide) _ vs.length _ rfl (HOL.out.alloc _) ⟨wr.heap.size + 1, 0, none⟩ 1 1 [.string y.s, .int .i64 y.v.t.kind, .string y.v.t.name, .int .i64 y.v.t.n, .slice y.v.a y.v.t.args.length y.v.c] rfl rfl (new_row5 _ _ (by simp) _ _ _ _ _ _) (bv_one y) ?n3 ?n4 ?n5 ?_)
        case n3 => unfold maxLen; omega
        case n4 => omega
        case n5 => first | omega | (simp; omega)
        intro v3 w3 hown3 hgrow3 _
        have HB3 := Lib.hid ((HBL.out.alloc (by simp; omega) _).grown hgrow3 (by simp; omega) (own_row_ge HOL.out))
        have HO3 := Lib.hid hown3
        clear hgrow3 hown3
        go_wp2_with fail
        go_roundw
        case rel =>
          refine ⟨q + 1, vs ++ [y], by omega, by go_num, by simp; omega, HNX, Lib.hid ?_, Lib.hid ?_, HB3.out⟩
          · intro x hx
            rcases List.mem_append.1 hx with hx | hx
            · exact HVO.out x hx
            · rw [List.mem_singleton] at hx; subst hx; exact HYO.out
          · rw [rowBv_append, rowBv_one, List.length_append]; exact HO3.out
        case measure => simp [intOf]; omega
    · have hke : q = ms.length := by omega
      have hkd : decide ((q : Int) < (ms.length : Int)) = false := decide_eq_false (by omega)
      have hkn : ¬ (q : Int) < (ms.length : Int) := by omega
      have hnl : vs.length ≤ 900 := by omega
      have HKE := Lib.hid (show vs.map Bv.bn = ms.filter (onB zs) by have h := HVT.out; rw [hke, List.take_length] at h; exact h)
      have hbd := bds_own HOWN.out rfl HVO.out hb (by omega)
      rw [HKE.out] at hbd
      have HE := Lib.hid hbd
      have HBE := Lib.hid (HB1.out.trans (hb.mono HB1.out.size))
      clear hke hb hbd
      go_wp2_with fail
      go_ret
      exact ⟨_, rfl, by rw [HMS.out]; exact HE.out, HBE.out⟩
end Go.Proofs.Ytcoaneipajadiaa
