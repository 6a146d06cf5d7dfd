/-
  Names and binds in order, by the reference of layer 5: names, Of.
  Binds behind binds, as data: put in at once they do what the one does, then the other. No function of the program.
-/
import Derived.Test.YtedljdcliilggaaU05
import Derived.Test.YtedljdcliilggaaU03
import Derived.Deep.RegionWith
import Derived.BigQuiet
import Derived.Deep.QuietTactic
namespace Go.Proofs.Ytedljdcliilggaa
open Go.RowKit

/-- s[l:] of a row of texts. -/
def cutS (g o cap l : Nat) : Addr := if cap = l then ⟨g, o, none⟩ else ⟨g, o + l, none⟩
theorem cutS_of {g o cap l : Nat} (h : l < cap) : cutS g o cap l = ⟨g, o + l, none⟩ := by unfold cutS; rw [if_neg (by omega)]
theorem cuts_from (g o len cap l : Nat) (hl : l ≤ len) (w : World) :
    (Instr.slice 44 (.slice (some ⟨g, o, none⟩) len cap) (some (.int .i64 (l : Int))) none none).run Try.prog w = .ok (.slice (some (cutS g o cap l)) (len - l) (cap - l)) w := by
  have hu := Try.underlying44
  have hz := Try.sizeOf9
  have he : Try.prog.elem 44 = 9 := by kernel_rfl
  rw [run_slice_l w 44 _ len cap (by rw [he]; exact hu) .i64 l (by omega) (by omega), he]
  simp only [hz, Result.andThen, sliced, Int.toNat_natCast, Nat.mul_one]
  unfold cutS
  by_cases h : cap = l
  · rw [if_pos h, if_pos h]
  · rw [if_neg h, if_neg h]
    have : (Option.map (fun x => x.add l) (some (⟨g, o, none⟩ : Addr))) = some ⟨g, o + l, none⟩ := by
      simp only [Option.map_some]
      unfold Addr.add
      split
      · next h => rw [h]; simp
      · rfl
    rw [this]
theorem cuts_to (g o len cap h : Nat) (hh : h ≤ cap) (h0 : 0 < cap) (w : World) :
    (Instr.slice 44 (.slice (some ⟨g, o, none⟩) len cap) none (some (.int .i64 (h : Int))) none).run Try.prog w = .ok (.slice (some ⟨g, o, none⟩) h cap) w := by
  have hu := Try.underlying44
  have hz := Try.sizeOf9
  have he : Try.prog.elem 44 = 9 := by kernel_rfl
  rw [run_slice_h w 44 _ len cap (by rw [he]; exact hu) .i64 h (by omega) (by omega), he]
  simp only [hz, Result.andThen, sliced, Int.toNat_natCast]
  rw [if_neg (by omega)]
  rfl
set_option maxRecDepth 100000 in
set_option maxHeartbeats 8000000 in
theorem rnames_any (v : Value) (bs : List Bn) (w0 w : World) (hv : Bds w0 v bs) (hb0 : Below w0.heap.size w0 w) (hlen : bs.length ≤ 100000) :
    Calls Try.prog 41 #[v] w fun e w' => ∃ u, e = .returned u ∧ OwnS w w' u (namesB bs) ∧ Below w.heap.size w w' := by
  obtain ⟨i0, hi, hz0, hz1, hz2⟩ := info_parts strInfo
  obtain ⟨a, c, rfl, hlm, hrow⟩ := hv
  have IN := Lib.hid (fun v zs s w hv => rin_any v zs s w hv)
  have HB := Lib.hid hb0
  have HR := Lib.hid hrow
  clear hb0 hrow
  go_enter Try.func41, Try.ntmps41
  go_wp2_with fail
  go_loopw [3, 10] (fun o i wr => ∃ (k : Nat) (zs : List ByteArray), k ≤ bs.length ∧ i = .int .i64 k ∧ Hid (zs = namesB (bs.take k)) ∧ ((zs = [] ∧ o = .slice none 0 0) ∨ zs ≠ []) ∧
    wr.ownsRow w.heap.size 9 1 o zs.length (zs.map Value.string) ∧ Below w.heap.size w wr) (fun _ i _ => bs.length - (intOf i).toNat)
  case atStart => exact ⟨0, [], Nat.zero_le _, rfl, Lib.hid rfl, .inl ⟨rfl, rfl⟩, World.ownsRow_nil _ _ _ _, Below.refl _ _⟩
  case round =>
    obtain ⟨k, zs, hk, rfl, HZ, hzn, hown, hb⟩ := hrel
    have hbs := hb.size
    have hzl : zs.length ≤ 100000 := by
      have := namesB_len (bs.take k)
      rw [← HZ.out, List.length_take] at this; omega
    by_cases hkl : k < bs.length
    · obtain ⟨b, o, rfl, hlt, hat⟩ := HR.out.resolve_left (by intro h; rw [h] at hkl; simp at hkl)
      obtain ⟨x, hx⟩ : ∃ x, bs[k]? = some x := ⟨_, List.getElem?_eq_getElem hkl⟩
      obtain ⟨y, hyx, _, hy⟩ := bdAt_bv (hat k x hx)
      have hb0r := HB.out.trans (hb.mono HB.out.size)
      obtain ⟨m0, m1, m2, m3, m4⟩ : BvAt wr b (o + k * 5) y := ⟨(hb0r.cell (p := ⟨b, o + k * 5, none⟩) hlt).trans hy.c0, (hb0r.cell (p := ⟨b, o + k * 5 + 1, none⟩) hlt).trans hy.c1, (hb0r.cell (p := ⟨b, o + k * 5 + 2, none⟩) hlt).trans hy.c2, (hb0r.cell (p := ⟨b, o + k * 5 + 3, none⟩) hlt).trans hy.c3, (hb0r.cell (p := ⟨b, o + k * 5 + 4, none⟩) hlt).trans hy.c4⟩
      have HST := Lib.hid (show namesB (bs.take (k + 1)) = insN zs y.s by rw [namesB_take hx, ← HZ.out, ← hyx]; rfl)
      have hk0 : (0 : Int) ≤ (k : Int) := by omega
      have hk1 : (k : Int) < (bs.length : Int) := by omega
      have HOWN := Lib.hid hown
      have hkd : decide ((k : Int) < (bs.length : Int)) = true := decide_eq_true hk1
      clear hy hat hx hb0r hyx
      have I := Lib.hid (IN.out _ zs y.s (wr.alloc (.cells #[.string y.s, .int .i64 y.v.t.kind, .string y.v.t.name, .int .i64 y.v.t.n, .slice y.v.a y.v.t.args.length y.v.c] 41)) (strs_of_own (hown.alloc _) (by omega)))
      cases hc : Lib.containsS zs y.s with
      | true =>
        rw [hc] at I
        have HNX := Lib.hid (show zs = namesB (bs.take (k + 1)) by rw [HST.out]; unfold insN; rw [if_pos hc])
        have HOX := Lib.hid (hown.alloc (.cells #[.string y.s, .int .i64 y.v.t.kind, .string y.v.t.name, .int .i64 y.v.t.n, .slice y.v.a y.v.t.args.length y.v.c] 41))
        have HBX := Lib.hid (hb.alloc hbs (.cells #[.string y.s, .int .i64 y.v.t.kind, .string y.v.t.name, .int .i64 y.v.t.n, .slice y.v.a y.v.t.args.length y.v.c] 41))
        have HZN := Lib.hid hzn
        clear hown hb hzn
        go_wp2_with fail
        refine I.out.mono ?_; rintro e w2 ⟨rfl, rfl⟩
        go_wp2_with fail
        go_roundw
        case rel => exact ⟨k + 1, zs, by omega, by go_num, HNX, HZN.out, HOX.out, HBX.out⟩
        case measure => simp [intOf]; omega
      | false =>
        rw [hc] at I
        have HNI := Lib.hid (show namesB (bs.take (k + 1)) = insW zs y.s by rw [HST.out]; unfold insN; rw [if_neg (by rw [hc]; simp)])
        rcases hzn with ⟨rfl, rfl⟩ | hzn
        · clear hown
          go_wp2_with fail
          refine I.out.mono ?_; rintro e w2 ⟨rfl, rfl⟩
          go_wp2_with fail
          refine wp_loop_rounds 1 ?_; rw [rounds_succ]
          go_wp2_with fail
          go_quiet (fail)
          go_wp2_with (at_builtin; refine wpList_append_own _ rfl _ _ 44 rfl w.heap.size 9 i0 (.string ⟨#[]⟩) 1 16 Try.underlying44 hi hz0 hz1 hz2 rfl (by decide) _ 0 _ rfl (World.ownsRow_nil _ _ _ _) ⟨wr.heap.size + 1, 0, none⟩ 1 1 [.string y.s] rfl rfl ?n1 (by simp [Value.oneCell']) ?n3 ?n4 ?n5 ?_)
          case n1 =>
            have e : wr.heap.size + 1 = ((wr.alloc (.cells #[.string y.s, .int .i64 y.v.t.kind, .string y.v.t.name, .int .i64 y.v.t.n, .slice y.v.a y.v.t.args.length y.v.c] 41)).drewN nq).heap.size := by simp
            rw [e]; exact cell_one_new _ _ _
          case n3 => unfold maxLen; omega
          case n4 => omega
          case n5 => simp; omega
          intro v2 w7 hown7 hgrow7 _
          have hb7 : Below w.heap.size w w7 := by
            refine Below.grown ?_ hgrow7 (by simp; omega) (fun q hq => by cases hq)
            exact (below_drewN (hb.alloc hbs _) _).alloc (by simp; omega) _
          have HB7 := Lib.hid hb7
          have HO7 := Lib.hid hown7
          clear hgrow7 hb7
          go_wp2_with (at_builtin; refine wpList_append_own_none rfl _ _ 44 rfl w.heap.size 9 i0 1 Try.underlying44 hi _ 1 _ rfl hown7 rfl ?_)
          clear hown7
          go_wp2_with fail
          go_roundw
          case rel => exact ⟨k + 1, [y.s], by omega, by go_num, Lib.hid (by rw [HNI.out]; rfl), .inr (by simp), HO7.out, HB7.out⟩
          case measure => simp [intOf]; omega
        · obtain ⟨wo, hwo⟩ : ∃ wo, wo = wr := ⟨wr, rfl⟩
          subst hwo
          obtain ⟨hrl, h0 | ⟨g, cap, cur, rfl, hg1, hgg, hgn, hgm, hgs, hgt⟩⟩ := hown
          · exfalso; exact hzn (List.eq_nil_of_length_eq_zero h0.2)
          have hglt : g < wo.heap.size := by
            rcases Nat.lt_or_ge g wo.heap.size with h | h
            · exact h
            · rw [Array.getElem?_eq_none h] at hgg; cases hgg
          have hvpos : 0 < zs.length := List.length_pos_iff.2 hzn
          have CEL := Lib.hid (fun (q : Nat) (x : ByteArray) (hq : zs[q]? = some x) => (show wo.cell? ⟨g, q, none⟩ = some (.string x) from by
            have hql : q < zs.length := (List.getElem?_eq_some_iff.1 hq).1
            have e : (zs.map Value.string)[q]? = some (.string x) := by rw [List.getElem?_map, hq]; rfl
            rw [cell_of_row wo g q cur _ (0, 0) hgg, ← e, ← hgt, List.getElem?_take, if_pos (by omega)]
            simp))
          clear hrl hgg hgs hgt
          go_wp2_with fail
          refine I.out.mono ?_; rintro e w2 ⟨rfl, rfl⟩
          go_wp2_with fail
          go_loopw [6] (fun i wr => ∃ j : Nat, j ≤ zs.length ∧ i = .int .i64 j ∧ Hid (PassN zs y.s j) ∧ Below (wo.heap.size + 1) (wo.alloc (.cells #[.string y.s, .int .i64 y.v.t.kind, .string y.v.t.name, .int .i64 y.v.t.n, .slice y.v.a y.v.t.args.length y.v.c] 41)) wr) (fun i _ => zs.length - (intOf i).toNat)
          case atStart => exact ⟨0, Nat.zero_le _, rfl, Lib.hid (fun i h hi => by omega), Below.refl _ _⟩
          case round =>
            obtain ⟨j, hj, rfl, HPASS, hbx0⟩ := hrel
            have hbxs := hbx0.size
            simp at hbxs
            have hbwx : Below wo.heap.size wo wr := below_pair hbx0
            have x0 : wr.cell? ⟨wo.heap.size, 0, none⟩ = some (.string y.s) := (hbx0.cell (p := ⟨wo.heap.size, 0, none⟩) (by simp)).trans (World.cell?_alloc_mark wo #[.string y.s, .int .i64 y.v.t.kind, .string y.v.t.name, .int .i64 y.v.t.n, .slice y.v.a y.v.t.args.length y.v.c] 41 (0, 0) 0)
            by_cases hjl : j < zs.length
            · have hjl' : (j : Int) < (zs.length : Int) := by omega
              have hjd : decide ((j : Int) < (zs.length : Int)) = true := decide_eq_true hjl'
              have hj0 : (0 : Int) ≤ (j : Int) := by omega
              obtain ⟨z, hz⟩ : ∃ z, zs[j]? = some z := ⟨_, List.getElem?_eq_getElem hjl⟩
              have e0 : wr.cell? ⟨g, j, none⟩ = some (.string z) := (hbwx.cell (p := ⟨g, j, none⟩) hglt).trans (CEL.out j z hz)
              have HZJ := Lib.hid (show zs[j] = z by rw [List.getElem?_eq_getElem hjl] at hz; exact Option.some.inj hz)
              have hwl : wo.heap.size < wr.heap.size := by omega
              clear hz hbwx
              cases hlt2 : Op.bytesLess z.toList y.s.toList with
              | true =>
                go_wp2_with fail
                go_quiet (fail)
                go_wp2_with fail
                go_roundw
                case rel => exact ⟨j + 1, by omega, by go_num, Lib.hid (HPASS.out.succ hjl (by rw [HZJ.out]; exact hlt2)), below_drewN hbx0 _⟩
                case measure => simp [intOf]; omega
              | false =>
                have HFIN := Lib.hid (insW_at HPASS.out hj (fun h => by rw [HZJ.out]; exact hlt2))
                go_wp2_with fail
                go_quiet (fail)
                clear e0
                obtain ⟨w5, hw5⟩ : ∃ w5, w5 = wr.drewN nq := ⟨_, rfl⟩
                rw [← hw5]
                have hbx1 : Below (wo.heap.size + 1) (wo.alloc (.cells #[.string y.s, .int .i64 y.v.t.kind, .string y.v.t.name, .int .i64 y.v.t.n, .slice y.v.a y.v.t.args.length y.v.c] 41)) w5 := by rw [hw5]; exact below_drewN hbx0 nq
                have hbw : Below wo.heap.size wo w5 := below_pair hbx1
                clear hw5 hbx0 x0
                have hbs5 := hbw.size
                have hwl5 : wo.heap.size < w5.heap.size := by
                  have := hbx1.size
                  simp at this; omega
                have hgc : g < w5.heap.size := by omega
                have hcells : ∀ q x, zs[q]? = some x → w5.cell? ⟨g, q, none⟩ = some (.string x) := fun q x hq => by
                  rw [hbw.cell (p := ⟨g, q, none⟩) hglt]; exact CEL.out q x hq
                have hnews1 : ∀ q x, ((zs.take j).map Value.string)[q]? = some x → w5.cell? ((⟨g, 0, none⟩ : Addr).add q) = some x := fun q x hq => by
                  rw [List.getElem?_map, List.getElem?_take] at hq
                  split at hq
                  · have e : ((⟨g, 0, none⟩ : Addr).add q) = ⟨g, q, none⟩ := by
                      unfold Addr.add; split
                      · next h => subst h; rfl
                      · simp
                    obtain ⟨z, hz, rfl⟩ := Option.map_eq_some_iff.1 hq
                    rw [e]; exact hcells q z hz
                  · cases hq
                have hlen1 : ((zs.take j).map Value.string).length = j * 1 := by rw [List.length_map, List.length_take]; omega
                have H1 := Lib.hid (And.intro hlen1 (And.intro hnews1 (strs_one (zs.take j))))
                have HC := Lib.hid hcells
                have hct := fun W => cuts_to g 0 zs.length cap j (by omega) (by omega) W
                have hcf := fun W => cuts_from g 0 zs.length cap j (by omega) W
                have hbx := World.cell?_alloc_mark wo #[.string y.s, .int .i64 y.v.t.kind, .string y.v.t.name, .int .i64 y.v.t.n, .slice y.v.a y.v.t.args.length y.v.c] 41 (0, 0) 0
                have hbx5 : w5.cell? ⟨wo.heap.size, 0, none⟩ = some (.string y.s) := (hbx1.cell (p := ⟨wo.heap.size, 0, none⟩) (by simp)).trans hbx
                have HBX := Lib.hid hbx5
                clear hnews1 hlen1 hcells hbx
                go_wp2_with (at_builtin; refine wpList_append_own _ rfl _ _ 44 rfl w5.heap.size 9 i0 (.string ⟨#[]⟩) 1 16 Try.underlying44 hi hz0 hz1 hz2 rfl (by decide) _ 0 _ rfl (World.ownsRow_nil _ _ _ _) ⟨g, 0, none⟩ j cap ((zs.take j).map Value.string) rfl H1.out.1 H1.out.2.1 H1.out.2.2 ?ap3 ?ap4 ?ap5 ?_)
                case ap3 => unfold maxLen; omega
                case ap4 => omega
                case ap5 => omega
                intro v1 w6 hown6 hgrow6 _
                have hb6 : Below w5.heap.size w5 w6 := (Below.refl _ _).grown hgrow6 (Nat.le_refl _) (fun k hk => by cases hk)
                have x0 : w6.cell? ⟨wo.heap.size, 0, none⟩ = some (.string y.s) := (hb6.cell (p := ⟨wo.heap.size, 0, none⟩) hwl5).trans HBX.out
                have hbs6 := hb6.size
                clear hgrow6 hct hbx5
                go_wp2_with (at_builtin; refine wpList_append_own _ rfl _ _ 44 rfl w5.heap.size 9 i0 (.string ⟨#[]⟩) 1 16 Try.underlying44 hi hz0 hz1 hz2 rfl (by decide) _ j _ rfl (hown6.alloc _) ⟨w6.heap.size, 0, none⟩ 1 1 [.string y.s] rfl rfl (cell_one_new _ _ _) (by simp [Value.oneCell']) ?bp3 ?bp4 ?bp5 ?_)
                case bp3 => unfold maxLen; omega
                case bp4 => omega
                case bp5 => first | omega | (simp; omega)
                intro v2 w7 hown7 hgrow7 _
                have hb7 : Below w5.heap.size w5 w7 := (hb6.alloc hbs6 _).grown hgrow7 (by simp; omega) (own_row_ge hown6)
                have hbs7 := hb7.size
                have hnews3 : ∀ q x, ((zs.drop j).map Value.string)[q]? = some x → w7.cell? ((cutS g 0 cap j).add q) = some x := fun q x hq => by
                  rw [cutS_of (by omega)]
                  have e : ((⟨g, 0 + j, none⟩ : Addr).add q) = ⟨g, j + q, none⟩ := by
                    unfold Addr.add; split
                    · next h => subst h; simp
                    · simp
                  rw [List.getElem?_map, List.getElem?_drop] at hq
                  obtain ⟨z, hz, rfl⟩ := Option.map_eq_some_iff.1 hq
                  rw [e, hb7.cell (p := ⟨g, j + q, none⟩) hgc]
                  exact HC.out _ z hz
                have hlen3 : ((zs.drop j).map Value.string).length = (zs.length - j) * 1 := by rw [List.length_map, List.length_drop]; omega
                have H3 := Lib.hid (And.intro hlen3 (And.intro hnews3 (strs_one (zs.drop j))))
                clear hnews3 hlen3 hgrow7 hown6
                go_wp2_with (at_builtin; refine wpList_append_own _ rfl _ _ 44 rfl w5.heap.size 9 i0 (.string ⟨#[]⟩) 1 16 Try.underlying44 hi hz0 hz1 hz2 rfl (by decide) _ (j + 1) _ rfl hown7 (cutS g 0 cap j) (zs.length - j) (cap - j) ((zs.drop j).map Value.string) rfl H3.out.1 H3.out.2.1 H3.out.2.2 ?dp3 ?dp4 ?dp5 ?_)
                case dp3 => unfold maxLen; omega
                case dp4 => omega
                case dp5 => omega
                intro v3 w8 hown8 hgrow8 hnil8
                have hb8 : Below w5.heap.size w5 w8 := hb7.grown hgrow8 hbs7 (own_row_ge hown7)
                have hb9 : Below w.heap.size w w8 := (hb.trans (hbw.mono hbs)).trans (hb8.mono (by omega))
                have hrel : w8.ownsRow w.heap.size 9 1 v3 (zs.take j ++ y.s :: zs.drop j).length ((zs.take j ++ y.s :: zs.drop j).map Value.string) := by
                  have e : (zs.take j ++ y.s :: zs.drop j).map Value.string = (zs.take j).map Value.string ++ (.string y.s :: (zs.drop j).map Value.string) := by rw [List.map_append, List.map_cons]
                  have e2 : (zs.take j ++ y.s :: zs.drop j).length = j + 1 + (zs.length - j) := by rw [List.length_append, List.length_cons, List.length_take, List.length_drop]; omega
                  rw [e, e2]
                  exact own_lower (base := w5.heap.size) (by simpa using hown8) (by omega)
                have HREL := Lib.hid hrel
                have HB9 := Lib.hid hb9
                clear hrel hown8 hgrow8 hnil8 hown7 hcf hb6 hb7 hb8
                go_wp2_with fail
                go_roundw
                case rel => exact ⟨k + 1, zs.take j ++ y.s :: zs.drop j, by omega, by go_num, Lib.hid (by rw [HNI.out, HFIN.out]), .inr (by simp), HREL.out, HB9.out⟩
                case measure => simp [intOf]; omega
            · have hjv : zs.length ≤ j := by omega
              have hjl' : ¬ (j : Int) < (zs.length : Int) := by omega
              have hjd : decide ((j : Int) < (zs.length : Int)) = false := decide_eq_false hjl'
              have HFIN := Lib.hid (insW_at HPASS.out hj (fun h => absurd h hjl))
              clear hbwx
              go_wp2_with fail
              go_quiet (fail)
              obtain ⟨w5, hw5⟩ : ∃ w5, w5 = wr.drewN nq := ⟨_, rfl⟩
              rw [← hw5]
              have hbx1 : Below (wo.heap.size + 1) (wo.alloc (.cells #[.string y.s, .int .i64 y.v.t.kind, .string y.v.t.name, .int .i64 y.v.t.n, .slice y.v.a y.v.t.args.length y.v.c] 41)) w5 := by rw [hw5]; exact below_drewN hbx0 nq
              have hbw : Below wo.heap.size wo w5 := below_pair hbx1
              clear hw5 hbx0 x0
              have hbs5 := hbw.size
              have hwl5 : wo.heap.size < w5.heap.size := by
                have := hbx1.size
                simp at this; omega
              have hgc : g < w5.heap.size := by omega
              have hcells : ∀ q x, zs[q]? = some x → w5.cell? ⟨g, q, none⟩ = some (.string x) := fun q x hq => by
                rw [hbw.cell (p := ⟨g, q, none⟩) hglt]; exact CEL.out q x hq
              have hnews1 : ∀ q x, ((zs.take j).map Value.string)[q]? = some x → w5.cell? ((⟨g, 0, none⟩ : Addr).add q) = some x := fun q x hq => by
                rw [List.getElem?_map, List.getElem?_take] at hq
                split at hq
                · have e : ((⟨g, 0, none⟩ : Addr).add q) = ⟨g, q, none⟩ := by
                    unfold Addr.add; split
                    · next h => subst h; rfl
                    · simp
                  obtain ⟨z, hz, rfl⟩ := Option.map_eq_some_iff.1 hq
                  rw [e]; exact hcells q z hz
                · cases hq
              have hlen1 : ((zs.take j).map Value.string).length = j * 1 := by rw [List.length_map, List.length_take]; omega
              have H1 := Lib.hid (And.intro hlen1 (And.intro hnews1 (strs_one (zs.take j))))
              have HC := Lib.hid hcells
              have hct := fun W => cuts_to g 0 zs.length cap j (by omega) (by omega) W
              have hcf := fun W => cuts_from g 0 zs.length cap j (by omega) W
              have hbx := World.cell?_alloc_mark wo #[.string y.s, .int .i64 y.v.t.kind, .string y.v.t.name, .int .i64 y.v.t.n, .slice y.v.a y.v.t.args.length y.v.c] 41 (0, 0) 0
              have hbx5 : w5.cell? ⟨wo.heap.size, 0, none⟩ = some (.string y.s) := (hbx1.cell (p := ⟨wo.heap.size, 0, none⟩) (by simp)).trans hbx
              have HBX := Lib.hid hbx5
              clear hnews1 hlen1 hcells hbx
              go_wp2_with (at_builtin; refine wpList_append_own _ rfl _ _ 44 rfl w5.heap.size 9 i0 (.string ⟨#[]⟩) 1 16 Try.underlying44 hi hz0 hz1 hz2 rfl (by decide) _ 0 _ rfl (World.ownsRow_nil _ _ _ _) ⟨g, 0, none⟩ j cap ((zs.take j).map Value.string) rfl H1.out.1 H1.out.2.1 H1.out.2.2 ?ap3 ?ap4 ?ap5 ?_)
              case ap3 => unfold maxLen; omega
              case ap4 => omega
              case ap5 => omega
              intro v1 w6 hown6 hgrow6 _
              have hb6 : Below w5.heap.size w5 w6 := (Below.refl _ _).grown hgrow6 (Nat.le_refl _) (fun k hk => by cases hk)
              have x0 : w6.cell? ⟨wo.heap.size, 0, none⟩ = some (.string y.s) := (hb6.cell (p := ⟨wo.heap.size, 0, none⟩) hwl5).trans HBX.out
              have hbs6 := hb6.size
              clear hgrow6 hct hbx5
              go_wp2_with (at_builtin; refine wpList_append_own _ rfl _ _ 44 rfl w5.heap.size 9 i0 (.string ⟨#[]⟩) 1 16 Try.underlying44 hi hz0 hz1 hz2 rfl (by decide) _ j _ rfl (hown6.alloc _) ⟨w6.heap.size, 0, none⟩ 1 1 [.string y.s] rfl rfl (cell_one_new _ _ _) (by simp [Value.oneCell']) ?bp3 ?bp4 ?bp5 ?_)
              case bp3 => unfold maxLen; omega
              case bp4 => omega
              case bp5 => first | omega | (simp; omega)
              intro v2 w7 hown7 hgrow7 _
              have hb7 : Below w5.heap.size w5 w7 := (hb6.alloc hbs6 _).grown hgrow7 (by simp; omega) (own_row_ge hown6)
              have hbs7 := hb7.size
              clear hgrow7 hown6
              go_wp2_with (at_builtin; refine wpList_append_own _ rfl _ _ 44 rfl w5.heap.size 9 i0 (.string ⟨#[]⟩) 1 16 Try.underlying44 hi hz0 hz1 hz2 rfl (by decide) _ (j + 1) _ rfl hown7 (cutS g 0 cap j) 0 (cap - j) [] rfl rfl (fun q x hq => by cases hq) (fun x hx => by cases hx) ?dq3 ?dq4 ?dq5 ?_)
              case dq3 => unfold maxLen; omega
              case dq4 => omega
              case dq5 => omega
              intro v3 w8 hown8 hgrow8 hnil8
              have hb8 : Below w5.heap.size w5 w8 := hb7.grown hgrow8 hbs7 (own_row_ge hown7)
              have hb9 : Below w.heap.size w w8 := (hb.trans (hbw.mono hbs)).trans (hb8.mono (by omega))
              have hrel : w8.ownsRow w.heap.size 9 1 v3 (zs.take j ++ y.s :: zs.drop j).length ((zs.take j ++ y.s :: zs.drop j).map Value.string) := by
                have e : (zs.take j ++ y.s :: zs.drop j).map Value.string = (zs.take j).map Value.string ++ [.string y.s] := by rw [List.drop_eq_nil_of_le hjv]; simp
                have e2 : (zs.take j ++ y.s :: zs.drop j).length = j + 1 + 0 := by rw [List.length_append, List.length_cons, List.length_take, List.length_drop]; omega
                rw [e, e2]
                exact own_lower (base := w5.heap.size) (by simpa using hown8) (by omega)
              have HREL := Lib.hid hrel
              have HB9 := Lib.hid hb9
              clear hrel hown8 hgrow8 hnil8 hown7 hcf hb6 hb7 hb8
              go_wp2_with fail
              go_roundw
              case rel => exact ⟨k + 1, zs.take j ++ y.s :: zs.drop j, by omega, by go_num, Lib.hid (by rw [HNI.out, HFIN.out]), .inr (by simp), HREL.out, HB9.out⟩
              case measure => simp [intOf]; omega
    · have hke : k = bs.length := by omega
      have hkd : decide ((k : Int) < (bs.length : Int)) = false := decide_eq_false (by omega)
      have hkn : ¬ (k : Int) < (bs.length : Int) := by omega
      have HF := Lib.hid (show zs = namesB bs by rw [HZ.out, hke, List.take_length])
      have HO := Lib.hid hown
      have HBE := Lib.hid hb
      clear hown hb hke hzn
      go_wp2_with fail
      go_ret
      refine ⟨_, rfl, ?_, HBE.out⟩
      rw [← HF.out]; exact HO.out
set_option maxRecDepth 100000 in
set_option maxHeartbeats 8000000 in
theorem rof_any (v : Value) (bs : List Bn) (w0 w : World) (hv : Bds w0 v bs) (hb0 : Below w0.heap.size w0 w) (hlen : bs.length ≤ 100000) :
    Calls Try.prog 29 #[v] w fun e w' => ∃ u, e = .returned u ∧ OwnBv w0 w' w.heap.size u (ofB bs) ∧ Below w.heap.size w w' := by
  obtain ⟨i0, hi, hz0, hz1, hz2⟩ := info_parts bindInfo
  have NM := Lib.hid (rnames_any v bs w0 w hv hb0 hlen)
  have GET := Lib.hid (fun (s : ByteArray) (W : World) (h : Below w0.heap.size w0 W) => rget_any v bs s w0 W hv h)
  have NS := Lib.hid (fun (s : ByteArray) (h : s ∈ namesB bs) => name_size hv h)
  have HB := Lib.hid hb0
  have hnl : (namesB bs).length ≤ 100000 := by have := namesB_len bs; omega
  obtain ⟨a, c, rfl, _, _⟩ := hv
  clear hb0
  go_enter Try.func29, Try.ntmps29
  go_wp2_with fail
  refine NM.out.mono ?_; rintro e w1 ⟨un, rfl, hn, hb1⟩
  rcases own_cells hn with ⟨rfl, h0⟩ | ⟨g, cap, rfl, hg, hcap, hcell⟩
  · have HE := Lib.hid (show OwnBv w0 w1 w.heap.size (.slice none 0 0) (ofB bs) from ⟨[], by unfold ofB rowOfN; rw [h0]; rfl, (fun x hx => by cases hx), by unfold ofB rowOfN; rw [h0]; exact World.ownsRow_nil _ _ _ _⟩)
    have HB1 := Lib.hid hb1
    clear hn hb1 h0
    go_wp2_with fail
    refine wp_loop_rounds 1 ?_; rw [rounds_succ]
    go_wp2_with fail
    go_ret
    exact ⟨_, rfl, HE.out, HB1.out⟩
  · have CEL := Lib.hid hcell
    clear hn hcell
    go_wp2_with fail
    go_loopw [3, 11] (fun o i wr => ∃ (k : Nat) (vs : List Bv), k ≤ (namesB bs).length ∧ i = .int .i64 k ∧ Hid (vs.map Bv.bn = ofTo bs k) ∧ Hid (∀ x ∈ vs, x.v.ok w0 ∧ x.s.size ≤ 9223372036854775807) ∧
      Hid (wr.ownsRow w1.heap.size 41 5 o k (rowBv vs)) ∧ Below w1.heap.size w1 wr) (fun _ i _ => (namesB bs).length - (intOf i).toNat)
    case atStart => exact ⟨0, [], Nat.zero_le _, rfl, Lib.hid rfl, Lib.hid (fun x hx => by cases hx), Lib.hid (World.ownsRow_nil _ _ _ _), Below.refl _ _⟩
    case round =>
      obtain ⟨k, vs, hk, rfl, HVT, HVO, HOWN, hb⟩ := hrel
      by_cases hkl : k < (namesB bs).length
      · obtain ⟨s, hs⟩ : ∃ s, (namesB bs)[k]? = some s := ⟨_, List.getElem?_eq_getElem hkl⟩
        have m0 : wr.cell? ⟨g, 0 + k, none⟩ = some (.string s) := (hb.cell (p := ⟨g, 0 + k, none⟩) hg).trans (CEL.out k s hs)
        rw [Nat.zero_add] at m0
        have HSZ := Lib.hid (NS.out s (List.mem_of_getElem? hs))
        have HNX := Lib.hid (ofTo_succ hs)
        have hbw : Below w.heap.size w wr := hb1.trans (hb.mono hb1.size)
        have G := Lib.hid (GET.out s wr (HB.out.trans (hbw.mono HB.out.size)))
        have hk0 : (0 : Int) ≤ (k : Int) := by omega
        have hk1 : (k : Int) < ((namesB bs).length : Int) := by omega
        have hkd : decide ((k : Int) < ((namesB bs).length : Int)) = true := decide_eq_true hk1
        have hbs := hbw.size
        clear hs
        go_wp2_with fail
        refine G.out.mono ?_; rintro e w2 ⟨⟨ty, ay, cy⟩, rfl, hyt, hyo, hb2⟩
        have hbw2 := hbw.trans (hb2.mono hbs)
        have hbw2s := hbw2.size
        have hbx2 := hb.trans (hb2.mono hb.size)
        have hbx2s := hbx2.size
        have hown2 := own_below HOWN.out hb2
        have HY := Lib.hid (And.intro hyt hyo)
        clear hyt hyo hb2
        simp only [Tv.val] at *
        go_wp2_with (at_builtin; refine wpList_append_own _ rfl _ _ 27 rfl w1.heap.size 41 i0 (.agg #[.string ⟨#[]⟩, .int .i64 0, .string ⟨#[]⟩, .int .i64 0, .slice none 0 0]) 5 72 Try.underlying27 hi hz0 hz1 hz2 rfl (by decide) _ k _ rfl ((hown2.alloc _).alloc _) ⟨w2.heap.size + 1, 0, none⟩ 1 1 [.string s, .int .i64 ty.kind, .string ty.name, .int .i64 ty.n, .slice ay ty.args.length cy] rfl rfl (new_row5 _ _ (by simp) _ _ _ _ _ _) (bv_one ⟨s, ⟨ty, ay, cy⟩⟩) ?n3 ?n4 ?n5 ?_)
        case n3 => unfold maxLen; omega
        case n4 => omega
        case n5 => first | omega | (simp; omega)
        intro v3 w3 hown3 hgrow3 _
        have hb3 : Below w1.heap.size w1 w3 := by
          refine ((hbx2.alloc hbx2.size _).alloc (by have := hbx2.size; simp; omega) _).grown hgrow3 (by have := hbx2.size; simp; omega) (own_row_ge hown2)
        have HEND := Lib.hid hb3
        have HO3 := Lib.hid hown3
        clear hgrow3 hown3 hb3
        go_wp2_with fail
        go_roundw
        case rel =>
          refine ⟨k + 1, vs ++ [⟨s, ⟨ty, ay, cy⟩⟩], by omega, by go_num, Lib.hid ?_, Lib.hid ?_, Lib.hid ?_, HEND.out⟩
          · rw [List.map_append, HVT.out, HNX.out]; show _ ++ [(s, ty)] = _; rw [show ty = _ from HY.out.1]; rfl
          · intro x hx
            rcases List.mem_append.1 hx with hx | hx
            · exact HVO.out x hx
            · rw [List.mem_singleton] at hx; subst hx; exact ⟨HY.out.2, HSZ.out⟩
          · rw [rowBv_append, rowBv_one]; exact HO3.out
        case measure => simp [intOf]; omega
      · have hke : k = (namesB bs).length := by omega
        have hkd : decide ((k : Int) < ((namesB bs).length : Int)) = false := decide_eq_false (by omega)
        have hkn : ¬ (k : Int) < ((namesB bs).length : Int) := by omega
        have HE := Lib.hid hke
        have HBE := Lib.hid (hb1.trans (hb.mono hb1.size))
        clear hke hb
        go_wp2_with fail
        go_ret
        exact ⟨_, rfl, ⟨vs, by rw [HVT.out, HE.out, ofTo_all], HVO.out, by rw [← ofTo_all, ofTo_len (Nat.le_refl _), ← HE.out]; exact own_lower HOWN.out hb1.size⟩, HBE.out⟩
end Go.Proofs.Ytedljdcliilggaa

namespace Go.Proofs.Ytedljdcliilggaa
open Go.RowKit

mutual
theorem appT_congr {l m : List Bn} (h : ∀ s, getB l s = getB m s) : ∀ t : Tm, appT l t = appT m t
  | .mk k s n xs => by rw [appT, appT, h s, appL_congr h xs]
theorem appL_congr {l m : List Bn} (h : ∀ s, getB l s = getB m s) : ∀ ts : List Tm, appL l ts = appL m ts
  | [] => by rw [appL, appL]
  | t :: r => by rw [appL, appL, appT_congr h t, appL_congr h r]
end
/-- What one row of binds has, with the other one put into it. -/
def putB (b a : List Bn) : List Bn := a.map fun x => (x.1, appT b x.2)
theorem getB_put (b : List Bn) (s : ByteArray) : ∀ a : List Bn, getB (putB b a) s = (getB a s).map (appT b)
  | [] => rfl
  | x :: a => by
    by_cases h : x.1 = s
    · rw [getB_hit x a h]; exact getB_hit (x.1, appT b x.2) _ h
    · rw [getB_miss x a h, ← getB_put b s a]; exact getB_miss (x.1, appT b x.2) _ h
theorem putB_succ {a : List Bn} (b : List Bn) {k : Nat} {x : Bn} (h : a[k]? = some x) : putB b (a.take (k + 1)) = putB b (a.take k) ++ [(x.1, appT b x.2)] := by
  obtain ⟨hk, rfl⟩ := List.getElem?_eq_some_iff.1 h
  unfold putB; rw [List.take_succ_eq_append_getElem hk, List.map_append]; rfl
/-- One behind the other. -/
def thenB (a b : List Bn) : List Bn := ofB (putB b a ++ b)
theorem thenB_get (a b : List Bn) (s : ByteArray) : getB (thenB a b) s = ((getB a s).map (appT b)).or (getB b s) := by
  unfold thenB; rw [ofB_get, getB_append, getB_put]
mutual
theorem then_app (a b : List Bn) : ∀ t : Tm, appT (thenB a b) t = appT b (appT a t)
  | .mk k s n xs => by
    have h := then_appL a b xs
    by_cases hk : k = 1
    · cases ha : getB a s with
      | some u =>
        have e1 : appT a (.mk k s n xs) = u := by rw [appT, if_pos hk, ha]
        have e2 : appT (thenB a b) (.mk k s n xs) = appT b u := by rw [appT, if_pos hk, thenB_get, ha]; rfl
        rw [e1, e2]
      | none =>
        have e1 : appT a (.mk k s n xs) = .mk k s n (appL a xs) := by rw [appT, if_pos hk, ha]
        rw [e1, appT, appT, if_pos hk, if_pos hk, thenB_get, ha, h]
        simp only [Option.map_none, Option.none_or]
    · have e1 : appT a (.mk k s n xs) = .mk k s n (appL a xs) := by rw [appT, if_neg hk]
      rw [e1, appT, appT, if_neg hk, if_neg hk, h]
theorem then_appL (a b : List Bn) : ∀ ts : List Tm, appL (thenB a b) ts = appL b (appL a ts)
  | [] => by rw [appL, appL, appL]
  | t :: r => by rw [appL, appL, appL, then_app a b t, then_appL a b r]
end
theorem getB_mem {l : List Bn} {s : ByteArray} {t : Tm} (h : getB l s = some t) : ∃ x ∈ l, x.2 = t := by
  unfold getB at h
  obtain ⟨x, hx, rfl⟩ := Option.map_eq_some_iff.1 h
  exact ⟨x, List.mem_of_find?_eq_some hx, rfl⟩
mutual
theorem appT_parts {bs : List Bn} {m : Nat} (hm : 1 ≤ m) (h : ∀ x ∈ bs, x.2.parts ≤ m) : ∀ t : Tm, (appT bs t).parts ≤ t.parts * m
  | .mk k s n xs => by
    have h2 := appL_parts hm h xs
    have e : partsL (appL bs xs) + 1 ≤ (partsL xs + 1) * m := by rw [Nat.add_mul]; omega
    rw [appT, Tm.parts]
    split
    · split
      · next u hu =>
        obtain ⟨x, hx, rfl⟩ := getB_mem hu
        have h3 := h x hx
        rw [Nat.add_mul]; omega
      · rw [Tm.parts]; exact e
    · rw [Tm.parts]; exact e
theorem appL_parts {bs : List Bn} {m : Nat} (hm : 1 ≤ m) (h : ∀ x ∈ bs, x.2.parts ≤ m) : ∀ ts : List Tm, partsL (appL bs ts) ≤ partsL ts * m
  | [] => by rw [appL, partsL_nil]; omega
  | t :: r => by
    have h1 := appT_parts hm h t
    have h2 := appL_parts hm h r
    rw [appL, partsL_cons, partsL_cons, Nat.add_mul]; omega
end
/-- What a name stands for in one row behind another. -/
def thenF (a b : List Bn) (n : ByteArray) : Tm := match getB a n with | some t => appT b t | none => (getB b n).getD (.mk 0 ⟨#[]⟩ 0 [])
theorem thenN_eq (a b : List Bn) : rowOfN (thenF a b) (namesB (a ++ b)) = thenB a b := by
  refine rising_one (rising_rowOfN (namesB_rise _)) (ofB_rising _) fun s => ?_
  rw [thenB_get, getB_rowOfN]
  by_cases hc : s ∈ namesB (a ++ b)
  · rw [if_pos (contains_iff.2 hc)]
    have hs := getB_isSome.2 (mem_namesB.1 hc)
    rw [getB_append] at hs
    unfold thenF
    cases ha : getB a s with
    | some t => rfl
    | none =>
      rw [ha] at hs
      cases hb : getB b s with
      | some u => rfl
      | none => rw [hb] at hs; cases hs
  · rw [if_neg (fun h => hc (contains_iff.1 h))]
    have hn : getB (a ++ b) s = none := by
      cases h : getB (a ++ b) s with
      | none => rfl
      | some t => exact absurd (mem_namesB.2 (getB_isSome.1 (by rw [h]; rfl))) hc
    rw [getB_append] at hn
    cases ha : getB a s with
    | some t => rw [ha] at hn; cases hn
    | none =>
      rw [ha] at hn
      exact hn.symm
def thenTo (a b : List Bn) (k : Nat) : List Bn := rowOfN (thenF a b) ((namesB (a ++ b)).take k)
theorem thenTo_succ {a b : List Bn} {k : Nat} {s : ByteArray} (h : (namesB (a ++ b))[k]? = some s) : thenTo a b (k + 1) = thenTo a b k ++ [(s, thenF a b s)] := by
  obtain ⟨hk, rfl⟩ := List.getElem?_eq_some_iff.1 h
  unfold thenTo rowOfN; rw [List.take_succ_eq_append_getElem hk, List.map_append]; rfl
theorem thenTo_all (a b : List Bn) : thenTo a b (namesB (a ++ b)).length = thenB a b := by unfold thenTo; rw [List.take_length, thenN_eq]
theorem thenB_length (a b : List Bn) : (thenB a b).length = (namesB (a ++ b)).length := by rw [← thenN_eq]; unfold rowOfN; rw [List.length_map]
end Go.Proofs.Ytedljdcliilggaa
