/-
  Whether a term is of functions, by the reference of layer 10: Fits.
  Slices that read as lists of texts, of whatever length a slice may have. Nothing of the program's functions.
  LibraryTwice: any primitives, one after the other: each may be used again, and changes nothing then; their functions fit their rules.
  The program's types are laid out in memory. Nothing of its functions.
-/
import Derived.Test.YtnbjpgdnfklanaaGreatDoorT08
import Derived.Test.YtnbjpgdnfklanaaGreatDoorT45
import Derived.Test.YtnbjpgdnfklanaaGreatDoorT46
import Derived.Test.YtnbjpgdnfklanaaGreatDoorT01
import Derived.Test.YtnbjpgdnfklanaaGreatDoorT02
import Derived.Test.YtnbjpgdnfklanaaGreatDoorRows
import Derived.Deep.Slices
import Derived.ChangeSame
import Derived.Carry
import Derived.OpenShut
namespace Go.Proofs.YtnbjpgdnfklanaaGreatDoor
open Go.RowKit
set_option maxRecDepth 100000 in
set_option maxHeartbeats 4000000 in
theorem rfits_any (v : Value) (fs : List Fn) (x : Tv) (w : World) (hv : Fus w v fs) (hx : x.ok w) (hp : x.t.parts ≤ 100000) :
    Calls Tryz.prog 20 #[v, x.val] w (FitsPost fs x.t w) := by
  have AR := Lib.hid (fun (s : ByteArray) (W : World) (h : Below w.heap.size w W) => rarity_any v fs s W (hv.below h))
  have IN := Lib.hid (fun (W : World) (h : Below w.heap.size w W) => rinner_tm x W (hx.below h) hp)
  have AT := Lib.hid (fun (ps : List Int) (u : Value) (W : World) (hn : Nums W u ps) (h : Below w.heap.size w W) => at_tm W ps x u W (hx.below h) hn (Below.refl _ _))
  obtain ⟨a, n, c, rfl⟩ : ∃ a n c, v = .slice a n c := by obtain ⟨a, c, h, _⟩ := hv; exact ⟨a, _, c, h⟩
  obtain ⟨t, xa, xc⟩ := x
  simp only [Tv.val] at IN AT ⊢
  have HBX := Lib.hid (fun w1 (h : Below (w.alloc (.cells #[.int .i64 t.kind, .string t.name, .int .i64 t.n, .slice xa t.args.length xc] 50)).heap.size (w.alloc (.cells #[.int .i64 t.kind, .string t.name, .int .i64 t.n, .slice xa t.args.length xc] 50)) w1) => box_after h)
  have HW0 := Lib.hid (show Below w.heap.size w (w.alloc (.cells #[.int .i64 t.kind, .string t.name, .int .i64 t.n, .slice xa t.args.length xc] 50)) from (Below.refl _ _).alloc (Nat.le_refl _) _)
  clear hx hv hp
  go_enter Tryz.func20, Tryz.ntmps20
  go_wp2_with fail
  refine (IN.out _ HW0.out).mono ?_; rintro e w1 ⟨u, rfl, hu, hb1⟩
  obtain ⟨au, cu, rfl, hcl, hcm, hrow⟩ := hu.pls
  have HR := Lib.hid hrow
  have HB1 := Lib.hid (HW0.out.trans (hb1.mono (by simp)))
  have HBP := Lib.hid hb1
  have hz1 : (w.alloc (.cells #[.int .i64 t.kind, .string t.name, .int .i64 t.n, .slice xa t.args.length xc] 50)).heap.size ≤ w1.heap.size := hb1.size
  have HF0 := Lib.hid (show fitsF fs t = fitsR fs t (innerT t) from rfl)
  generalize innerT t = L at *
  clear hu hrow hb1
  go_wp2_with fail
  go_loopw [15] (fun i wr => ∃ k : Nat, k ≤ L.length ∧ i = .int .i64 k ∧ Hid (fitsF fs t = fitsR fs t (L.drop k)) ∧ Below w1.heap.size w1 wr) (fun i _ => L.length - (intOf i).toNat)
  case atStart => exact ⟨0, Nat.zero_le _, rfl, Lib.hid HF0.out, Below.refl _ _⟩
  case round =>
    obtain ⟨k, hk, rfl, HJ, hb⟩ := hrel
    have hbw := HB1.out.trans (hb.mono HB1.out.size)
    obtain ⟨q0, q1, q2, q3, _, _, _, _⟩ := HBX.out wr (HBP.out.trans (hb.mono hz1))
    by_cases hkl : k < L.length
    · obtain ⟨b, o, rfl, hlt, hat⟩ := HR.out.resolve_left (by intro h; rw [h] at hkl; simp at hkl)
      obtain ⟨p, hp⟩ : ∃ p, L[k]? = some p := ⟨_, List.getElem?_eq_getElem hkl⟩
      obtain ⟨xv, hxv, hxn⟩ := hat k p hp
      have m0 := (hb.cell (p := ⟨b, o + k, none⟩) hlt).trans hxv
      have HXN := Lib.hid (hxn.below hb)
      have HPK := Lib.hid hp
      have HBW := Lib.hid hbw
      have HBR := Lib.hid hb
      have hzr : w.heap.size ≤ wr.heap.size := hbw.size
      have A := Lib.hid (AT.out p xv wr HXN.out HBW.out)
      obtain ⟨ap, cp, rfl, _⟩ := hxn
      have hk0 : (0 : Int) ≤ (k : Int) := by omega
      have hk1 : (k : Int) < (L.length : Int) := by omega
      clear hat hp hxv hb hbw
      go_wp2_with fail
      refine A.out.mono ?_; rintro e w2 ⟨y, rfl, hy, hyo, hb2⟩
      have HB2 := Lib.hid (below_next HBW.out hb2)
      have HBR2 := Lib.hid (below_next HBR.out hb2)
      have HXN2 := Lib.hid (HXN.out.below hb2)
      obtain ⟨yt, ya, yc⟩ := y
      have HY := Lib.hid hy
      simp only [Tv.val] at hy ⊢
      have hbx := box_new w2 (.int .i64 yt.kind) (.string yt.name) (.int .i64 yt.n) (.slice ya yt.args.length yc) 50
      have HBY := Lib.hid (fun w3 (h : Below (w2.alloc (.cells #[.int .i64 yt.kind, .string yt.name, .int .i64 yt.n, .slice ya yt.args.length yc] 50)).heap.size (w2.alloc (.cells #[.int .i64 yt.kind, .string yt.name, .int .i64 yt.n, .slice ya yt.args.length yc] 50)) w3) => box_after h)
      have HBA := Lib.hid (HB2.out.alloc HB2.out.size (.cells #[.int .i64 yt.kind, .string yt.name, .int .i64 yt.n, .slice ya yt.args.length yc] 50))
      have HBRA := Lib.hid (HBR2.out.alloc HBR2.out.size (.cells #[.int .i64 yt.kind, .string yt.name, .int .i64 yt.n, .slice ya yt.args.length yc] 50))
      have HXA := Lib.hid (HXN2.out.below ((Below.refl w2.heap.size w2).alloc (Nat.le_refl _) (.cells #[.int .i64 yt.kind, .string yt.name, .int .i64 yt.n, .slice ya yt.args.length yc] 50)))
      have hz2 : w.heap.size ≤ w2.heap.size := HB2.out.size
      have hz3 : w1.heap.size ≤ w2.heap.size := HBR2.out.size
      have C := Lib.hid (AR.out yt.name)
      have HNO := Lib.hid (show arF fs yt.name = none → fitsF fs t = (4, p) from fun h => HJ.out.trans (fits_none HPK.out (by rw [← HY.out]; exact h)))
      have HSA := Lib.hid (show ∀ n : Int, arF fs yt.name = some n → n = yt.args.length → fitsF fs t = fitsR fs t (L.drop (k + 1)) from fun n h hn => HJ.out.trans (fits_same HPK.out (by rw [← HY.out]; exact h) (by rw [← HY.out]; exact hn)))
      have HOT := Lib.hid (show ∀ n : Int, arF fs yt.name = some n → n ≠ yt.args.length → fitsF fs t = (5, p) from fun n h hn => HJ.out.trans (fits_other HPK.out (by rw [← HY.out]; exact h) (by rw [← HY.out]; exact hn)))
      clear hy hyo hb2 HY hbx
      cases har : arF fs yt.name with
      | none =>
        rw [har] at C
        have HG := Lib.hid (HNO.out har)
        clear har
        go_wp2_with fail
        refine (C.out _ HBA.out).mono ?_; rintro e w3 ⟨rfl, hb3⟩
        have HB3 := Lib.hid (HBA.out.trans (hb3.mono (by simp; omega)))
        have HX3 := Lib.hid (HXA.out.below hb3)
        clear hb3
        unfold arEnd
        go_wp2_with fail
        go_ret2
        exact ⟨_, by rw [HG.out]; rfl, by rw [HG.out]; exact HX3.out, HB3.out⟩
      | some n =>
        rw [har] at C
        by_cases hn : n = (yt.args.length : Int)
        · have HG := Lib.hid (HSA.out n har hn)
          have hnn : (n != (yt.args.length : Int)) = false := by simpa using hn
          clear har hn
          go_wp2_with fail
          refine (C.out _ HBA.out).mono ?_; rintro e w3 ⟨rfl, hb3⟩
          have HB3 := Lib.hid (HBRA.out.trans (hb3.mono (by simp; omega)))
          obtain ⟨r0, r1, r2, r3, _, _, _, _⟩ := HBY.out w3 hb3
          clear hb3
          unfold arEnd
          go_wp2_with fail
          go_roundw
          case rel => exact ⟨k + 1, by omega, by go_num, HG, HB3.out⟩
          case measure => simp [intOf]; omega
        · have HG := Lib.hid (HOT.out n har hn)
          have hnn : (n != (yt.args.length : Int)) = true := by simpa using hn
          clear har hn
          go_wp2_with fail
          refine (C.out _ HBA.out).mono ?_; rintro e w3 ⟨rfl, hb3⟩
          have HB3 := Lib.hid (HBA.out.trans (hb3.mono (by simp; omega)))
          have HX3 := Lib.hid (HXA.out.below hb3)
          obtain ⟨r0, r1, r2, r3, _, _, _, _⟩ := HBY.out w3 hb3
          clear hb3
          unfold arEnd
          go_wp2_with fail
          go_ret2
          exact ⟨_, by rw [HG.out]; rfl, by rw [HG.out]; exact HX3.out, HB3.out⟩
    · have hke : k = L.length := by omega
      have HG := Lib.hid (show fitsF fs t = (0, []) by have h := HJ.out; rw [hke, List.drop_length] at h; rw [h, fitsR])
      clear hke
      go_wp2_with fail
      go_ret2
      exact ⟨_, by rw [HG.out]; rfl, by rw [HG.out]; exact nums_none _, hbw⟩
end Go.Proofs.YtnbjpgdnfklanaaGreatDoor

namespace Go.Proofs.YtnbjpgdnfklanaaGreatDoor
open Go.RowKit
def Txts (w : World) (v : Value) (zs : List ByteArray) : Prop :=
  ∃ a c, v = .slice a zs.length c ∧ zs.length ≤ 9223372036854775807 ∧ (zs = [] ∨ ∃ b off, a = some ⟨b, off, none⟩ ∧ b < w.heap.size ∧ ∀ j, j < zs.length → w.cell? ⟨b, off + j, none⟩ = some (.string (zs.getD j ByteArray.empty)))
theorem Txts.strs {w : World} {v : Value} {zs : List ByteArray} (h : Txts w v zs) (hl : zs.length ≤ 1000) : Strs w v zs := by
  obtain ⟨a, c, hv, _, h⟩ := h
  exact ⟨a, c, hv, by omega, h⟩
theorem Txts.below {w w' : World} {v : Value} {zs : List ByteArray} (h : Txts w v zs) (hb : Below w.heap.size w w') : Txts w' v zs := by
  obtain ⟨a, c, hv, hl, h⟩ := h
  refine ⟨a, c, hv, hl, ?_⟩
  rcases h with h | ⟨b, off, ha, hlt, hc⟩
  · exact .inl h
  · exact .inr ⟨b, off, ha, Nat.lt_of_lt_of_le hlt hb.size, fun j hj => by rw [hb.cell (p := ⟨b, off + j, none⟩) hlt]; exact hc j hj⟩
end Go.Proofs.YtnbjpgdnfklanaaGreatDoor

namespace Go.Proofs.YtnbjpgdnfklanaaGreatDoor
open Go.RowKit
def libs (l : List ByteArray) : List ByteArray := l.filter fun s => isEnt s
noncomputable def thyOf : List ByteArray → List Fn × List Rl
  | [] => ([], [])
  | s :: r => (joinL (thyOf r).1 (entF s), newR (thyOf r).2 (entR s))
theorem thyOf_rch : ∀ l : List ByteArray, (∀ s ∈ l, s ∈ libN) → Rch l (thyOf l).1 (thyOf l).2
  | [], _ => rch_nil
  | s :: r, h => ((thyOf_rch r fun x hx => h x (List.mem_cons_of_mem _ hx)).use (h s (List.mem_cons_self ..))).2
def usedN (l : List ByteArray) (k : Nat) : List ByteArray := (libs (l.take k)).reverse
theorem usedN_lib (l : List ByteArray) (k : Nat) : ∀ s ∈ usedN l k, s ∈ libN := fun s hs => by
  unfold usedN libs at hs
  exact isEnt_iff.1 (List.mem_filter.1 (List.mem_reverse.1 hs)).2
theorem usedN_in {l : List ByteArray} {k : Nat} (h : k < l.length) (hk : isEnt l[k] = true) : usedN l (k + 1) = l[k] :: usedN l k := by
  unfold usedN libs
  rw [List.take_succ_eq_append_getElem h, List.filter_append, List.filter_cons, if_pos hk, List.reverse_append]; rfl
theorem usedN_out {l : List ByteArray} {k : Nat} (h : k < l.length) (hk : isEnt l[k] = false) : usedN l (k + 1) = usedN l k := by
  unfold usedN libs
  rw [List.take_succ_eq_append_getElem h, List.filter_append, List.filter_cons, if_neg (by rw [hk]; decide), List.filter_nil, List.append_nil]
theorem usedN_mem {l : List ByteArray} {k : Nat} (h : k < l.length) (hk : isEnt l[k] = true) : l[k] ∈ usedN l l.length := by
  unfold usedN libs
  rw [List.mem_reverse, List.mem_filter, List.take_length]
  exact ⟨List.getElem_mem h, hk⟩
theorem contains_ent (s : ByteArray) : Lib.containsS libN s = isEnt s := by
  rw [Bool.eq_iff_iff, Lib.containsS_iff, isEnt_iff]
theorem usedN_one {l : List ByteArray} {k : Nat} (h : k < l.length) (hk : isEnt l[k] = true) : useS (thyOf (usedN l k)).1 (thyOf (usedN l k)).2 l[k] = (0, (thyOf (usedN l (k + 1))).1, (thyOf (usedN l (k + 1))).2) := by
  rw [usedN_in h hk]
  exact ((thyOf_rch _ (usedN_lib l k)).use (isEnt_iff.1 hk)).1
theorem usedN_zero (l : List ByteArray) : usedN l 0 = [] := rfl
theorem grown_next {w wr w3 : World} {g : Option Nat} (h : w.grownBy wr g) (hb : Below wr.heap.size wr w3) : w.grownBy w3 g :=
  ⟨hb.os.trans h.os, hb.tape.trans h.tape, hb.output.trans h.output, by have := h.size; have := hb.size; omega, fun k hk hne => by
    rw [hb.block k (by have := h.size; omega)]
    exact h.block k hk hne⟩
theorem rfits_fine {fs : List Fn} {v : Value} {x : Tv} {W : World} (hv : Fus W v fs) (hx : x.ok W) (hp : x.t.parts ≤ 10000) (hf : (fitsF fs x.t).1 = 0) :
    Calls Tryz.prog 20 #[v, x.val] W fun e w' => ∃ a n c, e = .returned (.tuple #[.int .i64 0, .slice a n c]) ∧ Below W.heap.size W w' := by
  refine (rfits_any v fs x W hv hx (by omega)).mono ?_
  rintro e w' ⟨u, rfl, hu, hb⟩
  obtain ⟨a, c, rfl, _⟩ := hu
  exact ⟨a, _, c, by rw [hf], hb⟩
set_option maxRecDepth 100000 in
set_option maxHeartbeats 8000000 in
theorem lawTwice12_any (v : Value) (zs : List ByteArray) (w : World) (HPW : Pow w) (hv0 : Txts w v zs) :
    Calls Tryz.prog 5 #[v] w fun e w' => e = .returned (.bool true) ∧ Below w.heap.size w w' := by
  have AW := Lib.hid (awake12_any w HPW)
  have HPW' := Lib.hid HPW
  have HV0 := Lib.hid hv0
  clear HPW
  obtain ⟨av, cv, rfl, _, _⟩ := hv0
  rcases Int.lt_or_le 20 (zs.length : Int) with hs | hs
  · go_enter Tryz.func5, Tryz.ntmps5
    go_wp2_with fail
    refine AW.out.mono ?_; rintro e w1 ⟨rfl, hb1⟩
    have HB1 := Lib.hid hb1
    clear hb1
    go_wp2_with fail
    go_ret
    exact ⟨rfl, HB1.out⟩
  · have RN := Lib.hid (fun (W : World) => rnames12_any W)
    have IN := Lib.hid (fun (s : ByteArray) (V : Value) (W : World) (h : Strs W V libN) => (show Calls Tryz.prog 19 #[V, .string s] W fun e w' => e = .returned (.bool (isEnt s)) ∧ W = w' from by rw [← contains_ent]; exact rin_any V libN s W h))
    go_enter Tryz.func5, Tryz.ntmps5
    go_wp2_with fail
    refine AW.out.mono ?_; rintro e w1 ⟨rfl, hb1⟩
    have hbA : Below w1.heap.size w1 (w1.alloc (.cells #[.slice none 0 0, .slice none 0 0] 38)) := (Below.refl _ _).alloc (Nat.le_refl _) _
    have hx := boxT_new w1 none none 0 0 0 0
    have HPK := Lib.hid (And.intro (below_next hb1 hbA) hx)
    have hw1 := hb1.size
    clear hb1 hbA hx
    go_wp2_with fail
    obtain ⟨hb1, hx⟩ := HPK.out
    obtain ⟨wA, hwA⟩ : ∃ wA, w1.alloc (.cells #[.slice none 0 0, .slice none 0 0] 38) = wA := ⟨_, rfl⟩
    rw [hwA] at hb1 hx ⊢
    clear hwA HPK
    obtain ⟨g, hgv⟩ : ∃ g, w1.heap.size = g := ⟨_, rfl⟩
    rw [hgv] at hx hw1 ⊢
    obtain ⟨av', cv', e1, hat⟩ := strs_at ((HV0.out.below hb1).strs (by omega)) hx.slB
    cases e1
    have HAT := Lib.hid hat
    have HB2 := Lib.hid hb1
    have HX2 := Lib.hid hx
    clear hat hb1 hx hgv
    go_loopw [25] (fun i wr => ∃ (k : Nat) (a : Option Addr) (n c : Nat) (b : Option Addr) (m d : Nat), i = .int .i64 k ∧ k ≤ zs.length ∧ BoxT wr g a n c b m d ∧ ThyAt wr a n c b m d (thyOf (usedN zs k)).1 (thyOf (usedN zs k)).2 ∧ wA.grownBy wr (some g)) (fun i _ => zs.length - (intOf i).toNat)
    case atStart => exact ⟨0, none, 0, 0, none, 0, 0, rfl, Nat.zero_le _, HX2.out, by rw [usedN_zero]; exact thyAt_none _, rfl, rfl, rfl, Nat.le_refl _, fun _ _ _ => rfl⟩
    case round =>
      obtain ⟨k, a, n, c, b, m, d, rfl, hk, hbx, ht, hg⟩ := hrel
      have hrch := thyOf_rch _ (usedN_lib zs k)
      have hbw := grown_below12 HB2.out hg hw1
      by_cases hk1 : k < zs.length
      · have hkc : (k : Int) < (zs.length : Int) := by omega
        have hk0 : (0 : Int) ≤ (k : Int) := by omega
        obtain ⟨b', o', rfl, hcell⟩ := HAT.out k hk1
        have hc := hcell wr hg
        have HN := Lib.hid (show (isEnt zs[k] = true → useS (thyOf (usedN zs k)).1 (thyOf (usedN zs k)).2 zs[k] = (0, (thyOf (usedN zs (k + 1))).1, (thyOf (usedN zs (k + 1))).2)) ∧ (isEnt zs[k] = false → usedN zs (k + 1) = usedN zs k) from ⟨usedN_one hk1, usedN_out hk1⟩)
        have HBX := Lib.hid hbx
        have HG := Lib.hid hg
        have HT := Lib.hid ht
        have HL := Lib.hid (show g < wA.heap.size from HX2.out.lt)
        obtain ⟨nm, hnm⟩ : ∃ nm, zs[k] = nm := ⟨_, rfl⟩
        rw [hnm] at hc HN
        have U := Lib.hid (fun (W : World) (hb : Below wr.heap.size wr W) (hu : isEnt nm = true) => puse_f ((HPW'.out.below hbw).below hb) (HT.out.below hb) (modY_rch hrch) (HN.out.1 hu))
        clear hcell hnm hbx ht hg hrch hbw
        go_wp2_with fail
        refine (RN.out _).mono ?_; rintro e w3 ⟨v3, rfl, hv3, hb3⟩
        have I := Lib.hid (IN.out nm v3 w3 hv3)
        obtain ⟨p0, p1, _, _⟩ := (HBX.out.below hb3).box2
        obtain ⟨a3, c3, rfl, _, _⟩ := hv3
        have HB3 := Lib.hid hb3
        clear hb3
        cases hE : isEnt nm with
        | false =>
          rw [hE] at I
          clear p0 p1
          go_wp2_with fail
          refine I.out.mono ?_; rintro e w4 ⟨rfl, rfl⟩
          go_wp2_with fail
          go_roundw
          case rel => exact ⟨k + 1, a, n, c, b, m, d, by go_num, by omega, HBX.out.below HB3.out, by rw [HN.out.2 hE]; exact HT.out.below HB3.out, grown_next HG.out HB3.out⟩
          case measure => simp [intOf]; omega
        | true =>
          rw [hE] at I
          have UU := Lib.hid (U.out _ HB3.out hE)
          go_wp2_with fail
          refine I.out.mono ?_; rintro e w4 ⟨rfl, rfl⟩
          go_wp2_with fail
          refine UU.out.mono ?_; rintro e w5 ⟨a5, n5, c5, b5, m5, d5, rfl, ht5, hb5⟩
          have hbA5 : Below w5.heap.size w5 (w5.alloc (.cells #[.slice a5 n5 c5, .slice b5 m5 d5] 38)) := (Below.refl _ _).alloc (Nat.le_refl _) _
          have hbx5 := ((HBX.out.below HB3.out).below hb5).below hbA5
          obtain ⟨y0, y1, y2, y3⟩ := (boxT_new w5 a5 b5 n5 c5 m5 d5).box2
          obtain ⟨q0, q1, q2, q3⟩ := hbx5.box2
          have HT5 := Lib.hid ((ht5.below hbA5).off (W := ((w5.alloc (.cells #[.slice a5 n5 c5, .slice b5 m5 d5] 38)).setCell ⟨g, 0, none⟩ (.slice a5 n5 c5)).setCell ⟨g, 1, none⟩ (.slice b5 m5 d5)) hbx5.slB (by simp) (fun k _ hk => set_other k hk))
          have HBX5 := Lib.hid (hbx5.set (a' := a5) (n' := n5) (c' := c5) (b' := b5) (m' := m5) (d' := d5))
          have HG5 := Lib.hid (round_grown (x := .slice a5 n5 c5) (y := .slice b5 m5 d5) HG.out (below_next HB3.out (below_next hb5 hbA5)) HL.out)
          clear ht5 hb5 hbA5 hbx5 p0 p1
          go_wp2_with fail
          go_roundw
          case rel => exact ⟨k + 1, a5, n5, c5, b5, m5, d5, by go_num, by omega, HBX5.out, HT5.out, HG5.out⟩
          case measure => simp [intOf]; omega
      · obtain rfl : k = zs.length := by omega
        have HAG := Lib.hid (fun (k : Nat) (hk : k < zs.length) => (show (isEnt zs[k] = true → useS (thyOf (usedN zs zs.length)).1 (thyOf (usedN zs zs.length)).2 zs[k] = (0, (thyOf (usedN zs zs.length)).1, (thyOf (usedN zs zs.length)).2)) ∧ (isEnt zs[k] = false → useS (thyOf (usedN zs zs.length)).1 (thyOf (usedN zs zs.length)).2 zs[k] = (9, [], [])) from ⟨fun h => hrch.again (usedN_mem hk h), fun h => useS_none h⟩))
        obtain ⟨fs, hfs⟩ : ∃ fs, (thyOf (usedN zs zs.length)).1 = fs := ⟨_, rfl⟩
        obtain ⟨rs, hrs⟩ : ∃ rs, (thyOf (usedN zs zs.length)).2 = rs := ⟨_, rfl⟩
        rw [hfs, hrs] at ht hrch HAG
        have hmy := modY_rch hrch
        have HFT := Lib.hid (fun (r : Rl) (hr : r ∈ rs) => hrch.fits hr)
        have HMY := Lib.hid hmy
        have UA := Lib.hid (fun (s : ByteArray) (W : World) (h : Below wr.heap.size wr W) (E : Int) (fs' : List Fn) (rs' : List Rl) (hu : useS fs rs s = (E, fs', rs')) => puse_f (s := s) ((HPW'.out.below hbw).below h) (ht.below h) hmy hu)
        have HAR := Lib.hid (fun (k : Nat) (hk : k < zs.length) => (show ∃ b o, av = some ⟨b, o, none⟩ ∧ ∀ W, Below wr.heap.size wr W → W.cell? ⟨b, o + k, none⟩ = some (.string zs[k]) from by
          obtain ⟨b', o', e', hcell⟩ := HAT.out k hk
          exact ⟨b', o', e', fun W h => hcell W (grown_next hg h)⟩))
        have HBX := Lib.hid hbx
        have HT := Lib.hid ht
        have HBW := Lib.hid hbw
        clear hbw hmy hbx ht hg hrch hfs hrs
        go_wp2_with fail
        go_loopw [45] (fun i wl => ∃ k : Nat, i = .int .i64 k ∧ k ≤ zs.length ∧ Below wr.heap.size wr wl) (fun i _ => zs.length - (intOf i).toNat)
        case atStart => exact ⟨0, rfl, Nat.zero_le _, Below.refl _ _⟩
        case round =>
          obtain ⟨k, rfl, hk, hb⟩ := hrel
          by_cases hk1 : k < zs.length
          · have hkc : (k : Int) < (zs.length : Int) := by omega
            have hk0 : (0 : Int) ≤ (k : Int) := by omega
            obtain ⟨b', o', rfl, hcell⟩ := HAR.out k hk1
            have hc := hcell wr hb
            have HN := Lib.hid (HAG.out k hk1)
            obtain ⟨nm, hnm⟩ : ∃ nm, zs[k] = nm := ⟨_, rfl⟩
            rw [hnm] at hc HN
            obtain ⟨p0, p1, _, _⟩ := (HBX.out.below hb).box2
            have HB := Lib.hid hb
            clear hcell hnm hb
            cases hE : isEnt nm with
            | false =>
              have UU := Lib.hid (UA.out nm wr HB.out _ _ _ (HN.out.2 hE))
              go_wp2_with fail
              refine UU.out.mono ?_; rintro e w5 ⟨a5, n5, c5, b5, m5, d5, rfl, ht5, hb5⟩
              have HB5 := Lib.hid ((below_next HB.out hb5).alloc (below_next HB.out hb5).size (.cells #[.slice a5 n5 c5, .slice b5 m5 d5] 38))
              clear ht5 hb5 p0 p1
              go_wp2_with fail
              go_roundw
              case rel => exact ⟨k + 1, by go_num, by omega, HB5.out⟩
              case measure => simp [intOf]; omega
            | true =>
              have UU := Lib.hid (UA.out nm wr HB.out _ _ _ (HN.out.1 hE))
              go_wp2_with fail
              refine UU.out.mono ?_; rintro e w5 ⟨a5, n5, c5, b5, m5, d5, rfl, ht5, hb5⟩
              have hbA5 : Below w5.heap.size w5 (w5.alloc (.cells #[.slice a5 n5 c5, .slice b5 m5 d5] 38)) := (Below.refl _ _).alloc (Nat.le_refl _) _
              obtain ⟨y0, y1, y2, y3⟩ := (boxT_new w5 a5 b5 n5 c5 m5 d5).box2
              obtain ⟨q0, q1, q2, q3⟩ := (((HBX.out.below HB.out).below hb5).below hbA5).box2
              have T5 := Lib.hid (thy_same (ht5.below hbA5) (((HT.out.below HB.out).below hb5).below hbA5))
              have HB5 := Lib.hid (below_next (below_next HB.out hb5) hbA5)
              clear ht5 hb5 hbA5 p0 p1
              go_wp2_with fail
              refine T5.out.mono ?_; rintro e w6 ⟨rfl, hb6⟩
              have HB6 := Lib.hid (below_next HB5.out hb6)
              clear hb6 y0 y1 y2 y3 q0 q1 q2 q3
              go_wp2_with fail
              go_roundw
              case rel => exact ⟨k + 1, by go_num, by omega, HB6.out⟩
              case measure => simp [intOf]; omega
          · obtain rfl : k = zs.length := by omega
            obtain ⟨p0, p1, _, _⟩ := (HBX.out.below hb).box2
            obtain ⟨ar, cr, us, er, _, hus, hok, hat⟩ := rls_all (HT.out.below hb).2.2.2
            cases er
            have HQ := Lib.hid (fun (j : Nat) (hj : j < us.length) => (show ∃ (q : Qv) (b' o' : Nat), b = some ⟨b', o', none⟩ ∧ QvAt wr b' (o' + j * 8) q ∧ q.ok wr ∧ (fitsF fs q.l.t).1 = 0 ∧ (fitsF fs q.r.t).1 = 0 ∧ q.l.t.parts ≤ 10000 ∧ q.r.t.parts ≤ 10000 from by
              obtain ⟨b', o', e', h⟩ := hat j hj
              have hm : us[j].rl ∈ rs := by rw [← hus]; exact List.mem_map_of_mem (List.getElem_mem hj)
              obtain ⟨f1, f2⟩ := HFT.out _ hm
              obtain ⟨g1, g2⟩ := HMY.out.parts _ hm
              exact ⟨us[j], b', o', e', h, hok _ (List.getElem_mem hj), f1, f2, g1, g2⟩))
            have HFU := Lib.hid (HT.out.below hb).2.2.1
            have HBI := Lib.hid hb
            have HBXI := Lib.hid (HBX.out.below hb)
            obtain ⟨ul, hul⟩ : ∃ ul, us.length = ul := ⟨_, rfl⟩
            rw [hul] at HQ p1 HBXI
            clear hb hus hok hat HAG HAR UA HT HBX HFT HMY
            go_wp2_with fail
            go_loopw [67] (fun i wl => ∃ j : Nat, i = .int .i64 j ∧ j ≤ ul ∧ Below wr.heap.size wr wl) (fun i _ => ul - (intOf i).toNat)
            case atStart => exact ⟨0, rfl, Nat.zero_le _, Below.refl _ _⟩
            case round =>
              obtain ⟨j, rfl, hj, hb⟩ := hrel
              by_cases hj1 : j < ul
              · have hjc : (j : Int) < (ul : Int) := by omega
                have hj0 : (0 : Int) ≤ (j : Int) := by omega
                obtain ⟨q, qb, qo, rfl, hqa, hqo, f1, f2, g1, g2⟩ := HQ.out j hj1
                obtain ⟨m0, m1, m2, m3, m4, m5, m6, m7⟩ := hqa.below hb
                have hbA : Below wr.heap.size wr (wr.alloc (.cells q.cells.toArray 52)) := (Below.refl _ _).alloc (Nat.le_refl _) _
                have hgq := eight_box wr q 52
                have hbJ := below_next hb hbA
                have F1 := Lib.hid (rfits_fine (HFU.out.below hbJ) (hqo.1.below hbJ) g1 f1)
                have F2 := Lib.hid (fun (W : World) (h : Below (wr.alloc (.cells q.cells.toArray 52)).heap.size (wr.alloc (.cells q.cells.toArray 52)) W) => rfits_fine (HFU.out.below (below_next hbJ h)) (hqo.2.below (below_next hbJ h)) g2 f2)
                have HGQ := Lib.hid hgq
                have HBJ := Lib.hid hbJ
                obtain ⟨p0, p1, _, _⟩ := (HBXI.out.below hbJ).box2
                obtain ⟨x0, x1, x2, x3, x4, x5, x6, x7⟩ := hgq
                simp only [Nat.zero_add] at x0 x1 x2 x3 x4 x5 x6 x7
                clear hqa hqo f1 f2 g1 g2 hbA hb hbJ
                obtain ⟨⟨qt, qa, qc⟩, ⟨qt2, qa2, qc2⟩⟩ := q
                unfold Qv.cells at F1 F2 HGQ HBJ x0 x1 x2 x3 x4 x5 x6 x7 p0 p1
                unfold Tv.val at F1 F2
                simp only at F1 F2 HGQ HBJ m0 m1 m2 m3 m4 m5 m6 m7 x0 x1 x2 x3 x4 x5 x6 x7 p0 p1
                go_wp2_with fail
                refine F1.out.mono ?_; rintro e w6 ⟨a6, n6, c6, rfl, hb6⟩
                obtain ⟨z0, z1, z2, z3, z4, z5, z6, z7⟩ := HGQ.out.below hb6
                simp only [Nat.zero_add] at z0 z1 z2 z3 z4 z5 z6 z7
                have F26 := Lib.hid (F2.out _ hb6)
                have HB6 := Lib.hid (below_next HBJ.out hb6)
                clear hb6 m0 m1 m2 m3 m4 m5 m6 m7 x0 x1 x2 x3 x4 x5 x6 x7 p0 p1
                obtain ⟨p0, p1, _, _⟩ := (HBXI.out.below HB6.out).box2
                go_wp2_with fail
                refine F26.out.mono ?_; rintro e w7 ⟨a7, n7, c7, rfl, hb7⟩
                have HB7 := Lib.hid (below_next HB6.out hb7)
                clear hb7 z0 z1 z2 z3 z4 z5 z6 z7 p0 p1
                go_wp2_with fail
                go_roundw
                case rel => exact ⟨j + 1, by go_num, by omega, HB7.out⟩
                case measure => simp [intOf]; omega
              · obtain rfl : j = ul := by omega
                have HBE := Lib.hid (HBW.out.trans ((HBI.out.trans (hb.mono HBI.out.size)).mono HBW.out.size))
                clear hb
                go_wp2_with fail
                go_ret
                exact ⟨rfl, HBE.out⟩
end Go.Proofs.YtnbjpgdnfklanaaGreatDoor

namespace Go.Proofs.YtnbjpgdnfklanaaGreatDoor
open Go.ChangeShapes Go.WideShapes Go.RowKit Go.Deep
theorem laidOut : laidOutB Tryz.prog = true := by kernel_rfl
end Go.Proofs.YtnbjpgdnfklanaaGreatDoor
