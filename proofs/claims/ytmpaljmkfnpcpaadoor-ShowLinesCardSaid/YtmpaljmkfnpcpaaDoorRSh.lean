/-
  Files' parts as lines, by the reference of layer 14: Terms, Fun, Rule, Frame, Query, Place.
-/
import Derived.Test.YtmpaljmkfnpcpaaDoorShoPu
import Derived.Test.YtmpaljmkfnpcpaaDoorShowTm
import Derived.Test.YtmpaljmkfnpcpaaDoorSmallsTm
import Derived.Test.YtmpaljmkfnpcpaaDoorOpenSh
import Derived.Test.YtmpaljmkfnpcpaaDoorNums
import Derived.Deep.RegionHeld3
namespace Go.Proofs.YtmpaljmkfnpcpaaDoor
open Go.RowKit

theorem ret_bytes {a b : ByteArray} (h : a.data.toList = b.data.toList) : Ending.returned (.string a) = .returned (.string b) := by
  rw [← bytes_self a, ← bytes_self b, h]
theorem str_eq {a b : ByteArray} (h : a.data.toList = b.data.toList) : Value.string a = .string b := by rw [← bytes_self a, ← bytes_self b, h]
theorem lnRule_mid (l r : Tm) : lnRule l r = [114, 117, 108, 101, 32] ++ midT [32, 61, 32] [l, r] ++ [46, 10] := by
  unfold lnRule
  rw [midT, List.flatMap_cons, List.flatMap_nil]
  simp only [List.append_nil, List.append_assoc]
theorem wt_small {t : Tm} (h : smallB t = true) : wtT t ≤ 39000 := by
  have h1 := wtT_small t (within_names h)
  have h2 := small_parts h
  omega
theorem tms_two (w : World) (x y : Tv) (hx : x.ok w) (hy : y.ok w) : Tms (w.alloc (.cells #[.int .i64 x.t.kind, .string x.t.name, .int .i64 x.t.n, .slice x.a x.t.args.length x.c, .int .i64 y.t.kind, .string y.t.name, .int .i64 y.t.n, .slice y.a y.t.args.length y.c] 26)) (.slice (some ⟨w.heap.size, 0, none⟩) 2 2) [x.t, y.t] := by
  have hb : Below w.heap.size w (w.alloc (.cells #[.int .i64 x.t.kind, .string x.t.name, .int .i64 x.t.n, .slice x.a x.t.args.length x.c, .int .i64 y.t.kind, .string y.t.name, .int .i64 y.t.n, .slice y.a y.t.args.length y.c] 26)) := (Below.refl _ _).alloc (Nat.le_refl _) _
  have hc := fun o => World.cell?_alloc_mark w #[.int .i64 x.t.kind, .string x.t.name, .int .i64 x.t.n, .slice x.a x.t.args.length x.c, .int .i64 y.t.kind, .string y.t.name, .int .i64 y.t.n, .slice y.a y.t.args.length y.c] 26 (0, 0) o
  refine ⟨_, 2, rfl, by simp, .inr ⟨w.heap.size, 0, rfl, by simp, ?_⟩⟩
  rw [RowAt, RowAt, RowAt]
  exact ⟨tv_tmAt (hx.below hb) ⟨hc 0, hc 1, hc 2, hc 3⟩, tv_tmAt (hy.below hb) ⟨hc 4, hc 5, hc 6, hc 7⟩, trivial⟩

set_option maxRecDepth 100000 in
set_option maxHeartbeats 2000000 in
theorem rsh_terms (v : Value) (ts : List Tm) (sep : ByteArray) (w : World) (hv : Tms w v ts) (hp : ∀ t ∈ ts, wtT t ≤ 100000000) (hs : sep.size ≤ 100) (hn : ts.length ≤ 1000) :
    Calls Tryd.prog 24 #[v, .string sep] w fun e w' => e = .returned (.string ⟨(midT sep.data.toList ts).toArray⟩) ∧ (midT sep.data.toList ts).length ≤ 100000100000 ∧ Below w.heap.size w w' := by
  obtain ⟨a, c, rfl, hl, h⟩ := hv.open_
  clear hv
  rcases h with rfl | ⟨b, off, rfl, hlt, hc⟩
  · go_enter Tryd.func24, Tryd.ntmps24
    go_wp2
    refine wp_loop_rounds 1 ?_; rw [rounds_succ]
    go_wp2
    go_ret
    exact ⟨rfl, Nat.zero_le _, Below.refl _ _⟩
  · have HC := Lib.hid hc
    have S := Lib.hid (fun (x : Tv) (W : World) (hm : x.t ∈ ts) (hx : x.ok W) => show_tm x.t.parts x W (Nat.le_refl _) (hp _ hm) hx)
    unfold ShowPost at S
    have HPP := Lib.hid hp
    clear hc hp
    go_enter Tryd.func24, Tryd.ntmps24
    go_wp2_with fail
    go_loopw [5, 10] (fun s i wr => ∃ k : Nat, k ≤ ts.length ∧ i = .int .i64 k ∧ s = .string ⟨(midT sep.data.toList (ts.take k)).toArray⟩ ∧ (midT sep.data.toList (ts.take k)).length ≤ k * 100000100 ∧ Below w.heap.size w wr) (fun _ i _ => ts.length - (intOf i).toNat)
    case atStart => exact ⟨0, Nat.zero_le _, rfl, by rw [List.take_zero]; rfl, by rw [List.take_zero]; simp [midT], Below.refl _ _⟩
    case round =>
      obtain ⟨k, hk, rfl, rfl, hml, hb⟩ := hrel
      by_cases hkl : k < ts.length
      · have hi : (k : Int) < (ts.length : Int) := by omega
        obtain ⟨u, hu, huk, hat⟩ := HC.out k hkl
        obtain ⟨d0, d1, d2, d3⟩ := hat.below hb
        have hbA : Below wr.heap.size wr (wr.alloc (.cells #[.int .i64 u.t.kind, .string u.t.name, .int .i64 u.t.n, .slice u.a u.t.args.length u.c] 26)) := (Below.refl _ _).alloc (Nat.le_refl _) _
        have C := (S.out u _ (by rw [hu]; exact List.getElem_mem hkl) ((huk.below hb).below hbA))
        have hm := midT_take (sep := sep.data.toList) hkl
        rw [← hu] at hm
        obtain ⟨z, hz⟩ : ∃ z, showT u.t = z := ⟨_, rfl⟩
        rw [hz] at hm C
        have HM := Lib.hid hm
        have HC2 := Lib.hid C
        obtain ⟨s0, hs0⟩ : ∃ s0 : ByteArray, (⟨(midT sep.data.toList (ts.take k)).toArray⟩ : ByteArray) = s0 := ⟨_, rfl⟩
        have hss : s0.size ≤ k * 100000100 := by rw [← hs0]; simpa [ByteArray.size] using hml
        have hwu : wtT u.t ≤ 100000000 := HPP.out _ (by rw [hu]; exact List.getElem_mem hkl)
        have hml2 := congrArg List.length hm
        simp only [List.length_append] at hml2
        have hsz : sep.data.toList.length ≤ 100 := by rw [Array.length_toList]; exact hs
        have hif : (if k = 0 then ([] : List UInt8) else sep.data.toList).length ≤ 100 := by
          cases Nat.decEq k 0 with
          | isTrue e => rw [if_pos e]; exact Nat.zero_le _
          | isFalse e => rw [if_neg e]; exact hsz
        have HLN := Lib.hid (fun (h : z.length + 4 ≤ wtT u.t) => (show (midT sep.data.toList (ts.take (k + 1))).length ≤ (k + 1) * 100000100 by omega))
        have HS := Lib.hid (show s0.data.toList = midT sep.data.toList (ts.take k) by rw [← hs0])
        rw [hs0]
        have HBA := Lib.hid (below_next hb hbA)
        simp only [Tv.val] at HC2
        have hzz : (⟨z.toArray⟩ : ByteArray).size = z.length := by simp [ByteArray.size]
        clear hm hu huk hat hs0 hbA hml2 hml hif hz C
        have hkb : k * 100000100 ≤ 100000100000 := by omega
        have HSZ := Lib.hid (fun (h : z.length + 4 ≤ wtT u.t) => (show ¬ 9223372036854775807 < s0.size + z.length ∧ ¬ 9223372036854775807 < s0.size + sep.size + z.length from ⟨by omega, by omega⟩))
        have hss2 : ¬ 9223372036854775807 < s0.size + sep.size := by omega
        clear hwu hss hkb hs
        rcases Nat.eq_zero_or_pos k with hk0 | hk0
        · have hk1 : ¬ (0 : Int) < (k : Int) := by omega
          have HK0 := Lib.hid hk0
          clear hk0
          go_wp2_with fail
          refine HC2.out.mono ?_; rintro e w1 ⟨rfl, hl1, hb1⟩
          have HL1 := Lib.hid (HLN.out hl1)
          obtain ⟨z1, z2⟩ := HSZ.out hl1
          clear hl1
          go_wp2_with fail
          go_roundw
          case rel => exact ⟨k + 1, by omega, by go_num, str_eq (by rw [HM.out, ← HS.out]; simp [HK0.out]), HL1.out, below_next HBA.out hb1⟩
          case measure => simp [intOf]; omega
        · have hk1 : (0 : Int) < (k : Int) := by omega
          have HKN := Lib.hid (show k ≠ 0 by omega)
          go_wp2_with fail
          refine HC2.out.mono ?_; rintro e w1 ⟨rfl, hl1, hb1⟩
          have HL1 := Lib.hid (HLN.out hl1)
          obtain ⟨z1, z2⟩ := HSZ.out hl1
          clear hl1
          go_wp2_with fail
          go_roundw
          case rel => exact ⟨k + 1, by omega, by go_num, str_eq (by rw [HM.out, ← HS.out]; simp [HKN.out]), HL1.out, below_next HBA.out hb1⟩
          case measure => simp [intOf]; omega
      · obtain rfl : k = ts.length := by omega
        rw [List.take_length] at hml ⊢
        have HML := Lib.hid (show (midT sep.data.toList ts).length ≤ 100000100000 by omega)
        clear hml
        go_wp2_with fail
        go_ret
        exact ⟨rfl, HML.out, hb⟩

set_option maxRecDepth 100000 in
set_option maxHeartbeats 2000000 in
theorem rsh_fun (f : Fn) (w : World) (hf : FnOk f) (hs : f.1.size ≤ 100000) :
    Calls Tryd.prog 8 #[fnVal f] w fun e w' => e = .returned (.string ⟨(lnFun f.1 f.2).toArray⟩) ∧ Below w.heap.size w w' := by
  obtain ⟨s, n⟩ := f
  have D := Lib.hid (fun W => rdigits_any n hf.lo hf.hi W)
  unfold fnVal
  obtain ⟨V, hV⟩ : ∃ V, w.alloc (.cells #[.string s, .int .i64 n] 23) = V := ⟨_, rfl⟩
  have hc := fun o => World.cell?_alloc_mark w #[.string s, .int .i64 n] 23 (0, 0) o
  have hbV : Below w.heap.size w V := by rw [← hV]; exact (Below.refl _ _).alloc (Nat.le_refl _) _
  have hzV : V.heap.size = w.heap.size + 1 := by rw [← hV]; simp
  have h0 : V.cell? ⟨w.heap.size, 0, none⟩ = some (.string s) := by rw [← hV]; exact hc 0
  have h1 : V.cell? ⟨w.heap.size, 1, none⟩ = some (.int .i64 n) := by rw [← hV]; exact hc 1
  have KEEP := Lib.hid (fun (Q : World) (hb : Below V.heap.size V Q) => (show Below V.heap.size V Q ∧ Q.cell? ⟨w.heap.size, 0, none⟩ = some (.string s) ∧ Q.cell? ⟨w.heap.size, 1, none⟩ = some (.int .i64 n) from ⟨hb, (hb.cell (p := ⟨w.heap.size, 0, none⟩) (by show w.heap.size < _; omega)).trans h0, (hb.cell (p := ⟨w.heap.size, 1, none⟩) (by show w.heap.size < _; omega)).trans h1⟩))
  have HV := Lib.hid hbV
  have D1 := Lib.hid ((Below.refl V.heap.size V).drew)
  have E := Lib.hid hV
  have hil := Lib.itoa_length_le n hf.lo hf.hi
  simp only at hs hil
  obtain ⟨il, hie⟩ : ∃ il, Lib.itoa n = il := ⟨_, rfl⟩
  have HIL := Lib.hid hie
  rw [hie] at D hil
  clear hie
  have hiz : (⟨il.toArray⟩ : ByteArray).size = il.length := by simp [ByteArray.size]
  have k1 : ¬ 9223372036854775807 < 4 + s.size := by omega
  have k2 : ¬ 9223372036854775807 < 4 + s.size + 1 := by omega
  have k3 : ¬ 9223372036854775807 < 4 + s.size + 1 + il.length := by omega
  have k4 : ¬ 9223372036854775807 < 4 + s.size + 1 + il.length + 2 := by omega
  clear hc hV hbV hzV h0 h1 hf
  go_enter Tryd.func8, Tryd.ntmps8
  go_wp2_with fail
  rw [E.out]
  go_region_held3 (fun Q => Below V.heap.size V Q ∧ Q.cell? ⟨w.heap.size, 0, none⟩ = some (.string s) ∧ Q.cell? ⟨w.heap.size, 1, none⟩ = some (.int .i64 n)) (first | exact KEEP.out _ (by with_reducible assumption) | exact KEEP.out _ D1.out)
    ((go_at_call 22; (with_reducible refine (D.out _).mono ?_); rintro e w1 ⟨rfl, hb1⟩; have hb2 := below_next (show Below V.heap.size V _ from (by first | exact D1.out | exact Below.refl _ _)) hb1))
  go_wp2_with fail
  go_ret
  exact ⟨ret_bytes (by simp [lnFun, HIL.out]), below_next HV.out hb2⟩

set_option maxRecDepth 100000 in
set_option maxHeartbeats 2000000 in
theorem rsh_rule (y : Qv) (w : World) (hy : y.ok w) (h1 : wtT y.l.t ≤ 100000000) (h2 : wtT y.r.t ≤ 100000000) :
    Calls Tryd.prog 10 #[y.val] w fun e w' => e = .returned (.string ⟨(lnRule y.l.t y.r.t).toArray⟩) ∧ Below w.heap.size w w' := by
  obtain ⟨⟨xt, xa, xc⟩, ⟨yt, ya, yc⟩⟩ := y
  obtain ⟨hx, hy⟩ := hy
  unfold Qv.val
  simp only at hx hy h1 h2 ⊢
  have hbA : Below w.heap.size w (w.alloc (.cells #[.int .i64 xt.kind, .string xt.name, .int .i64 xt.n, .slice xa xt.args.length xc, .int .i64 yt.kind, .string yt.name, .int .i64 yt.n, .slice ya yt.args.length yc] 28)) := (Below.refl _ _).alloc (Nat.le_refl _) _
  have T0 := tms_two (w.alloc (.cells #[.int .i64 xt.kind, .string xt.name, .int .i64 xt.n, .slice xa xt.args.length xc, .int .i64 yt.kind, .string yt.name, .int .i64 yt.n, .slice ya yt.args.length yc] 28)) ⟨xt, xa, xc⟩ ⟨yt, ya, yc⟩ (hx.below hbA) (hy.below hbA)
  have hbB := hbA.alloc hbA.size (.cells #[.int .i64 xt.kind, .string xt.name, .int .i64 xt.n, .slice xa xt.args.length xc, .int .i64 yt.kind, .string yt.name, .int .i64 yt.n, .slice ya yt.args.length yc] 26)
  have T := rsh_terms _ _ ⟨#[32, 61, 32]⟩ _ T0 (fun t ht => by
    rcases List.mem_cons.1 ht with rfl | ht
    · exact h1
    · rw [List.mem_singleton.1 ht]; exact h2) (by decide) (by simp)
  rw [show (⟨#[32, 61, 32]⟩ : ByteArray).data.toList = [32, 61, 32] from rfl] at T
  simp only at T
  rw [show (w.alloc (.cells #[.int .i64 xt.kind, .string xt.name, .int .i64 xt.n, .slice xa xt.args.length xc, .int .i64 yt.kind, .string yt.name, .int .i64 yt.n, .slice ya yt.args.length yc] 28)).heap.size = w.heap.size + 1 from by simp] at T
  have HB := Lib.hid hbB
  have HE := Lib.hid (lnRule_mid xt yt)
  obtain ⟨z, hz⟩ : ∃ z, midT [32, 61, 32] [xt, yt] = z := ⟨_, rfl⟩
  rw [hz] at T
  rw [hz] at HE
  have TC := Lib.hid T
  have hzz : (⟨z.toArray⟩ : ByteArray).size = z.length := by simp [ByteArray.size]
  clear T T0 hx hy h1 h2 hbA hbB hz
  go_enter Tryd.func10, Tryd.ntmps10
  go_wp2_with fail
  refine TC.out.mono ?_; rintro e w1 ⟨rfl, hl, hb1⟩
  have k1 : ¬ 9223372036854775807 < 5 + z.length := by omega
  have k2 : ¬ 9223372036854775807 < 5 + z.length + 2 := by omega
  go_wp2_with fail
  go_ret
  exact ⟨ret_bytes (by simp [HE.out]), below_next HB.out hb1⟩

set_option maxRecDepth 100000 in
set_option maxHeartbeats 2000000 in
theorem rsh_frame (y : Fw) (w : World) (hy : y.ok w) (hp : ∀ t ∈ y.ts, wtT t ≤ 100000000) (hs : y.name.size ≤ 100000) (hn : y.ts.length ≤ 1000) :
    Calls Tryd.prog 12 #[y.val] w fun e w' => e = .returned (.string ⟨(lnFrame y.name y.ts).toArray⟩) ∧ Below w.heap.size w w' := by
  obtain ⟨s, v, ts⟩ := y
  obtain ⟨_, hv⟩ := hy
  simp only at hv hp hs hn ⊢
  unfold Fw.val
  simp only
  obtain ⟨a, c, rfl, hal⟩ := id hv
  obtain ⟨V, hV⟩ : ∃ V, w.alloc (.cells #[.string s, .slice a ts.length c] 30) = V := ⟨_, rfl⟩
  have hc := fun o => World.cell?_alloc_mark w #[.string s, .slice a ts.length c] 30 (0, 0) o
  have hbV : Below w.heap.size w V := by rw [← hV]; exact (Below.refl _ _).alloc (Nat.le_refl _) _
  have hzV : V.heap.size = w.heap.size + 1 := by rw [← hV]; simp
  have h0 : V.cell? ⟨w.heap.size, 0, none⟩ = some (.string s) := by rw [← hV]; exact hc 0
  have h1 : V.cell? ⟨w.heap.size, 1, none⟩ = some (.slice a ts.length c) := by rw [← hV]; exact hc 1
  have T := Lib.hid (fun (W : World) (hb : Below V.heap.size V W) => rsh_terms _ ts ⟨#[59, 32]⟩ W (hv.below (below_next hbV hb)) hp (by decide) hn)
  have e3 : (⟨#[59, 32]⟩ : ByteArray).data.toList = [59, 32] := rfl
  rw [e3] at T
  have KEEP := Lib.hid (fun (Q : World) (hb : Below V.heap.size V Q) => (show Below V.heap.size V Q ∧ Q.cell? ⟨w.heap.size, 0, none⟩ = some (.string s) ∧ Q.cell? ⟨w.heap.size, 1, none⟩ = some (.slice a ts.length c) from ⟨hb, (hb.cell (p := ⟨w.heap.size, 0, none⟩) (by show w.heap.size < _; omega)).trans h0, (hb.cell (p := ⟨w.heap.size, 1, none⟩) (by show w.heap.size < _; omega)).trans h1⟩))
  have HV := Lib.hid hbV
  have D1 := Lib.hid ((Below.refl V.heap.size V).drew)
  have E := Lib.hid hV
  have k1 : ¬ 9223372036854775807 < 6 + s.size := by omega
  have k2 : ¬ 9223372036854775807 < 6 + s.size + 2 := by omega
  have k3 : ¬ 9223372036854775807 < 6 + s.size + 3 := by omega
  have hnl : (ts.length : Int) ≤ 1000 := by omega
  by_cases h00 : ts = []
  · subst h00
    have HK := Lib.hid (KEEP.out V (Below.refl _ _))
    clear hc hV hbV hzV e3 hv hal hp hn T
    go_enter Tryd.func12, Tryd.ntmps12
    go_wp2_with fail
    go_ret
    exact ⟨ret_bytes (by simp [lnFrame]), (Below.refl _ _).alloc (Nat.le_refl _) _⟩
  · have hpos := List.length_pos_iff.2 h00
    have hq : ((ts.length : Int) == 0) = false := by rw [beq_eq_false_iff_ne]; omega
    have HE := Lib.hid (show lnFrame s ts = [102, 114, 97, 109, 101, 32] ++ s.data.toList ++ [58, 32] ++ midT [59, 32] ts ++ [46, 10] by unfold lnFrame; rw [if_neg h00]; simp)
    obtain ⟨z, hz⟩ : ∃ z, midT [59, 32] ts = z := ⟨_, rfl⟩
    rw [hz] at HE T
    have hzz : (⟨z.toArray⟩ : ByteArray).size = z.length := by simp [ByteArray.size]
    clear hc hV hbV hzV e3 hv hal hp hn hz h00 hpos
    go_enter Tryd.func12, Tryd.ntmps12
    go_wp2_with fail
    rw [E.out]
    go_wp2_with fail
    go_region_held3 (fun Q => Below V.heap.size V Q ∧ Q.cell? ⟨w.heap.size, 0, none⟩ = some (.string s) ∧ Q.cell? ⟨w.heap.size, 1, none⟩ = some (.slice a ts.length c)) (first | exact KEEP.out _ (by with_reducible assumption) | exact KEEP.out _ D1.out)
      ((go_at_call 24; (with_reducible refine (T.out _ (by first | exact D1.out | exact Below.refl _ _)).mono ?_); rintro e w1 ⟨rfl, hl1, hb1⟩; have hb2 := below_next (show Below V.heap.size V _ from (by first | exact D1.out | exact Below.refl _ _)) hb1; have k4 : ¬ 9223372036854775807 < 6 + s.size + 2 + z.length := (by omega); have k5 : ¬ 9223372036854775807 < 6 + s.size + 2 + z.length + 2 := (by omega)))
    go_wp2_with fail
    go_ret
    exact ⟨ret_bytes (by simp [HE.out]), below_next HV.out hb2⟩
end Go.Proofs.YtmpaljmkfnpcpaaDoor
