/-
  Queries and places as texts, by the reference of layer 14: Query, Place.
-/
import Derived.Test.YtmpaljmkfnpcpaaDoorRSh
import Derived.Test.YtmpaljmkfnpcpaaDoorBoxLs
namespace Go.Proofs.YtmpaljmkfnpcpaaDoor
open Go.RowKit

set_option maxRecDepth 100000 in
set_option maxHeartbeats 2000000 in
theorem rsh_query (y : Kw) (w : World) (hy : y.ok w) (hp : wtT y.t.t ≤ 100000000) (hl : y.left.size ≤ 100000) (hr : y.right.size ≤ 100000) :
    Calls Tryd.prog 14 #[y.val] w fun e w' => e = .returned (.string ⟨(lnAsk y.kind y.left y.right y.t.t).toArray⟩) ∧ Below w.heap.size w w' := by
  obtain ⟨k, l, r, ⟨t, a, c⟩⟩ := y
  obtain ⟨_, _, _, ht⟩ := hy
  unfold Kw.val
  simp only at ht hp hl hr ⊢
  obtain ⟨V, hV⟩ : ∃ V, w.alloc (.cells #[.int .i64 k, .string l, .string r, .int .i64 t.kind, .string t.name, .int .i64 t.n, .slice a t.args.length c] 32) = V := ⟨_, rfl⟩
  have hc := fun o => World.cell?_alloc_mark w #[.int .i64 k, .string l, .string r, .int .i64 t.kind, .string t.name, .int .i64 t.n, .slice a t.args.length c] 32 (0, 0) o
  have hbV : Below w.heap.size w V := by rw [← hV]; exact (Below.refl _ _).alloc (Nat.le_refl _) _
  have hzV : V.heap.size = w.heap.size + 1 := by rw [← hV]; simp
  have hx : BoxL V w.heap.size [.int .i64 k, .string l, .string r, .int .i64 t.kind, .string t.name, .int .i64 t.n, .slice a t.args.length c] := by rw [← hV]; exact boxL_new w _ _
  have S := Lib.hid (fun (W : World) (hb : Below V.heap.size V W) => show_tm t.parts ⟨t, a, c⟩ W (Nat.le_refl _) hp ((ht.below hbV).below hb))
  unfold ShowPost at S
  simp only [Tv.val] at S
  obtain ⟨z, hz⟩ : ∃ z, showT t = z := ⟨_, rfl⟩
  rw [hz] at S
  have HZ := Lib.hid hz
  have hzz : (⟨z.toArray⟩ : ByteArray).size = z.length := by simp [ByteArray.size]
  have KEEP := Lib.hid (fun (Q : World) (hb : Below V.heap.size V Q) => (show Below V.heap.size V Q ∧ Q.cell? ⟨w.heap.size, 0, none⟩ = some (.int .i64 k) ∧ Q.cell? ⟨w.heap.size, 1, none⟩ = some (.string l) ∧ Q.cell? ⟨w.heap.size, 2, none⟩ = some (.string r) ∧ Q.cell? ⟨w.heap.size, 3, none⟩ = some (.int .i64 t.kind) ∧ Q.cell? ⟨w.heap.size, 4, none⟩ = some (.string t.name) ∧ Q.cell? ⟨w.heap.size, 5, none⟩ = some (.int .i64 t.n) ∧ Q.cell? ⟨w.heap.size, 6, none⟩ = some (.slice a t.args.length c) from by
    have h := hx.below hb (by omega)
    exact ⟨hb, h.cell 0 _ rfl, h.cell 1 _ rfl, h.cell 2 _ rfl, h.cell 3 _ rfl, h.cell 4 _ rfl, h.cell 5 _ rfl, h.cell 6 _ rfl⟩))
  have HV := Lib.hid hbV
  have D0 := Lib.hid (Below.refl V.heap.size V)
  have D1 := Lib.hid ((Below.refl V.heap.size V).drew)
  have E := Lib.hid hV
  have HWT := Lib.hid hp
  have k1 : ¬ 9223372036854775807 < 7 + l.size := by omega
  have k2 : ¬ 9223372036854775807 < 7 + l.size + 1 := by omega
  have k3 : ¬ 9223372036854775807 < 6 + l.size := by omega
  have k4 : ¬ 9223372036854775807 < 6 + l.size + 1 := by omega
  have k5 : ¬ 9223372036854775807 < 6 + l.size + 1 + r.size := by omega
  have k6 : ¬ 9223372036854775807 < 6 + l.size + 1 + r.size + 2 := by omega
  by_cases h1 : k = 1
  · subst h1
    clear hc hV hbV hzV ht hp hx hz
    go_enter Tryd.func14, Tryd.ntmps14
    go_wp2_with fail
    rw [E.out]
    go_region_held3 (fun Q => Below V.heap.size V Q ∧ Q.cell? ⟨w.heap.size, 0, none⟩ = some (.int .i64 1) ∧ Q.cell? ⟨w.heap.size, 1, none⟩ = some (.string l) ∧ Q.cell? ⟨w.heap.size, 2, none⟩ = some (.string r) ∧ Q.cell? ⟨w.heap.size, 3, none⟩ = some (.int .i64 t.kind) ∧ Q.cell? ⟨w.heap.size, 4, none⟩ = some (.string t.name) ∧ Q.cell? ⟨w.heap.size, 5, none⟩ = some (.int .i64 t.n) ∧ Q.cell? ⟨w.heap.size, 6, none⟩ = some (.slice a t.args.length c)) (first | exact KEEP.out _ (by with_reducible assumption) | exact KEEP.out _ D1.out)
      ((go_at_call 27; (with_reducible refine (S.out _ (by first | exact D1.out | exact D0.out)).mono ?_); rintro e w1 ⟨rfl, hl1, hb1⟩; have hb2 := below_next (show Below V.heap.size V _ from (by first | exact D1.out | exact D0.out)) hb1; have k8 : ¬ 9223372036854775807 < 7 + l.size + 1 + z.length := (by have := HWT.out; omega); have k9 : ¬ 9223372036854775807 < 7 + l.size + 1 + z.length + 2 := (by have := HWT.out; omega)))
    go_wp2_with fail
    go_ret
    exact ⟨ret_bytes (by unfold lnAsk; rw [if_pos rfl, HZ.out]; simp), below_next HV.out hb2⟩
  · have q1 : (k == 1) = false := by rw [beq_eq_false_iff_ne]; exact h1
    have N1 := Lib.hid h1
    by_cases h2 : k = 2
    · subst h2
      clear hc hbV hzV ht hp hx hz h1 S KEEP hV E
      go_enter Tryd.func14, Tryd.ntmps14
      go_wp2_with fail
      go_ret
      exact ⟨ret_bytes (by unfold lnAsk; rw [if_neg (by decide), if_pos rfl]; simp), (Below.refl _ _).alloc (Nat.le_refl _) _⟩
    · have q2 : (k == 2) = false := by rw [beq_eq_false_iff_ne]; exact h2
      have N2 := Lib.hid h2
      by_cases h3 : k = 3
      · subst h3
        have C := S.out V D0.out
        rw [← hV] at C
        have C := Lib.hid C
        have hb0 : Below w.heap.size w (w.alloc (.cells #[.int .i64 3, .string l, .string r, .int .i64 t.kind, .string t.name, .int .i64 t.n, .slice a t.args.length c] 32)) := (Below.refl _ _).alloc (Nat.le_refl _) _
        have HB0 := Lib.hid hb0
        clear hc hbV hzV ht hp hx hz h1 h2 S KEEP hb0 hV E
        go_enter Tryd.func14, Tryd.ntmps14
        go_wp2_with fail
        refine C.out.mono ?_; rintro e w1 ⟨rfl, hl1, hb1⟩
        have k8 : ¬ 9223372036854775807 < 7 + z.length := by have := HWT.out; omega
        have k9 : ¬ 9223372036854775807 < 7 + z.length + 2 := by have := HWT.out; omega
        go_wp2_with fail
        go_ret
        exact ⟨ret_bytes (by unfold lnAsk; rw [if_neg (by decide), if_neg (by decide), if_pos rfl, HZ.out]; simp), below_next HB0.out hb1⟩
      · have q3 : (k == 3) = false := by rw [beq_eq_false_iff_ne]; exact h3
        have N3 := Lib.hid h3
        clear hc hbV hzV ht hp hx hz h1 h2 h3 S KEEP hV E
        go_enter Tryd.func14, Tryd.ntmps14
        go_wp2_with fail
        go_ret
        exact ⟨ret_bytes (by unfold lnAsk; rw [if_neg N1.out, if_neg N2.out, if_neg N3.out]), (Below.refl _ _).alloc (Nat.le_refl _) _⟩

set_option maxRecDepth 100000 in
set_option maxHeartbeats 2000000 in
theorem rsh_place (v : Value) (ns : List Int) (w : World) (hv : Nums w v ns) (hn : ns.length ≤ 1000) :
    Calls Tryd.prog 16 #[v] w fun e w' => e = .returned (.string ⟨(lnPlace ns).toArray⟩) ∧ Below w.heap.size w w' := by
  obtain ⟨a, c, rfl, hlc, _, hbd, h⟩ := hv
  have D := Lib.hid (fun (n : Int) (W : World) (hm : n ∈ ns) => rdigits_any n (hbd n hm).1 (hbd n hm).2 W)
  have HL := Lib.hid (fun (n : Int) (hm : n ∈ ns) => Lib.itoa_length_le n (hbd n hm).1 (hbd n hm).2)
  by_cases h00 : ns = []
  · subst h00
    clear h hbd D HL
    go_enter Tryd.func16, Tryd.ntmps16
    go_wp2_with fail
    go_ret
    exact ⟨rfl, Below.refl _ _⟩
  · obtain ⟨b, off, rfl, hlt, hat⟩ := h.resolve_left h00
    have hpos := List.length_pos_iff.2 h00
    have hq : ((ns.length : Int) == 0) = false := by rw [beq_eq_false_iff_ne]; omega
    have hq0 : (0 : Int) < (ns.length : Int) := by omega
    have hq1 : (1 : Int) ≤ (ns.length : Int) := by omega
    have hqc : (ns.length : Int) ≤ (c : Int) := by omega
    have hat2 : ∀ j (h : j < ns.length), w.cell? ⟨b, off + j, none⟩ = some (.int .i64 ns[j]) := fun j h => hat j _ (List.getElem?_eq_getElem h)
    have HAT := Lib.hid hat2
    have c0 : w.cell? ⟨b, off, none⟩ = some (.int .i64 ns[0]) := hat2 0 hpos
    have D0 := Lib.hid (D.out ns[0] w (List.getElem_mem hpos))
    have L0 := Lib.hid (HL.out ns[0] (List.getElem_mem hpos))
    have HT0 := Lib.hid (show lnPlace (ns.take 1) = Lib.itoa ns[0] by
      cases ns with
      | nil => cases hpos
      | cons n r => simp [lnPlace])
    have HPT := Lib.hid (fun (j : Nat) (h : j + 1 < ns.length) => place_take h)
    obtain ⟨n0, hn0⟩ : ∃ n0, ns[0] = n0 := ⟨_, rfl⟩
    rw [hn0] at c0 D0 L0 HT0
    have HNE := Lib.hid hpos
    clear hat hat2 h hbd h00 hn0
    go_enter Tryd.func16, Tryd.ntmps16
    go_wp2_with fail
    refine D0.out.mono ?_; rintro e w1 ⟨rfl, hb1⟩
    have c1 := fun (h : c = 1) => (show ns.length = 1 by omega)
    by_cases hc1 : c = 1
    · have hn1 := c1 hc1
      subst hc1
      have HT1 := Lib.hid (show lnPlace ns = Lib.itoa n0 by have h := HT0.out; rwa [← hn1, List.take_length] at h)
      have hi1 : ((ns.length : Int) : Int) = 1 := by omega
      clear c1
      go_wp2_with fail
      refine wp_loop_rounds 1 ?_; rw [rounds_succ]
      go_wp2_with fail
      go_ret
      exact ⟨by show Ending.returned (.string ⟨(Lib.itoa n0).toArray⟩) = _; rw [HT1.out], hb1⟩
    clear c1
    go_wp2_with fail
    go_loopw [3, 16] (fun s i wr => ∃ k : Nat, k + 1 ≤ ns.length ∧ i = .int .i64 k ∧ s = .string ⟨(lnPlace (ns.take (k + 1))).toArray⟩ ∧ (lnPlace (ns.take (k + 1))).length ≤ (k + 1) * 100 ∧ Below w.heap.size w wr) (fun _ i _ => ns.length - (intOf i).toNat)
    case atStart => exact ⟨0, HNE.out, rfl, by rw [HT0.out], by rw [HT0.out]; have := L0.out; omega, hb1⟩
    case round =>
      obtain ⟨k, hk, rfl, rfl, hml, hb⟩ := hrel
      have hbb := HAT
      by_cases hkl : k + 1 < ns.length
      · have hkc : (k : Int) < ((ns.length : Int) - 1) := by omega
        have hk0 : (0 : Int) ≤ (k : Int) := by omega
        have d0 : wr.cell? ⟨b, off + 1 + k, none⟩ = some (.int .i64 ns[k + 1]) := by
          have := (hb.cell (p := ⟨b, off + (k + 1), none⟩) hlt).trans (HAT.out (k + 1) hkl)
          rw [← this, show off + 1 + k = off + (k + 1) by omega]
        have C := (D.out ns[k + 1] wr (List.getElem_mem hkl))
        have hl2 := HL.out ns[k + 1] (List.getElem_mem hkl)
        have hpt := HPT.out k hkl
        obtain ⟨n, hn2⟩ : ∃ n, ns[k + 1] = n := ⟨_, rfl⟩
        rw [hn2] at d0 C hl2 hpt
        obtain ⟨il, hil⟩ : ∃ il, Lib.itoa n = il := ⟨_, rfl⟩
        rw [hil] at C hl2 hpt
        have CC := Lib.hid C
        have HPK := Lib.hid hpt
        obtain ⟨s0, hs0⟩ : ∃ s0 : ByteArray, (⟨(lnPlace (ns.take (k + 1))).toArray⟩ : ByteArray) = s0 := ⟨_, rfl⟩
        have HS := Lib.hid (show s0.data.toList = lnPlace (ns.take (k + 1)) by rw [← hs0])
        have hss : s0.size ≤ (k + 1) * 100 := by rw [← hs0]; simpa [ByteArray.size] using hml
        have hkm : (k + 1) * 100 ≤ 100000 := by omega
        have k1 : ¬ 9223372036854775807 < 1 + il.length := by omega
        have k2 : ¬ 9223372036854775807 < s0.size + (1 + il.length) := by omega
        have hiz : (⟨il.toArray⟩ : ByteArray).size = il.length := by simp [ByteArray.size]
        have HLN := Lib.hid (show (lnPlace (ns.take (k + 2))).length ≤ (k + 2) * 100 by rw [hpt, List.length_append, List.length_cons]; omega)
        rw [hs0]
        clear C hpt hil hn2 hs0 hss hkm hml hbb
        go_wp2_with fail
        refine CC.out.mono ?_; rintro e w2 ⟨rfl, hb2⟩
        go_wp2_with fail
        go_roundw
        case rel => exact ⟨k + 1, by omega, by go_num, str_eq (by rw [HPK.out, ← HS.out]; simp), HLN.out, below_next hb hb2⟩
        case measure => simp [intOf]; omega
      · have hke : k + 1 = ns.length := by omega
        have hkc : ¬ (k : Int) < ((ns.length : Int) - 1) := by omega
        rw [show ns.take (k + 1) = ns from by rw [hke, List.take_length]]
        clear hke hml
        go_wp2_with fail
        go_ret
        exact ⟨rfl, hb⟩
end Go.Proofs.YtmpaljmkfnpcpaaDoor
