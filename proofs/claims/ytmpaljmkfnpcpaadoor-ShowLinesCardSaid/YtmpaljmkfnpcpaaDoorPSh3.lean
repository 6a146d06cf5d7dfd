/-
  A rule's line and a query's on a page, by the program of layer 14: rule, query.
-/
import Derived.Test.YtmpaljmkfnpcpaaDoorPSh2
import Derived.Test.YtmpaljmkfnpcpaaDoorBoxLs
namespace Go.Proofs.YtmpaljmkfnpcpaaDoor
open Go.RowKit

set_option maxRecDepth 100000 in
set_option maxHeartbeats 4000000 in
theorem pgrule_any (B b : Nat) (l : List UInt8) (y : Qv) (w : World) (HPW : Pow w) (h : Pg B b l w) (hB : B ≤ w.heap.size) (hy : y.ok w) (h1 : wtT y.l.t ≤ 100000000) (h2 : wtT y.r.t ≤ 100000000) (hl : l.length ≤ 10000000000000) :
    Calls Tryd.prog 23 #[.pointer (some ⟨b, 0, none⟩), y.val] w fun e w' => e = .returned (.tuple #[]) ∧ Pg B b (l ++ lnRule y.l.t y.r.t) w' ∧ KeepsP B w w' := by
  obtain ⟨⟨xt, xa, xc⟩, ⟨yt, ya, yc⟩⟩ := y
  obtain ⟨hx, hy⟩ := hy
  unfold Qv.val
  simp only at hx hy h1 h2 ⊢
  obtain ⟨z1, hz1⟩ : ∃ z, showT xt = z := ⟨_, rfl⟩
  obtain ⟨z2, hz2⟩ : ∃ z, showT yt = z := ⟨_, rfl⟩
  have HEQ := Lib.hid (show catL [⟨#[114, 117, 108, 101, 32]⟩, ⟨z1.toArray⟩, ⟨#[32, 61, 32]⟩, ⟨z2.toArray⟩] ++ [46, 10] = lnRule xt yt by unfold lnRule catL; rw [hz1, hz2]; simp)
  obtain ⟨V, hV⟩ : ∃ V, w.alloc (.cells #[.int .i64 xt.kind, .string xt.name, .int .i64 xt.n, .slice xa xt.args.length xc, .int .i64 yt.kind, .string yt.name, .int .i64 yt.n, .slice ya yt.args.length yc] 28) = V := ⟨_, rfl⟩
  have hbV : Below w.heap.size w V := by rw [← hV]; exact (Below.refl _ _).alloc (Nat.le_refl _) _
  have hg : V.heap[w.heap.size]? = some (Obj.cells #[.int .i64 xt.kind, .string xt.name, .int .i64 xt.n, .slice xa xt.args.length xc, .int .i64 yt.kind, .string yt.name, .int .i64 yt.n, .slice ya yt.args.length yc] 28 (0, 0)) := by rw [← hV]; exact heap_alloc_new w _
  have S1 := Lib.hid (fun (W : World) (hb : Below V.heap.size V W) => pshow_len ⟨xt, xa, xc⟩ W (hx.below (below_next hbV hb)) (HPW.below (below_next hbV hb)) h1)
  have S2 := Lib.hid (fun (W : World) (hb : Below V.heap.size V W) => pshow_len ⟨yt, ya, yc⟩ W (hy.below (below_next hbV hb)) (HPW.below (below_next hbV hb)) h2)
  simp only [Tv.val, hz1] at S1
  simp only [Tv.val, hz2] at S2
  have LN := Lib.hid (fun (w1 : World) (hb : Below V.heap.size V w1) (e1 : z1.length + 4 ≤ wtT xt) (e2 : z2.length + 4 ≤ wtT yt) => (show Calls Tryd.prog 33 #[.pointer (some ⟨b, 0, none⟩), .slice (some ⟨w1.heap.size, 0, none⟩) 4 4] (w1.alloc (.cells #[.string ⟨#[114, 117, 108, 101, 32]⟩, .string ⟨z1.toArray⟩, .string ⟨#[32, 61, 32]⟩, .string ⟨z2.toArray⟩] 9)) fun e w' => e = .returned (.tuple #[]) ∧ Pg B b (l ++ lnRule xt yt) w' ∧ KeepsP B V w' from by
    have hbA : Below w1.heap.size w1 (w1.alloc (.cells #[.string ⟨#[114, 117, 108, 101, 32]⟩, .string ⟨z1.toArray⟩, .string ⟨#[32, 61, 32]⟩, .string ⟨z2.toArray⟩] 9)) := (Below.refl _ _).alloc (Nat.le_refl _) _
    have hb2 := below_next hb hbA
    have hb3 := below_next hbV hb2
    refine (pline_pg B b w1.heap.size 4 l [⟨#[114, 117, 108, 101, 32]⟩, ⟨z1.toArray⟩, ⟨#[32, 61, 32]⟩, ⟨z2.toArray⟩] _ (h.below hb3) (partsAt_new w1 [⟨#[114, 117, 108, 101, 32]⟩, ⟨z1.toArray⟩, ⟨#[32, 61, 32]⟩, ⟨z2.toArray⟩]) (by simp) (by simp) (by simp [catL]; omega) (Nat.le_trans hB hb3.size)).mono ?_
    rintro e w' ⟨h1, h2, h3⟩
    rw [List.append_assoc, HEQ.out] at h2
    exact ⟨h1, h2, (keepsP_in hb2 (Nat.le_trans hB hbV.size)).trans h3⟩))
  have KEEP := Lib.hid (fun (Q : World) (hb : KeepsP B V Q) => (show KeepsP B V Q ∧ Q.cell? ⟨w.heap.size, 0, none⟩ = some (.int .i64 xt.kind) ∧ Q.cell? ⟨w.heap.size, 1, none⟩ = some (.string xt.name) ∧ Q.cell? ⟨w.heap.size, 2, none⟩ = some (.int .i64 xt.n) ∧ Q.cell? ⟨w.heap.size, 3, none⟩ = some (.slice xa xt.args.length xc) ∧ Q.cell? ⟨w.heap.size, 4, none⟩ = some (.int .i64 yt.kind) ∧ Q.cell? ⟨w.heap.size, 5, none⟩ = some (.string yt.name) ∧ Q.cell? ⟨w.heap.size, 6, none⟩ = some (.int .i64 yt.n) ∧ Q.cell? ⟨w.heap.size, 7, none⟩ = some (.slice ya yt.args.length yc) from ⟨hb, hb.cellsOf (by decide) (by decide) hg 0, hb.cellsOf (by decide) (by decide) hg 1, hb.cellsOf (by decide) (by decide) hg 2, hb.cellsOf (by decide) (by decide) hg 3, hb.cellsOf (by decide) (by decide) hg 4, hb.cellsOf (by decide) (by decide) hg 5, hb.cellsOf (by decide) (by decide) hg 6, hb.cellsOf (by decide) (by decide) hg 7⟩))
  have KB := Lib.hid (fun (Q : World) (hb : Below V.heap.size V Q) => KEEP.out Q (keepsP_in hb (Nat.le_trans hB hbV.size)))
  have HV := Lib.hid (keepsP_in hbV hB)
  have D0 := Lib.hid (Below.refl V.heap.size V)
  have D1 := Lib.hid ((Below.refl V.heap.size V).drew)
  have E := Lib.hid hV
  clear hx hy h1 h2 hz1 hz2 hl HPW h hV hbV hg HEQ
  go_enter Tryd.func23, Tryd.ntmps23
  go_wp2_with fail
  rw [E.out]
  go_region_held3 (fun Q => KeepsP B V Q ∧ Q.cell? ⟨w.heap.size, 0, none⟩ = some (.int .i64 xt.kind) ∧ Q.cell? ⟨w.heap.size, 1, none⟩ = some (.string xt.name) ∧ Q.cell? ⟨w.heap.size, 2, none⟩ = some (.int .i64 xt.n) ∧ Q.cell? ⟨w.heap.size, 3, none⟩ = some (.slice xa xt.args.length xc) ∧ Q.cell? ⟨w.heap.size, 4, none⟩ = some (.int .i64 yt.kind) ∧ Q.cell? ⟨w.heap.size, 5, none⟩ = some (.string yt.name) ∧ Q.cell? ⟨w.heap.size, 6, none⟩ = some (.int .i64 yt.n) ∧ Q.cell? ⟨w.heap.size, 7, none⟩ = some (.slice ya yt.args.length yc)) (first | assumption | exact KB.out _ D1.out | exact KB.out _ (by with_reducible assumption) | exact KB.out _ ((by with_reducible assumption : Below _ _ _).alloc (Below.size (by with_reducible assumption)) _) | exact KEEP.out _ (by with_reducible assumption))
    ((first
      | (go_at_call 35; (with_reducible refine (S1.out _ (by first | exact D1.out | exact D0.out | assumption)).mono ?_); rintro e w1 ⟨rfl, hl1, hb1⟩; have hb2 := below_next (show Below V.heap.size V _ from (by first | exact D1.out | exact D0.out | assumption)) hb1)
      | (go_at_call 35; (with_reducible refine (S2.out _ (by first | exact D1.out | exact D0.out | assumption)).mono ?_); rintro e w1 ⟨rfl, hl2, hb1⟩; have hb2 := below_next (show Below V.heap.size V _ from (by first | exact D1.out | exact D0.out | assumption)) hb1)
      | (go_at_call 33; (with_reducible refine (LN.out _ (by assumption) hl1 hl2).mono ?_); rintro e w3 ⟨rfl, hp3, hk3⟩)))
  all_goals
    go_end0
    exact ⟨rfl, hp3, HV.out.trans hk3⟩

set_option maxRecDepth 100000 in
set_option maxHeartbeats 4000000 in
theorem pgquery_any (B b : Nat) (l : List UInt8) (y : Kw) (w : World) (HPW : Pow w) (h : Pg B b l w) (hB : B ≤ w.heap.size) (hy : y.ok w) (h1 : wtT y.t.t ≤ 100000000) (hll : y.left.size ≤ 100000) (hlr : y.right.size ≤ 100000) (hl : l.length ≤ 10000000000000) :
    Calls Tryd.prog 26 #[.pointer (some ⟨b, 0, none⟩), y.val] w fun e w' => e = .returned (.tuple #[]) ∧ Pg B b (l ++ lnAsk y.kind y.left y.right y.t.t) w' ∧ KeepsP B w w' ∧ (lnAsk y.kind y.left y.right y.t.t = [] → Below w.heap.size w w') := by
  obtain ⟨k, a1, a2, ⟨t, a, c⟩⟩ := y
  obtain ⟨_, _, _, ht⟩ := hy
  unfold Kw.val
  simp only at ht h1 hll hlr ⊢
  obtain ⟨z, hz⟩ : ∃ z, showT t = z := ⟨_, rfl⟩
  obtain ⟨V, hV⟩ : ∃ V, w.alloc (.cells #[.int .i64 k, .string a1, .string a2, .int .i64 t.kind, .string t.name, .int .i64 t.n, .slice a t.args.length c] 32) = V := ⟨_, rfl⟩
  have hbV : Below w.heap.size w V := by rw [← hV]; exact (Below.refl _ _).alloc (Nat.le_refl _) _
  have hg : V.heap[w.heap.size]? = some (Obj.cells #[.int .i64 k, .string a1, .string a2, .int .i64 t.kind, .string t.name, .int .i64 t.n, .slice a t.args.length c] 32 (0, 0)) := by rw [← hV]; exact heap_alloc_new w _
  have S1 := Lib.hid (fun (W : World) (hb : Below V.heap.size V W) => pshow_len ⟨t, a, c⟩ W (ht.below (below_next hbV hb)) (HPW.below (below_next hbV hb)) h1)
  simp only [Tv.val, hz] at S1
  have s1 : a1.data.toList.length = a1.size := by rw [Array.length_toList]; rfl
  have s2 : a2.data.toList.length = a2.size := by rw [Array.length_toList]; rfl
  have LNE := Lib.hid (fun (w1 : World) (hb : Below V.heap.size V w1) (zs : List ByteArray) (hn : zs.length ≤ 10) (hcl : (catL zs).length ≤ 1000000000) => (show Calls Tryd.prog 33 #[.pointer (some ⟨b, 0, none⟩), .slice (some ⟨w1.heap.size, 0, none⟩) zs.length zs.length] (w1.alloc (.cells (zs.map Value.string).toArray 9)) fun e w' => e = .returned (.tuple #[]) ∧ Pg B b (l ++ (catL zs ++ [46, 10])) w' ∧ KeepsP B V w' from by
    have hbA : Below w1.heap.size w1 (w1.alloc (.cells (zs.map Value.string).toArray 9)) := (Below.refl _ _).alloc (Nat.le_refl _) _
    have hb2 := below_next hb hbA
    have hb3 := below_next hbV hb2
    refine (pline_pg B b w1.heap.size zs.length l zs _ (h.below hb3) (partsAt_new w1 zs) (Nat.le_refl _) (by omega) (by omega) (Nat.le_trans hB hb3.size)).mono ?_
    rintro e w' ⟨h1, h2, h3⟩
    rw [List.append_assoc] at h2
    exact ⟨h1, h2, (keepsP_in hb2 (Nat.le_trans hB hbV.size)).trans h3⟩))
  have HV := Lib.hid (keepsP_in hbV hB)
  have HBV := Lib.hid hbV
  have D0 := Lib.hid (Below.refl V.heap.size V)
  have E := Lib.hid hV
  have HPG := Lib.hid h
  by_cases k1 : k = 1
  · subst k1
    have HEQ := Lib.hid (show catL [⟨#[100, 101, 100, 117, 99, 101, 32]⟩, a1, ⟨#[32]⟩, ⟨z.toArray⟩] ++ [46, 10] = lnAsk 1 a1 a2 t by unfold lnAsk catL; rw [if_pos rfl, hz]; simp)
    have HNE := Lib.hid (show lnAsk 1 a1 a2 t ≠ [] by unfold lnAsk; rw [if_pos rfl]; simp)
    have LN := Lib.hid (fun (w1 : World) (hb : Below V.heap.size V w1) (e1 : z.length + 4 ≤ wtT t) => (show Calls Tryd.prog 33 #[.pointer (some ⟨b, 0, none⟩), .slice (some ⟨w1.heap.size, 0, none⟩) 4 4] (w1.alloc (.cells #[.string ⟨#[100, 101, 100, 117, 99, 101, 32]⟩, .string a1, .string ⟨#[32]⟩, .string ⟨z.toArray⟩] 9)) fun e w' => e = .returned (.tuple #[]) ∧ Pg B b (l ++ lnAsk 1 a1 a2 t) w' ∧ KeepsP B V w' from by
      have := LNE.out w1 hb [⟨#[100, 101, 100, 117, 99, 101, 32]⟩, a1, ⟨#[32]⟩, ⟨z.toArray⟩] (by simp) (by simp [catL]; omega)
      rw [HEQ.out] at this
      exact this))
    have KEEP := Lib.hid (fun (Q : World) (hb : KeepsP B V Q) => (show KeepsP B V Q ∧ Q.cell? ⟨w.heap.size, 0, none⟩ = some (.int .i64 1) ∧ Q.cell? ⟨w.heap.size, 1, none⟩ = some (.string a1) ∧ Q.cell? ⟨w.heap.size, 3, none⟩ = some (.int .i64 t.kind) ∧ Q.cell? ⟨w.heap.size, 4, none⟩ = some (.string t.name) ∧ Q.cell? ⟨w.heap.size, 5, none⟩ = some (.int .i64 t.n) ∧ Q.cell? ⟨w.heap.size, 6, none⟩ = some (.slice a t.args.length c) from ⟨hb, hb.cellsOf (by decide) (by decide) hg 0, hb.cellsOf (by decide) (by decide) hg 1, hb.cellsOf (by decide) (by decide) hg 3, hb.cellsOf (by decide) (by decide) hg 4, hb.cellsOf (by decide) (by decide) hg 5, hb.cellsOf (by decide) (by decide) hg 6⟩))
    have KB := Lib.hid (fun (Q : World) (hb : Below V.heap.size V Q) => KEEP.out Q (keepsP_in hb (Nat.le_trans hB hbV.size)))
    have D1 := Lib.hid ((Below.refl V.heap.size V).drew)
    clear ht h1 hz hl HPW h hV hbV hg HEQ s1 s2 LNE hll hlr
    go_enter Tryd.func26, Tryd.ntmps26
    go_wp2_with fail
    rw [E.out]
    go_region_held3 (fun Q => KeepsP B V Q ∧ Q.cell? ⟨w.heap.size, 0, none⟩ = some (.int .i64 1) ∧ Q.cell? ⟨w.heap.size, 1, none⟩ = some (.string a1) ∧ Q.cell? ⟨w.heap.size, 3, none⟩ = some (.int .i64 t.kind) ∧ Q.cell? ⟨w.heap.size, 4, none⟩ = some (.string t.name) ∧ Q.cell? ⟨w.heap.size, 5, none⟩ = some (.int .i64 t.n) ∧ Q.cell? ⟨w.heap.size, 6, none⟩ = some (.slice a t.args.length c)) (first | assumption | exact KB.out _ D1.out | exact KB.out _ (by with_reducible assumption) | exact KB.out _ ((by with_reducible assumption : Below _ _ _).alloc (Below.size (by with_reducible assumption)) _) | exact KEEP.out _ (by with_reducible assumption))
      ((first
        | (go_at_call 35; (with_reducible refine (S1.out _ (by first | exact D1.out | exact D0.out | assumption)).mono ?_); rintro e w1 ⟨rfl, hl1, hb1⟩; have hb2 := below_next (show Below V.heap.size V _ from (by first | exact D1.out | exact D0.out | assumption)) hb1)
        | (go_at_call 33; (with_reducible refine (LN.out _ (by assumption) hl1).mono ?_); rintro e w3 ⟨rfl, hp3, hk3⟩)))
    all_goals
      go_wp2_with fail
      go_end0
      exact ⟨rfl, hp3, HV.out.trans hk3, fun q => absurd q HNE.out⟩
  · have q1 : (k == 1) = false := by rw [beq_eq_false_iff_ne]; exact k1
    have N1 := Lib.hid k1
    by_cases k2 : k = 2
    · subst k2
      have HEQ := Lib.hid (show catL [⟨#[101, 113, 117, 105, 118, 32]⟩, a1, ⟨#[32]⟩, a2] ++ [46, 10] = lnAsk 2 a1 a2 t by unfold lnAsk catL; rw [if_neg (by decide), if_pos rfl]; simp)
      have HNE := Lib.hid (show lnAsk 2 a1 a2 t ≠ [] by unfold lnAsk; rw [if_neg (by decide), if_pos rfl]; simp)
      have L0 := LNE.out V D0.out [⟨#[101, 113, 117, 105, 118, 32]⟩, a1, ⟨#[32]⟩, a2] (by simp) (by simp [catL]; omega)
      rw [HEQ.out, ← hV] at L0
      rw [show (w.alloc (.cells #[.int .i64 2, .string a1, .string a2, .int .i64 t.kind, .string t.name, .int .i64 t.n, .slice a t.args.length c] 32)).heap.size = w.heap.size + 1 from by simp] at L0
      simp only [List.length_cons, List.length_nil, List.map_cons, List.map_nil] at L0
      have LN := Lib.hid L0
      have HKV := Lib.hid HV.out
      rw [← hV] at HKV
      clear ht h1 hz hl HPW h hV hbV hg HEQ s1 s2 LNE hll hlr k1 L0 E
      go_enter Tryd.func26, Tryd.ntmps26
      go_wp2_with fail
      refine LN.out.mono ?_; rintro e w3 ⟨rfl, hp3, hk3⟩
      go_wp2_with fail
      go_end0
      exact ⟨rfl, hp3, HKV.out.trans hk3, fun q => absurd q HNE.out⟩
    · have q2 : (k == 2) = false := by rw [beq_eq_false_iff_ne]; exact k2
      have N2 := Lib.hid k2
      by_cases k3 : k = 3
      · subst k3
        have HEQ := Lib.hid (show catL [⟨#[110, 111, 114, 109, 97, 108, 32]⟩, ⟨z.toArray⟩] ++ [46, 10] = lnAsk 3 a1 a2 t by unfold lnAsk catL; rw [if_neg (by decide), if_neg (by decide), if_pos rfl, hz]; simp)
        have HNE := Lib.hid (show lnAsk 3 a1 a2 t ≠ [] by unfold lnAsk; rw [if_neg (by decide), if_neg (by decide), if_pos rfl]; simp)
        have LN := Lib.hid (fun (w1 : World) (hb : Below V.heap.size V w1) (e1 : z.length + 4 ≤ wtT t) => (show Calls Tryd.prog 33 #[.pointer (some ⟨b, 0, none⟩), .slice (some ⟨w1.heap.size, 0, none⟩) 2 2] (w1.alloc (.cells #[.string ⟨#[110, 111, 114, 109, 97, 108, 32]⟩, .string ⟨z.toArray⟩] 9)) fun e w' => e = .returned (.tuple #[]) ∧ Pg B b (l ++ lnAsk 3 a1 a2 t) w' ∧ KeepsP B V w' from by
          have := LNE.out w1 hb [⟨#[110, 111, 114, 109, 97, 108, 32]⟩, ⟨z.toArray⟩] (by simp) (by simp [catL]; omega)
          rw [HEQ.out] at this
          exact this))
        have C := S1.out V D0.out
        rw [← hV] at C LN
        have CC := Lib.hid C
        have HKV := Lib.hid HV.out
        rw [← hV] at HKV
        clear ht h1 hz hl HPW h hV hbV hg HEQ s1 s2 LNE hll hlr k1 k2 C E
        go_enter Tryd.func26, Tryd.ntmps26
        go_wp2_with fail
        refine CC.out.mono ?_; rintro e w1 ⟨rfl, hl1, hb1⟩
        have L1 := Lib.hid (LN.out w1 hb1 hl1)
        clear hl1
        go_wp2_with fail
        refine L1.out.mono ?_; rintro e w3 ⟨rfl, hp3, hk3⟩
        go_wp2_with fail
        go_end0
        exact ⟨rfl, hp3, HKV.out.trans hk3, fun q => absurd q HNE.out⟩
      · have q3 : (k == 3) = false := by rw [beq_eq_false_iff_ne]; exact k3
        have HE := Lib.hid (show lnAsk k a1 a2 t = [] by unfold lnAsk; rw [if_neg k1, if_neg k2, if_neg k3])
        have HKV := Lib.hid HV.out
        rw [← hV] at HKV
        have HP2 := Lib.hid (h.below hbV)
        rw [← hV] at HP2
        rw [← hV] at HBV
        clear ht h1 hz hl HPW h hV hbV hg s1 s2 LNE hll hlr k1 k2 k3 E S1
        go_enter Tryd.func26, Tryd.ntmps26
        go_wp2_with fail
        go_end0
        exact ⟨rfl, by rw [HE.out, List.append_nil]; exact HP2.out, HKV.out, fun _ => HBV.out⟩
end Go.Proofs.YtmpaljmkfnpcpaaDoor
