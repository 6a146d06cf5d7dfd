/-
  A block that holds slices alone is no part of functions or rules: they stay as they are where it is written. No function of the program.
  The program's library, a theory with a primitive behind: Use.
  A primitive's text, by the reference of layer 12: Text.
  The terms that begin at a token, with a sign between, by the reference of layer 11: Terms, where Term is as it should be; then both.
  What stands while a part of an item is read: the item, the answer's box, the token. No function of the program.
-/
import Derived.Test.YtnbjpgdnfklanaaGreatDoorT42
import Derived.Test.YtnbjpgdnfklanaaGreatDoorT05
import Derived.Test.YtnbjpgdnfklanaaGreatDoorT09
import Derived.Test.YtnbjpgdnfklanaaGreatDoorT21
import Derived.Test.YtnbjpgdnfklanaaGreatDoorT39
import Derived.Test.YtnbjpgdnfklanaaGreatDoorT43
import Derived.Deep.RegionHeld3
import Derived.Test.YtnbjpgdnfklanaaGreatDoorT01
import Derived.WalkKit
import Derived.ProofKit
import Derived.Lib.Hide
import Derived.Test.YtnbjpgdnfklanaaGreatDoorT03
import Derived.Test.YtnbjpgdnfklanaaGreatDoorT10
import Derived.Test.YtnbjpgdnfklanaaGreatDoorT04
namespace Go.Proofs.YtnbjpgdnfklanaaGreatDoor
open Go.RowKit
def SlB (w : World) (g : Nat) : Prop := ∀ o v, w.cell? ⟨g, o, none⟩ = some v → ∃ a n c, v = .slice a n c
theorem slB_two {w : World} {g : Nat} {a b : Option Addr} {n m c d : Nat} {t : TypeId} (h : w.heap[g]? = some (.cells #[.slice a n c, .slice b m d] t (0, 0))) : SlB w g := by
  intro o v hv
  rw [cell_of_row w g o _ _ (0, 0) h] at hv
  match o, hv with
  | 0, hv => simp at hv; exact ⟨_, _, _, hv.symm⟩
  | 1, hv => simp at hv; exact ⟨_, _, _, hv.symm⟩
  | o + 2, hv => simp at hv
theorem SlB.int {w : World} {g b o : Nat} {k : Int} (h : SlB w g) (hc : w.cell? ⟨b, o, none⟩ = some (.int .i64 k)) : b ≠ g := by
  rintro rfl
  obtain ⟨a, n, c, e⟩ := h _ _ hc
  cases e
theorem SlB.str {w : World} {g b o : Nat} {s : ByteArray} (h : SlB w g) (hc : w.cell? ⟨b, o, none⟩ = some (.string s)) : b ≠ g := by
  rintro rfl
  obtain ⟨a, n, c, e⟩ := h _ _ hc
  cases e
theorem mask_in {w : World} {g : Nat} {p : Addr} {v : Value} (h : w.cell? p = some v) (hne : p.block ≠ g) : (mask w g).cell? p = some v := by
  rw [World.cell?_of_block (w := w) (w' := mask w g) (a := p) (mask_other w hne)]; exact h
mutual
theorem TmAt.masked {w : World} {g : Nat} (hg : SlB w g) : ∀ {t : Tm} {b o : Nat}, TmAt w t b o → TmAt (mask w g) t b o
  | .mk k s n xs, b, o, h => by
    rw [TmAt] at h ⊢
    obtain ⟨hf, h0, h1, h2, a, c, h3, hl, hr⟩ := h
    have hb := hg.int h0
    refine ⟨hf, mask_in h0 hb, mask_in h1 hb, mask_in h2 hb, a, c, mask_in h3 hb, hl, ?_⟩
    rcases hr with hr | ⟨b', o', ha, hb', hr⟩
    · exact .inl hr
    · exact .inr ⟨b', o', ha, by rw [mask_size]; exact hb', RowAt.masked hg hr⟩
theorem RowAt.masked {w : World} {g : Nat} (hg : SlB w g) : ∀ {xs : List Tm} {b o : Nat}, RowAt w xs b o → RowAt (mask w g) xs b o
  | [], _, _, _ => by rw [RowAt]; trivial
  | t :: r, b, o, h => by
    rw [RowAt] at h ⊢
    exact ⟨TmAt.masked hg h.1, RowAt.masked hg h.2⟩
end
theorem Rls.off {w W : World} {g : Nat} {v : Value} {rs : List Rl} (h : Rls w v rs) (hg : SlB w g) (hs : w.heap.size ≤ W.heap.size) (hk : ∀ k, k < w.heap.size → k ≠ g → W.heap[k]? = w.heap[k]?) : Rls W v rs := by
  have hr := reads_mask (w := w) (W := W) (g := g) hs hk
  obtain ⟨a, c, hv, hl, h⟩ := h
  refine ⟨a, c, hv, hl, ?_⟩
  rcases h with h | ⟨b, o, ha, hlt, h⟩
  · exact .inl h
  · exact .inr ⟨b, o, ha, Nat.lt_of_lt_of_le hlt hs, fun j x hj => ⟨TmAt.reads hr (TmAt.masked hg (h j x hj).1), TmAt.reads hr (TmAt.masked hg (h j x hj).2)⟩⟩
theorem Fus.off {w W : World} {g : Nat} {v : Value} {fs : List Fn} (h : Fus w v fs) (hg : SlB w g) (hs : w.heap.size ≤ W.heap.size) (hk : ∀ k, k < w.heap.size → k ≠ g → W.heap[k]? = w.heap[k]?) : Fus W v fs := by
  obtain ⟨a, c, hv, hl, h⟩ := h
  refine ⟨a, c, hv, hl, ?_⟩
  rcases h with h | ⟨b, o, ha, hlt, h⟩
  · exact .inl h
  · refine .inr ⟨b, o, ha, Nat.lt_of_lt_of_le hlt hs, fun j x hj => ?_⟩
    have hx := h j x hj
    have hblk := hk b hlt (hg.str hx.c0)
    exact ⟨hx.ok, (World.cell?_of_block hblk).trans hx.c0, (World.cell?_of_block hblk).trans hx.c1⟩
theorem Yv.ok.off {w W : World} {g : Nat} {y : Yv} (h : y.ok w) (hg : SlB w g) (hs : w.heap.size ≤ W.heap.size) (hk : ∀ k, k < w.heap.size → k ≠ g → W.heap[k]? = w.heap[k]?) : y.ok W := ⟨h.funs.off hg hs hk, h.rules.off hg hs hk⟩
structure Box2 (w : World) (g : Nat) (x0 x1 : Value) : Prop where
  c0 : w.cell? ⟨g, 0, none⟩ = some x0
  c1 : w.cell? ⟨g, 1, none⟩ = some x1
  f0 : w.frozen? ⟨g, 0, none⟩ = false
  f1 : w.frozen? ⟨g, 1, none⟩ = false
theorem box2_new (w : World) (x0 x1 : Value) (t : TypeId) : Box2 (w.alloc (.cells #[x0, x1] t)) w.heap.size x0 x1 where
  c0 := World.cell?_alloc_mark w #[x0, x1] t (0, 0) 0
  c1 := World.cell?_alloc_mark w #[x0, x1] t (0, 0) 1
  f0 := by simp
  f1 := by simp
theorem Box2.block {w w' : World} {g : Nat} {x0 x1 : Value} (h : Box2 w g x0 x1) (hk : w'.heap[g]? = w.heap[g]?) : Box2 w' g x0 x1 :=
  ⟨(World.cell?_of_block hk).trans h.c0, (World.cell?_of_block hk).trans h.c1, (World.frozen?_of_block hk).trans h.f0, (World.frozen?_of_block hk).trans h.f1⟩
theorem Box2.lt {w : World} {g : Nat} {x0 x1 : Value} (h : Box2 w g x0 x1) : g < w.heap.size := World.block_lt_of_cell? w _ h.c0
theorem Box2.below {w w' : World} {g : Nat} {x0 x1 : Value} (h : Box2 w g x0 x1) (hb : Below w.heap.size w w') : Box2 w' g x0 x1 := h.block (hb.block g h.lt)
theorem set_thy {w : World} {g : Nat} {y : Yv} (h : y.ok w) (hg : SlB w g) (a b : Value) : y.ok ((w.setCell ⟨g, 0, none⟩ a).setCell ⟨g, 1, none⟩ b) :=
  h.off hg (by simp) fun k _ hk => by rw [Below.heap_setCell _ _ _ _ hk, Below.heap_setCell _ _ _ _ hk]
end Go.Proofs.YtnbjpgdnfklanaaGreatDoor

namespace Go.Proofs.YtnbjpgdnfklanaaGreatDoor
open Go.RowKit
theorem rules_more {w' : World} {base : Nat} {u : Value} {rs qs : List Rl} {us ms : List Qv} (h1 : us.map Qv.rl = rs) (h2 : ∀ x ∈ us, x.ok w') (m1 : ms.map Qv.rl = qs.filter (fun q => !(rs.any fun x => sameUp x q))) (m2 : ∀ x ∈ ms, x.ok w')
    (h : w'.ownsRow base 52 8 u (us ++ ms).length (rowQv (us ++ ms))) (hl : (us ++ ms).length ≤ 9223372036854775807) : Rls w' u (newR rs qs) ∧ (us ++ ms).length = (newR rs qs).length := by
  have e : (us ++ ms).map Qv.rl = newR rs qs := by rw [List.map_append, h1, m1]; rfl
  have hn : (us ++ ms).length = (newR rs qs).length := by rw [← e, List.length_map]
  refine ⟨RowQ.rls (e := 52) (base := base) ⟨us ++ ms, e, fun x hx => ?_, by rw [← hn]; exact h⟩ (by rw [← hn]; exact hl), hn⟩
  rcases List.mem_append.1 hx with hx | hx
  · exact h2 x hx
  · exact m2 x hx
set_option maxRecDepth 100000 in
set_option maxHeartbeats 4000000 in
theorem puse_any (y : Yv) (s : ByteArray) (w : World) (HPW : Pow w) (hy : y.ok w) (hm : ModY y.fs y.rs) :
    Calls Tryz.prog 16 #[y.val, .string s] w (UsePost y.fs y.rs s w) := by
  obtain ⟨vf, vr, fs, rs⟩ := y
  simp only at hm ⊢
  have hF := hy.funs
  have hR := hy.rules
  simp only at hF hR
  have HF := Lib.hid hF
  have HR := Lib.hid hR
  obtain ⟨a1, c1, rfl, _, _⟩ := hF
  obtain ⟨a2, c2, rfl, _, _⟩ := hR
  have GT := Lib.hid (fun (W : World) => pget12_any s W)
  unfold PGetPost at GT
  have hb0 : Below w.heap.size w ((w.alloc (.cells #[.slice a1 fs.length c1, .slice a2 rs.length c2] 38)).alloc (.cells #[.slice none 0 0, .slice none 0 0] 38)) := ((Below.refl _ _).alloc (Nat.le_refl _) _).alloc (by simp) _
  have hx1 := (box2_new w (.slice a1 fs.length c1) (.slice a2 rs.length c2) 38).below ((Below.refl _ _).alloc (Nat.le_refl _) (.cells #[.slice none 0 0, .slice none 0 0] 38))
  have hx2 := box2_new (w.alloc (.cells #[.slice a1 fs.length c1, .slice a2 rs.length c2] 38)) (.slice none 0 0) (.slice none 0 0) 38
  have hx3 := heap_alloc_new (w.alloc (.cells #[.slice a1 fs.length c1, .slice a2 rs.length c2] 38)) (.cells #[.slice none 0 0, .slice none 0 0] 38)
  rw [show (w.alloc (.cells #[.slice a1 fs.length c1, .slice a2 rs.length c2] 38)).heap.size = w.heap.size + 1 from by simp] at hx2 hx3
  have HPK := Lib.hid (And.intro hb0 (And.intro hx1 (And.intro hx2 hx3)))
  clear hb0 hx1 hx2 hx3 hy
  unfold UsePost Yv.val
  simp only
  go_enter Tryz.func16, Tryz.ntmps16
  go_wp2_with fail
  obtain ⟨hb0, hx1, hx2, hx3⟩ := HPK.out
  obtain ⟨w1, hw1⟩ : ∃ w1, ((w.alloc (.cells #[.slice a1 fs.length c1, .slice a2 rs.length c2] 38)).alloc (.cells #[.slice none 0 0, .slice none 0 0] 38)) = w1 := ⟨_, rfl⟩
  rw [hw1] at hb0 hx1 hx2 hx3 ⊢
  have ALL := fun (W : World) (h : Below w1.heap.size w1 W) => (show Box2 W w.heap.size (.slice a1 fs.length c1) (.slice a2 rs.length c2) ∧ Box2 W (w.heap.size + 1) (.slice none 0 0) (.slice none 0 0) ∧ SlB W (w.heap.size + 1) ∧ Below w.heap.size w W from ⟨hx1.below h, hx2.below h, slB_two ((h.block _ hx2.lt).trans hx3), below_next hb0 h⟩)
  have HALL := Lib.hid ALL
  clear hb0 hx1 hx2 hx3 hw1 HPK ALL
  refine (GT.out _).mono ?_; rintro e w2 ⟨pf, pr, rfl, hpf, hpr, hb2⟩
  have HPF := Lib.hid hpf
  have HPR := Lib.hid hpr
  obtain ⟨a3, c3, rfl, _, _⟩ := hpf
  obtain ⟨a4, c4, rfl, _, _⟩ := hpr
  have HB2 := Lib.hid hb2
  obtain ⟨nm, hnm⟩ : ∃ nm, entN s = nm := ⟨_, rfl⟩
  rw [hnm]
  cases hE : isEnt s with
  | false =>
    obtain ⟨_, ⟨q0, q1, q2, q3⟩, _, _⟩ := HALL.out w2 hb2
    have HU := Lib.hid (useS_none (fs := fs) (rs := rs) hE)
    obtain ⟨w3, hw3⟩ : ∃ w3, w2.alloc (.cells #[.string nm, .slice a3 (entF s).length c3, .slice a4 (entR s).length c4] 26) = w3 := ⟨_, rfl⟩
    have hb3 : Below w1.heap.size w1 w3 := by rw [← hw3]; exact hb2.alloc hb2.size _
    obtain ⟨_, ⟨q0, q1, q2, q3⟩, _, hbw⟩ := HALL.out w3 hb3
    have HBW := Lib.hid hbw
    clear hb2 hb3 hbw hnm
    go_wp2_with fail
    refine bodyPost_ret (v := .tuple #[.agg #[.slice none 0 0, .slice none 0 0], .int .i64 9]) (by simp [results, Tryz.results16, go_sem, q0, q1]) rfl ?_
    rw [HU.out]
    exact ⟨⟨.slice none 0 0, .slice none 0 0, [], []⟩, rfl, rfl, rfl, zero_thy _, (HBW.out.setCell (p := ⟨w.heap.size + 1, 0, none⟩) (by show w.heap.size ≤ w.heap.size + 1; omega) _).setCell (p := ⟨w.heap.size + 1, 1, none⟩) (by show w.heap.size ≤ w.heap.size + 1; omega) _⟩
  | true =>
    have hme := modY_ent (isEnt_iff.1 hE)
    have hbx := box3_new w2 (.string nm) (.slice a3 (entF s).length c3) (.slice a4 (entR s).length c4) 26
    obtain ⟨w3, hw3⟩ : ∃ w3, w2.alloc (.cells #[.string nm, .slice a3 (entF s).length c3, .slice a4 (entR s).length c4] 26) = w3 := ⟨_, rfl⟩
    rw [hw3] at hbx
    have hb23 : Below w2.heap.size w2 w3 := by rw [← hw3]; exact (Below.refl _ _).alloc (Nat.le_refl _) _
    have hb3 : Below w1.heap.size w1 w3 := below_next hb2 hb23
    obtain ⟨⟨p0, p1, _, _⟩, _, _, hbw⟩ := HALL.out w3 hb3
    have JN := Lib.hid (joinI_any (.slice a1 fs.length c1) (.slice a3 (entF s).length c3) fs (entF s) w3 (HF.out.below hbw) (HPF.out.below hb23) hm.funs hme.funs)
    unfold JoinPost at JN
    have HB3 := Lib.hid hb3
    have HB23 := Lib.hid hb23
    have HBX := Lib.hid hbx
    obtain ⟨x0, x1, x2, _, _, _⟩ := hbx
    have HMY := Lib.hid hm
    have HME := Lib.hid hme
    obtain ⟨je, hje⟩ : ∃ je, joinE fs (entF s) = je := ⟨_, rfl⟩
    have HJE := Lib.hid hje
    rw [hje] at JN
    clear hb2 hb3 hbw hb23 hnm hme hm hje
    go_wp2_with fail
    (try rw [hw3])
    refine JN.out.mono ?_; rintro e w4 ⟨vj, rfl, hvj, hb4⟩
    have HVJ := Lib.hid hvj
    obtain ⟨a5, c5, rfl, _, _⟩ := hvj
    obtain ⟨⟨p0, p1, _, _⟩, ⟨q0, q1, q2, q3⟩, hsl, hbw4⟩ := HALL.out w4 (below_next HB3.out hb4)
    obtain ⟨x0, x1, x2, _, _, _⟩ := HBX.out.below hb4
    have HSL := Lib.hid hsl
    have HBW4 := Lib.hid hbw4
    have HB4 := Lib.hid hb4
    clear hb4 hsl hbw4 hw3
    by_cases hj0 : je = 0
    · subst hj0
      have MS := Lib.hid (fun (W : World) (h : Below w4.heap.size w4 W) => pmissing_any (.slice a2 rs.length c2) (.slice a4 (entR s).length c4) rs (entR s) W (HPW.below (HBW4.out.trans (h.mono HBW4.out.size))) (HR.out.below (HBW4.out.trans (h.mono HBW4.out.size))) (HPR.out.below (HB23.out.trans ((below_next HB4.out h).mono HB23.out.size))) HMY.out.parts HME.out.parts HME.out.len)
      obtain ⟨us1, u1, u2, u3⟩ := rls_qin HR.out
      have hul : us1.length = rs.length := by rw [← u1, List.length_map]
      have CC := Lib.hid (fun (W : World) (g : Nat) (am : Option Addr) (cm : Nat) (ms : List Qv) (hbw : Below w4.heap.size w4 W) (hr : RowV W g [.slice a2 rs.length c2, .slice am ms.length cm]) (hq : QIn W (.slice am ms.length cm) ms) (m1 : ms.map Qv.rl = (entR s).filter (fun q => !(rs.any fun x => sameUp x q))) (m2 : ∀ x ∈ ms, x.ok W) =>
        (show Calls Tryz.prog 31 #[.slice (some ⟨g, 0, none⟩) 2 2] W fun e w' => ∃ ar cr, e = .returned (.slice ar (newR rs (entR s)).length cr) ∧ Rls w' (.slice ar (newR rs (entR s)).length cr) (newR rs (entR s)) ∧ Below W.heap.size W w' from by
          have hml : ms.length ≤ (entR s).length := by rw [← List.length_map (f := Qv.rl), m1]; exact List.length_filter_le ..
          have hbW := HBW4.out.trans (hbw.mono HBW4.out.size)
          have hrs := HMY.out.len
          have hre := HME.out.len
          refine (pconcat_rl [(.slice a2 rs.length c2, us1), (.slice am ms.length cm, ms)] g 2 W ⟨hr.1, fun k hk => ?_⟩ (by simp) (by simp) (by simp [flatQ]; omega)).mono ?_
          · have hcell := hr.2
            match k, hk with
            | 0, _ => exact ⟨by have := hcell 0 _ rfl; rw [addr_add] at this; exact this, u3.below hbW⟩
            | 1, _ => exact ⟨by have := hcell 1 _ rfl; rw [addr_add] at this; simpa using this, hq⟩
          · rintro e w' ⟨u, rfl, ho, hb⟩
            have e2 : flatQ [(.slice a2 rs.length c2, us1), (.slice am ms.length cm, ms)] = us1 ++ ms := by simp [flatQ]
            rw [e2] at ho
            obtain ⟨r1, r2⟩ := rules_more u1 (fun x hx => ((u2 x hx).below hbW).below hb) m1 (fun x hx => (m2 x hx).below hb) ho (by rw [List.length_append]; omega)
            obtain ⟨ar, cr, rfl⟩ := own_slice ho
            rw [r2] at r1 ⊢
            exact ⟨ar, cr, rfl, r1, hb⟩))
      have ALLR := fun (Q : World) (h : Below w4.heap.size w4 Q) => (show Below w4.heap.size w4 Q ∧ Q.cell? ⟨w.heap.size, 1, none⟩ = some (.slice a2 rs.length c2) ∧ Q.cell? ⟨w2.heap.size, 2, none⟩ = some (.slice a4 (entR s).length c4) from ⟨h, by obtain ⟨⟨_, k1, _, _⟩, _, _, _⟩ := HALL.out Q (below_next HB3.out (below_next HB4.out h)); exact k1, by obtain ⟨_, _, k2, _, _, _⟩ := HBX.out.below (below_next HB4.out h); exact k2⟩)
      have KX := Lib.hid ALLR
      have K0 := Lib.hid (ALLR w4.drew ((Below.refl _ _).drew))
      have KA := Lib.hid (fun (Q : World) (o : Obj) (h : Below w4.heap.size w4 Q ∧ Q.cell? ⟨w.heap.size, 1, none⟩ = some (.slice a2 rs.length c2) ∧ Q.cell? ⟨w2.heap.size, 2, none⟩ = some (.slice a4 (entR s).length c4)) => KX.out (Q.alloc o) (h.1.alloc h.1.size _))
      have KS := Lib.hid (fun (Q : World) (h : Below w4.heap.size w4 Q ∧ Q.cell? ⟨w.heap.size, 1, none⟩ = some (.slice a2 rs.length c2) ∧ Q.cell? ⟨w2.heap.size, 2, none⟩ = some (.slice a4 (entR s).length c4)) => h.1)
      have HUB := Lib.hid (fun (h : 24 < (newR rs (entR s)).length) => useS_long (fs := fs) (rs := rs) hE HJE.out h)
      have HUO := Lib.hid (fun (h : ¬ 24 < (newR rs (entR s)).length) => useS_ok (fs := fs) (rs := rs) hE HJE.out h)
      have HXX := Lib.hid (fun (W : World) (h : Below w4.heap.size w4 W) => HALL.out W (below_next HB3.out (below_next HB4.out h)))
      clear ALLR u1 u2 u3 hul q0 q1 q2 q3 p0 x0
      go_wp2_with fail
      go_region_held3 (fun Q => Below w4.heap.size w4 Q ∧ Q.cell? ⟨w.heap.size, 1, none⟩ = some (.slice a2 rs.length c2) ∧ Q.cell? ⟨w2.heap.size, 2, none⟩ = some (.slice a4 (entR s).length c4))
        (first | exact K0.out | assumption | exact KA.out _ _ (by assumption))
        (first
          | (have hq := hmo; clear hq; go_at_call 31; refine (CC.out _ _ am cm ms ?_ ?_ ?_ hm1 ?_).mono ?_; (· exact KS.out _ (by assumption)); (· exact rowV_new _ _ _ _ rfl); (· exact hmq.below (by first | exact Below.refl _ _ | exact (Below.refl _ _).drew | exact (Below.refl _ _).alloc (Nat.le_refl _) _ | exact ((Below.refl _ _).alloc (Nat.le_refl _) _).drew)); (· exact fun x hx => (hm2 x hx).below (by first | exact Below.refl _ _ | exact (Below.refl _ _).drew | exact (Below.refl _ _).alloc (Nat.le_refl _) _ | exact ((Below.refl _ _).alloc (Nat.le_refl _) _).drew)); rintro e w6 ⟨ar, cr, rfl, hrr, hb6⟩; have hbw6 := below_next hbw5 (below_next (show Below w5.heap.size w5 _ from (by first | exact Below.refl _ _ | exact (Below.refl _ _).drew | exact (Below.refl _ _).alloc (Nat.le_refl _) _ | exact ((Below.refl _ _).alloc (Nat.le_refl _) _).drew)) hb6); have hS6 := KX.out _ hbw6)
          | (go_at_call 32; refine (MS.out _ ?_).mono ?_; (· exact KS.out _ (by assumption)); rintro e w5 ⟨um, ms, rfl, hm1, hm2', hmo, hb5⟩; obtain ⟨am, cm, rfl⟩ := own_slice hmo; have hmq := own_qin hmo (by have := HME.out.len; have h9 : ms.length ≤ (entR s).length := (by rw [← List.length_map (f := Qv.rl), hm1]; exact List.length_filter_le ..); omega); have hm2 := (fun x hx => (hm2' x hx).below hb5 : ∀ x ∈ ms, Qv.ok w5 x); have hbw5 := below_next (show Below w4.heap.size w4 _ from (by first | exact Below.refl _ _ | exact (Below.refl _ _).drew | exact (Below.refl _ _).alloc (Nat.le_refl _) _ | exact ((Below.refl _ _).alloc (Nat.le_refl _) _).drew)) hb5; have hS5 := KX.out _ hbw5)
          | fail)
      obtain ⟨_, ⟨q0, q1, q2, q3⟩, hsl6, hbw⟩ := HXX.out w6 hbw6
      have HSL6 := Lib.hid hsl6
      have HBW := Lib.hid hbw
      have HRR := Lib.hid hrr
      have HVJ6 := Lib.hid (HVJ.out.below hbw6)
      clear hsl6 hbw hrr hbw6 hS6 hS5 hbw5 hm2 hmq hb5 hb6 hmo hm1 hm2' KX K0 KA KS CC MS x1 x2 p1
      by_cases hn : 24 < (newR rs (entR s)).length
      · have hnc : (24 : Int) < ((newR rs (entR s)).length : Int) := by omega
        have HU := Lib.hid (HUB.out hn)
        go_wp2_with fail
        refine bodyPost_ret (v := .tuple #[.agg #[.slice none 0 0, .slice none 0 0], .int .i64 3]) (by simp [results, Tryz.results16, go_sem, q0, q1]) rfl ?_
        rw [HU.out]
        exact ⟨⟨.slice none 0 0, .slice none 0 0, [], []⟩, rfl, rfl, rfl, zero_thy _, (HBW.out.setCell (p := ⟨w.heap.size + 1, 0, none⟩) (by show w.heap.size ≤ w.heap.size + 1; omega) _).setCell (p := ⟨w.heap.size + 1, 1, none⟩) (by show w.heap.size ≤ w.heap.size + 1; omega) _⟩
      · have hnc : ((newR rs (entR s)).length : Int) ≤ 24 := by omega
        have HU := Lib.hid (HUO.out hn)
        go_wp2_with fail
        refine bodyPost_ret (v := .tuple #[.agg #[.slice a5 (joinL fs (entF s)).length c5, .slice ar (newR rs (entR s)).length cr], .int .i64 0]) (by simp [results, Tryz.results16, go_sem, q0, q1]) rfl ?_
        rw [HU.out]
        exact ⟨⟨.slice a5 (joinL fs (entF s)).length c5, .slice ar (newR rs (entR s)).length cr, joinL fs (entF s), newR rs (entR s)⟩, rfl, rfl, rfl, set_thy (y := ⟨.slice a5 (joinL fs (entF s)).length c5, .slice ar (newR rs (entR s)).length cr, joinL fs (entF s), newR rs (entR s)⟩) ⟨HVJ6.out, HRR.out⟩ HSL6.out _ _, (HBW.out.setCell (p := ⟨w.heap.size + 1, 0, none⟩) (by show w.heap.size ≤ w.heap.size + 1; omega) _).setCell (p := ⟨w.heap.size + 1, 1, none⟩) (by show w.heap.size ≤ w.heap.size + 1; omega) _⟩
    · have hjn : (je != 0) = true := by simpa using hj0
      have HU := Lib.hid (useS_bad (fs := fs) (rs := rs) hE (by rw [HJE.out]; exact hj0))
      rw [HJE.out] at HU
      clear x0 x1 x2 p0 p1
      go_wp2_with fail
      refine bodyPost_ret (v := .tuple #[.agg #[.slice none 0 0, .slice none 0 0], .int .i64 je]) (by simp [results, Tryz.results16, go_sem, q0, q1]) rfl ?_
      rw [HU.out]
      exact ⟨⟨.slice none 0 0, .slice none 0 0, [], []⟩, rfl, rfl, rfl, zero_thy _, (HBW4.out.setCell (p := ⟨w.heap.size + 1, 0, none⟩) (by show w.heap.size ≤ w.heap.size + 1; omega) _).setCell (p := ⟨w.heap.size + 1, 1, none⟩) (by show w.heap.size ≤ w.heap.size + 1; omega) _⟩
end Go.Proofs.YtnbjpgdnfklanaaGreatDoor

namespace Go.Proofs.YtnbjpgdnfklanaaGreatDoor
open Go.RowKit
end Go.Proofs.YtnbjpgdnfklanaaGreatDoor

namespace Go.Proofs.YtnbjpgdnfklanaaGreatDoor
open Go.RowKit
end Go.Proofs.YtnbjpgdnfklanaaGreatDoor

namespace Go.Proofs.YtnbjpgdnfklanaaGreatDoor
open Go.RowKit
theorem Box.stays {w w1 : World} {g : Nat} {x0 x1 x2 x3 : Value} (h : Box w g x0 x1 x2 x3) (hb : w1.heap[g]? = w.heap[g]?) : Box w1 g x0 x1 x2 x3 := by
  have hc : ∀ i, w1.cell? ⟨g, i, none⟩ = w.cell? ⟨g, i, none⟩ := fun i => World.cell?_of_block (w := w) (w' := w1) (a := ⟨g, i, none⟩) hb
  have hf : ∀ i, w1.frozen? ⟨g, i, none⟩ = w.frozen? ⟨g, i, none⟩ := fun i => by simp [World.frozen?, hb]
  exact ⟨(hc 0).trans h.c0, (hc 1).trans h.c1, (hc 2).trans h.c2, (hc 3).trans h.c3, (hf 0).trans h.f0, (hf 1).trans h.f1, (hf 2).trans h.f2, (hf 3).trans h.f3⟩
theorem Box.put2 {w : World} {g : Nat} {x0 x1 x2 x3 : Value} (h : Box w g x0 x1 x2 x3) (y : Value) : Box (w.setCell ⟨g, 2, none⟩ y) g x0 x1 y x3 where
  c0 := by rw [World.cell?_setCell_other _ _ _ _ (fun e => by cases e)]; exact h.c0
  c1 := by rw [World.cell?_setCell_other _ _ _ _ (fun e => by cases e)]; exact h.c1
  c2 := World.cell?_setCell_same (u := x2) _ _ _ h.c2
  c3 := by rw [World.cell?_setCell_other _ _ _ _ (fun e => by cases e)]; exact h.c3
  f0 := by simp [h.f0]
  f1 := by simp [h.f1]
  f2 := by simp [h.f2]
  f3 := by simp [h.f3]
def boxesP (g k : Nat) : Prop := g ≤ k ∧ k ≤ g + 2
def zP (Z : Nat → Prop) (g k : Nat) : Prop := Z k ∨ boxesP g k
structure OneSt (A : World) (R Z : Nat → Prop) (w0 : World) (T : TypeId) (g : Nat) (x : It) (t : Tok) (vw vt : Value) (W : World) : Prop where
  bel : Below A.heap.size A W
  arg : Box W g (.string x.key) (.int .i64 x.spot) vw vt
  res : ∃ y0 y1 y2 y3, Box W (g + 1) y0 y1 y2 y3
  tok : Box W (g + 1 + 1) (.int .i64 t.kind) (.string t.text) (.int .i64 t.n) (.int .i64 t.place)
  ge : A.heap.size ≤ g
  zlt : ∀ k, Z k → k < g
  rows : RowsI W (zP Z g) T A.heap.size vw x.words vt x.trees
  kept : ∀ k, k < g → ¬ R k → W.heap[k]? = w0.heap[k]?
  rin : ∀ k, rowsP vw vt k → R k ∨ g ≤ k
theorem OneSt.lt {A w0 : World} {R Z : Nat → Prop} {T : TypeId} {g : Nat} {x : It} {t : Tok} {vw vt : Value} {W : World} (h : OneSt A R Z w0 T g x t vw vt W) : g + 2 < W.heap.size := lt_of_cellR h.tok.c0
theorem OneSt.below {A w0 : World} {R Z : Nat → Prop} {T : TypeId} {g : Nat} {x : It} {t : Tok} {vw vt : Value} {W W' : World} (h : OneSt A R Z w0 T g x t vw vt W) (hb : Below W.heap.size W W') : OneSt A R Z w0 T g x t vw vt W' := by
  have hl := h.lt
  have := h.bel.size
  exact ⟨h.bel.trans (hb.mono (by omega)), h.arg.below hb (by omega), (by obtain ⟨y0, y1, y2, y3, hy⟩ := h.res; exact ⟨y0, y1, y2, y3, hy.below hb (by omega)⟩), h.tok.below hb (by omega), h.ge, h.zlt, h.rows.below hb, fun k hk q => (hb.block k (by omega)).trans (h.kept k hk q), h.rin⟩
theorem OneSt.words {A w0 : World} {R Z : Nat → Prop} {T : TypeId} {g : Nat} {x : It} {t : Tok} {vw vw' vt : Value} {W W' : World} {vs news : List Rv} {n : Nat} (h : OneSt A R Z w0 T g x t vw vt W) (h1 : vs.map Rv.t = x.words) (h2 : ∀ y ∈ vs, LiveA W (rowsZ (zP Z g) vw vt) A.heap.size y)
    (hy : ∀ y ∈ news, LiveA W (rowsZ (zP Z g) vw vt) A.heap.size y) (hn : x.words.length + news.length = n) (hown : W'.ownsRow A.heap.size T 5 vw' n (rowRv vs ++ rowRv news)) (hg : W.grownBy W' vw.ownBlock) (hat : vw'.ownBlock = vw.ownBlock ∨ vw'.ownBlock = some W.heap.size) :
    OneSt A R Z w0 T g { x with words := x.words ++ news.map Rv.t } t vw' vt (W'.setCell ⟨g, 2, none⟩ vw') := by
  have hl := h.lt
  have hZ : ∀ k, zP Z g k → k < W.heap.size := fun k hk => by
    rcases hk with hk | hk
    · have := h.zlt k hk; omega
    · have := hk.2; omega
  have hS : rowsZ (zP Z g) vt vw = rowsZ (zP Z g) vw vt := by funext k; unfold rowsZ; rw [rowsP_swap]
  have hr := (h.rows.swap.more h1 (by rw [hS]; exact h2) (by rw [hS]; exact hy) hn hown hg hat hZ).swap
  have hlt := h.rows.lt
  have hout := h.rows.out
  have hst : ∀ k, boxesP g k → W'.heap[k]? = W.heap[k]? := fun k hk => hg.block k (hZ k (.inr hk)) fun q => hout k (.inl q.symm) (.inr hk)
  have hb' : Below A.heap.size A W' := h.bel.grown hg h.bel.size fun k q => (hlt k (.inl q)).1
  have hs : (W'.setCell ⟨g, 2, none⟩ vw').heap.size = W'.heap.size := by simp
  refine ⟨hb'.setCell (p := ⟨g, 2, none⟩) h.ge _, (h.arg.stays (hst g ⟨Nat.le_refl _, by omega⟩)).put2 _, (by obtain ⟨y0, y1, y2, y3, hy'⟩ := h.res; exact ⟨y0, y1, y2, y3, (hy'.stays (hst _ ⟨by omega, by omega⟩)).stays (Below.heap_setCell _ _ _ _ (show g + 1 ≠ g by omega))⟩), (h.tok.stays (hst _ ⟨by omega, by omega⟩)).stays (Below.heap_setCell _ _ _ _ (show g + 1 + 1 ≠ g by omega)), h.ge, h.zlt, ?_, fun k hk q => ?_, fun k e => ?_⟩
  · exact hr.aside (by rw [hs]; exact Nat.le_refl _) fun k hk => Below.heap_setCell _ _ _ _ (show k ≠ g from fun e => hk (by rw [e]; exact .inr ⟨Nat.le_refl _, by omega⟩))
  · rw [Below.heap_setCell _ _ _ _ (show k ≠ g by omega), hg.block k (by omega) fun e => ?_]
    · exact h.kept k hk q
    · rcases h.rin k (.inl e.symm) with r | r
      · exact q r
      · omega
  · rcases e with e | e
    · rcases hat with r | r
      · exact h.rin k (.inl (by rw [← r]; exact e))
      · rw [r] at e; injection e with e; exact .inr (by omega)
    · exact h.rin k (.inr e)
theorem OneSt.cells {A w0 : World} {R Z : Nat → Prop} {T : TypeId} {g : Nat} {x : It} {t : Tok} {vw vt : Value} {W : World} (h : OneSt A R Z w0 T g x t vw vt W) : OneSt A R Z w0 T g x t vw vt W ∧
    W.cell? ⟨g, 0, none⟩ = some (.string x.key) ∧ W.cell? ⟨g, 1, none⟩ = some (.int .i64 x.spot) ∧ W.cell? ⟨g, 2, none⟩ = some vw ∧ W.cell? ⟨g, 3, none⟩ = some vt ∧
    W.cell? ⟨g + 1 + 1, 0, none⟩ = some (.int .i64 t.kind) ∧ W.cell? ⟨g + 1 + 1, 1, none⟩ = some (.string t.text) ∧ W.cell? ⟨g + 1 + 1, 2, none⟩ = some (.int .i64 t.n) ∧ W.cell? ⟨g + 1 + 1, 3, none⟩ = some (.int .i64 t.place) ∧
    W.frozen? ⟨g + 1, 0, none⟩ = false ∧ W.frozen? ⟨g + 1, 1, none⟩ = false ∧ W.frozen? ⟨g + 1, 2, none⟩ = false ∧ W.frozen? ⟨g + 1, 3, none⟩ = false ∧ W.frozen? ⟨g, 2, none⟩ = false ∧ W.frozen? ⟨g, 3, none⟩ = false := by
  obtain ⟨y0, y1, y2, y3, hy⟩ := h.res
  exact ⟨h, h.arg.c0, h.arg.c1, h.arg.c2, h.arg.c3, h.tok.c0, h.tok.c1, h.tok.c2, h.tok.c3, hy.f0, hy.f1, hy.f2, hy.f3, h.arg.f2, h.arg.f3⟩
end Go.Proofs.YtnbjpgdnfklanaaGreatDoor
