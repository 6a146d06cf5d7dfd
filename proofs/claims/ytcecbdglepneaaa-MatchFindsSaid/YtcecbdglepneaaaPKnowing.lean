/-
  What is known from binds, by the program: knowing.
-/
import Derived.Test.YtcecbdglepneaaaPStands
namespace Go.Proofs.Ytcecbdglepneaaa
open Go.RowKit Go.Maps

theorem rising_new {l : List Bn} {k : Nat} {x : Bn} (h : Rising l) (hk : l[k]? = some x) : getB (l.take k) x.1 = none := by
  obtain ⟨hl, rfl⟩ := List.getElem?_eq_some_iff.1 hk
  refine getB_none fun y hy => ?_
  obtain ⟨j, hj, rfl⟩ := List.getElem_of_mem hy
  rw [List.length_take] at hj
  rw [List.getElem_take]
  exact ltN_ne (List.pairwise_iff_getElem.1 h j k (by omega) hl (by omega))
theorem OwnBv.bind {w0 W : World} {base : Nat} {a : Option Addr} {c : Nat} {l : List Bn} (h : OwnBv w0 W base (.slice a l.length c) l) {i : Nat} {x : Bn} (hi : l[i]? = some x) :
    ∃ (g : Nat) (y : Bv), a = some ⟨g, 0, none⟩ ∧ g < W.heap.size ∧ y.bn = x ∧ y.s.size ≤ 9223372036854775807 ∧ BvAt W g (i * 5) y := by
  obtain ⟨vs, hm, hok, hn, ⟨h1, h0⟩ | ⟨g, cap, cur, h1, _, hg, _, _, _, ht⟩⟩ := h
  · have := (List.getElem?_eq_some_iff.1 hi).1; omega
  · cases h1
    subst hm
    rw [List.getElem?_map] at hi
    obtain ⟨y, hy, rfl⟩ := Option.map_eq_some_iff.1 hi
    obtain ⟨hj, rfl⟩ := List.getElem?_eq_some_iff.1 hy
    have cell : ∀ k, k < 5 → W.cell? ⟨g, i * 5 + k, none⟩ = vs[i].cells[k]? := by
      intro k hk
      rw [cell_of_row W g (i * 5 + k) cur _ (0, 0) hg, ← rowBv_get vs i hj k hk, ← ht, List.getElem?_take, if_pos (by simp; omega)]
      simp
    exact ⟨g, vs[i], rfl, (Array.getElem?_eq_some_iff.1 hg).1, rfl, (hok _ (List.getElem_mem hj)).2, cell 0 (by omega), cell 1 (by omega), cell 2 (by omega), cell 3 (by omega), cell 4 (by omega)⟩

/-- What a call leaves that makes what is known. -/
def KnowPost (w0 w : World) (l : List Bn) (e : Ending) (w' : World) : Prop := ∃ kb bm, e = .returned (.pointer (some ⟨kb, 0, none⟩)) ∧ KnAt w0 w' w.heap.size kb bm l ∧ Below w.heap.size w w'
set_option maxRecDepth 100000 in
set_option maxHeartbeats 4000000 in
theorem knowing_any (v : Value) (bs : List Bn) (w0 w : World) (hv : Bds w0 v bs) (hb0 : Below w0.heap.size w0 w) (hlen : bs.length ≤ 1000000) :
    Calls Try.prog 33 #[v] w (KnowPost w0 w (ofB bs)) := by
  have OF := Lib.hid (of_own v bs w0 w hv hb0 hlen)
  have HL := Lib.hid (ofB_length bs)
  have HR := Lib.hid (ofB_rising bs)
  have hmm := @run_makeMap Try.prog
  obtain ⟨L, hL⟩ : ∃ L, ofB bs = L := ⟨_, rfl⟩
  rw [hL] at HR HL OF ⊢
  clear hL
  obtain ⟨a, c, rfl, _, _⟩ := hv
  clear hb0
  go_enter Try.func33, Try.ntmps33
  go_wp2_with fail
  refine OF.out.mono ?_; rintro e w1 ⟨u, rfl, _, hu, hb1⟩
  have hu2 := hu
  obtain ⟨vs, hvm, hvo, hvr⟩ := hu2
  obtain ⟨a1, c1, rfl⟩ := own_form2 hvr
  have hul : L.length ≤ 1000000 := by have := HL.out; omega
  clear HL OF hvm hvo hvr
  have hb2 : Below w.heap.size w (w1.alloc (.map #[] 0)) := hb1.alloc hb1.size _
  have hb3 : Below w.heap.size w ((w1.alloc (.map #[] 0)).alloc (.cells #[.slice a1 L.length c1, .map (some w1.heap.size)] 61)) := hb2.alloc hb2.size _
  have hz3 : (w1.alloc (.map #[] 0)).heap.size = w1.heap.size + 1 := by simp
  have hkb : ((w1.alloc (.map #[] 0)).alloc (.cells #[.slice a1 L.length c1, .map (some w1.heap.size)] 61)).heap[w1.heap.size + 1]? = some (.cells #[.slice a1 L.length c1, .map (some w1.heap.size)] 61 (0, 0)) := by
    rw [← hz3]; exact heap_alloc_new _ _
  have hu3 : OwnBv w0 ((w1.alloc (.map #[] 0)).alloc (.cells #[.slice a1 L.length c1, .map (some w1.heap.size)] 61)) w.heap.size (.slice a1 L.length c1) L :=
    (hu.kept (World.grownBy_alloc w1 (.map #[] 0) none) (fun g cc e => by cases e)).kept (World.grownBy_alloc _ _ none) (fun g cc e => by cases e)
  have hm3 : ((w1.alloc (.map #[] 0)).alloc (.cells #[.slice a1 L.length c1, .map (some w1.heap.size)] 61)).ownsMap Try.prog 9 (plainElem (H := Unit) Try.prog 3) w1.heap.size 0 (.map []) := (World.ownsMap_made w1 Try.prog 9 _).alloc _
  have HS1 := Lib.hid (And.intro hb1.size (show w1.heap.size ≠ w1.heap.size + 1 by omega))
  obtain ⟨w3, hw3⟩ : ∃ w3, w3 = ((w1.alloc (.map #[] 0)).alloc (.cells #[.slice a1 L.length c1, .map (some w1.heap.size)] 61)) := ⟨_, rfl⟩
  rw [← hw3] at hb3 hkb hu3 hm3
  have HW3 := Lib.hid hw3
  have HB3 := Lib.hid hb3
  have HKB := Lib.hid hkb
  have HU3 := Lib.hid hu3
  have HM3 := Lib.hid hm3
  have pk := known_cells hkb
  obtain ⟨p0, p1, _, _⟩ := pk
  rw [hw3] at p0 p1
  clear hb1 hb2 hb3 hz3 hkb hu hu3 hm3 hw3
  go_wp2_with fail
  rw [← HW3.out]
  clear p0 p1 HW3
  go_loopw [16] (fun i wr => ∃ (k : Nat), k ≤ L.length ∧ i = .int .i64 k ∧ Hid (wr.heap[w1.heap.size + 1]? = some (.cells #[.slice a1 L.length c1, .map (some w1.heap.size)] 61 (0, 0))) ∧ Hid (∃ D : DataW Unit, wr.ownsMap Try.prog 9 (plainElem Try.prog 3) w1.heap.size k D ∧ NameIdx D (L.take k)) ∧
    Hid (OwnBv w0 wr w.heap.size (.slice a1 L.length c1) L) ∧ Below w.heap.size w wr) (fun i _ => L.length - (intOf i).toNat)
  case atStart => exact ⟨0, Nat.zero_le _, rfl, HKB, Lib.hid ⟨_, HM3.out, by rw [List.take_zero]; exact nameIdx_none⟩, HU3, HB3.out⟩
  case round =>
    obtain ⟨k, hk, rfl, HK, HM, HO, hb⟩ := hrel
    clear HKB HM3 HU3 HB3
    by_cases hkl : k < L.length
    · obtain ⟨x, hx⟩ : ∃ x, L[k]? = some x := ⟨_, List.getElem?_eq_getElem hkl⟩
      obtain ⟨g, ⟨ys, yt, ya, yc⟩, rfl, hgl, hyx, hys, hy⟩ := HO.out.bind hx
      obtain ⟨D, hown, hD⟩ := HM.out
      have hnew := rising_new HR.out hx
      obtain rfl : (ys, yt) = x := hyx
      have HX := Lib.hid hx
      have HNEW := Lib.hid hnew
      have HD := Lib.hid hD
      have hkey := keyOf_name hys
      have hM : k < maxLen := by unfold maxLen; omega
      have hWF : (Lit.int .i64 (k : Int)).wf = true := WalkArith.wf_i64 (by omega)
      have hk0 : (0 : Int) ≤ (k : Int) := by omega
      have hk1 : (k : Int) < (L.length : Int) := by omega
      have hkd : decide ((k : Int) < (L.length : Int)) = true := decide_eq_true hk1
      obtain ⟨m0, m1, m2, m3, m4⟩ := hy
      simp only at m0 m1 m2 m3 m4
      have hown4 := (hown.alloc (.cells #[.string ys, .int .i64 yt.kind, .string yt.name, .int .i64 yt.n, .slice ya yt.args.length yc] 46)).drew
      obtain ⟨w5, hrun, hown5, hg5⟩ := hown4.update law_name Try.underlying59 hM hkey (plainElem_int Try.underlying3 hWF)
      have hkw : w1.heap.size + 1 < wr.heap.size := (Array.getElem?_eq_some_iff.1 HK.out).1
      have hbr : Below w.heap.size w ((wr.alloc (.cells #[.string ys, .int .i64 yt.kind, .string yt.name, .int .i64 yt.n, .slice ya yt.args.length yc] 46)).drew) := (hb.alloc hb.size _).drew
      have hk5 : w5.heap[w1.heap.size + 1]? = some (.cells #[.slice (some ⟨g, 0, none⟩) L.length c1, .map (some w1.heap.size)] 61 (0, 0)) := by
        rw [hg5.block (w1.heap.size + 1) (by show _ < (wr.alloc _).heap.size; simp; omega) (fun e => HS1.out.2 (Option.some.inj e).symm)]
        exact (Below.heap_alloc _ _ _ hkw).trans HK.out
      have ho4 : OwnBv w0 ((wr.alloc (.cells #[.string ys, .int .i64 yt.kind, .string yt.name, .int .i64 yt.n, .slice ya yt.args.length yc] 46)).drew) w.heap.size (.slice (some ⟨g, 0, none⟩) L.length c1) L := HO.out.kept (w' := (wr.alloc (.cells #[.string ys, .int .i64 yt.kind, .string yt.name, .int .i64 yt.n, .slice ya yt.args.length yc] 46)).drew) (row := none) (grownBy_below (((Below.refl _ _).alloc (Nat.le_refl _) _).drew)) (fun g' cc e => by cases e)
      have ho5 : OwnBv w0 w5 w.heap.size (.slice (some ⟨g, 0, none⟩) L.length c1) L := ho4.kept hg5 (fun g' cc e hc => by
          obtain rfl := Option.some.inj e
          obtain ⟨es, clock, hbm, _⟩ := hown4
          rw [hbm] at hc; cases hc)
      have hb5 : Below w.heap.size w w5 := hbr.grown hg5 hbr.size (fun k' e => by obtain rfl := Option.some.inj e; exact HS1.out.1)
      have HE := Lib.hid (And.intro hk5 (And.intro ho5 (And.intro hb5 hown5)))
      have KC := known_cells HK.out
      have KS := Lib.hid (show w5.cell? ⟨w1.heap.size + 1, 1, none⟩ = some (.map (some w1.heap.size)) from (known_cells hk5).c1)
      have KB := Lib.hid (show (wr.alloc (.cells #[.string ys, .int .i64 yt.kind, .string yt.name, .int .i64 yt.n, .slice ya yt.args.length yc] 46)).cell? ⟨w1.heap.size + 1, 1, none⟩ = some (.map (some w1.heap.size)) from (World.cell?_of_block (w := wr) (a := ⟨w1.heap.size + 1, 1, none⟩) (Below.heap_alloc _ _ _ hkw)).trans KC.c1)
      clear hx hnew hgl hys hown hD hown4 hown5 hg5 hbr hk5 ho4 ho5 hb5 hb KC
      have hkb := KB.out
      go_wp2_with fail
      go_region
      go_wp2_with fail
      go_roundw
      case rel =>
        refine ⟨k + 1, by omega, by go_num, Lib.hid HE.out.1, Lib.hid ⟨_, HE.out.2.2.2, ?_⟩, Lib.hid HE.out.2.1, HE.out.2.2.1⟩
        have h := HD.out.snoc yt HNEW.out
        rw [List.length_take, Nat.min_eq_left hk] at h
        obtain ⟨hl, he⟩ := List.getElem?_eq_some_iff.1 HX.out
        rw [List.take_succ_eq_append_getElem hl, he]
        exact h
      case measure => simp [intOf]; omega
    · have hke : k = L.length := by omega
      have hkd : decide ((k : Int) < (L.length : Int)) = false := decide_eq_false (by omega)
      have hkn : ¬ (k : Int) < (L.length : Int) := by omega
      have HE := Lib.hid (show KnAt w0 wr w.heap.size (w1.heap.size + 1) w1.heap.size L from ⟨by have := HS1.out.1; omega, HS1.out.1, ⟨_, HK.out, HO.out⟩, by
        obtain ⟨D, h1, h2⟩ := HM.out
        rw [hke] at h1 h2
        rw [List.take_length] at h2
        exact ⟨D, h1, h2⟩⟩)
      have HBE := Lib.hid hb
      clear hke hb
      go_wp2_with fail
      go_ret
      exact ⟨_, _, rfl, HE.out, HBE.out⟩
end Go.Proofs.Ytcecbdglepneaaa
