/-
  The first place of a part, by the program's Find.
-/
import Derived.Test.YtniikfihfeledaaPIn
import Derived.Test.YtniikfihfeledaaPConc
import Derived.Test.YtniikfihfeledaaPAllTm
namespace Go.Proofs.Ytniikfihfeledaa
open Go.RowKit

mutual
theorem placesT_bd : ∀ (t : Tm) (p : List Int), p ∈ placesT t → ∀ n ∈ p, 0 ≤ n ∧ n < (t.parts : Int)
  | .mk k s n xs, p, h, i, hi => by
    rw [placesT] at h
    rw [Tm.parts]
    rcases List.mem_cons.1 h with rfl | h
    · cases hi
    · have := placesL_bd 0 xs p h i hi; omega
theorem placesL_bd : ∀ (j : Nat) (l : List Tm) (p : List Int), p ∈ placesL j l → ∀ n ∈ p, 0 ≤ n ∧ n < ((j + partsL l : Nat) : Int)
  | _, [], p, h, _, _ => by rw [placesL] at h; cases h
  | j, t :: r, p, h, i, hi => by
    rw [placesL] at h
    rw [partsL]
    have hp := parts_pos t
    rcases List.mem_append.1 h with h | h
    · obtain ⟨q, hq, rfl⟩ := List.mem_map.1 h
      rcases List.mem_cons.1 hi with rfl | hi
      · omega
      · have := placesT_bd t q hq i hi; omega
    · have := placesL_bd (j + 1) r p h i hi; omega
end
theorem finP_bd {s t : Tm} {q : List Int} (h : finP s t = some q) : ∀ n ∈ q, 0 ≤ n ∧ n < (t.parts : Int) := by
  rw [← findT_fin] at h
  exact placesT_bd t q (List.mem_of_find?_eq_some h)
/-- A box of six cells. -/
structure Six (w : World) (g : Nat) (x0 x1 x2 x3 x4 x5 : Value) : Prop where
  c0 : w.cell? ⟨g, 0, none⟩ = some x0
  c1 : w.cell? ⟨g, 1, none⟩ = some x1
  c2 : w.cell? ⟨g, 2, none⟩ = some x2
  c3 : w.cell? ⟨g, 3, none⟩ = some x3
  c4 : w.cell? ⟨g, 4, none⟩ = some x4
  c5 : w.cell? ⟨g, 5, none⟩ = some x5
  fz : ∀ o, w.frozen? ⟨g, o, none⟩ = false
theorem six_new (w : World) (x0 x1 x2 x3 x4 x5 : Value) (t : TypeId) : Six (w.alloc (.cells #[x0, x1, x2, x3, x4, x5] t)) w.heap.size x0 x1 x2 x3 x4 x5 where
  c0 := World.cell?_alloc_mark w #[x0, x1, x2, x3, x4, x5] t (0, 0) 0
  c1 := World.cell?_alloc_mark w #[x0, x1, x2, x3, x4, x5] t (0, 0) 1
  c2 := World.cell?_alloc_mark w #[x0, x1, x2, x3, x4, x5] t (0, 0) 2
  c3 := World.cell?_alloc_mark w #[x0, x1, x2, x3, x4, x5] t (0, 0) 3
  c4 := World.cell?_alloc_mark w #[x0, x1, x2, x3, x4, x5] t (0, 0) 4
  c5 := World.cell?_alloc_mark w #[x0, x1, x2, x3, x4, x5] t (0, 0) 5
  fz := fun o => by simp
theorem Six.of_block {w w' : World} {g : Nat} {x0 x1 x2 x3 x4 x5 : Value} (h : Six w g x0 x1 x2 x3 x4 x5) (hb : w'.heap[g]? = w.heap[g]?) : Six w' g x0 x1 x2 x3 x4 x5 :=
  ⟨(World.cell?_of_block hb).trans h.c0, (World.cell?_of_block hb).trans h.c1, (World.cell?_of_block hb).trans h.c2, (World.cell?_of_block hb).trans h.c3, (World.cell?_of_block hb).trans h.c4, (World.cell?_of_block hb).trans h.c5, fun o => (World.frozen?_of_block hb).trans (h.fz o)⟩
def sets6 (w : World) (g : Nat) (y0 y1 y2 y3 y4 y5 : Value) : World := (((((w.setCell ⟨g, 0, none⟩ y0).setCell ⟨g, 1, none⟩ y1).setCell ⟨g, 2, none⟩ y2).setCell ⟨g, 3, none⟩ y3).setCell ⟨g, 4, none⟩ y4).setCell ⟨g, 5, none⟩ y5
theorem Six.sets {w : World} {g : Nat} {x0 x1 x2 x3 x4 x5 : Value} (h : Six w g x0 x1 x2 x3 x4 x5) (y0 y1 y2 y3 y4 y5 : Value) : Six (sets6 w g y0 y1 y2 y3 y4 y5) g y0 y1 y2 y3 y4 y5 where
  c0 := by
    unfold sets6
    rw [cell_off g 5 0 (by decide), cell_off g 4 0 (by decide), cell_off g 3 0 (by decide), cell_off g 2 0 (by decide), cell_off g 1 0 (by decide)]
    exact World.cell?_setCell_same _ _ _ h.c0
  c1 := by
    unfold sets6
    rw [cell_off g 5 1 (by decide), cell_off g 4 1 (by decide), cell_off g 3 1 (by decide), cell_off g 2 1 (by decide)]
    exact World.cell?_setCell_same (u := x1) _ _ _ (by rw [cell_off g 0 1 (by decide)]; exact h.c1)
  c2 := by
    unfold sets6
    rw [cell_off g 5 2 (by decide), cell_off g 4 2 (by decide), cell_off g 3 2 (by decide)]
    exact World.cell?_setCell_same (u := x2) _ _ _ (by rw [cell_off g 1 2 (by decide), cell_off g 0 2 (by decide)]; exact h.c2)
  c3 := by
    unfold sets6
    rw [cell_off g 5 3 (by decide), cell_off g 4 3 (by decide)]
    exact World.cell?_setCell_same (u := x3) _ _ _ (by rw [cell_off g 2 3 (by decide), cell_off g 1 3 (by decide), cell_off g 0 3 (by decide)]; exact h.c3)
  c4 := by
    unfold sets6
    rw [cell_off g 5 4 (by decide)]
    exact World.cell?_setCell_same (u := x4) _ _ _ (by rw [cell_off g 3 4 (by decide), cell_off g 2 4 (by decide), cell_off g 1 4 (by decide), cell_off g 0 4 (by decide)]; exact h.c4)
  c5 := by
    unfold sets6
    exact World.cell?_setCell_same (u := x5) _ _ _ (by rw [cell_off g 4 5 (by decide), cell_off g 3 5 (by decide), cell_off g 2 5 (by decide), cell_off g 1 5 (by decide), cell_off g 0 5 (by decide)]; exact h.c5)
  fz := fun o => by unfold sets6; simp [h.fz o]
theorem below_sets6 {B : Nat} {a w : World} (h : Below B a w) {g : Nat} (hg : B ≤ g) (y0 y1 y2 y3 y4 y5 : Value) : Below B a (sets6 w g y0 y1 y2 y3 y4 y5) :=
  (((((h.setCell (p := ⟨g, 0, none⟩) hg _).setCell (p := ⟨g, 1, none⟩) hg _).setCell (p := ⟨g, 2, none⟩) hg _).setCell (p := ⟨g, 3, none⟩) hg _).setCell (p := ⟨g, 4, none⟩) hg _).setCell (p := ⟨g, 5, none⟩) hg _

set_option maxRecDepth 100000 in
set_option maxHeartbeats 4000000 in
theorem pfind_tm (x y : Tv) (w : World) (hx : x.ok w) (hy : y.ok w) (hp : x.t.parts ≤ 100000) (hq : y.t.parts ≤ 100000) :
    Calls Try.prog 26 #[x.val, y.val] w fun e w' => ∃ v, e = .returned (.tuple #[v, .bool (findT x.t y.t).isSome]) ∧ Nums w' v ((findT x.t y.t).getD []) ∧ Below w.heap.size w w' := by
  have IN := Lib.hid (fun (W : World) (g : Nat) (h : Below w.heap.size w W) (hg : w.heap.size ≤ g) (hgW : g < W.heap.size) (hb : SBox W g y (y.t.parts : Int) (.slice none 0 0)) =>
    pin_tm x.t.parts y x [] (.slice none 0 0) w W (g + 1) g (Nat.le_refl _) (by simp; omega) hy hx h hg (Nat.lt_succ_self _) hgW hb (World.ownsRow_nil _ _ _ _) (by omega))
  have SZ := Lib.hid (fun (W : World) (h : Below w.heap.size w W) => psize_tm y W (hy.below h) (by omega))
  have HXO := Lib.hid hx
  clear hx hy
  rw [findT_fin]
  obtain ⟨t, ax, cx⟩ := x
  obtain ⟨s, ay, cy⟩ := y
  have hz1 : (w.alloc (.cells #[.int .i64 t.kind, .string t.name, .int .i64 t.n, .slice ax t.args.length cx] 24)).heap.size = w.heap.size + 1 := by simp
  have bX := (box_new w (.int .i64 t.kind) (.string t.name) (.int .i64 t.n) (.slice ax t.args.length cx) 24).below ((Below.refl _ _).alloc (Nat.le_refl _) (.cells #[.int .i64 s.kind, .string s.name, .int .i64 s.n, .slice ay s.args.length cy] 24)) (by rw [hz1]; omega)
  have bY := box_new (w.alloc (.cells #[.int .i64 t.kind, .string t.name, .int .i64 t.n, .slice ax t.args.length cx] 24)) (.int .i64 s.kind) (.string s.name) (.int .i64 s.n) (.slice ay s.args.length cy) 24
  rw [hz1] at bY
  have hwb : Below w.heap.size w ((w.alloc (.cells #[.int .i64 t.kind, .string t.name, .int .i64 t.n, .slice ax t.args.length cx] 24)).alloc (.cells #[.int .i64 s.kind, .string s.name, .int .i64 s.n, .slice ay s.args.length cy] 24)) := ((Below.refl _ _).alloc (Nat.le_refl _) _).alloc (by rw [hz1]; omega) _
  obtain ⟨wb, hwbe⟩ : ∃ wb, wb = ((w.alloc (.cells #[.int .i64 t.kind, .string t.name, .int .i64 t.n, .slice ax t.args.length cx] 24)).alloc (.cells #[.int .i64 s.kind, .string s.name, .int .i64 s.n, .slice ay s.args.length cy] 24)) := ⟨_, rfl⟩
  have hzb : wb.heap.size = w.heap.size + 2 := by rw [hwbe]; simp
  rw [← hwbe] at bX bY hwb
  have HBX := Lib.hid (fun (V : World) (h : Below wb.heap.size wb V) => bX.below h (by omega))
  have HBY := Lib.hid (fun (V : World) (h : Below wb.heap.size wb V) => bY.below h (by omega))
  have HW := Lib.hid hwb
  have CS := Lib.hid (fun (W : World) (h : Below wb.heap.size wb W) => (SZ.out W (hwb.trans (h.mono hwb.size))).mono (fun e w' hh => (show e = .returned (.int .i64 (s.parts : Int)) ∧ Below W.heap.size W w' ∧ Below wb.heap.size wb w' from ⟨hh.1, hh.2, below_next h hh.2⟩)))
  have A0 := Lib.hid (show Below wb.heap.size wb wb.drew from (Below.refl _ _).drew)
  have AA := Lib.hid (fun o => (show Below wb.heap.size wb (wb.alloc o).drew from ((Below.refl _ _).alloc (Nat.le_refl _) o).drew))
  have AB := Lib.hid (fun (W : World) o (h : Below wb.heap.size wb W) => (show Below wb.heap.size wb (W.alloc o) from h.alloc h.size o))
  have AS := Lib.hid (fun (W : World) (u0 u1 u2 u3 u4 u5 : Value) (h : Below wb.heap.size wb W) => (show Below wb.heap.size wb ((((((W.setCell ⟨wb.heap.size, 0, none⟩ u0).setCell ⟨wb.heap.size, 1, none⟩ u1).setCell ⟨wb.heap.size, 2, none⟩ u2).setCell ⟨wb.heap.size, 3, none⟩ u3).setCell ⟨wb.heap.size, 4, none⟩ u4).setCell ⟨wb.heap.size, 5, none⟩ u5) from below_sets6 h (Nat.le_refl _) u0 u1 u2 u3 u4 u5))
  have C8 := Lib.hid ((CS.out (wb.alloc (.cells #[.int .i64 0, .string ⟨#[]⟩, .int .i64 0, .slice none 0 0, .int .i64 0, .slice none 0 0] 55)).drew (AA.out _)).mono (fun e w3 hh => (show e = .returned (.int .i64 (s.parts : Int)) ∧ Six w3 wb.heap.size (.int .i64 0) (.string ⟨#[]⟩) (.int .i64 0) (.slice none 0 0) (.int .i64 0) (.slice none 0 0) ∧ Below wb.heap.size wb w3 from
    ⟨hh.1, ((six_new wb (.int .i64 0) (.string ⟨#[]⟩) (.int .i64 0) (.slice none 0 0) (.int .i64 0) (.slice none 0 0) 55).of_block (w' := (wb.alloc (.cells #[.int .i64 0, .string ⟨#[]⟩, .int .i64 0, .slice none 0 0, .int .i64 0, .slice none 0 0] 55)).drew) rfl).of_block (hh.2.1.block wb.heap.size (by simp)), hh.2.2⟩)))
  have KEEP := Lib.hid (fun (W : World) (h : Below wb.heap.size wb W) => (show (Below wb.heap.size wb W ∧ W.cell? ⟨w.heap.size + 1, 0, none⟩ = some (.int .i64 s.kind) ∧ W.cell? ⟨w.heap.size + 1, 1, none⟩ = some (.string s.name) ∧ W.cell? ⟨w.heap.size + 1, 2, none⟩ = some (.int .i64 s.n) ∧ W.cell? ⟨w.heap.size + 1, 3, none⟩ = some (.slice ay s.args.length cy)) from ⟨h, (bY.below h (by omega)).c0, (bY.below h (by omega)).c1, (bY.below h (by omega)).c2, (bY.below h (by omega)).c3⟩))
  have HZB := Lib.hid hzb
  obtain ⟨y0, y1, y2, y3, _, _, _, _⟩ := id bY
  clear bX bY hwb hz1 hzb SZ
  simp only [Tv.val] at *
  go_enter Try.func26, Try.ntmps26
  go_wp2_with fail
  rw [← hwbe]
  clear hwbe
  go_region_held3 (fun W => Below wb.heap.size wb W ∧ W.cell? ⟨w.heap.size + 1, 0, none⟩ = some (.int .i64 s.kind) ∧ W.cell? ⟨w.heap.size + 1, 1, none⟩ = some (.string s.name) ∧ W.cell? ⟨w.heap.size + 1, 2, none⟩ = some (.int .i64 s.n) ∧ W.cell? ⟨w.heap.size + 1, 3, none⟩ = some (.slice ay s.args.length cy)) ((refine KEEP.out _ ?_; first | with_reducible exact A0.out | with_reducible exact AA.out _ | with_reducible assumption | with_reducible exact AB.out _ _ (by with_reducible assumption) | with_reducible exact AS.out _ _ _ _ _ _ _ (by with_reducible assumption)))
    ((first
      | (go_at_call 38; refine C8.out.mono ?_; rintro e w3 ⟨rfl, ⟨b0, b1, b2, b3, b4, b5, bf⟩, hn⟩; have bf0 := bf 0; have bf1 := bf 1; have bf2 := bf 2; have bf3 := bf 3; have bf4 := bf 4; have bf5 := bf 5)
      | (go_at_call 38; refine (CS.out _ (by assumption)).mono ?_; rintro e w3 ⟨rfl, hk3, hn⟩)))
  · have hd : Below wb.heap.size wb (w3.alloc (.cells #[.int .i64 s.kind, .string s.name, .int .i64 s.n, .slice ay s.args.length cy, .int .i64 s.parts, .slice none 0 0] 55)) := AB.out _ _ hn
    have six : Six (w3.alloc (.cells #[.int .i64 s.kind, .string s.name, .int .i64 s.n, .slice ay s.args.length cy, .int .i64 s.parts, .slice none 0 0] 55)) w3.heap.size (.int .i64 s.kind) (.string s.name) (.int .i64 s.n) (.slice ay s.args.length cy) (.int .i64 s.parts) (.slice none 0 0) := six_new w3 (.int .i64 s.kind) (.string s.name) (.int .i64 s.n) (.slice ay s.args.length cy) (.int .i64 s.parts) (.slice none 0 0) 55
    have hgb : wb.heap.size ≤ w3.heap.size := by first | exact hn.size | exact Nat.le_refl _
    obtain ⟨wd, hwd⟩ : ∃ wd, wd = (w3.alloc (.cells #[.int .i64 s.kind, .string s.name, .int .i64 s.n, .slice ay s.args.length cy, .int .i64 s.parts, .slice none 0 0] 55)) := ⟨_, rfl⟩
    rw [← hwd] at hd six
    rw [← hwd]
    have hws : w.heap.size ≤ wb.heap.size := HW.out.size
    have C := IN.out wd w3.heap.size (HW.out.trans (hd.mono HW.out.size)) (by omega) (lt_of_cell six.c0) ⟨six.c0, six.c1, six.c2, six.c3, six.c4, six.c5, six.fz 5⟩
    have CC := Lib.hid C
    obtain ⟨p0, p1, p2, p3, _, _, _, _⟩ := HBX.out wd hd
    clear hwd hd six C y0 y1 y2 y3 hk3
    go_wp2_with fail
    refine CC.out.mono ?_; rintro e w5 ⟨v', c, he, _, hsb, hown, hB5, _, _⟩
    obtain ⟨fo, hfo⟩ : ∃ fo, finP s t = fo := ⟨_, rfl⟩
    (try simp only [List.nil_append] at he hown)
    rw [hfo] at he hown
    have HFO := Lib.hid hfo
    have HB5 := Lib.hid hB5
    have HOWN := Lib.hid hown
    clear hfo hB5 hown p0 p1 p2 p3
    cases fo with
    | none =>
      obtain rfl := he
      clear hsb
      simp only [Option.isSome_none]
      go_wp2_with fail
      refine bodyPost_ret (v := .tuple #[.slice none 0 0, .bool false]) (by simp [results, Try.results26, go_sem]) rfl ?_
      exact ⟨.slice none 0 0, by rw [HFO.out]; rfl, by rw [HFO.out]; exact (At0.nil w5).nums, HB5.out⟩
    | some q =>
      obtain rfl := he
      obtain ⟨_, _, _, _, _, s5, _⟩ := hsb
      simp only [Option.isSome_some]
      go_wp2_with fail
      refine bodyPost_ret (v := .tuple #[v', .bool true]) (by simp [results, Try.results26, go_sem]) rfl ?_
      have hbd := finP_bd HFO.out
      have hn2 : Nums w5 v' q := At0.nums ⟨own_lower HOWN.out (Nat.zero_le _), fun n hn => by have := hbd n hn; omega⟩
      exact ⟨v', by rw [HFO.out]; rfl, by rw [HFO.out]; exact hn2, HB5.out⟩
  · have hd : Below wb.heap.size wb ((((((w3.setCell ⟨wb.heap.size, 0, none⟩ (.int .i64 s.kind)).setCell ⟨wb.heap.size, 1, none⟩ (.string s.name)).setCell ⟨wb.heap.size, 2, none⟩ (.int .i64 s.n)).setCell ⟨wb.heap.size, 3, none⟩ (.slice ay s.args.length cy)).setCell ⟨wb.heap.size, 4, none⟩ (.int .i64 s.parts)).setCell ⟨wb.heap.size, 5, none⟩ (.slice none 0 0)) := AS.out w3 (.int .i64 s.kind) (.string s.name) (.int .i64 s.n) (.slice ay s.args.length cy) (.int .i64 s.parts) (.slice none 0 0) hn
    have six : Six ((((((w3.setCell ⟨wb.heap.size, 0, none⟩ (.int .i64 s.kind)).setCell ⟨wb.heap.size, 1, none⟩ (.string s.name)).setCell ⟨wb.heap.size, 2, none⟩ (.int .i64 s.n)).setCell ⟨wb.heap.size, 3, none⟩ (.slice ay s.args.length cy)).setCell ⟨wb.heap.size, 4, none⟩ (.int .i64 s.parts)).setCell ⟨wb.heap.size, 5, none⟩ (.slice none 0 0)) wb.heap.size (.int .i64 s.kind) (.string s.name) (.int .i64 s.n) (.slice ay s.args.length cy) (.int .i64 s.parts) (.slice none 0 0) := (Six.mk b0 b1 b2 b3 b4 b5 bf).sets (.int .i64 s.kind) (.string s.name) (.int .i64 s.n) (.slice ay s.args.length cy) (.int .i64 s.parts) (.slice none 0 0)
    have hgb : wb.heap.size ≤ wb.heap.size := by first | exact hn.size | exact Nat.le_refl _
    obtain ⟨wd, hwd⟩ : ∃ wd, wd = ((((((w3.setCell ⟨wb.heap.size, 0, none⟩ (.int .i64 s.kind)).setCell ⟨wb.heap.size, 1, none⟩ (.string s.name)).setCell ⟨wb.heap.size, 2, none⟩ (.int .i64 s.n)).setCell ⟨wb.heap.size, 3, none⟩ (.slice ay s.args.length cy)).setCell ⟨wb.heap.size, 4, none⟩ (.int .i64 s.parts)).setCell ⟨wb.heap.size, 5, none⟩ (.slice none 0 0)) := ⟨_, rfl⟩
    rw [← hwd] at hd six
    rw [← hwd]
    have hws : w.heap.size ≤ wb.heap.size := HW.out.size
    have C := IN.out wd wb.heap.size (HW.out.trans (hd.mono HW.out.size)) (by omega) (lt_of_cell six.c0) ⟨six.c0, six.c1, six.c2, six.c3, six.c4, six.c5, six.fz 5⟩
    have CC := Lib.hid C
    obtain ⟨p0, p1, p2, p3, _, _, _, _⟩ := HBX.out wd hd
    clear hwd hd six C y0 y1 y2 y3 b0 b1 b2 b3 b4 b5 bf bf0 bf1 bf2 bf3 bf4 bf5
    go_wp2_with fail
    refine CC.out.mono ?_; rintro e w5 ⟨v', c, he, _, hsb, hown, hB5, _, _⟩
    obtain ⟨fo, hfo⟩ : ∃ fo, finP s t = fo := ⟨_, rfl⟩
    (try simp only [List.nil_append] at he hown)
    rw [hfo] at he hown
    have HFO := Lib.hid hfo
    have HB5 := Lib.hid hB5
    have HOWN := Lib.hid hown
    clear hfo hB5 hown p0 p1 p2 p3
    cases fo with
    | none =>
      obtain rfl := he
      clear hsb
      simp only [Option.isSome_none]
      go_wp2_with fail
      refine bodyPost_ret (v := .tuple #[.slice none 0 0, .bool false]) (by simp [results, Try.results26, go_sem]) rfl ?_
      exact ⟨.slice none 0 0, by rw [HFO.out]; rfl, by rw [HFO.out]; exact (At0.nil w5).nums, HB5.out⟩
    | some q =>
      obtain rfl := he
      obtain ⟨_, _, _, _, _, s5, _⟩ := hsb
      simp only [Option.isSome_some]
      go_wp2_with fail
      refine bodyPost_ret (v := .tuple #[v', .bool true]) (by simp [results, Try.results26, go_sem]) rfl ?_
      have hbd := finP_bd HFO.out
      have hn2 : Nums w5 v' q := At0.nums ⟨own_lower HOWN.out (Nat.zero_le _), fun n hn => by have := hbd n hn; omega⟩
      exact ⟨v', by rw [HFO.out]; rfl, by rw [HFO.out]; exact hn2, HB5.out⟩
end Go.Proofs.Ytniikfihfeledaa
