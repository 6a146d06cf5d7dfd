/-
  What an arena keeps of a node whose arguments are there, by the program: entry.
-/
import Derived.Test.YtccpfgpdcicjaaaDoorA06
import Derived.Test.YtccpfgpdcicjaaaDoorA05
import Derived.Deep.RegionHeld3
import Derived.Deep.AppendLies
namespace Go.Proofs.YtccpfgpdcicjaaaDoor
open Go.RowKit Go.Maps

theorem below_alloc9 {w w' : World} (h : Below w.heap.size w w') (o : Obj) : Below w.heap.size w (w'.alloc o) := h.alloc h.size o
/-- The six cells of a box. -/
structure Box6 (w : World) (g : Nat) (x0 x1 x2 x3 x4 x5 : Value) : Prop where
  c0 : w.cell? ⟨g, 0, none⟩ = some x0
  c1 : w.cell? ⟨g, 1, none⟩ = some x1
  c2 : w.cell? ⟨g, 2, none⟩ = some x2
  c3 : w.cell? ⟨g, 3, none⟩ = some x3
  c4 : w.cell? ⟨g, 4, none⟩ = some x4
  c5 : w.cell? ⟨g, 5, none⟩ = some x5
  f0 : w.frozen? ⟨g, 0, none⟩ = false
  f1 : w.frozen? ⟨g, 1, none⟩ = false
  f2 : w.frozen? ⟨g, 2, none⟩ = false
  f3 : w.frozen? ⟨g, 3, none⟩ = false
  f4 : w.frozen? ⟨g, 4, none⟩ = false
  f5 : w.frozen? ⟨g, 5, none⟩ = false
theorem box6_new (w : World) (x0 x1 x2 x3 x4 x5 : Value) (t : TypeId) : Box6 (w.alloc (.cells #[x0, x1, x2, x3, x4, x5] t)) w.heap.size x0 x1 x2 x3 x4 x5 := by
  refine ⟨?_, ?_, ?_, ?_, ?_, ?_, ?_, ?_, ?_, ?_, ?_, ?_⟩ <;> first | (rw [World.cell?_alloc_new]; rfl) | rw [World.frozen?_alloc_new]
theorem Box6.below {w w' : World} {g : Nat} {x0 x1 x2 x3 x4 x5 : Value} (h : Box6 w g x0 x1 x2 x3 x4 x5) (hb : Below w.heap.size w w') (hg : g < w.heap.size) : Box6 w' g x0 x1 x2 x3 x4 x5 := by
  have e := hb.block g hg
  have c : ∀ o, w'.cell? ⟨g, o, none⟩ = w.cell? ⟨g, o, none⟩ := fun o => World.cell?_of_block (a := ⟨g, o, none⟩) e
  have f : ∀ o, w'.frozen? ⟨g, o, none⟩ = w.frozen? ⟨g, o, none⟩ := fun o => World.frozen?_of_block (a := ⟨g, o, none⟩) e
  exact ⟨(c 0).trans h.c0, (c 1).trans h.c1, (c 2).trans h.c2, (c 3).trans h.c3, (c 4).trans h.c4, (c 5).trans h.c5, (f 0).trans h.f0, (f 1).trans h.f1, (f 2).trans h.f2, (f 3).trans h.f3, (f 4).trans h.f4, (f 5).trans h.f5⟩
/-- Six cells written. -/
def set6 (w : World) (g : Nat) (x0 x1 x2 x3 x4 x5 : Value) : World := (((((w.setCell ⟨g, 0, none⟩ x0).setCell ⟨g, 1, none⟩ x1).setCell ⟨g, 2, none⟩ x2).setCell ⟨g, 3, none⟩ x3).setCell ⟨g, 4, none⟩ x4).setCell ⟨g, 5, none⟩ x5
theorem set6_block (w : World) (g : Nat) (x0 x1 x2 x3 x4 x5 : Value) {k : Nat} (h : k ≠ g) : (set6 w g x0 x1 x2 x3 x4 x5).heap[k]? = w.heap[k]? := by
  unfold set6
  rw [Below.heap_setCell _ _ _ _ h, Below.heap_setCell _ _ _ _ h, Below.heap_setCell _ _ _ _ h, Below.heap_setCell _ _ _ _ h, Below.heap_setCell _ _ _ _ h, Below.heap_setCell _ _ _ _ h]
theorem set6_cell (w : World) (g : Nat) (x0 x1 x2 x3 x4 x5 : Value) {k o : Nat} (h : k ≠ g) : (set6 w g x0 x1 x2 x3 x4 x5).cell? ⟨k, o, none⟩ = w.cell? ⟨k, o, none⟩ := World.cell?_of_block (a := ⟨k, o, none⟩) (set6_block w g x0 x1 x2 x3 x4 x5 h)
theorem set6_below {w w0 : World} {B g : Nat} (hb : Below B w0 w) (hg : B ≤ g) (x0 x1 x2 x3 x4 x5 : Value) : Below B w0 (set6 w g x0 x1 x2 x3 x4 x5) :=
  (((((hb.setCell (p := ⟨g, 0, none⟩) hg _).setCell (p := ⟨g, 1, none⟩) hg _).setCell (p := ⟨g, 2, none⟩) hg _).setCell (p := ⟨g, 3, none⟩) hg _).setCell (p := ⟨g, 4, none⟩) hg _).setCell (p := ⟨g, 5, none⟩) hg _
theorem set6_size (w : World) (g : Nat) (x0 x1 x2 x3 x4 x5 : Value) : (set6 w g x0 x1 x2 x3 x4 x5).heap.size = w.heap.size := by unfold set6; simp
/-- What entry answers. -/
def EntPost (k : Int) (s : ByteArray) (n : Int) (zs : List Tv) (is : List Int) (w1 V : World) (r : Ending) (V' : World) : Prop :=
  ∃ e : En, e.z.t = .mk k s n (zs.map Tv.t) ∧ e.is = is ∧ r = .returned (.agg e.cells.toArray) ∧ Below V.heap.size V V' ∧ Lives (fun U => e.z.ok U ∧ Nums U (.slice e.a e.is.length e.c) e.is) w1 V V'
/-- What entry leaves, told by its parts. -/
theorem entry_end {k : Int} {s : ByteArray} {n : Int} {zs : List Tv} {is : List Int} {w1 V wb wr wc U1 : World} {au a2 : Option Addr} {cu c2 P : Nat} (hf : Fit k s n) (hzl : zs.length = is.length) (hl : is.length ≤ 300) (hPP : partsL (zs.map Tv.t) = P)
    (hBW : Below V.heap.size V wb) (hz : wb.heap.size = V.heap.size + 2) (hbr : Below wb.heap.size wb wr) (hbc : Below wr.heap.size wr wc) (hn : Below wc.heap.size wc U1)
    (hO : wr.ownsRow wb.heap.size 28 4 (.slice au is.length cu) is.length (rowTv zs)) (hok : ∀ x ∈ zs, x.ok w1)
    (ho : U1.ownsRow wc.heap.size 3 1 (.slice a2 is.length c2) is.length (is.map (Value.int .i64))) (hir : ∀ x ∈ is, -9223372036854775808 ≤ x ∧ x ≤ 9223372036854775807) (x0 x1 x2 x3 x4 x5 : Value) :
    EntPost k s n zs is w1 V (.returned (.agg #[.int .i64 k, .string s, .int .i64 n, .slice au is.length is.length, .slice a2 is.length c2, .int .i64 (1 + (P : Int))])) (set6 U1 (V.heap.size + 1) x0 x1 x2 x3 x4 x5) := by
  have hal : (zs.map Tv.t).length = is.length := by rw [List.length_map, hzl]
  have h1 : Below V.heap.size V wr := hBW.trans (hbr.mono hBW.size)
  have h2 : Below V.heap.size V wc := h1.trans (hbc.mono h1.size)
  have h3 : Below V.heap.size V U1 := h2.trans (hn.mono h2.size)
  have h4 : Below V.heap.size V (set6 U1 (V.heap.size + 1) x0 x1 x2 x3 x4 x5) := set6_below h3 (Nat.le_succ _) _ _ _ _ _ _
  have s1 := hbr.size
  have s2 := hbc.size
  have s3 := hn.size
  refine ⟨⟨⟨.mk k s n (zs.map Tv.t), au, is.length⟩, a2, c2, is⟩, rfl, rfl, ?_, h4, fun U hU hsz hbl => ?_⟩
  · simp only [En.cells, Tm.kind, Tm.name, Tm.n, Tm.args, Tm.parts, hal, hPP]
    rw [show ((P + 1 : Nat) : Int) = 1 + (P : Int) from by omega]
  · rw [set6_size] at hsz hbl
    have hblk : ∀ b, V.heap.size + 2 ≤ b → b < U1.heap.size → U.heap[b]? = U1.heap[b]? := fun b hb hlt => (hbl b (by omega) hlt).trans (set6_block _ _ _ _ _ _ _ _ (by omega))
    have e1 : U.ownsRow wb.heap.size 28 4 (.slice au is.length cu) is.length (rowTv zs) := own_where hO (fun b h5 h6 => by
      rw [hblk b (by omega) (by omega), hn.block b (by omega), hbc.block b h6])
    have e2 : U.ownsRow wc.heap.size 3 1 (.slice a2 is.length c2) is.length (is.map (Value.int .i64)) := own_where ho (fun b h5 h6 => hblk b (by omega) h6)
    refine ⟨⟨hf, ?_⟩, nums_of_own e2 hir⟩
    obtain ⟨a, c, hv, hA⟩ := (show OwnTv U U wb.heap.size (.slice au is.length cu) (zs.map Tv.t) from ⟨zs, rfl, fun x hx => (hok x hx).reads hU, by rw [hal]; exact e1⟩).tms (Below.refl _ _) (by rw [hal]; omega)
    rw [hal] at hv
    cases hv
    refine ⟨⟨by simp only [Tm.args, hal]; omega, by simp only [Tm.args, hal]; exact Nat.le_refl _⟩, hA.2⟩
theorem parts_take {zs : List Tv} {q : Nat} (h : q < zs.length) : partsL ((zs.take (q + 1)).map Tv.t) = partsL ((zs.take q).map Tv.t) + zs[q].t.parts := by
  rw [List.take_succ_eq_append_getElem h, List.map_append, partsL_append, List.map_cons, List.map_nil, partsL_cons, partsL_nil]; omega
theorem parts_take_le : ∀ (zs : List Tv) (q : Nat), partsL ((zs.take q).map Tv.t) ≤ partsL (zs.map Tv.t)
  | [], q => by simp
  | z :: r, 0 => by simp [partsL_nil]
  | z :: r, q + 1 => by
    rw [List.take_succ_cons, List.map_cons, List.map_cons, partsL_cons, partsL_cons]
    have := parts_take_le r q; omega
set_option maxRecDepth 100000 in
set_option maxHeartbeats 8000000 in
theorem entry_any (g m : Nat) (kv : Value) (k : Int) (s : ByteArray) (n : Int) (is : List Int) (ai : Option Addr) (ci : Nat) (zs : List Tv) (w1 V : World) (hf : Fit k s n) (hc1 : V.cell? ⟨g, 1, none⟩ = some kv) (hi : Nums V (.slice ai is.length ci) is)
    (hzl : zs.length = is.length) (hE : ∀ j (h : j < is.length) (h2 : j < zs.length), ∃ (i b c : Nat) (e : En), is[j] = (i : Int) ∧ i < m ∧ m ≤ 100000 ∧ EntAt V kv m i b c e ∧ e.z = zs[j]) (hok : ∀ x ∈ zs, x.ok w1) (hp : partsL (zs.map Tv.t) ≤ 300) :
    Calls Tryd.prog 44 #[.pointer (some ⟨g, 0, none⟩), .agg #[.int .i64 k, .string s, .int .i64 n, .slice ai is.length ci]] V (EntPost k s n zs is w1 V) := by
  obtain ⟨i0, hi0, hiz0, his0, hib0⟩ := info_parts termInfo
  have hl300 : is.length ≤ 300 := by
    have := partsL_length (zs.map Tv.t)
    rw [List.length_map, hzl] at this; omega
  have hNU := hi
  obtain ⟨ai', ci', he, _, _, _, hnn⟩ := hi
  obtain ⟨rfl, rfl⟩ : ai = ai' ∧ ci = ci' := by cases he; exact ⟨rfl, rfl⟩
  obtain ⟨wb, hwb⟩ : ∃ wb, wb = (V.alloc (.cells #[.int .i64 k, .string s, .int .i64 n, .slice ai is.length ci] 38)).alloc (.cells #[.int .i64 0, .string ⟨#[]⟩, .int .i64 0, .slice none 0 0, .slice none 0 0, .int .i64 0] 68) := ⟨_, rfl⟩
  have hz1 : (V.alloc (.cells #[.int .i64 k, .string s, .int .i64 n, .slice ai is.length ci] 38)).heap.size = V.heap.size + 1 := by simp
  have hzb : wb.heap.size = V.heap.size + 2 := by rw [hwb]; simp
  have hBW : Below V.heap.size V wb := by rw [hwb]; exact ((Below.refl _ _).alloc (Nat.le_refl _) _).alloc (by rw [hz1]; omega) _
  have bx : Box wb V.heap.size (.int .i64 k) (.string s) (.int .i64 n) (.slice ai is.length ci) := by rw [hwb]; exact (box_new V _ _ _ _ _).below ((Below.refl _ _).alloc (Nat.le_refl _) _) (by rw [hz1]; omega)
  have hgl := lt_of_cell hc1
  have HC1 := Lib.hid (fun (U : World) (h : Below wb.heap.size wb U) => (h.cell (p := ⟨g, 1, none⟩) (by show g < wb.heap.size; omega)).trans ((hBW.cell (p := ⟨g, 1, none⟩) hgl).trans hc1))
  have HN := Lib.hid (fun (U : World) (h : Below wb.heap.size wb U) (j : Nat) (hj : j < is.length) => (show ∃ b off, ai = some ⟨b, off, none⟩ ∧ U.cell? ⟨b, off + j, none⟩ = some (.int .i64 is[j]) from by
    rcases hnn with h0 | ⟨b, off, ha, hlt, hc⟩
    · rw [h0] at hj; simp at hj
    · exact ⟨b, off, ha, (h.cell (p := ⟨b, off + j, none⟩) (by show b < wb.heap.size; omega)).trans ((hBW.cell (p := ⟨b, off + j, none⟩) hlt).trans (hc j is[j] (List.getElem?_eq_getElem hj)))⟩))
  have HE := Lib.hid hE
  have bk : Box6 wb (V.heap.size + 1) (.int .i64 0) (.string ⟨#[]⟩) (.int .i64 0) (.slice none 0 0) (.slice none 0 0) (.int .i64 0) := by rw [hwb, ← hz1]; exact box6_new _ _ _ _ _ _ _ _
  have BK := Lib.hid (fun (U : World) (h : Below wb.heap.size wb U) => bk.below h (by omega))
  have BX := Lib.hid (fun (U : World) (h : Below wb.heap.size wb U) => bx.below h (by omega))
  have HBW := Lib.hid hBW
  have HZ := Lib.hid hzb
  have HNU := Lib.hid (hNU.below hBW)
  have HOK := Lib.hid hok
  have HF := Lib.hid hf
  have HPT := Lib.hid (fun q => parts_take_le zs q)
  have HP := Lib.hid hp
  have HZL := Lib.hid hzl
  obtain ⟨p0, p1, p2, p3, _, _, _, _⟩ := bx
  clear hnn he hz1 hBW hzb hc1 hE hNU hok hf bk
  go_enter Tryd.func44, Tryd.ntmps44
  go_wp2_with fail
  rw [← hwb]
  clear hwb
  go_loopw [5, 6, 13] (fun u z i wr => ∃ q : Nat, q ≤ is.length ∧ i = .int .i64 q ∧ z = .int .i64 ((1 + partsL ((zs.take q).map Tv.t) : Nat) : Int) ∧ Hid (wr.ownsRow wb.heap.size 28 4 u q (rowTv (zs.take q))) ∧ Hid (Below wb.heap.size wb wr)) (fun _ _ i _ => is.length - (intOf i).toNat)
  case atStart => exact ⟨0, Nat.zero_le _, rfl, by simp [partsL_nil], Lib.hid (by rw [List.take_zero]; exact World.ownsRow_nil _ _ _ _), Lib.hid (Below.refl _ _)⟩
  case round =>
    obtain ⟨q, hq, rfl, rfl, HO, HB⟩ := hrel
    by_cases hql : q < is.length
    · have hqz : q < zs.length := by rw [HZL.out]; exact hql
      have hi : (q : Int) < (is.length : Int) := by omega
      have hq0 : (0 : Int) ≤ (q : Int) := by omega
      obtain ⟨b, off, rfl, d0⟩ := HN.out wr HB.out q hql
      obtain ⟨i, b2, c2, e, hie, him, hm, hEA, hez⟩ := HE.out q hql hqz
      have HEA := Lib.hid (hEA.below HBW.out)
      have hEA1 := HEA.out.below HB.out
      clear hEA
      have hx1 := HC1.out wr HB.out
      have hPq := HPT.out q
      have hPq1 := HPT.out (q + 1)
      have hP0 := HP.out
      rw [parts_take hqz] at hPq1
      rw [← hez] at hPq1
      obtain ⟨⟨t, za, zc⟩, ea, ec, eis⟩ := e
      obtain ⟨rfl, x0, x1, x2, x3, _, x5⟩ := hEA1
      simp only at x0 x1 x2 x3 x5 hPq1
      rw [hie] at d0
      have HEZ := Lib.hid hez
      have HIE := Lib.hid hie
      obtain ⟨P, hPP⟩ : ∃ P, partsL ((zs.take q).map Tv.t) = P := ⟨_, rfl⟩
      rw [hPP] at hPq1 hPq ⊢
      have HPP := Lib.hid hPP
      have hi9 : (i : Int) < (m : Int) := by omega
      have hi90 : (0 : Int) ≤ (i : Int) := by omega
      have hblt := lt_of_cell x0
      have hglt := lt_of_cell hx1
      have hblt1 : b2 < wr.heap.size + 1 := by omega
      have hglt1 : g < wr.heap.size + 1 := by omega
      have HN1 := Lib.hid (show ∀ (j : Nat) (u : Value), ([Value.int .i64 t.kind, .string t.name, .int .i64 t.n, .slice za t.args.length zc] : List Value)[j]? = some u → (wr.alloc (.cells #[.int .i64 t.kind, .string t.name, .int .i64 t.n, .slice za t.args.length zc] 28)).cell? ((⟨wr.heap.size, 0, none⟩ : Addr).add j) = some u from new_row4 wr _ rfl _ _ _ _ _)
      have hsz : wb.heap.size ≤ (wr.alloc (.cells #[.int .i64 t.kind, .string t.name, .int .i64 t.n, .slice za t.args.length zc] 28)).heap.size := by have := HB.out.size; simp; omega
      have hm1 : q + 1 ≤ maxLen := by unfold maxLen; omega
      have hm2 : (q + 1) * 56 ≤ 140737488355328 := by omega
      obtain ⟨au, cu, rfl, _⟩ := own_shape HO.out
      have hb9 : Below wb.heap.size wb (wr.alloc (.cells #[.int .i64 t.kind, .string t.name, .int .i64 t.n, .slice za t.args.length zc] 28)) := HB.out.alloc HB.out.size _
      have HB9 := Lib.hid hb9
      clear hez hie hPP hb9
      go_wp2_with (at_builtin; refine wpList_append_own_at _ rfl _ _ 22 rfl wb.heap.size 28 i0 (.agg #[.int .i64 0, .string ⟨#[]⟩, .int .i64 0, .slice none 0 0]) 4 56 Tryd.underlying22 hi0 hiz0 his0 hib0 rfl (by decide) _ q _ rfl (HO.out.alloc _) ⟨wr.heap.size, 0, none⟩ 1 1 [Value.int .i64 t.kind, .string t.name, .int .i64 t.n, .slice za t.args.length zc] rfl rfl HN1.out (by simp [Value.oneCell']) hm1 hm2 hsz ?_; intro v7 w7 hown7 hg7 _ hat7; have HO7 := Lib.hid hown7; have HB7 := Lib.hid (HB9.out.grown hg7 hsz (fun g hg => own_base HO.out g hg)); have hx7 := HC1.out w7 HB7.out; obtain ⟨_, _, _, _, _, _, y5⟩ := HEA.out.below HB7.out; simp only at y5; clear hown7 hg7 hat7)
      go_roundw
      case rel =>
        refine ⟨q + 1, by omega, by go_num, ?_, Lib.hid ?_, HB7⟩
        · have e9 : partsL ((zs.take (q + 1)).map Tv.t) = P + t.parts := by rw [parts_take hqz, ← HEZ.out, HPP.out]
          rw [e9]; exact congrArg (Value.int .i64) (by omega)
        · rw [List.take_succ_eq_append_getElem hqz, rowTv_append, rowTv_one, ← HEZ.out]
          exact HO7.out
      case measure => simp [intOf]; omega
    · obtain rfl : q = is.length := by omega
      have hzs : zs.take is.length = zs := List.take_of_length_le (by rw [HZL.out]; exact Nat.le_refl _)
      rw [hzs] at HO ⊢
      obtain ⟨au, cu, rfl, _⟩ := own_shape HO.out
      obtain ⟨P, hPP⟩ : ∃ P, partsL (zs.map Tv.t) = P := ⟨_, rfl⟩
      rw [hPP] at hp ⊢
      have HPP := Lib.hid hPP
      clear hPP p0 p1 p2 p3 hzs
      have KEEP := Lib.hid (fun (U : World) (h : Below wb.heap.size wb U) => (show U.cell? ⟨V.heap.size, 0, none⟩ = some (.int .i64 k) ∧ U.cell? ⟨V.heap.size, 1, none⟩ = some (.string s) ∧ U.cell? ⟨V.heap.size, 2, none⟩ = some (.int .i64 n) ∧ U.cell? ⟨V.heap.size, 3, none⟩ = some (.slice ai is.length ci) from
        ⟨(BX.out U h).c0, (BX.out U h).c1, (BX.out U h).c2, (BX.out U h).c3⟩))
      have CL := Lib.hid (fun (U : World) (h : Below wr.heap.size wr U) => (clip_own (own_where HO.out (fun b _ hb => h.block b hb))).mono fun e U' hh => (show e = .returned (.slice au is.length is.length) ∧ U' = U from hh))
      have hd : Below wr.heap.size wr wr.drew := (Below.refl _ _).drew
      have HDA := Lib.hid (fun o : Obj => (show Below wr.heap.size wr (wr.alloc o).drew from ((Below.refl _ _).alloc (Nat.le_refl _) _).drew))
      have HDB := Lib.hid (fun o : Obj => (show Below wr.heap.size wr (wr.drew.alloc o) from (Below.refl _ _).drew.alloc (Nat.le_refl _) _))
      go_wp2_with fail
      go_region_held3 (fun U => U.cell? ⟨V.heap.size, 0, none⟩ = some (.int .i64 k) ∧ U.cell? ⟨V.heap.size, 1, none⟩ = some (.string s) ∧ U.cell? ⟨V.heap.size, 2, none⟩ = some (.int .i64 n) ∧ U.cell? ⟨V.heap.size, 3, none⟩ = some (.slice ai is.length ci)) (first | exact KEEP.out _ (HB.out.trans (Below.mono (by assumption) HB.out.size)) | exact KEEP.out _ (HB.out.trans (Below.mono (HDA.out _) HB.out.size)) | exact KEEP.out _ (HB.out.trans (Below.mono (HDB.out _) HB.out.size)))
        ((first
          | (go_at_call 52; refine (CL.out _ (by first | assumption | exact HDA.out _ | exact HDB.out _)).mono ?_; rintro e U1 ⟨rfl, rfl⟩)))
      all_goals (
        clear KEEP CL HDA HDB hd
        obtain ⟨wc, hwc⟩ : ∃ wc, wc = (wr.alloc (.cells #[.int .i64 k, .string s, .int .i64 n, .slice au is.length is.length] 28)).drew := ⟨_, rfl⟩
        have hzc : wc.heap.size = wr.heap.size + 1 := by rw [hwc]; simp
        have hbc : Below wr.heap.size wr wc := by rw [hwc]; exact ((Below.refl _ _).alloc (Nat.le_refl _) _).drew
        have bt : Box wc wr.heap.size (.int .i64 k) (.string s) (.int .i64 n) (.slice au is.length is.length) := by rw [hwc]; exact (box_new wr (.int .i64 k) (.string s) (.int .i64 n) (.slice au is.length is.length) 28).below ((Below.refl _ _).drew) (by have h := hzc; rw [hwc] at h; exact Nat.lt_of_lt_of_eq (Nat.lt_succ_self _) h.symm)
        have hB := HB.out.trans (hbc.mono HB.out.size)
        have hbsz := HB.out.size
        have hz := HZ.out
        have HBC := Lib.hid hbc
        have HBB := Lib.hid hB
        have HZC := Lib.hid hzc
        have KEEP := Lib.hid (fun (U : World) (h : Below wc.heap.size wc U) => (show (U.cell? ⟨wr.heap.size, 0, none⟩ = some (.int .i64 k) ∧ U.cell? ⟨wr.heap.size, 1, none⟩ = some (.string s) ∧ U.cell? ⟨wr.heap.size, 2, none⟩ = some (.int .i64 n) ∧ U.cell? ⟨wr.heap.size, 3, none⟩ = some (.slice au is.length is.length)) ∧ U.cell? ⟨V.heap.size, 3, none⟩ = some (.slice ai is.length ci) from
          ⟨⟨(bt.below h (by omega)).c0, (bt.below h (by omega)).c1, (bt.below h (by omega)).c2, (bt.below h (by omega)).c3⟩, (BX.out U (hB.trans (h.mono hB.size))).c3⟩))
        have KEEP2 := Lib.hid (fun (U : World) (h : Below wc.heap.size wc U) (x0 x1 x2 x3 x4 x5 : Value) => (show ((set6 U (V.heap.size + 1) x0 x1 x2 x3 x4 x5).cell? ⟨wr.heap.size, 0, none⟩ = some (.int .i64 k) ∧ (set6 U (V.heap.size + 1) x0 x1 x2 x3 x4 x5).cell? ⟨wr.heap.size, 1, none⟩ = some (.string s) ∧ (set6 U (V.heap.size + 1) x0 x1 x2 x3 x4 x5).cell? ⟨wr.heap.size, 2, none⟩ = some (.int .i64 n) ∧ (set6 U (V.heap.size + 1) x0 x1 x2 x3 x4 x5).cell? ⟨wr.heap.size, 3, none⟩ = some (.slice au is.length is.length)) ∧ (set6 U (V.heap.size + 1) x0 x1 x2 x3 x4 x5).cell? ⟨V.heap.size, 3, none⟩ = some (.slice ai is.length ci) from by
          obtain ⟨⟨h0, h1, h2, h3⟩, h4⟩ := KEEP.out U h
          have n1 : wr.heap.size ≠ V.heap.size + 1 := by omega
          have n2 : V.heap.size ≠ V.heap.size + 1 := by omega
          exact ⟨⟨(set6_cell _ _ _ _ _ _ _ _ n1).trans h0, (set6_cell _ _ _ _ _ _ _ _ n1).trans h1, (set6_cell _ _ _ _ _ _ _ _ n1).trans h2, (set6_cell _ _ _ _ _ _ _ _ n1).trans h3⟩, (set6_cell _ _ _ _ _ _ _ _ n2).trans h4⟩))
        have CP := Lib.hid (fun (U : World) (h : Below wc.heap.size wc U) => (copied_any ai ci is U (HNU.out.below (HBB.out.trans (h.mono HBB.out.size))) (by omega)).mono fun e U' hh => (show ∃ a2 c2, e = .returned (.slice a2 is.length c2) ∧ U'.ownsRow wc.heap.size 3 1 (.slice a2 is.length c2) is.length (is.map (Value.int .i64)) ∧ Below wc.heap.size wc U' ∧ Box6 U' (V.heap.size + 1) (.int .i64 0) (.string ⟨#[]⟩) (.int .i64 0) (.slice none 0 0) (.slice none 0 0) (.int .i64 0) by
          obtain ⟨a2, c2, h1, h2, h3⟩ := hh
          have h4 := below_next h h3
          exact ⟨a2, c2, h1, own_lower h2 h.size, h4, BK.out U' (HBB.out.trans (h4.mono HBB.out.size))⟩))
        have hd : Below wc.heap.size wc wc.drew := (Below.refl _ _).drew
        have HEND := Lib.hid (fun (a2 : Option Addr) (c2 : Nat) (U1 : World) (ho : U1.ownsRow wc.heap.size 3 1 (.slice a2 is.length c2) is.length (is.map (Value.int .i64))) (hn : Below wc.heap.size wc U1) (x0 x1 x2 x3 x4 x5 : Value) =>
          (show EntPost k s n zs is w1 V (.returned (.agg #[.int .i64 k, .string s, .int .i64 n, .slice au is.length is.length, .slice a2 is.length c2, .int .i64 (1 + (P : Int))])) (set6 U1 (V.heap.size + 1) x0 x1 x2 x3 x4 x5) from by
            exact entry_end HF.out HZL.out hl300 HPP.out HBW.out HZ.out HB.out HBC.out hn HO.out HOK.out ho (fun x hx => HNU.out.range x hx) x0 x1 x2 x3 x4 x5))
        clear bt hbc hB hzc hbsz BX BK HNU
        rw [← hwc]
        clear hwc
        go_wp2_with fail
        go_region_held3 (fun U => (U.cell? ⟨wr.heap.size, 0, none⟩ = some (.int .i64 k) ∧ U.cell? ⟨wr.heap.size, 1, none⟩ = some (.string s) ∧ U.cell? ⟨wr.heap.size, 2, none⟩ = some (.int .i64 n) ∧ U.cell? ⟨wr.heap.size, 3, none⟩ = some (.slice au is.length is.length)) ∧ U.cell? ⟨V.heap.size, 3, none⟩ = some (.slice ai is.length ci)) (first | exact KEEP.out _ (by assumption) | exact KEEP2.out _ (by assumption) _ _ _ _ _ _)
          ((first
            | (go_at_call 38; refine (CP.out _ (by assumption)).mono ?_; rintro e U1 ⟨a2, c2, rfl, ho1, hn1, r0, r1, r2, r3, r4, r5, s0, s1, s2, s3, s4, s5⟩)))
        go_wp2_with fail
        refine bodyPost_ret (v := .agg #[.int .i64 k, .string s, .int .i64 n, .slice au is.length is.length, .slice a2 is.length c2, .int .i64 (1 + (P : Int))]) (by simp [results, Tryd.results44, go_sem, r0, r1, r2, r3, r4, r5]) rfl ?_
        exact HEND.out a2 c2 U1 ho1 hn1 _ _ _ _ _ _)
end Go.Proofs.YtccpfgpdcicjaaaDoor
