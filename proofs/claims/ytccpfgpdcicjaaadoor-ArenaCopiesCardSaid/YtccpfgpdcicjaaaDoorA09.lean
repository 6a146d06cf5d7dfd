/-
  A node's number, by the program's Node: what is there is found, what is not there is added.
-/
import Derived.Test.YtccpfgpdcicjaaaDoorA06
import Derived.Test.YtccpfgpdcicjaaaDoorA08
import Derived.Test.YtccpfgpdcicjaaaDoorA05
namespace Go.Proofs.YtccpfgpdcicjaaaDoor
open Go.RowKit Go.Maps

theorem zeroInt (w : World) : (zeroValue 3).run Tryd.prog w = .ok (.int .i64 0) w := by kernel_rfl
/-- What the table tells of a key. -/
theorem tab_look {W : World} {bm n : Nat} {D : DataW Unit} {key : Value} {kl : Lit} {c : Int} {b : Bool} (h : W.ownsMap Tryd.prog 75 (plainElem Tryd.prog 3) bm n D) (hk : keyOf Tryd.prog 75 key = some kl) (hb : has D kl = b) (hc : D.atKey kl (.lit (.int .i64 0)) = .lit (.int .i64 c)) :
    (Instr.lookup 61 (.map (some bm)) key true).run Tryd.prog W = .ok (.tuple #[.int .i64 c, .bool b]) W := by
  obtain ⟨v, ps, hrun, hv⟩ := h.look_ok keyed_node Tryd.underlying61 (zeroInt W) (plainElem_int Tryd.underlying3 (by decide)) hk
  obtain ⟨c2, rfl, h2, _⟩ := plainElem_int_inv Tryd.underlying3 hv
  rw [hc] at h2
  simp only [Prod.mk.injEq, DataW.lit.injEq, Lit.int.injEq, true_and] at h2
  rw [hrun, hb, h2.1]
theorem idx_back {L : List Tm} (ho : Ord L) {is : List Int} (hin : ∀ i ∈ is, InR L i) : is = ((getsT L is).map (idxT L)).map fun i : Nat => (i : Int) := by
  unfold getsT
  rw [List.map_map, List.map_map]
  conv => lhs; rw [← List.map_id is]
  refine List.map_congr_left fun i hi => ?_
  obtain ⟨h0, h1⟩ := hin i hi
  have hlt : i.toNat < L.length := by omega
  show i = ((idxT L (L.getD i.toNat default) : Nat) : Int)
  rw [List.getD_eq_getElem?_getD, List.getElem?_eq_getElem hlt]
  show i = ((idxT L L[i.toNat] : Nat) : Int)
  rw [ho.idx hlt]; omega

theorem own_form9 {w : World} {base : Nat} {e : TypeId} {size n : Nat} {v : Value} {xs : List Value} (h : w.ownsRow base e size v n xs) : ∃ a c, v = .slice a n c := by
  obtain ⟨a, c, h, _⟩ := own_shape h; exact ⟨a, c, h⟩
theorem entryInfo : (Tryd.prog.info? 68).map (fun i => (i.zero, i.size, i.bytes)) = some (some (.agg #[.int .i64 0, .string ⟨#[]⟩, .int .i64 0, .slice none 0 0, .slice none 0 0, .int .i64 0]), 6, 88) := by kernel_rfl
theorem idxT_snoc {L : List Tm} {T : Tm} (h : T ∉ L) : idxT (L ++ [T]) T = L.length := by
  refine idxT_first (by simp) (fun j hj e => ?_)
  rw [List.getElem?_append_left hj] at e
  exact h (List.mem_of_getElem? e)
set_option maxRecDepth 100000 in
set_option maxHeartbeats 4000000 in
theorem pnode_any {C : Nat → Prop} {w0 W : World} {p : Value} {L : List Tm} (hA : AR C w0 W p L) (k : Int) (s : ByteArray) (n : Int) (is : List Int) (ai : Option Addr) (ci : Nat) (hf : Fit k s n) (hname : s.size ≤ 100) (hi : Nums W (.slice ai is.length ci) is) (hin : ∀ i ∈ is, InR L i)
    (hp : (Tm.mk k s n (getsT L is)).parts ≤ 300) (hL : L.length + 1 ≤ 1200) (T : Tm) (hT : T = .mk k s n (getsT L is)) :
    Calls Tryd.prog 21 #[p, .agg #[.int .i64 k, .string s, .int .i64 n, .slice ai is.length ci]] W (ArPost AR C w0 W p (addT L T) fun e _ => e = .returned (.tuple #[.int .i64 (numT (addT L T) T), .bool true])) := by
  have hA2 := hA
  obtain ⟨F, g, bm, kv, es, D, rfl, hm, hs⟩ := hA
  have hTa : ∀ x ∈ T.args, x ∈ L := by rw [hT]; exact getsT_mem hin
  have hTl : T.args.length = is.length := by rw [hT]; exact getsT_length L is
  have hT1 : Few1 T := by rw [hT]; exact ⟨hf, hname, hp⟩
  have hTk : T.kind = k ∧ T.name = s ∧ T.n = n := by rw [hT]; exact ⟨rfl, rfl, rfl⟩
  have his : is = (argN L T).map fun i : Nat => (i : Int) := by
    unfold argN; rw [hT]; exact idx_back hs.ord hin
  have hal : (argN L T).length = is.length := by unfold argN; rw [List.length_map, hTl]
  have hfine := hT1.fine hs.few
  have h300 : is.length ≤ 300 := by rw [← hTl]; exact hfine.args
  have hkey := hfine.key
  rw [hTk.1, hTk.2.1, hTk.2.2] at hkey
  obtain ⟨tx, htx⟩ : ∃ tx, tx = (⟨(numsL (argN L T)).toArray⟩ : ByteArray) := ⟨_, rfl⟩
  have KO := Lib.hid (fun (V : World) (h : Below W.heap.size W V) => (show Calls Tryd.prog 43 #[.agg #[.int .i64 k, .string s, .int .i64 n, .slice ai is.length ci]] V fun e V' => e = .returned (.agg #[.int .i64 k, .int .i64 n, .string s, .string tx]) ∧ Below W.heap.size W V' ∧ Below V.heap.size V V' from by
    have h1 : Nums V (.slice ai (argN L T).length ci) ((argN L T).map fun i : Nat => (i : Int)) := by rw [← his, hal]; exact hi.below h
    have h2 := keyOf_any k s n (argN L T) ai ci V (hs.pow.below h) h1 (by omega) (fun i hi => by have := argN_le L T i hi; have := hs.few; omega)
    rw [hal] at h2
    refine h2.mono ?_; rintro e V' ⟨rfl, hb⟩
    exact ⟨by rw [htx]; rfl, below_next h hb, hb⟩))
  have HTX := Lib.hid htx
  clear htx
  have hh := hm.head
  have hgl := (hs.own g hs.cg).1
  have HH := Lib.hid (fun (V : World) (h : Below W.heap.size W V) => (show Head V g bm kv from ⟨(h.cell (p := ⟨g, 0, none⟩) hgl).trans hh.c0, (h.cell (p := ⟨g, 1, none⟩) hgl).trans hh.c1⟩))
  obtain ⟨ak, ck, rfl, hak⟩ := own_shape hm.row
  have MD := Lib.hid (fun (V : World) (h : Below W.heap.size W V) => made_any g bm _ V (HH.out V h))
  have LN := Lib.hid (fun (V : World) (h : Below W.heap.size W V) => len_any g bm ak L.length ck V (HH.out V h))
  have HL := Lib.hid (fun (V : World) (h : Below W.heap.size W V) => has_lacks g bm ak L.length ck ai ci is V (HH.out V h) (hi.below h) false (by
    constructor
    · intro h; cases h
    · intro h; exact absurd (fun i hi => hin i hi) h))
  have hz1 : (W.alloc (.cells #[.int .i64 k, .string s, .int .i64 n, .slice ai is.length ci] 38)).heap.size = W.heap.size + 1 := by simp
  have hb1 : Below W.heap.size W (W.alloc (.cells #[.int .i64 k, .string s, .int .i64 n, .slice ai is.length ci] 38)) := (Below.refl _ _).alloc (Nat.le_refl _) _
  have bx := box_new W (.int .i64 k) (.string s) (.int .i64 n) (.slice ai is.length ci) 38
  obtain ⟨wa, hwa⟩ : ∃ wa, wa = W.alloc (.cells #[.int .i64 k, .string s, .int .i64 n, .slice ai is.length ci] 38) := ⟨_, rfl⟩
  rw [← hwa] at hz1 hb1 bx
  have BX := Lib.hid (fun (V : World) (h : Below wa.heap.size wa V) => bx.below h (by omega))
  have HB1 := Lib.hid hb1
  have HZ1 := Lib.hid hz1
  have HMAP := Lib.hid (fun (V : World) (h : Below W.heap.size W V) => map_same hm.map (h.block bm (hs.own bm hs.cb).1))
  have HKEY := Lib.hid hkey
  have ENDIN := Lib.hid (fun (hin : T ∈ L) (V : World) (h : Below W.heap.size W V) => (show ArPost AR C w0 W (.pointer (some ⟨g, 0, none⟩)) (addT L T) (fun e _ => e = .returned (.tuple #[.int .i64 (numT (addT L T) T), .bool true])) (.returned (.tuple #[.int .i64 (idxT L T), .bool true])) V from by
    rw [addT_in hin, numT_in hin]; exact ar_post (R := fun e _ => e = .returned (.tuple #[.int .i64 (idxT L T : Int), .bool true])) hA2 h rfl))
  obtain ⟨p0, p1, p2, p3, _, _, _, _⟩ := bx
  subst hwa
  by_cases hTin : T ∈ L
  · obtain ⟨t1, t2⟩ := hm.tab.in_ hTin
    have LOOK := Lib.hid (fun (V : World) (h : Below W.heap.size W V) => tab_look (HMAP.out V h) HKEY.out t1 t2)
    unfold keyV at LOOK
    rw [← HTX.out] at LOOK
    have END := Lib.hid (ENDIN.out hTin)
    clear hm hs hA2 hTa hTl hT1 hTk his hal hfine hkey hh hi hin hp hT hak t1 t2 ENDIN hf hname
    go_enter Tryd.func21, Tryd.ntmps21
    go_wp2_with fail
    refine (MD.out _ HB1.out).mono ?_; rintro e w1 ⟨rfl, rfl⟩
    go_wp2_with fail
    refine (HL.out _ HB1.out).mono ?_; rintro e w1 ⟨rfl, rfl⟩
    go_wp2_with fail
    refine (KO.out _ HB1.out).mono ?_; rintro e w2 ⟨rfl, hb2, hb2a⟩
    have hb3 : Below W.heap.size W (w2.alloc (.cells #[.int .i64 k, .int .i64 n, .string s, .string tx] 75)) := hb2.alloc hb2.size _
    have hz3 : (w2.alloc (.cells #[.int .i64 k, .int .i64 n, .string s, .string tx] 75)).heap.size = w2.heap.size + 1 := by simp
    have hs2 := hb2.size
    have hg2 : g < w2.heap.size := by omega
    have hg21 : g < w2.heap.size + 1 := by omega
    have hlk := LOOK.out _ hb3.drew
    obtain ⟨x0, x1⟩ := HH.out _ hb2
    obtain ⟨y0, y1, y2, y3, _, _, _, _⟩ := box_new w2 (.int .i64 k) (.int .i64 n) (.string s) (.string tx) 75
    have HB3 := Lib.hid hb3
    have HB3A := Lib.hid (hb2a.alloc hb2a.size (.cells #[.int .i64 k, .int .i64 n, .string s, .string tx] 75)).drew
    clear hb2 hb2a hb3
    go_wp2_with fail
    go_region
    go_wp2_with fail
    go_ret2
    exact END.out _ HB3.out.drew
  · have t1 := hm.tab.out hs.ord (fun x hx => (hs.few1 x hx).fine hs.few) hfine hTa hTin
    have t2 := atKey_of_not_has t1 (.lit (.int .i64 0))
    have LOOK := Lib.hid (fun (V : World) (h : Below W.heap.size W V) => tab_look (HMAP.out V h) HKEY.out t1 t2)
    unfold keyV at LOOK
    rw [← HTX.out] at LOOK
    have ADD := Lib.hid (fun (w4 w5 w6 w7 : World) (e : En) (v7 : Value) (o : Obj) => ar_add (w4 := w4) (w5 := w5) (w6 := w6) (w7 := w7) (e := e) (v7 := v7) (o := o) hm hs hT1 hTa hTin hL)
    have EN := Lib.hid (fun (V : World) (hV : ∀ j, j < W.heap.size → j ≠ bm → V.heap[j]? = W.heap[j]?) (hVs : W.heap.size ≤ V.heap.size) => entry_in hm hs hi hin k s n hf hp V hV hVs)
    have HROW := Lib.hid hm.row
    have HLEN := Lib.hid hm.len
    have HIS := Lib.hid his
    have HTE := Lib.hid hT
    have HNI := Lib.hid hTin
    have HBL := Lib.hid (hs.own bm hs.cb).1
    have HGB := Lib.hid (show g ≠ bm from fun h => by
      obtain ⟨en, clock, hh2, _⟩ := hm.map
      have := hm.c0
      rw [h] at this
      simp [World.cell?, hh2] at this)
    have HKB := Lib.hid (show (Value.slice ak L.length ck).ownBlock ≠ some bm from fun h => by
      obtain ⟨cur, hh2⟩ := own_block hm.row h
      obtain ⟨en, clock, hh3, _⟩ := hm.map
      rw [hh2] at hh3; cases hh3)
    have HFR := Lib.hid hm.f1
    have HKL := Lib.hid (fun b hb => (hs.own b (hs.ck b hb)).1)
    have HGK := Lib.hid hm.gk
    obtain ⟨i0, hi0, hiz0, his0, hib0⟩ := info_parts entryInfo
    clear hm hs hA2 hTa hTl hT1 hTk his hal hfine hkey hh hi hin hp hT hak t1 t2 ENDIN hf hname hTin
    go_enter Tryd.func21, Tryd.ntmps21
    go_wp2_with fail
    refine (MD.out _ HB1.out).mono ?_; rintro e w1 ⟨rfl, rfl⟩
    go_wp2_with fail
    refine (HL.out _ HB1.out).mono ?_; rintro e w1 ⟨rfl, rfl⟩
    go_wp2_with fail
    refine (KO.out _ HB1.out).mono ?_; rintro e w2 ⟨rfl, hb2, hb2a⟩
    have hb3 : Below W.heap.size W (w2.alloc (.cells #[.int .i64 k, .int .i64 n, .string s, .string tx] 75)) := hb2.alloc hb2.size _
    have hz3 : (w2.alloc (.cells #[.int .i64 k, .int .i64 n, .string s, .string tx] 75)).heap.size = w2.heap.size + 1 := by simp
    have hs2 := hb2.size
    have hg2 : g < w2.heap.size := by omega
    have hg21 : g < w2.heap.size + 1 := by omega
    have hlk := LOOK.out _ hb3.drew
    obtain ⟨x0, x1⟩ := HH.out _ hb2
    obtain ⟨y0, y1, y2, y3, _, _, _, _⟩ := box_new w2 (.int .i64 k) (.int .i64 n) (.string s) (.string tx) 75
    have HB3 := Lib.hid hb3
    have HB3A := Lib.hid (hb2a.alloc hb2a.size (.cells #[.int .i64 k, .int .i64 n, .string s, .string tx] 75)).drew
    clear hb2 hb2a hb3
    go_wp2_with fail
    go_region
    go_wp2_with fail
    obtain ⟨w4, hw4⟩ : ∃ w4, w4 = (w2.alloc (.cells #[.int .i64 k, .int .i64 n, .string s, .string tx] 75)).drew := ⟨_, rfl⟩
    have hb4 : Below W.heap.size W w4 := by rw [hw4]; exact HB3.out.drew
    have hba4 := HB3A.out
    rw [← hw4] at hba4
    have hk4 : Box w4 w2.heap.size (.int .i64 k) (.int .i64 n) (.string s) (.string tx) := by
      have hb9 : Below (w2.alloc (.cells #[.int .i64 k, .int .i64 n, .string s, .string tx] 75)).heap.size (w2.alloc (.cells #[.int .i64 k, .int .i64 n, .string s, .string tx] 75)) w4 := by rw [hw4]; exact (Below.refl _ _).drew
      exact (box_new w2 (.int .i64 k) (.int .i64 n) (.string s) (.string tx) 75).below hb9 (by rw [hz3]; omega)
    have hx4 := BX.out w4 hba4
    have hh4 := HH.out w4 hb4
    have hWF : (Lit.int .i64 (L.length : Int)).wf = true := WalkArith.wf_i64 (by omega)
    have hown4 := (HMAP.out w4 hb4).drew
    obtain ⟨w5, hrun, hown5, hg5⟩ := hown4.update keyed_node Tryd.underlying61 (by unfold maxLen; omega) HKEY.out (plainElem_int Tryd.underlying3 hWF)
    unfold keyV at hrun
    rw [← HTX.out] at hrun
    have hbl := HBL.out
    have hgb := HGB.out
    have s4 := hb4.size
    have s4a := hba4.size
    rw [HZ1.out] at s4a
    have hst5 : ∀ j, j < w4.heap.size → j ≠ bm → w5.heap[j]? = w4.heap[j]? := fun j hj h => hg5.block j hj (fun e => h (Option.some.inj e))
    have s5 : w4.heap.size ≤ w5.heap.size := hg5.size
    have hg5w := hst5 g (by omega) hgb
    have c1 : w5.cell? ⟨g, 1, none⟩ = some (.slice ak L.length ck) := (World.cell?_of_block (a := ⟨g, 1, none⟩) hg5w).trans hh4.c1
    have hb5w := hst5 W.heap.size (by omega) (by omega)
    have p0 : w5.cell? ⟨W.heap.size, 0, none⟩ = some (.int .i64 k) := (World.cell?_of_block (a := ⟨W.heap.size, 0, none⟩) hb5w).trans hx4.c0
    have p1 : w5.cell? ⟨W.heap.size, 1, none⟩ = some (.string s) := (World.cell?_of_block (a := ⟨W.heap.size, 1, none⟩) hb5w).trans hx4.c1
    have p2 : w5.cell? ⟨W.heap.size, 2, none⟩ = some (.int .i64 n) := (World.cell?_of_block (a := ⟨W.heap.size, 2, none⟩) hb5w).trans hx4.c2
    have p3 : w5.cell? ⟨W.heap.size, 3, none⟩ = some (.slice ai is.length ci) := (World.cell?_of_block (a := ⟨W.heap.size, 3, none⟩) hb5w).trans hx4.c3
    have EN5 := Lib.hid (EN.out w5.drew (fun j hj h => (hst5 j (by omega) h).trans (hb4.block j hj)) (by show W.heap.size ≤ w5.heap.size; omega))
    have HR5 := Lib.hid (own_same (own_where HROW.out (W := w4) (fun b _ hb => hb4.block b hb)) (W := w5) (fun b hb => hst5 b (by have := HKL.out b hb; omega) (fun e => HKB.out (by rw [← e]; exact hb))))
    have HC1 := Lib.hid (fun (V : World) (h : Below w5.heap.size w5 V) => (show V.cell? ⟨g, 1, none⟩ = some (.slice ak L.length ck) ∧ V.frozen? ⟨g, 1, none⟩ = false from
      ⟨(h.cell (p := ⟨g, 1, none⟩) (by show g < w5.heap.size; omega)).trans c1, by
        have e1 : V.heap[g]? = W.heap[g]? := (h.block g (by omega)).trans (hg5w.trans (hb4.block g hgl))
        exact (World.frozen?_of_block (a := ⟨g, 1, none⟩) e1).trans HFR.out⟩))
    have HC7 := Lib.hid (fun (w6 w7 : World) (o : Obj) (h6 : Below w5.heap.size w5 w6) (hg : (w6.alloc o).grownBy w7 (Value.slice ak L.length ck).ownBlock) => (show w7.cell? ⟨g, 1, none⟩ = some (.slice ak L.length ck) ∧ w7.frozen? ⟨g, 1, none⟩ = false from by
      have hl6 : g < w6.heap.size := by have := h6.size; omega
      have e1 : w7.heap[g]? = w6.heap[g]? := (hg.block g (by simp; omega) (fun e => HGK.out e.symm)).trans (Below.heap_alloc _ _ _ hl6)
      obtain ⟨h1, h2⟩ := HC1.out w6 h6
      exact ⟨(World.cell?_of_block (a := ⟨g, 1, none⟩) e1).trans h1, (World.frozen?_of_block (a := ⟨g, 1, none⟩) e1).trans h2⟩))
    have HOWN5 := Lib.hid hown5
    have HG5 := Lib.hid (show w4.grownBy w5 (some bm) from ⟨hg5.os, hg5.tape, hg5.output, hg5.size, hg5.block⟩)
    have HB4 := Lib.hid hb4
    have HS5 := Lib.hid s5
    have HGL5 := Lib.hid (show g < w5.heap.size by omega)
    obtain ⟨k0, k1, k2, k3, _, _, _, _⟩ := hk4
    obtain ⟨z0, z1⟩ := hh4
    have hgw4 : g < w4.heap.size := by omega
    have hgw5 : g < w5.heap.size := by omega
    have hWw5 : W.heap.size < w5.heap.size := by omega
    have HM1 := Lib.hid (show L.length + 1 ≤ maxLen by unfold maxLen; omega)
    have HM2 := Lib.hid (show (L.length + 1) * 88 ≤ 140737488355328 by omega)
    rw [← hw4]
    clear hz3 hw4 hba4 hx4 hown4 hown5 hg5 hst5 hg5w hb5w hb4 HB3A HB3 s4 s4a s5 hg2 hg21 y0 y1 y2 y3 x0 x1 hlk hgb hbl hs2
    refine (LN.out _ HB4.out).mono ?_; rintro e w9 ⟨rfl, rfl⟩
    go_wp2_with fail
    go_region
    go_wp2_with fail
    go_region_law
      (first
        | (go_simp; go_at_call 44; refine EN5.out.mono ?_; rintro r w6 ⟨⟨⟨et, ea, ec⟩, eb, ed, eis⟩, he1, he2, rfl, hb6, hl6⟩; simp only at he1 he2; simp only [En.cells]; have HE1 := Lib.hid he1; have HE2 := Lib.hid he2; have HL6 := Lib.hid hl6; have HB6 := Lib.hid (show Below w5.heap.size w5 w6 from ⟨hb6.os, hb6.tape, hb6.output, hb6.size, hb6.block⟩); have HR6 := Lib.hid (own_where HR5.out (W := w6) (fun b _ hb => HB6.out.block b hb)); obtain ⟨g61, g6f⟩ := HC1.out w6 HB6.out; have hg6l := Nat.lt_of_lt_of_le HGL5.out HB6.out.size; have hg6l1 := Nat.lt_succ_of_lt hg6l; clear he1 he2 hl6 hb6)
        | (refine step_append_at rfl _ _ 62 rfl 0 68 i0 (.agg #[.int .i64 0, .string ⟨#[]⟩, .int .i64 0, .slice none 0 0, .slice none 0 0, .int .i64 0]) 6 88 Tryd.underlying62 hi0 hiz0 his0 hib0 rfl (by decide) (.slice ak L.length ck) L.length (rowE es) rfl (HR6.out.alloc _) ⟨w6.heap.size, 0, none⟩ 1 1 [.int .i64 et.kind, .string et.name, .int .i64 et.n, .slice ea et.args.length ec, .slice eb eis.length ed, .int .i64 et.parts] rfl rfl (World.news_of_block (heap_alloc_new _ _)) (by simp [Value.oneCell']) HM1.out HM2.out (Nat.zero_le _) _ rfl ?_; intro v7 w7 hown7 hg7 hat7; obtain ⟨a7, c7, rfl⟩ := own_form9 hown7; obtain ⟨q1, q1f⟩ := HC7.out _ _ _ HB6.out hg7))
    all_goals
      have HEND := Lib.hid (show ArPost AR C w0 W (.pointer (some ⟨g, 0, none⟩)) (addT L T) (fun e _ => e = .returned (.tuple #[.int .i64 (numT (addT L T) T), .bool true])) (.returned (.tuple #[.int .i64 (L.length : Int), .bool true])) (w7.setCell ⟨g, 1, none⟩ (.slice a7 (L.length + 1) c7)) from by
        obtain ⟨C', r1, r2, r3⟩ := ADD.out _ w5 w6 w7 ⟨⟨et, ea, ec⟩, eb, ed, eis⟩ (.slice a7 (L.length + 1) c7) _ HB4.out HOWN5.out HG5.out (HE1.out.trans HTE.out.symm) (HE2.out.trans HIS.out) HB6.out (show Lives _ _ w5 w6 from HL6.out) hown7 hg7 hat7
        rw [addT_out HNI.out]
        refine ⟨C', ?_, r1, r2, r3⟩
        rw [numT_in (List.mem_append_right _ (List.mem_singleton.2 rfl)), idxT_snoc HNI.out])
      clear hown7 hg7 hat7 q1 q1f
      go_wp2_with fail
      go_ret2
      exact HEND.out
end Go.Proofs.YtccpfgpdcicjaaaDoor
