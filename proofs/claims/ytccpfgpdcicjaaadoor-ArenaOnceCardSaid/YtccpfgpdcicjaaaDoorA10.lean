/-
  A term's number, by the program's Put: the walk.
  A term's number, if it is there, by the program's Find.
  What is told of an arena that nobody made: nothing.
  All numbers that lie in a node: what a search finds, in order. No function of the program.
-/
import Derived.Test.YtccpfgpdcicjaaaDoorA06
import Derived.Test.YtccpfgpdcicjaaaDoorA09
import Derived.Test.YtccpfgpdcicjaaaDoorA04
import Derived.Test.YtccpfgpdcicjaaaDoorA01
import Derived.Maps.Views
import Derived.Maps.OwnSet
namespace Go.Proofs.YtccpfgpdcicjaaaDoor
open Go.RowKit Go.Maps

theorem all_mem_L {l : List Tm} {y x : Tm} (h : y ∈ l) (hx : x ∈ y.all) : x ∈ allL l := by
  induction l with
  | nil => cases h
  | cons t r ih =>
    rw [allL]
    rcases List.mem_cons.1 h with rfl | h
    · exact List.mem_append_left _ hx
    · exact List.mem_append_right _ (ih h)
theorem box_aside {W : World} {g : Nat} {x0 x1 x2 x3 : Value} (h : Box W g x0 x1 x2 x3) (p : Addr) (hp : g ≠ p.block) (v : Value) : Box (W.setCell p v) g x0 x1 x2 x3 := by
  have c : ∀ o, (W.setCell p v).cell? ⟨g, o, none⟩ = W.cell? ⟨g, o, none⟩ := fun o => cell_aside p ⟨g, o, none⟩ hp
  exact ⟨(c 0).trans h.c0, (c 1).trans h.c1, (c 2).trans h.c2, (c 3).trans h.c3, by rw [World.frozen?_setCell]; exact h.f0, by rw [World.frozen?_setCell]; exact h.f1, by rw [World.frozen?_setCell]; exact h.f2, by rw [World.frozen?_setCell]; exact h.f3⟩
def PutR (L : List Tm) (t : Tm) (e : Ending) (_ : World) : Prop := e = .returned (.int .i64 (numT (putT t L) t))
theorem withinB_arg {t : Tm} (h : withinB t 300 = true) {j : Nat} (hj : j < t.args.length) : withinB t.args[j] 300 = true := by
  have h1 := within_parts h
  have h2 := within_names h
  have h3 := parts_arg t hj
  unfold withinB
  rw [Bool.and_eq_true]
  refine ⟨decide_eq_true (by omega), List.all_eq_true.2 fun x hx => ?_⟩
  have : x ∈ t.all := by
    cases t with
    | mk k s n xs =>
      rw [Tm.all]
      refine List.mem_cons_of_mem _ ?_
      have hm : xs[j] ∈ xs := List.getElem_mem hj
      exact all_mem_L hm hx
  unfold nameB; exact decide_eq_true (h2 x this)

set_option maxRecDepth 100000 in
set_option maxHeartbeats 4000000 in
theorem pput_any (m : Nat) : ∀ (x : Tv) {C : Nat → Prop} {w0 W : World} {p : Value} {L : List Tm}, x.t.parts ≤ m → AR C w0 W p L → x.ok w0 → withinB x.t 300 = true → L.length + x.t.parts ≤ 1200 →
    Calls Tryd.prog 12 #[p, x.val] W (ArPost AR C w0 W p (putT x.t L) (PutR L x.t)) := by
  induction m with
  | zero => intro x _ _ _ _ _ h; have := parts_pos x.t; omega
  | succ m ih =>
    intro x C w0 W p L hm hA hx hwi hlen
    obtain ⟨_, g, _, _, _, _, hpe, _, _⟩ := id hA
    subst hpe
    have hr0 := ar_reads hA
    have hord := ar_ord hA
    have hfew1 := few1_of hx hwi
    have hfine := hfew1.parts
    obtain ⟨t, ax, cx⟩ := x
    simp only at hm hwi hlen hfew1 hfine
    have hpe := parts_eq t
    have hpl := partsL_length t.args
    obtain ⟨i0, hi0, hiz0, his0, hib0⟩ := info_parts numInfo
    have hbx := box_new W (.int .i64 t.kind) (.string t.name) (.int .i64 t.n) (.slice ax t.args.length cx) 28
    have hb1 : Below W.heap.size W (W.alloc (.cells #[.int .i64 t.kind, .string t.name, .int .i64 t.n, .slice ax t.args.length cx] 28)) := (Below.refl _ _).alloc (Nat.le_refl _) _
    have hz1 : (W.alloc (.cells #[.int .i64 t.kind, .string t.name, .int .i64 t.n, .slice ax t.args.length cx] 28)).heap.size = W.heap.size + 1 := by simp
    have G0 := (ArGo.refl hA).below hb1
    have hC0 : ∀ k, C k → k < W.heap.size := fun k hk => (ar_own hA k hk).1
    have IH := Lib.hid (fun (y : Tv) (C1 : Nat → Prop) (V : World) (L1 : List Tm) (h1 : y.t.parts ≤ m) (h2 : AR C1 w0 V (.pointer (some ⟨g, 0, none⟩)) L1) (h3 : y.ok w0) (h4 : withinB y.t 300 = true) (h5 : L1.length + y.t.parts ≤ 1200) => ih y h1 h2 h3 h4 h5)
    have HX := Lib.hid hx
    have HR0 := Lib.hid hr0
    have HG0 := Lib.hid G0
    have HPL := Lib.hid (fun j (h : j < t.args.length) => (show t.args[j].parts ≤ m ∧ withinB t.args[j] 300 = true from ⟨by have := parts_arg t h; omega, withinB_arg hwi h⟩))
    have HPQ := Lib.hid (fun q => (show (putTs (t.args.take q) L).length ≤ L.length + partsL (t.args.take q) from putTs_length _ _))
    have HPK := Lib.hid (fun q (hq : q < t.args.length) => (show partsL (t.args.take q) + t.args[q].parts ≤ partsL t.args from by
      have h1 := partsL_take t.args hq
      have h2 := partsL_append (t.args.take (q + 1)) (t.args.drop (q + 1))
      rw [List.take_append_drop] at h2
      omega))
    have HORD := Lib.hid hord
    have HFW := Lib.hid hfew1
    have HLEN := Lib.hid hlen
    have HPE := Lib.hid hpe
    have hal : t.args.length ≤ 300 := by omega
    have hAL := Lib.hid hal
    show Calls _ _ #[_, .agg #[.int .i64 t.kind, .string t.name, .int .i64 t.n, .slice ax t.args.length cx]] _ _
    clear ih hA hx hr0 G0 hord hfew1 hfine hwi hlen hpe hpl hm
    obtain ⟨p0, p1, p2, p3, _, _, _, _⟩ := id hbx
    go_enter Tryd.func12, Tryd.ntmps12
    go_wp2_with (at_make; refine wpList_make_full _ rfl _ _ 36 rfl (W.heap.size + 1) 3 i0 (.int .i64 0) 1 Tryd.underlying36 hi0 hiz0 his0 _ _ _ _ t.args.length rfl rfl rfl rfl (by rw [hib0]; omega) (by unfold maxLen; omega) (by rw [hz1]; exact Nat.le_refl _) ?_; intro w2 hown2 hg2; rw [hz1] at hown2; have HO2 := Lib.hid hown2; have HG2 := Lib.hid hg2; have hs2 := hg2.size; rw [hz1] at hs2; obtain ⟨q0, q1, q2, q3, _, _, _, _⟩ := hbx.below ((Below.refl _ _).grown hg2 (Nat.le_refl _) (fun k e => by cases e)) (by rw [hz1]; omega); clear hown2 hg2)
    go_loopw [17] (fun i wr => ∃ (q : Nat) (C1 : Nat → Prop) (vals : List Value), q ≤ t.args.length ∧ i = .int .i64 q ∧ Hid (ArGo C w0 W (.pointer (some ⟨g, 0, none⟩)) (putTs (t.args.take q) L) C1 wr) ∧ Hid (wr.ownsRow (W.heap.size + 1) 3 1 (.slice (some ⟨W.heap.size + 1, 0, none⟩) t.args.length t.args.length) t.args.length vals) ∧ Hid (NumsSo (putTs (t.args.take q) L) t.args q vals) ∧ Hid (Box wr W.heap.size (.int .i64 t.kind) (.string t.name) (.int .i64 t.n) (.slice ax t.args.length cx)) ∧ Hid (¬ C1 W.heap.size ∧ ¬ C1 (W.heap.size + 1)) ∧ W.heap.size + 2 ≤ wr.heap.size) (fun i _ => t.args.length - (intOf i).toNat)
    case atStart =>
      refine ⟨0, C, _, Nat.zero_le _, rfl, Lib.hid ?_, HO2, Lib.hid ⟨by have := HO2.out.1; omega, fun j _ h => by omega⟩, Lib.hid ?_, Lib.hid ⟨fun h => by have := hC0 _ h; omega, fun h => by have := hC0 _ h; omega⟩, ?_⟩
      · rw [List.take_zero, putTs]
        exact HG0.out.below ((Below.refl _ _).grown HG2.out (Nat.le_refl _) (fun k e => by cases e))
      · exact hbx.below ((Below.refl _ _).grown HG2.out (Nat.le_refl _) (fun k e => by cases e)) (by rw [hz1]; omega)
      · obtain ⟨_, ⟨h, _⟩ | ⟨g', cap, cur, hv, _, hh, _⟩⟩ := HO2.out
        · cases h
        · cases hv
          have := (Array.getElem?_eq_some_iff.1 hh).1
          omega
    case round =>
      obtain ⟨q, C1, vals, hq, rfl, HG, HO, HN, HBX, HNC, hws⟩ := hrel
      clear q0 q1 q2 q3 hs2 HG2 HO2
      by_cases hql : q < t.args.length
      · have hi : (q : Int) < (t.args.length : Int) := by omega
        have hi0' : (0 : Int) ≤ (q : Int) := by omega
        obtain ⟨b', o', rfl, hlt', hrow⟩ := HX.out.2.2.resolve_left (by intro h; simp only at h; rw [h] at hql; simp at hql)
        obtain ⟨y, hyt, hyo, hy⟩ := tmAt_tv (rowAt_get hrow hql)
        have hrw := ar_reads HG.out.ar
        obtain ⟨d0, d1, d2, d3⟩ : TvAt wr b' (o' + q * 4) y := ⟨hrw.cell _ _ hy.c0, hrw.cell _ _ hy.c1, hrw.cell _ _ hy.c2, hrw.cell _ _ hy.c3⟩
        obtain ⟨h1, h2⟩ := HPL.out q hql
        have h3 := HPQ.out q
        have h4 := HPK.out q hql
        have hln := HLEN.out
        have hpe := HPE.out
        rw [← hyt] at h1 h2 h4
        obtain ⟨yt, ya, yc⟩ := y
        simp only at hyt h1 h2 h4 d0 d1 d2 d3
        have hb3 : Below wr.heap.size wr (wr.alloc (.cells #[.int .i64 yt.kind, .string yt.name, .int .i64 yt.n, .slice ya yt.args.length yc] 28)) := (Below.refl _ _).alloc (Nat.le_refl _) _
        have H3 := Lib.hid (HG.out.below hb3)
        have CALL := Lib.hid (IH.out ⟨yt, ya, yc⟩ C1 _ _ h1 H3.out.ar hyo h2 (by simp only; omega))
        have HYT := Lib.hid hyt
        have HB3 := Lib.hid hb3
        simp only [Tv.val] at CALL
        have hz3 : (wr.alloc (.cells #[.int .i64 yt.kind, .string yt.name, .int .i64 yt.n, .slice ya yt.args.length yc] 28)).heap.size = wr.heap.size + 1 := by simp
        clear hrow hrw h1 h2 h3 h4 hln hpe hyt hyo hb3 hy
        go_wp2_with fail
        refine CALL.out.mono ?_; rintro e w4 hp4
        obtain ⟨C4, he, H4, hs4, hn4⟩ := H3.out.more hp4
        obtain rfl : e = .returned (.int .i64 (numT (putT yt (putTs (t.args.take q) L)) yt)) := he
        have hs4z := hs4.size
        rw [hz3] at hs4z
        have hO3 := own_same HO.out (W := w4) (fun b hb => by
          obtain rfl : W.heap.size + 1 = b := by simpa [Value.ownBlock] using hb
          rw [hs4.keep _ (by rw [hz3]; omega) HNC.out.2, HB3.out.block _ (by omega)])
        have hb4 := step_box hs4 (g := W.heap.size) (by rw [hz3]; omega) HNC.out.1 (HBX.out.below HB3.out (by omega))
        obtain ⟨⟨v0, hv0⟩, hf0⟩ := own_cell1 hO3 hql
        have hnc4 : ¬ C4 W.heap.size ∧ ¬ C4 (W.heap.size + 1) := ⟨fun h => by
          rcases hn4 _ h with h1 | h1
          · exact HNC.out.1 h1
          · rw [hz3] at h1; omega, fun h => by
          rcases hn4 _ h with h1 | h1
          · exact HNC.out.2 h1
          · rw [hz3] at h1; omega⟩
        have hlt : putTs (t.args.take (q + 1)) L = putT yt (putTs (t.args.take q) L) := by rw [putTs_take hql, ← HYT.out]
        have hnum := HN.out.more (L2 := putT yt (putTs (t.args.take q) L)) hql (fun j hj hjq => numT_put (putTs_mem _ (by
          rw [List.mem_iff_getElem]; exact ⟨j, by rw [List.length_take]; omega, by simp⟩)))
        rw [← HYT.out] at hnum
        have HO3 := Lib.hid hO3
        have HB4 := Lib.hid hb4
        have HN4 := Lib.hid hnc4
        have HLT := Lib.hid hlt
        have HNUM := Lib.hid hnum
        have H4H := Lib.hid H4
        obtain ⟨z, hz⟩ : ∃ z, numT (putT yt (putTs (t.args.take q) L)) yt = z := ⟨_, rfl⟩
        rw [hz] at HNUM ⊢
        have hsw : W.heap.size + 2 ≤ w4.heap.size := by omega
        clear hz hp4 H4 hs4 hn4 hO3 hb4 hnc4 hlt hnum CALL d0 d1 d2 d3
        go_wp2_with fail
        go_roundw
        case rel =>
          refine ⟨q + 1, C4, _, by omega, by go_num, Lib.hid ?_, Lib.hid (own_put1 HO3.out q (.int .i64 z)), Lib.hid ?_, Lib.hid (box_aside HB4.out _ (by show W.heap.size ≠ W.heap.size + 1; omega) _), HN4, by simpa using hsw⟩
          · rw [HLT.out]; exact H4H.out.set (by show W.heap.size ≤ W.heap.size + 1; omega) HN4.out.2 HR0.out _
          · rw [HLT.out]; exact HNUM.out
        case measure => simp [intOf]; omega
      · obtain rfl : q = t.args.length := by omega
        rw [List.take_length] at HG HN
        obtain ⟨p0, p1, p2, p3, _, _, _, _⟩ := HBX.out
        have hallv := HN.out.all
        have hin : ∀ x ∈ t.args, x ∈ putTs t.args L := fun x hx => putTs_mem _ hx
        have HIN := Lib.hid hin
        have HNU := Lib.hid (show Nums wr (.slice (some ⟨W.heap.size + 1, 0, none⟩) t.args.length t.args.length) (t.args.map (numT (putTs t.args L))) from by
          have h := HO.out
          rw [hallv] at h
          refine nums_of_own h (fun x hx => ?_)
          obtain ⟨h0, h1⟩ := num_inR hin x hx
          have h2 := HPQ.out t.args.length
          rw [List.take_length] at h2
          have h3 := HLEN.out
          have h4 := HPE.out
          omega)
        have ND := Lib.hid (node_any t.kind t.name t.n ax t.args.length cx (some ⟨W.heap.size + 1, 0, none⟩) t.args.length t.args.length wr)
        have NO := Lib.hid (fun (V : World) (hA : AR C1 w0 V (.pointer (some ⟨g, 0, none⟩)) (putTs t.args L)) (hn : Nums V (.slice (some ⟨W.heap.size + 1, 0, none⟩) t.args.length t.args.length) (t.args.map (numT (putTs t.args L)))) =>
          (show Calls Tryd.prog 21 #[.pointer (some ⟨g, 0, none⟩), .agg #[.int .i64 t.kind, .string t.name, .int .i64 t.n, .slice (some ⟨W.heap.size + 1, 0, none⟩) t.args.length t.args.length]] V (ArPost AR C1 w0 V (.pointer (some ⟨g, 0, none⟩)) (putT t L) fun e _ => e = .returned (.tuple #[.int .i64 (numT (putT t L) t), .bool true])) from by
            have hgb := gets_back hin
            have h := pnode_any hA t.kind t.name t.n (t.args.map (numT (putTs t.args L))) (some ⟨W.heap.size + 1, 0, none⟩) t.args.length HFW.out.fit HFW.out.name (by rw [List.length_map]; exact hn) (num_inR hin) (by rw [hgb, ← Tm.eta]; exact HFW.out.parts) (by
              have h2 := HPQ.out t.args.length
              rw [List.take_length] at h2
              have h3 := HLEN.out
              have h4 := HPE.out
              omega) t (by rw [hgb]; exact Tm.eta t)
            rw [List.length_map, ← putT_eq] at h
            exact h))
        clear hallv hin
        go_wp2_with fail
        refine ND.out.mono ?_; rintro e w5 ⟨rfl, hb5⟩
        have H5 := Lib.hid (HG.out.below hb5)
        have HN5 := Lib.hid (HNU.out.below hb5)
        clear hb5
        go_wp2_with fail
        refine (NO.out _ H5.out.ar HN5.out).mono ?_; rintro e w6 hp6
        obtain ⟨C6, rfl, H6, _, _⟩ := H5.out.more hp6
        have HEND := Lib.hid (show ArPost AR C w0 W (.pointer (some ⟨g, 0, none⟩)) (putT t L) (PutR L t) (.returned (.int .i64 (numT (putT t L) t))) w6 from H6.post rfl)
        clear hp6 H6
        go_wp2_with fail
        go_ret
        exact HEND.out
end Go.Proofs.YtccpfgpdcicjaaaDoor

namespace Go.Proofs.YtccpfgpdcicjaaaDoor
open Go.RowKit Go.Maps

/-- What Find answers. -/
def FindR (L : List Tm) (t : Tm) (e : Ending) : Prop := (t ∈ L ∧ e = .returned (.tuple #[.int .i64 (idxT L t), .bool true])) ∨ (t ∉ L ∧ e = .returned (.tuple #[.int .i64 0, .bool false]))
def FindP (L : List Tm) (t : Tm) (W : World) (e : Ending) (W' : World) : Prop := FindR L t e ∧ Below W.heap.size W W'

set_option maxRecDepth 100000 in
set_option maxHeartbeats 4000000 in
theorem pfind_any (m : Nat) : ∀ (x : Tv) {C : Nat → Prop} {w0 W : World} {p : Value} {L : List Tm}, x.t.parts ≤ m → AR C w0 W p L → x.ok w0 → withinB x.t 300 = true →
    Calls Tryd.prog 24 #[p, x.val] W (FindP L x.t W) := by
  induction m with
  | zero => intro x _ _ _ _ _ h; have := parts_pos x.t; omega
  | succ m ih =>
    intro x C w0 W p L hm hA hx hwi
    obtain ⟨F, g, bm, kv, es, D, hpe, hM, hS⟩ := id hA
    subst hpe
    have hr0 := ar_reads hA
    have hord := ar_ord hA
    have hfew1 := few1_of hx hwi
    have hfine := hfew1.fine hS.few
    obtain ⟨t, ax, cx⟩ := x
    simp only at hm hwi hfew1 hfine
    have hpl := hfine.args
    obtain ⟨i0, hi0, hiz0, his0, hib0⟩ := info_parts numInfo
    have hbx := box_new W (.int .i64 t.kind) (.string t.name) (.int .i64 t.n) (.slice ax t.args.length cx) 28
    have hb1 : Below W.heap.size W (W.alloc (.cells #[.int .i64 t.kind, .string t.name, .int .i64 t.n, .slice ax t.args.length cx] 28)) := (Below.refl _ _).alloc (Nat.le_refl _) _
    have hz1 : (W.alloc (.cells #[.int .i64 t.kind, .string t.name, .int .i64 t.n, .slice ax t.args.length cx] 28)).heap.size = W.heap.size + 1 := by simp
    have IH := Lib.hid (fun (y : Tv) (V : World) (hb : Below W.heap.size W V) (h1 : y.t.parts ≤ m) (h3 : y.ok w0) (h4 : withinB y.t 300 = true) => ih y h1 (ar_below hA hb) h3 h4)
    have HX := Lib.hid hx
    have HR0 := Lib.hid hr0
    have HB1 := Lib.hid hb1
    have HPL := Lib.hid (fun j (h : j < t.args.length) => (show t.args[j].parts ≤ m ∧ withinB t.args[j] 300 = true from ⟨by have := parts_arg t h; omega, withinB_arg hwi h⟩))
    have hgl := (hS.own g hS.cg).1
    have HH := Lib.hid (fun (V : World) (h : Below W.heap.size W V) => (show Head V g bm kv from ⟨(h.cell (p := ⟨g, 0, none⟩) hgl).trans hM.c0, (h.cell (p := ⟨g, 1, none⟩) hgl).trans hM.c1⟩))
    have MD := Lib.hid (made_any g bm kv _ (HH.out _ hb1))
    have HPOW := Lib.hid (fun (V : World) (h : Below W.heap.size W V) => hS.pow.below h)
    have HKEY := Lib.hid hfine.key
    have HMAP := Lib.hid (fun (V : World) (h : Below W.heap.size W V) => map_same hM.map (h.block bm (hS.own bm hS.cb).1))
    have HIN := Lib.hid (fun (h : t ∈ L) => hM.tab.in_ h)
    have HOUT := Lib.hid (fun (h : t ∉ L) (ha : ∀ x ∈ t.args, x ∈ L) => hM.tab.out hS.ord (fun x hx => (hS.few1 x hx).fine hS.few) hfine ha h)
    have HORD := Lib.hid hord
    have HFEW := Lib.hid hS.few
    have HAL := Lib.hid (show (argN L t).length = t.args.length by unfold argN; rw [List.length_map])
    show Calls _ _ #[_, .agg #[.int .i64 t.kind, .string t.name, .int .i64 t.n, .slice ax t.args.length cx]] _ _
    clear ih hA hx hr0 hord hfew1 hfine hwi hm hM hS
    obtain ⟨p0, p1, p2, p3, _, _, _, _⟩ := id hbx
    go_enter Tryd.func24, Tryd.ntmps24
    go_wp2_with fail
    refine MD.out.mono ?_; rintro e w1 ⟨rfl, rfl⟩
    go_wp2_with (at_make; refine wpList_make_full _ rfl _ _ 36 rfl (W.heap.size + 1) 3 i0 (.int .i64 0) 1 Tryd.underlying36 hi0 hiz0 his0 _ _ _ _ t.args.length rfl rfl rfl rfl (by rw [hib0]; omega) (by unfold maxLen; omega) (by rw [hz1]; exact Nat.le_refl _) ?_; intro w2 hown2 hg2; rw [hz1] at hown2; have HO2 := Lib.hid hown2; have HG2 := Lib.hid hg2; have hs2 := hg2.size; rw [hz1] at hs2; obtain ⟨q0, q1, q2, q3, _, _, _, _⟩ := hbx.below ((Below.refl _ _).grown hg2 (Nat.le_refl _) (fun k e => by cases e)) (by rw [hz1]; omega); clear hown2 hg2)
    go_loopw [23] (fun i wr => ∃ (q : Nat) (vals : List Value), q ≤ t.args.length ∧ i = .int .i64 q ∧ Hid (Below W.heap.size W wr) ∧ Hid (wr.ownsRow (W.heap.size + 1) 3 1 (.slice (some ⟨W.heap.size + 1, 0, none⟩) t.args.length t.args.length) t.args.length vals) ∧ Hid (NumsSo L t.args q vals) ∧ Hid (Box wr W.heap.size (.int .i64 t.kind) (.string t.name) (.int .i64 t.n) (.slice ax t.args.length cx)) ∧ Hid (∀ j (h : j < t.args.length), j < q → t.args[j] ∈ L) ∧ W.heap.size + 2 ≤ wr.heap.size) (fun i _ => t.args.length - (intOf i).toNat)
    case atStart =>
      have hb2 := (Below.refl _ _).grown HG2.out (Nat.le_refl _) (fun k e => by cases e)
      refine ⟨0, _, Nat.zero_le _, rfl, Lib.hid (HB1.out.trans (hb2.mono HB1.out.size)), HO2, Lib.hid ⟨by have := HO2.out.1; omega, fun j _ h => by omega⟩, Lib.hid (hbx.below hb2 (by rw [hz1]; omega)), Lib.hid (fun j _ h => by omega), ?_⟩
      obtain ⟨_, ⟨h, _⟩ | ⟨g', cap, cur, hv, _, hh, _⟩⟩ := HO2.out
      · cases h
      · cases hv
        have := (Array.getElem?_eq_some_iff.1 hh).1
        omega
    case round =>
      obtain ⟨q, vals, hq, rfl, HB, HO, HN, HBX, HA, hws⟩ := hrel
      clear q0 q1 q2 q3 hs2 HG2 HO2
      by_cases hql : q < t.args.length
      · have hi : (q : Int) < (t.args.length : Int) := by omega
        have hi0' : (0 : Int) ≤ (q : Int) := by omega
        obtain ⟨b', o', rfl, hlt', hrow⟩ := HX.out.2.2.resolve_left (by intro h; simp only at h; rw [h] at hql; simp at hql)
        obtain ⟨y, hyt, hyo, hy⟩ := tmAt_tv (rowAt_get hrow hql)
        have hrw := HR0.out.trans (reads_below HB.out)
        obtain ⟨d0, d1, d2, d3⟩ : TvAt wr b' (o' + q * 4) y := ⟨hrw.cell _ _ hy.c0, hrw.cell _ _ hy.c1, hrw.cell _ _ hy.c2, hrw.cell _ _ hy.c3⟩
        obtain ⟨h1, h2⟩ := HPL.out q hql
        rw [← hyt] at h1 h2
        obtain ⟨yt, ya, yc⟩ := y
        simp only at hyt h1 h2 d0 d1 d2 d3
        have hb3 : Below wr.heap.size wr (wr.alloc (.cells #[.int .i64 yt.kind, .string yt.name, .int .i64 yt.n, .slice ya yt.args.length yc] 28)) := (Below.refl _ _).alloc (Nat.le_refl _) _
        have H3 := Lib.hid (HB.out.trans (hb3.mono HB.out.size))
        have CALL := Lib.hid (IH.out ⟨yt, ya, yc⟩ _ H3.out h1 hyo h2)
        have HYT := Lib.hid hyt
        have HB3 := Lib.hid hb3
        simp only [Tv.val] at CALL
        have hz3 : (wr.alloc (.cells #[.int .i64 yt.kind, .string yt.name, .int .i64 yt.n, .slice ya yt.args.length yc] 28)).heap.size = wr.heap.size + 1 := by simp
        clear hrow hrw h1 h2 hyt hyo hb3 hy
        go_wp2_with fail
        refine CALL.out.mono ?_; rintro e w4 ⟨⟨hin, rfl⟩ | ⟨hout, rfl⟩, hb4⟩
        · have H4 := Lib.hid (below_next H3.out hb4)
          have hs4 := hb4.size
          rw [hz3] at hs4
          have hO3 := own_where HO.out (W := w4) (fun b _ hb => (hb4.block b (by rw [hz3]; omega)).trans (HB3.out.block b hb))
          have hb5 := (HBX.out.below HB3.out (by omega)).below hb4 (by rw [hz3]; omega)
          obtain ⟨⟨v0, hv0⟩, hf0⟩ := own_cell1 hO3 hql
          have hnum := HN.out.more (L2 := L) hql (fun j hj hjq => rfl)
          rw [← HYT.out, numT_in hin] at hnum
          have hall : ∀ j (h : j < t.args.length), j < q + 1 → t.args[j] ∈ L := fun j hj hjq => by
            by_cases e : j = q
            · subst e; rw [← HYT.out]; exact hin
            · exact HA.out j hj (by omega)
          have HALL := Lib.hid hall
          have HO3 := Lib.hid hO3
          have HB5 := Lib.hid hb5
          have HNUM := Lib.hid hnum
          obtain ⟨z, hz⟩ : ∃ z : Int, ((idxT L yt : Nat) : Int) = z := ⟨_, rfl⟩
          rw [hz] at HNUM ⊢
          have hsw : W.heap.size + 2 ≤ w4.heap.size := by omega
          clear hz hb4 hs4 hO3 hb5 hnum hall CALL d0 d1 d2 d3 hin
          go_wp2_with fail
          go_roundw
          case rel =>
            exact ⟨q + 1, _, by omega, by go_num, Lib.hid (H4.out.setCell (p := ⟨W.heap.size + 1, q, none⟩) (Nat.le_succ _) _), Lib.hid (own_put1 HO3.out q (.int .i64 z)), HNUM, Lib.hid (box_aside HB5.out _ (by show W.heap.size ≠ W.heap.size + 1; omega) _), HALL, by simpa using hsw⟩
          case measure => simp [intOf]; omega
        · have HEND := Lib.hid (show FindP L t W (.returned (.tuple #[.int .i64 0, .bool false])) w4 from ⟨.inr ⟨fun h => hout (by rw [HYT.out]; exact HORD.out.has h (List.getElem_mem hql)), rfl⟩, below_next H3.out hb4⟩)
          clear hb4 hout
          go_wp2_with fail
          go_ret2
          exact HEND.out
      · obtain rfl : q = t.args.length := by omega
        have hallv := HN.out.all
        have hin : ∀ x ∈ t.args, x ∈ L := fun x hx => by
          obtain ⟨j, hj, rfl⟩ := List.getElem_of_mem hx
          exact HA.out j hj hj
        have hnat : t.args.map (numT L) = (argN L t).map fun i : Nat => (i : Int) := by
          unfold argN; rw [List.map_map]; exact List.map_congr_left fun x hx => numT_in (hin x hx)
        have hNU : Nums wr (.slice (some ⟨W.heap.size + 1, 0, none⟩) t.args.length t.args.length) ((argN L t).map fun i : Nat => (i : Int)) := by
          have h := HO.out
          rw [hallv] at h
          rw [← hnat]
          refine nums_of_own h (fun x hx => ?_)
          obtain ⟨h0, h1⟩ := num_inR hin x hx
          have := HFEW.out
          omega
        have HNU := Lib.hid hNU
        obtain ⟨tx, htx⟩ : ∃ tx, tx = (⟨(numsL (argN L t)).toArray⟩ : ByteArray) := ⟨_, rfl⟩
        have HTX := Lib.hid htx
        have HBW := Lib.hid (fun (V : World) (h : Below wr.heap.size wr V) => (show Below W.heap.size W V from HB.out.trans (h.mono HB.out.size)))
        have ND := Lib.hid (fun (V : World) (h : Below wr.heap.size wr V) => (node_any t.kind t.name t.n ax t.args.length cx (some ⟨W.heap.size + 1, 0, none⟩) t.args.length t.args.length V).mono fun e V' hh => (show e = .returned (.agg #[.int .i64 t.kind, .string t.name, .int .i64 t.n, .slice (some ⟨W.heap.size + 1, 0, none⟩) t.args.length t.args.length]) ∧ Below wr.heap.size wr V' from ⟨hh.1, below_next h hh.2⟩))
        have KO := Lib.hid (fun (V : World) (h : Below wr.heap.size wr V) => (show Calls Tryd.prog 43 #[.agg #[.int .i64 t.kind, .string t.name, .int .i64 t.n, .slice (some ⟨W.heap.size + 1, 0, none⟩) t.args.length t.args.length]] V fun e V' => e = .returned (.agg #[.int .i64 t.kind, .int .i64 t.n, .string t.name, .string tx]) ∧ Below wr.heap.size wr V' from by
          have h2 := keyOf_any t.kind t.name t.n (argN L t) (some ⟨W.heap.size + 1, 0, none⟩) t.args.length V (HPOW.out V (HBW.out V h)) (by rw [HAL.out]; exact HNU.out.below h) (by rw [HAL.out]; omega) (fun i hi => by have := argN_le L t i hi; have := HFEW.out; omega)
          rw [HAL.out] at h2
          refine h2.mono ?_; rintro e V' ⟨rfl, hb⟩
          exact ⟨by rw [htx]; rfl, below_next h hb⟩))
        have KEEP := Lib.hid (fun (V : World) (h : Below wr.heap.size wr V) => (show V.cell? ⟨g, 0, none⟩ = some (.map (some bm)) ∧ V.cell? ⟨W.heap.size, 0, none⟩ = some (.int .i64 t.kind) ∧ V.cell? ⟨W.heap.size, 1, none⟩ = some (.string t.name) ∧ V.cell? ⟨W.heap.size, 2, none⟩ = some (.int .i64 t.n) ∧ V.cell? ⟨W.heap.size, 3, none⟩ = some (.slice ax t.args.length cx) from
          ⟨(HH.out V (HBW.out V h)).c0, (HBX.out.below h (by omega)).c0, (HBX.out.below h (by omega)).c1, (HBX.out.below h (by omega)).c2, (HBX.out.below h (by omega)).c3⟩))
        have hd : Below wr.heap.size wr wr.drew := (Below.refl _ _).drew
        obtain ⟨c, b, hhas, hat, HR⟩ : ∃ (c : Int) (b : Bool), has D (litT L t) = b ∧ D.atKey (litT L t) (.lit (.int .i64 0)) = .lit (.int .i64 c) ∧ FindR L t (.returned (.tuple #[.int .i64 c, .bool b])) := by
          by_cases hmem : t ∈ L
          · obtain ⟨h1, h2⟩ := HIN.out hmem
            exact ⟨_, true, h1, h2, .inl ⟨hmem, rfl⟩⟩
          · have h1 := HOUT.out hmem hin
            exact ⟨0, false, h1, atKey_of_not_has h1 _, .inr ⟨hmem, rfl⟩⟩
        have LOOK := Lib.hid (fun (V : World) (h : Below wr.heap.size wr V) => tab_look (HMAP.out V (HBW.out V h)) HKEY.out hhas hat)
        unfold keyV at LOOK
        rw [← HTX.out] at LOOK
        have HRR := Lib.hid HR
        clear hallv hin hnat hNU htx hhas hat HR
        go_wp2_with fail
        go_region_held3 (fun V => V.cell? ⟨g, 0, none⟩ = some (.map (some bm)) ∧ V.cell? ⟨W.heap.size, 0, none⟩ = some (.int .i64 t.kind) ∧ V.cell? ⟨W.heap.size, 1, none⟩ = some (.string t.name) ∧ V.cell? ⟨W.heap.size, 2, none⟩ = some (.int .i64 t.n) ∧ V.cell? ⟨W.heap.size, 3, none⟩ = some (.slice ax t.args.length cx)) (exact KEEP.out _ (by assumption))
          ((first
            | (go_at_call 35; refine (ND.out _ (by assumption)).mono ?_; rintro e w5 ⟨rfl, hn5⟩)
            | (go_at_call 43; refine (KO.out _ (by assumption)).mono ?_; rintro e w6 ⟨rfl, hn6⟩; have hlk := LOOK.out _ hn6)))
        go_wp2_with fail
        go_ret2
        exact ⟨HRR.out, HBW.out _ (by assumption)⟩
end Go.Proofs.YtccpfgpdcicjaaaDoor

namespace Go.Proofs.YtccpfgpdcicjaaaDoor
open Go.RowKit Go.Maps

set_option maxRecDepth 100000 in
theorem find_none (x : Tv) (W : World) : Calls Tryd.prog 24 #[.pointer none, x.val] W fun e W' => e = .returned (.tuple #[.int .i64 0, .bool false]) ∧ Below W.heap.size W W' := by
  obtain ⟨t, a, c⟩ := x
  have MD := Lib.hid made_none
  have hb := (Below.refl W.heap.size W).alloc (Nat.le_refl _) (.cells #[.int .i64 t.kind, .string t.name, .int .i64 t.n, .slice a t.args.length c] 28)
  show Calls _ _ #[_, .agg #[.int .i64 t.kind, .string t.name, .int .i64 t.n, .slice a t.args.length c]] _ _
  go_enter Tryd.func24, Tryd.ntmps24
  go_wp2_with fail
  refine (MD.out _).mono ?_; rintro e w1 ⟨rfl, rfl⟩
  go_wp2_with fail
  go_ret2
  exact ⟨rfl, hb⟩
set_option maxRecDepth 100000 in
theorem node_none (k : Int) (s : ByteArray) (n : Int) (a : Option Addr) (m c : Nat) (W : World) : Calls Tryd.prog 21 #[.pointer none, .agg #[.int .i64 k, .string s, .int .i64 n, .slice a m c]] W fun e W' => e = .returned (.tuple #[.int .i64 0, .bool false]) ∧ Below W.heap.size W W' := by
  have MD := Lib.hid made_none
  have hb := (Below.refl W.heap.size W).alloc (Nat.le_refl _) (.cells #[.int .i64 k, .string s, .int .i64 n, .slice a m c] 38)
  go_enter Tryd.func21, Tryd.ntmps21
  go_wp2_with fail
  refine (MD.out _).mono ?_; rintro e w1 ⟨rfl, rfl⟩
  go_wp2_with fail
  go_ret2
  exact ⟨rfl, hb⟩
set_option maxRecDepth 100000 in
theorem copy_none (W : World) : Calls Tryd.prog 32 #[.pointer none] W fun e W' => e = .returned (.pointer none) ∧ Below W.heap.size W W' := by
  have MD := Lib.hid made_none
  go_enter Tryd.func32, Tryd.ntmps32
  go_wp2_with fail
  refine (MD.out _).mono ?_; rintro e w1 ⟨rfl, rfl⟩
  go_wp2_with fail
  go_ret
  exact ⟨rfl, Below.refl _ _⟩
set_option maxRecDepth 100000 in
/-- A node that has an argument that is no node. -/
theorem node_out {C : Nat → Prop} {w0 W : World} {p : Value} {L : List Tm} (hA : AR C w0 W p L) (k : Int) (s : ByteArray) (n : Int) (is : List Int) (ai : Option Addr) (ci : Nat) (hi : Nums W (.slice ai is.length ci) is) (hin : ¬ ∀ i ∈ is, InR L i) :
    Calls Tryd.prog 21 #[p, .agg #[.int .i64 k, .string s, .int .i64 n, .slice ai is.length ci]] W (ArPost AR C w0 W p L fun e _ => e = .returned (.tuple #[.int .i64 0, .bool false])) := by
  have END := Lib.hid (fun (W' : World) (hb : Below W.heap.size W W') => ar_post (R := fun e _ => e = .returned (.tuple #[.int .i64 0, .bool false])) hA hb rfl)
  obtain ⟨F, g, bm, kv, es, D, rfl, hm, hs⟩ := hA
  have hh := hm.head
  have hgl := (hs.own g hs.cg).1
  obtain ⟨ak, ck, rfl, _⟩ := own_shape hm.row
  have hb := (Below.refl W.heap.size W).alloc (Nat.le_refl _) (.cells #[.int .i64 k, .string s, .int .i64 n, .slice ai is.length ci] 38)
  have H1 := Lib.hid (show Head (W.alloc (.cells #[.int .i64 k, .string s, .int .i64 n, .slice ai is.length ci] 38)) g bm (.slice ak L.length ck) from ⟨(hb.cell (p := ⟨g, 0, none⟩) hgl).trans hh.c0, (hb.cell (p := ⟨g, 1, none⟩) hgl).trans hh.c1⟩)
  have MD := Lib.hid (made_any g bm _ _ H1.out)
  have HL := Lib.hid (has_lacks g bm ak L.length ck ai ci is _ H1.out (hi.below hb) true ⟨fun _ => hin, fun _ => rfl⟩)
  obtain ⟨p0, p1, p2, p3, _, _, _, _⟩ := box_new W (.int .i64 k) (.string s) (.int .i64 n) (.slice ai is.length ci) 38
  clear hm hs hh hi hin
  go_enter Tryd.func21, Tryd.ntmps21
  go_wp2_with fail
  refine MD.out.mono ?_; rintro e w1 ⟨rfl, rfl⟩
  go_wp2_with fail
  refine HL.out.mono ?_; rintro e w1 ⟨rfl, rfl⟩
  go_wp2_with fail
  go_ret2
  exact END.out _ hb
set_option maxRecDepth 100000 in
set_option maxHeartbeats 4000000 in
theorem put_none (m : Nat) : ∀ (x : Tv) (W : World), x.t.parts ≤ m → x.ok W → x.t.parts ≤ 300 →
    Calls Tryd.prog 12 #[.pointer none, x.val] W fun e W' => e = .returned (.int .i64 0) ∧ Below W.heap.size W W' := by
  induction m with
  | zero => intro x _ h; have := parts_pos x.t; omega
  | succ m ih =>
    intro x W hm hx hp3
    obtain ⟨t, ax, cx⟩ := x
    simp only at hm hp3
    have hpe := parts_eq t
    have hpl := partsL_length t.args
    have hal : t.args.length ≤ 300 := by omega
    obtain ⟨i0, hi0, hiz0, his0, hib0⟩ := info_parts numInfo
    have hbx := box_new W (.int .i64 t.kind) (.string t.name) (.int .i64 t.n) (.slice ax t.args.length cx) 28
    have hb1 : Below W.heap.size W (W.alloc (.cells #[.int .i64 t.kind, .string t.name, .int .i64 t.n, .slice ax t.args.length cx] 28)) := (Below.refl _ _).alloc (Nat.le_refl _) _
    have hz1 : (W.alloc (.cells #[.int .i64 t.kind, .string t.name, .int .i64 t.n, .slice ax t.args.length cx] 28)).heap.size = W.heap.size + 1 := by simp
    have IH := Lib.hid (fun (y : Tv) (V : World) (h1 : y.t.parts ≤ m) (h2 : y.ok V) (h3 : y.t.parts ≤ 300) => ih y V h1 h2 h3)
    have HX := Lib.hid hx
    have HB1 := Lib.hid hb1
    have HPL := Lib.hid (fun j (h : j < t.args.length) => (show t.args[j].parts ≤ m ∧ t.args[j].parts ≤ 300 from by have := parts_arg t h; omega))
    have NN := Lib.hid node_none
    show Calls _ _ #[_, .agg #[.int .i64 t.kind, .string t.name, .int .i64 t.n, .slice ax t.args.length cx]] _ _
    clear ih hx hp3 hpe hpl hm
    obtain ⟨p0, p1, p2, p3, _, _, _, _⟩ := id hbx
    go_enter Tryd.func12, Tryd.ntmps12
    go_wp2_with (at_make; refine wpList_make_full _ rfl _ _ 36 rfl (W.heap.size + 1) 3 i0 (.int .i64 0) 1 Tryd.underlying36 hi0 hiz0 his0 _ _ _ _ t.args.length rfl rfl rfl rfl (by rw [hib0]; omega) (by unfold maxLen; omega) (by rw [hz1]; exact Nat.le_refl _) ?_; intro w2 hown2 hg2; rw [hz1] at hown2; have HO2 := Lib.hid hown2; have HG2 := Lib.hid hg2; have hs2 := hg2.size; rw [hz1] at hs2; obtain ⟨q0, q1, q2, q3, _, _, _, _⟩ := hbx.below ((Below.refl _ _).grown hg2 (Nat.le_refl _) (fun k e => by cases e)) (by rw [hz1]; omega); clear hown2 hg2)
    go_loopw [17] (fun i wr => ∃ (q : Nat) (vals : List Value), q ≤ t.args.length ∧ i = .int .i64 q ∧ Hid (Below W.heap.size W wr) ∧ Hid (wr.ownsRow (W.heap.size + 1) 3 1 (.slice (some ⟨W.heap.size + 1, 0, none⟩) t.args.length t.args.length) t.args.length vals) ∧ Hid (Box wr W.heap.size (.int .i64 t.kind) (.string t.name) (.int .i64 t.n) (.slice ax t.args.length cx)) ∧ W.heap.size + 2 ≤ wr.heap.size) (fun i _ => t.args.length - (intOf i).toNat)
    case atStart =>
      have hb2 := (Below.refl _ _).grown HG2.out (Nat.le_refl _) (fun k e => by cases e)
      refine ⟨0, _, Nat.zero_le _, rfl, Lib.hid (HB1.out.trans (hb2.mono HB1.out.size)), HO2, Lib.hid (hbx.below hb2 (by rw [hz1]; omega)), ?_⟩
      obtain ⟨_, ⟨h, _⟩ | ⟨g', cap, cur, hv, _, hh, _⟩⟩ := HO2.out
      · cases h
      · cases hv
        have := (Array.getElem?_eq_some_iff.1 hh).1
        omega
    case round =>
      obtain ⟨q, vals, hq, rfl, HB, HO, HBX, hws⟩ := hrel
      clear q0 q1 q2 q3 hs2 HG2 HO2
      by_cases hql : q < t.args.length
      · have hi : (q : Int) < (t.args.length : Int) := by omega
        have hi0' : (0 : Int) ≤ (q : Int) := by omega
        obtain ⟨b', o', rfl, hlt', hrow⟩ := HX.out.2.2.resolve_left (by intro h; simp only at h; rw [h] at hql; simp at hql)
        obtain ⟨y, hyt, hyo, hy⟩ := tmAt_tv (rowAt_get hrow hql)
        have hrw := reads_below HB.out
        obtain ⟨d0, d1, d2, d3⟩ : TvAt wr b' (o' + q * 4) y := ⟨hrw.cell _ _ hy.c0, hrw.cell _ _ hy.c1, hrw.cell _ _ hy.c2, hrw.cell _ _ hy.c3⟩
        obtain ⟨h1, h2⟩ := HPL.out q hql
        rw [← hyt] at h1 h2
        obtain ⟨yt, ya, yc⟩ := y
        simp only at hyt h1 h2 d0 d1 d2 d3
        have hb3 : Below wr.heap.size wr (wr.alloc (.cells #[.int .i64 yt.kind, .string yt.name, .int .i64 yt.n, .slice ya yt.args.length yc] 28)) := (Below.refl _ _).alloc (Nat.le_refl _) _
        have H3 := Lib.hid (HB.out.trans (hb3.mono HB.out.size))
        have CALL := Lib.hid (IH.out ⟨yt, ya, yc⟩ _ h1 (hyo.below H3.out) h2)
        have HB3 := Lib.hid hb3
        simp only [Tv.val] at CALL
        have hz3 : (wr.alloc (.cells #[.int .i64 yt.kind, .string yt.name, .int .i64 yt.n, .slice ya yt.args.length yc] 28)).heap.size = wr.heap.size + 1 := by simp
        clear hrow hrw h1 h2 hyt hyo hb3 hy
        go_wp2_with fail
        refine CALL.out.mono ?_; rintro e w4 ⟨rfl, hb4⟩
        have H4 := Lib.hid (below_next H3.out hb4)
        have hs4 := hb4.size
        rw [hz3] at hs4
        have hO3 := own_where HO.out (W := w4) (fun b _ hb => (hb4.block b (by rw [hz3]; omega)).trans (HB3.out.block b hb))
        have hb5 := (HBX.out.below HB3.out (by omega)).below hb4 (by rw [hz3]; omega)
        obtain ⟨⟨v0, hv0⟩, hf0⟩ := own_cell1 hO3 hql
        have HO3 := Lib.hid hO3
        have HB5 := Lib.hid hb5
        have hsw : W.heap.size + 2 ≤ w4.heap.size := by omega
        clear hb4 hs4 hO3 hb5 CALL d0 d1 d2 d3
        go_wp2_with fail
        go_roundw
        case rel =>
          exact ⟨q + 1, _, by omega, by go_num, Lib.hid (H4.out.setCell (p := ⟨W.heap.size + 1, q, none⟩) (Nat.le_succ _) _), Lib.hid (own_put1 HO3.out q (.int .i64 0)), Lib.hid (box_aside HB5.out _ (by show W.heap.size ≠ W.heap.size + 1; omega) _), by simpa using hsw⟩
        case measure => simp [intOf]; omega
      · obtain rfl : q = t.args.length := by omega
        obtain ⟨p0, p1, p2, p3, _, _, _, _⟩ := HBX.out
        have ND := Lib.hid (node_any t.kind t.name t.n ax t.args.length cx (some ⟨W.heap.size + 1, 0, none⟩) t.args.length t.args.length wr)
        go_wp2_with fail
        refine ND.out.mono ?_; rintro e w5 ⟨rfl, hb5⟩
        have H5 := Lib.hid (below_next HB.out hb5)
        clear hb5
        go_wp2_with fail
        refine (NN.out _ _ _ _ _ _ _).mono ?_; rintro e w6 ⟨rfl, hb6⟩
        have H6 := Lib.hid (below_next H5.out hb6)
        clear hb6
        go_wp2_with fail
        go_ret
        exact ⟨rfl, H6.out⟩
end Go.Proofs.YtccpfgpdcicjaaaDoor

namespace Go.Proofs.YtccpfgpdcicjaaaDoor
open Go.RowKit

/-- The set that goes with a row of numbers. -/
def setN (l : List Nat) : DataW Unit := Maps.setOf (.agg []) (l.map fun x : Nat => Lit.int .i64 (x : Int))
theorem setN_has (l : List Nat) (x : Nat) : Maps.has (setN l) (.int .i64 (x : Int)) = decide (x ∈ l) := by
  unfold setN
  rw [Maps.has_setOf _ _ _ (by
    intro y hy
    obtain ⟨z, _, rfl⟩ := List.mem_map.1 hy
    simp [WideAt.IsKeyLit])]
  rw [Bool.eq_iff_iff, List.any_eq_true, decide_eq_true_iff]
  constructor
  · rintro ⟨y, hy, he⟩
    obtain ⟨z, hz, rfl⟩ := List.mem_map.1 hy
    have e : (z : Int) = (x : Int) := by simpa [Lit.sameKey] using he
    have e2 : z = x := by omega
    rw [← e2]; exact hz
  · intro h
    exact ⟨_, List.mem_map.2 ⟨x, h, rfl⟩, by simp [Lit.sameKey]⟩
theorem setN_put (l : List Nat) (x : Nat) : (setN l).put (.int .i64 (x : Int)) (.agg []) = setN (l ++ [x]) := by
  unfold setN
  rw [List.map_append, ← Maps.setOf_snoc]; rfl
theorem rise_eq : ∀ {a b : List Int}, a.Pairwise (· < ·) → b.Pairwise (· < ·) → (∀ x, x ∈ a ↔ x ∈ b) → a = b
  | [], [], _, _, _ => rfl
  | [], y :: b, _, _, h => by have := (h y).2 (List.mem_cons_self ..); cases this
  | x :: a, [], _, _, h => by have := (h x).1 (List.mem_cons_self ..); cases this
  | x :: a, y :: b, ha, hb, h => by
    obtain ⟨a1, a2⟩ := List.pairwise_cons.1 ha
    obtain ⟨b1, b2⟩ := List.pairwise_cons.1 hb
    have hxy : x = y := by
      have h1 := (h x).1 (List.mem_cons_self ..)
      have h2 := (h y).2 (List.mem_cons_self ..)
      rcases List.mem_cons.1 h1 with e | e
      · exact e
      · rcases List.mem_cons.1 h2 with e2 | e2
        · exact e2.symm
        · have := b1 x e; have := a1 y e2; omega
    subst hxy
    rw [rise_eq a2 b2 (fun z => ?_)]
    constructor
    · intro hz
      have h1 := (h z).1 (List.mem_cons_of_mem _ hz)
      rcases List.mem_cons.1 h1 with e | e
      · have := a1 z hz; omega
      · exact e
    · intro hz
      have h1 := (h z).2 (List.mem_cons_of_mem _ hz)
      rcases List.mem_cons.1 h1 with e | e
      · have := b1 z hz; omega
      · exact e
theorem withinN_rise : ∀ (L : List Tm) (t : Tm) (k : Nat), (withinN L t k).Pairwise (· < ·)
  | [], _, _ => by rw [withinN]; exact List.Pairwise.nil
  | x :: r, t, k => by
    rw [withinN]
    split
    · refine List.pairwise_cons.2 ⟨fun y hy => ?_, withinN_rise r t (k + 1)⟩
      have := withinN_range r t (k + 1) y hy
      omega
    · exact withinN_rise r t (k + 1)
theorem withinN_mem : ∀ (L : List Tm) (t : Tm) (k : Nat) (x : Int), x ∈ withinN L t k ↔ ∃ (j : Nat) (h : j < L.length), x = ((k + j : Nat) : Int) ∧ inT t.all L[j] = true
  | [], _, _, x => by rw [withinN]; simp
  | y :: r, t, k, x => by
    rw [withinN]
    have ih := withinN_mem r t (k + 1) x
    constructor
    · intro h
      split at h
      · next hy =>
        rcases List.mem_cons.1 h with rfl | h
        · exact ⟨0, by simp, by simp, hy⟩
        · obtain ⟨j, hj, e, h2⟩ := ih.1 h
          exact ⟨j + 1, by simpa using hj, by rw [e]; omega, by simpa using h2⟩
      · obtain ⟨j, hj, e, h2⟩ := ih.1 h
        exact ⟨j + 1, by simpa using hj, by rw [e]; omega, by simpa using h2⟩
    · rintro ⟨j, hj, e, h2⟩
      cases j with
      | zero =>
        simp only [List.getElem_cons_zero] at h2
        rw [if_pos h2, e]; exact List.mem_cons_self ..
      | succ j =>
        simp only [List.getElem_cons_succ] at h2
        have h3 := ih.2 ⟨j, by simpa using hj, by rw [e]; omega, h2⟩
        split
        · exact List.mem_cons_of_mem _ h3
        · exact h3
mutual
theorem all_args9 : ∀ (t : Tm) {u x : Tm}, u ∈ t.all → x ∈ u.args → x ∈ t.all
  | .mk k s n xs, u, x, hu, hx => by
    rw [Tm.all] at hu ⊢
    rcases List.mem_cons.1 hu with rfl | hu
    · exact List.mem_cons_of_mem _ (mem_allL9 hx)
    · exact List.mem_cons_of_mem _ (allL_args9 xs hu hx)
theorem allL_args9 : ∀ (l : List Tm) {u x : Tm}, u ∈ allL l → x ∈ u.args → x ∈ allL l
  | [], _, _, hu, _ => by rw [allL] at hu; cases hu
  | t :: r, u, x, hu, hx => by
    rw [allL] at hu ⊢
    rcases List.mem_append.1 hu with hu | hu
    · exact List.mem_append_left _ (all_args9 t hu hx)
    · exact List.mem_append_right _ (allL_args9 r hu hx)
theorem mem_allL9 : ∀ {l : List Tm} {x : Tm}, x ∈ l → x ∈ allL l
  | t :: r, x, hx => by
    rw [allL]
    rcases List.mem_cons.1 hx with rfl | hx
    · exact List.mem_append_left _ (by cases x; rw [Tm.all]; exact List.mem_cons_self ..)
    · exact List.mem_append_right _ (mem_allL9 hx)
end
theorem self_all (t : Tm) : t ∈ t.all := by cases t; rw [Tm.all]; exact List.mem_cons_self ..
theorem inT_iff {ts : List Tm} {t : Tm} : inT ts t = true ↔ t ∈ ts := by
  unfold inT
  rw [List.any_eq_true]
  constructor
  · rintro ⟨x, hx, e⟩
    have := eqT_iff.1 e
    rw [← this]; exact hx
  · intro h; exact ⟨t, h, eqT_true rfl⟩
/-- What a search has found, so far: its numbers, each once, all in the node; the first k of them have their arguments among what is found. -/
structure Found (L : List Tm) (i : Nat) (fnd : List Nat) (k : Nat) : Prop where
  once : fnd.Nodup
  start : i ∈ fnd
  lies : ∀ j ∈ fnd, ∃ h : j < L.length, ∀ hi : i < L.length, L[j] ∈ L[i].all
  done : ∀ (q : Nat) (h : q < fnd.length), q < k → ∀ hq : fnd[q] < L.length, ∀ x ∈ L[fnd[q]].args, idxT L x ∈ fnd
theorem Found.one {L : List Tm} {i : Nat} (h : i < L.length) : Found L i [i] 0 :=
  ⟨by simp, by simp, fun j hj => by rw [List.mem_singleton] at hj; subst hj; exact ⟨h, fun _ => self_all _⟩, fun q _ hq => by omega⟩
theorem nodup_len {l : List Nat} {n : Nat} (h : l.Nodup) (hl : ∀ x ∈ l, x < n) : l.length ≤ n := by
  have : l.length ≤ (List.range n).length := h.length_le_of_subset (fun x hx => List.mem_range.2 (hl x hx))
  rwa [List.length_range] at this
theorem Found.len {L : List Tm} {i : Nat} {fnd : List Nat} {k : Nat} (h : Found L i fnd k) : fnd.length ≤ L.length := nodup_len h.once (fun x hx => (h.lies x hx).1)
/-- One number more. -/
theorem Found.more {L : List Tm} {i : Nat} {fnd : List Nat} {k y : Nat} (h : Found L i fnd k) (hk : k ≤ fnd.length) (hy : y ∉ fnd) (hl : ∃ h : y < L.length, ∀ hi : i < L.length, L[y] ∈ L[i].all) : Found L i (fnd ++ [y]) k where
  once := by
    rw [List.nodup_append]
    exact ⟨h.once, by simp, fun a ha b hb => by rw [List.mem_singleton] at hb; intro e; exact hy (by rw [← hb, ← e]; exact ha)⟩
  start := List.mem_append_left _ h.start
  lies := fun j hj => by
    rcases List.mem_append.1 hj with hj | hj
    · exact h.lies j hj
    · rw [List.mem_singleton] at hj; subst hj; exact hl
  done := fun q hq hqk hql x hx => by
    rcases Nat.lt_or_ge q fnd.length with h1 | h1
    · have e : (fnd ++ [y])[q] = fnd[q] := List.getElem_append_left h1
      simp only [e] at hql hx
      exact List.mem_append_left _ (h.done q h1 hqk hql x hx)
    · omega
theorem Found.next {L : List Tm} {i : Nat} {fnd : List Nat} {k : Nat} (h : Found L i fnd k) (hk : k < fnd.length) (ha : ∀ hq : fnd[k] < L.length, ∀ x ∈ L[fnd[k]].args, idxT L x ∈ fnd) : Found L i fnd (k + 1) :=
  ⟨h.once, h.start, h.lies, fun q hq hqk hql x hx => by
    by_cases e : q = k
    · subst e; exact ha hql x hx
    · exact h.done q hq (by omega) hql x hx⟩
mutual
theorem found_all {L : List Tm} (ho : Ord L) {fnd : List Nat} (hd : ∀ j ∈ fnd, ∀ h : j < L.length, ∀ x ∈ L[j].args, idxT L x ∈ fnd) : ∀ (t : Tm), t ∈ L → idxT L t ∈ fnd → ∀ x ∈ t.all, idxT L x ∈ fnd ∧ x ∈ L
  | .mk k s n xs, ht, hi, x, hx => by
    rw [Tm.all] at hx
    rcases List.mem_cons.1 hx with rfl | hx
    · exact ⟨hi, ht⟩
    · have hlt := idxT_mem ht
      have e := idxT_get hlt
      rw [List.getElem?_eq_getElem hlt] at e
      have h1 := hd _ hi hlt
      rw [Option.some.inj e] at h1
      exact found_allL ho hd xs (fun y hy => ⟨ho.has ht hy, h1 y hy⟩) x hx
theorem found_allL {L : List Tm} (ho : Ord L) {fnd : List Nat} (hd : ∀ j ∈ fnd, ∀ h : j < L.length, ∀ x ∈ L[j].args, idxT L x ∈ fnd) : ∀ (l : List Tm), (∀ y ∈ l, y ∈ L ∧ idxT L y ∈ fnd) → ∀ x ∈ allL l, idxT L x ∈ fnd ∧ x ∈ L
  | [], _, x, hx => by rw [allL] at hx; cases hx
  | t :: r, h, x, hx => by
    rw [allL] at hx
    rcases List.mem_append.1 hx with hx | hx
    · exact found_all ho hd t (h t (List.mem_cons_self ..)).1 (h t (List.mem_cons_self ..)).2 x hx
    · exact found_allL ho hd r (fun y hy => h y (List.mem_cons_of_mem _ hy)) x hx
end
/-- A search that is done has found all that is in the node: in order, these are its numbers. -/
theorem Found.all {L : List Tm} (ho : Ord L) {i : Nat} (hi : i < L.length) {fnd : List Nat} (h : Found L i fnd fnd.length) : ((fnd.map fun x : Nat => (x : Int)).mergeSort fun x y => decide (x ≤ y)) = withinN L L[i] 0 := by
  have hp := List.mergeSort_perm (fnd.map fun x : Nat => (x : Int)) (fun x y => decide (x ≤ y))
  have hs := List.pairwise_mergeSort (le := fun (x y : Int) => decide (x ≤ y)) (fun a b c h1 h2 => by simp only [decide_eq_true_eq] at *; omega) (fun a b => by
    rcases Int.le_total a b with h | h <;> simp [h]) (fnd.map fun x : Nat => (x : Int))
  have hn : (fnd.map fun x : Nat => (x : Int)).Nodup := by
    rw [List.nodup_iff_pairwise_ne, List.pairwise_map]
    exact (List.nodup_iff_pairwise_ne.1 h.once).imp (fun {a b} hab e => hab (by omega))
  have hn2 := hp.nodup_iff.2 hn
  refine rise_eq ?_ (withinN_rise L L[i] 0) (fun x => ?_)
  · refine (List.Pairwise.and (List.nodup_iff_pairwise_ne.1 hn2) hs).imp (fun {a b} hab => ?_)
    have := hab.2
    simp only [decide_eq_true_eq] at this
    have := hab.1
    omega
  · rw [hp.mem_iff, withinN_mem, List.mem_map]
    constructor
    · rintro ⟨j, hj, rfl⟩
      obtain ⟨h1, h2⟩ := h.lies j hj
      exact ⟨j, h1, by simp, inT_iff.2 (h2 hi)⟩
    · rintro ⟨j, hj, rfl, h2⟩
      have h3 := inT_iff.1 h2
      have hd : ∀ j ∈ fnd, ∀ h : j < L.length, ∀ x ∈ L[j].args, idxT L x ∈ fnd := fun j hj hl x hx => by
        obtain ⟨q, hq, rfl⟩ := List.getElem_of_mem hj
        exact h.done q hq hq hl x hx
      have h4 := (found_all ho hd L[i] (List.getElem_mem hi) (by rw [ho.idx hi]; exact h.start) L[j] h3).1
      rw [ho.idx hj] at h4
      exact ⟨j, h4, by simp⟩
end Go.Proofs.YtccpfgpdcicjaaaDoor
