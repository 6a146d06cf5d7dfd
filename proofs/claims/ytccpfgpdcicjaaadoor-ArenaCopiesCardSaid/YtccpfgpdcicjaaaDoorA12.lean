/-
  Behind any others, two terms have the same number just if they are the same, and a node's arguments have lower numbers: the law answers true, from what the program's arenas do.
  A copy has the same terms, and each goes its own way; of an arena that nobody made nothing is told: the law answers true, from what the program's arenas do.
  The program's arenas do what the laws ask of them.
  Whether a term is small, by the reference of layer 3: Small.
  Lists of whole numbers, alike, by the reference of layer 1: Ints.
  Whatever is put into a list lies in what was put. No function of the program.
-/
import Derived.Test.YtccpfgpdcicjaaaDoorA11
import Derived.Test.YtccpfgpdcicjaaaDoorA05
import Derived.Test.YtccpfgpdcicjaaaDoorA10
import Derived.Test.YtccpfgpdcicjaaaDoorA02
import Derived.BigQuiet
import Derived.Lib.Hide
import Derived.Test.YtccpfgpdcicjaaaDoorA01
namespace Go.Proofs.YtccpfgpdcicjaaaDoor
open Go.RowKit

theorem below_two9 (w : World) (o1 o2 : Obj) : Below w.heap.size w ((w.alloc o1).alloc o2) := ((Below.refl _ _).alloc (Nat.le_refl _) _).alloc (by simp) _
theorem numT_idx {L : List Tm} (h : Ord L) {k : Nat} (hk : k < L.length) {x : Tm} (hx : x ∈ L[k].args) : 0 ≤ numT L x ∧ numT L x < (k : Int) := by
  rw [numT_in (h.has (List.getElem_mem hk) hx)]
  have := h.ahead k hk x hx
  omega
/-- Two terms in a new row. -/
theorem tms_two9 (w : World) (x y : Tv) (hx : x.ok w) (hy : y.ok w) (t : TypeId) :
    Tms (w.alloc (.cells #[.int .i64 x.t.kind, .string x.t.name, .int .i64 x.t.n, .slice x.a x.t.args.length x.c, .int .i64 y.t.kind, .string y.t.name, .int .i64 y.t.n, .slice y.a y.t.args.length y.c] t)) (.slice (some ⟨w.heap.size, 0, none⟩) 2 2) [x.t, y.t] := by
  have hb : Below w.heap.size w (w.alloc (.cells #[.int .i64 x.t.kind, .string x.t.name, .int .i64 x.t.n, .slice x.a x.t.args.length x.c, .int .i64 y.t.kind, .string y.t.name, .int .i64 y.t.n, .slice y.a y.t.args.length y.c] t)) := (Below.refl _ _).alloc (Nat.le_refl _) _
  refine ⟨_, 2, rfl, by simp, .inr ⟨w.heap.size, 0, rfl, by simp, ?_⟩⟩
  rw [RowAt, RowAt, RowAt]
  have c := World.cell?_alloc_mark w #[.int .i64 x.t.kind, .string x.t.name, .int .i64 x.t.n, .slice x.a x.t.args.length x.c, .int .i64 y.t.kind, .string y.t.name, .int .i64 y.t.n, .slice y.a y.t.args.length y.c] t (0, 0)
  exact ⟨tv_tmAt (hx.below hb) ⟨c 0, c 1, c 2, c 3⟩, tv_tmAt (hy.below hb) ⟨c 4, c 5, c 6, c 7⟩, trivial⟩

set_option maxRecDepth 100000 in
set_option maxHeartbeats 4000000 in
theorem lawOnce9_of {AR : ARel} (A : ArenaI AR) (w : World) (hT : Pow w) (AW : ∀ W, Below w.heap.size w W → Calls Tryd.prog 8 #[] W fun e w' => e = .returned (.bool true) ∧ Below W.heap.size W w')
    (v : Value) (ts : List Tm) (x y : Tv) (hv : Tms w v ts) (hx : x.ok w) (hy : y.ok w) :
    Calls Tryd.prog 4 #[v, x.val, y.val] w fun e w' => e = .returned (.bool true) ∧ Below w.heap.size w w' := by
  have AW1 := Lib.hid AW
  have FW := Lib.hid (fun (W : World) (h : Below w.heap.size w W) => rfewa_any v ts W (hv.below h))
  have F2 := Lib.hid (fun (u : Value) (W : World) (h : Tms W u [x.t, y.t]) => rfewa_any u _ W h)
  have T2 := Lib.hid (fun (W : World) (h : Below w.heap.size w W) => tms_two9 W x y (hx.below h) (hy.below h) 28)
  have FL := Lib.hid (fun (h1 : partsL ts ≤ 1200) (h2 : ∀ x ∈ ts, withinB x 300 = true) (W : World) (h : Below w.heap.size w W) => filled_any A w W v ts hv (reads_below h) hT (hT.below h) h1 h2)
  clear hT
  have SM := Lib.hid (fun (W : World) (h : Below w.heap.size w W) => same_tm x.t.parts x y W (Nat.le_refl _) (hx.below h) (hy.below h))
  obtain ⟨av, cv, rfl, hl, _⟩ := hv.open_
  have HX := Lib.hid hx
  have HY := Lib.hid hy
  have AA := Lib.hid A
  clear AW hv hx hy A
  obtain ⟨xt, xa, xc⟩ := x
  obtain ⟨yt, ya, yc⟩ := y
  have hbx := box_new w (.int .i64 xt.kind) (.string xt.name) (.int .i64 xt.n) (.slice xa xt.args.length xc) 28
  have hby := box_new (w.alloc (.cells #[.int .i64 xt.kind, .string xt.name, .int .i64 xt.n, .slice xa xt.args.length xc] 28)) (.int .i64 yt.kind) (.string yt.name) (.int .i64 yt.n) (.slice ya yt.args.length yc) 28
  have hz1 : (w.alloc (.cells #[.int .i64 xt.kind, .string xt.name, .int .i64 xt.n, .slice xa xt.args.length xc] 28)).heap.size = w.heap.size + 1 := by simp
  rw [hz1] at hby
  have hBA := below_two9 w (.cells #[.int .i64 xt.kind, .string xt.name, .int .i64 xt.n, .slice xa xt.args.length xc] 28) (.cells #[.int .i64 yt.kind, .string yt.name, .int .i64 yt.n, .slice ya yt.args.length yc] 28)
  have hbx2 := hbx.below ((Below.refl _ _).alloc (Nat.le_refl _) (.cells #[.int .i64 yt.kind, .string yt.name, .int .i64 yt.n, .slice ya yt.args.length yc] 28)) (by rw [hz1]; omega)
  obtain ⟨wb, hwb⟩ : ∃ wb, wb = (w.alloc (.cells #[.int .i64 xt.kind, .string xt.name, .int .i64 xt.n, .slice xa xt.args.length xc] 28)).alloc (.cells #[.int .i64 yt.kind, .string yt.name, .int .i64 yt.n, .slice ya yt.args.length yc] 28) := ⟨_, rfl⟩
  have hz2 : wb.heap.size = w.heap.size + 2 := by rw [hwb]; simp
  rw [← hwb] at hby hBA hbx2
  have HBX := Lib.hid (fun (V : World) (h : Below wb.heap.size wb V) => hbx2.below h (by omega))
  have HBY := Lib.hid (fun (V : World) (h : Below wb.heap.size wb V) => hby.below h (by omega))
  have HW := Lib.hid (fun (V : World) (h : Below wb.heap.size wb V) => hBA.trans (h.mono hBA.size))
  clear hbx hby hz1 hBA hbx2 hz2
  simp only [Tv.val] at *
  go_enter Tryd.func4, Tryd.ntmps4
  go_wp2_with fail
  rw [← hwb]
  clear hwb
  refine (AW1.out _ (HW.out _ (Below.refl _ _))).mono ?_; rintro e w1 ⟨rfl, hb1⟩
  go_wp2_with fail
  refine (FW.out _ (HW.out _ hb1)).mono ?_; rintro e w2 ⟨rfl, hb2⟩
  replace hb2 := below_next hb1 hb2
  clear hb1
  cases hf : fewA ts with
  | false =>
    have HE := Lib.hid (HW.out _ hb2)
    clear hb2
    go_wp2_with fail
    go_ret
    exact ⟨rfl, HE.out⟩
  | true =>
  obtain ⟨p0, p1, p2, p3, _, _, _, _⟩ := HBX.out w2 hb2
  obtain ⟨q0, q1, q2, q3, _, _, _, _⟩ := HBY.out w2 hb2
  have hT2 := Lib.hid (F2.out _ _ (T2.out w2 (HW.out _ hb2)))
  have hb2a : Below w2.heap.size w2 (w2.alloc (.cells #[.int .i64 xt.kind, .string xt.name, .int .i64 xt.n, .slice xa xt.args.length xc, .int .i64 yt.kind, .string yt.name, .int .i64 yt.n, .slice ya yt.args.length yc] 28)) := (Below.refl _ _).alloc (Nat.le_refl _) _
  go_wp2_with fail
  refine hT2.out.mono ?_; rintro e w3 ⟨rfl, hb3⟩
  replace hb3 := below_next (below_next hb2 hb2a) hb3
  clear hb2 hb2a p0 p1 p2 p3 q0 q1 q2 q3 hT2
  cases hg : fewA [xt, yt] with
  | false =>
    have HE := Lib.hid (HW.out _ hb3)
    clear hb3
    go_wp2_with fail
    go_ret
    exact ⟨rfl, HE.out⟩
  | true =>
  have hpt := fewA_parts hf
  have hw1 : withinB xt 300 = true := fewA_mem hg (List.mem_cons_self ..)
  have hw2 : withinB yt 300 = true := fewA_mem hg (List.mem_cons_of_mem _ (List.mem_cons_self ..))
  have hp1 : xt.parts ≤ 60 := by have := within_parts ((fewA_of hg).2 xt (List.mem_cons_self ..)); omega
  have hp2 : yt.parts ≤ 60 := by have := within_parts ((fewA_of hg).2 yt (List.mem_cons_of_mem _ (List.mem_cons_self ..))); omega
  have FL3 := Lib.hid (FL.out (by omega) (fun x hx => fewA_mem hf hx) w3 (HW.out _ hb3))
  go_wp2_with fail
  refine FL3.out.mono ?_; rintro e w4 ⟨p, C, rfl, h4⟩
  obtain ⟨L, hL⟩ : ∃ L, putTs ts [] = L := ⟨_, rfl⟩
  have hLl : L.length ≤ 720 := by rw [← hL]; have := putTs_length ts []; simp only [List.length_nil] at this; omega
  rw [hL] at h4
  -- the law's boxes and terms stand in whatever follows
  have hB4 : Below wb.heap.size wb w4 := hb3.trans (h4.below.mono hb3.size)
  have HB4 := Lib.hid hB4
  have KEEP := Lib.hid (fun (V : World) (h : Below w3.heap.size w3 V) => (show (V.cell? ⟨w.heap.size, 0, none⟩ = some (.int .i64 xt.kind) ∧ V.cell? ⟨w.heap.size, 1, none⟩ = some (.string xt.name) ∧ V.cell? ⟨w.heap.size, 2, none⟩ = some (.int .i64 xt.n) ∧ V.cell? ⟨w.heap.size, 3, none⟩ = some (.slice xa xt.args.length xc)) ∧ (V.cell? ⟨w.heap.size + 1, 0, none⟩ = some (.int .i64 yt.kind) ∧ V.cell? ⟨w.heap.size + 1, 1, none⟩ = some (.string yt.name) ∧ V.cell? ⟨w.heap.size + 1, 2, none⟩ = some (.int .i64 yt.n) ∧ V.cell? ⟨w.heap.size + 1, 3, none⟩ = some (.slice ya yt.args.length yc)) from by
    have h1 := HBX.out V (hb3.trans (h.mono hb3.size))
    have h2 := HBY.out V (hb3.trans (h.mono hb3.size))
    exact ⟨⟨h1.c0, h1.c1, h1.c2, h1.c3⟩, ⟨h2.c0, h2.c1, h2.c2, h2.c3⟩⟩))
  have HW3 := Lib.hid (fun (V : World) (h : Below w3.heap.size w3 V) => HW.out V (hb3.trans (h.mono hb3.size)))
  have hl1 := putT_length xt L
  have hl2 := putT_length yt (putT xt L)
  have hd : Below w4.heap.size w4 w4.drew := (Below.refl _ _).drew
  have h4d := h4.on AA.out hd
  obtain ⟨L1, hL1⟩ : ∃ L1, putT xt L = L1 := ⟨_, rfl⟩
  obtain ⟨L2, hL2⟩ : ∃ L2, putT yt L1 = L2 := ⟨_, rfl⟩
  rw [hL1, hL2] at hl2
  rw [hL1] at hl1
  have hm1 : xt ∈ L1 := by rw [← hL1]; exact putT_mem _ _
  have hm2 : yt ∈ L2 := by rw [← hL2]; exact putT_mem _ _
  have hm12 : xt ∈ L2 := by rw [← hL2]; exact mem_putT hm1
  have hn12 : numT L2 xt = numT L1 xt := by rw [← hL2]; exact numT_put hm1
  have P1 := Lib.hid (fun (C9 : Nat → Prop) (V : World) (h : AR C9 w V p L) => (show Calls Tryd.prog 12 #[p, .agg #[.int .i64 xt.kind, .string xt.name, .int .i64 xt.n, .slice xa xt.args.length xc]] V (ArPost AR C9 w V p L1 fun e _ => e = .returned (.int .i64 (numT L1 xt))) from by rw [← hL1]; exact AA.out.put ⟨xt, xa, xc⟩ h HX.out hw1 (by simp only; omega)))
  have P2 := Lib.hid (fun (C9 : Nat → Prop) (V : World) (h : AR C9 w V p L1) => (show Calls Tryd.prog 12 #[p, .agg #[.int .i64 yt.kind, .string yt.name, .int .i64 yt.n, .slice ya yt.args.length yc]] V (ArPost AR C9 w V p L2 fun e _ => e = .returned (.int .i64 (numT L2 yt))) from by rw [← hL2]; exact AA.out.put ⟨yt, ya, yc⟩ h HY.out hw2 (by simp only; omega)))
  have P3 := Lib.hid (fun (C9 : Nat → Prop) (V : World) (h : AR C9 w V p L2) => (show Calls Tryd.prog 12 #[p, .agg #[.int .i64 xt.kind, .string xt.name, .int .i64 xt.n, .slice xa xt.args.length xc]] V (ArPost AR C9 w V p L2 fun e _ => e = .returned (.int .i64 (numT L1 xt))) from by
    have h2 := AA.out.put ⟨xt, xa, xc⟩ h HX.out hw1 (by simp only; omega)
    rw [show (⟨xt, xa, xc⟩ : Tv).t = xt from rfl, (AA.out.ord h).put_in xt hm12, hn12] at h2
    exact h2))
  have hsame : (numT L1 xt == numT L2 yt) = eqT xt yt := by
    rw [← hn12]
    by_cases he : xt = yt
    · rw [eqT_true he, he, beq_self_eq_true]
    · rw [eqT_false he, beq_eq_false_iff_ne]
      exact fun h => he ((numT_same hm12 hm2).1 h)
  obtain ⟨z1, hz1⟩ : ∃ z, numT L1 xt = z := ⟨_, rfl⟩
  obtain ⟨z2, hz2⟩ : ∃ z, numT L2 yt = z := ⟨_, rfl⟩
  obtain ⟨eb, heb⟩ : ∃ b, eqT xt yt = b := ⟨_, rfl⟩
  rw [hz1] at P1 P3 hsame
  rw [hz2] at P2 hsame
  rw [heb] at hsame
  have SM2 := Lib.hid (fun (W : World) (h : Below w.heap.size w W) => (SM.out W h).mono (fun e w' k => (show e = Ending.returned (.bool eb) ∧ Below W.heap.size W w' from by rw [← heb]; exact k)))
  have HL2 := Lib.hid (show L2.length ≤ 1200 by omega)
  have hq1 : (z1 != z1) = false := by simp
  have hq2 : (eb != eb) = false := by simp
  have H4D := Lib.hid h4d
  have S4 := Lib.hid (KEEP.out _ h4d.below)
  have hS4 := S4.out
  clear hf hg hpt hw1 hw2 hp1 hp2 FL3 FL h4 hb3 hB4 hl1 hl2 hd h4d hL hLl hL1 hL2 hm1 hm2 hm12 hn12 hz1 hz2 heb FW F2 T2 AW1 SM
  go_wp2_with fail
  go_region_held3 (fun W => (W.cell? ⟨w.heap.size, 0, none⟩ = some (.int .i64 xt.kind) ∧ W.cell? ⟨w.heap.size, 1, none⟩ = some (.string xt.name) ∧ W.cell? ⟨w.heap.size, 2, none⟩ = some (.int .i64 xt.n) ∧ W.cell? ⟨w.heap.size, 3, none⟩ = some (.slice xa xt.args.length xc)) ∧ (W.cell? ⟨w.heap.size + 1, 0, none⟩ = some (.int .i64 yt.kind) ∧ W.cell? ⟨w.heap.size + 1, 1, none⟩ = some (.string yt.name) ∧ W.cell? ⟨w.heap.size + 1, 2, none⟩ = some (.int .i64 yt.n) ∧ W.cell? ⟨w.heap.size + 1, 3, none⟩ = some (.slice ya yt.args.length yc))) (first | exact S4.out | with_reducible assumption)
    ((first
      | (go_at_call_has 12 (Value.slice ya yt.args.length yc); refine (P2.out C5 _ h5.ar).mono ?_; rintro e w6 hp6; obtain ⟨C6, rfl, h6, _, _⟩ := h5.more hp6; have H6 := Lib.hid h6; have s6 := KEEP.out _ h6.below; clear hp6 h6)
      | (go_at_call 12; refine (P1.out _ _ H4D.out.ar).mono ?_; rintro e w5 hp5; obtain ⟨C5, rfl, h5, _, _⟩ := H4D.out.more hp5; have s5 := KEEP.out _ h5.below)))
  have hb67 := HW3.out _ H6.out.below
  obtain ⟨⟨p0, p1, p2, p3⟩, ⟨q0, q1, q2, q3⟩⟩ := KEEP.out _ H6.out.below
  clear hS4
  go_wp2_with fail
  refine (SM2.out _ hb67).mono ?_; rintro e w7 ⟨rfl, hb7⟩
  have h7 := H6.out.on AA.out hb7
  have HP7 := Lib.hid (P3.out _ _ h7.ar)
  have H7 := Lib.hid h7
  clear p0 p1 p2 p3 q0 q1 q2 q3 hb67 hb7 h7
  obtain ⟨⟨p0, p1, p2, p3⟩, _⟩ := KEEP.out _ H7.out.below
  go_wp2_with fail
  refine HP7.out.mono ?_; rintro e w8 hp8
  obtain ⟨C8, rfl, h8, _, _⟩ := H7.out.more hp8
  have H8 := Lib.hid h8
  have HLEN := Lib.hid (fun (C9 : Nat → Prop) (V : World) (h : AR C9 w V p L2) => AA.out.len h HL2.out)
  have HAT := Lib.hid (fun (k : Nat) (hk : k < L2.length) (C9 : Nat → Prop) (V : World) (h : AR C9 w V p L2) => AA.out.at_ k hk h HL2.out)
  have HIX := Lib.hid (fun (k : Nat) (hk : k < L2.length) (x : Tm) (hx : x ∈ L2[k].args) => numT_idx (AA.out.ord H8.out.ar) hk hx)
  have hLL := HL2.out
  clear hp8 h8 p0 p1 p2 p3 hq1 hq2 hsame SM2 P1 P2 P3 HP7
  go_wp2_with fail
  go_loopw [10] (fun i wr => ∃ (k : Nat) (C9 : Nat → Prop), k ≤ L2.length ∧ i = .int .i64 k ∧ Hid (ArNew AR w w3 p L2 C9 wr)) (fun i _ => L2.length - (intOf i).toNat)
  case atStart => exact ⟨0, C8, Nat.zero_le _, rfl, H8⟩
  case round =>
    obtain ⟨k, C9, hk, rfl, H9⟩ := hrel
    obtain ⟨wo, hwo⟩ : ∃ wo, wo = wr := ⟨_, rfl⟩
    subst hwo
    have LN := Lib.hid (HLEN.out _ _ H9.out.ar)
    have hk0 : (0 : Int) ≤ (k : Int) := by omega
    by_cases hkl : k < L2.length
    · have hd9 : decide ((k : Int) < (L2.length : Int)) = true := decide_eq_true (by omega)
      go_wp2_with fail
      refine LN.out.mono ?_; rintro e wa hpa
      obtain ⟨Ca, rfl, ha, _, _⟩ := H9.out.more hpa
      have HA := Lib.hid ha
      have AT := Lib.hid (HAT.out k hkl _ _ ha.ar)
      clear hpa ha
      go_wp2_with fail
      refine AT.out.mono ?_; rintro e wc hpc
      obtain ⟨Cc, ⟨na, nm, nc, rfl, hnu⟩, hc, _, _⟩ := HA.out.more hpc
      obtain ⟨na', nc', he, hnl1, hnl2, _, hnr⟩ := hnu
      obtain ⟨ns, hns⟩ : ∃ ns, L2[k].args.map (numT L2) = ns := ⟨_, rfl⟩
      have HNS := Lib.hid (show ∀ (j : Nat) (z : Int), ns[j]? = some z → 0 ≤ z ∧ z < (k : Int) from fun j z hj => by
        rw [← hns] at hj
        have hm := List.mem_of_getElem? hj
        obtain ⟨y, hy, rfl⟩ := List.mem_map.1 hm
        exact HIX.out k hkl y hy)
      rw [hns] at he hnr hnl1
      have hnl : ns.length ≤ 9223372036854775807 := by omega
      obtain ⟨rfl, rfl, rfl⟩ : na = na' ∧ nm = ns.length ∧ nc = nc' := by cases he; exact ⟨rfl, rfl, rfl⟩
      obtain ⟨ek, es, en⟩ : ∃ ek es, L2[k].kind = ek ∧ L2[k].name = es := ⟨_, _, rfl, rfl⟩
      obtain ⟨en1, hen1⟩ : ∃ z, L2[k].n = z := ⟨_, rfl⟩
      rw [en.1, en.2, hen1]
      have HC := Lib.hid hc
      have HNR := Lib.hid hnr
      clear hpc he hnr hns hc en hen1
      go_wp2_with fail
      have hLn : ∀ o : Obj, Below wc.heap.size wc (wc.alloc o) := fun o => (Below.refl _ _).alloc (Nat.le_refl _) _
      go_loopw [66] (fun i wr => ∃ j : Nat, j ≤ ns.length ∧ i = .int .i64 j ∧ Hid (Below wc.heap.size wc wr)) (fun i _ => ns.length - (intOf i).toNat)
      case atStart => exact ⟨0, Nat.zero_le _, rfl, Lib.hid (hLn _)⟩
      case round =>
        obtain ⟨j, hj, rfl, HBJ⟩ := hrel
        by_cases hjl : j < ns.length
        · obtain ⟨z, hz⟩ : ∃ z, ns[j]? = some z := ⟨_, List.getElem?_eq_getElem hjl⟩
          obtain ⟨b9, o9, rfl, hlt9, hat9⟩ := HNR.out.resolve_left (by intro h; rw [h] at hjl; simp at hjl)
          have hzr := HNS.out j z hz
          have d9 : wr.cell? ⟨b9, o9 + j, none⟩ = some (.int .i64 z) := (HBJ.out.cell (p := ⟨b9, o9 + j, none⟩) hlt9).trans (hat9 j z hz)
          have hj0 : (0 : Int) ≤ (j : Int) := by omega
          have hj1 : (j : Int) < (ns.length : Int) := by omega
          have hd0 : decide (z < (0 : Int)) = false := decide_eq_false (by omega)
          have hd1 : decide ((k : Int) ≤ z) = false := decide_eq_false (by omega)
          clear hz hat9 hzr
          go_wp2
          go_roundw
          case rel => exact ⟨j + 1, by omega, by go_num, HBJ⟩
          case measure => simp [intOf]; omega
        · obtain rfl : j = ns.length := by omega
          have HN9 := Lib.hid (HC.out.on AA.out HBJ.out)
          go_wp2
          go_roundw
          case rel => exact ⟨k + 1, Cc, by omega, by go_num, HN9⟩
          case measure => simp [intOf]; omega
    · obtain rfl : k = L2.length := by omega
      have hd9 : decide ((L2.length : Int) < (L2.length : Int)) = false := decide_eq_false (by omega)
      go_wp2_with fail
      refine LN.out.mono ?_; rintro e wa hpa
      obtain ⟨Ca, rfl, ha, _, _⟩ := H9.out.more hpa
      have HE := Lib.hid (HW3.out _ ha.below)
      clear hpa ha
      go_wp2_with fail
      go_ret
      exact ⟨rfl, HE.out⟩
end Go.Proofs.YtccpfgpdcicjaaaDoor

namespace Go.Proofs.YtccpfgpdcicjaaaDoor
open Go.RowKit

/-- What is told of an arena that nobody made. -/
structure ArenaNone : Prop where
  get : ∀ W, Calls Tryd.prog 25 #[.pointer none, .int .i64 0] W fun e W' => e = .returned (.tuple #[.agg #[.int .i64 0, .string ⟨#[]⟩, .int .i64 0, .slice none 0 0], .bool false]) ∧ Below W.heap.size W W'
  find : ∀ (x : Tv) W, x.ok W → x.t.parts ≤ 300 → Calls Tryd.prog 24 #[.pointer none, x.val] W fun e W' => e = .returned (.tuple #[.int .i64 0, .bool false]) ∧ Below W.heap.size W W'
  node : ∀ W, Calls Tryd.prog 21 #[.pointer none, .agg #[.int .i64 0, .string ⟨#[]⟩, .int .i64 0, .slice none 0 0]] W fun e W' => e = .returned (.tuple #[.int .i64 0, .bool false]) ∧ Below W.heap.size W W'
  put : ∀ (x : Tv) W, x.ok W → x.t.parts ≤ 300 → Calls Tryd.prog 12 #[.pointer none, x.val] W fun e W' => e = .returned (.int .i64 0) ∧ Below W.heap.size W W'
  len : ∀ W, Calls Tryd.prog 17 #[.pointer none] W fun e W' => e = .returned (.int .i64 0) ∧ Below W.heap.size W W'
  copy : ∀ W, Calls Tryd.prog 32 #[.pointer none] W fun e W' => e = .returned (.pointer none) ∧ Below W.heap.size W W'

/-- Two arenas that were made since, each by itself. -/
structure ArTwo (AR : ARel) (w0 W : World) (p q : Value) (L M : List Tm) (C D : Nat → Prop) (W' : World) : Prop where
  one : ArNew AR w0 W p L C W'
  two : ArNew AR w0 W q M D W'
  apart : ∀ k, C k → ¬ D k
variable {AR : ARel} {w0 W W1 W2 : World} {p q : Value} {L L2 M M2 : List Tm} {C D : Nat → Prop} {R : Ending → World → Prop} {e : Ending}
theorem ArTwo.turn (h : ArTwo AR w0 W p q L M C D W1) : ArTwo AR w0 W q p M L D C W1 := ⟨h.two, h.one, fun k hd hc => h.apart k hc hd⟩
theorem ArTwo.more (A : ArenaI AR) (h : ArTwo AR w0 W p q L M C D W1) (k : ArPost AR C w0 W1 p L2 R e W2) : ∃ C2, R e W2 ∧ ArTwo AR w0 W p q L2 M C2 D W2 := by
  obtain ⟨C2, hr, h2, hs, hn⟩ := k
  refine ⟨C2, hr, ⟨⟨h2, fun b hb => ?_, step_new h.one.below h.one.new hs⟩, ⟨A.stay h.two.ar hs (fun k hd hc => h.apart k hc hd) (fun k hk => (A.own h.one.ar k hk).2), h.two.new, step_new h.one.below h.one.new hs⟩, fun k hc hd => ?_⟩⟩
  · rcases hn b hb with h1 | h1
    · exact h.one.new b h1
    · exact Nat.le_trans h.one.below.size h1
  · rcases hn k hc with h1 | h1
    · exact h.apart k h1 hd
    · have := (A.own h.two.ar k hd).1; omega
theorem ArTwo.on (A : ArenaI AR) (h : ArTwo AR w0 W p q L M C D W1) (hb : Below W1.heap.size W1 W2) : ArTwo AR w0 W p q L M C D W2 := ⟨h.one.on A hb, h.two.on A hb, h.apart⟩
theorem ArTwo.sight (A : ArenaI AR) (h : ArTwo AR w0 W p q L M C D W1) (hb : Below W1.heap.size W1 W2) : ArTwo AR (seen w0 W1 W2) W p q L M C D W2 := ⟨h.one.sight A hb, h.two.sight A hb, h.apart⟩

set_option maxRecDepth 100000 in
set_option maxHeartbeats 4000000 in
theorem lawCopies9_of (A : ArenaI AR) (NO : ArenaNone) (w : World) (hT : Pow w) (AW : ∀ W, Below w.heap.size w W → Calls Tryd.prog 8 #[] W fun e w' => e = .returned (.bool true) ∧ Below W.heap.size W w')
    (v : Value) (ts : List Tm) (x y : Tv) (hv : Tms w v ts) (hx : x.ok w) (hy : y.ok w) :
    Calls Tryd.prog 7 #[v, x.val, y.val] w fun e w' => e = .returned (.bool true) ∧ Below w.heap.size w w' := by
  have AW1 := Lib.hid AW
  have FW := Lib.hid (fun (W : World) (h : Below w.heap.size w W) => rfewa_any v ts W (hv.below h))
  have F2 := Lib.hid (fun (u : Value) (W : World) (h : Tms W u [x.t, y.t]) => rfewa_any u _ W h)
  have T2 := Lib.hid (fun (W : World) (h : Below w.heap.size w W) => tms_two9 W x y (hx.below h) (hy.below h) 28)
  have FL := Lib.hid (fun (h1 : partsL ts ≤ 1200) (h2 : ∀ x ∈ ts, withinB x 300 = true) (W : World) (h : Below w.heap.size w W) => filled_any A w W v ts hv (reads_below h) hT (hT.below h) h1 h2)
  clear hT
  have PS := Lib.hid (fun (h1 : partsL ts ≤ 50000) (W : World) (h : Reads w W) => rputs_any v ts w W hv h1 h)
  obtain ⟨av, cv, rfl, hl, _⟩ := hv.open_
  have HX := Lib.hid hx
  have HY := Lib.hid hy
  have AA := Lib.hid A
  have NN := Lib.hid NO
  clear AW hv hx hy A NO
  obtain ⟨xt, xa, xc⟩ := x
  obtain ⟨yt, ya, yc⟩ := y
  have hbx := box_new w (.int .i64 xt.kind) (.string xt.name) (.int .i64 xt.n) (.slice xa xt.args.length xc) 28
  have hby := box_new (w.alloc (.cells #[.int .i64 xt.kind, .string xt.name, .int .i64 xt.n, .slice xa xt.args.length xc] 28)) (.int .i64 yt.kind) (.string yt.name) (.int .i64 yt.n) (.slice ya yt.args.length yc) 28
  have hz1 : (w.alloc (.cells #[.int .i64 xt.kind, .string xt.name, .int .i64 xt.n, .slice xa xt.args.length xc] 28)).heap.size = w.heap.size + 1 := by simp
  rw [hz1] at hby
  have hBA := below_two9 w (.cells #[.int .i64 xt.kind, .string xt.name, .int .i64 xt.n, .slice xa xt.args.length xc] 28) (.cells #[.int .i64 yt.kind, .string yt.name, .int .i64 yt.n, .slice ya yt.args.length yc] 28)
  have hbx2 := hbx.below ((Below.refl _ _).alloc (Nat.le_refl _) (.cells #[.int .i64 yt.kind, .string yt.name, .int .i64 yt.n, .slice ya yt.args.length yc] 28)) (by rw [hz1]; omega)
  obtain ⟨wb, hwb⟩ : ∃ wb, wb = (w.alloc (.cells #[.int .i64 xt.kind, .string xt.name, .int .i64 xt.n, .slice xa xt.args.length xc] 28)).alloc (.cells #[.int .i64 yt.kind, .string yt.name, .int .i64 yt.n, .slice ya yt.args.length yc] 28) := ⟨_, rfl⟩
  have hz2 : wb.heap.size = w.heap.size + 2 := by rw [hwb]; simp
  rw [← hwb] at hby hBA hbx2
  have HBX := Lib.hid (fun (V : World) (h : Below wb.heap.size wb V) => hbx2.below h (by omega))
  have HBY := Lib.hid (fun (V : World) (h : Below wb.heap.size wb V) => hby.below h (by omega))
  have HW := Lib.hid (fun (V : World) (h : Below wb.heap.size wb V) => hBA.trans (h.mono hBA.size))
  clear hbx hby hz1 hBA hbx2 hz2
  simp only [Tv.val] at *
  go_enter Tryd.func7, Tryd.ntmps7
  go_wp2_with fail
  rw [← hwb]
  clear hwb
  refine (AW1.out _ (HW.out _ (Below.refl _ _))).mono ?_; rintro e w1 ⟨rfl, hb1⟩
  go_wp2_with fail
  refine (FW.out _ (HW.out _ hb1)).mono ?_; rintro e w2 ⟨rfl, hb2⟩
  replace hb2 := below_next hb1 hb2
  clear hb1
  cases hf : fewA ts with
  | false =>
    have HE := Lib.hid (HW.out _ hb2)
    clear hb2
    go_wp2_with fail
    go_ret
    exact ⟨rfl, HE.out⟩
  | true =>
  obtain ⟨p0, p1, p2, p3, _, _, _, _⟩ := HBX.out w2 hb2
  obtain ⟨q0, q1, q2, q3, _, _, _, _⟩ := HBY.out w2 hb2
  have hT2 := Lib.hid (F2.out _ _ (T2.out w2 (HW.out _ hb2)))
  have hb2a : Below w2.heap.size w2 (w2.alloc (.cells #[.int .i64 xt.kind, .string xt.name, .int .i64 xt.n, .slice xa xt.args.length xc, .int .i64 yt.kind, .string yt.name, .int .i64 yt.n, .slice ya yt.args.length yc] 28)) := (Below.refl _ _).alloc (Nat.le_refl _) _
  go_wp2_with fail
  refine hT2.out.mono ?_; rintro e w3 ⟨rfl, hb3⟩
  replace hb3 := below_next (below_next hb2 hb2a) hb3
  clear hb2 hb2a p0 p1 p2 p3 q0 q1 q2 q3 hT2
  cases hg : fewA [xt, yt] with
  | false =>
    have HE := Lib.hid (HW.out _ hb3)
    clear hb3
    go_wp2_with fail
    go_ret
    exact ⟨rfl, HE.out⟩
  | true =>
  have hpt := fewA_parts hf
  have hw1 : withinB xt 300 = true := fewA_mem hg (List.mem_cons_self ..)
  have hw2 : withinB yt 300 = true := fewA_mem hg (List.mem_cons_of_mem _ (List.mem_cons_self ..))
  have hp1 : xt.parts ≤ 60 := by have := within_parts ((fewA_of hg).2 xt (List.mem_cons_self ..)); omega
  have hp2 : yt.parts ≤ 60 := by have := within_parts ((fewA_of hg).2 yt (List.mem_cons_of_mem _ (List.mem_cons_self ..))); omega
  have FL3 := Lib.hid (FL.out (by omega) (fun x hx => fewA_mem hf hx) w3 (HW.out _ hb3))
  have PS3 := Lib.hid (PS.out (by omega))
  obtain ⟨L, hL⟩ : ∃ L, putTs ts [] = L := ⟨_, rfl⟩
  have hLl : L.length ≤ 720 := by rw [← hL]; have := putTs_length ts []; simp only [List.length_nil] at this; omega
  rw [hL] at FL3 PS3
  have hl1 := putT_length xt L
  have hl2 := putT_length yt L
  have KX := Lib.hid (fun (V : World) (h : Below w3.heap.size w3 V) => HBX.out V (hb3.trans (h.mono hb3.size)))
  have KY := Lib.hid (fun (V : World) (h : Below w3.heap.size w3 V) => HBY.out V (hb3.trans (h.mono hb3.size)))
  have HW3 := Lib.hid (fun (V : World) (h : Below w3.heap.size w3 V) => HW.out V (hb3.trans (h.mono hb3.size)))
  have P1 := Lib.hid (fun (u : Value) (C9 : Nat → Prop) (w9 V : World) (h9 : Reads w w9) (h : AR C9 w9 V u L) => AA.out.put ⟨xt, xa, xc⟩ h (HX.out.reads h9) hw1 (by simp only; omega))
  have P2 := Lib.hid (fun (u : Value) (C9 : Nat → Prop) (w9 V : World) (h9 : Reads w w9) (h : AR C9 w9 V u L) => AA.out.put ⟨yt, ya, yc⟩ h (HY.out.reads h9) hw2 (by simp only; omega))
  have R1 := Lib.hid (fun (u : Value) (w9 V : World) (h9 : Reads w w9) (h : Tms w9 u L) (hr : Reads w9 V) => rput9_tm xt.parts ⟨xt, xa, xc⟩ u L w9 V (Nat.le_refl _) (by omega) (HX.out.reads h9) h (by simp only; omega) hr)
  have R2 := Lib.hid (fun (u : Value) (w9 V : World) (h9 : Reads w w9) (h : Tms w9 u L) (hr : Reads w9 V) => rput9_tm yt.parts ⟨yt, ya, yc⟩ u L w9 V (Nat.le_refl _) (by omega) (HY.out.reads h9) h (by simp only; omega) hr)
  have CP := Lib.hid (fun (C9 : Nat → Prop) (u : Value) (V : World) (h : AR C9 w V u L) => AA.out.copy h (by omega))
  have IS := Lib.hid (fun (w9 V : World) (C9 : Nat → Prop) (u f : Value) (M : List Tm) (hM : M.length ≤ 1200) (h : AR C9 w9 V u M) (hv : Tms w9 f M) => is_any AA.out h hv hM)
  have N2 := Lib.hid (fun (V : World) (h : Reads w V) => NN.out.find ⟨xt, xa, xc⟩ V (HX.out.reads h) (by simp only; omega))
  have N4 := Lib.hid (fun (V : World) (h : Reads w V) => NN.out.put ⟨xt, xa, xc⟩ V (HX.out.reads h) (by simp only; omega))
  have hM1 : (putT xt L).length ≤ 1200 := by omega
  have hM2 : (putT yt L).length ≤ 1200 := by omega
  simp only [Tv.val] at P1 P2 R1 R2 N2 N4
  obtain ⟨M1, hM1e⟩ : ∃ M, putT xt L = M := ⟨_, rfl⟩
  obtain ⟨M2, hM2e⟩ : ∃ M, putT yt L = M := ⟨_, rfl⟩
  simp only [hM1e] at P1 R1 hM1
  simp only [hM2e] at P2 R2 hM2
  clear hf hg hpt hw1 hw2 hp1 hp2 FL hl1 hl2 hL hLl FW F2 T2 AW1 PS hM1e hM2e
  go_wp2_with fail
  refine FL3.out.mono ?_; rintro e w4 ⟨p, C, rfl, h4⟩
  have CP4 := Lib.hid (CP.out _ _ _ h4.ar)
  have H4 := Lib.hid h4
  clear h4 FL3 CP
  go_wp2_with fail
  refine CP4.out.mono ?_; rintro e w5 ⟨q, C1, D1, wS, rfl, ha1, ha2, hap, hs5, hn1, hn2⟩
  have HUS := Lib.hid hs5.up
  have h5 : ArTwo AR wS w3 p q L L C1 D1 w5 := ⟨⟨ha1, fun k hk => by
      rcases hn1 k hk with h1 | h1
      · exact H4.out.new k h1
      · exact Nat.le_trans H4.out.below.size h1, step_new H4.out.below H4.out.new hs5⟩, ⟨ha2, fun k hk => Nat.le_trans H4.out.below.size (hn2 k hk), step_new H4.out.below H4.out.new hs5⟩, hap⟩
  have H5 := Lib.hid h5
  have P5 := Lib.hid (P1.out _ _ _ _ HUS.out h5.one.ar)
  obtain ⟨p0, p1, p2, p3, _, _, _, _⟩ := KX.out _ h5.one.below
  clear ha1 ha2 hap hs5 hn1 hn2 h5 CP4
  go_wp2_with fail
  refine P5.out.mono ?_; rintro e w6 hp6
  obtain ⟨C6, rfl, h6⟩ := H5.out.more AA.out hp6
  have H6 := Lib.hid h6.turn
  have P6 := Lib.hid (P2.out _ _ _ _ HUS.out h6.two.ar)
  clear p0 p1 p2 p3 hp6 P5
  obtain ⟨q0, q1, q2, q3, _, _, _, _⟩ := KY.out _ h6.one.below
  clear h6
  go_wp2_with fail
  refine P6.out.mono ?_; rintro e w7 hp7
  obtain ⟨D7, rfl, h7⟩ := H6.out.more AA.out hp7
  have H7 := Lib.hid h7.turn
  have PS7 := Lib.hid (PS3.out w7 (HUS.out.trans (AA.out.reads h7.one.ar)))
  clear q0 q1 q2 q3 hp7 P6 h7 PS3
  go_wp2_with fail
  refine PS7.out.mono ?_; rintro e w8 ⟨vw, rfl, hlw, hb8⟩
  have hr7 := AA.out.reads H7.out.one.ar
  have hr8 := hr7.trans (reads_below hb8)
  have H8 := Lib.hid (H7.out.sight AA.out hb8)
  have HU8 := Lib.hid (HUS.out.trans (seen_up (w := w7) hr8))
  have HTW := Lib.hid (hlw.sight2 HUS.out hr8)
  have R8 := Lib.hid (R1.out vw _ _ HU8.out HTW.out (AA.out.reads H8.out.one.ar))
  obtain ⟨p0, p1, p2, p3, _, _, _, _⟩ := KX.out _ H8.out.one.below
  clear hlw hb8 hr7 hr8 PS7
  go_wp2_with fail
  refine R8.out.mono ?_; rintro e w9 ⟨v9, rfl, hl9, hb9⟩
  have hr9 := (AA.out.reads H8.out.one.ar).trans (reads_below hb9)
  have H9 := Lib.hid (H8.out.sight AA.out hb9)
  have hup9 := seen_up (w := w8) hr9
  have HU9 := Lib.hid (HU8.out.trans hup9)
  have HTV := Lib.hid (HTW.out.reads hup9)
  have IS9 := Lib.hid (IS.out _ _ _ _ v9 M1 hM1 H9.out.one.ar (hl9.sight hr9))
  clear hl9 hb9 hr9 hup9 p0 p1 p2 p3 R8
  go_wp2_with fail
  refine IS9.out.mono ?_; rintro e w10 hp10
  obtain ⟨C10, rfl, h10⟩ := H9.out.more AA.out hp10
  have H10 := Lib.hid h10.turn
  have R10 := Lib.hid (R2.out vw _ _ HU9.out HTV.out (AA.out.reads h10.one.ar))
  obtain ⟨q0, q1, q2, q3, _, _, _, _⟩ := KY.out _ h10.one.below
  clear hp10 h10 IS9
  go_wp2_with fail
  refine R10.out.mono ?_; rintro e w11 ⟨v11, rfl, hl11, hb11⟩
  have hr11 := (AA.out.reads H10.out.one.ar).trans (reads_below hb11)
  have H11 := Lib.hid (H10.out.sight AA.out hb11)
  have HU11 := Lib.hid (HU9.out.trans (seen_up (w := w10) hr11))
  have IS11 := Lib.hid (IS.out _ _ _ _ v11 M2 hM2 H11.out.one.ar (hl11.sight hr11))
  clear hl11 hb11 hr11 q0 q1 q2 q3 R10
  go_wp2_with fail
  refine IS11.out.mono ?_; rintro e w12 hp12
  obtain ⟨C12, rfl, h12⟩ := H11.out.more AA.out hp12
  have H12 := Lib.hid (show Below w3.heap.size w3 w12 from h12.one.below)
  clear hp12 h12 IS11 IS R1 R2 P1 P2
  go_wp2_with fail
  refine (NN.out.get _).mono ?_; rintro e w13 ⟨rfl, hb13⟩
  have hb13a : Below w13.heap.size w13 (w13.alloc (.cells #[.int .i64 0, .string ⟨#[]⟩, .int .i64 0, .slice none 0 0] 28)) := (Below.refl _ _).alloc (Nat.le_refl _) _
  have H13 := Lib.hid (below_next (below_next H12.out hb13) hb13a)
  obtain ⟨p0, p1, p2, p3, _, _, _, _⟩ := KX.out _ H13.out
  have N13 := Lib.hid (N2.out _ (reads_below (HW3.out _ H13.out)))
  clear hb13 hb13a
  go_wp2_with fail
  refine N13.out.mono ?_; rintro e w14 ⟨rfl, hb14⟩
  have H14 := Lib.hid (below_next H13.out hb14)
  clear hb14 p0 p1 p2 p3 N13
  go_wp2_with fail
  refine (NN.out.node _).mono ?_; rintro e w15 ⟨rfl, hb15⟩
  have H15 := Lib.hid (below_next H14.out hb15)
  obtain ⟨p0, p1, p2, p3, _, _, _, _⟩ := KX.out _ H15.out
  have N15 := Lib.hid (N4.out _ (reads_below (HW3.out _ H15.out)))
  clear hb15
  go_wp2_with fail
  refine N15.out.mono ?_; rintro e w16 ⟨rfl, hb16⟩
  have H16 := Lib.hid (below_next H15.out hb16)
  clear hb16 p0 p1 p2 p3 N15
  go_wp2_with fail
  refine (NN.out.len _).mono ?_; rintro e w17 ⟨rfl, hb17⟩
  have H17 := Lib.hid (below_next H16.out hb17)
  clear hb17
  go_wp2_with fail
  refine (NN.out.copy _).mono ?_; rintro e w18 ⟨rfl, hb18⟩
  have HE := Lib.hid (HW3.out _ (below_next H17.out hb18))
  clear hb18
  go_wp2_with fail
  go_ret
  exact ⟨rfl, HE.out⟩
end Go.Proofs.YtccpfgpdcicjaaaDoor

namespace Go.Proofs.YtccpfgpdcicjaaaDoor
open Go.RowKit Go.Maps

theorem arenas : ArenaI AR where
  reads := ar_reads
  ord := ar_ord
  own := ar_own
  stay := ar_stay
  new := new_any
  put := fun x hA hx hw hl => pput_any x.t.parts x (Nat.le_refl _) hA hx hw hl
  len := fun {C w0 W p L} hA _ => by
    have hA2 := hA
    obtain ⟨F, g, bm, kv, es, D, rfl, hm, hs⟩ := hA
    obtain ⟨a, c, rfl, _⟩ := own_shape hm.row
    refine (len_any g bm a L.length c W hm.head).mono ?_; rintro e W' ⟨rfl, rfl⟩
    exact ar_post (R := fun e _ => e = .returned (.int .i64 L.length)) hA2 (Below.refl _ _) rfl
  get := fun i h hA _ => get_any i h hA
  getOut := fun i _ _ ho hA _ => get_out i ho hA
  at_ := fun i h hA _ => at_any i h hA
  getS := fun i h hA _ => getS_any i h hA
  atS := fun i h hA _ => atS_any i h hA
  atOut := fun i _ _ ho hA _ => at_out i ho hA
  find := fun x hA hx hw _ => by
    refine (pfind_any x.t.parts x (Nat.le_refl _) hA hx hw).mono ?_; rintro e W' ⟨hr, hb⟩
    exact ar_post (R := fun e _ => FindR _ x.t e) hA hb hr
  size := fun i h hA _ => size_any i h hA
  sizeOut := fun i _ _ ho hA _ => size_out i ho hA
  within := fun i h hA _ => pwithin_any i h hA
  withinOut := fun i _ _ ho hA _ => within_out i ho hA
  node := fun {C w0 W p L} k s n is a c hA hf hs hi hl hin hw hlen => by
    have hp : (Tm.mk k s n (getsT L is)).parts ≤ 300 := by have := within_parts hw; omega
    have h := pnode_any hA k s n is a c hf hs (hi.reads (ar_reads hA)) hin hp hlen _ rfl
    rw [putT, (ar_ord hA).puts_in _ (getsT_mem hin)]
    exact h
  nodeOut := fun k s n is a c hA hf hs hi hl hin _ => node_out hA k s n is a c (hi.reads (ar_reads hA)) hin
  copy := fun hA _ => copy_any hA
theorem arenaNone : ArenaNone where
  get := fun W => get_none W 0
  find := fun x W _ _ => find_none x W
  node := fun W => node_none 0 ⟨#[]⟩ 0 none 0 0 W
  put := fun x W hx hp => put_none x.t.parts x W (Nat.le_refl _) hx hp
  len := fun W => (len_none W).mono fun _ _ h => ⟨h.1, by rw [h.2]; exact Below.refl _ _⟩
  copy := copy_none
end Go.Proofs.YtccpfgpdcicjaaaDoor

namespace Go.Proofs.YtccpfgpdcicjaaaDoor
open Go.RowKit

set_option maxHeartbeats 400000 in
theorem small_tm (x : Tv) (w : World) (hx : x.ok w) :
    Calls Tryd.prog 23 #[x.val] w fun e w' => e = .returned (.bool (smallB x.t)) ∧ Below w.heap.size w w' := by
  have W := Lib.hid (fun w hx => within_tm x 300 (by omega) (by omega) w hx)
  have HX := Lib.hid hx
  have HB := Lib.hid (show withinB x.t 300 = smallB x.t from rfl)
  clear hx
  obtain ⟨t, a, c⟩ := x
  simp only [Tv.val] at W ⊢
  go_enter Tryd.func23, Tryd.ntmps23
  go_wp2_with fail
  refine (W.out _ (HX.out.below ((Below.refl _ _).alloc (Nat.le_refl _) _))).mono ?_; rintro e w1 ⟨rfl, hb1⟩
  have hb := below_box hb1
  clear hb1
  go_wp2_with fail
  go_ret
  exact ⟨ret_bool HB.out, hb⟩

end Go.Proofs.YtccpfgpdcicjaaaDoor

namespace Go.Proofs.YtccpfgpdcicjaaaDoor
open Go.RowKit

/-- Alike as far as k. -/
def NumsTo (ns ms : List Int) (k : Nat) : Prop := ∀ (j : Nat), j < k → ns[j]? = ms[j]?
theorem NumsTo.succ {ns ms : List Int} {k : Nat} (h : NumsTo ns ms k) (hk : ns[k]? = ms[k]?) : NumsTo ns ms (k + 1) := by
  intro j hj
  by_cases e : j = k
  · rw [e]; exact hk
  · exact h j (by omega)
theorem NumsTo.all {ns ms : List Int} (h : NumsTo ns ms ns.length) (hl : ns.length = ms.length) : ns = ms := by
  apply List.ext_getElem? ; intro j
  rcases Nat.lt_or_ge j ns.length with hj | hj
  · exact h j hj
  · rw [List.getElem?_eq_none hj, List.getElem?_eq_none (by omega)]
theorem drewN_two (w : World) (d k : Nat) : (w.drewN d).drewN k = w.drewN (d + k) := by simp [World.drewN, Nat.add_assoc]

set_option maxRecDepth 100000 in
set_option maxHeartbeats 1000000 in
theorem ints_any (v u : Value) (ns ms : List Int) (w : World) (hv : Nums w v ns) (hu : Nums w u ms) :
    Calls Tryd.prog 29 #[v, u] w fun e w' => e = .returned (.bool (decide (ns = ms))) ∧ ∃ k, w' = w.drewN k := by
  obtain ⟨a, c, rfl, hlc, hcm, _, h⟩ := hv
  obtain ⟨a', c', rfl, hlc', hcm', _, h'⟩ := hu
  by_cases hl : ns.length = ms.length
  · have hq : ((ns.length : Int) != (ms.length : Int)) = false := by simp [hl]
    have HL := Lib.hid hl
    rcases h with rfl | ⟨b, off, rfl, hlt, hc⟩
    · obtain rfl : ms = [] := List.eq_nil_of_length_eq_zero (by simpa using hl.symm)
      clear hl hq h'
      go_enter Tryd.func29, Tryd.ntmps29
      go_wp2_with fail
      refine wp_loop_rounds 1 ?_; rw [rounds_succ]
      go_wp2_with fail
      go_ret
      exact ⟨rfl, 0, rfl⟩
    · rcases h' with rfl | ⟨b', off', rfl, hlt', hc'⟩
      · obtain rfl : ns = [] := List.eq_nil_of_length_eq_zero (by simpa using hl)
        clear hl hq hc
        go_enter Tryd.func29, Tryd.ntmps29
        go_wp2_with fail
        refine wp_loop_rounds 1 ?_; rw [rounds_succ]
        go_wp2_with fail
        go_ret
        exact ⟨rfl, 0, rfl⟩
      · have HC := Lib.hid hc
        have HC' := Lib.hid hc'
        clear hc hc'
        go_enter Tryd.func29, Tryd.ntmps29
        go_wp2_with fail
        go_loopw [13] (fun i wr => ∃ k d : Nat, k ≤ ns.length ∧ i = .int .i64 k ∧ Hid (wr = w.drewN d) ∧ Hid (NumsTo ns ms k)) (fun i _ => ns.length - (intOf i).toNat)
        case atStart => exact ⟨0, 0, Nat.zero_le _, rfl, Lib.hid rfl, Lib.hid (fun j hj => by omega)⟩
        case round =>
          obtain ⟨k, d, hk, rfl, HW, HN⟩ := hrel
          by_cases hkl : k < ns.length
          · have hkm : k < ms.length := by have := HL.out; omega
            have e1 : ns[k]? = some ns[k] := List.getElem?_eq_getElem hkl
            have e2 : ms[k]? = some ms[k] := List.getElem?_eq_getElem hkm
            have c1 : wr.cell? ⟨b, off + k, none⟩ = some (.int .i64 ns[k]) := by rw [HW.out]; exact HC.out k _ e1
            have c2 : wr.cell? ⟨b', off' + k, none⟩ = some (.int .i64 ms[k]) := by rw [HW.out]; exact HC'.out k _ e2
            obtain ⟨x, hx⟩ : ∃ x, ns[k] = x := ⟨_, rfl⟩
            obtain ⟨y, hy⟩ : ∃ y, ms[k] = y := ⟨_, rfl⟩
            rw [hx] at c1 e1
            rw [hy] at c2 e2
            have E := Lib.hid (And.intro e1 e2)
            clear hx hy e1 e2
            have hk0 : (0 : Int) ≤ (k : Int) := by omega
            have hk1 : (k : Int) < (ns.length : Int) := by omega
            have hk2 : (k : Int) < (ms.length : Int) := by omega
            by_cases he : x = y
            · have hb : (x != y) = false := by simp [he]
              have HE := Lib.hid he
              clear he
              go_wp2_with fail
              go_quiet (fail)
              go_wp2_with fail
              go_roundw
              case rel => exact ⟨k + 1, d + nq, by omega, by go_num, Lib.hid (by rw [HW.out, drewN_two]), Lib.hid (HN.out.succ (by rw [E.out.1, E.out.2, HE.out]))⟩
              case measure => simp [intOf]; omega
            · have hb : (x != y) = true := by rw [bne_iff_ne]; exact he
              have HE := Lib.hid he
              clear he
              go_wp2_with fail
              go_quiet (fail)
              go_wp2_with fail
              go_ret
              exact ⟨ret_bool (decide_eq_false (fun e => HE.out (by have := E.out.1; rw [e, E.out.2] at this; exact (Option.some.inj this).symm))).symm, d + nq, by rw [HW.out, drewN_two]⟩
          · have hkl1 : ns.length ≤ k := by omega
            have hke : decide ((k : Int) < (ns.length : Int)) = false := decide_eq_false (by omega)
            have HK := Lib.hid (show k = ns.length by omega)
            go_wp2_with fail
            go_ret
            have hN := HN.out
            rw [HK.out] at hN
            exact ⟨ret_bool (decide_eq_true (hN.all HL.out)).symm, d, HW.out⟩
  · have hq : ((ns.length : Int) != (ms.length : Int)) = true := by rw [bne_iff_ne]; omega
    have hd : decide (ns = ms) = false := decide_eq_false (fun e => hl (by rw [e]))
    have HD := Lib.hid hd
    clear hl hd h h'
    go_enter Tryd.func29, Tryd.ntmps29
    go_wp2_with fail
    go_ret
    exact ⟨ret_bool HD.out.symm, 0, rfl⟩
end Go.Proofs.YtccpfgpdcicjaaaDoor

namespace Go.Proofs.YtccpfgpdcicjaaaDoor
open Go.RowKit

mutual
theorem all_le : ∀ (t : Tm), ∀ x ∈ t.all, x.parts ≤ t.parts
  | .mk k s n xs, x, h => by
    rw [Tm.all] at h
    rcases List.mem_cons.1 h with rfl | h
    · exact Nat.le_refl _
    · have := allL_le xs x h
      rw [Tm.parts]; omega
theorem allL_le : ∀ (l : List Tm), ∀ x ∈ allL l, x.parts ≤ partsL l
  | [], x, h => by rw [allL] at h; cases h
  | t :: r, x, h => by
    rw [allL] at h
    rw [partsL]
    rcases List.mem_append.1 h with h | h
    · have := all_le t x h; omega
    · have := allL_le r x h; omega
end
mutual
theorem put_or : ∀ (t : Tm) (L : List Tm), ∀ x ∈ putT t L, x ∈ L ∨ x ∈ t.all
  | .mk k s n xs, L, x, h => by
    rw [putT] at h
    rw [Tm.all]
    by_cases hm : Tm.mk k s n xs ∈ putTs xs L
    · rw [addT_in hm] at h
      rcases puts_or xs L x h with h | h
      · exact .inl h
      · exact .inr (List.mem_cons_of_mem _ h)
    · rw [addT_out hm] at h
      rcases List.mem_append.1 h with h | h
      · rcases puts_or xs L x h with h | h
        · exact .inl h
        · exact .inr (List.mem_cons_of_mem _ h)
      · rw [List.mem_singleton] at h
        exact .inr (by rw [h]; exact List.mem_cons_self ..)
theorem puts_or : ∀ (l : List Tm) (L : List Tm), ∀ x ∈ putTs l L, x ∈ L ∨ x ∈ allL l
  | [], L, x, h => by rw [putTs] at h; exact .inl h
  | t :: r, L, x, h => by
    rw [putTs] at h
    rw [allL]
    rcases puts_or r (putT t L) x h with h | h
    · rcases put_or t L x h with h | h
      · exact .inl h
      · exact .inr (List.mem_append_left _ h)
    · exact .inr (List.mem_append_right _ h)
end
theorem puts_parts {ts : List Tm} {x : Tm} (h : x ∈ putTs ts []) : x.parts ≤ partsL ts := by
  rcases puts_or ts [] x h with h | h
  · cases h
  · exact allL_le ts x h
end Go.Proofs.YtccpfgpdcicjaaaDoor
