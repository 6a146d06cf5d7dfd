/-
  What any number is in any arena, as a node and as a term, how great it is, and what is in it; what number any term has: the law answers true, from what the program's arenas do.
-/
import Derived.Test.YtccpfgpdcicjaaaDoorA12
namespace Go.Proofs.YtccpfgpdcicjaaaDoor
open Go.RowKit

set_option maxHeartbeats 400000 in
theorem rsizea_any (x : Tv) (w : World) (hx : x.ok w) (hp : x.t.parts ≤ 100000) :
    Calls Tryd.prog 30 #[x.val] w fun e w' => e = .returned (.int .i64 x.t.parts) ∧ Below w.heap.size w w' := by
  have AL := Lib.hid (fun (W : World) (h : Below w.heap.size w W) => (all_tm x.t.parts x w W (Nat.le_refl _) (by omega) hx h).mono (fun e w' ⟨v, h1, h2, h3, h4⟩ => (show ∃ a c, e = Ending.returned (.slice a x.t.parts c) ∧ Below W.heap.size W w' from by
    obtain ⟨a, c, hv, _⟩ := h2.tms (h.trans (h4.mono h.size)) (by rw [all_length]; omega)
    rw [all_length] at hv
    exact ⟨a, c, by rw [h1, hv], h4⟩)))
  obtain ⟨t, a, c⟩ := x
  have hbx := box_new w (.int .i64 t.kind) (.string t.name) (.int .i64 t.n) (.slice a t.args.length c) 28
  have hb : Below w.heap.size w (w.alloc (.cells #[.int .i64 t.kind, .string t.name, .int .i64 t.n, .slice a t.args.length c] 28)) := (Below.refl _ _).alloc (Nat.le_refl _) _
  obtain ⟨p, hpe⟩ : ∃ p, t.parts = p := ⟨_, rfl⟩
  simp only [Tv.val, hpe] at AL hp ⊢
  clear hx
  obtain ⟨p0, p1, p2, p3, _, _, _, _⟩ := hbx
  go_enter Tryd.func30, Tryd.ntmps30
  go_wp2_with fail
  refine (AL.out _ hb).mono ?_; rintro e w2 ⟨a2, c2, rfl, hb2⟩
  have hb3 := below_next hb hb2
  go_wp2_with fail
  go_ret
  exact ⟨rfl, hb3⟩

theorem seen_cell {w0 w w1 : World} {p : Addr} (h : w.heap.size ≤ p.block) : (seen w0 w w1).cell? p = w1.cell? p :=
  World.cell?_of_block (w := w1) (w' := seen w0 w w1) (a := p) (over_in w0 w1 (decide_eq_true h))
/-- Four cells. -/
structure Four (V : World) (g : Nat) (x0 x1 x2 x3 : Value) : Prop where
  c0 : V.cell? ⟨g, 0, none⟩ = some x0
  c1 : V.cell? ⟨g, 1, none⟩ = some x1
  c2 : V.cell? ⟨g, 2, none⟩ = some x2
  c3 : V.cell? ⟨g, 3, none⟩ = some x3
theorem Four.reads {V V' : World} {g : Nat} {x0 x1 x2 x3 : Value} (h : Four V g x0 x1 x2 x3) (hr : Reads V V') : Four V' g x0 x1 x2 x3 := ⟨hr.cell _ _ h.c0, hr.cell _ _ h.c1, hr.cell _ _ h.c2, hr.cell _ _ h.c3⟩
theorem four_new (w0 w : World) (x0 x1 x2 x3 : Value) (t : TypeId) : Four (seen w0 w (w.alloc (.cells #[x0, x1, x2, x3] t))) w.heap.size x0 x1 x2 x3 := by
  have h := box_new w x0 x1 x2 x3 t
  exact ⟨(seen_cell (Nat.le_refl _)).trans h.c0, (seen_cell (Nat.le_refl _)).trans h.c1, (seen_cell (Nat.le_refl _)).trans h.c2, (seen_cell (Nat.le_refl _)).trans h.c3⟩
theorem ArNew.moreS {AR : ARel} {w0 w1 W W1 W2 : World} {p : Value} {L L2 : List Tm} {C C' : Nat → Prop} (h : ArNew AR w0 W p L C W1) (h2 : AR C' w1 W2 p L2) (hs : Step C w0 W1 w1 W2) (hn : ∀ k, C' k → C k ∨ W1.heap.size ≤ k) : ArNew AR w1 W p L2 C' W2 :=
  ⟨h2, fun b hb => by
    rcases hn b hb with h1 | h1
    · exact h.new b h1
    · exact Nat.le_trans h.below.size h1, step_new h.below h.new hs⟩

set_option maxRecDepth 100000 in
set_option maxHeartbeats 4000000 in
theorem lawTells9_of {AR : ARel} (A : ArenaI AR) (w : World) (hT : Pow w) (AW : ∀ W, Below w.heap.size w W → Calls Tryd.prog 8 #[] W fun e w' => e = .returned (.bool true) ∧ Below W.heap.size W w')
    (v : Value) (ts : List Tm) (n : Int) (hn0 : -9223372036854775808 ≤ n) (hn1 : n ≤ 9223372036854775807) (x : Tv) (hv : Tms w v ts) (hx : x.ok w) :
    Calls Tryd.prog 6 #[v, .int .i64 n, x.val] w fun e w' => e = .returned (.bool true) ∧ Below w.heap.size w w' := by
  have AW1 := Lib.hid AW
  have FW := Lib.hid (fun (W : World) (h : Below w.heap.size w W) => rfewa_any v ts W (hv.below h))
  have SX := Lib.hid (fun (W : World) (h : Below w.heap.size w W) => small_tm x W (hx.below h))
  have FL := Lib.hid (fun (h1 : partsL ts ≤ 1200) (h2 : ∀ x ∈ ts, withinB x 300 = true) (W : World) (h : Below w.heap.size w W) => filled_any A w W v ts hv (reads_below h) hT (hT.below h) h1 h2)
  clear hT
  have PS := Lib.hid (fun (h1 : partsL ts ≤ 50000) (W : World) (h : Reads w W) => rputs_any v ts w W hv h1 h)
  obtain ⟨av, cv, rfl, hl, _⟩ := hv.open_
  have HX := Lib.hid hx
  have AA := Lib.hid A
  clear AW hv hx A
  obtain ⟨xt, xa, xc⟩ := x
  have hbx := box_new w (.int .i64 xt.kind) (.string xt.name) (.int .i64 xt.n) (.slice xa xt.args.length xc) 28
  have hBA : Below w.heap.size w (w.alloc (.cells #[.int .i64 xt.kind, .string xt.name, .int .i64 xt.n, .slice xa xt.args.length xc] 28)) := (Below.refl _ _).alloc (Nat.le_refl _) _
  obtain ⟨wb, hwb⟩ : ∃ wb, wb = w.alloc (.cells #[.int .i64 xt.kind, .string xt.name, .int .i64 xt.n, .slice xa xt.args.length xc] 28) := ⟨_, rfl⟩
  have hz : wb.heap.size = w.heap.size + 1 := by rw [hwb]; simp
  rw [← hwb] at hbx hBA
  have HBX := Lib.hid (fun (V : World) (h : Below wb.heap.size wb V) => hbx.below h (by omega))
  have HW := Lib.hid (fun (V : World) (h : Below wb.heap.size wb V) => hBA.trans (h.mono hBA.size))
  clear hbx hBA hz
  simp only [Tv.val] at *
  go_enter Tryd.func6, Tryd.ntmps6
  go_wp2_with fail
  rw [← hwb]
  clear hwb
  refine (AW1.out _ (HW.out _ (Below.refl _ _))).mono ?_; rintro e w1 ⟨rfl, hb1⟩
  go_wp2_with fail
  refine (FW.out _ (HW.out _ hb1)).mono ?_; rintro e w2 ⟨rfl, hb2⟩
  replace hb2 := below_next hb1 hb2
  clear hb1
  cases hf : fewA ts with
  | false =>
    have HE := Lib.hid (HW.out _ hb2)
    clear hb2
    go_wp2_with fail
    go_ret
    exact ⟨rfl, HE.out⟩
  | true =>
  obtain ⟨p0, p1, p2, p3, _, _, _, _⟩ := HBX.out w2 hb2
  go_wp2_with fail
  refine (SX.out _ (HW.out _ hb2)).mono ?_; rintro e w3 ⟨rfl, hb3⟩
  replace hb3 := below_next hb2 hb3
  clear hb2 p0 p1 p2 p3
  cases hg : smallB xt with
  | false =>
    have HE := Lib.hid (HW.out _ hb3)
    clear hb3
    go_wp2_with fail
    go_ret
    exact ⟨rfl, HE.out⟩
  | true =>
  have hpt := fewA_parts hf
  have hps := small_parts hg
  have FL3 := Lib.hid (FL.out (by omega) (fun x hx => fewA_mem hf hx) w3 (HW.out _ hb3))
  have PS3 := Lib.hid (PS.out (by omega))
  obtain ⟨L, hL⟩ : ∃ L, putTs ts [] = L := ⟨_, rfl⟩
  have hLl : L.length ≤ 720 := by rw [← hL]; have := putTs_length ts []; simp only [List.length_nil] at this; omega
  have HPM := Lib.hid (fun (x : Tm) (hx : x ∈ L) => (show x.parts ≤ 100000 from by rw [← hL] at hx; have := puts_parts hx; omega))
  rw [hL] at FL3 PS3
  have KX := Lib.hid (fun (V : World) (h : Below w3.heap.size w3 V) => HBX.out V (hb3.trans (h.mono hb3.size)))
  have HW3 := Lib.hid (fun (V : World) (h : Below w3.heap.size w3 V) => HW.out V (hb3.trans (h.mono hb3.size)))
  have hsm : withinB xt 300 = true := hg
  clear hf hg hpt hL FW SX FL PS AW1 hb3
  go_wp2_with fail
  refine FL3.out.mono ?_; rintro e w4 ⟨p, C, rfl, h4⟩
  have H4 := Lib.hid h4
  have PS4 := Lib.hid (PS3.out w4 (AA.out.reads h4.ar))
  clear h4 FL3 PS3
  go_wp2_with fail
  refine PS4.out.mono ?_; rintro e w5 ⟨vw, rfl, hlw, hb5⟩
  have hr5 := (AA.out.reads H4.out.ar).trans (reads_below hb5)
  have h5 := H4.out.sight AA.out hb5
  have hup5 := seen_up (w := w4) hr5
  have HTW := Lib.hid (hlw.sight hr5)
  obtain ⟨aw, cw, rfl, _, _⟩ := HTW.out.open_
  have HXS := Lib.hid (HX.out.reads hup5)
  have H5 := Lib.hid h5
  have FD := Lib.hid (AA.out.find ⟨xt, xa, xc⟩ h5.ar HXS.out hsm (by omega))
  obtain ⟨p0, p1, p2, p3, _, _, _, _⟩ := KX.out _ h5.below
  simp only [Tv.val] at FD
  obtain ⟨sA, hsA⟩ : ∃ s, seen w w4 w5 = s := ⟨_, rfl⟩
  rw [hsA] at HTW HXS H5 FD hup5
  have HUP := Lib.hid hup5
  clear hlw hb5 hr5 h5 hup5 hsA PS4
  go_wp2_with fail
  refine FD.out.mono ?_; rintro e w6 hp6
  obtain ⟨C6, hfd, h6, _, _⟩ := H5.out.more hp6
  have H6 := Lib.hid h6
  have hr6 := AA.out.reads h6.ar
  have NM := Lib.hid (rnum_any _ L ⟨xt, xa, xc⟩ w6 (HTW.out.reads hr6) (HXS.out.reads hr6))
  simp only [Tv.val] at NM
  have hLN : ((L.length : Int) != (L.length : Int)) = false := by simp
  have LEN := Lib.hid (fun (C9 : Nat → Prop) (V : World) (h : AR C9 sA V p L) => AA.out.len h (by omega))
  have hfind : ∃ (k : Int) (b : Bool), e = Ending.returned (.tuple #[.int .i64 k, .bool b]) ∧ (b != decide (0 ≤ numT L xt)) = false ∧ (b = true → (k != numT L xt) = false) ∧ (b = false → (k != 0) = false) := by
    rcases hfd with ⟨hin, he⟩ | ⟨hout, he⟩
    · refine ⟨_, _, he, ?_, fun _ => ?_, fun h => nomatch h⟩
      · rw [numT_in hin]; simp
      · rw [numT_in hin]; simp
    · refine ⟨_, _, he, ?_, (fun h => nomatch h), fun _ => by simp⟩
      rw [numT_out hout]; decide
  obtain ⟨k6, b6, rfl, hq1, hq2, hq3⟩ := hfind
  obtain ⟨p0, p1, p2, p3, _, _, _, _⟩ := KX.out _ h6.below
  obtain ⟨m6, hm6⟩ : ∃ m, numT L xt = m := ⟨_, rfl⟩
  rw [hm6] at NM hq1 hq2
  clear hp6 hfd h6 hr6 FD hm6
  have hcase : (b6 = true ∧ decide (0 ≤ m6) = true ∧ (k6 != m6) = false) ∨ (b6 = false ∧ decide (0 ≤ m6) = false ∧ (k6 != 0) = false) := by
    cases b6 with
    | true => exact .inl ⟨rfl, by simpa using hq1, hq2 rfl⟩
    | false => exact .inr ⟨rfl, by simpa using hq1, hq3 rfl⟩
  clear hq1 hq2 hq3
  have hl9 : L.length ≤ 1200 := by omega
  go_wp2_with fail
  refine NM.out.mono ?_; rintro e w7 ⟨rfl, hb7⟩
  have H7 := Lib.hid (H6.out.on AA.out hb7)
  clear hb7 p0 p1 p2 p3 NM
  have LN := Lib.hid (LEN.out _ _ H7.out.ar)
  have GS := Lib.hid (fun (k : Nat) (hk : k < L.length) (C9 : Nat → Prop) (w9 V : World) (h : AR C9 w9 V p L) => AA.out.getS k hk h hl9)
  have AS := Lib.hid (fun (k : Nat) (hk : k < L.length) (C9 : Nat → Prop) (w9 V : World) (h : AR C9 w9 V p L) => AA.out.atS k hk h hl9)
  have SI := Lib.hid (fun (k : Nat) (hk : k < L.length) (C9 : Nat → Prop) (w9 V : World) (h : AR C9 w9 V p L) => AA.out.size k hk h hl9)
  have WI := Lib.hid (fun (k : Nat) (hk : k < L.length) (C9 : Nat → Prop) (w9 V : World) (h : AR C9 w9 V p L) => AA.out.within k hk h hl9)
  have GO := Lib.hid (fun (hr : n < 0 ∨ (L.length : Int) ≤ n) (C9 : Nat → Prop) (w9 V : World) (h : AR C9 w9 V p L) => AA.out.getOut n hn0 hn1 hr h hl9)
  have AO := Lib.hid (fun (hr : n < 0 ∨ (L.length : Int) ≤ n) (C9 : Nat → Prop) (w9 V : World) (h : AR C9 w9 V p L) => AA.out.atOut n hn0 hn1 hr h hl9)
  have SO := Lib.hid (fun (hr : n < 0 ∨ (L.length : Int) ≤ n) (C9 : Nat → Prop) (w9 V : World) (h : AR C9 w9 V p L) => AA.out.sizeOut n hn0 hn1 hr h hl9)
  have WO := Lib.hid (fun (hr : n < 0 ∨ (L.length : Int) ≤ n) (C9 : Nat → Prop) (w9 V : World) (h : AR C9 w9 V p L) => AA.out.withinOut n hn0 hn1 hr h hl9)
  have hrange : (n < 0 ∨ (L.length : Int) ≤ n) ∨ (0 ≤ n ∧ n < (L.length : Int)) := by omega
  rcases hcase with ⟨rfl, hd6, hq6⟩ | ⟨rfl, hd6, hq6⟩
  all_goals (
    go_wp2_with fail
    refine LN.out.mono ?_; rintro e w8 hp8
    obtain ⟨C8, rfl, h8, _, _⟩ := H7.out.more hp8
    have H8 := Lib.hid h8
    clear hp8 h8 hd6 hq6
    rcases hrange with hr | ⟨hr0, hr1⟩
    · have AO8 := Lib.hid (AO.out hr _ _ _ H8.out.ar)
      have GO8 := Lib.hid (GO.out hr)
      have SO8 := Lib.hid (SO.out hr)
      have WO8 := Lib.hid (WO.out hr)
      have hg12 : decide (n < (0 : Int)) = true ∨ (decide (n < (0 : Int)) = false ∧ decide ((L.length : Int) ≤ n) = true) := by
        by_cases h0 : n < 0
        · exact .inl (decide_eq_true h0)
        · exact .inr ⟨decide_eq_false h0, decide_eq_true (by omega)⟩
      clear hr
      go_wp2_with fail
      refine AO8.out.mono ?_; rintro e w9 hp9
      obtain ⟨C9, rfl, h9, _, _⟩ := H8.out.more hp9
      have hb9 : Below w9.heap.size w9 (w9.alloc (.cells #[.int .i64 0, .string ⟨#[]⟩, .int .i64 0, .slice none 0 0] 38)) := (Below.refl _ _).alloc (Nat.le_refl _) _
      have h9a := h9.sight AA.out hb9
      have F9 := four_new sA w9 (.int .i64 0) (.string ⟨#[]⟩) (.int .i64 0) (.slice none 0 0) 38
      obtain ⟨sB, hsB⟩ : ∃ s, seen sA w9 (w9.alloc (.cells #[.int .i64 0, .string ⟨#[]⟩, .int .i64 0, .slice none 0 0] 38)) = s := ⟨_, rfl⟩
      rw [hsB] at h9a F9
      have GO9 := Lib.hid (GO8.out _ _ _ h9a.ar)
      have H9 := Lib.hid h9a
      have HF9 := Lib.hid F9
      clear hp9 h9 hb9 h9a F9 hsB AO8
      go_wp2_with fail
      refine GO9.out.mono ?_; rintro e w10 hp10
      obtain ⟨C10, rfl, h10, _, _⟩ := H9.out.more hp10
      have hb10 : Below w10.heap.size w10 (w10.alloc (.cells #[.int .i64 0, .string ⟨#[]⟩, .int .i64 0, .slice none 0 0] 28)) := (Below.refl _ _).alloc (Nat.le_refl _) _
      have h10a := h10.sight AA.out hb10
      have hup := seen_up (w := w10) ((AA.out.reads h10.ar).trans (reads_below hb10))
      have F10 := four_new sB w10 (.int .i64 0) (.string ⟨#[]⟩) (.int .i64 0) (.slice none 0 0) 28
      have F9b := HF9.out.reads hup
      obtain ⟨sC, hsC⟩ : ∃ s, seen sB w10 (w10.alloc (.cells #[.int .i64 0, .string ⟨#[]⟩, .int .i64 0, .slice none 0 0] 28)) = s := ⟨_, rfl⟩
      rw [hsC] at h10a F10 F9b
      have hr10 := AA.out.reads h10a.ar
      obtain ⟨p0, p1, p2, p3⟩ := F9b.reads hr10
      obtain ⟨q0, q1, q2, q3⟩ := F10.reads hr10
      have SO10 := Lib.hid (SO8.out _ _ _ h10a.ar)
      have H10 := Lib.hid h10a
      have hgd := hg12
      clear hp10 h10 hb10 h10a hup F10 F9b hsC hr10 GO9 hg12
      rcases hgd with hg1 | ⟨hg1, hg2⟩
      all_goals (
        go_wp2_with fail
        refine SO10.out.mono ?_; rintro e w11 hp11
        obtain ⟨C11, rfl, h11, _, _⟩ := H10.out.more hp11
        have WO11 := Lib.hid (WO8.out _ _ _ h11.ar)
        have H11 := Lib.hid h11
        clear hp11 h11
        go_wp2_with fail
        refine WO11.out.mono ?_; rintro e w12 hp12
        obtain ⟨C12, ⟨a12, c12, rfl⟩, h12, _, _⟩ := H11.out.more hp12
        have HE := Lib.hid (HW3.out _ h12.below)
        clear hp12 h12
        go_wp2_with fail
        go_ret
        exact ⟨rfl, HE.out⟩)
    · obtain ⟨k, rfl⟩ := Int.eq_ofNat_of_zero_le hr0
      have hk : k < L.length := by omega
      have hg1 : decide ((k : Int) < (0 : Int)) = false := decide_eq_false (by omega)
      have hg2 : decide ((L.length : Int) ≤ (k : Int)) = false := decide_eq_false (by omega)
      have hk1 : (k : Int) < (L.length : Int) := by omega
      obtain ⟨aw', cw', he, _, hopen⟩ := HTW.out.open_
      obtain ⟨rfl, rfl⟩ : aw = aw' ∧ cw = cw' := by cases he; exact ⟨rfl, rfl⟩
      obtain ⟨b, o, rfl, hblt, hrow⟩ := hopen.resolve_left (by intro h; rw [h] at hk; simp at hk)
      obtain ⟨u, hu, huo, hat⟩ := hrow k hk
      obtain ⟨ut, ua, uc⟩ := u
      simp only at hu
      have HRW := Lib.hid (fun (V : World) (h : Reads sA V) => (show (V.cell? ⟨b, o + k * 4, none⟩ = some (.int .i64 ut.kind) ∧ V.cell? ⟨b, o + k * 4 + 1, none⟩ = some (.string ut.name) ∧ V.cell? ⟨b, o + k * 4 + 2, none⟩ = some (.int .i64 ut.n) ∧ V.cell? ⟨b, o + k * 4 + 3, none⟩ = some (.slice ua ut.args.length uc)) from ⟨h.cell _ _ hat.c0, h.cell _ _ hat.c1, h.cell _ _ hat.c2, h.cell _ _ hat.c3⟩))
      have HUO := Lib.hid huo
      have AS8 := AS.out k hk _ _ _ H8.out.ar
      have GS8 := Lib.hid (GS.out k hk)
      have SI8 := Lib.hid (SI.out k hk)
      have WI8 := Lib.hid (WI.out k hk)
      rw [← hu] at AS8
      simp only [← hu] at GS8 SI8 WI8
      have HAS := Lib.hid AS8
      have hup0 : ut.parts ≤ 100000 := HPM.out _ (by rw [hu]; exact List.getElem_mem _)
      clear hr0 hr1 he hopen hrow hu huo hat AS8
      go_wp2_with fail
      refine HAS.out.mono ?_; rintro e w9 ⟨C9, sB0, na, nm, nc, rfl, hnu, har9, hs9, hn9⟩
      have h9 := H8.out.moreS har9 hs9 hn9
      have hb9 : Below w9.heap.size w9 (w9.alloc (.cells #[.int .i64 ut.kind, .string ut.name, .int .i64 ut.n, .slice na nm nc] 38)) := (Below.refl _ _).alloc (Nat.le_refl _) _
      have h9a := h9.sight AA.out hb9
      have hup9 := seen_up (w := w9) ((AA.out.reads h9.ar).trans (reads_below hb9))
      have F9 := four_new sB0 w9 (.int .i64 ut.kind) (.string ut.name) (.int .i64 ut.n) (.slice na nm nc) 38
      obtain ⟨sB, hsB⟩ : ∃ s, seen sB0 w9 (w9.alloc (.cells #[.int .i64 ut.kind, .string ut.name, .int .i64 ut.n, .slice na nm nc] 38)) = s := ⟨_, rfl⟩
      rw [hsB] at h9a F9 hup9
      have GS9 := Lib.hid (GS8.out _ _ _ h9a.ar)
      have H9 := Lib.hid h9a
      have HF9 := Lib.hid F9
      have HAB := Lib.hid (hs9.up.trans hup9)
      have HNU := Lib.hid (hnu.reads hup9)
      clear hnu har9 hs9 hn9 h9 hb9 h9a F9 hsB hup9 HAS
      go_wp2_with fail
      refine GS9.out.mono ?_; rintro e w10 ⟨C10, sC0, ⟨zt, za, zc⟩, rfl, hzt, hzo, har10, hs10, hn10⟩
      have h10 := H9.out.moreS har10 hs10 hn10
      have hb10 : Below w10.heap.size w10 (w10.alloc (.cells #[.int .i64 zt.kind, .string zt.name, .int .i64 zt.n, .slice za zt.args.length zc] 28)) := (Below.refl _ _).alloc (Nat.le_refl _) _
      have h10a := h10.sight AA.out hb10
      have hup10 := seen_up (w := w10) ((AA.out.reads h10.ar).trans (reads_below hb10))
      have F10 := four_new sC0 w10 (.int .i64 zt.kind) (.string zt.name) (.int .i64 zt.n) (.slice za zt.args.length zc) 28
      obtain ⟨sC, hsC⟩ : ∃ s, seen sC0 w10 (w10.alloc (.cells #[.int .i64 zt.kind, .string zt.name, .int .i64 zt.n, .slice za zt.args.length zc] 28)) = s := ⟨_, rfl⟩
      rw [hsC] at h10a F10 hup10
      have hBC := hs10.up.trans hup10
      have hr10 := AA.out.reads h10a.ar
      have HAC := Lib.hid (HAB.out.trans hBC)
      have HF10 := Lib.hid F10
      have HF9C := Lib.hid (HF9.out.reads hBC)
      have HNC := Lib.hid (HNU.out.reads hBC)
      have HZO := Lib.hid (hzo.reads hup10)
      have HZT := Lib.hid hzt
      have H10 := Lib.hid h10a
      obtain ⟨r0, r1, r2, r3⟩ := HRW.out _ (HAC.out.trans hr10)
      have RN := Lib.hid (rnodea_any _ L ⟨ut, ua, uc⟩ _ (HTW.out.reads (HAC.out.trans hr10)) (HUO.out.reads (HAC.out.trans hr10)) hup0 (by omega))
      simp only [Tv.val] at RN
      clear hzt hzo har10 hs10 hn10 h10 hb10 h10a hup10 F10 hsC hBC hr10 GS9 HAB HNU
      simp only [tupleT, Tv.val]
      go_wp2_with fail
      refine RN.out.mono ?_; rintro e w11 ⟨ya, ym, yc, rfl, hny, hb11⟩
      have hb11a : Below w11.heap.size w11 (w11.alloc (.cells #[.int .i64 ut.kind, .string ut.name, .int .i64 ut.n, .slice ya ym yc] 38)) := (Below.refl _ _).alloc (Nat.le_refl _) _
      have h11 := H10.out.on AA.out (below_next hb11 hb11a)
      have hr11 := AA.out.reads h11.ar
      have hbx11 := box_new w11 (.int .i64 ut.kind) (.string ut.name) (.int .i64 ut.n) (.slice ya ym yc) 38
      obtain ⟨p0, p1, p2, p3⟩ := HF9C.out.reads hr11
      obtain ⟨q0, q1, q2, q3, _, _, _, _⟩ := hbx11
      have IN := ints_any _ _ _ _ _ (HNC.out.reads hr11) (hny.below hb11a)
      rw [decide_eq_true rfl] at IN
      have HIN := Lib.hid IN
      have H11 := Lib.hid h11
      have hq1 : (ut.kind == ut.kind) = true := beq_self_eq_true _
      have hq2 : (ut.name.toList == ut.name.toList) = true := by rw [Lib.bytes_beq_iff]
      have hq3 : (ut.n == ut.n) = true := beq_self_eq_true _
      clear hny hb11 hb11a h11 hr11 IN RN r0 r1 r2 r3
      go_wp2_with fail
      refine HIN.out.mono ?_; rintro e w12 ⟨rfl, d12, hd12⟩
      have h12 := H11.out.on AA.out (W2 := w12) (by rw [hd12]; exact below_drewN (Below.refl _ _) _)
      have H12 := Lib.hid h12
      clear hd12 h12 p0 p1 p2 p3 q0 q1 q2 q3 hq1 hq2 hq3 HIN
      have KEEP := Lib.hid (fun (V : World) (h : Reads sC V) => (show (V.cell? ⟨w10.heap.size, 0, none⟩ = some (.int .i64 zt.kind) ∧ V.cell? ⟨w10.heap.size, 1, none⟩ = some (.string zt.name) ∧ V.cell? ⟨w10.heap.size, 2, none⟩ = some (.int .i64 zt.n) ∧ V.cell? ⟨w10.heap.size, 3, none⟩ = some (.slice za zt.args.length zc)) ∧ (V.cell? ⟨b, o + k * 4, none⟩ = some (.int .i64 ut.kind) ∧ V.cell? ⟨b, o + k * 4 + 1, none⟩ = some (.string ut.name) ∧ V.cell? ⟨b, o + k * 4 + 2, none⟩ = some (.int .i64 ut.n) ∧ V.cell? ⟨b, o + k * 4 + 3, none⟩ = some (.slice ua ut.args.length uc)) from by
        obtain ⟨a0, a1, a2, a3⟩ := HF10.out.reads h
        exact ⟨⟨a0, a1, a2, a3⟩, HRW.out V (HAC.out.trans h)⟩))
      have hd : Below w12.heap.size w12 w12.drew := (Below.refl _ _).drew
      have H12d := Lib.hid (H12.out.on AA.out hd)
      have S12 := Lib.hid (KEEP.out _ (AA.out.reads H12d.out.ar))
      have hS12 := S12.out
      have SME := Lib.hid (fun (V : World) (h : Reads sC V) => (same_tm zt.parts ⟨zt, za, zc⟩ ⟨ut, ua, uc⟩ V (Nat.le_refl _) (HZO.out.reads h) (HUO.out.reads (HAC.out.trans h))).mono (fun e w' q => (show e = Ending.returned (.bool true) ∧ Below V.heap.size V w' from ⟨by rw [q.1, eqT_true HZT.out], q.2⟩)))
      have RSZ := Lib.hid (fun (V : World) (h : Reads sC V) => rsizea_any ⟨ut, ua, uc⟩ V (HUO.out.reads (HAC.out.trans h)) hup0)
      have RWI := Lib.hid (fun (V : World) (h : Reads sC V) => rwithina_any _ L ⟨ut, ua, uc⟩ V (HTW.out.reads (HAC.out.trans h)) (HUO.out.reads (HAC.out.trans h)) hup0 (by omega))
      have INT := Lib.hid (fun (u v : Value) (V : World) (h1 : Nums V u (withinN L ut 0)) (h2 : Nums V v (withinN L ut 0)) => (ints_any u v _ _ V h1 h2).mono (fun e w' q => (show e = Ending.returned (.bool true) ∧ Below V.heap.size V w' from ⟨by rw [q.1, decide_eq_true rfl], by obtain ⟨d, hd⟩ := q.2; rw [hd]; exact below_drewN (Below.refl _ _) _⟩)))
      obtain ⟨up, hup⟩ : ∃ z, ut.parts = z := ⟨_, rfl⟩
      simp only [Tv.val, hup] at SME RSZ RWI SI8
      have hqp : ((up : Int) == (up : Int)) = true := beq_self_eq_true _
      clear hd hup
      go_wp2_with fail
      go_region_held3 (fun W => (W.cell? ⟨w10.heap.size, 0, none⟩ = some (.int .i64 zt.kind) ∧ W.cell? ⟨w10.heap.size, 1, none⟩ = some (.string zt.name) ∧ W.cell? ⟨w10.heap.size, 2, none⟩ = some (.int .i64 zt.n) ∧ W.cell? ⟨w10.heap.size, 3, none⟩ = some (.slice za zt.args.length zc)) ∧ (W.cell? ⟨b, o + k * 4, none⟩ = some (.int .i64 ut.kind) ∧ W.cell? ⟨b, o + k * 4 + 1, none⟩ = some (.string ut.name) ∧ W.cell? ⟨b, o + k * 4 + 2, none⟩ = some (.int .i64 ut.n) ∧ W.cell? ⟨b, o + k * 4 + 3, none⟩ = some (.slice ua ut.args.length uc))) (first | exact S12.out | exact KEEP.out _ (AA.out.reads h13.ar) | exact KEEP.out _ (AA.out.reads h14.ar) | with_reducible assumption)
        ((first
          | (go_at_call 29; refine (INT.out _ _ _ (hn16.below hb17) hn17).mono ?_; rintro e w18 ⟨rfl, hb18⟩; have h18 := h17.on AA.out hb18; have s18 := KEEP.out _ (AA.out.reads h18.ar))
          | (go_at_call 31; refine (RWI.out _ (AA.out.reads h16.ar)).mono ?_; rintro e w17 ⟨v17, rfl, hn17, hb17⟩; have h17 := h16.on AA.out hb17; have s17 := KEEP.out _ (AA.out.reads h17.ar))
          | (go_at_call 27; refine (WI8.out _ _ _ h15.ar).mono ?_; rintro e w16 hp16; obtain ⟨C16, ⟨v16, rfl, hn16⟩, h16, _, _⟩ := h15.more hp16; have s16 := KEEP.out _ (AA.out.reads h16.ar))
          | (go_at_call 30; refine (RSZ.out _ (AA.out.reads h14.ar)).mono ?_; rintro e w15 ⟨rfl, hb15⟩; have h15 := h14.on AA.out hb15; have s15 := KEEP.out _ (AA.out.reads h15.ar))
          | (go_at_call 26; refine (SI8.out _ _ _ h13.ar).mono ?_; rintro e w14 hp14; obtain ⟨C14, rfl, h14, _, _⟩ := h13.more hp14; have s14 := KEEP.out _ (AA.out.reads h14.ar))
          | (go_at_call 16; refine (SME.out _ (AA.out.reads H12d.out.ar)).mono ?_; rintro e w13 ⟨rfl, hb13⟩; have h13 := H12d.out.on AA.out hb13; have s13 := KEEP.out _ (AA.out.reads h13.ar))))
      have HE := Lib.hid (HW3.out _ h18.below)
      clear h13 h14 h15 h16 h17 h18 hp14 hp16
      go_wp2_with fail
      go_ret
      exact ⟨rfl, HE.out⟩)
end Go.Proofs.YtccpfgpdcicjaaaDoor
