/-
  All binds put in that are yet to be put in, by the program: the method whole of what was found, and the function that it hands to put.
  All binds put in that are yet to be put in, by the program: the method whole of what was found.
-/
import Derived.Test.YtedljdcliilggaaU30
namespace Go.Proofs.Ytedljdcliilggaa
open Go.RowKit Go.Maps

theorem varStep_nodup {acc : List ByteArray} (h : acc.Nodup) (x : Tm) : (varStep acc x).Nodup := by
  unfold varStep; split
  · next hc =>
    refine List.nodup_append.2 ⟨h, by simp, fun a ha b hb => ?_⟩
    rw [List.mem_singleton] at hb
    subst hb
    intro e
    have := (Lib.containsS_iff acc x.name).2 (e ▸ ha)
    rw [hc.2] at this; cases this
  · exact h
theorem fold_nodup : ∀ (l : List Tm) {acc : List ByteArray}, acc.Nodup → (l.foldl varStep acc).Nodup
  | [], _, h => h
  | x :: l, _, h => fold_nodup l (varStep_nodup h x)
theorem vars_nodup (t : Tm) : t.vars.Nodup := fold_nodup t.all List.nodup_nil
open Classical in
theorem nodup_le : ∀ {a b : List ByteArray}, a.Nodup → (∀ x ∈ a, x ∈ b) → a.length ≤ b.length
  | [], _, _, _ => Nat.zero_le _
  | x :: a, b, ha, h => by
    rw [List.nodup_cons] at ha
    have h1 := nodup_le (a := a) (b := b.filter (fun z => decide (z ≠ x))) ha.2 (fun y hy => List.mem_filter.2 ⟨h y (List.mem_cons_of_mem _ hy), decide_eq_true (fun e => ha.1 (e ▸ hy))⟩)
    have h2 := drop_lt (h x List.mem_cons_self)
    have h3 : (b.filter (fun z => decide (z ≠ x))).length < b.length := List.length_filter_lt_length_iff_exists.2 ⟨x, h x List.mem_cons_self, by simp⟩
    rw [List.length_cons]; omega
theorem tellB_names (f : ByteArray → Option Tm) : ∀ (l : List ByteArray), (tellB f l).map Prod.fst = l.filter (fun s => (f s).isSome)
  | [] => rfl
  | s :: r => by
    rw [tellB, List.filter_cons]
    cases hf : f s with
    | some u => simp [tellB_names f r]
    | none => simp [tellB_names f r]
theorem found_few (l : List Bn) (f : Nat) (t : Tm) : (tellB (foundB l f) t.vars).length ≤ l.length := by
  have h1 : ((tellB (foundB l f) t.vars).map Prod.fst).length ≤ (l.map Prod.fst).length := by
    rw [tellB_names]
    refine nodup_le ((vars_nodup t).filter _) fun x hx => ?_
    have h2 := (List.mem_filter.1 hx).2
    unfold foundB at h2
    split at h2
    · next h =>
      obtain ⟨j, y, h3, _, rfl⟩ := h
      exact List.mem_map.2 ⟨y, List.mem_of_getElem? h3, rfl⟩
    · cases h2
  rwa [List.length_map, List.length_map] at h1
/-- What whole leaves. -/
def WholePost (w0 : World) (fb bm : Nat) (vb vn : Value) (l : List Bn) (p : Pv) (w : World) (e : Ending) (w' : World) : Prop :=
  ∃ (w1 : World) (z : Tv) (ps : List Pv), e = .returned z.val ∧ z.t = p.pt.whole l ∧ z.ok w1 ∧ FnAt w1 w' fb bm vb vn l ps ∧ Den l (ps.map Pv.pt) ∧ Step (InNow vn) w0 w w1 w'
/-- What the function that whole hands to put needs: what was found, and its two boxes. -/
def WholeI (fb bm : Nat) (vb vn : Value) (l : List Bn) (n : Nat) (wz w1 W : World) : Prop :=
  (∃ ps : List Pv, FnAt w1 W fb bm vb vn l ps ∧ Den l (ps.map Pv.pt)) ∧ ∀ k, n ≤ k → k < wz.heap.size → W.heap[k]? = wz.heap[k]?
theorem whole_stays {fb bm : Nat} {vb vn : Value} {l : List Bn} {n : Nat} {wz : World} (hlt : ∀ k, InFn fb bm vb vn k → k < wz.heap.size) : Stays wz.heap.size (WholeI fb bm vb vn l n wz) := fun w0 w w1 W h hu ho hn hb hk => by
  obtain ⟨⟨ps, h1, h2⟩, h3⟩ := h
  refine ⟨⟨ps, ?_, h2⟩, fun k h4 h5 => (hk k h5).trans (h3 k h4 h5)⟩
  exact {
    box := (hk fb (hlt fb (.inl rfl))).trans h1.box
    row := by
      obtain ⟨vs, h4, h5, h6⟩ := h1.row
      exact ⟨vs, h4, fun x hx => ⟨(h5 x hx).1.reads hu, (h5 x hx).2⟩, own_same h6 fun g hg => hk g (hlt g (.inr (.inr (.inl hg))))⟩
    now := own_same h1.now fun g hg => hk g (hlt g (.inr (.inr (.inr hg))))
    good := fun p hp => (h1.good p hp).reads hu
    table := by
      obtain ⟨D, h4, h5⟩ := h1.table
      exact ⟨D, map_same h4 (hk bm (hlt bm (.inr (.inl rfl)))), h5⟩
    blf := hb fb (hlt fb (.inl rfl)) h1.blf
    blm := hb bm (hlt bm (.inr (.inl rfl))) h1.blm
    blb := fun g hg => hb g (hlt g (.inr (.inr (.inl hg)))) (h1.blb g hg)
    bln := fun g hg => hb g (hlt g (.inr (.inr (.inr hg)))) (h1.bln g hg) }
/-- What is asked of the binds that were found. -/
structure Sound (l : List Bn) : Prop where
  nodup : (l.map Prod.fst).Nodup
  few : l.length ≤ 900
  plain : ∀ x ∈ l, PlainT x.2
  size : ∀ (i : Nat) x, l[i]? = some x → (appR (l.drop (i + 1)) x.2).parts ≤ mostT

/-- A part written anew by what whole tells of it. -/
theorem whole_put {w0 w1 w4 w5 w6 : World} {fb bm g m cn i : Nat} {vb : Value} {l : List Bn} {ps5 : List Pv} {pi : Pt} {pj : Pv} {tz : Tm} {az : Option Addr} {cz : Nat} {x : Bn} (hz : tz = pi.whole l ∧ Tv.ok w5 ⟨tz, az, cz⟩) (hF : FnAt w5 w4 fb bm vb (.slice (some ⟨g, 0, none⟩) m cn) l ps5) (hD : Den l (ps5.map Pv.pt)) (hst : Step (InNow (.slice (some ⟨g, 0, none⟩) m cn)) w0 w1 w5 w4) (hpj : ps5[i]? = some pj)
    (hx : l[i]? = some x) (hdn : pi.whole l = appR (l.drop (i + 1)) x.2) (hpl : PlainT (pi.whole l))
    (hw6 : w6 = (((((w4.setCell ⟨g, i * 5, none⟩ (.int .i64 tz.kind)).setCell ⟨g, i * 5 + 1, none⟩ (.string tz.name)).setCell ⟨g, i * 5 + 2, none⟩ (.int .i64 tz.n)).setCell ⟨g, i * 5 + 3, none⟩ (.slice az tz.args.length cz)).setCell ⟨g, i * 5 + 4, none⟩ (.int .i64 l.length))) :
    (ps5.set i ⟨⟨tz, az, cz⟩, l.length⟩)[i]? = some ⟨⟨tz, az, cz⟩, l.length⟩ ∧ FnAt w5 w6 fb bm vb (.slice (some ⟨g, 0, none⟩) m cn) l (ps5.set i ⟨⟨tz, az, cz⟩, l.length⟩) ∧ Den l ((ps5.set i ⟨⟨tz, az, cz⟩, l.length⟩).map Pv.pt) ∧ Step (InNow (.slice (some ⟨g, 0, none⟩) m cn)) w0 w1 w5 w6 := by
  have hil := (List.getElem?_eq_some_iff.1 hpj).1
  have hbl := hF.bln g rfl
  refine ⟨by rw [List.getElem?_set, if_pos rfl, if_pos hil], hF.put ⟨⟨tz, az, cz⟩, l.length⟩ hz.2 hil hw6, ?_, ?_⟩
  · rw [List.map_set]
    have e : (ps5.map Pv.pt)[i]? = some pj.pt := by rw [List.getElem?_map, hpj]; rfl
    refine hD.set e (List.getElem?_eq_some_iff.1 hx).1 (Nat.le_refl _) (by show PlainT tz; rw [hz.1]; exact hpl) ?_
    rw [hD.den i _ x e hx, ← hdn, ← hz.1]
    show appR (l.drop l.length) tz = tz
    rw [List.drop_length, appR]
  · rw [hw6]
    exact step_five hst hbl (fun _ => rfl) _ _ _ _ _ _ _ _ _ _
set_option maxRecDepth 100000 in
set_option maxHeartbeats 8000000 in
theorem told_whole (fb bm : Nat) (vb vn : Value) (l : List Bn) (hl : Sound l) (d : Nat)
    (ih : ∀ m, m < d → ∀ (w0 : World) (p : Pv) (ps : List Pv) (w : World), l.length - p.f ≤ m → p.f ≤ l.length → PlainT p.v.t → (p.pt.whole l).parts ≤ mostT → p.v.ok w0 → Reads w0 w → FnAt w0 w fb bm vb vn l ps → Den l (ps.map Pv.pt) → Calls Try.prog 68 #[.pointer (some ⟨fb, 0, none⟩), p.val] w (WholePost w0 fb bm vb vn l p w))
    (f n : Nat) (hd : l.length - f ≤ d) (hf : f ≤ l.length) (wz : World) (hn : n + 3 = wz.heap.size) (hlt : ∀ k, InFn fb bm vb vn k → k < n)
    (cf : wz.heap[n]? = some (.cells #[.pointer (some ⟨fb, 0, none⟩)] 57 (0, 0))) (x0 x1 x2 x3 : Value) (cp : wz.heap[n + 1]? = some (.cells #[x0, x1, x2, x3, .int .i64 f] 83 (0, 0))) :
    Told 78 #[.pointer (some ⟨n, 0, none⟩), .pointer (some ⟨n + 1, 0, none⟩)] (foundB l f) wz.heap.size (InNow vn) (WholeI fb bm vb vn l n wz) := by
  intro s w0 w hs hI hr hN
  obtain ⟨⟨ps, hF, hden⟩, hk⟩ := hI
  have hB1 : Below w.heap.size w (w.alloc (.cells #[.int .i64 0, .string ⟨#[]⟩, .int .i64 0, .slice none 0 0] 24)) := (Below.refl _ _).alloc (Nat.le_refl _) _
  have bR := box_new w (.int .i64 0) (.string ⟨#[]⟩) (.int .i64 0) (.slice none 0 0) 24
  have hfw : w.heap[n]? = some (.cells #[.pointer (some ⟨fb, 0, none⟩)] 57 (0, 0)) := (hk n (Nat.le_refl _) (by omega)).trans cf
  have hpw : w.heap[n + 1]? = some (.cells #[x0, x1, x2, x3, .int .i64 f] 83 (0, 0)) := (hk (n + 1) (by omega) (by omega)).trans cp
  obtain ⟨wa, hwa⟩ : ∃ wa, wa = w.alloc (.cells #[.int .i64 0, .string ⟨#[]⟩, .int .i64 0, .slice none 0 0] 24) := ⟨_, rfl⟩
  have hzs : wa.heap.size = w.heap.size + 1 := by rw [hwa]; simp
  rw [← hwa] at hB1 bR
  have hfa := (hB1.block n (by omega)).trans hfw
  have hpa := (hB1.block (n + 1) (by omega)).trans hpw
  have c1 : wa.cell? ⟨n, 0, none⟩ = some (.pointer (some ⟨fb, 0, none⟩)) := by rw [cell_of_row wa n 0 _ _ (0, 0) hfa]; rfl
  have c2 : wa.cell? ⟨n + 1, 4, none⟩ = some (.int .i64 f) := by rw [cell_of_row wa (n + 1) 4 _ _ (0, 0) hpa]; rfl
  have HF := Lib.hid (hF.below hB1)
  have BD := Lib.hid (bound_any HF.out hl.nodup (by have := hl.few; omega) s hs f (by have := hl.few; omega))
  have HB1 := Lib.hid hB1
  have HBR := Lib.hid bR
  have HZS := Lib.hid hzs
  have HDEN := Lib.hid hden
  have HR := Lib.hid hr
  have HK := Lib.hid hk
  have HL := Lib.hid hl
  have IH := Lib.hid ih
  have HLT := Lib.hid hlt
  have HFA := Lib.hid hfa
  have HF0 := Lib.hid hF
  have HST := Lib.hid (show Step (InNow vn) w0 w w0 wa from step_below hr hB1)
  have HWA := Lib.hid hwa
  have ZERO := Lib.hid (show (∀ j y, l[j]? = some y → f ≤ j → y.1 ≠ s) → ToldPost (foundB l f) (InNow vn) (WholeI fb bm vb vn l n wz) s w0 w (.returned (.tuple #[.agg #[.int .i64 0, .string ⟨#[]⟩, .int .i64 0, .slice none 0 0], .bool false])) ((((wa.setCell ⟨w.heap.size, 0, none⟩ (.int .i64 0)).setCell ⟨w.heap.size, 1, none⟩ (.string ⟨#[]⟩)).setCell ⟨w.heap.size, 2, none⟩ (.int .i64 0)).setCell ⟨w.heap.size, 3, none⟩ (.slice none 0 0)) from fun hno =>
    ⟨w0, zeroV, by rw [foundB_miss hno]; rfl, by rw [foundB_miss hno]; rfl, zeroV_ok _, ⟨⟨ps, HF.out.box4 (g := w.heap.size) (fun k hk => by have := hlt k hk; omega) _ _ _ _ _ _ _ _, hden⟩, fun k h1 h2 => by
      rw [Below.heap_setCell _ _ _ _ (show k ≠ w.heap.size by omega), Below.heap_setCell _ _ _ _ (show k ≠ w.heap.size by omega), Below.heap_setCell _ _ _ _ (show k ≠ w.heap.size by omega), Below.heap_setCell _ _ _ _ (show k ≠ w.heap.size by omega)]
      exact (hB1.block k (by omega)).trans (hk k h1 h2)⟩, step_four HST.out (g := w.heap.size) (blind_new hr.size) (fun h => by omega) _ _ _ _ _ _ _ _⟩)
  show Calls Try.prog 78 #[.string s, .pointer (some ⟨n, 0, none⟩), .pointer (some ⟨n + 1, 0, none⟩)] w _
  have hn1 : n < w.heap.size := by omega
  have hn2 : n + 1 < w.heap.size := by omega
  clear hF hB1 hzs hden hr hk hl ih hlt hfa hpa hfw hpw cf cp bR
  rw [hwa] at c1 c2
  go_enter Try.func78, Try.ntmps78
  go_wp2_with fail
  rw [← hwa]
  clear hwa c1 c2
  refine BD.out.mono ?_; rintro e w1 ⟨rfl, ⟨i, x, hi, hx, hfi, rfl⟩ | ⟨hno, ci, rfl⟩⟩
  · have hil := (List.getElem?_eq_some_iff.1 hi).1
    have hpl : ps.length = l.length := by have := HDEN.out.len; rwa [List.length_map] at this
    obtain ⟨ab, cb, an, cn, rfl, rfl, hang⟩ := HF.out.len
    obtain ⟨g, rfl⟩ := hang (by omega)
    obtain ⟨pi, hpi⟩ : ∃ pi, ps[i]? = some pi := ⟨_, List.getElem?_eq_getElem (by omega)⟩
    have hpt : (ps.map Pv.pt)[i]? = some pi.pt := by rw [List.getElem?_map, hpi]; rfl
    obtain ⟨hl1, hl2⟩ := HDEN.out.late i _ hpt
    have hpp := HDEN.out.plain _ (List.mem_of_getElem? hpt)
    have hpo := HF.out.good pi (List.mem_of_getElem? hpi)
    have hdn := HDEN.out.den i _ x hpt hi
    have hwd : Below w1.heap.size w1 w1.drew := (Below.refl _ _).drew
    have C4 := Lib.hid ((IH.out (l.length - pi.f) (by have : pi.pt.f = pi.f := rfl; omega) w0 pi ps w1.drew (Nat.le_refl _) hl2 hpp (by rw [hdn]; exact HL.out.size i x hi) hpo (HST.out.on.trans (reads_below hwd)) (HF.out.below hwd) HDEN.out).mono (fun e w' ⟨w5, z, ps5, h1, h2, h3, h4, h5, h6⟩ => (show ∃ (w5 : World) (tz : Tm) (az : Option Addr) (cz : Nat) (ps5 : List Pv), e = Ending.returned (.agg #[.int .i64 tz.kind, .string tz.name, .int .i64 tz.n, .slice az tz.args.length cz]) ∧ (tz = pi.pt.whole l ∧ Tv.ok w5 ⟨tz, az, cz⟩) ∧ FnAt w5 w' fb bm (.slice ab l.length cb) (.slice (some ⟨g, 0, none⟩) ps.length cn) l ps5 ∧ Den l (ps5.map Pv.pt) ∧ Step (InNow (.slice (some ⟨g, 0, none⟩) ps.length cn)) w0 w1.drew w5 w' from ⟨w5, z.t, z.a, z.c, ps5, h1, ⟨h2, h3⟩, h4, h5, h6⟩)))
    have HSD := Lib.hid (HST.out.below hwd)
    obtain ⟨n0, n1, n2, n3, n4, _, _, _, _, _⟩ := now_five HF.out.now hpi
    obtain ⟨z0, _, z2, _, _, _⟩ := three_of HF.out.box
    have hc1 : w1.cell? ⟨n, 0, none⟩ = some (.pointer (some ⟨fb, 0, none⟩)) := by rw [cell_of_row w1 n 0 _ _ (0, 0) HFA.out]; rfl
    have hk0 : (0 : Int) ≤ (i : Int) := by omega
    have hk1 : (i : Int) < (ps.length : Int) := by omega
    have hgl : g < n := HLT.out g (.inr (.inr (.inr rfl)))
    have hfl : fb < n := HLT.out fb (.inl rfl)
    have hgf : g ≠ fb := (HF.out.apart (g := g) rfl).1
    have hw1 := HZS.out
    have hg1 : g < w1.heap.size := by omega
    have hfb1 : fb < w1.heap.size := by omega
    have hn1' : n < w1.heap.size := by omega
    have hlm : (l.length : Int) ≤ 900 := by have := HL.out.few; omega
    obtain ⟨⟨ti, ai, ci⟩, fi⟩ := pi
    have HIL := Lib.hid hil
    have HI := Lib.hid (And.intro hi (And.intro hx (And.intro hfi (And.intro hpi (And.intro hpt (And.intro hpl (And.intro hl1 (And.intro hl2 hdn))))))))
    have S0 := Lib.hid (show w1.drew.cell? ⟨n, 0, none⟩ = some (.pointer (some ⟨fb, 0, none⟩)) ∧ w1.drew.cell? ⟨fb, 0, none⟩ = some (.slice ab l.length cb) ∧ w1.drew.cell? ⟨fb, 2, none⟩ = some (.slice (some ⟨g, 0, none⟩) ps.length cn) from ⟨hc1, z0, z2⟩)
    have S4 := Lib.hid (fun (w5 w4 : World) (ps5 : List Pv) (h4 : FnAt w5 w4 fb bm (.slice ab l.length cb) (.slice (some ⟨g, 0, none⟩) ps.length cn) l ps5) (h6 : Step (InNow (.slice (some ⟨g, 0, none⟩) ps.length cn)) w0 w1.drew w5 w4) => (show w4.cell? ⟨n, 0, none⟩ = some (.pointer (some ⟨fb, 0, none⟩)) ∧ w4.cell? ⟨fb, 0, none⟩ = some (.slice ab l.length cb) ∧ w4.cell? ⟨fb, 2, none⟩ = some (.slice (some ⟨g, 0, none⟩) ps.length cn) from by
      obtain ⟨z0, _, z2, _, _, _⟩ := three_of h4.box
      have hb := h6.keep n hn1' (fun h => by have : g = n := Option.some.inj h; omega)
      exact ⟨(World.cell?_of_block (w := w1) (w' := w4) (a := ⟨n, 0, none⟩) hb).trans hc1, z0, z2⟩))
    have S6 := Lib.hid (fun (w4 : World) (u0 u1 u2 u3 u4 : Value) (h : w4.cell? ⟨n, 0, none⟩ = some (.pointer (some ⟨fb, 0, none⟩)) ∧ w4.cell? ⟨fb, 0, none⟩ = some (.slice ab l.length cb) ∧ w4.cell? ⟨fb, 2, none⟩ = some (.slice (some ⟨g, 0, none⟩) ps.length cn)) => (show (((((w4.setCell ⟨g, i * 5, none⟩ u0).setCell ⟨g, i * 5 + 1, none⟩ u1).setCell ⟨g, i * 5 + 2, none⟩ u2).setCell ⟨g, i * 5 + 3, none⟩ u3).setCell ⟨g, i * 5 + 4, none⟩ u4).cell? ⟨n, 0, none⟩ = some (.pointer (some ⟨fb, 0, none⟩)) ∧ (((((w4.setCell ⟨g, i * 5, none⟩ u0).setCell ⟨g, i * 5 + 1, none⟩ u1).setCell ⟨g, i * 5 + 2, none⟩ u2).setCell ⟨g, i * 5 + 3, none⟩ u3).setCell ⟨g, i * 5 + 4, none⟩ u4).cell? ⟨fb, 0, none⟩ = some (.slice ab l.length cb) ∧ (((((w4.setCell ⟨g, i * 5, none⟩ u0).setCell ⟨g, i * 5 + 1, none⟩ u1).setCell ⟨g, i * 5 + 2, none⟩ u2).setCell ⟨g, i * 5 + 3, none⟩ u3).setCell ⟨g, i * 5 + 4, none⟩ u4).cell? ⟨fb, 2, none⟩ = some (.slice (some ⟨g, 0, none⟩) ps.length cn) from by
      have e : ∀ q : Addr, q.block ≠ g → (((((w4.setCell ⟨g, i * 5, none⟩ u0).setCell ⟨g, i * 5 + 1, none⟩ u1).setCell ⟨g, i * 5 + 2, none⟩ u2).setCell ⟨g, i * 5 + 3, none⟩ u3).setCell ⟨g, i * 5 + 4, none⟩ u4).cell? q = w4.cell? q := fun q hq => by
        rw [cell_aside ⟨g, i * 5 + 4, none⟩ q hq, cell_aside ⟨g, i * 5 + 3, none⟩ q hq, cell_aside ⟨g, i * 5 + 2, none⟩ q hq, cell_aside ⟨g, i * 5 + 1, none⟩ q hq, cell_aside ⟨g, i * 5, none⟩ q hq]
      exact ⟨(e _ (by show n ≠ g; omega)).trans h.1, (e _ (by show fb ≠ g; omega)).trans h.2.1, (e _ (by show fb ≠ g; omega)).trans h.2.2⟩))
    simp only [Pv.val] at C4
    clear ZERO hl1 hl2 hpp hpo hwd hi hx hpi hpt hdn hpl hang hil hfi
    go_wp2_with fail
    refine wp_region_held_drew (S := fun W => W.cell? ⟨n, 0, none⟩ = some (.pointer (some ⟨fb, 0, none⟩)) ∧ W.cell? ⟨fb, 0, none⟩ = some (.slice ab l.length cb) ∧ W.cell? ⟨fb, 2, none⟩ = some (.slice (some ⟨g, 0, none⟩) ps.length cn)) (by kernel_rfl) S0.out (fun hHeld => ?_)
    refine wpAnyH_take (i := 0) (v := ?v1) rfl (by kernel_rfl) (by kernel_rfl) (by kernel_rfl) (fun _ _ _ h => h) (Or.inl ⟨by rfl, ?hy1⟩) (by assumption) ?rest1
    case hy1 => (intro w hSw; (try dsimp only at hSw); go_simp; (try with_reducible rfl))
    try simp only [Act.put, List.setIfInBounds_toArray]
    refine wpAnyH_take (i := 1) (v := ?v2) rfl (by kernel_rfl) (by kernel_rfl) (by kernel_rfl) (fun _ _ _ h => h) (Or.inl ⟨by rfl, ?hy2⟩) (by assumption) ?rest2
    case hy2 => (intro w hSw; (try dsimp only at hSw); go_simp; (try with_reducible rfl))
    try simp only [Act.put]
    refine wpAnyH_take (i := 2) (v := ?v3) rfl (by kernel_rfl) (by kernel_rfl) (by kernel_rfl) (fun _ _ _ h => h) (Or.inl ⟨by rfl, ?hy3⟩) (by assumption) ?rest3
    case hy3 => (intro w hSw; (try dsimp only at hSw); go_simp; (try with_reducible rfl))
    try simp only [Act.put]
    refine wpAnyH_take (i := 3) (v := ?v4) rfl (by kernel_rfl) (by kernel_rfl) (by kernel_rfl) (fun _ _ _ h => h) (Or.inl ⟨by rfl, ?hy4⟩) (by assumption) ?rest4
    case hy4 => (intro w hSw; (try dsimp only at hSw); go_simp; (try with_reducible rfl))
    try simp only [Act.put]
    refine wpAnyH_take (i := 4) (v := ?v5) rfl (by kernel_rfl) (by kernel_rfl) (by kernel_rfl) (fun _ _ _ h => h) (Or.inl ⟨by rfl, ?hy5⟩) (by assumption) ?rest5
    case hy5 => (intro w hSw; (try dsimp only at hSw); go_simp; (try with_reducible rfl))
    try simp only [Act.put]
    refine wpAnyH_take (i := 5) (v := ?v6) rfl (by kernel_rfl) (by kernel_rfl) (by kernel_rfl) (fun _ _ _ h => h) (Or.inl ⟨by rfl, ?hy6⟩) (by assumption) ?rest6
    case hy6 => (intro w hSw; (try dsimp only at hSw); go_simp; (try with_reducible rfl))
    try simp only [Act.put]
    refine wpAnyH_take (i := 6) (v := ?v7) rfl (by kernel_rfl) (by kernel_rfl) (by kernel_rfl) (fun _ _ _ h => h) (Or.inl ⟨by rfl, ?hy7⟩) (by assumption) ?rest7
    case hy7 => (intro w hSw; (try dsimp only at hSw); go_simp; (try with_reducible rfl))
    try simp only [Act.put]
    refine wpAnyH_take (i := 7) (v := ?v8) rfl (by kernel_rfl) (by kernel_rfl) (by kernel_rfl) (fun _ _ _ h => h) (Or.inl ⟨by rfl, ?hy8⟩) (by assumption) ?rest8
    case hy8 => (intro w hSw; (try dsimp only at hSw); go_simp; (try with_reducible rfl))
    try simp only [Act.put]
    refine wpAnyH_take (i := 8) (v := ?v9) rfl (by kernel_rfl) (by kernel_rfl) (by kernel_rfl) (fun _ _ _ h => h) (Or.inl ⟨by rfl, ?hy9⟩) (by assumption) ?rest9
    case hy9 => (intro w hSw; (try dsimp only at hSw); go_simp; (try with_reducible rfl))
    try simp only [Act.put]
    refine wpAnyH_take (i := 9) (v := ?v10) rfl (by kernel_rfl) (by kernel_rfl) (by kernel_rfl) (fun _ _ _ h => h) (Or.inl ⟨by rfl, ?hy10⟩) (by assumption) ?rest10
    case hy10 => (intro w hSw; (try dsimp only at hSw); go_simp; (try with_reducible rfl))
    try simp only [Act.put]
    refine wpAnyH_take (i := 10) (v := ?v11) rfl (by kernel_rfl) (by kernel_rfl) (by kernel_rfl) (fun _ _ _ h => h) (Or.inl ⟨by rfl, ?hy11⟩) (by assumption) ?rest11
    case hy11 => (intro w hSw; (try dsimp only at hSw); go_simp; (try with_reducible rfl))
    try simp only [Act.put]
    refine wpAnyH_take (i := 11) (v := ?v12) rfl (by kernel_rfl) (by kernel_rfl) (by kernel_rfl) (fun _ _ _ h => h) (Or.inl ⟨by rfl, ?hy12⟩) (by assumption) ?rest12
    case hy12 => (intro w hSw; (try dsimp only at hSw); go_simp; (try with_reducible rfl))
    try simp only [Act.put]
    refine wpAnyH_take (i := 14) (v := ?v13) rfl (by kernel_rfl) (by kernel_rfl) (by kernel_rfl) (fun _ _ _ h => h) (Or.inl ⟨by rfl, ?hy13⟩) (by assumption) ?rest13
    case hy13 => (intro w hSw; (try dsimp only at hSw); go_simp; (try with_reducible rfl))
    try simp only [Act.put]
    refine wpAnyH_take (i := 15) (v := ?v14) rfl (by kernel_rfl) (by kernel_rfl) (by kernel_rfl) (fun _ _ _ h => h) (Or.inl ⟨by rfl, ?hy14⟩) (by assumption) ?rest14
    case hy14 => (intro w hSw; (try dsimp only at hSw); go_simp; (try with_reducible rfl))
    try simp only [Act.put]
    refine wpAnyH_take (i := 16) (v := ?v15) rfl (by kernel_rfl) (by kernel_rfl) (by kernel_rfl) (fun _ _ _ h => h) (Or.inl ⟨by rfl, ?hy15⟩) (by assumption) ?rest15
    case hy15 => (intro w hSw; (try dsimp only at hSw); go_simp; (try with_reducible rfl))
    try simp only [Act.put]
    refine wpAnyH_take (i := 17) (v := ?v16) rfl (by kernel_rfl) (by kernel_rfl) (by kernel_rfl) (fun _ _ _ h => h) (Or.inl ⟨by rfl, ?hy16⟩) (by assumption) ?rest16
    case hy16 => (intro w hSw; (try dsimp only at hSw); go_simp; (try with_reducible rfl))
    try simp only [Act.put]
    refine wpAnyH_take (i := 18) (v := ?v17) rfl (by kernel_rfl) (by kernel_rfl) (by kernel_rfl) (fun _ _ _ h => h) (Or.inl ⟨by rfl, ?hy17⟩) (by assumption) ?rest17
    case hy17 => (intro w hSw; (try dsimp only at hSw); go_simp; (try with_reducible rfl))
    try simp only [Act.put]
    refine wpAnyH_ready (rs := [12]) (by kernel_rfl) (by simp) ?_
    refine AllReadyH.cons rfl (fun K hK => ?_) AllReadyH.nil
    go_simp
    refine hK.out _ _ ?_ (fun hHeld => ?_)
    · exact S0.out
    clear hK K
    try simp only [Act.put, List.setIfInBounds_toArray, List.set_cons_zero, List.set_cons_succ]
    refine wpAnyH_ready (rs := [13]) (by kernel_rfl) (by simp) ?_
    refine AllReadyH.cons rfl (fun K hK => ?_) AllReadyH.nil
    go_simp
    (go_at_call 68; refine C4.out.mono ?_; rintro e w4 ⟨w5, tz, az, cz, ps5, rfl, hz, hF5, hden5, hst5⟩; have hS4 := S4.out _ _ _ hF5 hst5; have e5 : ps5.length = l.length := (by have := hden5.len; rwa [List.length_map] at this); obtain ⟨pj, hpj⟩ : ∃ pj, ps5[i]? = some pj := ⟨_, List.getElem?_eq_getElem (by rw [e5]; exact HIL.out)⟩; obtain ⟨r0, r1, r2, r3, r4, k0, k1, k2, k3, k4⟩ := now_five hF5.now hpj; have H5 := Lib.hid (And.intro hz (And.intro hF5 (And.intro hden5 (And.intro hst5 (And.intro hpj e5))))); have hg4 : g < w4.heap.size := lt_of_cell r0; clear hz hF5 hden5 hst5 hpj e5 C4 n0 n1 n2 n3 n4)
    refine hK.out _ _ ?_ (fun hHeld => ?_)
    · exact hS4
    clear hK K
    try simp only [Act.put, List.setIfInBounds_toArray, List.set_cons_zero, List.set_cons_succ]
    refine wpAnyH_take (i := 19) (v := ?v19) rfl (by kernel_rfl) (by kernel_rfl) (by kernel_rfl) (fun _ _ _ h => h) (Or.inl ⟨by rfl, ?hy19⟩) (by assumption) ?rest19
    case hy19 => (intro w hSw; (try dsimp only at hSw); go_simp; (try with_reducible rfl))
    try simp only [Act.put, List.setIfInBounds_toArray]
    refine wpAnyH_take (i := 20) (v := ?v18) rfl (by kernel_rfl) (by kernel_rfl) (by kernel_rfl) (fun _ _ _ h => h) (Or.inl ⟨by rfl, ?hy18⟩) (by assumption) ?rest18
    case hy18 => (intro w hSw; (try dsimp only at hSw); go_simp; (try with_reducible rfl))
    try simp only [Act.put]
    refine wpAnyH_ready (rs := [21]) (by kernel_rfl) (by simp) ?_
    refine AllReadyH.cons rfl (fun K hK => ?_) AllReadyH.nil
    go_simp
    refine hK.out _ _ ?_ (fun hHeld => ?_)
    · exact S6.out _ _ _ _ _ _ hS4
    clear hK K
    try simp only [Act.put, List.setIfInBounds_toArray, List.set_cons_zero, List.set_cons_succ]
    refine wpAnyH_done (by kernel_rfl) ?_ _
    obtain ⟨w6, hw6⟩ : ∃ w6, w6 = (((((w4.setCell ⟨g, i * 5, none⟩ (.int .i64 tz.kind)).setCell ⟨g, i * 5 + 1, none⟩ (.string tz.name)).setCell ⟨g, i * 5 + 2, none⟩ (.int .i64 tz.n)).setCell ⟨g, i * 5 + 3, none⟩ (.slice az tz.args.length cz)).setCell ⟨g, i * 5 + 4, none⟩ (.int .i64 l.length)) := ⟨_, rfl⟩
    rw [← hw6]
    have HE := Lib.hid (whole_put H5.out.1 H5.out.2.1 H5.out.2.2.1 H5.out.2.2.2.1 H5.out.2.2.2.2.1 HI.out.1 HI.out.2.2.2.2.2.2.2.2 (whole_plain HL.out.plain (HDEN.out.plain _ (List.mem_of_getElem? HI.out.2.2.2.2.1))) hw6)
    have hB6 : Box w6 w.heap.size (.int .i64 0) (.string ⟨#[]⟩) (.int .i64 0) (.slice none 0 0) := box_kept HBR.out (HE.out.2.2.2.keep w.heap.size (by show _ < w1.heap.size; omega) (fun h => by have hgg : g = w.heap.size := Option.some.inj h; omega))
    have HB6 := Lib.hid hB6
    obtain ⟨r0, r1, r2, r3, _, _, _, _, _, _⟩ := now_five HE.out.2.1.now HE.out.1
    obtain ⟨_, _, x2, _, _, _⟩ := three_of HE.out.2.1.box
    obtain ⟨s1, _, _⟩ := S6.out w4 (.int .i64 tz.kind) (.string tz.name) (.int .i64 tz.n) (.slice az tz.args.length cz) (.int .i64 l.length) (S4.out _ _ _ H5.out.2.1 H5.out.2.2.2.1)
    rw [← hw6] at s1
    simp only at r0 r1 r2 r3
    have hg6 : g < w6.heap.size := lt_of_cell r0
    have hr6 : w.heap.size < w6.heap.size := lt_of_cell hB6.c0
    obtain ⟨q0, q1, q2, q3, f0, f1, f2, f3⟩ := hB6
    clear hw6 hHeld k0 k1 k2 k3 k4 hg4 hS4
    go_wp2_with fail
    obtain ⟨q0, q1, q2, q3, _, _, _, _⟩ := HB6.out.sets (.int .i64 tz.kind) (.string tz.name) (.int .i64 tz.n) (.slice az tz.args.length cz)
    refine bodyPost_ret (v := .tuple #[.agg #[.int .i64 tz.kind, .string tz.name, .int .i64 tz.n, .slice az tz.args.length cz], .bool true]) (by simp [results, Try.results78, go_sem, q0, q1, q2, q3]) rfl ?_
    have hfd : foundB l f s = some tz := by
      rw [← HI.out.2.1, foundB_hit HI.out.1 HI.out.2.2.1, appR_hit HL.out.nodup HI.out.1 HI.out.2.2.1, H5.out.1.1]
      exact congrArg some HI.out.2.2.2.2.2.2.2.2.symm
    have hs6 := HSD.out.trans HE.out.2.2.2
    refine ⟨w5, ⟨tz, az, cz⟩, by rw [hfd]; rfl, by rw [hfd]; rfl, H5.out.1.2, ⟨⟨_, HE.out.2.1.box4 (g := w.heap.size) (fun k hk => by have := HLT.out k hk; omega) _ _ _ _ _ _ _ _, HE.out.2.2.1⟩, fun k h1 h2 => ?_⟩, step_four hs6 (g := w.heap.size) (HE.out.2.2.2.blind _ (by show _ < w1.heap.size; omega) (blind_new HR.out.size)) (fun h => by omega) _ _ _ _ _ _ _ _⟩
    rw [Below.heap_setCell _ _ _ _ (show k ≠ w.heap.size by omega), Below.heap_setCell _ _ _ _ (show k ≠ w.heap.size by omega), Below.heap_setCell _ _ _ _ (show k ≠ w.heap.size by omega), Below.heap_setCell _ _ _ _ (show k ≠ w.heap.size by omega)]
    exact (hs6.keep k (by omega) (fun h => by have := HLT.out k (.inr (.inr (.inr h))); omega)).trans (HK.out k h1 h2)
  · have HZ := Lib.hid (ZERO.out hno)
    clear ZERO
    obtain ⟨q0, q1, q2, q3, f0, f1, f2, f3⟩ := HBR.out
    go_wp2_with fail
    obtain ⟨q0, q1, q2, q3, _, _, _, _⟩ := HBR.out.sets (.int .i64 0) (.string ⟨#[]⟩) (.int .i64 0) (.slice none 0 0)
    refine bodyPost_ret (v := .tuple #[.agg #[.int .i64 0, .string ⟨#[]⟩, .int .i64 0, .slice none 0 0], .bool false]) (by simp [results, Try.results78, go_sem, q0, q1, q2, q3]) rfl ?_
    exact HZ.out
end Go.Proofs.Ytedljdcliilggaa

namespace Go.Proofs.Ytedljdcliilggaa
open Go.RowKit Go.Maps

set_option maxRecDepth 100000 in
set_option maxHeartbeats 8000000 in
theorem whole_any (fb bm : Nat) (vb vn : Value) (l : List Bn) (hl : Sound l) : ∀ (d : Nat) (w0 : World) (p : Pv) (ps : List Pv) (w : World), l.length - p.f ≤ d → p.f ≤ l.length → PlainT p.v.t → (p.pt.whole l).parts ≤ mostT → p.v.ok w0 → Reads w0 w → FnAt w0 w fb bm vb vn l ps → Den l (ps.map Pv.pt) →
    Calls Try.prog 68 #[.pointer (some ⟨fb, 0, none⟩), p.val] w (WholePost w0 fb bm vb vn l p w) := by
  intro d
  induction d using Nat.strongRecOn with
  | _ d ih =>
  intro w0 p ps w hd hpf hpl hsz hpo hr hF hden
  obtain ⟨⟨t, a, c⟩, f⟩ := p
  simp only at hd hpf hpl hpo
  have eg : ∀ args w, (callFunc 78 args).run Try.prog w = .ok (.enter 78 args) w := enters_of Try.func78 (by kernel_rfl) rfl
  have hz1 : (w.alloc (.cells #[.pointer (some ⟨fb, 0, none⟩)] 57)).heap.size = w.heap.size + 1 := by simp
  have hz2 : ((w.alloc (.cells #[.pointer (some ⟨fb, 0, none⟩)] 57)).alloc (.cells #[.int .i64 t.kind, .string t.name, .int .i64 t.n, .slice a t.args.length c, .int .i64 f] 83)).heap.size = w.heap.size + 2 := by simp
  have hB3 : Below w.heap.size w (((w.alloc (.cells #[.pointer (some ⟨fb, 0, none⟩)] 57)).alloc (.cells #[.int .i64 t.kind, .string t.name, .int .i64 t.n, .slice a t.args.length c, .int .i64 f] 83)).alloc (.cells #[.int .i64 0, .string ⟨#[]⟩, .int .i64 0, .slice none 0 0] 24)) := (((Below.refl _ _).alloc (Nat.le_refl _) _).alloc (by rw [hz1]; omega) _).alloc (by rw [hz2]; omega) _
  have h1 : (((w.alloc (.cells #[.pointer (some ⟨fb, 0, none⟩)] 57)).alloc (.cells #[.int .i64 t.kind, .string t.name, .int .i64 t.n, .slice a t.args.length c, .int .i64 f] 83)).alloc (.cells #[.int .i64 0, .string ⟨#[]⟩, .int .i64 0, .slice none 0 0] 24)).heap[w.heap.size]? = some (.cells #[.pointer (some ⟨fb, 0, none⟩)] 57 (0, 0)) :=
    (Below.heap_alloc _ _ _ (by rw [hz2]; omega)).trans ((Below.heap_alloc _ _ _ (by rw [hz1]; omega)).trans (heap_alloc_new _ _))
  have h2 := heap_alloc_new (w.alloc (.cells #[.pointer (some ⟨fb, 0, none⟩)] 57)) (.cells #[.int .i64 t.kind, .string t.name, .int .i64 t.n, .slice a t.args.length c, .int .i64 f] 83)
  have h2' := (Below.heap_alloc _ (.cells #[.int .i64 0, .string ⟨#[]⟩, .int .i64 0, .slice none 0 0] 24) _ (by rw [hz1, hz2]; omega)).trans h2
  have bR := box_new ((w.alloc (.cells #[.pointer (some ⟨fb, 0, none⟩)] 57)).alloc (.cells #[.int .i64 t.kind, .string t.name, .int .i64 t.n, .slice a t.args.length c, .int .i64 f] 83)) (.int .i64 0) (.string ⟨#[]⟩) (.int .i64 0) (.slice none 0 0) 24
  rw [hz1] at h2'
  rw [hz2] at bR
  obtain ⟨wz, hwz⟩ : ∃ wz, wz = (((w.alloc (.cells #[.pointer (some ⟨fb, 0, none⟩)] 57)).alloc (.cells #[.int .i64 t.kind, .string t.name, .int .i64 t.n, .slice a t.args.length c, .int .i64 f] 83)).alloc (.cells #[.int .i64 0, .string ⟨#[]⟩, .int .i64 0, .slice none 0 0] 24)) := ⟨_, rfl⟩
  have hzs : wz.heap.size = w.heap.size + 3 := by rw [hwz]; simp
  rw [← hwz] at h1 h2' hB3 bR
  have five := five_of h2' rfl rfl rfl rfl rfl (x0 := .int .i64 t.kind) (x1 := .string t.name) (x2 := .int .i64 t.n) (x3 := .slice a t.args.length c) (x4 := .int .i64 f) (o := 0)
  have hlt : ∀ k, InFn fb bm vb vn k → k < w.heap.size := fun k hk => hF.lt hk
  have hT := told_whole fb bm vb vn l hl d ih f w.heap.size hd hpf wz (by omega) hlt h1 _ _ _ _ h2'
  have hst : Step (InNow vn) w0 w w0 wz := step_below hr hB3
  have PT := Lib.hid ((put_tells 78 #[.pointer (some ⟨w.heap.size, 0, none⟩), .pointer (some ⟨w.heap.size + 1, 0, none⟩)] eg (foundB l f) wz.heap.size (InNow vn) (WholeI fb bm vb vn l w.heap.size wz) (fun k hk => by have := hlt k (.inr (.inr (.inr hk))); omega) (whole_stays (fun k hk => by have := hlt k hk; omega)) hT ⟨t, a, c⟩ w0 wz hpo hst.on (Nat.le_refl _) ⟨⟨ps, hF.below hB3, hden⟩, fun _ _ _ => rfl⟩ (by have h3 := whole_parts hl.plain (p := ⟨t, f⟩) hpl; simp only at h3; have h4 : (Pt.whole l ⟨t, f⟩).parts ≤ mostT := hsz; unfold mostT at h4; simp only; omega) (Nat.le_trans (found_few l f t) (by have := hl.few; omega))).mono (fun e w' ⟨w1, z, g1, g2, g3, g4, g5⟩ => (show ∃ (w1 : World) (tz : Tm) (az : Option Addr) (cz : Nat), e = Ending.returned (.agg #[.int .i64 tz.kind, .string tz.name, .int .i64 tz.n, .slice az tz.args.length cz]) ∧ (tz = (Pt.mk t f).whole l ∧ Tv.ok w1 ⟨tz, az, cz⟩) ∧ WholeI fb bm vb vn l w.heap.size wz w1 w' ∧ Step (InNow vn) w0 wz w1 w' from ⟨w1, z.t, z.a, z.c, g1, ⟨by rw [g2]; exact found_whole l (p := ⟨t, f⟩) hpl, g3⟩, g4, g5⟩)))
  have HST := Lib.hid hst
  have HZS := Lib.hid hzs
  have HBR := Lib.hid bR
  have HLT := Lib.hid hlt
  have HR := Lib.hid hr
  obtain ⟨p0, p1, p2, p3, p4, _, _, _, _, _⟩ := five
  simp only [Nat.zero_add] at p1 p2 p3 p4
  simp only [Pv.val, Tv.val] at PT ⊢
  clear ih hd hpl hsz hpo hr hF hden hz1 hz2 hB3 h1 h2 h2' bR hzs hT hst eg hlt
  go_enter Try.func68, Try.ntmps68
  go_wp2_with fail
  rw [← hwz]
  clear hwz
  refine PT.out.mono ?_; rintro e w4 ⟨w1, tz, az, cz, rfl, hz, hI, hS⟩
  have hlast : w4.heap[w.heap.size + 2]? = wz.heap[w.heap.size + 2]? := hI.2 _ (by omega) (by have := HZS.out; omega)
  have HR4 := Lib.hid (box_kept HBR.out hlast)
  have H4 := Lib.hid (And.intro hz (And.intro hI hS))
  obtain ⟨q0, q1, q2, q3, f0, f1, f2, f3⟩ := HR4.out
  have hr4 : w.heap.size + 2 < w4.heap.size := lt_of_cell q0
  clear hz hI hS hlast PT p0 p1 p2 p3 p4
  go_wp2_with fail
  obtain ⟨q0, q1, q2, q3, _, _, _, _⟩ := HR4.out.sets (.int .i64 tz.kind) (.string tz.name) (.int .i64 tz.n) (.slice az tz.args.length cz)
  refine bodyPost_ret (v := .agg #[.int .i64 tz.kind, .string tz.name, .int .i64 tz.n, .slice az tz.args.length cz]) (by simp [results, Try.results68, go_sem, q0, q1, q2, q3]) rfl ?_
  obtain ⟨⟨g1, g2⟩, ⟨⟨ps4, g3, g4⟩, _⟩, g5⟩ := H4.out
  exact ⟨w1, ⟨tz, az, cz⟩, ps4, rfl, g1, g2, g3.box4 (g := w.heap.size + 2) (fun k hk => by have := HLT.out k hk; omega) _ _ _ _ _ _ _ _, g4, step_four (HST.out.trans g5) (g := w.heap.size + 2) (g5.blind _ (by have := HZS.out; omega) (blind_new (by have := HR.out.size; omega))) (fun h => by omega) _ _ _ _ _ _ _ _⟩
end Go.Proofs.Ytedljdcliilggaa
