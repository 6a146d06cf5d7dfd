/-
  The first place of a part, by the program's search: the method that looks for it from within.
  Rows of places in memory, as they are read. No function of the program.
  Places that the call itself has made, a nil one too. No function of the program.
-/
import Derived.Test.YtehpkhcjejlbpaaS06
import Derived.Test.YtehpkhcjejlbpaaS07
import Derived.Test.YtehpkhcjejlbpaaS02
import Derived.Maps.AppendAt
import Derived.Deep.RegionHeld3
import Derived.Deep.AppendLies
import Derived.BigQuiet
import Derived.Test.YtehpkhcjejlbpaaS03
namespace Go.Proofs.Ytehpkhcjejlbpaa
open Go.RowKit

/-- The search's own memory: the part, its size, the place where it looks. -/
structure SBox (w : World) (g : Nat) (s : Tv) (n : Int) (v : Value) : Prop where
  c0 : w.cell? ⟨g, 0, none⟩ = some (.int .i64 s.t.kind)
  c1 : w.cell? ⟨g, 1, none⟩ = some (.string s.t.name)
  c2 : w.cell? ⟨g, 2, none⟩ = some (.int .i64 s.t.n)
  c3 : w.cell? ⟨g, 3, none⟩ = some (.slice s.a s.t.args.length s.c)
  c4 : w.cell? ⟨g, 4, none⟩ = some (.int .i64 n)
  c5 : w.cell? ⟨g, 5, none⟩ = some v
  f5 : w.frozen? ⟨g, 5, none⟩ = false
theorem SBox.of_block {w w' : World} {g : Nat} {s : Tv} {n : Int} {v : Value} (h : SBox w g s n v) (hb : w'.heap[g]? = w.heap[g]?) : SBox w' g s n v :=
  ⟨(World.cell?_of_block hb).trans h.c0, (World.cell?_of_block hb).trans h.c1, (World.cell?_of_block hb).trans h.c2, (World.cell?_of_block hb).trans h.c3, (World.cell?_of_block hb).trans h.c4, (World.cell?_of_block hb).trans h.c5, (World.frozen?_of_block hb).trans h.f5⟩
theorem SBox.set {w : World} {g : Nat} {s : Tv} {n : Int} {v : Value} (h : SBox w g s n v) (u : Value) : SBox (w.setCell ⟨g, 5, none⟩ u) g s n u :=
  ⟨(cell_off g 5 0 (by decide)).trans h.c0, (cell_off g 5 1 (by decide)).trans h.c1, (cell_off g 5 2 (by decide)).trans h.c2, (cell_off g 5 3 (by decide)).trans h.c3, (cell_off g 5 4 (by decide)).trans h.c4, World.cell?_setCell_same _ _ _ h.c5, by simp [h.f5]⟩
theorem Box.of_block {w w' : World} {g : Nat} {x0 x1 x2 x3 : Value} (h : Box w g x0 x1 x2 x3) (hb : w'.heap[g]? = w.heap[g]?) : Box w' g x0 x1 x2 x3 :=
  ⟨(World.cell?_of_block hb).trans h.c0, (World.cell?_of_block hb).trans h.c1, (World.cell?_of_block hb).trans h.c2, (World.cell?_of_block hb).trans h.c3, (World.frozen?_of_block hb).trans h.f0, (World.frozen?_of_block hb).trans h.f1, (World.frozen?_of_block hb).trans h.f2, (World.frozen?_of_block hb).trans h.f3⟩
/-- What a call leaves as it was: all but the search's memory and the row of its place. -/
structure Frm (g : Nat) (o : Option Nat) (w w' : World) : Prop where
  size : w.heap.size ≤ w'.heap.size
  block : ∀ b, b < w.heap.size → b ≠ g → some b ≠ o → w'.heap[b]? = w.heap[b]?
/-- A row's last place struck. -/
theorem own_cut {w : World} {base g cap n : Nat} {e : TypeId} {xs : List Value} {y : Value} (h : w.ownsRow base e 1 (.slice (some ⟨g, 0, none⟩) (n + 1) cap) (n + 1) (xs ++ [y])) (hx : xs.length = n) : w.ownsRow base e 1 (.slice (some ⟨g, 0, none⟩) n cap) n xs := by
  obtain ⟨_, ⟨hv, _⟩ | ⟨g', cap', cur, hv, hb, hg, h1, h2, h3, ht⟩⟩ := h
  · cases hv
  · obtain ⟨rfl, rfl⟩ : g = g' ∧ cap = cap' := by cases hv; exact ⟨rfl, rfl⟩
    refine ⟨by omega, .inr ⟨g, cap, cur, rfl, hb, hg, by omega, h2, h3, ?_⟩⟩
    have := congrArg (List.take n) ht
    rw [List.take_take, List.take_left' hx] at this
    rw [← this]; congr 1; omega

/-- What the method leaves. -/
def InPost (s : Tv) (t : Tm) (p : List Int) (w0 : World) (B g : Nat) (n : Int) (v : Value) (w : World) (e : Ending) (w' : World) : Prop :=
  ∃ (v' : Value) (c : Int), e = .returned (.tuple #[.int .i64 c, .bool (finP s.t t).isSome]) ∧ (finP s.t t = none → c = (t.parts : Int)) ∧ SBox w' g s n v' ∧
    w'.ownsRow B 3 1 v' (p ++ (finP s.t t).getD []).length ((p ++ (finP s.t t).getD []).map (Value.int .i64)) ∧ Below w0.heap.size w0 w' ∧ Frm g v.ownBlock w w' ∧ (v'.ownBlock = v.ownBlock ∨ ∃ k, w.heap.size ≤ k ∧ v'.ownBlock = some k)

set_option maxRecDepth 100000 in
set_option maxHeartbeats 4000000 in
theorem pin_tm (m : Nat) : ∀ (s x : Tv) (p : List Int) (v : Value) (w0 w : World) (B g : Nat), x.t.parts ≤ m → m + p.length ≤ 200000 → s.ok w0 → x.ok w0 → Below w0.heap.size w0 w → w0.heap.size ≤ g → g < B → B ≤ w.heap.size → SBox w g s s.t.parts v →
    w.ownsRow B 3 1 v p.length (p.map (Value.int .i64)) → s.t.parts ≤ 200000 →
    Calls Try.prog 50 #[.pointer (some ⟨g, 0, none⟩), x.val] w (InPost s x.t p w0 B g s.t.parts v w) := by
  induction m with
  | zero => intro s x p v w0 w B g h; have := parts_pos x.t; omega
  | succ m ih =>
    intro s x p v w0 w B g hm hlen hs hx hb0 hg0 hgB hBw hbox hown hsp
    obtain ⟨t, ax, cx⟩ := x
    obtain ⟨i1, hi1, hiz1, his1, hib1⟩ := info_parts intInfo
    have hvlt : ∀ k, v.ownBlock = some k → k < w.heap.size := fun k e => (hown.lt k e).2
    have hvB : ∀ k, v.ownBlock = some k → B ≤ k := fun k e => (hown.lt k e).1
    have hz1 : (w.alloc (.cells #[.int .i64 t.kind, .string t.name, .int .i64 t.n, .slice ax t.args.length cx] 40)).heap.size = w.heap.size + 1 := by simp
    have hwa : Below w.heap.size w (w.alloc (.cells #[.int .i64 t.kind, .string t.name, .int .i64 t.n, .slice ax t.args.length cx] 40)) := (Below.refl _ _).alloc (Nat.le_refl _) _
    have bX := box_new w (.int .i64 t.kind) (.string t.name) (.int .i64 t.n) (.slice ax t.args.length cx) 40
    have hgw : g < w.heap.size := lt_of_cell hbox.c0
    have hbox1 := hbox.of_block (w' := w.alloc (.cells #[.int .i64 t.kind, .string t.name, .int .i64 t.n, .slice ax t.args.length cx] 40)) (hwa.block g hgw)
    have hown1 := own_below hown hwa
    have hb01 := hb0.trans (hwa.mono hb0.size)
    have hpl : ∀ j (h : j < t.args.length), t.args[j].parts ≤ m := fun j h => by have := parts_arg t h; simp only at hm; omega
    have hpt : t.parts = partsL t.args + 1 := parts_eq t
    have HX := Lib.hid hx
    have HS := Lib.hid hs
    have IH := Lib.hid ih
    have HPL := Lib.hid hpl
    have HPT := Lib.hid hpt
    have HM := Lib.hid hm
    have BX := Lib.hid bX
    have SB := Lib.hid hbox1
    have HO := Lib.hid hown1
    have HVL := Lib.hid hvlt
    have HVB := Lib.hid hvB
    clear ih hpl hx hs bX hbox1 hown1 hbox hown hvlt hvB hpt hm
    simp only [Tv.val] at *
    go_enter Try.func50, Try.ntmps50
    go_wp2_with fail
    go_loopw [6, 14] (fun sz i wr => ∃ (k : Nat) (v1 : Value), k ≤ t.args.length ∧ sz = .int .i64 ((partsL (t.args.take k) : Int) + 1) ∧ i = .int .i64 k ∧ Hid (NoneTo s.t t.args k) ∧ Hid (SBox wr g s s.t.parts v1) ∧ Hid (wr.ownsRow B 3 1 v1 p.length (p.map (Value.int .i64))) ∧ Hid (Below w0.heap.size w0 wr) ∧
      Hid (Frm g v.ownBlock (w.alloc (.cells #[.int .i64 t.kind, .string t.name, .int .i64 t.n, .slice ax t.args.length cx] 40)) wr) ∧ Hid (v1.ownBlock = v.ownBlock ∨ ∃ k, w.heap.size + 1 ≤ k ∧ v1.ownBlock = some k)) (fun _ i _ => t.args.length - (intOf i).toNat)
    case atStart => exact ⟨0, v, Nat.zero_le _, by rw [List.take_zero, partsL_nil]; rfl, rfl, Lib.hid (noneTo_start _ _), SB, HO, Lib.hid hb01, Lib.hid ⟨Nat.le_refl _, fun _ _ _ _ => rfl⟩, Lib.hid (.inl rfl)⟩
    case round =>
      obtain ⟨k, v1, hk, rfl, rfl, HNO, SB1, HO1, HB1, HF1, HV1⟩ := hrel
      by_cases hkl : k < t.args.length
      · obtain ⟨b', o', rfl, hlt', hrow⟩ := HX.out.2.2.resolve_left (by intro h; simp only at h; rw [h] at hkl; simp at hkl)
        obtain ⟨z, hzt, hzo, hz⟩ := tmAt_tv (rowAt_get hrow hkl)
        obtain ⟨m0, m1, m2, m3⟩ : TvAt wr b' (o' + k * 4) z := ⟨(HB1.out.cell (p := ⟨b', o' + k * 4, none⟩) hlt').trans hz.c0, (HB1.out.cell (p := ⟨b', o' + k * 4 + 1, none⟩) hlt').trans hz.c1, (HB1.out.cell (p := ⟨b', o' + k * 4 + 2, none⟩) hlt').trans hz.c2, (HB1.out.cell (p := ⟨b', o' + k * 4 + 3, none⟩) hlt').trans hz.c3⟩
        obtain ⟨zt, za, zc⟩ := z
        simp only at hzt hzo m0 m1 m2 m3
        have hzp : zt.parts ≤ m := by rw [hzt]; exact HPL.out k hkl
        have hcn : partsL (t.args.take (k + 1)) = partsL (t.args.take k) + zt.parts := by rw [partsL_take t.args hkl, hzt]
        have hall : partsL (t.args.take (k + 1)) ≤ partsL t.args := by
          have e := partsL_append (t.args.take (k + 1)) (t.args.drop (k + 1))
          rw [List.take_append_drop] at e; omega
        have hpm := HM.out
        have hpt := HPT.out
        (try simp only at hpm)
        have hwrs : w.heap.size + 1 ≤ wr.heap.size := by have := HF1.out.size; rw [hz1] at this; exact this
        have L0 : Below wr.heap.size wr (wr.alloc (.cells #[.int .i64 zt.kind, .string zt.name, .int .i64 zt.n, .slice za zt.args.length zc] 40)) := (Below.refl _ _).alloc (Nat.le_refl _) _
        have L1 : Below wr.heap.size wr ((wr.alloc (.cells #[.int .i64 zt.kind, .string zt.name, .int .i64 zt.n, .slice za zt.args.length zc] 40)).alloc (.cells #[.int .i64 k] 3)) := L0.alloc L0.size _
        have hl0 : (wr.alloc (.cells #[.int .i64 zt.kind, .string zt.name, .int .i64 zt.n, .slice za zt.args.length zc] 40)).heap.size = wr.heap.size + 1 := by simp
        have hl1 : ((wr.alloc (.cells #[.int .i64 zt.kind, .string zt.name, .int .i64 zt.n, .slice za zt.args.length zc] 40)).alloc (.cells #[.int .i64 k] 3)).heap.size = wr.heap.size + 2 := by simp
        have b8 := (box_new wr (.int .i64 zt.kind) (.string zt.name) (.int .i64 zt.n) (.slice za zt.args.length zc) 40).below ((Below.refl _ _).alloc (Nat.le_refl _) (.cells #[.int .i64 k] 3)) (by rw [hl0]; omega)
        have hgr : g < wr.heap.size := by omega
        have sb2 := SB1.out.of_block (L1.block g hgr)
        have hown2 := own_below HO1.out L1
        have hN := cell_one_new (wr.alloc (.cells #[.int .i64 zt.kind, .string zt.name, .int .i64 zt.n, .slice za zt.args.length zc] 40)) (.int .i64 k) 3
        rw [hl0] at hN
        have HN := Lib.hid hN
        have hBl : B ≤ ((wr.alloc (.cells #[.int .i64 zt.kind, .string zt.name, .int .i64 zt.n, .slice za zt.args.length zc] 40)).alloc (.cells #[.int .i64 k] 3)).heap.size := by rw [hl1]; omega
        have hm1 : p.length + 1 ≤ maxLen := by unfold maxLen; omega
        have HP1 := Lib.hid (show 0 < p.length + 1 by omega)
        have hm2 : (p.length + 1) * 8 ≤ 140737488355328 := by omega
        have hv1g : ∀ q, v1.ownBlock = some q → q ≠ wr.heap.size ∧ q ≠ g := fun q e => by have := HO1.out.lt q e; omega
        have HV1G := Lib.hid hv1g
        have HL1 := Lib.hid (And.intro L1 (And.intro hl0 hl1))
        have SB2 := Lib.hid sb2
        have B8 := Lib.hid b8
        have HZ := Lib.hid (And.intro hzt hzo)
        have HCN := Lib.hid (And.intro hcn (And.intro hall (And.intro hzp (And.intro hpm hpt))))
        have hk0 : (0 : Int) ≤ (k : Int) := by omega
        have hk1 : (k : Int) < (t.args.length : Int) := by omega
        have hk5 : (k : Int) ≤ 200000 := by have := partsL_length t.args; omega
        obtain ⟨_, _, _, _, _, s5, sf⟩ := SB1.out
        have hgne : g ≠ wr.heap.size := by omega
        clear hzt hzo hz hrow hcn hall hzp hpm hpt L0 L1 hl0 hl1 b8 sb2 hN hv1g
        go_wp2_with (at_builtin; refine wpList_append_own_at _ rfl _ _ 42 rfl B 3 i1 (.int .i64 0) 1 8 Try.underlying42 hi1 hiz1 his1 hib1 rfl (by decide) _ p.length _ rfl hown2 ⟨wr.heap.size + 1, 0, none⟩ 1 1 [.int .i64 k] (by simp [Act.eval]) rfl HN.out (by simp [Value.oneCell']) hm1 hm2 hBl ?_; intro v2 w4 hown4 hg4 _ hat4; obtain ⟨g2, c2, rfl, hge2, hgl2⟩ := hown4.form HP1.out; have hb8 : w4.heap[wr.heap.size]? = _ := hg4.block wr.heap.size (by rw [HL1.out.2.2]; omega) (fun e => (HV1G.out _ e.symm).1 rfl); have hbg : w4.heap[g]? = _ := hg4.block g (by rw [HL1.out.2.2]; omega) (fun e => (HV1G.out _ e.symm).2 rfl); obtain ⟨e0, e1, e2, e3, _, _, _, _⟩ := B8.out.of_block hb8; obtain ⟨_, _, _, _, _, g5, gf⟩ := SB2.out.of_block hbg)
        obtain ⟨hzt, hzo⟩ := HZ.out
        obtain ⟨hcn, hall, hzp, hpm, hpt⟩ := HCN.out
        obtain ⟨L1, hl0, hl1⟩ := HL1.out
        have hB4 : Below w0.heap.size w0 w4 := (HB1.out.trans (L1.mono HB1.out.size)).grown hg4 (by have := HB1.out.size; have := L1.size; omega) (fun y e => by have := (HO1.out.lt y e).1; omega)
        have hBS := hB4.setCell (p := ⟨g, 5, none⟩) hg0 (.slice (some ⟨g2, 0, none⟩) (p.length + 1) c2)
        have sbS := (SB2.out.of_block hbg).set (.slice (some ⟨g2, 0, none⟩) (p.length + 1) c2)
        have ownS : (w4.setCell ⟨g, 5, none⟩ (.slice (some ⟨g2, 0, none⟩) (p.length + 1) c2)).ownsRow B 3 1 (.slice (some ⟨g2, 0, none⟩) (p.length + 1) c2) (p ++ [(k : Int)]).length ((p ++ [(k : Int)]).map (Value.int .i64)) := by
          rw [List.length_append, List.map_append]; exact own_setCell hown4 hgB _
        have C := IH.out s ⟨zt, za, zc⟩ (p ++ [(k : Int)]) (.slice (some ⟨g2, 0, none⟩) (p.length + 1) c2) w0 (w4.setCell ⟨g, 5, none⟩ (.slice (some ⟨g2, 0, none⟩) (p.length + 1) c2)) B g hzp (by rw [List.length_append, List.length_singleton]; omega) HS.out hzo hBS hg0 hgB (by simp; have := hg4.size; rw [hl1] at this; omega) sbS ownS hsp
        have hFR : ∀ w5 : World, Frm g (some g2) (w4.setCell ⟨g, 5, none⟩ (.slice (some ⟨g2, 0, none⟩) (p.length + 1) c2)) w5 → ∀ q, q < wr.heap.size → q ≠ g → some q ≠ v1.ownBlock → w5.heap[q]? = wr.heap[q]? := fun w5 hF q hq hqg hqv => by
          have hs4 := hg4.size
          rw [hF.block q (by simp; rw [hl1] at hs4; omega) hqg (fun e => by
            rcases hat4 with h | h
            · exact hqv (e.trans h)
            · have h2 := e.trans h
              injection h2 with h2
              rw [hl1] at h2; omega), Below.heap_setCell _ _ _ _ hqg, hg4.block q (by rw [hl1]; omega) hqv]
          exact L1.block q hq
        have HFR := Lib.hid hFR
        have HAT2 := Lib.hid (show g2 = g2 ∧ ((.slice (some ⟨g2, 0, none⟩) (p.length + 1) c2 : Value).ownBlock = v1.ownBlock ∨ w.heap.size + 1 ≤ g2) from ⟨rfl, by
          rcases hat4 with h | h
          · exact .inl h
          · right
            rw [hl1] at h
            have h' : some g2 = some (wr.heap.size + 2) := h
            injection h' with h'; omega⟩)
        have HS4 := Lib.hid (show wr.heap.size ≤ w4.heap.size from by have := hg4.size; rw [hl1] at this; omega)
        have CC := Lib.hid C
        clear hcn hall hzp hpm hpt L1 hl0 hl1 hzt hzo hB4 hBS sbS ownS C hFR hown4 hg4 hat4 hb8 hbg e0 e1 e2 e3 g5 gf s5 sf hown2 m0 m1 m2 m3
        refine CC.out.mono ?_; rintro e w5 ⟨v3, cc, he, hcc, hsb5, hown5, hB5, hF5, hv5⟩
        have hfr := HFR.out w5 hF5
        have hF6 : Frm g v.ownBlock (w.alloc (.cells #[.int .i64 t.kind, .string t.name, .int .i64 t.n, .slice (some ⟨b', o', none⟩) t.args.length cx] 40)) w5 := by
          refine ⟨?_, fun q hq hqg hqv => ?_⟩
          · have h1 := hF5.size
            have h2 := HS4.out
            rw [hz1]; simp at h1; omega
          · rw [hz1] at hq
            rw [hfr q (by omega) hqg (fun e => by
              rcases HV1.out with h | ⟨k', hk', h⟩
              · exact hqv (e.trans h)
              · have h2 := e.trans h
                injection h2 with h2; omega)]
            exact HF1.out.block q (by rw [hz1]; omega) hqg hqv
        have hv6 : v3.ownBlock = v.ownBlock ∨ ∃ k, w.heap.size + 1 ≤ k ∧ v3.ownBlock = some k := by
          rcases hv5 with h | ⟨k', hk', h⟩
          · rcases HAT2.out.2 with h2 | h2
            · rcases HV1.out with h3 | h3
              · exact .inl (h.trans (h2.trans h3))
              · exact .inr (by obtain ⟨k3, hk3, h3⟩ := h3; exact ⟨k3, hk3, h.trans (h2.trans h3)⟩)
            · exact .inr ⟨g2, h2, h⟩
          · exact .inr ⟨k', by have := HS4.out; simp at hk'; omega, h⟩
        have HF6 := Lib.hid hF6
        have HV6 := Lib.hid hv6
        have HB5 := Lib.hid hB5
        have HSB5 := Lib.hid hsb5
        have HZT : Hid (zt = t.args[k]) := Lib.hid HZ.out.1
        obtain ⟨fo, hfo⟩ : ∃ fo, finP s.t zt = fo := ⟨_, rfl⟩
        simp only at he hcc hown5
        rw [hfo] at he hcc hown5
        have HFO := Lib.hid (show finP s.t t.args[k] = fo by rw [← HZT.out]; exact hfo)
        clear hfr hF6 hv6 hfo hB5 hF5 hv5 hsb5
        cases fo with
        | some q =>
          obtain rfl := he
          have HO5 := Lib.hid hown5
          clear hown5 hcc
          simp only [Option.isSome_some]
          go_wp2_with fail
          refine bodyPost_ret (v := .tuple #[.int .i64 0, .bool true]) (by simp [results, Try.results50, go_sem]) rfl ?_
          have hfin := noneTo_here HNO.out hkl HFO.out
          refine ⟨v3, 0, by rw [hfin]; rfl, (fun h => by rw [hfin] at h; cases h), HSB5.out, ?_, HB5.out, ⟨by have := HF6.out.size; rw [hz1] at this; omega, fun q hq hqg hqv => ?_⟩, ?_⟩
          · rw [hfin]
            have h := HO5.out
            simp only [Option.getD_some, List.append_assoc, List.singleton_append] at h ⊢
            exact h
          · rw [HF6.out.block q (by rw [hz1]; omega) hqg hqv]
            exact (Below.refl _ _ |>.alloc (Nat.le_refl w.heap.size) _).block q hq
          · rcases HV6.out with h | ⟨k', hk', h⟩
            · exact .inl h
            · exact .inr ⟨k', by omega, h⟩
        | none =>
          obtain rfl := he
          obtain rfl := hcc rfl
          simp only [Option.getD_none, List.append_nil, Option.isSome_none] at hown5 ⊢
          rw [List.length_append, List.map_append, List.length_singleton] at hown5
          obtain ⟨g3, c3, rfl, hge3, hgl3⟩ := hown5.form HP1.out
          have hcut := own_cut hown5 (by rw [List.length_map])
          have hFin := noneTo_succ HNO.out hkl HFO.out
          have hcn' : (partsL (t.args.take (k + 1)) : Int) + 1 = ((partsL (t.args.take k) : Int) + 1) + (zt.parts : Int) := by rw [HCN.out.1]; omega
          obtain ⟨ha1, ha2, ha3, ha4⟩ := HCN.out.2
          have hcap : p.length + 1 ≤ c3 := by
            rcases hown5.2 with ⟨h, _⟩ | ⟨g', cap', cur, hv, _, _, h1, _⟩
            · cases h
            · cases hv; exact h1
          have hci : (p.length : Int) ≤ (c3 : Int) := by omega
          have hp0 : (0 : Int) ≤ (p.length : Int) := by omega
          have hp9 : (p.length : Int) ≤ 200000 := by omega
          have hcn9 : p.length ≤ c3 := by omega
          have hcp9 : p.length + 1 ≤ c3 := hcap
          have hc30 : (c3 = 0) = False := by simp; omega
          have hc31 : ¬ c3 < p.length := by omega
          have hq9 : (partsL (t.args.take k) : Int) ≤ 200000 := by omega
          have hq8 : (zt.parts : Int) ≤ 200000 := by omega
          have HCUT := Lib.hid hcut
          have HFIN := Lib.hid hFin
          have HCN2 := Lib.hid hcn'
          obtain ⟨_, _, _, _, _, s5, sf⟩ := HSB5.out
          clear hown5 hcut hFin hcn' ha1 ha2 ha3 ha4 hcap
          go_wp2_with fail
          go_region
          go_wp2_with fail
          go_roundw
          case rel =>
            have hsb := HSB5.out.set (.slice (some ⟨g3, 0, none⟩) p.length c3)
            have hbb := (HB5.out.setCell (p := ⟨g, 5, none⟩) hg0 (.slice (some ⟨g3, 0, none⟩) p.length c3)).drew
            have hoo := own_setCell HCUT.out (p := ⟨g, 5, none⟩) hgB (.slice (some ⟨g3, 0, none⟩) p.length c3)
            refine ⟨k + 1, .slice (some ⟨g3, 0, none⟩) p.length c3, by omega, by rw [HCN2.out], by go_num, HFIN, Lib.hid (hsb.of_block rfl), Lib.hid (own_where hoo (fun _ _ _ => rfl)), Lib.hid hbb, Lib.hid ⟨by have := HF6.out.size; simpa using this, fun q hq hqg hqv => ?_⟩, HV6⟩
            show (w5.setCell ⟨g, 5, none⟩ (.slice (some ⟨g3, 0, none⟩) p.length c3)).heap[q]? = _
            rw [Below.heap_setCell _ _ _ _ hqg]
            exact HF6.out.block q hq hqg hqv
          case measure => simp [intOf]; omega
      · have hke : k = t.args.length := by omega
        have hkd : decide ((k : Int) < (t.args.length : Int)) = false := decide_eq_false (by omega)
        have hkl1 : t.args.length ≤ k := by omega
        have hfe : finP s.t t = if eqT t s.t = true then some [] else none := noneTo_end (by have h := HNO.out; rw [hke] at h; exact h)
        have hpk : (partsL (t.args.take k) : Int) + 1 = (t.parts : Int) := by rw [hke, List.take_length, HPT.out]; omega
        have hb1 : Below w.heap.size w w := Below.refl _ _
        have hxb : (Box wr w.heap.size (.int .i64 t.kind) (.string t.name) (.int .i64 t.n) (.slice ax t.args.length cx)) := BX.out.of_block (HF1.out.block w.heap.size (by rw [hz1]; omega) (by omega) (fun e => by have := HVL.out _ e.symm; omega))
        have hwx : w.heap.size < wr.heap.size := lt_of_cell hxb.c0
        have hgr : g < wr.heap.size := by omega
        have hbw0 : w0.heap.size ≤ wr.heap.size := HB1.out.size
        rw [hpk]
        have KB := Lib.hid (fun (W : World) (h : Below wr.heap.size wr W) => And.intro (hxb.below h hwx) (SB1.out.of_block (h.block g hgr)))
        have PSA := Lib.hid (fun (W : World) (h : Below wr.heap.size wr W) => (psame_tm ⟨t, ax, cx⟩ s W (HX.out.below (HB1.out.trans (h.mono hbw0))) (HS.out.below (HB1.out.trans (h.mono hbw0)))).mono (fun e w' hh => (show e = .returned (.bool (eqT t s.t)) ∧ Below wr.heap.size wr w' from ⟨hh.1, below_next h hh.2.below⟩)))
        obtain ⟨p0, p1, p2, p3, _, _, _, _⟩ := id hxb
        obtain ⟨st, sa, sc⟩ := s
        obtain ⟨s0, s1, s2, s3, s4, s5, _⟩ := SB1.out
        have HFE := Lib.hid hfe
        have F1 : Below wr.heap.size wr wr.drew := (Below.refl _ _).drew
        have hEnd : ∀ W, Below wr.heap.size wr W → ∀ (bq : Bool), bq = eqT t st → InPost ⟨st, sa, sc⟩ t p w0 B g st.parts v w (.returned (.tuple #[.int .i64 (t.parts : Int), .bool bq])) W := fun W h bq hbq => by
          have hsome : (finP st t).isSome = bq := by rw [hbq, hfe]; cases eqT t st <;> rfl
          have hgd : (finP st t).getD [] = [] := by rw [hfe]; cases eqT t st <;> rfl
          refine ⟨v1, (t.parts : Int), by rw [← hsome], fun _ => rfl, (KB.out W h).2, ?_, HB1.out.trans (h.mono hbw0), ⟨by have := HF1.out.size; have := h.size; rw [hz1] at *; omega, fun q hq hqg hqv => ?_⟩, ?_⟩
          · rw [hgd, List.append_nil]; exact own_below HO1.out h
          · rw [h.block q (by omega), HF1.out.block q (by rw [hz1]; omega) hqg hqv]
            exact ((Below.refl _ _).alloc (Nat.le_refl w.heap.size) _).block q hq
          · rcases HV1.out with h | ⟨k', hk', h⟩
            · exact .inl h
            · exact .inr ⟨k', by omega, h⟩
        have HEND := Lib.hid hEnd
        clear hke hfe hpk hxb hEnd hb1
        by_cases hpe : t.parts = st.parts
        · have hd : ((t.parts : Int) == (st.parts : Int)) = true := by rw [hpe]; simp
          have HPE := Lib.hid hpe
          clear hpe
          go_wp2_with fail
          obtain ⟨bq, hbq⟩ : ∃ bq, eqT t st = bq := ⟨_, rfl⟩
          (try simp only at PSA)
          rw [hbq] at PSA
          have HBQ := Lib.hid hbq
          clear hbq
          go_region_held3 (fun W => Below wr.heap.size wr W ∧ W.cell? ⟨w.heap.size, 0, none⟩ = some (.int .i64 t.kind) ∧ W.cell? ⟨w.heap.size, 1, none⟩ = some (.string t.name) ∧ W.cell? ⟨w.heap.size, 2, none⟩ = some (.int .i64 t.n) ∧ W.cell? ⟨w.heap.size, 3, none⟩ = some (.slice ax t.args.length cx) ∧ W.cell? ⟨g, 0, none⟩ = some (.int .i64 st.kind) ∧ W.cell? ⟨g, 1, none⟩ = some (.string st.name) ∧ W.cell? ⟨g, 2, none⟩ = some (.int .i64 st.n) ∧ W.cell? ⟨g, 3, none⟩ = some (.slice sa st.args.length sc) ∧ W.cell? ⟨g, 4, none⟩ = some (.int .i64 st.parts)) (exact ⟨by with_reducible assumption, (KB.out _ (by with_reducible assumption)).1.c0, (KB.out _ (by with_reducible assumption)).1.c1, (KB.out _ (by with_reducible assumption)).1.c2, (KB.out _ (by with_reducible assumption)).1.c3, (KB.out _ (by with_reducible assumption)).2.c0, (KB.out _ (by with_reducible assumption)).2.c1, (KB.out _ (by with_reducible assumption)).2.c2, (KB.out _ (by with_reducible assumption)).2.c3, (KB.out _ (by with_reducible assumption)).2.c4⟩)
            ((go_at_call 58; refine (PSA.out _ (by assumption)).mono ?_; rintro e w' ⟨rfl, hn⟩))
          go_wp2_with fail
          refine bodyPost_ret (v := .tuple #[.int .i64 (t.parts : Int), .bool bq]) (by simp [results, Try.results50, go_sem]) rfl ?_
          exact HEND.out _ hn bq HBQ.out.symm
        · have hd : ((t.parts : Int) == (st.parts : Int)) = false := by rw [beq_eq_false_iff_ne]; omega
          have hne : false = eqT t st := by
            have : t ≠ st := fun e => hpe (by rw [e])
            rw [eqT_false this]
          have HNE := Lib.hid hne
          clear hpe hne
          go_wp2_with fail
          go_quiet (fail)
          go_wp2_with fail
          refine bodyPost_ret (v := .tuple #[.int .i64 (t.parts : Int), .bool false]) (by simp [results, Try.results50, go_sem]) rfl ?_
          exact HEND.out _ (below_drewN (Below.refl _ _) nq) false HNE.out
end Go.Proofs.Ytehpkhcjejlbpaa

namespace Go.Proofs.Ytehpkhcjejlbpaa
open Go.RowKit

/-- A slice value that reads as a row of places. -/
def Pls (w : World) (v : Value) (pss : List (List Int)) : Prop :=
  ∃ a c, v = .slice a pss.length c ∧ pss.length ≤ c ∧ c ≤ 9223372036854775807 ∧
    (pss = [] ∨ ∃ b off, a = some ⟨b, off, none⟩ ∧ b < w.heap.size ∧ ∀ (j : Nat) p, pss[j]? = some p → ∃ x, w.cell? ⟨b, off + j, none⟩ = some x ∧ Nums w x p)
theorem Pls.below {w w' : World} {v : Value} {pss : List (List Int)} (h : Pls w v pss) (hb : Below w.heap.size w w') : Pls w' v pss := by
  obtain ⟨a, c, hv, hl, hc, h⟩ := h
  refine ⟨a, c, hv, hl, hc, ?_⟩
  rcases h with h | ⟨b, off, ha, hlt, hc⟩
  · exact .inl h
  · exact .inr ⟨b, off, ha, Nat.lt_of_lt_of_le hlt hb.size, fun j p hj => by obtain ⟨x, h1, h2⟩ := hc j p hj; exact ⟨x, by rw [hb.cell (p := ⟨b, off + j, none⟩) hlt]; exact h1, h2.below hb⟩⟩
theorem OwnPl.pls {w : World} {base : Nat} {v : Value} {pss : List (List Int)} (h : OwnPl w base v pss) : Pls w v pss := by
  obtain ⟨vs, hl, hall, hn, h⟩ := h
  rcases h with ⟨rfl, h0⟩ | ⟨g, cap, cur, rfl, _, hg, hk, hm, hs, ht⟩
  · have : pss = [] := List.eq_nil_of_length_eq_zero h0
    subst this
    exact ⟨none, 0, rfl, Nat.le_refl _, by omega, .inl rfl⟩
  · refine ⟨_, cap, rfl, hk, by unfold maxLen at hm; omega, .inr ⟨g, 0, rfl, ?_, fun j p hj => ?_⟩⟩
    · rcases Nat.lt_or_ge g w.heap.size with h | h
      · exact h
      · rw [Array.getElem?_eq_none h] at hg; cases hg
    · have hjl : j < pss.length := (List.getElem?_eq_some_iff.1 hj).1
      obtain ⟨y, h1⟩ : ∃ y, vs[j]? = some y := ⟨_, List.getElem?_eq_getElem (show j < vs.length by omega)⟩
      refine ⟨y, ?_, (hall j _ p h1 hj).nums⟩
      rw [← ht, List.getElem?_take, if_pos (by omega)] at h1
      rw [Nat.zero_add, cell_of_row w g j cur _ (0, 0) hg]
      simpa using h1
theorem Nums.drewN {w : World} {v : Value} {p : List Int} (h : Nums w v p) (n : Nat) : Nums (w.drewN n) v p := h.below (below_drewN (Below.refl _ _) n)
end Go.Proofs.Ytehpkhcjejlbpaa

namespace Go.Proofs.Ytehpkhcjejlbpaa
open Go.RowKit

/-- A slice of int's in a block of its own, or nil. -/
def At0 (w : World) (v : Value) (p : List Int) : Prop := w.ownsRow 0 3 1 v p.length (p.map (Value.int .i64)) ∧ (∀ n ∈ p, -9223372036854775808 ≤ n ∧ n ≤ 9223372036854775807)
theorem At0.nums {w : World} {v : Value} {p : List Int} (h : At0 w v p) : Nums w v p := by
  obtain ⟨⟨_, h⟩, hb⟩ := h
  rcases h with ⟨rfl, h0⟩ | ⟨g, cap, cur, rfl, _, hg, hk, hm, hs, ht⟩
  · have : p = [] := List.eq_nil_of_length_eq_zero h0
    subst this
    exact ⟨none, 0, rfl, Nat.le_refl _, by omega, hb, .inl rfl⟩
  · refine ⟨_, cap, rfl, hk, by unfold maxLen at hm; omega, hb, .inr ⟨g, 0, rfl, ?_, fun j n hj => ?_⟩⟩
    · rcases Nat.lt_or_ge g w.heap.size with h | h
      · exact h
      · rw [Array.getElem?_eq_none h] at hg; cases hg
    · have hjl : j < p.length := (List.getElem?_eq_some_iff.1 hj).1
      have h1 : (p.map (Value.int .i64))[j]? = some (.int .i64 n) := by rw [List.getElem?_map, hj]; rfl
      rw [← ht, List.getElem?_take, if_pos (by omega)] at h1
      rw [Nat.zero_add, cell_of_row w g j cur _ (0, 0) hg]
      simpa using h1
/-- It stands where its block does. -/
theorem At0.block {w w' : World} {v : Value} {p : List Int} (h : At0 w v p) (hb : ∀ (g : Nat) (c : Array Value), w.heap[g]? = some (Obj.cells c 3 (0, 0)) → w'.heap[g]? = some (Obj.cells c 3 (0, 0))) : At0 w' v p := by
  obtain ⟨⟨hl, h⟩, hbd⟩ := h
  refine ⟨⟨hl, ?_⟩, hbd⟩
  rcases h with h | ⟨g, cap, cur, rfl, hbg, hg, hr⟩
  · exact .inl h
  · exact .inr ⟨g, cap, cur, rfl, hbg, hb g cur hg, hr⟩
theorem At0.below {w w' : World} {v : Value} {p : List Int} (h : At0 w v p) (hb : Below w.heap.size w w') : At0 w' v p :=
  At0.block h fun g c hg => by rw [hb.block g (Array.getElem?_eq_some_iff.1 hg).1]; exact hg
theorem OwnInts.at0 {w : World} {v : Value} {p : List Int} (h : OwnInts w v p) : At0 w v p := ⟨h.1, h.2.1⟩
theorem At0.nil (w : World) : At0 w (.slice none 0 0) [] := ⟨⟨rfl, .inl ⟨rfl, rfl⟩⟩, fun _ h => nomatch h⟩
end Go.Proofs.Ytehpkhcjejlbpaa
