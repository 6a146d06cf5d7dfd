/-
  Chapter 14's example answers true.
-/
import Derived.Test.YtmpaljmkfnpcpaaDoorPSh5
import Derived.Test.YtmpaljmkfnpcpaaDoorBoxLs
import Derived.Test.YtmpaljmkfnpcpaaDoorRSh
import Derived.Test.YtmpaljmkfnpcpaaDoorRVarTm
import Derived.Test.YtmpaljmkfnpcpaaDoorRFunTm
import Derived.Deep.RegionWith
import Derived.Deep.DeepCutAuto
namespace Go.Proofs.YtmpaljmkfnpcpaaDoor
open Go.RowKit

def xA : Tm := .mk 1 ⟨#[88]⟩ 0 []
def yA : Tm := .mk 1 ⟨#[89]⟩ 0 []
def pA : Tm := .mk 5 ⟨#[112, 97, 105, 114]⟩ 0 [xA, yA]
def fA : Tm := .mk 5 ⟨#[102, 115, 116]⟩ 0 [pA]
theorem xA_ok (w : World) : Tv.ok w ⟨xA, none, 0⟩ := by refine ⟨⟨?_, ?_, ?_, ?_, ?_⟩, ?_, .inl rfl⟩ <;> decide
theorem yA_ok (w : World) : Tv.ok w ⟨yA, none, 0⟩ := by refine ⟨⟨?_, ?_, ?_, ?_, ?_⟩, ?_, .inl rfl⟩ <;> decide
theorem pA_fit : Fit pA.kind pA.name pA.n := by refine ⟨?_, ?_, ?_, ?_, ?_⟩ <;> decide
theorem fA_fit : Fit fA.kind fA.name fA.n := by refine ⟨?_, ?_, ?_, ?_, ?_⟩ <;> decide
theorem lnA : lnRule fA xA = [114, 117, 108, 101, 32, 102, 115, 116, 40, 112, 97, 105, 114, 40, 88, 44, 32, 89, 41, 41, 32, 61, 32, 88, 46, 10] := by decide
theorem boxL_lt {w : World} {g : Nat} {x : Value} {xs : List Value} (h : BoxL w g (x :: xs)) : g < w.heap.size := World.block_lt_of_cell? w _ (h.cell 0 x rfl)
theorem pA_at {w : World} {g : Nat} (h : BoxL w g [.int .i64 1, .string ⟨#[88]⟩, .int .i64 0, .slice none 0 0, .int .i64 1, .string ⟨#[89]⟩, .int .i64 0, .slice none 0 0]) : Tv.ok w ⟨pA, some ⟨g, 0, none⟩, 2⟩ := by
  refine ⟨pA_fit, by show (2 : Nat) ≤ _ ∧ (2 : Nat) ≤ 2; omega, .inr ⟨g, 0, rfl, boxL_lt h, ?_⟩⟩
  show RowAt w [xA, yA] g 0
  rw [RowAt, RowAt, RowAt]
  exact ⟨tv_tmAt (xA_ok w) ⟨h.cell 0 _ rfl, h.cell 1 _ rfl, h.cell 2 _ rfl, h.cell 3 _ rfl⟩, tv_tmAt (yA_ok w) ⟨h.cell 4 _ rfl, h.cell 5 _ rfl, h.cell 6 _ rfl, h.cell 7 _ rfl⟩, trivial⟩
theorem fA_at {w : World} {g q : Nat} (h : BoxL w g [.int .i64 1, .string ⟨#[88]⟩, .int .i64 0, .slice none 0 0, .int .i64 1, .string ⟨#[89]⟩, .int .i64 0, .slice none 0 0]) (k : BoxL w q [.int .i64 5, .string ⟨#[112, 97, 105, 114]⟩, .int .i64 0, .slice (some ⟨g, 0, none⟩) 2 2]) : Tv.ok w ⟨fA, some ⟨q, 0, none⟩, 1⟩ := by
  refine ⟨fA_fit, by show (1 : Nat) ≤ _ ∧ (1 : Nat) ≤ 1; omega, .inr ⟨q, 0, rfl, boxL_lt k, ?_⟩⟩
  show RowAt w [pA] q 0
  rw [RowAt, RowAt]
  exact ⟨tv_tmAt (pA_at h) ⟨k.cell 0 _ rfl, k.cell 1 _ rfl, k.cell 2 _ rfl, k.cell 3 _ rfl⟩, trivial⟩
theorem bl_after (w w' : World) (xs : List Value) (t : TypeId) (hb : Below (w.alloc (.cells xs.toArray t)).heap.size (w.alloc (.cells xs.toArray t)) w') : BoxL w' w.heap.size xs := (boxL_new w xs t).below hb (by simp)
theorem aftA (w2 w3 : World) (hb : Below ((w2.alloc (.cells #[.int .i64 1, .string ⟨#[88]⟩, .int .i64 0, .slice none 0 0, .int .i64 1, .string ⟨#[89]⟩, .int .i64 0, .slice none 0 0] 26)).alloc (.cells #[.int .i64 0, .string ⟨#[]⟩, .int .i64 0, .slice none 0 0] 26)).heap.size ((w2.alloc (.cells #[.int .i64 1, .string ⟨#[88]⟩, .int .i64 0, .slice none 0 0, .int .i64 1, .string ⟨#[89]⟩, .int .i64 0, .slice none 0 0] 26)).alloc (.cells #[.int .i64 0, .string ⟨#[]⟩, .int .i64 0, .slice none 0 0] 26)) w3) : BoxL w3 w2.heap.size [.int .i64 1, .string ⟨#[88]⟩, .int .i64 0, .slice none 0 0, .int .i64 1, .string ⟨#[89]⟩, .int .i64 0, .slice none 0 0] ∧ BoxL w3 (w2.heap.size + 1) [.int .i64 0, .string ⟨#[]⟩, .int .i64 0, .slice none 0 0] := by
  have h1 : Below (w2.alloc (.cells #[.int .i64 1, .string ⟨#[88]⟩, .int .i64 0, .slice none 0 0, .int .i64 1, .string ⟨#[89]⟩, .int .i64 0, .slice none 0 0] 26)).heap.size (w2.alloc (.cells #[.int .i64 1, .string ⟨#[88]⟩, .int .i64 0, .slice none 0 0, .int .i64 1, .string ⟨#[89]⟩, .int .i64 0, .slice none 0 0] 26)) w3 := ((Below.refl _ _).alloc (Nat.le_refl _) _).trans (hb.mono (by simp))
  have h2 := bl_after (w2.alloc (.cells #[.int .i64 1, .string ⟨#[88]⟩, .int .i64 0, .slice none 0 0, .int .i64 1, .string ⟨#[89]⟩, .int .i64 0, .slice none 0 0] 26)) w3 [.int .i64 0, .string ⟨#[]⟩, .int .i64 0, .slice none 0 0] 26 hb
  rw [show (w2.alloc (.cells #[.int .i64 1, .string ⟨#[88]⟩, .int .i64 0, .slice none 0 0, .int .i64 1, .string ⟨#[89]⟩, .int .i64 0, .slice none 0 0] 26)).heap.size = w2.heap.size + 1 from by simp] at h2
  exact ⟨bl_after w2 w3 [.int .i64 1, .string ⟨#[88]⟩, .int .i64 0, .slice none 0 0, .int .i64 1, .string ⟨#[89]⟩, .int .i64 0, .slice none 0 0] 26 h1, h2⟩
theorem aftB (w2 w3 : World) (hb : Below ((w2.alloc (.cells #[.int .i64 0, .string ⟨#[]⟩, .int .i64 0, .slice none 0 0] 26)).alloc (.cells #[.int .i64 1, .string ⟨#[88]⟩, .int .i64 0, .slice none 0 0, .int .i64 1, .string ⟨#[89]⟩, .int .i64 0, .slice none 0 0] 26)).heap.size ((w2.alloc (.cells #[.int .i64 0, .string ⟨#[]⟩, .int .i64 0, .slice none 0 0] 26)).alloc (.cells #[.int .i64 1, .string ⟨#[88]⟩, .int .i64 0, .slice none 0 0, .int .i64 1, .string ⟨#[89]⟩, .int .i64 0, .slice none 0 0] 26)) w3) : BoxL w3 (w2.heap.size + 1) [.int .i64 1, .string ⟨#[88]⟩, .int .i64 0, .slice none 0 0, .int .i64 1, .string ⟨#[89]⟩, .int .i64 0, .slice none 0 0] ∧ BoxL w3 w2.heap.size [.int .i64 0, .string ⟨#[]⟩, .int .i64 0, .slice none 0 0] := by
  have h1 : Below (w2.alloc (.cells #[.int .i64 0, .string ⟨#[]⟩, .int .i64 0, .slice none 0 0] 26)).heap.size (w2.alloc (.cells #[.int .i64 0, .string ⟨#[]⟩, .int .i64 0, .slice none 0 0] 26)) w3 := ((Below.refl _ _).alloc (Nat.le_refl _) _).trans (hb.mono (by simp))
  have h2 := bl_after (w2.alloc (.cells #[.int .i64 0, .string ⟨#[]⟩, .int .i64 0, .slice none 0 0] 26)) w3 [.int .i64 1, .string ⟨#[88]⟩, .int .i64 0, .slice none 0 0, .int .i64 1, .string ⟨#[89]⟩, .int .i64 0, .slice none 0 0] 26 hb
  rw [show (w2.alloc (.cells #[.int .i64 0, .string ⟨#[]⟩, .int .i64 0, .slice none 0 0] 26)).heap.size = w2.heap.size + 1 from by simp] at h2
  exact ⟨h2, bl_after w2 w3 [.int .i64 0, .string ⟨#[]⟩, .int .i64 0, .slice none 0 0] 26 h1⟩
theorem aftC (w2 w3 : World) (hb : Below (w2.alloc (.cells #[.int .i64 1, .string ⟨#[88]⟩, .int .i64 0, .slice none 0 0, .int .i64 1, .string ⟨#[89]⟩, .int .i64 0, .slice none 0 0] 26)).heap.size (w2.alloc (.cells #[.int .i64 1, .string ⟨#[88]⟩, .int .i64 0, .slice none 0 0, .int .i64 1, .string ⟨#[89]⟩, .int .i64 0, .slice none 0 0] 26)) w3) : BoxL w3 w2.heap.size [.int .i64 1, .string ⟨#[88]⟩, .int .i64 0, .slice none 0 0, .int .i64 1, .string ⟨#[89]⟩, .int .i64 0, .slice none 0 0] := bl_after w2 w3 [.int .i64 1, .string ⟨#[88]⟩, .int .i64 0, .slice none 0 0, .int .i64 1, .string ⟨#[89]⟩, .int .i64 0, .slice none 0 0] 26 hb
/-- Four cells written. -/
theorem box4_sets {w : World} {g : Nat} {x0 x1 x2 x3 : Value} (h : BoxL w g [x0, x1, x2, x3]) (y0 y1 y2 y3 : Value) :
    BoxL ((((w.setCell ⟨g, 0, none⟩ y0).setCell ⟨g, 1, none⟩ y1).setCell ⟨g, 2, none⟩ y2).setCell ⟨g, 3, none⟩ y3) g [y0, y1, y2, y3] :=
  (((h.put 0 y0 (by simp)).put 1 y1 (by simp)).put 2 y2 (by simp)).put 3 y3 (by simp)
theorem heap_sets4 (w : World) {g k : Nat} (hk : k ≠ g) (y0 y1 y2 y3 : Value) : ((((w.setCell ⟨g, 0, none⟩ y0).setCell ⟨g, 1, none⟩ y1).setCell ⟨g, 2, none⟩ y2).setCell ⟨g, 3, none⟩ y3).heap[k]? = w.heap[k]? := by
  rw [Below.heap_setCell _ _ _ _ hk, Below.heap_setCell _ _ _ _ hk, Below.heap_setCell _ _ _ _ hk, Below.heap_setCell _ _ _ _ hk]
/-- What the example has behind its second line. -/
def Mid14 (w : World) (x P G : Nat) (W : World) : Prop := Below w.heap.size w W ∧ BoxL W x [.int .i64 1, .string ⟨#[88]⟩, .int .i64 0, .slice none 0 0] ∧ BoxL W P [.int .i64 5, .string ⟨#[112, 97, 105, 114]⟩, .int .i64 0, .slice (some ⟨G, 0, none⟩) 2 2] ∧ BoxL W G [.int .i64 1, .string ⟨#[88]⟩, .int .i64 0, .slice none 0 0, .int .i64 1, .string ⟨#[89]⟩, .int .i64 0, .slice none 0 0]
theorem mid_sets {w V w3 : World} {x P G : Nat} (hw : Below w.heap.size w V) (hv : Below V.heap.size V w3) (hx : BoxL V x [.int .i64 1, .string ⟨#[88]⟩, .int .i64 0, .slice none 0 0]) (hP : BoxL w3 P [.int .i64 0, .string ⟨#[]⟩, .int .i64 0, .slice none 0 0]) (hR : BoxL w3 G [.int .i64 1, .string ⟨#[88]⟩, .int .i64 0, .slice none 0 0, .int .i64 1, .string ⟨#[89]⟩, .int .i64 0, .slice none 0 0]) (hlt : w.heap.size ≤ P) (hne : x ≠ P) (hg : G ≠ P) :
    Mid14 w x P G ((((w3.setCell ⟨P, 0, none⟩ (.int .i64 5)).setCell ⟨P, 1, none⟩ (.string ⟨#[112, 97, 105, 114]⟩)).setCell ⟨P, 2, none⟩ (.int .i64 0)).setCell ⟨P, 3, none⟩ (.slice (some ⟨G, 0, none⟩) 2 2)) :=
  ⟨((((below_next hw hv).setCell (p := ⟨P, 0, none⟩) hlt _).setCell (p := ⟨P, 1, none⟩) hlt _).setCell (p := ⟨P, 2, none⟩) hlt _).setCell (p := ⟨P, 3, none⟩) hlt _,
   (hx.below hv (boxL_lt hx)).block (heap_sets4 _ hne _ _ _ _), box4_sets hP _ _ _ _, hR.block (heap_sets4 _ hg _ _ _ _)⟩
theorem mid_new {w V w3 : World} {x G : Nat} (hw : Below w.heap.size w V) (hv : Below V.heap.size V w3) (hx : BoxL V x [.int .i64 1, .string ⟨#[88]⟩, .int .i64 0, .slice none 0 0]) (hR : BoxL w3 G [.int .i64 1, .string ⟨#[88]⟩, .int .i64 0, .slice none 0 0, .int .i64 1, .string ⟨#[89]⟩, .int .i64 0, .slice none 0 0]) :
    Mid14 w x w3.heap.size G (w3.alloc (.cells #[.int .i64 5, .string ⟨#[112, 97, 105, 114]⟩, .int .i64 0, .slice (some ⟨G, 0, none⟩) 2 2] 26)) :=
  have h3 : Below w3.heap.size w3 (w3.alloc (.cells #[.int .i64 5, .string ⟨#[112, 97, 105, 114]⟩, .int .i64 0, .slice (some ⟨G, 0, none⟩) 2 2] 26)) := (Below.refl _ _).alloc (Nat.le_refl _) _
  ⟨below_next (below_next hw hv) h3, (hx.below hv (boxL_lt hx)).below h3 (boxL_lt (hx.below hv (boxL_lt hx))), boxL_new w3 _ _, hR.below h3 (boxL_lt hR)⟩

set_option maxRecDepth 100000 in
set_option maxHeartbeats 4000000 in
theorem awake14_any (w : World) (HPW : Pow w) :
    Calls Tryd.prog 4 #[] w fun e w' => e = .returned (.bool true) ∧ Below w.heap.size w w' := by
  have D := Lib.hid (fun (s : ByteArray) (W : World) => rvar_any s W)
  have F := Lib.hid (fun (s : ByteArray) (a : Option Addr) (l c : Nat) (W : World) => rfun_any s a l c W)
  have HP0 := Lib.hid HPW
  clear HPW
  go_enter Tryd.func4, Tryd.ntmps4
  go_wp2_with fail
  refine (D.out _ _).mono ?_; rintro e w1 ⟨rfl, hb1⟩
  go_wp2_with fail
  obtain ⟨V, hV⟩ : ∃ V, w1.alloc (.cells #[.int .i64 1, .string ⟨#[88]⟩, .int .i64 0, .slice none 0 0] 26) = V := ⟨_, rfl⟩
  rw [hV]
  have HX := Lib.hid (show BoxL V w1.heap.size [.int .i64 1, .string ⟨#[88]⟩, .int .i64 0, .slice none 0 0] by rw [← hV]; exact boxL_new w1 _ _)
  have HBV := Lib.hid (show Below w.heap.size w V by rw [← hV]; exact hb1.alloc hb1.size _)
  have HL1 := Lib.hid (show w.heap.size ≤ w1.heap.size ∧ w1.heap.size < V.heap.size from ⟨hb1.size, by rw [← hV]; simp⟩)
  have x0 := HX.out.cell 0 _ rfl
  have x1 := HX.out.cell 1 _ rfl
  have x2 := HX.out.cell 2 _ rfl
  have x3 := HX.out.cell 3 _ rfl
  have D0 := Lib.hid (Below.refl V.heap.size V)
  have D1 := Lib.hid ((Below.refl V.heap.size V).drew)
  have hlt := HL1.out.2
  clear hV hb1
  go_cut [2] (fun u wc => ∃ P G : Nat, u = .pointer (some ⟨P, 0, none⟩) ∧ Hid (Mid14 w w1.heap.size P G wc))
  case first =>
    go_region_with (first
      | (go_at_call 17; (with_reducible refine (D.out _ _).mono ?_); rintro e w2 ⟨rfl, hb2⟩; have hv2 := below_next (show Below V.heap.size V _ from (by first | exact D1.out | exact D0.out | exact D1.out.alloc D1.out.size _ | exact D0.out.alloc D0.out.size _ | exact (D0.out.alloc D0.out.size _).drew)) hb2; (try (first | (have hq : BoxL w2 V.heap.size [.int .i64 0, .string ⟨#[]⟩, .int .i64 0, .slice none 0 0] := bl_after V.drew w2 [.int .i64 0, .string ⟨#[]⟩, .int .i64 0, .slice none 0 0] 26 hb2) | (have hq : BoxL w2 V.heap.size [.int .i64 0, .string ⟨#[]⟩, .int .i64 0, .slice none 0 0] := bl_after V w2 [.int .i64 0, .string ⟨#[]⟩, .int .i64 0, .slice none 0 0] 26 hb2))); obtain ⟨x0, x1, x2, x3⟩ : _ ∧ _ ∧ _ ∧ _ := (have h := HX.out.below hv2 hlt; ⟨h.cell 0 _ rfl, h.cell 1 _ rfl, h.cell 2 _ rfl, h.cell 3 _ rfl⟩); have hl2 : w1.heap.size < w2.heap.size := Nat.lt_of_lt_of_le hlt hv2.size)
      | (go_at_call 18; (with_reducible refine (F.out _ _ _ _ _).mono ?_); rintro e w3 ⟨rfl, hb3⟩; first
        | (have hr := aftA w2 w3 hb3; obtain ⟨hR, hP⟩ := hr; have hv3 := below_next ((hv2.alloc hv2.size _).alloc (hv2.alloc hv2.size _).size _) hb3; have c0 := hP.cell 0 _ rfl; have c1 := hP.cell 1 _ rfl; have c2 := hP.cell 2 _ rfl; have c3 := hP.cell 3 _ rfl; have f0 := hP.free 0 _ rfl; have f1 := hP.free 1 _ rfl; have f2 := hP.free 2 _ rfl; have f3 := hP.free 3 _ rfl)
        | (have hr := aftB w2 w3 hb3; obtain ⟨hR, hP⟩ := hr; have hv3 := below_next ((hv2.alloc hv2.size _).alloc (hv2.alloc hv2.size _).size _) hb3; have c0 := hP.cell 0 _ rfl; have c1 := hP.cell 1 _ rfl; have c2 := hP.cell 2 _ rfl; have c3 := hP.cell 3 _ rfl; have f0 := hP.free 0 _ rfl; have f1 := hP.free 1 _ rfl; have f2 := hP.free 2 _ rfl; have f3 := hP.free 3 _ rfl)
        | (have hR := aftC w2 w3 hb3; have hv3 := below_next (hv2.alloc hv2.size _) hb3; try (have hP := hq.below (below_next ((Below.refl _ _).alloc (Nat.le_refl _) _) hb3) (boxL_lt hq); have c0 := hP.cell 0 _ rfl; have c1 := hP.cell 1 _ rfl; have c2 := hP.cell 2 _ rfl; have c3 := hP.cell 3 _ rfl; have f0 := hP.free 0 _ rfl; have f1 := hP.free 1 _ rfl; have f2 := hP.free 2 _ rfl; have f3 := hP.free 3 _ rfl))))
    all_goals
      go_wp2_with fail
      go_meet
      case rel =>
        have l1 := HL1.out
        have l2 := hv2.size
        try have l3 := boxL_lt hq
        first
          | exact ⟨_, _, rfl, Lib.hid (mid_sets HBV.out hv3 HX.out hP hR (by (try simp only [World.heap_size_drew]); omega) (by (try simp only [World.heap_size_drew]); omega) (by (try simp only [World.heap_size_drew]); omega))⟩
          | exact ⟨_, _, rfl, Lib.hid (mid_new HBV.out hv3 HX.out hR)⟩
  case rest =>
    clear x0 x1 x2 x3 D0 D1 hlt
    obtain ⟨P, G, rfl, HM⟩ := hcut
    have KEEP := Lib.hid (fun (Q : World) (hb : Below wc.heap.size wc Q) => (show Below wc.heap.size wc Q ∧ Q.cell? ⟨w1.heap.size, 0, none⟩ = some (.int .i64 1) ∧ Q.cell? ⟨w1.heap.size, 1, none⟩ = some (.string ⟨#[88]⟩) ∧ Q.cell? ⟨w1.heap.size, 2, none⟩ = some (.int .i64 0) ∧ Q.cell? ⟨w1.heap.size, 3, none⟩ = some (.slice none 0 0) ∧ Q.cell? ⟨P, 0, none⟩ = some (.int .i64 5) ∧ Q.cell? ⟨P, 1, none⟩ = some (.string ⟨#[112, 97, 105, 114]⟩) ∧ Q.cell? ⟨P, 2, none⟩ = some (.int .i64 0) ∧ Q.cell? ⟨P, 3, none⟩ = some (.slice (some ⟨G, 0, none⟩) 2 2) from by
      obtain ⟨_, m1, m2, _⟩ := HM.out
      have k := m1.below hb (boxL_lt m1)
      have l := m2.below hb (boxL_lt m2)
      exact ⟨hb, k.cell 0 _ rfl, k.cell 1 _ rfl, k.cell 2 _ rfl, k.cell 3 _ rfl, l.cell 0 _ rfl, l.cell 1 _ rfl, l.cell 2 _ rfl, l.cell 3 _ rfl⟩))
    have RL := Lib.hid (fun (Q : World) (hb : Below wc.heap.size wc Q) (hq : BoxL Q wc.heap.size [.int .i64 5, .string ⟨#[112, 97, 105, 114]⟩, .int .i64 0, .slice (some ⟨G, 0, none⟩) 2 2]) => (show Calls Tryd.prog 9 #[.agg #[.int .i64 5, .string ⟨#[102, 115, 116]⟩, .int .i64 0, .slice (some ⟨wc.heap.size, 0, none⟩) 1 1, .int .i64 1, .string ⟨#[88]⟩, .int .i64 0, .slice none 0 0]] Q fun e w' => e = .returned (.string ⟨#[114, 117, 108, 101, 32, 102, 115, 116, 40, 112, 97, 105, 114, 40, 88, 44, 32, 89, 41, 41, 32, 61, 32, 88, 46, 10]⟩) ∧ Below w.heap.size w w' ∧ Below Q.heap.size Q w' from by
      have hwq := below_next HM.out.1 hb
      refine (psh_rule ⟨⟨fA, some ⟨wc.heap.size, 0, none⟩, 1⟩, ⟨xA, none, 0⟩⟩ Q (HP0.out.below hwq) ⟨fA_at (HM.out.2.2.2.below hb (boxL_lt HM.out.2.2.2)) hq, xA_ok Q⟩ (by show wtT fA ≤ _; decide) (by show wtT xA ≤ _; decide)).mono ?_
      rintro e w' ⟨rfl, hb2⟩
      refine ⟨?_, below_next hwq hb2, hb2⟩
      show Ending.returned (.string ⟨(lnRule fA xA).toArray⟩) = _
      rw [lnA]))
    have D0 := Lib.hid (Below.refl wc.heap.size wc)
    have D1 := Lib.hid ((Below.refl wc.heap.size wc).drew)
    go_wp2_with fail
    go_region_held3 (fun Q => Below wc.heap.size wc Q ∧ Q.cell? ⟨w1.heap.size, 0, none⟩ = some (.int .i64 1) ∧ Q.cell? ⟨w1.heap.size, 1, none⟩ = some (.string ⟨#[88]⟩) ∧ Q.cell? ⟨w1.heap.size, 2, none⟩ = some (.int .i64 0) ∧ Q.cell? ⟨w1.heap.size, 3, none⟩ = some (.slice none 0 0) ∧ Q.cell? ⟨P, 0, none⟩ = some (.int .i64 5) ∧ Q.cell? ⟨P, 1, none⟩ = some (.string ⟨#[112, 97, 105, 114]⟩) ∧ Q.cell? ⟨P, 2, none⟩ = some (.int .i64 0) ∧ Q.cell? ⟨P, 3, none⟩ = some (.slice (some ⟨G, 0, none⟩) 2 2)) (first | assumption | exact KEEP.out _ D1.out | exact KEEP.out _ (by with_reducible assumption) | exact KEEP.out _ (D1.out.alloc D1.out.size _) | exact KEEP.out _ (D0.out.alloc D0.out.size _))
      ((first
        | (go_at_call 18; (with_reducible refine (F.out _ _ _ _ _).mono ?_); rintro e w3 ⟨rfl, hb3⟩; have hq3 : BoxL w3 wc.heap.size [.int .i64 5, .string ⟨#[112, 97, 105, 114]⟩, .int .i64 0, .slice (some ⟨G, 0, none⟩) 2 2] := (by first | exact bl_after wc.drew w3 [.int .i64 5, .string ⟨#[112, 97, 105, 114]⟩, .int .i64 0, .slice (some ⟨G, 0, none⟩) 2 2] 26 hb3 | exact bl_after wc w3 [.int .i64 5, .string ⟨#[112, 97, 105, 114]⟩, .int .i64 0, .slice (some ⟨G, 0, none⟩) 2 2] 26 hb3); have hv3 := below_next (show Below wc.heap.size wc _ from (by first | exact (D1.out.alloc D1.out.size _) | exact (D0.out.alloc D0.out.size _))) hb3)
        | (go_at_call 9; (with_reducible refine (RL.out _ hv3 hq3).mono ?_); rintro e w4 ⟨rfl, hv4, hb4⟩; have hv5 := below_next hv3 hb4)))
    all_goals
      go_wp2_with fail
      go_ret
      exact ⟨rfl, hv4⟩
end Go.Proofs.YtmpaljmkfnpcpaaDoor
