/-
  Terms in the places of their handles, by the program's Hands.
-/
import Derived.Test.YtcoaneipajadiaaPHand1
import Derived.Shelf.SlSortCmp.KitK
namespace Go.Proofs.Ytcoaneipajadiaa
open Go.RowKit
open Go.Shelf

theorem Fresh.widen {w0 w ws w' w'' : World} {z : Tv} (h : Fresh w0 ws w' z) (hs : w.heap.size ≤ ws.heap.size) (hz : w'.heap.size ≤ w''.heap.size) (he : ∀ b, ws.heap.size ≤ b → b < w'.heap.size → w''.heap[b]? = w'.heap[b]?) : Fresh w0 w w'' z := fun W hb hsz hag =>
  h W hb (Nat.le_trans hz hsz) (fun b h1 h2 => (hag b (Nat.le_trans hs h1) (Nat.lt_of_lt_of_le h2 hz)).trans (he b h1 h2))
/-- What Hands answers. -/
def okH (l : List Tm) (t : Tm) : Bool := okT (oH l) (fH l) t
def HandPost (l : List Tm) (t : Tm) (w0 w : World) (e : Ending) (w' : World) : Prop :=
  ∃ z : Tv, e = .returned (.tuple #[z.val, .bool (okH l t)]) ∧ z.t = (if okH l t = true then repT (fH l) t else zeroT) ∧ Fresh w0 w w' z ∧ Below w.heap.size w w'

set_option maxRecDepth 100000 in
set_option maxHeartbeats 4000000 in
theorem hands_any (l : List Tm) (v : Value) (x : Tv) (w0 w : World) (hv : Tms w0 v l) (hl : l.length ≤ 100000) (hx : x.ok w0) (hp : x.t.parts ≤ 100000) (hb0 : Below w0.heap.size w0 w) :
    Calls Try.prog 28 #[v, x.val] w (HandPost l x.t w0 w) := by
  have eg : ∀ args w, (callFunc 50 args).run Try.prog w = .ok (.enter 50 args) w := enters_of Try.func50 (by kernel_rfl) rfl
  have R := Lib.hid (fun (gl gw B : Nat) (h1 : w0.heap.size ≤ gw) (h2 : gw < B) => rep_tm 50 #[.pointer (some ⟨gl, 0, none⟩), .pointer (some ⟨gw, 0, none⟩)] eg (fH l) (oH l) w0 B (some gw) (QH B gl gw v) (fun k hk => by cases hk; exact ⟨h1, h2⟩) (fun b W W' h hb => h.below hb) (hand_any l v w0 hv hl B gl gw) x.t.parts)
  have hfz := hb0.size
  obtain ⟨t, ax, cx⟩ := x
  obtain ⟨a, c, rfl, _⟩ := hv
  simp only [Tv.val]
  obtain ⟨W4, hW4⟩ : ∃ W4, W4 = (((w.alloc (.cells #[.slice a l.length c] 23)).alloc (.cells #[.int .i64 t.kind, .string t.name, .int .i64 t.n, .slice ax t.args.length cx] 25)).alloc (.cells #[.int .i64 0, .string ⟨#[]⟩, .int .i64 0, .slice none 0 0] 25)).alloc (.cells #[.bool true] 4) := ⟨_, rfl⟩
  have s1 : (w.alloc (.cells #[.slice a l.length c] 23)).heap.size = w.heap.size + 1 := by simp
  have s2 : ((w.alloc (.cells #[.slice a l.length c] 23)).alloc (.cells #[.int .i64 t.kind, .string t.name, .int .i64 t.n, .slice ax t.args.length cx] 25)).heap.size = w.heap.size + 2 := by simp
  have s3 : (((w.alloc (.cells #[.slice a l.length c] 23)).alloc (.cells #[.int .i64 t.kind, .string t.name, .int .i64 t.n, .slice ax t.args.length cx] 25)).alloc (.cells #[.int .i64 0, .string ⟨#[]⟩, .int .i64 0, .slice none 0 0] 25)).heap.size = w.heap.size + 3 := by simp
  have hs4 : W4.heap.size = w.heap.size + 4 := by rw [hW4]; simp
  have hB4 : Below w.heap.size w W4 := by rw [hW4]; exact ((((Below.refl _ _).alloc (Nat.le_refl _) _).alloc (by rw [s1]; omega) _).alloc (by rw [s2]; omega) _).alloc (by rw [s3]; omega) _
  have hQ4 : QH W4.heap.size w.heap.size (w.heap.size + 3) (.slice a l.length c) true W4 := by
    refine ⟨?_, ?_, ?_, by omega, by omega, by omega⟩
    · rw [hW4]; have := World.cell?_alloc_mark (((w.alloc (.cells #[.slice a l.length c] 23)).alloc (.cells #[.int .i64 t.kind, .string t.name, .int .i64 t.n, .slice ax t.args.length cx] 25)).alloc (.cells #[.int .i64 0, .string ⟨#[]⟩, .int .i64 0, .slice none 0 0] 25)) #[.bool true] 4 (0, 0) 0
      rw [s3] at this; simpa using this
    · rw [hW4]; simp [go_sem]
    · rw [hW4]; simp [go_sem]
  have hR4 : Box W4 (w.heap.size + 2) (.int .i64 0) (.string ⟨#[]⟩) (.int .i64 0) (.slice none 0 0) := by
    rw [hW4]
    have h := (box_new ((w.alloc (.cells #[.slice a l.length c] 23)).alloc (.cells #[.int .i64 t.kind, .string t.name, .int .i64 t.n, .slice ax t.args.length cx] 25)) (.int .i64 0) (.string ⟨#[]⟩) (.int .i64 0) (.slice none 0 0) 25).below ((Below.refl _ _).alloc (Nat.le_refl _) (.cells #[.bool true] 4)) (by rw [s3, s2]; omega)
    rwa [s2] at h
  have C := Lib.hid (R.out w.heap.size (w.heap.size + 3) W4.heap.size (by omega) (by omega) true ⟨t, ax, cx⟩ W4 (Nat.le_refl _) hp hx (hb0.trans (hB4.mono hb0.size)) (Nat.le_refl _) hQ4)
  simp only [Tv.val] at C
  have HB4 := Lib.hid hB4
  have HR4 := Lib.hid hR4
  have HS4 := Lib.hid hs4
  clear R s1 s2 s3 hB4 hQ4 hR4 hx hb0 eg hfz
  go_enter Try.func28, Try.ntmps28
  go_wp2_with fail
  rw [← hW4]
  clear hW4
  refine C.out.mono ?_; rintro e w1 ⟨⟨vt, vA, vC⟩, rfl, hzt, hzf, hg1, hq1⟩
  simp only [Tv.val]
  obtain ⟨cw, fw, _, _, _, _⟩ := hq1
  have hsz1 := hg1.size
  have hgw1 : w.heap.size + 3 < w1.heap.size := by omega
  have hgw2 : w.heap.size + 2 < w1.heap.size := by omega
  have HZT := Lib.hid hzt
  have HZF := Lib.hid hzf
  have hR1 := HR4.out.frm hg1 (by omega) (fun k hk => by cases hk; omega)
  have HBW := Lib.hid (HB4.out.grown hg1 HB4.out.size (fun k hk => by cases hk; omega))
  have HOK := Lib.hid (show (true && okT (oH l) (fH l) t) = okH l t from rfl)
  rw [HOK.out] at cw
  have HSZ1 := Lib.hid hsz1
  -- what is left, whatever is stored into the box of the answer
  have OUT := Lib.hid (fun (O : Obj) (u0 u1 u2 u3 : Value) => (show Below w.heap.size w (((((w1.setCell ⟨w.heap.size + 2, 0, none⟩ u0).setCell ⟨w.heap.size + 2, 1, none⟩ u1).setCell ⟨w.heap.size + 2, 2, none⟩ u2).setCell ⟨w.heap.size + 2, 3, none⟩ u3).alloc O) ∧ Fresh w0 w (((((w1.setCell ⟨w.heap.size + 2, 0, none⟩ u0).setCell ⟨w.heap.size + 2, 1, none⟩ u1).setCell ⟨w.heap.size + 2, 2, none⟩ u2).setCell ⟨w.heap.size + 2, 3, none⟩ u3).alloc O) ⟨vt, vA, vC⟩ from
    ⟨(bsets HBW.out (by omega) _ _ _ _ _ _ _ _).alloc (by simp; omega) _, HZF.out.widen HB4.out.size (by simp) (fun b h1 h2 => by
      have hs := HS4.out
      rw [heap_alloc_old _ _ (by simpa using h2), Below.heap_setCell _ _ _ _ (show b ≠ w.heap.size + 2 by omega), Below.heap_setCell _ _ _ _ (show b ≠ w.heap.size + 2 by omega), Below.heap_setCell _ _ _ _ (show b ≠ w.heap.size + 2 by omega), Below.heap_setCell _ _ _ _ (show b ≠ w.heap.size + 2 by omega)])⟩))
  obtain ⟨ok, hok⟩ : ∃ ok, okH l t = ok := ⟨_, rfl⟩
  rw [hok] at cw
  have HO := Lib.hid hok
  obtain ⟨q0, q1, q2, q3, f0, f1, f2, f3⟩ := hR1
  have HR1 := Lib.hid (show Box w1 (w.heap.size + 2) (.int .i64 0) (.string ⟨#[]⟩) (.int .i64 0) (.slice none 0 0) from ⟨q0, q1, q2, q3, f0, f1, f2, f3⟩)
  clear hok hzt hzf hg1 hsz1
  cases ok with
  | false =>
    go_wp2_with fail
    simp only [Nat.add_assoc, Nat.reduceAdd]
    have hA := HR1.out.sets (.int .i64 0) (.string ⟨#[]⟩) (.int .i64 0) (.slice none 0 0)
    obtain ⟨q0, q1, q2, q3, f0, f1, f2, f3⟩ := hA.below ((Below.refl _ _).alloc (Nat.le_refl _) (.cells #[.int .i64 vt.kind, .string vt.name, .int .i64 vt.n, .slice vA vt.args.length vC] 25)) (by simpa using hgw2)
    refine bodyPost_ret (v := .tuple #[.agg #[.int .i64 0, .string ⟨#[]⟩, .int .i64 0, .slice none 0 0], .bool false]) (by simp [results, Try.results28, go_sem, q0, q1, q2, q3]) rfl ?_
    exact ⟨zeroV, by rw [HO.out]; rfl, by rw [HO.out]; rfl, fun W _ _ _ => zeroV_ok W, (OUT.out _ _ _ _ _).1⟩
  | true =>
    go_wp2_with fail
    simp only [Nat.add_assoc, Nat.reduceAdd]
    have hA := HR1.out.sets (.int .i64 vt.kind) (.string vt.name) (.int .i64 vt.n) (.slice vA vt.args.length vC)
    obtain ⟨q0, q1, q2, q3, f0, f1, f2, f3⟩ := hA.below ((Below.refl _ _).alloc (Nat.le_refl _) (.cells #[.int .i64 vt.kind, .string vt.name, .int .i64 vt.n, .slice vA vt.args.length vC] 25)) (by simpa using hgw2)
    refine bodyPost_ret (v := .tuple #[.agg #[.int .i64 vt.kind, .string vt.name, .int .i64 vt.n, .slice vA vt.args.length vC], .bool true]) (by simp [results, Try.results28, go_sem, q0, q1, q2, q3]) rfl ?_
    exact ⟨⟨vt, vA, vC⟩, by rw [HO.out]; rfl, by rw [HO.out]; exact HZT.out, (OUT.out _ _ _ _ _).2, (OUT.out _ _ _ _ _).1⟩
end Go.Proofs.Ytcoaneipajadiaa
