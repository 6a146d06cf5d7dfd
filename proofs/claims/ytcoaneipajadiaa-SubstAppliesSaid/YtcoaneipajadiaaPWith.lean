/-
  Binds with one more, by the program's With.
-/
import Derived.Test.YtcoaneipajadiaaPOfB
namespace Go.Proofs.Ytcoaneipajadiaa
open Go.RowKit Go.Shelf Go.Lib Go.Sort

theorem insW_length (s : ByteArray) : ∀ l : List ByteArray, (insW l s).length = l.length + 1
  | [] => rfl
  | x :: l => by
    rw [insW]
    split
    · rw [List.length_cons, insW_length s l, List.length_cons]
    · rfl
theorem names_fold_length : ∀ (l : List Bn) (acc : List ByteArray), (l.foldl (fun acc x => insN acc x.1) acc).length ≤ acc.length + l.length
  | [], acc => by simp
  | x :: l, acc => by
    rw [List.foldl_cons]
    have h := names_fold_length l (insN acc x.1)
    have : (insN acc x.1).length ≤ acc.length + 1 := by
      unfold insN; split
      · omega
      · rw [insW_length]; exact Nat.le_refl _
    rw [List.length_cons]; omega
theorem ofB_length (l : List Bn) : (ofB l).length ≤ l.length := by
  unfold ofB rowOfN
  rw [List.length_map]
  have := names_fold_length l []
  rw [List.length_nil, Nat.zero_add] at this
  exact this
theorem bds_own {w0 w : World} {base : Nat} {v : Value} {vs : List Bv} {n : Nat} (h : w.ownsRow base 50 5 v n (rowBv vs)) (hn : vs.length = n) (hok : ∀ x ∈ vs, x.v.ok w0 ∧ x.s.size ≤ 9223372036854775807) (hb : Below w0.heap.size w0 w) (hl : n ≤ 9223372036854775807) : Bds w v (vs.map Bv.bn) := by
  subst hn
  have : OwnBv w0 w base v (vs.map Bv.bn) := ⟨vs, rfl, hok, by rw [List.length_map]; exact h⟩
  exact this.bds hb (by rw [List.length_map]; exact hl)
theorem own_one5 (w : World) (x : Bv) (base : Nat) (hb : base ≤ w.heap.size) : (w.alloc (.cells #[.string x.s, .int .i64 x.v.t.kind, .string x.v.t.name, .int .i64 x.v.t.n, .slice x.v.a x.v.t.args.length x.v.c] 50)).ownsRow base 50 5 (.slice (some ⟨w.heap.size, 0, none⟩) 1 1) 1 (rowBv [x]) := by
  refine ⟨by rw [rowBv_length]; rfl, .inr ⟨w.heap.size, 1, #[.string x.s, .int .i64 x.v.t.kind, .string x.v.t.name, .int .i64 x.v.t.n, .slice x.v.a x.v.t.args.length x.v.c], rfl, hb, heap_alloc_new w _, Nat.le_refl _, by unfold maxLen; omega, rfl, by simp [rowBv, Bv.cells]⟩⟩

set_option maxRecDepth 100000 in
set_option maxHeartbeats 2000000 in
theorem with_bd (v : Value) (bs : List Bn) (s : ByteArray) (t : Tv) (w0 w : World) (hv : Bds w0 v bs) (ht : t.ok w0) (hs : s.size ≤ 9223372036854775807) (hb0 : Below w0.heap.size w0 w) (hlen : bs.length ≤ 100000) :
    Calls Try.prog 17 #[v, .string s, t.val] w fun e w' => ∃ u, e = .returned u ∧ Bds w' u (ofB ((s, t.t) :: bs)) ∧ Below w.heap.size w w' := by
  obtain ⟨i0, hi, hz0, hz1, hz2⟩ := info_parts bindInfo
  have OF := Lib.hid (fun (u : Value) (cs : List Bn) (W : World) (h : Bds W u cs) (hl : cs.length ≤ 1000000) => of_bd u cs W W h (Below.refl _ _) hl)
  have hrow := own_one5 (w.alloc (.cells #[.int .i64 t.t.kind, .string t.t.name, .int .i64 t.t.n, .slice t.a t.t.args.length t.c] 25)) ⟨s, t⟩ w.heap.size (by simp)
  have hok1 : ∀ x ∈ [(⟨s, t⟩ : Bv)], x.v.ok w0 ∧ x.s.size ≤ 9223372036854775807 := fun x hx => by rw [List.mem_singleton] at hx; subst hx; exact ⟨ht, hs⟩
  have hz : (w.alloc (.cells #[.int .i64 t.t.kind, .string t.t.name, .int .i64 t.t.n, .slice t.a t.t.args.length t.c] 25)).heap.size = w.heap.size + 1 := by simp
  have hW : Below w.heap.size w ((w.alloc (.cells #[.int .i64 t.t.kind, .string t.t.name, .int .i64 t.t.n, .slice t.a t.t.args.length t.c] 25)).alloc (.cells #[.string s, .int .i64 t.t.kind, .string t.t.name, .int .i64 t.t.n, .slice t.a t.t.args.length t.c] 50)) := ((Below.refl _ _).alloc (Nat.le_refl _) _).alloc (by rw [hz]; omega) _
  rw [hz] at hrow
  obtain ⟨W2, hW2⟩ : ∃ W2, W2 = ((w.alloc (.cells #[.int .i64 t.t.kind, .string t.t.name, .int .i64 t.t.n, .slice t.a t.t.args.length t.c] 25)).alloc (.cells #[.string s, .int .i64 t.t.kind, .string t.t.name, .int .i64 t.t.n, .slice t.a t.t.args.length t.c] 50)) := ⟨_, rfl⟩
  simp only [] at hrow
  rw [← hW2] at hrow hW
  have hOne : rowBv [(⟨s, t⟩ : Bv)] = [.string s, .int .i64 t.t.kind, .string t.t.name, .int .i64 t.t.n, .slice t.a t.t.args.length t.c] := by simp [rowBv, Bv.cells]
  obtain ⟨a, c, rfl, hl, h⟩ := hv
  simp only [Tv.val]
  cases a with
  | none =>
    obtain rfl : bs = [] := by
      rcases h with h | ⟨b, o, ha, _⟩
      · exact h
      · cases ha
    have HR := Lib.hid hrow
    have HW := Lib.hid (And.intro hW (And.intro hok1 hb0))
    have HWW := Lib.hid hW2
    clear hrow hW hok1 hb0 hz ht hs h hOne
    go_enter Try.func17, Try.ntmps17
    go_wp2_with (at_builtin; refine wpList_append_own_none rfl _ _ 22 rfl w.heap.size 50 i0 5 Try.underlying22 hi _ 1 _ rfl (by rw [← HWW.out]; exact HR.out) rfl ?_)
    rw [← hW2]
    clear hW2
    have hB := bds_own (w0 := w0) HR.out rfl HW.out.2.1 (HW.out.2.2.trans (HW.out.1.mono HW.out.2.2.size)) (by omega)
    refine (OF.out _ _ _ hB (by simp)).mono ?_; rintro e w3 ⟨u, rfl, hu, hb3⟩
    have HF := Lib.hid (And.intro (hu.bds hb3 (show (ofB [(s, t.t)]).length ≤ _ by have := ofB_length [(s, t.t)]; simp at this; omega)) (below_next HW.out.1 hb3))
    clear hB hu hb3
    go_wp2_with fail
    go_ret
    exact ⟨_, rfl, HF.out.1, HF.out.2⟩
  | some ad =>
    obtain ⟨vs, hvt, hvo, hlt, hnews⟩ : ∃ vs : List Bv, vs.map Bv.bn = bs ∧ (∀ x ∈ vs, x.v.ok w0 ∧ x.s.size ≤ 9223372036854775807) ∧ (0 < bs.length → ad.block < w.heap.size) ∧ ∀ q x, (rowBv vs)[q]? = some x → W2.cell? (ad.add q) = some x := by
      rcases h with rfl | ⟨b, o, ha, hlt, hr⟩
      · exact ⟨[], rfl, (fun x hx => by cases hx), by simp, fun q x h => by simp [rowBv] at h⟩
      · cases ha
        obtain ⟨vs, hvt, hvo, hc⟩ := rows_vs hr
        exact ⟨vs, hvt, hvo, fun _ => Nat.lt_of_lt_of_le hlt hb0.size, fun q x hq => by rw [addr_row]; exact ((hb0.trans (hW.mono hb0.size)).cell (p := ⟨b, o + q, none⟩) hlt).trans (hc q x hq)⟩
    have hvl : vs.length = bs.length := by rw [← hvt, List.length_map]
    have hrl : (rowBv vs).length = bs.length * 5 := by rw [rowBv_length, hvl]
    have HV := Lib.hid (And.intro hvt hvo)
    have H1 := Lib.hid (And.intro hrl (And.intro hnews (rowBv_one' vs)))
    have HVL := Lib.hid hvl
    have HR := Lib.hid hrow
    have HW := Lib.hid (And.intro hW (And.intro hok1 hb0))
    have HWW := Lib.hid hW2
    clear hvt hvo hvl hrl hnews h hlt hrow hW hok1 hb0 hz ht hs hOne
    go_enter Try.func17, Try.ntmps17
    go_wp2_with (at_builtin; refine wpList_append_own _ rfl _ _ 22 rfl w.heap.size 50 i0 (.agg #[.string ⟨#[]⟩, .int .i64 0, .string ⟨#[]⟩, .int .i64 0, .slice none 0 0]) 5 72 Try.underlying22 hi hz0 hz1 hz2 rfl (by decide) _ 1 _ rfl (by rw [← HWW.out]; exact HR.out) ad bs.length c (rowBv vs) rfl H1.out.1 (by rw [← HWW.out]; exact H1.out.2.1) H1.out.2.2 ?ap3 ?ap4 ?ap5 ?_)
    case ap3 => unfold maxLen; omega
    case ap4 => omega
    case ap5 => rw [← HWW.out]; exact HW.out.1.size
    intro v1 w1 hown hgrow _
    rw [← hW2] at hgrow
    clear hW2
    have hb : Below w.heap.size w w1 := HW.out.1.grown hgrow HW.out.1.size (fun k hk => by cases hk; exact Nat.le_succ _)
    rw [← rowBv_append] at hown
    have hB := bds_own (w0 := w0) hown (by rw [List.length_append, HVL.out]; simp) (fun x hx => by
      rcases List.mem_append.1 hx with hx | hx
      · exact HW.out.2.1 x hx
      · exact HV.out.2 x hx) (HW.out.2.2.trans (hb.mono HW.out.2.2.size)) (by omega)
    rw [List.map_append, HV.out.1] at hB
    have HBB := Lib.hid (show Bds w1 v1 ((s, t.t) :: bs) from hB)
    have HB := Lib.hid hb
    clear hown hgrow hb hB
    go_wp2_with fail
    refine (OF.out _ _ _ HBB.out (by rw [List.length_cons]; omega)).mono ?_; rintro e w3 ⟨u, rfl, hu, hb3⟩
    have HF := Lib.hid (And.intro (hu.bds hb3 (by have := ofB_length ((s, t.t) :: bs); rw [List.length_cons] at this; omega)) (below_next HB.out hb3))
    clear hu hb3
    go_wp2_with fail
    go_ret
    exact ⟨_, rfl, HF.out.1, HF.out.2⟩
end Go.Proofs.Ytcoaneipajadiaa
