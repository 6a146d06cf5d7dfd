/-
  The first place of a part, by the reference of layer 4: Find.
-/
import Derived.Test.YtniikfihfeledaaPlAll
import Derived.Test.YtniikfihfeledaaPlsTm
import Derived.Test.YtniikfihfeledaaSameTm
namespace Go.Proofs.Ytniikfihfeledaa
open Go.RowKit

/-- The first place where a part stands. -/
noncomputable def findT (t s : Tm) : Option (List Int) := (placesT t).find? fun p => eqT ((atT t p).getD zeroT) s
/-- Not among the first k places. -/
def NotAt (t s : Tm) (k : Nat) : Prop := ∀ (j : Nat) p, j < k → (placesT t)[j]? = some p → eqT ((atT t p).getD zeroT) s = false
theorem NotAt.succ {t s : Tm} {k : Nat} {p : List Int} (h : NotAt t s k) (hp : (placesT t)[k]? = some p) (he : eqT ((atT t p).getD zeroT) s = false) : NotAt t s (k + 1) := fun j q hj hq => by
  by_cases e : j = k
  · subst e; rw [hp] at hq; cases hq; exact he
  · exact h j q (by omega) hq
theorem find_here {t s : Tm} {k : Nat} {p : List Int} (h : NotAt t s k) (hp : (placesT t)[k]? = some p) (he : eqT ((atT t p).getD zeroT) s = true) : findT t s = some p := by
  obtain ⟨hk, rfl⟩ := List.getElem?_eq_some_iff.1 hp
  unfold findT
  rw [List.find?_eq_some_iff_getElem]
  refine ⟨he, k, hk, rfl, fun j hj => ?_⟩
  rw [h j _ hj (List.getElem?_eq_getElem (by omega))]; rfl
theorem find_none {t s : Tm} (h : NotAt t s (placesT t).length) : findT t s = none := by
  unfold findT
  rw [List.find?_eq_none]
  intro p hp
  obtain ⟨j, hj, rfl⟩ := List.getElem_of_mem hp
  rw [h j _ hj (List.getElem?_eq_getElem hj)]; simp

set_option maxRecDepth 100000 in
set_option maxHeartbeats 4000000 in
theorem rfind_tm (x y : Tv) (w : World) (hx : x.ok w) (hy : y.ok w) (hp : x.t.parts ≤ 100000) :
    Calls Try.prog 27 #[x.val, y.val] w fun e w' => ∃ v, e = .returned (.tuple #[v, .bool (findT x.t y.t).isSome]) ∧ Nums w' v ((findT x.t y.t).getD []) ∧ Below w.heap.size w w' := by
  have AL := Lib.hid (fun (w' : World) (h : Below w.heap.size w w') => rplaces_tm x.t.parts x w w' (Nat.le_refl _) hp hx h)
  have AT := Lib.hid (fun (ps : List Int) (v : Value) (w' : World) (hn : Nums w' v ps) (h : Below w.heap.size w w') => at_tm w' ps x v w' (hx.below h) hn (Below.refl _ _))
  have SM := Lib.hid (fun (z : Tv) (w' : World) (hz : z.ok w') (h : Below w.heap.size w w') => same_tm z.t.parts z y w' (Nat.le_refl _) hz (hy.below h))
  clear hx hy
  obtain ⟨t, a, c⟩ := x
  obtain ⟨s, a', c'⟩ := y
  have hz1 : (w.alloc (.cells #[.int .i64 t.kind, .string t.name, .int .i64 t.n, .slice a t.args.length c] 24)).heap.size = w.heap.size + 1 := by simp
  have hbx := (box_new w (.int .i64 t.kind) (.string t.name) (.int .i64 t.n) (.slice a t.args.length c) 24).below ((Below.refl _ _).alloc (Nat.le_refl _) (.cells #[.int .i64 s.kind, .string s.name, .int .i64 s.n, .slice a' s.args.length c'] 24)) (by rw [hz1]; omega)
  have hby := box_new (w.alloc (.cells #[.int .i64 t.kind, .string t.name, .int .i64 t.n, .slice a t.args.length c] 24)) (.int .i64 s.kind) (.string s.name) (.int .i64 s.n) (.slice a' s.args.length c') 24
  rw [hz1] at hby
  have hw : Below w.heap.size w ((w.alloc (.cells #[.int .i64 t.kind, .string t.name, .int .i64 t.n, .slice a t.args.length c] 24)).alloc (.cells #[.int .i64 s.kind, .string s.name, .int .i64 s.n, .slice a' s.args.length c'] 24)) := ((Below.refl _ _).alloc (Nat.le_refl _) _).alloc (by rw [hz1]; omega) _
  have hz2 : ((w.alloc (.cells #[.int .i64 t.kind, .string t.name, .int .i64 t.n, .slice a t.args.length c] 24)).alloc (.cells #[.int .i64 s.kind, .string s.name, .int .i64 s.n, .slice a' s.args.length c'] 24)).heap.size = w.heap.size + 2 := by simp
  simp only [Tv.val] at *
  go_enter Try.func27, Try.ntmps27
  go_wp2_with fail
  obtain ⟨wb, hwb⟩ : ∃ wb, wb = ((w.alloc (.cells #[.int .i64 t.kind, .string t.name, .int .i64 t.n, .slice a t.args.length c] 24)).alloc (.cells #[.int .i64 s.kind, .string s.name, .int .i64 s.n, .slice a' s.args.length c'] 24)) := ⟨_, rfl⟩
  rw [← hwb] at hw hbx hby hz2 ⊢
  clear hwb hz1
  have HBX := Lib.hid (fun (V : World) (h : Below wb.heap.size wb V) => And.intro (hbx.below h (by omega)) (hby.below h (by omega)))
  have HW := Lib.hid hw
  clear hbx hby
  refine (AL.out _ hw).mono ?_; rintro e w1 ⟨u, rfl, hu, _, hb1⟩
  have HPL := Lib.hid hu.pls
  obtain ⟨au, cu, rfl, hcu, hcu2, hpl⟩ := hu.pls
  obtain ⟨b, off, rfl, hlt, hc⟩ := hpl.resolve_left (by rw [placesT_eq]; simp)
  have HC := Lib.hid hc
  rw [placesT_length] at hcu ⊢
  clear hu hc HPL
  go_wp2_with fail
  go_loopw [13] (fun i wr => ∃ k : Nat, k ≤ t.parts ∧ i = .int .i64 k ∧ Hid (NotAt t s k) ∧ Below w1.heap.size w1 wr) (fun i _ => t.parts - (intOf i).toNat)
  case atStart => exact ⟨0, Nat.zero_le _, rfl, Lib.hid (fun j p hj => by omega), Below.refl _ _⟩
  case round =>
    obtain ⟨k, hk, rfl, HN, hbr⟩ := hrel
    have hbw := below_next hb1 hbr
    have hww := below_next hw hbw
    by_cases hkl : k < t.parts
    · have hkp : k < (placesT t).length := by rw [placesT_length]; exact hkl
      obtain ⟨p, hpe⟩ : ∃ p, (placesT t)[k]? = some p := ⟨_, List.getElem?_eq_getElem hkp⟩
      obtain ⟨v, hcv, hnv⟩ := HC.out k p hpe
      have hcr : wr.cell? ⟨b, off + k, none⟩ = some v := by rw [hbr.cell (p := ⟨b, off + k, none⟩) hlt]; exact hcv
      have HPE := Lib.hid hpe
      have A := Lib.hid (AT.out p v wr (hnv.below hbr) hww)
      have HNV := Lib.hid (hnv.below hbr)
      obtain ⟨⟨p0, p1, p2, p3, _, _, _, _⟩, _⟩ := HBX.out wr hbw
      have hki : (k : Int) ≤ 100000 := by omega
      clear hpe hcv hnv hkp
      go_wp2_with fail
      refine A.out.mono ?_; rintro e w2 ⟨z, rfl, hzt, hzk, hb2⟩
      have hq := HBX.out (w2.alloc (.cells #[.int .i64 z.t.kind, .string z.t.name, .int .i64 z.t.n, .slice z.a z.t.args.length z.c] 24)) ((below_next hbw hb2).alloc (by have := (below_next hbw hb2).size; omega) _)
      have hB2 : Below wr.heap.size wr (w2.alloc (.cells #[.int .i64 z.t.kind, .string z.t.name, .int .i64 z.t.n, .slice z.a z.t.args.length z.c] 24)) := hb2.alloc hb2.size _
      have S := Lib.hid (SM.out z (w2.alloc (.cells #[.int .i64 z.t.kind, .string z.t.name, .int .i64 z.t.n, .slice z.a z.t.args.length z.c] 24)) (hzk.below hB2) (below_next hww hB2))
      have HZ := Lib.hid hzt
      have hbz := box_new w2 (.int .i64 z.t.kind) (.string z.t.name) (.int .i64 z.t.n) (.slice z.a z.t.args.length z.c) 24
      clear hzt p0 p1 p2 p3
      obtain ⟨tz, az, cz⟩ := z
      simp only [Tv.val] at *
      obtain ⟨_, ⟨q0, q1, q2, q3, _, _, _, _⟩⟩ := hq
      obtain ⟨m0, m1, m2, m3, _, _, _, _⟩ := hbz
      cases he : eqT tz s with
      | true =>
        rw [he] at S
        have HF := Lib.hid (find_here HN.out HPE.out (by rw [← HZ.out]; exact he))
        clear he
        go_wp2_with fail
        refine S.out.mono ?_; rintro e w3 ⟨rfl, hb3⟩
        go_wp2_with fail
        refine bodyPost_ret (v := .tuple #[v, .bool true]) (by simp [results, Try.results27, go_sem]) rfl ?_
        rw [HF.out]
        exact ⟨v, rfl, HNV.out.below (below_next hB2 hb3), below_next hww (below_next hB2 hb3)⟩
      | false =>
        rw [he] at S
        have HF := Lib.hid (HN.out.succ HPE.out (by rw [← HZ.out]; exact he))
        clear he
        go_wp2_with fail
        refine S.out.mono ?_; rintro e w3 ⟨rfl, hb3⟩
        go_wp2_with fail
        go_roundw
        case rel => exact ⟨k + 1, by omega, by go_num, HF, (hbr.trans ((hB2.mono hbr.size))).trans (hb3.mono (by have h1 := hbr.size; have h2 := hB2.size; omega))⟩
        case measure => simp [intOf]; omega
    · have hke : k = t.parts := by omega
      have hkd : decide ((k : Int) < (t.parts : Int)) = false := decide_eq_false (by omega)
      have hkl1 : t.parts ≤ k := by omega
      have HF := Lib.hid (find_none (by have := HN.out; rw [hke, ← placesT_length t] at this; exact this))
      clear hke
      go_wp2_with fail
      refine bodyPost_ret (v := .tuple #[.slice none 0 0, .bool false]) (by simp [results, Try.results27, go_sem]) rfl ?_
      rw [HF.out]
      exact ⟨_, rfl, ⟨none, 0, rfl, Nat.le_refl _, by omega, by simp, .inl rfl⟩, hww⟩
end Go.Proofs.Ytniikfihfeledaa
