/-
  Binds struck out of a row, by the library's own text: the first one looked for, the others moved up, the end cleared.
-/
import Derived.Test.YtcoaneipajadiaaPBsf
import Derived.Deep.WholeRow
namespace Go.Proofs.Ytcoaneipajadiaa
open Go.RowKit Go.Shelf Go.Lib Go.Sort

section
variable {α : Type} [Inhabited α]
theorem kept_succ (f : α → Bool) (d : Array α) {j : Nat} (hj : j < d.size) : (d.toList.take (j + 1)).filter f = (d.toList.take j).filter f ++ if f d[j]! = true then [d[j]!] else [] := by
  have hl : j < d.toList.length := by simpa using hj
  have e1 : d.toList[j] = d[j]! := by rw [getElem!_pos d j hj]; simp
  rw [List.take_succ_eq_append_getElem hl, List.filter_append, e1, List.filter_cons]; rfl
theorem kept_all (f : α → Bool) (d : Array α) : ∀ {n : Nat}, n ≤ d.size → (∀ j, j < n → f d[j]! = true) → (d.toList.take n).filter f = d.toList.take n
  | 0, _, _ => by simp
  | n + 1, hn, h => by
    have hl : n < d.toList.length := by simp; omega
    have e1 : d.toList[n] = d[n]! := by rw [getElem!_pos d n (by omega)]; simp
    rw [kept_succ f d (by omega), kept_all f d (n := n) (by omega) (fun j hj => h j (by omega)), if_pos (h n (by omega)), List.take_succ_eq_append_getElem hl, e1]
end
variable {α : Type} {P : Program} {k : Nat} {enc : α → List Value}
/-- A new box that is filled at once. -/
theorem store_newK {T : TypeId} (hI : (P.info? T).map (·.size) = some k) (hk : ∀ x, (enc x).length = k) (h1 : ∀ x, ∀ v ∈ enc x, v.oneCell' = true) (z : α) (zc : Array Value) (hzc : zc = (enc z).toArray) (w : World) (x : α) :
    Sem.run P (storeCells ⟨w.heap.size, 0, none⟩ (enc x) 0) (w.alloc (.cells zc T)) = .ok () (w.alloc (.cells (enc x).toArray T)) := by
  have := run_storeCells_new (P := P) w T zc (enc x).toArray (by rw [hI]; simp [hk]) (by rw [hzc]; simp [hk]) (by simpa using h1 x)
  simpa using this
variable [Inhabited α]

set_option maxRecDepth 100000 in
set_option maxHeartbeats 4000000 in
theorem idx_gen (T : TyC P k) (Fidx : P.funcs[(58 : Nat)]? = some Try.f58) (pf : α → Bool) (g : Nat) (cb : Array Value) (eg : ∀ args w, (callFunc g args).run P w = .ok (.enter g args) w) (blk off cap sz : Nat) (d d0 : Array α) (w0 w : World) (hp : PredLays P g cb enc k pf blk off sz w0) (R : RowK enc k w0 blk off d0) (S : SWK enc k w0 blk off d w) (hs : d.size = sz) (h0 : d0.size = sz) (hsz : sz ≤ 1000000) :
    Calls P 58 #[.slice (some ⟨blk, off, none⟩) sz cap, .func (.func g) #[] cb] w fun e w' =>
      SWK enc k w0 blk off d w' ∧ ((e = .returned (.int .i64 (-1)) ∧ ∀ j, j < sz → pf d[j]! = false) ∨ ∃ i : Nat, i < sz ∧ e = .returned (.int .i64 i) ∧ pf d[i]! = true ∧ ∀ j, j < i → pf d[j]! = false) := by
  have HP := Lib.hid hp
  have HS0 := Lib.hid S
  have HZ := Lib.hid hs
  have HZ0 := Lib.hid h0
  clear S hs h0 hp
  have mixed := T.mixed; have t0 := T.t0; have a0 := T.a0; have z0 := T.z0; have v0 := T.v0; have t3 := T.t3; have a3 := T.a3; have z3 := T.z3; have v3 := T.v3; have t4 := T.t4; have a4 := T.a4; have z4 := T.z4; have v4 := T.v4; have t77 := T.t77; have a77 := T.a77; have z77 := T.z77; have v77 := T.v77; have t22 := T.t22; have a22 := T.a22; have z22 := T.z22; have v22 := T.v22; have t53 := T.t53; have a53 := T.a53; have z53 := T.z53; have v53 := T.v53; have aE := T.aE; have zE := T.zE
  have u0 := run_underlying T.t0; have u3 := run_underlying T.t3; have u4 := run_underlying T.t4; have u22 := run_underlying T.t22; have u53 := run_underlying T.t53; have u77 := run_underlying T.t77
  have t55 := T.t55; have a55 := T.a55; have z55 := T.z55; have v55 := T.v55; have t61 := T.t61; have a61 := T.a61; have z61 := T.z61; have v61 := T.v61
  have u55 := run_underlying T.t55; have u61 := run_underlying T.t61; have hel := elemB T.toTyB
  go_enter Fidx, Try.ntmps58
  go_wp2_with fail
  go_loopg [5, 8] sz (fun gg _ s8 wr => ∃ kk : Nat, kk ≤ sz ∧ sz - kk ≤ gg ∧ s8 = .int .i64 kk ∧ Hid (SWK enc k w0 blk off d wr) ∧ Hid (∀ j, j < kk → pf d[j]! = false))
  case atStart => exact ⟨0, Nat.zero_le _, by omega, rfl, HS0, Lib.hid (fun j hj => absurd hj (Nat.not_lt_zero _))⟩
  case round =>
    clear HS0
    obtain ⟨kk, hkk, hg, rfl, HS, A⟩ := hrel
    by_cases hlt : kk < sz
    · have hltz : (kk : Int) < (sz : Int) := by omega
      have hk0 : (0 : Int) ≤ (kk : Int) := by omega
      obtain ⟨x, hx⟩ : ∃ x, x = d[kk]! := ⟨_, rfl⟩
      have la := HS.out.load R (HZ.out.trans HZ0.out.symm) P kk (by rw [HZ.out]; exact hlt)
      rw [← hx] at la
      have hc := (swk_pred HS.out HP.out HZ.out x).mono (fun e w' ⟨he, q', os', hw⟩ => (show e = Ending.returned (.bool (pf x)) ∧ SWK enc k w0 blk off d w' from ⟨he, by rw [hw]; exact HS.out.grown _ _⟩))
      have HX := Lib.hid hx
      clear hx
      cases hq : pf x with
      | true =>
        rw [hq] at hc
        have HQ := Lib.hid hq
        clear hq
        go_wp2_with (go_at_fn g; refine hc.mono ?_; rintro e w2 ⟨rfl, hs2⟩; have S2 := Lib.hid hs2; clear hs2)
        go_ret
        exact ⟨S2.out, .inr ⟨kk, hlt, rfl, by rw [← HX.out]; exact HQ.out, A.out⟩⟩
      | false =>
        rw [hq] at hc
        have HQ := Lib.hid hq
        clear hq
        go_wp2_with (go_at_fn g; refine hc.mono ?_; rintro e w2 ⟨rfl, hs2⟩; have S2 := Lib.hid hs2; clear hs2)
        go_roundg (sz - (kk + 1))
        case measure => omega
        case rel =>
          refine ⟨kk + 1, by omega, Nat.le_refl _, by go_num, S2, Lib.hid fun j hj => ?_⟩
          by_cases e : j = kk
          · subst e; rw [← HX.out]; exact HQ.out
          · exact A.out j (by omega)
    · have hltz : ¬ (kk : Int) < (sz : Int) := by omega
      have hke : kk = sz := by omega
      have HKE := Lib.hid hke
      clear hke
      go_wp2_with fail
      go_ret
      exact ⟨HS.out, .inl ⟨rfl, fun j hj => A.out j (by have := HKE.out; omega)⟩⟩

set_option maxRecDepth 100000 in
set_option maxHeartbeats 8000000 in
theorem del_gen (T : TyC P k) (Fidx : P.funcs[(58 : Nat)]? = some Try.f58) (Fdel : P.funcs[(39 : Nat)]? = some Try.f39) (pf : α → Bool) (g : Nat) (cb : Array Value) (eg : ∀ args w, (callFunc g args).run P w = .ok (.enter g args) w) (z : α) (zc : Array Value) (hz : ∀ w, (zeroValue 50).run P w = .ok (.agg zc) w) (hzc : zc = (enc z).toArray) (hI : (P.info? 50).map (·.size) = some k) (blk off cap sz : Nat) (d d0 : Array α) (w0 w : World) (hp : PredLays P g cb enc k pf blk off sz w0) (R : RowK enc k w0 blk off d0) (S : SWK enc k w0 blk off d w) (hs : d.size = sz) (h0 : d0.size = sz) (hcap : sz ≤ cap) (hsz : sz ≤ 1000000) :
    Calls P 39 #[.slice (some ⟨blk, off, none⟩) sz cap, .func (.func g) #[] cb] w fun e w' =>
      ∃ (d' : Array α) (q : Nat), e = .returned (.slice (some ⟨blk, off, none⟩) q cap) ∧ q ≤ sz ∧ d'.size = sz ∧ d'.toList.take q = d.toList.filter (fun x => !pf x) ∧ SWK enc k w0 blk off d' w' := by
  have IX := Lib.hid (idx_gen T Fidx pf g cb eg blk off cap sz d d0 w0 w hp R S hs h0 hsz)
  have eidx : ∀ args w, (callFunc 58 args).run P w = .ok (.enter 58 args) w := enters_of Fidx (by kernel_rfl) rfl
  have HP := Lib.hid hp
  have HZ := Lib.hid hs
  have HZ0 := Lib.hid h0
  have HCL := Lib.hid (fun (dk : Array α) (q c : Nat) (W : World) (ty : TypeId) (h : SWK enc k w0 blk off dk W) (hd : dk.size = sz) (hq : q < sz) => run_clear_k T.toTyB (.agg zc) z hz hzc h R (hd.trans h0.symm) q c (by omega) ty)
  have HST := Lib.hid (fun (W : World) (x : α) => store_newK hI R.hk R.h1 z zc hzc W x)
  clear S hs h0 hp hI hzc
  have mixed := T.mixed; have t0 := T.t0; have a0 := T.a0; have z0 := T.z0; have v0 := T.v0; have t3 := T.t3; have a3 := T.a3; have z3 := T.z3; have v3 := T.v3; have t4 := T.t4; have a4 := T.a4; have z4 := T.z4; have v4 := T.v4; have t77 := T.t77; have a77 := T.a77; have z77 := T.z77; have v77 := T.v77; have t22 := T.t22; have a22 := T.a22; have z22 := T.z22; have v22 := T.v22; have t53 := T.t53; have a53 := T.a53; have z53 := T.z53; have v53 := T.v53; have aE := T.aE; have zE := T.zE
  have u0 := run_underlying T.t0; have u3 := run_underlying T.t3; have u4 := run_underlying T.t4; have u22 := run_underlying T.t22; have u53 := run_underlying T.t53; have u77 := run_underlying T.t77
  have t55 := T.t55; have a55 := T.a55; have z55 := T.z55; have v55 := T.v55; have t61 := T.t61; have a61 := T.a61; have z61 := T.z61; have v61 := T.v61
  have u55 := run_underlying T.t55; have u61 := run_underlying T.t61; have hel := elemB T.toTyB
  go_enter Fdel, Try.ntmps39
  go_wp2_with fail
  go_at_fn 58
  refine IX.out.mono ?_; rintro e w1 ⟨hs1, ⟨rfl, hall⟩ | ⟨i0, hi0, rfl, hit, hmiss⟩⟩
  · have S1 := Lib.hid hs1
    have HE := Lib.hid (show d.toList.filter (fun x => !pf x) = d.toList by
      have := kept_all (fun x => !pf x) d (n := sz) (by rw [HZ.out]; exact Nat.le_refl _) (fun j hj => by simp [hall j hj])
      rwa [List.take_of_length_le (by rw [Array.length_toList, HZ.out]; exact Nat.le_refl _)] at this)
    clear hs1 hall IX
    go_wp2_with fail
    go_ret
    exact ⟨d, sz, rfl, Nat.le_refl _, HZ.out, by rw [HE.out, List.take_of_length_le (by rw [Array.length_toList, HZ.out]; exact Nat.le_refl _)], S1.out⟩
  · have S1 := Lib.hid hs1
    have HE := Lib.hid (show d.toList.take i0 = (d.toList.take (i0 + 1)).filter (fun x => !pf x) by
      rw [kept_succ _ d (by rw [HZ.out]; exact hi0), kept_all (fun x => !pf x) d (n := i0) (by rw [HZ.out]; omega) (fun j hj => by simp [hmiss j hj]), hit]; simp)
    have hne : ((i0 : Int) == -1) = false := by rw [beq_eq_false_iff_ne]; omega
    clear hs1 hit hmiss IX
    go_wp2_with fail
    go_loopg [5, 6] sz (fun gg s5 s6 wr => ∃ (q j : Nat) (dk : Array α), s5 = .int .i64 q ∧ s6 = .int .i64 ((j : Int) + 1) ∧ q ≤ j ∧ j + 1 ≤ sz ∧ sz - (j + 1) ≤ gg ∧ Hid (dk.size = sz ∧ dk.toList.take q = (d.toList.take (j + 1)).filter (fun x => !pf x) ∧ ∀ x, j + 1 ≤ x → dk[x]! = d[x]!) ∧ Hid (SWK enc k w0 blk off dk wr))
    case atStart => exact ⟨i0, i0, d, rfl, by first | rfl | go_num, Nat.le_refl _, by omega, by omega, Lib.hid ⟨HZ.out, HE.out, fun _ _ => rfl⟩, S1⟩
    case round =>
      clear S1 HE hne
      obtain ⟨q, j, dk, rfl, rfl, hqj, hjs, hg, HI, HS⟩ := hrel
      by_cases hlt : j + 1 < sz
      · have hltz : (j : Int) + 1 < (sz : Int) := by omega
        have hj0 : (0 : Int) ≤ (j : Int) + 1 := by omega
        have hjt : ((j : Int) + 1).toNat = j + 1 := by omega
        obtain ⟨x, hx⟩ : ∃ x, x = dk[j + 1]! := ⟨_, rfl⟩
        have la := HS.out.load R (HI.out.1.trans HZ0.out.symm) P (j + 1) (by rw [HI.out.1]; exact hlt)
        rw [← hx] at la
        have hst := HST.out wr x
        have S2 := Lib.hid (HS.out.alloc (.cells (enc x).toArray 50))
        have HBX := Lib.hid (boxK_new (enc := enc) wr x 50 (R.hk x))
        have lb := HBX.out.load P
        have hc := (swk_pred S2.out HP.out HI.out.1 x).mono (fun e w' ⟨he, q', os', hw⟩ => (show e = Ending.returned (.bool (pf x)) ∧ SWK enc k w0 blk off dk w' ∧ BoxK enc k wr.heap.size x w' from ⟨he, by rw [hw]; exact S2.out.grown _ _, by rw [hw]; exact HBX.out.grown _ _⟩))
        have HF := Lib.hid (show (d.toList.take (j + 1 + 1)).filter (fun x => !pf x) = dk.toList.take q ++ if (!pf x) = true then [x] else [] by
          rw [kept_succ _ d (by rw [HZ.out]; exact hlt), ← HI.out.2.1, ← HI.out.2.2 (j + 1) (Nat.le_refl _), ← hx])
        clear hx
        have na : (enc x).length = k := R.hk _
        cases hq : pf x with
        | true =>
          rw [hq] at hc
          have HFQ := Lib.hid (show dk.toList.take q = (d.toList.take (j + 1 + 1)).filter (fun x => !pf x) by rw [HF.out, hq]; simp)
          clear hq
          go_wp2_with (go_at_fn g; refine hc.mono ?_; rintro e w2 ⟨rfl, hs2, _⟩; have S3 := Lib.hid hs2; clear hs2)
          go_roundg (sz - (j + 1 + 1))
          case measure => omega
          case rel => exact ⟨q, j + 1, dk, rfl, by first | rfl | go_num, by omega, by omega, Nat.le_refl _, Lib.hid ⟨HI.out.1, HFQ.out, fun y hy => HI.out.2.2 y (by omega)⟩, S3⟩
        | false =>
          rw [hq] at hc
          have HFQ := Lib.hid (show (d.toList.take (j + 1 + 1)).filter (fun x => !pf x) = dk.toList.take q ++ [x] by rw [HF.out, hq]; simp)
          have hqs : q < dk.size := by rw [HI.out.1]; omega
          have hqz : (q : Int) < (sz : Int) := by omega
          have hq0 : (0 : Int) ≤ (q : Int) := by omega
          clear hq
          go_wp2_with (go_at_fn g; refine hc.mono ?_; rintro e w2 ⟨rfl, hs2, hbx2⟩; have S3 := Lib.hid hs2; have lb2 := hbx2.load P; have sa := swk_st hs2 R (HI.out.1.trans HZ0.out.symm) P q hqs x; clear hs2 hbx2)
          have S4 := Lib.hid (swk_set S3.out R.hk R.hblk q hqs x)
          have HN := Lib.hid (show (dk.setIfInBounds q x).size = sz ∧ (dk.setIfInBounds q x).toList.take (q + 1) = (d.toList.take (j + 1 + 1)).filter (fun x => !pf x) ∧ ∀ y, j + 1 + 1 ≤ y → (dk.setIfInBounds q x)[y]! = d[y]! by
            refine ⟨by rw [Array.size_setIfInBounds]; exact HI.out.1, ?_, fun y hy => ?_⟩
            · rw [HFQ.out]
              have hql : q < dk.toList.length := by simpa using hqs
              rw [Array.toList_setIfInBounds, List.take_succ_eq_append_getElem (by simpa using hql), List.take_set_of_le (Nat.le_refl q), List.getElem_set_self]
            · rw [← HI.out.2.2 y (by omega)]
              by_cases hy2 : y < dk.size
              · rw [getElem!_pos (dk.setIfInBounds q x) y (by simpa using hy2), Array.getElem_setIfInBounds_ne (by simpa using hy2) (by omega), getElem!_pos dk y hy2]
              · rw [getElem!_neg (dk.setIfInBounds q x) y (by simpa using hy2), getElem!_neg dk y hy2])
          go_roundg (sz - (j + 1 + 1))
          case measure => omega
          case rel => exact ⟨q + 1, j + 1, _, by first | rfl | go_num, by first | rfl | go_num, by omega, by omega, Nat.le_refl _, HN, S4⟩
      · have hltz : ¬ (j : Int) + 1 < (sz : Int) := by omega
        have hqs : q < sz := by omega
        have hct := cutk_from T.toTyB blk off sz cap q (by omega) (by omega)
        have hct2 := cutk_to T.toTyB blk off sz cap q (by omega) (by omega)
        have hcl := fun ty => HCL.out dk q (cap - q) wr ty HS.out HI.out.1 hqs
        rw [HI.out.1] at hcl
        have S5 := Lib.hid (swk_ended HS.out R.hk R.hblk q (by rw [HI.out.1]; omega) z)
        rw [HI.out.1] at S5
        have HF := Lib.hid (show (endZ dk q z).size = sz ∧ (endZ dk q z).toList.take q = d.toList.filter (fun x => !pf x) by
          refine ⟨by rw [size_endZ]; exact HI.out.1, ?_⟩
          have e1 : (endZ dk q z).toList.take q = dk.toList.take q := by
            apply List.ext_getElem?
            intro t
            by_cases ht : t < q
            · rw [List.getElem?_take_of_lt ht, List.getElem?_take_of_lt ht, get_list _ t (by rw [size_endZ, HI.out.1]; omega), get_list _ t (by rw [HI.out.1]; omega), get_endZ _ _ _ _ (by rw [HI.out.1]; omega), if_pos ht]
            · rw [List.getElem?_take_eq_none (by omega), List.getElem?_take_eq_none (by omega)]
          rw [e1, HI.out.2.1, List.take_of_length_le (by rw [Array.length_toList, HZ.out]; omega)])
        generalize hzs : (flatK enc k (Array.replicate (sz - q) z)).toList = zs at hcl S5
        clear hzs HI HS
        go_wp2_with fail
        go_ret
        exact ⟨_, q, rfl, by omega, HF.out.1, HF.out.2, S5.out⟩
end Go.Proofs.Ytcoaneipajadiaa
