/-
  How deep a term goes, and what variables it has, by the reference of layer 3: Depth, Vars, Ground.
-/
import Derived.Test.YtpdbnhhpibpbnaaDoorInTm
import Derived.Test.YtpdbnhhpibpbnaaDoorIn01
namespace Go.Proofs.YtpdbnhhpibpbnaaDoor
open Go.RowKit

mutual
def Tm.depth : Tm → Nat
  | .mk _ _ _ xs => depthL xs + 1
def depthL : List Tm → Nat
  | [] => 0
  | t :: r => max t.depth (depthL r)
end
theorem depth_eq (t : Tm) : t.depth = depthL t.args + 1 := by cases t; rw [Tm.depth]; rfl
theorem depthL_snoc (l : List Tm) (t : Tm) : depthL (l ++ [t]) = max (depthL l) t.depth := by
  induction l with
  | nil => simp only [List.nil_append, depthL]; omega
  | cons x r ih => simp only [List.cons_append, depthL, ih]; omega
theorem depthL_take {l : List Tm} {k : Nat} (h : k < l.length) : depthL (l.take (k + 1)) = max (depthL (l.take k)) l[k].depth := by
  rw [List.take_succ_eq_append_getElem h, depthL_snoc]
mutual
theorem depth_le : ∀ t : Tm, t.depth ≤ t.parts
  | .mk k s n xs => by rw [Tm.depth, Tm.parts]; have := depthL_le xs; omega
theorem depthL_le : ∀ l : List Tm, depthL l ≤ partsL l
  | [] => by rw [depthL]; omega
  | t :: r => by rw [depthL, partsL]; have := depth_le t; have := depthL_le r; omega
end

set_option maxRecDepth 100000 in
set_option maxHeartbeats 1000000 in
theorem depth_tm (m : Nat) : ∀ (x : Tv) (w : World), x.t.parts ≤ m → m ≤ 1000000 → x.ok w →
    Calls Tryd.prog 14 #[x.val] w fun e w' => e = .returned (.int .i64 x.t.depth) ∧ Below w.heap.size w w' := by
  induction m with
  | zero => intro x w h; have := parts_pos x.t; omega
  | succ m ih =>
    intro x w hm hm1 hx
    obtain ⟨⟨k, s, n, xs⟩, a, c⟩ := x
    obtain ⟨_, hxl, hxr⟩ := hx
    have hpe : (Tm.mk k s n xs).depth = depthL xs + 1 := depth_eq _
    have hpp : (Tm.mk k s n xs).parts = partsL xs + 1 := parts_eq _
    simp only [Tv.val, Tm.kind, Tm.name, Tm.n, Tm.args] at hxl hxr hm ⊢
    have hpl : ∀ j (h : j < xs.length), xs[j].parts ≤ m := fun j h => by
      have := parts_arg (.mk k s n xs) (j := j) h
      have e : (Tm.mk k s n xs).args[j] = xs[j] := rfl
      rw [e] at this; omega
    have hlen := partsL_length xs
    have hll : xs.length ≤ 1000000 := by omega
    have IH := Lib.hid (fun x w h1 h2 => ih x w h1 (by omega) h2)
    have HP := Lib.hid hpl
    have HE := Lib.hid hpe
    clear ih hpl hm hpe hpp hlen
    rcases hxr with rfl | ⟨b, off, rfl, hlt, hr⟩
    · have hr := Lib.hid (show (((Tm.mk k s n []).depth : Nat) : Int) = 1 from by rw [HE.out, depthL]; rfl)
      go_enter Tryd.func14, Tryd.ntmps14
      go_wp2
      refine wp_loop_rounds 1 ?_; rw [rounds_succ]
      go_wp2
      go_ret
      exact ⟨ret_int hr.out.symm, (Below.refl _ _).alloc (Nat.le_refl _) _⟩
    · have HR := Lib.hid hr
      clear hr
      go_enter Tryd.func14, Tryd.ntmps14
      go_wp2
      go_loopw [3, 10] (fun q i wr => ∃ (j d : Nat), j ≤ xs.length ∧ i = .int .i64 j ∧ q = .int .i64 d ∧ d ≤ 1000001 ∧ Hid (d = depthL (xs.take j) + 1) ∧ Below w.heap.size w wr) (fun _ i _ => xs.length - (intOf i).toNat)
      case atStart => exact ⟨0, 1, Nat.zero_le _, rfl, rfl, by omega, Lib.hid (by rw [List.take_zero, depthL]), (Below.refl _ _).alloc (Nat.le_refl _) _⟩
      case round =>
        obtain ⟨j, d, hj, rfl, rfl, hd, HD, hb⟩ := hrel
        by_cases hjl : j < xs.length
        · have hil : (j : Int) < (xs.length : Int) := by omega
          obtain ⟨u, hu, huk, hat⟩ := tmAt_tv (rowAt_get HR.out hjl)
          obtain ⟨d0, d1, d2, d3⟩ := hat.below hb
          have C := Lib.hid (IH.out u (wr.alloc (.cells #[.int .i64 u.t.kind, .string u.t.name, .int .i64 u.t.n, .slice u.a u.t.args.length u.c] 24)) (by rw [hu]; exact HP.out j hjl) ((huk.below hb).below ((Below.refl _ _).alloc (Nat.le_refl _) _)))
          have hud : u.t.depth ≤ 1000000 := by have h2 := HP.out j hjl; rw [← hu] at h2; have := depth_le u.t; omega
          have hst := depthL_take hjl
          rw [← hu] at hst
          simp only [Tv.val] at C
          obtain ⟨ud, hude⟩ : ∃ ud, ud = u.t.depth := ⟨_, rfl⟩
          rw [← hude] at C hud hst
          have HST := Lib.hid hst
          clear hu huk hat hst hude
          by_cases hlt : d < ud + 1
          · have hil2 : (d : Int) < (ud : Int) + 1 := by omega
            go_wp2_with fail
            refine C.out.mono ?_; rintro e w1 ⟨rfl, hb1⟩
            go_wp2_with fail
            go_roundw
            case rel => exact ⟨j + 1, ud + 1, by omega, by go_num, by go_num, by omega, Lib.hid (by have := HD.out; have := HST.out; omega), below_next (hb.alloc hb.size _) hb1⟩
            case measure => simp [intOf]; omega
          · have hil2 : ¬ (d : Int) < (ud : Int) + 1 := by omega
            go_wp2_with fail
            refine C.out.mono ?_; rintro e w1 ⟨rfl, hb1⟩
            go_wp2_with fail
            go_roundw
            case rel => exact ⟨j + 1, d, by omega, by go_num, rfl, by omega, Lib.hid (by have := HD.out; have := HST.out; omega), below_next (hb.alloc hb.size _) hb1⟩
            case measure => simp [intOf]; omega
        · obtain rfl : j = xs.length := by omega
          have hr := Lib.hid (show d = (Tm.mk k s n xs).depth from by rw [HE.out, HD.out, List.take_length])
          go_wp2
          go_ret
          exact ⟨ret_int (by rw [hr.out]), hb⟩

/-- One more part looked at. -/
def varStep (acc : List ByteArray) (x : Tm) : List ByteArray := if (x.kind == 1) = true ∧ Lib.containsS acc x.name = false then acc ++ [x.name] else acc
/-- The names of the variables, as they come. -/
def varsL (l : List Tm) : List ByteArray := l.foldl varStep []
def Tm.vars (t : Tm) : List ByteArray := varsL t.all
theorem varsL_take {l : List Tm} {k : Nat} (h : k < l.length) : varsL (l.take (k + 1)) = varStep (varsL (l.take k)) l[k] := by
  unfold varsL; rw [List.take_succ_eq_append_getElem h, List.foldl_append]; rfl
theorem varsL_len (l : List Tm) : (varsL l).length ≤ l.length := by
  have : ∀ (l : List Tm) (acc : List ByteArray), (l.foldl varStep acc).length ≤ acc.length + l.length := by
    intro l
    induction l with
    | nil => intro acc; simp
    | cons x r ih =>
      intro acc
      rw [List.foldl_cons, List.length_cons]
      have h1 := ih (varStep acc x)
      have h2 : (varStep acc x).length ≤ acc.length + 1 := by unfold varStep; split <;> simp
      omega
  have := this l []
  simpa [varsL] using this

set_option maxRecDepth 100000 in
set_option maxHeartbeats 2000000 in
theorem vars_tm (x : Tv) (w : World) (hx : x.ok w) (hp : x.t.parts ≤ 100000) :
    Calls Tryd.prog 27 #[x.val] w fun e w' => ∃ v, e = .returned v ∧ Strs w' v x.t.vars ∧ w'.ownsRow w.heap.size 9 1 v x.t.vars.length (x.t.vars.map Value.string) ∧ Below w.heap.size w w' := by
  obtain ⟨i0, hi, hz0, hz1, hz2⟩ := info_parts strInfo
  have A := Lib.hid (fun w' (h : Below w.heap.size w w') => all_tm x.t.parts x w w' (Nat.le_refl _) (by omega) hx h)
  have HAL := Lib.hid (all_length x.t)
  have HNE := Lib.hid (show x.t.all ≠ [] from by rw [all_eq]; simp)
  have HV := Lib.hid (show x.t.vars = varsL x.t.all from rfl)
  have HPB := Lib.hid hp
  have IN := Lib.hid (fun v zs s w hv => rin_any v zs s w hv)
  obtain ⟨ts, hts⟩ : ∃ ts, ts = x.t.all := ⟨_, rfl⟩
  rw [← hts] at A HAL HNE HV
  rw [HV.out]
  obtain ⟨xk, xs, xn, xa, xl, xc, hxv⟩ := x.val_shape
  rw [hxv] at A ⊢
  clear hxv hts hx hp
  go_enter Tryd.func27, Tryd.ntmps27
  go_wp2_with fail
  refine (A.out _ ((Below.refl _ _).alloc (Nat.le_refl _) _)).mono ?_; rintro e w1 ⟨v, rfl, hov, hnn, hb1⟩
  have hb := below_box hb1
  have hlen : ts.length ≤ 100000 := by have := HAL.out; have := HPB.out; omega
  obtain ⟨a', c', rfl, hl, hh⟩ := (hov.tms hb (by omega)).open_
  rcases hh with hh | ⟨b, o, rfl, hblt, hr⟩
  · exact absurd hh HNE.out
  have HR := Lib.hid hr
  clear hov hnn hr hb1
  go_wp2
  go_loopw [3, 9] (fun q i wr => ∃ k : Nat, k ≤ ts.length ∧ i = .int .i64 k ∧ wr.ownsRow w1.heap.size 9 1 q (varsL (ts.take k)).length ((varsL (ts.take k)).map Value.string) ∧ Below w1.heap.size w1 wr) (fun _ i _ => ts.length - (intOf i).toNat)
  case atStart => exact ⟨0, Nat.zero_le _, rfl, World.ownsRow_nil _ _ _ _, Below.refl _ _⟩
  case round =>
    obtain ⟨k, hk, rfl, hown, hbr⟩ := hrel
    have hbs := hbr.size
    by_cases hkl : k < ts.length
    · have hil : (k : Int) < (ts.length : Int) := by omega
      obtain ⟨u, hu, _, hat⟩ := HR.out k hkl
      obtain ⟨d0, d1, d2, d3⟩ := hat.below hbr
      have hst := varsL_take hkl
      rw [← hu] at hst
      have hvl := varsL_len (ts.take k)
      rw [List.length_take] at hvl
      obtain ⟨zs, hzs⟩ : ∃ zs, zs = varsL (ts.take k) := ⟨_, rfl⟩
      rw [← hzs] at hst hvl hown
      have hzl : zs.length ≤ 100000 := by omega
      have HZ := Lib.hid hzs
      clear hu hat hzs hvl
      have hbb : Below w1.heap.size w1 (wr.alloc (.cells #[.int .i64 u.t.kind, .string u.t.name, .int .i64 u.t.n, .slice u.a u.t.args.length u.c] 24)) := hbr.alloc hbs _
      cases hk1 : (u.t.kind == 1) with
      | false =>
        have he : varsL (ts.take (k + 1)) = zs := by rw [hst]; unfold varStep; rw [if_neg (by rw [hk1]; rintro ⟨h, _⟩; cases h)]
        have hown2 : (wr.alloc (.cells #[.int .i64 u.t.kind, .string u.t.name, .int .i64 u.t.n, .slice u.a u.t.args.length u.c] 24)).ownsRow w1.heap.size 9 1 u3 (varsL (ts.take (k + 1))).length ((varsL (ts.take (k + 1))).map Value.string) := by
          rw [he]; exact hown.alloc _
        clear he hst hown
        go_wp2_with fail
        go_roundw
        case rel => exact ⟨k + 1, by omega, by go_num, hown2, hbb⟩
        case measure => simp [intOf]; omega
      | true =>
        have I := Lib.hid (IN.out u3 zs u.t.name (wr.alloc (.cells #[.int .i64 u.t.kind, .string u.t.name, .int .i64 u.t.n, .slice u.a u.t.args.length u.c] 24)) (strs_of_own (hown.alloc _) (by omega)))
        cases hin : Lib.containsS zs u.t.name with
        | true =>
          rw [hin] at I
          have he : varsL (ts.take (k + 1)) = zs := by rw [hst]; unfold varStep; rw [if_neg (by rw [hin]; rintro ⟨_, h⟩; cases h)]
          have hown2 : (wr.alloc (.cells #[.int .i64 u.t.kind, .string u.t.name, .int .i64 u.t.n, .slice u.a u.t.args.length u.c] 24)).ownsRow w1.heap.size 9 1 u3 (varsL (ts.take (k + 1))).length ((varsL (ts.take (k + 1))).map Value.string) := by
            rw [he]; exact hown.alloc _
          clear he hst hown hin
          go_wp2_with fail
          refine I.out.mono ?_; rintro e w2 ⟨rfl, rfl⟩
          go_wp2_with fail
          go_roundw
          case rel => exact ⟨k + 1, by omega, by go_num, hown2, hbb⟩
          case measure => simp [intOf]; omega
        | false =>
          rw [hin] at I
          have he : varsL (ts.take (k + 1)) = zs ++ [u.t.name] := by rw [hst]; unfold varStep; rw [if_pos ⟨hk1, hin⟩]
          have HE := Lib.hid he
          obtain ⟨ms, hms⟩ : ∃ ms, ms = zs.map Value.string := ⟨_, rfl⟩
          obtain ⟨m, hm⟩ : ∃ m, m = zs.length := ⟨_, rfl⟩
          rw [← hms, ← hm] at hown
          rw [← hm] at hzl
          have HMS := Lib.hid hms
          have HM := Lib.hid hm
          clear he hst hin hms hm
          go_wp2_with fail
          refine I.out.mono ?_; rintro e w2 ⟨rfl, rfl⟩
          go_wp2_with (at_builtin; refine wpList_append_own _ rfl _ _ 39 rfl w1.heap.size 9 i0 (.string ⟨#[]⟩) 1 16 Tryd.underlying39 hi hz0 hz1 hz2 rfl (by decide) _ m _ rfl ((hown.alloc _).alloc _) ⟨wr.heap.size + 1, 0, none⟩ 1 1 [.string u.t.name] rfl rfl ?c1 ?c2 ?c3 ?c4 ?c5 ?_)
          case c1 =>
            have hz : wr.heap.size + 1 = (wr.alloc (.cells #[.int .i64 u.t.kind, .string u.t.name, .int .i64 u.t.n, .slice u.a u.t.args.length u.c] 24)).heap.size := by simp
            rw [hz]
            exact cell_one_new _ _ _
          case c2 => intro u hu; simp at hu; rw [hu]; rfl
          case c3 => unfold maxLen; omega
          case c4 => omega
          case c5 => simp; omega
          intro v' w3 hown' hgrow _
          have hb' : Below w1.heap.size w1 w3 := ((hbr.alloc hbs _).alloc (by simp; omega) _).grown hgrow (by simp; omega) (own_row_ge hown)
          have hown2 : w3.ownsRow w1.heap.size 9 1 v' (varsL (ts.take (k + 1))).length ((varsL (ts.take (k + 1))).map Value.string) := by
            rw [HE.out, List.map_append, List.length_append, ← HM.out, ← HMS.out]; exact hown'
          clear hown hown' hgrow d0 d1 d2 d3 hbr
          go_wp2_with fail
          go_roundw
          case rel => exact ⟨k + 1, by omega, by go_num, hown2, hb'⟩
          case measure => simp [intOf]; omega
    · obtain rfl : k = ts.length := by omega
      rw [List.take_length] at hown
      have hvl := varsL_len ts
      have hst := strs_of_own hown (by omega)
      have hge : wr.ownsRow w.heap.size 9 1 u3 (varsL ts).length ((varsL ts).map Value.string) := own_lower hown hb.size
      clear hown
      go_wp2
      go_ret
      exact ⟨_, rfl, hst, hge, below_next hb hbr⟩

end Go.Proofs.YtpdbnhhpibpbnaaDoor
