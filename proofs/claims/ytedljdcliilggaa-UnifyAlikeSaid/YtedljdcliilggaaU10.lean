/-
  Terms that are small, rows of terms held against each other, and whether a term is in a row, by the reference of layer 3: Within, Small, Smalls, Sames, In, Has.
  The names of the variables of a term, by the reference of layer 3: Vars.
  The binds by which lists are made alike, in the order in which they are found, by the reference of layer 7: Row.
  Lists that are made alike, by the reference of layer 7: the first two are the same, or a variable occurs in the other.
-/
import Derived.Test.YtedljdcliilggaaU02
import Derived.Test.YtedljdcliilggaaU05
import Derived.Test.YtedljdcliilggaaU08
import Derived.Test.YtedljdcliilggaaU01
import Derived.Deep.RegionHeld3
import Derived.Deep.RegionLaw
import Derived.Test.YtedljdcliilggaaU09
import Derived.Sort.AtCall
namespace Go.Proofs.Ytedljdcliilggaa
open Go.RowKit

def nameB (t : Tm) : Bool := decide (t.name.size ≤ 100)
/-- At most so many parts, with short names. -/
def withinB (t : Tm) (most : Int) : Bool := decide ((t.parts : Int) ≤ most) && t.all.all nameB
def smallB (t : Tm) : Bool := withinB t 300
theorem within_parts {t : Tm} {most : Int} (h : withinB t most = true) : (t.parts : Int) ≤ most := by
  unfold withinB at h; rw [Bool.and_eq_true, decide_eq_true_eq] at h; exact h.1
theorem within_names {t : Tm} {most : Int} (h : withinB t most = true) : ∀ x ∈ t.all, x.name.size ≤ 100 := by
  unfold withinB at h; rw [Bool.and_eq_true, List.all_eq_true] at h
  intro x hx; have := h.2 x hx; unfold nameB at this; simpa using this
theorem small_parts {t : Tm} (h : smallB t = true) : t.parts ≤ 300 := by have := within_parts h; omega
theorem within_big {t : Tm} {most : Int} (h : ¬ (t.parts : Int) ≤ most) : withinB t most = false := by unfold withinB; rw [decide_eq_false h, Bool.false_and]
/-- Names are short up to k. -/
def NamesTo (ts : List Tm) (k : Nat) : Prop := ∀ j (h : j < ts.length), j < k → nameB ts[j] = true
theorem NamesTo.succ {ts : List Tm} {k : Nat} (h : NamesTo ts k) (hk : k < ts.length) (hs : nameB ts[k] = true) : NamesTo ts (k + 1) := by
  intro j hj hjk
  by_cases e : j = k
  · subst e; exact hs
  · exact h j hj (by omega)
theorem NamesTo.all {t : Tm} {most : Int} (h : NamesTo t.all t.all.length) (hp : (t.parts : Int) ≤ most) : withinB t most = true := by
  unfold withinB; rw [decide_eq_true hp, Bool.true_and, List.all_eq_true]
  intro x hx
  obtain ⟨j, hj, rfl⟩ := List.getElem_of_mem hx
  exact h j hj hj
theorem names_bad {t : Tm} {most : Int} {k : Nat} (hk : k < t.all.length) (h : nameB t.all[k] = false) : withinB t most = false := by
  unfold withinB; rw [Bool.and_eq_false_iff]; right
  rw [← Bool.not_eq_true, List.all_eq_true]; intro hall
  rw [hall _ (List.getElem_mem hk)] at h; cases h
/-- A row of terms, opened: empty, or at an address. -/
theorem Tms.open_ {w : World} {v : Value} {ts : List Tm} (h : Tms w v ts) : ∃ a c, v = .slice a ts.length c ∧ ts.length ≤ 9223372036854775807 ∧ (ts = [] ∨ ∃ b o, a = some ⟨b, o, none⟩ ∧ b < w.heap.size ∧
    ∀ j (h : j < ts.length), ∃ u : Tv, u.t = ts[j] ∧ u.ok w ∧ TvAt w b (o + j * 4) u) := by
  obtain ⟨a, c, hv, hl, h⟩ := h
  refine ⟨a, c, hv, hl.1, ?_⟩
  rcases h with h | ⟨b, o, ha, hlt, hr⟩
  · exact .inl h
  · exact .inr ⟨b, o, ha, hlt, fun j hj => tmAt_tv (rowAt_get hr hj)⟩

set_option maxRecDepth 100000 in
set_option maxHeartbeats 1000000 in
theorem within_tm (x : Tv) (most : Int) (h0 : 0 ≤ most) (h1 : most ≤ 100000) (w : World) (hx : x.ok w) :
    Calls Try.prog 22 #[x.val, .int .i64 most] w fun e w' => e = .returned (.bool (withinB x.t most)) ∧ Below w.heap.size w w' := by
  have C := Lib.hid (fun w hx => count_tm x.t.parts x most w (Nat.le_refl _) hx h0 (by omega))
  by_cases hp : (x.t.parts : Int) ≤ most
  · have hcn := cnt_in hp
    have A := Lib.hid (fun w hx => all_tm x.t.parts x w w (Nat.le_refl _) (by omega) hx (Below.refl _ _))
    rw [hcn] at C
    have HX := Lib.hid hx
    have HP := Lib.hid hp
    have HAL := Lib.hid (all_length x.t)
    have hpb : x.t.parts ≤ 100000 := by omega
    have HNE := Lib.hid (show x.t.all ≠ [] from by rw [all_eq]; simp)
    have hNT := fun (h : NamesTo x.t.all x.t.all.length) => h.all hp
    have HNT := Lib.hid hNT
    have HNB := Lib.hid (fun k hk h => names_bad (t := x.t) (most := most) (k := k) hk h)
    obtain ⟨p, hpe⟩ : ∃ p, p = x.t.parts := ⟨_, rfl⟩
    obtain ⟨ts, hts⟩ : ∃ ts, ts = x.t.all := ⟨_, rfl⟩
    obtain ⟨z, hz⟩ : ∃ z, z = withinB x.t most := ⟨_, rfl⟩
    rw [← hpe] at C hp hpb HAL
    rw [← hts] at A HNT HNB HAL HNE
    rw [← hz] at HNT HNB ⊢
    clear hcn hx hpe hts hz hNT
    obtain ⟨t, a, c⟩ := x
    simp only [Tv.val] at C A ⊢
    go_enter Try.func22, Try.ntmps22
    go_wp2_with fail
    refine (C.out _ (HX.out.below ((Below.refl _ _).alloc (Nat.le_refl _) _))).mono ?_; rintro e w1 ⟨rfl, hb1⟩
    obtain ⟨hbx, hb, hlt⟩ := below_box' (box_new _ _ _ _ _ _) hb1
    obtain ⟨c0, c1, c2, c3, _, _, _, _⟩ := hbx
    go_wp2_with fail
    refine (A.out _ (HX.out.below hb)).mono ?_; rintro e w2 ⟨v, rfl, hov, hnn, hb2⟩
    have htm := hov.tms hb2 (by have := HAL.out; omega)
    obtain ⟨a', c', rfl, hl, hh⟩ := htm.open_
    rcases hh with hh | ⟨b, o, rfl, hblt, hr⟩
    · exact absurd hh HNE.out
    have HR := Lib.hid hr
    have hbz := below_next hb hb2
    clear hov hnn hr htm hb2 hb1 hb c0 c1 c2 c3
    go_wp2
    go_loopw [15] (fun i wr => ∃ k : Nat, k ≤ ts.length ∧ i = .int .i64 k ∧ NamesTo ts k ∧ Below w2.heap.size w2 wr) (fun i _ => ts.length - (intOf i).toNat)
    case atStart => exact ⟨0, Nat.zero_le _, rfl, (fun j hj hk => by omega), Below.refl _ _⟩
    case round =>
      obtain ⟨k, hk, rfl, hsh, hbr⟩ := hrel
      have HS := Lib.hid hsh
      clear hsh
      by_cases hkl : k < ts.length
      · have hi : (k : Int) < (ts.length : Int) := by omega
        obtain ⟨u, hu, _, hat⟩ := HR.out k hkl
        obtain ⟨d0, d1, d2, d3⟩ := hat.below hbr
        have HU := Lib.hid hu
        clear hu hat
        by_cases hs : u.t.name.size ≤ 100
        · have HN := Lib.hid (show nameB ts[k] = true from by rw [← HU.out]; unfold nameB; exact decide_eq_true hs)
          go_wp2
          go_roundw
          case rel => exact ⟨k + 1, by omega, by go_num, HS.out.succ hkl HN.out, hbr.alloc hbr.size _⟩
          case measure => simp [intOf]; omega
        · have HN := Lib.hid (show nameB ts[k] = false from by rw [← HU.out]; unfold nameB; exact decide_eq_false hs)
          go_wp2
          go_ret
          exact ⟨ret_bool (HNB.out k hkl HN.out).symm, below_next hbz (hbr.alloc hbr.size _)⟩
      · obtain rfl : k = ts.length := by omega
        go_wp2
        go_ret
        exact ⟨ret_bool (HNT.out HS.out).symm, below_next hbz hbr⟩
  · have hcn := cnt_out hp
    rw [hcn] at C
    have HW := Lib.hid (within_big hp)
    have HX := Lib.hid hx
    clear hcn hp hx
    obtain ⟨t, a, c⟩ := x
    simp only [Tv.val] at C ⊢
    go_enter Try.func22, Try.ntmps22
    go_wp2_with fail
    refine (C.out _ (HX.out.below ((Below.refl _ _).alloc (Nat.le_refl _) _))).mono ?_; rintro e w1 ⟨rfl, hb1⟩
    have hb := below_box hb1
    clear hb1
    go_wp2_with fail
    go_ret
    exact ⟨ret_bool HW.out.symm, hb⟩
end Go.Proofs.Ytedljdcliilggaa

namespace Go.Proofs.Ytedljdcliilggaa
open Go.RowKit

/-- One more part looked at. -/
def varStep (acc : List ByteArray) (x : Tm) : List ByteArray := if (x.kind == 1) = true ∧ Lib.containsS acc x.name = false then acc ++ [x.name] else acc
/-- The names of the variables, as they come. -/
def varsL (l : List Tm) : List ByteArray := l.foldl varStep []
def Tm.vars (t : Tm) : List ByteArray := varsL t.all
theorem varsL_take {l : List Tm} {k : Nat} (h : k < l.length) : varsL (l.take (k + 1)) = varStep (varsL (l.take k)) l[k] := by
  unfold varsL; rw [List.take_succ_eq_append_getElem h, List.foldl_append]; rfl
theorem varsL_len (l : List Tm) : (varsL l).length ≤ l.length := by
  have : ∀ (l : List Tm) (acc : List ByteArray), (l.foldl varStep acc).length ≤ acc.length + l.length := by
    intro l
    induction l with
    | nil => intro acc; simp
    | cons x r ih =>
      intro acc
      rw [List.foldl_cons, List.length_cons]
      have h1 := ih (varStep acc x)
      have h2 : (varStep acc x).length ≤ acc.length + 1 := by unfold varStep; split <;> simp
      omega
  have := this l []
  simpa [varsL] using this

set_option maxRecDepth 100000 in
set_option maxHeartbeats 2000000 in
theorem vars_tm (x : Tv) (w : World) (hx : x.ok w) (hp : x.t.parts ≤ 2300000000000) :
    Calls Try.prog 26 #[x.val] w fun e w' => ∃ v, e = .returned v ∧ Strs w' v x.t.vars ∧ w'.ownsRow w.heap.size 9 1 v x.t.vars.length (x.t.vars.map Value.string) ∧ Below w.heap.size w w' := by
  obtain ⟨i0, hi, hz0, hz1, hz2⟩ := info_parts strInfo
  have A := Lib.hid (fun w' (h : Below w.heap.size w w') => all_tm x.t.parts x w w' (Nat.le_refl _) (by omega) hx h)
  have HAL := Lib.hid (all_length x.t)
  have HNE := Lib.hid (show x.t.all ≠ [] from by rw [all_eq]; simp)
  have HV := Lib.hid (show x.t.vars = varsL x.t.all from rfl)
  have HPB := Lib.hid hp
  have IN := Lib.hid (fun v zs s w hv => rin_any v zs s w hv)
  obtain ⟨ts, hts⟩ : ∃ ts, ts = x.t.all := ⟨_, rfl⟩
  rw [← hts] at A HAL HNE HV
  rw [HV.out]
  obtain ⟨xk, xs, xn, xa, xl, xc, hxv⟩ := x.val_shape
  rw [hxv] at A ⊢
  clear hxv hts hx hp
  go_enter Try.func26, Try.ntmps26
  go_wp2_with fail
  refine (A.out _ ((Below.refl _ _).alloc (Nat.le_refl _) _)).mono ?_; rintro e w1 ⟨v, rfl, hov, hnn, hb1⟩
  have hb := below_box hb1
  have hlen : ts.length ≤ 2300000000000 := by have := HAL.out; have := HPB.out; omega
  obtain ⟨a', c', rfl, hl, hh⟩ := (hov.tms hb (by omega)).open_
  rcases hh with hh | ⟨b, o, rfl, hblt, hr⟩
  · exact absurd hh HNE.out
  have HR := Lib.hid hr
  clear hov hnn hr hb1
  go_wp2
  go_loopw [3, 9] (fun q i wr => ∃ k : Nat, k ≤ ts.length ∧ i = .int .i64 k ∧ wr.ownsRow w1.heap.size 9 1 q (varsL (ts.take k)).length ((varsL (ts.take k)).map Value.string) ∧ Below w1.heap.size w1 wr) (fun _ i _ => ts.length - (intOf i).toNat)
  case atStart => exact ⟨0, Nat.zero_le _, rfl, World.ownsRow_nil _ _ _ _, Below.refl _ _⟩
  case round =>
    obtain ⟨k, hk, rfl, hown, hbr⟩ := hrel
    have hbs := hbr.size
    by_cases hkl : k < ts.length
    · have hil : (k : Int) < (ts.length : Int) := by omega
      obtain ⟨u, hu, _, hat⟩ := HR.out k hkl
      obtain ⟨d0, d1, d2, d3⟩ := hat.below hbr
      have hst := varsL_take hkl
      rw [← hu] at hst
      have hvl := varsL_len (ts.take k)
      rw [List.length_take] at hvl
      obtain ⟨zs, hzs⟩ : ∃ zs, zs = varsL (ts.take k) := ⟨_, rfl⟩
      rw [← hzs] at hst hvl hown
      have hzl : zs.length ≤ 2300000000000 := by omega
      have HZ := Lib.hid hzs
      clear hu hat hzs hvl
      have hbb : Below w1.heap.size w1 (wr.alloc (.cells #[.int .i64 u.t.kind, .string u.t.name, .int .i64 u.t.n, .slice u.a u.t.args.length u.c] 24)) := hbr.alloc hbs _
      cases hk1 : (u.t.kind == 1) with
      | false =>
        have he : varsL (ts.take (k + 1)) = zs := by rw [hst]; unfold varStep; rw [if_neg (by rw [hk1]; rintro ⟨h, _⟩; cases h)]
        have hown2 : (wr.alloc (.cells #[.int .i64 u.t.kind, .string u.t.name, .int .i64 u.t.n, .slice u.a u.t.args.length u.c] 24)).ownsRow w1.heap.size 9 1 u3 (varsL (ts.take (k + 1))).length ((varsL (ts.take (k + 1))).map Value.string) := by
          rw [he]; exact hown.alloc _
        clear he hst hown
        go_wp2_with fail
        go_roundw
        case rel => exact ⟨k + 1, by omega, by go_num, hown2, hbb⟩
        case measure => simp [intOf]; omega
      | true =>
        have I := Lib.hid (IN.out u3 zs u.t.name (wr.alloc (.cells #[.int .i64 u.t.kind, .string u.t.name, .int .i64 u.t.n, .slice u.a u.t.args.length u.c] 24)) (strs_of_own (hown.alloc _) (by omega)))
        cases hin : Lib.containsS zs u.t.name with
        | true =>
          rw [hin] at I
          have he : varsL (ts.take (k + 1)) = zs := by rw [hst]; unfold varStep; rw [if_neg (by rw [hin]; rintro ⟨_, h⟩; cases h)]
          have hown2 : (wr.alloc (.cells #[.int .i64 u.t.kind, .string u.t.name, .int .i64 u.t.n, .slice u.a u.t.args.length u.c] 24)).ownsRow w1.heap.size 9 1 u3 (varsL (ts.take (k + 1))).length ((varsL (ts.take (k + 1))).map Value.string) := by
            rw [he]; exact hown.alloc _
          clear he hst hown hin
          go_wp2_with fail
          refine I.out.mono ?_; rintro e w2 ⟨rfl, rfl⟩
          go_wp2_with fail
          go_roundw
          case rel => exact ⟨k + 1, by omega, by go_num, hown2, hbb⟩
          case measure => simp [intOf]; omega
        | false =>
          rw [hin] at I
          have he : varsL (ts.take (k + 1)) = zs ++ [u.t.name] := by rw [hst]; unfold varStep; rw [if_pos ⟨hk1, hin⟩]
          have HE := Lib.hid he
          obtain ⟨ms, hms⟩ : ∃ ms, ms = zs.map Value.string := ⟨_, rfl⟩
          obtain ⟨m, hm⟩ : ∃ m, m = zs.length := ⟨_, rfl⟩
          rw [← hms, ← hm] at hown
          rw [← hm] at hzl
          have HMS := Lib.hid hms
          have HM := Lib.hid hm
          clear he hst hin hms hm
          go_wp2_with fail
          refine I.out.mono ?_; rintro e w2 ⟨rfl, rfl⟩
          go_wp2_with (at_builtin; refine wpList_append_own _ rfl _ _ 44 rfl w1.heap.size 9 i0 (.string ⟨#[]⟩) 1 16 Try.underlying44 hi hz0 hz1 hz2 rfl (by decide) _ m _ rfl ((hown.alloc _).alloc _) ⟨wr.heap.size + 1, 0, none⟩ 1 1 [.string u.t.name] rfl rfl ?c1 ?c2 ?c3 ?c4 ?c5 ?_)
          case c1 =>
            have hz : wr.heap.size + 1 = (wr.alloc (.cells #[.int .i64 u.t.kind, .string u.t.name, .int .i64 u.t.n, .slice u.a u.t.args.length u.c] 24)).heap.size := by simp
            rw [hz]
            exact cell_one_new _ _ _
          case c2 => intro u hu; simp at hu; rw [hu]; rfl
          case c3 => unfold maxLen; omega
          case c4 => omega
          case c5 => simp; omega
          intro v' w3 hown' hgrow _
          have hb' : Below w1.heap.size w1 w3 := ((hbr.alloc hbs _).alloc (by simp; omega) _).grown hgrow (by simp; omega) (own_row_ge hown)
          have hown2 : w3.ownsRow w1.heap.size 9 1 v' (varsL (ts.take (k + 1))).length ((varsL (ts.take (k + 1))).map Value.string) := by
            rw [HE.out, List.map_append, List.length_append, ← HM.out, ← HMS.out]; exact hown'
          clear hown hown' hgrow d0 d1 d2 d3 hbr
          go_wp2_with fail
          go_roundw
          case rel => exact ⟨k + 1, by omega, by go_num, hown2, hb'⟩
          case measure => simp [intOf]; omega
    · obtain rfl : k = ts.length := by omega
      rw [List.take_length] at hown
      have hvl := varsL_len ts
      have hst := strs_of_own hown (by omega)
      have hge : wr.ownsRow w.heap.size 9 1 u3 (varsL ts).length ((varsL ts).map Value.string) := own_lower hown hb.size
      clear hown
      go_wp2
      go_ret
      exact ⟨_, rfl, hst, hge, below_next hb hbr⟩

end Go.Proofs.Ytedljdcliilggaa

namespace Go.Proofs.Ytedljdcliilggaa
open Go.RowKit

/-- What a call leaves that looks for binds. -/
def RowPost (o : Option (List Bn)) (w : World) (e : Ending) (w' : World) : Prop := ∃ u, e = .returned (.tuple #[u, .bool o.isSome]) ∧ Bds w' u (o.getD []) ∧ Below w.heap.size w w'
/-- What is asked of lists that are made alike. -/
def RowAsk (us bs : List Tm) : Prop := ∀ (va vb : Value) (w : World), Tms w va us → Tms w vb bs → Fine us bs → us.length = bs.length → ∀ o, RowU us bs o → (∀ l, o = some l → l.length ≤ 1000) → Calls Try.prog 9 #[va, vb] w (RowPost o w)
theorem args_tail7 {w : World} {a : Option Addr} {c : Nat} {t : Tm} {r : List Tm} (h : Args w a c (t :: r)) : Args w (if c = 1 then a else a.map (·.add 4)) (c - 1) r := by
  obtain ⟨⟨h1, h2⟩, h⟩ := h
  rw [List.length_cons] at h1 h2
  refine ⟨⟨by omega, by omega⟩, ?_⟩
  by_cases hr : r = []
  · exact .inl hr
  · rcases h with h | ⟨b, o, rfl, hlt, hat⟩
    · cases h
    · have hl : 0 < r.length := List.length_pos_iff.2 hr
      rw [if_neg (by omega)]
      rw [RowAt] at hat
      refine .inr ⟨b, o + 4, ?_, hlt, hat.2⟩
      simp [Addr.add]
set_option maxRecDepth 100000 in
set_option maxHeartbeats 1000000 in
theorem rrow_nil (bs : List Tm) (va vb : Value) (w : World) (ha : Tms w va []) (hb : Tms w vb bs) : Calls Try.prog 9 #[va, vb] w (RowPost (some []) w) := by
  obtain ⟨a, c, rfl, _⟩ := ha
  obtain ⟨a2, c2, rfl, _⟩ := hb
  simp only [List.length_nil]
  go_enter Try.func9, Try.ntmps9
  go_wp2_with fail
  go_ret2
  exact ⟨_, rfl, Bds.none_ _ _ _, Below.refl _ _⟩

theorem mem_varStep {acc : List ByteArray} {x : Tm} {y : ByteArray} : y ∈ varStep acc x ↔ y ∈ acc ∨ (x.kind = 1 ∧ x.name = y) := by
  unfold varStep
  split
  · next h =>
    rw [List.mem_append, List.mem_singleton]
    have hk : x.kind = 1 := by simpa using h.1
    constructor
    · rintro (h1 | rfl)
      · exact .inl h1
      · exact .inr ⟨hk, rfl⟩
    · rintro (h1 | ⟨_, rfl⟩)
      · exact .inl h1
      · exact .inr rfl
  · next h =>
    constructor
    · exact .inl
    · rintro (h1 | ⟨hk, rfl⟩)
      · exact h1
      · cases hc : Lib.containsS acc x.name with
        | true => exact (Lib.containsS_iff _ _).1 hc
        | false => exact absurd ⟨by rw [hk]; rfl, hc⟩ h
theorem mem_varsF {y : ByteArray} : ∀ (l : List Tm) (acc : List ByteArray), y ∈ l.foldl varStep acc ↔ y ∈ acc ∨ ∃ x ∈ l, x.kind = 1 ∧ x.name = y
  | [], acc => by simp
  | t :: r, acc => by
    rw [List.foldl_cons, mem_varsF r, mem_varStep]
    constructor
    · rintro ((h | h) | ⟨x, hx, h⟩)
      · exact .inl h
      · exact .inr ⟨t, List.mem_cons_self, h⟩
      · exact .inr ⟨x, List.mem_cons_of_mem _ hx, h⟩
    · rintro (h | ⟨x, hx, h⟩)
      · exact .inl (.inl h)
      · rcases List.mem_cons.1 hx with rfl | hx
        · exact .inl (.inr h)
        · exact .inr ⟨x, hx, h⟩
theorem has_vars {t : Tm} {s : ByteArray} : Lib.containsS t.vars s = true ↔ HasV s t := by
  rw [Lib.containsS_iff]
  unfold Tm.vars varsL
  rw [mem_varsF]
  constructor
  · rintro (h | h)
    · cases h
    · exact h
  · exact .inr
theorem has_not {t : Tm} {s : ByteArray} (h : ¬ HasV s t) : Lib.containsS t.vars s = false := by
  cases e : Lib.containsS t.vars s with
  | false => rfl
  | true => exact absurd (has_vars.1 e) h

theorem args_vs {w : World} {ad : Addr} {c : Nat} {ts : List Tm} (h : Args w (some ad) c ts) : ∃ vs : List Tv, vs.map Tv.t = ts ∧ (∀ x ∈ vs, x.ok w) ∧ ∀ W, Below w.heap.size w W → ∀ q x, (rowTv vs)[q]? = some x → W.cell? (ad.add q) = some x := by
  rcases h.2 with rfl | ⟨b, o, e, hlt, hr⟩
  · exact ⟨[], rfl, (fun x hx => by cases hx), fun W _ q x hq => by simp [rowTv] at hq⟩
  · cases e
    obtain ⟨vs, h1, h2, h3⟩ := rowAt_vs hr
    refine ⟨vs, h1, h2, fun W hW q x hq => ?_⟩
    rw [addr_row]
    exact (hW.cell (p := ⟨b, o + q, none⟩) hlt).trans (h3 q x hq)
theorem own_form7 {w : World} {base : Nat} {e : TypeId} {size n : Nat} {v : Value} {xs : List Value} (h : w.ownsRow base e size v n xs) : ∃ a c, v = .slice a n c := by
  obtain ⟨_, ⟨rfl, rfl⟩ | ⟨g, cap, _, rfl, _⟩⟩ := h
  · exact ⟨none, 0, rfl⟩
  · exact ⟨_, cap, rfl⟩
theorem head_args {x y : Tm} (hn : x ≠ y) (hh : headB x y = true) (he : x.args.length = y.args.length) : x.args ≠ [] ∧ y.args ≠ [] := by
  obtain ⟨h1, h2, h3⟩ := headB_iff.1 hh
  have key : x.args ≠ [] := fun e => hn (by
    have e2 : y.args = [] := List.eq_nil_of_length_eq_zero (by rw [← he, e]; rfl)
    rw [Tm.eta x, Tm.eta y, e, e2, h1, h2, h3])
  exact ⟨key, fun e => key (List.eq_nil_of_length_eq_zero (by rw [he, e]; rfl))⟩
end Go.Proofs.Ytedljdcliilggaa

namespace Go.Proofs.Ytedljdcliilggaa
open Go.RowKit

set_option maxRecDepth 100000 in
set_option maxHeartbeats 4000000 in
theorem rrow_same (x y : Tm) (us bs : List Tm) (va vb : Value) (w : World) (ha : Tms w va (x :: us)) (hb : Tms w vb (y :: bs)) (hfine : Fine (x :: us) (y :: bs)) (hlen : us.length = bs.length) (o : Option (List Bn)) (IH : RowAsk us bs) (hxy : x = y) (hr : RowU us bs o) (hol : ∀ l, o = some l → l.length ≤ 1000) :
    Calls Try.prog 9 #[va, vb] w (RowPost o w) := by
  obtain ⟨a1, c1, rfl, hA1⟩ := ha
  obtain ⟨a2, c2, rfl, hA2⟩ := hb
  obtain ⟨b1, o1, rfl, hlt1, hat1⟩ := hA1.2.resolve_left (by simp)
  obtain ⟨b2, o2, rfl, hlt2, hat2⟩ := hA2.2.resolve_left (by simp)
  rw [RowAt] at hat1 hat2
  obtain ⟨⟨xt, xa, xc⟩, hxt, hxo, hxv⟩ := tmAt_tv hat1.1
  obtain ⟨⟨yt, ya, yc⟩, hyt, hyo, hyv⟩ := tmAt_tv hat2.1
  obtain rfl : xt = x := hxt
  obtain rfl : yt = y := hyt
  obtain ⟨A1, hQ1⟩ : ∃ A1, (if c1 = 1 then some (⟨b1, o1, none⟩ : Addr) else some ⟨b1, o1 + 4, none⟩) = A1 := ⟨_, rfl⟩
  obtain ⟨A2, hQ2⟩ : ∃ A2, (if c2 = 1 then some (⟨b2, o2, none⟩ : Addr) else some ⟨b2, o2 + 4, none⟩) = A2 := ⟨_, rfl⟩
  have HT1 := Lib.hid (show Args w A1 (c1 - 1) us from hQ1 ▸ args_tail7 hA1)
  have HT2 := Lib.hid (show Args w A2 (c2 - 1) bs from hQ2 ▸ args_tail7 hA2)
  obtain ⟨m0, m1, m2, m3⟩ := hxv
  obtain ⟨k0, k1, k2, k3⟩ := hyv
  simp only at m0 m1 m2 m3 k0 k1 k2 k3
  have bX := (box_new w (.int .i64 xt.kind) (.string xt.name) (.int .i64 xt.n) (.slice xa xt.args.length xc) 24).below ((Below.refl _ _).alloc (Nat.le_refl _) (.cells #[.int .i64 yt.kind, .string yt.name, .int .i64 yt.n, .slice ya yt.args.length yc] 24)) (by simp)
  have bY := alloc_two w (.cells #[.int .i64 xt.kind, .string xt.name, .int .i64 xt.n, .slice xa xt.args.length xc] 24) (.int .i64 yt.kind) (.string yt.name) (.int .i64 yt.n) (.slice ya yt.args.length yc) 24
  have hB2 := below_two w (.cells #[.int .i64 xt.kind, .string xt.name, .int .i64 xt.n, .slice xa xt.args.length xc] 24) (.cells #[.int .i64 yt.kind, .string yt.name, .int .i64 yt.n, .slice ya yt.args.length yc] 24)
  obtain ⟨wz, hwz⟩ : ∃ wz, wz = ((w.alloc (.cells #[.int .i64 xt.kind, .string xt.name, .int .i64 xt.n, .slice xa xt.args.length xc] 24)).alloc (.cells #[.int .i64 yt.kind, .string yt.name, .int .i64 yt.n, .slice ya yt.args.length yc] 24)) := ⟨_, rfl⟩
  have hzs : wz.heap.size = w.heap.size + 2 := by rw [hwz]; simp
  rw [← hwz] at bX bY hB2
  have HBX := Lib.hid (fun (V : World) (h : Below wz.heap.size wz V) => bX.below h (by omega))
  have HBY := Lib.hid (fun (V : World) (h : Below wz.heap.size wz V) => bY.below h (by omega))
  have HB2 := Lib.hid hB2
  have HX := Lib.hid hxo
  have HY := Lib.hid hyo
  have HF := Lib.hid hfine
  have HLEN := Lib.hid hlen
  have HZS := Lib.hid hzs
  have n1 : (1 : Int) ≤ ((us.length : Nat) : Int) + 1 := by omega
  have n2 : (1 : Int) ≤ ((bs.length : Nat) : Int) + 1 := by omega
  have e1 : (((us.length : Nat) : Int) + 1 == 0) = false := by rw [beq_eq_false_iff_ne]; omega
  have hb1 : b1 < wz.heap.size := by omega
  have hb2 : b2 < wz.heap.size := by omega
  have SM := Lib.hid (same_tm xt.parts ⟨xt, xa, xc⟩ ⟨yt, ya, yc⟩ wz (Nat.le_refl _) (hxo.below hB2) (hyo.below hB2))
  obtain ⟨p0, p1, p2, p3, _, _, _, _⟩ := bX
  obtain ⟨q0, q1, q2, q3, _, _, _, _⟩ := bY
  simp only [List.length_cons]
  simp only [Tv.val] at SM
  rw [eqT_true (show (⟨xt, xa, xc⟩ : Tv).t = (⟨yt, ya, yc⟩ : Tv).t from hxy)] at SM
  clear hxy
  clear hA1 hA2 hat1 hat2 hxo hyo hfine hlen hB2 hzs
  go_enter Try.func9, Try.ntmps9
  go_wp2_with fail
  rw [← hwz]
  refine SM.out.mono ?_; rintro e w1 ⟨rfl, hs1⟩
  have H1 := Lib.hid hs1
  clear hs1 hwz SM m0 m1 m2 m3 k0 k1 k2 k3 p0 p1 p2 p3 q0 q1 q2 q3
  obtain ⟨p0, p1, p2, p3, f0, f1, f2, f3⟩ := HBX.out w1 H1.out
  obtain ⟨q0, q1, q2, q3, g0, g1, g2, g3⟩ := HBY.out w1 H1.out
  have RC := Lib.hid (fun (W : World) (h : Below w.heap.size w W) => IH (.slice A1 us.length (c1 - 1)) (.slice A2 bs.length (c2 - 1)) W ⟨_, _, rfl, HT1.out.below h⟩ ⟨_, _, rfl, HT2.out.below h⟩ HF.out.same HLEN.out o hr hol)
  have HW := Lib.hid (below_next HB2.out H1.out)
  have HD := Lib.hid (show Below w.heap.size w w1.drew from (below_next HB2.out H1.out).drew)
  clear IH hr hol
  go_wp2_with fail
  go_region_held3 (fun _ => True) (trivial) ((go_at_call 9; refine (RC.out _ HD.out).mono ?_; rintro e w2 ⟨u2, rfl, hu2, hb2⟩; have HU2 := Lib.hid hu2; obtain ⟨a5, c5, rfl, _, _⟩ := hu2))
  have HE := Lib.hid (below_next HD.out hb2)
  clear hb2
  go_wp2_with fail
  go_ret2
  exact ⟨_, rfl, HU2.out, HE.out⟩

set_option maxRecDepth 100000 in
set_option maxHeartbeats 4000000 in
theorem rrow_occ1 (x y : Tm) (us bs : List Tm) (va vb : Value) (w : World) (ha : Tms w va (x :: us)) (hb : Tms w vb (y :: bs)) (hfine : Fine (x :: us) (y :: bs)) (hlen : us.length = bs.length) (hn : x ≠ y) (hk : x.kind = 1) (ho : HasV x.name y) :
    Calls Try.prog 9 #[va, vb] w (RowPost none w) := by
  obtain ⟨a1, c1, rfl, hA1⟩ := ha
  obtain ⟨a2, c2, rfl, hA2⟩ := hb
  obtain ⟨b1, o1, rfl, hlt1, hat1⟩ := hA1.2.resolve_left (by simp)
  obtain ⟨b2, o2, rfl, hlt2, hat2⟩ := hA2.2.resolve_left (by simp)
  rw [RowAt] at hat1 hat2
  obtain ⟨⟨xt, xa, xc⟩, hxt, hxo, hxv⟩ := tmAt_tv hat1.1
  obtain ⟨⟨yt, ya, yc⟩, hyt, hyo, hyv⟩ := tmAt_tv hat2.1
  obtain rfl : xt = x := hxt
  obtain rfl : yt = y := hyt
  obtain ⟨A1, hQ1⟩ : ∃ A1, (if c1 = 1 then some (⟨b1, o1, none⟩ : Addr) else some ⟨b1, o1 + 4, none⟩) = A1 := ⟨_, rfl⟩
  obtain ⟨A2, hQ2⟩ : ∃ A2, (if c2 = 1 then some (⟨b2, o2, none⟩ : Addr) else some ⟨b2, o2 + 4, none⟩) = A2 := ⟨_, rfl⟩
  have HT1 := Lib.hid (show Args w A1 (c1 - 1) us from hQ1 ▸ args_tail7 hA1)
  have HT2 := Lib.hid (show Args w A2 (c2 - 1) bs from hQ2 ▸ args_tail7 hA2)
  obtain ⟨m0, m1, m2, m3⟩ := hxv
  obtain ⟨k0, k1, k2, k3⟩ := hyv
  simp only at m0 m1 m2 m3 k0 k1 k2 k3
  have bX := (box_new w (.int .i64 xt.kind) (.string xt.name) (.int .i64 xt.n) (.slice xa xt.args.length xc) 24).below ((Below.refl _ _).alloc (Nat.le_refl _) (.cells #[.int .i64 yt.kind, .string yt.name, .int .i64 yt.n, .slice ya yt.args.length yc] 24)) (by simp)
  have bY := alloc_two w (.cells #[.int .i64 xt.kind, .string xt.name, .int .i64 xt.n, .slice xa xt.args.length xc] 24) (.int .i64 yt.kind) (.string yt.name) (.int .i64 yt.n) (.slice ya yt.args.length yc) 24
  have hB2 := below_two w (.cells #[.int .i64 xt.kind, .string xt.name, .int .i64 xt.n, .slice xa xt.args.length xc] 24) (.cells #[.int .i64 yt.kind, .string yt.name, .int .i64 yt.n, .slice ya yt.args.length yc] 24)
  obtain ⟨wz, hwz⟩ : ∃ wz, wz = ((w.alloc (.cells #[.int .i64 xt.kind, .string xt.name, .int .i64 xt.n, .slice xa xt.args.length xc] 24)).alloc (.cells #[.int .i64 yt.kind, .string yt.name, .int .i64 yt.n, .slice ya yt.args.length yc] 24)) := ⟨_, rfl⟩
  have hzs : wz.heap.size = w.heap.size + 2 := by rw [hwz]; simp
  rw [← hwz] at bX bY hB2
  have HBX := Lib.hid (fun (V : World) (h : Below wz.heap.size wz V) => bX.below h (by omega))
  have HBY := Lib.hid (fun (V : World) (h : Below wz.heap.size wz V) => bY.below h (by omega))
  have HB2 := Lib.hid hB2
  have HX := Lib.hid hxo
  have HY := Lib.hid hyo
  have HF := Lib.hid hfine
  have HLEN := Lib.hid hlen
  have HZS := Lib.hid hzs
  have n1 : (1 : Int) ≤ ((us.length : Nat) : Int) + 1 := by omega
  have n2 : (1 : Int) ≤ ((bs.length : Nat) : Int) + 1 := by omega
  have e1 : (((us.length : Nat) : Int) + 1 == 0) = false := by rw [beq_eq_false_iff_ne]; omega
  have hb1 : b1 < wz.heap.size := by omega
  have hb2 : b2 < wz.heap.size := by omega
  have SM := Lib.hid (same_tm xt.parts ⟨xt, xa, xc⟩ ⟨yt, ya, yc⟩ wz (Nat.le_refl _) (hxo.below hB2) (hyo.below hB2))
  obtain ⟨p0, p1, p2, p3, _, _, _, _⟩ := bX
  obtain ⟨q0, q1, q2, q3, _, _, _, _⟩ := bY
  simp only [List.length_cons]
  simp only [Tv.val] at SM
  rw [eqT_false (show (⟨xt, xa, xc⟩ : Tv).t ≠ (⟨yt, ya, yc⟩ : Tv).t from hn)] at SM
  have HK := Lib.hid hk
  have hkv : (xt.kind == 1) = true := by rw [hk]; rfl
  have hkn : (xt.kind != 1) = false := by rw [hk]; rfl
  have HO := Lib.hid (show Lib.containsS yt.vars xt.name = true from has_vars.2 ho)
  clear hn hk ho
  clear hA1 hA2 hat1 hat2 hxo hyo hfine hlen hB2 hzs
  go_enter Try.func9, Try.ntmps9
  go_wp2_with fail
  rw [← hwz]
  refine SM.out.mono ?_; rintro e w1 ⟨rfl, hs1⟩
  have H1 := Lib.hid hs1
  clear hs1 hwz SM m0 m1 m2 m3 k0 k1 k2 k3 p0 p1 p2 p3 q0 q1 q2 q3
  obtain ⟨p0, p1, p2, p3, f0, f1, f2, f3⟩ := HBX.out w1 H1.out
  obtain ⟨q0, q1, q2, q3, g0, g1, g2, g3⟩ := HBY.out w1 H1.out
  have HWV := Lib.hid (below_next HB2.out H1.out)
  have KX := Lib.hid (fun (W : World) (h : Below w1.heap.size w1 W) => HBX.out W (below_next H1.out h))
  have KY := Lib.hid (fun (W : World) (h : Below w1.heap.size w1 W) => HBY.out W (below_next H1.out h))
  have HT := Lib.hid (show yt.parts ≤ 2300000000000 by have := HF.out.one yt (.inr List.mem_cons_self); unfold mostT at this; omega)
  have VT := Lib.hid (fun (W : World) (h : Below w1.heap.size w1 W) => (vars_tm ⟨yt, ya, yc⟩ W (HY.out.below (below_next HWV.out h)) HT.out).mono (fun e w' ⟨v, h1, h2, _, h3⟩ => (show ∃ a c, e = Ending.returned (.slice a yt.vars.length c) ∧ Strs w' (.slice a yt.vars.length c) yt.vars ∧ Below w1.heap.size w1 w' from by
    obtain ⟨a, c, rfl, _⟩ := id h2
    exact ⟨a, c, h1, h2, below_next h h3⟩)))
  have IN := Lib.hid (fun (W : World) (v : Value) (h : Strs W v yt.vars) => rin_any v yt.vars xt.name W h)
  rw [HO.out] at IN
  have KEEP := Lib.hid (fun (W : World) (h : Below w1.heap.size w1 W) => (show W.cell? ⟨w.heap.size, 1, none⟩ = some (.string xt.name) ∧ (W.cell? ⟨w.heap.size + 1, 0, none⟩ = some (.int .i64 yt.kind) ∧ W.cell? ⟨w.heap.size + 1, 1, none⟩ = some (.string yt.name) ∧ W.cell? ⟨w.heap.size + 1, 2, none⟩ = some (.int .i64 yt.n) ∧ W.cell? ⟨w.heap.size + 1, 3, none⟩ = some (.slice ya yt.args.length yc)) from by
    have b1 := KX.out W h
    have b2 := KY.out W h
    exact ⟨b1.c1, b2.c0, b2.c1, b2.c2, b2.c3⟩))
  have A0 := Lib.hid (show Below w1.heap.size w1 w1.drew from (Below.refl _ _).drew)
  simp only [Tv.val] at VT
  go_wp2_with fail
  clear p0 p1 p2 p3 f0 f1 f2 f3 q0 q1 q2 q3 g0 g1 g2 g3
  go_region_held3 (fun W => W.cell? ⟨w.heap.size, 1, none⟩ = some (.string xt.name) ∧ (W.cell? ⟨w.heap.size + 1, 0, none⟩ = some (.int .i64 yt.kind) ∧ W.cell? ⟨w.heap.size + 1, 1, none⟩ = some (.string yt.name) ∧ W.cell? ⟨w.heap.size + 1, 2, none⟩ = some (.int .i64 yt.n) ∧ W.cell? ⟨w.heap.size + 1, 3, none⟩ = some (.slice ya yt.args.length yc))) (first | exact KEEP.out _ A0.out | exact KEEP.out _ (by with_reducible assumption))
    ((first
      | (go_at_call 26; refine (VT.out _ A0.out).mono ?_; rintro e w2 ⟨av, cv, rfl, hv, hb2'⟩)
      | (go_at_call 25; refine (IN.out _ _ hv).mono ?_; rintro e w3 ⟨rfl, rfl⟩)))
  have HE := Lib.hid (below_next HWV.out hb2')
  clear hb2' hv
  go_wp2_with fail
  go_ret2
  exact ⟨_, rfl, Bds.none_ _ _ _, HE.out⟩

set_option maxRecDepth 100000 in
set_option maxHeartbeats 4000000 in
theorem rrow_occ2 (x y : Tm) (us bs : List Tm) (va vb : Value) (w : World) (ha : Tms w va (x :: us)) (hb : Tms w vb (y :: bs)) (hfine : Fine (x :: us) (y :: bs)) (hlen : us.length = bs.length) (hn : x ≠ y) (hk0 : x.kind ≠ 1) (hk : y.kind = 1) (ho : HasV y.name x) :
    Calls Try.prog 9 #[va, vb] w (RowPost none w) := by
  obtain ⟨a1, c1, rfl, hA1⟩ := ha
  obtain ⟨a2, c2, rfl, hA2⟩ := hb
  obtain ⟨b1, o1, rfl, hlt1, hat1⟩ := hA1.2.resolve_left (by simp)
  obtain ⟨b2, o2, rfl, hlt2, hat2⟩ := hA2.2.resolve_left (by simp)
  rw [RowAt] at hat1 hat2
  obtain ⟨⟨xt, xa, xc⟩, hxt, hxo, hxv⟩ := tmAt_tv hat1.1
  obtain ⟨⟨yt, ya, yc⟩, hyt, hyo, hyv⟩ := tmAt_tv hat2.1
  obtain rfl : xt = x := hxt
  obtain rfl : yt = y := hyt
  obtain ⟨A1, hQ1⟩ : ∃ A1, (if c1 = 1 then some (⟨b1, o1, none⟩ : Addr) else some ⟨b1, o1 + 4, none⟩) = A1 := ⟨_, rfl⟩
  obtain ⟨A2, hQ2⟩ : ∃ A2, (if c2 = 1 then some (⟨b2, o2, none⟩ : Addr) else some ⟨b2, o2 + 4, none⟩) = A2 := ⟨_, rfl⟩
  have HT1 := Lib.hid (show Args w A1 (c1 - 1) us from hQ1 ▸ args_tail7 hA1)
  have HT2 := Lib.hid (show Args w A2 (c2 - 1) bs from hQ2 ▸ args_tail7 hA2)
  obtain ⟨m0, m1, m2, m3⟩ := hxv
  obtain ⟨k0, k1, k2, k3⟩ := hyv
  simp only at m0 m1 m2 m3 k0 k1 k2 k3
  have bX := (box_new w (.int .i64 xt.kind) (.string xt.name) (.int .i64 xt.n) (.slice xa xt.args.length xc) 24).below ((Below.refl _ _).alloc (Nat.le_refl _) (.cells #[.int .i64 yt.kind, .string yt.name, .int .i64 yt.n, .slice ya yt.args.length yc] 24)) (by simp)
  have bY := alloc_two w (.cells #[.int .i64 xt.kind, .string xt.name, .int .i64 xt.n, .slice xa xt.args.length xc] 24) (.int .i64 yt.kind) (.string yt.name) (.int .i64 yt.n) (.slice ya yt.args.length yc) 24
  have hB2 := below_two w (.cells #[.int .i64 xt.kind, .string xt.name, .int .i64 xt.n, .slice xa xt.args.length xc] 24) (.cells #[.int .i64 yt.kind, .string yt.name, .int .i64 yt.n, .slice ya yt.args.length yc] 24)
  obtain ⟨wz, hwz⟩ : ∃ wz, wz = ((w.alloc (.cells #[.int .i64 xt.kind, .string xt.name, .int .i64 xt.n, .slice xa xt.args.length xc] 24)).alloc (.cells #[.int .i64 yt.kind, .string yt.name, .int .i64 yt.n, .slice ya yt.args.length yc] 24)) := ⟨_, rfl⟩
  have hzs : wz.heap.size = w.heap.size + 2 := by rw [hwz]; simp
  rw [← hwz] at bX bY hB2
  have HBX := Lib.hid (fun (V : World) (h : Below wz.heap.size wz V) => bX.below h (by omega))
  have HBY := Lib.hid (fun (V : World) (h : Below wz.heap.size wz V) => bY.below h (by omega))
  have HB2 := Lib.hid hB2
  have HX := Lib.hid hxo
  have HY := Lib.hid hyo
  have HF := Lib.hid hfine
  have HLEN := Lib.hid hlen
  have HZS := Lib.hid hzs
  have n1 : (1 : Int) ≤ ((us.length : Nat) : Int) + 1 := by omega
  have n2 : (1 : Int) ≤ ((bs.length : Nat) : Int) + 1 := by omega
  have e1 : (((us.length : Nat) : Int) + 1 == 0) = false := by rw [beq_eq_false_iff_ne]; omega
  have hb1 : b1 < wz.heap.size := by omega
  have hb2 : b2 < wz.heap.size := by omega
  have SM := Lib.hid (same_tm xt.parts ⟨xt, xa, xc⟩ ⟨yt, ya, yc⟩ wz (Nat.le_refl _) (hxo.below hB2) (hyo.below hB2))
  obtain ⟨p0, p1, p2, p3, _, _, _, _⟩ := bX
  obtain ⟨q0, q1, q2, q3, _, _, _, _⟩ := bY
  simp only [List.length_cons]
  simp only [Tv.val] at SM
  rw [eqT_false (show (⟨xt, xa, xc⟩ : Tv).t ≠ (⟨yt, ya, yc⟩ : Tv).t from hn)] at SM
  have HK := Lib.hid hk
  have hk1 : (xt.kind != 1) = true := by rw [bne_iff_ne]; exact hk0
  have hk2 : (xt.kind == 1) = false := by rw [beq_eq_false_iff_ne]; exact hk0
  clear hk0
  have hkv : (yt.kind == 1) = true := by rw [hk]; rfl
  have hkn : (yt.kind != 1) = false := by rw [hk]; rfl
  have HO := Lib.hid (show Lib.containsS xt.vars yt.name = true from has_vars.2 ho)
  clear hn hk ho
  clear hA1 hA2 hat1 hat2 hxo hyo hfine hlen hB2 hzs
  go_enter Try.func9, Try.ntmps9
  go_wp2_with fail
  rw [← hwz]
  refine SM.out.mono ?_; rintro e w1 ⟨rfl, hs1⟩
  have H1 := Lib.hid hs1
  clear hs1 hwz SM m0 m1 m2 m3 k0 k1 k2 k3 p0 p1 p2 p3 q0 q1 q2 q3
  obtain ⟨p0, p1, p2, p3, f0, f1, f2, f3⟩ := HBX.out w1 H1.out
  obtain ⟨q0, q1, q2, q3, g0, g1, g2, g3⟩ := HBY.out w1 H1.out
  have BX1 := HBX.out w1 H1.out
  have BY1 := HBY.out w1 H1.out
  have BV := ((((BX1.sets (.int .i64 yt.kind) (.string yt.name) (.int .i64 yt.n) (.slice ya yt.args.length yc)).aside (p := ⟨w.heap.size + 1, 0, none⟩) (by show w.heap.size ≠ w.heap.size + 1; omega) (.int .i64 xt.kind)).aside (p := ⟨w.heap.size + 1, 1, none⟩) (by show w.heap.size ≠ w.heap.size + 1; omega) (.string xt.name)).aside (p := ⟨w.heap.size + 1, 2, none⟩) (by show w.heap.size ≠ w.heap.size + 1; omega) (.int .i64 xt.n)).aside (p := ⟨w.heap.size + 1, 3, none⟩) (by show w.heap.size ≠ w.heap.size + 1; omega) (.slice xa xt.args.length xc)
  have BU := ((((BY1.aside (p := ⟨w.heap.size, 0, none⟩) (by show w.heap.size + 1 ≠ w.heap.size; omega) (.int .i64 yt.kind)).aside (p := ⟨w.heap.size, 1, none⟩) (by show w.heap.size + 1 ≠ w.heap.size; omega) (.string yt.name)).aside (p := ⟨w.heap.size, 2, none⟩) (by show w.heap.size + 1 ≠ w.heap.size; omega) (.int .i64 yt.n)).aside (p := ⟨w.heap.size, 3, none⟩) (by show w.heap.size + 1 ≠ w.heap.size; omega) (.slice ya yt.args.length yc)).sets (.int .i64 xt.kind) (.string xt.name) (.int .i64 xt.n) (.slice xa xt.args.length xc)
  have hW1 := below_next HB2.out H1.out
  have HWU := ((((((((hW1.setCell (p := ⟨w.heap.size, 0, none⟩) (Nat.le_refl _) (.int .i64 yt.kind)).setCell (p := ⟨w.heap.size, 1, none⟩) (Nat.le_refl _) (.string yt.name)).setCell (p := ⟨w.heap.size, 2, none⟩) (Nat.le_refl _) (.int .i64 yt.n)).setCell (p := ⟨w.heap.size, 3, none⟩) (Nat.le_refl _) (.slice ya yt.args.length yc)).setCell (p := ⟨w.heap.size + 1, 0, none⟩) (Nat.le_succ _) (.int .i64 xt.kind)).setCell (p := ⟨w.heap.size + 1, 1, none⟩) (Nat.le_succ _) (.string xt.name)).setCell (p := ⟨w.heap.size + 1, 2, none⟩) (Nat.le_succ _) (.int .i64 xt.n)).setCell (p := ⟨w.heap.size + 1, 3, none⟩) (Nat.le_succ _) (.slice xa xt.args.length xc))
  obtain ⟨wv, hwv⟩ : ∃ wv, wv = ((((((((w1.setCell ⟨w.heap.size, 0, none⟩ (.int .i64 yt.kind)).setCell ⟨w.heap.size, 1, none⟩ (.string yt.name)).setCell ⟨w.heap.size, 2, none⟩ (.int .i64 yt.n)).setCell ⟨w.heap.size, 3, none⟩ (.slice ya yt.args.length yc)).setCell ⟨w.heap.size + 1, 0, none⟩ (.int .i64 xt.kind)).setCell ⟨w.heap.size + 1, 1, none⟩ (.string xt.name)).setCell ⟨w.heap.size + 1, 2, none⟩ (.int .i64 xt.n)).setCell ⟨w.heap.size + 1, 3, none⟩ (.slice xa xt.args.length xc)) := ⟨_, rfl⟩
  rw [← hwv] at BV BU HWU
  have HWV := Lib.hid HWU
  have KX := Lib.hid (fun (W : World) (h : Below wv.heap.size wv W) => BV.below h (lt_of_cell BV.c0))
  have KY := Lib.hid (fun (W : World) (h : Below wv.heap.size wv W) => BU.below h (lt_of_cell BU.c0))
  clear BX1 BY1 BV BU hW1 HWU
  have HT := Lib.hid (show xt.parts ≤ 2300000000000 by have := HF.out.one xt (.inl List.mem_cons_self); unfold mostT at this; omega)
  have VT := Lib.hid (fun (W : World) (h : Below wv.heap.size wv W) => (vars_tm ⟨xt, xa, xc⟩ W (HX.out.below (below_next HWV.out h)) HT.out).mono (fun e w' ⟨v, h1, h2, _, h3⟩ => (show ∃ a c, e = Ending.returned (.slice a xt.vars.length c) ∧ Strs w' (.slice a xt.vars.length c) xt.vars ∧ Below wv.heap.size wv w' from by
    obtain ⟨a, c, rfl, _⟩ := id h2
    exact ⟨a, c, h1, h2, below_next h h3⟩)))
  have IN := Lib.hid (fun (W : World) (v : Value) (h : Strs W v xt.vars) => rin_any v xt.vars yt.name W h)
  rw [HO.out] at IN
  have KEEP := Lib.hid (fun (W : World) (h : Below wv.heap.size wv W) => (show W.cell? ⟨w.heap.size, 1, none⟩ = some (.string yt.name) ∧ (W.cell? ⟨w.heap.size + 1, 0, none⟩ = some (.int .i64 xt.kind) ∧ W.cell? ⟨w.heap.size + 1, 1, none⟩ = some (.string xt.name) ∧ W.cell? ⟨w.heap.size + 1, 2, none⟩ = some (.int .i64 xt.n) ∧ W.cell? ⟨w.heap.size + 1, 3, none⟩ = some (.slice xa xt.args.length xc)) from by
    have b1 := KX.out W h
    have b2 := KY.out W h
    exact ⟨b1.c1, b2.c0, b2.c1, b2.c2, b2.c3⟩))
  have A0 := Lib.hid (show Below wv.heap.size wv wv.drew from (Below.refl _ _).drew)
  simp only [Tv.val] at VT
  go_wp2_with fail
  rw [← hwv]
  clear hwv p0 p1 p2 p3 f0 f1 f2 f3 q0 q1 q2 q3 g0 g1 g2 g3
  go_region_held3 (fun W => W.cell? ⟨w.heap.size, 1, none⟩ = some (.string yt.name) ∧ (W.cell? ⟨w.heap.size + 1, 0, none⟩ = some (.int .i64 xt.kind) ∧ W.cell? ⟨w.heap.size + 1, 1, none⟩ = some (.string xt.name) ∧ W.cell? ⟨w.heap.size + 1, 2, none⟩ = some (.int .i64 xt.n) ∧ W.cell? ⟨w.heap.size + 1, 3, none⟩ = some (.slice xa xt.args.length xc))) (first | exact KEEP.out _ A0.out | exact KEEP.out _ (by with_reducible assumption))
    ((first
      | (go_at_call 26; refine (VT.out _ A0.out).mono ?_; rintro e w2 ⟨av, cv, rfl, hv, hb2'⟩)
      | (go_at_call 25; refine (IN.out _ _ hv).mono ?_; rintro e w3 ⟨rfl, rfl⟩)))
  have HE := Lib.hid (below_next HWV.out hb2')
  clear hb2' hv
  go_wp2_with fail
  go_ret2
  exact ⟨_, rfl, Bds.none_ _ _ _, HE.out⟩
end Go.Proofs.Ytedljdcliilggaa
