/-
  Whether two rows of binds are alike, by the reference of layer 5: Equal.
  The binds by which two terms are made alike: the law answers true, from what the program's functions answer.
-/
import Derived.Test.YtedljdcliilggaaU03
import Derived.Test.YtedljdcliilggaaU01
import Derived.Test.YtedljdcliilggaaU12
import Derived.BigQuiet
import Derived.Deep.QuietTactic
import Derived.Test.YtedljdcliilggaaU09
namespace Go.Proofs.Ytedljdcliilggaa
open Go.RowKit

theorem take_eq_succ {cs bs : List Bn} {k : Nat} {x y : Bn} (h : cs.take k = bs.take k) (hx : cs[k]? = some x) (hy : bs[k]? = some y) (e : x = y) : cs.take (k + 1) = bs.take (k + 1) := by
  obtain ⟨h1, rfl⟩ := List.getElem?_eq_some_iff.1 hx
  obtain ⟨h2, rfl⟩ := List.getElem?_eq_some_iff.1 hy
  rw [List.take_succ_eq_append_getElem h1, List.take_succ_eq_append_getElem h2, h, e]
theorem ne_at {cs bs : List Bn} {k : Nat} {x y : Bn} (hx : cs[k]? = some x) (hy : bs[k]? = some y) (e : x ≠ y) : cs ≠ bs := fun h => by
  subst h; rw [hx] at hy; exact e (Option.some.inj hy)

/-- Whether two rows of binds are one. -/
noncomputable def eqB (cs bs : List Bn) : Bool := @decide (cs = bs) (Classical.propDecidable _)
theorem eqB_yes {cs bs : List Bn} (h : cs = bs) : true = eqB cs bs := (@decide_eq_true _ (Classical.propDecidable _) h).symm
theorem eqB_no {cs bs : List Bn} (h : cs ≠ bs) : false = eqB cs bs := (@decide_eq_false _ (Classical.propDecidable _) h).symm
theorem eqB_self (bs : List Bn) : eqB bs bs = true := (eqB_yes rfl).symm

set_option maxRecDepth 100000 in
set_option maxHeartbeats 4000000 in
theorem requal_any (va vb : Value) (cs bs : List Bn) (w : World) (ha : Bds w va cs) (hb : Bds w vb bs) :
    Calls Try.prog 10 #[va, vb] w fun e w' => e = .returned (.bool (eqB cs bs)) ∧ Below w.heap.size w w' := by
  obtain ⟨aa, ca, rfl, hla, hra⟩ := ha
  obtain ⟨ab, cb, rfl, hlb, hrb⟩ := hb
  have HA := Lib.hid hra
  have HB := Lib.hid hrb
  have SA := Lib.hid (fun (y z : Tv) (W : World) (h1 : y.ok W) (h2 : z.ok W) => same_tm y.t.parts y z W (Nat.le_refl _) h1 h2)
  clear hra hrb
  by_cases hl : cs.length = bs.length
  · have hln : ((cs.length : Int) != (bs.length : Int)) = false := by rw [hl]; simp
    have hle : ((cs.length : Int) == (bs.length : Int)) = true := by rw [hl]; simp
    have HL := Lib.hid hl
    clear hl
    go_enter Try.func10, Try.ntmps10
    go_wp2_with fail
    go_loopw [13] (fun i wr => ∃ q : Nat, q ≤ cs.length ∧ i = .int .i64 q ∧ Hid (cs.take q = bs.take q) ∧ Below w.heap.size w wr) (fun i _ => cs.length - (intOf i).toNat)
    case atStart => exact ⟨0, Nat.zero_le _, rfl, Lib.hid rfl, Below.refl _ _⟩
    case round =>
      obtain ⟨q, hq, rfl, HT, hb⟩ := hrel
      have hbs := hb.size
      by_cases hql : q < cs.length
      · have hqb : q < bs.length := by have := HL.out; omega
        obtain ⟨b1, o1, rfl, hlt1, hat1⟩ := HA.out.resolve_left (by intro h; rw [h] at hql; simp at hql)
        obtain ⟨b2, o2, rfl, hlt2, hat2⟩ := HB.out.resolve_left (by intro h; rw [h] at hqb; simp at hqb)
        obtain ⟨x, hx⟩ : ∃ x, cs[q]? = some x := ⟨_, List.getElem?_eq_getElem hql⟩
        obtain ⟨y, hy⟩ : ∃ y, bs[q]? = some y := ⟨_, List.getElem?_eq_getElem hqb⟩
        obtain ⟨⟨xs, xt, xa, xc⟩, hxe, hxo, hxv⟩ := bdAt_bv (hat1 q x hx)
        obtain ⟨⟨ys, yt, ya, yc⟩, hye, hyo, hyv⟩ := bdAt_bv (hat2 q y hy)
        have M := Lib.hid (fun p : After wr => hxv.below (below_next hb p.below))
        have N := Lib.hid (fun p : After wr => hyv.below (below_next hb p.below))
        have m0 := fun p : After wr => (M.out p).c0
        have m1 := fun p : After wr => (M.out p).c1
        have m2 := fun p : After wr => (M.out p).c2
        have m3 := fun p : After wr => (M.out p).c3
        have m4 := fun p : After wr => (M.out p).c4
        have n0 := fun p : After wr => (N.out p).c0
        have n1 := fun p : After wr => (N.out p).c1
        have n2 := fun p : After wr => (N.out p).c2
        have n3 := fun p : After wr => (N.out p).c3
        have n4 := fun p : After wr => (N.out p).c4
        have C := Lib.hid (fun p : After wr => SA.out ⟨xt, xa, xc⟩ ⟨yt, ya, yc⟩ p.w (hxo.below (below_next hb p.below)) (hyo.below (below_next hb p.below)))
        have HXY := Lib.hid (show x = y ↔ (xs = ys ∧ xt = yt) by rw [← hxe, ← hye]; unfold Bv.bn; simp [Prod.ext_iff])
        have HNX := Lib.hid (fun (e : x = y) => take_eq_succ HT.out hx hy e)
        have HNE := Lib.hid (fun (e : x ≠ y) => ne_at hx hy e)
        have hk0 : (0 : Int) ≤ (q : Int) := by omega
        have hk1 : (q : Int) < (cs.length : Int) := by omega
        have hk2 : (q : Int) < (bs.length : Int) := by omega
        have hkd : decide ((q : Int) < (cs.length : Int)) = true := decide_eq_true hk1
        have HBW := Lib.hid hb
        simp only [Tv.val] at C
        simp only at m0 m1 m2 m3 m4 n0 n1 n2 n3 n4
        clear hat1 hat2 hx hy hxe hye hxo hyo hxv hyv hb
        cases he : (xs.toList == ys.toList) with
        | false =>
          have HF := Lib.hid (HNE.out (fun e => by
            have := (HXY.out.1 e).1
            rw [this] at he; simp at he))
          have hd : (xs.toList != ys.toList) = true := by unfold bne; rw [he]; rfl
          clear m0 m1 m2 m3 m4 n0 n1 n2 n3 n4 C
          obtain ⟨m0, m1, m2, m3, m4⟩ := M.out ⟨wr, Below.refl _ _⟩
          obtain ⟨n0, n1, n2, n3, n4⟩ := N.out ⟨wr, Below.refl _ _⟩
          simp only at m0 m1 m2 m3 m4 n0 n1 n2 n3 n4
          go_wp2_with fail
          go_quiet (fail)
          go_wp2_with fail
          go_ret
          exact ⟨ret_bool (eqB_no HF.out), below_drewN HBW.out _⟩
        | true =>
          have HE1 := Lib.hid ((Lib.bytes_beq_iff _ _).1 he)
          have HEQ := Lib.hid he
          clear he
          cases hr : eqT xt yt with
          | true =>
            rw [hr] at C
            have HOK := Lib.hid (HNX.out (HXY.out.2 ⟨HE1.out, eqT_iff.1 hr⟩))
            clear hr
            go_wp2_with fail
            refine wp_region_after (Below.refl _ wr) (by kernel_rfl) (by kernel_rfl) ?_
            quiet_step (fail); quiet_step (fail); quiet_step (fail); quiet_step (fail); quiet_step (fail); quiet_step (fail); quiet_step (fail); quiet_step (fail); quiet_step (fail); quiet_step (fail); quiet_step (fail)
            rw [HEQ.out]
            repeat (quiet_step ((go_at_call 15; exact after_call (C.out _))))
            refine wpQuiet_nil ?_
            intro _ hw'
            obtain ⟨⟨wq, hbq⟩, hw''⟩ := hw'
            subst hw''
            have HQ := Lib.hid (below_next HBW.out hbq)
            clear m0 m1 m2 m3 m4 n0 n1 n2 n3 n4 C hbq
            go_wp2_with fail
            go_roundw
            case rel => exact ⟨q + 1, by omega, by go_num, HOK, HQ.out⟩
            case measure => simp [intOf]; omega
          | false =>
            rw [hr] at C
            have HF := Lib.hid (HNE.out (fun e => by
              have := (HXY.out.1 e).2
              rw [eqT_true this] at hr; cases hr))
            clear hr
            go_wp2_with fail
            refine wp_region_after (Below.refl _ wr) (by kernel_rfl) (by kernel_rfl) ?_
            quiet_step (fail); quiet_step (fail); quiet_step (fail); quiet_step (fail); quiet_step (fail); quiet_step (fail); quiet_step (fail); quiet_step (fail); quiet_step (fail); quiet_step (fail); quiet_step (fail)
            rw [HEQ.out]
            repeat (quiet_step ((go_at_call 15; exact after_call (C.out _))))
            refine wpQuiet_nil ?_
            intro _ hw'
            obtain ⟨⟨wq, hbq⟩, hw''⟩ := hw'
            subst hw''
            have HQ := Lib.hid (below_next HBW.out hbq)
            clear m0 m1 m2 m3 m4 n0 n1 n2 n3 n4 C hbq
            go_wp2_with fail
            go_ret
            exact ⟨ret_bool (eqB_no HF.out), HQ.out⟩
      · have hqe : q = cs.length := by omega
        have hkd : decide ((q : Int) < (cs.length : Int)) = false := decide_eq_false (by omega)
        have hkn : ¬ (q : Int) < (cs.length : Int) := by omega
        have HEQ := Lib.hid (show cs = bs by have h := HT.out; rw [hqe, List.take_length, HL.out, List.take_length] at h; exact h)
        have HBE := Lib.hid hb
        clear hqe hb
        go_wp2_with fail
        go_ret
        exact ⟨ret_bool (eqB_yes HEQ.out), HBE.out⟩
  · have hln : ((cs.length : Int) != (bs.length : Int)) = true := by simp; omega
    have hle : ((cs.length : Int) == (bs.length : Int)) = false := by simp; omega
    have HL := Lib.hid hl
    clear hl
    go_enter Try.func10, Try.ntmps10
    go_wp2_with fail
    go_ret
    exact ⟨ret_bool (eqB_no (fun h => HL.out (by rw [h]))), Below.refl _ _⟩
end Go.Proofs.Ytedljdcliilggaa

namespace Go.Proofs.Ytedljdcliilggaa
open Go.RowKit

theorem plainL_one {t : Tm} (h : PlainT t) : PlainL [t] := fun x hx => by rw [allL_cons, allL, List.append_nil] at hx; exact h x hx
/-- What is found, put into one another. -/
def uniO (o : Option (List Bn)) : Option (List Bn) := o.map fun l => ofB (solveL l)
theorem uniO_some (o : Option (List Bn)) : (uniO o).isSome = o.isSome := by cases o <;> rfl
theorem uniO_get (o : Option (List Bn)) : (uniO o).getD [] = ofB (solveL (o.getD [])) := by cases o <;> rfl
/-- A call of two terms that is asked of the program. -/
def AskTwo (f : Nat) (Q : Option (List Bn) → World → Ending → World → Prop) : Prop := ∀ (x y : Tv) (W : World) (o : Option (List Bn)), x.ok W → y.ok W → PlainT x.t → PlainT y.t → x.t.parts ≤ 40 → y.t.parts ≤ 40 → RowU [x.t] [y.t] o →
  Calls Try.prog f #[x.val, y.val] W (Q o W)
def CanPost (o : Option (List Bn)) (w : World) (e : Ending) (w' : World) : Prop := e = .returned (.bool o.isSome) ∧ Below w.heap.size w w'
theorem tms_new1 (w : World) (x : Tv) (hx : x.ok w) (t : TypeId) : Tms (w.alloc (.cells #[.int .i64 x.t.kind, .string x.t.name, .int .i64 x.t.n, .slice x.a x.t.args.length x.c] t)) (.slice (some ⟨w.heap.size, 0, none⟩) 1 1) [x.t] := by
  have hb : Below w.heap.size w (w.alloc (.cells #[.int .i64 x.t.kind, .string x.t.name, .int .i64 x.t.n, .slice x.a x.t.args.length x.c] t)) := (Below.refl _ _).alloc (Nat.le_refl _) _
  refine ⟨_, 1, rfl, by simp, .inr ⟨w.heap.size, 0, rfl, by simp, ?_⟩⟩
  rw [RowAt, RowAt]
  have c := World.cell?_alloc_mark w #[.int .i64 x.t.kind, .string x.t.name, .int .i64 x.t.n, .slice x.a x.t.args.length x.c] t (0, 0)
  exact ⟨tv_tmAt (hx.below hb) ⟨c 0, c 1, c 2, c 3⟩, trivial⟩

set_option maxRecDepth 100000 in
set_option maxHeartbeats 8000000 in
theorem lawFinds7_of (AW : ∀ W, Calls Try.prog 6 #[] W fun e w' => e = .returned (.bool true) ∧ Below W.heap.size W w')
    (PT : AskTwo 8 RowPost) (PC : AskTwo 11 CanPost) (PU : AskTwo 12 (fun o => RowPost (uniO o)))
    (x y : Tv) (w : World) (hx : x.ok w) (hy : y.ok w) :
    Calls Try.prog 3 #[x.val, y.val] w fun e w' => e = .returned (.bool true) ∧ Below w.heap.size w w' := by
  have AW1 := Lib.hid AW
  have FX := Lib.hid (fun (W : World) (h : Below w.heap.size w W) => rfits_tm x W (hx.below h))
  have FY := Lib.hid (fun (W : World) (h : Below w.heap.size w W) => rfits_tm y W (hy.below h))
  obtain ⟨o, ho⟩ : ∃ o, fitsB x.t = true → fitsB y.t = true → RowU [x.t] [y.t] o := by
    by_cases hf : fitsB x.t = true
    · by_cases hg : fitsB y.t = true
      · obtain ⟨o, h⟩ := row_any [x.t] [y.t] rfl (plainL_one (fits_of hf).2) (plainL_one (fits_of hg).2)
        exact ⟨o, fun _ _ => h⟩
      · exact ⟨none, fun _ h => absurd h hg⟩
    · exact ⟨none, fun h => absurd h hf⟩
  have T1 := Lib.hid (fun (hf : fitsB x.t = true) (hg : fitsB y.t = true) (W : World) (h : Below w.heap.size w W) => (PT x y W o (hx.below h) (hy.below h) (fits_of hf).2 (fits_of hg).2 (fits_of hf).1 (fits_of hg).1 (ho hf hg)).mono (fun e w' ⟨u, h1, h2, h3⟩ => (show ∃ a c, e = Ending.returned (.tuple #[.slice a (o.getD []).length c, .bool o.isSome]) ∧ Bds w' (.slice a (o.getD []).length c) (o.getD []) ∧ Below W.heap.size W w' from by obtain ⟨a, c, rfl, _⟩ := id h2; exact ⟨a, c, h1, h2, h3⟩)))
  have C1 := Lib.hid (fun (hf : fitsB x.t = true) (hg : fitsB y.t = true) (W : World) (h : Below w.heap.size w W) => (PC x y W o (hx.below h) (hy.below h) (fits_of hf).2 (fits_of hg).2 (fits_of hf).1 (fits_of hg).1 (ho hf hg)).mono (fun e w' ⟨h1, h2⟩ => (show e = Ending.returned (.bool o.isSome) ∧ Below W.heap.size W w' from ⟨h1, h2⟩)))
  have U1 := Lib.hid (fun (hf : fitsB x.t = true) (hg : fitsB y.t = true) (W : World) (h : Below w.heap.size w W) => (PU x y W o (hx.below h) (hy.below h) (fits_of hf).2 (fits_of hg).2 (fits_of hf).1 (fits_of hg).1 (ho hf hg)).mono (fun e w' ⟨u, h1, h2, h3⟩ => (show ∃ a c, e = Ending.returned (.tuple #[.slice a (ofB (solveL (o.getD []))).length c, .bool o.isSome]) ∧ Bds w' (.slice a (ofB (solveL (o.getD []))).length c) (ofB (solveL (o.getD []))) ∧ Below W.heap.size W w' from by rw [uniO_get] at h2; obtain ⟨a, c, rfl, _⟩ := id h2; exact ⟨a, c, by rw [h1, uniO_some], h2, h3⟩)))
  have R1 := Lib.hid (fun (hf : fitsB x.t = true) (hg : fitsB y.t = true) (W : World) (va vb : Value) (h1 : Tms W va [x.t]) (h2 : Tms W vb [y.t]) => (rrow_any (ho hf hg) va vb W h1 h2 (fine_start (fits_of hf).2 (fits_of hg).2 (fits_of hf).1 (fits_of hg).1) rfl (fun l hl => by
    have := (row_fine (ho hf hg) rfl rfl hl (fits_of hf).2 (fits_of hg).2 (fits_of hf).1 (fits_of hg).1).2.2.2; omega)).mono (fun e w' ⟨u, h1, h2, h3⟩ => (show ∃ a c, e = Ending.returned (.tuple #[.slice a (o.getD []).length c, .bool o.isSome]) ∧ Bds w' (.slice a (o.getD []).length c) (o.getD []) ∧ Below W.heap.size W w' from by obtain ⟨a, c, rfl, _⟩ := id h2; exact ⟨a, c, h1, h2, h3⟩)))
  have S1 := Lib.hid (fun (hf : fitsB x.t = true) (hg : fitsB y.t = true) (W : World) (v : Value) (h : Bds W v (o.getD [])) => (rsolve_any v (o.getD []) W W h (Below.refl _ _) (by
    cases o with
    | none => exact soft_nil
    | some l => exact (row_fine (ho hf hg) rfl rfl rfl (fits_of hf).2 (fits_of hg).2 (fits_of hf).1 (fits_of hg).1).1) (by
    cases o with
    | none => simp
    | some l => have := (row_fine (ho hf hg) rfl rfl rfl (fits_of hf).2 (fits_of hg).2 (fits_of hf).1 (fits_of hg).1).2.2.2; simp only [Option.getD_some]; omega)).mono (fun e w' ⟨u, h1, h2, h3⟩ => (show ∃ a c, e = Ending.returned (.slice a (ofB (solveL (o.getD []))).length c) ∧ Bds w' (.slice a (ofB (solveL (o.getD []))).length c) (ofB (solveL (o.getD []))) ∧ Below W.heap.size W w' from by obtain ⟨a, c, rfl, _⟩ := id h2; exact ⟨a, c, h1, h2, h3⟩)))
  have EQ := Lib.hid (fun (u v : Value) (cs : List Bn) (W : World) (h1 : Bds W u cs) (h2 : Bds W v cs) => (requal_any u v cs cs W h1 h2).mono (fun e w' ⟨h3, h4⟩ => (show e = Ending.returned (.bool true) ∧ Below W.heap.size W w' from ⟨by rw [h3, eqB_self], h4⟩)))
  have HXO := Lib.hid (fun (W : World) (h : Below w.heap.size w W) => hx.below h)
  have HYO := Lib.hid (fun (W : World) (h : Below w.heap.size w W) => hy.below h)
  obtain ⟨os, hos⟩ : ∃ os, o.isSome = os := ⟨_, rfl⟩
  obtain ⟨ol, hol⟩ : ∃ ol, o.getD [] = ol := ⟨_, rfl⟩
  rw [hos] at T1 C1 U1 R1
  rw [hol] at T1 U1 R1 S1
  clear AW PT PC PU hx hy ho hos hol
  have hq : (os != os) = false := by cases os <;> rfl
  have hq2 : (os == os) = true := by cases os <;> rfl
  obtain ⟨xt, xa, xc⟩ := x
  obtain ⟨yt, ya, yc⟩ := y
  have TX := Lib.hid (fun (W : World) (h : Below w.heap.size w W) => tms_new1 W ⟨xt, xa, xc⟩ (HXO.out W h) 24)
  have TY := Lib.hid (fun (W : World) (h : Below w.heap.size w W) => tms_new1 W ⟨yt, ya, yc⟩ (HYO.out W h) 24)
  have hbx := box_new w (.int .i64 xt.kind) (.string xt.name) (.int .i64 xt.n) (.slice xa xt.args.length xc) 24
  have hby := box_new (w.alloc (.cells #[.int .i64 xt.kind, .string xt.name, .int .i64 xt.n, .slice xa xt.args.length xc] 24)) (.int .i64 yt.kind) (.string yt.name) (.int .i64 yt.n) (.slice ya yt.args.length yc) 24
  have hz1 : (w.alloc (.cells #[.int .i64 xt.kind, .string xt.name, .int .i64 xt.n, .slice xa xt.args.length xc] 24)).heap.size = w.heap.size + 1 := by simp
  rw [hz1] at hby
  have hBA := below_two w (.cells #[.int .i64 xt.kind, .string xt.name, .int .i64 xt.n, .slice xa xt.args.length xc] 24) (.cells #[.int .i64 yt.kind, .string yt.name, .int .i64 yt.n, .slice ya yt.args.length yc] 24)
  have hbx2 := hbx.below ((Below.refl _ _).alloc (Nat.le_refl _) (.cells #[.int .i64 yt.kind, .string yt.name, .int .i64 yt.n, .slice ya yt.args.length yc] 24)) (by rw [hz1]; omega)
  obtain ⟨wb, hwb⟩ : ∃ wb, wb = (w.alloc (.cells #[.int .i64 xt.kind, .string xt.name, .int .i64 xt.n, .slice xa xt.args.length xc] 24)).alloc (.cells #[.int .i64 yt.kind, .string yt.name, .int .i64 yt.n, .slice ya yt.args.length yc] 24) := ⟨_, rfl⟩
  have hz2 : wb.heap.size = w.heap.size + 2 := by rw [hwb]; simp
  rw [← hwb] at hby hBA hbx2
  have HBX := Lib.hid (fun (V : World) (h : Below wb.heap.size wb V) => hbx2.below h (by omega))
  have HBY := Lib.hid (fun (V : World) (h : Below wb.heap.size wb V) => hby.below h (by omega))
  have HW := Lib.hid (fun (V : World) (h : Below wb.heap.size wb V) => hBA.trans (h.mono hBA.size))
  clear hbx hby hz1 hBA hbx2 hz2
  simp only [Tv.val] at *
  go_enter Try.func3, Try.ntmps3
  go_wp2_with fail
  rw [← hwb]
  clear hwb
  refine (AW1.out _).mono ?_; rintro e w1 ⟨rfl, hb1⟩
  obtain ⟨p0, p1, p2, p3, _, _, _, _⟩ := HBX.out w1 hb1
  go_wp2_with fail
  refine (FX.out _ (HW.out _ hb1)).mono ?_; rintro e w2 ⟨rfl, hb2⟩
  replace hb2 := below_next hb1 hb2
  clear hb1 p0 p1 p2 p3
  cases hf : fitsB xt with
  | false =>
    have HE := Lib.hid (HW.out _ hb2)
    clear hb2
    go_wp2_with fail
    go_ret
    exact ⟨rfl, HE.out⟩
  | true =>
  obtain ⟨q0, q1, q2, q3, _, _, _, _⟩ := HBY.out w2 hb2
  go_wp2_with fail
  refine (FY.out _ (HW.out _ hb2)).mono ?_; rintro e w3 ⟨rfl, hb3⟩
  replace hb3 := below_next hb2 hb3
  clear hb2 q0 q1 q2 q3
  cases hg : fitsB yt with
  | false =>
    have HE := Lib.hid (HW.out _ hb3)
    clear hb3
    go_wp2_with fail
    go_ret
    exact ⟨rfl, HE.out⟩
  | true =>
  have T2 := Lib.hid (T1.out hf hg)
  have C2 := Lib.hid (C1.out hf hg)
  have U2 := Lib.hid (U1.out hf hg)
  have R2 := Lib.hid (R1.out hf hg)
  have S2 := Lib.hid (S1.out hf hg)
  clear T1 C1 U1 R1 S1 hf hg FX FY AW1
  obtain ⟨p0, p1, p2, p3, _, _, _, _⟩ := HBX.out w3 hb3
  obtain ⟨q0, q1, q2, q3, _, _, _, _⟩ := HBY.out w3 hb3
  go_wp2_with fail
  refine (T2.out _ (HW.out _ hb3)).mono ?_; rintro e w4 ⟨a4, c4, rfl, hu4, hb4⟩
  replace hb4 := below_next hb3 hb4
  have HU4 := Lib.hid hu4
  clear hb3 hu4 p0 p1 p2 p3 q0 q1 q2 q3
  have h4X := hb4.alloc hb4.size (.cells #[.int .i64 xt.kind, .string xt.name, .int .i64 xt.n, .slice xa xt.args.length xc] 24)
  have h4Y := h4X.alloc h4X.size (.cells #[.int .i64 yt.kind, .string yt.name, .int .i64 yt.n, .slice ya yt.args.length yc] 24)
  obtain ⟨p0, p1, p2, p3, _, _, _, _⟩ := HBX.out w4 hb4
  obtain ⟨q0, q1, q2, q3, _, _, _, _⟩ := HBY.out _ h4X
  have hz4 : (w4.alloc (.cells #[.int .i64 xt.kind, .string xt.name, .int .i64 xt.n, .slice xa xt.args.length xc] 24)).heap.size = w4.heap.size + 1 := by simp
  have hTX := (TX.out w4 (HW.out _ hb4)).below ((Below.refl _ _).alloc (Nat.le_refl _) (.cells #[.int .i64 yt.kind, .string yt.name, .int .i64 yt.n, .slice ya yt.args.length yc] 24))
  have hTY := TY.out (w4.alloc (.cells #[.int .i64 xt.kind, .string xt.name, .int .i64 xt.n, .slice xa xt.args.length xc] 24)) (HW.out _ h4X)
  rw [hz4] at hTY
  obtain ⟨w5, hw5⟩ : ∃ w5, w5 = (w4.alloc (.cells #[.int .i64 xt.kind, .string xt.name, .int .i64 xt.n, .slice xa xt.args.length xc] 24)).alloc (.cells #[.int .i64 yt.kind, .string yt.name, .int .i64 yt.n, .slice ya yt.args.length yc] 24) := ⟨_, rfl⟩
  try simp only at hTX hTY
  rw [← hw5] at h4Y hTX hTY
  have HTX := Lib.hid hTX
  have HTY := Lib.hid hTY
  have H5 := Lib.hid h4Y
  have H45 := Lib.hid (show Below w4.heap.size w4 w5 by rw [hw5]; exact below_two _ _ _)
  clear hTX hTY h4X h4Y hz4
  go_wp2_with fail
  rw [← hw5]
  clear hw5
  refine (R2.out _ _ _ HTX.out HTY.out).mono ?_; rintro e w6 ⟨a6, c6, rfl, hu6, hb6⟩
  have HU6 := Lib.hid hu6
  have HU4b := Lib.hid (HU4.out.below (below_next H45.out hb6))
  have H6 := Lib.hid (below_next H5.out hb6)
  clear hb4 hu6 hb6 p0 p1 p2 p3 q0 q1 q2 q3
  go_wp2_with fail
  refine (EQ.out _ _ _ _ HU4b.out HU6.out).mono ?_; rintro e w7 ⟨rfl, hb7⟩
  have H7 := Lib.hid (below_next H6.out hb7)
  have HU7 := Lib.hid (HU6.out.below hb7)
  clear hb7
  obtain ⟨p0, p1, p2, p3, _, _, _, _⟩ := HBX.out w7 H7.out
  obtain ⟨q0, q1, q2, q3, _, _, _, _⟩ := HBY.out w7 H7.out
  go_wp2_with fail
  refine (C2.out _ (HW.out _ H7.out)).mono ?_; rintro e w8 ⟨rfl, hb8⟩
  have H8 := Lib.hid (below_next H7.out hb8)
  have HU8 := Lib.hid (HU7.out.below hb8)
  clear hb8 p0 p1 p2 p3 q0 q1 q2 q3
  obtain ⟨p0, p1, p2, p3, _, _, _, _⟩ := HBX.out w8 H8.out
  obtain ⟨q0, q1, q2, q3, _, _, _, _⟩ := HBY.out w8 H8.out
  go_wp2_with fail
  refine (U2.out _ (HW.out _ H8.out)).mono ?_; rintro e w9 ⟨a9, c9, rfl, hu9, hb9⟩
  have H9 := Lib.hid (below_next H8.out hb9)
  have HU9 := Lib.hid (HU8.out.below hb9)
  have HV9 := Lib.hid hu9
  clear hb9 hu9 p0 p1 p2 p3 q0 q1 q2 q3
  go_wp2_with fail
  refine (S2.out _ _ HU9.out).mono ?_; rintro e w10 ⟨a10, c10, rfl, hu10, hb10⟩
  have H10 := Lib.hid (below_next H9.out hb10)
  have HU10 := Lib.hid hu10
  have HV10 := Lib.hid (HV9.out.below hb10)
  clear hb10 hu10
  go_wp2_with fail
  refine (EQ.out _ _ _ _ HV10.out HU10.out).mono ?_; rintro e w11 ⟨rfl, hb11⟩
  have HE := Lib.hid (HW.out _ (below_next H10.out hb11))
  clear hb11
  go_wp2_with fail
  go_ret
  exact ⟨rfl, HE.out⟩
end Go.Proofs.Ytedljdcliilggaa
