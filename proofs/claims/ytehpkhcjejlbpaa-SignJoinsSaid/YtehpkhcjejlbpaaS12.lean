/-
  What package sign answers, as the laws of layer 10 ask it: Arity, Add, Right; Fits at the chapter's example.
  Two rows of functions joined, by package sign: Join.
  SignJoins holds for package sign as it landed: two rows of functions as one, or the first error; what is joined with what it has stays as it is; two that may each be, joined, may be.
  The program's types are laid out in memory. Nothing of its functions.
  An argument that is a term reads as a term; one that is a slice of terms, as a row of terms.
  An argument that is a function reads as a function; one that is a slice of functions, as a row of functions.
-/
import Derived.Test.YtehpkhcjejlbpaaS04
import Derived.Test.YtehpkhcjejlbpaaS06
import Derived.Test.YtehpkhcjejlbpaaS11
import Derived.Deep.RegionHeld3
import Derived.Test.YtehpkhcjejlbpaaS05
import Derived.Test.YtehpkhcjejlbpaaRows
import Derived.Deep.Slices
import Derived.ChangeSame
import Derived.Carry
import Derived.OpenShut
import Derived.Test.YtehpkhcjejlbpaaS01
namespace Go.Proofs.Ytehpkhcjejlbpaa
open Go.RowKit

theorem arityI_any : ArityI := fun v fs s W hv _ _ => parity_any v fs s W hv
theorem addI_any : AddI := fun v fs f W hv hm hf hs => padd_any v fs f W hv hf (by omega) (by have := hm.len; omega)
theorem rightI_any : RightI := fun v fs W hv hm => pright_any v fs W hv (fun f hf => by have := hm.size f hf; omega)
theorem all10 : tF10.all = [tF10, tA10] := by unfold tF10 tA10; simp [Tm.all, allL]
theorem has10F : hasFn [fn10] (headF tF10) = true := hasFn_iff.2 (List.mem_singleton.2 rfl)
theorem has10A : hasFn [fn10] (headF tA10) = false := by
  rw [← Bool.not_eq_true, hasFn_iff, List.mem_singleton]
  intro h
  have h2 := congrArg Prod.snd h
  exact absurd h2 (by decide)
theorem bad10F : badF [fn10] tF10 = false := by unfold badF; rw [has10F]; rfl
theorem bad10A : badF [fn10] tA10 = true := by unfold badF; rw [has10A]; rfl
theorem find10 : findT tF10 tA10 = some [0] := by
  rw [findT_fin, finP_eq]
  show (match finL tA10 0 [tA10] with | some q => some q | none => if eqT tF10 tA10 = true then some [] else none) = some [0]
  have h : finP tA10 tA10 = some [] := by
    rw [finP_eq]
    show (match finL tA10 0 [] with | some q => some q | none => if eqT tA10 tA10 = true then some [] else none) = some []
    rw [finL, eqT_true rfl]; rfl
  rw [finL, h]; rfl
theorem end10 {w w' : World} {e : Ending} (h : FitsG [fn10] tF10 w e w') : FitsPost [fn10] tF10 w e w' := by
  obtain ⟨code, v, p, he, hn, hb, ⟨_, _, hall⟩ | ⟨pre, hpre, q, z, rfl, hq, hz, hc, hp⟩⟩ := h
  · have := hall tA10 (by rw [all10]; simp)
    rw [bad10A] at this; cases this
  · rw [all10] at hpre
    obtain ⟨r, hr⟩ := hpre
    have hzA : z = tA10 := by
      match q, hq, hr with
      | [], _, hr =>
        have h1 : z = tF10 := (List.cons.inj hr).1
        rw [h1, bad10F] at hz; cases hz
      | [y], _, hr => exact (List.cons.inj (List.cons.inj hr).2).1
      | y :: y2 :: q2, _, hr =>
        have := congrArg List.length hr
        simp at this
    subst hzA
    have hc4 : code = 4 := by rw [hc, show tA10.name = ⟨#[97]⟩ from rfl, ar10a]; rfl
    have hp0 : p = [0] := by rw [hp, find10]; rfl
    refine ⟨v, ?_, ?_, hb⟩
    · rw [he, fits10, hc4]
    · rw [fits10, ← hp0]; exact hn
theorem fits10_any : Fits10 := fun v x W hv hx ht => by
  have h := pfits_any v [fn10] x W hv (fun f hf => by rw [List.mem_singleton.1 hf]; exact ⟨⟨by decide, by decide, by decide⟩, by decide⟩) (by simp) hx (by rw [ht]; decide)
  rw [ht] at h
  exact h.mono fun e w' hh => end10 hh
end Go.Proofs.Ytehpkhcjejlbpaa

namespace Go.Proofs.Ytehpkhcjejlbpaa
open Go.RowKit Go.Maps

/-- A row of one row. -/
def HasRow (va : Value) (V : World) (g : Nat) : Prop := g < V.heap.size ∧ V.cell? ⟨g, 0, none⟩ = some va
theorem hasRow_new (va : Value) (V : World) : HasRow va (V.alloc (.cells #[va] 22)) V.heap.size := by
  refine ⟨by simp, ?_⟩
  rw [World.cell?_alloc_new]; rfl
theorem HasRow.below {va : Value} {V V' : World} {g : Nat} (h : HasRow va V g) (hb : Below V.heap.size V V') : HasRow va V' g :=
  ⟨Nat.lt_of_lt_of_le h.1 hb.size, (hb.cell (p := ⟨g, 0, none⟩) h.1).trans h.2⟩
/-- The functions of a row, as a set. -/
def SetG (fs : List Fn) (V : World) (b : Nat) : Prop := V.ownsMap Try.prog 24 (unitElem (H := Unit)) b fs.length (fnSet fs)
theorem SetG.below {fs : List Fn} {V V' : World} {b : Nat} (h : SetG fs V b) (hb : Below V.heap.size V V') : SetG fs V' b := World.ownsMap.kept h (grown_of_below hb) (by simp)

set_option maxRecDepth 100000 in
set_option maxHeartbeats 4000000 in
theorem joinI_any : JoinI := by
  intro va vb fs bs w ha hb hma hmb
  have HFA := Lib.hid ha
  obtain ⟨aa, na, ca, rfl⟩ : ∃ a n c, va = .slice a n c := by obtain ⟨a, c, h, _⟩ := ha; exact ⟨a, _, c, h⟩
  obtain rfl := ha.news.1
  have hka : ∀ f ∈ fs, FnKey f := fun f hf => fnKey_of (ha.ok f hf) (by have := hma.size f hf; omega)
  have HKA := Lib.hid hka
  have HKB := Lib.hid (show ∀ f ∈ bs, FnKey f from fun f hf => fnKey_of (hb.ok f hf) (by have := hmb.size f hf; omega))
  have hla := hma.len
  have CAT := fun (V : World) (g : Nat) (h : Below w.heap.size w V) (hr : HasRow (.slice aa fs.length ca) V g) =>
    pconcat_fn [(.slice aa fs.length ca, fs)] g 1 V ⟨hr.1, fun k hk => by
      match k, hk with
      | 0, _ => exact ⟨hr.2, ha.below h⟩
      | k + 1, h => exact absurd (show k + 1 < 1 from h) (by omega)⟩ (by simp) (by simp) (by simp [flatF]; omega)
  have FL : flatF [((.slice aa fs.length ca : Value), fs)] = fs := by simp [flatF]
  rw [FL] at CAT
  have C1 := Lib.hid (fun (V : World) (g : Nat) (h : Below w.heap.size w V) (hr : HasRow (.slice aa fs.length ca) V g) => (CAT V g h hr).mono fun e V' hh => (show ∃ u n c, e = .returned (.slice u n c) ∧ Below w.heap.size w V' ∧ Fus V' (.slice u n c) fs from by
    obtain ⟨u, h1, h2, h3⟩ := hh
    have h4 := h2.fus (by omega)
    obtain ⟨a, c, rfl, _⟩ := id h4
    exact ⟨a, _, c, h1, below_next h h3, h4⟩))
  have S3 := Lib.hid (fun (V : World) (u : Value) (h : Below w.heap.size w V) (hr : Fus V u fs) => (psetOf_any _ fs V (ha.below h) hka (by omega)).mono fun e V' hh => (show ∃ b, e = .returned (.map (some b)) ∧ Below w.heap.size w V' ∧ SetG fs V' b ∧ Fus V' u fs from by
    obtain ⟨b, h1, h2, h3⟩ := hh
    exact ⟨b, h1, below_next h h3, h2, hr.below h3⟩))
  have HAS := Lib.hid (fun (V : World) (b : Nat) (x : Fn) (hx : FnKey x) (h : SetG fs V b) => phas_fn b fs.length fs x V h hka hx)
  have ADD := Lib.hid (fun (V : World) (u : Value) (os : List Fn) (x : Fn) (hu : Fus V u os) (hx : FnOk x) (hs : x.1.size ≤ 1000) (hl : os.length ≤ 1000) => padd_any u os x V hu hx (by omega) hl)
  have HA0 := Lib.hid (show Below w.heap.size w (w.alloc (.cells #[.slice aa fs.length ca] 22)) from (Below.refl _ _).alloc (Nat.le_refl _) _)
  have HR0 := Lib.hid (hasRow_new (.slice aa fs.length ca) w)
  have HMS := Lib.hid (fun (f : Fn) (hf : f ∈ bs) => hmb.size f hf)
  have HBO := Lib.hid hb.ok
  obtain ⟨ab, nb, cb, rfl⟩ : ∃ a n c, vb = .slice a n c := by obtain ⟨a, c, h, _⟩ := hb; exact ⟨a, _, c, h⟩
  obtain ⟨ab', cb', hvb', hlb, hrow⟩ := hb
  cases hvb'
  have HRB := Lib.hid hrow
  have HMA := Lib.hid hma
  clear CAT FL hka ha hma hmb hrow HKA
  go_enter Try.func15, Try.ntmps15
  go_wp2_with fail
  refine (C1.out _ _ HA0.out HR0.out).mono ?_; rintro e w1 ⟨au, nu, cu, rfl, hb1, hu1⟩
  go_wp2_with fail
  refine (S3.out _ _ hb1 hu1).mono ?_; rintro e w2 ⟨bm, rfl, hb2, hs2, hu2⟩
  have HB2 := Lib.hid hb2
  have HS2 := Lib.hid hs2
  have HU2 := Lib.hid hu2
  clear hb1 hu1 hb2 hs2 hu2 C1 S3 HA0 HR0
  go_wp2_with fail
  go_loopw [6, 19] (fun u i wr => ∃ (k : Nat) (os : List Fn), k ≤ bs.length ∧ i = .int .i64 k ∧ Hid (Fus wr u os) ∧ Hid (joinR fs fs bs = joinR fs os (bs.drop k)) ∧ os.length ≤ 940 ∧ Hid (SetG fs wr bm) ∧ Hid (Below w.heap.size w wr)) (fun _ i _ => bs.length - (intOf i).toNat)
  case atStart => exact ⟨0, fs, Nat.zero_le _, rfl, HU2, Lib.hid rfl, by omega, HS2, HB2⟩
  case round =>
    obtain ⟨k, os, hk, rfl, HU, HJ, ho, HS, HB⟩ := hrel
    by_cases hkl : k < bs.length
    · obtain ⟨b, o, rfl, hlt, hat⟩ := HRB.out.resolve_left (by intro h; rw [h] at hkl; simp at hkl)
      obtain ⟨x, hx⟩ : ∃ x, bs[k]? = some x := ⟨_, List.getElem?_eq_getElem hkl⟩
      have hA := hat k x hx
      have m0 := (HB.out.cell (p := ⟨b, o + k * 2, none⟩) hlt).trans hA.c0
      have m1 := (HB.out.cell (p := ⟨b, o + k * 2 + 1, none⟩) hlt).trans hA.c1
      have hk0 : (0 : Int) ≤ (k : Int) := by omega
      have hk1 : (k : Int) < (bs.length : Int) := by omega
      have hBA := (Below.refl wr.heap.size wr).alloc (Nat.le_refl _) (.cells #[.string x.1, .int .i64 x.2] 24)
      have HBA := Lib.hid hBA
      have HX := Lib.hid hx
      have C := Lib.hid (HAS.out _ bm x (HKB.out x (List.mem_of_getElem? hx)) (HS.out.below hBA))
      have AD := Lib.hid (fun (W : World) (h : Below wr.heap.size wr W) => ADD.out W u6 os x (HU.out.below h) (HBO.out x (List.mem_of_getElem? hx)) (HMS.out x (List.mem_of_getElem? hx)) (by omega))
      have HP := Lib.hid (fun W (h : Below (wr.heap.size + 1) (wr.alloc (.cells #[.string x.1, .int .i64 x.2] 24)) W) => pair_after h)
      have J1 := Lib.hid (fun h => HJ.out.trans (join_has (os := os) hx h))
      have J2 := Lib.hid (fun (h : hasFn fs x = false) (h0 : addE os x = 0) => HJ.out.trans (join_add hx h h0))
      have J3 := Lib.hid (fun (h : hasFn fs x = false) (h0 : addE os x ≠ 0) => HJ.out.trans (join_err hx h h0))
      have HL := Lib.hid (fun h0 : addE os x = 0 => (show os.length + 1 ≤ 940 by have := (addE_zero.1 h0).2.2; omega))
      clear hat hx hA hBA
      obtain ⟨a6, n6, c6, rfl⟩ : ∃ a n c, u6 = Value.slice a n c := by obtain ⟨a, c, h, _⟩ := HU.out; exact ⟨a, _, c, h⟩
      obtain ⟨xs, xn⟩ := x
      simp only at m0 m1 HBA HP
      unfold fnVal at C AD
      simp only at C AD
      cases hh : hasFn fs (xs, xn) with
      | true =>
        rw [hh] at C
        have HJ1 := Lib.hid (J1.out hh)
        clear hh J1 J2 J3 AD
        go_wp2_with fail
        refine C.out.mono ?_; rintro e w3 ⟨rfl, hb3⟩
        have HB3 := Lib.hid (below_next HBA.out hb3)
        clear hb3
        go_wp2_with fail
        go_roundw
        case rel => exact ⟨k + 1, os, by omega, by go_num, Lib.hid (HU.out.below HB3.out), HJ1, ho, Lib.hid (HS.out.below HB3.out), Lib.hid (below_next HB.out HB3.out)⟩
        case measure => simp [intOf]; omega
      | false =>
        rw [hh] at C
        have HJ2 := Lib.hid (J2.out hh)
        have HJ3 := Lib.hid (J3.out hh)
        clear hh J1 J2 J3
        go_wp2_with fail
        refine C.out.mono ?_; rintro e w3 ⟨rfl, hb3⟩
        have HB3 := Lib.hid (below_next HBA.out hb3)
        obtain ⟨q0, q1, _, _⟩ := HP.out w3 (hb3.mono (by simp))
        have A1 := Lib.hid (AD.out w3 HB3.out)
        clear hb3
        go_wp2_with fail
        refine A1.out.mono ?_; rintro e w4 ⟨u, rfl, hu, hb4⟩
        have HU4 := Lib.hid hu
        have HB4 := Lib.hid (below_next HB3.out hb4)
        clear hu hb4
        by_cases h0 : addE os (xs, xn) = 0
        · have HJ4 := Lib.hid (HJ2.out h0)
          have HO := Lib.hid (HL.out h0)
          have HU5 := Lib.hid (show Fus w4 u (os ++ [(xs, xn)]) from by rw [← addL_ok h0]; exact HU4.out)
          rw [h0]
          clear h0
          go_wp2_with fail
          go_roundw
          case rel => exact ⟨k + 1, os ++ [(xs, xn)], by omega, by go_num, HU5, HJ4, by rw [List.length_append, List.length_singleton]; exact HO.out, Lib.hid (HS.out.below HB4.out), Lib.hid (below_next HB.out HB4.out)⟩
          case measure => simp [intOf]; omega
        · have HJ4 := Lib.hid (HJ3.out h0)
          obtain ⟨n, hn⟩ : ∃ n, addE os (xs, xn) = n := ⟨_, rfl⟩
          rw [hn] at h0 HJ4 ⊢
          have h0' : (n != 0) = true := by simpa using h0
          clear hn h0 HL HJ2 HJ3
          have HB5 := Lib.hid (below_next HB.out HB4.out)
          go_wp2_with fail
          go_ret2
          exact ⟨.slice none 0 0, by rw [show joinE fs bs = n from by unfold joinE; rw [HJ4.out]]; rfl, by rw [show joinL fs bs = [] from by unfold joinL; rw [HJ4.out]]; exact Fus.none_ _ _ _, HB5.out⟩
    · have hke : k = bs.length := by omega
      have HJ0 := Lib.hid (show joinR fs fs bs = (0, os) by rw [HJ.out, hke, List.drop_length, joinR])
      clear hke
      go_wp2_with fail
      go_ret2
      exact ⟨u6, by rw [show joinE fs bs = 0 from by unfold joinE; rw [HJ0.out]]; rfl, by rw [show joinL fs bs = os from by unfold joinL; rw [HJ0.out]]; exact HU.out, HB.out⟩
end Go.Proofs.Ytehpkhcjejlbpaa

namespace Go.Proofs.Ytehpkhcjejlbpaa
open Go.RowKit

theorem lawJoins10_any (va vb : Value) (fs bs : List Fn) (w : World) (ha : Fus w va fs) (hb : Fus w vb bs) :
    Calls Try.prog 4 #[va, vb] w fun e w' => e = .returned (.bool true) ∧ Below w.heap.size w w' :=
  lawJoins10_of arityI_any fits10_any joinI_any rightI_any va vb fs bs w ha hb
end Go.Proofs.Ytehpkhcjejlbpaa

namespace Go.Proofs.Ytehpkhcjejlbpaa
open Go.ChangeShapes Go.WideShapes Go.RowKit Go.Deep

theorem laidOut : laidOutB Try.prog = true := by kernel_rfl
end Go.Proofs.Ytehpkhcjejlbpaa

namespace Go.Proofs.Ytehpkhcjejlbpaa
open Go.ChangeShapes Go.WideShapes Go.RowKit Go.Deep

theorem cellsTerm : Try.prog.cellsOf 40 = 4 := by kernel_rfl
theorem cellsInt : Try.prog.cellsOf 3 = 1 := by kernel_rfl
theorem cellsString : Try.prog.cellsOf 9 = 1 := by kernel_rfl
theorem cellsTerms : Try.prog.cellsOf 38 = 1 := by kernel_rfl
instance : Inhabited Tv := ⟨⟨default, none, 0⟩⟩

section
variable {H : Type} {enc : TypeId × Value → H} {w : World} {base : Nat} {spare : Nat → Bool} {held : Bool}

theorem tvAt_cells {a : Addr} {v : Tv} (h : w.cells? base a 4 = some v.cells) : w.cell? (a.add 0) = some (.int .i64 v.t.kind) ∧ w.cell? (a.add 1) = some (.string v.t.name) ∧ w.cell? (a.add 2) = some (.int .i64 v.t.n) ∧ w.cell? (a.add 3) = some (.slice v.a v.t.args.length v.c) := by
  obtain ⟨_, _, hat⟩ := World.cells?_some h
  exact ⟨by rw [hat 0 (by omega)]; rfl, by rw [hat 1 (by omega)]; rfl, by rw [hat 2 (by omega)]; rfl, by rw [hat 3 (by omega)]; rfl⟩

/-- A slice of terms, its elements read one by one. -/
theorem args_of {fuel : Nat} (ih : ∀ n, n < fuel → ∀ (cs : List Value) (x : DataW H × List MemPlace), DataW.trod enc Try.prog w base spare held n 40 cs = some x → ∃ v : Tv, cs = v.cells ∧ v.ok w)
    {u : Value} {x : DataW H × List MemPlace} (h : DataW.trod enc Try.prog w base spare held fuel 38 [u] = some x) : ∃ (a : Option Addr) (c : Nat) (ts : List Tm), u = .slice a ts.length c ∧ Args w a c ts := by
  rcases DataW.trod_slice Try.underlying38 h with ⟨hcs, _⟩ | ⟨a, len, cap, elems, rest, n, rfl, hcs, _, _, hl, hm, hlen, hel, _, _⟩
  · simp at hcs
    subst hcs
    exact ⟨none, 0, [], rfl, by simp, .inl rfl⟩
  · simp at hcs
    subst hcs
    have each : ∀ i, i < len → ∃ v : Tv, v.ok w ∧ w.cells? base (a.add (i * 4)) 4 = some v.cells := fun i hi => by
      have h1 := hel i hi
      rw [List.getElem?_eq_getElem (by omega), cellsTerm] at h1
      obtain ⟨cs', h2, h3⟩ := Option.bind_eq_some_iff.1 h1
      obtain ⟨v, rfl, hv⟩ := ih n (by omega) cs' _ h3
      exact ⟨v, hv, h2⟩
    obtain ⟨T, hT⟩ := choose_lt each
    refine ⟨some a, cap, (List.range len).map fun i => (T i).t, by simp, ⟨by simp; unfold maxLen at hm; omega, by simpa using hl⟩, ?_⟩
    by_cases h0 : len = 0
    · left; simp [h0]
    · right
      obtain ⟨b, off, spot⟩ := a
      have hspot : spot = none := by
        have := World.cell?_spot (tvAt_cells (hT 0 (by omega)).2).1
        simpa [Addr.add] using this
      subst hspot
      have cells : ∀ i, i < len → TvAt w b (off + i * 4) (T i) := fun i hi => by
        obtain ⟨c0, c1, c2, c3⟩ := tvAt_cells (hT i hi).2
        rw [add_plain, add_plain] at c0 c1 c2 c3
        exact ⟨by simpa using c0, c1, c2, c3⟩
      refine ⟨b, off, rfl, lt_of_cell (cells 0 (by omega)).c0, rowAt_of fun {j} hj => ?_⟩
      have hjl : j < len := by simpa using hj
      rw [List.getElem_map, List.getElem_range]
      exact tv_tmAt (hT j hjl).1 (cells j hjl)

set_option maxRecDepth 100000 in
theorem tv_of_trod : ∀ (fuel : Nat) (cs : List Value) (x : DataW H × List MemPlace), DataW.trod enc Try.prog w base spare held fuel 40 cs = some x → ∃ v : Tv, cs = v.cells ∧ v.ok w := by
  intro fuel
  induction fuel using Nat.strongRecOn with
  | ind fuel ih =>
    intro cs x h
    have hl : cs.length = 4 := by
      obtain ⟨xs, m, _, _, hl, _⟩ := DataW.trod_struct Try.underlying40 h
      rw [hl, cellsTerm]
    obtain ⟨xs, m, hm, _, _, hxl, hf⟩ := DataW.trod_struct Try.underlying40 h
    match cs, hl with
    | [c0, c1, c2, c3], _ =>
      match xs, hxl with
      | [x0, x1, x2, x3], _ =>
        have f0 : DataW.trod enc Try.prog w base spare held m 3 (([c0, c1, c2, c3].drop 0).take (Try.prog.cellsOf 3)) = some x0 := hf 0 _ rfl
        have f1 : DataW.trod enc Try.prog w base spare held m 9 (([c0, c1, c2, c3].drop 1).take (Try.prog.cellsOf 9)) = some x1 := hf 1 _ rfl
        have f2 : DataW.trod enc Try.prog w base spare held m 3 (([c0, c1, c2, c3].drop 2).take (Try.prog.cellsOf 3)) = some x2 := hf 2 _ rfl
        have f3 : DataW.trod enc Try.prog w base spare held m 38 (([c0, c1, c2, c3].drop 3).take (Try.prog.cellsOf 38)) = some x3 := hf 3 _ rfl
        rw [cellsInt] at f0 f2
        rw [cellsString] at f1
        rw [cellsTerms] at f3
        obtain ⟨k, e0, _, wk⟩ := DataW.trod_int Try.underlying3 f0
        obtain ⟨s, e1, _, ws⟩ := DataW.trod_string Try.underlying9 f1
        obtain ⟨n, e2, _, wn⟩ := DataW.trod_int Try.underlying3 f2
        have f3' : DataW.trod enc Try.prog w base spare held m 38 [c3] = some x3 := f3
        obtain ⟨a, c, ts, e3, ha⟩ := args_of (fun q hq => ih q (by omega)) f3'
        obtain rfl : c0 = .int .i64 k := by simpa using e0
        obtain rfl : c1 = .string s := by simpa using e1
        obtain rfl : c2 = .int .i64 n := by simpa using e2
        have bk := bounds_i64 wk
        have bn := bounds_i64 wn
        subst e3
        exact ⟨⟨.mk k s n ts, a, c⟩, rfl, ⟨bk.1, bk.2, bn.1, bn.2, by unfold maxLen at ws; exact ws⟩, ha⟩
end

set_option maxRecDepth 100000 in
theorem open_term {H : Type} {enc : TypeId × Value → H} {W : World} {r : Reach} {b0 : Nat} {v : Value} {d : DataW H} {p : List MemPlace} (hv : Value.okWide Try.prog W r b0 40 v)
    (h : DataW.Trod enc Try.prog W 0 (fun _ => true) true 40 v d p) (_hlt : ∀ x ∈ p, x.block < W.heap.size) : ∃ t : Tv, v = t.val ∧ t.ok W := by
  obtain ⟨cs, rfl, _⟩ := okWide_struct Try.underlying40 hv
  obtain ⟨fuel, hf⟩ := h
  obtain ⟨t, ht, hk⟩ := tv_of_trod fuel _ _ hf
  refine ⟨t, ?_, hk⟩
  have : cs.toList = t.cells := by simpa [Value.cells] using ht
  unfold Tv.val
  congr 1
  apply Array.ext'
  exact this
set_option maxRecDepth 100000 in
theorem open_terms {H : Type} {enc : TypeId × Value → H} {W : World} {r : Reach} {b0 : Nat} {v : Value} {d : DataW H} {p : List MemPlace} (hv : Value.okWide Try.prog W r b0 38 v)
    (h : DataW.Trod enc Try.prog W 0 (fun _ => true) true 38 v d p) (_hlt : ∀ x ∈ p, x.block < W.heap.size) : ∃ ts, Tms W v ts := by
  obtain ⟨a0, len, cap, rfl⟩ := okWide_slice Try.underlying38 hv
  obtain ⟨fuel, hf⟩ := h
  have hf : DataW.trod enc Try.prog W 0 (fun _ => true) true fuel 38 [.slice a0 len cap] = some (d, p) := by simpa [Value.cells] using hf
  obtain ⟨a, c, ts, e, ha⟩ := args_of (fun n _ => tv_of_trod n) hf
  exact ⟨ts, a, c, e, ha⟩
end Go.Proofs.Ytehpkhcjejlbpaa

namespace Go.Proofs.Ytehpkhcjejlbpaa
open Go.ChangeShapes Go.WideShapes Go.RowKit Go.Deep

theorem cellsFun : Try.prog.cellsOf 24 = 2 := by kernel_rfl
def fnCells (f : Fn) : List Value := [.string f.1, .int .i64 f.2]
instance inhabFnOpen : Inhabited Fn := ⟨(ByteArray.empty, 0)⟩

section
variable {H : Type} {enc : TypeId × Value → H} {w : World}

theorem fnAt_cells {a : Addr} {f : Fn} {base : Nat} (h : w.cells? base a 2 = some (fnCells f)) : w.cell? (a.add 0) = some (.string f.1) ∧ w.cell? (a.add 1) = some (.int .i64 f.2) := by
  obtain ⟨_, _, hat⟩ := World.cells?_some h
  exact ⟨by rw [hat 0 (by omega)]; rfl, by rw [hat 1 (by omega)]; rfl⟩

set_option maxRecDepth 100000 in
theorem fn_of_trod (fuel : Nat) (cs : List Value) (x : DataW H × List MemPlace) (h : DataW.trod enc Try.prog w 0 (fun _ => true) true fuel 24 cs = some x) : ∃ f : Fn, cs = fnCells f ∧ FnOk f := by
  have hl : cs.length = 2 := by
    obtain ⟨xs, m, _, _, hl, _⟩ := DataW.trod_struct Try.underlying24 h
    rw [hl, cellsFun]
  obtain ⟨xs, m, hm, _, _, hxl, hf⟩ := DataW.trod_struct Try.underlying24 h
  match cs, hl with
  | [c0, c1], _ =>
    match xs, hxl with
    | [x0, x1], _ =>
      have f0 : DataW.trod enc Try.prog w 0 (fun _ => true) true m 9 (([c0, c1].drop 0).take (Try.prog.cellsOf 9)) = some x0 := hf 0 _ rfl
      have f1 : DataW.trod enc Try.prog w 0 (fun _ => true) true m 3 (([c0, c1].drop 1).take (Try.prog.cellsOf 3)) = some x1 := hf 1 _ rfl
      rw [cellsString] at f0
      rw [cellsInt] at f1
      obtain ⟨s, e0, _, ws⟩ := DataW.trod_string Try.underlying9 f0
      obtain ⟨n, e1, _, wn⟩ := DataW.trod_int Try.underlying3 f1
      obtain rfl : c0 = .string s := by simpa using e0
      obtain rfl : c1 = .int .i64 n := by simpa using e1
      have bn := bounds_i64 wn
      exact ⟨(s, n), rfl, ⟨by unfold maxLen at ws; exact ws, bn.1, bn.2⟩⟩
end

set_option maxRecDepth 100000 in
theorem open_fun {H : Type} {enc : TypeId × Value → H} {W : World} {r : Reach} {b0 : Nat} {v : Value} {d : DataW H} {p : List MemPlace} (hv : Value.okWide Try.prog W r b0 24 v)
    (h : DataW.Trod enc Try.prog W 0 (fun _ => true) true 24 v d p) (_hlt : ∀ x ∈ p, x.block < W.heap.size) : ∃ f : Fn, v = fnVal f ∧ FnOk f := by
  obtain ⟨cs, rfl, _⟩ := okWide_struct Try.underlying24 hv
  obtain ⟨fuel, hf⟩ := h
  obtain ⟨f, ht, hk⟩ := fn_of_trod fuel _ _ hf
  refine ⟨f, ?_, hk⟩
  have : cs.toList = fnCells f := by simpa [Value.cells] using ht
  unfold fnVal
  congr 1
  apply Array.ext'
  exact this
set_option maxRecDepth 100000 in
theorem open_funs {H : Type} {enc : TypeId × Value → H} {W : World} {r : Reach} {b0 : Nat} {v : Value} {d : DataW H} {p : List MemPlace} (hv : Value.okWide Try.prog W r b0 22 v)
    (h : DataW.Trod enc Try.prog W 0 (fun _ => true) true 22 v d p) (_hlt : ∀ x ∈ p, x.block < W.heap.size) : ∃ fs, Fus W v fs := by
  obtain ⟨a0, len, cap, rfl⟩ := okWide_slice Try.underlying22 hv
  obtain ⟨fuel, hf⟩ := h
  have hf : DataW.trod enc Try.prog W 0 (fun _ => true) true fuel 22 [.slice a0 len cap] = some (d, p) := by simpa [Value.cells] using hf
  rcases DataW.trod_slice Try.underlying22 hf with ⟨hcs, _⟩ | ⟨a, len, cap, elems, rest, n, rfl, hcs, _, _, hl, hm, hlen, hel, _, _⟩
  · rw [List.singleton_inj.1 hcs]
    exact ⟨[], Fus.none_ _ _ _⟩
  · simp at hcs
    obtain ⟨rfl, rfl, rfl⟩ := hcs
    have each : ∀ i, i < len → ∃ f : Fn, FnOk f ∧ W.cells? 0 (a.add (i * 2)) 2 = some (fnCells f) := fun i hi => by
      have h1 := hel i hi
      rw [List.getElem?_eq_getElem (by omega), cellsFun] at h1
      obtain ⟨cs', h2, h3⟩ := Option.bind_eq_some_iff.1 h1
      obtain ⟨f, rfl, hf⟩ := fn_of_trod n cs' _ h3
      exact ⟨f, hf, h2⟩
    obtain ⟨T, hT⟩ := choose_lt each
    refine ⟨(List.range len).map fun i => T i, some a, cap, by simp, by simp; unfold maxLen at hm; omega, ?_⟩
    by_cases h0 : len = 0
    · left; simp [h0]
    · right
      obtain ⟨b, off, spot⟩ := a
      have hspot : spot = none := by
        have := World.cell?_spot (fnAt_cells (hT 0 (by omega)).2).1
        simpa [Addr.add] using this
      subst hspot
      have cells : ∀ i, i < len → FnAt W (T i) b (off + i * 2) := fun i hi => by
        obtain ⟨c0, c1⟩ := fnAt_cells (hT i hi).2
        rw [add_plain, add_plain] at c0 c1
        exact ⟨(hT i hi).1, by simpa using c0, c1⟩
      refine ⟨b, off, rfl, (cells 0 (by omega)).lt, fun j x hj => ?_⟩
      rw [List.getElem?_map] at hj
      obtain ⟨i, hi, rfl⟩ := Option.map_eq_some_iff.1 hj
      obtain ⟨hil, rfl⟩ := List.getElem?_eq_some_iff.1 hi
      have hjl : j < len := by simpa using hil
      rw [List.getElem_range]
      exact cells j hjl
end Go.Proofs.Ytehpkhcjejlbpaa
