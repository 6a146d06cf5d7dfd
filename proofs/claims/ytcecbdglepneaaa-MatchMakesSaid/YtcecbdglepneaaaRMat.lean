/-
  Binds with which patterns are terms, by the reference of layer 6: More, All.
-/
import Derived.Test.YtcecbdglepneaaaMatPu
import Derived.Test.YtcecbdglepneaaaRWith
import Derived.Test.YtcecbdglepneaaaSmallTm
import Derived.Deep.RegionHeld3
namespace Go.Proofs.Ytcecbdglepneaaa
open Go.RowKit

/-- What a call that looks for binds leaves. -/
def MorePost (o : Option (List Bn)) (w : World) (e : Ending) (w' : World) : Prop := ∃ u, e = .returned (.tuple #[u, .bool o.isSome]) ∧ Bds w' u (o.getD []) ∧ Below w.heap.size w w'
theorem partsL_take_le (l : List Tm) (k : Nat) : partsL (l.take k) ≤ partsL l := by
  have h := partsL_append (l.take k) (l.drop k)
  rw [List.take_append_drop] at h
  omega

set_option maxRecDepth 100000 in
set_option maxHeartbeats 4000000 in
theorem rall_of (m : Nat) (IH : ∀ (x y : Tv) (v : Value) (l : List Bn) (w : World), x.t.parts ≤ m → x.ok w → y.ok w → Bds w v l → l.length + x.t.parts ≤ 50000 → Calls Try.prog 11 #[v, x.val, y.val] w (MorePost (moreT x.t y.t l) w))
    (va vb v : Value) (ps ts : List Tm) (l : List Bn) (w : World) (hm : ∀ p ∈ ps, p.parts ≤ m) (ha : Tms w va ps) (hb : Tms w vb ts) (hv : Bds w v l) (hl : l.length + partsL ps ≤ 50000) :
    Calls Try.prog 21 #[v, va, vb] w (MorePost (moreL ps ts l) w) := by
  have OF := Lib.hid (rof_any v l w w hv (Below.refl _ _) (by omega))
  have HIH := Lib.hid IH
  have HM := Lib.hid hm
  obtain ⟨aa, ca, rfl, hla, hra⟩ := ha.open_
  obtain ⟨ab, cb, rfl, hlb, hrb⟩ := hb.open_
  obtain ⟨av, cv, rfl, _, _⟩ := hv
  have HA := Lib.hid hra
  have HB := Lib.hid hrb
  have HPL := Lib.hid (partsL_length ps)
  clear hra hrb IH hm ha hb
  by_cases hn : ps.length = ts.length
  · have hln : ((ps.length : Int) != (ts.length : Int)) = false := by rw [hn]; simp
    have hle : ((ps.length : Int) == (ts.length : Int)) = true := by rw [hn]; simp
    have HN := Lib.hid hn
    clear hn
    go_enter Try.func21, Try.ntmps21
    go_wp2_with fail
    refine OF.out.mono ?_; rintro e w1 ⟨u1, rfl, hu1, hb1⟩
    have hbd := hu1.bds hb1 (by have := ofB_length l; omega)
    have HBD := Lib.hid hbd
    have HB1 := Lib.hid hb1
    obtain ⟨a1, c1, rfl, _, _⟩ := hbd
    clear hu1 hb1 OF
    go_wp2_with fail
    go_loopw [8, 21] (fun o i wr => ∃ (q : Nat) (ms : List Bn), q ≤ ps.length ∧ i = .int .i64 q ∧ Hid (moreL (ps.take q) (ts.take q) l = some ms) ∧ Hid (Bds wr o ms) ∧ Below w.heap.size w wr) (fun _ i _ => ps.length - (intOf i).toNat)
    case atStart => exact ⟨0, ofB l, Nat.zero_le _, rfl, Lib.hid (by rw [List.take_zero, List.take_zero, moreL_nil]), HBD, HB1.out⟩
    case round =>
      clear HBD HB1
      obtain ⟨q, ms, hq, rfl, HMS, HBD, hb⟩ := hrel
      by_cases hql : q < ps.length
      · have hqt : q < ts.length := by have := HN.out; omega
        obtain ⟨b1, o1, rfl, hlt1, hat1⟩ := HA.out.resolve_left (by intro h; rw [h] at hql; simp at hql)
        obtain ⟨b2, o2, rfl, hlt2, hat2⟩ := HB.out.resolve_left (by intro h; rw [h] at hqt; simp at hqt)
        obtain ⟨⟨xt, xa, xc⟩, hxt, hxo, hxv⟩ := hat1 q hql
        obtain ⟨⟨yt, ya, yc⟩, hyt, hyo, hyv⟩ := hat2 q hqt
        have hk0 : (0 : Int) ≤ (q : Int) := by omega
        have hk1 : (q : Int) < (ps.length : Int) := by omega
        have hk2 : (q : Int) < (ts.length : Int) := by omega
        have hkd : decide ((q : Int) < (ps.length : Int)) = true := decide_eq_true hk1
        simp only at hxt hyt
        have hlen := moreL_len _ _ _ _ HMS.out
        have hpt := partsL_take ps hql
        have hpa := partsL_take_le ps (q + 1)
        have KEEP := Lib.hid (fun (W : World) (h : Below wr.heap.size wr W) => (show (W.cell? ⟨b1, o1 + q * 4, none⟩ = some (.int .i64 xt.kind) ∧ W.cell? ⟨b1, o1 + q * 4 + 1, none⟩ = some (.string xt.name) ∧ W.cell? ⟨b1, o1 + q * 4 + 2, none⟩ = some (.int .i64 xt.n) ∧ W.cell? ⟨b1, o1 + q * 4 + 3, none⟩ = some (.slice xa xt.args.length xc)) ∧ (W.cell? ⟨b2, o2 + q * 4, none⟩ = some (.int .i64 yt.kind) ∧ W.cell? ⟨b2, o2 + q * 4 + 1, none⟩ = some (.string yt.name) ∧ W.cell? ⟨b2, o2 + q * 4 + 2, none⟩ = some (.int .i64 yt.n) ∧ W.cell? ⟨b2, o2 + q * 4 + 3, none⟩ = some (.slice ya yt.args.length yc)) from by
          have h1 := fun i => (below_next hb h).cell (p := ⟨b1, o1 + q * 4 + i, none⟩) hlt1
          have h2 := fun i => (below_next hb h).cell (p := ⟨b2, o2 + q * 4 + i, none⟩) hlt2
          exact ⟨⟨(h1 0).trans hxv.c0, (h1 1).trans hxv.c1, (h1 2).trans hxv.c2, (h1 3).trans hxv.c3⟩, ⟨(h2 0).trans hyv.c0, (h2 1).trans hyv.c1, (h2 2).trans hyv.c2, (h2 3).trans hyv.c3⟩⟩))
        have CT := Lib.hid (fun (W : World) (h : Below wr.heap.size wr W) => (HIH.out ⟨xt, xa, xc⟩ ⟨yt, ya, yc⟩ u8 ms W (by rw [show (⟨xt, xa, xc⟩ : Tv).t = ps[q] from hxt]; exact HM.out _ (List.getElem_mem hql)) (hxo.below (below_next hb h)) (hyo.below (below_next hb h)) (HBD.out.below h) (by rw [show (⟨xt, xa, xc⟩ : Tv).t = ps[q] from hxt]; omega)).mono (fun e w' ⟨u, h1, h2, h3⟩ => (show ∃ (au : Option Addr) (cu : Nat), e = Ending.returned (.tuple #[.slice au ((moreT xt yt ms).getD []).length cu, .bool (moreT xt yt ms).isSome]) ∧ Bds w' (.slice au ((moreT xt yt ms).getD []).length cu) ((moreT xt yt ms).getD []) ∧ Below wr.heap.size wr w' from by
          obtain ⟨au, cu, rfl, _⟩ := id h2
          exact ⟨au, cu, h1, h2, below_next h h3⟩)))
        have HST := Lib.hid (show moreL (ps.take (q + 1)) (ts.take (q + 1)) l = moreT xt yt ms by
          rw [moreL_take l hql hqt, HMS.out, hxt, hyt]; rfl)
        have HSP := Lib.hid (fun (h : moreL (ps.take (q + 1)) (ts.take (q + 1)) l = none) => moreL_stop (k := q + 1) (by omega) HN.out h)
        have HBW := Lib.hid hb
        have A0 := Lib.hid (show Below wr.heap.size wr wr.drew from (Below.refl _ _).drew)
        obtain ⟨⟨av8, cv8, hv8, _, _⟩⟩ : Nonempty (∃ a c, u8 = .slice a ms.length c ∧ True ∧ True) := by
          obtain ⟨a, c, h, _⟩ := HBD.out
          exact ⟨a, c, h, trivial, trivial⟩
        subst hv8
        simp only [Tv.val] at CT
        obtain ⟨om, hom⟩ : ∃ om, moreT xt yt ms = om := ⟨_, rfl⟩
        rw [hom] at CT HST
        clear hat1 hat2 hxo hyo hxv hyv hxt hyt hb hlen hpt hpa hom hlt1 hlt2
        cases om with
        | none =>
          have HF := Lib.hid (HSP.out HST.out)
          go_wp2_with fail
          have h0d := A0.out
          go_region_held3 (fun W => (W.cell? ⟨b1, o1 + q * 4, none⟩ = some (.int .i64 xt.kind) ∧ W.cell? ⟨b1, o1 + q * 4 + 1, none⟩ = some (.string xt.name) ∧ W.cell? ⟨b1, o1 + q * 4 + 2, none⟩ = some (.int .i64 xt.n) ∧ W.cell? ⟨b1, o1 + q * 4 + 3, none⟩ = some (.slice xa xt.args.length xc)) ∧ (W.cell? ⟨b2, o2 + q * 4, none⟩ = some (.int .i64 yt.kind) ∧ W.cell? ⟨b2, o2 + q * 4 + 1, none⟩ = some (.string yt.name) ∧ W.cell? ⟨b2, o2 + q * 4 + 2, none⟩ = some (.int .i64 yt.n) ∧ W.cell? ⟨b2, o2 + q * 4 + 3, none⟩ = some (.slice ya yt.args.length yc))) (first | exact KEEP.out _ A0.out | exact KEEP.out _ (by assumption))
            ((go_at_call 11; refine (CT.out _ A0.out).mono ?_; rintro e w' ⟨au, cu, rfl, hu, hn⟩))
          have HBN := Lib.hid (below_next HBW.out hn)
          clear hu hn
          go_wp2_with fail
          go_ret2
          rw [HF.out]
          exact ⟨_, rfl, Bds.none_ _ _ _, HBN.out⟩
        | some m1 =>
          go_wp2_with fail
          have h0d := A0.out
          go_region_held3 (fun W => (W.cell? ⟨b1, o1 + q * 4, none⟩ = some (.int .i64 xt.kind) ∧ W.cell? ⟨b1, o1 + q * 4 + 1, none⟩ = some (.string xt.name) ∧ W.cell? ⟨b1, o1 + q * 4 + 2, none⟩ = some (.int .i64 xt.n) ∧ W.cell? ⟨b1, o1 + q * 4 + 3, none⟩ = some (.slice xa xt.args.length xc)) ∧ (W.cell? ⟨b2, o2 + q * 4, none⟩ = some (.int .i64 yt.kind) ∧ W.cell? ⟨b2, o2 + q * 4 + 1, none⟩ = some (.string yt.name) ∧ W.cell? ⟨b2, o2 + q * 4 + 2, none⟩ = some (.int .i64 yt.n) ∧ W.cell? ⟨b2, o2 + q * 4 + 3, none⟩ = some (.slice ya yt.args.length yc))) (first | exact KEEP.out _ A0.out | exact KEEP.out _ (by assumption))
            ((go_at_call 11; refine (CT.out _ A0.out).mono ?_; rintro e w' ⟨au, cu, rfl, hu, hn⟩))
          have HBN := Lib.hid (below_next HBW.out hn)
          have HU := Lib.hid hu
          clear hu hn
          go_wp2_with fail
          go_roundw
          case rel => exact ⟨q + 1, m1, by omega, by go_num, HST, HU, HBN.out⟩
          case measure => simp [intOf]; omega
      · have hqe : q = ps.length := by omega
        have hkd : decide ((q : Int) < (ps.length : Int)) = false := decide_eq_false (by omega)
        have hkn : ¬ (q : Int) < (ps.length : Int) := by omega
        have HE := Lib.hid (show moreL ps ts l = some ms by have h := HMS.out; rw [hqe, List.take_length, HN.out, List.take_length] at h; exact h)
        have HBE := Lib.hid hb
        clear hqe hb
        go_wp2_with fail
        go_ret2
        rw [HE.out]
        exact ⟨_, rfl, HBD.out, HBE.out⟩
  · have hln : ((ps.length : Int) != (ts.length : Int)) = true := by simp; omega
    have hle : ((ps.length : Int) == (ts.length : Int)) = false := by simp; omega
    have HF := Lib.hid (moreL_short (l := l) hn)
    clear hn
    go_enter Try.func21, Try.ntmps21
    go_wp2_with fail
    go_ret2
    rw [HF.out]
    exact ⟨_, rfl, Bds.none_ _ _ _, Below.refl _ _⟩
end Go.Proofs.Ytcecbdglepneaaa
