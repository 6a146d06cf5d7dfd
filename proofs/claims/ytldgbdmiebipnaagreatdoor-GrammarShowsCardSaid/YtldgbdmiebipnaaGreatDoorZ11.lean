/-
  Whether trees are alike but for places, by the reference of layer 11: Alike.
  Whether items are alike but for places, by the reference of layer 11: Same.
  Slices that read as lists of whole numbers: places. Nothing of the program's functions.
  What reads so in one memory and reads so in another; memory with one block out of sight. No function of the program.
  What stands at a place, as data; the zero term; what a call leaves that answers a term, or none. No function of the program.
  Boxes of four cells that are written, and what stands at a place in parts. Nothing of the program's functions.
  Rows of terms that the call itself has made: their cells, stores into them, and rows in memory as values. No function of the program.
  Terms that a call has made, and where they stand on: what the call was handed, and the blocks that it has made itself. No function of the program.
  What a call leaves that makes a term. No function of the program.
  Terms that are made: Of of the reference of layer 3.
-/
import Derived.Test.YtldgbdmiebipnaaGreatDoorZ03
import Derived.Test.YtldgbdmiebipnaaGreatDoorZ06
import Derived.Deep.RegionHeld3
import Derived.BigQuiet
import Derived.Test.YtldgbdmiebipnaaGreatDoorZ01
import Derived.Test.YtldgbdmiebipnaaGreatDoorZ02
namespace Go.Proofs.YtldgbdmiebipnaaGreatDoor
open Go.RowKit

set_option maxRecDepth 100000 in
set_option maxHeartbeats 400000 in
theorem ralike_any (m : Nat) : ∀ (va vb : Value) (xs ys : List Tr) (w : World), partsR xs ≤ m → Trs w va xs → Trs w vb ys →
    Calls Tryz.prog 24 #[va, vb] w fun e w' => e = .returned (.bool (alR xs ys)) ∧ ∃ r, w' = w.drewN r := by
  induction m using Nat.strongRecOn with
  | ind m ih =>
    intro va vb xs ys w hm hx hy
    obtain ⟨a, c, rfl, hal, _, hxo⟩ := hx.open_
    obtain ⟨a', c', rfl, hbl, _, hyo⟩ := hy.open_
    have IH := Lib.hid (fun (j : Nat) (hj : j < xs.length) (x y : Rv) (W : World) (hxe : x.t = xs[j]) (hxk : x.ok W) (hyk : y.ok W) => ih (partsR x.t.args) (by
      have := partsR_get xs hj
      have := trParts_eq xs[j]
      rw [hxe]; omega) (.slice x.a x.t.args.length x.c) (.slice y.a y.t.args.length y.c) x.t.args y.t.args W (Nat.le_refl _) ⟨x.a, x.c, rfl, hxk.2⟩ ⟨y.a, y.c, rfl, hyk.2⟩)
    clear ih hm hx hy
    by_cases hlen : xs.length = ys.length
    · have hq : ((xs.length : Int) != (ys.length : Int)) = false := by rw [hlen]; simp
      have HXO := Lib.hid hxo
      have HYO := Lib.hid hyo
      clear hxo hyo
      go_enter Tryz.func24, Tryz.ntmps24
      go_wp2_with fail
      go_loopw [13] (fun i wr => ∃ j d : Nat, j ≤ xs.length ∧ i = .int .i64 j ∧ bareL (xs.take j) = bareL (ys.take j) ∧ Hid (wr = w.drewN d)) (fun i _ => xs.length - (intOf i).toNat)
      case atStart => exact ⟨0, 0, Nat.zero_le _, rfl, rfl, Lib.hid rfl⟩
      case round =>
        obtain ⟨j, d, hj, rfl, hbe, HW⟩ := hrel
        have hb : Below w.heap.size w wr := by rw [HW.out]; exact below_drewN (Below.refl _ _) d
        have HBE := Lib.hid hbe
        clear hbe
        by_cases hj1 : j < xs.length
        · have hj2 : j < ys.length := by omega
          have hi1 : (j : Int) < (xs.length : Int) := by omega
          have hi2 : (j : Int) < (ys.length : Int) := by omega
          have hi0 : (0 : Int) ≤ (j : Int) := by omega
          rcases HXO.out with h | ⟨b, o, rfl, hlt, hX⟩
          · rw [h] at hj1; cases hj1
          rcases HYO.out with h | ⟨b', o', rfl, hlt', hY⟩
          · rw [h] at hj2; cases hj2
          obtain ⟨x, hxt, hxk, hxa⟩ := hX j xs[j] (List.getElem?_eq_getElem hj1)
          obtain ⟨y, hyt, hyk, hya⟩ := hY j ys[j] (List.getElem?_eq_getElem hj2)
          have KEEP := Lib.hid (fun (W : World) (h : Below w.heap.size w W) => (show W.cell? ⟨b, o + j * 5, none⟩ = some (.int .i64 x.t.kind) ∧ W.cell? ⟨b, o + j * 5 + 1, none⟩ = some (.string x.t.text) ∧ W.cell? ⟨b, o + j * 5 + 2, none⟩ = some (.int .i64 x.t.n) ∧ W.cell? ⟨b, o + j * 5 + 4, none⟩ = some (.slice x.a x.t.args.length x.c) ∧
            W.cell? ⟨b', o' + j * 5, none⟩ = some (.int .i64 y.t.kind) ∧ W.cell? ⟨b', o' + j * 5 + 1, none⟩ = some (.string y.t.text) ∧ W.cell? ⟨b', o' + j * 5 + 2, none⟩ = some (.int .i64 y.t.n) ∧ W.cell? ⟨b', o' + j * 5 + 4, none⟩ = some (.slice y.a y.t.args.length y.c) from
            ⟨(hxa.below h).c0, (hxa.below h).c1, (hxa.below h).c2, (hxa.below h).c4, (hya.below h).c0, (hya.below h).c1, (hya.below h).c2, (hya.below h).c4⟩))
          have C := Lib.hid (fun (q : Nat) => (IH.out j hj1 x y (wr.drewN q) hxt (hxk.below (below_drewN hb q)) (hyk.below (below_drewN hb q))).mono fun e w' hh => (show e = .returned (.bool (alR x.t.args y.t.args)) ∧ ∃ r, w' = wr.drewN r from ⟨hh.1, by obtain ⟨r, hr⟩ := hh.2; exact ⟨q + r, by rw [hr]; simp [World.drewN, Nat.add_assoc]⟩⟩))
          have HBX := Lib.hid (fun (h : x.t.bare = y.t.bare) => (show bareL (xs.take (j + 1)) = bareL (ys.take (j + 1)) by rw [bareL_take_succ hj1, bareL_take_succ hj2, HBE.out, ← hxt, ← hyt, h]))
          have HNE := Lib.hid (fun (h : x.t.bare ≠ y.t.bare) => alR_false (xs := xs) (ys := ys) fun e => h (by rw [hxt, hyt]; exact bareL_at e hj1 hj2))
          obtain ⟨k0, k1, k2, k4, l0, l1, l2, l4⟩ := KEEP.out wr hb
          have hways := tr_ways x.t y.t
          have HNK := Lib.hid (fun (h : ¬ (x.t.kind = y.t.kind ∧ x.t.text = y.t.text ∧ x.t.n = y.t.n ∧ bareL x.t.args = bareL y.t.args)) => HNE.out fun e => h (bare_head e))
          have HEQ := Lib.hid (fun (h1 : x.t.kind = y.t.kind) (h2 : x.t.text = y.t.text) (h3 : x.t.n = y.t.n) (h4 : bareL x.t.args = bareL y.t.args) => HBX.out (bare_of h1 h2 h3 h4))
          obtain ⟨kx, hkx⟩ : ∃ k, x.t.kind = k := ⟨_, rfl⟩
          obtain ⟨ky, hky⟩ : ∃ k, y.t.kind = k := ⟨_, rfl⟩
          obtain ⟨sx, hsx⟩ : ∃ k, x.t.text = k := ⟨_, rfl⟩
          obtain ⟨sy, hsy⟩ : ∃ k, y.t.text = k := ⟨_, rfl⟩
          obtain ⟨nx, hnx⟩ : ∃ k, x.t.n = k := ⟨_, rfl⟩
          obtain ⟨ny, hny⟩ : ∃ k, y.t.n = k := ⟨_, rfl⟩
          obtain ⟨ax, hax⟩ : ∃ k, x.t.args = k := ⟨_, rfl⟩
          obtain ⟨ay, hay⟩ : ∃ k, y.t.args = k := ⟨_, rfl⟩
          rw [hkx, hky, hsx, hsy, hnx, hny, hax, hay] at HNK HEQ
          rw [hax, hay] at C
          rw [hkx, hky, hsx, hsy, hnx, hny] at hways
          rw [hkx] at k0; rw [hky] at l0; rw [hsx] at k1; rw [hsy] at l1; rw [hnx] at k2; rw [hny] at l2; rw [hax] at k4; rw [hay] at l4
          clear hkx hky hsx hsy hnx hny hax hay hX hY hxa hya hxk hyk hxt hyt HNE HBX IH hb KEEP
          rcases hways with q0 | ⟨q0, q1 | ⟨q1, q2 | q2⟩⟩
          · have HF := Lib.hid (HNK.out fun h => by rw [h.1] at q0; simp at q0)
            go_wp2_with fail
            go_quiet (fail)
            go_wp2_with fail
            go_ret
            exact ⟨ret_bool HF.out.symm, d + nq, by rw [HW.out]; simp [World.drewN, Nat.add_assoc]⟩
          · have HF := Lib.hid (HNK.out fun h => by rw [h.2.1] at q1; simp at q1)
            go_wp2_with fail
            go_quiet (fail)
            go_wp2_with fail
            go_ret
            exact ⟨ret_bool HF.out.symm, d + nq, by rw [HW.out]; simp [World.drewN, Nat.add_assoc]⟩
          · have HF := Lib.hid (HNK.out fun h => by rw [h.2.2.1] at q2; simp at q2)
            go_wp2_with fail
            go_quiet (fail)
            go_wp2_with fail
            go_ret
            exact ⟨ret_bool HF.out.symm, d + nq, by rw [HW.out]; simp [World.drewN, Nat.add_assoc]⟩
          · have e0 : kx = ky := by simpa using q0
            have e1 : sx = sy := (Lib.bytes_beq_iff _ _).1 q1
            have e2 : nx = ny := by simpa using q2
            cases ha : alR ax ay with
            | true =>
              rw [ha] at C
              have HT := Lib.hid (HEQ.out e0 e1 e2 (alR_iff.1 ha))
              clear e0 e1 e2 ha
              go_wp2_with fail
              go_quiet ((go_at_call 24; exact C.out _))
              go_wp2_with fail
              go_roundw
              case rel => exact ⟨j + 1, d + nq, by omega, by go_num, HT.out, Lib.hid (by rw [HW.out]; simp [World.drewN, Nat.add_assoc])⟩
              case measure => simp [intOf]; omega
            | false =>
              rw [ha] at C
              have HF := Lib.hid (HNK.out fun h => by rw [alR_true h.2.2.2] at ha; cases ha)
              clear e0 e1 e2 ha
              go_wp2_with fail
              go_quiet ((go_at_call 24; exact C.out _))
              go_wp2_with fail
              go_ret
              exact ⟨ret_bool HF.out.symm, d + nq, by rw [HW.out]; simp [World.drewN, Nat.add_assoc]⟩
        · obtain rfl : j = xs.length := by omega
          have HT := Lib.hid (alR_true (xs := xs) (ys := ys) (by have := HBE.out; rwa [List.take_length, hlen, List.take_length] at this))
          go_wp2_with fail
          go_ret
          exact ⟨ret_bool HT.out.symm, d, HW.out⟩
    · have hq : ((xs.length : Int) != (ys.length : Int)) = true := by rw [bne_iff_ne]; omega
      have HF := Lib.hid (alR_false (xs := xs) (ys := ys) fun e => hlen (by have := congrArg List.length e; rw [bareL_map, bareL_map] at this; simpa using this))
      clear IH hxo hyo hlen
      go_enter Tryz.func24, Tryz.ntmps24
      go_wp2_with fail
      go_ret
      exact ⟨ret_bool HF.out.symm, 0, rfl⟩
end Go.Proofs.YtldgbdmiebipnaaGreatDoor

namespace Go.Proofs.YtldgbdmiebipnaaGreatDoor
open Go.RowKit

set_option maxRecDepth 100000 in
set_option maxHeartbeats 1600000 in
theorem rsame_any (va vb : Value) (xs ys : List It) (w : World) (hx : Its w va xs) (hy : Its w vb ys) :
    Calls Tryz.prog 10 #[va, vb] w fun e w' => e = .returned (.bool (saI xs ys)) ∧ ∃ r, w' = w.drewN r := by
  obtain ⟨a, c, rfl, ⟨hal, _⟩, hxo⟩ := hx
  obtain ⟨a', c', rfl, ⟨hbl, _⟩, hyo⟩ := hy
  by_cases hlen : xs.length = ys.length
  · have hq : ((xs.length : Int) != (ys.length : Int)) = false := by rw [hlen]; simp
    have HXO := Lib.hid hxo
    have HYO := Lib.hid hyo
    clear hxo hyo
    go_enter Tryz.func10, Tryz.ntmps10
    go_wp2_with fail
    go_loopw [13] (fun i wr => ∃ j d : Nat, j ≤ xs.length ∧ i = .int .i64 j ∧ (xs.take j).map It.bare = (ys.take j).map It.bare ∧ Hid (wr = w.drewN d)) (fun i _ => xs.length - (intOf i).toNat)
    case atStart => exact ⟨0, 0, Nat.zero_le _, rfl, rfl, Lib.hid rfl⟩
    case round =>
      obtain ⟨j, d, hj, rfl, hbe, HW⟩ := hrel
      have hb : Below w.heap.size w wr := by rw [HW.out]; exact below_drewN (Below.refl _ _) d
      have HBE := Lib.hid hbe
      clear hbe
      by_cases hj1 : j < xs.length
      · have hj2 : j < ys.length := by omega
        have hi1 : (j : Int) < (xs.length : Int) := by omega
        have hi2 : (j : Int) < (ys.length : Int) := by omega
        have hi0 : (0 : Int) ≤ (j : Int) := by omega
        rcases HXO.out with h | ⟨b, o, rfl, hlt, hX⟩
        · rw [h] at hj1; cases hj1
        rcases HYO.out with h | ⟨b', o', rfl, hlt', hY⟩
        · rw [h] at hj2; cases hj2
        obtain ⟨x, hxt, hxk, hxa⟩ := hX j hj1
        obtain ⟨y, hyt, hyk, hya⟩ := hY j hj2
        have C := fun (vx vy : Value) (ps qs : List Tr) (h1 : Trs w vx ps) (h2 : Trs w vy qs) (q : Nat) => (ralike_any (partsR ps) vx vy ps qs (wr.drewN q) (Nat.le_refl _) (h1.below (below_drewN hb q)) (h2.below (below_drewN hb q))).mono fun e w' hh => (show e = .returned (.bool (alR ps qs)) ∧ ∃ r, w' = wr.drewN r from ⟨hh.1, by obtain ⟨r, hr⟩ := hh.2; exact ⟨q + r, by rw [hr]; simp [World.drewN, Nat.add_assoc]⟩⟩)
        have CW := Lib.hid (C x.vw y.vw x.it.words y.it.words hxk.words hyk.words)
        have CT := Lib.hid (C x.vt y.vt x.it.trees y.it.trees hxk.trees hyk.trees)
        obtain ⟨k0, _, k2, k3⟩ := hxa.below hb
        obtain ⟨l0, _, l2, l3⟩ := hya.below hb
        have HBX := Lib.hid (fun (h : x.it.bare = y.it.bare) => (show (xs.take (j + 1)).map It.bare = (ys.take (j + 1)).map It.bare by rw [bareI_succ hj1, bareI_succ hj2, HBE.out, ← hxt, ← hyt, h]))
        have HNE := Lib.hid (fun (h : ¬ (x.it.key = y.it.key ∧ bareL x.it.words = bareL y.it.words ∧ bareL x.it.trees = bareL y.it.trees)) => saI_false (xs := xs) (ys := ys) fun e => h (bareI_head (by rw [hxt, hyt]; exact bareI_at e hj1 hj2)))
        have HEQ := Lib.hid (fun (h1 : x.it.key = y.it.key) (h2 : bareL x.it.words = bareL y.it.words) (h3 : bareL x.it.trees = bareL y.it.trees) => HBX.out (bareI_of h1 h2 h3))
        obtain ⟨ux, cx, e1, _⟩ := hxk.words
        obtain ⟨uy, cy, e2, _⟩ := hyk.words
        obtain ⟨tx, dx, e3, _⟩ := hxk.trees
        obtain ⟨ty, dy, e4, _⟩ := hyk.trees
        rw [e1] at k2 CW; rw [e2] at l2 CW; rw [e3] at k3 CT; rw [e4] at l3 CT
        obtain ⟨kx, hkx⟩ : ∃ k, x.it.key = k := ⟨_, rfl⟩
        obtain ⟨ky, hky⟩ : ∃ k, y.it.key = k := ⟨_, rfl⟩
        obtain ⟨wx, hwx⟩ : ∃ k, x.it.words = k := ⟨_, rfl⟩
        obtain ⟨wy, hwy⟩ : ∃ k, y.it.words = k := ⟨_, rfl⟩
        obtain ⟨rx, hrx⟩ : ∃ k, x.it.trees = k := ⟨_, rfl⟩
        obtain ⟨ry, hry⟩ : ∃ k, y.it.trees = k := ⟨_, rfl⟩
        rw [hkx, hky, hwx, hwy, hrx, hry] at HNE HEQ
        rw [hwx, hwy] at CW
        rw [hrx, hry] at CT
        rw [hkx] at k0; rw [hky] at l0; rw [hwx] at k2; rw [hwy] at l2; rw [hrx] at k3; rw [hry] at l3
        clear hkx hky hwx hwy hrx hry hX hY hxa hya hxk hyk hxt hyt HBX hb C e1 e2 e3 e4
        cases q0 : (kx.toList == ky.toList) with
        | false =>
          have HF := Lib.hid (HNE.out fun h => by rw [h.1] at q0; simp at q0)
          go_wp2_with fail
          go_quiet (fail)
          go_wp2_with fail
          go_ret
          exact ⟨ret_bool HF.out.symm, d + nq, by rw [HW.out]; simp [World.drewN, Nat.add_assoc]⟩
        | true =>
          have ek : kx = ky := (Lib.bytes_beq_iff _ _).1 q0
          cases hw : alR wx wy with
          | false =>
            rw [hw] at CW
            have HF := Lib.hid (HNE.out fun h => by rw [alR_true h.2.1] at hw; cases hw)
            clear ek hw
            go_wp2_with fail
            go_quiet ((go_at_call 24; exact CW.out _))
            go_wp2_with fail
            go_ret
            exact ⟨ret_bool HF.out.symm, d + nq, by rw [HW.out]; simp [World.drewN, Nat.add_assoc]⟩
          | true =>
            rw [hw] at CW
            cases ht : alR rx ry with
            | false =>
              rw [ht] at CT
              have HF := Lib.hid (HNE.out fun h => by rw [alR_true h.2.2] at ht; cases ht)
              clear ek hw ht
              go_wp2_with fail
              go_quiet ((go_at_call 24; first | with_reducible exact CW.out _ | with_reducible exact CT.out _))
              go_wp2_with fail
              go_ret
              exact ⟨ret_bool HF.out.symm, d + nq, by rw [HW.out]; simp [World.drewN, Nat.add_assoc]⟩
            | true =>
              rw [ht] at CT
              have HT := Lib.hid (HEQ.out ek (alR_iff.1 hw) (alR_iff.1 ht))
              clear ek hw ht
              go_wp2_with fail
              go_quiet ((go_at_call 24; first | with_reducible exact CW.out _ | with_reducible exact CT.out _))
              go_wp2_with fail
              go_roundw
              case rel => exact ⟨j + 1, d + nq, by omega, by go_num, HT.out, Lib.hid (by rw [HW.out]; simp [World.drewN, Nat.add_assoc])⟩
              case measure => simp [intOf]; omega
      · obtain rfl : j = xs.length := by omega
        have HT := Lib.hid (saI_true (xs := xs) (ys := ys) (by have := HBE.out; rwa [List.take_length, hlen, List.take_length] at this))
        go_wp2_with fail
        go_ret
        exact ⟨ret_bool HT.out.symm, d, HW.out⟩
  · have hq : ((xs.length : Int) != (ys.length : Int)) = true := by rw [bne_iff_ne]; omega
    have HF := Lib.hid (saI_false (xs := xs) (ys := ys) fun e => hlen (by have := congrArg List.length e; simpa using this))
    clear hxo hyo hlen
    go_enter Tryz.func10, Tryz.ntmps10
    go_wp2_with fail
    go_ret
    exact ⟨ret_bool HF.out.symm, 0, rfl⟩
end Go.Proofs.YtldgbdmiebipnaaGreatDoor

namespace Go.Proofs.YtldgbdmiebipnaaGreatDoor
open Go.RowKit

/-- A slice value that reads as a list of int's. -/
def Nums (w : World) (v : Value) (ns : List Int) : Prop :=
  ∃ a c, v = .slice a ns.length c ∧ ns.length ≤ c ∧ c ≤ 9223372036854775807 ∧ (∀ n ∈ ns, -9223372036854775808 ≤ n ∧ n ≤ 9223372036854775807) ∧
    (ns = [] ∨ ∃ b off, a = some ⟨b, off, none⟩ ∧ b < w.heap.size ∧ ∀ (j : Nat) n, ns[j]? = some n → w.cell? ⟨b, off + j, none⟩ = some (.int .i64 n))
theorem Nums.below {w w' : World} {v : Value} {ns : List Int} (h : Nums w v ns) (hb : Below w.heap.size w w') : Nums w' v ns := by
  obtain ⟨a, c, hv, hl, hc, hn, h⟩ := h
  refine ⟨a, c, hv, hl, hc, hn, ?_⟩
  rcases h with h | ⟨b, off, ha, hlt, hc⟩
  · exact .inl h
  · exact .inr ⟨b, off, ha, Nat.lt_of_lt_of_le hlt hb.size, fun j n hj => by rw [hb.cell (p := ⟨b, off + j, none⟩) hlt]; exact hc j n hj⟩
/-- The rest of a place behind its first number. -/
theorem nums_tail {w : World} {b off c n : Nat} {i : Int} {r : List Int} (hn : n = r.length + 1) (h : Nums w (.slice (some ⟨b, off, none⟩) n c) (i :: r)) (a : Option Addr) (ha : r ≠ [] → a = some ⟨b, off + 1, none⟩) :
    Nums w (.slice a r.length (c - 1)) r := by
  subst hn
  obtain ⟨a', c', hv, hl, hc, hm, h⟩ := h
  cases hv
  simp only [List.length_cons] at hl
  refine ⟨a, _, rfl, by omega, by omega, fun x hx => hm x (by simp [hx]), ?_⟩
  by_cases hr : r = []
  · exact .inl hr
  · rcases h with h | ⟨b', off', he, hlt, h⟩
    · cases h
    · cases he
      exact .inr ⟨b, off + 1, ha hr, hlt, fun j x hj => by have := h (j + 1) x (by simpa using hj); rw [show off + 1 + j = off + (j + 1) from by omega]; exact this⟩
end Go.Proofs.YtldgbdmiebipnaaGreatDoor

namespace Go.Proofs.YtldgbdmiebipnaaGreatDoor
open Go.RowKit

/-- Every cell that reads in w0 reads so in W. -/
structure Reads (w0 W : World) : Prop where
  size : w0.heap.size ≤ W.heap.size
  cell : ∀ p v, w0.cell? p = some v → W.cell? p = some v
theorem Reads.refl (w : World) : Reads w w := ⟨Nat.le_refl _, fun _ _ h => h⟩
theorem Reads.trans {a b c : World} (h : Reads a b) (k : Reads b c) : Reads a c := ⟨Nat.le_trans h.size k.size, fun p v hv => k.cell p v (h.cell p v hv)⟩
theorem reads_below {w0 W : World} (h : Below w0.heap.size w0 W) : Reads w0 W := ⟨h.size, fun p v hv => by
  rw [h.cell (World.block_lt_of_cell? w0 p hv)]; exact hv⟩
mutual
theorem TmAt.reads {w w' : World} (hb : Reads w w') : ∀ {t : Tm} {b o : Nat}, TmAt w t b o → TmAt w' t b o
  | .mk k s n xs, b, o, h => by
    rw [TmAt] at h ⊢
    obtain ⟨hf, h0, h1, h2, a, c, h3, hl, hr⟩ := h
    refine ⟨hf, hb.cell _ _ h0, hb.cell _ _ h1, hb.cell _ _ h2, a, c, hb.cell _ _ h3, hl, ?_⟩
    rcases hr with hr | ⟨b', o', ha, hb', hr⟩
    · exact .inl hr
    · exact .inr ⟨b', o', ha, Nat.lt_of_lt_of_le hb' hb.size, RowAt.reads hb hr⟩
theorem RowAt.reads {w w' : World} (hb : Reads w w') : ∀ {xs : List Tm} {b o : Nat}, RowAt w xs b o → RowAt w' xs b o
  | [], _, _, _ => by rw [RowAt]; trivial
  | t :: r, b, o, h => by
    rw [RowAt] at h ⊢
    exact ⟨TmAt.reads hb h.1, RowAt.reads hb h.2⟩
end
theorem Args.reads {w w' : World} {a : Option Addr} {c : Nat} {xs : List Tm} (h : Args w a c xs) (hb : Reads w w') : Args w' a c xs := by
  obtain ⟨hl, h⟩ := h
  refine ⟨hl, ?_⟩
  rcases h with h | ⟨b, o, ha, hlt, hr⟩
  · exact .inl h
  · exact .inr ⟨b, o, ha, Nat.lt_of_lt_of_le hlt hb.size, hr.reads hb⟩
theorem Tv.ok.reads {w w' : World} {v : Tv} (h : v.ok w) (hb : Reads w w') : v.ok w' := ⟨h.1, Args.reads h.2 hb⟩
theorem Tms.reads {w w' : World} {v : Value} {ts : List Tm} (h : Tms w v ts) (hb : Reads w w') : Tms w' v ts := by
  obtain ⟨a, c, hv, h⟩ := h
  exact ⟨a, c, hv, h.reads hb⟩
/-- A memory with one block out of sight. -/
def mask (w : World) (g : Nat) : World := { w with heap := w.heap.setIfInBounds g (.deferred none) }
theorem mask_size (w : World) (g : Nat) : (mask w g).heap.size = w.heap.size := by simp [mask]
theorem mask_other (w : World) {g k : Nat} (h : k ≠ g) : (mask w g).heap[k]? = w.heap[k]? := by
  simp only [mask]
  rw [Array.getElem?_setIfInBounds, if_neg (by omega)]
theorem mask_cell {w : World} {g : Nat} {p : Addr} {v : Value} (h : (mask w g).cell? p = some v) : p.block ≠ g ∧ w.cell? p = some v := by
  have hne : p.block ≠ g := fun e => by
    have hlt := World.block_lt_of_cell? (mask w g) p h
    have : (mask w g).heap[p.block]? = some (.deferred none) := by
      rw [e] at hlt ⊢
      simp only [mask]
      rw [mask_size] at hlt
      rw [Array.getElem?_setIfInBounds_self, if_pos hlt]
    unfold World.cell? at h
    rw [this] at h
    simp at h
  exact ⟨hne, by rw [← World.cell?_of_block (w := w) (w' := mask w g) (a := p) (mask_other w hne)]; exact h⟩
/-- What is seen with a block out of sight is seen in whatever differs there alone. -/
theorem reads_mask {w W : World} {g : Nat} (hs : w.heap.size ≤ W.heap.size) (h : ∀ k, k < w.heap.size → k ≠ g → W.heap[k]? = w.heap[k]?) : Reads (mask w g) W := ⟨by rw [mask_size]; exact hs, fun p v hv => by
  obtain ⟨hne, hc⟩ := mask_cell hv
  rw [World.cell?_of_block (w := w) (w' := W) (a := p) (h p.block (World.block_lt_of_cell? w p hc) hne)]; exact hc⟩
/-- An elder memory is seen, where a block beyond it is out of sight. -/
theorem reads_into {w0 w : World} {g : Nat} (h : Reads w0 w) (hg : w0.heap.size ≤ g) : Reads w0 (mask w g) := ⟨by rw [mask_size]; exact h.size, fun p v hv => by
  have hlt := World.block_lt_of_cell? w0 p hv
  rw [World.cell?_of_block (w := w) (w' := mask w g) (a := p) (mask_other w (by omega))]; exact h.cell p v hv⟩
/-- A memory with the block of a row out of sight. -/
def shade (w : World) (o : Value) : World := match o.ownBlock with | some g => mask w g | none => w
theorem shade_size (w : World) (o : Value) : (shade w o).heap.size = w.heap.size := by
  unfold shade; split
  · exact mask_size _ _
  · rfl
theorem shade_block {w : World} {o : Value} {k : Nat} (h : some k ≠ o.ownBlock) : (shade w o).heap[k]? = w.heap[k]? := by
  unfold shade; split
  · next g e => exact mask_other w (fun e2 => h (by rw [e2, e]))
  · rfl
theorem shade_cell {w : World} {o : Value} {p : Addr} {v : Value} (h : (shade w o).cell? p = some v) : some p.block ≠ o.ownBlock ∧ w.cell? p = some v := by
  unfold shade at h; split at h
  · next g e =>
    obtain ⟨h1, h2⟩ := mask_cell h
    exact ⟨fun e2 => h1 (by rw [e] at e2; exact Option.some.inj e2), h2⟩
  · next e => exact ⟨fun e2 => (by rw [e] at e2; cases e2), h⟩
theorem shade_reads (w : World) (o : Value) : Reads (shade w o) w := ⟨by rw [shade_size]; exact Nat.le_refl _, fun _ _ h => (shade_cell h).2⟩
theorem shade_into {w0 w : World} {o : Value} (h : Reads w0 w) (hg : ∀ g, o.ownBlock = some g → w0.heap.size ≤ g) : Reads w0 (shade w o) := by
  unfold shade; split
  · next g e => exact reads_into h (hg g e)
  · exact h
theorem shade_to {w W : World} {o o' : Value} (hs : w.heap.size ≤ W.heap.size) (h : ∀ k, k < w.heap.size → some k ≠ o.ownBlock → W.heap[k]? = w.heap[k]? ∧ some k ≠ o'.ownBlock) : Reads (shade w o) (shade W o') := by
  refine ⟨by rw [shade_size, shade_size]; exact hs, fun p v hv => ?_⟩
  obtain ⟨h1, h2⟩ := shade_cell hv
  obtain ⟨h3, h4⟩ := h p.block (World.block_lt_of_cell? w p h2) h1
  rw [World.cell?_of_block (w := w) (w' := shade W o') (a := p) ((shade_block h4).trans h3)]
  exact h2
theorem shade_below {w W : World} {o : Value} (h : Below w.heap.size w W) : Reads (shade w o) (shade W o) := shade_to h.size fun k hk hne => ⟨h.block k hk, hne⟩
theorem shade_grow {w W : World} {o o' : Value} (h : w.grownBy W o.ownBlock) (hat : o'.ownBlock = o.ownBlock ∨ o'.ownBlock = some w.heap.size) : Reads (shade w o) (shade W o') := shade_to h.size fun k hk hne => ⟨h.block k hk hne, by
  rcases hat with e | e
  · rw [e]; exact hne
  · rw [e]; intro e2; injection e2 with e2; omega⟩
end Go.Proofs.YtldgbdmiebipnaaGreatDoor

namespace Go.Proofs.YtldgbdmiebipnaaGreatDoor
open Go.RowKit

/-- The zero term. -/
def zeroT : Tm := .mk 0 ⟨#[]⟩ 0 []
def zeroV : Tv := ⟨zeroT, none, 0⟩
theorem zeroV_ok (w : World) : zeroV.ok w := by refine ⟨⟨?_, ?_, ?_, ?_, ?_⟩, ?_, .inl rfl⟩ <;> decide
/-- What stands at a place, if there is such a place. -/
def atT : Tm → List Int → Option Tm
  | t, [] => some t
  | t, i :: r => if h : 0 ≤ i ∧ i < t.args.length then atT (t.args[i.toNat]'(by omega)) r else none
theorem atT_nil (t : Tm) : atT t [] = some t := by rw [atT]
theorem atT_in {t : Tm} {j : Nat} {r : List Int} (h : j < t.args.length) : atT t ((j : Int) :: r) = atT t.args[j] r := by
  rw [atT, dif_pos (by omega)]; simp
theorem atT_out {t : Tm} {i : Int} {r : List Int} (h : ¬ (0 ≤ i ∧ i < t.args.length)) : atT t (i :: r) = none := by rw [atT, dif_neg h]

/-- What a call of At leaves. -/
def AtPost (o : Option Tm) (w0 w : World) (e : Ending) (w' : World) : Prop :=
  ∃ y : Tv, e = .returned (.tuple #[y.val, .bool o.isSome]) ∧ y.t = o.getD zeroT ∧ y.ok w0 ∧ Below w.heap.size w w'
end Go.Proofs.YtldgbdmiebipnaaGreatDoor

namespace Go.Proofs.YtldgbdmiebipnaaGreatDoor
open Go.RowKit

theorem cell_aside {W : World} {u : Value} (p q : Addr) (h : q.block ≠ p.block) : (W.setCell p u).cell? q = W.cell? q := World.cell?_of_block (Below.heap_setCell _ _ _ _ h)
theorem frozen_aside {W : World} {u : Value} (p q : Addr) (h : q.block ≠ p.block) : (W.setCell p u).frozen? q = W.frozen? q := World.frozen?_of_block (Below.heap_setCell _ _ _ _ h)
theorem cell_off {W : World} {u : Value} (g i j : Nat) (h : i ≠ j) : (W.setCell ⟨g, i, none⟩ u).cell? ⟨g, j, none⟩ = W.cell? ⟨g, j, none⟩ := World.cell?_setCell_other _ _ _ _ (fun e => h (by cases e; rfl))
theorem Box.sets {w : World} {g : Nat} {x0 x1 x2 x3 : Value} (h : Box w g x0 x1 x2 x3) (y0 y1 y2 y3 : Value) :
    Box ((((w.setCell ⟨g, 0, none⟩ y0).setCell ⟨g, 1, none⟩ y1).setCell ⟨g, 2, none⟩ y2).setCell ⟨g, 3, none⟩ y3) g y0 y1 y2 y3 where
  c0 := by
    rw [cell_off g 3 0 (by decide), cell_off g 2 0 (by decide), cell_off g 1 0 (by decide)]
    exact World.cell?_setCell_same _ _ _ h.c0
  c1 := by
    rw [cell_off g 3 1 (by decide), cell_off g 2 1 (by decide)]
    refine World.cell?_setCell_same (u := x1) _ _ _ ?_
    rw [cell_off g 0 1 (by decide)]; exact h.c1
  c2 := by
    rw [cell_off g 3 2 (by decide)]
    refine World.cell?_setCell_same (u := x2) _ _ _ ?_
    rw [cell_off g 1 2 (by decide), cell_off g 0 2 (by decide)]; exact h.c2
  c3 := by
    refine World.cell?_setCell_same (u := x3) _ _ _ ?_
    rw [cell_off g 2 3 (by decide), cell_off g 1 3 (by decide), cell_off g 0 3 (by decide)]; exact h.c3
  f0 := by simp [h.f0]
  f1 := by simp [h.f1]
  f2 := by simp [h.f2]
  f3 := by simp [h.f3]
theorem Box.aside {w : World} {g : Nat} {x0 x1 x2 x3 : Value} (h : Box w g x0 x1 x2 x3) {p : Addr} (hp : g ≠ p.block) (y : Value) : Box (w.setCell p y) g x0 x1 x2 x3 where
  c0 := (cell_aside p ⟨g, 0, none⟩ hp).trans h.c0
  c1 := (cell_aside p ⟨g, 1, none⟩ hp).trans h.c1
  c2 := (cell_aside p ⟨g, 2, none⟩ hp).trans h.c2
  c3 := (cell_aside p ⟨g, 3, none⟩ hp).trans h.c3
  f0 := (frozen_aside p ⟨g, 0, none⟩ hp).trans h.f0
  f1 := (frozen_aside p ⟨g, 1, none⟩ hp).trans h.f1
  f2 := (frozen_aside p ⟨g, 2, none⟩ hp).trans h.f2
  f3 := (frozen_aside p ⟨g, 3, none⟩ hp).trans h.f3
theorem Box.asides {w : World} {g k : Nat} {x0 x1 x2 x3 : Value} (h : Box w g x0 x1 x2 x3) (hp : g ≠ k) (y0 y1 y2 y3 : Value) :
    Box ((((w.setCell ⟨k, 0, none⟩ y0).setCell ⟨k, 1, none⟩ y1).setCell ⟨k, 2, none⟩ y2).setCell ⟨k, 3, none⟩ y3) g x0 x1 x2 x3 :=
  (((h.aside (p := ⟨k, 0, none⟩) hp _).aside (p := ⟨k, 1, none⟩) hp _).aside (p := ⟨k, 2, none⟩) hp _).aside (p := ⟨k, 3, none⟩) hp _
theorem below_sets {B : Nat} {a w : World} (h : Below B a w) {g : Nat} (hg : B ≤ g) (y0 y1 y2 y3 : Value) : Below B a ((((w.setCell ⟨g, 0, none⟩ y0).setCell ⟨g, 1, none⟩ y1).setCell ⟨g, 2, none⟩ y2).setCell ⟨g, 3, none⟩ y3) :=
  (((h.setCell (p := ⟨g, 0, none⟩) hg _).setCell (p := ⟨g, 1, none⟩) hg _).setCell (p := ⟨g, 2, none⟩) hg _).setCell (p := ⟨g, 3, none⟩) hg _
theorem atT_append {u : Tm} : ∀ (p q : List Int) {t : Tm}, atT t p = some u → atT t (p ++ q) = atT u q
  | [], q, t, h => by rw [atT] at h; cases h; rfl
  | i :: r, q, t, h => by
    rw [List.cons_append]
    rw [atT] at h ⊢
    split at h
    · next hi => rw [dif_pos hi]; exact atT_append r q h
    · cases h
theorem atT_take {u t : Tm} {ns : List Int} {j : Nat} (h : atT t (ns.take j) = some u) : atT t ns = atT u (ns.drop j) := by
  have := atT_append (ns.take j) (ns.drop j) h
  rwa [List.take_append_drop] at this
theorem atT_take_succ {u t : Tm} {ns : List Int} {j : Nat} {n : Int} (h : atT t (ns.take j) = some u) (hn : ns[j]? = some n) : atT t (ns.take (j + 1)) = atT u [n] := by
  obtain ⟨hj, rfl⟩ := List.getElem?_eq_some_iff.1 hn
  rw [List.take_succ_eq_append_getElem hj]
  exact atT_append _ _ h
theorem atT_one {u : Tm} {n : Nat} (h : n < u.args.length) : atT u [(n : Int)] = some u.args[n] := by rw [atT_in h, atT_nil]
theorem atT_stop {u t : Tm} {ns : List Int} {j : Nat} {n : Int} (h : atT t (ns.take j) = some u) (hn : ns[j]? = some n) (ho : ¬ (0 ≤ n ∧ n < u.args.length)) : atT t ns = none := by
  obtain ⟨hj, rfl⟩ := List.getElem?_eq_some_iff.1 hn
  rw [atT_take h, List.drop_eq_getElem_cons hj, atT_out ho]
end Go.Proofs.YtldgbdmiebipnaaGreatDoor

namespace Go.Proofs.YtldgbdmiebipnaaGreatDoor
open Go.RowKit

/-- A row in memory as values: their cells, one behind the other. -/
theorem rowAt_vs {w : World} : ∀ {ts : List Tm} {b o : Nat}, RowAt w ts b o → ∃ vs : List Tv, vs.map Tv.t = ts ∧ (∀ x ∈ vs, x.ok w) ∧ ∀ q x, (rowTv vs)[q]? = some x → w.cell? ⟨b, o + q, none⟩ = some x
  | [], _, _, _ => ⟨[], rfl, (fun _ h => by cases h), (fun q x h => by simp [rowTv] at h)⟩
  | t :: r, b, o, h => by
    rw [RowAt] at h
    obtain ⟨u, hu, huk, c0, c1, c2, c3⟩ := tmAt_tv h.1
    obtain ⟨vs, hv, hvk, hc⟩ := rowAt_vs h.2
    refine ⟨u :: vs, by rw [List.map_cons, hu, hv], fun x hx => ?_, fun q x hq => ?_⟩
    · rcases List.mem_cons.1 hx with rfl | hx
      · exact huk
      · exact hvk x hx
    · have e : rowTv (u :: vs) = u.cells ++ rowTv vs := by unfold rowTv; rw [List.flatMap_cons]
      rw [e] at hq
      rcases Nat.lt_or_ge q 4 with h4 | h4
      · rw [List.getElem?_append_left (by simpa [Tv.cells] using h4)] at hq
        rcases (show q = 0 ∨ q = 1 ∨ q = 2 ∨ q = 3 from by omega) with rfl | rfl | rfl | rfl
        all_goals
          simp only [Tv.cells, List.getElem?_cons_zero, List.getElem?_cons_succ, Option.some.injEq] at hq
          subst hq
          assumption
      · rw [List.getElem?_append_right (by simpa [Tv.cells] using h4)] at hq
        have := hc (q - 4) x (by simpa [Tv.cells] using hq)
        rw [show o + 4 + (q - 4) = o + q from by omega] at this
        exact this
theorem addr_row (b o q : Nat) : ((⟨b, o, none⟩ : Addr).add q) = ⟨b, o + q, none⟩ := by
  unfold Addr.add; split
  · next h => subst h; rfl
  · rfl

/-- A row that the call itself has made, behind a store into a block that lay before. -/
theorem own_setCell {w : World} {base : Nat} {e : TypeId} {size : Nat} {v : Value} {n : Nat} {xs : List Value} (h : w.ownsRow base e size v n xs) {p : Addr} (hp : p.block < base) (u : Value) : (w.setCell p u).ownsRow base e size v n xs := by
  obtain ⟨hn, h⟩ := h
  refine ⟨hn, ?_⟩
  rcases h with h | ⟨g, cap, cur, rfl, hbb, hg, hr⟩
  · exact .inl h
  · exact .inr ⟨g, cap, cur, rfl, hbb, by rw [Below.heap_setCell _ _ _ _ (by omega)]; exact hg, hr⟩

theorem rowTv_cons (v : Tv) (r : List Tv) : rowTv (v :: r) = v.cells ++ rowTv r := by unfold rowTv; rw [List.flatMap_cons]
theorem rowTv_set (u : Tv) : ∀ (vs : List Tv) (k : Nat), k < vs.length → rowTv (vs.set k u) = ((((rowTv vs).set (k * 4) (.int .i64 u.t.kind)).set (k * 4 + 1) (.string u.t.name)).set (k * 4 + 2) (.int .i64 u.t.n)).set (k * 4 + 3) (.slice u.a u.t.args.length u.c)
  | [], _, h => by simp at h
  | v :: r, 0, _ => by rw [List.set_cons_zero, rowTv_cons, rowTv_cons]; rfl
  | v :: r, k + 1, h => by
    rw [List.set_cons_succ, rowTv_cons, rowTv_cons, rowTv_set u r k (by simpa using h)]
    have e : ∀ (l : List Value) (i : Nat) (x : Value), (v.cells ++ l).set (4 + i) x = v.cells ++ l.set i x := fun l i x => by
      rw [List.set_append_right _ _ (by simp [Tv.cells])]; congr 2; simp [Tv.cells]
    rw [show (k + 1) * 4 = 4 + k * 4 from by omega, show 4 + k * 4 + 1 = 4 + (k * 4 + 1) from by omega, show 4 + k * 4 + 2 = 4 + (k * 4 + 2) from by omega, show 4 + k * 4 + 3 = 4 + (k * 4 + 3) from by omega, e, e, e, e]
theorem heap_setCell_same {w : World} {g o : Nat} {cur : Array Value} {e : TypeId} {fr : Nat × Nat} (h : w.heap[g]? = some (.cells cur e fr)) (x : Value) : (w.setCell ⟨g, o, none⟩ x).heap[g]? = some (.cells (cur.setIfInBounds o x) e fr) := by
  simp [World.setCell, Array.getElem?_modify, h]
/-- A store of a term into a row of the call's own. -/
theorem own_put {w : World} {base : Nat} {e : TypeId} {g n cap : Nat} {vs : List Tv} (h : w.ownsRow base e 4 (.slice (some ⟨g, 0, none⟩) n cap) n (rowTv vs)) (u : Tv) (k : Nat) (hk : k < vs.length) :
    ((((w.setCell ⟨g, k * 4, none⟩ (.int .i64 u.t.kind)).setCell ⟨g, k * 4 + 1, none⟩ (.string u.t.name)).setCell ⟨g, k * 4 + 2, none⟩ (.int .i64 u.t.n)).setCell ⟨g, k * 4 + 3, none⟩ (.slice u.a u.t.args.length u.c)).ownsRow base e 4 (.slice (some ⟨g, 0, none⟩) n cap) n (rowTv (vs.set k u)) := by
  obtain ⟨hn, ⟨h, _⟩ | ⟨g', cap', cur, hv, hb, hgc, h1, h2, h3, hgt⟩⟩ := h
  · cases h
  · cases hv
    refine ⟨by rw [rowTv_length, List.length_set, ← rowTv_length]; exact hn, .inr ⟨g, cap, _, rfl, hb, heap_setCell_same (heap_setCell_same (heap_setCell_same (heap_setCell_same hgc _) _) _) _, h1, h2, by simpa using h3, ?_⟩⟩
    rw [rowTv_set u vs k hk, ← hgt]
    simp only [Array.toList_setIfInBounds, List.take_set]
end Go.Proofs.YtldgbdmiebipnaaGreatDoor

namespace Go.Proofs.YtldgbdmiebipnaaGreatDoor
open Go.RowKit

/-- A term in the memory of w0 and in the blocks that were made from w on: it reads so wherever both stand. -/
def Fresh (w0 w w' : World) (y : Tv) : Prop := ∀ W, Reads w0 W → w'.heap.size ≤ W.heap.size → (∀ b, w.heap.size ≤ b → b < w'.heap.size → W.heap[b]? = w'.heap[b]?) → y.ok W
theorem Fresh.ok {w0 w w' : World} {y : Tv} (h : Fresh w0 w w' y) (hb : Below w0.heap.size w0 w') : y.ok w' := h w' (reads_below hb) (Nat.le_refl _) (fun _ _ _ => rfl)
theorem fresh_old {w0 w w' : World} {y : Tv} (h : y.ok w0) : Fresh w0 w w' y := fun _ hb _ _ => h.reads hb
/-- Likewise, but for one block, which holds a copy. -/
def Near (w0 : World) (B : Nat) (wd : World) (g : Nat) (y : Tv) : Prop := ∀ W, Reads w0 W → wd.heap.size ≤ W.heap.size → (∀ b, B ≤ b → b < wd.heap.size → b ≠ g → W.heap[b]? = wd.heap[b]?) → y.ok W
theorem near_alloc {w0 ws w4 : World} {y : Tv} {B : Nat} (hB : B = ws.heap.size) (h : Fresh w0 ws w4 y) (o : Obj) : Near w0 B (w4.alloc o) w4.heap.size y := fun W hb hs hag => by
  subst hB
  refine h W hb (by simp at hs; omega) (fun b h1 h2 => ?_)
  rw [hag b h1 (by simp; omega) (by omega)]
  exact heap_alloc_old w4 _ h2
theorem near_sets {w0 ws w4 : World} {y : Tv} {g : Nat} (hg : ws.heap.size = g + 1) (h : Fresh w0 ws w4 y) (u0 u1 u2 u3 : Value) :
    Near w0 g ((((w4.setCell ⟨g, 0, none⟩ u0).setCell ⟨g, 1, none⟩ u1).setCell ⟨g, 2, none⟩ u2).setCell ⟨g, 3, none⟩ u3) g y := fun W hb hs hag => by
  refine h W hb (by simpa using hs) (fun b h1 h2 => ?_)
  have hne : b ≠ g := by omega
  rw [hag b (by omega) (by simpa using h2) hne]
  rw [Below.heap_setCell _ _ _ _ hne, Below.heap_setCell _ _ _ _ hne, Below.heap_setCell _ _ _ _ hne, Below.heap_setCell _ _ _ _ hne]
theorem own_where {w W : World} {base : Nat} {e : TypeId} {size : Nat} {v : Value} {n : Nat} {xs : List Value} (h : w.ownsRow base e size v n xs) (hb : ∀ b, base ≤ b → b < w.heap.size → W.heap[b]? = w.heap[b]?) : W.ownsRow base e size v n xs := by
  obtain ⟨hn, h⟩ := h
  refine ⟨hn, ?_⟩
  rcases h with h | ⟨g, cap, cur, rfl, hbb, hg, hr⟩
  · exact .inl h
  · exact .inr ⟨g, cap, cur, rfl, hbb, by rw [hb g hbb (Array.getElem?_eq_some_iff.1 hg).1]; exact hg, hr⟩
/-- A term over a row that the call has made. -/
theorem fresh_row {w0 w wf : World} {a : Option Addr} {cap n : Nat} {vs : List Tv} {k : Int} {s : ByteArray} {nn : Int} {ts : List Tm} (hown : wf.ownsRow w.heap.size 100 4 (.slice a n cap) n (rowTv vs)) (hn : ts.length = n) (hvs : vs.map Tv.t = ts) (hfit : Fit k s nn) (hlen : n ≤ 9223372036854775807)
    (hok : ∀ W, Reads w0 W → wf.heap.size ≤ W.heap.size → (∀ b, w.heap.size ≤ b → b < wf.heap.size → W.heap[b]? = wf.heap[b]?) → ∀ v ∈ vs, v.ok W) : Fresh w0 w wf ⟨.mk k s nn ts, a, cap⟩ := fun W hb hs hag => by
  subst hn
  have h1 : OwnTv W W w.heap.size (.slice a ts.length cap) ts := ⟨vs, hvs, hok W hb hs hag, own_where hown hag⟩
  obtain ⟨a', c', e, hA⟩ := h1.tms (Below.refl _ _) hlen
  obtain ⟨rfl, rfl⟩ : a = a' ∧ cap = c' := by cases e; exact ⟨rfl, rfl⟩
  exact ⟨hfit, hA⟩
theorem map_set_t (vs : List Tv) (j : Nat) (u : Tv) : (vs.set j u).map Tv.t = (vs.map Tv.t).set j u.t := by rw [List.map_set]
/-- Where terms of a row that grows stand: what the call was handed, and all that it has made, but for the row itself. -/
def Beside (w0 w wr : World) (o : Value) (y : Tv) : Prop := ∀ W, Reads w0 W → wr.heap.size ≤ W.heap.size → (∀ b, w.heap.size ≤ b → b < wr.heap.size → some b ≠ o.ownBlock → W.heap[b]? = wr.heap[b]?) → y.ok W
theorem Beside.below {w0 w wr w' : World} {o : Value} {y : Tv} (h : Beside w0 w wr o y) (hb : Below wr.heap.size wr w') : Beside w0 w w' o y := fun W h1 h2 h3 =>
  h W h1 (Nat.le_trans hb.size h2) (fun b b1 b2 b3 => by rw [h3 b b1 (Nat.lt_of_lt_of_le b2 hb.size) b3]; exact hb.block b b2)
theorem Beside.grown {w0 w wr w' : World} {o o' : Value} {y : Tv} (h : Beside w0 w wr o y) (hg : wr.grownBy w' o.ownBlock) (hat : o'.ownBlock = o.ownBlock ∨ o'.ownBlock = some wr.heap.size) : Beside w0 w w' o' y := fun W h1 h2 h3 =>
  h W h1 (Nat.le_trans hg.size h2) (fun b b1 b2 b3 => by
    rw [h3 b b1 (Nat.lt_of_lt_of_le b2 hg.size) (by
      rcases hat with e | e
      · rw [e]; exact b3
      · rw [e]; intro he; injection he with he; omega)]
    exact hg.block b b2 b3)
theorem beside_old {w0 w wr : World} {o : Value} {y : Tv} (h : y.ok w0) : Beside w0 w wr o y := fun _ hb _ _ => h.reads hb
/-- What an inner call has made, beside a row that lay before. -/
theorem beside_fresh {w0 w ws wr : World} {o : Value} {y : Tv} (h : Fresh w0 ws wr y) (hs : w.heap.size ≤ ws.heap.size) (ho : ∀ g, o.ownBlock = some g → g < ws.heap.size) : Beside w0 w wr o y := fun W h1 h2 h3 =>
  h W h1 h2 (fun b b1 b2 => h3 b (by omega) b2 (fun e => by have := ho b e.symm; omega))
theorem beside_near {w0 w wd : World} {g : Nat} {o : Value} {z : Tv} (h : Near w0 g wd g z) (hs : w.heap.size ≤ g) (ho : ∀ k, o.ownBlock = some k → k < g) : Beside w0 w wd o z := fun W h1 h2 h3 =>
  h W h1 h2 (fun b b1 b2 _ => h3 b (by omega) b2 (fun e => by have := ho b e.symm; omega))
end Go.Proofs.YtldgbdmiebipnaaGreatDoor

namespace Go.Proofs.YtldgbdmiebipnaaGreatDoor
open Go.RowKit

/-- What a call leaves that makes a term. -/
def MadePost (u : Tm) (w0 w : World) (e : Ending) (w' : World) : Prop := ∃ z : Tv, e = .returned z.val ∧ z.t = u ∧ Fresh w0 w w' z ∧ Below w.heap.size w w'
/-- A term over a row of the call's own, behind a call that makes nothing of note. -/
theorem made_row {w0 w wz wr w5 : World} {a : Option Addr} {c n : Nat} {vs : List Tv} {k : Int} {s : ByteArray} {nn : Int} {ts : List Tm} (hn : ts.length = n) (hvt : vs.map Tv.t = ts) (hfit : Fit k s nn) (hlen : n ≤ 9223372036854775807)
    (hown : wr.ownsRow wz.heap.size 100 4 (.slice a n c) n (rowTv vs)) (hvb : ∀ z ∈ vs, Beside w0 wz wr (.slice a n c) z) (hwz : Below w.heap.size w wz) (hbw : Below wz.heap.size wz wr) (hb5 : Below wr.heap.size wr w5) :
    MadePost (.mk k s nn ts) w0 w (.returned (.agg #[.int .i64 k, .string s, .int .i64 nn, .slice a n c])) w5 := by
  have hbe := below_next hbw hb5
  refine ⟨⟨.mk k s nn ts, a, c⟩, by simp [Tv.val, Tm.kind, Tm.name, Tm.n, Tm.args, hn], rfl, ?_, hwz.trans (hbe.mono hwz.size)⟩
  have h5 := own_below hown hb5
  refine fresh_row (vs := vs) (n := n) (own_lower h5 hwz.size) hn hvt hfit hlen (fun W hWb hWs hWa v hv => ?_)
  refine hvb v hv W hWb (by have := hb5.size; omega) (fun k k1 k2 _ => ?_)
  rw [hWa k (by have := hwz.size; omega) (by have := hb5.size; omega)]
  exact hb5.block k k2
/-- Likewise, where the answer was put into a box of the call's own. -/
theorem made_box {w0 w wz wr w5 : World} {a : Option Addr} {c n : Nat} {vs : List Tv} {k : Int} {s : ByteArray} {nn : Int} {ts : List Tm} (hn : ts.length = n) (hvt : vs.map Tv.t = ts) (hfit : Fit k s nn) (hlen : n ≤ 9223372036854775807)
    (hown : wr.ownsRow wz.heap.size 100 4 (.slice a n c) n (rowTv vs)) (hvb : ∀ z ∈ vs, Beside w0 wz wr (.slice a n c) z) (hwz : Below w.heap.size w wz) (hbw : Below wz.heap.size wz wr) (hb5 : Below wr.heap.size wr w5)
    {g : Nat} (hg : w.heap.size ≤ g) (hg2 : g < wz.heap.size) (u0 u1 u2 u3 : Value) :
    MadePost (.mk k s nn ts) w0 w (.returned (.agg #[.int .i64 k, .string s, .int .i64 nn, .slice a n c])) ((((w5.setCell ⟨g, 0, none⟩ u0).setCell ⟨g, 1, none⟩ u1).setCell ⟨g, 2, none⟩ u2).setCell ⟨g, 3, none⟩ u3) := by
  have hbe := below_next hbw hb5
  refine ⟨⟨.mk k s nn ts, a, c⟩, by simp [Tv.val, Tm.kind, Tm.name, Tm.n, Tm.args, hn], rfl, ?_, below_sets (hwz.trans (hbe.mono hwz.size)) hg _ _ _ _⟩
  have h5 := own_below hown hb5
  have h8 := own_setCell (own_setCell (own_setCell (own_setCell h5 (p := ⟨g, 0, none⟩) hg2 u0) (p := ⟨g, 1, none⟩) hg2 u1) (p := ⟨g, 2, none⟩) hg2 u2) (p := ⟨g, 3, none⟩) hg2 u3
  refine fresh_row (vs := vs) (n := n) (own_lower h8 hwz.size) hn hvt hfit hlen (fun W hWb hWs hWa v hv => ?_)
  have hkk : ∀ k, k ≠ g → ((((w5.setCell ⟨g, 0, none⟩ u0).setCell ⟨g, 1, none⟩ u1).setCell ⟨g, 2, none⟩ u2).setCell ⟨g, 3, none⟩ u3).heap[k]? = w5.heap[k]? := fun k hkR => by
    rw [Below.heap_setCell _ _ _ _ hkR, Below.heap_setCell _ _ _ _ hkR, Below.heap_setCell _ _ _ _ hkR, Below.heap_setCell _ _ _ _ hkR]
  have hz := hwz.size
  have hsz5 := hb5.size
  refine hvb v hv W hWb (by simp at hWs; omega) (fun k k1 k2 _ => ?_)
  rw [hWa k (by omega) (by simp; omega), hkk k (by omega)]
  exact hb5.block k k2
end Go.Proofs.YtldgbdmiebipnaaGreatDoor

namespace Go.Proofs.YtldgbdmiebipnaaGreatDoor
open Go.RowKit

set_option maxHeartbeats 400000 in
theorem of_any (k : Int) (s : ByteArray) (n : Int) (a : Option Addr) (l c : Nat) (w : World) :
    Calls Tryz.prog 68 #[.int .i64 k, .string s, .int .i64 n, .slice a l c] w fun e w' => e = .returned (.agg #[.int .i64 k, .string s, .int .i64 n, .slice a l c]) ∧ Below w.heap.size w w' := by
  go_enter Tryz.func68, Tryz.ntmps68
  go_wp2_with fail
  exact bodyPost_ret (v := .agg #[.int .i64 k, .string s, .int .i64 n, .slice a l c]) (by simp [results, Tryz.results68, go_sem]) rfl ⟨rfl, (Below.refl _ _).alloc (Nat.le_refl _) _⟩
end Go.Proofs.YtldgbdmiebipnaaGreatDoor
