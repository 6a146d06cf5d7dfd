/-
  The first of some patterns that a term is an instance of, by the program: First.
-/
import Derived.Test.YtcecbdglepneaaaPMatch
import Derived.Test.YtcecbdglepneaaaLawFr6
namespace Go.Proofs.Ytcecbdglepneaaa
open Go.RowKit

set_option maxRecDepth 100000 in
set_option maxHeartbeats 4000000 in
theorem pfirst_any (va : Value) (ps : List Tm) (y : Tv) (w : World) (ha : Tms w va ps) (hy : y.ok w) (hp : ∀ p ∈ ps, p.parts ≤ 300) :
    Calls Try.prog 22 #[va, y.val] w (FirstPost (firstT ps y.t 0) w) := by
  have MA := Lib.hid (fun (x : Tv) (W : World) (h : Below w.heap.size w W) (hx : x.ok w) (hxp : x.t.parts ≤ 300) => pmatch_any x y W (hx.below h) (hy.below h) (by omega))
  have HP := Lib.hid hp
  obtain ⟨aa, ca, rfl, hla, hra⟩ := ha.open_
  have HA := Lib.hid hra
  have HHIT := Lib.hid (fun (k : Nat) (hk : k < ps.length) (b : List Bn) (hn : ∀ j (h : j < ps.length), j < k → moreT ps[j] y.t [] = none) (h : moreT ps[k] y.t [] = some b) => (show firstT ps y.t 0 = some (k, b) by have := firstT_hit (i := 0) hk hn h; rwa [Nat.zero_add] at this))
  have HMISS := Lib.hid (fun (hn : ∀ j (h : j < ps.length), moreT ps[j] y.t [] = none) => firstT_none (i := 0) hn)
  obtain ⟨yt, ya, yc⟩ := y
  have hbY := box_new w (.int .i64 yt.kind) (.string yt.name) (.int .i64 yt.n) (.slice ya yt.args.length yc) 25
  have hB1 : Below w.heap.size w (w.alloc (.cells #[.int .i64 yt.kind, .string yt.name, .int .i64 yt.n, .slice ya yt.args.length yc] 25)) := (Below.refl _ _).alloc (Nat.le_refl _) _
  obtain ⟨w1, hw1⟩ : ∃ w1, w1 = w.alloc (.cells #[.int .i64 yt.kind, .string yt.name, .int .i64 yt.n, .slice ya yt.args.length yc] 25) := ⟨_, rfl⟩
  rw [← hw1] at hbY hB1
  have HBY := Lib.hid (fun (V : World) (h : Below w1.heap.size w1 V) => hbY.below h (lt_of_cell hbY.c0))
  have HB1 := Lib.hid hB1
  clear ha hra hy hp hbY hB1
  simp only [Tv.val]
  simp only at MA HHIT HMISS
  go_enter Try.func22, Try.ntmps22
  go_wp2_with fail
  rw [← hw1]
  go_loopw [13] (fun i wr => ∃ (q : Nat), q ≤ ps.length ∧ i = .int .i64 q ∧ Hid (∀ j (h : j < ps.length), j < q → moreT ps[j] yt [] = none) ∧ Below w1.heap.size w1 wr) (fun i _ => ps.length - (intOf i).toNat)
  case atStart => exact ⟨0, Nat.zero_le _, rfl, Lib.hid (fun j _ h => by omega), Below.refl _ _⟩
  case round =>
    obtain ⟨q, hq, rfl, HN, hb⟩ := hrel
    by_cases hql : q < ps.length
    · obtain ⟨b1, o1, rfl, hlt1, hat1⟩ := HA.out.resolve_left (by intro h; rw [h] at hql; simp at hql)
      obtain ⟨⟨xt, xa, xc⟩, hxt, hxo, hxv⟩ := hat1 q hql
      have hk0 : (0 : Int) ≤ (q : Int) := by omega
      have hk1 : (q : Int) < (ps.length : Int) := by omega
      have hkd : decide ((q : Int) < (ps.length : Int)) = true := decide_eq_true hk1
      simp only at hxt
      have hbw := below_next HB1.out hb
      have h1 := fun i => hbw.cell (p := ⟨b1, o1 + q * 4 + i, none⟩) hlt1
      have m0 := (h1 0).trans hxv.c0
      have m1 := (h1 1).trans hxv.c1
      have m2 := (h1 2).trans hxv.c2
      have m3 := (h1 3).trans hxv.c3
      simp only [Nat.add_zero] at m0 m1 m2 m3
      have hbX := box_new wr (.int .i64 xt.kind) (.string xt.name) (.int .i64 xt.n) (.slice xa xt.args.length xc) 25
      have hBX : Below w1.heap.size w1 (wr.alloc (.cells #[.int .i64 xt.kind, .string xt.name, .int .i64 xt.n, .slice xa xt.args.length xc] 25)) := hb.alloc hb.size _
      obtain ⟨p0, p1, p2, p3, _, _, _, _⟩ := HBY.out _ hBX
      obtain ⟨s0, s1, s2, s3, _, _, _, _⟩ := hbX
      have CT := Lib.hid (MA.out ⟨xt, xa, xc⟩ _ (below_next HB1.out hBX) hxo (by show xt.parts ≤ 300; rw [hxt]; exact HP.out _ (List.getElem_mem hql)))
      have HBX := Lib.hid hBX
      have HXT := Lib.hid hxt
      simp only [Tv.val] at CT
      obtain ⟨R, hR⟩ : ∃ R, moreT xt yt [] = R := ⟨_, rfl⟩
      rw [hR] at CT
      have HR := Lib.hid hR
      have HQ := Lib.hid hql
      clear hat1 hxo hxv hxt hb hbw h1 hBX hlt1 hR
      cases R with
      | none =>
        go_wp2_with fail
        refine CT.out.mono ?_; rintro e w3 ⟨u3, rfl, hu3, hb3⟩
        have HB3 := Lib.hid (below_next HBX.out hb3)
        obtain ⟨a3, c3, rfl, _, _⟩ := hu3
        clear hb3 p0 p1 p2 p3 s0 s1 s2 s3 m0 m1 m2 m3
        go_wp2_with fail
        go_roundw
        case rel =>
          refine ⟨q + 1, by have := HQ.out; omega, by go_num, Lib.hid (fun j hj hjq => ?_), HB3.out⟩
          by_cases e : j = q
          · subst e; rw [← HXT.out]; exact HR.out
          · exact HN.out j hj (by omega)
        case measure => have := HQ.out; simp [intOf]; omega
      | some m =>
        have HF := Lib.hid (HHIT.out q HQ.out m HN.out (by rw [← HXT.out]; exact HR.out))
        go_wp2_with fail
        refine CT.out.mono ?_; rintro e w3 ⟨u3, rfl, hu3, hb3⟩
        have HU := Lib.hid hu3
        have HB3 := Lib.hid (below_next HB1.out (below_next HBX.out hb3))
        obtain ⟨a3, c3, rfl, _, _⟩ := hu3
        clear hb3 p0 p1 p2 p3 s0 s1 s2 s3 m0 m1 m2 m3
        go_wp2_with fail
        go_ret3
        rw [HF.out]
        exact ⟨q, _, _, _, rfl, HU.out, ⟨rfl, rfl, rfl⟩, HB3.out⟩
    · have hqe : q = ps.length := by omega
      have hkd : decide ((q : Int) < (ps.length : Int)) = false := decide_eq_false (by omega)
      have hkn : ¬ (q : Int) < (ps.length : Int) := by omega
      have HF := Lib.hid (HMISS.out (fun j hj => HN.out j hj (by omega)))
      have HBE := Lib.hid (below_next HB1.out hb)
      clear hqe hb
      go_wp2_with fail
      go_ret3
      rw [HF.out]
      exact ⟨0, _, [], _, rfl, Bds.none_ _ _ _, ⟨rfl, rfl, rfl⟩, HBE.out⟩
end Go.Proofs.Ytcecbdglepneaaa
