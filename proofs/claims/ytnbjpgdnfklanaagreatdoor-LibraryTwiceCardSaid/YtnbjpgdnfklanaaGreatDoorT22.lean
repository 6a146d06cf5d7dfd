/-
  All parts of a term, one after the other, as long as they are asked for: the program's All, for any term in memory: what the range over it tells.
  A box of four cells that a range over a function leaves as it was. No function of the program.
  A box of four cells that a range over a function leaves as it was (BoxOw), with the range over All. No function of the program.
  The set that goes with a row of names, as data. No function of the program.
-/
import Derived.RangeFuncNested
import Derived.RangeFuncBound
import Derived.RangeFuncCalls
import Derived.RangeFuncLeaves
import Derived.Shelf.Abstract
import Derived.Shelf.RegionOpen
import Derived.WalkKit
import Derived.OwnWalkIn
import Derived.TacticsInMore
import Derived.LoopNIn
import Derived.LoopIn
import Derived.Test.YtnbjpgdnfklanaaGreatDoorT01
import Derived.Maps.OwnSet
import Derived.Maps.Views
import Derived.StringKeys
namespace Go.Proofs.YtnbjpgdnfklanaaGreatDoor
open Go.RowKit Go.Shelf
attribute [local go_sem] Oper.semAt_some
theorem room_of_none {F : Fence} (hd : F.depth = none) (k : Nat) : F.room k := fun d h => by rw [hd] at h; cases h
theorem round_anyDepth {F : Fence} (hd : F.depth = none) {m m' : Nat} {P : Program} {l : Nat} {f : FuncId} {tmps : Array Value} {assign body : Code} {w : World} {R : Ending → World → Prop}
    (h : RoundIn F m P l f tmps assign body w R) : RoundIn F m' P l f tmps assign body w R := ⟨h.1, fun c cs _ => h.2 c cs (room_of_none hd _)⟩
theorem yield_anyDepth {F : Fence} (hd : F.depth = none) {m : Nat} (m' : Nat) {P : Program} {l : Nat} {args : Array Value} {W : World} {R : Ending → World → Prop} (h : YieldAt F m P l args W R) : YieldAt F m' P l args W R := by
  obtain ⟨fn, tmps, assign, body, hy, hR⟩ := h
  exact ⟨fn, tmps, assign, body, hy, round_anyDepth hd hR⟩
abbrev TvIn (w0 : World) := { x : Tv // x.ok w0 }
def tms {w0 : World} (l : List (TvIn w0)) : List Tm := l.map fun x => x.1.t
theorem tms_append {w0 : World} (a b : List (TvIn w0)) : tms (a ++ b) = tms a ++ tms b := List.map_append
theorem tms_length {w0 : World} (a : List (TvIn w0)) : (tms a).length = a.length := List.length_map ..
theorem prefix_deep {t : Tm} {xs : List Tm} {j : Nat} {k : Int} {s : ByteArray} {n : Int} (ht : t = .mk k s n xs) (hj : j < xs.length) {q : List Tm} (hq : q <+: xs[j].all) : (t :: (allL (xs.take j) ++ q)) <+: t.all := by
  subst ht
  rw [Tm.all, List.cons_prefix_cons]
  refine ⟨rfl, ?_⟩
  obtain ⟨r, hr⟩ := hq
  refine ⟨r ++ allL (xs.drop (j + 1)), ?_⟩
  rw [List.append_assoc, ← List.append_assoc q, hr, ← List.append_assoc, ← allL_take hj, ← allL_append, List.take_append_drop]
structure KeepsT (n₀ : Nat) (W W' : World) : Prop where
  below : Below n₀ W W'
  same : ∀ (k : Nat) (c : Array Value) (f : Nat × Nat), c.size = 4 → W.heap[k]? = some (Obj.cells c 50 f) → W'.heap[k]? = some (Obj.cells c 50 f)
theorem KeepsT.refl (n₀ : Nat) (W : World) : KeepsT n₀ W W := ⟨Below.refl _ _, fun _ _ _ _ h => h⟩
theorem KeepsT.trans {n₀ : Nat} {A B C : World} (h : KeepsT n₀ A B) (k : KeepsT n₀ B C) : KeepsT n₀ A C := ⟨h.below.trans k.below, fun i c f h4 hi => k.same i c f h4 (h.same i c f h4 hi)⟩
theorem KeepsT.alloc {n₀ : Nat} {A B : World} (h : KeepsT n₀ A B) (hn : n₀ ≤ B.heap.size) (o : Obj) : KeepsT n₀ A (B.alloc o) :=
  ⟨h.below.alloc hn o, fun k c f h4 hk => by
    have := h.same k c f h4 hk
    rw [Below.heap_alloc _ _ _ (Array.getElem?_eq_some_iff.1 this).1]; exact this⟩
theorem KeepsT.grown {n₀ : Nat} {A B C : World} (h : KeepsT n₀ A B) {row : Option Nat} (hg : B.grownBy C row) (hn : n₀ ≤ B.heap.size) (hr : ∀ k, row = some k → n₀ ≤ k ∧ ∀ c f, B.heap[k]? ≠ some (Obj.cells c 50 f)) : KeepsT n₀ A C :=
  ⟨h.below.grown hg hn (fun k e => (hr k e).1), fun k c f h4 hk => by
    have := h.same k c f h4 hk
    rw [hg.block k (Array.getElem?_eq_some_iff.1 this).1 (fun e => (hr k e.symm).2 c f this)]; exact this⟩
theorem KeepsT.setBox {n₀ : Nat} {A W : World} (h : KeepsT n₀ A W) {B : Nat} {t : TypeId} {v : Value} (hb : Boxed W B t v) (ht : t ≠ 50) (hB : n₀ ≤ B) (u : Value) : KeepsT n₀ A (W.setCell ⟨B, 0, none⟩ u) :=
  ⟨h.below.setCell (p := ⟨B, 0, none⟩) hB u, fun k c f h4 hk => by
    have h1 := h.same k c f h4 hk
    have h2 : W.heap[B]? = some (Obj.cells #[v] t (0, 0)) := hb
    rw [Below.heap_setCell _ _ _ _ (fun e => by
      subst e
      rw [h2] at h1
      injection h1 with h1
      injection h1 with _ h1 _
      exact ht h1)]
    exact h1⟩
theorem keepsT_t {n₀ : Nat} {A B C : World} (h : KeepsT n₀ A B) (k : KeepsT n₀ B C) : KeepsT n₀ A C := h.trans k
theorem keepsT_b {n₀ : Nat} {w : World} (hn : n₀ ≤ w.heap.size) (W : World) (l : Nat) (o o' : Obj) (hl : w.heap.size ≤ l) (h : W.heap[l]? = some o) (hc : o.isCells = false) (_ : o.isWalk = false) : KeepsT n₀ W (W.putObj l o') :=
  (KeepsT.refl n₀ W).grown (grownBy_putObj' W l o') (by have := (Array.getElem?_eq_some_iff.1 h).1; omega) (fun k e => by
    cases e
    refine ⟨by omega, fun c f e => ?_⟩
    rw [h] at e
    injection e with e
    subst e
    cases hc)
theorem KeepsT.box {n₀ : Nat} {W W' : World} {x0 x1 x2 x3 : Value} (h : KeepsT n₀ (W.alloc (.cells #[x0, x1, x2, x3] 50)) W') : Box W' W.heap.size x0 x1 x2 x3 := by
  have h1 := h.same W.heap.size #[x0, x1, x2, x3] (0, 0) rfl (World.alloc_heap_new W _)
  constructor <;> simp [World.cell?, World.frozen?, h1]
def TellPost (w0 : World) (J Jx : List (TvIn w0) → World → Prop) (pre : List (TvIn w0)) (t : Tm) (W : World) (e : Ending) (W' : World) : Prop :=
  (e = .returned (.bool true) ∧ ∃ ys : List (TvIn w0), tms ys = t.all ∧ J (pre ++ ys) W' ∧ KeepsT w0.heap.size W W') ∨ (e = .returned (.bool false) ∧ ∃ ys : List (TvIn w0), tms ys <+: t.all ∧ Jx (pre ++ ys) W')
set_option maxRecDepth 100000 in
set_option maxHeartbeats 2000000 in
theorem tell_in (F : Fence) (hd : F.depth = none) (hF : F.fn 130) (hro : F.round = none) (w0 : World) (l N : Nat) (J Jx : List (TvIn w0) → World → Prop)
    (hJ : ∀ pre W o, J pre W → J pre (W.alloc o))
    (hY : ∀ m pre (x : TvIn w0) W, J pre W → pre.length < N → YieldAt F m Tryz.prog l #[x.1.val] W fun e W' =>
      (e = .returned (.bool true) ∧ J (pre ++ [x]) W' ∧ KeepsT w0.heap.size W W') ∨ (e = .returned (.bool false) ∧ Jx (pre ++ [x]) W')) (m : Nat) :
    ∀ (n : Nat) (x : TvIn w0) (pre : List (TvIn w0)) (W : World), x.1.t.parts ≤ m → Below w0.heap.size w0 W → J pre W → pre.length + x.1.t.parts ≤ N →
      CallsIn F n Tryz.prog 130 #[x.1.val, .func (.yield l) #[] #[]] W (TellPost w0 J Jx pre x.1.t W) := by
  induction m with
  | zero => intro n x pre W h; have := parts_pos x.1.t; omega
  | succ m ih =>
    intro n x pre W hm hB hJ0 hN
    have hdd : ∀ k : Nat, (F.depth.isSome = true → 1 ≤ k) := fun k h => by rw [hd] at h; cases h
    obtain ⟨⟨⟨k, s, z, xs⟩, a, c⟩, hx⟩ := x
    have hxk := hx
    obtain ⟨_, hxl, hxr⟩ := hxk
    have hpe : (Tm.mk k s z xs).parts = partsL xs + 1 := parts_eq _
    simp only [Tm.args] at hxl hxr hm hN ⊢
    have hpl : ∀ j (h : j < xs.length), xs[j].parts ≤ m := fun j h => by
      have := parts_arg (.mk k s z xs) (j := j) h
      have e : (Tm.mk k s z xs).args[j] = xs[j] := rfl
      rw [e] at this; omega
    have hy1 := hY (n - 1) pre ⟨⟨.mk k s z xs, a, c⟩, hx⟩ (W.alloc (.cells #[.int .i64 k, .string s, .int .i64 z, .slice a xs.length c] 50)) (hJ _ _ _ hJ0) (by omega)
    simp only [Tv.val, Tm.kind, Tm.name, Tm.n, Tm.args] at hy1 ⊢
    have hBa : KeepsT w0.heap.size W (W.alloc (.cells #[.int .i64 k, .string s, .int .i64 z, .slice a xs.length c] 50)) := (KeepsT.refl _ _).alloc hB.size _
    have IH := Lib.hid ih
    have HY := Lib.hid hY
    have HJ := Lib.hid hJ
    have HP := Lib.hid hpl
    have HN := Lib.hid (show pre.length + (partsL xs + 1) ≤ N by omega)
    obtain ⟨x, hxx⟩ : ∃ x : TvIn w0, x = ⟨⟨.mk k s z xs, a, c⟩, hx⟩ := ⟨_, rfl⟩
    have hxt : x.1.t = .mk k s z xs := by rw [hxx]
    have HT := Lib.hid hxt
    rw [← hxx] at hy1
    clear ih hY hJ hpl hm hN hpe hxx hxt
    refine callsIn_of_wp Tryz.func130 rfl hF ?_ hro
    simp only [Tryz.ntmps130, List.size_toArray, List.length_cons, List.length_nil, Nat.reduceAdd, Nat.reduceSub, Array.replicate_succ, Array.replicate_zero, List.push_toArray, List.append_toArray, List.nil_append, List.cons_append]
    obtain ⟨fn, tmps, assign, body, hy, hR⟩ := hy1
    gi_wp2_with fail
    (try refine ⟨hdd _, ?_⟩)
    refine hR.mono ?_; clear hR hy; rintro e W2 (⟨rfl, hJ2, hk2⟩ | ⟨rfl, hx2⟩)
    · obtain ⟨_, _, _, b3, _, _, _, _⟩ := hk2.box
      have hK := hBa.trans hk2
      have hB2 : Below w0.heap.size w0 W2 := hB.trans hK.below
      clear hk2 hBa
      rcases hxr with rfl | ⟨b, off, rfl, hlt, hr⟩
      · gi_wp2_with fail
        refine wpIn_loop_rounds 1 ?_; rw [roundsIn_succ]
        gi_wp2_with fail
        go_ret
        exact .inl ⟨rfl, [x], by show [x.1.t] = _; rw [HT.out]; rfl, hJ2, hK⟩
      have HR := Lib.hid hr
      clear hr
      gi_wp2_with fail
      gi_loopw [14] (fun i wr => ∃ (j : Nat) (ys : List (TvIn w0)), j ≤ xs.length ∧ i = .int .i64 j ∧ tms ys = x.1.t :: allL (xs.take j) ∧ J (pre ++ ys) wr ∧ KeepsT w0.heap.size W wr) (fun i _ => xs.length - (intOf i).toNat)
      case atStart => exact ⟨0, [x], Nat.zero_le _, rfl, by rw [List.take_zero, allL]; rfl, hJ2, hK⟩
      case round =>
        obtain ⟨j, ys, hj, rfl, hys, hJs, hKs⟩ := hrel
        have hBr := hB.trans hKs.below
        have hbs := hBr.size
        by_cases hjl : j < xs.length
        · have hil : (j : Int) < (xs.length : Int) := by omega
          obtain ⟨u, hu, huk, hat⟩ := tmAt_tv (rowAt_get HR.out hjl)
          obtain ⟨d0, d1, d2, d3⟩ := hat.below hBr
          have hKa := hKs.alloc hbs (.cells #[.int .i64 u.t.kind, .string u.t.name, .int .i64 u.t.n, .slice u.a u.t.args.length u.c] 50)
          have hlen : ys.length = 1 + partsL (xs.take j) := by
            have := congrArg List.length hys
            rw [tms_length, List.length_cons, allL_length] at this; omega
          have hfit : partsL (xs.take j) + xs[j].parts ≤ partsL xs := by
            rw [← partsL_take xs hjl]
            have e := partsL_append (xs.take (j + 1)) (xs.drop (j + 1))
            rw [List.take_append_drop] at e; omega
          have C := Lib.hid (IH.out (n - 1) ⟨u, huk⟩ (pre ++ ys) (wr.alloc (.cells #[.int .i64 u.t.kind, .string u.t.name, .int .i64 u.t.n, .slice u.a u.t.args.length u.c] 50)) (by rw [hu]; exact HP.out j hjl) (hB.trans hKa.below) (HJ.out _ _ _ hJs) (by have := HN.out; rw [hu, List.length_append]; omega))
          simp only [Tv.val] at C
          have HU := Lib.hid hu
          have HYS := Lib.hid hys
          clear hu huk hat hys hlen hfit
          gi_wp2_with fail
          (try refine ⟨hdd _, ?_⟩)
          refine C.out.mono ?_; clear C; rintro e W3 (⟨rfl, zs, hzs, hJ3, hk3⟩ | ⟨rfl, zs, hzs, hx3⟩)
          · have HZS := Lib.hid hzs
            clear hzs
            gi_wp2_with fail
            go_roundw
            case rel => exact ⟨j + 1, ys ++ zs, by omega, by go_num, by rw [tms_append, HYS.out, HZS.out, allL_take hjl, HU.out, List.cons_append], by rw [← List.append_assoc]; exact hJ3, hKa.trans hk3⟩
            case measure => simp [intOf]; omega
          · have HZS := Lib.hid hzs
            clear hzs
            gi_wp2_with fail
            go_ret
            exact .inr ⟨rfl, ys ++ zs, by rw [tms_append, HYS.out, List.cons_append, HT.out]; exact prefix_deep rfl hjl (by rw [← HU.out]; exact HZS.out), by rw [← List.append_assoc]; exact hx3⟩
        · obtain rfl : j = xs.length := by omega
          have HYS := Lib.hid hys
          clear hys
          gi_wp2_with fail
          go_ret
          exact .inl ⟨rfl, ys, by rw [HYS.out, HT.out, List.take_length, Tm.all], hJs, hKs⟩
    · gi_wp2_with fail
      go_ret
      exact .inr ⟨rfl, [x], by show [x.1.t] <+: _; rw [HT.out, Tm.all, List.cons_prefix_cons]; exact ⟨rfl, List.nil_prefix⟩, hx2⟩
theorem abides_alloc {β : Type} {B : Nat} {J : β → World → Prop} (h : AbidesFrom B J) : ∀ pre W o, J pre W → J pre (W.alloc o) := fun pre W o hj => h pre W _ none hj (World.grownBy_alloc W o none) (fun r e => by cases e)
set_option maxHeartbeats 1000000 in
theorem all1_in (F : Fence) (hd : F.depth = none) (n : Nat) (hF : F.fn 129) (hF2 : F.fn 130) (hro : F.round = none) (w0 : World) (l Bt : Nat) (x : TvIn w0) (J Jx : List (TvIn w0) → World → Prop)
    (hJ : ∀ pre W o, J pre W → J pre (W.alloc o))
    (hY : ∀ pre (y : TvIn w0) W, J pre W → pre.length < x.1.t.parts → YieldAt F (n - 1) Tryz.prog l #[y.1.val] W fun e W' =>
      (e = .returned (.bool true) ∧ J (pre ++ [y]) W' ∧ KeepsT w0.heap.size W W') ∨ (e = .returned (.bool false) ∧ Jx (pre ++ [y]) W'))
    (W : World) (hBt : Box W Bt (.int .i64 x.1.t.kind) (.string x.1.t.name) (.int .i64 x.1.t.n) (.slice x.1.a x.1.t.args.length x.1.c)) (hB : Below w0.heap.size w0 W) (h0 : J [] W) :
    CallsIn F n Tryz.prog 129 #[.func (.yield l) #[] #[], .pointer (some ⟨Bt, 0, none⟩)] W fun e W' => (∃ v, e = .returned v) ∧
      ((∃ ys, tms ys = x.1.t.all ∧ J ys W') ∨ (∃ pre, tms pre <+: x.1.t.all ∧ Jx pre W')) := by
  have hdd : ∀ k : Nat, (F.depth.isSome = true → 1 ≤ k) := fun k h => by rw [hd] at h; cases h
  have hp := Lib.hid (tell_in F hd hF2 hro w0 l x.1.t.parts J Jx hJ (fun m pre y W hj hl => yield_anyDepth hd m (hY pre y W hj hl)) x.1.t.parts (n - 1) x [] W (Nat.le_refl _) hB h0 (by simp))
  obtain ⟨⟨t, a, c⟩, hx⟩ := x
  obtain ⟨c0, c1, c2, c3, _, _, _, _⟩ := hBt
  simp only [Tv.val] at hp c0 c1 c2 c3 ⊢
  clear hY hJ h0
  refine callsIn_of_wp Tryz.func129 rfl hF ?_ hro
  simp only [Tryz.ntmps129, List.size_toArray, List.length_cons, List.length_nil, Nat.reduceAdd, Nat.reduceSub, Array.replicate_succ, Array.replicate_zero, List.push_toArray, List.append_toArray, List.nil_append, List.cons_append]
  gi_wp2_with fail
  (try refine ⟨hdd _, ?_⟩)
  refine hp.out.mono ?_; clear hp; rintro e W1 (⟨rfl, ys, hys, hJ1, _⟩ | ⟨rfl, ys, hys, hx1⟩)
  · have H := Lib.hid hys
    clear hys
    gi_wp2_with fail
    go_end0
    exact ⟨⟨_, rfl⟩, .inl ⟨ys, H.out, hJ1⟩⟩
  · have H := Lib.hid hys
    clear hys
    gi_wp2_with fail
    go_end0
    exact ⟨⟨_, rfl⟩, .inr ⟨ys, H.out, hx1⟩⟩
set_option maxHeartbeats 1000000 in
theorem all_in (F : Fence) (n : Nat) (hF : F.fn 124) (hro : F.round = none) (x : Tv) (w : World) :
    CallsIn F n Tryz.prog 124 #[x.val] w fun e w' => e = .returned (.func (.func 129) #[] #[.pointer (some ⟨w.heap.size, 0, none⟩)]) ∧ w' = w.alloc (.cells #[.int .i64 x.t.kind, .string x.t.name, .int .i64 x.t.n, .slice x.a x.t.args.length x.c] 50) := by
  obtain ⟨t, a, c⟩ := x
  simp only [Tv.val]
  refine callsIn_of_wp Tryz.func124 rfl hF ?_ hro
  simp only [Tryz.ntmps124, List.size_toArray, List.length_cons, List.length_nil, Nat.reduceAdd, Nat.reduceSub, Array.replicate_succ, Array.replicate_zero, List.push_toArray, List.append_toArray, List.nil_append, List.cons_append]
  gi_wp2_with fail
  go_ret
  exact ⟨rfl, rfl⟩
theorem all_stops (F : Fence) (hd : F.depth = none) (n : Nat) (hF : F.fn 129) (hF2 : F.fn 130) (hro : F.round = none) (w0 : World) (Bt : Nat) (x : TvIn w0) (w : World) (hBt : Bt < w.heap.size)
    (hc : Box w Bt (.int .i64 x.1.t.kind) (.string x.1.t.name) (.int .i64 x.1.t.n) (.slice x.1.a x.1.t.args.length x.1.c)) (hB : Below w0.heap.size w0 w) :
    SeqStopsK F n Tryz.prog 129 #[.pointer (some ⟨Bt, 0, none⟩)] (fun y : TvIn w0 => #[y.1.val]) (KeepsT w0.heap.size) (fun ys => tms ys = x.1.t.all) (fun pre => tms pre <+: x.1.t.all) x.1.t.parts w := fun l J Jx W hW hJ _ hY h0 =>
  all1_in F hd n hF hF2 hro w0 l Bt x J Jx (abides_alloc hJ) hY W (hc.below hW hBt) (hB.trans (hW.mono hB.size)) h0
end Go.Proofs.YtnbjpgdnfklanaaGreatDoor

namespace Go.Proofs.YtnbjpgdnfklanaaGreatDoor
open Go.RowKit
theorem box_kept {W W' : World} {B : Nat} {x0 x1 x2 x3 : Value} (h : Box W B x0 x1 x2 x3) (hb : W'.heap[B]? = W.heap[B]?) : Box W' B x0 x1 x2 x3 := by
  obtain ⟨c0, c1, c2, c3, f0, f1, f2, f3⟩ := h
  constructor <;> simp only [World.cell?, World.frozen?, hb] at * <;> assumption
theorem box_own {β : Type} (B : Nat) (x0 x1 x2 x3 : Value) : Own (fun (_ : β) W => Box W B x0 x1 x2 x3) := fun _ X Y row hs hg hrow => by
  have hc := hs.c0
  have hlt := lt_of_cell hc
  refine box_kept hs (hg.block B hlt fun e => ?_)
  obtain ⟨o, ho, hoc⟩ := hrow B e.symm
  simp only [World.cell?, ho] at hc
  cases o <;> simp_all [Obj.isCells]
theorem box_lt {W : World} {B : Nat} {x0 x1 x2 x3 : Value} (h : Box W B x0 x1 x2 x3) : B < W.heap.size := lt_of_cell h.c0
end Go.Proofs.YtnbjpgdnfklanaaGreatDoor



namespace Go.Proofs.YtnbjpgdnfklanaaGreatDoor
open Go.RowKit
def nameSet (zs : List ByteArray) : DataW Unit := Maps.setOf (.agg []) (zs.map fun s => Lit.string s.data.toList)
theorem nameSet_has (zs : List ByteArray) (s : ByteArray) : Maps.has (nameSet zs) (.string s.data.toList) = Lib.containsS zs s := by
  unfold nameSet
  rw [Maps.has_setOf _ _ _ (by
    intro x hx
    obtain ⟨z, _, rfl⟩ := List.mem_map.1 hx
    simp [WideAt.IsKeyLit])]
  rw [Bool.eq_iff_iff, List.any_eq_true, Lib.containsS_iff]
  constructor
  · rintro ⟨x, hx, he⟩
    obtain ⟨z, hz, rfl⟩ := List.mem_map.1 hx
    have e : z.data.toList = s.data.toList := by simpa [Lit.sameKey] using he
    have : z = s := by
      apply ByteArray.ext; apply Array.ext'; exact e
    rw [← this]; exact hz
  · intro h
    exact ⟨_, List.mem_map.2 ⟨s, h, rfl⟩, by simp [Lit.sameKey]⟩
theorem nameSet_put (zs : List ByteArray) (s : ByteArray) : (nameSet zs).put (.string s.data.toList) (.agg []) = nameSet (zs ++ [s]) := by
  unfold nameSet
  rw [List.map_append, ← Maps.setOf_snoc]; rfl
theorem grown_of_below {w w' : World} (h : Below w.heap.size w w') : w.grownBy w' none := ⟨h.os, h.tape, h.output, h.size, fun k hk _ => h.block k hk⟩
end Go.Proofs.YtnbjpgdnfklanaaGreatDoor
