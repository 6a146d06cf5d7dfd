/-
  All parts of a term, one after the other, as long as they are asked for: the program's All, for any term in memory: what the range over it tells.
  The first place of a part, by the program's Find.
  A box of four cells that a range over a function leaves as it was. No function of the program.
  Ranges over functions within ranges: their marks, what the body of a round leaves as it was. No function of the program but what All's range is said by.
  A drawn region whose operations read and whose callees make new memory alone, walked once in the order of the text: Quiet's theorem at the class of the worlds that lie behind a given one. No function of the program.
-/
import Derived.RangeFuncNested
import Derived.RangeFuncBound
import Derived.RangeFuncCalls
import Derived.RangeFuncLeaves
import Derived.Shelf.Abstract
import Derived.Shelf.RegionOpen
import Derived.WalkKit
import Derived.OwnWalkIn
import Derived.TacticsInMore
import Derived.LoopNIn
import Derived.LoopIn
import Derived.Test.YtehpkhcjejlbpaaS02
import Derived.Test.YtehpkhcjejlbpaaS08
import Derived.Test.YtehpkhcjejlbpaaS01
import Derived.Deep.QuietTactic
namespace Go.Proofs.Ytehpkhcjejlbpaa
open Go.RowKit Go.Shelf
attribute [local go_sem] Oper.semAt_some

theorem room_of_none {F : Fence} (hd : F.depth = none) (k : Nat) : F.room k := fun d h => by rw [hd] at h; cases h
theorem round_anyDepth {F : Fence} (hd : F.depth = none) {m m' : Nat} {P : Program} {l : Nat} {f : FuncId} {tmps : Array Value} {assign body : Code} {w : World} {R : Ending → World → Prop}
    (h : RoundIn F m P l f tmps assign body w R) : RoundIn F m' P l f tmps assign body w R := ⟨h.1, fun c cs _ => h.2 c cs (room_of_none hd _)⟩
theorem yield_anyDepth {F : Fence} (hd : F.depth = none) {m : Nat} (m' : Nat) {P : Program} {l : Nat} {args : Array Value} {W : World} {R : Ending → World → Prop} (h : YieldAt F m P l args W R) : YieldAt F m' P l args W R := by
  obtain ⟨fn, tmps, assign, body, hy, hR⟩ := h
  exact ⟨fn, tmps, assign, body, hy, round_anyDepth hd hR⟩

/-- A term of w0, as a value. -/
abbrev TvIn (w0 : World) := { x : Tv // x.ok w0 }
/-- What they are terms of. -/
def tms {w0 : World} (l : List (TvIn w0)) : List Tm := l.map fun x => x.1.t
theorem tms_append {w0 : World} (a b : List (TvIn w0)) : tms (a ++ b) = tms a ++ tms b := List.map_append
theorem tms_length {w0 : World} (a : List (TvIn w0)) : (tms a).length = a.length := List.length_map ..
theorem prefix_deep {t : Tm} {xs : List Tm} {j : Nat} {k : Int} {s : ByteArray} {n : Int} (ht : t = .mk k s n xs) (hj : j < xs.length) {q : List Tm} (hq : q <+: xs[j].all) : (t :: (allL (xs.take j) ++ q)) <+: t.all := by
  subst ht
  rw [Tm.all, List.cons_prefix_cons]
  refine ⟨rfl, ?_⟩
  obtain ⟨r, hr⟩ := hq
  refine ⟨r ++ allL (xs.drop (j + 1)), ?_⟩
  rw [List.append_assoc, ← List.append_assoc q, hr, ← List.append_assoc, ← allL_take hj, ← allL_append, List.take_append_drop]

/-- What a round leaves as it was: all that lay when the call began, and every box of one term. -/
structure KeepsT (n₀ : Nat) (W W' : World) : Prop where
  below : Below n₀ W W'
  same : ∀ (k : Nat) (c : Array Value) (f : Nat × Nat), c.size = 4 → W.heap[k]? = some (Obj.cells c 40 f) → W'.heap[k]? = some (Obj.cells c 40 f)
theorem KeepsT.refl (n₀ : Nat) (W : World) : KeepsT n₀ W W := ⟨Below.refl _ _, fun _ _ _ _ h => h⟩
theorem KeepsT.trans {n₀ : Nat} {A B C : World} (h : KeepsT n₀ A B) (k : KeepsT n₀ B C) : KeepsT n₀ A C := ⟨h.below.trans k.below, fun i c f h4 hi => k.same i c f h4 (h.same i c f h4 hi)⟩
theorem KeepsT.alloc {n₀ : Nat} {A B : World} (h : KeepsT n₀ A B) (hn : n₀ ≤ B.heap.size) (o : Obj) : KeepsT n₀ A (B.alloc o) :=
  ⟨h.below.alloc hn o, fun k c f h4 hk => by
    have := h.same k c f h4 hk
    rw [Below.heap_alloc _ _ _ (Array.getElem?_eq_some_iff.1 this).1]; exact this⟩
/-- Behind growth that turns one block at most, which is no box of a term. -/
theorem KeepsT.grown {n₀ : Nat} {A B C : World} (h : KeepsT n₀ A B) {row : Option Nat} (hg : B.grownBy C row) (hn : n₀ ≤ B.heap.size) (hr : ∀ k, row = some k → n₀ ≤ k ∧ ∀ c f, B.heap[k]? ≠ some (Obj.cells c 40 f)) : KeepsT n₀ A C :=
  ⟨h.below.grown hg hn (fun k e => (hr k e).1), fun k c f h4 hk => by
    have := h.same k c f h4 hk
    rw [hg.block k (Array.getElem?_eq_some_iff.1 this).1 (fun e => (hr k e.symm).2 c f this)]; exact this⟩
theorem KeepsT.setBox {n₀ : Nat} {A W : World} (h : KeepsT n₀ A W) {B : Nat} {t : TypeId} {v : Value} (hb : Boxed W B t v) (ht : t ≠ 40) (hB : n₀ ≤ B) (u : Value) : KeepsT n₀ A (W.setCell ⟨B, 0, none⟩ u) :=
  ⟨h.below.setCell (p := ⟨B, 0, none⟩) hB u, fun k c f h4 hk => by
    have h1 := h.same k c f h4 hk
    have h2 : W.heap[B]? = some (Obj.cells #[v] t (0, 0)) := hb
    rw [Below.heap_setCell _ _ _ _ (fun e => by
      subst e
      rw [h2] at h1
      injection h1 with h1
      injection h1 with _ h1 _
      exact ht h1)]
    exact h1⟩
theorem keepsT_t {n₀ : Nat} {A B C : World} (h : KeepsT n₀ A B) (k : KeepsT n₀ B C) : KeepsT n₀ A C := h.trans k
theorem keepsT_b {n₀ : Nat} {w : World} (hn : n₀ ≤ w.heap.size) (W : World) (l : Nat) (o o' : Obj) (hl : w.heap.size ≤ l) (h : W.heap[l]? = some o) (hc : o.isCells = false) (_ : o.isWalk = false) : KeepsT n₀ W (W.putObj l o') :=
  (KeepsT.refl n₀ W).grown (grownBy_putObj' W l o') (by have := (Array.getElem?_eq_some_iff.1 h).1; omega) (fun k e => by
    cases e
    refine ⟨by omega, fun c f e => ?_⟩
    rw [h] at e
    injection e with e
    subst e
    cases hc)
/-- A box of a term, behind what leaves them. -/
theorem KeepsT.box {n₀ : Nat} {W W' : World} {x0 x1 x2 x3 : Value} (h : KeepsT n₀ (W.alloc (.cells #[x0, x1, x2, x3] 40)) W') : Box W' W.heap.size x0 x1 x2 x3 := by
  have h1 := h.same W.heap.size #[x0, x1, x2, x3] (0, 0) rfl (World.alloc_heap_new W _)
  constructor <;> simp [World.cell?, World.frozen?, h1]

/-- What a call of tell leaves. -/
def TellPost (w0 : World) (J Jx : List (TvIn w0) → World → Prop) (pre : List (TvIn w0)) (t : Tm) (W : World) (e : Ending) (W' : World) : Prop :=
  (e = .returned (.bool true) ∧ ∃ ys : List (TvIn w0), tms ys = t.all ∧ J (pre ++ ys) W' ∧ KeepsT w0.heap.size W W') ∨ (e = .returned (.bool false) ∧ ∃ ys : List (TvIn w0), tms ys <+: t.all ∧ Jx (pre ++ ys) W')

set_option maxRecDepth 100000 in
set_option maxHeartbeats 2000000 in
theorem tell_in (F : Fence) (hd : F.depth = none) (hF : F.fn 48) (hro : F.round = none) (w0 : World) (l N : Nat) (J Jx : List (TvIn w0) → World → Prop)
    (hJ : ∀ pre W o, J pre W → J pre (W.alloc o))
    (hY : ∀ m pre (x : TvIn w0) W, J pre W → pre.length < N → YieldAt F m Try.prog l #[x.1.val] W fun e W' =>
      (e = .returned (.bool true) ∧ J (pre ++ [x]) W' ∧ KeepsT w0.heap.size W W') ∨ (e = .returned (.bool false) ∧ Jx (pre ++ [x]) W')) (m : Nat) :
    ∀ (n : Nat) (x : TvIn w0) (pre : List (TvIn w0)) (W : World), x.1.t.parts ≤ m → Below w0.heap.size w0 W → J pre W → pre.length + x.1.t.parts ≤ N →
      CallsIn F n Try.prog 48 #[x.1.val, .func (.yield l) #[] #[]] W (TellPost w0 J Jx pre x.1.t W) := by
  induction m with
  | zero => intro n x pre W h; have := parts_pos x.1.t; omega
  | succ m ih =>
    intro n x pre W hm hB hJ0 hN
    have hdd : ∀ k : Nat, (F.depth.isSome = true → 1 ≤ k) := fun k h => by rw [hd] at h; cases h
    obtain ⟨⟨⟨k, s, z, xs⟩, a, c⟩, hx⟩ := x
    have hxk := hx
    obtain ⟨_, hxl, hxr⟩ := hxk
    have hpe : (Tm.mk k s z xs).parts = partsL xs + 1 := parts_eq _
    simp only [Tm.args] at hxl hxr hm hN ⊢
    have hpl : ∀ j (h : j < xs.length), xs[j].parts ≤ m := fun j h => by
      have := parts_arg (.mk k s z xs) (j := j) h
      have e : (Tm.mk k s z xs).args[j] = xs[j] := rfl
      rw [e] at this; omega
    have hy1 := hY (n - 1) pre ⟨⟨.mk k s z xs, a, c⟩, hx⟩ (W.alloc (.cells #[.int .i64 k, .string s, .int .i64 z, .slice a xs.length c] 40)) (hJ _ _ _ hJ0) (by omega)
    simp only [Tv.val, Tm.kind, Tm.name, Tm.n, Tm.args] at hy1 ⊢
    have hBa : KeepsT w0.heap.size W (W.alloc (.cells #[.int .i64 k, .string s, .int .i64 z, .slice a xs.length c] 40)) := (KeepsT.refl _ _).alloc hB.size _
    have IH := Lib.hid ih
    have HY := Lib.hid hY
    have HJ := Lib.hid hJ
    have HP := Lib.hid hpl
    have HN := Lib.hid (show pre.length + (partsL xs + 1) ≤ N by omega)
    obtain ⟨x, hxx⟩ : ∃ x : TvIn w0, x = ⟨⟨.mk k s z xs, a, c⟩, hx⟩ := ⟨_, rfl⟩
    have hxt : x.1.t = .mk k s z xs := by rw [hxx]
    have HT := Lib.hid hxt
    rw [← hxx] at hy1
    clear ih hY hJ hpl hm hN hpe hxx hxt
    refine callsIn_of_wp Try.func48 rfl hF ?_ hro
    simp only [Try.ntmps48, List.size_toArray, List.length_cons, List.length_nil, Nat.reduceAdd, Nat.reduceSub, Array.replicate_succ, Array.replicate_zero, List.push_toArray, List.append_toArray, List.nil_append, List.cons_append]
    obtain ⟨fn, tmps, assign, body, hy, hR⟩ := hy1
    gi_wp2_with fail
    (try refine ⟨hdd _, ?_⟩)
    refine hR.mono ?_; clear hR hy; rintro e W2 (⟨rfl, hJ2, hk2⟩ | ⟨rfl, hx2⟩)
    · obtain ⟨_, _, _, b3, _, _, _, _⟩ := hk2.box
      have hK := hBa.trans hk2
      have hB2 : Below w0.heap.size w0 W2 := hB.trans hK.below
      clear hk2 hBa
      rcases hxr with rfl | ⟨b, off, rfl, hlt, hr⟩
      · gi_wp2_with fail
        refine wpIn_loop_rounds 1 ?_; rw [roundsIn_succ]
        gi_wp2_with fail
        go_ret
        exact .inl ⟨rfl, [x], by show [x.1.t] = _; rw [HT.out]; rfl, hJ2, hK⟩
      have HR := Lib.hid hr
      clear hr
      gi_wp2_with fail
      gi_loopw [14] (fun i wr => ∃ (j : Nat) (ys : List (TvIn w0)), j ≤ xs.length ∧ i = .int .i64 j ∧ tms ys = x.1.t :: allL (xs.take j) ∧ J (pre ++ ys) wr ∧ KeepsT w0.heap.size W wr) (fun i _ => xs.length - (intOf i).toNat)
      case atStart => exact ⟨0, [x], Nat.zero_le _, rfl, by rw [List.take_zero, allL]; rfl, hJ2, hK⟩
      case round =>
        obtain ⟨j, ys, hj, rfl, hys, hJs, hKs⟩ := hrel
        have hBr := hB.trans hKs.below
        have hbs := hBr.size
        by_cases hjl : j < xs.length
        · have hil : (j : Int) < (xs.length : Int) := by omega
          obtain ⟨u, hu, huk, hat⟩ := tmAt_tv (rowAt_get HR.out hjl)
          obtain ⟨d0, d1, d2, d3⟩ := hat.below hBr
          have hKa := hKs.alloc hbs (.cells #[.int .i64 u.t.kind, .string u.t.name, .int .i64 u.t.n, .slice u.a u.t.args.length u.c] 40)
          have hlen : ys.length = 1 + partsL (xs.take j) := by
            have := congrArg List.length hys
            rw [tms_length, List.length_cons, allL_length] at this; omega
          have hfit : partsL (xs.take j) + xs[j].parts ≤ partsL xs := by
            rw [← partsL_take xs hjl]
            have e := partsL_append (xs.take (j + 1)) (xs.drop (j + 1))
            rw [List.take_append_drop] at e; omega
          have C := Lib.hid (IH.out (n - 1) ⟨u, huk⟩ (pre ++ ys) (wr.alloc (.cells #[.int .i64 u.t.kind, .string u.t.name, .int .i64 u.t.n, .slice u.a u.t.args.length u.c] 40)) (by rw [hu]; exact HP.out j hjl) (hB.trans hKa.below) (HJ.out _ _ _ hJs) (by have := HN.out; rw [hu, List.length_append]; omega))
          simp only [Tv.val] at C
          have HU := Lib.hid hu
          have HYS := Lib.hid hys
          clear hu huk hat hys hlen hfit
          gi_wp2_with fail
          (try refine ⟨hdd _, ?_⟩)
          refine C.out.mono ?_; clear C; rintro e W3 (⟨rfl, zs, hzs, hJ3, hk3⟩ | ⟨rfl, zs, hzs, hx3⟩)
          · have HZS := Lib.hid hzs
            clear hzs
            gi_wp2_with fail
            go_roundw
            case rel => exact ⟨j + 1, ys ++ zs, by omega, by go_num, by rw [tms_append, HYS.out, HZS.out, allL_take hjl, HU.out, List.cons_append], by rw [← List.append_assoc]; exact hJ3, hKa.trans hk3⟩
            case measure => simp [intOf]; omega
          · have HZS := Lib.hid hzs
            clear hzs
            gi_wp2_with fail
            go_ret
            exact .inr ⟨rfl, ys ++ zs, by rw [tms_append, HYS.out, List.cons_append, HT.out]; exact prefix_deep rfl hjl (by rw [← HU.out]; exact HZS.out), by rw [← List.append_assoc]; exact hx3⟩
        · obtain rfl : j = xs.length := by omega
          have HYS := Lib.hid hys
          clear hys
          gi_wp2_with fail
          go_ret
          exact .inl ⟨rfl, ys, by rw [HYS.out, HT.out, List.take_length, Tm.all], hJs, hKs⟩
    · gi_wp2_with fail
      go_ret
      exact .inr ⟨rfl, [x], by show [x.1.t] <+: _; rw [HT.out, Tm.all, List.cons_prefix_cons]; exact ⟨rfl, List.nil_prefix⟩, hx2⟩

theorem abides_alloc {β : Type} {B : Nat} {J : β → World → Prop} (h : AbidesFrom B J) : ∀ pre W o, J pre W → J pre (W.alloc o) := fun pre W o hj => h pre W _ none hj (World.grownBy_alloc W o none) (fun r e => by cases e)

set_option maxHeartbeats 1000000 in
theorem all1_in (F : Fence) (hd : F.depth = none) (n : Nat) (hF : F.fn 47) (hF2 : F.fn 48) (hro : F.round = none) (w0 : World) (l Bt : Nat) (x : TvIn w0) (J Jx : List (TvIn w0) → World → Prop)
    (hJ : ∀ pre W o, J pre W → J pre (W.alloc o))
    (hY : ∀ pre (y : TvIn w0) W, J pre W → pre.length < x.1.t.parts → YieldAt F (n - 1) Try.prog l #[y.1.val] W fun e W' =>
      (e = .returned (.bool true) ∧ J (pre ++ [y]) W' ∧ KeepsT w0.heap.size W W') ∨ (e = .returned (.bool false) ∧ Jx (pre ++ [y]) W'))
    (W : World) (hBt : Box W Bt (.int .i64 x.1.t.kind) (.string x.1.t.name) (.int .i64 x.1.t.n) (.slice x.1.a x.1.t.args.length x.1.c)) (hB : Below w0.heap.size w0 W) (h0 : J [] W) :
    CallsIn F n Try.prog 47 #[.func (.yield l) #[] #[], .pointer (some ⟨Bt, 0, none⟩)] W fun e W' => (∃ v, e = .returned v) ∧
      ((∃ ys, tms ys = x.1.t.all ∧ J ys W') ∨ (∃ pre, tms pre <+: x.1.t.all ∧ Jx pre W')) := by
  have hdd : ∀ k : Nat, (F.depth.isSome = true → 1 ≤ k) := fun k h => by rw [hd] at h; cases h
  have hp := Lib.hid (tell_in F hd hF2 hro w0 l x.1.t.parts J Jx hJ (fun m pre y W hj hl => yield_anyDepth hd m (hY pre y W hj hl)) x.1.t.parts (n - 1) x [] W (Nat.le_refl _) hB h0 (by simp))
  obtain ⟨⟨t, a, c⟩, hx⟩ := x
  obtain ⟨c0, c1, c2, c3, _, _, _, _⟩ := hBt
  simp only [Tv.val] at hp c0 c1 c2 c3 ⊢
  clear hY hJ h0
  refine callsIn_of_wp Try.func47 rfl hF ?_ hro
  simp only [Try.ntmps47, List.size_toArray, List.length_cons, List.length_nil, Nat.reduceAdd, Nat.reduceSub, Array.replicate_succ, Array.replicate_zero, List.push_toArray, List.append_toArray, List.nil_append, List.cons_append]
  gi_wp2_with fail
  (try refine ⟨hdd _, ?_⟩)
  refine hp.out.mono ?_; clear hp; rintro e W1 (⟨rfl, ys, hys, hJ1, _⟩ | ⟨rfl, ys, hys, hx1⟩)
  · have H := Lib.hid hys
    clear hys
    gi_wp2_with fail
    go_end0
    exact ⟨⟨_, rfl⟩, .inl ⟨ys, H.out, hJ1⟩⟩
  · have H := Lib.hid hys
    clear hys
    gi_wp2_with fail
    go_end0
    exact ⟨⟨_, rfl⟩, .inr ⟨ys, H.out, hx1⟩⟩

set_option maxHeartbeats 1000000 in
theorem all_in (F : Fence) (n : Nat) (hF : F.fn 29) (hro : F.round = none) (x : Tv) (w : World) :
    CallsIn F n Try.prog 29 #[x.val] w fun e w' => e = .returned (.func (.func 47) #[] #[.pointer (some ⟨w.heap.size, 0, none⟩)]) ∧ w' = w.alloc (.cells #[.int .i64 x.t.kind, .string x.t.name, .int .i64 x.t.n, .slice x.a x.t.args.length x.c] 40) := by
  obtain ⟨t, a, c⟩ := x
  simp only [Tv.val]
  refine callsIn_of_wp Try.func29 rfl hF ?_ hro
  simp only [Try.ntmps29, List.size_toArray, List.length_cons, List.length_nil, Nat.reduceAdd, Nat.reduceSub, Array.replicate_succ, Array.replicate_zero, List.push_toArray, List.append_toArray, List.nil_append, List.cons_append]
  gi_wp2_with fail
  go_ret
  exact ⟨rfl, rfl⟩

theorem all_stops (F : Fence) (hd : F.depth = none) (n : Nat) (hF : F.fn 47) (hF2 : F.fn 48) (hro : F.round = none) (w0 : World) (Bt : Nat) (x : TvIn w0) (w : World) (hBt : Bt < w.heap.size)
    (hc : Box w Bt (.int .i64 x.1.t.kind) (.string x.1.t.name) (.int .i64 x.1.t.n) (.slice x.1.a x.1.t.args.length x.1.c)) (hB : Below w0.heap.size w0 w) :
    SeqStopsK F n Try.prog 47 #[.pointer (some ⟨Bt, 0, none⟩)] (fun y : TvIn w0 => #[y.1.val]) (KeepsT w0.heap.size) (fun ys => tms ys = x.1.t.all) (fun pre => tms pre <+: x.1.t.all) x.1.t.parts w := fun l J Jx W hW hJ _ hY h0 =>
  all1_in F hd n hF hF2 hro w0 l Bt x J Jx (abides_alloc hJ) hY W (hc.below hW hBt) (hB.trans (hW.mono hB.size)) h0

set_option maxRecDepth 100000 in
set_option maxHeartbeats 2000000 in
/-- How many parts a term has, by the program's Size. -/
theorem psize_tm (x : Tv) (w : World) (hx : x.ok w) (hp : x.t.parts ≤ 1000000) :
    Calls Try.prog 49 #[x.val] w fun e w' => e = .returned (.int .i64 x.t.parts) ∧ Below w.heap.size w w' := by
  have hS := fun w1 Bt h1 h2 h3 => all_stops Fence.wide rfl (5 - 1) trivial trivial rfl w Bt ⟨x, hx⟩ w1 h1 h2 h3
  have hA := fun w1 => all_in Fence.wide (5 - 1) trivial rfl x w1
  have hl := all_length x.t
  obtain ⟨t, a, c⟩ := x
  simp only [Tv.val] at hS hA hp hl ⊢
  refine callsIn_wide.1 (callsIn_of_wp_marks (n := 5) Try.func49 rfl trivial ?_ rfl)
  simp only [Try.ntmps49, List.size_toArray, List.length_cons, List.length_nil, Nat.reduceAdd, Nat.reduceSub, Array.replicate_succ, Array.replicate_zero, List.push_toArray, List.append_toArray, List.nil_append, List.cons_append]
  gi_wp2_with fail
  refine ⟨trivial, (hA _).mono ?_⟩; rintro e w1 ⟨rfl, rfl⟩
  have hz0 : (w.alloc (.cells #[.int .i64 t.kind, .string t.name, .int .i64 t.n, .slice a t.args.length c] 40)).heap.size = w.heap.size + 1 := by simp
  have hz1 : ((w.alloc (.cells #[.int .i64 t.kind, .string t.name, .int .i64 t.n, .slice a t.args.length c] 40)).alloc (.cells #[.int .i64 0] 3)).heap.size = w.heap.size + 2 := by simp
  have bN := (Boxed.new (w.alloc (.cells #[.int .i64 t.kind, .string t.name, .int .i64 t.n, .slice a t.args.length c] 40)) 3 (.int .i64 0)).alloc (.cells #[.int .i64 t.kind, .string t.name, .int .i64 t.n, .slice a t.args.length c] 40)
  have bX := box_new ((w.alloc (.cells #[.int .i64 t.kind, .string t.name, .int .i64 t.n, .slice a t.args.length c] 40)).alloc (.cells #[.int .i64 0] 3)) (.int .i64 t.kind) (.string t.name) (.int .i64 t.n) (.slice a t.args.length c) 40
  have hB0 : Below w.heap.size w (((w.alloc (.cells #[.int .i64 t.kind, .string t.name, .int .i64 t.n, .slice a t.args.length c] 40)).alloc (.cells #[.int .i64 0] 3)).alloc (.cells #[.int .i64 t.kind, .string t.name, .int .i64 t.n, .slice a t.args.length c] 40)) := (((Below.refl _ w).alloc (Nat.le_refl _) _).alloc (by simp) _).alloc (by simp; omega) _
  have hsz : (((w.alloc (.cells #[.int .i64 t.kind, .string t.name, .int .i64 t.n, .slice a t.args.length c] 40)).alloc (.cells #[.int .i64 0] 3)).alloc (.cells #[.int .i64 t.kind, .string t.name, .int .i64 t.n, .slice a t.args.length c] 40)).heap.size = w.heap.size + 3 := by simp
  rw [hz1] at bX ⊢
  rw [hz0] at bN
  obtain ⟨W0, hW0⟩ : ∃ W0, (((w.alloc (.cells #[.int .i64 t.kind, .string t.name, .int .i64 t.n, .slice a t.args.length c] 40)).alloc (.cells #[.int .i64 0] 3)).alloc (.cells #[.int .i64 t.kind, .string t.name, .int .i64 t.n, .slice a t.args.length c] 40)) = W0 := ⟨_, rfl⟩
  rw [hW0] at bN bX hB0 hsz ⊢
  clear hW0 hz0 hz1
  gi_wp2_with fail
  refine wpIn_rangeFunc_ownG rfl (by omega) (gf := 47) (lb := #[.pointer (some ⟨w.heap.size + 2, 0, none⟩)]) rfl trivial (enters_of Try.func47 (by kernel_rfl) rfl)
    (hS W0 (w.heap.size + 2) (by omega) bX hB0) keepsT_t (keepsT_b (by omega)) (Below.refl _ _) (fun _ => rfl)
    (fun (pre : List (TvIn w)) W => Boxed W (w.heap.size + 1) 3 (.int .i64 (pre.length : Nat)) ∧ Below w.heap.size w W)
    (fun _ _ _ => False)
    (OwnFrom.and (Own.from (boxed_own _ _ (fun pre : List (TvIn w) => .int .i64 (pre.length : Nat))) _) (ownFrom_below (Nat.le_refl _) (by omega)))
    (fun _ _ _ _ _ hs _ _ => hs)
    ⟨bN, hB0⟩
    (fun y => { tmps := #[.agg #[.int .i64 t.kind, .string t.name, .int .i64 t.n, .slice a t.args.length c], .pointer (some ⟨w.heap.size, 0, none⟩), .int .i64 0, .pointer (some ⟨w.heap.size + 1, 0, none⟩), .agg #[.int .i64 t.kind, .string t.name, .int .i64 t.n, .slice a t.args.length c], .func (.func 47) #[] #[.pointer (some ⟨w.heap.size + 2, 0, none⟩)], .agg #[.int .i64 y.1.t.kind, .string y.1.t.name, .int .i64 y.1.t.n, .slice y.1.a y.1.t.args.length y.1.c], undef, undef, undef], defers := [] }) ?assign ?body ?done ?stop
  case assign =>
    intro l y W K hK
    gi_wp2_with fail
    simpa using hK
  case body =>
    rintro l pre y W ⟨bN1, hB1⟩ hlt
    have cN := bN1.cell
    have fN := bN1.frozen
    have hlt2 : (pre.length : Int) < 1000000 := by omega
    gi_wp2_with fail
    exact ⟨(KeepsOthers.setCell _ _ _).from _, (KeepsT.refl _ _).setBox bN1 (by decide) (by omega) _, by rw [List.length_append]; exact bN1.set _, hB1.setCell (p := ⟨w.heap.size + 1, 0, none⟩) (by simp) _⟩
  case done =>
    rintro D ys W hD hys ⟨bN1, hB1⟩ hK
    have cN := bN1.cell
    have hyl : ys.length = t.parts := by rw [← tms_length, hys, hl]
    rw [hyl] at cN
    have H := Lib.hid hys
    clear hys hyl
    gi_wp2_with fail
    refine ⟨by simp, .inl ⟨_, _, rfl, run_takeDeferred hK, ?_⟩⟩
    exact ⟨_, results_tmp rfl _ _ _, rfl, hB1.trans (belowK_b (w := w) (Nat.le_refl _) W D _ _ (by omega) hK rfl rfl)⟩
  case stop =>
    rintro D c pre W _ _ h _
    exact h.elim
end Go.Proofs.Ytehpkhcjejlbpaa

namespace Go.Proofs.Ytehpkhcjejlbpaa
open Go.RowKit

mutual
theorem placesT_bd : ∀ (t : Tm) (p : List Int), p ∈ placesT t → ∀ n ∈ p, 0 ≤ n ∧ n < (t.parts : Int)
  | .mk k s n xs, p, h, i, hi => by
    rw [placesT] at h
    rw [Tm.parts]
    rcases List.mem_cons.1 h with rfl | h
    · cases hi
    · have := placesL_bd 0 xs p h i hi; omega
theorem placesL_bd : ∀ (j : Nat) (l : List Tm) (p : List Int), p ∈ placesL j l → ∀ n ∈ p, 0 ≤ n ∧ n < ((j + partsL l : Nat) : Int)
  | _, [], p, h, _, _ => by rw [placesL] at h; cases h
  | j, t :: r, p, h, i, hi => by
    rw [placesL] at h
    rw [partsL]
    have hp := parts_pos t
    rcases List.mem_append.1 h with h | h
    · obtain ⟨q, hq, rfl⟩ := List.mem_map.1 h
      rcases List.mem_cons.1 hi with rfl | hi
      · omega
      · have := placesT_bd t q hq i hi; omega
    · have := placesL_bd (j + 1) r p h i hi; omega
end
theorem finP_bd {s t : Tm} {q : List Int} (h : finP s t = some q) : ∀ n ∈ q, 0 ≤ n ∧ n < (t.parts : Int) := by
  rw [← findT_fin] at h
  exact placesT_bd t q (List.mem_of_find?_eq_some h)
/-- A box of six cells. -/
structure Six (w : World) (g : Nat) (x0 x1 x2 x3 x4 x5 : Value) : Prop where
  c0 : w.cell? ⟨g, 0, none⟩ = some x0
  c1 : w.cell? ⟨g, 1, none⟩ = some x1
  c2 : w.cell? ⟨g, 2, none⟩ = some x2
  c3 : w.cell? ⟨g, 3, none⟩ = some x3
  c4 : w.cell? ⟨g, 4, none⟩ = some x4
  c5 : w.cell? ⟨g, 5, none⟩ = some x5
  fz : ∀ o, w.frozen? ⟨g, o, none⟩ = false
theorem six_new (w : World) (x0 x1 x2 x3 x4 x5 : Value) (t : TypeId) : Six (w.alloc (.cells #[x0, x1, x2, x3, x4, x5] t)) w.heap.size x0 x1 x2 x3 x4 x5 where
  c0 := World.cell?_alloc_mark w #[x0, x1, x2, x3, x4, x5] t (0, 0) 0
  c1 := World.cell?_alloc_mark w #[x0, x1, x2, x3, x4, x5] t (0, 0) 1
  c2 := World.cell?_alloc_mark w #[x0, x1, x2, x3, x4, x5] t (0, 0) 2
  c3 := World.cell?_alloc_mark w #[x0, x1, x2, x3, x4, x5] t (0, 0) 3
  c4 := World.cell?_alloc_mark w #[x0, x1, x2, x3, x4, x5] t (0, 0) 4
  c5 := World.cell?_alloc_mark w #[x0, x1, x2, x3, x4, x5] t (0, 0) 5
  fz := fun o => by simp
theorem Six.of_block {w w' : World} {g : Nat} {x0 x1 x2 x3 x4 x5 : Value} (h : Six w g x0 x1 x2 x3 x4 x5) (hb : w'.heap[g]? = w.heap[g]?) : Six w' g x0 x1 x2 x3 x4 x5 :=
  ⟨(World.cell?_of_block hb).trans h.c0, (World.cell?_of_block hb).trans h.c1, (World.cell?_of_block hb).trans h.c2, (World.cell?_of_block hb).trans h.c3, (World.cell?_of_block hb).trans h.c4, (World.cell?_of_block hb).trans h.c5, fun o => (World.frozen?_of_block hb).trans (h.fz o)⟩
def sets6 (w : World) (g : Nat) (y0 y1 y2 y3 y4 y5 : Value) : World := (((((w.setCell ⟨g, 0, none⟩ y0).setCell ⟨g, 1, none⟩ y1).setCell ⟨g, 2, none⟩ y2).setCell ⟨g, 3, none⟩ y3).setCell ⟨g, 4, none⟩ y4).setCell ⟨g, 5, none⟩ y5
theorem Six.sets {w : World} {g : Nat} {x0 x1 x2 x3 x4 x5 : Value} (h : Six w g x0 x1 x2 x3 x4 x5) (y0 y1 y2 y3 y4 y5 : Value) : Six (sets6 w g y0 y1 y2 y3 y4 y5) g y0 y1 y2 y3 y4 y5 where
  c0 := by
    unfold sets6
    rw [cell_off g 5 0 (by decide), cell_off g 4 0 (by decide), cell_off g 3 0 (by decide), cell_off g 2 0 (by decide), cell_off g 1 0 (by decide)]
    exact World.cell?_setCell_same _ _ _ h.c0
  c1 := by
    unfold sets6
    rw [cell_off g 5 1 (by decide), cell_off g 4 1 (by decide), cell_off g 3 1 (by decide), cell_off g 2 1 (by decide)]
    exact World.cell?_setCell_same (u := x1) _ _ _ (by rw [cell_off g 0 1 (by decide)]; exact h.c1)
  c2 := by
    unfold sets6
    rw [cell_off g 5 2 (by decide), cell_off g 4 2 (by decide), cell_off g 3 2 (by decide)]
    exact World.cell?_setCell_same (u := x2) _ _ _ (by rw [cell_off g 1 2 (by decide), cell_off g 0 2 (by decide)]; exact h.c2)
  c3 := by
    unfold sets6
    rw [cell_off g 5 3 (by decide), cell_off g 4 3 (by decide)]
    exact World.cell?_setCell_same (u := x3) _ _ _ (by rw [cell_off g 2 3 (by decide), cell_off g 1 3 (by decide), cell_off g 0 3 (by decide)]; exact h.c3)
  c4 := by
    unfold sets6
    rw [cell_off g 5 4 (by decide)]
    exact World.cell?_setCell_same (u := x4) _ _ _ (by rw [cell_off g 3 4 (by decide), cell_off g 2 4 (by decide), cell_off g 1 4 (by decide), cell_off g 0 4 (by decide)]; exact h.c4)
  c5 := by
    unfold sets6
    exact World.cell?_setCell_same (u := x5) _ _ _ (by rw [cell_off g 4 5 (by decide), cell_off g 3 5 (by decide), cell_off g 2 5 (by decide), cell_off g 1 5 (by decide), cell_off g 0 5 (by decide)]; exact h.c5)
  fz := fun o => by unfold sets6; simp [h.fz o]
theorem below_sets6 {B : Nat} {a w : World} (h : Below B a w) {g : Nat} (hg : B ≤ g) (y0 y1 y2 y3 y4 y5 : Value) : Below B a (sets6 w g y0 y1 y2 y3 y4 y5) :=
  (((((h.setCell (p := ⟨g, 0, none⟩) hg _).setCell (p := ⟨g, 1, none⟩) hg _).setCell (p := ⟨g, 2, none⟩) hg _).setCell (p := ⟨g, 3, none⟩) hg _).setCell (p := ⟨g, 4, none⟩) hg _).setCell (p := ⟨g, 5, none⟩) hg _

set_option maxRecDepth 100000 in
set_option maxHeartbeats 4000000 in
theorem pfind_at (x y : Tv) (w : World) (hx : x.ok w) (hy : y.ok w) (hp : x.t.parts ≤ 100000) (hq : y.t.parts ≤ 100000) :
    Calls Try.prog 31 #[x.val, y.val] w fun e w' => ∃ v, e = .returned (.tuple #[v, .bool (findT x.t y.t).isSome]) ∧ At0 w' v ((findT x.t y.t).getD []) ∧ Below w.heap.size w w' := by
  have IN := Lib.hid (fun (W : World) (g : Nat) (h : Below w.heap.size w W) (hg : w.heap.size ≤ g) (hgW : g < W.heap.size) (hb : SBox W g y (y.t.parts : Int) (.slice none 0 0)) =>
    pin_tm x.t.parts y x [] (.slice none 0 0) w W (g + 1) g (Nat.le_refl _) (by simp; omega) hy hx h hg (Nat.lt_succ_self _) hgW hb (World.ownsRow_nil _ _ _ _) (by omega))
  have SZ := Lib.hid (fun (W : World) (h : Below w.heap.size w W) => psize_tm y W (hy.below h) (by omega))
  have HXO := Lib.hid hx
  clear hx hy
  rw [findT_fin]
  obtain ⟨t, ax, cx⟩ := x
  obtain ⟨s, ay, cy⟩ := y
  have hz1 : (w.alloc (.cells #[.int .i64 t.kind, .string t.name, .int .i64 t.n, .slice ax t.args.length cx] 40)).heap.size = w.heap.size + 1 := by simp
  have bX := (box_new w (.int .i64 t.kind) (.string t.name) (.int .i64 t.n) (.slice ax t.args.length cx) 40).below ((Below.refl _ _).alloc (Nat.le_refl _) (.cells #[.int .i64 s.kind, .string s.name, .int .i64 s.n, .slice ay s.args.length cy] 40)) (by rw [hz1]; omega)
  have bY := box_new (w.alloc (.cells #[.int .i64 t.kind, .string t.name, .int .i64 t.n, .slice ax t.args.length cx] 40)) (.int .i64 s.kind) (.string s.name) (.int .i64 s.n) (.slice ay s.args.length cy) 40
  rw [hz1] at bY
  have hwb : Below w.heap.size w ((w.alloc (.cells #[.int .i64 t.kind, .string t.name, .int .i64 t.n, .slice ax t.args.length cx] 40)).alloc (.cells #[.int .i64 s.kind, .string s.name, .int .i64 s.n, .slice ay s.args.length cy] 40)) := ((Below.refl _ _).alloc (Nat.le_refl _) _).alloc (by rw [hz1]; omega) _
  obtain ⟨wb, hwbe⟩ : ∃ wb, wb = ((w.alloc (.cells #[.int .i64 t.kind, .string t.name, .int .i64 t.n, .slice ax t.args.length cx] 40)).alloc (.cells #[.int .i64 s.kind, .string s.name, .int .i64 s.n, .slice ay s.args.length cy] 40)) := ⟨_, rfl⟩
  have hzb : wb.heap.size = w.heap.size + 2 := by rw [hwbe]; simp
  rw [← hwbe] at bX bY hwb
  have HBX := Lib.hid (fun (V : World) (h : Below wb.heap.size wb V) => bX.below h (by omega))
  have HBY := Lib.hid (fun (V : World) (h : Below wb.heap.size wb V) => bY.below h (by omega))
  have HW := Lib.hid hwb
  have CS := Lib.hid (fun (W : World) (h : Below wb.heap.size wb W) => (SZ.out W (hwb.trans (h.mono hwb.size))).mono (fun e w' hh => (show e = .returned (.int .i64 (s.parts : Int)) ∧ Below W.heap.size W w' ∧ Below wb.heap.size wb w' from ⟨hh.1, hh.2, below_next h hh.2⟩)))
  have A0 := Lib.hid (show Below wb.heap.size wb wb.drew from (Below.refl _ _).drew)
  have AA := Lib.hid (fun o => (show Below wb.heap.size wb (wb.alloc o).drew from ((Below.refl _ _).alloc (Nat.le_refl _) o).drew))
  have AB := Lib.hid (fun (W : World) o (h : Below wb.heap.size wb W) => (show Below wb.heap.size wb (W.alloc o) from h.alloc h.size o))
  have AS := Lib.hid (fun (W : World) (u0 u1 u2 u3 u4 u5 : Value) (h : Below wb.heap.size wb W) => (show Below wb.heap.size wb ((((((W.setCell ⟨wb.heap.size, 0, none⟩ u0).setCell ⟨wb.heap.size, 1, none⟩ u1).setCell ⟨wb.heap.size, 2, none⟩ u2).setCell ⟨wb.heap.size, 3, none⟩ u3).setCell ⟨wb.heap.size, 4, none⟩ u4).setCell ⟨wb.heap.size, 5, none⟩ u5) from below_sets6 h (Nat.le_refl _) u0 u1 u2 u3 u4 u5))
  have C8 := Lib.hid ((CS.out (wb.alloc (.cells #[.int .i64 0, .string ⟨#[]⟩, .int .i64 0, .slice none 0 0, .int .i64 0, .slice none 0 0] 85)).drew (AA.out _)).mono (fun e w3 hh => (show e = .returned (.int .i64 (s.parts : Int)) ∧ Six w3 wb.heap.size (.int .i64 0) (.string ⟨#[]⟩) (.int .i64 0) (.slice none 0 0) (.int .i64 0) (.slice none 0 0) ∧ Below wb.heap.size wb w3 from
    ⟨hh.1, ((six_new wb (.int .i64 0) (.string ⟨#[]⟩) (.int .i64 0) (.slice none 0 0) (.int .i64 0) (.slice none 0 0) 85).of_block (w' := (wb.alloc (.cells #[.int .i64 0, .string ⟨#[]⟩, .int .i64 0, .slice none 0 0, .int .i64 0, .slice none 0 0] 85)).drew) rfl).of_block (hh.2.1.block wb.heap.size (by simp)), hh.2.2⟩)))
  have KEEP := Lib.hid (fun (W : World) (h : Below wb.heap.size wb W) => (show (Below wb.heap.size wb W ∧ W.cell? ⟨w.heap.size + 1, 0, none⟩ = some (.int .i64 s.kind) ∧ W.cell? ⟨w.heap.size + 1, 1, none⟩ = some (.string s.name) ∧ W.cell? ⟨w.heap.size + 1, 2, none⟩ = some (.int .i64 s.n) ∧ W.cell? ⟨w.heap.size + 1, 3, none⟩ = some (.slice ay s.args.length cy)) from ⟨h, (bY.below h (by omega)).c0, (bY.below h (by omega)).c1, (bY.below h (by omega)).c2, (bY.below h (by omega)).c3⟩))
  have HZB := Lib.hid hzb
  obtain ⟨y0, y1, y2, y3, _, _, _, _⟩ := id bY
  clear bX bY hwb hz1 hzb SZ
  simp only [Tv.val] at *
  go_enter Try.func31, Try.ntmps31
  go_wp2_with fail
  rw [← hwbe]
  clear hwbe
  go_region_held3 (fun W => Below wb.heap.size wb W ∧ W.cell? ⟨w.heap.size + 1, 0, none⟩ = some (.int .i64 s.kind) ∧ W.cell? ⟨w.heap.size + 1, 1, none⟩ = some (.string s.name) ∧ W.cell? ⟨w.heap.size + 1, 2, none⟩ = some (.int .i64 s.n) ∧ W.cell? ⟨w.heap.size + 1, 3, none⟩ = some (.slice ay s.args.length cy)) ((refine KEEP.out _ ?_; first | with_reducible exact A0.out | with_reducible exact AA.out _ | with_reducible assumption | with_reducible exact AB.out _ _ (by with_reducible assumption) | with_reducible exact AS.out _ _ _ _ _ _ _ (by with_reducible assumption)))
    ((first
      | (go_at_call 49; refine C8.out.mono ?_; rintro e w3 ⟨rfl, ⟨b0, b1, b2, b3, b4, b5, bf⟩, hn⟩; have bf0 := bf 0; have bf1 := bf 1; have bf2 := bf 2; have bf3 := bf 3; have bf4 := bf 4; have bf5 := bf 5)
      | (go_at_call 49; refine (CS.out _ (by assumption)).mono ?_; rintro e w3 ⟨rfl, hk3, hn⟩)))
  · have hd : Below wb.heap.size wb (w3.alloc (.cells #[.int .i64 s.kind, .string s.name, .int .i64 s.n, .slice ay s.args.length cy, .int .i64 s.parts, .slice none 0 0] 85)) := AB.out _ _ hn
    have six : Six (w3.alloc (.cells #[.int .i64 s.kind, .string s.name, .int .i64 s.n, .slice ay s.args.length cy, .int .i64 s.parts, .slice none 0 0] 85)) w3.heap.size (.int .i64 s.kind) (.string s.name) (.int .i64 s.n) (.slice ay s.args.length cy) (.int .i64 s.parts) (.slice none 0 0) := six_new w3 (.int .i64 s.kind) (.string s.name) (.int .i64 s.n) (.slice ay s.args.length cy) (.int .i64 s.parts) (.slice none 0 0) 85
    have hgb : wb.heap.size ≤ w3.heap.size := by first | exact hn.size | exact Nat.le_refl _
    obtain ⟨wd, hwd⟩ : ∃ wd, wd = (w3.alloc (.cells #[.int .i64 s.kind, .string s.name, .int .i64 s.n, .slice ay s.args.length cy, .int .i64 s.parts, .slice none 0 0] 85)) := ⟨_, rfl⟩
    rw [← hwd] at hd six
    rw [← hwd]
    have hws : w.heap.size ≤ wb.heap.size := HW.out.size
    have C := IN.out wd w3.heap.size (HW.out.trans (hd.mono HW.out.size)) (by omega) (lt_of_cell six.c0) ⟨six.c0, six.c1, six.c2, six.c3, six.c4, six.c5, six.fz 5⟩
    have CC := Lib.hid C
    obtain ⟨p0, p1, p2, p3, _, _, _, _⟩ := HBX.out wd hd
    clear hwd hd six C y0 y1 y2 y3 hk3
    go_wp2_with fail
    refine CC.out.mono ?_; rintro e w5 ⟨v', c, he, _, hsb, hown, hB5, _, _⟩
    obtain ⟨fo, hfo⟩ : ∃ fo, finP s t = fo := ⟨_, rfl⟩
    (try simp only [List.nil_append] at he hown)
    rw [hfo] at he hown
    have HFO := Lib.hid hfo
    have HB5 := Lib.hid hB5
    have HOWN := Lib.hid hown
    clear hfo hB5 hown p0 p1 p2 p3
    cases fo with
    | none =>
      obtain rfl := he
      clear hsb
      simp only [Option.isSome_none]
      go_wp2_with fail
      refine bodyPost_ret (v := .tuple #[.slice none 0 0, .bool false]) (by simp [results, Try.results31, go_sem]) rfl ?_
      exact ⟨.slice none 0 0, by rw [HFO.out]; rfl, by rw [HFO.out]; exact At0.nil w5, HB5.out⟩
    | some q =>
      obtain rfl := he
      obtain ⟨_, _, _, _, _, s5, _⟩ := hsb
      simp only [Option.isSome_some]
      go_wp2_with fail
      refine bodyPost_ret (v := .tuple #[v', .bool true]) (by simp [results, Try.results31, go_sem]) rfl ?_
      have hbd := finP_bd HFO.out
      have hn2 : At0 w5 v' q := ⟨own_lower HOWN.out (Nat.zero_le _), fun n hn => by have := hbd n hn; omega⟩
      exact ⟨v', by rw [HFO.out]; rfl, by rw [HFO.out]; exact hn2, HB5.out⟩
  · have hd : Below wb.heap.size wb ((((((w3.setCell ⟨wb.heap.size, 0, none⟩ (.int .i64 s.kind)).setCell ⟨wb.heap.size, 1, none⟩ (.string s.name)).setCell ⟨wb.heap.size, 2, none⟩ (.int .i64 s.n)).setCell ⟨wb.heap.size, 3, none⟩ (.slice ay s.args.length cy)).setCell ⟨wb.heap.size, 4, none⟩ (.int .i64 s.parts)).setCell ⟨wb.heap.size, 5, none⟩ (.slice none 0 0)) := AS.out w3 (.int .i64 s.kind) (.string s.name) (.int .i64 s.n) (.slice ay s.args.length cy) (.int .i64 s.parts) (.slice none 0 0) hn
    have six : Six ((((((w3.setCell ⟨wb.heap.size, 0, none⟩ (.int .i64 s.kind)).setCell ⟨wb.heap.size, 1, none⟩ (.string s.name)).setCell ⟨wb.heap.size, 2, none⟩ (.int .i64 s.n)).setCell ⟨wb.heap.size, 3, none⟩ (.slice ay s.args.length cy)).setCell ⟨wb.heap.size, 4, none⟩ (.int .i64 s.parts)).setCell ⟨wb.heap.size, 5, none⟩ (.slice none 0 0)) wb.heap.size (.int .i64 s.kind) (.string s.name) (.int .i64 s.n) (.slice ay s.args.length cy) (.int .i64 s.parts) (.slice none 0 0) := (Six.mk b0 b1 b2 b3 b4 b5 bf).sets (.int .i64 s.kind) (.string s.name) (.int .i64 s.n) (.slice ay s.args.length cy) (.int .i64 s.parts) (.slice none 0 0)
    have hgb : wb.heap.size ≤ wb.heap.size := by first | exact hn.size | exact Nat.le_refl _
    obtain ⟨wd, hwd⟩ : ∃ wd, wd = ((((((w3.setCell ⟨wb.heap.size, 0, none⟩ (.int .i64 s.kind)).setCell ⟨wb.heap.size, 1, none⟩ (.string s.name)).setCell ⟨wb.heap.size, 2, none⟩ (.int .i64 s.n)).setCell ⟨wb.heap.size, 3, none⟩ (.slice ay s.args.length cy)).setCell ⟨wb.heap.size, 4, none⟩ (.int .i64 s.parts)).setCell ⟨wb.heap.size, 5, none⟩ (.slice none 0 0)) := ⟨_, rfl⟩
    rw [← hwd] at hd six
    rw [← hwd]
    have hws : w.heap.size ≤ wb.heap.size := HW.out.size
    have C := IN.out wd wb.heap.size (HW.out.trans (hd.mono HW.out.size)) (by omega) (lt_of_cell six.c0) ⟨six.c0, six.c1, six.c2, six.c3, six.c4, six.c5, six.fz 5⟩
    have CC := Lib.hid C
    obtain ⟨p0, p1, p2, p3, _, _, _, _⟩ := HBX.out wd hd
    clear hwd hd six C y0 y1 y2 y3 b0 b1 b2 b3 b4 b5 bf bf0 bf1 bf2 bf3 bf4 bf5
    go_wp2_with fail
    refine CC.out.mono ?_; rintro e w5 ⟨v', c, he, _, hsb, hown, hB5, _, _⟩
    obtain ⟨fo, hfo⟩ : ∃ fo, finP s t = fo := ⟨_, rfl⟩
    (try simp only [List.nil_append] at he hown)
    rw [hfo] at he hown
    have HFO := Lib.hid hfo
    have HB5 := Lib.hid hB5
    have HOWN := Lib.hid hown
    clear hfo hB5 hown p0 p1 p2 p3
    cases fo with
    | none =>
      obtain rfl := he
      clear hsb
      simp only [Option.isSome_none]
      go_wp2_with fail
      refine bodyPost_ret (v := .tuple #[.slice none 0 0, .bool false]) (by simp [results, Try.results31, go_sem]) rfl ?_
      exact ⟨.slice none 0 0, by rw [HFO.out]; rfl, by rw [HFO.out]; exact At0.nil w5, HB5.out⟩
    | some q =>
      obtain rfl := he
      obtain ⟨_, _, _, _, _, s5, _⟩ := hsb
      simp only [Option.isSome_some]
      go_wp2_with fail
      refine bodyPost_ret (v := .tuple #[v', .bool true]) (by simp [results, Try.results31, go_sem]) rfl ?_
      have hbd := finP_bd HFO.out
      have hn2 : At0 w5 v' q := ⟨own_lower HOWN.out (Nat.zero_le _), fun n hn => by have := hbd n hn; omega⟩
      exact ⟨v', by rw [HFO.out]; rfl, by rw [HFO.out]; exact hn2, HB5.out⟩
theorem pfind_tm (x y : Tv) (w : World) (hx : x.ok w) (hy : y.ok w) (hp : x.t.parts ≤ 100000) (hq : y.t.parts ≤ 100000) :
    Calls Try.prog 31 #[x.val, y.val] w fun e w' => ∃ v, e = .returned (.tuple #[v, .bool (findT x.t y.t).isSome]) ∧ Nums w' v ((findT x.t y.t).getD []) ∧ Below w.heap.size w w' :=
  (pfind_at x y w hx hy hp hq).mono fun e w' h => by
    obtain ⟨v, h1, h2, h3⟩ := h
    exact ⟨v, h1, h2.nums, h3⟩
end Go.Proofs.Ytehpkhcjejlbpaa

namespace Go.Proofs.Ytehpkhcjejlbpaa
open Go.RowKit

theorem box_kept {W W' : World} {B : Nat} {x0 x1 x2 x3 : Value} (h : Box W B x0 x1 x2 x3) (hb : W'.heap[B]? = W.heap[B]?) : Box W' B x0 x1 x2 x3 := by
  obtain ⟨c0, c1, c2, c3, f0, f1, f2, f3⟩ := h
  constructor <;> simp only [World.cell?, World.frozen?, hb] at * <;> assumption
theorem box_own {β : Type} (B : Nat) (x0 x1 x2 x3 : Value) : Own (fun (_ : β) W => Box W B x0 x1 x2 x3) := fun _ X Y row hs hg hrow => by
  have hc := hs.c0
  have hlt := lt_of_cell hc
  refine box_kept hs (hg.block B hlt fun e => ?_)
  obtain ⟨o, ho, hoc⟩ := hrow B e.symm
  simp only [World.cell?, ho] at hc
  cases o <;> simp_all [Obj.isCells]
theorem box_lt {W : World} {B : Nat} {x0 x1 x2 x3 : Value} (h : Box W B x0 x1 x2 x3) : B < W.heap.size := lt_of_cell h.c0
end Go.Proofs.Ytehpkhcjejlbpaa

namespace Go.Proofs.Ytehpkhcjejlbpaa
open Go.RowKit Go.Shelf

theorem keepsT_of {n₀ : Nat} {W W' : World} (h : Below W.heap.size W W') (hn : n₀ ≤ W.heap.size) : KeepsT n₀ W W' := ⟨h.mono hn, fun k c f _ hk => by rw [h.block k (Array.getElem?_eq_some_iff.1 hk).1]; exact hk⟩
theorem keepsFrom_of {B : Nat} {W W' : World} (h : Below W.heap.size W W') : KeepsFrom B W W' := ⟨h.size, fun k o _ hk _ => by rw [h.block k (Array.getElem?_eq_some_iff.1 hk).1]; exact hk⟩
theorem boxed_below {W W' : World} {B : Nat} {t : TypeId} {v : Value} (hb : Boxed W B t v) (h : Below W.heap.size W W') : Boxed W' B t v := by
  have h1 : W.heap[B]? = some (Obj.cells #[v] t (0, 0)) := hb
  show W'.heap[B]? = _
  rw [h.block B (Array.getElem?_eq_some_iff.1 h1).1]; exact h1
theorem marks_own {β : Type} {B : Nat} (Ds : List Nat) : OwnFrom B (fun (_ : β) W => ∀ D ∈ Ds, D < B ∧ W.heap[D]? = some (Obj.deferred (some []))) := fun _ X Y row hs hg hr D hD => by
  obtain ⟨h1, h2⟩ := hs D hD
  refine ⟨h1, ?_⟩
  rw [hg.block D (Array.getElem?_eq_some_iff.1 h2).1 (fun e => by have := (hr D e.symm).1; omega)]; exact h2
theorem mark_set {W : World} {D B : Nat} {t : TypeId} {v u : Value} (h : W.heap[D]? = some (Obj.deferred (some []))) (hb : Boxed W B t v) : (W.setCell ⟨B, 0, none⟩ u).heap[D]? = some (Obj.deferred (some [])) := by
  have h1 : W.heap[B]? = some (Obj.cells #[v] t (0, 0)) := hb
  rw [Below.heap_setCell _ _ _ _ (fun e => by subst e; rw [h] at h1; cases h1)]; exact h
theorem mark_below {W W' : World} {D : Nat} (h : W.heap[D]? = some (Obj.deferred (some []))) (hb : Below W.heap.size W W') : W'.heap[D]? = some (Obj.deferred (some [])) := by
  rw [hb.block D (Array.getElem?_eq_some_iff.1 h).1]; exact h
theorem tms_snoc {w0 : World} {pre : List (TvIn w0)} {z : TvIn w0} {p : Tm → Prop} (h : ∀ y ∈ tms pre, p y) (hz : p z.1.t) : ∀ y ∈ tms (pre ++ [z]), p y := fun y hy => by
  rw [tms_append] at hy
  rcases List.mem_append.1 hy with hy | hy
  · exact h y hy
  · have : y = z.1.t := by simpa [tms] using hy
    rw [this]; exact hz
theorem tms_last {w0 : World} (pre : List (TvIn w0)) (z : TvIn w0) : z.1.t ∈ tms (pre ++ [z]) := by rw [tms_append]; exact List.mem_append.2 (.inr (by simp [tms]))
/-- The marks of ranges over functions that have come to their end. -/
def marks (Ds : List Nat) : List Deferred := Ds.map fun D => { target := .collected D, args := #[] }
theorem leaves_marks {F : Fence} {n : Nat} {P : Program} {fn : Func} {tmps : Array Value} {R : Ending → World → Prop} (n₀ : Nat) : ∀ (Ds : List Nat) (W : World), Ds.Nodup → (∀ D ∈ Ds, n₀ ≤ D ∧ W.heap[D]? = some (.deferred (some []))) →
    (∀ W', Below n₀ W W' → (∀ (k : Nat) (o : Obj), W.heap[k]? = some o → o.isCells = true → W'.heap[k]? = some o) → ∃ v, (results fn tmps).run P W' = .ok v W' ∧ R (.returned v) W') → LeavesInM F n P fn tmps R (marks Ds) .returning W
  | [], W, _, _, h => h W (Below.refl _ _) (fun _ _ h _ => h)
  | D :: Ds, W, hn, hD, h => by
    obtain ⟨h0, h1⟩ := hD D (by simp)
    rw [List.nodup_cons] at hn
    have hg := grownBy_putObj' W D (.deferred none)
    refine ⟨by simp, .inl ⟨D, _, rfl, run_takeDeferred h1, ?_⟩⟩
    refine leaves_marks n₀ Ds _ hn.2 (fun E hE => ⟨(hD E (by simp [hE])).1, ?_⟩) (fun W' hb hk => h W' (((Below.refl n₀ W).grown hg (by have := (Array.getElem?_eq_some_iff.1 h1).1; omega) (fun k e => by cases e; exact h0)).trans hb) (fun k o ho hc => hk k o ?_ hc))
    · rw [World.putObj_heap_other (fun e => hn.1 (by rw [← e]; exact hE))]
      exact (hD E (by simp [hE])).2
    · rw [World.putObj_heap_other (fun e => by subst e; rw [h1] at ho; cases ho; cases hc)]
      exact ho

end Go.Proofs.Ytehpkhcjejlbpaa

namespace Go.Proofs.Ytehpkhcjejlbpaa
open Go.RowKit

/-- A world that lies behind wb: what wb holds stands in it as it was. -/
structure After (wb : World) where
  w : World
  below : Below wb.heap.size wb w
instance (wb : World) : Inhabited (After wb) := ⟨⟨wb, Below.refl _ _⟩⟩
theorem wp_region_after {P : Program} {id : Nat} {Q : Exit → Act → World → Prop} {a : Act} {wb w : World} {l : List Oper} (hb : Below wb.heap.size wb w) (hm : P.follows .mixedOrders = true) (hB : Region.lexB .any l.toArray = true)
    (h : wpQuiet P l.toArray (fun w' => ∃ p : After wb, w' = p.w) (fun a' => ∀ w', (∃ p : After wb, w' = p.w) → Q .normal a' w') l a) : (Code.region id l.toArray true).wp P Q a w :=
  wp_region_quiet (C := fun w' => ∃ p : After wb, w' = p.w) hm hB ⟨⟨w.drew, hb.drew⟩, rfl⟩ (by simpa using h)
theorem after_call {P : Program} {f : FuncId} {args : Array Value} {wb : World} {p : After wb} {v : Value} (h : Calls P f args p.w fun e w' => e = .returned v ∧ Below p.w.heap.size p.w w') :
    Calls P f args p.w fun e w'' => e = .returned v ∧ ∃ q : After wb, w'' = q.w :=
  h.mono fun _ w' ⟨he, hb⟩ => ⟨he, ⟨⟨w', below_next p.below hb⟩, rfl⟩⟩
end Go.Proofs.Ytehpkhcjejlbpaa
