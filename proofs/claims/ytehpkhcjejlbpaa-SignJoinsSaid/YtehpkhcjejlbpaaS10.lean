/-
  A region that draws its order, within a round of a range over a function: it goes as outside. No function of the program.
  All parts of a term, as long as they are asked for, by the program's All: of terms of a kind that goes down to their arguments (few parts, say): what the range over it tells.
-/
import Derived.Test.YtehpkhcjejlbpaaS09
import Derived.RangeFuncNested
import Derived.RangeFuncBound
import Derived.RangeFuncCalls
import Derived.RangeFuncLeaves
import Derived.Shelf.Abstract
import Derived.Shelf.RegionOpen
import Derived.WalkKit
import Derived.OwnWalkIn
import Derived.TacticsInMore
import Derived.LoopNIn
import Derived.LoopIn
import Derived.Below
import Derived.OrdersHeld
import Derived.Deep.RegionHeld
import Derived.Lib.Hide
namespace Go.Proofs.Ytehpkhcjejlbpaa
open Go.RowKit Go.Shelf

def noDefer (ops : Array Oper) : Bool := ops.toList.all fun o => match o.op with | .defer _ => false | _ => true
theorem noDefer_spec {ops : Array Oper} (h : noDefer ops = true) : ∀ o ∈ ops.toList, ∀ c, o.op ≠ .defer c := fun o ho c e => by
  have := List.all_eq_true.1 h o ho
  rw [e] at this; cases this

section
variable {P : Program} {ops : Array Oper} {Q : Exit → Act → World → Prop}
theorem oper_round (l n : Nat) {o : Oper} {a : Act} {w : World} {K K' : Act → World → Prop} (hK : ∀ a w, K a w → K' a w) (hd : ∀ c, o.op ≠ .defer c) (h : o.wp P a w K Q) : o.wpIn (Fence.wide.inRound l) n P a w K' Q := by
  unfold Oper.wpIn
  refine ⟨fun _ _ => trivial, ?_⟩
  rw [Oper.semAt_plain _ _ _ hd]
  unfold Oper.wp at h
  generalize (execOp a.eval o).run P w = r at *
  have hdep : (Fence.wide.inRound l).depth.isSome = true → 1 ≤ n := fun h => by cases h
  cases r with
  | ok x w' =>
    cases x <;> simp only [Oper.upon, Oper.uponIn] at h ⊢
    case value => exact hK _ _ h
    case skip => exact hK _ _ h
    case defer => exact hK _ _ h
    case enter =>
      refine ⟨hdep, CallsIn.inRound l (callsIn_wide.2 (h.mono fun e w'' he => ?_))⟩
      cases e
      · exact hK _ _ he
      · exact he
      · exact he
    case row =>
      refine ⟨hdep, fun c cs _ => ?_⟩
      obtain ⟨v, w2, h1, h2⟩ := h c cs
      exact ⟨v, w2, hK _ _ h1, stepsIn_wide.2 h2⟩
  | halt x w' =>
    cases x <;> simp only [Oper.upon, Oper.uponIn] at h ⊢
    case panic => exact h
theorem ops_round (l n : Nat) (hd : ∀ o ∈ ops.toList, ∀ c, o.op ≠ .defer c) (hq : ¬ LetsOut Q) : ∀ (is : List Nat) (a : Act) (w : World), wpOps P ops Q is a w → wpOpsIn (Fence.wide.inRound l) n P ops Q is a w
  | [], a, w, h => h
  | i :: r, a, w, h => by
    rw [wpOps] at h
    rw [wpOpsIn]
    cases ho : ops[i]? with
    | none =>
      rw [ho] at h
      exact ops_round l n hd hq r a w h
    | some o =>
      rw [ho] at h
      simp only at h ⊢
      split
      · next hw =>
        rw [if_pos hw] at h
        rcases h with h | ⟨_, h⟩
        · refine oper_round l n (fun a w => ops_round l n hd hq r a w) (hd o ?_) h
          obtain ⟨h1, h2⟩ := Array.getElem?_eq_some_iff.1 ho
          rw [← h2]; simp
        · exact absurd h hq
      · next hw =>
        rw [if_neg hw] at h
        exact ⟨fun _ _ => trivial, ops_round l n hd hq r _ w h⟩
/-- A region that draws its order, within a round: as outside. -/
theorem region_round {S : World → Prop} {id : Nat} {a : Act} {w : World} (l n : Nat) (hd : ∀ o ∈ ops.toList, ∀ c, o.op ≠ .defer c) (hq : ¬ LetsOut Q) (hm : P.follows .mixedOrders = true) (hS : S w.drew)
    (h : S w.drew → wpAnyH P .any ops Q S ops.size (Array.replicate ops.size false) a w.drew) : (Code.region id ops true).wpIn (Fence.wide.inRound l) n P Q a w :=
  wpIn_region_draw fun t => ops_round l n hd hq _ _ _ (by
    simp only [Region.schedule, hm, Bool.true_or, if_true]
    exact wpAny_sound ops.size t _ a _ (wpAny_of_held _ _ _ _ (h hS)))
/-- Likewise where its operations read and its callees make new memory alone. -/
theorem region_round_after {l : List Oper} {id : Nat} {a : Act} {wb w : World} (l0 n : Nat) (hd : noDefer l.toArray = true) (hq : ¬ LetsOut Q) (hb : Below wb.heap.size wb w) (hm : P.follows .mixedOrders = true) (hB : Region.lexB .any l.toArray = true)
    (h : wpQuiet P l.toArray (fun w' => ∃ p : After wb, w' = p.w) (fun a' => ∀ w', (∃ p : After wb, w' = p.w) → Q .normal a' w') l a) : (Code.region id l.toArray true).wpIn (Fence.wide.inRound l0) n P Q a w :=
  wpIn_region_draw fun t => ops_round l0 n (noDefer_spec hd) hq _ _ _ (by
    simp only [Region.schedule, hm, Bool.true_or, if_true]
    refine wpAny_sound l.toArray.size t _ a _ ?_
    simp only [Region.lexB, Bool.and_eq_true] at hB
    refine wpAny_of_quiet (C := fun w' => ∃ p : After wb, w' = p.w) (Q := fun a' => ∀ w', (∃ p : After wb, w' = p.w) → Q .normal a' w') (fun _ w' hw' h => h w' hw') _ _ _ _ ⟨⟨w.drew, hb.drew⟩, rfl⟩ ?_
    have := wpAnyQ_lex (C := fun w' => ∃ p : After wb, w' = p.w) (md := .any) hB.1 l.toArray.toList 0 (Array.replicate l.toArray.size false) a (by simp) (by simpa using hB.2) (by simpa using h)
    simpa using this)
end

end Go.Proofs.Ytehpkhcjejlbpaa

namespace Go.Proofs.Ytehpkhcjejlbpaa
open Go.RowKit Go.Shelf
attribute [local go_sem] Oper.semAt_some

/-- A term of w0 of a kind, as a value. -/
abbrev TvM (w0 : World) (M : Tm → Prop) := { x : Tv // x.ok w0 ∧ M x.t }
/-- What they are terms of. -/
def tmsM {w0 : World} {M : Tm → Prop} (l : List (TvM w0 M)) : List Tm := l.map fun x => x.1.t
theorem tmsM_append {w0 : World} {M : Tm → Prop} (a b : List (TvM w0 M)) : tmsM (a ++ b) = tmsM a ++ tmsM b := List.map_append
theorem tmsM_length {w0 : World} {M : Tm → Prop} (a : List (TvM w0 M)) : (tmsM a).length = a.length := List.length_map ..
theorem tmsM_snoc {w0 : World} {M : Tm → Prop} {pre : List (TvM w0 M)} {z : TvM w0 M} {p : Tm → Prop} (h : ∀ y ∈ tmsM pre, p y) (hz : p z.1.t) : ∀ y ∈ tmsM (pre ++ [z]), p y := fun y hy => by
  rw [tmsM_append] at hy
  rcases List.mem_append.1 hy with hy | hy
  · exact h y hy
  · have : y = z.1.t := by simpa [tmsM] using hy
    rw [this]; exact hz

/-- What a call of tell leaves. -/
def TellPostM (w0 : World) (M : Tm → Prop) (J Jx : List (TvM w0 M) → World → Prop) (pre : List (TvM w0 M)) (t : Tm) (W : World) (e : Ending) (W' : World) : Prop :=
  (e = .returned (.bool true) ∧ ∃ ys : List (TvM w0 M), tmsM ys = t.all ∧ J (pre ++ ys) W' ∧ KeepsT w0.heap.size W W') ∨ (e = .returned (.bool false) ∧ ∃ ys : List (TvM w0 M), tmsM ys <+: t.all ∧ Jx (pre ++ ys) W')

set_option maxRecDepth 100000 in
set_option maxHeartbeats 2000000 in
theorem tell_inM (F : Fence) (hd : F.depth = none) (hF : F.fn 48) (hro : F.round = none) (w0 : World) (M : Tm → Prop) (hM : ∀ (t : Tm) (j : Nat) (h : j < t.args.length), M t → M t.args[j]) (l N : Nat) (J Jx : List (TvM w0 M) → World → Prop)
    (hJ : ∀ pre W o, J pre W → J pre (W.alloc o))
    (hY : ∀ m pre (x : TvM w0 M) W, J pre W → pre.length < N → YieldAt F m Try.prog l #[x.1.val] W fun e W' =>
      (e = .returned (.bool true) ∧ J (pre ++ [x]) W' ∧ KeepsT w0.heap.size W W') ∨ (e = .returned (.bool false) ∧ Jx (pre ++ [x]) W')) (m : Nat) :
    ∀ (n : Nat) (x : TvM w0 M) (pre : List (TvM w0 M)) (W : World), x.1.t.parts ≤ m → Below w0.heap.size w0 W → J pre W → pre.length + x.1.t.parts ≤ N →
      CallsIn F n Try.prog 48 #[x.1.val, .func (.yield l) #[] #[]] W (TellPostM w0 M J Jx pre x.1.t W) := by
  induction m with
  | zero => intro n x pre W h; have := parts_pos x.1.t; omega
  | succ m ih =>
    intro n x pre W hm hB hJ0 hN
    have hdd : ∀ k : Nat, (F.depth.isSome = true → 1 ≤ k) := fun k h => by rw [hd] at h; cases h
    obtain ⟨⟨⟨k, s, z, xs⟩, a, c⟩, hx, hxM⟩ := x
    have hxk := hx
    obtain ⟨_, hxl, hxr⟩ := hxk
    have HMA := Lib.hid (fun (j : Nat) (h : j < xs.length) => (show M xs[j] from hM (.mk k s z xs) j h hxM))
    have hpe : (Tm.mk k s z xs).parts = partsL xs + 1 := parts_eq _
    simp only [Tm.args] at hxl hxr hm hN ⊢
    have hpl : ∀ j (h : j < xs.length), xs[j].parts ≤ m := fun j h => by
      have := parts_arg (.mk k s z xs) (j := j) h
      have e : (Tm.mk k s z xs).args[j] = xs[j] := rfl
      rw [e] at this; omega
    have hy1 := hY (n - 1) pre ⟨⟨.mk k s z xs, a, c⟩, hx, hxM⟩ (W.alloc (.cells #[.int .i64 k, .string s, .int .i64 z, .slice a xs.length c] 40)) (hJ _ _ _ hJ0) (by omega)
    simp only [Tv.val, Tm.kind, Tm.name, Tm.n, Tm.args] at hy1 ⊢
    have hBa : KeepsT w0.heap.size W (W.alloc (.cells #[.int .i64 k, .string s, .int .i64 z, .slice a xs.length c] 40)) := (KeepsT.refl _ _).alloc hB.size _
    have IH := Lib.hid ih
    have HY := Lib.hid hY
    have HJ := Lib.hid hJ
    have HP := Lib.hid hpl
    have HN := Lib.hid (show pre.length + (partsL xs + 1) ≤ N by omega)
    obtain ⟨x, hxx⟩ : ∃ x : TvM w0 M, x = ⟨⟨.mk k s z xs, a, c⟩, hx, hxM⟩ := ⟨_, rfl⟩
    have hxt : x.1.t = .mk k s z xs := by rw [hxx]
    have HT := Lib.hid hxt
    rw [← hxx] at hy1
    clear ih hY hJ hpl hm hN hpe hxx hxt
    refine callsIn_of_wp Try.func48 rfl hF ?_ hro
    simp only [Try.ntmps48, List.size_toArray, List.length_cons, List.length_nil, Nat.reduceAdd, Nat.reduceSub, Array.replicate_succ, Array.replicate_zero, List.push_toArray, List.append_toArray, List.nil_append, List.cons_append]
    obtain ⟨fn, tmps, assign, body, hy, hR⟩ := hy1
    gi_wp2_with fail
    (try refine ⟨hdd _, ?_⟩)
    refine hR.mono ?_; clear hR hy; rintro e W2 (⟨rfl, hJ2, hk2⟩ | ⟨rfl, hx2⟩)
    · obtain ⟨_, _, _, b3, _, _, _, _⟩ := hk2.box
      have hK := hBa.trans hk2
      have hB2 : Below w0.heap.size w0 W2 := hB.trans hK.below
      clear hk2 hBa
      rcases hxr with rfl | ⟨b, off, rfl, hlt, hr⟩
      · gi_wp2_with fail
        refine wpIn_loop_rounds 1 ?_; rw [roundsIn_succ]
        gi_wp2_with fail
        go_ret
        exact .inl ⟨rfl, [x], by show [x.1.t] = _; rw [HT.out]; rfl, hJ2, hK⟩
      have HR := Lib.hid hr
      clear hr
      gi_wp2_with fail
      gi_loopw [14] (fun i wr => ∃ (j : Nat) (ys : List (TvM w0 M)), j ≤ xs.length ∧ i = .int .i64 j ∧ tmsM ys = x.1.t :: allL (xs.take j) ∧ J (pre ++ ys) wr ∧ KeepsT w0.heap.size W wr) (fun i _ => xs.length - (intOf i).toNat)
      case atStart => exact ⟨0, [x], Nat.zero_le _, rfl, by rw [List.take_zero, allL]; rfl, hJ2, hK⟩
      case round =>
        obtain ⟨j, ys, hj, rfl, hys, hJs, hKs⟩ := hrel
        have hBr := hB.trans hKs.below
        have hbs := hBr.size
        by_cases hjl : j < xs.length
        · have hil : (j : Int) < (xs.length : Int) := by omega
          obtain ⟨u, hu, huk, hat⟩ := tmAt_tv (rowAt_get HR.out hjl)
          obtain ⟨d0, d1, d2, d3⟩ := hat.below hBr
          have hKa := hKs.alloc hbs (.cells #[.int .i64 u.t.kind, .string u.t.name, .int .i64 u.t.n, .slice u.a u.t.args.length u.c] 40)
          have hlen : ys.length = 1 + partsL (xs.take j) := by
            have := congrArg List.length hys
            rw [tmsM_length, List.length_cons, allL_length] at this; omega
          have hfit : partsL (xs.take j) + xs[j].parts ≤ partsL xs := by
            rw [← partsL_take xs hjl]
            have e := partsL_append (xs.take (j + 1)) (xs.drop (j + 1))
            rw [List.take_append_drop] at e; omega
          have C := Lib.hid (IH.out (n - 1) ⟨u, huk, by rw [hu]; exact HMA.out j hjl⟩ (pre ++ ys) (wr.alloc (.cells #[.int .i64 u.t.kind, .string u.t.name, .int .i64 u.t.n, .slice u.a u.t.args.length u.c] 40)) (by rw [hu]; exact HP.out j hjl) (hB.trans hKa.below) (HJ.out _ _ _ hJs) (by have := HN.out; rw [hu, List.length_append]; omega))
          simp only [Tv.val] at C
          have HU := Lib.hid hu
          have HYS := Lib.hid hys
          clear hu huk hat hys hlen hfit
          gi_wp2_with fail
          (try refine ⟨hdd _, ?_⟩)
          refine C.out.mono ?_; clear C; rintro e W3 (⟨rfl, zs, hzs, hJ3, hk3⟩ | ⟨rfl, zs, hzs, hx3⟩)
          · have HZS := Lib.hid hzs
            clear hzs
            gi_wp2_with fail
            go_roundw
            case rel => exact ⟨j + 1, ys ++ zs, by omega, by go_num, by rw [tmsM_append, HYS.out, HZS.out, allL_take hjl, HU.out, List.cons_append], by rw [← List.append_assoc]; exact hJ3, hKa.trans hk3⟩
            case measure => simp [intOf]; omega
          · have HZS := Lib.hid hzs
            clear hzs
            gi_wp2_with fail
            go_ret
            exact .inr ⟨rfl, ys ++ zs, by rw [tmsM_append, HYS.out, List.cons_append, HT.out]; exact prefix_deep rfl hjl (by rw [← HU.out]; exact HZS.out), by rw [← List.append_assoc]; exact hx3⟩
        · obtain rfl : j = xs.length := by omega
          have HYS := Lib.hid hys
          clear hys
          gi_wp2_with fail
          go_ret
          exact .inl ⟨rfl, ys, by rw [HYS.out, HT.out, List.take_length, Tm.all], hJs, hKs⟩
    · gi_wp2_with fail
      go_ret
      exact .inr ⟨rfl, [x], by show [x.1.t] <+: _; rw [HT.out, Tm.all, List.cons_prefix_cons]; exact ⟨rfl, List.nil_prefix⟩, hx2⟩

set_option maxHeartbeats 1000000 in
theorem all1_inM (F : Fence) (hd : F.depth = none) (n : Nat) (hF : F.fn 47) (hF2 : F.fn 48) (hro : F.round = none) (w0 : World) (M : Tm → Prop) (hM : ∀ (t : Tm) (j : Nat) (h : j < t.args.length), M t → M t.args[j]) (l Bt : Nat) (x : TvM w0 M) (J Jx : List (TvM w0 M) → World → Prop)
    (hJ : ∀ pre W o, J pre W → J pre (W.alloc o))
    (hY : ∀ pre (y : TvM w0 M) W, J pre W → pre.length < x.1.t.parts → YieldAt F (n - 1) Try.prog l #[y.1.val] W fun e W' =>
      (e = .returned (.bool true) ∧ J (pre ++ [y]) W' ∧ KeepsT w0.heap.size W W') ∨ (e = .returned (.bool false) ∧ Jx (pre ++ [y]) W'))
    (W : World) (hBt : Box W Bt (.int .i64 x.1.t.kind) (.string x.1.t.name) (.int .i64 x.1.t.n) (.slice x.1.a x.1.t.args.length x.1.c)) (hB : Below w0.heap.size w0 W) (h0 : J [] W) :
    CallsIn F n Try.prog 47 #[.func (.yield l) #[] #[], .pointer (some ⟨Bt, 0, none⟩)] W fun e W' => (∃ v, e = .returned v) ∧
      ((∃ ys, tmsM ys = x.1.t.all ∧ J ys W') ∨ (∃ pre, tmsM pre <+: x.1.t.all ∧ Jx pre W')) := by
  have hdd : ∀ k : Nat, (F.depth.isSome = true → 1 ≤ k) := fun k h => by rw [hd] at h; cases h
  have hp := Lib.hid (tell_inM F hd hF2 hro w0 M hM l x.1.t.parts J Jx hJ (fun m pre y W hj hl => yield_anyDepth hd m (hY pre y W hj hl)) x.1.t.parts (n - 1) x [] W (Nat.le_refl _) hB h0 (by simp))
  obtain ⟨⟨t, a, c⟩, hx, _⟩ := x
  obtain ⟨c0, c1, c2, c3, _, _, _, _⟩ := hBt
  simp only [Tv.val] at hp c0 c1 c2 c3 ⊢
  clear hY hJ h0
  refine callsIn_of_wp Try.func47 rfl hF ?_ hro
  simp only [Try.ntmps47, List.size_toArray, List.length_cons, List.length_nil, Nat.reduceAdd, Nat.reduceSub, Array.replicate_succ, Array.replicate_zero, List.push_toArray, List.append_toArray, List.nil_append, List.cons_append]
  gi_wp2_with fail
  (try refine ⟨hdd _, ?_⟩)
  refine hp.out.mono ?_; clear hp; rintro e W1 (⟨rfl, ys, hys, hJ1, _⟩ | ⟨rfl, ys, hys, hx1⟩)
  · have H := Lib.hid hys
    clear hys
    gi_wp2_with fail
    go_end0
    exact ⟨⟨_, rfl⟩, .inl ⟨ys, H.out, hJ1⟩⟩
  · have H := Lib.hid hys
    clear hys
    gi_wp2_with fail
    go_end0
    exact ⟨⟨_, rfl⟩, .inr ⟨ys, H.out, hx1⟩⟩

theorem all_stopsM (F : Fence) (hd : F.depth = none) (n : Nat) (hF : F.fn 47) (hF2 : F.fn 48) (hro : F.round = none) (w0 : World) (M : Tm → Prop) (hM : ∀ (t : Tm) (j : Nat) (h : j < t.args.length), M t → M t.args[j]) (Bt : Nat) (x : TvM w0 M) (w : World) (hBt : Bt < w.heap.size)
    (hc : Box w Bt (.int .i64 x.1.t.kind) (.string x.1.t.name) (.int .i64 x.1.t.n) (.slice x.1.a x.1.t.args.length x.1.c)) (hB : Below w0.heap.size w0 w) :
    SeqStopsK F n Try.prog 47 #[.pointer (some ⟨Bt, 0, none⟩)] (fun y : TvM w0 M => #[y.1.val]) (KeepsT w0.heap.size) (fun ys => tmsM ys = x.1.t.all) (fun pre => tmsM pre <+: x.1.t.all) x.1.t.parts w := fun l J Jx W hW hJ _ hY h0 =>
  all1_inM F hd n hF hF2 hro w0 M hM l Bt x J Jx (abides_alloc hJ) hY W (hc.below hW hBt) (hB.trans (hW.mono hB.size)) h0
end Go.Proofs.Ytehpkhcjejlbpaa
