/-
  All in a term, then the term, each with its size: the program's sized; and Has and Proper, which lean on it.
-/
import Derived.Test.YtpdbnhhpibpbnaaDoorPGroundTm
import Derived.Test.YtpdbnhhpibpbnaaDoorPCmpTm
namespace Go.Proofs.YtpdbnhhpibpbnaaDoor
open Go.RowKit Go.Shelf
attribute [local go_sem] Oper.semAt_some

mutual
/-- All in a term, from the left, then the term. -/
def Tm.post : Tm → List Tm
  | .mk k s n xs => postL xs ++ [.mk k s n xs]
def postL : List Tm → List Tm
  | [] => []
  | t :: r => t.post ++ postL r
end
theorem postL_append (a b : List Tm) : postL (a ++ b) = postL a ++ postL b := by
  induction a with
  | nil => rw [List.nil_append, postL]; rfl
  | cons t r ih => rw [List.cons_append, postL, postL, ih, List.append_assoc]
theorem postL_take {l : List Tm} {k : Nat} (h : k < l.length) : postL (l.take (k + 1)) = postL (l.take k) ++ l[k].post := by
  rw [List.take_succ_eq_append_getElem h, postL_append]
  congr 1
  rw [postL, postL, List.append_nil]
mutual
theorem post_length : ∀ t : Tm, t.post.length = t.parts
  | .mk k s n xs => by rw [Tm.post, List.length_append, postL_length xs, Tm.parts]; rfl
theorem postL_length : ∀ l : List Tm, (postL l).length = partsL l
  | [] => by rw [postL, partsL]; rfl
  | t :: r => by rw [postL, List.length_append, post_length t, postL_length r, partsL]
end
mutual
theorem mem_post (y : Tm) : ∀ t : Tm, y ∈ t.post ↔ y ∈ t.all
  | .mk k s n xs => by
    rw [Tm.post, Tm.all, List.mem_append, List.mem_cons, mem_postL y xs]
    simp [or_comm]
theorem mem_postL (y : Tm) : ∀ l : List Tm, y ∈ postL l ↔ y ∈ allL l
  | [] => by rw [postL, allL]
  | t :: r => by rw [postL, allL, List.mem_append, List.mem_append, mem_post y t, mem_postL y r]
end
theorem prefix_post {t : Tm} {xs : List Tm} {j : Nat} {k : Int} {s : ByteArray} {n : Int} (ht : t = .mk k s n xs) (hj : j < xs.length) {q : List Tm} (hq : q <+: xs[j].post) : (postL (xs.take j) ++ q) <+: t.post := by
  subst ht
  rw [Tm.post]
  obtain ⟨r, hr⟩ := hq
  refine ⟨r ++ postL (xs.drop (j + 1)) ++ [.mk k s n xs], ?_⟩
  rw [← List.append_assoc, ← List.append_assoc, List.append_assoc (postL (xs.take j)), hr, ← postL_take hj, ← postL_append, List.take_append_drop]

def WeighPost (w0 : World) (J Jx : List (TvIn w0) → World → Prop) (pre : List (TvIn w0)) (t : Tm) (W : World) (e : Ending) (W' : World) : Prop :=
  (e = .returned (.tuple #[.int .i64 t.parts, .bool true]) ∧ ∃ ys : List (TvIn w0), tms ys = t.post ∧ J (pre ++ ys) W' ∧ KeepsT w0.heap.size W W') ∨ (∃ (z : Int) (ys : List (TvIn w0)), e = .returned (.tuple #[.int .i64 z, .bool false]) ∧ tms ys <+: t.post ∧ Jx (pre ++ ys) W')

set_option maxRecDepth 100000 in
set_option maxHeartbeats 2000000 in
theorem weigh_in (F : Fence) (hd : F.depth = none) (hF : F.fn 78) (hro : F.round = none) (w0 : World) (l N : Nat) (hN1 : N ≤ 1000000) (J Jx : List (TvIn w0) → World → Prop)
    (hJ : ∀ pre W o, J pre W → J pre (W.alloc o))
    (hY : ∀ m pre (x : TvIn w0) W, J pre W → pre.length < N → YieldAt F m Tryd.prog l #[x.1.val, .int .i64 x.1.t.parts] W fun e W' =>
      (e = .returned (.bool true) ∧ J (pre ++ [x]) W' ∧ KeepsT w0.heap.size W W') ∨ (e = .returned (.bool false) ∧ Jx (pre ++ [x]) W')) (m : Nat) :
    ∀ (n : Nat) (x : TvIn w0) (pre : List (TvIn w0)) (W : World), x.1.t.parts ≤ m → Below w0.heap.size w0 W → J pre W → pre.length + x.1.t.parts ≤ N →
      CallsIn F n Tryd.prog 78 #[x.1.val, .func (.yield l) #[] #[]] W (WeighPost w0 J Jx pre x.1.t W) := by
  induction m with
  | zero => intro n x pre W h; have := parts_pos x.1.t; omega
  | succ m ih =>
    intro n x pre W hm hB hJ0 hN
    have hdd : ∀ k : Nat, (F.depth.isSome = true → 1 ≤ k) := fun k h => by rw [hd] at h; cases h
    obtain ⟨⟨⟨k, s, z, xs⟩, a, c⟩, hx⟩ := x
    have hxk := hx
    obtain ⟨_, hxl, hxr⟩ := hxk
    have hpe : (Tm.mk k s z xs).parts = partsL xs + 1 := parts_eq _
    simp only [Tm.args] at hxl hxr hm hN ⊢
    have hpl : ∀ j (h : j < xs.length), xs[j].parts ≤ m := fun j h => by
      have := parts_arg (.mk k s z xs) (j := j) h
      have e : (Tm.mk k s z xs).args[j] = xs[j] := rfl
      rw [e] at this; omega
    obtain ⟨x, hxx⟩ : ∃ x : TvIn w0, x = ⟨⟨.mk k s z xs, a, c⟩, hx⟩ := ⟨_, rfl⟩
    have hxt : x.1.t = .mk k s z xs := by rw [hxx]
    have hxv : x.1.val = .agg #[.int .i64 k, .string s, .int .i64 z, .slice a xs.length c] := by rw [hxx]; rfl
    have hY1 : ∀ pre' W', J pre' W' → pre'.length < N → YieldAt F (n - 1) Tryd.prog l #[.agg #[.int .i64 k, .string s, .int .i64 z, .slice a xs.length c], .int .i64 ((Tm.mk k s z xs).parts : Nat)] W' fun e W'' =>
        (e = .returned (.bool true) ∧ J (pre' ++ [x]) W'' ∧ KeepsT w0.heap.size W' W'') ∨ (e = .returned (.bool false) ∧ Jx (pre' ++ [x]) W'') := fun pre' W' hj hl => by
      have := hY (n - 1) pre' x W' hj hl
      rw [hxv, hxt] at this
      exact this
    obtain ⟨p, hpp⟩ : ∃ p, p = (Tm.mk k s z xs).parts := ⟨_, rfl⟩
    rw [← hpp] at hY1 hm hN hpe
    have hpm : p ≤ 1000000 := by omega
    have hK0 : KeepsT w0.heap.size W (W.alloc (.cells #[.int .i64 k, .string s, .int .i64 z, .slice a xs.length c] 24)) := (KeepsT.refl _ _).alloc hB.size _
    have hJa := hJ pre W (.cells #[.int .i64 k, .string s, .int .i64 z, .slice a xs.length c] 24) hJ0
    have IH := Lib.hid ih
    have HY := Lib.hid hY1
    have HJ := Lib.hid hJ
    have HP := Lib.hid hpl
    have HN := Lib.hid hN
    have HE := Lib.hid hpe
    have HQ := Lib.hid (show (Tm.mk k s z xs).post = postL xs ++ [.mk k s z xs] by rw [Tm.post])
    have HT := Lib.hid hxt
    have HPP := Lib.hid hpp
    have HK0 := Lib.hid hK0
    show CallsIn F n Tryd.prog 78 #[.agg #[.int .i64 k, .string s, .int .i64 z, .slice a xs.length c], .func (.yield l) #[] #[]] W (WeighPost w0 J Jx pre (.mk k s z xs) W)
    clear ih hY hY1 hJ hpl hm hN hpe hxx hxt hxv hpp hK0 hJ0
    refine callsIn_of_wp Tryd.func78 rfl hF ?_ hro
    simp only [Tryd.ntmps78, List.size_toArray, List.length_cons, List.length_nil, Nat.reduceAdd, Nat.reduceSub, Array.replicate_succ, Array.replicate_zero, List.push_toArray, List.append_toArray, List.nil_append, List.cons_append]
    rcases hxr with rfl | ⟨b, off, rfl, hlt, hr⟩
    · have hp1 : p = 1 := by have := HE.out; rw [partsL_nil] at this; omega
      subst hp1
      simp only [List.length_nil] at hJa HY HK0 ⊢
      obtain ⟨fn, tmps, assign, body, hy, hR⟩ := HY.out pre _ hJa (by have := HN.out; omega)
      simp only [Int.ofNat_one] at hy
      gi_wp2_with fail
      refine wpIn_loop_rounds 1 ?_; rw [roundsIn_succ]
      gi_wp2_with fail
      (try refine ⟨hdd _, ?_⟩)
      refine hR.mono ?_; clear hR hy; rintro e W2 (⟨rfl, hJ2, hk2⟩ | ⟨rfl, hx2⟩)
      · gi_wp2_with fail
        go_ret2
        exact .inl ⟨by rw [← HPP.out]; rfl, [x], by show [x.1.t] = _; rw [HT.out, HQ.out, postL]; rfl, hJ2, HK0.out.trans hk2⟩
      · gi_wp2_with fail
        go_ret2
        exact .inr ⟨_, [x], rfl, by show [x.1.t] <+: _; rw [HT.out, HQ.out, postL]; exact List.prefix_refl _, hx2⟩
    have HR := Lib.hid hr
    clear hr
    gi_wp2_with fail
    gi_loopw [6, 14] (fun q i wr => ∃ (j d : Nat) (ys : List (TvIn w0)), j ≤ xs.length ∧ i = .int .i64 j ∧ q = .int .i64 d ∧ d ≤ 1000000 ∧ Hid (d = partsL (xs.take j) + 1) ∧ tms ys = postL (xs.take j) ∧ J (pre ++ ys) wr ∧ KeepsT w0.heap.size (W.alloc (.cells #[.int .i64 k, .string s, .int .i64 z, .slice (some ⟨b, off, none⟩) xs.length c] 24)) wr) (fun _ i _ => xs.length - (intOf i).toNat)
    case atStart => exact ⟨0, 1, [], Nat.zero_le _, rfl, rfl, by omega, Lib.hid (by rw [List.take_zero, partsL_nil]), by rw [List.take_zero, postL]; rfl, by rw [List.append_nil]; exact hJa, KeepsT.refl _ _⟩
    case round =>
      obtain ⟨j, d, ys, hj, rfl, rfl, hd1, HD, hys, hJs, hKs⟩ := hrel
      have hKW := HK0.out.trans hKs
      have hBr := hB.trans hKW.below
      have hbs := hBr.size
      have hlen : ys.length = partsL (xs.take j) := by
        have := congrArg List.length hys
        rw [tms_length, postL_length] at this; exact this
      by_cases hjl : j < xs.length
      · have hil : (j : Int) < (xs.length : Int) := by omega
        obtain ⟨u, hu, huk, hat⟩ := tmAt_tv (rowAt_get HR.out hjl)
        obtain ⟨d0, d1, d2, d3⟩ := hat.below hBr
        have hKa := hKs.alloc hbs (.cells #[.int .i64 u.t.kind, .string u.t.name, .int .i64 u.t.n, .slice u.a u.t.args.length u.c] 24)
        have hfit : partsL (xs.take (j + 1)) ≤ partsL xs := by
          have e := partsL_append (xs.take (j + 1)) (xs.drop (j + 1))
          rw [List.take_append_drop] at e; omega
        have hst := partsL_take xs hjl
        rw [← hu] at hst
        have hsum : d + u.t.parts ≤ p := by have := HD.out; have := HE.out; omega
        have HS := Lib.hid (show d + u.t.parts = partsL (xs.take (j + 1)) + 1 by have := HD.out; omega)
        have C := Lib.hid (IH.out (n - 1) ⟨u, huk⟩ (pre ++ ys) (wr.alloc (.cells #[.int .i64 u.t.kind, .string u.t.name, .int .i64 u.t.n, .slice u.a u.t.args.length u.c] 24)) (by rw [hu]; exact HP.out j hjl) (hB.trans (HK0.out.trans hKa).below) (HJ.out _ _ _ hJs) (by have := HN.out; have := HD.out; rw [List.length_append]; show pre.length + ys.length + u.t.parts ≤ N; omega))
        simp only [Tv.val] at C
        have HU := Lib.hid hu
        have HYS := Lib.hid hys
        have hup : (u.t.parts : Int) ≤ 1000000 := by omega
        obtain ⟨q, hq⟩ : ∃ q, q = u.t.parts := ⟨_, rfl⟩
        rw [← hq] at hsum HS hup
        have hq1 : (d : Int) + (q : Int) ≤ 1000000 := by omega
        have HQQ := Lib.hid hq
        clear hu huk hat hys hlen hfit hst hq
        gi_wp2_with fail
        (try refine ⟨hdd _, ?_⟩)
        refine C.out.mono ?_; clear C; rintro e W3 (⟨rfl, zs, hzs, hJ3, hk3⟩ | ⟨z3, zs, rfl, hzs, hx3⟩)
        · rw [← HQQ.out]
          have HZS := Lib.hid hzs
          clear hzs
          gi_wp2_with fail
          go_roundw
          case rel => exact ⟨j + 1, d + q, ys ++ zs, by omega, by go_num, by go_num, by omega, Lib.hid HS.out, by rw [tms_append, HYS.out, HZS.out, postL_take hjl, HU.out], by rw [← List.append_assoc]; exact hJ3, hKa.trans hk3⟩
          case measure => simp [intOf]; omega
        · have HZS := Lib.hid hzs
          clear hzs
          gi_wp2_with fail
          go_ret2
          exact .inr ⟨_, ys ++ zs, rfl, by rw [tms_append, HYS.out]; exact prefix_post rfl hjl (by rw [← HU.out]; exact HZS.out), by rw [← List.append_assoc]; exact hx3⟩
      · obtain rfl : j = xs.length := by omega
        obtain rfl : d = p := by have := HD.out; have := HE.out; rw [List.take_length] at *; omega
        rw [List.take_length] at hys hlen
        obtain ⟨b0, b1, b2, b3, _, _, _, _⟩ := hKs.box
        obtain ⟨fn, tmps, assign, body, hy, hR⟩ := HY.out (pre ++ ys) wr hJs (by have := HN.out; have := HE.out; rw [List.length_append]; omega)
        have HYS := Lib.hid hys
        clear hys hlen
        gi_wp2_with fail
        (try refine ⟨hdd _, ?_⟩)
        refine hR.mono ?_; clear hR hy; rintro e W2 (⟨rfl, hJ2, hk2⟩ | ⟨rfl, hx2⟩)
        · gi_wp2_with fail
          go_ret2
          exact .inl ⟨by rw [← HPP.out]; rfl, ys ++ [x], by rw [tms_append, HYS.out, HQ.out]; show _ ++ [x.1.t] = _; rw [HT.out], by rw [← List.append_assoc]; exact hJ2, hKW.trans hk2⟩
        · gi_wp2_with fail
          go_ret2
          exact .inr ⟨_, ys ++ [x], rfl, by rw [tms_append, HYS.out, HQ.out]; show _ ++ [x.1.t] <+: _; rw [HT.out]; exact List.prefix_refl _, by rw [← List.append_assoc]; exact hx2⟩

set_option maxHeartbeats 1000000 in
theorem sized1_in (F : Fence) (hd : F.depth = none) (n : Nat) (hF : F.fn 77) (hF2 : F.fn 78) (hro : F.round = none) (w0 : World) (l Bt : Nat) (x : TvIn w0) (hp1 : x.1.t.parts ≤ 1000000) (J Jx : List (TvIn w0) → World → Prop)
    (hJ : ∀ pre W o, J pre W → J pre (W.alloc o))
    (hY : ∀ pre (y : TvIn w0) W, J pre W → pre.length < x.1.t.parts → YieldAt F (n - 1) Tryd.prog l #[y.1.val, .int .i64 y.1.t.parts] W fun e W' =>
      (e = .returned (.bool true) ∧ J (pre ++ [y]) W' ∧ KeepsT w0.heap.size W W') ∨ (e = .returned (.bool false) ∧ Jx (pre ++ [y]) W'))
    (W : World) (hBt : Box W Bt (.int .i64 x.1.t.kind) (.string x.1.t.name) (.int .i64 x.1.t.n) (.slice x.1.a x.1.t.args.length x.1.c)) (hB : Below w0.heap.size w0 W) (h0 : J [] W) :
    CallsIn F n Tryd.prog 77 #[.func (.yield l) #[] #[], .pointer (some ⟨Bt, 0, none⟩)] W fun e W' => (∃ v, e = .returned v) ∧
      ((∃ ys, tms ys = x.1.t.post ∧ J ys W') ∨ (∃ pre, tms pre <+: x.1.t.post ∧ Jx pre W')) := by
  have hdd : ∀ k : Nat, (F.depth.isSome = true → 1 ≤ k) := fun k h => by rw [hd] at h; cases h
  have hp := Lib.hid (weigh_in F hd hF2 hro w0 l x.1.t.parts hp1 J Jx hJ (fun m pre y W hj hl => yield_anyDepth hd m (hY pre y W hj hl)) x.1.t.parts (n - 1) x [] W (Nat.le_refl _) hB h0 (by simp))
  obtain ⟨⟨t, a, c⟩, hx⟩ := x
  obtain ⟨c0, c1, c2, c3, _, _, _, _⟩ := hBt
  simp only [Tv.val] at hp c0 c1 c2 c3 ⊢
  clear hY hJ h0 hp1
  refine callsIn_of_wp Tryd.func77 rfl hF ?_ hro
  simp only [Tryd.ntmps77, List.size_toArray, List.length_cons, List.length_nil, Nat.reduceAdd, Nat.reduceSub, Array.replicate_succ, Array.replicate_zero, List.push_toArray, List.append_toArray, List.nil_append, List.cons_append]
  gi_wp2_with fail
  (try refine ⟨hdd _, ?_⟩)
  refine hp.out.mono ?_; clear hp; rintro e W1 (⟨rfl, ys, hys, hJ1, _⟩ | ⟨z, ys, rfl, hys, hx1⟩)
  · have H := Lib.hid hys
    clear hys
    gi_wp2_with fail
    go_end0
    exact ⟨⟨_, rfl⟩, .inl ⟨ys, H.out, hJ1⟩⟩
  · have H := Lib.hid hys
    clear hys
    gi_wp2_with fail
    go_end0
    exact ⟨⟨_, rfl⟩, .inr ⟨ys, H.out, hx1⟩⟩

set_option maxHeartbeats 1000000 in
theorem sized_in (F : Fence) (n : Nat) (hF : F.fn 62) (hro : F.round = none) (x : Tv) (w : World) :
    CallsIn F n Tryd.prog 62 #[x.val] w fun e w' => e = .returned (.func (.func 77) #[] #[.pointer (some ⟨w.heap.size, 0, none⟩)]) ∧ w' = w.alloc (.cells #[.int .i64 x.t.kind, .string x.t.name, .int .i64 x.t.n, .slice x.a x.t.args.length x.c] 24) := by
  obtain ⟨t, a, c⟩ := x
  simp only [Tv.val]
  refine callsIn_of_wp Tryd.func62 rfl hF ?_ hro
  simp only [Tryd.ntmps62, List.size_toArray, List.length_cons, List.length_nil, Nat.reduceAdd, Nat.reduceSub, Array.replicate_succ, Array.replicate_zero, List.push_toArray, List.append_toArray, List.nil_append, List.cons_append]
  gi_wp2_with fail
  go_ret
  exact ⟨rfl, rfl⟩

theorem sized_stops (F : Fence) (hd : F.depth = none) (n : Nat) (hF : F.fn 77) (hF2 : F.fn 78) (hro : F.round = none) (w0 : World) (Bt : Nat) (x : TvIn w0) (hp1 : x.1.t.parts ≤ 1000000) (w : World) (hBt : Bt < w.heap.size)
    (hc : Box w Bt (.int .i64 x.1.t.kind) (.string x.1.t.name) (.int .i64 x.1.t.n) (.slice x.1.a x.1.t.args.length x.1.c)) (hB : Below w0.heap.size w0 w) :
    SeqStopsK F n Tryd.prog 77 #[.pointer (some ⟨Bt, 0, none⟩)] (fun y : TvIn w0 => #[y.1.val, .int .i64 y.1.t.parts]) (KeepsT w0.heap.size) (fun ys => tms ys = x.1.t.post) (fun pre => tms pre <+: x.1.t.post) x.1.t.parts w := fun l J Jx W hW hJ _ hY h0 =>
  sized1_in F hd n hF hF2 hro w0 l Bt x hp1 J Jx (abides_alloc hJ) hY W (hc.below hW hBt) (hB.trans (hW.mono hB.size)) h0

/-- The marks of ranges over functions that have come to their end. -/
def marks (Ds : List Nat) : List Deferred := Ds.map fun D => { target := .collected D, args := #[] }
theorem leaves_marks {F : Fence} {n : Nat} {P : Program} {fn : Func} {tmps : Array Value} {R : Ending → World → Prop} (n₀ : Nat) : ∀ (Ds : List Nat) (W : World), Ds.Nodup → (∀ D ∈ Ds, n₀ ≤ D ∧ W.heap[D]? = some (.deferred (some []))) →
    (∀ W', Below n₀ W W' → (∀ (k : Nat) (o : Obj), W.heap[k]? = some o → o.isCells = true → W'.heap[k]? = some o) → ∃ v, (results fn tmps).run P W' = .ok v W' ∧ R (.returned v) W') → LeavesInM F n P fn tmps R (marks Ds) .returning W
  | [], W, _, _, h => h W (Below.refl _ _) (fun _ _ h _ => h)
  | D :: Ds, W, hn, hD, h => by
    obtain ⟨h0, h1⟩ := hD D (by simp)
    rw [List.nodup_cons] at hn
    have hg := grownBy_putObj' W D (.deferred none)
    refine ⟨by simp, .inl ⟨D, _, rfl, run_takeDeferred h1, ?_⟩⟩
    refine leaves_marks n₀ Ds _ hn.2 (fun E hE => ⟨(hD E (by simp [hE])).1, ?_⟩) (fun W' hb hk => h W' (((Below.refl n₀ W).grown hg (by have := (Array.getElem?_eq_some_iff.1 h1).1; omega) (fun k e => by cases e; exact h0)).trans hb) (fun k o ho hc => hk k o ?_ hc))
    · rw [World.putObj_heap_other (fun e => hn.1 (by rw [← e]; exact hE))]
      exact (hD E (by simp [hE])).2
    · rw [World.putObj_heap_other (fun e => by subst e; rw [h1] at ho; cases ho; cases hc)]
      exact ho

end Go.Proofs.YtpdbnhhpibpbnaaDoor
