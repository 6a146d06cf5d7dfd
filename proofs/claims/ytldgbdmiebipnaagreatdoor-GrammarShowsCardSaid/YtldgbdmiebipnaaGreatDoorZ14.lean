/-
  The region 'x.f = append(x.f, call(r))': its operations in whatever order; any program, any types, any slots. No function of the program. (printed by tools/genapp.py)
  The region 'x.f = append(x.f, call(v))', v a variable in a box: its operations in whatever order; any program, any types, any slots. No function of the program. (printed by tools/genappl.py)
-/
import Derived.Test.YtldgbdmiebipnaaGreatDoorZ01
import Derived.Deep.RegionHeld3
namespace Go.Proofs.YtldgbdmiebipnaaGreatDoor
open Go.RowKit

/-! What a slot holds behind another slot's value. -/
theorem eval_put_ne {A : Act} {s t : Nat} {v : Value} (h : s ≠ t) : (A.put (some s) v).eval (.tmp t) = A.eval (.tmp t) := by
  show (A.tmps.setIfInBounds s v).getD t undef = A.tmps.getD t undef
  simp only [Array.getD_eq_getD_getElem?]
  rw [Array.getElem?_setIfInBounds_ne h]
theorem eval_put_eq {A : Act} {s : Nat} {v : Value} (h : s < A.tmps.size) : (A.put (some s) v).eval (.tmp s) = v := by
  show (A.tmps.setIfInBounds s v).getD s undef = v
  simp [Array.getD_eq_getD_getElem?, h]
theorem size_put (A : Act) (s : Nat) (v : Value) : (A.put (some s) v).tmps.size = A.tmps.size := by simp [Act.put]
theorem put_comm' {A : Act} {s t : Nat} (v u : Value) (h : s ≠ t) : (A.put (some s) v).put (some t) u = (A.put (some t) u).put (some s) v := Act.put_comm A v u fun d e q => by
  cases e; cases q; exact h rfl

/-! What an operation runs to. -/
section
variable {P : Program} {A : Act} {o : Oper} {w w' : World} {T R ty tr : TypeId} {x y : Operand} {fld : Nat} {u v q : Value}
theorem exec_field (ho : o.op = .fieldAddr T x fld) (hx : A.eval x = v) (h : (Instr.fieldAt T v fld).run P w = .ok u w') : (execOp A.eval o).run P w = .ok (.value u) w' := by
  unfold execOp; simp only [ho, hx]; simp [h, Result.andThen]
theorem exec_load (ho : o.op = .load R x) (hx : A.eval x = v) (h : (Instr.loadAt R v).run P w = .ok u w') : (execOp A.eval o).run P w = .ok (.value u) w' := by
  unfold execOp; simp only [ho, hx]; simp [h, Result.andThen]
theorem exec_move (ho : o.op = .move x) (hx : A.eval x = v) : (execOp A.eval o).run P w = .ok (.value v) w := by
  unfold execOp; simp only [ho, hx]; simp
theorem exec_store (ho : o.op = .store R x y) (hx : A.eval x = v) (hy : A.eval y = u) (h : (Instr.storeAt R v u).run P w = .ok () w') : (execOp A.eval o).run P w = .ok .skip w' := by
  unfold execOp; simp only [ho, hx, hy]; simp [h, Result.andThen]
theorem exec_slice1 (ho : o.op = .buildSlice R 1 #[(0, x)]) (hx : A.eval x = v) (h : (Instr.buildSlice R 1 #[(0, v)]).run P w = .ok u w') : (execOp A.eval o).run P w = .ok (.value u) w' := by
  unfold execOp; simp only [ho]; simp [hx, h, Result.andThen]
theorem exec_append (ho : o.op = .call { callee := .builtin .append, args := #[x, y], argTypes := #[R, R] }) (hx : A.eval x = v) (hy : A.eval y = u) (h : (Builtin.append_ #[R, R] o.type #[v, u]).run P w = .ok q w') : (execOp A.eval o).run P w = .ok (.value q) w' := by
  unfold execOp; simp only [ho]; simp [resolve, invoke, builtin, hx, hy, h, Result.andThen]
theorem exec_fn1 {f : FuncId} (hc : (callFunc f #[v]).run P w = .ok (.enter f #[v]) w) (ho : o.op = .call { callee := .value (.func f), args := #[x], argTypes := #[tr] }) (hx : A.eval x = v) : (execOp A.eval o).run P w = .ok (.enter f #[v]) w := by
  have e : A.eval (.func f) = .func (.func f) #[] #[] := rfl
  unfold execOp; simp only [ho]; simp [resolve, invoke, hx, e, Deferred.ofValue, hc]
end

/-! One operation of a region. -/
section
variable {P : Program} {ops : Array Oper} {o : Oper} {A : Act} {K : Act → World → Prop} {Q : Exit → Act → World → Prop} {E : Prop} {w w' : World}
theorem step_val {v : Value} (hg : o.guard = none) (hr : (execOp A.eval o).run P w = .ok (.value v) w') (h : K (A.put o.dst v) w') : if Region.wanted o (yielded ops A.tmps) = true then Oper.wp P o A w K Q else E := by
  rw [if_pos (by simp [Region.wanted, hg])]
  unfold Oper.wp; rw [hr]; exact h
theorem step_none (hg : o.guard = none) (hd : o.dst = none) (hr : (execOp A.eval o).run P w = .ok .skip w') (h : K A w') : if Region.wanted o (yielded ops A.tmps) = true then Oper.wp P o A w K Q else E := by
  rw [if_pos (by simp [Region.wanted, hg])]
  unfold Oper.wp; rw [hr, Oper.upon_skip, hd]; exact h
theorem step_fn {f : FuncId} {args : Array Value} (hg : o.guard = none) (hr : (execOp A.eval o).run P w = .ok (.enter f args) w) (h : Calls P f args w fun e w' => match e with
    | .returned v => K (A.put o.dst v) w'
    | .panicked chain => Q (.panic chain) A w'
    | .outgrown => LetsOut Q) : if Region.wanted o (yielded ops A.tmps) = true then Oper.wp P o A w K Q else E := by
  rw [if_pos (by simp [Region.wanted, hg])]
  unfold Oper.wp; rw [hr, Oper.upon_enter]
  refine h.mono fun e w2 he => ?_
  cases e <;> exact he
end

/-- What a call that has answered y in w1 leaves to be done: a row of y alone, the append, the store. -/
def AppAfter (P : Program) (Q : Exit → Act → World → Prop) (R : TypeId) (p : Addr) (v0 : Value) (fin : Value → Value → Act) (y : Value) (w1 : World) : Prop :=
  w1.cell? p = some v0 ∧ ∃ sl wB, (Instr.buildSlice R 1 #[(0, y)]).run P w1 = .ok sl wB ∧ wB.cell? p = some v0 ∧
    ∃ v1 w2, (Builtin.append_ #[R, R] R #[v0, sl]).run P wB = .ok v1 w2 ∧ ∃ w3, (Instr.storeAt R (.pointer (some p)) v1).run P w2 = .ok () w3 ∧ Q .normal (fin sl v1) w3

set_option maxRecDepth 100000 in
set_option maxHeartbeats 4000000 in
theorem app_region {P : Program} (hm : P.follows .mixedOrders = true) {Q : Exit → Act → World → Prop} {id : Nat} {T R E tr : TypeId} {f : FuncId} {fld s0 s1 s2 s3 s4 s5 s6 x r : Nat} {p0 p1 p2 p3 p4 p5 p6 p7 : String} {a : Act} {w : World}
    (bx : Nat) (p : Addr) (rv v0 : Value) (N : Nat) (hN : a.tmps.size = N) (hlt : s0 < N ∧ s1 < N ∧ s2 < N ∧ s3 < N ∧ s4 < N ∧ s5 < N ∧ s6 < N) (hnd : [x, r, s0, s1, s2, s3, s4, s5, s6].Nodup)
    (hx : a.eval (.tmp x) = .pointer (some ⟨bx, 0, none⟩)) (hr : a.eval (.tmp r) = rv)
    (HF : ∀ w, (Instr.fieldAt T (.pointer (some ⟨bx, 0, none⟩)) fld).run P w = .ok (.pointer (some p)) w)
    (HL : ∀ w v, w.cell? p = some v → (Instr.loadAt R (.pointer (some p))).run P w = .ok v w)
    (HC : ∀ w, (callFunc f #[rv]).run P w = .ok (.enter f #[rv]) w)
    (h0 : w.drew.cell? p = some v0)
    (HQ : ∀ c (i : Nat) v (A : Act) W, Q (.panic c) A W → Q (.panic c) (A.put (some i) v) W)
    (CALL : Calls P f #[rv] w.drew fun e w1 => match e with
      | .returned y => AppAfter P Q R p v0 (fun sl v1 => ((((((((a.put (some s0) (.pointer (some p))).put (some s1) v0).put (some s2) rv).put (some s3) y).put (some s4) sl).put (some s5) v1).put (some s6) (.pointer (some p))))) y w1
      | .panicked chain => Q (.panic chain) a w1
      | .outgrown => LetsOut Q) :
    Code.wp P (Code.region id #[{ dst := some s0, op := .fieldAddr T (.tmp x) fld, type := 0, pos := p0, after := #[], guard := none },
    { dst := some s1, op := .load R (.tmp s0), type := R, pos := p1, after := #[{ on := 0, ground := Ground.data }], guard := none },
    { dst := some s2, op := .move (.tmp r), type := tr, pos := p2, after := #[], guard := none },
    { dst := some s3, op := .call { callee := .value (.func f), args := #[.tmp s2], argTypes := #[tr] }, type := E, pos := p3, after := #[{ on := 2, ground := Ground.data }], guard := none },
    { dst := some s4, op := .buildSlice R 1 #[(0, .tmp s3)], type := R, pos := p4, after := #[{ on := 3, ground := Ground.data }], guard := none },
    { dst := some s5, op := .call { callee := .builtin .append, args := #[.tmp s1, .tmp s4], argTypes := #[R, R] }, type := R, pos := p5, after := #[{ on := 1, ground := Ground.data }, { on := 4, ground := Ground.data }, { on := 3, ground := Ground.chain }], guard := none },
    { dst := some s6, op := .fieldAddr T (.tmp x) fld, type := 0, pos := p6, after := #[{ on := 0, ground := Ground.phase }, { on := 1, ground := Ground.phase }, { on := 2, ground := Ground.phase }, { on := 3, ground := Ground.phase }, { on := 4, ground := Ground.phase }, { on := 5, ground := Ground.phase }], guard := none },
    { dst := none, op := .store R (.tmp s6) (.tmp s5), type := 0, pos := p7, after := #[{ on := 6, ground := Ground.data }, { on := 5, ground := Ground.data }, { on := 5, ground := Ground.chain }, { on := 0, ground := Ground.phase }, { on := 1, ground := Ground.phase }, { on := 2, ground := Ground.phase }, { on := 3, ground := Ground.phase }, { on := 4, ground := Ground.phase }, { on := 5, ground := Ground.phase }], guard := none }] true) Q a w := by
  obtain ⟨l0, l1, l2, l3, l4, l5, l6⟩ := hlt
  simp only [List.nodup_cons, List.mem_cons, List.not_mem_nil, or_false, not_or, List.nodup_nil, and_true, not_false_eq_true] at hnd
  obtain ⟨⟨_, _, _, _, _, _, _, _⟩, ⟨_, _, _, _, _, _, _⟩, ⟨_, _, _, _, _, _⟩, ⟨_, _, _, _, _⟩, ⟨_, _, _, _⟩, ⟨_, _, _⟩, ⟨_, _⟩, _⟩ := hnd
  obtain ⟨ptr, hptr⟩ : ∃ q : Value, q = .pointer (some p) := ⟨_, rfl⟩
  rw [← hptr] at HF HL CALL
  obtain ⟨OPS, hOPS⟩ : ∃ O : Array Oper, O = #[{ dst := some s0, op := .fieldAddr T (.tmp x) fld, type := 0, pos := p0, after := #[], guard := none },
    { dst := some s1, op := .load R (.tmp s0), type := R, pos := p1, after := #[{ on := 0, ground := Ground.data }], guard := none },
    { dst := some s2, op := .move (.tmp r), type := tr, pos := p2, after := #[], guard := none },
    { dst := some s3, op := .call { callee := .value (.func f), args := #[.tmp s2], argTypes := #[tr] }, type := E, pos := p3, after := #[{ on := 2, ground := Ground.data }], guard := none },
    { dst := some s4, op := .buildSlice R 1 #[(0, .tmp s3)], type := R, pos := p4, after := #[{ on := 3, ground := Ground.data }], guard := none },
    { dst := some s5, op := .call { callee := .builtin .append, args := #[.tmp s1, .tmp s4], argTypes := #[R, R] }, type := R, pos := p5, after := #[{ on := 1, ground := Ground.data }, { on := 4, ground := Ground.data }, { on := 3, ground := Ground.chain }], guard := none },
    { dst := some s6, op := .fieldAddr T (.tmp x) fld, type := 0, pos := p6, after := #[{ on := 0, ground := Ground.phase }, { on := 1, ground := Ground.phase }, { on := 2, ground := Ground.phase }, { on := 3, ground := Ground.phase }, { on := 4, ground := Ground.phase }, { on := 5, ground := Ground.phase }], guard := none },
    { dst := none, op := .store R (.tmp s6) (.tmp s5), type := 0, pos := p7, after := #[{ on := 6, ground := Ground.data }, { on := 5, ground := Ground.data }, { on := 5, ground := Ground.chain }, { on := 0, ground := Ground.phase }, { on := 1, ground := Ground.phase }, { on := 2, ground := Ground.phase }, { on := 3, ground := Ground.phase }, { on := 4, ground := Ground.phase }, { on := 5, ground := Ground.phase }], guard := none }] := ⟨_, rfl⟩
  rw [← hOPS]
  have st7 : ∀ (A : Act) (w2 : World) (v1 : Value) (w3 : World), A.eval (.tmp s6) = ptr → A.eval (.tmp s5) = v1 → (Instr.storeAt R ptr v1).run P w2 = .ok () w3 → Q .normal A w3 → wpAnyH P .any OPS Q (fun _ => True) 1 #[true, true, true, true, true, true, true, false] A w2 := by
    intro A w2 v1 w3 e6 e5 hs hq
    refine wpAnyH_ready (rs := [7]) (by rw [hOPS]; kernel_rfl) (by simp) ?_
    refine AllReadyH.cons (o := { dst := none, op := .store R (.tmp s6) (.tmp s5), type := 0, pos := p7, after := #[{ on := 6, ground := Ground.data }, { on := 5, ground := Ground.data }, { on := 5, ground := Ground.chain }, { on := 0, ground := Ground.phase }, { on := 1, ground := Ground.phase }, { on := 2, ground := Ground.phase }, { on := 3, ground := Ground.phase }, { on := 4, ground := Ground.phase }, { on := 5, ground := Ground.phase }], guard := none }) (by rw [hOPS]; rfl) (fun K hK => ?_) AllReadyH.nil
    refine step_none (w' := w3) rfl rfl (exec_store rfl e6 e5 hs) (hK.out _ _ trivial fun _ => ?_)
    exact wpAnyH_done (by rw [hOPS]; kernel_rfl) hq _
  have st23 : ∀ (y : Value) (sl : Value) (wB : World), wB.cell? p = some v0 → (∃ v1 w2, (Builtin.append_ #[R, R] R #[v0, sl]).run P wB = .ok v1 w2 ∧ ∃ w3, (Instr.storeAt R ptr v1).run P w2 = .ok () w3 ∧ Q .normal ((((((((a.put (some s0) ptr).put (some s1) v0).put (some s2) rv).put (some s3) y).put (some s4) sl).put (some s5) v1).put (some s6) ptr)) w3) → wpAnyH P .any OPS Q (fun _ => True) 3 #[true, true, true, true, true, false, false, false] (((((a.put (some s0) ptr).put (some s1) v0).put (some s2) rv).put (some s3) y).put (some s4) sl) wB := by
    intro y sl wB hc hA
    obtain ⟨v1, w2, ha, w3, hs, hq⟩ := hA
    refine wpAnyH_ready (rs := [5]) (by rw [hOPS]; kernel_rfl) (by simp) ?_
    refine (AllReadyH.cons (o := { dst := some s5, op := .call { callee := .builtin .append, args := #[.tmp s1, .tmp s4], argTypes := #[R, R] }, type := R, pos := p5, after := #[{ on := 1, ground := Ground.data }, { on := 4, ground := Ground.data }, { on := 3, ground := Ground.chain }], guard := none }) (by rw [hOPS]; rfl) (fun K hK => ?_) AllReadyH.nil)
    refine step_val (v := v1) (w' := w2) rfl ?_ (hK.out _ _ trivial fun _ => ?_)
    · exact exec_append rfl ((eval_put_ne (by first | assumption | exact fun e => absurd e.symm (by assumption))).trans ((eval_put_ne (by first | assumption | exact fun e => absurd e.symm (by assumption))).trans ((eval_put_ne (by first | assumption | exact fun e => absurd e.symm (by assumption))).trans (eval_put_eq (by simp only [size_put]; rw [hN]; assumption))))) (eval_put_eq (by simp only [size_put]; rw [hN]; assumption)) ha
    refine wpAnyH_ready (rs := [6]) (by rw [hOPS]; kernel_rfl) (by simp) ?_
    refine (AllReadyH.cons (o := { dst := some s6, op := .fieldAddr T (.tmp x) fld, type := 0, pos := p6, after := #[{ on := 0, ground := Ground.phase }, { on := 1, ground := Ground.phase }, { on := 2, ground := Ground.phase }, { on := 3, ground := Ground.phase }, { on := 4, ground := Ground.phase }, { on := 5, ground := Ground.phase }], guard := none }) (by rw [hOPS]; rfl) (fun K hK => ?_) AllReadyH.nil)
    refine step_val (v := ptr) (w' := w2) rfl ?_ (hK.out _ _ trivial fun _ => ?_)
    · exact exec_field rfl ((eval_put_ne (by first | assumption | exact fun e => absurd e.symm (by assumption))).trans ((eval_put_ne (by first | assumption | exact fun e => absurd e.symm (by assumption))).trans ((eval_put_ne (by first | assumption | exact fun e => absurd e.symm (by assumption))).trans ((eval_put_ne (by first | assumption | exact fun e => absurd e.symm (by assumption))).trans ((eval_put_ne (by first | assumption | exact fun e => absurd e.symm (by assumption))).trans ((eval_put_ne (by first | assumption | exact fun e => absurd e.symm (by assumption))).trans (hx))))))) (HF _)
    exact st7 _ w2 v1 w3 (eval_put_eq (by simp only [size_put]; rw [hN]; assumption)) ((eval_put_ne (by first | assumption | exact fun e => absurd e.symm (by assumption))).trans (eval_put_eq (by simp only [size_put]; rw [hN]; assumption))) hs hq
  have st22 : ∀ (y : Value) (w1 : World), AppAfter P Q R p v0 (fun sl v1 => ((((((((a.put (some s0) ptr).put (some s1) v0).put (some s2) rv).put (some s3) y).put (some s4) sl).put (some s5) v1).put (some s6) ptr))) y w1 → wpAnyH P .any OPS Q (fun _ => True) 4 #[true, true, true, true, false, false, false, false] ((((a.put (some s0) ptr).put (some s1) v0).put (some s2) rv).put (some s3) y) w1 := by
    intro y w1 hA
    refine wpAnyH_ready (rs := [4]) (by rw [hOPS]; kernel_rfl) (by simp) ?_
    refine (AllReadyH.cons (o := { dst := some s4, op := .buildSlice R 1 #[(0, .tmp s3)], type := R, pos := p4, after := #[{ on := 3, ground := Ground.data }], guard := none }) (by rw [hOPS]; rfl) (fun K hK => ?_) AllReadyH.nil)
    · obtain ⟨hc1, sl, wB, hb, hcB, hR⟩ := hA
      refine step_val (v := sl) (w' := wB) rfl ?_ (hK.out _ _ trivial fun _ => st23 y sl wB hcB (by rw [hptr]; rw [hptr] at hR; exact hR))
      exact exec_slice1 rfl (eval_put_eq (by simp only [size_put]; rw [hN]; assumption)) hb
  have st21 : wpAnyH P .any OPS Q (fun _ => True) 5 #[true, true, true, false, false, false, false, false] (((a.put (some s0) ptr).put (some s1) v0).put (some s2) rv) w.drew := by
    refine wpAnyH_ready (rs := [3]) (by rw [hOPS]; kernel_rfl) (by simp) ?_
    refine (AllReadyH.cons (o := { dst := some s3, op := .call { callee := .value (.func f), args := #[.tmp s2], argTypes := #[tr] }, type := E, pos := p3, after := #[{ on := 2, ground := Ground.data }], guard := none }) (by rw [hOPS]; rfl) (fun K hK => ?_) AllReadyH.nil)
    · refine step_fn (f := f) (args := #[rv]) rfl (exec_fn1 (HC _) rfl (eval_put_eq (by simp only [size_put]; rw [hN]; assumption))) (CALL.mono ?_)
      intro e w1 he
      cases e with
      | returned y => exact hK.out _ _ trivial fun _ => st22 y w1 he
      | panicked chain => exact HQ _ _ _ _ _ (HQ _ _ _ _ _ (HQ _ _ _ _ _ (he)))
      | outgrown => exact he
  have st20 : wpAnyH P .any OPS Q (fun _ => True) 6 #[true, true, false, false, false, false, false, false] ((a.put (some s0) ptr).put (some s1) v0) w.drew := by
    refine wpAnyH_ready (rs := [2]) (by rw [hOPS]; kernel_rfl) (by simp) ?_
    refine (AllReadyH.cons (o := { dst := some s2, op := .move (.tmp r), type := tr, pos := p2, after := #[], guard := none }) (by rw [hOPS]; rfl) (fun K hK => ?_) AllReadyH.nil)
    · refine step_val (v := rv) (w' := w.drew) rfl ?_ (hK.out _ _ trivial fun _ => ?_)
      · exact exec_move rfl ((eval_put_ne (by first | assumption | exact fun e => absurd e.symm (by assumption))).trans ((eval_put_ne (by first | assumption | exact fun e => absurd e.symm (by assumption))).trans (hr)))
      exact st21
  have st13 : ∀ (y : Value) (sl : Value) (wB : World), wB.cell? p = some v0 → (∃ v1 w2, (Builtin.append_ #[R, R] R #[v0, sl]).run P wB = .ok v1 w2 ∧ ∃ w3, (Instr.storeAt R ptr v1).run P w2 = .ok () w3 ∧ Q .normal ((((((((a.put (some s0) ptr).put (some s1) v0).put (some s2) rv).put (some s3) y).put (some s4) sl).put (some s5) v1).put (some s6) ptr)) w3) → wpAnyH P .any OPS Q (fun _ => True) 4 #[true, false, true, true, true, false, false, false] ((((a.put (some s0) ptr).put (some s2) rv).put (some s3) y).put (some s4) sl) wB := by
    intro y sl wB hc hA
    refine wpAnyH_ready (rs := [1]) (by rw [hOPS]; kernel_rfl) (by simp) ?_
    refine (AllReadyH.cons (o := { dst := some s1, op := .load R (.tmp s0), type := R, pos := p1, after := #[{ on := 0, ground := Ground.data }], guard := none }) (by rw [hOPS]; rfl) (fun K hK => ?_) AllReadyH.nil)
    · refine step_val (v := v0) (w' := wB) rfl ?_ (hK.out _ _ trivial fun _ => ?_)
      · exact exec_load rfl ((eval_put_ne (by first | assumption | exact fun e => absurd e.symm (by assumption))).trans ((eval_put_ne (by first | assumption | exact fun e => absurd e.symm (by assumption))).trans ((eval_put_ne (by first | assumption | exact fun e => absurd e.symm (by assumption))).trans (eval_put_eq (by rw [hN]; assumption))))) (HL _ _ hc)
      show wpAnyH P .any OPS Q _ _ _ (((((a.put (some s0) ptr).put (some s2) rv).put (some s3) y).put (some s4) sl).put (some s1) _) _
      rw [put_comm' (s := s4) (t := s1) _ _ (by first | assumption | exact fun e => absurd e.symm (by assumption)), put_comm' (s := s3) (t := s1) _ _ (by first | assumption | exact fun e => absurd e.symm (by assumption)), put_comm' (s := s2) (t := s1) _ _ (by first | assumption | exact fun e => absurd e.symm (by assumption))]
      exact st23 y sl wB hc hA
  have st12 : ∀ (y : Value) (w1 : World), AppAfter P Q R p v0 (fun sl v1 => ((((((((a.put (some s0) ptr).put (some s1) v0).put (some s2) rv).put (some s3) y).put (some s4) sl).put (some s5) v1).put (some s6) ptr))) y w1 → wpAnyH P .any OPS Q (fun _ => True) 5 #[true, false, true, true, false, false, false, false] (((a.put (some s0) ptr).put (some s2) rv).put (some s3) y) w1 := by
    intro y w1 hA
    refine wpAnyH_ready (rs := [1, 4]) (by rw [hOPS]; kernel_rfl) (by simp) ?_
    refine (AllReadyH.cons (o := { dst := some s1, op := .load R (.tmp s0), type := R, pos := p1, after := #[{ on := 0, ground := Ground.data }], guard := none }) (by rw [hOPS]; rfl) (fun K hK => ?_) (AllReadyH.cons (o := { dst := some s4, op := .buildSlice R 1 #[(0, .tmp s3)], type := R, pos := p4, after := #[{ on := 3, ground := Ground.data }], guard := none }) (by rw [hOPS]; rfl) (fun K hK => ?_) AllReadyH.nil))
    · refine step_val (v := v0) (w' := w1) rfl ?_ (hK.out _ _ trivial fun _ => ?_)
      · exact exec_load rfl ((eval_put_ne (by first | assumption | exact fun e => absurd e.symm (by assumption))).trans ((eval_put_ne (by first | assumption | exact fun e => absurd e.symm (by assumption))).trans (eval_put_eq (by rw [hN]; assumption)))) (HL _ _ hA.1)
      show wpAnyH P .any OPS Q _ _ _ ((((a.put (some s0) ptr).put (some s2) rv).put (some s3) y).put (some s1) _) _
      rw [put_comm' (s := s3) (t := s1) _ _ (by first | assumption | exact fun e => absurd e.symm (by assumption)), put_comm' (s := s2) (t := s1) _ _ (by first | assumption | exact fun e => absurd e.symm (by assumption))]
      exact st22 y w1 hA
    · obtain ⟨hc1, sl, wB, hb, hcB, hR⟩ := hA
      refine step_val (v := sl) (w' := wB) rfl ?_ (hK.out _ _ trivial fun _ => st13 y sl wB hcB (by rw [hptr]; rw [hptr] at hR; exact hR))
      exact exec_slice1 rfl (eval_put_eq (by simp only [size_put]; rw [hN]; assumption)) hb
  have st11 : wpAnyH P .any OPS Q (fun _ => True) 6 #[true, false, true, false, false, false, false, false] ((a.put (some s0) ptr).put (some s2) rv) w.drew := by
    refine wpAnyH_ready (rs := [1, 3]) (by rw [hOPS]; kernel_rfl) (by simp) ?_
    refine (AllReadyH.cons (o := { dst := some s1, op := .load R (.tmp s0), type := R, pos := p1, after := #[{ on := 0, ground := Ground.data }], guard := none }) (by rw [hOPS]; rfl) (fun K hK => ?_) (AllReadyH.cons (o := { dst := some s3, op := .call { callee := .value (.func f), args := #[.tmp s2], argTypes := #[tr] }, type := E, pos := p3, after := #[{ on := 2, ground := Ground.data }], guard := none }) (by rw [hOPS]; rfl) (fun K hK => ?_) AllReadyH.nil))
    · refine step_val (v := v0) (w' := w.drew) rfl ?_ (hK.out _ _ trivial fun _ => ?_)
      · exact exec_load rfl ((eval_put_ne (by first | assumption | exact fun e => absurd e.symm (by assumption))).trans (eval_put_eq (by rw [hN]; assumption))) (HL _ _ h0)
      show wpAnyH P .any OPS Q _ _ _ (((a.put (some s0) ptr).put (some s2) rv).put (some s1) _) _
      rw [put_comm' (s := s2) (t := s1) _ _ (by first | assumption | exact fun e => absurd e.symm (by assumption))]
      exact st21
    · refine step_fn (f := f) (args := #[rv]) rfl (exec_fn1 (HC _) rfl (eval_put_eq (by simp only [size_put]; rw [hN]; assumption))) (CALL.mono ?_)
      intro e w1 he
      cases e with
      | returned y => exact hK.out _ _ trivial fun _ => st12 y w1 he
      | panicked chain => exact HQ _ _ _ _ _ (HQ _ _ _ _ _ (he))
      | outgrown => exact he
  have st10 : wpAnyH P .any OPS Q (fun _ => True) 7 #[true, false, false, false, false, false, false, false] (a.put (some s0) ptr) w.drew := by
    refine wpAnyH_ready (rs := [1, 2]) (by rw [hOPS]; kernel_rfl) (by simp) ?_
    refine (AllReadyH.cons (o := { dst := some s1, op := .load R (.tmp s0), type := R, pos := p1, after := #[{ on := 0, ground := Ground.data }], guard := none }) (by rw [hOPS]; rfl) (fun K hK => ?_) (AllReadyH.cons (o := { dst := some s2, op := .move (.tmp r), type := tr, pos := p2, after := #[], guard := none }) (by rw [hOPS]; rfl) (fun K hK => ?_) AllReadyH.nil))
    · refine step_val (v := v0) (w' := w.drew) rfl ?_ (hK.out _ _ trivial fun _ => ?_)
      · exact exec_load rfl (eval_put_eq (by rw [hN]; assumption)) (HL _ _ h0)
      exact st20
    · refine step_val (v := rv) (w' := w.drew) rfl ?_ (hK.out _ _ trivial fun _ => ?_)
      · exact exec_move rfl ((eval_put_ne (by first | assumption | exact fun e => absurd e.symm (by assumption))).trans (hr))
      exact st11
  have st03 : ∀ (y : Value) (sl : Value) (wB : World), wB.cell? p = some v0 → (∃ v1 w2, (Builtin.append_ #[R, R] R #[v0, sl]).run P wB = .ok v1 w2 ∧ ∃ w3, (Instr.storeAt R ptr v1).run P w2 = .ok () w3 ∧ Q .normal ((((((((a.put (some s0) ptr).put (some s1) v0).put (some s2) rv).put (some s3) y).put (some s4) sl).put (some s5) v1).put (some s6) ptr)) w3) → wpAnyH P .any OPS Q (fun _ => True) 5 #[false, false, true, true, true, false, false, false] (((a.put (some s2) rv).put (some s3) y).put (some s4) sl) wB := by
    intro y sl wB hc hA
    refine wpAnyH_ready (rs := [0]) (by rw [hOPS]; kernel_rfl) (by simp) ?_
    refine (AllReadyH.cons (o := { dst := some s0, op := .fieldAddr T (.tmp x) fld, type := 0, pos := p0, after := #[], guard := none }) (by rw [hOPS]; rfl) (fun K hK => ?_) AllReadyH.nil)
    · refine step_val (v := ptr) (w' := wB) rfl ?_ (hK.out _ _ trivial fun _ => ?_)
      · exact exec_field rfl ((eval_put_ne (by first | assumption | exact fun e => absurd e.symm (by assumption))).trans ((eval_put_ne (by first | assumption | exact fun e => absurd e.symm (by assumption))).trans ((eval_put_ne (by first | assumption | exact fun e => absurd e.symm (by assumption))).trans (hx)))) (HF _)
      show wpAnyH P .any OPS Q _ _ _ ((((a.put (some s2) rv).put (some s3) y).put (some s4) sl).put (some s0) _) _
      rw [put_comm' (s := s4) (t := s0) _ _ (by first | assumption | exact fun e => absurd e.symm (by assumption)), put_comm' (s := s3) (t := s0) _ _ (by first | assumption | exact fun e => absurd e.symm (by assumption)), put_comm' (s := s2) (t := s0) _ _ (by first | assumption | exact fun e => absurd e.symm (by assumption))]
      exact st13 y sl wB hc hA
  have st02 : ∀ (y : Value) (w1 : World), AppAfter P Q R p v0 (fun sl v1 => ((((((((a.put (some s0) ptr).put (some s1) v0).put (some s2) rv).put (some s3) y).put (some s4) sl).put (some s5) v1).put (some s6) ptr))) y w1 → wpAnyH P .any OPS Q (fun _ => True) 6 #[false, false, true, true, false, false, false, false] ((a.put (some s2) rv).put (some s3) y) w1 := by
    intro y w1 hA
    refine wpAnyH_ready (rs := [0, 4]) (by rw [hOPS]; kernel_rfl) (by simp) ?_
    refine (AllReadyH.cons (o := { dst := some s0, op := .fieldAddr T (.tmp x) fld, type := 0, pos := p0, after := #[], guard := none }) (by rw [hOPS]; rfl) (fun K hK => ?_) (AllReadyH.cons (o := { dst := some s4, op := .buildSlice R 1 #[(0, .tmp s3)], type := R, pos := p4, after := #[{ on := 3, ground := Ground.data }], guard := none }) (by rw [hOPS]; rfl) (fun K hK => ?_) AllReadyH.nil))
    · refine step_val (v := ptr) (w' := w1) rfl ?_ (hK.out _ _ trivial fun _ => ?_)
      · exact exec_field rfl ((eval_put_ne (by first | assumption | exact fun e => absurd e.symm (by assumption))).trans ((eval_put_ne (by first | assumption | exact fun e => absurd e.symm (by assumption))).trans (hx))) (HF _)
      show wpAnyH P .any OPS Q _ _ _ (((a.put (some s2) rv).put (some s3) y).put (some s0) _) _
      rw [put_comm' (s := s3) (t := s0) _ _ (by first | assumption | exact fun e => absurd e.symm (by assumption)), put_comm' (s := s2) (t := s0) _ _ (by first | assumption | exact fun e => absurd e.symm (by assumption))]
      exact st12 y w1 hA
    · obtain ⟨hc1, sl, wB, hb, hcB, hR⟩ := hA
      refine step_val (v := sl) (w' := wB) rfl ?_ (hK.out _ _ trivial fun _ => st03 y sl wB hcB (by rw [hptr]; rw [hptr] at hR; exact hR))
      exact exec_slice1 rfl (eval_put_eq (by simp only [size_put]; rw [hN]; assumption)) hb
  have st01 : wpAnyH P .any OPS Q (fun _ => True) 7 #[false, false, true, false, false, false, false, false] (a.put (some s2) rv) w.drew := by
    refine wpAnyH_ready (rs := [0, 3]) (by rw [hOPS]; kernel_rfl) (by simp) ?_
    refine (AllReadyH.cons (o := { dst := some s0, op := .fieldAddr T (.tmp x) fld, type := 0, pos := p0, after := #[], guard := none }) (by rw [hOPS]; rfl) (fun K hK => ?_) (AllReadyH.cons (o := { dst := some s3, op := .call { callee := .value (.func f), args := #[.tmp s2], argTypes := #[tr] }, type := E, pos := p3, after := #[{ on := 2, ground := Ground.data }], guard := none }) (by rw [hOPS]; rfl) (fun K hK => ?_) AllReadyH.nil))
    · refine step_val (v := ptr) (w' := w.drew) rfl ?_ (hK.out _ _ trivial fun _ => ?_)
      · exact exec_field rfl ((eval_put_ne (by first | assumption | exact fun e => absurd e.symm (by assumption))).trans (hx)) (HF _)
      show wpAnyH P .any OPS Q _ _ _ ((a.put (some s2) rv).put (some s0) _) _
      rw [put_comm' (s := s2) (t := s0) _ _ (by first | assumption | exact fun e => absurd e.symm (by assumption))]
      exact st11
    · refine step_fn (f := f) (args := #[rv]) rfl (exec_fn1 (HC _) rfl (eval_put_eq (by rw [hN]; assumption))) (CALL.mono ?_)
      intro e w1 he
      cases e with
      | returned y => exact hK.out _ _ trivial fun _ => st02 y w1 he
      | panicked chain => exact HQ _ _ _ _ _ (he)
      | outgrown => exact he
  have st00 : wpAnyH P .any OPS Q (fun _ => True) 8 #[false, false, false, false, false, false, false, false] a w.drew := by
    refine wpAnyH_ready (rs := [0, 2]) (by rw [hOPS]; kernel_rfl) (by simp) ?_
    refine (AllReadyH.cons (o := { dst := some s0, op := .fieldAddr T (.tmp x) fld, type := 0, pos := p0, after := #[], guard := none }) (by rw [hOPS]; rfl) (fun K hK => ?_) (AllReadyH.cons (o := { dst := some s2, op := .move (.tmp r), type := tr, pos := p2, after := #[], guard := none }) (by rw [hOPS]; rfl) (fun K hK => ?_) AllReadyH.nil))
    · refine step_val (v := ptr) (w' := w.drew) rfl ?_ (hK.out _ _ trivial fun _ => ?_)
      · exact exec_field rfl (hx) (HF _)
      exact st10
    · refine step_val (v := rv) (w' := w.drew) rfl ?_ (hK.out _ _ trivial fun _ => ?_)
      · exact exec_move rfl (hr)
      exact st01
  refine wp_region_held_drew (S := fun _ => True) hm trivial (fun _ => ?_)
  have := st00
  rw [hOPS] at this ⊢
  exact this
end Go.Proofs.YtldgbdmiebipnaaGreatDoor

namespace Go.Proofs.YtldgbdmiebipnaaGreatDoor
open Go.RowKit

set_option maxRecDepth 100000 in
set_option maxHeartbeats 4000000 in
theorem app_regionL {P : Program} (hm : P.follows .mixedOrders = true) {Q : Exit → Act → World → Prop} {id : Nat} {T R E tr : TypeId} {f : FuncId} {fld s0 s1 s2 s3 s4 s5 s6 x r : Nat} {p0 p1 p2 p3 p4 p5 p6 p7 : String} {a : Act} {w : World}
    (bx : Nat) (p q : Addr) (rv v0 : Value) (N : Nat) (hN : a.tmps.size = N) (hlt : s0 < N ∧ s1 < N ∧ s2 < N ∧ s3 < N ∧ s4 < N ∧ s5 < N ∧ s6 < N) (hnd : [x, r, s0, s1, s2, s3, s4, s5, s6].Nodup)
    (hx : a.eval (.tmp x) = .pointer (some ⟨bx, 0, none⟩)) (hr : a.eval (.tmp r) = .pointer (some q))
    (HLD : (Instr.loadAt tr (.pointer (some q))).run P w.drew = .ok rv w.drew)
    (HF : ∀ w, (Instr.fieldAt T (.pointer (some ⟨bx, 0, none⟩)) fld).run P w = .ok (.pointer (some p)) w)
    (HL : ∀ w v, w.cell? p = some v → (Instr.loadAt R (.pointer (some p))).run P w = .ok v w)
    (HC : ∀ w, (callFunc f #[rv]).run P w = .ok (.enter f #[rv]) w)
    (h0 : w.drew.cell? p = some v0)
    (HQ : ∀ c (i : Nat) v (A : Act) W, Q (.panic c) A W → Q (.panic c) (A.put (some i) v) W)
    (CALL : Calls P f #[rv] w.drew fun e w1 => match e with
      | .returned y => AppAfter P Q R p v0 (fun sl v1 => ((((((((a.put (some s0) (.pointer (some p))).put (some s1) v0).put (some s2) rv).put (some s3) y).put (some s4) sl).put (some s5) v1).put (some s6) (.pointer (some p))))) y w1
      | .panicked chain => Q (.panic chain) a w1
      | .outgrown => LetsOut Q) :
    Code.wp P (Code.region id #[{ dst := some s0, op := .fieldAddr T (.tmp x) fld, type := 0, pos := p0, after := #[], guard := none },
    { dst := some s1, op := .load R (.tmp s0), type := R, pos := p1, after := #[{ on := 0, ground := Ground.data }], guard := none },
    { dst := some s2, op := .load tr (.tmp r), type := tr, pos := p2, after := #[], guard := none },
    { dst := some s3, op := .call { callee := .value (.func f), args := #[.tmp s2], argTypes := #[tr] }, type := E, pos := p3, after := #[{ on := 2, ground := Ground.data }], guard := none },
    { dst := some s4, op := .buildSlice R 1 #[(0, .tmp s3)], type := R, pos := p4, after := #[{ on := 3, ground := Ground.data }], guard := none },
    { dst := some s5, op := .call { callee := .builtin .append, args := #[.tmp s1, .tmp s4], argTypes := #[R, R] }, type := R, pos := p5, after := #[{ on := 1, ground := Ground.data }, { on := 4, ground := Ground.data }, { on := 3, ground := Ground.chain }], guard := none },
    { dst := some s6, op := .fieldAddr T (.tmp x) fld, type := 0, pos := p6, after := #[{ on := 0, ground := Ground.phase }, { on := 1, ground := Ground.phase }, { on := 2, ground := Ground.phase }, { on := 3, ground := Ground.phase }, { on := 4, ground := Ground.phase }, { on := 5, ground := Ground.phase }], guard := none },
    { dst := none, op := .store R (.tmp s6) (.tmp s5), type := 0, pos := p7, after := #[{ on := 6, ground := Ground.data }, { on := 5, ground := Ground.data }, { on := 5, ground := Ground.chain }, { on := 0, ground := Ground.phase }, { on := 1, ground := Ground.phase }, { on := 2, ground := Ground.phase }, { on := 3, ground := Ground.phase }, { on := 4, ground := Ground.phase }, { on := 5, ground := Ground.phase }], guard := none }] true) Q a w := by
  obtain ⟨l0, l1, l2, l3, l4, l5, l6⟩ := hlt
  simp only [List.nodup_cons, List.mem_cons, List.not_mem_nil, or_false, not_or, List.nodup_nil, and_true, not_false_eq_true] at hnd
  obtain ⟨⟨_, _, _, _, _, _, _, _⟩, ⟨_, _, _, _, _, _, _⟩, ⟨_, _, _, _, _, _⟩, ⟨_, _, _, _, _⟩, ⟨_, _, _, _⟩, ⟨_, _, _⟩, ⟨_, _⟩, _⟩ := hnd
  obtain ⟨ptr, hptr⟩ : ∃ q : Value, q = .pointer (some p) := ⟨_, rfl⟩
  rw [← hptr] at HF HL CALL
  obtain ⟨OPS, hOPS⟩ : ∃ O : Array Oper, O = #[{ dst := some s0, op := .fieldAddr T (.tmp x) fld, type := 0, pos := p0, after := #[], guard := none },
    { dst := some s1, op := .load R (.tmp s0), type := R, pos := p1, after := #[{ on := 0, ground := Ground.data }], guard := none },
    { dst := some s2, op := .load tr (.tmp r), type := tr, pos := p2, after := #[], guard := none },
    { dst := some s3, op := .call { callee := .value (.func f), args := #[.tmp s2], argTypes := #[tr] }, type := E, pos := p3, after := #[{ on := 2, ground := Ground.data }], guard := none },
    { dst := some s4, op := .buildSlice R 1 #[(0, .tmp s3)], type := R, pos := p4, after := #[{ on := 3, ground := Ground.data }], guard := none },
    { dst := some s5, op := .call { callee := .builtin .append, args := #[.tmp s1, .tmp s4], argTypes := #[R, R] }, type := R, pos := p5, after := #[{ on := 1, ground := Ground.data }, { on := 4, ground := Ground.data }, { on := 3, ground := Ground.chain }], guard := none },
    { dst := some s6, op := .fieldAddr T (.tmp x) fld, type := 0, pos := p6, after := #[{ on := 0, ground := Ground.phase }, { on := 1, ground := Ground.phase }, { on := 2, ground := Ground.phase }, { on := 3, ground := Ground.phase }, { on := 4, ground := Ground.phase }, { on := 5, ground := Ground.phase }], guard := none },
    { dst := none, op := .store R (.tmp s6) (.tmp s5), type := 0, pos := p7, after := #[{ on := 6, ground := Ground.data }, { on := 5, ground := Ground.data }, { on := 5, ground := Ground.chain }, { on := 0, ground := Ground.phase }, { on := 1, ground := Ground.phase }, { on := 2, ground := Ground.phase }, { on := 3, ground := Ground.phase }, { on := 4, ground := Ground.phase }, { on := 5, ground := Ground.phase }], guard := none }] := ⟨_, rfl⟩
  rw [← hOPS]
  have st7 : ∀ (A : Act) (w2 : World) (v1 : Value) (w3 : World), A.eval (.tmp s6) = ptr → A.eval (.tmp s5) = v1 → (Instr.storeAt R ptr v1).run P w2 = .ok () w3 → Q .normal A w3 → wpAnyH P .any OPS Q (fun _ => True) 1 #[true, true, true, true, true, true, true, false] A w2 := by
    intro A w2 v1 w3 e6 e5 hs hq
    refine wpAnyH_ready (rs := [7]) (by rw [hOPS]; kernel_rfl) (by simp) ?_
    refine AllReadyH.cons (o := { dst := none, op := .store R (.tmp s6) (.tmp s5), type := 0, pos := p7, after := #[{ on := 6, ground := Ground.data }, { on := 5, ground := Ground.data }, { on := 5, ground := Ground.chain }, { on := 0, ground := Ground.phase }, { on := 1, ground := Ground.phase }, { on := 2, ground := Ground.phase }, { on := 3, ground := Ground.phase }, { on := 4, ground := Ground.phase }, { on := 5, ground := Ground.phase }], guard := none }) (by rw [hOPS]; rfl) (fun K hK => ?_) AllReadyH.nil
    refine step_none (w' := w3) rfl rfl (exec_store rfl e6 e5 hs) (hK.out _ _ trivial fun _ => ?_)
    exact wpAnyH_done (by rw [hOPS]; kernel_rfl) hq _
  have st23 : ∀ (y : Value) (sl : Value) (wB : World), wB.cell? p = some v0 → (∃ v1 w2, (Builtin.append_ #[R, R] R #[v0, sl]).run P wB = .ok v1 w2 ∧ ∃ w3, (Instr.storeAt R ptr v1).run P w2 = .ok () w3 ∧ Q .normal ((((((((a.put (some s0) ptr).put (some s1) v0).put (some s2) rv).put (some s3) y).put (some s4) sl).put (some s5) v1).put (some s6) ptr)) w3) → wpAnyH P .any OPS Q (fun _ => True) 3 #[true, true, true, true, true, false, false, false] (((((a.put (some s0) ptr).put (some s1) v0).put (some s2) rv).put (some s3) y).put (some s4) sl) wB := by
    intro y sl wB hc hA
    obtain ⟨v1, w2, ha, w3, hs, hq⟩ := hA
    refine wpAnyH_ready (rs := [5]) (by rw [hOPS]; kernel_rfl) (by simp) ?_
    refine (AllReadyH.cons (o := { dst := some s5, op := .call { callee := .builtin .append, args := #[.tmp s1, .tmp s4], argTypes := #[R, R] }, type := R, pos := p5, after := #[{ on := 1, ground := Ground.data }, { on := 4, ground := Ground.data }, { on := 3, ground := Ground.chain }], guard := none }) (by rw [hOPS]; rfl) (fun K hK => ?_) AllReadyH.nil)
    refine step_val (v := v1) (w' := w2) rfl ?_ (hK.out _ _ trivial fun _ => ?_)
    · exact exec_append rfl ((eval_put_ne (by first | assumption | exact fun e => absurd e.symm (by assumption))).trans ((eval_put_ne (by first | assumption | exact fun e => absurd e.symm (by assumption))).trans ((eval_put_ne (by first | assumption | exact fun e => absurd e.symm (by assumption))).trans (eval_put_eq (by simp only [size_put]; rw [hN]; assumption))))) (eval_put_eq (by simp only [size_put]; rw [hN]; assumption)) ha
    refine wpAnyH_ready (rs := [6]) (by rw [hOPS]; kernel_rfl) (by simp) ?_
    refine (AllReadyH.cons (o := { dst := some s6, op := .fieldAddr T (.tmp x) fld, type := 0, pos := p6, after := #[{ on := 0, ground := Ground.phase }, { on := 1, ground := Ground.phase }, { on := 2, ground := Ground.phase }, { on := 3, ground := Ground.phase }, { on := 4, ground := Ground.phase }, { on := 5, ground := Ground.phase }], guard := none }) (by rw [hOPS]; rfl) (fun K hK => ?_) AllReadyH.nil)
    refine step_val (v := ptr) (w' := w2) rfl ?_ (hK.out _ _ trivial fun _ => ?_)
    · exact exec_field rfl ((eval_put_ne (by first | assumption | exact fun e => absurd e.symm (by assumption))).trans ((eval_put_ne (by first | assumption | exact fun e => absurd e.symm (by assumption))).trans ((eval_put_ne (by first | assumption | exact fun e => absurd e.symm (by assumption))).trans ((eval_put_ne (by first | assumption | exact fun e => absurd e.symm (by assumption))).trans ((eval_put_ne (by first | assumption | exact fun e => absurd e.symm (by assumption))).trans ((eval_put_ne (by first | assumption | exact fun e => absurd e.symm (by assumption))).trans (hx))))))) (HF _)
    exact st7 _ w2 v1 w3 (eval_put_eq (by simp only [size_put]; rw [hN]; assumption)) ((eval_put_ne (by first | assumption | exact fun e => absurd e.symm (by assumption))).trans (eval_put_eq (by simp only [size_put]; rw [hN]; assumption))) hs hq
  have st22 : ∀ (y : Value) (w1 : World), AppAfter P Q R p v0 (fun sl v1 => ((((((((a.put (some s0) ptr).put (some s1) v0).put (some s2) rv).put (some s3) y).put (some s4) sl).put (some s5) v1).put (some s6) ptr))) y w1 → wpAnyH P .any OPS Q (fun _ => True) 4 #[true, true, true, true, false, false, false, false] ((((a.put (some s0) ptr).put (some s1) v0).put (some s2) rv).put (some s3) y) w1 := by
    intro y w1 hA
    refine wpAnyH_ready (rs := [4]) (by rw [hOPS]; kernel_rfl) (by simp) ?_
    refine (AllReadyH.cons (o := { dst := some s4, op := .buildSlice R 1 #[(0, .tmp s3)], type := R, pos := p4, after := #[{ on := 3, ground := Ground.data }], guard := none }) (by rw [hOPS]; rfl) (fun K hK => ?_) AllReadyH.nil)
    · obtain ⟨hc1, sl, wB, hb, hcB, hR⟩ := hA
      refine step_val (v := sl) (w' := wB) rfl ?_ (hK.out _ _ trivial fun _ => st23 y sl wB hcB (by rw [hptr]; rw [hptr] at hR; exact hR))
      exact exec_slice1 rfl (eval_put_eq (by simp only [size_put]; rw [hN]; assumption)) hb
  have st21 : wpAnyH P .any OPS Q (fun _ => True) 5 #[true, true, true, false, false, false, false, false] (((a.put (some s0) ptr).put (some s1) v0).put (some s2) rv) w.drew := by
    refine wpAnyH_ready (rs := [3]) (by rw [hOPS]; kernel_rfl) (by simp) ?_
    refine (AllReadyH.cons (o := { dst := some s3, op := .call { callee := .value (.func f), args := #[.tmp s2], argTypes := #[tr] }, type := E, pos := p3, after := #[{ on := 2, ground := Ground.data }], guard := none }) (by rw [hOPS]; rfl) (fun K hK => ?_) AllReadyH.nil)
    · refine step_fn (f := f) (args := #[rv]) rfl (exec_fn1 (HC _) rfl (eval_put_eq (by simp only [size_put]; rw [hN]; assumption))) (CALL.mono ?_)
      intro e w1 he
      cases e with
      | returned y => exact hK.out _ _ trivial fun _ => st22 y w1 he
      | panicked chain => exact HQ _ _ _ _ _ (HQ _ _ _ _ _ (HQ _ _ _ _ _ (he)))
      | outgrown => exact he
  have st20 : wpAnyH P .any OPS Q (fun _ => True) 6 #[true, true, false, false, false, false, false, false] ((a.put (some s0) ptr).put (some s1) v0) w.drew := by
    refine wpAnyH_ready (rs := [2]) (by rw [hOPS]; kernel_rfl) (by simp) ?_
    refine (AllReadyH.cons (o := { dst := some s2, op := .load tr (.tmp r), type := tr, pos := p2, after := #[], guard := none }) (by rw [hOPS]; rfl) (fun K hK => ?_) AllReadyH.nil)
    · refine step_val (v := rv) (w' := w.drew) rfl ?_ (hK.out _ _ trivial fun _ => ?_)
      · exact exec_load rfl ((eval_put_ne (by first | assumption | exact fun e => absurd e.symm (by assumption))).trans ((eval_put_ne (by first | assumption | exact fun e => absurd e.symm (by assumption))).trans (hr))) HLD
      exact st21
  have st13 : ∀ (y : Value) (sl : Value) (wB : World), wB.cell? p = some v0 → (∃ v1 w2, (Builtin.append_ #[R, R] R #[v0, sl]).run P wB = .ok v1 w2 ∧ ∃ w3, (Instr.storeAt R ptr v1).run P w2 = .ok () w3 ∧ Q .normal ((((((((a.put (some s0) ptr).put (some s1) v0).put (some s2) rv).put (some s3) y).put (some s4) sl).put (some s5) v1).put (some s6) ptr)) w3) → wpAnyH P .any OPS Q (fun _ => True) 4 #[true, false, true, true, true, false, false, false] ((((a.put (some s0) ptr).put (some s2) rv).put (some s3) y).put (some s4) sl) wB := by
    intro y sl wB hc hA
    refine wpAnyH_ready (rs := [1]) (by rw [hOPS]; kernel_rfl) (by simp) ?_
    refine (AllReadyH.cons (o := { dst := some s1, op := .load R (.tmp s0), type := R, pos := p1, after := #[{ on := 0, ground := Ground.data }], guard := none }) (by rw [hOPS]; rfl) (fun K hK => ?_) AllReadyH.nil)
    · refine step_val (v := v0) (w' := wB) rfl ?_ (hK.out _ _ trivial fun _ => ?_)
      · exact exec_load rfl ((eval_put_ne (by first | assumption | exact fun e => absurd e.symm (by assumption))).trans ((eval_put_ne (by first | assumption | exact fun e => absurd e.symm (by assumption))).trans ((eval_put_ne (by first | assumption | exact fun e => absurd e.symm (by assumption))).trans (eval_put_eq (by rw [hN]; assumption))))) (HL _ _ hc)
      show wpAnyH P .any OPS Q _ _ _ (((((a.put (some s0) ptr).put (some s2) rv).put (some s3) y).put (some s4) sl).put (some s1) _) _
      rw [put_comm' (s := s4) (t := s1) _ _ (by first | assumption | exact fun e => absurd e.symm (by assumption)), put_comm' (s := s3) (t := s1) _ _ (by first | assumption | exact fun e => absurd e.symm (by assumption)), put_comm' (s := s2) (t := s1) _ _ (by first | assumption | exact fun e => absurd e.symm (by assumption))]
      exact st23 y sl wB hc hA
  have st12 : ∀ (y : Value) (w1 : World), AppAfter P Q R p v0 (fun sl v1 => ((((((((a.put (some s0) ptr).put (some s1) v0).put (some s2) rv).put (some s3) y).put (some s4) sl).put (some s5) v1).put (some s6) ptr))) y w1 → wpAnyH P .any OPS Q (fun _ => True) 5 #[true, false, true, true, false, false, false, false] (((a.put (some s0) ptr).put (some s2) rv).put (some s3) y) w1 := by
    intro y w1 hA
    refine wpAnyH_ready (rs := [1, 4]) (by rw [hOPS]; kernel_rfl) (by simp) ?_
    refine (AllReadyH.cons (o := { dst := some s1, op := .load R (.tmp s0), type := R, pos := p1, after := #[{ on := 0, ground := Ground.data }], guard := none }) (by rw [hOPS]; rfl) (fun K hK => ?_) (AllReadyH.cons (o := { dst := some s4, op := .buildSlice R 1 #[(0, .tmp s3)], type := R, pos := p4, after := #[{ on := 3, ground := Ground.data }], guard := none }) (by rw [hOPS]; rfl) (fun K hK => ?_) AllReadyH.nil))
    · refine step_val (v := v0) (w' := w1) rfl ?_ (hK.out _ _ trivial fun _ => ?_)
      · exact exec_load rfl ((eval_put_ne (by first | assumption | exact fun e => absurd e.symm (by assumption))).trans ((eval_put_ne (by first | assumption | exact fun e => absurd e.symm (by assumption))).trans (eval_put_eq (by rw [hN]; assumption)))) (HL _ _ hA.1)
      show wpAnyH P .any OPS Q _ _ _ ((((a.put (some s0) ptr).put (some s2) rv).put (some s3) y).put (some s1) _) _
      rw [put_comm' (s := s3) (t := s1) _ _ (by first | assumption | exact fun e => absurd e.symm (by assumption)), put_comm' (s := s2) (t := s1) _ _ (by first | assumption | exact fun e => absurd e.symm (by assumption))]
      exact st22 y w1 hA
    · obtain ⟨hc1, sl, wB, hb, hcB, hR⟩ := hA
      refine step_val (v := sl) (w' := wB) rfl ?_ (hK.out _ _ trivial fun _ => st13 y sl wB hcB (by rw [hptr]; rw [hptr] at hR; exact hR))
      exact exec_slice1 rfl (eval_put_eq (by simp only [size_put]; rw [hN]; assumption)) hb
  have st11 : wpAnyH P .any OPS Q (fun _ => True) 6 #[true, false, true, false, false, false, false, false] ((a.put (some s0) ptr).put (some s2) rv) w.drew := by
    refine wpAnyH_ready (rs := [1, 3]) (by rw [hOPS]; kernel_rfl) (by simp) ?_
    refine (AllReadyH.cons (o := { dst := some s1, op := .load R (.tmp s0), type := R, pos := p1, after := #[{ on := 0, ground := Ground.data }], guard := none }) (by rw [hOPS]; rfl) (fun K hK => ?_) (AllReadyH.cons (o := { dst := some s3, op := .call { callee := .value (.func f), args := #[.tmp s2], argTypes := #[tr] }, type := E, pos := p3, after := #[{ on := 2, ground := Ground.data }], guard := none }) (by rw [hOPS]; rfl) (fun K hK => ?_) AllReadyH.nil))
    · refine step_val (v := v0) (w' := w.drew) rfl ?_ (hK.out _ _ trivial fun _ => ?_)
      · exact exec_load rfl ((eval_put_ne (by first | assumption | exact fun e => absurd e.symm (by assumption))).trans (eval_put_eq (by rw [hN]; assumption))) (HL _ _ h0)
      show wpAnyH P .any OPS Q _ _ _ (((a.put (some s0) ptr).put (some s2) rv).put (some s1) _) _
      rw [put_comm' (s := s2) (t := s1) _ _ (by first | assumption | exact fun e => absurd e.symm (by assumption))]
      exact st21
    · refine step_fn (f := f) (args := #[rv]) rfl (exec_fn1 (HC _) rfl (eval_put_eq (by simp only [size_put]; rw [hN]; assumption))) (CALL.mono ?_)
      intro e w1 he
      cases e with
      | returned y => exact hK.out _ _ trivial fun _ => st12 y w1 he
      | panicked chain => exact HQ _ _ _ _ _ (HQ _ _ _ _ _ (he))
      | outgrown => exact he
  have st10 : wpAnyH P .any OPS Q (fun _ => True) 7 #[true, false, false, false, false, false, false, false] (a.put (some s0) ptr) w.drew := by
    refine wpAnyH_ready (rs := [1, 2]) (by rw [hOPS]; kernel_rfl) (by simp) ?_
    refine (AllReadyH.cons (o := { dst := some s1, op := .load R (.tmp s0), type := R, pos := p1, after := #[{ on := 0, ground := Ground.data }], guard := none }) (by rw [hOPS]; rfl) (fun K hK => ?_) (AllReadyH.cons (o := { dst := some s2, op := .load tr (.tmp r), type := tr, pos := p2, after := #[], guard := none }) (by rw [hOPS]; rfl) (fun K hK => ?_) AllReadyH.nil))
    · refine step_val (v := v0) (w' := w.drew) rfl ?_ (hK.out _ _ trivial fun _ => ?_)
      · exact exec_load rfl (eval_put_eq (by rw [hN]; assumption)) (HL _ _ h0)
      exact st20
    · refine step_val (v := rv) (w' := w.drew) rfl ?_ (hK.out _ _ trivial fun _ => ?_)
      · exact exec_load rfl ((eval_put_ne (by first | assumption | exact fun e => absurd e.symm (by assumption))).trans (hr)) HLD
      exact st11
  have st03 : ∀ (y : Value) (sl : Value) (wB : World), wB.cell? p = some v0 → (∃ v1 w2, (Builtin.append_ #[R, R] R #[v0, sl]).run P wB = .ok v1 w2 ∧ ∃ w3, (Instr.storeAt R ptr v1).run P w2 = .ok () w3 ∧ Q .normal ((((((((a.put (some s0) ptr).put (some s1) v0).put (some s2) rv).put (some s3) y).put (some s4) sl).put (some s5) v1).put (some s6) ptr)) w3) → wpAnyH P .any OPS Q (fun _ => True) 5 #[false, false, true, true, true, false, false, false] (((a.put (some s2) rv).put (some s3) y).put (some s4) sl) wB := by
    intro y sl wB hc hA
    refine wpAnyH_ready (rs := [0]) (by rw [hOPS]; kernel_rfl) (by simp) ?_
    refine (AllReadyH.cons (o := { dst := some s0, op := .fieldAddr T (.tmp x) fld, type := 0, pos := p0, after := #[], guard := none }) (by rw [hOPS]; rfl) (fun K hK => ?_) AllReadyH.nil)
    · refine step_val (v := ptr) (w' := wB) rfl ?_ (hK.out _ _ trivial fun _ => ?_)
      · exact exec_field rfl ((eval_put_ne (by first | assumption | exact fun e => absurd e.symm (by assumption))).trans ((eval_put_ne (by first | assumption | exact fun e => absurd e.symm (by assumption))).trans ((eval_put_ne (by first | assumption | exact fun e => absurd e.symm (by assumption))).trans (hx)))) (HF _)
      show wpAnyH P .any OPS Q _ _ _ ((((a.put (some s2) rv).put (some s3) y).put (some s4) sl).put (some s0) _) _
      rw [put_comm' (s := s4) (t := s0) _ _ (by first | assumption | exact fun e => absurd e.symm (by assumption)), put_comm' (s := s3) (t := s0) _ _ (by first | assumption | exact fun e => absurd e.symm (by assumption)), put_comm' (s := s2) (t := s0) _ _ (by first | assumption | exact fun e => absurd e.symm (by assumption))]
      exact st13 y sl wB hc hA
  have st02 : ∀ (y : Value) (w1 : World), AppAfter P Q R p v0 (fun sl v1 => ((((((((a.put (some s0) ptr).put (some s1) v0).put (some s2) rv).put (some s3) y).put (some s4) sl).put (some s5) v1).put (some s6) ptr))) y w1 → wpAnyH P .any OPS Q (fun _ => True) 6 #[false, false, true, true, false, false, false, false] ((a.put (some s2) rv).put (some s3) y) w1 := by
    intro y w1 hA
    refine wpAnyH_ready (rs := [0, 4]) (by rw [hOPS]; kernel_rfl) (by simp) ?_
    refine (AllReadyH.cons (o := { dst := some s0, op := .fieldAddr T (.tmp x) fld, type := 0, pos := p0, after := #[], guard := none }) (by rw [hOPS]; rfl) (fun K hK => ?_) (AllReadyH.cons (o := { dst := some s4, op := .buildSlice R 1 #[(0, .tmp s3)], type := R, pos := p4, after := #[{ on := 3, ground := Ground.data }], guard := none }) (by rw [hOPS]; rfl) (fun K hK => ?_) AllReadyH.nil))
    · refine step_val (v := ptr) (w' := w1) rfl ?_ (hK.out _ _ trivial fun _ => ?_)
      · exact exec_field rfl ((eval_put_ne (by first | assumption | exact fun e => absurd e.symm (by assumption))).trans ((eval_put_ne (by first | assumption | exact fun e => absurd e.symm (by assumption))).trans (hx))) (HF _)
      show wpAnyH P .any OPS Q _ _ _ (((a.put (some s2) rv).put (some s3) y).put (some s0) _) _
      rw [put_comm' (s := s3) (t := s0) _ _ (by first | assumption | exact fun e => absurd e.symm (by assumption)), put_comm' (s := s2) (t := s0) _ _ (by first | assumption | exact fun e => absurd e.symm (by assumption))]
      exact st12 y w1 hA
    · obtain ⟨hc1, sl, wB, hb, hcB, hR⟩ := hA
      refine step_val (v := sl) (w' := wB) rfl ?_ (hK.out _ _ trivial fun _ => st03 y sl wB hcB (by rw [hptr]; rw [hptr] at hR; exact hR))
      exact exec_slice1 rfl (eval_put_eq (by simp only [size_put]; rw [hN]; assumption)) hb
  have st01 : wpAnyH P .any OPS Q (fun _ => True) 7 #[false, false, true, false, false, false, false, false] (a.put (some s2) rv) w.drew := by
    refine wpAnyH_ready (rs := [0, 3]) (by rw [hOPS]; kernel_rfl) (by simp) ?_
    refine (AllReadyH.cons (o := { dst := some s0, op := .fieldAddr T (.tmp x) fld, type := 0, pos := p0, after := #[], guard := none }) (by rw [hOPS]; rfl) (fun K hK => ?_) (AllReadyH.cons (o := { dst := some s3, op := .call { callee := .value (.func f), args := #[.tmp s2], argTypes := #[tr] }, type := E, pos := p3, after := #[{ on := 2, ground := Ground.data }], guard := none }) (by rw [hOPS]; rfl) (fun K hK => ?_) AllReadyH.nil))
    · refine step_val (v := ptr) (w' := w.drew) rfl ?_ (hK.out _ _ trivial fun _ => ?_)
      · exact exec_field rfl ((eval_put_ne (by first | assumption | exact fun e => absurd e.symm (by assumption))).trans (hx)) (HF _)
      show wpAnyH P .any OPS Q _ _ _ ((a.put (some s2) rv).put (some s0) _) _
      rw [put_comm' (s := s2) (t := s0) _ _ (by first | assumption | exact fun e => absurd e.symm (by assumption))]
      exact st11
    · refine step_fn (f := f) (args := #[rv]) rfl (exec_fn1 (HC _) rfl (eval_put_eq (by rw [hN]; assumption))) (CALL.mono ?_)
      intro e w1 he
      cases e with
      | returned y => exact hK.out _ _ trivial fun _ => st02 y w1 he
      | panicked chain => exact HQ _ _ _ _ _ (he)
      | outgrown => exact he
  have st00 : wpAnyH P .any OPS Q (fun _ => True) 8 #[false, false, false, false, false, false, false, false] a w.drew := by
    refine wpAnyH_ready (rs := [0, 2]) (by rw [hOPS]; kernel_rfl) (by simp) ?_
    refine (AllReadyH.cons (o := { dst := some s0, op := .fieldAddr T (.tmp x) fld, type := 0, pos := p0, after := #[], guard := none }) (by rw [hOPS]; rfl) (fun K hK => ?_) (AllReadyH.cons (o := { dst := some s2, op := .load tr (.tmp r), type := tr, pos := p2, after := #[], guard := none }) (by rw [hOPS]; rfl) (fun K hK => ?_) AllReadyH.nil))
    · refine step_val (v := ptr) (w' := w.drew) rfl ?_ (hK.out _ _ trivial fun _ => ?_)
      · exact exec_field rfl (hx) (HF _)
      exact st10
    · refine step_val (v := rv) (w' := w.drew) rfl ?_ (hK.out _ _ trivial fun _ => ?_)
      · exact exec_load rfl (hr) HLD
      exact st01
  refine wp_region_held_drew (S := fun _ => True) hm trivial (fun _ => ?_)
  have := st00
  rw [hOPS] at this ⊢
  exact this
end Go.Proofs.YtldgbdmiebipnaaGreatDoor
