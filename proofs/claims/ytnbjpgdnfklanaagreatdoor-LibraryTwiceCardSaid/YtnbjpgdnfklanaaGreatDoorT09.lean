/-
  A row of functions and a row of rules that grow beside each other. No function of the program.
  The region 'x.f = append(x.f, call(r))': its operations in whatever order; any program, any types, any slots. No function of the program. (printed by tools/genapp.py)
  One function more, one rule more: an append to a row of the call's own.
-/
import Derived.Test.YtnbjpgdnfklanaaGreatDoorT02
import Derived.Test.YtnbjpgdnfklanaaGreatDoorT04
import Derived.Test.YtnbjpgdnfklanaaGreatDoorT05
import Derived.Test.YtnbjpgdnfklanaaGreatDoorT01
import Derived.Deep.RegionHeld3
import Derived.Laws.AppendOwn
namespace Go.Proofs.YtnbjpgdnfklanaaGreatDoor
open Go.RowKit
def LiveQ (w0 W : World) (P : Nat → Prop) (base : Nat) (y : Qv) : Prop := ∃ lo hi, base ≤ lo ∧ lo ≤ hi ∧ hi ≤ W.heap.size ∧ (∀ k, P k → k < lo ∨ hi ≤ k) ∧
  ∀ W', Reads w0 W' → hi ≤ W'.heap.size → (∀ k, lo ≤ k → k < hi → W'.heap[k]? = W.heap[k]?) → y.ok W'
theorem LiveQ.ok {w0 W : World} {P : Nat → Prop} {base : Nat} {y : Qv} (h : LiveQ w0 W P base y) (hr : Reads w0 W) : y.ok W := by
  obtain ⟨lo, hi, _, _, h3, _, h5⟩ := h
  exact h5 W hr h3 fun _ _ _ => rfl
theorem LiveQ.keep {w0 W W' : World} {P P' : Nat → Prop} {base : Nat} {y : Qv} (h : LiveQ w0 W P base y) (hs : W.heap.size ≤ W'.heap.size) (hk : ∀ k, k < W.heap.size → ¬ P k → W'.heap[k]? = W.heap[k]?) (hP : ∀ k, P' k → P k ∨ W.heap.size ≤ k) : LiveQ w0 W' P' base y := by
  obtain ⟨lo, hi, h1, h2, h3, h4, h5⟩ := h
  refine ⟨lo, hi, h1, h2, Nat.le_trans h3 hs, fun k e => ?_, fun W2 g0 g1 g2 => h5 W2 g0 g1 fun k k1 k2 => ?_⟩
  · rcases hP k e with e | e
    · exact h4 k e
    · exact .inr (Nat.le_trans h3 e)
  · rw [g2 k k1 k2]
    refine hk k (Nat.lt_of_lt_of_le k2 h3) fun e => ?_
    rcases h4 k e with e | e <;> omega
theorem LiveQ.below {w0 W W' : World} {P : Nat → Prop} {base : Nat} {y : Qv} (h : LiveQ w0 W P base y) (hb : Below W.heap.size W W') : LiveQ w0 W' P base y := h.keep hb.size (fun k hk _ => hb.block k hk) fun _ e => .inl e
theorem fresh_wide {w0 w ws w' w'' : World} {z : Tv} (h : Fresh w0 ws w' z) (hs : w.heap.size ≤ ws.heap.size) (hz : w'.heap.size ≤ w''.heap.size) (he : ∀ b, ws.heap.size ≤ b → b < w'.heap.size → w''.heap[b]? = w'.heap[b]?) : Fresh w0 w w'' z := fun W hb hsz hag =>
  h W hb (Nat.le_trans hz hsz) (fun b h1 h2 => (hag b (Nat.le_trans hs h1) (Nat.lt_of_lt_of_le h2 hz)).trans (he b h1 h2))
theorem liveQ_made {w0 w w' : World} {x y : Tv} (hx : Fresh w0 w w' x) (hy : Fresh w0 w w' y) (hs : w.heap.size ≤ w'.heap.size) {P : Nat → Prop} {base : Nat} (hb : base ≤ w.heap.size) (hP : ∀ k, P k → k < w.heap.size) : LiveQ w0 w' P base ⟨x, y⟩ :=
  ⟨w.heap.size, w'.heap.size, hb, hs, Nat.le_refl _, fun k e => .inl (hP k e), fun W' g0 g1 g2 => ⟨hx W' g0 g1 g2, hy W' g0 g1 g2⟩⟩
structure Ent (w0 W : World) (Z : Nat → Prop) (ef eq : TypeId) (base : Nat) (vf : Value) (fs : List Fn) (vr : Value) (rs : List Rl) : Prop where
  okf : ∀ f ∈ fs, FnOk f
  fun_ : W.ownsRow base ef 2 vf fs.length (rowFn fs)
  rul : ∃ us : List Qv, us.map Qv.rl = rs ∧ (∀ x ∈ us, LiveQ w0 W (rowsZ Z vf vr) base x) ∧ W.ownsRow base eq 8 vr rs.length (rowQv us)
  apart : ∀ k, vf.ownBlock = some k → vr.ownBlock ≠ some k
  out : ∀ k, rowsP vf vr k → ¬ Z k
theorem ent_nil (w0 W : World) (Z : Nat → Prop) (ef eq : TypeId) (base : Nat) : Ent w0 W Z ef eq base (.slice none 0 0) [] (.slice none 0 0) [] :=
  ⟨(fun x hx => by cases hx), World.ownsRow_nil _ _ _ _, ⟨[], rfl, (fun x hx => by cases hx), World.ownsRow_nil _ _ _ _⟩, (fun k h => by cases h), fun k h => by rcases h with h | h <;> cases h⟩
section
variable {w0 W W' : World} {Z : Nat → Prop} {ef eq : TypeId} {base : Nat} {vf vr : Value} {fs : List Fn} {rs : List Rl}
theorem Ent.below (h : Ent w0 W Z ef eq base vf fs vr rs) (hb : Below W.heap.size W W') : Ent w0 W' Z ef eq base vf fs vr rs := by
  obtain ⟨h0, h1, ⟨us, k1, k2, k3⟩, ha, ho⟩ := h
  exact ⟨h0, own_below h1 hb, ⟨us, k1, fun x hx => (k2 x hx).below hb, own_below k3 hb⟩, ha, ho⟩
theorem Ent.lt (h : Ent w0 W Z ef eq base vf fs vr rs) : ∀ k, rowsP vf vr k → base ≤ k ∧ k < W.heap.size := by
  obtain ⟨_, h3, ⟨us, _, _, k3⟩, _, _⟩ := h
  intro k hk
  rcases hk with hk | hk
  · exact ⟨own_row_ge h3 k hk, own_row_lt h3 k hk⟩
  · exact ⟨own_row_ge k3 k hk, own_row_lt k3 k hk⟩
theorem Ent.beside {Z' : Nat → Prop} (h : Ent w0 W Z ef eq base vf fs vr rs) (hZ : ∀ k, Z' k → Z k ∨ W.heap.size ≤ k) : Ent w0 W Z' ef eq base vf fs vr rs := by
  have hlt := h.lt
  obtain ⟨h0, h1, ⟨us, k1, k2, k3⟩, ha, ho⟩ := h
  have hK : ∀ x : Qv, LiveQ w0 W (rowsZ Z vf vr) base x → LiveQ w0 W (rowsZ Z' vf vr) base x := fun x hx => hx.keep (Nat.le_refl _) (fun _ _ _ => rfl) fun k e => by
    rcases e with e | e
    · exact .inl (.inl e)
    · rcases hZ k e with q | q
      · exact .inl (.inr q)
      · exact .inr q
  refine ⟨h0, h1, ⟨us, k1, fun x hx => hK x (k2 x hx), k3⟩, ha, fun k e z => ?_⟩
  rcases hZ k z with q | q
  · exact ho k e q
  · have := (hlt k e).2; omega
theorem Ent.aside (h : Ent w0 W Z ef eq base vf fs vr rs) (hs : W.heap.size ≤ W'.heap.size) (hk : ∀ k, ¬ Z k → W'.heap[k]? = W.heap[k]?) : Ent w0 W' Z ef eq base vf fs vr rs := by
  obtain ⟨h0, h1, ⟨us, k1, k2, k3⟩, ha, ho⟩ := h
  have hK : ∀ x : Qv, LiveQ w0 W (rowsZ Z vf vr) base x → LiveQ w0 W' (rowsZ Z vf vr) base x := fun x hx => hx.keep hs (fun k _ q => hk k fun z => q (.inr z)) fun k e => .inl e
  exact ⟨h0, own_at h1 fun g q => hk g (ho g (.inl q)), ⟨us, k1, fun x hx => hK x (k2 x hx), own_at k3 fun g q => hk g (ho g (.inr q))⟩, ha, ho⟩
theorem Ent.addF {vf' : Value} {f : Fn} (h : Ent w0 W Z ef eq base vf fs vr rs) (hf : FnOk f) (hown : W'.ownsRow base ef 2 vf' (fs.length + 1) (rowFn fs ++ [.string f.1, .int .i64 f.2])) (hg : W.grownBy W' vf.ownBlock) (hat : vf'.ownBlock = vf.ownBlock ∨ vf'.ownBlock = some W.heap.size) (hZ : ∀ k, Z k → k < W.heap.size) :
    Ent w0 W' Z ef eq base vf' (fs ++ [f]) vr rs := by
  have hlt := h.lt
  obtain ⟨h0, h1, ⟨us, k1, k2, k3⟩, ha, ho⟩ := h
  have hP : ∀ k, rowsZ Z vf' vr k → rowsZ Z vf vr k ∨ W.heap.size ≤ k := fun k e => by
    rcases e with (e | e) | e
    · rcases hat with e2 | e2
      · exact .inl (.inl (.inl (by rw [← e2]; exact e)))
      · rw [e2] at e; injection e with e; exact .inr (by omega)
    · exact .inl (.inl (.inr e))
    · exact .inl (.inr e)
  have hK : ∀ x : Qv, LiveQ w0 W (rowsZ Z vf vr) base x → LiveQ w0 W' (rowsZ Z vf' vr) base x := fun x hx => hx.keep hg.size (fun k hk e => hg.block k hk fun q => e (.inl (.inl q.symm))) hP
  refine ⟨fun x hx => ?_, by rw [List.length_append, rowFn_append, rowFn_one]; exact hown, ⟨us, k1, fun x hx => hK x (k2 x hx), own_at k3 fun g e => hg.block g (hlt g (.inr e)).2 fun q => ha g q.symm e⟩, fun k e1 e2 => ?_, fun k e z => ?_⟩
  · rcases List.mem_append.1 hx with hx | hx
    · exact h0 x hx
    · rw [List.mem_singleton] at hx; rw [hx]; exact hf
  · rcases hat with q | q
    · exact ha k (by rw [← q]; exact e1) e2
    · rw [q] at e1; injection e1 with e1; have := (hlt k (.inr e2)).2; omega
  · rcases e with e | e
    · rcases hat with q | q
      · exact ho k (.inl (by rw [← q]; exact e)) z
      · rw [q] at e; injection e with e; have := hZ k z; omega
    · exact ho k (.inr e) z
theorem Ent.addR {vr' : Value} {us : List Qv} {y : Qv} (h : Ent w0 W Z ef eq base vf fs vr rs) (h1 : us.map Qv.rl = rs) (h2 : ∀ x ∈ us, LiveQ w0 W (rowsZ Z vf vr) base x) (hy : LiveQ w0 W (rowsZ Z vf vr) base y)
    (hown : W'.ownsRow base eq 8 vr' (rs.length + 1) (rowQv us ++ y.cells)) (hg : W.grownBy W' vr.ownBlock) (hat : vr'.ownBlock = vr.ownBlock ∨ vr'.ownBlock = some W.heap.size) (hZ : ∀ k, Z k → k < W.heap.size) :
    Ent w0 W' Z ef eq base vf fs vr' (rs ++ [y.rl]) := by
  have hlt := h.lt
  obtain ⟨h0, w1, _, ha, ho⟩ := h
  have hP : ∀ k, rowsZ Z vf vr' k → rowsZ Z vf vr k ∨ W.heap.size ≤ k := fun k e => by
    rcases e with (e | e) | e
    · exact .inl (.inl (.inl e))
    · rcases hat with e2 | e2
      · exact .inl (.inl (.inr (by rw [← e2]; exact e)))
      · rw [e2] at e; injection e with e; exact .inr (by omega)
    · exact .inl (.inr e)
  have hK : ∀ x : Qv, LiveQ w0 W (rowsZ Z vf vr) base x → LiveQ w0 W' (rowsZ Z vf vr') base x := fun x hx => hx.keep hg.size (fun k hk e => hg.block k hk fun q => e (.inl (.inr q.symm))) hP
  refine ⟨h0, own_at w1 fun g e => hg.block g (hlt g (.inl e)).2 fun q => ha g e q.symm, ⟨us ++ [y], by rw [List.map_append, h1]; rfl, fun x hx => ?_, ?_⟩, fun k e1 e2 => ?_, fun k e z => ?_⟩
  · rcases List.mem_append.1 hx with hx | hx
    · exact hK x (h2 x hx)
    · rw [List.mem_singleton] at hx; rw [hx]; exact hK y hy
  · rw [List.length_append, rowQv_append, rowQv_one]; exact hown
  · rcases hat with q | q
    · exact ha k e1 (by rw [← q]; exact e2)
    · rw [q] at e2; injection e2 with e2; have := (hlt k (.inl e1)).2; omega
  · rcases e with e | e
    · exact ho k (.inl e) z
    · rcases hat with q | q
      · exact ho k (.inr (by rw [← q]; exact e)) z
      · rw [q] at e; injection e with e; have := hZ k z; omega
theorem Ent.slices (h : Ent w0 W Z ef eq base vf fs vr rs) : (∃ a c, vf = .slice a fs.length c) ∧ ∃ a c, vr = .slice a rs.length c := by
  obtain ⟨_, h1, ⟨us, _, _, k3⟩, _, _⟩ := h
  exact ⟨own_slice h1, own_slice k3⟩
theorem Ent.reads (h : Ent w0 W Z 75 eq base vf fs vr rs) (hr : Reads w0 W) (hl1 : fs.length ≤ 9223372036854775807) (hl2 : rs.length ≤ 9223372036854775807) : Fus W vf fs ∧ Rls W vr rs := by
  obtain ⟨h0, h1, ⟨us, k1, k2, k3⟩, _, _⟩ := h
  exact ⟨OwnFn.fus ⟨h0, h1⟩ hl1, RowQ.rls ⟨us, k1, fun x hx => (k2 x hx).ok hr, k3⟩ hl2⟩
end
end Go.Proofs.YtnbjpgdnfklanaaGreatDoor

namespace Go.Proofs.YtnbjpgdnfklanaaGreatDoor
open Go.RowKit
section
variable {P : Program} {A : Act} {o : Oper} {w w' : World} {T R ty tr : TypeId} {x y : Operand} {fld : Nat} {u v q : Value}
theorem exec_append (ho : o.op = .call { callee := .builtin .append, args := #[x, y], argTypes := #[R, R] }) (hx : A.eval x = v) (hy : A.eval y = u) (h : (Builtin.append_ #[R, R] o.type #[v, u]).run P w = .ok q w') : (execOp A.eval o).run P w = .ok (.value q) w' := by
  unfold execOp; simp only [ho]; simp [resolve, invoke, builtin, hx, hy, h, Result.andThen]
end
section
variable {P : Program} {ops : Array Oper} {o : Oper} {A : Act} {K : Act → World → Prop} {Q : Exit → Act → World → Prop} {E : Prop} {w w' : World}
theorem step_val {v : Value} (hg : o.guard = none) (hr : (execOp A.eval o).run P w = .ok (.value v) w') (h : K (A.put o.dst v) w') : if Region.wanted o (yielded ops A.tmps) = true then Oper.wp P o A w K Q else E := by
  rw [if_pos (by simp [Region.wanted, hg])]
  unfold Oper.wp; rw [hr]; exact h
end
end Go.Proofs.YtnbjpgdnfklanaaGreatDoor

namespace Go.Proofs.YtnbjpgdnfklanaaGreatDoor
open Go.RowKit
theorem ruleInfo : (Tryz.prog.info? 52).map (fun i => (i.zero, i.size, i.bytes)) = some (some (.agg #[.int .i64 0, .string ⟨#[]⟩, .int .i64 0, .slice none 0 0, .int .i64 0, .string ⟨#[]⟩, .int .i64 0, .slice none 0 0]), 8, 112) := by kernel_rfl
theorem new_cells (w : World) (xs : List Value) (t : TypeId) : ∀ j u, xs[j]? = some u → (w.alloc (.cells xs.toArray t)).cell? ((⟨w.heap.size, 0, none⟩ : Addr).add j) = some u := by
  intro j u h
  have := World.cell?_alloc_mark w xs.toArray t (0, 0) j
  rw [addr_add]
  simp [h] at this ⊢
theorem qv_one (y : Qv) : ∀ u ∈ y.cells, u.oneCell' = true := by
  intro u hu
  simp only [Qv.cells, List.mem_cons, List.not_mem_nil, or_false] at hu
  rcases hu with rfl | rfl | rfl | rfl | rfl | rfl | rfl | rfl <;> rfl
section
variable {w0 W : World} {Z : Nat → Prop} {base : Nat} {vf vr : Value} {fs : List Fn} {rs : List Rl}
theorem add_fun (h : Ent w0 W Z 75 52 base vf fs vr rs) (f : Fn) (hf : FnOk f) (hl : fs.length ≤ 1000000) (hZ : ∀ k, Z k → k < W.heap.size) (hb : base ≤ W.heap.size) :
    ∃ v' w', (Builtin.append_ #[23, 23] 23 #[vf, .slice (some ⟨W.heap.size, 0, none⟩) 1 1]).run Tryz.prog (W.alloc (.cells #[.string f.1, .int .i64 f.2] 75)) = .ok v' w' ∧
      Ent w0 w' Z 75 52 base v' (fs ++ [f]) vr rs ∧ (∃ a c, v' = .slice a (fs.length + 1) c) ∧ W.grownBy w' vf.ownBlock ∧ ∀ k, vf.ownBlock = some k → base ≤ k := by
  obtain ⟨i0, hi, hz0, hz1, hz2⟩ := info_parts funInfo
  have hal : W.grownBy (W.alloc (.cells #[.string f.1, .int .i64 f.2] 75)) vf.ownBlock := World.grownBy_alloc W _ _
  have hba : Below W.heap.size W (W.alloc (.cells #[.string f.1, .int .i64 f.2] 75)) := (Below.refl _ _).alloc (Nat.le_refl _) _
  have hsz : (W.alloc (.cells #[.string f.1, .int .i64 f.2] 75)).heap.size = W.heap.size + 1 := by simp
  have hA := h.below hba
  obtain ⟨v', w', hr, h2, h3, _, h5⟩ := run_append_own_at (P := Tryz.prog) (W.alloc (.cells #[.string f.1, .int .i64 f.2] 75)) base 23 23 75 i0 (.agg #[.string ⟨#[]⟩, .int .i64 0]) 2 24 Tryz.underlying23 hi hz0 hz1 hz2 rfl (by decide) vf fs.length (rowFn fs) hA.fun_ ⟨W.heap.size, 0, none⟩ 1 1 [.string f.1, .int .i64 f.2] rfl (new_cells W _ _) (by intro u hu; simp at hu; rcases hu with rfl | rfl <;> rfl) (by unfold maxLen; omega) (by omega) (by rw [hsz]; omega)
  exact ⟨v', w', hr, hA.addF hf h2 h3 h5 (fun k hk => by have := hZ k hk; omega), own_slice h2, hal.trans h3, own_row_ge h.fun_⟩
theorem add_rule (h : Ent w0 W Z 75 52 base vf fs vr rs) (y : Qv) (hy : LiveQ w0 W (rowsZ Z vf vr) base y) (hl : rs.length ≤ 1000000) (hZ : ∀ k, Z k → k < W.heap.size) (hb : base ≤ W.heap.size) :
    ∃ v' w', (Builtin.append_ #[24, 24] 24 #[vr, .slice (some ⟨W.heap.size, 0, none⟩) 1 1]).run Tryz.prog (W.alloc (.cells y.cells.toArray 52)) = .ok v' w' ∧
      Ent w0 w' Z 75 52 base vf fs v' (rs ++ [y.rl]) ∧ (∃ a c, v' = .slice a (rs.length + 1) c) ∧ W.grownBy w' vr.ownBlock ∧ ∀ k, vr.ownBlock = some k → base ≤ k := by
  obtain ⟨i0, hi, hz0, hz1, hz2⟩ := info_parts ruleInfo
  have hal : W.grownBy (W.alloc (.cells y.cells.toArray 52)) vr.ownBlock := World.grownBy_alloc W _ _
  have hba : Below W.heap.size W (W.alloc (.cells y.cells.toArray 52)) := (Below.refl _ _).alloc (Nat.le_refl _) _
  have hsz : (W.alloc (.cells y.cells.toArray 52)).heap.size = W.heap.size + 1 := by simp
  have hA := h.below hba
  have hyA := hy.below hba
  obtain ⟨us, u1, u2, u3⟩ := hA.rul
  have hge := own_row_ge u3
  obtain ⟨v', w', hr, h2, h3, _, h5⟩ := run_append_own_at (P := Tryz.prog) (W.alloc (.cells y.cells.toArray 52)) base 24 24 52 i0 (.agg #[.int .i64 0, .string ⟨#[]⟩, .int .i64 0, .slice none 0 0, .int .i64 0, .string ⟨#[]⟩, .int .i64 0, .slice none 0 0]) 8 112 Tryz.underlying24 hi hz0 hz1 hz2 rfl (by decide) vr rs.length (rowQv us) u3 ⟨W.heap.size, 0, none⟩ 1 1 y.cells rfl (new_cells W _ _) (qv_one y) (by unfold maxLen; omega) (by omega) (by rw [hsz]; omega)
  exact ⟨v', w', hr, hA.addR u1 u2 hyA h2 h3 h5 (fun k hk => by have := hZ k hk; omega), own_slice h2, hal.trans h3, hge⟩
end
end Go.Proofs.YtnbjpgdnfklanaaGreatDoor
