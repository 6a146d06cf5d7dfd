/-
  The region 'x.f = append(x.f, call(v))', v a variable in a box: its operations in whatever order; any program, any types, any slots. No function of the program. (printed by tools/genappl.py)
  The reader of the program's grammar in memory: what is left of the tokens, and how many brackets are open; what calls turn of it. No function of the program.
  The reader of the program's grammar: next, fail, take.
  What the byte functions of package chars answer: the class, or whether the byte may be part of a word, for every byte and in every world; nothing is changed.
  Whether a text is a word, and one of those that begin items, by package chars. Each call makes new memory alone.
-/
import Derived.Test.YtldgbdmiebipnaaDoorQ11
import Derived.Test.YtldgbdmiebipnaaDoorQ03
import Derived.Test.YtldgbdmiebipnaaDoorQ04
import Derived.Deep.RegionHeld3
import Derived.BigQuiet
import Derived.Test.YtldgbdmiebipnaaDoorQ01
import Derived.WalkKit
import Derived.WalkSpells
import Derived.WalkLawsBesides
import Derived.Test.YtldgbdmiebipnaaDoorShelf
import Derived.Deep.QuietTactic
namespace Go.Proofs.YtldgbdmiebipnaaDoor
open Go.RowKit

set_option maxRecDepth 100000 in
set_option maxHeartbeats 4000000 in
theorem app_regionL {P : Program} (hm : P.follows .mixedOrders = true) {Q : Exit → Act → World → Prop} {id : Nat} {T R E tr : TypeId} {f : FuncId} {fld s0 s1 s2 s3 s4 s5 s6 x r : Nat} {p0 p1 p2 p3 p4 p5 p6 p7 : String} {a : Act} {w : World}
    (bx : Nat) (p q : Addr) (rv v0 : Value) (N : Nat) (hN : a.tmps.size = N) (hlt : s0 < N ∧ s1 < N ∧ s2 < N ∧ s3 < N ∧ s4 < N ∧ s5 < N ∧ s6 < N) (hnd : [x, r, s0, s1, s2, s3, s4, s5, s6].Nodup)
    (hx : a.eval (.tmp x) = .pointer (some ⟨bx, 0, none⟩)) (hr : a.eval (.tmp r) = .pointer (some q))
    (HLD : (Instr.loadAt tr (.pointer (some q))).run P w.drew = .ok rv w.drew)
    (HF : ∀ w, (Instr.fieldAt T (.pointer (some ⟨bx, 0, none⟩)) fld).run P w = .ok (.pointer (some p)) w)
    (HL : ∀ w v, w.cell? p = some v → (Instr.loadAt R (.pointer (some p))).run P w = .ok v w)
    (HC : ∀ w, (callFunc f #[rv]).run P w = .ok (.enter f #[rv]) w)
    (h0 : w.drew.cell? p = some v0)
    (HQ : ∀ c (i : Nat) v (A : Act) W, Q (.panic c) A W → Q (.panic c) (A.put (some i) v) W)
    (CALL : Calls P f #[rv] w.drew fun e w1 => match e with
      | .returned y => AppAfter P Q R p v0 (fun sl v1 => ((((((((a.put (some s0) (.pointer (some p))).put (some s1) v0).put (some s2) rv).put (some s3) y).put (some s4) sl).put (some s5) v1).put (some s6) (.pointer (some p))))) y w1
      | .panicked chain => Q (.panic chain) a w1
      | .outgrown => LetsOut Q) :
    Code.wp P (Code.region id #[{ dst := some s0, op := .fieldAddr T (.tmp x) fld, type := 0, pos := p0, after := #[], guard := none },
    { dst := some s1, op := .load R (.tmp s0), type := R, pos := p1, after := #[{ on := 0, ground := Ground.data }], guard := none },
    { dst := some s2, op := .load tr (.tmp r), type := tr, pos := p2, after := #[], guard := none },
    { dst := some s3, op := .call { callee := .value (.func f), args := #[.tmp s2], argTypes := #[tr] }, type := E, pos := p3, after := #[{ on := 2, ground := Ground.data }], guard := none },
    { dst := some s4, op := .buildSlice R 1 #[(0, .tmp s3)], type := R, pos := p4, after := #[{ on := 3, ground := Ground.data }], guard := none },
    { dst := some s5, op := .call { callee := .builtin .append, args := #[.tmp s1, .tmp s4], argTypes := #[R, R] }, type := R, pos := p5, after := #[{ on := 1, ground := Ground.data }, { on := 4, ground := Ground.data }, { on := 3, ground := Ground.chain }], guard := none },
    { dst := some s6, op := .fieldAddr T (.tmp x) fld, type := 0, pos := p6, after := #[{ on := 0, ground := Ground.phase }, { on := 1, ground := Ground.phase }, { on := 2, ground := Ground.phase }, { on := 3, ground := Ground.phase }, { on := 4, ground := Ground.phase }, { on := 5, ground := Ground.phase }], guard := none },
    { dst := none, op := .store R (.tmp s6) (.tmp s5), type := 0, pos := p7, after := #[{ on := 6, ground := Ground.data }, { on := 5, ground := Ground.data }, { on := 5, ground := Ground.chain }, { on := 0, ground := Ground.phase }, { on := 1, ground := Ground.phase }, { on := 2, ground := Ground.phase }, { on := 3, ground := Ground.phase }, { on := 4, ground := Ground.phase }, { on := 5, ground := Ground.phase }], guard := none }] true) Q a w := by
  obtain ⟨l0, l1, l2, l3, l4, l5, l6⟩ := hlt
  simp only [List.nodup_cons, List.mem_cons, List.not_mem_nil, or_false, not_or, List.nodup_nil, and_true, not_false_eq_true] at hnd
  obtain ⟨⟨_, _, _, _, _, _, _, _⟩, ⟨_, _, _, _, _, _, _⟩, ⟨_, _, _, _, _, _⟩, ⟨_, _, _, _, _⟩, ⟨_, _, _, _⟩, ⟨_, _, _⟩, ⟨_, _⟩, _⟩ := hnd
  obtain ⟨ptr, hptr⟩ : ∃ q : Value, q = .pointer (some p) := ⟨_, rfl⟩
  rw [← hptr] at HF HL CALL
  obtain ⟨OPS, hOPS⟩ : ∃ O : Array Oper, O = #[{ dst := some s0, op := .fieldAddr T (.tmp x) fld, type := 0, pos := p0, after := #[], guard := none },
    { dst := some s1, op := .load R (.tmp s0), type := R, pos := p1, after := #[{ on := 0, ground := Ground.data }], guard := none },
    { dst := some s2, op := .load tr (.tmp r), type := tr, pos := p2, after := #[], guard := none },
    { dst := some s3, op := .call { callee := .value (.func f), args := #[.tmp s2], argTypes := #[tr] }, type := E, pos := p3, after := #[{ on := 2, ground := Ground.data }], guard := none },
    { dst := some s4, op := .buildSlice R 1 #[(0, .tmp s3)], type := R, pos := p4, after := #[{ on := 3, ground := Ground.data }], guard := none },
    { dst := some s5, op := .call { callee := .builtin .append, args := #[.tmp s1, .tmp s4], argTypes := #[R, R] }, type := R, pos := p5, after := #[{ on := 1, ground := Ground.data }, { on := 4, ground := Ground.data }, { on := 3, ground := Ground.chain }], guard := none },
    { dst := some s6, op := .fieldAddr T (.tmp x) fld, type := 0, pos := p6, after := #[{ on := 0, ground := Ground.phase }, { on := 1, ground := Ground.phase }, { on := 2, ground := Ground.phase }, { on := 3, ground := Ground.phase }, { on := 4, ground := Ground.phase }, { on := 5, ground := Ground.phase }], guard := none },
    { dst := none, op := .store R (.tmp s6) (.tmp s5), type := 0, pos := p7, after := #[{ on := 6, ground := Ground.data }, { on := 5, ground := Ground.data }, { on := 5, ground := Ground.chain }, { on := 0, ground := Ground.phase }, { on := 1, ground := Ground.phase }, { on := 2, ground := Ground.phase }, { on := 3, ground := Ground.phase }, { on := 4, ground := Ground.phase }, { on := 5, ground := Ground.phase }], guard := none }] := ⟨_, rfl⟩
  rw [← hOPS]
  have st7 : ∀ (A : Act) (w2 : World) (v1 : Value) (w3 : World), A.eval (.tmp s6) = ptr → A.eval (.tmp s5) = v1 → (Instr.storeAt R ptr v1).run P w2 = .ok () w3 → Q .normal A w3 → wpAnyH P .any OPS Q (fun _ => True) 1 #[true, true, true, true, true, true, true, false] A w2 := by
    intro A w2 v1 w3 e6 e5 hs hq
    refine wpAnyH_ready (rs := [7]) (by rw [hOPS]; kernel_rfl) (by simp) ?_
    refine AllReadyH.cons (o := { dst := none, op := .store R (.tmp s6) (.tmp s5), type := 0, pos := p7, after := #[{ on := 6, ground := Ground.data }, { on := 5, ground := Ground.data }, { on := 5, ground := Ground.chain }, { on := 0, ground := Ground.phase }, { on := 1, ground := Ground.phase }, { on := 2, ground := Ground.phase }, { on := 3, ground := Ground.phase }, { on := 4, ground := Ground.phase }, { on := 5, ground := Ground.phase }], guard := none }) (by rw [hOPS]; rfl) (fun K hK => ?_) AllReadyH.nil
    refine step_none (w' := w3) rfl rfl (exec_store rfl e6 e5 hs) (hK.out _ _ trivial fun _ => ?_)
    exact wpAnyH_done (by rw [hOPS]; kernel_rfl) hq _
  have st23 : ∀ (y : Value) (sl : Value) (wB : World), wB.cell? p = some v0 → (∃ v1 w2, (Builtin.append_ #[R, R] R #[v0, sl]).run P wB = .ok v1 w2 ∧ ∃ w3, (Instr.storeAt R ptr v1).run P w2 = .ok () w3 ∧ Q .normal ((((((((a.put (some s0) ptr).put (some s1) v0).put (some s2) rv).put (some s3) y).put (some s4) sl).put (some s5) v1).put (some s6) ptr)) w3) → wpAnyH P .any OPS Q (fun _ => True) 3 #[true, true, true, true, true, false, false, false] (((((a.put (some s0) ptr).put (some s1) v0).put (some s2) rv).put (some s3) y).put (some s4) sl) wB := by
    intro y sl wB hc hA
    obtain ⟨v1, w2, ha, w3, hs, hq⟩ := hA
    refine wpAnyH_ready (rs := [5]) (by rw [hOPS]; kernel_rfl) (by simp) ?_
    refine (AllReadyH.cons (o := { dst := some s5, op := .call { callee := .builtin .append, args := #[.tmp s1, .tmp s4], argTypes := #[R, R] }, type := R, pos := p5, after := #[{ on := 1, ground := Ground.data }, { on := 4, ground := Ground.data }, { on := 3, ground := Ground.chain }], guard := none }) (by rw [hOPS]; rfl) (fun K hK => ?_) AllReadyH.nil)
    refine step_val (v := v1) (w' := w2) rfl ?_ (hK.out _ _ trivial fun _ => ?_)
    · exact exec_append rfl ((eval_put_ne (by first | assumption | exact fun e => absurd e.symm (by assumption))).trans ((eval_put_ne (by first | assumption | exact fun e => absurd e.symm (by assumption))).trans ((eval_put_ne (by first | assumption | exact fun e => absurd e.symm (by assumption))).trans (eval_put_eq (by simp only [size_put]; rw [hN]; assumption))))) (eval_put_eq (by simp only [size_put]; rw [hN]; assumption)) ha
    refine wpAnyH_ready (rs := [6]) (by rw [hOPS]; kernel_rfl) (by simp) ?_
    refine (AllReadyH.cons (o := { dst := some s6, op := .fieldAddr T (.tmp x) fld, type := 0, pos := p6, after := #[{ on := 0, ground := Ground.phase }, { on := 1, ground := Ground.phase }, { on := 2, ground := Ground.phase }, { on := 3, ground := Ground.phase }, { on := 4, ground := Ground.phase }, { on := 5, ground := Ground.phase }], guard := none }) (by rw [hOPS]; rfl) (fun K hK => ?_) AllReadyH.nil)
    refine step_val (v := ptr) (w' := w2) rfl ?_ (hK.out _ _ trivial fun _ => ?_)
    · exact exec_field rfl ((eval_put_ne (by first | assumption | exact fun e => absurd e.symm (by assumption))).trans ((eval_put_ne (by first | assumption | exact fun e => absurd e.symm (by assumption))).trans ((eval_put_ne (by first | assumption | exact fun e => absurd e.symm (by assumption))).trans ((eval_put_ne (by first | assumption | exact fun e => absurd e.symm (by assumption))).trans ((eval_put_ne (by first | assumption | exact fun e => absurd e.symm (by assumption))).trans ((eval_put_ne (by first | assumption | exact fun e => absurd e.symm (by assumption))).trans (hx))))))) (HF _)
    exact st7 _ w2 v1 w3 (eval_put_eq (by simp only [size_put]; rw [hN]; assumption)) ((eval_put_ne (by first | assumption | exact fun e => absurd e.symm (by assumption))).trans (eval_put_eq (by simp only [size_put]; rw [hN]; assumption))) hs hq
  have st22 : ∀ (y : Value) (w1 : World), AppAfter P Q R p v0 (fun sl v1 => ((((((((a.put (some s0) ptr).put (some s1) v0).put (some s2) rv).put (some s3) y).put (some s4) sl).put (some s5) v1).put (some s6) ptr))) y w1 → wpAnyH P .any OPS Q (fun _ => True) 4 #[true, true, true, true, false, false, false, false] ((((a.put (some s0) ptr).put (some s1) v0).put (some s2) rv).put (some s3) y) w1 := by
    intro y w1 hA
    refine wpAnyH_ready (rs := [4]) (by rw [hOPS]; kernel_rfl) (by simp) ?_
    refine (AllReadyH.cons (o := { dst := some s4, op := .buildSlice R 1 #[(0, .tmp s3)], type := R, pos := p4, after := #[{ on := 3, ground := Ground.data }], guard := none }) (by rw [hOPS]; rfl) (fun K hK => ?_) AllReadyH.nil)
    · obtain ⟨hc1, sl, wB, hb, hcB, hR⟩ := hA
      refine step_val (v := sl) (w' := wB) rfl ?_ (hK.out _ _ trivial fun _ => st23 y sl wB hcB (by rw [hptr]; rw [hptr] at hR; exact hR))
      exact exec_slice1 rfl (eval_put_eq (by simp only [size_put]; rw [hN]; assumption)) hb
  have st21 : wpAnyH P .any OPS Q (fun _ => True) 5 #[true, true, true, false, false, false, false, false] (((a.put (some s0) ptr).put (some s1) v0).put (some s2) rv) w.drew := by
    refine wpAnyH_ready (rs := [3]) (by rw [hOPS]; kernel_rfl) (by simp) ?_
    refine (AllReadyH.cons (o := { dst := some s3, op := .call { callee := .value (.func f), args := #[.tmp s2], argTypes := #[tr] }, type := E, pos := p3, after := #[{ on := 2, ground := Ground.data }], guard := none }) (by rw [hOPS]; rfl) (fun K hK => ?_) AllReadyH.nil)
    · refine step_fn (f := f) (args := #[rv]) rfl (exec_fn1 (HC _) rfl (eval_put_eq (by simp only [size_put]; rw [hN]; assumption))) (CALL.mono ?_)
      intro e w1 he
      cases e with
      | returned y => exact hK.out _ _ trivial fun _ => st22 y w1 he
      | panicked chain => exact HQ _ _ _ _ _ (HQ _ _ _ _ _ (HQ _ _ _ _ _ (he)))
      | outgrown => exact he
  have st20 : wpAnyH P .any OPS Q (fun _ => True) 6 #[true, true, false, false, false, false, false, false] ((a.put (some s0) ptr).put (some s1) v0) w.drew := by
    refine wpAnyH_ready (rs := [2]) (by rw [hOPS]; kernel_rfl) (by simp) ?_
    refine (AllReadyH.cons (o := { dst := some s2, op := .load tr (.tmp r), type := tr, pos := p2, after := #[], guard := none }) (by rw [hOPS]; rfl) (fun K hK => ?_) AllReadyH.nil)
    · refine step_val (v := rv) (w' := w.drew) rfl ?_ (hK.out _ _ trivial fun _ => ?_)
      · exact exec_load rfl ((eval_put_ne (by first | assumption | exact fun e => absurd e.symm (by assumption))).trans ((eval_put_ne (by first | assumption | exact fun e => absurd e.symm (by assumption))).trans (hr))) HLD
      exact st21
  have st13 : ∀ (y : Value) (sl : Value) (wB : World), wB.cell? p = some v0 → (∃ v1 w2, (Builtin.append_ #[R, R] R #[v0, sl]).run P wB = .ok v1 w2 ∧ ∃ w3, (Instr.storeAt R ptr v1).run P w2 = .ok () w3 ∧ Q .normal ((((((((a.put (some s0) ptr).put (some s1) v0).put (some s2) rv).put (some s3) y).put (some s4) sl).put (some s5) v1).put (some s6) ptr)) w3) → wpAnyH P .any OPS Q (fun _ => True) 4 #[true, false, true, true, true, false, false, false] ((((a.put (some s0) ptr).put (some s2) rv).put (some s3) y).put (some s4) sl) wB := by
    intro y sl wB hc hA
    refine wpAnyH_ready (rs := [1]) (by rw [hOPS]; kernel_rfl) (by simp) ?_
    refine (AllReadyH.cons (o := { dst := some s1, op := .load R (.tmp s0), type := R, pos := p1, after := #[{ on := 0, ground := Ground.data }], guard := none }) (by rw [hOPS]; rfl) (fun K hK => ?_) AllReadyH.nil)
    · refine step_val (v := v0) (w' := wB) rfl ?_ (hK.out _ _ trivial fun _ => ?_)
      · exact exec_load rfl ((eval_put_ne (by first | assumption | exact fun e => absurd e.symm (by assumption))).trans ((eval_put_ne (by first | assumption | exact fun e => absurd e.symm (by assumption))).trans ((eval_put_ne (by first | assumption | exact fun e => absurd e.symm (by assumption))).trans (eval_put_eq (by rw [hN]; assumption))))) (HL _ _ hc)
      show wpAnyH P .any OPS Q _ _ _ (((((a.put (some s0) ptr).put (some s2) rv).put (some s3) y).put (some s4) sl).put (some s1) _) _
      rw [put_comm' (s := s4) (t := s1) _ _ (by first | assumption | exact fun e => absurd e.symm (by assumption)), put_comm' (s := s3) (t := s1) _ _ (by first | assumption | exact fun e => absurd e.symm (by assumption)), put_comm' (s := s2) (t := s1) _ _ (by first | assumption | exact fun e => absurd e.symm (by assumption))]
      exact st23 y sl wB hc hA
  have st12 : ∀ (y : Value) (w1 : World), AppAfter P Q R p v0 (fun sl v1 => ((((((((a.put (some s0) ptr).put (some s1) v0).put (some s2) rv).put (some s3) y).put (some s4) sl).put (some s5) v1).put (some s6) ptr))) y w1 → wpAnyH P .any OPS Q (fun _ => True) 5 #[true, false, true, true, false, false, false, false] (((a.put (some s0) ptr).put (some s2) rv).put (some s3) y) w1 := by
    intro y w1 hA
    refine wpAnyH_ready (rs := [1, 4]) (by rw [hOPS]; kernel_rfl) (by simp) ?_
    refine (AllReadyH.cons (o := { dst := some s1, op := .load R (.tmp s0), type := R, pos := p1, after := #[{ on := 0, ground := Ground.data }], guard := none }) (by rw [hOPS]; rfl) (fun K hK => ?_) (AllReadyH.cons (o := { dst := some s4, op := .buildSlice R 1 #[(0, .tmp s3)], type := R, pos := p4, after := #[{ on := 3, ground := Ground.data }], guard := none }) (by rw [hOPS]; rfl) (fun K hK => ?_) AllReadyH.nil))
    · refine step_val (v := v0) (w' := w1) rfl ?_ (hK.out _ _ trivial fun _ => ?_)
      · exact exec_load rfl ((eval_put_ne (by first | assumption | exact fun e => absurd e.symm (by assumption))).trans ((eval_put_ne (by first | assumption | exact fun e => absurd e.symm (by assumption))).trans (eval_put_eq (by rw [hN]; assumption)))) (HL _ _ hA.1)
      show wpAnyH P .any OPS Q _ _ _ ((((a.put (some s0) ptr).put (some s2) rv).put (some s3) y).put (some s1) _) _
      rw [put_comm' (s := s3) (t := s1) _ _ (by first | assumption | exact fun e => absurd e.symm (by assumption)), put_comm' (s := s2) (t := s1) _ _ (by first | assumption | exact fun e => absurd e.symm (by assumption))]
      exact st22 y w1 hA
    · obtain ⟨hc1, sl, wB, hb, hcB, hR⟩ := hA
      refine step_val (v := sl) (w' := wB) rfl ?_ (hK.out _ _ trivial fun _ => st13 y sl wB hcB (by rw [hptr]; rw [hptr] at hR; exact hR))
      exact exec_slice1 rfl (eval_put_eq (by simp only [size_put]; rw [hN]; assumption)) hb
  have st11 : wpAnyH P .any OPS Q (fun _ => True) 6 #[true, false, true, false, false, false, false, false] ((a.put (some s0) ptr).put (some s2) rv) w.drew := by
    refine wpAnyH_ready (rs := [1, 3]) (by rw [hOPS]; kernel_rfl) (by simp) ?_
    refine (AllReadyH.cons (o := { dst := some s1, op := .load R (.tmp s0), type := R, pos := p1, after := #[{ on := 0, ground := Ground.data }], guard := none }) (by rw [hOPS]; rfl) (fun K hK => ?_) (AllReadyH.cons (o := { dst := some s3, op := .call { callee := .value (.func f), args := #[.tmp s2], argTypes := #[tr] }, type := E, pos := p3, after := #[{ on := 2, ground := Ground.data }], guard := none }) (by rw [hOPS]; rfl) (fun K hK => ?_) AllReadyH.nil))
    · refine step_val (v := v0) (w' := w.drew) rfl ?_ (hK.out _ _ trivial fun _ => ?_)
      · exact exec_load rfl ((eval_put_ne (by first | assumption | exact fun e => absurd e.symm (by assumption))).trans (eval_put_eq (by rw [hN]; assumption))) (HL _ _ h0)
      show wpAnyH P .any OPS Q _ _ _ (((a.put (some s0) ptr).put (some s2) rv).put (some s1) _) _
      rw [put_comm' (s := s2) (t := s1) _ _ (by first | assumption | exact fun e => absurd e.symm (by assumption))]
      exact st21
    · refine step_fn (f := f) (args := #[rv]) rfl (exec_fn1 (HC _) rfl (eval_put_eq (by simp only [size_put]; rw [hN]; assumption))) (CALL.mono ?_)
      intro e w1 he
      cases e with
      | returned y => exact hK.out _ _ trivial fun _ => st12 y w1 he
      | panicked chain => exact HQ _ _ _ _ _ (HQ _ _ _ _ _ (he))
      | outgrown => exact he
  have st10 : wpAnyH P .any OPS Q (fun _ => True) 7 #[true, false, false, false, false, false, false, false] (a.put (some s0) ptr) w.drew := by
    refine wpAnyH_ready (rs := [1, 2]) (by rw [hOPS]; kernel_rfl) (by simp) ?_
    refine (AllReadyH.cons (o := { dst := some s1, op := .load R (.tmp s0), type := R, pos := p1, after := #[{ on := 0, ground := Ground.data }], guard := none }) (by rw [hOPS]; rfl) (fun K hK => ?_) (AllReadyH.cons (o := { dst := some s2, op := .load tr (.tmp r), type := tr, pos := p2, after := #[], guard := none }) (by rw [hOPS]; rfl) (fun K hK => ?_) AllReadyH.nil))
    · refine step_val (v := v0) (w' := w.drew) rfl ?_ (hK.out _ _ trivial fun _ => ?_)
      · exact exec_load rfl (eval_put_eq (by rw [hN]; assumption)) (HL _ _ h0)
      exact st20
    · refine step_val (v := rv) (w' := w.drew) rfl ?_ (hK.out _ _ trivial fun _ => ?_)
      · exact exec_load rfl ((eval_put_ne (by first | assumption | exact fun e => absurd e.symm (by assumption))).trans (hr)) HLD
      exact st11
  have st03 : ∀ (y : Value) (sl : Value) (wB : World), wB.cell? p = some v0 → (∃ v1 w2, (Builtin.append_ #[R, R] R #[v0, sl]).run P wB = .ok v1 w2 ∧ ∃ w3, (Instr.storeAt R ptr v1).run P w2 = .ok () w3 ∧ Q .normal ((((((((a.put (some s0) ptr).put (some s1) v0).put (some s2) rv).put (some s3) y).put (some s4) sl).put (some s5) v1).put (some s6) ptr)) w3) → wpAnyH P .any OPS Q (fun _ => True) 5 #[false, false, true, true, true, false, false, false] (((a.put (some s2) rv).put (some s3) y).put (some s4) sl) wB := by
    intro y sl wB hc hA
    refine wpAnyH_ready (rs := [0]) (by rw [hOPS]; kernel_rfl) (by simp) ?_
    refine (AllReadyH.cons (o := { dst := some s0, op := .fieldAddr T (.tmp x) fld, type := 0, pos := p0, after := #[], guard := none }) (by rw [hOPS]; rfl) (fun K hK => ?_) AllReadyH.nil)
    · refine step_val (v := ptr) (w' := wB) rfl ?_ (hK.out _ _ trivial fun _ => ?_)
      · exact exec_field rfl ((eval_put_ne (by first | assumption | exact fun e => absurd e.symm (by assumption))).trans ((eval_put_ne (by first | assumption | exact fun e => absurd e.symm (by assumption))).trans ((eval_put_ne (by first | assumption | exact fun e => absurd e.symm (by assumption))).trans (hx)))) (HF _)
      show wpAnyH P .any OPS Q _ _ _ ((((a.put (some s2) rv).put (some s3) y).put (some s4) sl).put (some s0) _) _
      rw [put_comm' (s := s4) (t := s0) _ _ (by first | assumption | exact fun e => absurd e.symm (by assumption)), put_comm' (s := s3) (t := s0) _ _ (by first | assumption | exact fun e => absurd e.symm (by assumption)), put_comm' (s := s2) (t := s0) _ _ (by first | assumption | exact fun e => absurd e.symm (by assumption))]
      exact st13 y sl wB hc hA
  have st02 : ∀ (y : Value) (w1 : World), AppAfter P Q R p v0 (fun sl v1 => ((((((((a.put (some s0) ptr).put (some s1) v0).put (some s2) rv).put (some s3) y).put (some s4) sl).put (some s5) v1).put (some s6) ptr))) y w1 → wpAnyH P .any OPS Q (fun _ => True) 6 #[false, false, true, true, false, false, false, false] ((a.put (some s2) rv).put (some s3) y) w1 := by
    intro y w1 hA
    refine wpAnyH_ready (rs := [0, 4]) (by rw [hOPS]; kernel_rfl) (by simp) ?_
    refine (AllReadyH.cons (o := { dst := some s0, op := .fieldAddr T (.tmp x) fld, type := 0, pos := p0, after := #[], guard := none }) (by rw [hOPS]; rfl) (fun K hK => ?_) (AllReadyH.cons (o := { dst := some s4, op := .buildSlice R 1 #[(0, .tmp s3)], type := R, pos := p4, after := #[{ on := 3, ground := Ground.data }], guard := none }) (by rw [hOPS]; rfl) (fun K hK => ?_) AllReadyH.nil))
    · refine step_val (v := ptr) (w' := w1) rfl ?_ (hK.out _ _ trivial fun _ => ?_)
      · exact exec_field rfl ((eval_put_ne (by first | assumption | exact fun e => absurd e.symm (by assumption))).trans ((eval_put_ne (by first | assumption | exact fun e => absurd e.symm (by assumption))).trans (hx))) (HF _)
      show wpAnyH P .any OPS Q _ _ _ (((a.put (some s2) rv).put (some s3) y).put (some s0) _) _
      rw [put_comm' (s := s3) (t := s0) _ _ (by first | assumption | exact fun e => absurd e.symm (by assumption)), put_comm' (s := s2) (t := s0) _ _ (by first | assumption | exact fun e => absurd e.symm (by assumption))]
      exact st12 y w1 hA
    · obtain ⟨hc1, sl, wB, hb, hcB, hR⟩ := hA
      refine step_val (v := sl) (w' := wB) rfl ?_ (hK.out _ _ trivial fun _ => st03 y sl wB hcB (by rw [hptr]; rw [hptr] at hR; exact hR))
      exact exec_slice1 rfl (eval_put_eq (by simp only [size_put]; rw [hN]; assumption)) hb
  have st01 : wpAnyH P .any OPS Q (fun _ => True) 7 #[false, false, true, false, false, false, false, false] (a.put (some s2) rv) w.drew := by
    refine wpAnyH_ready (rs := [0, 3]) (by rw [hOPS]; kernel_rfl) (by simp) ?_
    refine (AllReadyH.cons (o := { dst := some s0, op := .fieldAddr T (.tmp x) fld, type := 0, pos := p0, after := #[], guard := none }) (by rw [hOPS]; rfl) (fun K hK => ?_) (AllReadyH.cons (o := { dst := some s3, op := .call { callee := .value (.func f), args := #[.tmp s2], argTypes := #[tr] }, type := E, pos := p3, after := #[{ on := 2, ground := Ground.data }], guard := none }) (by rw [hOPS]; rfl) (fun K hK => ?_) AllReadyH.nil))
    · refine step_val (v := ptr) (w' := w.drew) rfl ?_ (hK.out _ _ trivial fun _ => ?_)
      · exact exec_field rfl ((eval_put_ne (by first | assumption | exact fun e => absurd e.symm (by assumption))).trans (hx)) (HF _)
      show wpAnyH P .any OPS Q _ _ _ ((a.put (some s2) rv).put (some s0) _) _
      rw [put_comm' (s := s2) (t := s0) _ _ (by first | assumption | exact fun e => absurd e.symm (by assumption))]
      exact st11
    · refine step_fn (f := f) (args := #[rv]) rfl (exec_fn1 (HC _) rfl (eval_put_eq (by rw [hN]; assumption))) (CALL.mono ?_)
      intro e w1 he
      cases e with
      | returned y => exact hK.out _ _ trivial fun _ => st02 y w1 he
      | panicked chain => exact HQ _ _ _ _ _ (he)
      | outgrown => exact he
  have st00 : wpAnyH P .any OPS Q (fun _ => True) 8 #[false, false, false, false, false, false, false, false] a w.drew := by
    refine wpAnyH_ready (rs := [0, 2]) (by rw [hOPS]; kernel_rfl) (by simp) ?_
    refine (AllReadyH.cons (o := { dst := some s0, op := .fieldAddr T (.tmp x) fld, type := 0, pos := p0, after := #[], guard := none }) (by rw [hOPS]; rfl) (fun K hK => ?_) (AllReadyH.cons (o := { dst := some s2, op := .load tr (.tmp r), type := tr, pos := p2, after := #[], guard := none }) (by rw [hOPS]; rfl) (fun K hK => ?_) AllReadyH.nil))
    · refine step_val (v := ptr) (w' := w.drew) rfl ?_ (hK.out _ _ trivial fun _ => ?_)
      · exact exec_field rfl (hx) (HF _)
      exact st10
    · refine step_val (v := rv) (w' := w.drew) rfl ?_ (hK.out _ _ trivial fun _ => ?_)
      · exact exec_load rfl (hr) HLD
      exact st01
  refine wp_region_held_drew (S := fun _ => True) hm trivial (fun _ => ?_)
  have := st00
  rw [hOPS] at this ⊢
  exact this
end Go.Proofs.YtldgbdmiebipnaaDoor

namespace Go.Proofs.YtldgbdmiebipnaaDoor
open Go.RowKit

/-- The reader lies in block g: tokens from i on are left, op brackets are open; the tokens lie in block b. -/
structure Rdr (W : World) (g b o c : Nat) (L : List Tok) (i op : Nat) : Prop where
  box : W.heap[g]? = some (.cells #[.slice (some ⟨b, o + i * 4, none⟩) (L.length - i) (c - i), .int .i64 op] 89 (0, 0))
  cap : L.length ≤ c
  lt : b < g
  toks : ∀ (j : Nat) (h : j < L.length), TokAt W b (o + j * 4) L[j]
  here : i < L.length
theorem heap_lt {W : World} {g : Nat} {x : Obj} (h : W.heap[g]? = some x) : g < W.heap.size := by
  rcases Nat.lt_or_ge g W.heap.size with q | q
  · exact q
  · rw [Array.getElem?_eq_none q] at h; cases h
section
variable {W W' : World} {g b o c : Nat} {L : List Tok} {i op : Nat}
theorem Rdr.glt (h : Rdr W g b o c L i op) : g < W.heap.size := heap_lt h.box
theorem Rdr.c0 (h : Rdr W g b o c L i op) : W.cell? ⟨g, 0, none⟩ = some (.slice (some ⟨b, o + i * 4, none⟩) (L.length - i) (c - i)) := cell_of_row W g 0 _ _ (0, 0) h.box
theorem Rdr.c1 (h : Rdr W g b o c L i op) : W.cell? ⟨g, 1, none⟩ = some (.int .i64 op) := cell_of_row W g 1 _ _ (0, 0) h.box
theorem Rdr.f0 (h : Rdr W g b o c L i op) : W.frozen? ⟨g, 0, none⟩ = false := by simp [World.frozen?, h.box]
theorem Rdr.f1 (h : Rdr W g b o c L i op) : W.frozen? ⟨g, 1, none⟩ = false := by simp [World.frozen?, h.box]
theorem TokAt.stay {b o : Nat} {t : Tok} (h : TokAt W b o t) (hk : W'.heap[b]? = W.heap[b]?) : TokAt W' b o t := by
  obtain ⟨h0, h1, h2, h3⟩ := h
  exact ⟨(World.cell?_of_block (a := ⟨b, _, none⟩) hk).trans h0, (World.cell?_of_block (a := ⟨b, _, none⟩) hk).trans h1, (World.cell?_of_block (a := ⟨b, _, none⟩) hk).trans h2, (World.cell?_of_block (a := ⟨b, _, none⟩) hk).trans h3⟩
/-- Where all blocks stay. -/
theorem Rdr.keep (h : Rdr W g b o c L i op) (hk : ∀ k, k < W.heap.size → W'.heap[k]? = W.heap[k]?) : Rdr W' g b o c L i op :=
  ⟨(hk g h.glt).trans h.box, h.cap, h.lt, fun j hj => (h.toks j hj).stay (hk b (Nat.lt_trans h.lt h.glt)), h.here⟩
theorem Rdr.below (h : Rdr W g b o c L i op) (hb : Below W.heap.size W W') : Rdr W' g b o c L i op := h.keep fun k hk => hb.block k hk
/-- Behind a store of what is left. -/
theorem Rdr.left (h : Rdr W g b o c L i op) {j : Nat} (hj : j < L.length) {v : Value} (hv : v = .slice (some ⟨b, o + j * 4, none⟩) (L.length - j) (c - j)) : Rdr (W.setCell ⟨g, 0, none⟩ v) g b o c L j op := by
  subst hv
  refine ⟨?_, h.cap, h.lt, fun q hq => (h.toks q hq).stay (Below.heap_setCell _ _ _ _ (Nat.ne_of_lt h.lt)), hj⟩
  simp [World.setCell, Array.getElem?_modify, h.box]
/-- Behind a store of how many brackets are open. -/
theorem Rdr.opened (h : Rdr W g b o c L i op) {q : Nat} {v : Value} (hv : v = .int .i64 q) : Rdr (W.setCell ⟨g, 1, none⟩ v) g b o c L i q := by
  subst hv
  refine ⟨?_, h.cap, h.lt, fun q hq => (h.toks q hq).stay (Below.heap_setCell _ _ _ _ (Nat.ne_of_lt h.lt)), h.here⟩
  simp [World.setCell, Array.getElem?_modify, h.box]
end

/-! What a call turns: the reader's block alone. -/
theorem only_refl (W : World) (G : Option Nat) : W.grownBy W G := ⟨rfl, rfl, rfl, Nat.le_refl _, fun _ _ _ => rfl⟩
theorem only_trans {a b c : World} {G : Option Nat} (h : a.grownBy b G) (k : b.grownBy c G) : a.grownBy c G :=
  ⟨k.os.trans h.os, k.tape.trans h.tape, k.output.trans h.output, Nat.le_trans h.size k.size, fun i hi hn => (k.block i (Nat.lt_of_lt_of_le hi h.size) hn).trans (h.block i hi hn)⟩
theorem only_below {a b : World} (h : Below a.heap.size a b) (G : Option Nat) : a.grownBy b G := ⟨h.os, h.tape, h.output, h.size, fun k hk _ => h.block k hk⟩
theorem only_next {a b c : World} {G : Option Nat} (h : a.grownBy b G) (k : Below b.heap.size b c) : a.grownBy c G := only_trans h (only_below k G)
theorem only_alloc {a b : World} {G : Option Nat} (h : a.grownBy b G) (x : Obj) : a.grownBy (b.alloc x) G := only_next h ((Below.refl _ _).alloc (Nat.le_refl _) x)
theorem only_set {a b : World} {g : Nat} (h : a.grownBy b (some g)) (j : Nat) (v : Value) : a.grownBy (b.setCell ⟨g, j, none⟩ v) (some g) :=
  ⟨h.os, h.tape, h.output, by simpa using h.size, fun k hk hn => (Below.heap_setCell _ _ _ _ (fun e => hn (by rw [e]))).trans (h.block k hk hn)⟩
/-- A store into memory that was not there. -/
theorem only_put {a b : World} {G : Option Nat} (h : a.grownBy b G) {p : Addr} (hp : a.heap.size ≤ p.block) (v : Value) : a.grownBy (b.setCell p v) G :=
  ⟨h.os, h.tape, h.output, by simpa using h.size, fun k hk hn => (Below.heap_setCell _ _ _ _ (fun e => by subst e; omega)).trans (h.block k hk hn)⟩
theorem only_drewN {a b : World} {G : Option Nat} (h : a.grownBy b G) (r : Nat) : a.grownBy (b.drewN r) G := ⟨h.os, h.tape, h.output, h.size, h.block⟩
/-- Below the reader all stays. -/
theorem only_under {a b : World} {g B : Nat} (h : a.grownBy b (some g)) (hB : B ≤ g) (hs : B ≤ a.heap.size) : Below B a b :=
  ⟨h.os, h.tape, h.output, h.size, fun k hk => h.block k (by omega) (fun e => by injection e with e; omega)⟩
/-- What a call has made lives on. -/
theorem MadeR.only {u w w' W : World} {y : Rv} {g : Nat} (h : MadeR w w' y) (h1 : u.heap.size ≤ w.heap.size) (hb : w'.grownBy W (some g)) (hg : g < w.heap.size) : MadeR u W y := h.wide h1 hb.size fun k k1 k2 => hb.block k k2 (fun e => by injection e with e; omega)
theorem LiveR.only {W W' : World} {G : Option Nat} {base g : Nat} {y : Rv} (h : LiveR W G base y) (hb : W.grownBy W' (some g)) (hg : g < base) : LiveR W' G base y := by
  obtain ⟨lo, hi, h1, h2, h3, h4, h5⟩ := h
  refine ⟨lo, hi, h1, h2, Nat.le_trans h3 hb.size, h4, fun W2 g1 g2 => h5 W2 g1 fun k k1 k2 => ?_⟩
  rw [g2 k k1 k2]
  exact hb.block k (by omega) (fun e => by injection e with e; omega)
theorem RowR.only {W W' : World} {e : TypeId} {base g : Nat} {v : Value} {ts : List Tr} (h : RowR W e base v ts) (hb : W.grownBy W' (some g)) (hg : g < base) : RowR W' e base v ts := by
  obtain ⟨vs, h1, h2, h3⟩ := h
  exact ⟨vs, h1, fun x hx => (h2 x hx).only hb hg, own_at h3 fun k e => hb.block k (own_row_lt h3 k e) (fun q => by injection q with q; have := own_row_ge h3 k e; omega)⟩

/-! Boxes of five behind what turns the reader alone. -/
theorem Box5.only {w w1 : World} {x g : Nat} {x0 x1 x2 x3 x4 : Value} (h : Box5 w x x0 x1 x2 x3 x4) (ho : w.grownBy w1 (some g)) (hn : x ≠ g) : Box5 w1 x x0 x1 x2 x3 x4 := by
  have hk : w1.heap[x]? = w.heap[x]? := ho.block x (lt_of_cellR h.c0) (fun e => hn (by injection e))
  exact ⟨(World.cell?_of_block (a := ⟨x, 0, none⟩) hk).trans h.c0, (World.cell?_of_block (a := ⟨x, 1, none⟩) hk).trans h.c1, (World.cell?_of_block (a := ⟨x, 2, none⟩) hk).trans h.c2, (World.cell?_of_block (a := ⟨x, 3, none⟩) hk).trans h.c3, (World.cell?_of_block (a := ⟨x, 4, none⟩) hk).trans h.c4,
    (World.frozen?_of_block (a := ⟨x, 0, none⟩) hk).trans h.f0, (World.frozen?_of_block (a := ⟨x, 1, none⟩) hk).trans h.f1, (World.frozen?_of_block (a := ⟨x, 2, none⟩) hk).trans h.f2, (World.frozen?_of_block (a := ⟨x, 3, none⟩) hk).trans h.f3, (World.frozen?_of_block (a := ⟨x, 4, none⟩) hk).trans h.f4⟩
/-- Five cells of a block written. -/
abbrev sets5 (w : World) (x : Nat) (y0 y1 y2 y3 y4 : Value) : World := ((((w.setCell ⟨x, 0, none⟩ y0).setCell ⟨x, 1, none⟩ y1).setCell ⟨x, 2, none⟩ y2).setCell ⟨x, 3, none⟩ y3).setCell ⟨x, 4, none⟩ y4
theorem only_sets5 {a b : World} {G : Option Nat} (h : a.grownBy b G) {x : Nat} (hx : a.heap.size ≤ x) (y0 y1 y2 y3 y4 : Value) : a.grownBy (sets5 b x y0 y1 y2 y3 y4) G :=
  only_put (only_put (only_put (only_put (only_put h (p := ⟨x, 0, none⟩) hx _) (p := ⟨x, 1, none⟩) hx _) (p := ⟨x, 2, none⟩) hx _) (p := ⟨x, 3, none⟩) hx _) (p := ⟨x, 4, none⟩) hx _
theorem Rdr.stay {W W' : World} {g b o c : Nat} {L : List Tok} {i op : Nat} (h : Rdr W g b o c L i op) (h1 : W'.heap[g]? = W.heap[g]?) (h2 : W'.heap[b]? = W.heap[b]?) : Rdr W' g b o c L i op :=
  ⟨h1.trans h.box, h.cap, h.lt, fun j hj => (h.toks j hj).stay h2, h.here⟩
theorem Rdr.sets5 {W : World} {g b o c : Nat} {L : List Tok} {i op : Nat} (h : Rdr W g b o c L i op) {x : Nat} (hx : g < x) (y0 y1 y2 y3 y4 : Value) : Rdr (sets5 W x y0 y1 y2 y3 y4) g b o c L i op :=
  h.stay (sets5_heap _ _ _ _ _ _ _ g (by omega)) (sets5_heap _ _ _ _ _ _ _ b (by have := h.lt; omega))

/-- The fault at a token. -/
def fltV (L : List Tok) (i : Nat) : Value := .iface 26 (.agg #[.int .i64 2, .int .i64 (tkD L i).place])
def diesAt (L : List Tok) (i : Nat) : Ending := .panicked [{ v := fltV L i, recovered := false }]
end Go.Proofs.YtldgbdmiebipnaaDoor

namespace Go.Proofs.YtldgbdmiebipnaaDoor
open Go.RowKit

section
variable {g b o c : Nat} {L : List Tok} {i op : Nat}
set_option maxRecDepth 100000 in
set_option maxHeartbeats 1000000 in
/-- Whether a text is next. -/
theorem next_any (s : ByteArray) (W : World) (h : Rdr W g b o c L i op) :
    Calls Tryd.prog 59 #[.pointer (some ⟨g, 0, none⟩), .string s] W fun e w' => e = .returned (.bool ((tkD L i).text.toList == s.toList)) ∧ W = w' := by
  have h0 := h.c0
  have hi := h.here
  obtain ⟨t0, t1, t2, t3⟩ := h.toks i hi
  rw [tkD_at hi]
  obtain ⟨x, hx⟩ : ∃ x, L[i].text = x := ⟨_, rfl⟩
  obtain ⟨n, hn⟩ : ∃ n, L.length - i = n := ⟨_, rfl⟩
  obtain ⟨k, hk⟩ : ∃ k, c - i = k := ⟨_, rfl⟩
  obtain ⟨a, ha⟩ : ∃ a, o + i * 4 = a := ⟨_, rfl⟩
  have hn0 : (0 : Int) < (n : Int) := by omega
  rw [hx] at t1 ⊢
  rw [hn, hk, ha] at h0
  rw [ha] at t0 t1 t2 t3
  clear h hx hn hk ha
  go_enter Tryd.func59, Tryd.ntmps59
  go_wp2_with fail
  go_ret
  exact ⟨rfl, rfl⟩
set_option maxRecDepth 100000 in
set_option maxHeartbeats 1000000 in
/-- The fault at the next token. -/
theorem fail_any (W : World) (h : Rdr W g b o c L i op) :
    Calls Tryd.prog 45 #[.pointer (some ⟨g, 0, none⟩)] W fun e w' => e = diesAt L i ∧ W = w' := by
  have h0 := h.c0
  have hi := h.here
  obtain ⟨t0, t1, t2, t3⟩ := h.toks i hi
  unfold diesAt fltV
  rw [tkD_at hi]
  obtain ⟨x, hx⟩ : ∃ x, L[i].place = x := ⟨_, rfl⟩
  obtain ⟨n, hn⟩ : ∃ n, L.length - i = n := ⟨_, rfl⟩
  obtain ⟨k, hk⟩ : ∃ k, c - i = k := ⟨_, rfl⟩
  obtain ⟨a, ha⟩ : ∃ a, o + i * 4 = a := ⟨_, rfl⟩
  have hn0 : (0 : Int) < (n : Int) := by omega
  rw [hx] at t3 ⊢
  rw [hn, hk, ha] at h0
  rw [ha] at t0 t1 t2 t3
  clear h hx hn hk ha
  go_enter Tryd.func45, Tryd.ntmps45
  go_wp2_with fail
  exact ⟨rfl, rfl, rfl⟩
set_option maxRecDepth 100000 in
set_option maxHeartbeats 1000000 in
/-- The next token as a tree, passed over. -/
theorem take_any (kd : Int) (W : World) (h : Rdr W g b o c L i op) (hi1 : i + 1 < L.length) (_hlen : L.length ≤ 100000) :
    Calls Tryd.prog 66 #[.pointer (some ⟨g, 0, none⟩), .int .i64 kd] W fun e w' => e = .returned (.agg #[.int .i64 kd, .string (tkD L i).text, .int .i64 (tkD L i).n, .int .i64 (tkD L i).place, .slice none 0 0]) ∧ Rdr w' g b o c L (i + 1) op ∧ W.grownBy w' (some g) := by
  have h0 := h.c0
  have hf := h.f0
  have hi := h.here
  have hg := h.glt
  have hcap := h.cap
  have hlt := h.lt
  obtain ⟨t0, t1, t2, t3⟩ := h.toks i hi
  rw [tkD_at hi]
  obtain ⟨t, ht⟩ : ∃ t, L[i] = t := ⟨_, rfl⟩
  rw [ht] at t0 t1 t2 t3 ⊢
  clear ht
  obtain ⟨tk, tx, tn, tp⟩ := t
  simp only at t0 t1 t2 t3 ⊢
  have hbw : b < W.heap.size := by omega
  have hbw1 : b < W.heap.size + 1 := by omega
  have hbw2 : b < W.heap.size + 1 + 1 := by omega
  have hg1 : g < W.heap.size + 1 := by omega
  have HW := Lib.hid h
  obtain ⟨n, hn⟩ : ∃ n, L.length - i = n + 1 + 1 := ⟨L.length - i - 2, by omega⟩
  obtain ⟨k, hk⟩ : ∃ k, c - i = k + 1 + 1 := ⟨c - i - 2, by omega⟩
  obtain ⟨a, ha⟩ : ∃ a, o + i * 4 = a := ⟨_, rfl⟩
  have hn0 : (0 : Int) < ((n + 1 + 1 : Nat) : Int) := by omega
  have hn1 : (1 : Int) < ((n + 1 + 1 : Nat) : Int) := by omega
  have hnk : n ≤ k := by omega
  rw [hn, hk, ha] at h0
  rw [ha] at t0 t1 t2 t3
  clear h
  go_enter Tryd.func66, Tryd.ntmps66
  go_wp2_with fail
  have hz : (W.setCell ⟨g, 0, none⟩ (.slice (some ⟨b, a + 4, none⟩) (n + 1) (k + 1))).heap.size = W.heap.size := by simp
  obtain ⟨V, hV⟩ : ∃ V, W.setCell ⟨g, 0, none⟩ (.slice (some ⟨b, a + 4, none⟩) (n + 1) (k + 1)) = V := ⟨_, rfl⟩
  rw [hV] at hz ⊢
  have hR : Rdr V g b o c L (i + 1) op := by
    rw [← hV]
    refine HW.out.left hi1 ?_
    rw [show o + (i + 1) * 4 = a + 4 from by omega, show L.length - (i + 1) = n + 1 from by omega, show c - (i + 1) = k + 1 from by omega]
  have hO : W.grownBy V (some g) := by rw [← hV]; exact only_set (only_refl _ _) _ _
  have bx := (box5_new V (.int .i64 kd) (.string tx) (.int .i64 tn) (.int .i64 tp) (.slice none 0 0) 36).below ((Below.refl _ _).alloc (Nat.le_refl _) (.cells #[.int .i64 tk, .string tx, .int .i64 tn, .int .i64 tp] 61)) (by simp)
  rw [hz] at bx
  obtain ⟨r0, r1, r2, r3, r4, _, _, _, _, _⟩ := bx
  have hB : Below V.heap.size V ((V.alloc (.cells #[.int .i64 kd, .string tx, .int .i64 tn, .int .i64 tp, .slice none 0 0] 36)).alloc (.cells #[.int .i64 tk, .string tx, .int .i64 tn, .int .i64 tp] 61)) := ((Below.refl _ _).alloc (Nat.le_refl _) _).alloc (by simp) _
  clear hV
  refine bodyPost_ret (v := .agg #[.int .i64 kd, .string tx, .int .i64 tn, .int .i64 tp, .slice none 0 0]) (by simp [results, Tryd.results66, go_sem, r0, r1, r2, r3, r4]) rfl ?_
  exact ⟨rfl, hR.below hB, only_next hO hB⟩
end
end Go.Proofs.YtldgbdmiebipnaaDoor

namespace Go.Proofs.YtldgbdmiebipnaaDoor
open Go.RowKit

set_option maxHeartbeats 400000 in
theorem class_any (b : Int) (w : World) :
    Calls Tryd.prog 53 #[.int .u8 b] w fun e w' => e = .returned (.int .i64 (cls b)) ∧ w = w' := by
  go_enter Tryd.func53, Tryd.ntmps53
  go_wp2
  all_goals go_ret
  all_goals refine ⟨ret_int ?_, rfl⟩
  all_goals (try simp only [beq_iff_eq, beq_eq_false_iff_ne, ne_eq] at *)
  all_goals (unfold cls; repeat (first | rw [if_pos (by omega)] | rw [if_neg (by omega)]))
set_option maxHeartbeats 400000 in
theorem part_any (b : Int) (w : World) :
    Calls Tryd.prog 84 #[.int .u8 b] w fun e w' => e = .returned (.bool (part b)) ∧ w = w' := by
  have hb := cls_bd b
  have hp : part b = decide (1 ≤ cls b ∧ cls b ≤ 3 ∨ b = 95) := rfl
  have h95 : b = 95 → cls b = 0 := by rintro rfl; decide
  have H := Lib.hid hp
  have H3 := Lib.hid h95
  clear hp h95
  generalize hc : cls b = c at H H3 hb
  have H2 := Lib.hid hc
  clear hc
  go_enter Tryd.func84, Tryd.ntmps84
  go_wp2_with (go_at_call 53; refine (class_any _ _).mono ?_; rintro e w' ⟨rfl, rfl⟩; rw [H2.out])
  all_goals go_ret
  all_goals refine ⟨ret_bool ?_, rfl⟩
  all_goals rw [H.out]
  all_goals have h95 := H3.out
  all_goals (try simp only [beq_iff_eq, beq_eq_false_iff_ne, bne_iff_ne, bne_eq_false_iff_eq, ne_eq] at *)
  all_goals first | (rw [decide_eq_true (by omega)]) | (rw [decide_eq_false (by omega)])
end Go.Proofs.YtldgbdmiebipnaaDoor

namespace Go.Proofs.YtldgbdmiebipnaaDoor
open Go.RowKit

set_option maxHeartbeats 400000 in
theorem keys_any (w : World) :
    Calls Tryd.prog 76 #[] w fun e w' => ∃ v, e = .returned v ∧ Strs w' v keyList ∧ Below w.heap.size w w' := by
  go_enter Tryd.func76, Tryd.ntmps76
  go_wp2
  go_ret
  exact ⟨_, rfl, strs_alloc w keyList 9 (by decide), (Below.refl _ _).alloc (Nat.le_refl _) _⟩
theorem contains_any (v : Value) (zs : List ByteArray) (x : ByteArray) (w : World) (hv : Strs w v zs) :
    Calls Tryd.prog 75 #[v, .string x] w fun e w' => e = .returned (.bool (Lib.containsS zs x)) ∧ w = w' := by
  obtain ⟨a, c, rfl, hl, h⟩ := hv
  rcases h with rfl | ⟨b, off, rfl, hlt, hc⟩
  · refine (Tryd.slices_Contains_string_empty a c x w).mono ?_
    rintro e w' ⟨rfl, rfl⟩
    exact ⟨rfl, rfl⟩
  · refine (Tryd.slices_Contains_string b off zs.length c zs x w (Nat.le_refl _) (by omega) hc).mono ?_
    rintro e w' ⟨rfl, rfl⟩
    rw [List.take_length]
    exact ⟨rfl, rfl⟩
set_option maxHeartbeats 400000 in
theorem key_any (s : ByteArray) (w : World) :
    Calls Tryd.prog 55 #[.string s] w fun e w' => e = .returned (.bool (Lib.containsS keyList s)) ∧ Below w.heap.size w w' := by
  go_enter Tryd.func55, Tryd.ntmps55
  go_wp2_with (first | (go_at_call 76; refine (keys_any _).mono ?_; rintro e w1 ⟨v, rfl, hv, hb⟩; replace hv := Lib.hid hv) | (go_at_call 75; refine (contains_any _ _ _ _ (Hid.out (by assumption))).mono ?_; rintro e w2 ⟨rfl, rfl⟩))
  go_ret
  exact ⟨rfl, hb⟩
set_option maxHeartbeats 400000 in
theorem fits_any (s : ByteArray) (f : Int) (k : Nat) (hk : k < s.size) (hs : s.size ≤ 9223372036854775806) (w : World) :
    Calls Tryd.prog 96 #[.agg #[.string s, .int .i64 f], .int .i64 k] w fun e w' => e = .returned (.bool (fitAt s f k)) ∧ Below w.heap.size w w' := by
  by_cases h0 : k = 0
  · subst h0
    have hq : (((0 : Nat) : Int) == 0) = true := rfl
    have HF := Lib.hid (fitAt_zero (f := f) hk)
    have hi : (0 : Int) < (s.size : Int) := by omega
    go_enter Tryd.func96, Tryd.ntmps96
    go_wp2_with fail
    go_quiet ((go_at_call 53; exact Calls.quiet_of_same ((class_any _ _).mono fun e w' h => ⟨h.1, h.2.symm⟩)))
    go_wp2
    go_ret
    exact ⟨ret_bool HF.out.symm, below_drewN ((Below.refl _ _).alloc (Nat.le_refl _) _) _⟩
  · have hq : ((k : Int) == 0) = false := by rw [beq_eq_false_iff_ne]; omega
    have HF := Lib.hid (fitAt_next (f := f) hk h0)
    clear h0
    go_enter Tryd.func96, Tryd.ntmps96
    go_wp2_with (go_at_call 84; refine (part_any _ _).mono ?_; rintro e w' ⟨rfl, rfl⟩)
    go_ret
    exact ⟨ret_bool HF.out.symm, (Below.refl _ _).alloc (Nat.le_refl _) _⟩
set_option maxHeartbeats 400000 in
theorem every_any (s : ByteArray) (f : Int) (hs : s.size ≤ 9223372036854775806) (w : World) :
    Calls Tryd.prog 95 #[.int .i64 s.size, .func (Fn.func 96) #[.agg #[.string s, .int .i64 f]] #[]] w fun e w' => e = .returned (.bool (fitsAll s f)) ∧ Below w.heap.size w w' := by
  go_enter Tryd.func95, Tryd.ntmps95
  go_wp2
  go_loopw [7] (fun i wr => ∃ k : Nat, k ≤ s.size ∧ i = .int .i64 k ∧ FitsTo s f k ∧ Below w.heap.size w wr) (fun i _ => s.size - (intOf i).toNat)
  case atStart => exact ⟨0, Nat.zero_le _, rfl, (fun j hj => by omega), Below.refl _ _⟩
  case round =>
    obtain ⟨k, hk, rfl, ha, hb⟩ := hrel
    have HA := Lib.hid ha
    clear ha
    by_cases hlt : k < s.size
    · cases hp : fitAt s f k with
      | true =>
        have HP := Lib.hid hp
        clear hp
        go_wp2_with (go_at_call 96; refine (fits_any s f k hlt hs _).mono ?_; rintro e w' ⟨rfl, hb2⟩; rw [HP.out])
        go_roundw
        case rel => exact ⟨k + 1, by omega, by go_num, HA.out.succ HP.out, hb.trans (hb2.mono hb.size)⟩
        case measure => simp [intOf]; omega
      | false =>
        have HP := Lib.hid hp
        clear hp
        go_wp2_with (go_at_call 96; refine (fits_any s f k hlt hs _).mono ?_; rintro e w' ⟨rfl, hb2⟩; rw [HP.out])
        go_ret
        exact ⟨ret_bool (fitsAll_bad hlt HP.out).symm, hb.trans (hb2.mono hb.size)⟩
    · obtain rfl : k = s.size := by omega
      go_wp2
      go_ret
      exact ⟨ret_bool HA.out.all.symm, hb⟩
set_option maxHeartbeats 400000 in
theorem spelt_any (s : ByteArray) (f : Int) (hs : s.size ≤ 9223372036854775806) (w : World) :
    Calls Tryd.prog 91 #[.string s, .int .i64 f] w fun e w' => e = .returned (.bool (speltB s f)) ∧ Below w.heap.size w w' := by
  by_cases h0 : 1 ≤ s.size
  · have h3 := toList_some h0
    have h4 : (s.toList == []) = false := by rw [beq_eq_false_iff_ne]; intro e; rw [e] at h3; cases h3
    by_cases h1 : s.size ≤ 20
    · have HF := Lib.hid (show speltB s f = fitsAll s f from by unfold speltB; rw [decide_eq_true ⟨h0, h1⟩]; rfl)
      have C := Lib.hid (fun w => every_any s f hs w)
      go_enter Tryd.func91, Tryd.ntmps91
      go_wp2_with (go_at_call 95; refine (C.out _).mono ?_; rintro e w' ⟨rfl, hb⟩)
      go_ret
      exact ⟨ret_bool HF.out.symm, hb⟩
    · have HF := Lib.hid (show speltB s f = false from by unfold speltB; rw [decide_eq_false (by omega)]; rfl)
      go_enter Tryd.func91, Tryd.ntmps91
      go_wp2_with fail
      go_ret
      exact ⟨ret_bool HF.out.symm, Below.refl _ _⟩
  · have HF := Lib.hid (show speltB s f = false from by unfold speltB; rw [decide_eq_false (by omega)]; rfl)
    have h3 := toList_empty (s := s) (by omega)
    have h4 : (s.toList == []) = true := by rw [h3]; rfl
    have h5 : s.toList.isEmpty = true := by rw [h3]; rfl
    have H3 := Lib.hid h3
    clear h3 h0
    go_enter Tryd.func91, Tryd.ntmps91
    go_wp2_with fail
    go_ret
    exact ⟨ret_bool HF.out.symm, Below.refl _ _⟩
set_option maxHeartbeats 400000 in
theorem word_any (s : ByteArray) (hs : s.size ≤ 9223372036854775806) (w : World) :
    Calls Tryd.prog 82 #[.string s] w fun e w' => e = .returned (.bool (wordB s)) ∧ Below w.heap.size w w' := by
  have HW := Lib.hid (show wordB s = (speltB s 1 && !Lib.containsS keyList s) from rfl)
  have C := Lib.hid (fun w => spelt_any s 1 hs w)
  have K := Lib.hid (fun w => key_any s w)
  cases hp : speltB s 1 with
  | true =>
    have HP := Lib.hid hp
    clear hp
    go_enter Tryd.func82, Tryd.ntmps82
    go_wp2_with (first | (go_at_call 91; refine (C.out _).mono ?_; rintro e w1 ⟨rfl, hb⟩; rw [HP.out]) | (go_at_call 55; refine (K.out _).mono ?_; rintro e w2 ⟨rfl, hb2⟩))
    go_ret
    exact ⟨ret_bool (by rw [HW.out, HP.out]; rfl), hb.trans (hb2.mono hb.size)⟩
  | false =>
    have HP := Lib.hid hp
    clear hp
    go_enter Tryd.func82, Tryd.ntmps82
    go_wp2_with (go_at_call 91; refine (C.out _).mono ?_; rintro e w1 ⟨rfl, hb⟩; rw [HP.out])
    go_ret
    exact ⟨ret_bool (by rw [HW.out, HP.out]; rfl), hb⟩
end Go.Proofs.YtldgbdmiebipnaaDoor
