/-
  Whether two rows of tokens are the same but for their places: Same of package lex, by slices.Equal at tokens.
-/
import Derived.Test.YtljkaaliagppdaaDoorRow
import Derived.Laws.StructEq
import Derived.Deep.QuietTactic
import Derived.BigQuiet
import Derived.Deep.Draws
namespace Go.Proofs.YtljkaaliagppdaaDoor
open Go.RowKit

theorem below_drewN' {B : Nat} {a w : World} (h : Below B a w) (n : Nat) : Below B a (w.drewN n) := ⟨h.os, h.tape, h.output, h.size, h.block⟩
/-- Two tokens are the same, field by field. -/
def tokB (t u : Tok) : Bool := (t.kind == u.kind) && ((t.text.toList == u.text.toList) && ((t.n == u.n) && (t.place == u.place)))
theorem tokB_iff (t u : Tok) : tokB t u = true ↔ t = u := by
  unfold tokB
  simp only [Bool.and_eq_true, beq_iff_eq]
  constructor
  · rintro ⟨h0, h1, h2, h3⟩
    exact Tok.eq_of h0 (by
      have := h1
      rw [← Lib.bytes_beq_iff, beq_iff_eq]; exact this) h2 h3
  · rintro rfl; exact ⟨rfl, rfl, rfl, rfl⟩
theorem tokB_false {t u : Tok} (h : tokB t u = false) : t ≠ u := by
  intro e; rw [(tokB_iff t u).2 e] at h; cases h

theorem neq_tok (t u : Tok) (w : World) : (binOp .neq 38 (.agg #[.int .i64 t.kind, .string t.text, .int .i64 t.n, .int .i64 t.place]) (.agg #[.int .i64 u.kind, .string u.text, .int .i64 u.n, .int .i64 u.place])).run Tryd.prog w = .ok (.bool (!tokB t u)) w := by
  have u3 := Tryd.underlying3
  have a3 := Tryd.isAgg3
  have z3 := Tryd.sizeOf3
  have u9 := Tryd.underlying9
  have a9 := Tryd.isAgg9
  have z9 := Tryd.sizeOf9
  have hS : Tryd.prog.underlying 38 = some (.struct (Tryd.prog.fieldsOf 38)) := by kernel_rfl
  have hp : Tryd.prog.stoodInHeld 38 = false := by kernel_rfl
  rw [run_neq_struct, show (10000 : Nat) = 9999 + 1 from rfl, run_equalIn_agg w 9999 38 _ _ hS hp]
  simp only [Program.fieldsOf, Tryd.underlying38]
  go_simp
  unfold tokB
  cases h0 : (t.kind == u.kind) <;> cases h1 : (t.text.toList == u.text.toList) <;> cases h2 : (t.n == u.n) <;> cases h3 : (t.place == u.place) <;> simp_all
theorem guard_tok (op : BinOp) (a b : Operand) (t u : Tok) (w : World) : (eqGuard op 38 a b (.agg #[.int .i64 t.kind, .string t.text, .int .i64 t.n, .int .i64 t.place]) (.agg #[.int .i64 u.kind, .string u.text, .int .i64 u.n, .int .i64 u.place])).run Tryd.prog w = .ok () w :=
  run_eqGuard_agg w op _ a b _ _ (by kernel_rfl)

set_option maxHeartbeats 1000000 in
theorem equal_any (v u : Value) (ts us : List Tok) (w : World) (hv : Toks w v ts) (hu : Toks w u us) :
    Calls Tryd.prog 24 #[v, u] w fun e w' => e = .returned (.bool (alike ts us)) ∧ Below w.heap.size w w' := by
  obtain ⟨a, c, rfl, hl, h⟩ := hv
  obtain ⟨a', c', rfl, hl', h'⟩ := hu
  by_cases hlen : ts.length = us.length
  · have hq : ((ts.length : Int) != (us.length : Int)) = false := by simp [hlen]
    have HL := Lib.hid hlen
    rcases h with rfl | ⟨b, off, rfl, hlt, hc⟩
    · have : us = [] := by simpa using hlen.symm
      subst this
      have HE := Lib.hid (alike_self [])
      go_enter Tryd.func24, Tryd.ntmps24
      go_wp2
      refine wp_loop_rounds 1 ?_; rw [rounds_succ]
      go_wp2
      go_ret
      exact ⟨ret_bool HE.out.symm, Below.refl _ _⟩
    · rcases h' with rfl | ⟨b', off', rfl, hlt', hc'⟩
      · have : ts = [] := by simpa using hlen
        subst this
        have HE := Lib.hid (alike_self [])
        go_enter Tryd.func24, Tryd.ntmps24
        go_wp2
        refine wp_loop_rounds 1 ?_; rw [rounds_succ]
        go_wp2
        go_ret
        exact ⟨ret_bool HE.out.symm, Below.refl _ _⟩
      · have HC := Lib.hid hc
        have HC' := Lib.hid hc'
        clear hc hc' hlen
        go_enter Tryd.func24, Tryd.ntmps24
        go_wp2
        go_loopw [13] (fun i wr => ∃ k : Nat, k ≤ ts.length ∧ i = .int .i64 k ∧ SameTo ts us k ∧ Below w.heap.size w wr) (fun i _ => ts.length - (intOf i).toNat)
        case atStart => exact ⟨0, Nat.zero_le _, rfl, (fun j _ _ hk => by omega), Below.refl _ _⟩
        case round =>
          obtain ⟨k, hk, rfl, hal, hb⟩ := hrel
          have HA := Lib.hid hal
          clear hal
          by_cases hlt1 : k < ts.length
          · have hlt2 : k < us.length := by have := HL.out; omega
            have hi1 : (k : Int) < (ts.length : Int) := by omega
            have hi2 : (k : Int) < (us.length : Int) := by omega
            obtain ⟨d0, d1, d2, d3⟩ := (HC.out k hlt1).below hb hlt
            obtain ⟨g0, g1, g2, g3⟩ := (HC'.out k hlt2).below hb hlt'
            obtain ⟨t, ht⟩ : ∃ t, t = ts[k] := ⟨_, rfl⟩
            obtain ⟨u, hu⟩ : ∃ u, u = us[k] := ⟨_, rfl⟩
            rw [← ht] at d0 d1 d2 d3
            rw [← hu] at g0 g1 g2 g3
            have HT := Lib.hid ht
            have HU := Lib.hid hu
            clear ht hu
            have hne := neq_tok t u
            have hgd := fun op a b => guard_tok op a b t u
            cases hxy : tokB t u with
            | true =>
              rw [hxy] at hne
              have HE := Lib.hid ((tokB_iff t u).1 hxy)
              clear hxy
              go_wp2
              go_quiet (fail)
              go_wp2
              go_roundw
              case rel => exact ⟨k + 1, by omega, by go_num, HA.out.succ hlt1 hlt2 (HT.out.symm.trans (HE.out.trans HU.out)), below_drewN' hb _⟩
              case measure => simp [intOf]; omega
            | false =>
              rw [hxy] at hne
              have HE := Lib.hid (tokB_false hxy)
              clear hxy
              go_wp2
              go_quiet (fail)
              go_wp2
              go_ret
              exact ⟨ret_bool (unlike_at' hlt1 hlt2 (by rw [← HT.out, ← HU.out]; exact HE.out)).symm, below_drewN' hb _⟩
          · obtain rfl : k = ts.length := by omega
            go_wp2
            go_ret
            exact ⟨ret_bool (HA.out.all HL.out).symm, hb⟩
  · have hq : ((ts.length : Int) != (us.length : Int)) = true := by rw [bne_iff_ne]; omega
    have HE := Lib.hid (unlike_len' hlen)
    clear hlen
    go_enter Tryd.func24, Tryd.ntmps24
    go_wp2
    go_ret
    exact ⟨ret_bool HE.out.symm, Below.refl _ _⟩

set_option maxHeartbeats 400000 in
theorem same_any (v u : Value) (ts us : List Tok) (w : World) (hv : Toks w v ts) (hu : Toks w u us) (h1 : ts.length ≤ 1000000) (h2 : us.length ≤ 1000000) :
    Calls Tryd.prog 12 #[v, u] w fun e w' => e = .returned (.bool (alike (ts.map Tok.plain) (us.map Tok.plain))) ∧ Below w.heap.size w w' := by
  have P1 := Lib.hid (lplain_any v ts w hv h1)
  have P2 := Lib.hid (fun w hu => lplain_any u us w hu h2)
  have HU := Lib.hid hu
  clear hv hu
  go_enter Tryd.func12, Tryd.ntmps12
  go_wp2_with fail
  refine P1.out.mono ?_; rintro e w1 ⟨v1, rfl, hv1, hb1⟩
  have V1 := Lib.hid hv1
  clear hv1
  go_wp2_with fail
  refine (P2.out _ (HU.out.below hb1)).mono ?_; rintro e w2 ⟨v2, rfl, hv2, hb2⟩
  have E := Lib.hid (equal_any v1 v2 _ _ w2 (V1.out.below hb2) hv2)
  replace hb1 := hb1.trans (hb2.mono hb1.size)
  clear hv2 hb2
  go_wp2_with fail
  refine E.out.mono ?_; rintro e w3 ⟨rfl, hb3⟩
  go_wp2_with fail
  go_ret
  exact ⟨rfl, hb1.trans (hb3.mono hb1.size)⟩
end Go.Proofs.YtljkaaliagppdaaDoor
