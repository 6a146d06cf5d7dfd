/-
  Whether two rows of tokens are alike in all, by the reference, for any two rows.
-/
import Derived.Test.YtljkaaliagppdaaDoorToks
import Derived.Lib.SlicesS
namespace Go.Proofs.YtljkaaliagppdaaDoor
open Go.RowKit

theorem Tok.eq_of {t u : Tok} (h0 : t.kind = u.kind) (h1 : t.text = u.text) (h2 : t.n = u.n) (h3 : t.place = u.place) : t = u := by
  cases t; cases u; simp_all

/-- Two rows are alike in all. -/
noncomputable def alike (ts us : List Tok) : Bool := @decide (ts = us) (Classical.propDecidable _)
theorem alike_true {ts us : List Tok} (h : ts = us) : alike ts us = true := by unfold alike; simp [h]
theorem alike_false {ts us : List Tok} (h : ts ≠ us) : alike ts us = false := by unfold alike; simp [h]
theorem alike_self (ts : List Tok) : alike ts ts = true := alike_true rfl

/-- The two rows are alike up to k. -/
def SameTo (ts us : List Tok) (k : Nat) : Prop := ∀ j (h1 : j < ts.length) (h2 : j < us.length), j < k → ts[j] = us[j]
theorem SameTo.succ {ts us : List Tok} {k : Nat} (h : SameTo ts us k) (h1 : k < ts.length) (h2 : k < us.length) (hk : ts[k] = us[k]) : SameTo ts us (k + 1) := by
  intro j a b hj
  by_cases e : j = k
  · subst e; exact hk
  · exact h j a b (by omega)
theorem SameTo.all {ts us : List Tok} (h : SameTo ts us ts.length) (hl : ts.length = us.length) : alike ts us = true :=
  alike_true (List.ext_getElem hl fun j h1 h2 => h j h1 h2 h1)
theorem unlike_at' {ts us : List Tok} {k : Nat} (h1 : k < ts.length) (h2 : k < us.length) (h : ts[k] ≠ us[k]) : alike ts us = false := by
  apply alike_false; rintro rfl; exact h rfl
theorem unlike_len' {ts us : List Tok} (h : ts.length ≠ us.length) : alike ts us = false := by
  apply alike_false; rintro rfl; exact h rfl

/-- Where two tokens part first. -/
theorem tok_ways (t u : Tok) : t = u ∨ (t ≠ u ∧ ((t.kind != u.kind) = true ∨ ((t.kind != u.kind) = false ∧ (((t.text.toList == u.text.toList) = false) ∨ ((t.text.toList == u.text.toList) = true ∧ ((t.n != u.n) = true ∨ ((t.n != u.n) = false ∧ (t.place != u.place) = true))))))) := by
  by_cases h0 : t.kind = u.kind
  · by_cases h1 : t.text = u.text
    · by_cases h2 : t.n = u.n
      · by_cases h3 : t.place = u.place
        · exact .inl (Tok.eq_of h0 h1 h2 h3)
        · exact .inr ⟨by rintro rfl; exact h3 rfl, .inr ⟨by simp [h0], .inr ⟨by simp [h1], .inr ⟨by simp [h2], by rw [bne_iff_ne]; exact h3⟩⟩⟩⟩
      · exact .inr ⟨by rintro rfl; exact h2 rfl, .inr ⟨by simp [h0], .inr ⟨by simp [h1], .inl (by rw [bne_iff_ne]; exact h2)⟩⟩⟩
    · exact .inr ⟨by rintro rfl; exact h1 rfl, .inr ⟨by simp [h0], .inl (by rw [Lib.bytes_beq_false_iff]; exact h1)⟩⟩
  · exact .inr ⟨by rintro rfl; exact h0 rfl, .inl (by rw [bne_iff_ne]; exact h0)⟩

set_option maxHeartbeats 1000000 in
theorem tokens_any (v u : Value) (ts us : List Tok) (w : World) (hv : Toks w v ts) (hu : Toks w u us) :
    Calls Tryd.prog 10 #[v, u] w fun e w' => e = .returned (.bool (alike ts us)) ∧ Below w.heap.size w w' := by
  obtain ⟨a, c, rfl, hl, h⟩ := hv
  obtain ⟨a', c', rfl, hl', h'⟩ := hu
  by_cases hlen : ts.length = us.length
  · have hq : ((ts.length : Int) != (us.length : Int)) = false := by simp [hlen]
    have HL := Lib.hid hlen
    rcases h with rfl | ⟨b, off, rfl, hlt, hc⟩
    · have : us = [] := by simpa using hlen.symm
      subst this
      have HE := Lib.hid (alike_self [])
      go_enter Tryd.func10, Tryd.ntmps10
      go_wp2
      refine wp_loop_rounds 1 ?_; rw [rounds_succ]
      go_wp2
      go_ret
      exact ⟨ret_bool HE.out.symm, Below.refl _ _⟩
    · rcases h' with rfl | ⟨b', off', rfl, hlt', hc'⟩
      · have : ts = [] := by simpa using hlen
        subst this
        have HE := Lib.hid (alike_self [])
        go_enter Tryd.func10, Tryd.ntmps10
        go_wp2
        refine wp_loop_rounds 1 ?_; rw [rounds_succ]
        go_wp2
        go_ret
        exact ⟨ret_bool HE.out.symm, Below.refl _ _⟩
      · have HC := Lib.hid hc
        have HC' := Lib.hid hc'
        clear hc hc' hlen
        go_enter Tryd.func10, Tryd.ntmps10
        go_wp2
        go_loopw [15] (fun i wr => ∃ k : Nat, k ≤ ts.length ∧ i = .int .i64 k ∧ SameTo ts us k ∧ Below w.heap.size w wr) (fun i _ => ts.length - (intOf i).toNat)
        case atStart => exact ⟨0, Nat.zero_le _, rfl, (fun j _ _ hk => by omega), Below.refl _ _⟩
        case round =>
          obtain ⟨k, hk, rfl, hal, hb⟩ := hrel
          have HA := Lib.hid hal
          clear hal
          by_cases hlt1 : k < ts.length
          · have hlt2 : k < us.length := by have := HL.out; omega
            have hi1 : (k : Int) < (ts.length : Int) := by omega
            have hi2 : (k : Int) < (us.length : Int) := by omega
            obtain ⟨d0, d1, d2, d3⟩ := (HC.out k hlt1).below hb hlt
            obtain ⟨g0, g1, g2, g3⟩ := (HC'.out k hlt2).below hb hlt'
            have hbs := hb.size
            have hx1 : b < wr.heap.size := by omega
            have hx2 : b' < wr.heap.size := by omega
            obtain ⟨t, ht⟩ : ∃ t, t = ts[k] := ⟨_, rfl⟩
            obtain ⟨u, hu⟩ : ∃ u, u = us[k] := ⟨_, rfl⟩
            rw [← ht] at d0 d1 d2 d3
            rw [← hu] at g0 g1 g2 g3
            have HT := Lib.hid ht
            have HU := Lib.hid hu
            clear ht hu
            have hbb : Below w.heap.size w ((wr.alloc (.cells #[.int .i64 t.kind, .string t.text, .int .i64 t.n, .int .i64 t.place] 38)).alloc (.cells #[.int .i64 u.kind, .string u.text, .int .i64 u.n, .int .i64 u.place] 38)) := (hb.alloc hb.size _).alloc (by simp; omega) _
            rcases tok_ways t u with rfl | ⟨hne, hw⟩
            · go_wp2
              go_roundw
              case rel => exact ⟨k + 1, by omega, by go_num, HA.out.succ hlt1 hlt2 (HT.out.symm.trans HU.out), hbb⟩
              case measure => simp [intOf]; omega
            · have HE := Lib.hid hne
              clear hne
              rcases hw with hw | ⟨e0, hw | ⟨e1, hw | ⟨e2, hw⟩⟩⟩
              all_goals
                go_wp2
                go_ret
                exact ⟨ret_bool (unlike_at' hlt1 hlt2 (by rw [← HT.out, ← HU.out]; exact HE.out)).symm, hbb⟩
          · obtain rfl : k = ts.length := by omega
            go_wp2
            go_ret
            exact ⟨ret_bool (HA.out.all HL.out).symm, hb⟩
  · have hq : ((ts.length : Int) != (us.length : Int)) = true := by rw [bne_iff_ne]; omega
    have HE := Lib.hid (unlike_len' hlen)
    clear hlen
    go_enter Tryd.func10, Tryd.ntmps10
    go_wp2
    go_ret
    exact ⟨ret_bool HE.out.symm, Below.refl _ _⟩
end Go.Proofs.YtljkaaliagppdaaDoor
