/-
  A text looked for in a row of texts that is sorted, by the library's own text.
-/
import Derived.Test.YtcoaneipajadiaaPCmpTm
import Derived.Test.YtcoaneipajadiaaOfBd
import Derived.Shelf.Spec.SearchS
namespace Go.Proofs.Ytcoaneipajadiaa
open Go.RowKit Go.Lib

set_option maxHeartbeats 400000 in
theorem nanL_any (s : ByteArray) (w : World) : Calls Try.prog 60 #[.string s] w fun e w' => e = .returned (.bool false) ∧ w = w' := by
  have h : (s.toList == s.toList) = true := by simp
  go_enter Try.func60, Try.ntmps60
  go_wp2
  go_ret
  exact ⟨rfl, rfl⟩
set_option maxHeartbeats 400000 in
theorem lessS_any (s t : ByteArray) (w : World) : Calls Try.prog 59 #[.string s, .string t] w fun e w' => e = .returned (.bool (ltN s t)) ∧ w = w' := by
  have N := Lib.hid (fun w => nanS_any s w)
  have HV := Lib.hid (show Op.bytesLess s.toList t.toList = ltN s t from rfl)
  go_enter Try.func59, Try.ntmps59
  go_wp2_with fail
  refine (N.out _).mono ?_; rintro e w1 ⟨rfl, rfl⟩
  go_wp2_with fail
  go_ret
  exact ⟨ret_bool HV.out, rfl⟩

/-- Texts that don't fall. -/
def RiseLe (zs : List ByteArray) : Prop := zs.Pairwise fun x y => ltN y x = false
theorem riseLe_get {zs : List ByteArray} (h : RiseLe zs) {i j : Nat} {x y : ByteArray} (hij : i < j) (hx : zs[i]? = some x) (hy : zs[j]? = some y) : ltN y x = false := by
  obtain ⟨h1, rfl⟩ := List.getElem?_eq_some_iff.1 hx
  obtain ⟨h2, rfl⟩ := List.getElem?_eq_some_iff.1 hy
  exact (List.pairwise_iff_getElem.1 h) i j h1 h2 hij
/-- Where a search among such texts ends. -/
theorem bss_end {zs : List ByteArray} {s : ByteArray} {i : Nat} (hr : RiseLe zs) (h1 : ∀ t x, t < i → zs[t]? = some x → ltN x s = true) (h2 : ∀ t x, i ≤ t → zs[t]? = some x → ltN x s = false) :
    Lib.containsS zs s = true ↔ zs[i]? = some s := by
  rw [contains_iff]
  constructor
  · intro hm
    obtain ⟨t, ht, e⟩ := List.getElem_of_mem hm
    have hts : zs[t]? = some s := by rw [List.getElem?_eq_getElem ht, e]
    rcases Nat.lt_trichotomy t i with h | h | h
    · have := h1 t s h hts; rw [ltN_irr] at this; cases this
    · subst h; exact hts
    · obtain ⟨y, hy⟩ : ∃ y, zs[i]? = some y := ⟨_, List.getElem?_eq_getElem (by omega)⟩
      have e1 := h2 i y (Nat.le_refl _) hy
      have e2 := riseLe_get hr h hy hts
      by_cases e : y = s
      · rw [← e]; exact hy
      · have := ltN_tot e1 e; rw [e2] at this; cases this
  · intro h; exact List.mem_of_getElem? h
theorem toList_ne {y x : ByteArray} (h : y ≠ x) : (y.toList == x.toList) = false := by
  cases e : (y.toList == x.toList) with
  | false => rfl
  | true => exact absurd (beq_name.1 e) h

set_option maxHeartbeats 4000000 in
set_option maxRecDepth 1000000 in
theorem bss_any (b off c n : Nat) (zs : List ByteArray) (s : ByteArray) (w : World) (hzn : zs.length = n) (hn : n ≤ 1000000) (hr : RiseLe zs) (hc : ∀ (j : Nat) x, zs[j]? = some x → w.cell? ⟨b, off + j, none⟩ = some (.string x)) :
    Calls Try.prog 41 #[.slice (some ⟨b, off, none⟩) n c, .string s] w fun e w' => ∃ i : Nat, e = .returned (.tuple #[.int .i64 i, .bool (Lib.containsS zs s)]) ∧ ∃ q, w' = w.drewN q := by
  have LS := Lib.hid (fun x w => lessS_any x s w)
  have NL := Lib.hid (fun x w => nanL_any x w)
  have CEL := Lib.hid hc
  have HR := Lib.hid hr
  have HZN := Lib.hid hzn
  clear hc hr hzn
  go_enter Try.func41, Try.ntmps41
  go_wp2
  go_loopg [7, 8] n (fun g s7 s8 wr => ∃ lo hi q : Nat, s7 = .int .i64 lo ∧ s8 = .int .i64 hi ∧ lo ≤ hi ∧ hi ≤ n ∧ hi - lo ≤ g ∧ wr = w.drewN q ∧ Hid ((∀ t x, t < lo → zs[t]? = some x → ltN x s = true) ∧ (∀ t x, hi ≤ t → zs[t]? = some x → ltN x s = false)))
  case atStart => exact ⟨0, n, 0, rfl, rfl, Nat.zero_le _, Nat.le_refl _, by omega, rfl, Lib.hid ⟨fun t x h => by omega, fun t x h hx => by have := (List.getElem?_eq_some_iff.1 hx).1; have := HZN.out; omega⟩⟩
  case round =>
    obtain ⟨lo, hi, q, rfl, rfl, hlh, hin, hg, rfl, HI⟩ := hrel
    by_cases hlt : lo < hi
    · obtain ⟨y, hy⟩ : ∃ y, zs[(lo + hi) / 2]? = some y := ⟨_, List.getElem?_eq_getElem (by have := HZN.out; omega)⟩
      have cm : w.cell? ⟨b, off + (lo + hi) / 2, none⟩ = some (.string y) := CEL.out _ _ hy
      have HY := Lib.hid hy
      clear hy
      cases hyx : ltN y s with
      | false =>
        have HYX := Lib.hid hyx
        have L1 := fun W => LS.out y W
        rw [hyx] at L1
        have L2 := Lib.hid L1
        clear hyx L1
        go_wp2_with (first | (go_at_call 59; refine (L2.out _).mono ?_; rintro e w' ⟨rfl, rfl⟩))
        go_roundg ((lo + hi) / 2 - lo)
        case measure => omega
        case rel => exact ⟨lo, (lo + hi) / 2, _, rfl, by rw [show ((lo : Int) + (hi : Int)) / 2 = (((lo + hi) / 2 : Nat) : Int) by omega], by omega, by omega, Nat.le_refl _, rfl, Lib.hid ⟨HI.out.1, fun t x h hx => by
          rcases Nat.lt_or_ge ((lo + hi) / 2) t with h3 | h3
          · cases h4 : ltN x s with
            | false => rfl
            | true =>
              have h5 := riseLe_get HR.out h3 HY.out hx
              by_cases e : y = s
              · rw [e, h4] at h5; cases h5
              · have h6 := ltN_tot HYX.out e
                have h7 := ltN_trans h4 h6
                rw [h5] at h7; cases h7
          · have e : t = (lo + hi) / 2 := by omega
            subst e
            rw [HY.out] at hx
            obtain rfl := Option.some.inj hx
            exact HYX.out⟩⟩
      | true =>
        have HYX := Lib.hid hyx
        have L1 := fun W => LS.out y W
        rw [hyx] at L1
        have L2 := Lib.hid L1
        clear hyx L1
        go_wp2_with (first | (go_at_call 59; refine (L2.out _).mono ?_; rintro e w' ⟨rfl, rfl⟩))
        go_roundg (hi - ((lo + hi) / 2 + 1))
        case measure => omega
        case rel => exact ⟨(lo + hi) / 2 + 1, hi, _, by rw [show ((lo : Int) + (hi : Int)) / 2 + 1 = (((lo + hi) / 2 + 1 : Nat) : Int) by omega], rfl, by omega, hin, Nat.le_refl _, rfl, Lib.hid ⟨fun t x h hx => by
          rcases Nat.lt_or_ge t ((lo + hi) / 2) with h3 | h3
          · have h5 := riseLe_get HR.out h3 hx HY.out
            by_cases e : x = y
            · rw [e]; exact HYX.out
            · exact ltN_trans (ltN_tot h5 (fun e' => e e'.symm)) HYX.out
          · have e : t = (lo + hi) / 2 := by omega
            subst e
            rw [HY.out] at hx
            obtain rfl := Option.some.inj hx
            exact HYX.out, HI.out.2⟩⟩
    · have : hi = lo := by omega
      subst this
      have HE := Lib.hid (bss_end HR.out HI.out.1 HI.out.2)
      by_cases hn : hi < n
      · obtain ⟨y, hy⟩ : ∃ y, zs[hi]? = some y := ⟨_, List.getElem?_eq_getElem (by have := HZN.out; omega)⟩
        have cl : w.cell? ⟨b, off + hi, none⟩ = some (.string y) := CEL.out _ _ hy
        have HY := Lib.hid hy
        clear hy
        by_cases hyx : y = s
        · have HC := Lib.hid (show Lib.containsS zs s = true from HE.out.2 (by rw [HY.out, hyx]))
          have hb : (y.toList == s.toList) = true := beq_name.2 hyx
          clear hyx
          go_wp2_with (first | (go_at_call 60; refine (NL.out _ _).mono ?_; rintro e w' ⟨rfl, rfl⟩))
          go_ret2
          exact ⟨hi, by rw [HC.out]; rfl, _, rfl⟩
        · have HC := Lib.hid (show Lib.containsS zs s = false by
            cases h : Lib.containsS zs s with
            | false => rfl
            | true =>
              have := HE.out.1 h
              rw [HY.out] at this
              exact absurd (Option.some.inj this) hyx)
          have hne : (y.toList == s.toList) = false := toList_ne hyx
          clear hyx
          go_wp2_with (first | (go_at_call 60; refine (NL.out _ _).mono ?_; rintro e w' ⟨rfl, rfl⟩))
          all_goals
            (go_ret2
             exact ⟨hi, by rw [HC.out]; rfl, _, rfl⟩)
      · have HC := Lib.hid (show Lib.containsS zs s = false by
          cases h : Lib.containsS zs s with
          | false => rfl
          | true =>
            have := HE.out.1 h
            rw [List.getElem?_eq_none (by have := HZN.out; omega)] at this
            cases this)
        go_wp2_with (first | (go_at_call 60; refine (NL.out _ _).mono ?_; rintro e w' ⟨rfl, rfl⟩))
        go_ret2
        exact ⟨hi, by rw [HC.out]; rfl, _, rfl⟩

set_option maxHeartbeats 1000000 in
set_option maxRecDepth 1000000 in
theorem bss_none (a : Option Addr) (c : Nat) (s : ByteArray) (w : World) :
    Calls Try.prog 41 #[.slice a 0 c, .string s] w fun e w' => ∃ i : Nat, e = .returned (.tuple #[.int .i64 i, .bool false]) ∧ ∃ q, w' = w.drewN q := by
  go_enter Try.func41, Try.ntmps41
  go_wp2
  go_loop [7, 8] (fun s7 s8 => s7 = .int .i64 0 ∧ s8 = .int .i64 0) (fun _ _ => 0)
  case atStart => exact ⟨rfl, rfl⟩
  case round =>
    obtain ⟨rfl, rfl⟩ := hrel
    go_wp2
    go_ret2
    exact ⟨⟨0, rfl⟩, 0, rfl⟩
end Go.Proofs.Ytcoaneipajadiaa
