/-
  Two sorted parts of a row merged in place, by the library's own text.
-/
import Derived.Test.YtcoaneipajadiaaPIns
import Derived.Test.YtcoaneipajadiaaMerge
import Derived.Deep.DeepCutAuto
namespace Go.Proofs.Ytcoaneipajadiaa
open Go.RowKit Go.Shelf Go.Lib Go.Sort
variable {α : Type} [Inhabited α] {P : Program} {k : Nat} {enc : α → List Value}

/-- What the turn of a merge leaves. -/
def TurnOut (lt : α → α → Bool) (a st mid e b : Nat) (d d1 : Array α) : Prop :=
  Seg lt a b d d1 ∧ SortedIn lt a st d1 ∧ SortedIn lt st mid d1 ∧ SortedIn lt mid e d1 ∧ SortedIn lt e b d1 ∧ ∀ x y, a ≤ x → x < mid → mid ≤ y → y < b → lt d1[y]! d1[x]! = false
theorem Idx.size_eq {d d1 : Array α} {f : Nat → Nat} {sz : Nat} (h : Idx d d1 f) (hs : d.size = sz) : d1.size = sz := h.1.trans hs
theorem Merged.size_eq {lt : α → α → Bool} {a b sz : Nat} {d d1 : Array α} (h : Merged lt a b d d1) (hs : d.size = sz) : d1.size = sz := h.1.stab.1.trans hs

set_option maxRecDepth 100000 in
set_option maxHeartbeats 8000000 in
theorem sym_one (T : TyB P k) (Fsym : P.funcs[(68 : Nat)]? = some Try.f68) (Frot : P.funcs[(82 : Nat)]? = some Try.f82) (Fswr : P.funcs[(92 : Nat)]? = some Try.f92) (cf : α → α → Int) (g : Nat) (eg : ∀ args w, (callFunc g args).run P w = .ok (.enter g args) w) (hO : SWO (ltOf cf)) (blk off cap sz : Nat) (d0 : Array α) (w0 : World) (hcmp : CmpLays P g #[] enc k cf blk off sz w0) (R : RowK enc k w0 blk off d0) (h0 : d0.size = sz) (hsz : sz ≤ 1000000) (N : Nat) (ih : ∀ (a m b : Nat) (d : Array α) (w : World), b - a ≤ N → a < m → m < b → b ≤ sz → d.size = sz → SWK enc k w0 blk off d w → SortedIn (ltOf cf) a m d → SortedIn (ltOf cf) m b d →
    Calls P 68 #[.slice (some ⟨blk, off, none⟩) sz cap, .int .i64 a, .int .i64 m, .int .i64 b, .func (.func g) #[] #[]] w fun e w' =>
      e = .returned (.tuple #[]) ∧ ∃ d', Merged (ltOf cf) a b d d' ∧ SWK enc k w0 blk off d' w') (a m b : Nat) (d : Array α) (w : World) (_ : b - a ≤ N + 1) (ham : a < m) (hmb : m < b) (hb : b ≤ sz) (hs : d.size = sz) (S : SWK enc k w0 blk off d w) (hA : SortedIn (ltOf cf) a m d) (hB : SortedIn (ltOf cf) m b d) (c1 : m = a + 1) :
    Calls P 68 #[.slice (some ⟨blk, off, none⟩) sz cap, .int .i64 a, .int .i64 m, .int .i64 b, .func (.func g) #[] #[]] w fun e w' =>
      e = .returned (.tuple #[]) ∧ ∃ d', Merged (ltOf cf) a b d d' ∧ SWK enc k w0 blk off d' w' := by
  have IH := Lib.hid ih
  have ROT := Lib.hid (fun (s x e : Nat) (dk : Array α) (W : World) (hS : SWK enc k w0 blk off dk W) (hk : dk.size = sz) (h1 : s < x) (h2 : x < e) (h3 : e ≤ sz) => rot_gen T Frot Fswr (.func (.func g) #[] #[]) blk off cap s x e sz dk d0 w0 W R hS hk h0 h1 h2 h3 hsz)
  have HC := Lib.hid hcmp
  have HS0 := Lib.hid S
  have HZ := Lib.hid hs
  have HZ0 := Lib.hid h0
  have HA := Lib.hid hA
  have HB := Lib.hid hB
  have HO := Lib.hid hO
  have esym : ∀ args w, (callFunc 68 args).run P w = .ok (.enter 68 args) w := enters_of Fsym (by kernel_rfl) rfl
  have erot : ∀ args w, (callFunc 82 args).run P w = .ok (.enter 82 args) w := enters_of Frot (by kernel_rfl) rfl
  have HESY := Lib.hid esym
  have HERO := Lib.hid erot
  clear ih S hs h0 hcmp hA hB hO esym erot
  have mixed := T.mixed; have t0 := T.t0; have a0 := T.a0; have z0 := T.z0; have v0 := T.v0; have t3 := T.t3; have a3 := T.a3; have z3 := T.z3; have v3 := T.v3; have t4 := T.t4; have a4 := T.a4; have z4 := T.z4; have v4 := T.v4; have t77 := T.t77; have a77 := T.a77; have z77 := T.z77; have v77 := T.v77; have t22 := T.t22; have a22 := T.a22; have z22 := T.z22; have v22 := T.v22; have t53 := T.t53; have a53 := T.a53; have z53 := T.z53; have v53 := T.v53; have aE := T.aE; have zE := T.zE
  have u0 := run_underlying T.t0; have u3 := run_underlying T.t3; have u4 := run_underlying T.t4; have u22 := run_underlying T.t22; have u53 := run_underlying T.t53; have u77 := run_underlying T.t77
  have q1 : (m : Int) - (a : Int) = 1 := by omega
  have HM := Lib.hid c1
  clear c1
  go_enter Fsym, Try.ntmps68
  go_wp2_with fail
  go_loopg [10, 11] (b - m) (fun kx s10 s11 wr => ∃ i j : Nat, s10 = .int .i64 i ∧ s11 = .int .i64 j ∧ m ≤ i ∧ i ≤ j ∧ j ≤ b ∧ j - i ≤ kx ∧ Hid ((i = m ∨ ltOf cf d[i - 1]! d[a]! = true) ∧ (j = b ∨ ltOf cf d[j]! d[a]! = false)) ∧ Hid (SWK enc k w0 blk off d wr))
  case atStart => exact ⟨m, b, rfl, rfl, Nat.le_refl _, by omega, Nat.le_refl _, Nat.le_refl _, Lib.hid ⟨.inl rfl, .inl rfl⟩, HS0⟩
  case round =>
    clear HS0
    obtain ⟨i, j, rfl, rfl, hmi, hij, hjb, hkx, HI, HS⟩ := hrel
    by_cases hlt : i < j
    · obtain ⟨h, hh⟩ : ∃ h, h = (i + j) / 2 := ⟨_, rfl⟩
      have rh : ((i : Int) + (j : Int)) / 2 = (h : Int) := by omega
      have hltz : (i : Int) < (j : Int) := by omega
      have ph : (0 : Int) ≤ (h : Int) := by omega
      have bh : (h : Int) < (sz : Int) := by omega
      have pa : (0 : Int) ≤ (a : Int) := by omega
      have ba : (a : Int) < (sz : Int) := by omega
      have h1 : i ≤ h := by omega
      have h2 : h < j := by omega
      clear hh
      cases hl : ltOf cf d[h]! d[a]! with
      | true =>
        have HL := Lib.hid hl
        clear hl
        obtain ⟨x, hx⟩ : ∃ x, x = d[h]! := ⟨_, rfl⟩
        obtain ⟨y, hy⟩ : ∃ y, y = d[a]! := ⟨_, rfl⟩
        have la := HS.out.ld R (HZ.out.trans HZ0.out.symm) P (h) (by rw [HZ.out]; omega)
        have lb := HS.out.ld R (HZ.out.trans HZ0.out.symm) P (a) (by rw [HZ.out]; omega)
        rw [← hx] at la
        rw [← hy] at lb
        have hc := HS.out.cmp HC.out HZ.out x y
        have hv : cf x y < 0 := by rw [hx, hy]; exact of_decide_eq_true HL.out
        have hd : decide (cf x y < 0) = true := decide_eq_true hv
        clear hx hy
        go_wp2_with fail
        go_quiet_grown (first | (go_at_fn g; refine Calls.grown_of (hc _ _)))
        have S2 := Lib.hid (HS.out.grown nq osq)
        clear la lb hc hv hd
        generalize grow (wr.drewN nq) osq = w2 at S2 ⊢
        clear nq osq
        go_wp2_with fail
        go_roundg (j - (h + 1))
        case measure => omega
        case rel => exact ⟨h + 1, j, by go_num, rfl, by omega, by omega, hjb, Nat.le_refl _, Lib.hid ⟨.inr (by rw [Nat.add_sub_cancel]; exact HL.out), HI.out.2⟩, S2⟩
      | false =>
        have HL := Lib.hid hl
        clear hl
        obtain ⟨x, hx⟩ : ∃ x, x = d[h]! := ⟨_, rfl⟩
        obtain ⟨y, hy⟩ : ∃ y, y = d[a]! := ⟨_, rfl⟩
        have la := HS.out.ld R (HZ.out.trans HZ0.out.symm) P (h) (by rw [HZ.out]; omega)
        have lb := HS.out.ld R (HZ.out.trans HZ0.out.symm) P (a) (by rw [HZ.out]; omega)
        rw [← hx] at la
        rw [← hy] at lb
        have hc := HS.out.cmp HC.out HZ.out x y
        have hv : ¬ cf x y < 0 := by rw [hx, hy]; exact of_decide_eq_false HL.out
        have hd : decide (cf x y < 0) = false := decide_eq_false hv
        clear hx hy
        go_wp2_with fail
        go_quiet_grown (first | (go_at_fn g; refine Calls.grown_of (hc _ _)))
        have S2 := Lib.hid (HS.out.grown nq osq)
        clear la lb hc hv hd
        generalize grow (wr.drewN nq) osq = w2 at S2 ⊢
        clear nq osq
        go_wp2_with fail
        go_roundg (h - i)
        case measure => omega
        case rel => exact ⟨i, h, rfl, rfl, hmi, h1, by omega, Nat.le_refl _, Lib.hid ⟨HI.out.1, .inr HL.out⟩, S2⟩
    · obtain rfl : i = j := by omega
      have hltz : ¬ (i : Int) < (i : Int) := by omega
      obtain ⟨i1, hi1⟩ : ∃ i1, i = i1 + 1 := ⟨i - 1, by have := HM.out; omega⟩
      have ri : (i : Int) - 1 = (i1 : Int) := by omega
      have HI1 := Lib.hid hi1
      have hai : a ≤ i1 := by have := HM.out; omega
      have HR0 := Lib.hid (show Idx d d (rotI a (a + 1) (a + 1)) from idx_rot_none d (by omega) (by omega) (.inr rfl))
      clear hi1
      go_wp2_with fail
      go_loopg [13] (i1 - a) (fun kx s13 wr => ∃ (q : Nat) (dk : Array α), s13 = .int .i64 q ∧ a ≤ q ∧ q ≤ i1 ∧ i1 - q ≤ kx ∧ Hid (Idx d dk (rotI a (a + 1) (q + 1))) ∧ Hid (SWK enc k w0 blk off dk wr))
      case atStart => exact ⟨a, d, rfl, Nat.le_refl _, hai, Nat.le_refl _, HR0, HS⟩
      case round =>
        clear HS HR0
        obtain ⟨x, dk, rfl, hax, hxi, hkx2, HR, HSK⟩ := hrel
        by_cases hlt2 : x < i1
        · have hltz2 : (x : Int) < (i1 : Int) := by omega
          have hid : x + 1 < d.size := by rw [HZ.out]; have := HI1.out; omega
          obtain ⟨q, hq⟩ : ∃ q, q = x + 1 := ⟨_, rfl⟩
          have rq : IntKind.i64.wrap ((x : Int) + 1) = (q : Int) := by rw [IntKind.wrap_i64]; have := HI1.out; omega
          have px : (0 : Int) ≤ (x : Int) := by omega
          have pq : (0 : Int) ≤ (q : Int) := by omega
          have bx : (x : Int) < (sz : Int) := by have := HI1.out; omega
          have bq : (q : Int) < (sz : Int) := by have := HI1.out; omega
          have HN := Lib.hid (show Idx d (swp dk x q) (rotI a (a + 1) (x + 1 + 1)) by rw [hq]; exact rot_right HR.out hax hid)
          have hsk := HR.out.size_eq HZ.out
          have hpd : x < dk.size := by omega
          have hqd : q < dk.size := by omega
          have hd0 : dk.size = d0.size := hsk.trans HZ0.out.symm
          have HQ := Lib.hid hq
          clear hq hid hsk HR
          have S3 := Lib.hid (HSK.out.swapped R (x) (q) hpd hqd)
          have la := HSK.out.ld1 R hd0 P (x) hpd
          have lb := HSK.out.ld1 R hd0 P (q) hqd
          have sa := HSK.out.st1 R hd0 P (x) hpd dk[q]!
          have sb := HSK.out.st2 R hd0 P (x) (q) hpd hqd dk[q]! dk[x]!
          have na : (enc dk[x]!).length = k := R.hk _
          have nb : (enc dk[q]!).length = k := R.hk _
          generalize enc dk[x]! = cP at S3 la sb na
          generalize enc dk[q]! = cQ at S3 lb sa sb nb
          clear hpd hqd hd0
          go_wp2_with fail
          go_big_region_o
          clear la lb sa sb na nb
          generalize (wr.drew.setCells blk (off + (x) * k) cQ).setCells blk (off + (q) * k) cP = w3 at S3 ⊢
          go_wp2_with fail
          go_roundg (i1 - (x + 1))
          case measure => omega
          case rel =>
            have hq := HQ.out
            subst hq
            exact ⟨x + 1, swp dk x (x + 1), by first | rfl | go_num, by omega, by omega, Nat.le_refl _, HN, S3⟩
        · obtain rfl : x = i1 := by omega
          have hltz2 : ¬ (x : Int) < (x : Int) := by omega
          have HF := Lib.hid (show Merged (ltOf cf) a b d dk by
            have h1 := HM.out
            have h2 := HI1.out
            subst h1 h2
            exact merged_right HO.out HR.out (by omega) hjb (by rw [HZ.out]; exact hb) HB.out (by rcases HI.out.1 with h | h; exact .inl h; exact .inr h) HI.out.2)
          go_wp2_with fail
          (try simp only [Exit.inBlock, Exit.then])
          refine bodyPost_ret (results_none rfl _ _ _) rfl ?_
          exact ⟨rfl, dk, HF.out, HSK.out⟩

set_option maxRecDepth 100000 in
set_option maxHeartbeats 8000000 in
theorem sym_two (T : TyB P k) (Fsym : P.funcs[(68 : Nat)]? = some Try.f68) (Frot : P.funcs[(82 : Nat)]? = some Try.f82) (Fswr : P.funcs[(92 : Nat)]? = some Try.f92) (cf : α → α → Int) (g : Nat) (eg : ∀ args w, (callFunc g args).run P w = .ok (.enter g args) w) (hO : SWO (ltOf cf)) (blk off cap sz : Nat) (d0 : Array α) (w0 : World) (hcmp : CmpLays P g #[] enc k cf blk off sz w0) (R : RowK enc k w0 blk off d0) (h0 : d0.size = sz) (hsz : sz ≤ 1000000) (N : Nat) (ih : ∀ (a m b : Nat) (d : Array α) (w : World), b - a ≤ N → a < m → m < b → b ≤ sz → d.size = sz → SWK enc k w0 blk off d w → SortedIn (ltOf cf) a m d → SortedIn (ltOf cf) m b d →
    Calls P 68 #[.slice (some ⟨blk, off, none⟩) sz cap, .int .i64 a, .int .i64 m, .int .i64 b, .func (.func g) #[] #[]] w fun e w' =>
      e = .returned (.tuple #[]) ∧ ∃ d', Merged (ltOf cf) a b d d' ∧ SWK enc k w0 blk off d' w') (a m b : Nat) (d : Array α) (w : World) (hN : b - a ≤ N + 1) (ham : a < m) (hmb : m < b) (hb : b ≤ sz) (hs : d.size = sz) (S : SWK enc k w0 blk off d w) (hA : SortedIn (ltOf cf) a m d) (hB : SortedIn (ltOf cf) m b d) (c1 : ¬ m = a + 1) (c2 : b = m + 1) :
    Calls P 68 #[.slice (some ⟨blk, off, none⟩) sz cap, .int .i64 a, .int .i64 m, .int .i64 b, .func (.func g) #[] #[]] w fun e w' =>
      e = .returned (.tuple #[]) ∧ ∃ d', Merged (ltOf cf) a b d d' ∧ SWK enc k w0 blk off d' w' := by
  have IH := Lib.hid ih
  have ROT := Lib.hid (fun (s x e : Nat) (dk : Array α) (W : World) (hS : SWK enc k w0 blk off dk W) (hk : dk.size = sz) (h1 : s < x) (h2 : x < e) (h3 : e ≤ sz) => rot_gen T Frot Fswr (.func (.func g) #[] #[]) blk off cap s x e sz dk d0 w0 W R hS hk h0 h1 h2 h3 hsz)
  have HC := Lib.hid hcmp
  have HS0 := Lib.hid S
  have HZ := Lib.hid hs
  have HZ0 := Lib.hid h0
  have HA := Lib.hid hA
  have HB := Lib.hid hB
  have HO := Lib.hid hO
  have esym : ∀ args w, (callFunc 68 args).run P w = .ok (.enter 68 args) w := enters_of Fsym (by kernel_rfl) rfl
  have erot : ∀ args w, (callFunc 82 args).run P w = .ok (.enter 82 args) w := enters_of Frot (by kernel_rfl) rfl
  have HESY := Lib.hid esym
  have HERO := Lib.hid erot
  clear ih S hs h0 hcmp hA hB hO esym erot
  have mixed := T.mixed; have t0 := T.t0; have a0 := T.a0; have z0 := T.z0; have v0 := T.v0; have t3 := T.t3; have a3 := T.a3; have z3 := T.z3; have v3 := T.v3; have t4 := T.t4; have a4 := T.a4; have z4 := T.z4; have v4 := T.v4; have t77 := T.t77; have a77 := T.a77; have z77 := T.z77; have v77 := T.v77; have t22 := T.t22; have a22 := T.a22; have z22 := T.z22; have v22 := T.v22; have t53 := T.t53; have a53 := T.a53; have z53 := T.z53; have v53 := T.v53; have aE := T.aE; have zE := T.zE
  have u0 := run_underlying T.t0; have u3 := run_underlying T.t3; have u4 := run_underlying T.t4; have u22 := run_underlying T.t22; have u53 := run_underlying T.t53; have u77 := run_underlying T.t77
  obtain ⟨u, hu⟩ : ∃ u, m = a + u := ⟨m - a, by omega⟩
  have ru : (m : Int) - (a : Int) = (u : Int) := by omega
  have hu1 : ¬ (u : Int) = 1 := by omega
  have hu2 : ((u : Int) == 1) = false := by rw [beq_eq_false_iff_ne]; omega
  have hu3 : ¬ u = 1 := by omega
  have HU := Lib.hid hu
  clear hu c1
  have q2 : (b : Int) - (m : Int) = 1 := by omega
  have HM := Lib.hid c2
  clear c2
  go_enter Fsym, Try.ntmps68
  go_wp2_with fail
  go_loopg [14, 15] (m - a) (fun kx s14 s15 wr => ∃ i j : Nat, s14 = .int .i64 i ∧ s15 = .int .i64 j ∧ a ≤ i ∧ i ≤ j ∧ j ≤ m ∧ j - i ≤ kx ∧ Hid ((i = a ∨ ltOf cf d[m]! d[i - 1]! = false) ∧ (j = m ∨ ltOf cf d[m]! d[j]! = true)) ∧ Hid (SWK enc k w0 blk off d wr))
  case atStart => exact ⟨a, m, rfl, rfl, Nat.le_refl _, by omega, Nat.le_refl _, Nat.le_refl _, Lib.hid ⟨.inl rfl, .inl rfl⟩, HS0⟩
  case round =>
    clear HS0
    obtain ⟨i, j, rfl, rfl, hai, hij, hjm, hkx, HI, HS⟩ := hrel
    by_cases hlt : i < j
    · obtain ⟨h, hh⟩ : ∃ h, h = (i + j) / 2 := ⟨_, rfl⟩
      have rh : ((i : Int) + (j : Int)) / 2 = (h : Int) := by omega
      have hltz : (i : Int) < (j : Int) := by omega
      have ph : (0 : Int) ≤ (h : Int) := by omega
      have bh : (h : Int) < (sz : Int) := by omega
      have pm : (0 : Int) ≤ (m : Int) := by omega
      have bm : (m : Int) < (sz : Int) := by omega
      have h1 : i ≤ h := by omega
      have h2 : h < j := by omega
      clear hh
      cases hl : ltOf cf d[m]! d[h]! with
      | false =>
        have HL := Lib.hid hl
        clear hl
        obtain ⟨x, hx⟩ : ∃ x, x = d[m]! := ⟨_, rfl⟩
        obtain ⟨y, hy⟩ : ∃ y, y = d[h]! := ⟨_, rfl⟩
        have la := HS.out.ld R (HZ.out.trans HZ0.out.symm) P (m) (by rw [HZ.out]; omega)
        have lb := HS.out.ld R (HZ.out.trans HZ0.out.symm) P (h) (by rw [HZ.out]; omega)
        rw [← hx] at la
        rw [← hy] at lb
        have hc := HS.out.cmp HC.out HZ.out x y
        have hv : ¬ cf x y < 0 := by rw [hx, hy]; exact of_decide_eq_false HL.out
        have hd : decide (cf x y < 0) = false := decide_eq_false hv
        clear hx hy
        go_wp2_with fail
        go_quiet_grown (first | (go_at_fn g; refine Calls.grown_of (hc _ _)))
        have S2 := Lib.hid (HS.out.grown nq osq)
        clear la lb hc hv hd
        generalize grow (wr.drewN nq) osq = w2 at S2 ⊢
        clear nq osq
        go_wp2_with fail
        go_roundg (j - (h + 1))
        case measure => omega
        case rel => exact ⟨h + 1, j, by go_num, rfl, by omega, by omega, hjm, Nat.le_refl _, Lib.hid ⟨.inr (by rw [Nat.add_sub_cancel]; exact HL.out), HI.out.2⟩, S2⟩
      | true =>
        have HL := Lib.hid hl
        clear hl
        obtain ⟨x, hx⟩ : ∃ x, x = d[m]! := ⟨_, rfl⟩
        obtain ⟨y, hy⟩ : ∃ y, y = d[h]! := ⟨_, rfl⟩
        have la := HS.out.ld R (HZ.out.trans HZ0.out.symm) P (m) (by rw [HZ.out]; omega)
        have lb := HS.out.ld R (HZ.out.trans HZ0.out.symm) P (h) (by rw [HZ.out]; omega)
        rw [← hx] at la
        rw [← hy] at lb
        have hc := HS.out.cmp HC.out HZ.out x y
        have hv : cf x y < 0 := by rw [hx, hy]; exact of_decide_eq_true HL.out
        have hd : decide (cf x y < 0) = true := decide_eq_true hv
        clear hx hy
        go_wp2_with fail
        go_quiet_grown (first | (go_at_fn g; refine Calls.grown_of (hc _ _)))
        have S2 := Lib.hid (HS.out.grown nq osq)
        clear la lb hc hv hd
        generalize grow (wr.drewN nq) osq = w2 at S2 ⊢
        clear nq osq
        go_wp2_with fail
        go_roundg (h - i)
        case measure => omega
        case rel => exact ⟨i, h, rfl, rfl, hai, h1, by omega, Nat.le_refl _, Lib.hid ⟨HI.out.1, .inr HL.out⟩, S2⟩
    · obtain rfl : i = j := by omega
      have hltz : ¬ (i : Int) < (i : Int) := by omega
      have HR0 := Lib.hid (show Idx d d (rotI m m (m + 1)) from idx_rot_none d (by omega) (by omega) (.inl rfl))
      go_wp2_with fail
      go_loopg [17] (m - i) (fun kx s17 wr => ∃ (x : Nat) (dk : Array α), s17 = .int .i64 x ∧ i ≤ x ∧ x ≤ m ∧ x - i ≤ kx ∧ Hid (Idx d dk (rotI x m (m + 1))) ∧ Hid (SWK enc k w0 blk off dk wr))
      case atStart => exact ⟨m, d, rfl, hjm, Nat.le_refl _, Nat.le_refl _, HR0, HS⟩
      case round =>
        clear HS HR0
        obtain ⟨x, dk, rfl, hix, hxm, hkx2, HR, HSK⟩ := hrel
        by_cases hlt2 : i < x
        · obtain ⟨xp, rfl⟩ : ∃ xp, x = xp + 1 := ⟨x - 1, by omega⟩
          have hltz2 : (i : Int) < (xp : Int) + 1 := by omega
          have hwp : IntKind.i64.wrap (xp : Int) = (xp : Int) := by rw [IntKind.wrap_i64]; omega
          have jz : (xp : Int) + 1 < (sz : Int) := by omega
          have jz1 : (xp : Int) < (sz : Int) := by omega
          have p0 : (0 : Int) ≤ (xp : Int) + 1 := by omega
          have e0 : ((xp : Int) + 1).toNat = xp + 1 := by omega
          have HN := Lib.hid (show Idx d (swp dk (xp + 1) xp) (rotI xp m (m + 1)) from rot_left HR.out hxm (by rw [HZ.out]; omega))
          have hsk := HR.out.size_eq HZ.out
          have hpd : xp + 1 < dk.size := by omega
          have hqd : xp < dk.size := by omega
          have hd0 : dk.size = d0.size := hsk.trans HZ0.out.symm
          clear hsk HR
          have S3 := Lib.hid (HSK.out.swapped R (xp + 1) (xp) hpd hqd)
          have la := HSK.out.ld1 R hd0 P (xp + 1) hpd
          have lb := HSK.out.ld1 R hd0 P (xp) hqd
          have sa := HSK.out.st1 R hd0 P (xp + 1) hpd dk[xp]!
          have sb := HSK.out.st2 R hd0 P (xp + 1) (xp) hpd hqd dk[xp]! dk[xp + 1]!
          have na : (enc dk[xp + 1]!).length = k := R.hk _
          have nb : (enc dk[xp]!).length = k := R.hk _
          generalize enc dk[xp + 1]! = cP at S3 la sb na
          generalize enc dk[xp]! = cQ at S3 lb sa sb nb
          clear hpd hqd hd0
          go_wp2_with fail
          go_big_region_o
          clear la lb sa sb na nb
          generalize (wr.drew.setCells blk (off + (xp + 1) * k) cQ).setCells blk (off + (xp) * k) cP = w3 at S3 ⊢
          go_wp2_with fail
          go_roundg (xp - i)
          case measure => omega
          case rel => exact ⟨xp, swp dk (xp + 1) xp, by first | rfl | go_num | (congr 1; omega), by omega, by omega, Nat.le_refl _, HN, S3⟩
        · obtain rfl : x = i := by omega
          have hltz2 : ¬ (x : Int) < (x : Int) := by omega
          have HF := Lib.hid (show Merged (ltOf cf) a b d dk by
            have h1 := HM.out
            subst h1
            exact merged_left HO.out HR.out hai hjm (by rw [HZ.out]; omega) HA.out HI.out.1 HI.out.2)
          go_wp2_with fail
          (try simp only [Exit.inBlock, Exit.then])
          refine bodyPost_ret (results_none rfl _ _ _) rfl ?_
          exact ⟨rfl, dk, HF.out, HSK.out⟩
end Go.Proofs.Ytcoaneipajadiaa
