/-
  Two parts of a row of binds exchanged, and two turned about, by the library's own text.
-/
import Derived.Test.YtcoaneipajadiaaTyB
namespace Go.Proofs.Ytcoaneipajadiaa
open Go.RowKit Go.Shelf Go.Lib Go.Sort

variable {α : Type} [Inhabited α] {P : Program} {k : Nat} {enc : α → List Value}

set_option maxRecDepth 100000 in
set_option maxHeartbeats 4000000 in
theorem swr_gen (T : TyB P k) (F : P.funcs[(92 : Nat)]? = some Try.f92) (fv : Value) (blk off cap a b n sz : Nat) (d d0 : Array α) (w0 w : World) (R : RowK enc k w0 blk off d0) (S : SWK enc k w0 blk off d w) (hs : d.size = sz) (h0 : d0.size = sz) (hab : a + n ≤ b) (hb : b + n ≤ sz) (hsz : sz ≤ 1000000) :
    Calls P 92 #[.slice (some ⟨blk, off, none⟩) sz cap, .int .i64 a, .int .i64 b, .int .i64 n, fv] w fun e w' =>
      e = .returned (.tuple #[]) ∧ ∃ d', Idx d d' (swrI a b n) ∧ SWK enc k w0 blk off d' w' := by
  have HS0 := Lib.hid S
  have HZ := Lib.hid hs
  have HZ0 := Lib.hid h0
  have HI0 := Lib.hid (show Idx d d (swrI a b 0) from idx_refl d fun x _ => by unfold swrI; rw [if_neg (by omega), if_neg (by omega)])
  clear S hs h0
  have mixed := T.mixed; have t0 := T.t0; have a0 := T.a0; have z0 := T.z0; have v0 := T.v0; have t3 := T.t3; have a3 := T.a3; have z3 := T.z3; have v3 := T.v3; have t4 := T.t4; have a4 := T.a4; have z4 := T.z4; have v4 := T.v4; have t22 := T.t22; have a22 := T.a22; have z22 := T.z22; have v22 := T.v22; have t53 := T.t53; have a53 := T.a53; have z53 := T.z53; have v53 := T.v53; have aE := T.aE; have zE := T.zE
  have u22 := run_underlying T.t22
  go_enter F, Try.ntmps92
  go_wp2
  go_loopg [10] n (fun kx s10 wr => ∃ (i : Nat) (dk : Array α), s10 = .int .i64 i ∧ i ≤ n ∧ n - i ≤ kx ∧ Hid (Idx d dk (swrI a b i)) ∧ Hid (SWK enc k w0 blk off dk wr))
  case atStart => exact ⟨0, d, rfl, Nat.zero_le _, by omega, HI0, HS0⟩
  case round =>
    clear HS0
    obtain ⟨i, dk, rfl, hi, hkx, HI, HS⟩ := hrel
    by_cases hlt : i < n
    · have hdk : dk.size = sz := HI.out.1.trans HZ.out
      obtain ⟨p, hp⟩ : ∃ p, p = a + i := ⟨_, rfl⟩
      obtain ⟨q, hq⟩ : ∃ q, q = b + i := ⟨_, rfl⟩
      have hltz : (i : Int) < (n : Int) := by omega
      have rp : IntKind.i64.wrap ((a : Int) + (i : Int)) = (p : Int) := by rw [IntKind.wrap_i64]; omega
      have rq : IntKind.i64.wrap ((b : Int) + (i : Int)) = (q : Int) := by rw [IntKind.wrap_i64]; omega
      have pp : (0 : Int) ≤ (p : Int) := by omega
      have pq : (0 : Int) ≤ (q : Int) := by omega
      have bp : (p : Int) < (sz : Int) := by omega
      have bq : (q : Int) < (sz : Int) := by omega
      have hpd : p < dk.size := by omega
      have hqd : q < dk.size := by omega
      have hd0 : dk.size = d0.size := hdk.trans HZ0.out.symm
      have HN := Lib.hid (show Idx d (swp dk p q) (swrI a b (i + 1)) by rw [hp, hq]; exact swr_step HI.out hlt hab (by rw [HZ.out]; exact hb))
      have S2 := Lib.hid (HS.out.swapped R p q hpd hqd)
      have la := HS.out.ld1 R hd0 P p hpd
      have lb := HS.out.ld1 R hd0 P q hqd
      have sa := HS.out.st1 R hd0 P p hpd dk[q]!
      have sb := HS.out.st2 R hd0 P p q hpd hqd dk[q]! dk[p]!
      have na : (enc dk[p]!).length = k := R.hk _
      have nb : (enc dk[q]!).length = k := R.hk _
      generalize enc dk[p]! = cP at S2 la sb na
      generalize enc dk[q]! = cQ at S2 lb sa sb nb
      clear HS HI hdk hpd hqd hd0 hp hq
      go_wp2_with fail
      go_big_region_o
      clear la lb sa sb
      generalize (wr.drew.setCells blk (off + p * k) cQ).setCells blk (off + q * k) cP = w2 at S2 ⊢
      go_wp2
      go_roundg (n - (i + 1))
      case measure => omega
      case rel => exact ⟨i + 1, swp dk p q, by go_num, by omega, Nat.le_refl _, HN, S2⟩
    · obtain rfl : i = n := by omega
      go_wp2
      go_end0
      exact ⟨rfl, dk, HI.out, HS.out⟩
end Go.Proofs.Ytcoaneipajadiaa
