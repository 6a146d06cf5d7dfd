/-
  Two sorted parts of a row merged in place, by the library's own text.
-/
import Derived.Test.YtcoaneipajadiaaPSymL
import Derived.Test.YtcoaneipajadiaaPSymH
namespace Go.Proofs.Ytcoaneipajadiaa
open Go.RowKit Go.Shelf Go.Lib Go.Sort
variable {α : Type} [Inhabited α] {P : Program} {k : Nat} {enc : α → List Value}

set_option maxRecDepth 100000 in
set_option maxHeartbeats 8000000 in
theorem sym_gen (T : TyB P k) (Fsym : P.funcs[(68 : Nat)]? = some Try.f68) (Frot : P.funcs[(82 : Nat)]? = some Try.f82) (Fswr : P.funcs[(92 : Nat)]? = some Try.f92) (cf : α → α → Int) (g : Nat) (eg : ∀ args w, (callFunc g args).run P w = .ok (.enter g args) w) (hO : SWO (ltOf cf)) (blk off cap sz : Nat) (d0 : Array α) (w0 : World) (hcmp : CmpLays P g #[] enc k cf blk off sz w0) (R : RowK enc k w0 blk off d0) (h0 : d0.size = sz) (hsz : sz ≤ 1000000) (N : Nat) :
    ∀ (a m b : Nat) (d : Array α) (w : World), b - a ≤ N → a < m → m < b → b ≤ sz → d.size = sz → SWK enc k w0 blk off d w → SortedIn (ltOf cf) a m d → SortedIn (ltOf cf) m b d →
    Calls P 68 #[.slice (some ⟨blk, off, none⟩) sz cap, .int .i64 a, .int .i64 m, .int .i64 b, .func (.func g) #[] #[]] w fun e w' =>
      e = .returned (.tuple #[]) ∧ ∃ d', Merged (ltOf cf) a b d d' ∧ SWK enc k w0 blk off d' w' := by
  induction N with
  | zero => intro a m b d w h1 h2 h3; omega
  | succ N ih =>
    intro a m b d w hN ham hmb hb hs S hA hB
    by_cases c1 : m = a + 1
    · exact sym_one T Fsym Frot Fswr cf g eg hO blk off cap sz d0 w0 hcmp R h0 hsz N ih a m b d w hN ham hmb hb hs S hA hB c1
    · by_cases c2 : b = m + 1
      · exact sym_two T Fsym Frot Fswr cf g eg hO blk off cap sz d0 w0 hcmp R h0 hsz N ih a m b d w hN ham hmb hb hs S hA hB c1 c2
      · by_cases hz : (a + b) / 2 < m
        · exact sym_lo T Fsym Frot Fswr cf g eg hO blk off cap sz d0 w0 hcmp R h0 hsz N ih a m b d w hN ham hmb hb hs S hA hB c1 c2 hz
        · exact sym_hi T Fsym Frot Fswr cf g eg hO blk off cap sz d0 w0 hcmp R h0 hsz N ih a m b d w hN ham hmb hb hs S hA hB c1 c2 (by omega)
end Go.Proofs.Ytcoaneipajadiaa
