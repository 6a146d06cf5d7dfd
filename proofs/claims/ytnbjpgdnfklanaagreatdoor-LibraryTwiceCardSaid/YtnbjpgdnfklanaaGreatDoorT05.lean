/-
  The primitives as data: their texts, read as the grammar reads them. No function of the program.
  Slices that read as lists of whole numbers: places. Nothing of the program's functions.
  What reads so in one memory and reads so in another; memory with one block out of sight. No function of the program.
  What stands at a place, as data; the zero term; what a call leaves that answers a term, or none. No function of the program.
  Boxes of four cells that are written, and what stands at a place in parts. Nothing of the program's functions.
  Rows of terms that the call itself has made: their cells, stores into them, and rows in memory as values. No function of the program.
  Terms that a call has made, and where they stand on: what the call was handed, and the blocks that it has made itself. No function of the program.
  A shell: what Frsh has, beside the walk of All.
-/
import Derived.Test.YtnbjpgdnfklanaaGreatDoorT04
import Derived.Test.YtnbjpgdnfklanaaGreatDoorT02
import Derived.Test.YtnbjpgdnfklanaaGreatDoorT01
namespace Go.Proofs.YtnbjpgdnfklanaaGreatDoor
open Go.RowKit
def nmPair : ByteArray := ⟨#[112, 97, 105, 114]⟩
def txPair : ByteArray := ⟨#[102, 117, 110, 32, 112, 97, 105, 114, 47, 50, 46, 32, 102, 117, 110, 32, 102, 115, 116, 47, 49, 46, 32, 102, 117, 110, 32, 115, 110, 100, 47, 49, 46, 32, 114, 117, 108, 101, 32, 102, 115, 116, 40, 112, 97, 105, 114, 40, 88, 44, 32, 89, 41, 41, 32, 61, 32, 88, 46, 32, 114, 117, 108, 101, 32, 115, 110, 100, 40, 112, 97, 105, 114, 40, 88, 44, 32, 89, 41, 41, 32, 61, 32, 89, 46]⟩
def nmSenc : ByteArray := ⟨#[115, 101, 110, 99]⟩
def txSenc : ByteArray := ⟨#[102, 117, 110, 32, 115, 101, 110, 99, 47, 50, 46, 32, 102, 117, 110, 32, 115, 100, 101, 99, 47, 50, 46, 32, 114, 117, 108, 101, 32, 115, 100, 101, 99, 40, 115, 101, 110, 99, 40, 88, 44, 32, 75, 41, 44, 32, 75, 41, 32, 61, 32, 88, 46]⟩
def nmRenc : ByteArray := ⟨#[114, 101, 110, 99]⟩
def txRenc : ByteArray := ⟨#[102, 117, 110, 32, 114, 101, 110, 99, 47, 51, 46, 32, 102, 117, 110, 32, 114, 100, 101, 99, 47, 50, 46, 32, 114, 117, 108, 101, 32, 114, 100, 101, 99, 40, 114, 101, 110, 99, 40, 88, 44, 32, 82, 44, 32, 75, 41, 44, 32, 75, 41, 32, 61, 32, 88, 46]⟩
def nmAenc : ByteArray := ⟨#[97, 101, 110, 99]⟩
def txAenc : ByteArray := ⟨#[102, 117, 110, 32, 97, 101, 110, 99, 47, 50, 46, 32, 102, 117, 110, 32, 97, 100, 101, 99, 47, 50, 46, 32, 102, 117, 110, 32, 112, 107, 47, 49, 46, 32, 114, 117, 108, 101, 32, 97, 100, 101, 99, 40, 97, 101, 110, 99, 40, 88, 44, 32, 112, 107, 40, 75, 41, 41, 44, 32, 75, 41, 32, 61, 32, 88, 46]⟩
def nmRaenc : ByteArray := ⟨#[114, 97, 101, 110, 99]⟩
def txRaenc : ByteArray := ⟨#[102, 117, 110, 32, 114, 97, 101, 110, 99, 47, 51, 46, 32, 102, 117, 110, 32, 114, 97, 100, 101, 99, 47, 50, 46, 32, 102, 117, 110, 32, 112, 107, 47, 49, 46, 32, 114, 117, 108, 101, 32, 114, 97, 100, 101, 99, 40, 114, 97, 101, 110, 99, 40, 88, 44, 32, 82, 44, 32, 112, 107, 40, 75, 41, 41, 44, 32, 75, 41, 32, 61, 32, 88, 46]⟩
def nmSign : ByteArray := ⟨#[115, 105, 103, 110]⟩
def txSign : ByteArray := ⟨#[102, 117, 110, 32, 115, 105, 103, 110, 47, 50, 46, 32, 102, 117, 110, 32, 99, 104, 101, 99, 107, 47, 50, 46, 32, 102, 117, 110, 32, 111, 112, 101, 110, 47, 49, 46, 32, 102, 117, 110, 32, 118, 107, 47, 49, 46, 32, 102, 117, 110, 32, 111, 107, 47, 48, 46, 32, 114, 117, 108, 101, 32, 99, 104, 101, 99, 107, 40, 115, 105, 103, 110, 40, 88, 44, 32, 75, 41, 44, 32, 118, 107, 40, 75, 41, 41, 32, 61, 32, 111, 107, 46, 32, 114, 117, 108, 101, 32, 111, 112, 101, 110, 40, 115, 105, 103, 110, 40, 88, 44, 32, 75, 41, 41, 32, 61, 32, 88, 46]⟩
def nmHash : ByteArray := ⟨#[104, 97, 115, 104]⟩
def txHash : ByteArray := ⟨#[102, 117, 110, 32, 104, 97, 115, 104, 47, 49, 46, 32, 102, 117, 110, 32, 109, 97, 99, 47, 50, 46]⟩
def nmBlind : ByteArray := ⟨#[98, 108, 105, 110, 100]⟩
def txBlind : ByteArray := ⟨#[102, 117, 110, 32, 98, 108, 105, 110, 100, 47, 50, 46, 32, 102, 117, 110, 32, 117, 110, 98, 108, 105, 110, 100, 47, 50, 46, 32, 102, 117, 110, 32, 98, 115, 105, 103, 110, 47, 50, 46, 32, 102, 117, 110, 32, 98, 111, 112, 101, 110, 47, 49, 46, 32, 114, 117, 108, 101, 32, 117, 110, 98, 108, 105, 110, 100, 40, 98, 108, 105, 110, 100, 40, 88, 44, 32, 89, 41, 44, 32, 89, 41, 32, 61, 32, 88, 46, 32, 114, 117, 108, 101, 32, 98, 111, 112, 101, 110, 40, 98, 115, 105, 103, 110, 40, 88, 44, 32, 75, 41, 41, 32, 61, 32, 88, 46]⟩
def nmWrap : ByteArray := ⟨#[119, 114, 97, 112]⟩
def txWrap : ByteArray := ⟨#[102, 117, 110, 32, 119, 114, 97, 112, 47, 50, 46, 32, 102, 117, 110, 32, 117, 110, 119, 114, 97, 112, 47, 50, 46, 32, 102, 117, 110, 32, 112, 114, 111, 98, 101, 47, 50, 46, 32, 102, 117, 110, 32, 121, 101, 115, 47, 48, 46, 32, 114, 117, 108, 101, 32, 117, 110, 119, 114, 97, 112, 40, 119, 114, 97, 112, 40, 88, 44, 32, 75, 41, 44, 32, 75, 41, 32, 61, 32, 88, 46, 32, 114, 117, 108, 101, 32, 112, 114, 111, 98, 101, 40, 119, 114, 97, 112, 40, 88, 44, 32, 75, 41, 44, 32, 75, 41, 32, 61, 32, 121, 101, 115, 46]⟩
def libN : List ByteArray := [nmPair, nmSenc, nmRenc, nmAenc, nmRaenc, nmSign, nmHash, nmBlind, nmWrap]
def libT (s : ByteArray) : ByteArray :=
  if (s.toList == nmPair.toList) = true then txPair
  else if (s.toList == nmSenc.toList) = true then txSenc
  else if (s.toList == nmRenc.toList) = true then txRenc
  else if (s.toList == nmAenc.toList) = true then txAenc
  else if (s.toList == nmRaenc.toList) = true then txRaenc
  else if (s.toList == nmSign.toList) = true then txSign
  else if (s.toList == nmHash.toList) = true then txHash
  else if (s.toList == nmBlind.toList) = true then txBlind
  else if (s.toList == nmWrap.toList) = true then txWrap
  else ⟨#[]⟩
def itemF (xs : List It) : List Fn := xs.filterMap fun x => if (x.key.toList == (⟨#[102, 117, 110]⟩ : ByteArray).toList) = true then some ((x.words.headD default).text, (x.words.tail.headD default).n) else none
def itemR (xs : List It) : List Rl := xs.filterMap fun x => if (x.key.toList == (⟨#[102, 117, 110]⟩ : ByteArray).toList) = true then none else some (plainR (x.trees.headD default), plainR (x.trees.tail.headD default))
def fsPair : List Fn := [(⟨#[112, 97, 105, 114]⟩, 2), (⟨#[102, 115, 116]⟩, 1), (⟨#[115, 110, 100]⟩, 1)]
def rsPair : List Rl := [(.mk 5 ⟨#[102, 115, 116]⟩ 0 [.mk 5 ⟨#[112, 97, 105, 114]⟩ 0 [.mk 1 ⟨#[88]⟩ 0 [], .mk 1 ⟨#[89]⟩ 0 []]], .mk 1 ⟨#[88]⟩ 0 []), (.mk 5 ⟨#[115, 110, 100]⟩ 0 [.mk 5 ⟨#[112, 97, 105, 114]⟩ 0 [.mk 1 ⟨#[88]⟩ 0 [], .mk 1 ⟨#[89]⟩ 0 []]], .mk 1 ⟨#[89]⟩ 0 [])]
theorem fsPair_is : (parseS txPair).1 = 0 ∧ itemF (parseS txPair).2.2 = fsPair ∧ itemR (parseS txPair).2.2 = rsPair := ⟨by kernel_rfl, by kernel_rfl, by kernel_rfl⟩
def fsSenc : List Fn := [(⟨#[115, 101, 110, 99]⟩, 2), (⟨#[115, 100, 101, 99]⟩, 2)]
def rsSenc : List Rl := [(.mk 5 ⟨#[115, 100, 101, 99]⟩ 0 [.mk 5 ⟨#[115, 101, 110, 99]⟩ 0 [.mk 1 ⟨#[88]⟩ 0 [], .mk 1 ⟨#[75]⟩ 0 []], .mk 1 ⟨#[75]⟩ 0 []], .mk 1 ⟨#[88]⟩ 0 [])]
theorem fsSenc_is : (parseS txSenc).1 = 0 ∧ itemF (parseS txSenc).2.2 = fsSenc ∧ itemR (parseS txSenc).2.2 = rsSenc := ⟨by kernel_rfl, by kernel_rfl, by kernel_rfl⟩
def fsRenc : List Fn := [(⟨#[114, 101, 110, 99]⟩, 3), (⟨#[114, 100, 101, 99]⟩, 2)]
def rsRenc : List Rl := [(.mk 5 ⟨#[114, 100, 101, 99]⟩ 0 [.mk 5 ⟨#[114, 101, 110, 99]⟩ 0 [.mk 1 ⟨#[88]⟩ 0 [], .mk 1 ⟨#[82]⟩ 0 [], .mk 1 ⟨#[75]⟩ 0 []], .mk 1 ⟨#[75]⟩ 0 []], .mk 1 ⟨#[88]⟩ 0 [])]
theorem fsRenc_is : (parseS txRenc).1 = 0 ∧ itemF (parseS txRenc).2.2 = fsRenc ∧ itemR (parseS txRenc).2.2 = rsRenc := ⟨by kernel_rfl, by kernel_rfl, by kernel_rfl⟩
def fsAenc : List Fn := [(⟨#[97, 101, 110, 99]⟩, 2), (⟨#[97, 100, 101, 99]⟩, 2), (⟨#[112, 107]⟩, 1)]
def rsAenc : List Rl := [(.mk 5 ⟨#[97, 100, 101, 99]⟩ 0 [.mk 5 ⟨#[97, 101, 110, 99]⟩ 0 [.mk 1 ⟨#[88]⟩ 0 [], .mk 5 ⟨#[112, 107]⟩ 0 [.mk 1 ⟨#[75]⟩ 0 []]], .mk 1 ⟨#[75]⟩ 0 []], .mk 1 ⟨#[88]⟩ 0 [])]
theorem fsAenc_is : (parseS txAenc).1 = 0 ∧ itemF (parseS txAenc).2.2 = fsAenc ∧ itemR (parseS txAenc).2.2 = rsAenc := ⟨by kernel_rfl, by kernel_rfl, by kernel_rfl⟩
def fsRaenc : List Fn := [(⟨#[114, 97, 101, 110, 99]⟩, 3), (⟨#[114, 97, 100, 101, 99]⟩, 2), (⟨#[112, 107]⟩, 1)]
def rsRaenc : List Rl := [(.mk 5 ⟨#[114, 97, 100, 101, 99]⟩ 0 [.mk 5 ⟨#[114, 97, 101, 110, 99]⟩ 0 [.mk 1 ⟨#[88]⟩ 0 [], .mk 1 ⟨#[82]⟩ 0 [], .mk 5 ⟨#[112, 107]⟩ 0 [.mk 1 ⟨#[75]⟩ 0 []]], .mk 1 ⟨#[75]⟩ 0 []], .mk 1 ⟨#[88]⟩ 0 [])]
theorem fsRaenc_is : (parseS txRaenc).1 = 0 ∧ itemF (parseS txRaenc).2.2 = fsRaenc ∧ itemR (parseS txRaenc).2.2 = rsRaenc := ⟨by kernel_rfl, by kernel_rfl, by kernel_rfl⟩
def fsSign : List Fn := [(⟨#[115, 105, 103, 110]⟩, 2), (⟨#[99, 104, 101, 99, 107]⟩, 2), (⟨#[111, 112, 101, 110]⟩, 1), (⟨#[118, 107]⟩, 1), (⟨#[111, 107]⟩, 0)]
def rsSign : List Rl := [(.mk 5 ⟨#[99, 104, 101, 99, 107]⟩ 0 [.mk 5 ⟨#[115, 105, 103, 110]⟩ 0 [.mk 1 ⟨#[88]⟩ 0 [], .mk 1 ⟨#[75]⟩ 0 []], .mk 5 ⟨#[118, 107]⟩ 0 [.mk 1 ⟨#[75]⟩ 0 []]], .mk 5 ⟨#[111, 107]⟩ 0 []), (.mk 5 ⟨#[111, 112, 101, 110]⟩ 0 [.mk 5 ⟨#[115, 105, 103, 110]⟩ 0 [.mk 1 ⟨#[88]⟩ 0 [], .mk 1 ⟨#[75]⟩ 0 []]], .mk 1 ⟨#[88]⟩ 0 [])]
theorem fsSign_is : (parseS txSign).1 = 0 ∧ itemF (parseS txSign).2.2 = fsSign ∧ itemR (parseS txSign).2.2 = rsSign := ⟨by kernel_rfl, by kernel_rfl, by kernel_rfl⟩
def fsHash : List Fn := [(⟨#[104, 97, 115, 104]⟩, 1), (⟨#[109, 97, 99]⟩, 2)]
def rsHash : List Rl := []
theorem fsHash_is : (parseS txHash).1 = 0 ∧ itemF (parseS txHash).2.2 = fsHash ∧ itemR (parseS txHash).2.2 = rsHash := ⟨by kernel_rfl, by kernel_rfl, by kernel_rfl⟩
def fsBlind : List Fn := [(⟨#[98, 108, 105, 110, 100]⟩, 2), (⟨#[117, 110, 98, 108, 105, 110, 100]⟩, 2), (⟨#[98, 115, 105, 103, 110]⟩, 2), (⟨#[98, 111, 112, 101, 110]⟩, 1)]
def rsBlind : List Rl := [(.mk 5 ⟨#[117, 110, 98, 108, 105, 110, 100]⟩ 0 [.mk 5 ⟨#[98, 108, 105, 110, 100]⟩ 0 [.mk 1 ⟨#[88]⟩ 0 [], .mk 1 ⟨#[89]⟩ 0 []], .mk 1 ⟨#[89]⟩ 0 []], .mk 1 ⟨#[88]⟩ 0 []), (.mk 5 ⟨#[98, 111, 112, 101, 110]⟩ 0 [.mk 5 ⟨#[98, 115, 105, 103, 110]⟩ 0 [.mk 1 ⟨#[88]⟩ 0 [], .mk 1 ⟨#[75]⟩ 0 []]], .mk 1 ⟨#[88]⟩ 0 [])]
theorem fsBlind_is : (parseS txBlind).1 = 0 ∧ itemF (parseS txBlind).2.2 = fsBlind ∧ itemR (parseS txBlind).2.2 = rsBlind := ⟨by kernel_rfl, by kernel_rfl, by kernel_rfl⟩
def fsWrap : List Fn := [(⟨#[119, 114, 97, 112]⟩, 2), (⟨#[117, 110, 119, 114, 97, 112]⟩, 2), (⟨#[112, 114, 111, 98, 101]⟩, 2), (⟨#[121, 101, 115]⟩, 0)]
def rsWrap : List Rl := [(.mk 5 ⟨#[117, 110, 119, 114, 97, 112]⟩ 0 [.mk 5 ⟨#[119, 114, 97, 112]⟩ 0 [.mk 1 ⟨#[88]⟩ 0 [], .mk 1 ⟨#[75]⟩ 0 []], .mk 1 ⟨#[75]⟩ 0 []], .mk 1 ⟨#[88]⟩ 0 []), (.mk 5 ⟨#[112, 114, 111, 98, 101]⟩ 0 [.mk 5 ⟨#[119, 114, 97, 112]⟩ 0 [.mk 1 ⟨#[88]⟩ 0 [], .mk 1 ⟨#[75]⟩ 0 []], .mk 1 ⟨#[75]⟩ 0 []], .mk 5 ⟨#[121, 101, 115]⟩ 0 [])]
theorem fsWrap_is : (parseS txWrap).1 = 0 ∧ itemF (parseS txWrap).2.2 = fsWrap ∧ itemR (parseS txWrap).2.2 = rsWrap := ⟨by kernel_rfl, by kernel_rfl, by kernel_rfl⟩
end Go.Proofs.YtnbjpgdnfklanaaGreatDoor

namespace Go.Proofs.YtnbjpgdnfklanaaGreatDoor
open Go.RowKit
def Nums (w : World) (v : Value) (ns : List Int) : Prop :=
  ∃ a c, v = .slice a ns.length c ∧ ns.length ≤ c ∧ c ≤ 9223372036854775807 ∧ (∀ n ∈ ns, -9223372036854775808 ≤ n ∧ n ≤ 9223372036854775807) ∧
    (ns = [] ∨ ∃ b off, a = some ⟨b, off, none⟩ ∧ b < w.heap.size ∧ ∀ (j : Nat) n, ns[j]? = some n → w.cell? ⟨b, off + j, none⟩ = some (.int .i64 n))
theorem Nums.below {w w' : World} {v : Value} {ns : List Int} (h : Nums w v ns) (hb : Below w.heap.size w w') : Nums w' v ns := by
  obtain ⟨a, c, hv, hl, hc, hn, h⟩ := h
  refine ⟨a, c, hv, hl, hc, hn, ?_⟩
  rcases h with h | ⟨b, off, ha, hlt, hc⟩
  · exact .inl h
  · exact .inr ⟨b, off, ha, Nat.lt_of_lt_of_le hlt hb.size, fun j n hj => by rw [hb.cell (p := ⟨b, off + j, none⟩) hlt]; exact hc j n hj⟩
theorem nums_tail {w : World} {b off c n : Nat} {i : Int} {r : List Int} (hn : n = r.length + 1) (h : Nums w (.slice (some ⟨b, off, none⟩) n c) (i :: r)) (a : Option Addr) (ha : r ≠ [] → a = some ⟨b, off + 1, none⟩) :
    Nums w (.slice a r.length (c - 1)) r := by
  subst hn
  obtain ⟨a', c', hv, hl, hc, hm, h⟩ := h
  cases hv
  simp only [List.length_cons] at hl
  refine ⟨a, _, rfl, by omega, by omega, fun x hx => hm x (by simp [hx]), ?_⟩
  by_cases hr : r = []
  · exact .inl hr
  · rcases h with h | ⟨b', off', he, hlt, h⟩
    · cases h
    · cases he
      exact .inr ⟨b, off + 1, ha hr, hlt, fun j x hj => by have := h (j + 1) x (by simpa using hj); rw [show off + 1 + j = off + (j + 1) from by omega]; exact this⟩
end Go.Proofs.YtnbjpgdnfklanaaGreatDoor

namespace Go.Proofs.YtnbjpgdnfklanaaGreatDoor
open Go.RowKit
structure Reads (w0 W : World) : Prop where
  size : w0.heap.size ≤ W.heap.size
  cell : ∀ p v, w0.cell? p = some v → W.cell? p = some v
theorem Reads.refl (w : World) : Reads w w := ⟨Nat.le_refl _, fun _ _ h => h⟩
theorem Reads.trans {a b c : World} (h : Reads a b) (k : Reads b c) : Reads a c := ⟨Nat.le_trans h.size k.size, fun p v hv => k.cell p v (h.cell p v hv)⟩
theorem reads_below {w0 W : World} (h : Below w0.heap.size w0 W) : Reads w0 W := ⟨h.size, fun p v hv => by
  rw [h.cell (World.block_lt_of_cell? w0 p hv)]; exact hv⟩
mutual
theorem TmAt.reads {w w' : World} (hb : Reads w w') : ∀ {t : Tm} {b o : Nat}, TmAt w t b o → TmAt w' t b o
  | .mk k s n xs, b, o, h => by
    rw [TmAt] at h ⊢
    obtain ⟨hf, h0, h1, h2, a, c, h3, hl, hr⟩ := h
    refine ⟨hf, hb.cell _ _ h0, hb.cell _ _ h1, hb.cell _ _ h2, a, c, hb.cell _ _ h3, hl, ?_⟩
    rcases hr with hr | ⟨b', o', ha, hb', hr⟩
    · exact .inl hr
    · exact .inr ⟨b', o', ha, Nat.lt_of_lt_of_le hb' hb.size, RowAt.reads hb hr⟩
theorem RowAt.reads {w w' : World} (hb : Reads w w') : ∀ {xs : List Tm} {b o : Nat}, RowAt w xs b o → RowAt w' xs b o
  | [], _, _, _ => by rw [RowAt]; trivial
  | t :: r, b, o, h => by
    rw [RowAt] at h ⊢
    exact ⟨TmAt.reads hb h.1, RowAt.reads hb h.2⟩
end
theorem Args.reads {w w' : World} {a : Option Addr} {c : Nat} {xs : List Tm} (h : Args w a c xs) (hb : Reads w w') : Args w' a c xs := by
  obtain ⟨hl, h⟩ := h
  refine ⟨hl, ?_⟩
  rcases h with h | ⟨b, o, ha, hlt, hr⟩
  · exact .inl h
  · exact .inr ⟨b, o, ha, Nat.lt_of_lt_of_le hlt hb.size, hr.reads hb⟩
theorem Tv.ok.reads {w w' : World} {v : Tv} (h : v.ok w) (hb : Reads w w') : v.ok w' := ⟨h.1, Args.reads h.2 hb⟩
theorem Tms.reads {w w' : World} {v : Value} {ts : List Tm} (h : Tms w v ts) (hb : Reads w w') : Tms w' v ts := by
  obtain ⟨a, c, hv, h⟩ := h
  exact ⟨a, c, hv, h.reads hb⟩
def mask (w : World) (g : Nat) : World := { w with heap := w.heap.setIfInBounds g (.deferred none) }
theorem mask_size (w : World) (g : Nat) : (mask w g).heap.size = w.heap.size := by simp [mask]
theorem mask_other (w : World) {g k : Nat} (h : k ≠ g) : (mask w g).heap[k]? = w.heap[k]? := by
  simp only [mask]
  rw [Array.getElem?_setIfInBounds, if_neg (by omega)]
theorem mask_cell {w : World} {g : Nat} {p : Addr} {v : Value} (h : (mask w g).cell? p = some v) : p.block ≠ g ∧ w.cell? p = some v := by
  have hne : p.block ≠ g := fun e => by
    have hlt := World.block_lt_of_cell? (mask w g) p h
    have : (mask w g).heap[p.block]? = some (.deferred none) := by
      rw [e] at hlt ⊢
      simp only [mask]
      rw [mask_size] at hlt
      rw [Array.getElem?_setIfInBounds_self, if_pos hlt]
    unfold World.cell? at h
    rw [this] at h
    simp at h
  exact ⟨hne, by rw [← World.cell?_of_block (w := w) (w' := mask w g) (a := p) (mask_other w hne)]; exact h⟩
theorem reads_mask {w W : World} {g : Nat} (hs : w.heap.size ≤ W.heap.size) (h : ∀ k, k < w.heap.size → k ≠ g → W.heap[k]? = w.heap[k]?) : Reads (mask w g) W := ⟨by rw [mask_size]; exact hs, fun p v hv => by
  obtain ⟨hne, hc⟩ := mask_cell hv
  rw [World.cell?_of_block (w := w) (w' := W) (a := p) (h p.block (World.block_lt_of_cell? w p hc) hne)]; exact hc⟩
end Go.Proofs.YtnbjpgdnfklanaaGreatDoor

namespace Go.Proofs.YtnbjpgdnfklanaaGreatDoor
open Go.RowKit
def zeroT : Tm := .mk 0 ⟨#[]⟩ 0 []
def zeroV : Tv := ⟨zeroT, none, 0⟩
theorem zeroV_ok (w : World) : zeroV.ok w := by refine ⟨⟨?_, ?_, ?_, ?_, ?_⟩, ?_, .inl rfl⟩ <;> decide
def atT : Tm → List Int → Option Tm
  | t, [] => some t
  | t, i :: r => if h : 0 ≤ i ∧ i < t.args.length then atT (t.args[i.toNat]'(by omega)) r else none
theorem atT_nil (t : Tm) : atT t [] = some t := by rw [atT]
theorem atT_in {t : Tm} {j : Nat} {r : List Int} (h : j < t.args.length) : atT t ((j : Int) :: r) = atT t.args[j] r := by
  rw [atT, dif_pos (by omega)]; simp
theorem atT_out {t : Tm} {i : Int} {r : List Int} (h : ¬ (0 ≤ i ∧ i < t.args.length)) : atT t (i :: r) = none := by rw [atT, dif_neg h]
def AtPost (o : Option Tm) (w0 w : World) (e : Ending) (w' : World) : Prop :=
  ∃ y : Tv, e = .returned (.tuple #[y.val, .bool o.isSome]) ∧ y.t = o.getD zeroT ∧ y.ok w0 ∧ Below w.heap.size w w'
end Go.Proofs.YtnbjpgdnfklanaaGreatDoor
namespace Go.Proofs.YtnbjpgdnfklanaaGreatDoor
open Go.RowKit
theorem cell_aside {W : World} {u : Value} (p q : Addr) (h : q.block ≠ p.block) : (W.setCell p u).cell? q = W.cell? q := World.cell?_of_block (Below.heap_setCell _ _ _ _ h)
theorem frozen_aside {W : World} {u : Value} (p q : Addr) (h : q.block ≠ p.block) : (W.setCell p u).frozen? q = W.frozen? q := World.frozen?_of_block (Below.heap_setCell _ _ _ _ h)
theorem cell_off {W : World} {u : Value} (g i j : Nat) (h : i ≠ j) : (W.setCell ⟨g, i, none⟩ u).cell? ⟨g, j, none⟩ = W.cell? ⟨g, j, none⟩ := World.cell?_setCell_other _ _ _ _ (fun e => h (by cases e; rfl))
theorem Box.sets {w : World} {g : Nat} {x0 x1 x2 x3 : Value} (h : Box w g x0 x1 x2 x3) (y0 y1 y2 y3 : Value) :
    Box ((((w.setCell ⟨g, 0, none⟩ y0).setCell ⟨g, 1, none⟩ y1).setCell ⟨g, 2, none⟩ y2).setCell ⟨g, 3, none⟩ y3) g y0 y1 y2 y3 where
  c0 := by
    rw [cell_off g 3 0 (by decide), cell_off g 2 0 (by decide), cell_off g 1 0 (by decide)]
    exact World.cell?_setCell_same _ _ _ h.c0
  c1 := by
    rw [cell_off g 3 1 (by decide), cell_off g 2 1 (by decide)]
    refine World.cell?_setCell_same (u := x1) _ _ _ ?_
    rw [cell_off g 0 1 (by decide)]; exact h.c1
  c2 := by
    rw [cell_off g 3 2 (by decide)]
    refine World.cell?_setCell_same (u := x2) _ _ _ ?_
    rw [cell_off g 1 2 (by decide), cell_off g 0 2 (by decide)]; exact h.c2
  c3 := by
    refine World.cell?_setCell_same (u := x3) _ _ _ ?_
    rw [cell_off g 2 3 (by decide), cell_off g 1 3 (by decide), cell_off g 0 3 (by decide)]; exact h.c3
  f0 := by simp [h.f0]
  f1 := by simp [h.f1]
  f2 := by simp [h.f2]
  f3 := by simp [h.f3]
theorem Box.aside {w : World} {g : Nat} {x0 x1 x2 x3 : Value} (h : Box w g x0 x1 x2 x3) {p : Addr} (hp : g ≠ p.block) (y : Value) : Box (w.setCell p y) g x0 x1 x2 x3 where
  c0 := (cell_aside p ⟨g, 0, none⟩ hp).trans h.c0
  c1 := (cell_aside p ⟨g, 1, none⟩ hp).trans h.c1
  c2 := (cell_aside p ⟨g, 2, none⟩ hp).trans h.c2
  c3 := (cell_aside p ⟨g, 3, none⟩ hp).trans h.c3
  f0 := (frozen_aside p ⟨g, 0, none⟩ hp).trans h.f0
  f1 := (frozen_aside p ⟨g, 1, none⟩ hp).trans h.f1
  f2 := (frozen_aside p ⟨g, 2, none⟩ hp).trans h.f2
  f3 := (frozen_aside p ⟨g, 3, none⟩ hp).trans h.f3
theorem below_sets {B : Nat} {a w : World} (h : Below B a w) {g : Nat} (hg : B ≤ g) (y0 y1 y2 y3 : Value) : Below B a ((((w.setCell ⟨g, 0, none⟩ y0).setCell ⟨g, 1, none⟩ y1).setCell ⟨g, 2, none⟩ y2).setCell ⟨g, 3, none⟩ y3) :=
  (((h.setCell (p := ⟨g, 0, none⟩) hg _).setCell (p := ⟨g, 1, none⟩) hg _).setCell (p := ⟨g, 2, none⟩) hg _).setCell (p := ⟨g, 3, none⟩) hg _
end Go.Proofs.YtnbjpgdnfklanaaGreatDoor
namespace Go.Proofs.YtnbjpgdnfklanaaGreatDoor
open Go.RowKit
theorem rowAt_vs {w : World} : ∀ {ts : List Tm} {b o : Nat}, RowAt w ts b o → ∃ vs : List Tv, vs.map Tv.t = ts ∧ (∀ x ∈ vs, x.ok w) ∧ ∀ q x, (rowTv vs)[q]? = some x → w.cell? ⟨b, o + q, none⟩ = some x
  | [], _, _, _ => ⟨[], rfl, (fun _ h => by cases h), (fun q x h => by simp [rowTv] at h)⟩
  | t :: r, b, o, h => by
    rw [RowAt] at h
    obtain ⟨u, hu, huk, c0, c1, c2, c3⟩ := tmAt_tv h.1
    obtain ⟨vs, hv, hvk, hc⟩ := rowAt_vs h.2
    refine ⟨u :: vs, by rw [List.map_cons, hu, hv], fun x hx => ?_, fun q x hq => ?_⟩
    · rcases List.mem_cons.1 hx with rfl | hx
      · exact huk
      · exact hvk x hx
    · have e : rowTv (u :: vs) = u.cells ++ rowTv vs := by unfold rowTv; rw [List.flatMap_cons]
      rw [e] at hq
      rcases Nat.lt_or_ge q 4 with h4 | h4
      · rw [List.getElem?_append_left (by simpa [Tv.cells] using h4)] at hq
        rcases (show q = 0 ∨ q = 1 ∨ q = 2 ∨ q = 3 from by omega) with rfl | rfl | rfl | rfl
        all_goals
          simp only [Tv.cells, List.getElem?_cons_zero, List.getElem?_cons_succ, Option.some.injEq] at hq
          subst hq
          assumption
      · rw [List.getElem?_append_right (by simpa [Tv.cells] using h4)] at hq
        have := hc (q - 4) x (by simpa [Tv.cells] using hq)
        rw [show o + 4 + (q - 4) = o + q from by omega] at this
        exact this
theorem addr_row (b o q : Nat) : ((⟨b, o, none⟩ : Addr).add q) = ⟨b, o + q, none⟩ := by
  unfold Addr.add; split
  · next h => subst h; rfl
  · rfl
theorem own_setCell {w : World} {base : Nat} {e : TypeId} {size : Nat} {v : Value} {n : Nat} {xs : List Value} (h : w.ownsRow base e size v n xs) {p : Addr} (hp : p.block < base) (u : Value) : (w.setCell p u).ownsRow base e size v n xs := by
  obtain ⟨hn, h⟩ := h
  refine ⟨hn, ?_⟩
  rcases h with h | ⟨g, cap, cur, rfl, hbb, hg, hr⟩
  · exact .inl h
  · exact .inr ⟨g, cap, cur, rfl, hbb, by rw [Below.heap_setCell _ _ _ _ (by omega)]; exact hg, hr⟩
theorem rowTv_cons (v : Tv) (r : List Tv) : rowTv (v :: r) = v.cells ++ rowTv r := by unfold rowTv; rw [List.flatMap_cons]
theorem rowTv_set (u : Tv) : ∀ (vs : List Tv) (k : Nat), k < vs.length → rowTv (vs.set k u) = ((((rowTv vs).set (k * 4) (.int .i64 u.t.kind)).set (k * 4 + 1) (.string u.t.name)).set (k * 4 + 2) (.int .i64 u.t.n)).set (k * 4 + 3) (.slice u.a u.t.args.length u.c)
  | [], _, h => by simp at h
  | v :: r, 0, _ => by rw [List.set_cons_zero, rowTv_cons, rowTv_cons]; rfl
  | v :: r, k + 1, h => by
    rw [List.set_cons_succ, rowTv_cons, rowTv_cons, rowTv_set u r k (by simpa using h)]
    have e : ∀ (l : List Value) (i : Nat) (x : Value), (v.cells ++ l).set (4 + i) x = v.cells ++ l.set i x := fun l i x => by
      rw [List.set_append_right _ _ (by simp [Tv.cells])]; congr 2; simp [Tv.cells]
    rw [show (k + 1) * 4 = 4 + k * 4 from by omega, show 4 + k * 4 + 1 = 4 + (k * 4 + 1) from by omega, show 4 + k * 4 + 2 = 4 + (k * 4 + 2) from by omega, show 4 + k * 4 + 3 = 4 + (k * 4 + 3) from by omega, e, e, e, e]
theorem heap_setCell_same {w : World} {g o : Nat} {cur : Array Value} {e : TypeId} {fr : Nat × Nat} (h : w.heap[g]? = some (.cells cur e fr)) (x : Value) : (w.setCell ⟨g, o, none⟩ x).heap[g]? = some (.cells (cur.setIfInBounds o x) e fr) := by
  simp [World.setCell, Array.getElem?_modify, h]
theorem own_put {w : World} {base : Nat} {e : TypeId} {g n cap : Nat} {vs : List Tv} (h : w.ownsRow base e 4 (.slice (some ⟨g, 0, none⟩) n cap) n (rowTv vs)) (u : Tv) (k : Nat) (hk : k < vs.length) :
    ((((w.setCell ⟨g, k * 4, none⟩ (.int .i64 u.t.kind)).setCell ⟨g, k * 4 + 1, none⟩ (.string u.t.name)).setCell ⟨g, k * 4 + 2, none⟩ (.int .i64 u.t.n)).setCell ⟨g, k * 4 + 3, none⟩ (.slice u.a u.t.args.length u.c)).ownsRow base e 4 (.slice (some ⟨g, 0, none⟩) n cap) n (rowTv (vs.set k u)) := by
  obtain ⟨hn, ⟨h, _⟩ | ⟨g', cap', cur, hv, hb, hgc, h1, h2, h3, hgt⟩⟩ := h
  · cases h
  · cases hv
    refine ⟨by rw [rowTv_length, List.length_set, ← rowTv_length]; exact hn, .inr ⟨g, cap, _, rfl, hb, heap_setCell_same (heap_setCell_same (heap_setCell_same (heap_setCell_same hgc _) _) _) _, h1, h2, by simpa using h3, ?_⟩⟩
    rw [rowTv_set u vs k hk, ← hgt]
    simp only [Array.toList_setIfInBounds, List.take_set]
end Go.Proofs.YtnbjpgdnfklanaaGreatDoor
namespace Go.Proofs.YtnbjpgdnfklanaaGreatDoor
open Go.RowKit
def Fresh (w0 w w' : World) (y : Tv) : Prop := ∀ W, Reads w0 W → w'.heap.size ≤ W.heap.size → (∀ b, w.heap.size ≤ b → b < w'.heap.size → W.heap[b]? = w'.heap[b]?) → y.ok W
theorem Fresh.ok {w0 w w' : World} {y : Tv} (h : Fresh w0 w w' y) (hb : Below w0.heap.size w0 w') : y.ok w' := h w' (reads_below hb) (Nat.le_refl _) (fun _ _ _ => rfl)
theorem fresh_old {w0 w w' : World} {y : Tv} (h : y.ok w0) : Fresh w0 w w' y := fun _ hb _ _ => h.reads hb
theorem own_where {w W : World} {base : Nat} {e : TypeId} {size : Nat} {v : Value} {n : Nat} {xs : List Value} (h : w.ownsRow base e size v n xs) (hb : ∀ b, base ≤ b → b < w.heap.size → W.heap[b]? = w.heap[b]?) : W.ownsRow base e size v n xs := by
  obtain ⟨hn, h⟩ := h
  refine ⟨hn, ?_⟩
  rcases h with h | ⟨g, cap, cur, rfl, hbb, hg, hr⟩
  · exact .inl h
  · exact .inr ⟨g, cap, cur, rfl, hbb, by rw [hb g hbb (Array.getElem?_eq_some_iff.1 hg).1]; exact hg, hr⟩
theorem fresh_row {w0 w wf : World} {a : Option Addr} {cap n : Nat} {vs : List Tv} {k : Int} {s : ByteArray} {nn : Int} {ts : List Tm} (hown : wf.ownsRow w.heap.size 50 4 (.slice a n cap) n (rowTv vs)) (hn : ts.length = n) (hvs : vs.map Tv.t = ts) (hfit : Fit k s nn) (hlen : n ≤ 9223372036854775807)
    (hok : ∀ W, Reads w0 W → wf.heap.size ≤ W.heap.size → (∀ b, w.heap.size ≤ b → b < wf.heap.size → W.heap[b]? = wf.heap[b]?) → ∀ v ∈ vs, v.ok W) : Fresh w0 w wf ⟨.mk k s nn ts, a, cap⟩ := fun W hb hs hag => by
  subst hn
  have h1 : OwnTv W W w.heap.size (.slice a ts.length cap) ts := ⟨vs, hvs, hok W hb hs hag, own_where hown hag⟩
  obtain ⟨a', c', e, hA⟩ := h1.tms (Below.refl _ _) hlen
  obtain ⟨rfl, rfl⟩ : a = a' ∧ cap = c' := by cases e; exact ⟨rfl, rfl⟩
  exact ⟨hfit, hA⟩
theorem map_set_t (vs : List Tv) (j : Nat) (u : Tv) : (vs.set j u).map Tv.t = (vs.map Tv.t).set j u.t := by rw [List.map_set]
def Beside (w0 w wr : World) (o : Value) (y : Tv) : Prop := ∀ W, Reads w0 W → wr.heap.size ≤ W.heap.size → (∀ b, w.heap.size ≤ b → b < wr.heap.size → some b ≠ o.ownBlock → W.heap[b]? = wr.heap[b]?) → y.ok W
theorem Beside.below {w0 w wr w' : World} {o : Value} {y : Tv} (h : Beside w0 w wr o y) (hb : Below wr.heap.size wr w') : Beside w0 w w' o y := fun W h1 h2 h3 =>
  h W h1 (Nat.le_trans hb.size h2) (fun b b1 b2 b3 => by rw [h3 b b1 (Nat.lt_of_lt_of_le b2 hb.size) b3]; exact hb.block b b2)
theorem Beside.grown {w0 w wr w' : World} {o o' : Value} {y : Tv} (h : Beside w0 w wr o y) (hg : wr.grownBy w' o.ownBlock) (hat : o'.ownBlock = o.ownBlock ∨ o'.ownBlock = some wr.heap.size) : Beside w0 w w' o' y := fun W h1 h2 h3 =>
  h W h1 (Nat.le_trans hg.size h2) (fun b b1 b2 b3 => by
    rw [h3 b b1 (Nat.lt_of_lt_of_le b2 hg.size) (by
      rcases hat with e | e
      · rw [e]; exact b3
      · rw [e]; intro he; injection he with he; omega)]
    exact hg.block b b2 b3)
theorem beside_old {w0 w wr : World} {o : Value} {y : Tv} (h : y.ok w0) : Beside w0 w wr o y := fun _ hb _ _ => h.reads hb
theorem beside_fresh {w0 w ws wr : World} {o : Value} {y : Tv} (h : Fresh w0 ws wr y) (hs : w.heap.size ≤ ws.heap.size) (ho : ∀ g, o.ownBlock = some g → g < ws.heap.size) : Beside w0 w wr o y := fun W h1 h2 h3 =>
  h W h1 h2 (fun b b1 b2 => h3 b (by omega) b2 (fun e => by have := ho b e.symm; omega))
end Go.Proofs.YtnbjpgdnfklanaaGreatDoor


