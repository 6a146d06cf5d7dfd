/-
  Single stores of a bind into a row that is being turned, and its end cleared. No function of the program.
-/
import Derived.Test.YtcoaneipajadiaaTyB
namespace Go.Proofs.Ytcoaneipajadiaa
open Go.RowKit Go.Shelf Go.Lib Go.Sort
variable {α : Type} [Inhabited α] {P : Program} {k : Nat} {enc : α → List Value} {w0 W : World} {blk off : Nat} {d d0 : Array α}

theorem setMany_set (hk : ∀ x, (enc x).length = k) (d : Array α) (i : Nat) (x : α) (hi : i < d.size) : setMany (flatK enc k d) (i * k) (enc x) = flatK enc k (d.setIfInBounds i x) := by
  refine ext_get! (by simp) fun t ht => ?_
  have ht' : t < d.size * k := by simpa using ht
  have k0 : 0 < k := by rcases Nat.eq_zero_or_pos k with h | h; · subst h; simp at ht'
                        · exact h
  rw [get_setMany _ _ _ t (by simpa using ht'), get_flatK _ _ _ t ht', get_flatK _ _ _ t (by rw [Array.size_setIfInBounds]; exact ht'), hk]
  have htd : t / k < d.size := (Nat.div_lt_iff_lt_mul k0).2 ht'
  by_cases b : t / k = i
  · rw [if_pos ((blk_iff k i t k0).2 b)]
    subst b
    rw [getElem!_pos _ (t / k) (by simpa using hi), Array.getElem_setIfInBounds_self]
    rw [Nat.mod_eq_sub_div_mul]
  · rw [if_neg (fun h => b ((blk_iff k i t k0).1 h)), getElem!_pos (d.setIfInBounds i x) (t / k) (by simpa using htd), Array.getElem_setIfInBounds_ne (by simpa using htd) (fun h => b h.symm), getElem!_pos d _ htd]
theorem swk_set (h : SWK enc k w0 blk off d W) (hk : ∀ x, (enc x).length = k) (hblk : blk < w0.heap.size) (i : Nat) (hi : i < d.size) (x : α) : SWK enc k w0 blk off (d.setIfInBounds i x) (W.setCells blk (off + i * k) (enc x)) := by
  obtain ⟨n, os, rfl⟩ := h
  refine ⟨n, os, ?_⟩
  unfold sortWorldK putRowK
  rw [setCells_grow os blk _ _ _ (by simpa [putRow, mapBlock, Sort.ahead] using hblk), setCells_putRow _ _ _ _ _ _ (by rw [hk, size_flatK]; exact rowK_bnd d k i hi), setMany_set hk d i x hi]
theorem swk_st (h : SWK enc k w0 blk off d W) (R : RowK enc k w0 blk off d0) (hs : d.size = d0.size) (P : Program) (i : Nat) (hi : i < d.size) (y : α) :
    Sem.run P (storeCells ⟨blk, off + i * k, none⟩ (enc y) 0) W = .ok () (W.setCells blk (off + i * k) (enc y)) :=
  stores_of_holds P (h.holds R.hblk R.hH hs) (i * k) _ (by rw [R.hk, size_flatK]; exact rowK_bnd d k i hi) (R.h1 _)
/-- d with all from q on laid anew. -/
def endZ (d : Array α) (q : Nat) (z : α) : Array α := (Array.range d.size).map fun i => if i < q then d[i]! else z
theorem size_endZ (d : Array α) (q : Nat) (z : α) : (endZ d q z).size = d.size := by simp [endZ]
theorem get_endZ (d : Array α) (q : Nat) (z : α) (i : Nat) (hi : i < d.size) : (endZ d q z)[i]! = if i < q then d[i]! else z := by
  rw [getElem!_pos _ i (by rw [size_endZ]; exact hi)]; simp [endZ]
theorem setMany_end (hk : ∀ x, (enc x).length = k) (d : Array α) (q : Nat) (z : α) (hq : q ≤ d.size) : setMany (flatK enc k d) (q * k) (flatK enc k (Array.replicate (d.size - q) z)).toList = flatK enc k (endZ d q z) := by
  refine ext_get! (by simp [size_endZ]) fun t ht => ?_
  have ht' : t < d.size * k := by simpa using ht
  have k0 : 0 < k := by rcases Nat.eq_zero_or_pos k with h | h; · subst h; simp at ht'
                        · exact h
  have htd : t / k < d.size := (Nat.div_lt_iff_lt_mul k0).2 ht'
  have hlen : (flatK enc k (Array.replicate (d.size - q) z)).toList.length = (d.size - q) * k := by simp
  have hsum : q * k + (d.size - q) * k = d.size * k := by rw [← Nat.add_mul]; congr 1; omega
  rw [get_setMany _ _ _ t (by simpa using ht'), get_flatK _ _ _ t ht', get_flatK _ _ _ t (by rw [size_endZ]; exact ht'), get_endZ _ _ _ _ htd, hlen, hsum]
  by_cases b : t / k < q
  · have : t < q * k := (Nat.div_lt_iff_lt_mul k0).1 b
    rw [if_neg (by omega), if_pos b]
  · have h1 : q * k ≤ t := by
      rcases Nat.lt_or_ge t (q * k) with h | h
      · exact absurd ((Nat.div_lt_iff_lt_mul k0).2 h) b
      · exact h
    rw [if_pos ⟨h1, ht'⟩, if_neg b]
    have hlt : t - q * k < (d.size - q) * k := by omega
    have e := get_flatK enc k (Array.replicate (d.size - q) z) (t - q * k) (by simpa using hlt)
    have hz : (Array.replicate (d.size - q) z)[(t - q * k) / k]! = z := by
      rw [getElem!_pos _ _ (by simpa using (Nat.div_lt_iff_lt_mul k0).2 hlt)]; simp
    rw [hz, show (t - q * k) % k = t % k by rw [Nat.mul_comm q k]; exact Nat.sub_mul_mod (by rw [Nat.mul_comm]; exact h1)] at e
    rw [← e]
    rw [getElem!_pos (flatK enc k (Array.replicate (d.size - q) z)) _ (by simpa using hlt), getElem!_pos (flatK enc k (Array.replicate (d.size - q) z)).toList _ (by rw [hlen]; exact hlt)]
    simp
theorem swk_ended (h : SWK enc k w0 blk off d W) (hk : ∀ x, (enc x).length = k) (hblk : blk < w0.heap.size) (q : Nat) (hq : q ≤ d.size) (z : α) : SWK enc k w0 blk off (endZ d q z) (W.setCells blk (off + q * k) (flatK enc k (Array.replicate (d.size - q) z)).toList) := by
  obtain ⟨n, os, rfl⟩ := h
  refine ⟨n, os, ?_⟩
  unfold sortWorldK putRowK
  have hsum : q * k + (d.size - q) * k = d.size * k := by rw [← Nat.add_mul]; congr 1; omega
  rw [setCells_grow os blk _ _ _ (by simpa [putRow, mapBlock, Sort.ahead] using hblk), setCells_putRow _ _ _ _ _ _ (by simp [hsum]), setMany_end hk d q z hq]
/-- The builtin clear over the end of a row. -/
theorem run_clear_k (T : TyB P k) (zv : Value) (z : α) (hz : ∀ w, (zeroValue 50).run P w = .ok zv w) (hc : Value.cells zv = (enc z).toArray) (h : SWK enc k w0 blk off d W) (R : RowK enc k w0 blk off d0) (hs : d.size = d0.size) (q c : Nat) (hq : q < d.size) (ty : TypeId) :
    (Builtin.clear_ #[22] ty #[.slice (some ⟨blk, off + q * k, none⟩) (d.size - q) c]).run P W = .ok (.tuple #[]) (W.setCells blk (off + q * k) (flatK enc k (Array.replicate (d.size - q) z)).toList) := by
  have hsum : q * k + (d.size - q) * k = d.size * k := by rw [← Nat.add_mul]; congr 1; omega
  have e : Builtin.zeroCells (Value.cells zv) (d.size - q) = flatK enc k (Array.replicate (d.size - q) z) := by
    rw [hc]
    refine ext_get! (by simp [Builtin.zeroCells, R.hk]) fun t ht => ?_
    have ht' : t < (d.size - q) * k := by simpa [Builtin.zeroCells, R.hk] using ht
    have k0 : 0 < k := by rcases Nat.eq_zero_or_pos k with h | h; · subst h; simp at ht'
                          · exact h
    rw [get_flatK _ _ _ t (by simpa using ht')]
    have hz : (Array.replicate (d.size - q) z)[t / k]! = z := by
      rw [getElem!_pos _ _ (by simpa using (Nat.div_lt_iff_lt_mul k0).2 ht')]; simp
    rw [hz, getElem!_pos _ t (by simpa [Builtin.zeroCells, R.hk] using ht')]
    have hm : t % k < (enc z).length := by rw [R.hk]; exact Nat.mod_lt _ k0
    rw [getElem!_pos (enc z) (t % k) hm]
    simp [Builtin.zeroCells, R.hk]
    rw [List.getElem?_eq_getElem hm]; rfl
  have H := h.holds R.hblk R.hH hs
  have hst := stores_of_holds P H (q * k) (flatK enc k (Array.replicate (d.size - q) z)).toList (by simp [hsum]) (by
    intro v hv
    simp only [flatK, Array.toList_map, List.mem_map] at hv
    obtain ⟨t, ht, rfl⟩ := hv
    have ht' : t < (d.size - q) * k := by simpa using ht
    have k0 : 0 < k := by rcases Nat.eq_zero_or_pos k with h | h; · subst h; simp at ht'
                          · exact h
    have hm : ∀ y : α, t % k < (enc y).length := fun y => by rw [R.hk]; exact Nat.mod_lt _ k0
    generalize (Array.replicate (d.size - q) z)[t / k]! = y
    rw [getElem!_pos (enc y) (t % k) (hm y)]
    exact R.h1 _ _ (List.getElem_mem _))
  obtain ⟨m, hm⟩ : ∃ m, d.size - q = m + 1 := ⟨d.size - q - 1, by omega⟩
  rw [hm] at hst e ⊢
  simp [Builtin.clear_, run_underlying T.t22, hz, e, hst]
end Go.Proofs.Ytcoaneipajadiaa
