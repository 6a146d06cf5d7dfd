/-
  What one element put into its place leaves merged; and the tiles of a sort by merging. No function of the program.
-/
import Derived.Test.YtcoaneipajadiaaStab
namespace Go.Proofs.Ytcoaneipajadiaa
open Go.RowKit Go.Sort
variable {α : Type} [Inhabited α] {lt : α → α → Bool}

theorem merged_right (hS : SWO lt) {d d1 : Array α} {a i b : Nat} (hI : Idx d d1 (rotI a (a + 1) i)) (h1 : a + 1 ≤ i) (h2 : i ≤ b) (h3 : b ≤ d.size) (hB : SortedIn lt (a + 1) b d)
    (H2 : i = a + 1 ∨ lt d[i - 1]! d[a]! = true) (H3 : i = b ∨ lt d[i]! d[a]! = false) : Merged lt a b d d1 := by
  have hA : SortedIn lt a (a + 1) d := fun x y x1 x2 x3 => by omega
  obtain ⟨t1, _, t3, _, t5, t6⟩ := turn_halves hS hI (Nat.le_refl a) (Nat.le_succ a) h1 h2 h3 hA hB (.inl rfl) (by rcases H2 with h | h; exact .inr (.inl h); exact .inr (.inr h))
  refine ⟨t1, sorted_two t3 (sorted_two (m := i) (fun x y x1 x2 x3 => by omega) t5 (fun x y x1 x2 y1 y2 => ?_)) t6⟩
  obtain rfl : x = i - 1 := by omega
  rw [hI.2 (i - 1) (by omega), hI.2 y (by omega)]
  unfold rotI
  rw [if_neg (by omega), if_neg (by omega), if_neg (by omega), if_neg (by omega), if_neg (by omega), if_pos (by omega), show i - 1 - (i - (a + 1)) = a from by omega]
  rcases H3 with H3 | H3
  · omega
  · exact hS.ntrans _ _ _ (sorted_le hS hB h1 y1 y2) H3
theorem merged_left (hS : SWO lt) {d d1 : Array α} {a i m : Nat} (hI : Idx d d1 (rotI i m (m + 1))) (h1 : a ≤ i) (h2 : i ≤ m) (h3 : m < d.size) (hA : SortedIn lt a m d)
    (H1 : i = a ∨ lt d[m]! d[i - 1]! = false) (H2 : i = m ∨ lt d[m]! d[i]! = true) : Merged lt a (m + 1) d d1 := by
  have hB : SortedIn lt m (m + 1) d := fun x y x1 x2 x3 => by omega
  obtain ⟨t1, t2, _, t4, _, t6⟩ := turn_halves hS hI h1 h2 (Nat.le_succ m) (Nat.le_refl _) (by omega) hA hB (.inr (.inl rfl)) (by rcases H2 with h | h; exact .inl h; exact .inr (.inr h))
  refine ⟨t1, sorted_two (sorted_two (m := i) t2 (fun x y x1 x2 x3 => by omega) (fun x y x1 x2 y1 y2 => ?_)) t4 t6⟩
  obtain rfl : y = i := by omega
  rw [hI.2 y (by omega), hI.2 x (by omega)]
  unfold rotI
  rw [if_pos (show x < y by omega), if_neg (by omega), if_pos (by omega), show y + (m - y) = m from by omega]
  rcases H1 with H1 | H1
  · omega
  · exact hS.ntrans _ _ _ H1 (sorted_le hS hA x1 (show x ≤ y - 1 by omega) (by omega))
theorem idx_rot_none (d : Array α) {a m b : Nat} (h1 : a ≤ m) (h2 : m ≤ b) (h : a = m ∨ m = b) : Idx d d (rotI a m b) := idx_refl d fun x _ => by
  unfold rotI; repeat' split
  all_goals omega

/-- Tiles of bs, each sorted: from the one numbered lo on; up to the one numbered hi. -/
def Tiles (lt : α → α → Bool) (bs sz lo : Nat) (d : Array α) : Prop := ∀ q, lo ≤ q → SortedIn lt (q * bs) (min (q * bs + bs) sz) d
def TilesTo (lt : α → α → Bool) (bs sz hi : Nat) (d : Array α) : Prop := ∀ q, q < hi → SortedIn lt (q * bs) (min (q * bs + bs) sz) d
theorem tile_next {q hi bs : Nat} (h : q < hi) : q * bs + bs ≤ hi * bs := by
  have := Nat.mul_le_mul_right bs (show q + 1 ≤ hi from h); rwa [Nat.add_mul, Nat.one_mul] at this
theorem tiles_one {d d1 : Array α} {bs sz q : Nat} (h : TilesTo lt bs sz q d) (hm : Merged lt (q * bs) (q * bs + bs) d d1) (hb : q * bs + bs ≤ sz) : TilesTo lt bs sz (q + 1) d1 := fun p hp => by
  by_cases e : p = q
  · subst e; rw [Nat.min_eq_left hb]; exact hm.2
  · have h1 := tile_next (bs := bs) (show p < q by omega)
    exact hm.1.sorted (h p (by omega)) (.inl (by omega))
theorem tiles_all {d d1 : Array α} {bs sz q : Nat} (h : TilesTo lt bs sz q d) (hm : Merged lt (q * bs) sz d d1) (hb : sz < q * bs + bs) : Tiles lt bs sz 0 d1 := fun p _ => by
  rcases Nat.lt_trichotomy p q with e | e | e
  · have h1 := tile_next (bs := bs) e
    exact hm.1.sorted (h p e) (.inl (by omega))
  · subst e; rw [Nat.min_eq_right (by omega)]; exact hm.2
  · have h1 := tile_next (bs := bs) e
    intro x y x1 x2 x3; omega
theorem tiles_rest {d d1 : Array α} {bs sz q : Nat} (h : Tiles lt bs sz (2 * q) d) (hm : Merged lt (q * (2 * bs)) (q * (2 * bs) + 2 * bs) d d1) : Tiles lt bs sz (2 * (q + 1)) d1 := fun p hp => by
  have h1 := Nat.mul_le_mul_right bs hp
  have e : 2 * (q + 1) * bs = q * (2 * bs) + 2 * bs := by rw [Nat.mul_comm 2 (q + 1), Nat.mul_assoc, Nat.add_mul, Nat.one_mul]
  exact hm.1.sorted (h p (by omega)) (.inr (by omega))
theorem tile_fst {d : Array α} {bs sz q : Nat} (h : Tiles lt bs sz (2 * q) d) : SortedIn lt (q * (2 * bs)) (min (q * (2 * bs) + bs) sz) d := by
  have := h (2 * q) (Nat.le_refl _)
  rwa [show 2 * q * bs = q * (2 * bs) by rw [Nat.mul_comm 2 q, Nat.mul_assoc]] at this
theorem tile_snd {d : Array α} {bs sz q : Nat} (h : Tiles lt bs sz (2 * q) d) : SortedIn lt (q * (2 * bs) + bs) (min (q * (2 * bs) + 2 * bs) sz) d := by
  have := h (2 * q + 1) (by omega)
  rw [show (2 * q + 1) * bs = q * (2 * bs) + bs by rw [Nat.add_mul, Nat.one_mul, Nat.mul_comm 2 q, Nat.mul_assoc]] at this
  rwa [show q * (2 * bs) + 2 * bs = q * (2 * bs) + bs + bs by omega]
theorem tiles_whole {d : Array α} {bs sz : Nat} (h : Tiles lt bs sz 0 d) (hb : sz ≤ bs) : SortedIn lt 0 sz d := by
  have := h 0 (Nat.le_refl _)
  rwa [Nat.zero_mul, Nat.zero_add, Nat.min_eq_right hb] at this
end Go.Proofs.Ytcoaneipajadiaa
