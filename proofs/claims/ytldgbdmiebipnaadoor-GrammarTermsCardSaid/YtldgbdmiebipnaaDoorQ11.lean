/-
  Rows of trees, and of items, that read as the same lists are alike in all, by the law's own Trees and Items.
  Any text's items are what the grammar says: the law answers true, from what the program's grammar answers.
  Terms that calls have made live on in whatever leaves their blocks as they are; rows of them that grow. No function of the program.
  The region 'x.f = append(x.f, call(r))': its operations in whatever order; any program, any types, any slots. No function of the program. (printed by tools/genapp.py)
-/
import Derived.Test.YtldgbdmiebipnaaDoorQ03
import Derived.Test.YtldgbdmiebipnaaDoorQ05
import Derived.Deep.RegionHeld3
import Derived.BigQuiet
import Derived.Test.YtldgbdmiebipnaaDoorQ06
import Derived.Test.YtldgbdmiebipnaaDoorQ10
import Derived.Test.YtldgbdmiebipnaaDoorQ04
import Derived.Test.YtldgbdmiebipnaaDoorQ01
namespace Go.Proofs.YtldgbdmiebipnaaDoor
open Go.RowKit

set_option maxRecDepth 100000 in
set_option maxHeartbeats 1000000 in
theorem ltrees_any (m : Nat) : ∀ (va vb : Value) (xs : List Tr) (w : World), partsR xs ≤ m → Trs w va xs → Trs w vb xs →
    Calls Tryd.prog 12 #[va, vb] w fun e w' => e = .returned (.bool true) ∧ ∃ r, w' = w.drewN r := by
  induction m using Nat.strongRecOn with
  | ind m ih =>
    intro va vb xs w hm hx hy
    obtain ⟨a, c, rfl, hal, _, hxo⟩ := hx.open_
    obtain ⟨a', c', rfl, _, _, hyo⟩ := hy.open_
    have IH := Lib.hid (fun (j : Nat) (hj : j < xs.length) (x y : Rv) (W : World) (hxe : x.t = xs[j]) (hye : y.t = xs[j]) (hxk : x.ok W) (hyk : y.ok W) => ih (partsR x.t.args) (by
      have := partsR_get xs hj
      have := trParts_eq xs[j]
      rw [hxe]; omega) (.slice x.a x.t.args.length x.c) (.slice y.a x.t.args.length y.c) x.t.args W (Nat.le_refl _) ⟨x.a, x.c, rfl, hxk.2⟩ ⟨y.a, y.c, rfl, by rw [hxe, ← hye]; exact hyk.2⟩)
    clear ih hm hx hy
    have HXO := Lib.hid hxo
    have HYO := Lib.hid hyo
    clear hxo hyo
    go_enter Tryd.func12, Tryd.ntmps12
    go_wp2_with fail
    go_loopw [13] (fun i wr => ∃ j d : Nat, j ≤ xs.length ∧ i = .int .i64 j ∧ Hid (wr = w.drewN d)) (fun i _ => xs.length - (intOf i).toNat)
    case atStart => exact ⟨0, 0, Nat.zero_le _, rfl, Lib.hid rfl⟩
    case round =>
      obtain ⟨j, d, hj, rfl, HW⟩ := hrel
      have hb : Below w.heap.size w wr := by rw [HW.out]; exact below_drewN (Below.refl _ _) d
      by_cases hj1 : j < xs.length
      · have hi1 : (j : Int) < (xs.length : Int) := by omega
        have hi0 : (0 : Int) ≤ (j : Int) := by omega
        rcases HXO.out with h | ⟨b, o, rfl, hlt, hX⟩
        · rw [h] at hj1; cases hj1
        rcases HYO.out with h | ⟨b', o', rfl, hlt', hY⟩
        · rw [h] at hj1; cases hj1
        obtain ⟨x, hxt, hxk, hxa⟩ := hX j xs[j] (List.getElem?_eq_getElem hj1)
        obtain ⟨y, hyt, hyk, hya⟩ := hY j xs[j] (List.getElem?_eq_getElem hj1)
        have C := Lib.hid (fun (q : Nat) => (IH.out j hj1 x y (wr.drewN q) hxt hyt (hxk.below (below_drewN hb q)) (hyk.below (below_drewN hb q))).mono fun e w' hh => (show e = .returned (.bool true) ∧ ∃ r, w' = wr.drewN r from ⟨hh.1, by obtain ⟨r, hr⟩ := hh.2; exact ⟨q + r, by rw [hr]; simp [World.drewN, Nat.add_assoc]⟩⟩))
        obtain ⟨k0, k1, k2, k3, k4⟩ := hxa.below hb
        obtain ⟨l0, l1, l2, l3, l4⟩ := hya.below hb
        have hxy : y.t = x.t := by rw [hyt, hxt]
        rw [hxy] at l0 l1 l2 l3 l4
        obtain ⟨kx, hkx⟩ : ∃ k, x.t.kind = k := ⟨_, rfl⟩
        obtain ⟨sx, hsx⟩ : ∃ k, x.t.text = k := ⟨_, rfl⟩
        obtain ⟨nx, hnx⟩ : ∃ k, x.t.n = k := ⟨_, rfl⟩
        obtain ⟨px, hpx⟩ : ∃ k, x.t.spot = k := ⟨_, rfl⟩
        obtain ⟨ax, hax⟩ : ∃ k, x.t.args.length = k := ⟨_, rfl⟩
        rw [hax] at C
        rw [hkx] at k0 l0; rw [hsx] at k1 l1; rw [hnx] at k2 l2; rw [hpx] at k3 l3; rw [hax] at k4 l4
        clear hkx hsx hnx hpx hax hX hY hxa hya hxk hyk hxt hyt hxy IH hb
        have q0 : (kx != kx) = false := by simp
        have q2 : (nx != nx) = false := by simp
        have q3 : (px != px) = false := by simp
        go_wp2_with fail
        go_quiet ((go_at_call 12; exact C.out _))
        go_wp2_with fail
        go_roundw
        case rel => exact ⟨j + 1, d + nq, by omega, by go_num, Lib.hid (by rw [HW.out]; simp [World.drewN, Nat.add_assoc])⟩
        case measure => simp [intOf]; omega
      · obtain rfl : j = xs.length := by omega
        go_wp2_with fail
        go_ret
        exact ⟨rfl, d, HW.out⟩

set_option maxRecDepth 100000 in
set_option maxHeartbeats 1600000 in
theorem litems_any (va vb : Value) (xs : List It) (w : World) (hx : Its w va xs) (hy : Its w vb xs) :
    Calls Tryd.prog 9 #[va, vb] w fun e w' => e = .returned (.bool true) ∧ ∃ r, w' = w.drewN r := by
  obtain ⟨a, c, rfl, ⟨hal, _⟩, hxo⟩ := hx
  obtain ⟨a', c', rfl, _, hyo⟩ := hy
  have HXO := Lib.hid hxo
  have HYO := Lib.hid hyo
  clear hxo hyo
  go_enter Tryd.func9, Tryd.ntmps9
  go_wp2_with fail
  go_loopw [13] (fun i wr => ∃ j d : Nat, j ≤ xs.length ∧ i = .int .i64 j ∧ Hid (wr = w.drewN d)) (fun i _ => xs.length - (intOf i).toNat)
  case atStart => exact ⟨0, 0, Nat.zero_le _, rfl, Lib.hid rfl⟩
  case round =>
    obtain ⟨j, d, hj, rfl, HW⟩ := hrel
    have hb : Below w.heap.size w wr := by rw [HW.out]; exact below_drewN (Below.refl _ _) d
    by_cases hj1 : j < xs.length
    · have hi1 : (j : Int) < (xs.length : Int) := by omega
      have hi0 : (0 : Int) ≤ (j : Int) := by omega
      rcases HXO.out with h | ⟨b, o, rfl, hlt, hX⟩
      · rw [h] at hj1; cases hj1
      rcases HYO.out with h | ⟨b', o', rfl, hlt', hY⟩
      · rw [h] at hj1; cases hj1
      obtain ⟨x, hxt, hxk, hxa⟩ := hX j hj1
      obtain ⟨y, hyt, hyk, hya⟩ := hY j hj1
      have hxy : y.it = x.it := by rw [hyt, hxt]
      have C := fun (q : Nat) (u v : Value) (ts : List Tr) (h1 : Trs w u ts) (h2 : Trs w v ts) => (ltrees_any _ u v ts (wr.drewN q) (Nat.le_refl _) (h1.below (below_drewN hb q)) (h2.below (below_drewN hb q))).mono fun e w' hh => (show e = .returned (.bool true) ∧ ∃ r, w' = wr.drewN r from ⟨hh.1, by obtain ⟨r, hr⟩ := hh.2; exact ⟨q + r, by rw [hr]; simp [World.drewN, Nat.add_assoc]⟩⟩)
      have CW := Lib.hid (fun q => C q x.vw y.vw x.it.words hxk.words (by rw [← hxy]; exact hyk.words))
      have CT := Lib.hid (fun q => C q x.vt y.vt x.it.trees hxk.trees (by rw [← hxy]; exact hyk.trees))
      obtain ⟨k0, k1, k2, k3⟩ := hxa.below hb
      obtain ⟨l0, l1, l2, l3⟩ := hya.below hb
      rw [hxy] at l0 l1
      obtain ⟨ux, cx, e1, _⟩ := hxk.words
      obtain ⟨uy, cy, e2, _⟩ := hyk.words
      obtain ⟨tx, dx, e3, _⟩ := hxk.trees
      obtain ⟨ty, dy, e4, _⟩ := hyk.trees
      rw [hxy] at e2 e4
      rw [e1] at k2 CW; rw [e2] at l2 CW; rw [e3] at k3 CT; rw [e4] at l3 CT
      obtain ⟨kx, hkx⟩ : ∃ k, x.it.key = k := ⟨_, rfl⟩
      obtain ⟨px, hpx⟩ : ∃ k, x.it.spot = k := ⟨_, rfl⟩
      obtain ⟨wx, hwx⟩ : ∃ k, x.it.words.length = k := ⟨_, rfl⟩
      obtain ⟨rx, hrx⟩ : ∃ k, x.it.trees.length = k := ⟨_, rfl⟩
      rw [hwx] at CW
      rw [hrx] at CT
      rw [hkx] at k0 l0; rw [hpx] at k1 l1; rw [hwx] at k2 l2; rw [hrx] at k3 l3
      clear hkx hpx hwx hrx hX hY hxa hya hxk hyk hxt hyt hxy hb C e1 e2 e3 e4
      have q1 : (px != px) = false := by simp
      go_wp2_with fail
      go_quiet ((go_at_call 12; first | with_reducible exact CW.out _ | with_reducible exact CT.out _))
      go_wp2_with fail
      go_roundw
      case rel => exact ⟨j + 1, d + nq, by omega, by go_num, Lib.hid (by rw [HW.out]; simp [World.drewN, Nat.add_assoc])⟩
      case measure => simp [intOf]; omega
    · obtain rfl : j = xs.length := by omega
      go_wp2_with fail
      go_ret
      exact ⟨rfl, d, HW.out⟩
end Go.Proofs.YtldgbdmiebipnaaDoor

namespace Go.Proofs.YtldgbdmiebipnaaDoor
open Go.RowKit

set_option maxRecDepth 100000 in
set_option maxHeartbeats 1000000 in
theorem lawParses11_of (w : World) (I : GramA w) (s : ByteArray) :
    Calls Tryd.prog 3 #[.string s] w fun e w' => e = .returned (.bool true) ∧ Below w.heap.size w w' := by
  have AW := Lib.hid (awake11_of w I w (Below.refl _ _))
  rcases Int.lt_or_le 9000 (s.size : Int) with hs | hs
  · have hd : decide ((9000 : Int) < (s.size : Int)) = true := decide_eq_true hs
    clear I
    go_enter Tryd.func3, Tryd.ntmps3
    go_wp2_with fail
    refine AW.out.mono ?_; rintro e w1 ⟨rfl, hb1⟩
    go_wp2_with fail
    go_ret
    exact ⟨rfl, hb1⟩
  · have hd : decide ((9000 : Int) < (s.size : Int)) = false := decide_eq_false (by omega)
    have PP := Lib.hid (fun (W : World) (h : Below w.heap.size w W) => I.parse s W h (by omega))
    have PR := Lib.hid (fun (W : World) => rparse_any s (by omega) W)
    unfold ParsePost at PR
    obtain ⟨⟨e0, e1, xs⟩, hx⟩ : ∃ x, parseS s = x := ⟨_, rfl⟩
    have hbd := parseS_bd s
    rw [hx] at PP PR hbd
    simp only at PP PR hbd
    obtain ⟨hbd0, hbd1⟩ := hbd
    clear I hx
    go_enter Tryd.func3, Tryd.ntmps3
    go_wp2_with fail
    refine AW.out.mono ?_; rintro e w1 ⟨rfl, hb1⟩
    go_wp2_with fail
    refine (PP.out _ hb1).mono ?_; rintro e w2 ⟨v, rfl, hv, hb2⟩
    have hB2 := below_next hb1 hb2
    have HB2 := Lib.hid hB2
    clear hb1 hb2 hB2
    go_wp2_with fail
    have hb3 := (Below.refl w2.heap.size w2).alloc (Nat.le_refl _) (.cells #[.int .i64 e0, .int .i64 e1] 26)
    have HV3 := Lib.hid (hv.below hb3)
    have HB3 := Lib.hid (HB2.out.trans (hb3.mono HB2.out.size))
    have hsz3 : (w2.alloc (.cells #[.int .i64 e0, .int .i64 e1] 26)).heap.size = w2.heap.size + 1 := by simp
    have c0 := World.cell?_alloc_mark w2 #[.int .i64 e0, .int .i64 e1] 26 (0, 0) 0
    have c1 := World.cell?_alloc_mark w2 #[.int .i64 e0, .int .i64 e1] 26 (0, 0) 1
    obtain ⟨w3, hw3⟩ : ∃ w3, w3 = w2.alloc (.cells #[.int .i64 e0, .int .i64 e1] 26) := ⟨_, rfl⟩
    rw [← hw3] at HV3 HB3 hsz3 ⊢
    have c0' : w3.cell? ⟨w2.heap.size, 0, none⟩ = some (.int .i64 e0) := by rw [hw3]; exact c0
    have c1' : w3.cell? ⟨w2.heap.size, 1, none⟩ = some (.int .i64 e1) := by rw [hw3]; exact c1
    clear hb3 hw3 c0 c1 hv
    refine (PR.out _).mono ?_; rintro e w4 ⟨u, rfl, hu, hb4⟩
    have k0 := (hb4.cell (p := ⟨w2.heap.size, 0, none⟩) (by show w2.heap.size < _; omega)).trans c0'
    have k1 := (hb4.cell (p := ⟨w2.heap.size, 1, none⟩) (by show w2.heap.size < _; omega)).trans c1'
    have IT := Lib.hid (litems_any v u xs w4 (HV3.out.below hb4) hu)
    have HB4 := Lib.hid (below_next HB3.out hb4)
    have q0 : (e0 == e0) = true := by simp
    have q1 : (e1 == e1) = true := by simp
    clear hb4 hu c0' c1' hsz3
    go_wp2_with fail
    refine IT.out.mono ?_; rintro e w5 ⟨rfl, r, rfl⟩
    go_wp2_with fail
    go_ret
    exact ⟨rfl, below_drewN HB4.out r⟩
end Go.Proofs.YtldgbdmiebipnaaDoor

namespace Go.Proofs.YtldgbdmiebipnaaDoor
open Go.RowKit

/-- What a call from w to w' has made reads so wherever its blocks stand. -/
def MadeT (w w' : World) (y : Tv) : Prop := ∀ W', w'.heap.size ≤ W'.heap.size → (∀ k, w.heap.size ≤ k → k < w'.heap.size → W'.heap[k]? = w'.heap[k]?) → y.ok W'
theorem MadeT.ok {w w' : World} {y : Tv} (h : MadeT w w' y) : y.ok w' := h w' (Nat.le_refl _) fun _ _ _ => rfl
theorem MadeT.wide {u w w' W : World} {y : Tv} (h : MadeT w w' y) (h1 : u.heap.size ≤ w.heap.size) (h2 : w'.heap.size ≤ W.heap.size) (h3 : ∀ k, w.heap.size ≤ k → k < w'.heap.size → W.heap[k]? = w'.heap[k]?) : MadeT u W y := fun W' g1 g2 =>
  h W' (Nat.le_trans h2 g1) fun k k1 k2 => (g2 k (Nat.le_trans h1 k1) (Nat.lt_of_lt_of_le k2 h2)).trans (h3 k k1 k2)
/-- A term without arguments lives anywhere. -/
theorem tv_plain {k : Int} {s : ByteArray} {n : Int} (h : Fit k s n) (w w' : World) : MadeT w w' ⟨.mk k s n [], none, 0⟩ := fun _ _ _ => ⟨h, by show (0 : Nat) ≤ _ ∧ (0 : Nat) ≤ 0; omega, .inl rfl⟩
/-- A term in a row that grows: its blocks lie from base on, and the row's block g is none of them. -/
def LiveT (W : World) (g : Option Nat) (base : Nat) (y : Tv) : Prop := ∃ lo hi, base ≤ lo ∧ lo ≤ hi ∧ hi ≤ W.heap.size ∧ (∀ k, g = some k → k < lo ∨ hi ≤ k) ∧
  ∀ W', hi ≤ W'.heap.size → (∀ k, lo ≤ k → k < hi → W'.heap[k]? = W.heap[k]?) → y.ok W'
theorem LiveT.ok {W : World} {g : Option Nat} {base : Nat} {y : Tv} (h : LiveT W g base y) : y.ok W := by
  obtain ⟨lo, hi, _, _, h3, _, h5⟩ := h
  exact h5 W h3 fun _ _ _ => rfl
theorem MadeT.live {w w' : World} {y : Tv} (h : MadeT w w' y) (hs : w.heap.size ≤ w'.heap.size) {g : Option Nat} {base : Nat} (hb : base ≤ w.heap.size) (hg : ∀ k, g = some k → k < w.heap.size ∨ w'.heap.size ≤ k) : LiveT w' g base y :=
  ⟨w.heap.size, w'.heap.size, hb, hs, Nat.le_refl _, hg, h⟩
theorem LiveT.keep {W W' : World} {g g' : Option Nat} {base : Nat} {y : Tv} (h : LiveT W g base y) (hs : W.heap.size ≤ W'.heap.size) (hk : ∀ k, base ≤ k → k < W.heap.size → some k ≠ g → W'.heap[k]? = W.heap[k]?) (hg : ∀ k, g' = some k → g = some k ∨ W.heap.size ≤ k) : LiveT W' g' base y := by
  obtain ⟨lo, hi, h1, h2, h3, h4, h5⟩ := h
  refine ⟨lo, hi, h1, h2, Nat.le_trans h3 hs, fun k e => ?_, fun W2 g1 g2 => h5 W2 g1 fun k k1 k2 => ?_⟩
  · rcases hg k e with e | e
    · exact h4 k e
    · exact .inr (Nat.le_trans h3 e)
  · rw [g2 k k1 k2]
    refine hk k (Nat.le_trans h1 k1) (Nat.lt_of_lt_of_le k2 h3) fun e => ?_
    rcases h4 k e.symm with e | e <;> omega
theorem LiveT.grown {W W' : World} {g g' : Option Nat} {base : Nat} {y : Tv} (h : LiveT W g base y) (hg : W.grownBy W' g) (hat : g' = g ∨ g' = some W.heap.size) : LiveT W' g' base y := h.keep hg.size (fun k _ hk e => hg.block k hk e) fun k e => by
  rcases hat with e2 | e2
  · left; rw [← e2]; exact e
  · right; rw [e2] at e; injection e with e; omega
/-- A row of terms that grows. -/
structure RowT (W : World) (base : Nat) (v : Value) (ts : List Tm) : Prop where
  row : ∃ vs : List Tv, vs.map Tv.t = ts ∧ (∀ x ∈ vs, LiveT W v.ownBlock base x) ∧ W.ownsRow base 48 4 v ts.length (rowTv vs)
theorem rowT_nil (W : World) (base : Nat) : RowT W base (.slice none 0 0) [] := ⟨[], rfl, (fun x hx => by cases hx), World.ownsRow_nil _ _ _ _⟩
theorem RowT.keep {W W' : World} {base : Nat} {v : Value} {ts : List Tm} (h : RowT W base v ts) (hs : W.heap.size ≤ W'.heap.size) (hk : ∀ k, base ≤ k → k < W.heap.size → W'.heap[k]? = W.heap[k]?) : RowT W' base v ts := by
  obtain ⟨vs, h1, h2, h3⟩ := h
  exact ⟨vs, h1, fun x hx => (h2 x hx).keep hs (fun k q1 q2 _ => hk k q1 q2) (fun k e => .inl e), own_at h3 fun q e => hk q (own_row_ge h3 q e) (own_row_lt h3 q e)⟩
theorem RowT.below {W W' : World} {base : Nat} {v : Value} {ts : List Tm} (h : RowT W base v ts) (hb : Below W.heap.size W W') : RowT W' base v ts := h.keep hb.size fun k _ hk => hb.block k hk
/-- One term more. -/
theorem RowT.snoc {W W' : World} {base : Nat} {v v' : Value} {ts : List Tm} {vs : List Tv} {y : Tv} (h1 : vs.map Tv.t = ts) (h2 : ∀ x ∈ vs, LiveT W v.ownBlock base x) (hy : LiveT W v.ownBlock base y)
    (hown : W'.ownsRow base 48 4 v' (ts.length + 1) (rowTv vs ++ y.cells)) (hg : W.grownBy W' v.ownBlock) (hat : v'.ownBlock = v.ownBlock ∨ v'.ownBlock = some W.heap.size) : RowT W' base v' (ts ++ [y.t]) := by
  refine ⟨vs ++ [y], by rw [List.map_append, h1]; rfl, fun x hx => ?_, ?_⟩
  · rcases List.mem_append.1 hx with hx | hx
    · exact (h2 x hx).grown hg hat
    · rw [List.mem_singleton] at hx; rw [hx]; exact hy.grown hg hat
  · rw [List.length_append, rowTv_append, rowTv_one]; exact hown
/-- A term over such a row is made by the call that began at base. -/
theorem RowT.made {w W : World} {base : Nat} {a : Option Addr} {m c : Nat} {ts : List Tm} {k : Int} {s : ByteArray} {n : Int} (h : RowT W base (.slice a m c) ts) (hfit : Fit k s n) (hb : w.heap.size ≤ base) (hl : ts.length ≤ 9223372036854775807) : MadeT w W ⟨.mk k s n ts, a, c⟩ := fun W' g1 g2 => by
  obtain ⟨vs, h1, h2, h3⟩ := h
  have hlive : ∀ x ∈ vs, x.ok W' := fun x hx => by
    obtain ⟨lo, hi, k1, _, k3, _, k5⟩ := h2 x hx
    exact k5 W' (Nat.le_trans k3 g1) fun q q1 q2 => g2 q (by omega) (by omega)
  have hown := own_at (w' := W') h3 fun q e => g2 q (Nat.le_trans hb (own_row_ge h3 q e)) (own_row_lt h3 q e)
  subst h1
  obtain ⟨hn, ⟨hv, h0⟩ | ⟨g, cap, cur, hv, _, hg, hcap, hmax, hsz, htake⟩⟩ := hown
  · have : vs = [] := by simpa using h0
    subst this
    cases hv
    exact ⟨hfit, by show (0 : Nat) ≤ _ ∧ (0 : Nat) ≤ 0; omega, .inl rfl⟩
  · cases hv
    have hrow : RowAt W' (vs.map Tv.t) g 0 := rowAt_of fun {j} hj => by
      have hjv : j < vs.length := by simpa using hj
      rw [List.getElem_map]
      have cell : ∀ i, i < 4 → W'.cell? ⟨g, 0 + j * 4 + i, none⟩ = vs[j].cells[i]? := by
        intro i hi
        rw [cell_of_row W' g (0 + j * 4 + i) cur _ (0, 0) hg, ← rowTv_get vs j hjv i hi, ← htake, List.getElem?_take, if_pos (by simp; omega), Nat.zero_add]
        simp
      exact tv_tmAt (hlive _ (List.getElem_mem hjv)) ⟨cell 0 (by omega), cell 1 (by omega), cell 2 (by omega), cell 3 (by omega)⟩
    exact ⟨hfit, ⟨hl, hcap⟩, .inr ⟨g, 0, rfl, (Array.getElem?_eq_some_iff.1 hg).1, hrow⟩⟩
end Go.Proofs.YtldgbdmiebipnaaDoor

namespace Go.Proofs.YtldgbdmiebipnaaDoor
open Go.RowKit

/-! What a slot holds behind another slot's value. -/
theorem eval_put_ne {A : Act} {s t : Nat} {v : Value} (h : s ≠ t) : (A.put (some s) v).eval (.tmp t) = A.eval (.tmp t) := by
  show (A.tmps.setIfInBounds s v).getD t undef = A.tmps.getD t undef
  simp only [Array.getD_eq_getD_getElem?]
  rw [Array.getElem?_setIfInBounds_ne h]
theorem eval_put_eq {A : Act} {s : Nat} {v : Value} (h : s < A.tmps.size) : (A.put (some s) v).eval (.tmp s) = v := by
  show (A.tmps.setIfInBounds s v).getD s undef = v
  simp [Array.getD_eq_getD_getElem?, h]
theorem size_put (A : Act) (s : Nat) (v : Value) : (A.put (some s) v).tmps.size = A.tmps.size := by simp [Act.put]
theorem put_comm' {A : Act} {s t : Nat} (v u : Value) (h : s ≠ t) : (A.put (some s) v).put (some t) u = (A.put (some t) u).put (some s) v := Act.put_comm A v u fun d e q => by
  cases e; cases q; exact h rfl

/-! What an operation runs to. -/
section
variable {P : Program} {A : Act} {o : Oper} {w w' : World} {T R ty tr : TypeId} {x y : Operand} {fld : Nat} {u v q : Value}
theorem exec_field (ho : o.op = .fieldAddr T x fld) (hx : A.eval x = v) (h : (Instr.fieldAt T v fld).run P w = .ok u w') : (execOp A.eval o).run P w = .ok (.value u) w' := by
  unfold execOp; simp only [ho, hx]; simp [h, Result.andThen]
theorem exec_load (ho : o.op = .load R x) (hx : A.eval x = v) (h : (Instr.loadAt R v).run P w = .ok u w') : (execOp A.eval o).run P w = .ok (.value u) w' := by
  unfold execOp; simp only [ho, hx]; simp [h, Result.andThen]
theorem exec_move (ho : o.op = .move x) (hx : A.eval x = v) : (execOp A.eval o).run P w = .ok (.value v) w := by
  unfold execOp; simp only [ho, hx]; simp
theorem exec_store (ho : o.op = .store R x y) (hx : A.eval x = v) (hy : A.eval y = u) (h : (Instr.storeAt R v u).run P w = .ok () w') : (execOp A.eval o).run P w = .ok .skip w' := by
  unfold execOp; simp only [ho, hx, hy]; simp [h, Result.andThen]
theorem exec_slice1 (ho : o.op = .buildSlice R 1 #[(0, x)]) (hx : A.eval x = v) (h : (Instr.buildSlice R 1 #[(0, v)]).run P w = .ok u w') : (execOp A.eval o).run P w = .ok (.value u) w' := by
  unfold execOp; simp only [ho]; simp [hx, h, Result.andThen]
theorem exec_append (ho : o.op = .call { callee := .builtin .append, args := #[x, y], argTypes := #[R, R] }) (hx : A.eval x = v) (hy : A.eval y = u) (h : (Builtin.append_ #[R, R] o.type #[v, u]).run P w = .ok q w') : (execOp A.eval o).run P w = .ok (.value q) w' := by
  unfold execOp; simp only [ho]; simp [resolve, invoke, builtin, hx, hy, h, Result.andThen]
theorem exec_fn1 {f : FuncId} (hc : (callFunc f #[v]).run P w = .ok (.enter f #[v]) w) (ho : o.op = .call { callee := .value (.func f), args := #[x], argTypes := #[tr] }) (hx : A.eval x = v) : (execOp A.eval o).run P w = .ok (.enter f #[v]) w := by
  have e : A.eval (.func f) = .func (.func f) #[] #[] := rfl
  unfold execOp; simp only [ho]; simp [resolve, invoke, hx, e, Deferred.ofValue, hc]
end

/-! One operation of a region. -/
section
variable {P : Program} {ops : Array Oper} {o : Oper} {A : Act} {K : Act → World → Prop} {Q : Exit → Act → World → Prop} {E : Prop} {w w' : World}
theorem step_val {v : Value} (hg : o.guard = none) (hr : (execOp A.eval o).run P w = .ok (.value v) w') (h : K (A.put o.dst v) w') : if Region.wanted o (yielded ops A.tmps) = true then Oper.wp P o A w K Q else E := by
  rw [if_pos (by simp [Region.wanted, hg])]
  unfold Oper.wp; rw [hr]; exact h
theorem step_none (hg : o.guard = none) (hd : o.dst = none) (hr : (execOp A.eval o).run P w = .ok .skip w') (h : K A w') : if Region.wanted o (yielded ops A.tmps) = true then Oper.wp P o A w K Q else E := by
  rw [if_pos (by simp [Region.wanted, hg])]
  unfold Oper.wp; rw [hr, Oper.upon_skip, hd]; exact h
theorem step_fn {f : FuncId} {args : Array Value} (hg : o.guard = none) (hr : (execOp A.eval o).run P w = .ok (.enter f args) w) (h : Calls P f args w fun e w' => match e with
    | .returned v => K (A.put o.dst v) w'
    | .panicked chain => Q (.panic chain) A w'
    | .outgrown => LetsOut Q) : if Region.wanted o (yielded ops A.tmps) = true then Oper.wp P o A w K Q else E := by
  rw [if_pos (by simp [Region.wanted, hg])]
  unfold Oper.wp; rw [hr, Oper.upon_enter]
  refine h.mono fun e w2 he => ?_
  cases e <;> exact he
end

/-- What a call that has answered y in w1 leaves to be done: a row of y alone, the append, the store. -/
def AppAfter (P : Program) (Q : Exit → Act → World → Prop) (R : TypeId) (p : Addr) (v0 : Value) (fin : Value → Value → Act) (y : Value) (w1 : World) : Prop :=
  w1.cell? p = some v0 ∧ ∃ sl wB, (Instr.buildSlice R 1 #[(0, y)]).run P w1 = .ok sl wB ∧ wB.cell? p = some v0 ∧
    ∃ v1 w2, (Builtin.append_ #[R, R] R #[v0, sl]).run P wB = .ok v1 w2 ∧ ∃ w3, (Instr.storeAt R (.pointer (some p)) v1).run P w2 = .ok () w3 ∧ Q .normal (fin sl v1) w3

set_option maxRecDepth 100000 in
set_option maxHeartbeats 4000000 in
theorem app_region {P : Program} (hm : P.follows .mixedOrders = true) {Q : Exit → Act → World → Prop} {id : Nat} {T R E tr : TypeId} {f : FuncId} {fld s0 s1 s2 s3 s4 s5 s6 x r : Nat} {p0 p1 p2 p3 p4 p5 p6 p7 : String} {a : Act} {w : World}
    (bx : Nat) (p : Addr) (rv v0 : Value) (N : Nat) (hN : a.tmps.size = N) (hlt : s0 < N ∧ s1 < N ∧ s2 < N ∧ s3 < N ∧ s4 < N ∧ s5 < N ∧ s6 < N) (hnd : [x, r, s0, s1, s2, s3, s4, s5, s6].Nodup)
    (hx : a.eval (.tmp x) = .pointer (some ⟨bx, 0, none⟩)) (hr : a.eval (.tmp r) = rv)
    (HF : ∀ w, (Instr.fieldAt T (.pointer (some ⟨bx, 0, none⟩)) fld).run P w = .ok (.pointer (some p)) w)
    (HL : ∀ w v, w.cell? p = some v → (Instr.loadAt R (.pointer (some p))).run P w = .ok v w)
    (HC : ∀ w, (callFunc f #[rv]).run P w = .ok (.enter f #[rv]) w)
    (h0 : w.drew.cell? p = some v0)
    (HQ : ∀ c (i : Nat) v (A : Act) W, Q (.panic c) A W → Q (.panic c) (A.put (some i) v) W)
    (CALL : Calls P f #[rv] w.drew fun e w1 => match e with
      | .returned y => AppAfter P Q R p v0 (fun sl v1 => ((((((((a.put (some s0) (.pointer (some p))).put (some s1) v0).put (some s2) rv).put (some s3) y).put (some s4) sl).put (some s5) v1).put (some s6) (.pointer (some p))))) y w1
      | .panicked chain => Q (.panic chain) a w1
      | .outgrown => LetsOut Q) :
    Code.wp P (Code.region id #[{ dst := some s0, op := .fieldAddr T (.tmp x) fld, type := 0, pos := p0, after := #[], guard := none },
    { dst := some s1, op := .load R (.tmp s0), type := R, pos := p1, after := #[{ on := 0, ground := Ground.data }], guard := none },
    { dst := some s2, op := .move (.tmp r), type := tr, pos := p2, after := #[], guard := none },
    { dst := some s3, op := .call { callee := .value (.func f), args := #[.tmp s2], argTypes := #[tr] }, type := E, pos := p3, after := #[{ on := 2, ground := Ground.data }], guard := none },
    { dst := some s4, op := .buildSlice R 1 #[(0, .tmp s3)], type := R, pos := p4, after := #[{ on := 3, ground := Ground.data }], guard := none },
    { dst := some s5, op := .call { callee := .builtin .append, args := #[.tmp s1, .tmp s4], argTypes := #[R, R] }, type := R, pos := p5, after := #[{ on := 1, ground := Ground.data }, { on := 4, ground := Ground.data }, { on := 3, ground := Ground.chain }], guard := none },
    { dst := some s6, op := .fieldAddr T (.tmp x) fld, type := 0, pos := p6, after := #[{ on := 0, ground := Ground.phase }, { on := 1, ground := Ground.phase }, { on := 2, ground := Ground.phase }, { on := 3, ground := Ground.phase }, { on := 4, ground := Ground.phase }, { on := 5, ground := Ground.phase }], guard := none },
    { dst := none, op := .store R (.tmp s6) (.tmp s5), type := 0, pos := p7, after := #[{ on := 6, ground := Ground.data }, { on := 5, ground := Ground.data }, { on := 5, ground := Ground.chain }, { on := 0, ground := Ground.phase }, { on := 1, ground := Ground.phase }, { on := 2, ground := Ground.phase }, { on := 3, ground := Ground.phase }, { on := 4, ground := Ground.phase }, { on := 5, ground := Ground.phase }], guard := none }] true) Q a w := by
  obtain ⟨l0, l1, l2, l3, l4, l5, l6⟩ := hlt
  simp only [List.nodup_cons, List.mem_cons, List.not_mem_nil, or_false, not_or, List.nodup_nil, and_true, not_false_eq_true] at hnd
  obtain ⟨⟨_, _, _, _, _, _, _, _⟩, ⟨_, _, _, _, _, _, _⟩, ⟨_, _, _, _, _, _⟩, ⟨_, _, _, _, _⟩, ⟨_, _, _, _⟩, ⟨_, _, _⟩, ⟨_, _⟩, _⟩ := hnd
  obtain ⟨ptr, hptr⟩ : ∃ q : Value, q = .pointer (some p) := ⟨_, rfl⟩
  rw [← hptr] at HF HL CALL
  obtain ⟨OPS, hOPS⟩ : ∃ O : Array Oper, O = #[{ dst := some s0, op := .fieldAddr T (.tmp x) fld, type := 0, pos := p0, after := #[], guard := none },
    { dst := some s1, op := .load R (.tmp s0), type := R, pos := p1, after := #[{ on := 0, ground := Ground.data }], guard := none },
    { dst := some s2, op := .move (.tmp r), type := tr, pos := p2, after := #[], guard := none },
    { dst := some s3, op := .call { callee := .value (.func f), args := #[.tmp s2], argTypes := #[tr] }, type := E, pos := p3, after := #[{ on := 2, ground := Ground.data }], guard := none },
    { dst := some s4, op := .buildSlice R 1 #[(0, .tmp s3)], type := R, pos := p4, after := #[{ on := 3, ground := Ground.data }], guard := none },
    { dst := some s5, op := .call { callee := .builtin .append, args := #[.tmp s1, .tmp s4], argTypes := #[R, R] }, type := R, pos := p5, after := #[{ on := 1, ground := Ground.data }, { on := 4, ground := Ground.data }, { on := 3, ground := Ground.chain }], guard := none },
    { dst := some s6, op := .fieldAddr T (.tmp x) fld, type := 0, pos := p6, after := #[{ on := 0, ground := Ground.phase }, { on := 1, ground := Ground.phase }, { on := 2, ground := Ground.phase }, { on := 3, ground := Ground.phase }, { on := 4, ground := Ground.phase }, { on := 5, ground := Ground.phase }], guard := none },
    { dst := none, op := .store R (.tmp s6) (.tmp s5), type := 0, pos := p7, after := #[{ on := 6, ground := Ground.data }, { on := 5, ground := Ground.data }, { on := 5, ground := Ground.chain }, { on := 0, ground := Ground.phase }, { on := 1, ground := Ground.phase }, { on := 2, ground := Ground.phase }, { on := 3, ground := Ground.phase }, { on := 4, ground := Ground.phase }, { on := 5, ground := Ground.phase }], guard := none }] := ⟨_, rfl⟩
  rw [← hOPS]
  have st7 : ∀ (A : Act) (w2 : World) (v1 : Value) (w3 : World), A.eval (.tmp s6) = ptr → A.eval (.tmp s5) = v1 → (Instr.storeAt R ptr v1).run P w2 = .ok () w3 → Q .normal A w3 → wpAnyH P .any OPS Q (fun _ => True) 1 #[true, true, true, true, true, true, true, false] A w2 := by
    intro A w2 v1 w3 e6 e5 hs hq
    refine wpAnyH_ready (rs := [7]) (by rw [hOPS]; kernel_rfl) (by simp) ?_
    refine AllReadyH.cons (o := { dst := none, op := .store R (.tmp s6) (.tmp s5), type := 0, pos := p7, after := #[{ on := 6, ground := Ground.data }, { on := 5, ground := Ground.data }, { on := 5, ground := Ground.chain }, { on := 0, ground := Ground.phase }, { on := 1, ground := Ground.phase }, { on := 2, ground := Ground.phase }, { on := 3, ground := Ground.phase }, { on := 4, ground := Ground.phase }, { on := 5, ground := Ground.phase }], guard := none }) (by rw [hOPS]; rfl) (fun K hK => ?_) AllReadyH.nil
    refine step_none (w' := w3) rfl rfl (exec_store rfl e6 e5 hs) (hK.out _ _ trivial fun _ => ?_)
    exact wpAnyH_done (by rw [hOPS]; kernel_rfl) hq _
  have st23 : ∀ (y : Value) (sl : Value) (wB : World), wB.cell? p = some v0 → (∃ v1 w2, (Builtin.append_ #[R, R] R #[v0, sl]).run P wB = .ok v1 w2 ∧ ∃ w3, (Instr.storeAt R ptr v1).run P w2 = .ok () w3 ∧ Q .normal ((((((((a.put (some s0) ptr).put (some s1) v0).put (some s2) rv).put (some s3) y).put (some s4) sl).put (some s5) v1).put (some s6) ptr)) w3) → wpAnyH P .any OPS Q (fun _ => True) 3 #[true, true, true, true, true, false, false, false] (((((a.put (some s0) ptr).put (some s1) v0).put (some s2) rv).put (some s3) y).put (some s4) sl) wB := by
    intro y sl wB hc hA
    obtain ⟨v1, w2, ha, w3, hs, hq⟩ := hA
    refine wpAnyH_ready (rs := [5]) (by rw [hOPS]; kernel_rfl) (by simp) ?_
    refine (AllReadyH.cons (o := { dst := some s5, op := .call { callee := .builtin .append, args := #[.tmp s1, .tmp s4], argTypes := #[R, R] }, type := R, pos := p5, after := #[{ on := 1, ground := Ground.data }, { on := 4, ground := Ground.data }, { on := 3, ground := Ground.chain }], guard := none }) (by rw [hOPS]; rfl) (fun K hK => ?_) AllReadyH.nil)
    refine step_val (v := v1) (w' := w2) rfl ?_ (hK.out _ _ trivial fun _ => ?_)
    · exact exec_append rfl ((eval_put_ne (by first | assumption | exact fun e => absurd e.symm (by assumption))).trans ((eval_put_ne (by first | assumption | exact fun e => absurd e.symm (by assumption))).trans ((eval_put_ne (by first | assumption | exact fun e => absurd e.symm (by assumption))).trans (eval_put_eq (by simp only [size_put]; rw [hN]; assumption))))) (eval_put_eq (by simp only [size_put]; rw [hN]; assumption)) ha
    refine wpAnyH_ready (rs := [6]) (by rw [hOPS]; kernel_rfl) (by simp) ?_
    refine (AllReadyH.cons (o := { dst := some s6, op := .fieldAddr T (.tmp x) fld, type := 0, pos := p6, after := #[{ on := 0, ground := Ground.phase }, { on := 1, ground := Ground.phase }, { on := 2, ground := Ground.phase }, { on := 3, ground := Ground.phase }, { on := 4, ground := Ground.phase }, { on := 5, ground := Ground.phase }], guard := none }) (by rw [hOPS]; rfl) (fun K hK => ?_) AllReadyH.nil)
    refine step_val (v := ptr) (w' := w2) rfl ?_ (hK.out _ _ trivial fun _ => ?_)
    · exact exec_field rfl ((eval_put_ne (by first | assumption | exact fun e => absurd e.symm (by assumption))).trans ((eval_put_ne (by first | assumption | exact fun e => absurd e.symm (by assumption))).trans ((eval_put_ne (by first | assumption | exact fun e => absurd e.symm (by assumption))).trans ((eval_put_ne (by first | assumption | exact fun e => absurd e.symm (by assumption))).trans ((eval_put_ne (by first | assumption | exact fun e => absurd e.symm (by assumption))).trans ((eval_put_ne (by first | assumption | exact fun e => absurd e.symm (by assumption))).trans (hx))))))) (HF _)
    exact st7 _ w2 v1 w3 (eval_put_eq (by simp only [size_put]; rw [hN]; assumption)) ((eval_put_ne (by first | assumption | exact fun e => absurd e.symm (by assumption))).trans (eval_put_eq (by simp only [size_put]; rw [hN]; assumption))) hs hq
  have st22 : ∀ (y : Value) (w1 : World), AppAfter P Q R p v0 (fun sl v1 => ((((((((a.put (some s0) ptr).put (some s1) v0).put (some s2) rv).put (some s3) y).put (some s4) sl).put (some s5) v1).put (some s6) ptr))) y w1 → wpAnyH P .any OPS Q (fun _ => True) 4 #[true, true, true, true, false, false, false, false] ((((a.put (some s0) ptr).put (some s1) v0).put (some s2) rv).put (some s3) y) w1 := by
    intro y w1 hA
    refine wpAnyH_ready (rs := [4]) (by rw [hOPS]; kernel_rfl) (by simp) ?_
    refine (AllReadyH.cons (o := { dst := some s4, op := .buildSlice R 1 #[(0, .tmp s3)], type := R, pos := p4, after := #[{ on := 3, ground := Ground.data }], guard := none }) (by rw [hOPS]; rfl) (fun K hK => ?_) AllReadyH.nil)
    · obtain ⟨hc1, sl, wB, hb, hcB, hR⟩ := hA
      refine step_val (v := sl) (w' := wB) rfl ?_ (hK.out _ _ trivial fun _ => st23 y sl wB hcB (by rw [hptr]; rw [hptr] at hR; exact hR))
      exact exec_slice1 rfl (eval_put_eq (by simp only [size_put]; rw [hN]; assumption)) hb
  have st21 : wpAnyH P .any OPS Q (fun _ => True) 5 #[true, true, true, false, false, false, false, false] (((a.put (some s0) ptr).put (some s1) v0).put (some s2) rv) w.drew := by
    refine wpAnyH_ready (rs := [3]) (by rw [hOPS]; kernel_rfl) (by simp) ?_
    refine (AllReadyH.cons (o := { dst := some s3, op := .call { callee := .value (.func f), args := #[.tmp s2], argTypes := #[tr] }, type := E, pos := p3, after := #[{ on := 2, ground := Ground.data }], guard := none }) (by rw [hOPS]; rfl) (fun K hK => ?_) AllReadyH.nil)
    · refine step_fn (f := f) (args := #[rv]) rfl (exec_fn1 (HC _) rfl (eval_put_eq (by simp only [size_put]; rw [hN]; assumption))) (CALL.mono ?_)
      intro e w1 he
      cases e with
      | returned y => exact hK.out _ _ trivial fun _ => st22 y w1 he
      | panicked chain => exact HQ _ _ _ _ _ (HQ _ _ _ _ _ (HQ _ _ _ _ _ (he)))
      | outgrown => exact he
  have st20 : wpAnyH P .any OPS Q (fun _ => True) 6 #[true, true, false, false, false, false, false, false] ((a.put (some s0) ptr).put (some s1) v0) w.drew := by
    refine wpAnyH_ready (rs := [2]) (by rw [hOPS]; kernel_rfl) (by simp) ?_
    refine (AllReadyH.cons (o := { dst := some s2, op := .move (.tmp r), type := tr, pos := p2, after := #[], guard := none }) (by rw [hOPS]; rfl) (fun K hK => ?_) AllReadyH.nil)
    · refine step_val (v := rv) (w' := w.drew) rfl ?_ (hK.out _ _ trivial fun _ => ?_)
      · exact exec_move rfl ((eval_put_ne (by first | assumption | exact fun e => absurd e.symm (by assumption))).trans ((eval_put_ne (by first | assumption | exact fun e => absurd e.symm (by assumption))).trans (hr)))
      exact st21
  have st13 : ∀ (y : Value) (sl : Value) (wB : World), wB.cell? p = some v0 → (∃ v1 w2, (Builtin.append_ #[R, R] R #[v0, sl]).run P wB = .ok v1 w2 ∧ ∃ w3, (Instr.storeAt R ptr v1).run P w2 = .ok () w3 ∧ Q .normal ((((((((a.put (some s0) ptr).put (some s1) v0).put (some s2) rv).put (some s3) y).put (some s4) sl).put (some s5) v1).put (some s6) ptr)) w3) → wpAnyH P .any OPS Q (fun _ => True) 4 #[true, false, true, true, true, false, false, false] ((((a.put (some s0) ptr).put (some s2) rv).put (some s3) y).put (some s4) sl) wB := by
    intro y sl wB hc hA
    refine wpAnyH_ready (rs := [1]) (by rw [hOPS]; kernel_rfl) (by simp) ?_
    refine (AllReadyH.cons (o := { dst := some s1, op := .load R (.tmp s0), type := R, pos := p1, after := #[{ on := 0, ground := Ground.data }], guard := none }) (by rw [hOPS]; rfl) (fun K hK => ?_) AllReadyH.nil)
    · refine step_val (v := v0) (w' := wB) rfl ?_ (hK.out _ _ trivial fun _ => ?_)
      · exact exec_load rfl ((eval_put_ne (by first | assumption | exact fun e => absurd e.symm (by assumption))).trans ((eval_put_ne (by first | assumption | exact fun e => absurd e.symm (by assumption))).trans ((eval_put_ne (by first | assumption | exact fun e => absurd e.symm (by assumption))).trans (eval_put_eq (by rw [hN]; assumption))))) (HL _ _ hc)
      show wpAnyH P .any OPS Q _ _ _ (((((a.put (some s0) ptr).put (some s2) rv).put (some s3) y).put (some s4) sl).put (some s1) _) _
      rw [put_comm' (s := s4) (t := s1) _ _ (by first | assumption | exact fun e => absurd e.symm (by assumption)), put_comm' (s := s3) (t := s1) _ _ (by first | assumption | exact fun e => absurd e.symm (by assumption)), put_comm' (s := s2) (t := s1) _ _ (by first | assumption | exact fun e => absurd e.symm (by assumption))]
      exact st23 y sl wB hc hA
  have st12 : ∀ (y : Value) (w1 : World), AppAfter P Q R p v0 (fun sl v1 => ((((((((a.put (some s0) ptr).put (some s1) v0).put (some s2) rv).put (some s3) y).put (some s4) sl).put (some s5) v1).put (some s6) ptr))) y w1 → wpAnyH P .any OPS Q (fun _ => True) 5 #[true, false, true, true, false, false, false, false] (((a.put (some s0) ptr).put (some s2) rv).put (some s3) y) w1 := by
    intro y w1 hA
    refine wpAnyH_ready (rs := [1, 4]) (by rw [hOPS]; kernel_rfl) (by simp) ?_
    refine (AllReadyH.cons (o := { dst := some s1, op := .load R (.tmp s0), type := R, pos := p1, after := #[{ on := 0, ground := Ground.data }], guard := none }) (by rw [hOPS]; rfl) (fun K hK => ?_) (AllReadyH.cons (o := { dst := some s4, op := .buildSlice R 1 #[(0, .tmp s3)], type := R, pos := p4, after := #[{ on := 3, ground := Ground.data }], guard := none }) (by rw [hOPS]; rfl) (fun K hK => ?_) AllReadyH.nil))
    · refine step_val (v := v0) (w' := w1) rfl ?_ (hK.out _ _ trivial fun _ => ?_)
      · exact exec_load rfl ((eval_put_ne (by first | assumption | exact fun e => absurd e.symm (by assumption))).trans ((eval_put_ne (by first | assumption | exact fun e => absurd e.symm (by assumption))).trans (eval_put_eq (by rw [hN]; assumption)))) (HL _ _ hA.1)
      show wpAnyH P .any OPS Q _ _ _ ((((a.put (some s0) ptr).put (some s2) rv).put (some s3) y).put (some s1) _) _
      rw [put_comm' (s := s3) (t := s1) _ _ (by first | assumption | exact fun e => absurd e.symm (by assumption)), put_comm' (s := s2) (t := s1) _ _ (by first | assumption | exact fun e => absurd e.symm (by assumption))]
      exact st22 y w1 hA
    · obtain ⟨hc1, sl, wB, hb, hcB, hR⟩ := hA
      refine step_val (v := sl) (w' := wB) rfl ?_ (hK.out _ _ trivial fun _ => st13 y sl wB hcB (by rw [hptr]; rw [hptr] at hR; exact hR))
      exact exec_slice1 rfl (eval_put_eq (by simp only [size_put]; rw [hN]; assumption)) hb
  have st11 : wpAnyH P .any OPS Q (fun _ => True) 6 #[true, false, true, false, false, false, false, false] ((a.put (some s0) ptr).put (some s2) rv) w.drew := by
    refine wpAnyH_ready (rs := [1, 3]) (by rw [hOPS]; kernel_rfl) (by simp) ?_
    refine (AllReadyH.cons (o := { dst := some s1, op := .load R (.tmp s0), type := R, pos := p1, after := #[{ on := 0, ground := Ground.data }], guard := none }) (by rw [hOPS]; rfl) (fun K hK => ?_) (AllReadyH.cons (o := { dst := some s3, op := .call { callee := .value (.func f), args := #[.tmp s2], argTypes := #[tr] }, type := E, pos := p3, after := #[{ on := 2, ground := Ground.data }], guard := none }) (by rw [hOPS]; rfl) (fun K hK => ?_) AllReadyH.nil))
    · refine step_val (v := v0) (w' := w.drew) rfl ?_ (hK.out _ _ trivial fun _ => ?_)
      · exact exec_load rfl ((eval_put_ne (by first | assumption | exact fun e => absurd e.symm (by assumption))).trans (eval_put_eq (by rw [hN]; assumption))) (HL _ _ h0)
      show wpAnyH P .any OPS Q _ _ _ (((a.put (some s0) ptr).put (some s2) rv).put (some s1) _) _
      rw [put_comm' (s := s2) (t := s1) _ _ (by first | assumption | exact fun e => absurd e.symm (by assumption))]
      exact st21
    · refine step_fn (f := f) (args := #[rv]) rfl (exec_fn1 (HC _) rfl (eval_put_eq (by simp only [size_put]; rw [hN]; assumption))) (CALL.mono ?_)
      intro e w1 he
      cases e with
      | returned y => exact hK.out _ _ trivial fun _ => st12 y w1 he
      | panicked chain => exact HQ _ _ _ _ _ (HQ _ _ _ _ _ (he))
      | outgrown => exact he
  have st10 : wpAnyH P .any OPS Q (fun _ => True) 7 #[true, false, false, false, false, false, false, false] (a.put (some s0) ptr) w.drew := by
    refine wpAnyH_ready (rs := [1, 2]) (by rw [hOPS]; kernel_rfl) (by simp) ?_
    refine (AllReadyH.cons (o := { dst := some s1, op := .load R (.tmp s0), type := R, pos := p1, after := #[{ on := 0, ground := Ground.data }], guard := none }) (by rw [hOPS]; rfl) (fun K hK => ?_) (AllReadyH.cons (o := { dst := some s2, op := .move (.tmp r), type := tr, pos := p2, after := #[], guard := none }) (by rw [hOPS]; rfl) (fun K hK => ?_) AllReadyH.nil))
    · refine step_val (v := v0) (w' := w.drew) rfl ?_ (hK.out _ _ trivial fun _ => ?_)
      · exact exec_load rfl (eval_put_eq (by rw [hN]; assumption)) (HL _ _ h0)
      exact st20
    · refine step_val (v := rv) (w' := w.drew) rfl ?_ (hK.out _ _ trivial fun _ => ?_)
      · exact exec_move rfl ((eval_put_ne (by first | assumption | exact fun e => absurd e.symm (by assumption))).trans (hr))
      exact st11
  have st03 : ∀ (y : Value) (sl : Value) (wB : World), wB.cell? p = some v0 → (∃ v1 w2, (Builtin.append_ #[R, R] R #[v0, sl]).run P wB = .ok v1 w2 ∧ ∃ w3, (Instr.storeAt R ptr v1).run P w2 = .ok () w3 ∧ Q .normal ((((((((a.put (some s0) ptr).put (some s1) v0).put (some s2) rv).put (some s3) y).put (some s4) sl).put (some s5) v1).put (some s6) ptr)) w3) → wpAnyH P .any OPS Q (fun _ => True) 5 #[false, false, true, true, true, false, false, false] (((a.put (some s2) rv).put (some s3) y).put (some s4) sl) wB := by
    intro y sl wB hc hA
    refine wpAnyH_ready (rs := [0]) (by rw [hOPS]; kernel_rfl) (by simp) ?_
    refine (AllReadyH.cons (o := { dst := some s0, op := .fieldAddr T (.tmp x) fld, type := 0, pos := p0, after := #[], guard := none }) (by rw [hOPS]; rfl) (fun K hK => ?_) AllReadyH.nil)
    · refine step_val (v := ptr) (w' := wB) rfl ?_ (hK.out _ _ trivial fun _ => ?_)
      · exact exec_field rfl ((eval_put_ne (by first | assumption | exact fun e => absurd e.symm (by assumption))).trans ((eval_put_ne (by first | assumption | exact fun e => absurd e.symm (by assumption))).trans ((eval_put_ne (by first | assumption | exact fun e => absurd e.symm (by assumption))).trans (hx)))) (HF _)
      show wpAnyH P .any OPS Q _ _ _ ((((a.put (some s2) rv).put (some s3) y).put (some s4) sl).put (some s0) _) _
      rw [put_comm' (s := s4) (t := s0) _ _ (by first | assumption | exact fun e => absurd e.symm (by assumption)), put_comm' (s := s3) (t := s0) _ _ (by first | assumption | exact fun e => absurd e.symm (by assumption)), put_comm' (s := s2) (t := s0) _ _ (by first | assumption | exact fun e => absurd e.symm (by assumption))]
      exact st13 y sl wB hc hA
  have st02 : ∀ (y : Value) (w1 : World), AppAfter P Q R p v0 (fun sl v1 => ((((((((a.put (some s0) ptr).put (some s1) v0).put (some s2) rv).put (some s3) y).put (some s4) sl).put (some s5) v1).put (some s6) ptr))) y w1 → wpAnyH P .any OPS Q (fun _ => True) 6 #[false, false, true, true, false, false, false, false] ((a.put (some s2) rv).put (some s3) y) w1 := by
    intro y w1 hA
    refine wpAnyH_ready (rs := [0, 4]) (by rw [hOPS]; kernel_rfl) (by simp) ?_
    refine (AllReadyH.cons (o := { dst := some s0, op := .fieldAddr T (.tmp x) fld, type := 0, pos := p0, after := #[], guard := none }) (by rw [hOPS]; rfl) (fun K hK => ?_) (AllReadyH.cons (o := { dst := some s4, op := .buildSlice R 1 #[(0, .tmp s3)], type := R, pos := p4, after := #[{ on := 3, ground := Ground.data }], guard := none }) (by rw [hOPS]; rfl) (fun K hK => ?_) AllReadyH.nil))
    · refine step_val (v := ptr) (w' := w1) rfl ?_ (hK.out _ _ trivial fun _ => ?_)
      · exact exec_field rfl ((eval_put_ne (by first | assumption | exact fun e => absurd e.symm (by assumption))).trans ((eval_put_ne (by first | assumption | exact fun e => absurd e.symm (by assumption))).trans (hx))) (HF _)
      show wpAnyH P .any OPS Q _ _ _ (((a.put (some s2) rv).put (some s3) y).put (some s0) _) _
      rw [put_comm' (s := s3) (t := s0) _ _ (by first | assumption | exact fun e => absurd e.symm (by assumption)), put_comm' (s := s2) (t := s0) _ _ (by first | assumption | exact fun e => absurd e.symm (by assumption))]
      exact st12 y w1 hA
    · obtain ⟨hc1, sl, wB, hb, hcB, hR⟩ := hA
      refine step_val (v := sl) (w' := wB) rfl ?_ (hK.out _ _ trivial fun _ => st03 y sl wB hcB (by rw [hptr]; rw [hptr] at hR; exact hR))
      exact exec_slice1 rfl (eval_put_eq (by simp only [size_put]; rw [hN]; assumption)) hb
  have st01 : wpAnyH P .any OPS Q (fun _ => True) 7 #[false, false, true, false, false, false, false, false] (a.put (some s2) rv) w.drew := by
    refine wpAnyH_ready (rs := [0, 3]) (by rw [hOPS]; kernel_rfl) (by simp) ?_
    refine (AllReadyH.cons (o := { dst := some s0, op := .fieldAddr T (.tmp x) fld, type := 0, pos := p0, after := #[], guard := none }) (by rw [hOPS]; rfl) (fun K hK => ?_) (AllReadyH.cons (o := { dst := some s3, op := .call { callee := .value (.func f), args := #[.tmp s2], argTypes := #[tr] }, type := E, pos := p3, after := #[{ on := 2, ground := Ground.data }], guard := none }) (by rw [hOPS]; rfl) (fun K hK => ?_) AllReadyH.nil))
    · refine step_val (v := ptr) (w' := w.drew) rfl ?_ (hK.out _ _ trivial fun _ => ?_)
      · exact exec_field rfl ((eval_put_ne (by first | assumption | exact fun e => absurd e.symm (by assumption))).trans (hx)) (HF _)
      show wpAnyH P .any OPS Q _ _ _ ((a.put (some s2) rv).put (some s0) _) _
      rw [put_comm' (s := s2) (t := s0) _ _ (by first | assumption | exact fun e => absurd e.symm (by assumption))]
      exact st11
    · refine step_fn (f := f) (args := #[rv]) rfl (exec_fn1 (HC _) rfl (eval_put_eq (by rw [hN]; assumption))) (CALL.mono ?_)
      intro e w1 he
      cases e with
      | returned y => exact hK.out _ _ trivial fun _ => st02 y w1 he
      | panicked chain => exact HQ _ _ _ _ _ (he)
      | outgrown => exact he
  have st00 : wpAnyH P .any OPS Q (fun _ => True) 8 #[false, false, false, false, false, false, false, false] a w.drew := by
    refine wpAnyH_ready (rs := [0, 2]) (by rw [hOPS]; kernel_rfl) (by simp) ?_
    refine (AllReadyH.cons (o := { dst := some s0, op := .fieldAddr T (.tmp x) fld, type := 0, pos := p0, after := #[], guard := none }) (by rw [hOPS]; rfl) (fun K hK => ?_) (AllReadyH.cons (o := { dst := some s2, op := .move (.tmp r), type := tr, pos := p2, after := #[], guard := none }) (by rw [hOPS]; rfl) (fun K hK => ?_) AllReadyH.nil))
    · refine step_val (v := ptr) (w' := w.drew) rfl ?_ (hK.out _ _ trivial fun _ => ?_)
      · exact exec_field rfl (hx) (HF _)
      exact st10
    · refine step_val (v := rv) (w' := w.drew) rfl ?_ (hK.out _ _ trivial fun _ => ?_)
      · exact exec_move rfl (hr)
      exact st01
  refine wp_region_held_drew (S := fun _ => True) hm trivial (fun _ => ?_)
  have := st00
  rw [hOPS] at this ⊢
  exact this
end Go.Proofs.YtldgbdmiebipnaaDoor
