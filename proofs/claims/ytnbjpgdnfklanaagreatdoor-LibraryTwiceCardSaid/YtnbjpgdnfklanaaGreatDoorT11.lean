/-
  What the methods that fill an entry walk by: a row that a call is handed, terms that live on.
  The program's library: the primitives: primitives, Names.
  The primitives' texts are right: each item has what it is asked for. No function of the program.
-/
import Derived.Test.YtnbjpgdnfklanaaGreatDoorT10
import Derived.Test.YtnbjpgdnfklanaaGreatDoorT08
import Derived.Deep.LoopGhost
import Derived.WalkMore
import Derived.OwnWalk
import Derived.Laws.EntriesVeiled
import Derived.Test.YtnbjpgdnfklanaaGreatDoorT05
namespace Go.Proofs.YtnbjpgdnfklanaaGreatDoor
open Go.RowKit
theorem fresh_below {w0 ws w w' : World} {z : Tv} (h : Fresh w0 ws w z) (hb : Below w.heap.size w w') : Fresh w0 ws w' z := fresh_wide h (Nat.le_refl _) hb.size fun b _ q => hb.block b q
def varV (s : ByteArray) : Tv := ⟨.mk 1 s 0 [], none, 0⟩
theorem fresh_var (s : ByteArray) (hs : s.size ≤ 1000) (w0 ws w : World) : Fresh w0 ws w (varV s) := fun _ _ _ _ =>
  ⟨⟨by simp [Tm.kind, varV], by simp [Tm.kind, varV], by simp [Tm.n, varV], by simp [Tm.n, varV], by simp only [Tm.name, varV]; omega⟩, ⟨by simp [Tm.args, varV], .inl rfl⟩⟩
structure VarB (W : World) (n : Nat) (s : ByteArray) : Prop where
  c0 : W.cell? ⟨n, 0, none⟩ = some (.int .i64 1)
  c1 : W.cell? ⟨n, 1, none⟩ = some (.string s)
  c2 : W.cell? ⟨n, 2, none⟩ = some (.int .i64 0)
  c3 : W.cell? ⟨n, 3, none⟩ = some (.slice none 0 0)
theorem varB_new (w : World) (s : ByteArray) (t : TypeId) (n : Nat) (hn : n = w.heap.size) : VarB (w.alloc (.cells #[.int .i64 1, .string s, .int .i64 0, .slice none 0 0] t)) n s := by
  subst hn
  have h := box_new w (.int .i64 1) (.string s) (.int .i64 0) (.slice none 0 0) t
  exact ⟨h.c0, h.c1, h.c2, h.c3⟩
theorem VarB.block {W W' : World} {n : Nat} {s : ByteArray} (h : VarB W n s) (hk : W'.heap[n]? = W.heap[n]?) : VarB W' n s :=
  ⟨(World.cell?_of_block hk).trans h.c0, (World.cell?_of_block hk).trans h.c1, (World.cell?_of_block hk).trans h.c2, (World.cell?_of_block hk).trans h.c3⟩
theorem VarB.below {W W' : World} {n : Nat} {s : ByteArray} (h : VarB W n s) (hb : Below W.heap.size W W') : VarB W' n s := h.block (hb.block n (World.block_lt_of_cell? W _ h.c0))
theorem VarB.only {W W' : World} {n eb base : Nat} {s : ByteArray} (h : VarB W n s) (ho : OnlyE W W' eb base) (h1 : n < base) (h2 : n ≠ eb) : VarB W' n s := h.block (ho.block n h1 h2)
theorem VarB.all {W : World} {n : Nat} {s : ByteArray} (h : VarB W n s) : W.cell? ⟨n, 0, none⟩ = some (.int .i64 1) ∧ W.cell? ⟨n, 1, none⟩ = some (.string s) ∧ W.cell? ⟨n, 2, none⟩ = some (.int .i64 0) ∧ W.cell? ⟨n, 3, none⟩ = some (.slice none 0 0) := ⟨h.c0, h.c1, h.c2, h.c3⟩
structure SinceE (A W : World) (eb base : Nat) : Prop where
  only : OnlyE A W eb base
  le : base ≤ W.heap.size
theorem SinceE.below {A W W' : World} {eb base : Nat} (h : SinceE A W eb base) (hb : Below W.heap.size W W') : SinceE A W' eb base := ⟨h.only.trans (onlyE_below hb h.le), Nat.le_trans h.le hb.size⟩
theorem SinceE.next {A W W' : World} {eb base : Nat} (h : SinceE A W eb base) (hb : OnlyE W W' eb base) : SinceE A W' eb base := ⟨h.only.trans hb, Nat.le_trans h.le hb.size⟩
structure E0 (W : World) (eb : Nat) (nm : ByteArray) : Prop where
  c0 : W.cell? ⟨eb, 0, none⟩ = some (.string nm)
  c1 : W.cell? ⟨eb, 1, none⟩ = some (.slice none 0 0)
  c2 : W.cell? ⟨eb, 2, none⟩ = some (.slice none 0 0)
  f1 : W.frozen? ⟨eb, 1, none⟩ = false
  f2 : W.frozen? ⟨eb, 2, none⟩ = false
theorem E0.lt {W : World} {eb : Nat} {nm : ByteArray} (h : E0 W eb nm) : eb < W.heap.size := World.block_lt_of_cell? W _ h.c0
theorem E0.start {W : World} {eb : Nat} {nm : ByteArray} (h : E0 W eb nm) (w0 W' : World) (hb : Below W.heap.size W W') : EB w0 W' eb W'.heap.size nm [] [] (.slice none 0 0) (.slice none 0 0) := by
  have hk := hb.block eb h.lt
  exact ⟨(World.cell?_of_block hk).trans h.c0, (World.cell?_of_block hk).trans h.c1, (World.cell?_of_block hk).trans h.c2, (World.frozen?_of_block hk).trans h.f1, (World.frozen?_of_block hk).trans h.f2, Nat.lt_of_lt_of_le h.lt hb.size, Nat.le_refl _, ent_nil _ _ _ _ _ _⟩
def FillPost (w0 W : World) (eb : Nat) (nm : ByteArray) (fs : List Fn) (rs : List Rl) (e : Ending) (w' : World) : Prop :=
  e = .returned (.tuple #[]) ∧ (∃ base vf vr, EB w0 w' eb base nm fs rs vf vr) ∧ OnlyE W w' eb W.heap.size
theorem efun (w0 Wr A : World) (eb base : Nat) (s : ByteArray) (b n : Nat) (vs : List Tv) (W : World) (hn : n = vs.length) (hs : s.size ≤ 1000) (hl : vs.length ≤ 100) (hS : SinceE A W eb base) (hA : Wr.heap.size ≤ W.heap.size) (hr : RowV W b (rowTv vs)) (hf : ∀ x ∈ vs, Fresh w0 Wr W x) :
    Calls Tryz.prog 71 #[.string s, .slice (some ⟨b, 0, none⟩) n n] W fun e w' => ∃ za zc, e = .returned (.agg #[.int .i64 5, .string s, .int .i64 0, .slice za n zc]) ∧ Fresh w0 Wr w' ⟨.mk 5 s 0 (vs.map Tv.t), za, zc⟩ ∧ Below W.heap.size W w' ∧ SinceE A w' eb base := by
  subst hn
  exact (pfun_row s b 0 vs.length vs w0 Wr W hs hl hr.2 hr.1 hf hA).mono fun e w' hh => by
    obtain ⟨za, zc, e1, e2, e3⟩ := hh
    exact ⟨za, zc, e1, e2, e3, hS.below e3⟩
theorem efun_none (w0 Wr A : World) (eb base : Nat) (s : ByteArray) (W : World) (hs : s.size ≤ 1000) (hS : SinceE A W eb base) :
    Calls Tryz.prog 71 #[.string s, .slice none 0 0] W fun e w' => ∃ za zc, e = .returned (.agg #[.int .i64 5, .string s, .int .i64 0, .slice za 0 zc]) ∧ Fresh w0 Wr w' ⟨.mk 5 s 0 [], za, zc⟩ ∧ Below W.heap.size W w' ∧ SinceE A w' eb base :=
  (pfun_none s w0 Wr W hs).mono fun e w' hh => by
    obtain ⟨za, zc, e1, e2, e3⟩ := hh
    exact ⟨za, zc, e1, e2, e3, hS.below e3⟩
theorem erule (w0 Wr A W : World) (eb base : Nat) (nm : ByteArray) (fs : List Fn) (rs : List Rl) (vf vr : Value) (hEr : EB w0 Wr eb base nm fs rs vf vr) (hE : EB w0 W eb base nm fs rs vf vr) (hS : SinceE A W eb base) (l r : Tv) (hl : Fresh w0 Wr W l) (hr : Fresh w0 Wr W r) (hle : Wr.heap.size ≤ W.heap.size) (hlen : rs.length ≤ 1000000) :
    Calls Tryz.prog 70 #[.pointer (some ⟨eb, 0, none⟩), l.val, r.val] W fun e w' => e = .returned (.tuple #[]) ∧ (∃ vr', EB w0 w' eb base nm fs (rs ++ [(l.t, r.t)]) vf vr') ∧ SinceE A w' eb base := by
  have hlt := hEr.ent.lt
  have h1 := hEr.lt
  have h2 := hEr.le
  refine (pent_rule w0 W eb base nm fs rs vf vr ⟨l, r⟩ hE (liveQ_made hl hr hle hEr.le fun k hk => ?_) hlen).mono fun e w' hh => ⟨hh.1, hh.2.1, hS.next hh.2.2⟩
  rcases hk with hk | hk
  · exact (hlt k hk).2
  · omega
end Go.Proofs.YtnbjpgdnfklanaaGreatDoor

namespace Go.Proofs.YtnbjpgdnfklanaaGreatDoor
open Go.RowKit
def fillV : List Value := [.func (.func 38) #[] #[], .func (.func 39) #[] #[], .func (.func 40) #[] #[], .func (.func 41) #[] #[], .func (.func 42) #[] #[], .func (.func 43) #[] #[], .func (.func 44) #[] #[], .func (.func 45) #[] #[], .func (.func 46) #[] #[]]
def fillAt (k : Nat) : Value := (fillV[k]?).getD .nilFunc
def primCells : List Value := [.string nmPair, fillAt 0, .string nmSenc, fillAt 1, .string nmRenc, fillAt 2, .string nmAenc, fillAt 3, .string nmRaenc, fillAt 4, .string nmSign, fillAt 5, .string nmHash, fillAt 6, .string nmBlind, fillAt 7, .string nmWrap, fillAt 8]
def PrimAt (W : World) (b : Nat) : Prop := b < W.heap.size ∧ ∀ k, k < 9 → W.cell? ⟨b, k * 2, none⟩ = some (.string (nmAt k)) ∧ W.cell? ⟨b, k * 2 + 1, none⟩ = some (fillAt k)
theorem PrimAt.below {W W' : World} {b : Nat} (h : PrimAt W b) (hb : Below W.heap.size W W') : PrimAt W' b :=
  ⟨Nat.lt_of_lt_of_le h.1 hb.size, fun k hk => ⟨(hb.cell (p := ⟨b, k * 2, none⟩) h.1).trans (h.2 k hk).1, (hb.cell (p := ⟨b, k * 2 + 1, none⟩) h.1).trans (h.2 k hk).2⟩⟩
theorem prim_new (w : World) : PrimAt (w.alloc (.cells primCells.toArray 63)) w.heap.size := by
  refine ⟨by simp, fun k hk => ?_⟩
  have h := fun i => World.cell?_alloc_mark w primCells.toArray 63 (0, 0) i
  match k, hk with
  | 0, _ => exact ⟨h 0, h 1⟩
  | 1, _ => exact ⟨h 2, h 3⟩
  | 2, _ => exact ⟨h 4, h 5⟩
  | 3, _ => exact ⟨h 6, h 7⟩
  | 4, _ => exact ⟨h 8, h 9⟩
  | 5, _ => exact ⟨h 10, h 11⟩
  | 6, _ => exact ⟨h 12, h 13⟩
  | 7, _ => exact ⟨h 14, h 15⟩
  | 8, _ => exact ⟨h 16, h 17⟩
set_option maxRecDepth 100000 in
theorem pprims_any (w : World) :
    Calls Tryz.prog 23 #[] w fun e w' => e = .returned (.slice (some ⟨w.heap.size, 0, none⟩) 9 9) ∧ PrimAt w' w.heap.size ∧ Below w.heap.size w w' := by
  have HP := Lib.hid (prim_new w)
  have HB := Lib.hid ((Below.refl w.heap.size w).alloc (Nat.le_refl _) (.cells primCells.toArray 63))
  go_enter Tryz.func23, Tryz.ntmps23
  go_wp2_with fail
  go_ret
  exact ⟨rfl, HP.out, HB.out⟩
end Go.Proofs.YtnbjpgdnfklanaaGreatDoor

namespace Go.Proofs.YtnbjpgdnfklanaaGreatDoor
open Go.RowKit
def okI (x : It) : Bool := if (x.key.toList == (⟨#[102, 117, 110]⟩ : ByteArray).toList) = true then decide (2 ≤ x.words.length) else decide (2 ≤ x.trees.length) && x.trees.all fun t => decide (t.parts ≤ 1000)
def okIs (s : ByteArray) : Bool := (parseS s).2.2.all okI && decide ((parseS s).2.2.length ≤ 20) && decide (s.size ≤ 1000) && decide ((itemF (parseS s).2.2).length ≤ 20) && decide ((itemR (parseS s).2.2).length ≤ 20)
theorem okPair : okIs txPair = true := by kernel_rfl
theorem okSenc : okIs txSenc = true := by kernel_rfl
theorem okRenc : okIs txRenc = true := by kernel_rfl
theorem okAenc : okIs txAenc = true := by kernel_rfl
theorem okRaenc : okIs txRaenc = true := by kernel_rfl
theorem okSign : okIs txSign = true := by kernel_rfl
theorem okHash : okIs txHash = true := by kernel_rfl
theorem okBlind : okIs txBlind = true := by kernel_rfl
theorem okWrap : okIs txWrap = true := by kernel_rfl
theorem okNone : okIs ⟨#[]⟩ = true := by kernel_rfl
theorem lib_ok (s : ByteArray) : okIs (libT s) = true := by
  unfold libT
  split
  · exact okPair
  split
  · exact okSenc
  split
  · exact okRenc
  split
  · exact okAenc
  split
  · exact okRaenc
  split
  · exact okSign
  split
  · exact okHash
  split
  · exact okBlind
  split
  · exact okWrap
  · exact okNone
structure LibOk (s : ByteArray) : Prop where
  all : ∀ x ∈ (parseS s).2.2, okI x = true
  len : (parseS s).2.2.length ≤ 20
  size : s.size ≤ 1000
  lenF : (itemF (parseS s).2.2).length ≤ 20
  lenR : (itemR (parseS s).2.2).length ≤ 20
theorem lib_right (s : ByteArray) : LibOk (libT s) := by
  have h := lib_ok s
  unfold okIs at h
  simp only [Bool.and_eq_true, decide_eq_true_eq, List.all_eq_true] at h
  exact ⟨h.1.1.1.1, h.1.1.1.2, h.1.1.2, h.1.2, h.2⟩
end Go.Proofs.YtnbjpgdnfklanaaGreatDoor
