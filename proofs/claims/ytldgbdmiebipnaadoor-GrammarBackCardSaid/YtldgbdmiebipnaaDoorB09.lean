/-
  The reader of the program's grammar: terms, where term is as it should be.
  The reader of the program's grammar: args, where terms is as it should be.
  The reader of the program's grammar: term; then term and terms by one induction.
  What stands while a part of an item is read: the item, the answer's box, the token. No function of the program.
-/
import Derived.Test.YtldgbdmiebipnaaDoorB08
import Derived.Test.YtldgbdmiebipnaaDoorB05
import Derived.Deep.LoopGhost
import Derived.WalkMore
namespace Go.Proofs.YtldgbdmiebipnaaDoor
open Go.RowKit

section
variable {g b o c : Nat} {L : List Tok}
/-- What a call of term leaves. -/
def TermPPost (g b o c : Nat) (L : List Tok) (i op : Nat) (w : World) (e : Ending) (w' : World) : Prop :=
  ((termP L i op).2.2 = true ∧ ∃ y : Rv, e = .returned y.val ∧ y.t = (termP L i op).1 ∧ MadeR w w' y ∧ Rdr w' g b o c L (termP L i op).2.1 op ∧ w.grownBy w' (some g)) ∨
  ((termP L i op).2.2 = false ∧ e = diesAt L (termP L i op).2.1 ∧ w.grownBy w' (some g))
/-- What a call of terms leaves. -/
def TermsPPost (g b o c : Nat) (L : List Tok) (i : Nat) (sg : ByteArray) (op : Nat) (w : World) (e : Ending) (w' : World) : Prop :=
  ((termsP L i sg op).2.2 = true ∧ ∃ v, e = .returned v ∧ RowR w' 36 w.heap.size v (termsP L i sg op).1 ∧ (termsP L i sg op).1.length ≤ 1000000 ∧ Rdr w' g b o c L (termsP L i sg op).2.1 op ∧ w.grownBy w' (some g)) ∨
  ((termsP L i sg op).2.2 = false ∧ e = diesAt L (termsP L i sg op).2.1 ∧ w.grownBy w' (some g))
/-- The terms that are read on behind some. -/
def contP (L : List Tok) (sg : ByteArray) (op : Nat) (ts : List Tr) (k : Nat) : List Tr × Nat × Bool :=
  if isS (tkD L k) sg = false then (ts, k, true) else (ts ++ (termsP L (k + 1) sg op).1, (termsP L (k + 1) sg op).2)
theorem contP_start {i : Nat} {sg : ByteArray} {op : Nat} (h : (termP L i op).2.2 = true) : termsP L i sg op = contP L sg op [(termP L i op).1] (termP L i op).2.1 := by
  rw [termsP_eq, if_neg (by rw [h]; decide)]; rfl
theorem termsP_fails {i : Nat} {sg : ByteArray} {op : Nat} (h : (termP L i op).2.2 = false) : termsP L i sg op = ([], (termP L i op).2.1, false) := by
  rw [termsP_eq, if_pos h]
theorem contP_stop {sg : ByteArray} {op : Nat} {ts : List Tr} {k : Nat} (h : isS (tkD L k) sg = false) : contP L sg op ts k = (ts, k, true) := by unfold contP; rw [if_pos h]
theorem contP_next {sg : ByteArray} {op : Nat} {ts : List Tr} {k : Nat} (h : isS (tkD L k) sg = true) (h2 : (termP L (k + 1) op).2.2 = true) : contP L sg op ts k = contP L sg op (ts ++ [(termP L (k + 1) op).1]) (termP L (k + 1) op).2.1 := by
  have e := contP_start (sg := sg) h2
  unfold contP at e ⊢
  rw [if_neg (by rw [h]; decide), e]
  split <;> simp
theorem contP_fails {sg : ByteArray} {op : Nat} {ts : List Tr} {k : Nat} (h : isS (tkD L k) sg = true) (h2 : (termP L (k + 1) op).2.2 = false) : contP L sg op ts k = (ts, (termP L (k + 1) op).2.1, false) := by
  unfold contP; rw [if_neg (by rw [h]; decide), termsP_fails h2]; simp
theorem only_row {a b c : World} {G R : Option Nat} (h : a.grownBy b G) (k : b.grownBy c R) (hR : ∀ j, R = some j → a.heap.size ≤ j) : a.grownBy c G :=
  ⟨k.os.trans h.os, k.tape.trans h.tape, k.output.trans h.output, Nat.le_trans h.size k.size, fun i hi hn => (k.block i (Nat.lt_of_lt_of_le hi h.size) (fun e => by have := hR i e.symm; omega)).trans (h.block i hi hn)⟩
theorem Rdr.row {W W' : World} {i op : Nat} {R : Option Nat} (h : Rdr W g b o c L i op) (k : W.grownBy W' R) (hR : ∀ j, R = some j → g < j) : Rdr W' g b o c L i op :=
  h.stay (k.block g h.glt (fun e => by have := hR g e.symm; omega)) (k.block b (Nat.lt_trans h.lt h.glt) (fun e => by have := hR b e.symm; have := h.lt; omega))
theorem new_row (w : World) (xs : List Value) (t : TypeId) : ∀ j u, xs[j]? = some u → (w.alloc (.cells xs.toArray t)).cell? ((⟨w.heap.size, 0, none⟩ : Addr).add j) = some u := by
  intro j u hj
  have e := World.cell?_alloc_mark w xs.toArray t (0, 0) (0 + j)
  have : ((⟨w.heap.size, 0, none⟩ : Addr).add j) = ⟨w.heap.size, 0 + j, none⟩ := by
    unfold Addr.add; split
    · next h => subst h; rfl
    · rfl
  rw [this, e]
  simpa using hj
/-- A new row of one tree. -/
theorem rowR_one {W : World} {base : Nat} {y : Rv} (hy : LiveR W none base y) (hb : base ≤ W.heap.size) : RowR (W.alloc (.cells y.cells.toArray 36)) 36 base (.slice (some ⟨W.heap.size, 0, none⟩) 1 1) [y.t] := by
  refine ⟨[y], rfl, fun x hx => ?_, ?_⟩
  · rw [List.mem_singleton] at hx
    subst hx
    exact hy.keep (by simp) (fun k hk _ => by rw [Below.heap_alloc _ _ _ hk]) (fun k e => .inr (by cases e; exact Nat.le_refl _))
  · refine ⟨by rw [rowRv_one]; rfl, .inr ⟨W.heap.size, 1, y.cells.toArray, rfl, hb, heap_alloc_new W _, Nat.le_refl _, by decide, rfl, by rw [rowRv_one]; rfl⟩⟩

set_option maxRecDepth 100000 in
set_option maxHeartbeats 4000000 in
theorem terms_one (hE : Ended L) (hlen : L.length ≤ 100000) (i : Nat) (sg : ByteArray) (op : Nat) (W : World) (h : Rdr W g b o c L i op) (hsg : ∀ k, k < L.length → ((tkD L k).text.toList == sg.toList) = isS (tkD L k) sg)
    (hT : ∀ (j : Nat) (V : World), i ≤ j → Rdr V g b o c L j op → Calls Tryd.prog 44 #[.pointer (some ⟨g, 0, none⟩)] V (TermPPost g b o c L j op V)) :
    Calls Tryd.prog 60 #[.pointer (some ⟨g, 0, none⟩), .string sg] W (TermsPPost g b o c L i sg op W) := by
  obtain ⟨i0, hti, hz0, hz1, hz2⟩ := info_parts (show (Tryd.prog.info? 36).map (fun i => (i.zero, i.size, i.bytes)) = some (some (.agg #[.int .i64 0, .string ⟨#[]⟩, .int .i64 0, .int .i64 0, .slice none 0 0]), 5, 64) by kernel_rfl)
  have hg := h.glt
  have hi := h.here
  have T0 := Lib.hid (hT i W (Nat.le_refl _) h)
  have T := Lib.hid (fun (j : Nat) (V : World) (h1 : i ≤ j) (hv : Rdr V g b o c L j op) => hT j V h1 hv)
  have N := Lib.hid (fun (k : Nat) (V : World) (hv : Rdr V g b o c L k op) => (next_any sg V hv).mono fun e w' hh => (show e = .returned (.bool (isS (tkD L k) sg)) ∧ V = w' by rw [hsg k hv.here] at hh; exact hh))
  have P := Lib.hid (fun (k : Nat) (V : World) (hv : Rdr V g b o c L k op) => pass_any sg V hv hE (hsg k hv.here))
  have HT := Lib.hid (show ∀ e w', TermsPPost g b o c L i sg op W e w' ↔ (((termsP L i sg op).2.2 = true ∧ ∃ v, e = .returned v ∧ RowR w' 36 W.heap.size v (termsP L i sg op).1 ∧ (termsP L i sg op).1.length ≤ 1000000 ∧ Rdr w' g b o c L (termsP L i sg op).2.1 op ∧ W.grownBy w' (some g)) ∨
    ((termsP L i sg op).2.2 = false ∧ e = diesAt L (termsP L i sg op).2.1 ∧ W.grownBy w' (some g))) from fun _ _ => Iff.rfl)
  have hle := termP_le L i op
  clear hT hsg
  go_enter Tryd.func60, Tryd.ntmps60
  go_wp2_with fail
  refine T0.out.mono ?_; rintro e w1 (⟨hok, y, rfl, hyt, hm, hr1, ho1⟩ | ⟨hok, hd, ho1⟩)
  case inr =>
    have HQ := Lib.hid (termsP_fails (sg := sg) hok)
    have HO1 := Lib.hid ho1
    have HD := Lib.hid hd
    unfold diesAt at hd
    subst hd
    clear hok ho1
    go_wp2_with fail
    exact ⟨rfl, (HT.out _ _).2 (.inr ⟨by rw [HQ.out], by rw [HQ.out]; exact HD.out, HO1.out⟩)⟩
  case inl =>
    have HQ := Lib.hid (contP_start (sg := sg) hok)
    have hlt1 := hle.2 hok
    obtain ⟨⟨kd, s, nn, pp, xs⟩, ya, yc⟩ := y
    simp only at hyt
    rw [← hyt] at HQ
    obtain ⟨n1, hn1⟩ : ∃ n1, (termP L i op).2.1 = n1 := ⟨_, rfl⟩
    rw [hn1] at HQ hr1 hlt1
    have HR1 := Lib.hid hr1
    have HO1 := Lib.hid ho1
    have hs1 := ho1.size
    have HM := Lib.hid (rowR_one (hm.live hs1 (g := none) (base := W.heap.size) (Nat.le_refl _) (fun k e => by cases e)) (by exact hs1))
    unfold Rv.val
    simp only [Tr.kind, Tr.text, Tr.n, Tr.spot, Tr.args]
    unfold Rv.cells at HM
    simp only [Tr.kind, Tr.text, Tr.n, Tr.spot, Tr.args] at HM
    clear hm hr1 ho1 hok hle hyt hn1
    go_wp2_with fail
    go_loopg [5] L.length (fun gg l wr => ∃ (k : Nat) (ts : List Tr), L.length - k ≤ gg ∧ i < k ∧ ts.length ≤ k ∧ Rdr wr g b o c L k op ∧ RowR wr 36 W.heap.size l ts ∧ W.grownBy wr (some g) ∧ Hid (termsP L i sg op = contP L sg op ts k))
    case atStart => exact ⟨n1, [.mk kd s nn pp xs], by omega, hlt1, by show 1 ≤ n1; omega, HR1.out.below ((Below.refl _ _).alloc (Nat.le_refl _) _), HM.out, only_alloc HO1.out _, HQ⟩
    case round =>
      clear HQ HR1 HO1 HM hs1 hlt1 T0
      obtain ⟨k, ts, hgg, hik, htk, hr, hrow, ho, HQ⟩ := hrel
      have HR := Lib.hid hr
      have HROW := Lib.hid hrow
      have HO := Lib.hid ho
      have hkl := hr.here
      have hzr := ho.size
      clear hr hrow ho
      go_wp2_with fail
      refine (N.out k _ HR.out).mono ?_; rintro e w2 ⟨rfl, rfl⟩
      cases hs : isS (tkD L k) sg with
      | false =>
        have HQ2 := Lib.hid (HQ.out.trans (contP_stop hs))
        clear hs HQ
        obtain ⟨a, cc, hv⟩ : ∃ a cc, u5 = .slice a ts.length cc := by
          obtain ⟨_, _, _, hown⟩ := HROW.out
          exact own_slice hown
        subst hv
        go_wp2_with fail
        go_ret
        exact (HT.out _ _).2 (.inl ⟨by rw [HQ2.out], _, rfl, by rw [HQ2.out]; exact HROW.out, by rw [HQ2.out]; show ts.length ≤ 1000000; omega, by rw [HQ2.out]; exact HR.out, HO.out⟩)
      | true =>
        have HS := Lib.hid hs
        clear hs
        go_wp2_with fail
        refine (P.out k _ HR.out).mono ?_; rintro e w2 (⟨_, rfl, hr2, ho2⟩ | ⟨hf, _⟩)
        case inr => rw [HS.out] at hf; cases hf
        have HR2 := Lib.hid hr2
        have HO2 := Lib.hid (only_trans HO.out ho2)
        have HROW2 := Lib.hid (HROW.out.only ho2 hg)
        have hsz2 := ho2.size
        clear hr2 ho2
        go_wp2_with fail
        have hle := termP_le L (k + 1) op
        refine (T.out (k + 1) _ (by omega) HR2.out).mono ?_; rintro e w3 (⟨hok, y, rfl, hyt, hm, hr3, ho3⟩ | ⟨hok, hd, ho3⟩)
        case inr =>
          have HQ2 := Lib.hid (HQ.out.trans (contP_fails HS.out hok))
          have HO3 := Lib.hid (only_trans HO2.out ho3)
          have HD := Lib.hid hd
          unfold diesAt at hd
          subst hd
          clear hok ho3
          go_wp2_with fail
          exact ⟨rfl, (HT.out _ _).2 (.inr ⟨by rw [HQ2.out], by rw [HQ2.out]; exact HD.out, HO3.out⟩)⟩
        case inl =>
          have HQ2 := Lib.hid (HQ.out.trans (contP_next HS.out hok))
          have hlt2 := hle.2 hok
          obtain ⟨⟨kd, s, nn, pp, xs⟩, ya, yc⟩ := y
          simp only at hyt
          rw [← hyt] at HQ2
          obtain ⟨n2, hn2⟩ : ∃ n2, (termP L (k + 1) op).2.1 = n2 := ⟨_, rfl⟩
          rw [hn2] at HQ2 hr3 hlt2
          have hsz3 := ho3.size
          have hB := (Below.refl w3.heap.size w3).alloc (Nat.le_refl _) (.cells #[.int .i64 kd, .string s, .int .i64 nn, .int .i64 pp, .slice ya xs.length yc] 36)
          have HR3 := Lib.hid (hr3.below hB)
          have HO3 := Lib.hid (only_alloc (only_trans HO2.out ho3) (.cells #[.int .i64 kd, .string s, .int .i64 nn, .int .i64 pp, .slice ya xs.length yc] 36))
          obtain ⟨vs, hvt, hvl, hown⟩ := HROW2.out.only ho3 hg
          obtain ⟨_, _, _, hownr⟩ := HROW2.out
          have hlr := own_row_lt hownr
          have hlo := own_row_ge hown
          have HY := Lib.hid ((hm.live hsz3 (g := u5.ownBlock) (base := W.heap.size) (by omega) (fun q e => .inl (hlr q e))).below hB)
          have HVL := Lib.hid (fun x hx => (hvl x hx).below hB)
          have HVT := Lib.hid hvt
          have hlen3 : ts.length ≤ 100000 := by omega
          unfold Rv.val
          simp only [Tr.kind, Tr.text, Tr.n, Tr.spot, Tr.args]
          clear hm hr3 ho3 hok hle hyt hn2 hvl hvt hB hownr hlr
          go_wp2_with (at_builtin; refine wpList_append_own_at _ rfl _ _ 34 rfl W.heap.size 36 i0 (.agg #[.int .i64 0, .string ⟨#[]⟩, .int .i64 0, .int .i64 0, .slice none 0 0]) 5 64 Tryd.underlying34 hti hz0 hz1 hz2 rfl (by decide) _ ts.length _ rfl (hown.alloc _) ⟨w3.heap.size, 0, none⟩ 1 1 [.int .i64 kd, .string s, .int .i64 nn, .int .i64 pp, .slice ya xs.length yc] rfl rfl ?c1 ?c2 ?c3 ?c4 ?c5 ?_)
          case c1 => exact new_row w3 _ _
          case c2 => exact rv_one ⟨.mk kd s nn pp xs, ya, yc⟩
          case c3 => unfold maxLen; omega
          case c4 => omega
          case c5 => simp; omega
          intro v' w4 hown' hgrow _ hat
          have hrow4 := RowR.snoc (y := ⟨.mk kd s nn pp xs, ya, yc⟩) HVT.out HVL.out HY.out hown' hgrow (by simpa using hat)
          have HROW4 := Lib.hid hrow4
          have HO4 := Lib.hid (only_row HO3.out hgrow hlo)
          have HR4 := Lib.hid (HR3.out.row hgrow (fun j e => by have := hlo j e; omega))
          clear hrow4 hown' hgrow hat hown hlo
          go_wp2_with fail
          go_roundg (L.length - n2)
          case measure => omega
          case rel => exact ⟨n2, ts ++ [.mk kd s nn pp xs], Nat.le_refl _, by omega, by rw [List.length_append]; show ts.length + 1 ≤ n2; omega, HR4.out, HROW4.out, HO4.out, HQ2⟩
end
end Go.Proofs.YtldgbdmiebipnaaDoor

namespace Go.Proofs.YtldgbdmiebipnaaDoor
open Go.RowKit

/-- A row that was begun later was begun earlier. -/
theorem RowR.since {W : World} {e : TypeId} {base base' : Nat} {v : Value} {ts : List Tr} (h : RowR W e base v ts) (hb : base' ≤ base) : RowR W e base' v ts := by
  obtain ⟨vs, h1, h2, hn, h3⟩ := h
  refine ⟨vs, h1, fun x hx => ?_, hn, ?_⟩
  · obtain ⟨lo, hi, k1, k2, k3, k4, k5⟩ := h2 x hx
    exact ⟨lo, hi, Nat.le_trans hb k1, k2, k3, k4, k5⟩
  · rcases h3 with h3 | ⟨q, cap, cur, r1, r2, r3⟩
    · exact .inl h3
    · exact .inr ⟨q, cap, cur, r1, Nat.le_trans hb r2, r3⟩

section
variable {g b o c : Nat} {L : List Tok}
/-- What a call of args leaves, at a bracket. -/
def ArgsPPost (g b o c : Nat) (L : List Tok) (i op : Nat) (w : World) (e : Ending) (w' : World) : Prop :=
  (op < 40 ∧ (termsP L (i + 1) sComma (op + 1)).2.2 = true ∧ isS (tkD L (termsP L (i + 1) sComma (op + 1)).2.1) sClose = true ∧ ∃ v, e = .returned v ∧ RowR w' 36 w.heap.size v (termsP L (i + 1) sComma (op + 1)).1 ∧ (termsP L (i + 1) sComma (op + 1)).1.length ≤ 1000000 ∧ Rdr w' g b o c L ((termsP L (i + 1) sComma (op + 1)).2.1 + 1) op ∧ w.grownBy w' (some g)) ∨
  (40 ≤ op ∧ e = diesAt L i ∧ w.grownBy w' (some g)) ∨
  (op < 40 ∧ ((termsP L (i + 1) sComma (op + 1)).2.2 = false ∨ isS (tkD L (termsP L (i + 1) sComma (op + 1)).2.1) sClose = false) ∧ e = diesAt L (termsP L (i + 1) sComma (op + 1)).2.1 ∧ w.grownBy w' (some g))

set_option maxRecDepth 100000 in
set_option maxHeartbeats 4000000 in
theorem args_one (hE : Ended L) (i op : Nat) (W : World) (h : Rdr W g b o c L i op) (hop : op ≤ 40) (hsg : ∀ s, s = sOpen ∨ s = sClose → ∀ k, k < L.length → ((tkD L k).text.toList == s.toList) = isS (tkD L k) s) (hb : isS (tkD L i) sOpen = true)
    (hT : ∀ (V : World), op < 40 → Rdr V g b o c L (i + 1) (op + 1) → Calls Tryd.prog 60 #[.pointer (some ⟨g, 0, none⟩), .string sComma] V (TermsPPost g b o c L (i + 1) sComma (op + 1) V)) :
    Calls Tryd.prog 67 #[.pointer (some ⟨g, 0, none⟩)] W (ArgsPPost g b o c L i op W) := by
  have HT := Lib.hid (show ∀ e w', ArgsPPost g b o c L i op W e w' ↔ ((op < 40 ∧ (termsP L (i + 1) sComma (op + 1)).2.2 = true ∧ isS (tkD L (termsP L (i + 1) sComma (op + 1)).2.1) sClose = true ∧ ∃ v, e = .returned v ∧ RowR w' 36 W.heap.size v (termsP L (i + 1) sComma (op + 1)).1 ∧ (termsP L (i + 1) sComma (op + 1)).1.length ≤ 1000000 ∧ Rdr w' g b o c L ((termsP L (i + 1) sComma (op + 1)).2.1 + 1) op ∧ W.grownBy w' (some g)) ∨
  (40 ≤ op ∧ e = diesAt L i ∧ W.grownBy w' (some g)) ∨
  (op < 40 ∧ ((termsP L (i + 1) sComma (op + 1)).2.2 = false ∨ isS (tkD L (termsP L (i + 1) sComma (op + 1)).2.1) sClose = false) ∧ e = diesAt L (termsP L (i + 1) sComma (op + 1)).2.1 ∧ W.grownBy w' (some g))) from fun _ _ => Iff.rfl)
  have h1 := h.c1
  have hf1 := h.f1
  have hg := h.glt
  have HR := Lib.hid h
  have F := Lib.hid (fail_any W h)
  have P1 := Lib.hid (pass_any sOpen W h hE (hsg sOpen (.inl rfl) i h.here))
  have P2 := Lib.hid (fun (k q : Nat) (V : World) (hv : Rdr V g b o c L k q) => pass_any sClose V hv hE (hsg sClose (.inr rfl) k hv.here))
  have HB := Lib.hid hb
  have HT2 := Lib.hid hT
  clear hsg hb hT hE h
  by_cases h40 : 40 ≤ op
  · have h40c : (op : Int) ≥ 40 := by omega
    unfold diesAt at F
    go_enter Tryd.func67, Tryd.ntmps67
    go_wp2_with fail
    refine F.out.mono ?_; rintro e w1 ⟨rfl, rfl⟩
    go_wp2_with fail
    exact ⟨rfl, (HT.out _ _).2 (.inr (.inl ⟨h40, rfl, only_refl _ _⟩))⟩
  · have h40c : (op : Int) < 40 := by omega
    have hop1 : IntKind.i64.wrap ((op : Int) + 1) = ((op + 1 : Nat) : Int) := by rw [IntKind.wrap_i64]; omega
    go_enter Tryd.func67, Tryd.ntmps67
    go_wp2_with fail
    refine P1.out.mono ?_; rintro e w1 (⟨_, rfl, hr1, ho1⟩ | ⟨hf, _⟩)
    case inr => rw [HB.out] at hf; cases hf
    have c1 := hr1.c1
    have f1 := hr1.f1
    have HR1 := Lib.hid hr1
    have HO1 := Lib.hid ho1
    clear hr1 ho1
    go_wp2_with fail
    have hr2 := HR1.out.opened (q := op + 1) (v := .int .i64 ((op : Int) + 1)) (by rw [show ((op + 1 : Nat) : Int) = (op : Int) + 1 from by omega])
    have HO2 := Lib.hid (only_set HO1.out 1 (.int .i64 ((op : Int) + 1)))
    have hz2 : (w1.setCell ⟨g, 1, none⟩ (.int .i64 ((op : Int) + 1))).heap.size = w1.heap.size := by simp
    obtain ⟨w2, hw2⟩ : ∃ w2, w1.setCell ⟨g, 1, none⟩ (.int .i64 ((op : Int) + 1)) = w2 := ⟨_, rfl⟩
    rw [hw2] at hr2 HO2 hz2 ⊢
    have hz1 := HO1.out.size
    have T := HT2.out w2 (by omega) hr2
    clear hw2 c1 f1
    obtain ⟨⟨ts, n, ok⟩, hx⟩ : ∃ x, termsP L (i + 1) sComma (op + 1) = x := ⟨_, rfl⟩
    unfold TermsPPost at T
    rw [hx] at T HT
    simp only at T HT
    replace T := Lib.hid T
    clear hx HT2 hr2
    refine T.out.mono ?_; rintro e w3 (⟨rfl, v, rfl, hrow, hlen, hr3, ho3⟩ | ⟨rfl, hd, ho3⟩)
    case inr =>
      have HO3 := Lib.hid (only_trans HO2.out ho3)
      have HD := Lib.hid hd
      unfold diesAt at hd
      subst hd
      clear ho3
      go_wp2_with fail
      exact ⟨rfl, (HT.out _ _).2 (.inr (.inr ⟨by omega, .inl (by first | rfl | trivial), HD.out, HO3.out⟩))⟩
    case inl =>
      have HO3 := Lib.hid (only_trans HO2.out ho3)
      have HR3 := Lib.hid hr3
      have HROW := Lib.hid hrow
      obtain ⟨a, cc, hv⟩ : ∃ a cc, v = .slice a ts.length cc := by
        obtain ⟨_, _, _, hown⟩ := hrow
        exact own_slice hown
      subst hv
      have hg2 : g < w2.heap.size := by omega
      clear hr3 ho3 hrow
      go_wp2_with fail
      refine (P2.out n (op + 1) _ HR3.out).mono ?_; rintro e w4 (⟨hc, rfl, hr4, ho4⟩ | ⟨hc, hd, ho4⟩)
      case inr =>
        have HO4 := Lib.hid (only_trans HO3.out ho4)
        have HD := Lib.hid hd
        have HC := Lib.hid hc
        unfold diesAt at hd
        subst hd
        clear ho4 hc
        go_wp2_with fail
        exact ⟨rfl, (HT.out _ _).2 (.inr (.inr ⟨by omega, .inr HC.out, HD.out, HO4.out⟩))⟩
      case inl =>
        have HC := Lib.hid hc
        have d1 : w4.cell? ⟨g, 1, none⟩ = some (.int .i64 ((op : Int) + 1)) := by rw [hr4.c1, show ((op + 1 : Nat) : Int) = (op : Int) + 1 from by omega]
        have e1 := hr4.f1
        have HR5 := Lib.hid (hr4.opened (q := op) (v := .int .i64 (op : Int)) rfl)
        have HO5 := Lib.hid (only_set (only_trans HO3.out ho4) 1 (.int .i64 (op : Int)))
        have HROW5 := Lib.hid (HROW.out.only (only_set ho4 1 (.int .i64 (op : Int))) hg2)
        have HZ := Lib.hid (show W.heap.size ≤ w2.heap.size by omega)
        have hsub : IntKind.i64.wrap ((op : Int) + 1 - 1) = (op : Int) := by rw [IntKind.wrap_i64]; omega
        clear hr4 ho4 hc
        go_wp2_with fail
        go_ret
        exact (HT.out _ _).2 (.inl ⟨by omega, (by first | rfl | trivial), HC.out, _, rfl, HROW5.out.since HZ.out, hlen, HR5.out, HO5.out⟩)
end
end Go.Proofs.YtldgbdmiebipnaaDoor

namespace Go.Proofs.YtldgbdmiebipnaaDoor
open Go.RowKit

/-- The signs of the grammar. -/
def signL : List ByteArray := [sOpen, sClose, sComma, sSemi, sDot, ⟨#[47]⟩, ⟨#[58]⟩, ⟨#[61]⟩]
/-- Tokens as a text has them. -/
structure Fine (L : List Tok) : Prop where
  ended : Ended L
  ok : ∀ i, TokOk (tkD L i)
  len : L.length ≤ 100000
  sign : ∀ s, s ∈ signL → ∀ k, k < L.length → ((tkD L k).text.toList == s.toList) = isS (tkD L k) s
  word0 : ∀ k, wordK (tkD L k) = true → (tkD L k).n = 0
  key : ∀ k, Lib.containsS keyList (tkD L k).text = true → (tkD L k).kind = 1

section
variable {g b o c : Nat} {L : List Tok}
theorem leafK_ways (k : Int) (s : ByteArray) (n p : Int) : (leafK ⟨k, s, n, p⟩ = 1 ∧ (k == 2) = true) ∨ (leafK ⟨k, s, n, p⟩ = 3 ∧ (k == 2) = false ∧ (k == 4) = true) ∨ (leafK ⟨k, s, n, p⟩ = 4 ∧ (k == 2) = false ∧ (k == 4) = false ∧ (k == 5) = true) ∨ (leafK ⟨k, s, n, p⟩ = 0 ∧ (k == 2) = false ∧ (k == 4) = false ∧ (k == 5) = false) := by
  unfold leafK
  simp only
  cases h2 : (k == 2) with
  | true => exact .inl ⟨if_pos (by simpa using h2), rfl⟩
  | false =>
    rw [if_neg (by simpa using h2)]
    cases h4 : (k == 4) with
    | true => exact .inr (.inl ⟨if_pos (by simpa using h4), rfl, rfl⟩)
    | false =>
      rw [if_neg (by simpa using h4)]
      cases h5 : (k == 5) with
      | true => exact .inr (.inr (.inl ⟨if_pos (by simpa using h5), rfl, rfl, rfl⟩))
      | false => exact .inr (.inr (.inr ⟨if_neg (by simpa using h5), rfl, rfl, rfl⟩))

theorem Box5.same {w w1 : World} {x : Nat} {x0 x1 x2 x3 x4 : Value} (h : Box5 w x x0 x1 x2 x3 x4) (hk : w1.heap[x]? = w.heap[x]?) : Box5 w1 x x0 x1 x2 x3 x4 :=
  ⟨(World.cell?_of_block (a := ⟨x, 0, none⟩) hk).trans h.c0, (World.cell?_of_block (a := ⟨x, 1, none⟩) hk).trans h.c1, (World.cell?_of_block (a := ⟨x, 2, none⟩) hk).trans h.c2, (World.cell?_of_block (a := ⟨x, 3, none⟩) hk).trans h.c3, (World.cell?_of_block (a := ⟨x, 4, none⟩) hk).trans h.c4,
    (World.frozen?_of_block (a := ⟨x, 0, none⟩) hk).trans h.f0, (World.frozen?_of_block (a := ⟨x, 1, none⟩) hk).trans h.f1, (World.frozen?_of_block (a := ⟨x, 2, none⟩) hk).trans h.f2, (World.frozen?_of_block (a := ⟨x, 3, none⟩) hk).trans h.f3, (World.frozen?_of_block (a := ⟨x, 4, none⟩) hk).trans h.f4⟩

set_option maxRecDepth 100000 in
set_option maxHeartbeats 4000000 in
theorem term_one (hF : Fine L) (i op : Nat) (W : World) (h : Rdr W g b o c L i op) (hop : op ≤ 40)
    (hT : ∀ (V : World), op < 40 → Rdr V g b o c L (i + 2) (op + 1) → Calls Tryd.prog 60 #[.pointer (some ⟨g, 0, none⟩), .string sComma] V (TermsPPost g b o c L (i + 2) sComma (op + 1) V)) :
    Calls Tryd.prog 44 #[.pointer (some ⟨g, 0, none⟩)] W (TermPPost g b o c L i op W) := by
  have hEi := hF.ended i
  have hok := hF.ok i
  have h0 := h.c0
  have hi := h.here
  have hg := h.glt
  have hlt := h.lt
  have hbw : b < W.heap.size := by omega
  have hbw1 : b < W.heap.size + 1 := by omega
  have hg1 : g < W.heap.size + 1 := by omega
  have hgne : W.heap.size ≠ g := by omega
  have HT := Lib.hid (show ∀ e w', TermPPost g b o c L i op W e w' ↔ (((termP L i op).2.2 = true ∧ ∃ y : Rv, e = .returned y.val ∧ y.t = (termP L i op).1 ∧ MadeR W w' y ∧ Rdr w' g b o c L (termP L i op).2.1 op ∧ W.grownBy w' (some g)) ∨
    ((termP L i op).2.2 = false ∧ e = diesAt L (termP L i op).2.1 ∧ W.grownBy w' (some g))) from fun _ _ => Iff.rfl)
  have HL1 := Lib.hid (fun h => termP_leaf (L := L) (i := i) (op := op) h)
  have HL2 := Lib.hid (fun h1 h2 => termP_none (L := L) (i := i) (op := op) h1 h2)
  have HL3 := Lib.hid (fun h1 h2 h3 => termP_const (L := L) (i := i) (op := op) h1 h2 h3)
  have HL4 := Lib.hid (fun h1 h2 h3 h4 => termP_deep (L := L) (i := i) (op := op) h1 h2 h3 h4)
  have HL5 := Lib.hid (fun h1 h2 h3 h4 => termP_args (L := L) (i := i) (op := op) h1 h2 h3 h4)
  have hwn := hF.word0 i
  have hB0 : Below W.heap.size W (W.alloc (.cells #[.int .i64 0, .string ⟨#[]⟩, .int .i64 0, .int .i64 0, .slice none 0 0] 36)) := (Below.refl _ _).alloc (Nat.le_refl _) _
  have hr0 := h.below hB0
  have T := Lib.hid (fun kd h1 => take_any kd _ hr0 h1 hF.len)
  have WD := word_at _ hr0 hF.ended hF.len
  unfold TakePost at WD
  replace WD := Lib.hid WD
  have NX := Lib.hid (fun (V : World) (hv : Rdr V g b o c L (i + 1) op) => (next_any sOpen V hv).mono fun e w' hh => (show e = .returned (.bool (isS (tkD L (i + 1)) sOpen)) ∧ V = w' by rw [hF.sign sOpen (by unfold signL; simp) _ hv.here] at hh; exact hh))
  have AG := Lib.hid (fun (V : World) (hv : Rdr V g b o c L (i + 1) op) hb => args_one hF.ended (i + 1) op V hv hop (fun s hs => hF.sign s (by unfold signL; rcases hs with rfl | rfl <;> simp)) hb hT)
  obtain ⟨t0, t1, t2, t3⟩ := h.toks i hi
  obtain ⟨t, ht⟩ : ∃ t, tkD L i = t := ⟨_, rfl⟩
  have hti : L[i] = t := by rw [← ht, tkD_at hi]
  rw [ht] at hEi hok T WD HL1 HL2 HL3 HL4 HL5 hwn
  rw [hti] at t0 t1 t2 t3
  have HD := Lib.hid (show diesAt L i = .panicked [{ v := .iface 26 (.agg #[.int .i64 2, .int .i64 t.place]), recovered := false }] by unfold diesAt fltV; rw [ht])
  clear ht hti hT
  obtain ⟨tk, tx, tn, tp⟩ := t
  obtain ⟨ok1, ok2, ok3, ok4, ok5⟩ := hok
  simp only at t0 t1 t2 t3 hEi T WD HL1 HL2 HL3 HL4 HL5 HD ok1 ok2 ok3 ok4 ok5 hwn
  have BX := box5_new W (.int .i64 0) (.string ⟨#[]⟩) (.int .i64 0) (.int .i64 0) (.slice none 0 0) 36
  obtain ⟨n, hn⟩ : ∃ n, L.length - i = n := ⟨_, rfl⟩
  obtain ⟨k, hk⟩ : ∃ k, c - i = k := ⟨_, rfl⟩
  obtain ⟨a, ha⟩ : ∃ a, o + i * 4 = a := ⟨_, rfl⟩
  have hn0 : (0 : Int) < (n : Int) := by omega
  rw [hn, hk, ha] at h0
  rw [ha] at t0 t1 t2 t3
  clear hn hk ha
  have hz0 : (W.alloc (.cells #[.int .i64 0, .string ⟨#[]⟩, .int .i64 0, .int .i64 0, .slice none 0 0] 36)).heap.size = W.heap.size + 1 := by simp
  obtain ⟨w0, hw0⟩ : ∃ w0, W.alloc (.cells #[.int .i64 0, .string ⟨#[]⟩, .int .i64 0, .int .i64 0, .slice none 0 0] 36) = w0 := ⟨_, rfl⟩
  rw [hw0] at hB0 hr0 T WD BX hz0
  replace hw0 := Lib.hid hw0
  have HB0 := Lib.hid (only_below hB0 (some g))
  have HBX := Lib.hid BX
  clear hB0 hr0 BX h
  -- a token that is a term by itself
  have LEAF : ∀ (kd : Int) (tx : ByteArray) (tn tp : Int), FitR kd tx tn tp → termP L i op = (.mk kd tx tn tp [], i + 1, true) → ∀ w1, Rdr w1 g b o c L (i + 1) op → W.grownBy w1 (some g) → TermPPost g b o c L i op W (.returned (.agg #[.int .i64 kd, .string tx, .int .i64 tn, .int .i64 tp, .slice none 0 0])) w1 := by
    intro kd tx tn tp hfit hP w1 hr1 ho1
    refine (HT.out _ _).2 (.inl ⟨by rw [hP], ⟨.mk kd tx tn tp [], none, 0⟩, rfl, by rw [hP], rv_plain hfit _ _, by rw [hP]; exact hr1, ho1⟩)
  replace LEAF := Lib.hid LEAF
  rcases leafK_ways tk tx tn tp with ⟨hlk, q2⟩ | ⟨hlk, q2, q4⟩ | ⟨hlk, q2, q4, q5⟩ | ⟨hlk, q2, q4, q5⟩
  case inl =>
    have HP := Lib.hid (HL1.out (by rw [hlk]; decide))
    rw [hlk] at HP
    have T' := Lib.hid (T.out 1 (hEi (by rw [show tk = 2 by simpa using q2]; decide)))
    clear HL1 HL2 HL3 HL4 HL5 hEi hlk T WD NX AG
    go_enter Tryd.func44, Tryd.ntmps44
    go_wp2_with fail
    rw [hw0.out]
    refine T'.out.mono ?_; rintro e w1 ⟨rfl, hr1, ho1⟩
    have HX1 := Lib.hid (HBX.out.only ho1 hgne)
    have HR1 := Lib.hid (hr1.sets5 (x := W.heap.size) hg (.int .i64 1) (.string tx) (.int .i64 tn) (.int .i64 tp) (.slice none 0 0))
    have HO1 := Lib.hid (only_sets5 (only_trans HB0.out ho1) (Nat.le_refl _) (.int .i64 1) (.string tx) (.int .i64 tn) (.int .i64 tp) (.slice none 0 0))
    have HX2 := Lib.hid (HX1.out.sets (.int .i64 1) (.string tx) (.int .i64 tn) (.int .i64 tp) (.slice none 0 0))
    obtain ⟨r0, r1, r2, r3, r4, rf0, rf1, rf2, rf3, rf4⟩ := HX1.out
    clear hr1 ho1 t0 t1 t2 t3 h0
    go_wp2_with fail
    obtain ⟨r0, r1, r2, r3, r4, _, _, _, _, _⟩ := HX2.out
    refine bodyPost_ret (v := .agg #[.int .i64 1, .string tx, .int .i64 tn, .int .i64 tp, .slice none 0 0]) (by simp [results, Tryd.results44, go_sem, r0, r1, r2, r3, r4]) rfl ?_
    exact LEAF.out 1 tx tn tp ⟨by omega, by omega, ok1, ok2, ok3, ok4, ok5⟩ HP.out _ HR1.out HO1.out
  case inr.inl =>
    have HP := Lib.hid (HL1.out (by rw [hlk]; decide))
    rw [hlk] at HP
    have T' := Lib.hid (T.out 3 (hEi (by rw [show tk = 4 by simpa using q4]; decide)))
    clear HL1 HL2 HL3 HL4 HL5 hEi hlk T WD NX AG
    go_enter Tryd.func44, Tryd.ntmps44
    go_wp2_with fail
    rw [hw0.out]
    refine T'.out.mono ?_; rintro e w1 ⟨rfl, hr1, ho1⟩
    have HX1 := Lib.hid (HBX.out.only ho1 hgne)
    have HR1 := Lib.hid (hr1.sets5 (x := W.heap.size) hg (.int .i64 3) (.string tx) (.int .i64 tn) (.int .i64 tp) (.slice none 0 0))
    have HO1 := Lib.hid (only_sets5 (only_trans HB0.out ho1) (Nat.le_refl _) (.int .i64 3) (.string tx) (.int .i64 tn) (.int .i64 tp) (.slice none 0 0))
    have HX2 := Lib.hid (HX1.out.sets (.int .i64 3) (.string tx) (.int .i64 tn) (.int .i64 tp) (.slice none 0 0))
    obtain ⟨r0, r1, r2, r3, r4, rf0, rf1, rf2, rf3, rf4⟩ := HX1.out
    clear hr1 ho1 t0 t1 t2 t3 h0
    go_wp2_with fail
    obtain ⟨r0, r1, r2, r3, r4, _, _, _, _, _⟩ := HX2.out
    refine bodyPost_ret (v := .agg #[.int .i64 3, .string tx, .int .i64 tn, .int .i64 tp, .slice none 0 0]) (by simp [results, Tryd.results44, go_sem, r0, r1, r2, r3, r4]) rfl ?_
    exact LEAF.out 3 tx tn tp ⟨by omega, by omega, ok1, ok2, ok3, ok4, ok5⟩ HP.out _ HR1.out HO1.out
  case inr.inr.inl =>
    have HP := Lib.hid (HL1.out (by rw [hlk]; decide))
    rw [hlk] at HP
    have T' := Lib.hid (T.out 4 (hEi (by rw [show tk = 5 by simpa using q5]; decide)))
    clear HL1 HL2 HL3 HL4 HL5 hEi hlk T WD NX AG
    go_enter Tryd.func44, Tryd.ntmps44
    go_wp2_with fail
    rw [hw0.out]
    refine T'.out.mono ?_; rintro e w1 ⟨rfl, hr1, ho1⟩
    have HX1 := Lib.hid (HBX.out.only ho1 hgne)
    have HR1 := Lib.hid (hr1.sets5 (x := W.heap.size) hg (.int .i64 4) (.string tx) (.int .i64 tn) (.int .i64 tp) (.slice none 0 0))
    have HO1 := Lib.hid (only_sets5 (only_trans HB0.out ho1) (Nat.le_refl _) (.int .i64 4) (.string tx) (.int .i64 tn) (.int .i64 tp) (.slice none 0 0))
    have HX2 := Lib.hid (HX1.out.sets (.int .i64 4) (.string tx) (.int .i64 tn) (.int .i64 tp) (.slice none 0 0))
    obtain ⟨r0, r1, r2, r3, r4, rf0, rf1, rf2, rf3, rf4⟩ := HX1.out
    clear hr1 ho1 t0 t1 t2 t3 h0
    go_wp2_with fail
    obtain ⟨r0, r1, r2, r3, r4, _, _, _, _, _⟩ := HX2.out
    refine bodyPost_ret (v := .agg #[.int .i64 4, .string tx, .int .i64 tn, .int .i64 tp, .slice none 0 0]) (by simp [results, Tryd.results44, go_sem, r0, r1, r2, r3, r4]) rfl ?_
    exact LEAF.out 4 tx tn tp ⟨by omega, by omega, ok1, ok2, ok3, ok4, ok5⟩ HP.out _ HR1.out HO1.out
  case inr.inr.inr =>
    have WD' := WD
    clear HL1 T WD LEAF
    cases hwk : wordK ⟨tk, tx, tn, tp⟩ with
    | false =>
      have HP := Lib.hid (HL2.out hlk hwk)
      rw [hwk] at WD'
      clear HL2 HL3 HL4 HL5 hEi hlk NX AG hwk
      go_enter Tryd.func44, Tryd.ntmps44
      go_wp2_with fail
      rw [hw0.out]
      refine WD'.out.mono ?_; rintro e w1 (⟨hf, _⟩ | ⟨_, hd, ho1⟩)
      case inl => cases hf
      have HO1 := Lib.hid (only_trans HB0.out ho1)
      have HE := Lib.hid hd
      rw [HD.out] at hd
      subst hd
      clear ho1
      go_wp2_with fail
      exact ⟨rfl, (HT.out _ _).2 (.inr ⟨by rw [HP.out], by rw [HP.out]; exact HE.out, HO1.out⟩)⟩
    | true =>
      have htk : tk = 1 := wordK_kind hwk
      have hi1 : i + 1 < L.length := hEi (by rw [htk]; decide)
      have hfit : FitR 5 tx 0 tp := ⟨by omega, by omega, by omega, by omega, ok3, ok4, ok5⟩
      have htn : tn = 0 := hwn hwk
      have HL3' := Lib.hid (HL3.out hlk hwk)
      have HL4' := Lib.hid (HL4.out hlk hwk)
      have HL5' := Lib.hid (HL5.out hlk hwk)
      rw [hwk] at WD'
      clear HL2 HL3 HL4 HL5 hEi hlk hwn hwk htk
      go_enter Tryd.func44, Tryd.ntmps44
      go_wp2_with fail
      rw [hw0.out]
      refine WD'.out.mono ?_; rintro e w1 (⟨_, rfl, hr1, ho1⟩ | ⟨hf, _⟩)
      case inr => cases hf
      subst htn
      have hX1 := HBX.out.only ho1 hgne
      have hO1 := only_trans HB0.out ho1
      have hs1 := ho1.size
      have hB2 : Below w1.heap.size w1 (w1.alloc (.cells #[.int .i64 5, .string tx, .int .i64 0, .int .i64 tp, .slice none 0 0] 36)) := (Below.refl _ _).alloc (Nat.le_refl _) _
      have hr2 := hr1.below hB2
      have hO2 := only_next hO1 hB2
      have hX2 := hX1.below hB2 (by omega)
      have hY2 := box5_new w1 (.int .i64 5) (.string tx) (.int .i64 0) (.int .i64 tp) (.slice none 0 0) 36
      have hz2 : (w1.alloc (.cells #[.int .i64 5, .string tx, .int .i64 0, .int .i64 tp, .slice none 0 0] 36)).heap.size = w1.heap.size + 1 := by simp
      obtain ⟨w2, hw2⟩ : ∃ w2, w1.alloc (.cells #[.int .i64 5, .string tx, .int .i64 0, .int .i64 tp, .slice none 0 0] 36) = w2 := ⟨_, rfl⟩
      rw [hw2] at hr2 hO2 hX2 hY2 hz2
      obtain ⟨y, hy⟩ : ∃ y, w1.heap.size = y := ⟨_, rfl⟩
      rw [hy] at hY2 hz2 hs1
      replace hw2 := Lib.hid hw2
      have HY := Lib.hid hy
      have HR2 := Lib.hid hr2
      have HO2 := Lib.hid hO2
      have HX2 := Lib.hid hX2
      have HY2 := Lib.hid hY2
      clear hr1 ho1 hX1 hO1 hB2 hr2 hO2 hX2 hY2 t0 t1 t2 t3 h0 hy
      go_wp2_with fail
      rw [hw2.out]
      (try rw [HY.out])
      refine (NX.out _ HR2.out).mono ?_; rintro e w3 ⟨rfl, rfl⟩
      cases hs : isS (tkD L (i + 1)) sOpen with
      | false =>
        have HP := Lib.hid (HL3'.out hs)
        have HX3 := Lib.hid (HX2.out.sets (.int .i64 5) (.string tx) (.int .i64 0) (.int .i64 tp) (.slice none 0 0))
        have HR3 := Lib.hid (HR2.out.sets5 (x := W.heap.size) hg (.int .i64 5) (.string tx) (.int .i64 0) (.int .i64 tp) (.slice none 0 0))
        have HO3 := Lib.hid (only_sets5 HO2.out (Nat.le_refl _) (.int .i64 5) (.string tx) (.int .i64 0) (.int .i64 tp) (.slice none 0 0))
        obtain ⟨y0, y1, y2, y3, y4, _, _, _, _, _⟩ := HY2.out
        obtain ⟨r0, r1, r2, r3, r4, rf0, rf1, rf2, rf3, rf4⟩ := HX2.out
        clear hs NX AG
        go_wp2_with fail
        obtain ⟨r0, r1, r2, r3, r4, _, _, _, _, _⟩ := HX3.out
        refine bodyPost_ret (v := .agg #[.int .i64 5, .string tx, .int .i64 0, .int .i64 tp, .slice none 0 0]) (by simp [results, Tryd.results44, go_sem, r0, r1, r2, r3, r4]) rfl ?_
        exact (HT.out _ _).2 (.inl ⟨by rw [HP.out], ⟨.mk 5 tx 0 tp [], none, 0⟩, rfl, by rw [HP.out], rv_plain hfit _ _, by rw [HP.out]; exact HR3.out, HO3.out⟩)
      | true =>
        have HL4'' := Lib.hid (HL4'.out hs)
        have HL5'' := Lib.hid (HL5'.out hs)
        have A := Lib.hid (AG.out w2 HR2.out hs)
        obtain ⟨⟨ts, n2, ok⟩, hx⟩ : ∃ x, termsP L (i + 2) sComma (op + 1) = x := ⟨_, rfl⟩
        unfold ArgsPPost at A
        rw [show i + 1 + 1 = i + 2 from rfl, hx] at A
        rw [hx] at HL5''
        simp only at A HL5''
        clear hs NX AG hx HL3' HL4' HL5'
        go_wp2_with fail
        refine A.out.mono ?_; rintro e w3 (⟨hop1, hok, hcl, v, rfl, hrow, hlen, hr3, ho3⟩ | ⟨h40, hd, ho3⟩ | ⟨hop1, hbad, hd, ho3⟩)
        case inr.inl =>
          have HP := Lib.hid (HL4''.out h40)
          have HO3 := Lib.hid (only_trans HO2.out ho3)
          have HE := Lib.hid hd
          unfold diesAt at hd
          subst hd
          clear ho3
          go_wp2_with fail
          exact ⟨rfl, (HT.out _ _).2 (.inr ⟨by rw [HP.out], by rw [HP.out]; exact HE.out, HO3.out⟩)⟩
        case inr.inr =>
          have HP := Lib.hid ((HL5''.out (by omega)).trans (if_pos hbad))
          have HO3 := Lib.hid (only_trans HO2.out ho3)
          have HE := Lib.hid hd
          unfold diesAt at hd
          subst hd
          clear ho3 hbad
          go_wp2_with fail
          exact ⟨rfl, (HT.out _ _).2 (.inr ⟨by rw [HP.out], by rw [HP.out]; exact HE.out, HO3.out⟩)⟩
        case inl =>
          have HP := Lib.hid ((HL5''.out (by omega)).trans (if_neg (by rw [hok, hcl]; simp)))
          obtain ⟨aY, cY, hv⟩ : ∃ a cc, v = .slice a ts.length cc := by
            obtain ⟨_, _, _, hown⟩ := hrow
            exact own_slice hown
          subst hv
          have HM := Lib.hid (hrow.made (w := w2) (Nat.le_refl _) (by omega))
          have HO3 := Lib.hid (only_trans HO2.out ho3)
          have HR3 := Lib.hid hr3
          have hsz3 := ho3.size
          have HX3 := Lib.hid (HX2.out.only ho3 hgne)
          have HY3 := Lib.hid (HY2.out.only ho3 (by omega))
          clear hok hcl hrow hr3 ho3
          have HY4 := Lib.hid (HY3.out.set4 (.slice aY ts.length cY))
          have HK4 := Lib.hid (fun j (h : j ≠ y) => Below.heap_setCell w3 ⟨y, 4, none⟩ (.slice aY ts.length cY) j h)
          have HX4 := Lib.hid (HX3.out.same (HK4.out W.heap.size (by omega)))
          have HR4 := Lib.hid (HR3.out.stay (HK4.out g (by omega)) (HK4.out b (by omega)))
          have HO4 := Lib.hid (only_put HO3.out (p := ⟨y, 4, none⟩) (by show W.heap.size ≤ y; omega) (.slice aY ts.length cY))
          have hz4 : (w3.setCell ⟨y, 4, none⟩ (.slice aY ts.length cY)).heap.size = w3.heap.size := by simp
          obtain ⟨w4, hw4⟩ : ∃ w4, w3.setCell ⟨y, 4, none⟩ (.slice aY ts.length cY) = w4 := ⟨_, rfl⟩
          rw [hw4] at HY4 HK4 HX4 HR4 HO4 hz4
          have HX5 := Lib.hid (HX4.out.sets (.int .i64 5) (.string tx) (.int .i64 0) (.int .i64 tp) (.slice aY ts.length cY))
          have HR5 := Lib.hid (HR4.out.sets5 (x := W.heap.size) hg (.int .i64 5) (.string tx) (.int .i64 0) (.int .i64 tp) (.slice aY ts.length cY))
          have HO5 := Lib.hid (only_sets5 HO4.out (Nat.le_refl _) (.int .i64 5) (.string tx) (.int .i64 0) (.int .i64 tp) (.slice aY ts.length cY))
          have HMK := Lib.hid (rv_args (w := W) (U := sets5 w4 W.heap.size (.int .i64 5) (.string tx) (.int .i64 0) (.int .i64 tp) (.slice aY ts.length cY)) hfit HM.out (by omega) (by simp [hz4]) (fun j j1 j2 => by
            rw [sets5_heap _ _ _ _ _ _ _ j (by omega), HK4.out j (by omega)]))
          obtain ⟨y0, y1, y2, y3, y4, yf0, yf1, yf2, yf3, yf4⟩ := HY3.out
          obtain ⟨z0, z1, z2, z3, z4, _, _, _, _, _⟩ := HY4.out
          obtain ⟨r0, r1, r2, r3, r4, rf0, rf1, rf2, rf3, rf4⟩ := HX4.out
          clear hw2 hw0
          go_wp2_with fail
          (try rw [hw4])
          obtain ⟨r0, r1, r2, r3, r4, _, _, _, _, _⟩ := HX5.out
          refine bodyPost_ret (v := .agg #[.int .i64 5, .string tx, .int .i64 0, .int .i64 tp, .slice aY ts.length cY]) (by simp [results, Tryd.results44, go_sem, r0, r1, r2, r3, r4]) rfl ?_
          exact (HT.out _ _).2 (.inl ⟨by rw [HP.out], ⟨.mk 5 tx 0 tp ts, aY, cY⟩, rfl, by rw [HP.out], HMK.out, by rw [HP.out]; exact HR5.out, HO5.out⟩)

/-- term and terms do as they should. -/
theorem term_both (hF : Fine L) : ∀ (m : Nat),
    (∀ (i op : Nat), L.length - i ≤ m → op ≤ 40 → ∀ W, Rdr W g b o c L i op → Calls Tryd.prog 44 #[.pointer (some ⟨g, 0, none⟩)] W (TermPPost g b o c L i op W)) ∧
    ∀ (i : Nat) (sg : ByteArray) (op : Nat), L.length - i ≤ m → op ≤ 40 → sg ∈ signL → ∀ W, Rdr W g b o c L i op → Calls Tryd.prog 60 #[.pointer (some ⟨g, 0, none⟩), .string sg] W (TermsPPost g b o c L i sg op W)
  | 0 => ⟨fun i op h _ W hr => by have := hr.here; omega, fun i sg op h _ _ W hr => by have := hr.here; omega⟩
  | m + 1 => by
    obtain ⟨_, h2⟩ := term_both hF m
    have ht : ∀ (i op : Nat), L.length - i ≤ m + 1 → op ≤ 40 → ∀ W, Rdr W g b o c L i op → Calls Tryd.prog 44 #[.pointer (some ⟨g, 0, none⟩)] W (TermPPost g b o c L i op W) := fun i op h hop W hr =>
      term_one hF i op W hr hop fun V h40 hv => h2 (i + 2) sComma (op + 1) (by have := hr.here; omega) (by omega) (by unfold signL; simp) V hv
    exact ⟨ht, fun i sg op h hop hs W hr => terms_one hF.ended hF.len i sg op W hr (hF.sign sg hs) fun j V hj hv => ht j op (by omega) hop V hv⟩
theorem term_any (hF : Fine L) (i op : Nat) (hop : op ≤ 40) (W : World) (h : Rdr W g b o c L i op) : Calls Tryd.prog 44 #[.pointer (some ⟨g, 0, none⟩)] W (TermPPost g b o c L i op W) := (term_both hF _).1 i op (Nat.le_refl _) hop W h
theorem terms_any (hF : Fine L) (i : Nat) (sg : ByteArray) (op : Nat) (hop : op ≤ 40) (hs : sg ∈ signL) (W : World) (h : Rdr W g b o c L i op) : Calls Tryd.prog 60 #[.pointer (some ⟨g, 0, none⟩), .string sg] W (TermsPPost g b o c L i sg op W) := (term_both hF _).2 i sg op (Nat.le_refl _) hop hs W h
end
end Go.Proofs.YtldgbdmiebipnaaDoor

namespace Go.Proofs.YtldgbdmiebipnaaDoor
open Go.RowKit

theorem Box.fill {w : World} {g : Nat} {x0 x1 x2 x3 : Value} (h : Box w g x0 x1 x2 x3) (y0 y1 y2 y3 : Value) :
    Box ((((w.setCell ⟨g, 0, none⟩ y0).setCell ⟨g, 1, none⟩ y1).setCell ⟨g, 2, none⟩ y2).setCell ⟨g, 3, none⟩ y3) g y0 y1 y2 y3 where
  c0 := by
    rw [World.cell?_setCell_other _ _ _ _ (fun e => by cases e), World.cell?_setCell_other _ _ _ _ (fun e => by cases e), World.cell?_setCell_other _ _ _ _ (fun e => by cases e)]
    exact World.cell?_setCell_same _ _ _ h.c0
  c1 := by
    rw [World.cell?_setCell_other _ _ _ _ (fun e => by cases e), World.cell?_setCell_other _ _ _ _ (fun e => by cases e)]
    refine World.cell?_setCell_same (u := x1) _ _ _ ?_
    rw [World.cell?_setCell_other _ _ _ _ (fun e => by cases e)]; exact h.c1
  c2 := by
    rw [World.cell?_setCell_other _ _ _ _ (fun e => by cases e)]
    refine World.cell?_setCell_same (u := x2) _ _ _ ?_
    rw [World.cell?_setCell_other _ _ _ _ (fun e => by cases e), World.cell?_setCell_other _ _ _ _ (fun e => by cases e)]; exact h.c2
  c3 := by
    refine World.cell?_setCell_same (u := x3) _ _ _ ?_
    rw [World.cell?_setCell_other _ _ _ _ (fun e => by cases e), World.cell?_setCell_other _ _ _ _ (fun e => by cases e), World.cell?_setCell_other _ _ _ _ (fun e => by cases e)]; exact h.c3
  f0 := by simp [h.f0]
  f1 := by simp [h.f1]
  f2 := by simp [h.f2]
  f3 := by simp [h.f3]
/-- A box whose block stands as it stood. -/
theorem Box.stays {w w1 : World} {g : Nat} {x0 x1 x2 x3 : Value} (h : Box w g x0 x1 x2 x3) (hb : w1.heap[g]? = w.heap[g]?) : Box w1 g x0 x1 x2 x3 := by
  have hc : ∀ i, w1.cell? ⟨g, i, none⟩ = w.cell? ⟨g, i, none⟩ := fun i => World.cell?_of_block (w := w) (w' := w1) (a := ⟨g, i, none⟩) hb
  have hf : ∀ i, w1.frozen? ⟨g, i, none⟩ = w.frozen? ⟨g, i, none⟩ := fun i => by simp [World.frozen?, hb]
  exact ⟨(hc 0).trans h.c0, (hc 1).trans h.c1, (hc 2).trans h.c2, (hc 3).trans h.c3, (hf 0).trans h.f0, (hf 1).trans h.f1, (hf 2).trans h.f2, (hf 3).trans h.f3⟩
/-- One cell of a box is written. -/
theorem Box.put2 {w : World} {g : Nat} {x0 x1 x2 x3 : Value} (h : Box w g x0 x1 x2 x3) (y : Value) : Box (w.setCell ⟨g, 2, none⟩ y) g x0 x1 y x3 where
  c0 := by rw [World.cell?_setCell_other _ _ _ _ (fun e => by cases e)]; exact h.c0
  c1 := by rw [World.cell?_setCell_other _ _ _ _ (fun e => by cases e)]; exact h.c1
  c2 := World.cell?_setCell_same (u := x2) _ _ _ h.c2
  c3 := by rw [World.cell?_setCell_other _ _ _ _ (fun e => by cases e)]; exact h.c3
  f0 := by simp [h.f0]
  f1 := by simp [h.f1]
  f2 := by simp [h.f2]
  f3 := by simp [h.f3]
theorem Box.put3 {w : World} {g : Nat} {x0 x1 x2 x3 : Value} (h : Box w g x0 x1 x2 x3) (y : Value) : Box (w.setCell ⟨g, 3, none⟩ y) g x0 x1 x2 y where
  c0 := by rw [World.cell?_setCell_other _ _ _ _ (fun e => by cases e)]; exact h.c0
  c1 := by rw [World.cell?_setCell_other _ _ _ _ (fun e => by cases e)]; exact h.c1
  c2 := by rw [World.cell?_setCell_other _ _ _ _ (fun e => by cases e)]; exact h.c2
  c3 := World.cell?_setCell_same (u := x3) _ _ _ h.c3
  f0 := by simp [h.f0]
  f1 := by simp [h.f1]
  f2 := by simp [h.f2]
  f3 := by simp [h.f3]
/-- The three boxes. -/
def boxesP (g k : Nat) : Prop := g ≤ k ∧ k ≤ g + 2
/-- Z, and the three boxes. -/
def zP (Z : Nat → Prop) (g k : Nat) : Prop := Z k ∨ boxesP g k
structure OneSt (A : World) (R Z : Nat → Prop) (w0 : World) (T : TypeId) (g : Nat) (x : It) (t : Tok) (vw vt : Value) (W : World) : Prop where
  bel : Below A.heap.size A W
  arg : Box W g (.string x.key) (.int .i64 x.spot) vw vt
  res : ∃ y0 y1 y2 y3, Box W (g + 1) y0 y1 y2 y3
  tok : Box W (g + 1 + 1) (.int .i64 t.kind) (.string t.text) (.int .i64 t.n) (.int .i64 t.place)
  ge : A.heap.size ≤ g
  zlt : ∀ k, Z k → k < g
  rows : RowsI W (zP Z g) T A.heap.size vw x.words vt x.trees
  kept : ∀ k, k < g → ¬ R k → W.heap[k]? = w0.heap[k]?
  rin : ∀ k, rowsP vw vt k → R k ∨ g ≤ k
theorem OneSt.lt {A w0 : World} {R Z : Nat → Prop} {T : TypeId} {g : Nat} {x : It} {t : Tok} {vw vt : Value} {W : World} (h : OneSt A R Z w0 T g x t vw vt W) : g + 2 < W.heap.size := lt_of_cellR h.tok.c0
theorem OneSt.below {A w0 : World} {R Z : Nat → Prop} {T : TypeId} {g : Nat} {x : It} {t : Tok} {vw vt : Value} {W W' : World} (h : OneSt A R Z w0 T g x t vw vt W) (hb : Below W.heap.size W W') : OneSt A R Z w0 T g x t vw vt W' := by
  have hl := h.lt
  have := h.bel.size
  exact ⟨h.bel.trans (hb.mono (by omega)), h.arg.below hb (by omega), (by obtain ⟨y0, y1, y2, y3, hy⟩ := h.res; exact ⟨y0, y1, y2, y3, hy.below hb (by omega)⟩), h.tok.below hb (by omega), h.ge, h.zlt, h.rows.below hb, fun k hk q => (hb.block k (by omega)).trans (h.kept k hk q), h.rin⟩
/-- A row has grown: the boxes stand. -/
theorem OneSt.argGrown {A w0 : World} {R Z : Nat → Prop} {T : TypeId} {g : Nat} {x : It} {t : Tok} {vw vt : Value} {W W' : World} (h : OneSt A R Z w0 T g x t vw vt W) {o : Option Nat} (ho : ∀ k, o = some k → rowsP vw vt k) (hg : W.grownBy W' o) : Box W' g (.string x.key) (.int .i64 x.spot) vw vt :=
  h.arg.stays (hg.block g (by have := h.lt; omega) fun e => h.rows.out g (ho g e.symm) (.inr ⟨Nat.le_refl _, by omega⟩))
/-- More words. -/
theorem OneSt.words {A w0 : World} {R Z : Nat → Prop} {T : TypeId} {g : Nat} {x : It} {t : Tok} {vw vw' vt : Value} {W W' : World} {vs news : List Rv} {n : Nat} (h : OneSt A R Z w0 T g x t vw vt W) (h1 : vs.map Rv.t = x.words) (h2 : ∀ y ∈ vs, LiveA W (rowsZ (zP Z g) vw vt) A.heap.size y)
    (hy : ∀ y ∈ news, LiveA W (rowsZ (zP Z g) vw vt) A.heap.size y) (hn : x.words.length + news.length = n) (hown : W'.ownsRow A.heap.size T 5 vw' n (rowRv vs ++ rowRv news)) (hg : W.grownBy W' vw.ownBlock) (hat : vw'.ownBlock = vw.ownBlock ∨ vw'.ownBlock = some W.heap.size) :
    OneSt A R Z w0 T g { x with words := x.words ++ news.map Rv.t } t vw' vt (W'.setCell ⟨g, 2, none⟩ vw') := by
  have hl := h.lt
  have hZ : ∀ k, zP Z g k → k < W.heap.size := fun k hk => by
    rcases hk with hk | hk
    · have := h.zlt k hk; omega
    · have := hk.2; omega
  have hS : rowsZ (zP Z g) vt vw = rowsZ (zP Z g) vw vt := by funext k; unfold rowsZ; rw [rowsP_swap]
  have hr := (h.rows.swap.more h1 (by rw [hS]; exact h2) (by rw [hS]; exact hy) hn hown hg hat hZ).swap
  have hlt := h.rows.lt
  have hout := h.rows.out
  have hst : ∀ k, boxesP g k → W'.heap[k]? = W.heap[k]? := fun k hk => hg.block k (hZ k (.inr hk)) fun q => hout k (.inl q.symm) (.inr hk)
  have hb' : Below A.heap.size A W' := h.bel.grown hg h.bel.size fun k q => (hlt k (.inl q)).1
  have hs : (W'.setCell ⟨g, 2, none⟩ vw').heap.size = W'.heap.size := by simp
  refine ⟨hb'.setCell (p := ⟨g, 2, none⟩) h.ge _, (h.arg.stays (hst g ⟨Nat.le_refl _, by omega⟩)).put2 _, (by obtain ⟨y0, y1, y2, y3, hy'⟩ := h.res; exact ⟨y0, y1, y2, y3, (hy'.stays (hst _ ⟨by omega, by omega⟩)).stays (Below.heap_setCell _ _ _ _ (show g + 1 ≠ g by omega))⟩), (h.tok.stays (hst _ ⟨by omega, by omega⟩)).stays (Below.heap_setCell _ _ _ _ (show g + 1 + 1 ≠ g by omega)), h.ge, h.zlt, ?_, fun k hk q => ?_, fun k e => ?_⟩
  · exact hr.aside (by rw [hs]; exact Nat.le_refl _) fun k hk => Below.heap_setCell _ _ _ _ (show k ≠ g from fun e => hk (by rw [e]; exact .inr ⟨Nat.le_refl _, by omega⟩))
  · rw [Below.heap_setCell _ _ _ _ (show k ≠ g by omega), hg.block k (by omega) fun e => ?_]
    · exact h.kept k hk q
    · rcases h.rin k (.inl e.symm) with r | r
      · exact q r
      · omega
  · rcases e with e | e
    · rcases hat with r | r
      · exact h.rin k (.inl (by rw [← r]; exact e))
      · rw [r] at e; injection e with e; exact .inr (by omega)
    · exact h.rin k (.inr e)
/-- More terms. -/
theorem OneSt.terms {A w0 : World} {R Z : Nat → Prop} {T : TypeId} {g : Nat} {x : It} {t : Tok} {vw vt vt' : Value} {W W' : World} {us news : List Rv} {n : Nat} (h : OneSt A R Z w0 T g x t vw vt W) (h1 : us.map Rv.t = x.trees) (h2 : ∀ y ∈ us, LiveA W (rowsZ (zP Z g) vw vt) A.heap.size y)
    (hy : ∀ y ∈ news, LiveA W (rowsZ (zP Z g) vw vt) A.heap.size y) (hn : x.trees.length + news.length = n) (hown : W'.ownsRow A.heap.size T 5 vt' n (rowRv us ++ rowRv news)) (hg : W.grownBy W' vt.ownBlock) (hat : vt'.ownBlock = vt.ownBlock ∨ vt'.ownBlock = some W.heap.size) :
    OneSt A R Z w0 T g { x with trees := x.trees ++ news.map Rv.t } t vw vt' (W'.setCell ⟨g, 3, none⟩ vt') := by
  have hl := h.lt
  have hZ : ∀ k, zP Z g k → k < W.heap.size := fun k hk => by
    rcases hk with hk | hk
    · have := h.zlt k hk; omega
    · have := hk.2; omega
  have hr := h.rows.more h1 h2 hy hn hown hg hat hZ
  have hlt := h.rows.lt
  have hout := h.rows.out
  have hst : ∀ k, boxesP g k → W'.heap[k]? = W.heap[k]? := fun k hk => hg.block k (hZ k (.inr hk)) fun q => hout k (.inr q.symm) (.inr hk)
  have hb' : Below A.heap.size A W' := h.bel.grown hg h.bel.size fun k q => (hlt k (.inr q)).1
  have hs : (W'.setCell ⟨g, 3, none⟩ vt').heap.size = W'.heap.size := by simp
  refine ⟨hb'.setCell (p := ⟨g, 3, none⟩) h.ge _, (h.arg.stays (hst g ⟨Nat.le_refl _, by omega⟩)).put3 _, (by obtain ⟨y0, y1, y2, y3, hy'⟩ := h.res; exact ⟨y0, y1, y2, y3, (hy'.stays (hst _ ⟨by omega, by omega⟩)).stays (Below.heap_setCell _ _ _ _ (show g + 1 ≠ g by omega))⟩), (h.tok.stays (hst _ ⟨by omega, by omega⟩)).stays (Below.heap_setCell _ _ _ _ (show g + 1 + 1 ≠ g by omega)), h.ge, h.zlt, ?_, fun k hk q => ?_, fun k e => ?_⟩
  · exact hr.aside (by rw [hs]; exact Nat.le_refl _) fun k hk => Below.heap_setCell _ _ _ _ (show k ≠ g from fun e => hk (by rw [e]; exact .inr ⟨Nat.le_refl _, by omega⟩))
  · rw [Below.heap_setCell _ _ _ _ (show k ≠ g by omega), hg.block k (by omega) fun e => ?_]
    · exact h.kept k hk q
    · rcases h.rin k (.inr e.symm) with r | r
      · exact q r
      · omega
  · rcases e with e | e
    · exact h.rin k (.inl e)
    · rcases hat with r | r
      · exact h.rin k (.inr (by rw [← r]; exact e))
      · rw [r] at e; injection e with e; exact .inr (by omega)
/-- The answer is in its box. -/
structure OneEnd (A : World) (R Z : Nat → Prop) (w0 : World) (T : TypeId) (g : Nat) (x : It) (vw vt : Value) (W : World) : Prop where
  bel : Below A.heap.size A W
  res : Box W (g + 1) (.string x.key) (.int .i64 x.spot) vw vt
  rows : RowsI W Z T A.heap.size vw x.words vt x.trees
  kept : ∀ k, k < g → ¬ R k → W.heap[k]? = w0.heap[k]?
  rin : ∀ k, rowsP vw vt k → R k ∨ g ≤ k
theorem OneSt.filled {A w0 : World} {R Z : Nat → Prop} {T : TypeId} {g : Nat} {x : It} {t : Tok} {vw vt : Value} {W : World} (h : OneSt A R Z w0 T g x t vw vt W) (z0 z1 z2 z3 : Value) :
    OneSt A R Z w0 T g x t vw vt ((((W.setCell ⟨g + 1, 0, none⟩ z0).setCell ⟨g + 1, 1, none⟩ z1).setCell ⟨g + 1, 2, none⟩ z2).setCell ⟨g + 1, 3, none⟩ z3) := by
  have hge := h.ge
  have hh : ∀ k, k ≠ g + 1 → ((((W.setCell ⟨g + 1, 0, none⟩ z0).setCell ⟨g + 1, 1, none⟩ z1).setCell ⟨g + 1, 2, none⟩ z2).setCell ⟨g + 1, 3, none⟩ z3).heap[k]? = W.heap[k]? := fun k hk' => by
    rw [Below.heap_setCell _ _ _ _ hk', Below.heap_setCell _ _ _ _ hk', Below.heap_setCell _ _ _ _ hk', Below.heap_setCell _ _ _ _ hk']
  refine ⟨(((h.bel.setCell (p := ⟨g + 1, 0, none⟩) (by show _ ≤ g + 1; omega) _).setCell (p := ⟨g + 1, 1, none⟩) (by show _ ≤ g + 1; omega) _).setCell (p := ⟨g + 1, 2, none⟩) (by show _ ≤ g + 1; omega) _).setCell (p := ⟨g + 1, 3, none⟩) (by show _ ≤ g + 1; omega) _,
    h.arg.stays (hh _ (by omega)), (by obtain ⟨y0, y1, y2, y3, hy⟩ := h.res; exact ⟨z0, z1, z2, z3, hy.fill _ _ _ _⟩), h.tok.stays (hh _ (by omega)), h.ge, h.zlt, ?_, fun k hk q => (hh k (by omega)).trans (h.kept k hk q), h.rin⟩
  exact h.rows.aside (by simp) fun k hk => hh k fun e => hk (by rw [e]; exact .inr ⟨by omega, by omega⟩)
theorem OneSt.fill {A w0 : World} {R Z : Nat → Prop} {T : TypeId} {g : Nat} {x : It} {t : Tok} {vw vt : Value} {W : World} (h : OneSt A R Z w0 T g x t vw vt W) :
    OneEnd A R Z w0 T g x vw vt ((((W.setCell ⟨g + 1, 0, none⟩ (.string x.key)).setCell ⟨g + 1, 1, none⟩ (.int .i64 x.spot)).setCell ⟨g + 1, 2, none⟩ vw).setCell ⟨g + 1, 3, none⟩ vt) := by
  have hf := h.filled (.string x.key) (.int .i64 x.spot) vw vt
  obtain ⟨y0, y1, y2, y3, hy⟩ := h.res
  exact ⟨hf.bel, hy.fill _ _ _ _, hf.rows.beside (fun k hk => .inl (.inl hk)), hf.kept, hf.rin⟩
/-- What a walk wants of the three boxes. -/
theorem OneSt.cells {A w0 : World} {R Z : Nat → Prop} {T : TypeId} {g : Nat} {x : It} {t : Tok} {vw vt : Value} {W : World} (h : OneSt A R Z w0 T g x t vw vt W) : OneSt A R Z w0 T g x t vw vt W ∧
    W.cell? ⟨g, 0, none⟩ = some (.string x.key) ∧ W.cell? ⟨g, 1, none⟩ = some (.int .i64 x.spot) ∧ W.cell? ⟨g, 2, none⟩ = some vw ∧ W.cell? ⟨g, 3, none⟩ = some vt ∧
    W.cell? ⟨g + 1 + 1, 0, none⟩ = some (.int .i64 t.kind) ∧ W.cell? ⟨g + 1 + 1, 1, none⟩ = some (.string t.text) ∧ W.cell? ⟨g + 1 + 1, 2, none⟩ = some (.int .i64 t.n) ∧ W.cell? ⟨g + 1 + 1, 3, none⟩ = some (.int .i64 t.place) ∧
    W.frozen? ⟨g + 1, 0, none⟩ = false ∧ W.frozen? ⟨g + 1, 1, none⟩ = false ∧ W.frozen? ⟨g + 1, 2, none⟩ = false ∧ W.frozen? ⟨g + 1, 3, none⟩ = false ∧ W.frozen? ⟨g, 2, none⟩ = false ∧ W.frozen? ⟨g, 3, none⟩ = false := by
  obtain ⟨y0, y1, y2, y3, hy⟩ := h.res
  exact ⟨h, h.arg.c0, h.arg.c1, h.arg.c2, h.arg.c3, h.tok.c0, h.tok.c1, h.tok.c2, h.tok.c3, hy.f0, hy.f1, hy.f2, hy.f3, h.arg.f2, h.arg.f3⟩
end Go.Proofs.YtldgbdmiebipnaaDoor
