/-
  Terms that are made: Fun of the reference of layer 3.
  A term as a text, by the reference of layer 3: Show, for any term in memory that is not too long. (as data)
  Digits of the reference of layer 1: a number in decimal. The call makes new memory alone.
  A term as a text, by the reference of layer 3: Show, for any term in memory that is not too long.
  Chapter 9's example answers true, from what the program's arenas do.
  Any terms, put one after the other: the law answers true, of the program as it landed.
  The program's types are laid out in memory. Nothing of its functions.
  An argument that is a term reads as a term; one that is a slice of terms, as a row of terms.
  Two terms behind any others: the law answers true, of the program as it landed.
  Any nodes behind any terms: each has its number, or is refused and changes nothing: the law answers true, from what the program's arenas do.
  Any nodes behind any terms: the law answers true, of the program as it landed.
-/
import Derived.Test.YtccpfgpdcicjaaaDoorA04
import Derived.Test.YtccpfgpdcicjaaaDoorA01
import Derived.Lib.ItoaLen
import Derived.Lib.Join
import Derived.Laws.Concat
import Derived.Test.YtccpfgpdcicjaaaDoorA02
import Derived.Test.YtccpfgpdcicjaaaDoorA13
import Derived.Test.YtccpfgpdcicjaaaDoorA12
import Derived.Test.YtccpfgpdcicjaaaDoorA11
import Derived.Test.YtccpfgpdcicjaaaDoorRows
import Derived.Deep.Slices
import Derived.ChangeSame
import Derived.Carry
import Derived.OpenShut
namespace Go.Proofs.YtccpfgpdcicjaaaDoor
open Go.RowKit

set_option maxHeartbeats 400000 in
theorem rfun_any (s : ByteArray) (a : Option Addr) (l c : Nat) (w : World) :
    Calls Tryd.prog 33 #[.string s, .slice a l c] w fun e w' => e = .returned (.agg #[.int .i64 5, .string s, .int .i64 0, .slice a l c]) ∧ Below w.heap.size w w' := by
  have O := Lib.hid (fun w => of_any 5 s 0 a l c w)
  go_enter Tryd.func33, Tryd.ntmps33
  go_wp2_with fail
  refine (O.out _).mono ?_; rintro e w1 ⟨rfl, hb⟩
  obtain ⟨c0, c1, c2, c3, f0, f1, f2, f3⟩ := (box_new w (.int .i64 0) (.string ⟨#[]⟩) (.int .i64 0) (.slice none 0 0) 28).below hb (by simp)
  replace hb := below_box hb
  go_wp2_with fail
  exact bodyPost_ret (v := .agg #[.int .i64 5, .string s, .int .i64 0, .slice a l c]) (by simp [results, Tryd.results33, go_sem, c0, c1, c2, c3]) rfl ⟨rfl, (((hb.setCell (Nat.le_refl _) _).setCell (Nat.le_refl _) _).setCell (Nat.le_refl _) _).setCell (Nat.le_refl _) _⟩
end Go.Proofs.YtccpfgpdcicjaaaDoor

namespace Go.Proofs.YtccpfgpdcicjaaaDoor
open Go.RowKit

/-- Arguments as a text, without what closes them. -/
def pre (ls : List (List UInt8)) : List UInt8 := if ls.isEmpty = true then [] else 40 :: Lib.join ls [44, 32]
theorem pre_first (x : List UInt8) : pre [x] = 40 :: x := by unfold pre; simp [Lib.join_one]
theorem pre_more {ls : List (List UInt8)} (x : List UInt8) (h : ls.isEmpty = false) : pre (ls ++ [x]) = pre ls ++ [44, 32] ++ x := by
  cases ls with
  | nil => cases h
  | cons y r =>
    unfold pre
    simp only [List.cons_append, List.isEmpty_cons, Bool.false_eq_true, if_false]
    rw [Lib.join_cons, Lib.join_cons]
    simp [Lib.joinTail, List.append_assoc]
/-- What closes them. -/
def close (ls : List (List UInt8)) : List UInt8 := if ls.isEmpty = true then [] else [41]
mutual
/-- A term as a text. -/
def showT : Tm → List UInt8
  | .mk k s n xs => if k = 1 ∨ k = 2 then s.data.toList else if k = 3 then 36 :: Lib.itoa n else if k = 4 then 37 :: Lib.itoa n else if k ≠ 5 then [63] else s.data.toList ++ pre (showsL xs) ++ close (showsL xs)
def showsL : List Tm → List (List UInt8)
  | [] => []
  | t :: r => showT t :: showsL r
end
theorem showsL_map (l : List Tm) : showsL l = l.map showT := by
  induction l with
  | nil => rw [showsL]; rfl
  | cons t r ih => rw [showsL, ih]; rfl
theorem showsL_take {l : List Tm} {k : Nat} (h : k < l.length) : showsL (l.take (k + 1)) = showsL (l.take k) ++ [showT l[k]] := by
  rw [showsL_map, showsL_map, List.take_succ_eq_append_getElem h, List.map_append]; rfl
theorem showsL_empty {l : List Tm} : (showsL l).isEmpty = l.isEmpty := by rw [showsL_map]; cases l <;> rfl
mutual
/-- How long a term's text can be. -/
def wtT : Tm → Nat
  | .mk _ s _ xs => s.size + 30 + wtL xs
def wtL : List Tm → Nat
  | [] => 0
  | t :: r => wtT t + wtL r
end
theorem wtL_append (a b : List Tm) : wtL (a ++ b) = wtL a + wtL b := by
  induction a with
  | nil => rw [List.nil_append, wtL]; omega
  | cons t r ih => rw [List.cons_append, wtL, wtL, ih]; omega
theorem wtL_take {l : List Tm} {k : Nat} (h : k < l.length) : wtL (l.take (k + 1)) = wtL (l.take k) + wtT l[k] := by
  rw [List.take_succ_eq_append_getElem h, wtL_append, wtL, wtL]; omega
theorem wtL_part (l : List Tm) (k : Nat) : wtL (l.take k) ≤ wtL l := by
  have := wtL_append (l.take k) (l.drop k)
  rw [List.take_append_drop] at this; omega
mutual
theorem wtT_small : ∀ t : Tm, (∀ x ∈ t.all, x.name.size ≤ 100) → wtT t ≤ 130 * t.parts
  | .mk k s n xs, h => by
    rw [Tm.all] at h
    rw [wtT, Tm.parts]
    have h1 : s.size ≤ 100 := h _ (List.mem_cons_self ..)
    have h2 := wtL_small xs (fun x hx => h x (List.mem_cons_of_mem _ hx))
    omega
theorem wtL_small : ∀ l : List Tm, (∀ x ∈ allL l, x.name.size ≤ 100) → wtL l ≤ 130 * partsL l
  | [], _ => by rw [wtL]; omega
  | t :: r, h => by
    rw [allL] at h
    rw [wtL, partsL]
    have h1 := wtT_small t (fun x hx => h x (List.mem_append_left _ hx))
    have h2 := wtL_small r (fun x hx => h x (List.mem_append_right _ hx))
    omega
end
theorem cat_list (l m : List UInt8) : (⟨l.toArray⟩ : ByteArray) ++ ⟨m.toArray⟩ = ⟨(l ++ m).toArray⟩ := by apply ByteArray.ext; simp
theorem cat_bytes (s : ByteArray) (m : List UInt8) : s ++ ⟨m.toArray⟩ = ⟨(s.data.toList ++ m).toArray⟩ := by apply ByteArray.ext; simp
theorem cat_cons (b : UInt8) (l : List UInt8) : (⟨#[b]⟩ : ByteArray) ++ ⟨l.toArray⟩ = ⟨(b :: l).toArray⟩ := by apply ByteArray.ext; simp
theorem bytes_self (s : ByteArray) : (⟨s.data.toList.toArray⟩ : ByteArray) = s := by cases s; simp
/-- What a call of Show leaves. -/
def ShowPost (t : Tm) (w : World) (e : Ending) (w' : World) : Prop := e = .returned (.string ⟨(showT t).toArray⟩) ∧ (showT t).length + 4 ≤ wtT t ∧ Below w.heap.size w w'
end Go.Proofs.YtccpfgpdcicjaaaDoor

namespace Go.Proofs.YtccpfgpdcicjaaaDoor
open Go.RowKit

def str (l : List UInt8) : Value := .string ⟨l.toArray⟩
theorem ret_str {a b : List UInt8} (h : a = b) : Ending.returned (.string ⟨a.toArray⟩) = .returned (.string ⟨b.toArray⟩) := by rw [h]

/-- The last digit of a number, as a byte. -/
def lastDigit (u : Nat) : UInt8 := UInt8.ofNat (48 + u % 10)
theorem digits_small {u : Nat} (h : u < 10) : Lib.decDigits u = [lastDigit u] := by
  rw [Lib.decDigits_one h]; unfold lastDigit; rw [Nat.mod_eq_of_lt h]
theorem digits_len {u : Nat} (h : u < 18446744073709551616) : (Lib.decDigits (u / 10)).length ≤ 21 := by
  rw [← Lib.itoa_nonneg]
  exact Lib.itoa_length_le _ (by omega) (by omega)
theorem conv_one (w : World) (u : Nat) :
    (convert 86 9 (.slice (some ⟨w.heap.size, 0, none⟩) 1 1)).run Tryd.prog (w.alloc (.cells #[.int .u8 (48 + (u : Int) % 10)] 5)) = .ok (.string ⟨#[lastDigit u]⟩) (w.alloc (.cells #[.int .u8 (48 + (u : Int) % 10)] 5)) := by
  have h := run_convert_bytes_back (P := Tryd.prog) (w.alloc (.cells #[.int .u8 (48 + (u : Int) % 10)] 5)) 86 9 5 ⟨w.heap.size, 0, none⟩ 1 [lastDigit u] Tryd.underlying86 Tryd.underlying5 Tryd.underlying9
    (fun j hj => by
      have : j = 0 := by simp at hj; omega
      subst this
      have e := World.cell?_alloc_mark w #[.int .u8 (48 + (u : Int) % 10)] 5 (0, 0) 0
      show (w.alloc (.cells #[.int .u8 (48 + (u : Int) % 10)] 5)).cell? ⟨w.heap.size, 0, none⟩ = _
      rw [e]
      show some (Value.int .u8 (48 + (u : Int) % 10)) = some (.int .u8 ((UInt8.ofNat (48 + u % 10)).toNat : Int))
      rw [digit_val (by omega)]
      congr 2)
  exact h

set_option maxRecDepth 100000 in
set_option maxHeartbeats 400000 in
theorem ahead_any (u : Nat) (hu : u < 18446744073709551616) : ∀ w : World,
    Calls Tryd.prog 57 #[.int .u64 u] w fun e w' => e = .returned (.string ⟨(Lib.decDigits u).toArray⟩) ∧ Below w.heap.size w w' := by
  induction u using Nat.strongRecOn with
  | ind u ih =>
    intro w
    have hc := conv_one w u
    by_cases h : u < 10
    · have HS := Lib.hid (digits_small h)
      go_enter Tryd.func57, Tryd.ntmps57
      go_wp2_with fail
      go_ret
      refine ⟨?_, (Below.refl _ _).alloc (Nat.le_refl _) _⟩
      rw [HS.out]; rfl
    · have IH := Lib.hid (ih (u / 10) (by omega) (by omega))
      clear ih
      have hd : ((u : Int) / 10) = ((u / 10 : Nat) : Int) := by omega
      have HD := Lib.hid hd
      have HB := Lib.hid (show Lib.decDigits u = Lib.decDigits (u / 10) ++ [lastDigit u] from decDigits_big h)
      have hl := digits_len hu
      clear hd
      go_enter Tryd.func57, Tryd.ntmps57
      go_wp2_with (go_at_call 57; rw [HD.out]; refine (IH.out _).mono ?_; rintro e w' ⟨rfl, hb⟩)
      go_ret
      refine ⟨?_, ((Below.refl _ _).alloc (Nat.le_refl _) _).trans (hb.mono (by simp))⟩
      rw [HB.out]
      show Ending.returned (.string (⟨(Lib.decDigits (u / 10)).toArray⟩ ++ ⟨#[lastDigit u]⟩)) = _
      rw [show ((⟨(Lib.decDigits (u / 10)).toArray⟩ : ByteArray) ++ ⟨#[lastDigit u]⟩) = ⟨(Lib.decDigits (u / 10) ++ [lastDigit u]).toArray⟩ from by apply ByteArray.ext; simp]

theorem digits_len2 {u : Nat} (h : u ≤ 9223372036854775808) : (Lib.decDigits u).length ≤ 42 := by
  by_cases h1 : u < 10
  · rw [Lib.decDigits_one h1]; simp
  · rw [decDigits_big h1]
    have := digits_len (u := u) (by omega)
    simp; omega
set_option maxHeartbeats 400000 in
theorem rdigits_any (n : Int) (h0 : -9223372036854775808 ≤ n) (h1 : n ≤ 9223372036854775807) (w : World) :
    Calls Tryd.prog 49 #[.int .i64 n] w fun e w' => e = .returned (.string ⟨(Lib.itoa n).toArray⟩) ∧ Below w.heap.size w w' := by
  by_cases hn : n < 0
  · have HN := Lib.hid (show -(n + 1) + 1 = ((n.natAbs : Nat) : Int) from by omega)
    have HI := Lib.hid (show Lib.itoa n = 45 :: Lib.decDigits n.natAbs from by unfold Lib.itoa; rw [if_pos hn])
    have hl := digits_len2 (u := n.natAbs) (by omega)
    have C := Lib.hid (fun w => ahead_any n.natAbs (by omega) w)
    go_enter Tryd.func49, Tryd.ntmps49
    go_wp2_with (go_at_call 57; rw [HN.out]; refine (C.out _).mono ?_; rintro e w' ⟨rfl, hb⟩)
    go_ret
    refine ⟨?_, hb⟩
    rw [HI.out]
    show Ending.returned (.string (⟨#[45]⟩ ++ ⟨(Lib.decDigits n.natAbs).toArray⟩)) = _
    rw [show ((⟨#[45]⟩ : ByteArray) ++ ⟨(Lib.decDigits n.natAbs).toArray⟩) = ⟨(45 :: Lib.decDigits n.natAbs).toArray⟩ from by apply ByteArray.ext; simp]
  · obtain ⟨m, rfl⟩ := Int.eq_ofNat_of_zero_le (Int.not_lt.1 hn)
    have HI := Lib.hid (Lib.itoa_nonneg m)
    have C := Lib.hid (fun w => ahead_any m (by omega) w)
    go_enter Tryd.func49, Tryd.ntmps49
    go_wp2_with (go_at_call 57; refine (C.out _).mono ?_; rintro e w' ⟨rfl, hb⟩)
    go_ret
    refine ⟨?_, hb⟩
    rw [HI.out]; rfl
end Go.Proofs.YtccpfgpdcicjaaaDoor

namespace Go.Proofs.YtccpfgpdcicjaaaDoor
open Go.RowKit

set_option maxRecDepth 100000 in
set_option maxHeartbeats 4000000 in
theorem show_tm (m : Nat) : ∀ (x : Tv) (w : World), x.t.parts ≤ m → wtT x.t ≤ 100000000 → x.ok w →
    Calls Tryd.prog 34 #[x.val] w (ShowPost x.t w) := by
  induction m with
  | zero => intro x w h; have := parts_pos x.t; omega
  | succ m ih =>
    intro x w hm hwt hx
    obtain ⟨⟨k, s, n, xs⟩, a, c⟩ := x
    obtain ⟨hfit, hxl, hxr⟩ := hx
    have hE : showT (.mk k s n xs) = if k = 1 ∨ k = 2 then s.data.toList else if k = 3 then 36 :: Lib.itoa n else if k = 4 then 37 :: Lib.itoa n else if k ≠ 5 then [63] else s.data.toList ++ pre (showsL xs) ++ close (showsL xs) := by rw [showT]
    have hW : wtT (.mk k s n xs) = s.size + 30 + wtL xs := by rw [wtT]
    simp only [Tv.val, Tm.kind, Tm.name, Tm.n, Tm.args] at hfit hxl hxr hm hwt ⊢
    have hpl : ∀ j (h : j < xs.length), xs[j].parts ≤ m := fun j h => by
      have := parts_arg (.mk k s n xs) (j := j) h
      have e : (Tm.mk k s n xs).args[j] = xs[j] := rfl
      rw [e] at this; omega
    have hil := Lib.itoa_length_le n hfit.nlo hfit.nhi
    have D := Lib.hid (fun w => rdigits_any n hfit.nlo hfit.nhi w)
    have hss : s.data.toList.length = s.size := by simp
    have hbb : Below w.heap.size w (w.alloc (.cells #[.int .i64 k, .string s, .int .i64 n, .slice a xs.length c] 28)) := (Below.refl _ _).alloc (Nat.le_refl _) _
    have IH := Lib.hid ih
    have HP := Lib.hid hpl
    clear ih hpl hm hfit
    by_cases h12 : k = 1 ∨ k = 2
    · have hr := Lib.hid (show showT (.mk k s n xs) = s.data.toList from by rw [hE, if_pos h12])
      have HW := Lib.hid (show (showT (.mk k s n xs)).length + 4 ≤ wtT (.mk k s n xs) from by rw [hr.out, hss, hW]; omega)
      clear hE hW hss
      rcases h12 with rfl | rfl
      all_goals
        go_enter Tryd.func34, Tryd.ntmps34
        go_wp2_with fail
        go_ret
        exact ⟨by rw [hr.out, bytes_self]; rfl, HW.out, hbb⟩
    · have q1 : (k == 1) = false := by rw [beq_eq_false_iff_ne]; omega
      have q2 : (k == 2) = false := by rw [beq_eq_false_iff_ne]; omega
      rw [if_neg h12] at hE
      by_cases h3 : k = 3
      · have hr := Lib.hid (show showT (.mk k s n xs) = 36 :: Lib.itoa n from by rw [hE, if_pos h3])
        have HW := Lib.hid (show (showT (.mk k s n xs)).length + 4 ≤ wtT (.mk k s n xs) from by rw [hr.out, List.length_cons, hW]; omega)
        subst h3
        clear hE hW hss h12
        generalize Lib.itoa n = l at D hil hr
        go_enter Tryd.func34, Tryd.ntmps34
        go_wp2_with fail
        refine (D.out _).mono ?_; rintro e w1 ⟨rfl, hb1⟩
        go_wp2_with fail
        go_ret
        exact ⟨by rw [hr.out, ← cat_cons]; rfl, HW.out, below_box hb1⟩
      · by_cases h4 : k = 4
        · have hr := Lib.hid (show showT (.mk k s n xs) = 37 :: Lib.itoa n from by rw [hE, if_neg h3, if_pos h4])
          have HW := Lib.hid (show (showT (.mk k s n xs)).length + 4 ≤ wtT (.mk k s n xs) from by rw [hr.out, List.length_cons, hW]; omega)
          subst h4
          clear hE hW hss h12 h3
          generalize Lib.itoa n = l at D hil hr
          go_enter Tryd.func34, Tryd.ntmps34
          go_wp2_with fail
          refine (D.out _).mono ?_; rintro e w1 ⟨rfl, hb1⟩
          go_wp2_with fail
          go_ret
          exact ⟨by rw [hr.out, ← cat_cons]; rfl, HW.out, below_box hb1⟩
        · have q3 : (k == 3) = false := by rw [beq_eq_false_iff_ne]; exact h3
          have q4 : (k == 4) = false := by rw [beq_eq_false_iff_ne]; exact h4
          rw [if_neg h3, if_neg h4] at hE
          by_cases h5 : k = 5
          · have hr : showT (.mk k s n xs) = s.data.toList ++ pre (showsL xs) ++ close (showsL xs) := by rw [hE, if_neg (by simp [h5])]
            subst h5
            clear hE h12 h3 h4 q1 q2 q3 q4 D hil
            have hpre0 : (⟨(s.data.toList ++ pre []).toArray⟩ : ByteArray) = s := by rw [show pre [] = [] from rfl, List.append_nil, bytes_self]
            rcases hxr with rfl | ⟨b, off, rfl, hlt, hrw⟩
            · have HR := Lib.hid (show showT (.mk 5 s n []) = s.data.toList from by rw [hr, showsL]; simp [pre, close])
              have HW := Lib.hid (show (showT (.mk 5 s n [])).length + 4 ≤ wtT (.mk 5 s n []) from by rw [HR.out, hss, hW]; omega)
              clear hr hW hss hpre0
              go_enter Tryd.func34, Tryd.ntmps34
              go_wp2
              refine wp_loop_rounds 1 ?_; rw [rounds_succ]
              go_wp2
              go_ret
              exact ⟨by rw [HR.out, bytes_self]; rfl, HW.out, hbb⟩
            have HRW := Lib.hid hrw
            have HSS := Lib.hid hss
            have HR := Lib.hid hr
            have HWT := Lib.hid hW
            have hwl : s.size + 30 + wtL xs ≤ 100000000 := by rw [← hW]; exact hwt
            have HP0 := Lib.hid hpre0
            by_cases hxe : xs = []
            · subst hxe
              have HR := Lib.hid (show showT (.mk 5 s n []) = s.data.toList from by rw [hr, showsL]; simp [pre, close])
              have HW := Lib.hid (show (showT (.mk 5 s n [])).length + 4 ≤ wtT (.mk 5 s n []) from by rw [HR.out, hss, hW]; omega)
              clear hr hW hss hpre0 hrw
              go_enter Tryd.func34, Tryd.ntmps34
              go_wp2
              refine wp_loop_rounds 1 ?_; rw [rounds_succ]
              go_wp2
              go_ret
              exact ⟨by rw [HR.out, bytes_self]; rfl, HW.out, hbb⟩
            have hxpos : 0 < xs.length := List.length_pos_iff.2 hxe
            have hxpos' : (0 : Int) < (xs.length : Int) := by omega
            have HNE := Lib.hid hxe
            clear hr hW hss hpre0 hrw hxe
            go_enter Tryd.func34, Tryd.ntmps34
            go_wp2
            go_loopw [3, 38] (fun q i wr => ∃ (j : Nat) (p : List UInt8), j ≤ xs.length ∧ i = .int .i64 j ∧ q = .string ⟨p.toArray⟩ ∧ Hid (p = s.data.toList ++ pre (showsL (xs.take j))) ∧ p.length ≤ s.size + 1 + wtL (xs.take j) ∧ Below (w.heap.size + 1) (w.alloc (.cells #[.int .i64 5, .string s, .int .i64 n, .slice (some ⟨b, off, none⟩) xs.length c] 28)) wr) (fun _ i _ => xs.length - (intOf i).toNat)
            case atStart => exact ⟨0, s.data.toList, Nat.zero_le _, rfl, by rw [bytes_self], Lib.hid (by rw [List.take_zero, showsL, show pre [] = [] from rfl, List.append_nil]), by rw [HSS.out]; omega, Below.refl _ _⟩
            case round =>
              obtain ⟨j, p, hj, rfl, rfl, HPQ, hpl, hb⟩ := hrel
              have hbs := hb.size
              simp at hbs
              have hwr : Below w.heap.size w wr := below_pair hb
              have hwp := wtL_part xs j
              by_cases hjl : j < xs.length
              · have hil : (j : Int) < (xs.length : Int) := by omega
                obtain ⟨u, hu, huk, hat⟩ := tmAt_tv (rowAt_get HRW.out hjl)
                obtain ⟨d0, d1, d2, d3⟩ := hat.below hwr
                have hst := wtL_take hjl
                have hsh := showsL_take hjl
                rw [← hu] at hst hsh
                have hwj := wtL_part xs (j + 1)
                have C : Hid (Calls Tryd.prog 34 #[u.val] (wr.alloc (.cells #[.int .i64 u.t.kind, .string u.t.name, .int .i64 u.t.n, .slice u.a u.t.args.length u.c] 28)) fun e w' => e = .returned (.string ⟨(showT u.t).toArray⟩) ∧ (showT u.t).length + 4 ≤ wtT u.t ∧ Below (wr.alloc (.cells #[.int .i64 u.t.kind, .string u.t.name, .int .i64 u.t.n, .slice u.a u.t.args.length u.c] 28)).heap.size (wr.alloc (.cells #[.int .i64 u.t.kind, .string u.t.name, .int .i64 u.t.n, .slice u.a u.t.args.length u.c] 28)) w') := Lib.hid (IH.out u (wr.alloc (.cells #[.int .i64 u.t.kind, .string u.t.name, .int .i64 u.t.n, .slice u.a u.t.args.length u.c] 28)) (by rw [hu]; exact HP.out j hjl) (by omega) ((huk.below hwr).below ((Below.refl _ _).alloc (Nat.le_refl _) _)))
                obtain ⟨q, hq⟩ : ∃ q, q = showT u.t := ⟨_, rfl⟩
                obtain ⟨wu, hwu⟩ : ∃ x, x = wtT u.t := ⟨_, rfl⟩
                simp only [Tv.val] at C
                rw [← hq, ← hwu] at C
                rw [← hq] at hsh
                rw [← hwu] at hst
                have HST := Lib.hid hst
                have HSH := Lib.hid hsh
                have hpb : p.length ≤ 100000000 := by omega
                have hwub : wu ≤ 100000000 := by omega
                clear hu huk hat hst hsh hq hwu
                by_cases hj0 : j = 0
                · have hq0 : ((j : Int) == 0) = true := by rw [beq_iff_eq]; omega
                  have HJ := Lib.hid hj0
                  clear hj0
                  go_wp2_with fail
                  refine C.out.mono ?_; rintro e w1 ⟨rfl, hql, hb1⟩
                  go_wp2_with fail
                  go_roundw
                  case rel =>
                    refine ⟨j + 1, p ++ 40 :: q, by omega, by go_num, ?_, Lib.hid ?_, ?_, (hb.alloc hbs _).trans (hb1.mono (by simp; omega))⟩
                    · rw [show (⟨#[40]⟩ : ByteArray) = ⟨[40].toArray⟩ from rfl, cat_list, cat_list, List.append_assoc]; rfl
                    · rw [HSH.out, HPQ.out, HJ.out, List.take_zero, showsL, List.nil_append, pre_first, show pre [] = [] from rfl, List.append_nil]
                    · have := HST.out; simp; omega
                  case measure => simp [intOf]; omega
                · have hq0 : ((j : Int) == 0) = false := by rw [beq_eq_false_iff_ne]; omega
                  have hne : (showsL (xs.take j)).isEmpty = false := by
                    rw [showsL_empty, List.isEmpty_eq_false_iff]
                    intro h
                    have := congrArg List.length h
                    rw [List.length_take, List.length_nil] at this; omega
                  have HN := Lib.hid hne
                  clear hne
                  go_wp2_with fail
                  refine C.out.mono ?_; rintro e w1 ⟨rfl, hql, hb1⟩
                  go_wp2_with fail
                  go_roundw
                  case rel =>
                    refine ⟨j + 1, p ++ [44, 32] ++ q, by omega, by go_num, ?_, Lib.hid ?_, ?_, (hb.alloc hbs _).trans (hb1.mono (by simp; omega))⟩
                    · rw [show (⟨#[44, 32]⟩ : ByteArray) = ⟨[44, 32].toArray⟩ from rfl, cat_list, cat_list]
                    · rw [HSH.out, HPQ.out, pre_more q HN.out]; simp [List.append_assoc]
                    · have := HST.out; simp; omega
                  case measure => simp [intOf]; omega
              · obtain rfl : j = xs.length := by omega
                rw [List.take_length] at hpl HPQ
                have p3 : wr.cell? ⟨w.heap.size, 3, none⟩ = some (.slice (some ⟨b, off, none⟩) xs.length c) := ((box_new w (.int .i64 5) (.string s) (.int .i64 n) (.slice (some ⟨b, off, none⟩) xs.length c) 28).below hb (by omega)).c3
                have hpb : p.length ≤ 100000000 := by omega
                have HF := Lib.hid (show showT (.mk 5 s n xs) = p ++ [41] from by
                  rw [HR.out, ← HPQ.out]; unfold close
                  rw [if_neg (by rw [showsL_empty]; simpa using HNE.out)])
                have HW := Lib.hid (show (showT (.mk 5 s n xs)).length + 4 ≤ wtT (.mk 5 s n xs) from by rw [HF.out, HWT.out]; simp; omega)
                go_wp2
                go_ret
                exact ⟨by rw [HF.out, ← cat_list]; rfl, HW.out, hwr⟩
          · have hr := Lib.hid (show showT (.mk k s n xs) = [63] from by rw [hE, if_pos h5])
            have HW := Lib.hid (show (showT (.mk k s n xs)).length + 4 ≤ wtT (.mk k s n xs) from by rw [hr.out, hW]; simp; omega)
            have q5 : (k != 5) = true := by rw [bne_iff_ne]; exact h5
            clear hE hW hss h12 h3 h4 h5
            go_enter Tryd.func34, Tryd.ntmps34
            go_wp2_with fail
            go_ret
            exact ⟨by rw [hr.out]; rfl, HW.out, hbb⟩
end Go.Proofs.YtccpfgpdcicjaaaDoor

namespace Go.Proofs.YtccpfgpdcicjaaaDoor
open Go.RowKit

def tK9 : Tm := .mk 5 ⟨#[107]⟩ 0 []
def tF9 : Tm := .mk 5 ⟨#[102]⟩ 0 [tK9, tK9]
theorem tK9_ok (w : World) : Tv.ok w ⟨tK9, none, 0⟩ := by
  refine ⟨⟨?_, ?_, ?_, ?_, ?_⟩, ?_, .inl rfl⟩ <;> decide
theorem kf9 : tK9 ≠ tF9 := fun h => by
  have := congrArg (fun t : Tm => t.args.length) h
  exact absurd this (by decide)
theorem put_k9 : putT tK9 [] = [tK9] := by
  rw [putT_eq, show tK9.args = [] from rfl, putTs, addT_out (fun h => by cases h)]; rfl
theorem put_f9 : putT tF9 [] = [tK9, tF9] := by
  have h1 : Ord [tK9] := by rw [← put_k9]; exact Ord.nil.put _
  have h2 : putTs [tK9, tK9] [] = [tK9] := by
    rw [putTs, put_k9, putTs, h1.put_in tK9 (List.mem_cons_self ..), putTs]
  rw [putT_eq, show tF9.args = [tK9, tK9] from rfl, h2, addT_out (fun h => by
    rw [List.mem_singleton] at h
    exact kf9 h.symm)]; rfl
theorem num_f9 : numT [tK9, tF9] tF9 = 1 := by
  refine numT_at (k := 1) rfl (fun j hj h => ?_)
  obtain rfl : j = 0 := by omega
  simp only [List.getElem?_cons_zero, Option.some.injEq] at h
  exact kf9 h
theorem tF9_fit : Fit tF9.kind tF9.name tF9.n := by refine ⟨?_, ?_, ?_, ?_, ?_⟩ <;> decide
theorem tF9_len : tF9.args.length ≤ 9223372036854775807 ∧ tF9.args.length ≤ 2 := by decide
theorem tF9_in : withinB tF9 300 = true := by decide
theorem tF9_put : ([] : List Tm).length + tF9.parts ≤ 1200 := by decide
theorem show_f9 : showT tF9 = [102, 40, 107, 44, 32, 107, 41] := by decide

set_option maxRecDepth 100000 in
set_option maxHeartbeats 2000000 in
theorem awake9_of {AR : ARel} (A : ArenaI AR) (w : World) (hT : Pow w) :
    Calls Tryd.prog 8 #[] w fun e w' => e = .returned (.bool true) ∧ Below w.heap.size w w' := by
  have AA := Lib.hid A
  have HT := Lib.hid hT
  clear A hT
  go_enter Tryd.func8, Tryd.ntmps8
  go_wp2_with fail
  refine (rfun_any ⟨#[107]⟩ none 0 0 w).mono ?_; rintro e w1 ⟨rfl, hb1⟩
  have hb1a := hb1.alloc hb1.size (.cells #[.int .i64 5, .string ⟨#[107]⟩, .int .i64 0, .slice none 0 0] 28)
  have hbx := box_new w1 (.int .i64 5) (.string ⟨#[107]⟩) (.int .i64 0) (.slice none 0 0) 28
  have hz : w1.heap.size < (w1.alloc (.cells #[.int .i64 5, .string ⟨#[107]⟩, .int .i64 0, .slice none 0 0] 28)).heap.size := by simp
  obtain ⟨wb, hwb⟩ : ∃ wb, wb = w1.alloc (.cells #[.int .i64 5, .string ⟨#[107]⟩, .int .i64 0, .slice none 0 0] 28) := ⟨_, rfl⟩
  rw [← hwb] at hb1a hbx hz
  have NW := Lib.hid (AA.out.new wb wb (Reads.refl _) (HT.out.below hb1a) (HT.out.below hb1a))
  have HB1 := Lib.hid hb1a
  go_wp2_with fail
  rw [← hwb]
  clear hwb hb1 hb1a
  refine NW.out.mono ?_; rintro e w2 ⟨p, C, rfl, har, hc, hb2⟩
  have h2 : ArNew AR wb wb p [] C w2 := ⟨har, hc, hb2⟩
  have hr2 := AA.out.reads har
  obtain ⟨p0, p1, p2, p3, _, _, _, _⟩ := hbx.below hb2 hz
  have H2 := Lib.hid h2
  have hbR : Below w2.heap.size w2 (w2.alloc (.cells #[.int .i64 5, .string ⟨#[107]⟩, .int .i64 0, .slice none 0 0, .int .i64 5, .string ⟨#[107]⟩, .int .i64 0, .slice none 0 0] 28)) := (Below.refl _ _).alloc (Nat.le_refl _) _
  have hcR := World.cell?_alloc_mark w2 #[.int .i64 5, .string ⟨#[107]⟩, .int .i64 0, .slice none 0 0, .int .i64 5, .string ⟨#[107]⟩, .int .i64 0, .slice none 0 0] 28 (0, 0)
  clear har hc NW h2
  go_wp2_with fail
  refine (rfun_any ⟨#[102]⟩ (some ⟨w2.heap.size, 0, none⟩) 2 2 _).mono ?_; rintro e w3 ⟨rfl, hb3⟩
  have hzR : (w2.alloc (.cells #[.int .i64 5, .string ⟨#[107]⟩, .int .i64 0, .slice none 0 0, .int .i64 5, .string ⟨#[107]⟩, .int .i64 0, .slice none 0 0] 28)).heap.size = w2.heap.size + 1 := by simp
  have hb23 := below_next hbR hb3
  have h3 := H2.out.sight AA.out hb23
  have hcell : ∀ j, j < 8 → (seen wb w2 w3).cell? ⟨w2.heap.size, j, none⟩ = (w2.alloc (.cells #[.int .i64 5, .string ⟨#[107]⟩, .int .i64 0, .slice none 0 0, .int .i64 5, .string ⟨#[107]⟩, .int .i64 0, .slice none 0 0] 28)).cell? ⟨w2.heap.size, j, none⟩ := fun j _ =>
    (seen_cell (w0 := wb) (w := w2) (w1 := w3) (p := ⟨w2.heap.size, j, none⟩) (Nat.le_refl _)).trans (hb3.cell (p := ⟨w2.heap.size, j, none⟩) (by rw [hzR]; exact Nat.lt_succ_self _))
  have hok : Tv.ok (seen wb w2 w3) ⟨tF9, some ⟨w2.heap.size, 0, none⟩, 2⟩ := by
    refine ⟨tF9_fit, tF9_len, .inr ⟨w2.heap.size, 0, rfl, ?_, ?_⟩⟩
    · rw [seen_size]; have := hb3.size; rw [hzR] at this; omega
    · show RowAt _ [tK9, tK9] _ _
      rw [RowAt, RowAt, RowAt]
      exact ⟨tv_tmAt (tK9_ok _) ⟨(hcell 0 (by omega)).trans (hcR 0), (hcell 1 (by omega)).trans (hcR 1), (hcell 2 (by omega)).trans (hcR 2), (hcell 3 (by omega)).trans (hcR 3)⟩, tv_tmAt (tK9_ok _) ⟨(hcell 4 (by omega)).trans (hcR 4), (hcell 5 (by omega)).trans (hcR 5), (hcell 6 (by omega)).trans (hcR 6), (hcell 7 (by omega)).trans (hcR 7)⟩, trivial⟩
  have PT := AA.out.put ⟨tF9, some ⟨w2.heap.size, 0, none⟩, 2⟩ h3.ar hok tF9_in tF9_put
  rw [show (⟨tF9, some ⟨w2.heap.size, 0, none⟩, 2⟩ : Tv).t = tF9 from rfl, put_f9, num_f9] at PT
  have HPT := Lib.hid PT
  have H3 := Lib.hid h3
  simp only [Tv.val, tF9, Tm.kind, Tm.name, Tm.n, Tm.args, List.length_cons, List.length_nil, Nat.zero_add, Nat.reduceAdd] at HPT
  clear hb3 hb23 h3 hcell hok PT hcR hbR p0 p1 p2 p3 hr2
  go_wp2_with fail
  refine HPT.out.mono ?_; rintro e w4 hp4
  obtain ⟨C4, rfl, h4, _, _⟩ := H3.out.more hp4
  have H4 := Lib.hid h4
  have GS := Lib.hid (AA.out.getS (L := [tK9, tF9]) 1 (by decide) h4.ar (by decide))
  clear hp4 h4 HPT
  go_wp2_with fail
  refine GS.out.mono ?_; rintro e w5 ⟨C5, s5, ⟨zt, za, zc⟩, rfl, hzt, hzo, har5, hs5, hn5⟩
  have h5 := H4.out.moreS har5 hs5 hn5
  have hb5 : Below w5.heap.size w5 (w5.alloc (.cells #[.int .i64 zt.kind, .string zt.name, .int .i64 zt.n, .slice za zt.args.length zc] 28)) := (Below.refl _ _).alloc (Nat.le_refl _) _
  have h5a := h5.sight AA.out hb5
  have F5 := four_new s5 w5 (.int .i64 zt.kind) (.string zt.name) (.int .i64 zt.n) (.slice za zt.args.length zc) 28
  have hup5 := seen_up (w := w5) ((AA.out.reads h5.ar).trans (reads_below hb5))
  obtain ⟨s6, hs6⟩ : ∃ s, seen s5 w5 (w5.alloc (.cells #[.int .i64 zt.kind, .string zt.name, .int .i64 zt.n, .slice za zt.args.length zc] 28)) = s := ⟨_, rfl⟩
  rw [hs6] at h5a F5 hup5
  have HZO := Lib.hid (hzo.reads hup5)
  have HF5 := Lib.hid F5
  have H5 := Lib.hid h5a
  have LN := Lib.hid (AA.out.len h5a.ar (by decide))
  have hze : zt = tF9 := hzt
  have HZE := Lib.hid hze
  clear hzt hzo har5 hs5 hn5 h5 hb5 h5a F5 hup5 hs6 GS hze
  simp only [tupleT, Tv.val]
  go_wp2_with fail
  refine LN.out.mono ?_; rintro e w6 hp6
  obtain ⟨C6, rfl, h6, _, _⟩ := H5.out.more hp6
  have hr6 := AA.out.reads h6.ar
  have SH := Lib.hid ((show_tm 3 ⟨zt, za, zc⟩ w6 (by show zt.parts ≤ 3; rw [HZE.out]; decide) (by show wtT zt ≤ _; rw [HZE.out]; decide) (HZO.out.reads hr6)).mono (fun e w' ⟨q1, _, q3⟩ => (show e = Ending.returned (.string ⟨#[102, 40, 107, 44, 32, 107, 41]⟩) ∧ Below w6.heap.size w6 w' from ⟨by rw [q1]; show Ending.returned (.string ⟨(showT zt).toArray⟩) = _; rw [HZE.out, show_f9], q3⟩)))
  obtain ⟨p0, p1, p2, p3⟩ := HF5.out.reads hr6
  have H6 := Lib.hid h6.below
  simp only [Tv.val] at SH
  clear hp6 h6 hr6 LN
  go_wp2_with fail
  refine SH.out.mono ?_; rintro e w7 ⟨rfl, hb7⟩
  have HE := Lib.hid (HB1.out.trans ((below_next H6.out hb7).mono HB1.out.size))
  clear hb7
  go_wp2_with fail
  go_ret
  exact ⟨rfl, HE.out⟩
end Go.Proofs.YtccpfgpdcicjaaaDoor

namespace Go.Proofs.YtccpfgpdcicjaaaDoor
open Go.RowKit

theorem lawPuts9_any (v : Value) (ts : List Tm) (w : World) (hT : Pow w) (hv : Tms w v ts) :
    Calls Tryd.prog 3 #[v] w fun e w' => e = .returned (.bool true) ∧ Below w.heap.size w w' :=
  lawPuts9_of arenas w hT (fun W h => awake9_of arenas W (hT.below h)) v ts hv
end Go.Proofs.YtccpfgpdcicjaaaDoor

namespace Go.Proofs.YtccpfgpdcicjaaaDoor
open Go.ChangeShapes Go.WideShapes Go.RowKit Go.Deep

theorem laidOut : laidOutB Tryd.prog = true := by kernel_rfl
end Go.Proofs.YtccpfgpdcicjaaaDoor

namespace Go.Proofs.YtccpfgpdcicjaaaDoor
open Go.ChangeShapes Go.WideShapes Go.RowKit Go.Deep

theorem cellsTerm : Tryd.prog.cellsOf 28 = 4 := by kernel_rfl
theorem cellsI64 : Tryd.prog.cellsOf 3 = 1 := by kernel_rfl
theorem cellsString : Tryd.prog.cellsOf 9 = 1 := by kernel_rfl
theorem cellsTerms : Tryd.prog.cellsOf 22 = 1 := by kernel_rfl
instance : Inhabited Tv := ⟨⟨default, none, 0⟩⟩

section
variable {H : Type} {enc : TypeId × Value → H} {w : World} {base : Nat} {spare : Nat → Bool} {held : Bool}

theorem tvAt_cells {a : Addr} {v : Tv} (h : w.cells? base a 4 = some v.cells) : w.cell? (a.add 0) = some (.int .i64 v.t.kind) ∧ w.cell? (a.add 1) = some (.string v.t.name) ∧ w.cell? (a.add 2) = some (.int .i64 v.t.n) ∧ w.cell? (a.add 3) = some (.slice v.a v.t.args.length v.c) := by
  obtain ⟨_, _, hat⟩ := World.cells?_some h
  exact ⟨by rw [hat 0 (by omega)]; rfl, by rw [hat 1 (by omega)]; rfl, by rw [hat 2 (by omega)]; rfl, by rw [hat 3 (by omega)]; rfl⟩

/-- A slice of terms, its elements read one by one. -/
theorem args_of {fuel : Nat} (ih : ∀ n, n < fuel → ∀ (cs : List Value) (x : DataW H × List MemPlace), DataW.trod enc Tryd.prog w base spare held n 28 cs = some x → ∃ v : Tv, cs = v.cells ∧ v.ok w)
    {u : Value} {x : DataW H × List MemPlace} (h : DataW.trod enc Tryd.prog w base spare held fuel 22 [u] = some x) : ∃ (a : Option Addr) (c : Nat) (ts : List Tm), u = .slice a ts.length c ∧ Args w a c ts := by
  rcases DataW.trod_slice Tryd.underlying22 h with ⟨hcs, _⟩ | ⟨a, len, cap, elems, rest, n, rfl, hcs, _, _, hl, hm, hlen, hel, _, _⟩
  · simp at hcs
    subst hcs
    exact ⟨none, 0, [], rfl, by simp, .inl rfl⟩
  · simp at hcs
    subst hcs
    have each : ∀ i, i < len → ∃ v : Tv, v.ok w ∧ w.cells? base (a.add (i * 4)) 4 = some v.cells := fun i hi => by
      have h1 := hel i hi
      rw [List.getElem?_eq_getElem (by omega), cellsTerm] at h1
      obtain ⟨cs', h2, h3⟩ := Option.bind_eq_some_iff.1 h1
      obtain ⟨v, rfl, hv⟩ := ih n (by omega) cs' _ h3
      exact ⟨v, hv, h2⟩
    obtain ⟨T, hT⟩ := choose_lt each
    refine ⟨some a, cap, (List.range len).map fun i => (T i).t, by simp, ⟨by simp; unfold maxLen at hm; omega, by simpa using hl⟩, ?_⟩
    by_cases h0 : len = 0
    · left; simp [h0]
    · right
      obtain ⟨b, off, spot⟩ := a
      have hspot : spot = none := by
        have := World.cell?_spot (tvAt_cells (hT 0 (by omega)).2).1
        simpa [Addr.add] using this
      subst hspot
      have cells : ∀ i, i < len → TvAt w b (off + i * 4) (T i) := fun i hi => by
        obtain ⟨c0, c1, c2, c3⟩ := tvAt_cells (hT i hi).2
        rw [add_plain, add_plain] at c0 c1 c2 c3
        exact ⟨by simpa using c0, c1, c2, c3⟩
      refine ⟨b, off, rfl, lt_of_cell (cells 0 (by omega)).c0, rowAt_of fun {j} hj => ?_⟩
      have hjl : j < len := by simpa using hj
      rw [List.getElem_map, List.getElem_range]
      exact tv_tmAt (hT j hjl).1 (cells j hjl)

set_option maxRecDepth 100000 in
theorem tv_of_trod : ∀ (fuel : Nat) (cs : List Value) (x : DataW H × List MemPlace), DataW.trod enc Tryd.prog w base spare held fuel 28 cs = some x → ∃ v : Tv, cs = v.cells ∧ v.ok w := by
  intro fuel
  induction fuel using Nat.strongRecOn with
  | ind fuel ih =>
    intro cs x h
    have hl : cs.length = 4 := by
      obtain ⟨xs, m, _, _, hl, _⟩ := DataW.trod_struct Tryd.underlying28 h
      rw [hl, cellsTerm]
    obtain ⟨xs, m, hm, _, _, hxl, hf⟩ := DataW.trod_struct Tryd.underlying28 h
    match cs, hl with
    | [c0, c1, c2, c3], _ =>
      match xs, hxl with
      | [x0, x1, x2, x3], _ =>
        have f0 : DataW.trod enc Tryd.prog w base spare held m 3 (([c0, c1, c2, c3].drop 0).take (Tryd.prog.cellsOf 3)) = some x0 := hf 0 _ rfl
        have f1 : DataW.trod enc Tryd.prog w base spare held m 9 (([c0, c1, c2, c3].drop 1).take (Tryd.prog.cellsOf 9)) = some x1 := hf 1 _ rfl
        have f2 : DataW.trod enc Tryd.prog w base spare held m 3 (([c0, c1, c2, c3].drop 2).take (Tryd.prog.cellsOf 3)) = some x2 := hf 2 _ rfl
        have f3 : DataW.trod enc Tryd.prog w base spare held m 22 (([c0, c1, c2, c3].drop 3).take (Tryd.prog.cellsOf 22)) = some x3 := hf 3 _ rfl
        rw [cellsI64] at f0 f2
        rw [cellsString] at f1
        rw [cellsTerms] at f3
        obtain ⟨k, e0, _, wk⟩ := DataW.trod_int Tryd.underlying3 f0
        obtain ⟨s, e1, _, ws⟩ := DataW.trod_string Tryd.underlying9 f1
        obtain ⟨n, e2, _, wn⟩ := DataW.trod_int Tryd.underlying3 f2
        have f3' : DataW.trod enc Tryd.prog w base spare held m 22 [c3] = some x3 := f3
        obtain ⟨a, c, ts, e3, ha⟩ := args_of (fun q hq => ih q (by omega)) f3'
        obtain rfl : c0 = .int .i64 k := by simpa using e0
        obtain rfl : c1 = .string s := by simpa using e1
        obtain rfl : c2 = .int .i64 n := by simpa using e2
        have bk := bounds_i64 wk
        have bn := bounds_i64 wn
        subst e3
        exact ⟨⟨.mk k s n ts, a, c⟩, rfl, ⟨bk.1, bk.2, bn.1, bn.2, by unfold maxLen at ws; exact ws⟩, ha⟩
end

set_option maxRecDepth 100000 in
theorem open_term {H : Type} {enc : TypeId × Value → H} {W : World} {r : Reach} {b0 : Nat} {v : Value} {d : DataW H} {p : List MemPlace} (hv : Value.okWide Tryd.prog W r b0 28 v)
    (h : DataW.Trod enc Tryd.prog W 0 (fun _ => true) true 28 v d p) (_hlt : ∀ x ∈ p, x.block < W.heap.size) : ∃ t : Tv, v = t.val ∧ t.ok W := by
  obtain ⟨cs, rfl, _⟩ := okWide_struct Tryd.underlying28 hv
  obtain ⟨fuel, hf⟩ := h
  obtain ⟨t, ht, hk⟩ := tv_of_trod fuel _ _ hf
  refine ⟨t, ?_, hk⟩
  have : cs.toList = t.cells := by simpa [Value.cells] using ht
  unfold Tv.val
  congr 1
  apply Array.ext'
  exact this
set_option maxRecDepth 100000 in
theorem open_terms {H : Type} {enc : TypeId × Value → H} {W : World} {r : Reach} {b0 : Nat} {v : Value} {d : DataW H} {p : List MemPlace} (hv : Value.okWide Tryd.prog W r b0 22 v)
    (h : DataW.Trod enc Tryd.prog W 0 (fun _ => true) true 22 v d p) (_hlt : ∀ x ∈ p, x.block < W.heap.size) : ∃ ts, Tms W v ts := by
  obtain ⟨a0, len, cap, rfl⟩ := okWide_slice Tryd.underlying22 hv
  obtain ⟨fuel, hf⟩ := h
  have hf : DataW.trod enc Tryd.prog W 0 (fun _ => true) true fuel 22 [.slice a0 len cap] = some (d, p) := by simpa [Value.cells] using hf
  obtain ⟨a, c, ts, e, ha⟩ := args_of (fun n _ => tv_of_trod n) hf
  exact ⟨ts, a, c, e, ha⟩
end Go.Proofs.YtccpfgpdcicjaaaDoor

namespace Go.Proofs.YtccpfgpdcicjaaaDoor
open Go.RowKit

theorem lawOnce9_any (v : Value) (ts : List Tm) (x y : Tv) (w : World) (hT : Pow w) (hv : Tms w v ts) (hx : x.ok w) (hy : y.ok w) :
    Calls Tryd.prog 4 #[v, x.val, y.val] w fun e w' => e = .returned (.bool true) ∧ Below w.heap.size w w' :=
  lawOnce9_of arenas w hT (fun W h => awake9_of arenas W (hT.below h)) v ts x y hv hx hy
end Go.Proofs.YtccpfgpdcicjaaaDoor

namespace Go.Proofs.YtccpfgpdcicjaaaDoor
open Go.RowKit

/-- A node: its kind, its name, its number, its arguments' numbers. -/
structure Nd where
  k : Int
  s : ByteArray
  n : Int
  is : List Int
/-- Four cells that hold a node, and its arguments where the fourth says. -/
structure NdAt (w : World) (b o : Nat) (x : Nd) : Prop where
  fit : Fit x.k x.s x.n
  c0 : w.cell? ⟨b, o, none⟩ = some (.int .i64 x.k)
  c1 : w.cell? ⟨b, o + 1, none⟩ = some (.string x.s)
  c2 : w.cell? ⟨b, o + 2, none⟩ = some (.int .i64 x.n)
  c3 : ∃ a c, w.cell? ⟨b, o + 3, none⟩ = some (.slice a x.is.length c) ∧ Nums w (.slice a x.is.length c) x.is
/-- A slice value that reads as a row of nodes. -/
def Nds (w : World) (v : Value) (xs : List Nd) : Prop :=
  ∃ a c, v = .slice a xs.length c ∧ xs.length ≤ 9223372036854775807 ∧ (xs = [] ∨ ∃ b o, a = some ⟨b, o, none⟩ ∧ b < w.heap.size ∧ ∀ (j : Nat) x, xs[j]? = some x → NdAt w b (o + j * 4) x)
theorem put_node {L : List Tm} (h : Ord L) {k : Int} {s : ByteArray} {n : Int} {is : List Int} (hi : ∀ i ∈ is, InR L i) : (putT (.mk k s n (getsT L is)) L).length ≤ L.length + 1 := by
  rw [putT, h.puts_in _ (getsT_mem hi)]
  exact addT_length _ _

set_option maxRecDepth 100000 in
set_option maxHeartbeats 4000000 in
theorem lawNodes9_of {AR : ARel} (A : ArenaI AR) (w : World) (hT : Pow w) (AW : ∀ W, Below w.heap.size w W → Calls Tryd.prog 8 #[] W fun e w' => e = .returned (.bool true) ∧ Below W.heap.size W w')
    (v : Value) (ts : List Tm) (vn : Value) (xs : List Nd) (hv : Tms w v ts) (hx : Nds w vn xs) :
    Calls Tryd.prog 5 #[v, vn] w fun e w' => e = .returned (.bool true) ∧ Below w.heap.size w w' := by
  have AW1 := Lib.hid (AW w (Below.refl _ _))
  have FW := Lib.hid (fun (W : World) (h : Below w.heap.size w W) => rfewa_any v ts W (hv.below h))
  have FL := Lib.hid (fun (h1 : partsL ts ≤ 1200) (h2 : ∀ x ∈ ts, withinB x 300 = true) (W : World) (h : Below w.heap.size w W) => filled_any A w W v ts hv (reads_below h) hT (hT.below h) h1 h2)
  clear hT
  have PS := Lib.hid (fun (h1 : partsL ts ≤ 50000) (W : World) (h : Reads w W) => rputs_any v ts w W hv h1 h)
  obtain ⟨av, cv, rfl, hl, _⟩ := hv.open_
  obtain ⟨an, cn, rfl, hln, hrn⟩ := hx
  have HRN := Lib.hid hrn
  have AA := Lib.hid A
  clear AW hv A hrn
  go_enter Tryd.func5, Tryd.ntmps5
  go_wp2_with fail
  refine AW1.out.mono ?_; rintro e w1 ⟨rfl, hb1⟩
  go_wp2_with fail
  refine (FW.out _ hb1).mono ?_; rintro e w2 ⟨rfl, hb2⟩
  replace hb2 := below_next hb1 hb2
  clear hb1
  cases hf : fewA ts with
  | false =>
    have HE := Lib.hid hb2
    clear hb2
    go_wp2_with fail
    go_ret
    exact ⟨rfl, HE.out⟩
  | true =>
  by_cases h8 : 8 < xs.length
  · have hd8 : decide ((8 : Int) < (xs.length : Int)) = true := decide_eq_true (by omega)
    have HE := Lib.hid hb2
    clear hb2 hf
    go_wp2_with fail
    go_ret
    exact ⟨rfl, HE.out⟩
  have hd8 : decide ((8 : Int) < (xs.length : Int)) = false := decide_eq_false (by omega)
  have hpt := fewA_parts hf
  have FL2 := Lib.hid (FL.out (by omega) (fun x hx => fewA_mem hf hx) w2 hb2)
  have PS2 := Lib.hid (PS.out (by omega))
  obtain ⟨L0, hL0⟩ : ∃ L, putTs ts [] = L := ⟨_, rfl⟩
  have hLl : L0.length ≤ 720 := by rw [← hL0]; have := putTs_length ts []; simp only [List.length_nil] at this; omega
  rw [hL0] at FL2 PS2
  have HB2 := Lib.hid hb2
  clear hf hpt hL0 FW FL PS AW1 hb2
  go_wp2_with fail
  refine FL2.out.mono ?_; rintro e w4 ⟨p, C, rfl, h4⟩
  have H4 := Lib.hid h4
  have PS4 := Lib.hid (PS2.out w4 (AA.out.reads h4.ar))
  clear h4 FL2 PS2
  go_wp2_with fail
  refine PS4.out.mono ?_; rintro e w5 ⟨vw, rfl, hlw, hb5⟩
  have hr5 := (AA.out.reads H4.out.ar).trans (reads_below hb5)
  have H5 := Lib.hid (H4.out.sight AA.out hb5)
  have HU5 := Lib.hid (seen_up (w := w4) hr5)
  have HT5 := Lib.hid (hlw.sight hr5)
  clear hlw hb5 hr5 PS4
  go_wp2_with fail
  go_loopw [6, 29] (fun u i wr => ∃ (j : Nat) (C2 : Nat → Prop) (s : World) (L : List Tm), j ≤ xs.length ∧ i = .int .i64 j ∧ Hid (Reads w s) ∧ Hid (Tms s u L) ∧ Hid (ArNew AR s w2 p L C2 wr) ∧ L.length ≤ 720 + j) (fun _ i _ => xs.length - (intOf i).toNat)
  case atStart => exact ⟨0, C, _, L0, Nat.zero_le _, rfl, HU5, HT5, H5, by omega⟩
  case round =>
    obtain ⟨j, C2, s0, L, hj, rfl, HU0, HT0, H0, hLj⟩ := hrel
    have hr0 := AA.out.reads H0.out.ar
    by_cases hjl : j < xs.length
    · obtain ⟨⟨nk, nsn, nn, is⟩, hxj⟩ : ∃ x, xs[j]? = some x := ⟨_, List.getElem?_eq_getElem hjl⟩
      obtain ⟨bn, on, rfl, hltn, hatn⟩ := HRN.out.resolve_left (by intro h; rw [h] at hjl; simp at hjl)
      obtain ⟨hfit, d0, d1, d2, na, nc, d3, hnu⟩ := hatn j _ hxj
      have hrw := HU0.out.trans hr0
      replace d0 := hrw.cell _ _ d0
      replace d1 := hrw.cell _ _ d1
      replace d2 := hrw.cell _ _ d2
      replace d3 := hrw.cell _ _ d3
      simp only at d0 d1 d2 d3 hfit hnu
      have hj0 : (0 : Int) ≤ (j : Int) := by omega
      have hj1 : (j : Int) < (xs.length : Int) := by omega
      have hbA : Below wr.heap.size wr (wr.alloc (.cells #[.int .i64 nk, .string nsn, .int .i64 nn, .slice na is.length nc] 38)) := (Below.refl _ _).alloc (Nat.le_refl _) _
      have F1 := four_new s0 wr (.int .i64 nk) (.string nsn) (.int .i64 nn) (.slice na is.length nc) 38
      have h1 := H0.out.sight AA.out hbA
      have hup1 := seen_up (w := wr) (hr0.trans (reads_below hbA))
      obtain ⟨s1, hs1⟩ : ∃ s, seen s0 wr (wr.alloc (.cells #[.int .i64 nk, .string nsn, .int .i64 nn, .slice na is.length nc] 38)) = s := ⟨_, rfl⟩
      rw [hs1] at F1 h1 hup1
      have HFIT := Lib.hid hfit
      have HF1 := Lib.hid F1
      have H1 := Lib.hid h1
      have HU1 := Lib.hid (HU0.out.trans hup1)
      have HT1 := Lib.hid (HT0.out.reads hup1)
      have HN1 := Lib.hid (hnu.reads (HU0.out.trans hup1))
      have hbE := Lib.hid (HB2.out.trans (h1.below.mono HB2.out.size))
      have hln2 : is.length ≤ 9223372036854775807 := by
        obtain ⟨_, _, he, q1, q2, _⟩ := hnu
        omega
      clear hxj hatn hfit hnu hrw hbA F1 h1 hup1 hs1 hr0
      by_cases hi4 : 4 < is.length
      · have hd4 : decide ((4 : Int) < (is.length : Int)) = true := decide_eq_true (by omega)
        go_wp2_with fail
        go_ret
        exact ⟨rfl, hbE.out⟩
      have hd4 : decide ((4 : Int) < (is.length : Int)) = false := decide_eq_false (by omega)
      by_cases hs1 : 100 < nsn.size
      · have hd1 : decide ((100 : Int) < (nsn.size : Int)) = true := decide_eq_true (by omega)
        go_wp2_with fail
        go_ret
        exact ⟨rfl, hbE.out⟩
      have hd1 : decide ((100 : Int) < (nsn.size : Int)) = false := decide_eq_false (by omega)
      have TM := Lib.hid (rterma_any _ L nk nsn nn is na nc s1 _ HT1.out HN1.out HFIT.out (by omega) (AA.out.reads H1.out.ar))
      obtain ⟨aw, cw, rfl, _, _⟩ := HT1.out.open_
      clear hbE
      go_wp2_with fail
      refine TM.out.mono ?_; rintro e w6 hpost
      rcases hpost with ⟨hin, ⟨zt, za, zc⟩, rfl, hzt, hzf, hb6⟩ | ⟨hout, rfl, hb6⟩
      · have hb6a : Below w6.heap.size w6 (w6.alloc (.cells #[.int .i64 zt.kind, .string zt.name, .int .i64 zt.n, .slice za zt.args.length zc] 28)) := (Below.refl _ _).alloc (Nat.le_refl _) _
        have hb6b := below_next hb6 hb6a
        have h6 := H1.out.sight AA.out hb6b
        have hr6 := (AA.out.reads H1.out.ar).trans (reads_below hb6b)
        have hup6 := seen_up (w := wr.alloc (.cells #[.int .i64 nk, .string nsn, .int .i64 nn, .slice na is.length nc] 38)) hr6
        have hzo : Tv.ok (seen s1 (wr.alloc (.cells #[.int .i64 nk, .string nsn, .int .i64 nn, .slice na is.length nc] 38)) (w6.alloc (.cells #[.int .i64 zt.kind, .string zt.name, .int .i64 zt.n, .slice za zt.args.length zc] 28))) ⟨zt, za, zc⟩ := Lives.sight (R := fun V => Tv.ok V ⟨zt, za, zc⟩) (Lives.below (lives_fresh hzf) hb6a) hr6
        have hbxz := box_new w6 (.int .i64 zt.kind) (.string zt.name) (.int .i64 zt.n) (.slice za zt.args.length zc) 28
        have F6 : Four (seen s1 (wr.alloc (.cells #[.int .i64 nk, .string nsn, .int .i64 nn, .slice na is.length nc] 38)) (w6.alloc (.cells #[.int .i64 zt.kind, .string zt.name, .int .i64 zt.n, .slice za zt.args.length zc] 28))) w6.heap.size (.int .i64 zt.kind) (.string zt.name) (.int .i64 zt.n) (.slice za zt.args.length zc) := by
          have hs := hb6.size
          exact ⟨(seen_cell hs).trans hbxz.c0, (seen_cell hs).trans hbxz.c1, (seen_cell hs).trans hbxz.c2, (seen_cell hs).trans hbxz.c3⟩
        obtain ⟨s2, hs2⟩ : ∃ s, seen s1 (wr.alloc (.cells #[.int .i64 nk, .string nsn, .int .i64 nn, .slice na is.length nc] 38)) (w6.alloc (.cells #[.int .i64 zt.kind, .string zt.name, .int .i64 zt.n, .slice za zt.args.length zc] 28)) = s := ⟨_, rfl⟩
        rw [hs2] at h6 hup6 hzo F6
        have HF6 := Lib.hid F6
        have HF1b := Lib.hid (HF1.out.reads hup6)
        have HZO := Lib.hid hzo
        have HZT := Lib.hid hzt
        have HIN := Lib.hid hin
        have H6 := Lib.hid h6
        have HU6 := Lib.hid (HU1.out.trans hup6)
        have HT6 := Lib.hid (HT1.out.reads hup6)
        have HN6 := Lib.hid (HN1.out.reads hup6)
        have hr6b := AA.out.reads h6.ar
        have WI := within_tm ⟨zt, za, zc⟩ 300 (by omega) (by omega) _ (hzo.reads hr6b)
        obtain ⟨p0, p1, p2, p3⟩ := F6.reads hr6b
        simp only [Tv.val] at WI
        clear hb6 hb6a hb6b h6 hr6 hup6 hzo hbxz F6 hs2 hzf hr6b hin hzt d0 d1 d2 d3 TM
        simp only [Tv.val]
        cases hwz : withinB zt 300 with
        | false =>
          rw [hwz] at WI
          have HWI := Lib.hid WI
          have hbe := Lib.hid (HB2.out.trans (H6.out.below.mono HB2.out.size))
          clear WI hwz
          go_wp2_with fail
          refine HWI.out.mono ?_; rintro e w7 ⟨rfl, hb7⟩
          have HE := Lib.hid (below_next hbe.out hb7)
          clear hb7
          go_wp2_with fail
          go_ret
          exact ⟨rfl, HE.out⟩
        | true =>
          rw [hwz] at WI
          have HWI := Lib.hid WI
          have HWZ := Lib.hid hwz
          clear WI hwz
          go_wp2_with fail
          refine HWI.out.mono ?_; rintro e w7 ⟨rfl, hb7⟩
          have h7 := H6.out.on AA.out hb7
          have H7 := Lib.hid h7
          have hzp : zt.parts ≤ 300 := by have := within_parts HWZ.out; omega
          have NO := Lib.hid (AA.out.node nk nsn nn is na nc h7.ar HFIT.out (by omega) HN6.out (by omega) HIN.out (by rw [← (show zt = .mk nk nsn nn (getsT L is) from HZT.out)]; exact HWZ.out) (by omega))
          have hzE : zt = .mk nk nsn nn (getsT L is) := HZT.out
          rw [← hzE] at NO
          have hlen' : (putT zt L).length ≤ L.length + 1 := by rw [hzE]; exact put_node (AA.out.ord h7.ar) HIN.out
          obtain ⟨q0, q1, q2, q3⟩ := HF1b.out.reads (AA.out.reads h7.ar)
          have RP := Lib.hid (fun (V : World) (hr : Reads s2 V) => rput9_tm zt.parts ⟨zt, za, zc⟩ _ L s2 V (Nat.le_refl _) (by omega) HZO.out HT6.out (by simp only; omega) hr)
          simp only [Tv.val] at RP
          obtain ⟨L', hL'⟩ : ∃ L', putT zt L = L' := ⟨_, rfl⟩
          rw [hL'] at NO hlen'
          simp only [hL'] at RP
          clear hb7 h7 hzE hL' p0 p1 p2 p3 HWI
          go_wp2_with fail
          refine NO.out.mono ?_; rintro e w8 hp8
          obtain ⟨C8, rfl, h8, _, _⟩ := H7.out.more hp8
          have H8 := Lib.hid h8
          have RP8 := Lib.hid (RP.out _ (AA.out.reads h8.ar))
          obtain ⟨p0, p1, p2, p3⟩ := HF6.out.reads (AA.out.reads h8.ar)
          clear hp8 h8 q0 q1 q2 q3 NO RP
          go_wp2_with fail
          refine RP8.out.mono ?_; rintro e w9 ⟨v9, rfl, hl9, hb9⟩
          have hr9 := (AA.out.reads H8.out.ar).trans (reads_below hb9)
          have hup9 := seen_up (w := w8) hr9
          have H9 := Lib.hid (H8.out.sight AA.out hb9)
          have HU9 := Lib.hid (HU6.out.trans hup9)
          have HT9 := Lib.hid (hl9.sight hr9)
          have hr9b := AA.out.reads H9.out.ar
          have NM := Lib.hid (rnum_any v9 L' ⟨zt, za, zc⟩ w9 (HT9.out.reads hr9b) (HZO.out.reads (hup9.trans hr9b)))
          have IS9 := Lib.hid (fun (C9 : Nat → Prop) (V : World) (h : AR C9 (seen s2 w8 w9) V p L') => is_any AA.out h HT9.out (by omega))
          obtain ⟨p0, p1, p2, p3⟩ := (HF6.out.reads hup9).reads hr9b
          simp only [Tv.val] at NM
          obtain ⟨z9, hz9⟩ : ∃ z, numT L' zt = z := ⟨_, rfl⟩
          simp only [hz9] at NM
          have hq9 : (z9 != z9) = false := by simp
          clear hl9 hb9 hr9 hup9 hr9b RP8
          simp only [hz9]
          clear hz9
          go_wp2_with fail
          refine NM.out.mono ?_; rintro e w10 ⟨rfl, hb10⟩
          have H10 := Lib.hid (H9.out.on AA.out hb10)
          clear hb10 p0 p1 p2 p3 NM
          go_wp2_with fail
          refine (IS9.out _ _ H10.out.ar).mono ?_; rintro e w11 hp11
          obtain ⟨C11, rfl, h11, _, _⟩ := H10.out.more hp11
          have H11 := Lib.hid h11
          clear hp11 h11
          go_wp2_with fail
          go_roundw
          case rel => exact ⟨j + 1, C11, _, L', by omega, by go_num, HU9, HT9, H11, by omega⟩
          case measure => simp [intOf]; omega
      · have hb6a : Below w6.heap.size w6 (w6.alloc (.cells #[.int .i64 0, .string ⟨#[]⟩, .int .i64 0, .slice none 0 0] 28)) := (Below.refl _ _).alloc (Nat.le_refl _) _
        have hb6b := below_next hb6 hb6a
        have H6 := Lib.hid (H1.out.on AA.out hb6b)
        have NO := Lib.hid (AA.out.nodeOut nk nsn nn is na nc H6.out.ar HFIT.out (by omega) HN1.out (by omega) hout (by omega))
        have IS9 := Lib.hid (fun (C9 : Nat → Prop) (V : World) (h : AR C9 s1 V p L) => is_any AA.out h HT1.out (by omega))
        obtain ⟨q0, q1, q2, q3⟩ := HF1.out.reads (AA.out.reads H6.out.ar)
        clear hb6 hb6a hb6b d0 d1 d2 d3 TM hout
        go_wp2_with fail
        refine NO.out.mono ?_; rintro e w8 hp8
        obtain ⟨C8, rfl, h8, _, _⟩ := H6.out.more hp8
        have H8 := Lib.hid h8
        clear hp8 h8 q0 q1 q2 q3 NO
        go_wp2_with fail
        refine (IS9.out _ _ H8.out.ar).mono ?_; rintro e w11 hp11
        obtain ⟨C11, rfl, h11, _, _⟩ := H8.out.more hp11
        have H11 := Lib.hid h11
        clear hp11 h11
        go_wp2_with fail
        go_roundw
        case rel => exact ⟨j + 1, C11, s1, L, by omega, by go_num, HU1, HT1, H11, by omega⟩
        case measure => simp [intOf]; omega
    · obtain rfl : j = xs.length := by omega
      have HE := Lib.hid (HB2.out.trans (H0.out.below.mono HB2.out.size))
      go_wp2_with fail
      go_ret
      exact ⟨rfl, HE.out⟩
end Go.Proofs.YtccpfgpdcicjaaaDoor

namespace Go.Proofs.YtccpfgpdcicjaaaDoor
open Go.RowKit

theorem lawNodes9_any (v : Value) (ts : List Tm) (vn : Value) (xs : List Nd) (w : World) (hT : Pow w) (hv : Tms w v ts) (hx : Nds w vn xs) :
    Calls Tryd.prog 5 #[v, vn] w fun e w' => e = .returned (.bool true) ∧ Below w.heap.size w w' :=
  lawNodes9_of arenas w hT (fun W h => awake9_of arenas W (hT.below h)) v ts vn xs hv hx
end Go.Proofs.YtccpfgpdcicjaaaDoor
