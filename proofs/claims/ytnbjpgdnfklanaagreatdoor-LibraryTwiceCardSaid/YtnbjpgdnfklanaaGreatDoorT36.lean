/-
  What a listed package variable gives a walk: one of a list, its block, and the table of powers of ten.
  What the listed table of powers of ten gives a walk.
  A number in decimal, by the program's Digits (the table of powers of ten: Pw).
  What stands for names that are numbered, as values. No function of the program.
  Names within a term that stands in memory are no longer than a text can be. No function of the program. (parted from PPutV: the two clash)
  A field of a value that a call has answered.
  Terms with their variables by number, by the program: together, vars, put, Canon.
-/
import Derived.Test.YtnbjpgdnfklanaaGreatDoorT01
import Derived.Test.YtnbjpgdnfklanaaGreatDoorRows
import Derived.WalkKit
import Derived.ProofKit
import Derived.Lib.Hide
import Derived.Stop.LaidErr
import Derived.WalkSmall
import Derived.Deep.DeepHandedRow
import Derived.Lib.LaidTab
import Derived.MakeChecks
import Derived.Lib.ItoaLen
import Derived.Test.YtnbjpgdnfklanaaGreatDoorShelf
import Derived.Test.YtnbjpgdnfklanaaGreatDoorT06
import Derived.Test.YtnbjpgdnfklanaaGreatDoorT33
import Derived.Test.YtnbjpgdnfklanaaGreatDoorT09
import Derived.Test.YtnbjpgdnfklanaaGreatDoorT02
import Derived.Test.YtnbjpgdnfklanaaGreatDoorT10
import Derived.Test.YtnbjpgdnfklanaaGreatDoorT23
import Derived.Test.YtnbjpgdnfklanaaGreatDoorT35
namespace Go.Proofs.YtnbjpgdnfklanaaGreatDoor
open Go.RowKit
theorem laidMet_head {P : Program} {x : String × DataW Unit} {r : List (String × DataW Unit)} {w : World} (h : laidMet P (x :: r) w) : laidMet P [x] w := by
  obtain ⟨ps, hv, hnd, hrows⟩ := h
  obtain ⟨n, d⟩ := x
  obtain ⟨g, t, cs, fuel, p, q, h1, h2, h3, h4, hq, rfl⟩ := hv
  refine ⟨_, ⟨g, t, cs, fuel, p, [], h1, h2, h3, h4, rfl, rfl⟩, ?_, ?_⟩
  · rw [List.append_nil]
    exact List.Nodup.sublist (List.sublist_append_left _ _) hnd
  · intro b off hm
    rw [List.append_nil] at hm
    exact hrows b off (List.mem_append_left _ hm)
theorem laidMet_one {P : Program} {x : String × DataW Unit} {w : World} : ∀ {l : List (String × DataW Unit)}, laidMet P l w → x ∈ l → laidMet P [x] w
  | [], _, hm => by cases hm
  | y :: r, h, hm => by
    rcases List.mem_cons.1 hm with rfl | hm
    · exact laidMet_head h
    · exact laidMet_one h.tail hm
theorem gPow : Tryz.prog.globalNamed "internal/strconv.uint64pow10" = some 0 := by kernel_rfl
theorem gPowType : (Tryz.prog.globals[0]?).map (·.type) = some 196 := by kernel_rfl
theorem cellsPow : Tryz.prog.cellsOf 196 = 20 := by kernel_rfl
theorem cellsU64 : Tryz.prog.cellsOf 159 = 1 := by kernel_rfl
theorem lt_of_var {w : World} {n : String} {g : Nat} {cs : Array Value} (hg : Tryz.prog.globalNamed n = some g) (h : w.var? Tryz.prog n = some cs) : g < w.heap.size := by
  unfold World.var? at h
  rw [hg] at h
  simp only [Option.bind_some] at h
  rcases Nat.lt_or_ge g w.heap.size with h' | h'
  · exact h'
  · simp [Array.getElem?_eq_none h'] at h
theorem below_grow (w : World) (k : Nat) (os : Array Obj) : Below w.heap.size w (Sort.grow (w.drewN k) os) :=
  ⟨rfl, rfl, rfl, by show w.heap.size ≤ (w.heap ++ os).size; simp, fun i hi => by show (w.heap ++ os)[i]? = _; rw [Array.getElem?_append_left hi]⟩
end Go.Proofs.YtnbjpgdnfklanaaGreatDoor

namespace Go.Proofs.YtnbjpgdnfklanaaGreatDoor
open Go.RowKit
structure Pow (w : World) : Prop where
  pow : Lib.TabIs Tryz.prog w "internal/strconv.uint64pow10" .u64 Lib.pow10Tab
  size : 0 < w.heap.size
theorem Pow.below {w w' : World} (h : Pow w) (hb : Below w.heap.size w w') : Pow w' where
  pow := by
    have h1 := h.pow
    unfold Lib.TabIs World.var? at h1 ⊢
    rw [gPow] at h1 ⊢
    simp only [Option.bind_some] at h1 ⊢
    rw [hb.block _ h.size]
    exact h1
  size := Nat.lt_of_lt_of_le h.size hb.size
theorem pow_of {l : List (String × DataW Unit)} {w : World} (h : laidMetH Tryz.prog l w) (hp : (l.all fun x => x.2.handleName?.isNone) = true)
    (h1 : ("internal/strconv.uint64pow10", Rows.laid_internal_strconv_uint64pow10) ∈ l) : Pow w := by
  rw [MakeChecks.laidMetH_plain _ _ _ hp] at h
  have a1 : Lib.TabIs Tryz.prog w "internal/strconv.uint64pow10" .u64 Lib.pow10Tab :=
    Lib.tabIs_of_head (rest := []) gPow gPowType Tryz.underlying196 Tryz.underlying159 cellsU64 cellsPow (laidMet_one h h1)
  exact ⟨a1, lt_of_var gPow a1⟩
end Go.Proofs.YtnbjpgdnfklanaaGreatDoor

namespace Go.Proofs.YtnbjpgdnfklanaaGreatDoor
open Go.RowKit
set_option maxHeartbeats 400000 in
theorem pdigits_any (n : Int) (h0 : -9223372036854775808 ≤ n) (h1 : n ≤ 9223372036854775807) (w : World) (hT : Pow w) :
    Calls Tryz.prog 103 #[.int .i64 n] w fun e w' => e = .returned (.string ⟨(Lib.itoa n).toArray⟩) ∧ Below w.heap.size w w' := by
  have c := Tryz.strconv_Itoa n h0 h1 w hT.pow
  have C := Lib.hid c
  clear c hT
  go_enter Tryz.func103, Tryz.ntmps103
  go_wp2_with (go_at_call 116; refine C.out.mono ?_; rintro e w' ⟨rfl, k, os, rfl⟩)
  go_ret
  exact ⟨rfl, below_grow _ _ _⟩
end Go.Proofs.YtnbjpgdnfklanaaGreatDoor

namespace Go.Proofs.YtnbjpgdnfklanaaGreatDoor
open Go.RowKit
def canBv (i : Nat) (v : ByteArray) : Bv := ⟨v, ⟨.mk 1 ⟨(88 :: Lib.itoa i).toArray⟩ 0 [], none, 0⟩⟩
def canBvs : Nat → List ByteArray → List Bv
  | _, [] => []
  | i, v :: r => canBv i v :: canBvs (i + 1) r
theorem canBvs_bn : ∀ (i : Nat) (l : List ByteArray), (canBvs i l).map Bv.bn = canonB i l
  | _, [] => rfl
  | i, v :: r => by rw [canBvs, canonB, List.map_cons, canBvs_bn (i + 1) r]; rfl
theorem canBvs_append : ∀ (i : Nat) (l : List ByteArray) (v : ByteArray), canBvs i (l ++ [v]) = canBvs i l ++ [canBv (i + l.length) v]
  | i, [], v => rfl
  | i, u :: r, v => by
    rw [List.cons_append, canBvs, canBvs, canBvs_append (i + 1) r v, List.cons_append, List.length_cons, show i + 1 + r.length = i + (r.length + 1) by omega]
theorem canBvs_length : ∀ (i : Nat) (l : List ByteArray), (canBvs i l).length = l.length
  | _, [] => rfl
  | i, _ :: r => by rw [canBvs, List.length_cons, List.length_cons, canBvs_length (i + 1) r]
theorem itoa_small (i : Nat) (h : i ≤ 1000000) : (Lib.itoa i).length ≤ 42 := by
  have := Lib.itoa_length_le (i : Int) (by omega) (by omega)
  omega
theorem canBv_ok (i : Nat) (v : ByteArray) (hi : i ≤ 1000000) (W : World) : (canBv i v).v.ok W := by
  have := itoa_small i hi
  exact ⟨⟨by simp [Tm.kind, canBv], by simp [Tm.kind, canBv], by simp [Tm.n, canBv], by simp [Tm.n, canBv], by simp [Tm.name, canBv, ByteArray.size]; omega⟩, ⟨by simp [Tm.args, canBv], .inl rfl⟩⟩
theorem canBvs_ok (W : World) : ∀ (i : Nat) (l : List ByteArray), i + l.length ≤ 1000000 → (∀ v ∈ l, v.size ≤ 9223372036854775807) → ∀ x ∈ canBvs i l, x.v.ok W ∧ x.s.size ≤ 9223372036854775807
  | _, [], _, _, x, hx => by cases hx
  | i, v :: r, hl, hs, x, hx => by
    rw [List.length_cons] at hl
    rw [canBvs] at hx
    rcases List.mem_cons.1 hx with rfl | hx
    · exact ⟨canBv_ok i v (by omega) W, hs v (List.mem_cons_self ..)⟩
    · exact canBvs_ok W (i + 1) r (by omega) (fun u hu => hs u (List.mem_cons_of_mem _ hu)) x hx
def ShortN (l : List ByteArray) : Prop := ∀ v ∈ l, v.size ≤ 9223372036854775807
theorem addN_len (acc : List ByteArray) (v : ByteArray) : (addN acc v).length ≤ acc.length + 1 := by unfold addN; split <;> simp
theorem foldN_len : ∀ (l acc : List ByteArray), (l.foldl addN acc).length ≤ acc.length + l.length
  | [], acc => by simp
  | v :: r, acc => by
    rw [List.foldl_cons, List.length_cons]
    have := foldN_len r (addN acc v)
    have := addN_len acc v
    omega
theorem vars_parts (t : Tm) : t.vars.length ≤ t.parts := by
  have h1 : t.vars.length ≤ t.all.length := varsL_len _
  have h2 : t.all.length = t.parts := all_length t
  omega
end Go.Proofs.YtnbjpgdnfklanaaGreatDoor

namespace Go.Proofs.YtnbjpgdnfklanaaGreatDoor
open Go.RowKit
mutual
theorem tm_names {w : World} : ∀ {t : Tm} {b o : Nat}, TmAt w t b o → ∀ y ∈ t.all, y.name.size ≤ 9223372036854775807
  | .mk k s n xs, b, o, h, y, hy => by
    rw [TmAt] at h
    obtain ⟨hf, _, _, _, a, c, _, _, hr⟩ := h
    rw [all_eq] at hy
    rcases List.mem_cons.1 hy with rfl | hy
    · exact hf.len
    · rcases hr with rfl | ⟨b', o', _, _, hr⟩
      · simp only [Tm.args, allL] at hy; cases hy
      · exact row_names hr y hy
theorem row_names {w : World} : ∀ {xs : List Tm} {b o : Nat}, RowAt w xs b o → ∀ y ∈ allL xs, y.name.size ≤ 9223372036854775807
  | [], _, _, _, y, hy => by rw [allL] at hy; cases hy
  | t :: r, b, o, h, y, hy => by
    rw [RowAt] at h
    rw [allL] at hy
    rcases List.mem_append.1 hy with hy | hy
    · exact tm_names h.1 y hy
    · exact row_names h.2 y hy
end
theorem ok_names {w : World} {x : Tv} (h : x.ok w) : ∀ y ∈ x.t.all, y.name.size ≤ 9223372036854775807 := fun y hy => by
  obtain ⟨hf, _, hr⟩ := h
  rw [all_eq] at hy
  rcases List.mem_cons.1 hy with rfl | hy
  · exact hf.len
  · rcases hr with e | ⟨b, o, _, _, hr⟩
    · rw [e, allL] at hy; cases hy
    · exact row_names hr y hy
theorem vars_from {s : ByteArray} : ∀ (l : List Tm) {acc : List ByteArray}, s ∈ l.foldl varStep acc → s ∈ acc ∨ ∃ y ∈ l, y.kind = 1 ∧ y.name = s
  | [], _, h => .inl h
  | x :: l, acc, h => by
    rcases vars_from l (acc := varStep acc x) h with h | ⟨y, hy, h⟩
    · unfold varStep at h
      split at h
      · next hc =>
        rcases List.mem_append.1 h with h | h
        · exact .inl h
        · rw [List.mem_singleton] at h
          exact .inr ⟨x, List.mem_cons_self, by simpa using hc.1, h.symm⟩
      · exact .inl h
    · exact .inr ⟨y, List.mem_cons_of_mem _ hy, h⟩
theorem ok_vars {w : World} {x : Tv} (h : x.ok w) {s : ByteArray} (hs : s ∈ x.t.vars) : s.size ≤ 9223372036854775807 := by
  rcases vars_from x.t.all hs with h1 | ⟨y, hy, _, rfl⟩
  · cases h1
  · exact ok_names h y hy
end Go.Proofs.YtnbjpgdnfklanaaGreatDoor

namespace Go.Proofs.YtnbjpgdnfklanaaGreatDoor
open Go.RowKit
theorem field_args (a b c d : Value) (w : World) : (Instr.field 50 (.agg #[a, b, c, d]) 3).run Tryz.prog w = .ok d w := by kernel_rfl
end Go.Proofs.YtnbjpgdnfklanaaGreatDoor

namespace Go.Proofs.YtnbjpgdnfklanaaGreatDoor
open Go.RowKit
theorem bindInfoP12 : (Tryz.prog.info? 146).map (fun i => (i.zero, i.size, i.bytes)) = some (some (.agg #[.string ⟨#[]⟩, .int .i64 0, .string ⟨#[]⟩, .int .i64 0, .slice none 0 0]), 5, 72) := by kernel_rfl
theorem tms_vs {w : World} {v : Value} {ts : List Tm} (h : Tms w v ts) (hne : ts ≠ []) : ∃ (b o c : Nat) (vs : List Tv), v = .slice (some ⟨b, o, none⟩) ts.length c ∧ vs.map Tv.t = ts ∧ (∀ x ∈ vs, x.ok w) ∧ b < w.heap.size ∧ ∀ q x, (rowTv vs)[q]? = some x → w.cell? ((⟨b, o, none⟩ : Addr).add q) = some x := by
  obtain ⟨a, c, rfl, _, h⟩ := h
  rcases h with h | ⟨b, o, rfl, hlt, hr⟩
  · exact absurd h hne
  · obtain ⟨vs, h1, h2, h3⟩ := rowAt_vs hr
    exact ⟨b, o, c, vs, rfl, h1, h2, hlt, fun q x hq => by rw [addr_add]; exact h3 q x hq⟩
set_option maxRecDepth 100000 in
set_option maxHeartbeats 1000000 in
theorem ptogether_any (v : Value) (ts : List Tm) (w : World) (hv : Tms w v ts) (hne : ts ≠ []) (hl : ts.length ≤ 10) :
    Calls Tryz.prog 115 #[v] w fun e w' => ∃ za zc, e = .returned (.agg #[.int .i64 5, .string ⟨#[]⟩, .int .i64 0, .slice za ts.length zc]) ∧ Tv.ok w' ⟨.mk 5 ⟨#[]⟩ 0 ts, za, zc⟩ ∧ Below w.heap.size w w' := by
  obtain ⟨b, o, c, vs, rfl, rfl, hok, hlt, hc⟩ := tms_vs hv hne
  rw [List.length_map] at hl ⊢
  have hbx := box_new w (.int .i64 0) (.string ⟨#[]⟩) (.int .i64 0) (.slice none 0 0) 50
  have hb1 : Below w.heap.size w (w.alloc (.cells #[.int .i64 0, .string ⟨#[]⟩, .int .i64 0, .slice none 0 0] 50)) := (Below.refl _ _).alloc (Nat.le_refl _) _
  obtain ⟨w1, hw1⟩ : ∃ w1, w.alloc (.cells #[.int .i64 0, .string ⟨#[]⟩, .int .i64 0, .slice none 0 0] 50) = w1 := ⟨_, rfl⟩
  have hz : (w.alloc (.cells #[.int .i64 0, .string ⟨#[]⟩, .int .i64 0, .slice none 0 0] 50)).heap.size = w.heap.size + 1 := by simp
  rw [hw1] at hbx hb1 hz
  have PF := Lib.hid (pfun_row ⟨#[]⟩ b o c vs w w1 w1 (by decide) (by omega) (fun q x hq => (hb1.cell (p := (⟨b, o, none⟩ : Addr).add q) (by rw [addr_add]; exact hlt)).trans (hc q x hq)) (Nat.lt_of_lt_of_le hlt hb1.size) (fun x hx => fresh_old (hok x hx)) (Nat.le_refl _))
  have HB1 := Lib.hid hb1
  have HBX := Lib.hid hbx
  have HW := Lib.hid hw1
  clear hv hne hok hc hb1 hbx hw1
  go_enter Tryz.func115, Tryz.ntmps115
  go_wp2_with fail
  rw [HW.out]
  refine PF.out.mono ?_; rintro e w2 ⟨za, zc, rfl, hf, hb2⟩
  obtain ⟨q0, q1, q2, q3, f0, f1, f2, f3⟩ := HBX.out.below hb2 (by omega)
  have hbw := below_next HB1.out hb2
  have HR := Lib.hid (fun p0 p1 p2 p3 : Value => ((((hbw.setCell (p := ⟨w.heap.size, 0, none⟩) (Nat.le_refl _) p0).setCell (p := ⟨w.heap.size, 1, none⟩) (Nat.le_refl _) p1).setCell (p := ⟨w.heap.size, 2, none⟩) (Nat.le_refl _) p2).setCell (p := ⟨w.heap.size, 3, none⟩) (Nat.le_refl _) p3))
  have HS := Lib.hid (hz ▸ hb2.size : w.heap.size + 1 ≤ w2.heap.size)
  have HF := Lib.hid hf
  clear hf hb2 hbw
  go_wp2_with fail
  refine bodyPost_ret (v := .agg #[.int .i64 5, .string ⟨#[]⟩, .int .i64 0, .slice za vs.length zc]) (by simp [results, Tryz.results115, go_sem, q0, q1, q2, q3]) rfl ⟨za, zc, rfl, ?_, HR.out _ _ _ _⟩
  refine HF.out _ (reads_below (HR.out _ _ _ _)) (by simp) fun k k1 k2 => ?_
  have hk : k ≠ w.heap.size := by omega
  rw [Below.heap_setCell _ _ _ _ hk, Below.heap_setCell _ _ _ _ hk, Below.heap_setCell _ _ _ _ hk, Below.heap_setCell _ _ _ _ hk]
set_option maxRecDepth 100000 in
set_option maxHeartbeats 1000000 in
theorem pvars12_any (v : Value) (ts : List Tm) (w : World) (hv : Tms w v ts) (hne : ts ≠ []) (hl : ts.length ≤ 10) (hp : ∀ t ∈ ts, t.parts ≤ 10000) :
    Calls Tryz.prog 102 #[v] w fun e w' => ∃ u, e = .returned u ∧ Strs w' u (canonN ts) ∧ ShortN (canonN ts) ∧ Below w.heap.size w w' := by
  have TG := Lib.hid (ptogether_any v ts w hv hne hl)
  have hpp : (Tm.mk 5 ⟨#[]⟩ 0 ts).parts ≤ 100001 := by
    have h2 : ∀ l : List Tm, (∀ t ∈ l, t.parts ≤ 10000) → partsL l ≤ l.length * 10000 := by
      intro l
      induction l with
      | nil => intro _; simp [partsL]
      | cons t r ih =>
        intro h
        rw [partsL, List.length_cons]
        have := ih (fun u hu => h u (List.mem_cons_of_mem _ hu))
        have := h t (List.mem_cons_self ..)
        omega
    have := h2 ts hp
    rw [Tm.parts]; omega
  obtain ⟨a, c, rfl, _⟩ := hv
  have HC := Lib.hid (canonN_is ⟨#[]⟩ 0 ts)
  clear hne hp
  go_enter Tryz.func102, Tryz.ntmps102
  go_wp2_with fail
  refine TG.out.mono ?_; rintro e w1 ⟨za, zc, rfl, hz, hb1⟩
  have VS := Lib.hid (pvars_tm ⟨.mk 5 ⟨#[]⟩ 0 ts, za, zc⟩ w1 hz (by simp only; omega))
  have HSH := Lib.hid (fun (u : ByteArray) (hu : u ∈ (Tm.mk 5 ⟨#[]⟩ 0 ts).vars) => ok_vars hz hu)
  have HB1 := Lib.hid hb1
  unfold Tv.val at VS
  simp only [Tm.kind, Tm.name, Tm.n, Tm.args] at VS
  clear hz hb1
  go_wp2_with fail
  refine VS.out.mono ?_; rintro e w2 ⟨u, rfl, ⟨hu, _⟩, hb2⟩
  have HU := Lib.hid hu
  have HB2 := Lib.hid (HB1.out.trans (hb2.mono HB1.out.size))
  clear hu hb2
  go_wp2_with fail
  go_ret
  exact ⟨_, rfl, by rw [HC.out]; exact HU.out, by rw [HC.out]; exact HSH.out, HB2.out⟩
set_option maxRecDepth 100000 in
set_option maxHeartbeats 1000000 in
theorem pput12_any (vb v : Value) (bs : List Bn) (ts : List Tm) (w : World) (hvb : Bds w vb bs) (hbl : bs.length ≤ 1000000) (hv : Tms w v ts) (hne : ts ≠ []) (hl : ts.length ≤ 10) (hp : ∀ t ∈ ts, t.parts ≤ 10000) :
    Calls Tryz.prog 104 #[vb, v] w fun e w' => ∃ u, e = .returned u ∧ Tms w' u (ts.map (appT bs)) ∧ Below w.heap.size w w' := by
  have TG := Lib.hid (ptogether_any v ts w hv hne hl)
  have hpp : (Tm.mk 5 ⟨#[]⟩ 0 ts).parts ≤ 100001 := by
    have h2 : ∀ l : List Tm, (∀ t ∈ l, t.parts ≤ 10000) → partsL l ≤ l.length * 10000 := by
      intro l
      induction l with
      | nil => intro _; simp [partsL]
      | cons t r ih =>
        intro h
        rw [partsL, List.length_cons]
        have := ih (fun u hu => h u (List.mem_cons_of_mem _ hu))
        have := h t (List.mem_cons_self ..)
        omega
    have := h2 ts hp
    rw [Tm.parts]; omega
  obtain ⟨a, c, rfl, _⟩ := hv
  have HVB := Lib.hid hvb
  obtain ⟨ab, cb, rfl, _, _⟩ := hvb
  clear hne hp
  go_enter Tryz.func104, Tryz.ntmps104
  go_wp2_with fail
  refine TG.out.mono ?_; rintro e w1 ⟨za, zc, rfl, hz, hb1⟩
  have AP := Lib.hid (apply_bd _ bs ⟨.mk 5 ⟨#[]⟩ 0 ts, za, zc⟩ w1 w1 (HVB.out.below hb1) hbl hz (by simp only; omega) (Below.refl _ _))
  have HB1 := Lib.hid hb1
  unfold Tv.val ApPost at AP
  simp only [Tm.kind, Tm.name, Tm.n, Tm.args] at AP
  have happ : appT bs (.mk 5 ⟨#[]⟩ 0 ts) = .mk 5 ⟨#[]⟩ 0 (ts.map (appT bs)) := by
    rw [appT_eq, if_neg (by show ¬ (5 : Int) = 1; decide)]; rfl
  rw [happ] at AP
  clear hz hb1 happ
  go_wp2_with fail
  refine AP.out.mono ?_; rintro e w2 ⟨⟨zt, za2, zc2⟩, rfl, hzt, hf, hb2⟩
  simp only at hzt
  subst hzt
  have hok := hf.ok (HB1.out.trans (hb2.mono HB1.out.size) |> fun _ => hb2)
  have HOK := Lib.hid hok
  have HB2 := Lib.hid (HB1.out.trans (hb2.mono HB1.out.size))
  clear hf hb2 hok
  unfold Tv.val
  simp only [Tm.kind, Tm.name, Tm.n, Tm.args]
  have HFA := field_args (.int .i64 5) (.string ⟨#[]⟩) (.int .i64 0) (.slice za2 ts.length zc2) w2
  go_wp2_with fail
  go_ret
  exact ⟨.slice za2 ts.length zc2, rfl, ⟨za2, zc2, by rw [List.length_map], HOK.out.2⟩, HB2.out⟩
set_option maxRecDepth 100000 in
set_option maxHeartbeats 2000000 in
theorem pcanon_any (v : Value) (ts : List Tm) (w : World) (HPW : Pow w) (hv : Tms w v ts) (hl0 : 0 < ts.length ∧ ts.length ≤ 10) (hp : ∀ t ∈ ts, t.parts ≤ 10000) :
    Calls Tryz.prog 84 #[v] w fun e w' => ∃ u, e = .returned u ∧ Tms w' u (canonT ts) ∧ Below w.heap.size w w' := by
  obtain ⟨i1, hi1, hy0, hy1, hy2⟩ := info_parts bindInfoP12
  obtain ⟨hl1, hl⟩ := hl0
  have hne : ts ≠ [] := by rintro rfl; simp at hl1
  have hln : (canonN ts).length ≤ 100000 := by
    have h1 : (canonN ts).length ≤ (ts.flatMap Tm.vars).length := by
      have := foldN_len (ts.flatMap Tm.vars) []
      unfold canonN; simpa using this
    have h2 : ∀ l : List Tm, (∀ t ∈ l, t.parts ≤ 10000) → (l.flatMap Tm.vars).length ≤ l.length * 10000 := by
      intro l
      induction l with
      | nil => intro _; simp
      | cons t r ih =>
        intro h
        rw [List.flatMap_cons, List.length_append, List.length_cons]
        have := ih (fun u hu => h u (List.mem_cons_of_mem _ hu))
        have := vars_parts t
        have := h t (List.mem_cons_self ..)
        omega
    have h3 := h2 ts hp
    omega
  have VS := Lib.hid (pvars12_any v ts w hv hne (by omega) hp)
  have PT := Lib.hid (fun (vb : Value) (bs : List Bn) (W : World) (hb : Below w.heap.size w W) (hvb : Bds W vb bs) (hbl : bs.length ≤ 1000000) => pput12_any vb v bs ts W hvb hbl (hv.below hb) hne (by omega) hp)
  have HDG := Lib.hid (fun (n : Nat) (h : n ≤ 1000000) (W : World) (hb : Below w.heap.size w W) => pdigits_any (n : Int) (by omega) (by omega) W (HPW.below hb))
  have HVR := Lib.hid (fun (s : ByteArray) (W : World) => pvar_any s W)
  obtain ⟨a, c, rfl, _⟩ := hv
  have HCN := Lib.hid (show canonT ts = ts.map (appT (canonB 0 (canonN ts))) from rfl)
  obtain ⟨names, hnames⟩ : ∃ names, canonN ts = names := ⟨_, rfl⟩
  rw [hnames] at VS HCN hln
  clear hp hnames HPW hne
  go_enter Tryz.func84, Tryz.ntmps84
  go_wp2_with fail
  refine VS.out.mono ?_; rintro e wn ⟨u, rfl, hst, hsh, hb⟩
  have HSH := Lib.hid hsh
  have HB := Lib.hid hb
  have hws : w.heap.size ≤ wn.heap.size := hb.size
  obtain ⟨an, cn, rfl, hnl, hnc⟩ := hst
  have HNC := Lib.hid (fun (j : Nat) (hj : j < names.length) (W : World) (h : Below wn.heap.size wn W) => (show ∃ b o, an = some ⟨b, o, none⟩ ∧ W.cell? ⟨b, o + j, none⟩ = some (.string names[j]) from by
    rcases hnc with h0 | ⟨b, o, e, hlt, h0⟩
    · rw [h0] at hj; cases hj
    · have hg : names.getD j ByteArray.empty = names[j] := by simp [List.getD, List.getElem?_eq_getElem hj]
      exact ⟨b, o, e, (h.cell (p := ⟨b, o + j, none⟩) hlt).trans (by rw [h0 j hj, hg])⟩))
  clear hsh hb hnc
  go_wp2_with fail
  go_loopw [3, 9] (fun u i wi => ∃ j : Nat, i = .int .i64 j ∧ j ≤ names.length ∧ wi.ownsRow wn.heap.size 146 5 u j (rowBv (canBvs 0 (names.take j))) ∧ Below wn.heap.size wn wi) (fun _ i _ => names.length - (intOf i).toNat)
  case atStart => exact ⟨0, rfl, Nat.zero_le _, World.ownsRow_nil _ _ _ _, Below.refl _ _⟩
  case round =>
    obtain ⟨j, rfl, hj, hown, hbi⟩ := hrel
    by_cases hj1 : j < names.length
    · have hjc : (j : Int) < (names.length : Int) := by omega
      have hj0 : (0 : Int) ≤ (j : Int) := by omega
      obtain ⟨b2, o2, rfl, n0⟩ := HNC.out j hj1 wr hbi
      have HB1 := Lib.hid hbi
      have HO1 := Lib.hid hown
      have DG := Lib.hid (HDG.out j (by omega) wr (HB.out.trans (hbi.mono HB.out.size)))
      have hcat : (⟨#[88]⟩ : ByteArray) ++ ⟨(Lib.itoa (j : Int)).toArray⟩ = ⟨(88 :: Lib.itoa (j : Int)).toArray⟩ := by
        apply ByteArray.ext
        simp
      have hds : (⟨(Lib.itoa (j : Int)).toArray⟩ : ByteArray).size ≤ 42 := by
        have := itoa_small j (by omega)
        simp only [ByteArray.size, List.size_toArray]; omega
      obtain ⟨nm, hnm⟩ : ∃ nm, names[j] = nm := ⟨_, rfl⟩
      obtain ⟨cn', hcn'⟩ : ∃ x, (⟨(88 :: Lib.itoa (j : Int)).toArray⟩ : ByteArray) = x := ⟨_, rfl⟩
      have HTK := Lib.hid (show rowBv (canBvs 0 (names.take (j + 1))) = rowBv (canBvs 0 (names.take j)) ++ [.string nm, .int .i64 1, .string cn', .int .i64 0, .slice none 0 0] from by
        rw [List.take_succ_eq_append_getElem hj1, canBvs_append, rowBv_append, hnm, List.length_take, Nat.min_eq_left (by omega), Nat.zero_add, rowBv_one, ← hcn']; rfl)
      rw [hnm] at n0
      rw [hcn'] at hcat
      obtain ⟨dg, hdg⟩ : ∃ x, (⟨(Lib.itoa (j : Int)).toArray⟩ : ByteArray) = x := ⟨_, rfl⟩
      rw [hdg] at DG hcat hds
      have HCAT := Lib.hid hcat
      have hcl : (⟨#[88]⟩ : ByteArray).size + dg.size ≤ 43 := by rw [show (⟨#[88]⟩ : ByteArray).size = 1 from rfl]; omega
      have hcl2 : ¬ (9223372036854775807 < (⟨#[88]⟩ : ByteArray).size + dg.size) := by omega
      clear hbi hown hnm hcat hcn' hdg
      go_wp2_with fail
      refine DG.out.mono ?_; rintro e w3 ⟨rfl, hb3⟩
      have HB3 := Lib.hid (HB1.out.trans (hb3.mono HB1.out.size))
      have HO3 := Lib.hid (own_below HO1.out hb3)
      clear hb3
      go_wp2_with fail
      rw [HCAT.out]
      refine (HVR.out _ _).mono ?_; rintro e w4 ⟨rfl, hb4⟩
      have hb34 := HB3.out.trans (hb4.mono HB3.out.size)
      have hbA := hb34.alloc hb34.size (.cells #[.string nm, .int .i64 1, .string cn', .int .i64 0, .slice none 0 0] 146)
      have hsA : wn.heap.size ≤ (w4.alloc (.cells #[.string nm, .int .i64 1, .string cn', .int .i64 0, .slice none 0 0] 146)).heap.size := hbA.size
      have HBA := Lib.hid hbA
      have hownA := (own_below HO3.out hb4).alloc (.cells #[.string nm, .int .i64 1, .string cn', .int .i64 0, .slice none 0 0] 146)
      have HNW := Lib.hid (new_cells w4 [.string nm, .int .i64 1, .string cn', .int .i64 0, .slice none 0 0] 146)
      clear hb4 hb34 hbA
      go_wp2_with (at_builtin; refine wpList_append_own_at _ rfl _ _ 143 rfl wn.heap.size 146 i1 (.agg #[.string ⟨#[]⟩, .int .i64 0, .string ⟨#[]⟩, .int .i64 0, .slice none 0 0]) 5 72 Tryz.underlying143 hi1 hy0 hy1 hy2 rfl (by decide) _ j _ rfl hownA ⟨w4.heap.size, 0, none⟩ 1 1 [.string nm, .int .i64 1, .string cn', .int .i64 0, .slice none 0 0] rfl rfl ?c1 ?c2 ?c3 ?c4 ?c5 ?_)
      case c1 => exact HNW.out
      case c2 => intro u hu; simp at hu; rcases hu with rfl | rfl | rfl | rfl | rfl <;> rfl
      case c3 => unfold maxLen; omega
      case c4 => omega
      case c5 => exact hsA
      intro v' w5 hown' hgrow _ _
      have HO5 := Lib.hid (show w5.ownsRow wn.heap.size 146 5 v' (j + 1) (rowBv (canBvs 0 (names.take (j + 1)))) from by rw [HTK.out]; exact hown')
      have HB5 := Lib.hid (HBA.out.grown hgrow hsA (own_row_ge hownA))
      clear hown' hgrow hownA hsA
      go_wp2_with fail
      go_roundw
      case rel => exact ⟨j + 1, by go_num, by omega, HO5.out, HB5.out⟩
      case measure => simp [intOf]; omega
    · obtain rfl : j = names.length := by omega
      rw [List.take_length] at hown
      have hbd : Bds wr u3 (canonB 0 names) := by
        rw [← canBvs_bn]
        exact bds_own hown (canBvs_length 0 names) (canBvs_ok wr 0 names (by omega) HSH.out) (Below.refl _ _) (by omega)
      have hbwm : Below w.heap.size w wr := HB.out.trans (hbi.mono HB.out.size)
      have PP := Lib.hid (PT.out u3 (canonB 0 names) wr hbwm hbd (by rw [canonB_length]; omega))
      rw [← HCN.out] at PP
      have HBM := Lib.hid hbwm
      obtain ⟨ab, cb, hu3⟩ := own_slice hown
      rw [hu3] at PP ⊢
      clear hown hbi hbd hu3 HNC hbwm
      go_wp2_with fail
      refine PP.out.mono ?_; rintro e w6 ⟨u6, rfl, hu6, hb6⟩
      have HU := Lib.hid hu6
      have HB6 := Lib.hid (HBM.out.trans (hb6.mono HBM.out.size))
      clear hu6 hb6
      go_wp2_with fail
      go_ret
      exact ⟨_, rfl, HU.out, HB6.out⟩
end Go.Proofs.YtnbjpgdnfklanaaGreatDoor
