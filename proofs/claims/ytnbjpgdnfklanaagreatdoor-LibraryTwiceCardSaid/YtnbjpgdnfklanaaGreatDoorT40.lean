/-
  Where the first function of a name stands, looked for by a method value; and its arity: package sign's find and Arity.
  Rows of functions put together: the library's Grow and Concat.
  What the byte functions of package chars answer: the class, or whether the byte may be part of a word, for every byte and in every world; nothing is changed.
  Whether a text is a word, and one of those that begin items, by package chars. Each call makes new memory alone.
-/
import Derived.Test.YtnbjpgdnfklanaaGreatDoorT04
import Derived.Lib.Hide
import Derived.WalkKit
import Derived.BigQuiet
import Derived.Test.YtnbjpgdnfklanaaGreatDoorT10
import Derived.Lib.AppendZeros
import Derived.Laws.AppendOwnNone
import Derived.Test.YtnbjpgdnfklanaaGreatDoorT02
import Derived.WalkSpells
import Derived.WalkLawsBesides
import Derived.Test.YtnbjpgdnfklanaaGreatDoorT03
import Derived.Test.YtnbjpgdnfklanaaGreatDoorShelf
import Derived.Deep.QuietTactic
namespace Go.Proofs.YtnbjpgdnfklanaaGreatDoor
open Go.RowKit
set_option maxHeartbeats 400000 in
theorem pnames_any (s xs : ByteArray) (xn : Int) (w : World) :
    Calls Tryz.prog 101 #[.string s, .agg #[.string xs, .int .i64 xn]] w fun e w' => e = .returned (.bool (xs.toList == s.toList)) ∧ Below w.heap.size w w' := by
  go_enter Tryz.func101, Tryz.ntmps101
  go_wp2_with fail
  go_ret
  exact ⟨rfl, (Below.refl _ _).alloc (Nat.le_refl _) _⟩
def FindEnd (fs : List Fn) (s : ByteArray) (e : Ending) : Prop := (e = .returned (.int .i64 (-1)) ∧ arF fs s = none) ∨ ∃ (k : Nat) (x : Fn), e = .returned (.int .i64 k) ∧ fs[k]? = some x ∧ arF fs s = some x.2
set_option maxRecDepth 100000 in
set_option maxHeartbeats 1000000 in
theorem pindex_any (v : Value) (fs : List Fn) (s : ByteArray) (w : World) (hv : Fus w v fs) :
    Calls Tryz.prog 100 #[v, .func (Fn.func 101) #[.string s] #[]] w fun e w' => FindEnd fs s e ∧ Below w.heap.size w w' := by
  obtain ⟨a, c, rfl, hl, hrow⟩ := hv
  have HR := Lib.hid hrow
  clear hrow
  go_enter Tryz.func100, Tryz.ntmps100
  go_wp2_with fail
  go_loopw [8] (fun i wr => ∃ k : Nat, k ≤ fs.length ∧ i = .int .i64 k ∧ Hid (arF (fs.take k) s = none) ∧ Below w.heap.size w wr) (fun i _ => fs.length - (intOf i).toNat)
  case atStart => exact ⟨0, Nat.zero_le _, rfl, Lib.hid (by rw [List.take_zero]; rfl), Below.refl _ _⟩
  case round =>
    obtain ⟨k, hk, rfl, HN, hb⟩ := hrel
    by_cases hkl : k < fs.length
    · obtain ⟨b, o, rfl, hlt, hat⟩ := HR.out.resolve_left (by intro h; rw [h] at hkl; simp at hkl)
      obtain ⟨x, hx⟩ : ∃ x, fs[k]? = some x := ⟨_, List.getElem?_eq_getElem hkl⟩
      have hA := hat k x hx
      have m0 := (hb.cell (p := ⟨b, o + k * 2, none⟩) hlt).trans hA.c0
      have m1 := (hb.cell (p := ⟨b, o + k * 2 + 1, none⟩) hlt).trans hA.c1
      have hstep := Lib.hid (arF_take HN.out hx)
      have hk0 : (0 : Int) ≤ (k : Int) := by omega
      have hk1 : (k : Int) < (fs.length : Int) := by omega
      have HX := Lib.hid hx
      clear hat hx hA
      obtain ⟨xs, xn⟩ := x
      simp only at m0 m1
      have NM := Lib.hid (fun W => pnames_any s xs xn W)
      cases he : (xs.toList == s.toList) with
      | true =>
        rw [he] at NM
        have HG := Lib.hid (show arF fs s = some xn from arF_some (hstep.out.trans (if_pos he)))
        clear he
        go_wp2_with (go_at_call 101; refine (NM.out _).mono ?_; rintro e w1 ⟨rfl, hb1⟩)
        go_ret
        exact ⟨.inr ⟨k, (xs, xn), rfl, HX.out, HG.out⟩, below_next hb hb1⟩
      | false =>
        rw [he] at NM
        have HNN := Lib.hid (show arF (fs.take (k + 1)) s = none by rw [hstep.out, if_neg (by rw [he]; simp)])
        clear he
        go_wp2_with (go_at_call 101; refine (NM.out _).mono ?_; rintro e w1 ⟨rfl, hb1⟩)
        go_roundw
        case rel => exact ⟨k + 1, by omega, by go_num, HNN, below_next hb hb1⟩
        case measure => simp [intOf]; omega
    · have hke : k = fs.length := by omega
      have HG := Lib.hid (show arF fs s = none by have h := HN.out; rw [hke, List.take_length] at h; exact h)
      clear hke
      go_wp2_with fail
      go_ret
      exact ⟨.inl ⟨rfl, HG.out⟩, hb⟩
set_option maxHeartbeats 1000000 in
theorem pfind_fn (v : Value) (fs : List Fn) (s : ByteArray) (w : World) (hv : Fus w v fs) :
    Calls Tryz.prog 82 #[v, .string s] w fun e w' => FindEnd fs s e ∧ Below w.heap.size w w' := by
  have IX := Lib.hid (pindex_any v fs s w hv)
  obtain ⟨a, n, c, rfl⟩ : ∃ a n c, v = .slice a n c := by obtain ⟨a, c, h, _⟩ := hv; exact ⟨a, _, c, h⟩
  clear hv
  go_enter Tryz.func82, Tryz.ntmps82
  go_wp2_with fail
  refine IX.out.mono ?_; rintro e w1 ⟨he, hb⟩
  rcases he with ⟨rfl, h⟩ | ⟨k, x, rfl, h⟩
  · have H := Lib.hid h
    clear h
    go_wp2_with fail
    go_ret
    exact ⟨.inl ⟨rfl, H.out⟩, hb⟩
  · have H := Lib.hid h
    clear h
    go_wp2_with fail
    go_ret
    exact ⟨.inr ⟨k, x, rfl, H.out⟩, hb⟩
end Go.Proofs.YtnbjpgdnfklanaaGreatDoor

namespace Go.Proofs.YtnbjpgdnfklanaaGreatDoor
open Go.RowKit
set_option maxRecDepth 100000 in
set_option maxHeartbeats 1000000 in
theorem pgrow_fn (n : Nat) (w : World) (hn : n ≤ 1000001) :
    Calls Tryz.prog 79 #[.slice none 0 0, .int .i64 n] w fun e w' => ∃ v, e = .returned v ∧ w'.ownsRow w.heap.size 75 2 v 0 [] ∧ Below w.heap.size w w' := by
  by_cases h0 : 0 < n
  · obtain ⟨i1, hi1, hiz1, his1, hib1⟩ := info_parts funInfo
    have hrun := fun ty => Lib.run_append_nil_zeros (P := Tryz.prog) w 23 3 ty 75 i1 (.agg #[.string ⟨#[]⟩, .int .i64 0]) .i64 .i64 Tryz.underlying23 Tryz.underlying3 hi1 hiz1 n h0 (by rw [his1]; omega) (by omega) (by rw [hib1]; omega)
    have hcg := grownCap_ge w n 0 75
    have hcm : grownCap w n 0 75 ≤ maxLen := grownCap_le_maxLen w n 0 75 (by unfold maxLen; omega)
    obtain ⟨cap, hcap⟩ : ∃ cap, grownCap w n 0 75 = cap := ⟨_, rfl⟩
    rw [hcap] at hcg hcm
    simp only [hcap] at hrun
    have hd1 : decide ((n : Int) < 0) = false := decide_eq_false (by omega)
    have hd2 : decide (0 < (n : Int)) = true := decide_eq_true (by omega)
    have hsz : (Builtin.zeroCells (Value.agg #[.string ⟨#[]⟩, .int .i64 0]).cells n ++ Builtin.zeroCells (Value.agg #[.string ⟨#[]⟩, .int .i64 0]).cells (cap - n)).size = cap * 2 := by
      rw [Array.size_append, size_zeroCells, size_zeroCells]; simp [Value.cells]; omega
    have hB : Below w.heap.size w (w.drew.alloc (.cells (Builtin.zeroCells (Value.agg #[.string ⟨#[]⟩, .int .i64 0]).cells n ++ Builtin.zeroCells (Value.agg #[.string ⟨#[]⟩, .int .i64 0]).cells (cap - n)) 75)) := ((Below.refl _ _).drew).alloc (Nat.le_refl _) _
    have hh : (w.drew.alloc (.cells (Builtin.zeroCells (Value.agg #[.string ⟨#[]⟩, .int .i64 0]).cells n ++ Builtin.zeroCells (Value.agg #[.string ⟨#[]⟩, .int .i64 0]).cells (cap - n)) 75)).heap[w.heap.size]? = some (.cells (Builtin.zeroCells (Value.agg #[.string ⟨#[]⟩, .int .i64 0]).cells n ++ Builtin.zeroCells (Value.agg #[.string ⟨#[]⟩, .int .i64 0]).cells (cap - n)) 75 (0, 0)) := heap_alloc_new w.drew _
    obtain ⟨w2, hw2⟩ : ∃ w2, (w.drew.alloc (.cells (Builtin.zeroCells (Value.agg #[.string ⟨#[]⟩, .int .i64 0]).cells n ++ Builtin.zeroCells (Value.agg #[.string ⟨#[]⟩, .int .i64 0]).cells (cap - n)) 75)) = w2 := ⟨_, rfl⟩
    obtain ⟨cur, hcur⟩ : ∃ cur, Builtin.zeroCells (Value.agg #[.string ⟨#[]⟩, .int .i64 0]).cells n ++ Builtin.zeroCells (Value.agg #[.string ⟨#[]⟩, .int .i64 0]).cells (cap - n) = cur := ⟨_, rfl⟩
    simp only [hcur] at hw2 hsz hh hB hrun
    simp only [hw2] at hh hB hrun
    have HH := Lib.hid hh
    have HB := Lib.hid hB
    have HR := Lib.hid hrun
    have HS := Lib.hid hsz
    have hc0 : (0 : Int) ≤ (cap : Int) := by omega
    clear hh hB hrun hw2 hcur hcap hsz
    go_enter Tryz.func79, Tryz.ntmps79
    go_wp2_with (at_builtin; refine Lib.wpList_append_run _ rfl _ _ _ _ rfl _ _ rfl rfl _ _ (HR.out _) ?_)
    go_ret
    exact ⟨.slice (some ⟨w.heap.size, 0, none⟩) 0 cap, rfl, ⟨rfl, .inr ⟨w.heap.size, cap, cur, rfl, Nat.le_refl _, HH.out, Nat.zero_le _, hcm, by rw [HS.out], by simp⟩⟩, HB.out⟩
  · obtain rfl : n = 0 := by omega
    go_enter Tryz.func79, Tryz.ntmps79
    go_wp2_with fail
    go_ret
    exact ⟨_, rfl, World.ownsRow_nil _ _ _ _, Below.refl _ _⟩
def flatF (vs : List (Value × List Fn)) : List Fn := vs.flatMap Prod.snd
theorem flatF_take {vs : List (Value × List Fn)} {k : Nat} (h : k < vs.length) : flatF (vs.take (k + 1)) = flatF (vs.take k) ++ vs[k].2 := by
  unfold flatF
  rw [List.take_succ_eq_append_getElem h, List.flatMap_append]; simp
theorem flatF_le (vs : List (Value × List Fn)) (k : Nat) : (flatF (vs.take k)).length ≤ (flatF vs).length := by
  have e : flatF vs = flatF (vs.take k) ++ flatF (vs.drop k) := by
    unfold flatF; rw [← List.flatMap_append, List.take_append_drop]
  rw [e, List.length_append]; omega
def RowsF (w : World) (g : Nat) (vs : List (Value × List Fn)) : Prop := g < w.heap.size ∧ ∀ (k : Nat) (h : k < vs.length), w.cell? ⟨g, k, none⟩ = some vs[k].1 ∧ Fus w vs[k].1 vs[k].2
theorem RowsF.below {w w' : World} {g : Nat} {vs : List (Value × List Fn)} (h : RowsF w g vs) (hb : Below w.heap.size w w') : RowsF w' g vs :=
  ⟨Nat.lt_of_lt_of_le h.1 hb.size, fun k hk => ⟨(hb.cell (p := ⟨g, k, none⟩) h.1).trans (h.2 k hk).1, (h.2 k hk).2.below hb⟩⟩
set_option maxRecDepth 100000 in
set_option maxHeartbeats 4000000 in
theorem pconcat_fn (vs : List (Value × List Fn)) (g c : Nat) (w : World) (hv : RowsF w g vs) (hm : vs.length ≤ 1000) (hmc : vs.length ≤ c) (hl : (flatF vs).length ≤ 1000000) :
    Calls Tryz.prog 55 #[.slice (some ⟨g, 0, none⟩) vs.length c] w fun e w' => ∃ u, e = .returned u ∧ OwnFn w' w.heap.size u (flatF vs) ∧ Below w.heap.size w w' := by
  obtain ⟨i0, hi, hz0, hz1, hz2⟩ := info_parts funInfo
  have HV := Lib.hid hv
  have G := Lib.hid (fun (n : Nat) (hn : n ≤ 1000001) => pgrow_fn n w hn)
  have HLE := Lib.hid (flatF_le vs)
  obtain ⟨m, hmm⟩ : ∃ m, vs.length = m := ⟨_, rfl⟩
  have HM := Lib.hid hmm
  rw [hmm] at hm hmc ⊢
  have hm1 : (m : Int) ≤ 1000 := by omega
  clear hv hmm
  go_enter Tryz.func55, Tryz.ntmps55
  go_wp2_with fail
  go_loopw [3, 11] (fun sz i wr => ∃ k : Nat, k ≤ m ∧ i = .int .i64 k ∧ sz = .int .i64 (flatF (vs.take k)).length ∧ Hid (w = wr)) (fun _ i _ => m - (intOf i).toNat)
  case atStart => exact ⟨0, Nat.zero_le _, rfl, by simp [flatF], Lib.hid (by trivial)⟩
  case round =>
    obtain ⟨k, hk, rfl, rfl, HW⟩ := hrel
    obtain rfl := HW.out
    by_cases hkl : k < m
    · have hkv : k < vs.length := by rw [HM.out]; exact hkl
      obtain ⟨hc, hf⟩ := HV.out.2 k hkv
      have HFT := Lib.hid (flatF_take hkv)
      have hle := HLE.out (k + 1)
      rw [HFT.out, List.length_append] at hle
      obtain ⟨x, hx⟩ : ∃ x, vs[k] = x := ⟨_, rfl⟩
      rw [hx] at hc hf hle HFT
      obtain ⟨xv, xs⟩ := x
      simp only at hc hf hle HFT
      obtain ⟨a, n, c1, rfl⟩ : ∃ a n c, xv = .slice a n c := by obtain ⟨a, c, h, _⟩ := hf; exact ⟨a, _, c, h⟩
      obtain rfl := hf.news.1
      obtain ⟨s0, hs0⟩ : ∃ s0, (flatF (vs.take k)).length = s0 := ⟨_, rfl⟩
      have HS := Lib.hid (show (flatF (vs.take (k + 1))).length = s0 + xs.length by rw [HFT.out, List.length_append, hs0])
      rw [hs0] at hle ⊢
      have hsum : (s0 : Int) + (xs.length : Int) ≤ 1000000 := by omega
      have hneg : decide ((s0 : Int) + (xs.length : Int) < 0) = false := decide_eq_false (by omega)
      have hk0 : (0 : Int) ≤ (k : Int) := by omega
      have hk1 : (k : Int) < (m : Int) := by omega
      clear hf hs0 hx
      go_wp2_with fail
      go_roundw
      case rel => exact ⟨k + 1, by omega, by go_num, by rw [HS.out]; go_num, Lib.hid (by trivial)⟩
      case measure => simp [intOf]; omega
    · obtain rfl : k = m := by omega
      have hd : (flatF (vs.take k)).length = (flatF vs).length := by rw [List.take_of_length_le (by rw [HM.out]; omega)]
      rw [hd]
      have GG := Lib.hid (G.out (flatF vs).length (by omega))
      clear hd
      go_wp2_with fail
      refine GG.out.mono ?_; rintro e w1 ⟨v1, rfl, hown1, hb1⟩
      have HO1 := Lib.hid hown1
      have HB1 := Lib.hid hb1
      clear hown1 hb1
      go_wp2_with fail
      go_loopw [6, 27] (fun u i wr => ∃ k1 : Nat, k1 ≤ k ∧ i = .int .i64 k1 ∧ Hid (OwnFn wr w.heap.size u (flatF (vs.take k1))) ∧ Hid (Below w.heap.size w wr)) (fun _ i _ => k - (intOf i).toNat)
      case atStart => exact ⟨0, Nat.zero_le _, rfl, Lib.hid ⟨by simp [flatF], by simpa [flatF, rowFn] using HO1.out⟩, HB1⟩
      case round =>
        obtain ⟨k1, hk, rfl, HO, HB⟩ := hrel
        by_cases hkl : k1 < k
        · have hkv : k1 < vs.length := by rw [HM.out]; exact hkl
          obtain ⟨hc, hf⟩ := (HV.out.below HB.out).2 k1 hkv
          have HFT := Lib.hid (flatF_take hkv)
          have hle := HLE.out (k1 + 1)
          rw [HFT.out, List.length_append] at hle
          obtain ⟨x, hx⟩ : ∃ x, vs[k1] = x := ⟨_, rfl⟩
          rw [hx] at hc hf hle HFT
          obtain ⟨xv, xs⟩ := x
          simp only at hc hf hle HFT
          obtain ⟨a, n, c1, rfl⟩ : ∃ a n c, xv = .slice a n c := by obtain ⟨a, c, h, _⟩ := hf; exact ⟨a, _, c, h⟩
          obtain ⟨rfl, hn0, hnl, hnew, hok⟩ := hf.news
          have HNEW := Lib.hid hnew
          have HNL := Lib.hid hnl
          have HN0 := Lib.hid hn0
          have HROW1 := Lib.hid (rowFn_one' xs)
          have HOK := Lib.hid (show ∀ f ∈ flatF (vs.take k1) ++ xs, FnOk f from fun f hf => by
            rcases List.mem_append.1 hf with hf | hf
            · exact HO.out.1 f hf
            · exact hok f hf)
          have hown := Lib.hid HO.out.2
          obtain ⟨s0, hs0⟩ : ∃ s0, (flatF (vs.take k1)).length = s0 := ⟨_, rfl⟩
          have HS0 := Lib.hid hs0
          rw [hs0] at hown hle
          have hk0 : (0 : Int) ≤ (k1 : Int) := by omega
          have hk1 : (k1 : Int) < (k : Int) := by omega
          have hwr := HB.out.size
          clear hf hs0 hx hnew hnl hn0 hok
          go_wp2_with (at_builtin; refine wpList_append_opt rfl _ _ 23 rfl w.heap.size 75 i0 (.agg #[.string ⟨#[]⟩, .int .i64 0]) 2 24 Tryz.underlying23 hi hz0 hz1 hz2 rfl (by decide) _ s0 _ rfl hown.out a xs.length c1 (rowFn xs) rfl HN0.out HNL.out (HNEW.out _ (Below.refl _ _)) HROW1.out ?ap3 ?ap4 ?ap5 ?_)
          case ap3 => unfold maxLen; omega
          case ap4 => omega
          case ap5 => exact hwr
          intro v3 w3 hown3 hgrow3 _
          have HB3 := Lib.hid (HB.out.grown hgrow3 hwr (fun g e => (hown.out.lt g e).1))
          have HO3 := Lib.hid (show OwnFn w3 w.heap.size v3 (flatF (vs.take (k1 + 1))) from ⟨by rw [HFT.out]; exact HOK.out, by rw [HFT.out, rowFn_append, List.length_append, HS0.out]; exact hown3⟩)
          clear hown3 hgrow3
          go_wp2_with fail
          go_roundw
          case rel => exact ⟨k1 + 1, by omega, by go_num, HO3, HB3⟩
          case measure => simp [intOf]; omega
        · have HO2 := Lib.hid (show OwnFn wr w.heap.size u6 (flatF vs) from by
            have h := HO.out
            rwa [List.take_of_length_le (by rw [HM.out]; omega)] at h)
          go_wp2_with fail
          go_ret
          exact ⟨_, rfl, HO2.out, HB.out⟩
end Go.Proofs.YtnbjpgdnfklanaaGreatDoor

namespace Go.Proofs.YtnbjpgdnfklanaaGreatDoor
open Go.RowKit
set_option maxHeartbeats 400000 in
theorem class_any (b : Int) (w : World) :
    Calls Tryz.prog 121 #[.int .u8 b] w fun e w' => e = .returned (.int .i64 (cls b)) ∧ w = w' := by
  go_enter Tryz.func121, Tryz.ntmps121
  go_wp2
  all_goals go_ret
  all_goals refine ⟨ret_int ?_, rfl⟩
  all_goals (try simp only [beq_iff_eq, beq_eq_false_iff_ne, ne_eq] at *)
  all_goals (unfold cls; repeat (first | rw [if_pos (by omega)] | rw [if_neg (by omega)]))
set_option maxHeartbeats 400000 in
theorem part_any (b : Int) (w : World) :
    Calls Tryz.prog 122 #[.int .u8 b] w fun e w' => e = .returned (.bool (part b)) ∧ w = w' := by
  have hb := cls_bd b
  have hp : part b = decide (1 ≤ cls b ∧ cls b ≤ 3 ∨ b = 95) := rfl
  have h95 : b = 95 → cls b = 0 := by rintro rfl; decide
  have H := Lib.hid hp
  have H3 := Lib.hid h95
  clear hp h95
  generalize hc : cls b = c at H H3 hb
  have H2 := Lib.hid hc
  clear hc
  go_enter Tryz.func122, Tryz.ntmps122
  go_wp2_with (go_at_call 121; refine (class_any _ _).mono ?_; rintro e w' ⟨rfl, rfl⟩; rw [H2.out])
  all_goals go_ret
  all_goals refine ⟨ret_bool ?_, rfl⟩
  all_goals rw [H.out]
  all_goals have h95 := H3.out
  all_goals (try simp only [beq_iff_eq, beq_eq_false_iff_ne, bne_iff_ne, bne_eq_false_iff_eq, ne_eq] at *)
  all_goals first | (rw [decide_eq_true (by omega)]) | (rw [decide_eq_false (by omega)])
end Go.Proofs.YtnbjpgdnfklanaaGreatDoor

namespace Go.Proofs.YtnbjpgdnfklanaaGreatDoor
open Go.RowKit
set_option maxHeartbeats 400000 in
theorem keys_any (w : World) :
    Calls Tryz.prog 113 #[] w fun e w' => ∃ v, e = .returned v ∧ Strs w' v keyList ∧ Below w.heap.size w w' := by
  go_enter Tryz.func113, Tryz.ntmps113
  go_wp2
  go_ret
  exact ⟨_, rfl, strs_alloc w keyList 9 (by decide), (Below.refl _ _).alloc (Nat.le_refl _) _⟩
theorem contains_any (v : Value) (zs : List ByteArray) (x : ByteArray) (w : World) (hv : Strs w v zs) :
    Calls Tryz.prog 112 #[v, .string x] w fun e w' => e = .returned (.bool (Lib.containsS zs x)) ∧ w = w' := by
  obtain ⟨a, c, rfl, hl, h⟩ := hv
  rcases h with rfl | ⟨b, off, rfl, hlt, hc⟩
  · refine (Tryz.slices_Contains_string_empty a c x w).mono ?_
    rintro e w' ⟨rfl, rfl⟩
    exact ⟨rfl, rfl⟩
  · refine (Tryz.slices_Contains_string b off zs.length c zs x w (Nat.le_refl _) (by omega) hc).mono ?_
    rintro e w' ⟨rfl, rfl⟩
    rw [List.take_length]
    exact ⟨rfl, rfl⟩
set_option maxHeartbeats 400000 in
theorem key_any (s : ByteArray) (w : World) :
    Calls Tryz.prog 99 #[.string s] w fun e w' => e = .returned (.bool (Lib.containsS keyList s)) ∧ Below w.heap.size w w' := by
  go_enter Tryz.func99, Tryz.ntmps99
  go_wp2_with (first | (go_at_call 113; refine (keys_any _).mono ?_; rintro e w1 ⟨v, rfl, hv, hb⟩; replace hv := Lib.hid hv) | (go_at_call 112; refine (contains_any _ _ _ _ (Hid.out (by assumption))).mono ?_; rintro e w2 ⟨rfl, rfl⟩))
  go_ret
  exact ⟨rfl, hb⟩
set_option maxHeartbeats 400000 in
theorem fits_any (s : ByteArray) (f : Int) (k : Nat) (hk : k < s.size) (hs : s.size ≤ 9223372036854775806) (w : World) :
    Calls Tryz.prog 111 #[.agg #[.string s, .int .i64 f], .int .i64 k] w fun e w' => e = .returned (.bool (fitAt s f k)) ∧ Below w.heap.size w w' := by
  by_cases h0 : k = 0
  · subst h0
    have hq : (((0 : Nat) : Int) == 0) = true := rfl
    have HF := Lib.hid (fitAt_zero (f := f) hk)
    have hi : (0 : Int) < (s.size : Int) := by omega
    go_enter Tryz.func111, Tryz.ntmps111
    go_wp2_with fail
    go_quiet ((go_at_call 121; exact Calls.quiet_of_same ((class_any _ _).mono fun e w' h => ⟨h.1, h.2.symm⟩)))
    go_wp2
    go_ret
    exact ⟨ret_bool HF.out.symm, below_drewN ((Below.refl _ _).alloc (Nat.le_refl _) _) _⟩
  · have hq : ((k : Int) == 0) = false := by rw [beq_eq_false_iff_ne]; omega
    have HF := Lib.hid (fitAt_next (f := f) hk h0)
    clear h0
    go_enter Tryz.func111, Tryz.ntmps111
    go_wp2_with (go_at_call 122; refine (part_any _ _).mono ?_; rintro e w' ⟨rfl, rfl⟩)
    go_ret
    exact ⟨ret_bool HF.out.symm, (Below.refl _ _).alloc (Nat.le_refl _) _⟩
set_option maxHeartbeats 400000 in
theorem every_any (s : ByteArray) (f : Int) (hs : s.size ≤ 9223372036854775806) (w : World) :
    Calls Tryz.prog 110 #[.int .i64 s.size, .func (Fn.func 111) #[.agg #[.string s, .int .i64 f]] #[]] w fun e w' => e = .returned (.bool (fitsAll s f)) ∧ Below w.heap.size w w' := by
  go_enter Tryz.func110, Tryz.ntmps110
  go_wp2
  go_loopw [7] (fun i wr => ∃ k : Nat, k ≤ s.size ∧ i = .int .i64 k ∧ FitsTo s f k ∧ Below w.heap.size w wr) (fun i _ => s.size - (intOf i).toNat)
  case atStart => exact ⟨0, Nat.zero_le _, rfl, (fun j hj => by omega), Below.refl _ _⟩
  case round =>
    obtain ⟨k, hk, rfl, ha, hb⟩ := hrel
    have HA := Lib.hid ha
    clear ha
    by_cases hlt : k < s.size
    · cases hp : fitAt s f k with
      | true =>
        have HP := Lib.hid hp
        clear hp
        go_wp2_with (go_at_call 111; refine (fits_any s f k hlt hs _).mono ?_; rintro e w' ⟨rfl, hb2⟩; rw [HP.out])
        go_roundw
        case rel => exact ⟨k + 1, by omega, by go_num, HA.out.succ HP.out, hb.trans (hb2.mono hb.size)⟩
        case measure => simp [intOf]; omega
      | false =>
        have HP := Lib.hid hp
        clear hp
        go_wp2_with (go_at_call 111; refine (fits_any s f k hlt hs _).mono ?_; rintro e w' ⟨rfl, hb2⟩; rw [HP.out])
        go_ret
        exact ⟨ret_bool (fitsAll_bad hlt HP.out).symm, hb.trans (hb2.mono hb.size)⟩
    · obtain rfl : k = s.size := by omega
      go_wp2
      go_ret
      exact ⟨ret_bool HA.out.all.symm, hb⟩
set_option maxHeartbeats 400000 in
theorem spelt_any (s : ByteArray) (f : Int) (hs : s.size ≤ 9223372036854775806) (w : World) :
    Calls Tryz.prog 98 #[.string s, .int .i64 f] w fun e w' => e = .returned (.bool (speltB s f)) ∧ Below w.heap.size w w' := by
  by_cases h0 : 1 ≤ s.size
  · have h3 := toList_some h0
    have h4 : (s.toList == []) = false := by rw [beq_eq_false_iff_ne]; intro e; rw [e] at h3; cases h3
    by_cases h1 : s.size ≤ 20
    · have HF := Lib.hid (show speltB s f = fitsAll s f from by unfold speltB; rw [decide_eq_true ⟨h0, h1⟩]; rfl)
      have C := Lib.hid (fun w => every_any s f hs w)
      go_enter Tryz.func98, Tryz.ntmps98
      go_wp2_with (go_at_call 110; refine (C.out _).mono ?_; rintro e w' ⟨rfl, hb⟩)
      go_ret
      exact ⟨ret_bool HF.out.symm, hb⟩
    · have HF := Lib.hid (show speltB s f = false from by unfold speltB; rw [decide_eq_false (by omega)]; rfl)
      go_enter Tryz.func98, Tryz.ntmps98
      go_wp2_with fail
      go_ret
      exact ⟨ret_bool HF.out.symm, Below.refl _ _⟩
  · have HF := Lib.hid (show speltB s f = false from by unfold speltB; rw [decide_eq_false (by omega)]; rfl)
    have h3 := toList_empty (s := s) (by omega)
    have h4 : (s.toList == []) = true := by rw [h3]; rfl
    have h5 : s.toList.isEmpty = true := by rw [h3]; rfl
    have H3 := Lib.hid h3
    clear h3 h0
    go_enter Tryz.func98, Tryz.ntmps98
    go_wp2_with fail
    go_ret
    exact ⟨ret_bool HF.out.symm, Below.refl _ _⟩
set_option maxHeartbeats 400000 in
theorem word_any (s : ByteArray) (hs : s.size ≤ 9223372036854775806) (w : World) :
    Calls Tryz.prog 81 #[.string s] w fun e w' => e = .returned (.bool (wordB s)) ∧ Below w.heap.size w w' := by
  have HW := Lib.hid (show wordB s = (speltB s 1 && !Lib.containsS keyList s) from rfl)
  have C := Lib.hid (fun w => spelt_any s 1 hs w)
  have K := Lib.hid (fun w => key_any s w)
  cases hp : speltB s 1 with
  | true =>
    have HP := Lib.hid hp
    clear hp
    go_enter Tryz.func81, Tryz.ntmps81
    go_wp2_with (first | (go_at_call 98; refine (C.out _).mono ?_; rintro e w1 ⟨rfl, hb⟩; rw [HP.out]) | (go_at_call 99; refine (K.out _).mono ?_; rintro e w2 ⟨rfl, hb2⟩))
    go_ret
    exact ⟨ret_bool (by rw [HW.out, HP.out]; rfl), hb.trans (hb2.mono hb.size)⟩
  | false =>
    have HP := Lib.hid hp
    clear hp
    go_enter Tryz.func81, Tryz.ntmps81
    go_wp2_with (go_at_call 98; refine (C.out _).mono ?_; rintro e w1 ⟨rfl, hb⟩; rw [HP.out])
    go_ret
    exact ⟨ret_bool (by rw [HW.out, HP.out]; rfl), hb⟩
end Go.Proofs.YtnbjpgdnfklanaaGreatDoor
