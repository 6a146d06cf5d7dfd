/-
  An item as a line, put together of its key, its words and its trees. No function of the program.
  A row of trees as one text, by the program's grammar: text, shown, row.
  An item as a line, by the program's grammar: line.
  Items as lines, by the program's grammar: Show.
  Whether trees and items are alike but for places, by the program's grammar: sameTree, sameItem, Same.
-/
import Derived.Test.YtldgbdmiebipnaaGreatDoorZ13
import Derived.Test.YtldgbdmiebipnaaGreatDoorZ12
import Derived.Lib.Join
import Derived.Test.YtldgbdmiebipnaaGreatDoorZ16
import Derived.Test.YtldgbdmiebipnaaGreatDoorZ21
import Derived.Test.YtldgbdmiebipnaaGreatDoorZ01
import Derived.Test.YtldgbdmiebipnaaGreatDoorShelf
import Derived.Lib.Hide
import Derived.Test.YtldgbdmiebipnaaGreatDoorZ05
import Derived.Deep.RegionHeld3
import Derived.BigQuiet
import Derived.Test.YtldgbdmiebipnaaGreatDoorZ06
import Derived.Test.YtldgbdmiebipnaaGreatDoorZ03
import Derived.Deep.LoopGhost
import Derived.WalkMore
import Derived.OwnWalk
namespace Go.Proofs.YtldgbdmiebipnaaGreatDoor
open Go.RowKit

/-- A row of texts with that between, and a blank ahead, if there are any. -/
def rowT (sep : List UInt8) (ls : List (List UInt8)) : List UInt8 := if ls.isEmpty then [] else 32 :: Lib.join ls sep
theorem oneP_most (L : List Tok) (x : It) (i : Nat) (c : UInt8) : (oneP x L i c).1.words.length ≤ x.words.length + (if c = 119 ∨ c = 110 then 1 else 0) ∧ (c ≠ 108 → (oneP x L i c).1.trees.length ≤ x.trees.length + (if c = 116 then 1 else 0)) := by
  unfold oneP
  by_cases h1 : c = 119
  · rw [if_pos h1, if_pos (show c = 119 ∨ c = 110 from .inl h1)]
    refine ⟨?_, fun _ => ?_⟩
    all_goals (split <;> simp)
  rw [if_neg h1]
  by_cases h2 : c = 110
  · rw [if_pos h2, if_pos (show c = 119 ∨ c = 110 from .inr h2)]
    refine ⟨?_, fun _ => ?_⟩
    all_goals (split <;> simp)
  rw [if_neg h2, if_neg (show ¬ (c = 119 ∨ c = 110) from fun e => e.elim h1 h2)]
  by_cases h3 : c = 116
  · rw [if_pos h3, if_pos h3]
    refine ⟨?_, fun _ => ?_⟩
    all_goals (split <;> simp)
  rw [if_neg h3, if_neg h3]
  by_cases h4 : c = 108
  · rw [if_pos h4]
    refine ⟨?_, fun h => absurd h4 h⟩
    split <;> simp
  rw [if_neg h4]
  refine ⟨?_, fun _ => ?_⟩
  all_goals (split <;> simp)
theorem goP_most (L : List Tok) : ∀ (r : List UInt8) (x : It) (i : Nat), (goP L r x i).1.words.length ≤ x.words.length + wN r ∧ ((r.all fun c => c != 108) = true → (goP L r x i).1.trees.length ≤ x.trees.length + tN r)
  | [], x, i => by rw [goP]; exact ⟨by simp, fun _ => by simp⟩
  | c :: r, x, i => by
    rw [goP]
    rw [wN_cons, tN_cons]
    by_cases h1 : (oneP x L i c).2.2 = false
    · rw [if_pos h1]; exact ⟨by simp only; omega, fun _ => by simp only; omega⟩
    · rw [if_neg h1]
      have a := oneP_most L x i c
      have b := goP_most L r (oneP x L i c).1 (oneP x L i c).2.1
      refine ⟨by omega, fun h => ?_⟩
      rw [List.all_cons, Bool.and_eq_true] at h
      have a2 := a.2 (by simpa using h.1)
      have b2 := b.2 h.2
      omega
/-- As many words and trees as its key wants. -/
def LenI (x : It) : Prop := x.words.length ≤ wN (shapesOf x.key) ∧ (((shapesOf x.key).all fun c => c != 108) = true → x.trees.length ≤ tN (shapesOf x.key))
theorem itemsF_most {L : List Tok} : ∀ (f i : Nat) (xs : List It), itemsF f L i = .inr xs → ∀ x ∈ xs, LenI x
  | 0, i, xs, h => by rw [itemsF] at h; cases h
  | f + 1, i, xs, h => by
    rw [itemsF] at h
    split at h
    · cases h; intro x hx; cases hx
    split at h
    · cases h
    split at h
    · cases h
    · split at h
      · cases h
      · next r hr =>
        cases h
        intro x hx
        rcases List.mem_cons.1 hx with rfl | hx
        · have hf := goP_most L (shapesOf (tkD L i).text) ⟨(tkD L i).text, (tkD L i).place, [], []⟩ (i + 1)
          have hk := (goP_key L (shapesOf (tkD L i).text) ⟨(tkD L i).text, (tkD L i).place, [], []⟩ (i + 1)).1
          simp only [List.length_nil, Nat.zero_add] at hf
          exact ⟨by rw [hk]; exact hf.1, by rw [hk]; exact hf.2⟩
        · exact itemsF_most f _ r hr x hx
theorem items_most (s : ByteArray) : ∀ x ∈ (parseS s).2.2, LenI x := by
  by_cases h0 : (parseS s).1 = 0
  · obtain ⟨h8, ts, xs, h1, h2, h3⟩ := parseS_ok h0
    rw [h3]
    simp only
    exact itemsF_most _ _ xs h2
  · rw [parseS_bad h0]; intro x hx; cases hx

def kFun : ByteArray := ⟨#[102, 117, 110]⟩
def kRule : ByteArray := ⟨#[114, 117, 108, 101]⟩
def kFrame : ByteArray := ⟨#[102, 114, 97, 109, 101]⟩
def sepWB (k : ByteArray) : List UInt8 := if (k.toList == kFun.toList) = true then [47] else [32]
def colNB (k : ByteArray) : List UInt8 := if (k.toList == kFrame.toList) = true then [58] else []
def sepTB (k : ByteArray) : List UInt8 := if (k.toList == kRule.toList) = true then [32, 61, 32] else if (k.toList == kFrame.toList) = true then [59, 32] else [32]
theorem sepS_rowT : ∀ (ts : List Tr), sepS [32] [59] ts = rowT [59, 32] (ts.map shR)
  | [] => rfl
  | [t] => by rw [sepS]; unfold rowT; rw [List.map_cons, List.map_nil, Lib.join_one]; rfl
  | t :: u :: r => by
    have ih := sepS_rowT (u :: r)
    rw [sepS, ih]
    unfold rowT
    rw [List.map_cons, List.map_cons, Lib.join_cons, Lib.join_cons]
    simp [Lib.joinTail]
/-- An item as a line, as the program puts it together. -/
def lineQ (x : It) : List UInt8 := x.key.data.toList ++ rowT (sepWB x.key) (x.words.map fun t => t.text.data.toList) ++ colNB x.key ++ rowT (sepTB x.key) (x.trees.map shR) ++ [46, 10]
theorem len0 {α : Type} {l : List α} (h : l.length ≤ 0) : l = [] := List.eq_nil_of_length_eq_zero (by omega)
theorem len1 {α : Type} {l : List α} (h : 1 ≤ l.length) (h2 : l.length ≤ 1) : ∃ a, l = [a] := List.length_eq_one_iff.1 (by omega)
theorem len2 {α : Type} {l : List α} (h : 2 ≤ l.length) (h2 : l.length ≤ 2) : ∃ a b, l = [a, b] := by
  match l, h, h2 with
  | [a, b], _, _ => exact ⟨a, b, rfl⟩
  | a :: b :: c :: r, _, h2 => exact absurd h2 (by simp)
theorem lineQ_eq {x : It} (hf : FitI x) (hl : LenI x) : lineS x ++ [10] = lineQ x := by
  obtain ⟨k, sp, ws, ts⟩ := x
  obtain ⟨f1, f2⟩ := hf
  obtain ⟨l1, l2⟩ := hl
  simp only at f1 f2 l1 l2
  unfold lineS lineQ
  simp only
  by_cases h1 : (k.toList == kFun.toList) = true
  · have e := (Lib.bytes_beq_iff _ _).1 h1
    subst e
    rw [show shapesOf kFun = [119, 47, 110, 46] from by kernel_rfl] at *
    obtain ⟨a, b, rfl⟩ := len2 f1 l1
    obtain rfl := len0 (l2 (by decide))
    simp [lineR, rowT, Lib.join, List.intercalate, show sepWB kFun = [47] from by kernel_rfl, show colNB kFun = [] from by kernel_rfl]
  by_cases h2 : (k.toList == kRule.toList) = true
  · have e := (Lib.bytes_beq_iff _ _).1 h2
    subst e
    rw [show shapesOf kRule = [116, 61, 116, 46] from by kernel_rfl] at *
    obtain rfl := len0 l1
    obtain ⟨a, b, rfl⟩ := len2 f2 (l2 (by decide))
    simp [lineR, rowT, Lib.join, List.intercalate, show sepTB kRule = [32, 61, 32] from by kernel_rfl, show colNB kRule = [] from by kernel_rfl]
  by_cases h3 : (k.toList == kFrame.toList) = true
  · have e := (Lib.bytes_beq_iff _ _).1 h3
    subst e
    rw [show shapesOf kFrame = [119, 58, 108, 46] from by kernel_rfl] at *
    obtain ⟨a, rfl⟩ := len1 f1 l1
    have hs := sepS_rowT ts
    simp [lineR, hs, show sepTB kFrame = [59, 32] from by kernel_rfl, show colNB kFrame = [58] from by kernel_rfl]
    simp [rowT, Lib.join, List.intercalate]
  have e1 : sepWB k = [32] := by unfold sepWB; rw [if_neg h1]
  have e2 : colNB k = [] := by unfold colNB; rw [if_neg h3]
  have e3 : sepTB k = [32] := by unfold sepTB; rw [if_neg h2, if_neg h3]
  rw [e1, e2, e3]
  have hsh : shapesOf k = [119, 46] ∨ shapesOf k = [119, 116, 46] ∨ shapesOf k = [119, 119, 46] ∨ shapesOf k = [116, 46] := by
    unfold kFun at h1
    unfold kRule at h2
    unfold kFrame at h3
    unfold shapesOf
    rw [if_neg h1]
    split
    · exact .inl rfl
    split
    · exact .inr (.inl rfl)
    split
    · exact .inr (.inr (.inl rfl))
    · exact .inr (.inr (.inr rfl))
  rcases hsh with h | h | h | h
  · rw [h] at f1 f2 l1 l2 ⊢
    obtain ⟨a, rfl⟩ := len1 f1 l1
    obtain rfl := len0 (l2 (by decide))
    simp [lineR, rowT, Lib.join, List.intercalate]
  · rw [h] at f1 f2 l1 l2 ⊢
    obtain ⟨a, rfl⟩ := len1 f1 l1
    obtain ⟨b, rfl⟩ := len1 f2 (l2 (by decide))
    simp [lineR, rowT, Lib.join, List.intercalate]
  · rw [h] at f1 f2 l1 l2 ⊢
    obtain ⟨a, b, rfl⟩ := len2 f1 l1
    obtain rfl := len0 (l2 (by decide))
    simp [lineR, rowT, Lib.join, List.intercalate]
  · rw [h] at f1 f2 l1 l2 ⊢
    obtain rfl := len0 l1
    obtain ⟨b, rfl⟩ := len1 f2 (l2 (by decide))
    simp [lineR, rowT, Lib.join, List.intercalate]
end Go.Proofs.YtldgbdmiebipnaaGreatDoor

namespace Go.Proofs.YtldgbdmiebipnaaGreatDoor
open Go.RowKit

theorem cat_blank (l : List UInt8) : (⟨#[32]⟩ : ByteArray) ++ ⟨l.toArray⟩ = ⟨(32 :: l).toArray⟩ := by
  have h : ((⟨#[32]⟩ : ByteArray) ++ ⟨l.toArray⟩).data = (32 :: l).toArray := by simp
  cases hx : (⟨#[32]⟩ : ByteArray) ++ ⟨l.toArray⟩
  rw [hx] at h
  simp only at h
  rw [h]
theorem cat_blank0 (l : List UInt8) : (⟨#[32]⟩ : ByteArray) ++ ⟨#[]⟩ ++ ⟨l.toArray⟩ = ⟨(32 :: l).toArray⟩ := by
  rw [show (⟨#[32]⟩ : ByteArray) ++ ⟨#[]⟩ = ⟨#[32]⟩ from by decide]; exact cat_blank l
theorem join_take_len (sep : List UInt8) (ls : List (List UInt8)) : ls.length ≤ (Lib.join ls sep).length + ls.length := by omega
/-- Texts of a row's first trees. -/
theorem texts_step (g : Tr → ByteArray) {xs : List Tr} {j : Nat} (h : j < xs.length) : (xs.take (j + 1)).map g = (xs.take j).map g ++ [g xs[j]] := by
  rw [List.take_succ_eq_append_getElem h, List.map_append]; rfl

set_option maxRecDepth 100000 in
theorem ptext_any (y : Rv) (w : World) : Calls Tryz.prog 40 #[y.val] w fun e w' => e = .returned (.string y.t.text) ∧ Below w.heap.size w w' := by
  unfold Rv.val
  go_enter Tryz.func40, Tryz.ntmps40
  go_wp2_with fail
  go_ret
  exact ⟨rfl, (Below.refl _ _).alloc (Nat.le_refl _) _⟩

set_option maxRecDepth 100000 in
theorem pshown_any (y : Rv) (w : World) (hP : Pow w) (hp : y.t.parts ≤ 1000000) (hwf : WfR y.t) (hw : wtT (plainR y.t) ≤ 100000000) (hy : y.ok w) :
    Calls Tryz.prog 41 #[y.val] w fun e w' => e = .returned (.string ⟨(shR y.t).toArray⟩) ∧ Below w.heap.size w w' := by
  have hB0 : Below w.heap.size w (w.alloc (.cells #[.int .i64 y.t.kind, .string y.t.text, .int .i64 y.t.n, .int .i64 y.t.spot, .slice y.a y.t.args.length y.c] 39)) := (Below.refl _ _).alloc (Nat.le_refl _) _
  have PL := Lib.hid (pplain_tm 1000000 y _ hp (by omega) hwf (hy.below hB0))
  have PS := Lib.hid (fun (z : Tv) (W : World) (hb : Below w.heap.size w W) (hz : z.t = plainR y.t) (hzo : z.ok W) => pshow_tm z W hzo (hP.below hb) (by rw [hz]; exact hw))
  have HB0 := Lib.hid hB0
  unfold Rv.val at PL ⊢
  obtain ⟨s, hs⟩ : ∃ s, shR y.t = s := ⟨_, rfl⟩
  have HS := Lib.hid (show showT (plainR y.t) = s from hs)
  rw [hs]
  clear hs hB0 hy hwf hw
  go_enter Tryz.func41, Tryz.ntmps41
  go_wp2_with fail
  refine PL.out.mono ?_
  rintro e w1 ⟨z, rfl, hz, hm, hb1⟩
  have HB1 := Lib.hid (below_next HB0.out hb1)
  have C := PS.out z w1 HB1.out hz hm.ok
  rw [hz, HS.out] at C
  replace C := Lib.hid C
  unfold Tv.val at C ⊢
  clear hz hm hb1
  go_wp2_with fail
  refine C.out.mono ?_
  rintro e w2 ⟨rfl, hb2⟩
  go_wp2_with fail
  go_ret
  exact ⟨rfl, below_next HB1.out hb2⟩

set_option maxRecDepth 100000 in
set_option maxHeartbeats 4000000 in
theorem prow_text (g : Tr → ByteArray) (v : Value) (xs : List Tr) (sep : ByteArray) (w : World) (hx : Trs w v xs) (hn : xs.length ≤ 1000000000) (hlen : (Lib.join (xs.map fun t => (g t).data.toList) sep.data.toList).length ≤ 1000000000)
    (F : ∀ (y : Rv) (W : World), Below w.heap.size w W → y.t ∈ xs → y.ok W → Calls Tryz.prog 40 #[y.val] W fun e w' => e = .returned (.string (g y.t)) ∧ Below W.heap.size W w') :
    Calls Tryz.prog 39 #[v, .string sep, .func (.func 40) #[] #[]] w fun e w' => e = .returned (.string ⟨(rowT sep.data.toList (xs.map fun t => (g t).data.toList)).toArray⟩) ∧ Below w.heap.size w w' := by
  obtain ⟨a, c, rfl, hal, _, hxo⟩ := hx.open_
  obtain ⟨i0, hi, hz0, hz1, hz2⟩ := info_parts strInfo
  by_cases h0 : xs = []
  · subst h0
    clear F hxo hx hal hlen hn
    go_enter Tryz.func39, Tryz.ntmps39
    go_wp2_with fail
    go_ret
    exact ⟨rfl, Below.refl _ _⟩
  · have hpos : 0 < xs.length := List.length_pos_iff.2 h0
    have hq0 : ((xs.length : Int) == 0) = false := by rw [beq_eq_false_iff_ne]; omega
    obtain ⟨b, o, rfl, hlt, hX⟩ := hxo.resolve_left h0
    have HX := Lib.hid hX
    have HF := Lib.hid F
    have HLEN := Lib.hid hlen
    clear hX hx F hlen
    go_enter Tryz.func39, Tryz.ntmps39
    go_wp2_with fail
    go_loopw [7, 15] (fun s i wr => ∃ j : Nat, j ≤ xs.length ∧ i = .int .i64 j ∧ wr.ownsRow w.heap.size 9 1 s j (((xs.take j).map g).map Value.string) ∧ Below w.heap.size w wr) (fun _ i _ => xs.length - (intOf i).toNat)
    case atStart => exact ⟨0, Nat.zero_le _, rfl, World.ownsRow_nil _ _ _ _, Below.refl _ _⟩
    case round =>
      obtain ⟨j, hj, rfl, hown, hb⟩ := hrel
      by_cases hj1 : j < xs.length
      · have hi1 : (j : Int) < (xs.length : Int) := by omega
        have hi0 : (0 : Int) ≤ (j : Int) := by omega
        obtain ⟨y, hyt, hyk, hya⟩ := HX.out j xs[j] (List.getElem?_eq_getElem hj1)
        obtain ⟨m0, m1, m2, m3, m4⟩ := hya.below hb
        have hbs := hb.size
        have hb1 : Below w.heap.size w (wr.alloc (.cells #[.int .i64 y.t.kind, .string y.t.text, .int .i64 y.t.n, .int .i64 y.t.spot, .slice y.a y.t.args.length y.c] 39)) := hb.alloc hbs _
        have C := HF.out y _ hb1 (by rw [hyt]; exact List.getElem_mem hj1) (hyk.below hb1)
        have HG := Lib.hid (show ((xs.take (j + 1)).map g).map Value.string = ((xs.take j).map g).map Value.string ++ [.string (g y.t)] by rw [texts_step g hj1, List.map_append, hyt]; rfl)
        obtain ⟨gs, hgs⟩ : ∃ gs, g y.t = gs := ⟨_, rfl⟩
        rw [hgs] at C HG
        unfold Rv.val at C
        replace C := Lib.hid C
        have HB1 := Lib.hid hb1
        have HOWN := Lib.hid (hown.alloc (.cells #[.int .i64 y.t.kind, .string y.t.text, .int .i64 y.t.n, .int .i64 y.t.spot, .slice y.a y.t.args.length y.c] 39))
        have HGE := Lib.hid (fun g q => own_row_lt hown g q)
        clear hown hb1 hyk hya hyt hgs
        go_wp2_with fail
        refine C.out.mono ?_; rintro e w2 ⟨rfl, hb2⟩
        have hown2 := own_at (w' := w2) HOWN.out fun g q => hb2.block g (own_row_lt HOWN.out g q)
        have hb3 := below_next HB1.out hb2
        have hs3 := hb3.size
        obtain ⟨bxs, hbxs⟩ : ∃ l, ((xs.take j).map g).map Value.string = l := ⟨_, rfl⟩
        rw [hbxs] at hown2 HG
        have HB3 := Lib.hid hb3
        clear hbxs hb2 hb3 C HOWN HB1 hb
        go_wp2_with (at_builtin; refine wpList_append_own _ rfl _ _ 84 rfl w.heap.size 9 i0 (.string ⟨#[]⟩) 1 16 Tryz.underlying84 hi hz0 hz1 hz2 rfl (by decide) _ j _ rfl (hown2.alloc _) ⟨w2.heap.size, 0, none⟩ 1 1 [.string gs] rfl rfl ?c1 ?c2 ?c3 ?c4 ?c5 ?_)
        case c1 => exact cell_one_new _ _ _
        case c2 => intro u hu; simp at hu; rw [hu]; rfl
        case c3 => unfold maxLen; omega
        case c4 => omega
        case c5 => simp; omega
        intro v' w4 hown' hgrow _
        have HB4 := Lib.hid ((HB3.out.alloc hs3 (.cells #[.string gs] 9)).grown hgrow (by simp; omega) (own_row_ge hown2))
        have HO := Lib.hid hown'
        clear hown' hgrow hown2
        go_wp2_with fail
        go_roundw
        case rel => exact ⟨j + 1, by omega, by go_num, by rw [HG.out]; exact HO.out, HB4.out⟩
        case measure => simp [intOf]; omega
      · obtain rfl : j = xs.length := by omega
        have hi1 : decide ((xs.length : Int) < (xs.length : Int)) = false := decide_eq_false (by omega)
        rw [List.take_length] at hown
        rcases own_cells hown with ⟨rfl, h1⟩ | ⟨gg, cap, rfl, hg, hcap, hcell⟩
        · exact absurd (List.map_eq_nil_iff.1 h1) h0
        · have hmm : (xs.map g).map (fun s => s.data.toList) = xs.map fun t => (g t).data.toList := by rw [List.map_map]; rfl
          have J := Lib.hid (Tryz.strings_Join gg 0 cap (xs.map g) sep wr hcell hg (by rw [List.length_map]; omega) hcap (by rw [hmm]; have := HLEN.out; omega))
          rw [List.length_map] at J ⊢
          rw [hmm] at J
          have HR := Lib.hid (show rowT sep.data.toList (xs.map fun t => (g t).data.toList) = 32 :: Lib.join (xs.map fun t => (g t).data.toList) sep.data.toList by unfold rowT; rw [if_neg (by simpa using h0)])
          have HB := Lib.hid hb
          obtain ⟨jl, hjl⟩ : ∃ l, Lib.join (xs.map fun t => (g t).data.toList) sep.data.toList = l := ⟨_, rfl⟩
          rw [hjl] at J HR HLEN
          have hll := HLEN.out
          have hsz : (⟨jl.toArray⟩ : ByteArray).size = jl.length := by simp [ByteArray.size]
          clear hown hcell hb hmm hjl
          go_wp2_with fail
          refine J.out.mono ?_; rintro e w5 ⟨rfl, hb5⟩
          go_wp2_with fail
          go_ret
          exact ⟨by rw [HR.out]; exact congrArg (fun b => Ending.returned (.string b)) (cat_blank0 _), HB.out.trans (hb5.mono HB.out.size)⟩

set_option maxRecDepth 100000 in
set_option maxHeartbeats 4000000 in
theorem prow_shown (g : Tr → ByteArray) (v : Value) (xs : List Tr) (sep : ByteArray) (w : World) (hx : Trs w v xs) (hn : xs.length ≤ 1000000000) (hlen : (Lib.join (xs.map fun t => (g t).data.toList) sep.data.toList).length ≤ 1000000000)
    (F : ∀ (y : Rv) (W : World), Below w.heap.size w W → y.t ∈ xs → y.ok W → Calls Tryz.prog 41 #[y.val] W fun e w' => e = .returned (.string (g y.t)) ∧ Below W.heap.size W w') :
    Calls Tryz.prog 39 #[v, .string sep, .func (.func 41) #[] #[]] w fun e w' => e = .returned (.string ⟨(rowT sep.data.toList (xs.map fun t => (g t).data.toList)).toArray⟩) ∧ Below w.heap.size w w' := by
  obtain ⟨a, c, rfl, hal, _, hxo⟩ := hx.open_
  obtain ⟨i0, hi, hz0, hz1, hz2⟩ := info_parts strInfo
  by_cases h0 : xs = []
  · subst h0
    clear F hxo hx hal hlen hn
    go_enter Tryz.func39, Tryz.ntmps39
    go_wp2_with fail
    go_ret
    exact ⟨rfl, Below.refl _ _⟩
  · have hpos : 0 < xs.length := List.length_pos_iff.2 h0
    have hq0 : ((xs.length : Int) == 0) = false := by rw [beq_eq_false_iff_ne]; omega
    obtain ⟨b, o, rfl, hlt, hX⟩ := hxo.resolve_left h0
    have HX := Lib.hid hX
    have HF := Lib.hid F
    have HLEN := Lib.hid hlen
    clear hX hx F hlen
    go_enter Tryz.func39, Tryz.ntmps39
    go_wp2_with fail
    go_loopw [7, 15] (fun s i wr => ∃ j : Nat, j ≤ xs.length ∧ i = .int .i64 j ∧ wr.ownsRow w.heap.size 9 1 s j (((xs.take j).map g).map Value.string) ∧ Below w.heap.size w wr) (fun _ i _ => xs.length - (intOf i).toNat)
    case atStart => exact ⟨0, Nat.zero_le _, rfl, World.ownsRow_nil _ _ _ _, Below.refl _ _⟩
    case round =>
      obtain ⟨j, hj, rfl, hown, hb⟩ := hrel
      by_cases hj1 : j < xs.length
      · have hi1 : (j : Int) < (xs.length : Int) := by omega
        have hi0 : (0 : Int) ≤ (j : Int) := by omega
        obtain ⟨y, hyt, hyk, hya⟩ := HX.out j xs[j] (List.getElem?_eq_getElem hj1)
        obtain ⟨m0, m1, m2, m3, m4⟩ := hya.below hb
        have hbs := hb.size
        have hb1 : Below w.heap.size w (wr.alloc (.cells #[.int .i64 y.t.kind, .string y.t.text, .int .i64 y.t.n, .int .i64 y.t.spot, .slice y.a y.t.args.length y.c] 39)) := hb.alloc hbs _
        have C := HF.out y _ hb1 (by rw [hyt]; exact List.getElem_mem hj1) (hyk.below hb1)
        have HG := Lib.hid (show ((xs.take (j + 1)).map g).map Value.string = ((xs.take j).map g).map Value.string ++ [.string (g y.t)] by rw [texts_step g hj1, List.map_append, hyt]; rfl)
        obtain ⟨gs, hgs⟩ : ∃ gs, g y.t = gs := ⟨_, rfl⟩
        rw [hgs] at C HG
        unfold Rv.val at C
        replace C := Lib.hid C
        have HB1 := Lib.hid hb1
        have HOWN := Lib.hid (hown.alloc (.cells #[.int .i64 y.t.kind, .string y.t.text, .int .i64 y.t.n, .int .i64 y.t.spot, .slice y.a y.t.args.length y.c] 39))
        have HGE := Lib.hid (fun g q => own_row_lt hown g q)
        clear hown hb1 hyk hya hyt hgs
        go_wp2_with fail
        refine C.out.mono ?_; rintro e w2 ⟨rfl, hb2⟩
        have hown2 := own_at (w' := w2) HOWN.out fun g q => hb2.block g (own_row_lt HOWN.out g q)
        have hb3 := below_next HB1.out hb2
        have hs3 := hb3.size
        obtain ⟨bxs, hbxs⟩ : ∃ l, ((xs.take j).map g).map Value.string = l := ⟨_, rfl⟩
        rw [hbxs] at hown2 HG
        have HB3 := Lib.hid hb3
        clear hbxs hb2 hb3 C HOWN HB1 hb
        go_wp2_with (at_builtin; refine wpList_append_own _ rfl _ _ 84 rfl w.heap.size 9 i0 (.string ⟨#[]⟩) 1 16 Tryz.underlying84 hi hz0 hz1 hz2 rfl (by decide) _ j _ rfl (hown2.alloc _) ⟨w2.heap.size, 0, none⟩ 1 1 [.string gs] rfl rfl ?c1 ?c2 ?c3 ?c4 ?c5 ?_)
        case c1 => exact cell_one_new _ _ _
        case c2 => intro u hu; simp at hu; rw [hu]; rfl
        case c3 => unfold maxLen; omega
        case c4 => omega
        case c5 => simp; omega
        intro v' w4 hown' hgrow _
        have HB4 := Lib.hid ((HB3.out.alloc hs3 (.cells #[.string gs] 9)).grown hgrow (by simp; omega) (own_row_ge hown2))
        have HO := Lib.hid hown'
        clear hown' hgrow hown2
        go_wp2_with fail
        go_roundw
        case rel => exact ⟨j + 1, by omega, by go_num, by rw [HG.out]; exact HO.out, HB4.out⟩
        case measure => simp [intOf]; omega
      · obtain rfl : j = xs.length := by omega
        have hi1 : decide ((xs.length : Int) < (xs.length : Int)) = false := decide_eq_false (by omega)
        rw [List.take_length] at hown
        rcases own_cells hown with ⟨rfl, h1⟩ | ⟨gg, cap, rfl, hg, hcap, hcell⟩
        · exact absurd (List.map_eq_nil_iff.1 h1) h0
        · have hmm : (xs.map g).map (fun s => s.data.toList) = xs.map fun t => (g t).data.toList := by rw [List.map_map]; rfl
          have J := Lib.hid (Tryz.strings_Join gg 0 cap (xs.map g) sep wr hcell hg (by rw [List.length_map]; omega) hcap (by rw [hmm]; have := HLEN.out; omega))
          rw [List.length_map] at J ⊢
          rw [hmm] at J
          have HR := Lib.hid (show rowT sep.data.toList (xs.map fun t => (g t).data.toList) = 32 :: Lib.join (xs.map fun t => (g t).data.toList) sep.data.toList by unfold rowT; rw [if_neg (by simpa using h0)])
          have HB := Lib.hid hb
          obtain ⟨jl, hjl⟩ : ∃ l, Lib.join (xs.map fun t => (g t).data.toList) sep.data.toList = l := ⟨_, rfl⟩
          rw [hjl] at J HR HLEN
          have hll := HLEN.out
          have hsz : (⟨jl.toArray⟩ : ByteArray).size = jl.length := by simp [ByteArray.size]
          clear hown hcell hb hmm hjl
          go_wp2_with fail
          refine J.out.mono ?_; rintro e w5 ⟨rfl, hb5⟩
          go_wp2_with fail
          go_ret
          exact ⟨by rw [HR.out]; exact congrArg (fun b => Ending.returned (.string b)) (cat_blank0 _), HB.out.trans (hb5.mono HB.out.size)⟩
end Go.Proofs.YtldgbdmiebipnaaGreatDoor

namespace Go.Proofs.YtldgbdmiebipnaaGreatDoor
open Go.RowKit

theorem rowT_len {sep : List UInt8} (h : sep ≠ []) (ls : List (List UInt8)) : ls.length ≤ (rowT sep ls).length ∧ (Lib.join ls sep).length ≤ (rowT sep ls).length := by
  cases ls with
  | nil => exact ⟨by simp, by rw [Lib.join_nil]; simp⟩
  | cons x r =>
    have e : rowT sep (x :: r) = 32 :: Lib.join (x :: r) sep := rfl
    have hl := Lib.join_length x r sep
    have hs : 1 ≤ sep.length := List.length_pos_iff.2 h
    have hm : 1 * r.length ≤ sep.length * r.length := Nat.mul_le_mul_right _ hs
    rw [e, List.length_cons, List.length_cons]
    exact ⟨by omega, by omega⟩
theorem sepWB_ne (k : ByteArray) : sepWB k ≠ [] := by unfold sepWB; split <;> simp
theorem sepTB_ne (k : ByteArray) : sepTB k ≠ [] := by unfold sepTB; repeat' split <;> simp
theorem bytes_of {s : ByteArray} {l : List UInt8} (h : s.data.toList = l) : s = ⟨l.toArray⟩ := by rw [← h, bytes_self]
theorem kFun_l : kFun.toList = [102, 117, 110] := by kernel_rfl
theorem kRule_l : kRule.toList = [114, 117, 108, 101] := by kernel_rfl
theorem kFrame_l : kFrame.toList = [102, 114, 97, 109, 101] := by kernel_rfl
theorem item_box (w : World) (x0 x1 x2 x3 : Value) : (w.alloc (.cells #[x0, x1, x2, x3] 63)).heap.size = w.heap.size + 1 := by simp

set_option maxRecDepth 100000 in
set_option maxHeartbeats 4000000 in
theorem pline_any (y : Iv) (w : World) (hP : Pow w) (hok : y.ok w) (hfit : FitI y.it) (hl : LenI y.it) (hlen : (lineS y.it).length ≤ 100000000) (hts : ∀ t ∈ y.it.trees, t.parts ≤ 1000000 ∧ wtT (plainR t) ≤ 100000000) (hwf : ∀ t ∈ y.it.trees, WfR t) :
    Calls Tryz.prog 19 #[.agg #[.string y.it.key, .int .i64 y.it.spot, y.vw, y.vt]] w fun e w' => e = .returned (.string ⟨(lineS y.it ++ [10]).toArray⟩) ∧ Below w.heap.size w w' := by
  have hE := lineQ_eq hfit hl
  obtain ⟨⟨key, spot, ws, ts⟩, vw, vt⟩ := y
  obtain ⟨hw, ht, hkl⟩ := hok
  simp only at hw ht hkl hts hwf hlen hE ⊢
  have hq : (lineQ ⟨key, spot, ws, ts⟩).length ≤ 100000001 := by rw [← hE, List.length_append]; simp; omega
  have HE := Lib.hid hE
  rw [hE]
  unfold lineQ at hq HE
  simp only [List.length_append] at hq HE
  have hw1 := rowT_len (sepWB_ne key) (ws.map fun t => t.text.data.toList)
  have ht1 := rowT_len (sepTB_ne key) (ts.map shR)
  rw [List.length_map] at hw1 ht1
  have hks : key.data.toList.length = key.size := by rw [Array.length_toList]; rfl
  obtain ⟨S1, hS1⟩ : ∃ s : ByteArray, s = ⟨(rowT (sepWB key) (ws.map fun t => t.text.data.toList)).toArray⟩ := ⟨_, rfl⟩
  obtain ⟨S2, hS2⟩ : ∃ s : ByteArray, s = ⟨(rowT (sepTB key) (ts.map shR)).toArray⟩ := ⟨_, rfl⟩
  have hS1l : S1.data.toList = rowT (sepWB key) (ws.map fun t => t.text.data.toList) := by rw [hS1]
  have hS2l : S2.data.toList = rowT (sepTB key) (ts.map shR) := by rw [hS2]
  have hS1s : S1.size ≤ 100000001 := by have : S1.data.toList.length = S1.size := by rw [Array.length_toList]; rfl
                                        rw [hS1l] at this; omega
  have hS2s : S2.size ≤ 100000001 := by have : S2.data.toList.length = S2.size := by rw [Array.length_toList]; rfl
                                        rw [hS2l] at this; omega
  have hkz : key.size ≤ 100000001 := by omega
  have RW := Lib.hid (fun (W : World) (hb : Below w.heap.size w W) (sep : ByteArray) (hs : sep.data.toList = sepWB key) => (prow_text Tr.text vw ws sep W (hw.below hb) (by omega) (by rw [hs]; omega) (fun y W' _ _ _ => ptext_any y W')).mono fun e w' hh => (show e = .returned (.string S1) ∧ Below W.heap.size W w' from ⟨by rw [hh.1, hS1, hs], hh.2⟩))
  have RT := Lib.hid (fun (W : World) (hb : Below w.heap.size w W) (sep : ByteArray) (hs : sep.data.toList = sepTB key) => (prow_shown (fun t => ⟨(shR t).toArray⟩) vt ts sep W (ht.below hb) (by omega) (by rw [hs]; show (Lib.join (ts.map shR) _).length ≤ _; omega) (fun y W' hb' hm hy => pshown_any y W' (hP.below (below_next hb hb')) (hts _ hm).1 (hwf _ hm) (hts _ hm).2 hy)).mono fun e w' hh => (show e = .returned (.string S2) ∧ Below W.heap.size W w' from ⟨by rw [hh.1, hS2, hs], hh.2⟩))
  obtain ⟨wa, wc, rfl, _⟩ := hw
  obtain ⟨ta, tc, rfl, _⟩ := ht
  have bx := box_new w (.string key) (.int .i64 spot) (.slice wa ws.length wc) (.slice ta ts.length tc) 63
  have hB0 : Below w.heap.size w (w.alloc (.cells #[.string key, .int .i64 spot, .slice wa ws.length wc, .slice ta ts.length tc] 63)) := (Below.refl _ _).alloc (Nat.le_refl _) _
  have hzs := item_box w (.string key) (.int .i64 spot) (.slice wa ws.length wc) (.slice ta ts.length tc)
  have HSUM := Lib.hid (fun (c : ByteArray) (hc : c.data.toList = colNB key) => (show key ++ S1 ++ c ++ S2 ++ ⟨#[46, 10]⟩ = ⟨(lineQ ⟨key, spot, ws, ts⟩).toArray⟩ from by
    refine bytes_of ?_
    unfold lineQ
    simp only [ByteArray.data_append, Array.toList_append, hS1l, hS2l, hc, List.append_assoc]))
  obtain ⟨LQ, hLQ⟩ : ∃ l : ByteArray, ⟨(lineQ ⟨key, spot, ws, ts⟩).toArray⟩ = l := ⟨_, rfl⟩
  rw [hLQ] at HSUM ⊢
  obtain ⟨nw, hnw⟩ : ∃ n, ws.length = n := ⟨_, rfl⟩
  obtain ⟨nt, hnt⟩ : ∃ n, ts.length = n := ⟨_, rfl⟩
  rw [hnw] at RW bx hB0 hzs ⊢
  rw [hnt] at RT bx hB0 hzs ⊢
  obtain ⟨wz, hwz⟩ : ∃ wz, wz = w.alloc (.cells #[.string key, .int .i64 spot, .slice wa nw wc, .slice ta nt tc] 63) := ⟨_, rfl⟩
  rw [← hwz] at bx hB0 hzs
  have HB0 := Lib.hid hB0
  have HBX := Lib.hid (fun (V : World) (h : Below wz.heap.size wz V) => bx.below h (by omega))
  have KEEP := Lib.hid (fun (W : World) (h : Below wz.heap.size wz W) => (show Below wz.heap.size wz W ∧ W.cell? ⟨w.heap.size, 0, none⟩ = some (.string key) ∧ W.cell? ⟨w.heap.size, 2, none⟩ = some (.slice wa nw wc) ∧ W.cell? ⟨w.heap.size, 3, none⟩ = some (.slice ta nt tc) from by
    obtain ⟨a0, a1, a2, a3, _⟩ := HBX.out W h
    exact ⟨h, a0, a2, a3⟩))
  have D0 := Lib.hid ((Below.refl wz.heap.size wz).drew)
  obtain ⟨m0, _, m2, m3, _, _, _, _⟩ := HBX.out wz (Below.refl _ _)
  have hlt0 : w.heap.size < wz.heap.size := by omega
  have z1 : ¬ 9223372036854775807 < key.size + S1.size := by omega
  have z2 : ¬ 9223372036854775807 < key.size + S1.size + S2.size := by omega
  have z3 : ¬ 9223372036854775807 < key.size + S1.size + S2.size + 2 := by omega
  have z4 : ¬ 9223372036854775807 < key.size + S1.size + 1 := by omega
  have z5 : ¬ 9223372036854775807 < key.size + S1.size + 1 + S2.size := by omega
  have z6 : ¬ 9223372036854775807 < key.size + S1.size + 1 + S2.size + 2 := by omega
  clear hE hq hw1 ht1 hks hS1 hS2 hS1l hS2l hLQ hnw hnt hB0 hts hwf hfit hl hlen HE hP bx
  cases h1 : (key.toList == kFun.toList) with
  | true =>
    have h2 : (key.toList == kRule.toList) = false := by rw [(Lib.bytes_beq_iff key kFun).1 h1]; kernel_rfl
    have h3 : (key.toList == kFrame.toList) = false := by rw [(Lib.bytes_beq_iff key kFun).1 h1]; kernel_rfl
    have k1 : sepWB key = [47] := by unfold sepWB; rw [if_pos (show (key.toList == kFun.toList) = true from h1)]
    have k2 : sepTB key = [32] := by unfold sepTB; rw [if_neg (show ¬ (key.toList == kRule.toList) = true from by rw [show (key.toList == kRule.toList) = false from h2]; simp), if_neg (show ¬ (key.toList == kFrame.toList) = true from by rw [show (key.toList == kFrame.toList) = false from h3]; simp)]
    have k3 : colNB key = [] := by unfold colNB; rw [if_neg (show ¬ (key.toList == kFrame.toList) = true from by rw [show (key.toList == kFrame.toList) = false from h3]; simp)]
    have R1 := Lib.hid (fun (W : World) (h : Below wz.heap.size wz W) => (RW.out W (below_next HB0.out h) ⟨#[47]⟩ k1.symm).mono fun e w' hh => (show e = .returned (.string S1) ∧ Below wz.heap.size wz w' from ⟨hh.1, below_next h hh.2⟩))
    have R2 := Lib.hid (fun (W : World) (h : Below wz.heap.size wz W) => (RT.out W (below_next HB0.out h) ⟨#[32]⟩ k2.symm).mono fun e w' hh => (show e = .returned (.string S2) ∧ Below wz.heap.size wz w' from ⟨hh.1, below_next h hh.2⟩))
    have HS := Lib.hid (HSUM.out ⟨#[]⟩ k3.symm)
    clear RW RT HSUM HBX
    rw [kFun_l] at h1
    try rw [kRule_l] at h2
    try rw [kFrame_l] at h3
    go_enter Tryz.func19, Tryz.ntmps19
    go_wp2_with fail
    rw [← hwz]
    clear hwz
    go_region_held3 (fun W => Below wz.heap.size wz W ∧ W.cell? ⟨w.heap.size, 0, none⟩ = some (.string key) ∧ W.cell? ⟨w.heap.size, 2, none⟩ = some (.slice wa nw wc) ∧ W.cell? ⟨w.heap.size, 3, none⟩ = some (.slice ta nt tc)) (first | exact KEEP.out _ (by with_reducible assumption) | exact KEEP.out _ D0.out)
      ((first
        | (go_at_call 39; (with_reducible refine (R1.out _ D0.out).mono ?_); rintro e w9 ⟨rfl, hb9⟩)
        | (go_at_call 39; (with_reducible refine (R2.out _ hb9).mono ?_); rintro e w10 ⟨rfl, hb10⟩)))
    have HBE := Lib.hid hb10
    clear hb9 hb10
    go_wp2_with fail
    go_ret
    exact ⟨by rw [← HS.out]; rfl, below_next HB0.out HBE.out⟩
  | false =>
    have k1 : sepWB key = [32] := by unfold sepWB; rw [if_neg (show ¬ (key.toList == kFun.toList) = true from by rw [show (key.toList == kFun.toList) = false from h1]; simp)]
    cases h2 : (key.toList == kRule.toList) with
    | true =>
      have h3 : (key.toList == kFrame.toList) = false := by rw [(Lib.bytes_beq_iff key kRule).1 h2]; kernel_rfl
      have k2 : sepTB key = [32, 61, 32] := by unfold sepTB; rw [if_pos (show (key.toList == kRule.toList) = true from h2)]
      have k3 : colNB key = [] := by unfold colNB; rw [if_neg (show ¬ (key.toList == kFrame.toList) = true from by rw [show (key.toList == kFrame.toList) = false from h3]; simp)]
      have R1 := Lib.hid (fun (W : World) (h : Below wz.heap.size wz W) => (RW.out W (below_next HB0.out h) ⟨#[32]⟩ k1.symm).mono fun e w' hh => (show e = .returned (.string S1) ∧ Below wz.heap.size wz w' from ⟨hh.1, below_next h hh.2⟩))
      have R2 := Lib.hid (fun (W : World) (h : Below wz.heap.size wz W) => (RT.out W (below_next HB0.out h) ⟨#[32, 61, 32]⟩ k2.symm).mono fun e w' hh => (show e = .returned (.string S2) ∧ Below wz.heap.size wz w' from ⟨hh.1, below_next h hh.2⟩))
      have HS := Lib.hid (HSUM.out ⟨#[]⟩ k3.symm)
      clear RW RT HSUM HBX
      rw [kFun_l] at h1
      try rw [kRule_l] at h2
      try rw [kFrame_l] at h3
      go_enter Tryz.func19, Tryz.ntmps19
      go_wp2_with fail
      rw [← hwz]
      clear hwz
      go_region_held3 (fun W => Below wz.heap.size wz W ∧ W.cell? ⟨w.heap.size, 0, none⟩ = some (.string key) ∧ W.cell? ⟨w.heap.size, 2, none⟩ = some (.slice wa nw wc) ∧ W.cell? ⟨w.heap.size, 3, none⟩ = some (.slice ta nt tc)) (first | exact KEEP.out _ (by with_reducible assumption) | exact KEEP.out _ D0.out)
        ((first
          | (go_at_call 39; (with_reducible refine (R1.out _ D0.out).mono ?_); rintro e w9 ⟨rfl, hb9⟩)
          | (go_at_call 39; (with_reducible refine (R2.out _ hb9).mono ?_); rintro e w10 ⟨rfl, hb10⟩)))
      have HBE := Lib.hid hb10
      clear hb9 hb10
      go_wp2_with fail
      go_ret
      exact ⟨by rw [← HS.out]; rfl, below_next HB0.out HBE.out⟩
    | false =>
      cases h3 : (key.toList == kFrame.toList) with
      | true =>
        have k2 : sepTB key = [59, 32] := by unfold sepTB; rw [if_neg (show ¬ (key.toList == kRule.toList) = true from by rw [show (key.toList == kRule.toList) = false from h2]; simp), if_pos (show (key.toList == kFrame.toList) = true from h3)]
        have k3 : colNB key = [58] := by unfold colNB; rw [if_pos (show (key.toList == kFrame.toList) = true from h3)]
        have R1 := Lib.hid (fun (W : World) (h : Below wz.heap.size wz W) => (RW.out W (below_next HB0.out h) ⟨#[32]⟩ k1.symm).mono fun e w' hh => (show e = .returned (.string S1) ∧ Below wz.heap.size wz w' from ⟨hh.1, below_next h hh.2⟩))
        have R2 := Lib.hid (fun (W : World) (h : Below wz.heap.size wz W) => (RT.out W (below_next HB0.out h) ⟨#[59, 32]⟩ k2.symm).mono fun e w' hh => (show e = .returned (.string S2) ∧ Below wz.heap.size wz w' from ⟨hh.1, below_next h hh.2⟩))
        have HS := Lib.hid (HSUM.out ⟨#[58]⟩ k3.symm)
        clear RW RT HSUM HBX
        rw [kFun_l] at h1
        try rw [kRule_l] at h2
        try rw [kFrame_l] at h3
        go_enter Tryz.func19, Tryz.ntmps19
        go_wp2_with fail
        rw [← hwz]
        clear hwz
        go_region_held3 (fun W => Below wz.heap.size wz W ∧ W.cell? ⟨w.heap.size, 0, none⟩ = some (.string key) ∧ W.cell? ⟨w.heap.size, 2, none⟩ = some (.slice wa nw wc) ∧ W.cell? ⟨w.heap.size, 3, none⟩ = some (.slice ta nt tc)) (first | exact KEEP.out _ (by with_reducible assumption) | exact KEEP.out _ D0.out)
          ((first
            | (go_at_call 39; (with_reducible refine (R1.out _ D0.out).mono ?_); rintro e w9 ⟨rfl, hb9⟩)
            | (go_at_call 39; (with_reducible refine (R2.out _ hb9).mono ?_); rintro e w10 ⟨rfl, hb10⟩)))
        have HBE := Lib.hid hb10
        clear hb9 hb10
        go_wp2_with fail
        go_ret
        exact ⟨by rw [← HS.out]; rfl, below_next HB0.out HBE.out⟩
      | false =>
        have k2 : sepTB key = [32] := by unfold sepTB; rw [if_neg (show ¬ (key.toList == kRule.toList) = true from by rw [show (key.toList == kRule.toList) = false from h2]; simp), if_neg (show ¬ (key.toList == kFrame.toList) = true from by rw [show (key.toList == kFrame.toList) = false from h3]; simp)]
        have k3 : colNB key = [] := by unfold colNB; rw [if_neg (show ¬ (key.toList == kFrame.toList) = true from by rw [show (key.toList == kFrame.toList) = false from h3]; simp)]
        have R1 := Lib.hid (fun (W : World) (h : Below wz.heap.size wz W) => (RW.out W (below_next HB0.out h) ⟨#[32]⟩ k1.symm).mono fun e w' hh => (show e = .returned (.string S1) ∧ Below wz.heap.size wz w' from ⟨hh.1, below_next h hh.2⟩))
        have R2 := Lib.hid (fun (W : World) (h : Below wz.heap.size wz W) => (RT.out W (below_next HB0.out h) ⟨#[32]⟩ k2.symm).mono fun e w' hh => (show e = .returned (.string S2) ∧ Below wz.heap.size wz w' from ⟨hh.1, below_next h hh.2⟩))
        have HS := Lib.hid (HSUM.out ⟨#[]⟩ k3.symm)
        clear RW RT HSUM HBX
        rw [kFun_l] at h1
        try rw [kRule_l] at h2
        try rw [kFrame_l] at h3
        go_enter Tryz.func19, Tryz.ntmps19
        go_wp2_with fail
        rw [← hwz]
        clear hwz
        go_region_held3 (fun W => Below wz.heap.size wz W ∧ W.cell? ⟨w.heap.size, 0, none⟩ = some (.string key) ∧ W.cell? ⟨w.heap.size, 2, none⟩ = some (.slice wa nw wc) ∧ W.cell? ⟨w.heap.size, 3, none⟩ = some (.slice ta nt tc)) (first | exact KEEP.out _ (by with_reducible assumption) | exact KEEP.out _ D0.out)
          ((first
            | (go_at_call 39; (with_reducible refine (R1.out _ D0.out).mono ?_); rintro e w9 ⟨rfl, hb9⟩)
            | (go_at_call 39; (with_reducible refine (R2.out _ hb9).mono ?_); rintro e w10 ⟨rfl, hb10⟩)))
        have HBE := Lib.hid hb10
        clear hb9 hb10
        go_wp2_with fail
        go_ret
        exact ⟨by rw [← HS.out]; rfl, below_next HB0.out HBE.out⟩
end Go.Proofs.YtldgbdmiebipnaaGreatDoor

namespace Go.Proofs.YtldgbdmiebipnaaGreatDoor
open Go.RowKit Go.Shelf

set_option maxRecDepth 100000 in
set_option maxHeartbeats 4000000 in
theorem pshows_any (v : Value) (xs : List It) (w : World) (hP : Pow w) (hv : Its w v xs) (hfit : ∀ x ∈ xs, FitI x) (hmost : ∀ x ∈ xs, LenI x) (hlen : (showS xs).length ≤ 100000000) (hts : ∀ x ∈ xs, ∀ t ∈ x.trees, t.parts ≤ 1000000 ∧ wtT (plainR t) ≤ 100000000) (hwf : ∀ x ∈ xs, ∀ t ∈ x.trees, WfR t) :
    Calls Tryz.prog 7 #[v] w fun e w' => e = .returned (.string ⟨(showS xs).toArray⟩) ∧ Below w.heap.size w w' := by
  obtain ⟨a, c, rfl, ⟨hal, hac⟩, hxo⟩ := hv
  have HXO := Lib.hid hxo
  have HF := Lib.hid (fun (y : Iv) (W : World) (hb : Below w.heap.size w W) (hm : y.it ∈ xs) (hy : y.ok W) (hl : (lineS y.it).length ≤ 100000000) => pline_any y W (hP.below hb) hy (hfit _ hm) (hmost _ hm) hl (hts _ hm) (hwf _ hm))
  have HLEN := Lib.hid hlen
  have hF := Lib.fresh_isBuilder 61 5 w
  have hB0 : Below w.heap.size w (w.alloc (.cells #[.pointer none, .slice none 0 0] 61)) := (Below.refl _ _).alloc (Nat.le_refl _) _
  have hs0 : (w.alloc (.cells #[.pointer none, .slice none 0 0] 61)).heap.size = w.heap.size + 1 := by simp
  obtain ⟨w0, hw0⟩ : ∃ w0, w.alloc (.cells #[.pointer none, .slice none 0 0] 61) = w0 := ⟨_, rfl⟩
  rw [hw0] at hF hB0 hs0
  have HB0 := Lib.hid hB0
  have HBF : Hid (Bld w.heap.size w.heap.size [] w0) := Lib.hid hF
  have HW0 := Lib.hid hw0
  have hge0 : w.heap.size ≤ w0.heap.size := by omega
  clear hxo hfit hmost hts hwf hP hF hw0 hB0 hlen
  go_enter Tryz.func7, Tryz.ntmps7
  go_wp2_with fail
  rw [HW0.out]
  go_loopw [8] (fun k wr => ∃ (q : Nat), k = .int .i64 q ∧ q ≤ xs.length ∧ Hid (Bld w.heap.size w.heap.size (showS (xs.take q)) wr) ∧ Below w.heap.size w wr ∧ w.heap.size ≤ wr.heap.size) (fun k _ => xs.length - (intOf k).toNat)
  case atStart => exact ⟨0, rfl, Nat.zero_le _, Lib.hid (by rw [List.take_zero]; exact HBF.out), HB0.out, hge0⟩
  case round =>
    obtain ⟨q, rfl, hq, HP, hb, hge⟩ := hrel
    have HB := Lib.hid hb
    by_cases hql : q < xs.length
    · have hqq : (q : Int) < (xs.length : Int) := by omega
      have hq0 : (0 : Int) ≤ (q : Int) := by omega
      rcases HXO.out with h | ⟨b, o, rfl, hlt, hX⟩
      · rw [h] at hql; cases hql
      obtain ⟨y, hyt, hyk, hya⟩ := hX q hql
      obtain ⟨k0, k1, k2, k3⟩ := hya.below hb
      have hba : Below wr.heap.size wr (wr.alloc (.cells #[.string y.it.key, .int .i64 y.it.spot, y.vw, y.vt] 63)) := (Below.refl _ _).alloc (Nat.le_refl _) _
      have hnx := showS_take hql
      have hpq := showS_part xs (q + 1)
      have hpp := showS_part xs q
      rw [← hyt] at hnx
      have hsm : (showS (xs.take q)).length + ((lineS y.it).length + 1) ≤ 100000000 := by
        have h := congrArg List.length hnx
        have := HLEN.out
        simp only [List.length_append, List.length_singleton] at h; omega
      have HC := HF.out y (wr.alloc (.cells #[.string y.it.key, .int .i64 y.it.spot, y.vw, y.vt] 63)) (below_next hb hba) (by rw [hyt]; exact List.getElem_mem hql) ((hyk.below hb).below hba) (by omega)
      have HBL := Lib.hid (bld_below HP.out hba)
      obtain ⟨z, hz⟩ : ∃ z, lineS y.it ++ [10] = z := ⟨_, rfl⟩
      have hzl : (showS (xs.take q)).length + z.length ≤ 100000000 := by rw [← hz, List.length_append, List.length_singleton]; exact hsm
      rw [hz] at HC hnx
      obtain ⟨aw, cw, e1, _⟩ := hyk.words
      obtain ⟨at_, ct, e2, _⟩ := hyk.trees
      rw [e1, e2] at HC hba HBL
      rw [e1] at k2
      rw [e2] at k3
      replace HC := Lib.hid HC
      have HBA := Lib.hid hba
      have HN := Lib.hid hnx
      have hzz : (⟨z.toArray⟩ : ByteArray).size = z.length := by simp [ByteArray.size]
      have HZ := Lib.hid hzl
      have HZZ := Lib.hid hzz
      clear hX hyt hyk hya hba hnx hpq hz e1 e2 hpp hb hsm hzl hzz
      go_wp2_with fail
      refine HC.out.mono ?_; rintro e w5 ⟨rfl, hb5⟩
      have hge5 := Nat.le_trans (Nat.le_trans hge HBA.out.size) hb5.size
      have WS := Lib.hid (wstr_any w.heap.size w.heap.size (showS (xs.take q)) ⟨z.toArray⟩ w5 (bld_below HBL.out hb5) (by rw [HZZ.out]; have := HZ.out; omega) hge5)
      have HB5 := Lib.hid (below_next (below_next HB.out HBA.out) hb5)
      clear hb5 k0 k1 k2 k3
      go_wp2_with fail
      refine WS.out.mono ?_; rintro e w6 ⟨rfl, hbl6, hk6⟩
      have HBL6 := Lib.hid hbl6
      have HB6 := Lib.hid (HB5.out.trans hk6.below)
      have hge6 := Nat.le_trans hge5 hk6.below.size
      clear hbl6 hk6
      go_wp2_with fail
      go_roundw
      case rel => exact ⟨q + 1, by go_num, by omega, Lib.hid (by rw [HN.out]; exact HBL6.out), HB6.out, hge6⟩
      case measure => simp [intOf]; omega
    · have hqe : q = xs.length := by omega
      have hqn : ¬ ((q : Int) < (xs.length : Int)) := by omega
      have hbl := HP.out
      rw [hqe, List.take_length] at hbl
      have S := Lib.hid (Tryz.Builder_String_any w.heap.size w.heap.size (showS xs) wr hbl (by omega))
      clear hqe hbl
      go_wp2_with fail
      refine S.out.mono ?_; rintro e w7 ⟨rfl, hb7⟩
      go_wp2_with fail
      go_ret
      exact ⟨rfl, HB.out.trans hb7⟩
end Go.Proofs.YtldgbdmiebipnaaGreatDoor

namespace Go.Proofs.YtldgbdmiebipnaaGreatDoor
open Go.RowKit

open Classical in
/-- Two trees alike, but for places. -/
noncomputable def beR (t u : Tr) : Bool := decide (t.bare = u.bare)
theorem beR_true {t u : Tr} (h : t.bare = u.bare) : beR t u = true := by unfold beR; simpa using h
theorem beR_false {t u : Tr} (h : t.bare ≠ u.bare) : beR t u = false := by unfold beR; simpa using h
theorem beR_args {t u : Tr} (h1 : t.kind = u.kind) (h2 : t.text = u.text) (h3 : t.n = u.n) : beR t u = alR t.args u.args := by
  by_cases h : bareL t.args = bareL u.args
  · rw [alR_true h, beR_true (bare_of h1 h2 h3 h)]
  · rw [alR_false h, beR_false (fun e => h (bare_head e).2.2.2)]

set_option maxRecDepth 100000 in
set_option maxHeartbeats 4000000 in
theorem sameTree_of (x y : Rv) (w : World) (H : ∀ W, Below w.heap.size w W → Calls Tryz.prog 44 #[.slice x.a x.t.args.length x.c, .slice y.a y.t.args.length y.c, .func (.func 45) #[] #[]] W fun e w' => e = .returned (.bool (alR x.t.args y.t.args)) ∧ Below W.heap.size W w') :
    Calls Tryz.prog 45 #[x.val, y.val] w fun e w' => e = .returned (.bool (beR x.t y.t)) ∧ Below w.heap.size w w' := by
  obtain ⟨⟨k, s, n, p, xs⟩, a, c⟩ := x
  obtain ⟨⟨k', s', n', p', ys⟩, a', c'⟩ := y
  unfold Rv.val
  simp only [Tr.kind, Tr.text, Tr.n, Tr.spot, Tr.args] at H ⊢
  have hb0 : Below w.heap.size w ((w.alloc (.cells #[.int .i64 k, .string s, .int .i64 n, .int .i64 p, .slice a xs.length c] 39)).alloc (.cells #[.int .i64 k', .string s', .int .i64 n', .int .i64 p', .slice a' ys.length c'] 39)) := ((Below.refl _ _).alloc (Nat.le_refl _) _).alloc (by simp) _
  have HB := Lib.hid hb0
  have HH := Lib.hid (H _ hb0)
  clear H hb0
  cases h1 : (k == k') with
  | false =>
    have HQ := Lib.hid (beR_false (t := .mk k s n p xs) (u := .mk k' s' n' p' ys) (fun e => by have := (bare_head e).1; simp only [Tr.kind] at this; rw [beq_eq_false_iff_ne] at h1; exact h1 this))
    go_enter Tryz.func45, Tryz.ntmps45
    go_wp2_with fail
    go_ret
    exact ⟨ret_bool HQ.out.symm, HB.out⟩
  | true =>
    cases h2 : (s.toList == s'.toList) with
    | false =>
      have HQ := Lib.hid (beR_false (t := .mk k s n p xs) (u := .mk k' s' n' p' ys) (fun e => by have := (bare_head e).2.1; simp only [Tr.text] at this; rw [this, (Lib.bytes_beq_iff _ _).2 rfl] at h2; cases h2))
      go_enter Tryz.func45, Tryz.ntmps45
      go_wp2_with fail
      go_ret
      exact ⟨ret_bool HQ.out.symm, HB.out⟩
    | true =>
      cases h3 : (n == n') with
      | false =>
        have HQ := Lib.hid (beR_false (t := .mk k s n p xs) (u := .mk k' s' n' p' ys) (fun e => by have := (bare_head e).2.2.1; simp only [Tr.n] at this; rw [beq_eq_false_iff_ne] at h3; exact h3 this))
        go_enter Tryz.func45, Tryz.ntmps45
        go_wp2_with fail
        go_ret
        exact ⟨ret_bool HQ.out.symm, HB.out⟩
      | true =>
        have HQ := Lib.hid (beR_args (t := .mk k s n p xs) (u := .mk k' s' n' p' ys) (by show k = k'; simpa using h1) ((Lib.bytes_beq_iff _ _).1 h2) (by show n = n'; simpa using h3))
        simp only [Tr.args] at HQ
        obtain ⟨bb, hbb⟩ : ∃ bb, alR xs ys = bb := ⟨_, rfl⟩
        rw [hbb] at HH HQ
        clear hbb
        go_enter Tryz.func45, Tryz.ntmps45
        go_wp2_with fail
        refine HH.out.mono ?_; rintro e w1 ⟨rfl, hb1⟩
        have HB1 := Lib.hid (below_next HB.out hb1)
        clear hb1
        go_wp2_with fail
        go_ret
        exact ⟨ret_bool HQ.out.symm, HB1.out⟩

set_option maxRecDepth 100000 in
set_option maxHeartbeats 4000000 in
theorem ptrees_any (m : Nat) : ∀ (va vb : Value) (xs ys : List Tr) (w : World), partsR xs ≤ m → Trs w va xs → Trs w vb ys →
    Calls Tryz.prog 44 #[va, vb, .func (.func 45) #[] #[]] w fun e w' => e = .returned (.bool (alR xs ys)) ∧ Below w.heap.size w w' := by
  induction m using Nat.strongRecOn with
  | ind m ih =>
    intro va vb xs ys w hm hx hy
    obtain ⟨a, c, rfl, hal, _, hxo⟩ := hx.open_
    obtain ⟨a', c', rfl, hbl, _, hyo⟩ := hy.open_
    have ST := Lib.hid (fun (j : Nat) (hj : j < xs.length) (x y : Rv) (V : World) (hxe : x.t = xs[j]) (hxk : x.ok V) (hyk : y.ok V) => sameTree_of x y V (fun W hW => ih (partsR x.t.args) (by
      have := partsR_get xs hj
      have := trParts_eq xs[j]
      rw [hxe]; omega) (.slice x.a x.t.args.length x.c) (.slice y.a y.t.args.length y.c) x.t.args y.t.args W (Nat.le_refl _) ⟨x.a, x.c, rfl, (hxk.below hW).2⟩ ⟨y.a, y.c, rfl, (hyk.below hW).2⟩))
    clear ih hm hx hy
    by_cases hlen : xs.length = ys.length
    · have hq : ((xs.length : Int) != (ys.length : Int)) = false := by rw [hlen]; simp
      have HXO := Lib.hid hxo
      have HYO := Lib.hid hyo
      have HLEN := Lib.hid hlen
      clear hxo hyo hlen
      go_enter Tryz.func44, Tryz.ntmps44
      go_wp2_with fail
      go_loopw [17] (fun i wr => ∃ j : Nat, j ≤ xs.length ∧ i = .int .i64 j ∧ Hid (bareL (xs.take j) = bareL (ys.take j)) ∧ Below w.heap.size w wr) (fun i _ => xs.length - (intOf i).toNat)
      case atStart => exact ⟨0, Nat.zero_le _, rfl, Lib.hid rfl, Below.refl _ _⟩
      case round =>
        obtain ⟨j, hj, rfl, HBE, hb⟩ := hrel
        have HB := Lib.hid hb
        by_cases hj1 : j < xs.length
        · have hj2 : j < ys.length := by have := HLEN.out; omega
          have hi1 : (j : Int) < (xs.length : Int) := by omega
          have hi2 : (j : Int) < (ys.length : Int) := by omega
          have hi0 : (0 : Int) ≤ (j : Int) := by omega
          rcases HXO.out with h | ⟨b, o, rfl, hlt, hX⟩
          · rw [h] at hj1; cases hj1
          rcases HYO.out with h | ⟨b', o', rfl, hlt', hY⟩
          · rw [h] at hj2; cases hj2
          obtain ⟨x, hxt, hxk, hxa⟩ := hX j xs[j] (List.getElem?_eq_getElem hj1)
          obtain ⟨y, hyt, hyk, hya⟩ := hY j ys[j] (List.getElem?_eq_getElem hj2)
          obtain ⟨m0, m1, m2, m3, m4⟩ := hxa.below hb
          obtain ⟨k0, k1, k2, k3, k4⟩ := hya.below hb
          have hbl1 : b' < wr.heap.size := Nat.lt_of_lt_of_le hlt' hb.size
          have hbl2 : b' < wr.heap.size + 1 := by omega
          have hV : Below wr.heap.size wr ((wr.alloc (.cells #[.int .i64 x.t.kind, .string x.t.text, .int .i64 x.t.n, .int .i64 x.t.spot, .slice x.a x.t.args.length x.c] 39)).alloc (.cells #[.int .i64 y.t.kind, .string y.t.text, .int .i64 y.t.n, .int .i64 y.t.spot, .slice y.a y.t.args.length y.c] 39)) := ((Below.refl _ _).alloc (Nat.le_refl _) _).alloc (by simp) _
          have HV := Lib.hid (below_next hb hV)
          have C := ST.out j hj1 x y _ hxt (hxk.below HV.out) (hyk.below HV.out)
          have HX1 := Lib.hid hxt
          have HY1 := Lib.hid hyt
          obtain ⟨bb, hbb⟩ : ∃ bb, beR x.t y.t = bb := ⟨_, rfl⟩
          rw [hbb] at C
          have HBB := Lib.hid hbb
          unfold Rv.val at C
          replace C := Lib.hid C
          clear hxk hyk hxa hya hV hxt hyt hbb
          go_wp2_with fail
          refine C.out.mono ?_; rintro e w2 ⟨rfl, hb2⟩
          have HB2 := Lib.hid (below_next HV.out hb2)
          clear hb2
          cases bb with
          | true =>
            go_wp2_with fail
            go_roundw
            case rel =>
              have he : x.t.bare = y.t.bare := by
                have := HBB.out; unfold beR at this; simpa using this
              rw [HX1.out, HY1.out] at he
              exact ⟨j + 1, by omega, by go_num, Lib.hid (by rw [bareL_take_succ hj1, bareL_take_succ hj2, HBE.out, he]), HB2.out⟩
            case measure => simp [intOf]; omega
          | false =>
            have HF := Lib.hid (alR_false (xs := xs) (ys := ys) (fun e => by
              have h := bareL_at e hj1 hj2
              have := HBB.out
              rw [beR_true (by rw [HX1.out, HY1.out]; exact h)] at this
              cases this))
            go_wp2_with fail
            go_ret
            exact ⟨ret_bool HF.out.symm, HB2.out⟩
        · obtain rfl : j = xs.length := by omega
          have hi1 : decide ((xs.length : Int) < (xs.length : Int)) = false := decide_eq_false (by omega)
          have HT := Lib.hid (alR_true (xs := xs) (ys := ys) (by have h := HBE.out; rw [List.take_length, HLEN.out, List.take_length] at h; exact h))
          go_wp2_with fail
          go_ret
          exact ⟨ret_bool HT.out.symm, HB.out⟩
    · have hq : ((xs.length : Int) != (ys.length : Int)) = true := by simp; omega
      have HF := Lib.hid (alR_false (xs := xs) (ys := ys) (fun e => hlen (by have := congrArg List.length e; rw [bareL_map, bareL_map, List.length_map, List.length_map] at this; exact this)))
      clear hxo hyo hlen
      go_enter Tryz.func44, Tryz.ntmps44
      go_wp2_with fail
      go_ret
      exact ⟨ret_bool HF.out.symm, Below.refl _ _⟩
end Go.Proofs.YtldgbdmiebipnaaGreatDoor
