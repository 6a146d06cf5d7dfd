/-
  A frame's line on a page, by the program of layer 14: frame.
-/
import Derived.Test.YtmpaljmkfnpcpaaDoorPSh3
import Derived.Test.YtmpaljmkfnpcpaaDoorStrs
import Derived.Test.YtmpaljmkfnpcpaaDoorWithPu
import Derived.Maps.AppendAt
namespace Go.Proofs.YtmpaljmkfnpcpaaDoor
open Go.RowKit

theorem partsAt_own {W : World} {base : Nat} {a : Option Addr} {n c : Nat} {zs : List ByteArray} (h : W.ownsRow base 9 1 (.slice a n c) n (zs.map Value.string)) (h0 : zs ≠ []) : ∃ g, a = some ⟨g, 0, none⟩ ∧ n = zs.length ∧ zs.length ≤ c ∧ PartsAt W g zs := by
  obtain ⟨hn, h⟩ := h
  have hn : zs.length = n := by simpa using hn
  subst hn
  rcases h with ⟨_, h1⟩ | ⟨g, cap, cur, hv, _, hg, hcap, _, hsz, htake⟩
  · exact absurd (List.length_eq_zero_iff.1 h1) h0
  · injection hv with e1 _ e3
    subst e1 e3
    refine ⟨g, rfl, rfl, hcap, cur, (0, 0), hg, fun j s hj => ?_⟩
    have hjl : j < zs.length := (List.getElem?_eq_some_iff.1 hj).1
    have h2 : (zs.map Value.string)[j]? = some (.string s) := by rw [List.getElem?_map, hj]; rfl
    rw [← htake, List.getElem?_take, if_pos (by omega)] at h2
    simpa using h2
theorem own_strs_new (w : World) (base : Nat) (hb : base ≤ w.heap.size) (zs : List ByteArray) (h0 : zs.length ≤ 1000) : (w.alloc (.cells (zs.map Value.string).toArray 9)).ownsRow base 9 1 (.slice (some ⟨w.heap.size, 0, none⟩) zs.length zs.length) zs.length (zs.map Value.string) :=
  ⟨by simp, .inr ⟨w.heap.size, zs.length, _, rfl, hb, heap_alloc_new w _, Nat.le_refl _, by unfold maxLen; omega, by simp, by rw [Nat.mul_one]; exact List.take_of_length_le (by simp)⟩⟩
/-- What a frame's line is put together of, with k of its terms. -/
def frHead (s : ByteArray) (ts : List Tm) (k : Nat) : List UInt8 := [102, 114, 97, 109, 101, 32] ++ s.data.toList ++ [58] ++ (if ts.take k = [] then [] else 32 :: midT [59, 32] (ts.take k))
theorem frHead_step {s : ByteArray} {ts : List Tm} {k : Nat} (h : k < ts.length) : frHead s ts (k + 1) = frHead s ts k ++ ((if k = 0 then [32] else [59, 32]) ++ showT ts[k]) := by
  unfold frHead
  have hn : ts.take (k + 1) ≠ [] := by intro e; have := congrArg List.length e; rw [List.length_take, List.length_nil] at this; omega
  rw [if_neg hn, midT_take h]
  by_cases h0 : k = 0
  · subst h0; simp [midT]
  · have hk : ts.take k ≠ [] := by intro e; have := congrArg List.length e; rw [List.length_take, List.length_nil] at this; omega
    rw [if_neg hk, if_neg h0, if_neg h0]; simp

set_option maxRecDepth 100000 in
set_option maxHeartbeats 4000000 in
theorem pgframe_any (B b : Nat) (l : List UInt8) (y : Fw) (w : World) (HPW : Pow w) (h : Pg B b l w) (hB : B ≤ w.heap.size) (hy : y.ok w) (hp : ∀ t ∈ y.ts, wtT t ≤ 100000000) (hs : y.name.size ≤ 100000) (hn : y.ts.length ≤ 1000) (hl : l.length ≤ 10000000000000) :
    Calls Tryd.prog 25 #[.pointer (some ⟨b, 0, none⟩), y.val] w fun e w' => e = .returned (.tuple #[]) ∧ Pg B b (l ++ lnFrame y.name y.ts) w' ∧ KeepsP B w w' := by
  obtain ⟨i0, hi0, hz0, hz1, hz2⟩ := info_parts strInfo
  obtain ⟨s, v, ts⟩ := y
  obtain ⟨_, hv⟩ := hy
  unfold Fw.val
  simp only at hv hp hs hn ⊢
  obtain ⟨a, c, rfl, hal, hrow⟩ := hv.open_
  have hbV : Below w.heap.size w (w.alloc (.cells #[.string s, .slice a ts.length c] 30)) := (Below.refl _ _).alloc (Nat.le_refl _) _
  have hsV : (w.alloc (.cells #[.string s, .slice a ts.length c] 30)).heap.size = w.heap.size + 1 := by simp
  have hO := own_strs_new (w.alloc (.cells #[.string s, .slice a ts.length c] 30)) w.heap.size hbV.size [⟨#[102, 114, 97, 109, 101, 32]⟩, s, ⟨#[58]⟩] (by simp)
  have hb2 : Below w.heap.size w ((w.alloc (.cells #[.string s, .slice a ts.length c] 30)).alloc (.cells #[.string ⟨#[102, 114, 97, 109, 101, 32]⟩, .string s, .string ⟨#[58]⟩] 9)) := hbV.alloc hbV.size _
  rw [hsV] at hO
  simp only [List.length_cons, List.length_nil, List.map_cons, List.map_nil] at hO
  have HO := Lib.hid hO
  have HB2 := Lib.hid hb2
  have HPG := Lib.hid (fun (W : World) (hb : Below w.heap.size w W) => h.below hb)
  have HSZ := Lib.hid (show s.data.toList.length = s.size by rw [Array.length_toList]; rfl)
  have HFH := Lib.hid (show frHead s ts ts.length ++ [46, 10] = lnFrame s ts by unfold frHead lnFrame; rw [List.take_length])
  have HST := Lib.hid (fun (k : Nat) (hk : k < ts.length) => frHead_step (s := s) hk)
  have HF0 := Lib.hid (show catL [⟨#[102, 114, 97, 109, 101, 32]⟩, s, ⟨#[58]⟩] = frHead s ts 0 by unfold frHead catL; simp)
  have HX := Lib.hid (fun (k : Nat) (hk : k < ts.length) => hrow.resolve_left (by intro e; rw [e] at hk; cases hk))
  have SH := Lib.hid (fun (x : Tv) (W : World) (hb : Below w.heap.size w W) (hm : x.t ∈ ts) (hx : x.ok W) => pshow_len x W hx (HPW.below hb) (hp _ hm))
  have HWT := Lib.hid hp
  have HLE := Lib.hid (show (catL [⟨#[102, 114, 97, 109, 101, 32]⟩, s, ⟨#[58]⟩]).length ≤ 100100 by unfold catL; simp; omega)
  clear hO hb2 hbV hsV h hrow hv hp HPW
  go_enter Tryd.func25, Tryd.ntmps25
  go_wp2_with fail
  go_loopw [4, 5, 14] (fun u x i wr => ∃ (k : Nat) (zs : List ByteArray), k ≤ ts.length ∧ i = .int .i64 k ∧ x = .string ⟨(if k = 0 then [32] else [59, 32]).toArray⟩ ∧ zs.length = 3 + 2 * k ∧ Hid (wr.ownsRow w.heap.size 9 1 u zs.length (zs.map Value.string)) ∧ Hid (catL zs = frHead s ts k) ∧ Hid ((catL zs).length ≤ 100100 + k * 100000100) ∧ Hid (Below w.heap.size w wr)) (fun _ _ i _ => ts.length - (intOf i).toNat)
  case atStart => exact ⟨0, [⟨#[102, 114, 97, 109, 101, 32]⟩, s, ⟨#[58]⟩], Nat.zero_le _, rfl, rfl, rfl, HO, HF0, Lib.hid (by have := HLE.out; omega), HB2⟩
  case round =>
    obtain ⟨k, zs, hk, rfl, rfl, hzl, HOW, HCA, HLN, HB⟩ := hrel
    obtain ⟨ua, uc, rfl⟩ : ∃ a c, u4 = .slice a zs.length c := by
      rcases HOW.out.2 with ⟨hv, h0⟩ | ⟨g, cap, cur, hv, _⟩
      · exact ⟨none, 0, by rw [hv, h0]⟩
      · exact ⟨_, _, hv⟩
    have hge := HB.out.size
    obtain ⟨x0, hx0⟩ : ∃ x0 : ByteArray, (⟨(if k = 0 then [32] else [59, 32]).toArray⟩ : ByteArray) = x0 := ⟨_, rfl⟩
    rw [hx0]
    by_cases hkl : k < ts.length
    · have hkc : (k : Int) < (ts.length : Int) := by omega
      have hk0 : (0 : Int) ≤ (k : Int) := by omega
      obtain ⟨bb, off, rfl, hlt, hc⟩ := HX.out k hkl
      obtain ⟨u, hu, huk, hat⟩ := hc k hkl
      obtain ⟨d0, d1, d2, d3⟩ := hat.below HB.out
      have hbA : Below wr.heap.size wr (wr.alloc (.cells #[.int .i64 u.t.kind, .string u.t.name, .int .i64 u.t.n, .slice u.a u.t.args.length u.c] 26)) := (Below.refl _ _).alloc (Nat.le_refl _) _
      have hbB := below_next HB.out hbA
      have C := SH.out u _ hbB (by rw [hu]; exact List.getElem_mem hkl) (huk.below hbB)
      have hst := HST.out k hkl
      rw [← hu] at hst
      have hwt := HWT.out u.t (by rw [hu]; exact List.getElem_mem hkl)
      obtain ⟨z, hz⟩ : ∃ z, showT u.t = z := ⟨_, rfl⟩
      rw [hz] at C hst
      simp only [Tv.val] at C
      have hxl : x0.data.toList = (if k = 0 then [32] else [59, 32]) := by rw [← hx0]
      have hxs : x0.data.toList.length ≤ 2 := by rw [hxl]; split <;> simp
      have hcz : catL (zs ++ [x0, ⟨z.toArray⟩]) = frHead s ts (k + 1) := by
        rw [hst, ← hxl, ← HCA.out]; unfold catL; rw [List.flatMap_append]; simp
      have HCZ := Lib.hid hcz
      have HLZ := Lib.hid (fun (h : z.length + 4 ≤ wtT u.t) => (show (catL (zs ++ [x0, ⟨z.toArray⟩])).length ≤ 100100 + (k + 1) * 100000100 by
        have e : catL (zs ++ [x0, ⟨z.toArray⟩]) = catL zs ++ (x0.data.toList ++ z) := by unfold catL; rw [List.flatMap_append]; simp
        rw [e, List.length_append, List.length_append]; have := HLN.out; omega))
      have CC := Lib.hid C
      have HBB := Lib.hid hbB
      have HOB := Lib.hid (own_below HOW.out hbA)
      have HZL := Lib.hid hzl
      have hzb : zs.length ≤ 2003 := by omega
      clear hu huk hat hc hst hz hwt hxl hxs hcz C hbA hbB hx0 hzl
      go_wp2_with fail
      refine CC.out.mono ?_; rintro e w1 ⟨rfl, hl1, hb1⟩
      have HL1 := Lib.hid (HLZ.out hl1)
      have hb2 := below_next HBB.out hb1
      have hownA := (own_below HOB.out hb1).alloc (.cells #[.string x0, .string ⟨z.toArray⟩] 9)
      have hb3 := hb2.alloc hb2.size (.cells #[.string x0, .string ⟨z.toArray⟩] 9)
      have HB3 := Lib.hid hb3
      clear hl1 hb1 hb2 hb3
      go_wp2_with (at_builtin; refine wpList_append_own_at _ rfl _ _ 60 rfl w.heap.size 9 i0 (.string ⟨#[]⟩) 1 16 Tryd.underlying60 hi0 hz0 hz1 hz2 rfl (by decide) _ zs.length _ rfl hownA ⟨w1.heap.size, 0, none⟩ 2 2 [.string x0, .string ⟨z.toArray⟩] rfl rfl ?c1 ?c2 ?c3 ?c4 ?c5 ?_)
      case c1 => exact fun j u hj => by rw [addr_add]; exact (World.cell?_alloc_mark w1 #[.string x0, .string ⟨z.toArray⟩] 9 (0, 0) (0 + j)).trans (by rw [Nat.zero_add]; simpa using hj)
      case c2 => exact fun u hu => by simp at hu; rcases hu with rfl | rfl <;> rfl
      case c3 => unfold maxLen; omega
      case c4 => omega
      case c5 => exact HB3.out.size
      intro v' w5 hown' hgrow _ _
      have HO5 := Lib.hid (show w5.ownsRow w.heap.size 9 1 v' (zs ++ [x0, ⟨z.toArray⟩]).length ((zs ++ [x0, ⟨z.toArray⟩]).map Value.string) from by rw [List.length_append, List.map_append]; exact hown')
      have HB5 := Lib.hid (HB3.out.grown hgrow HB3.out.size (own_row_ge hownA))
      clear hown' hgrow hownA
      go_wp2_with fail
      go_roundw
      case rel => exact ⟨k + 1, zs ++ [x0, ⟨z.toArray⟩], by omega, by go_num, by rw [if_neg (by omega)], by rw [List.length_append]; have := HZL.out; simp; omega, HO5, HCZ, HL1, HB5⟩
      case measure => simp [intOf]; omega
    · clear hx0
      obtain rfl : k = ts.length := by omega
      obtain ⟨g, rfl, _, hzc, hpa⟩ := partsAt_own HOW.out (by intro e; rw [e] at hzl; simp at hzl; omega)
      have C := pline_pg B b g uc l zs wr (HPG.out wr HB.out) hpa hzc (by omega) (by have := HLN.out; omega) (by omega)
      rw [HCA.out, List.append_assoc, HFH.out] at C
      have CC := Lib.hid C
      clear C hpa hzc hzl
      go_wp2_with fail
      refine CC.out.mono ?_; rintro e w3 ⟨rfl, hp3, hk3⟩
      have H3 := Lib.hid (And.intro hp3 hk3)
      clear hp3 hk3
      go_wp2_with fail
      go_end0
      exact ⟨rfl, H3.out.1, (keepsP_in HB.out hB).trans H3.out.2⟩
end Go.Proofs.YtmpaljmkfnpcpaaDoor
