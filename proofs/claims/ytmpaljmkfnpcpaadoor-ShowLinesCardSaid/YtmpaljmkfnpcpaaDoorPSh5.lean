/-
  A place as a text, and lines of their own, by the program of layer 14: Place, Fun, Rule, Frame, Query.
-/
import Derived.Test.YtmpaljmkfnpcpaaDoorPSh4
import Derived.Test.YtmpaljmkfnpcpaaDoorNums
import Derived.Test.YtmpaljmkfnpcpaaDoorShelf
import Derived.Lib.Join
namespace Go.Proofs.YtmpaljmkfnpcpaaDoor
open Go.RowKit Go.Shelf

/-- The numbers of a place as texts. -/
def numS (ns : List Int) : List ByteArray := ns.map fun n => ⟨(Lib.itoa n).toArray⟩
theorem numS_join {ns : List Int} (h : ns ≠ []) : Lib.join ((numS ns).map (·.data.toList)) [46] = lnPlace ns := by
  cases ns with
  | nil => exact absurd rfl h
  | cons n r =>
    unfold numS
    rw [List.map_cons, List.map_cons, Lib.join_cons]
    unfold Lib.joinTail lnPlace
    simp [List.flatMap]
    rfl
theorem place_len (ns : List Int) (h : ∀ n ∈ ns, (Lib.itoa n).length ≤ 21) : (lnPlace ns).length ≤ 1 + ns.length * 22 := by
  cases ns with
  | nil => simp [lnPlace]
  | cons n r =>
    have h0 := h n (List.mem_cons_self ..)
    have h1 : ∀ r : List Int, (∀ x ∈ r, (Lib.itoa x).length ≤ 21) → (r.flatMap fun x => 46 :: Lib.itoa x).length ≤ r.length * 22 := by
      intro r
      induction r with
      | nil => intro _; simp
      | cons x r ih =>
        intro hx
        have a := hx x (List.mem_cons_self ..)
        have b := ih fun y hy => hx y (List.mem_cons_of_mem _ hy)
        rw [List.flatMap_cons, List.length_append, List.length_cons, List.length_cons]; omega
    have h2 := h1 r fun x hx => h x (List.mem_cons_of_mem _ hx)
    unfold lnPlace
    rw [List.length_append, List.length_cons]; omega

set_option maxRecDepth 100000 in
set_option maxHeartbeats 2000000 in
theorem pplace_any (v : Value) (ns : List Int) (w : World) (HPW : Pow w) (hv : Nums w v ns) (hn : ns.length ≤ 1000) :
    Calls Tryd.prog 15 #[v] w fun e w' => e = .returned (.string ⟨(lnPlace ns).toArray⟩) ∧ Below w.heap.size w w' := by
  obtain ⟨i0, hi0, hz0, hz1, hz2⟩ := info_parts strInfo
  obtain ⟨a, c, rfl, hlc, _, hbd, h⟩ := hv
  have D := Lib.hid (fun (n : Int) (W : World) (hm : n ∈ ns) (hb : Below w.heap.size w W) => pdigits_any n (hbd n hm).1 (hbd n hm).2 W (HPW.below hb))
  have HPL := Lib.hid (place_len ns fun n hm => Lib.itoa_length_le n (hbd n hm).1 (hbd n hm).2)
  by_cases h00 : ns = []
  · subst h00
    clear h hbd D HPL
    go_enter Tryd.func15, Tryd.ntmps15
    go_wp2_with fail
    go_ret
    exact ⟨rfl, Below.refl _ _⟩
  · obtain ⟨b, off, rfl, hlt, hat⟩ := h.resolve_left h00
    have hpos := List.length_pos_iff.2 h00
    have hq : ((ns.length : Int) == 0) = false := by rw [beq_eq_false_iff_ne]; omega
    have hqc : (ns.length : Int) ≤ (c : Int) := by omega
    have HAT := Lib.hid (show ∀ j (h : j < ns.length), w.cell? ⟨b, off + j, none⟩ = some (.int .i64 ns[j]) from fun j h => hat j _ (List.getElem?_eq_getElem h))
    have HJN := Lib.hid (numS_join h00)
    have HNE := Lib.hid (show numS ns ≠ [] by unfold numS; simpa using h00)
    have HTK := Lib.hid (fun (k : Nat) (hk : k < ns.length) => (show numS (ns.take (k + 1)) = numS (ns.take k) ++ [⟨(Lib.itoa ns[k]).toArray⟩] by unfold numS; rw [List.take_succ_eq_append_getElem hk, List.map_append]; rfl))
    clear hat h hbd h00 hpos HPW
    go_enter Tryd.func15, Tryd.ntmps15
    go_wp2_with fail
    go_loopw [3, 11] (fun u i wr => ∃ (k : Nat) (zs : List ByteArray), k ≤ ns.length ∧ i = .int .i64 k ∧ Hid (zs = numS (ns.take k)) ∧ zs.length ≤ 1000 ∧ Hid (wr.ownsRow w.heap.size 9 1 u zs.length (zs.map Value.string)) ∧ Below w.heap.size w wr) (fun _ i _ => ns.length - (intOf i).toNat)
    case atStart => exact ⟨0, [], Nat.zero_le _, rfl, Lib.hid (by rw [List.take_zero]; rfl), by simp, Lib.hid (World.ownsRow_nil _ _ _ _), Below.refl _ _⟩
    case round =>
      obtain ⟨k, zs, hk, rfl, HZ, hzl, HOW, hb⟩ := hrel
      obtain ⟨ua, uc, rfl⟩ : ∃ a c, u3 = .slice a zs.length c := by
        rcases HOW.out.2 with ⟨hv, h0⟩ | ⟨g, cap, cur, hv, _⟩
        · exact ⟨none, 0, by rw [hv, h0]⟩
        · exact ⟨_, _, hv⟩
      have HB := Lib.hid hb
      by_cases hkl : k < ns.length
      · have hkc : (k : Int) < (ns.length : Int) := by omega
        have hk0 : (0 : Int) ≤ (k : Int) := by omega
        have d0 := (hb.cell (p := ⟨b, off + k, none⟩) hlt).trans (HAT.out k hkl)
        have C := D.out ns[k] wr (List.getElem_mem hkl) hb
        have htk := HTK.out k hkl
        obtain ⟨n, hn2⟩ : ∃ n, ns[k] = n := ⟨_, rfl⟩
        rw [hn2] at d0 C htk
        obtain ⟨z, hz⟩ : ∃ z : ByteArray, (⟨(Lib.itoa n).toArray⟩ : ByteArray) = z := ⟨_, rfl⟩
        rw [hz] at C htk
        have HT := Lib.hid (show zs ++ [z] = numS (ns.take (k + 1)) by rw [htk, HZ.out])
        have HL2 := Lib.hid (show (zs ++ [z]).length ≤ 1000 by rw [HT.out]; unfold numS; rw [List.length_map, List.length_take]; omega)
        have CC := Lib.hid C
        clear C htk hz hn2 hb
        go_wp2_with fail
        refine CC.out.mono ?_; rintro e w1 ⟨rfl, hb1⟩
        have hb2 := below_next HB.out hb1
        have hownA := (own_below HOW.out hb1).alloc (.cells #[.string z] 9)
        have hb3 := hb2.alloc hb2.size (.cells #[.string z] 9)
        have HB3 := Lib.hid hb3
        clear hb1 hb2 hb3
        go_wp2_with (at_builtin; refine wpList_append_own_at _ rfl _ _ 60 rfl w.heap.size 9 i0 (.string ⟨#[]⟩) 1 16 Tryd.underlying60 hi0 hz0 hz1 hz2 rfl (by decide) _ zs.length _ rfl hownA ⟨w1.heap.size, 0, none⟩ 1 1 [.string z] rfl rfl ?c1 ?c2 ?c3 ?c4 ?c5 ?_)
        case c1 => exact cell_one_new _ _ _
        case c2 => exact fun u hu => by simp at hu; rw [hu]; rfl
        case c3 => unfold maxLen; omega
        case c4 => omega
        case c5 => exact HB3.out.size
        intro v' w5 hown' hgrow _ _
        have HO5 := Lib.hid (show w5.ownsRow w.heap.size 9 1 v' (zs ++ [z]).length ((zs ++ [z]).map Value.string) from by rw [List.length_append, List.map_append]; exact hown')
        have HB5 := Lib.hid (HB3.out.grown hgrow HB3.out.size (own_row_ge hownA))
        clear hown' hgrow hownA
        go_wp2_with fail
        go_roundw
        case rel => exact ⟨k + 1, zs ++ [z], by omega, by go_num, HT, HL2.out, HO5, HB5.out⟩
        case measure => simp [intOf]; omega
      · obtain rfl : k = ns.length := by omega
        have hzz : zs = numS ns := by rw [HZ.out, List.take_length]
        rcases own_cells HOW.out with ⟨_, h0⟩ | ⟨g, cap, hv, hg, hcap, hcell⟩
        · exact absurd (h0 ▸ hzz).symm HNE.out
        · injection hv with e1 _ e3
          subst e1 e3
          have J := Tryd.strings_Join g 0 uc zs ⟨#[46]⟩ wr hcell hg (by omega) hcap (by rw [hzz]; show (Lib.join _ [46]).length ≤ _; rw [HJN.out]; have := HPL.out; omega)
          have he : Lib.join (zs.map (·.data.toList)) (⟨#[46]⟩ : ByteArray).data.toList = lnPlace ns := by rw [hzz]; exact HJN.out
          rw [he] at J
          have JJ := Lib.hid J
          clear J he hzz hcell hcap hb
          go_wp2_with fail
          refine JJ.out.mono ?_; rintro e w7 ⟨rfl, hb7⟩
          go_wp2_with fail
          go_ret
          exact ⟨rfl, below_next HB.out hb7⟩

/-- A page laid behind a box. -/
theorem page_new (w : World) (o : Obj) : Pg (w.heap.size + 1) (w.heap.size + 1) [] ((w.alloc o).alloc (.cells #[.pointer none, .slice none 0 0] 51)) := by
  have h := Lib.fresh_isBuilder 51 5 (w.alloc o)
  rw [show (w.alloc o).heap.size = w.heap.size + 1 from by simp] at h
  exact h
theorem page_nil (w : World) (o : Obj) : ((w.alloc o).alloc (.cells #[.pointer none, .slice none 0 0] 51)).heap[w.heap.size + 1]? = some (.cells #[.pointer none, .slice none 0 0] 51 (0, 0)) := by
  have h := heap_alloc_new (w.alloc o) (.cells #[.pointer none, .slice none 0 0] 51)
  rw [show (w.alloc o).heap.size = w.heap.size + 1 from by simp] at h
  exact h
theorem page_below (w : World) (o : Obj) : Below w.heap.size w ((w.alloc o).alloc (.cells #[.pointer none, .slice none 0 0] 51)) := ((Below.refl _ _).alloc (Nat.le_refl _) _).alloc (by simp) _

set_option maxRecDepth 100000 in
set_option maxHeartbeats 2000000 in
theorem psh_fun (f : Fn) (w : World) (HPW : Pow w) (hf : FnOk f) (hs : f.1.size ≤ 100000) :
    Calls Tryd.prog 7 #[fnVal f] w fun e w' => e = .returned (.string ⟨(lnFun f.1 f.2).toArray⟩) ∧ Below w.heap.size w w' := by
  have hb := page_below w (.cells #[.string f.1, .int .i64 f.2] 23)
  have C := Lib.hid (pgfun_any (w.heap.size + 1) (w.heap.size + 1) [] f _ (HPW.below hb) (page_new w _) (by simp) hf hs (by simp))
  have HB := Lib.hid hb
  have HNE := Lib.hid (show lnFun f.1 f.2 ≠ [] by unfold lnFun; simp)
  clear hb HPW hf hs
  obtain ⟨s, n⟩ := f
  unfold fnVal at C ⊢
  simp only at C HB HNE ⊢
  rw [List.nil_append] at C
  go_enter Tryd.func7, Tryd.ntmps7
  go_wp2_with fail
  refine C.out.mono ?_; rintro e w1 ⟨rfl, hp1, hk1⟩
  have S := Lib.hid (pg_string _ _ _ _ hp1 HNE.out)
  have HK := Lib.hid (HB.out.trans (hk1.below.mono (by omega)))
  clear hp1 hk1
  go_wp2_with fail
  refine S.out.mono ?_; rintro e w2 ⟨rfl, hb2⟩
  go_wp2_with fail
  go_ret
  exact ⟨rfl, HK.out.trans (hb2.mono (by omega))⟩
set_option maxRecDepth 100000 in
set_option maxHeartbeats 2000000 in
theorem psh_rule (y : Qv) (w : World) (HPW : Pow w) (hy : y.ok w) (h1 : wtT y.l.t ≤ 100000000) (h2 : wtT y.r.t ≤ 100000000) :
    Calls Tryd.prog 9 #[y.val] w fun e w' => e = .returned (.string ⟨(lnRule y.l.t y.r.t).toArray⟩) ∧ Below w.heap.size w w' := by
  have hb := page_below w (.cells #[.int .i64 y.l.t.kind, .string y.l.t.name, .int .i64 y.l.t.n, .slice y.l.a y.l.t.args.length y.l.c, .int .i64 y.r.t.kind, .string y.r.t.name, .int .i64 y.r.t.n, .slice y.r.a y.r.t.args.length y.r.c] 28)
  have C := Lib.hid (pgrule_any (w.heap.size + 1) (w.heap.size + 1) [] y _ (HPW.below hb) (page_new w _) (by simp) (hy.below hb) h1 h2 (by simp))
  have HB := Lib.hid hb
  have HNE := Lib.hid (show lnRule y.l.t y.r.t ≠ [] by unfold lnRule; simp)
  clear hb HPW hy h1 h2
  obtain ⟨⟨xt, xa, xc⟩, ⟨yt, ya, yc⟩⟩ := y
  unfold Qv.val at C ⊢
  simp only at C HB HNE ⊢
  rw [List.nil_append] at C
  go_enter Tryd.func9, Tryd.ntmps9
  go_wp2_with fail
  refine C.out.mono ?_; rintro e w1 ⟨rfl, hp1, hk1⟩
  have S := Lib.hid (pg_string _ _ _ _ hp1 HNE.out)
  have HK := Lib.hid (HB.out.trans (hk1.below.mono (by omega)))
  clear hp1 hk1
  go_wp2_with fail
  refine S.out.mono ?_; rintro e w2 ⟨rfl, hb2⟩
  go_wp2_with fail
  go_ret
  exact ⟨rfl, HK.out.trans (hb2.mono (by omega))⟩
set_option maxRecDepth 100000 in
set_option maxHeartbeats 2000000 in
theorem psh_frame (y : Fw) (w : World) (HPW : Pow w) (hy : y.ok w) (hp : ∀ t ∈ y.ts, wtT t ≤ 100000000) (hs : y.name.size ≤ 100000) (hn : y.ts.length ≤ 1000) :
    Calls Tryd.prog 11 #[y.val] w fun e w' => e = .returned (.string ⟨(lnFrame y.name y.ts).toArray⟩) ∧ Below w.heap.size w w' := by
  have hb := page_below w (.cells #[.string y.name, y.v] 30)
  have C := Lib.hid (pgframe_any (w.heap.size + 1) (w.heap.size + 1) [] y _ (HPW.below hb) (page_new w _) (by simp) (hy.below hb) hp hs hn (by simp))
  have HB := Lib.hid hb
  have HNE := Lib.hid (show lnFrame y.name y.ts ≠ [] by unfold lnFrame; simp)
  obtain ⟨a, c, hv, _⟩ := hy.2
  clear hb HPW hy hs hn hp
  obtain ⟨s, v, ts⟩ := y
  simp only at hv
  subst hv
  unfold Fw.val at C ⊢
  simp only at C HB HNE ⊢
  rw [List.nil_append] at C
  go_enter Tryd.func11, Tryd.ntmps11
  go_wp2_with fail
  refine C.out.mono ?_; rintro e w1 ⟨rfl, hp1, hk1⟩
  have S := Lib.hid (pg_string _ _ _ _ hp1 HNE.out)
  have HK := Lib.hid (HB.out.trans (hk1.below.mono (by omega)))
  clear hp1 hk1
  go_wp2_with fail
  refine S.out.mono ?_; rintro e w2 ⟨rfl, hb2⟩
  go_wp2_with fail
  go_ret
  exact ⟨rfl, HK.out.trans (hb2.mono (by omega))⟩
set_option maxRecDepth 100000 in
set_option maxHeartbeats 2000000 in
theorem psh_query (y : Kw) (w : World) (HPW : Pow w) (hy : y.ok w) (h1 : wtT y.t.t ≤ 100000000) (hll : y.left.size ≤ 100000) (hlr : y.right.size ≤ 100000) :
    Calls Tryd.prog 13 #[y.val] w fun e w' => e = .returned (.string ⟨(lnAsk y.kind y.left y.right y.t.t).toArray⟩) ∧ Below w.heap.size w w' := by
  have hb := page_below w (.cells #[.int .i64 y.kind, .string y.left, .string y.right, .int .i64 y.t.t.kind, .string y.t.t.name, .int .i64 y.t.t.n, .slice y.t.a y.t.t.args.length y.t.c] 32)
  have C := Lib.hid (pgquery_any (w.heap.size + 1) (w.heap.size + 1) [] y _ (HPW.below hb) (page_new w _) (by simp) (hy.below hb) h1 hll hlr (by simp))
  have HB := Lib.hid hb
  have HN := Lib.hid (page_nil w (.cells #[.int .i64 y.kind, .string y.left, .string y.right, .int .i64 y.t.t.kind, .string y.t.t.name, .int .i64 y.t.t.n, .slice y.t.a y.t.t.args.length y.t.c] 32))
  clear hb HPW hy h1 hll hlr
  obtain ⟨k, l, r, ⟨yt, ya, yc⟩⟩ := y
  unfold Kw.val at C ⊢
  simp only at C HB HN ⊢
  rw [List.nil_append] at C
  obtain ⟨z, hz⟩ : ∃ z, lnAsk k l r yt = z := ⟨_, rfl⟩
  rw [hz] at C ⊢
  clear hz
  go_enter Tryd.func13, Tryd.ntmps13
  go_wp2_with fail
  refine C.out.mono ?_; rintro e w1 ⟨rfl, hp1, hk1, hb1⟩
  have HK := Lib.hid (HB.out.trans (hk1.below.mono (by omega)))
  cases z with
  | nil =>
    have hb9 := hb1 rfl
    have hh := (hb9.block (w.heap.size + 1) (Array.getElem?_eq_some_iff.1 HN.out).1).trans HN.out
    have hge := HK.out.size
    have S := Lib.hid (pg_string_nil _ _ _ hh)
    clear hp1 hk1 hb1 hb9 hh
    go_wp2_with fail
    refine S.out.mono ?_; rintro e w2 ⟨rfl, hb2⟩
    go_wp2_with fail
    go_ret
    exact ⟨rfl, below_next HK.out hb2⟩
  | cons x z =>
    have S := Lib.hid (pg_string _ _ _ _ hp1 (by simp))
    clear hp1 hk1 hb1
    go_wp2_with fail
    refine S.out.mono ?_; rintro e w2 ⟨rfl, hb2⟩
    go_wp2_with fail
    go_ret
    exact ⟨rfl, HK.out.trans (hb2.mono (by omega))⟩
end Go.Proofs.YtmpaljmkfnpcpaaDoor
