/-
  Rows of binds in memory: each a name and a term. No function of the program.
  What a name stands for, by the reference of layer 5: Get.
  Binds put into terms, as data, and what a call of Apply leaves. No function of the program.
  Terms that are made: Of, Var, Fun of the reference of layer 3.
-/
import Derived.Test.YtedljdcliilggaaU02
import Derived.Test.YtedljdcliilggaaU01
namespace Go.Proofs.Ytedljdcliilggaa
open Go.RowKit

/-- A bind: its name, and what it has. -/
abbrev Bn := ByteArray × Tm
/-- A bind lies at an address: five cells. -/
def BdAt (w : World) (x : Bn) (b o : Nat) : Prop := x.1.size ≤ 9223372036854775807 ∧ w.cell? ⟨b, o, none⟩ = some (.string x.1) ∧ TmAt w x.2 b (o + 1)
/-- A slice value that reads as a row of binds. -/
def Bds (w : World) (v : Value) (bs : List Bn) : Prop := ∃ a c, v = .slice a bs.length c ∧ (bs.length ≤ 9223372036854775807 ∧ bs.length ≤ c) ∧ (bs = [] ∨ ∃ b o, a = some ⟨b, o, none⟩ ∧ b < w.heap.size ∧ ∀ (j : Nat) x, bs[j]? = some x → BdAt w x b (o + j * 5))
theorem BdAt.below {w w' : World} {x : Bn} {b o : Nat} (h : BdAt w x b o) (hb : Below w.heap.size w w') : BdAt w' x b o :=
  ⟨h.1, (hb.cell (p := ⟨b, o, none⟩) (lt_of_cell h.2.1)).trans h.2.1, h.2.2.below hb⟩
theorem Bds.below {w w' : World} {v : Value} {bs : List Bn} (h : Bds w v bs) (hb : Below w.heap.size w w') : Bds w' v bs := by
  obtain ⟨a, c, hv, hl, h⟩ := h
  refine ⟨a, c, hv, hl, ?_⟩
  rcases h with h | ⟨b, o, ha, hlt, h⟩
  · exact .inl h
  · exact .inr ⟨b, o, ha, Nat.lt_of_lt_of_le hlt hb.size, fun j x hj => (h j x hj).below hb⟩
theorem Bds.none_ (w : World) (a : Option Addr) (c : Nat) : Bds w (.slice a 0 c) [] := ⟨a, c, rfl, by simp, .inl rfl⟩
/-- A bind as values. -/
structure Bv where
  s : ByteArray
  v : Tv
def Bv.cells (x : Bv) : List Value := [.string x.s, .int .i64 x.v.t.kind, .string x.v.t.name, .int .i64 x.v.t.n, .slice x.v.a x.v.t.args.length x.v.c]
def Bv.val (x : Bv) : Value := .agg #[.string x.s, .int .i64 x.v.t.kind, .string x.v.t.name, .int .i64 x.v.t.n, .slice x.v.a x.v.t.args.length x.v.c]
def Bv.bn (x : Bv) : Bn := (x.s, x.v.t)
structure BvAt (w : World) (b o : Nat) (x : Bv) : Prop where
  c0 : w.cell? ⟨b, o, none⟩ = some (.string x.s)
  c1 : w.cell? ⟨b, o + 1, none⟩ = some (.int .i64 x.v.t.kind)
  c2 : w.cell? ⟨b, o + 2, none⟩ = some (.string x.v.t.name)
  c3 : w.cell? ⟨b, o + 3, none⟩ = some (.int .i64 x.v.t.n)
  c4 : w.cell? ⟨b, o + 4, none⟩ = some (.slice x.v.a x.v.t.args.length x.v.c)
theorem bdAt_bv {w : World} {x : Bn} {b o : Nat} (h : BdAt w x b o) : ∃ y : Bv, y.bn = x ∧ y.v.ok w ∧ BvAt w b o y := by
  obtain ⟨v, hv, hk, h0, h1, h2, h3⟩ := tmAt_tv h.2.2
  exact ⟨⟨x.1, v⟩, by unfold Bv.bn; rw [hv], hk, h.2.1, h0, h1, h2, h3⟩
theorem bv_bdAt {w : World} {y : Bv} {b o : Nat} (hs : y.s.size ≤ 9223372036854775807) (hk : y.v.ok w) (h : BvAt w b o y) : BdAt w y.bn b o :=
  ⟨hs, h.c0, tv_tmAt hk ⟨h.c1, h.c2, h.c3, h.c4⟩⟩
theorem BvAt.below {w w' : World} {b o : Nat} {x : Bv} (h : BvAt w b o x) (hb : Below w.heap.size w w') : BvAt w' b o x :=
  have hlt := lt_of_cell h.c0
  ⟨(hb.cell (p := ⟨b, o, none⟩) hlt).trans h.c0, (hb.cell (p := ⟨b, o + 1, none⟩) hlt).trans h.c1, (hb.cell (p := ⟨b, o + 2, none⟩) hlt).trans h.c2, (hb.cell (p := ⟨b, o + 3, none⟩) hlt).trans h.c3, (hb.cell (p := ⟨b, o + 4, none⟩) hlt).trans h.c4⟩
def rowBv (ss : List Bv) : List Value := ss.flatMap Bv.cells
theorem rowBv_length (vs : List Bv) : (rowBv vs).length = vs.length * 5 := by
  unfold rowBv
  induction vs with
  | nil => rfl
  | cons v r ih => rw [List.flatMap_cons, List.length_append, ih, List.length_cons]; simp [Bv.cells]; omega
theorem rowBv_append (a b : List Bv) : rowBv (a ++ b) = rowBv a ++ rowBv b := by unfold rowBv; rw [List.flatMap_append]
theorem rowBv_one (v : Bv) : rowBv [v] = v.cells := by unfold rowBv; simp
theorem rowBv_get : ∀ (vs : List Bv) (j : Nat) (h : j < vs.length) (i : Nat), i < 5 → (rowBv vs)[j * 5 + i]? = vs[j].cells[i]?
  | [], _, h, _, _ => by simp at h
  | v :: r, 0, _, i, hi => by
    unfold rowBv
    rw [List.flatMap_cons, List.getElem?_append_left (by simp [Bv.cells]; omega)]; simp
  | v :: r, j + 1, h, i, hi => by
    have := rowBv_get r j (by simpa using h) i hi
    unfold rowBv at this ⊢
    rw [List.flatMap_cons, List.getElem?_append_right (by simp [Bv.cells]; omega)]
    rw [show (j + 1) * 5 + i - v.cells.length = j * 5 + i from by simp [Bv.cells]; omega, this]
    simp
theorem rowBv_one' (vs : List Bv) : ∀ u ∈ rowBv vs, u.oneCell' = true := by
  intro u hu
  unfold rowBv at hu
  obtain ⟨v, _, hv⟩ := List.mem_flatMap.1 hu
  simp only [Bv.cells, List.mem_cons, List.not_mem_nil, or_false] at hv
  rcases hv with rfl | rfl | rfl | rfl | rfl <;> rfl
/-- A row of binds that the call itself has made. -/
def OwnBv (w0 w : World) (base : Nat) (v : Value) (bs : List Bn) : Prop :=
  ∃ vs : List Bv, vs.map Bv.bn = bs ∧ (∀ x ∈ vs, x.v.ok w0 ∧ x.s.size ≤ 9223372036854775807) ∧ w.ownsRow base 41 5 v bs.length (rowBv vs)
theorem OwnBv.bds {w0 w : World} {base : Nat} {v : Value} {bs : List Bn} (h : OwnBv w0 w base v bs) (hb : Below w0.heap.size w0 w) (hl : bs.length ≤ 9223372036854775807) : Bds w v bs := by
  obtain ⟨vs, rfl, hok, hn, h⟩ := h
  rcases h with ⟨rfl, h0⟩ | ⟨g, cap, cur, rfl, _, hg, hcap, hmax, hsz, htake⟩
  · have : vs = [] := by simpa using h0
    subst this
    exact Bds.none_ _ _ _
  · refine ⟨_, cap, rfl, ⟨hl, hcap⟩, .inr ⟨g, 0, rfl, (Array.getElem?_eq_some_iff.1 hg).1, fun j x hj => ?_⟩⟩
    rw [List.getElem?_map] at hj
    have hjv : j < vs.length := by
      rcases Nat.lt_or_ge j vs.length with h | h
      · exact h
      · rw [List.getElem?_eq_none h] at hj; cases hj
    rw [List.getElem?_eq_getElem hjv] at hj
    injection hj with hj
    subst hj
    have cell : ∀ i, i < 5 → w.cell? ⟨g, 0 + j * 5 + i, none⟩ = vs[j].cells[i]? := by
      intro i hi
      rw [cell_of_row w g (0 + j * 5 + i) cur _ (0, 0) hg, ← rowBv_get vs j hjv i hi, ← htake, List.getElem?_take, if_pos (by simp; omega), Nat.zero_add]
      simp
    obtain ⟨hk, hs⟩ := hok _ (List.getElem_mem hjv)
    exact bv_bdAt hs (hk.below hb) ⟨cell 0 (by omega), cell 1 (by omega), cell 2 (by omega), cell 3 (by omega), cell 4 (by omega)⟩
/-- What the first bind of a name has. -/
def getB (bs : List Bn) (s : ByteArray) : Option Tm := (bs.find? fun x => x.1.toList == s.toList).map Prod.snd
theorem getB_nil (s : ByteArray) : getB [] s = none := rfl
theorem getB_take {bs : List Bn} {s : ByteArray} {k : Nat} {x : Bn} (h : getB (bs.take k) s = none) (hk : bs[k]? = some x) : getB (bs.take (k + 1)) s = if (x.1.toList == s.toList) = true then some x.2 else none := by
  obtain ⟨hl, rfl⟩ := List.getElem?_eq_some_iff.1 hk
  unfold getB at h ⊢
  rw [Option.map_eq_none_iff] at h
  rw [List.take_succ_eq_append_getElem hl, List.find?_append, h, List.find?_cons]
  cases bs[k].1.toList == s.toList <;> rfl
theorem getB_some {bs : List Bn} {s : ByteArray} {k : Nat} {t : Tm} (h : getB (bs.take k) s = some t) : getB bs s = some t := by
  unfold getB at h ⊢
  obtain ⟨x, hx, rfl⟩ := Option.map_eq_some_iff.1 h
  have e : bs.find? (fun x => x.1.toList == s.toList) = some x := by
    rw [← List.take_append_drop k bs, List.find?_append, hx]; rfl
  rw [e]; rfl
end Go.Proofs.Ytedljdcliilggaa

namespace Go.Proofs.Ytedljdcliilggaa
open Go.RowKit

/-- A slice value that reads as a row of binds in a world, whose terms lie in an elder one. -/
def BdsOk (w0 wv : World) (v : Value) (bs : List Bn) : Prop := ∃ a c, v = .slice a bs.length c ∧ bs.length ≤ 9223372036854775807 ∧ (bs = [] ∨ ∃ b o, a = some ⟨b, o, none⟩ ∧ b < wv.heap.size ∧ ∀ (j : Nat) x, bs[j]? = some x → ∃ y : Bv, y.bn = x ∧ y.v.ok w0 ∧ y.s.size ≤ 9223372036854775807 ∧ BvAt wv b (o + j * 5) y)
theorem Bds.toOk {w0 : World} {v : Value} {bs : List Bn} (h : Bds w0 v bs) : BdsOk w0 w0 v bs := by
  obtain ⟨a, c, hv, hl, h⟩ := h
  refine ⟨a, c, hv, hl.1, ?_⟩
  rcases h with h | ⟨b, o, ha, hlt, h⟩
  · exact .inl h
  · refine .inr ⟨b, o, ha, hlt, fun j x hj => ?_⟩
    obtain ⟨y, h1, h2, h3⟩ := bdAt_bv (h j x hj)
    exact ⟨y, h1, h2, by have := (h j x hj).1; rw [← h1] at this; exact this, h3⟩

set_option maxRecDepth 100000 in
set_option maxHeartbeats 4000000 in
theorem rget_ok (v : Value) (bs : List Bn) (s : ByteArray) (w0 wv w : World) (hv : BdsOk w0 wv v bs) (hb0 : Below wv.heap.size wv w) :
    Calls Try.prog 31 #[v, .string s] w (AtPost (getB bs s) w0 w) := by
  obtain ⟨a, c, rfl, hlm, hrow⟩ := hv
  have hw : Below w.heap.size w (w.alloc (.cells #[.int .i64 0, .string ⟨#[]⟩, .int .i64 0, .slice none 0 0] 24)) := (Below.refl _ _).alloc (Nat.le_refl _) _
  have bR := box_new w (.int .i64 0) (.string ⟨#[]⟩) (.int .i64 0) (.slice none 0 0) 24
  have HB := Lib.hid hb0
  have HR := Lib.hid hrow
  clear hb0 hrow
  go_enter Try.func31, Try.ntmps31
  go_wp2_with fail
  go_loopw [10] (fun i wr => ∃ k : Nat, k ≤ bs.length ∧ i = .int .i64 k ∧ Hid (getB (bs.take k) s = none) ∧ Below w.heap.size w wr ∧ w.heap.size + 1 ≤ wr.heap.size ∧ Hid (Box wr w.heap.size (.int .i64 0) (.string ⟨#[]⟩) (.int .i64 0) (.slice none 0 0))) (fun i _ => bs.length - (intOf i).toNat)
  case atStart => exact ⟨0, Nat.zero_le _, rfl, Lib.hid (by rw [List.take_zero]; rfl), hw, by simp, Lib.hid bR⟩
  case round =>
    obtain ⟨k, hk, rfl, HN, hb, hsz, HBR⟩ := hrel
    clear bR hw
    by_cases hkl : k < bs.length
    · obtain ⟨b, o, rfl, hlt, hat⟩ := HR.out.resolve_left (by intro h; rw [h] at hkl; simp at hkl)
      obtain ⟨x, hx⟩ : ∃ x, bs[k]? = some x := ⟨_, List.getElem?_eq_getElem hkl⟩
      obtain ⟨y, hyx, hyo, _, hy⟩ := hat k x hx
      have hb0r := HB.out.trans (hb.mono HB.out.size)
      obtain ⟨m0, m1, m2, m3, m4⟩ : BvAt wr b (o + k * 5) y := ⟨(hb0r.cell (p := ⟨b, o + k * 5, none⟩) hlt).trans hy.c0, (hb0r.cell (p := ⟨b, o + k * 5 + 1, none⟩) hlt).trans hy.c1, (hb0r.cell (p := ⟨b, o + k * 5 + 2, none⟩) hlt).trans hy.c2, (hb0r.cell (p := ⟨b, o + k * 5 + 3, none⟩) hlt).trans hy.c3, (hb0r.cell (p := ⟨b, o + k * 5 + 4, none⟩) hlt).trans hy.c4⟩
      have hstep := getB_take HN.out hx
      have hL : Below wr.heap.size wr (wr.alloc (.cells #[.string y.s, .int .i64 y.v.t.kind, .string y.v.t.name, .int .i64 y.v.t.n, .slice y.v.a y.v.t.args.length y.v.c] 41)) := (Below.refl _ _).alloc (Nat.le_refl _) _
      have hbL := hb.trans (hL.mono hb.size)
      have hr := HBR.out.below hL (by omega)
      have hzL : (wr.alloc (.cells #[.string y.s, .int .i64 y.v.t.kind, .string y.v.t.name, .int .i64 y.v.t.n, .slice y.v.a y.v.t.args.length y.v.c] 41)).heap.size = wr.heap.size + 1 := by simp
      obtain ⟨ys, ⟨yt, ya, yc⟩⟩ := y
      obtain rfl : (ys, yt) = x := hyx
      have HST := Lib.hid hstep
      have HYO := Lib.hid hyo
      have HBL := Lib.hid hbL
      have HRR := Lib.hid hr
      have hk0 : (0 : Int) ≤ (k : Int) := by omega
      have hk1 : (k : Int) < (bs.length : Int) := by omega
      simp only at m0 m1 m2 m3 m4
      clear hstep hyo hy hat hx hbL hr
      cases he : (ys.toList == s.toList) with
      | true =>
        have hg : getB bs s = some yt := getB_some (k := k + 1) (by rw [HST.out, if_pos he])
        have HG := Lib.hid hg
        have HB2 := Lib.hid (HRR.out.sets (.int .i64 yt.kind) (.string yt.name) (.int .i64 yt.n) (.slice ya yt.args.length yc))
        obtain ⟨q0, q1, q2, q3, f0, f1, f2, f3⟩ := HRR.out
        clear hg
        go_wp2_with fail
        obtain ⟨q0, q1, q2, q3, f0, f1, f2, f3⟩ := HB2.out
        refine bodyPost_ret (v := .tuple #[.agg #[.int .i64 yt.kind, .string yt.name, .int .i64 yt.n, .slice ya yt.args.length yc], .bool true]) (by simp [results, Try.results31, go_sem, q0, q1, q2, q3]) rfl ?_
        rw [HG.out]
        exact ⟨⟨yt, ya, yc⟩, rfl, rfl, HYO.out, below_sets HBL.out (Nat.le_refl _) _ _ _ _⟩
      | false =>
        have HNN := Lib.hid (show getB (bs.take (k + 1)) s = none by rw [HST.out, if_neg (by rw [he]; simp)])
        go_wp2_with fail
        go_roundw
        case rel => exact ⟨k + 1, by omega, by go_num, HNN, HBL.out, by rw [hzL]; omega, HRR⟩
        case measure => simp [intOf]; omega
    · have hke : k = bs.length := by omega
      have hkd : decide ((k : Int) < (bs.length : Int)) = false := decide_eq_false (by omega)
      have hkl1 : bs.length ≤ k := by omega
      have HG := Lib.hid (show getB bs s = none by have h := HN.out; rw [hke, List.take_length] at h; exact h)
      have HB2 := Lib.hid (HBR.out.sets (.int .i64 0) (.string ⟨#[]⟩) (.int .i64 0) (.slice none 0 0))
      have HBE := Lib.hid hb
      obtain ⟨q0, q1, q2, q3, f0, f1, f2, f3⟩ := HBR.out
      clear hke hb
      go_wp2_with fail
      obtain ⟨q0, q1, q2, q3, f0, f1, f2, f3⟩ := HB2.out
      refine bodyPost_ret (v := .tuple #[.agg #[.int .i64 0, .string ⟨#[]⟩, .int .i64 0, .slice none 0 0], .bool false]) (by simp [results, Try.results31, go_sem, q0, q1, q2, q3]) rfl ?_
      rw [HG.out]
      exact ⟨zeroV, rfl, rfl, zeroV_ok _, below_sets HBE.out (Nat.le_refl _) _ _ _ _⟩
theorem rget_any (v : Value) (bs : List Bn) (s : ByteArray) (w0 w : World) (hv : Bds w0 v bs) (hb0 : Below w0.heap.size w0 w) :
    Calls Try.prog 31 #[v, .string s] w (AtPost (getB bs s) w0 w) := rget_ok v bs s w0 w0 w hv.toOk hb0
end Go.Proofs.Ytedljdcliilggaa

namespace Go.Proofs.Ytedljdcliilggaa
open Go.RowKit

mutual
/-- A term with what its variables stand for. -/
def appT (bs : List Bn) : Tm → Tm
  | .mk k s n xs => if k = 1 then (match getB bs s with | some t => t | none => .mk k s n (appL bs xs)) else .mk k s n (appL bs xs)
def appL (bs : List Bn) : List Tm → List Tm
  | [] => []
  | t :: r => appT bs t :: appL bs r
end
theorem appL_map (bs : List Bn) : ∀ l : List Tm, appL bs l = l.map (appT bs)
  | [] => by rw [appL]; rfl
  | t :: r => by rw [appL, appL_map bs r]; rfl
theorem appT_eq (bs : List Bn) (t : Tm) : appT bs t = if t.kind = 1 then (match getB bs t.name with | some u => u | none => .mk t.kind t.name t.n (t.args.map (appT bs))) else .mk t.kind t.name t.n (t.args.map (appT bs)) := by
  cases t; rw [appT, appL_map]; rfl
theorem map_take_succ (bs : List Bn) {l : List Tm} {k : Nat} (h : k < l.length) : (l.take (k + 1)).map (appT bs) = (l.take k).map (appT bs) ++ [appT bs l[k]] := by
  rw [List.take_succ_eq_append_getElem h, List.map_append]; rfl
/-- What a call of Apply leaves. -/
def ApPost (u : Tm) (w0 w : World) (e : Ending) (w' : World) : Prop := ∃ z : Tv, e = .returned z.val ∧ z.t = u ∧ Fresh w0 w w' z ∧ Below w.heap.size w w'
end Go.Proofs.Ytedljdcliilggaa

namespace Go.Proofs.Ytedljdcliilggaa
open Go.RowKit

set_option maxHeartbeats 400000 in
theorem of_any (k : Int) (s : ByteArray) (n : Int) (a : Option Addr) (l c : Nat) (w : World) :
    Calls Try.prog 32 #[.int .i64 k, .string s, .int .i64 n, .slice a l c] w fun e w' => e = .returned (.agg #[.int .i64 k, .string s, .int .i64 n, .slice a l c]) ∧ Below w.heap.size w w' := by
  go_enter Try.func32, Try.ntmps32
  go_wp2_with fail
  exact bodyPost_ret (v := .agg #[.int .i64 k, .string s, .int .i64 n, .slice a l c]) (by simp [results, Try.results32, go_sem]) rfl ⟨rfl, (Below.refl _ _).alloc (Nat.le_refl _) _⟩
set_option maxHeartbeats 400000 in
theorem rvar_any (s : ByteArray) (w : World) :
    Calls Try.prog 20 #[.string s] w fun e w' => e = .returned (.agg #[.int .i64 1, .string s, .int .i64 0, .slice none 0 0]) ∧ Below w.heap.size w w' := by
  have O := Lib.hid (fun w => of_any 1 s 0 none 0 0 w)
  go_enter Try.func20, Try.ntmps20
  go_wp2_with fail
  refine (O.out _).mono ?_; rintro e w1 ⟨rfl, hb⟩
  obtain ⟨c0, c1, c2, c3, f0, f1, f2, f3⟩ := (box_new w (.int .i64 0) (.string ⟨#[]⟩) (.int .i64 0) (.slice none 0 0) 24).below hb (by simp)
  replace hb := below_box hb
  go_wp2_with fail
  exact bodyPost_ret (v := .agg #[.int .i64 1, .string s, .int .i64 0, .slice none 0 0]) (by simp [results, Try.results20, go_sem, c0, c1, c2, c3]) rfl ⟨rfl, (((hb.setCell (Nat.le_refl _) _).setCell (Nat.le_refl _) _).setCell (Nat.le_refl _) _).setCell (Nat.le_refl _) _⟩
set_option maxHeartbeats 400000 in
theorem rfun_any (s : ByteArray) (a : Option Addr) (l c : Nat) (w : World) :
    Calls Try.prog 21 #[.string s, .slice a l c] w fun e w' => e = .returned (.agg #[.int .i64 5, .string s, .int .i64 0, .slice a l c]) ∧ Below w.heap.size w w' := by
  have O := Lib.hid (fun w => of_any 5 s 0 a l c w)
  go_enter Try.func21, Try.ntmps21
  go_wp2_with fail
  refine (O.out _).mono ?_; rintro e w1 ⟨rfl, hb⟩
  obtain ⟨c0, c1, c2, c3, f0, f1, f2, f3⟩ := (box_new w (.int .i64 0) (.string ⟨#[]⟩) (.int .i64 0) (.slice none 0 0) 24).below hb (by simp)
  replace hb := below_box hb
  go_wp2_with fail
  exact bodyPost_ret (v := .agg #[.int .i64 5, .string s, .int .i64 0, .slice a l c]) (by simp [results, Try.results21, go_sem, c0, c1, c2, c3]) rfl ⟨rfl, (((hb.setCell (Nat.le_refl _) _).setCell (Nat.le_refl _) _).setCell (Nat.le_refl _) _).setCell (Nat.le_refl _) _⟩
end Go.Proofs.Ytedljdcliilggaa
