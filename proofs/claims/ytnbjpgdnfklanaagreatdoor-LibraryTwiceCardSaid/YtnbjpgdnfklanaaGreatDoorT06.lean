/-
  Rows of binds in memory: each a name and a term. No function of the program.
  Binds put into terms, as data, and what a call of Apply leaves. No function of the program.
  Functions added to functions, and joined: what is answered, as data. No function of the program.
  Two rules alike but for names; a theory with a primitive behind: as data. No function of the program.
-/
import Derived.Test.YtnbjpgdnfklanaaGreatDoorT01
import Derived.Test.YtnbjpgdnfklanaaGreatDoorT05
import Derived.Test.YtnbjpgdnfklanaaGreatDoorT04
import Derived.Test.YtnbjpgdnfklanaaGreatDoorT03
import Derived.Test.YtnbjpgdnfklanaaGreatDoorT02
namespace Go.Proofs.YtnbjpgdnfklanaaGreatDoor
open Go.RowKit
abbrev Bn := ByteArray × Tm
def BdAt (w : World) (x : Bn) (b o : Nat) : Prop := x.1.size ≤ 9223372036854775807 ∧ w.cell? ⟨b, o, none⟩ = some (.string x.1) ∧ TmAt w x.2 b (o + 1)
def Bds (w : World) (v : Value) (bs : List Bn) : Prop := ∃ a c, v = .slice a bs.length c ∧ (bs.length ≤ 9223372036854775807 ∧ bs.length ≤ c) ∧ (bs = [] ∨ ∃ b o, a = some ⟨b, o, none⟩ ∧ b < w.heap.size ∧ ∀ (j : Nat) x, bs[j]? = some x → BdAt w x b (o + j * 5))
theorem BdAt.below {w w' : World} {x : Bn} {b o : Nat} (h : BdAt w x b o) (hb : Below w.heap.size w w') : BdAt w' x b o :=
  ⟨h.1, (hb.cell (p := ⟨b, o, none⟩) (lt_of_cell h.2.1)).trans h.2.1, h.2.2.below hb⟩
theorem Bds.below {w w' : World} {v : Value} {bs : List Bn} (h : Bds w v bs) (hb : Below w.heap.size w w') : Bds w' v bs := by
  obtain ⟨a, c, hv, hl, h⟩ := h
  refine ⟨a, c, hv, hl, ?_⟩
  rcases h with h | ⟨b, o, ha, hlt, h⟩
  · exact .inl h
  · exact .inr ⟨b, o, ha, Nat.lt_of_lt_of_le hlt hb.size, fun j x hj => (h j x hj).below hb⟩
theorem Bds.none_ (w : World) (a : Option Addr) (c : Nat) : Bds w (.slice a 0 c) [] := ⟨a, c, rfl, by simp, .inl rfl⟩
structure Bv where
  s : ByteArray
  v : Tv
def Bv.cells (x : Bv) : List Value := [.string x.s, .int .i64 x.v.t.kind, .string x.v.t.name, .int .i64 x.v.t.n, .slice x.v.a x.v.t.args.length x.v.c]
def Bv.val (x : Bv) : Value := .agg #[.string x.s, .int .i64 x.v.t.kind, .string x.v.t.name, .int .i64 x.v.t.n, .slice x.v.a x.v.t.args.length x.v.c]
def Bv.bn (x : Bv) : Bn := (x.s, x.v.t)
structure BvAt (w : World) (b o : Nat) (x : Bv) : Prop where
  c0 : w.cell? ⟨b, o, none⟩ = some (.string x.s)
  c1 : w.cell? ⟨b, o + 1, none⟩ = some (.int .i64 x.v.t.kind)
  c2 : w.cell? ⟨b, o + 2, none⟩ = some (.string x.v.t.name)
  c3 : w.cell? ⟨b, o + 3, none⟩ = some (.int .i64 x.v.t.n)
  c4 : w.cell? ⟨b, o + 4, none⟩ = some (.slice x.v.a x.v.t.args.length x.v.c)
theorem bdAt_bv {w : World} {x : Bn} {b o : Nat} (h : BdAt w x b o) : ∃ y : Bv, y.bn = x ∧ y.v.ok w ∧ BvAt w b o y := by
  obtain ⟨v, hv, hk, h0, h1, h2, h3⟩ := tmAt_tv h.2.2
  exact ⟨⟨x.1, v⟩, by unfold Bv.bn; rw [hv], hk, h.2.1, h0, h1, h2, h3⟩
theorem bv_bdAt {w : World} {y : Bv} {b o : Nat} (hs : y.s.size ≤ 9223372036854775807) (hk : y.v.ok w) (h : BvAt w b o y) : BdAt w y.bn b o :=
  ⟨hs, h.c0, tv_tmAt hk ⟨h.c1, h.c2, h.c3, h.c4⟩⟩
theorem BvAt.below {w w' : World} {b o : Nat} {x : Bv} (h : BvAt w b o x) (hb : Below w.heap.size w w') : BvAt w' b o x :=
  have hlt := lt_of_cell h.c0
  ⟨(hb.cell (p := ⟨b, o, none⟩) hlt).trans h.c0, (hb.cell (p := ⟨b, o + 1, none⟩) hlt).trans h.c1, (hb.cell (p := ⟨b, o + 2, none⟩) hlt).trans h.c2, (hb.cell (p := ⟨b, o + 3, none⟩) hlt).trans h.c3, (hb.cell (p := ⟨b, o + 4, none⟩) hlt).trans h.c4⟩
def rowBv (ss : List Bv) : List Value := ss.flatMap Bv.cells
theorem rowBv_length (vs : List Bv) : (rowBv vs).length = vs.length * 5 := by
  unfold rowBv
  induction vs with
  | nil => rfl
  | cons v r ih => rw [List.flatMap_cons, List.length_append, ih, List.length_cons]; simp [Bv.cells]; omega
theorem rowBv_append (a b : List Bv) : rowBv (a ++ b) = rowBv a ++ rowBv b := by unfold rowBv; rw [List.flatMap_append]
theorem rowBv_one (v : Bv) : rowBv [v] = v.cells := by unfold rowBv; simp
theorem rowBv_get : ∀ (vs : List Bv) (j : Nat) (h : j < vs.length) (i : Nat), i < 5 → (rowBv vs)[j * 5 + i]? = vs[j].cells[i]?
  | [], _, h, _, _ => by simp at h
  | v :: r, 0, _, i, hi => by
    unfold rowBv
    rw [List.flatMap_cons, List.getElem?_append_left (by simp [Bv.cells]; omega)]; simp
  | v :: r, j + 1, h, i, hi => by
    have := rowBv_get r j (by simpa using h) i hi
    unfold rowBv at this ⊢
    rw [List.flatMap_cons, List.getElem?_append_right (by simp [Bv.cells]; omega)]
    rw [show (j + 1) * 5 + i - v.cells.length = j * 5 + i from by simp [Bv.cells]; omega, this]
    simp
theorem rowBv_one' (vs : List Bv) : ∀ u ∈ rowBv vs, u.oneCell' = true := by
  intro u hu
  unfold rowBv at hu
  obtain ⟨v, _, hv⟩ := List.mem_flatMap.1 hu
  simp only [Bv.cells, List.mem_cons, List.not_mem_nil, or_false] at hv
  rcases hv with rfl | rfl | rfl | rfl | rfl <;> rfl
def OwnBv (w0 w : World) (base : Nat) (v : Value) (bs : List Bn) : Prop :=
  ∃ vs : List Bv, vs.map Bv.bn = bs ∧ (∀ x ∈ vs, x.v.ok w0 ∧ x.s.size ≤ 9223372036854775807) ∧ w.ownsRow base 146 5 v bs.length (rowBv vs)
theorem OwnBv.bds {w0 w : World} {base : Nat} {v : Value} {bs : List Bn} (h : OwnBv w0 w base v bs) (hb : Below w0.heap.size w0 w) (hl : bs.length ≤ 9223372036854775807) : Bds w v bs := by
  obtain ⟨vs, rfl, hok, hn, h⟩ := h
  rcases h with ⟨rfl, h0⟩ | ⟨g, cap, cur, rfl, _, hg, hcap, hmax, hsz, htake⟩
  · have : vs = [] := by simpa using h0
    subst this
    exact Bds.none_ _ _ _
  · refine ⟨_, cap, rfl, ⟨hl, hcap⟩, .inr ⟨g, 0, rfl, (Array.getElem?_eq_some_iff.1 hg).1, fun j x hj => ?_⟩⟩
    rw [List.getElem?_map] at hj
    have hjv : j < vs.length := by
      rcases Nat.lt_or_ge j vs.length with h | h
      · exact h
      · rw [List.getElem?_eq_none h] at hj; cases hj
    rw [List.getElem?_eq_getElem hjv] at hj
    injection hj with hj
    subst hj
    have cell : ∀ i, i < 5 → w.cell? ⟨g, 0 + j * 5 + i, none⟩ = vs[j].cells[i]? := by
      intro i hi
      rw [cell_of_row w g (0 + j * 5 + i) cur _ (0, 0) hg, ← rowBv_get vs j hjv i hi, ← htake, List.getElem?_take, if_pos (by simp; omega), Nat.zero_add]
      simp
    obtain ⟨hk, hs⟩ := hok _ (List.getElem_mem hjv)
    exact bv_bdAt hs (hk.below hb) ⟨cell 0 (by omega), cell 1 (by omega), cell 2 (by omega), cell 3 (by omega), cell 4 (by omega)⟩
def getB (bs : List Bn) (s : ByteArray) : Option Tm := (bs.find? fun x => x.1.toList == s.toList).map Prod.snd
theorem getB_nil (s : ByteArray) : getB [] s = none := rfl
end Go.Proofs.YtnbjpgdnfklanaaGreatDoor

namespace Go.Proofs.YtnbjpgdnfklanaaGreatDoor
open Go.RowKit
mutual

def appT (bs : List Bn) : Tm → Tm
  | .mk k s n xs => if k = 1 then (match getB bs s with | some t => t | none => .mk k s n (appL bs xs)) else .mk k s n (appL bs xs)
def appL (bs : List Bn) : List Tm → List Tm
  | [] => []
  | t :: r => appT bs t :: appL bs r
end
theorem appL_map (bs : List Bn) : ∀ l : List Tm, appL bs l = l.map (appT bs)
  | [] => by rw [appL]; rfl
  | t :: r => by rw [appL, appL_map bs r]; rfl
theorem appT_eq (bs : List Bn) (t : Tm) : appT bs t = if t.kind = 1 then (match getB bs t.name with | some u => u | none => .mk t.kind t.name t.n (t.args.map (appT bs))) else .mk t.kind t.name t.n (t.args.map (appT bs)) := by
  cases t; rw [appT, appL_map]; rfl
def ApPost (u : Tm) (w0 w : World) (e : Ending) (w' : World) : Prop := ∃ z : Tv, e = .returned z.val ∧ z.t = u ∧ Fresh w0 w w' z ∧ Below w.heap.size w w'
end Go.Proofs.YtnbjpgdnfklanaaGreatDoor

namespace Go.Proofs.YtnbjpgdnfklanaaGreatDoor
open Go.RowKit
theorem hasFn_iff {fs : List Fn} {f : Fn} : hasFn fs f = true ↔ f ∈ fs := @decide_eq_true_iff _ (Classical.propDecidable _)
def argOk (f : Fn) : Bool := wordB f.1 && (decide (0 ≤ f.2) && decide (f.2 ≤ 6))
def addE (fs : List Fn) (f : Fn) : Int := if argOk f = false then 1 else if (arF fs f.1).isSome = true then 6 else if 40 ≤ fs.length then 3 else 0
def addL (fs : List Fn) (f : Fn) : List Fn := if addE fs f = 0 then fs ++ [f] else []
theorem addE_arg {fs : List Fn} {f : Fn} (h : argOk f = false) : addE fs f = 1 := by unfold addE; rw [if_pos h]
theorem addE_twice {fs : List Fn} {f : Fn} (h : argOk f = true) (k : (arF fs f.1).isSome = true) : addE fs f = 6 := by unfold addE; rw [if_neg (by rw [h]; simp), if_pos k]
theorem addE_long {fs : List Fn} {f : Fn} (h : argOk f = true) (k : (arF fs f.1).isSome = false) (l : 40 ≤ fs.length) : addE fs f = 3 := by unfold addE; rw [if_neg (by rw [h]; simp), if_neg (by rw [k]; simp), if_pos l]
theorem addE_ok {fs : List Fn} {f : Fn} (h : argOk f = true) (k : (arF fs f.1).isSome = false) (l : ¬ 40 ≤ fs.length) : addE fs f = 0 := by unfold addE; rw [if_neg (by rw [h]; simp), if_neg (by rw [k]; simp), if_neg l]
theorem addL_bad {fs : List Fn} {f : Fn} (h : addE fs f ≠ 0) : addL fs f = [] := by unfold addL; rw [if_neg h]
theorem addL_ok {fs : List Fn} {f : Fn} (h : addE fs f = 0) : addL fs f = fs ++ [f] := by unfold addL; rw [if_pos h]
theorem addE_zero {fs : List Fn} {f : Fn} : addE fs f = 0 ↔ argOk f = true ∧ arF fs f.1 = none ∧ fs.length < 40 := by
  unfold addE
  cases argOk f with
  | false => simp
  | true =>
    cases h : arF fs f.1 with
    | some n => simp
    | none => by_cases hl : 40 ≤ fs.length <;> simp [hl] <;> omega
noncomputable def joinR (a : List Fn) : List Fn → List Fn → Int × List Fn
  | out, [] => (0, out)
  | out, f :: r => if hasFn a f = true then joinR a out r else if addE out f = 0 then joinR a (out ++ [f]) r else (addE out f, [])
noncomputable def joinE (a b : List Fn) : Int := (joinR a a b).1
noncomputable def joinL (a b : List Fn) : List Fn := (joinR a a b).2
def shortFn (f : Fn) : Bool := decide (f.1.size ≤ 100)
def fewF (fs : List Fn) : Bool := decide (fs.length ≤ 60) && fs.all shortFn
end Go.Proofs.YtnbjpgdnfklanaaGreatDoor

namespace Go.Proofs.YtnbjpgdnfklanaaGreatDoor
open Go.RowKit
def canonB : Nat → List ByteArray → List Bn
  | _, [] => []
  | i, v :: r => (v, .mk 1 ⟨(88 :: Lib.itoa i).toArray⟩ 0 []) :: canonB (i + 1) r
theorem canonB_length : ∀ (i : Nat) (l : List ByteArray), (canonB i l).length = l.length
  | _, [] => rfl
  | i, _ :: r => by rw [canonB, List.length_cons, List.length_cons, canonB_length (i + 1) r]
def canonT (l : List Tm) : List Tm := l.map (appT (canonB 0 (canonN l)))
noncomputable def sameUp (a b : Rl) : Bool := eqTs (canonT [a.1, a.2]) (canonT [b.1, b.2])
def entF (s : ByteArray) : List Fn := itemF (parseS (libT s)).2.2
def entR (s : ByteArray) : List Rl := itemR (parseS (libT s)).2.2
def isEnt (s : ByteArray) : Bool := !(libT s).toList.isEmpty
noncomputable def newR (rs qs : List Rl) : List Rl := rs ++ qs.filter fun q => !(rs.any fun x => sameUp x q)
noncomputable def useS (fs : List Fn) (rs : List Rl) (s : ByteArray) : Int × List Fn × List Rl :=
  if isEnt s = false then (9, [], [])
  else if joinE fs (entF s) ≠ 0 then (joinE fs (entF s), [], [])
  else if 24 < (newR rs (entR s)).length then (3, [], [])
  else (0, joinL fs (entF s), newR rs (entR s))
end Go.Proofs.YtnbjpgdnfklanaaGreatDoor
