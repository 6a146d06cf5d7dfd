/-
  Rows of function symbols in memory: each a name and an arity. No function of the program.
-/
import Derived.Test.YtmpaljmkfnpcpaaDoorBase
import Derived.Below
import Derived.Laws.OwnMore
import Derived.Lib.SlicesS
namespace Go.Proofs.YtmpaljmkfnpcpaaDoor
open Go.RowKit

/-- A function symbol: its name and its arity. -/
abbrev Fn := ByteArray × Int
structure FnOk (f : Fn) : Prop where
  size : f.1.size ≤ 9223372036854775807
  lo : -9223372036854775808 ≤ f.2
  hi : f.2 ≤ 9223372036854775807
structure FnAt (w : World) (f : Fn) (b o : Nat) : Prop where
  ok : FnOk f
  c0 : w.cell? ⟨b, o, none⟩ = some (.string f.1)
  c1 : w.cell? ⟨b, o + 1, none⟩ = some (.int .i64 f.2)
def fnVal (f : Fn) : Value := .agg #[.string f.1, .int .i64 f.2]
/-- A slice value that reads as a row of functions. -/
def Fus (w : World) (v : Value) (fs : List Fn) : Prop := ∃ a c, v = .slice a fs.length c ∧ (fs.length ≤ 9223372036854775807 ∧ fs.length ≤ c) ∧ (fs = [] ∨ ∃ b o, a = some ⟨b, o, none⟩ ∧ b < w.heap.size ∧ ∀ (j : Nat) x, fs[j]? = some x → FnAt w x b (o + j * 2))
theorem FnAt.lt {w : World} {x : Fn} {b o : Nat} (h : FnAt w x b o) : b < w.heap.size := by
  have h := h.c0
  unfold World.cell? at h
  rcases Nat.lt_or_ge b w.heap.size with h' | h'
  · exact h'
  · simp [Array.getElem?_eq_none h'] at h
theorem FnAt.below {w w' : World} {x : Fn} {b o : Nat} (h : FnAt w x b o) (hb : Below w.heap.size w w') : FnAt w' x b o :=
  ⟨h.ok, (hb.cell (p := ⟨b, o, none⟩) h.lt).trans h.c0, (hb.cell (p := ⟨b, o + 1, none⟩) h.lt).trans h.c1⟩
theorem Fus.below {w w' : World} {v : Value} {fs : List Fn} (h : Fus w v fs) (hb : Below w.heap.size w w') : Fus w' v fs := by
  obtain ⟨a, c, hv, hl, h⟩ := h
  refine ⟨a, c, hv, hl, ?_⟩
  rcases h with h | ⟨b, o, ha, hlt, h⟩
  · exact .inl h
  · exact .inr ⟨b, o, ha, Nat.lt_of_lt_of_le hlt hb.size, fun j x hj => (h j x hj).below hb⟩
theorem Fus.none_ (w : World) (a : Option Addr) (c : Nat) : Fus w (.slice a 0 c) [] := ⟨a, c, rfl, by simp, .inl rfl⟩
theorem Fus.ok {w : World} {v : Value} {fs : List Fn} (h : Fus w v fs) : ∀ f ∈ fs, FnOk f := by
  intro f hf
  obtain ⟨j, hj, rfl⟩ := List.getElem_of_mem hf
  obtain ⟨a, c, _, _, rfl | ⟨b, o, _, _, hc⟩⟩ := h
  · simp at hj
  · exact (hc j _ (List.getElem?_eq_getElem hj)).ok
/-- The first k of a row. -/
theorem Fus.cut {w : World} {a : Option Addr} {n c : Nat} {fs : List Fn} (h : Fus w (.slice a n c) fs) {k : Nat} (hk : k ≤ fs.length) : Fus w (.slice a k c) (fs.take k) := by
  obtain ⟨a', c', hv, hl, h⟩ := h
  cases hv
  refine ⟨a, c, by rw [List.length_take, Nat.min_eq_left hk], by rw [List.length_take]; omega, ?_⟩
  rcases h with rfl | ⟨b, o, ha, hlt, h⟩
  · exact .inl (by simp)
  · refine .inr ⟨b, o, ha, hlt, fun j x hj => h j x ?_⟩
    rw [List.getElem?_take] at hj
    split at hj
    · exact hj
    · cases hj
def rowFn (fs : List Fn) : List Value := fs.flatMap fun f => [.string f.1, .int .i64 f.2]
theorem rowFn_length (fs : List Fn) : (rowFn fs).length = fs.length * 2 := by
  unfold rowFn
  induction fs with
  | nil => rfl
  | cons v r ih => rw [List.flatMap_cons, List.length_append, ih, List.length_cons]; simp; omega
theorem rowFn_append (a b : List Fn) : rowFn (a ++ b) = rowFn a ++ rowFn b := by unfold rowFn; rw [List.flatMap_append]
theorem rowFn_one (f : Fn) : rowFn [f] = [.string f.1, .int .i64 f.2] := by unfold rowFn; simp
theorem rowFn_get : ∀ (fs : List Fn) (j : Nat) (h : j < fs.length) (i : Nat), i < 2 → (rowFn fs)[j * 2 + i]? = ([.string fs[j].1, .int .i64 fs[j].2] : List Value)[i]?
  | [], _, h, _, _ => by simp at h
  | v :: r, 0, _, i, hi => by
    unfold rowFn
    rw [List.flatMap_cons, List.getElem?_append_left (by simp; omega)]; simp
  | v :: r, j + 1, h, i, hi => by
    have := rowFn_get r j (by simpa using h) i hi
    unfold rowFn at this ⊢
    rw [List.flatMap_cons, List.getElem?_append_right (by simp; omega)]
    rw [show (j + 1) * 2 + i - ([.string v.1, .int .i64 v.2] : List Value).length = j * 2 + i from by simp; omega, this]
    simp
theorem rowFn_one' (fs : List Fn) : ∀ u ∈ rowFn fs, u.oneCell' = true := by
  intro u hu
  unfold rowFn at hu
  obtain ⟨v, _, hv⟩ := List.mem_flatMap.1 hu
  simp only [List.mem_cons, List.not_mem_nil, or_false] at hv
  rcases hv with rfl | rfl <;> rfl
/-- A row of functions that the call itself has made. -/
def OwnFn (w : World) (base : Nat) (v : Value) (fs : List Fn) : Prop := (∀ f ∈ fs, FnOk f) ∧ w.ownsRow base 23 2 v fs.length (rowFn fs)
theorem OwnFn.fus {w : World} {base : Nat} {v : Value} {fs : List Fn} (h : OwnFn w base v fs) (hl : fs.length ≤ 9223372036854775807) : Fus w v fs := by
  obtain ⟨hok, hn, h⟩ := h
  rcases h with ⟨rfl, h0⟩ | ⟨g, cap, cur, rfl, _, hg, hcap, hmax, hsz, htake⟩
  · have : fs = [] := by simpa using h0
    subst this
    exact Fus.none_ _ _ _
  · refine ⟨_, cap, rfl, ⟨hl, hcap⟩, .inr ⟨g, 0, rfl, (Array.getElem?_eq_some_iff.1 hg).1, fun j x hj => ?_⟩⟩
    obtain ⟨hjv, rfl⟩ := List.getElem?_eq_some_iff.1 hj
    have cell : ∀ i, i < 2 → w.cell? ⟨g, 0 + j * 2 + i, none⟩ = ([.string fs[j].1, .int .i64 fs[j].2] : List Value)[i]? := by
      intro i hi
      rw [cell_of_row w g (0 + j * 2 + i) cur _ (0, 0) hg, ← rowFn_get fs j hjv i hi, ← htake, List.getElem?_take, if_pos (by omega), Nat.zero_add]
      simp
    exact ⟨hok _ (List.getElem_mem hjv), cell 0 (by omega), cell 1 (by omega)⟩
theorem OwnFn.below {w w' : World} {base : Nat} {v : Value} {fs : List Fn} (h : OwnFn w base v fs) (hb : Below w.heap.size w w') : OwnFn w' base v fs := ⟨h.1, own_below h.2 hb⟩
theorem ownFn_nil (w : World) (base : Nat) : OwnFn w base (.slice none 0 0) [] := ⟨(fun f hf => by cases hf), World.ownsRow_nil _ _ _ _⟩
theorem funInfo : (Tryd.prog.info? 23).map (fun i => (i.zero, i.size, i.bytes)) = some (some (.agg #[.string ⟨#[]⟩, .int .i64 0]), 2, 24) := by kernel_rfl

theorem addr_add (b o j : Nat) : ((⟨b, o, none⟩ : Addr).add j) = ⟨b, o + j, none⟩ := by
  unfold Addr.add; split
  · next h => subst h; rfl
  · rfl
/-- What an append of the row reads. -/
theorem Fus.news {w : World} {a : Option Addr} {n c : Nat} {fs : List Fn} (h : Fus w (.slice a n c) fs) : n = fs.length ∧ (a = none → n = 0) ∧ (rowFn fs).length = n * 2 ∧ (∀ W, Below w.heap.size w W → ∀ ad, a = some ad → ∀ j u, (rowFn fs)[j]? = some u → W.cell? (ad.add j) = some u) ∧ ∀ f ∈ fs, FnOk f := by
  have hok := h.ok
  obtain ⟨a', c', hv, hl, h⟩ := h
  cases hv
  refine ⟨rfl, ?_, rowFn_length fs, ?_, hok⟩
  · intro ha
    rcases h with rfl | ⟨b, o, hb, _⟩
    · rfl
    · rw [ha] at hb; cases hb
  · intro W hW ad ha j u hj
    rcases h with rfl | ⟨b, o, hb, hlt, h⟩
    · simp [rowFn] at hj
    · rw [ha] at hb
      cases hb
      have hjl := (List.getElem?_eq_some_iff.1 hj).1
      rw [rowFn_length] at hjl
      have hq : j / 2 < fs.length := by omega
      have hA := (h (j / 2) _ (List.getElem?_eq_getElem hq)).below hW
      have hr := rowFn_get fs (j / 2) hq (j % 2) (by omega)
      rw [show j / 2 * 2 + j % 2 = j from by omega, hj] at hr
      rw [addr_add]
      rcases Nat.mod_two_eq_zero_or_one j with e | e
      · rw [e] at hr
        rw [show o + j = o + j / 2 * 2 from by omega, hA.c0, hr]; rfl
      · rw [e] at hr
        rw [show o + j = o + j / 2 * 2 + 1 from by omega, hA.c1, hr]; rfl
/-- One element that was laid anew. -/
theorem new_row2 (w : World) (b : Nat) (hb : b = w.heap.size) (x0 x1 : Value) (t : TypeId) : ∀ j u, [x0, x1][j]? = some u → (w.alloc (.cells #[x0, x1] t)).cell? ((⟨b, 0, none⟩ : Addr).add j) = some u := by
  subst hb
  intro j u hj
  have hjl := (List.getElem?_eq_some_iff.1 hj).1
  simp only [List.length_cons, List.length_nil] at hjl
  have e := World.cell?_alloc_mark w #[x0, x1] t (0, 0) (0 + j)
  rw [addr_add, e]
  rcases (show j = 0 ∨ j = 1 by omega) with rfl | rfl <;> simpa using hj
theorem fn_one (f : Fn) : ∀ u ∈ ([.string f.1, .int .i64 f.2] : List Value), u.oneCell' = true := by rw [← rowFn_one]; exact rowFn_one' [f]
/-- The arity of the first function of a name. -/
def arF (fs : List Fn) (s : ByteArray) : Option Int := (fs.find? fun x => x.1.toList == s.toList).map Prod.snd
theorem arF_nil (s : ByteArray) : arF [] s = none := rfl
theorem arF_take {fs : List Fn} {s : ByteArray} {k : Nat} {x : Fn} (h : arF (fs.take k) s = none) (hk : fs[k]? = some x) : arF (fs.take (k + 1)) s = if (x.1.toList == s.toList) = true then some x.2 else none := by
  obtain ⟨hl, rfl⟩ := List.getElem?_eq_some_iff.1 hk
  unfold arF at h ⊢
  rw [Option.map_eq_none_iff] at h
  rw [List.take_succ_eq_append_getElem hl, List.find?_append, h, List.find?_cons]
  cases fs[k].1.toList == s.toList <;> rfl
theorem arF_some {fs : List Fn} {s : ByteArray} {k : Nat} {n : Int} (h : arF (fs.take k) s = some n) : arF fs s = some n := by
  unfold arF at h ⊢
  obtain ⟨x, hx, rfl⟩ := Option.map_eq_some_iff.1 h
  have e : fs.find? (fun x => x.1.toList == s.toList) = some x := by
    rw [← List.take_append_drop k fs, List.find?_append, hx]; rfl
  rw [e]; rfl
/-- What Arity answers. -/
def arEnd (o : Option Int) : Ending := .returned (.tuple #[.int .i64 (o.getD 0), .bool o.isSome])
/-- Whether a function is in a row, alike. -/
noncomputable def hasFn (fs : List Fn) (f : Fn) : Bool := @decide (f ∈ fs) (Classical.propDecidable _)
theorem toList_iff {s z : ByteArray} : (s.toList == z.toList) = true ↔ s = z := Lib.bytes_beq_iff ..
end Go.Proofs.YtmpaljmkfnpcpaaDoor
