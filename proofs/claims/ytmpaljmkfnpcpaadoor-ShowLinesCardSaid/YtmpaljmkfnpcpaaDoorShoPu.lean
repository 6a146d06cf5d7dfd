/-
  Files' parts as lines, as lists of bytes. No function of the program.
-/
import Derived.Test.YtmpaljmkfnpcpaaDoorShowPu
import Derived.Test.YtmpaljmkfnpcpaaDoorRdigits
namespace Go.Proofs.YtmpaljmkfnpcpaaDoor
open Go.RowKit

/-- A function's line. -/
def lnFun (s : ByteArray) (n : Int) : List UInt8 := [102, 117, 110, 32] ++ s.data.toList ++ [47] ++ Lib.itoa n ++ [46, 10]
/-- A name's line. -/
def lnName (s : ByteArray) : List UInt8 := [110, 97, 109, 101, 32] ++ s.data.toList ++ [46, 10]
/-- A rule's line. -/
def lnRule (l r : Tm) : List UInt8 := [114, 117, 108, 101, 32] ++ showT l ++ [32, 61, 32] ++ showT r ++ [46, 10]
/-- Terms with something between. -/
def midT (sep : List UInt8) : List Tm → List UInt8
  | [] => []
  | t :: r => showT t ++ r.flatMap fun x => sep ++ showT x
/-- A frame's line. -/
def lnFrame (s : ByteArray) (ts : List Tm) : List UInt8 := [102, 114, 97, 109, 101, 32] ++ s.data.toList ++ [58] ++ (if ts = [] then [] else 32 :: midT [59, 32] ts) ++ [46, 10]
/-- A query's line. -/
def lnAsk (k : Int) (l r : ByteArray) (t : Tm) : List UInt8 :=
  if k = 1 then [100, 101, 100, 117, 99, 101, 32] ++ l.data.toList ++ [32] ++ showT t ++ [46, 10]
  else if k = 2 then [101, 113, 117, 105, 118, 32] ++ l.data.toList ++ [32] ++ r.data.toList ++ [46, 10]
  else if k = 3 then [110, 111, 114, 109, 97, 108, 32] ++ showT t ++ [46, 10]
  else []
/-- A place as a text. -/
def lnPlace : List Int → List UInt8
  | [] => [45]
  | n :: r => Lib.itoa n ++ r.flatMap fun x => 46 :: Lib.itoa x
theorem midT_take {sep : List UInt8} {ts : List Tm} {j : Nat} (h : j < ts.length) : midT sep (ts.take (j + 1)) = midT sep (ts.take j) ++ ((if j = 0 then [] else sep) ++ showT ts[j]) := by
  cases ts with
  | nil => cases h
  | cons t r => cases j with
    | zero => simp [midT]
    | succ j =>
      have h2 : j < r.length := by simpa using h
      rw [List.take_succ_cons, List.take_succ_cons, midT, midT, List.take_succ_eq_append_getElem h2, List.flatMap_append]
      simp
theorem wtL_flat (sep : List UInt8) : ∀ ts : List Tm, (∀ t ∈ ts, (showT t).length ≤ wtT t) → (ts.flatMap fun x => sep ++ showT x).length ≤ ts.length * sep.length + (ts.map wtT).sum
  | [], _ => by simp
  | t :: r, h => by
    have h1 := wtL_flat sep r fun x hx => h x (List.mem_cons_of_mem _ hx)
    have h2 := h t (List.mem_cons_self ..)
    simp only [List.flatMap_cons, List.length_append, List.length_cons, Nat.succ_mul, List.map_cons, List.sum_cons]
    omega
theorem place_take {p : List Int} {j : Nat} (h : j + 1 < p.length) : lnPlace (p.take (j + 2)) = lnPlace (p.take (j + 1)) ++ 46 :: Lib.itoa (p[j + 1]) := by
  cases p with
  | nil => cases h
  | cons n r =>
    have h2 : j < r.length := by simpa using h
    rw [List.take_succ_cons, List.take_succ_cons, lnPlace, lnPlace, List.take_succ_eq_append_getElem h2, List.flatMap_append]
    simp
end Go.Proofs.YtmpaljmkfnpcpaaDoor
