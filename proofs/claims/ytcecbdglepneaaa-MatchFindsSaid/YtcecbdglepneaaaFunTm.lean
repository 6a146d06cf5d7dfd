/-
  Terms that are made: Of, Var, Fun of the reference of layer 3.
-/
import Derived.Test.YtcecbdglepneaaaTm
namespace Go.Proofs.Ytcecbdglepneaaa
open Go.RowKit

set_option maxHeartbeats 400000 in
theorem of_any (k : Int) (s : ByteArray) (n : Int) (a : Option Addr) (l c : Nat) (w : World) :
    Calls Try.prog 36 #[.int .i64 k, .string s, .int .i64 n, .slice a l c] w fun e w' => e = .returned (.agg #[.int .i64 k, .string s, .int .i64 n, .slice a l c]) ∧ Below w.heap.size w w' := by
  go_enter Try.func36, Try.ntmps36
  go_wp2_with fail
  exact bodyPost_ret (v := .agg #[.int .i64 k, .string s, .int .i64 n, .slice a l c]) (by simp [results, Try.results36, go_sem]) rfl ⟨rfl, (Below.refl _ _).alloc (Nat.le_refl _) _⟩
set_option maxHeartbeats 400000 in
theorem rvar_any (s : ByteArray) (w : World) :
    Calls Try.prog 25 #[.string s] w fun e w' => e = .returned (.agg #[.int .i64 1, .string s, .int .i64 0, .slice none 0 0]) ∧ Below w.heap.size w w' := by
  have O := Lib.hid (fun w => of_any 1 s 0 none 0 0 w)
  go_enter Try.func25, Try.ntmps25
  go_wp2_with fail
  refine (O.out _).mono ?_; rintro e w1 ⟨rfl, hb⟩
  obtain ⟨c0, c1, c2, c3, f0, f1, f2, f3⟩ := (box_new w (.int .i64 0) (.string ⟨#[]⟩) (.int .i64 0) (.slice none 0 0) 25).below hb (by simp)
  replace hb := below_box hb
  go_wp2_with fail
  exact bodyPost_ret (v := .agg #[.int .i64 1, .string s, .int .i64 0, .slice none 0 0]) (by simp [results, Try.results25, go_sem, c0, c1, c2, c3]) rfl ⟨rfl, (((hb.setCell (Nat.le_refl _) _).setCell (Nat.le_refl _) _).setCell (Nat.le_refl _) _).setCell (Nat.le_refl _) _⟩
set_option maxHeartbeats 400000 in
theorem rfun_any (s : ByteArray) (a : Option Addr) (l c : Nat) (w : World) :
    Calls Try.prog 26 #[.string s, .slice a l c] w fun e w' => e = .returned (.agg #[.int .i64 5, .string s, .int .i64 0, .slice a l c]) ∧ Below w.heap.size w w' := by
  have O := Lib.hid (fun w => of_any 5 s 0 a l c w)
  go_enter Try.func26, Try.ntmps26
  go_wp2_with fail
  refine (O.out _).mono ?_; rintro e w1 ⟨rfl, hb⟩
  obtain ⟨c0, c1, c2, c3, f0, f1, f2, f3⟩ := (box_new w (.int .i64 0) (.string ⟨#[]⟩) (.int .i64 0) (.slice none 0 0) 25).below hb (by simp)
  replace hb := below_box hb
  go_wp2_with fail
  exact bodyPost_ret (v := .agg #[.int .i64 5, .string s, .int .i64 0, .slice a l c]) (by simp [results, Try.results26, go_sem, c0, c1, c2, c3]) rfl ⟨rfl, (((hb.setCell (Nat.le_refl _) _).setCell (Nat.le_refl _) _).setCell (Nat.le_refl _) _).setCell (Nat.le_refl _) _⟩
end Go.Proofs.Ytcecbdglepneaaa
