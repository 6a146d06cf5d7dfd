/-
  A tree made of a token, in whatever order the box and the call come up: a region of the reference of layer 11.
  Trees that calls have made live on in whatever leaves their blocks as they are. No function of the program.
  The term that begins at a token, by the reference of layer 11: Term, where Terms is as it should be.
-/
import Derived.Test.YtldgbdmiebipnaaGreatDoorZ03
import Derived.Deep.RegionHeld3
import Derived.Sort.AtCall
import Derived.Test.YtldgbdmiebipnaaGreatDoorZ01
import Derived.OwnWalk
namespace Go.Proofs.YtldgbdmiebipnaaGreatDoor
open Go.RowKit

def leafOps : Array Oper := #[{ dst := some 18, op := Op.load 50 (Operand.tmp 9), type := 50, pos := "ref.go:51", after := #[], guard := none },
  { dst := some 19, op := Op.call { callee := Callee.value (Operand.func 62), args := #[Operand.tmp 18], argTypes := #[50] }, type := 3, pos := "ref.go:51", after := #[{ on := 0, ground := Ground.data }], guard := none },
  { dst := some 20, op := Op.fieldAddr 50 (Operand.tmp 9) 1, type := 0, pos := "ref.go:51", after := #[], guard := none },
  { dst := some 21, op := Op.load 9 (Operand.tmp 20), type := 9, pos := "ref.go:51", after := #[{ on := 2, ground := Ground.data }], guard := none },
  { dst := some 22, op := Op.fieldAddr 50 (Operand.tmp 9) 2, type := 0, pos := "ref.go:51", after := #[], guard := none },
  { dst := some 23, op := Op.load 3 (Operand.tmp 22), type := 3, pos := "ref.go:51", after := #[{ on := 4, ground := Ground.data }], guard := none },
  { dst := some 24, op := Op.fieldAddr 50 (Operand.tmp 9) 3, type := 0, pos := "ref.go:51", after := #[], guard := none },
  { dst := some 25, op := Op.load 3 (Operand.tmp 24), type := 3, pos := "ref.go:51", after := #[{ on := 6, ground := Ground.data }], guard := none },
  { dst := some 26, op := Op.build 87 #[(0, Operand.tmp 19), (1, Operand.tmp 21), (2, Operand.tmp 23), (3, Operand.tmp 25)], type := 87, pos := "ref.go:51", after := #[{ on := 1, ground := Ground.data }, { on := 3, ground := Ground.data }, { on := 5, ground := Ground.data }, { on := 7, ground := Ground.data }], guard := none },
  { dst := some 10, op := Op.alloc 87, type := 0, pos := "ref.go:51", after := #[], guard := none },
  { dst := none, op := Op.store 87 (Operand.tmp 10) (Operand.tmp 26), type := 0, pos := "ref.go:51", after := #[{ on := 9, ground := Ground.data }, { on := 8, ground := Ground.data }, { on := 1, ground := Ground.chain }, { on := 0, ground := Ground.phase }, { on := 1, ground := Ground.phase }, { on := 2, ground := Ground.phase }, { on := 3, ground := Ground.phase }, { on := 4, ground := Ground.phase }, { on := 5, ground := Ground.phase }, { on := 6, ground := Ground.phase }, { on := 7, ground := Ground.phase }, { on := 8, ground := Ground.phase }, { on := 9, ground := Ground.phase }], guard := none }]

set_option maxRecDepth 100000 in
set_option maxHeartbeats 4000000 in
theorem leaf_region (Q : Exit → Act → World → Prop) (wb : World) (g9 : Nat) (tk : Int) (tx : ByteArray) (tn tp lk : Int) (y0 y1 y2 y3 y4 y5 y6 y7 y8 y14 y15 y16 y17 : Value) (hlk : leafK ⟨tk, tx, tn, tp⟩ = lk)
    (KEEP : Hid (∀ V : World, Below wb.heap.size wb V → V.cell? ⟨g9, 0, none⟩ = some (.int .i64 tk) ∧ V.cell? ⟨g9, 1, none⟩ = some (.string tx) ∧ V.cell? ⟨g9, 2, none⟩ = some (.int .i64 tn) ∧ V.cell? ⟨g9, 3, none⟩ = some (.int .i64 tp)))
    (HQ : ∀ c (i : Nat) v (a : Act) w, Q (.panic c) (a.put (some i) v) w → Q (.panic c) a w)
    (REST : ∀ (V : World) (g : Nat), Below wb.heap.size wb V → wb.heap.size ≤ g → Box5 V g (.int .i64 lk) (.string tx) (.int .i64 tn) (.int .i64 tp) (.slice none 0 0) → Q .normal { tmps := (y0 :: y1 :: y2 :: y3 :: y4 :: y5 :: y6 :: y7 :: y8 :: .pointer (some ⟨g9, 0, none⟩) :: .pointer (some ⟨g, 0, none⟩) :: undef :: undef :: undef :: y14 :: y15 :: y16 :: y17 :: .agg #[.int .i64 tk, .string tx, .int .i64 tn, .int .i64 tp] :: .int .i64 lk :: .pointer (some ⟨g9, 1, none⟩) :: .string tx :: .pointer (some ⟨g9, 2, none⟩) :: .int .i64 tn :: .pointer (some ⟨g9, 3, none⟩) :: .int .i64 tp :: .agg #[.int .i64 lk, .string tx, .int .i64 tn, .int .i64 tp, .slice none 0 0] :: undef :: undef :: undef :: undef :: undef :: undef :: undef :: undef :: undef :: undef :: undef :: undef :: undef :: undef :: undef :: undef :: undef :: undef :: undef :: undef :: undef :: undef :: undef :: undef :: undef :: undef :: undef :: undef :: undef :: undef :: undef :: undef :: undef :: undef :: undef :: undef :: undef :: undef :: undef :: undef :: undef :: undef :: undef :: undef :: undef :: undef :: undef :: undef :: undef :: undef :: undef :: undef :: undef :: undef :: undef :: []).toArray, defers := [] } V) :
    Code.wp Tryz.prog (Code.region 2 leafOps true) Q { tmps := (y0 :: y1 :: y2 :: y3 :: y4 :: y5 :: y6 :: y7 :: y8 :: .pointer (some ⟨g9, 0, none⟩) :: undef :: undef :: undef :: undef :: y14 :: y15 :: y16 :: y17 :: undef :: undef :: undef :: undef :: undef :: undef :: undef :: undef :: undef :: undef :: undef :: undef :: undef :: undef :: undef :: undef :: undef :: undef :: undef :: undef :: undef :: undef :: undef :: undef :: undef :: undef :: undef :: undef :: undef :: undef :: undef :: undef :: undef :: undef :: undef :: undef :: undef :: undef :: undef :: undef :: undef :: undef :: undef :: undef :: undef :: undef :: undef :: undef :: undef :: undef :: undef :: undef :: undef :: undef :: undef :: undef :: undef :: undef :: undef :: undef :: undef :: undef :: undef :: undef :: []).toArray, defers := [] } wb := by
  have LF := Lib.hid (fun (V : World) => rleaf_any ⟨tk, tx, tn, tp⟩ V)
  unfold tokVal at LF
  rw [hlk] at LF
  simp only at LF
  clear hlk
  obtain ⟨S, hS⟩ : ∃ S : World → Prop, S = (fun V => V.cell? ⟨g9, 0, none⟩ = some (.int .i64 tk) ∧ V.cell? ⟨g9, 1, none⟩ = some (.string tx) ∧ V.cell? ⟨g9, 2, none⟩ = some (.int .i64 tn) ∧ V.cell? ⟨g9, 3, none⟩ = some (.int .i64 tp)) := ⟨_, rfl⟩
  have s11 : ∀ (U : World) (g : Nat) , Below wb.heap.size wb U → wb.heap.size ≤ g → Box5 U g (.int .i64 0) (.string ⟨#[]⟩) (.int .i64 0) (.int .i64 0) (.slice none 0 0) → wpAnyH Tryz.prog .any leafOps Q S 1 #[true, true, true, true, true, true, true, true, true, true, false] { tmps := (y0 :: y1 :: y2 :: y3 :: y4 :: y5 :: y6 :: y7 :: y8 :: .pointer (some ⟨g9, 0, none⟩) :: .pointer (some ⟨g, 0, none⟩) :: undef :: undef :: undef :: y14 :: y15 :: y16 :: y17 :: .agg #[.int .i64 tk, .string tx, .int .i64 tn, .int .i64 tp] :: .int .i64 lk :: .pointer (some ⟨g9, 1, none⟩) :: .string tx :: .pointer (some ⟨g9, 2, none⟩) :: .int .i64 tn :: .pointer (some ⟨g9, 3, none⟩) :: .int .i64 tp :: .agg #[.int .i64 lk, .string tx, .int .i64 tn, .int .i64 tp, .slice none 0 0] :: undef :: undef :: undef :: undef :: undef :: undef :: undef :: undef :: undef :: undef :: undef :: undef :: undef :: undef :: undef :: undef :: undef :: undef :: undef :: undef :: undef :: undef :: undef :: undef :: undef :: undef :: undef :: undef :: undef :: undef :: undef :: undef :: undef :: undef :: undef :: undef :: undef :: undef :: undef :: undef :: undef :: undef :: undef :: undef :: undef :: undef :: undef :: undef :: undef :: undef :: undef :: undef :: undef :: undef :: undef :: []).toArray, defers := [] } U := by
    intro U g hB hg hx
    have HX := Lib.hid (hx.sets (.int .i64 lk) (.string tx) (.int .i64 tn) (.int .i64 tp) (.slice none 0 0))
    have hB3 : Below wb.heap.size wb (((((U.setCell ⟨g, 0, none⟩ (.int .i64 lk)).setCell ⟨g, 1, none⟩ (.string tx)).setCell ⟨g, 2, none⟩ (.int .i64 tn)).setCell ⟨g, 3, none⟩ (.int .i64 tp)).setCell ⟨g, 4, none⟩ (.slice none 0 0)) := below_sets5 hB hg _ _ _ _ _
    have S1 : S (((((U.setCell ⟨g, 0, none⟩ (.int .i64 lk)).setCell ⟨g, 1, none⟩ (.string tx)).setCell ⟨g, 2, none⟩ (.int .i64 tn)).setCell ⟨g, 3, none⟩ (.int .i64 tp)).setCell ⟨g, 4, none⟩ (.slice none 0 0)) := by rw [hS]; exact KEEP.out _ hB3
    obtain ⟨z0, z1, z2, z3, z4, f0, f1, f2, f3, f4⟩ := id hx
    refine wpAnyH_ready (rs := [10]) (by kernel_rfl) (by simp) ?_
    refine AllReadyH.cons (o := { dst := none, op := Op.store 87 (Operand.tmp 10) (Operand.tmp 26), type := 0, pos := "ref.go:51", after := #[{ on := 9, ground := Ground.data }, { on := 8, ground := Ground.data }, { on := 1, ground := Ground.chain }, { on := 0, ground := Ground.phase }, { on := 1, ground := Ground.phase }, { on := 2, ground := Ground.phase }, { on := 3, ground := Ground.phase }, { on := 4, ground := Ground.phase }, { on := 5, ground := Ground.phase }, { on := 6, ground := Ground.phase }, { on := 7, ground := Ground.phase }, { on := 8, ground := Ground.phase }, { on := 9, ground := Ground.phase }], guard := none }) rfl (fun K hK => ?_) (AllReadyH.nil)
    go_simp
    refine hK.out _ _ S1 (fun hHeld => ?_)
    clear hK K z0 z1 z2 z3 z4 f0 f1 f2 f3 f4
    try simp only [List.setIfInBounds_toArray, List.set_cons_zero, List.set_cons_succ]
    refine wpAnyH_done (by kernel_rfl) ?_ _
    exact REST _ g hB3 hg HX.out
  have s10 : ∀ (U : World) , Below wb.heap.size wb U → wpAnyH Tryz.prog .any leafOps Q S 2 #[true, true, true, true, true, true, true, true, true, false, false] { tmps := (y0 :: y1 :: y2 :: y3 :: y4 :: y5 :: y6 :: y7 :: y8 :: .pointer (some ⟨g9, 0, none⟩) :: undef :: undef :: undef :: undef :: y14 :: y15 :: y16 :: y17 :: .agg #[.int .i64 tk, .string tx, .int .i64 tn, .int .i64 tp] :: .int .i64 lk :: .pointer (some ⟨g9, 1, none⟩) :: .string tx :: .pointer (some ⟨g9, 2, none⟩) :: .int .i64 tn :: .pointer (some ⟨g9, 3, none⟩) :: .int .i64 tp :: .agg #[.int .i64 lk, .string tx, .int .i64 tn, .int .i64 tp, .slice none 0 0] :: undef :: undef :: undef :: undef :: undef :: undef :: undef :: undef :: undef :: undef :: undef :: undef :: undef :: undef :: undef :: undef :: undef :: undef :: undef :: undef :: undef :: undef :: undef :: undef :: undef :: undef :: undef :: undef :: undef :: undef :: undef :: undef :: undef :: undef :: undef :: undef :: undef :: undef :: undef :: undef :: undef :: undef :: undef :: undef :: undef :: undef :: undef :: undef :: undef :: undef :: undef :: undef :: undef :: undef :: undef :: []).toArray, defers := [] } U := by
    intro U hB
    refine wpAnyH_ready (rs := [9]) (by kernel_rfl) (by simp) ?_
    refine AllReadyH.cons (o := { dst := some 10, op := Op.alloc 87, type := 0, pos := "ref.go:51", after := #[], guard := none }) rfl (fun K hK => ?_) (AllReadyH.nil)
    · go_simp
      have hbU : Below U.heap.size U (U.alloc (.cells #[.int .i64 0, .string ⟨#[]⟩, .int .i64 0, .int .i64 0, .slice none 0 0] 87)) := (Below.refl _ _).alloc (Nat.le_refl _) _
      have hB1 := below_next hB hbU
      have hn := box5_new U (.int .i64 0) (.string ⟨#[]⟩) (.int .i64 0) (.int .i64 0) (.slice none 0 0) 87
      refine hK.out _ _ (by rw [hS]; exact KEEP.out _ hB1) (fun hHeld => ?_)
      clear hK K
      try simp only [List.setIfInBounds_toArray, List.set_cons_zero, List.set_cons_succ]
      exact s11 _ U.heap.size hB1 hB.size hn
  have s01 : ∀ (U : World) (g : Nat) , Below wb.heap.size wb U → wb.heap.size ≤ g → Box5 U g (.int .i64 0) (.string ⟨#[]⟩) (.int .i64 0) (.int .i64 0) (.slice none 0 0) → wpAnyH Tryz.prog .any leafOps Q S 3 #[true, false, true, true, true, true, true, true, false, true, false] { tmps := (y0 :: y1 :: y2 :: y3 :: y4 :: y5 :: y6 :: y7 :: y8 :: .pointer (some ⟨g9, 0, none⟩) :: .pointer (some ⟨g, 0, none⟩) :: undef :: undef :: undef :: y14 :: y15 :: y16 :: y17 :: .agg #[.int .i64 tk, .string tx, .int .i64 tn, .int .i64 tp] :: undef :: .pointer (some ⟨g9, 1, none⟩) :: .string tx :: .pointer (some ⟨g9, 2, none⟩) :: .int .i64 tn :: .pointer (some ⟨g9, 3, none⟩) :: .int .i64 tp :: undef :: undef :: undef :: undef :: undef :: undef :: undef :: undef :: undef :: undef :: undef :: undef :: undef :: undef :: undef :: undef :: undef :: undef :: undef :: undef :: undef :: undef :: undef :: undef :: undef :: undef :: undef :: undef :: undef :: undef :: undef :: undef :: undef :: undef :: undef :: undef :: undef :: undef :: undef :: undef :: undef :: undef :: undef :: undef :: undef :: undef :: undef :: undef :: undef :: undef :: undef :: undef :: undef :: undef :: undef :: undef :: []).toArray, defers := [] } U := by
    intro U g hB hg hx
    refine wpAnyH_ready (rs := [1]) (by kernel_rfl) (by simp) ?_
    refine AllReadyH.cons (o := { dst := some 19, op := Op.call { callee := Callee.value (Operand.func 62), args := #[Operand.tmp 18], argTypes := #[50] }, type := 3, pos := "ref.go:51", after := #[{ on := 0, ground := Ground.data }], guard := none }) rfl (fun K hK => ?_) (AllReadyH.nil)
    · go_simp
      go_at_call 62
      refine (LF.out _).mono ?_; rintro e U1 ⟨rfl, hbU⟩
      have hB1 := below_next hB hbU
      have hl : g < U.heap.size := lt_of_cellR hx.c0
      replace hx := hx.below hbU hl
      refine hK.out _ _ (by rw [hS]; exact KEEP.out _ hB1) (fun hHeld => ?_)
      clear hK K
      try simp only [List.setIfInBounds_toArray, List.set_cons_zero, List.set_cons_succ]
      refine wpAnyH_take (i := 8) (oi := { dst := some 26, op := Op.build 87 #[(0, Operand.tmp 19), (1, Operand.tmp 21), (2, Operand.tmp 23), (3, Operand.tmp 25)], type := 87, pos := "ref.go:51", after := #[{ on := 1, ground := Ground.data }, { on := 3, ground := Ground.data }, { on := 5, ground := Ground.data }, { on := 7, ground := Ground.data }], guard := none }) (v := ?v81) rfl (by kernel_rfl) (by kernel_rfl) (by kernel_rfl) (fun _ _ _ h => HQ _ _ _ _ _ h) (Or.inl ⟨by rfl, ?hy81⟩) (by assumption) ?rest81
      case hy81 => (intro w hSw; go_simp; (try with_reducible rfl))
      try simp only [Act.put, List.setIfInBounds_toArray, List.set_cons_zero, List.set_cons_succ]
      exact s11 U1 g hB1 hg hx
  have s00 : ∀ (U : World) , Below wb.heap.size wb U → wpAnyH Tryz.prog .any leafOps Q S 4 #[true, false, true, true, true, true, true, true, false, false, false] { tmps := (y0 :: y1 :: y2 :: y3 :: y4 :: y5 :: y6 :: y7 :: y8 :: .pointer (some ⟨g9, 0, none⟩) :: undef :: undef :: undef :: undef :: y14 :: y15 :: y16 :: y17 :: .agg #[.int .i64 tk, .string tx, .int .i64 tn, .int .i64 tp] :: undef :: .pointer (some ⟨g9, 1, none⟩) :: .string tx :: .pointer (some ⟨g9, 2, none⟩) :: .int .i64 tn :: .pointer (some ⟨g9, 3, none⟩) :: .int .i64 tp :: undef :: undef :: undef :: undef :: undef :: undef :: undef :: undef :: undef :: undef :: undef :: undef :: undef :: undef :: undef :: undef :: undef :: undef :: undef :: undef :: undef :: undef :: undef :: undef :: undef :: undef :: undef :: undef :: undef :: undef :: undef :: undef :: undef :: undef :: undef :: undef :: undef :: undef :: undef :: undef :: undef :: undef :: undef :: undef :: undef :: undef :: undef :: undef :: undef :: undef :: undef :: undef :: undef :: undef :: undef :: undef :: []).toArray, defers := [] } U := by
    intro U hB
    refine wpAnyH_ready (rs := [1, 9]) (by kernel_rfl) (by simp) ?_
    refine AllReadyH.cons (o := { dst := some 19, op := Op.call { callee := Callee.value (Operand.func 62), args := #[Operand.tmp 18], argTypes := #[50] }, type := 3, pos := "ref.go:51", after := #[{ on := 0, ground := Ground.data }], guard := none }) rfl (fun K hK => ?_) (AllReadyH.cons (o := { dst := some 10, op := Op.alloc 87, type := 0, pos := "ref.go:51", after := #[], guard := none }) rfl (fun K hK => ?_) (AllReadyH.nil))
    · go_simp
      go_at_call 62
      refine (LF.out _).mono ?_; rintro e U1 ⟨rfl, hbU⟩
      have hB1 := below_next hB hbU
      refine hK.out _ _ (by rw [hS]; exact KEEP.out _ hB1) (fun hHeld => ?_)
      clear hK K
      try simp only [List.setIfInBounds_toArray, List.set_cons_zero, List.set_cons_succ]
      refine wpAnyH_take (i := 8) (oi := { dst := some 26, op := Op.build 87 #[(0, Operand.tmp 19), (1, Operand.tmp 21), (2, Operand.tmp 23), (3, Operand.tmp 25)], type := 87, pos := "ref.go:51", after := #[{ on := 1, ground := Ground.data }, { on := 3, ground := Ground.data }, { on := 5, ground := Ground.data }, { on := 7, ground := Ground.data }], guard := none }) (v := ?v80) rfl (by kernel_rfl) (by kernel_rfl) (by kernel_rfl) (fun _ _ _ h => HQ _ _ _ _ _ h) (Or.inl ⟨by rfl, ?hy80⟩) (by assumption) ?rest80
      case hy80 => (intro w hSw; go_simp; (try with_reducible rfl))
      try simp only [Act.put, List.setIfInBounds_toArray, List.set_cons_zero, List.set_cons_succ]
      exact s10 U1 hB1
    · go_simp
      have hbU : Below U.heap.size U (U.alloc (.cells #[.int .i64 0, .string ⟨#[]⟩, .int .i64 0, .int .i64 0, .slice none 0 0] 87)) := (Below.refl _ _).alloc (Nat.le_refl _) _
      have hB1 := below_next hB hbU
      have hn := box5_new U (.int .i64 0) (.string ⟨#[]⟩) (.int .i64 0) (.int .i64 0) (.slice none 0 0) 87
      refine hK.out _ _ (by rw [hS]; exact KEEP.out _ hB1) (fun hHeld => ?_)
      clear hK K
      try simp only [List.setIfInBounds_toArray, List.set_cons_zero, List.set_cons_succ]
      exact s01 _ U.heap.size hB1 hB.size hn
  refine wp_region_held_drew (S := S) (by kernel_rfl) (by rw [hS]; exact KEEP.out _ (Below.refl _ _).drew) (fun hHeld => ?_)
  have hbd : Below wb.heap.size wb wb.drew := (Below.refl _ _).drew
  rw [hS] at hHeld
  refine wpAnyH_take (i := 0) (oi := { dst := some 18, op := Op.load 50 (Operand.tmp 9), type := 50, pos := "ref.go:51", after := #[], guard := none }) (v := ?v0) rfl (by kernel_rfl) (by kernel_rfl) (by kernel_rfl) (fun _ _ _ h => HQ _ _ _ _ _ h) (Or.inl ⟨by rfl, ?hy0⟩) (by rw [hS]; exact hHeld) ?rest0
  case hy0 => (intro w hSw; rw [hS] at hSw; (try dsimp only at hSw); go_simp; (try with_reducible rfl))
  try simp only [Act.put, List.setIfInBounds_toArray, List.set_cons_zero, List.set_cons_succ]
  refine wpAnyH_take (i := 2) (oi := { dst := some 20, op := Op.fieldAddr 50 (Operand.tmp 9) 1, type := 0, pos := "ref.go:51", after := #[], guard := none }) (v := ?v2) rfl (by kernel_rfl) (by kernel_rfl) (by kernel_rfl) (fun _ _ _ h => HQ _ _ _ _ _ h) (Or.inl ⟨by rfl, ?hy2⟩) (by rw [hS]; exact hHeld) ?rest2
  case hy2 => (intro w hSw; rw [hS] at hSw; (try dsimp only at hSw); go_simp; (try with_reducible rfl))
  try simp only [Act.put, List.setIfInBounds_toArray, List.set_cons_zero, List.set_cons_succ]
  refine wpAnyH_take (i := 3) (oi := { dst := some 21, op := Op.load 9 (Operand.tmp 20), type := 9, pos := "ref.go:51", after := #[{ on := 2, ground := Ground.data }], guard := none }) (v := ?v3) rfl (by kernel_rfl) (by kernel_rfl) (by kernel_rfl) (fun _ _ _ h => HQ _ _ _ _ _ h) (Or.inl ⟨by rfl, ?hy3⟩) (by rw [hS]; exact hHeld) ?rest3
  case hy3 => (intro w hSw; rw [hS] at hSw; (try dsimp only at hSw); go_simp; (try with_reducible rfl))
  try simp only [Act.put, List.setIfInBounds_toArray, List.set_cons_zero, List.set_cons_succ]
  refine wpAnyH_take (i := 4) (oi := { dst := some 22, op := Op.fieldAddr 50 (Operand.tmp 9) 2, type := 0, pos := "ref.go:51", after := #[], guard := none }) (v := ?v4) rfl (by kernel_rfl) (by kernel_rfl) (by kernel_rfl) (fun _ _ _ h => HQ _ _ _ _ _ h) (Or.inl ⟨by rfl, ?hy4⟩) (by rw [hS]; exact hHeld) ?rest4
  case hy4 => (intro w hSw; rw [hS] at hSw; (try dsimp only at hSw); go_simp; (try with_reducible rfl))
  try simp only [Act.put, List.setIfInBounds_toArray, List.set_cons_zero, List.set_cons_succ]
  refine wpAnyH_take (i := 5) (oi := { dst := some 23, op := Op.load 3 (Operand.tmp 22), type := 3, pos := "ref.go:51", after := #[{ on := 4, ground := Ground.data }], guard := none }) (v := ?v5) rfl (by kernel_rfl) (by kernel_rfl) (by kernel_rfl) (fun _ _ _ h => HQ _ _ _ _ _ h) (Or.inl ⟨by rfl, ?hy5⟩) (by rw [hS]; exact hHeld) ?rest5
  case hy5 => (intro w hSw; rw [hS] at hSw; (try dsimp only at hSw); go_simp; (try with_reducible rfl))
  try simp only [Act.put, List.setIfInBounds_toArray, List.set_cons_zero, List.set_cons_succ]
  refine wpAnyH_take (i := 6) (oi := { dst := some 24, op := Op.fieldAddr 50 (Operand.tmp 9) 3, type := 0, pos := "ref.go:51", after := #[], guard := none }) (v := ?v6) rfl (by kernel_rfl) (by kernel_rfl) (by kernel_rfl) (fun _ _ _ h => HQ _ _ _ _ _ h) (Or.inl ⟨by rfl, ?hy6⟩) (by rw [hS]; exact hHeld) ?rest6
  case hy6 => (intro w hSw; rw [hS] at hSw; (try dsimp only at hSw); go_simp; (try with_reducible rfl))
  try simp only [Act.put, List.setIfInBounds_toArray, List.set_cons_zero, List.set_cons_succ]
  refine wpAnyH_take (i := 7) (oi := { dst := some 25, op := Op.load 3 (Operand.tmp 24), type := 3, pos := "ref.go:51", after := #[{ on := 6, ground := Ground.data }], guard := none }) (v := ?v7) rfl (by kernel_rfl) (by kernel_rfl) (by kernel_rfl) (fun _ _ _ h => HQ _ _ _ _ _ h) (Or.inl ⟨by rfl, ?hy7⟩) (by rw [hS]; exact hHeld) ?rest7
  case hy7 => (intro w hSw; rw [hS] at hSw; (try dsimp only at hSw); go_simp; (try with_reducible rfl))
  try simp only [Act.put, List.setIfInBounds_toArray, List.set_cons_zero, List.set_cons_succ]
  exact s00 _ hbd
end Go.Proofs.YtldgbdmiebipnaaGreatDoor

namespace Go.Proofs.YtldgbdmiebipnaaGreatDoor
open Go.RowKit

/-- What a call from w to w' has made reads so wherever its blocks stand. -/
def MadeR (w w' : World) (y : Rv) : Prop := ∀ W', w'.heap.size ≤ W'.heap.size → (∀ k, w.heap.size ≤ k → k < w'.heap.size → W'.heap[k]? = w'.heap[k]?) → y.ok W'
def MadeRs (w w' : World) (v : Value) (ts : List Tr) : Prop := ∀ W', w'.heap.size ≤ W'.heap.size → (∀ k, w.heap.size ≤ k → k < w'.heap.size → W'.heap[k]? = w'.heap[k]?) → Trs W' v ts
theorem MadeR.ok {w w' : World} {y : Rv} (h : MadeR w w' y) : y.ok w' := h w' (Nat.le_refl _) fun _ _ _ => rfl
theorem MadeRs.trs {w w' : World} {v : Value} {ts : List Tr} (h : MadeRs w w' v ts) : Trs w' v ts := h w' (Nat.le_refl _) fun _ _ _ => rfl
theorem MadeR.wide {u w w' W : World} {y : Rv} (h : MadeR w w' y) (h1 : u.heap.size ≤ w.heap.size) (h2 : w'.heap.size ≤ W.heap.size) (h3 : ∀ k, w.heap.size ≤ k → k < w'.heap.size → W.heap[k]? = w'.heap[k]?) : MadeR u W y := fun W' g1 g2 =>
  h W' (Nat.le_trans h2 g1) fun k k1 k2 => (g2 k (Nat.le_trans h1 k1) (Nat.lt_of_lt_of_le k2 h2)).trans (h3 k k1 k2)
theorem MadeR.below {u w w' W : World} {y : Rv} (h : MadeR w w' y) (h1 : u.heap.size ≤ w.heap.size) (hb : Below w'.heap.size w' W) : MadeR u W y := h.wide h1 hb.size fun k _ k2 => hb.block k k2
theorem MadeRs.below {u w w' W : World} {v : Value} {ts : List Tr} (h : MadeRs w w' v ts) (h1 : u.heap.size ≤ w.heap.size) (hb : Below w'.heap.size w' W) : MadeRs u W v ts := fun W' g1 g2 =>
  h W' (Nat.le_trans hb.size g1) fun k k1 k2 => (g2 k (Nat.le_trans h1 k1) (Nat.lt_of_lt_of_le k2 hb.size)).trans (hb.block k k2)
/-- A tree in a row that grows: its blocks lie from base on, and the row's block g is none of them. -/
def LiveR (W : World) (g : Option Nat) (base : Nat) (y : Rv) : Prop := ∃ lo hi, base ≤ lo ∧ lo ≤ hi ∧ hi ≤ W.heap.size ∧ (∀ k, g = some k → k < lo ∨ hi ≤ k) ∧
  ∀ W', hi ≤ W'.heap.size → (∀ k, lo ≤ k → k < hi → W'.heap[k]? = W.heap[k]?) → y.ok W'
theorem LiveR.ok {W : World} {g : Option Nat} {base : Nat} {y : Rv} (h : LiveR W g base y) : y.ok W := by
  obtain ⟨lo, hi, _, _, h3, _, h5⟩ := h
  exact h5 W h3 fun _ _ _ => rfl
theorem MadeR.live {w w' : World} {y : Rv} (h : MadeR w w' y) (hs : w.heap.size ≤ w'.heap.size) {g : Option Nat} {base : Nat} (hb : base ≤ w.heap.size) (hg : ∀ k, g = some k → k < w.heap.size ∨ w'.heap.size ≤ k) : LiveR w' g base y :=
  ⟨w.heap.size, w'.heap.size, hb, hs, Nat.le_refl _, hg, h⟩
theorem LiveR.keep {W W' : World} {g g' : Option Nat} {base : Nat} {y : Rv} (h : LiveR W g base y) (hs : W.heap.size ≤ W'.heap.size) (hk : ∀ k, k < W.heap.size → some k ≠ g → W'.heap[k]? = W.heap[k]?) (hg : ∀ k, g' = some k → g = some k ∨ W.heap.size ≤ k) : LiveR W' g' base y := by
  obtain ⟨lo, hi, h1, h2, h3, h4, h5⟩ := h
  refine ⟨lo, hi, h1, h2, Nat.le_trans h3 hs, fun k e => ?_, fun W2 g1 g2 => h5 W2 g1 fun k k1 k2 => ?_⟩
  · rcases hg k e with e | e
    · exact h4 k e
    · exact .inr (Nat.le_trans h3 e)
  · rw [g2 k k1 k2]
    refine hk k (Nat.lt_of_lt_of_le k2 h3) fun e => ?_
    rcases h4 k e.symm with e | e <;> omega
theorem LiveR.below {W W' : World} {g : Option Nat} {base : Nat} {y : Rv} (h : LiveR W g base y) (hb : Below W.heap.size W W') : LiveR W' g base y := h.keep hb.size (fun k hk _ => hb.block k hk) fun _ e => .inl e
theorem LiveR.grown {W W' : World} {g g' : Option Nat} {base : Nat} {y : Rv} (h : LiveR W g base y) (hg : W.grownBy W' g) (hat : g' = g ∨ g' = some W.heap.size) : LiveR W' g' base y := h.keep hg.size (fun k hk e => hg.block k hk e) fun k e => by
  rcases hat with e2 | e2
  · left; rw [← e2]; exact e
  · right; rw [e2] at e; injection e with e; omega
theorem own_at {w w' : World} {base : Nat} {e : TypeId} {size : Nat} {v : Value} {n : Nat} {xs : List Value} (h : w.ownsRow base e size v n xs) (hk : ∀ g, v.ownBlock = some g → w'.heap[g]? = w.heap[g]?) : w'.ownsRow base e size v n xs := by
  obtain ⟨hn, h⟩ := h
  refine ⟨hn, ?_⟩
  rcases h with h | ⟨g, cap, cur, rfl, hbb, hg, hr⟩
  · exact .inl h
  · exact .inr ⟨g, cap, cur, rfl, hbb, (hk g rfl).trans hg, hr⟩
/-- A row of trees that grows. -/
structure RowR (W : World) (e : TypeId) (base : Nat) (v : Value) (ts : List Tr) : Prop where
  row : ∃ vs : List Rv, vs.map Rv.t = ts ∧ (∀ x ∈ vs, LiveR W v.ownBlock base x) ∧ W.ownsRow base e 5 v ts.length (rowRv vs)
theorem rowR_nil (W : World) (e : TypeId) (base : Nat) : RowR W e base (.slice none 0 0) [] := ⟨[], rfl, (fun x hx => by cases hx), World.ownsRow_nil _ _ _ _⟩
theorem RowR.below {W W' : World} {e : TypeId} {base : Nat} {v : Value} {ts : List Tr} (h : RowR W e base v ts) (hb : Below W.heap.size W W') : RowR W' e base v ts := by
  obtain ⟨vs, h1, h2, h3⟩ := h
  exact ⟨vs, h1, fun x hx => (h2 x hx).below hb, own_below h3 hb⟩
/-- It is what a call has made that began at base. -/
theorem RowR.made {w W : World} {e : TypeId} {base : Nat} {v : Value} {ts : List Tr} (h : RowR W e base v ts) (hb : w.heap.size ≤ base) (hl : ts.length ≤ 9223372036854775807) : MadeRs w W v ts := fun W' g1 g2 => by
  obtain ⟨vs, h1, h2, h3⟩ := h
  have hrow : ∀ g, v.ownBlock = some g → W'.heap[g]? = W.heap[g]? := fun g e => g2 g (Nat.le_trans hb (own_row_ge h3 g e)) (own_row_lt h3 g e)
  refine OwnRv.trs (w0 := W') (e := e) (base := base) ⟨vs, h1, fun x hx => ?_, own_at h3 hrow⟩ (fun x h => h) hl
  obtain ⟨lo, hi, k1, _, k3, _, k5⟩ := h2 x hx
  exact k5 W' (Nat.le_trans k3 g1) fun k q1 q2 => g2 k (by omega) (by omega)
theorem RowR.trs {W : World} {e : TypeId} {base : Nat} {v : Value} {ts : List Tr} (h : RowR W e base v ts) (hl : ts.length ≤ 9223372036854775807) : Trs W v ts := by
  obtain ⟨vs, h1, h2, h3⟩ := h
  exact OwnRv.trs (w0 := W) (e := e) (base := base) ⟨vs, h1, fun x hx => (h2 x hx).ok, h3⟩ (fun x h => h) hl
end Go.Proofs.YtldgbdmiebipnaaGreatDoor

namespace Go.Proofs.YtldgbdmiebipnaaGreatDoor
open Go.RowKit

/-- A token's numbers are int's, and its text is no longer than a text can be. -/
structure TokOk (t : Tok) : Prop where
  nlo : -9223372036854775808 ≤ t.n
  nhi : t.n ≤ 9223372036854775807
  plo : -9223372036854775808 ≤ t.place
  phi : t.place ≤ 9223372036854775807
  len : t.text.size ≤ 9223372036854775807
/-- What a call of Term leaves. -/
def TermGPost (L : List Tok) (i op : Nat) (w : World) (e : Ending) (w' : World) : Prop :=
  ∃ y : Rv, e = .returned (.tuple #[y.val, .int .i64 (termP L i op).2.1, .bool (termP L i op).2.2]) ∧ y.t = (termP L i op).1 ∧ MadeR w w' y ∧ Below w.heap.size w w'
def TermsGPost (L : List Tok) (i : Nat) (sg : ByteArray) (op : Nat) (w : World) (e : Ending) (w' : World) : Prop :=
  ∃ v, e = .returned (.tuple #[v, .int .i64 (termsP L i sg op).2.1, .bool (termsP L i sg op).2.2]) ∧ MadeRs w w' v (termsP L i sg op).1 ∧ Below w.heap.size w w' ∧ RowR w' 87 w.heap.size v (termsP L i sg op).1 ∧ (termsP L i sg op).1.length ≤ 1000000
theorem leafK_bd (t : Tok) : 0 ≤ leafK t ∧ leafK t ≤ 4 := by unfold leafK; repeat' split; all_goals omega
theorem rv_plain {k : Int} {s : ByteArray} {n p : Int} (h : FitR k s n p) (w w' : World) : MadeR w w' ⟨.mk k s n p [], none, 0⟩ := fun _ _ _ => ⟨h, by show (0 : Nat) ≤ _ ∧ (0 : Nat) ≤ 0; omega, .inl rfl⟩
theorem rv_args {w w3 w4 U : World} {k : Int} {s : ByteArray} {n p : Int} {xs : List Tr} {a : Option Addr} {m c : Nat} (h : FitR k s n p) (hm : MadeRs w3 w4 (.slice a m c) xs) (h1 : w.heap.size ≤ w3.heap.size) (h2 : w4.heap.size ≤ U.heap.size) (h3 : ∀ j, w3.heap.size ≤ j → j < w4.heap.size → U.heap[j]? = w4.heap[j]?) :
    MadeR w U ⟨.mk k s n p xs, a, c⟩ := fun W g1 g2 => by
  obtain ⟨a', c', e, ha⟩ := hm W (Nat.le_trans h2 g1) fun j j1 j2 => (g2 j (Nat.le_trans h1 j1) (Nat.lt_of_lt_of_le j2 h2)).trans (h3 j j1 j2)
  cases e
  exact ⟨h, ha⟩

theorem sets5_heap (w : World) (g : Nat) (y0 y1 y2 y3 y4 : Value) : ∀ b, b ≠ g → (((((w.setCell ⟨g, 0, none⟩ y0).setCell ⟨g, 1, none⟩ y1).setCell ⟨g, 2, none⟩ y2).setCell ⟨g, 3, none⟩ y3).setCell ⟨g, 4, none⟩ y4).heap[b]? = w.heap[b]? := fun b h => by
  rw [Below.heap_setCell _ _ _ _ h, Below.heap_setCell _ _ _ _ h, Below.heap_setCell _ _ _ _ h, Below.heap_setCell _ _ _ _ h, Below.heap_setCell _ _ _ _ h]
theorem Box5.set4 {w : World} {g : Nat} {x0 x1 x2 x3 x4 : Value} (h : Box5 w g x0 x1 x2 x3 x4) (y4 : Value) : Box5 (w.setCell ⟨g, 4, none⟩ y4) g x0 x1 x2 x3 y4 where
  c0 := by rw [cell_off5 g 4 0 (by decide)]; exact h.c0
  c1 := by rw [cell_off5 g 4 1 (by decide)]; exact h.c1
  c2 := by rw [cell_off5 g 4 2 (by decide)]; exact h.c2
  c3 := by rw [cell_off5 g 4 3 (by decide)]; exact h.c3
  c4 := World.cell?_setCell_same (u := x4) _ _ _ h.c4
  f0 := by simp [h.f0]
  f1 := by simp [h.f1]
  f2 := by simp [h.f2]
  f3 := by simp [h.f3]
  f4 := by simp [h.f4]

set_option maxRecDepth 100000 in
set_option maxHeartbeats 8000000 in
theorem rterm_one (v : Value) (L : List Tok) (hE : Ended L) (hO : ∀ i, TokOk (tkD L i)) (hlen : L.length ≤ 100000) (i op : Nat) (hi : i < L.length) (hop : op ≤ 1000) (w : World) (hv : Toks w v L)
    (hT : ∀ (j : Nat) (W : World), op < 40 → i < j → j < L.length → Toks W v L → Calls Tryz.prog 37 #[v, .int .i64 j, .string sComma, .int .i64 ((op : Int) + 1)] W (TermsGPost L j sComma (op + 1) W)) :
    Calls Tryz.prog 35 #[v, .int .i64 i, .int .i64 op] w (TermGPost L i op w) := by
  have HVB := Lib.hid (fun (W : World) (h : Below w.heap.size w W) => hv.below h)
  obtain ⟨a, c, rfl, hl, h⟩ := hv
  rcases h with h | ⟨b, off, rfl, hlt, hc⟩
  · subst h; cases hi
  obtain ⟨t, ht⟩ : ∃ t, tkD L i = t := ⟨_, rfl⟩
  have hok := hO i
  have HL1 := Lib.hid (fun h => termP_leaf (L := L) (i := i) (op := op) h)
  have HL2 := Lib.hid (fun h1 h2 => termP_none (L := L) (i := i) (op := op) h1 h2)
  have HL3 := Lib.hid (fun h1 h2 h3 => termP_const (L := L) (i := i) (op := op) h1 h2 h3)
  have HL4 := Lib.hid (fun h1 h2 h3 h4 => termP_deep (L := L) (i := i) (op := op) h1 h2 h3 h4)
  have HL5 := Lib.hid (fun h1 h2 h3 h4 => termP_args (L := L) (i := i) (op := op) h1 h2 h3 h4)
  have HIN := Lib.hid (fun h => hE i h)
  rw [ht] at hok HL1 HL2 HL3 HL4 HL5 HIN
  have hti : L[i] = t := by rw [← ht, tkD_at hi]
  have hci := hc i hi
  rw [hti] at hci
  obtain ⟨m0, m1, m2, m3⟩ := hci
  have hk1 : (i : Int) < (L.length : Int) := by omega
  have hk0 : (0 : Int) ≤ (i : Int) := by omega
  have HC := Lib.hid (fun (j : Nat) (hj : j < L.length) (W : World) (h : Below w.heap.size w W) => (hc j hj).below h hlt)
  have WK := Lib.hid (fun (W : World) => rwordk_any t W)
  have hkb := leafK_bd t
  clear ht hti hc
  obtain ⟨tk, tx, tn, tp⟩ := t
  obtain ⟨ok1, ok2, ok3, ok4, ok5⟩ := hok
  unfold tokVal at WK
  simp only at m0 m1 m2 m3 WK ok1 ok2 ok3 ok4 ok5 HL1 HL2 HL3 HL4 HL5 HIN
  obtain ⟨lk, hlk⟩ : ∃ lk, leafK ⟨tk, tx, tn, tp⟩ = lk := ⟨_, rfl⟩
  rw [hlk] at hkb HL1 HL2 HL3 HL4 HL5
  obtain ⟨wa, hwa⟩ : ∃ wa, wa = (w.alloc (.cells #[.int .i64 0, .string ⟨#[]⟩, .int .i64 0, .int .i64 0, .slice none 0 0] 87)).alloc (.cells #[.int .i64 tk, .string tx, .int .i64 tn, .int .i64 tp] 50) := ⟨_, rfl⟩
  go_enter Tryz.func35, Tryz.ntmps35
  go_wp2_with fail
  rw [← hwa]
  have bt := box_new (w.alloc (.cells #[.int .i64 0, .string ⟨#[]⟩, .int .i64 0, .int .i64 0, .slice none 0 0] 87)) (.int .i64 tk) (.string tx) (.int .i64 tn) (.int .i64 tp) 50
  have br := (box5_new w (.int .i64 0) (.string ⟨#[]⟩) (.int .i64 0) (.int .i64 0) (.slice none 0 0) 87).below ((Below.refl _ _).alloc (Nat.le_refl _) (.cells #[.int .i64 tk, .string tx, .int .i64 tn, .int .i64 tp] 50)) (by simp)
  have hb0 : Below w.heap.size w wa := by rw [hwa]; exact ((Below.refl _ _).alloc (Nat.le_refl _) _).alloc (by simp) _
  rw [← hwa] at bt br
  rw [show (w.alloc (.cells #[.int .i64 0, .string ⟨#[]⟩, .int .i64 0, .int .i64 0, .slice none 0 0] 87)).heap.size = w.heap.size + 1 from by simp] at bt
  have hwz : wa.heap.size = w.heap.size + 2 := by rw [hwa]; simp
  have hlt2 : w.heap.size + 1 < wa.heap.size := by omega
  have KEEP := Lib.hid (fun (W : World) (h : Below wa.heap.size wa W) => (show W.cell? ⟨w.heap.size + 1, 0, none⟩ = some (.int .i64 tk) ∧ W.cell? ⟨w.heap.size + 1, 1, none⟩ = some (.string tx) ∧ W.cell? ⟨w.heap.size + 1, 2, none⟩ = some (.int .i64 tn) ∧ W.cell? ⟨w.heap.size + 1, 3, none⟩ = some (.int .i64 tp) from
    ⟨(bt.below h hlt2).c0, (bt.below h hlt2).c1, (bt.below h hlt2).c2, (bt.below h hlt2).c3⟩))
  have HBR := Lib.hid (fun (W : World) (h : Below wa.heap.size wa W) => br.below h (show w.heap.size < wa.heap.size by omega))
  have HB0 := Lib.hid hb0
  refine leaf_region _ wa (w.heap.size + 1) tk tx tn tp lk _ _ _ _ _ _ _ _ _ _ _ _ _ hlk KEEP (fun _ _ _ _ _ h => h) ?_
  intro V g hBV hg hx
  have HX := Lib.hid hx
  have HBV := Lib.hid hBV
  have HBW := Lib.hid (hb0.trans (hBV.mono hb0.size))
  have hgV := lt_of_cellR hx.c0
  have hwV : wa.heap.size ≤ V.heap.size := hBV.size
  obtain ⟨x0, x1, x2, x3, x4, xf0, xf1, xf2, xf3, xf4⟩ := hx
  clear hwa bt br hb0 hBV hlk
  by_cases hlk0 : lk = 0
  · subst hlk0
    have hne : ((0 : Int) != 0) = false := rfl
    cases hwk : wordK ⟨tk, tx, tn, tp⟩ with
    | false =>
      rw [hwk] at WK
      have HP := Lib.hid (HL2.out rfl hwk)
      clear hwk
      obtain ⟨e0, e1, e2, e3⟩ := KEEP.out V HBV.out
      go_wp2_with fail
      refine (WK.out _).mono ?_; rintro e V1 ⟨rfl, hb1⟩
      have HBV1 := Lib.hid (below_next HBV.out hb1)
      have HBW1 := Lib.hid (below_next HBW.out hb1)
      obtain ⟨x0, x1, x2, x3, x4, xf0, xf1, xf2, xf3, xf4⟩ := HX.out.below hb1 hgV
      have HR := Lib.hid (HBR.out V1 HBV1.out)
      have HR2 := Lib.hid (HR.out.sets (.int .i64 0) (.string tx) (.int .i64 tn) (.int .i64 tp) (.slice none 0 0))
      have HBE := Lib.hid (below_sets5 HBW1.out (Nat.le_refl _) (.int .i64 0) (.string tx) (.int .i64 tn) (.int .i64 tp) (.slice none 0 0))
      have hFit : FitR 0 tx tn tp := ⟨by omega, by omega, ok1, ok2, ok3, ok4, ok5⟩
      obtain ⟨r0, r1, r2, r3, r4, rf0, rf1, rf2, rf3, rf4⟩ := HR.out
      clear hb1
      go_wp2_with fail
      obtain ⟨r0, r1, r2, r3, r4, rf0, rf1, rf2, rf3, rf4⟩ := HR2.out
      refine bodyPost_ret (v := .tuple #[.agg #[.int .i64 0, .string tx, .int .i64 tn, .int .i64 tp, .slice none 0 0], .int .i64 i, .bool false]) (by simp [results, Tryz.results35, go_sem, r0, r1, r2, r3, r4]) rfl ?_
      unfold TermGPost
      rw [HP.out]
      exact ⟨⟨.mk 0 tx tn tp [], none, 0⟩, rfl, rfl, rv_plain hFit _ _, HBE.out⟩
    | true =>
      rw [hwk] at WK
      have HL3' := Lib.hid (HL3.out rfl hwk)
      have HL4' := Lib.hid (HL4.out rfl hwk)
      have HL5' := Lib.hid (HL5.out rfl hwk)
      have hi1 : i + 1 < L.length := HIN.out (show tk ≠ 0 by rw [show tk = 1 from wordK_kind hwk]; decide)
      have HIN2 := Lib.hid (fun h => hE (i + 1) h)
      obtain ⟨u, hu⟩ : ∃ u, tkD L (i + 1) = u := ⟨_, rfl⟩
      have hui : L[i + 1] = u := by rw [← hu, tkD_at hi1]
      have HCU := Lib.hid (fun (W : World) (h : Below w.heap.size w W) => (show TokAt W b (off + (i + 1) * 4) u by rw [← hui]; exact HC.out (i + 1) hi1 W h))
      rw [hu] at HL3' HL4' HL5' HIN2
      have IS := Lib.hid (fun (W : World) => ris_any u sOpen W)
      clear hu hui hwk
      obtain ⟨uk, ux, un, up⟩ := u
      unfold tokVal at IS
      simp only at IS
      have hi1c : (i : Int) + 1 < (L.length : Int) := by omega
      have hi10 : (0 : Int) ≤ (i : Int) + 1 := by omega
      obtain ⟨e0, e1, e2, e3⟩ := KEEP.out V HBV.out
      have hFit : FitR 5 tx 0 tp := ⟨by omega, by omega, by omega, by omega, ok3, ok4, ok5⟩
      go_wp2_with fail
      refine (WK.out _).mono ?_; rintro e V1 ⟨rfl, hb1⟩
      have HBV1 := Lib.hid (below_next HBV.out hb1)
      have HBW1 := Lib.hid (below_next HBW.out hb1)
      have hx1 := HX.out.below hb1 hgV
      have hgV1 : g < V1.heap.size := Nat.lt_of_lt_of_le hgV hb1.size
      obtain ⟨x0, x1, x2, x3, x4, xf0, xf1, xf2, xf3, xf4⟩ := hx1
      have hB2 : Below wa.heap.size wa ((V1.setCell ⟨g, 0, none⟩ (.int .i64 5)).setCell ⟨g, 2, none⟩ (.int .i64 0)) := (HBV1.out.setCell (p := ⟨g, 0, none⟩) hg _).setCell (p := ⟨g, 2, none⟩) hg _
      have hW2 : Below w.heap.size w ((V1.setCell ⟨g, 0, none⟩ (.int .i64 5)).setCell ⟨g, 2, none⟩ (.int .i64 0)) := (HBW1.out.setCell (p := ⟨g, 0, none⟩) (show w.heap.size ≤ g by omega) _).setCell (p := ⟨g, 2, none⟩) (show w.heap.size ≤ g by omega) _
      have hX2 : Box5 ((V1.setCell ⟨g, 0, none⟩ (.int .i64 5)).setCell ⟨g, 2, none⟩ (.int .i64 0)) g (.int .i64 5) (.string tx) (.int .i64 0) (.int .i64 tp) (.slice none 0 0) := by
        refine ⟨?_, ?_, ?_, ?_, ?_, by simp [xf0], by simp [xf1], by simp [xf2], by simp [xf3], by simp [xf4]⟩
        · rw [cell_off5 g 2 0 (by decide)]; exact World.cell?_setCell_same _ _ _ x0
        · rw [cell_off5 g 2 1 (by decide), cell_off5 g 0 1 (by decide)]; exact x1
        · refine World.cell?_setCell_same (u := .int .i64 tn) _ _ _ ?_
          rw [cell_off5 g 0 2 (by decide)]; exact x2
        · rw [cell_off5 g 2 3 (by decide), cell_off5 g 0 3 (by decide)]; exact x3
        · rw [cell_off5 g 2 4 (by decide), cell_off5 g 0 4 (by decide)]; exact x4
      have hgz : ((V1.setCell ⟨g, 0, none⟩ (.int .i64 5)).setCell ⟨g, 2, none⟩ (.int .i64 0)).heap.size = V1.heap.size := by simp
      clear hb1
      obtain ⟨u0, u1, u2, u3⟩ := HCU.out _ hW2
      have hoff : off + (i + 1) * 4 = off + (i * 4 + 4) := by omega
      simp only at u0 u1 u2 u3
      obtain ⟨V2, hV2⟩ : ∃ V2, ((V1.setCell ⟨g, 0, none⟩ (.int .i64 5)).setCell ⟨g, 2, none⟩ (.int .i64 0)) = V2 := ⟨_, rfl⟩
      rw [hV2] at hB2 hW2 hX2 hgz u0 u1 u2 u3
      have HB2 := Lib.hid hB2
      have HW2 := Lib.hid hW2
      have HX2 := Lib.hid hX2
      have hg2 : g < V2.heap.size := by omega
      have HV2 := Lib.hid hV2
      clear hB2 hW2 hX2 hgz hoff
      go_wp2_with fail
      refine (IS.out _).mono ?_; rintro e V3 ⟨rfl, hb3⟩
      have HBV3 := Lib.hid (below_next HB2.out hb3)
      have HBW3 := Lib.hid (below_next HW2.out hb3)
      have HX3 := Lib.hid (HX2.out.below hb3 hg2)
      have hgV3 : g < V3.heap.size := Nat.lt_of_lt_of_le hg2 hb3.size
      clear hb3 HV2 hV2 u0 u1 u2 u3
      cases hs : isS ⟨uk, ux, un, up⟩ sOpen with
      | false =>
        rw [hs] at HL3' IS
        have HP := Lib.hid (HL3'.out rfl)
        have HR := Lib.hid (HBR.out V3 HBV3.out)
        have HR2 := Lib.hid (HR.out.sets (.int .i64 5) (.string tx) (.int .i64 0) (.int .i64 tp) (.slice none 0 0))
        have HBE := Lib.hid (below_sets5 HBW3.out (Nat.le_refl _) (.int .i64 5) (.string tx) (.int .i64 0) (.int .i64 tp) (.slice none 0 0))
        obtain ⟨r0, r1, r2, r3, r4, rf0, rf1, rf2, rf3, rf4⟩ := HR.out
        obtain ⟨q0, q1, q2, q3, q4, _, _, _, _, _⟩ := HX3.out
        clear hs
        go_wp2_with fail
        obtain ⟨r0, r1, r2, r3, r4, rf0, rf1, rf2, rf3, rf4⟩ := HR2.out
        refine bodyPost_ret (v := .tuple #[.agg #[.int .i64 5, .string tx, .int .i64 0, .int .i64 tp, .slice none 0 0], .int .i64 ((i : Int) + 1), .bool true]) (by simp [results, Tryz.results35, go_sem, r0, r1, r2, r3, r4]) rfl ?_
        unfold TermGPost
        rw [HP.out]
        exact ⟨⟨.mk 5 tx 0 tp [], none, 0⟩, rfl, rfl, rv_plain hFit _ _, HBE.out⟩
      | true =>
        rw [hs] at HL4' HL5' IS
        have huk : uk = 6 := sgn_kind hs
        have hi2 : i + 2 < L.length := HIN2.out (by show uk ≠ 0; rw [huk]; decide)
        clear hs huk
        by_cases h40 : 40 ≤ op
        · have HP := Lib.hid (HL4'.out rfl h40)
          have h40c : (op : Int) ≥ 40 := by omega
          have HR := Lib.hid (HBR.out V3 HBV3.out)
          have HR2 := Lib.hid (HR.out.sets (.int .i64 5) (.string tx) (.int .i64 0) (.int .i64 tp) (.slice none 0 0))
          have HBE := Lib.hid (below_sets5 HBW3.out (Nat.le_refl _) (.int .i64 5) (.string tx) (.int .i64 0) (.int .i64 tp) (.slice none 0 0))
          obtain ⟨r0, r1, r2, r3, r4, rf0, rf1, rf2, rf3, rf4⟩ := HR.out
          obtain ⟨q0, q1, q2, q3, q4, _, _, _, _, _⟩ := HX3.out
          go_wp2_with fail
          obtain ⟨r0, r1, r2, r3, r4, rf0, rf1, rf2, rf3, rf4⟩ := HR2.out
          refine bodyPost_ret (v := .tuple #[.agg #[.int .i64 5, .string tx, .int .i64 0, .int .i64 tp, .slice none 0 0], .int .i64 ((i : Int) + 1), .bool false]) (by simp [results, Tryz.results35, go_sem, r0, r1, r2, r3, r4]) rfl ?_
          unfold TermGPost
          rw [HP.out]
          exact ⟨⟨.mk 5 tx 0 tp [], none, 0⟩, rfl, rfl, rv_plain hFit _ _, HBE.out⟩
        · have HP := HL5'.out rfl h40
          have h40c : (op : Int) < 40 := by omega
          have hn2 := termsP_in hE sComma (op + 1) hi2
          obtain ⟨ys, hys⟩ : ∃ ys, (termsP L (i + 2) sComma (op + 1)).1 = ys := ⟨_, rfl⟩
          obtain ⟨n2, hn2e⟩ : ∃ n2, (termsP L (i + 2) sComma (op + 1)).2.1 = n2 := ⟨_, rfl⟩
          obtain ⟨b2, hb2e⟩ : ∃ b2, (termsP L (i + 2) sComma (op + 1)).2.2 = b2 := ⟨_, rfl⟩
          have HT := Lib.hid (fun (W : World) (h : Below w.heap.size w W) => hT (i + 2) W (by omega) (by omega) hi2 (HVB.out W h))
          unfold TermsGPost at HT
          rw [hys, hn2e, hb2e] at HT HP
          rw [hn2e] at hn2
          rw [show ((i + 2 : Nat) : Int) = (i : Int) + 2 from by omega] at HT
          replace HP := Lib.hid HP
          clear hys hn2e hb2e hT
          go_wp2_with fail
          refine (HT.out _ HBW3.out).mono ?_; rintro e V4 ⟨v, rfl, hm, hb4, _, _⟩
          have HBV4 := Lib.hid (below_next HBV3.out hb4)
          have HBW4 := Lib.hid (below_next HBW3.out hb4)
          have HX4 := Lib.hid (HX3.out.below hb4 hgV3)
          obtain ⟨aY, cY, rfl, hYs⟩ := hm.trs
          have HM := Lib.hid hm
          have hz34 : V3.heap.size ≤ V4.heap.size := hb4.size
          clear hYs hm hb4
          obtain ⟨q0, q1, q2, q3, q4, qf0, qf1, qf2, qf3, qf4⟩ := HX4.out
          have HX5 := Lib.hid (HX4.out.set4 (.slice aY ys.length cY))
          have HBV5 := Lib.hid (HBV4.out.setCell (p := ⟨g, 4, none⟩) hg (.slice aY ys.length cY))
          have HBW5 := Lib.hid (HBW4.out.setCell (p := ⟨g, 4, none⟩) (show w.heap.size ≤ g by omega) (.slice aY ys.length cY))
          have HK5 := Lib.hid (fun j (h : j ≠ g) => Below.heap_setCell V4 ⟨g, 4, none⟩ (.slice aY ys.length cY) j h)
          have hz5 : (V4.setCell ⟨g, 4, none⟩ (.slice aY ys.length cY)).heap.size = V4.heap.size := by simp
          obtain ⟨V5, hV5⟩ : ∃ V5, V4.setCell ⟨g, 4, none⟩ (.slice aY ys.length cY) = V5 := ⟨_, rfl⟩
          rw [hV5] at HX5 HBV5 HBW5 HK5 hz5
          cases b2 with
          | false =>
            have HQ := Lib.hid (HP.out.trans (if_pos (.inl rfl)))
            have HR := Lib.hid (HBR.out V5 HBV5.out)
            have HR2 := Lib.hid (HR.out.sets (.int .i64 5) (.string tx) (.int .i64 0) (.int .i64 tp) (.slice aY ys.length cY))
            have HBE := Lib.hid (below_sets5 HBW5.out (Nat.le_refl _) (.int .i64 5) (.string tx) (.int .i64 0) (.int .i64 tp) (.slice aY ys.length cY))
            have HMK := Lib.hid (rv_args (U := ((((V5.setCell ⟨w.heap.size, 0, none⟩ (.int .i64 5)).setCell ⟨w.heap.size, 1, none⟩ (.string tx)).setCell ⟨w.heap.size, 2, none⟩ (.int .i64 0)).setCell ⟨w.heap.size, 3, none⟩ (.int .i64 tp)).setCell ⟨w.heap.size, 4, none⟩ (.slice aY ys.length cY)) hFit HM.out HBW3.out.size (by simp [hz5]) (fun j j1 j2 => by
              have := HBW3.out.size
              rw [sets5_heap _ _ _ _ _ _ _ j (by omega), HK5.out j (by omega)]))
            obtain ⟨r0, r1, r2, r3, r4, rf0, rf1, rf2, rf3, rf4⟩ := HR.out
            obtain ⟨z0, z1, z2, z3, z4, _, _, _, _, _⟩ := HX5.out
            go_wp2_with fail
            (try rw [hV5])
            obtain ⟨r0, r1, r2, r3, r4, rf0, rf1, rf2, rf3, rf4⟩ := HR2.out
            refine bodyPost_ret (v := .tuple #[.agg #[.int .i64 5, .string tx, .int .i64 0, .int .i64 tp, .slice aY ys.length cY], .int .i64 (n2 : Int), .bool false]) (by simp [results, Tryz.results35, go_sem, r0, r1, r2, r3, r4]) rfl ?_
            unfold TermGPost
            rw [HQ.out]
            exact ⟨⟨.mk 5 tx 0 tp ys, aY, cY⟩, rfl, rfl, HMK.out, HBE.out⟩
          | true =>
            obtain ⟨z, hz⟩ : ∃ z, tkD L n2 = z := ⟨_, rfl⟩
            have hzi : L[n2] = z := by rw [← hz, tkD_at hn2]
            have HZ := HC.out n2 hn2 V5 HBW5.out
            rw [hzi] at HZ
            rw [hz] at HP
            have IZ := Lib.hid (fun (W : World) => ris_any z sClose W)
            clear hz hzi
            obtain ⟨zk, zx, zn, zp⟩ := z
            unfold tokVal at IZ
            obtain ⟨u0, u1, u2, u3⟩ := HZ
            simp only at u0 u1 u2 u3 IZ
            have hn2c : (n2 : Int) < (L.length : Int) := by omega
            have hn20 : (0 : Int) ≤ (n2 : Int) := by omega
            go_wp2_with fail
            (try rw [hV5])
            (try go_wp2_with fail)
            refine (IZ.out _).mono ?_; rintro e V6 ⟨rfl, hb6⟩
            have HBV6 := Lib.hid (below_next HBV5.out hb6)
            have HBW6 := Lib.hid (below_next HBW5.out hb6)
            have hg5 : g < V5.heap.size := by have := HBV4.out.size; omega
            have HX6 := Lib.hid (HX5.out.below hb6 hg5)
            have HK6 := Lib.hid (fun j (h : j < V5.heap.size) => hb6.block j h)
            have hz6 : V5.heap.size ≤ V6.heap.size := hb6.size
            have HR := Lib.hid (HBR.out V6 HBV6.out)
            have HR2 := Lib.hid (HR.out.sets (.int .i64 5) (.string tx) (.int .i64 0) (.int .i64 tp) (.slice aY ys.length cY))
            have HBE := Lib.hid (below_sets5 HBW6.out (Nat.le_refl _) (.int .i64 5) (.string tx) (.int .i64 0) (.int .i64 tp) (.slice aY ys.length cY))
            have HMK := Lib.hid (rv_args (U := ((((V6.setCell ⟨w.heap.size, 0, none⟩ (.int .i64 5)).setCell ⟨w.heap.size, 1, none⟩ (.string tx)).setCell ⟨w.heap.size, 2, none⟩ (.int .i64 0)).setCell ⟨w.heap.size, 3, none⟩ (.int .i64 tp)).setCell ⟨w.heap.size, 4, none⟩ (.slice aY ys.length cY)) hFit HM.out HBW3.out.size (by simp; omega) (fun j j1 j2 => by
              have := HBW3.out.size
              rw [sets5_heap _ _ _ _ _ _ _ j (by omega), HK6.out j (by omega), HK5.out j (by omega)]))
            obtain ⟨r0, r1, r2, r3, r4, rf0, rf1, rf2, rf3, rf4⟩ := HR.out
            obtain ⟨z0, z1, z2, z3, z4, _, _, _, _, _⟩ := HX6.out
            clear hb6 u0 u1 u2 u3
            cases hs2 : isS ⟨zk, zx, zn, zp⟩ sClose with
            | false =>
              have HQ := Lib.hid (HP.out.trans (if_pos (.inr hs2)))
              clear hs2
              go_wp2_with fail
              obtain ⟨r0, r1, r2, r3, r4, rf0, rf1, rf2, rf3, rf4⟩ := HR2.out
              refine bodyPost_ret (v := .tuple #[.agg #[.int .i64 5, .string tx, .int .i64 0, .int .i64 tp, .slice aY ys.length cY], .int .i64 (n2 : Int), .bool false]) (by simp [results, Tryz.results35, go_sem, r0, r1, r2, r3, r4]) rfl ?_
              unfold TermGPost
              rw [HQ.out]
              exact ⟨⟨.mk 5 tx 0 tp ys, aY, cY⟩, rfl, rfl, HMK.out, HBE.out⟩
            | true =>
              have HQ := Lib.hid (HP.out.trans (if_neg (by rw [hs2]; simp)))
              clear hs2
              go_wp2_with fail
              obtain ⟨r0, r1, r2, r3, r4, rf0, rf1, rf2, rf3, rf4⟩ := HR2.out
              refine bodyPost_ret (v := .tuple #[.agg #[.int .i64 5, .string tx, .int .i64 0, .int .i64 tp, .slice aY ys.length cY], .int .i64 ((n2 : Int) + 1), .bool true]) (by simp [results, Tryz.results35, go_sem, r0, r1, r2, r3, r4]) rfl ?_
              unfold TermGPost
              rw [HQ.out]
              exact ⟨⟨.mk 5 tx 0 tp ys, aY, cY⟩, rfl, rfl, HMK.out, HBE.out⟩
  · have hne : (lk != 0) = true := by simpa using hlk0
    have HP := Lib.hid (HL1.out hlk0)
    have HR := Lib.hid (HBR.out V HBV.out)
    have HR2 := Lib.hid ((HBR.out V HBV.out).sets (.int .i64 lk) (.string tx) (.int .i64 tn) (.int .i64 tp) (.slice none 0 0))
    have HBE := Lib.hid (below_sets5 HBW.out (Nat.le_refl _) (.int .i64 lk) (.string tx) (.int .i64 tn) (.int .i64 tp) (.slice none 0 0))
    obtain ⟨r0, r1, r2, r3, r4, rf0, rf1, rf2, rf3, rf4⟩ := HR.out
    have hFit : FitR lk tx tn tp := ⟨by omega, by omega, ok1, ok2, ok3, ok4, ok5⟩
    clear hlk0
    go_wp2_with fail
    obtain ⟨r0, r1, r2, r3, r4, rf0, rf1, rf2, rf3, rf4⟩ := HR2.out
    refine bodyPost_ret (v := .tuple #[.agg #[.int .i64 lk, .string tx, .int .i64 tn, .int .i64 tp, .slice none 0 0], .int .i64 ((i : Int) + 1), .bool true]) (by simp [results, Tryz.results35, go_sem, r0, r1, r2, r3, r4]) rfl ?_
    unfold TermGPost
    rw [HP.out]
    exact ⟨⟨.mk lk tx tn tp [], none, 0⟩, rfl, rfl, rv_plain hFit _ _, HBE.out⟩
end Go.Proofs.YtldgbdmiebipnaaGreatDoor
