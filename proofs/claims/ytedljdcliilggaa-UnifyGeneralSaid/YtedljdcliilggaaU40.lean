/-
  Whether binds become others, if some more are put in them, by the program: General.
  Where any binds make two terms alike, what is found is most general: the law answers true.
-/
import Derived.Test.YtedljdcliilggaaU39
import Derived.Test.YtedljdcliilggaaU37
import Derived.Test.YtedljdcliilggaaU29
import Derived.Test.YtedljdcliilggaaU21
import Derived.Test.YtedljdcliilggaaU38
import Derived.Test.YtedljdcliilggaaU14
namespace Go.Proofs.Ytedljdcliilggaa
open Go.RowKit Go.Maps

theorem gen_more (bs : List Bn) : ∀ (l m : List Bn), (moreL (l.map Prod.snd) (l.map fun x => appT bs (varT x.1)) m).isSome = genL bs l m
  | [], m => by rw [List.map_nil, List.map_nil, moreL_nil, genL]; rfl
  | x :: l, m => by
    rw [List.map_cons, List.map_cons, moreL_cons, genL, app_var_get]
    cases moreT x.2 ((getB bs x.1).getD (varT x.1)) m with
    | none => rfl
    | some k => exact gen_more bs l k
theorem ofB_mem {l : List Bn} {x : Bn} (h : x ∈ ofB l) : ∃ y ∈ l, y.1 = x.1 ∧ y.2 = x.2 := by
  have h1 : getB (ofB l) x.1 = some x.2 := rising_at7 (ofB_rising _) h
  rw [ofB_get] at h1
  exact getB_mem2 h1
theorem partsL_le : ∀ (l : List Tm) (n : Nat), (∀ x ∈ l, x.parts ≤ n) → partsL l ≤ l.length * n
  | [], n, _ => by rw [partsL_nil]; simp
  | x :: l, n, h => by
    rw [partsL_cons, List.length_cons, Nat.succ_mul]
    have := partsL_le l n (fun y hy => h y (List.mem_cons_of_mem _ hy))
    have := h x List.mem_cons_self
    omega
theorem one4 (k n : Int) (s : ByteArray) (a : Option Addr) (m c : Nat) : ∀ x ∈ [Value.int .i64 k, .string s, .int .i64 n, .slice a m c], x.oneCell' = true := by
  intro x hx; simp at hx; rcases hx with rfl | rfl | rfl | rfl <;> rfl
theorem field_args (t : Tm) (a : Option Addr) (c : Nat) (W : World) : (Instr.field 24 (.agg #[.int .i64 t.kind, .string t.name, .int .i64 t.n, .slice a t.args.length c]) 3).run Try.prog W = .ok (.slice a t.args.length c) W := by kernel_rfl
theorem varT_ok {w : World} {s : ByteArray} (hs : s.size ≤ 9223372036854775807) : Tv.ok w ⟨varT s, none, 0⟩ := by
  refine ⟨⟨?_, ?_, ?_, ?_, ?_⟩, ?_, .inl rfl⟩
  all_goals (first | exact hs | (unfold varT; simp [Tm.kind, Tm.n, Tm.args]))

set_option maxRecDepth 100000 in
set_option maxHeartbeats 8000000 in
theorem pgen_any : AskGen := by
  intro cs bs va vb w ha hb hca hcb hpa hpb
  obtain ⟨i0, hi, hz0, hz1, hz2⟩ := info_parts termInfo
  have OF := Lib.hid (of_rd va cs w w ha (Reads.refl _) (by omega))
  have hol := ofB_length cs
  obtain ⟨os, hos⟩ : ∃ os, os = ofB cs := ⟨_, rfl⟩
  have HOM := Lib.hid (fun x (hx : x ∈ os) => (show PlainT x.2 ∧ x.2.parts ≤ 40 from by
    rw [hos] at hx
    obtain ⟨y, hy, _, e2⟩ := ofB_mem hx
    rw [← e2]; exact hpa y hy))
  rw [← hos] at OF hol ⊢
  have hol2 : os.length ≤ 80 := by omega
  have HB := Lib.hid hb
  have HPB := Lib.hid hpb
  obtain ⟨aa, ca, rfl, _, _⟩ := ha
  obtain ⟨ab, cb, rfl, _, _⟩ := id hb
  clear hb hpa hpb hca hol hos
  go_enter Try.func18, Try.ntmps18
  go_wp2_with fail
  refine OF.out.mono ?_; rintro e w1 ⟨u, rfl, _, ho, hb1⟩
  obtain ⟨vs, hvm, hvo, hvr⟩ := ho
  obtain ⟨au, cu, rfl, hau⟩ := own_shape hvr
  have HV := Lib.hid (And.intro hvm (And.intro hvo (And.intro hvr hb1)))
  clear hvm hvo hvr hb1 OF
  go_wp2_with fail
  go_loopw [5, 6, 15] (fun q r i wr => ∃ k : Nat, k ≤ os.length ∧ i = .int .i64 k ∧ Hid (OwnTv w wr w1.heap.size q ((os.take k).map fun x => varT x.1)) ∧ Hid (OwnTv w wr w1.heap.size r ((os.take k).map Prod.snd)) ∧ Hid (∀ g, q.ownBlock = some g → r.ownBlock ≠ some g) ∧ Hid (Below w1.heap.size w1 wr)) (fun _ _ i _ => os.length - (intOf i).toNat)
  case atStart => exact ⟨0, Nat.zero_le _, rfl, Lib.hid ⟨[], rfl, (fun _ h => nomatch h), World.ownsRow_nil _ _ _ _⟩, Lib.hid ⟨[], rfl, (fun _ h => nomatch h), World.ownsRow_nil _ _ _ _⟩, Lib.hid (fun _ h => nomatch h), Lib.hid (Below.refl _ _)⟩
  case round =>
    obtain ⟨k, hk, rfl, HQ, HR, HA, HBW⟩ := hrel
    obtain ⟨qs, q1, q2, q3⟩ := HQ.out
    obtain ⟨rs, r1, r2, r3⟩ := HR.out
    rw [List.length_map, List.length_take, Nat.min_eq_left hk] at q3 r3
    obtain ⟨aq, cq, rfl, _⟩ := own_shape q3
    obtain ⟨ar, cr, rfl, _⟩ := own_shape r3
    by_cases hkl : k < os.length
    · have hrow := own_same HV.out.2.2.1 (fun b hb => HBW.out.block b (HV.out.2.2.1.lt b hb).2)
      obtain ⟨g, rfl⟩ := hau (by omega)
      obtain ⟨z, hz⟩ : ∃ z, vs[k]? = some z := ⟨_, List.getElem?_eq_getElem (by
        have := congrArg List.length HV.out.1
        rw [List.length_map] at this; omega)⟩
      have hok := (HV.out.2.1 z (List.mem_of_getElem? hz))
      have hoz : os[k]? = some (z.s, z.v.t) := by rw [← HV.out.1, List.getElem?_map, hz]; rfl
      obtain ⟨m0, m1, m2, m3, m4, _, _, _, _, _⟩ := bv_five hrow hz
      obtain ⟨s, ⟨t, at_, ct⟩⟩ := z
      simp only at m0 m1 m2 m3 m4 hok hoz
      have hk0 : (0 : Int) ≤ (k : Int) := by omega
      have hk1 : (k : Int) < (os.length : Int) := by omega
      have hkd : decide ((k : Int) < (os.length : Int)) = true := decide_eq_true hk1
      have hk5 : (k : Int) ≤ 80 := by omega
      have hz1 : (wr.alloc (.cells #[.string s, .int .i64 t.kind, .string t.name, .int .i64 t.n, .slice at_ t.args.length ct] 41)).heap.size = wr.heap.size + 1 := by simp
      have bX := heap_alloc_new wr (.cells #[.string s, .int .i64 t.kind, .string t.name, .int .i64 t.n, .slice at_ t.args.length ct] 41)
      have hx0 : (wr.alloc (.cells #[.string s, .int .i64 t.kind, .string t.name, .int .i64 t.n, .slice at_ t.args.length ct] 41)).cell? ⟨wr.heap.size, 0, none⟩ = some (.string s) := by rw [cell_of_row _ _ 0 _ _ (0, 0) bX]; rfl
      have VA := Lib.hid (pvar_any s (wr.alloc (.cells #[.string s, .int .i64 t.kind, .string t.name, .int .i64 t.n, .slice at_ t.args.length ct] 41)))
      have hbs := HBW.out.size
      have HM1 : k + 1 ≤ maxLen := by unfold maxLen; omega
      have HM2 : (k + 1) * 56 ≤ 140737488355328 := by omega
      have HQ1 := Lib.hid (And.intro q1 (And.intro q2 q3))
      have HR1 := Lib.hid (And.intro r1 (And.intro r2 r3))
      have HOK := Lib.hid (And.intro hok hoz)
      have HBX := Lib.hid bX
      have HZ1 := Lib.hid hz1
      clear hrow hz hok hoz q1 q2 q3 r1 r2 r3 bX hz1
      go_wp2_with fail
      refine VA.out.mono ?_; rintro e w2 ⟨rfl, hb2⟩
      have hs2 := hb2.size
      have HB2 := Lib.hid hb2
      -- what the rows are behind Var and the new row of one term
      have hba : Below (wr.alloc (.cells #[.string s, .int .i64 t.kind, .string t.name, .int .i64 t.n, .slice at_ t.args.length ct] 41)).heap.size (wr.alloc (.cells #[.string s, .int .i64 t.kind, .string t.name, .int .i64 t.n, .slice at_ t.args.length ct] 41)) (w2.alloc (.cells #[.int .i64 1, .string s, .int .i64 0, .slice none 0 0] 24)) := hb2.alloc hb2.size _
      have hba0 : Below wr.heap.size wr (w2.alloc (.cells #[.int .i64 1, .string s, .int .i64 0, .slice none 0 0] 24)) := below_next ((Below.refl _ _).alloc (Nat.le_refl _) _) hba
      have HBA := Lib.hid hba0
      have HQ2 := Lib.hid (own_same HQ1.out.2.2 (fun b hb => hba0.block b (HQ1.out.2.2.lt b hb).2))
      have HR2 := Lib.hid (own_same HR1.out.2.2 (fun b hb => hba0.block b (HR1.out.2.2.lt b hb).2))
      have HNEW := Lib.hid (World.news_of_block (heap_alloc_new w2 (.cells #[.int .i64 1, .string s, .int .i64 0, .slice none 0 0] 24)))
      have HBASE := Lib.hid (show w1.heap.size ≤ (w2.alloc (.cells #[.int .i64 1, .string s, .int .i64 0, .slice none 0 0] 24)).heap.size by have := HZ1.out; simp; omega)
      have HXK := Lib.hid (fun (w3 : World) (hg : (w2.alloc (.cells #[.int .i64 1, .string s, .int .i64 0, .slice none 0 0] 24)).grownBy w3 (Value.slice aq k cq).ownBlock) => (show w3.heap[wr.heap.size]? = some (Obj.cells #[.string s, .int .i64 t.kind, .string t.name, .int .i64 t.n, .slice at_ t.args.length ct] 41) from by
        rw [hg.block wr.heap.size (by have := HZ1.out; simp; omega) (fun e => by have := (HQ1.out.2.2.lt _ e.symm).2; omega), hba.block wr.heap.size (by rw [HZ1.out]; omega)]
        exact HBX.out))
      clear hb2 hba hba0 VA m0 m1 m2 m3 m4 hx0
      have HR3 := Lib.hid (fun (w3 : World) (hg : (w2.alloc (.cells #[.int .i64 1, .string s, .int .i64 0, .slice none 0 0] 24)).grownBy w3 (Value.slice aq k cq).ownBlock) => own_same HR2.out (fun b hb => hg.block b (HR2.out.lt b hb).2 (fun e => HA.out b e.symm hb)))
      go_wp2_with (at_builtin; first | (refine wpList_append_own_at _ rfl _ _ 22 rfl w1.heap.size 24 i0 (.agg #[.int .i64 0, .string ⟨#[]⟩, .int .i64 0, .slice none 0 0]) 4 56 Try.underlying22 hi hz0 hz1 hz2 rfl (by decide) _ k (rowTv qs) rfl HQ2.out ⟨w2.heap.size, 0, none⟩ 1 1 [.int .i64 1, .string s, .int .i64 0, .slice none 0 0] rfl rfl HNEW.out (one4 _ _ _ _ _ _) HM1 HM2 HBASE.out ?_; intro v3 w3 hown3 hg3 _ hat3; obtain ⟨a3, c3, rfl, _⟩ := own_shape hown3; have bX3 := HXK.out w3 hg3; have n1 : w3.cell? ⟨wr.heap.size, 1, none⟩ = some (.int .i64 t.kind) := (by rw [cell_of_row _ _ 1 _ _ (0, 0) bX3]; rfl); have n2 : w3.cell? ⟨wr.heap.size, 2, none⟩ = some (.string t.name) := (by rw [cell_of_row _ _ 2 _ _ (0, 0) bX3]; rfl); have n3 : w3.cell? ⟨wr.heap.size, 3, none⟩ = some (.int .i64 t.n) := (by rw [cell_of_row _ _ 3 _ _ (0, 0) bX3]; rfl); have n4 : w3.cell? ⟨wr.heap.size, 4, none⟩ = some (.slice at_ t.args.length ct) := (by rw [cell_of_row _ _ 4 _ _ (0, 0) bX3]; rfl); have HR4 := Lib.hid ((HR3.out w3 hg3).alloc (.cells #[.int .i64 t.kind, .string t.name, .int .i64 t.n, .slice at_ t.args.length ct] 24)); have HNEW4 := Lib.hid (World.news_of_block (heap_alloc_new w3 (.cells #[.int .i64 t.kind, .string t.name, .int .i64 t.n, .slice at_ t.args.length ct] 24))); have HBASE4 := Lib.hid (show w1.heap.size ≤ (w3.alloc (.cells #[.int .i64 t.kind, .string t.name, .int .i64 t.n, .slice at_ t.args.length ct] 24)).heap.size by have h1 := HBASE.out; have h2 := hg3.size; simp; simp at h1 h2; omega); have H3 := Lib.hid (And.intro hown3 (And.intro hg3 hat3)); have hs3 := hg3.size; clear hown3 hg3 hat3 bX3) | (refine wpList_append_own_at _ rfl _ _ 22 rfl w1.heap.size 24 i0 (.agg #[.int .i64 0, .string ⟨#[]⟩, .int .i64 0, .slice none 0 0]) 4 56 Try.underlying22 hi hz0 hz1 hz2 rfl (by decide) _ k (rowTv rs) rfl HR4.out ⟨w3.heap.size, 0, none⟩ 1 1 [.int .i64 t.kind, .string t.name, .int .i64 t.n, .slice at_ t.args.length ct] rfl rfl HNEW4.out (one4 _ _ _ _ _ _) HM1 HM2 HBASE4.out ?_; intro v5 w5 hown5 hg5 _ hat5; obtain ⟨a5, c5, rfl, _⟩ := own_shape hown5; have H5 := Lib.hid (And.intro hown5 (And.intro hg5 hat5)); clear hown5 hg5 hat5))
      go_roundw
      case rel =>
        obtain ⟨h31, h32, h33⟩ := H3.out
        obtain ⟨h51, h52, h53⟩ := H5.out
        have htk : os.take (k + 1) = os.take k ++ [(s, t)] := by rw [List.take_add_one, HOK.out.2]; rfl
        have hqb : ∀ b, (Value.slice aq k cq).ownBlock = some b → w1.heap.size ≤ b ∧ b < wr.heap.size := fun b hb => HQ1.out.2.2.lt b hb
        have hrb : ∀ b, (Value.slice ar k cr).ownBlock = some b → w1.heap.size ≤ b ∧ b < wr.heap.size := fun b hb => HR1.out.2.2.lt b hb
        have hwa : wr.heap.size ≤ (w2.alloc (.cells #[.int .i64 1, .string s, .int .i64 0, .slice none 0 0] 24)).heap.size := by have := HZ1.out; simp; omega
        have hwb : (w3.alloc (.cells #[.int .i64 t.kind, .string t.name, .int .i64 t.n, .slice at_ t.args.length ct] 24)).heap.size = w3.heap.size + 1 := by simp
        have h3s := h32.size
        have hne : ∀ b, (Value.slice a3 (k + 1) c3).ownBlock = some b → (Value.slice ar k cr).ownBlock ≠ some b := fun b hb hc => by
          rcases h33 with e | e
          · rw [e] at hb; exact HA.out b hb hc
          · rw [e] at hb; cases hb; have := (hrb _ hc).2; omega
        have hb3 : Below w1.heap.size w1 w3 := (HBW.out.trans (HBA.out.mono HBW.out.size)).grown h32 HBASE.out (fun b hb => (hqb b hb).1)
        have hb5 : Below w1.heap.size w1 w5 := (hb3.alloc hb3.size (.cells #[.int .i64 t.kind, .string t.name, .int .i64 t.n, .slice at_ t.args.length ct] 24)).grown h52 HBASE4.out (fun b hb => (hrb b hb).1)
        refine ⟨k + 1, by omega, by go_num, Lib.hid ⟨qs ++ [⟨varT s, none, 0⟩], ?_, ?_, ?_⟩, Lib.hid ⟨rs ++ [⟨t, at_, ct⟩], ?_, ?_, ?_⟩, Lib.hid ?_, Lib.hid hb5⟩
        · rw [htk, List.map_append, List.map_append, HQ1.out.1]; rfl
        · intro x hx
          rcases List.mem_append.1 hx with hx | hx
          · exact HQ1.out.2.1 x hx
          · rw [List.mem_singleton] at hx; subst hx; exact varT_ok HOK.out.1.2
        · rw [List.length_map, List.length_take, Nat.min_eq_left (by omega), rowTv_append, rowTv_one]
          exact own_same h31 fun b hb => (h52.block b (by have := (h31.lt b hb).2; omega) (fun e => hne b hb e.symm)).trans (Below.heap_alloc _ _ _ (h31.lt b hb).2)
        · rw [htk, List.map_append, HR1.out.1, List.map_append]; rfl
        · intro x hx
          rcases List.mem_append.1 hx with hx | hx
          · exact HR1.out.2.1 x hx
          · rw [List.mem_singleton] at hx; subst hx; exact HOK.out.1.1
        · rw [List.length_map, List.length_take, Nat.min_eq_left (by omega), rowTv_append, rowTv_one]
          exact h51
        · intro b hb hc
          have hlt := (h31.lt b hb).2
          rcases h53 with e | e
          · rw [e] at hc; exact hne b hb hc
          · rw [e] at hc; cases hc; omega
      case measure => simp [intOf]; omega
    · have hke : k = os.length := by omega
      subst hke
      rw [List.take_length] at HQ HR
      have hkd : decide ((os.length : Int) < (os.length : Int)) = false := decide_eq_false (by omega)
      have hkn : ¬ (os.length : Int) < (os.length : Int) := by omega
      have hbw : Below w.heap.size w wr := below_next HV.out.2.2.2 HBW.out
      have TQ := HQ.out.tms (hbw) (by rw [List.length_map]; omega)
      have TR := HR.out.tms (hbw) (by rw [List.length_map]; omega)
      have FU := Lib.hid ((pfun_any ⟨#[]⟩ _ _ wr (by decide) TQ (by rw [List.length_map]; omega)).mono (fun e w' ⟨x, h1, h2, h3, h4⟩ => (show ∃ (tx : Tm) (ax : Option Addr) (cx : Nat), e = Ending.returned (.agg #[.int .i64 tx.kind, .string tx.name, .int .i64 tx.n, .slice ax tx.args.length cx]) ∧ tx = Tm.mk 5 ⟨#[]⟩ 0 (os.map fun (x : Bn) => varT x.1) ∧ Tv.ok w' ⟨tx, ax, cx⟩ ∧ Below wr.heap.size wr w' from ⟨x.t, x.a, x.c, h1, h2, h3, h4⟩)))
      have HTR := Lib.hid TR
      have HBWR := Lib.hid hbw
      clear TQ TR hbw q1 q2 q3 r1 r2 r3
      go_wp2_with fail
      refine FU.out.mono ?_; rintro e w4 ⟨tx, ax, cx, rfl, htx, hx4, hb4⟩
      have AP := Lib.hid ((apply_rd (.slice ab bs.length cb) bs ⟨tx, ax, cx⟩ w4 w4 (HB.out.below (below_next HBWR.out hb4)) (by omega) hx4 (by
        rw [htx, parts_eq]
        have := partsL_le (os.map fun (x : Bn) => varT x.1) 1 (fun x hx => by obtain ⟨y, _, rfl⟩ := List.mem_map.1 hx; show 1 ≤ 1; omega)
        rw [List.length_map] at this
        show partsL (os.map fun (x : Bn) => varT x.1) + 1 ≤ _
        omega) (Reads.refl _)).mono (fun e w' ⟨z, h1, h2, h3, h4⟩ => (show ∃ (tz : Tm) (az : Option Addr) (cz : Nat), e = Ending.returned (.agg #[.int .i64 tz.kind, .string tz.name, .int .i64 tz.n, .slice az tz.args.length cz]) ∧ tz = Tm.mk 5 ⟨#[]⟩ 0 (os.map fun (x : Bn) => appT bs (varT x.1)) ∧ Tv.ok w' ⟨tz, az, cz⟩ ∧ Below w4.heap.size w4 w' from ⟨z.t, z.a, z.c, h1, by rw [h2, htx, app_head (show (Tm.mk 5 ⟨#[]⟩ 0 (os.map fun (x : Bn) => varT x.1)).kind ≠ 1 by simp [Tm.kind]), appL_map]; simp [Tm.kind, Tm.name, Tm.n, Tm.args], h3.ok (h4.trans (Below.refl _ _)), h4⟩)))
      have HB4 := Lib.hid hb4
      simp only [Tv.val] at AP
      clear htx hx4 hb4 FU
      go_wp2_with fail
      refine AP.out.mono ?_; rintro e w5 ⟨tz, az, cz, rfl, htz, hz5, hb5⟩
      have hb45 := below_next HB4.out hb5
      have TZ : Tms w5 (.slice az tz.args.length cz) (os.map fun (x : Bn) => appT bs (varT x.1)) := by
        subst htz
        exact ⟨az, cz, rfl, hz5.2⟩
      have MA := Lib.hid ((pall_any (.slice none 0 0) _ _ _ _ [] w5 (HTR.out.below hb45) TZ (Bds.none_ _ _ _) (by
        have := partsL_le (os.map Prod.snd) 40 (fun x hx => by obtain ⟨y, hy, rfl⟩ := List.mem_map.1 hx; exact (HOM.out y hy).2)
        rw [List.length_map] at this
        simp only [List.length_nil]
        omega)).mono (fun e w' ⟨u, h1, _, h3⟩ => (show ∃ u, e = Ending.returned (.tuple #[u, .bool (genL bs os [])]) ∧ Below w5.heap.size w5 w' from ⟨u, by rw [h1, gen_more], h3⟩)))
      have HB5 := Lib.hid (below_next HBWR.out hb45)
      clear htz hz5 hb5 hb45 TZ AP
      have hfld := field_args tz az cz
      go_wp2_with fail
      refine MA.out.mono ?_; rintro e w6 ⟨u6, rfl, hb6⟩
      have HB6 := Lib.hid (below_next HB5.out hb6)
      clear hb6 MA
      go_wp2_with fail
      go_ret
      exact ⟨rfl, HB6.out⟩
end Go.Proofs.Ytedljdcliilggaa

namespace Go.Proofs.Ytedljdcliilggaa
open Go.RowKit

theorem lawGeneral7_any (x y : Tv) (v : Value) (s : List Bn) (w : World) (hx : x.ok w) (hy : y.ok w) (hv : Bds w v s) :
    Calls Try.prog 5 #[x.val, y.val, v] w fun e w' => e = .returned (.bool true) ∧ Below w.heap.size w w' :=
  lawGeneral7_of (awake7_of pcan_any punify_any) punify_any askApply_any askThen_any pgen_any x y v s w hx hy hv
end Go.Proofs.Ytedljdcliilggaa
