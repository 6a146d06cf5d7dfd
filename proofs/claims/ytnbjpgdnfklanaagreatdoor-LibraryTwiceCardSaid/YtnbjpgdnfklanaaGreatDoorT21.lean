/-
  The program's library, a primitive by its name: Get.
-/
import Derived.Test.YtnbjpgdnfklanaaGreatDoorT11
import Derived.Test.YtnbjpgdnfklanaaGreatDoorT12
import Derived.Test.YtnbjpgdnfklanaaGreatDoorT13
import Derived.Test.YtnbjpgdnfklanaaGreatDoorT14
import Derived.Test.YtnbjpgdnfklanaaGreatDoorT15
import Derived.Test.YtnbjpgdnfklanaaGreatDoorT16
import Derived.Test.YtnbjpgdnfklanaaGreatDoorT17
import Derived.Test.YtnbjpgdnfklanaaGreatDoorT18
import Derived.Test.YtnbjpgdnfklanaaGreatDoorT19
import Derived.Test.YtnbjpgdnfklanaaGreatDoorT20
namespace Go.Proofs.YtnbjpgdnfklanaaGreatDoor
open Go.RowKit
def entN (s : ByteArray) : ByteArray := if isEnt s then s else ⟨#[]⟩
def PGetPost (s : ByteArray) (w : World) (e : Ending) (w' : World) : Prop :=
  ∃ vf vr, e = .returned (.tuple #[.agg #[.string (entN s), vf, vr], .bool (isEnt s)]) ∧ Fus w' vf (entF s) ∧ Rls w' vr (entR s) ∧ Below w.heap.size w w'
theorem ent_none12 {s : ByteArray} (h : isEnt s = false) : entF s = [] ∧ entR s = [] := by
  have ht : libT s = ⟨#[]⟩ := by
    unfold isEnt at h
    have h0 : (libT s).toList.isEmpty = true := by simpa using h
    have h1 : (libT s).toList = (⟨#[]⟩ : ByteArray).toList := (List.isEmpty_iff.1 h0).trans (by kernel_rfl)
    exact toList_iff.1 (by rw [h1]; exact beq_self_eq_true _)
  unfold entF entR
  rw [ht]
  exact ⟨by kernel_rfl, by kernel_rfl⟩
theorem Ent.ahead {w0 W W' : World} {Z : Nat → Prop} {ef eq : TypeId} {base : Nat} {vf vr : Value} {fs : List Fn} {rs : List Rl} (h : Ent w0 W Z ef eq base vf fs vr rs) (hs : W.heap.size ≤ W'.heap.size) (hk : ∀ k, base ≤ k → W'.heap[k]? = W.heap[k]?) : Ent w0 W' Z ef eq base vf fs vr rs := by
  obtain ⟨h0, h1, ⟨us, k1, k2, k3⟩, ha, ho⟩ := h
  refine ⟨h0, own_at h1 fun g q => hk g (own_row_ge h1 g q), ⟨us, k1, fun x hx => ?_, own_at k3 fun g q => hk g (own_row_ge k3 g q)⟩, ha, ho⟩
  obtain ⟨lo, hi, q1, q2, q3, q4, q5⟩ := k2 x hx
  exact ⟨lo, hi, q1, q2, Nat.le_trans q3 hs, q4, fun W2 r0 r1 r2 => q5 W2 r0 r1 fun k j1 j2 => (r2 k j1 j2).trans (hk k (by omega))⟩
def FillI (k : Nat) : Prop := ∀ (w0 W : World) (eb : Nat) (nm : ByteArray), E0 W eb nm → ∀ f, fillAt k = .func (.func f) #[] #[] → Calls Tryz.prog f #[.pointer (some ⟨eb, 0, none⟩)] W (FillPost w0 W eb nm (entF (nmAt k)) (entR (nmAt k)))
theorem fill_any (k : Nat) (hk : k < 9) : FillI k := by
  have key : ∀ {f g : FuncId}, (.func (.func g) #[] #[] : Value) = .func (.func f) #[] #[] → g = f := fun h => by injection h with h _ _; injection h
  intro w0 W eb nm h f hf
  match k, hk with
  | 0, _ => obtain rfl := key hf; rw [show nmAt 0 = nmPair from rfl, entF_pair, entR_pair]; exact fill_pair w0 W eb nm h
  | 1, _ => obtain rfl := key hf; rw [show nmAt 1 = nmSenc from rfl, entF_senc, entR_senc]; exact fill_senc w0 W eb nm h
  | 2, _ => obtain rfl := key hf; rw [show nmAt 2 = nmRenc from rfl, entF_renc, entR_renc]; exact fill_renc w0 W eb nm h
  | 3, _ => obtain rfl := key hf; rw [show nmAt 3 = nmAenc from rfl, entF_aenc, entR_aenc]; exact fill_aenc w0 W eb nm h
  | 4, _ => obtain rfl := key hf; rw [show nmAt 4 = nmRaenc from rfl, entF_raenc, entR_raenc]; exact fill_raenc w0 W eb nm h
  | 5, _ => obtain rfl := key hf; rw [show nmAt 5 = nmSign from rfl, entF_sign, entR_sign]; exact fill_sign w0 W eb nm h
  | 6, _ => obtain rfl := key hf; rw [show nmAt 6 = nmHash from rfl, entF_hash, entR_hash]; exact fill_hash w0 W eb nm h
  | 7, _ => obtain rfl := key hf; rw [show nmAt 7 = nmBlind from rfl, entF_blind, entR_blind]; exact fill_blind w0 W eb nm h
  | 8, _ => obtain rfl := key hf; rw [show nmAt 8 = nmWrap from rfl, entF_wrap, entR_wrap]; exact fill_wrap w0 W eb nm h
theorem fillAt_two (k : Nat) (hk : k < 9) : ∃ f, fillAt k = .func (.func f) #[] #[] ∧ ∀ (v : Value) (W : World), (callFunc f #[v]).run Tryz.prog W = .ok (.enter f #[v]) W := by
  match k, hk with
  | 0, _ => exact ⟨_, rfl, fun _ _ => by kernel_rfl⟩
  | 1, _ => exact ⟨_, rfl, fun _ _ => by kernel_rfl⟩
  | 2, _ => exact ⟨_, rfl, fun _ _ => by kernel_rfl⟩
  | 3, _ => exact ⟨_, rfl, fun _ _ => by kernel_rfl⟩
  | 4, _ => exact ⟨_, rfl, fun _ _ => by kernel_rfl⟩
  | 5, _ => exact ⟨_, rfl, fun _ _ => by kernel_rfl⟩
  | 6, _ => exact ⟨_, rfl, fun _ _ => by kernel_rfl⟩
  | 7, _ => exact ⟨_, rfl, fun _ _ => by kernel_rfl⟩
  | 8, _ => exact ⟨_, rfl, fun _ _ => by kernel_rfl⟩
structure Box3 (w : World) (g : Nat) (x0 x1 x2 : Value) : Prop where
  c0 : w.cell? ⟨g, 0, none⟩ = some x0
  c1 : w.cell? ⟨g, 1, none⟩ = some x1
  c2 : w.cell? ⟨g, 2, none⟩ = some x2
  f0 : w.frozen? ⟨g, 0, none⟩ = false
  f1 : w.frozen? ⟨g, 1, none⟩ = false
  f2 : w.frozen? ⟨g, 2, none⟩ = false
theorem box3_new (w : World) (x0 x1 x2 : Value) (t : TypeId) : Box3 (w.alloc (.cells #[x0, x1, x2] t)) w.heap.size x0 x1 x2 where
  c0 := World.cell?_alloc_mark w #[x0, x1, x2] t (0, 0) 0
  c1 := World.cell?_alloc_mark w #[x0, x1, x2] t (0, 0) 1
  c2 := World.cell?_alloc_mark w #[x0, x1, x2] t (0, 0) 2
  f0 := by simp
  f1 := by simp
  f2 := by simp
theorem Box3.block {w w' : World} {g : Nat} {x0 x1 x2 : Value} (h : Box3 w g x0 x1 x2) (hk : w'.heap[g]? = w.heap[g]?) : Box3 w' g x0 x1 x2 :=
  ⟨(World.cell?_of_block hk).trans h.c0, (World.cell?_of_block hk).trans h.c1, (World.cell?_of_block hk).trans h.c2, (World.frozen?_of_block hk).trans h.f0, (World.frozen?_of_block hk).trans h.f1, (World.frozen?_of_block hk).trans h.f2⟩
theorem Box3.lt {w : World} {g : Nat} {x0 x1 x2 : Value} (h : Box3 w g x0 x1 x2) : g < w.heap.size := World.block_lt_of_cell? w _ h.c0
theorem Box3.below {w w' : World} {g : Nat} {x0 x1 x2 : Value} (h : Box3 w g x0 x1 x2) (hb : Below w.heap.size w w') : Box3 w' g x0 x1 x2 := h.block (hb.block g h.lt)
set_option maxRecDepth 100000 in
set_option maxHeartbeats 2000000 in
theorem pget12_any (s : ByteArray) (w : World) :
    Calls Tryz.prog 8 #[.string s] w (PGetPost s w) := by
  have PR := Lib.hid (fun (W : World) => pprims_any W)
  have FL := Lib.hid (fun (k : Nat) (hk : k < 9) => fill_any k hk)
  unfold FillI FillPost at FL
  unfold PGetPost
  have hbR : Below w.heap.size w (w.alloc (.cells #[.string ⟨#[]⟩, .slice none 0 0, .slice none 0 0] 26)) := (Below.refl _ _).alloc (Nat.le_refl _) _
  have hbx := box3_new w (.string ⟨#[]⟩) (.slice none 0 0) (.slice none 0 0) 26
  have HBX := Lib.hid (fun (W : World) (h : Below (w.alloc (.cells #[.string ⟨#[]⟩, .slice none 0 0, .slice none 0 0] 26)).heap.size (w.alloc (.cells #[.string ⟨#[]⟩, .slice none 0 0, .slice none 0 0] 26)) W) => (show Box3 W w.heap.size (.string ⟨#[]⟩) (.slice none 0 0) (.slice none 0 0) ∧ Below w.heap.size w W from ⟨hbx.below h, below_next hbR h⟩))
  clear hbx hbR
  go_enter Tryz.func8, Tryz.ntmps8
  go_wp2_with fail
  refine (PR.out _).mono ?_; rintro e w1 ⟨rfl, hp, hb1⟩
  obtain ⟨hx1, hw1⟩ := HBX.out w1 hb1
  have HX1 := Lib.hid hx1
  have HW1 := Lib.hid hw1
  have hgl := hx1.lt
  obtain ⟨pb, hpb⟩ : ∃ pb, (w.alloc (.cells #[.string ⟨#[]⟩, .slice none 0 0, .slice none 0 0] 26)).heap.size = pb := ⟨_, rfl⟩
  rw [hpb] at hp ⊢
  have HP := Lib.hid hp
  clear hx1 hw1 hb1 hp hpb HBX
  go_wp2_with fail
  go_loopw [9] (fun i wr => ∃ k : Nat, i = .int .i64 k ∧ k ≤ 9 ∧ (∀ j, j < k → ((nmAt j).toList == s.toList) = false) ∧ Below w1.heap.size w1 wr) (fun i _ => 9 - (intOf i).toNat)
  case atStart => exact ⟨0, rfl, by omega, (fun j hj => by omega), Below.refl _ _⟩
  case round =>
    obtain ⟨k, rfl, hk, hno, hb⟩ := hrel
    by_cases hk1 : k < 9
    · have hkc : (k : Int) < 9 := by omega
      have hk0 : (0 : Int) ≤ (k : Int) := by omega
      obtain ⟨c0, c1⟩ := (HP.out.below hb).2 k hk1
      obtain ⟨f, hf, hcf⟩ := fillAt_two k hk1
      have FK := Lib.hid (fun W eb nm h => FL.out k hk1 w W eb nm h f hf)
      rw [hf] at c1
      have hlib := libN_at k
      have HB := Lib.hid hb
      have hbxr := HX1.out.below hb
      cases hcmp : ((nmAt k).toList == s.toList) with
      | true =>
        have hns : nmAt k = s := toList_iff.1 hcmp
        rw [hns] at c0 hlib hcmp FK
        have HI := Lib.hid (isEnt_iff.2 hlib)
        have hb1 : Below wr.heap.size wr (wr.alloc (.cells #[.string s, .func (.func f) #[] #[]] 63)) := (Below.refl _ _).alloc (Nat.le_refl _) _
        have hb2 : Below (wr.heap.size + 1) (wr.alloc (.cells #[.string s, .func (.func f) #[] #[]] 63)) ((wr.alloc (.cells #[.string s, .func (.func f) #[] #[]] 63)).alloc (.cells #[.string s, .slice none 0 0, .slice none 0 0] 26)) := (Below.refl _ _).alloc (by simp) _
        have hbe := box3_new (wr.alloc (.cells #[.string s, .func (.func f) #[] #[]] 63)) (.string s) (.slice none 0 0) (.slice none 0 0) 26
        rw [show (wr.alloc (.cells #[.string s, .func (.func f) #[] #[]] 63)).heap.size = wr.heap.size + 1 from by simp] at hbe
        have hz2 : ((wr.alloc (.cells #[.string s, .func (.func f) #[] #[]] 63)).alloc (.cells #[.string s, .slice none 0 0, .slice none 0 0] 26)).heap.size = wr.heap.size + 1 + 1 := by simp
        have hbw := hb1.trans (hb2.mono (Nat.le_succ _))
        have hx2 := hbxr.below hbw
        have HPK := Lib.hid (And.intro hbe (And.intro hz2 (And.intro (below_next hb hbw) hx2)))
        have hws : w.heap.size < wr.heap.size := hbxr.lt
        clear hb1 hb2 hbe hz2 hbw hx2 hbxr hno hlib hf hb HB
        go_wp2_with fail
        obtain ⟨hbe, hz2, hb2, hx2⟩ := HPK.out
        obtain ⟨W2, hW2⟩ : ∃ W2, ((wr.alloc (.cells #[.string s, .func (.func f) #[] #[]] 63)).alloc (.cells #[.string s, .slice none 0 0, .slice none 0 0] 26)) = W2 := ⟨_, rfl⟩
        rw [hW2] at hbe hz2 hb2 hx2 ⊢
        have HB2 := Lib.hid hb2
        refine (FK.out W2 (wr.heap.size + 1) s ⟨hbe.c0, hbe.c1, hbe.c2, hbe.f1, hbe.f2⟩).mono ?_; rintro e w3 ⟨rfl, ⟨base, vf, vr, hE⟩, hO⟩
        have hle := hE.le
        have hlt := hE.lt
        have hrd : Reads w w3 := reads_below ((below_next HW1.out hb2).trans (hO.below (by have := HW1.out.size; omega) (by have := HW1.out.size; have := hb2.size; omega)))
        obtain ⟨q0, q1, q2, q3, q4, q5⟩ := hx2.block (hO.block w.heap.size (by omega) (by omega))
        have e0 := hE.c0
        have e1 := hE.c1
        have e2 := hE.c2
        obtain ⟨⟨av, cv, rfl⟩, ⟨ar, cr, rfl⟩⟩ := hE.ent.slices
        have HE := Lib.hid hE
        have HO := Lib.hid hO
        have HRD := Lib.hid hrd
        have HWW := Lib.hid ((below_next HW1.out hb2).trans (hO.below (n := w.heap.size) (by have := HW1.out.size; omega) (by have := HW1.out.size; have := hb2.size; omega)))
        have hwb : w.heap.size < base := by omega
        clear hrd hE hO hbe hx2 hz2 hb2 HPK hW2
        go_wp2_with fail
        have hset : ∀ k, base ≤ k → (((w3.setCell ⟨w.heap.size, 0, none⟩ (.string s)).setCell ⟨w.heap.size, 1, none⟩ (.slice av (entF s).length cv)).setCell ⟨w.heap.size, 2, none⟩ (.slice ar (entR s).length cr)).heap[k]? = w3.heap[k]? := fun k hk => by
          rw [Below.heap_setCell _ _ _ _ (by show k ≠ w.heap.size; omega), Below.heap_setCell _ _ _ _ (by show k ≠ w.heap.size; omega), Below.heap_setCell _ _ _ _ (by show k ≠ w.heap.size; omega)]
        have hent := HE.out.ent.ahead (W' := (((w3.setCell ⟨w.heap.size, 0, none⟩ (.string s)).setCell ⟨w.heap.size, 1, none⟩ (.slice av (entF s).length cv)).setCell ⟨w.heap.size, 2, none⟩ (.slice ar (entR s).length cr))) (by simp) hset
        have hbf : Below w.heap.size w (((w3.setCell ⟨w.heap.size, 0, none⟩ (.string s)).setCell ⟨w.heap.size, 1, none⟩ (.slice av (entF s).length cv)).setCell ⟨w.heap.size, 2, none⟩ (.slice ar (entR s).length cr)) :=
          ((HWW.out.setCell (p := ⟨w.heap.size, 0, none⟩) (Nat.le_refl _) _).setCell (p := ⟨w.heap.size, 1, none⟩) (Nat.le_refl _) _).setCell (p := ⟨w.heap.size, 2, none⟩) (Nat.le_refl _) _
        have hlr := lib_right s
        obtain ⟨r1, r2⟩ := hent.reads (reads_below hbf) (by unfold entF; have := hlr.lenF; omega) (by unfold entR; have := hlr.lenR; omega)
        refine bodyPost_ret (v := .tuple #[.agg #[.string s, .slice av (entF s).length cv, .slice ar (entR s).length cr], .bool true]) (by simp [results, Tryz.results8, go_sem, q0, q1, q2]) rfl ⟨.slice av (entF s).length cv, .slice ar (entR s).length cr, ?_, r1, r2, hbf⟩
        unfold entN
        rw [HI.out]; rfl
      | false =>
        have hne : ∀ j, j < k + 1 → ((nmAt j).toList == s.toList) = false := fun j hj => by
          by_cases e : j = k
          · rw [e]; exact hcmp
          · exact hno j (by omega)
        have HNE := Lib.hid hne
        have HB3 := Lib.hid (fun o => hb.alloc hb.size o)
        clear hne hno hb hlib FK HB
        obtain ⟨nm, hnm⟩ : ∃ nm, nmAt k = nm := ⟨_, rfl⟩
        rw [hnm] at hcmp c0
        clear hnm hf hbxr
        go_wp2_with fail
        go_roundw
        case rel => exact ⟨k + 1, by go_num, by omega, HNE.out, HB3.out _⟩
        case measure => simp [intOf]; omega
    · obtain rfl : k = 9 := by omega
      have hE : isEnt s = false := by
        rw [← Bool.not_eq_true, isEnt_iff]
        intro hm
        obtain ⟨j, hj, hje⟩ := List.getElem_of_mem hm
        have := hno j hj
        unfold nmAt at this
        rw [List.getElem?_eq_getElem hj, hje] at this
        simp at this
      obtain ⟨t1, t2⟩ := ent_none12 hE
      obtain ⟨q0, q1, q2, q3, q4, q5⟩ := HX1.out.below hb
      have HB := Lib.hid hb
      have HEN := Lib.hid (And.intro hE (And.intro t1 t2))
      clear hb hno hE t1 t2
      go_wp2_with fail
      refine bodyPost_ret (v := .tuple #[.agg #[.string ⟨#[]⟩, .slice none 0 0, .slice none 0 0], .bool false]) (by simp [results, Tryz.results8, go_sem, q0, q1, q2]) rfl ⟨.slice none 0 0, .slice none 0 0, ?_, ?_, ?_, ?_⟩
      · unfold entN; rw [HEN.out.1]; rfl
      · rw [HEN.out.2.1]; exact Fus.none_ _ _ _
      · rw [HEN.out.2.2]; exact Rls.none_ _ _ _
      · exact (((HW1.out.trans (HB.out.mono HW1.out.size)).setCell (p := ⟨w.heap.size, 0, none⟩) (Nat.le_refl _) _).setCell (p := ⟨w.heap.size, 1, none⟩) (Nat.le_refl _) _).setCell (p := ⟨w.heap.size, 2, none⟩) (Nat.le_refl _) _
end Go.Proofs.YtnbjpgdnfklanaaGreatDoor
