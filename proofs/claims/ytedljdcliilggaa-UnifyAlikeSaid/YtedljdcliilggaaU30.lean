/-
  What a function tells of a term's variables, put in the term, by the program's put, whatever function of the program it is handed.
-/
import Derived.Test.YtedljdcliilggaaU25
import Derived.Test.YtedljdcliilggaaU26
import Derived.Test.YtedljdcliilggaaU29
namespace Go.Proofs.Ytedljdcliilggaa
open Go.RowKit

mutual
theorem tm_names {w : World} : ∀ {t : Tm} {b o : Nat}, TmAt w t b o → ∀ y ∈ t.all, y.name.size ≤ 9223372036854775807
  | .mk k s n xs, b, o, h, y, hy => by
    rw [TmAt] at h
    obtain ⟨hf, _, _, _, a, c, _, _, hr⟩ := h
    rw [all_eq] at hy
    rcases List.mem_cons.1 hy with rfl | hy
    · exact hf.len
    · rcases hr with rfl | ⟨b', o', _, _, hr⟩
      · simp only [Tm.args, allL] at hy; cases hy
      · exact row_names hr y hy
theorem row_names {w : World} : ∀ {xs : List Tm} {b o : Nat}, RowAt w xs b o → ∀ y ∈ allL xs, y.name.size ≤ 9223372036854775807
  | [], _, _, _, y, hy => by rw [allL] at hy; cases hy
  | t :: r, b, o, h, y, hy => by
    rw [RowAt] at h
    rw [allL_cons] at hy
    rcases List.mem_append.1 hy with hy | hy
    · exact tm_names h.1 y hy
    · exact row_names h.2 y hy
end
theorem ok_names {w : World} {x : Tv} (h : x.ok w) : ∀ y ∈ x.t.all, y.name.size ≤ 9223372036854775807 := fun y hy => by
  obtain ⟨hf, _, hr⟩ := h
  rw [all_eq] at hy
  rcases List.mem_cons.1 hy with rfl | hy
  · exact hf.len
  · rcases hr with e | ⟨b, o, _, _, hr⟩
    · rw [e, allL] at hy; cases hy
    · exact row_names hr y hy
theorem vars_from {s : ByteArray} : ∀ (l : List Tm) {acc : List ByteArray}, s ∈ l.foldl varStep acc → s ∈ acc ∨ ∃ y ∈ l, y.kind = 1 ∧ y.name = s
  | [], _, h => .inl h
  | x :: l, acc, h => by
    rcases vars_from l (acc := varStep acc x) h with h | ⟨y, hy, h⟩
    · unfold varStep at h
      split at h
      · next hc =>
        rcases List.mem_append.1 h with h | h
        · exact .inl h
        · rw [List.mem_singleton] at h
          exact .inr ⟨x, List.mem_cons_self, by simpa using hc.1, h.symm⟩
      · exact .inl h
    · exact .inr ⟨y, List.mem_cons_of_mem _ hy, h⟩
theorem ok_vars {w : World} {x : Tv} (h : x.ok w) {s : ByteArray} (hs : s ∈ x.t.vars) : s.size ≤ 9223372036854775807 := by
  rcases vars_from x.t.all hs with h1 | ⟨y, hy, _, rfl⟩
  · cases h1
  · exact ok_names h y hy
/-- What the function answers that put is handed. -/
def ToldPost (f : ByteArray → Option Tm) (C : Nat → Prop) (I : World → World → Prop) (s : ByteArray) (w0 w : World) (e : Ending) (w' : World) : Prop :=
  ∃ (w1 : World) (y : Tv), e = .returned (.tuple #[y.val, .bool (f s).isSome]) ∧ y.t = (f s).getD zeroT ∧ y.ok w1 ∧ I w1 w' ∧ Step C w0 w w1 w'
def Told (g : Nat) (cb : Array Value) (f : ByteArray → Option Tm) (N : Nat) (C : Nat → Prop) (I : World → World → Prop) : Prop :=
  ∀ (s : ByteArray) (w0 w : World), s.size ≤ 9223372036854775807 → I w0 w → Reads w0 w → N ≤ w.heap.size → Calls Try.prog g (#[.string s] ++ cb) w (ToldPost f C I s w0 w)
/-- What holds of blocks below N alone. -/
def Stays (N : Nat) (I : World → World → Prop) : Prop :=
  ∀ (w0 w w1 W : World), I w0 w → Reads w0 w1 → Reads w1 W → N ≤ w.heap.size → (∀ g, g < N → Blind w0 g → Blind w1 g) → (∀ k, k < N → W.heap[k]? = w.heap[k]?) → I w1 W
/-- What put leaves. -/
def PutPost (C : Nat → Prop) (I : World → World → Prop) (w0 w : World) (u : Tm) (e : Ending) (w' : World) : Prop :=
  ∃ (w1 : World) (z : Tv), e = .returned z.val ∧ z.t = u ∧ z.ok w1 ∧ I w1 w' ∧ Step C w0 w w1 w'
theorem own_over {w1 W : World} {base : Nat} {v : Value} {bs : List Bn} (h : OwnBv w1 W base v bs) (hr : Reads w1 W) (hl : bs.length ≤ 9223372036854775807) {E : Nat → Bool} (hE : ∀ k, base ≤ k → E k = true) : Bds (over w1 W E) v bs := by
  obtain ⟨vs, h1, h2, h3⟩ := h
  have h4 : OwnBv (over w1 W E) (over w1 W E) base v bs := ⟨vs, h1, fun x hx => ⟨(h2 x hx).1.reads (over_up hr), (h2 x hx).2⟩, own_same h3 fun g hg => over_in w1 W (hE g (own_row_ge h3 g hg))⟩
  exact h4.bds (Below.refl _ _) hl
theorem tellB_take (f : ByteArray → Option Tm) (l : List ByteArray) (k : Nat) : (tellB f (l.take k)).length ≤ (tellB f l).length := by
  have h := tellB_append f (l.take k) (l.drop k)
  rw [List.take_append_drop] at h
  rw [h, List.length_append]; omega
theorem tellB_succ (f : ByteArray → Option Tm) {l : List ByteArray} {k : Nat} (h : k < l.length) : tellB f (l.take (k + 1)) = tellB f (l.take k) ++ match f l[k] with | some u => [(l[k], u)] | none => [] := by
  rw [List.take_succ_eq_append_getElem h, tellB_append]; rfl
theorem row_string {w : World} {base : Nat} {a : Option Addr} {n c : Nat} {zs : List ByteArray} (h : w.ownsRow base 9 1 (.slice a n c) zs.length (zs.map Value.string)) {k : Nat} (hk : k < zs.length) : ∃ g, a = some ⟨g, 0, none⟩ ∧ base ≤ g ∧ w.cell? ⟨g, k, none⟩ = some (.string zs[k]) := by
  obtain ⟨hn, ⟨h1, h0⟩ | ⟨g, cap, cur, h1, hb, hg, h2, h3, h4, ht⟩⟩ := h
  · simp only [Nat.mul_one] at *
    have : (zs.map Value.string).length = 0 := by rw [hn]; cases h1; simp at h0; simp [h0]
    rw [List.length_map] at this; omega
  · cases h1
    refine ⟨g, rfl, hb, ?_⟩
    rw [cell_of_row w g k cur _ (0, 0) hg]
    have e : (zs.map Value.string)[k]? = some (.string zs[k]) := by rw [List.getElem?_map, List.getElem?_eq_getElem hk]; rfl
    rw [← ht, List.getElem?_take_of_lt (by omega)] at e
    simpa using e

set_option maxRecDepth 100000 in
set_option maxHeartbeats 8000000 in
theorem put_tells (g : Nat) (cb : Array Value) (eg : ∀ args w, (callFunc g args).run Try.prog w = .ok (.enter g args) w) (f : ByteArray → Option Tm) (N : Nat) (C : Nat → Prop) (I : World → World → Prop) (hC : ∀ k, C k → k < N) (hI : Stays N I) (hT : Told g cb f N C I)
    (x : Tv) (w0 w : World) (hx : x.ok w0) (hr : Reads w0 w) (hN : N ≤ w.heap.size) (h0 : I w0 w) (hp : x.t.parts ≤ 2300000000000) (hfew : (tellB f x.t.vars).length ≤ 1000) :
    Calls Try.prog 60 #[x.val, .func (.func g) #[] cb] w (PutPost C I w0 w (appT (tellB f x.t.vars) x.t)) := by
  obtain ⟨i0, hi, hz0, hz1, hz2⟩ := info_parts bindInfo
  have HSZ := Lib.hid (fun (s : ByteArray) (hs : s ∈ x.t.vars) => ok_vars hx hs)
  have HVL := Lib.hid (show x.t.vars.length ≤ x.t.parts by have := varsL_len x.t.all; rw [all_length] at this; exact this)
  obtain ⟨t, a, c⟩ := x
  have bX := (box_new w (.int .i64 t.kind) (.string t.name) (.int .i64 t.n) (.slice a t.args.length c) 24).below ((Below.refl _ _).alloc (Nat.le_refl _) (.cells #[.int .i64 0, .string ⟨#[]⟩, .int .i64 0, .slice none 0 0] 24)) (by simp)
  have bR := alloc_two w (.cells #[.int .i64 t.kind, .string t.name, .int .i64 t.n, .slice a t.args.length c] 24) (.int .i64 0) (.string ⟨#[]⟩) (.int .i64 0) (.slice none 0 0) 24
  have hB2 := below_two w (.cells #[.int .i64 t.kind, .string t.name, .int .i64 t.n, .slice a t.args.length c] 24) (.cells #[.int .i64 0, .string ⟨#[]⟩, .int .i64 0, .slice none 0 0] 24)
  obtain ⟨wz, hwz⟩ : ∃ wz, wz = ((w.alloc (.cells #[.int .i64 t.kind, .string t.name, .int .i64 t.n, .slice a t.args.length c] 24)).alloc (.cells #[.int .i64 0, .string ⟨#[]⟩, .int .i64 0, .slice none 0 0] 24)) := ⟨_, rfl⟩
  have hzs : wz.heap.size = w.heap.size + 2 := by rw [hwz]; simp
  rw [← hwz] at bX bR hB2
  have VR := Lib.hid ((pvars_tm ⟨t, a, c⟩ wz (hx.reads (hr.trans (reads_below hB2))) hp).mono (fun e w' ⟨v, h1, h2, h3⟩ => (show ∃ an cn, e = Ending.returned (.slice an t.vars.length cn) ∧ w'.ownsRow wz.heap.size 9 1 (.slice an t.vars.length cn) t.vars.length (t.vars.map Value.string) ∧ Below wz.heap.size wz w' from by
    obtain ⟨an, cn, e1, _⟩ := own_shape h2.2
    rw [e1] at h1 h2
    exact ⟨an, cn, h1, h2.2, h3⟩)))
  have HBX := Lib.hid bX
  have HBR := Lib.hid bR
  have HB2 := Lib.hid hB2
  have HZS := Lib.hid hzs
  have HX := Lib.hid hx
  have HR := Lib.hid hr
  have HI := Lib.hid hI
  have HT := Lib.hid hT
  have HC := Lib.hid hC
  have H0 := Lib.hid h0
  have HFEW := Lib.hid hfew
  have HP := Lib.hid hp
  obtain ⟨p0, p1, p2, p3, _, _, _, _⟩ := bX
  simp only [Tv.val] at *
  obtain ⟨ns, hns⟩ : ∃ ns, ns = t.vars := ⟨_, rfl⟩
  rw [← hns] at VR HSZ HVL HFEW ⊢
  have hnl : ns.length ≤ 2300000000000 := Nat.le_trans HVL.out hp
  clear bR hB2 hzs hx hr hI hT hC h0 hfew hp hns HVL
  go_enter Try.func60, Try.ntmps60
  go_wp2_with fail
  rw [← hwz]
  clear hwz
  refine VR.out.mono ?_; rintro e w3 ⟨an, cn, rfl, hnr, hb3⟩
  have HNR := Lib.hid hnr
  have HB3 := Lib.hid hb3
  have hs3 : w.heap.size + 2 ≤ w3.heap.size := by have := hb3.size; have := HZS.out; omega
  have HST3 := Lib.hid (show Step C w0 w w0 w3 from step_below HR.out (below_next HB2.out hb3))
  have HI3 := Lib.hid (show I w0 w3 from HI.out w0 w w0 w3 H0.out (Reads.refl _) HST3.out.on hN (fun _ _ h => h) (fun k hk => (below_next HB2.out hb3).block k (Nat.lt_of_lt_of_le hk hN)))
  clear hnr hb3 p0 p1 p2 p3 VR
  go_wp2_with fail
  go_loopw [5, 13] (fun v i wr => ∃ (k : Nat) (w1 : World), k ≤ ns.length ∧ i = .int .i64 k ∧ Hid (I w1 wr) ∧ Hid (Step C w0 w3 w1 wr) ∧ Hid (OwnBv w1 wr w3.heap.size v (tellB f (ns.take k)) ∧ ∀ g, v.ownBlock = some g → Blind w1 g)) (fun _ i _ => ns.length - (intOf i).toNat)
  case atStart => exact ⟨0, w0, Nat.zero_le _, rfl, HI3, Lib.hid (Step.refl HST3.out.on), Lib.hid ⟨⟨[], rfl, (fun _ h => nomatch h), World.ownsRow_nil _ _ _ _⟩, fun _ h => nomatch h⟩⟩
  case round =>
    obtain ⟨k, w1, hk, rfl, HIR, HSR, HOW⟩ := hrel
    obtain ⟨⟨vs, hvm, hvo, hvr⟩, hvb⟩ := HOW.out
    obtain ⟨av, cv, rfl, _⟩ := own_shape hvr
    have hwr := HSR.out.size
    have hfk : (tellB f (ns.take k)).length ≤ 1000 := Nat.le_trans (tellB_take f ns k) HFEW.out
    by_cases hkl : k < ns.length
    · have HNW : wr.ownsRow wz.heap.size 9 1 (.slice an ns.length cn) ns.length (ns.map Value.string) := own_same HNR.out fun g hg => HSR.out.keep g (by
        obtain ⟨cur, h1⟩ := own_block HNR.out hg
        exact (Array.getElem?_eq_some_iff.1 h1).1) (fun hc => by have h1 := HC.out g hc; have h2 := own_row_ge HNR.out g hg; have h3 := HZS.out; omega)
      obtain ⟨ga, rfl, hga, hcell⟩ := row_string HNW hkl
      obtain ⟨s, hs⟩ : ∃ s, ns[k] = s := ⟨_, rfl⟩
      have hsz : s.size ≤ 9223372036854775807 := HSZ.out s (hs ▸ List.getElem_mem hkl)
      have HTS := Lib.hid (tellB_succ f hkl)
      rw [hs] at hcell HTS
      have HS := Lib.hid hs
      have CT := HT.out s w1 wr hsz HIR.out HSR.out.on (by omega)
      have hk0 : (0 : Int) ≤ (k : Int) := by omega
      have hk1 : (k : Int) < (ns.length : Int) := by omega
      have hkd : decide ((k : Int) < (ns.length : Int)) = true := decide_eq_true hk1
      have hk5 : (k : Int) ≤ 2300000000000 := by omega
      have hkw : (k : Int).toNat = k := by omega
      have HV := Lib.hid (And.intro hvm (And.intro hvo (And.intro hvr hvb)))
      have HWR := Lib.hid hwr
      clear hvm hvo hvr hvb HNW hs hga
      cases hf : f s with
      | none =>
        have CT2 := Lib.hid (CT.mono (fun e w' ⟨w5, y, h1, h2, h3, h4, h5⟩ => (show ∃ (w5 : World) (ty : Tm) (ay : Option Addr) (cy : Nat), e = Ending.returned (.tuple #[.agg #[.int .i64 ty.kind, .string ty.name, .int .i64 ty.n, .slice ay ty.args.length cy], .bool false]) ∧ I w5 w' ∧ Step C w1 wr w5 w' from ⟨w5, y.t, y.a, y.c, by rw [h1, hf]; rfl, h4, h5⟩)))
        have HTN := Lib.hid (show tellB f (ns.take (k + 1)) = tellB f (ns.take k) from by rw [HTS.out, hf, List.append_nil])
        clear CT hf HTS
        go_wp2_with fail
        refine CT2.out.mono ?_; rintro e w4 ⟨w5, ty, ay, cy, rfl, hI5, hS5⟩
        have H5 := Lib.hid (And.intro hI5 hS5)
        clear hI5 hS5 CT2 hcell
        go_wp2_with fail
        go_roundw
        case rel =>
          have hA : Below w4.heap.size w4 (w4.alloc (.cells #[.int .i64 ty.kind, .string ty.name, .int .i64 ty.n, .slice ay ty.args.length cy] 24)) := (Below.refl _ _).alloc (Nat.le_refl _) _
          have hs4 := H5.out.2.size
          refine ⟨k + 1, w5, by omega, by go_num, Lib.hid ?_, Lib.hid ?_, Lib.hid ⟨⟨vs, ?_, ?_, ?_⟩, ?_⟩⟩
          · exact HI.out w5 w4 w5 _ H5.out.1 (Reads.refl _) (H5.out.2.on.trans (reads_below hA)) (by omega) (fun _ _ h => h) (fun j hj => hA.block j (by omega))
          · exact (HSR.out.trans H5.out.2).alloc _
          · rw [HTN.out]; exact HV.out.1
          · exact fun y hy => ⟨(HV.out.2.1 y hy).1.reads H5.out.2.up, (HV.out.2.1 y hy).2⟩
          · rw [HTN.out]
            exact (own_same HV.out.2.2.1 fun g hg => H5.out.2.keep g (HV.out.2.2.1.lt g hg).2 (fun hc => by have h1 := HC.out g hc; have h2 := own_row_ge HV.out.2.2.1 g hg; omega)).alloc _
          · exact fun g hg => H5.out.2.blind g (HV.out.2.2.1.lt g hg).2 (HV.out.2.2.2 g hg)
        case measure => simp [intOf]; omega
      | some u =>
        have CT2 := Lib.hid (CT.mono (fun e w' ⟨w5, y, h1, h2, h3, h4, h5⟩ => (show ∃ (w5 : World) (ty : Tm) (ay : Option Addr) (cy : Nat), e = Ending.returned (.tuple #[.agg #[.int .i64 ty.kind, .string ty.name, .int .i64 ty.n, .slice ay ty.args.length cy], .bool true]) ∧ (ty = u ∧ Tv.ok w5 ⟨ty, ay, cy⟩) ∧ I w5 w' ∧ Step C w1 wr w5 w' from ⟨w5, y.t, y.a, y.c, by rw [h1, hf]; rfl, ⟨by rw [h2, hf]; rfl, h3⟩, h4, h5⟩)))
        have HTN := Lib.hid (show tellB f (ns.take (k + 1)) = tellB f (ns.take k) ++ [(s, u)] from by rw [HTS.out, hf])
        have HLEN := Lib.hid (show (tellB f (ns.take (k + 1))).length = (tellB f (ns.take k)).length + 1 from by rw [HTN.out, List.length_append]; rfl)
        obtain ⟨q, hq⟩ : ∃ q, q = (tellB f (ns.take k)).length := ⟨_, rfl⟩
        rw [← hq] at HV HLEN hfk
        have HQ := Lib.hid hq
        clear CT hf HTS
        rw [← hq]
        clear hq
        go_wp2_with fail
        refine CT2.out.mono ?_; rintro e w4 ⟨w5, ty, ay, cy, rfl, hy5, hI5, hS5⟩
        have H5 := Lib.hid (And.intro hI5 hS5)
        have HY := Lib.hid hy5
        have how4 := own_same HV.out.2.2.1 fun g hg => hS5.keep g (HV.out.2.2.1.lt g hg).2 (fun hc => by have h1 := HC.out g hc; have h2 := own_row_ge HV.out.2.2.1 g hg; omega)
        have HO4 := Lib.hid how4
        have hs4 := hS5.size
        have HM1 : q + 1 ≤ maxLen := by unfold maxLen; omega
        have HM2 : (q + 1) * 72 ≤ 140737488355328 := by omega
        have HNEW := Lib.hid (fun (j : Nat) (x : Value) (h : [Value.string s, .int .i64 ty.kind, .string ty.name, .int .i64 ty.n, .slice ay ty.args.length cy][j]? = some x) => (show ((w4.alloc (.cells #[.int .i64 ty.kind, .string ty.name, .int .i64 ty.n, .slice ay ty.args.length cy] 24)).alloc (.cells #[.string s, .int .i64 ty.kind, .string ty.name, .int .i64 ty.n, .slice ay ty.args.length cy] 41)).cell? ((⟨w4.heap.size + 1, 0, none⟩ : Addr).add j) = some x from by
          have h1 := heap_alloc_new (w4.alloc (.cells #[.int .i64 ty.kind, .string ty.name, .int .i64 ty.n, .slice ay ty.args.length cy] 24)) (.cells #[.string s, .int .i64 ty.kind, .string ty.name, .int .i64 ty.n, .slice ay ty.args.length cy] 41)
          rw [show (w4.alloc (.cells #[.int .i64 ty.kind, .string ty.name, .int .i64 ty.n, .slice ay ty.args.length cy] 24)).heap.size = w4.heap.size + 1 by simp] at h1
          exact World.news_of_block h1 j x h))
        have HBASE := Lib.hid (show w3.heap.size ≤ ((w4.alloc (.cells #[.int .i64 ty.kind, .string ty.name, .int .i64 ty.n, .slice ay ty.args.length cy] 24)).alloc (.cells #[.string s, .int .i64 ty.kind, .string ty.name, .int .i64 ty.n, .slice ay ty.args.length cy] 41)).heap.size by simp; omega)
        clear hI5 hS5 CT2 hcell hy5 how4
        go_wp2_with (at_builtin; refine wpList_append_own_at _ rfl _ _ 27 rfl w3.heap.size 41 i0 (.agg #[.string ⟨#[]⟩, .int .i64 0, .string ⟨#[]⟩, .int .i64 0, .slice none 0 0]) 5 72 Try.underlying27 hi hz0 hz1 hz2 rfl (by decide) _ q (rowBv vs) rfl ((HO4.out.alloc _).alloc _) ⟨w4.heap.size + 1, 0, none⟩ 1 1 [.string s, .int .i64 ty.kind, .string ty.name, .int .i64 ty.n, .slice ay ty.args.length cy] rfl rfl HNEW.out (bv_one ⟨s, ⟨ty, ay, cy⟩⟩) HM1 HM2 HBASE.out ?_; intro v6 w6 hown6 hg6 _ hat6; obtain ⟨a6, c6, rfl, _⟩ := own_shape hown6)
        have H6 := Lib.hid (And.intro hown6 (And.intro hg6 hat6))
        clear hown6 hg6 hat6
        go_roundw
        case rel =>
          obtain ⟨hown6, hg6, hat6⟩ := H6.out
          have hA : Below w4.heap.size w4 ((w4.alloc (.cells #[.int .i64 ty.kind, .string ty.name, .int .i64 ty.n, .slice ay ty.args.length cy] 24)).alloc (.cells #[.string s, .int .i64 ty.kind, .string ty.name, .int .i64 ty.n, .slice ay ty.args.length cy] 41)) := below_two _ _ _
          have hAs : ((w4.alloc (.cells #[.int .i64 ty.kind, .string ty.name, .int .i64 ty.n, .slice ay ty.args.length cy] 24)).alloc (.cells #[.string s, .int .i64 ty.kind, .string ty.name, .int .i64 ty.n, .slice ay ty.args.length cy] 41)).heap.size = w4.heap.size + 2 := by simp
          have hwl := fun g hg => (HV.out.2.2.1.lt g hg).2
          have hs6 := hg6.size
          have hob : ∀ g, (Value.slice av q cv).ownBlock = some g → w3.heap.size ≤ g := own_row_ge HV.out.2.2.1
          have hS6 : Step C w0 w3 w5 w6 := ((HSR.out.trans H5.out.2).below hA).grown hg6 (fun g hg => ⟨H5.out.2.blind g (hwl g hg) (HV.out.2.2.2 g hg), fun h => by have := hob g hg; omega⟩)
          refine ⟨k + 1, w5, by omega, by go_num, Lib.hid ?_, Lib.hid hS6, Lib.hid ⟨⟨vs ++ [⟨s, ⟨ty, ay, cy⟩⟩], ?_, ?_, ?_⟩, ?_⟩⟩
          · exact HI.out w5 w4 w5 _ H5.out.1 (Reads.refl _) hS6.on (by omega) (fun _ _ h => h) (fun j hj => by
              rw [hg6.block j (by omega) (fun e => by have := hob j e.symm; omega)]
              exact hA.block j (by omega))
          · rw [HTN.out, List.map_append, HV.out.1, ← HY.out.1]; rfl
          · intro y hy
            rcases List.mem_append.1 hy with hy | hy
            · exact ⟨(HV.out.2.1 y hy).1.reads H5.out.2.up, (HV.out.2.1 y hy).2⟩
            · rw [List.mem_singleton] at hy; subst hy; exact ⟨HY.out.2, hsz⟩
          · rw [HLEN.out, rowBv_append, rowBv_one]; exact hown6
          · intro g hg
            rcases hat6 with e | e
            · rw [e] at hg; exact H5.out.2.blind g (hwl g hg) (HV.out.2.2.2 g hg)
            · rw [e] at hg
              obtain rfl := Option.some.inj hg
              exact blind_new (by have := H5.out.2.on.size; omega)
        case measure => simp [intOf]; omega
    · have hke : k = ns.length := by omega
      subst hke
      rw [List.take_length] at hvm HOW hvr hfk
      have hkd : decide ((ns.length : Int) < (ns.length : Int)) = false := decide_eq_false (by omega)
      have hkn : ¬ (ns.length : Int) < (ns.length : Int) := by omega
      have E1 : ∀ k, k < w3.heap.size → (fun k => decide (w3.heap.size ≤ k)) k = false := fun k hk => decide_eq_false (by omega)
      have hS1 := HSR.out.show_ (fun k => decide (w3.heap.size ≤ k)) E1
      have AP := Lib.hid ((apply_rd _ _ ⟨t, a, c⟩ (over w1 wr (fun k => decide (w3.heap.size ≤ k))) wr (own_over HOW.out.1 HSR.out.on (by omega) (fun k hk => decide_eq_true hk)) (by omega) ((HX.out.reads HSR.out.up).reads (over_up HSR.out.on)) HP.out hS1.on).mono (fun e w' ⟨z, h1, h2, h3, h4⟩ => (show ∃ (tz : Tm) (az : Option Addr) (cz : Nat), e = Ending.returned (.agg #[.int .i64 tz.kind, .string tz.name, .int .i64 tz.n, .slice az tz.args.length cz]) ∧ tz = appT (tellB f ns) t ∧ Fresh (over w1 wr (fun k => decide (w3.heap.size ≤ k))) wr w' ⟨tz, az, cz⟩ ∧ Below wr.heap.size wr w' from ⟨z.t, z.a, z.c, h1, h2, h3, h4⟩)))
      have HS1 := Lib.hid hS1
      have hkeep : ∀ b, w.heap.size ≤ b → b < w3.heap.size → wr.heap[b]? = w3.heap[b]? := fun b h1 h2 => HSR.out.keep b h2 (fun hc => by have := HC.out b hc; omega)
      have h3 := HB3.out
      have hbX : Box wr w.heap.size (.int .i64 t.kind) (.string t.name) (.int .i64 t.n) (.slice a t.args.length c) := box_kept (box_kept HBX.out (h3.block _ (by have := HZS.out; omega))) (hkeep _ (Nat.le_refl _) (by omega))
      have hbR : Box wr (w.heap.size + 1) (.int .i64 0) (.string ⟨#[]⟩) (.int .i64 0) (.slice none 0 0) := box_kept (box_kept HBR.out (h3.block _ (by have := HZS.out; omega))) (hkeep _ (by omega) (by omega))
      have HBR2 := Lib.hid hbR
      obtain ⟨p0, p1, p2, p3, _, _, _, _⟩ := hbX
      simp only [Tv.val] at AP
      clear hvm hvo hvr hvb hfk E1 hS1 hkeep h3 hbR
      go_wp2_with fail
      refine AP.out.mono ?_; rintro e w4 ⟨tz, az, cz, rfl, hzt, hzf, hb4⟩
      have HZ := Lib.hid (And.intro hzt (And.intro hzf hb4))
      have hbR4 := HBR2.out.below hb4 (by omega)
      have HBR4 := Lib.hid hbR4
      obtain ⟨q0, q1, q2, q3, f0, f1, f2, f3⟩ := hbR4
      have hs4 := hb4.size
      have hr4 : w.heap.size + 1 < w4.heap.size := by omega
      clear hzt hzf hb4 AP p0 p1 p2 p3
      go_wp2_with fail
      obtain ⟨q0, q1, q2, q3, _, _, _, _⟩ := HBR4.out.sets (.int .i64 tz.kind) (.string tz.name) (.int .i64 tz.n) (.slice az tz.args.length cz)
      refine bodyPost_ret (v := .agg #[.int .i64 tz.kind, .string tz.name, .int .i64 tz.n, .slice az tz.args.length cz]) (by simp [results, Try.results60, go_sem, q0, q1, q2, q3]) rfl ?_
      have hz := HZ.out
      have hS2 := HS1.out.below hz.2.2
      have E2 : ∀ k, k < w3.heap.size → (fun k => decide (wr.heap.size ≤ k)) k = false := fun k hk => decide_eq_false (by omega)
      have hS3 := hS2.show_ (fun k => decide (wr.heap.size ≤ k)) E2
      have hbl := hS3.blind (w.heap.size + 1) (by omega) (blind_new (by have := HR.out.size; omega))
      have hS5 := step_four (HST3.out.trans hS3) (g := w.heap.size + 1) hbl (fun h => by omega) 0 1 2 3 (.int .i64 tz.kind) (.string tz.name) (.int .i64 tz.n) (.slice az tz.args.length cz)
      refine ⟨_, ⟨tz, az, cz⟩, rfl, hz.1, fresh_over hz.2.1 (Reads.refl _) hS2.on (fun k hk => decide_eq_true hk), ?_, hS5⟩
      refine HI.out w1 wr _ _ HIR.out ((over_up HSR.out.on).trans (over_up hS2.on)) hS5.on (by omega) (fun g hg hb => ?_) (fun j hj => ?_)
      · exact over_blind hS2.on.size (decide_eq_false (by omega)) (over_blind HSR.out.on.size (decide_eq_false (by omega)) hb)
      · rw [Below.heap_setCell _ _ _ _ (show j ≠ w.heap.size + 1 by omega), Below.heap_setCell _ _ _ _ (show j ≠ w.heap.size + 1 by omega), Below.heap_setCell _ _ _ _ (show j ≠ w.heap.size + 1 by omega), Below.heap_setCell _ _ _ _ (show j ≠ w.heap.size + 1 by omega)]
        exact hz.2.2.block j (by omega)
end Go.Proofs.Ytedljdcliilggaa
