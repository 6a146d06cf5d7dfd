/-
  Lines of any function, rule, frame and query, and any place: the walk of the law.
-/
import Derived.Test.YtmpaljmkfnpcpaaDoorAwk14
import Derived.Test.YtmpaljmkfnpcpaaDoorRSh2
import Derived.Test.YtmpaljmkfnpcpaaDoorAfter
namespace Go.Proofs.YtmpaljmkfnpcpaaDoor
open Go.RowKit

/-- The law's four boxes. -/
structure Four (w : World) (s : ByteArray) (n : Int) (xt yt : Tm) (xa ya : Option Addr) (xc yc : Nat) (bn : ByteArray) (ba : Option Addr) (bl bc : Nat) (k : Int) (ql qr : ByteArray) (zt : Tm) (za : Option Addr) (zc : Nat) (Q : World) : Prop where
  b0 : BoxL Q (w.heap.size) [.string s, .int .i64 n]
  b1 : BoxL Q (w.heap.size + 1) [.int .i64 xt.kind, .string xt.name, .int .i64 xt.n, .slice xa xt.args.length xc, .int .i64 yt.kind, .string yt.name, .int .i64 yt.n, .slice ya yt.args.length yc]
  b2 : BoxL Q (w.heap.size + 2) [.string bn, .slice ba bl bc]
  b3 : BoxL Q (w.heap.size + 3) [.int .i64 k, .string ql, .string qr, .int .i64 zt.kind, .string zt.name, .int .i64 zt.n, .slice za zt.args.length zc]
theorem four_new (w : World) (s : ByteArray) (n : Int) (xt yt : Tm) (xa ya : Option Addr) (xc yc : Nat) (bn : ByteArray) (ba : Option Addr) (bl bc : Nat) (k : Int) (ql qr : ByteArray) (zt : Tm) (za : Option Addr) (zc : Nat) : Four w s n xt yt xa ya xc yc bn ba bl bc k ql qr zt za zc ((((w.alloc (.cells #[.string s, .int .i64 n] 23)).alloc (.cells #[.int .i64 xt.kind, .string xt.name, .int .i64 xt.n, .slice xa xt.args.length xc, .int .i64 yt.kind, .string yt.name, .int .i64 yt.n, .slice ya yt.args.length yc] 28)).alloc (.cells #[.string bn, .slice ba bl bc] 30)).alloc (.cells #[.int .i64 k, .string ql, .string qr, .int .i64 zt.kind, .string zt.name, .int .i64 zt.n, .slice za zt.args.length zc] 32)) := by
  have n0 := boxL_new w [.string s, .int .i64 n] 23
  have n1 := boxL_new (w.alloc (.cells #[.string s, .int .i64 n] 23)) [.int .i64 xt.kind, .string xt.name, .int .i64 xt.n, .slice xa xt.args.length xc, .int .i64 yt.kind, .string yt.name, .int .i64 yt.n, .slice ya yt.args.length yc] 28
  have n2 := boxL_new ((w.alloc (.cells #[.string s, .int .i64 n] 23)).alloc (.cells #[.int .i64 xt.kind, .string xt.name, .int .i64 xt.n, .slice xa xt.args.length xc, .int .i64 yt.kind, .string yt.name, .int .i64 yt.n, .slice ya yt.args.length yc] 28)) [.string bn, .slice ba bl bc] 30
  have n3 := boxL_new (((w.alloc (.cells #[.string s, .int .i64 n] 23)).alloc (.cells #[.int .i64 xt.kind, .string xt.name, .int .i64 xt.n, .slice xa xt.args.length xc, .int .i64 yt.kind, .string yt.name, .int .i64 yt.n, .slice ya yt.args.length yc] 28)).alloc (.cells #[.string bn, .slice ba bl bc] 30)) [.int .i64 k, .string ql, .string qr, .int .i64 zt.kind, .string zt.name, .int .i64 zt.n, .slice za zt.args.length zc] 32
  rw [show (w.alloc (.cells #[.string s, .int .i64 n] 23)).heap.size = w.heap.size + 1 from by simp] at n1
  rw [show ((w.alloc (.cells #[.string s, .int .i64 n] 23)).alloc (.cells #[.int .i64 xt.kind, .string xt.name, .int .i64 xt.n, .slice xa xt.args.length xc, .int .i64 yt.kind, .string yt.name, .int .i64 yt.n, .slice ya yt.args.length yc] 28)).heap.size = w.heap.size + 2 from by simp] at n2
  rw [show (((w.alloc (.cells #[.string s, .int .i64 n] 23)).alloc (.cells #[.int .i64 xt.kind, .string xt.name, .int .i64 xt.n, .slice xa xt.args.length xc, .int .i64 yt.kind, .string yt.name, .int .i64 yt.n, .slice ya yt.args.length yc] 28)).alloc (.cells #[.string bn, .slice ba bl bc] 30)).heap.size = w.heap.size + 3 from by simp] at n3
  have s1 := fun (W : World) (o : Obj) => ((Below.refl W.heap.size W).alloc (Nat.le_refl _) o)
  exact ⟨((n0.below (s1 _ _) (boxL_lt n0)).below (s1 _ _) (boxL_lt (n0.below (s1 _ _) (boxL_lt n0)))).below (s1 _ _) (boxL_lt ((n0.below (s1 _ _) (boxL_lt n0)).below (s1 _ _) (boxL_lt (n0.below (s1 _ _) (boxL_lt n0))))),
    (n1.below (s1 _ _) (boxL_lt n1)).below (s1 _ _) (boxL_lt (n1.below (s1 _ _) (boxL_lt n1))), n2.below (s1 _ _) (boxL_lt n2), n3⟩
theorem Four.below {w : World} {s : ByteArray} {n : Int} {xt yt : Tm} {xa ya : Option Addr} {xc yc : Nat} {bn : ByteArray} {ba : Option Addr} {bl bc : Nat} {k : Int} {ql qr : ByteArray} {zt : Tm} {za : Option Addr} {zc : Nat} {Q Q' : World} (h : Four w s n xt yt xa ya xc yc bn ba bl bc k ql qr zt za zc Q) (hb : Below Q.heap.size Q Q') : Four w s n xt yt xa ya xc yc bn ba bl bc k ql qr zt za zc Q' :=
  ⟨h.b0.below hb (boxL_lt h.b0), h.b1.below hb (boxL_lt h.b1), h.b2.below hb (boxL_lt h.b2), h.b3.below hb (boxL_lt h.b3)⟩
theorem Four.cells {w : World} {s : ByteArray} {n : Int} {xt yt : Tm} {xa ya : Option Addr} {xc yc : Nat} {bn : ByteArray} {ba : Option Addr} {bl bc : Nat} {k : Int} {ql qr : ByteArray} {zt : Tm} {za : Option Addr} {zc : Nat} {Q : World} (h : Four w s n xt yt xa ya xc yc bn ba bl bc k ql qr zt za zc Q) : Q.cell? ⟨w.heap.size, 0, none⟩ = some (.string s) ∧ Q.cell? ⟨w.heap.size, 1, none⟩ = some (.int .i64 n) ∧ Q.cell? ⟨w.heap.size + 1, 0, none⟩ = some (.int .i64 xt.kind) ∧ Q.cell? ⟨w.heap.size + 1, 1, none⟩ = some (.string xt.name) ∧ Q.cell? ⟨w.heap.size + 1, 2, none⟩ = some (.int .i64 xt.n) ∧ Q.cell? ⟨w.heap.size + 1, 3, none⟩ = some (.slice xa xt.args.length xc) ∧ Q.cell? ⟨w.heap.size + 1, 4, none⟩ = some (.int .i64 yt.kind) ∧ Q.cell? ⟨w.heap.size + 1, 5, none⟩ = some (.string yt.name) ∧ Q.cell? ⟨w.heap.size + 1, 6, none⟩ = some (.int .i64 yt.n) ∧ Q.cell? ⟨w.heap.size + 1, 7, none⟩ = some (.slice ya yt.args.length yc) ∧ Q.cell? ⟨w.heap.size + 2, 0, none⟩ = some (.string bn) ∧ Q.cell? ⟨w.heap.size + 2, 1, none⟩ = some (.slice ba bl bc) ∧ Q.cell? ⟨w.heap.size + 3, 0, none⟩ = some (.int .i64 k) ∧ Q.cell? ⟨w.heap.size + 3, 1, none⟩ = some (.string ql) ∧ Q.cell? ⟨w.heap.size + 3, 2, none⟩ = some (.string qr) ∧ Q.cell? ⟨w.heap.size + 3, 3, none⟩ = some (.int .i64 zt.kind) ∧ Q.cell? ⟨w.heap.size + 3, 4, none⟩ = some (.string zt.name) ∧ Q.cell? ⟨w.heap.size + 3, 5, none⟩ = some (.int .i64 zt.n) ∧ Q.cell? ⟨w.heap.size + 3, 6, none⟩ = some (.slice za zt.args.length zc) :=
  ⟨h.b0.cell 0 _ rfl, h.b0.cell 1 _ rfl, h.b1.cell 0 _ rfl, h.b1.cell 1 _ rfl, h.b1.cell 2 _ rfl, h.b1.cell 3 _ rfl, h.b1.cell 4 _ rfl, h.b1.cell 5 _ rfl, h.b1.cell 6 _ rfl, h.b1.cell 7 _ rfl, h.b2.cell 0 _ rfl, h.b2.cell 1 _ rfl, h.b3.cell 0 _ rfl, h.b3.cell 1 _ rfl, h.b3.cell 2 _ rfl, h.b3.cell 3 _ rfl, h.b3.cell 4 _ rfl, h.b3.cell 5 _ rfl, h.b3.cell 6 _ rfl⟩

set_option maxRecDepth 100000 in
set_option maxHeartbeats 4000000 in
theorem lawLines14_any (z0 : Fn) (z1 : Qv) (z2 : Fw) (z3 : Kw) (v4 : Value) (ns : List Int) (w : World) (hT : Pow w) (h0 : FnOk z0) (h1 : z1.ok w) (h2 : z2.ok w) (h3 : z3.ok w) (h4 : Nums w v4 ns) :
    Calls Tryd.prog 3 #[fnVal z0, z1.val, z2.val, z3.val, v4] w fun e w' => e = .returned (.bool true) ∧ Below w.heap.size w w' := by
  obtain ⟨na, nc, rfl, hnl⟩ : ∃ a c, v4 = .slice a ns.length c ∧ ns.length ≤ 9223372036854775807 := by obtain ⟨a, c, h, h5, h6, _⟩ := h4; exact ⟨a, c, h, by omega⟩
  obtain ⟨ba, bc, hv2⟩ : ∃ a c, z2.v = .slice a z2.ts.length c := by obtain ⟨a, c, h, _⟩ := h2.2; exact ⟨a, c, h⟩
  have PF := Lib.hid (fun (W : World) (hb : Below w.heap.size w W) (hs : z0.1.size ≤ 100) => psh_fun z0 W (hT.below hb) h0 (by omega))
  have RF := Lib.hid (fun (W : World) (hs : z0.1.size ≤ 100) => rsh_fun z0 W h0 (by omega))
  have PR := Lib.hid (fun (W : World) (hb : Below w.heap.size w W) (ha : smallB z1.l.t = true) (hc : smallB z1.r.t = true) => psh_rule z1 W (hT.below hb) (h1.below hb) (by have := wt_small ha; omega) (by have := wt_small hc; omega))
  have RR := Lib.hid (fun (W : World) (hb : Below w.heap.size w W) (ha : smallB z1.l.t = true) (hc : smallB z1.r.t = true) => rsh_rule z1 W (h1.below hb) (by have := wt_small ha; omega) (by have := wt_small hc; omega))
  have PB := Lib.hid (fun (W : World) (hb : Below w.heap.size w W) (hs : z2.name.size ≤ 100) (ha : smallsB z2.ts = true) => psh_frame z2 W (hT.below hb) (h2.below hb) (fun t ht => by have := wt_small ((smalls_of ha).2 t ht); omega) (by omega) (by have := (smalls_of ha).1; omega))
  have RB := Lib.hid (fun (W : World) (hb : Below w.heap.size w W) (hs : z2.name.size ≤ 100) (ha : smallsB z2.ts = true) => rsh_frame z2 W (h2.below hb) (fun t ht => by have := wt_small ((smalls_of ha).2 t ht); omega) (by omega) (by have := (smalls_of ha).1; omega))
  have PQ := Lib.hid (fun (W : World) (hb : Below w.heap.size w W) (hl : z3.left.size ≤ 100) (hr : z3.right.size ≤ 100) (ha : smallB z3.t.t = true) => psh_query z3 W (hT.below hb) (h3.below hb) (by have := wt_small ha; omega) (by omega) (by omega))
  have RQ := Lib.hid (fun (W : World) (hb : Below w.heap.size w W) (hl : z3.left.size ≤ 100) (hr : z3.right.size ≤ 100) (ha : smallB z3.t.t = true) => rsh_query z3 W (h3.below hb) (by have := wt_small ha; omega) (by omega) (by omega))
  have PN := Lib.hid (fun (W : World) (hb : Below w.heap.size w W) (hn : ns.length ≤ 100) => pplace_any _ ns W (hT.below hb) (h4.below hb) (by omega))
  have RN := Lib.hid (fun (W : World) (hb : Below w.heap.size w W) (hn : ns.length ≤ 100) => rsh_place _ ns W (h4.below hb) (by omega))
  have SA := Lib.hid (fun (W : World) (hb : Below w.heap.size w W) => small_tm z1.l W (h1.1.below hb))
  have SB := Lib.hid (fun (W : World) (hb : Below w.heap.size w W) => small_tm z1.r W (h1.2.below hb))
  have SC := Lib.hid (fun (W : World) (hb : Below w.heap.size w W) => smalls_tm z2.v z2.ts W (h2.2.below hb))
  have SD := Lib.hid (fun (W : World) (hb : Below w.heap.size w W) => small_tm z3.t W (h3.2.2.2.below hb))
  have AW := Lib.hid (fun (W : World) (hb : Below w.heap.size w W) => awake14_any W (hT.below hb))
  have z0s := h0.size
  have bls := h2.1
  have qls := h3.2.1
  have qrs := h3.2.2.1
  clear h0 h1 h2 h3 h4 hT
  obtain ⟨s, n⟩ := z0
  obtain ⟨⟨xt, xa, xc⟩, ⟨yt, ya, yc⟩⟩ := z1
  obtain ⟨bn, bv, ts⟩ := z2
  obtain ⟨k, ql, qr, ⟨zt, za, zc⟩⟩ := z3
  simp only at hv2
  subst hv2
  unfold fnVal Qv.val Fw.val Kw.val
  unfold fnVal at PF RF
  unfold Qv.val at PR RR
  unfold Fw.val at PB RB
  unfold Kw.val at PQ RQ
  unfold Tv.val at SA SB SD
  simp only at PF RF PR RR PB RB PQ RQ SA SB SC SD z0s bls qls qrs ⊢
  have h4n := four_new w s n xt yt xa ya xc yc bn ba ts.length bc k ql qr zt za zc
  have hbV : Below w.heap.size w ((((w.alloc (.cells #[.string s, .int .i64 n] 23)).alloc (.cells #[.int .i64 xt.kind, .string xt.name, .int .i64 xt.n, .slice xa xt.args.length xc, .int .i64 yt.kind, .string yt.name, .int .i64 yt.n, .slice ya yt.args.length yc] 28)).alloc (.cells #[.string bn, .slice ba ts.length bc] 30)).alloc (.cells #[.int .i64 k, .string ql, .string qr, .int .i64 zt.kind, .string zt.name, .int .i64 zt.n, .slice za zt.args.length zc] 32)) := by
    have a1 := (Below.refl w.heap.size w).alloc (Nat.le_refl _) (.cells #[.string s, .int .i64 n] 23)
    have a2 := a1.alloc a1.size (.cells #[.int .i64 xt.kind, .string xt.name, .int .i64 xt.n, .slice xa xt.args.length xc, .int .i64 yt.kind, .string yt.name, .int .i64 yt.n, .slice ya yt.args.length yc] 28)
    have a3 := a2.alloc a2.size (.cells #[.string bn, .slice ba ts.length bc] 30)
    exact a3.alloc a3.size _
  have A1 := Lib.hid (AW.out _ hbV)
  have H4 := Lib.hid h4n
  have HBV := Lib.hid hbV
  clear h4n hbV AW
  go_enter Tryd.func3, Tryd.ntmps3
  go_wp2_with fail
  refine A1.out.mono ?_; rintro e w1 ⟨rfl, hb1⟩
  have HF := Lib.hid (H4.out.below hb1)
  have HB1 := Lib.hid (below_next HBV.out hb1)
  obtain ⟨c00, c01, c10, c11, c12, c13, c14, c15, c16, c17, c20, c21, c30, c31, c32, c33, c34, c35, c36⟩ := HF.out.cells
  clear hb1 A1 H4 HBV
  by_cases i0 : (100 : Int) < (s.size : Int)
  · go_wp2_with fail
    go_ret
    exact ⟨rfl, HB1.out⟩
  by_cases i1 : (100 : Int) < (bn.size : Int)
  · go_wp2_with fail
    go_ret
    exact ⟨rfl, HB1.out⟩
  by_cases i2 : (100 : Int) < (ql.size : Int)
  · go_wp2_with fail
    go_ret
    exact ⟨rfl, HB1.out⟩
  by_cases i3 : (100 : Int) < (qr.size : Int)
  · go_wp2_with fail
    go_ret
    exact ⟨rfl, HB1.out⟩
  by_cases i4 : (100 : Int) < (ns.length : Int)
  · go_wp2_with fail
    go_ret
    exact ⟨rfl, HB1.out⟩
  have j0 : s.size ≤ 100 := by omega
  have j1 : bn.size ≤ 100 := by omega
  have j2 : ql.size ≤ 100 := by omega
  have j3 : qr.size ≤ 100 := by omega
  have j4 : ns.length ≤ 100 := by omega
  go_wp2_with fail
  refine (SA.out _ HB1.out).mono ?_; rintro e w2 ⟨rfl, hb2⟩
  have HF2 := Lib.hid (HF.out.below hb2)
  have HB2 := Lib.hid (below_next HB1.out hb2)
  clear c00 c01 c10 c11 c12 c13 c14 c15 c16 c17 c20 c21 c30 c31 c32 c33 c34 c35 c36 hb2 HF HB1 SA
  obtain ⟨c00, c01, c10, c11, c12, c13, c14, c15, c16, c17, c20, c21, c30, c31, c32, c33, c34, c35, c36⟩ := HF2.out.cells
  cases e1 : smallB xt with
  | false =>
    go_wp2_with fail
    go_ret
    exact ⟨rfl, HB2.out⟩
  | true =>
  go_wp2_with fail
  refine (SB.out _ HB2.out).mono ?_; rintro e w3 ⟨rfl, hb3⟩
  have HF3 := Lib.hid (HF2.out.below hb3)
  have HB3 := Lib.hid (below_next HB2.out hb3)
  clear c00 c01 c10 c11 c12 c13 c14 c15 c16 c17 c20 c21 c30 c31 c32 c33 c34 c35 c36 hb3 HF2 HB2 SB
  obtain ⟨c00, c01, c10, c11, c12, c13, c14, c15, c16, c17, c20, c21, c30, c31, c32, c33, c34, c35, c36⟩ := HF3.out.cells
  cases e2 : smallB yt with
  | false =>
    go_wp2_with fail
    go_ret
    exact ⟨rfl, HB3.out⟩
  | true =>
  go_wp2_with fail
  refine (SC.out _ HB3.out).mono ?_; rintro e w4 ⟨rfl, hb4⟩
  have HF4 := Lib.hid (HF3.out.below hb4)
  have HB4 := Lib.hid (below_next HB3.out hb4)
  clear c00 c01 c10 c11 c12 c13 c14 c15 c16 c17 c20 c21 c30 c31 c32 c33 c34 c35 c36 hb4 HF3 HB3 SC
  obtain ⟨c00, c01, c10, c11, c12, c13, c14, c15, c16, c17, c20, c21, c30, c31, c32, c33, c34, c35, c36⟩ := HF4.out.cells
  cases e3 : smallsB ts with
  | false =>
    go_wp2_with fail
    go_ret
    exact ⟨rfl, HB4.out⟩
  | true =>
  go_wp2_with fail
  refine (SD.out _ HB4.out).mono ?_; rintro e w5 ⟨rfl, hb5⟩
  have HF5 := Lib.hid (HF4.out.below hb5)
  have HB5 := Lib.hid (below_next HB4.out hb5)
  clear c00 c01 c10 c11 c12 c13 c14 c15 c16 c17 c20 c21 c30 c31 c32 c33 c34 c35 c36 hb5 HF4 HB4 SD
  obtain ⟨c00, c01, c10, c11, c12, c13, c14, c15, c16, c17, c20, c21, c30, c31, c32, c33, c34, c35, c36⟩ := HF5.out.cells
  cases e4 : smallB zt with
  | false =>
    go_wp2_with fail
    go_ret
    exact ⟨rfl, HB5.out⟩
  | true =>
  have hw := fun p : After w5 => below_next HB5.out p.below
  have C1 := Lib.hid (fun p : After w5 => PF.out p.w (hw p) j0)
  have C2 := Lib.hid (fun p : After w5 => RF.out p.w j0)
  have C3 := Lib.hid (fun p : After w5 => PR.out p.w (hw p) e1 e2)
  have C4 := Lib.hid (fun p : After w5 => RR.out p.w (hw p) e1 e2)
  have C5 := Lib.hid (fun p : After w5 => PB.out p.w (hw p) j1 e3)
  have C6 := Lib.hid (fun p : After w5 => RB.out p.w (hw p) j1 e3)
  have C7 := Lib.hid (fun p : After w5 => PQ.out p.w (hw p) j2 j3 e4)
  have C8 := Lib.hid (fun p : After w5 => RQ.out p.w (hw p) j2 j3 e4)
  have C9 := Lib.hid (fun p : After w5 => PN.out p.w (hw p) j4)
  have C10 := Lib.hid (fun p : After w5 => RN.out p.w (hw p) j4)
  have FC := fun p : After w5 => (HF5.out.below p.below).cells
  obtain ⟨b1, hb1⟩ : ∃ b : ByteArray, (⟨(lnFun s n).toArray⟩ : ByteArray) = b := ⟨_, rfl⟩
  obtain ⟨b2, hb2⟩ : ∃ b : ByteArray, (⟨(lnRule xt yt).toArray⟩ : ByteArray) = b := ⟨_, rfl⟩
  obtain ⟨b3, hb3⟩ : ∃ b : ByteArray, (⟨(lnFrame bn ts).toArray⟩ : ByteArray) = b := ⟨_, rfl⟩
  obtain ⟨b4, hb4⟩ : ∃ b : ByteArray, (⟨(lnAsk k ql qr zt).toArray⟩ : ByteArray) = b := ⟨_, rfl⟩
  obtain ⟨b5, hb5⟩ : ∃ b : ByteArray, (⟨(lnPlace ns).toArray⟩ : ByteArray) = b := ⟨_, rfl⟩
  rw [hb1] at C1 C2
  rw [hb2] at C3 C4
  rw [hb3] at C5 C6
  rw [hb4] at C7 C8
  rw [hb5] at C9 C10
  clear c00 c01 c10 c11 c12 c13 c14 c15 c16 c17 c20 c21 c30 c31 c32 c33 c34 c35 c36 hb1 hb2 hb3 hb4 hb5 PF RF PR RR PB RB PQ RQ PN RN i0 i1 i2 i3 i4 j0 j1 j2 j3 j4 e1 e2 e3 e4 hw z0s bls qls qrs
  have d00 := fun p : After w5 => (FC p).1
  have d01 := fun p : After w5 => (FC p).2.1
  have d10 := fun p : After w5 => (FC p).2.2.1
  have d11 := fun p : After w5 => (FC p).2.2.2.1
  have d12 := fun p : After w5 => (FC p).2.2.2.2.1
  have d13 := fun p : After w5 => (FC p).2.2.2.2.2.1
  have d14 := fun p : After w5 => (FC p).2.2.2.2.2.2.1
  have d15 := fun p : After w5 => (FC p).2.2.2.2.2.2.2.1
  have d16 := fun p : After w5 => (FC p).2.2.2.2.2.2.2.2.1
  have d17 := fun p : After w5 => (FC p).2.2.2.2.2.2.2.2.2.1
  have d20 := fun p : After w5 => (FC p).2.2.2.2.2.2.2.2.2.2.1
  have d21 := fun p : After w5 => (FC p).2.2.2.2.2.2.2.2.2.2.2.1
  have d30 := fun p : After w5 => (FC p).2.2.2.2.2.2.2.2.2.2.2.2.1
  have d31 := fun p : After w5 => (FC p).2.2.2.2.2.2.2.2.2.2.2.2.2.1
  have d32 := fun p : After w5 => (FC p).2.2.2.2.2.2.2.2.2.2.2.2.2.2.1
  have d33 := fun p : After w5 => (FC p).2.2.2.2.2.2.2.2.2.2.2.2.2.2.2.1
  have d34 := fun p : After w5 => (FC p).2.2.2.2.2.2.2.2.2.2.2.2.2.2.2.2.1
  have d35 := fun p : After w5 => (FC p).2.2.2.2.2.2.2.2.2.2.2.2.2.2.2.2.2.1
  have d36 := fun p : After w5 => (FC p).2.2.2.2.2.2.2.2.2.2.2.2.2.2.2.2.2.2
  have q1 : (b1.toList == b1.toList) = true := by simp
  have q2 : (b2.toList == b2.toList) = true := by simp
  have q3 : (b3.toList == b3.toList) = true := by simp
  have q4 : (b4.toList == b4.toList) = true := by simp
  have q5 : (b5.toList == b5.toList) = true := by simp
  clear FC
  go_wp2_with fail
  refine wp_region_after (Below.refl _ w5) (by kernel_rfl) (by kernel_rfl) ?_
  repeat (quiet_step ((first
    | (go_at_call 7; exact after_call (C1.out _))
    | (go_at_call 8; exact after_call (C2.out _))
    | (go_at_call 9; exact after_call (C3.out _))
    | (go_at_call 10; exact after_call (C4.out _))
    | (go_at_call 11; exact after_call (C5.out _))
    | (go_at_call 12; exact after_call (C6.out _))
    | (go_at_call 13; exact after_call (C7.out _))
    | (go_at_call 14; exact after_call (C8.out _))
    | (go_at_call 15; exact after_call (C9.out _))
    | (go_at_call 16; exact after_call (C10.out _)))))
  refine wpQuiet_nil ?_
  intro _ hw'
  obtain ⟨⟨wq, hbq⟩, hw''⟩ := hw'
  subst hw''
  have HQ2 := Lib.hid (below_next HB5.out hbq)
  clear hbq d00 d01 d10 d11 d12 d13 d14 d15 d16 d17 d20 d21 d30 d31 d32 d33 d34 d35 d36
  go_wp2_with fail
  go_ret
  exact ⟨rfl, HQ2.out⟩
end Go.Proofs.YtmpaljmkfnpcpaaDoor
