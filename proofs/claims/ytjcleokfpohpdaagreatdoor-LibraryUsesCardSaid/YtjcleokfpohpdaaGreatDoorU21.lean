/-
  Which of two binds comes first by its name, and whether two are of one name, by the program: byName, namesake; in the words of a sort.
-/
import Derived.Test.YtjcleokfpohpdaaGreatDoorU20
import Derived.Test.YtjcleokfpohpdaaGreatDoorShelf
namespace Go.Proofs.YtjcleokfpohpdaaGreatDoor
open Go.RowKit Go.Shelf Go.Lib Go.Sort
theorem compareBytes_ways:∀ l m:List UInt8,Lib.compareBytes l m=if Op.bytesLess l m=true then -1 else if (l==m)=true then 0 else 1
  | [],[]=>by simp [Lib.compareBytes,Op.bytesLess]
  | [],b :: m=>by simp [Lib.compareBytes,Op.bytesLess]
  | a :: l,[]=>by simp [Lib.compareBytes,Op.bytesLess]
  | a :: l,b :: m=>by
    rw [Lib.compareBytes,compareBytes_ways l m]
    by_cases h1:a < b
    · simp [h1,Op.bytesLess]
    · by_cases h2:b < a
      · have hne:a≠b:=fun e=>by subst e;exact absurd h2 (by simp)
        rw [if_neg h1,if_pos h2,if_neg (by simp [Op.bytesLess,h1,hne]),if_neg (by simp [hne])]
      · have e:a=b:=by
          have:=UInt8.le_antisymm (UInt8.not_lt.1 h2) (UInt8.not_lt.1 h1)
          exact this
        subst e
        simp [Op.bytesLess,h1]
theorem compareBytes_cmpS (s t:ByteArray):Lib.compareBytes s.data.toList t.data.toList=cmpS s t:=by
  rw [compareBytes_ways];unfold cmpS;rw [ByteArray.toList_eq,ByteArray.toList_eq]
theorem onto_sort {W w':World} (h:Onto W w'):∃ q os',w'=grow (W.drewN q) os':=by
  refine ⟨0,w'.heap.extract W.heap.size w'.heap.size,?_⟩
  obtain ⟨⟨h1,h2,h3,h4,h5⟩,h6⟩:=h
  have he:w'.heap=W.heap ++ w'.heap.extract W.heap.size w'.heap.size:=by
    apply Array.ext_getElem?
    intro i
    rcases Nat.lt_or_ge i W.heap.size with hi | hi
    · rw [Array.getElem?_append_left hi,h5 i hi]
    · rw [Array.getElem?_append_right hi,Array.getElem?_extract]
      by_cases hl:i < w'.heap.size
      · rw [if_pos (by simp;omega)];congr 1;omega
      · rw [if_neg (by simp;omega),Array.getElem?_eq_none (by omega)]
  obtain ⟨heap,tape,drawn,os,output⟩:=w'
  obtain ⟨heap',tape',drawn',os',output'⟩:=W
  simp only at h1 h2 h3 h6 he
  subst h1 h2 h3 h6
  show World.mk _ _ _ _ _=World.mk _ _ _ _ _
  congr 1
set_option maxHeartbeats 1000000 in
theorem byname_any (x y:Bv) (w:World):Calls Tryz.prog 229 #[.agg x.cells.toArray,.agg y.cells.toArray] w fun e w'=>e=.returned (.int .i64 (cfN x y))∧Onto w w':=by
  have C:=Lib.hid (fun (W:World)=>Tryz.strings_Compare x.s y.s W)
  have HV:=Lib.hid (show Lib.compareBytes x.s.data.toList y.s.data.toList=cfN x y from compareBytes_cmpS _ _)
  obtain ⟨xs,⟨xt,xa,xc⟩⟩:=x
  obtain ⟨ys,⟨yt,ya,yc⟩⟩:=y
  simp only [Bv.cells] at *
  have hz1:(w.alloc (.cells #[.string xs,.int .i64 xt.kind,.string xt.name,.int .i64 xt.n,.slice xa xt.args.length xc] 233)).heap.size=w.heap.size + 1:=by simp
  have e1:=(((Below.refl (w.heap.size + 1) (w.alloc (.cells #[.string xs,.int .i64 xt.kind,.string xt.name,.int .i64 xt.n,.slice xa xt.args.length xc] 233))).alloc (by omega) (.cells #[.string ys,.int .i64 yt.kind,.string yt.name,.int .i64 yt.n,.slice ya yt.args.length yc] 233)).cell (p:=⟨w.heap.size,0,none⟩) (by show w.heap.size < _;omega)).trans (World.cell?_alloc_mark w #[.string xs,.int .i64 xt.kind,.string xt.name,.int .i64 xt.n,.slice xa xt.args.length xc] 233 (0,0) 0)
  have e2:=World.cell?_alloc_mark (w.alloc (.cells #[.string xs,.int .i64 xt.kind,.string xt.name,.int .i64 xt.n,.slice xa xt.args.length xc] 233)) #[.string ys,.int .i64 yt.kind,.string yt.name,.int .i64 yt.n,.slice ya yt.args.length yc] 233 (0,0) 0
  rw [hz1] at e2
  simp only [List.getElem?_toArray,List.getElem?_cons_zero] at e1 e2
  have hO:Onto w ((w.alloc (.cells #[.string xs,.int .i64 xt.kind,.string xt.name,.int .i64 xt.n,.slice xa xt.args.length xc] 233)).alloc (.cells #[.string ys,.int .i64 yt.kind,.string yt.name,.int .i64 yt.n,.slice ya yt.args.length yc] 233)):=((Onto.refl w).alloc _).alloc _
  have HO:=Lib.hid hO
  clear hO
  go_enter Tryz.func229,Tryz.ntmps229
  go_wp2_with fail
  refine (C.out _).mono ?_;rintro e w1 ⟨rfl,rfl⟩
  go_wp2_with fail
  go_ret
  exact ⟨ret_int HV.out,HO.out⟩
set_option maxHeartbeats 1000000 in
theorem namesake_any (x y:Bv) (w:World):Calls Tryz.prog 243 #[.agg x.cells.toArray,.agg y.cells.toArray] w fun e w'=>e=.returned (.bool (sameN x y))∧Onto w w':=by
  have HV:=Lib.hid (show (x.s.toList==y.s.toList)=sameN x y from rfl)
  obtain ⟨xs,⟨xt,xa,xc⟩⟩:=x
  obtain ⟨ys,⟨yt,ya,yc⟩⟩:=y
  simp only [Bv.cells] at *
  have hz1:(w.alloc (.cells #[.string xs,.int .i64 xt.kind,.string xt.name,.int .i64 xt.n,.slice xa xt.args.length xc] 233)).heap.size=w.heap.size + 1:=by simp
  have e1:=(((Below.refl (w.heap.size + 1) (w.alloc (.cells #[.string xs,.int .i64 xt.kind,.string xt.name,.int .i64 xt.n,.slice xa xt.args.length xc] 233))).alloc (by omega) (.cells #[.string ys,.int .i64 yt.kind,.string yt.name,.int .i64 yt.n,.slice ya yt.args.length yc] 233)).cell (p:=⟨w.heap.size,0,none⟩) (by show w.heap.size < _;omega)).trans (World.cell?_alloc_mark w #[.string xs,.int .i64 xt.kind,.string xt.name,.int .i64 xt.n,.slice xa xt.args.length xc] 233 (0,0) 0)
  have e2:=World.cell?_alloc_mark (w.alloc (.cells #[.string xs,.int .i64 xt.kind,.string xt.name,.int .i64 xt.n,.slice xa xt.args.length xc] 233)) #[.string ys,.int .i64 yt.kind,.string yt.name,.int .i64 yt.n,.slice ya yt.args.length yc] 233 (0,0) 0
  rw [hz1] at e2
  simp only [List.getElem?_toArray,List.getElem?_cons_zero] at e1 e2
  have hO:Onto w ((w.alloc (.cells #[.string xs,.int .i64 xt.kind,.string xt.name,.int .i64 xt.n,.slice xa xt.args.length xc] 233)).alloc (.cells #[.string ys,.int .i64 yt.kind,.string yt.name,.int .i64 yt.n,.slice ya yt.args.length yc] 233)):=((Onto.refl w).alloc _).alloc _
  have HO:=Lib.hid hO
  clear hO
  go_enter Tryz.func243,Tryz.ntmps243
  go_wp2_with fail
  go_ret
  exact ⟨ret_bool HV.out,HO.out⟩
theorem cmpLaysN (blk off size:Nat) (w:World):CmpLays Tryz.prog 229 #[] Bv.cells 5 cfN blk off size w:=fun _ _ _ _ x y =>
  (byname_any x y _).mono fun _ _ ⟨he,hO⟩=>⟨he,onto_sort hO⟩
theorem eqLaysN (blk off size:Nat) (w:World):EqLays Tryz.prog 243 #[] Bv.cells 5 sameN blk off size w:=fun _ _ _ _ x y =>
  (namesake_any x y _).mono fun _ _ ⟨he,hO⟩=>⟨he,onto_sort hO⟩
end Go.Proofs.YtjcleokfpohpdaaGreatDoor
