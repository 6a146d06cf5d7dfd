/-
  Items in memory: a key, a place, two rows of trees; rows of items. A world cut off at a block. No function of the program.
  A text's items, and there and back: what items are shown as has the same items. No function of the program.
  The tokens of a text are small: their numbers, places, texts, and how many they are. No function of the program.
  What a call of Parse leaves; the items from a token on, step by step.
  Rows of function symbols in memory: each a name and an arity. No function of the program.
  The primitives as data: their texts, read as the grammar reads them. No function of the program.
  Slices that read as lists of whole numbers: places. Nothing of the program's functions.
-/
import Derived.Test.YtjcleokfpohpdaaGreatDoorU06
import Derived.Test.YtjcleokfpohpdaaGreatDoorU04
import Derived.Test.YtjcleokfpohpdaaGreatDoorU01
import Derived.Below
import Derived.Laws.OwnMore
import Derived.Lib.SlicesS
import Derived.Test.YtjcleokfpohpdaaGreatDoorU03
namespace Go.Proofs.YtjcleokfpohpdaaGreatDoor
open Go.RowKit
structure Iv where
  it:It
  vw:Value
  vt:Value
def Iv.cells (y:Iv):List Value:=[.string y.it.key,.int .i64 y.it.spot,y.vw,y.vt]
structure Iv.ok (W:World) (y:Iv):Prop where
  words:Trs W y.vw y.it.words
  trees:Trs W y.vt y.it.trees
  len:y.it.key.size≤9223372036854775807
theorem Iv.ok.below {w w':World} {y:Iv} (h:y.ok w) (hb:Below w.heap.size w w'):y.ok w':=⟨h.words.below hb,h.trees.below hb,h.len⟩
def rowIv (vs:List Iv):List Value:=vs.flatMap Iv.cells
theorem rowIv_append (a b:List Iv):rowIv (a ++ b)=rowIv a ++ rowIv b:=by unfold rowIv;rw [List.flatMap_append]
theorem rowIv_one (v:Iv):rowIv [v]=v.cells:=by unfold rowIv;simp
theorem rowIv_get:∀ (vs:List Iv) (j:Nat) (h:j < vs.length) (i:Nat),i < 4→(rowIv vs)[j * 4 + i]? = vs[j].cells[i]?
  | [],_,h,_,_=>by simp at h
  | v :: r,0,_,i,hi=>by
    unfold rowIv
    rw [List.flatMap_cons,List.getElem?_append_left (by unfold Iv.cells;simp;omega)];simp
  | v :: r,j + 1,h,i,hi=>by
    have:=rowIv_get r j (by simpa using h) i hi
    unfold rowIv at this ⊢
    rw [List.flatMap_cons,List.getElem?_append_right (by unfold Iv.cells;simp;omega)]
    rw [show (j + 1) * 4 + i - v.cells.length=j * 4 + i from by unfold Iv.cells;simp;omega,this]
    simp
structure IvAt (w:World) (b o:Nat) (y:Iv):Prop where
  c0:w.cell? ⟨b,o,none⟩=some (.string y.it.key)
  c1:w.cell? ⟨b,o + 1,none⟩=some (.int .i64 y.it.spot)
  c2:w.cell? ⟨b,o + 2,none⟩=some y.vw
  c3:w.cell? ⟨b,o + 3,none⟩=some y.vt
theorem IvAt.below {w w':World} {b o:Nat} {y:Iv} (h:IvAt w b o y) (hb:Below w.heap.size w w'):IvAt w' b o y:=by
  have hlt:=lt_of_cellR h.c0
  exact ⟨(hb.cell (p:=⟨b,o,none⟩) hlt).trans h.c0,(hb.cell (p:=⟨b,o + 1,none⟩) hlt).trans h.c1,(hb.cell (p:=⟨b,o + 2,none⟩) hlt).trans h.c2,(hb.cell (p:=⟨b,o + 3,none⟩) hlt).trans h.c3⟩
def Its (w:World) (v:Value) (xs:List It):Prop:=∃ a c,v=.slice a xs.length c∧(xs.length≤9223372036854775807∧xs.length≤c)∧(xs=[]∨∃ b o,a=some ⟨b,o,none⟩∧b < w.heap.size∧∀ (j:Nat) (h:j < xs.length),∃ y:Iv,y.it=xs[j]∧y.ok w∧IvAt w b (o + j * 4) y)
theorem Its.none_ (w:World) (a:Option Addr) (c:Nat):Its w (.slice a 0 c) []:=⟨a,c,rfl,by simp,.inl rfl⟩
theorem Its.below {w w':World} {v:Value} {xs:List It} (h:Its w v xs) (hb:Below w.heap.size w w'):Its w' v xs:=by
  obtain ⟨a,c,hv,hl,h⟩:=h
  refine ⟨a,c,hv,hl,?_⟩
  rcases h with h | ⟨b,o,ha,hlt,h⟩
  · exact .inl h
  · refine .inr ⟨b,o,ha,Nat.lt_of_lt_of_le hlt hb.size,fun j hj=>?_⟩
    obtain ⟨y,h1,h2,h3⟩:=h j hj
    exact ⟨y,h1,h2.below hb,h3.below hb⟩
def LiveIt (W:World) (g:Option Nat) (base:Nat) (y:Iv):Prop:=∃ lo hi,base≤lo∧lo≤hi∧hi≤W.heap.size∧(∀ k,g=some k→k < lo∨hi≤k) ∧
  ∀ W',hi≤W'.heap.size→(∀ k,lo≤k→k < hi→W'.heap[k]? = W.heap[k]?)→y.ok W'
theorem LiveIt.ok {W:World} {g:Option Nat} {base:Nat} {y:Iv} (h:LiveIt W g base y):y.ok W:=by
  obtain ⟨lo,hi,_,_,h3,_,h5⟩:=h
  exact h5 W h3 fun _ _ _=>rfl
theorem LiveIt.keep {W W':World} {g g':Option Nat} {base:Nat} {y:Iv} (h:LiveIt W g base y) (hs:W.heap.size≤W'.heap.size) (hk:∀ k,k < W.heap.size→some k≠g→W'.heap[k]? = W.heap[k]?) (hg:∀ k,g'=some k→g=some k∨W.heap.size≤k):LiveIt W' g' base y:=by
  obtain ⟨lo,hi,h1,h2,h3,h4,h5⟩:=h
  refine ⟨lo,hi,h1,h2,Nat.le_trans h3 hs,fun k e=>?_,fun W2 g1 g2=>h5 W2 g1 fun k k1 k2=>?_⟩
  · rcases hg k e with e | e
    · exact h4 k e
    · exact .inr (Nat.le_trans h3 e)
  · rw [g2 k k1 k2]
    refine hk k (Nat.lt_of_lt_of_le k2 h3) fun e=>?_
    rcases h4 k e.symm with e | e<;>omega
theorem LiveIt.below {W W':World} {g:Option Nat} {base:Nat} {y:Iv} (h:LiveIt W g base y) (hb:Below W.heap.size W W'):LiveIt W' g base y:=h.keep hb.size (fun k hk _=>hb.block k hk) fun _ e=>.inl e
theorem LiveIt.grown {W W':World} {g g':Option Nat} {base:Nat} {y:Iv} (h:LiveIt W g base y) (hg:W.grownBy W' g) (hat:g'=g∨g'=some W.heap.size):LiveIt W' g' base y:=h.keep hg.size (fun k hk e=>hg.block k hk e) fun k e=>by
  rcases hat with e2 | e2
  · left;rw [← e2];exact e
  · right;rw [e2] at e;injection e with e;omega
structure RowIt (W:World) (e:TypeId) (base:Nat) (v:Value) (xs:List It):Prop where
  row:∃ vs:List Iv,vs.map Iv.it=xs∧(∀ y ∈ vs,LiveIt W v.ownBlock base y)∧W.ownsRow base e 4 v xs.length (rowIv vs)
theorem rowIt_nil (W:World) (e:TypeId) (base:Nat):RowIt W e base (.slice none 0 0) []:=⟨[],rfl,(fun x hx=>by cases hx),World.ownsRow_nil _ _ _ _⟩
theorem RowIt.keep {W W':World} {e:TypeId} {base:Nat} {v:Value} {xs:List It} (h:RowIt W e base v xs) (hs:W.heap.size≤W'.heap.size) (hk:∀ k,k < W.heap.size→W'.heap[k]? = W.heap[k]?):RowIt W' e base v xs:=by
  obtain ⟨vs,h1,h2,h3⟩:=h
  exact ⟨vs,h1,fun x hx=>(h2 x hx).keep hs (fun k q _=>hk k q) fun k e=>.inl e,own_at h3 fun g q=>hk g (own_row_lt h3 g q)⟩
theorem RowIt.below {W W':World} {e:TypeId} {base:Nat} {v:Value} {xs:List It} (h:RowIt W e base v xs) (hb:Below W.heap.size W W'):RowIt W' e base v xs:=h.keep hb.size fun k hk=>hb.block k hk
theorem RowIt.snoc {W W':World} {e:TypeId} {base:Nat} {v v':Value} {xs:List It} {vs:List Iv} {y:Iv} (h1:vs.map Iv.it=xs) (h2:∀ x ∈ vs,LiveIt W v.ownBlock base x) (hy:LiveIt W v.ownBlock base y)
    (hown:W'.ownsRow base e 4 v' (xs.length + 1) (rowIv vs ++ y.cells)) (hg:W.grownBy W' v.ownBlock) (hat:v'.ownBlock=v.ownBlock∨v'.ownBlock=some W.heap.size):RowIt W' e base v' (xs ++ [y.it]):=by
  refine ⟨vs ++ [y],by rw [List.map_append,h1];rfl,fun x hx=>?_,?_⟩
  · rcases List.mem_append.1 hx with hx | hx
    · exact (h2 x hx).grown hg hat
    · rw [List.mem_singleton] at hx;rw [hx];exact hy.grown hg hat
  · rw [List.length_append,rowIv_append,rowIv_one];exact hown
theorem RowIt.its {W:World} {e:TypeId} {base:Nat} {v:Value} {xs:List It} (h:RowIt W e base v xs) (hl:xs.length≤9223372036854775807):Its W v xs:=by
  obtain ⟨vs,rfl,hok,hn,h⟩:=h
  rcases h with ⟨rfl,h0⟩ | ⟨g,cap,cur,rfl,_,hg,hcap,hmax,hsz,htake⟩
  · have:vs=[]:=by simpa using h0
    subst this
    exact Its.none_ _ _ _
  · refine ⟨_,cap,rfl,⟨hl,hcap⟩,.inr ⟨g,0,rfl,?_,fun j hj=>?_⟩⟩
    · rcases Nat.lt_or_ge g W.heap.size with q | q
      · exact q
      · rw [Array.getElem?_eq_none q] at hg;cases hg
    · have hjv:j < vs.length:=by simpa using hj
      have hc:∀ i,i < 4→W.cell? ⟨g,0 + j * 4 + i,none⟩=vs[j].cells[i]? := fun i hi=>by
        rw [cell_of_row W g (0 + j * 4 + i) cur _ (0,0) hg,← rowIv_get vs j hjv i hi,← htake,List.getElem?_take,if_pos (by simp;omega),Nat.zero_add]
        simp
      refine ⟨vs[j],by simp,(hok _ (List.getElem_mem hjv)).ok,?_,?_,?_,?_⟩
      · exact hc 0 (by omega)
      · exact hc 1 (by omega)
      · exact hc 2 (by omega)
      · exact hc 3 (by omega)
def cutW (w:World) (n:Nat):World:={ w with heap:=w.heap.extract 0 n }
theorem cutW_size (w:World) {n:Nat} (h:n≤w.heap.size):(cutW w n).heap.size=n:=by unfold cutW;simp;omega
theorem cutW_block (w:World) {n k:Nat} (h:n≤w.heap.size) (hk:k < n):(cutW w n).heap[k]? = w.heap[k]? := by
  unfold cutW
  simp only [Array.getElem?_extract]
  rw [if_pos (by omega)]
  simp
theorem cutW_below (w:World) {n:Nat} (h:n≤w.heap.size):Below n (cutW w n) w :=
  ⟨rfl,rfl,rfl,by rw [cutW_size w h];exact h,fun k hk=>(cutW_block w h hk).symm⟩
theorem below_cutW {w0 w:World} (hb:Below w0.heap.size w0 w) {n:Nat} (h0:w0.heap.size≤n) (h:n≤w.heap.size):Below w0.heap.size w0 (cutW w n) :=
  ⟨hb.os,hb.tape,hb.output,by rw [cutW_size w h];exact h0,fun k hk=>(cutW_block w h (by omega)).trans (hb.block k hk)⟩
theorem cutW_back {w w':World} {n:Nat} (h:n≤w.heap.size) (hs:w.heap.size≤w'.heap.size) (hb:Below n (cutW w n) w'):Below n w w' :=
  ⟨hb.os,hb.tape,hb.output,hs,fun k hk=>(hb.block k hk).trans (cutW_block w h hk)⟩
end Go.Proofs.YtjcleokfpohpdaaGreatDoor
namespace Go.Proofs.YtjcleokfpohpdaaGreatDoor
open Go.RowKit
theorem tkD_snoc (more:List Tok) (e:Tok) (i:Nat):tkD (more ++ [e]) i=if h:i < more.length then more[i] else if i=more.length then e else nilTok:=by
  by_cases h:i < more.length
  · rw [dif_pos h,tkD_at (by rw [List.length_append,List.length_singleton];omega),List.getElem_append_left h]
  · rw [dif_neg h]
    by_cases e1:i=more.length
    · subst e1
      rw [if_pos rfl,tkD_at (by rw [List.length_append,List.length_singleton];omega),List.getElem_append_right (Nat.le_refl _)]
      simp
    · rw [if_neg e1,tkD_out (by rw [List.length_append,List.length_singleton];omega)]
structure TextToks (L:List Tok):Prop where
  ended:Ended L
  sound:AllSound L
  once:∀ i,i < L.length→(tkD L i).kind=0→i + 1=L.length
  pos:1≤L.length
theorem textToks_of {s:ByteArray} {ts:List Tok} (h:scanS s=.inr ts):TextToks ts:=by
  obtain ⟨more,rfl,hS,_⟩:=scanS_sound h
  have hk:∀ i,(tkD (more ++ [endTok s]) i).kind≠0→∃ h:i < more.length,tkD (more ++ [endTok s]) i=more[i]:=fun i hne=>by
    rw [tkD_snoc] at hne ⊢
    by_cases hi:i < more.length
    · exact ⟨hi,by rw [dif_pos hi]⟩
    · rw [dif_neg hi] at hne
      split at hne
      · exact absurd rfl hne
      · exact absurd rfl hne
  refine ⟨fun i hne=>?_,fun i hne=>?_,fun i hi h0=>?_,by rw [List.length_append,List.length_singleton];omega⟩
  · obtain ⟨hi,_⟩:=hk i hne
    rw [List.length_append,List.length_singleton];omega
  · obtain ⟨hi,e⟩:=hk i hne
    rw [e];exact hS _ (List.getElem_mem hi)
  · rw [List.length_append,List.length_singleton] at hi ⊢
    rw [tkD_snoc] at h0
    by_cases hl:i < more.length
    · rw [dif_pos hl] at h0
      exact absurd h0 (hS _ (List.getElem_mem hl)).nz
    · omega
theorem itemsF_same:∀ (f f':Nat) (L:List Tok) (i:Nat),Ended L→L.length - i + 1≤f→L.length - i + 1≤f'→itemsF f L i=itemsF f' L i
  | 0,_,_,_,_,h,_=>by omega
  | _ + 1,0,_,_,_,_,h=>by omega
  | f + 1,f' + 1,L,i,hE,h,h'=>by
    rw [itemsF,itemsF]
    by_cases h0:(tkD L i).kind=0
    · rw [if_pos h0,if_pos h0]
    · rw [if_neg h0,if_neg h0]
      have hi:=hE i h0
      by_cases h1:(tkD L i).kind≠1∨wordK (tkD L i)=true
      · rw [if_pos h1,if_pos h1]
      · rw [if_neg h1,if_neg h1]
        have hle:=goP_le L (shapesOf (tkD L i).text) ⟨(tkD L i).text,(tkD L i).place,[],[]⟩ (i + 1)
        rw [itemsF_same f f' L _ hE (by omega) (by omega)]
def itemsP (L:List Tok) (i:Nat):Nat ⊕ List It:=itemsF (L.length + 1) L i
def It.bare (x:It):It:=⟨x.key,0,bareL x.words,bareL x.trees⟩
mutual
theorem plainR_bare:∀ t:Tr,plainR t.bare=plainR t
  | .mk k s n p xs=>by rw [Tr.bare,plainR,plainR,plainRs_bare xs]
theorem plainRs_bare:∀ l:List Tr,plainRs (bareL l)=plainRs l
  | []=>by rw [bareL]
  | t :: r=>by rw [bareL,plainRs,plainRs,plainR_bare t,plainRs_bare r]
end
def parseS (s:ByteArray):Int × Int × List It :=
  if s.size≤8192 then (match scanS s with
    | .inl i=>(2,(i:Int),[])
    | .inr ts=>match itemsP ts 0 with
      | .inl j=>(2,(tkD ts j).place,[])
      | .inr xs=>(0,0,xs))
  else (3,0,[])
end Go.Proofs.YtjcleokfpohpdaaGreatDoor
namespace Go.Proofs.YtjcleokfpohpdaaGreatDoor
open Go.RowKit
structure SmallTok (s:ByteArray) (t:Tok):Prop where
  n0:0≤t.n
  n1:t.n≤999
  len:t.text.size≤s.size
  p0:0≤t.place
  p1:t.place≤s.size
theorem tokL_n {l:List UInt8} {c:Cut} (h:tokL l=some c):0≤c.n∧c.n≤999:=by
  have hn:∀ {k:Int} {t:List UInt8} {least:Int} {len:Nat},numCut k t least len=some c→0≤c.n∧c.n≤999:=fun h=>by
    rw [numCut_some h];exact numVal_bd _
  unfold tokL at h
  split at h
  · exact hn h
  · split at h
    · exact hn h
    · split at h
      · (injection h with h;subst h;exact ⟨(show (0:Int)≤0 by decide),(show (0:Int)≤999 by decide)⟩)
      · split at h
        · exact hn h
        · split at h
          · split at h
            · (injection h with h;subst h;exact ⟨(show (0:Int)≤0 by decide),(show (0:Int)≤999 by decide)⟩)
            · split at h
              · (injection h with h;subst h;exact ⟨(show (0:Int)≤0 by decide),(show (0:Int)≤999 by decide)⟩)
              · cases h
          · cases h
theorem small_end (s:ByteArray):SmallTok s (endTok s):=⟨(show (0:Int)≤0 by decide),(show (0:Int)≤999 by decide),Nat.zero_le _,Int.natCast_nonneg _,Int.le_refl _⟩
theorem scanF_small (s:ByteArray):∀ (f i:Nat) (acc ts:List Tok),i≤s.size→(∀ t ∈ acc,SmallTok s t)→scanF f s i acc=.inr ts→∀ t ∈ ts,SmallTok s t:=by
  have hend:∀ (acc ts:List Tok),(∀ t ∈ acc,SmallTok s t)→(Sum.inr (acc ++ [endTok s]):Nat ⊕ List Tok)=.inr ts→∀ t ∈ ts,SmallTok s t:=fun acc ts ha h t ht=>by
    rw [← Sum.inr.inj h] at ht
    rcases List.mem_append.1 ht with ht | ht
    · exact ha t ht
    · rw [List.mem_singleton] at ht;rw [ht];exact small_end s
  intro f
  induction f with
  | zero=>intro i acc ts _ ha h;exact hend acc ts ha h
  | succ f ih =>
    intro i acc ts hi ha h
    rw [scanF] at h
    split at h
    · exact hend acc ts ha h
    · next hlt =>
      have hlt:i < s.size:=by omega
      rw [head_at hlt] at h
      split at h
      · exact ih _ _ _ (by omega) ha h
      · split at h
        · exact ih _ _ _ (rem_le s hi) ha h
        · cases hc:tokL (s.data.toList.drop i) with
          | none=>rw [hc] at h;cases h
          | some c =>
            rw [hc] at h
            have hp:=tokL_pos hc (by rw [drop_cons s hlt];simp)
            rw [List.length_drop] at hp
            have hsz:s.data.toList.length=s.size:=by simp
            refine ih (i + c.len) (acc ++ [tokAt s i c]) ts (by omega) (fun t ht=>?_) h
            rcases List.mem_append.1 ht with ht | ht
            · exact ha t ht
            · rw [List.mem_singleton] at ht
              rw [ht]
              have hn:=tokL_n hc
              exact ⟨hn.1,hn.2,by show (s.extract i (i + c.len)).size≤s.size;simp;omega,Int.natCast_nonneg _,by show (i:Int)≤s.size;omega⟩
theorem scanS_small {s:ByteArray} {ts:List Tok} (h:scanS s=.inr ts):(∀ t ∈ ts,SmallTok s t)∧ts.length≤s.size + 1:=by
  refine ⟨scanF_small s s.size 0 [] ts (Nat.zero_le _) (fun t ht=>by cases ht) h,?_⟩
  obtain ⟨more,rfl,hS,hb⟩:=scanS_sound h
  have hl:∀ l:List Tok,(∀ t ∈ l,Sound t)→l.length≤bytesOf l:=fun l=>by
    induction l with
    | nil=>intro _;exact Nat.zero_le _
    | cons t r ih =>
      intro hl
      have h1:=(hl t (by simp)).pos
      have h2:=ih fun u hu=>hl u (by simp [hu])
      show r.length + 1≤((t :: r).map fun t=>t.text.size).sum
      rw [List.map_cons,List.sum_cons]
      show r.length + 1≤t.text.size + bytesOf r
      omega
  have:=hl more hS
  rw [List.length_append,List.length_singleton];omega
end Go.Proofs.YtjcleokfpohpdaaGreatDoor
namespace Go.Proofs.YtjcleokfpohpdaaGreatDoor
open Go.RowKit
def ParsePost (s:ByteArray) (w:World) (e:Ending) (w':World):Prop :=
  ∃ v,e=.returned (.tuple #[v,.int .i64 (parseS s).1,.int .i64 (parseS s).2.1])∧Its w' v (parseS s).2.2∧Below w.heap.size w w'
theorem parseS_err {s:ByteArray} (h:outErr s≠0):parseS s=(outErr s,outAt s,[]):=by
  unfold outErr at h
  unfold parseS outErr outAt
  by_cases hs:s.size≤8192
  · rw [if_pos hs] at h ⊢
    rw [if_pos hs,if_pos hs]
    cases hsc:scanS s with
    | inl i=>rfl
    | inr ts=>rw [hsc] at h;exact absurd rfl h
  · rw [if_neg hs,if_neg hs,if_neg hs]
theorem scan_of {s:ByteArray} (h:outErr s=0):s.size≤8192∧∃ ts,scanS s=.inr ts:=by
  unfold outErr at h
  by_cases hs:s.size≤8192
  · rw [if_pos hs] at h
    cases hsc:scanS s with
    | inl i=>rw [hsc] at h;exact absurd (show (2:Int)=0 from h) (by decide)
    | inr ts=>exact ⟨hs,ts,rfl⟩
  · rw [if_neg hs] at h;exact absurd h (by decide)
theorem parseS_of {s:ByteArray} {ts:List Tok} (h8:s.size≤8192) (h:scanS s=.inr ts):parseS s=match itemsP ts 0 with
    | .inl j=>(2,(tkD ts j).place,[])
    | .inr xs=>(0,0,xs):=by
  unfold parseS;rw [if_pos h8,h]
  all_goals (cases h2:itemsP ts 0<;>simp only [h2])
theorem tokOk_of {s:ByteArray} {ts:List Tok} (h8:s.size≤8192) (h:scanS s=.inr ts) (i:Nat):TokOk (tkD ts i):=by
  rcases Nat.lt_or_ge i ts.length with hi | hi
  · rw [tkD_at hi]
    have:=(scanS_small h).1 _ (List.getElem_mem hi)
    obtain ⟨a,b,c,d,e⟩:=this
    exact ⟨by omega,by omega,by omega,by omega,by omega⟩
  · rw [tkD_out hi]
    exact ⟨by decide,by decide,by decide,by decide,by decide⟩
def joinI (acc:List It):Nat ⊕ List It→Nat ⊕ List It
  | .inl j=>.inl j
  | .inr xs=>.inr (acc ++ xs)
theorem itemsP_at {L:List Tok} (hE:Ended L) (i:Nat):itemsP L i =
    if (tkD L i).kind=0 then .inr []
    else if (tkD L i).kind≠1∨wordK (tkD L i)=true then .inl i
    else if (goP L (shapesOf (tkD L i).text) ⟨(tkD L i).text,(tkD L i).place,[],[]⟩ (i + 1)).2.2=false then .inl (goP L (shapesOf (tkD L i).text) ⟨(tkD L i).text,(tkD L i).place,[],[]⟩ (i + 1)).2.1
    else joinI [(goP L (shapesOf (tkD L i).text) ⟨(tkD L i).text,(tkD L i).place,[],[]⟩ (i + 1)).1] (itemsP L (goP L (shapesOf (tkD L i).text) ⟨(tkD L i).text,(tkD L i).place,[],[]⟩ (i + 1)).2.1):=by
  unfold itemsP
  rw [itemsF_same (L.length + 1) (L.length + 1 + 1) L i hE (by omega) (by omega),itemsF]
  by_cases h0:(tkD L i).kind=0
  · rw [if_pos h0,if_pos h0]
  rw [if_neg h0,if_neg h0]
  by_cases h1:(tkD L i).kind≠1∨wordK (tkD L i)=true
  · rw [if_pos h1,if_pos h1]
  rw [if_neg h1,if_neg h1]
  by_cases h2:(goP L (shapesOf (tkD L i).text) ⟨(tkD L i).text,(tkD L i).place,[],[]⟩ (i + 1)).2.2=false
  · rw [if_pos h2,if_pos h2]
  rw [if_neg h2,if_neg h2]
  cases itemsF (L.length + 1) L (goP L (shapesOf (tkD L i).text) ⟨(tkD L i).text,(tkD L i).place,[],[]⟩ (i + 1)).2.1<;>rfl
theorem joinI_join (acc:List It) (x:It) (r:Nat ⊕ List It):joinI acc (joinI [x] r)=joinI (acc ++ [x]) r:=by
  cases r with
  | inl j=>rfl
  | inr xs=>show Sum.inr (acc ++ ([x] ++ xs))=Sum.inr (acc ++ [x] ++ xs);rw [List.append_assoc]
end Go.Proofs.YtjcleokfpohpdaaGreatDoor
namespace Go.Proofs.YtjcleokfpohpdaaGreatDoor
open Go.RowKit
abbrev Fn:=ByteArray × Int
structure FnOk (f:Fn):Prop where
  size:f.1.size≤9223372036854775807
  lo : -9223372036854775808≤f.2
  hi:f.2≤9223372036854775807
structure FnAt (w:World) (f:Fn) (b o:Nat):Prop where
  ok:FnOk f
  c0:w.cell? ⟨b,o,none⟩=some (.string f.1)
  c1:w.cell? ⟨b,o + 1,none⟩=some (.int .i64 f.2)
def fnVal (f:Fn):Value:=.agg #[.string f.1,.int .i64 f.2]
def Fus (w:World) (v:Value) (fs:List Fn):Prop:=∃ a c,v=.slice a fs.length c∧(fs.length≤9223372036854775807∧fs.length≤c)∧(fs=[]∨∃ b o,a=some ⟨b,o,none⟩∧b < w.heap.size∧∀ (j:Nat) x,fs[j]? = some x→FnAt w x b (o + j * 2))
theorem FnAt.lt {w:World} {x:Fn} {b o:Nat} (h:FnAt w x b o):b < w.heap.size:=by
  have h:=h.c0
  unfold World.cell? at h
  rcases Nat.lt_or_ge b w.heap.size with h' | h'
  · exact h'
  · simp [Array.getElem?_eq_none h'] at h
theorem FnAt.below {w w':World} {x:Fn} {b o:Nat} (h:FnAt w x b o) (hb:Below w.heap.size w w'):FnAt w' x b o :=
  ⟨h.ok,(hb.cell (p:=⟨b,o,none⟩) h.lt).trans h.c0,(hb.cell (p:=⟨b,o + 1,none⟩) h.lt).trans h.c1⟩
theorem Fus.below {w w':World} {v:Value} {fs:List Fn} (h:Fus w v fs) (hb:Below w.heap.size w w'):Fus w' v fs:=by
  obtain ⟨a,c,hv,hl,h⟩:=h
  refine ⟨a,c,hv,hl,?_⟩
  rcases h with h | ⟨b,o,ha,hlt,h⟩
  · exact .inl h
  · exact .inr ⟨b,o,ha,Nat.lt_of_lt_of_le hlt hb.size,fun j x hj=>(h j x hj).below hb⟩
theorem Fus.none_ (w:World) (a:Option Addr) (c:Nat):Fus w (.slice a 0 c) []:=⟨a,c,rfl,by simp,.inl rfl⟩
theorem Fus.ok {w:World} {v:Value} {fs:List Fn} (h:Fus w v fs):∀ f ∈ fs,FnOk f:=by
  intro f hf
  obtain ⟨j,hj,rfl⟩:=List.getElem_of_mem hf
  obtain ⟨a,c,_,_,rfl | ⟨b,o,_,_,hc⟩⟩:=h
  · simp at hj
  · exact (hc j _ (List.getElem?_eq_getElem hj)).ok
def rowFn (fs:List Fn):List Value:=fs.flatMap fun f=>[.string f.1,.int .i64 f.2]
theorem rowFn_length (fs:List Fn):(rowFn fs).length=fs.length * 2:=by
  unfold rowFn
  induction fs with
  | nil=>rfl
  | cons v r ih=>rw [List.flatMap_cons,List.length_append,ih,List.length_cons];simp;omega
theorem rowFn_append (a b:List Fn):rowFn (a ++ b)=rowFn a ++ rowFn b:=by unfold rowFn;rw [List.flatMap_append]
theorem rowFn_one (f:Fn):rowFn [f]=[.string f.1,.int .i64 f.2]:=by unfold rowFn;simp
theorem rowFn_get:∀ (fs:List Fn) (j:Nat) (h:j < fs.length) (i:Nat),i < 2→(rowFn fs)[j * 2 + i]? = ([.string fs[j].1,.int .i64 fs[j].2]:List Value)[i]?
  | [],_,h,_,_=>by simp at h
  | v :: r,0,_,i,hi=>by
    unfold rowFn
    rw [List.flatMap_cons,List.getElem?_append_left (by simp;omega)];simp
  | v :: r,j + 1,h,i,hi=>by
    have:=rowFn_get r j (by simpa using h) i hi
    unfold rowFn at this ⊢
    rw [List.flatMap_cons,List.getElem?_append_right (by simp;omega)]
    rw [show (j + 1) * 2 + i - ([.string v.1,.int .i64 v.2]:List Value).length=j * 2 + i from by simp;omega,this]
    simp
theorem rowFn_one' (fs:List Fn):∀ u ∈ rowFn fs,u.oneCell'=true:=by
  intro u hu
  unfold rowFn at hu
  obtain ⟨v,_,hv⟩:=List.mem_flatMap.1 hu
  simp only [List.mem_cons,List.not_mem_nil,or_false] at hv
  rcases hv with rfl | rfl<;>rfl
def OwnFn (w:World) (base:Nat) (v:Value) (fs:List Fn):Prop:=(∀ f ∈ fs,FnOk f)∧w.ownsRow base 140 2 v fs.length (rowFn fs)
theorem OwnFn.fus {w:World} {base:Nat} {v:Value} {fs:List Fn} (h:OwnFn w base v fs) (hl:fs.length≤9223372036854775807):Fus w v fs:=by
  obtain ⟨hok,hn,h⟩:=h
  rcases h with ⟨rfl,h0⟩ | ⟨g,cap,cur,rfl,_,hg,hcap,hmax,hsz,htake⟩
  · have:fs=[]:=by simpa using h0
    subst this
    exact Fus.none_ _ _ _
  · refine ⟨_,cap,rfl,⟨hl,hcap⟩,.inr ⟨g,0,rfl,(Array.getElem?_eq_some_iff.1 hg).1,fun j x hj=>?_⟩⟩
    obtain ⟨hjv,rfl⟩:=List.getElem?_eq_some_iff.1 hj
    have cell:∀ i,i < 2→w.cell? ⟨g,0 + j * 2 + i,none⟩=([.string fs[j].1,.int .i64 fs[j].2]:List Value)[i]? := by
      intro i hi
      rw [cell_of_row w g (0 + j * 2 + i) cur _ (0,0) hg,← rowFn_get fs j hjv i hi,← htake,List.getElem?_take,if_pos (by omega),Nat.zero_add]
      simp
    exact ⟨hok _ (List.getElem_mem hjv),cell 0 (by omega),cell 1 (by omega)⟩
theorem OwnFn.below {w w':World} {base:Nat} {v:Value} {fs:List Fn} (h:OwnFn w base v fs) (hb:Below w.heap.size w w'):OwnFn w' base v fs:=⟨h.1,own_below h.2 hb⟩
theorem funInfo:(Tryz.prog.info? 140).map (fun i=>(i.zero,i.size,i.bytes))=some (some (.agg #[.string ⟨#[]⟩,.int .i64 0]),2,24):=by kernel_rfl
theorem addr_add (b o j:Nat):((⟨b,o,none⟩:Addr).add j)=⟨b,o + j,none⟩:=by
  unfold Addr.add;split
  · next h=>subst h;rfl
  · rfl
theorem Fus.news {w:World} {a:Option Addr} {n c:Nat} {fs:List Fn} (h:Fus w (.slice a n c) fs):n=fs.length∧(a=none→n=0)∧(rowFn fs).length=n * 2∧(∀ W,Below w.heap.size w W→∀ ad,a=some ad→∀ j u,(rowFn fs)[j]? = some u→W.cell? (ad.add j)=some u)∧∀ f ∈ fs,FnOk f:=by
  have hok:=h.ok
  obtain ⟨a',c',hv,hl,h⟩:=h
  cases hv
  refine ⟨rfl,?_,rowFn_length fs,?_,hok⟩
  · intro ha
    rcases h with rfl | ⟨b,o,hb,_⟩
    · rfl
    · rw [ha] at hb;cases hb
  · intro W hW ad ha j u hj
    rcases h with rfl | ⟨b,o,hb,hlt,h⟩
    · simp [rowFn] at hj
    · rw [ha] at hb
      cases hb
      have hjl:=(List.getElem?_eq_some_iff.1 hj).1
      rw [rowFn_length] at hjl
      have hq:j / 2 < fs.length:=by omega
      have hA:=(h (j / 2) _ (List.getElem?_eq_getElem hq)).below hW
      have hr:=rowFn_get fs (j / 2) hq (j % 2) (by omega)
      rw [show j / 2 * 2 + j % 2=j from by omega,hj] at hr
      rw [addr_add]
      rcases Nat.mod_two_eq_zero_or_one j with e | e
      · rw [e] at hr
        rw [show o + j=o + j / 2 * 2 from by omega,hA.c0,hr];rfl
      · rw [e] at hr
        rw [show o + j=o + j / 2 * 2 + 1 from by omega,hA.c1,hr];rfl
theorem new_row2 (w:World) (b:Nat) (hb:b=w.heap.size) (x0 x1:Value) (t:TypeId):∀ j u,[x0,x1][j]? = some u→(w.alloc (.cells #[x0,x1] t)).cell? ((⟨b,0,none⟩:Addr).add j)=some u:=by
  subst hb
  intro j u hj
  have hjl:=(List.getElem?_eq_some_iff.1 hj).1
  simp only [List.length_cons,List.length_nil] at hjl
  have e:=World.cell?_alloc_mark w #[x0,x1] t (0,0) (0 + j)
  rw [addr_add,e]
  rcases (show j=0∨j=1 by omega) with rfl | rfl<;>simpa using hj
theorem fn_one (f:Fn):∀ u ∈ ([.string f.1,.int .i64 f.2]:List Value),u.oneCell'=true:=by rw [← rowFn_one];exact rowFn_one' [f]
def arF (fs:List Fn) (s:ByteArray):Option Int:=(fs.find? fun x=>x.1.toList==s.toList).map Prod.snd
theorem arF_take {fs:List Fn} {s:ByteArray} {k:Nat} {x:Fn} (h:arF (fs.take k) s=none) (hk:fs[k]? = some x):arF (fs.take (k + 1)) s=if (x.1.toList==s.toList)=true then some x.2 else none:=by
  obtain ⟨hl,rfl⟩:=List.getElem?_eq_some_iff.1 hk
  unfold arF at h ⊢
  rw [Option.map_eq_none_iff] at h
  rw [List.take_succ_eq_append_getElem hl,List.find?_append,h,List.find?_cons]
  cases fs[k].1.toList==s.toList<;>rfl
theorem arF_some {fs:List Fn} {s:ByteArray} {k:Nat} {n:Int} (h:arF (fs.take k) s=some n):arF fs s=some n:=by
  unfold arF at h ⊢
  obtain ⟨x,hx,rfl⟩:=Option.map_eq_some_iff.1 h
  have e:fs.find? (fun x=>x.1.toList==s.toList)=some x:=by
    rw [← List.take_append_drop k fs,List.find?_append,hx];rfl
  rw [e];rfl
def arEnd (o:Option Int):Ending:=.returned (.tuple #[.int .i64 (o.getD 0),.bool o.isSome])
noncomputable def hasFn (fs:List Fn) (f:Fn):Bool:=@decide (f ∈ fs) (Classical.propDecidable _)
theorem toList_iff {s z:ByteArray}:(s.toList==z.toList)=true ↔ s=z:=Lib.bytes_beq_iff ..
end Go.Proofs.YtjcleokfpohpdaaGreatDoor
namespace Go.Proofs.YtjcleokfpohpdaaGreatDoor
open Go.RowKit
def nmPair:ByteArray:=⟨#[112,97,105,114]⟩
def txPair:ByteArray:=⟨#[102,117,110,32,112,97,105,114,47,50,46,32,102,117,110,32,102,115,116,47,49,46,32,102,117,110,32,115,110,100,47,49,46,32,114,117,108,101,32,102,115,116,40,112,97,105,114,40,88,44,32,89,41,41,32,61,32,88,46,32,114,117,108,101,32,115,110,100,40,112,97,105,114,40,88,44,32,89,41,41,32,61,32,89,46]⟩
def nmSenc:ByteArray:=⟨#[115,101,110,99]⟩
def txSenc:ByteArray:=⟨#[102,117,110,32,115,101,110,99,47,50,46,32,102,117,110,32,115,100,101,99,47,50,46,32,114,117,108,101,32,115,100,101,99,40,115,101,110,99,40,88,44,32,75,41,44,32,75,41,32,61,32,88,46]⟩
def nmRenc:ByteArray:=⟨#[114,101,110,99]⟩
def txRenc:ByteArray:=⟨#[102,117,110,32,114,101,110,99,47,51,46,32,102,117,110,32,114,100,101,99,47,50,46,32,114,117,108,101,32,114,100,101,99,40,114,101,110,99,40,88,44,32,82,44,32,75,41,44,32,75,41,32,61,32,88,46]⟩
def nmAenc:ByteArray:=⟨#[97,101,110,99]⟩
def txAenc:ByteArray:=⟨#[102,117,110,32,97,101,110,99,47,50,46,32,102,117,110,32,97,100,101,99,47,50,46,32,102,117,110,32,112,107,47,49,46,32,114,117,108,101,32,97,100,101,99,40,97,101,110,99,40,88,44,32,112,107,40,75,41,41,44,32,75,41,32,61,32,88,46]⟩
def nmRaenc:ByteArray:=⟨#[114,97,101,110,99]⟩
def txRaenc:ByteArray:=⟨#[102,117,110,32,114,97,101,110,99,47,51,46,32,102,117,110,32,114,97,100,101,99,47,50,46,32,102,117,110,32,112,107,47,49,46,32,114,117,108,101,32,114,97,100,101,99,40,114,97,101,110,99,40,88,44,32,82,44,32,112,107,40,75,41,41,44,32,75,41,32,61,32,88,46]⟩
def nmSign:ByteArray:=⟨#[115,105,103,110]⟩
def txSign:ByteArray:=⟨#[102,117,110,32,115,105,103,110,47,50,46,32,102,117,110,32,99,104,101,99,107,47,50,46,32,102,117,110,32,111,112,101,110,47,49,46,32,102,117,110,32,118,107,47,49,46,32,102,117,110,32,111,107,47,48,46,32,114,117,108,101,32,99,104,101,99,107,40,115,105,103,110,40,88,44,32,75,41,44,32,118,107,40,75,41,41,32,61,32,111,107,46,32,114,117,108,101,32,111,112,101,110,40,115,105,103,110,40,88,44,32,75,41,41,32,61,32,88,46]⟩
def nmHash:ByteArray:=⟨#[104,97,115,104]⟩
def txHash:ByteArray:=⟨#[102,117,110,32,104,97,115,104,47,49,46,32,102,117,110,32,109,97,99,47,50,46]⟩
def nmBlind:ByteArray:=⟨#[98,108,105,110,100]⟩
def txBlind:ByteArray:=⟨#[102,117,110,32,98,108,105,110,100,47,50,46,32,102,117,110,32,117,110,98,108,105,110,100,47,50,46,32,102,117,110,32,98,115,105,103,110,47,50,46,32,102,117,110,32,98,111,112,101,110,47,49,46,32,114,117,108,101,32,117,110,98,108,105,110,100,40,98,108,105,110,100,40,88,44,32,89,41,44,32,89,41,32,61,32,88,46,32,114,117,108,101,32,98,111,112,101,110,40,98,115,105,103,110,40,88,44,32,75,41,41,32,61,32,88,46]⟩
def nmWrap:ByteArray:=⟨#[119,114,97,112]⟩
def txWrap:ByteArray:=⟨#[102,117,110,32,119,114,97,112,47,50,46,32,102,117,110,32,117,110,119,114,97,112,47,50,46,32,102,117,110,32,112,114,111,98,101,47,50,46,32,102,117,110,32,121,101,115,47,48,46,32,114,117,108,101,32,117,110,119,114,97,112,40,119,114,97,112,40,88,44,32,75,41,44,32,75,41,32,61,32,88,46,32,114,117,108,101,32,112,114,111,98,101,40,119,114,97,112,40,88,44,32,75,41,44,32,75,41,32,61,32,121,101,115,46]⟩
def libN:List ByteArray:=[nmPair,nmSenc,nmRenc,nmAenc,nmRaenc,nmSign,nmHash,nmBlind,nmWrap]
def libT (s:ByteArray):ByteArray :=
  if (s.toList==nmPair.toList)=true then txPair
  else if (s.toList==nmSenc.toList)=true then txSenc
  else if (s.toList==nmRenc.toList)=true then txRenc
  else if (s.toList==nmAenc.toList)=true then txAenc
  else if (s.toList==nmRaenc.toList)=true then txRaenc
  else if (s.toList==nmSign.toList)=true then txSign
  else if (s.toList==nmHash.toList)=true then txHash
  else if (s.toList==nmBlind.toList)=true then txBlind
  else if (s.toList==nmWrap.toList)=true then txWrap
  else ⟨#[]⟩
def itemF (xs:List It):List Fn:=xs.filterMap fun x=>if (x.key.toList==(⟨#[102,117,110]⟩:ByteArray).toList)=true then some ((x.words.headD default).text,(x.words.tail.headD default).n) else none
def itemR (xs:List It):List Rl:=xs.filterMap fun x=>if (x.key.toList==(⟨#[102,117,110]⟩:ByteArray).toList)=true then none else some (plainR (x.trees.headD default),plainR (x.trees.tail.headD default))
def fsPair:List Fn:=[(⟨#[112,97,105,114]⟩,2),(⟨#[102,115,116]⟩,1),(⟨#[115,110,100]⟩,1)]
def rsPair:List Rl:=[(.mk 5 ⟨#[102,115,116]⟩ 0 [.mk 5 ⟨#[112,97,105,114]⟩ 0 [.mk 1 ⟨#[88]⟩ 0 [],.mk 1 ⟨#[89]⟩ 0 []]],.mk 1 ⟨#[88]⟩ 0 []),(.mk 5 ⟨#[115,110,100]⟩ 0 [.mk 5 ⟨#[112,97,105,114]⟩ 0 [.mk 1 ⟨#[88]⟩ 0 [],.mk 1 ⟨#[89]⟩ 0 []]],.mk 1 ⟨#[89]⟩ 0 [])]
theorem fsPair_is:(parseS txPair).1=0∧itemF (parseS txPair).2.2=fsPair∧itemR (parseS txPair).2.2=rsPair:=⟨by kernel_rfl,by kernel_rfl,by kernel_rfl⟩
def fsSenc:List Fn:=[(⟨#[115,101,110,99]⟩,2),(⟨#[115,100,101,99]⟩,2)]
def rsSenc:List Rl:=[(.mk 5 ⟨#[115,100,101,99]⟩ 0 [.mk 5 ⟨#[115,101,110,99]⟩ 0 [.mk 1 ⟨#[88]⟩ 0 [],.mk 1 ⟨#[75]⟩ 0 []],.mk 1 ⟨#[75]⟩ 0 []],.mk 1 ⟨#[88]⟩ 0 [])]
theorem fsSenc_is:(parseS txSenc).1=0∧itemF (parseS txSenc).2.2=fsSenc∧itemR (parseS txSenc).2.2=rsSenc:=⟨by kernel_rfl,by kernel_rfl,by kernel_rfl⟩
def fsRenc:List Fn:=[(⟨#[114,101,110,99]⟩,3),(⟨#[114,100,101,99]⟩,2)]
def rsRenc:List Rl:=[(.mk 5 ⟨#[114,100,101,99]⟩ 0 [.mk 5 ⟨#[114,101,110,99]⟩ 0 [.mk 1 ⟨#[88]⟩ 0 [],.mk 1 ⟨#[82]⟩ 0 [],.mk 1 ⟨#[75]⟩ 0 []],.mk 1 ⟨#[75]⟩ 0 []],.mk 1 ⟨#[88]⟩ 0 [])]
theorem fsRenc_is:(parseS txRenc).1=0∧itemF (parseS txRenc).2.2=fsRenc∧itemR (parseS txRenc).2.2=rsRenc:=⟨by kernel_rfl,by kernel_rfl,by kernel_rfl⟩
def fsAenc:List Fn:=[(⟨#[97,101,110,99]⟩,2),(⟨#[97,100,101,99]⟩,2),(⟨#[112,107]⟩,1)]
def rsAenc:List Rl:=[(.mk 5 ⟨#[97,100,101,99]⟩ 0 [.mk 5 ⟨#[97,101,110,99]⟩ 0 [.mk 1 ⟨#[88]⟩ 0 [],.mk 5 ⟨#[112,107]⟩ 0 [.mk 1 ⟨#[75]⟩ 0 []]],.mk 1 ⟨#[75]⟩ 0 []],.mk 1 ⟨#[88]⟩ 0 [])]
theorem fsAenc_is:(parseS txAenc).1=0∧itemF (parseS txAenc).2.2=fsAenc∧itemR (parseS txAenc).2.2=rsAenc:=⟨by kernel_rfl,by kernel_rfl,by kernel_rfl⟩
def fsRaenc:List Fn:=[(⟨#[114,97,101,110,99]⟩,3),(⟨#[114,97,100,101,99]⟩,2),(⟨#[112,107]⟩,1)]
def rsRaenc:List Rl:=[(.mk 5 ⟨#[114,97,100,101,99]⟩ 0 [.mk 5 ⟨#[114,97,101,110,99]⟩ 0 [.mk 1 ⟨#[88]⟩ 0 [],.mk 1 ⟨#[82]⟩ 0 [],.mk 5 ⟨#[112,107]⟩ 0 [.mk 1 ⟨#[75]⟩ 0 []]],.mk 1 ⟨#[75]⟩ 0 []],.mk 1 ⟨#[88]⟩ 0 [])]
theorem fsRaenc_is:(parseS txRaenc).1=0∧itemF (parseS txRaenc).2.2=fsRaenc∧itemR (parseS txRaenc).2.2=rsRaenc:=⟨by kernel_rfl,by kernel_rfl,by kernel_rfl⟩
def fsSign:List Fn:=[(⟨#[115,105,103,110]⟩,2),(⟨#[99,104,101,99,107]⟩,2),(⟨#[111,112,101,110]⟩,1),(⟨#[118,107]⟩,1),(⟨#[111,107]⟩,0)]
def rsSign:List Rl:=[(.mk 5 ⟨#[99,104,101,99,107]⟩ 0 [.mk 5 ⟨#[115,105,103,110]⟩ 0 [.mk 1 ⟨#[88]⟩ 0 [],.mk 1 ⟨#[75]⟩ 0 []],.mk 5 ⟨#[118,107]⟩ 0 [.mk 1 ⟨#[75]⟩ 0 []]],.mk 5 ⟨#[111,107]⟩ 0 []),(.mk 5 ⟨#[111,112,101,110]⟩ 0 [.mk 5 ⟨#[115,105,103,110]⟩ 0 [.mk 1 ⟨#[88]⟩ 0 [],.mk 1 ⟨#[75]⟩ 0 []]],.mk 1 ⟨#[88]⟩ 0 [])]
theorem fsSign_is:(parseS txSign).1=0∧itemF (parseS txSign).2.2=fsSign∧itemR (parseS txSign).2.2=rsSign:=⟨by kernel_rfl,by kernel_rfl,by kernel_rfl⟩
def fsHash:List Fn:=[(⟨#[104,97,115,104]⟩,1),(⟨#[109,97,99]⟩,2)]
def rsHash:List Rl:=[]
theorem fsHash_is:(parseS txHash).1=0∧itemF (parseS txHash).2.2=fsHash∧itemR (parseS txHash).2.2=rsHash:=⟨by kernel_rfl,by kernel_rfl,by kernel_rfl⟩
def fsBlind:List Fn:=[(⟨#[98,108,105,110,100]⟩,2),(⟨#[117,110,98,108,105,110,100]⟩,2),(⟨#[98,115,105,103,110]⟩,2),(⟨#[98,111,112,101,110]⟩,1)]
def rsBlind:List Rl:=[(.mk 5 ⟨#[117,110,98,108,105,110,100]⟩ 0 [.mk 5 ⟨#[98,108,105,110,100]⟩ 0 [.mk 1 ⟨#[88]⟩ 0 [],.mk 1 ⟨#[89]⟩ 0 []],.mk 1 ⟨#[89]⟩ 0 []],.mk 1 ⟨#[88]⟩ 0 []),(.mk 5 ⟨#[98,111,112,101,110]⟩ 0 [.mk 5 ⟨#[98,115,105,103,110]⟩ 0 [.mk 1 ⟨#[88]⟩ 0 [],.mk 1 ⟨#[75]⟩ 0 []]],.mk 1 ⟨#[88]⟩ 0 [])]
theorem fsBlind_is:(parseS txBlind).1=0∧itemF (parseS txBlind).2.2=fsBlind∧itemR (parseS txBlind).2.2=rsBlind:=⟨by kernel_rfl,by kernel_rfl,by kernel_rfl⟩
def fsWrap:List Fn:=[(⟨#[119,114,97,112]⟩,2),(⟨#[117,110,119,114,97,112]⟩,2),(⟨#[112,114,111,98,101]⟩,2),(⟨#[121,101,115]⟩,0)]
def rsWrap:List Rl:=[(.mk 5 ⟨#[117,110,119,114,97,112]⟩ 0 [.mk 5 ⟨#[119,114,97,112]⟩ 0 [.mk 1 ⟨#[88]⟩ 0 [],.mk 1 ⟨#[75]⟩ 0 []],.mk 1 ⟨#[75]⟩ 0 []],.mk 1 ⟨#[88]⟩ 0 []),(.mk 5 ⟨#[112,114,111,98,101]⟩ 0 [.mk 5 ⟨#[119,114,97,112]⟩ 0 [.mk 1 ⟨#[88]⟩ 0 [],.mk 1 ⟨#[75]⟩ 0 []],.mk 1 ⟨#[75]⟩ 0 []],.mk 5 ⟨#[121,101,115]⟩ 0 [])]
theorem fsWrap_is:(parseS txWrap).1=0∧itemF (parseS txWrap).2.2=fsWrap∧itemR (parseS txWrap).2.2=rsWrap:=⟨by kernel_rfl,by kernel_rfl,by kernel_rfl⟩
end Go.Proofs.YtjcleokfpohpdaaGreatDoor
namespace Go.Proofs.YtjcleokfpohpdaaGreatDoor
open Go.RowKit
def Nums (w:World) (v:Value) (ns:List Int):Prop :=
  ∃ a c,v=.slice a ns.length c∧ns.length≤c∧c≤9223372036854775807∧(∀ n ∈ ns,-9223372036854775808≤n∧n≤9223372036854775807) ∧
    (ns=[]∨∃ b off,a=some ⟨b,off,none⟩∧b < w.heap.size∧∀ (j:Nat) n,ns[j]? = some n→w.cell? ⟨b,off + j,none⟩=some (.int .i64 n))
theorem Nums.below {w w':World} {v:Value} {ns:List Int} (h:Nums w v ns) (hb:Below w.heap.size w w'):Nums w' v ns:=by
  obtain ⟨a,c,hv,hl,hc,hn,h⟩:=h
  refine ⟨a,c,hv,hl,hc,hn,?_⟩
  rcases h with h | ⟨b,off,ha,hlt,hc⟩
  · exact .inl h
  · exact .inr ⟨b,off,ha,Nat.lt_of_lt_of_le hlt hb.size,fun j n hj=>by rw [hb.cell (p:=⟨b,off + j,none⟩) hlt];exact hc j n hj⟩
end Go.Proofs.YtjcleokfpohpdaaGreatDoor
