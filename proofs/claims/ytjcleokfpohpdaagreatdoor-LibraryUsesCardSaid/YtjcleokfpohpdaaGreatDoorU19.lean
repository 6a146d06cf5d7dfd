/-
  Rows that are sorted so that equal ones stay in their order: places that turn about, and what a merge by turning leaves. No function of the program.
  What one element put into its place leaves merged; and the tiles of a sort by merging. No function of the program.
  What the library's functions over rows of binds ask of a program: its types, by number. A load of a bind is then one step, of k cells.
  Single stores of a bind into a row that is being turned, and its end cleared. No function of the program.
-/
import Derived.Test.YtjcleokfpohpdaaGreatDoorU01
import Derived.Sort.LotA
import Derived.Test.YtjcleokfpohpdaaGreatDoorU08
import Derived.Shelf.SlSortCmp.KitK
namespace Go.Proofs.YtjcleokfpohpdaaGreatDoor
open Go.RowKit Go.Sort
variable {α:Type} {lt:α→α→Bool}
def Cls (lt:α→α→Bool) (c:α→Bool):Prop:=∀ x y,c x=true→c y=true→lt x y=false
def Stab (lt:α→α→Bool) (d d':Array α):Prop:=d'.size=d.size∧∀ c,Cls lt c→d'.toList.filter c=d.toList.filter c
theorem Stab.refl (d:Array α):Stab lt d d:=⟨rfl,fun _ _=>rfl⟩
theorem Stab.trans {d d1 d2:Array α} (h:Stab lt d d1) (k:Stab lt d1 d2):Stab lt d d2:=⟨k.1.trans h.1,fun c hc=>(k.2 c hc).trans (h.2 c hc)⟩
theorem seg_list (l:List α) {a m b:Nat} (h1:a≤m) (h2:m≤b):l=l.take a ++ ((l.drop a).take (m - a) ++ ((l.drop m).take (b - m) ++ l.drop b)):=by
  have e1:l.drop m=(l.drop a).drop (m - a):=by rw [List.drop_drop];congr 1;omega
  have e2:l.drop b=(l.drop m).drop (b - m):=by rw [List.drop_drop];congr 1;omega
  rw [e2,List.take_append_drop,e1,List.take_append_drop,List.take_append_drop]
variable [Inhabited α]
def Idx (d d':Array α) (f:Nat→Nat):Prop:=d'.size=d.size∧∀ x,x < d.size→d'[x]! = d[f x]!
def rotI (a m b x:Nat):Nat:=if x < a then x else if x < a + (b - m) then x + (m - a) else if x < b then x - (b - m) else x
def swrI (a b n x:Nat):Nat:=if a≤x∧x < a + n then x + (b - a) else if b≤x∧x < b + n then x - (b - a) else x
theorem idx_refl (d:Array α) {f:Nat→Nat} (h:∀ x,x < d.size→f x=x):Idx d d f:=⟨rfl,fun x hx=>by rw [h x hx]⟩
theorem Idx.congr {d d':Array α} {f g:Nat→Nat} (h:Idx d d' f) (e:∀ x,x < d.size→f x=g x):Idx d d' g:=⟨h.1,fun x hx=>by rw [h.2 x hx,e x hx]⟩
theorem Idx.comp {d d1 d2:Array α} {f g:Nat→Nat} (h:Idx d d1 f) (k:Idx d1 d2 g) (hg:∀ x,x < d.size→g x < d.size):Idx d d2 (fun x=>f (g x)) :=
  ⟨k.1.trans h.1,fun x hx=>by rw [k.2 x (by rw [h.1];exact hx),h.2 _ (hg x hx)]⟩
theorem rotI_lt {a m b x n:Nat} (_:a≤m) (h3:b≤n) (hx:x < n):rotI a m b x < n:=by unfold rotI;split;exact hx;split;omega;split<;>omega
theorem idx_swp (d:Array α) {i j:Nat} (hi:i < d.size) (hj:j < d.size):Idx d (swp d i j) (fun x=>if x=j then i else if x=i then j else x) :=
  ⟨size_swp d i j,fun x _=>by
    show _=d[if x=j then i else if x=i then j else x]!
    rw [swp_get d hi hj];split;rfl;split<;>rfl⟩
theorem swr_step {d dk:Array α} {a b i n:Nat} (h:Idx d dk (swrI a b i)) (hi:i < n) (hab:a + n≤b) (hb:b + n≤d.size):Idx d (swp dk (a + i) (b + i)) (swrI a b (i + 1)):=by
  have hs:=h.1
  refine (h.comp (idx_swp dk (i:=a + i) (j:=b + i) (by omega) (by omega)) ?_).congr ?_
  · intro x hx;split;omega;split;omega;exact hx
  · intro x hx;unfold swrI
    split
    · subst_vars;rw [if_neg (by omega),if_neg (by omega),if_neg (by omega),if_pos (by omega)];omega
    · split
      · subst_vars;rw [if_neg (by omega),if_neg (by omega),if_pos (by omega)];omega
      · next h1 h2 =>
        by_cases c1:a≤x∧x < a + i
        · rw [if_pos c1,if_pos (by omega)]
        · by_cases c2:b≤x∧x < b + i
          · rw [if_neg c1,if_pos c2,if_neg (by omega),if_pos (by omega)]
          · rw [if_neg c1,if_neg c2,if_neg (by omega),if_neg (by omega)]
theorem rot_more {m i j x:Nat} (h:j < i) (hi:i≤m) (hj:0 < j):swrI (m - i) m j (rotI (m - (i - j)) m (m + j) x)=rotI (m - i) m (m + j) x:=by
  unfold swrI rotI;repeat' split
  all_goals omega
theorem rot_less {m i j x:Nat} (h:i < j) (hi:i≤m) (h0:0 < i):swrI (m - i) (m + j - i) i (rotI (m - i) m (m + (j - i)) x)=rotI (m - i) m (m + j) x:=by
  unfold swrI rotI;repeat' split
  all_goals omega
theorem rot_even {m i x:Nat} (hi:i≤m):swrI (m - i) m i x=rotI (m - i) m (m + i) x:=by
  unfold swrI rotI;repeat' split
  all_goals omega
theorem rot_right {d dk:Array α} {a k:Nat} (h:Idx d dk (rotI a (a + 1) (k + 1))) (ha:a≤k) (hk:k + 1 < d.size):Idx d (swp dk k (k + 1)) (rotI a (a + 1) (k + 1 + 1)):=by
  have hs:=h.1
  refine (h.comp (idx_swp dk (i:=k) (j:=k + 1) (by omega) (by omega)) ?_).congr ?_
  · intro x hx;split;omega;split;omega;exact hx
  · intro x hx;unfold rotI;repeat' split
    all_goals omega
theorem rot_left {d dk:Array α} {m k:Nat} (h:Idx d dk (rotI (k + 1) m (m + 1))) (hk:k + 1≤m) (hm:m < d.size):Idx d (swp dk (k + 1) k) (rotI k m (m + 1)):=by
  have hs:=h.1
  refine (h.comp (idx_swp dk (i:=k + 1) (j:=k) (by omega) (by omega)) ?_).congr ?_
  · intro x hx;split;omega;split;omega;exact hx
  · intro x hx;unfold rotI;repeat' split
    all_goals omega
theorem get_list (d:Array α) (x:Nat) (h:x < d.size):d.toList[x]? = some d[x]! := by
  rw [getElem!_pos d x h,List.getElem?_eq_getElem (by simpa using h)];simp
theorem rot_list {d d':Array α} {a m b:Nat} (h:Idx d d' (rotI a m b)) (h1:a≤m) (h2:m≤b) (h3:b≤d.size) :
    d'.toList=d.toList.take a ++ ((d.toList.drop m).take (b - m) ++ ((d.toList.drop a).take (m - a) ++ d.toList.drop b)):=by
  apply List.ext_getElem?
  intro i
  have la:(d.toList.take a).length=a:=by rw [List.length_take,Array.length_toList];omega
  have lb:((d.toList.drop m).take (b - m)).length=b - m:=by rw [List.length_take,List.length_drop,Array.length_toList];omega
  have lc:((d.toList.drop a).take (m - a)).length=m - a:=by rw [List.length_take,List.length_drop,Array.length_toList];omega
  by_cases hi:i < d.size
  · rw [get_list d' i (by rw [h.1];exact hi),h.2 i hi]
    unfold rotI
    by_cases c1:i < a
    · rw [if_pos c1,List.getElem?_append_left (by omega),List.getElem?_take_of_lt c1,get_list d i hi]
    · rw [if_neg c1,List.getElem?_append_right (by omega),la]
      by_cases c2:i < a + (b - m)
      · rw [if_pos c2,List.getElem?_append_left (by omega),List.getElem?_take_of_lt (by omega),List.getElem?_drop,get_list d _ (by omega)]
        congr 2;omega
      · rw [if_neg c2,List.getElem?_append_right (by omega),lb]
        by_cases c3:i < b
        · rw [if_pos c3,List.getElem?_append_left (by omega),List.getElem?_take_of_lt (by omega),List.getElem?_drop,get_list d _ (by omega)]
          congr 2;omega
        · rw [if_neg c3,List.getElem?_append_right (by omega),lc,List.getElem?_drop,get_list d _ (by omega)]
          congr 2;omega
  · rw [List.getElem?_eq_none (by rw [Array.length_toList,h.1];omega),List.getElem?_eq_none]
    rw [List.length_append,List.length_append,List.length_append,la,lb,lc,List.length_drop,Array.length_toList];omega
theorem mem_seg {d:Array α} {a n:Nat} {u:α} (h:u ∈ (d.toList.drop a).take n):∃ j,a≤j∧j < a + n∧j < d.size∧d[j]! = u:=by
  obtain ⟨k,hk,rfl⟩:=List.getElem_of_mem h
  have hk':=hk
  rw [List.length_take,List.length_drop,Array.length_toList] at hk'
  refine ⟨a + k,by omega,by omega,by omega,?_⟩
  rw [getElem!_pos d (a + k) (by omega)]
  simp
theorem stab_rot {d d':Array α} {a m b:Nat} (h:Idx d d' (rotI a m b)) (h1:a≤m) (h2:m≤b) (h3:b≤d.size) (hl:∀ u v,a≤u→u < m→m≤v→v < b→lt d[v]! d[u]! = true):Stab lt d d':=by
  refine ⟨h.1,fun c hc=>?_⟩
  rw [rot_list h h1 h2 h3]
  conv=>rhs;rw [seg_list d.toList h1 h2]
  simp only [List.filter_append]
  congr 1
  rw [← List.append_assoc,← List.append_assoc]
  congr 1
  by_cases hu:∃ u ∈ (d.toList.drop a).take (m - a),c u=true
  · obtain ⟨u,hu,hcu⟩:=hu
    obtain ⟨j,j1,j2,_,rfl⟩:=mem_seg hu
    have:((d.toList.drop m).take (b - m)).filter c=[]:=by
      rw [List.filter_eq_nil_iff]
      intro v hv hcv
      obtain ⟨k,k1,k2,_,rfl⟩:=mem_seg hv
      have:=hl j k j1 (by omega) k1 (by omega)
      rw [hc _ _ hcv hcu] at this
      cases this
    rw [this,List.nil_append,List.append_nil]
  · have:((d.toList.drop a).take (m - a)).filter c=[]:=by
      rw [List.filter_eq_nil_iff]
      intro u hu1 hcu
      exact hu ⟨u,hu1,hcu⟩
    rw [this,List.nil_append,List.append_nil]
theorem stab_one {d:Array α} {j:Nat} (hj:j + 1 < d.size) (h:lt d[j + 1]! d[j]! = true):Stab lt d (swp d (j + 1) j):=by
  have hI:Idx d (swp d (j + 1) j) (rotI j (j + 1) (j + 1 + 1)):=by
    refine (idx_swp d (i:=j + 1) (j:=j) (by omega) (by omega)).congr ?_
    intro x hx;unfold rotI;repeat' split
    all_goals omega
  refine stab_rot hI (by omega) (by omega) (by omega) (fun u v h1 h2 h3 h4=>?_)
  obtain rfl:u=j:=by omega
  obtain rfl:v=u + 1:=by omega
  exact h
theorem stab_inner (a:Nat):∀ (j:Nat) (d:Array α),j < d.size→Stab lt d (insInner lt a j d)
  | 0,d,_=>by rw [insInner];exact Stab.refl d
  | j + 1,d,hj=>by
    rw [insInner]
    split
    · next h =>
      rw [Bool.and_eq_true] at h
      exact (stab_one hj h.2).trans (stab_inner a j _ (by rw [size_swp];omega))
    · exact Stab.refl d
theorem stab_outer (a b n:Nat):∀ (i:Nat) (d:Array α),b - i≤n→b≤d.size→Stab lt d (insOuter lt a b i d):=by
  induction n with
  | zero=>intro i d h hb;rw [insOuter,if_neg (by omega)];exact Stab.refl d
  | succ n ih =>
    intro i d h hb
    by_cases hi:i < b
    · rw [insOuter,if_pos hi]
      have h1:Stab lt d (insInner lt a i d):=stab_inner a i d (by omega)
      exact h1.trans (ih _ _ (by omega) (by rw [h1.1];exact hb))
    · rw [insOuter,if_neg hi];exact Stab.refl d
theorem stab_insertion (d:Array α) (a b:Nat) (hb:b≤d.size):Stab lt d (insertionSort lt d a b):=by unfold insertionSort;exact stab_outer a b _ _ _ (Nat.le_refl _) hb
structure Seg (lt:α→α→Bool) (a b:Nat) (d d':Array α):Prop where
  stab:Stab lt d d'
  out:∀ x,(x < a∨b≤x)→d'[x]! = d[x]!
  within:∀ x,a≤x→x < b→∃ y,a≤y∧y < b∧d'[x]! = d[y]!
theorem Seg.refl (a b:Nat) (d:Array α):Seg lt a b d d:=⟨Stab.refl d,fun _ _=>rfl,fun x h1 h2=>⟨x,h1,h2,rfl⟩⟩
theorem Seg.trans {a b:Nat} {d d1 d2:Array α} (h:Seg lt a b d d1) (k:Seg lt a b d1 d2):Seg lt a b d d2 :=
  ⟨h.stab.trans k.stab,fun x hx=>(k.out x hx).trans (h.out x hx),fun x h1 h2=>by
    obtain ⟨y,y1,y2,e⟩:=k.within x h1 h2
    obtain ⟨z,z1,z2,e2⟩:=h.within y y1 y2
    exact ⟨z,z1,z2,e.trans e2⟩⟩
theorem Seg.mono {a b a' b':Nat} {d d1:Array α} (h:Seg lt a b d d1) (ha:a'≤a) (hb:b≤b'):Seg lt a' b' d d1 :=
  ⟨h.stab,fun x hx=>h.out x (by omega),fun x h1 h2=>by
    by_cases hx:a≤x∧x < b
    · obtain ⟨y,y1,y2,e⟩:=h.within x hx.1 hx.2
      exact ⟨y,by omega,by omega,e⟩
    · exact ⟨x,h1,h2,h.out x (by omega)⟩⟩
theorem seg_rot {d d':Array α} {a m b:Nat} (h:Idx d d' (rotI a m b)) (h1:a≤m) (h2:m≤b) (h3:b≤d.size) (hl:∀ u v,a≤u→u < m→m≤v→v < b→lt d[v]! d[u]! = true):Seg lt a b d d':=by
  refine ⟨stab_rot h h1 h2 h3 hl,fun x hx=>?_,fun x x1 x2=>⟨rotI a m b x,?_,?_,h.2 x (by omega)⟩⟩
  · by_cases hs:x < d.size
    · rw [h.2 x hs];congr 1;unfold rotI;repeat' split
      all_goals omega
    · rw [getElem!_neg d' x (by rw [h.1];exact hs),getElem!_neg d x hs]
  · unfold rotI;repeat' split
    all_goals omega
  · unfold rotI;repeat' split
    all_goals omega
theorem seg_insertion (hS:SWO lt) (d:Array α) {a b:Nat} (hab:a≤b) (hb:b≤d.size):Seg lt a b d (insertionSort lt d a b)∧SortedIn lt a b (insertionSort lt d a b):=by
  obtain ⟨hp,hs⟩:=insertionSort_holds (lt:=lt) hS d a b hab hb
  refine ⟨⟨stab_insertion d a b hb,hp.2.1,fun x h1 h2=>?_⟩,hs⟩
  have:=permIn_all (α:=α) d (insertionSort lt d a b) a b (fun (z:α)=>∃ y:Nat,a≤y∧y < b∧z=d[y]!) hb hp (fun i h1 h2=>⟨i,h1,h2,rfl⟩) x h1 h2
  exact this
theorem sorted_le {a b:Nat} {d:Array α} (hS:SWO lt) (h:SortedIn lt a b d) {i j:Nat} (h1:a≤i) (h2:i≤j) (h3:j < b):lt d[j]! d[i]! = false:=by
  rcases Nat.lt_or_ge i j with h4 | h4
  · exact h i j h1 h4 h3
  · obtain rfl:i=j:=by omega
    exact hS.irrefl _
theorem sorted_part {a b a' b':Nat} {d:Array α} (h:SortedIn lt a b d) (ha:a≤a') (hb:b'≤b):SortedIn lt a' b' d:=fun i j h1 h2 h3=>h i j (by omega) h2 (by omega)
theorem sorted_two {a m b:Nat} {d:Array α} (h1:SortedIn lt a m d) (h2:SortedIn lt m b d) (h:∀ x y,a≤x→x < m→m≤y→y < b→lt d[y]! d[x]! = false):SortedIn lt a b d:=fun i j hi hij hj=>by
  by_cases c1:j < m
  · exact h1 i j hi hij c1
  · by_cases c2:m≤i
    · exact h2 i j c2 hij hj
    · exact h i j hi (by omega) (by omega) hj
theorem Seg.sorted {a b a' b':Nat} {d d1:Array α} (h:Seg lt a b d d1) (hs:SortedIn lt a' b' d) (ho:b'≤a∨b≤a'):SortedIn lt a' b' d1:=fun i j hi hij hj=>by
  rw [h.out i (by omega),h.out j (by omega)];exact hs i j hi hij hj
theorem sorted_idx {a b:Nat} {d d1:Array α} {f:Nat→Nat} {a' b':Nat} (h:Idx d d1 f) (hb:b≤d.size) (hs:SortedIn lt a' b' d) (hf:∀ x,a≤x→x < b→a'≤f x∧f x < b') (hm:∀ x y,a≤x→x < y→y < b→f x < f y):SortedIn lt a b d1:=fun i j hi hij hj=>by
  rw [h.2 i (by omega),h.2 j (by omega)]
  exact hs _ _ (hf i hi (by omega)).1 (hm i j hi hij hj) (hf j (by omega) hj).2
def Merged (lt:α→α→Bool) (a b:Nat) (d d':Array α):Prop:=Seg lt a b d d'∧SortedIn lt a b d'
theorem turn_halves (hS:SWO lt) {d d1:Array α} {a s m e b:Nat} (hI:Idx d d1 (rotI s m e)) (h1:a≤s) (h2:s≤m) (h3:m≤e) (h4:e≤b) (h5:b≤d.size)
    (hA:SortedIn lt a m d) (hB:SortedIn lt m b d) (H1:s=a∨e=b∨lt d[e]! d[s - 1]! = false) (H2:s=m∨e=m∨lt d[e - 1]! d[s]! = true) :
    Seg lt a b d d1∧SortedIn lt a s d1∧SortedIn lt s (s + (e - m)) d1∧SortedIn lt (s + (e - m)) e d1∧SortedIn lt e b d1 ∧
    ∀ x y,a≤x→x < s + (e - m)→s + (e - m)≤y→y < b→lt d1[y]! d1[x]! = false:=by
  have hcross:∀ u v,s≤u→u < m→m≤v→v < e→lt d[v]! d[u]! = true:=fun u v u1 u2 v1 v2=>by
    rcases H2 with H2 | H2 | H2
    · omega
    · omega
    · have q1:=sorted_le hS hB v1 (show v≤e - 1 by omega) (by omega)
      have q2:=sorted_le hS hA h1 (show s≤u by omega) u2
      cases hv:lt d[v]! d[u]! with
      | true=>rfl
      | false =>
        have:=hS.ntrans _ _ _ (hS.ntrans _ _ _ q1 hv) q2
        rw [this] at H2;cases H2
  have hseg:=seg_rot (lt:=lt) hI h2 h3 (by omega) hcross
  refine ⟨hseg.mono h1 h4,hseg.sorted (sorted_part hA (Nat.le_refl _) h2) (.inl (Nat.le_refl _)),?_,?_,hseg.sorted (sorted_part hB h3 (Nat.le_refl _)) (.inr (Nat.le_refl _)),?_⟩
  · refine sorted_idx hI (by omega) (sorted_part hB (Nat.le_refl _) h4) (fun x x1 x2=>?_) (fun x y x1 x2 x3=>?_)
    · unfold rotI;rw [if_neg (by omega),if_pos (by omega)];omega
    · unfold rotI;rw [if_neg (by omega),if_pos (by omega),if_neg (by omega),if_pos (by omega)];omega
  · refine sorted_idx hI (by omega) (sorted_part hA h1 (Nat.le_refl _)) (fun x x1 x2=>?_) (fun x y x1 x2 x3=>?_)
    · unfold rotI;rw [if_neg (by omega),if_neg (by omega),if_pos (by omega)];omega
    · unfold rotI;rw [if_neg (by omega),if_neg (by omega),if_pos (by omega),if_neg (by omega),if_neg (by omega),if_pos (by omega)];omega
  · intro x y x1 x2 y1 y2
    rw [hI.2 x (by omega),hI.2 y (by omega)]
    unfold rotI
    by_cases c1:x < s
    · rw [if_pos c1,if_neg (by omega),if_neg (by omega)]
      by_cases c2:y < e
      · rw [if_pos c2];exact sorted_le hS hA x1 (by omega) (by omega)
      · rw [if_neg c2]
        have q1:=sorted_le hS hB h3 (show e≤y by omega) y2
        have q2:=sorted_le hS hA x1 (show x≤s - 1 by omega) (by omega)
        rcases H1 with H1 | H1 | H1
        · omega
        · omega
        · exact hS.ntrans _ _ _ (hS.ntrans _ _ _ q1 H1) q2
    · rw [if_neg c1,if_pos x2,if_neg (by omega),if_neg (by omega)]
      by_cases c2:y < e
      · rw [if_pos c2]
        exact hS.asymmA (hcross _ _ (by omega) (by omega) (by omega) (by omega))
      · rw [if_neg c2];exact sorted_le hS hB (by omega) (by omega) y2
theorem merged_halves {d d1 d2 d3:Array α} {a c b:Nat} (h0:Seg lt a b d d1) (hac:a≤c) (hcb:c≤b) (hx:∀ x y,a≤x→x < c→c≤y→y < b→lt d1[y]! d1[x]! = false) (h1:Merged lt a c d1 d2) (h2:Merged lt c b d2 d3):Merged lt a b d d3:=by
  refine ⟨(h0.trans (h1.1.mono (Nat.le_refl _) hcb)).trans (h2.1.mono hac (Nat.le_refl _)),?_⟩
  refine sorted_two (h2.1.sorted h1.2 (.inl (Nat.le_refl _))) h2.2 (fun x y x1 x2 y1 y2=>?_)
  obtain ⟨z,z1,z2,ez⟩:=h2.1.within y y1 y2
  obtain ⟨u,u1,u2,eu⟩:=h1.1.within x x1 x2
  rw [ez,h2.1.out x (by omega),eu,h1.1.out z (by omega)]
  exact hx u z u1 u2 z1 z2
theorem merged_none {d:Array α} {a s c:Nat} (h1:SortedIn lt a s d) (h2:SortedIn lt s c d) (h:s≤a∨c≤s):Merged lt a c d d:=by
  refine ⟨Seg.refl a c d,fun i j hi hij hj=>?_⟩
  rcases h with h | h
  · exact h2 i j (by omega) hij hj
  · exact h1 i j hi hij (by omega)
end Go.Proofs.YtjcleokfpohpdaaGreatDoor
namespace Go.Proofs.YtjcleokfpohpdaaGreatDoor
open Go.RowKit Go.Sort
variable {α:Type} [Inhabited α] {lt:α→α→Bool}
theorem merged_right (hS:SWO lt) {d d1:Array α} {a i b:Nat} (hI:Idx d d1 (rotI a (a + 1) i)) (h1:a + 1≤i) (h2:i≤b) (h3:b≤d.size) (hB:SortedIn lt (a + 1) b d)
    (H2:i=a + 1∨lt d[i - 1]! d[a]! = true) (H3:i=b∨lt d[i]! d[a]! = false):Merged lt a b d d1:=by
  have hA:SortedIn lt a (a + 1) d:=fun x y x1 x2 x3=>by omega
  obtain ⟨t1,_,t3,_,t5,t6⟩:=turn_halves hS hI (Nat.le_refl a) (Nat.le_succ a) h1 h2 h3 hA hB (.inl rfl) (by rcases H2 with h | h;exact .inr (.inl h);exact .inr (.inr h))
  refine ⟨t1,sorted_two t3 (sorted_two (m:=i) (fun x y x1 x2 x3=>by omega) t5 (fun x y x1 x2 y1 y2=>?_)) t6⟩
  obtain rfl:x=i - 1:=by omega
  rw [hI.2 (i - 1) (by omega),hI.2 y (by omega)]
  unfold rotI
  rw [if_neg (by omega),if_neg (by omega),if_neg (by omega),if_neg (by omega),if_neg (by omega),if_pos (by omega),show i - 1 - (i - (a + 1))=a from by omega]
  rcases H3 with H3 | H3
  · omega
  · exact hS.ntrans _ _ _ (sorted_le hS hB h1 y1 y2) H3
theorem merged_left (hS:SWO lt) {d d1:Array α} {a i m:Nat} (hI:Idx d d1 (rotI i m (m + 1))) (h1:a≤i) (h2:i≤m) (h3:m < d.size) (hA:SortedIn lt a m d)
    (H1:i=a∨lt d[m]! d[i - 1]! = false) (H2:i=m∨lt d[m]! d[i]! = true):Merged lt a (m + 1) d d1:=by
  have hB:SortedIn lt m (m + 1) d:=fun x y x1 x2 x3=>by omega
  obtain ⟨t1,t2,_,t4,_,t6⟩:=turn_halves hS hI h1 h2 (Nat.le_succ m) (Nat.le_refl _) (by omega) hA hB (.inr (.inl rfl)) (by rcases H2 with h | h;exact .inl h;exact .inr (.inr h))
  refine ⟨t1,sorted_two (sorted_two (m:=i) t2 (fun x y x1 x2 x3=>by omega) (fun x y x1 x2 y1 y2=>?_)) t4 t6⟩
  obtain rfl:y=i:=by omega
  rw [hI.2 y (by omega),hI.2 x (by omega)]
  unfold rotI
  rw [if_pos (show x < y by omega),if_neg (by omega),if_pos (by omega),show y + (m - y)=m from by omega]
  rcases H1 with H1 | H1
  · omega
  · exact hS.ntrans _ _ _ H1 (sorted_le hS hA x1 (show x≤y - 1 by omega) (by omega))
theorem idx_rot_none (d:Array α) {a m b:Nat} (h1:a≤m) (h2:m≤b) (h:a=m∨m=b):Idx d d (rotI a m b):=idx_refl d fun x _=>by
  unfold rotI;repeat' split
  all_goals omega
def Tiles (lt:α→α→Bool) (bs sz lo:Nat) (d:Array α):Prop:=∀ q,lo≤q→SortedIn lt (q * bs) (min (q * bs + bs) sz) d
def TilesTo (lt:α→α→Bool) (bs sz hi:Nat) (d:Array α):Prop:=∀ q,q < hi→SortedIn lt (q * bs) (min (q * bs + bs) sz) d
theorem tile_next {q hi bs:Nat} (h:q < hi):q * bs + bs≤hi * bs:=by
  have:=Nat.mul_le_mul_right bs (show q + 1≤hi from h);rwa [Nat.add_mul,Nat.one_mul] at this
theorem tiles_one {d d1:Array α} {bs sz q:Nat} (h:TilesTo lt bs sz q d) (hm:Merged lt (q * bs) (q * bs + bs) d d1) (hb:q * bs + bs≤sz):TilesTo lt bs sz (q + 1) d1:=fun p hp=>by
  by_cases e:p=q
  · subst e;rw [Nat.min_eq_left hb];exact hm.2
  · have h1:=tile_next (bs:=bs) (show p < q by omega)
    exact hm.1.sorted (h p (by omega)) (.inl (by omega))
theorem tiles_all {d d1:Array α} {bs sz q:Nat} (h:TilesTo lt bs sz q d) (hm:Merged lt (q * bs) sz d d1) (hb:sz < q * bs + bs):Tiles lt bs sz 0 d1:=fun p _=>by
  rcases Nat.lt_trichotomy p q with e | e | e
  · have h1:=tile_next (bs:=bs) e
    exact hm.1.sorted (h p e) (.inl (by omega))
  · subst e;rw [Nat.min_eq_right (by omega)];exact hm.2
  · have h1:=tile_next (bs:=bs) e
    intro x y x1 x2 x3;omega
theorem tiles_rest {d d1:Array α} {bs sz q:Nat} (h:Tiles lt bs sz (2 * q) d) (hm:Merged lt (q * (2 * bs)) (q * (2 * bs) + 2 * bs) d d1):Tiles lt bs sz (2 * (q + 1)) d1:=fun p hp=>by
  have h1:=Nat.mul_le_mul_right bs hp
  have e:2 * (q + 1) * bs=q * (2 * bs) + 2 * bs:=by rw [Nat.mul_comm 2 (q + 1),Nat.mul_assoc,Nat.add_mul,Nat.one_mul]
  exact hm.1.sorted (h p (by omega)) (.inr (by omega))
theorem tile_fst {d:Array α} {bs sz q:Nat} (h:Tiles lt bs sz (2 * q) d):SortedIn lt (q * (2 * bs)) (min (q * (2 * bs) + bs) sz) d:=by
  have:=h (2 * q) (Nat.le_refl _)
  rwa [show 2 * q * bs=q * (2 * bs) by rw [Nat.mul_comm 2 q,Nat.mul_assoc]] at this
theorem tile_snd {d:Array α} {bs sz q:Nat} (h:Tiles lt bs sz (2 * q) d):SortedIn lt (q * (2 * bs) + bs) (min (q * (2 * bs) + 2 * bs) sz) d:=by
  have:=h (2 * q + 1) (by omega)
  rw [show (2 * q + 1) * bs=q * (2 * bs) + bs by rw [Nat.add_mul,Nat.one_mul,Nat.mul_comm 2 q,Nat.mul_assoc]] at this
  rwa [show q * (2 * bs) + 2 * bs=q * (2 * bs) + bs + bs by omega]
theorem tiles_whole {d:Array α} {bs sz:Nat} (h:Tiles lt bs sz 0 d) (hb:sz≤bs):SortedIn lt 0 sz d:=by
  have:=h 0 (Nat.le_refl _)
  rwa [Nat.zero_mul,Nat.zero_add,Nat.min_eq_right hb] at this
end Go.Proofs.YtjcleokfpohpdaaGreatDoor
namespace Go.Proofs.YtjcleokfpohpdaaGreatDoor
open Go.RowKit Go.Shelf Go.Lib Go.Sort
structure TyB (P:Program) (k:Nat):Prop where
  mixed:P.follows .mixedOrders=true
  t0:P.underlying 0=some (TypeDesc.tuple #[])
  a0:∀ w,(isAgg 0).run P w=.ok false w
  z0:∀ w,(Go.sizeOf 0).run P w=.ok 1 w
  v0:∀ w,(zeroValue 0).run P w=.ok (Value.tuple #[]) w
  t3:P.underlying 3=some (TypeDesc.int IntKind.i64)
  a3:∀ w,(isAgg 3).run P w=.ok false w
  z3:∀ w,(Go.sizeOf 3).run P w=.ok 1 w
  v3:∀ w,(zeroValue 3).run P w=.ok (Value.int IntKind.i64 0) w
  t4:P.underlying 4=some (TypeDesc.bool)
  a4:∀ w,(isAgg 4).run P w=.ok false w
  z4:∀ w,(Go.sizeOf 4).run P w=.ok 1 w
  v4:∀ w,(zeroValue 4).run P w=.ok (Value.bool false) w
  t77:P.underlying 291=some (TypeDesc.int IntKind.u64)
  a77:∀ w,(isAgg 291).run P w=.ok false w
  z77:∀ w,(Go.sizeOf 291).run P w=.ok 1 w
  v77:∀ w,(zeroValue 291).run P w=.ok (Value.int IntKind.u64 0) w
  t22:P.underlying 230=some (TypeDesc.slice 233)
  a22:∀ w,(isAgg 230).run P w=.ok false w
  z22:∀ w,(Go.sizeOf 230).run P w=.ok 1 w
  v22:∀ w,(zeroValue 230).run P w=.ok (Value.slice none 0 0) w
  t53:P.underlying 274=some (TypeDesc.func #[233,233] #[3] false)
  a53:∀ w,(isAgg 274).run P w=.ok false w
  z53:∀ w,(Go.sizeOf 274).run P w=.ok 1 w
  v53:∀ w,(zeroValue 274).run P w=.ok (Value.nilFunc) w
  aE:∀ w,(isAgg 233).run P w=.ok true w
  zE:∀ w,(Go.sizeOf 233).run P w=.ok k w
theorem tyB:TyB Tryz.prog 5 where
  mixed:=by kernel_rfl
  t0:=by kernel_rfl
  a0:=fun _=>by kernel_rfl
  z0:=fun _=>by kernel_rfl
  v0:=fun _=>by kernel_rfl
  t3:=by kernel_rfl
  a3:=fun _=>by kernel_rfl
  z3:=fun _=>by kernel_rfl
  v3:=fun _=>by kernel_rfl
  t4:=by kernel_rfl
  a4:=fun _=>by kernel_rfl
  z4:=fun _=>by kernel_rfl
  v4:=fun _=>by kernel_rfl
  t77:=by kernel_rfl
  a77:=fun _=>by kernel_rfl
  z77:=fun _=>by kernel_rfl
  v77:=fun _=>by kernel_rfl
  t22:=by kernel_rfl
  a22:=fun _=>by kernel_rfl
  z22:=fun _=>by kernel_rfl
  v22:=fun _=>by kernel_rfl
  t53:=by kernel_rfl
  a53:=fun _=>by kernel_rfl
  z53:=fun _=>by kernel_rfl
  v53:=fun _=>by kernel_rfl
  aE:=fun _=>by kernel_rfl
  zE:=fun _=>by kernel_rfl
instance:Inhabited Bv:=⟨⟨⟨#[]⟩,zeroV⟩⟩
end Go.Proofs.YtjcleokfpohpdaaGreatDoor
namespace Go.Proofs.YtjcleokfpohpdaaGreatDoor
open Go.RowKit Go.Shelf Go.Lib Go.Sort
variable {α:Type} [Inhabited α] {P:Program} {k:Nat} {enc:α→List Value} {w0 W:World} {blk off:Nat} {d d0:Array α}
theorem setMany_set (hk:∀ x,(enc x).length=k) (d:Array α) (i:Nat) (x:α) (hi:i < d.size):setMany (flatK enc k d) (i * k) (enc x)=flatK enc k (d.setIfInBounds i x):=by
  refine ext_get! (by simp) fun t ht=>?_
  have ht':t < d.size * k:=by simpa using ht
  have k0 : 0 < k := by rcases Nat.eq_zero_or_pos k with h | h; · subst h; simp at ht'
                        · exact h
  rw [get_setMany _ _ _ t (by simpa using ht'),get_flatK _ _ _ t ht',get_flatK _ _ _ t (by rw [Array.size_setIfInBounds];exact ht'),hk]
  have htd:t / k < d.size:=(Nat.div_lt_iff_lt_mul k0).2 ht'
  by_cases b:t / k=i
  · rw [if_pos ((blk_iff k i t k0).2 b)]
    subst b
    rw [getElem!_pos _ (t / k) (by simpa using hi),Array.getElem_setIfInBounds_self]
    rw [Nat.mod_eq_sub_div_mul]
  · rw [if_neg (fun h=>b ((blk_iff k i t k0).1 h)),getElem!_pos (d.setIfInBounds i x) (t / k) (by simpa using htd),Array.getElem_setIfInBounds_ne (by simpa using htd) (fun h=>b h.symm),getElem!_pos d _ htd]
theorem swk_set (h:SWK enc k w0 blk off d W) (hk:∀ x,(enc x).length=k) (hblk:blk < w0.heap.size) (i:Nat) (hi:i < d.size) (x:α):SWK enc k w0 blk off (d.setIfInBounds i x) (W.setCells blk (off + i * k) (enc x)):=by
  obtain ⟨n,os,rfl⟩:=h
  refine ⟨n,os,?_⟩
  unfold sortWorldK putRowK
  rw [setCells_grow os blk _ _ _ (by simpa [putRow,mapBlock,Sort.ahead] using hblk),setCells_putRow _ _ _ _ _ _ (by rw [hk,size_flatK];exact rowK_bnd d k i hi),setMany_set hk d i x hi]
theorem swk_st (h:SWK enc k w0 blk off d W) (R:RowK enc k w0 blk off d0) (hs:d.size=d0.size) (P:Program) (i:Nat) (hi:i < d.size) (y:α) :
    Sem.run P (storeCells ⟨blk,off + i * k,none⟩ (enc y) 0) W=.ok () (W.setCells blk (off + i * k) (enc y)) :=
  stores_of_holds P (h.holds R.hblk R.hH hs) (i * k) _ (by rw [R.hk,size_flatK];exact rowK_bnd d k i hi) (R.h1 _)
def endZ (d:Array α) (q:Nat) (z:α):Array α:=(Array.range d.size).map fun i=>if i < q then d[i]! else z
theorem size_endZ (d:Array α) (q:Nat) (z:α):(endZ d q z).size=d.size:=by simp [endZ]
theorem get_endZ (d:Array α) (q:Nat) (z:α) (i:Nat) (hi:i < d.size):(endZ d q z)[i]! = if i < q then d[i]! else z:=by
  rw [getElem!_pos _ i (by rw [size_endZ];exact hi)];simp [endZ]
theorem setMany_end (hk:∀ x,(enc x).length=k) (d:Array α) (q:Nat) (z:α) (hq:q≤d.size):setMany (flatK enc k d) (q * k) (flatK enc k (Array.replicate (d.size - q) z)).toList=flatK enc k (endZ d q z):=by
  refine ext_get! (by simp [size_endZ]) fun t ht=>?_
  have ht':t < d.size * k:=by simpa using ht
  have k0 : 0 < k := by rcases Nat.eq_zero_or_pos k with h | h; · subst h; simp at ht'
                        · exact h
  have htd:t / k < d.size:=(Nat.div_lt_iff_lt_mul k0).2 ht'
  have hlen:(flatK enc k (Array.replicate (d.size - q) z)).toList.length=(d.size - q) * k:=by simp
  have hsum:q * k + (d.size - q) * k=d.size * k:=by rw [← Nat.add_mul];congr 1;omega
  rw [get_setMany _ _ _ t (by simpa using ht'),get_flatK _ _ _ t ht',get_flatK _ _ _ t (by rw [size_endZ];exact ht'),get_endZ _ _ _ _ htd,hlen,hsum]
  by_cases b:t / k < q
  · have:t < q * k:=(Nat.div_lt_iff_lt_mul k0).1 b
    rw [if_neg (by omega),if_pos b]
  · have h1:q * k≤t:=by
      rcases Nat.lt_or_ge t (q * k) with h | h
      · exact absurd ((Nat.div_lt_iff_lt_mul k0).2 h) b
      · exact h
    rw [if_pos ⟨h1,ht'⟩,if_neg b]
    have hlt:t - q * k < (d.size - q) * k:=by omega
    have e:=get_flatK enc k (Array.replicate (d.size - q) z) (t - q * k) (by simpa using hlt)
    have hz:(Array.replicate (d.size - q) z)[(t - q * k) / k]! = z:=by
      rw [getElem!_pos _ _ (by simpa using (Nat.div_lt_iff_lt_mul k0).2 hlt)];simp
    rw [hz,show (t - q * k) % k=t % k by rw [Nat.mul_comm q k];exact Nat.sub_mul_mod (by rw [Nat.mul_comm];exact h1)] at e
    rw [← e]
    rw [getElem!_pos (flatK enc k (Array.replicate (d.size - q) z)) _ (by simpa using hlt),getElem!_pos (flatK enc k (Array.replicate (d.size - q) z)).toList _ (by rw [hlen];exact hlt)]
    simp
theorem swk_ended (h:SWK enc k w0 blk off d W) (hk:∀ x,(enc x).length=k) (hblk:blk < w0.heap.size) (q:Nat) (hq:q≤d.size) (z:α):SWK enc k w0 blk off (endZ d q z) (W.setCells blk (off + q * k) (flatK enc k (Array.replicate (d.size - q) z)).toList):=by
  obtain ⟨n,os,rfl⟩:=h
  refine ⟨n,os,?_⟩
  unfold sortWorldK putRowK
  have hsum:q * k + (d.size - q) * k=d.size * k:=by rw [← Nat.add_mul];congr 1;omega
  rw [setCells_grow os blk _ _ _ (by simpa [putRow,mapBlock,Sort.ahead] using hblk),setCells_putRow _ _ _ _ _ _ (by simp [hsum]),setMany_end hk d q z hq]
theorem run_clear_k (T:TyB P k) (zv:Value) (z:α) (hz:∀ w,(zeroValue 233).run P w=.ok zv w) (hc:Value.cells zv=(enc z).toArray) (h:SWK enc k w0 blk off d W) (R:RowK enc k w0 blk off d0) (hs:d.size=d0.size) (q c:Nat) (hq:q < d.size) (ty:TypeId) :
    (Builtin.clear_ #[230] ty #[.slice (some ⟨blk,off + q * k,none⟩) (d.size - q) c]).run P W=.ok (.tuple #[]) (W.setCells blk (off + q * k) (flatK enc k (Array.replicate (d.size - q) z)).toList):=by
  have hsum:q * k + (d.size - q) * k=d.size * k:=by rw [← Nat.add_mul];congr 1;omega
  have e:Builtin.zeroCells (Value.cells zv) (d.size - q)=flatK enc k (Array.replicate (d.size - q) z):=by
    rw [hc]
    refine ext_get! (by simp [Builtin.zeroCells,R.hk]) fun t ht=>?_
    have ht':t < (d.size - q) * k:=by simpa [Builtin.zeroCells,R.hk] using ht
    have k0 : 0 < k := by rcases Nat.eq_zero_or_pos k with h | h; · subst h; simp at ht'
                          · exact h
    rw [get_flatK _ _ _ t (by simpa using ht')]
    have hz:(Array.replicate (d.size - q) z)[t / k]! = z:=by
      rw [getElem!_pos _ _ (by simpa using (Nat.div_lt_iff_lt_mul k0).2 ht')];simp
    rw [hz,getElem!_pos _ t (by simpa [Builtin.zeroCells,R.hk] using ht')]
    have hm:t % k < (enc z).length:=by rw [R.hk];exact Nat.mod_lt _ k0
    rw [getElem!_pos (enc z) (t % k) hm]
    simp [Builtin.zeroCells,R.hk]
    rw [List.getElem?_eq_getElem hm];rfl
  have H:=h.holds R.hblk R.hH hs
  have hst:=stores_of_holds P H (q * k) (flatK enc k (Array.replicate (d.size - q) z)).toList (by simp [hsum]) (by
    intro v hv
    simp only [flatK,Array.toList_map,List.mem_map] at hv
    obtain ⟨t,ht,rfl⟩:=hv
    have ht':t < (d.size - q) * k:=by simpa using ht
    have k0 : 0 < k := by rcases Nat.eq_zero_or_pos k with h | h; · subst h; simp at ht'
                          · exact h
    have hm:∀ y:α,t % k < (enc y).length:=fun y=>by rw [R.hk];exact Nat.mod_lt _ k0
    generalize (Array.replicate (d.size - q) z)[t / k]! = y
    rw [getElem!_pos (enc y) (t % k) (hm y)]
    exact R.h1 _ _ (List.getElem_mem _))
  obtain ⟨m,hm⟩:∃ m,d.size - q=m + 1:=⟨d.size - q - 1,by omega⟩
  rw [hm] at hst e ⊢
  simp [Builtin.clear_,run_underlying T.t22,hz,e,hst]
end Go.Proofs.YtjcleokfpohpdaaGreatDoor
