/-
  What an arena keeps of a node, by the program's entry, at an arena whose table alone has turned.
-/
import Derived.Test.YtccpfgpdcicjaaaDoorA07
namespace Go.Proofs.YtccpfgpdcicjaaaDoor
open Go.RowKit Go.Maps

def zOf (es : List En) (i : Int) : Tv := ((es[i.toNat]?).map En.z).getD zeroTv
theorem zOf_in {es : List En} {i : Int} (h : i.toNat < es.length) : zOf es i = es[i.toNat].z := by
  unfold zOf; rw [List.getElem?_eq_getElem h]; rfl
theorem entry_in {C : Nat → Prop} {w0 W : World} {F : Nat → Bool} {g bm : Nat} {kv : Value} {es : List En} {D : DataW Unit} {L : List Tm} (hm : ArMem g bm kv es D L W) (hs : ArSet C w0 W F g bm kv es L) {is : List Int} {ai : Option Addr} {ci : Nat}
    (hi : Nums W (.slice ai is.length ci) is) (hin : ∀ i ∈ is, InR L i) (k : Int) (s : ByteArray) (n : Int) (hf : Fit k s n) (hp : (Tm.mk k s n (getsT L is)).parts ≤ 300) (V : World) (hV : ∀ j, j < W.heap.size → j ≠ bm → V.heap[j]? = W.heap[j]?) (hVs : W.heap.size ≤ V.heap.size) :
    Calls Tryd.prog 44 #[.pointer (some ⟨g, 0, none⟩), .agg #[.int .i64 k, .string s, .int .i64 n, .slice ai is.length ci]] V
      fun r V' => ∃ e : En, e.z.t = .mk k s n (getsT L is) ∧ e.is = is ∧ r = .returned (.agg e.cells.toArray) ∧ Below V.heap.size V V' ∧ Lives (fun U => e.z.ok U ∧ Nums U (.slice e.a e.is.length e.c) e.is) (over w0 W F) V V' := by
  have hgl := (hs.own g hs.cg).1
  have hlen := hm.len
  have hgb : g ≠ bm := fun h => by
    obtain ⟨en, clock, hh, _⟩ := hm.map
    have := hm.c0
    rw [h] at this
    simp [World.cell?, hh] at this
  have hcell : ∀ b o v, W.cell? ⟨b, o, none⟩ = some v → V.cell? ⟨b, o, none⟩ = some v := fun b o v h => by
    have hb : b ≠ bm := fun e => by
      obtain ⟨en, clock, hh, _⟩ := hm.map
      rw [e] at h
      simp [World.cell?, hh] at h
    rw [World.cell?_of_block (w := W) (w' := V) (a := ⟨b, o, none⟩) (hV b (lt_of_cell h) hb)]; exact h
  have hnV : Nums V (.slice ai is.length ci) is := by
    obtain ⟨a', c', he, h1, h2, h3, h4⟩ := hi
    refine ⟨a', c', he, h1, h2, h3, ?_⟩
    rcases h4 with h4 | ⟨b, off, ha, hlt, hc⟩
    · exact .inl h4
    · exact .inr ⟨b, off, ha, Nat.lt_of_lt_of_le hlt hVs, fun j x hj => hcell _ _ _ (hc j x hj)⟩
  have hti : ∀ i ∈ is, i.toNat < es.length := fun i h => by obtain ⟨h0, h1⟩ := hin i h; rw [hlen]; omega
  have hmap : (is.map (zOf es)).map Tv.t = getsT L is := by
    unfold getsT
    rw [List.map_map]
    refine List.map_congr_left fun i h => ?_
    have h1 := hti i h
    show (zOf es i).t = _
    rw [zOf_in h1, hm.get (by rw [← hlen]; exact h1), List.getD_eq_getElem?_getD, List.getElem?_eq_getElem (by rw [← hlen]; exact h1)]; rfl
  have H := entry_any g L.length kv k s n is ai ci (is.map (zOf es)) (over w0 W F) V hf (hcell _ _ _ hm.c1) hnV (by rw [List.length_map]) (fun j h h2 => by
      have hm1 := List.getElem_mem h
      have h1 := hti _ hm1
      obtain ⟨h0, h3⟩ := hin _ hm1
      obtain ⟨b, c, hE⟩ := ent_at hm.row hlen h1
      refine ⟨is[j].toNat, b, c, es[is[j].toNat], by omega, by omega, by have := hs.few; omega, ⟨hE.kv, hcell _ _ _ hE.d0, hcell _ _ _ hE.d1, hcell _ _ _ hE.d2, hcell _ _ _ hE.d3, hcell _ _ _ hE.d4, hcell _ _ _ hE.d5⟩, ?_⟩
      rw [List.getElem_map, zOf_in h1])
    (fun x hx => by
      obtain ⟨i, h, rfl⟩ := List.mem_map.1 hx
      rw [zOf_in (hti i h)]
      exact (hs.es _ (List.getElem_mem _)).z)
    (by rw [hmap]; rw [Tm.parts] at hp; omega)
  refine H.mono ?_; rintro r V' ⟨e, h1, h2, h3, h4, h5⟩
  rw [hmap] at h1
  exact ⟨e, h1, h2, h3, h4, h5⟩
end Go.Proofs.YtccpfgpdcicjaaaDoor
