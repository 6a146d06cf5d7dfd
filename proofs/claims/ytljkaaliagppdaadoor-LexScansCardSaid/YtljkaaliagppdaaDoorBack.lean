/-
  There and back: what the tokens of a text are shown as has the same tokens. Nothing of memory.
-/
import Derived.Test.YtljkaaliagppdaaDoorScans
import Derived.Test.YtljkaaliagppdaaDoorShow
namespace Go.Proofs.YtljkaaliagppdaaDoor
open Go.RowKit

/-- Nothing, or a blank and more. -/
def Apart (rest : List UInt8) : Prop := rest = [] ∨ ∃ r, rest = 32 :: r
/-- A token that is told again, whatever is apart behind it. -/
structure Good (t : Tok) : Prop where
  nz : t.kind ≠ 0
  pos : 1 ≤ t.text.size
  c5 : cls (head t.text.data.toList) ≠ 5
  c35 : head t.text.data.toList ≠ 35
  tok : ∀ rest, Apart rest → tokL (t.text.data.toList ++ rest) = some ⟨t.kind, t.n, t.text.size⟩

theorem tw_all (p : UInt8 → Bool) (l : List UInt8) : ∀ y ∈ l.takeWhile p, p y = true := by
  induction l with
  | nil => intro y hy; cases hy
  | cons c r ih =>
    cases hc : p c with
    | true =>
      rw [List.takeWhile_cons_of_pos hc]
      intro y hy
      rcases List.mem_cons.1 hy with rfl | h
      · exact hc
      · exact ih y h
    | false => rw [List.takeWhile_cons_of_neg (by rw [hc]; simp)]; intro y hy; cases hy
theorem pc_blank : pc 32 = false := by decide
theorem tw_apart {x rest : List UInt8} (hx : ∀ y ∈ x, pc y = true) (hr : Apart rest) : (x ++ rest).takeWhile pc = x := by
  rw [List.takeWhile_append_of_pos hx]
  rcases hr with rfl | ⟨r, rfl⟩
  · simp
  · rw [List.takeWhile_cons_of_neg (by rw [pc_blank]; simp), List.append_nil]
theorem numCut_some {k : Int} {t : List UInt8} {least : Int} {len : Nat} {c : Cut} (h : numCut k t least len = some c) : c = ⟨k, numVal t, len⟩ := by
  unfold numCut at h; split at h
  · cases h; rfl
  · cases h
theorem pc_of_cls {b : UInt8} (h : cls (b.toNat : Int) = 1 ∨ cls (b.toNat : Int) = 2 ∨ cls (b.toNat : Int) = 3) : pc b = true := by
  unfold pc part; rw [decide_eq_true_eq]; left; omega
theorem kind_pos {l : List UInt8} {c : Cut} (h : tokL l = some c) : c.kind ≠ 0 := by
  have hn : ∀ {k : Int} {t : List UInt8} {least : Int} {len : Nat}, k ≠ 0 → numCut k t least len = some c → c.kind ≠ 0 := by
    intro k t least len hk h
    rw [numCut_some h]; exact hk
  unfold tokL at h
  split at h
  · exact hn (by decide) h
  · split at h
    · exact hn (by decide) h
    · split at h
      · cases h; decide
      · split at h
        · exact hn (by decide) h
        · split at h
          · split at h
            · cases h; exact (by decide : (2 : Int) ≠ 0)
            · split at h
              · cases h; exact (by decide : (1 : Int) ≠ 0)
              · cases h
          · cases h
/-- The text that is cut, with something apart behind it, is cut again. -/
theorem tok_again {b : UInt8} {r : List UInt8} {c : Cut} (h : tokL (b :: r) = some c) (rest : List UInt8) (hr : Apart rest) : tokL ((b :: r).take c.len ++ rest) = some c := by
  have hh : head (b :: r) = (b.toNat : Int) := rfl
  by_cases h36 : head (b :: r) = 36
  · rw [tokL_36 h36, List.tail_cons] at h
    have hl := numCut_len h
    have ht : (b :: r).take c.len = b :: r.takeWhile pc := by rw [hl, Nat.add_comm, List.take_succ_cons, tw_take]
    rw [ht, List.cons_append, tokL_36 (by exact h36), List.tail_cons, tw_apart (tw_all pc r) hr]
    exact h
  · by_cases h37 : head (b :: r) = 37
    · rw [tokL_37 h37, List.tail_cons] at h
      have hl := numCut_len h
      have ht : (b :: r).take c.len = b :: r.takeWhile pc := by rw [hl, Nat.add_comm, List.take_succ_cons, tw_take]
      rw [ht, List.cons_append, tokL_37 (by exact h37), List.tail_cons, tw_apart (tw_all pc r) hr]
      exact h
    · have hbd := cls_bd (head (b :: r))
      rcases (show cls (head (b :: r)) = 4 ∨ cls (head (b :: r)) = 3 ∨ (cls (head (b :: r)) = 1 ∨ cls (head (b :: r)) = 2) ∨ (cls (head (b :: r)) = 0 ∨ cls (head (b :: r)) = 5) from by omega) with h4 | h3 | h12 | h05
      · rw [tokL_sign h36 h37 h4] at h
        cases h
        show tokL ((b :: r).take 1 ++ rest) = _
        rw [List.take_succ_cons, List.take_zero]
        exact tokL_sign (l := b :: rest) (show ¬ head (b :: r) = 36 from h36) (show ¬ head (b :: r) = 37 from h37) (show cls (head (b :: r)) = 4 from h4)
      · have hp : pc b = true := pc_of_cls (by rw [hh] at h3; omega)
        rw [tokL_digit h3] at h
        have hl := numCut_len h
        have ht : (b :: r).take c.len = b :: r.takeWhile pc := by rw [hl, tw_take, List.takeWhile_cons_of_pos hp]
        have hc : ((b :: r.takeWhile pc) ++ rest).takeWhile pc = (b :: r).takeWhile pc := by
          rw [List.takeWhile_cons_of_pos hp]
          exact tw_apart (by intro y hy; rcases List.mem_cons.1 hy with rfl | hy; exact hp; exact tw_all pc r y hy) hr
        rw [ht, tokL_digit (by exact h3), hc]
        exact h
      · have hp : pc b = true := pc_of_cls (by rw [hh] at h12; omega)
        rw [tokL_word h12] at h
        have hl := wordCut_len h
        have ht : (b :: r).take c.len = b :: r.takeWhile pc := by rw [hl, tw_take, List.takeWhile_cons_of_pos hp]
        have hc : ((b :: r.takeWhile pc) ++ rest).takeWhile pc = (b :: r).takeWhile pc := by
          rw [List.takeWhile_cons_of_pos hp]
          exact tw_apart (by intro y hy; rcases List.mem_cons.1 hy with rfl | hy; exact hp; exact tw_all pc r y hy) hr
        rw [ht, tokL_word (by exact h12), hc]
        exact h
      · rw [tokL_none h05] at h; cases h

theorem good_tok {s : ByteArray} {i : Nat} {c : Cut} (hi : i < s.size) (h5 : cls (s[i].toNat : Int) ≠ 5) (hb : (s[i].toNat : Int) ≠ 35) (hc : tokL (s.data.toList.drop i) = some c) : Good (tokAt s i c) := by
  have hp := tokL_pos hc (by rw [drop_cons s hi]; simp)
  rw [List.length_drop] at hp
  have hsz : s.data.toList.length = s.size := by simp
  have hx : (s.extract i (i + c.len)).data.toList = (s.data.toList.drop i).take c.len := by rw [ext_list, List.drop_take, show i + c.len - i = c.len from by omega]
  have hs : (s.extract i (i + c.len)).size = c.len := by simp; omega
  have hcons := drop_cons s hi
  obtain ⟨k, hk⟩ : ∃ k, c.len = k + 1 := ⟨c.len - 1, by omega⟩
  have hhd : head ((s.data.toList.drop i).take c.len) = (s[i].toNat : Int) := by
    rw [hcons, hk, List.take_succ_cons]; rfl
  refine ⟨kind_pos hc, by show 1 ≤ (s.extract i (i + c.len)).size; omega, ?_, ?_, fun rest hr => ?_⟩
  · show cls (head (s.extract i (i + c.len)).data.toList) ≠ 5
    rw [hx, hhd]; exact h5
  · show head (s.extract i (i + c.len)).data.toList ≠ 35
    rw [hx, hhd]; exact hb
  · show tokL ((s.extract i (i + c.len)).data.toList ++ rest) = some ⟨c.kind, c.n, (s.extract i (i + c.len)).size⟩
    rw [hx, hs, hcons]
    rw [hcons] at hc
    exact tok_again hc rest hr

/-- The texts' bytes, all together. -/
def bytesOf (ts : List Tok) : Nat := (ts.map fun t => t.text.size).sum
theorem total_bytes (ts : List Tok) : total ts = bytesOf ts + ts.length := by
  unfold total bytesOf
  induction ts with
  | nil => rfl
  | cons t r ih => simp only [List.map_cons, List.sum_cons, List.length_cons]; omega
/-- What a scan that does not break tells: good tokens, of no more bytes than the text, and the end. -/
theorem scanF_good (s : ByteArray) : ∀ (f i : Nat) (acc ts : List Tok), i ≤ s.size → scanF f s i acc = .inr ts → ∃ more, ts = acc ++ more ++ [endTok s] ∧ (∀ t ∈ more, Good t) ∧ bytesOf more + i ≤ s.size := by
  intro f
  induction f with
  | zero =>
    intro i acc ts hi h
    refine ⟨[], ?_, (by intro t ht; cases ht), (by show 0 + i ≤ s.size; omega)⟩
    rw [List.append_nil]; exact (Sum.inr.inj h).symm
  | succ f ih =>
    intro i acc ts hi h
    rw [scanF] at h
    split at h
    · refine ⟨[], ?_, (by intro t ht; cases ht), (by show 0 + i ≤ s.size; omega)⟩
      rw [List.append_nil]; exact (Sum.inr.inj h).symm
    · next hlt =>
      have hlt : i < s.size := by omega
      rw [head_at hlt] at h
      split at h
      · obtain ⟨more, h1, h2, h3⟩ := ih _ _ _ (by omega) h
        exact ⟨more, h1, h2, by omega⟩
      · next h5 =>
        split at h
        · obtain ⟨more, h1, h2, h3⟩ := ih _ _ _ (rem_le s hi) h
          exact ⟨more, h1, h2, by omega⟩
        · next h35 =>
          cases hc : tokL (s.data.toList.drop i) with
          | none => rw [hc] at h; cases h
          | some c =>
            rw [hc] at h
            have hp := tokL_pos hc (by rw [drop_cons s hlt]; simp)
            rw [List.length_drop] at hp
            have hsz : s.data.toList.length = s.size := by simp
            obtain ⟨more, h1, h2, h3⟩ := ih (i + c.len) (acc ++ [tokAt s i c]) ts (by omega) h
            refine ⟨tokAt s i c :: more, by rw [h1]; simp, ?_, ?_⟩
            · intro t ht
              rcases List.mem_cons.1 ht with rfl | ht
              · exact good_tok hlt h5 h35 hc
              · exact h2 t ht
            · have hs : (s.extract i (i + c.len)).size = c.len := by simp; omega
              show ((tokAt s i c :: more).map fun t => t.text.size).sum + i ≤ s.size
              rw [List.map_cons, List.sum_cons]
              show (s.extract i (i + c.len)).size + bytesOf more + i ≤ s.size
              omega

theorem sh_cons {t : Tok} {r : List Tok} (hg : Good t) (hr : ∀ u ∈ r, Good u) : sh (t :: r) = t.text.data.toList ++ (if r.isEmpty then [] else 32 :: sh r) := by
  have hk : (t.kind != 0) = true := by rw [bne_iff_ne]; exact hg.nz
  unfold sh
  rw [texts_cons_some r hk]
  cases r with
  | nil => simp [texts, lists, Lib.join_one]
  | cons u q =>
    have hu : (u.kind != 0) = true := by rw [bne_iff_ne]; exact (hr u (List.mem_cons_self ..)).nz
    rw [texts_cons_some q hu]
    unfold lists
    simp only [List.map_cons]
    rw [Lib.join_cons, Lib.join_cons]
    simp [Lib.joinTail]

/-- A text that goes on from place i as good tokens are shown has these tokens from there on. -/
theorem scan_shown (u : ByteArray) : ∀ (ts : List Tok) (i : Nat) (acc : List Tok), (∀ t ∈ ts, Good t) → u.data.toList.drop i = sh ts → ScanTo u i acc →
    ∃ more, scanS u = .inr (acc ++ more ++ [endTok u]) ∧ more.map Tok.plain = ts.map Tok.plain := by
  have hsz : u.data.toList.length = u.size := by simp
  intro ts
  induction ts with
  | nil =>
    intro i acc _ hd hs
    refine ⟨[], ?_, rfl⟩
    rw [List.append_nil]
    apply scan_end hs
    intro hlt
    rw [drop_cons u hlt] at hd
    cases hd
  | cons t r ih =>
    intro i acc hg hd hs
    have hgt := hg t (List.mem_cons_self ..)
    have hgr : ∀ x ∈ r, Good x := fun x hx => hg x (List.mem_cons_of_mem _ hx)
    rw [sh_cons hgt hgr] at hd
    have htl : t.text.data.toList.length = t.text.size := by simp
    have hpos := hgt.pos
    have hlen := congrArg List.length hd
    rw [List.length_drop, List.length_append, htl, hsz] at hlen
    have hlt : i < u.size := by omega
    have hhd := head_at hlt
    have hhd2 : head (u.data.toList.drop i) = head t.text.data.toList := by
      rw [hd]
      cases hx : t.text.data.toList with
      | nil => rw [hx] at htl; simp at htl; omega
      | cons b q => rfl
    have hap : Apart (if r.isEmpty then [] else 32 :: sh r) := by
      cases r with
      | nil => exact .inl rfl
      | cons x q => exact .inr ⟨_, rfl⟩
    have htok := hgt.tok _ hap
    rw [← hd] at htok
    have h5 : cls (u[i].toNat : Int) ≠ 5 := by rw [← hhd, hhd2]; exact hgt.c5
    have h35 : (u[i].toNat : Int) ≠ 35 := by rw [← hhd, hhd2]; exact hgt.c35
    have hst := (scan_token hs hlt h5 h35 htok).1
    have hpl : (tokAt u i ⟨t.kind, t.n, t.text.size⟩).plain = t.plain := by
      unfold tokAt Tok.plain
      have : u.extract i (i + t.text.size) = t.text := by
        rw [← bs_list (u.extract i (i + t.text.size)), ext_list, List.drop_take, show i + t.text.size - i = t.text.size from by omega, hd, ← htl, List.take_left, bs_list]
      simp only [this]
    have hdrop : u.data.toList.drop (i + t.text.size) = (if r.isEmpty then [] else 32 :: sh r) := by
      rw [← List.drop_drop, hd, ← htl, List.drop_left]
    cases hre : r with
    | nil =>
      subst hre
      refine ⟨[tokAt u i ⟨t.kind, t.n, t.text.size⟩], ?_, by simp [hpl]⟩
      apply scan_end hst
      intro hlt2
      rw [drop_cons u hlt2] at hdrop
      simp at hdrop
    | cons x q =>
      have hnn : r.isEmpty = false := by rw [hre]; rfl
      rw [hnn] at hdrop
      simp only [Bool.false_eq_true, if_false] at hdrop
      have hlt2 : i + t.text.size < u.size := by
        have := congrArg List.length hdrop
        rw [List.length_drop, hsz] at this
        simp at this; omega
      have hb := drop_cons u hlt2
      rw [hdrop] at hb
      have hb32 : u[i + t.text.size] = 32 := (List.cons.inj hb).1.symm
      have hst2 := scan_space hst hlt2 (by rw [hb32]; decide)
      obtain ⟨more, h1, h2⟩ := ih (i + t.text.size + 1) _ hgr (List.cons.inj hb).2.symm hst2
      rw [← hre]
      exact ⟨tokAt u i ⟨t.kind, t.n, t.text.size⟩ :: more, by rw [h1]; simp, by rw [List.map_cons, List.map_cons, h2, hpl]⟩

theorem plain_end (s : ByteArray) : (endTok s).plain = ⟨0, ⟨#[]⟩, 0, 0⟩ := rfl
theorem sh_end (ts : List Tok) (s : ByteArray) : sh (ts ++ [endTok s]) = sh ts := sh_snoc_end (by show ((0 : Int) != 0) = false; decide)
/-- There and back: the tokens of what is shown are the same but for places, and as many. -/
theorem there_and_back {s : ByteArray} {ts : List Tok} (hs : s.size ≤ 4000) (h : scanS s = .inr ts) :
    total ts ≤ 8001 ∧ ∃ us, scanS (bs (sh ts)) = .inr us ∧ us.map Tok.plain = ts.map Tok.plain ∧ (bs (sh ts)).size ≤ 8192 := by
  obtain ⟨more, h1, h2, h3⟩ := scanF_good s s.size 0 [] ts (Nat.zero_le _) h
  rw [List.nil_append] at h1
  have hml : more.length ≤ bytesOf more := by
    have : ∀ l : List Tok, (∀ t ∈ l, Good t) → l.length ≤ bytesOf l := by
      intro l
      induction l with
      | nil => intro _; exact Nat.le_refl _
      | cons t r ih =>
        intro hg
        have := ih (fun x hx => hg x (List.mem_cons_of_mem _ hx))
        have hp := (hg t (List.mem_cons_self ..)).pos
        unfold bytesOf at this ⊢
        simp only [List.map_cons, List.sum_cons, List.length_cons]; omega
    exact this more h2
  have htot : total ts ≤ 8001 := by
    rw [h1]
    have e : total (more ++ [endTok s]) = total more + 1 := by
      unfold total; rw [List.map_append, List.sum_append]; rfl
    rw [e, total_bytes]; omega
  have hshl := sh_len ts
  have hbsz : (bs (sh ts)).size = (sh ts).length := by unfold bs; show (sh ts).toArray.size = _; simp
  have hsh : sh ts = sh more := by rw [h1, sh_end]
  have hd : (bs (sh ts)).data.toList.drop 0 = sh more := by rw [List.drop_zero, ← hsh]; unfold bs; simp
  obtain ⟨us, h4, h5⟩ := scan_shown (bs (sh ts)) more 0 [] h2 hd (scan_start _)
  refine ⟨htot, us ++ [endTok (bs (sh ts))], by rw [h4, List.nil_append], ?_, by omega⟩
  rw [h1, List.map_append, List.map_append, h5]; rfl
end Go.Proofs.YtljkaaliagppdaaDoor
