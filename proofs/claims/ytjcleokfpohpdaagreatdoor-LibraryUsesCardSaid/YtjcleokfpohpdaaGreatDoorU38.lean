/-
  The token that begins at a place of a text, as At of the reference tells it. (the reference)
  Scan of the reference, walked: it answers what the scan of the text tells. (the reference)
-/
import Derived.Test.YtjcleokfpohpdaaGreatDoorU03
import Derived.Test.YtjcleokfpohpdaaGreatDoorU37
import Derived.Test.YtjcleokfpohpdaaGreatDoorU04
import Derived.Lib.Hide
import Derived.WalkKit
import Derived.WalkSpells
namespace Go.Proofs.YtjcleokfpohpdaaGreatDoor
open Go.RowKit
set_option maxRecDepth 100000 in
set_option maxHeartbeats 4000000 in
theorem at_36 (s:ByteArray) (i:Nat) (h0:i < s.size) (hs:s.size≤1000000) (hby:(s[i].toNat:Int)=36) (w:World) :
    Calls Tryz.prog 108 #[.string s,.int .i64 i] w (TokAtPost s i w):=by
  have hi:(i:Int) < (s.size:Int):=by omega
  have hh:=head_at h0
  have hle:=run_le s (i:=i + 1) (by omega)
  obtain ⟨m,hm⟩:∃ m,m=run s (i + 1):=⟨_,rfl⟩
  have hms:i + 1 + m≤s.size:=by omega
  have L1:=Lib.hid (fun w=>long_any s ((i:Int) + 1) (i + 1) m (by omega) hm (by omega) (by omega) w)
  have hx1:=text_next s i
  have hr1:=run_next s i
  rw [← hm] at hx1 hr1
  obtain ⟨c,hc⟩:∃ c,c=cls (s[i].toNat:Int):=⟨_,rfl⟩
  have CL:=Lib.hid (fun w=>(rclass_any (s[i].toNat:Int) w).mono fun e w' h=>(show e=.returned (.int .i64 c)∧w=w' by rw [hc];exact h))
  have N:=Lib.hid (fun x w=>rnumber_any x w)
  clear hle hm hc
  have hq:((s[i].toNat:Int)==36)=true:=by rw [beq_iff_eq];exact hby
  have hq2:((s[i].toNat:Int)==37)=false:=by rw [beq_eq_false_iff_ne];omega
  have ht:=tokL_36 (l:=s.data.toList.drop i) (by rw [hh];exact hby)
  rw [← hr1,← hx1] at ht
  obtain ⟨x,hx⟩:∃ x,x=s.extract (i + 1) (i + 1 + m):=⟨_,rfl⟩
  rw [← hx] at ht
  have HX:=Lib.hid hx
  have hnv:=numVal_bd x.data.toList
  have hE:numEnd x=.returned (.tuple #[.int .i64 (numVal x.data.toList),.bool (isNum x.data.toList)]):=rfl
  have HTk:=Lib.hid ht
  clear hx hx1 hr1 hh ht hby
  cases hnum:isNum x.data.toList with
  | false =>
    have HA:=Lib.hid (show ∀ k y n a,AtSays s i k y n a false from fun k y n a=>by
      unfold AtSays;rw [HTk.out];unfold numCut;rw [if_neg (by rw [hnum];simp)])
    rw [hnum] at hE
    have E:=Lib.hid hE
    clear hE hnum
    go_enter Tryz.func108,Tryz.ntmps108
    go_wp2_with fail
    refine (CL.out _).mono ?_;rintro e w1 ⟨rfl,rfl⟩
    go_wp2_with fail
    refine (L1.out _).mono ?_;rintro e w1 ⟨rfl,rfl⟩
    go_wp2_with fail
    rw [← HX.out]
    refine (N.out _ _).mono ?_;rintro e w1 ⟨rfl,hb⟩
    rw [E.out]
    obtain ⟨c0,c1,c2,c3,f0,f1,f2,f3⟩:=box_after hb
    replace hb:=below_box hb
    go_wp2_with fail
    exact bodyPost_ret (v:=.tuple #[.agg #[.int .i64 0,.string ⟨#[]⟩,.int .i64 0,.int .i64 0],.bool false]) (by simp [results,Tryz.results108,go_sem,c0,c1,c2,c3]) rfl ⟨_,_,_,_,_,rfl,HA.out _ _ _ _,(((hb.setCell (Nat.le_refl _) _).setCell (Nat.le_refl _) _).setCell (Nat.le_refl _) _).setCell (Nat.le_refl _) _⟩
  | true =>
    rw [hnum] at hE
    have E:=Lib.hid hE
    clear hE
    by_cases hlt:numVal x.data.toList < 1
    · have hz:(numVal x.data.toList==0)=true:=by rw [beq_iff_eq];omega
      have HA:=Lib.hid (show ∀ k y n a,AtSays s i k y n a false from fun k y n a=>by
        unfold AtSays;rw [HTk.out];unfold numCut;rw [if_neg];rintro ⟨_,h⟩;exact h hlt)
      clear hnum
      obtain ⟨v,hv⟩:∃ v,v=numVal x.data.toList:=⟨_,rfl⟩
      rw [← hv] at hlt E hnv hz
      have HV:=Lib.hid hv
      clear hv
      go_enter Tryz.func108,Tryz.ntmps108
      go_wp2_with fail
      refine (CL.out _).mono ?_;rintro e w1 ⟨rfl,rfl⟩
      go_wp2_with fail
      refine (L1.out _).mono ?_;rintro e w1 ⟨rfl,rfl⟩
      go_wp2_with fail
      rw [← HX.out]
      refine (N.out _ _).mono ?_;rintro e w1 ⟨rfl,hb⟩
      rw [E.out]
      obtain ⟨c0,c1,c2,c3,f0,f1,f2,f3⟩:=box_after hb
      replace hb:=below_box hb
      go_wp2_with fail
      exact bodyPost_ret (v:=.tuple #[.agg #[.int .i64 0,.string ⟨#[]⟩,.int .i64 0,.int .i64 0],.bool false]) (by simp [results,Tryz.results108,go_sem,c0,c1,c2,c3]) rfl ⟨_,_,_,_,_,rfl,HA.out _ _ _ _,(((hb.setCell (Nat.le_refl _) _).setCell (Nat.le_refl _) _).setCell (Nat.le_refl _) _).setCell (Nat.le_refl _) _⟩
    · have hz:(numVal x.data.toList==0)=false:=by rw [beq_eq_false_iff_ne];omega
      have HA:=Lib.hid (show AtSays s i 4 (s.extract i (i + 1 + m)) (numVal x.data.toList) i true from by
        unfold AtSays;rw [HTk.out];unfold numCut;rw [if_pos ⟨hnum,hlt⟩];exact ⟨rfl,rfl,by rw [Nat.add_assoc],rfl,rfl⟩)
      clear hnum
      obtain ⟨v,hv⟩:∃ v,v=numVal x.data.toList:=⟨_,rfl⟩
      rw [← hv] at hlt E hnv hz HA
      have HV:=Lib.hid hv
      clear hv
      go_enter Tryz.func108,Tryz.ntmps108
      go_wp2_with fail
      refine (CL.out _).mono ?_;rintro e w1 ⟨rfl,rfl⟩
      go_wp2_with fail
      refine (L1.out _).mono ?_;rintro e w1 ⟨rfl,rfl⟩
      go_wp2_with fail
      rw [← HX.out]
      refine (N.out _ _).mono ?_;rintro e w1 ⟨rfl,hb⟩
      rw [E.out]
      obtain ⟨c0,c1,c2,c3,f0,f1,f2,f3⟩:=box_after hb
      replace hb:=below_box hb
      go_wp2_with fail
      exact bodyPost_ret (v:=.tuple #[.agg #[.int .i64 4,.string (s.extract i (i + 1 + m)),.int .i64 v,.int .i64 i],.bool true]) (by simp [results,Tryz.results108,go_sem,c0,c1,c2,c3]) rfl ⟨_,_,_,_,_,rfl,HA.out,(((hb.setCell (Nat.le_refl _) _).setCell (Nat.le_refl _) _).setCell (Nat.le_refl _) _).setCell (Nat.le_refl _) _⟩
set_option maxRecDepth 100000 in
set_option maxHeartbeats 4000000 in
theorem at_37 (s:ByteArray) (i:Nat) (h0:i < s.size) (hs:s.size≤1000000) (hby:(s[i].toNat:Int)=37) (w:World) :
    Calls Tryz.prog 108 #[.string s,.int .i64 i] w (TokAtPost s i w):=by
  have hi:(i:Int) < (s.size:Int):=by omega
  have hh:=head_at h0
  have hle:=run_le s (i:=i + 1) (by omega)
  obtain ⟨m,hm⟩:∃ m,m=run s (i + 1):=⟨_,rfl⟩
  have hms:i + 1 + m≤s.size:=by omega
  have L1:=Lib.hid (fun w=>long_any s ((i:Int) + 1) (i + 1) m (by omega) hm (by omega) (by omega) w)
  have hx1:=text_next s i
  have hr1:=run_next s i
  rw [← hm] at hx1 hr1
  obtain ⟨c,hc⟩:∃ c,c=cls (s[i].toNat:Int):=⟨_,rfl⟩
  have CL:=Lib.hid (fun w=>(rclass_any (s[i].toNat:Int) w).mono fun e w' h=>(show e=.returned (.int .i64 c)∧w=w' by rw [hc];exact h))
  have N:=Lib.hid (fun x w=>rnumber_any x w)
  clear hle hm hc
  have hq:((s[i].toNat:Int)==36)=false:=by rw [beq_eq_false_iff_ne];omega
  have hq2:((s[i].toNat:Int)==37)=true:=by rw [beq_iff_eq];exact hby
  have ht:=tokL_37 (l:=s.data.toList.drop i) (by rw [hh];exact hby)
  rw [← hr1,← hx1] at ht
  obtain ⟨x,hx⟩:∃ x,x=s.extract (i + 1) (i + 1 + m):=⟨_,rfl⟩
  rw [← hx] at ht
  have HX:=Lib.hid hx
  have hnv:=numVal_bd x.data.toList
  have hE:numEnd x=.returned (.tuple #[.int .i64 (numVal x.data.toList),.bool (isNum x.data.toList)]):=rfl
  have HTk:=Lib.hid ht
  clear hx hx1 hr1 hh ht hby
  cases hnum:isNum x.data.toList with
  | false =>
    have HA:=Lib.hid (show ∀ k y n a,AtSays s i k y n a false from fun k y n a=>by
      unfold AtSays;rw [HTk.out];unfold numCut;rw [if_neg (by rw [hnum];simp)])
    rw [hnum] at hE
    have E:=Lib.hid hE
    clear hE hnum
    go_enter Tryz.func108,Tryz.ntmps108
    go_wp2_with fail
    refine (CL.out _).mono ?_;rintro e w1 ⟨rfl,rfl⟩
    go_wp2_with fail
    refine (L1.out _).mono ?_;rintro e w1 ⟨rfl,rfl⟩
    go_wp2_with fail
    rw [← HX.out]
    refine (N.out _ _).mono ?_;rintro e w1 ⟨rfl,hb⟩
    rw [E.out]
    obtain ⟨c0,c1,c2,c3,f0,f1,f2,f3⟩:=box_after hb
    replace hb:=below_box hb
    go_wp2_with fail
    exact bodyPost_ret (v:=.tuple #[.agg #[.int .i64 0,.string ⟨#[]⟩,.int .i64 0,.int .i64 0],.bool false]) (by simp [results,Tryz.results108,go_sem,c0,c1,c2,c3]) rfl ⟨_,_,_,_,_,rfl,HA.out _ _ _ _,(((hb.setCell (Nat.le_refl _) _).setCell (Nat.le_refl _) _).setCell (Nat.le_refl _) _).setCell (Nat.le_refl _) _⟩
  | true =>
    rw [hnum] at hE
    have E:=Lib.hid hE
    clear hE
    by_cases hlt:numVal x.data.toList < 0
    · have hz:(numVal x.data.toList==0)=true:=by rw [beq_iff_eq];omega
      have HA:=Lib.hid (show ∀ k y n a,AtSays s i k y n a false from fun k y n a=>by
        unfold AtSays;rw [HTk.out];unfold numCut;rw [if_neg];rintro ⟨_,h⟩;exact h hlt)
      clear hnum
      obtain ⟨v,hv⟩:∃ v,v=numVal x.data.toList:=⟨_,rfl⟩
      rw [← hv] at hlt E hnv hz
      have HV:=Lib.hid hv
      clear hv
      exfalso;omega
    · have HA:=Lib.hid (show AtSays s i 5 (s.extract i (i + 1 + m)) (numVal x.data.toList) i true from by
        unfold AtSays;rw [HTk.out];unfold numCut;rw [if_pos ⟨hnum,hlt⟩];exact ⟨rfl,rfl,by rw [Nat.add_assoc],rfl,rfl⟩)
      clear hnum
      obtain ⟨v,hv⟩:∃ v,v=numVal x.data.toList:=⟨_,rfl⟩
      rw [← hv] at hlt E hnv HA
      have HV:=Lib.hid hv
      clear hv
      go_enter Tryz.func108,Tryz.ntmps108
      go_wp2_with fail
      refine (CL.out _).mono ?_;rintro e w1 ⟨rfl,rfl⟩
      go_wp2_with fail
      refine (L1.out _).mono ?_;rintro e w1 ⟨rfl,rfl⟩
      go_wp2_with fail
      rw [← HX.out]
      refine (N.out _ _).mono ?_;rintro e w1 ⟨rfl,hb⟩
      rw [E.out]
      obtain ⟨c0,c1,c2,c3,f0,f1,f2,f3⟩:=box_after hb
      replace hb:=below_box hb
      go_wp2_with fail
      exact bodyPost_ret (v:=.tuple #[.agg #[.int .i64 5,.string (s.extract i (i + 1 + m)),.int .i64 v,.int .i64 i],.bool true]) (by simp [results,Tryz.results108,go_sem,c0,c1,c2,c3]) rfl ⟨_,_,_,_,_,rfl,HA.out,(((hb.setCell (Nat.le_refl _) _).setCell (Nat.le_refl _) _).setCell (Nat.le_refl _) _).setCell (Nat.le_refl _) _⟩
set_option maxRecDepth 100000 in
set_option maxHeartbeats 4000000 in
theorem at_sign (s:ByteArray) (i:Nat) (h0:i < s.size) (hs:s.size≤1000000) (h36:¬ (s[i].toNat:Int)=36) (h37:¬ (s[i].toNat:Int)=37) (hcl:cls (s[i].toNat:Int)=4) (w:World) :
    Calls Tryz.prog 108 #[.string s,.int .i64 i] w (TokAtPost s i w):=by
  have hi:(i:Int) < (s.size:Int):=by omega
  have hh:=head_at h0
  have hq:((s[i].toNat:Int)==36)=false:=by rw [beq_eq_false_iff_ne];exact h36
  have hq2:((s[i].toNat:Int)==37)=false:=by rw [beq_eq_false_iff_ne];exact h37
  obtain ⟨c,hc⟩:∃ c,c=cls (s[i].toNat:Int):=⟨_,rfl⟩
  have CL:=Lib.hid (fun w=>(rclass_any (s[i].toNat:Int) w).mono fun e w' h=>(show e=.returned (.int .i64 c)∧w=w' by rw [hc];exact h))
  rw [← hc] at hcl
  have ht:=tokL_sign (l:=s.data.toList.drop i) (by rw [hh];exact h36) (by rw [hh];exact h37) (by rw [hh,← hc];exact hcl)
  have HA:=Lib.hid (show AtSays s i 6 (s.extract i (i + 1)) 0 i true from by unfold AtSays;rw [ht];exact ⟨rfl,rfl,rfl,rfl,rfl⟩)
  subst hcl
  clear hc hh ht h36 h37
  go_enter Tryz.func108,Tryz.ntmps108
  go_wp2_with fail
  refine (CL.out _).mono ?_;rintro e w1 ⟨rfl,rfl⟩
  go_wp2_with fail
  exact bodyPost_ret (v:=.tuple #[.agg #[.int .i64 6,.string (s.extract i (i + 1)),.int .i64 0,.int .i64 i],.bool true]) (by simp [results,Tryz.results108,go_sem]) rfl ⟨_,_,_,_,_,rfl,HA.out,(Below.refl _ _).alloc (Nat.le_refl _) _⟩
set_option maxRecDepth 100000 in
set_option maxHeartbeats 4000000 in
theorem at_none (s:ByteArray) (i:Nat) (h0:i < s.size) (_hs:s.size≤1000000) (h36:¬ (s[i].toNat:Int)=36) (h37:¬ (s[i].toNat:Int)=37) (hcl:cls (s[i].toNat:Int)=0∨cls (s[i].toNat:Int)=5) (w:World) :
    Calls Tryz.prog 108 #[.string s,.int .i64 i] w (TokAtPost s i w):=by
  have hi:(i:Int) < (s.size:Int):=by omega
  have hh:=head_at h0
  have hq:((s[i].toNat:Int)==36)=false:=by rw [beq_eq_false_iff_ne];exact h36
  have hq2:((s[i].toNat:Int)==37)=false:=by rw [beq_eq_false_iff_ne];exact h37
  obtain ⟨c,hc⟩:∃ c,c=cls (s[i].toNat:Int):=⟨_,rfl⟩
  have CL:=Lib.hid (fun w=>(rclass_any (s[i].toNat:Int) w).mono fun e w' h=>(show e=.returned (.int .i64 c)∧w=w' by rw [hc];exact h))
  have ht:=tokL_none (l:=s.data.toList.drop i) (by rw [hh];exact hcl)
  have HA:=Lib.hid (show ∀ k y n a,AtSays s i k y n a false from fun k y n a=>by unfold AtSays;rw [ht])
  rw [← hc] at hcl
  clear hc hh ht h36 h37
  rcases hcl with rfl | rfl
  all_goals
    go_enter Tryz.func108,Tryz.ntmps108
    go_wp2_with fail
    refine (CL.out _).mono ?_;rintro e w1 ⟨rfl,rfl⟩
    go_wp2_with fail
    exact bodyPost_ret (v:=.tuple #[.agg #[.int .i64 0,.string ⟨#[]⟩,.int .i64 0,.int .i64 0],.bool false]) (by simp [results,Tryz.results108,go_sem]) rfl ⟨_,_,_,_,_,rfl,HA.out _ _ _ _,(Below.refl _ _).alloc (Nat.le_refl _) _⟩
set_option maxRecDepth 100000 in
set_option maxHeartbeats 4000000 in
theorem at_digit (s:ByteArray) (i:Nat) (h0:i < s.size) (hs:s.size≤1000000) (h36:¬ (s[i].toNat:Int)=36) (h37:¬ (s[i].toNat:Int)=37) (hcl:cls (s[i].toNat:Int)=3) (w:World) :
    Calls Tryz.prog 108 #[.string s,.int .i64 i] w (TokAtPost s i w):=by
  have hi:(i:Int) < (s.size:Int):=by omega
  have hh:=head_at h0
  have hle0:=run_le s (i:=i) (by omega)
  obtain ⟨m,hm⟩:∃ m,m=run s i:=⟨_,rfl⟩
  have hms:i + m≤s.size:=by omega
  have L0:=Lib.hid (fun w=>long_any s (i:Int) i m rfl hm (by omega) (by omega) w)
  have hx0:=text_at s i
  have hr0:=run_at s i
  rw [← hm] at hx0 hr0
  have hq:((s[i].toNat:Int)==36)=false:=by rw [beq_eq_false_iff_ne];exact h36
  have hq2:((s[i].toNat:Int)==37)=false:=by rw [beq_eq_false_iff_ne];exact h37
  obtain ⟨c,hc⟩:∃ c,c=cls (s[i].toNat:Int):=⟨_,rfl⟩
  have CL:=Lib.hid (fun w=>(rclass_any (s[i].toNat:Int) w).mono fun e w' h=>(show e=.returned (.int .i64 c)∧w=w' by rw [hc];exact h))
  have N:=Lib.hid (fun x w=>rnumber_any x w)
  have ht:=tokL_digit (l:=s.data.toList.drop i) (by rw [hh];exact hcl)
  rw [← hr0,← hx0] at ht
  rw [← hc] at hcl
  obtain ⟨x,hx⟩:∃ x,x=s.extract i (i + m):=⟨_,rfl⟩
  rw [← hx] at ht
  have hnv:=numVal_bd x.data.toList
  have hE:numEnd x=.returned (.tuple #[.int .i64 (numVal x.data.toList),.bool (isNum x.data.toList)]):=rfl
  have HA:AtSays s i 3 x (numVal x.data.toList) i (isNum x.data.toList):=by
    unfold AtSays;rw [ht];unfold numCut
    cases hn:isNum x.data.toList with
    | true=>rw [if_pos ⟨rfl,by omega⟩];exact ⟨rfl,rfl,hx,rfl,rfl⟩
    | false=>rw [if_neg (by rintro ⟨h,_⟩;cases h)]
  have E:=Lib.hid hE
  have HX:=Lib.hid hx
  obtain ⟨v,hv⟩:∃ v,v=numVal x.data.toList:=⟨_,rfl⟩
  obtain ⟨b,hbb⟩:∃ b,b=isNum x.data.toList:=⟨_,rfl⟩
  rw [← hv] at E hnv HA
  rw [← hbb] at E HA
  have HA:=Lib.hid HA
  subst hcl
  clear hle0 hc hh ht h36 h37 hx hE hv hbb hx0 hr0 hm
  go_enter Tryz.func108,Tryz.ntmps108
  go_wp2_with fail
  refine (CL.out _).mono ?_;rintro e w1 ⟨rfl,rfl⟩
  go_wp2_with fail
  refine (L0.out _).mono ?_;rintro e w1 ⟨rfl,rfl⟩
  go_wp2_with fail
  rw [← HX.out]
  refine (N.out _ _).mono ?_;rintro e w1 ⟨rfl,hb⟩
  rw [E.out]
  obtain ⟨c0,c1,c2,c3,f0,f1,f2,f3⟩:=box_after hb
  replace hb:=below_box hb
  go_wp2_with fail
  exact bodyPost_ret (v:=.tuple #[.agg #[.int .i64 3,.string x,.int .i64 v,.int .i64 i],.bool b]) (by simp [results,Tryz.results108,go_sem,c0,c1,c2,c3]) rfl ⟨_,_,_,_,_,rfl,HA.out,(((hb.setCell (Nat.le_refl _) _).setCell (Nat.le_refl _) _).setCell (Nat.le_refl _) _).setCell (Nat.le_refl _) _⟩
set_option maxRecDepth 100000 in
set_option maxHeartbeats 8000000 in
theorem at_word (s:ByteArray) (i:Nat) (h0:i < s.size) (hs:s.size≤1000000) (h36:¬ (s[i].toNat:Int)=36) (h37:¬ (s[i].toNat:Int)=37) (hcl:cls (s[i].toNat:Int)=1∨cls (s[i].toNat:Int)=2) (w:World) :
    Calls Tryz.prog 108 #[.string s,.int .i64 i] w (TokAtPost s i w):=by
  have hi:(i:Int) < (s.size:Int):=by omega
  have hh:=head_at h0
  have hle0:=run_le s (i:=i) (by omega)
  obtain ⟨m,hm⟩:∃ m,m=run s i:=⟨_,rfl⟩
  have hms:i + m≤s.size:=by omega
  have L0:=Lib.hid (fun w=>long_any s (i:Int) i m rfl hm (by omega) (by omega) w)
  have hx0:=text_at s i
  have hr0:=run_at s i
  rw [← hm] at hx0 hr0
  have hq:((s[i].toNat:Int)==36)=false:=by rw [beq_eq_false_iff_ne];exact h36
  have hq2:((s[i].toNat:Int)==37)=false:=by rw [beq_eq_false_iff_ne];exact h37
  obtain ⟨c,hc⟩:∃ c,c=cls (s[i].toNat:Int):=⟨_,rfl⟩
  have CL:=Lib.hid (fun w=>(rclass_any (s[i].toNat:Int) w).mono fun e w' h=>(show e=.returned (.int .i64 c)∧w=w' by rw [hc];exact h))
  have N:=Lib.hid (fun x w=>rnumber_any x w)
  have ht:=tokL_word (l:=s.data.toList.drop i) (by rw [hh];exact hcl)
  obtain ⟨x,hx⟩:∃ x,x=s.extract i (i + m):=⟨_,rfl⟩
  rw [← hr0,← hx0,bs_list,← hx] at ht
  rw [← hc] at hcl
  have hxs:x.size≤1000000:=by rw [hx];simp;omega
  have HTk:=Lib.hid ht
  have HX:=Lib.hid hx
  have U:=Lib.hid (fun w=>rupper_any x (by omega) w)
  have W:=Lib.hid (fun w=>rword_any x (by omega) w)
  have K:=Lib.hid (fun w=>rkeys_any w)
  have I:=Lib.hid (fun v w hv=>rin_any v keyList x w hv)
  have hE:numEnd x=.returned (.tuple #[.int .i64 (numVal x.data.toList),.bool (isNum x.data.toList)]):=rfl
  have E:=Lib.hid hE
  generalize numVal x.data.toList=v at E
  generalize isNum x.data.toList=b at E
  clear hle0 hc hh ht h36 h37 hx hE hx0 hr0 hm
  cases hu:upperB x with
  | true =>
    have HA:=Lib.hid (show AtSays s i 2 x 0 i true from by unfold AtSays;rw [HTk.out];unfold wordCut;rw [if_pos hu];exact ⟨rfl,rfl,HX.out,rfl,rfl⟩)
    rw [hu] at U
    clear hu
    rcases hcl with rfl | rfl
    all_goals
      go_enter Tryz.func108,Tryz.ntmps108
      go_wp2_with fail
      refine (CL.out _).mono ?_;rintro e w1 ⟨rfl,rfl⟩
      go_wp2_with fail
      refine (L0.out _).mono ?_;rintro e w1 ⟨rfl,rfl⟩
      go_wp2_with fail
      rw [← HX.out]
      refine (N.out _ _).mono ?_;rintro e w1 ⟨rfl,hb⟩
      rw [E.out]
      obtain ⟨hx,hb,hlt⟩:=below_box' (box_new _ _ _ _ _ _) hb
      go_wp2_with fail
      refine (U.out _).mono ?_;rintro e w2 ⟨rfl,hb2⟩
      replace hx:=hx.below hb2 hlt
      replace hlt:=Nat.lt_of_lt_of_le hlt hb2.size
      replace hb:=hb.trans (hb2.mono hb.size)
      clear hb2
      obtain ⟨c0,c1,c2,c3,f0,f1,f2,f3⟩:=hx
      go_wp2_with fail
      exact bodyPost_ret (v:=.tuple #[.agg #[.int .i64 2,.string x,.int .i64 0,.int .i64 i],.bool true]) (by simp [results,Tryz.results108,go_sem,c0,c1,c2,c3]) rfl ⟨_,_,_,_,_,rfl,HA.out,(((hb.setCell (Nat.le_refl _) _).setCell (Nat.le_refl _) _).setCell (Nat.le_refl _) _).setCell (Nat.le_refl _) _⟩
  | false =>
    cases hw:wordB x with
    | true =>
      have HA:=Lib.hid (show AtSays s i 1 x 0 i true from by unfold AtSays;rw [HTk.out];unfold wordCut;rw [if_neg (by rw [hu];simp),if_pos (.inl hw)];exact ⟨rfl,rfl,HX.out,rfl,rfl⟩)
      rw [hu] at U
      rw [hw] at W
      clear hu hw
      rcases hcl with rfl | rfl
      all_goals
        go_enter Tryz.func108,Tryz.ntmps108
        go_wp2_with fail
        refine (CL.out _).mono ?_;rintro e w1 ⟨rfl,rfl⟩
        go_wp2_with fail
        refine (L0.out _).mono ?_;rintro e w1 ⟨rfl,rfl⟩
        go_wp2_with fail
        rw [← HX.out]
        refine (N.out _ _).mono ?_;rintro e w1 ⟨rfl,hb⟩
        rw [E.out]
        obtain ⟨hx,hb,hlt⟩:=below_box' (box_new _ _ _ _ _ _) hb
        go_wp2_with fail
        refine (U.out _).mono ?_;rintro e w2 ⟨rfl,hb2⟩
        replace hx:=hx.below hb2 hlt
        replace hlt:=Nat.lt_of_lt_of_le hlt hb2.size
        replace hb:=hb.trans (hb2.mono hb.size)
        clear hb2
        go_wp2_with fail
        refine (W.out _).mono ?_;rintro e w3 ⟨rfl,hb2⟩
        replace hx:=hx.below hb2 hlt
        replace hlt:=Nat.lt_of_lt_of_le hlt hb2.size
        replace hb:=hb.trans (hb2.mono hb.size)
        clear hb2
        obtain ⟨c0,c1,c2,c3,f0,f1,f2,f3⟩:=hx
        go_wp2_with fail
        exact bodyPost_ret (v:=.tuple #[.agg #[.int .i64 1,.string x,.int .i64 0,.int .i64 i],.bool true]) (by simp [results,Tryz.results108,go_sem,c0,c1,c2,c3]) rfl ⟨_,_,_,_,_,rfl,HA.out,(((hb.setCell (Nat.le_refl _) _).setCell (Nat.le_refl _) _).setCell (Nat.le_refl _) _).setCell (Nat.le_refl _) _⟩
    | false =>
      have HA:AtSays s i 1 x 0 i (Lib.containsS keyList x):=by
        unfold AtSays;rw [HTk.out];unfold wordCut;rw [if_neg (by rw [hu];simp)]
        cases hk:Lib.containsS keyList x with
        | true=>rw [if_pos (.inr rfl)];exact ⟨rfl,rfl,HX.out,rfl,rfl⟩
        | false=>rw [if_neg (by rw [hw];simp)]
      rw [hu] at U
      rw [hw] at W
      generalize Lib.containsS keyList x=z at HA I
      have HA:=Lib.hid HA
      clear hu hw
      rcases hcl with rfl | rfl
      all_goals
        go_enter Tryz.func108,Tryz.ntmps108
        go_wp2_with fail
        refine (CL.out _).mono ?_;rintro e w1 ⟨rfl,rfl⟩
        go_wp2_with fail
        refine (L0.out _).mono ?_;rintro e w1 ⟨rfl,rfl⟩
        go_wp2_with fail
        rw [← HX.out]
        refine (N.out _ _).mono ?_;rintro e w1 ⟨rfl,hb⟩
        rw [E.out]
        obtain ⟨hx,hb,hlt⟩:=below_box' (box_new _ _ _ _ _ _) hb
        go_wp2_with fail
        refine (U.out _).mono ?_;rintro e w2 ⟨rfl,hb2⟩
        replace hx:=hx.below hb2 hlt
        replace hlt:=Nat.lt_of_lt_of_le hlt hb2.size
        replace hb:=hb.trans (hb2.mono hb.size)
        clear hb2
        go_wp2_with fail
        refine (W.out _).mono ?_;rintro e w3 ⟨rfl,hb2⟩
        replace hx:=hx.below hb2 hlt
        replace hlt:=Nat.lt_of_lt_of_le hlt hb2.size
        replace hb:=hb.trans (hb2.mono hb.size)
        clear hb2
        go_wp2_with fail
        refine (K.out _).mono ?_;rintro e w4 ⟨kv,rfl,hkv,hb2⟩
        replace hx:=hx.below hb2 hlt
        replace hlt:=Nat.lt_of_lt_of_le hlt hb2.size
        replace hb:=hb.trans (hb2.mono hb.size)
        clear hb2
        have I1:=Lib.hid (I.out _ _ hkv)
        clear hkv
        go_wp2_with fail
        refine I1.out.mono ?_;rintro e w5 ⟨rfl,rfl⟩
        obtain ⟨c0,c1,c2,c3,f0,f1,f2,f3⟩:=hx
        go_wp2_with fail
        exact bodyPost_ret (v:=.tuple #[.agg #[.int .i64 1,.string x,.int .i64 0,.int .i64 i],.bool z]) (by simp [results,Tryz.results108,go_sem,c0,c1,c2,c3]) rfl ⟨_,_,_,_,_,rfl,HA.out,(((hb.setCell (Nat.le_refl _) _).setCell (Nat.le_refl _) _).setCell (Nat.le_refl _) _).setCell (Nat.le_refl _) _⟩
theorem at_fn (s:ByteArray) (i:Nat) (h0:i < s.size) (hs:s.size≤1000000) (w:World) :
    Calls Tryz.prog 108 #[.string s,.int .i64 i] w (TokAtPost s i w):=by
  by_cases h36:(s[i].toNat:Int)=36
  · exact at_36 s i h0 hs h36 w
  · by_cases h37:(s[i].toNat:Int)=37
    · exact at_37 s i h0 hs h37 w
    · have hbd:=cls_bd (s[i].toNat:Int)
      rcases (show cls (s[i].toNat:Int)=4∨cls (s[i].toNat:Int)=3∨(cls (s[i].toNat:Int)=1∨cls (s[i].toNat:Int)=2)∨(cls (s[i].toNat:Int)=0∨cls (s[i].toNat:Int)=5) from by omega) with h | h | h | h
      · exact at_sign s i h0 hs h36 h37 h w
      · exact at_digit s i h0 hs h36 h37 h w
      · exact at_word s i h0 hs h36 h37 h w
      · exact at_none s i h0 hs h36 h37 h w
end Go.Proofs.YtjcleokfpohpdaaGreatDoor
namespace Go.Proofs.YtjcleokfpohpdaaGreatDoor
open Go.RowKit
set_option maxRecDepth 100000 in
set_option maxHeartbeats 4000000 in
theorem rscan_any (s:ByteArray) (hs:s.size≤1000000) (w:World) :
    Calls Tryz.prog 58 #[.string s] w (ScanPost s w):=by
  obtain ⟨i0,hi,hz0,hz1,hz2⟩:=info_parts tokInfo
  by_cases h8:s.size≤8192
  · have h8':(s.size:Int)≤8192:=by omega
    have CL:=Lib.hid (fun b w=>rclass_any b w)
    have AT:=Lib.hid (fun i h0 w=>at_fn s i h0 hs w)
    go_enter Tryz.func58,Tryz.ntmps58
    go_wp2
    go_loopw [4,5] (fun o j wr=>∃ (i:Nat) (acc:List Tok),j=.int .i64 i∧wr.ownsRow (w.heap.size + 1) 129 4 o acc.length (rowOf acc)∧ScanTo s i acc∧Below (w.heap.size + 1) (w.alloc (.cells #[.int .i64 0,.int .i64 0] 34)) wr) (fun _ j _=>s.size - (intOf j).toNat)
    case atStart=>exact ⟨0,[],rfl,World.ownsRow_nil _ _ _ _,scan_start s,Below.refl _ _⟩
    case round =>
      obtain ⟨i,acc,rfl,hown,hscan,hb⟩:=hrel
      have hbs:=hb.size
      simp at hbs
      by_cases hlt:i < s.size
      · have hil:(i:Int) < (s.size:Int):=by omega
        by_cases h5:cls (s[i].toNat:Int)=5
        · have C:=Lib.hid (fun w=>(CL.out (s[i].toNat:Int) w).mono fun e w' h=>(show e=.returned (.int .i64 5)∧w=w' by rw [← h5];exact h))
          have H:=scan_space hscan hlt h5
          clear h5 hscan
          have H:=Lib.hid H
          go_wp2_with fail
          refine (C.out _).mono ?_;rintro e w1 ⟨rfl,rfl⟩
          go_wp2_with fail
          go_roundw
          case rel=>exact ⟨i + 1,acc,by go_num,hown,H.out,hb⟩
          case measure=>simp [intOf];omega
        · obtain ⟨c,hc⟩:∃ c,c=cls (s[i].toNat:Int):=⟨_,rfl⟩
          have C:=Lib.hid (fun w=>(CL.out (s[i].toNat:Int) w).mono fun e w' h=>(show e=.returned (.int .i64 c)∧w=w' by rw [hc];exact h))
          have hc5:(c==5)=false:=by rw [beq_eq_false_iff_ne,hc];exact h5
          by_cases h35:(s[i].toNat:Int)=35
          · have hq:((s[i].toNat:Int)==35)=true:=by rw [beq_iff_eq];exact h35
            have H:=Lib.hid (scan_remark hscan hlt h35)
            have hle:=rem_le s (i:=i) (by omega)
            have hps:=rem_pos hlt h35
            obtain ⟨m,hm⟩:∃ m,m=i + rem s i:=⟨_,rfl⟩
            rw [← hm] at hle
            have hps:i < m:=by omega
            have HM:=Lib.hid hm
            clear h35 h5 hc hscan hm
            go_wp2_with fail
            refine (C.out _).mono ?_;rintro e w1 ⟨rfl,rfl⟩
            go_wp2_with fail
            go_loop [5] (fun j=>∃ k:Nat,k≤m∧j=.int .i64 k∧Hid (m=k + rem s k)) (fun j=>s.size - (intOf j).toNat)
            case atStart=>exact ⟨i,by omega,rfl,Lib.hid HM.out⟩
            case round =>
              obtain ⟨k,hk,rfl,HK⟩:=hrel
              by_cases hkl:k < m
              · have hks:(k:Int) < (s.size:Int):=by omega
                have hks':k < s.size:=by omega
                have hn:((s[k].toNat:Int)==10)=false:=by
                  cases hn:((s[k].toNat:Int)==10) with
                  | true=>have:=rem_none s hks' hn;have:=HK.out;omega
                  | false=>rfl
                have HR:=Lib.hid (rem_some s hks' hn)
                have hnl:((s[k].toNat:Int) != 10)=true:=by rw [bne,hn];rfl
                clear hn
                go_wp2_with fail
                go_round
                case rel=>exact ⟨k + 1,by omega,by go_num,Lib.hid (by have:=HR.out;have:=HK.out;omega)⟩
                case measure=>simp [intOf];omega
              · obtain rfl:k=m:=by omega
                by_cases hks:k < s.size
                · have hks2:(k:Int) < (s.size:Int):=by omega
                  have hnl:((s[k].toNat:Int) != 10)=false:=by
                    cases hn:((s[k].toNat:Int)==10) with
                    | true=>rw [bne,hn];rfl
                    | false=>have:=rem_some s hks hn;have:=HK.out;omega
                  go_wp2_with fail
                  go_roundw
                  case rel=>exact ⟨k,acc,rfl,hown,by rw [HM.out];exact H.out,hb⟩
                  case measure=>simp [intOf];omega
                · have hks2:¬ (k:Int) < (s.size:Int):=by omega
                  go_wp2_with fail
                  go_roundw
                  case rel=>exact ⟨k,acc,rfl,hown,by rw [HM.out];exact H.out,hb⟩
                  case measure=>simp [intOf];omega
          · have hq:((s[i].toNat:Int)==35)=false:=by rw [beq_eq_false_iff_ne];exact h35
            have A:=Lib.hid (fun w=>AT.out i hlt w)
            cases htok:tokL (s.data.toList.drop i) with
            | none =>
              have HB:=Lib.hid (out_bad h8 (scan_bad hscan hlt h5 h35 htok))
              have HT:=Lib.hid htok
              clear h35 h5 hc hscan htok hown
              go_wp2_with fail
              refine (C.out _).mono ?_;rintro e w1 ⟨rfl,rfl⟩
              go_wp2_with fail
              refine (A.out _).mono ?_;rintro e w2 ⟨k,x,n,a,b,rfl,hsays,hb2⟩
              obtain rfl:b=false:=by unfold AtSays at hsays;rw [HT.out] at hsays;exact hsays
              clear hsays
              replace hb:=hb.trans (hb2.mono (by omega))
              have hbs2:=hb.size
              simp at hbs2
              clear hb2
              replace hb:=hb.alloc (by omega) (.cells #[.int .i64 k,.string x,.int .i64 n,.int .i64 a] 129)
              obtain ⟨c0,c1,f0,f1⟩:=pair_after hb
              have hb':=below_pair hb
              clear hb
              go_wp2_with fail
              exact bodyPost_ret (v:=.tuple #[.slice none 0 0,.agg #[.int .i64 2,.int .i64 i]]) (by simp [results,Tryz.results58,go_sem,c0,c1]) rfl ⟨.slice none 0 0,by rw [HB.out.2.1,HB.out.2.2],by rw [HB.out.1];exact Toks.none_ _ _ _,(hb'.setCell (Nat.le_refl _) _).setCell (Nat.le_refl _) _⟩
            | some cu =>
              have hH:=scan_token hscan hlt h5 h35 htok
              have hlen:=tokL_pos htok (by rw [drop_cons s hlt];simp)
              have hal:acc.length≤i:=hscan.2.1
              have hil2:i + cu.len≤s.size:=hH.1.1
              have H:=Lib.hid hH.1
              have HT:=Lib.hid htok
              have hlp:=hH.2
              clear h35 h5 hc hscan htok hH hlen
              go_wp2_with fail
              refine (C.out _).mono ?_;rintro e w1 ⟨rfl,rfl⟩
              go_wp2_with fail
              refine (A.out _).mono ?_;rintro e w2 ⟨k,x,n,a,b,rfl,hsays,hb2⟩
              obtain ⟨rfl,hk,hx,hn,ha⟩:b=true∧k=cu.kind∧x=s.extract i (i + cu.len)∧n=cu.n∧a=i:=by
                unfold AtSays at hsays;rw [HT.out] at hsays;exact hsays
              clear hsays
              have HE:Hid ((⟨k,x,n,a⟩:Tok)=tokAt s i cu):=by subst hk hx hn ha;rfl
              have hxs:(x.size:Int)=(cu.len:Int):=by rw [hx,hb_text ⟨hlp,hil2⟩]
              have HXS:=Lib.hid hxs
              have hown2:w2.ownsRow (w.heap.size + 1) 129 4 u4 acc.length (rowOf acc):=own_below hown hb2
              replace hb:=hb.trans (hb2.mono (by omega))
              have hbs2:=hb.size
              simp at hbs2
              clear hb2 hown hk hx hn ha hxs
              have hxb:x.size≤8192:=by have:=HXS.out;omega
              go_wp2_with (at_builtin;refine wpList_append_own _ rfl _ _ 123 rfl (w.heap.size + 1) 129 i0 (.agg #[.int .i64 0,.string ⟨#[]⟩,.int .i64 0,.int .i64 0]) 4 40 Tryz.underlying123 hi hz0 hz1 hz2 rfl (by decide) _ acc.length _ rfl ((hown2.alloc _).alloc _) ⟨w2.heap.size + 1,0,none⟩ 1 1 [.int .i64 k,.string x,.int .i64 n,.int .i64 a] rfl rfl ?c1 ?c2 ?c3 ?c4 ?c5 ?_)
              case c1=>exact new_row4 _ _ (by simp) _ _ _ _ _
              case c2=>intro u hu;simp at hu;rcases hu with rfl | rfl | rfl | rfl<;>rfl
              case c3=>unfold maxLen;omega
              case c4=>omega
              case c5=>simp;omega
              intro v' w3 hown' hgrow _
              have hb':Below (w.heap.size + 1) (w.alloc (.cells #[.int .i64 0,.int .i64 0] 34)) w3:=((hb.alloc (by omega) _).alloc (by simp;omega) _).grown hgrow (by simp;omega) (own_row_ge hown2)
              have hown3:w3.ownsRow (w.heap.size + 1) 129 4 v' (acc ++ [tokAt s i cu]).length (rowOf (acc ++ [tokAt s i cu])):=by
                rw [rowOf_snoc,← HE.out,List.length_append];exact hown'
              have hB:Box ((w2.alloc (.cells #[.int .i64 k,.string x,.int .i64 n,.int .i64 a] 129)).alloc (.cells #[.int .i64 k,.string x,.int .i64 n,.int .i64 a] 129)) w2.heap.size (.int .i64 k) (.string x) (.int .i64 n) (.int .i64 a) :=
                (box_new _ _ _ _ _ _).below ((Below.refl _ _).alloc (Nat.le_refl _) _) (by simp)
              have hcx:=hB.grown hgrow (by simp;omega) (fun g hg e=>by have:=own_row_lt hown2 g hg;omega)
              clear hown2 hown' hgrow hB hb
              go_wp2_with fail
              go_roundw
              case rel=>exact ⟨i + cu.len,acc ++ [tokAt s i cu],by have:=HXS.out;congr 1;omega,hown3,H.out,hb'⟩
              case measure=>simp [intOf];have:=HXS.out;omega
      · have HS:=scan_end hscan hlt
        have hal:acc.length≤i:=hscan.2.1
        have hie:i=s.size:=by have:=hscan.1;omega
        subst hie
        have HO:=Lib.hid (out_good h8 HS)
        clear HS hscan
        have hil:¬ ((s.size:Int) < (s.size:Int)):=by omega
        go_wp2_with (at_builtin;refine wpList_append_own _ rfl _ _ 123 rfl (w.heap.size + 1) 129 i0 (.agg #[.int .i64 0,.string ⟨#[]⟩,.int .i64 0,.int .i64 0]) 4 40 Tryz.underlying123 hi hz0 hz1 hz2 rfl (by decide) _ acc.length _ rfl (hown.alloc _) ⟨wr.heap.size,0,none⟩ 1 1 [.int .i64 0,.string ⟨#[]⟩,.int .i64 0,.int .i64 s.size] rfl rfl ?d1 ?d2 ?d3 ?d4 ?d5 ?_)
        case d2=>exact ⟨rfl,rfl,rfl,rfl⟩
        case d3=>unfold maxLen;omega
        case d4=>omega
        case d5=>omega
        intro v' w3 hown' hgrow _
        replace hb:=(hb.alloc (by omega) _).grown hgrow (by simp;omega) (own_row_ge hown)
        have hown3:w3.ownsRow (w.heap.size + 1) 129 4 v' (acc ++ [endTok s]).length (rowOf (acc ++ [endTok s])):=by
          rw [rowOf_snoc,List.length_append];exact hown'
        have ht3:∀ x y,Toks ((w3.setCell ⟨w.heap.size,0,none⟩ x).setCell ⟨w.heap.size,1,none⟩ y) v' (acc ++ [endTok s]):=fun x y =>
          toks_of_own (ownsRow_setCell_below (ownsRow_setCell_below hown3 (by show w.heap.size < _;omega) x) (by show w.heap.size < _;omega) y) (by simp;omega)
        obtain ⟨c0,c1,f0,f1⟩:=pair_after hb
        have hb':=below_pair hb
        clear hown hown' hgrow hown3 hb
        have HT3:=Lib.hid ht3
        clear ht3
        go_wp2_with fail
        exact bodyPost_ret (v:=.tuple #[v',.agg #[.int .i64 0,.int .i64 0]]) (by simp [results,Tryz.results58,go_sem,c0,c1]) rfl ⟨v',by rw [HO.out.2.1,HO.out.2.2],by rw [HO.out.1];exact HT3.out _ _,(hb'.setCell (Nat.le_refl _) _).setCell (Nat.le_refl _) _⟩
  · have h8':¬ ((s.size:Int)≤8192):=by omega
    have HO:=Lib.hid (out_long h8)
    go_enter Tryz.func58,Tryz.ntmps58
    go_wp2_with fail
    exact bodyPost_ret (v:=.tuple #[.slice none 0 0,.agg #[.int .i64 3,.int .i64 0]]) (by simp [results,Tryz.results58,go_sem]) rfl ⟨.slice none 0 0,by rw [HO.out.2.1,HO.out.2.2],by rw [HO.out.1];exact Toks.none_ _ _ _,(Below.refl _ _).alloc (Nat.le_refl _) _⟩
end Go.Proofs.YtjcleokfpohpdaaGreatDoor
