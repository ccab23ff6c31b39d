/-
  The specification's parser: a part.
-/
import Derived.Test.YtllbachngocmnaaGreatDoorP40
import Derived.Test.YtllbachngocmnaaGreatDoorP41
import Derived.Test.YtllbachngocmnaaGreatDoorP42
namespace Go.Proofs.YtllbachngocmnaaGreatDoor
open Go.RowKit
namespace Rx

set_option maxHeartbeats 2000000 in
set_option maxRecDepth 100000 in
theorem sPart {p:Nat}{s:ByteArray}{deep:Nat}{A:Nat→Option (Data × Nat)}(hs:s.size≤1000)(hin:∀ i t j,pieceAt (gOf s) s.size A i=some (t,j)→i<j∧j≤s.size)
  (hP:TellsF 178 p s deep (pieceAt (gOf s) s.size A)):TellsF 161 p s deep (partAt (gOf s) s.size A):=by
 intro i w h hi;have hA:=At.start h;have hp:=h.lt
 obtain⟨R,hR⟩:∃ R,R=partAt (gOf s) s.size A i:=⟨_,rfl⟩
 rw[← hR]
 unfold partAt at hR
 obtain⟨RS,hRS⟩:∃ RS,partLoop (gOf s) s.size A (s.size+1) i []=RS:=⟨_,rfl⟩
 rw[hRS] at hR
 have HL:Hid _:=hRS;have HR:Hid _:=hR;clear hR hRS
 obtain⟨i0,hi0,hz0,hz1,hz2⟩:=info_parts Tryz.info103r
 go_enter Tryz.func161,Tryz.ntmps161
 go_upto_block 0 with fail
 go_cut [5] (fun v wx=>KEnd p s w RS v wx)
 case first =>
  go_wp2_with fail
  go_loopw [5] (fun v wr=>(∃ (k f:Nat) (ts:List Data),At p s w k false wr∧k≤s.size∧ts.length≤k∧Kids wr (w.heap.size+1) ts v∧s.size<f+k∧partLoop (gOf s) s.size A f k ts=RS)∨(RS=none∧KBad p s w v wr)) (fun _ wr=>left p s.size wr)
  case atStart =>
   refine .inl ⟨i,s.size+1,[],hA.alloc _,hi,Nat.zero_le _,?_,by omega,HL.out⟩
   have:=kids_made (w.alloc (.cells #[.int .i64 0,.int .i64 0,.string ⟨#[]⟩,.bool false,.slice none 0 0] 103)) (B:=w.heap.size+1) (by simp)
   simpa using this
  case round =>
   clear hA HL h hi HR;rcases hrel with ⟨k,f,ts,hA1,hk,hlen,hK,hf,hRk⟩|⟨hRS,hB⟩
   ·obtain⟨f,rfl⟩:∃ f',f=f'+1:=⟨f - 1,by omega⟩
    rw[partLoop_step] at hRk
    have c0:=hA1.cs.text;have c1:=hA1.cs.pos;have c2:=hA1.cs.bad
    by_cases hend:gOf s k=256∨gOf s k=124∨gOf s k=41
    ·rw[if_pos hend] at hRk
     have HE:Hid (RS=some (ts,k)):=hRk.symm;clear hRk;rcases Nat.lt_or_ge k s.size with hkl|hkl
     ·have hg:=gOf_in hkl;have hbl:=s[k].toNat_lt
      by_cases h124:gOf s k=124
      ·have z1:(s[k].toNat:Int)=124:=by omega
       clear hend h124 hg hbl;go_wp2_with fail
       go_quiet (fail)
       go_wp2_with fail;go_meet;exact .inl ⟨k,ts,HE.out,hk,hA1.drewN _,kids_kept hK (fun _ _ _=>rfl) (Nat.le_refl _)⟩
      ·have z1:(s[k].toNat:Int)=41:=by omega
       clear hend h124 hg hbl;go_wp2_with fail
       go_quiet (fail)
       go_wp2_with fail;go_meet;exact .inl ⟨k,ts,HE.out,hk,hA1.drewN _,kids_kept hK (fun _ _ _=>rfl) (Nat.le_refl _)⟩
     ·have z1:decide ((k:Int)<s.size)=false:=decide_eq_false (by omega);have z2:decide (k<s.size)=false:=decide_eq_false (by omega);clear hend;go_wp2_with fail
      go_quiet (fail)
      go_wp2_with fail;go_meet;exact .inl ⟨k,ts,HE.out,hk,hA1.drewN _,kids_kept hK (fun _ _ _=>rfl) (Nat.le_refl _)⟩
    ·rw[if_neg hend] at hRk
     have hkl:k<s.size:=in_of (fun e=>hend (.inl e));have hg:=gOf_in hkl;have z1:((s[k].toNat:Int) != 124)=true:=by simp;omega
     have z2:((s[k].toNat:Int) != 41)=true:=by simp;omega
     obtain⟨xs,S,hown,hks,hS⟩:=hK
     have hsz:=hA1.size;have hl1:(ts.length:Int)≤1000:=by omega
     clear hend hg;rcases hq:pieceAt (gOf s) s.size A k with _|⟨t,j⟩
     ·rw[hq] at hRk
      have HE:Hid (RS=none):=hRk.symm;clear hRk;go_wp2_with fail
      go_quiet (fail)
      go_wp2_with (first|(go_at_call 178;refine (hP k _ (hA1.drewN _).cs hk).mono ?_;intro e w1 h1;obtain⟨a,b,c,d,u,j',rfl,h5,hC,hgr⟩:=tells_none h1 hq;obtain⟨y1,y2,y3,y4,y5,y6,y7,rfl,rfl,rfl,rfl,rfl⟩:=h5;have hown1:=owns_grown hown (grown_drewN_left hgr) (by omega);have hsz1:=(grown_drewN_left hgr).size)|(at_builtin;refine wpList_append_own_at _ rfl _ _ 101 rfl (w.heap.size+1) 103 i0 _ 5 64 Tryz.underlying101 hi0 hz0 hz1 hz2 rfl (by decide) _ _ _ rfl (hown1.alloc _) ⟨w1.heap.size,0,none⟩ 1 1 [.int .i64 y1,.int .i64 y2,.string y3,.bool y4,.slice y5 y6 y7] rfl rfl (cell_five_new _ _ _ _ _ _) (by simp[Value.oneCell']) (by unfold maxLen;omega) (by omega) (by simp;omega) ?_;intro v' w3 hown3 hgr3 _ hb3))
      have hg1':=grown_drewN_left hgr;have hA2:=((hA1.drewN _).grown hgr hC).alloc (.cells #[.int .i64 y1,.int .i64 y2,.string y3,.bool y4,.slice y5 y6 y7] 103);have hA3:=hA2.grownOwn hgr3 (fun b hb=>by have:=(hown.lt b hb).1;omega);go_roundw
      case rel =>
       refine .inr ⟨HE.out,_,_,_,hA3,hown3,by omega,fun e=>?_⟩;have hts:ts.length=0:=by omega
       have hxs:xs=[]:=List.length_eq_zero_iff.1 (by rw[hown.1,hts])
       exact⟨_,_,_,_,_,by rw[hxs];rfl,⟨y1,y2,y3,y4,y5,y6,y7,rfl,rfl,rfl,rfl,rfl⟩⟩
      case measure=>exact left_lt_bad hA1.cs hA3.cs hk
     ·rw[hq] at hRk
      have HE:Hid _:=hRk
      obtain⟨j1,j2⟩:=hin k t j hq
      clear hRk;go_wp2_with fail
      go_quiet (fail)
      go_wp2_with (first|(go_at_call 178;refine (hP k _ (hA1.drewN _).cs hk).mono ?_;intro e w1 h1;obtain⟨a,b,c,d,u,rfl,hx,hC,hgr⟩:=tells_some h1 hq;obtain⟨y1,y2,y3,y4,y5,y6,y7,rfl,rfl,rfl,rfl,rfl⟩:=rex_cells hx;have hown1:=owns_grown hown (grown_drewN_left hgr) (by omega);have hsz1:=(grown_drewN_left hgr).size)|(at_builtin;refine wpList_append_own_at _ rfl _ _ 101 rfl (w.heap.size+1) 103 i0 _ 5 64 Tryz.underlying101 hi0 hz0 hz1 hz2 rfl (by decide) _ _ _ rfl (hown1.alloc _) ⟨w1.heap.size,0,none⟩ 1 1 [.int .i64 y1,.int .i64 y2,.string ⟨y3.toArray⟩,.bool y4,.slice y5 y6 y7] rfl rfl (cell_five_new _ _ _ _ _ _) (by simp[Value.oneCell']) (by unfold maxLen;omega) (by omega) (by simp;omega) ?_;intro v' w3 hown3 hgr3 _ hb3))
      have hg1':=grown_drewN_left hgr;have hA2:=((hA1.drewN _).grown hgr hC).alloc (.cells #[.int .i64 y1,.int .i64 y2,.string ⟨y3.toArray⟩,.bool y4,.slice y5 y6 y7] 103);have hA3:=hA2.grownOwn hgr3 (fun b hb=>by have:=(hown.lt b hb).1;omega);go_roundw
      case rel=>exact .inl ⟨j,f,ts++[t],hA3,j2,by simp;omega,kids_append hown hks hS (by omega) (by omega) hg1' hx hown3 hgr3 hb3,by omega,HE.out⟩
      case measure=>exact left_lt hA1.cs hA3.cs hk j1
   ·obtain⟨kb,n,xs,hA1,hown,hn1,hn⟩:=hB
    have c2:=hA1.cs.bad;have HE:Hid _:=hRS;clear hRS;go_wp2_with fail
    go_quiet (fail)
    go_wp2_with fail;go_meet;exact .inr ⟨HE.out,kb,n,xs,hA1.drewN _,hown,hn1,hn⟩
 case rest =>
  clear hA HL h hi hP hin;rcases hcut with ⟨k,ts,hRS,hk,hA1,hK⟩|⟨hRS,kb,n,xs,hA1,hown,hn1,hn⟩
  ·have v0:=hA1.res.cell;have u0:=hA1.res.frozen;rcases ts with _|⟨t1,_|⟨t2,ts⟩⟩
   ·have HR2:Hid (R=some (leaf 11,k)):=by show R=_;rw[HR.out,hRS];rfl
    obtain⟨ao,cap,rfl⟩:=kids_len' hK
    clear hK;go_wp2_with fail;refine At.retLeaf (op:=11) (c:=0) (set:=[]) (no:=false) (j:=k) ?_ Tryz.results161 HR2.out ?_ ?_ ?_ ?_ ?_ ?_ ?_
    ·exact hA1
    all_goals rfl
   ·have HR2:Hid (R=some (t1,k)):=by show R=_;rw[HR.out,hRS];rfl
    obtain⟨g,cap,a,b,c,d,u,rfl,hB,hx,x0,x1,x2,x3,x4⟩:=kids_head hK
    obtain⟨y1,y2,y3,y4,y5,y6,y7,rfl,rfl,rfl,rfl,rfl⟩:=rex_cells hx
    have hgn:w.heap.size<g:=by omega
    clear hK;go_wp2_with fail;refine At.retRex (j:=k) ?_ Tryz.results161 hx ?_ HR2.out ?_ ?_
    ·exact hA1
    ·omega
    ·rfl
    ·rfl
   ·have HR2:Hid (R=some (nd 6 0 [] false (t1::t2::ts),k)):=by show R=_;rw[HR.out,hRS];rfl
    have hx:=kids_rex hK 6 0 [] false
    obtain⟨ao,cap,rfl⟩:=kids_len' hK
    obtain⟨n,hn⟩:∃ n,n=(t1::t2::ts).length:=⟨_,rfl⟩
    rw[← hn] at hx ⊢
    have n0:((n:Int)==0)=false:=by rw[hn];simp;omega
    have n1:((n:Int)==1)=false:=by rw[hn];simp;omega
    clear hn hK;go_wp2_with fail;refine At.retRex (j:=k) ?_ Tryz.results161 hx ?_ HR2.out ?_ ?_
    ·exact hA1
    ·omega
    ·rfl
    ·rfl
  ·have v0:=hA1.res.cell;have u0:=hA1.res.frozen;have HR2:Hid (R=none):=by show R=_;rw[HR.out,hRS];rfl
   by_cases h1:n=1
   ·obtain⟨a,b,c,d,u,rfl,h5⟩:=hn h1
    subst h1
    obtain⟨g,cap,rfl,hB,x0,x1,x2,x3,x4⟩:=owns_head hown
    obtain⟨y1,y2,y3,y4,y5,y6,y7,rfl,rfl,rfl,rfl,rfl⟩:=h5
    have hgn:w.heap.size<g:=by omega
    clear hown hn hn1;go_wp2_with fail;refine At.retBad ?_ Tryz.results161 ⟨y1,y2,y3,y4,y5,y6,y7,rfl,rfl,rfl,rfl,rfl⟩ HR2.out ?_ ?_
    ·exact⟨_,hA1⟩
    ·rfl
    ·rfl
   ·obtain⟨ao,cap,rfl⟩:=owns_len' hown
    have n0:((n:Int)==0)=false:=by simp;omega
    have n1:((n:Int)==1)=false:=by simp;omega
    clear hown hn hn1 h1;go_wp2_with fail;refine At.retBad ?_ Tryz.results161 ⟨6,0,_,false,_,_,_,rfl,rfl,rfl,rfl,rfl⟩ HR2.out ?_ ?_
    ·exact⟨_,hA1⟩
    ·rfl
    ·rfl

end Rx
namespace Rx

theorem patLoop_ne (g:Nat→Nat)(N:Nat)(A:Nat→Option (Data × Nat)):∀ (f i:Nat) (ts us:List Data) (j:Nat),ts≠[]→patLoop g N A f i ts=some (us,j)→us≠[]
 | 0,_,_,_,_,_,h=>by simp[patLoop] at h
 | f+1,i,ts,us,j,hne,h=>by
  rw[patLoop_step] at h
  split at h
  ·split at h
   ·simp at h
   ·exact patLoop_ne g N A f _ _ us j (by simp) h
  ·simp at h
   rw[← h.1]
   exact hne

set_option maxHeartbeats 2000000 in
set_option maxRecDepth 100000 in
theorem sPattern {p:Nat}{s:ByteArray}{deep:Nat}{A:Nat→Option (Data × Nat)}(hs:s.size≤1000)(hin:∀ i t j,partAt (gOf s) s.size A i=some (t,j)→i≤j∧(i≤s.size→j≤s.size))
  (hP:TellsF 161 p s deep (partAt (gOf s) s.size A)):TellsF 120 p s deep (patAt (gOf s) s.size A):=by
 intro i w h hi;have hA:=At.start h;have hp:=h.lt
 obtain⟨R,hR⟩:∃ R,R=patAt (gOf s) s.size A i:=⟨_,rfl⟩
 rw[← hR]
 unfold patAt at hR
 obtain⟨RS,hRS⟩:∃ RS,RS=match partAt (gOf s) s.size A i with
  | none=>none
  | some (t,j)=>patLoop (gOf s) s.size A (s.size+1) j [t]:=⟨_,rfl⟩
 have HR:Hid (R=patEnd RS):=by
  show R=patEnd RS
  rw[hR,hRS]
  cases partAt (gOf s) s.size A i <;> rfl
 have HL:Hid (RS=match partAt (gOf s) s.size A i with
  | none=>none
  | some (t,j)=>patLoop (gOf s) s.size A (s.size+1) j [t]):=hRS
 have hne:∀ us j,RS=some (us,j)→us≠[]:=by
  intro us j e
  rw[hRS] at e
  split at e
  ·simp at e
  ·exact patLoop_ne _ _ _ _ _ _ us j (by simp) e
 clear hR hRS
 obtain⟨i0,hi0,hz0,hz1,hz2⟩:=info_parts Tryz.info103r
 go_enter Tryz.func120,Tryz.ntmps120
 go_upto_region 1 with fail
 go_cut [5] (fun v wx=>(∃ (k:Nat) (t:Data),At p s w k false wx∧k≤s.size∧i≤k∧Kids wx (w.heap.size+1) [t] v∧patLoop (gOf s) s.size A (s.size+1) k [t]=RS)∨(RS=none∧KBad p s w v wx))
 case first =>
  rcases hq:partAt (gOf s) s.size A i with _|⟨t,j⟩
  ·have HE:Hid (RS=none):=by show RS=_;rw[HL.out,hq]
   clear HL HR hne
   go_wp2_with (go_at_call 161;refine (hP i _ hA.cs hi).mono ?_;intro e w1 h1;obtain⟨a,b,c,d,u,j',rfl,h5,hC,hgr⟩:=tells_none h1 hq;obtain⟨y1,y2,y3,y4,y5,y6,y7,rfl,rfl,rfl,rfl,rfl⟩:=h5)
   have hA1:=hA.grown hgr hC;have hsz:=hA1.size;go_meet;refine .inr ⟨HE.out,_,1,_,hA1.alloc _,World.ownsRow_lit w1 #[.int .i64 y1,.int .i64 y2,.string y3,.bool y4,.slice y5 y6 y7] 1 (by omega) (by unfold maxLen;omega) rfl,by omega,fun _=>⟨_,_,_,_,_,rfl,⟨y1,y2,y3,y4,y5,y6,y7,rfl,rfl,rfl,rfl,rfl⟩⟩⟩
  ·have HE:Hid (patLoop (gOf s) s.size A (s.size+1) j [t]=RS):=by show _=RS;rw[HL.out,hq]
   obtain⟨j1,j2⟩:=hin i t j hq
   clear HL HR hne
   go_wp2_with (go_at_call 161;refine (hP i _ hA.cs hi).mono ?_;intro e w1 h1;obtain⟨a,b,c,d,u,rfl,hx,hC,hgr⟩:=tells_some h1 hq;obtain⟨y1,y2,y3,y4,y5,y6,y7,rfl,rfl,rfl,rfl,rfl⟩:=rex_cells hx)
   have hA1:=hA.grown hgr hC;have hsz:=hA1.size;have hx':RexIs w1 t (Iv (w.heap.size+1) w1.heap.size) [.int .i64 y1,.int .i64 y2,.string ⟨y3.toArray⟩,.bool y4,.slice y5 y6 y7]:=by simpa using hx
   go_meet;exact .inl ⟨j,t,hA1.alloc _,j2 hi,j1,kids_first (by omega) hx',HE.out⟩
 case rest =>
 have hc0:=hcut;clear hA HL h hcut
 go_upto_block 0 with fail
 go_cut [5] (fun v wx=>KEnd p s w RS v wx)
 case first =>
  go_wp2_with fail
  go_loopw [5] (fun v wr=>(∃ (k f:Nat) (ts:List Data),At p s w k false wr∧k≤s.size∧ts.length≤k+1∧Kids wr (w.heap.size+1) ts v∧s.size<f+k∧patLoop (gOf s) s.size A f k ts=RS)∨(RS=none∧KBad p s w v wr)) (fun _ wr=>left p s.size wr)
  case atStart =>
   rcases hc0 with ⟨k,t,hA1,hk,hik,hK,hE⟩|hB
   ·exact .inl ⟨k,s.size+1,[t],hA1,hk,by simp,hK,by omega,hE⟩
   ·exact .inr hB
  case round =>
   clear hc0 hi HR hne;rcases hrel with ⟨k,f,ts,hA1,hk,hlen,hK,hf,hRk⟩|⟨hRS,hB⟩
   ·obtain⟨f,rfl⟩:∃ f',f=f'+1:=⟨f - 1,by omega⟩
    rw[patLoop_step] at hRk
    have c0:=hA1.cs.text;have c1:=hA1.cs.pos;have c2:=hA1.cs.bad;have f1:=hA1.cs.fr1
    by_cases h124:gOf s k=124
    ·rw[if_pos h124] at hRk
     have hkl:=in_of (s:=s) (i:=k) (by omega);have d1:decide (gOf s k=124)=true:=decide_eq_true h124
     obtain⟨k1,hk1⟩:∃ k1,k1=k+1:=⟨_,rfl⟩
     have t1:(k:Int)+1=(k1:Int):=by omega
     have bk:(k:Int)≤1000:=by omega
     have k1s:k1≤s.size:=by omega
     rw[← hk1] at hRk
     obtain⟨xs,S,hown,hks,hS⟩:=hK
     have hsz:=hA1.size;have hl1:(ts.length:Int)≤1001:=by omega
     have hkk:Hid _:=hk1;clear h124 hk1;rcases hq:partAt (gOf s) s.size A k1 with _|⟨t,j⟩
     ·rw[hq] at hRk
      have HE:Hid (RS=none):=hRk.symm;clear hRk
      go_wp2_with (first|(go_at_call 162;refine (sNow hA1.cs hk 124 124 (by omega) rfl).mono ?_;rintro e wn ⟨rfl,nn,rfl⟩)|(go_at_call 161;refine (hP k1 _ ((hA1.drewN _).pos _).cs k1s).mono ?_;intro e w1 h1;obtain⟨a,b,c,d,u,j',rfl,h5,hC,hgr⟩:=tells_none h1 hq;obtain⟨y1,y2,y3,y4,y5,y6,y7,rfl,rfl,rfl,rfl,rfl⟩:=h5;have hg1':wr.grownBy w1 (some p):=(grown_drewN (World.grownBy.refl _ _) _).trans ((grown_set _ ⟨p,1,none⟩ _).trans hgr);have hown1:=owns_grown hown hg1' (by omega);have hsz1:=hg1'.size)|(at_builtin;refine wpList_append_own_at _ rfl _ _ 101 rfl (w.heap.size+1) 103 i0 _ 5 64 Tryz.underlying101 hi0 hz0 hz1 hz2 rfl (by decide) _ _ _ rfl (hown1.alloc _) ⟨w1.heap.size,0,none⟩ 1 1 [.int .i64 y1,.int .i64 y2,.string y3,.bool y4,.slice y5 y6 y7] rfl rfl (cell_five_new _ _ _ _ _ _) (by simp[Value.oneCell']) (by unfold maxLen;omega) (by omega) (by simp;omega) ?_;intro v' w3 hown3 hgr3 _ hb3))
      have hA2:=(hA1.grown hg1' hC).alloc (.cells #[.int .i64 y1,.int .i64 y2,.string y3,.bool y4,.slice y5 y6 y7] 103);have hA3:=hA2.grownOwn hgr3 (fun b hb=>by have:=(hown.lt b hb).1;omega);go_roundw
      case rel =>
       refine .inr ⟨HE.out,_,_,_,hA3,hown3,by omega,fun e=>?_⟩;have hts:ts.length=0:=by omega
       have hxs:xs=[]:=List.length_eq_zero_iff.1 (by rw[hown.1,hts])
       exact⟨_,_,_,_,_,by rw[hxs];rfl,⟨y1,y2,y3,y4,y5,y6,y7,rfl,rfl,rfl,rfl,rfl⟩⟩
      case measure=>exact left_lt_bad hA1.cs hA3.cs hk
     ·rw[hq] at hRk
      have HE:Hid _:=hRk
      obtain⟨j1,j2⟩:=hin k1 t j hq
      clear hRk
      go_wp2_with (first|(go_at_call 162;refine (sNow hA1.cs hk 124 124 (by omega) rfl).mono ?_;rintro e wn ⟨rfl,nn,rfl⟩)|(go_at_call 161;refine (hP k1 _ ((hA1.drewN _).pos _).cs k1s).mono ?_;intro e w1 h1;obtain⟨a,b,c,d,u,rfl,hx,hC,hgr⟩:=tells_some h1 hq;obtain⟨y1,y2,y3,y4,y5,y6,y7,rfl,rfl,rfl,rfl,rfl⟩:=rex_cells hx;have hg1':wr.grownBy w1 (some p):=(grown_drewN (World.grownBy.refl _ _) _).trans ((grown_set _ ⟨p,1,none⟩ _).trans hgr);have hown1:=owns_grown hown hg1' (by omega);have hsz1:=hg1'.size)|(at_builtin;refine wpList_append_own_at _ rfl _ _ 101 rfl (w.heap.size+1) 103 i0 _ 5 64 Tryz.underlying101 hi0 hz0 hz1 hz2 rfl (by decide) _ _ _ rfl (hown1.alloc _) ⟨w1.heap.size,0,none⟩ 1 1 [.int .i64 y1,.int .i64 y2,.string ⟨y3.toArray⟩,.bool y4,.slice y5 y6 y7] rfl rfl (cell_five_new _ _ _ _ _ _) (by simp[Value.oneCell']) (by unfold maxLen;omega) (by omega) (by simp;omega) ?_;intro v' w3 hown3 hgr3 _ hb3))
      have hx':RexIs w1 t (Iv wr.heap.size w1.heap.size) [.int .i64 y1,.int .i64 y2,.string ⟨y3.toArray⟩,.bool y4,.slice y5 y6 y7]:=by simpa using hx
      have hA2:=(hA1.grown hg1' hC).alloc (.cells #[.int .i64 y1,.int .i64 y2,.string ⟨y3.toArray⟩,.bool y4,.slice y5 y6 y7] 103);have hA3:=hA2.grownOwn hgr3 (fun b hb=>by have:=(hown.lt b hb).1;omega);have hkk':=hkk.out;go_roundw
      case rel=>exact .inl ⟨j,f,ts++[t],hA3,j2 k1s,by simp;omega,kids_append hown hks hS (by omega) (by omega) hg1' hx' hown3 hgr3 hb3,by omega,HE.out⟩
      case measure=>exact left_lt hA1.cs hA3.cs hk (by omega)
    ·rw[if_neg h124] at hRk
     have HE:Hid (RS=some (ts,k)):=hRk.symm;have d1:decide (gOf s k=124)=false:=decide_eq_false h124;clear hRk h124
     go_wp2_with (go_at_call 162;refine (sNow hA1.cs hk 124 124 (by omega) rfl).mono ?_;rintro e wn ⟨rfl,nn,rfl⟩)
     go_meet;exact .inl ⟨k,ts,HE.out,hk,hA1.drewN _,kids_kept hK (fun _ _ _=>rfl) (Nat.le_refl _)⟩
   ·obtain⟨kb,n,xs,hA1,hown,hn1,hn⟩:=hB
    have HE:Hid _:=hRS;clear hRS
    go_wp2_with (go_at_call 162;refine (sNowBad hA1.cs _).mono ?_;rintro e wn ⟨rfl,nn,rfl⟩)
    go_meet;exact .inr ⟨HE.out,kb,n,xs,hA1.drewN _,hown,hn1,hn⟩
 case rest =>
  clear hc0 hi hP hin;rcases hcut with ⟨k,ts,hRS,hk,hA1,hK⟩|⟨hRS,kb,n,xs,hA1,hown,hn1,hn⟩
  ·have v0:=hA1.res.cell;have u0:=hA1.res.frozen;rcases ts with _|⟨t1,_|⟨t2,ts⟩⟩
   ·exact absurd rfl (hne _ _ hRS)
   ·have HR2:Hid (R=some (t1,k)):=by show R=_;rw[HR.out,hRS];rfl
    obtain⟨g,cap,a,b,c,d,u,rfl,hB,hx,x0,x1,x2,x3,x4⟩:=kids_head hK
    obtain⟨y1,y2,y3,y4,y5,y6,y7,rfl,rfl,rfl,rfl,rfl⟩:=rex_cells hx
    have hgn:w.heap.size<g:=by omega
    clear hK;go_wp2_with fail;refine At.retRex (j:=k) ?_ Tryz.results120 hx ?_ HR2.out ?_ ?_
    ·exact hA1
    ·omega
    ·rfl
    ·rfl
   ·have HR2:Hid (R=some (nd 7 0 [] false (t1::t2::ts),k)):=by show R=_;rw[HR.out,hRS];rfl
    have hx:=kids_rex hK 7 0 [] false
    obtain⟨ao,cap,rfl⟩:=kids_len' hK
    obtain⟨n,hn⟩:∃ n,n=(t1::t2::ts).length:=⟨_,rfl⟩
    rw[← hn] at hx ⊢
    have n0:((n:Int)==0)=false:=by rw[hn];simp;omega
    have n1:((n:Int)==1)=false:=by rw[hn];simp;omega
    clear hn hK;go_wp2_with fail;refine At.retRex (j:=k) ?_ Tryz.results120 hx ?_ HR2.out ?_ ?_
    ·exact hA1
    ·omega
    ·rfl
    ·rfl
  ·have v0:=hA1.res.cell;have u0:=hA1.res.frozen;have HR2:Hid (R=none):=by show R=_;rw[HR.out,hRS];rfl
   by_cases h1:n=1
   ·obtain⟨a,b,c,d,u,rfl,h5⟩:=hn h1
    subst h1
    obtain⟨g,cap,rfl,hB,x0,x1,x2,x3,x4⟩:=owns_head hown
    obtain⟨y1,y2,y3,y4,y5,y6,y7,rfl,rfl,rfl,rfl,rfl⟩:=h5
    have hgn:w.heap.size<g:=by omega
    clear hown hn hn1;go_wp2_with fail;refine At.retBad ?_ Tryz.results120 ⟨y1,y2,y3,y4,y5,y6,y7,rfl,rfl,rfl,rfl,rfl⟩ HR2.out ?_ ?_
    ·exact⟨_,hA1⟩
    ·rfl
    ·rfl
   ·obtain⟨ao,cap,rfl⟩:=owns_len' hown
    have n0:((n:Int)==0)=false:=by simp;omega
    have n1:((n:Int)==1)=false:=by simp;omega
    clear hown hn hn1 h1;go_wp2_with fail;refine At.retBad ?_ Tryz.results120 ⟨7,0,_,false,_,_,_,rfl,rfl,rfl,rfl,rfl⟩ HR2.out ?_ ?_
    ·exact⟨_,hA1⟩
    ·rfl
    ·rfl

end Rx
namespace Rx

theorem sAtomN {p:Nat}{s:ByteArray}(hs:s.size≤1000):∀ n deep,n+deep=41→TellsF 204 p s deep (atomN (gOf s) s.size n):=by
 intro n;have hg:∀ i,s.size≤i→gOf s i=256:=fun i h=>gOf_out h
 induction n with
 | zero =>
  intro deep hd;obtain rfl:deep=41:=by omega
  exact sAtomDeep hs
 | succ n ih =>
  intro deep hd;have h1:=ih (deep+1) (by omega);have h2:=sPiece hs (atomN_in hg n) h1;have h3:=sPart hs (fun i t j h=>pieceAt_in hg (atomN_in hg n) h) h2;have h4:=sPattern hs (fun i t j h=>partAt_in hg (atomN_in hg n) h) h3;exact sAtom hs (by omega) (fun i t j h hi=>(patAt_in hg (atomN_in hg n) h).2 hi) (fun i w h hi=>sSet h hi hs) h4

theorem sPatN {p:Nat}{s:ByteArray}(hs:s.size≤1000):TellsF 120 p s 0 (patN (gOf s) s.size 41):=by
 have hg:∀ i,s.size≤i→gOf s i=256:=fun i h=>gOf_out h;have h1:=sAtomN (p:=p) hs 41 0 (by omega);have h2:=sPiece hs (atomN_in hg 41) h1;have h3:=sPart hs (fun i t j h=>pieceAt_in hg (atomN_in hg 41) h) h2;exact sPattern hs (fun i t j h=>partAt_in hg (atomN_in hg 41) h) h3

theorem parse_is {s:ByteArray}(hs:¬ 60<s.size):parseV s=wholeV (gOf s) s.size 41:=by
 unfold parseV
 rw[if_neg hs]
 exact whole_agree (fun i h=>gOf_out h) (by omega) (by omega) (by omega) (by omega)

theorem ret_pair {fn:Func}{K L:Nat}{R:Ending→World→Prop}{a:Act}{W:World}{B:Nat}{v0 v1 v2 v3 v4 x:Value}(hf:fn.results=#[.cell K 103,.tmp L])(ht:a.tmps[K]?=some (.pointer (some ⟨B,0,none⟩)))(hx:a.tmps[L]?=some x)(hd:a.defers=[])
  (hV:Var W B v0 v1 v2 v3 v4) (hR:R (.returned (.tuple #[.agg #[v0,v1,v2,v3,v4],x])) W):bodyPost Tryz.prog fn R .ret a W:=by
 obtain⟨x0,x1,x2,x3,x4⟩:=hV.cell
 refine bodyPost_ret ?_ hd hR;simp[results,hf,ht,hx,go_sem,x0,x1,x2,x3,x4]

theorem frozen_row {W:World}{b:Nat}{cs:Array Value}{T:TypeId}(h:W.heap[b]?=some (.cells cs T (0,0)))(k:Nat):W.frozen? ⟨b,k,none⟩=false:=by
 simp[World.frozen?,h]

theorem below_put5 {w W:World}(h:Below w.heap.size w W)(a b c d u:Value):Below w.heap.size w (put5 W w.heap.size a b c d u):=by
 unfold put5;exact ((((h.setCell (Nat.le_refl _) _).setCell (Nat.le_refl _) _).setCell (Nat.le_refl _) _).setCell (Nat.le_refl _) _).setCell (Nat.le_refl _) _

set_option maxRecDepth 100000 in
theorem sRexParse (s:ByteArray)(w:World):Calls Tryz.prog 69 #[.string s] w fun e w'=>RexOut (parseV s) w e w':=by
 obtain⟨R,hR⟩:∃ R,R=parseV s:=⟨_,rfl⟩
 rw[← hR]
 have hV0:Var (w.alloc (.cells #[.int .i64 0,.int .i64 0,.string ⟨#[]⟩,.bool false,.slice none 0 0] 103)) w.heap.size (.int .i64 0) (.int .i64 0) (.string ⟨#[]⟩) (.bool false) (.slice none 0 0):=heap_alloc_last _ _;have hB0:Below w.heap.size w (w.alloc (.cells #[.int .i64 0,.int .i64 0,.string ⟨#[]⟩,.bool false,.slice none 0 0] 103)):=(Below.refl _ w).alloc (Nat.le_refl _) _
 by_cases hlen:60<s.size
 ·have HR:Hid (R=none):=by show R=none;rw[hR];unfold parseV;rw[if_pos hlen]
  have e1:decide ((60:Int)<s.size)=true:=decide_eq_true (by omega);have e2:decide (60<s.size)=true:=decide_eq_true hlen;clear hR hlen
  go_enter Tryz.func69,Tryz.ntmps69
  go_wp2_with fail;refine ret_pair Tryz.results69 rfl rfl rfl hV0 ?_
  rw[HR.out]
  exact⟨rfl,hB0⟩
 ·rw[parse_is hlen] at hR
  have hs:s.size≤1000:=by omega
  have e1:decide ((60:Int)<s.size)=false:=decide_eq_false (by omega);have e2:decide (60<s.size)=false:=decide_eq_false hlen
  obtain⟨o1,ho1⟩:∃ o1,o1=Obj.cells #[.int .i64 0,.int .i64 0,.string ⟨#[]⟩,.bool false,.slice none 0 0] 103:=⟨_,rfl⟩
  obtain⟨o2,ho2⟩:∃ o2,o2=Obj.cells #[.string s,.int .i64 0,.bool false] 162:=⟨_,rfl⟩
  have hrow:((w.alloc o1).alloc o2).heap[w.heap.size+1]?=some (.cells #[.string s,.int .i64 0,.bool false] 162 (0,0)):=by
   rw[ho2,show w.heap.size+1=(w.alloc o1).heap.size by simp];exact heap_alloc_last _ _
  have hC0:Cs (w.heap.size+1) s ((0:Nat):Int) false ((w.alloc o1).alloc o2):=by
   refine⟨?_,?_,?_,?_,?_⟩
   ·rw[cell_of_row _ _ 0 _ _ _ hrow];rfl
   ·rw[cell_of_row _ _ 1 _ _ _ hrow];rfl
   ·rw[cell_of_row _ _ 2 _ _ _ hrow];rfl
   ·exact frozen_row hrow _
   ·exact frozen_row hrow _
  have hK:∀ w1:World,((w.alloc o1).alloc o2).grownBy w1 (some (w.heap.size+1))→Var w1 w.heap.size (.int .i64 0) (.int .i64 0) (.string ⟨#[]⟩) (.bool false) (.slice none 0 0)∧Below w.heap.size w w1∧w.heap.size<w1.heap.size∧w.heap.size+1<w1.heap.size:=by
   intro w1 hg;have hz:=hg.size;simp at hz
   refine⟨?_,(((Below.refl _ w).alloc (Nat.le_refl _) _).alloc (by simp) _).grown hg (by simp;omega) (by simp),by omega,by omega⟩
   unfold Var
   rw[hg.block _ (by simp;omega) (by simp),Below.heap_alloc _ _ _ (by simp),ho1]
   exact heap_alloc_last _ _
  have hP:=sPatN (p:=w.heap.size+1) hs;subst ho1 ho2;rcases hq:patN (gOf s) s.size 41 0 with _|⟨t,j⟩
  ·have HR:Hid (R=none):=by show R=none;rw[hR];unfold wholeV;rw[hq]
   clear hR
   go_enter Tryz.func69,Tryz.ntmps69
   go_wp2_with (go_at_call 120;refine (hP 0 _ hC0 (Nat.zero_le _)).mono ?_;intro e w1 h1;obtain⟨a,b,c,d,u,j',rfl,h5,hC,hgr⟩:=tells_none h1 hq;obtain⟨y1,y2,y3,y4,y5,y6,y7,rfl,rfl,rfl,rfl,rfl⟩:=h5;obtain⟨hV1,hB1,hl1,hl2⟩:=hK w1 hgr;have k0:=hC.text;have k1:=hC.pos;have k2:=hC.bad;have u0:=hV1.frozen;have v0:=hV1.cell)
   refine ret_pair Tryz.results69 rfl rfl rfl ((put5_var hV1 _ _ _ _ _).kept (Below.heap_alloc _ _ _ ?_)) ?_
   ·simpa using hl1
   ·rw[HR.out]
    exact⟨rfl,(below_put5 hB1 _ _ _ _ _).alloc (by rw[put5_size];omega) _⟩
  ·have hcnt:=patN_cnt (fun i h=>gOf_out h) hq;have hjs:=(patN_in (fun i h=>gOf_out h) hq).2 (Nat.zero_le _);have hdc:=dep_cnt t;have hx2:∀ (w1:World) {y1 y2:Nat} {y3:List UInt8} {y4:Bool} {y5:Option Addr} {y6 y7:Nat},RexIs w1 t (Iv ((w.alloc (.cells #[.int .i64 0,.int .i64 0,.string ⟨#[]⟩,.bool false,.slice none 0 0] 103)).alloc (.cells #[.string s,.int .i64 0,.bool false] 162)).heap.size w1.heap.size) [.int .i64 y1,.int .i64 y2,.string ⟨y3.toArray⟩,.bool y4,.slice y5 y6 y7]→RexIs (w1.alloc (.cells #[.int .i64 y1,.int .i64 y2,.string ⟨y3.toArray⟩,.bool y4,.slice y5 y6 y7] 103)) t (Iv (w.heap.size+2) w1.heap.size) [.int .i64 y1,.int .i64 y2,.string ⟨y3.toArray⟩,.bool y4,.slice y5 y6 y7]:=by
    intro w1 y1 y2 y3 y4 y5 y6 y7 hx;refine rex_mono (rex_frame t _ _ (fun k hk=>Below.heap_alloc _ _ _ hk.2) hx) fun k hk=>?_;have h1:=hk.1;simp at h1
    exact⟨h1,hk.2⟩
   by_cases hj:j=s.size
   ·subst hj
    by_cases hd:dep t≤12
    ·have HR:Hid (R=some t):=by show R=_;rw[hR];unfold wholeV;rw[hq];simp[hd]
     have d1:decide ((12:Int)<dep t)=false:=decide_eq_false (by omega);have d2:decide (12<dep t)=false:=decide_eq_false (by omega);clear hR hd
     go_enter Tryz.func69,Tryz.ntmps69
     go_wp2_with (first|(go_at_call 120;refine (hP 0 _ hC0 (Nat.zero_le _)).mono ?_;intro e w1 h1;obtain⟨a,b,c,d,u,rfl,hx,hC,hgr⟩:=tells_some h1 hq;obtain⟨y1,y2,y3,y4,y5,y6,y7,rfl,rfl,rfl,rfl,rfl⟩:=rex_cells hx;obtain⟨hV1,hB1,hl1,hl2⟩:=hK w1 hgr;have k0:=hC.text;have k1:=hC.pos;have k2:=hC.bad;have u0:=hV1.frozen;have v0:=hV1.cell)|(go_at_call 121;refine (sDeep (dep t) t (Nat.le_refl _) (by omega) _ (Iv (w.heap.size+2) w1.heap.size) _ _ _ _ _ (hx2 w1 hx) (fun k hk=>by have:=hk.2;simp;omega)).mono ?_;rintro e w2 ⟨rfl,hb2⟩;have hV2:=hV1.kept ((hb2.block _ (by simp;omega)).trans (Below.heap_alloc _ _ _ hl1));have u2:=hV2.frozen;have v2:=hV2.cell;have hr2:=(heap_alloc_last w1 (.cells #[.int .i64 y1,.int .i64 y2,.string ⟨y3.toArray⟩,.bool y4,.slice y5 y6 y7] 103));have hV3:Var w2 w1.heap.size (.int .i64 y1) (.int .i64 y2) (.string ⟨y3.toArray⟩) (.bool y4) (.slice y5 y6 y7):=(hb2.block _ (by simp)).trans hr2;have r0:=hV3.cell.1;have r1:=hV3.cell.2.1;have r2:=hV3.cell.2.2.1;have r3:=hV3.cell.2.2.2.1;have r4:=hV3.cell.2.2.2.2;have hB2:Below w.heap.size w w2:=(hB1.alloc (by omega) _).trans (hb2.mono (by simp;omega))))
     refine ret_pair Tryz.results69 rfl rfl rfl (put5_var hV2 _ _ _ _ _) ?_
     rw[HR.out]
     refine⟨_,_,_,_,_,rfl,below_put5 hB2 _ _ _ _ _,?_⟩
     refine rex_mono (rex_frame t _ _ (fun k hk=>?_) (hx2 w1 hx)) fun k hk=>?_
     ·have h1:=hk.1;have h2:=hk.2;exact (put5_block _ (by omega) _ _ _ _ _).trans (hb2.block k (by simp;omega))
     ·have h1:=hk.1;have h2:=hk.2;have h3:=hb2.size;simp at h3
      exact⟨by omega,by simp;omega⟩
    ·have HR:Hid (R=none):=by show R=_;rw[hR];unfold wholeV;rw[hq];simp[hd]
     have d1:decide ((12:Int)<dep t)=true:=decide_eq_true (by omega);have d2:decide (12<dep t)=true:=decide_eq_true (by omega);clear hR hd
     go_enter Tryz.func69,Tryz.ntmps69
     go_wp2_with (first|(go_at_call 120;refine (hP 0 _ hC0 (Nat.zero_le _)).mono ?_;intro e w1 h1;obtain⟨a,b,c,d,u,rfl,hx,hC,hgr⟩:=tells_some h1 hq;obtain⟨y1,y2,y3,y4,y5,y6,y7,rfl,rfl,rfl,rfl,rfl⟩:=rex_cells hx;obtain⟨hV1,hB1,hl1,hl2⟩:=hK w1 hgr;have k0:=hC.text;have k1:=hC.pos;have k2:=hC.bad;have u0:=hV1.frozen;have v0:=hV1.cell)|(go_at_call 121;refine (sDeep (dep t) t (Nat.le_refl _) (by omega) _ (Iv (w.heap.size+2) w1.heap.size) _ _ _ _ _ (hx2 w1 hx) (fun k hk=>by have:=hk.2;simp;omega)).mono ?_;rintro e w2 ⟨rfl,hb2⟩;have hV2:=hV1.kept ((hb2.block _ (by simp;omega)).trans (Below.heap_alloc _ _ _ hl1));have u2:=hV2.frozen;have v2:=hV2.cell;have hr2:=(heap_alloc_last w1 (.cells #[.int .i64 y1,.int .i64 y2,.string ⟨y3.toArray⟩,.bool y4,.slice y5 y6 y7] 103));have hV3:Var w2 w1.heap.size (.int .i64 y1) (.int .i64 y2) (.string ⟨y3.toArray⟩) (.bool y4) (.slice y5 y6 y7):=(hb2.block _ (by simp)).trans hr2;have r0:=hV3.cell.1;have r1:=hV3.cell.2.1;have r2:=hV3.cell.2.2.1;have r3:=hV3.cell.2.2.2.1;have r4:=hV3.cell.2.2.2.2;have hB2:Below w.heap.size w w2:=(hB1.alloc (by omega) _).trans (hb2.mono (by simp;omega))))
     refine ret_pair Tryz.results69 rfl rfl rfl (put5_var hV2 _ _ _ _ _) ?_
     rw[HR.out]
     exact⟨rfl,below_put5 hB2 _ _ _ _ _⟩
   ·have HR:Hid (R=none):=by show R=_;rw[hR];unfold wholeV;rw[hq];simp[hj]
    have j1:((j:Int) != (s.size:Int))=true:=by simp;omega
    have j2:((j:Int)==(s.size:Int))=false:=by simp;omega
    clear hR
    go_enter Tryz.func69,Tryz.ntmps69
    go_wp2_with (go_at_call 120;refine (hP 0 _ hC0 (Nat.zero_le _)).mono ?_;intro e w1 h1;obtain⟨a,b,c,d,u,rfl,hx,hC,hgr⟩:=tells_some h1 hq;obtain⟨y1,y2,y3,y4,y5,y6,y7,rfl,rfl,rfl,rfl,rfl⟩:=rex_cells hx;obtain⟨hV1,hB1,hl1,hl2⟩:=hK w1 hgr;have k0:=hC.text;have k1:=hC.pos;have k2:=hC.bad;have u0:=hV1.frozen;have v0:=hV1.cell)
    refine ret_pair Tryz.results69 rfl rfl rfl ((put5_var hV1 _ _ _ _ _).kept (Below.heap_alloc _ _ _ ?_)) ?_
    ·simpa using hl1
    ·rw[HR.out]
     exact⟨rfl,(below_put5 hB1 _ _ _ _ _).alloc (by rw[put5_size];omega) _⟩

end Rx
end Go.Proofs.YtllbachngocmnaaGreatDoor
