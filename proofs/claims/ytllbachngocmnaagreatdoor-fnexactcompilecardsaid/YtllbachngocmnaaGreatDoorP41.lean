/-
  The specification's parser: the walk over a piece.
-/
import Derived.Test.YtllbachngocmnaaGreatDoorP39
namespace Go.Proofs.YtllbachngocmnaaGreatDoor
open Go.RowKit
namespace Rx

set_option maxHeartbeats 2000000 in
set_option maxRecDepth 100000 in
theorem sPiece {p:Nat}{s:ByteArray}{deep:Nat}{A:Nat→Option (Data × Nat)}(hs:s.size≤1000)(hin:∀ i t j,A i=some (t,j)→i<j∧j≤s.size)
  (hAt:TellsF 204 p s deep A):TellsF 178 p s deep (pieceAt (gOf s) s.size A):=by
 intro i w h hi;have hA:=At.start h;have hp:=h.lt
 obtain⟨R,hR⟩:∃ R,R=pieceAt (gOf s) s.size A i:=⟨_,rfl⟩
 rw[← hR]
 unfold pieceAt at hR;rcases hf:A i with _|⟨t,j⟩
 ·rw[hf] at hR
  have HR:Hid _:=hR;clear hR
  go_enter Tryz.func178,Tryz.ntmps178
  go_wp2_with (go_at_call 204;refine (hAt i _ hA.cs hi).mono ?_;intro e w1 h1;obtain⟨a,b,c,d,u,j',rfl,h5,hC,hgr⟩:=tells_none h1 hf;have hA1:=hA.grown hgr hC;obtain⟨y1,y2,y3,y4,y5,y6,y7,rfl,rfl,rfl,rfl,rfl⟩:=h5)
  have l2:=hA1.size;have hA2:=hA1.alloc (.cells #[.int .i64 y1,.int .i64 y2,.string y3,.bool y4,.slice y5 y6 y7] 103);have hV2:Var (w1.alloc (.cells #[.int .i64 y1,.int .i64 y2,.string y3,.bool y4,.slice y5 y6 y7] 103)) w1.heap.size (.int .i64 y1) (.int .i64 y2) (.string y3) (.bool y4) (.slice y5 y6 y7):=heap_alloc_last _ _
  obtain⟨W,hW⟩:∃ W,W=w1.alloc (.cells #[.int .i64 y1,.int .i64 y2,.string y3,.bool y4,.slice y5 y6 y7] 103):=⟨_,rfl⟩
  rw[← hW] at hA2 hV2 ⊢
  have hq:w.heap.size<w1.heap.size:=l2;clear hW
  go_loopw [6,7] (fun _ _ wr=>wr=W) (fun _ _ _=>0)
  case atStart=>rfl
  case round =>
   subst hrel;have k2:=hA2.cs.bad;have v0:=hA2.res.cell;have u0:=hA2.res.frozen;have v1:=hV2.cell.1;have v2:=hV2.cell.2.1;have v3:=hV2.cell.2.2.1;have v4:=hV2.cell.2.2.2.1;have v5:=hV2.cell.2.2.2.2;go_wp2_with fail;refine At.retBad ?_ Tryz.results178 ⟨y1,y2,y3,y4,y5,y6,y7,rfl,rfl,rfl,rfl,rfl⟩ HR.out ?_ ?_
   ·exact⟨_,hA2⟩
   ·rfl
   ·rfl
 ·rw[hf] at hR
  obtain⟨RS,hRS⟩:∃ RS,stars (gOf s) (s.size+1) t j=RS:=⟨_,rfl⟩
  simp only[hRS] at hR;have HR:Hid _:=hR;have HL:Hid _:=hRS
  obtain⟨j1,j2⟩:=hin i t j hf
  clear hR hRS
  go_enter Tryz.func178,Tryz.ntmps178
  go_wp2_with (go_at_call 204;refine (hAt i _ hA.cs hi).mono ?_;intro e w1 h1;obtain⟨a,b,c,d,u,rfl,hx,hC,hgr⟩:=tells_some h1 hf;have hA1:=hA.grown hgr hC;obtain⟨y1,y2,y3,y4,y5,y6,y7,rfl,rfl,rfl,rfl,rfl⟩:=rex_cells hx)
  have hq:w.heap.size<w1.heap.size:=hA1.size;have hpc0:Pc p w1.heap.size s w j t (.int .i64 y1) (.int .i64 y2) (.string ⟨y3.toArray⟩) (.bool y4) (.slice y5 y6 y7) (w1.alloc (.cells #[.int .i64 y1,.int .i64 y2,.string ⟨y3.toArray⟩,.bool y4,.slice y5 y6 y7] 103)):=by
   refine⟨hA1.alloc _,heap_alloc_last _ _,?_,hq⟩
   refine rex_mono (rex_frame t _ _ (fun x hx=>Below.heap_alloc _ _ _ hx.2) hx) fun x hx=>?_;have x1:=hx.1;have x2:=hx.2;simp at x1
   exact⟨⟨x1,by simp;omega⟩,by omega⟩
  obtain⟨q,hqq⟩:∃ q,q=w1.heap.size:=⟨_,rfl⟩
  obtain⟨W,hW⟩:∃ W,W=w1.alloc (.cells #[.int .i64 y1,.int .i64 y2,.string ⟨y3.toArray⟩,.bool y4,.slice y5 y6 y7] 103):=⟨_,rfl⟩
  rw[← hW,← hqq] at hpc0
  rw[← hW,← hqq]
  rw[← hqq] at hq
  have hj0:Hid _:=j2;clear hW hqq hx hC hgr hA1 hA h hi hf hin hAt j1 j2 h1
  go_loopw [6,7] (fun _ _ wr=>∃ (k f:Nat) (t':Data) (a b c d u:Value),Pc p q s w k t' a b c d u wr∧k≤s.size∧s.size<f+k∧stars (gOf s) f t' k=RS) (fun _ _ wr=>s.size - posC p wr)
  case atStart=>exact⟨j,s.size+1,t,_,_,_,_,_,hpc0,hj0.out,by omega,HL.out⟩
  case round =>
   clear hpc0 HL hj0
   obtain⟨k,f,t',a,b,c,d,u,hpc,hk,hfk,hRk⟩:=hrel
   obtain⟨f,rfl⟩:∃ f',f=f'+1:=⟨f - 1,by omega⟩
   rw[stars_step] at hRk
   obtain⟨op,cc,ss,no,ao,n,cap,rfl,rfl,rfl,rfl,rfl⟩:=rex_cells hpc.rex
   have HP:Hid (posC p wr=k):=posC_is hpc.at'.cs;have k1:=hpc.at'.cs.pos;have k2:=hpc.at'.cs.bad;have g1:=hpc.at'.cs.fr1;have lq:=hpc.var.lt;have v1:=hpc.var.cell.1;have v2:=hpc.var.cell.2.1;have v3:=hpc.var.cell.2.2.1;have v4:=hpc.var.cell.2.2.2.1;have v5:=hpc.var.cell.2.2.2.2;have uq:=hpc.var.frozen;have bk:(k:Int)≤1000:=by omega
   obtain⟨k',hk'⟩:∃ k',k'=k+1:=⟨_,rfl⟩
   have t1:(k:Int)+1=(k':Int):=by omega
   rw[← hk'] at hRk
   by_cases q42:gOf s k=42
   ·rw[if_pos q42] at hRk
    have HK:Hid _:=hRk;have klt:=in_of (s:=s) (i:=k) (by omega);have HK2:Hid _:=hk';have d42:decide (gOf s k=42)=true:=decide_eq_true q42;clear hRk hk' q42
    go_wp2_with (first|(go_at_call 162;with_reducible refine (sNow hpc.at'.cs hk 42 42 (by omega) rfl).mono ?_;rintro e wn ⟨rfl,nn42,rfl⟩)|(go_at_call 162;with_reducible refine (sNow (hpc.at'.cs.drewN _) hk 43 43 (by omega) rfl).mono ?_;rintro e wn ⟨rfl,nn43,rfl⟩)|(go_at_call 162;with_reducible refine (sNow (hpc.at'.cs.drewN _) hk 63 63 (by omega) rfl).mono ?_;rintro e wn ⟨rfl,nn63,rfl⟩))
    go_roundw
    case rel =>
     refine⟨k',f,one 8 t',_,_,_,_,_,(hpc.drewN _).next k' 8,?_,?_,HK.out⟩
     ·have:=HK2.out;omega
     ·have:=HK2.out;omega
    case measure=>exact meas HP.out (posC_is ((hpc.drewN _).next k' 8).at'.cs) klt (by have:=HK2.out;omega)
   rw[if_neg q42] at hRk
   by_cases q43:gOf s k=43
   ·rw[if_pos q43] at hRk
    have HK:Hid _:=hRk;have klt:=in_of (s:=s) (i:=k) (by omega);have HK2:Hid _:=hk';have d42:decide (gOf s k=42)=false:=decide_eq_false q42;have d43:decide (gOf s k=43)=true:=decide_eq_true q43;clear hRk hk' q42 q43
    go_wp2_with (first|(go_at_call 162;with_reducible refine (sNow hpc.at'.cs hk 42 42 (by omega) rfl).mono ?_;rintro e wn ⟨rfl,nn42,rfl⟩)|(go_at_call 162;with_reducible refine (sNow (hpc.at'.cs.drewN _) hk 43 43 (by omega) rfl).mono ?_;rintro e wn ⟨rfl,nn43,rfl⟩)|(go_at_call 162;with_reducible refine (sNow (hpc.at'.cs.drewN _) hk 63 63 (by omega) rfl).mono ?_;rintro e wn ⟨rfl,nn63,rfl⟩))
    go_roundw
    case rel =>
     refine⟨k',f,one 9 t',_,_,_,_,_,(hpc.drewN _).next k' 9,?_,?_,HK.out⟩
     ·have:=HK2.out;omega
     ·have:=HK2.out;omega
    case measure=>exact meas HP.out (posC_is ((hpc.drewN _).next k' 9).at'.cs) klt (by have:=HK2.out;omega)
   rw[if_neg q43] at hRk
   by_cases q63:gOf s k=63
   ·rw[if_pos q63] at hRk
    have HK:Hid _:=hRk;have klt:=in_of (s:=s) (i:=k) (by omega);have HK2:Hid _:=hk';have d42:decide (gOf s k=42)=false:=decide_eq_false q42;have d43:decide (gOf s k=43)=false:=decide_eq_false q43;have d63:decide (gOf s k=63)=true:=decide_eq_true q63;clear hRk hk' q42 q43 q63
    go_wp2_with (first|(go_at_call 162;with_reducible refine (sNow hpc.at'.cs hk 42 42 (by omega) rfl).mono ?_;rintro e wn ⟨rfl,nn42,rfl⟩)|(go_at_call 162;with_reducible refine (sNow (hpc.at'.cs.drewN _) hk 43 43 (by omega) rfl).mono ?_;rintro e wn ⟨rfl,nn43,rfl⟩)|(go_at_call 162;with_reducible refine (sNow (hpc.at'.cs.drewN _) hk 63 63 (by omega) rfl).mono ?_;rintro e wn ⟨rfl,nn63,rfl⟩))
    go_roundw
    case rel =>
     refine⟨k',f,one 10 t',_,_,_,_,_,(hpc.drewN _).next k' 10,?_,?_,HK.out⟩
     ·have:=HK2.out;omega
     ·have:=HK2.out;omega
    case measure=>exact meas HP.out (posC_is ((hpc.drewN _).next k' 10).at'.cs) klt (by have:=HK2.out;omega)
   rw[if_neg q63] at hRk
   have d42:decide (gOf s k=42)=false:=decide_eq_false q42;have d43:decide (gOf s k=43)=false:=decide_eq_false q43;have d63:decide (gOf s k=63)=false:=decide_eq_false q63;have HK:Hid (R=some (t',k)):=by show R=_;rw[HR.out,← hRk]
   have v0:=hpc.at'.res.cell;have u0:=hpc.at'.res.frozen;clear hRk hk' q42 q43 q63
   go_wp2_with (first|(go_at_call 162;with_reducible refine (sNow hpc.at'.cs hk 42 42 (by omega) rfl).mono ?_;rintro e wn ⟨rfl,nn42,rfl⟩)|(go_at_call 162;with_reducible refine (sNow (hpc.at'.cs.drewN _) hk 43 43 (by omega) rfl).mono ?_;rintro e wn ⟨rfl,nn43,rfl⟩)|(go_at_call 162;with_reducible refine (sNow (hpc.at'.cs.drewN _) hk 63 63 (by omega) rfl).mono ?_;rintro e wn ⟨rfl,nn63,rfl⟩))
   refine At.retRex (j:=k) (lo:=w.heap.size+1) ?_ Tryz.results178 (rex_mono (hpc.drewN _).rex fun x hx=>⟨hx.1.1,hx.1.2⟩) ?_ HK.out ?_ ?_
   ·exact (hpc.drewN _).at'
   ·omega
   ·rfl
   ·rfl

end Rx
end Go.Proofs.YtllbachngocmnaaGreatDoor
