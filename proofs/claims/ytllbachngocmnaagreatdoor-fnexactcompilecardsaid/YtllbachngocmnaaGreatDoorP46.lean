/-
  The specification's l10Args, l10Rexes, l10Line.
-/
import Derived.Test.YtllbachngocmnaaGreatDoorP43
namespace Go.Proofs.YtllbachngocmnaaGreatDoor
open Go.RowKit
namespace Ck
open Nd Ty

def TellsN (f:Nat)(g:Data→Bool)(t:Data):Prop:=∀ (w:World) (S:Nat→Prop) (a b c u:Value),NodeIs w t S [a,b,c,u]→(∀ k,S k→k<w.heap.size)→siz t≤1048576→(∀ x∈subs t,opOf x=21→2≤(kidsOf x).length) →
 Calls Tryz.prog f #[.agg #[a,b,c,u]] w fun e w'=>e=.returned (.bool (g t))∧Below w.heap.size w w'

theorem kid_read {w:World}{t:Data}{S:Nat→Prop}{ao:Option Addr}{cap:Nat}{xs:List Value}(ho:w.ownsRow 0 51 4 (.slice ao (kidsOf t).length cap) (kidsOf t).length xs)(hx:NodesIs w (kidsOf t) (fun k=>S k∧(Value.slice ao (kidsOf t).length cap).ownBlock≠some k) xs)(hS:∀ k,S k→k<w.heap.size)
  {w':World} (hb:Below w.heap.size w w') {i:Nat} {k:Data} (hi:(kidsOf t)[i]?=some k):∃ (S1:Nat→Prop) (g:Nat) (ao':Option Addr) (cap':Nat),ao=some ⟨g,0,none⟩∧w'.cell? ⟨g,i*4,none⟩=some (.int .i64 (opOf k))∧w'.cell? ⟨g,i*4+1,none⟩=some (.int .i64 (numOf k))∧w'.cell? ⟨g,i*4+2,none⟩=some (.string ⟨(txtOf k).toArray⟩)∧w'.cell? ⟨g,i*4+3,none⟩=some (.slice ao' (kidsOf k).length cap') ∧
   NodeIs w' k S1 [.int .i64 (opOf k),.int .i64 (numOf k),.string ⟨(txtOf k).toArray⟩,.slice ao' (kidsOf k).length cap']∧∀ j,S1 j→j<w'.heap.size:=by
 obtain⟨S1,x0,x1,x2,x3,y0,y1,y2,y3,hn,hs1⟩:=nodes_at hx hi
 obtain⟨g,rfl,hg,hcc⟩:=row_cells ho ((List.getElem?_eq_some_iff.1 hi).1)
 have cell:∀ j x,xs[j]?=some x→w'.cell? ⟨g,j,none⟩=some x:=fun j x hx=>(hb.cell (p:=⟨g,j,none⟩) hg).trans (hcc j x hx);have hlt:∀ j,S1 j→j<w.heap.size:=fun j hj=>hS j (hs1 j hj).1
 obtain⟨ao',cap',xs',rfl,rfl,rfl,rfl,-,-⟩:=op_form hn
 exact⟨S1,g,ao',cap',rfl,cell _ _ y0,cell _ _ y1,cell _ _ y2,cell _ _ y3,node_frame _ _ _ (fun j hj=>hb.block j (hlt j hj)) hn,fun j hj=>Nat.lt_of_lt_of_le (hlt j hj) hb.size⟩

theorem argsTs_step (ks:List Data)(k:Nat)(t:Data)(h:ks[k]?=some t):argsTs (ks.drop k)=(argsT t&&argsTs (ks.drop (k+1))):=by
 have hl:=(List.getElem?_eq_some_iff.1 h).1
 rw[List.drop_eq_getElem_cons hl,argsTs]
 have:ks[k]=t:=by rw[List.getElem?_eq_getElem hl] at h;exact Option.some.inj h
 rw[this]
theorem rexTs_step (ks:List Data)(k:Nat)(t:Data)(h:ks[k]?=some t):rexTs (ks.drop k)=(rexT t&&rexTs (ks.drop (k+1))):=by
 have hl:=(List.getElem?_eq_some_iff.1 h).1
 rw[List.drop_eq_getElem_cons hl,rexTs]
 have:ks[k]=t:=by rw[List.getElem?_eq_getElem hl] at h;exact Option.some.inj h
 rw[this]
theorem argsT_nd {w:World}{t:Data}{S:Nat→Prop}{cs:List Value}(h:NodeIs w t S cs):argsT t=(!argsB t&&argsTs (kidsOf t)):=by
 obtain⟨op,n,s,ks,rfl⟩:=node_node h
 unfold nd
 rw[argsT]
 rfl

set_option maxHeartbeats 2000000 in
set_option maxRecDepth 100000 in
theorem args_of {t:Data}(ih:∀ k∈kidsOf t,TellsN 38 argsT k):TellsN 38 argsT t:=by
 intro w S a b c u h hS hsz hf;have hT:=argsT_nd h;have hlen:=len_siz t
 obtain⟨ao,cap,xs,rfl,rfl,rfl,rfl,ho,hx⟩:=op_form h
 have bl:((kidsOf t).length:Int)≤1048576:=by omega
 obtain⟨o1,ho1⟩:∃ o1,o1=Obj.cells #[.int .i64 (opOf t),.int .i64 (numOf t),.string ⟨(txtOf t).toArray⟩,.slice ao (kidsOf t).length cap] 51:=⟨_,rfl⟩
 have hb1:Below w.heap.size w (w.alloc o1):=(Below.refl _ w).alloc (Nat.le_refl _) _;have te0:(w.alloc o1).cell? ⟨w.heap.size,3,none⟩=some (.slice ao (kidsOf t).length cap):=by have hh:=heap_new w o1;unfold World.cell?;simp only[hh];rw[ho1];rfl
 have hkid:∀ (w':World),Below w.heap.size w w'→∀ i k,(kidsOf t)[i]?=some k→_:=fun w' hb i k hi=>kid_read ho hx hS hb hi;have hsub:∀ k∈kidsOf t,siz k≤1048576∧∀ x∈subs k,opOf x=21→2≤(kidsOf x).length:=fun k hk=>⟨by have:=siz_kid hk;omega,fun x hx=>hf x (sub_kid hk hx)⟩;have e1:(((kidsOf t).length:Int)==1)=decide ((kidsOf t).length=1):=by by_cases h:(kidsOf t).length=1 <;> simp[h] <;> omega
 have e2:(((kidsOf t).length:Int)==2)=decide ((kidsOf t).length=2):=by by_cases h:(kidsOf t).length=2 <;> simp[h] <;> omega
 have e3:(((kidsOf t).length:Int)==3)=decide ((kidsOf t).length=3):=by by_cases h:(kidsOf t).length=3 <;> simp[h] <;> omega
 obtain⟨R,hR⟩:∃ R,R=argsT t:=⟨_,rfl⟩
 rw[← hR] at hT ⊢
 obtain⟨N,hN⟩:∃ N,N=argsTs (kidsOf t):=⟨_,rfl⟩
 have HN:Hid (N=argsTs (kidsOf t)):=hN
 rw[← hN] at hT
 subst ho1;clear h ho hx hS hsz hf hlen hR hN
 by_cases hbad:argsB t=true
 ·have HR:Hid (R=false):=by show _=_;rw[hT,hbad];rfl
  have hop:opOf t=28∧soMany (txtOf t) (kidsOf t).length=false:=by simpa [argsB] using hbad
  clear hT hbad ih hkid hsub HN
  obtain⟨h28,hso⟩:=hop
  unfold soMany at hso
  rw[h28]
  by_cases hi:txtOf t=[105,110,100,101,120]
  ·rw[if_pos hi] at hso
   rw[hso] at e2
   rw[hi]
   clear hso
   go_enter Tryz.func38,Tryz.ntmps38
   go_wp2_with fail;go_ret
   exact⟨by rw[HR.out];rfl,(Below.refl _ w).alloc (Nat.le_refl _) _⟩
  ·rw[if_neg hi] at hso
   by_cases hs:txtOf t=[115,117,98,115,116,114]
   ·rw[if_pos hs,Bool.or_eq_false_iff] at hso
    rw[hso.1] at e2
    rw[hso.2] at e3
    have b2:(((kidsOf t).length:Int) != 2)=true:=by simp only[bne,e2];rfl
    have b3:(((kidsOf t).length:Int) != 3)=true:=by simp only[bne,e3];rfl
    rw[hs]
    clear hso hi e2 e3
    go_enter Tryz.func38,Tryz.ntmps38
    go_wp2_with fail;go_ret
    exact⟨by rw[HR.out];rfl,(Below.refl _ w).alloc (Nat.le_refl _) _⟩
   ·rw[if_neg hs] at hso
    rw[hso] at e1
    have i1:(txtOf t==[105,110,100,101,120])=false:=by simpa using hi
    have i2:(txtOf t==[115,117,98,115,116,114])=false:=by simpa using hs
    clear hso hi hs
    go_enter Tryz.func38,Tryz.ntmps38
    go_wp2_with fail;go_ret
    exact⟨by rw[HR.out];rfl,(Below.refl _ w).alloc (Nat.le_refl _) _⟩
 ·have HR:Hid (R=N):=by show _=_;rw[hT];simp at hbad;simp[hbad]
  have hways:(opOf t==28)=false∨(opOf t=28∧((txtOf t=[105,110,100,101,120]∧(((kidsOf t).length:Int)==2)=true)∨(txtOf t=[115,117,98,115,116,114]∧((((kidsOf t).length:Int)==2)=true∨((((kidsOf t).length:Int)==2)=false∧(((kidsOf t).length:Int)==3)=true)))∨((txtOf t==[105,110,100,101,120])=false∧(txtOf t==[115,117,98,115,116,114])=false∧(((kidsOf t).length:Int)==1)=true))):=by
   by_cases h28:opOf t=28
   ·have hso:soMany (txtOf t) (kidsOf t).length=true:=by simpa [argsB,h28] using hbad
    unfold soMany at hso;refine .inr ⟨h28,?_⟩
    rw[e1,e2,e3]
    split at hso
    ·exact .inl ⟨by assumption,hso⟩
    ·split at hso
     ·refine .inr (.inl ⟨by assumption,?_⟩)
      rw[Bool.or_eq_true] at hso
      by_cases q:decide ((kidsOf t).length=2)=true
      ·exact .inl q
      ·exact .inr ⟨by simpa using q,hso.resolve_left q⟩
     ·exact .inr (.inr ⟨by simpa,by simpa,hso⟩)
   ·exact .inl (by simpa using h28)
  have hlens:∀ n:Nat,(((kidsOf t).length:Int)==(n:Int))=true→(kidsOf t).length=n:=fun n h=>by have:=eq_of_beq h;omega
  clear hbad hT e1 e2 e3;rcases hways with h1|⟨h1,⟨h2,h3⟩|⟨h2,h3|⟨h3,h4⟩⟩|⟨h2,h3,h4⟩⟩
  ·have HL:Hid ((kidsOf t).length=(kidsOf t).length):=rfl;clear hlens
   go_enter Tryz.func38,Tryz.ntmps38
   go_wp2_with fail
   go_loopw [4] (fun i wr=>∃ k:Nat,k≤(kidsOf t).length∧i=.int .i64 k∧N=argsTs ((kidsOf t).drop k)∧Below w.heap.size w wr∧wr.cell? ⟨w.heap.size,3,none⟩=some (.slice ao (kidsOf t).length cap)) (fun i _=>(kidsOf t).length - (intOf i).toNat)
   case atStart=>exact⟨0,Nat.zero_le _,rfl,by rw[List.drop_zero];exact HN.out,hb1,te0⟩
   case round =>
    clear te0 hb1
    obtain⟨k,hk,rfl,hNk,tb,te⟩:=hrel
    by_cases hkl:k<(kidsOf t).length
    ·have hkl':k<(kidsOf t).length:=by have:=HL.out;omega
     have hki:(kidsOf t)[k]?=some (kidsOf t)[k]:=List.getElem?_eq_getElem hkl'
     rw[argsTs_step _ _ _ hki] at hNk
     obtain⟨S1,g,ao',cap',rfl,c0,c1,c2,c3,hn,hlt⟩:=hkid wr tb k _ hki
     obtain⟨q1,q2⟩:=hsub _ (List.getElem_mem hkl')
     have call:=ih _ (List.getElem_mem hkl') wr S1 _ _ _ _ hn hlt q1 q2;have hwl:w.heap.size<wr.heap.size:=World.block_lt_of_cell? _ _ te;have bk:(k:Int)<(kidsOf t).length:=by omega
     have HNk:Hid (N=(argsT (kidsOf t)[k]&&argsTs ((kidsOf t).drop (k+1)))):=hNk;clear hNk hn hlt q1 q2 hki hkid hsub ih HN;generalize argsT (kidsOf t)[k]=A at *;generalize opOf (kidsOf t)[k]=ok at *;generalize numOf (kidsOf t)[k]=nk at *;generalize txtOf (kidsOf t)[k]=tk at *;generalize (kidsOf (kidsOf t)[k]).length=Lk at *;clear hkl';cases A
     ·go_wp2_with (go_at_call 38;refine call.mono ?_;rintro e w2 ⟨rfl,hb2⟩)
      go_ret
      exact⟨by rw[HR.out,HNk.out];rfl,tb.trans (hb2.mono tb.size)⟩
     ·go_wp2_with (go_at_call 38;refine call.mono ?_;rintro e w2 ⟨rfl,hb2⟩)
      go_roundw
      case rel=>exact⟨k+1,hkl,by go_num,HNk.out.trans rfl,tb.trans (hb2.mono tb.size),(hb2.cell (p:=⟨w.heap.size,3,none⟩) hwl).trans te⟩
      case measure=>simp[intOf];omega
    ·have hke:k=(kidsOf t).length:=by have:=HL.out;omega
     rw[hke,List.drop_length] at hNk
     have HNk:Hid (N=true):=hNk;have hkn:¬ (k:Int)<(kidsOf t).length:=by omega
     clear hNk hkid hsub ih HN hke;go_wp2_with fail;go_ret
     exact⟨by rw[HR.out,HNk.out];rfl,tb⟩
  ·have HL:Hid ((kidsOf t).length=2):=hlens 2 h3
   rw[HL.out] at te0 hb1 ⊢
   rw[h1,h2] at te0 hb1 ⊢
   clear hlens h3 bl h1 h2
   go_enter Tryz.func38,Tryz.ntmps38
   go_wp2_with fail
   go_loopw [4] (fun i wr=>∃ k:Nat,k≤2∧i=.int .i64 k∧N=argsTs ((kidsOf t).drop k)∧Below w.heap.size w wr∧wr.cell? ⟨w.heap.size,3,none⟩=some (.slice ao 2 cap)) (fun i _=>2 - (intOf i).toNat)
   case atStart=>exact⟨0,Nat.zero_le _,rfl,by rw[List.drop_zero];exact HN.out,hb1,te0⟩
   case round =>
    clear te0 hb1
    obtain⟨k,hk,rfl,hNk,tb,te⟩:=hrel
    by_cases hkl:k<2
    ·have hkl':k<(kidsOf t).length:=by have:=HL.out;omega
     have hki:(kidsOf t)[k]?=some (kidsOf t)[k]:=List.getElem?_eq_getElem hkl'
     rw[argsTs_step _ _ _ hki] at hNk
     obtain⟨S1,g,ao',cap',rfl,c0,c1,c2,c3,hn,hlt⟩:=hkid wr tb k _ hki
     obtain⟨q1,q2⟩:=hsub _ (List.getElem_mem hkl')
     have call:=ih _ (List.getElem_mem hkl') wr S1 _ _ _ _ hn hlt q1 q2;have hwl:w.heap.size<wr.heap.size:=World.block_lt_of_cell? _ _ te;have bk:(k:Int)<2:=by omega
     have HNk:Hid (N=(argsT (kidsOf t)[k]&&argsTs ((kidsOf t).drop (k+1)))):=hNk;clear hNk hn hlt q1 q2 hki hkid hsub ih HN;generalize argsT (kidsOf t)[k]=A at *;generalize opOf (kidsOf t)[k]=ok at *;generalize numOf (kidsOf t)[k]=nk at *;generalize txtOf (kidsOf t)[k]=tk at *;generalize (kidsOf (kidsOf t)[k]).length=Lk at *;clear hkl';cases A
     ·go_wp2_with (go_at_call 38;refine call.mono ?_;rintro e w2 ⟨rfl,hb2⟩)
      go_ret
      exact⟨by rw[HR.out,HNk.out];rfl,tb.trans (hb2.mono tb.size)⟩
     ·go_wp2_with (go_at_call 38;refine call.mono ?_;rintro e w2 ⟨rfl,hb2⟩)
      go_roundw
      case rel=>exact⟨k+1,hkl,by go_num,HNk.out.trans rfl,tb.trans (hb2.mono tb.size),(hb2.cell (p:=⟨w.heap.size,3,none⟩) hwl).trans te⟩
      case measure=>simp[intOf];omega
    ·have hke:k=(kidsOf t).length:=by have:=HL.out;omega
     rw[hke,List.drop_length] at hNk
     have HNk:Hid (N=true):=hNk;have hkn:¬ (k:Int)<2:=by omega
     clear hNk hkid hsub ih HN hke;go_wp2_with fail;go_ret
     exact⟨by rw[HR.out,HNk.out];rfl,tb⟩
  ·have HL:Hid ((kidsOf t).length=2):=hlens 2 h3
   rw[HL.out] at te0 hb1 ⊢
   rw[h1,h2] at te0 hb1 ⊢
   clear hlens h3 bl h1 h2
   go_enter Tryz.func38,Tryz.ntmps38
   go_wp2_with fail
   go_loopw [4] (fun i wr=>∃ k:Nat,k≤2∧i=.int .i64 k∧N=argsTs ((kidsOf t).drop k)∧Below w.heap.size w wr∧wr.cell? ⟨w.heap.size,3,none⟩=some (.slice ao 2 cap)) (fun i _=>2 - (intOf i).toNat)
   case atStart=>exact⟨0,Nat.zero_le _,rfl,by rw[List.drop_zero];exact HN.out,hb1,te0⟩
   case round =>
    clear te0 hb1
    obtain⟨k,hk,rfl,hNk,tb,te⟩:=hrel
    by_cases hkl:k<2
    ·have hkl':k<(kidsOf t).length:=by have:=HL.out;omega
     have hki:(kidsOf t)[k]?=some (kidsOf t)[k]:=List.getElem?_eq_getElem hkl'
     rw[argsTs_step _ _ _ hki] at hNk
     obtain⟨S1,g,ao',cap',rfl,c0,c1,c2,c3,hn,hlt⟩:=hkid wr tb k _ hki
     obtain⟨q1,q2⟩:=hsub _ (List.getElem_mem hkl')
     have call:=ih _ (List.getElem_mem hkl') wr S1 _ _ _ _ hn hlt q1 q2;have hwl:w.heap.size<wr.heap.size:=World.block_lt_of_cell? _ _ te;have bk:(k:Int)<2:=by omega
     have HNk:Hid (N=(argsT (kidsOf t)[k]&&argsTs ((kidsOf t).drop (k+1)))):=hNk;clear hNk hn hlt q1 q2 hki hkid hsub ih HN;generalize argsT (kidsOf t)[k]=A at *;generalize opOf (kidsOf t)[k]=ok at *;generalize numOf (kidsOf t)[k]=nk at *;generalize txtOf (kidsOf t)[k]=tk at *;generalize (kidsOf (kidsOf t)[k]).length=Lk at *;clear hkl';cases A
     ·go_wp2_with (go_at_call 38;refine call.mono ?_;rintro e w2 ⟨rfl,hb2⟩)
      go_ret
      exact⟨by rw[HR.out,HNk.out];rfl,tb.trans (hb2.mono tb.size)⟩
     ·go_wp2_with (go_at_call 38;refine call.mono ?_;rintro e w2 ⟨rfl,hb2⟩)
      go_roundw
      case rel=>exact⟨k+1,hkl,by go_num,HNk.out.trans rfl,tb.trans (hb2.mono tb.size),(hb2.cell (p:=⟨w.heap.size,3,none⟩) hwl).trans te⟩
      case measure=>simp[intOf];omega
    ·have hke:k=(kidsOf t).length:=by have:=HL.out;omega
     rw[hke,List.drop_length] at hNk
     have HNk:Hid (N=true):=hNk;have hkn:¬ (k:Int)<2:=by omega
     clear hNk hkid hsub ih HN hke;go_wp2_with fail;go_ret
     exact⟨by rw[HR.out,HNk.out];rfl,tb⟩
  ·have HL:Hid ((kidsOf t).length=3):=hlens 3 h4
   rw[HL.out] at te0 hb1 ⊢
   rw[h1,h2] at te0 hb1 ⊢
   clear hlens h3 h4 bl h1 h2
   go_enter Tryz.func38,Tryz.ntmps38
   go_wp2_with fail
   go_loopw [4] (fun i wr=>∃ k:Nat,k≤3∧i=.int .i64 k∧N=argsTs ((kidsOf t).drop k)∧Below w.heap.size w wr∧wr.cell? ⟨w.heap.size,3,none⟩=some (.slice ao 3 cap)) (fun i _=>3 - (intOf i).toNat)
   case atStart=>exact⟨0,Nat.zero_le _,rfl,by rw[List.drop_zero];exact HN.out,hb1,te0⟩
   case round =>
    clear te0 hb1
    obtain⟨k,hk,rfl,hNk,tb,te⟩:=hrel
    by_cases hkl:k<3
    ·have hkl':k<(kidsOf t).length:=by have:=HL.out;omega
     have hki:(kidsOf t)[k]?=some (kidsOf t)[k]:=List.getElem?_eq_getElem hkl'
     rw[argsTs_step _ _ _ hki] at hNk
     obtain⟨S1,g,ao',cap',rfl,c0,c1,c2,c3,hn,hlt⟩:=hkid wr tb k _ hki
     obtain⟨q1,q2⟩:=hsub _ (List.getElem_mem hkl')
     have call:=ih _ (List.getElem_mem hkl') wr S1 _ _ _ _ hn hlt q1 q2;have hwl:w.heap.size<wr.heap.size:=World.block_lt_of_cell? _ _ te;have bk:(k:Int)<3:=by omega
     have HNk:Hid (N=(argsT (kidsOf t)[k]&&argsTs ((kidsOf t).drop (k+1)))):=hNk;clear hNk hn hlt q1 q2 hki hkid hsub ih HN;generalize argsT (kidsOf t)[k]=A at *;generalize opOf (kidsOf t)[k]=ok at *;generalize numOf (kidsOf t)[k]=nk at *;generalize txtOf (kidsOf t)[k]=tk at *;generalize (kidsOf (kidsOf t)[k]).length=Lk at *;clear hkl';cases A
     ·go_wp2_with (go_at_call 38;refine call.mono ?_;rintro e w2 ⟨rfl,hb2⟩)
      go_ret
      exact⟨by rw[HR.out,HNk.out];rfl,tb.trans (hb2.mono tb.size)⟩
     ·go_wp2_with (go_at_call 38;refine call.mono ?_;rintro e w2 ⟨rfl,hb2⟩)
      go_roundw
      case rel=>exact⟨k+1,hkl,by go_num,HNk.out.trans rfl,tb.trans (hb2.mono tb.size),(hb2.cell (p:=⟨w.heap.size,3,none⟩) hwl).trans te⟩
      case measure=>simp[intOf];omega
    ·have hke:k=(kidsOf t).length:=by have:=HL.out;omega
     rw[hke,List.drop_length] at hNk
     have HNk:Hid (N=true):=hNk;have hkn:¬ (k:Int)<3:=by omega
     clear hNk hkid hsub ih HN hke;go_wp2_with fail;go_ret
     exact⟨by rw[HR.out,HNk.out];rfl,tb⟩
  ·have HL:Hid ((kidsOf t).length=1):=hlens 1 h4
   rw[HL.out] at te0 hb1 ⊢
   rw[h1] at te0 hb1 ⊢
   clear hlens h4 bl h1
   go_enter Tryz.func38,Tryz.ntmps38
   go_wp2_with fail
   go_loopw [4] (fun i wr=>∃ k:Nat,k≤1∧i=.int .i64 k∧N=argsTs ((kidsOf t).drop k)∧Below w.heap.size w wr∧wr.cell? ⟨w.heap.size,3,none⟩=some (.slice ao 1 cap)) (fun i _=>1 - (intOf i).toNat)
   case atStart=>exact⟨0,Nat.zero_le _,rfl,by rw[List.drop_zero];exact HN.out,hb1,te0⟩
   case round =>
    clear te0 hb1
    obtain⟨k,hk,rfl,hNk,tb,te⟩:=hrel
    by_cases hkl:k<1
    ·have hkl':k<(kidsOf t).length:=by have:=HL.out;omega
     have hki:(kidsOf t)[k]?=some (kidsOf t)[k]:=List.getElem?_eq_getElem hkl'
     rw[argsTs_step _ _ _ hki] at hNk
     obtain⟨S1,g,ao',cap',rfl,c0,c1,c2,c3,hn,hlt⟩:=hkid wr tb k _ hki
     obtain⟨q1,q2⟩:=hsub _ (List.getElem_mem hkl')
     have call:=ih _ (List.getElem_mem hkl') wr S1 _ _ _ _ hn hlt q1 q2;have hwl:w.heap.size<wr.heap.size:=World.block_lt_of_cell? _ _ te;have bk:(k:Int)<1:=by omega
     have HNk:Hid (N=(argsT (kidsOf t)[k]&&argsTs ((kidsOf t).drop (k+1)))):=hNk;clear hNk hn hlt q1 q2 hki hkid hsub ih HN;generalize argsT (kidsOf t)[k]=A at *;generalize opOf (kidsOf t)[k]=ok at *;generalize numOf (kidsOf t)[k]=nk at *;generalize txtOf (kidsOf t)[k]=tk at *;generalize (kidsOf (kidsOf t)[k]).length=Lk at *;clear hkl';cases A
     ·go_wp2_with (go_at_call 38;refine call.mono ?_;rintro e w2 ⟨rfl,hb2⟩)
      go_ret
      exact⟨by rw[HR.out,HNk.out];rfl,tb.trans (hb2.mono tb.size)⟩
     ·go_wp2_with (go_at_call 38;refine call.mono ?_;rintro e w2 ⟨rfl,hb2⟩)
      go_roundw
      case rel=>exact⟨k+1,hkl,by go_num,HNk.out.trans rfl,tb.trans (hb2.mono tb.size),(hb2.cell (p:=⟨w.heap.size,3,none⟩) hwl).trans te⟩
      case measure=>simp[intOf];omega
    ·have hke:k=(kidsOf t).length:=by have:=HL.out;omega
     rw[hke,List.drop_length] at hNk
     have HNk:Hid (N=true):=hNk;have hkn:¬ (k:Int)<1:=by omega
     clear hNk hkid hsub ih HN hke;go_wp2_with fail;go_ret
     exact⟨by rw[HR.out,HNk.out];rfl,tb⟩

end Ck
namespace Ck
open Nd Ty

theorem rexT_nd {w:World}{t:Data}{S:Nat→Prop}{cs:List Value}(h:NodeIs w t S cs):rexT t=if opOf t=3 then okRex (txtOf t) else !rexN t&&rexTs (kidsOf t):=by
 obtain⟨op,n,s,ks,rfl⟩:=node_node h
 unfold nd
 rw[rexT]
 rfl

set_option maxHeartbeats 2000000 in
set_option maxRecDepth 100000 in
theorem rexes_of {t:Data}(ih:∀ k∈kidsOf t,TellsN 39 rexT k):TellsN 39 rexT t:=by
 intro w S a b c u h hS hsz hf;have hT:=rexT_nd h;have hlen:=len_siz t;have h21:=hf t (sub_self t)
 obtain⟨ao,cap,xs,rfl,rfl,rfl,rfl,ho,hx⟩:=op_form h
 have bl:((kidsOf t).length:Int)≤1048576:=by omega
 obtain⟨o1,ho1⟩:∃ o1,o1=Obj.cells #[.int .i64 (opOf t),.int .i64 (numOf t),.string ⟨(txtOf t).toArray⟩,.slice ao (kidsOf t).length cap] 51:=⟨_,rfl⟩
 have hb1:Below w.heap.size w (w.alloc o1):=(Below.refl _ w).alloc (Nat.le_refl _) _;have te0:(w.alloc o1).cell? ⟨w.heap.size,3,none⟩=some (.slice ao (kidsOf t).length cap):=by have hh:=heap_new w o1;unfold World.cell?;simp only[hh];rw[ho1];rfl
 have hkid:∀ (w':World),Below w.heap.size w w'→∀ i k,(kidsOf t)[i]?=some k→_:=fun w' hb i k hi=>kid_read ho hx hS hb hi;have hsub:∀ k∈kidsOf t,siz k≤1048576∧∀ x∈subs k,opOf x=21→2≤(kidsOf x).length:=fun k hk=>⟨by have:=siz_kid hk;omega,fun x hx=>hf x (sub_kid hk hx)⟩
 obtain⟨R,hR⟩:∃ R,R=rexT t:=⟨_,rfl⟩
 rw[← hR] at hT ⊢
 clear h ho hx hS hsz hf hR
 by_cases h3:opOf t=3
 ·rw[if_pos h3] at hT
  have HR:Hid (R=okRex (txtOf t)):=hT;have call:∀ w',Calls Tryz.prog 69 #[.string ⟨(txtOf t).toArray⟩] w' fun e w''=>(∃ (rop rc:Int) (rs:ByteArray) (rno:Bool) (rao:Option Addr) (rn rcap:Nat),e=.returned (.tuple #[.agg #[.int .i64 rop,.int .i64 rc,.string rs,.bool rno,.slice rao rn rcap],.bool (okRex (txtOf t))]))∧Below w'.heap.size w' w'':=fun w'=>by
   refine (Rx.sRexParse ⟨(txtOf t).toArray⟩ w').mono ?_;intro e w'' hR;unfold okRex;unfold Rx.RexOut at hR
   cases hp:Rx.parseV ⟨(txtOf t).toArray⟩ with
   | none=>rw[hp] at hR;obtain⟨rfl,hb''⟩:=hR;exact⟨⟨_,_,_,_,_,_,_,rfl⟩,hb''⟩
   | some tr =>
    rw[hp] at hR
    obtain⟨a,b,c,d,u,rfl,hb'',hI⟩:=hR
    obtain⟨op,cc,st,no,ks,rfl⟩:=Rx.rex_node hI
    rw[Rx.rex_nd] at hI
    obtain⟨v,ys,he,ho',-⟩:=hI
    simp at he
    obtain⟨rfl,rfl,rfl,rfl,rfl⟩:=he
    obtain⟨ao',cap',rfl⟩:=owns_slice ho'
    exact⟨⟨_,_,_,_,_,_,_,rfl⟩,hb''⟩
  generalize okRex (txtOf t)=Q at *;subst ho1
  rw[h3] at hb1 te0 ⊢
  clear hT ih hkid hsub h21 te0 h3
  go_enter Tryz.func39,Tryz.ntmps39
  go_wp2_with (go_at_call 69;refine (call _).mono ?_;rintro e w2 ⟨⟨rop,rc,rst,rno,rao,rn,rcap,rfl⟩,hb2⟩)
  go_ret
  exact⟨by rw[HR.out];rfl,(hb1.trans (hb2.mono hb1.size)).alloc (Nat.le_trans hb1.size hb2.size) _⟩
 ·rw[if_neg h3] at hT
  have e3:(opOf t==3)=false:=by simpa using h3
  obtain⟨N,hN⟩:∃ N,N=rexTs (kidsOf t):=⟨_,rfl⟩
  have HN:Hid (N=rexTs (kidsOf t)):=hN
  rw[← hN] at hT
  clear hN
  by_cases h2:opOf t=21
  ·have hk2:=h21 h2;have hi:(kidsOf t)[1]?=some (kidsOf t)[1]:=List.getElem?_eq_getElem (by omega);have hrn:rexN t=!(opOf (kidsOf t)[1]==3):=by
    unfold rexN
    rw[if_neg h3,if_pos h2,hi]
    by_cases hq:opOf (kidsOf t)[1]=3 <;> simp[hq]
   obtain⟨S1,g1,ao1,cap1,hao,k0,-⟩:=hkid _ hb1 1 _ hi
   subst hao
   rw[hrn] at hT
   have bl2:(2:Int)≤(kidsOf t).length:=by omega
   simp only[Nat.one_mul] at k0;subst ho1
   rw[h2] at hb1 te0 k0 ⊢
   clear hrn h21 hi e3 h3 h2 hlen
   by_cases hq:opOf (kidsOf t)[1]=3
   ·have HR:Hid (R=N):=by show _=_;rw[hT];simp[hq]
    rw[hq] at k0
    clear hT hq
    go_enter Tryz.func39,Tryz.ntmps39
    go_wp2_with fail;clear k0
    go_loopw [5] (fun i wr=>∃ k:Nat,k≤(kidsOf t).length∧i=.int .i64 k∧N=rexTs ((kidsOf t).drop k)∧Below w.heap.size w wr∧wr.cell? ⟨w.heap.size,3,none⟩=some (.slice (some ⟨g1,0,none⟩) (kidsOf t).length cap)) (fun i _=>(kidsOf t).length - (intOf i).toNat)
    case atStart=>exact⟨0,Nat.zero_le _,rfl,by rw[List.drop_zero];exact HN.out,hb1,te0⟩
    case round =>
     clear te0 hb1
     obtain⟨k,hk,rfl,hNk,tb,te⟩:=hrel
     by_cases hkl:k<(kidsOf t).length
     ·have hki:(kidsOf t)[k]?=some (kidsOf t)[k]:=List.getElem?_eq_getElem hkl
      rw[rexTs_step _ _ _ hki] at hNk
      obtain⟨S1,g,ao',cap',hgg,c0,c1,c2,c3,hn,hlt⟩:=hkid wr tb k _ hki
      obtain rfl:g1=g:=by simpa using hgg
      clear hgg
      obtain⟨q1,q2⟩:=hsub _ (List.getElem_mem hkl)
      have call:=ih _ (List.getElem_mem hkl) wr S1 _ _ _ _ hn hlt q1 q2;have hwl:w.heap.size<wr.heap.size:=World.block_lt_of_cell? _ _ te;have bk:(k:Int)<(kidsOf t).length:=by omega
      have HNk:Hid (N=(rexT (kidsOf t)[k]&&rexTs ((kidsOf t).drop (k+1)))):=hNk;clear hNk hn hlt q1 q2 hki hkid hsub ih HN;generalize rexT (kidsOf t)[k]=A at *;generalize opOf (kidsOf t)[k]=ok at *;generalize numOf (kidsOf t)[k]=nk at *;generalize txtOf (kidsOf t)[k]=tk at *;generalize (kidsOf (kidsOf t)[k]).length=Lk at *;cases A
      ·go_wp2_with (go_at_call 39;refine call.mono ?_;rintro e w2 ⟨rfl,hb2⟩)
       go_ret
       exact⟨by rw[HR.out,HNk.out];rfl,tb.trans (hb2.mono tb.size)⟩
      ·go_wp2_with (go_at_call 39;refine call.mono ?_;rintro e w2 ⟨rfl,hb2⟩)
       go_roundw
       case rel=>exact⟨k+1,hkl,by go_num,HNk.out.trans rfl,tb.trans (hb2.mono tb.size),(hb2.cell (p:=⟨w.heap.size,3,none⟩) hwl).trans te⟩
       case measure=>simp[intOf];omega
     ·obtain rfl:k=(kidsOf t).length:=by omega
      rw[List.drop_length] at hNk
      have HNk:Hid (N=true):=hNk;clear hNk hkid hsub ih HN;go_wp2_with fail;go_ret
      exact⟨by rw[HR.out,HNk.out];rfl,tb⟩
   ·have HR:Hid (R=false):=by show _=_;rw[hT];simp[hq]
    have eq:(opOf (kidsOf t)[1]==3)=false:=by simpa using hq
    have eq2:(opOf (kidsOf t)[1] != 3)=true:=by simp only[bne,eq];rfl
    generalize opOf (kidsOf t)[1]=o1 at *;clear hT hq ih hkid hsub HN te0
    go_enter Tryz.func39,Tryz.ntmps39
    go_wp2_with fail;go_ret
    exact⟨by rw[HR.out];rfl,hb1⟩
  ·have HR:Hid (R=N):=by show _=_;rw[hT];unfold rexN;rw[if_neg h3,if_neg h2];rfl
   have e21:(opOf t==21)=false:=by simpa using h2
   subst ho1;clear hT h3 h2 h21 hlen
   go_enter Tryz.func39,Tryz.ntmps39
   go_wp2_with fail
   go_loopw [5] (fun i wr=>∃ k:Nat,k≤(kidsOf t).length∧i=.int .i64 k∧N=rexTs ((kidsOf t).drop k)∧Below w.heap.size w wr∧wr.cell? ⟨w.heap.size,3,none⟩=some (.slice ao (kidsOf t).length cap)) (fun i _=>(kidsOf t).length - (intOf i).toNat)
   case atStart=>exact⟨0,Nat.zero_le _,rfl,by rw[List.drop_zero];exact HN.out,hb1,te0⟩
   case round =>
    clear te0 hb1
    obtain⟨k,hk,rfl,hNk,tb,te⟩:=hrel
    by_cases hkl:k<(kidsOf t).length
    ·have hki:(kidsOf t)[k]?=some (kidsOf t)[k]:=List.getElem?_eq_getElem hkl
     rw[rexTs_step _ _ _ hki] at hNk
     obtain⟨S1,g,ao',cap',rfl,c0,c1,c2,c3,hn,hlt⟩:=hkid wr tb k _ hki
     obtain⟨q1,q2⟩:=hsub _ (List.getElem_mem hkl)
     have call:=ih _ (List.getElem_mem hkl) wr S1 _ _ _ _ hn hlt q1 q2;have hwl:w.heap.size<wr.heap.size:=World.block_lt_of_cell? _ _ te;have bk:(k:Int)<(kidsOf t).length:=by omega
     have HNk:Hid (N=(rexT (kidsOf t)[k]&&rexTs ((kidsOf t).drop (k+1)))):=hNk;clear hNk hn hlt q1 q2 hki hkid hsub ih HN;generalize rexT (kidsOf t)[k]=A at *;generalize opOf (kidsOf t)[k]=ok at *;generalize numOf (kidsOf t)[k]=nk at *;generalize txtOf (kidsOf t)[k]=tk at *;generalize (kidsOf (kidsOf t)[k]).length=Lk at *;cases A
     ·go_wp2_with (go_at_call 39;refine call.mono ?_;rintro e w2 ⟨rfl,hb2⟩)
      go_ret
      exact⟨by rw[HR.out,HNk.out];rfl,tb.trans (hb2.mono tb.size)⟩
     ·go_wp2_with (go_at_call 39;refine call.mono ?_;rintro e w2 ⟨rfl,hb2⟩)
      go_roundw
      case rel=>exact⟨k+1,hkl,by go_num,HNk.out.trans rfl,tb.trans (hb2.mono tb.size),(hb2.cell (p:=⟨w.heap.size,3,none⟩) hwl).trans te⟩
      case measure=>simp[intOf];omega
    ·obtain rfl:k=(kidsOf t).length:=by omega
     rw[List.drop_length] at hNk
     have HNk:Hid (N=true):=hNk;clear hNk hkid hsub ih HN;go_wp2_with fail;go_ret
     exact⟨by rw[HR.out,HNk.out];rfl,tb⟩

theorem sRexes (t:Data):TellsN 39 rexT t:=by
 induction t using tree_ind with
 | h ks lab ih=>exact rexes_of ih
 | h1 t ht =>
  intro w S a b c u h
  obtain⟨op,n,s,ks,rfl⟩:=node_node h
  exact absurd rfl (ht _ _)
theorem sArgs (t:Data):TellsN 38 argsT t:=by
 induction t using tree_ind with
 | h ks lab ih=>exact args_of ih
 | h1 t ht =>
  intro w S a b c u h
  obtain⟨op,n,s,ks,rfl⟩:=node_node h
  exact absurd rfl (ht _ _)

end Ck
namespace Ck
open Nd Ty

theorem lineT_nd {w:World}{t:Data}{S:Nat→Prop}{cs:List Value}(h:NodeIs w t S cs):lineT t=(decide (opOf t=6∨opOf t=7∨opOf t=8∨opOf t=33∨opOf t=3) || lineK (opOf t) 0 (kidsOf t)):=by
 obtain⟨op,n,s,ks,rfl⟩:=node_node h
 unfold nd
 rw[lineT]
 rfl
theorem lineK_step (op:Int)(k:Nat)(ks:List Data)(t:Data)(h:ks[k]?=some t):lineK op k (ks.drop k)=((!(decide (op=21)&&decide (k=1)&&decide (opOf t=3))&&lineT t) || lineK op (k+1) (ks.drop (k+1))):=by
 have hl:=(List.getElem?_eq_some_iff.1 h).1
 rw[List.drop_eq_getElem_cons hl,lineK]
 have:ks[k]=t:=by rw[List.getElem?_eq_getElem hl] at h;exact Option.some.inj h
 rw[this]

set_option maxHeartbeats 2000000 in
set_option maxRecDepth 100000 in
theorem line_of {t:Data}(ih:∀ k∈kidsOf t,TellsN 36 lineT k):TellsN 36 lineT t:=by
 intro w S a b c u h hS hsz hf;have hT:=lineT_nd h;have hlen:=len_siz t
 obtain⟨ao,cap,xs,rfl,rfl,rfl,rfl,ho,hx⟩:=op_form h
 have bl:((kidsOf t).length:Int)≤1048576:=by omega
 obtain⟨o1,ho1⟩:∃ o1,o1=Obj.cells #[.int .i64 (opOf t),.int .i64 (numOf t),.string ⟨(txtOf t).toArray⟩,.slice ao (kidsOf t).length cap] 51:=⟨_,rfl⟩
 have hb1:Below w.heap.size w (w.alloc o1):=(Below.refl _ w).alloc (Nat.le_refl _) _;have te0:(w.alloc o1).cell? ⟨w.heap.size,3,none⟩=some (.slice ao (kidsOf t).length cap):=by have hh:=heap_new w o1;unfold World.cell?;simp only[hh];rw[ho1];rfl
 have tz0:(w.alloc o1).cell? ⟨w.heap.size,0,none⟩=some (.int .i64 (opOf t)):=by have hh:=heap_new w o1;unfold World.cell?;simp only[hh];rw[ho1];rfl
 have hkid:∀ (w':World),Below w.heap.size w w'→∀ i k,(kidsOf t)[i]?=some k→_:=fun w' hb i k hi=>kid_read ho hx hS hb hi;have hsub:∀ k∈kidsOf t,siz k≤1048576∧∀ x∈subs k,opOf x=21→2≤(kidsOf x).length:=fun k hk=>⟨by have:=siz_kid hk;omega,fun x hx=>hf x (sub_kid hk hx)⟩
 obtain⟨R,hR⟩:∃ R,R=lineT t:=⟨_,rfl⟩
 rw[← hR] at hT ⊢
 clear h ho hx hS hsz hf hR
 by_cases h6:opOf t=6∨opOf t=7∨opOf t=8∨opOf t=33∨opOf t=3
 ·have HR:Hid (R=true):=by show _=_;rw[hT,decide_eq_true h6];rfl
  subst ho1;clear hT ih hkid hsub te0 tz0;rcases h6 with h6|h6|h6|h6|h6
  all_goals
   rw[h6] at hb1 ⊢
   go_enter Tryz.func36,Tryz.ntmps36
   go_wp2_with fail;go_ret
   exact⟨by rw[HR.out];rfl,hb1⟩
 ·obtain⟨N,hN⟩:∃ N,N=lineK (opOf t) 0 (kidsOf t):=⟨_,rfl⟩
  have HN:Hid (N=lineK (opOf t) 0 (kidsOf t)):=hN;have HR:Hid (R=N):=by show _=_;rw[hT,decide_eq_false h6,hN];rfl
  simp only[not_or] at h6
  obtain⟨n6,n7,n8,n33,n3⟩:=h6
  have f6:(opOf t==6)=false:=by simpa using n6
  have f7:(opOf t==7)=false:=by simpa using n7
  have f8:(opOf t==8)=false:=by simpa using n8
  have f33:(opOf t==33)=false:=by simpa using n33
  have f3:(opOf t==3)=false:=by simpa using n3
  subst ho1;clear hT hN n6 n7 n8 n33 n3 hlen
  go_enter Tryz.func36,Tryz.ntmps36
  go_wp2_with fail
  go_loopw [3] (fun i wr=>∃ k:Nat,k≤(kidsOf t).length∧i=.int .i64 k∧N=lineK (opOf t) k ((kidsOf t).drop k)∧Below w.heap.size w wr∧wr.cell? ⟨w.heap.size,3,none⟩=some (.slice ao (kidsOf t).length cap)∧wr.cell? ⟨w.heap.size,0,none⟩=some (.int .i64 (opOf t))) (fun i _=>(kidsOf t).length - (intOf i).toNat)
  case atStart=>exact⟨0,Nat.zero_le _,rfl,by rw[List.drop_zero];exact HN.out,hb1,te0,tz0⟩
  case round =>
   clear te0 hb1 tz0
   obtain⟨k,hk,rfl,hNk,tb,te,tz⟩:=hrel
   by_cases hkl:k<(kidsOf t).length
   ·have hki:(kidsOf t)[k]?=some (kidsOf t)[k]:=List.getElem?_eq_getElem hkl
    rw[lineK_step _ _ _ _ hki] at hNk
    obtain⟨S1,g,ao',cap',rfl,c0,c1,c2,c3,hn,hlt⟩:=hkid wr tb k _ hki
    obtain⟨q1,q2⟩:=hsub _ (List.getElem_mem hkl)
    have call:=ih _ (List.getElem_mem hkl) wr S1 _ _ _ _ hn hlt q1 q2;have hwl:w.heap.size<wr.heap.size:=World.block_lt_of_cell? _ _ te;have bk:(k:Int)<(kidsOf t).length:=by omega
    obtain⟨M,hM⟩:∃ M,M=lineK (opOf t) (k+1) ((kidsOf t).drop (k+1)):=⟨_,rfl⟩
    have HNN:Hid (M=lineK (opOf t) (k+1) ((kidsOf t).drop (k+1))):=hM
    rw[← hM] at hNk
    have HNq:Hid (N=((!(decide (opOf t=21)&&decide (k=1)&&decide (opOf (kidsOf t)[k]=3))&&lineT (kidsOf t)[k]) || M)):=hNk;have ek:((k:Int)==1)=decide (k=1):=by by_cases h:k=1 <;> simp[h] <;> omega
    clear hNk hM hn hlt q1 q2 hki hkid hsub ih HN;generalize lineT (kidsOf t)[k]=A at *;generalize opOf (kidsOf t)[k]=ok at *;generalize numOf (kidsOf t)[k]=nk at *;generalize txtOf (kidsOf t)[k]=tk at *;generalize (kidsOf (kidsOf t)[k]).length=Lk at *;have hgo:(opOf t==21)=false∨((opOf t==21)=true∧((k:Int)==1)=false)∨((opOf t==21)=true∧((k:Int)==1)=true∧(ok==3)=false)∨((opOf t==21)=true∧((k:Int)==1)=true∧(ok==3)=true):=by
     cases (opOf t==21) <;> cases ((k:Int)==1) <;> cases (ok==3) <;> simp
    have HNk:Hid (((opOf t==21)=true∧((k:Int)==1)=true∧(ok==3)=true→N=M)∧(¬ ((opOf t==21)=true∧((k:Int)==1)=true∧(ok==3)=true)→N=(A || M))):=by
     refine⟨fun h=>?_,fun h=>?_⟩
     ·rw[ek] at h
      simp only[beq_iff_eq,decide_eq_true_eq] at h
      rw[HNq.out]
      simp[h.1,h.2.1,h.2.2]
     ·rw[ek] at h
      simp only[beq_iff_eq,decide_eq_true_eq,not_and] at h
      rw[HNq.out]
      by_cases a1:opOf t=21 <;> by_cases a2:k=1 <;> by_cases a3:ok=3 <;> simp_all
    have HA:Hid (¬ ((opOf t==21)=true∧((k:Int)==1)=true∧(ok==3)=true)→N=(A || M)):=HNk.out.2;have HB:Hid ((opOf t==21)=true∧((k:Int)==1)=true∧(ok==3)=true→N=M):=HNk.out.1;clear HNq ek HNk;rcases hgo with h1|⟨h1,h2⟩|⟨h1,h2,h3⟩|⟨h1,h2,h3⟩
    ·have HC:Hid (N=(A || M)):=HA.out (by simp[h1]);clear HA HB;cases A
     ·go_wp2_with (go_at_call 36;refine call.mono ?_;rintro e w2 ⟨rfl,hb2⟩)
      go_roundw
      case rel=>exact⟨k+1,hkl,by go_num,HC.out.trans HNN.out,tb.trans (hb2.mono tb.size),(hb2.cell (p:=⟨w.heap.size,3,none⟩) hwl).trans te,(hb2.cell (p:=⟨w.heap.size,0,none⟩) hwl).trans tz⟩
      case measure=>simp[intOf];omega
     ·go_wp2_with (go_at_call 36;refine call.mono ?_;rintro e w2 ⟨rfl,hb2⟩)
      go_ret
      exact⟨by rw[HR.out,HC.out];rfl,tb.trans (hb2.mono tb.size)⟩
    ·have HC:Hid (N=(A || M)):=HA.out (by simp[h2]);clear HA HB;cases A
     ·go_wp2_with (go_at_call 36;refine call.mono ?_;rintro e w2 ⟨rfl,hb2⟩)
      go_roundw
      case rel=>exact⟨k+1,hkl,by go_num,HC.out.trans HNN.out,tb.trans (hb2.mono tb.size),(hb2.cell (p:=⟨w.heap.size,3,none⟩) hwl).trans te,(hb2.cell (p:=⟨w.heap.size,0,none⟩) hwl).trans tz⟩
      case measure=>simp[intOf];omega
     ·go_wp2_with (go_at_call 36;refine call.mono ?_;rintro e w2 ⟨rfl,hb2⟩)
      go_ret
      exact⟨by rw[HR.out,HC.out];rfl,tb.trans (hb2.mono tb.size)⟩
    ·have HC:Hid (N=(A || M)):=HA.out (by simp[h3]);clear HA HB;cases A
     ·go_wp2_with (go_at_call 36;refine call.mono ?_;rintro e w2 ⟨rfl,hb2⟩)
      go_roundw
      case rel=>exact⟨k+1,hkl,by go_num,HC.out.trans HNN.out,tb.trans (hb2.mono tb.size),(hb2.cell (p:=⟨w.heap.size,3,none⟩) hwl).trans te,(hb2.cell (p:=⟨w.heap.size,0,none⟩) hwl).trans tz⟩
      case measure=>simp[intOf];omega
     ·go_wp2_with (go_at_call 36;refine call.mono ?_;rintro e w2 ⟨rfl,hb2⟩)
      go_ret
      exact⟨by rw[HR.out,HC.out];rfl,tb.trans (hb2.mono tb.size)⟩
    ·have HC:Hid (N=M):=HB.out ⟨h1,h2,h3⟩;clear HA HB call;go_wp2_with fail;go_roundw
     case rel=>exact⟨k+1,hkl,by go_num,HC.out.trans HNN.out,tb,te,tz⟩
     case measure=>simp[intOf];omega
   ·obtain rfl:k=(kidsOf t).length:=by omega
    rw[List.drop_length] at hNk
    have HNk:Hid (N=false):=hNk;clear hNk hkid hsub ih HN;go_wp2_with fail;go_ret
    exact⟨by rw[HR.out,HNk.out];rfl,tb⟩

theorem sLine (t:Data):TellsN 36 lineT t:=by
 induction t using tree_ind with
 | h ks lab ih=>exact line_of ih
 | h1 t ht =>
  intro w S a b c u h
  obtain⟨op,n,s,ks,rfl⟩:=node_node h
  exact absurd rfl (ht _ _)

end Ck
end Go.Proofs.YtllbachngocmnaaGreatDoor
namespace Go.Proofs.YtllbachngocmnaaGreatDoor
namespace Ck
open Nd Ty

theorem node_subs {w:World}(t:Data):∀ (S:Nat→Prop) (cs:List Value),NodeIs w t S cs→∀ x∈subs t,Node x:=by
 induction t using tree_ind with
 | h1 t ht =>
  intro S cs h
  obtain⟨op,n,s,ks,rfl⟩:=node_node h
  exact absurd rfl (ht _ _)
 | h ks lab ih =>
  intro S cs h x hx
  rw[subs,List.mem_cons] at hx
  rcases hx with rfl|hx
  ·exact node_node h
  ·obtain⟨k,hk,hx⟩:=mem_subsL.1 hx
   rw[NodeIs] at h
   obtain⟨op,n,s,v,xs,hl,hc,ho,hg,hn⟩:=h
   obtain⟨i,hi⟩:=List.getElem?_of_mem hk
   obtain⟨S1,a,b,c,u,-,-,-,-,hk',-⟩:=nodes_at hn hi
   exact ih k hk _ _ hk' x hx
theorem rules_nodes {w:World}{S:Nat→Prop}:∀ {rs:List Ru} {xs:List Value},RulesIs w S rs xs→∀ t,SubR rs t→Node t
 | [],xs,_,t,h=>by obtain⟨r,hr,_⟩:=h;simp at hr
 | r::rs,xs,h,t,ht=>by
  obtain⟨p0,p1,p2,p3,b0,b1,b2,b3,c,rfl,h1,h2,h3⟩:=h
  obtain⟨r',hr,hs⟩:=ht
  rcases List.mem_cons.1 hr with rfl|hr
  ·rcases hs with hs|hs
   ·exact node_subs _ _ _ h1 t hs
   ·exact node_subs _ _ _ h2 t hs
  ·exact rules_nodes h3 t ⟨r',hr,hs⟩

theorem asc_eqC {ns ms:List (List UInt8)}(h:∀ x,x∈ns↔x∈ms):ascS ns=ascS ms:=by
 have h1:=sort_asc (asc_nodup (ascS_asc ns)) (ns:=ns) fun x=>ascS_mem;have h2:=sort_asc (asc_nodup (ascS_asc ns)) (ns:=ms) fun x=>by rw[ascS_mem,h]
 exact h1.symm.trans h2
theorem varsC (rs:List Ru):ascS (varsIn (allOf rs))=ascS (varsIn (dfs rs)):=asc_eqC fun x=>by
 unfold varsIn
 rw[List.mem_filterMap,List.mem_filterMap]
 simp only[mem_allOf,mem_dfs]
theorem cellsC (rs:List Ru):ascS (cellsIn (allOf rs))=ascS (cellsIn (dfs rs)):=asc_eqC fun x=>by
 unfold cellsIn
 rw[List.mem_filterMap,List.mem_filterMap]
 simp only[mem_allOf,mem_dfs]

section
variable {rs : List Ru} (hN : ∀ t, SubR rs t → Node t)
include hN
theorem bad1_iff (ht:tidyB rs=true):Bad rs 1↔∃ (i:Nat) (r:Ru),rs[i]?=some r∧r.1=1∧(0<i∨lineT r.2.2=true):=by
 have key:∀ r,rs[0]?=some r→r.1=1→(needP rs↔lineT r.2.2=true):=fun r h0 h1=>by
  have hr:r∈rs:=List.mem_of_getElem? h0;have htk:rs.take 1=[r]:=by
   cases rs with
   | nil=>simp at h0
   | cons a rs=>simp at h0;subst h0;rfl
  have hru:=List.all_eq_true.1 ht r hr;simp only[ruleB,Bool.and_eq_true,h1,blB,decide_eq_true_eq,true_or,if_true] at hru
  obtain⟨⟨hb,-⟩,hz⟩:=hru
  simp only[zeroB,Bool.and_eq_true,decide_eq_true_eq] at hz
  rw[line_iff (fun x hx=>⟨hN x ⟨r,hr,.inr hx⟩,tidy_sub ht ⟨r,hr,.inr hx⟩⟩) (by omega)]
  unfold needP
  rw[htk]
  constructor
  ·rintro⟨t,hm,hn⟩
   obtain⟨r',hr',hs⟩:=mem_allOf.1 hm
   simp only[List.mem_singleton] at hr';subst hr';rcases hs with hs|hs
   ·rw[subs_kids,hz.2] at hs
    simp only[subsL,List.mem_singleton] at hs;subst hs;simp[needN,hz.1.1.1,hz.2,needK] at hn
   ·exact⟨t,hs,hn⟩
  ·rintro⟨t,hs,hn⟩
   exact⟨t,mem_allOf.2 ⟨r,by simp,.inr hs⟩,hn⟩
 show badBegin rs↔_;unfold badBegin
 constructor
 ·rintro⟨i,r,h1,h2,h3⟩
  refine⟨i,r,h1,h2,?_⟩
  by_cases hi:0<i
  ·exact .inl hi
  ·obtain rfl:i=0:=by omega
   exact .inr ((key r h1 h2).1 (h3.resolve_left hi))
 ·rintro⟨i,r,h1,h2,h3⟩
  refine⟨i,r,h1,h2,?_⟩
  by_cases hi:0<i
  ·exact .inl hi
  ·obtain rfl:i=0:=by omega
   exact .inr ((key r h1 h2).2 (h3.resolve_left hi))
omit hN in
theorem bad2_iff:Bad rs 2↔(8<(ascS (varsIn (dfs rs))).length∨8<(ascS (cellsIn (dfs rs))).length):=by
 show tooMany (allOf rs)=true↔_;unfold tooMany
 rw[varsC,cellsC,Bool.or_eq_true,decide_eq_true_eq,decide_eq_true_eq]
omit hN in
theorem bad3_iff:Bad rs 3↔∃ x∈ascS (varsIn (dfs rs)),x∈ascS (cellsIn (dfs rs)):=by
 show bothAll (allOf rs)↔_;unfold bothAll
 rw[← varsC,← cellsC]
 simp only[ascS_mem]
theorem bad4_iff:Bad rs 4↔∃ r∈rs,argsT r.2.1=false∨argsT r.2.2=false:=by
 show (∃ t∈allOf rs,argsB t=true)↔_
 constructor
 ·rintro⟨t,hm,hb⟩
  obtain⟨r,hr,hs⟩:=mem_allOf.1 hm
  refine⟨r,hr,?_⟩
  rcases hs with hs|hs
  ·refine .inl (Bool.eq_false_iff.2 fun h=>?_)
   rw[(args_iff (fun x hx=>hN x ⟨r,hr,.inl hx⟩)).1 h t hs] at hb
   cases hb
  ·refine .inr (Bool.eq_false_iff.2 fun h=>?_)
   rw[(args_iff (fun x hx=>hN x ⟨r,hr,.inr hx⟩)).1 h t hs] at hb
   cases hb
 ·rintro⟨r,hr,h|h⟩
  ·refine Classical.byContradiction fun hno=>?_
   rw[(args_iff (fun x hx=>hN x ⟨r,hr,.inl hx⟩)).2 fun x hx=>Bool.eq_false_iff.2 fun hb=>hno ⟨x,mem_allOf.2 ⟨r,hr,.inl hx⟩,hb⟩] at h
   cases h
  ·refine Classical.byContradiction fun hno=>?_
   rw[(args_iff (fun x hx=>hN x ⟨r,hr,.inr hx⟩)).2 fun x hx=>Bool.eq_false_iff.2 fun hb=>hno ⟨x,mem_allOf.2 ⟨r,hr,.inr hx⟩,hb⟩] at h
   cases h
theorem bad5_iff (ht:tidyB rs=true):Bad rs 5↔∃ r∈rs,rexT r.2.1=false∨rexT r.2.2=false:=by
 show (∃ t∈allOf rs,rexN t=true)↔_;have hp:∀ r∈rs,∀ x∈subs r.2.1,Node x∧Fine x:=fun r hr x hx=>⟨hN x ⟨r,hr,.inl hx⟩,tidy_sub ht ⟨r,hr,.inl hx⟩⟩;have hb:∀ r∈rs,∀ x∈subs r.2.2,Node x∧Fine x:=fun r hr x hx=>⟨hN x ⟨r,hr,.inr hx⟩,tidy_sub ht ⟨r,hr,.inr hx⟩⟩
 constructor
 ·rintro⟨t,hm,hq⟩
  obtain⟨r,hr,hs⟩:=mem_allOf.1 hm
  refine⟨r,hr,?_⟩
  rcases hs with hs|hs
  ·refine .inl (Bool.eq_false_iff.2 fun h=>?_)
   rw[(rex_iff (hp r hr)).1 h t hs] at hq
   cases hq
  ·refine .inr (Bool.eq_false_iff.2 fun h=>?_)
   rw[(rex_iff (hb r hr)).1 h t hs] at hq
   cases hq
 ·rintro⟨r,hr,h|h⟩
  ·refine Classical.byContradiction fun hno=>?_
   rw[(rex_iff (hp r hr)).2 fun x hx=>Bool.eq_false_iff.2 fun hq=>hno ⟨x,mem_allOf.2 ⟨r,hr,.inl hx⟩,hq⟩] at h
   cases h
  ·refine Classical.byContradiction fun hno=>?_
   rw[(rex_iff (hb r hr)).2 fun x hx=>Bool.eq_false_iff.2 fun hq=>hno ⟨x,mem_allOf.2 ⟨r,hr,.inr hx⟩,hq⟩] at h
   cases h
end

end Ck
end Go.Proofs.YtllbachngocmnaaGreatDoor
