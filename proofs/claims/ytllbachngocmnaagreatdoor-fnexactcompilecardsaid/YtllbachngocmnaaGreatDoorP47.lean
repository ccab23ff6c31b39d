/-
  The specification's l9Kids, l9Node.
-/
import Derived.Test.YtllbachngocmnaaGreatDoorP23
namespace Go.Proofs.YtllbachngocmnaaGreatDoor
open Go.RowKit
namespace Ty
open Nd

structure Asks (w:World)(vn:Value)(ks:List Data):Prop where
 es:∀ (m:Nat) (z:Int),z=m→m≤ks.length→∀ w',Below w.heap.size w w'→Calls Tryz.prog 159 #[vn,.int .i64 0,.int .i64 z] w' fun e w''=>e=.returned (.bool ((ks.take m).all eQ))∧Below w'.heap.size w' w''
 bl:1≤ks.length→∀ w',Below w.heap.size w w'→Calls Tryz.prog 160 #[vn,.int .i64 1] w' fun e w''=>e=.returned (.bool ((ks.drop 1).all blQ))∧Below w'.heap.size w' w''

theorem op_wayS (op:Int):(op=5∨op=6∨op=22∨op=23∨op=34∨op=35)∨(op=9∨op=10∨op=11∨op=12∨op=13∨op=14∨op=15∨op=16∨op=17∨op=18∨op=19∨op=20∨op=21∨op=24∨op=25)∨(op=26∨op=27)∨(op=28∨op=30)∨op=31∨op=32∨op=29 ∨
  (¬ (op=5∨op=6∨op=22∨op=23∨op=34∨op=35)∧¬ ((9≤op∧op≤21)∨op=24∨op=25)∧¬ (op=26∨op=27)∧¬ (op=28∨op=30)∧¬ op=31∧¬ op=32∧¬ op=29):=by omega

theorem int_len {L:Nat}{z:Nat}:((L:Int)==(z:Int))=decide (L=z):=by rw[Bool.eq_iff_iff];simp;omega

set_option maxHeartbeats 4000000 in
set_option maxRecDepth 100000 in
theorem sKids {t:Data}(hk:∀ x∈kidsOf t,Tells 67 allB x)(hn:(kidsOf t).length≤1048577)(w:World)(a b c u:Value)(hS:Sen w)(hA:ArgIs w t [a,b,c,u]):
  Calls Tryz.prog 115 #[.agg #[a,b,c,u]] w fun e w'=>e=.returned (.bool (kidsS (opOf t) (kidsOf t)))∧Below w.heap.size w w':=by
 have hq:Asks w (.agg #[a,b,c,u]) (kidsOf t):=⟨fun m z hz hm w' hb=>by rw[hz];exact sEs hk hn m hm w' a b c u (hS.later hb) (arg_frame hb _ _ hA),fun h1 w' hb=>sBlocks hk hn h1 w' a b c u (hS.later hb) (arg_frame hb _ _ hA)⟩
 obtain⟨ao,cap,rfl,rfl,rfl,rfl,hK,-⟩:=arg_open hA
 have hb0:∀ o,Below w.heap.size w (w.alloc o):=fun o=>(Below.refl _ w).alloc (Nat.le_refl _) _;have hv0:∀ o,o=Obj.cells #[.int .i64 (opOf t),.int .i64 (numOf t),.string ⟨(txtOf t).toArray⟩,.slice ao (kidsOf t).length cap] 51→Var (w.alloc o) w.heap.size (.int .i64 (opOf t)) (.int .i64 (numOf t)) (.string ⟨(txtOf t).toArray⟩) (.slice ao (kidsOf t).length cap):=fun o ho=>by rw[ho];exact heap_new _ _
 have hcell:∀ o w',o=Obj.cells #[.int .i64 (opOf t),.int .i64 (numOf t),.string ⟨(txtOf t).toArray⟩,.slice ao (kidsOf t).length cap] 51→Below (w.alloc o).heap.size (w.alloc o) w'→w'.cell? ⟨w.heap.size,0,none⟩=some (.int .i64 (opOf t))∧w'.cell? ⟨w.heap.size,1,none⟩=some (.int .i64 (numOf t))∧w'.cell? ⟨w.heap.size,2,none⟩=some (.string ⟨(txtOf t).toArray⟩)∧w'.cell? ⟨w.heap.size,3,none⟩=some (.slice ao (kidsOf t).length cap):=fun o w' ho hb=>by
  have hV:=hv0 o ho;exact (hV.kept (hb.block _ hV.lt)).cell
 obtain⟨E,hE⟩:∃ E,E=kidsS (opOf t) (kidsOf t):=⟨_,rfl⟩
 rw[← hE]
 have H:Hid _:=hE;clear hA hE;generalize opOf t=op at *;generalize numOf t=n at *;generalize txtOf t=s at *;generalize kidsOf t=ks at *;have bn:(ks.length:Int)≤1048577:=by omega
 have e0:((ks.length:Int)==0)=decide (ks.length=0):=int_len (z:=0);have e1:((ks.length:Int)==1)=decide (ks.length=1):=int_len (z:=1);have e2:((ks.length:Int)==2)=decide (ks.length=2):=int_len (z:=2);rcases op_wayS op with h|h|h|h|h|h|h|h
 ·have HE:Hid (E=(decide (ks.length=1)&&(ks.take 1).all eQ)):=by show _=_;rw[H.out];unfold kidsS;rw[if_pos h]
  have cE:=fun h1=>hq.es 1 1 rfl h1;clear H hq hk hK hS hv0
  by_cases hl:ks.length=1
  ·have cE:=cE (by omega)
   rw[decide_eq_true hl] at HE e1
   clear hl e0 e2;generalize (ks.take 1).all eQ=Q at *;rcases h with rfl|rfl|rfl|rfl|rfl|rfl
   all_goals
    go_enter Tryz.func115,Tryz.ntmps115
    go_wp2_with (go_at_call 159;refine (cE _ (hb0 _)).mono ?_;rintro e w2 ⟨rfl,hbb⟩)
    go_ret
    exact⟨by rw[HE.out];rfl,(hb0 _).trans (hbb.mono (hb0 _).size)⟩
  ·rw[decide_eq_false hl] at HE e1
   clear hl e0 e2 cE;rcases h with rfl|rfl|rfl|rfl|rfl|rfl
   all_goals
    go_enter Tryz.func115,Tryz.ntmps115
    go_wp2_with fail;go_ret
    exact⟨by rw[HE.out];rfl,hb0 _⟩
 ·have HE:Hid (E=(decide (ks.length=2)&&(ks.take 2).all eQ)):=by show _=_;rw[H.out];unfold kidsS;rw[if_neg (by omega)];rw[if_pos (by omega)]
  have cE:=fun h1=>hq.es 2 2 rfl h1;clear H hq hk hK hS hv0
  by_cases hl:ks.length=2
  ·have cE:=cE (by omega)
   rw[decide_eq_true hl] at HE e2
   clear hl e0 e1;generalize (ks.take 2).all eQ=Q at *;rcases h with rfl|rfl|rfl|rfl|rfl|rfl|rfl|rfl|rfl|rfl|rfl|rfl|rfl|rfl|rfl
   all_goals
    go_enter Tryz.func115,Tryz.ntmps115
    go_wp2_with (go_at_call 159;refine (cE _ (hb0 _)).mono ?_;rintro e w2 ⟨rfl,hbb⟩)
    go_ret
    exact⟨by rw[HE.out];rfl,(hb0 _).trans (hbb.mono (hb0 _).size)⟩
  ·rw[decide_eq_false hl] at HE e2
   clear hl e0 e1 cE;rcases h with rfl|rfl|rfl|rfl|rfl|rfl|rfl|rfl|rfl|rfl|rfl|rfl|rfl|rfl|rfl
   all_goals
    go_enter Tryz.func115,Tryz.ntmps115
    go_wp2_with fail;go_ret
    exact⟨by rw[HE.out];rfl,hb0 _⟩
 ·have HE:Hid (E=(decide (ks.length=2)&&hdB ks&&(ks.take 2).all eQ)):=by show _=_;rw[H.out];unfold kidsS;rw[if_neg (by omega)];rw[if_neg (by omega)];rw[if_pos h]
  have cE:=fun h1=>hq.es 2 2 rfl h1;clear H hq hk hS hv0
  by_cases hl:ks.length=2
  ·have cE:=cE (by omega)
   rw[decide_eq_true hl,Bool.true_and] at HE
   rw[decide_eq_true hl] at e2
   have h0:0<ks.length:=by omega
   have hk0:ks[0]?=some ks[0]:=List.getElem?_eq_getElem h0
   obtain⟨g,o,x0,x1,x2,x3,rfl,hbl,c0,-,-,-,ht⟩:=args_at hK hk0
   obtain⟨ao',cap',rfl,-,-,-,-,-⟩:=arg_open ht
   have hh:hdB ks=setB (opOf ks[0]):=by
    cases ks with
    | nil=>simp at h0
    | cons x r=>rfl
   rw[hh] at HE
   have HS:Hid (setB (opOf ks[0])=(decide (opOf ks[0]=4) || decide (opOf ks[0]=5))):=rfl;simp only[Nat.zero_mul,Nat.add_zero] at c0;have p0:∀ oo,(w.alloc oo).cell? ⟨g,o,none⟩=some (.int .i64 (opOf ks[0])):=fun oo=>((hb0 oo).cell (p:=⟨g,o,none⟩) hbl).trans c0;have bpos:(0:Int)<ks.length:=by omega
   clear hl e0 e1 hK hk0 ht hh;generalize (ks.take 2).all eQ=Q at *;generalize setB (opOf ks[0])=SB at *;generalize opOf ks[0]=op0 at *
   by_cases h4:op0=4
   ·subst h4;simp only[decide_true,Bool.true_or] at HS;rcases h with rfl|rfl
    all_goals
     go_enter Tryz.func115,Tryz.ntmps115
     go_wp2_with (go_at_call 159;refine (cE _ (hb0 _)).mono ?_;rintro e w2 ⟨rfl,hbb⟩)
     go_ret
     exact⟨by rw[HE.out,HS.out];rfl,(hb0 _).trans (hbb.mono (hb0 _).size)⟩
   ·have f4:(op0==4)=false:=beq_eq_false_iff_ne.2 h4
    by_cases h5:op0=5
    ·subst h5;rcases h with rfl|rfl
     all_goals
      go_enter Tryz.func115,Tryz.ntmps115
      go_wp2_with (go_at_call 159;refine (cE _ (hb0 _)).mono ?_;rintro e w2 ⟨rfl,hbb⟩)
      go_ret
      exact⟨by rw[HE.out,HS.out];rfl,(hb0 _).trans (hbb.mono (hb0 _).size)⟩
    ·have f5:(op0==5)=false:=beq_eq_false_iff_ne.2 h5;simp only[h4,h5,decide_false,Bool.or_false] at HS;rcases h with rfl|rfl
     all_goals
      go_enter Tryz.func115,Tryz.ntmps115
      go_wp2_with fail;go_ret
      exact⟨by rw[HE.out,HS.out];rfl,hb0 _⟩
  ·rw[decide_eq_false hl] at HE e2
   clear hl e0 e1 cE hK;rcases h with rfl|rfl
   all_goals
    go_enter Tryz.func115,Tryz.ntmps115
    go_wp2_with fail;go_ret
    exact⟨by rw[HE.out];rfl,hb0 _⟩
 ·have HE:Hid (E=ks.all eQ):=by show _=_;rw[H.out];unfold kidsS;rw[if_neg (by omega)];rw[if_neg (by omega)];rw[if_neg (by omega)];rw[if_pos h]
  have cE:=hq.es ks.length ks.length rfl (Nat.le_refl _)
  rw[List.take_length] at cE
  clear H hq hk hK hS hv0 e0 e1 e2;generalize ks.all eQ=Q at *;rcases h with rfl|rfl
  all_goals
   go_enter Tryz.func115,Tryz.ntmps115
   go_wp2_with (go_at_call 159;refine (cE _ (hb0 _)).mono ?_;rintro e w2 ⟨rfl,hbb⟩)
   go_ret
   exact⟨by rw[HE.out];rfl,(hb0 _).trans (hbb.mono (hb0 _).size)⟩
 ·have HE:Hid (E=((decide (2≤ks.length)&&decide (ks.length≤3))&&(ks.take 1).all eQ&&(ks.drop 1).all blQ)):=by show _=_;rw[H.out];unfold kidsS;rw[if_neg (by omega)];rw[if_neg (by omega)];rw[if_neg (by omega)];rw[if_neg (by omega)];rw[if_pos h]
  have cI:=fun w=>sIn1 (ks.length:Int) 2 3 w;have i1:(decide (2≤(ks.length:Int))&&decide ((ks.length:Int)≤3))=(decide (2≤ks.length)&&decide (ks.length≤3)):=by
   rw[show decide (2≤(ks.length:Int))=decide (2≤ks.length) by rw[decide_eq_decide];omega,show decide ((ks.length:Int)≤3)=decide (ks.length≤3) by rw[decide_eq_decide];omega]
  rw[i1] at cI
  subst h;clear H hk hK hS hv0 e0 e1 e2 i1
  by_cases hl:2≤ks.length∧ks.length≤3
  ·have h1:1≤ks.length:=by omega
   have cE:=hq.es 1 1 rfl h1;have cB:=hq.bl h1
   rw[decide_eq_true hl.1,decide_eq_true hl.2] at HE cI
   clear hq h1 hl;generalize (ks.take 1).all eQ=Q1 at *;generalize (ks.drop 1).all blQ=Q2 at *;cases Q1
   ·go_enter Tryz.func115,Tryz.ntmps115
    go_wp2_with (first
     | (go_at_call 65;refine (cI _).mono ?_;rintro e w9 ⟨rfl,hw⟩;have hw:=hw.symm;subst hw)
     | (go_at_call 159;refine (cE _ (hb0 _)).mono ?_;rintro e w2 ⟨rfl,hbb⟩))
    go_ret
    exact⟨by rw[HE.out];rfl,(hb0 _).trans (hbb.mono (hb0 _).size)⟩
   ·go_enter Tryz.func115,Tryz.ntmps115
    go_wp2_with (first
     | (go_at_call 65;refine (cI _).mono ?_;rintro e w9 ⟨rfl,hw⟩;have hw:=hw.symm;subst hw)
     | (go_at_call 159;refine (cE _ (hb0 _)).mono ?_;rintro e w2 ⟨rfl,hbb⟩;obtain⟨x0,x1,x2,x3⟩:=hcell _ _ rfl hbb;have hbw:=(hb0 _).trans (hbb.mono (hb0 _).size))
     | (go_at_call 160;refine (cB _ hbw).mono ?_;rintro e w3 ⟨rfl,hbc⟩))
    go_ret
    exact⟨by rw[HE.out];rfl,hbw.trans (hbc.mono hbw.size)⟩
  ·have hl2:(decide (2≤ks.length)&&decide (ks.length≤3))=false:=by simp;omega
   rw[hl2] at HE cI
   clear hl hl2 hq
   go_enter Tryz.func115,Tryz.ntmps115
   go_wp2_with (go_at_call 65;refine (cI _).mono ?_;rintro e w9 ⟨rfl,hw⟩;have hw:=hw.symm;subst hw)
   go_ret
   exact⟨by rw[HE.out];rfl,hb0 _⟩
 ·have HE:Hid (E=(decide (ks.length=2)&&(ks.take 1).all eQ&&(ks.drop 1).all blQ)):=by show _=_;rw[H.out];unfold kidsS;rw[if_neg (by omega)];rw[if_neg (by omega)];rw[if_neg (by omega)];rw[if_neg (by omega)];rw[if_neg (by omega)];rw[if_pos h]
  subst h;clear H hk hK hS hv0 e0 e1
  by_cases hl:ks.length=2
  ·have h1:1≤ks.length:=by omega
   have cE:=hq.es 1 1 rfl h1;have cB:=hq.bl h1
   rw[decide_eq_true hl] at HE e2
   clear hq h1 hl;generalize (ks.take 1).all eQ=Q1 at *;generalize (ks.drop 1).all blQ=Q2 at *;cases Q1
   ·go_enter Tryz.func115,Tryz.ntmps115
    go_wp2_with (first
     | (go_at_call 159;refine (cE _ (hb0 _)).mono ?_;rintro e w2 ⟨rfl,hbb⟩))
    go_ret
    exact⟨by rw[HE.out];rfl,(hb0 _).trans (hbb.mono (hb0 _).size)⟩
   ·go_enter Tryz.func115,Tryz.ntmps115
    go_wp2_with (first
     | (go_at_call 159;refine (cE _ (hb0 _)).mono ?_;rintro e w2 ⟨rfl,hbb⟩;obtain⟨x0,x1,x2,x3⟩:=hcell _ _ rfl hbb;have hbw:=(hb0 _).trans (hbb.mono (hb0 _).size))
     | (go_at_call 160;refine (cB _ hbw).mono ?_;rintro e w3 ⟨rfl,hbc⟩))
    go_ret
    exact⟨by rw[HE.out];rfl,hbw.trans (hbc.mono hbw.size)⟩
  ·rw[decide_eq_false hl] at HE e2
   clear hl hq
   go_enter Tryz.func115,Tryz.ntmps115
   go_wp2_with fail;go_ret
   exact⟨by rw[HE.out];rfl,hb0 _⟩
 ·have HE:Hid (E=ks.all stQ):=by show _=_;rw[H.out];unfold kidsS;rw[if_neg (by omega)];rw[if_neg (by omega)];rw[if_neg (by omega)];rw[if_neg (by omega)];rw[if_neg (by omega)];rw[if_neg (by omega)];rw[if_pos h]
  subst h;clear H hq e0 e1 e2 hcell
  go_enter Tryz.func115,Tryz.ntmps115
  go_wp2_with fail
  go_loopw [4] (fun i wr=>∃ k:Nat,k≤ks.length∧i=.int .i64 k∧ks.all stQ=(ks.drop k).all stQ∧Below w.heap.size w wr∧Var wr w.heap.size (.int .i64 29) (.int .i64 n) (.string ⟨s.toArray⟩) (.slice ao ks.length cap)) (fun i _=>ks.length - (intOf i).toNat)
  case atStart=>exact⟨0,Nat.zero_le _,rfl,rfl,hb0 _,hv0 _ rfl⟩
  case round =>
   obtain⟨k,hkm,rfl,hall,hb,hV⟩:=hrel
   have v3:=hV.cell.2.2.2
   by_cases hkk:k<ks.length
   ·have hki:ks[k]?=some ks[k]:=List.getElem?_eq_getElem hkk
    obtain⟨g,o,x0,x1,x2,x3,rfl,hbl,c0,c1,c2,c3,ht⟩:=args_at (args_frame hb hK) hki
    simp only[Nat.zero_add] at c0 c1 c2 c3;have bk2:(k:Int)<ks.length:=by omega
    have cI:=sIn1 (opOf ks[k]) 29 35 wr;have call:=hk ks[k] (List.getElem_mem hkk) wr x0 x1 x2 x3 (hS.later hb) ht
    obtain⟨ao',cap',rfl,rfl,rfl,rfl,-,-⟩:=arg_open ht
    rw[List.drop_eq_getElem_cons hkk,List.all_cons] at hall
    have HA:Hid _:=hall;have HQ:Hid (stQ ks[k]=((decide (29≤opOf ks[k])&&decide (opOf ks[k]≤35))&&allB ks[k])):=rfl;clear hk hK hS ht hki hall hb0 hv0;generalize (decide (29≤opOf ks[k])&&decide (opOf ks[k]≤35))=B1 at *;generalize allB ks[k]=B2 at *;generalize opOf ks[k]=op' at *;generalize numOf ks[k]=n' at *;generalize txtOf ks[k]=s' at *;generalize (kidsOf ks[k]).length=L' at *;generalize stQ ks[k]=Q at *;cases B1
    ·have HR:Hid (E=false):=by show _=_;rw[HE.out,HA.out,HQ.out];rfl
     clear HA
     go_wp2_with (go_at_call 65;refine cI.mono ?_;rintro e w9 ⟨rfl,hw⟩;have hw:=hw.symm;subst hw)
     go_ret
     exact⟨by rw[HR.out];rfl,hb⟩
    ·cases B2
     ·have HR:Hid (E=false):=by show _=_;rw[HE.out,HA.out,HQ.out];rfl
      clear HA
      go_wp2_with (first
       | (go_at_call 65;refine cI.mono ?_;rintro e w9 ⟨rfl,hw⟩;have hw:=hw.symm;subst hw)
       | (go_at_call 67;refine call.mono ?_;rintro e w3 ⟨rfl,hb3⟩))
      go_ret
      exact⟨by rw[HR.out];rfl,hb.trans (hb3.mono hb.size)⟩
     ·have HR:Hid (ks.all stQ=(ks.drop (k+1)).all stQ):=by show _=_;rw[HA.out,HQ.out];rfl
      clear HA
      go_wp2_with (first
       | (go_at_call 65;refine cI.mono ?_;rintro e w9 ⟨rfl,hw⟩;have hw:=hw.symm;subst hw)
       | (go_at_call 67;refine call.mono ?_;rintro e w3 ⟨rfl,hb3⟩))
      go_roundw
      case rel=>exact⟨k+1,hkk,by go_num,HR.out,hb.trans (hb3.mono hb.size),hV.kept (hb3.block _ hV.lt)⟩
      case measure=>simp[intOf];omega
   ·obtain rfl:k=ks.length:=by omega
    rw[List.drop_length] at hall
    have HR:Hid (E=true):=by show _=_;rw[HE.out,hall];rfl
    clear hall;go_wp2_with fail;go_ret
    exact⟨by rw[HR.out];rfl,hb⟩
 ·have HE:Hid (E=decide (ks.length=0)):=by show _=_;rw[H.out];unfold kidsS;rw[if_neg (by omega)];rw[if_neg (by omega)];rw[if_neg (by omega)];rw[if_neg (by omega)];rw[if_neg (by omega)];rw[if_neg (by omega)];rw[if_neg (by omega)]
  have n5:(op==5)=false:=beq_eq_false_iff_ne.2 (by omega);have n6:(op==6)=false:=beq_eq_false_iff_ne.2 (by omega);have n22:(op==22)=false:=beq_eq_false_iff_ne.2 (by omega);have n23:(op==23)=false:=beq_eq_false_iff_ne.2 (by omega);have n34:(op==34)=false:=beq_eq_false_iff_ne.2 (by omega);have n35:(op==35)=false:=beq_eq_false_iff_ne.2 (by omega);have n9:(op==9)=false:=beq_eq_false_iff_ne.2 (by omega);have n10:(op==10)=false:=beq_eq_false_iff_ne.2 (by omega);have n11:(op==11)=false:=beq_eq_false_iff_ne.2 (by omega);have n12:(op==12)=false:=beq_eq_false_iff_ne.2 (by omega);have n13:(op==13)=false:=beq_eq_false_iff_ne.2 (by omega);have n14:(op==14)=false:=beq_eq_false_iff_ne.2 (by omega);have n15:(op==15)=false:=beq_eq_false_iff_ne.2 (by omega);have n16:(op==16)=false:=beq_eq_false_iff_ne.2 (by omega);have n17:(op==17)=false:=beq_eq_false_iff_ne.2 (by omega);have n18:(op==18)=false:=beq_eq_false_iff_ne.2 (by omega);have n19:(op==19)=false:=beq_eq_false_iff_ne.2 (by omega);have n20:(op==20)=false:=beq_eq_false_iff_ne.2 (by omega);have n21:(op==21)=false:=beq_eq_false_iff_ne.2 (by omega);have n24:(op==24)=false:=beq_eq_false_iff_ne.2 (by omega);have n25:(op==25)=false:=beq_eq_false_iff_ne.2 (by omega);have n26:(op==26)=false:=beq_eq_false_iff_ne.2 (by omega);have n27:(op==27)=false:=beq_eq_false_iff_ne.2 (by omega);have n28:(op==28)=false:=beq_eq_false_iff_ne.2 (by omega);have n30:(op==30)=false:=beq_eq_false_iff_ne.2 (by omega);have n31:(op==31)=false:=beq_eq_false_iff_ne.2 (by omega);have n32:(op==32)=false:=beq_eq_false_iff_ne.2 (by omega);have n29:(op==29)=false:=beq_eq_false_iff_ne.2 (by omega);clear H hq e1 e2 hcell h hk hK hS hv0
  go_enter Tryz.func115,Tryz.ntmps115
  go_wp2_with fail;go_ret
  exact⟨by rw[HE.out];simp,hb0 _⟩

end Ty
end Go.Proofs.YtllbachngocmnaaGreatDoor
