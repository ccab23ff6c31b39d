/-
  The specification's l9Node, at every tree.
-/
import Derived.Test.YtllbachngocmnaaGreatDoorP47
import Derived.Test.YtllbachngocmnaaGreatDoorP30
namespace Go.Proofs.YtllbachngocmnaaGreatDoor
open Go.RowKit
namespace Ty
open Nd

theorem nodeS_eq (op n:Int)(s:List UInt8)(ks:List Data):nodeS op n s ks=(kidsS op ks&&(decide (1≤op)&&decide (op≤35))&&!(!decide (n=0)&&!decide (op=1))&&wordS op n s):=rfl

set_option maxHeartbeats 4000000 in
set_option maxRecDepth 100000 in
theorem sNode (t:Data):siz t≤1048576→Tells 67 allB t:=by
 induction t using tree_ind with
 | h1 t ht =>
  intro _ w a b c u _ h
  obtain⟨op,n,s,ao,cap,e,_⟩:=arg_form h
  exact absurd e (ht _ _)
 | h ks lab ih =>
  intro hsz w a b c u hS hA;have hkk:kidsOf (.slice ks lab)=ks:=rfl;have hlen:=len_siz (.slice ks lab);have hsk:=siz_kids (.slice ks lab)
  rw[hkk] at hlen hsk
  have hkids:∀ x∈kidsOf (.slice ks lab),Tells 67 allB x:=fun x hx=>ih x hx (by have:=sizs_mem (show x∈ks from hx);omega);have cK:=fun w' (hb:Below w.heap.size w w')=>sKids hkids (by rw[hkk];omega) w' a b c u (hS.later hb) (arg_frame hb _ _ hA)
  obtain⟨ao,cap,rfl,rfl,rfl,rfl,-,hnd⟩:=arg_open hA
  have hE:allB (.slice ks lab)=nodeS (opOf (.slice ks lab)) (numOf (.slice ks lab)) (txtOf (.slice ks lab)) (kidsOf (.slice ks lab)):=by rw[node_all];exact congrArg allB hnd
  have hsl:(txtOf (.slice ks lab)).length≤1048576:=by rw[hnd,siz_nd] at hsz;omega
  obtain⟨E,hEE⟩:∃ E,E=allB (.slice ks lab):=⟨_,rfl⟩
  rw[← hEE]
  rw[← hEE] at hE
  rw[nodeS_eq] at hE
  have hb0:∀ o,Below w.heap.size w (w.alloc o):=fun o=>(Below.refl _ w).alloc (Nat.le_refl _) _;clear ih hA hS hnd hkids hsz hlen hsk hEE hkk;generalize opOf (.slice ks lab)=op at *;generalize numOf (.slice ks lab)=n at *;generalize txtOf (.slice ks lab)=s at *;generalize kidsOf (.slice ks lab)=kids at *;have hcell:∀ o w',o=Obj.cells #[.int .i64 op,.int .i64 n,.string ⟨s.toArray⟩,.slice ao kids.length cap] 51→Below (w.alloc o).heap.size (w.alloc o) w'→w'.cell? ⟨w.heap.size,0,none⟩=some (.int .i64 op)∧w'.cell? ⟨w.heap.size,1,none⟩=some (.int .i64 n)∧w'.cell? ⟨w.heap.size,2,none⟩=some (.string ⟨s.toArray⟩)∧w'.cell? ⟨w.heap.size,3,none⟩=some (.slice ao kids.length cap):=fun o w' ho hb=>by
   have hV:Var (w.alloc o) w.heap.size (.int .i64 op) (.int .i64 n) (.string ⟨s.toArray⟩) (.slice ao kids.length cap):=by rw[ho];exact heap_new _ _
   exact (hV.kept (hb.block _ hV.lt)).cell
  have cI:=fun w=>sIn1 op 1 35 w;have cN:=fun w=>sIn1 n 0 9000000000000 w;have e3:(s==[])=decide (s=[]):=by rw[Bool.eq_iff_iff];simp
  generalize kidsS op kids=K at *;cases K
  ·have HE:Hid (E=false):=by show _=_;rw[hE];rfl
   clear hE
   go_enter Tryz.func67,Tryz.ntmps67
   go_wp2_with (go_at_call 115;refine (cK _ (hb0 _)).mono ?_;rintro e w2 ⟨rfl,hbb⟩)
   go_ret
   exact⟨by rw[HE.out];rfl,(hb0 _).trans (hbb.mono (hb0 _).size)⟩
  rw[Bool.true_and] at hE
  by_cases hop:1≤op∧op≤35
  rotate_left
  ·have hop2:(decide (1≤op)&&decide (op≤35))=false:=by simp;omega
   have HE:Hid (E=false):=by show _=_;rw[hE,hop2];rfl
   rw[hop2] at cI
   clear hE hop hop2
   go_enter Tryz.func67,Tryz.ntmps67
   go_wp2_with (first
    | (go_at_call 115;refine (cK _ (hb0 _)).mono ?_;rintro e w2 ⟨rfl,hbb⟩;obtain⟨x0,x1,x2,x3⟩:=hcell _ _ rfl hbb)
    | (go_at_call 65;refine (cI _).mono ?_;rintro e w9 ⟨rfl,hw⟩;have hw:=hw.symm;subst hw))
   go_ret
   exact⟨by rw[HE.out];rfl,(hb0 _).trans (hbb.mono (hb0 _).size)⟩
  have hop2:(decide (1≤op)&&decide (op≤35))=true:=by simp;omega
  rw[hop2] at cI hE
  rw[Bool.true_and] at hE
  unfold wordS at hE
  by_cases h1:op=1
  ·have HE:Hid (E=(decide (s=[])&&(decide (0≤n)&&decide (n≤9000000000000)))):=by show _=_;rw[hE,if_pos h1];simp[h1]
   subst h1;clear hE hop hop2;generalize (decide (0≤n)&&decide (n≤9000000000000))=B at *;generalize decide (s=[])=D at *;rcases e6:(n != 0) with _|_
   all_goals (
    cases D
    ·go_enter Tryz.func67,Tryz.ntmps67
     go_wp2_with (first
      | (go_at_call 115;refine (cK _ (hb0 _)).mono ?_;rintro e w2 ⟨rfl,hbb⟩;obtain⟨x0,x1,x2,x3⟩:=hcell _ _ rfl hbb)
      | (go_at_call 65;with_reducible refine (cI _).mono ?_;rintro e w9 ⟨rfl,hw⟩;have hw:=hw.symm;subst hw)
      | (go_at_call 65;with_reducible refine (cN _).mono ?_;rintro e w9 ⟨rfl,hw⟩;have hw:=hw.symm;subst hw))
     go_ret
     exact⟨by rw[HE.out];rfl,(hb0 _).trans (hbb.mono (hb0 _).size)⟩
    ·go_enter Tryz.func67,Tryz.ntmps67
     go_wp2_with (first
      | (go_at_call 115;refine (cK _ (hb0 _)).mono ?_;rintro e w2 ⟨rfl,hbb⟩;obtain⟨x0,x1,x2,x3⟩:=hcell _ _ rfl hbb)
      | (go_at_call 65;with_reducible refine (cI _).mono ?_;rintro e w9 ⟨rfl,hw⟩;have hw:=hw.symm;subst hw)
      | (go_at_call 65;with_reducible refine (cN _).mono ?_;rintro e w9 ⟨rfl,hw⟩;have hw:=hw.symm;subst hw))
     go_ret
     exact⟨by rw[HE.out];rfl,(hb0 _).trans (hbb.mono (hb0 _).size)⟩)
  rw[if_neg h1] at hE
  have f1:(op==1)=false:=beq_eq_false_iff_ne.2 h1;have q1:(op != 1)=true:=by simp[h1]
  by_cases h0:n=0
  rotate_left
  ·have e6:(n==0)=false:=beq_eq_false_iff_ne.2 h0;have q6:(n != 0)=true:=by simp[h0]
   have HE:Hid (E=false):=by show _=_;rw[hE];simp[h1,h0]
   clear hE hop hop2
   go_enter Tryz.func67,Tryz.ntmps67
   go_wp2_with (first
    | (go_at_call 115;refine (cK _ (hb0 _)).mono ?_;rintro e w2 ⟨rfl,hbb⟩;obtain⟨x0,x1,x2,x3⟩:=hcell _ _ rfl hbb)
    | (go_at_call 65;refine (cI _).mono ?_;rintro e w9 ⟨rfl,hw⟩;have hw:=hw.symm;subst hw))
   go_ret
   exact⟨by rw[HE.out];rfl,(hb0 _).trans (hbb.mono (hb0 _).size)⟩
  subst h0;simp only[decide_true,Bool.not_true,Bool.false_and,Bool.not_false,Bool.true_and] at hE
  by_cases h2:op=2
  ·rw[if_pos h2] at hE
   have HE:Hid _:=hE;have cL:=fun w=>sLine ⟨s.toArray⟩ (by show ((s.toArray.size:Nat):Int)≤_;simp;omega) w;subst h2;clear hE hop hop2
   go_enter Tryz.func67,Tryz.ntmps67
   go_wp2_with (first
    | (go_at_call 115;refine (cK _ (hb0 _)).mono ?_;rintro e w2 ⟨rfl,hbb⟩;obtain⟨x0,x1,x2,x3⟩:=hcell _ _ rfl hbb)
    | (go_at_call 65;refine (cI _).mono ?_;rintro e w9 ⟨rfl,hw⟩;have hw:=hw.symm;subst hw)
    | (go_at_call 116;refine (cL _).mono ?_;rintro e w9 ⟨rfl,hw⟩;have hw:=hw.symm;subst hw))
   go_ret
   exact⟨by rw[HE.out];rfl,(hb0 _).trans (hbb.mono (hb0 _).size)⟩
  rw[if_neg h2] at hE
  have f2:(op==2)=false:=beq_eq_false_iff_ne.2 h2
  by_cases h3:op=3
  ·rw[if_pos h3] at hE
   have HE:Hid _:=hE;have cL:=fun w=>sRex ⟨s.toArray⟩ (by show ((s.toArray.size:Nat):Int)≤_;simp;omega) w;subst h3;clear hE hop hop2
   go_enter Tryz.func67,Tryz.ntmps67
   go_wp2_with (first
    | (go_at_call 115;refine (cK _ (hb0 _)).mono ?_;rintro e w2 ⟨rfl,hbb⟩;obtain⟨x0,x1,x2,x3⟩:=hcell _ _ rfl hbb)
    | (go_at_call 65;refine (cI _).mono ?_;rintro e w9 ⟨rfl,hw⟩;have hw:=hw.symm;subst hw)
    | (go_at_call 117;refine (cL _).mono ?_;rintro e w9 ⟨rfl,hw⟩;have hw:=hw.symm;subst hw))
   go_ret
   exact⟨by rw[HE.out];rfl,(hb0 _).trans (hbb.mono (hb0 _).size)⟩
  rw[if_neg h3] at hE
  have f3:(op==3)=false:=beq_eq_false_iff_ne.2 h3
  by_cases h4:op=4∨op=5∨op=34
  ·rw[if_pos h4] at hE
   have HE:Hid _:=hE;have cL:=fun w=>sName s hsl w;clear hE hop hop2;rcases h4 with rfl|rfl|rfl
   all_goals
    go_enter Tryz.func67,Tryz.ntmps67
    go_wp2_with (first
     | (go_at_call 115;refine (cK _ (hb0 _)).mono ?_;rintro e w2 ⟨rfl,hbb⟩;obtain⟨x0,x1,x2,x3⟩:=hcell _ _ rfl hbb;have hbw:=(hb0 _).trans (hbb.mono (hb0 _).size))
     | (go_at_call 65;refine (cI _).mono ?_;rintro e w9 ⟨rfl,hw⟩;have hw:=hw.symm;subst hw)
     | (go_at_call 46;refine (cL _).mono ?_;rintro e w3 ⟨rfl,hbc⟩))
    go_ret
    exact⟨by rw[HE.out];rfl,hbw.trans (hbc.mono hbw.size)⟩
  rw[if_neg h4] at hE
  simp only[not_or] at h4
  obtain⟨g4,g5,g34⟩:=h4
  have k1:(op==4)=false:=beq_eq_false_iff_ne.2 g4;have k2:(op==5)=false:=beq_eq_false_iff_ne.2 g5;have k3:(op==34)=false:=beq_eq_false_iff_ne.2 g34
  by_cases h28:op=28
  ·rw[if_pos h28] at hE
   have HE:Hid _:=hE;subst h28;clear hE hop hop2
   go_enter Tryz.func67,Tryz.ntmps67
   go_wp2_with (first
    | (go_at_call 115;refine (cK _ (hb0 _)).mono ?_;rintro e w2 ⟨rfl,hbb⟩;obtain⟨x0,x1,x2,x3⟩:=hcell _ _ rfl hbb;have hbw:=(hb0 _).trans (hbb.mono (hb0 _).size))
    | (go_at_call 65;refine (cI _).mono ?_;rintro e w9 ⟨rfl,hw⟩;have hw:=hw.symm;subst hw))
   have hlt:w.heap.size<w2.heap.size:=by have:=hbb.size;simp at this;omega
   have cC:Calls Tryz.prog 118 #[] w2.drew fun e w'=>e=.returned (.slice (some ⟨w2.heap.size,0,none⟩) 6 6)∧w'.cell? ⟨w.heap.size,2,none⟩=some (.string ⟨s.toArray⟩)∧Calls Tryz.prog 37 #[.slice (some ⟨w2.heap.size,0,none⟩) 6 6,.string ⟨s.toArray⟩] w' (fun e w''=>e=.returned (.bool (callB s))∧Below w.heap.size w w''):=by
    refine (sCalls w2.drew).mono ?_;rintro e w' ⟨rfl,hr,hb'⟩
    refine⟨rfl,(hb'.cell (p:=⟨w.heap.size,2,none⟩) hlt).trans x2,(sWithin (L:=callL) (by decide) s _ 6 w' hr).mono ?_⟩
    rintro e w'' ⟨rfl,rfl⟩
    exact⟨rfl,(Below.drew hbw).trans (hb'.mono hbw.size)⟩
   go_region_with (first
    | (go_at_call 118;with_reducible refine cC.mono ?_;rintro e w3 ⟨rfl,y2,cW⟩)
    | (go_at_call 37;with_reducible refine cW.mono ?_;rintro e w4 ⟨rfl,hbc⟩))
   all_goals go_wp2_with fail
   all_goals go_ret
   all_goals exact⟨by rw[HE.out];rfl,hbc⟩
  rw[if_neg h28] at hE
  have f28:(op==28)=false:=beq_eq_false_iff_ne.2 h28;have HE:Hid _:=hE;clear hE hop hop2;generalize decide (s=[])=D at *
  go_enter Tryz.func67,Tryz.ntmps67
  go_wp2_with (first
   | (go_at_call 115;refine (cK _ (hb0 _)).mono ?_;rintro e w2 ⟨rfl,hbb⟩;obtain⟨x0,x1,x2,x3⟩:=hcell _ _ rfl hbb)
   | (go_at_call 65;refine (cI _).mono ?_;rintro e w9 ⟨rfl,hw⟩;have hw:=hw.symm;subst hw))
  go_ret
  exact⟨by rw[HE.out,← e3];rfl,(hb0 _).trans (hbb.mono (hb0 _).size)⟩

end Ty
namespace Ty
open Nd

structure RuleAsk (W0:World)(r:Ru)(vp vb:Value):Prop where
 nodeb:∀ w',Below W0.heap.size W0 w'→Calls Tryz.prog 67 #[vb] w' fun e w''=>e=.returned (.bool (allB r.2.2))∧Below W0.heap.size W0 w''
 nodep:∀ w',Below W0.heap.size W0 w'→Calls Tryz.prog 67 #[vp] w' fun e w''=>e=.returned (.bool (allB r.2.1))∧Below W0.heap.size W0 w''
 deepb:∀ w',Below W0.heap.size W0 w'→Calls Tryz.prog 68 #[vb] w' fun e w''=>e=.returned (.int .i64 (dep r.2.2))∧Below W0.heap.size W0 w''
 deepp:∀ w',Below W0.heap.size W0 w'→Calls Tryz.prog 68 #[vp] w' fun e w''=>e=.returned (.int .i64 (dep r.2.1))∧Below W0.heap.size W0 w''

theorem ruleAsk_of {W0:World}{r:Ru}{S:Nat→Prop}{p0 p1 p2 p3 b0 b1 b2 b3:Value}(hS:Sen W0)(hsp:siz r.2.1≤1048576)(hsb:siz r.2.2≤1048576)(hlt:∀ k,S k→k<W0.heap.size)(hp:NodeIs W0 r.2.1 S [p0,p1,p2,p3])(hb:NodeIs W0 r.2.2 S [b0,b1,b2,b3]):RuleAsk W0 r (.agg #[p0,p1,p2,p3]) (.agg #[b0,b1,b2,b3]):=by
 have up:∀ {f:Nat} {v x:Value} (w':World) (_:Below W0.heap.size W0 w') (_:Calls Tryz.prog f #[v] w' fun e w''=>e=.returned x∧Below w'.heap.size w' w''),Calls Tryz.prog f #[v] w' fun e w''=>e=.returned x∧Below W0.heap.size W0 w'':=by
  intro f v x w' hb h;refine h.mono ?_;rintro e w'' ⟨rfl,hb2⟩
  exact⟨rfl,hb.trans (hb2.mono hb.size)⟩
 have fp:∀ w',Below W0.heap.size W0 w'→NodeIs w' r.2.1 S [p0,p1,p2,p3]:=fun w' h=>node_frame _ _ _ (fun k hk=>h.block k (hlt k hk)) hp;have fb:∀ w',Below W0.heap.size W0 w'→NodeIs w' r.2.2 S [b0,b1,b2,b3]:=fun w' h=>node_frame _ _ _ (fun k hk=>h.block k (hlt k hk)) hb;have lt:∀ w',Below W0.heap.size W0 w'→∀ k,S k→k<w'.heap.size:=fun w' h k hk=>Nat.lt_of_lt_of_le (hlt k hk) h.size;have cp:=cnts_siz r.2.1;have cb:=cnts_siz r.2.2;exact {
  nodeb:=fun w' h=>up w' h (sNode _ hsb w' _ _ _ _ (hS.later h) (arg_of_node _ hsb _ _ (fb w' h)))
  nodep:=fun w' h=>up w' h (sNode _ hsp w' _ _ _ _ (hS.later h) (arg_of_node _ hsp _ _ (fp w' h)))
  deepb:=fun w' h=>up w' h (sDeep _ (by omega) w' _ _ _ _ _ (fb w' h) (lt w' h))
  deepp:=fun w' h=>up w' h (sDeep _ (by omega) w' _ _ _ _ _ (fp w' h) (lt w' h)) }

def patB (k:Int)(Z E1 A1:Bool)(D1:Nat):Bool:=((decide (1≤k)&&decide (k≤2))&&Z) || (decide (k=3)&&E1&&A1&&decide (D1≤16))
theorem pat_rule (r:Ru):ruleB r=(patB r.1 (zeroB r.2.1) (eB (opOf r.2.1)) (allB r.2.1) (dep r.2.1)&&(decide (opOf r.2.2=29)&&(decide (dep r.2.2≤16)&&allB r.2.2))):=by
 rw[rule_eq]
 unfold patB treeB blB
 by_cases h:r.1=1∨r.1=2
 ·rw[if_pos h]
  have h1:(decide (1≤r.1)&&decide (r.1≤2))=true:=by simp;omega
  have h2:decide (r.1=3)=false:=by simp;omega
  rw[h1,h2]
  generalize zeroB r.2.1=Z;generalize decide (opOf r.2.2=29)=b1;generalize decide (dep r.2.2≤16)=b2;generalize allB r.2.2=b3;cases Z <;> cases b1 <;> cases b2 <;> cases b3 <;> rfl
 ·rw[if_neg h]
  have h1:(decide (1≤r.1)&&decide (r.1≤2))=false:=by simp;omega
  rw[h1]
  generalize decide (opOf r.2.2=29)=b1;generalize decide (dep r.2.2≤16)=b2;generalize allB r.2.2=b3
  by_cases h3:r.1=3
  ·rw[if_pos h3]
   simp only[h3,decide_true];generalize eB (opOf r.2.1)=b4;generalize decide (dep r.2.1≤16)=b5;generalize allB r.2.1=b6;cases b1 <;> cases b2 <;> cases b3 <;> cases b4 <;> cases b5 <;> cases b6 <;> rfl
  ·rw[if_neg h3]
   simp[h3]

set_option maxHeartbeats 4000000 in
set_option maxRecDepth 100000 in
theorem sTidy {w:World}{rs:List Ru}{S:Nat→Prop}{v:Value}{xs:List Value}{B:Nat}(hS:Sen w)(hsz:sizR rs≤1048576)(hlt:∀ k,S k→k<w.heap.size)(ho:w.ownsRow B 53 9 v rs.length xs)(hR:RulesIs w S rs xs):
  Calls Tryz.prog 35 #[v] w fun e w'=>e=.returned (.bool (tidyB rs))∧Below w.heap.size w w':=by
 obtain⟨ao,cap,rfl⟩:=owns_slice ho
 have bn:(rs.length:Int)≤1048576:=by have:=sizR_len rs;omega
 go_enter Tryz.func35,Tryz.ntmps35
 go_wp2_with fail
 go_loopw [3] (fun i wr=>∃ k:Nat,k≤rs.length∧i=.int .i64 k∧tidyB rs=tidyB (rs.drop k)∧Below w.heap.size w wr) (fun i _=>rs.length - (intOf i).toNat)
 case atStart=>exact⟨0,Nat.zero_le _,rfl,rfl,Below.refl _ _⟩
 case round =>
  obtain⟨k,hkn,rfl,hall,hb⟩:=hrel
  by_cases hkl:k<rs.length
  ·have hki:rs[k]?=some rs[k]:=List.getElem?_eq_getElem hkl
   obtain⟨p0,p1,p2,p3,b0,b1,b2,b3,e0,e1,e2,e3,e4,e5,e6,e7,e8,hp,hbd⟩:=rules_at hR hki
   obtain⟨g,rfl,hg,hc⟩:=row_cells ho hkl
   have cc:∀ j x,xs[j]?=some x→wr.cell? ⟨g,j,none⟩=some x:=fun j x hx=>(hb.cell (p:=⟨g,j,none⟩) hg).trans (hc j x hx);have c0:=cc _ _ e0;have c1:=cc _ _ e1;have c2:=cc _ _ e2;have c3:=cc _ _ e3;have c4:=cc _ _ e4;have c5:=cc _ _ e5;have c6:=cc _ _ e6;have c7:=cc _ _ e7;have c8:=cc _ _ e8;have hszr:=sizR_mem (List.getElem_mem hkl);have hap:=arg_open (arg_of_node _ (by omega) _ _ hp);have hab:=arg_open (arg_of_node _ (by omega) _ _ hbd)
   obtain⟨pao,pcap,rfl,rfl,rfl,rfl,-,-⟩:=hap
   obtain⟨bao,bcap,rfl,rfl,rfl,rfl,-,-⟩:=hab
   obtain⟨o,hoo⟩:∃ o,o=Obj.cells #[.int .i64 rs[k].1,.int .i64 (opOf rs[k].2.1),.int .i64 (numOf rs[k].2.1),.string ⟨(txtOf rs[k].2.1).toArray⟩,.slice pao (kidsOf rs[k].2.1).length pcap,.int .i64 (opOf rs[k].2.2),.int .i64 (numOf rs[k].2.2),.string ⟨(txtOf rs[k].2.2).toArray⟩,.slice bao (kidsOf rs[k].2.2).length bcap] 53:=⟨_,rfl⟩
   have hbo:Below w.heap.size w (wr.alloc o):=hb.alloc hb.size _;have hask:=ruleAsk_of (W0:=wr.alloc o) (r:=rs[k]) (S:=S) (hS.later hbo) (by omega) (by omega) (fun j hj=>Nat.lt_of_lt_of_le (hlt j hj) hbo.size) (node_frame _ _ _ (fun j hj=>hbo.block j (hlt j hj)) hp) (node_frame _ _ _ (fun j hj=>hbo.block j (hlt j hj)) hbd);have hbox:∀ w',Below (wr.alloc o).heap.size (wr.alloc o) w'→_:=fun w' h=>((show Box9 (wr.alloc o) wr.heap.size _ _ _ _ _ _ _ _ _ by rw[hoo];exact heap_new _ _).kept (h.block _ (by simp))).cell;have hr:=Below.refl (wr.alloc o).heap.size (wr.alloc o)
   obtain⟨cnb,cnp,cdb,cdp⟩:=hask
   have cIE:=fun w=>sIsE (opOf rs[k].2.1) w;have cIn:=fun w=>sIn1 rs[k].1 1 2 w;have hdp:(dep rs[k].2.1:Int)≤1048577:=by have:=dep_cnt rs[k].2.1;have:=cnt_siz rs[k].2.1;omega
   have hdb:(dep rs[k].2.2:Int)≤1048577:=by have:=dep_cnt rs[k].2.2;have:=cnt_siz rs[k].2.2;omega
   have bk:(k:Int)<rs.length:=by omega
   rw[List.drop_eq_getElem_cons hkl] at hall
   have HA:Hid (tidyB rs=(ruleB rs[k]&&tidyB (rs.drop (k+1)))):=hall.trans rfl;have HP:Hid (ruleB rs[k]=_):=pat_rule rs[k];have z1:(opOf rs[k].2.1==0)=decide (opOf rs[k].2.1=0):=by rw[Bool.eq_iff_iff];simp
   have z2:(numOf rs[k].2.1==0)=decide (numOf rs[k].2.1=0):=by rw[Bool.eq_iff_iff];simp
   have z3:(txtOf rs[k].2.1==[])=decide (txtOf rs[k].2.1=[]):=by rw[Bool.eq_iff_iff];simp
   have z4:(((kidsOf rs[k].2.1).length:Int)==0)=decide (kidsOf rs[k].2.1=[]):=by rw[Bool.eq_iff_iff];simp
   have HZ:Hid (zeroB rs[k].2.1=(decide (opOf rs[k].2.1=0)&&decide (numOf rs[k].2.1=0)&&decide (txtOf rs[k].2.1=[])&&decide (kidsOf rs[k].2.1=[]))):=rfl;clear hR ho hki hall e0 e1 e2 e3 e4 e5 e6 e7 e8 hp hbd hc cc hS hlt hszr hsz;generalize ruleB rs[k]=Q at *;generalize zeroB rs[k].2.1=Z at *;generalize eB (opOf rs[k].2.1)=E1 at *;generalize allB rs[k].2.1=A1 at *;generalize dep rs[k].2.1=D1 at *;generalize allB rs[k].2.2=A2 at *;generalize dep rs[k].2.2=D2 at *;generalize (kidsOf rs[k].2.2).length=bL at *;generalize rs[k].1=kd at *;generalize decide (kidsOf rs[k].2.1=[])=t4 at *;generalize (kidsOf rs[k].2.1).length=pL at *;generalize opOf rs[k].2.1=op1 at *;generalize numOf rs[k].2.1=n1 at *;generalize txtOf rs[k].2.1=s1 at *;generalize opOf rs[k].2.2=op2 at *;generalize numOf rs[k].2.2=n2 at *;generalize txtOf rs[k].2.2=s2 at *;generalize decide (op1=0)=t1 at *;generalize decide (n1=0)=t2 at *;generalize decide (s1=[])=t3 at *;have HO:Hid _:=hoo;clear hoo
   go_upto_region 5 with fail
   go_cut [5] from 7 to 87 (fun v wx=>v=.bool Z∧wx=wr.alloc o)
   case first =>
    cases t1 <;> cases t2 <;> cases t3 <;> cases t4
    all_goals
     go_wp2_with fail;go_meet
     exact⟨by rw[HZ.out];rfl,by rw[HO.out]⟩
   case rest =>
    obtain⟨rfl,hwx⟩:=hcut
    subst hwx;clear HO z1 z2 z3 z4 HZ;generalize hWW:wr.alloc o=W1 at *;clear hWW
    obtain⟨x0,x1,x2,x3,x4,x5,x6,x7,x8⟩:=hbox _ hr
    go_upto_region 6 with fail
    go_cut [6] from 7 to 87 (fun v wx=>v=.bool (patB kd Z E1 A1 D1)∧Below W1.heap.size W1 wx)
    case first =>
     have HQ:Hid (patB kd Z E1 A1 D1=(((decide (1≤kd)&&decide (kd≤2))&&Z) || (decide (kd=3)&&E1&&A1&&decide (D1≤16)))):=rfl;generalize patB kd Z E1 A1 D1=PB at *
     by_cases h12:(decide (1≤kd)&&decide (kd≤2))=true
     ·rw[h12] at cIn HQ
      have h3:¬ kd=3:=by simp at h12;omega
      have f3:(kd==3)=false:=beq_eq_false_iff_ne.2 h3;simp only[h3,decide_false,Bool.false_and,Bool.or_false,Bool.true_and] at HQ;cases Z
      all_goals
       go_wp2_with (go_at_call 65;refine (cIn _).mono ?_;rintro e w9 ⟨rfl,hw⟩;have hw:=hw.symm;subst hw)
       go_meet
       exact⟨by rw[HQ.out],hr⟩
     ·have h12':(decide (1≤kd)&&decide (kd≤2))=false:=by simpa using h12
      rw[h12'] at cIn HQ
      clear h12 h12';simp only[Bool.false_and,Bool.false_or] at HQ
      by_cases h3:kd=3
      ·subst h3;simp only[decide_true,Bool.true_and] at HQ;cases E1
       ·go_wp2_with (first
         | (go_at_call 65;refine (cIn _).mono ?_;rintro e w9 ⟨rfl,hw⟩;have hw:=hw.symm;subst hw)
         | (go_at_call 66;refine (cIE _).mono ?_;rintro e w9 ⟨rfl,hw⟩;have hw:=hw.symm;subst hw))
        go_meet
        exact⟨by rw[HQ.out];rfl,hr⟩
       cases A1
       ·go_wp2_with (first
         | (go_at_call 65;refine (cIn _).mono ?_;rintro e w9 ⟨rfl,hw⟩;have hw:=hw.symm;subst hw)
         | (go_at_call 66;refine (cIE _).mono ?_;rintro e w9 ⟨rfl,hw⟩;have hw:=hw.symm;subst hw)
         | (go_at_call 67;refine (cnp _ hr).mono ?_;rintro e w2 ⟨rfl,hb2⟩))
        go_meet
        exact⟨by rw[HQ.out];rfl,hb2⟩
       have hdd:decide ((D1:Int)≤16)=decide (D1≤16):=by rw[decide_eq_decide];omega
       generalize decide (D1≤16)=DD at *
       go_wp2_with (first
        | (go_at_call 65;refine (cIn _).mono ?_;rintro e w9 ⟨rfl,hw⟩;have hw:=hw.symm;subst hw)
        | (go_at_call 66;refine (cIE _).mono ?_;rintro e w9 ⟨rfl,hw⟩;have hw:=hw.symm;subst hw)
        | (go_at_call 67;refine (cnp _ hr).mono ?_;rintro e w2 ⟨rfl,hb2⟩;obtain⟨y0,y1,y2,y3,y4,y5,y6,y7,y8⟩:=hbox _ hb2)
        | (go_at_call 68;refine (cdp _ hb2).mono ?_;rintro e w3 ⟨rfl,hb3⟩))
       go_meet
       exact⟨by rw[HQ.out];rfl,hb3⟩
      ·have f3:(kd==3)=false:=beq_eq_false_iff_ne.2 h3;simp only[h3,decide_false,Bool.false_and] at HQ
       go_wp2_with (go_at_call 65;refine (cIn _).mono ?_;rintro e w9 ⟨rfl,hw⟩;have hw:=hw.symm;subst hw)
       go_meet
       exact⟨by rw[HQ.out],hr⟩
    case rest =>
     obtain⟨rfl,hb5⟩:=hcut
     obtain⟨y0,y1,y2,y3,y4,y5,y6,y7,y8⟩:=hbox _ hb5
     clear x0 x1 x2 x3 x4 x5 x6 x7 x8 cnp cdp cIE cIn hr;generalize patB kd Z E1 A1 D1=PB at *;cases PB
     ·go_wp2_with fail;go_ret
      exact⟨by rw[HA.out,HP.out];rfl,hbo.trans (hb5.mono hbo.size)⟩
     by_cases h29:op2=29
     ·subst h29
      by_cases h16:D2≤16
      ·have hdI:(D2:Int)≤16:=by omega
       have hdJ:¬ (16:Int)<D2:=by omega
       simp only[h16,decide_true,Bool.true_and] at HP;cases A2
       ·go_wp2_with (first
         | (go_at_call 68;refine (cdb _ hb5).mono ?_;rintro e w6 ⟨rfl,hb6⟩;obtain⟨q0,q1,q2,q3,q4,q5,q6,q7,q8⟩:=hbox _ hb6)
         | (go_at_call 67;refine (cnb _ hb6).mono ?_;rintro e w7 ⟨rfl,hb7⟩))
        go_ret
        exact⟨by rw[HA.out,HP.out];rfl,hbo.trans (hb7.mono hbo.size)⟩
       ·go_wp2_with (first
         | (go_at_call 68;refine (cdb _ hb5).mono ?_;rintro e w6 ⟨rfl,hb6⟩;obtain⟨q0,q1,q2,q3,q4,q5,q6,q7,q8⟩:=hbox _ hb6)
         | (go_at_call 67;refine (cnb _ hb6).mono ?_;rintro e w7 ⟨rfl,hb7⟩))
        go_roundw
        case rel=>exact⟨k+1,hkl,by go_num,by rw[HA.out,HP.out];rfl,hbo.trans (hb7.mono hbo.size)⟩
        case measure=>simp[intOf];omega
      ·have hdI:(16:Int)<D2:=by omega
       simp only[h16,decide_false,Bool.false_and,Bool.and_false] at HP
       go_wp2_with (go_at_call 68;refine (cdb _ hb5).mono ?_;rintro e w6 ⟨rfl,hb6⟩)
       go_ret
       exact⟨by rw[HA.out,HP.out];rfl,hbo.trans (hb6.mono hbo.size)⟩
     ·have f29:(op2==29)=false:=beq_eq_false_iff_ne.2 h29;have g29:(op2 != 29)=true:=by simp[h29]
      simp only[h29,decide_false,Bool.false_and,Bool.and_false] at HP;go_wp2_with fail;go_ret
      exact⟨by rw[HA.out,HP.out];rfl,hbo.trans (hb5.mono hbo.size)⟩
  ·obtain rfl:k=rs.length:=by omega
   rw[List.drop_length] at hall
   have H:Hid _:=hall;clear hall;go_wp2_with fail;go_ret
   exact⟨by rw[H.out];rfl,hb⟩

end Ty
end Go.Proofs.YtllbachngocmnaaGreatDoor
