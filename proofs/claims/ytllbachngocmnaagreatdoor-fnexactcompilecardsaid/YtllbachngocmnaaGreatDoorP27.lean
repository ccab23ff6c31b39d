/-
  What a node is, and what it has beside its kids: the program's functions.
-/
import Derived.Test.YtllbachngocmnaaGreatDoorP16
import Derived.Test.YtllbachngocmnaaGreatDoorP20
namespace Go.Proofs.YtllbachngocmnaaGreatDoor
open Go.RowKit
namespace Ty
open Nd

theorem iIsE (t:Data):Tells 126 (fun t=>eB (opOf t)) t:=by
  intro w a b c u hS hA
  obtain⟨ao,cap,rfl,rfl,rfl,rfl,-,-⟩:=arg_open hA
  have H:Hid (eB (opOf t)=(decide (1≤opOf t)&&decide (opOf t≤28))):=rfl;have hb:Hid (∀ o,Below w.heap.size w (w.alloc o)):=fun o=>(Below.refl _ w).alloc (Nat.le_refl _) _;clear hA hS;show Calls _ _ _ _ fun e w'=>e=.returned (.bool (eB (opOf t)))∧Below w.heap.size w w';generalize eB (opOf t)=E at *;generalize opOf t=op at *
  by_cases h1:1≤op <;> by_cases h2:op≤28
  all_goals
    simp only[h1,h2,decide_true,decide_false] at H
    first
      | omega
      | (go_enter Tryz.func126,Tryz.ntmps126
         go_wp2_with fail;go_ret
         exact⟨by rw[H.out];rfl,hb.out _⟩)

theorem iIsStatement (t:Data):Tells 209 (fun t=>stB (opOf t)) t:=by
  intro w a b c u hS hA
  obtain⟨ao,cap,rfl,rfl,rfl,rfl,-,-⟩:=arg_open hA
  have H:Hid (stB (opOf t)=(decide (29≤opOf t)&&decide (opOf t≤35))):=rfl;have hb:Hid (∀ o,Below w.heap.size w (w.alloc o)):=fun o=>(Below.refl _ w).alloc (Nat.le_refl _) _;clear hA hS;show Calls _ _ _ _ fun e w'=>e=.returned (.bool (stB (opOf t)))∧Below w.heap.size w w';generalize stB (opOf t)=E at *;generalize opOf t=op at *
  by_cases h1:29≤op <;> by_cases h2:op≤35
  all_goals
    simp only[h1,h2,decide_true,decide_false] at H
    first
      | omega
      | (go_enter Tryz.func209,Tryz.ntmps209
         go_wp2_with fail;go_ret
         exact⟨by rw[H.out];rfl,hb.out _⟩)

theorem iIsBlock (t:Data):Tells 123 (fun t=>blB (opOf t)) t:=by
  intro w a b c u hS hA
  obtain⟨ao,cap,rfl,rfl,rfl,rfl,-,-⟩:=arg_open hA
  have H:Hid (blB (opOf t)=decide (opOf t=29)):=rfl;have hb:Hid (∀ o,Below w.heap.size w (w.alloc o)):=fun o=>(Below.refl _ w).alloc (Nat.le_refl _) _;clear hA hS;show Calls _ _ _ _ fun e w'=>e=.returned (.bool (blB (opOf t)))∧Below w.heap.size w w';generalize blB (opOf t)=E at *;generalize opOf t=op at *
  by_cases h1:op=29
  · subst h1
    go_enter Tryz.func123,Tryz.ntmps123
    go_wp2_with fail;go_ret
    exact⟨by rw[H.out];rfl,hb.out _⟩
  · have e1:(op==29)=false:=beq_eq_false_iff_ne.2 h1;simp only[h1,decide_false] at H
    go_enter Tryz.func123,Tryz.ntmps123
    go_wp2_with fail;go_ret
    exact⟨by rw[H.out];rfl,hb.out _⟩

theorem iIsSettable (t:Data):Tells 208 (fun t=>setB (opOf t)) t:=by
  intro w a b c u hS hA
  obtain⟨ao,cap,rfl,rfl,rfl,rfl,-,-⟩:=arg_open hA
  have H:Hid (setB (opOf t)=(decide (opOf t=4) || decide (opOf t=5))):=rfl;have hb:Hid (∀ o,Below w.heap.size w (w.alloc o)):=fun o=>(Below.refl _ w).alloc (Nat.le_refl _) _;clear hA hS;show Calls _ _ _ _ fun e w'=>e=.returned (.bool (setB (opOf t)))∧Below w.heap.size w w';generalize setB (opOf t)=E at *;generalize opOf t=op at *
  by_cases h1:op=4
  · subst h1
    go_enter Tryz.func208,Tryz.ntmps208
    go_wp2_with fail;go_ret
    exact⟨by rw[H.out];rfl,hb.out _⟩
  · have e1:(op==4)=false:=beq_eq_false_iff_ne.2 h1
    by_cases h2:op=5
    · subst h2
      go_enter Tryz.func208,Tryz.ntmps208
      go_wp2_with fail;go_ret
      exact⟨by rw[H.out];rfl,hb.out _⟩
    · have e2:(op==5)=false:=beq_eq_false_iff_ne.2 h2;simp only[h1,h2,decide_false] at H
      go_enter Tryz.func208,Tryz.ntmps208
      go_wp2_with fail;go_ret
      exact⟨by rw[H.out];rfl,hb.out _⟩

theorem iIsZero (t:Data):Tells 125 zeroB t:=by
  intro w a b c u hS hA
  obtain⟨ao,cap,rfl,rfl,rfl,rfl,-,-⟩:=arg_open hA
  have H:Hid (zeroB t=(decide (opOf t=0)&&decide (numOf t=0)&&decide (txtOf t=[])&&decide (kidsOf t=[]))):=rfl;have hb:Hid (∀ o,Below w.heap.size w (w.alloc o)):=fun o=>(Below.refl _ w).alloc (Nat.le_refl _) _;clear hA hS;generalize zeroB t=E at *;have e1:(opOf t==0)=decide (opOf t=0):=by rw[Bool.eq_iff_iff];simp
  have e2:(numOf t==0)=decide (numOf t=0):=by rw[Bool.eq_iff_iff];simp
  have e3:(txtOf t==[])=decide (txtOf t=[]):=by rw[Bool.eq_iff_iff];simp
  obtain⟨L,hL⟩:∃ L,L=(kidsOf t).length:=⟨_,rfl⟩
  have e4:((L:Int)==0)=decide (kidsOf t=[]):=by rw[Bool.eq_iff_iff,hL];simp
  rw[← hL]
  clear hL;generalize opOf t=op at *;generalize numOf t=n at *;generalize txtOf t=s at *;generalize decide (op=0)=b1 at *;generalize decide (n=0)=b2 at *;generalize decide (s=[])=b3 at *;generalize decide (kidsOf t=[])=b4 at *;cases b1 <;> cases b2 <;> cases b3 <;> cases b4
  all_goals
    go_enter Tryz.func125,Tryz.ntmps125
    go_wp2_with fail;go_ret
    exact⟨by rw[H.out];rfl,hb.out _⟩

end Ty
namespace Ty
open Nd

def wordN (t:Data):Bool:=wordB (opOf t) (numOf t) (txtOf t)

set_option maxHeartbeats 1000000 in
theorem iWordTidy (t:Data)(hsz:siz t≤1048576):Tells 179 wordN t:=by
 intro w a b c u hS hA
 obtain⟨ao,cap,rfl,rfl,rfl,rfl,-,hnd⟩:=arg_open hA
 have H:Hid (wordN t=(if opOf t=1 then decide (0≤numOf t)&&Dec.okB (numOf t)&&decide (txtOf t=[])
 else decide (numOf t=0)&&(if opOf t=2 then lineB (txtOf t) else if opOf t=3 then rexB (txtOf t) else if opOf t=4∨opOf t=5∨opOf t=34 then nameB (txtOf t) else if opOf t=28 then callB (txtOf t) else decide (txtOf t=[])))):=rfl
 have hb:Hid (∀ o,Below w.heap.size w (w.alloc o)):=fun o=>(Below.refl _ w).alloc (Nat.le_refl _) _;have hlen:(txtOf t).length≤1048576:=by rw[hnd,siz_nd] at hsz;omega
 have hSA:∀ o,Sen (w.alloc o):=fun o=>hS.alloc o;clear hA hS hnd hsz;show Calls _ _ _ _ fun e w'=>e=.returned (.bool (wordN t))∧Below w.heap.size w w';generalize wordN t=E at *;generalize opOf t=op at *;generalize numOf t=n at *;generalize txtOf t=s at *;generalize (kidsOf t).length=L at *;have e3:(s==[])=decide (s=[]):=by rw[Bool.eq_iff_iff];simp
 have e5:(n==0)=decide (n=0):=by rw[Bool.eq_iff_iff];simp
 by_cases h1:op=1
 ·subst h1
  obtain⟨E1,hE1⟩:∃ b,b=Dec.okB n:=⟨_,rfl⟩
  have cd:∀ o,o=Obj.cells #[.int .i64 1,.int .i64 n,.string ⟨s.toArray⟩,.slice ao L cap] 51→Calls Tryz.prog 156 #[.int .i64 n] (w.alloc o) fun e w'=>e=.returned (.bool E1)∧w'.cell? ⟨w.heap.size,2,none⟩=some (.string ⟨s.toArray⟩)∧Below w.heap.size w w':=fun o ho=>by
   obtain⟨a,hc⟩:=hSA o
   refine (iDecOk n a _ hc).mono ?_;rintro e w' ⟨rfl,k,rfl⟩
   refine⟨by rw[hE1],?_,below_drewN (hb.out o) k⟩
   subst ho;exact (cell_of_row (w.alloc _) w.heap.size 2 _ _ _ (heap_alloc_new w _)).trans rfl
  have HE:Hid (E=(decide (0≤n)&&E1&&decide (s=[]))):=by show _=_;rw[H.out,if_pos rfl,hE1]
  clear H hE1 hSA;generalize decide (s=[])=b3 at *
  by_cases h2:0≤n
  ·simp only[h2,decide_true] at HE;cases E1
   ·go_enter Tryz.func179,Tryz.ntmps179
    go_wp2_with (go_at_call 156;refine (cd _ rfl).mono ?_;rintro e w2 ⟨rfl,hc2,hb2⟩)
    go_ret
    exact⟨by rw[HE.out];simp,hb2⟩
   ·go_enter Tryz.func179,Tryz.ntmps179
    go_wp2_with (go_at_call 156;refine (cd _ rfl).mono ?_;rintro e w2 ⟨rfl,hc2,hb2⟩)
    go_ret
    exact⟨by rw[HE.out,← e3];rfl,hb2⟩
  ·simp only[h2,decide_false] at HE
   go_enter Tryz.func179,Tryz.ntmps179
   go_wp2_with fail;go_ret
   exact⟨by rw[HE.out];simp,hb.out _⟩
 ·have f1:(op==1)=false:=beq_eq_false_iff_ne.2 h1
  by_cases h0:n=0
  ·subst h0
   by_cases h2:op=2
   ·subst h2;have ct:=fun w=>iTextOf ⟨s.toArray⟩ w;have HE:Hid (E=lineB s):=by show _=_;rw[H.out];simp
    clear H
    go_enter Tryz.func179,Tryz.ntmps179
    go_wp2_with (go_at_call 205;refine (ct _).mono ?_;rintro e w2 ⟨rfl,hw⟩;have hw:=hw.symm;subst hw)
    go_ret
    exact⟨by rw[HE.out];rfl,hb.out _⟩
   ·have f2:(op==2)=false:=beq_eq_false_iff_ne.2 h2
    by_cases h3:op=3
    ·subst h3;have ct:=fun w=>iRexOf ⟨s.toArray⟩ (by show ((s.toArray.size:Nat):Int)≤_;simp;omega) w;have HE:Hid (E=rexB s):=by show _=_;rw[H.out];simp
     clear H
     go_enter Tryz.func179,Tryz.ntmps179
     go_wp2_with (go_at_call 206;refine (ct _).mono ?_;rintro e w2 ⟨rfl,hw⟩;have hw:=hw.symm;subst hw)
     go_ret
     exact⟨by rw[HE.out];rfl,hb.out _⟩
    ·have f3:(op==3)=false:=beq_eq_false_iff_ne.2 h3
     by_cases h4:op=4∨op=5∨op=34
     ·have ct:=iTidyName s hlen;have HE:Hid (E=nameB s):=by show _=_;rw[H.out];simp[h1,h2,h3,h4]
      clear H;rcases h4 with rfl|rfl|rfl
      all_goals
       go_enter Tryz.func179,Tryz.ntmps179
       go_wp2_with (go_at_call 148;refine (ct _).mono ?_;rintro e w2 ⟨rfl,hb2⟩)
       go_ret
       exact⟨by rw[HE.out];rfl,(hb.out _).trans (hb2.mono (hb.out _).size)⟩
     ·have HE:Hid (E=(if op=28 then callB s else decide (s=[]))):=by show _=_;rw[H.out];simp[h1,h2,h3,h4]
      simp only[not_or] at h4
      obtain⟨g1,g2,g3⟩:=h4
      have k1:(op==4)=false:=beq_eq_false_iff_ne.2 g1;have k2:(op==5)=false:=beq_eq_false_iff_ne.2 g2;have k3:(op==34)=false:=beq_eq_false_iff_ne.2 g3;clear H
      by_cases h28:op=28
      ·subst h28;have ct:=iHasCall s
       rw[if_pos rfl] at HE
       go_enter Tryz.func179,Tryz.ntmps179
       go_wp2_with (go_at_call 158;refine (ct _).mono ?_;rintro e w2 ⟨rfl,hw⟩;have hw:=hw.symm;subst hw)
       go_ret
       exact⟨by rw[HE.out];rfl,hb.out _⟩
      ·have f28:(op==28)=false:=beq_eq_false_iff_ne.2 h28
       rw[if_neg h28] at HE
       go_enter Tryz.func179,Tryz.ntmps179
       go_wp2_with fail;go_ret
       exact⟨by rw[HE.out,← e3];rfl,hb.out _⟩
  ·have e0:(n==0)=false:=beq_eq_false_iff_ne.2 h0;have HE:Hid (E=false):=by show _=_;rw[H.out];simp[h1,h0]
   clear H e5
   go_enter Tryz.func179,Tryz.ntmps179
   go_wp2_with fail;go_ret
   exact⟨by rw[HE.out];rfl,hb.out _⟩

end Ty
namespace Ty
open Nd

theorem hold {p:Prop}(h:Hid p):p:=h
theorem wpList_call_fn {P:Program}{ops:Array Oper}{rest:List Oper}{o:Oper}{a:Act}{w:World}{Q:Exit→Act→World→Prop}(hg:o.guard=none)(x y:Nat)(t:TypeId)(hop:o.op=Op.call { callee:=Callee.value (.tmp x),args:=#[.tmp y],argTypes:=#[t] })
  (f:Nat) (cap:Array Value) (hx:a.eval (.tmp x)=.func (.func f) #[] cap) (hcf:∀ vs w,(callFunc f vs).run P w=.ok (.enter f vs) w) (fv:Value) (hy:a.eval (.tmp y)=fv)
  (hc:Calls P f (#[fv]++cap) w fun e w'=>∃ v,e=.returned v∧wpList P ops Q rest (a.put o.dst v) w'):wpList P ops Q (o::rest) a w:=by
 refine wpList_plain hg fun K hK=>?_;unfold Oper.wp;simp[Act.eval] at hx hy;simp[execOp,hop,resolve,invoke,hcf,go_sem,hx,hy];refine hc.mono ?_;rintro e w' ⟨v,rfl,hk⟩;exact hK _ _ hk

def Enters (f:Nat):Prop:=∀ (vs:Array Value) (w:World),(callFunc f vs).run Tryz.prog w=.ok (.enter f vs) w
theorem enterE:Enters 126:=fun vs w=>by kernel_rfl
theorem enterSt:Enters 209:=fun vs w=>by kernel_rfl
theorem enterBl:Enters 123:=fun vs w=>by kernel_rfl
theorem enterSet:Enters 208:=fun vs w=>by kernel_rfl
theorem enterNode:Enters 164:=fun vs w=>by kernel_rfl

theorem all_take {p:Data→Bool}{ks:List Data}{k:Nat}{t:Data}(h:ks[k]?=some t):(ks.take (k+1)).all p=((ks.take k).all p&&p t):=by
 rw[List.take_add_one,h,List.all_append]
 simp
theorem all_no {p:Data→Bool}{ks:List Data}{t:Data}(h:t∈ks)(hp:p t=false):ks.all p=false:=by
 rcases hb:ks.all p with _|_
 ·rfl
 ·rw[List.all_eq_true.1 hb t h] at hp;cases hp

set_option maxRecDepth 100000 in
theorem iAreAll {f:Nat}{p:Data→Bool}{ks:List Data}(hf:∀ t∈ks,Tells f p t)(hent:Enters f)(hn:ks.length≤1048577)(w:World)(ao:Option Addr)(cap:Nat)(hS:Sen w)(hA:ArgsIs w ks ao 0):
  Calls Tryz.prog 163 #[.slice ao ks.length cap,.func (.func f) #[] #[]] w fun e w'=>e=.returned (.bool (ks.all p))∧Below w.heap.size w w':=by
 have bn:(ks.length:Int)≤1048577:=by omega
 clear hn
 go_enter Tryz.func163,Tryz.ntmps163
 go_wp2_with fail
 go_loopw [9] (fun i wr=>∃ k:Nat,k≤ks.length∧i=.int .i64 k∧(ks.take k).all p=true∧Below w.heap.size w wr) (fun i _=>ks.length - (intOf i).toNat)
 case atStart=>exact⟨0,Nat.zero_le _,rfl,rfl,Below.refl _ _⟩
 case round =>
  obtain⟨k,hkn,rfl,hall,hb⟩:=hrel
  by_cases hkl:k<ks.length
  ·have hki:ks[k]?=some ks[k]:=List.getElem?_eq_getElem hkl
   obtain⟨b,o,x0,x1,x2,x3,rfl,hbl,c0,c1,c2,c3,ht⟩:=args_at (args_frame hb hA) hki
   simp only[Nat.zero_add] at c0 c1 c2 c3;have bk:(k:Int)<ks.length:=by omega
   have hSr:=hS.later hb;have hT:=all_take (p:=p) hki
   rw[hall,Bool.true_and] at hT
   have call:=fun oo=>hf ks[k] (List.getElem_mem hkl) (wr.alloc oo) x0 x1 x2 x3 (hSr.alloc oo) (arg_frame ((Below.refl _ wr).alloc (Nat.le_refl _) _) _ _ ht)
   obtain⟨ao',cap',rfl,rfl,rfl,rfl,-,-⟩:=arg_open ht
   have hbo:∀ oo,Below w.heap.size w (wr.alloc oo):=fun oo=>hb.alloc hb.size _;have hbs:∀ oo,w.heap.size≤(wr.alloc oo).heap.size:=fun oo=>(hbo oo).size;have HN:Hid (p ks[k]=false→ks.all p=false):=all_no (List.getElem_mem hkl);have HT:Hid _:=hT;clear hf hA hS ht hki hall hT hSr;generalize opOf ks[k]=op at *;generalize numOf ks[k]=n at *;generalize txtOf ks[k]=s at *;generalize (kidsOf ks[k]).length=L at *;generalize p ks[k]=B at *;cases B
   ·replace HN:Hid (ks.all p=false):=HN.out rfl
    go_wp2_with (refine wpList_call_fn rfl 13 14 51 rfl f #[] (by simp[Act.eval]) hent _ rfl ?_;refine (call _).mono ?_;rintro e w2 ⟨rfl,hb2⟩;refine⟨_,rfl,?_⟩)
    go_ret
    exact⟨by rw[HN.out];rfl,(hbo _).trans (hb2.mono (hbs _))⟩
   ·go_wp2_with (refine wpList_call_fn rfl 13 14 51 rfl f #[] (by simp[Act.eval]) hent _ rfl ?_;refine (call _).mono ?_;rintro e w2 ⟨rfl,hb2⟩;refine⟨_,rfl,?_⟩)
    go_roundw
    case rel=>exact⟨k+1,hkl,by go_num,HT.out,(hbo _).trans (hb2.mono (hbs _))⟩
    case measure=>simp[intOf];omega
  ·obtain rfl:k=ks.length:=by omega
   rw[List.take_length] at hall
   have H:Hid _:=hall;clear hall;go_wp2_with fail;go_ret
   exact⟨by rw[H.out];rfl,hb⟩

def FnRow (w:World)(g:Nat)(fs:List Nat):Prop:=∀ j f,fs[j]?=some f→w.cell? ⟨g,j,none⟩=some (.func (.func f) #[] #[])
theorem FnRow.later {w w':World}{g:Nat}{fs:List Nat}(h:FnRow w g fs)(hb:Below w.heap.size w w'):FnRow w' g fs:=fun j f hj=>(hb.cell (World.block_lt_of_cell? _ _ (h j f hj))).trans (h j f hj)
theorem fnRow_new (w:World)(fs:List Nat)(T:TypeId)(o:Obj)(ho:o=.cells (fs.map fun f=>Value.func (.func f) #[] #[]).toArray T):FnRow (w.alloc o) w.heap.size fs:=fun j f h=>by
 have:=heap_alloc_new w o
 subst ho;exact (cell_of_row _ _ j _ _ _ this).trans (by simp[h])

def KindOk (f:Nat)(p:Int→Bool):Prop:=Enters f∧∀ t,Tells f (fun t=>p (opOf t)) t
theorem kE:KindOk 126 eB:=⟨enterE,iIsE⟩
theorem kSt:KindOk 209 stB:=⟨enterSt,iIsStatement⟩
theorem kBl:KindOk 123 blB:=⟨enterBl,iIsBlock⟩
theorem kSet:KindOk 208 setB:=⟨enterSet,iIsSettable⟩

theorem just_len:∀ {ps:List (Int→Bool)} {xs:List Int},ps.length≠xs.length→justB ps xs=false
 | [],[],h=>absurd rfl h
 | [],x::xs,_=>rfl
 | p::ps,[],_=>rfl
 | p::ps,x::xs,h=>by
  simp only[justB,just_len (ps:=ps) (xs:=xs) (by simpa using h),Bool.and_false]
theorem just_drop:∀ {ps:List (Int→Bool)} {xs:List Int} {k:Nat} {p:Int→Bool} {x:Int},ps[k]?=some p→xs[k]?=some x→justB (ps.drop k) (xs.drop k)=(p x&&justB (ps.drop (k+1)) (xs.drop (k+1)))
 | [],xs,k,p,x,h,_=>by simp at h
 | p'::ps,[],k,p,x,_,h=>by simp at h
 | p'::ps,x'::xs,0,p,x,h,h'=>by
  simp at h h';subst h h';simp[justB]
 | p'::ps,x'::xs,k+1,p,x,h,h'=>by
  simp only[List.drop_succ_cons];exact just_drop (by simpa using h) (by simpa using h')

set_option maxRecDepth 100000 in
theorem iAreJust {fs:List Nat}{ps:List (Int→Bool)}(hlf:fs.length=ps.length)(hfp:∀ (j:Nat) f p,fs[j]?=some f→ps[j]?=some p→KindOk f p)(hp:ps.length≤5){ks:List Data}(hn:ks.length≤1048577)(w:World)(ao:Option Addr)(cap cap':Nat)(ao':Option Addr)(hg:fs.length=0∨∃ g,ao'=some ⟨g,0,none⟩∧FnRow w g fs)(hS:Sen w)(hA:ArgsIs w ks ao 0):
  Calls Tryz.prog 207 #[.slice ao ks.length cap,.slice ao' fs.length cap'] w fun e w'=>e=.returned (.bool (justB ps (ks.map opOf)))∧Below w.heap.size w w':=by
 have bn:(ks.length:Int)≤1048577:=by omega
 have bf:(fs.length:Int)≤5:=by omega
 by_cases hl:ks.length=fs.length
 ·have hd:justB ps (ks.map opOf)=justB (ps.drop 0) ((ks.map opOf).drop 0):=by simp
  have HD:Hid _:=hd;have LL:Hid _:=hl;have LP:Hid _:=hlf;have e1:((ks.length:Int)==(fs.length:Int))=true:=by rw[hl];simp
  have e2:(ks.length:Int)=(fs.length:Int):=by omega
  have e3:¬ (ks.length:Int)≠(fs.length:Int):=by omega
  clear hn hp hl hlf hd;generalize justB ps (ks.map opOf)=J at *;generalize hK:ks.length=K at *;have HK:Hid _:=hK;clear hK
  go_enter Tryz.func207,Tryz.ntmps207
  go_wp2_with fail
  go_loopw [5,6,14] (fun _ _ i wr=>∃ k:Nat,k≤fs.length∧i=.int .i64 k∧J=justB (ps.drop k) ((ks.map opOf).drop k)∧Below w.heap.size w wr) (fun _ _ i _=>fs.length - (intOf i).toNat)
  case atStart=>exact⟨0,Nat.zero_le _,rfl,HD.out,Below.refl _ _⟩
  case round =>
   clear HD
   obtain⟨k,hkn,rfl,hJ,hb⟩:=hrel
   by_cases hkl:k<fs.length
   ·have h1:=LL.out;have h2:=LP.out;have h3:=HK.out;have hkk:k<ks.length:=by omega
    have hki:ks[k]?=some ks[k]:=List.getElem?_eq_getElem hkk;have hfi:fs[k]?=some fs[k]:=List.getElem?_eq_getElem hkl;have hpi:ps[k]?=some ps[k]:=List.getElem?_eq_getElem (by omega)
    obtain⟨b,o,x0,x1,x2,x3,rfl,hbl,c0,c1,c2,c3,ht⟩:=args_at (args_frame hb hA) hki
    simp only[Nat.zero_add] at c0 c1 c2 c3
    obtain⟨g,rfl,hrow⟩:∃ g,ao'=some ⟨g,0,none⟩∧FnRow w g fs:=by
     rcases hg with h|h
     ·omega
     ·exact h
    have hcf:=hrow.later hb k _ hfi;have bk:(k:Int)<fs.length:=by omega
    have bk2:(k:Int)<K:=by omega
    obtain⟨hent,htell⟩:=hfp k _ _ hfi hpi
    have call:=htell ks[k] wr x0 x1 x2 x3 (hS.later hb) ht;simp only[] at call
    rw[just_drop hpi (x:=opOf ks[k]) (by simp[hki])] at hJ
    obtain⟨ao2,cap2,rfl,rfl,rfl,rfl,-,-⟩:=arg_open ht
    have HJ:Hid _:=hJ;clear hfp hA hS ht hki hfi hpi htell hg hrow hJ;generalize fs[k]=f at *;generalize ps[k] (opOf ks[k])=B at *;generalize opOf ks[k]=op at *;generalize numOf ks[k]=n at *;generalize txtOf ks[k]=s at *;generalize (kidsOf ks[k]).length=L at *;clear h1 h2 h3;cases B
    ·go_wp2_with (refine wpList_call_fn rfl 19 23 51 rfl f #[] (by simp[Act.eval]) hent _ rfl ?_;refine call.mono ?_;rintro e w2 ⟨rfl,hb2⟩;refine⟨_,rfl,?_⟩)
     go_ret
     exact⟨by rw[HJ.out];rfl,hb.trans (hb2.mono hb.size)⟩
    ·go_wp2_with (refine wpList_call_fn rfl 19 23 51 rfl f #[] (by simp[Act.eval]) hent _ rfl ?_;refine call.mono ?_;rintro e w2 ⟨rfl,hb2⟩;refine⟨_,rfl,?_⟩)
     go_roundw
     case rel=>exact⟨k+1,hkl,by go_num,by rw[HJ.out,Bool.true_and],hb.trans (hb2.mono hb.size)⟩
     case measure=>simp[intOf];omega
   ·obtain rfl:k=fs.length:=by omega
    have H:Hid (J=true):=by
     have h1:=LL.out;have h2:=LP.out;have h3:=HK.out;show _=_
     rw[hJ,List.drop_eq_nil_of_le (by omega),List.drop_eq_nil_of_le (by simp;omega)]
     rfl
    clear hJ;go_wp2_with fail;go_ret
    exact⟨by rw[H.out];rfl,hb⟩
 ·have H:Hid (justB ps (ks.map opOf)=false):=just_len (by simp;omega);have e1:((ks.length:Int)==(fs.length:Int))=false:=by simp;omega
  have e2:¬ (ks.length:Int)=(fs.length:Int):=by omega
  clear hfp
  go_enter Tryz.func207,Tryz.ntmps207
  go_wp2_with fail;go_ret
  exact⟨by rw[H.out];rfl,Below.refl _ _⟩

end Ty
end Go.Proofs.YtllbachngocmnaaGreatDoor
