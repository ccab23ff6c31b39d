/-
  Nodes of an argument, and how big they are: szNode, szNodeS.
-/
import Derived.Test.YtllbachngocmnaaGreatDoorP02
import Derived.Shelf.SlIter.Nil
import Derived.Shelf.SortM.Plain
import Derived.Shelf.SortM.SortNone
import Derived.Ground.GgzProg
import Derived.Ground.SlgmProg
namespace Go.Proofs.YtllbachngocmnaaGreatDoor
open Go.RowKit
namespace Nd

mutual
def ArgIs (w:World):Data→List Value→Prop
 | .slice ks lab,cs=>∃ (op n:Int) (s:List UInt8) (ao:Option Addr) (cap:Nat),lab=[.lit (.int .i64 op),.lit (.int .i64 n),.lit (.string s)] ∧
   cs=[.int .i64 op,.int .i64 n,.string ⟨s.toArray⟩,.slice ao ks.length cap]∧s.length≤maxLen∧ks.length≤maxLen∧ArgsIs w ks ao 0
 | _,_=>False
def ArgsIs (w:World):List Data→Option Addr→Nat→Prop
 | [],_,_=>True
 | t::ts,ao,i=>(∃ (b o:Nat) (x0 x1 x2 x3:Value),ao=some ⟨b,o,none⟩∧b<w.heap.size∧w.cell? ⟨b,o+i*4,none⟩=some x0∧w.cell? ⟨b,o+i*4+1,none⟩=some x1∧w.cell? ⟨b,o+i*4+2,none⟩=some x2∧w.cell? ⟨b,o+i*4+3,none⟩=some x3∧ArgIs w t [x0,x1,x2,x3])∧ArgsIs w ts ao (i+1)
end

theorem arg_form {w:World}{t:Data}{cs:List Value}(h:ArgIs w t cs):∃ op n s ao cap,t=nd op n s (kidsOf t)∧cs=[.int .i64 op,.int .i64 n,.string ⟨s.toArray⟩,.slice ao (kidsOf t).length cap]∧s.length≤maxLen∧(kidsOf t).length≤maxLen∧ArgsIs w (kidsOf t) ao 0:=by
 cases t <;> simp only[ArgIs] at h
 obtain⟨op,n,s,ao,cap,rfl,hc,h1,h2,h3⟩:=h
 exact⟨op,n,s,ao,cap,rfl,hc,h1,h2,h3⟩

theorem args_at {w:World}:∀ {ts:List Data} {ao:Option Addr} {i j:Nat} {t:Data},ArgsIs w ts ao i→ts[j]?=some t→∃ (b o:Nat) (x0 x1 x2 x3:Value),ao=some ⟨b,o,none⟩∧b<w.heap.size∧w.cell? ⟨b,o+(i+j)*4,none⟩=some x0∧w.cell? ⟨b,o+(i+j)*4+1,none⟩=some x1∧w.cell? ⟨b,o+(i+j)*4+2,none⟩=some x2∧w.cell? ⟨b,o+(i+j)*4+3,none⟩=some x3∧ArgIs w t [x0,x1,x2,x3]
 | [],ao,i,j,t,h,hj=>by simp at hj
 | t'::ts,ao,i,0,t,h,hj=>by
  simp only[ArgsIs] at h;simp at hj;subst hj;exact h.1
 | t'::ts,ao,i,j+1,t,h,hj=>by
  simp only[ArgsIs] at h
  have:=args_at h.2 (by simpa using hj:ts[j]?=some t)
  rw[show i+1+j=i+(j+1) by omega] at this
  exact this

theorem args_frame_of {w w':World}(hb:Below w.heap.size w w'):∀ (ts:List Data) (ao:Option Addr) (i:Nat),(∀ t∈ts,∀ cs,ArgIs w t cs→ArgIs w' t cs)→ArgsIs w ts ao i→ArgsIs w' ts ao i
 | [],ao,i,_,_=>by simp only[ArgsIs]
 | t::ts,ao,i,hT,h=>by
  simp only[ArgsIs] at h ⊢
  obtain⟨⟨b,o,x0,x1,x2,x3,e,hl,c0,c1,c2,c3,ht⟩,h2⟩:=h
  have hc:∀ k,w'.cell? ⟨b,k,none⟩=w.cell? ⟨b,k,none⟩:=fun k=>hb.cell (p:=⟨b,k,none⟩) hl
  exact⟨⟨b,o,x0,x1,x2,x3,e,Nat.lt_of_lt_of_le hl hb.size,(hc _).trans c0,(hc _).trans c1,(hc _).trans c2,(hc _).trans c3,hT t (by simp) _ ht⟩,args_frame_of hb ts ao (i+1) (fun t ht=>hT t (by simp[ht])) h2⟩

theorem arg_frame {w w':World}(hb:Below w.heap.size w w')(t:Data):∀ (cs:List Value),ArgIs w t cs→ArgIs w' t cs:=by
 induction t using tree_ind with
 | h ks lab ih =>
  intro cs h
  rw[ArgIs] at h ⊢
  obtain⟨op,n,s,ao,cap,hl,hc,h1,h2,h3⟩:=h
  exact⟨op,n,s,ao,cap,hl,hc,h1,h2,args_frame_of hb ks ao 0 ih h3⟩
 | h1 t ht =>
  intro cs h
  obtain⟨op,n,s,ao,cap,e,_⟩:=arg_form h
  exact absurd e (ht _ _)

theorem args_frame {w w':World}(hb:Below w.heap.size w w'){ts:List Data}{ao:Option Addr}{i:Nat}(h:ArgsIs w ts ao i):ArgsIs w' ts ao i :=
 args_frame_of hb ts ao i (fun t _=>arg_frame hb t) h

def SzOk (t:Data):Prop:=∀ (w:World) (a b c u:Value) (left:Int),ArgIs w t [a,b,c,u]→0≤left→left≤1048576 →
 Calls Tryz.prog 34 #[.agg #[a,b,c,u],.int .i64 left] w fun e w'=>∃ z,e=.returned (.int .i64 z) ∧ -1≤z∧z≤left∧(0≤z→(cnts (kidsOf t):Int)≤left - z)∧Below w.heap.size w w'

set_option maxRecDepth 100000 in
theorem lSzNodeS {ks:List Data}(hk:∀ t∈ks,SzOk t)(hn:ks.length≤maxLen)(w:World)(ao:Option Addr)(cap:Nat)(left:Int)(hA:ArgsIs w ks ao 0)(l0:0≤left)(l1:left≤1048576):
  Calls Tryz.prog 64 #[.slice ao ks.length cap,.int .i64 left] w fun e w'=>∃ z,e=.returned (.int .i64 z) ∧ -1≤z∧z≤left∧(0≤z→(cnts ks:Int)≤left - z)∧Below w.heap.size w w':=by
 unfold maxLen at hn;have bn:(ks.length:Int)≤9223372036854775807:=by omega
 by_cases hl:left - ks.length<0
 ·go_enter Tryz.func64,Tryz.ntmps64
  go_wp2_with fail;go_ret
  exact⟨-1,rfl,by omega,by omega,by omega,Below.refl _ _⟩
 ·have bn2:(ks.length:Int)≤1048576:=by omega
  go_enter Tryz.func64,Tryz.ntmps64
  go_wp2_with fail
  go_loopw [1,5] (fun l i wr=>∃ (z:Int) (k:Nat),l=.int .i64 z∧0≤z∧z≤left∧i=.int .i64 k∧k≤ks.length∧(cnts (ks.take k):Int)+(ks.length - k)≤left - z∧Below w.heap.size w wr) (fun _ i _=>ks.length - (intOf i).toNat)
  case atStart=>exact⟨left - ks.length,0,rfl,by omega,by omega,rfl,Nat.zero_le _,by simp[cnts];omega,Below.refl _ _⟩
  case round =>
   obtain⟨z,k,rfl,z0,z1,rfl,hkl0,hcz,hb⟩:=hrel
   by_cases hkl:k<ks.length
   ·have hki:ks[k]?=some ks[k]:=List.getElem?_eq_getElem hkl
    obtain⟨b,o,x0,x1,x2,x3,rfl,hbl,c0,c1,c2,c3,ht⟩:=args_at (args_frame hb hA) hki
    simp only[Nat.zero_add] at c0 c1 c2 c3;have call:=hk ks[k] (List.getElem_mem hkl) wr x0 x1 x2 x3 z ht z0 (by omega)
    obtain⟨op,n,s,ao',cap',-,hcs,-⟩:=arg_form ht
    simp only[List.cons.injEq,and_true] at hcs
    obtain⟨rfl,rfl,rfl,rfl⟩:=hcs
    have HT:Hid (cnts (ks.take (k+1))=cnts (ks.take k)+cnt ks[k]):=cnts_take ks k ks[k] hki;have HK:Hid (cnt ks[k]=cnts (kidsOf ks[k])+1):=cnt_kids ks[k];clear hki hk ht;generalize cnt ks[k]=C at *;generalize cnts (kidsOf ks[k])=C1 at *;generalize hM:cnts (ks.take k)=M at *;generalize hM2:cnts (ks.take (k+1))=M2 at *;generalize (kidsOf ks[k]).length=L at *;clear hM;have hbI:(k:Int)<ks.length:=by omega
    go_wp2_with (go_at_call 34;refine call.mono ?_;rintro e w2 ⟨z2,rfl,a0,a1,a2,hb2⟩)
    ·go_ret
     exact⟨-1,rfl,by omega,by omega,by omega,hb.trans (hb2.mono hb.size)⟩
    ·go_roundw
     case rel =>
      have h1:=HT.out;have h2:=HK.out
      exact⟨z2,k+1,rfl,by omega,by omega,by go_num,hkl,by rw[hM2];omega,hb.trans (hb2.mono hb.size)⟩
     case measure=>simp[intOf];omega
   ·obtain rfl:k=ks.length:=by omega
    rw[List.take_length] at hcz
    go_wp2_with fail;go_ret
    exact⟨z,rfl,by omega,by omega,by omega,hb⟩

set_option maxRecDepth 100000 in
theorem lSzNode (t:Data):SzOk t:=by
 induction t using tree_ind with
 | h1 t ht =>
  intro w a b c u left h
  obtain⟨op,n,s,ao,cap,e,_⟩:=arg_form h
  exact absurd e (ht _ _)
 | h ks lab ih =>
  intro w a b c u left h l0 l1
  obtain⟨op,n,s,ao,cap,_,he,hs,hks,hA⟩:=arg_form h
  simp only[List.cons.injEq,and_true] at he
  obtain⟨rfl,rfl,rfl,rfl⟩:=he
  have hkk:kidsOf (.slice ks lab)=ks:=rfl
  rw[hkk] at hks hA ⊢
  unfold maxLen at hs;have hsz:(s.length:Int)≤9223372036854775807:=by omega
  have hb0:∀ o,Below w.heap.size w (w.alloc o):=fun o=>(Below.refl _ w).alloc (Nat.le_refl _) o
  by_cases hl:left - (s.length:Int)<0
  ·go_enter Tryz.func34,Tryz.ntmps34
   go_wp2_with fail;go_ret
   exact⟨-1,rfl,by omega,by omega,by omega,hb0 _⟩
  ·have call:=lSzNodeS ih hks (w.alloc (.cells #[.int .i64 op,.int .i64 n,.string ⟨s.toArray⟩,.slice ao ks.length cap] 40)) ao cap (left - (s.length:Int)) (args_frame (hb0 _) hA) (by omega) (by omega);clear ih hA
   go_enter Tryz.func34,Tryz.ntmps34
   go_wp2_with (go_at_call 64;refine call.mono ?_;rintro e w2 ⟨z2,rfl,a0,a1,a2,hb2⟩)
   all_goals go_ret
   ·exact⟨-1,rfl,by omega,by omega,by omega,(hb0 _).trans (hb2.mono (hb0 _).size)⟩
   ·exact⟨z2,rfl,by omega,by omega,by omega,(hb0 _).trans (hb2.mono (hb0 _).size)⟩

end Nd
namespace Nd

def Var (w:World)(B:Nat)(a b c u:Value):Prop:=w.heap[B]?=some (.cells #[a,b,c,u] 51 (0,0))
theorem Var.lt {w:World}{B:Nat}{a b c u:Value}(h:Var w B a b c u):B<w.heap.size:=heap_lt h
theorem Var.kept {w w':World}{B:Nat}{a b c u:Value}(h:Var w B a b c u)(hw:w'.heap[B]?=w.heap[B]?):Var w' B a b c u:=hw.trans h
theorem Var.cell {w:World}{B:Nat}{a b c u:Value}(h:Var w B a b c u):w.cell? ⟨B,0,none⟩=some a∧w.cell? ⟨B,1,none⟩=some b∧w.cell? ⟨B,2,none⟩=some c∧w.cell? ⟨B,3,none⟩=some u:=by
 unfold Var at h;simp[World.cell?,h]
theorem Var.frozen {w:World}{B:Nat}{a b c u:Value}(h:Var w B a b c u)(k:Nat):w.frozen? ⟨B,k,none⟩=false:=by
 unfold Var at h;simp[World.frozen?,h]

def put4 (w:World)(g i:Nat)(a b c u:Value):World:=(((w.setCell ⟨g,i,none⟩ a).setCell ⟨g,i+1,none⟩ b).setCell ⟨g,i+2,none⟩ c).setCell ⟨g,i+3,none⟩ u
theorem put4_other (w:World)(g i k:Nat)(a b c u:Value)(h:k≠g):(put4 w g i a b c u).heap[k]?=w.heap[k]?:=by
 unfold put4
 rw[Below.heap_setCell _ _ _ _ h,Below.heap_setCell _ _ _ _ h,Below.heap_setCell _ _ _ _ h,Below.heap_setCell _ _ _ _ h]
theorem put4_size (w:World)(g i:Nat)(a b c u:Value):(put4 w g i a b c u).heap.size=w.heap.size:=by simp[put4,World.setCell]
theorem below_put4 {B:Nat}{W w:World}(h:Below B W w){g:Nat}(hg:B≤g)(i:Nat)(a b c u:Value):Below B W (put4 w g i a b c u):=by
 unfold put4;exact (((h.setCell hg _).setCell hg _).setCell hg _).setCell hg _

theorem Var.put {w:World}{B:Nat}{a b c u:Value}(h:Var w B a b c u)(a' b' c' u':Value):Var (put4 w B 0 a' b' c' u') B a' b' c' u':=by
 unfold Var at h ⊢;simp[put4,World.setCell,Array.getElem?_modify,h]

def z4:List Value:=[.int .i64 0,.int .i64 0,.string ⟨#[]⟩,.slice none 0 0]
def zeros (n:Nat):List Value:=(List.replicate n z4).flatten
theorem zeros_len (n:Nat):(zeros n).length=n*4:=by
 induction n with
 | zero=>rfl
 | succ n ih=>simp[zeros,List.replicate_succ] at ih ⊢;simp[z4];omega
theorem zeros_succ (n:Nat):zeros (n+1)=z4++zeros n:=by simp[zeros,List.replicate_succ]
theorem zeros_get:∀ (n j:Nat),j<n*4→(zeros n)[j]?=z4[j % 4]?
 | 0,j,h=>by omega
 | n+1,j,h=>by
  rw[zeros_succ]
  by_cases hj:j<4
  ·rw[List.getElem?_append_left (by simp[z4];omega),Nat.mod_eq_of_lt hj]
  ·rw[List.getElem?_append_right (by simp[z4];omega)]
   have:=zeros_get n (j - 4) (by omega)
   simp only[z4,List.length_cons,List.length_nil] at this ⊢
   rw[this]
   congr 1
   omega

theorem made_zeros (n:Nat):madeCells #[.int .i64 0,.int .i64 0,.string ⟨#[]⟩,.slice none 0 0] (n*4)=(zeros n).toArray:=by
 apply Array.ext_getElem?;intro j
 by_cases h:j<n*4
 ·have h4:j % 4<4:=Nat.mod_lt _ (by omega);have hz:(zeros n).toArray[j]?=z4[j % 4]?:=by rw[List.getElem?_toArray];exact zeros_get n j h
  rw[hz]
  simp only[madeCells,Array.getElem?_map,Array.getElem?_range,h,if_true,Option.map_some];generalize j % 4=r at h4
  match r,h4 with
  | 0,_=>rfl
  | 1,_=>rfl
  | 2,_=>rfl
  | 3,_=>rfl
 ·rw[Array.getElem?_eq_none (by simp[madeCells];omega),Array.getElem?_eq_none (by simp[zeros_len];omega)]

theorem set4 {xs ys:List Value}{k:Nat}(hx:xs.length=k*4)(a b c u:Value)(z0 z1 z2 z3:Value):
  ((((xs++[z0,z1,z2,z3]++ys).toArray.set! (k*4) a).set! (k*4+1) b).set! (k*4+2) c).set! (k*4+3) u=(xs++[a,b,c,u]++ys).toArray:=by
 rw[← hx]
 apply Array.ext';simp

theorem put4_row {w:World}{g k n:Nat}{xs:List Value}(h:w.heap[g]?=some (.cells (xs++zeros (n+1)).toArray 51 (0,0)))(hx:xs.length=k*4)(a b c u:Value):
  (put4 w g (k*4) a b c u).heap[g]?=some (.cells (xs++[a,b,c,u]++zeros n).toArray 51 (0,0)):=by
 have hs:=set4 (ys:=zeros n) hx a b c u (.int .i64 0) (.int .i64 0) (.string ⟨#[]⟩) (.slice none 0 0)
 rw[zeros_succ,← List.append_assoc] at h
 rw[← hs]
 simp[put4,World.setCell,Array.getElem?_modify,h,z4]

theorem row_at {w:World}{g k n:Nat}{xs:List Value}(h:w.heap[g]?=some (.cells (xs++zeros (n+1)).toArray 51 (0,0)))(hx:xs.length=k*4):
  w.cell? ⟨g,k*4,none⟩=some (.int .i64 0)∧w.cell? ⟨g,k*4+1,none⟩=some (.int .i64 0)∧w.cell? ⟨g,k*4+2,none⟩=some (.string ⟨#[]⟩)∧w.cell? ⟨g,k*4+3,none⟩=some (.slice none 0 0)∧∀ j,w.frozen? ⟨g,j,none⟩=false:=by
 have hc:∀ j,j<4→w.cell? ⟨g,k*4+j,none⟩=z4[j]?:=fun j hj=>by
  simp only[World.cell?,h]
  rw[List.getElem?_toArray,zeros_succ,List.getElem?_append_right (by omega),List.getElem?_append_left (by simp[z4];omega),show k*4+j - xs.length=j by omega]
  rfl
 exact⟨hc 0 (by omega),hc 1 (by omega),hc 2 (by omega),hc 3 (by omega),fun j=>by simp[World.frozen?,h]⟩

theorem Tryz.infoNoder:(Tryz.prog.info? 51).map (fun i=>(i.zero,i.size,i.bytes))=some (some (.agg #[.int .i64 0,.int .i64 0,.string ⟨#[]⟩,.slice none 0 0]),4,56):=by kernel_rfl

theorem make_nodes (n:Nat)(hn:n≤1048576)(w:World):(Instr.makeSlice 49 (.int .i64 n) (.int .i64 n)).run Tryz.prog w=.ok (.slice (some ⟨w.heap.size,0,none⟩) n n) (w.alloc (.cells (zeros n).toArray 51)):=by
 obtain⟨i0,hi0,hz0,hz1,hz2⟩:=info_parts Tryz.infoNoder
 have:=run_make (P:=Tryz.prog) w 49 51 i0 _ Tryz.underlying49 hi0 hz0 .i64 .i64 n n (by omega) (Int.le_refl _) (by rw[hz2];omega) (by omega)
 rw[this,hz1]
 simp only[Int.toNat_natCast]
 rw[← made_zeros]
 rfl

def ToOk (t:Data):Prop:=∀ (w:World) (a b c u:Value),ArgIs w t [a,b,c,u]→cnts (kidsOf t)≤1048576 →
 Calls Tryz.prog 48 #[.agg #[a,b,c,u]] w fun e w'=>∃ v,e=.returned (.agg #[a,b,c,v])∧NodeIs w' t (Iv w.heap.size w'.heap.size) [a,b,c,v]∧Below w.heap.size w w'

set_option maxRecDepth 100000 in
theorem lToNodeS {ks:List Data}(hk:∀ t∈ks,ToOk t)(hn:cnts ks≤1048576)(w:World)(ao:Option Addr)(cap:Nat)(hA:ArgsIs w ks ao 0):
  Calls Tryz.prog 79 #[.slice ao ks.length cap] w fun e w'=>∃ v xs,e=.returned v∧w'.ownsRow w.heap.size 51 4 v ks.length xs∧NodesIs w' ks (fun k=>Iv w.heap.size w'.heap.size k∧v.ownBlock≠some k) xs∧Below w.heap.size w w':=by
 have hlen:=cnts_len ks;have hmk:=make_nodes ks.length (by omega);have bn:(ks.length:Int)≤1048576:=by omega
 go_enter Tryz.func79,Tryz.ntmps79
 go_wp2_with fail
 go_loopw [4] (fun i wr=>∃ (k:Nat) (xs:List Value),i=.int .i64 k∧k≤ks.length∧wr.heap[w.heap.size]?=some (.cells (xs++zeros (ks.length - k)).toArray 51 (0,0))∧NodesIs wr (ks.take k) (Iv (w.heap.size+1) wr.heap.size) xs∧Below w.heap.size w wr) (fun i _=>ks.length - (intOf i).toNat)
 case atStart=>exact⟨0,[],rfl,Nat.zero_le _,heap_new _ _,by simp[NodesIs],(Below.refl _ w).alloc (Nat.le_refl _) _⟩
 case round =>
  obtain⟨k,xs,rfl,hkn,hP,hN,hb⟩:=hrel
  have hql:=heap_lt hP
  by_cases hkl:k<ks.length
  ·have hki:ks[k]?=some ks[k]:=List.getElem?_eq_getElem hkl
   obtain⟨b,o,x0,x1,x2,x3,rfl,hbl,c0,c1,c2,c3,ht⟩:=args_at (args_frame hb hA) hki
   simp only[Nat.zero_add] at c0 c1 c2 c3;have call:=hk ks[k] (List.getElem_mem hkl) wr x0 x1 x2 x3 ht (by have:=cnts_mem (List.getElem_mem hkl);have:=cnt_kids ks[k];omega);have hxl:=nodes_len hN
   rw[List.length_take,Nat.min_eq_left (by omega)] at hxl
   have hTK:ks.take (k+1)=ks.take k++[ks[k]]:=by rw[List.take_add_one,hki];rfl
   obtain⟨m,hm⟩:∃ m,ks.length - k=m+1:=⟨ks.length - k - 1,by omega⟩
   have hm2:ks.length - (k+1)=m:=by omega
   rw[hm] at hP
   obtain⟨op,n,s,ao',cap',-,hcs,-⟩:=arg_form ht
   simp only[List.cons.injEq,and_true] at hcs
   obtain⟨rfl,rfl,rfl,rfl⟩:=hcs
   clear ht hk;have bk:(k:Int)<ks.length:=by omega
   clear hn hlen hmk
   go_wp2_with (go_at_call 48;refine call.mono ?_;rintro e w2 ⟨v,rfl,hN2,hb2⟩;have hP2:=(hb2.block _ hql).trans hP;obtain⟨_,_,_,ao2,cap2,_,-,-,-,-,hv,-⟩:=node_form hN2;subst hv;obtain⟨p0,p1,p2,p3,fz⟩:=row_at hP2 hxl)
   have hb3:Below w.heap.size w w2:=hb.trans (hb2.mono hb.size);go_roundw
   case rel =>
    refine⟨k+1,xs++[.int .i64 op,.int .i64 n,.string ⟨s.toArray⟩,.slice ao2 (kidsOf ks[k]).length cap2],by go_num,hkl,?_,?_,below_put4 hb3 (Nat.le_refl _) _ _ _ _ _⟩
    ·rw[hm2]
     exact put4_row hP2 hxl _ _ _ _
    ·rw[hTK]
     have hsz:=put4_size w2 w.heap.size (k*4) (.int .i64 op) (.int .i64 n) (.string ⟨s.toArray⟩) (.slice ao2 (kidsOf ks[k]).length cap2);have hz2:=hb2.size;refine nodes_frame (w:=w2) (fun j hj=>put4_other _ _ _ _ _ _ _ _ (by have:=hj.1;omega)) ?_;show NodesIs w2 _ (Iv (w.heap.size+1) (put4 w2 w.heap.size (k*4) (.int .i64 op) (.int .i64 n) (.string ⟨s.toArray⟩) (.slice ao2 (kidsOf ks[k]).length cap2)).heap.size) _
     rw[hsz]
     refine nodes_snoc (S1:=Iv (w.heap.size+1) wr.heap.size) (S2:=Iv wr.heap.size w2.heap.size) (nodes_frame (fun j hj=>hb2.block j hj.2) hN) hN2 (fun j hj=>⟨⟨hj.1,by have:=hj.2;omega⟩,fun h=>?_⟩) (fun j hj=>⟨by have:=hj.1;omega,hj.2⟩)
     have:=hj.2
     have:=h.1
     omega
   case measure=>simp[intOf];omega
  ·obtain rfl:k=ks.length:=by omega
   go_wp2_with fail;go_ret
   rw[Nat.sub_self] at hP
   rw[List.take_length] at hN
   simp only[zeros,List.replicate_zero,List.flatten_nil,List.append_nil] at hP
   refine⟨_,xs,rfl,⟨nodes_len hN,.inr ⟨w.heap.size,ks.length,_,rfl,Nat.le_refl _,hP,Nat.le_refl _,by unfold maxLen;omega,by simp[nodes_len hN],by rw[← nodes_len hN];simp⟩⟩,nodes_mono hN fun j hj=>⟨⟨by have:=hj.1;omega,hj.2⟩,fun e=>?_⟩,hb⟩
   simp[Value.ownBlock] at e
   have:=hj.1
   omega

theorem ret_four {fn:Func}{K:Nat}{R:Ending→World→Prop}{a:Act}{W:World}{B:Nat}{v0 v1 v2 v3:Value}(hf:fn.results=#[.cell K 51])(ht:a.tmps[K]?=some (.pointer (some ⟨B,0,none⟩)))(hd:a.defers=[])
  (hV:W.heap[B]?=some (.cells #[v0,v1,v2,v3] 51 (0,0))) (hR:R (.returned (.agg #[v0,v1,v2,v3])) W):bodyPost Tryz.prog fn R .ret a W:=by
 have x0:=cell_of_row W B 0 _ _ _ hV;have x1:=cell_of_row W B 1 _ _ _ hV;have x2:=cell_of_row W B 2 _ _ _ hV;have x3:=cell_of_row W B 3 _ _ _ hV;simp at x0 x1 x2 x3;refine bodyPost_ret ?_ hd hR;simp[results,hf,ht,go_sem,x0,x1,x2,x3]

set_option maxRecDepth 100000 in
theorem lToNode (t:Data):ToOk t:=by
 induction t using tree_ind with
 | h1 t ht =>
  intro w a b c u h
  obtain⟨op,n,s,ao,cap,e,_⟩:=arg_form h
  exact absurd e (ht _ _)
 | h ks lab ih =>
  intro w a b c u h hn
  obtain⟨op,n,s,ao,cap,hnd,he,-,-,hA⟩:=arg_form h
  simp only[List.cons.injEq,and_true] at he
  obtain⟨rfl,rfl,rfl,rfl⟩:=he
  have hkk:kidsOf (.slice ks lab)=ks:=rfl
  rw[hkk] at hn hA hnd ⊢
  have H:Hid _:=hnd;clear hnd hkk h
  obtain⟨o1,ho1⟩:∃ o1,o1=Obj.cells #[.int .i64 op,.int .i64 n,.string ⟨s.toArray⟩,.slice ao ks.length cap] 40:=⟨_,rfl⟩
  obtain⟨o2,ho2⟩:∃ o2,o2=Obj.cells #[.int .i64 0,.int .i64 0,.string ⟨#[]⟩,.slice none 0 0] 51:=⟨_,rfl⟩
  obtain⟨o3,ho3⟩:∃ o3,o3=Obj.cells #[.int .i64 op,.int .i64 n,.string ⟨s.toArray⟩,.slice none 0 0] 51:=⟨_,rfl⟩
  have hb3:Below w.heap.size w (((w.alloc o1).alloc o2).alloc o3):=(((Below.refl _ w).alloc (Nat.le_refl _) _).alloc (by simp) _).alloc (by simp;omega) _;have v2:Var (((w.alloc o1).alloc o2).alloc o3) (w.heap.size+1) (.int .i64 0) (.int .i64 0) (.string ⟨#[]⟩) (.slice none 0 0):=by
   have:=heap_new (w.alloc o1) o2
   rw[World.size_alloc] at this
   unfold Var
   rw[Below.heap_alloc _ _ _ (by simp),this,ho2]
  have v3:Var (((w.alloc o1).alloc o2).alloc o3) (w.heap.size+1+1) (.int .i64 op) (.int .i64 n) (.string ⟨s.toArray⟩) (.slice none 0 0):=by
   have:=heap_new ((w.alloc o1).alloc o2) o3
   rw[World.size_alloc,World.size_alloc] at this
   unfold Var
   rw[this,ho3]
  have call:=lToNodeS ih hn (((w.alloc o1).alloc o2).alloc o3) ao cap (args_frame hb3 hA);have hsz3:(((w.alloc o1).alloc o2).alloc o3).heap.size=w.heap.size+3:=by simp
  generalize hW3:(((w.alloc o1).alloc o2).alloc o3)=W3 at *;subst ho1 ho2 ho3;have HW3:=(show Hid _ from hW3);clear ih hA hn hW3
  go_enter Tryz.func48,Tryz.ntmps48
  go_wp2_with (go_at_call 79;rw[HW3.out];refine call.mono ?_;rintro e w2 ⟨v,xs,rfl,ho,hN,hb2⟩;have v2':=v2.kept (hb2.block _ v2.lt);have v3':=v3.kept (hb2.block _ v3.lt);obtain⟨ao2,cap2,rfl⟩:=owns_slice ho;obtain⟨p0,p1,p2,p3⟩:=v2'.cell;obtain⟨q0,q1,q2,q3⟩:=v3'.cell;have f2:=v2'.frozen;have f3:=v3'.frozen)
  have hz2:=hb2.size;have hoth:∀ k,w.heap.size+3≤k→(put4 (w2.setCell ⟨w.heap.size+1+1,3,none⟩ (.slice ao2 ks.length cap2)) (w.heap.size+1) 0 (.int .i64 op) (.int .i64 n) (.string ⟨s.toArray⟩) (.slice ao2 ks.length cap2)).heap[k]?=w2.heap[k]?:=fun k hk=>by
   rw[put4_other _ _ _ _ _ _ _ _ (by omega),Below.heap_setCell _ _ _ _ (by show k≠w.heap.size+1+1;omega)]
  have hsz:(put4 (w2.setCell ⟨w.heap.size+1+1,3,none⟩ (.slice ao2 ks.length cap2)) (w.heap.size+1) 0 (.int .i64 op) (.int .i64 n) (.string ⟨s.toArray⟩) (.slice ao2 ks.length cap2)).heap.size=w2.heap.size:=by
   rw[put4_size];simp[World.setCell]
  refine ret_four (W:=put4 (w2.setCell ⟨w.heap.size+1+1,3,none⟩ (.slice ao2 ks.length cap2)) (w.heap.size+1) 0 (.int .i64 op) (.int .i64 n) (.string ⟨s.toArray⟩) (.slice ao2 ks.length cap2)) Tryz.results48 rfl rfl (Var.put (v2'.kept (Below.heap_setCell _ _ _ _ (by simp))) _ _ _ _) ⟨_,rfl,?_,?_⟩
  ·rw[H.out,node_nd]
   refine⟨_,xs,rfl,owns_base (owns_same ho fun g hg=>hoth g (by have:=(ho.lt g hg).1;omega)) (Nat.zero_le _),fun g hg=>⟨by have:=(ho.lt g hg).1;omega,by rw[hsz];exact (ho.lt g hg).2⟩,?_⟩
   refine nodes_mono (nodes_frame (fun k hk=>hoth k (by have:=hk.1.1;omega)) hN) fun k hk=>⟨⟨?_,?_⟩,hk.2⟩
   ·have:=hk.1.1;omega
   ·rw[hsz];exact hk.1.2
  ·refine below_put4 ((hb3.trans (hb2.mono (by omega))).setCell (by simp;omega) _) (by omega) _ _ _ _ _

end Nd
end Go.Proofs.YtllbachngocmnaaGreatDoor
namespace Go.Proofs
open Go.RowKit Go.Maps Go.Sort Go.Shelf
def Tryz.keys99_ren:Go.Shelf.Ren:=⟨fun|7=>99|10=>138|n=>n,fun|23=>114|26=>9|3=>139|28=>137|0=>0|27=>136|33=>76|4=>4|n=>n,fun|n=>n⟩
theorem Tryz.keys99:Go.Proofs.SlLaysZ.n7 Tryz.prog Tryz.keys99_ren:={
  mixed:=by kernel_rfl
  f7:=⟨Tryz.f99.name,by decide,Tryz.func99.trans (congrArg some (by kernel_rfl))⟩
  f10:=⟨Tryz.f138.name,by decide,Tryz.func138.trans (congrArg some (by kernel_rfl))⟩
  t0:=Tryz.underlying0
  a0:=Tryz.isAgg0
  z0:=Tryz.sizeOf0
  v0:=Tryz.zeroValue0
  t4:=Tryz.underlying4
  a4:=Tryz.isAgg4
  z4:=Tryz.sizeOf4
  v4:=Tryz.zeroValue4
  t23:=Tryz.underlying114
  a23:=Tryz.isAgg114
  z23:=Tryz.sizeOf114
  v23:=Tryz.zeroValue114
  t26:=Tryz.underlying9
  a26:=Tryz.isAgg9
  z26:=Tryz.sizeOf9
  v26:=Tryz.zeroValue9
  t27:=Tryz.underlying136
  a27:=Tryz.isAgg136
  z27:=Tryz.sizeOf136
  v27:=Tryz.zeroValue136
  t28:=Tryz.underlying137
  a28:=Tryz.isAgg137
  z28:=Tryz.sizeOf137
  v28:=Tryz.zeroValue137
  t33:=Tryz.underlying76
  a33:=Tryz.isAgg76
  z33:=Tryz.sizeOf76
  v33:=Tryz.zeroValue76 }
def Tryz.sorted98_ren:Go.Shelf.Ren:=⟨fun|6=>98|8=>136|9=>137|11=>168|13=>170|12=>169|23=>192|24=>193|14=>183|15=>184|16=>185|17=>186|18=>187|19=>188|20=>189|21=>190|22=>191|25=>212|26=>213|27=>214|28=>215|29=>216|30=>217|31=>225|n=>n,fun|26=>9|28=>137|24=>24|0=>0|3=>3|37=>222|48=>244|50=>246|4=>4|40=>237|39=>236|45=>206|5=>5|9=>9|51=>255|55=>259|57=>266|58=>267|33=>76|n=>n,fun|n=>n⟩
theorem Tryz.sorted98:Go.Proofs.SlLaysZ.n6 Tryz.prog Tryz.sorted98_ren:={
  mixed:=by kernel_rfl
  f6:=⟨Tryz.f98.name,by decide,Tryz.func98.trans (congrArg some (by kernel_rfl))⟩
  f8:=⟨Tryz.f136.name,by decide,Tryz.func136.trans (congrArg some (by kernel_rfl))⟩
  f11:=⟨Tryz.f168.name,by decide,Tryz.func168.trans (congrArg some (by kernel_rfl))⟩
  t0:=Tryz.underlying0
  a0:=Tryz.isAgg0
  z0:=Tryz.sizeOf0
  v0:=Tryz.zeroValue0
  t24:=Tryz.underlying24
  a24:=Tryz.isAgg24
  z24:=Tryz.sizeOf24
  v24:=Tryz.zeroValue24
  t26:=Tryz.underlying9
  a26:=Tryz.isAgg9
  z26:=Tryz.sizeOf9
  v26:=Tryz.zeroValue9
  t28:=Tryz.underlying137
  a28:=Tryz.isAgg137
  z28:=Tryz.sizeOf137
  v28:=Tryz.zeroValue137
  i26:=by kernel_rfl }
def Tryz.sort137_ren:Go.Shelf.Ren:=⟨fun|6=>137|8=>170|9=>169|19=>192|20=>193|21=>183|22=>184|23=>185|24=>186|25=>187|26=>188|27=>189|28=>190|29=>191|36=>212|31=>213|32=>214|37=>215|38=>216|39=>217|41=>225|n=>n,fun|27=>24|29=>9|3=>3|32=>222|26=>24|0=>0|44=>244|46=>246|4=>4|36=>237|35=>236|41=>206|5=>5|9=>9|53=>255|57=>259|63=>266|64=>267|n=>n,fun|n=>n⟩
theorem Tryz.sort137:Go.Proofs.SlLaysM.n6 Tryz.prog Tryz.sort137_ren:={
  mixed:=by kernel_rfl
  f6:=⟨Tryz.f137.name,by decide,Tryz.func137.trans (congrArg some (by kernel_rfl))⟩
  f8:=Tryz.func170.trans (congrArg some (by kernel_rfl))
  f9:=⟨Tryz.f169.name,by decide,Tryz.func169.trans (congrArg some (by kernel_rfl))⟩
  f19:=Tryz.func192.trans (congrArg some (by kernel_rfl))
  f20:=Tryz.func193.trans (congrArg some (by kernel_rfl))
  f21:=⟨Tryz.f183.name,by decide,Tryz.func183.trans (congrArg some (by kernel_rfl))⟩
  f22:=⟨Tryz.f184.name,by decide,Tryz.func184.trans (congrArg some (by kernel_rfl))⟩
  f23:=⟨Tryz.f185.name,by decide,Tryz.func185.trans (congrArg some (by kernel_rfl))⟩
  f24:=⟨Tryz.f186.name,by decide,Tryz.func186.trans (congrArg some (by kernel_rfl))⟩
  f25:=⟨Tryz.f187.name,by decide,Tryz.func187.trans (congrArg some (by kernel_rfl))⟩
  f26:=⟨Tryz.f188.name,by decide,Tryz.func188.trans (congrArg some (by kernel_rfl))⟩
  f27:=⟨Tryz.f189.name,by decide,Tryz.func189.trans (congrArg some (by kernel_rfl))⟩
  f28:=⟨Tryz.f190.name,by decide,Tryz.func190.trans (congrArg some (by kernel_rfl))⟩
  f29:=⟨Tryz.f191.name,by decide,Tryz.func191.trans (congrArg some (by kernel_rfl))⟩
  f31:=Tryz.func213.trans (congrArg some (by kernel_rfl))
  f32:=Tryz.func214.trans (congrArg some (by kernel_rfl))
  f36:=⟨Tryz.f212.name,by decide,Tryz.func212.trans (congrArg some (by kernel_rfl))⟩
  f37:=⟨Tryz.f215.name,by decide,Tryz.func215.trans (congrArg some (by kernel_rfl))⟩
  f38:=⟨Tryz.f216.name,by decide,Tryz.func216.trans (congrArg some (by kernel_rfl))⟩
  f39:=⟨Tryz.f217.name,by decide,Tryz.func217.trans (congrArg some (by kernel_rfl))⟩
  f41:=⟨Tryz.f225.name,by decide,Tryz.func225.trans (congrArg some (by kernel_rfl))⟩
  t0:=Tryz.underlying0
  a0:=Tryz.isAgg0
  z0:=Tryz.sizeOf0
  v0:=Tryz.zeroValue0
  t3:=Tryz.underlying3
  a3:=Tryz.isAgg3
  z3:=Tryz.sizeOf3
  v3:=Tryz.zeroValue3
  t4:=Tryz.underlying4
  a4:=Tryz.isAgg4
  z4:=Tryz.sizeOf4
  v4:=Tryz.zeroValue4
  t5:=Tryz.underlying5
  a5:=Tryz.isAgg5
  z5:=Tryz.sizeOf5
  v5:=Tryz.zeroValue5
  t9:=Tryz.underlying9
  a9:=Tryz.isAgg9
  z9:=Tryz.sizeOf9
  v9:=Tryz.zeroValue9
  t26:=Tryz.underlying24
  a26:=Tryz.isAgg24
  z26:=Tryz.sizeOf24
  v26:=Tryz.zeroValue24
  t27:=Tryz.underlying24
  a27:=Tryz.isAgg24
  z27:=Tryz.sizeOf24
  v27:=Tryz.zeroValue24
  t29:=Tryz.underlying9
  a29:=Tryz.isAgg9
  z29:=Tryz.sizeOf9
  v29:=Tryz.zeroValue9
  t32:=Tryz.underlying222
  a32:=Tryz.isAgg222
  z32:=Tryz.sizeOf222
  v32:=Tryz.zeroValue222
  t35:=Tryz.underlying236
  a35:=Tryz.isAgg236
  z35:=Tryz.sizeOf236
  v35:=Tryz.zeroValue236
  t36:=Tryz.underlying237
  a36:=Tryz.isAgg237
  z36:=Tryz.sizeOf237
  v36:=Tryz.zeroValue237
  t41:=Tryz.underlying206
  a41:=Tryz.isAgg206
  z41:=Tryz.sizeOf206
  v41:=Tryz.zeroValue206
  t44:=Tryz.underlying244
  a44:=Tryz.isAgg244
  z44:=Tryz.sizeOf244
  v44:=Tryz.zeroValue244
  t46:=Tryz.underlying246
  a46:=Tryz.isAgg246
  z46:=Tryz.sizeOf246
  v46:=Tryz.zeroValue246
  t53:=Tryz.underlying255
  a53:=Tryz.isAgg255
  z53:=Tryz.sizeOf255
  v53:=Tryz.zeroValue255
  t57:=Tryz.underlying259
  a57:=Tryz.isAgg259
  z57:=Tryz.sizeOf259
  v57:=Tryz.zeroValue259
  t63:=Tryz.underlying266
  a63:=Tryz.isAgg266
  z63:=Tryz.sizeOf266
  v63:=Tryz.zeroValue266
  t64:=Tryz.underlying267
  a64:=Tryz.isAgg267
  z64:=Tryz.sizeOf267
  v64:=Tryz.zeroValue267 }
theorem Tryz.sorts98 (m:Nat):AnyZ.SortsIn Tryz.prog Tryz.sorted98_ren Fence.wide m :=
  ⟨fun blk off cap ss W hH hblk hsz=>callsIn_wide.2 (AnyM.slices_Sort_string Tryz.sort137 blk off cap ss W hH hblk hsz),
   fun p cap W=>callsIn_wide.2 (AnyM.slices_Sort_string_none Tryz.sort137 p cap W)⟩

theorem Tryz.maps_Keys_99 (mb:Option Nat)(W:World):CallsIn Fence.wide 5 Tryz.prog 99 #[.map mb] W fun e w'=>e=.returned (.func (.func 138) #[] #[.pointer (some ⟨W.heap.size,0,none⟩)])∧w'=W.alloc (.cells #[.map mb] 114) :=
  AnyZ.keys_in Tryz.keys99 Fence.wide 5 trivial rfl mb W

set_option maxHeartbeats 1000000 in
theorem Tryz.slices_Sorted_keys_98_99 {H:Type}(b nn:Nat)(D0:DataW H)(R:Value→Option (DataW H × List MemPlace))(w:World)(hown:w.ownsMap Tryz.prog 9 R b nn D0)(hmax:Maps.size D0≤maxLen)(hbytes:Maps.size D0*16≤140737488355328):
    CallsIn Fence.wide 5 Tryz.prog 98 #[.func (.func 138) #[] #[.pointer (some ⟨w.heap.size,0,none⟩)]] (w.alloc (.cells #[.map (some b)] 114)) fun e w'=>∃ (v:Value) (ss:List (List UInt8)),e=.returned v∧ss.Perm (strKeys D0) ∧
      w'.ownsRow (w.alloc (.cells #[.map (some b)] 114)).heap.size 9 1 v ss.length ((ss.mergeSort (fun x y=>decide (x≤y))).map encStr)∧(v=.slice none 0 0↔ss=[])∧Below (w.alloc (.cells #[.map (some b)] 114)).heap.size (w.alloc (.cells #[.map (some b)] 114)) w':=by
  have hbl:=hown.lt;have hseq:SeqGives Fence.wide 2 Tryz.prog 138 #[.pointer (some ⟨w.heap.size,0,none⟩)] encStr (fun ss=>ss.Perm (strKeys D0)) (Maps.size D0) (w.alloc (.cells #[.map (some b)] 114)) :=
    AnyZ.keys_gives (ρ:=Tryz.keys99_ren) { Tryz.keys99 with } Fence.wide _ trivial rfl (by omega) w.heap.size b nn D0 _ (by simp) (by simp) (by
      obtain⟨es,clock,hb,Ft,hs,hD⟩:=hown
      exact⟨es,clock,(Below.heap_alloc _ _ b hbl).trans hb,Ft,hs,hD⟩)
  exact AnyZ.sorted_in Tryz.sorted98 Fence.wide 5 trivial trivial trivial trivial rfl (by omega) (Tryz.sorts98 _) (enters_of Tryz.func137 (by kernel_rfl) rfl) 138 #[.pointer (some ⟨w.heap.size,0,none⟩)] trivial (enters_of Tryz.func138 (by kernel_rfl) rfl) _ _ hmax hbytes _ hseq

end Go.Proofs
