/-
  Rules of an argument, and how big they are.
-/
import Derived.Test.YtllbachngocmnaaGreatDoorP16
namespace Go.Proofs.YtllbachngocmnaaGreatDoor
open Go.RowKit
namespace Ty
open Nd

def SzR (t:Data):Prop:=∀ (w:World) (a b c u:Value) (left:Int),ArgIs w t [a,b,c,u]→0≤left→left≤1048576 →
 Calls Tryz.prog 34 #[.agg #[a,b,c,u],.int .i64 left] w fun e w'=>∃ z,e=.returned (.int .i64 z) ∧ -1≤z∧z≤left∧(0≤z→(siz t:Int)≤left - z)∧Below w.heap.size w w'

set_option maxRecDepth 100000 in
theorem lSzNodeS {ks:List Data}(hk:∀ t∈ks,SzR t)(hn:ks.length≤maxLen)(w:World)(ao:Option Addr)(cap:Nat)(left:Int)(hA:ArgsIs w ks ao 0)(l0:0≤left)(l1:left≤1048576):
  Calls Tryz.prog 64 #[.slice ao ks.length cap,.int .i64 left] w fun e w'=>∃ z,e=.returned (.int .i64 z) ∧ -1≤z∧z≤left∧(0≤z→(sizs ks:Int)≤left - z)∧Below w.heap.size w w':=by
 unfold maxLen at hn;have bn:(ks.length:Int)≤9223372036854775807:=by omega
 by_cases hl:left - ks.length<0
 ·go_enter Tryz.func64,Tryz.ntmps64
  go_wp2_with fail;go_ret
  exact⟨-1,rfl,by omega,by omega,by omega,Below.refl _ _⟩
 ·have bn2:(ks.length:Int)≤1048576:=by omega
  go_enter Tryz.func64,Tryz.ntmps64
  go_wp2_with fail
  go_loopw [1,5] (fun l i wr=>∃ (z:Int) (k:Nat),l=.int .i64 z∧0≤z∧z≤left∧i=.int .i64 k∧k≤ks.length∧(sizs (ks.take k):Int)+(ks.length - k)≤left - z∧Below w.heap.size w wr) (fun _ i _=>ks.length - (intOf i).toNat)
  case atStart=>exact⟨left - ks.length,0,rfl,by omega,by omega,rfl,Nat.zero_le _,by simp[sizs];omega,Below.refl _ _⟩
  case round =>
   obtain⟨z,k,rfl,z0,z1,rfl,hkl0,hcz,hb⟩:=hrel
   by_cases hkl:k<ks.length
   ·have hki:ks[k]?=some ks[k]:=List.getElem?_eq_getElem hkl
    obtain⟨b,o,x0,x1,x2,x3,rfl,hbl,c0,c1,c2,c3,ht⟩:=args_at (args_frame hb hA) hki
    simp only[Nat.zero_add] at c0 c1 c2 c3;have call:=hk ks[k] (List.getElem_mem hkl) wr x0 x1 x2 x3 z ht z0 (by omega)
    obtain⟨ao',cap',rfl,rfl,rfl,rfl,-,-⟩:=arg_open ht
    have HT:Hid (sizs (ks.take (k+1))=sizs (ks.take k)+(siz ks[k]+1)):=sizs_take ks k ks[k] hki;clear hki hk ht;generalize siz ks[k]=C at *;generalize hM:sizs (ks.take k)=M at *;generalize hM2:sizs (ks.take (k+1))=M2 at *;generalize (kidsOf ks[k]).length=L at *;generalize opOf ks[k]=op' at *;generalize numOf ks[k]=n' at *;generalize txtOf ks[k]=s' at *;clear hM;have hbI:(k:Int)<ks.length:=by omega
    go_wp2_with (go_at_call 34;refine call.mono ?_;rintro e w2 ⟨z2,rfl,a0,a1,a2,hb2⟩)
    ·go_ret
     exact⟨-1,rfl,by omega,by omega,by omega,hb.trans (hb2.mono hb.size)⟩
    ·go_roundw
     case rel =>
      have h1:=HT.out
      exact⟨z2,k+1,rfl,by omega,by omega,by go_num,hkl,by rw[hM2];omega,hb.trans (hb2.mono hb.size)⟩
     case measure=>simp[intOf];omega
   ·obtain rfl:k=ks.length:=by omega
    rw[List.take_length] at hcz
    go_wp2_with fail;go_ret
    exact⟨z,rfl,by omega,by omega,by omega,hb⟩

set_option maxRecDepth 100000 in
theorem lSzNode (t:Data):SzR t:=by
 induction t using tree_ind with
 | h1 t ht =>
  intro w a b c u left h
  obtain⟨op,n,s,ao,cap,e,_⟩:=arg_form h
  exact absurd e (ht _ _)
 | h ks lab ih =>
  intro w a b c u left h l0 l1
  obtain⟨op,n,s,ao,cap,hnd,he,hs,hks,hA⟩:=arg_form h
  simp only[List.cons.injEq,and_true] at he
  obtain⟨rfl,rfl,rfl,rfl⟩:=he
  have hkk:kidsOf (.slice ks lab)=ks:=rfl
  rw[hkk] at hks hA hnd ⊢
  have HS:Hid (siz (.slice ks lab)=s.length+sizs ks):=by show _=_;rw[hnd,siz_nd]
  clear hnd;generalize siz (.slice ks lab)=SZ at *;unfold maxLen at hs;have hsz:(s.length:Int)≤9223372036854775807:=by omega
  have hb0:∀ o,Below w.heap.size w (w.alloc o):=fun o=>(Below.refl _ w).alloc (Nat.le_refl _) o
  by_cases hl:left - (s.length:Int)<0
  ·go_enter Tryz.func34,Tryz.ntmps34
   go_wp2_with fail;go_ret
   exact⟨-1,rfl,by omega,by omega,by omega,hb0 _⟩
  ·have call:=lSzNodeS ih hks (w.alloc (.cells #[.int .i64 op,.int .i64 n,.string ⟨s.toArray⟩,.slice ao ks.length cap] 40)) ao cap (left - (s.length:Int)) (args_frame (hb0 _) hA) (by omega) (by omega);clear ih hA
   go_enter Tryz.func34,Tryz.ntmps34
   go_wp2_with (go_at_call 64;refine call.mono ?_;rintro e w2 ⟨z2,rfl,a0,a1,a2,hb2⟩)
   all_goals go_ret
   ·exact⟨-1,rfl,by omega,by omega,by omega,(hb0 _).trans (hb2.mono (hb0 _).size)⟩
   ·exact⟨z2,rfl,by omega,by omega,by have:=HS.out;omega,(hb0 _).trans (hb2.mono (hb0 _).size)⟩

def RArgs (w:World):List Ru→Option Addr→Nat→Prop
 | [],_,_=>True
 | r::rs,ao,i=>(∃ (b o:Nat) (p0 p1 p2 p3 b0 b1 b2 b3:Value),ao=some ⟨b,o,none⟩∧b<w.heap.size∧w.cell? ⟨b,o+i*9,none⟩=some (.int .i64 r.1)∧w.cell? ⟨b,o+i*9+1,none⟩=some p0∧w.cell? ⟨b,o+i*9+1+1,none⟩=some p1∧w.cell? ⟨b,o+i*9+1+2,none⟩=some p2∧w.cell? ⟨b,o+i*9+1+3,none⟩=some p3 ∧
   w.cell? ⟨b,o+i*9+5,none⟩=some b0∧w.cell? ⟨b,o+i*9+5+1,none⟩=some b1∧w.cell? ⟨b,o+i*9+5+2,none⟩=some b2∧w.cell? ⟨b,o+i*9+5+3,none⟩=some b3∧ArgIs w r.2.1 [p0,p1,p2,p3]∧ArgIs w r.2.2 [b0,b1,b2,b3])∧RArgs w rs ao (i+1)

theorem rargs_at {w:World}:∀ {rs:List Ru} {ao:Option Addr} {i j:Nat} {r:Ru},RArgs w rs ao i→rs[j]?=some r→∃ (b o:Nat) (p0 p1 p2 p3 b0 b1 b2 b3:Value),ao=some ⟨b,o,none⟩∧b<w.heap.size∧w.cell? ⟨b,o+(i+j)*9,none⟩=some (.int .i64 r.1)∧w.cell? ⟨b,o+(i+j)*9+1,none⟩=some p0∧w.cell? ⟨b,o+(i+j)*9+1+1,none⟩=some p1∧w.cell? ⟨b,o+(i+j)*9+1+2,none⟩=some p2∧w.cell? ⟨b,o+(i+j)*9+1+3,none⟩=some p3 ∧
   w.cell? ⟨b,o+(i+j)*9+5,none⟩=some b0∧w.cell? ⟨b,o+(i+j)*9+5+1,none⟩=some b1∧w.cell? ⟨b,o+(i+j)*9+5+2,none⟩=some b2∧w.cell? ⟨b,o+(i+j)*9+5+3,none⟩=some b3∧ArgIs w r.2.1 [p0,p1,p2,p3]∧ArgIs w r.2.2 [b0,b1,b2,b3]
 | [],ao,i,j,r,h,hj=>by simp at hj
 | r'::rs,ao,i,0,r,h,hj=>by
  simp at hj;subst hj;exact h.1
 | r'::rs,ao,i,j+1,r,h,hj=>by
  have:=rargs_at h.2 (by simpa using hj:rs[j]?=some r)
  rw[show i+1+j=i+(j+1) by omega] at this
  exact this

theorem rargs_frame {w w':World}(hb:Below w.heap.size w w'):∀ {rs:List Ru} {ao:Option Addr} {i:Nat},RArgs w rs ao i→RArgs w' rs ao i
 | [],ao,i,_=>trivial
 | r::rs,ao,i,h=>by
  obtain⟨⟨b,o,p0,p1,p2,p3,b0,b1,b2,b3,e,hl,c0,c1,c2,c3,c4,c5,c6,c7,c8,hp,hbd⟩,h2⟩:=h
  have hc:∀ k,w'.cell? ⟨b,k,none⟩=w.cell? ⟨b,k,none⟩:=fun k=>hb.cell (p:=⟨b,k,none⟩) hl
  exact⟨⟨b,o,p0,p1,p2,p3,b0,b1,b2,b3,e,Nat.lt_of_lt_of_le hl hb.size,(hc _).trans c0,(hc _).trans c1,(hc _).trans c2,(hc _).trans c3,(hc _).trans c4,(hc _).trans c5,(hc _).trans c6,(hc _).trans c7,(hc _).trans c8,arg_frame hb _ _ hp,arg_frame hb _ _ hbd⟩,rargs_frame hb h2⟩

theorem lSzRule {r:Ru}{w:World}{p0 p1 p2 p3 b0 b1 b2 b3:Value}(hp:ArgIs w r.2.1 [p0,p1,p2,p3])(hb:ArgIs w r.2.2 [b0,b1,b2,b3])(left:Int)(l0:0≤left)(l1:left≤1048576):
  Calls Tryz.prog 13 #[.agg #[.int .i64 r.1,p0,p1,p2,p3,b0,b1,b2,b3],.int .i64 left] w fun e w'=>∃ z,e=.returned (.int .i64 z) ∧ -1≤z∧z≤left∧(0≤z→(siz r.2.1:Int)+siz r.2.2≤left - z)∧Below w.heap.size w w':=by
 have hb0:∀ o,Below w.heap.size w (w.alloc o):=fun o=>(Below.refl _ w).alloc (Nat.le_refl _) o;have c1:=fun o=>lSzNode r.2.1 (w.alloc o) p0 p1 p2 p3 left (arg_frame (hb0 o) _ _ hp) l0 l1;have c2:=fun w' z (h:Below w.heap.size w w') (z0:0≤z) (z1:z≤1048576)=>lSzNode r.2.2 w' b0 b1 b2 b3 z (arg_frame h _ _ hb) z0 z1
 obtain⟨pao,pcap,rfl,rfl,rfl,rfl,-,-⟩:=arg_open hp
 obtain⟨bao,bcap,rfl,rfl,rfl,rfl,-,-⟩:=arg_open hb
 have hcell:∀ o w',o=Obj.cells #[.int .i64 r.1,.int .i64 (opOf r.2.1),.int .i64 (numOf r.2.1),.string ⟨(txtOf r.2.1).toArray⟩,.slice pao (kidsOf r.2.1).length pcap,.int .i64 (opOf r.2.2),.int .i64 (numOf r.2.2),.string ⟨(txtOf r.2.2).toArray⟩,.slice bao (kidsOf r.2.2).length bcap] 42→Below (w.alloc o).heap.size (w.alloc o) w' →
   w'.cell? ⟨w.heap.size,5,none⟩=some (.int .i64 (opOf r.2.2))∧w'.cell? ⟨w.heap.size,6,none⟩=some (.int .i64 (numOf r.2.2))∧w'.cell? ⟨w.heap.size,7,none⟩=some (.string ⟨(txtOf r.2.2).toArray⟩)∧w'.cell? ⟨w.heap.size,8,none⟩=some (.slice bao (kidsOf r.2.2).length bcap):=fun o w' ho h=>by
  have:=(h.block w.heap.size (by simp)).trans (heap_new w o)
  rw[ho] at this
  simp[World.cell?,this]
 clear hp hb;generalize siz r.2.1=Z1 at *;generalize siz r.2.2=Z2 at *;generalize opOf r.2.1=q1 at *;generalize numOf r.2.1=q2 at *;generalize txtOf r.2.1=q3 at *;generalize (kidsOf r.2.1).length=q4 at *;generalize opOf r.2.2=q5 at *;generalize numOf r.2.2=q6 at *;generalize txtOf r.2.2=q7 at *;generalize (kidsOf r.2.2).length=q8 at *;generalize r.1=kd at *
 go_enter Tryz.func13,Tryz.ntmps13
 go_wp2_with (first
  | (go_at_call 34;refine (c2 _ _ hbw ?_ ?_).mono ?_;omega;omega;rintro e w3 ⟨z3,rfl,d0,d1,d2,hb3⟩)
  | (go_at_call 34;refine (c1 _).mono ?_;rintro e w2 ⟨z2,rfl,a0,a1,a2,hb2⟩;obtain⟨x5,x6,x7,x8⟩:=hcell _ _ rfl hb2;have hbw:=(hb0 _).trans (hb2.mono (hb0 _).size)))
 ·go_ret
  exact⟨-1,rfl,by omega,by omega,by omega,hbw⟩
 ·go_ret
  exact⟨-1,rfl,by omega,by omega,by omega,hbw.trans (hb3.mono hbw.size)⟩
 ·go_ret
  exact⟨z3,rfl,by omega,by omega,by omega,hbw.trans (hb3.mono hbw.size)⟩

set_option maxRecDepth 100000 in
theorem lSzRuleS {rs:List Ru}(hn:rs.length≤maxLen)(w:World)(ao:Option Addr)(cap:Nat)(left:Int)(hA:RArgs w rs ao 0)(l0:0≤left)(l1:left≤1048576):
  Calls Tryz.prog 4 #[.slice ao rs.length cap,.int .i64 left] w fun e w'=>∃ z,e=.returned (.int .i64 z) ∧ -1≤z∧z≤left∧(0≤z→(sizR rs:Int)≤left - z)∧Below w.heap.size w w':=by
 unfold maxLen at hn;have bn:(rs.length:Int)≤9223372036854775807:=by omega
 by_cases hl:left - rs.length<0
 ·go_enter Tryz.func4,Tryz.ntmps4
  go_wp2_with fail;go_ret
  exact⟨-1,rfl,by omega,by omega,by omega,Below.refl _ _⟩
 ·have bn2:(rs.length:Int)≤1048576:=by omega
  go_enter Tryz.func4,Tryz.ntmps4
  go_wp2_with fail
  go_loopw [1,5] (fun l i wr=>∃ (z:Int) (k:Nat),l=.int .i64 z∧0≤z∧z≤left∧i=.int .i64 k∧k≤rs.length∧(sizR (rs.take k):Int)+(rs.length - k)≤left - z∧Below w.heap.size w wr) (fun _ i _=>rs.length - (intOf i).toNat)
  case atStart=>exact⟨left - rs.length,0,rfl,by omega,by omega,rfl,Nat.zero_le _,by simp[sizR];omega,Below.refl _ _⟩
  case round =>
   obtain⟨z,k,rfl,z0,z1,rfl,hkl0,hcz,hb⟩:=hrel
   by_cases hkl:k<rs.length
   ·have hki:rs[k]?=some rs[k]:=List.getElem?_eq_getElem hkl
    obtain⟨b,o,p0,p1,p2,p3,b0,b1,b2,b3,rfl,hbl,c0,c1,c2,c3,c4,c5,c6,c7,c8,hp,hbd⟩:=rargs_at (rargs_frame hb hA) hki
    simp only[Nat.zero_add] at c0 c1 c2 c3 c4 c5 c6 c7 c8;have call:=lSzRule (r:=rs[k]) hp hbd z z0 (by omega)
    obtain⟨pao,pcap,rfl,rfl,rfl,rfl,-,-⟩:=arg_open hp
    obtain⟨bao,bcap,rfl,rfl,rfl,rfl,-,-⟩:=arg_open hbd
    have HT:Hid (sizR (rs.take (k+1))=sizR (rs.take k)+(siz rs[k].2.1+siz rs[k].2.2+1)):=sizR_take rs k rs[k] hki;clear hki hp hbd;generalize siz rs[k].2.1=C1 at *;generalize siz rs[k].2.2=C2 at *;generalize hM:sizR (rs.take k)=M at *;generalize hM2:sizR (rs.take (k+1))=M2 at *;generalize opOf rs[k].2.1=q1 at *;generalize numOf rs[k].2.1=q2 at *;generalize txtOf rs[k].2.1=q3 at *;generalize (kidsOf rs[k].2.1).length=q4 at *;generalize opOf rs[k].2.2=q5 at *;generalize numOf rs[k].2.2=q6 at *;generalize txtOf rs[k].2.2=q7 at *;generalize (kidsOf rs[k].2.2).length=q8 at *;generalize rs[k].1=kd at *;clear hM;have hbI:(k:Int)<rs.length:=by omega
    go_wp2_with (go_at_call 13;refine call.mono ?_;rintro e w2 ⟨z2,rfl,a0,a1,a2,hb2⟩)
    ·go_ret
     exact⟨-1,rfl,by omega,by omega,by omega,hb.trans (hb2.mono hb.size)⟩
    ·go_roundw
     case rel =>
      have h1:=HT.out
      exact⟨z2,k+1,rfl,by omega,by omega,by go_num,hkl,by rw[hM2];omega,hb.trans (hb2.mono hb.size)⟩
     case measure=>simp[intOf];omega
   ·obtain rfl:k=rs.length:=by omega
    rw[List.take_length] at hcz
    go_wp2_with fail;go_ret
    exact⟨z,rfl,by omega,by omega,by omega,hb⟩

end Ty
namespace Ty
open Nd

theorem Box9.frozen {w:World}{B:Nat}{v0 v1 v2 v3 v4 v5 v6 v7 v8:Value}(h:Box9 w B v0 v1 v2 v3 v4 v5 v6 v7 v8)(k:Nat):w.frozen? ⟨B,k,none⟩=false:=by
 unfold Box9 at h;simp[World.frozen?,h]
theorem Box9.pat {w:World}{B:Nat}{v0 v1 v2 v3 v4 v5 v6 v7 v8:Value}(h:Box9 w B v0 v1 v2 v3 v4 v5 v6 v7 v8)(a b c u:Value):Box9 (put4 w B 1 a b c u) B v0 a b c u v5 v6 v7 v8:=by
 unfold Box9 at h ⊢;simp[put4,World.setCell,Array.getElem?_modify,h]
theorem Box9.body {w:World}{B:Nat}{v0 v1 v2 v3 v4 v5 v6 v7 v8:Value}(h:Box9 w B v0 v1 v2 v3 v4 v5 v6 v7 v8)(a b c u:Value):Box9 (put4 w B 5 a b c u) B v0 v1 v2 v3 v4 a b c u:=by
 unfold Box9 at h ⊢;simp[put4,World.setCell,Array.getElem?_modify,h]
def put9 (w:World)(g i:Nat)(v0 v1 v2 v3 v4 v5 v6 v7 v8:Value):World:=put4 (put4 (w.setCell ⟨g,i,none⟩ v0) g (i+1) v1 v2 v3 v4) g (i+5) v5 v6 v7 v8
theorem Box9.put {w:World}{B:Nat}{v0 v1 v2 v3 v4 v5 v6 v7 v8:Value}(h:Box9 w B v0 v1 v2 v3 v4 v5 v6 v7 v8)(u0 u1 u2 u3 u4 u5 u6 u7 u8:Value):Box9 (put9 w B 0 u0 u1 u2 u3 u4 u5 u6 u7 u8) B u0 u1 u2 u3 u4 u5 u6 u7 u8:=by
 unfold Box9 at h ⊢;simp[put9,put4,World.setCell,Array.getElem?_modify,h]
theorem put9_other (w:World)(g i k:Nat)(v0 v1 v2 v3 v4 v5 v6 v7 v8:Value)(h:k≠g):(put9 w g i v0 v1 v2 v3 v4 v5 v6 v7 v8).heap[k]?=w.heap[k]?:=by
 unfold put9
 rw[put4_other _ _ _ _ _ _ _ _ h,put4_other _ _ _ _ _ _ _ _ h,Below.heap_setCell _ _ _ _ h]
theorem put9_size (w:World)(g i:Nat)(v0 v1 v2 v3 v4 v5 v6 v7 v8:Value):(put9 w g i v0 v1 v2 v3 v4 v5 v6 v7 v8).heap.size=w.heap.size:=by
 unfold put9
 rw[put4_size,put4_size]
 simp[World.setCell]
theorem below_put9 {B:Nat}{W w:World}(h:Below B W w){g:Nat}(hg:B≤g)(i:Nat)(v0 v1 v2 v3 v4 v5 v6 v7 v8:Value):Below B W (put9 w g i v0 v1 v2 v3 v4 v5 v6 v7 v8) :=
 below_put4 (below_put4 (h.setCell hg _) hg _ _ _ _ _) hg _ _ _ _ _

theorem ret_nine {fn:Func}{K:Nat}{R:Ending→World→Prop}{a:Act}{W:World}{B:Nat}{v0 v1 v2 v3 v4 v5 v6 v7 v8:Value}(hf:fn.results=#[.cell K 53])(ht:a.tmps[K]?=some (.pointer (some ⟨B,0,none⟩)))(hd:a.defers=[])
  (hV:Box9 W B v0 v1 v2 v3 v4 v5 v6 v7 v8) (hR:R (.returned (.agg #[v0,v1,v2,v3,v4,v5,v6,v7,v8])) W):bodyPost Tryz.prog fn R .ret a W:=by
 obtain⟨x0,x1,x2,x3,x4,x5,x6,x7,x8⟩:=hV.cell
 refine bodyPost_ret ?_ hd hR;simp[results,hf,ht,go_sem,x0,x1,x2,x3,x4,x5,x6,x7,x8]

def BoxL (w:World)(B:Nat)(v0 v1 v2 v3 v4 v5 v6 v7 v8:Value):Prop:=w.heap[B]?=some (.cells #[v0,v1,v2,v3,v4,v5,v6,v7,v8] 42 (0,0))
theorem BoxL.cell {w:World}{B:Nat}{v0 v1 v2 v3 v4 v5 v6 v7 v8:Value}(h:BoxL w B v0 v1 v2 v3 v4 v5 v6 v7 v8):w.cell? ⟨B,5,none⟩=some v5∧w.cell? ⟨B,6,none⟩=some v6∧w.cell? ⟨B,7,none⟩=some v7∧w.cell? ⟨B,8,none⟩=some v8:=by
 unfold BoxL at h;simp[World.cell?,h]

set_option maxHeartbeats 2000000 in
set_option maxRecDepth 100000 in
theorem lToRule {r:Ru}{w:World}{p0 p1 p2 p3 b0 b1 b2 b3:Value}(hp:ArgIs w r.2.1 [p0,p1,p2,p3])(hb:ArgIs w r.2.2 [b0,b1,b2,b3])(hcp:cnts (kidsOf r.2.1)≤1048576)(hcb:cnts (kidsOf r.2.2)≤1048576):
  Calls Tryz.prog 20 #[.agg #[.int .i64 r.1,p0,p1,p2,p3,b0,b1,b2,b3]] w fun e w'=>∃ vp vb mid,e=.returned (.agg #[.int .i64 r.1,p0,p1,p2,vp,b0,b1,b2,vb])∧w.heap.size≤mid∧mid≤w'.heap.size∧NodeIs w' r.2.1 (Iv w.heap.size mid) [p0,p1,p2,vp]∧NodeIs w' r.2.2 (Iv mid w'.heap.size) [b0,b1,b2,vb]∧Below w.heap.size w w':=by
 have tp:=fun w' (h:Below w.heap.size w w')=>lToNode r.2.1 w' p0 p1 p2 p3 (arg_frame h _ _ hp) hcp;have tb:=fun w' (h:Below w.heap.size w w')=>lToNode r.2.2 w' b0 b1 b2 b3 (arg_frame h _ _ hb) hcb
 obtain⟨pao,pcap,rfl,rfl,rfl,rfl,-,-⟩:=arg_open hp
 obtain⟨bao,bcap,rfl,rfl,rfl,rfl,-,-⟩:=arg_open hb
 obtain⟨o1,ho1⟩:∃ o1,o1=Obj.cells #[.int .i64 r.1,.int .i64 (opOf r.2.1),.int .i64 (numOf r.2.1),.string ⟨(txtOf r.2.1).toArray⟩,.slice pao (kidsOf r.2.1).length pcap,.int .i64 (opOf r.2.2),.int .i64 (numOf r.2.2),.string ⟨(txtOf r.2.2).toArray⟩,.slice bao (kidsOf r.2.2).length bcap] 42:=⟨_,rfl⟩
 obtain⟨o2,ho2⟩:∃ o2,o2=Obj.cells #[.int .i64 0,.int .i64 0,.int .i64 0,.string ⟨#[]⟩,.slice none 0 0,.int .i64 0,.int .i64 0,.string ⟨#[]⟩,.slice none 0 0] 53:=⟨_,rfl⟩
 obtain⟨o3,ho3⟩:∃ o3,o3=Obj.cells #[.int .i64 r.1,.int .i64 0,.int .i64 0,.string ⟨#[]⟩,.slice none 0 0,.int .i64 0,.int .i64 0,.string ⟨#[]⟩,.slice none 0 0] 53:=⟨_,rfl⟩
 have hb3:Below w.heap.size w (((w.alloc o1).alloc o2).alloc o3):=(((Below.refl _ w).alloc (Nat.le_refl _) _).alloc (by simp) _).alloc (by simp;omega) _;have v1:BoxL (((w.alloc o1).alloc o2).alloc o3) w.heap.size (.int .i64 r.1) (.int .i64 (opOf r.2.1)) (.int .i64 (numOf r.2.1)) (.string ⟨(txtOf r.2.1).toArray⟩) (.slice pao (kidsOf r.2.1).length pcap) (.int .i64 (opOf r.2.2)) (.int .i64 (numOf r.2.2)) (.string ⟨(txtOf r.2.2).toArray⟩) (.slice bao (kidsOf r.2.2).length bcap):=by
  have:=heap_new w o1
  unfold BoxL
  rw[Below.heap_alloc _ _ _ (by simp;omega),Below.heap_alloc _ _ _ (by simp),this,ho1]
 have v2:Box9 (((w.alloc o1).alloc o2).alloc o3) (w.heap.size+1) (.int .i64 0) (.int .i64 0) (.int .i64 0) (.string ⟨#[]⟩) (.slice none 0 0) (.int .i64 0) (.int .i64 0) (.string ⟨#[]⟩) (.slice none 0 0):=by
  have:=heap_new (w.alloc o1) o2
  rw[World.size_alloc] at this
  unfold Box9
  rw[Below.heap_alloc _ _ _ (by simp),this,ho2]
 have v3:Box9 (((w.alloc o1).alloc o2).alloc o3) (w.heap.size+1+1) (.int .i64 r.1) (.int .i64 0) (.int .i64 0) (.string ⟨#[]⟩) (.slice none 0 0) (.int .i64 0) (.int .i64 0) (.string ⟨#[]⟩) (.slice none 0 0):=by
  have:=heap_new ((w.alloc o1).alloc o2) o3
  rw[World.size_alloc,World.size_alloc] at this
  unfold Box9
  rw[this,ho3]
 have hsz3:(((w.alloc o1).alloc o2).alloc o3).heap.size=w.heap.size+3:=by simp
 have HO:Hid (((w.alloc o1).alloc o2).alloc o3=((w.alloc (Obj.cells #[.int .i64 r.1,.int .i64 (opOf r.2.1),.int .i64 (numOf r.2.1),.string ⟨(txtOf r.2.1).toArray⟩,.slice pao (kidsOf r.2.1).length pcap,.int .i64 (opOf r.2.2),.int .i64 (numOf r.2.2),.string ⟨(txtOf r.2.2).toArray⟩,.slice bao (kidsOf r.2.2).length bcap] 42)).alloc (Obj.cells #[.int .i64 0,.int .i64 0,.int .i64 0,.string ⟨#[]⟩,.slice none 0 0,.int .i64 0,.int .i64 0,.string ⟨#[]⟩,.slice none 0 0] 53)).alloc (Obj.cells #[.int .i64 r.1,.int .i64 0,.int .i64 0,.string ⟨#[]⟩,.slice none 0 0,.int .i64 0,.int .i64 0,.string ⟨#[]⟩,.slice none 0 0] 53)):=by show _=_;rw[ho1,ho2,ho3]
 clear ho1 ho2 ho3;generalize hW3:((w.alloc o1).alloc o2).alloc o3=W3 at *;clear hW3;have call1:=tp W3 hb3;clear hp hb hcp hcb tp
 go_enter Tryz.func20,Tryz.ntmps20
 go_wp2_with (go_at_call 48;refine hold ?_)
 rw[← HO.out]
 refine call1.mono ?_;rintro e w4 ⟨vp,rfl,hN4,hb4⟩;have v1':BoxL w4 w.heap.size _ _ _ _ _ _ _ _ _:=(hb4.block _ (by omega)).trans v1;have v2':=v2.kept (hb4.block _ v2.lt);have v3':=v3.kept (hb4.block _ v3.lt)
 obtain⟨_,_,_,pao2,pcap2,_,-,-,-,-,hvp,-⟩:=node_form hN4
 subst hvp;have f3:=v3'.frozen
 obtain⟨x0,x1,x2,x3,x4,x5,x6,x7,x8⟩:=v3'.cell
 obtain⟨y5,y6,y7,y8⟩:=v1'.cell
 have B4:Below w.heap.size w w4:=hb3.trans (hb4.mono (by omega))
 obtain⟨W5,hW5⟩:∃ W5,W5=put4 w4 (w.heap.size+1+1) 1 (.int .i64 (opOf r.2.1)) (.int .i64 (numOf r.2.1)) (.string ⟨(txtOf r.2.1).toArray⟩) (.slice pao2 (kidsOf r.2.1).length pcap2):=⟨_,rfl⟩
 have B5:Below w.heap.size w W5:=by rw[hW5];exact below_put4 B4 (by omega) _ _ _ _ _
 have s5:W5.heap.size=w4.heap.size:=by rw[hW5,put4_size]
 have oth5:∀ k,k≠w.heap.size+1+1→W5.heap[k]?=w4.heap[k]?:=fun k hk=>by rw[hW5];exact put4_other _ _ _ _ _ _ _ _ hk
 have u1:BoxL W5 w.heap.size _ _ _ _ _ _ _ _ _:=(oth5 _ (by omega)).trans v1';have u2:=v2'.kept (oth5 _ (by omega));have u3:=v3'.pat (.int .i64 (opOf r.2.1)) (.int .i64 (numOf r.2.1)) (.string ⟨(txtOf r.2.1).toArray⟩) (.slice pao2 (kidsOf r.2.1).length pcap2)
 rw[← hW5] at u3
 have N5:NodeIs W5 r.2.1 (Iv (w.heap.size+3) W5.heap.size) [.int .i64 (opOf r.2.1),.int .i64 (numOf r.2.1),.string ⟨(txtOf r.2.1).toArray⟩,.slice pao2 (kidsOf r.2.1).length pcap2]:=by
  rw[s5]
  exact node_mono (node_frame _ _ _ (fun k hk=>oth5 k (by have:=hk.1;omega)) hN4) fun k hk=>⟨by have:=hk.1;omega,hk.2⟩
 have call2:=tb W5 B5;have HW5:Hid _:=hW5;clear hW5 HO
 go_wp2_with (go_at_call 48;refine hold ?_)
 refine (show Calls Tryz.prog 48 _ (put4 w4 (w.heap.size+1+1) 1 (.int .i64 (opOf r.2.1)) (.int .i64 (numOf r.2.1)) (.string ⟨(txtOf r.2.1).toArray⟩) (.slice pao2 (kidsOf r.2.1).length pcap2)) _ from ?_)
 rw[← HW5.out]
 refine call2.mono ?_;clear HW5;rintro e w6 ⟨vb,rfl,hN6,hb6⟩;have t2:=u2.kept (hb6.block _ u2.lt);have t3:=u3.kept (hb6.block _ u3.lt)
 obtain⟨_,_,_,bao2,bcap2,_,-,-,-,-,hvb,-⟩:=node_form hN6
 subst hvb;have g3:=t3.frozen;have g2:=t2.frozen;have B6:Below w.heap.size w w6:=B5.trans (hb6.mono (by have:=B5.size;omega))
 obtain⟨W7,hW7⟩:∃ W7,W7=put4 w6 (w.heap.size+1+1) 5 (.int .i64 (opOf r.2.2)) (.int .i64 (numOf r.2.2)) (.string ⟨(txtOf r.2.2).toArray⟩) (.slice bao2 (kidsOf r.2.2).length bcap2):=⟨_,rfl⟩
 have B7:Below w.heap.size w W7:=by rw[hW7];exact below_put4 B6 (by omega) _ _ _ _ _
 have s7:W7.heap.size=w6.heap.size:=by rw[hW7,put4_size]
 have oth7:∀ k,k≠w.heap.size+1+1→W7.heap[k]?=w6.heap[k]?:=fun k hk=>by rw[hW7];exact put4_other _ _ _ _ _ _ _ _ hk
 have m2:=t2.kept (oth7 _ (by omega));have m3:=t3.body (.int .i64 (opOf r.2.2)) (.int .i64 (numOf r.2.2)) (.string ⟨(txtOf r.2.2).toArray⟩) (.slice bao2 (kidsOf r.2.2).length bcap2)
 rw[← hW7] at m3
 have hs65:=hb6.size;have hw53:w.heap.size+3≤W5.heap.size:=by have:=hb4.size;omega
 have P7:NodeIs W7 r.2.1 (Iv (w.heap.size+3) W5.heap.size) [.int .i64 (opOf r.2.1),.int .i64 (numOf r.2.1),.string ⟨(txtOf r.2.1).toArray⟩,.slice pao2 (kidsOf r.2.1).length pcap2] :=
  node_frame _ _ _ (fun k hk=>(oth7 k (by have:=hk.1;omega)).trans (hb6.block k hk.2)) N5
 have Q7:NodeIs W7 r.2.2 (Iv W5.heap.size W7.heap.size) [.int .i64 (opOf r.2.2),.int .i64 (numOf r.2.2),.string ⟨(txtOf r.2.2).toArray⟩,.slice bao2 (kidsOf r.2.2).length bcap2]:=by
  rw[s7]
  exact node_frame _ _ _ (fun k hk=>oth7 k (by have:=hk.1;omega)) hN6
 have hw57:W5.heap.size≤W7.heap.size:=by omega
 have HW7:Hid _:=hW7
 obtain⟨z0,z1,z2,z3,z4,z5,z6,z7,z8⟩:=t3.cell
 obtain⟨d0,d1,d2,d3,d4,d5,d6,d7,d8⟩:=t2.cell
 obtain⟨h0,h1,h2,h3,h4,h5,h6,h7,h8⟩:=m3.cell
 obtain⟨k0,k1,k2,k3,k4,k5,k6,k7,k8⟩:=m2.cell
 have r2:=m2.frozen;clear hW7
 go_upto_region 5 with fail
 refine (show Code.wp _ _ _ _ (put4 w6 (w.heap.size+1+1) 5 (.int .i64 (opOf r.2.2)) (.int .i64 (numOf r.2.2)) (.string ⟨(txtOf r.2.2).toArray⟩) (.slice bao2 (kidsOf r.2.2).length bcap2)) from ?_)
 rw[← HW7.out]
 clear HW7 x0 x1 x2 x3 x4 x5 x6 x7 x8 y5 y6 y7 y8 z0 z1 z2 z3 z4 z5 z6 z7 z8 d0 d1 d2 d3 d4 d5 d6 d7 d8;go_wp2_with fail;refine ret_nine (W:=put9 W7 (w.heap.size+1) 0 (.int .i64 r.1) (.int .i64 (opOf r.2.1)) (.int .i64 (numOf r.2.1)) (.string ⟨(txtOf r.2.1).toArray⟩) (.slice pao2 (kidsOf r.2.1).length pcap2) (.int .i64 (opOf r.2.2)) (.int .i64 (numOf r.2.2)) (.string ⟨(txtOf r.2.2).toArray⟩) (.slice bao2 (kidsOf r.2.2).length bcap2)) Tryz.results20 rfl rfl (m2.put _ _ _ _ _ _ _ _ _) ⟨_,_,W5.heap.size,rfl,by omega,by rw[put9_size];exact hw57,?_,?_,below_put9 B7 (by omega) _ _ _ _ _ _ _ _ _ _⟩
 ·exact node_mono (node_frame _ _ _ (fun k hk=>put9_other _ _ _ _ _ _ _ _ _ _ _ _ _ (by have:=hk.1;omega)) P7) fun k hk=>⟨by have:=hk.1;omega,hk.2⟩
 ·rw[put9_size]
  exact node_frame _ _ _ (fun k hk=>put9_other _ _ _ _ _ _ _ _ _ _ _ _ _ (by have:=hk.1;omega)) Q7

end Ty
end Go.Proofs.YtllbachngocmnaaGreatDoor
