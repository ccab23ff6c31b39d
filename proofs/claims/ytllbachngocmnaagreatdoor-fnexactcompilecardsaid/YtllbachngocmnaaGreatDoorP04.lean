/-
  A region that draws its order and whose callees make memory alone, walked once, in the order of the text: the worlds grown out of one, as a family.
-/
import Derived.Test.YtllbachngocmnaaGreatDoorP03
namespace Go.Proofs.YtllbachngocmnaaGreatDoor
open Go.RowKit
namespace Fam
theorem family (W:World):∃ (I:Type) (F:I→World),Nonempty I∧(∀ i,Below W.heap.size W (F i))∧(∀ w',Below W.heap.size W w'→∃ i,w'=F i) :=
 ⟨{w':World // Below W.heap.size W w'},Subtype.val,⟨⟨W,Below.refl _ W⟩⟩,fun i=>i.2,fun w' h=>⟨⟨w',h⟩,rfl⟩⟩
theorem wp_region_fam {P:Program}{I:Type}{F:I→World}{id:Nat}{Q:Exit→Act→World→Prop}{a:Act}{w:World}{l:List Oper}(hm:P.follows .mixedOrders=true)(hB:Region.lexB .any l.toArray=true)
  (hC:∃ i,w.drew=F i) (h:wpQuiet P l.toArray (fun w'=>∃ i,w'=F i) (fun a'=>∀ w',(∃ i,w'=F i)→Q .normal a' w') l a):(Code.region id l.toArray true).wp P Q a w :=
 wp_region_quiet (C:=fun w'=>∃ i,w'=F i) hm hB hC h
end Fam
namespace Sp
open St (Vl encV)
open Nd Ty Cm
open Pg (RdT eqB any_takeT)
open Oc (hold Blk)

def idx0 (ss:List ByteArray)(s:ByteArray):Int:=match ss.findIdx? (eqB · s) with|some k=>k|none=>0
theorem idx0_at {ss:List ByteArray}{k:Nat}{x s:ByteArray}(h:ss[k]?=some x)(hx:eqB x s=true)(hn:(ss.take k).any (eqB · s)=false):idx0 ss s=k:=by
 have hk:k<ss.length:=(List.getElem?_eq_some_iff.1 h).1;have he:=(List.getElem?_eq_some_iff.1 h).2;have hf:ss.findIdx? (eqB · s)=some k:=by
  rw[List.findIdx?_eq_some_iff_getElem]
  refine⟨hk,by rw[he];exact hx,fun j hj hp=>?_⟩
  have:(ss.take k).any (eqB · s)=true:=List.any_eq_true.2 ⟨ss[j],List.mem_take_iff_getElem.2 ⟨j,by omega,rfl⟩,hp⟩
  rw[hn] at this
  cases this
 unfold idx0
 rw[hf]
theorem idx0_none {ss:List ByteArray}{s:ByteArray}(hn:ss.any (eqB · s)=false):idx0 ss s=0:=by
 have hf:ss.findIdx? (eqB · s)=none:=by
  rw[List.findIdx?_eq_none_iff]
  intro x hx;rcases hb:eqB x s with _|_
  ·rfl
  ·rw[List.any_eq_true.2 ⟨x,hx,hb⟩] at hn
   cases hn
 unfold idx0
 rw[hf]

set_option maxRecDepth 100000 in
theorem sWhere {ss:List ByteArray}{ao:Option Addr}{cap:Nat}{w:World}(hA:RdT w ao ss)(hn:ss.length≤1048576)(s:ByteArray):
  Calls Tryz.prog 74 #[.slice ao ss.length cap,.string s] w fun e w'=>e=.returned (.int .i64 (idx0 ss s))∧w'=w:=by
 have bn:(ss.length:Int)≤1048576:=by omega
 go_enter Tryz.func74,Tryz.ntmps74
 go_wp2_with fail
 go_loopw [5] (fun i wr=>∃ k:Nat,k≤ss.length∧i=.int .i64 k∧Hid ((ss.take k).any (eqB · s)=false)∧wr=w) (fun i _=>ss.length - (intOf i).toNat)
 case atStart=>exact⟨0,Nat.zero_le _,rfl,(show (ss.take 0).any (eqB · s)=false from rfl),rfl⟩
 case round =>
  obtain⟨k,hkn,rfl,HN,rfl⟩:=hrel
  by_cases hkl:k<ss.length
  ·have hki:ss[k]?=some ss[k]:=List.getElem?_eq_getElem hkl
   obtain⟨b,o,rfl,hbl,hss,c0⟩:=hA k _ hki
   have bk:(k:Int)<ss.length:=by omega
   by_cases he:ss[k].toList=s.toList
   ·have HR:Hid (idx0 ss s=k):=idx0_at hki (decide_eq_true he) HN.out;generalize ss[k]=v at *;have e1:(v.toList==s.toList)=true:=by simpa using he
    clear hA hki he;go_wp2_with fail;go_ret
    exact⟨by rw[HR.out];rfl,rfl⟩
   ·have HN':Hid ((ss.take (k+1)).any (eqB · s)=false):=by
     show (ss.take (k+1)).any (eqB · s)=false
     rw[any_takeT hki,HN.out,eqB,decide_eq_false he]
     rfl
    generalize ss[k]=v at *;have e1:(v.toList==s.toList)=false:=beq_eq_false_iff_ne.2 he;clear hA hki he;go_wp2_with fail;go_roundw
    case rel=>exact⟨k+1,hkl,by go_num,HN',trivial⟩
    case measure=>simp[intOf];omega
  ·obtain rfl:k=ss.length:=by omega
   have HR:Hid (idx0 ss s=0):=idx0_none (by have:=HN.out;rwa [List.take_length] at this);go_wp2_with fail;go_ret
   exact⟨by rw[HR.out];rfl,rfl⟩

structure Fx where
 W:World
 p:Nat
 va:Option Addr
 ca:Option Addr
 vc:Nat
 cc:Nat
 vars:List ByteArray
 cells:List ByteArray
def Fx.iv (X:Fx):ByteArray→Int:=idx0 X.vars
def Fx.ic (X:Fx):ByteArray→Int:=idx0 X.cells
structure Wk (X:Fx)(ls:List Vl)(w:World):Prop where
 below:Below X.W.heap.size X.W w
 hp:X.W.heap.size≤X.p
 blk:∃ ao cap,Blk 48 w X.p [.slice X.va X.vars.length X.vc,.slice X.ca X.cells.length X.cc,.slice ao ls.length cap]∧w.ownsRow X.W.heap.size 57 3 (.slice ao ls.length cap) ls.length (ls.flatMap encV)
 vs:RdT X.W X.va X.vars
 cs:RdT X.W X.ca X.cells
 vn:X.vars.length≤1048576
 cn:X.cells.length≤1048576
def RowAt (X:Fx)(w:World)(k:Nat):Prop:=∃ (ao:Option Addr) (n cap:Nat),w.cell? ⟨X.p,2,none⟩=some (.slice ao n cap)∧Value.ownBlock (.slice ao n cap)=some k
structure Ch (X:Fx)(w w':World):Prop where
 size:w.heap.size≤w'.heap.size
 own:∀ k,k<w.heap.size→k≠X.p→¬ RowAt X w k→w'.heap[k]?=w.heap[k]?∧¬ RowAt X w' k
theorem Ch.refl (X:Fx)(w:World):Ch X w w:=⟨Nat.le_refl _,fun _ _ _ h=>⟨rfl,h⟩⟩
theorem Ch.trans {X:Fx}{a b c:World}(h:Ch X a b)(k:Ch X b c):Ch X a c :=
 ⟨Nat.le_trans h.size k.size,fun j h1 h2 h3 =>
  ⟨((k.own j (Nat.lt_of_lt_of_le h1 h.size) h2 (h.own j h1 h2 h3).2).1).trans (h.own j h1 h2 h3).1,(k.own j (Nat.lt_of_lt_of_le h1 h.size) h2 (h.own j h1 h2 h3).2).2⟩⟩
theorem rowAt_same {X:Fx}{k:Nat}{w w':World}(h:w'.heap[X.p]?=w.heap[X.p]?):RowAt X w' k↔RowAt X w k:=by
 have hc:w'.cell? ⟨X.p,2,none⟩=w.cell? ⟨X.p,2,none⟩:=World.cell?_of_block h;unfold RowAt
 rw[hc]
theorem ch_below {X:Fx}{w w':World}(hp:X.p<w.heap.size)(h:Below w.heap.size w w'):Ch X w w' :=
 ⟨h.size,fun k hk _ hr=>⟨h.block k hk,fun hr'=>hr ((rowAt_same (h.block X.p hp)).1 hr')⟩⟩
theorem rowAt_is {X:Fx}{k:Nat}{w:World}{ao:Option Addr}{n cap:Nat}(h:w.cell? ⟨X.p,2,none⟩=some (.slice ao n cap)):RowAt X w k↔Value.ownBlock (.slice ao n cap)=some k:=by
 constructor
 ·rintro⟨ao',n',cap',h1,h2⟩
  rw[h] at h1
  simp at h1
  obtain⟨rfl,rfl,rfl⟩:=h1
  exact h2
 ·exact fun h2=>⟨ao,n,cap,h,h2⟩
theorem Wk.later {X:Fx}{ls:List Vl}{w w':World}(h:Wk X ls w)(hb:Below w.heap.size w w'):Wk X ls w':=by
 obtain⟨ao,cap,h1,h2⟩:=h.blk
 exact⟨h.below.trans (hb.mono h.below.size),h.hp,⟨ao,cap,h1.below hb,owns_same h2 fun g hg=>hb.block g (h2.lt g hg).2⟩,h.vs,h.cs,h.vn,h.cn⟩
theorem Wk.lt {X:Fx}{ls:List Vl}{w:World}(h:Wk X ls w):X.p<w.heap.size:=by
 obtain⟨ao,cap,h1,_⟩:=h.blk
 exact h1.lt
structure At (X:Fx)(w0:World)(bxs:List (Nat × TypeId × List Value))(L:List Vl)(w':World):Prop where
 wk:Wk X L w'
 bx:∀ b∈bxs,Blk b.2.1 w' b.1 b.2.2∧b.1≠X.p∧¬ RowAt X w' b.1
 ch:Ch X w0 w'
theorem At.cell {X:Fx}{w0:World}{bxs:List (Nat × TypeId × List Value)}{L:List Vl}{w':World}(h:At X w0 bxs L w'){g j:Nat}{x:Value}(hx:X.W.cell? ⟨g,j,none⟩=some x):w'.cell? ⟨g,j,none⟩=some x:=(h.wk.below.cell (World.block_lt_of_cell? _ _ hx)).trans hx
theorem At.box {X:Fx}{w0:World}{bxs:List (Nat × TypeId × List Value)}{L:List Vl}{w':World}(h:At X w0 bxs L w'){b:Nat × TypeId × List Value}(hb:b∈bxs)(j:Nat){x:Value}(hx:b.2.2[j]?=some x):w'.cell? ⟨b.1,j,none⟩=some x:=(h.bx b hb).1.cell j hx
theorem At.names {X:Fx}{w0:World}{bxs:List (Nat × TypeId × List Value)}{L:List Vl}{w':World}(h:At X w0 bxs L w'):w'.cell? ⟨X.p,0,none⟩=some (.slice X.va X.vars.length X.vc)∧w'.cell? ⟨X.p,1,none⟩=some (.slice X.ca X.cells.length X.cc):=by
 obtain⟨ao,cap,h1,_⟩:=h.wk.blk
 exact⟨h1.cell 0 rfl,h1.cell 1 rfl⟩
theorem At.next {X:Fx}{w0:World}{bxs:List (Nat × TypeId × List Value)}{L L':List Vl}{w w':World}(h:At X w0 bxs L w)(hw:Wk X L' w')(hc:Ch X w w'):At X w0 bxs L' w' :=
 ⟨hw,fun b hb=>by
  have k:=h.bx b hb
  have:=hc.own b.1 k.1.lt k.2.1 k.2.2
  exact⟨this.1.trans k.1,k.2.1,this.2⟩,h.ch.trans hc⟩
theorem At.later {X:Fx}{w0:World}{bxs:List (Nat × TypeId × List Value)}{L:List Vl}{w w':World}(h:At X w0 bxs L w)(hb:Below w.heap.size w w'):At X w0 bxs L w':=h.next (h.wk.later hb) (ch_below h.wk.lt hb)
theorem at_none {X:Fx}{ls:List Vl}{w:World}(h:Wk X ls w):At X w [] ls w:=⟨h,fun b hb=>by simp at hb,Ch.refl _ _⟩
theorem At.more {X:Fx}{w0:World}{bxs:List (Nat × TypeId × List Value)}{L:List Vl}{w:World}(h:At X w0 bxs L w)(T:TypeId)(xs:List Value):At X w0 ((w.heap.size,T,xs)::bxs) L (w.alloc (.cells xs.toArray T)):=by
 have h':=h.later ((Below.refl _ w).alloc (Nat.le_refl _) (.cells xs.toArray T))
 refine⟨h'.wk,fun b hb=>?_,h'.ch⟩
 rcases List.mem_cons.1 hb with rfl|hb
 ·obtain⟨ao,cap,h1,h2⟩:=h.wk.blk
  have hl:=h1.lt
  refine⟨Blk.new _ _ _,by show w.heap.size≠X.p;omega,fun hr=>?_⟩
  have:=(rowAt_is ((h1.alloc _).cell 2 rfl)).1 hr
  have:=(h2.lt _ this).2
  omega
 ·exact h'.bx b hb

set_option maxHeartbeats 1000000 in
set_option maxRecDepth 100000 in
theorem sPut {X:Fx}{ls:List Vl}{w:World}(h:Wk X ls w)(hl:ls.length<50000000)(code n:Int)(s:ByteArray):
  Calls Tryz.prog 18 #[.pointer (some ⟨X.p,0,none⟩),.int .i64 code,.int .i64 n,.string s] w fun e w'=>e=.returned (.int .i64 ls.length)∧Wk X (ls++[(code,n,s)]) w'∧Ch X w w':=by
 obtain⟨ao,cap,h1,h2⟩:=h.blk
 have q2:=h1.cell 2 rfl;have f2:=h1.frozen 2
 obtain⟨i0,hi0,hz0,hz1,hz2⟩:=info_parts infoOpr
 have hlI:(ls.length:Int)≤50000000:=by omega
 have hk64:Hid ((ls.length+1)*32≤140737488355328):=by show _≤_;omega
 have hkm:Hid (ls.length+1≤maxLen):=by show _≤_;unfold maxLen;omega
 have hown:∀ o,(w.alloc o).ownsRow X.W.heap.size 57 3 (.slice ao ls.length cap) ls.length (ls.flatMap encV):=fun o=>h2.alloc o;have hWs:X.W.heap.size≤w.heap.size:=h.below.size;have hpw:X.p<w.heap.size:=h1.lt;have hnp:Value.ownBlock (.slice ao ls.length cap)≠some X.p:=fun e=>row_not h1 h2 e (by decide) rfl;have hbase:∀ g,Value.ownBlock (.slice ao ls.length cap)=some g→X.W.heap.size≤g:=fun g hg=>(h2.lt g hg).1;have H:Hid (Wk X ls w):=h;have H1:Hid (Blk 48 w X.p [.slice X.va X.vars.length X.vc,.slice X.ca X.cells.length X.cc,.slice ao ls.length cap]):=h1;have q2':Hid (w.cell? ⟨X.p,2,none⟩=some (.slice ao ls.length cap)):=q2;clear h h1 h2
 go_enter Tryz.func18,Tryz.ntmps18
 go_wp2_with (first|(at_builtin;refine wpList_append_own_at _ rfl _ _ 25 rfl X.W.heap.size 57 i0 _ 3 32 Tryz.underlying25 hi0 hz0 hz1 hz2 rfl (by decide) _ _ _ rfl (hown _) ⟨w.heap.size,0,none⟩ 1 1 [.int .i64 code,.int .i64 n,.string s] rfl rfl (cell_three_new _ _ _ _ _) (by simp[Value.oneCell']) hkm.out hk64.out (by simp;omega) ?_;intro v' w1 hown' hgrow hb1 hb2;obtain⟨ao',cap',rfl⟩:=owns_slice hown';have hpb:w1.heap[X.p]?=w.heap[X.p]?:=(hgrow.block X.p (by simp;omega) (Ne.symm hnp)).trans (Below.heap_alloc _ _ _ hpw);have c4:=(World.cell?_of_block (a:=⟨X.p,2,none⟩) hpb).trans q2;have f4:=(World.frozen?_of_block (a:=⟨X.p,2,none⟩) hpb).trans f2))
 have HW:Hid (Wk X (ls++[(code,n,s)]) (w1.setCell ⟨X.p,2,none⟩ (.slice ao' (ls.length+1) cap'))):=by
  have h:=H.out;have hx:(ls++[(code,n,s)]).length=ls.length+1:=by simp
  have hg':∀ g,Value.ownBlock (.slice ao' (ls.length+1) cap')=some g→g≠X.p:=fun g hg=>by
   rcases hb2 with e|e
   ·rw[e] at hg;intro hh;rw[hh] at hg;exact hnp hg
   ·rw[e] at hg;simp at hg;omega
  refine⟨(((h.below.alloc hWs _).grown hgrow (by simp;omega) hbase).setCell h.hp _),h.hp,⟨ao',cap',?_,?_⟩,h.vs,h.cs,h.vn,h.cn⟩
  ·rw[hx]
   have hb:Blk 48 w1 X.p [.slice X.va X.vars.length X.vc,.slice X.ca X.cells.length X.cc,.slice ao ls.length cap]:=hpb.trans H1.out;exact hb.set 2 _
  ·rw[hx]
   refine owns_same (w:=w1) (by simpa [encV] using hown') fun g hg=>Below.heap_setCell _ _ _ _ ?_;exact hg' g hg
 have HC:Hid (Ch X w (w1.setCell ⟨X.p,2,none⟩ (.slice ao' (ls.length+1) cap'))):=by
  refine⟨Nat.le_trans (Nat.le_trans (by simp) hgrow.size) (by simp),fun k k1 k2 k4=>?_⟩
  have k5:Value.ownBlock (.slice ao ls.length cap)≠some k:=fun e=>k4 ((rowAt_is q2'.out).2 e)
  refine⟨(Below.heap_setCell _ _ _ _ k2).trans ((hgrow.block k (by simp;omega) (Ne.symm k5)).trans (Below.heap_alloc _ _ _ k1)),fun hr=>?_⟩
  have hr2:=(rowAt_is (World.cell?_setCell_same _ _ _ c4)).1 hr;rcases hb2 with e|e
  ·rw[e] at hr2;exact k5 hr2
  ·rw[e] at hr2;simp at hr2;omega
 have z2:(w1.setCell ⟨X.p,2,none⟩ (.slice ao' (ls.length+1) cap')).cell? ⟨X.p,2,none⟩=some (.slice ao' (ls.length+1) cap'):=World.cell?_setCell_same _ _ _ c4;clear H H1 hown' hgrow hb1 hb2 hown hnp hbase;go_wp2_with fail;go_ret
 exact⟨by simp,HW.out,HC.out⟩

theorem at_put {X:Fx}{w0:World}{bxs:List (Nat × TypeId × List Value)}{L:List Vl}{w:World}(h:At X w0 bxs L w)(hl:L.length<50000000)(code n:Int)(s:ByteArray){j:Nat}(hj:j=L.length):
  Calls Tryz.prog 18 #[.pointer (some ⟨X.p,0,none⟩),.int .i64 code,.int .i64 n,.string s] w fun e w'=>e=.returned (.int .i64 j)∧At X w0 bxs (L++[(code,n,s)]) w':=by
 subst hj;refine (sPut h.wk hl code n s).mono ?_;rintro e w' ⟨rfl,k1,k2⟩
 exact⟨rfl,h.next k1 k2⟩
theorem at_land {X:Fx}{w0:World}{bxs:List (Nat × TypeId × List Value)}{L l1 l2:List Vl}{c n:Int}{s:ByteArray}{w:World}(h:At X w0 bxs L w)(hL:L=l1++(c,n,s)::l2){j N:Nat}(hj:j=l1.length)(hN:N=L.length):
  ∃ g cap,w.cell? ⟨X.p,2,none⟩=some (.slice (some ⟨g,0,none⟩) N cap)∧w.cell? ⟨g,j*3+1,none⟩=some (.int .i64 n)∧w.frozen? ⟨g,j*3+1,none⟩=false∧j<N∧At X w0 bxs (l1++(c,(N:Int),s)::l2) (w.setCell ⟨g,j*3+1,none⟩ (.int .i64 N)).drew:=by
 subst hL hj
 obtain⟨ao,cap,h1,h2⟩:=h.wk.blk
 have q2:=h1.cell 2 rfl;have hlen:(l1++(c,n,s)::l2).length=l1.length+1+l2.length:=by simp;omega
 obtain⟨g,rfl,hgl,hcs⟩:=row_cells h2 (show l1.length<(l1++(c,n,s)::l2).length by omega)
 have q5:=hcs (l1.length*3+1) (.int .i64 n) (by rw[flat_at,List.getElem?_append_right (by rw[flat_len];omega),flat_len];simp);have fz:=h2.frozenAt (l1.length*3+1);have hgp:g≠X.p:=row_not h1 h2 rfl (by decide);have hgb:X.W.heap.size≤g:=(h2.lt g rfl).1
 rw[← hN] at q2 h1 h2
 refine⟨g,cap,q2,q5,fz,by omega,h.next ?_ ?_⟩
 ·have hx:(l1++(c,(N:Int),s)::l2).length=N:=by rw[hN];simp
  have h2d:w.drew.ownsRow X.W.heap.size 57 3 (.slice (some ⟨g,0,none⟩) N cap) N ((l1++(c,n,s)::l2).flatMap encV):=h2.drew;have hst:=(h2d.stored (l1.length*3+1) (.int .i64 N)).1
  rw[flat_set] at hst
  have hb:Below w.heap.size w w.drew:=(Below.refl _ _).drew
  refine⟨(h.wk.below.trans (hb.mono h.wk.below.size)).setCell hgb _,h.wk.hp,⟨some ⟨g,0,none⟩,cap,?_,?_⟩,h.wk.vs,h.wk.cs,h.wk.vn,h.wk.cn⟩
  ·rw[hx];exact (h1.below hb).other (Ne.symm hgp) _ _
  ·rw[hx];exact hst
 ·have hpb:(w.setCell ⟨g,l1.length*3+1,none⟩ (.int .i64 N)).drew.heap[X.p]?=w.heap[X.p]?:=Below.heap_setCell w ⟨g,l1.length*3+1,none⟩ (.int .i64 N) X.p (Ne.symm hgp)
  exact⟨by show w.heap.size≤(w.setCell ⟨g,l1.length*3+1,none⟩ (.int .i64 N)).heap.size;simp,fun k k1 k2 k4=>⟨Below.heap_setCell w ⟨g,l1.length*3+1,none⟩ (.int .i64 N) k (fun e=>k4 ((rowAt_is q2).2 (by show some g=some k;rw[show k=g from e]))),fun hr=>k4 ((rowAt_same hpb).1 hr)⟩⟩

end Sp
end Go.Proofs.YtllbachngocmnaaGreatDoor
namespace Go.Proofs.YtllbachngocmnaaGreatDoor
namespace Ck
open Nd Ty

mutual
def subs:Data→List Data
 | .slice ks lab=>.slice ks lab::subsL ks
 | t=>[t]
def subsL:List Data→List Data
 | []=>[]
 | t::ts=>subs t++subsL ts
end
theorem subs_kids (t:Data):subs t=t::subsL (kidsOf t):=by cases t <;> simp[subs,subsL,kidsOf]
theorem subsL_append:∀ (l1 l2:List Data),subsL (l1++l2)=subsL l1++subsL l2
 | [],l2=>by simp[subsL]
 | a::l1,l2=>by simp only[List.cons_append,subsL,subsL_append l1 l2,List.append_assoc]
theorem mem_subsL {x:Data}:∀ {ts:List Data},x∈subsL ts↔∃ t∈ts,x∈subs t
 | []=>by simp[subsL]
 | t::ts=>by simp[subsL,mem_subsL (ts:=ts)]
theorem mem_below1 {x:Data}:∀ {ts:List Data},x∈subsL ts↔x∈ts∨x∈subsL (below1 ts).flatten
 | []=>by simp[subsL,below1]
 | t::ts=>by
  have ih:=mem_below1 (x:=x) (ts:=ts);have h0:subsL (if kidsOf t=[] then ([]:List (List Data)) else [kidsOf t]).flatten=subsL (kidsOf t):=by
   split
   ·rename_i e;rw[e];simp
   ·simp
  simp only[subsL,below1,List.flatten_append,subsL_append,h0,List.mem_append,List.mem_cons,subs_kids,ih]
  grind

def bfs:Nat→List (List Data)→List Data
 | 0,_=>[]
 | f+1,ls=>ls.flatten++bfs f (below ls)
theorem bfs_nil:∀ f,bfs f []=[]
 | 0=>rfl
 | f+1=>by simp[bfs,below,bfs_nil f]
theorem deps_below {ls:List (List Data)}(h:ls.flatten≠[]):deps ls.flatten=deps (below ls).flatten+1:=by rw[below_flat,below1_deps ls.flatten,if_neg h]
theorem mem_bfs {x:Data}:∀ (f:Nat) (ls:List (List Data)),deps ls.flatten≤f→(x∈bfs f ls↔x∈subsL ls.flatten)
 | 0,ls,h=>by
  have:ls.flatten=[]:=by
   cases hl:ls.flatten with
   | nil=>rfl
   | cons t ts=>rw[hl] at h;have:=dep_kids t;simp only[deps] at h;omega
  simp[bfs,this,subsL]
 | f+1,ls,h=>by
  by_cases hl:ls.flatten=[]
  ·have hb:below ls=[]:=by rw[below_flat,hl];rfl
   simp[bfs,hl,hb,bfs_nil,subsL]
  ·have:=deps_below hl
   rw[bfs,List.mem_append,mem_bfs f (below ls) (by omega),mem_below1 (ts:=ls.flatten),below_flat]

def order (r:Ru):List Data:=bfs (deps [r.2.1,r.2.2]) [[r.2.1,r.2.2]]
theorem mem_order {x:Data}{r:Ru}:x∈order r↔x∈subs r.2.1∨x∈subs r.2.2:=by
 rw[order,mem_bfs _ _ (by simp)]
 simp[subsL]
def visit:Nat→List Ru→List (Nat × Data)
 | _,[]=>[]
 | k,r::rs=>(order r).map (fun t=>(k,t))++visit (k+1) rs
theorem visit_append:∀ (k:Nat) (l1 l2:List Ru),visit k (l1++l2)=visit k l1++visit (k+l1.length) l2
 | k,[],l2=>by simp[visit]
 | k,a::l1,l2=>by simp only[List.cons_append,visit,visit_append (k+1) l1 l2,List.append_assoc,List.length_cons];congr 3;omega
theorem visit_take {rs:List Ru}{k:Nat}{r:Ru}(h:rs[k]?=some r):visit 0 (rs.take (k+1))=visit 0 (rs.take k)++(order r).map (fun t=>(k,t)):=by
 have hk:k<rs.length:=(List.getElem?_eq_some_iff.1 h).1
 rw[List.take_add_one,h,visit_append]
 simp[visit,Nat.min_eq_left (Nat.le_of_lt hk)]
def allOf (rs:List Ru):List Data:=(visit 0 rs).map (·.2)
def SubR (rs:List Ru)(x:Data):Prop:=∃ r∈rs,x∈subs r.2.1∨x∈subs r.2.2
theorem mem_visit {x:Data}:∀ {k:Nat} {rs:List Ru},x∈(visit k rs).map (·.2)↔SubR rs x
 | k,[]=>by simp[visit,SubR]
 | k,r::rs=>by
  have ih:=mem_visit (x:=x) (k:=k+1) (rs:=rs)
  rw[visit,List.map_append,List.mem_append,ih]
  simp[SubR,mem_order]
theorem mem_allOf {x:Data}{rs:List Ru}:x∈allOf rs↔SubR rs x:=mem_visit

/-! how many -/
theorem bfs_len:∀ (f:Nat) (ls:List (List Data)),(bfs f ls).length≤cnts ls.flatten
 | 0,ls=>by simp[bfs]
 | f+1,ls=>by
  have:=bfs_len f (below ls)
  have h2:=below1_cnts ls.flatten
  rw[← below_flat] at h2
  rw[bfs,List.length_append]
  omega

/-! names -/
def varN (t:Data):Option (List UInt8):=if opOf t=4 then some (txtOf t) else none
def cellN (t:Data):Option (List UInt8):=if opOf t=5∨opOf t=34 then some (txtOf t) else none
def varsIn (ts:List Data):List (List UInt8):=ts.filterMap varN
def cellsIn (ts:List Data):List (List UInt8):=ts.filterMap cellN
theorem varsIn_append (l1 l2:List Data):varsIn (l1++l2)=varsIn l1++varsIn l2:=List.filterMap_append ..
theorem cellsIn_append (l1 l2:List Data):cellsIn (l1++l2)=cellsIn l1++cellsIn l2:=List.filterMap_append ..

/-! what is amiss -/
def soMany (s:List UInt8)(k:Nat):Bool:=if s=[105,110,100,101,120] then decide (k=2) else if s=[115,117,98,115,116,114] then decide (k=2) || decide (k=3) else decide (k=1)
def argsB (n:Data):Bool:=decide (opOf n=28)&&!soMany (txtOf n) (kidsOf n).length

end Ck
end Go.Proofs.YtllbachngocmnaaGreatDoor
namespace Go.Proofs.YtllbachngocmnaaGreatDoor
open Go.RowKit
namespace Cm
open St (Vl encV)
open Nd Ty
open Oc (hold Blk)

def At (X:Fx)(w0:World)(bxs:List (Nat × TypeId × List Value))(G:List Nat)(S R:Nat→Prop)(L:List Vl)(w':World):Prop :=
 ∃ G',(∀ g∈G',(g∈G∨S g)∧¬ R g)∧Wk X L G' w'∧(∀ b∈bxs,Bx X w' b.1 b.2.1 b.2.2)∧Ch X w0 w'
def Step (X:Fx)(v:Value)(w0:World)(bxs:List (Nat × TypeId × List Value))(G:List Nat)(S R:Nat→Prop)(L:List Vl)(e:Ending)(w':World):Prop:=Full X L.length e w'∨(e=.returned v∧At X w0 bxs G S R L w')

theorem At.wk {X:Fx}{w0:World}{bxs:List (Nat × TypeId × List Value)}{G:List Nat}{S R:Nat→Prop}{L:List Vl}{w':World}(h:At X w0 bxs G S R L w'){g j:Nat}{x:Value}(hx:X.W.cell? ⟨g,j,none⟩=some x):w'.cell? ⟨g,j,none⟩=some x:=by
 obtain⟨G',h1,h2,h3,h4⟩:=h
 exact h2.cell hx
theorem At.box {X:Fx}{w0:World}{bxs:List (Nat × TypeId × List Value)}{G:List Nat}{S R:Nat→Prop}{L:List Vl}{w':World}(h:At X w0 bxs G S R L w'){b:Nat × TypeId × List Value}(hb:b∈bxs)(j:Nat){x:Value}(hx:b.2.2[j]?=some x):w'.cell? ⟨b.1,j,none⟩=some x:=by
 obtain⟨G',h1,h2,h3,h4⟩:=h
 exact (h3 b hb).cell j hx
theorem At.ends {X:Fx}{w0:World}{bxs:List (Nat × TypeId × List Value)}{G:List Nat}{S R:Nat→Prop}{L L':List Vl}{w':World}(h:At X w0 bxs G S R L w')(hL:L=L'):RanS X L' G S w0 (.returned (.tuple #[])) w':=by
 obtain⟨G',h1,h2,h3,h4⟩:=h
 exact .inl ⟨rfl,G',fun g hg=>(h1 g hg).1,hL ▸ h2,h4⟩
theorem At.later {X:Fx}{w0:World}{bxs:List (Nat × TypeId × List Value)}{G:List Nat}{S R:Nat→Prop}{L:List Vl}{w w':World}(h:At X w0 bxs G S R L w)(hb:Below w.heap.size w w'):At X w0 bxs G S R L w':=by
 obtain⟨G',h1,h2,h3,h4⟩:=h
 have hc:=ch_below h2.lt hb
 exact⟨G',h1,h2.later hb,fun b hb=>(h3 b hb).ch hc,h4.trans hc⟩
theorem at_none {X:Fx}{ls:List Vl}{G:List Nat}{S R:Nat→Prop}{w:World}(h:Wk X ls G w)(hG:∀ g∈G,¬ S g)(hR:∀ k,R k→S k):At X w [] G S R ls w:=⟨G,fun g hg=>⟨.inl hg,fun hr=>hG g hg (hR g hr)⟩,h,fun b hb=>by simp at hb,Ch.refl _ _⟩
theorem At.more {X:Fx}{w0:World}{bxs:List (Nat × TypeId × List Value)}{G:List Nat}{S R:Nat→Prop}{L:List Vl}{w:World}(h:At X w0 bxs G S R L w)(T:TypeId)(xs:List Value):At X w0 ((w.heap.size,T,xs)::bxs) G S R L (w.alloc (.cells xs.toArray T)):=by
 have h':=h.later ((Below.refl _ w).alloc (Nat.le_refl _) (.cells xs.toArray T))
 obtain⟨_,_,k2,_,_⟩:=h
 obtain⟨G',h1,h2,h3,h4⟩:=h'
 refine⟨G',h1,h2,fun b hb=>?_,h4⟩
 rcases List.mem_cons.1 hb with rfl|hb
 ·exact Bx.new k2 T xs
 ·exact h3 b hb
theorem at_put {X:Fx}{w0:World}{bxs:List (Nat × TypeId × List Value)}{G:List Nat}{S R:Nat→Prop}{L:List Vl}{w:World}(h:At X w0 bxs G S R L w)(code n:Int)(s:ByteArray):
  Calls Tryz.prog 59 #[.pointer (some ⟨X.p,0,none⟩),.int .i64 code,.int .i64 n,.string s] w fun e w'=>Step X (.tuple #[]) w0 bxs G S R (L++[(code,n,s)]) e w':=by
 obtain⟨G',h1,h2,h3,h4⟩:=h
 refine (iPut h2 code n s).mono ?_;rintro e w' (⟨rfl,k1,k2⟩|hF)
 ·exact .inr ⟨rfl,G',h1,k1,fun b hb=>(h3 b hb).ch k2,h4.trans k2⟩
 ·exact .inl hF
theorem at_jump {X:Fx}{w0:World}{bxs:List (Nat × TypeId × List Value)}{G:List Nat}{S R:Nat→Prop}{L:List Vl}{w:World}(h:At X w0 bxs G S R L w)(code:Int){j:Nat}(hj:j=L.length):
  Calls Tryz.prog 102 #[.pointer (some ⟨X.p,0,none⟩),.int .i64 code] w fun e w'=>Step X (.int .i64 j) w0 bxs G S R (L++[(code,0,none')]) e w':=by
 obtain⟨G',h1,h2,h3,h4⟩:=h
 subst hj;refine (iPutJump h2 code).mono ?_;rintro e w' (⟨rfl,k1,k2⟩|hF)
 ·exact .inr ⟨rfl,G',h1,k1,fun b hb=>(h3 b hb).ch k2,h4.trans k2⟩
 ·exact .inl hF
theorem at_land {X:Fx}{w0:World}{bxs:List (Nat × TypeId × List Value)}{G:List Nat}{S R:Nat→Prop}{L l1 l2:List Vl}{c n:Int}{s:ByteArray}{w:World}(h:At X w0 bxs G S R L w)(hL:L=l1++(c,n,s)::l2){j N:Nat}(hj:j=l1.length)(hN:N=L.length):
  Calls Tryz.prog 103 #[.pointer (some ⟨X.p,0,none⟩),.int .i64 j] w fun e w'=>e=.returned (.tuple #[])∧At X w0 bxs G S R (l1++(c,(N:Int),s)::l2) w':=by
 obtain⟨G',h1,h2,h3,h4⟩:=h
 subst hL hj hN;refine (iLand h2).mono ?_;rintro e w' ⟨rfl,k1,k2⟩
 exact⟨rfl,G',h1,k1,fun b hb=>(h3 b hb).ch k2,h4.trans k2⟩
theorem ran_step {X:Fx}{w0:World}{bxs:List (Nat × TypeId × List Value)}{G G':List Nat}{S R T:Nat→Prop}{L:List Vl}{w w':World}{e:Ending}(hr:RanS X L G' T w e w')(h1:∀ g∈G',(g∈G∨S g)∧¬ R g)(hT:∀ k,T k→S k∧¬ R k)(h3:∀ b∈bxs,Bx X w b.1 b.2.1 b.2.2)(h4:Ch X w0 w):Step X (.tuple #[]) w0 bxs G S R L e w':=by
 rcases hr with ⟨rfl,G2,k0,k1,k2⟩|hF
 ·refine .inr ⟨rfl,G2,fun g hg=>?_,k1,fun b hb=>(h3 b hb).ch k2,h4.trans k2⟩;rcases k0 g hg with h|h
  ·exact h1 g h
  ·exact⟨.inr (hT g h).1,(hT g h).2⟩
 ·exact .inl hF
theorem at_node {X:Fx}{w0:World}{bxs:List (Nat × TypeId × List Value)}{G:List Nat}{S R R' T:Nat→Prop}{L x:List Vl}{w:World}{t:Data}{a b c u:Value}(ok:NodeOk X t)(h:At X w0 bxs G S R L w)(hN:NodeIs X.W t T [a,b,c,u])(hT:∀ k,T k→S k∧R k∧¬ R' k)(hR:∀ k,R' k→R k)(hx:x=nodeP X.iv X.ic t L.length):
  Calls Tryz.prog 101 #[.pointer (some ⟨X.p,0,none⟩),.agg #[a,b,c,u]] w fun e w'=>Step X (.tuple #[]) w0 bxs G S R' (L++x) e w':=by
 obtain⟨G',h1,h2,h3,h4⟩:=h
 subst hx;exact (ok L G' w T a b c u h2 hN fun g hg ht=>(h1 g hg).2 (hT g ht).2.1).mono fun e w' hr=>ran_step hr (fun g hg=>⟨(h1 g hg).1,fun hr=>(h1 g hg).2 (hR g hr)⟩) (fun k hk=>⟨(hT k hk).1,(hT k hk).2.2⟩) h3 h4
theorem at_block {X:Fx}{w0:World}{bxs:List (Nat × TypeId × List Value)}{G:List Nat}{S R R' T:Nat→Prop}{L x:List Vl}{w:World}{t:Data}{a b c u:Value}(ok:BlockOk X t)(h:At X w0 bxs G S R L w)(hN:NodeIs X.W t T [a,b,c,u])(hT:∀ k,T k→S k∧R k∧¬ R' k)(hR:∀ k,R' k→R k)(hx:x=seqOf X.iv X.ic (kidsOf t) L.length):
  Calls Tryz.prog 100 #[.pointer (some ⟨X.p,0,none⟩),.agg #[a,b,c,u]] w fun e w'=>Step X (.tuple #[]) w0 bxs G S R' (L++x) e w':=by
 obtain⟨G',h1,h2,h3,h4⟩:=h
 subst hx;exact (ok L G' w T a b c u h2 hN fun g hg ht=>(h1 g hg).2 (hT g ht).2.1).mono fun e w' hr=>ran_step hr (fun g hg=>⟨(h1 g hg).1,fun hr=>(h1 g hg).2 (hR g hr)⟩) (fun k hk=>⟨(hT k hk).1,(hT k hk).2.2⟩) h3 h4
theorem at_nodes {X:Fx}{w0:World}{bxs:List (Nat × TypeId × List Value)}{G:List Nat}{S R R' T:Nat→Prop}{L x:List Vl}{w:World}{ts:List Data}{ao:Option Addr}{cap:Nat}{xs:List Value}(ok:NodesOk X ts)(h:At X w0 bxs G S R L w)(hr:X.W.ownsRow 0 51 4 (.slice ao ts.length cap) ts.length xs)(hN:NodesIs X.W ts T xs)(hT:∀ k,T k→S k∧R k∧¬ R' k)(hR:∀ k,R' k→R k)(hx:x=seqOf X.iv X.ic ts L.length):
  Calls Tryz.prog 140 #[.pointer (some ⟨X.p,0,none⟩),.slice ao ts.length cap] w fun e w'=>Step X (.tuple #[]) w0 bxs G S R' (L++x) e w':=by
 obtain⟨G',h1,h2,h3,h4⟩:=h
 subst hx;exact (ok L G' w T ao cap xs h2 hr hN fun g hg ht=>(h1 g hg).2 (hT g ht).2.1).mono fun e w' hr=>ran_step hr (fun g hg=>⟨(h1 g hg).1,fun hr=>(h1 g hg).2 (hR g hr)⟩) (fun k hk=>⟨(hT k hk).1,(hT k hk).2.2⟩) h3 h4
theorem node_vals {W:World}{t:Data}{S:Nat→Prop}{a b c u:Value}(h:NodeIs W t S [a,b,c,u]):∃ ao cap,a=.int .i64 (opOf t)∧b=.int .i64 (numOf t)∧c=.string ⟨(txtOf t).toArray⟩∧u=.slice ao (kidsOf t).length cap:=by
 obtain⟨op,n,s,ks,rfl⟩:=node_node h
 obtain⟨ao,cap,xs,he,-⟩:=node_parts h
 simp at he
 obtain⟨rfl,rfl,rfl,rfl⟩:=he
 exact⟨ao,cap,rfl,rfl,rfl,rfl⟩

end Cm
end Go.Proofs.YtllbachngocmnaaGreatDoor
