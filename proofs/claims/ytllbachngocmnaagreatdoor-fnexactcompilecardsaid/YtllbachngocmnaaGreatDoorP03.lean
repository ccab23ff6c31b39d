/-
  A map whose keys are places of lists: one that is not there is not found, and is put behind the others.
-/
import Derived.Test.YtllbachngocmnaaGreatDoorP02
import Derived.LaidEqlPtr
import Derived.Laws.StructEq
import Derived.Carry
import Derived.Maps.Own
import Derived.Deep.RegionLaw
namespace Go.Proofs.YtllbachngocmnaaGreatDoor
open Go.RowKit
namespace Nd

def keyV (g:Nat)(n:Int):Value:=.agg #[.pointer (some ⟨g,0,none⟩),.int .i64 n]
def Cellsy (w:World)(g:Nat):Prop:=∃ cur,w.heap[g]?=some (.cells cur 51 (0,0))
def MapIs (w:World)(m:Nat)(G:List Nat):Prop:=∃ es clock,w.heap[m]?=some (.map es clock)∧es.size=G.length∧∀ e∈es.toList,∃ g n,e.key=keyV g n∧g∈G

theorem MapIs.lt {w:World}{m:Nat}{G:List Nat}(h:MapIs w m G):m<w.heap.size:=by
 obtain⟨es,c,h1,_⟩:=h
 exact heap_lt h1
theorem MapIs.same {w w':World}{m:Nat}{G:List Nat}(h:MapIs w m G)(hw:w'.heap[m]?=w.heap[m]?):MapIs w' m G:=by
 obtain⟨es,c,h1,h2⟩:=h
 exact⟨es,c,hw.trans h1,h2⟩
theorem MapIs.not {w:World}{m g:Nat}{G:List Nat}(h:MapIs w m G)(hg:Cellsy w g):g≠m:=by
 rintro rfl
 obtain⟨es,c,h1,_⟩:=h
 obtain⟨cur,h2⟩:=hg
 rw[h1] at h2
 cases h2
theorem mapIs_made (w:World):MapIs (w.alloc (.map #[] 0)) w.heap.size []:=⟨#[],0,heap_new _ _,rfl,fun e he=>by simp at he⟩

theorem stoodKey:Tryz.prog.stoodInHeld 195=false:=by kernel_rfl

theorem run_key_other (w:World){g g':Nat}{n n':Int}(hne:g≠g')(hg:Cellsy w g)(hg':Cellsy w g'):(Op.equal 195 (keyV g n) (keyV g' n')).run Tryz.prog w=.ok false w:=by
 obtain⟨ca,ha⟩:=hg
 obtain⟨cb,hb⟩:=hg'
 have hs:=run_sameAddr_other (P:=Tryz.prog) w (a:=⟨g,0,none⟩) (b:=⟨g',0,none⟩) (fun e=>hne (congrArg Addr.block e)) ha hb;have hp:∀ d:Nat,(Op.equalIn (d+1) 193 (.pointer (some ⟨g,0,none⟩)) (.pointer (some ⟨g',0,none⟩))).run Tryz.prog w=.ok false w:=fun d=>by
  simp[Op.equalIn,run_underlying Tryz.underlying193,hs]
 have hf:Tryz.prog.fieldsOf 195=#[{ name := "first",type:=193,offset:=0,embedded:=false,tag := "",pkgPath := "loop.example/g00289/impl",byteOffset:=0 },{ name := "size",type:=3,offset:=1,embedded:=false,tag := "",pkgPath := "loop.example/g00289/impl",byteOffset:=8 }]:=by
  simp[Program.fieldsOf,Tryz.underlying195]
 have hu:Tryz.prog.underlying 195=some (.struct (Tryz.prog.fieldsOf 195)):=by rw[hf];exact Tryz.underlying195
 have:=run_equalIn_struct (P:=Tryz.prog) w 9999 195 #[.pointer (some ⟨g,0,none⟩),.int .i64 n] #[.pointer (some ⟨g',0,none⟩),.int .i64 n'] hu stoodKey
 unfold Op.equal Op.maxDepth keyV
 rw[this,hf]
 simp[Op.eqFields,part,hp 9998]

theorem run_none (w:World){g:Nat}{n:Int}(hg:Cellsy w g):∀ (es:List MapEntry) (i:Nat),(∀ e∈es,∃ g' n',e.key=keyV g' n'∧g≠g'∧Cellsy w g')→(Instr.findAsking 195 (keyV g n) es i).run Tryz.prog w=.ok none w
 | [],i,_=>by simp[Instr.findAsking]
 | e::es,i,h=>by
  obtain⟨g',n',he,hne,hc⟩:=h e (by simp)
  have h1:=run_none w (n:=n) hg es (i+1) fun e he=>h e (by simp[he]);simp[Instr.findAsking,he,run_key_other w hne hg hc,h1]

theorem run_find (w:World){g:Nat}{n:Int}(hg:Cellsy w g)(es:List MapEntry)(h:∀ e∈es,∃ g' n',e.key=keyV g' n'∧g≠g'∧Cellsy w g'):(Instr.findKey 195 (keyV g n) es).run Tryz.prog w=.ok none w:=by
 unfold Instr.findKey
 rw[Sem.run_bind,run_underlying Tryz.underlying195 w]
 simp only[Result.andThen_ok]
 cases es with
 | nil=>simp[Instr.findNow]
 | cons e es =>
  have:Instr.findNow (TypeDesc.struct #[{ name := "first",type:=193,offset:=0,embedded:=false,tag := "",pkgPath := "loop.example/g00289/impl",byteOffset:=0 },{ name := "size",type:=3,offset:=1,embedded:=false,tag := "",pkgPath := "loop.example/g00289/impl",byteOffset:=8 }]) (keyV g n) (e::es) 0=none:=by simp[Instr.findNow,Instr.sameNow]
  rw[this]
  exact run_none w hg _ _ h

theorem run_checkKey (w:World)(em:Bool)(g:Nat)(n:Int):(Instr.checkKey em 10000 195 (keyV g n)).run Tryz.prog w=.ok () w:=by
 have h1:∀ (d:Nat) v,(Instr.checkKey em (d+1) 193 v).run Tryz.prog w=.ok () w:=fun d v=>by unfold Instr.checkKey;rw[Sem.run_bind,run_underlying Tryz.underlying193 w];simp
 have h2:∀ (d:Nat) v,(Instr.checkKey em (d+1) 3 v).run Tryz.prog w=.ok () w:=fun d v=>by unfold Instr.checkKey;rw[Sem.run_bind,run_underlying Tryz.underlying3 w];simp
 have h1:=h1 9998;have h2:=h2 9998;show (Instr.checkKey em (9999+1) 195 (keyV g n)).run Tryz.prog w=.ok () w;unfold Instr.checkKey keyV
 rw[Sem.run_bind,run_underlying Tryz.underlying195 w]
 simp[part,h1,h2]

theorem run_unseen {w:World}{m:Nat}{G:List Nat}(h:MapIs w m G)(hG:∀ g∈G,Cellsy w g){g:Nat}(n:Int)(hg:Cellsy w g)(hn:g∉G):(Instr.lookup 189 (.map (some m)) (keyV g n) false).run Tryz.prog w=.ok (.int .i64 0) w:=by
 obtain⟨es,c,h1,h2,h3⟩:=h
 have hf:=run_find w (n:=n) hg es.toList fun e he=>by
  obtain⟨g',n',e1,e2⟩:=h3 e he
  exact⟨g',n',e1,fun e=>hn (e ▸ e2),hG g' e2⟩
 unfold Instr.lookup
 rw[Sem.run_bind,run_underlying Tryz.underlying189 w]
 simp[MapKept.run_getObj_map h1,run_checkKey,hf]

theorem run_put {w:World}{m:Nat}{G:List Nat}(h:MapIs w m G)(hG:∀ g∈G,Cellsy w g){g:Nat}(n d:Int)(hg:Cellsy w g)(hn:g∉G):
  ∃ w',(Instr.mapUpdate 189 (.map (some m)) (keyV g n) (.int .i64 d)).run Tryz.prog w=.ok () w'∧MapIs w' m (G++[g])∧w.grownBy w' (some m)∧w'.heap.size=w.heap.size:=by
 have hlt:=h.lt
 obtain⟨es,c,h1,h2,h3⟩:=h
 have hf:=run_find w (n:=n) hg es.toList fun e he=>by
  obtain⟨g',n',e1,e2⟩:=h3 e he
  exact⟨g',n',e1,fun e=>hn (e ▸ e2),hG g' e2⟩
 refine⟨{ w with heap:=w.heap.set! m (.map (es.push { key:=keyV g n,val:=.int .i64 d,born:=c }) (c+1)) },?_,?_,?_,?_⟩
 ·unfold Instr.mapUpdate
  rw[Sem.run_bind,run_underlying Tryz.underlying189 w]
  simp[MapKept.run_getObj_map h1,run_checkKey,hf,MapKept.run_setObj_map _ h1]
 ·refine⟨es.push { key:=keyV g n,val:=.int .i64 d,born:=c },c+1,?_,by simp[h2],fun e he=>?_⟩
  ·simp[hlt]
  ·simp at he;rcases he with he|rfl
   ·obtain⟨g',n',e1,e2⟩:=h3 e (by simpa using he)
    exact⟨g',n',e1,by simp[e2]⟩
   ·exact⟨g,n,rfl,by simp⟩
 ·refine⟨rfl,rfl,rfl,by simp,fun k hk hne=>?_⟩
  have:m≠k:=fun e=>hne (by rw[e])
  simp[this]
 ·simp

end Nd
namespace Cm
open St (Vl encV)
open Nd Ty
open Pg (RdT idx)
open Oc (hold Blk)

abbrev nb (w:World) (op n:Int) (s:List UInt8) (g k cap:Nat):Nat × TypeId × List Value:=(w.heap.size,51,[.int .i64 op,.int .i64 n,.string ⟨s.toArray⟩,.slice (some ⟨g,0,none⟩) k cap])
def errV (a:Addr):Value:=.iface 286 (.pointer (some a))
structure Fx where
 W:World
 p:Nat
 m:Nat
 va:Option Addr
 ca:Option Addr
 vc:Nat
 cc:Nat
 vars:List ByteArray
 cells:List ByteArray
 ad:Addr
def Fx.iv (X:Fx):ByteArray→Int:=idx X.vars
def Fx.ic (X:Fx):ByteArray→Int:=idx X.cells
structure Wk (X:Fx)(ls:List Vl)(G:List Nat)(w:World):Prop where
 below:Below X.W.heap.size X.W w
 hp:X.W.heap.size≤X.p
 hm:X.W.heap.size≤X.m
 blk:∃ ao cap,Blk 90 w X.p [.slice X.va X.vars.length X.vc,.slice X.ca X.cells.length X.cc,.slice ao ls.length cap,.map (some X.m)]∧w.ownsRow X.W.heap.size 57 3 (.slice ao ls.length cap) ls.length (ls.flatMap encV)
 map:MapIs w X.m G
 hG:∀ g∈G,Cellsy X.W g
 vs:RdT X.W X.va X.vars
 cs:RdT X.W X.ca X.cells
 vn:X.vars.length≤1048576
 cn:X.cells.length≤1048576
 err:X.W.cell? ⟨1,0,none⟩=some (errV X.ad)
 len:ls.length≤1500
def RowAt (X:Fx)(w:World)(k:Nat):Prop:=∃ (ao:Option Addr) (n cap:Nat),w.cell? ⟨X.p,2,none⟩=some (.slice ao n cap)∧Value.ownBlock (.slice ao n cap)=some k
structure Ch (X:Fx)(w w':World):Prop where
 size:w.heap.size≤w'.heap.size
 own:∀ k,k<w.heap.size→k≠X.p→k≠X.m→¬ RowAt X w k→w'.heap[k]?=w.heap[k]?∧¬ RowAt X w' k
theorem Ch.refl (X:Fx)(w:World):Ch X w w:=⟨Nat.le_refl _,fun _ _ _ _ h=>⟨rfl,h⟩⟩
theorem Ch.trans {X:Fx}{a b c:World}(h:Ch X a b)(k:Ch X b c):Ch X a c :=
 ⟨Nat.le_trans h.size k.size,fun j h1 h2 h2' h3 =>
  ⟨((k.own j (Nat.lt_of_lt_of_le h1 h.size) h2 h2' (h.own j h1 h2 h2' h3).2).1).trans (h.own j h1 h2 h2' h3).1,(k.own j (Nat.lt_of_lt_of_le h1 h.size) h2 h2' (h.own j h1 h2 h2' h3).2).2⟩⟩
theorem rowAt_same {X:Fx}{k:Nat}{w w':World}(h:w'.heap[X.p]?=w.heap[X.p]?):RowAt X w' k↔RowAt X w k:=by
 have hc:w'.cell? ⟨X.p,2,none⟩=w.cell? ⟨X.p,2,none⟩:=World.cell?_of_block h;unfold RowAt
 rw[hc]
theorem ch_below {X:Fx}{w w':World}(hp:X.p<w.heap.size)(h:Below w.heap.size w w'):Ch X w w' :=
 ⟨h.size,fun k hk _ _ hr=>⟨h.block k hk,fun hr'=>hr ((rowAt_same (h.block X.p hp)).1 hr')⟩⟩
theorem rowAt_is {X:Fx}{k:Nat}{w:World}{ao:Option Addr}{n cap:Nat}(h:w.cell? ⟨X.p,2,none⟩=some (.slice ao n cap)):RowAt X w k↔Value.ownBlock (.slice ao n cap)=some k:=by
 constructor
 ·rintro⟨ao',n',cap',h1,h2⟩
  rw[h] at h1
  simp at h1
  obtain⟨rfl,rfl,rfl⟩:=h1
  exact h2
 ·exact fun h2=>⟨ao,n,cap,h,h2⟩
def Full (X:Fx)(n:Nat)(e:Ending)(w':World):Prop:=e=.panicked [{ v:=errV X.ad,recovered:=false }]∧1500<n∧Below X.W.heap.size X.W w'
def Ran (X:Fx)(v:Value)(ls:List Vl)(G:List Nat)(w:World)(e:Ending)(w':World):Prop:=(e=.returned v∧Wk X ls G w'∧Ch X w w')∨Full X ls.length e w'
def RanS (X:Fx)(ls:List Vl)(G:List Nat)(S:Nat→Prop)(w:World)(e:Ending)(w':World):Prop:=(e=.returned (.tuple #[])∧∃ G',(∀ g∈G',g∈G∨S g)∧Wk X ls G' w'∧Ch X w w')∨Full X ls.length e w'

theorem row_not {w:World}{B g p e size n cap:Nat}{T:TypeId}{ao:Option Addr}{xs ys:List Value}(hb:Blk T w p ys)(ho:w.ownsRow B e size (.slice ao n cap) n xs)(hg:Value.ownBlock (.slice ao n cap)=some g)(hT:T≠e):g≠p:=by
 rintro rfl;rcases ho.2 with ⟨h0,_⟩|⟨g',cap',cur,he,_,hh,_⟩
 ·rw[h0] at hg;simp[Value.ownBlock] at hg
 ·simp at he
  obtain⟨rfl,rfl⟩:=he
  simp[Value.ownBlock] at hg;subst hg;unfold Blk at hb
  rw[hb] at hh
  simp at hh;exact hT hh.2
theorem row_map {w:World}{B g m e size n cap:Nat}{G:List Nat}{ao:Option Addr}{xs:List Value}(hb:MapIs w m G)(ho:w.ownsRow B e size (.slice ao n cap) n xs)(hg:Value.ownBlock (.slice ao n cap)=some g):g≠m:=by
 rintro rfl;rcases ho.2 with ⟨h0,_⟩|⟨g',cap',cur,he,_,hh,_⟩
 ·rw[h0] at hg;simp[Value.ownBlock] at hg
 ·simp at he
  obtain⟨rfl,rfl⟩:=he
  simp[Value.ownBlock] at hg;subst hg
  obtain⟨es,c,h1,_⟩:=hb
  rw[h1] at hh
  cases hh
theorem blk_map {w:World}{p m:Nat}{T:TypeId}{G:List Nat}{ys:List Value}(hb:Blk T w p ys)(hm:MapIs w m G):p≠m:=by
 rintro rfl
 obtain⟨es,c,h1,_⟩:=hm
 unfold Blk at hb
 rw[h1] at hb
 cases hb
theorem Wk.later {X:Fx}{ls:List Vl}{G:List Nat}{w w':World}(h:Wk X ls G w)(hb:Below w.heap.size w w'):Wk X ls G w':=by
 obtain⟨ao,cap,h1,h2⟩:=h.blk
 exact⟨h.below.trans (hb.mono h.below.size),h.hp,h.hm,⟨ao,cap,h1.below hb,owns_same h2 fun g hg=>hb.block g (h2.lt g hg).2⟩,h.map.same (hb.block _ h.map.lt),h.hG,h.vs,h.cs,h.vn,h.cn,h.err,h.len⟩
theorem infoOpr:(Tryz.prog.info? 57).map (fun i=>(i.zero,i.size,i.bytes))=some (some (.agg #[.int .i64 0,.int .i64 0,.string ⟨#[]⟩]),3,32):=by kernel_rfl
theorem cell_three_new (w:World)(a b c:Value)(T:TypeId):∀ j x,[a,b,c][j]?=some x→(w.alloc (.cells #[a,b,c] T)).cell? ((⟨w.heap.size,0,none⟩:Addr).add j)=some x:=by
 intro j x hj;have hadd:(⟨w.heap.size,0,none⟩:Addr).add j=⟨w.heap.size,j,none⟩:=by unfold Addr.add;split <;> simp_all
 rw[hadd,cell_of_row _ _ j _ _ (0,0) (heap_alloc_new w _)]
 simpa using hj

theorem Wk.lt {X:Fx}{ls:List Vl}{G:List Nat}{w:World}(h:Wk X ls G w):X.p<w.heap.size:=by
 obtain⟨ao,cap,h1,_⟩:=h.blk
 exact h1.lt
def Bx (X:Fx)(w:World)(B:Nat)(T:TypeId)(xs:List Value):Prop:=Blk T w B xs∧B≠X.p∧B≠X.m∧¬ RowAt X w B
theorem Bx.ch {X:Fx}{w w':World}{B:Nat}{T:TypeId}{xs:List Value}(h:Bx X w B T xs)(hc:Ch X w w'):Bx X w' B T xs:=by
 have:=hc.own B h.1.lt h.2.1 h.2.2.1 h.2.2.2
 exact⟨this.1.trans h.1,h.2.1,h.2.2.1,this.2⟩
theorem Bx.new {X:Fx}{ls:List Vl}{G:List Nat}{w:World}(h:Wk X ls G w)(T:TypeId)(xs:List Value):Bx X (w.alloc (.cells xs.toArray T)) w.heap.size T xs:=by
 obtain⟨ao,cap,h1,h2⟩:=h.blk
 have hl:=h1.lt
 refine⟨Blk.new _ _ _,by omega,by have:=h.map.lt;omega,fun hr=>?_⟩
 have:=(rowAt_is ((h1.alloc _).cell 2 rfl)).1 hr
 have:=(h2.lt _ this).2
 omega
theorem Bx.cell {X:Fx}{w:World}{B:Nat}{T:TypeId}{xs:List Value}(h:Bx X w B T xs)(j:Nat){x:Value}(hx:xs[j]?=some x):w.cell? ⟨B,j,none⟩=some x:=h.1.cell j hx

set_option maxHeartbeats 1000000 in
set_option maxRecDepth 100000 in
theorem iPut {X:Fx}{ls:List Vl}{G:List Nat}{w:World}(h:Wk X ls G w)(code n:Int)(s:ByteArray):
  Calls Tryz.prog 59 #[.pointer (some ⟨X.p,0,none⟩),.int .i64 code,.int .i64 n,.string s] w fun e w'=>Ran X (.tuple #[]) (ls++[(code,n,s)]) G w e w':=by
 obtain⟨ao,cap,h1,h2⟩:=h.blk
 have q2:=h1.cell 2 rfl;have f2:=h1.frozen 2;have hl:=h.len
 by_cases hf:ls.length=1500
 ·have he:w.cell? ⟨1,0,none⟩=some (errV X.ad):=(h.below.cell (World.block_lt_of_cell? _ _ h.err)).trans h.err;unfold errV at he;have hfI:(ls.length:Int)=1500:=by omega
  have HF:Hid (Full X (ls++[(code,n,s)]).length (.panicked [{ v:=errV X.ad,recovered:=false }]) w):=⟨rfl,by simp;omega,h.below⟩;clear h h1 h2
  go_enter Tryz.func59,Tryz.ntmps59
  go_wp2_with fail
  exact⟨rfl,.inr HF.out⟩
 ·obtain⟨i0,hi0,hz0,hz1,hz2⟩:=info_parts infoOpr
  have hfI:¬ (ls.length:Int)=1500:=by omega
  have hlI:(ls.length:Int)≤1500:=by omega
  have hk64:Hid ((ls.length+1)*32≤140737488355328):=by show _≤_;omega
  have hkm:Hid (ls.length+1≤maxLen):=by show _≤_;unfold maxLen;omega
  have hown:∀ o,(w.alloc o).ownsRow X.W.heap.size 57 3 (.slice ao ls.length cap) ls.length (ls.flatMap encV):=fun o=>h2.alloc o;have hWs:X.W.heap.size≤w.heap.size:=h.below.size;have hpw:X.p<w.heap.size:=h1.lt;have hmw:X.m<w.heap.size:=h.map.lt;have hnp:Value.ownBlock (.slice ao ls.length cap)≠some X.p:=fun e=>row_not h1 h2 e (by decide) rfl;have hnm:Value.ownBlock (.slice ao ls.length cap)≠some X.m:=fun e=>row_map h.map h2 e rfl;have hpm:X.p≠X.m:=blk_map h1 h.map;have hbase:∀ g,Value.ownBlock (.slice ao ls.length cap)=some g→X.W.heap.size≤g:=fun g hg=>(h2.lt g hg).1;have H:Hid (Wk X ls G w):=h;have H1:Hid (Blk 90 w X.p [.slice X.va X.vars.length X.vc,.slice X.ca X.cells.length X.cc,.slice ao ls.length cap,.map (some X.m)]):=h1;have q2':Hid (w.cell? ⟨X.p,2,none⟩=some (.slice ao ls.length cap)):=q2;clear h h1 h2
  go_enter Tryz.func59,Tryz.ntmps59
  go_wp2_with (first|(at_builtin;refine wpList_append_own_at _ rfl _ _ 25 rfl X.W.heap.size 57 i0 _ 3 32 Tryz.underlying25 hi0 hz0 hz1 hz2 rfl (by decide) _ _ _ rfl (hown _) ⟨w.heap.size,0,none⟩ 1 1 [.int .i64 code,.int .i64 n,.string s] rfl rfl (cell_three_new _ _ _ _ _) (by simp[Value.oneCell']) hkm.out hk64.out (by simp;omega) ?_;intro v' w1 hown' hgrow hb1 hb2;obtain⟨ao',cap',rfl⟩:=owns_slice hown';have hpb:w1.heap[X.p]?=w.heap[X.p]?:=(hgrow.block X.p (by simp;omega) (Ne.symm hnp)).trans (Below.heap_alloc _ _ _ hpw);have c4:=(World.cell?_of_block (a:=⟨X.p,2,none⟩) hpb).trans q2;have f4:=(World.frozen?_of_block (a:=⟨X.p,2,none⟩) hpb).trans f2))
  have HW:Hid (Wk X (ls++[(code,n,s)]) G (w1.setCell ⟨X.p,2,none⟩ (.slice ao' (ls.length+1) cap'))):=by
   have h:=H.out;have hx:(ls++[(code,n,s)]).length=ls.length+1:=by simp
   have hg':∀ g,Value.ownBlock (.slice ao' (ls.length+1) cap')=some g→g≠X.p:=fun g hg=>by
    rcases hb2 with e|e
    ·rw[e] at hg;intro hh;rw[hh] at hg;exact hnp hg
    ·rw[e] at hg;simp at hg;omega
   refine⟨(((h.below.alloc hWs _).grown hgrow (by simp;omega) hbase).setCell h.hp _),h.hp,h.hm,⟨ao',cap',?_,?_⟩,?_,h.hG,h.vs,h.cs,h.vn,h.cn,h.err,by rw[hx];omega⟩
   ·rw[hx]
    have hb:Blk 90 w1 X.p [.slice X.va X.vars.length X.vc,.slice X.ca X.cells.length X.cc,.slice ao ls.length cap,.map (some X.m)]:=hpb.trans H1.out;exact hb.set 2 _
   ·rw[hx]
    refine owns_same (w:=w1) (by simpa [encV] using hown') fun g hg=>Below.heap_setCell _ _ _ _ ?_;exact hg' g hg
   ·refine h.map.same ((Below.heap_setCell _ _ _ _ (Ne.symm hpm)).trans ((hgrow.block X.m (by simp;omega) (Ne.symm hnm)).trans (Below.heap_alloc _ _ _ hmw)))
  have HC:Hid (Ch X w (w1.setCell ⟨X.p,2,none⟩ (.slice ao' (ls.length+1) cap'))):=by
   refine⟨Nat.le_trans (Nat.le_trans (by simp) hgrow.size) (by simp),fun k k1 k2 k3 k4=>?_⟩
   have k5:Value.ownBlock (.slice ao ls.length cap)≠some k:=fun e=>k4 ((rowAt_is q2'.out).2 e)
   refine⟨(Below.heap_setCell _ _ _ _ k2).trans ((hgrow.block k (by simp;omega) (Ne.symm k5)).trans (Below.heap_alloc _ _ _ k1)),fun hr=>?_⟩
   have hr2:=(rowAt_is (World.cell?_setCell_same _ _ _ c4)).1 hr;rcases hb2 with e|e
   ·rw[e] at hr2;exact k5 hr2
   ·rw[e] at hr2;simp at hr2;omega
  clear H H1 hown' hgrow hb1 hb2 hown hnp hnm hbase;go_wp2_with fail;refine bodyPost_end (v:=.tuple #[]) ?_ rfl (.inl ⟨rfl,HW.out,HC.out⟩);simp[results,Tryz.results59]

set_option maxRecDepth 100000 in
theorem iPutJump {X:Fx}{ls:List Vl}{G:List Nat}{w:World}(h:Wk X ls G w)(code:Int):
  Calls Tryz.prog 102 #[.pointer (some ⟨X.p,0,none⟩),.int .i64 code] w fun e w'=>Ran X (.int .i64 ls.length) (ls++[(code,0,none')]) G w e w':=by
 have hl:=h.len;have C:=iPut h code 0 none';unfold none' at C;clear h
 go_enter Tryz.func102,Tryz.ntmps102
 go_wp2_with (go_at_call 59;refine hold ?_)
 refine Calls.mono C ?_;rintro e w2 (⟨rfl,hW,hC⟩|⟨rfl,hn,hB⟩)
 ·obtain⟨ao,cap,h1,h2⟩:=hW.blk
  have q2:=h1.cell 2 rfl;have hx:(ls++[(code,(0:Int),(⟨#[]⟩:ByteArray))]).length=ls.length+1:=by simp
  rw[hx] at q2
  have hlI:(ls.length:Int)≤1500:=by omega
  have HW:Hid _:=hW;clear h1 h2 hW;go_wp2_with fail;go_ret;exact .inl ⟨by simp,HW.out,hC⟩
 ·go_wp2_with fail
  exact⟨rfl,.inr ⟨rfl,hn,hB⟩⟩

theorem flat_at {l1 l2:List Vl}{x:Vl}:(l1++x::l2).flatMap encV=l1.flatMap encV++(.int .i64 x.1::.int .i64 x.2.1::.string x.2.2::l2.flatMap encV):=by simp[encV]
theorem flat_len:∀ l1:List Vl,(l1.flatMap encV).length=l1.length*3
 | []=>rfl
 | x::l=>by simp[encV,flat_len l];omega
theorem flat_set (l1 l2:List Vl)(c n m:Int)(s:ByteArray):((l1++(c,n,s)::l2).flatMap encV).set (l1.length*3+1) (.int .i64 m)=(l1++(c,m,s)::l2).flatMap encV:=by
 rw[flat_at,flat_at,← flat_len l1,List.set_append_right _ _ (by omega)]
 simp

set_option maxHeartbeats 1000000 in
set_option maxRecDepth 100000 in
theorem iLand {X:Fx}{l1 l2:List Vl}{c n:Int}{s:ByteArray}{G:List Nat}{w:World}(h:Wk X (l1++(c,n,s)::l2) G w):
  Calls Tryz.prog 103 #[.pointer (some ⟨X.p,0,none⟩),.int .i64 l1.length] w fun e w'=>e=.returned (.tuple #[])∧Wk X (l1++(c,((l1++(c,n,s)::l2).length:Int),s)::l2) G w'∧Ch X w w':=by
 obtain⟨ao,cap,h1,h2⟩:=h.blk
 have q2:=h1.cell 2 rfl;have hl:=h.len;have hlen:(l1++(c,n,s)::l2).length=l1.length+1+l2.length:=by simp;omega
 obtain⟨N,hN⟩:∃ N,N=(l1++(c,n,s)::l2).length:=⟨_,rfl⟩
 have hlt:l1.length<N:=by omega
 obtain⟨g,rfl,hgl,hcs⟩:=row_cells h2 (show l1.length<(l1++(c,n,s)::l2).length by omega)
 have q5:=hcs (l1.length*3+1) (.int .i64 n) (by rw[flat_at,List.getElem?_append_right (by rw[flat_len];omega),flat_len];simp);have fz:=h2.frozenAt (l1.length*3+1);have hgp:g≠X.p:=row_not h1 h2 rfl (by decide);have hgm:g≠X.m:=row_map h.map h2 rfl;have hgb:X.W.heap.size≤g:=(h2.lt g rfl).1
 rw[← hN] at q2 h1 h2
 have HW:Hid (Wk X (l1++(c,(N:Int),s)::l2) G (w.drew.setCell ⟨g,l1.length*3+1,none⟩ (.int .i64 N))):=by
  have hx:(l1++(c,(N:Int),s)::l2).length=N:=by rw[hN];simp
  have h2d:w.drew.ownsRow X.W.heap.size 57 3 (.slice (some ⟨g,0,none⟩) N cap) N ((l1++(c,n,s)::l2).flatMap encV):=h2.drew;have hst:=(h2d.stored (l1.length*3+1) (.int .i64 N)).1
  rw[flat_set] at hst
  have hb:Below w.heap.size w w.drew:=(Below.refl _ _).drew
  refine⟨(h.below.trans (hb.mono h.below.size)).setCell hgb _,h.hp,h.hm,⟨some ⟨g,0,none⟩,cap,?_,?_⟩,?_,h.hG,h.vs,h.cs,h.vn,h.cn,h.err,by rw[hx];omega⟩
  ·rw[hx];exact (h1.below hb).other (Ne.symm hgp) _ _
  ·rw[hx];exact hst
  ·exact h.map.same (Below.heap_setCell _ _ _ _ (Ne.symm hgm))
 have HC:Hid (Ch X w (w.drew.setCell ⟨g,l1.length*3+1,none⟩ (.int .i64 N))):=by
  have hpb:(w.drew.setCell ⟨g,l1.length*3+1,none⟩ (.int .i64 N)).heap[X.p]?=w.heap[X.p]?:=Below.heap_setCell w.drew ⟨g,l1.length*3+1,none⟩ (.int .i64 N) X.p (Ne.symm hgp)
  exact⟨by show w.heap.size≤(w.setCell ⟨g,l1.length*3+1,none⟩ (.int .i64 N)).heap.size;simp,fun k k1 k2 k3 k4=>⟨Below.heap_setCell w.drew ⟨g,l1.length*3+1,none⟩ (.int .i64 N) k (fun e=>k4 ((rowAt_is q2).2 (by show some g=some k;rw[show k=g from e]))),fun hr=>k4 ((rowAt_same hpb).1 hr)⟩⟩
 have hlI:(l1.length:Int)<N:=by omega
 have hNI:(N:Int)≤1500:=by omega
 rw[← hN]
 clear h h1 h2 hcs hN hlen hl hlt
 go_enter Tryz.func103,Tryz.ntmps103
 go_region_with fail
 all_goals refine bodyPost_end (v:=.tuple #[]) ?_ rfl ⟨rfl,HW.out,HC.out⟩
 all_goals simp[results,Tryz.results103]

end Cm
namespace Cm
open St (Vl encV)
open Nd Ty
open Pg (RdT idx)
open Oc (hold Blk)

theorem node_parts {W:World}{op n:Int}{s:List UInt8}{ks:List Data}{S:Nat→Prop}{cs:List Value}(h:NodeIs W (nd op n s ks) S cs):
  ∃ ao cap xs,cs=[.int .i64 op,.int .i64 n,.string ⟨s.toArray⟩,.slice ao ks.length cap]∧W.ownsRow 0 51 4 (.slice ao ks.length cap) ks.length xs∧(∀ g,Value.ownBlock (.slice ao ks.length cap)=some g→S g)∧NodesIs W ks (fun k=>S k∧Value.ownBlock (.slice ao ks.length cap)≠some k) xs:=by
 obtain⟨v,xs,rfl,h1,h2,h3⟩:=node_nd.1 h
 obtain⟨ao,cap,rfl⟩:=owns_slice h1
 exact⟨ao,cap,xs,rfl,h1,h2,h3⟩
structure Two (W:World)(op n:Int)(s:List UInt8)(k0 k1:Data)(S:Nat→Prop)(cs:List Value)(g cap:Nat)(x0 x1 x2 x3 y0 y1 y2 y3:Value)(S0 S1:Nat→Prop):Prop where
 val:cs=[.int .i64 op,.int .i64 n,.string ⟨s.toArray⟩,.slice (some ⟨g,0,none⟩) 2 cap]
 lt:g<W.heap.size
 own:S g
 c0:W.cell? ⟨g,0,none⟩=some x0
 c1:W.cell? ⟨g,1,none⟩=some x1
 c2:W.cell? ⟨g,2,none⟩=some x2
 c3:W.cell? ⟨g,3,none⟩=some x3
 d0:W.cell? ⟨g,4,none⟩=some y0
 d1:W.cell? ⟨g,5,none⟩=some y1
 d2:W.cell? ⟨g,6,none⟩=some y2
 d3:W.cell? ⟨g,7,none⟩=some y3
 k0:NodeIs W k0 S0 [x0,x1,x2,x3]
 k1:NodeIs W k1 S1 [y0,y1,y2,y3]
 s0:∀ k,S0 k→S k∧¬ S1 k
 s1:∀ k,S1 k→S k
theorem kids2 {W:World}{op n:Int}{s:List UInt8}{k0 k1:Data}{S:Nat→Prop}{cs:List Value}(h:NodeIs W (nd op n s [k0,k1]) S cs):∃ g cap x0 x1 x2 x3 y0 y1 y2 y3 S0 S1,Two W op n s k0 k1 S cs g cap x0 x1 x2 x3 y0 y1 y2 y3 S0 S1:=by
 obtain⟨ao,cap,xs,rfl,h1,h2,h3⟩:=node_parts h
 obtain⟨S0,T,c1,c2,rfl,hk0,⟨S1,T2,d1,d2,rfl,hk1,he,hs1,hs2⟩,hs0,hsT⟩:=h3
 obtain⟨g,e,hg,hc⟩:=row_cells h1 (show 0<_ by simp)
 subst e;simp only[NodesIs] at he;subst he;have l1:=node_len hk0;have l2:=node_len hk1
 match c1,l1,d1,l2 with
 | [x0,x1,x2,x3],_,[y0,y1,y2,y3],_ =>
  exact⟨g,cap,x0,x1,x2,x3,y0,y1,y2,y3,S0,S1,rfl,hg,h2 g rfl,hc 0 _ rfl,hc 1 _ rfl,hc 2 _ rfl,hc 3 _ rfl,hc 4 _ rfl,hc 5 _ rfl,hc 6 _ rfl,hc 7 _ rfl,hk0,hk1,fun k hk=>⟨(hs0 k hk).1.1,fun h=>(hs0 k hk).2 (hs1 k h).1⟩,fun k hk=>(hsT k (hs1 k hk).1).1⟩
theorem kids3 {W:World}{op n:Int}{s:List UInt8}{k0 k1 k2:Data}{S:Nat→Prop}{cs:List Value}(h:NodeIs W (nd op n s [k0,k1,k2]) S cs):∃ g cap x0 x1 x2 x3 y0 y1 y2 y3 z0 z1 z2 z3 S0 S1 S2,cs=[.int .i64 op,.int .i64 n,.string ⟨s.toArray⟩,.slice (some ⟨g,0,none⟩) 3 cap]∧g<W.heap.size ∧
  W.cell? ⟨g,0,none⟩=some x0∧W.cell? ⟨g,1,none⟩=some x1∧W.cell? ⟨g,2,none⟩=some x2∧W.cell? ⟨g,3,none⟩=some x3∧W.cell? ⟨g,4,none⟩=some y0∧W.cell? ⟨g,5,none⟩=some y1∧W.cell? ⟨g,6,none⟩=some y2∧W.cell? ⟨g,7,none⟩=some y3∧W.cell? ⟨g,8,none⟩=some z0∧W.cell? ⟨g,9,none⟩=some z1∧W.cell? ⟨g,10,none⟩=some z2∧W.cell? ⟨g,11,none⟩=some z3 ∧
  NodeIs W k0 S0 [x0,x1,x2,x3]∧NodeIs W k1 S1 [y0,y1,y2,y3]∧NodeIs W k2 S2 [z0,z1,z2,z3]∧(∀ k,S0 k→S k∧¬ S1 k∧¬ S2 k)∧(∀ k,S1 k→S k∧¬ S2 k)∧(∀ k,S2 k→S k):=by
 obtain⟨ao,cap,xs,rfl,h1,h2,h3⟩:=node_parts h
 obtain⟨S0,T,c1,c2,rfl,hk0,⟨S1,T2,d1,d2,rfl,hk1,⟨S2,T3,e1,e2,rfl,hk2,he,hu1,hu2⟩,hs1,hs2⟩,hs0,hsT⟩:=h3
 obtain⟨g,e,hg,hc⟩:=row_cells h1 (show 0<_ by simp)
 subst e;simp only[NodesIs] at he;subst he;have l1:=node_len hk0;have l2:=node_len hk1;have l3:=node_len hk2
 match c1,l1,d1,l2,e1,l3 with
 | [x0,x1,x2,x3],_,[y0,y1,y2,y3],_,[z0,z1,z2,z3],_ =>
  exact⟨g,cap,x0,x1,x2,x3,y0,y1,y2,y3,z0,z1,z2,z3,S0,S1,S2,rfl,hg,hc 0 _ rfl,hc 1 _ rfl,hc 2 _ rfl,hc 3 _ rfl,hc 4 _ rfl,hc 5 _ rfl,hc 6 _ rfl,hc 7 _ rfl,hc 8 _ rfl,hc 9 _ rfl,hc 10 _ rfl,hc 11 _ rfl,hk0,hk1,hk2,
   fun k hk=>⟨(hs0 k hk).1.1,fun h=>(hs0 k hk).2 (hs1 k h).1,fun h=>(hs0 k hk).2 (hs2 k (hu1 k h).1)⟩,fun k hk=>⟨(hsT k (hs1 k hk).1).1,fun h=>(hs1 k hk).2 (hu1 k h).1⟩,fun k hk=>(hsT k (hs2 k (hu1 k hk).1)).1⟩

def NodeOk (X:Fx)(t:Data):Prop:=∀ (ls:List Vl) (G:List Nat) (w:World) (S:Nat→Prop) (a b c u:Value),Wk X ls G w→NodeIs X.W t S [a,b,c,u]→(∀ g∈G,¬ S g) →
 Calls Tryz.prog 101 #[.pointer (some ⟨X.p,0,none⟩),.agg #[a,b,c,u]] w fun e w'=>RanS X (ls++nodeP X.iv X.ic t ls.length) G S w e w'
def BlockOk (X:Fx)(t:Data):Prop:=∀ (ls:List Vl) (G:List Nat) (w:World) (S:Nat→Prop) (a b c u:Value),Wk X ls G w→NodeIs X.W t S [a,b,c,u]→(∀ g∈G,¬ S g) →
 Calls Tryz.prog 100 #[.pointer (some ⟨X.p,0,none⟩),.agg #[a,b,c,u]] w fun e w'=>RanS X (ls++seqOf X.iv X.ic (kidsOf t) ls.length) G S w e w'
def NodesOk (X:Fx)(ts:List Data):Prop:=∀ (ls:List Vl) (G:List Nat) (w:World) (S:Nat→Prop) (ao:Option Addr) (cap:Nat) (xs:List Value),Wk X ls G w→X.W.ownsRow 0 51 4 (.slice ao ts.length cap) ts.length xs→NodesIs X.W ts S xs→(∀ g∈G,¬ S g) →
 Calls Tryz.prog 140 #[.pointer (some ⟨X.p,0,none⟩),.slice ao ts.length cap] w fun e w'=>RanS X (ls++seqOf X.iv X.ic ts ls.length) G S w e w'

theorem Wk.cell {X:Fx}{ls:List Vl}{G:List Nat}{w:World}(h:Wk X ls G w){g j:Nat}{x:Value}(hx:X.W.cell? ⟨g,j,none⟩=some x):w.cell? ⟨g,j,none⟩=some x:=(h.below.cell (World.block_lt_of_cell? _ _ hx)).trans hx
theorem drop_node {w:World}{l:List Data}{q:Nat}(hql:q<l.length){Sq:Nat→Prop}{c1:List Value}(h:NodesIs w (l.drop q) Sq (c1.drop (q*4))):
  ∃ (T1 T2:Nat→Prop) (a b c u:Value),NodeIs w l[q] T1 [a,b,c,u]∧NodesIs w (l.drop (q+1)) T2 (c1.drop ((q+1)*4))∧(∀ k,T1 k→Sq k∧¬ T2 k)∧(∀ k,T2 k→Sq k)∧c1[q*4]?=some a∧c1[q*4+1]?=some b∧c1[q*4+2]?=some c∧c1[q*4+3]?=some u:=by
 rw[List.drop_eq_getElem_cons hql] at h
 obtain⟨T1,T2,d1,d2,hdd,hT1,hT2,hT12,hT2q⟩:=h
 have hd1:=node_len hT1;have hd2:d2=c1.drop ((q+1)*4):=by
  have h4:(d1++d2).drop 4=d2:=by rw[← hd1];exact List.drop_left
  rw[← h4,← hdd,List.drop_drop,show (q+1)*4=q*4+4 by omega]
 match d1,hd1 with
 | [a,b,c,u],_ =>
  have hx:∀ j v,([a,b,c,u]:List Value)[j]?=some v→c1[q*4+j]?=some v:=fun j v hj=>by
   have:(c1.drop (q*4))[j]?=some v:=by rw[hdd,List.getElem?_append_left (by simpa using (List.getElem?_eq_some_iff.1 hj).1)];exact hj
   simpa using this
  exact⟨T1,T2,a,b,c,u,hT1,by rw[← hd2];exact hT2,hT12,hT2q,hx 0 _ rfl,hx 1 _ rfl,hx 2 _ rfl,hx 3 _ rfl⟩

set_option maxHeartbeats 1000000 in
set_option maxRecDepth 100000 in
theorem iNodes {X:Fx}{ts:List Data}(hk:∀ t∈ts,NodeOk X t)(hn:ts.length≤1048577):NodesOk X ts:=by
 intro ls G w S ao cap xs hW hrow hN hG;have bn:(ts.length:Int)≤1048577:=by omega
 have HROW:Hid (X.W.ownsRow 0 51 4 (.slice ao ts.length cap) ts.length xs):=hrow;have HK:Hid (∀ t∈ts,NodeOk X t):=hk;clear hn hrow hk
 go_enter Tryz.func140,Tryz.ntmps140
 go_wp2_with fail
 go_loopw [5,8] (fun _ i wr=>∃ k:Nat,k≤ts.length∧i=.int .i64 k∧Hid (∃ Sq G',NodesIs X.W (ts.drop k) Sq (xs.drop (k*4))∧(∀ k,Sq k→S k)∧(∀ g∈G',g∈G∨S g)∧(∀ g∈G',¬ Sq g)∧Wk X (ls++seqOf X.iv X.ic (ts.take k) ls.length) G' wr∧Ch X w wr)) (fun _ i _=>ts.length - (intOf i).toNat)
 case atStart=>exact⟨0,Nat.zero_le _,rfl,S,G,by simpa using hN,fun _ h=>h,fun g hg=>.inl hg,hG,by simpa [seqOf_nil] using hW,Ch.refl _ _⟩
 case round =>
  obtain⟨k,hkn,rfl,HH⟩:=hrel
  clear hN hW hG
  by_cases hkl:k<ts.length
  ·obtain⟨Sq,G',h1,h2,h3,h4,h5,h6⟩:=HH.out
   obtain⟨T1,T2,a,b,c,u,i1,i2,i3,i4,e0,e1,e2,e3⟩:=drop_node hkl h1
   obtain⟨g,rfl,hg,hc⟩:=row_cells HROW.out hkl
   have c0:=h5.cell (hc _ _ e0);have c1:=h5.cell (hc _ _ e1);have c2:=h5.cell (hc _ _ e2);have c3:=h5.cell (hc _ _ e3);have bk:(k:Int)<ts.length:=by omega
   obtain⟨op',n',s',ks',ht'⟩:=node_node i1
   rw[ht'] at i1
   obtain⟨ao',cap',xs',he',-⟩:=node_parts i1
   simp at he'
   obtain⟨rfl,rfl,rfl,rfl⟩:=he'
   rw[← ht'] at i1
   obtain⟨wa,hwa⟩:∃ wa,wa=wr.alloc (.cells #[.int .i64 op',.int .i64 n',.string ⟨s'.toArray⟩,.slice ao' ks'.length cap'] 51):=⟨_,rfl⟩
   have hba:Below wr.heap.size wr wa:=by rw[hwa];exact (Below.refl _ _).alloc (Nat.le_refl _) _
   have call:=HK.out ts[k] (List.getElem_mem hkl) _ G' wa T1 _ _ _ _ (h5.later hba) i1 (fun g hg hT=>h4 g hg (i3 g hT).1);have hsk:=seqOf_take X.iv X.ic (List.getElem?_eq_getElem hkl) ls.length;have hsl:=seqOf_len X.iv X.ic ts (k+1) ls.length;have HS:Hid ((ls++seqOf X.iv X.ic (ts.take k) ls.length)++nodeP X.iv X.ic ts[k] (ls++seqOf X.iv X.ic (ts.take k) ls.length).length=ls++seqOf X.iv X.ic (ts.take (k+1)) ls.length):=by
    show _=_
    rw[hsk,List.length_append,List.append_assoc]
   rw[HS.out] at call
   have CALL:Hid _:=call;have HC:Hid (Ch X w wa):=h6.trans (ch_below h5.lt hba);have HF:Hid ((ls++seqOf X.iv X.ic (ts.take (k+1)) ls.length).length≤(ls++seqOf X.iv X.ic ts ls.length).length):=by show _≤_;rw[List.length_append,List.length_append];omega
   have HI:Hid (NodesIs X.W (ts.drop (k+1)) T2 (xs.drop ((k+1)*4))∧(∀ k,T2 k→S k)∧(∀ k,T1 k→S k∧¬ T2 k)∧(∀ g∈G',(g∈G∨S g)∧¬ T2 g)):=⟨i2,fun k hk=>h2 k (i4 k hk),fun k hk=>⟨h2 k (i3 k hk).1,(i3 k hk).2⟩,fun g hg=>⟨h3 g hg,fun hT=>h4 g hg (i4 g hT)⟩⟩;clear HH h1 h2 h3 h4 h5 h6 i1 i2 i3 i4 hc e0 e1 e2 e3 hsk hsl hba call ht' HS
   go_wp2_with (go_at_call 101;refine hold ?_)
   rw[← hwa]
   clear hwa;refine Calls.mono CALL.out ?_;rintro e w2 (⟨rfl,G2,hG2,hW2,hC2⟩|⟨rfl,hn,hB⟩)
   ·have HR:Hid (∃ Sq G',NodesIs X.W (ts.drop (k+1)) Sq (xs.drop ((k+1)*4))∧(∀ k,Sq k→S k)∧(∀ g∈G',g∈G∨S g)∧(∀ g∈G',¬ Sq g)∧Wk X (ls++seqOf X.iv X.ic (ts.take (k+1)) ls.length) G' w2∧Ch X w w2):=by
     obtain⟨j1,j2,j3,j4⟩:=HI.out
     refine⟨T2,G2,j1,j2,fun g hg=>?_,fun g hg=>?_,hW2,HC.out.trans hC2⟩
     ·rcases hG2 g hg with h|h
      ·exact (j4 g h).1
      ·exact .inr (j3 g h).1
     ·rcases hG2 g hg with h|h
      ·exact (j4 g h).2
      ·exact (j3 g h).2
    clear HI hW2 hC2 hG2 HC CALL;go_wp2_with fail;go_roundw
    case rel=>exact⟨k+1,hkl,by go_num,HR⟩
    case measure=>simp[intOf];omega
   ·clear CALL HI HC;go_wp2_with fail
    exact⟨rfl,.inr ⟨rfl,by have:=HF.out;omega,hB⟩⟩
  ·obtain rfl:k=ts.length:=by omega
   go_wp2_with fail;refine bodyPost_end (v:=.tuple #[]) ?_ rfl ?_
   ·simp[results,Tryz.results140]
   ·obtain⟨Sq,G',h1,h2,h3,h4,h5,h6⟩:=HH.out
    rw[List.take_length] at h5
    exact .inl ⟨rfl,G',h3,h5,h6⟩

end Cm
end Go.Proofs.YtllbachngocmnaaGreatDoor
