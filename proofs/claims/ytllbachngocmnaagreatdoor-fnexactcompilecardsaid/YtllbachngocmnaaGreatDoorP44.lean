/-
  The law FnExactOpsOk, at every list of places and both numbers.
-/
import Derived.Test.YtllbachngocmnaaGreatDoorP43
namespace Go.Proofs.YtllbachngocmnaaGreatDoor
open Go.RowKit
namespace Oc
open St (Vl RdV)

def patB (s:ByteArray):Bool:=(Rx.parseV s).isSome

theorem sl_of {w:World}{base e size n:Nat}{v:Value}{xs:List Value}(h:w.ownsRow base e size v n xs):∃ (ao:Option Addr) (n' cap':Nat),v=.slice ao n' cap':=by
 rcases h.2 with ⟨hn,_⟩|⟨g,cap,cur,hv,_⟩
 ·exact⟨_,_,_,hn⟩
 ·exact⟨_,_,_,hv⟩
theorem told_of {f:Nat}{s:ByteArray}{w:World}(h:Calls Tryz.prog f #[.string s] w fun e w'=>Rx.RexOut (Rx.parseV s) w e w'):Told f (patB s) s w:=by
 refine h.mono ?_;intro e w'' hR;unfold patB;unfold Rx.RexOut at hR
 cases hp:Rx.parseV s with
 | none=>rw[hp] at hR;obtain⟨rfl,hb''⟩:=hR;exact⟨⟨_,_,_,_,_,_,_,rfl⟩,hb''⟩
 | some tr =>
  rw[hp] at hR
  obtain⟨a,b,c,d,u,rfl,hb'',hI⟩:=hR
  obtain⟨op,cc,st,no,ks,rfl⟩:=Rx.rex_node hI
  rw[Rx.rex_nd] at hI
  obtain⟨v,ys,he,ho',-⟩:=hI
  simp at he
  obtain⟨rfl,rfl,rfl,rfl,rfl⟩:=he
  obtain⟨ao',n',cap',rfl⟩:=sl_of ho'
  exact⟨⟨_,_,_,_,_,_,_,rfl⟩,hb''⟩
theorem parseI:ParseI patB:=fun s w a b hS hs=>told_of (Rx.iRexParse s b w hS.2 (by omega))
theorem parseS:ParseS patB:=fun s w=>told_of (Rx.sRexParse s w)

end Oc
namespace Cm
open St (Vl encV RdV)
open Nd Ty Ck
open Pg (RdT SmT idx progB)
open Oc (hold Blk SmV)

def nmV (rs:List Ru):List ByteArray:=(ascS (Ck.varsIn (allOf rs))).map tx
def nmC (rs:List Ru):List ByteArray:=(ascS (Ck.cellsIn (allOf rs))).map tx
def begN:List Ru→Nat
 | []=>0
 | r::_=>if r.1=1 then 1 else 0
def stV (rs:List Ru):List Vl:=rulesP (idx (nmV rs)) (idx (nmC rs)) (rs.take (begN rs)) 0++[(36,0,none')]
def mnV (rs:List Ru):List Vl:=rulesP (idx (nmV rs)) (idx (nmC rs)) (rs.drop (begN rs)) 0++[(36,0,none')]
def okV (rs:List Ru):Bool:=progB Oc.patB (nmV rs) (nmC rs) (stV rs) (mnV rs)
theorem ops_nil (P:ByteArray→Bool)(a b:Int):Oc.opsB P [] a b=false:=by simp[Oc.opsB]
theorem ops_long {P:ByteArray→Bool}{l:List Vl}{a b:Int}(h:1500<l.length):Oc.opsB P l a b=false:=by
 unfold Oc.opsB
 rw[decide_eq_false (by omega)]
 rfl
def Pl (L:List Vl)(B:Nat)(w:World)(v:Value):Prop:=(w.ownsRow B 57 3 v L.length (L.flatMap encV)∧L.length≤1500)∨(v=.slice none 0 0∧1500<L.length)
def cutL (L:List Vl):List Vl:=if 1500<L.length then [] else L
theorem ops_cut (P:ByteArray→Bool)(L:List Vl)(a b:Int):Oc.opsB P (cutL L) a b=Oc.opsB P L a b:=by
 unfold cutL
 split
 ·rename_i h;rw[ops_nil,ops_long h]
 ·rfl
theorem pl_read {L:List Vl}{B:Nat}{w:World}{v:Value}(h:Pl L B w v)(hs:∀ x∈L,SmV x):∃ ao cap,v=.slice ao (cutL L).length cap∧RdV w ao (cutL L)∧(cutL L).length≤1500∧∀ x∈cutL L,SmV x:=by
 rcases h with ⟨h1,h2⟩|⟨rfl,h2⟩
 ·have e:cutL L=L:=by unfold cutL;rw[if_neg (by omega)]
  rw[e]
  obtain⟨ao,cap,rfl⟩:=owns_slice h1
  refine⟨ao,cap,rfl,fun i x hi=>?_,h2,hs⟩
  have hl:i<L.length:=(List.getElem?_eq_some_iff.1 hi).1
  obtain⟨g,rfl,hg,hc⟩:=row_cells h1 hl
  have hL:L=L.take i++x::L.drop (i+1):=by
   have:=(List.getElem?_eq_some_iff.1 hi).2
   rw[← this,← List.drop_eq_getElem_cons hl,List.take_append_drop]
  have hti:(L.take i).length=i:=by rw[List.length_take];omega
  have hcell:∀ j y,([.int .i64 x.1,.int .i64 x.2.1,.string x.2.2]:List Value)[j]?=some y→w.cell? ⟨g,i*3+j,none⟩=some y:=fun j y hj=>by
   refine hc _ _ ?_
   rw[hL,flat_at,List.getElem?_append_right (by rw[flat_len,hti];omega),flat_len,hti,show i*3+j - i*3=j by omega]
   have hj3:j<3:=by simpa using (List.getElem?_eq_some_iff.1 hj).1
   rw[show (Value.int .i64 x.1::Value.int .i64 x.2.1::Value.string x.2.2::(L.drop (i+1)).flatMap encV)=[.int .i64 x.1,.int .i64 x.2.1,.string x.2.2]++(L.drop (i+1)).flatMap encV from rfl,List.getElem?_append_left (by simpa using hj3)]
   exact hj
  have hm:=hs x (List.mem_of_getElem? hi)
  refine⟨g,0,rfl,hg,?_,?_,?_,?_⟩
  ·unfold SmV at hm;unfold maxLen;omega
  ·simpa using hcell 0 _ rfl
  ·simpa using hcell 1 _ rfl
  ·simpa using hcell 2 _ rfl
 ·have e:cutL L=[]:=by unfold cutL;rw[if_pos h2]
  rw[e]
  exact⟨none,0,rfl,fun i x hi=>by simp at hi,by simp,fun x hx=>by simp at hx⟩
theorem places_pl {L:List Vl}{w w':World}{e:Ending}(h:PlacesOut L w e w'):∃ ao n cap,e=.returned (.slice ao n cap)∧Pl L w.heap.size w' (.slice ao n cap)∧Below w.heap.size w w':=by
 obtain⟨v,rfl,hb,h⟩:=h
 rcases h with ⟨h1,h2⟩|⟨rfl,h2⟩
 ·obtain⟨ao,cap,rfl⟩:=owns_slice h1
  exact⟨ao,_,cap,rfl,.inl ⟨h1,h2⟩,hb⟩
 ·exact⟨none,0,0,rfl,.inr ⟨rfl,h2⟩,hb⟩

end Cm
namespace Cm
open St (Vl encV RdV)
open Nd Ty Ck
open Pg (RdT SmT idx progB)
open Oc (hold Blk SmV)

theorem ret_comp {fn:Func}{K J:Nat}{R:Ending→World→Prop}{a:Act}{W:World}{B:Nat}{v0 v1 v2 v3 c:Value}(hf:fn.results=#[.cell K 27,.tmp J])(ht:a.tmps[K]?=some (.pointer (some ⟨B,0,none⟩)))(hj:a.tmps[J]?=some c)(hd:a.defers=[])
  (hV:Blk 27 W B [v0,v1,v2,v3]) (hR:R (.returned (.tuple #[.agg #[v0,v1,v2,v3],c])) W):bodyPost Tryz.prog fn R .ret a W:=by
 have x0:=hV.cell 0 rfl;have x1:=hV.cell 1 rfl;have x2:=hV.cell 2 rfl;have x3:=hV.cell 3 rfl;refine bodyPost_ret ?_ hd hR;simp[results,hf,ht,hj,go_sem,x0,x1,x2,x3]

theorem owns_cap {w:World}{B s g n cap:Nat}{T:TypeId}{xs:List Value}(h:w.ownsRow B T s (.slice (some ⟨g,0,none⟩) n cap) n xs):n≤cap∧cap≤maxLen:=by
 rcases h.2 with ⟨h0,_⟩|⟨g',cap',cur,hv,_,_,hc,hm,_⟩
 ·simp at h0
 ·simp at hv
  obtain⟨rfl,rfl⟩:=hv
  exact⟨hc,hm⟩
theorem ap_take {w:World}:∀ (q:Nat) {rs:List Ru} {S:Nat→Prop} {xs:List Value},RulesAp w rs S xs→RulesAp w (rs.take q) S (xs.take (q*9))
 | 0,rs,S,xs,_=>by simp[RulesAp]
 | q+1,[],S,xs,h=>by
  simp only[RulesAp] at h;subst h;simp[RulesAp]
 | q+1,r::rs,S,xs,h=>by
  obtain⟨p0,p1,p2,p3,b0,b1,b2,b3,c,Sp,Sb,Sr,hx,h1,h2,h3,k1,k2,k3⟩:=h
  subst hx
  refine⟨p0,p1,p2,p3,b0,b1,b2,b3,c.take (q*9),Sp,Sb,Sr,?_,h1,h2,ap_take q h3,k1,k2,k3⟩
  rw[show (q+1)*9=q*9+9 by omega]
  rfl
theorem ap_drop {w:World}:∀ (q:Nat) {rs:List Ru} {S:Nat→Prop} {xs:List Value},RulesAp w rs S xs→∃ S',RulesAp w (rs.drop q) S' (xs.drop (q*9))∧∀ k,S' k→S k
 | 0,rs,S,xs,h=>⟨S,by simpa using h,fun _ h=>h⟩
 | q+1,[],S,xs,h=>by
  simp only[RulesAp] at h;subst h
  exact⟨S,by simp[RulesAp],fun _ h=>h⟩
 | q+1,r::rs,S,xs,h=>by
  obtain⟨p0,p1,p2,p3,b0,b1,b2,b3,c,Sp,Sb,Sr,hx,h1,h2,h3,k1,k2,k3⟩:=h
  subst hx
  obtain⟨S',h4,h5⟩:=ap_drop q h3
  refine⟨S',?_,fun k hk=>k3 k (h5 k hk)⟩
  rw[show (q+1)*9=q*9+9 by omega]
  exact h4
theorem beg_le (rs:List Ru):begN rs≤rs.length:=by
 cases rs with
 | nil=>simp[begN]
 | cons r rs=>simp only[begN,List.length_cons];split <;> omega
theorem name_small {rs:List Ru}(hsz:sizR rs≤1048576){x:Data}(hx:SubR rs x):(txtOf x).length≤1048576:=by
 obtain⟨r,hr,h⟩:=hx
 have h1:=sizR_mem hr;rcases h with h|h
 ·have:=sub_siz (cnt r.2.1) r.2.1 (Nat.le_refl _) x h;omega
 ·have:=sub_siz (cnt r.2.2) r.2.2 (Nat.le_refl _) x h;omega
theorem nmV_small {rs:List Ru}(hsz:sizR rs≤1048576):∀ s∈ascS (Ck.varsIn (allOf rs)),s.length≤1048576:=fun s hs=>by
 obtain⟨x,hx,he⟩:=List.mem_filterMap.1 (ascS_mem.1 hs)
 unfold Ck.varN at he
 split at he
 ·cases he;exact name_small hsz (mem_allOf.1 hx)
 ·cases he
theorem nmC_small {rs:List Ru}(hsz:sizR rs≤1048576):∀ s∈ascS (Ck.cellsIn (allOf rs)),s.length≤1048576:=fun s hs=>by
 obtain⟨x,hx,he⟩:=List.mem_filterMap.1 (ascS_mem.1 hs)
 unfold Ck.cellN at he
 split at he
 ·cases he;exact name_small hsz (mem_allOf.1 hx)
 ·cases he
theorem smV_names {rs:List Ru}(hsz:sizR rs≤1048576):(∀ s∈nmV rs,SmT s)∧(∀ s∈nmC rs,SmT s):=by
 constructor
 ·intro s hs
  obtain⟨x,hx,rfl⟩:=List.mem_map.1 hs
  show (tx x).size≤_
  rw[tx_size]
  exact nmV_small hsz x hx
 ·intro s hs
  obtain⟨x,hx,rfl⟩:=List.mem_map.1 hs
  show (tx x).size≤_
  rw[tx_size]
  exact nmC_small hsz x hx
theorem few_names {rs:List Ru}(h:¬ Bad rs 2):(nmV rs).length≤8∧(nmC rs).length≤8:=by
 have h':tooMany (allOf rs)=false:=by simpa [Bad] using h
 unfold tooMany at h';simp only[Bool.or_eq_false_iff,decide_eq_false_iff_not] at h';unfold nmV nmC;simp only[List.length_map];omega
theorem siz_rules {rs:List Ru}(hsz:sizR rs≤1048576):∀ r∈rs,siz r.2.1≤1048576∧siz r.2.2≤1048576:=fun r hr=>by
 have:=sizR_mem hr
 omega
theorem small_stV {rs:List Ru}(hsz:sizR rs≤1048576)(iv ic:ByteArray→Int)(qs:List Ru)(hq:∀ r∈qs,r∈rs):∀ v∈rulesP iv ic qs 0++[(36,0,none')],SmV v:=fun v hv=>by
 rcases List.mem_append.1 hv with h|h
 ·exact rules_small iv ic qs 0 (fun r hr=>siz_rules hsz r (hq r hr)) v h
 ·rw[List.mem_singleton.1 h]
  show (none':ByteArray).size≤_
  decide
theorem rule_oks {rs:List Ru}(hsz:sizR rs≤1048576)(ht:tidyB rs=true):∀ r∈rs,allB r.2.2=true∧(r.1=3→allB r.2.1=true)∧cnt r.2.1≤1048577∧cnt r.2.2≤1048577:=fun r hr=>by
 have h:=tidy_rule ht hr
 have:=sizR_mem hr
 have:=cnt_siz r.2.1
 have:=cnt_siz r.2.2
 exact⟨h.1,fun e=>(h.2.2.1 e).1,by omega,by omega⟩

theorem calls_places {rs:List Ru}{w:World}{S:Nat→Prop}{g cap:Nat}{xs:List Value}{B:Nat}{ad:Addr}{a1 a2:Option Addr}{c1 c2 B1 B2:Nat}(hsz:sizR rs≤1048576)(hbad:∀ j,¬ Bad rs j)(herr:w.cell? ⟨1,0,none⟩=some (errV ad))
  (htab:∀ op:Nat,(op=6∨op=7∨op=8∨(9≤op∧op≤20)∨op=22∨op=23∨op=33∨op=35)→w.cell? ⟨3,op,none⟩=some (.int .i64 (plainC op)))
  (hlt:∀ k,S k→k<w.heap.size) (ho:w.ownsRow B 53 9 (.slice (some ⟨g,0,none⟩) rs.length cap) rs.length xs) (hr:RulesAp w rs S xs)
  (o1:w.ownsRow B1 9 1 (.slice a1 (nmV rs).length c1) (ascS (Ck.varsIn (allOf rs))).length ((ascS (Ck.varsIn (allOf rs))).map encStr)) (o2:w.ownsRow B2 9 1 (.slice a2 (nmC rs).length c2) (ascS (Ck.cellsIn (allOf rs))).length ((ascS (Ck.cellsIn (allOf rs))).map encStr)) {w':World} (hb:Below w.heap.size w w'):
  Calls Tryz.prog 23 #[.agg #[.slice a1 (nmV rs).length c1,.slice a2 (nmC rs).length c2],.slice (some ⟨g,0,none⟩) (begN rs) cap] w' (fun e w''=>∃ ao n cp,e=.returned (.slice ao n cp)∧Pl (stV rs) w'.heap.size w'' (.slice ao n cp)∧Below w'.heap.size w' w'') ∧
  ∀ ao cap',(0<rs.length - begN rs→ao=some ⟨g,begN rs*9,none⟩)→Calls Tryz.prog 23 #[.agg #[.slice a1 (nmV rs).length c1,.slice a2 (nmC rs).length c2],.slice ao (rs.length - begN rs) cap'] w' (fun e w''=>∃ ao n cp,e=.returned (.slice ao n cp)∧Pl (mnV rs) w'.heap.size w'' (.slice ao n cp)∧Below w'.heap.size w' w''):=by
 have hv:=(rdt_of o1 (nmV_small hsz)).below hb;have hc:=(rdt_of o2 (nmC_small hsz)).below hb;have hf:=few_names (hbad 2);have ht:tidyB rs=true:=by simpa [Bad] using hbad 0
 have herr':=(hb.cell (World.block_lt_of_cell? _ _ herr)).trans herr;have htab':∀ op:Nat,(op=6∨op=7∨op=8∨(9≤op∧op≤20)∨op=22∨op=23∨op=33∨op=35)→w'.cell? ⟨3,op,none⟩=some (.int .i64 (plainC op)):=fun op h=>(hb.cell (World.block_lt_of_cell? _ _ (htab op h))).trans (htab op h);have ho':w'.ownsRow B 53 9 (.slice (some ⟨g,0,none⟩) rs.length cap) rs.length xs:=owns_same ho fun g hg=>hb.block g (ho.lt g hg).2;have hr':RulesAp w' rs S xs:=ap_frame (fun k hk=>hb.block k (hlt k hk)) hr;have hlt':∀ k,S k→k<w'.heap.size:=fun k hk=>Nat.lt_of_lt_of_le (hlt k hk) hb.size;have hlen:rs.length≤1048576:=by have:=sizR_len rs;omega
 have hcells:0<rs.length→∀ j x,xs[j]?=some x→w'.cell? ⟨g,j,none⟩=some x:=fun h0 j x hj=>by
  obtain⟨g',e,hg,hc⟩:=row_cells ho' h0
  simp at e;subst e;exact hc j x hj
 have hble:=beg_le rs
 constructor
 ·have hl:(rs.take (begN rs)).length=begN rs:=by rw[List.length_take];omega
  have C:=iPlacesOf (vc:=c1) (cc:=c2) (cap:=cap) hv hc (by show (nmV rs).length≤_;omega) (by show (nmC rs).length≤_;omega) herr' htab' (rs:=rs.take (begN rs)) (by omega) (ao:=some ⟨g,0,none⟩) (xs:=xs.take (begN rs*9)) (fun h0=>⟨g,0,rfl,fun j x hj=>by
   rw[Nat.zero_add]
   refine hcells (by omega) j x ?_
   rw[List.getElem?_take] at hj
   split at hj
   ·exact hj
   ·cases hj⟩) (ap_take _ hr') hlt' (fun r hr=>rule_oks hsz ht r (List.mem_of_mem_take hr))
  rw[hl] at C
  exact C.mono fun e w'' h=>places_pl h
 ·intro ao cap' hao
  obtain⟨S',hd,hs'⟩:=ap_drop (begN rs) hr'
  have hl:(rs.drop (begN rs)).length=rs.length - begN rs:=by rw[List.length_drop]
  have C:=iPlacesOf (vc:=c1) (cc:=c2) (cap:=cap') hv hc (by show (nmV rs).length≤_;omega) (by show (nmC rs).length≤_;omega) herr' htab' (rs:=rs.drop (begN rs)) (by omega) (ao:=ao) (xs:=xs.drop (begN rs*9)) (fun h0=>⟨g,begN rs*9,hao (by omega),fun j x hj=>by
   rw[List.getElem?_drop] at hj
   exact hcells (by omega) _ x hj⟩) hd (fun k hk=>hlt' k (hs' k hk)) (fun r hr=>rule_oks hsz ht r (List.mem_of_mem_drop hr))
  rw[hl] at C
  exact C.mono fun e w'' h=>places_pl h

end Cm
end Go.Proofs.YtllbachngocmnaaGreatDoor
