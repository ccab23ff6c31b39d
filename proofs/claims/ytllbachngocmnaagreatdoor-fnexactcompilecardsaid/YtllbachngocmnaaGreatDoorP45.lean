/-
  Compile, the program's: whole.
-/
import Derived.Test.YtllbachngocmnaaGreatDoorP44
import Derived.Deep.RegionHeld3
namespace Go.Proofs.YtllbachngocmnaaGreatDoor
open Go.RowKit
namespace Cm
open St (Vl encV RdV)
open Nd Ty Ck
open Pg (RdT SmT idx progB)
open Oc (hold Blk SmV)
def CompOut (rs:List Ru)(c:Int)(w:World)(e:Ending)(w':World):Prop:=Below w.heap.size w w'∧((c≠0∧e=.returned (.tuple #[.agg #[.slice none 0 0,.slice none 0 0,.slice none 0 0,.slice none 0 0],.int .i64 c]))∨(c=0∧okV rs=false∧e=.returned (.tuple #[.agg #[.slice none 0 0,.slice none 0 0,.slice none 0 0,.slice none 0 0],.int .i64 3])) ∨
 (c=0∧okV rs=true∧∃ v1 v2 v3 v4,e=.returned (.tuple #[.agg #[v1,v2,v3,v4],.int .i64 0])∧w'.ownsRow w.heap.size 9 1 v1 (nmV rs).length ((ascS (Ck.varsIn (allOf rs))).map encStr)∧w'.ownsRow w.heap.size 9 1 v2 (nmC rs).length ((ascS (Ck.cellsIn (allOf rs))).map encStr) ∧
  w'.ownsRow w.heap.size 57 3 v3 (stV rs).length ((stV rs).flatMap encV)∧w'.ownsRow w.heap.size 57 3 v4 (mnV rs).length ((mnV rs).flatMap encV) ∧
  (∀ k,v1.ownBlock=some k→v2.ownBlock≠some k∧v3.ownBlock≠some k∧v4.ownBlock≠some k)∧(∀ k,v2.ownBlock=some k→v3.ownBlock≠some k∧v4.ownBlock≠some k)∧(∀ k,v3.ownBlock=some k→v4.ownBlock≠some k)))
structure Boxed (rs:List Ru)(W:World)(p:Nat)(v1 v2 v3 v4:Value)(wx:World):Prop where
 below:Below W.heap.size W wx
 hp:W.heap.size≤p
 blk:Blk 27 wx p [v1,v2,v3,v4]
 st:Pl (stV rs) W.heap.size wx v3
 mn:Pl (mnV rs) W.heap.size wx v4
 apart:∀ k,v3.ownBlock=some k→v4.ownBlock≠some k
theorem Pl.base {L:List Vl}{B B':Nat}{w:World}{v:Value}(h:Pl L B' w v)(hB:B≤B'):Pl L B w v:=h.imp (fun ⟨h1,h2⟩=>⟨owns_base h1 hB,h2⟩) id
theorem Pl.same {L:List Vl}{B:Nat}{w w':World}{v:Value}(h:Pl L B w v)(hs:∀ k,v.ownBlock=some k→w'.heap[k]?=w.heap[k]?):Pl L B w' v:=h.imp (fun ⟨h1,h2⟩=>⟨owns_same h1 hs,h2⟩) id
theorem Pl.lt {L:List Vl}{B:Nat}{w:World}{v:Value}(h:Pl L B w v){k:Nat}(hk:v.ownBlock=some k):B≤k∧k<w.heap.size:=by
 rcases h with ⟨h1,_⟩|⟨rfl,_⟩
 ·exact h1.lt k hk
 ·simp[Value.ownBlock] at hk
theorem box1 {w wA:World}{xs:List Value}{T:TypeId}(h:Below ((w.alloc (.cells xs.toArray T)).drew).heap.size ((w.alloc (.cells xs.toArray T)).drew) wA):Blk T wA w.heap.size xs:=Blk.below (w:=(w.alloc (.cells xs.toArray T)).drew) (Blk.new T w xs) h
theorem box2 {w wA:World}{xs:List Value}{T:TypeId}(h:Below (w.alloc (.cells xs.toArray T)).heap.size (w.alloc (.cells xs.toArray T)) wA):Blk T wA w.heap.size xs:=Blk.below (Blk.new T w xs) h
theorem boxed_end {rs:List Ru}{W wA wB wC:World}{p B3 B4:Nat}{v1 v2 v3 v4:Value}(hB3:Below W.heap.size W wA)(P3:Pl (stV rs) B3 wA v3)(hb3:W.heap.size≤B3)(P4:Pl (mnV rs) B4 wB v4)(hb4:wA.heap.size≤B4)(hAB:Below wA.heap.size wA wB)(hp:W.heap.size≤p)(hn3:v3.ownBlock≠some p)(hn4:v4.ownBlock≠some p)
  (hC:Below W.heap.size W wC) (hk:∀ k,k≠p→k<wB.heap.size→wC.heap[k]?=wB.heap[k]?) (hb:Blk 27 wC p [v1,v2,v3,v4]):Boxed rs W p v1 v2 v3 v4 wC:=by
 refine⟨hC,hp,hb,(P3.base hb3).same fun k hk'=>?_,(P4.base (Nat.le_trans hB3.size hb4)).same fun k hk'=>?_,fun k hk3 hk4=>?_⟩
 ·have h1:=P3.lt hk'
  rw[hk k (fun e=>hn3 (e ▸ hk')) (Nat.lt_of_lt_of_le h1.2 hAB.size)]
  exact hAB.block k h1.2
 ·exact hk k (fun e=>hn4 (e ▸ hk')) (P4.lt hk').2
 ·have h1:=P3.lt hk3;have h2:=P4.lt hk4;omega
theorem end_last {rs:List Ru}{W wA wB:World}{v1 v2 v3 v4:Value}(hA1:Pl (stV rs) W.drew.heap.size wA v3)(hB3:Below W.heap.size W wA)(hA3:Pl (mnV rs) wA.heap.size wB v4)(hA4:Below wA.heap.size wA wB)(hB4:Below W.heap.size W wB):
  Boxed rs W wB.heap.size v1 v2 v3 v4 (wB.alloc (.cells #[v1,v2,v3,v4] 27)) :=
 boxed_end hB3 hA1 (Nat.le_refl _) hA3 (Nat.le_refl _) hA4 hB4.size (fun e=>by have:=(hA1.lt e).2;have:=hA4.size;omega) (fun e=>by have:=(hA3.lt e).2;omega) (hB4.alloc hB4.size _) (fun k _ hl=>Below.heap_alloc _ _ _ hl) (Blk.new _ _ [v1,v2,v3,v4])
theorem far4 {w:World}{p:Nat}{v1 v2 v3 v4:Value}(k:Nat)(h:k≠p):((((w.setCell ⟨p,0,none⟩ v1).setCell ⟨p,1,none⟩ v2).setCell ⟨p,2,none⟩ v3).setCell ⟨p,3,none⟩ v4).heap[k]?=w.heap[k]? :=
 (Below.heap_setCell _ _ _ _ h).trans ((Below.heap_setCell _ _ _ _ h).trans ((Below.heap_setCell _ _ _ _ h).trans (Below.heap_setCell _ _ _ _ h)))
theorem end_mid {rs:List Ru}{W wA wB:World}{o:Obj}{v1 v2 v3 v4 z1 z2 z3 z4:Value}(hA1:Pl (stV rs) W.drew.heap.size wA v3)(hB3:Below W.heap.size W wA)(hA3:Pl (mnV rs) (wA.alloc o).heap.size wB v4)(hA4:Below (wA.alloc o).heap.size (wA.alloc o) wB)(hB4:Below W.heap.size W wB)(hx:Blk 27 wB wA.heap.size [z1,z2,z3,z4]):
  Boxed rs W wA.heap.size v1 v2 v3 v4 ((((wB.setCell ⟨wA.heap.size,0,none⟩ v1).setCell ⟨wA.heap.size,1,none⟩ v2).setCell ⟨wA.heap.size,2,none⟩ v3).setCell ⟨wA.heap.size,3,none⟩ v4):=by
 have hs:wA.heap.size<(wA.alloc o).heap.size:=by simp
 have hAB:Below wA.heap.size wA wB:=((Below.refl _ wA).alloc (Nat.le_refl _) o).trans (hA4.mono (Nat.le_of_lt hs));exact boxed_end hB3 hA1 (Nat.le_refl _) hA3 (Nat.le_of_lt hs) hAB hB3.size (fun e=>by have:=(hA1.lt e).2;omega) (fun e=>by have:=(hA3.lt e).1;omega) ((((hB4.setCell hB3.size _).setCell hB3.size _).setCell hB3.size _).setCell hB3.size _) (fun k hk _=>far4 k hk) ((((hx.set 0 _).set 1 _).set 2 _).set 3 _)
theorem end_first {rs:List Ru}{W wA wB:World}{o:Obj}{v1 v2 v3 v4 z1 z2 z3 z4:Value}(hA1:Pl (stV rs) (W.alloc o).drew.heap.size wA v3)(hA2:Below (W.alloc o).drew.heap.size (W.alloc o).drew wA)(hB3:Below W.heap.size W wA)(hA3:Pl (mnV rs) wA.heap.size wB v4)(hA4:Below wA.heap.size wA wB)(hB4:Below W.heap.size W wB)(hx:Blk 27 wB W.heap.size [z1,z2,z3,z4]):
  Boxed rs W W.heap.size v1 v2 v3 v4 ((((wB.setCell ⟨W.heap.size,0,none⟩ v1).setCell ⟨W.heap.size,1,none⟩ v2).setCell ⟨W.heap.size,2,none⟩ v3).setCell ⟨W.heap.size,3,none⟩ v4):=by
 have hs:W.heap.size<(W.alloc o).drew.heap.size:=by show W.heap.size<(W.alloc o).heap.size;simp
 have hs2:=hA2.size;exact boxed_end hB3 hA1 (Nat.le_of_lt hs) hA3 (Nat.le_refl _) hA4 (Nat.le_refl _) (fun e=>by have:=(hA1.lt e).1;omega) (fun e=>by have:=(hA3.lt e).1;omega) ((((hB4.setCell (Nat.le_refl _) _).setCell (Nat.le_refl _) _).setCell (Nat.le_refl _) _).setCell (Nat.le_refl _) _) (fun k hk _=>far4 k hk) ((((hx.set 0 _).set 1 _).set 2 _).set 3 _)
theorem prog_cut (P:ByteArray→Bool)(vs cs:List ByteArray)(L M:List Vl):progB P vs cs (cutL L) (cutL M)=progB P vs cs L M:=by
 unfold progB
 rw[ops_cut,ops_cut]
theorem pl_few {rs:List Ru}(hok:okV rs=true):(stV rs).length≤1500∧(mnV rs).length≤1500:=by
 unfold okV progB at hok;simp only[Bool.and_eq_true] at hok
 refine⟨Nat.le_of_not_lt fun h=>?_,Nat.le_of_not_lt fun h=>?_⟩
 ·simp[ops_long h] at hok
 ·simp[ops_long h] at hok
theorem Pl.row {L:List Vl}{B:Nat}{w:World}{v:Value}(h:Pl L B w v)(hl:L.length≤1500):w.ownsRow B 57 3 v L.length (L.flatMap encV):=by
 rcases h with h|⟨_,h⟩
 ·exact h.1
 ·omega
theorem comp_end {rs:List Ru}{w w1 w2 W wc w6:World}{p:Nat}{a1 a2:Option Addr}{n1 n2 c1 c2:Nat}{v3 v4:Value}{u0 u1 u2 u3:Value}(o1:w2.ownsRow w1.heap.size 9 1 (.slice a1 n1 c1) (ascS (Ck.varsIn (allOf rs))).length ((ascS (Ck.varsIn (allOf rs))).map encStr))(o2:w2.ownsRow w1.heap.size 9 1 (.slice a2 n2 c2) (ascS (Ck.cellsIn (allOf rs))).length ((ascS (Ck.cellsIn (allOf rs))).map encStr))
  (hd:∀ k,Value.ownBlock (.slice a1 n1 c1)=some k→Value.ownBlock (.slice a2 n2 c2)≠some k) (_e1:n1=(nmV rs).length) (_e2:n2=(nmC rs).length) (hb2:Below w1.heap.size w1 w2) (hBW:Below w2.heap.size w2 W) (hX:Boxed rs W p (.slice a1 n1 c1) (.slice a2 n2 c2) v3 v4 wc) (hb6:Below wc.heap.size wc w6) (hlt:w.heap.size<w1.heap.size) (_hs:w.heap.size≤w1.heap.size) (hok:okV rs=true):
  ((((w6.setCell ⟨w.heap.size,0,none⟩ u0).setCell ⟨w.heap.size,1,none⟩ u1).setCell ⟨w.heap.size,2,none⟩ u2).setCell ⟨w.heap.size,3,none⟩ u3).ownsRow w.heap.size 9 1 (.slice a1 n1 c1) (nmV rs).length ((ascS (Ck.varsIn (allOf rs))).map encStr) ∧
  ((((w6.setCell ⟨w.heap.size,0,none⟩ u0).setCell ⟨w.heap.size,1,none⟩ u1).setCell ⟨w.heap.size,2,none⟩ u2).setCell ⟨w.heap.size,3,none⟩ u3).ownsRow w.heap.size 9 1 (.slice a2 n2 c2) (nmC rs).length ((ascS (Ck.cellsIn (allOf rs))).map encStr) ∧
  ((((w6.setCell ⟨w.heap.size,0,none⟩ u0).setCell ⟨w.heap.size,1,none⟩ u1).setCell ⟨w.heap.size,2,none⟩ u2).setCell ⟨w.heap.size,3,none⟩ u3).ownsRow w.heap.size 57 3 v3 (stV rs).length ((stV rs).flatMap encV) ∧
  ((((w6.setCell ⟨w.heap.size,0,none⟩ u0).setCell ⟨w.heap.size,1,none⟩ u1).setCell ⟨w.heap.size,2,none⟩ u2).setCell ⟨w.heap.size,3,none⟩ u3).ownsRow w.heap.size 57 3 v4 (mnV rs).length ((mnV rs).flatMap encV) ∧
  (∀ k,Value.ownBlock (.slice a1 n1 c1)=some k→Value.ownBlock (.slice a2 n2 c2)≠some k∧v3.ownBlock≠some k∧v4.ownBlock≠some k)∧(∀ k,Value.ownBlock (.slice a2 n2 c2)=some k→v3.ownBlock≠some k∧v4.ownBlock≠some k)∧(∀ k,v3.ownBlock=some k→v4.ownBlock≠some k):=by
 have hs2:=hb2.size;have hsW:=hBW.size;have h26:Below w2.heap.size w2 w6:=(hBW.trans (hX.below.mono hsW)).trans (hb6.mono (Nat.le_trans hsW hX.below.size));have hfew:=pl_few hok;have l1:(nmV rs).length=(ascS (Ck.varsIn (allOf rs))).length:=by unfold nmV;rw[List.length_map]
 have l2:(nmC rs).length=(ascS (Ck.cellsIn (allOf rs))).length:=by unfold nmC;rw[List.length_map]
 refine⟨?_,?_,?_,?_,fun k hk=>⟨hd k hk,fun h3=>?_,fun h4=>?_⟩,fun k hk=>⟨fun h3=>?_,fun h4=>?_⟩,hX.apart⟩
 ·rw[l1]
  refine owns_base (owns_same o1 fun g hg=>?_) (Nat.le_of_lt hlt)
  have:=o1.lt g hg
  rw[far4 g (by omega)]
  exact h26.block g this.2
 ·rw[l2]
  refine owns_base (owns_same o2 fun g hg=>?_) (Nat.le_of_lt hlt)
  have:=o2.lt g hg
  rw[far4 g (by omega)]
  exact h26.block g this.2
 ·refine owns_base (owns_same (hX.st.row hfew.1) fun g hg=>?_) (show w.heap.size≤W.heap.size by omega)
  have:=hX.st.lt hg
  rw[far4 g (by omega)]
  exact hb6.block g this.2
 ·refine owns_base (owns_same (hX.mn.row hfew.2) fun g hg=>?_) (show w.heap.size≤W.heap.size by omega)
  have:=hX.mn.lt hg
  rw[far4 g (by omega)]
  exact hb6.block g this.2
 ·have:=(o1.lt k hk).2
  have:=(hX.st.lt h3).1
  omega
 ·have:=(o1.lt k hk).2
  have:=(hX.mn.lt h4).1
  omega
 ·have:=(o2.lt k hk).2
  have:=(hX.st.lt h3).1
  omega
 ·have:=(o2.lt k hk).2
  have:=(hX.mn.lt h4).1
  omega
set_option maxHeartbeats 8000000 in
set_option maxRecDepth 100000 in
theorem iCompile {rs:List Ru}{w:World}{S:Nat→Prop}{g cap:Nat}{xs:List Value}{B:Nat}{a b ad:Addr}(hS:Oc.Sn w a b)(hE:Ety w)(herr:w.cell? ⟨1,0,none⟩=some (errV ad))
  (htab:∀ op:Nat,(op=6∨op=7∨op=8∨(9≤op∧op≤20)∨op=22∨op=23∨op=33∨op=35)→w.cell? ⟨3,op,none⟩=some (.int .i64 (plainC op)))
  (hsz:sizR rs≤1048576) (hlt:∀ k,S k→k<w.heap.size) (ho:w.ownsRow B 53 9 (.slice (some ⟨g,0,none⟩) rs.length cap) rs.length xs) (hr:RulesAp w rs S xs):
  Calls Tryz.prog 7 #[.slice (some ⟨g,0,none⟩) rs.length cap] w fun e w'=>∃ c,CheckIs rs c∧CompOut rs c w e w':=by
 have fo:∀ w',Below w.heap.size w w'→w'.ownsRow B 53 9 (.slice (some ⟨g,0,none⟩) rs.length cap) rs.length xs∧RulesAp w' rs S xs∧∀ k,S k→k<w'.heap.size:=fun w' hb=>⟨owns_same ho fun g hg=>hb.block g (ho.lt g hg).2,ap_frame (fun k hk=>hb.block k (hlt k hk)) hr,fun k hk=>Nat.lt_of_lt_of_le (hlt k hk) hb.size⟩
 obtain⟨W0,hW0⟩:∃ W0,W0=w.alloc (.cells #[.slice none 0 0,.slice none 0 0,.slice none 0 0,.slice none 0 0] 27):=⟨_,rfl⟩
 have hb0:Below w.heap.size w W0:=by rw[hW0];exact (Below.refl _ w).alloc (Nat.le_refl _) _
 have hk0:Blk 27 W0 w.heap.size [.slice none 0 0,.slice none 0 0,.slice none 0 0,.slice none 0 0]:=by rw[hW0];exact Blk.new _ _ _
 have CC:Hid (Calls Tryz.prog 21 #[.slice (some ⟨g,0,none⟩) rs.length cap] W0 fun e w'=>∃ c:Int,e=.returned (.int .i64 c)∧CheckIs rs c∧Below W0.heap.size W0 w'):=iCheck ⟨a,(hS.below hb0).1⟩ ⟨b,(hS.below hb0).2⟩ (hE.later hb0) hsz (fo W0 hb0).2.2 (fo W0 hb0).1 (fo W0 hb0).2.1;have HFO:Hid _:=fo;have HS:Hid (Oc.Sn w a b):=hS;have HERR:Hid _:=herr;have HTAB:Hid _:=htab;have HK0:Hid _:=And.intro hb0 hk0;have hlen:rs.length≤1048576:=by have:=sizR_len rs;omega
 have hcap:=(owns_cap ho).1;have hcm:(cap:Int)≤9223372036854775807:=by have:=(owns_cap ho).2;unfold maxLen at this;omega
 have hlI:(rs.length:Int)≤1048576:=by omega
 have hcI:(rs.length:Int)≤cap:=by omega
 clear fo hS herr htab hlt ho hr hb0 hk0 hE
 go_enter Tryz.func7,Tryz.ntmps7
 go_wp2_with (go_at_call 21;refine hold ?_)
 rw[← hW0]
 clear hW0;refine Calls.mono CC.out ?_;rintro e w1 ⟨c,rfl,hcheck,hb1⟩;have hB1:=HK0.out.1.trans (hb1.mono HK0.out.1.size);have hK1:=HK0.out.2.below hb1;have HCK:Hid (CheckIs rs c):=hcheck;have HK1:Hid _:=And.intro hB1 hK1;clear CC HK0 hb1
 by_cases hc0:c=0
 ·subst hc0;clear hB1 hK1 hcheck;have hbad:∀ j,¬ Bad rs j:=by
   rcases HCK.out with ⟨_,h⟩|⟨j,h,_⟩
   ·exact h
   ·omega
  have CN:Hid (Calls Tryz.prog 22 #[.slice (some ⟨g,0,none⟩) rs.length cap] w1 _):=iNewNames hsz (HFO.out _ HK1.out.1).2.2 (HFO.out _ HK1.out.1).1 (HFO.out _ HK1.out.1).2.1
  obtain⟨nb,hnb⟩:∃ nb,Hid (nb=begN rs):=⟨_,rfl⟩
  have hnl:nb≤rs.length:=by rw[hnb.out];exact beg_le rs
  have hn1:nb=0∨nb=1:=by
   rw[hnb.out]
   cases rs with
   | nil=>exact .inl rfl
   | cons r rs=>simp only[begN];split <;> simp
  have HR:Hid (rs.length≠0→∃ kd:Int,w1.cell? ⟨g,0,none⟩=some (.int .i64 kd)∧(kd=1↔nb=1)):=fun h0=>by
   rw[hnb.out]
   obtain⟨ho1,hr1,-⟩:=HFO.out _ HK1.out.1
   cases rs with
   | nil=>exact absurd rfl h0
   | cons r rs =>
    obtain⟨p0,p1,p2,p3,q0,q1,q2,q3,cc,Sp,Sb,Sr,hx,-⟩:=hr1
    obtain⟨g',e,hg,hc⟩:=row_cells ho1 (show 0<_ by simp)
    simp at e;subst e
    refine⟨r.1,hc 0 _ (by rw[hx];rfl),?_⟩
    simp only[begN]
    by_cases h1:r.1=1 <;> simp[h1]
  have HZ:Hid (rs.length=0→nb=0):=fun h0=>by
   have h0':rs.length=0:=h0;show nb=0;omega
  have HSZ:Hid _:=And.intro hsz hbad;clear hsz hbad
  go_upto_region 5 with fail
  go_cut [23] (fun v wx=>v=.bool (decide (nb=1))∧wx=w1)
  case first =>
   by_cases h0:rs.length=0
   ·have h0I:(rs.length:Int)≤0:=by omega
    have h0d:decide ((0:Int)<rs.length)=false:=decide_eq_false (by omega);have h00:=HZ.out h0;clear CN;go_wp2_with fail;go_meet
    case rel=>exact⟨by rw[h00];rfl,rfl⟩
   ·obtain⟨kd,hcell,hkd⟩:=HR.out h0
    have h0I:(0:Int)<rs.length:=by omega
    clear CN h0
    by_cases h1:kd=1
    ·have HKD:Hid (nb=1):=hkd.1 h1;clear hkd;subst h1;go_wp2_with fail;go_meet
     case rel=>exact⟨by rw[decide_eq_true HKD.out],rfl⟩
    ·have HKD:Hid (¬ nb=1):=fun h=>h1 (hkd.2 h);clear hkd;have h1':(kd==1)=false:=beq_eq_false_iff_ne.2 h1;go_wp2_with fail;go_meet
     case rel=>exact⟨by rw[decide_eq_false HKD.out],rfl⟩
  case rest =>
   obtain⟨rfl,hwc⟩:=hcut
   have hwc:=hwc.symm;subst hwc
   go_upto_if 23 with fail
   go_cut [5] (fun v wx=>v=.int .i64 nb∧wx=w1)
   case first =>
    rcases hn1 with h1|h1
    ·subst h1;go_wp2_with fail;go_meet
     case rel=>exact⟨rfl,rfl⟩
    ·subst h1;go_wp2_with fail;go_meet
     case rel=>exact⟨rfl,rfl⟩
   case rest =>
    obtain⟨rfl,hwc⟩:=hcut
    have hwc:=hwc.symm;subst hwc
    go_wp2_with (go_at_call 22;refine hold ?_)
    refine Calls.mono CN.out ?_;clear CN HR HZ;rintro e w2 ⟨a1,n1,c1,a2,n2,c2,rfl,hn1',hn2',o1,o2,hd,hb2⟩;have e1:n1=(nmV rs).length:=by rw[hn1'];unfold nmV;rw[List.length_map]
    have e2:n2=(nmC rs).length:=by rw[hn2'];unfold nmC;rw[List.length_map]
    have hB2:=HK1.out.1.trans (hb2.mono HK1.out.1.size)
    obtain⟨W2,hW2⟩:∃ W2,W2=w2.alloc (.cells #[.slice a1 n1 c1,.slice a2 n2 c2] 61):=⟨_,rfl⟩
    have hBW:Below w2.heap.size w2 W2:=by rw[hW2];exact (Below.refl _ w2).alloc (Nat.le_refl _) _
    have hkW:Blk 61 W2 w2.heap.size [.slice a1 n1 c1,.slice a2 n2 c2]:=by rw[hW2];exact Blk.new _ _ _
    have hB3:=hB2.trans (hBW.mono hB2.size);have hpl:∀ X,Below W2.heap.size W2 X→_∧_:=fun X hX=>calls_places (c1:=c1) (c2:=c2) (a1:=a1) (a2:=a2) HSZ.out.1 HSZ.out.2 ((hB3.cell (World.block_lt_of_cell? _ _ HERR.out)).trans HERR.out) (fun op h=>(hB3.cell (World.block_lt_of_cell? _ _ (HTAB.out op h))).trans (HTAB.out op h)) (HFO.out _ hB3).2.2 (HFO.out _ hB3).1 (HFO.out _ hB3).2.1 (by rw[← e1];exact owns_same o1 fun g hg=>hBW.block g (o1.lt g hg).2) (by rw[← e2];exact owns_same o2 fun g hg=>hBW.block g (o2.lt g hg).2) hX
    rw[← hnb.out,← e1,← e2] at hpl
    have CP:Hid (∀ X,Below W2.heap.size W2 X→Calls Tryz.prog 23 #[.agg #[.slice a1 n1 c1,.slice a2 n2 c2],.slice (some ⟨g,0,none⟩) nb cap] X fun e X'=>∃ ao n cp,e=.returned (.slice ao n cp)∧Pl (stV rs) X.heap.size X' (.slice ao n cp)∧Below X.heap.size X X'∧Below W2.heap.size W2 X'):=fun X hX=>(hpl X hX).1.mono fun e X' ⟨ao,n,cp,h1,h2,h3⟩=>⟨ao,n,cp,h1,h2,h3,hX.trans (h3.mono hX.size)⟩;have CQ:Hid (∀ X,Below W2.heap.size W2 X→∀ ao cap',(0<rs.length - nb→ao=some ⟨g,nb*9,none⟩)→Calls Tryz.prog 23 #[.agg #[.slice a1 n1 c1,.slice a2 n2 c2],.slice ao (rs.length - nb) cap'] X fun e X'=>∃ ao n cp,e=.returned (.slice ao n cp)∧Pl (mnV rs) X.heap.size X' (.slice ao n cp)∧Below X.heap.size X X'∧Below W2.heap.size W2 X'):=fun X hX ao cap' hao=>((hpl X hX).2 ao cap' hao).mono fun e X' ⟨ao,n,cp,h1,h2,h3⟩=>⟨ao,n,cp,h1,h2,h3,hX.trans (h3.mono hX.size)⟩;have HO:Hid _:=And.intro o1 (And.intro o2 (And.intro hd (And.intro e1 (And.intro e2 (And.intro hb2 hBW)))));have q0:=hkW.cell 0 rfl;have q1:=hkW.cell 1 rfl;have HQ:Hid _:=And.intro q0 q1;clear o1 o2 hd hn1' hn2' hb2 hB2 hB3 hpl e1 e2 hBW hkW
    go_upto_region 8 with fail
    rw[← hW2]
    clear hW2;have hnI:(nb:Int)≤rs.length:=by omega
    have hnC:(nb:Int)≤cap:=by omega
    have hnL:nb≤cap:=by omega
    go_cut [7] (fun v wx=>∃ p a3 n3 c3 a4 n4 c4,v=.pointer (some ⟨p,0,none⟩)∧Hid (Boxed rs W2 p (.slice a1 n1 c1) (.slice a2 n2 c2) (.slice a3 n3 c3) (.slice a4 n4 c4) wx))
    case first =>
     have hS:∀ w',Below W2.heap.size W2 w'→Below W2.heap.size W2 w'∧w'.cell? ⟨w2.heap.size,0,none⟩=some (.slice a1 n1 c1)∧w'.cell? ⟨w2.heap.size,1,none⟩=some (.slice a2 n2 c2):=fun w' h=>⟨h,(h.cell (World.block_lt_of_cell? _ _ HQ.out.1)).trans HQ.out.1,(h.cell (World.block_lt_of_cell? _ _ HQ.out.2)).trans HQ.out.2⟩;rcases Nat.lt_or_ge nb cap with hcl|hge
     ·have hce:¬ cap=nb:=by omega
      have CR:Hid (∀ X,Below W2.heap.size W2 X→∀ cap',Calls Tryz.prog 23 #[.agg #[.slice a1 n1 c1,.slice a2 n2 c2],.slice (some ⟨g,nb*9,none⟩) (rs.length - nb) cap'] X fun e X'=>∃ ao n cp,e=.returned (.slice ao n cp)∧Pl (mnV rs) X.heap.size X' (.slice ao n cp)∧Below X.heap.size X X'∧Below W2.heap.size W2 X'):=fun X hX cap'=>CQ.out X hX _ cap' (fun _=>rfl);clear CQ
      go_region_held3 (fun w'=>Below W2.heap.size W2 w'∧w'.cell? ⟨w2.heap.size,0,none⟩=some (.slice a1 n1 c1)∧w'.cell? ⟨w2.heap.size,1,none⟩=some (.slice a2 n2 c2)) (first|exact hS _ (by assumption)|with_reducible exact hS _ (Below.refl _ _).drew|with_reducible exact hS _ ((Below.refl _ _).alloc (Nat.le_refl _) _).drew|with_reducible exact hS _ (hB3.alloc hB3.size _)|with_reducible exact hS _ (hB4.alloc hB4.size _)|with_reducible exact hS _ ((((hB4.setCell hB3.size _).setCell hB3.size _).setCell hB3.size _).setCell hB3.size _)|with_reducible exact hS _ ((((hB4.setCell (Nat.le_refl _) _).setCell (Nat.le_refl _) _).setCell (Nat.le_refl _) _).setCell (Nat.le_refl _) _)) (first
       | (go_at_call 23;with_reducible refine Calls.mono (CP.out _ ?_) ?_;(first|assumption|exact And.left (by assumption));rintro e wA ⟨a3,n3,c3,rfl,hA1,hA2,hB3⟩;(first|(have hx:=box1 (xs:=[.slice none 0 0,.slice none 0 0,.slice none 0 0,.slice none 0 0]) (T:=27) hA2)|(have hx:=box2 (xs:=[.slice none 0 0,.slice none 0 0,.slice none 0 0,.slice none 0 0]) (T:=27) hA2)|(have hx:=Blk.below hx hA2)|skip);(try (have x0:=hx.cell 0 rfl;have x1:=hx.cell 1 rfl;have x2:=hx.cell 2 rfl;have x3:=hx.cell 3 rfl;have xf:=hx.frozen)))
       | (go_at_call 23;with_reducible refine Calls.mono (CR.out _ ?_ _) ?_;(first|assumption|exact And.left (by assumption));rintro e wB ⟨a4,n4,c4,rfl,hA3,hA4,hB4⟩;(first|(have hx:=box1 (xs:=[.slice none 0 0,.slice none 0 0,.slice none 0 0,.slice none 0 0]) (T:=27) hA4)|(have hx:=box2 (xs:=[.slice none 0 0,.slice none 0 0,.slice none 0 0,.slice none 0 0]) (T:=27) hA4)|(have hx:=Blk.below hx hA4)|skip);(try (have x0:=hx.cell 0 rfl;have x1:=hx.cell 1 rfl;have x2:=hx.cell 2 rfl;have x3:=hx.cell 3 rfl;have xf:=hx.frozen))))
      all_goals
       first|(have HE:Hid _:=end_mid (W:=W2) (v1:=.slice a1 n1 c1) (v2:=.slice a2 n2 c2) hA1 hB3 hA3 hA4 hB4 hx)|(have HE:Hid _:=end_first (W:=W2) (v1:=.slice a1 n1 c1) (v2:=.slice a2 n2 c2) hA1 hA2 hB3 hA3 hA4 hB4 hx)|(have HE:Hid _:=end_last (W:=W2) (v1:=.slice a1 n1 c1) (v2:=.slice a2 n2 c2) hA1 hB3 hA3 hA4 hB4)
       clear hA1 hA2 hA3 hA4 hB3 hB4 CP CR hS;go_wp2_with fail;go_meet
       case rel=>exact⟨_,a3,n3,c3,a4,n4,c4,rfl,HE⟩
     ·obtain rfl:cap=nb:=by omega
      have CR:Hid (∀ X,Below W2.heap.size W2 X→∀ ao m cap',m=0→Calls Tryz.prog 23 #[.agg #[.slice a1 n1 c1,.slice a2 n2 c2],.slice ao m cap'] X fun e X'=>∃ ao n cp,e=.returned (.slice ao n cp)∧Pl (mnV rs) X.heap.size X' (.slice ao n cp)∧Below X.heap.size X X'∧Below W2.heap.size W2 X'):=fun X hX ao m cap' hm=>by
       have h:=CQ.out X hX ao cap' (fun h=>by omega)
       rw[show rs.length - cap=m by omega] at h
       exact h
      clear CQ
      go_region_held3 (fun w'=>Below W2.heap.size W2 w'∧w'.cell? ⟨w2.heap.size,0,none⟩=some (.slice a1 n1 c1)∧w'.cell? ⟨w2.heap.size,1,none⟩=some (.slice a2 n2 c2)) (first|exact hS _ (by assumption)|with_reducible exact hS _ (Below.refl _ _).drew|with_reducible exact hS _ ((Below.refl _ _).alloc (Nat.le_refl _) _).drew|with_reducible exact hS _ (hB3.alloc hB3.size _)|with_reducible exact hS _ (hB4.alloc hB4.size _)|with_reducible exact hS _ ((((hB4.setCell hB3.size _).setCell hB3.size _).setCell hB3.size _).setCell hB3.size _)|with_reducible exact hS _ ((((hB4.setCell (Nat.le_refl _) _).setCell (Nat.le_refl _) _).setCell (Nat.le_refl _) _).setCell (Nat.le_refl _) _)) (first
       | (go_at_call 23;with_reducible refine Calls.mono (CP.out _ ?_) ?_;(first|assumption|exact And.left (by assumption));rintro e wA ⟨a3,n3,c3,rfl,hA1,hA2,hB3⟩;(first|(have hx:=box1 (xs:=[.slice none 0 0,.slice none 0 0,.slice none 0 0,.slice none 0 0]) (T:=27) hA2)|(have hx:=box2 (xs:=[.slice none 0 0,.slice none 0 0,.slice none 0 0,.slice none 0 0]) (T:=27) hA2)|(have hx:=Blk.below hx hA2)|skip);(try (have x0:=hx.cell 0 rfl;have x1:=hx.cell 1 rfl;have x2:=hx.cell 2 rfl;have x3:=hx.cell 3 rfl;have xf:=hx.frozen)))
       | (go_at_call 23;with_reducible refine Calls.mono (CR.out _ ?_ _ _ _ ?_) ?_;(first|assumption|exact And.left (by assumption));(first|rfl|omega);rintro e wB ⟨a4,n4,c4,rfl,hA3,hA4,hB4⟩;(first|(have hx:=box1 (xs:=[.slice none 0 0,.slice none 0 0,.slice none 0 0,.slice none 0 0]) (T:=27) hA4)|(have hx:=box2 (xs:=[.slice none 0 0,.slice none 0 0,.slice none 0 0,.slice none 0 0]) (T:=27) hA4)|(have hx:=Blk.below hx hA4)|skip);(try (have x0:=hx.cell 0 rfl;have x1:=hx.cell 1 rfl;have x2:=hx.cell 2 rfl;have x3:=hx.cell 3 rfl;have xf:=hx.frozen))))
      all_goals
       first|(have HE:Hid _:=end_mid (W:=W2) (v1:=.slice a1 n1 c1) (v2:=.slice a2 n2 c2) hA1 hB3 hA3 hA4 hB4 hx)|(have HE:Hid _:=end_first (W:=W2) (v1:=.slice a1 n1 c1) (v2:=.slice a2 n2 c2) hA1 hA2 hB3 hA3 hA4 hB4 hx)|(have HE:Hid _:=end_last (W:=W2) (v1:=.slice a1 n1 c1) (v2:=.slice a2 n2 c2) hA1 hB3 hA3 hA4 hB4)
       clear hA1 hA2 hA3 hA4 hB3 hB4 CP CR hS;go_wp2_with fail;go_meet
       case rel=>exact⟨_,a3,n3,c3,a4,n4,c4,rfl,HE⟩
    case rest =>
     obtain⟨p,a3,n3,c3,a4,n4,c4,rfl,HBX⟩:=hcut
     clear CP CQ q0 q1 HQ
     obtain⟨o1,o2,hd,e1,e2,hb2,hBW⟩:=HO.out
     have hK2:=HK1.out.1.trans (hb2.mono HK1.out.1.size);have hKW:=hK2.trans (hBW.mono hK2.size);have hKC:=hKW.trans (HBX.out.below.mono hKW.size);have hWC:=hBW.trans (HBX.out.below.mono hBW.size);have hkR:=((HK1.out.2.below hb2).below hBW).below HBX.out.below;have hV:RdT wc a1 (nmV rs):=(rdt_of o1 (nmV_small HSZ.out.1)).below hWC;have hC:RdT wc a2 (nmC rs):=(rdt_of o2 (nmC_small HSZ.out.1)).below hWC;have hf:=few_names (HSZ.out.2 2);have CO:Hid (Calls Tryz.prog 24 #[.agg #[.slice a1 n1 c1,.slice a2 n2 c2,.slice a3 n3 c3,.slice a4 n4 c4]] wc fun e w'=>e=.returned (.bool (okV rs))∧Below wc.heap.size wc w'):=by
      have s3:=small_stV HSZ.out.1 (idx (nmV rs)) (idx (nmC rs)) (rs.take (begN rs)) (fun r hr=>List.mem_of_mem_take hr);have s4:=small_stV HSZ.out.1 (idx (nmV rs)) (idx (nmC rs)) (rs.drop (begN rs)) (fun r hr=>List.mem_of_mem_drop hr)
      obtain⟨b3,d3,h3,r3,l3,m3⟩:=pl_read HBX.out.st s3
      obtain⟨b4,d4,h4,r4,l4,m4⟩:=pl_read HBX.out.mn s4
      simp only[Value.slice.injEq] at h3 h4
      obtain⟨rfl,rfl,rfl⟩:=h3
      obtain⟨rfl,rfl,rfl⟩:=h4
      have C:=Pg.iProgOk Oc.parseI (vc:=c1) (cc:=c2) (sc:=c3) (mc:=c4) (HS.out.below hKC) hV hC r3 r4 (smV_names HSZ.out.1).1 (smV_names HSZ.out.1).2 m3 m4 (by omega) (by omega) (by omega) (by omega)
      rw[prog_cut] at C
      show Calls _ _ _ _ _
      rw[e1,e2]
      exact C
     have y0:=HBX.out.blk.cell 0 rfl;have y1:=HBX.out.blk.cell 1 rfl;have y2:=HBX.out.blk.cell 2 rfl;have y3:=HBX.out.blk.cell 3 rfl;have HKR:Hid (Below w.heap.size w wc∧Blk 27 wc w.heap.size [.slice none 0 0,.slice none 0 0,.slice none 0 0,.slice none 0 0]∧Below w2.heap.size w2 wc∧w.heap.size<w1.heap.size):=⟨hKC,hkR,hWC,HK1.out.2.lt⟩;clear o1 o2 hd e1 e2 hb2 hBW hK2 hKW hKC hWC hkR hV hC hf
     go_wp2_with (go_at_call 24;refine hold ?_)
     refine Calls.mono CO.out ?_;clear CO y0 y1 y2 y3;rintro e w6 ⟨rfl,hb6⟩;have hbx:=HBX.out.blk.below hb6;have hkr:=HKR.out.2.1.below hb6;have y0:=hbx.cell 0 rfl;have y1:=hbx.cell 1 rfl;have y2:=hbx.cell 2 rfl;have y3:=hbx.cell 3 rfl;have x0:=hkr.cell 0 rfl;have x1:=hkr.cell 1 rfl;have x2:=hkr.cell 2 rfl;have x3:=hkr.cell 3 rfl;have f0:=hkr.frozen;have H6:Hid _:=And.intro hb6 hkr
     obtain⟨ok,hok⟩:∃ ok,Hid (ok=okV rs):=⟨_,rfl⟩
     rw[← hok.out]
     clear hb6 hbx hkr
     cases ok with
     | false =>
      go_wp2_with fail;have hB6:=HKR.out.1.trans (H6.out.1.mono HKR.out.1.size);refine ret_comp Tryz.results7 rfl rfl rfl ((((H6.out.2.set 0 _).set 1 _).set 2 _).set 3 _) ⟨0,HCK.out,?_,.inr (.inl ⟨rfl,hok.out.symm,rfl⟩)⟩;exact (((hB6.setCell (by simp) _).setCell (by simp) _).setCell (by simp) _).setCell (by simp) _
     | true =>
      go_wp2_with fail;have hB6:=HKR.out.1.trans (H6.out.1.mono HKR.out.1.size);refine ret_comp Tryz.results7 rfl rfl rfl ((((H6.out.2.set 0 _).set 1 _).set 2 _).set 3 _) ⟨0,HCK.out,?_,.inr (.inr ⟨rfl,hok.out.symm,_,_,_,_,rfl,?_⟩)⟩
      ·exact (((hB6.setCell (by simp) _).setCell (by simp) _).setCell (by simp) _).setCell (by simp) _
      ·exact comp_end HO.out.1 HO.out.2.1 HO.out.2.2.1 HO.out.2.2.2.1 HO.out.2.2.2.2.1 HO.out.2.2.2.2.2.1 HO.out.2.2.2.2.2.2 HBX.out H6.out.1 HKR.out.2.2.2 HK1.out.1.size hok.out.symm
 ·have x0:=hK1.cell 0 rfl;have x1:=hK1.cell 1 rfl;have x2:=hK1.cell 2 rfl;have x3:=hK1.cell 3 rfl;have f0:=hK1.frozen;clear hB1 hK1 hcheck;go_wp2_with fail;refine ret_comp Tryz.results7 rfl rfl rfl ((((HK1.out.2.set 0 _).set 1 _).set 2 _).set 3 _) ⟨c,HCK.out,?_,.inl ⟨hc0,rfl⟩⟩;exact (((HK1.out.1.setCell (by simp) _).setCell (by simp) _).setCell (by simp) _).setCell (by simp) _
end Cm
end Go.Proofs.YtllbachngocmnaaGreatDoor
