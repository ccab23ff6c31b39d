/-
  Compile, the specification's: the walk.
-/
import Derived.Test.YtllbachngocmnaaGreatDoorP50
namespace Go.Proofs.YtllbachngocmnaaGreatDoor
open Go.RowKit
namespace Sp
open St (Vl encV RdV)
open Nd Ty Cm Ck
open Pg (RdT SmT idx progB)
open Oc (hold Blk SmV)
structure Steps (X Y:Fx)(rs:List Ru)(kd:Int)(p b:Data)(po bo:Option Addr)(pc bc:Nat):Prop where
 beg:∀ bxs L M w,AtT X Y bxs L M w→(L++seqOf X.iv X.ic (kidsOf b) L.length).length≤40000000→Calls Tryz.prog 16 #[.pointer (some ⟨X.p,0,none⟩),.agg #[.int .i64 (opOf b),.int .i64 (numOf b),.string ⟨(txtOf b).toArray⟩,.slice bo (kidsOf b).length bc]] w fun e w'=>e=.returned (.tuple #[])∧AtT X Y bxs (L++seqOf X.iv X.ic (kidsOf b) L.length) M w'
 body:∀ bxs L M w,AtT X Y bxs L M w→(M++seqOf X.iv X.ic (kidsOf b) M.length).length≤40000000→Calls Tryz.prog 16 #[.pointer (some ⟨Y.p,0,none⟩),.agg #[.int .i64 (opOf b),.int .i64 (numOf b),.string ⟨(txtOf b).toArray⟩,.slice bo (kidsOf b).length bc]] w fun e w'=>e=.returned (.tuple #[])∧AtT X Y bxs L (M++seqOf X.iv X.ic (kidsOf b) M.length) w'
 pat:kd=3→∀ bxs L M w,AtT X Y bxs L M w→(M++nodeP X.iv X.ic p M.length).length≤40000000→Calls Tryz.prog 17 #[.pointer (some ⟨Y.p,0,none⟩),.agg #[.int .i64 (opOf p),.int .i64 (numOf p),.string ⟨(txtOf p).toArray⟩,.slice po (kidsOf p).length pc]] w fun e w'=>e=.returned (.tuple #[])∧AtT X Y bxs L (M++nodeP X.iv X.ic p M.length) w'
theorem steps_of {X Y:Fx}{rs:List Ru}{k g:Nat}{kd:Int}{p b:Data}{po bo:Option Addr}{pc bc:Nat}(hsz:sizR rs≤1048576)(ht:tidyB rs=true)(hW:Y.W=X.W)(hiv:Y.iv=X.iv)(hic:Y.ic=X.ic)(h:Rnd X.W rs k g kd p b po bo pc bc):Steps X Y rs kd p b po bo pc bc:=by
 have hm:(kd,p,b)∈rs:=List.mem_of_getElem? h.at'
 obtain⟨Sp,hp⟩:=h.pat
 obtain⟨Sb,hb⟩:=h.body
 have okX:=rule_ok (X:=X) hsz ht hm;have okY:=rule_ok (X:=Y) hsz ht hm
 refine⟨fun bxs L M w hA hl=>?_,fun bxs L M w hA hl=>?_,fun h3 bxs L M w hA hl=>?_⟩
 ·exact (okX.1 L w Sb _ _ _ _ hA.two.a hb hl).mono fun e w' hr=>run_left hA hr
 ·rw[← hiv,← hic] at hl ⊢
  exact (okY.1 M w Sb _ _ _ _ hA.two.b (by rw[hW];exact hb) hl).mono fun e w' hr=>run_right hA hr
 ·rw[← hiv,← hic] at hl ⊢
  exact (okY.2 h3 M w Sp _ _ _ _ hA.two.b (by rw[hW];exact hp) hl).mono fun e w' hr=>run_right hA hr
theorem put_left {X Y:Fx}{bxs:List (Nat × TypeId × List Value)}{L M:List Vl}{w:World}(hA:AtT X Y bxs L M w)(hl:L.length<50000000)(code n:Int)(s:ByteArray):
  Calls Tryz.prog 18 #[.pointer (some ⟨X.p,0,none⟩),.int .i64 code,.int .i64 n,.string s] w fun e w'=>e=.returned (.int .i64 L.length)∧AtT X Y bxs (L++[(code,n,s)]) M w':=(sPut hA.two.a hl code n s).mono fun _ _ h=>⟨h.1,hA.left h.2.1 h.2.2⟩
theorem put_right {X Y:Fx}{bxs:List (Nat × TypeId × List Value)}{L M:List Vl}{w:World}(hA:AtT X Y bxs L M w)(hl:M.length<50000000)(code n:Int)(s:ByteArray):
  Calls Tryz.prog 18 #[.pointer (some ⟨Y.p,0,none⟩),.int .i64 code,.int .i64 n,.string s] w fun e w'=>e=.returned (.int .i64 M.length)∧AtT X Y bxs L (M++[(code,n,s)]) w':=(sPut hA.two.b hl code n s).mono fun _ _ h=>⟨h.1,hA.right h.2.1 h.2.2⟩
theorem box_not {w:World}{p j:Nat}(hk:Blk 27 w p [.slice none 0 0,.slice none 0 0,.slice none 0 0,.slice none 0 0]){v:Value}(h:w.cell? ⟨p,j,none⟩=some v):v=.slice none 0 0:=by
 rw[cell_of_row w p j _ _ (0,0) hk] at h
 rcases j with _|_|_|_|j
 ·simpa using h.symm
 ·simpa using h.symm
 ·simpa using h.symm
 ·simpa using h.symm
 ·simp at h
theorem far4 {w:World}{p:Nat}{v1 v2 v3 v4:Value}(k:Nat)(h:k≠p):((((w.setCell ⟨p,0,none⟩ v1).setCell ⟨p,1,none⟩ v2).setCell ⟨p,2,none⟩ v3).setCell ⟨p,3,none⟩ v4).heap[k]?=w.heap[k]? :=
 (Below.heap_setCell _ _ _ _ h).trans ((Below.heap_setCell _ _ _ _ h).trans ((Below.heap_setCell _ _ _ _ h).trans (Below.heap_setCell _ _ _ _ h)))
theorem rdt_far {w w':World}{p:Nat}{ao:Option Addr}{ss:List ByteArray}(h:RdT w ao ss)(hk:Blk 27 w p [.slice none 0 0,.slice none 0 0,.slice none 0 0,.slice none 0 0])(hs:w.heap.size≤w'.heap.size)(hf:∀ k,k≠p→w'.heap[k]?=w.heap[k]?):RdT w' ao ss:=by
 intro i s hi
 obtain⟨b,o,rfl,hl,hz,hc⟩:=h i s hi
 have hne:b≠p:=fun e=>by
  subst e
  have:=box_not hk hc
  cases this
 exact⟨b,o,rfl,Nat.lt_of_lt_of_le hl hs,hz,(World.cell?_of_block (hf b hne)).trans hc⟩
theorem rdv_far {w w':World}{p:Nat}{ao:Option Addr}{ss:List Vl}(h:RdV w ao ss)(hk:Blk 27 w p [.slice none 0 0,.slice none 0 0,.slice none 0 0,.slice none 0 0])(hs:w.heap.size≤w'.heap.size)(hf:∀ k,k≠p→w'.heap[k]?=w.heap[k]?):RdV w' ao ss:=by
 intro i s hi
 obtain⟨b,o,rfl,hl,hz,c0,c1,c2⟩:=h i s hi
 have hne:b≠p:=fun e=>by
  subst e
  have:=box_not hk c0
  cases this
 exact⟨b,o,rfl,Nat.lt_of_lt_of_le hl hs,hz,(World.cell?_of_block (hf b hne)).trans c0,(World.cell?_of_block (hf b hne)).trans c1,(World.cell?_of_block (hf b hne)).trans c2⟩
set_option maxHeartbeats 8000000 in
set_option maxRecDepth 100000 in
theorem sCompile {rs:List Ru}{w:World}{S:Nat→Prop}{g cap:Nat}{xs:List Value}{B:Nat}(hS:Sen w)(hsz:sizR rs≤1048576)(hlt:∀ k,S k→k<w.heap.size)(ho:w.ownsRow B 53 9 (.slice (some ⟨g,0,none⟩) rs.length cap) rs.length xs)(hr:RulesAp w rs S xs):
  Calls Tryz.prog 5 #[.slice (some ⟨g,0,none⟩) rs.length cap] w fun e w'=>∃ c,CheckIs rs c∧SCompOut rs c w e w':=by
 have fo:∀ w',Below w.heap.size w w'→w'.ownsRow B 53 9 (.slice (some ⟨g,0,none⟩) rs.length cap) rs.length xs∧RulesAp w' rs S xs∧∀ k,S k→k<w'.heap.size:=fun w' hb=>⟨owns_same ho fun g hg=>hb.block g (ho.lt g hg).2,ap_frame (fun k hk=>hb.block k (hlt k hk)) hr,fun k hk=>Nat.lt_of_lt_of_le (hlt k hk) hb.size⟩
 obtain⟨W0,hW0⟩:∃ W0,W0=w.alloc (.cells #[.slice none 0 0,.slice none 0 0,.slice none 0 0,.slice none 0 0] 27):=⟨_,rfl⟩
 have hb0:Below w.heap.size w W0:=by rw[hW0];exact (Below.refl _ w).alloc (Nat.le_refl _) _
 have hk0:Blk 27 W0 w.heap.size [.slice none 0 0,.slice none 0 0,.slice none 0 0,.slice none 0 0]:=by rw[hW0];exact Blk.new _ _ _
 have CC:Hid (Calls Tryz.prog 14 #[.slice (some ⟨g,0,none⟩) rs.length cap] W0 fun e w'=>∃ c:Int,e=.returned (.int .i64 c)∧CheckIs rs c∧Below W0.heap.size W0 w'):=sCheck (hS.later hb0) hsz (fo W0 hb0).2.2 (fo W0 hb0).1 (ap_is (fo W0 hb0).2.1);have HFO:Hid _:=fo;have HK0:Hid _:=And.intro hb0 hk0;have hlen:rs.length≤1048576:=by have:=sizR_len rs;omega
 have hlI:(rs.length:Int)≤1048576:=by omega
 clear fo hS hlt ho hr hb0 hk0
 go_enter Tryz.func5,Tryz.ntmps5
 go_wp2_with (go_at_call 14;refine hold ?_)
 rw[← hW0]
 clear hW0;refine Calls.mono CC.out ?_;rintro e w1 ⟨c,rfl,hcheck,hb1⟩;have hB1:=HK0.out.1.trans (hb1.mono HK0.out.1.size);have hK1:=HK0.out.2.below hb1;have HCK:Hid (CheckIs rs c):=hcheck;have HK1:Hid _:=And.intro hB1 hK1;clear CC HK0 hb1
 by_cases hc0:c=0
 ·subst hc0;clear hB1 hK1 hcheck;have hbad:∀ j,¬ Bad rs j:=by
   rcases HCK.out with ⟨_,h⟩|⟨j,h,_⟩
   ·exact h
   ·omega
  have htidy:tidyB rs=true:=by simpa [Bad] using hbad 0
  have hfirst:∀ (i:Nat) (r:Ru),rs[i]?=some r→r.1=1→i=0:=fun i r hi h1=>by
   by_cases h0:0<i
   ·exact absurd ((bad1_iff (rules_nodes (ap_is (HFO.out _ HK1.out.1).2.1)) htidy).2 ⟨i,r,hi,h1,.inl h0⟩) (hbad 1)
   ·omega
  have CN:Hid (Calls Tryz.prog 15 #[.slice (some ⟨g,0,none⟩) rs.length cap] w1 _):=sNames hsz (HFO.out _ HK1.out.1).2.2 (HFO.out _ HK1.out.1).1 (ap_is (HFO.out _ HK1.out.1).2.1)
  go_wp2_with (go_at_call 15;refine hold ?_)
  refine Calls.mono CN.out ?_;clear CN;rintro e w2 ⟨gv,kv,gc,kc,rfl,o1,o2,hb2⟩;have e1:(ascS (Ck.varsIn (dfs rs))).length=(nmV rs).length:=by rw[nmV_dfs,List.length_map]
  have e2:(ascS (Ck.cellsIn (dfs rs))).length=(nmC rs).length:=by rw[nmC_dfs,List.length_map]
  have hV:RdT w2 (some ⟨gv,0,none⟩) (nmV rs):=by
   rw[nmV_dfs]
   refine rdt_of o1 fun s hs=>nmV_small hsz s ?_
   rw[ascS_mem] at hs ⊢
   simpa only [Ck.varsIn,List.mem_filterMap,mem_allOf,mem_dfs] using hs
  have hC:RdT w2 (some ⟨gc,0,none⟩) (nmC rs):=by
   rw[nmC_dfs]
   refine rdt_of o2 fun s hs=>nmC_small hsz s ?_
   rw[ascS_mem] at hs ⊢
   simpa only [Ck.cellsIn,List.mem_filterMap,mem_allOf,mem_dfs] using hs
  obtain⟨n1,hn1⟩:=hid_eq (nmV rs).length
  obtain⟨n2,hn2⟩:=hid_eq (nmC rs).length
  rw[e1,e2,← hn1.out,← hn2.out]
  have hfew:=few_names (hbad 2);have hB2:=HK1.out.1.trans (hb2.mono HK1.out.1.size);have HK2:Hid (Below w.heap.size w w2∧Blk 27 w2 w.heap.size [.slice none 0 0,.slice none 0 0,.slice none 0 0,.slice none 0 0]∧RdT w2 (some ⟨gv,0,none⟩) (nmV rs)∧RdT w2 (some ⟨gc,0,none⟩) (nmC rs)):=⟨hB2,HK1.out.2.below hb2,hV,hC⟩
  obtain⟨X,hX⟩:∃ X:Fx,Hid (X=⟨w2,w2.heap.size,some ⟨gv,0,none⟩,some ⟨gc,0,none⟩,kv,kc,nmV rs,nmC rs⟩):=⟨_,rfl⟩
  obtain⟨Y,hY⟩:∃ Y:Fx,Hid (Y=⟨w2,w2.heap.size+1,some ⟨gv,0,none⟩,some ⟨gc,0,none⟩,kv,kc,nmV rs,nmC rs⟩):=⟨_,rfl⟩
  have hXW:Hid (X.W=w2):=by show _=_;rw[hX.out]
  have hXp:Hid (X.p=w2.heap.size):=by show _=_;rw[hX.out]
  have hYp:Hid (Y.p=w2.heap.size+1):=by show _=_;rw[hY.out]
  have hYW:Hid (Y.W=X.W):=by show _=_;rw[hX.out,hY.out]
  have hiv:Hid (Y.iv=X.iv∧Y.ic=X.ic):=by show _∧_;rw[hX.out,hY.out];exact⟨rfl,rfl⟩
  have hXi:Hid (X.iv=idx0 (nmV rs)∧X.ic=idx0 (nmC rs)):=by show _∧_;rw[hX.out];exact⟨rfl,rfl⟩
  have HST:Hid (∀ k,k<rs.length→∃ kd p b po bo pc bc,Rnd w2 rs k g kd p b po bo pc bc∧Steps X Y rs kd p b po bo pc bc∧(kd=1∨kd=2∨kd=3)):=fun k hk=>by
   obtain⟨kd,p,b,po,bo,pc,bc,hR⟩:=rnd_of (HFO.out _ hB2).1 (HFO.out _ hB2).2.1 hk
   exact⟨kd,p,b,po,bo,pc,bc,hR,steps_of hsz htidy hYW.out hiv.out.1 hiv.out.2 (by rw[hXW.out];exact hR),(tidy_rule htidy (List.mem_of_getElem? hR.at')).2.2.2⟩
  obtain⟨W3,hW3⟩:∃ W3,W3=(w2.alloc (.cells #[.slice (some ⟨gv,0,none⟩) n1 kv,.slice (some ⟨gc,0,none⟩) n2 kc,.slice none 0 0] 48)).alloc (.cells #[.slice (some ⟨gv,0,none⟩) n1 kv,.slice (some ⟨gc,0,none⟩) n2 kc,.slice none 0 0] 48):=⟨_,rfl⟩
  have HA0:Hid (AtT X Y [] [] [] W3):=by
   show AtT _ _ _ _ _ _
   rw[hX.out,hY.out,hW3,hn1.out,hn2.out]
   exact two_new hV hC (by omega) (by omega)
  have HSZ:Hid _:=hsz;have HF1:Hid _:=hfirst;have HBAD:Hid _:=And.intro hbad htidy;clear hsz hfirst hbad htidy hV hC o1 o2 hb2 hB2 e1 e2 HK1 HFO hfew hX hY;go_wp2_with fail
  rw[← hW3]
  clear hW3
  go_loopw [9] (fun i wr=>∃ k:Nat,k≤rs.length∧i=.int .i64 k∧Hid (AtT X Y [] (rulesP X.iv X.ic (begs (rs.take k)) 0) (rulesP X.iv X.ic (rest (rs.take k)) 0) wr)) (fun i _=>rs.length - (intOf i).toNat)
  case atStart=>exact⟨0,Nat.zero_le _,rfl,(by show AtT _ _ _ _ _ _;exact HA0.out)⟩
  case round =>
   clear HA0
   obtain⟨k,hkn,rfl,HA⟩:=hrel
   by_cases hkl:k<rs.length
   ·obtain⟨kd,p,b,po,bo,pc,bc,hR,hST,hkd⟩:=HST.out k hkl
    have hbs:=begs_next X.iv X.ic hR.at';have hrs:=rest_next X.iv X.ic hR.at';have f1:=places_few HSZ.out (begs_sub rs (k+1)) X.iv X.ic 0;have f2:=places_few HSZ.out (rest_sub rs (k+1)) X.iv X.ic 0;have cc:∀ j x,([.int .i64 kd,.int .i64 (opOf p),.int .i64 (numOf p),.string ⟨(txtOf p).toArray⟩,.slice po (kidsOf p).length pc,.int .i64 (opOf b),.int .i64 (numOf b),.string ⟨(txtOf b).toArray⟩,.slice bo (kidsOf b).length bc]:List Value)[j]?=some x→wr.cell? ⟨g,k*9+j,none⟩=some x:=fun j x hj=>HA.out.cell (by rw[hXW.out];exact hR.cells j x hj);have c0:=cc 0 _ rfl
    rw[Nat.add_zero] at c0
    have c1:=cc 1 _ rfl;have c2:=cc 2 _ rfl;have c3:=cc 3 _ rfl;have c4:=cc 4 _ rfl;have c5:=cc 5 _ rfl;have c6:=cc 6 _ rfl;have c7:=cc 7 _ rfl;have c8:=cc 8 _ rfl;have bk:(k:Int)<rs.length:=by omega
    obtain⟨L,hL⟩:=hid_eq (rulesP X.iv X.ic (begs (rs.take k)) 0)
    obtain⟨M,hM⟩:=hid_eq (rulesP X.iv X.ic (rest (rs.take k)) 0)
    rw[← hL.out,← hM.out] at HA
    rw[← hL.out] at hbs
    rw[← hM.out] at hrs
    clear hL hM;rcases hkd with rfl|rfl|rfl
    ·have hb1:=hbs;have hr1:=hrs
     obtain⟨wb,hwb⟩:∃ wb,wb=wr.alloc (.cells #[.int .i64 1,.int .i64 (opOf p),.int .i64 (numOf p),.string ⟨(txtOf p).toArray⟩,.slice po (kidsOf p).length pc,.int .i64 (opOf b),.int .i64 (numOf b),.string ⟨(txtOf b).toArray⟩,.slice bo (kidsOf b).length bc] 53):=⟨_,rfl⟩
     have hA':AtT X Y [(wr.heap.size,53,[.int .i64 1,.int .i64 (opOf p),.int .i64 (numOf p),.string ⟨(txtOf p).toArray⟩,.slice po (kidsOf p).length pc,.int .i64 (opOf b),.int .i64 (numOf b),.string ⟨(txtOf b).toArray⟩,.slice bo (kidsOf b).length bc])] L M wb:=by rw[hwb];exact HA.out.more _ _
     rw[if_pos rfl] at hb1 hr1
     skip
     have C1:Hid (Calls Tryz.prog 16 #[.pointer (some ⟨w2.heap.size,0,none⟩),.agg #[.int .i64 (opOf b),.int .i64 (numOf b),.string ⟨(txtOf b).toArray⟩,.slice bo (kidsOf b).length bc]] wb fun e w'=>e=.returned (.tuple #[])∧AtT X Y [(wr.heap.size,53,[.int .i64 1,.int .i64 (opOf p),.int .i64 (numOf p),.string ⟨(txtOf p).toArray⟩,.slice po (kidsOf p).length pc,.int .i64 (opOf b),.int .i64 (numOf b),.string ⟨(txtOf b).toArray⟩,.slice bo (kidsOf b).length bc])] (L++seqOf X.iv X.ic (kidsOf b) L.length) M w'):=by
      have h:=hST.beg _ L M wb hA' (by rw[← hb1];omega)
      rw[hXp.out] at h
      exact h
     have HN:Hid (∀ w',AtT X Y [(wr.heap.size,53,[.int .i64 1,.int .i64 (opOf p),.int .i64 (numOf p),.string ⟨(txtOf p).toArray⟩,.slice po (kidsOf p).length pc,.int .i64 (opOf b),.int .i64 (numOf b),.string ⟨(txtOf b).toArray⟩,.slice bo (kidsOf b).length bc])] (L++seqOf X.iv X.ic (kidsOf b) L.length) M w'→AtT X Y [] (rulesP X.iv X.ic (begs (rs.take (k+1))) 0) (rulesP X.iv X.ic (rest (rs.take (k+1))) 0) w'):=fun w' h=>by
      rw[hb1,hr1]
      exact h.fewer (by simp)
     clear hA' hb1 hr1 hbs hrs hST hR HST cc f1 f2 HA
     go_wp2_with (go_at_call 16;refine hold ?_)
     rw[← hwb]
     refine Calls.mono C1.out ?_;clear C1 hwb c0 c1 c2 c3 c4 c5 c6 c7 c8;rintro e w4 ⟨rfl,h4⟩;have H4:Hid _:=HN.out w4 h4;clear h4 HN;go_wp2_with fail;go_roundw
     case rel=>exact⟨k+1,hkl,by go_num,H4⟩
     case measure=>simp[intOf];omega
    ·have hb1:=hbs;have hr1:=hrs
     obtain⟨wb,hwb⟩:∃ wb,wb=wr.alloc (.cells #[.int .i64 2,.int .i64 (opOf p),.int .i64 (numOf p),.string ⟨(txtOf p).toArray⟩,.slice po (kidsOf p).length pc,.int .i64 (opOf b),.int .i64 (numOf b),.string ⟨(txtOf b).toArray⟩,.slice bo (kidsOf b).length bc] 53):=⟨_,rfl⟩
     have hA':AtT X Y [(wr.heap.size,53,[.int .i64 2,.int .i64 (opOf p),.int .i64 (numOf p),.string ⟨(txtOf p).toArray⟩,.slice po (kidsOf p).length pc,.int .i64 (opOf b),.int .i64 (numOf b),.string ⟨(txtOf b).toArray⟩,.slice bo (kidsOf b).length bc])] L M wb:=by rw[hwb];exact HA.out.more _ _
     rw[if_neg (show ¬ ((2:Int),p,b).1=1 by show ¬ (2:Int)=1;decide)] at hb1 hr1
     rw[show ruleP X.iv X.ic (2,p,b)=seqOf X.iv X.ic (kidsOf b) from by unfold ruleP;rw[if_neg (show ¬ ((2:Int),p,b).1=3 by show ¬ (2:Int)=3;decide)]] at hr1
     have C1:Hid (Calls Tryz.prog 16 #[.pointer (some ⟨w2.heap.size+1,0,none⟩),.agg #[.int .i64 (opOf b),.int .i64 (numOf b),.string ⟨(txtOf b).toArray⟩,.slice bo (kidsOf b).length bc]] wb fun e w'=>e=.returned (.tuple #[])∧AtT X Y [(wr.heap.size,53,[.int .i64 2,.int .i64 (opOf p),.int .i64 (numOf p),.string ⟨(txtOf p).toArray⟩,.slice po (kidsOf p).length pc,.int .i64 (opOf b),.int .i64 (numOf b),.string ⟨(txtOf b).toArray⟩,.slice bo (kidsOf b).length bc])] L (M++seqOf X.iv X.ic (kidsOf b) M.length) w'):=by
      have h:=hST.body _ L M wb hA' (by rw[← hr1];omega)
      rw[hYp.out] at h
      exact h
     have HN:Hid (∀ w',AtT X Y [(wr.heap.size,53,[.int .i64 2,.int .i64 (opOf p),.int .i64 (numOf p),.string ⟨(txtOf p).toArray⟩,.slice po (kidsOf p).length pc,.int .i64 (opOf b),.int .i64 (numOf b),.string ⟨(txtOf b).toArray⟩,.slice bo (kidsOf b).length bc])] L (M++seqOf X.iv X.ic (kidsOf b) M.length) w'→AtT X Y [] (rulesP X.iv X.ic (begs (rs.take (k+1))) 0) (rulesP X.iv X.ic (rest (rs.take (k+1))) 0) w'):=fun w' h=>by
      rw[hb1,hr1]
      exact h.fewer (by simp)
     clear hA' hb1 hr1 hbs hrs hST hR HST cc f1 f2 HA
     go_wp2_with (go_at_call 16;refine hold ?_)
     rw[← hwb]
     refine Calls.mono C1.out ?_;clear C1 hwb c0 c1 c2 c3 c4 c5 c6 c7 c8;rintro e w4 ⟨rfl,h4⟩;have H4:Hid _:=HN.out w4 h4;clear h4 HN;go_wp2_with fail;go_roundw
     case rel=>exact⟨k+1,hkl,by go_num,H4⟩
     case measure=>simp[intOf];omega
    ·have hb1:=hbs;have hr1:=hrs
     rw[if_neg (show ¬ ((3:Int),p,b).1=1 by show ¬ (3:Int)=1;decide)] at hb1 hr1
     obtain⟨fa,hfa⟩:=hid_eq (nodeP X.iv X.ic p M.length)
     obtain⟨fc,hfc⟩:=hid_eq (seqOf X.iv X.ic (kidsOf b) (M.length+fa.length+1))
     have hr2:(rulesP X.iv X.ic (rest (rs.take (k+1))) 0)=M++(fa++(31,((M.length+fa.length+1+fc.length:Nat):Int),none')::fc):=by
      rw[hr1]
      unfold ruleP
      rw[if_pos (by rfl)]
      simp only[ifV,← hfa.out,← hfc.out]
     have hlb:M.length+fa.length+1+fc.length≤33554432:=by
      have h:=f2
      rw[hr2] at h
      simp only[List.length_append,List.length_cons] at h;omega
     obtain⟨wb,hwb⟩:∃ wb,wb=wr.alloc (.cells #[.int .i64 3,.int .i64 (opOf p),.int .i64 (numOf p),.string ⟨(txtOf p).toArray⟩,.slice po (kidsOf p).length pc,.int .i64 (opOf b),.int .i64 (numOf b),.string ⟨(txtOf b).toArray⟩,.slice bo (kidsOf b).length bc] 53):=⟨_,rfl⟩
     have hA':AtT X Y [(wr.heap.size,53,[.int .i64 3,.int .i64 (opOf p),.int .i64 (numOf p),.string ⟨(txtOf p).toArray⟩,.slice po (kidsOf p).length pc,.int .i64 (opOf b),.int .i64 (numOf b),.string ⟨(txtOf b).toArray⟩,.slice bo (kidsOf b).length bc])] L M wb:=by rw[hwb];exact HA.out.more _ _
     have C1:Hid (Calls Tryz.prog 17 #[.pointer (some ⟨w2.heap.size+1,0,none⟩),.agg #[.int .i64 (opOf p),.int .i64 (numOf p),.string ⟨(txtOf p).toArray⟩,.slice po (kidsOf p).length pc]] wb fun e w'=>e=.returned (.tuple #[])∧AtT X Y [(wr.heap.size,53,[.int .i64 3,.int .i64 (opOf p),.int .i64 (numOf p),.string ⟨(txtOf p).toArray⟩,.slice po (kidsOf p).length pc,.int .i64 (opOf b),.int .i64 (numOf b),.string ⟨(txtOf b).toArray⟩,.slice bo (kidsOf b).length bc])] L (M++fa) w'):=by
      have h:=hST.pat rfl _ L M wb hA' (by rw[← hfa.out];simp only[List.length_append];omega)
      rw[hYp.out,← hfa.out] at h
      exact h
     obtain⟨jn,hjn⟩:=hid_eq (M++fa).length
     have C2:Hid (∀ w',AtT X Y [(wr.heap.size,53,[.int .i64 3,.int .i64 (opOf p),.int .i64 (numOf p),.string ⟨(txtOf p).toArray⟩,.slice po (kidsOf p).length pc,.int .i64 (opOf b),.int .i64 (numOf b),.string ⟨(txtOf b).toArray⟩,.slice bo (kidsOf b).length bc])] L (M++fa) w'→Calls Tryz.prog 18 #[.pointer (some ⟨w2.heap.size+1,0,none⟩),.int .i64 31,.int .i64 0,.string ⟨#[]⟩] w' fun e w''=>e=.returned (.int .i64 jn)∧AtT X Y [(wr.heap.size,53,[.int .i64 3,.int .i64 (opOf p),.int .i64 (numOf p),.string ⟨(txtOf p).toArray⟩,.slice po (kidsOf p).length pc,.int .i64 (opOf b),.int .i64 (numOf b),.string ⟨(txtOf b).toArray⟩,.slice bo (kidsOf b).length bc])] L ((M++fa)++[(31,0,none')]) w''):=fun w' h=>by
      have h':=put_right h (by simp only[List.length_append];omega) 31 0 none'
      rw[hYp.out,← hjn.out] at h'
      exact h'
     have C3:Hid (∀ w',AtT X Y [(wr.heap.size,53,[.int .i64 3,.int .i64 (opOf p),.int .i64 (numOf p),.string ⟨(txtOf p).toArray⟩,.slice po (kidsOf p).length pc,.int .i64 (opOf b),.int .i64 (numOf b),.string ⟨(txtOf b).toArray⟩,.slice bo (kidsOf b).length bc])] L ((M++fa)++[(31,0,none')]) w'→Calls Tryz.prog 16 #[.pointer (some ⟨w2.heap.size+1,0,none⟩),.agg #[.int .i64 (opOf b),.int .i64 (numOf b),.string ⟨(txtOf b).toArray⟩,.slice bo (kidsOf b).length bc]] w' fun e w''=>e=.returned (.tuple #[])∧AtT X Y [(wr.heap.size,53,[.int .i64 3,.int .i64 (opOf p),.int .i64 (numOf p),.string ⟨(txtOf p).toArray⟩,.slice po (kidsOf p).length pc,.int .i64 (opOf b),.int .i64 (numOf b),.string ⟨(txtOf b).toArray⟩,.slice bo (kidsOf b).length bc])] L (((M++fa)++[(31,0,none')])++fc) w''):=fun w' h=>by
      have e:((M++fa)++[((31,0,none'):Vl)]).length=M.length+fa.length+1:=by simp;omega
      have h':=hST.body _ L _ w' h (by rw[e,← hfc.out,List.length_append,e];omega)
      rw[hYp.out,e,← hfc.out] at h'
      exact h'
     have HJ:Hid (jn=(M++fa).length∧M.length+fa.length+1+fc.length≤33554432):=⟨hjn.out,hlb⟩;have HN:Hid (∀ w',AtT X Y [(wr.heap.size,53,[.int .i64 3,.int .i64 (opOf p),.int .i64 (numOf p),.string ⟨(txtOf p).toArray⟩,.slice po (kidsOf p).length pc,.int .i64 (opOf b),.int .i64 (numOf b),.string ⟨(txtOf b).toArray⟩,.slice bo (kidsOf b).length bc])] L ((M++fa)++(31,((M.length+fa.length+1+fc.length:Nat):Int),none')::fc) w'→AtT X Y [] (rulesP X.iv X.ic (begs (rs.take (k+1))) 0) (rulesP X.iv X.ic (rest (rs.take (k+1))) 0) w'):=fun w' h=>by
      rw[hb1,hr2]
      rw[List.append_assoc] at h
      exact h.fewer (by simp)
     clear hA' hb1 hr1 hbs hrs hST hR HST cc f1 f2 HA hlb hr2 hfa hfc hjn
     go_wp2_with (go_at_call 17;refine hold ?_)
     rw[← hwb]
     refine Calls.mono C1.out ?_;clear C1 hwb c0 c1 c2 c3 c4 c5 c6 c7 c8;rintro e w4 ⟨rfl,h4⟩;have C2':Hid _:=C2.out w4 h4;clear h4 C2
     go_wp2_with (go_at_call 18;refine hold ?_)
     refine Calls.mono C2'.out ?_;clear C2';rintro e w5 ⟨rfl,h5⟩;have C3':Hid _:=C3.out w5 h5;have b5:=h5.box (b:=(wr.heap.size,53,[.int .i64 3,.int .i64 (opOf p),.int .i64 (numOf p),.string ⟨(txtOf p).toArray⟩,.slice po (kidsOf p).length pc,.int .i64 (opOf b),.int .i64 (numOf b),.string ⟨(txtOf b).toArray⟩,.slice bo (kidsOf b).length bc])) (by simp) 5 rfl;have b6:=h5.box (b:=(wr.heap.size,53,[.int .i64 3,.int .i64 (opOf p),.int .i64 (numOf p),.string ⟨(txtOf p).toArray⟩,.slice po (kidsOf p).length pc,.int .i64 (opOf b),.int .i64 (numOf b),.string ⟨(txtOf b).toArray⟩,.slice bo (kidsOf b).length bc])) (by simp) 6 rfl;have b7:=h5.box (b:=(wr.heap.size,53,[.int .i64 3,.int .i64 (opOf p),.int .i64 (numOf p),.string ⟨(txtOf p).toArray⟩,.slice po (kidsOf p).length pc,.int .i64 (opOf b),.int .i64 (numOf b),.string ⟨(txtOf b).toArray⟩,.slice bo (kidsOf b).length bc])) (by simp) 7 rfl;have b8:=h5.box (b:=(wr.heap.size,53,[.int .i64 3,.int .i64 (opOf p),.int .i64 (numOf p),.string ⟨(txtOf p).toArray⟩,.slice po (kidsOf p).length pc,.int .i64 (opOf b),.int .i64 (numOf b),.string ⟨(txtOf b).toArray⟩,.slice bo (kidsOf b).length bc])) (by simp) 8 rfl;clear h5 C3
     go_wp2_with (go_at_call 16;refine hold ?_)
     refine Calls.mono C3'.out ?_;clear C3' b5 b6 b7 b8;rintro e w6 ⟨rfl,h6⟩
     obtain⟨N6,hN6⟩:=hid_eq (M.length+fa.length+1+fc.length:Nat)
     obtain⟨g6,cap6,q2,q5,fz,hjN,hK⟩:=at_land (at_none h6.two.b) (l1:=M++fa) (c:=31) (n:=0) (s:=none') (l2:=fc) (by simp) HJ.out.1 (N:=N6) (by rw[hN6.out];simp;omega)
     rw[hYp.out] at q2
     have hjI:(jn:Int)<N6:=by omega
     have hNI:(N6:Int)≤40000000:=by have h1:=HJ.out.2;have h2:=hN6.out;omega
     have HK:Hid _:=h6.right hK.wk hK.ch;clear hK hjN h6;go_wp2_with fail;go_region;have H7:Hid (AtT X Y [] (rulesP X.iv X.ic (begs (rs.take (k+1))) 0) (rulesP X.iv X.ic (rest (rs.take (k+1))) 0) ((w6.setCell ⟨g6,jn*3+1,none⟩ (.int .i64 N6)).drew)):=HN.out _ (by rw[← hN6.out];exact HK.out);clear HK HN q2 q5 fz;go_wp2_with fail;go_roundw
     case rel=>exact⟨k+1,hkl,by go_num,H7⟩
     case measure=>simp[intOf];omega
   ·obtain rfl:k=rs.length:=by omega
    rw[List.take_length] at HA
    have HL:Hid (rulesP X.iv X.ic (begs rs) 0++[(36,0,none')]=stV rs∧rulesP X.iv X.ic (rest rs) 0++[(36,0,none')]=mnV rs):=by
     show _∧_;have hf:=beg_filter HF1.out;unfold begs rest stV mnV
     rw[hf.1,hf.2,hXi.out.1,hXi.out.2,rules_same HBAD.out.2 (fun r hr=>List.mem_of_mem_take hr),rules_same HBAD.out.2 (fun r hr=>List.mem_of_mem_drop hr)]
     exact⟨rfl,rfl⟩
    have f1:=places_few HSZ.out (List.filter_sublist (p:=fun r=>decide (r.1=1)) (l:=rs)) X.iv X.ic 0;have f2:=places_few HSZ.out (List.filter_sublist (p:=fun r=>!decide (r.1=1)) (l:=rs)) X.iv X.ic 0;have C1:Hid (Calls Tryz.prog 18 #[.pointer (some ⟨w2.heap.size,0,none⟩),.int .i64 36,.int .i64 0,.string ⟨#[]⟩] wr fun e w'=>∃ j:Nat,e=.returned (.int .i64 j)∧AtT X Y [] (stV rs) (rulesP X.iv X.ic (rest rs) 0) w'):=by
     have h:=put_left HA.out (by show (rulesP X.iv X.ic (begs rs) 0).length<_;unfold begs;omega) 36 0 none'
     rw[hXp.out] at h
     refine Calls.mono h ?_;rintro e w' ⟨h1,h2⟩
     rw[HL.out.1] at h2
     exact⟨_,h1,h2⟩
    have C2:Hid (∀ w',AtT X Y [] (stV rs) (rulesP X.iv X.ic (rest rs) 0) w'→Calls Tryz.prog 18 #[.pointer (some ⟨w2.heap.size+1,0,none⟩),.int .i64 36,.int .i64 0,.string ⟨#[]⟩] w' fun e w''=>∃ j:Nat,e=.returned (.int .i64 j)∧AtT X Y [] (stV rs) (mnV rs) w''):=fun w' hA=>by
     have h:=put_right hA (by unfold rest;omega) 36 0 none'
     rw[hYp.out] at h
     refine Calls.mono h ?_;rintro e w'' ⟨h1,h2⟩
     rw[HL.out.2] at h2
     exact⟨_,h1,h2⟩
    have hls:(stV rs).length≤33554433∧(mnV rs).length≤33554433:=by
     rw[← HL.out.1,← HL.out.2]
     unfold begs rest;simp only[List.length_append,List.length_singleton];omega
    clear f1 f2 HL HST HA HF1
    go_wp2_with (go_at_call 18;refine hold ?_)
    refine Calls.mono C1.out ?_;clear C1;rintro e w4 ⟨j4,rfl,h4⟩;have C2':Hid _:=C2.out w4 h4;clear h4 C2
    go_wp2_with (go_at_call 18;refine hold ?_)
    refine Calls.mono C2'.out ?_;clear C2';rintro e w5 ⟨j5,rfl,h5⟩
    obtain⟨ao3,cap3,k1,k2⟩:=h5.two.a.blk
    obtain⟨ao4,cap4,k3,k4⟩:=h5.two.b.blk
    have q3:=k1.cell 2 rfl
    rw[hXp.out] at q3
    have q4:=k3.cell 2 rfl
    rw[hYp.out] at q4
    have hb25:Below w2.heap.size w2 w5:=by have:=h5.two.a.below;rwa [hXW.out] at this
    have HW:Hid (Below w2.heap.size w2 w5∧RdV w5 ao3 (stV rs)∧RdV w5 ao4 (mnV rs)∧(stV rs).length≤33554433∧(mnV rs).length≤33554433):=⟨hb25,row_rd k2 (small_stV HSZ.out _ _ _ fun r hr=>List.mem_of_mem_take hr),row_rd k4 (small_stV HSZ.out _ _ _ fun r hr=>List.mem_of_mem_drop hr),hls⟩;clear h5 k1 k2 k3 k4 hb25 hls;have q3a:∀ o,(w5.alloc o).cell? ⟨w2.heap.size,2,none⟩=some (.slice ao3 (stV rs).length cap3):=fun o=>(((Below.refl _ w5).alloc (Nat.le_refl _) o).cell (World.block_lt_of_cell? _ _ q3)).trans q3;have q4a:∀ o,(w5.alloc o).cell? ⟨w2.heap.size+1,2,none⟩=some (.slice ao4 (mnV rs).length cap4):=fun o=>(((Below.refl _ w5).alloc (Nat.le_refl _) o).cell (World.block_lt_of_cell? _ _ q4)).trans q4
    obtain⟨m3,hm3⟩:=hid_eq (stV rs).length
    obtain⟨m4,hm4⟩:=hid_eq (mnV rs).length
    rw[← hm3.out] at q3 q3a
    rw[← hm4.out] at q4 q4a
    go_wp2_with fail;go_region
    obtain⟨W6,hW6⟩:∃ W6,W6=(w5.alloc (.cells #[.slice (some ⟨gv,0,none⟩) n1 kv,.slice (some ⟨gc,0,none⟩) n2 kc,.slice ao3 m3 cap3,.slice ao4 m4 cap4] 27)).drew:=⟨_,rfl⟩
    have hb56:Below w5.heap.size w5 W6:=by rw[hW6];exact ((Below.refl _ w5).alloc (Nat.le_refl _) _).drew
    have hk6:Blk 27 W6 w5.heap.size [.slice (some ⟨gv,0,none⟩) n1 kv,.slice (some ⟨gc,0,none⟩) n2 kc,.slice ao3 m3 cap3,.slice ao4 m4 cap4]:=by rw[hW6];exact Blk.new _ _ _
    have hB26:=HW.out.1.trans (hb56.mono HW.out.1.size);have hB06:=HK2.out.1.trans (hB26.mono HK2.out.1.size);have hkR:=HK2.out.2.1.below hB26;have hV:=HK2.out.2.2.1.below hB26;have hC:=HK2.out.2.2.2.below hB26;have r3:=HW.out.2.1.below hb56;have r4:=HW.out.2.2.1.below hb56;have hfew:=few_names (HBAD.out.1 2);have CO:Hid (Calls Tryz.prog 19 #[.agg #[.slice (some ⟨gv,0,none⟩) n1 kv,.slice (some ⟨gc,0,none⟩) n2 kc,.slice ao3 m3 cap3,.slice ao4 m4 cap4]] W6 fun e w'=>e=.returned (.bool (okV rs))∧Below W6.heap.size W6 w'):=by
     have C:=Pg.sProgOk Oc.parseS (vc:=kv) (cc:=kc) (sc:=cap3) (mc:=cap4) hV hC r3 r4 (smV_names HSZ.out).1 (smV_names HSZ.out).2 (small_stV HSZ.out _ _ _ fun r hr=>List.mem_of_mem_take hr) (small_stV HSZ.out _ _ _ fun r hr=>List.mem_of_mem_drop hr) (by omega) (by omega) (by have:=HW.out.2.2.2.1;omega) (by have:=HW.out.2.2.2.2;omega);show Calls _ _ _ _ _
     rw[hn1.out,hn2.out,hm3.out,hm4.out]
     exact C
    have H6:Hid _:=And.intro hB06 (And.intro hkR (And.intro hk6 (And.intro hV (And.intro hC (And.intro r3 r4)))));clear hb56 hk6 hB26 hB06 hkR hV hC r3 r4 hfew q3 q4 q3a q4a
    go_wp2_with (go_at_call 19;refine hold ?_)
    rw[← hW6]
    clear hW6;refine Calls.mono CO.out ?_;clear CO;rintro e w7 ⟨rfl,hb7⟩;have hbx:=H6.out.2.2.1.below hb7;have hkr:=H6.out.2.1.below hb7;have y0:=hbx.cell 0 rfl;have y1:=hbx.cell 1 rfl;have y2:=hbx.cell 2 rfl;have y3:=hbx.cell 3 rfl;have x0:=hkr.cell 0 rfl;have x1:=hkr.cell 1 rfl;have x2:=hkr.cell 2 rfl;have x3:=hkr.cell 3 rfl;have f0:=hkr.frozen;have H7:Hid _:=And.intro hb7 hkr
    obtain⟨ok,hok⟩:∃ ok,Hid (ok=okV rs):=⟨_,rfl⟩
    rw[← hok.out]
    clear hb7 hbx hkr
    cases ok with
    | false =>
     go_wp2_with fail;have hB7:=H6.out.1.trans (H7.out.1.mono H6.out.1.size);refine ret_comp Tryz.results5 rfl rfl rfl ((((H7.out.2.set 0 _).set 1 _).set 2 _).set 3 _) ⟨0,HCK.out,?_,.inr (.inl ⟨rfl,hok.out.symm,rfl⟩)⟩;exact (((hB7.setCell (by simp) _).setCell (by simp) _).setCell (by simp) _).setCell (by simp) _
    | true =>
     go_wp2_with fail;have hB7:=H6.out.1.trans (H7.out.1.mono H6.out.1.size);have hB8:=(((hB7.setCell (p:=⟨w.heap.size,0,none⟩) (by simp) (.slice (some ⟨gv,0,none⟩) n1 kv)).setCell (p:=⟨w.heap.size,1,none⟩) (by simp) (.slice (some ⟨gc,0,none⟩) n2 kc)).setCell (p:=⟨w.heap.size,2,none⟩) (by simp) (.slice ao3 m3 cap3)).setCell (p:=⟨w.heap.size,3,none⟩) (by simp) (.slice ao4 m4 cap4);refine ret_comp Tryz.results5 rfl rfl rfl ((((H7.out.2.set 0 _).set 1 _).set 2 _).set 3 _) ⟨0,HCK.out,hB8,.inr (.inr ⟨rfl,hok.out.symm,some ⟨gv,0,none⟩,kv,some ⟨gc,0,none⟩,kc,ao3,cap3,ao4,cap4,?_,?_⟩)⟩
     ·rw[← hn1.out,← hn2.out,← hm3.out,← hm4.out]
      rfl
     ·obtain⟨-,-,-,t1,t2,t3,t4⟩:=H6.out
      exact⟨rdt_far (t1.below H7.out.1) H7.out.2 (by simp) (fun k h=>far4 k h),rdt_far (t2.below H7.out.1) H7.out.2 (by simp) (fun k h=>far4 k h),rdv_far (t3.below H7.out.1) H7.out.2 (by simp) (fun k h=>far4 k h),rdv_far (t4.below H7.out.1) H7.out.2 (by simp) (fun k h=>far4 k h)⟩
 ·have x0:=hK1.cell 0 rfl;have x1:=hK1.cell 1 rfl;have x2:=hK1.cell 2 rfl;have x3:=hK1.cell 3 rfl;have f0:=hK1.frozen;clear hB1 hK1 hcheck;go_wp2_with fail;refine ret_comp Tryz.results5 rfl rfl rfl ((((HK1.out.2.set 0 _).set 1 _).set 2 _).set 3 _) ⟨c,HCK.out,?_,.inl ⟨hc0,rfl⟩⟩;exact (((HK1.out.1.setCell (by simp) _).setCell (by simp) _).setCell (by simp) _).setCell (by simp) _
end Sp
end Go.Proofs.YtllbachngocmnaaGreatDoor
