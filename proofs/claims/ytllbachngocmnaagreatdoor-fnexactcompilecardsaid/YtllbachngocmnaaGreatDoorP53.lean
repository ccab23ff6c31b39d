/-
  The laws' marks of a program; what Compile answers, on both sides alike.
-/
import Derived.Test.YtllbachngocmnaaGreatDoorP45
import Derived.Test.YtllbachngocmnaaGreatDoorP51
import Derived.Test.YtllbachngocmnaaGreatDoorP52
namespace Go.Proofs.YtllbachngocmnaaGreatDoor
open Go.RowKit
namespace Cm
open St (Vl encV RdV)
open Nd Ty Ck Mk
open Pg (RdT SmT idx progB PRd PSm)
open Oc (hold Blk SmV)
theorem lMarkOp0 (k:Int)(w:World):Calls Tryz.prog 31 #[.slice none 0 0,.int .i64 k] w fun e w'=>e=.returned (.int .i64 k)∧w'=w:=by
 go_enter Tryz.func31,Tryz.ntmps31
 go_wp2_with fail
 go_loopw [1,5] (fun kv iv wr=>kv=.int .i64 k∧iv=.int .i64 0∧wr=w) (fun _ _ _=>0)
 case atStart=>exact⟨rfl,rfl,rfl⟩
 case round =>
  obtain⟨rfl,rfl,rfl⟩:=hrel
  go_wp2_with fail;go_ret
  exact⟨rfl,rfl⟩
theorem lHeldOp0 (k:Int)(w:World):Calls Tryz.prog 33 #[.slice none 0 0,.int .i64 k] w fun e w'=>e=.returned (.int .i64 k)∧w'=w:=by
 go_enter Tryz.func33,Tryz.ntmps33
 go_wp2_with fail
 go_loopw [1,5] (fun kv iv wr=>kv=.int .i64 k∧iv=.int .i64 0∧wr=w) (fun _ _ _=>0)
 case atStart=>exact⟨rfl,rfl,rfl⟩
 case round =>
  obtain⟨rfl,rfl,rfl⟩:=hrel
  go_wp2_with fail;go_ret
  exact⟨rfl,rfl⟩
theorem lMarkOpsR {w:World}{v:Value}{B n k:Nat}{L:List Vl}(h:w.ownsRow B 57 3 v n (L.flatMap encV))(hn:n≤1048576)(h1:1≤k)(hk:k≤4000000):
  Calls Tryz.prog 31 #[v,.int .i64 k] w fun e w'=>e=.returned (.int .i64 (k+3*n:Nat))∧w'.ownsRow B 57 3 v n ((mkVs k n).flatMap encV)∧Turned (fun _=>False) v w w':=by
 rcases h.2 with ⟨rfl,rfl⟩|⟨g,cap,-,rfl,-⟩
 ·refine (lMarkOp0 k w).mono ?_;rintro e w' ⟨rfl,rfl⟩
  exact⟨rfl,World.ownsRow_nil _ _ _ _,Turned.refl _ _ _⟩
 ·exact lMarkOps h (OR.len h) hn h1 hk
theorem lHeldOpsR {w:World}{v:Value}{B n k:Nat}(h:w.ownsRow B 57 3 v n ((mkVs k n).flatMap encV))(hn:n≤1048576)(h1:1≤k)(hk:k≤4000000):
  Calls Tryz.prog 33 #[v,.int .i64 k] w fun e w'=>e=.returned (.int .i64 (k+3*n:Nat))∧Below w.heap.size w w':=by
 rcases h.2 with ⟨rfl,rfl⟩|⟨g,cap,-,rfl,-⟩
 ·refine (lHeldOp0 k w).mono ?_;rintro e w' ⟨rfl,rfl⟩
  exact⟨rfl,Below.refl _ _⟩
 ·exact lHeldOps h hn h1 hk
structure Four (B:Nat)(w:World)(v1 v2 v3 v4:Value)(n1 n2 n3 n4:Nat)(x1 x2:List Value)(L3 L4:List Vl):Prop where
 o1:w.ownsRow B 9 1 v1 n1 x1
 o2:w.ownsRow B 9 1 v2 n2 x2
 o3:w.ownsRow B 57 3 v3 n3 (L3.flatMap encV)
 o4:w.ownsRow B 57 3 v4 n4 (L4.flatMap encV)
 a1:∀ k,v1.ownBlock=some k→v2.ownBlock≠some k∧v3.ownBlock≠some k∧v4.ownBlock≠some k
 a2:∀ k,v2.ownBlock=some k→v3.ownBlock≠some k∧v4.ownBlock≠some k
 a3:∀ k,v3.ownBlock=some k→v4.ownBlock≠some k
theorem Four.kept {B:Nat}{w w':World}{v1 v2 v3 v4:Value}{n1 n2 n3 n4:Nat}{x1 x2:List Value}{L3 L4:List Vl}(h:Four B w v1 v2 v3 v4 n1 n2 n3 n4 x1 x2 L3 L4)(hs:∀ k,B≤k→k<w.heap.size→w'.heap[k]?=w.heap[k]?):Four B w' v1 v2 v3 v4 n1 n2 n3 n4 x1 x2 L3 L4 :=
 ⟨owns_same h.o1 fun g hg=>hs g (h.o1.lt g hg).1 (h.o1.lt g hg).2,owns_same h.o2 fun g hg=>hs g (h.o2.lt g hg).1 (h.o2.lt g hg).2,owns_same h.o3 fun g hg=>hs g (h.o3.lt g hg).1 (h.o3.lt g hg).2,owns_same h.o4 fun g hg=>hs g (h.o4.lt g hg).1 (h.o4.lt g hg).2,h.a1,h.a2,h.a3⟩
theorem Four.below {B:Nat}{w w':World}{v1 v2 v3 v4:Value}{n1 n2 n3 n4:Nat}{x1 x2:List Value}{L3 L4:List Vl}(h:Four B w v1 v2 v3 v4 n1 n2 n3 n4 x1 x2 L3 L4)(hb:Below w.heap.size w w'):Four B w' v1 v2 v3 v4 n1 n2 n3 n4 x1 x2 L3 L4:=h.kept fun k _ hk=>hb.block k hk
theorem Four.lt {B:Nat}{w:World}{v1 v2 v3 v4:Value}{n1 n2 n3 n4:Nat}{x1 x2:List Value}{L3 L4:List Vl}(h:Four B w v1 v2 v3 v4 n1 n2 n3 n4 x1 x2 L3 L4){k:Nat}(hk:v1.ownBlock=some k∨v2.ownBlock=some k∨v3.ownBlock=some k∨v4.ownBlock=some k):B≤k∧k<w.heap.size:=by
 rcases hk with hk|hk|hk|hk
 ·exact h.o1.lt k hk
 ·exact h.o2.lt k hk
 ·exact h.o3.lt k hk
 ·exact h.o4.lt k hk
structure Turn4 (v1 v2 v3 v4:Value)(w w':World):Prop where
 os:w'.os=w.os
 tape:w'.tape=w.tape
 output:w'.output=w.output
 size:w.heap.size≤w'.heap.size
 block:∀ j,j<w.heap.size→¬ (v1.ownBlock=some j∨v2.ownBlock=some j∨v3.ownBlock=some j∨v4.ownBlock=some j)→w'.heap[j]?=w.heap[j]?
theorem Turn4.of {v1 v2 v3 v4 v:Value}{w w' w'':World}(h:Turn4 v1 v2 v3 v4 w w')(hT:Turned (fun _=>False) v w' w'')(hv:v=v1∨v=v2∨v=v3∨v=v4):Turn4 v1 v2 v3 v4 w w'' :=
 ⟨hT.os.trans h.os,hT.tape.trans h.tape,hT.output.trans h.output,Nat.le_trans h.size hT.size,fun j hj hn=>(hT.block j (Nat.lt_of_lt_of_le hj h.size) (fun h=>h) (fun e=>hn (by rcases hv with rfl|rfl|rfl|rfl <;> simp[e]))).trans (h.block j hj hn)⟩
theorem Turn4.below {v1 v2 v3 v4:Value}{w w':World}(h:Turn4 v1 v2 v3 v4 w w'){a:World}{n:Nat}(hb:Below n a w)(hn:n≤w.heap.size)(hv:∀ k,v1.ownBlock=some k∨v2.ownBlock=some k∨v3.ownBlock=some k∨v4.ownBlock=some k→n≤k):Below n a w' :=
 ⟨h.os.trans hb.os,h.tape.trans hb.tape,h.output.trans hb.output,Nat.le_trans hb.size h.size,fun k hk=>(h.block k (Nat.lt_of_lt_of_le hk hn) (fun e=>by have:=hv k e;omega)).trans (hb.block k hk)⟩
theorem four1 {B:Nat}{w w':World}{v1 v2 v3 v4:Value}{n1 n2 n3 n4:Nat}{x1 x2 y1:List Value}{L3 L4:List Vl}(h:Four B w v1 v2 v3 v4 n1 n2 n3 n4 x1 x2 L3 L4)(hT:Turned (fun _=>False) v1 w w')(ho:w'.ownsRow B 9 1 v1 n1 y1):Four B w' v1 v2 v3 v4 n1 n2 n3 n4 y1 x2 L3 L4 :=
 ⟨ho,owns_same h.o2 fun g hg=>hT.block g (h.o2.lt g hg).2 (fun h=>h) (fun e=>(h.a1 g e).1 hg),owns_same h.o3 fun g hg=>hT.block g (h.o3.lt g hg).2 (fun h=>h) (fun e=>(h.a1 g e).2.1 hg),owns_same h.o4 fun g hg=>hT.block g (h.o4.lt g hg).2 (fun h=>h) (fun e=>(h.a1 g e).2.2 hg),h.a1,h.a2,h.a3⟩
theorem four2 {B:Nat}{w w':World}{v1 v2 v3 v4:Value}{n1 n2 n3 n4:Nat}{x1 x2 y2:List Value}{L3 L4:List Vl}(h:Four B w v1 v2 v3 v4 n1 n2 n3 n4 x1 x2 L3 L4)(hT:Turned (fun _=>False) v2 w w')(ho:w'.ownsRow B 9 1 v2 n2 y2):Four B w' v1 v2 v3 v4 n1 n2 n3 n4 x1 y2 L3 L4 :=
 ⟨owns_same h.o1 fun g hg=>hT.block g (h.o1.lt g hg).2 (fun h=>h) (fun e=>(h.a1 g hg).1 e),ho,owns_same h.o3 fun g hg=>hT.block g (h.o3.lt g hg).2 (fun h=>h) (fun e=>(h.a2 g e).1 hg),owns_same h.o4 fun g hg=>hT.block g (h.o4.lt g hg).2 (fun h=>h) (fun e=>(h.a2 g e).2 hg),h.a1,h.a2,h.a3⟩
theorem four3 {B:Nat}{w w':World}{v1 v2 v3 v4:Value}{n1 n2 n3 n4:Nat}{x1 x2:List Value}{L3 L4 M3:List Vl}(h:Four B w v1 v2 v3 v4 n1 n2 n3 n4 x1 x2 L3 L4)(hT:Turned (fun _=>False) v3 w w')(ho:w'.ownsRow B 57 3 v3 n3 (M3.flatMap encV)):Four B w' v1 v2 v3 v4 n1 n2 n3 n4 x1 x2 M3 L4 :=
 ⟨owns_same h.o1 fun g hg=>hT.block g (h.o1.lt g hg).2 (fun h=>h) (fun e=>(h.a1 g hg).2.1 e),owns_same h.o2 fun g hg=>hT.block g (h.o2.lt g hg).2 (fun h=>h) (fun e=>(h.a2 g hg).1 e),ho,owns_same h.o4 fun g hg=>hT.block g (h.o4.lt g hg).2 (fun h=>h) (fun e=>(h.a3 g e) hg),h.a1,h.a2,h.a3⟩
theorem four4 {B:Nat}{w w':World}{v1 v2 v3 v4:Value}{n1 n2 n3 n4:Nat}{x1 x2:List Value}{L3 L4 M4:List Vl}(h:Four B w v1 v2 v3 v4 n1 n2 n3 n4 x1 x2 L3 L4)(hT:Turned (fun _=>False) v4 w w')(ho:w'.ownsRow B 57 3 v4 n4 (M4.flatMap encV)):Four B w' v1 v2 v3 v4 n1 n2 n3 n4 x1 x2 L3 M4 :=
 ⟨owns_same h.o1 fun g hg=>hT.block g (h.o1.lt g hg).2 (fun h=>h) (fun e=>(h.a1 g hg).2.2 e),owns_same h.o2 fun g hg=>hT.block g (h.o2.lt g hg).2 (fun h=>h) (fun e=>(h.a2 g hg).2 e),owns_same h.o3 fun g hg=>hT.block g (h.o3.lt g hg).2 (fun h=>h) (fun e=>(h.a3 g hg) e),ho,h.a1,h.a2,h.a3⟩
theorem Turned.blk {v:Value}{w w':World}{T:TypeId}{b:Nat}{xs:List Value}(hT:Turned (fun _=>False) v w w')(h:Blk T w b xs)(hn:v.ownBlock≠some b):Blk T w' b xs:=(hT.block b h.lt (fun h=>h) hn).trans h
set_option maxHeartbeats 2000000 in
set_option maxRecDepth 100000 in
theorem lMarkProg {B:Nat}{w:World}{v1 v2 v3 v4:Value}{n1 n2 n3 n4:Nat}{x1 x2:List Value}{L3 L4:List Vl}(h:Four B w v1 v2 v3 v4 n1 n2 n3 n4 x1 x2 L3 L4)(s1:∀ x∈x1,∃ s,x=.string s)(s2:∀ x∈x2,∃ s,x=.string s)(b1:n1≤1500)(b2:n2≤1500)(b3:n3≤1500)(b4:n4≤1500):
  Calls Tryz.prog 11 #[.agg #[v1,v2,v3,v4],.int .i64 1] w fun e w'=>e=.returned (.int .i64 (1+n1+n2+3*n3+3*n4:Nat))∧Four B w' v1 v2 v3 v4 n1 n2 n3 n4 ((mks 1 n1).map encStr) ((mks (1+n1) n2).map encStr) (mkVs (1+n1+n2) n3) (mkVs (1+n1+n2+3*n3) n4)∧Turn4 v1 v2 v3 v4 w w':=by
 obtain⟨a1,c1,rfl⟩:=owns_slice h.o1
 obtain⟨a2,c2,rfl⟩:=owns_slice h.o2
 obtain⟨a3,c3,rfl⟩:=owns_slice h.o3
 obtain⟨a4,c4,rfl⟩:=owns_slice h.o4
 obtain⟨W0,hW0⟩:∃ W0,W0=w.alloc (.cells #[.slice a1 n1 c1,.slice a2 n2 c2,.slice a3 n3 c3,.slice a4 n4 c4] 27):=⟨_,rfl⟩
 have hb0:Below w.heap.size w W0:=by rw[hW0];exact (Below.refl _ w).alloc (Nat.le_refl _) _
 have hk0:Blk 27 W0 w.heap.size [.slice a1 n1 c1,.slice a2 n2 c2,.slice a3 n3 c3,.slice a4 n4 c4]:=by rw[hW0];exact Blk.new _ _ _
 have hF0:=h.below hb0;have hT0:Turn4 (.slice a1 n1 c1) (.slice a2 n2 c2) (.slice a3 n3 c3) (.slice a4 n4 c4) w W0:=⟨hb0.os,hb0.tape,hb0.output,hb0.size,fun j hj _=>hb0.block j hj⟩;have hne:∀ v:Value,v=.slice a1 n1 c1∨v=.slice a2 n2 c2∨v=.slice a3 n3 c3∨v=.slice a4 n4 c4→v.ownBlock≠some w.heap.size:=fun v hv e=>by
  have:=(h.lt (k:=w.heap.size) (by rcases hv with rfl|rfl|rfl|rfl <;> simp[e])).2
  omega
 have C1:Hid (Calls Tryz.prog 30 #[.slice a1 n1 c1,.int .i64 1] W0 fun e w'=>e=.returned (.int .i64 (1+n1:Nat))∧Four B w' (.slice a1 n1 c1) (.slice a2 n2 c2) (.slice a3 n3 c3) (.slice a4 n4 c4) n1 n2 n3 n4 ((mks 1 n1).map encStr) x2 L3 L4∧Turn4 (.slice a1 n1 c1) (.slice a2 n2 c2) (.slice a3 n3 c3) (.slice a4 n4 c4) w w'∧Blk 27 w' w.heap.size [.slice a1 n1 c1,.slice a2 n2 c2,.slice a3 n3 c3,.slice a4 n4 c4]) :=
  (lMarkTxt (k:=1) hF0.o1 s1 (by omega) (by omega) (by omega)).mono fun e w' ⟨e1,e2,e3⟩=>⟨e1,four1 hF0 e3 e2,hT0.of e3 (.inl rfl),Turned.blk e3 hk0 (hne _ (.inl rfl))⟩
 have C2:Hid (∀ W k,k=1+n1→Four B W (.slice a1 n1 c1) (.slice a2 n2 c2) (.slice a3 n3 c3) (.slice a4 n4 c4) n1 n2 n3 n4 ((mks 1 n1).map encStr) x2 L3 L4→Turn4 (.slice a1 n1 c1) (.slice a2 n2 c2) (.slice a3 n3 c3) (.slice a4 n4 c4) w W→Blk 27 W w.heap.size [.slice a1 n1 c1,.slice a2 n2 c2,.slice a3 n3 c3,.slice a4 n4 c4]→Calls Tryz.prog 30 #[.slice a2 n2 c2,.int .i64 k] W fun e w'=>e=.returned (.int .i64 (k+n2:Nat))∧Four B w' (.slice a1 n1 c1) (.slice a2 n2 c2) (.slice a3 n3 c3) (.slice a4 n4 c4) n1 n2 n3 n4 ((mks 1 n1).map encStr) ((mks (1+n1) n2).map encStr) L3 L4∧Turn4 (.slice a1 n1 c1) (.slice a2 n2 c2) (.slice a3 n3 c3) (.slice a4 n4 c4) w w'∧Blk 27 w' w.heap.size [.slice a1 n1 c1,.slice a2 n2 c2,.slice a3 n3 c3,.slice a4 n4 c4]):=fun W k hk hF hT hB=>by
  subst hk;exact (lMarkTxt (k:=1+n1) hF.o2 s2 (by omega) (by omega) (by omega)).mono fun e w' ⟨e1,e2,e3⟩=>⟨e1,four2 hF e3 e2,hT.of e3 (.inr (.inl rfl)),Turned.blk e3 hB (hne _ (.inr (.inl rfl)))⟩
 have C3:Hid (∀ W k,k=1+n1+n2→Four B W (.slice a1 n1 c1) (.slice a2 n2 c2) (.slice a3 n3 c3) (.slice a4 n4 c4) n1 n2 n3 n4 ((mks 1 n1).map encStr) ((mks (1+n1) n2).map encStr) L3 L4→Turn4 (.slice a1 n1 c1) (.slice a2 n2 c2) (.slice a3 n3 c3) (.slice a4 n4 c4) w W→Blk 27 W w.heap.size [.slice a1 n1 c1,.slice a2 n2 c2,.slice a3 n3 c3,.slice a4 n4 c4]→Calls Tryz.prog 31 #[.slice a3 n3 c3,.int .i64 k] W fun e w'=>e=.returned (.int .i64 (k+3*n3:Nat))∧Four B w' (.slice a1 n1 c1) (.slice a2 n2 c2) (.slice a3 n3 c3) (.slice a4 n4 c4) n1 n2 n3 n4 ((mks 1 n1).map encStr) ((mks (1+n1) n2).map encStr) (mkVs (1+n1+n2) n3) L4∧Turn4 (.slice a1 n1 c1) (.slice a2 n2 c2) (.slice a3 n3 c3) (.slice a4 n4 c4) w w'∧Blk 27 w' w.heap.size [.slice a1 n1 c1,.slice a2 n2 c2,.slice a3 n3 c3,.slice a4 n4 c4]):=fun W k hk hF hT hB=>by
  subst hk;exact (lMarkOpsR (k:=1+n1+n2) hF.o3 (by omega) (by omega) (by omega)).mono fun e w' ⟨e1,e2,e3⟩=>⟨e1,four3 hF e3 e2,hT.of e3 (.inr (.inr (.inl rfl))),Turned.blk e3 hB (hne _ (.inr (.inr (.inl rfl))))⟩
 have C4:Hid (∀ W k,k=1+n1+n2+3*n3→Four B W (.slice a1 n1 c1) (.slice a2 n2 c2) (.slice a3 n3 c3) (.slice a4 n4 c4) n1 n2 n3 n4 ((mks 1 n1).map encStr) ((mks (1+n1) n2).map encStr) (mkVs (1+n1+n2) n3) L4→Turn4 (.slice a1 n1 c1) (.slice a2 n2 c2) (.slice a3 n3 c3) (.slice a4 n4 c4) w W→Calls Tryz.prog 31 #[.slice a4 n4 c4,.int .i64 k] W fun e w'=>e=.returned (.int .i64 (k+3*n4:Nat))∧Four B w' (.slice a1 n1 c1) (.slice a2 n2 c2) (.slice a3 n3 c3) (.slice a4 n4 c4) n1 n2 n3 n4 ((mks 1 n1).map encStr) ((mks (1+n1) n2).map encStr) (mkVs (1+n1+n2) n3) (mkVs (1+n1+n2+3*n3) n4)∧Turn4 (.slice a1 n1 c1) (.slice a2 n2 c2) (.slice a3 n3 c3) (.slice a4 n4 c4) w w'):=fun W k hk hF hT=>by
  subst hk;exact (lMarkOpsR (k:=1+n1+n2+3*n3) hF.o4 (by omega) (by omega) (by omega)).mono fun e w' ⟨e1,e2,e3⟩=>⟨e1,four4 hF e3 e2,hT.of e3 (.inr (.inr (.inr rfl)))⟩
 clear h hF0 hT0 hb0 hk0 hne s1 s2
 go_enter Tryz.func11,Tryz.ntmps11
 go_wp2_with (go_at_call 30;refine hold ?_)
 rw[← hW0]
 clear hW0;refine Calls.mono C1.out ?_;clear C1;rintro e w1 ⟨rfl,f1,t1,k1⟩
 obtain⟨m1,hm1⟩:=hid_eq (1+n1:Nat)
 rw[← hm1.out]
 have D:Hid _:=C2.out w1 m1 hm1.out f1 t1 k1;have y1:=k1.cell 1 rfl;clear C2 f1 t1 k1
 go_wp2_with (go_at_call 30;refine hold ?_)
 refine Calls.mono D.out ?_;clear D y1;rintro e w2 ⟨rfl,f2,t2,k2⟩
 obtain⟨m2,hm2⟩:=hid_eq (m1+n2:Nat)
 rw[← hm2.out]
 have D:Hid _:=C3.out w2 m2 (by rw[hm2.out,hm1.out]) f2 t2 k2;have y2:=k2.cell 2 rfl;clear C3 f2 t2 k2
 go_wp2_with (go_at_call 31;refine hold ?_)
 refine Calls.mono D.out ?_;clear D y2;rintro e w3 ⟨rfl,f3,t3,k3⟩
 obtain⟨m3,hm3⟩:=hid_eq (m2+3*n3:Nat)
 rw[← hm3.out]
 have D:Hid _:=C4.out w3 m3 (by rw[hm3.out,hm2.out,hm1.out]) f3 t3;have y3:=k3.cell 3 rfl;clear C4 f3 t3 k3
 go_wp2_with (go_at_call 31;refine hold ?_)
 refine Calls.mono D.out ?_;clear D y3;rintro e w4 ⟨rfl,f4,t4⟩;have H4:Hid _:=And.intro f4 t4
 obtain⟨m4,hm4⟩:=hid_eq (m3+3*n4:Nat)
 rw[← hm4.out]
 clear f4 t4;go_wp2_with fail;go_ret
 exact⟨by rw[← show m4=1+n1+n2+3*n3+3*n4 by rw[hm4.out,hm3.out,hm2.out,hm1.out]];rfl,H4.out.1,H4.out.2⟩
set_option maxHeartbeats 2000000 in
set_option maxRecDepth 100000 in
theorem lHeldProg {B:Nat}{w:World}{v1 v2 v3 v4:Value}{n1 n2 n3 n4:Nat}(h:Four B w v1 v2 v3 v4 n1 n2 n3 n4 ((mks 1 n1).map encStr) ((mks (1+n1) n2).map encStr) (mkVs (1+n1+n2) n3) (mkVs (1+n1+n2+3*n3) n4))(b1:n1≤1500)(b2:n2≤1500)(b3:n3≤1500)(b4:n4≤1500):
  Calls Tryz.prog 12 #[.agg #[v1,v2,v3,v4],.int .i64 1] w fun e w'=>e=.returned (.int .i64 (1+n1+n2+3*n3+3*n4:Nat))∧Below w.heap.size w w':=by
 obtain⟨a1,c1,rfl⟩:=owns_slice h.o1
 obtain⟨a2,c2,rfl⟩:=owns_slice h.o2
 obtain⟨a3,c3,rfl⟩:=owns_slice h.o3
 obtain⟨a4,c4,rfl⟩:=owns_slice h.o4
 obtain⟨W0,hW0⟩:∃ W0,W0=w.alloc (.cells #[.slice a1 n1 c1,.slice a2 n2 c2,.slice a3 n3 c3,.slice a4 n4 c4] 27):=⟨_,rfl⟩
 have hb0:Below w.heap.size w W0:=by rw[hW0];exact (Below.refl _ w).alloc (Nat.le_refl _) _
 have hk0:Blk 27 W0 w.heap.size [.slice a1 n1 c1,.slice a2 n2 c2,.slice a3 n3 c3,.slice a4 n4 c4]:=by rw[hW0];exact Blk.new _ _ _
 have hF0:=h.below hb0;have HF:Hid (∀ W,Below W0.heap.size W0 W→Four B W (.slice a1 n1 c1) (.slice a2 n2 c2) (.slice a3 n3 c3) (.slice a4 n4 c4) n1 n2 n3 n4 ((mks 1 n1).map encStr) ((mks (1+n1) n2).map encStr) (mkVs (1+n1+n2) n3) (mkVs (1+n1+n2+3*n3) n4)):=fun W hb=>hF0.below hb;have C1:Hid (Calls Tryz.prog 32 #[.slice a1 n1 c1,.int .i64 1] W0 fun e w'=>e=.returned (.int .i64 (1+n1:Nat))∧Below W0.heap.size W0 w'):=lHeldTxt (k:=1) hF0.o1 (by omega) (by omega) (by omega);have C2:Hid (∀ W k,k=1+n1→Below W0.heap.size W0 W→Calls Tryz.prog 32 #[.slice a2 n2 c2,.int .i64 k] W fun e w'=>e=.returned (.int .i64 (k+n2:Nat))∧Below W.heap.size W w'):=fun W k hk hb=>by
  subst hk;exact lHeldTxt (k:=1+n1) (HF.out W hb).o2 (by omega) (by omega) (by omega)
 have C3:Hid (∀ W k,k=1+n1+n2→Below W0.heap.size W0 W→Calls Tryz.prog 33 #[.slice a3 n3 c3,.int .i64 k] W fun e w'=>e=.returned (.int .i64 (k+3*n3:Nat))∧Below W.heap.size W w'):=fun W k hk hb=>by
  subst hk;exact lHeldOpsR (k:=1+n1+n2) (HF.out W hb).o3 (by omega) (by omega) (by omega)
 have C4:Hid (∀ W k,k=1+n1+n2+3*n3→Below W0.heap.size W0 W→Calls Tryz.prog 33 #[.slice a4 n4 c4,.int .i64 k] W fun e w'=>e=.returned (.int .i64 (k+3*n4:Nat))∧Below W.heap.size W w'):=fun W k hk hb=>by
  subst hk;exact lHeldOpsR (k:=1+n1+n2+3*n3) (HF.out W hb).o4 (by omega) (by omega) (by omega)
 have HK0:Hid _:=And.intro hb0 hk0;have c1I:(n1:Int)≤1500:=by omega
 have c2I:(n2:Int)≤1500:=by omega
 have c3I:(n3:Int)≤1500:=by omega
 have c4I:(n4:Int)≤1500:=by omega
 clear h hF0 hb0 hk0 HF
 go_enter Tryz.func12,Tryz.ntmps12
 go_wp2_with (go_at_call 32;refine hold ?_)
 rw[← hW0]
 clear hW0;refine Calls.mono C1.out ?_;clear C1;rintro e w1 ⟨rfl,hb1⟩
 obtain⟨m1,hm1⟩:=hid_eq (1+n1:Nat)
 rw[← hm1.out]
 have D:Hid _:=C2.out w1 m1 hm1.out hb1;have HB:Hid (Below W0.heap.size W0 w1):=hb1;have y1:=(HK0.out.2.below hb1).cell 1 rfl;have q1:¬ ((m1:Int)<0):=by omega
 clear C2 hb1
 go_wp2_with (go_at_call 32;refine hold ?_)
 refine Calls.mono D.out ?_;clear D y1;rintro e w2 ⟨rfl,hb2⟩
 obtain⟨m2,hm2⟩:=hid_eq (m1+n2:Nat)
 rw[← hm2.out]
 have HB2:Hid (Below W0.heap.size W0 w2):=HB.out.trans (hb2.mono HB.out.size);have D:Hid _:=C3.out w2 m2 (by rw[hm2.out,hm1.out]) HB2.out;have y2:=(HK0.out.2.below HB2.out).cell 2 rfl;have q2:¬ ((m2:Int)<0):=by omega
 clear C3 hb2
 go_wp2_with (go_at_call 33;refine hold ?_)
 refine Calls.mono D.out ?_;clear D y2;rintro e w3 ⟨rfl,hb3⟩
 obtain⟨m3,hm3⟩:=hid_eq (m2+3*n3:Nat)
 rw[← hm3.out]
 have HB3:Hid (Below W0.heap.size W0 w3):=HB2.out.trans (hb3.mono HB2.out.size);have D:Hid _:=C4.out w3 m3 (by rw[hm3.out,hm2.out,hm1.out]) HB3.out;have y3:=(HK0.out.2.below HB3.out).cell 3 rfl;have q3:¬ ((m3:Int)<0):=by omega
 clear C4 hb3
 go_wp2_with (go_at_call 33;refine hold ?_)
 refine Calls.mono D.out ?_;clear D y3;rintro e w4 ⟨rfl,hb4⟩
 obtain⟨m4,hm4⟩:=hid_eq (m3+3*n4:Nat)
 rw[← hm4.out]
 have HB4:Hid (Below W0.heap.size W0 w4):=HB3.out.trans (hb4.mono HB3.out.size);have q4:¬ ((m4:Int)<0):=by omega
 clear hb4;go_wp2_with fail;go_ret
 exact⟨by rw[← show m4=1+n1+n2+3*n3+3*n4 by rw[hm4.out,hm3.out,hm2.out,hm1.out]];rfl,HK0.out.1.trans (HB4.out.mono HK0.out.1.size)⟩
def resV (rs:List Ru)(c:Int):List (List UInt8):=if c=0∧okV rs=true then ascS (Ck.varsIn (allOf rs)) else []
def resC (rs:List Ru)(c:Int):List (List UInt8):=if c=0∧okV rs=true then ascS (Ck.cellsIn (allOf rs)) else []
def resS (rs:List Ru)(c:Int):List Vl:=if c=0∧okV rs=true then stV rs else []
def resM (rs:List Ru)(c:Int):List Vl:=if c=0∧okV rs=true then mnV rs else []
def code (rs:List Ru)(c:Int):Int:=if c=0 then (if okV rs=true then 0 else 3) else c
theorem res_yes {rs:List Ru}(h:okV rs=true):resV rs 0=ascS (Ck.varsIn (allOf rs))∧resC rs 0=ascS (Ck.cellsIn (allOf rs))∧resS rs 0=stV rs∧resM rs 0=mnV rs∧code rs 0=0:=by simp[resV,resC,resS,resM,code,h]
theorem res_no {rs:List Ru}{c:Int}(h:¬ (c=0∧okV rs=true)):resV rs c=[]∧resC rs c=[]∧resS rs c=[]∧resM rs c=[]:=by
 unfold resV resC resS resM
 rw[if_neg h,if_neg h,if_neg h,if_neg h]
 exact⟨rfl,rfl,rfl,rfl⟩
theorem four_nil (B:Nat)(w:World):Four B w (.slice none 0 0) (.slice none 0 0) (.slice none 0 0) (.slice none 0 0) 0 0 0 0 [] [] [] [] :=
 ⟨World.ownsRow_nil _ _ _ _,World.ownsRow_nil _ _ _ _,World.ownsRow_nil _ _ _ _,World.ownsRow_nil _ _ _ _,fun k h=>by simp[Value.ownBlock] at h,fun k h=>by simp[Value.ownBlock] at h,fun k h=>by simp[Value.ownBlock] at h⟩
theorem impl_res {rs:List Ru}{c:Int}{w:World}{e:Ending}{w':World}(h:CompOut rs c w e w'):Below w.heap.size w w'∧∃ v1 v2 v3 v4,e=.returned (.tuple #[.agg #[v1,v2,v3,v4],.int .i64 (code rs c)])∧Four w.heap.size w' v1 v2 v3 v4 (resV rs c).length (resC rs c).length (resS rs c).length (resM rs c).length ((resV rs c).map encStr) ((resC rs c).map encStr) (resS rs c) (resM rs c):=by
 obtain⟨hb,⟨hc,he⟩|⟨hc,hok,he⟩|⟨hc,hok,v1,v2,v3,v4,he,o1,o2,o3,o4,a1,a2,a3⟩⟩:=h
 ·obtain⟨r1,r2,r3,r4⟩:=res_no (rs:=rs) (c:=c) (fun h=>hc h.1)
  refine⟨hb,_,_,_,_,by rw[he];unfold code;rw[if_neg hc],?_⟩
  rw[r1,r2,r3,r4]
  exact four_nil _ _
 ·subst hc
  obtain⟨r1,r2,r3,r4⟩:=res_no (rs:=rs) (c:=0) (fun h=>by rw[hok] at h;simp at h)
  refine⟨hb,_,_,_,_,by rw[he];unfold code;rw[if_pos rfl,hok];rfl,?_⟩
  rw[r1,r2,r3,r4]
  exact four_nil _ _
 ·subst hc
  obtain⟨r1,r2,r3,r4,r5⟩:=res_yes hok
  refine⟨hb,v1,v2,v3,v4,by rw[he,r5],?_⟩
  rw[r1,r2,r3,r4]
  have l1:(nmV rs).length=(ascS (Ck.varsIn (allOf rs))).length:=by unfold nmV;rw[List.length_map]
  have l2:(nmC rs).length=(ascS (Ck.cellsIn (allOf rs))).length:=by unfold nmC;rw[List.length_map]
  rw[l1] at o1
  rw[l2] at o2
  exact⟨o1,o2,o3,o4,a1,a2,a3⟩
theorem prd_nil (w:World):PRd w none none none none [] [] [] []:=⟨fun i s h=>by simp at h,fun i s h=>by simp at h,fun i s h=>by simp at h,fun i s h=>by simp at h⟩
theorem spec_res {rs:List Ru}{c:Int}{w:World}{e:Ending}{w':World}(h:Sp.SCompOut rs c w e w'):Below w.heap.size w w'∧∃ a1 c1 a2 c2 a3 c3 a4 c4,e=.returned (.tuple #[.agg #[.slice a1 (resV rs c).length c1,.slice a2 (resC rs c).length c2,.slice a3 (resS rs c).length c3,.slice a4 (resM rs c).length c4],.int .i64 (code rs c)])∧PRd w' a1 a2 a3 a4 ((resV rs c).map tx) ((resC rs c).map tx) (resS rs c) (resM rs c):=by
 obtain⟨hb,⟨hc,he⟩|⟨hc,hok,he⟩|⟨hc,hok,a1,c1,a2,c2,a3,c3,a4,c4,he,t1,t2,t3,t4⟩⟩:=h
 ·obtain⟨r1,r2,r3,r4⟩:=res_no (rs:=rs) (c:=c) (fun h=>hc h.1)
  refine⟨hb,none,0,none,0,none,0,none,0,?_,?_⟩
  ·rw[he,r1,r2,r3,r4];unfold code;rw[if_neg hc];rfl
  ·rw[r1,r2,r3,r4];exact prd_nil _
 ·subst hc
  obtain⟨r1,r2,r3,r4⟩:=res_no (rs:=rs) (c:=0) (fun h=>by rw[hok] at h;simp at h)
  refine⟨hb,none,0,none,0,none,0,none,0,?_,?_⟩
  ·rw[he,r1,r2,r3,r4];unfold code;rw[if_pos rfl,hok];rfl
  ·rw[r1,r2,r3,r4];exact prd_nil _
 ·subst hc
  obtain⟨r1,r2,r3,r4,r5⟩:=res_yes hok
  have l1:(nmV rs).length=(ascS (Ck.varsIn (allOf rs))).length:=by unfold nmV;rw[List.length_map]
  have l2:(nmC rs).length=(ascS (Ck.cellsIn (allOf rs))).length:=by unfold nmC;rw[List.length_map]
  refine⟨hb,a1,c1,a2,c2,a3,c3,a4,c4,?_,?_⟩
  ·rw[he,r1,r2,r3,r4,r5,l1,l2]
  ·rw[r1,r2,r3,r4];exact⟨t1,t2,t3,t4⟩
theorem res_small {rs:List Ru}{c:Int}(hsz:sizR rs≤1048576)(hc:CheckIs rs c):PSm ((resV rs c).map tx) ((resC rs c).map tx) (resS rs c) (resM rs c)∧(resV rs c).length≤1500∧(resC rs c).length≤1500∧(resS rs c).length≤1500∧(resM rs c).length≤1500:=by
 by_cases h:c=0∧okV rs=true
 ·obtain⟨rfl,hok⟩:=h
  obtain⟨r1,r2,r3,r4,r5⟩:=res_yes hok
  have hbad:∀ j,¬ Bad rs j:=by
   rcases hc with ⟨_,h⟩|⟨j,h,_⟩
   ·exact h
   ·omega
  have hf:=few_names (hbad 2);have hp:=pl_few hok;have l1:(nmV rs).length=(ascS (Ck.varsIn (allOf rs))).length:=by unfold nmV;rw[List.length_map]
  have l2:(nmC rs).length=(ascS (Ck.cellsIn (allOf rs))).length:=by unfold nmC;rw[List.length_map]
  have s3:=small_stV hsz (idx (nmV rs)) (idx (nmC rs)) (rs.take (begN rs)) (fun r hr=>List.mem_of_mem_take hr);have s4:=small_stV hsz (idx (nmV rs)) (idx (nmC rs)) (rs.drop (begN rs)) (fun r hr=>List.mem_of_mem_drop hr)
  rw[r1,r2,r3,r4]
  exact⟨⟨by rw[List.length_map];omega,(smV_names hsz).1,by rw[List.length_map];omega,(smV_names hsz).2,by omega,s3,by omega,s4⟩,by omega,by omega,hp.1,hp.2⟩
 ·obtain⟨r1,r2,r3,r4⟩:=res_no h
  rw[r1,r2,r3,r4]
  exact⟨⟨by simp,fun s h=>by simp at h,by simp,fun s h=>by simp at h,by simp,fun s h=>by simp at h,by simp,fun s h=>by simp at h⟩,by simp,by simp,by simp,by simp⟩
theorem four_prd {B:Nat}{w:World}{a1 a2 a3 a4:Option Addr}{c1 c2 c3 c4:Nat}{V C:List (List UInt8)}{L3 L4:List Vl}(h:Four B w (.slice a1 V.length c1) (.slice a2 C.length c2) (.slice a3 L3.length c3) (.slice a4 L4.length c4) V.length C.length L3.length L4.length (V.map encStr) (C.map encStr) L3 L4)(hs:PSm (V.map tx) (C.map tx) L3 L4):PRd w a1 a2 a3 a4 (V.map tx) (C.map tx) L3 L4:=by
 refine⟨rdt_of h.o1 fun s hs'=>?_,rdt_of h.o2 fun s hs'=>?_,Sp.row_rd h.o3 hs.ss,Sp.row_rd h.o4 hs.ms⟩
 ·have:=hs.vs (tx s) (List.mem_map_of_mem hs')
  unfold SmT at this
  rwa [tx_size] at this
 ·have:=hs.cs (tx s) (List.mem_map_of_mem hs')
  unfold SmT at this
  rwa [tx_size] at this
end Cm
namespace Cm
open St (Vl encV RdV)
open Nd Ty Ck Mk
open Pg (RdT SmT idx progB PRd PSm lEqProg)
open Oc (hold Blk SmV)
theorem below_turnedC {n:Nat}{a w w':World}{S:Nat→Prop}{u:Value}(h:Below n a w)(ht:Turned S u w w')(hn:n≤w.heap.size)(hS:∀ k,k<n→¬ S k∧u.ownBlock≠some k):Below n a w' :=
 ⟨ht.os.trans h.os,ht.tape.trans h.tape,ht.output.trans h.output,Nat.le_trans h.size ht.size,fun k hk=>(ht.block k (Nat.lt_of_lt_of_le hk hn) (hS k hk).1 (hS k hk).2).trans (h.block k hk)⟩
structure Env (w:World)(a b ad:Addr):Prop where
 sn:Oc.Sn w a b
 ety:Ety w
 err:w.cell? ⟨1,0,none⟩=some (errV ad)
 tab:∀ op:Nat,(op=6∨op=7∨op=8∨(9≤op∧op≤20)∨op=22∨op=23∨op=33∨op=35)→w.cell? ⟨3,op,none⟩=some (.int .i64 (plainC op))
theorem Env.later {w w':World}{a b ad:Addr}(h:Env w a b ad)(hb:Below w.heap.size w w'):Env w' a b ad :=
 ⟨h.sn.below hb,h.ety.later hb,(hb.cell (World.block_lt_of_cell? _ _ h.err)).trans h.err,fun op ho=>(hb.cell (World.block_lt_of_cell? _ _ (h.tab op ho))).trans (h.tab op ho)⟩
structure Cp (rs:List Ru)(w w':World)(v:Value)(xs:List Value):Prop where
 own:w'.ownsRow w.heap.size 53 9 v rs.length xs
 ap:RulesAp w' rs (Iv (w.heap.size+1) w'.heap.size) xs
 at':v.ownBlock=some w.heap.size
 below:Below w.heap.size w w'
theorem Cp.slice {rs:List Ru}{w w':World}{v:Value}{xs:List Value}(h:Cp rs w w' v xs):∃ g cap,v=.slice (some ⟨g,0,none⟩) rs.length cap:=by
 rcases h.own.2 with ⟨rfl,_⟩|⟨g,cap,_,rfl,_⟩
 ·have:=h.at'
  simp[Value.ownBlock] at this
 ·exact⟨g,cap,rfl⟩
theorem callI {rs:List Ru}{w w':World}{g cap:Nat}{xs:List Value}{a b ad:Addr}(hsz:sizR rs≤1048576)(hE:Env w' a b ad)(h:Cp rs w w' (.slice (some ⟨g,0,none⟩) rs.length cap) xs){c:Int}(hc:CheckIs rs c):
  Calls Tryz.prog 7 #[.slice (some ⟨g,0,none⟩) rs.length cap] w' fun e w''=>Below w'.heap.size w' w''∧∃ v1 v2 v3 v4,e=.returned (.tuple #[.agg #[v1,v2,v3,v4],.int .i64 (code rs c)])∧Four w'.heap.size w'' v1 v2 v3 v4 (resV rs c).length (resC rs c).length (resS rs c).length (resM rs c).length ((resV rs c).map encStr) ((resC rs c).map encStr) (resS rs c) (resM rs c):=by
 refine (iCompile hE.sn hE.ety hE.err hE.tab hsz (fun k hk=>hk.2) h.own h.ap).mono ?_;rintro e w'' ⟨c',hc',hO⟩
 rw[check_one hc hc']
 exact impl_res hO
theorem callS {rs:List Ru}{w w':World}{g cap:Nat}{xs:List Value}{a b ad:Addr}(hsz:sizR rs≤1048576)(hE:Env w' a b ad)(h:Cp rs w w' (.slice (some ⟨g,0,none⟩) rs.length cap) xs):
  Calls Tryz.prog 5 #[.slice (some ⟨g,0,none⟩) rs.length cap] w' fun e w''=>∃ c,CheckIs rs c∧Below w'.heap.size w' w''∧∃ a1 c1 a2 c2 a3 c3 a4 c4,e=.returned (.tuple #[.agg #[.slice a1 (resV rs c).length c1,.slice a2 (resC rs c).length c2,.slice a3 (resS rs c).length c3,.slice a4 (resM rs c).length c4],.int .i64 (code rs c)])∧PRd w'' a1 a2 a3 a4 ((resV rs c).map tx) ((resC rs c).map tx) (resS rs c) (resM rs c):=by
 refine (Sp.sCompile ⟨a,hE.sn.1⟩ hsz (fun k hk=>hk.2) h.own h.ap).mono ?_;rintro e w'' ⟨c,hc,hO⟩
 exact⟨c,hc,spec_res hO⟩
theorem callEq {B:Nat}{w:World}{a1 a2 a3 a4 b1 b2 b3 b4:Option Addr}{c1 c2 c3 c4 d1 d2 d3 d4 n1 n2 n3 n4:Nat}{V C:List (List UInt8)}{L3 L4:List Vl}(e1:n1=V.length)(e2:n2=C.length)(e3:n3=L3.length)(e4:n4=L4.length)(h:Four B w (.slice a1 n1 c1) (.slice a2 n2 c2) (.slice a3 n3 c3) (.slice a4 n4 c4) n1 n2 n3 n4 (V.map encStr) (C.map encStr) L3 L4)(hp:PRd w b1 b2 b3 b4 (V.map tx) (C.map tx) L3 L4)(hs:PSm (V.map tx) (C.map tx) L3 L4):
  Calls Tryz.prog 8 #[.agg #[.slice a1 n1 c1,.slice a2 n2 c2,.slice a3 n3 c3,.slice a4 n4 c4],.agg #[.slice b1 n1 d1,.slice b2 n2 d2,.slice b3 n3 d3,.slice b4 n4 d4]] w fun e w'=>e=.returned (.bool true)∧Below w.heap.size w w':=by
 subst e1 e2 e3 e4;have C:=lEqProg (vc:=c1) (cc:=c2) (sc:=c3) (mc:=c4) (vc':=d1) (cc':=d2) (sc':=d3) (mc':=d4) (four_prd h hs) hp hs;simpa only [List.length_map] using C
set_option maxHeartbeats 8000000 in
set_option maxRecDepth 100000 in
theorem lawCompile {w:World}{rs:List Ru}{ao:Option Addr}{cap:Nat}{a b ad:Addr}(hE:Env w a b ad)(hn:rs.length≤maxLen)(hA:RArgs w rs ao 0):
  Calls Tryz.prog 3 #[.slice ao rs.length cap] w fun e w'=>e=.returned (.bool true)∧Below w.heap.size w w':=by
 have csz:=lSzRuleS hn w ao cap 1048576 hA (by omega) (by omega);have ct:sizR rs≤1048576→Hid (∀ w',Below w.heap.size w w'→Calls Tryz.prog 6 #[.slice ao rs.length cap] w' fun e w''=>∃ g cp xs,e=.returned (.slice (some ⟨g,0,none⟩) rs.length cp)∧Cp rs w' w'' (.slice (some ⟨g,0,none⟩) rs.length cp) xs):=fun hz w' h=>(lToRuleAp hz w' ao cap (rargs_frame h hA)).mono fun e w'' ⟨v,xs,h1,h2,h3,h4,h5⟩=>by
  have hc:Cp rs w' w'' v xs:=⟨h2,h3,h4,h5⟩
  obtain⟨g,cp,rfl⟩:=hc.slice
  exact⟨g,cp,xs,h1,hc⟩
 have HE:Hid (Env w a b ad):=hE;clear hn hE hA
 go_enter Tryz.func3,Tryz.ntmps3
 go_wp2_with (first
  | (go_at_call 4;refine csz.mono ?_;rintro e w1 ⟨z,rfl,z0,z1,z2,hb1⟩)
  | (go_at_call 6;refine hold ?_))
 ·go_ret
  exact⟨rfl,hb1⟩
 have hz:Hid (sizR rs≤1048576):=by show _≤_;omega
 have CT:=ct hz.out;clear ct csz z0 z1 z2;refine Calls.mono (CT.out w1 hb1) ?_;rintro e w2 ⟨g2,k2,xs2,rfl,h2⟩;have B2:=hb1.trans (h2.below.mono hb1.size);have C:Hid _:=callS hz.out (HE.out.later B2) h2;have HB2:Hid (Below w.heap.size w w2):=B2;clear hb1 h2 B2
 go_wp2_with (go_at_call 5;refine hold ?_)
 refine Calls.mono C.out ?_;clear C;rintro e w3 ⟨c,hck,hb3,b1,d1,b2,d2,b3,d3,b4,d4,rfl,P3⟩
 obtain⟨n1,hn1⟩:=hid_eq (resV rs c).length
 obtain⟨n2,hn2⟩:=hid_eq (resC rs c).length
 obtain⟨n3,hn3⟩:=hid_eq (resS rs c).length
 obtain⟨n4,hn4⟩:=hid_eq (resM rs c).length
 obtain⟨cd,hcd⟩:=hid_eq (code rs c)
 rw[← hn1.out,← hn2.out,← hn3.out,← hn4.out,← hcd.out]
 obtain⟨W3,hW3⟩:∃ W3,W3=w3.alloc (.cells #[.slice b1 n1 d1,.slice b2 n2 d2,.slice b3 n3 d3,.slice b4 n4 d4] 27):=⟨_,rfl⟩
 have hb3':Below w3.heap.size w3 W3:=by rw[hW3];exact (Below.refl _ w3).alloc (Nat.le_refl _) _
 have hk3:Blk 27 W3 w3.heap.size [.slice b1 n1 d1,.slice b2 n2 d2,.slice b3 n3 d3,.slice b4 n4 d4]:=by rw[hW3];exact Blk.new _ _ _
 have B3:=HB2.out.trans (hb3.mono HB2.out.size);have H3:Hid (Below w.heap.size w W3∧Blk 27 W3 w3.heap.size [.slice b1 n1 d1,.slice b2 n2 d2,.slice b3 n3 d3,.slice b4 n4 d4]∧PRd W3 b1 b2 b3 b4 ((resV rs c).map tx) ((resC rs c).map tx) (resS rs c) (resM rs c)∧CheckIs rs c):=⟨B3.trans (hb3'.mono B3.size),hk3,P3.below hb3',hck⟩;have HS:Hid (PSm ((resV rs c).map tx) ((resC rs c).map tx) (resS rs c) (resM rs c)∧n1≤1500∧n2≤1500∧n3≤1500∧n4≤1500):=by
  show _∧_
  rw[hn1.out,hn2.out,hn3.out,hn4.out]
  exact res_small hz.out hck
 clear hb3 hb3' hk3 B3 P3 hck HB2
 go_wp2_with (go_at_call 6;refine hold ?_)
 rw[← hW3]
 clear hW3;refine Calls.mono (CT.out W3 H3.out.1) ?_;rintro e w4 ⟨g4,k4,xs4,rfl,h4⟩;have B4:=H3.out.1.trans (h4.below.mono H3.out.1.size);have C:Hid _:=callI hz.out (HE.out.later B4) h4 H3.out.2.2.2;have H4:Hid _:=And.intro h4 B4;clear h4 B4
 go_wp2_with (go_at_call 7;refine hold ?_)
 refine Calls.mono C.out ?_;clear C;rintro e w5 ⟨hb5,v1,v2,v3,v4,rfl,F5⟩
 rw[← hn1.out,← hn2.out,← hn3.out,← hn4.out] at F5
 rw[← hcd.out]
 obtain⟨a1,c1,rfl⟩:=owns_slice F5.o1
 obtain⟨a2,c2,rfl⟩:=owns_slice F5.o2
 obtain⟨a3,c3,rfl⟩:=owns_slice F5.o3
 obtain⟨a4,c4,rfl⟩:=owns_slice F5.o4
 obtain⟨W5,hW5⟩:∃ W5,W5=w5.alloc (.cells #[.slice a1 n1 c1,.slice a2 n2 c2,.slice a3 n3 c3,.slice a4 n4 c4] 27):=⟨_,rfl⟩
 have hb5':Below w5.heap.size w5 W5:=by rw[hW5];exact (Below.refl _ w5).alloc (Nat.le_refl _) _
 have hk5:Blk 27 W5 w5.heap.size [.slice a1 n1 c1,.slice a2 n2 c2,.slice a3 n3 c3,.slice a4 n4 c4]:=by rw[hW5];exact Blk.new _ _ _
 have h45:Below w4.heap.size w4 W5:=hb5.trans (hb5'.mono hb5.size);have h35:Below W3.heap.size W3 W5:=H4.out.1.below.trans (h45.mono H4.out.1.below.size);have F5':=F5.below hb5';have hlt5:∀ k,(Value.ownBlock (.slice a1 n1 c1)=some k∨Value.ownBlock (.slice a2 n2 c2)=some k∨Value.ownBlock (.slice a3 n3 c3)=some k∨Value.ownBlock (.slice a4 n4 c4)=some k)→w4.heap.size≤k∧k<w5.heap.size:=fun k hk=>F5.lt hk;have CE:Hid _:=callEq (d1:=d1) (d2:=d2) (d3:=d3) (d4:=d4) hn1.out hn2.out hn3.out hn4.out F5' (H3.out.2.2.1.below h35) HS.out.1;have x0:=(H3.out.2.1.below h35).cell 0 rfl;have x1:=(H3.out.2.1.below h35).cell 1 rfl;have x2:=(H3.out.2.1.below h35).cell 2 rfl;have x3:=(H3.out.2.1.below h35).cell 3 rfl
 rw[hW5] at x0 x1 x2 x3
 have H5:Hid (Below w4.heap.size w4 W5∧Below W3.heap.size W3 W5∧Blk 27 W5 w5.heap.size [.slice a1 n1 c1,.slice a2 n2 c2,.slice a3 n3 c3,.slice a4 n4 c4]∧Four w4.heap.size W5 (.slice a1 n1 c1) (.slice a2 n2 c2) (.slice a3 n3 c3) (.slice a4 n4 c4) n1 n2 n3 n4 ((resV rs c).map encStr) ((resC rs c).map encStr) (resS rs c) (resM rs c)∧(∀ k,(Value.ownBlock (.slice a1 n1 c1)=some k∨Value.ownBlock (.slice a2 n2 c2)=some k∨Value.ownBlock (.slice a3 n3 c3)=some k∨Value.ownBlock (.slice a4 n4 c4)=some k)→w4.heap.size≤k∧k<w5.heap.size)∧w4.heap.size≤w5.heap.size):=⟨h45,h35,hk5,F5',hlt5,hb5.size⟩;clear F5 F5' hb5 hb5' hk5 h45 h35 hlt5
 go_wp2_with (go_at_call 8;refine hold ?_)
 rw[← hW5]
 clear hW5 x0 x1 x2 x3;refine Calls.mono CE.out ?_;clear CE;rintro e w6 ⟨rfl,hb6⟩;have H6:Hid (Below W5.heap.size W5 w6∧Below w.heap.size w w6):=⟨hb6,H4.out.2.trans ((H5.out.1.trans (hb6.mono H5.out.1.size)).mono H4.out.2.size)⟩;clear hb6
 go_wp2_with (go_at_call 6;refine hold ?_)
 refine Calls.mono (CT.out w6 H6.out.2) ?_;rintro e w7 ⟨g7,k7,xs7,rfl,h7⟩;have h57:=H6.out.1.trans (h7.below.mono H6.out.1.size);have h47:=H5.out.1.trans (h57.mono H5.out.1.size);have R47:=ap_frame (w':=w7) (fun k hk=>h47.block k hk.2) H4.out.1.ap;have o47:=owns_same (w':=w7) H4.out.1.own fun g hg=>h47.block g (H4.out.1.own.lt g hg).2;have CE:Hid _:=lEqRuleS hz.out o47 h7.own (ap_is R47) (ap_is h7.ap) (fun k hk=>Nat.lt_of_lt_of_le hk.2 h47.size) (fun k hk=>hk.2);have H7:Hid (Below W5.heap.size W5 w7∧Below w.heap.size w w7∧Below w4.heap.size w4 w7):=⟨h57,H6.out.2.trans (h7.below.mono H6.out.2.size),h47⟩;clear h57 h47 R47 o47 h7
 go_wp2_with (go_at_call 9;refine hold ?_)
 refine Calls.mono CE.out ?_;clear CE;rintro e w8 ⟨rfl,hb8⟩;have h58:=H7.out.1.trans (hb8.mono H7.out.1.size);have h48:=H7.out.2.2.trans (hb8.mono H7.out.2.2.size);have R48:=ap_frame (w':=w8) (fun k hk=>h48.block k hk.2) H4.out.1.ap;have o48:=owns_same (w':=w8) H4.out.1.own fun g hg=>h48.block g (H4.out.1.own.lt g hg).2;have CM:Hid _:=lMarkRules hz.out o48 R48 (fun k hk=>⟨Nat.lt_of_lt_of_le hk.2 h48.size,fun e=>by rw[H4.out.1.at'] at e;have:=hk.1;simp at e;omega⟩);have H8:Hid (Below W5.heap.size W5 w8∧Below w.heap.size w w8):=⟨h58,H7.out.2.1.trans (hb8.mono H7.out.2.1.size)⟩;clear h58 h48 R48 o48 hb8
 go_wp2_with (go_at_call 10;refine hold ?_)
 refine Calls.mono CM.out ?_;clear CM;rintro e w9 ⟨⟨K,rfl⟩,hT⟩;have hX:∀ k,(Iv (W3.heap.size+1) w4.heap.size k∨(Value.slice (some ⟨g4,0,none⟩) rs.length k4).ownBlock=some k)→W3.heap.size≤k∧k<w4.heap.size:=fun k hk=>hk.elim (fun h=>⟨by have:=h.1;omega,h.2⟩) fun h=>H4.out.1.own.lt k h;have s34:=H4.out.1.below.size;have s45:=H5.out.2.2.2.2.2;have s58:=H8.out.1.size;have s55:w5.heap.size<W5.heap.size:=H5.out.2.2.1.lt;have sw3:=H3.out.1.size;have n3':∀ k,k<W3.heap.size→¬ Iv (W3.heap.size+1) w4.heap.size k∧(Value.slice (some ⟨g4,0,none⟩) rs.length k4).ownBlock≠some k:=fun k hk=>⟨fun h=>by have:=(hX k (.inl h)).1;omega,fun h=>by have:=(hX k (.inr h)).1;omega⟩;have n4':∀ k,w4.heap.size≤k→¬ Iv (W3.heap.size+1) w4.heap.size k∧(Value.slice (some ⟨g4,0,none⟩) rs.length k4).ownBlock≠some k:=fun k hk=>⟨fun h=>by have:=(hX k (.inl h)).2;omega,fun h=>by have:=(hX k (.inr h)).2;omega⟩;have B9:Below w.heap.size w w9:=below_turnedC H8.out.2 hT (by have:=H8.out.2.size;omega) fun k hk=>n3' k (by omega);have h38:Below W3.heap.size W3 w8:=H5.out.2.1.trans (H8.out.1.mono H5.out.2.1.size);have h39:Below W3.heap.size W3 w9:=below_turnedC h38 hT h38.size fun k hk=>n3' k hk;have F9:=(H5.out.2.2.2.1.below H8.out.1).kept (w':=w9) fun k h1 h2=>hT.block k h2 (n4' k h1).1 (n4' k h1).2;have k9:Blk 27 w9 w5.heap.size [.slice a1 n1 c1,.slice a2 n2 c2,.slice a3 n3 c3,.slice a4 n4 c4]:=(hT.block _ (by omega) (n4' _ s45).1 (n4' _ s45).2).trans (H5.out.2.2.1.below H8.out.1);have CE:Hid _:=callEq (d1:=d1) (d2:=d2) (d3:=d3) (d4:=d4) hn1.out hn2.out hn3.out hn4.out F9 (H3.out.2.2.1.below h39) HS.out.1;have H9:Hid _:=And.intro B9 (And.intro h39 (And.intro k9 (And.intro F9 (And.intro s34 sw3))));have x0:=(H3.out.2.1.below h39).cell 0 rfl;have x1:=(H3.out.2.1.below h39).cell 1 rfl;have x2:=(H3.out.2.1.below h39).cell 2 rfl;have x3:=(H3.out.2.1.below h39).cell 3 rfl;have y0:=k9.cell 0 rfl;have y1:=k9.cell 1 rfl;have y2:=k9.cell 2 rfl;have y3:=k9.cell 3 rfl;have hKn:¬ ((K:Int)<0):=by omega
 clear hX s34 s45 s58 s55 sw3 n3' n4' B9 h38 h39 F9 k9 hT H6 H7 H8
 go_wp2_with (go_at_call 8;refine hold ?_)
 refine Calls.mono CE.out ?_;clear CE x0 x1 x2 x3 y0 y1 y2 y3;rintro e w10 ⟨rfl,hb10⟩;have k10:=H9.out.2.2.1.below hb10;have F10:=H9.out.2.2.2.1.below hb10;have CM:Hid _:=lMarkProg F10 (fun x hx=>by obtain⟨s,-,rfl⟩:=List.mem_map.1 hx;exact⟨_,rfl⟩) (fun x hx=>by obtain⟨s,-,rfl⟩:=List.mem_map.1 hx;exact⟨_,rfl⟩) HS.out.2.1 HS.out.2.2.1 HS.out.2.2.2.1 HS.out.2.2.2.2;have H10:Hid (Below w.heap.size w w10∧Below W3.heap.size W3 w10∧Blk 27 w10 w5.heap.size [.slice a1 n1 c1,.slice a2 n2 c2,.slice a3 n3 c3,.slice a4 n4 c4]):=⟨H9.out.1.trans (hb10.mono H9.out.1.size),H9.out.2.1.trans (hb10.mono H9.out.2.1.size),k10⟩;have y0:=k10.cell 0 rfl;have y1:=k10.cell 1 rfl;have y2:=k10.cell 2 rfl;have y3:=k10.cell 3 rfl;clear k10 F10 hb10
 go_wp2_with (go_at_call 11;refine hold ?_)
 refine Calls.mono CM.out ?_;clear CM y0 y1 y2 y3;rintro e w11 ⟨rfl,F11,T11⟩
 obtain⟨mm,hmm⟩:=hid_eq (1+n1+n2+3*n3+3*n4:Nat)
 rw[← hmm.out]
 have hw4:∀ k,(Value.ownBlock (.slice a1 n1 c1)=some k∨Value.ownBlock (.slice a2 n2 c2)=some k∨Value.ownBlock (.slice a3 n3 c3)=some k∨Value.ownBlock (.slice a4 n4 c4)=some k)→w4.heap.size≤k∧k<w5.heap.size:=H5.out.2.2.2.2.1;have h3w:=H9.out.2.2.2.2;have B11:Below w.heap.size w w11:=T11.below H10.out.1 H10.out.1.size (fun k hk=>by have:=(hw4 k hk).1;omega);have h311:Below W3.heap.size W3 w11:=T11.below H10.out.2.1 H10.out.2.1.size (fun k hk=>by have:=(hw4 k hk).1;omega);have k11:Blk 27 w11 w5.heap.size [.slice a1 n1 c1,.slice a2 n2 c2,.slice a3 n3 c3,.slice a4 n4 c4]:=(T11.block _ H10.out.2.2.lt (fun hk=>by have:=(hw4 _ hk).2;omega)).trans H10.out.2.2;have CH:Hid _:=lHeldProg F11 HS.out.2.1 HS.out.2.2.1 HS.out.2.2.2.1 HS.out.2.2.2.2;have H11:Hid _:=And.intro B11 (And.intro h311 (And.intro k11 F11));have y0:=k11.cell 0 rfl;have y1:=k11.cell 1 rfl;have y2:=k11.cell 2 rfl;have y3:=k11.cell 3 rfl;clear F11 T11 B11 h311 k11 hw4 h3w H9 H10
 go_wp2_with (go_at_call 12;refine hold ?_)
 refine Calls.mono CH.out ?_;clear CH y0 y1 y2 y3;rintro e w12 ⟨rfl,hb12⟩
 rw[← hmm.out]
 have H12:Hid (Below w.heap.size w w12∧Below W3.heap.size W3 w12∧Below w11.heap.size w11 w12):=⟨H11.out.1.trans (hb12.mono H11.out.1.size),H11.out.2.1.trans (hb12.mono H11.out.2.1.size),hb12⟩;have hmn:¬ ((mm:Int)<0):=by omega
 clear hb12
 go_wp2_with (go_at_call 6;refine hold ?_)
 refine Calls.mono (CT.out w12 H12.out.1) ?_;rintro e w13 ⟨g13,k13,xs13,rfl,h13⟩;have B13:=H12.out.1.trans (h13.below.mono H12.out.1.size);have C:Hid _:=callI hz.out (HE.out.later B13) h13 H3.out.2.2.2;have H13:Hid (Below w.heap.size w w13∧Below W3.heap.size W3 w13∧Below w11.heap.size w11 w13):=⟨B13,H12.out.2.1.trans (h13.below.mono H12.out.2.1.size),H12.out.2.2.trans (h13.below.mono H12.out.2.2.size)⟩;clear B13 h13
 go_wp2_with (go_at_call 7;refine hold ?_)
 refine Calls.mono C.out ?_;clear C;rintro e w14 ⟨hb14,v1,v2,v3,v4,rfl,F14⟩
 rw[← hn1.out,← hn2.out,← hn3.out,← hn4.out] at F14
 rw[← hcd.out]
 obtain⟨f1,p1,rfl⟩:=owns_slice F14.o1
 obtain⟨f2,p2,rfl⟩:=owns_slice F14.o2
 obtain⟨f3,p3,rfl⟩:=owns_slice F14.o3
 obtain⟨f4,p4,rfl⟩:=owns_slice F14.o4
 obtain⟨W14,hW14⟩:∃ W14,W14=w14.alloc (.cells #[.slice f1 n1 p1,.slice f2 n2 p2,.slice f3 n3 p3,.slice f4 n4 p4] 27):=⟨_,rfl⟩
 have hb14':Below w14.heap.size w14 W14:=by rw[hW14];exact (Below.refl _ w14).alloc (Nat.le_refl _) _
 have h1314:=hb14.trans (hb14'.mono hb14.size);have h314:=H13.out.2.1.trans (h1314.mono H13.out.2.1.size);have h1114:=H13.out.2.2.trans (h1314.mono H13.out.2.2.size);have CE:Hid _:=callEq (d1:=d1) (d2:=d2) (d3:=d3) (d4:=d4) hn1.out hn2.out hn3.out hn4.out (F14.below hb14') (H3.out.2.2.1.below h314) HS.out.1;have H14:Hid (Below w.heap.size w W14∧Below w11.heap.size w11 W14):=⟨H13.out.1.trans (h1314.mono H13.out.1.size),h1114⟩;have x0:=(H3.out.2.1.below h314).cell 0 rfl;have x1:=(H3.out.2.1.below h314).cell 1 rfl;have x2:=(H3.out.2.1.below h314).cell 2 rfl;have x3:=(H3.out.2.1.below h314).cell 3 rfl
 rw[hW14] at x0 x1 x2 x3
 clear F14 hb14 hb14' h1314 h314 h1114
 go_wp2_with (go_at_call 8;refine hold ?_)
 rw[← hW14]
 clear hW14 x0 x1 x2 x3;refine Calls.mono CE.out ?_;clear CE;rintro e w15 ⟨rfl,hb15⟩;have h1115:=H14.out.2.trans (hb15.mono H14.out.2.size);have k15:=H11.out.2.2.1.below h1115;have CH:Hid _:=lHeldProg (H11.out.2.2.2.below h1115) HS.out.2.1 HS.out.2.2.1 HS.out.2.2.2.1 HS.out.2.2.2.2;have H15:Hid (Below w.heap.size w w15):=H14.out.1.trans (hb15.mono H14.out.1.size);have y0:=k15.cell 0 rfl;have y1:=k15.cell 1 rfl;have y2:=k15.cell 2 rfl;have y3:=k15.cell 3 rfl;clear h1115 k15 hb15
 go_wp2_with (go_at_call 12;refine hold ?_)
 refine Calls.mono CH.out ?_;clear CH y0 y1 y2 y3;rintro e w16 ⟨rfl,hb16⟩
 rw[← hmm.out]
 have H16:Hid (Below w.heap.size w w16):=H15.out.trans (hb16.mono H15.out.size);clear hb16;go_wp2_with fail;go_ret
 exact⟨rfl,H16.out⟩
end Cm
end Go.Proofs.YtllbachngocmnaaGreatDoor
