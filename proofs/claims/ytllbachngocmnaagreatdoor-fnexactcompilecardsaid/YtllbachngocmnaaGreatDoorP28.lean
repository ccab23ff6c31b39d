/-
  Kids of a node as its op has them: kidsTidy, nodeTidy.
-/
import Derived.Test.YtllbachngocmnaaGreatDoorP27
import Derived.Test.YtllbachngocmnaaGreatDoorP18
namespace Go.Proofs.YtllbachngocmnaaGreatDoor
open Go.RowKit
namespace Ty
open Nd

def kindN (t:Data):Bool:=kindB (opOf t) ((kidsOf t).map opOf)
theorem node_eq (t:Data):nodeB t=(wordN t&&kindN t):=rfl

theorem fnRow_new2 (w:World)(o1:Obj)(fs:List Nat)(T:TypeId)(o:Obj)(ho:o=.cells (fs.map fun f=>Value.func (.func f) #[] #[]).toArray T):FnRow ((w.alloc o1).alloc o) (w.heap.size+1) fs:=by
 have:=fnRow_new (w.alloc o1) fs T o ho
 rwa [World.size_alloc] at this

structure Kinds (B:Nat)(W0:World)(ao:Option Addr)(L cap:Nat)(ops:List Int):Prop where
 j0:∀ w',Below B W0 w'→Calls Tryz.prog 207 #[.slice ao L cap,.slice none 0 0] w' fun e w''=>e=.returned (.bool (justB [] ops))∧Below B W0 w''
 j1:∀ w' g,Below B W0 w'→FnRow w' g [126]→Calls Tryz.prog 207 #[.slice ao L cap,.slice (some ⟨g,0,none⟩) 1 1] w' fun e w''=>e=.returned (.bool (justB [eB] ops))∧Below B W0 w''
 j2:∀ w' g,Below B W0 w'→FnRow w' g [126,126]→Calls Tryz.prog 207 #[.slice ao L cap,.slice (some ⟨g,0,none⟩) 2 2] w' fun e w''=>e=.returned (.bool (justB [eB,eB] ops))∧Below B W0 w''
 js:∀ w' g,Below B W0 w'→FnRow w' g [208,126]→Calls Tryz.prog 207 #[.slice ao L cap,.slice (some ⟨g,0,none⟩) 2 2] w' fun e w''=>e=.returned (.bool (justB [setB,eB] ops))∧Below B W0 w''
 jb:∀ w' g,Below B W0 w'→FnRow w' g [126,123]→Calls Tryz.prog 207 #[.slice ao L cap,.slice (some ⟨g,0,none⟩) 2 2] w' fun e w''=>e=.returned (.bool (justB [eB,blB] ops))∧Below B W0 w''
 jc:∀ w' g,Below B W0 w'→FnRow w' g [126,123,123]→Calls Tryz.prog 207 #[.slice ao L cap,.slice (some ⟨g,0,none⟩) 3 3] w' fun e w''=>e=.returned (.bool (justB [eB,blB,blB] ops))∧Below B W0 w''
 ae:∀ w',Below B W0 w'→Calls Tryz.prog 163 #[.slice ao L cap,.func (.func 126) #[] #[]] w' fun e w''=>e=.returned (.bool (ops.all eB))∧Below B W0 w''
 ast:∀ w',Below B W0 w'→Calls Tryz.prog 163 #[.slice ao L cap,.func (.func 209) #[] #[]] w' fun e w''=>e=.returned (.bool (ops.all stB))∧Below B W0 w''

theorem kinds_of {w:World}{ks:List Data}{ao:Option Addr}{cap:Nat}(hn:ks.length≤1048577)(hS:Sen w)(hA:ArgsIs w ks ao 0):Kinds w.heap.size w ao ks.length cap (ks.map opOf):=by
 have J:∀ {fs:List Nat} {ps:List (Int→Bool)} (_:fs.length=ps.length) (_:∀ (j:Nat) f p,fs[j]?=some f→ps[j]?=some p→KindOk f p) (_:ps.length≤5) (w':World) (ao':Option Addr) (_:Below w.heap.size w w') (_:fs.length=0∨∃ g,ao'=some ⟨g,0,none⟩∧FnRow w' g fs),
   Calls Tryz.prog 207 #[.slice ao ks.length cap,.slice ao' fs.length fs.length] w' fun e w''=>e=.returned (.bool (justB ps (ks.map opOf)))∧Below w.heap.size w w'':=by
  intro fs ps h1 h2 h3 w' ao' hb hg;refine (iAreJust h1 h2 h3 hn w' ao cap fs.length ao' hg (hS.later hb) (args_frame hb hA)).mono ?_;rintro e w'' ⟨rfl,hb2⟩
  exact⟨rfl,hb.trans (hb2.mono hb.size)⟩
 have A:∀ {f:Nat} {p:Int→Bool} (_:KindOk f p) (w':World) (_:Below w.heap.size w w'),Calls Tryz.prog 163 #[.slice ao ks.length cap,.func (.func f) #[] #[]] w' fun e w''=>e=.returned (.bool ((ks.map opOf).all p))∧Below w.heap.size w w'':=by
  intro f p hk w' hb;refine (iAreAll (fun t _=>hk.2 t) hk.1 hn w' ao cap (hS.later hb) (args_frame hb hA)).mono ?_;rintro e w'' ⟨rfl,hb2⟩
  exact⟨by rw[List.all_map];rfl,hb.trans (hb2.mono hb.size)⟩
 have one:∀ {f1 p1} (_:KindOk f1 p1) (j:Nat) f p,([f1]:List Nat)[j]?=some f→([p1]:List (Int→Bool))[j]?=some p→KindOk f p:=by
  intro f1 p1 k1 j f p hf hp
  match j with
  | 0=>simp at hf hp;subst hf hp;exact k1
  | j+1=>simp at hf
 have two:∀ {f1 p1 f2 p2} (_:KindOk f1 p1) (_:KindOk f2 p2) (j:Nat) f p,([f1,f2]:List Nat)[j]?=some f→([p1,p2]:List (Int→Bool))[j]?=some p→KindOk f p:=by
  intro f1 p1 f2 p2 k1 k2 j f p hf hp
  match j with
  | 0=>simp at hf hp;subst hf hp;exact k1
  | 1=>simp at hf hp;subst hf hp;exact k2
  | j+2=>simp at hf
 have three:∀ {f1 p1 f2 p2 f3 p3} (_:KindOk f1 p1) (_:KindOk f2 p2) (_:KindOk f3 p3) (j:Nat) f p,([f1,f2,f3]:List Nat)[j]?=some f→([p1,p2,p3]:List (Int→Bool))[j]?=some p→KindOk f p:=by
  intro f1 p1 f2 p2 f3 p3 k1 k2 k3 j f p hf hp
  match j with
  | 0=>simp at hf hp;subst hf hp;exact k1
  | 1=>simp at hf hp;subst hf hp;exact k2
  | 2=>simp at hf hp;subst hf hp;exact k3
  | j+3=>simp at hf
 exact {
  j0:=fun w' hb=>J (fs:=[]) (ps:=[]) rfl (fun j f p h=>by simp at h) (by simp) w' none hb (.inl rfl)
  j1:=fun w' g hb hr=>J rfl (one kE) (by simp) w' _ hb (.inr ⟨g,rfl,hr⟩)
  j2:=fun w' g hb hr=>J rfl (two kE kE) (by simp) w' _ hb (.inr ⟨g,rfl,hr⟩)
  js:=fun w' g hb hr=>J rfl (two kSet kE) (by simp) w' _ hb (.inr ⟨g,rfl,hr⟩)
  jb:=fun w' g hb hr=>J rfl (two kE kBl) (by simp) w' _ hb (.inr ⟨g,rfl,hr⟩)
  jc:=fun w' g hb hr=>J rfl (three kE kBl kBl) (by simp) w' _ hb (.inr ⟨g,rfl,hr⟩)
  ae:=fun w' hb=>A kE w' hb
  ast:=fun w' hb=>A kSt w' hb }

theorem op_ways (op:Int):(op<1∨35<op)∨(op=1∨op=2∨op=3∨op=4∨op=7∨op=8∨op=33)∨(op=5∨op=6∨op=22∨op=23∨op=34∨op=35)∨(op=9∨op=10∨op=11∨op=12∨op=13∨op=14∨op=15∨op=16∨op=17∨op=18∨op=19∨op=20∨op=21∨op=24∨op=25)∨(op=26∨op=27)∨(op=28∨op=30)∨op=29∨op=31∨op=32:=by omega

set_option maxHeartbeats 4000000 in
set_option maxRecDepth 100000 in
theorem iKidsTidy (t:Data)(hsz:siz t≤1048576):Tells 180 kindN t:=by
 intro w a b c u hS hA
 obtain⟨ao,cap,rfl,rfl,rfl,rfl,hK,hnd⟩:=arg_open hA
 have hlen:=len_siz t;have hk:=kinds_of (cap:=cap) (by omega) hS hK;have hb1:∀ o,Below w.heap.size w (w.alloc o):=fun o=>(Below.refl _ w).alloc (Nat.le_refl _) _;have hb2:∀ o o',Below w.heap.size w ((w.alloc o).alloc o'):=fun o o'=>(hb1 o).alloc (by simp) _;have hk1:∀ o,o=Obj.cells #[.int .i64 (opOf t),.int .i64 (numOf t),.string ⟨(txtOf t).toArray⟩,.slice ao (kidsOf t).length cap] 51→Kinds (w.alloc o).heap.size (w.alloc o) ao (kidsOf t).length cap ((kidsOf t).map opOf):=fun o _=>kinds_of (cap:=cap) (by omega) (hS.alloc o) (args_frame (hb1 o) hK);have hb3:∀ o o',Below (w.alloc o).heap.size (w.alloc o) ((w.alloc o).alloc o'):=fun o o'=>(Below.refl _ _).alloc (Nat.le_refl _) _;have hcell:∀ o w',o=Obj.cells #[.int .i64 (opOf t),.int .i64 (numOf t),.string ⟨(txtOf t).toArray⟩,.slice ao (kidsOf t).length cap] 51→Below (w.alloc o).heap.size (w.alloc o) w'→w'.cell? ⟨w.heap.size,0,none⟩=some (.int .i64 (opOf t))∧w'.cell? ⟨w.heap.size,1,none⟩=some (.int .i64 (numOf t))∧w'.cell? ⟨w.heap.size,2,none⟩=some (.string ⟨(txtOf t).toArray⟩)∧w'.cell? ⟨w.heap.size,3,none⟩=some (.slice ao (kidsOf t).length cap):=fun o w' ho hb=>by
  have hV:Var (w.alloc o) w.heap.size (.int .i64 (opOf t)) (.int .i64 (numOf t)) (.string ⟨(txtOf t).toArray⟩) (.slice ao (kidsOf t).length cap):=by rw[ho];exact heap_new _ _
  exact (hV.kept (hb.block _ hV.lt)).cell
 have H:Hid (kindN t=kindB (opOf t) ((kidsOf t).map opOf)):=rfl;clear hA hS hnd hsz hlen hK;show Calls _ _ _ _ fun e w'=>e=.returned (.bool (kindN t))∧Below w.heap.size w w';generalize kindN t=E at *;generalize opOf t=op at *;generalize numOf t=n at *;generalize txtOf t=s at *;generalize (kidsOf t).map opOf=ops at *;generalize (kidsOf t).length=L at *;rcases op_ways op with h|h|h|h|h|h|h|h|h
 ·have HE:Hid (E=false):=by show _=_;rw[H.out];unfold kindB;repeat rw[if_neg (by omega)]
  have hne:∀ k:Int,1≤k→k≤35→(op==k)=false:=fun k h1 h2=>beq_eq_false_iff_ne.2 (by omega);have n1:=hne 1 (by omega) (by omega);have n2:=hne 2 (by omega) (by omega);have n3:=hne 3 (by omega) (by omega);have n4:=hne 4 (by omega) (by omega);have n5:=hne 5 (by omega) (by omega);have n6:=hne 6 (by omega) (by omega);have n7:=hne 7 (by omega) (by omega);have n8:=hne 8 (by omega) (by omega);have n9:=hne 9 (by omega) (by omega);have n10:=hne 10 (by omega) (by omega);have n11:=hne 11 (by omega) (by omega);have n12:=hne 12 (by omega) (by omega);have n13:=hne 13 (by omega) (by omega);have n14:=hne 14 (by omega) (by omega);have n15:=hne 15 (by omega) (by omega);have n16:=hne 16 (by omega) (by omega);have n17:=hne 17 (by omega) (by omega);have n18:=hne 18 (by omega) (by omega);have n19:=hne 19 (by omega) (by omega);have n20:=hne 20 (by omega) (by omega);have n21:=hne 21 (by omega) (by omega);have n22:=hne 22 (by omega) (by omega);have n23:=hne 23 (by omega) (by omega);have n24:=hne 24 (by omega) (by omega);have n25:=hne 25 (by omega) (by omega);have n26:=hne 26 (by omega) (by omega);have n27:=hne 27 (by omega) (by omega);have n28:=hne 28 (by omega) (by omega);have n29:=hne 29 (by omega) (by omega);have n30:=hne 30 (by omega) (by omega);have n31:=hne 31 (by omega) (by omega);have n32:=hne 32 (by omega) (by omega);have n33:=hne 33 (by omega) (by omega);have n34:=hne 34 (by omega) (by omega);have n35:=hne 35 (by omega) (by omega);clear H hne h
  go_enter Tryz.func180,Tryz.ntmps180
  go_wp2_with fail;go_ret
  exact⟨by rw[HE.out];rfl,hb1 _⟩
 ·have HE:Hid (E=justB [] ops):=by show _=_;rw[H.out];unfold kindB;rw[if_pos h]
  clear H;rcases h with rfl|rfl|rfl|rfl|rfl|rfl|rfl
  all_goals
   go_enter Tryz.func180,Tryz.ntmps180
   go_wp2_with (go_at_call 207;refine (hk.j0 _ (hb1 _)).mono ?_;rintro e w2 ⟨rfl,hbb⟩)
   go_ret
   exact⟨by rw[HE.out];rfl,hbb⟩
 ·have HE:Hid (E=justB [eB] ops):=by show _=_;rw[H.out];unfold kindB;rw[if_neg (by omega),if_pos h]
  clear H;rcases h with rfl|rfl|rfl|rfl|rfl|rfl
  all_goals
   go_enter Tryz.func180,Tryz.ntmps180
   go_wp2_with (go_at_call 207;refine (hk.j1 _ _ (hb2 _ _) (fnRow_new2 _ _ _ _ _ rfl)).mono ?_;rintro e w2 ⟨rfl,hbb⟩)
   go_ret
   exact⟨by rw[HE.out];rfl,hbb⟩
 ·have HE:Hid (E=justB [eB,eB] ops):=by show _=_;rw[H.out];unfold kindB;rw[if_neg (by omega)];rw[if_neg (by omega)];rw[if_pos (by omega)]
  clear H;rcases h with rfl|rfl|rfl|rfl|rfl|rfl|rfl|rfl|rfl|rfl|rfl|rfl|rfl|rfl|rfl
  all_goals
   go_enter Tryz.func180,Tryz.ntmps180
   go_wp2_with (go_at_call 207;refine (hk.j2 _ _ (hb2 _ _) (fnRow_new2 _ _ _ _ _ rfl)).mono ?_;rintro e w2 ⟨rfl,hbb⟩)
   go_ret
   exact⟨by rw[HE.out];rfl,hbb⟩
 ·have HE:Hid (E=justB [setB,eB] ops):=by show _=_;rw[H.out];unfold kindB;rw[if_neg (by omega)];rw[if_neg (by omega)];rw[if_neg (by omega)];rw[if_pos (by omega)]
  clear H;rcases h with rfl|rfl
  all_goals
   go_enter Tryz.func180,Tryz.ntmps180
   go_wp2_with (go_at_call 207;refine (hk.js _ _ (hb2 _ _) (fnRow_new2 _ _ _ _ _ rfl)).mono ?_;rintro e w2 ⟨rfl,hbb⟩)
   go_ret
   exact⟨by rw[HE.out];rfl,hbb⟩
 ·have HE:Hid (E=ops.all eB):=by show _=_;rw[H.out];unfold kindB;rw[if_neg (by omega)];rw[if_neg (by omega)];rw[if_neg (by omega)];rw[if_neg (by omega)];rw[if_pos (by omega)]
  clear H;rcases h with rfl|rfl
  all_goals
   go_enter Tryz.func180,Tryz.ntmps180
   go_wp2_with (go_at_call 163;refine (hk.ae _ (hb1 _)).mono ?_;rintro e w2 ⟨rfl,hbb⟩)
   go_ret
   exact⟨by rw[HE.out];rfl,hbb⟩
 ·have HE:Hid (E=ops.all stB):=by show _=_;rw[H.out];unfold kindB;rw[if_neg (by omega)];rw[if_neg (by omega)];rw[if_neg (by omega)];rw[if_neg (by omega)];rw[if_neg (by omega)];rw[if_pos (by omega)]
  clear H;rcases h with rfl
  all_goals
   go_enter Tryz.func180,Tryz.ntmps180
   go_wp2_with (go_at_call 163;refine (hk.ast _ (hb1 _)).mono ?_;rintro e w2 ⟨rfl,hbb⟩)
   go_ret
   exact⟨by rw[HE.out];rfl,hbb⟩
 ·have HE:Hid (E=(justB [eB,blB] ops || justB [eB,blB,blB] ops)):=by show _=_;rw[H.out];unfold kindB;rw[if_neg (by omega)];rw[if_neg (by omega)];rw[if_neg (by omega)];rw[if_neg (by omega)];rw[if_neg (by omega)];rw[if_neg (by omega)];rw[if_pos (by omega)]
  clear H;subst h;generalize hB:justB [eB,blB] ops=B at *;have JB:=hk1;cases B
  ·go_enter Tryz.func180,Tryz.ntmps180
   go_wp2_with (first
    | (go_at_call 207;refine ((JB _ rfl).jc _ _ (Below.alloc hbb hbb.size _) (fnRow_new _ _ _ _ rfl)).mono ?_;rintro e w3 ⟨rfl,hbc⟩)
    | (go_at_call 207;refine ((JB _ rfl).jb _ _ (hb3 _ _) (fnRow_new2 _ _ _ _ _ rfl)).mono ?_;rintro e w2 ⟨rfl,hbb⟩;rw[hB];obtain⟨x0,x1,x2,x3⟩:=hcell _ _ rfl hbb))
   go_ret
   exact⟨by rw[HE.out];rfl,(hb1 _).trans (hbc.mono (hb1 _).size)⟩
  ·go_enter Tryz.func180,Tryz.ntmps180
   go_wp2_with (first
    | (go_at_call 207;refine ((JB _ rfl).jb _ _ (hb3 _ _) (fnRow_new2 _ _ _ _ _ rfl)).mono ?_;rintro e w2 ⟨rfl,hbb⟩;rw[hB]))
   go_ret
   exact⟨by rw[HE.out];rfl,(hb1 _).trans (hbb.mono (hb1 _).size)⟩
 ·have HE:Hid (E=justB [eB,blB] ops):=by show _=_;rw[H.out];unfold kindB;rw[if_neg (by omega)];rw[if_neg (by omega)];rw[if_neg (by omega)];rw[if_neg (by omega)];rw[if_neg (by omega)];rw[if_neg (by omega)];rw[if_neg (by omega)];rw[if_pos (by omega)]
  clear H;rcases h with rfl
  all_goals
   go_enter Tryz.func180,Tryz.ntmps180
   go_wp2_with (go_at_call 207;refine (hk.jb _ _ (hb2 _ _) (fnRow_new2 _ _ _ _ _ rfl)).mono ?_;rintro e w2 ⟨rfl,hbb⟩)
   go_ret
   exact⟨by rw[HE.out];rfl,hbb⟩

theorem iNodeTidy (t:Data)(hsz:siz t≤1048576):Tells 164 nodeB t:=by
 intro w a b c u hS hA;have c1:=fun o=>iWordTidy t hsz (w.alloc o) a b c u (hS.alloc o) (arg_frame ((Below.refl _ w).alloc (Nat.le_refl _) _) _ _ hA);have c2:=fun w' hb=>iKidsTidy t hsz w' a b c u (hS.later hb) (arg_frame hb _ _ hA);have hb1:∀ o,Below w.heap.size w (w.alloc o):=fun o=>(Below.refl _ w).alloc (Nat.le_refl _) _;have hcell:∀ o w',o=Obj.cells #[a,b,c,u] 51→Below (w.alloc o).heap.size (w.alloc o) w'→w'.cell? ⟨w.heap.size,0,none⟩=some a∧w'.cell? ⟨w.heap.size,1,none⟩=some b∧w'.cell? ⟨w.heap.size,2,none⟩=some c∧w'.cell? ⟨w.heap.size,3,none⟩=some u:=fun o w' ho hb=>by
  have hV:Var (w.alloc o) w.heap.size a b c u:=by rw[ho];exact heap_new _ _
  exact (hV.kept (hb.block _ hV.lt)).cell
 have H:Hid (nodeB t=(wordN t&&kindN t)):=node_eq t
 obtain⟨ao,cap,rfl,rfl,rfl,rfl,-,-⟩:=arg_open hA
 clear hA hS hsz;generalize nodeB t=E at *;generalize wordN t=E1 at *;generalize kindN t=E2 at *;generalize opOf t=op at *;generalize numOf t=n at *;generalize txtOf t=s at *;generalize (kidsOf t).length=L at *;cases E1
 ·go_enter Tryz.func164,Tryz.ntmps164
  go_wp2_with (go_at_call 179;refine (c1 _).mono ?_;rintro e w2 ⟨rfl,hbb⟩)
  go_ret
  exact⟨by rw[H.out];rfl,(hb1 _).trans (hbb.mono (hb1 _).size)⟩
 ·go_enter Tryz.func164,Tryz.ntmps164
  go_wp2_with (first
   | (go_at_call 179;refine (c1 _).mono ?_;rintro e w2 ⟨rfl,hbb⟩;obtain⟨x0,x1,x2,x3⟩:=hcell _ _ rfl hbb;have hbw:=(hb1 _).trans (hbb.mono (hb1 _).size))
   | (go_at_call 180;refine (c2 _ hbw).mono ?_;rintro e w3 ⟨rfl,hbc⟩))
  go_ret
  exact⟨by rw[H.out];rfl,hbw.trans (hbc.mono hbw.size)⟩

end Ty
namespace Ty
open Nd

theorem args_of_row {w:World}{ts:List Data}{S:Nat→Prop}{xs:List Value}{B cap:Nat}{ao:Option Addr}(hs:∀ t∈ts,siz t≤1048576)(ho:w.ownsRow B 51 4 (.slice ao ts.length cap) ts.length xs)(h:NodesIs w ts S xs):ArgsIs w ts ao 0:=by
 by_cases h0:0<ts.length
 ·obtain⟨g,rfl,hgl,hcell⟩:=row_cells ho h0
  refine args_of_cells hgl (fun t ht=>arg_of_node t (hs t ht)) h fun j x hx=>?_
  rw[Nat.zero_mul,Nat.zero_add]
  exact hcell j x hx
 ·have:ts=[]:=List.length_eq_zero_iff.1 (by omega)
  subst this
  trivial

theorem nodes_nodes {w:World}:∀ {ts:List Data} {S:Nat→Prop} {xs:List Value},NodesIs w ts S xs→Nodes ts
 | [],S,xs,_=>fun t ht=>by simp at ht
 | t'::ts,S,xs,h=>fun t ht=>by
  simp only[NodesIs] at h
  obtain⟨S1,S2,c1,c2,rfl,h1,h2,-,-⟩:=h
  rcases List.mem_cons.1 ht with rfl|ht
  ·exact node_node h1
  ·exact nodes_nodes h2 t ht

theorem below1_siz {ts:List Data}{N:Nat}(h:∀ t∈ts,siz t≤N):∀ t∈(below1 ts).flatten,siz t≤N:=by
 induction ts with
 | nil=>intro t ht;simp[below1] at ht
 | cons a ts ih =>
  intro t ht;simp only[below1,List.flatten_append,List.mem_append] at ht;rcases ht with ht|ht
  ·have:t∈kidsOf a:=by
    split at ht
    ·simp at ht
    ·simpa using ht
   have h1:=sizs_mem this;have h2:=siz_kids a;have h3:=h a (by simp);omega
  ·exact ih (fun t ht=>h t (by simp[ht])) t ht

theorem rows_at {w:World}:∀ {ls:List (List Data)} {vs xs:List Value} {S:Nat→Prop} {k:Nat} {l:List Data},RowsIs w ls vs xs→NodesIs w ls.flatten S xs→(∀ t∈ls.flatten,siz t≤1048576)→ls[k]?=some l→∃ ao cap,vs[k]?=some (.slice ao l.length cap)∧ArgsIs w l ao 0
 | [],vs,xs,S,k,l,_,_,_,hk=>by simp at hk
 | l'::ls,vs,xs,S,k,l,hR,hN,hs,hk=>by
  obtain⟨v,vs',c1,c2,rfl,rfl,ho,hR2⟩:=hR
  rw[List.flatten_cons] at hN
  obtain⟨S1,S2,d1,d2,hdd,hN1,hN2,-,-⟩:=nodes_split hN
  obtain⟨rfl,rfl⟩:=List.append_inj hdd (by rw[ho.1,nodes_len hN1])
  match k with
  | 0 =>
   simp at hk;subst hk
   obtain⟨ao,cap,rfl⟩:=owns_slice ho
   exact⟨ao,cap,rfl,args_of_row (fun t ht=>hs t (by simp[ht])) ho hN1⟩
  | k+1 =>
   obtain⟨ao,cap,h1,h2⟩:=rows_at hR2 hN2 (fun t ht=>hs t (by simp only[List.flatten_cons,List.mem_append];exact .inr ht)) (by simpa using hk:ls[k]?=some l)
   exact⟨ao,cap,by simpa using h1,h2⟩

def AtT (w wr:World)(m:Nat)(R:Bool)(lv:Value)(d:Nat):Prop :=
 ∃ (ls:List (List Data)) (vs xs:List Value) (S:Nat→Prop) (G:List Nat),wr.ownsRow 0 49 1 lv ls.length vs∧RowsIs wr ls vs xs∧NodesIs wr ls.flatten S xs∧MapIs wr m G∧(∀ g∈G,Cellsy wr g)∧(∀ g∈G,¬ S g) ∧
  (∀ l∈ls,l≠[])∧R=(decide (d+deps ls.flatten≤16)&&allsB ls.flatten)∧G.length+cnts ls.flatten≤1048577∧(∀ t∈ls.flatten,siz t≤1048576)∧Below w.heap.size w wr

theorem lists_len {ls:List (List Data)}(h:∀ l∈ls,l≠[]):ls.length≤ls.flatten.length:=by
 induction ls with
 | nil=>simp
 | cons l ls ih =>
  have h1:=h l (by simp);have h2:=ih fun l hl=>h l (by simp[hl])
  have:0<l.length:=List.length_pos_iff.2 h1
  simp only[List.length_cons,List.flatten_cons,List.length_append];omega

theorem all_flat:∀ (ls:List (List Data)),ls.flatten.all nodeB=ls.all fun l=>l.all nodeB
 | []=>rfl
 | l::ls=>by simp[all_flat ls]

set_option maxHeartbeats 4000000 in
set_option maxRecDepth 100000 in
theorem iTreeTidy {t:Data}(hc:siz t≤1048576){w:World}{S:Nat→Prop}{a b c u:Value}(hSen:Sen w)(h:NodeIs w t S [a,b,c,u])(hS:∀ k,S k→k<w.heap.size):
  Calls Tryz.prog 124 #[.agg #[a,b,c,u]] w fun e w'=>e=.returned (.bool (treeB t))∧Below w.heap.size w w':=by
 obtain⟨op,n,s,ao,cap,xs,-,rfl,rfl,rfl,rfl,hro,hrg,hrn⟩:=node_form h
 have hct:cnt t≤1048577:=by have:=cnt_siz t;omega
 obtain⟨o1,ho1⟩:∃ o1,o1=Obj.cells #[.int .i64 op,.int .i64 n,.string ⟨s.toArray⟩,.slice ao (kidsOf t).length cap] 51:=⟨_,rfl⟩
 obtain⟨o2,ho2⟩:∃ o2,o2=Obj.map #[] 0:=⟨_,rfl⟩
 obtain⟨o4,ho4⟩:∃ o4,o4=Obj.cells #[.slice (some ⟨w.heap.size+1+1,0,none⟩) 1 1] 49:=⟨_,rfl⟩
 have hb4:Below w.heap.size w ((((w.alloc o1).alloc o2).alloc o1).alloc o4):=((((Below.refl _ w).alloc (Nat.le_refl _) _).alloc (by simp) _).alloc (by simp;omega) _).alloc (by simp;omega) _;have hAt:AtT w ((((w.alloc o1).alloc o2).alloc o1).alloc o4) (w.heap.size+1) (treeB t) (.slice (some ⟨w.heap.size+1+1+1,0,none⟩) 1 1) 0:=by
  have e4:=heap_new (((w.alloc o1).alloc o2).alloc o1) o4;have e3:=heap_new ((w.alloc o1).alloc o2) o1;have e2:=heap_new (w.alloc o1) o2;simp only[World.size_alloc] at e4 e3 e2;have e3':((((w.alloc o1).alloc o2).alloc o1).alloc o4).heap[w.heap.size+1+1]?=some o1:=by rw[Below.heap_alloc _ _ _ (by simp),e3]
  have e2':((((w.alloc o1).alloc o2).alloc o1).alloc o4).heap[w.heap.size+1]?=some o2:=by rw[Below.heap_alloc _ _ _ (by simp),Below.heap_alloc _ _ _ (by simp),e2]
  refine⟨[[t]],[.slice (some ⟨w.heap.size+1+1,0,none⟩) 1 1],[.int .i64 op,.int .i64 n,.string ⟨s.toArray⟩,.slice ao (kidsOf t).length cap],S,[],?_,?_,?_,?_,fun g hg=>by simp at hg,fun g hg=>by simp at hg,fun l hl=>by simp at hl;subst hl;simp,by simp[deps,allsB,treeB],by simp[cnts];omega,fun x hx=>by simp at hx;subst hx;exact hc,hb4⟩
  ·exact⟨rfl,.inr ⟨_,1,_,rfl,Nat.zero_le _,by rw[e4,ho4],Nat.le_refl _,by unfold maxLen;omega,rfl,rfl⟩⟩
  ·exact⟨_,[],[.int .i64 op,.int .i64 n,.string ⟨s.toArray⟩,.slice ao (kidsOf t).length cap],[],rfl,rfl,⟨rfl,.inr ⟨_,1,_,rfl,Nat.zero_le _,by rw[e3',ho1],Nat.le_refl _,by unfold maxLen;omega,rfl,rfl⟩⟩,rfl,rfl⟩
  ·simp only[List.flatten_cons,List.flatten_nil,List.append_nil]
   refine⟨S,fun _=>False,_,[],by simp,node_frame t S _ (fun k hk=>hb4.block k (hS k hk)) h,rfl,fun k hk=>⟨hk,id⟩,fun k hk=>hk.elim⟩
  ·exact⟨#[],0,by rw[e2',ho2],rfl,fun e he=>by simp at he⟩
 have hmm:=@run_makeMap Tryz.prog;generalize treeB t=R at *;subst ho1 ho2 ho4;clear h hro hrg hrn hS hc hct
 go_enter Tryz.func124,Tryz.ntmps124
 go_wp2_with fail
 go_loopw [4,5] (fun lv d wr=>∃ dd:Nat,d=.int .i64 ((dd:Int)+1)∧dd≤16∧AtT w wr (w.heap.size+1) R lv dd) (fun _ d _=>18 - (intOf d).toNat)
 case atStart=>exact⟨0,rfl,Nat.zero_le _,hAt⟩
 case round =>
  obtain⟨d,rfl,hdd,ls,vs,xs,S,G,h1,h2,h3,h4,h5,h6,h7,h8,h9,h10,hb⟩:=hrel
  obtain⟨ao,cap,rfl⟩:=owns_slice h1
  by_cases hls:ls=[]
  ·subst hls;have HD:Hid (R=true):=by show _=_;rw[h8];simp[deps,allsB];omega
   clear h8 h10 h1 h2 h3 h5 h6 h7 h9 h4 hAt;go_wp2_with fail;go_ret
   exact⟨by rw[HD.out];rfl,hb⟩
  ·have hpos:0<ls.length:=List.length_pos_iff.2 hls;have hfl:ls.flatten≠[]:=by
    cases ls with
    | nil=>exact absurd rfl hls
    | cons l ls=>simp[h7 l (by simp)]
   have hdeps:deps ls.flatten=deps (below ls).flatten+1:=by rw[below_flat,below1_deps ls.flatten,if_neg hfl]
   have hlen:ls.length≤1048577:=by have:=lists_len h7;have:=cnts_len ls.flatten;omega
   have hposI:(0:Int)<ls.length:=by omega
   have hlI:(ls.length:Int)≤1048577:=by omega
   have hdI:(d:Int)≤16:=by omega
   by_cases hd16:d=16
   ·have HD:Hid (R=false):=by show _=_;rw[h8,hdeps];simp;omega
    have hdI2:(16:Int)<(d:Int)+1:=by omega
    clear h8 h10 h1 h2 h3 h5 h6 h7 h9 h4 hAt hdeps hfl hls hd16;go_wp2_with fail;go_ret
    exact⟨by rw[HD.out];rfl,hb⟩
   ·have hdI2:¬ (16:Int)<(d:Int)+1:=by omega
    have hdI3:(d:Int)+1≤16:=by omega
    have hcnts:cnts ls.flatten=cnts (below ls).flatten+ls.flatten.length:=by rw[below_flat];exact below1_cnts _
    have hblen:(below ls).length≤ls.flatten.length:=by rw[below_flat];exact below1_len _
    have hbne:∀ l∈below ls,l≠[]:=by rw[below_flat];exact below1_ne _
    have hnds:=nodes_nodes h3;have hal:allsB ls.flatten=((ls.all fun l=>l.all nodeB)&&allsB (below ls).flatten):=by rw[below_flat,alls_below hnds,all_flat]
    have hkeep:∀ w2,Below wr.heap.size wr w2→w2.ownsRow 0 49 1 (.slice ao ls.length cap) ls.length vs∧RowsIs w2 ls vs xs∧NodesIs w2 ls.flatten (fun k=>S k∧Cellsy wr k) xs∧MapIs w2 (w.heap.size+1) G∧(∀ g∈G,Cellsy w2 g)∧(∀ g∈G,¬ (S g∧Cellsy wr g)):=fun w2 hb2=>by
     have hcy:∀ g,Cellsy wr g→w2.heap[g]?=wr.heap[g]?:=fun g hg=>by
      obtain⟨cur,hc⟩:=hg
      exact hb2.block g (heap_lt hc)
     exact⟨owns_same h1 fun g hg=>hb2.block g (h1.lt g hg).2,rows_frame hcy h2,nodes_frame (fun k hk=>hcy k hk.2) (nodesCells h3),h4.same (hb2.block _ h4.lt),fun g hg=>by
      obtain⟨cur,hc⟩:=h5 g hg
      exact⟨cur,(hcy g ⟨cur,hc⟩).trans hc⟩,fun g hg hh=>h6 g hg hh.1⟩
    have hall:∀ (w2:World) (k:Nat) (l:List Data),Below wr.heap.size wr w2→ls[k]?=some l→∃ ao' cap',w2.cell? ⟨(ao.getD ⟨0,0,none⟩).block,k,none⟩=some (.slice ao' l.length cap')∧ao=some ⟨(ao.getD ⟨0,0,none⟩).block,0,none⟩∧Calls Tryz.prog 163 #[.slice ao' l.length cap',.func (.func 164) #[] #[]] w2 fun e w'=>e=.returned (.bool (l.all nodeB))∧Below wr.heap.size wr w':=by
     intro w2 k l hb2 hk
     obtain⟨k1,k2,k3,-,-,-⟩:=hkeep w2 hb2
     have hkl:k<ls.length:=(List.getElem?_eq_some_iff.1 hk).1
     obtain⟨ao',cap',hv,hA⟩:=rows_at k2 k3 h10 hk
     obtain⟨g,hg,-,hcl⟩:=row_cells k1 hkl
     have hmem:l∈ls:=List.mem_of_getElem? hk;have hsub:∀ t∈l,t∈ls.flatten:=fun t ht=>List.mem_flatten.2 ⟨l,hmem,ht⟩;have hll:l.length≤1048577:=by
      have a1:cnts l≤cnts ls.flatten:=by
       obtain⟨i1,i2,e⟩:=List.append_of_mem hmem
       rw[e,List.flatten_append,List.flatten_cons,cnts_append,cnts_append]
       omega
      have:=cnts_len l
      omega
     subst hg
     refine⟨ao',cap',hcl k _ hv,rfl,(iAreAll (fun t ht=>iNodeTidy t (h10 t (hsub t ht))) enterNode hll w2 ao' cap' ((hSen.later hb).later hb2) hA).mono ?_⟩
     rintro e w' ⟨rfl,hb3⟩
     exact⟨rfl,hb2.trans (hb3.mono hb2.size)⟩
    have hnext:∀ w2 w3 v,(ls.all fun l=>l.all nodeB)=true→Below wr.heap.size wr w2→Got w2 w3 (w.heap.size+1) G.length (fun _=>False) (below ls) v→AtT w w3 (w.heap.size+1) R v (d+1):=by
     intro w2 w3 v hAll hb2 hG
     obtain⟨k1,k2,k3,k4,k5,k6⟩:=hkeep w2 hb2
     obtain⟨vs',xb,Sb,G',g1,g2,g3,g4,g5,g6,g7,g8,g9⟩:=hG
     have hcy:∀ g,Cellsy w2 g→w3.heap[g]?=w2.heap[g]?:=fun g hg=>by
      obtain⟨cur,hc⟩:=hg
      exact g9.block g (heap_lt hc) (k4.not ⟨cur,hc⟩)
     have hbw:Below w.heap.size w w2:=hb.trans (hb2.mono hb.size)
     refine⟨below ls,vs',xb,fun k=>Sb k∧Cellsy w2 k,G',owns_base g1 (Nat.zero_le _),rows_frame hcy g2,nodes_frame (fun k hk=>hcy k hk.2) (nodesCells g3),g4,fun g hg=>?_,fun g hg hh=>(g7 g hg).2 hh.1,hbne,?_,by omega,?_,?_⟩
     ·obtain⟨cur,hc⟩:=g6 g hg
      exact⟨cur,(hcy g ⟨cur,hc⟩).trans hc⟩
     ·rw[h8,hdeps,hal,hAll,Bool.true_and,show d+(deps (below ls).flatten+1)=d+1+deps (below ls).flatten by omega]
     ·rw[below_flat];exact below1_siz h10
     ·exact⟨g9.os.trans hbw.os,g9.tape.trans hbw.tape,g9.output.trans hbw.output,Nat.le_trans hbw.size g9.size,fun k hk=>(g9.block k (Nat.lt_of_lt_of_le hk hbw.size) (by omega)).trans (hbw.block k hk)⟩
    have hkb:∀ w2,Below wr.heap.size wr w2→Calls Tryz.prog 135 #[.slice ao ls.length cap,.map (some (w.heap.size+1)),.int .i64 ((d:Int)+1)] w2 fun e w'=>∃ v,e=.returned v∧Got w2 w' (w.heap.size+1) G.length (fun _=>False) (below ls) v:=fun w2 hb2=>by
     obtain⟨k1,k2,k3,k4,k5,k6⟩:=hkeep w2 hb2
     have:=iKidsBelow (d:=d+1) (by omega) (by omega) k1 k2 k3 k4 k5 k6 (by omega) h7
     rw[show ((d+1:Nat):Int)=(d:Int)+1 by omega] at this
     exact this
    have HF:Hid ((ls.all fun l=>l.all nodeB)=false→R=false):=fun hf=>by rw[h8,hal,hf];simp
    have HB:Hid (Below w.heap.size w wr):=hb;clear h8 h10 h1 h2 h3 h5 h6 h7 h9 h4 hAt hdeps hfl hls hd16 hcnts hblen hbne hnds hal hkeep hlen hSen hpos hb;go_wp2_with fail
    go_loopw [21] (fun i w2=>∃ k:Nat,k≤ls.length∧i=.int .i64 k∧((ls.take k).all fun l=>l.all nodeB)=true∧Below wr.heap.size wr w2) (fun i _=>ls.length - (intOf i).toNat)
    case atStart=>exact⟨0,Nat.zero_le _,rfl,rfl,Below.refl _ _⟩
    case round =>
     obtain⟨k,hkn,rfl,hok,hb2⟩:=hrel
     by_cases hkl:k<ls.length
     ·obtain⟨l,hl⟩:∃ l,l=ls[k]:=⟨_,rfl⟩
      have hki:ls[k]?=some l:=by rw[hl];exact List.getElem?_eq_getElem hkl
      obtain⟨ao',cap',hcl,hao,call⟩:=hall _ k l hb2 hki
      generalize (ao.getD ⟨0,0,none⟩).block=g at *;subst hao;have bk:(k:Int)<ls.length:=by omega
      rcases hB:l.all nodeB with _|_
      ·rw[hB] at call
       have HR:Hid (R=false):=HF.out (by
        rcases hx:(ls.all fun l=>l.all nodeB) with _|_
        ·rfl
        ·have:=List.all_eq_true.1 hx l (List.mem_of_getElem? hki)
         rw[hB] at this
         cases this)
       clear hki hl hall hnext hkb hok HF
       go_wp2_with (go_at_call 163;refine call.mono ?_;rintro e w3 ⟨rfl,hb3⟩)
       go_ret
       exact⟨by rw[HR.out];rfl,HB.out.trans (hb3.mono HB.out.size)⟩
      ·rw[hB] at call
       have HO:Hid (((ls.take (k+1)).all fun l=>l.all nodeB)=true):=by
        show _=_
        rw[List.take_add_one,hki,List.all_append,hok]
        simp only[Option.toList_some,List.all_cons,List.all_nil,Bool.and_true,Bool.true_and];exact hB
       clear hki hl hall hnext hkb hok HF hB
       go_wp2_with (go_at_call 163;refine call.mono ?_;rintro e w3 ⟨rfl,hb3⟩)
       go_roundw
       case rel=>exact⟨k+1,hkl,by go_num,HO.out,hb3⟩
       case measure=>simp[intOf];omega
     ·obtain rfl:k=ls.length:=by omega
      rw[List.take_length] at hok
      have HO:Hid _:=hok;have call:=hkb _ hb2;clear hok hall hkb HF
      go_wp2_with (go_at_call 135;refine call.mono ?_;rintro e w3 ⟨v,rfl,hG⟩)
      exact⟨⟨d+1,by go_num,by omega,hnext _ _ _ HO.out hb2 hG⟩,by simp[intOf];omega⟩

end Ty
end Go.Proofs.YtllbachngocmnaaGreatDoor
