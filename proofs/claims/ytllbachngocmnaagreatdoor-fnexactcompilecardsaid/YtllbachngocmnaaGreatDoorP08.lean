/-
  The one place of a node behind its kids: varNumber, cellNumber, word.
-/
import Derived.Test.YtllbachngocmnaaGreatDoorP07
import Derived.Test.YtllbachngocmnaaGreatDoorP04
namespace Go.Proofs.YtllbachngocmnaaGreatDoor
open Go.RowKit
namespace Cm
open St (Vl encV)
open Nd Ty
open Pg (RdT idx iIndex)
open Oc (hold Blk)

set_option maxRecDepth 100000 in
theorem iVarNumber {X:Fx}{ls:List Vl}{G:List Nat}{w:World}(h:Wk X ls G w)(s:ByteArray):
  Calls Tryz.prog 171 #[.agg #[.slice X.va X.vars.length X.vc,.slice X.ca X.cells.length X.cc],.string s] w fun e w'=>e=.returned (.int .i64 (idx X.vars s))∧Below w.heap.size w w':=by
 have b0:∀ o,Below w.heap.size w (w.alloc o):=fun o=>(Below.refl _ w).alloc (Nat.le_refl _) o;have CI:Hid (∀ o,Calls Tryz.prog 149 #[.slice X.va X.vars.length X.vc,.string s] (w.alloc o) fun e w'=>e=.returned (.int .i64 (idx X.vars s))∧w'=w.alloc o):=fun o=>iIndex ((h.vs.below h.below).below (b0 o)) h.vn s;clear h
 go_enter Tryz.func171,Tryz.ntmps171
 go_wp2_with (go_at_call 149;refine Calls.mono (CI.out _) ?_;rintro e w2 ⟨rfl,rfl⟩)
 go_ret
 exact⟨rfl,b0 _⟩

set_option maxRecDepth 100000 in
theorem iCellNumber {X:Fx}{ls:List Vl}{G:List Nat}{w:World}(h:Wk X ls G w)(s:ByteArray):
  Calls Tryz.prog 107 #[.agg #[.slice X.va X.vars.length X.vc,.slice X.ca X.cells.length X.cc],.string s] w fun e w'=>e=.returned (.int .i64 (idx X.cells s))∧Below w.heap.size w w':=by
 have b0:∀ o,Below w.heap.size w (w.alloc o):=fun o=>(Below.refl _ w).alloc (Nat.le_refl _) o;have CI:Hid (∀ o,Calls Tryz.prog 149 #[.slice X.ca X.cells.length X.cc,.string s] (w.alloc o) fun e w'=>e=.returned (.int .i64 (idx X.cells s))∧w'=w.alloc o):=fun o=>iIndex ((h.cs.below h.below).below (b0 o)) h.cn s;clear h
 go_enter Tryz.func107,Tryz.ntmps107
 go_wp2_with (go_at_call 149;refine Calls.mono (CI.out _) ?_;rintro e w2 ⟨rfl,rfl⟩)
 go_ret
 exact⟨rfl,b0 _⟩

theorem ran_full {X:Fx}{v:Value}{ls:List Vl}{x:Vl}{G:List Nat}{w:World}(hf:ls.length=1500)(e:Ending)(w':World)(h:Ran X v (ls++[x]) G w e w'):Full X (ls++[x]).length e w':=by
 rcases h with ⟨_,h,_⟩|h
 ·have:=h.len;simp at this;omega
 ·exact h
theorem ran_fit {X:Fx}{v:Value}{ls:List Vl}{x:Vl}{G:List Nat}{w:World}(hf:ls.length<1500)(e:Ending)(w':World)(h:Ran X v (ls++[x]) G w e w'):e=.returned v∧Wk X (ls++[x]) G w'∧Ch X w w':=by
 rcases h with h|⟨_,h,_⟩
 ·exact h
 ·simp at h;omega
def Tab (X:Fx):Prop:=∀ op:Nat,(op=6∨op=7∨op=8∨(9≤op∧op≤20)∨op=22∨op=23∨op=33∨op=35)→X.W.cell? ⟨3,op,none⟩=some (.int .i64 (plainC op))
def WordOp (op:Int):Prop:=1≤op∧op≤35∧op≠21∧op≠24∧op≠25∧op≠26∧op≠27∧op≠29∧op≠30∧op≠31∧op≠32

set_option maxHeartbeats 1000000 in
set_option maxRecDepth 100000 in
theorem iWord1 {X:Fx}{ls:List Vl}{G:List Nat}{w:World}(h:Wk X ls G w)(op n:Int)(hop:op=1)(s:List UInt8)(K:Nat)(hK:K≤1048577)(ao:Option Addr)(cap:Nat):
  Calls Tryz.prog 147 #[.pointer (some ⟨X.p,0,none⟩),.agg #[.int .i64 op,.int .i64 n,.string ⟨s.toArray⟩,.slice ao K cap]] w fun e w'=>Ran X (.tuple #[]) (ls++[wordV X.iv X.ic op n s K]) G w e w':=by
 have hKI:(K:Int)≤1048577:=by omega
 have hba:∀ o,Below w.heap.size w (w.alloc o):=fun o=>(Below.refl _ _).alloc (Nat.le_refl _) _;have HC:Hid (∀ o,Ch X w (w.alloc o)):=fun o=>ch_below h.lt (hba o);subst hop;have CALL:Hid (∀ o,Calls Tryz.prog 59 #[.pointer (some ⟨X.p,0,none⟩),.int .i64 1,.int .i64 n,.string ⟨#[]⟩] (w.alloc o) fun e w'=>Ran X (.tuple #[]) (ls++[wordV X.iv X.ic 1 n s K]) G (w.alloc o) e w'):=fun o=>iPut (h.later (hba o)) 1 n ⟨#[]⟩;clear h hba
 go_enter Tryz.func147,Tryz.ntmps147
 go_wp2_with (go_at_call 59;refine hold ?_)
 refine Calls.mono (CALL.out _) ?_;rintro e w2 (⟨rfl,hW2,hC2⟩|⟨rfl,hn,hB⟩)
 ·have H2:Hid _:=hW2;have H3:Hid (Ch X w w2):=(HC.out _).trans hC2;clear hW2 hC2 HC CALL;go_wp2_with fail;refine bodyPost_end (v:=.tuple #[]) ?_ rfl (.inl ⟨rfl,H2.out,H3.out⟩);simp[results,Tryz.results147]
 ·clear HC CALL;go_wp2_with fail
  exact⟨rfl,.inr ⟨rfl,hn,hB⟩⟩

set_option maxHeartbeats 1000000 in
set_option maxRecDepth 100000 in
theorem iWord2 {X:Fx}{ls:List Vl}{G:List Nat}{w:World}(h:Wk X ls G w)(op n:Int)(hop:op=2)(s:List UInt8)(K:Nat)(hK:K≤1048577)(ao:Option Addr)(cap:Nat):
  Calls Tryz.prog 147 #[.pointer (some ⟨X.p,0,none⟩),.agg #[.int .i64 op,.int .i64 n,.string ⟨s.toArray⟩,.slice ao K cap]] w fun e w'=>Ran X (.tuple #[]) (ls++[wordV X.iv X.ic op n s K]) G w e w':=by
 have hKI:(K:Int)≤1048577:=by omega
 have hba:∀ o,Below w.heap.size w (w.alloc o):=fun o=>(Below.refl _ _).alloc (Nat.le_refl _) _;have HC:Hid (∀ o,Ch X w (w.alloc o)):=fun o=>ch_below h.lt (hba o);subst hop;have CALL:Hid (∀ o,Calls Tryz.prog 59 #[.pointer (some ⟨X.p,0,none⟩),.int .i64 2,.int .i64 0,.string ⟨s.toArray⟩] (w.alloc o) fun e w'=>Ran X (.tuple #[]) (ls++[wordV X.iv X.ic 2 n s K]) G (w.alloc o) e w'):=fun o=>iPut (h.later (hba o)) 2 0 ⟨s.toArray⟩;clear h hba
 go_enter Tryz.func147,Tryz.ntmps147
 go_wp2_with (go_at_call 59;refine hold ?_)
 refine Calls.mono (CALL.out _) ?_;rintro e w2 (⟨rfl,hW2,hC2⟩|⟨rfl,hn,hB⟩)
 ·have H2:Hid _:=hW2;have H3:Hid (Ch X w w2):=(HC.out _).trans hC2;clear hW2 hC2 HC CALL;go_wp2_with fail;refine bodyPost_end (v:=.tuple #[]) ?_ rfl (.inl ⟨rfl,H2.out,H3.out⟩);simp[results,Tryz.results147]
 ·clear HC CALL;go_wp2_with fail
  exact⟨rfl,.inr ⟨rfl,hn,hB⟩⟩

set_option maxHeartbeats 1000000 in
set_option maxRecDepth 100000 in
theorem iWord3 {X:Fx}{ls:List Vl}{G:List Nat}{w:World}(h:Wk X ls G w)(op n:Int)(hop:op=3)(s:List UInt8)(K:Nat)(hK:K≤1048577)(ao:Option Addr)(cap:Nat):
  Calls Tryz.prog 147 #[.pointer (some ⟨X.p,0,none⟩),.agg #[.int .i64 op,.int .i64 n,.string ⟨s.toArray⟩,.slice ao K cap]] w fun e w'=>Ran X (.tuple #[]) (ls++[wordV X.iv X.ic op n s K]) G w e w':=by
 have hKI:(K:Int)≤1048577:=by omega
 have hba:∀ o,Below w.heap.size w (w.alloc o):=fun o=>(Below.refl _ _).alloc (Nat.le_refl _) _;have HC:Hid (∀ o,Ch X w (w.alloc o)):=fun o=>ch_below h.lt (hba o);subst hop;have CALL:Hid (∀ o,Calls Tryz.prog 59 #[.pointer (some ⟨X.p,0,none⟩),.int .i64 25,.int .i64 0,.string ⟨s.toArray⟩] (w.alloc o) fun e w'=>Ran X (.tuple #[]) (ls++[wordV X.iv X.ic 3 n s K]) G (w.alloc o) e w'):=fun o=>iPut (h.later (hba o)) 25 0 ⟨s.toArray⟩;clear h hba
 go_enter Tryz.func147,Tryz.ntmps147
 go_wp2_with (go_at_call 59;refine hold ?_)
 refine Calls.mono (CALL.out _) ?_;rintro e w2 (⟨rfl,hW2,hC2⟩|⟨rfl,hn,hB⟩)
 ·have H2:Hid _:=hW2;have H3:Hid (Ch X w w2):=(HC.out _).trans hC2;clear hW2 hC2 HC CALL;go_wp2_with fail;refine bodyPost_end (v:=.tuple #[]) ?_ rfl (.inl ⟨rfl,H2.out,H3.out⟩);simp[results,Tryz.results147]
 ·clear HC CALL;go_wp2_with fail
  exact⟨rfl,.inr ⟨rfl,hn,hB⟩⟩

set_option maxHeartbeats 1000000 in
set_option maxRecDepth 100000 in
theorem iWord28 {X:Fx}{ls:List Vl}{G:List Nat}{w:World}(h:Wk X ls G w)(op n:Int)(hop:op=28)(s:List UInt8)(K:Nat)(hK:K≤1048577)(ao:Option Addr)(cap:Nat):
  Calls Tryz.prog 147 #[.pointer (some ⟨X.p,0,none⟩),.agg #[.int .i64 op,.int .i64 n,.string ⟨s.toArray⟩,.slice ao K cap]] w fun e w'=>Ran X (.tuple #[]) (ls++[wordV X.iv X.ic op n s K]) G w e w':=by
 have hKI:(K:Int)≤1048577:=by omega
 have hba:∀ o,Below w.heap.size w (w.alloc o):=fun o=>(Below.refl _ _).alloc (Nat.le_refl _) _;have HC:Hid (∀ o,Ch X w (w.alloc o)):=fun o=>ch_below h.lt (hba o);subst hop;have CALL:Hid (∀ o,Calls Tryz.prog 59 #[.pointer (some ⟨X.p,0,none⟩),.int .i64 29,.int .i64 K,.string ⟨s.toArray⟩] (w.alloc o) fun e w'=>Ran X (.tuple #[]) (ls++[wordV X.iv X.ic 28 n s K]) G (w.alloc o) e w'):=fun o=>iPut (h.later (hba o)) 29 K ⟨s.toArray⟩;clear h hba
 go_enter Tryz.func147,Tryz.ntmps147
 go_wp2_with (go_at_call 59;refine hold ?_)
 refine Calls.mono (CALL.out _) ?_;rintro e w2 (⟨rfl,hW2,hC2⟩|⟨rfl,hn,hB⟩)
 ·have H2:Hid _:=hW2;have H3:Hid (Ch X w w2):=(HC.out _).trans hC2;clear hW2 hC2 HC CALL;go_wp2_with fail;refine bodyPost_end (v:=.tuple #[]) ?_ rfl (.inl ⟨rfl,H2.out,H3.out⟩);simp[results,Tryz.results147]
 ·clear HC CALL;go_wp2_with fail
  exact⟨rfl,.inr ⟨rfl,hn,hB⟩⟩

set_option maxHeartbeats 1000000 in
set_option maxRecDepth 100000 in
theorem iWordP {X:Fx}{ls:List Vl}{G:List Nat}{w:World}(h:Wk X ls G w)(hT:Tab X)(op n:Int)(hop:op=6∨op=7∨op=8∨(9≤op∧op≤20)∨op=22∨op=23∨op=33∨op=35)(s:List UInt8)(K:Nat)(hK:K≤1048577)(ao:Option Addr)(cap:Nat):
  Calls Tryz.prog 147 #[.pointer (some ⟨X.p,0,none⟩),.agg #[.int .i64 op,.int .i64 n,.string ⟨s.toArray⟩,.slice ao K cap]] w fun e w'=>Ran X (.tuple #[]) (ls++[wordV X.iv X.ic op n s K]) G w e w':=by
 have hKI:(K:Int)≤1048577:=by omega
 have hba:∀ o,Below w.heap.size w (w.alloc o):=fun o=>(Below.refl _ _).alloc (Nat.le_refl _) _;have HC:Hid (∀ o,Ch X w (w.alloc o)):=fun o=>ch_below h.lt (hba o)
 obtain⟨q,rfl⟩:∃ q:Nat,op=q:=⟨op.toNat,by omega⟩
 have hwv:wordV X.iv X.ic q n s K=(plainC q,0,⟨#[]⟩):=by
  unfold wordV none'
  rw[if_neg (by omega),if_neg (by omega),if_neg (by omega),if_neg (by omega),if_neg (by omega),if_neg (by omega),if_neg (by omega)]
 have CALL:Hid (∀ o,Calls Tryz.prog 59 #[.pointer (some ⟨X.p,0,none⟩),.int .i64 (plainC q),.int .i64 0,.string ⟨#[]⟩] (w.alloc o) fun e w'=>Ran X (.tuple #[]) (ls++[wordV X.iv X.ic q n s K]) G (w.alloc o) e w'):=fun o=>by rw[hwv];exact iPut (h.later (hba o)) (plainC q) 0 ⟨#[]⟩
 have c0:∀ o,(w.alloc o).cell? ⟨3,q,none⟩=some (.int .i64 (plainC q)):=fun o=>(h.later (hba o)).cell (hT q (by omega));have n1:¬ (q:Int)=1:=by omega
 have n2:¬ (q:Int)=2:=by omega
 have n3:¬ (q:Int)=3:=by omega
 have n4:¬ (q:Int)=4:=by omega
 have n5:¬ (q:Int)=5:=by omega
 have n6:¬ (q:Int)=34:=by omega
 have n7:¬ (q:Int)=28:=by omega
 have b1:(q:Int)<36:=by omega
 have b2:q<36:=by omega
 clear h hba hop hwv hT;generalize plainC q=pc at *
 go_enter Tryz.func147,Tryz.ntmps147
 go_wp2_with (go_at_call 59;refine hold ?_)
 refine Calls.mono (CALL.out _) ?_;rintro e w2 (⟨rfl,hW2,hC2⟩|⟨rfl,hn,hB⟩)
 ·have H2:Hid _:=hW2;have H3:Hid (Ch X w w2):=(HC.out _).trans hC2;clear hW2 hC2 HC CALL;go_wp2_with fail;refine bodyPost_end (v:=.tuple #[]) ?_ rfl (.inl ⟨rfl,H2.out,H3.out⟩);simp[results,Tryz.results147]
 ·clear HC CALL;go_wp2_with fail
  exact⟨rfl,.inr ⟨rfl,hn,hB⟩⟩

set_option maxHeartbeats 1000000 in
set_option maxRecDepth 100000 in
theorem iWord4 {X:Fx}{ls:List Vl}{G:List Nat}{w:World}(h:Wk X ls G w)(op n:Int)(hop:op=4)(s:List UInt8)(K:Nat)(hK:K≤1048577)(ao:Option Addr)(cap:Nat):
  Calls Tryz.prog 147 #[.pointer (some ⟨X.p,0,none⟩),.agg #[.int .i64 op,.int .i64 n,.string ⟨s.toArray⟩,.slice ao K cap]] w fun e w'=>Ran X (.tuple #[]) (ls++[wordV X.iv X.ic op n s K]) G w e w':=by
 have hKI:(K:Int)≤1048577:=by omega
 have hba:∀ o,Below w.heap.size w (w.alloc o):=fun o=>(Below.refl _ _).alloc (Nat.le_refl _) _;have HC:Hid (∀ o,Ch X w (w.alloc o)):=fun o=>ch_below h.lt (hba o);subst hop;have hbd:∀ o,Below w.heap.size w (w.alloc o).drew:=fun o=>(hba o).drew
 obtain⟨wa,hwa⟩:∃ wa,wa=(w.alloc (.cells #[.int .i64 4,.int .i64 n,.string ⟨s.toArray⟩,.slice ao K cap] 51)).drew:=⟨_,rfl⟩
 have hA:Wk X ls G wa:=by rw[hwa];exact h.later (hbd _)
 have HCa:Hid (Ch X w wa):=by rw[hwa];exact ch_below h.lt (hbd _)
 have CN:Hid (Calls Tryz.prog 171 #[.agg #[.slice X.va X.vars.length X.vc,.slice X.ca X.cells.length X.cc],.string ⟨s.toArray⟩] wa fun e w'=>e=.returned (.int .i64 (idx X.vars ⟨s.toArray⟩))∧Below wa.heap.size wa w'):=iVarNumber hA _;have CALL:Hid (∀ w1,Below wa.heap.size wa w1→Calls Tryz.prog 59 #[.pointer (some ⟨X.p,0,none⟩),.int .i64 3,.int .i64 (idx X.vars ⟨s.toArray⟩),.string ⟨#[]⟩] w1 fun e w'=>Ran X (.tuple #[]) (ls++[wordV X.iv X.ic 4 n s K]) G w1 e w'):=fun w1 h1=>iPut (hA.later h1) 3 (idx X.vars ⟨s.toArray⟩) ⟨#[]⟩;have HCb:Hid (∀ w1,Below wa.heap.size wa w1→Ch X wa w1):=fun w1 h1=>ch_below hA.lt h1
 obtain⟨ao2,cap2,k1,k2⟩:=hA.blk
 have q0:=k1.cell 0 rfl;have q1:=k1.cell 1 rfl
 rw[hwa] at q0 q1
 have hlen:=h.len;clear h hba hbd hA k1 k2 HC
 by_cases hf:ls.length=1500
 ·have CF:Hid (∀ w1,Below wa.heap.size wa w1→Calls Tryz.prog 59 #[.pointer (some ⟨X.p,0,none⟩),.int .i64 3,.int .i64 (idx X.vars ⟨s.toArray⟩),.string ⟨#[]⟩] w1 fun e w'=>Full X (ls++[wordV X.iv X.ic 4 n s K]).length e w'):=fun w1 h1=>(CALL.out w1 h1).mono (ran_full hf);clear CALL HCa HCb
  go_enter Tryz.func147,Tryz.ntmps147
  go_wp2_with fail
  go_region_with (first
   | (go_at_call 171;rw[← hwa];refine Calls.mono CN.out ?_;rintro e w1 ⟨rfl,hb1⟩)
   | (go_at_call 59;refine Calls.mono (CF.out _ hb1) ?_;intro e w2 h2;by_cases hx:∃ v,e=.returned v;(case neg=>(obtain⟨rfl,hn,hB⟩:=h2;exact⟨rfl,.inr ⟨rfl,hn,hB⟩⟩));obtain⟨v,rfl⟩:=hx))
  all_goals
   obtain⟨h2,-⟩:=h2
   cases h2
 ·have CF:Hid (∀ w1,Below wa.heap.size wa w1→Calls Tryz.prog 59 #[.pointer (some ⟨X.p,0,none⟩),.int .i64 3,.int .i64 (idx X.vars ⟨s.toArray⟩),.string ⟨#[]⟩] w1 fun e w'=>e=.returned (.tuple #[])∧Wk X (ls++[wordV X.iv X.ic 4 n s K]) G w'∧Ch X w1 w'):=fun w1 h1=>(CALL.out w1 h1).mono (ran_fit (by omega));clear CALL
  go_enter Tryz.func147,Tryz.ntmps147
  go_wp2_with fail
  go_region_with (first
   | (go_at_call 171;rw[← hwa];refine Calls.mono CN.out ?_;rintro e w1 ⟨rfl,hb1⟩)
   | (go_at_call 59;refine Calls.mono (CF.out _ hb1) ?_;rintro e w2 ⟨rfl,hW2,hC2⟩;have H2:=(show Hid _ from hW2);have H3:=(show Hid (Ch X w w2) from HCa.out.trans ((HCb.out _ hb1).trans hC2));clear hW2 hC2))
  all_goals
   clear CF CN HCa HCb;go_wp2_with fail;refine bodyPost_end (v:=.tuple #[]) ?_ rfl (.inl ⟨rfl,H2.out,H3.out⟩);simp[results,Tryz.results147]

set_option maxHeartbeats 1000000 in
set_option maxRecDepth 100000 in
theorem iWord5 {X:Fx}{ls:List Vl}{G:List Nat}{w:World}(h:Wk X ls G w)(op n:Int)(hop:op=5)(s:List UInt8)(K:Nat)(hK:K≤1048577)(ao:Option Addr)(cap:Nat):
  Calls Tryz.prog 147 #[.pointer (some ⟨X.p,0,none⟩),.agg #[.int .i64 op,.int .i64 n,.string ⟨s.toArray⟩,.slice ao K cap]] w fun e w'=>Ran X (.tuple #[]) (ls++[wordV X.iv X.ic op n s K]) G w e w':=by
 have hKI:(K:Int)≤1048577:=by omega
 have hba:∀ o,Below w.heap.size w (w.alloc o):=fun o=>(Below.refl _ _).alloc (Nat.le_refl _) _;have HC:Hid (∀ o,Ch X w (w.alloc o)):=fun o=>ch_below h.lt (hba o);subst hop;have hbd:∀ o,Below w.heap.size w (w.alloc o).drew:=fun o=>(hba o).drew
 obtain⟨wa,hwa⟩:∃ wa,wa=(w.alloc (.cells #[.int .i64 5,.int .i64 n,.string ⟨s.toArray⟩,.slice ao K cap] 51)).drew:=⟨_,rfl⟩
 have hA:Wk X ls G wa:=by rw[hwa];exact h.later (hbd _)
 have HCa:Hid (Ch X w wa):=by rw[hwa];exact ch_below h.lt (hbd _)
 have CN:Hid (Calls Tryz.prog 107 #[.agg #[.slice X.va X.vars.length X.vc,.slice X.ca X.cells.length X.cc],.string ⟨s.toArray⟩] wa fun e w'=>e=.returned (.int .i64 (idx X.cells ⟨s.toArray⟩))∧Below wa.heap.size wa w'):=iCellNumber hA _;have CALL:Hid (∀ w1,Below wa.heap.size wa w1→Calls Tryz.prog 59 #[.pointer (some ⟨X.p,0,none⟩),.int .i64 6,.int .i64 (idx X.cells ⟨s.toArray⟩),.string ⟨#[]⟩] w1 fun e w'=>Ran X (.tuple #[]) (ls++[wordV X.iv X.ic 5 n s K]) G w1 e w'):=fun w1 h1=>iPut (hA.later h1) 6 (idx X.cells ⟨s.toArray⟩) ⟨#[]⟩;have HCb:Hid (∀ w1,Below wa.heap.size wa w1→Ch X wa w1):=fun w1 h1=>ch_below hA.lt h1
 obtain⟨ao2,cap2,k1,k2⟩:=hA.blk
 have q0:=k1.cell 0 rfl;have q1:=k1.cell 1 rfl
 rw[hwa] at q0 q1
 have hlen:=h.len;clear h hba hbd hA k1 k2 HC
 by_cases hf:ls.length=1500
 ·have CF:Hid (∀ w1,Below wa.heap.size wa w1→Calls Tryz.prog 59 #[.pointer (some ⟨X.p,0,none⟩),.int .i64 6,.int .i64 (idx X.cells ⟨s.toArray⟩),.string ⟨#[]⟩] w1 fun e w'=>Full X (ls++[wordV X.iv X.ic 5 n s K]).length e w'):=fun w1 h1=>(CALL.out w1 h1).mono (ran_full hf);clear CALL HCa HCb
  go_enter Tryz.func147,Tryz.ntmps147
  go_wp2_with fail
  go_region_with (first
   | (go_at_call 107;rw[← hwa];refine Calls.mono CN.out ?_;rintro e w1 ⟨rfl,hb1⟩)
   | (go_at_call 59;refine Calls.mono (CF.out _ hb1) ?_;intro e w2 h2;by_cases hx:∃ v,e=.returned v;(case neg=>(obtain⟨rfl,hn,hB⟩:=h2;exact⟨rfl,.inr ⟨rfl,hn,hB⟩⟩));obtain⟨v,rfl⟩:=hx))
  all_goals
   obtain⟨h2,-⟩:=h2
   cases h2
 ·have CF:Hid (∀ w1,Below wa.heap.size wa w1→Calls Tryz.prog 59 #[.pointer (some ⟨X.p,0,none⟩),.int .i64 6,.int .i64 (idx X.cells ⟨s.toArray⟩),.string ⟨#[]⟩] w1 fun e w'=>e=.returned (.tuple #[])∧Wk X (ls++[wordV X.iv X.ic 5 n s K]) G w'∧Ch X w1 w'):=fun w1 h1=>(CALL.out w1 h1).mono (ran_fit (by omega));clear CALL
  go_enter Tryz.func147,Tryz.ntmps147
  go_wp2_with fail
  go_region_with (first
   | (go_at_call 107;rw[← hwa];refine Calls.mono CN.out ?_;rintro e w1 ⟨rfl,hb1⟩)
   | (go_at_call 59;refine Calls.mono (CF.out _ hb1) ?_;rintro e w2 ⟨rfl,hW2,hC2⟩;have H2:=(show Hid _ from hW2);have H3:=(show Hid (Ch X w w2) from HCa.out.trans ((HCb.out _ hb1).trans hC2));clear hW2 hC2))
  all_goals
   clear CF CN HCa HCb;go_wp2_with fail;refine bodyPost_end (v:=.tuple #[]) ?_ rfl (.inl ⟨rfl,H2.out,H3.out⟩);simp[results,Tryz.results147]

set_option maxHeartbeats 1000000 in
set_option maxRecDepth 100000 in
theorem iWord34 {X:Fx}{ls:List Vl}{G:List Nat}{w:World}(h:Wk X ls G w)(op n:Int)(hop:op=34)(s:List UInt8)(K:Nat)(hK:K≤1048577)(ao:Option Addr)(cap:Nat):
  Calls Tryz.prog 147 #[.pointer (some ⟨X.p,0,none⟩),.agg #[.int .i64 op,.int .i64 n,.string ⟨s.toArray⟩,.slice ao K cap]] w fun e w'=>Ran X (.tuple #[]) (ls++[wordV X.iv X.ic op n s K]) G w e w':=by
 have hKI:(K:Int)≤1048577:=by omega
 have hba:∀ o,Below w.heap.size w (w.alloc o):=fun o=>(Below.refl _ _).alloc (Nat.le_refl _) _;have HC:Hid (∀ o,Ch X w (w.alloc o)):=fun o=>ch_below h.lt (hba o);subst hop;have hbd:∀ o,Below w.heap.size w (w.alloc o).drew:=fun o=>(hba o).drew
 obtain⟨wa,hwa⟩:∃ wa,wa=(w.alloc (.cells #[.int .i64 34,.int .i64 n,.string ⟨s.toArray⟩,.slice ao K cap] 51)).drew:=⟨_,rfl⟩
 have hA:Wk X ls G wa:=by rw[hwa];exact h.later (hbd _)
 have HCa:Hid (Ch X w wa):=by rw[hwa];exact ch_below h.lt (hbd _)
 have CN:Hid (Calls Tryz.prog 107 #[.agg #[.slice X.va X.vars.length X.vc,.slice X.ca X.cells.length X.cc],.string ⟨s.toArray⟩] wa fun e w'=>e=.returned (.int .i64 (idx X.cells ⟨s.toArray⟩))∧Below wa.heap.size wa w'):=iCellNumber hA _;have CALL:Hid (∀ w1,Below wa.heap.size wa w1→Calls Tryz.prog 59 #[.pointer (some ⟨X.p,0,none⟩),.int .i64 35,.int .i64 (idx X.cells ⟨s.toArray⟩),.string ⟨#[]⟩] w1 fun e w'=>Ran X (.tuple #[]) (ls++[wordV X.iv X.ic 34 n s K]) G w1 e w'):=fun w1 h1=>iPut (hA.later h1) 35 (idx X.cells ⟨s.toArray⟩) ⟨#[]⟩;have HCb:Hid (∀ w1,Below wa.heap.size wa w1→Ch X wa w1):=fun w1 h1=>ch_below hA.lt h1
 obtain⟨ao2,cap2,k1,k2⟩:=hA.blk
 have q0:=k1.cell 0 rfl;have q1:=k1.cell 1 rfl
 rw[hwa] at q0 q1
 have hlen:=h.len;clear h hba hbd hA k1 k2 HC
 by_cases hf:ls.length=1500
 ·have CF:Hid (∀ w1,Below wa.heap.size wa w1→Calls Tryz.prog 59 #[.pointer (some ⟨X.p,0,none⟩),.int .i64 35,.int .i64 (idx X.cells ⟨s.toArray⟩),.string ⟨#[]⟩] w1 fun e w'=>Full X (ls++[wordV X.iv X.ic 34 n s K]).length e w'):=fun w1 h1=>(CALL.out w1 h1).mono (ran_full hf);clear CALL HCa HCb
  go_enter Tryz.func147,Tryz.ntmps147
  go_wp2_with fail
  go_region_with (first
   | (go_at_call 107;rw[← hwa];refine Calls.mono CN.out ?_;rintro e w1 ⟨rfl,hb1⟩)
   | (go_at_call 59;refine Calls.mono (CF.out _ hb1) ?_;intro e w2 h2;by_cases hx:∃ v,e=.returned v;(case neg=>(obtain⟨rfl,hn,hB⟩:=h2;exact⟨rfl,.inr ⟨rfl,hn,hB⟩⟩));obtain⟨v,rfl⟩:=hx))
  all_goals
   obtain⟨h2,-⟩:=h2
   cases h2
 ·have CF:Hid (∀ w1,Below wa.heap.size wa w1→Calls Tryz.prog 59 #[.pointer (some ⟨X.p,0,none⟩),.int .i64 35,.int .i64 (idx X.cells ⟨s.toArray⟩),.string ⟨#[]⟩] w1 fun e w'=>e=.returned (.tuple #[])∧Wk X (ls++[wordV X.iv X.ic 34 n s K]) G w'∧Ch X w1 w'):=fun w1 h1=>(CALL.out w1 h1).mono (ran_fit (by omega));clear CALL
  go_enter Tryz.func147,Tryz.ntmps147
  go_wp2_with fail
  go_region_with (first
   | (go_at_call 107;rw[← hwa];refine Calls.mono CN.out ?_;rintro e w1 ⟨rfl,hb1⟩)
   | (go_at_call 59;refine Calls.mono (CF.out _ hb1) ?_;rintro e w2 ⟨rfl,hW2,hC2⟩;have H2:=(show Hid _ from hW2);have H3:=(show Hid (Ch X w w2) from HCa.out.trans ((HCb.out _ hb1).trans hC2));clear hW2 hC2))
  all_goals
   clear CF CN HCa HCb;go_wp2_with fail;refine bodyPost_end (v:=.tuple #[]) ?_ rfl (.inl ⟨rfl,H2.out,H3.out⟩);simp[results,Tryz.results147]

theorem iWord {X:Fx}{ls:List Vl}{G:List Nat}{w:World}(h:Wk X ls G w)(hT:Tab X)(op n:Int)(hop:WordOp op)(s:List UInt8)(K:Nat)(hK:K≤1048577)(ao:Option Addr)(cap:Nat):
  Calls Tryz.prog 147 #[.pointer (some ⟨X.p,0,none⟩),.agg #[.int .i64 op,.int .i64 n,.string ⟨s.toArray⟩,.slice ao K cap]] w fun e w'=>Ran X (.tuple #[]) (ls++[wordV X.iv X.ic op n s K]) G w e w':=by
 unfold WordOp at hop
 by_cases h1:op=1
 ·exact iWord1 h op n h1 s K hK ao cap
 by_cases h2:op=2
 ·exact iWord2 h op n h2 s K hK ao cap
 by_cases h3:op=3
 ·exact iWord3 h op n h3 s K hK ao cap
 by_cases h4:op=4
 ·exact iWord4 h op n h4 s K hK ao cap
 by_cases h5:op=5
 ·exact iWord5 h op n h5 s K hK ao cap
 by_cases h6:op=34
 ·exact iWord34 h op n h6 s K hK ao cap
 by_cases h7:op=28
 ·exact iWord28 h op n h7 s K hK ao cap
 exact iWordP h hT op n (by omega) s K hK ao cap

end Cm
namespace Cm
open St (Vl encV)
open Nd Ty
open Oc (hold Blk)

theorem at_full {X:Fx}{v:Value}{w0:World}{bxs:List (Nat × TypeId × List Value)}{G:List Nat}{S R:Nat→Prop}{L:List Vl}{x:Vl}{e:Ending}{w':World}(hf:L.length=1500)(h:Step X v w0 bxs G S R (L++[x]) e w'):Full X (L++[x]).length e w':=by
 rcases h with h|⟨_,_,_,h,_⟩
 ·exact h
 ·have:=h.len;simp at this;omega
theorem at_fit {X:Fx}{v:Value}{w0:World}{bxs:List (Nat × TypeId × List Value)}{G:List Nat}{S R:Nat→Prop}{L:List Vl}{x:Vl}{e:Ending}{w':World}(hf:L.length<1500)(h:Step X v w0 bxs G S R (L++[x]) e w'):e=.returned v∧At X w0 bxs G S R (L++[x]) w':=by
 rcases h with ⟨_,h,_⟩|h
 ·simp at h;omega
 ·exact h
theorem At.len {X:Fx}{w0:World}{bxs:List (Nat × TypeId × List Value)}{G:List Nat}{S R:Nat→Prop}{L:List Vl}{w':World}(h:At X w0 bxs G S R L w'):L.length≤1500:=by
 obtain⟨_,_,h,_⟩:=h
 exact h.len
theorem At.names {X:Fx}{w0:World}{bxs:List (Nat × TypeId × List Value)}{G:List Nat}{S R:Nat→Prop}{L:List Vl}{w':World}(h:At X w0 bxs G S R L w'):w'.cell? ⟨X.p,0,none⟩=some (.slice X.va X.vars.length X.vc)∧w'.cell? ⟨X.p,1,none⟩=some (.slice X.ca X.cells.length X.cc):=by
 obtain⟨_,_,h,_⟩:=h
 obtain⟨ao,cap,h1,_⟩:=h.blk
 exact⟨h1.cell 0 rfl,h1.cell 1 rfl⟩
theorem at_var {X:Fx}{w0:World}{bxs:List (Nat × TypeId × List Value)}{G:List Nat}{S R:Nat→Prop}{L:List Vl}{w:World}(h:At X w0 bxs G S R L w)(s:ByteArray):
  Calls Tryz.prog 171 #[.agg #[.slice X.va X.vars.length X.vc,.slice X.ca X.cells.length X.cc],.string s] w fun e w'=>e=.returned (.int .i64 (X.iv s))∧Below w.heap.size w w':=by
 obtain⟨_,_,h,_⟩:=h
 exact iVarNumber h s
theorem at_cell {X:Fx}{w0:World}{bxs:List (Nat × TypeId × List Value)}{G:List Nat}{S R:Nat→Prop}{L:List Vl}{w:World}(h:At X w0 bxs G S R L w)(s:ByteArray):
  Calls Tryz.prog 107 #[.agg #[.slice X.va X.vars.length X.vc,.slice X.ca X.cells.length X.cc],.string s] w fun e w'=>e=.returned (.int .i64 (X.ic s))∧Below w.heap.size w w':=by
 obtain⟨_,_,h,_⟩:=h
 exact iCellNumber h s

set_option maxHeartbeats 2000000 in
set_option maxRecDepth 100000 in
theorem iSet {X:Fx}{op n vcode ccode:Int}{s:List UInt8}{k0 k1:Data}(hk0:NodesOk X (kidsOf k0))(hk1:NodeOk X k1){ls:List Vl}{G:List Nat}{w:World}{S:Nat→Prop}{a b c u:Value}(hW:Wk X ls G w)(hN:NodeIs X.W (nd op n s [k0,k1]) S [a,b,c,u])(hG:∀ g∈G,¬ S g):
  Calls Tryz.prog 146 #[.pointer (some ⟨X.p,0,none⟩),.agg #[a,b,c,u],.int .i64 vcode,.int .i64 ccode] w fun e w'=>RanS X (ls++(seqs [seqOf X.iv X.ic (kidsOf k0),nodeP X.iv X.ic k1] ls.length++[if opOf k0=4 then (vcode,X.iv (tx (txtOf k0)),none') else (ccode,X.ic (tx (txtOf k0)),none')])) G S w e w':=by
 obtain⟨g,cap,x0,x1,x2,x3,y0,y1,y2,y3,S0,S1,T⟩:=kids2 hN
 have hv:=T.val;simp at hv
 obtain⟨rfl,rfl,rfl,rfl⟩:=hv
 obtain⟨ao0,cap0,rfl,rfl,rfl,rfl⟩:=node_vals T.k0
 obtain⟨ao1,cap1,rfl,rfl,rfl,rfl⟩:=node_vals T.k1
 obtain⟨-,hgl,-,c0,c1,c2,c3,d0,d1,d2,d3,i0,i1,t0,t1⟩:=T
 obtain⟨S0',xs0,hr0,hn0,hs0⟩:∃ S0' xs0,X.W.ownsRow 0 51 4 (.slice ao0 (kidsOf k0).length cap0) (kidsOf k0).length xs0∧NodesIs X.W (kidsOf k0) S0' xs0∧∀ k,S0' k→S0 k:=by
  obtain⟨op0,n0,s0,ks0,rfl⟩:=node_node i0
  obtain⟨ao,cap,xs,he,q1,q2,q3⟩:=node_parts i0
  simp[kids_nd] at he
  obtain⟨rfl,rfl⟩:=he.2.2.2
  exact⟨_,xs,q1,q3,fun k hk=>hk.1⟩
 have R0:∀ k,S0' k→S k∧(S0' k∨S1 k)∧¬ S1 k:=fun k hk=>⟨(t0 k (hs0 k hk)).1,.inl hk,(t0 k (hs0 k hk)).2⟩;have R1:∀ k,S1 k→S k∧S1 k∧¬ False:=fun k hk=>⟨t1 k hk,hk,id⟩
 obtain⟨fa,hfa⟩:∃ fa,Hid (fa=seqOf X.iv X.ic (kidsOf k0) ls.length):=⟨_,rfl⟩
 obtain⟨fc,hfc⟩:∃ fc,Hid (fc=nodeP X.iv X.ic k1 (ls.length+fa.length)):=⟨_,rfl⟩
 have HT:Hid (ls++(seqs [seqOf X.iv X.ic (kidsOf k0),nodeP X.iv X.ic k1] ls.length++[if opOf k0=4 then (vcode,X.iv (tx (txtOf k0)),none') else (ccode,X.ic (tx (txtOf k0)),none')])=(ls++fa++fc)++[if opOf k0=4 then (vcode,X.iv (tx (txtOf k0)),none') else (ccode,X.ic (tx (txtOf k0)),none')]):=by
  show _=_;simp only[seqs,← hfa.out,← hfc.out,List.append_nil,List.append_assoc]
 rw[HT.out]
 obtain⟨xl,hxl⟩:∃ xl:Vl,Hid (xl=if opOf k0=4 then (vcode,X.iv (tx (txtOf k0)),none') else (ccode,X.ic (tx (txtOf k0)),none')):=⟨_,rfl⟩
 obtain⟨L,hL⟩:∃ L,Hid (L=ls++fa++fc):=⟨_,rfl⟩
 rw[← hxl.out,← hL.out]
 clear HT;have HA:Hid (At X w [(w.heap.size+1,51,[.int .i64 (opOf k0),.int .i64 (numOf k0),.string ⟨(txtOf k0).toArray⟩,.slice ao0 (kidsOf k0).length cap0]),(nb w op n s g 2 cap)] G S (fun k=>S0' k∨S1 k) ls ((w.alloc (.cells #[.int .i64 op,.int .i64 n,.string ⟨s.toArray⟩,.slice (some ⟨g,0,none⟩) 2 cap] 51)).alloc (.cells #[.int .i64 (opOf k0),.int .i64 (numOf k0),.string ⟨(txtOf k0).toArray⟩,.slice ao0 (kidsOf k0).length cap0] 51))):=by
  have:=((at_none hW hG (R:=fun k=>S0' k∨S1 k) (fun k hk=>hk.elim (fun h=>(t0 k (hs0 k h)).1) (t1 k))).more 51 [.int .i64 op,.int .i64 n,.string ⟨s.toArray⟩,.slice (some ⟨g,0,none⟩) 2 cap]).more 51 [.int .i64 (opOf k0),.int .i64 (numOf k0),.string ⟨(txtOf k0).toArray⟩,.slice ao0 (kidsOf k0).length cap0]
  rw[World.size_alloc] at this
  exact this
 have c0':=(hW.later ((Below.refl _ w).alloc (Nat.le_refl _) (.cells #[.int .i64 op,.int .i64 n,.string ⟨s.toArray⟩,.slice (some ⟨g,0,none⟩) 2 cap] 51))).cell c0;have c1':=(hW.later ((Below.refl _ w).alloc (Nat.le_refl _) (.cells #[.int .i64 op,.int .i64 n,.string ⟨s.toArray⟩,.slice (some ⟨g,0,none⟩) 2 cap] 51))).cell c1;have c2':=(hW.later ((Below.refl _ w).alloc (Nat.le_refl _) (.cells #[.int .i64 op,.int .i64 n,.string ⟨s.toArray⟩,.slice (some ⟨g,0,none⟩) 2 cap] 51))).cell c2;have c3':=(hW.later ((Below.refl _ w).alloc (Nat.le_refl _) (.cells #[.int .i64 op,.int .i64 n,.string ⟨s.toArray⟩,.slice (some ⟨g,0,none⟩) 2 cap] 51))).cell c3;clear hW hN hG
 go_enter Tryz.func146,Tryz.ntmps146
 go_wp2_with (go_at_call 140;refine hold ?_)
 refine Calls.mono (at_nodes (R':=S1) (x:=fa) hk0 HA.out hr0 hn0 R0 (fun k hk=>.inr hk) hfa.out) ?_;clear c0' c1' c2' c3';rintro e w1 (⟨rfl,hn,hB⟩|⟨rfl,hK⟩)
 ·clear HA;go_wp2_with fail
  exact⟨rfl,.inr ⟨rfl,by rw[hL.out];simp only[List.length_append,List.length_cons,List.length_nil] at hn ⊢;omega,hB⟩⟩
 have H1:Hid (At X w [(w.heap.size+1,51,[.int .i64 (opOf k0),.int .i64 (numOf k0),.string ⟨(txtOf k0).toArray⟩,.slice ao0 (kidsOf k0).length cap0]),(nb w op n s g 2 cap)] G S S1 (ls++fa) w1):=hK;have p0:=H1.out.box (b:=(nb w op n s g 2 cap)) (by simp) 3 rfl;have d0':=H1.out.wk d0;have d1':=H1.out.wk d1;have d2':=H1.out.wk d2;have d3':=H1.out.wk d3;clear hK HA
 go_wp2_with (go_at_call 101;refine hold ?_)
 refine Calls.mono (at_node (R':=fun _=>False) (x:=fc) hk1 H1.out i1 R1 (fun k hk=>hk.elim) (by rw[hfc.out];congr 1;simp)) ?_;clear p0 d0' d1' d2' d3';rintro e w2 (⟨rfl,hn,hB⟩|⟨rfl,hK⟩)
 ·clear H1;go_wp2_with fail
  exact⟨rfl,.inr ⟨rfl,by rw[hL.out];simp only[List.length_append,List.length_cons,List.length_nil] at hn ⊢;omega,hB⟩⟩
 have H2:Hid (At X w [(w.heap.size+1,51,[.int .i64 (opOf k0),.int .i64 (numOf k0),.string ⟨(txtOf k0).toArray⟩,.slice ao0 (kidsOf k0).length cap0]),(nb w op n s g 2 cap)] G S (fun _=>False) (ls++fa++fc) w2):=hK;have p0:=H2.out.box (b:=(w.heap.size+1,51,[.int .i64 (opOf k0),.int .i64 (numOf k0),.string ⟨(txtOf k0).toArray⟩,.slice ao0 (kidsOf k0).length cap0])) (by simp) 0 rfl;clear hK H1;have H3:Hid (At X w [(w.heap.size+1,51,[.int .i64 (opOf k0),.int .i64 (numOf k0),.string ⟨(txtOf k0).toArray⟩,.slice ao0 (kidsOf k0).length cap0]),(nb w op n s g 2 cap)] G S (fun _=>False) (ls++fa++fc) w2.drew):=H2.out.later (Below.refl _ _).drew;have p2:=H3.out.box (b:=(w.heap.size+1,51,[.int .i64 (opOf k0),.int .i64 (numOf k0),.string ⟨(txtOf k0).toArray⟩,.slice ao0 (kidsOf k0).length cap0])) (by simp) 2 rfl;have q0:=H3.out.names.1;have q1:=H3.out.names.2;have HP:Hid (∀ (cd z:Int) w4,Below w2.drew.heap.size w2.drew w4→Calls Tryz.prog 59 #[.pointer (some ⟨X.p,0,none⟩),.int .i64 cd,.int .i64 z,.string ⟨#[]⟩] w4 fun e w'=>Step X (.tuple #[]) w [(w.heap.size+1,51,[.int .i64 (opOf k0),.int .i64 (numOf k0),.string ⟨(txtOf k0).toArray⟩,.slice ao0 (kidsOf k0).length cap0]),(nb w op n s g 2 cap)] G S (fun _=>False) (ls++fa++fc++[(cd,z,none')]) e w'):=fun cd z w4 h4=>at_put (H3.out.later h4) cd z none';have CV:Hid (Calls Tryz.prog 171 #[.agg #[.slice X.va X.vars.length X.vc,.slice X.ca X.cells.length X.cc],.string ⟨(txtOf k0).toArray⟩] w2.drew fun e w'=>e=.returned (.int .i64 (X.iv (tx (txtOf k0))))∧Below w2.drew.heap.size w2.drew w'):=at_var H3.out _;have CC:Hid (Calls Tryz.prog 107 #[.agg #[.slice X.va X.vars.length X.vc,.slice X.ca X.cells.length X.cc],.string ⟨(txtOf k0).toArray⟩] w2.drew fun e w'=>e=.returned (.int .i64 (X.ic (tx (txtOf k0))))∧Below w2.drew.heap.size w2.drew w'):=at_cell H3.out _;have hlen:=H2.out.len
 rw[← hL.out] at HP hlen
 clear H2 H3 hfa hfc hL hk0 hk1 hr0 hn0 i0 i1
 by_cases h4:opOf k0=4
 ·have hx:xl=(vcode,X.iv (tx (txtOf k0)),none'):=by rw[hxl.out,if_pos h4]
  subst hx;clear hxl CC
  rw[h4] at p0
  by_cases hf:L.length=1500
  ·have CF:Hid (∀ w4,Below w2.drew.heap.size w2.drew w4→Calls Tryz.prog 59 #[.pointer (some ⟨X.p,0,none⟩),.int .i64 vcode,.int .i64 (X.iv (tx (txtOf k0))),.string ⟨#[]⟩] w4 fun e w'=>Full X (L++[(vcode,(X.iv (tx (txtOf k0))),none')]).length e w'):=fun w4 h4=>(HP.out vcode (X.iv (tx (txtOf k0))) w4 h4).mono fun e w'=>at_full hf;clear HP;go_wp2_with fail
   go_region_with (first
    | (go_at_call 171;refine Calls.mono CV.out ?_;rintro e w4 ⟨rfl,hb4⟩)
    | (go_at_call 59;refine Calls.mono (CF.out _ hb4) ?_;intro e w5 h5;by_cases hx:∃ v,e=.returned v;(case neg=>(obtain⟨rfl,hn,hB⟩:=h5;exact⟨rfl,.inr ⟨rfl,hn,hB⟩⟩));obtain⟨v,rfl⟩:=hx))
   all_goals
    obtain⟨h5,-⟩:=h5
    cases h5
  ·have CF:Hid (∀ w4,Below w2.drew.heap.size w2.drew w4→Calls Tryz.prog 59 #[.pointer (some ⟨X.p,0,none⟩),.int .i64 vcode,.int .i64 (X.iv (tx (txtOf k0))),.string ⟨#[]⟩] w4 fun e w'=>e=.returned (.tuple #[])∧At X w [(w.heap.size+1,51,[.int .i64 (opOf k0),.int .i64 (numOf k0),.string ⟨(txtOf k0).toArray⟩,.slice ao0 (kidsOf k0).length cap0]),(nb w op n s g 2 cap)] G S (fun _=>False) (L++[(vcode,(X.iv (tx (txtOf k0))),none')]) w'):=fun w4 h4=>(HP.out vcode (X.iv (tx (txtOf k0))) w4 h4).mono fun e w'=>at_fit (by omega);clear HP;go_wp2_with fail
   go_region_with (first
    | (go_at_call 171;refine Calls.mono CV.out ?_;rintro e w4 ⟨rfl,hb4⟩)
    | (go_at_call 59;refine Calls.mono (CF.out _ hb4) ?_;rintro e w5 ⟨rfl,h5⟩;have H5:=(show Hid (At X w [(w.heap.size+1,51,[.int .i64 (opOf k0),.int .i64 (numOf k0),.string ⟨(txtOf k0).toArray⟩,.slice ao0 (kidsOf k0).length cap0]),(nb w op n s g 2 cap)] G S (fun _=>False) (L++[(vcode,(X.iv (tx (txtOf k0))),none')]) w5) from h5);clear h5))
   all_goals
    clear CF;go_wp2_with fail
    first
     | (refine bodyPost_end (v:=.tuple #[]) ?_ rfl (H5.out.ends rfl);simp[results,Tryz.results146])
     | (refine bodyPost_ret (v:=.tuple #[]) ?_ rfl (H5.out.ends rfl);simp[results,Tryz.results146])
 ·have hx:xl=(ccode,X.ic (tx (txtOf k0)),none'):=by rw[hxl.out,if_neg h4]
  subst hx;clear hxl CV
  by_cases hf:L.length=1500
  ·have CF:Hid (∀ w4,Below w2.drew.heap.size w2.drew w4→Calls Tryz.prog 59 #[.pointer (some ⟨X.p,0,none⟩),.int .i64 ccode,.int .i64 (X.ic (tx (txtOf k0))),.string ⟨#[]⟩] w4 fun e w'=>Full X (L++[(ccode,(X.ic (tx (txtOf k0))),none')]).length e w'):=fun w4 h4=>(HP.out ccode (X.ic (tx (txtOf k0))) w4 h4).mono fun e w'=>at_full hf;clear HP;go_wp2_with fail
   go_region_with (first
    | (go_at_call 107;refine Calls.mono CC.out ?_;rintro e w4 ⟨rfl,hb4⟩)
    | (go_at_call 59;refine Calls.mono (CF.out _ hb4) ?_;intro e w5 h5;by_cases hx:∃ v,e=.returned v;(case neg=>(obtain⟨rfl,hn,hB⟩:=h5;exact⟨rfl,.inr ⟨rfl,hn,hB⟩⟩));obtain⟨v,rfl⟩:=hx))
   all_goals
    obtain⟨h5,-⟩:=h5
    cases h5
  ·have CF:Hid (∀ w4,Below w2.drew.heap.size w2.drew w4→Calls Tryz.prog 59 #[.pointer (some ⟨X.p,0,none⟩),.int .i64 ccode,.int .i64 (X.ic (tx (txtOf k0))),.string ⟨#[]⟩] w4 fun e w'=>e=.returned (.tuple #[])∧At X w [(w.heap.size+1,51,[.int .i64 (opOf k0),.int .i64 (numOf k0),.string ⟨(txtOf k0).toArray⟩,.slice ao0 (kidsOf k0).length cap0]),(nb w op n s g 2 cap)] G S (fun _=>False) (L++[(ccode,(X.ic (tx (txtOf k0))),none')]) w'):=fun w4 h4=>(HP.out ccode (X.ic (tx (txtOf k0))) w4 h4).mono fun e w'=>at_fit (by omega);clear HP;go_wp2_with fail
   go_region_with (first
    | (go_at_call 107;refine Calls.mono CC.out ?_;rintro e w4 ⟨rfl,hb4⟩)
    | (go_at_call 59;refine Calls.mono (CF.out _ hb4) ?_;rintro e w5 ⟨rfl,h5⟩;have H5:=(show Hid (At X w [(w.heap.size+1,51,[.int .i64 (opOf k0),.int .i64 (numOf k0),.string ⟨(txtOf k0).toArray⟩,.slice ao0 (kidsOf k0).length cap0]),(nb w op n s g 2 cap)] G S (fun _=>False) (L++[(ccode,(X.ic (tx (txtOf k0))),none')]) w5) from h5);clear h5))
   all_goals
    clear CF;go_wp2_with fail
    first
     | (refine bodyPost_end (v:=.tuple #[]) ?_ rfl (H5.out.ends rfl);simp[results,Tryz.results146])
     | (refine bodyPost_ret (v:=.tuple #[]) ?_ rfl (H5.out.ends rfl);simp[results,Tryz.results146])

end Cm
end Go.Proofs.YtllbachngocmnaaGreatDoor
