/-
  How many Rex a pattern of so many bytes has.
-/
import Derived.Test.YtllbachngocmnaaGreatDoorP22
import Derived.LaidEql
import Derived.Stop.Asserts
import Derived.RowKitTokens
import Derived.Test.YtllbachngocmnaaGreatDoorP16
namespace Go.Proofs.YtllbachngocmnaaGreatDoor
namespace Rx

theorem cnts_snoc (ts:List Data)(t:Data):cnts (ts++[t])=cnts ts+cnt t:=by
 induction ts with
 | nil=>simp[cnts]
 | cons a ts ih=>simp[cnts,ih];omega

theorem cnt_one (op:Nat)(t:Data):cnt (one op t)=cnt t+1:=by unfold one;rw[cnt_nd];simp[cnts]

section
variable {g : Nat → Nat} {N : Nat}

theorem stars_cnt:∀ (f:Nat) (t:Data) (i:Nat),cnt (stars g f t i).1+i≤cnt t+(stars g f t i).2:=by
 intro f
 induction f with
 | zero=>intro t i;simp[stars]
 | succ f ih =>
  intro t i
  rw[stars]
  have a:=fun op=>ih (one op t) (i+1);simp only[cnt_one] at a
  split
  ·have:=a 8;omega
  split
  ·have:=a 9;omega
  split
  ·have:=a 10;omega
  ·exact Nat.le_refl _

theorem setAt_cnt {i k:Nat}{t:Data}(h:setAt g N i=some (t,k)):cnt t=1:=by
 unfold setAt setEnd at h
 split at h
 ·simp at h
 ·split at h
  ·simp at h
  ·simp at h
   rw[← h.1]
   unfold setOf
   rw[cnt_nd];simp[cnts]

theorem atomAt_cnt (hg:∀ i,N≤i→g i=256){F:Nat→Option (Data × Nat)}(hF:∀ i t j,F i=some (t,j)→i≤j∧cnt t+2*i≤2*j+1){i k:Nat}{t:Data}(h:atomAt g N F i=some (t,k)):cnt t+1+2*i≤2*k:=by
 have leaf1:∀ op,cnt (leaf op)=1:=fun op=>by unfold leaf;rw[cnt_nd];simp[cnts]
 have chr1:∀ b,cnt (chr b)=1:=fun op=>by unfold chr;rw[cnt_nd];simp[cnts]
 unfold atomAt at h
 split at h
 ·simp at h
 split at h
 ·unfold shut at h
  split at h
  ·simp at h
  ·rename_i t' j' h2
   have:=hF _ _ _ h2
   split at h
   ·simp at h
    obtain⟨rfl,rfl⟩:=h
    omega
   ·simp at h
 split at h
 ·simp at h;obtain⟨rfl,rfl⟩:=h;rw[leaf1];omega
 split at h
 ·simp at h;obtain⟨rfl,rfl⟩:=h;rw[leaf1];omega
 split at h
 ·simp at h;obtain⟨rfl,rfl⟩:=h;rw[leaf1];omega
 split at h
 ·have:=setAt_cnt h;have:=setAt_in hg h;omega
 split at h
 ·split at h
  ·simp at h
  ·simp at h;obtain⟨rfl,rfl⟩:=h;rw[chr1];omega
 split at h
 ·simp at h
 ·simp at h;obtain⟨rfl,rfl⟩:=h;rw[chr1];omega

theorem piece_cnt (hg:∀ i,N≤i→g i=256){A:Nat→Option (Data × Nat)}(hA:∀ i t j,A i=some (t,j)→cnt t+1+2*i≤2*j){i j:Nat}{t:Data}(h:pieceAt g N A i=some (t,j)):cnt t+1+2*i≤2*j:=by
 unfold pieceAt at h
 split at h
 ·simp at h
 ·rename_i t' j' h1
  have:=hA _ _ _ h1
  have a:=stars_cnt (g:=g) (N+1) t' j';have b:=(stars_in hg (N+1) t' j').1;simp at h
  rw[h] at a b
  simp at a b;omega

theorem partLoop_cnt (hg:∀ i,N≤i→g i=256){A:Nat→Option (Data × Nat)}(hA:∀ i t j,A i=some (t,j)→cnt t+1+2*i≤2*j):∀ (f i:Nat) (ts us:List Data) (j:Nat),partLoop g N A f i ts=some (us,j)→cnts us+us.length+2*i≤cnts ts+ts.length+2*j:=by
 intro f
 induction f with
 | zero=>intro i ts us j h;simp[partLoop] at h
 | succ f ih =>
  intro i ts us j h
  rw[partLoop] at h
  split at h
  ·simp at h;obtain⟨rfl,rfl⟩:=h;omega
  split at h
  ·simp at h
  ·rename_i t j' h1
   have:=piece_cnt hg hA h1
   have:=ih _ _ _ _ h
   rw[cnts_snoc] at this
   simp at this;omega

theorem part_cnt (hg:∀ i,N≤i→g i=256){A:Nat→Option (Data × Nat)}(hin:∀ i t j,A i=some (t,j)→i<j∧j≤N)(hA:∀ i t j,A i=some (t,j)→cnt t+1+2*i≤2*j){i j:Nat}{t:Data}(h:partAt g N A i=some (t,j)):cnt t+2*i≤2*j+1:=by
 have hij:=(partAt_in hg hin h).1;unfold partAt partEnd at h
 split at h
 ·simp at h
 ·rename_i ts j' h1
  have:=partLoop_cnt hg hA _ _ _ _ _ h1
  simp[cnts] at this;simp at h
  obtain⟨rfl,rfl⟩:=h
  unfold catOf
  split
  ·unfold leaf;rw[cnt_nd];simp[cnts];omega
  ·simp[cnts] at this;omega
  ·rename_i h3 h4
   rw[cnt_nd]
   have:2≤ts.length:=by
    rcases ts with _|⟨a,_|⟨b,ts⟩⟩
    ·exact (h3 rfl).elim
    ·exact (h4 a rfl).elim
    ·simp
   omega

theorem patLoop_cnt (hg:∀ i,N≤i→g i=256){A:Nat→Option (Data × Nat)}(hin:∀ i t j,A i=some (t,j)→i<j∧j≤N)(hA:∀ i t j,A i=some (t,j)→cnt t+1+2*i≤2*j):∀ (f i:Nat) (ts us:List Data) (j:Nat),patLoop g N A f i ts=some (us,j)→cnts us+us.length+2*i≤cnts ts+ts.length+2*j∧ts.length≤us.length:=by
 intro f
 induction f with
 | zero=>intro i ts us j h;simp[patLoop] at h
 | succ f ih =>
  intro i ts us j h
  rw[patLoop] at h
  split at h
  ·split at h
   ·simp at h
   ·rename_i t j' h1
    have:=part_cnt hg hin hA h1
    have:=ih _ _ _ _ h
    rw[cnts_snoc] at this
    simp at this;omega
  ·simp at h;obtain⟨rfl,rfl⟩:=h;omega

theorem pat_cnt (hg:∀ i,N≤i→g i=256){A:Nat→Option (Data × Nat)}(hin:∀ i t j,A i=some (t,j)→i<j∧j≤N)(hA:∀ i t j,A i=some (t,j)→cnt t+1+2*i≤2*j){i j:Nat}{t:Data}(h:patAt g N A i=some (t,j)):cnt t+2*i≤2*j+1:=by
 unfold patAt patEnd at h
 split at h
 ·simp at h
 ·rename_i t' j' h1
  have:=part_cnt hg hin hA h1
  split at h
  ·simp at h
  ·rename_i us k h2
   have a:=patLoop_cnt hg hin hA _ _ _ _ _ h2;simp[cnts] at a;simp at h
   obtain⟨rfl,rfl⟩:=h
   unfold orOf
   split
   ·simp[cnts] at a;omega
   ·rename_i h3
    rw[cnt_nd]
    have:2≤us.length:=by
     rcases us with _|⟨a',_|⟨b,us⟩⟩
     ·simp at a
     ·exact (h3 a' rfl).elim
     ·simp
    omega

theorem atomN_cnt (hg:∀ i,N≤i→g i=256):∀ (n i:Nat) (t:Data) (j:Nat),atomN g N n i=some (t,j)→cnt t+1+2*i≤2*j:=by
 intro n
 induction n with
 | zero=>intro i t j h;simp[atomN] at h
 | succ n ih =>
  intro i t j h
  rw[atomN] at h
  exact atomAt_cnt hg (fun _ _ _ h=>⟨(patAt_in hg (atomN_in hg n) h).1,pat_cnt hg (atomN_in hg n) ih h⟩) h

theorem patN_cnt (hg:∀ i,N≤i→g i=256){n i j:Nat}{t:Data}(h:patN g N n i=some (t,j)):cnt t+2*i≤2*j+1:=pat_cnt hg (atomN_in hg n) (atomN_cnt hg n) h

end
end Rx
end Go.Proofs.YtllbachngocmnaaGreatDoor
namespace Go.Proofs.YtllbachngocmnaaGreatDoor
open Go.RowKit Go.Extern.Stop Go.Stop Go.Extern
namespace Ck

theorem as_nil (t:Value)(w:World):Calls Tryz.prog 55 #[.nilIface,t] w fun e w'=>e=.returned (.bool false)∧w'=w:=by
 go_enter Tryz.func55,Tryz.ntmps55
 go_wp2
 go_ret
 exact⟨rfl,rfl⟩

theorem Tryz.valueOfP (t:Addr)(w:World):(ReflectliteValue.unpack (.iface 86 (.pointer (some t)))).run Tryz.prog w=.ok (.agg #[.pointer (some ⟨6,86,none⟩),.pointer (some ⟨w.heap.size,0,none⟩),.int .u64 150]) (w.alloc (.cells #[.pointer (some t)] 86)):=by kernel_rfl
theorem Tryz.typeP (a:Addr)(w:World):(ReflectliteValue.methodAny (ReflectliteValue.valueError "reflectlite.Value.Type" 0) (fun t _ _ _=>ReflectliteType.toType t) #[.agg #[.pointer (some ⟨6,86,none⟩),.pointer (some a),.int .u64 150]]).run Tryz.prog w=.ok (.iface 175 (.agg #[.pointer (some ⟨6,86,none⟩)])) w:=by kernel_rfl
theorem Tryz.kindP (w:World):((ReflectliteType.abiMethod fun t=>(fun a:Nat=>Value.int IntKind.u8 (a:Int)) <$> Rtype.kind t) #[.pointer (some ⟨6,86,none⟩)]).run Tryz.prog w=.ok (.int .u8 22) w:=by kernel_rfl
theorem Tryz.kindS (w:World):((ReflectliteType.abiMethod fun t=>(fun a:Nat=>Value.int IntKind.u8 (a:Int)) <$> Rtype.kind t) #[.pointer (some ⟨6,82,none⟩)]).run Tryz.prog w=.ok (.int .u8 25) w:=by kernel_rfl
theorem rlm (z:Sem Value)(f:TypeId→Addr→Nat→Nat→Sem Value)(v:Value):ReflectliteValue.method z f #[v]=(do match ← ReflectliteValue.parts v with|none=>z|some (t,a,fl)=>f t a fl (fl % 32)):=rfl
theorem Tryz.partsP (a:Addr)(w:World):(ReflectliteValue.parts (.agg #[.pointer (some ⟨6,86,none⟩),.pointer (some a),.int .u64 150])).run Tryz.prog w=.ok (some (86,a,150)) w:=by kernel_rfl
theorem Tryz.isNilP (a p:Addr)(W:World)(ha:W.cell? a=some (.pointer (some p))):(ReflectliteValue.method (ReflectliteValue.valueError "reflectlite.Value.IsNil" 0) ReflectliteValue.isNil #[.agg #[.pointer (some ⟨6,86,none⟩),.pointer (some a),.int .u64 150]]).run Tryz.prog W=.ok (.bool false) W:=by
 rw[rlm]
 simp only[Sem.run_bind,Tryz.partsP,Result.andThen];simp[ReflectliteValue.isNil,loadVar,isAgg,underlying,Tryz.underlying86,ha,Result.andThen]
theorem Tryz.elemT (w:World):(ReflectliteType.method ReflectliteType.elem #[.agg #[.pointer (some ⟨6,86,none⟩)]]).run Tryz.prog w=.ok (.iface 175 (.agg #[.pointer (some ⟨6,82,none⟩)])) w:=by kernel_rfl
theorem Tryz.implementsS (w:World):(ReflectliteType.relation "Implements" ReflectliteType.implements_ #[.agg #[.pointer (some ⟨6,82,none⟩)],.iface 175 (.agg #[.pointer (some ⟨6,85,none⟩)])]).run Tryz.prog w=.ok (.bool true) w:=by kernel_rfl
theorem Tryz.typeOfS (v:Value)(w:World):(ReflectliteType.typeOf #[.iface 82 v]).run Tryz.prog w=.ok (.iface 175 (.agg #[.pointer (some ⟨6,82,none⟩)])) w:=by kernel_rfl
theorem Tryz.assignableS (w:World):(ReflectliteType.relation "AssignableTo" ReflectliteType.assignableTo #[.agg #[.pointer (some ⟨6,82,none⟩)],.iface 175 (.agg #[.pointer (some ⟨6,82,none⟩)])]).run Tryz.prog w=.ok (.bool true) w:=by kernel_rfl
theorem Tryz.valueOfS (x y:Int)(w:World):(ReflectliteValue.unpack (.iface 82 (.agg #[.int .i64 x,.int .i64 y]))).run Tryz.prog w=.ok (.agg #[.pointer (some ⟨6,82,none⟩),.pointer (some ⟨w.heap.size,0,none⟩),.int .u64 153]) (w.alloc (.cells #[.int .i64 x,.int .i64 y] 82)):=by kernel_rfl
theorem Tryz.elemOfP (w:World):(Rtype.elem? 86).run Tryz.prog w=.ok (some 82) w:=by kernel_rfl
theorem Tryz.mkS (p:Addr)(w:World):(ReflectliteValue.mk 82 p ReflectliteValue.flagAddr).run Tryz.prog w=.ok (.agg #[.pointer (some ⟨6,82,none⟩),.pointer (some p),.int .u64 409]) w:=by kernel_rfl
theorem Tryz.elemV (a p:Addr)(W:World)(ha:W.cell? a=some (.pointer (some p))):(ReflectliteValue.method (ReflectliteValue.valueError "reflectlite.Value.Elem" 0) ReflectliteValue.elem #[.agg #[.pointer (some ⟨6,86,none⟩),.pointer (some a),.int .u64 150]]).run Tryz.prog W=.ok (.agg #[.pointer (some ⟨6,82,none⟩),.pointer (some p),.int .u64 409]) W:=by
 rw[rlm]
 simp only[Sem.run_bind,Tryz.partsP,Result.andThen];simp[ReflectliteValue.elem,loadVar,isAgg,underlying,Tryz.underlying86,ha,Result.andThen,Tryz.elemOfP,Tryz.mkS]
theorem Tryz.partsSa (a:Addr)(w:World):(ReflectliteValue.parts (.agg #[.pointer (some ⟨6,82,none⟩),.pointer (some a),.int .u64 409])).run Tryz.prog w=.ok (some (82,a,409)) w:=by kernel_rfl
theorem Tryz.partsS (a:Addr)(w:World):(ReflectliteValue.parts (.agg #[.pointer (some ⟨6,82,none⟩),.pointer (some a),.int .u64 153])).run Tryz.prog w=.ok (some (82,a,153)) w:=by kernel_rfl
theorem Tryz.directS (w:World):(Rtype.directlyAssignable 82 82).run Tryz.prog w=.ok true w:=by kernel_rfl
end Ck
end Go.Proofs.YtllbachngocmnaaGreatDoor
namespace Go.Proofs.YtllbachngocmnaaGreatDoor
namespace Ty
open Nd

def eQ (x:Data):Bool:=eB (opOf x)&&allB x
def blQ (x:Data):Bool:=blB (opOf x)&&allB x
def stQ (x:Data):Bool:=stB (opOf x)&&allB x
def hdB (ks:List Data):Bool:=match ks with
 | x::_=>setB (opOf x)
 | []=>false

def kidsS (op:Int)(ks:List Data):Bool :=
 if op=5∨op=6∨op=22∨op=23∨op=34∨op=35 then decide (ks.length=1)&&(ks.take 1).all eQ
 else if (9≤op∧op≤21)∨op=24∨op=25 then decide (ks.length=2)&&(ks.take 2).all eQ
 else if op=26∨op=27 then decide (ks.length=2)&&hdB ks&&(ks.take 2).all eQ
 else if op=28∨op=30 then ks.all eQ
 else if op=31 then (decide (2≤ks.length)&&decide (ks.length≤3))&&(ks.take 1).all eQ&&(ks.drop 1).all blQ
 else if op=32 then decide (ks.length=2)&&(ks.take 1).all eQ&&(ks.drop 1).all blQ
 else if op=29 then ks.all stQ
 else decide (ks.length=0)

theorem all_both (p q:Data→Bool):∀ ks:List Data,(ks.all fun x=>p x&&q x)=(ks.all p&&ks.all q)
 | []=>rfl
 | x::ks=>by
  simp only[List.all_cons,all_both p q ks];cases p x <;> cases q x <;> cases ks.all p <;> simp

theorem one_eq (ks:List Data):(decide (ks.length=1)&&(ks.take 1).all eQ)=(justB [eB] (ks.map opOf)&&allsB ks):=by
 match ks with
 | []=>rfl
 | [x]=>simp[justB,eQ,allsB]
 | x::y::r=>simp[justB]
theorem two_eq (ks:List Data):(decide (ks.length=2)&&(ks.take 2).all eQ)=(justB [eB,eB] (ks.map opOf)&&allsB ks):=by
 match ks with
 | []=>rfl
 | [x]=>simp[justB]
 | [x,y] =>
  simp only[justB,eQ,allsB,List.map_cons,List.map_nil,List.length_cons,List.length_nil,List.take_succ_cons,List.take_zero,List.all_cons,List.all_nil];cases eB (opOf x) <;> cases eB (opOf y) <;> cases allB x <;> cases allB y <;> rfl
 | x::y::z::r=>simp[justB]
theorem set_e {op:Int}(h:setB op=true):eB op=true:=by
 simp only[setB,Bool.or_eq_true,decide_eq_true_eq] at h;rcases h with rfl|rfl <;> rfl
theorem set_eq (ks:List Data):(decide (ks.length=2)&&hdB ks&&(ks.take 2).all eQ)=(justB [setB,eB] (ks.map opOf)&&allsB ks):=by
 match ks with
 | []=>rfl
 | [x]=>simp[justB]
 | [x,y] =>
  simp only[justB,eQ,hdB,allsB,List.map_cons,List.map_nil,List.length_cons,List.length_nil,List.take_succ_cons,List.take_zero,List.all_cons,List.all_nil];rcases hx:setB (opOf x) with _|_
  ·simp
  ·rw[set_e hx]
   cases eB (opOf y) <;> cases allB x <;> cases allB y <;> rfl
 | x::y::z::r=>simp[justB]
theorem es_eq (ks:List Data):ks.all eQ=((ks.map opOf).all eB&&allsB ks):=by
 rw[alls_all,List.all_map]
 exact all_both _ _ ks
theorem st_eq (ks:List Data):ks.all stQ=((ks.map opOf).all stB&&allsB ks):=by
 rw[alls_all,List.all_map]
 exact all_both _ _ ks
theorem wh_eq (ks:List Data):(decide (ks.length=2)&&(ks.take 1).all eQ&&(ks.drop 1).all blQ)=(justB [eB,blB] (ks.map opOf)&&allsB ks):=by
 match ks with
 | []=>rfl
 | [x]=>simp[justB]
 | [x,y] =>
  simp only[justB,eQ,blQ,allsB,List.map_cons,List.map_nil,List.length_cons,List.length_nil,List.take_succ_cons,List.take_zero,List.drop_succ_cons,List.drop_zero,List.all_cons,List.all_nil];cases eB (opOf x) <;> cases blB (opOf y) <;> cases allB x <;> cases allB y <;> rfl
 | x::y::z::r=>simp[justB]
theorem if_eq (ks:List Data):((decide (2≤ks.length)&&decide (ks.length≤3))&&(ks.take 1).all eQ&&(ks.drop 1).all blQ)=((justB [eB,blB] (ks.map opOf) || justB [eB,blB,blB] (ks.map opOf))&&allsB ks):=by
 match ks with
 | []=>rfl
 | [x]=>simp[justB]
 | [x,y] =>
  simp only[justB,eQ,blQ,allsB,List.map_cons,List.map_nil,List.length_cons,List.length_nil,List.take_succ_cons,List.take_zero,List.drop_succ_cons,List.drop_zero,List.all_cons,List.all_nil];cases eB (opOf x) <;> cases blB (opOf y) <;> cases allB x <;> cases allB y <;> rfl
 | [x,y,z] =>
  simp only[justB,eQ,blQ,allsB,List.map_cons,List.map_nil,List.length_cons,List.length_nil,List.take_succ_cons,List.take_zero,List.drop_succ_cons,List.drop_zero,List.all_cons,List.all_nil];cases eB (opOf x) <;> cases blB (opOf y) <;> cases blB (opOf z) <;> cases allB x <;> cases allB y <;> cases allB z <;> rfl
 | x::y::z::v::r=>simp[justB]
theorem no_eq (ks:List Data):decide (ks.length=0)=(justB [] (ks.map opOf)&&allsB ks):=by
 match ks with
 | []=>rfl
 | x::r=>simp[justB]

theorem kids_eq {op:Int}(h1:1≤op)(h2:op≤35)(ks:List Data):kidsS op ks=(kindB op (ks.map opOf)&&allsB ks):=by
 unfold kidsS kindB
 by_cases a1:op=1∨op=2∨op=3∨op=4∨op=7∨op=8∨op=33
 ·rw[if_neg (by omega),if_neg (by omega),if_neg (by omega),if_neg (by omega),if_neg (by omega),if_neg (by omega),if_neg (by omega),if_pos a1]
  exact no_eq ks
 rw[if_neg a1]
 by_cases a2:op=5∨op=6∨op=22∨op=23∨op=34∨op=35
 ·rw[if_pos a2,if_pos a2];exact one_eq ks
 rw[if_neg a2,if_neg a2]
 by_cases a3:(9≤op∧op≤21)∨op=24∨op=25
 ·rw[if_pos a3,if_pos a3];exact two_eq ks
 rw[if_neg a3,if_neg a3]
 by_cases a4:op=26∨op=27
 ·rw[if_pos a4,if_pos a4];exact set_eq ks
 rw[if_neg a4,if_neg a4]
 by_cases a5:op=28∨op=30
 ·rw[if_pos a5,if_pos a5];exact es_eq ks
 rw[if_neg a5,if_neg a5]
 by_cases a6:op=29
 ·rw[if_neg (by omega),if_neg (by omega),if_pos a6,if_pos a6];exact st_eq ks
 simp only[if_neg a6]
 by_cases a7:op=31
 ·simp only[if_pos a7];exact if_eq ks
 simp only[if_neg a7];have a8:op=32:=by omega
 simp only[if_pos a8];exact wh_eq ks

def wordS (op n:Int)(s:List UInt8):Bool :=
 if op=1 then decide (s=[])&&(decide (0≤n)&&decide (n≤9000000000000))
 else if op=2 then lineB s else if op=3 then rexB s else if op=4∨op=5∨op=34 then nameB s else if op=28 then callB s else decide (s=[])
def nodeS (op n:Int)(s:List UInt8)(ks:List Data):Bool :=
 kidsS op ks&&(decide (1≤op)&&decide (op≤35))&&!(!decide (n=0)&&!decide (op=1))&&wordS op n s

theorem node_all (op n:Int)(s:List UInt8)(ks:List Data):nodeS op n s ks=allB (nd op n s ks):=by
 rw[all_nd]
 unfold nodeS nodeB
 rw[op_nd,num_nd,txt_nd,kids_nd]
 by_cases h:1≤op∧op≤35
 ·obtain⟨h1,h2⟩:=h
  rw[kids_eq h1 h2]
  generalize kindB op (ks.map opOf)=K;generalize allsB ks=A;simp only[h1,h2,decide_true];unfold wordS wordB
  by_cases o1:op=1
  ·rw[if_pos o1,if_pos o1]
   simp only[o1,decide_true,Bool.not_true,Bool.and_false,Bool.not_false,Bool.and_true]
   by_cases n1:0≤n
   ·have:Dec.okB n=decide (n≤9000000000000):=by unfold Dec.okB;rw[show decide (-9000000000000≤n)=true by simp;omega];simp
    rw[this]
    cases K <;> cases A <;> cases decide (s=[]) <;> cases decide (0≤n) <;> cases decide (n≤9000000000000) <;> rfl
   ·simp[n1]
  ·rw[if_neg o1,if_neg o1]
   simp only[o1,decide_false,Bool.not_false,Bool.and_true,Bool.not_not];generalize (if op=2 then lineB s else if op=3 then rexB s else if op=4∨op=5∨op=34 then nameB s else if op=28 then callB s else decide (s=[]))=W;cases K <;> cases A <;> cases decide (n=0) <;> cases W <;> rfl
 ·have hk:kindB op (ks.map opOf)=false:=by unfold kindB;repeat rw[if_neg (by omega)]
  rw[hk]
  have:(decide (1≤op)&&decide (op≤35))=false:=by simp;omega
  rw[this]
  simp

end Ty
end Go.Proofs.YtllbachngocmnaaGreatDoor
namespace Go.Proofs.YtllbachngocmnaaGreatDoor
open Go.RowKit
namespace Ty
open Nd

theorem sIsE (op:Int)(w:World):Calls Tryz.prog 66 #[.int .i64 op] w fun e w'=>e=.returned (.bool (eB op))∧w'=w:=by
 have c:=sIn1 op 1 28 w;have H:Hid (eB op=(decide (1≤op)&&decide (op≤28))):=rfl;generalize (decide (1≤op)&&decide (op≤28))=B at *
 go_enter Tryz.func66,Tryz.ntmps66
 go_wp2_with (go_at_call 65;refine c.mono ?_;rintro e w2 ⟨rfl,hw⟩;have hw:=hw.symm;subst hw)
 go_ret
 exact⟨by rw[H.out];rfl,rfl⟩

theorem allq_take {p:Data→Bool}{ks:List Data}{k:Nat}{t:Data}(h:ks[k]?=some t):(ks.take (k+1)).all p=((ks.take k).all p&&p t):=by
 rw[List.take_add_one,h,List.all_append]
 simp

set_option maxRecDepth 100000 in
theorem sEs {t:Data}(hk:∀ x∈kidsOf t,Tells 67 allB x)(hn:(kidsOf t).length≤1048577)(m:Nat)(hm:m≤(kidsOf t).length)(w:World)(a b c u:Value)(hS:Sen w)(hA:ArgIs w t [a,b,c,u]):
  Calls Tryz.prog 159 #[.agg #[a,b,c,u],.int .i64 0,.int .i64 m] w fun e w'=>e=.returned (.bool (((kidsOf t).take m).all eQ))∧Below w.heap.size w w':=by
 obtain⟨ao,cap,rfl,rfl,rfl,rfl,hK,-⟩:=arg_open hA
 have hb0:∀ o,Below w.heap.size w (w.alloc o):=fun o=>(Below.refl _ w).alloc (Nat.le_refl _) _;have hv0:∀ o,o=Obj.cells #[.int .i64 (opOf t),.int .i64 (numOf t),.string ⟨(txtOf t).toArray⟩,.slice ao (kidsOf t).length cap] 51→Var (w.alloc o) w.heap.size (.int .i64 (opOf t)) (.int .i64 (numOf t)) (.string ⟨(txtOf t).toArray⟩) (.slice ao (kidsOf t).length cap):=fun o ho=>by rw[ho];exact heap_new _ _
 clear hA;generalize opOf t=op at *;generalize numOf t=n at *;generalize txtOf t=s at *;generalize kidsOf t=ks at *;have bn:(ks.length:Int)≤1048577:=by omega
 have bm:(m:Int)≤ks.length:=by omega
 go_enter Tryz.func159,Tryz.ntmps159
 go_wp2_with fail
 go_loopw [7] (fun i wr=>∃ k:Nat,k≤m∧i=.int .i64 k∧(ks.take k).all eQ=true∧Below w.heap.size w wr∧Var wr w.heap.size (.int .i64 op) (.int .i64 n) (.string ⟨s.toArray⟩) (.slice ao ks.length cap)) (fun i _=>m - (intOf i).toNat)
 case atStart=>exact⟨0,Nat.zero_le _,rfl,rfl,hb0 _,hv0 _ rfl⟩
 case round =>
  obtain⟨k,hkm,rfl,hall,hb,hV⟩:=hrel
  have v3:=hV.cell.2.2.2
  by_cases hkl:k<m
  ·have hkk:k<ks.length:=by omega
   have hki:ks[k]?=some ks[k]:=List.getElem?_eq_getElem hkk
   obtain⟨g,o,x0,x1,x2,x3,rfl,hbl,c0,c1,c2,c3,ht⟩:=args_at (args_frame hb hK) hki
   simp only[Nat.zero_add] at c0 c1 c2 c3;have bk:(k:Int)<m:=by omega
   have bk2:(k:Int)<ks.length:=by omega
   have cE:=sIsE (opOf ks[k]) wr;have call:=hk ks[k] (List.getElem_mem hkk) wr x0 x1 x2 x3 (hS.later hb) ht
   obtain⟨ao',cap',rfl,rfl,rfl,rfl,-,-⟩:=arg_open ht
   have hT:=allq_take (p:=eQ) hki
   rw[hall,Bool.true_and] at hT
   have HT:Hid _:=hT;have HN:Hid (eQ ks[k]=false→(ks.take m).all eQ=false):=fun hf=>by
    rcases hx:(ks.take m).all eQ with _|_
    ·rfl
    ·have:=List.all_eq_true.1 hx ks[k] (List.mem_take_iff_getElem.2 ⟨k,by omega,rfl⟩)
     rw[hf] at this;cases this
   have HQ:Hid (eQ ks[k]=(eB (opOf ks[k])&&allB ks[k])):=rfl;clear hk hK hS ht hki hall hT hb0 hv0;generalize eB (opOf ks[k])=B1 at *;generalize allB ks[k]=B2 at *;generalize opOf ks[k]=op' at *;generalize numOf ks[k]=n' at *;generalize txtOf ks[k]=s' at *;generalize (kidsOf ks[k]).length=L' at *;generalize eQ ks[k]=Q at *;cases B1
   ·replace HQ:Hid ((ks.take m).all eQ=false):=HN.out HQ.out;clear HN
    go_wp2_with (first
     | (go_at_call 66;refine cE.mono ?_;rintro e w2 ⟨rfl,hw⟩;have hw:=hw.symm;subst hw))
    go_ret
    exact⟨by rw[HQ.out];rfl,hb⟩
   ·cases B2
    ·replace HQ:Hid ((ks.take m).all eQ=false):=HN.out HQ.out;clear HN
     go_wp2_with (first
      | (go_at_call 66;refine cE.mono ?_;rintro e w2 ⟨rfl,hw⟩;have hw:=hw.symm;subst hw)
      | (go_at_call 67;refine call.mono ?_;rintro e w3 ⟨rfl,hb3⟩))
     go_ret
     exact⟨by rw[HQ.out];rfl,hb.trans (hb3.mono hb.size)⟩
    ·clear HN
     go_wp2_with (first
      | (go_at_call 66;refine cE.mono ?_;rintro e w2 ⟨rfl,hw⟩;have hw:=hw.symm;subst hw)
      | (go_at_call 67;refine call.mono ?_;rintro e w3 ⟨rfl,hb3⟩))
     go_roundw
     case rel=>exact⟨k+1,hkl,by go_num,by rw[HT.out,HQ.out];rfl,hb.trans (hb3.mono hb.size),hV.kept (hb3.block _ hV.lt)⟩
     case measure=>simp[intOf];omega
  ·obtain rfl:k=m:=by omega
   have H:Hid _:=hall;clear hall;go_wp2_with fail;go_ret
   exact⟨by rw[H.out];rfl,hb⟩

set_option maxRecDepth 100000 in
theorem sBlocks {t:Data}(hk:∀ x∈kidsOf t,Tells 67 allB x)(hn:(kidsOf t).length≤1048577)(h1:1≤(kidsOf t).length)(w:World)(a b c u:Value)(hS:Sen w)(hA:ArgIs w t [a,b,c,u]):
  Calls Tryz.prog 160 #[.agg #[a,b,c,u],.int .i64 1] w fun e w'=>e=.returned (.bool (((kidsOf t).drop 1).all blQ))∧Below w.heap.size w w':=by
 obtain⟨ao,cap,rfl,rfl,rfl,rfl,hK,-⟩:=arg_open hA
 have hb0:∀ o,Below w.heap.size w (w.alloc o):=fun o=>(Below.refl _ w).alloc (Nat.le_refl _) _;have hv0:∀ o,o=Obj.cells #[.int .i64 (opOf t),.int .i64 (numOf t),.string ⟨(txtOf t).toArray⟩,.slice ao (kidsOf t).length cap] 51→Var (w.alloc o) w.heap.size (.int .i64 (opOf t)) (.int .i64 (numOf t)) (.string ⟨(txtOf t).toArray⟩) (.slice ao (kidsOf t).length cap):=fun o ho=>by rw[ho];exact heap_new _ _
 clear hA;generalize opOf t=op at *;generalize numOf t=n at *;generalize txtOf t=s at *;generalize kidsOf t=ks at *;have bn:(ks.length:Int)≤1048577:=by omega
 go_enter Tryz.func160,Tryz.ntmps160
 go_wp2_with fail
 go_loopw [5] (fun i wr=>∃ k:Nat,1≤k∧k≤ks.length∧i=.int .i64 k∧(ks.drop 1).all blQ=(ks.drop k).all blQ∧Below w.heap.size w wr∧Var wr w.heap.size (.int .i64 op) (.int .i64 n) (.string ⟨s.toArray⟩) (.slice ao ks.length cap)) (fun i _=>ks.length - (intOf i).toNat)
 case atStart=>exact⟨1,Nat.le_refl _,h1,rfl,rfl,hb0 _,hv0 _ rfl⟩
 case round =>
  obtain⟨k,hk1,hkm,rfl,hall,hb,hV⟩:=hrel
  have v3:=hV.cell.2.2.2
  by_cases hkk:k<ks.length
  ·have hki:ks[k]?=some ks[k]:=List.getElem?_eq_getElem hkk
   obtain⟨g,o,x0,x1,x2,x3,rfl,hbl,c0,c1,c2,c3,ht⟩:=args_at (args_frame hb hK) hki
   simp only[Nat.zero_add] at c0 c1 c2 c3;have bk2:(k:Int)<ks.length:=by omega
   have call:=hk ks[k] (List.getElem_mem hkk) wr x0 x1 x2 x3 (hS.later hb) ht
   obtain⟨ao',cap',rfl,rfl,rfl,rfl,-,-⟩:=arg_open ht
   rw[List.drop_eq_getElem_cons hkk,List.all_cons] at hall
   have HA:Hid _:=hall;have HQ:Hid (blQ ks[k]=(decide (opOf ks[k]=29)&&allB ks[k])):=rfl;have eb:(opOf ks[k]==29)=decide (opOf ks[k]=29):=by rw[Bool.eq_iff_iff];simp
   clear hk hK hS ht hki hall hb0 hv0;generalize hd:decide (opOf ks[k]=29)=B1 at *;generalize allB ks[k]=B2 at *;generalize opOf ks[k]=op' at *;generalize numOf ks[k]=n' at *;generalize txtOf ks[k]=s' at *;generalize (kidsOf ks[k]).length=L' at *;generalize blQ ks[k]=Q at *;cases B1
   ·have hne:¬ op'=29:=of_decide_eq_false hd;have HR:Hid ((ks.drop 1).all blQ=false):=by show _=_;rw[HA.out,HQ.out];rfl
    clear HA hd;go_wp2_with fail;go_ret
    exact⟨by rw[HR.out];rfl,hb⟩
   ·have he:op'=29:=of_decide_eq_true hd;subst he;cases B2
    ·have HR:Hid ((ks.drop 1).all blQ=false):=by show _=_;rw[HA.out,HQ.out];rfl
     clear HA hd
     go_wp2_with (go_at_call 67;refine call.mono ?_;rintro e w3 ⟨rfl,hb3⟩)
     go_ret
     exact⟨by rw[HR.out];rfl,hb.trans (hb3.mono hb.size)⟩
    ·have HR:Hid ((ks.drop 1).all blQ=(ks.drop (k+1)).all blQ):=by show _=_;rw[HA.out,HQ.out];rfl
     clear HA hd
     go_wp2_with (go_at_call 67;refine call.mono ?_;rintro e w3 ⟨rfl,hb3⟩)
     go_roundw
     case rel=>exact⟨k+1,by omega,hkk,by go_num,HR.out,hb.trans (hb3.mono hb.size),hV.kept (hb3.block _ hV.lt)⟩
     case measure=>simp[intOf];omega
  ·obtain rfl:k=ks.length:=by omega
   rw[List.drop_length] at hall
   have H:Hid _:=hall;clear hall;go_wp2_with fail;go_ret
   exact⟨by rw[H.out];rfl,hb⟩

end Ty
namespace Nd

def EqOk (t:Data):Prop:=∀ (w:World) (S1 S2:Nat→Prop) (a b c u a' b' c' u':Value),NodeIs w t S1 [a,b,c,u]→NodeIs w t S2 [a',b',c',u']→(∀ k,S1 k→k<w.heap.size)→(∀ k,S2 k→k<w.heap.size) →
 Calls Tryz.prog 63 #[.agg #[a,b,c,u],.agg #[a',b',c',u']] w fun e w'=>e=.returned (.bool true)∧Below w.heap.size w w'

theorem lEqNodeS {ks:List Data}(hk:∀ t∈ks,EqOk t)(hn:ks.length≤1048576)(w:World)(S1 S2:Nat→Prop)(v v':Value)(xs ys:List Value)(ho:w.ownsRow 0 51 4 v ks.length xs)(ho':w.ownsRow 0 51 4 v' ks.length ys)
  (hx:NodesIs w ks S1 xs) (hy:NodesIs w ks S2 ys) (hS1:∀ k,S1 k→k<w.heap.size) (hS2:∀ k,S2 k→k<w.heap.size):
  Calls Tryz.prog 114 #[v,v'] w fun e w'=>e=.returned (.bool true)∧Below w.heap.size w w':=by
 obtain⟨ao,cap,rfl⟩:=owns_slice ho
 obtain⟨ao',cap',rfl⟩:=owns_slice ho'
 have hnI:(ks.length:Int)≤1048576:=by omega
 clear hn
 go_enter Tryz.func114,Tryz.ntmps114
 go_wp2_with fail
 go_loopw [5] (fun i wr=>∃ k:Nat,k≤ks.length∧i=.int .i64 k∧Below w.heap.size w wr) (fun i _=>ks.length - (intOf i).toNat)
 case atStart=>exact⟨0,Nat.zero_le _,rfl,Below.refl _ _⟩
 case round =>
  obtain⟨k,hkn,rfl,hb⟩:=hrel
  by_cases hkl:k<ks.length
  ·have hki:ks[k]?=some ks[k]:=List.getElem?_eq_getElem hkl
   obtain⟨T1,a,b,c,u,x0,x1,x2,x3,hr1,hs1⟩:=nodes_at hx hki
   obtain⟨T2,a',b',c',u',y0,y1,y2,y3,hr2,hs2⟩:=nodes_at hy hki
   obtain⟨g,rfl,hg,hc⟩:=row_cells ho hkl
   obtain⟨g',rfl,hg',hc'⟩:=row_cells ho' hkl
   have cc:∀ j x,xs[j]?=some x→wr.cell? ⟨g,j,none⟩=some x:=fun j x hx=>(hb.cell (p:=⟨g,j,none⟩) hg).trans (hc j x hx);have cc':∀ j x,ys[j]?=some x→wr.cell? ⟨g',j,none⟩=some x:=fun j x hx=>(hb.cell (p:=⟨g',j,none⟩) hg').trans (hc' j x hx);have p0:=cc _ _ x0;have p1:=cc _ _ x1;have p2:=cc _ _ x2;have p3:=cc _ _ x3;have q0:=cc' _ _ y0;have q1:=cc' _ _ y1;have q2:=cc' _ _ y2;have q3:=cc' _ _ y3;have call:=hk ks[k] (List.getElem_mem hkl) wr.drew T1 T2 a b c u a' b' c' u' (node_frame (w':=wr.drew) _ _ _ (fun j hj=>hb.block j (hS1 j (hs1 j hj))) hr1) (node_frame (w':=wr.drew) _ _ _ (fun j hj=>hb.block j (hS2 j (hs2 j hj))) hr2) (fun j hj=>Nat.lt_of_lt_of_le (hS1 j (hs1 j hj)) hb.size) (fun j hj=>Nat.lt_of_lt_of_le (hS2 j (hs2 j hj)) hb.size);clear x0 x1 x2 x3 y0 y1 y2 y3 hc hc' cc cc' hr1 hr2 hs1 hs2 hx hy ho ho' hki hk;have bk:(k:Int)<ks.length:=by omega
   go_wp2_with fail
   go_region_with (first|(go_at_call 63;refine call.mono ?_;rintro e w2 ⟨rfl,hb2⟩))
   all_goals go_wp2_with fail
   all_goals go_roundw
   all_goals try (simp only[intOf];omega)
   all_goals exact⟨k+1,by omega,by go_num,hb.trans (Below.mono (w:=wr) (B:=wr.heap.size) ⟨hb2.os,hb2.tape,hb2.output,hb2.size,hb2.block⟩ hb.size)⟩
  ·obtain rfl:k=ks.length:=by omega
   go_wp2_with fail;go_ret
   exact⟨rfl,hb⟩

theorem lEqNode (t:Data):cnts (kidsOf t)≤1048576→EqOk t:=by
 induction t using tree_ind with
 | h1 t ht =>
  intro _ w S1 S2 a b c u a' b' c' u' h
  obtain⟨op,n,s,ks,rfl⟩:=node_node h
  exact absurd rfl (ht _ _)
 | h ks lab ih =>
  intro hc w S1 S2 a b c u a' b' c' u' h h' hS1 hS2
  obtain⟨op,n,s,ks',e⟩:=node_node h
  have e2:=congrArg kidsOf e;simp only[kidsOf,nd] at e2;subst e2
  rw[e] at h h'
  have hc:cnts ks≤1048576:=hc
  rw[node_nd] at h h'
  obtain⟨v,xs,he,ho,hg,hx⟩:=h
  obtain⟨v',ys,he',ho',hg',hy⟩:=h'
  simp at he he'
  obtain⟨rfl,rfl,rfl,rfl⟩:=he
  obtain⟨rfl,rfl,rfl,rfl⟩:=he'
  have hlen:=cnts_len ks;have hkids:∀ t∈ks,EqOk t:=fun t ht=>ih t ht (by have:=cnts_mem ht;have:=cnt_kids t;omega)
  obtain⟨o1,ho1⟩:∃ o1,o1=Obj.cells #[.int .i64 op,.int .i64 n,.string ⟨s.toArray⟩,u] 51:=⟨_,rfl⟩
  obtain⟨o2,ho2⟩:∃ o2,o2=Obj.cells #[.int .i64 op,.int .i64 n,.string ⟨s.toArray⟩,u'] 51:=⟨_,rfl⟩
  have hb:Below w.heap.size w ((w.alloc o1).alloc o2):=((Below.refl _ w).alloc (Nat.le_refl _) _).alloc (by simp) _;have call:=lEqNodeS hkids (by omega) ((w.alloc o1).alloc o2) _ _ u u' xs ys (owns_same ho fun g h=>hb.block g (ho.lt g h).2) (owns_same ho' fun g h=>hb.block g (ho'.lt g h).2) (nodes_frame (fun j hj=>hb.block j (hS1 j hj.1)) hx) (nodes_frame (fun j hj=>hb.block j (hS2 j hj.1)) hy) (fun j hj=>Nat.lt_of_lt_of_le (hS1 j hj.1) hb.size) (fun j hj=>Nat.lt_of_lt_of_le (hS2 j hj.1) hb.size)
  obtain⟨ao,cap,rfl⟩:=owns_slice ho
  obtain⟨ao',cap',rfl⟩:=owns_slice ho'
  subst ho1 ho2;clear ho ho' hx hy hkids ih e hlen hc
  go_enter Tryz.func63,Tryz.ntmps63
  go_wp2_with (go_at_call 114;refine call.mono ?_;rintro e w2 ⟨rfl,hb2⟩)
  go_ret
  exact⟨rfl,hb.trans (hb2.mono hb.size)⟩

end Nd
end Go.Proofs.YtllbachngocmnaaGreatDoor
