/-
  errors.As at what is amiss: it is told.
-/
import Derived.Test.YtllbachngocmnaaGreatDoorP23
import Derived.Test.YtllbachngocmnaaGreatDoorP20
import Derived.Sort.EncStr
namespace Go.Proofs.YtllbachngocmnaaGreatDoor
open Go.RowKit Go.Extern.Stop Go.Stop Go.Extern
namespace Ck

theorem rls (v x:Value):ReflectliteValue.set #[v,x]=(do
  let (some (dst,a,fl),some (src,b,_)):=(← ReflectliteValue.parts v,← ReflectliteValue.parts x)
   | unsupported (.noEntry "extern/(internal/reflectlite.Value).Set.zeroValue")
  if fl / ReflectliteValue.flagAddr % 2==0 then unsupported (.noEntry "extern/(internal/reflectlite.Value).Set.unaddressable")
  let val ← loadVar src b
  if ← Rtype.directlyAssignable dst src then storeVar dst a val
  else if ← Rtype.implements dst src then
   if (← Rtype.kind src)==20 then
    match val with
    | .nilIface=>unsupported (.noEntry "extern/reflectlite: a nil value of one interface type handed on as a value of another")
    | _=>storeVar dst a val
   else storeVar dst a (.iface src val)
  else panicString ("reflectlite.Set: value of type " ++ (← Rtype.spelt src) ++ " is not assignable to type " ++ (← Rtype.spelt dst))
  pure (.tuple #[])):=rfl
theorem Tryz.setS (t b:Nat)(x y:Int)(o0 o1:Value)(W:World)(hx:W.cell? ⟨b,0,none⟩=some (.int .i64 x))(hy:W.cell? ⟨b,1,none⟩=some (.int .i64 y))(h0:W.cell? ⟨t,0,none⟩=some o0)(h1:W.cell? ⟨t,1,none⟩=some o1)(hf:∀ i,W.frozen? ⟨t,i,none⟩=false):
  (ReflectliteValue.set #[.agg #[.pointer (some ⟨6,82,none⟩),.pointer (some ⟨t,0,none⟩),.int .u64 409],.agg #[.pointer (some ⟨6,82,none⟩),.pointer (some ⟨b,0,none⟩),.int .u64 153]]).run Tryz.prog W
   = .ok (.tuple #[]) ((W.setCell ⟨t,0,none⟩ (.int .i64 x)).setCell ⟨t,1,none⟩ (.int .i64 y)):=by
 rw[rls]
 simp only[Sem.run_bind,Tryz.partsSa,Tryz.partsS,Result.andThen];simp[ReflectliteValue.flagAddr,loadVar,isAgg,underlying,Tryz.underlying82,Result.andThen,Tryz.directS,storeVar,Value.cells,storeCells,Addr.add];have hl:(loadCells ⟨b,0,none⟩ 2).run Tryz.prog W=.ok #[.int .i64 x,.int .i64 y] W:=by simp[go_sem,hx,hy]
 rw[hl]
 have h1':(W.setCell ⟨t,0,none⟩ (.int .i64 x)).cell? ⟨t,1,none⟩=some o1:=by rw[World.cell?_setCell_other _ _ _ _ (by simp)];exact h1
 have hs:(storeCells ⟨t,0,none⟩ [.int .i64 x,.int .i64 y]).run Tryz.prog W=.ok () ((W.setCell ⟨t,0,none⟩ (.int .i64 x)).setCell ⟨t,1,none⟩ (.int .i64 y)):=by
  simp[go_sem,storeCells,Addr.add,h0,h1',hf]
 simp[hs]

theorem Tryz.methodKind (h:Value)(w:World):(Go.method 418 175 (.agg #[h]) "Kind").run Tryz.prog w=.ok (256,h) w:=by kernel_rfl
theorem Tryz.methodElem (h:Value)(w:World):(Go.method 418 175 (.agg #[h]) "Elem").run Tryz.prog w=.ok (266,.agg #[h]) w:=by kernel_rfl
theorem Tryz.methodImplements (h:Value)(w:World):(Go.method 418 175 (.agg #[h]) "Implements").run Tryz.prog w=.ok (267,.agg #[h]) w:=by kernel_rfl
theorem Tryz.methodAssignableTo (h:Value)(w:World):(Go.method 418 175 (.agg #[h]) "AssignableTo").run Tryz.prog w=.ok (264,.agg #[h]) w:=by kernel_rfl

set_option maxHeartbeats 4000000 in
set_option maxRecDepth 100000 in
theorem as_hit (x y:Int)(t:Nat)(o0 o1:Value)(w:World)(hg:w.cell? ⟨0,0,none⟩=some (.iface 175 (.agg #[.pointer (some ⟨6,85,none⟩)])))(ht:w.heap[t]?=some (.cells #[o0,o1] 82 (0,0))):
  Calls Tryz.prog 55 #[.iface 82 (.agg #[.int .i64 x,.int .i64 y]),.iface 86 (.pointer (some ⟨t,0,none⟩))] w fun ev w'=>ev=.returned (.bool true)∧w'.cell? ⟨t,0,none⟩=some (.int .i64 x)∧w'.os=w.os∧w'.tape=w.tape∧w'.output=w.output∧w.heap.size≤w'.heap.size∧∀ k,k<w.heap.size→k≠t→w'.heap[k]?=w.heap[k]?:=by
 have h46:=@run_callFunc_extern Tryz.prog 93 _ (fun args=>ReflectliteValue.unpack (args.getD 0 (.tuple #[]))) Tryz.func93 (by kernel_rfl) (by kernel_rfl) (by kernel_rfl) (by kernel_rfl);have h47:=@run_callFunc_extern Tryz.prog 94 _ (ReflectliteValue.methodAny (ReflectliteValue.valueError "reflectlite.Value.Type" 0) (fun t _ _ _=>ReflectliteType.toType t)) Tryz.func94 (by kernel_rfl) (by kernel_rfl) (by kernel_rfl) (by kernel_rfl);have h48:=@run_callFunc_extern Tryz.prog 95 _ (ReflectliteValue.method (ReflectliteValue.valueError "reflectlite.Value.IsNil" 0) ReflectliteValue.isNil) Tryz.func95 (by kernel_rfl) (by kernel_rfl) (by kernel_rfl) (by kernel_rfl);have hkn:=@run_callFunc_extern Tryz.prog 256 _ (ReflectliteType.abiMethod fun t=>do pure (.int .u8 (← Rtype.kind t))) Tryz.func256 (by kernel_rfl) (by kernel_rfl) (by kernel_rfl) (by kernel_rfl);have hel:=@run_callFunc_extern Tryz.prog 266 _ (ReflectliteType.method ReflectliteType.elem) Tryz.func266 (by kernel_rfl) (by kernel_rfl) (by kernel_rfl) (by kernel_rfl);have him:=@run_callFunc_extern Tryz.prog 267 _ (ReflectliteType.relation "Implements" ReflectliteType.implements_) Tryz.func267 (by kernel_rfl) (by kernel_rfl) (by kernel_rfl) (by kernel_rfl);have hto:=@run_callFunc_extern Tryz.prog 131 _ ReflectliteType.typeOf Tryz.func131 (by kernel_rfl) (by kernel_rfl) (by kernel_rfl) (by kernel_rfl);have has:=@run_callFunc_extern Tryz.prog 264 _ (ReflectliteType.relation "AssignableTo" ReflectliteType.assignableTo) Tryz.func264 (by kernel_rfl) (by kernel_rfl) (by kernel_rfl) (by kernel_rfl);have hve:=@run_callFunc_extern Tryz.prog 132 _ (ReflectliteValue.method (ReflectliteValue.valueError "reflectlite.Value.Elem" 0) ReflectliteValue.elem) Tryz.func132 (by kernel_rfl) (by kernel_rfl) (by kernel_rfl) (by kernel_rfl);have hst:=@run_callFunc_extern Tryz.prog 133 _ ReflectliteValue.set Tryz.func133 (by kernel_rfl) (by kernel_rfl) (by kernel_rfl) (by kernel_rfl);have z1:=Tryz.typeOfS;have z2:=Tryz.methodAssignableTo;have z3:=Tryz.assignableS;have z4:=Tryz.valueOfS;have z5:=Tryz.valueOfP;have z6:=Tryz.typeP;have z7:=Tryz.methodKind;have z8:=Tryz.methodElem;have z9:=Tryz.methodImplements;have y1:=Tryz.kindP;have y2:=Tryz.kindS;have y3:=Tryz.elemT;have y4:=Tryz.implementsS
 obtain⟨a1,ha1⟩:∃ a1,a1=Obj.cells #[.pointer (some ⟨t,0,none⟩)] 86:=⟨_,rfl⟩
 obtain⟨a2,ha2⟩:∃ a2,a2=Obj.cells #[.pointer (some ⟨6,86,none⟩),.pointer (some ⟨w.heap.size,0,none⟩),.int .u64 150] 123:=⟨_,rfl⟩
 obtain⟨a4,ha4⟩:∃ a4,a4=Obj.cells #[.int .i64 x,.int .i64 y] 82:=⟨_,rfl⟩
 have hb:Below w.heap.size w ((((w.alloc a1).alloc a2).alloc a2).alloc a4):=((((Below.refl _ w).alloc (Nat.le_refl _) _).alloc (by simp) _).alloc (by simp;omega) _).alloc (by simp;omega) _;have hb2:Below w.heap.size w ((w.alloc a1).alloc a2):=((Below.refl _ w).alloc (Nat.le_refl _) _).alloc (by simp) _;have p1:∀ w':World,w'.heap[w.heap.size]?=some a1→w'.cell? ⟨w.heap.size,0,none⟩=some (.pointer (some ⟨t,0,none⟩)):=fun w' h=>by unfold World.cell?;simp only[h];rw[ha1];rfl
 have n1:(w.alloc a1).heap[w.heap.size]?=some a1:=Nd.heap_new w a1;have n2:((w.alloc a1).alloc a2).heap[w.heap.size]?=some a1:=(Below.heap_alloc _ _ _ (by simp)).trans n1;have n3:(((w.alloc a1).alloc a2).alloc a2).heap[w.heap.size]?=some a1:=(Below.heap_alloc _ _ _ (by simp;omega)).trans n2;have x1:=Tryz.isNilP ⟨w.heap.size,0,none⟩ ⟨t,0,none⟩ _ (p1 _ n2);have x2:=Tryz.elemV ⟨w.heap.size,0,none⟩ ⟨t,0,none⟩ _ (p1 _ n3);have hgl:=World.block_lt_of_cell? _ _ hg;have g2:=(hb2.cell (p:=⟨0,0,none⟩) hgl).trans hg;have htl:=Nd.heap_lt ht;have t4:((((w.alloc a1).alloc a2).alloc a2).alloc a4).heap[t]?=some (.cells #[o0,o1] 82 (0,0)):=(hb.block t htl).trans ht;have n4:((((w.alloc a1).alloc a2).alloc a2).alloc a4).heap[w.heap.size+1+1+1]?=some a4:=by have:=Nd.heap_new (((w.alloc a1).alloc a2).alloc a2) a4;simpa only [World.size_alloc] using this
 have x3:=Tryz.setS t (w.heap.size+1+1+1) x y o0 o1 ((((w.alloc a1).alloc a2).alloc a2).alloc a4) (by unfold World.cell?;simp only[n4];rw[ha4];rfl) (by unfold World.cell?;simp only[n4];rw[ha4];rfl) (by simp[World.cell?,t4]) (by simp[World.cell?,t4]) (fun i=>by simp[World.frozen?,t4]);have hfin:∀ w':World,w'=(((((w.alloc a1).alloc a2).alloc a2).alloc a4).setCell ⟨t,0,none⟩ (.int .i64 x)).setCell ⟨t,1,none⟩ (.int .i64 y)→w'.cell? ⟨t,0,none⟩=some (.int .i64 x)∧w'.os=w.os∧w'.tape=w.tape∧w'.output=w.output∧w.heap.size≤w'.heap.size∧∀ k,k<w.heap.size→k≠t→w'.heap[k]?=w.heap[k]?:=by
  rintro w' rfl
  refine⟨?_,hb.os,hb.tape,hb.output,by have:=hb.size;simp at this ⊢;omega,fun k hk hne=>?_⟩
  ·rw[World.cell?_setCell_other _ _ _ _ (by simp)]
   exact World.cell?_setCell_same' _ _ _ (by simp[World.cell?,t4])
  ·rw[Below.heap_setCell _ _ _ _ hne,Below.heap_setCell _ _ _ _ hne,hb.block k hk]
 subst ha1 ha2 ha4;clear hb hb2 p1 n1 n2 n3 n4 t4 hg ht
 go_enter Tryz.func55,Tryz.ntmps55
 go_wp2
 refine wp_loop_rounds 1 ?_
 rw[rounds_succ]
 go_wp2
 go_ret
 exact⟨rfl,hfin _ rfl⟩
end Ck
end Go.Proofs.YtllbachngocmnaaGreatDoor
namespace Go.Proofs.YtllbachngocmnaaGreatDoor
open Go.RowKit
namespace Mk
open Nd
def mks (k n:Nat):List (List UInt8):=(List.range n).map fun j=>(markT (k+j)).data.toList
theorem mks_get {k n j:Nat}(h:j<n):((mks k n).map encStr)[j]?=some (.string (markT (k+j))):=by
 unfold mks
 rw[List.getElem?_map,List.getElem?_map,List.getElem?_range h]
 rfl
theorem mks_set {k n j:Nat}{xs:List Value}(hj:j<n)(hx:xs.length=n):((((mks k n).map encStr).take j)++xs.drop j).set j (.string (markT (k+j)))=(((mks k n).map encStr).take (j+1))++xs.drop (j+1):=by
 have hl:(((mks k n).map encStr).take j).length=j:=by simp[mks];omega
 have hd:xs.drop j=xs[j]::xs.drop (j+1):=List.drop_eq_getElem_cons (by omega)
 rw[hd,List.take_add_one,mks_get hj]
 rw[List.set_append_right _ _ (by omega),hl,Nat.sub_self,List.set_cons_zero,Option.toList_some,List.append_assoc,List.singleton_append]

set_option maxRecDepth 100000 in
theorem lMarkTxt {w:World}{v:Value}{B n k:Nat}{xs:List Value}(h:w.ownsRow B 9 1 v n xs)(hs:∀ x∈xs,∃ s,x=.string s)(hn:n≤3000000)(h1:1≤k)(hk:k≤4000000):
  Calls Tryz.prog 30 #[v,.int .i64 k] w fun e w'=>e=.returned (.int .i64 (k+n:Nat))∧w'.ownsRow B 9 1 v n ((mks k n).map encStr)∧Turned (fun _=>False) v w w':=by
 have bn:(n:Int)≤3000000:=by omega
 have hxl:xs.length=n:=by simpa using h.1
 obtain⟨ao,cap,rfl⟩:=owns_slice h
 go_enter Tryz.func30,Tryz.ntmps30
 go_wp2_with fail
 go_loopw [1,5] (fun kv i wr=>∃ j:Nat,j≤n∧i=.int .i64 j∧kv=.int .i64 (k+j:Nat)∧wr.ownsRow B 9 1 (.slice ao n cap) n ((((mks k n).map encStr).take j)++xs.drop j)∧Turned (fun _=>False) (.slice ao n cap) w wr) (fun _ i _=>n - (intOf i).toNat)
 case atStart=>exact⟨0,Nat.zero_le _,rfl,rfl,by simpa using h,Turned.refl _ _ _⟩
 case round =>
  clear h
  obtain⟨j,hj,rfl,rfl,ho,hT⟩:=hrel
  by_cases hjl:j<n
  ·obtain⟨g,rfl,hg,hc⟩:=row_cells ho hjl
   have hxj:(((mks k n).map encStr).take j++xs.drop j)[j]?=some xs[j]:=by
    rw[List.getElem?_append_right (by simp;omega)]
    have hl:(((mks k n).map encStr).take j).length=j:=by simp[mks];omega
    rw[hl,Nat.sub_self,List.getElem?_drop,Nat.add_zero,List.getElem?_eq_getElem]
   have hcell:=hc j _ hxj
   obtain⟨s,hsx⟩:=hs xs[j] (List.getElem_mem _)
   rw[hsx] at hcell
   obtain⟨cs,hrow⟩:=row_block ho
   have hfz:=frozen_of_row hrow j;have mt:∀ w0:World,Calls Tryz.prog 28 #[.int .i64 (k+j:Nat)] w0 fun e w'=>e=.returned (.string (markT (k+j)))∧Below w0.heap.size w0 w':=fun w0=>lMarkText (k+j) (by omega) (by omega) w0;have hset:=mks_set (k:=k) (xs:=xs) hjl hxl;have bj:(j:Int)<n:=by omega
   have kb:((k+j:Nat):Int)≤9000000:=by omega
   have HN:Hid (k+j+1=k+(j+1)):=Nat.add_assoc _ _ _;generalize hkj:k+j=kj at *;clear hc hsx hxj
   go_wp2_with (go_at_call 28;refine (mt _).mono ?_;rintro e w3 ⟨rfl,hb3⟩;have e1:=(hb3.cell (p:=⟨g,j,none⟩) hg).trans hcell;have e2:=(hb3.frozen (p:=⟨g,j,none⟩) hg).trans hfz)
   go_roundw
   case rel =>
    refine⟨j+1,hjl,by go_num,?_,?_,?_⟩
    ·rw[← HN.out];go_num
    ·have h2:=owns_set (owns_same (w':=w3) ho fun b hb=>by
      simp only[Value.ownBlock,Option.some.injEq] at hb;subst hb;exact hb3.block _ hg) j (.string (markT kj))
     rw[hset] at h2
     exact h2
    ·refine⟨hb3.os.trans hT.os,hb3.tape.trans hT.tape,hb3.output.trans hT.output,?_,fun b hb hn hne=>?_⟩
     ·have:=hT.size;have:=hb3.size;simp;omega
     ·have hbg:b≠g:=fun e=>hne (by rw[e];rfl)
      rw[Below.heap_setCell _ _ _ _ hbg,hb3.block b (Nat.lt_of_lt_of_le hb hT.size)]
      exact hT.block b hb hn hne
   case measure=>simp[intOf];omega
  ·obtain rfl:j=n:=by omega
   have hlm:(mks k j).length=j:=by simp[mks]
   rw[List.take_of_length_le (by simp[hlm]),List.drop_of_length_le (by omega),List.append_nil] at ho
   have HO:Hid _:=ho;clear ho;go_wp2_with fail;go_ret
   exact⟨rfl,HO.out,hT⟩

set_option maxRecDepth 100000 in
theorem lHeldTxt {w:World}{v:Value}{B n k:Nat}(h:w.ownsRow B 9 1 v n ((mks k n).map encStr))(hn:n≤3000000)(h1:1≤k)(hk:k≤4000000):
  Calls Tryz.prog 32 #[v,.int .i64 k] w fun e w'=>e=.returned (.int .i64 (k+n:Nat))∧Below w.heap.size w w':=by
 have bn:(n:Int)≤3000000:=by omega
 obtain⟨ao,cap,rfl⟩:=owns_slice h
 go_enter Tryz.func32,Tryz.ntmps32
 go_wp2_with fail
 go_loopw [1,5] (fun kv i wr=>∃ j:Nat,j≤n∧i=.int .i64 j∧kv=.int .i64 (k+j:Nat)∧Below w.heap.size w wr) (fun _ i _=>n - (intOf i).toNat)
 case atStart=>exact⟨0,Nat.zero_le _,rfl,rfl,Below.refl _ _⟩
 case round =>
  obtain⟨j,hj,rfl,rfl,hb⟩:=hrel
  by_cases hjl:j<n
  ·obtain⟨g,rfl,hg,hc⟩:=row_cells h hjl
   have hcell:=(hb.cell (p:=⟨g,j,none⟩) hg).trans (hc j _ (mks_get hjl));have hgw:g<wr.heap.size:=Nat.lt_of_lt_of_le hg hb.size;have mt:∀ w0:World,Calls Tryz.prog 28 #[.int .i64 (k+j:Nat)] w0 fun e w'=>e=.returned (.string (markT (k+j)))∧Below w0.heap.size w0 w':=fun w0=>lMarkText (k+j) (by omega) (by omega) w0;have bj:(j:Int)<n:=by omega
   have kb:((k+j:Nat):Int)≤9000000:=by omega
   have HN:Hid (k+j+1=k+(j+1)):=Nat.add_assoc _ _ _;generalize hkj:k+j=kj at *;clear hc h;go_wp2_with fail
   go_region_with (first|(go_at_call 28;refine (mt _).mono ?_;rintro e w3 ⟨rfl,hb3⟩;have e1:=(hb3.cell (p:=⟨g,j,none⟩) hgw).trans hcell))
   all_goals go_wp2_with fail
   all_goals go_roundw
   all_goals first
    | (simp[intOf];omega)
    | exact⟨j+1,hjl,by go_num,by rw[← HN.out];go_num,hb.drew.trans (hb3.mono hb.size)⟩
  ·obtain rfl:j=n:=by omega
   go_wp2_with fail;go_ret
   exact⟨rfl,hb⟩

end Mk
namespace Cm
open St (Vl encV encV_len fm_len fm_get)
open Nd Mk

theorem fm_set {vs:List Vl}{k j:Nat}{v v':Vl}{x:Value}(hv:vs[k]?=some v)(hj:j<3)(hx:encV v'=(encV v).set j x):(vs.flatMap encV).set (k*3+j) x=(vs.set k v').flatMap encV:=by
 have hk:k<vs.length:=(List.getElem?_eq_some_iff.1 hv).1;apply List.ext_getElem?;intro p
 rw[List.getElem?_set,fm_get (by omega) encV_len,fm_get (by omega) encV_len,fm_len encV_len,List.getElem?_set]
 by_cases hp:k=p / 3
 ·subst hp
  rw[if_pos rfl,if_pos hk,Option.bind_some,hv,Option.bind_some,hx,List.getElem?_set,encV_len]
  by_cases hq:j=p % 3
  ·rw[if_pos hq,if_pos hj,if_pos (by omega),if_pos (by omega)]
  ·rw[if_neg hq,if_neg (by omega)]
 ·rw[if_neg hp,if_neg (by omega)]
def OR (B g n cap:Nat)(w:World)(L:List Vl):Prop:=w.ownsRow B 57 3 (.slice (some ⟨g,0,none⟩) n cap) n (L.flatMap encV)
theorem OR.len {B g n cap:Nat}{w:World}{L:List Vl}(h:OR B g n cap w L):L.length=n:=by
 have h1:=h.1
 rw[fm_len encV_len] at h1
 omega
theorem OR.set1 {B g n cap:Nat}{w:World}{L:List Vl}(h:OR B g n cap w L){k j:Nat}{v v':Vl}{x:Value}(hv:L[k]?=some v)(hj:j<3)(hx:encV v'=(encV v).set j x):OR B g n cap (w.setCell ⟨g,k*3+j,none⟩ x) (L.set k v'):=by
 have h1:=(World.ownsRow.stored h (k*3+j) x).1
 rw[fm_set hv hj hx] at h1
 exact h1
theorem OR.cell {B g n cap:Nat}{w:World}{L:List Vl}(h:OR B g n cap w L){k j:Nat}{v:Vl}{x:Value}(hv:L[k]?=some v)(hx:(encV v)[j]?=some x):w.cell? ⟨g,k*3+j,none⟩=some x:=by
 have hk:k<L.length:=(List.getElem?_eq_some_iff.1 hv).1;have hl:=h.len;have hj:j<3:=(List.getElem?_eq_some_iff.1 hx).1
 obtain⟨g',e,hg,hc⟩:=row_cells h (show k<n by omega)
 simp at e;subst e;refine hc _ _ ?_
 rw[fm_get (by omega) encV_len,show (k*3+j) / 3=k by omega,show (k*3+j) % 3=j by omega,hv]
 exact hx
theorem OR.lt {B g n cap:Nat}{w:World}{L:List Vl}(h:OR B g n cap w L):g<w.heap.size:=(World.ownsRow.lt h g rfl).2
theorem OR.kept {B g n cap:Nat}{w w':World}{L:List Vl}(h:OR B g n cap w L)(hb:w'.heap[g]?=w.heap[g]?):OR B g n cap w' L:=owns_same h fun g' e=>by simp[Value.ownBlock] at e;subst e;exact hb
theorem OR.frozen {B g n cap:Nat}{w:World}{L:List Vl}(h:OR B g n cap w L)(j:Nat):w.frozen? ⟨g,j,none⟩=false:=World.ownsRow.frozenAt h j

def mkV (k j:Nat):Vl:=(((k+3*j:Nat):Int),((k+3*j+1:Nat):Int),markT (k+3*j+2))
def mkVs (k n:Nat):List Vl:=(List.range n).map (mkV k)
theorem mkVs_len (k n:Nat):(mkVs k n).length=n:=by simp[mkVs]
theorem mkVs_get {k n j:Nat}(h:j<n):(mkVs k n)[j]?=some (mkV k j):=by simp[mkVs,h]
theorem turned_set {S:Nat→Prop}{v:Value}{w w':World}{g:Nat}(h:Turned S v w w')(hv:v.ownBlock=some g)(i:Nat)(x:Value):Turned S v w (w'.setCell ⟨g,i,none⟩ x) :=
 ⟨h.os,h.tape,h.output,by simpa using h.size,fun j hj hn hne=>by
  rw[Below.heap_setCell _ _ _ _ (fun e=>hne (by rw[hv,e]))]
  exact h.block j hj hn hne⟩
theorem turned_below {S:Nat→Prop}{v:Value}{w w' w'':World}(h:Turned S v w w')(hb:Below w'.heap.size w' w''):Turned S v w w'' :=
 ⟨hb.os.trans h.os,hb.tape.trans h.tape,hb.output.trans h.output,Nat.le_trans h.size hb.size,fun j hj hn hne=>(hb.block j (Nat.lt_of_lt_of_le hj h.size)).trans (h.block j hj hn hne)⟩

set_option maxHeartbeats 1000000 in
set_option maxRecDepth 100000 in
theorem lMarkOps {w:World}{B g n cap k:Nat}{vs:List Vl}(h:OR B g n cap w vs)(hl:vs.length=n)(hn:n≤1048576)(h1:1≤k)(hk:k≤4000000):
  Calls Tryz.prog 31 #[.slice (some ⟨g,0,none⟩) n cap,.int .i64 k] w fun e w'=>e=.returned (.int .i64 (k+3*n:Nat))∧OR B g n cap w' (mkVs k n)∧Turned (fun _=>False) (.slice (some ⟨g,0,none⟩) n cap) w w':=by
 have bn:(n:Int)≤1048576:=by omega
 go_enter Tryz.func31,Tryz.ntmps31
 go_wp2_with fail
 go_loopw [1,5] (fun kv iv wr=>∃ (i:Nat) (L:List Vl),i≤n∧iv=.int .i64 i∧kv=.int .i64 (k+3*i:Nat)∧L.length=n∧(∀ j,j<i→L[j]?=some (mkV k j))∧OR B g n cap wr L∧Turned (fun _=>False) (.slice (some ⟨g,0,none⟩) n cap) w wr) (fun _ iv _=>n - (intOf iv).toNat)
 case atStart=>exact⟨0,vs,Nat.zero_le _,rfl,rfl,hl,fun j hj=>by omega,h,Turned.refl _ _ _⟩
 case round =>
  clear h hl
  obtain⟨i,L,hi,rfl,rfl,hL,hM,hR,hT⟩:=hrel
  by_cases hil:i<n
  ·obtain⟨v,hv⟩:∃ v,L[i]?=some v:=⟨_,List.getElem?_eq_getElem (by omega)⟩
   obtain⟨a,b,s⟩:=v
   have p0:wr.cell? ⟨g,i*3,none⟩=some (.int .i64 a):=hR.cell hv (j:=0) rfl;have p1:wr.cell? ⟨g,i*3+1,none⟩=some (.int .i64 b):=hR.cell hv (j:=1) rfl;have p2:wr.cell? ⟨g,i*3+2,none⟩=some (.string s):=hR.cell hv (j:=2) rfl;have fz:=hR.frozen;have hgl:=hR.lt
   obtain⟨k0,hk0⟩:∃ k0,k0=k+3*i:=⟨_,rfl⟩
   have HK:Hid _:=hk0;have bk0:(k0:Int)≤8000000:=by omega
   obtain⟨k2,hk2⟩:∃ k2,k2=k0+2:=⟨_,rfl⟩
   have t2:(k0:Int)+1+1=(k2:Int):=by omega
   have bk2:(k2:Int)≤9000000:=by omega
   have mt:=fun w0:World=>lMarkText k2 (by omega) (by omega) w0;have R1:=hR.set1 (j:=0) (v':=((k0:Int),b,s)) (x:=.int .i64 k0) hv (by omega) rfl;have R2:=R1.set1 (j:=1) (v:=((k0:Int),b,s)) (v':=((k0:Int),(k0:Int)+1,s)) (x:=.int .i64 ((k0:Int)+1)) (by rw[List.getElem?_set_self (by omega)]) (by omega) rfl;have T2:=turned_set (turned_set hT (g:=g) rfl (i*3) (.int .i64 k0)) (g:=g) rfl (i*3+1) (.int .i64 ((k0:Int)+1))
   rw[Nat.add_zero] at R1 R2
   rw[List.set_set] at R2
   have HH:Hid _:=And.intro R2 T2
   rw[← hk0]
   have HK2:Hid _:=hk2;clear hk0 hk2 hR hT R1 R2 T2
   go_wp2_with (go_at_call 28;refine hold ?_)
   obtain⟨R2,T2⟩:=HH.out
   refine (mt _).mono ?_;rintro e w2 ⟨rfl,hb2⟩;have R3:=R2.kept (w':=w2) (hb2.block _ (by simpa using hgl));have T3:=turned_below T2 hb2;have hv3:(L.set i ((k0:Int),(k0:Int)+1,s))[i]?=some ((k0:Int),(k0:Int)+1,s):=by rw[List.getElem?_set_self (by omega)]
   have q0:w2.cell? ⟨g,i*3,none⟩=some (.int .i64 k0):=R3.cell hv3 (j:=0) rfl;have q1:w2.cell? ⟨g,i*3+1,none⟩=some (.int .i64 ((k0:Int)+1)):=R3.cell hv3 (j:=1) rfl;have q2:w2.cell? ⟨g,i*3+2,none⟩=some (.string s):=R3.cell hv3 (j:=2) rfl;have fz2:=R3.frozen;have R4:=R3.set1 (j:=2) (v':=((k0:Int),(k0:Int)+1,markT k2)) (x:=.string (markT k2)) hv3 (by omega) rfl
   rw[List.set_set] at R4
   have T4:=turned_set T3 (g:=g) rfl (i*3+2) (.string (markT k2));have HH4:Hid _:=And.intro R4 T4;clear R2 R3 R4 T2 T3 T4 hv3 HH hb2 p0 p1 p2 fz;go_wp2_with fail;go_roundw
   case rel =>
    have e1:=HK.out;have e2:=HK2.out
    refine⟨i+1,L.set i ((k0:Int),(k0:Int)+1,markT k2),hil,by go_num,by congr 1;omega,by simpa using hL,fun j hj=>?_,HH4.out.1,HH4.out.2⟩
    by_cases hji:j=i
    ·subst hji
     rw[List.getElem?_set_self (by omega)]
     subst e2 e1;simp[mkV]
    ·rw[List.getElem?_set_ne (by omega)]
     exact hM j (by omega)
   case measure=>simp[intOf];omega
  ·obtain rfl:i=n:=by omega
   have hLe:L=mkVs k i:=by
    apply List.ext_getElem?;intro j
    by_cases hj:j<i
    ·rw[hM j hj,mkVs_get hj]
    ·rw[List.getElem?_eq_none (by omega),List.getElem?_eq_none (by rw[mkVs_len];omega)]
   subst hLe;have HH:Hid _:=And.intro hR hT;clear hR hT hM;go_wp2_with fail;go_ret
   exact⟨rfl,HH.out.1,HH.out.2⟩

set_option maxRecDepth 100000 in
theorem lHeldOps {w:World}{B g n cap k:Nat}(h:OR B g n cap w (mkVs k n))(hn:n≤1048576)(h1:1≤k)(hk:k≤4000000):
  Calls Tryz.prog 33 #[.slice (some ⟨g,0,none⟩) n cap,.int .i64 k] w fun e w'=>e=.returned (.int .i64 (k+3*n:Nat))∧Below w.heap.size w w':=by
 have bn:(n:Int)≤1048576:=by omega
 have hgl:=h.lt
 go_enter Tryz.func33,Tryz.ntmps33
 go_wp2_with fail
 go_loopw [1,5] (fun kv iv wr=>∃ i:Nat,i≤n∧iv=.int .i64 i∧kv=.int .i64 (k+3*i:Nat)∧Below w.heap.size w wr) (fun _ iv _=>n - (intOf iv).toNat)
 case atStart=>exact⟨0,Nat.zero_le _,rfl,rfl,Below.refl _ _⟩
 case round =>
  obtain⟨i,hi,rfl,rfl,hb⟩:=hrel
  by_cases hil:i<n
  ·have hR:=h.kept (w':=wr) (hb.block _ hgl);have hv:=mkVs_get (k:=k) hil;have p0:wr.cell? ⟨g,i*3,none⟩=some (.int .i64 (k+3*i:Nat)):=hR.cell hv (j:=0) rfl;have p1:wr.cell? ⟨g,i*3+1,none⟩=some (.int .i64 (k+3*i+1:Nat)):=hR.cell hv (j:=1) rfl;have p2:wr.cell? ⟨g,i*3+2,none⟩=some (.string (markT (k+3*i+2))):=hR.cell hv (j:=2) rfl;have hgw:g<wr.heap.size:=hR.lt
   obtain⟨k0,hk0⟩:∃ k0,k0=k+3*i:=⟨_,rfl⟩
   rw[← hk0] at p0 p1 p2 ⊢
   have HK:Hid _:=hk0;have bk0:(k0:Int)≤8000000:=by omega
   obtain⟨k2,hk2⟩:∃ k2,k2=k0+2:=⟨_,rfl⟩
   rw[← hk2] at p2
   have HK2:Hid _:=hk2;have t2:(k0:Int)+1+1=(k2:Int):=by omega
   have bk2:(k2:Int)≤9000000:=by omega
   have mt:=fun w0:World=>lMarkText k2 (by omega) (by omega) w0
   rw[show ((k0+1:Nat):Int)=(k0:Int)+1 by omega] at p1
   clear hk0 hk2 hR hv h;go_wp2_with fail
   go_region_with (first|(go_at_call 28;refine (mt _).mono ?_;rintro e w3 ⟨rfl,hb3⟩;have e1:=(hb3.cell (p:=⟨g,i*3+2,none⟩) hgw).trans p2))
   all_goals go_wp2_with fail
   all_goals go_roundw
   all_goals first
    | (simp[intOf];omega)
    | exact⟨i+1,hil,by go_num,by have a1:=HK.out;have a2:=HK2.out;congr 1;omega,hb.drew.trans (hb3.mono hb.size)⟩
  ·obtain rfl:i=n:=by omega
   go_wp2_with fail;go_ret
   exact⟨rfl,hb⟩

end Cm
namespace Mk
open Nd

def MarkOk (ts:List Data):Prop:=∀ (k:Nat) (w:World) (S:Nat→Prop) (v:Value) (xs:List Value),1≤k→k+3*cnts ts≤9000000→w.ownsRow 0 51 4 v ts.length xs→NodesIs w ts S xs→(∀ j,S j→j<w.heap.size∧v.ownBlock≠some j) →
 Calls Tryz.prog 29 #[v,.int .i64 k] w fun e w'=>e=.returned (.int .i64 (k+3*cnts ts:Nat))∧Turned S v w w'

set_option maxHeartbeats 1000000 in
set_option maxRecDepth 100000 in
theorem mark_of {ts:List Data}(ih:∀ ks,deps ks<deps ts→MarkOk ks):MarkOk ts:=by
 intro k w S v xs hk1 hk2 ho hx hS
 obtain⟨ao,cap,rfl⟩:=owns_slice ho
 have hlen:=cnts_len ts;have hnI:(ts.length:Int)≤9000000:=by omega
 go_enter Tryz.func29,Tryz.ntmps29
 go_wp2_with fail
 go_loopw [1,5] (fun kv i wr=>∃ (j kj:Nat) (xj:List Value) (Sj:Nat→Prop),j≤ts.length∧i=.int .i64 j∧kv=.int .i64 kj∧kj=k+3*cnts (ts.take j)∧wr.ownsRow 0 51 4 (.slice ao ts.length cap) ts.length xj∧NodesIs wr (ts.drop j) Sj (xj.drop (j*4))∧(∀ b,Sj b→S b)∧Turned S (.slice ao ts.length cap) w wr) (fun _ i _=>ts.length - (intOf i).toNat)
 case atStart=>exact⟨0,k,xs,S,Nat.zero_le _,rfl,rfl,by simp[cnts],ho,by simpa using hx,fun _ h=>h,Turned.refl _ _ _⟩
 case round =>
  clear hx ho xs
  obtain⟨j,kj,xj,Sj,hj,rfl,rfl,hkj,ho,hx,hSj,hT⟩:=hrel
  by_cases hjl:j<ts.length
  ·have hji:ts[j]?=some ts[j]:=List.getElem?_eq_getElem hjl;have hdrop:ts.drop j=ts[j]::ts.drop (j+1):=List.drop_eq_getElem_cons hjl
   rw[hdrop] at hx
   obtain⟨T1,T2,c1,c2,hxx,hr,hB,s1,s2⟩:=hx
   have hl1:=node_len hr;have hc2:c2=xj.drop ((j+1)*4):=by
    have:(c1++c2).drop 4=c2:=by rw[← hl1];exact List.drop_left
    rw[← this,← hxx,List.drop_drop,show (j+1)*4=j*4+4 by omega]
   obtain⟨g,rfl,hg,hc⟩:=row_cells ho hjl
   have hgS:¬ S g:=fun h=>(hS g h).2 rfl
   match c1,hl1 with
   | [a0,a1,a2,a3],_ =>
   obtain⟨op,n,s,ao2,cap2,ys,ht,rfl,rfl,rfl,rfl,ho2,hu,hy⟩:=node_form hr
   have hget:∀ i x,[Value.int .i64 op,.int .i64 n,.string ⟨s.toArray⟩,.slice ao2 (kidsOf ts[j]).length cap2][i]?=some x→wr.cell? ⟨g,j*4+i,none⟩=some x:=fun i x hi=>hc _ _ (by
    have:(xj.drop (j*4))[i]?=some x:=by rw[hxx,List.getElem?_append_left (by simpa using (List.getElem?_eq_some_iff.1 hi).1)];exact hi
    simpa using this)
   have p0:wr.cell? ⟨g,j*4,none⟩=some (.int .i64 op):=hget 0 _ rfl;have p1:=hget 1 _ rfl;have p2:=hget 2 _ rfl;have p3:=hget 3 _ rfl
   obtain⟨cs0,hrow⟩:=row_block ho
   have f0:=frozen_of_row hrow (j*4);have f1:=frozen_of_row hrow (j*4+1);have f2:=frozen_of_row hrow (j*4+2);have hct:=cnts_take ts j _ hji;have hle:=cnts_le ts (j+1);have hdm:=deps_mem (List.getElem_mem hjl)
   rw[cnt_kids] at hct
   rw[dep_kids] at hdm
   generalize hks:kidsOf ts[j]=ks at *;have hbig:kj+3+3*cnts ks≤9000000:=by omega
   have hSu:∀ b,Value.ownBlock (.slice ao2 ks.length cap2)=some b→b≠g∧S b∧T1 b:=fun b hb=>⟨fun e=>hgS (e ▸ hSj b (s1 b (hu b hb)).1),hSj b (s1 b (hu b hb)).1,hu b hb⟩;have hlt:∀ b,T1 b→b<wr.heap.size∧b≠g:=fun b hb=>⟨Nat.lt_of_lt_of_le (hS b (hSj b (s1 b hb).1)).1 hT.size,fun e=>hgS (e ▸ hSj b (s1 b hb).1)⟩;have call:∀ w4:World,(∀ b,b≠g→b<wr.heap.size→w4.heap[b]?=wr.heap[b]?)→wr.heap.size≤w4.heap.size→Calls Tryz.prog 29 #[.slice ao2 ks.length cap2,.int .i64 ((kj:Int)+1+1+1)] w4 fun e w'=>e=.returned (.int .i64 (kj+3+3*cnts ks:Nat))∧Turned (fun b=>T1 b∧Value.ownBlock (.slice ao2 ks.length cap2)≠some b) (.slice ao2 ks.length cap2) w4 w':=by
    intro w4 hw4 hs4
    rw[show ((kj:Int)+1+1+1)=((kj+3:Nat):Int) by omega]
    exact ih ks (by omega) (kj+3) w4 _ _ ys (by omega) hbig (owns_same ho2 fun b hb=>hw4 b (hSu b hb).1 (ho2.lt b hb).2) (nodes_frame (fun b hb=>hw4 b (hlt b hb.1).2 (hlt b hb.1).1) hy) (fun b hb=>⟨Nat.lt_of_lt_of_le (hlt b hb.1).1 hs4,hb.2⟩)
   have mt:∀ w0:World,Calls Tryz.prog 28 #[.int .i64 ((kj:Int)+1+1)] w0 fun e w'=>e=.returned (.string (markT (kj+2)))∧Below w0.heap.size w0 w':=by
    intro w0
    rw[show ((kj:Int)+1+1)=((kj+2:Nat):Int) by omega]
    exact lMarkText (kj+2) (by omega) (by omega) w0
   have kb:(kj:Int)≤9000000:=by omega
   have kl:(1:Int)≤kj:=by omega
   have b2:((wr.setCell ⟨g,j*4,none⟩ (.int .i64 kj)).setCell ⟨g,j*4+1,none⟩ (.int .i64 ((kj:Int)+1))).cell? ⟨g,j*4+2,none⟩=some (.string ⟨s.toArray⟩):=by
    rw[World.cell?_setCell_other _ _ _ _ (by simp),World.cell?_setCell_other _ _ _ _ (by simp)];exact p2
   have b3:((wr.setCell ⟨g,j*4,none⟩ (.int .i64 kj)).setCell ⟨g,j*4+1,none⟩ (.int .i64 ((kj:Int)+1))).cell? ⟨g,j*4+3,none⟩=some (.slice ao2 ks.length cap2):=by
    rw[World.cell?_setCell_other _ _ _ _ (by simp),World.cell?_setCell_other _ _ _ _ (by simp)];exact p3
   have d2:((wr.setCell ⟨g,j*4,none⟩ (.int .i64 kj)).setCell ⟨g,j*4+1,none⟩ (.int .i64 ((kj:Int)+1))).frozen? ⟨g,j*4+2,none⟩=false:=by simpa using f2
   have hgw:g<((wr.setCell ⟨g,j*4,none⟩ (.int .i64 kj)).setCell ⟨g,j*4+1,none⟩ (.int .i64 ((kj:Int)+1))).heap.size:=by simpa using hg
   have HX:Hid _:=hB;have HJ:Hid _:=hkj;have HC:Hid _:=hct;have b1:(wr.setCell ⟨g,j*4,none⟩ (.int .i64 kj)).cell? ⟨g,j*4+1,none⟩=some (.int .i64 n):=by
    rw[World.cell?_setCell_other _ _ _ _ (by simp)];exact p1
   have d1:(wr.setCell ⟨g,j*4,none⟩ (.int .i64 kj)).frozen? ⟨g,j*4+1,none⟩=false:=by simpa using f1
   clear hB hc hget ih hy hdrop hji p1 p2 p3 hkj hct hle hdm hbig hlen hk2 hxx ht hr hks
   go_wp2_with (first|(go_at_call 28;with_reducible refine (mt _).mono ?_;rintro e w3 ⟨rfl,hb3⟩;have e2:=(hb3.cell (p:=⟨g,j*4+2,none⟩) hgw).trans b2;have e3:=(hb3.cell (p:=⟨g,j*4+3,none⟩) hgw).trans b3;have k2:=(hb3.frozen (p:=⟨g,j*4+2,none⟩) hgw).trans d2;have e3':=fun x=>(set_far w3 g x (show j*4+3≠j*4+2 by omega)).trans e3)|(go_at_call 29;with_reducible refine Calls.mono (call _ ?_ ?_) ?_;rotate_left 2;rintro e w5 ⟨rfl,hT5⟩))
   case refine_1 =>
    intro b hb hlt
    rw[Below.heap_setCell _ _ _ _ hb,hb3.block b (by simpa using hlt),Below.heap_setCell _ _ _ _ hb,Below.heap_setCell _ _ _ _ hb]
   case refine_2 =>
    have:=hb3.size
    simp at this ⊢;exact this
   have hsz3:wr.heap.size≤w3.heap.size:=by have:=hb3.size;simpa using this
   have hsz5:w3.heap.size≤w5.heap.size:=by have:=hT5.size;simpa using this
   have same:∀ b,b≠g→b<wr.heap.size→¬ T1 b→w5.heap[b]?=wr.heap[b]?:=by
    intro b hb hlt hst
    rw[hT5.block b (by simp;omega) (fun h=>hst h.1) (fun h=>hst (hSu b h).2.2),Below.heap_setCell _ _ _ _ hb,hb3.block b (by simpa using hlt),Below.heap_setCell _ _ _ _ hb,Below.heap_setCell _ _ _ _ hb]
   have h1:=owns_set (owns_set ho (j*4) (.int .i64 kj)) (j*4+1) (.int .i64 ((kj:Int)+1));have h2:=owns_same (w':=w3) h1 fun b hb=>by
    simp only[Value.ownBlock,Option.some.injEq] at hb;subst hb;exact hb3.block _ hgw
   have h3:=owns_set h2 (j*4+2) (.string (markT (kj+2)));have h4:=owns_same (w':=w5) h3 fun b hb=>by
    simp only[Value.ownBlock,Option.some.injEq] at hb;subst hb;exact hT5.block _ (by simp;omega) (fun h=>hgS (hSj _ (s1 _ h.1).1)) (fun h=>(hSu _ h).1 rfl)
   have hrest:NodesIs w5 (ts.drop (j+1)) T2 c2:=nodes_frame (fun b hb=>same b (fun e=>hgS (e ▸ hSj b (s2 b hb))) (Nat.lt_of_lt_of_le (hS b (hSj b (s2 b hb))).1 hT.size) (fun h=>(s1 b h).2 hb)) HX.out
   rw[hc2] at hrest
   have hTT:Turned S (.slice (some ⟨g,0,none⟩) ts.length cap) w w5:=by
    refine⟨?_,?_,?_,Nat.le_trans hT.size (Nat.le_trans hsz3 hsz5),fun b hb hns hne=>?_⟩
    ·exact hT5.os.trans (hb3.os.trans hT.os)
    ·exact hT5.tape.trans (hb3.tape.trans hT.tape)
    ·exact hT5.output.trans (hb3.output.trans hT.output)
    ·exact (same b (fun e=>hne (by rw[e];rfl)) (Nat.lt_of_lt_of_le hb hT.size) (fun h=>hns (hSj b (s1 b h).1))).trans (hT.block b hb hns hne)
   have HK:Hid (kj+3+3*cnts ks=k+3*cnts (ts.take (j+1))):=by
    have:=HJ.out
    have:=HC.out
    show _=_;omega
   go_roundw
   case rel=>exact⟨j+1,_,_,T2,by omega,by go_num,by go_num,HK.out,h4,by rw[List.drop_set,if_pos (by omega),List.drop_set,if_pos (by omega),List.drop_set,if_pos (by omega)];exact hrest,fun b hb=>hSj b (s2 b hb),hTT⟩
   case measure=>simp[intOf];omega
  ·obtain rfl:j=ts.length:=by omega
   rw[List.take_length] at hkj
   subst hkj;clear hx;go_wp2_with fail;go_ret
   exact⟨rfl,hT⟩

theorem lMarkS (ts:List Data):MarkOk ts:=by
 induction h:deps ts using Nat.strongRecOn generalizing ts with
 | ind n ih=>exact mark_of fun ks hk=>ih (deps ks) (by omega) ks rfl

end Mk
end Go.Proofs.YtllbachngocmnaaGreatDoor
