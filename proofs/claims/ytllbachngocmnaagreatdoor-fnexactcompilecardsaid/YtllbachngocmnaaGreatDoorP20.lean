/-
  errors.Is by two contracts (the sentinel itself: true; nil: false), and the small functions of chapter 1 by theirs; the world is as it was.
-/
import Derived.LaidEql
import Derived.RowKitTokens
import Derived.Shelf.SlSortCmp.WholeK
import Derived.Shelf.SlicesG.Cmp
import Derived.Ground.SlsfProg
import Derived.Ground.SlgcProg
import Derived.Test.YtllbachngocmnaaGreatDoorP02
import Derived.Maps.Own
import Derived.Sort.OwnSorted
import Derived.Carry
namespace Go.Proofs.YtllbachngocmnaaGreatDoor
open Go.RowKit Go.Extern.Stop Go.Stop Go.Extern

theorem isTypeOf (v:Value)(w:World):(Extern.ReflectliteType.typeOf #[.iface 286 v]).run Tryz.prog w=.ok (.iface 175 (.agg #[.pointer (some ⟨6,286,none⟩)])) w:=by kernel_rfl
def cmpEntry:Array Value→Sem Value:=Extern.ReflectliteType.method fun t=>do Rtype.noPackHeld "Comparable" t;pure (.bool (← typeInfo t).comparable)
theorem isComparable (w:World):(cmpEntry #[.agg #[.pointer (some ⟨6,286,none⟩)]]).run Tryz.prog w=.ok (.bool true) w:=by kernel_rfl
theorem isMethodComparable (v:Value)(w:World):(Go.method 418 175 v "Comparable").run Tryz.prog w=.ok (265,v) w:=by kernel_rfl
theorem isComp:(Tryz.prog.info? 286).map (·.comparable)=some true:=by kernel_rfl
theorem isSize:(Tryz.prog.info? 306).map (·.size)=some 1:=by kernel_rfl

theorem is_same (a:Addr)(w:World):
  Calls Tryz.prog 203 #[.iface 286 (.pointer (some a)),.iface 286 (.pointer (some a))] w fun e w'=>e=.returned (.bool true)∧w'=w:=by
 obtain⟨i,hi,hcmp⟩:=Option.map_eq_some_iff.1 isComp
 obtain⟨j,hj,hjs⟩:=Option.map_eq_some_iff.1 isSize
 have h8:=@run_callFunc_extern Tryz.prog 131 _ Extern.ReflectliteType.typeOf Tryz.func131 (by kernel_rfl) (by kernel_rfl) (by kernel_rfl) (by kernel_rfl);have h32:=@run_callFunc_extern Tryz.prog 265 _ cmpEntry Tryz.func265 (by kernel_rfl) (by kernel_rfl) (by kernel_rfl) (by kernel_rfl);have tT:=isTypeOf;have cT:=isComparable;have mR:=isMethodComparable;have heq:=run_eql_iface_ptr_same (P:=Tryz.prog) w a Tryz.underlying85 Tryz.underlying286 hi hcmp hj
 go_enter Tryz.func203,Tryz.ntmps203
 go_wp2
 refine wp_loop_rounds 1 ?_
 rw[rounds_succ]
 go_wp2
 go_ret
 exact⟨rfl,rfl⟩

theorem is_nil (b:Addr)(w:World):
  Calls Tryz.prog 203 #[.nilIface,.iface 286 (.pointer (some b))] w fun e w'=>e=.returned (.bool false)∧w'=w:=by
 have hn:=run_eql_iface_nil_left (P:=Tryz.prog) w 286 (.pointer (some b)) Tryz.underlying85
 go_enter Tryz.func203,Tryz.ntmps203
 go_wp2
 go_ret
 exact⟨rfl,rfl⟩

theorem told_ok (d:Int)(a:Addr)(w:World)(hc:w.cell? ⟨4,0,none⟩=some (.iface 286 (.pointer (some a)))):
  Calls Tryz.prog 176 #[.int .i64 d,.nilIface] w fun e w'=>e=.returned (.tuple #[.int .i64 d,.bool true])∧w'=w:=by
 go_enter Tryz.func176,Tryz.ntmps176
 go_wp2_with (go_at_call 203;refine (is_nil a _).mono ?_;rintro e w' ⟨rfl,rfl⟩)
 go_ret2
 exact⟨rfl,rfl⟩

theorem told_bad (d:Int)(a:Addr)(w:World)(hc:w.cell? ⟨4,0,none⟩=some (.iface 286 (.pointer (some a)))):
  Calls Tryz.prog 176 #[.int .i64 d,.iface 286 (.pointer (some a))] w fun e w'=>e=.returned (.tuple #[.int .i64 0,.bool false])∧w'=w:=by
 go_enter Tryz.func176,Tryz.ntmps176
 go_wp2_with (go_at_call 203;refine (is_same a _).mono ?_;rintro e w' ⟨rfl,rfl⟩)
 go_ret2
 exact⟨rfl,rfl⟩

end Go.Proofs.YtllbachngocmnaaGreatDoor
namespace Go.Proofs.YtllbachngocmnaaGreatDoor
open Go.RowKit Go.Extern.Stop Go.Stop Go.Extern

theorem checked_ok (d:Int)(w:World)(h1 : -9000000000000≤d)(h2:d≤9000000000000):
  Calls Tryz.prog 177 #[.int .i64 d] w fun e w'=>e=.returned (.tuple #[.int .i64 d,.nilIface])∧w'=w:=by
 go_enter Tryz.func177,Tryz.ntmps177
 go_wp2
 go_ret2
 exact⟨rfl,rfl⟩

theorem checked_bad (d:Int)(a:Addr)(w:World)(hc:w.cell? ⟨4,0,none⟩=some (.iface 286 (.pointer (some a))))(h:d < -9000000000000∨9000000000000<d):
  Calls Tryz.prog 177 #[.int .i64 d] w fun e w'=>e=.returned (.tuple #[.int .i64 0,.iface 286 (.pointer (some a))])∧∃ n,w'=w.drewN n:=by
 rcases h with h|h
 ·go_enter Tryz.func177,Tryz.ntmps177
  go_wp2
  go_quiet (fail)
  go_wp2
  go_ret2
  exact⟨rfl,_,rfl⟩
 ·have h' : -9000000000000≤d:=by omega
  go_enter Tryz.func177,Tryz.ntmps177
  go_wp2
  go_quiet (fail)
  go_wp2
  go_ret2
  exact⟨rfl,_,rfl⟩

def ckV (d:Int):Int:=if -9000000000000≤d∧d≤9000000000000 then d else 0
def ckE (a:Addr)(d:Int):Value:=if -9000000000000≤d∧d≤9000000000000 then .nilIface else .iface 286 (.pointer (some a))
theorem ckV_ok {d:Int}(h1 : -9000000000000≤d)(h2:d≤9000000000000):ckV d=d:=by unfold ckV;rw[if_pos ⟨h1,h2⟩]
theorem ckE_ok (a:Addr){d:Int}(h1 : -9000000000000≤d)(h2:d≤9000000000000):ckE a d=.nilIface:=by unfold ckE;rw[if_pos ⟨h1,h2⟩]
theorem ckV_bad {d:Int}(h:d < -9000000000000∨9000000000000<d):ckV d=0:=by unfold ckV;rw[if_neg (by omega)]
theorem ckE_bad (a:Addr){d:Int}(h:d < -9000000000000∨9000000000000<d):ckE a d=.iface 286 (.pointer (some a)):=by unfold ckE;rw[if_neg (by omega)]

theorem checked_any (d:Int)(a:Addr)(w:World)(hc:w.cell? ⟨4,0,none⟩=some (.iface 286 (.pointer (some a)))):
  Calls Tryz.prog 177 #[.int .i64 d] w fun e w'=>e=.returned (.tuple #[.int .i64 (ckV d),ckE a d])∧∃ n,w'=w.drewN n:=by
 by_cases h:d < -9000000000000∨9000000000000<d
 ·rw[ckV_bad h,ckE_bad a h];exact checked_bad d a w hc h
 ·rw[ckV_ok (by omega) (by omega),ckE_ok a (by omega) (by omega)]
  exact (checked_ok d w (by omega) (by omega)).mono fun e w' ⟨h1,h2⟩=>⟨h1,0,h2⟩

end Go.Proofs.YtllbachngocmnaaGreatDoor
namespace Go.Proofs.YtllbachngocmnaaGreatDoor
open Go.RowKit Go.Extern.Stop Go.Stop Go.Extern

theorem below_drewN {B:Nat}{W w:World}(h:Below B W w)(n:Nat):Below B W (w.drewN n):=⟨h.os,h.tape,h.output,h.size,h.block⟩
theorem sDecOk (d:Int)(w:World):Calls Tryz.prog 122 #[.int .i64 d] w fun r w'=>r=.returned (.bool (Dec.okB d))∧w'=w:=by
 by_cases h1 : -9000000000000≤d
 ·by_cases h2:d≤9000000000000
  ·rw[Dec.okB_true h1 h2]
   go_enter Tryz.func122,Tryz.ntmps122
   go_wp2
   go_ret
   exact⟨rfl,rfl⟩
  ·rw[Dec.okB_false (by omega)]
   have h3:decide (d≤9000000000000)=false:=by simp;omega
   clear h2
   go_enter Tryz.func122,Tryz.ntmps122
   go_wp2
   go_ret
   exact⟨rfl,rfl⟩
 ·rw[Dec.okB_false (by omega)]
  have h3:d < -9000000000000:=by omega
  clear h1
  go_enter Tryz.func122,Tryz.ntmps122
  go_wp2
  go_ret
  exact⟨rfl,rfl⟩

theorem iDecOk (x:Int)(a:Addr)(w:World)(hc:w.cell? ⟨4,0,none⟩=some (.iface 286 (.pointer (some a)))):
  Calls Tryz.prog 156 #[.int .i64 x] w fun e w'=>e=.returned (.bool (Dec.okB x))∧∃ n,w'=w.drewN n:=by
 cases h:Dec.okB x with
 | true =>
  obtain⟨h1,h2⟩:=Dec.of_okB h
  clear h
  go_enter Tryz.func156,Tryz.ntmps156
  go_wp2_with (first|(go_at_call 176;refine (told_ok _ a _ ?_).mono ?_;exact hc;rintro e w' ⟨rfl,rfl⟩)|go_in)
  go_ret
  exact⟨rfl,0,rfl⟩
 | false =>
  have hE:=ckE_bad a (Dec.of_okB_false h);clear h
  go_enter Tryz.func156,Tryz.ntmps156
  go_wp2_with (first|(go_at_call 177;refine (checked_any _ a _ ?_).mono ?_;exact hc;rintro e w' ⟨rfl,n,rfl⟩)|(go_at_call 176;refine (told_bad _ a _ ?_).mono ?_;exact hc;rintro e w' ⟨rfl,rfl⟩)|go_in)
  go_ret
  exact⟨rfl,_,rfl⟩

/-! The same contracts in any world that has grown out of W. -/
end Go.Proofs.YtllbachngocmnaaGreatDoor
namespace Go.Proofs
open Go.Shelf
def Tryz.sortForm_ren:Go.Shelf.Ren:=⟨fun|6=>151|15=>170|14=>174|28=>192|29=>193|20=>195|21=>196|22=>197|23=>198|24=>199|25=>200|26=>201|27=>202|46=>218|47=>213|48=>214|49=>219|50=>220|57=>226|n=>n,fun|22=>145|24=>151|25=>205|3=>3|39=>222|0=>0|53=>244|55=>246|4=>4|46=>237|45=>236|50=>206|5=>5|9=>9|66=>255|70=>259|76=>266|77=>267|n=>n,fun|n=>n⟩
theorem Tryz.sortForm:Go.Proofs.SlLaysF0.n6 Tryz.prog Tryz.sortForm_ren:={
 mixed:=by kernel_rfl
 f6:=⟨Tryz.f151.name,by decide,Tryz.func151.trans (congrArg some (by kernel_rfl))⟩
 f14:=⟨Tryz.f174.name,by decide,Tryz.func174.trans (congrArg some (by kernel_rfl))⟩
 f15:=Tryz.func170.trans (congrArg some (by kernel_rfl))
 f20:=⟨Tryz.f195.name,by decide,Tryz.func195.trans (congrArg some (by kernel_rfl))⟩
 f21:=⟨Tryz.f196.name,by decide,Tryz.func196.trans (congrArg some (by kernel_rfl))⟩
 f22:=⟨Tryz.f197.name,by decide,Tryz.func197.trans (congrArg some (by kernel_rfl))⟩
 f23:=⟨Tryz.f198.name,by decide,Tryz.func198.trans (congrArg some (by kernel_rfl))⟩
 f24:=⟨Tryz.f199.name,by decide,Tryz.func199.trans (congrArg some (by kernel_rfl))⟩
 f25:=⟨Tryz.f200.name,by decide,Tryz.func200.trans (congrArg some (by kernel_rfl))⟩
 f26:=⟨Tryz.f201.name,by decide,Tryz.func201.trans (congrArg some (by kernel_rfl))⟩
 f27:=⟨Tryz.f202.name,by decide,Tryz.func202.trans (congrArg some (by kernel_rfl))⟩
 f28:=Tryz.func192.trans (congrArg some (by kernel_rfl))
 f29:=Tryz.func193.trans (congrArg some (by kernel_rfl))
 f46:=⟨Tryz.f218.name,by decide,Tryz.func218.trans (congrArg some (by kernel_rfl))⟩
 f47:=Tryz.func213.trans (congrArg some (by kernel_rfl))
 f48:=Tryz.func214.trans (congrArg some (by kernel_rfl))
 f49:=⟨Tryz.f219.name,by decide,Tryz.func219.trans (congrArg some (by kernel_rfl))⟩
 f50:=⟨Tryz.f220.name,by decide,Tryz.func220.trans (congrArg some (by kernel_rfl))⟩
 f57:=⟨Tryz.f226.name,by decide,Tryz.func226.trans (congrArg some (by kernel_rfl))⟩
 t0:=Tryz.underlying0
 a0:=Tryz.isAgg0
 z0:=Tryz.sizeOf0
 v0:=Tryz.zeroValue0
 t3:=Tryz.underlying3
 a3:=Tryz.isAgg3
 z3:=Tryz.sizeOf3
 v3:=Tryz.zeroValue3
 t4:=Tryz.underlying4
 a4:=Tryz.isAgg4
 z4:=Tryz.sizeOf4
 v4:=Tryz.zeroValue4
 t5:=Tryz.underlying5
 a5:=Tryz.isAgg5
 z5:=Tryz.sizeOf5
 v5:=Tryz.zeroValue5
 t9:=Tryz.underlying9
 a9:=Tryz.isAgg9
 z9:=Tryz.sizeOf9
 v9:=Tryz.zeroValue9
 t22:=Tryz.underlying145
 a22:=Tryz.isAgg145
 z22:=Tryz.sizeOf145
 v22:=Tryz.zeroValue145
 t25:=Tryz.underlying205
 a25:=Tryz.isAgg205
 z25:=Tryz.sizeOf205
 v25:=Tryz.zeroValue205
 t39:=Tryz.underlying222
 a39:=Tryz.isAgg222
 z39:=Tryz.sizeOf222
 v39:=Tryz.zeroValue222
 t45:=Tryz.underlying236
 a45:=Tryz.isAgg236
 z45:=Tryz.sizeOf236
 v45:=Tryz.zeroValue236
 t46:=Tryz.underlying237
 a46:=Tryz.isAgg237
 z46:=Tryz.sizeOf237
 v46:=Tryz.zeroValue237
 t50:=Tryz.underlying206
 a50:=Tryz.isAgg206
 z50:=Tryz.sizeOf206
 v50:=Tryz.zeroValue206
 t53:=Tryz.underlying244
 a53:=Tryz.isAgg244
 z53:=Tryz.sizeOf244
 v53:=Tryz.zeroValue244
 t55:=Tryz.underlying246
 a55:=Tryz.isAgg246
 z55:=Tryz.sizeOf246
 v55:=Tryz.zeroValue246
 t66:=Tryz.underlying255
 a66:=Tryz.isAgg255
 z66:=Tryz.sizeOf255
 v66:=Tryz.zeroValue255
 t70:=Tryz.underlying259
 a70:=Tryz.isAgg259
 z70:=Tryz.sizeOf259
 v70:=Tryz.zeroValue259
 t76:=Tryz.underlying266
 a76:=Tryz.isAgg266
 z76:=Tryz.sizeOf266
 v76:=Tryz.zeroValue266
 t77:=Tryz.underlying267
 a77:=Tryz.isAgg267
 z77:=Tryz.sizeOf267
 v77:=Tryz.zeroValue267 }
def Tryz.cmpInt_ren:Go.Shelf.Ren:=⟨fun|5=>153|7=>175|n=>n,fun|22=>3|3=>3|4=>4|n=>n,fun|n=>n⟩
theorem Tryz.cmpInt:Go.Proofs.SlLaysC2.n5 Tryz.prog Tryz.cmpInt_ren:={
 mixed:=by kernel_rfl
 f5:=⟨Tryz.f153.name,by decide,Tryz.func153.trans (congrArg some (by kernel_rfl))⟩
 f7:=⟨Tryz.f175.name,by decide,Tryz.func175.trans (congrArg some (by kernel_rfl))⟩
 t3:=Tryz.underlying3
 a3:=Tryz.isAgg3
 z3:=Tryz.sizeOf3
 v3:=Tryz.zeroValue3
 t4:=Tryz.underlying4
 a4:=Tryz.isAgg4
 z4:=Tryz.sizeOf4
 v4:=Tryz.zeroValue4
 t22:=Tryz.underlying3
 a22:=Tryz.isAgg3
 z22:=Tryz.sizeOf3
 v22:=Tryz.zeroValue3 }
end Go.Proofs
namespace Go.Proofs.YtllbachngocmnaaGreatDoor
open Go.RowKit
namespace Oc
open St (Vl)

theorem keyS:Maps.Keyed Tryz.prog 9:=Maps.string_keyed Tryz.underlying9
def Mp (w:World)(B i:Nat):Prop:=w.ownsMap Tryz.prog 9 Rf B i (dR (tbl.take i).reverse)
theorem Mp.all {w:World}{B:Nat}(h:Mp w B 36):w.ownsMap Tryz.prog 9 Rf B 36 (dR tbl.reverse):=by
 unfold Mp at h
 rwa [List.take_of_length_le (by rw[tbl_len];exact Nat.le_refl _)] at h

theorem mp_put {w:World}{B i:Nat}(hM:Mp w B i){c n s:Int}{nm:List UInt8}(hf:tbl[i]?=some (c,n,s,nm)):
  ∃ w',(Instr.mapUpdate 202 (.map (some B)) (.string ⟨nm.toArray⟩) (.agg #[.int .i64 c,.int .i64 n,.int .i64 s,.string ⟨#[]⟩])).run Tryz.prog w=.ok () w'∧Mp w' B (i+1)∧w.grownBy w' (some B):=by
 have hi:i<36:=by have:=(List.getElem?_eq_some_iff.1 hf).1;rwa [tbl_len] at this
 have hl:nm.length≤100:=by
  have h:∀ f∈tbl,f.2.2.2.length≤100:=by decide
  exact h _ (List.mem_of_getElem? hf)
 have hkey:keyOf Tryz.prog 9 (.string ⟨nm.toArray⟩)=some (.string nm):=by
  have:=WideMaps.keyOf_string_mk (s:=⟨nm.toArray⟩) Tryz.underlying9 (by unfold maxLen;simp[ByteArray.size];omega)
  simpa using this
 obtain⟨w',hrun,r1,r2⟩:=World.ownsMap.update hM keyS Tryz.underlying202 (by unfold maxLen;omega) hkey (Rf_mk (c,n,s))
 refine⟨w',hrun,?_,r2⟩
 have e:(tbl.take (i+1)).reverse=(c,n,s,nm)::(tbl.take i).reverse:=by rw[List.take_add_one,hf];simp
 unfold Mp
 rw[e]
 exact r1

set_option maxHeartbeats 4000000 in
set_option maxRecDepth 100000 in
theorem iForms (w:World):Calls Tryz.prog 150 #[] w fun e w'=>e=.returned (.map (some w.heap.size))∧Mp w' w.heap.size 36∧Below w.heap.size w w'∧w.heap.size<w'.heap.size:=by
 have hmm:=@run_makeMap Tryz.prog;have hM0:Mp (w.alloc (.map #[] 0)) w.heap.size 0:=World.ownsMap_made _ _ _ _;have hB0:Below (w.heap.size) w (w.alloc (.map #[] 0))∧w.heap.size<(w.alloc (.map #[] 0)).heap.size:=⟨(Below.refl _ w).alloc (Nat.le_refl _) _,by simp⟩;have hst:∀ {w1 w2:World},Below w.heap.size w w1∧w.heap.size<w1.heap.size→w1.grownBy w2 (some w.heap.size)→Below w.heap.size w w2∧w.heap.size<w2.heap.size:=fun h hg=>⟨h.1.grown hg h.1.size (fun b hb=>by cases hb;exact Nat.le_refl _),Nat.lt_of_lt_of_le h.2 hg.size⟩
 obtain⟨w1,r1,hM1,g1⟩:=mp_put hM0 (i:=0) rfl
 have hB1:=hst hB0 g1;clear hM0 hB0 g1
 obtain⟨w2,r2,hM2,g2⟩:=mp_put hM1 (i:=1) rfl
 have hB2:=hst hB1 g2;clear hM1 hB1 g2
 obtain⟨w3,r3,hM3,g3⟩:=mp_put hM2 (i:=2) rfl
 have hB3:=hst hB2 g3;clear hM2 hB2 g3
 obtain⟨w4,r4,hM4,g4⟩:=mp_put hM3 (i:=3) rfl
 have hB4:=hst hB3 g4;clear hM3 hB3 g4
 obtain⟨w5,r5,hM5,g5⟩:=mp_put hM4 (i:=4) rfl
 have hB5:=hst hB4 g5;clear hM4 hB4 g5
 obtain⟨w6,r6,hM6,g6⟩:=mp_put hM5 (i:=5) rfl
 have hB6:=hst hB5 g6;clear hM5 hB5 g6
 obtain⟨w7,r7,hM7,g7⟩:=mp_put hM6 (i:=6) rfl
 have hB7:=hst hB6 g7;clear hM6 hB6 g7
 obtain⟨w8,r8,hM8,g8⟩:=mp_put hM7 (i:=7) rfl
 have hB8:=hst hB7 g8;clear hM7 hB7 g8
 obtain⟨w9,r9,hM9,g9⟩:=mp_put hM8 (i:=8) rfl
 have hB9:=hst hB8 g9;clear hM8 hB8 g9
 obtain⟨w10,r10,hM10,g10⟩:=mp_put hM9 (i:=9) rfl
 have hB10:=hst hB9 g10;clear hM9 hB9 g10
 obtain⟨w11,r11,hM11,g11⟩:=mp_put hM10 (i:=10) rfl
 have hB11:=hst hB10 g11;clear hM10 hB10 g11
 obtain⟨w12,r12,hM12,g12⟩:=mp_put hM11 (i:=11) rfl
 have hB12:=hst hB11 g12;clear hM11 hB11 g12
 obtain⟨w13,r13,hM13,g13⟩:=mp_put hM12 (i:=12) rfl
 have hB13:=hst hB12 g13;clear hM12 hB12 g13
 obtain⟨w14,r14,hM14,g14⟩:=mp_put hM13 (i:=13) rfl
 have hB14:=hst hB13 g14;clear hM13 hB13 g14
 obtain⟨w15,r15,hM15,g15⟩:=mp_put hM14 (i:=14) rfl
 have hB15:=hst hB14 g15;clear hM14 hB14 g15
 obtain⟨w16,r16,hM16,g16⟩:=mp_put hM15 (i:=15) rfl
 have hB16:=hst hB15 g16;clear hM15 hB15 g16
 obtain⟨w17,r17,hM17,g17⟩:=mp_put hM16 (i:=16) rfl
 have hB17:=hst hB16 g17;clear hM16 hB16 g17
 obtain⟨w18,r18,hM18,g18⟩:=mp_put hM17 (i:=17) rfl
 have hB18:=hst hB17 g18;clear hM17 hB17 g18
 obtain⟨w19,r19,hM19,g19⟩:=mp_put hM18 (i:=18) rfl
 have hB19:=hst hB18 g19;clear hM18 hB18 g19
 obtain⟨w20,r20,hM20,g20⟩:=mp_put hM19 (i:=19) rfl
 have hB20:=hst hB19 g20;clear hM19 hB19 g20
 obtain⟨w21,r21,hM21,g21⟩:=mp_put hM20 (i:=20) rfl
 have hB21:=hst hB20 g21;clear hM20 hB20 g21
 obtain⟨w22,r22,hM22,g22⟩:=mp_put hM21 (i:=21) rfl
 have hB22:=hst hB21 g22;clear hM21 hB21 g22
 obtain⟨w23,r23,hM23,g23⟩:=mp_put hM22 (i:=22) rfl
 have hB23:=hst hB22 g23;clear hM22 hB22 g23
 obtain⟨w24,r24,hM24,g24⟩:=mp_put hM23 (i:=23) rfl
 have hB24:=hst hB23 g24;clear hM23 hB23 g24
 obtain⟨w25,r25,hM25,g25⟩:=mp_put hM24 (i:=24) rfl
 have hB25:=hst hB24 g25;clear hM24 hB24 g25
 obtain⟨w26,r26,hM26,g26⟩:=mp_put hM25 (i:=25) rfl
 have hB26:=hst hB25 g26;clear hM25 hB25 g26
 obtain⟨w27,r27,hM27,g27⟩:=mp_put hM26 (i:=26) rfl
 have hB27:=hst hB26 g27;clear hM26 hB26 g27
 obtain⟨w28,r28,hM28,g28⟩:=mp_put hM27 (i:=27) rfl
 have hB28:=hst hB27 g28;clear hM27 hB27 g28
 obtain⟨w29,r29,hM29,g29⟩:=mp_put hM28 (i:=28) rfl
 have hB29:=hst hB28 g29;clear hM28 hB28 g29
 obtain⟨w30,r30,hM30,g30⟩:=mp_put hM29 (i:=29) rfl
 have hB30:=hst hB29 g30;clear hM29 hB29 g30
 obtain⟨w31,r31,hM31,g31⟩:=mp_put hM30 (i:=30) rfl
 have hB31:=hst hB30 g31;clear hM30 hB30 g31
 obtain⟨w32,r32,hM32,g32⟩:=mp_put hM31 (i:=31) rfl
 have hB32:=hst hB31 g32;clear hM31 hB31 g32
 obtain⟨w33,r33,hM33,g33⟩:=mp_put hM32 (i:=32) rfl
 have hB33:=hst hB32 g33;clear hM32 hB32 g33
 obtain⟨w34,r34,hM34,g34⟩:=mp_put hM33 (i:=33) rfl
 have hB34:=hst hB33 g34;clear hM33 hB33 g34
 obtain⟨w35,r35,hM35,g35⟩:=mp_put hM34 (i:=34) rfl
 have hB35:=hst hB34 g35;clear hM34 hB34 g35
 obtain⟨w36,r36,hM36,g36⟩:=mp_put hM35 (i:=35) rfl
 have hB36:=hst hB35 g36;clear hM35 hB35 g36;have HM:Hid _:=And.intro hM36 hB36;clear hst hM36 hB36
 go_enter Tryz.func150,Tryz.ntmps150
 go_wp2_with fail;go_ret
 exact⟨rfl,HM.out⟩

def RdF (w:World)(g:Nat):Prop:=g<w.heap.size∧∀ i f,tbl[i]?=some f→w.cell? ⟨g,i*4,none⟩=some (.int .i64 f.1)∧w.cell? ⟨g,i*4+1,none⟩=some (.int .i64 f.2.1)∧w.cell? ⟨g,i*4+2,none⟩=some (.int .i64 f.2.2.1)∧w.cell? ⟨g,i*4+3,none⟩=some (.string ⟨f.2.2.2.toArray⟩)
theorem RdF.below {w w':World}{g:Nat}(h:RdF w g)(hb:Below w.heap.size w w'):RdF w' g:=by
 refine⟨Nat.lt_of_lt_of_le h.1 hb.size,fun i f hi=>?_⟩
 obtain⟨c0,c1,c2,c3⟩:=h.2 i f hi
 have hc:∀ k,w'.cell? ⟨g,k,none⟩=w.cell? ⟨g,k,none⟩:=fun k=>hb.cell (p:=⟨g,k,none⟩) h.1
 exact⟨(hc _).trans c0,(hc _).trans c1,(hc _).trans c2,(hc _).trans c3⟩

/-! The library's sort at forms. -/
theorem iCmp (x y:Fm)(W:World):Calls Tryz.prog 152 #[.agg #[.int .i64 x.1,.int .i64 x.2.1,.int .i64 x.2.2.1,.string ⟨x.2.2.2.toArray⟩],.agg #[.int .i64 y.1,.int .i64 y.2.1,.int .i64 y.2.2.1,.string ⟨y.2.2.2.toArray⟩]] W fun e w'=>e=.returned (.int .i64 (Lib.compareInt x.1 y.1))∧∃ q os',w'=Sort.grow (W.drewN q) os':=by
 have hcon:=fun W'=>AnyG.cmp_Compare_int Tryz.cmpInt x.1 y.1 W';change ∀ W',Calls Tryz.prog 153 _ _ _ at hcon;generalize Lib.compareInt x.1 y.1=r at hcon ⊢
 go_enter Tryz.func152,Tryz.ntmps152
 go_wp2_with (go_at_call 153;refine (hcon _).mono ?_;rintro e w' ⟨rfl,rfl⟩)
 go_ret
 exact⟨rfl,0,_,by rw[Sort.alloc_eq_grow,Sort.alloc_eq_grow,Sort.grow_grow];rfl⟩

theorem ltCode (x y:Fm):ltOf (fun x y:Fm=>Lib.compareInt x.1 y.1) x y=decide (x.1<y.1):=by
 unfold ltOf Lib.compareInt
 by_cases h1:x.1<y.1
 ·simp[h1]
 ·by_cases h2:y.1<x.1 <;> simp[h1,h2]
theorem swoCode:Sort.SWO (ltOf fun x y:Fm=>Lib.compareInt x.1 y.1) where
 irrefl x:=by rw[ltCode];simp
 trans x y z h1 h2:=by rw[ltCode] at *;simp at *;omega
 ntrans x y z h1 h2:=by rw[ltCode] at *;simp at *;omega

end Oc
namespace Oc
open St (Vl)

theorem iSortF (g cap:Nat)(L:List Fm)(w:World)(hH:Sort.HoldsK encF 4 w g 0 L.toArray)(hg:g<w.heap.size)(hsz:L.length≤36):
  Calls Tryz.prog 151 #[.slice (some ⟨g,0,none⟩) L.length cap,.func (.func 152) #[] #[]] w fun e w'=>e=.returned (.tuple #[]) ∧
   ∃ d' n os,Sort.PermIn 0 L.length L.toArray d'∧Sort.SortedIn (ltOf fun x y:Fm=>Lib.compareInt x.1 y.1) 0 L.length d'∧w'=sortWorldK encF 4 w g 0 n d' os:=by
 have eg:∀ args w,(callFunc 152 args).run Tryz.prog w=.ok (.enter 152 args) w:=enters_of Tryz.func152 (by kernel_rfl) rfl;have hl:CmpLays Tryz.prog 152 #[] encF 4 (fun x y:Fm=>Lib.compareInt x.1 y.1) g 0 L.toArray.size w:=fun _ _ _ _ x y=>iCmp x y _;have hcon:=AnyQ.slices_SortFunc Tryz.sortForm 4 Tryz.isAgg151 Tryz.sizeOf151 encF (fun _=>rfl) (fun x v hv=>by simp[encF] at hv;rcases hv with rfl|rfl|rfl|rfl <;> rfl) (fun x y:Fm=>Lib.compareInt x.1 y.1) swoCode 152 #[] g 0 cap L.toArray w eg hl hH hg (by simp;omega);change Calls Tryz.prog 151 _ _ _ at hcon;simp only[List.size_toArray] at hcon;exact hcon

theorem perm_of {L:List Fm}{d:Array Fm}(hp:Sort.PermIn 0 L.length L.toArray d)(hs:Sort.SortedIn (ltOf fun x y:Fm=>Lib.compareInt x.1 y.1) 0 L.length d)(hL:L.Perm tbl):d.toList=tbl:=by
 obtain⟨h1,_,h3⟩:=hp
 simp only[List.size_toArray] at h1;have e1:d.extract 0 L.length=d:=by rw[← h1];simp
 have e2:L.toArray.extract 0 L.length=L.toArray:=by simp
 rw[e1,e2] at h3
 refine sorted_is (h3.trans hL) (List.pairwise_iff_getElem.2 fun i j hi hj hij=>?_)
 have:=hs i j (Nat.zero_le _) hij (by simpa [h1] using hj)
 rw[ltCode] at this
 simp only[Array.length_toList] at hi hj
 rw[getElem!_pos d i hi,getElem!_pos d j hj] at this
 simpa using this

theorem rdF_sorted {w:World}{g n:Nat}{os:Array Obj}{L:List Fm}{d:Array Fm}(hH:Sort.HoldsK encF 4 w g 0 L.toArray)(hg:g<w.heap.size)(hl:d.size=L.length)(hd:d.toList=tbl):RdF (sortWorldK encF 4 w g 0 n d os) g:=by
 have hds:d.size=36:=by rw[← Array.length_toList,hd,tbl_len]
 unfold Sort.HoldsK at hH;have hg':g<(Sort.putRowK encF 4 (Sort.ahead w n) g 0 d).heap.size:=by simpa [Sort.putRowK,Sort.putRow,Sort.mapBlock,Sort.ahead] using hg
 have key:∀ t,t<144→(sortWorldK encF 4 w g 0 n d os).cell? ⟨g,t,none⟩=some ((encF d[t / 4]!)[t % 4]!):=by
  intro t ht;have h1:(sortWorldK encF 4 w g 0 n d os).heap[g]?=(Sort.putRowK encF 4 (Sort.ahead w n) g 0 d).heap[g]?:=Sort.heap_grow_old _ _ hg';have h2:(Sort.putRow id (Sort.ahead w n) g 0 (Sort.flatK encF 4 d)).cell? ⟨g,0+t,none⟩=some (id (Sort.flatK encF 4 d)[t]!):=Sort.cell?_putRow id (Sort.ahead w n) g 0 (Sort.flatK encF 4 L.toArray) (Sort.flatK encF 4 d) hH (by simp[hl]) t (by simp[hds];omega)
  rw[Nat.zero_add,Sort.get_flatK _ _ _ _ (by rw[hds];omega)] at h2
  have h3:(sortWorldK encF 4 w g 0 n d os).cell? ⟨g,t,none⟩=(Sort.putRow id (Sort.ahead w n) g 0 (Sort.flatK encF 4 d)).cell? ⟨g,t,none⟩:=by
   simp only[World.cell?]
   rw[h1]
   rfl
  rw[h3,h2]
  rfl
 refine⟨by simp only[sortWorldK,Sort.grow,Array.size_append];omega,fun i f hi=>?_⟩
 have hil:i<36:=by have:=(List.getElem?_eq_some_iff.1 hi).1;rwa [tbl_len] at this
 have hdi:d[i]! = f:=by
  rw[getElem!_pos d i (by omega)]
  rw[← hd] at hi
  simp only[Array.getElem?_toList] at hi;exact (Array.getElem?_eq_some_iff.1 hi).2
 have k:∀ j,j<4→(sortWorldK encF 4 w g 0 n d os).cell? ⟨g,i*4+j,none⟩=some ((encF f)[j]!):=fun j hj=>by
  have:=key (i*4+j) (by omega)
  rwa [show (i*4+j) / 4=i by omega,show (i*4+j) % 4=j by omega,hdi] at this
 exact⟨k 0 (by omega),k 1 (by omega),k 2 (by omega),k 3 (by omega)⟩

theorem grown_sorted {w:World}{g n:Nat}{os:Array Obj}(d:Array Fm):w.grownBy (sortWorldK encF 4 w g 0 n d os) (some g):=by
 refine⟨rfl,rfl,rfl,by simp[sortWorldK,Sort.grow,Sort.putRowK,Sort.putRow,Sort.mapBlock,Sort.ahead],fun k hk hne=>?_⟩
 unfold sortWorldK
 rw[Sort.heap_grow_old _ _ (by simpa [Sort.putRowK,Sort.putRow,Sort.mapBlock,Sort.ahead] using hk)]
 have:g≠k:=fun e=>hne (by rw[e])
 simp[Sort.putRowK,Sort.putRow,Sort.mapBlock,Sort.ahead,Array.getElem?_modify,this]

theorem holds_of {w:World}{g:Nat}{cur:Array Value}{e:TypeId}{L:List Fm}(hb:w.heap[g]?=some (.cells cur e (0,0)))(ht:cur.toList.take (L.length*4)=L.flatMap encF):Sort.HoldsK encF 4 w g 0 L.toArray:=by
 intro j hj;have hj':j<L.length*4:=by simpa using hj
 refine⟨?_,by simp[World.frozen?,hb]⟩
 have h1:(cur.toList.take (L.length*4))[j]?=(L.flatMap encF)[j]?:=by rw[ht]
 have hd:j / 4<L.length:=by omega
 rw[List.getElem?_take_of_lt hj',St.fm_get (m:=4) (by omega) encF_len,List.getElem?_eq_getElem hd,Option.bind_some] at h1
 have hm:j % 4<(encF L[j / 4]).length:=by rw[encF_len];omega
 rw[List.getElem?_eq_getElem hm] at h1
 rw[Sort.get_flatK _ _ _ _ (by simpa using hj')]
 simp only[World.cell?,hb,Nat.zero_add]
 rw[getElem!_pos L.toArray (j / 4) (by simpa using hd)]
 simp only[List.getElem_toArray,id]
 rw[getElem!_pos (encF L[j / 4]) (j % 4) hm]
 simpa using h1

theorem infoForm:(Tryz.prog.info? 151).map (fun i=>(i.zero,i.size,i.bytes))=some (some (.agg #[.int .i64 0,.int .i64 0,.int .i64 0,.string ⟨#[]⟩]),4,40):=by kernel_rfl
theorem cells_new (W:World)(xs:List Value)(T:TypeId):∀ j u,xs[j]?=some u→(W.alloc (.cells xs.toArray T)).cell? ((⟨W.heap.size,0,none⟩:Addr).add j)=some u:=by
 intro j u hj;have h:=heap_new W (.cells xs.toArray T);have hadd:(⟨W.heap.size,0,none⟩:Addr).add j=⟨W.heap.size,j,none⟩:=by unfold Addr.add;split <;> simp_all
 rw[hadd]
 simp only[World.cell?,h];simpa using hj

set_option maxHeartbeats 1000000 in
set_option maxRecDepth 100000 in
theorem iSorted (w:World):Calls Tryz.prog 108 #[] w fun e w'=>∃ g cap,e=.returned (.slice (some ⟨g,0,none⟩) 36 cap)∧RdF w' g∧Below w.heap.size w w':=by
 obtain⟨i0,hi0,hz0,hz1,hz2⟩:=info_parts infoForm
 have cF:=fun w=>iForms w
 go_enter Tryz.func108,Tryz.ntmps108
 go_wp2_with (first
  | (go_at_call 150;refine (cF _).mono ?_;rintro e w1 ⟨rfl,hM1,hB1,hs1⟩;have hM:=hM1.all;clear hM1)
  | (at_range;refine wpList_range_own _ rfl _ 202 rfl 9 151 keyS Tryz.underlying202 Rf w.heap.size 36 _ rfl hM ?_;intro w0 hrg0 hg0 hs0))
 go_frame
 clear cF hM;have hB0:=hB1.grown hg0 hB1.size (fun j hj=>by cases hj)
 go_loopw [1] (fun v wr=>∃ (left:Lit→Bool) (cnt:Nat) (L:List Fm),wr.ranges Tryz.prog 9 Rf w.heap.size w1.heap.size 36 (dR tbl.reverse) left cnt∧wr.ownsRow w1.heap.size 151 4 v L.length (L.flatMap encF)∧Came left L∧Below w.heap.size w wr∧w1.heap.size≤wr.heap.size)
  (fun _ wr=>wr.rangeLeft w.heap.size w1.heap.size)
 case atStart=>exact⟨_,_,[],hrg0,World.ownsRow_nil _ _ _ _,Came.start,hB0,by omega⟩
 case round =>
  clear hrg0 hg0 hs0 hB0
  obtain⟨left,cnt,L,hrg,hrow,hC,hnx,hsz⟩:=hrel
  go_wp2_with (at_next;refine wpList_next_ranges _ rfl _ rfl 9 keyS Rf encStr mkV (fun key kl hk=>by obtain⟨x,hx,_⟩:=Maps.keyOf_str Tryz.underlying9 hk;exact⟨x,hx⟩) Rf_inv w.heap.size w1.heap.size 36 _ _ _ rfl hrg ?_ ?_)
  ·intro _ hl0;have hp:=hC.perm hl0;have hL:L.length=36:=by rw[hp.length_eq,tbl_len]
   rcases hrow.2 with ⟨_,hn⟩|⟨g,cap,cur,rfl,hbase,hb,h1,h2,h3,h4⟩
   ·omega
   have hH:=holds_of hb h4;have hgl:g<wr.heap.size:=(Array.getElem?_eq_some_iff.1 hb).1;have hc:=iSortF g cap L wr hH hgl hC.len;have HL:Hid _:=hL;clear hL hb h1 h2 h3 h4 hrow hrg
   go_wp2_with (go_at_call 151;refine hc.mono ?_;rintro e w2 ⟨rfl,d',n,os,hpm,hsd,rfl⟩)
   go_ret;have hd:=perm_of hpm hsd hp
   refine⟨g,cap,by first|rfl|(rw[HL.out];rfl),rdF_sorted hH hgl (by simpa using hpm.1) hd,hnx.grown (grown_sorted d') hnx.size (fun j hj=>by cases hj;omega)⟩
  ·intro x c0 c1 c2 kl yd yp w2 cnt2 hkey hlk hv hat hrg2 hlt hg2 hs2 hen
   obtain⟨x',ex,rfl,_⟩:=Maps.keyOf_str Tryz.underlying9 hkey
   obtain rfl:x=x':=encStr_inj ex
   rw[Rf_mk] at hv
   cases hv;have hrow2:=hrow.kept hg2 (Or.inr (row_ne_iter hrow hrg).symm);have hC2:=hC.step hlk hat;have hln:=hC.len;have hnx2:=hnx.grown hg2 hnx.size (fun j hj=>by cases hj;omega);have hsz2:=Nat.le_trans hsz hg2.size;simp only[mkV,encStr] at hen;clear hs2 hg2 hC hkey ex hat hlk
   go_wp2_with (at_builtin;refine hold ?_)
   have hr3:=(hrow2.alloc (.cells (encF (c0,c1,c2,x)).toArray 151)).alloc (.cells (encF (c0,c1,c2,x)).toArray 151);have hq3:=(hrg2.alloc (.cells (encF (c0,c1,c2,x)).toArray 151)).alloc (.cells (encF (c0,c1,c2,x)).toArray 151);have hnew:=cells_new (w2.alloc (.cells (encF (c0,c1,c2,x)).toArray 151)) (encF (c0,c1,c2,x)) 151
   rw[World.size_alloc] at hnew
   have hsz3:w1.heap.size≤((w2.alloc (.cells (encF (c0,c1,c2,x)).toArray 151)).alloc (.cells (encF (c0,c1,c2,x)).toArray 151)).heap.size:=by simp;omega
   have hb3:Below w.heap.size w ((w2.alloc (.cells (encF (c0,c1,c2,x)).toArray 151)).alloc (.cells (encF (c0,c1,c2,x)).toArray 151)):=(hnx2.alloc hnx2.size _).alloc (by have:=hnx2.size;simp;omega) _;refine wpList_append_own _ rfl _ _ 145 rfl w1.heap.size 151 i0 _ 4 40 Tryz.underlying145 hi0 hz0 hz1 hz2 rfl (by decide) u1 L.length (L.flatMap encF) rfl hr3 ⟨w2.heap.size+1,0,none⟩ 1 1 (encF (c0,c1,c2,x)) rfl rfl hnew (by simp[encF,Value.oneCell']) (by unfold maxLen;omega) (by omega) hsz3 ?_;intro v' w3 hown' hg3 _;have hrg3:=hq3.kept hg3 (row_ne_low hr3 hs1) (row_ne_iter hr3 hq3);have hb4:=hb3.grown hg3 hb3.size (fun j hj=>by have:=(hr3.lt j hj).1;omega);have hsz4:=Nat.le_trans hsz3 hg3.size;have HN:Hid (w3.ranges Tryz.prog 9 Rf w.heap.size w1.heap.size 36 (dR tbl.reverse) (fun z=>left z&&!z.sameKey (.string x)) cnt2∧w3.ownsRow w1.heap.size 151 4 v' (L++[(c0,c1,c2,x)]).length ((L++[(c0,c1,c2,x)]).flatMap encF)∧Came (fun z=>left z&&!z.sameKey (.string x)) (L++[(c0,c1,c2,x)])∧Below w.heap.size w w3∧w1.heap.size≤w3.heap.size) :=
    ⟨hrg3,by simpa using hown',hC2,hb4,hsz4⟩
   have HR:Hid (w3.rangeLeft w.heap.size w1.heap.size<wr.rangeLeft w.heap.size w1.heap.size):=by show _<_;rw[hrg3.left_eq,hrg.left_eq];exact hlt
   clear hr3 hq3 hnew hsz3 hb3 hown' hg3 hrg3 hb4 hsz4 hC2 hrow hrow2 hrg hrg2 hnx2 hsz2 hnx hlt;go_wp2_with fail;go_roundw
   case rel=>exact⟨_,cnt2,_,HN.out⟩
   case measure=>exact HR.out

end Oc
namespace Mk
open Nd

def dig:Nat→Nat→ByteArray→ByteArray
 | 0,_,out=>out
 | f+1,k,out=>if k=0 then out else dig f (k / 10) ((⟨#[UInt8.ofNat (48+k % 10)]⟩:ByteArray)++out)
def markT (k:Nat):ByteArray:=(⟨#[109]⟩:ByteArray)++dig (k+1) k ⟨#[]⟩

theorem dig_step {f k:Nat}(hk:0<k)(out:ByteArray):dig (f+1) k out=dig f (k / 10) ((⟨#[UInt8.ofNat (48+k % 10)]⟩:ByteArray)++out):=by
 rw[dig,if_neg (by omega)]
theorem dig_zero (f:Nat)(out:ByteArray):dig f 0 out=out:=by cases f <;> simp[dig]

theorem byte_new (w:World)(c:UInt8)(x:Int)(hx:x=c.toNat):
  (convert 96 9 (.slice (some ⟨w.heap.size,0,none⟩) 1 1)).run Tryz.prog (w.alloc (.cells #[.int .u8 x] 5))=.ok (.string ⟨#[c]⟩) (w.alloc (.cells #[.int .u8 x] 5)):=by
 subst hx
 have:=run_convert_bytes_back (P:=Tryz.prog) (w.alloc (.cells #[.int .u8 (c.toNat:Int)] 5)) 96 9 5 ⟨w.heap.size,0,none⟩ 1 [c] Tryz.underlying96 Tryz.underlying5 Tryz.underlying9 (by
  intro j hj;have h0:j=0:=by simpa using hj
  subst h0;simp[Addr.add])
 exact this

set_option maxRecDepth 100000 in
theorem lMarkText (k:Nat)(h1:1≤k)(h2:k≤40000000)(w:World):
  Calls Tryz.prog 28 #[.int .i64 k] w fun e w'=>e=.returned (.string (markT k))∧Below w.heap.size w w':=by
 obtain⟨R,hR⟩:∃ R,R=dig (k+1) k ⟨#[]⟩:=⟨_,rfl⟩
 have HR:Hid (dig (k+1) k ⟨#[]⟩=R):=hR.symm;have hm:markT k=(⟨#[109]⟩:ByteArray)++R:=by rw[hR];rfl
 rw[hm]
 clear hR hm;have k1:(1:Int)≤k:=by omega
 have k2:(k:Int)≤40000000:=by omega
 go_enter Tryz.func28,Tryz.ntmps28
 go_wp2_with fail
 go_loopw [0,3] (fun kv ov wr=>∃ (n f:Nat) (out:ByteArray),kv=.int .i64 n∧ov=.string out∧n<f∧n+out.size≤40000000∧dig f n out=R∧Below w.heap.size w wr) (fun kv _ _=>(intOf kv).toNat)
 case atStart=>exact⟨k,k+1,⟨#[]⟩,rfl,rfl,by omega,by show k+0≤40000000;omega,HR.out,Below.refl _ _⟩
 case round =>
  obtain⟨n,f,out,rfl,rfl,hf,hn,hd,hb⟩:=hrel
  have HF:Hid _:=And.intro hf hn;have o2:(out.size:Int)≤40000000:=by omega
  clear k1 k2 h1 h2 HR hn
  by_cases hz:n=0
  ·subst hz
   rw[dig_zero] at hd
   subst hd;clear hf HF;go_wp2_with fail;go_ret
   exact⟨rfl,hb⟩
  ·obtain⟨f,rfl⟩:∃ g,f=g+1:=⟨f - 1,by omega⟩
   rw[dig_step (by omega)] at hd
   have HD:Hid _:=hd;have HF:=HF;clear hd hf;have n1:(0:Int)<n:=by omega
   have n2:(n:Int)≤40000000:=by have:=HF.out.2;omega
   clear hz
   obtain⟨c,hc⟩:∃ c,c=UInt8.ofNat (48+n % 10):=⟨_,rfl⟩
   have hcv:=byte_new wr c (48+(n:Int) % 10) (by rw[hc];simp;omega)
   rw[← hc] at HD
   clear hc;go_wp2_with fail;go_roundw
   case rel =>
    have h1:=HF.out.1;have h2:=HF.out.2
    refine⟨n / 10,f,_,by simp,rfl,by omega,?_,HD.out,hb.alloc hb.size _⟩
    rw[ByteArray.size_append]
    show n / 10+(1+out.size)≤40000000;omega
   case measure=>simp[intOf];omega

theorem frozen_of_row {w:World}{q:Nat}{cs:Array Value}{t:TypeId}(h:w.heap[q]?=some (.cells cs t (0,0)))(k:Nat):w.frozen? ⟨q,k,none⟩=false:=by simp[World.frozen?,h]
theorem owns_set {w:World}{B e size n cap g:Nat}{xs:List Value}(h:w.ownsRow B e size (.slice (some ⟨g,0,none⟩) n cap) n xs)(i:Nat)(x:Value):(w.setCell ⟨g,i,none⟩ x).ownsRow B e size (.slice (some ⟨g,0,none⟩) n cap) n (xs.set i x):=by
 refine⟨by simpa using h.1,.inr ?_⟩
 rcases h.2 with ⟨hv,_⟩|⟨g',cap',cur,hv,hB,hg,h1,h2,h3,h4⟩
 ·simp at hv
 ·simp only[Value.slice.injEq,Option.some.injEq,Addr.mk.injEq] at hv
  obtain⟨⟨rfl,_,_⟩,_,rfl⟩:=hv
  refine⟨g,cap,cur.set! i x,rfl,hB,?_,h1,h2,by simpa using h3,?_⟩
  ·simp[World.setCell,Array.getElem?_modify,hg]
  ·rw[← h4]
   simp[Array.set!_eq_setIfInBounds,List.take_set]
theorem row_block {w:World}{B e size n cap g:Nat}{xs:List Value}(h:w.ownsRow B e size (.slice (some ⟨g,0,none⟩) n cap) n xs):∃ cs,w.heap[g]?=some (.cells cs e (0,0)):=by
 rcases h.2 with ⟨h,_⟩|⟨g',cap',cur,h,_,h2,_⟩
 ·simp at h
 ·simp only[Value.slice.injEq,Option.some.injEq,Addr.mk.injEq] at h
  obtain⟨⟨rfl,_,_⟩,_⟩:=h
  exact⟨cur,h2⟩
theorem set_far (w:World)(g:Nat)(x:Value){i j:Nat}(h:j≠i):(w.setCell ⟨g,i,none⟩ x).cell? ⟨g,j,none⟩=w.cell? ⟨g,j,none⟩:=World.cell?_setCell_other _ _ _ _ (by simp <;> omega)
structure Turned (S:Nat→Prop)(v:Value)(w w':World):Prop where
 os:w'.os=w.os
 tape:w'.tape=w.tape
 output:w'.output=w.output
 size:w.heap.size≤w'.heap.size
 block:∀ j,j<w.heap.size→¬ S j→v.ownBlock≠some j→w'.heap[j]?=w.heap[j]?
theorem Turned.refl (S:Nat→Prop)(v:Value)(w:World):Turned S v w w:=⟨rfl,rfl,rfl,Nat.le_refl _,fun _ _ _ _=>rfl⟩

end Mk
end Go.Proofs.YtllbachngocmnaaGreatDoor
