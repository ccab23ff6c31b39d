/-
 Proved: at every list of rules FnExactCompile (Compile answers as the specification's, writes into no argument, keeps nothing) returns true and the list reads as it did, the listed variables holding what the program's own text lays (the card ties it).
-/
import Derived.Test.YtllbachngocmnaaGreatDoorRows
import Derived.Test.YtllbachngocmnaaGreatDoorP53
import Derived.Test.YtllbachngocmnaaGreatDoorTie
import Derived.Test.YtllbachngocmnaaGreatDoorCards
import Derived.LaidMore
import Derived.Stop.LaidErr
import Derived.OpenVars
import Derived.Lib.LaidTab
namespace Go.Proofs.YtllbachngocmnaaGreatDoor
open Go.ChangeShapes Go.WideShapes Go.ChangeAt Go.RowKit
set_option linter.unusedVariables false
theorem own:ownKnob Tryz.prog.godebug=none:=by kernel_rfl
theorem gErr:Tryz.prog.globalNamed "loop.example/g00289/impl.errNotRight" = some 4:=by kernel_rfl
theorem tErr:(Tryz.prog.globals[4]?).map (·.type)=some 85:=by kernel_rfl
theorem gPat:Tryz.prog.globalNamed "loop.example/g00289/impl.errNoPattern" = some 2:=by kernel_rfl
theorem tPat:(Tryz.prog.globals[2]?).map (·.type)=some 85:=by kernel_rfl
theorem gTy:Tryz.prog.globalNamed "errors.errorType" = some 0:=by kernel_rfl
theorem rtTy:(Tryz.prog.cutTypes.find? (·.1 == "internal/reflectlite.rtype")).map (·.2)=some 175:=by kernel_rfl
theorem sizeTy:Tryz.prog.types.size=318:=by kernel_rfl
theorem oneTy:((List.range 318).filter fun t=>Tryz.prog.rowNamed t [101,114,114,111,114])=[85]:=by kernel_rfl
theorem cellsEs:Tryz.prog.cellsOf 306=1:=by kernel_rfl
theorem cellsStr:Tryz.prog.cellsOf 9=1:=by kernel_rfl
theorem star : "*" ++ "errors.errorString" = "*errors.errorString" := by decide
theorem rowEs (u:TypeId)(h:Tryz.prog.typeName? 3 u=some "*errors.errorString"):u=286 :=
 typeName_ptr_named (nm := "errors.errorString") (by rw[star];kernel_rfl) (by kernel_rfl) (by decide) u (by rw[star];exact h)
theorem gFull:Tryz.prog.globalNamed "loop.example/g00289/impl.errFull" = some 1:=by kernel_rfl
theorem tFull:(Tryz.prog.globals[1]?).map (·.type)=some 85:=by kernel_rfl
theorem gTab:Tryz.prog.globalNamed "loop.example/g00289/impl.plainCodes" = some 3:=by kernel_rfl
theorem tTab:(Tryz.prog.globals[3]?).map (·.type)=some 223:=by kernel_rfl
theorem cTab:Tryz.prog.cellsOf 223=36:=by kernel_rfl
theorem cInt:Tryz.prog.cellsOf 3=1:=by kernel_rfl
def plainTab:List Int:=[0,0,0,0,0,0,9,10,11,12,13,14,15,16,17,18,19,20,21,22,23,0,26,27,0,0,0,0,0,0,0,0,0,36,0,32]
theorem tab_data:(Rows.laid_loop_example_g00289_impl_plainCodes:DataW Unit)=Lib.tabData .i64 plainTab:=by kernel_rfl
theorem tab_get:∀ op:Nat,(op=6∨op=7∨op=8∨(9≤op∧op≤20)∨op=22∨op=23∨op=33∨op=35)→plainTab[op]?=some (Cm.plainC op):=by
 intro op h;have hop:op<36:=by omega
 have hall:∀ k:Fin 36,(k.1=6∨k.1=7∨k.1=8∨(9≤k.1∧k.1≤20)∨k.1=22∨k.1=23∨k.1=33∨k.1=35)→plainTab[k.1]?=some (Cm.plainC k.1):=by decide
 exact hall ⟨op,hop⟩ h
def laidC:List (String × DataW Unit):=[("errors.errorType",Rows.laid_errors_errorType),("loop.example/g00289/impl.errNotRight",Rows.laid_loop_example_g00289_impl_errNotRight),("loop.example/g00289/impl.errNoPattern",Rows.laid_loop_example_g00289_impl_errNoPattern),("loop.example/g00289/impl.errFull",Rows.laid_loop_example_g00289_impl_errFull),("loop.example/g00289/impl.plainCodes",Rows.laid_loop_example_g00289_impl_plainCodes)]
def laidS:List (String × DataW Unit):=[("loop.example/g00289/impl.errNotRight",Rows.laid_loop_example_g00289_impl_errNotRight),("loop.example/g00289/impl.errNoPattern",Rows.laid_loop_example_g00289_impl_errNoPattern),("loop.example/g00289/impl.errFull",Rows.laid_loop_example_g00289_impl_errFull),("loop.example/g00289/impl.plainCodes",Rows.laid_loop_example_g00289_impl_plainCodes)]
theorem door_met (os:Os)(args:Array Value):laidMetH Tryz.prog laidC ((World.doorLaid Tryz.prog 78 os).forCall (fun _ _=>0) ⟨#[],args,[]⟩).memory :=
 laidMetH_of_parts3 (fuel:=8) (laidMet_of_run' 8 (by kernel_rfl) (by kernel_rfl)) (by kernel_rfl) (by kernel_rfl)
theorem of_laidC {W:World}(h:laidMetH Tryz.prog laidC W):∃ a b ad,Cm.Env W a b ad:=by
 have h':laidMet Tryz.prog laidS W∧handlesMet Tryz.prog [("errors.errorType",Rows.laid_errors_errorType)] W:=h
 obtain⟨a,s,hv,_⟩:=laid_sentinel h'.1 gErr tErr Tryz.underlying85 rowEs Tryz.underlying286 Tryz.underlying306 rfl rfl Tryz.underlying9 cellsEs cellsStr
 obtain⟨b,s2,hv2,_⟩:=laid_sentinel h'.1.tail gPat tPat Tryz.underlying85 rowEs Tryz.underlying286 Tryz.underlying306 rfl rfl Tryz.underlying9 cellsEs cellsStr
 obtain⟨ad,s3,hv3,_⟩:=laid_sentinel h'.1.tail.tail gFull tFull Tryz.underlying85 rowEs Tryz.underlying286 Tryz.underlying306 rfl rfl Tryz.underlying9 cellsEs cellsStr
 have h4:=h'.1.tail.tail.tail
 rw[tab_data] at h4
 have ht:=Lib.tabIs_of_head gTab tTab Tryz.underlying223 Tryz.underlying3 cInt cTab h4
 refine⟨a,b,ad,⟨by simpa using World.var?_cell gErr hv 0,by simpa using World.var?_cell gPat hv2 0⟩,?_,by unfold Cm.errV;simpa using World.var?_cell gFull hv3 0,fun op h=>by
  rw[World.var?_cell gTab ht op]
  simp[tab_get op h]⟩
 obtain⟨name,u,ty,e1,e2,e3,e4,e5⟩:=h'.2 _ (List.mem_cons_self ..)
 have en:name=[101,114,114,111,114]:=(Option.some.inj e1).symm;subst en;obtain rfl:=Option.some.inj (rtTy.symm.trans e2);have hm:ty∈(List.range 318).filter fun t=>Tryz.prog.rowNamed t [101,114,114,111,114]:=List.mem_filter.2 ⟨List.mem_range.2 (by rw[← sizeTy];exact e3),e4⟩
 rw[oneTy] at hm
 obtain rfl:=List.mem_singleton.1 hm;have hh:typeHandle Tryz.prog 85=.pointer (some ⟨6,85,none⟩):=by kernel_rfl
 rw[hh] at e5
 exact (by simpa using World.var?_cell gTy e5 0:W.cell? ⟨0,0,none⟩=_)
theorem vars_len {H:Type}{enc:TypeId × Value→H}{W:World}:∀ {ns:List String} {gs:List (DataW H)} {q:List MemPlace},DataW.TrodVars enc Tryz.prog W (fun _=>true) ns gs q→gs.length=ns.length
 | [],[],_,_=>rfl
 | [],_::_,_,h=>h.elim
 | _::_,[],_,h=>h.elim
 | n::ns,g::gs,q,h=>by
  obtain⟨_,_,_,_,_,_,_,_,_,_,h2,_⟩:=h
  simp[vars_len h2]
theorem four_vars {H:Type}{enc:TypeId × Value→H}{W:World}{gs:List (DataW H)}{q:List MemPlace}{n0 n1 n2 n3:String}(h:DataW.TrodVars enc Tryz.prog W (fun _=>true) [n0,n1,n2,n3] gs q):∃ g1 g2 g3 g4,gs=[g1,g2,g3,g4]:=by
 have hl:=vars_len h
 match gs,hl with
 | [g1,g2,g3,g4],_=>exact⟨g1,g2,g3,g4,rfl⟩
set_option maxRecDepth 100000 in
theorem fnExactCompile_lifted (os:Os)(started:os.Started)(H:Type)(enc:TypeId × Value→H):
  ReturnsInHanded {} Tryz.checked os 3 .any (fun w args=>(Rows.fnExactCompileSpec.pre enc Tryz.prog Tryz.f3 [] false w args∧laidMetH Tryz.prog laidC w)∧sizedMet enc Tryz.prog Tryz.f3 (OpenSpec.ofChange Rows.fnExactCompileSpec) false w args)
   (Rows.fnExactCompileSpec.post enc Tryz.prog Tryz.f3 false true false false):=by
 refine returnsInHanded_of_change_and (C:=Tryz.checked) (X:=fun w _=>laidMetH Tryz.prog laidC w) (fun _ _ _ hh h=>h.of_heap hh) own started (by kernel_rfl) Tryz.func3
  (ChangeSpec.witness_shaped (enc:=enc) (C:=Tryz.checked) (os:=os) (X:=fun w _=>laidMetH Tryz.prog laidC w) false (World.doorLaid Tryz.prog 78 os) #[.slice none 0 0] 8 rfl (World.shaped_of_RefB (by kernel_rfl) (by kernel_rfl)) (by kernel_rfl) (by kernel_rfl) (by kernel_rfl) (door_met os _)) ?_
 intro W base args ds gs before hval0 hW _ _ hL _;have hval:∀ (j:Nat) t v,Tryz.f3.params[j]?=some t→args[j]?=some v→Value.okWide Tryz.prog W .any base t v:=hval0;have hW':=hW
 obtain⟨p,q,hA0,hV0,rfl,hfz,hnd⟩:=hW
 have hA:DataW.TrodAll enc Tryz.prog W 0 (fun _=>true) true Tryz.f3.params.toList args.toList ds p:=hA0;have hV:DataW.TrodVars enc Tryz.prog W (fun _=>true) ["loop.example/g00289/impl.errNotRight", "loop.example/g00289/impl.errNoPattern", "loop.example/g00289/impl.errFull", "loop.example/g00289/impl.plainCodes"] gs q:=hV0
 rw[Tryz.params3] at hA hval
 obtain⟨v0,vs0,d0,ds0,p0,q0,hargs,rfl,rfl,h0,r0⟩:=trodAll_cons hA
 obtain⟨rfl,rfl,rfl⟩:=trodAll_nil r0
 obtain rfl:args=#[v0]:=by cases args;simp_all
 obtain⟨a0,len0,cap0,rfl⟩:=okWide_slice Tryz.underlying22 (hval 0 22 v0 rfl rfl)
 have k0:=h0;have lt0:∀ x∈p0,x.block<W.heap.size:=by obtain⟨m,hm⟩:=k0;exact DataW.trod_lt m _ _ _ hm
 obtain⟨rs,hl,hm,hR⟩:∃ rs:List Ty.Ru,rs.length=len0∧rs.length≤maxLen∧Ty.RArgs W rs a0 0:=by
  obtain⟨fuel,hf⟩:=h0
  exact Ty.rules_of hf
 subst hl
 obtain⟨ea,eb,ead,hEnv⟩:=of_laidC hL
 obtain⟨g1,g2,g3,g4,rfl⟩:=four_vars hV
 clear hA0 hV0 hval0;refine (Cm.lawCompile (cap:=cap0) hEnv hm hR).mono fun e W' ⟨he,bel⟩=>?_;subst he
 exact⟨_,rfl,_,_,_,[],_,q,hW',trodAll_mk1 (shut_bool Tryz.underlying4 _),(trodAll_cons_mk (Below.trod Ty.laidOut (by kernel_rfl) (of_decide_eq_true (by kernel_rfl)) k0 bel lt0) trodAll_mk0),Below.trodVars Ty.laidOut bel (by kernel_rfl) hV,bel.frame _,fun h=>by cases h⟩
theorem fnExactCompile_row:Rows.FnExactCompileSaid :=
 OpenClaim.holds_of_wide 3 Tryz.f3 rfl rfl rfl rfl rfl rfl rfl ⟨rfl,rfl,rfl,rfl,rfl⟩ rfl rfl rfl rfl rfl (by kernel_rfl) Tryz.func3 (by kernel_rfl)
  (of_decide_eq_true (by kernel_rfl)) (by unfold Func.isWrapper;first|(rw[if_pos (by decide +kernel)];kernel_rfl)|(rw[if_neg (by decide +kernel)];exact⟨rfl,rfl⟩))
  (fun os started H enc _=>fnExactCompile_lifted os started H enc)
theorem fnExactCompile_card:Rows.FnExactCompileCardSaid :=
 Claim7.holds_tied_plain_at .later [] [.handle,.sentinel,.sentinel,.sentinel,.data] true (true, "c4e68cc8fc18a1b106a17f5487028c75603458cc43ba047e819f780b62c21a87") true
  fnExactCompile_row (fun _ h=>by cases h) (by kernel_rfl) (fun _ h=>by cases h) fnExactCompile_row_tie rfl ⟨rfl,rfl⟩ (by kernel_rfl) rfl
  (fun f fn hf hfn=>by
   obtain rfl:f=3:=Option.some.inj ((show Tryz.prog.funcNamed "loop.example/g00289/laws.FnExactCompile" = some 3 by kernel_rfl).symm.trans hf) |>.symm;obtain rfl:fn=Tryz.f3:=(Option.some.inj (Tryz.func3.symm.trans hfn)).symm
   exact⟨by kernel_rfl,fun j t ht=>by
    rw[Tryz.params3] at ht
    have hm:t∈[22]:=by simpa using Array.mem_of_getElem? ht
    have hall:([22].all fun u=>!Tryz.prog.wantsStandIn u)=true:=by kernel_rfl
    exact (show Tryz.prog.wantsStandIn t=false by simpa using List.all_eq_true.1 hall t hm)⟩)
  (by kernel_rfl)
#print axioms fnExactCompile_card
end Go.Proofs.YtllbachngocmnaaGreatDoor
