/-
  Whole patterns of chapter 3: parts, whole.
-/
import Derived.Test.YtllbachngocmnaaGreatDoorP33
import Derived.Deep.CutRange
import Derived.Deep.RegionLaw
import Derived.Deep.CutBlock
import Derived.Deep.DeepCutAuto
import Derived.Deep.LoopGhost
namespace Go.Proofs.YtllbachngocmnaaGreatDoor
open Go.RowKit
namespace Rx

theorem patLoop_step (g:Nat→Nat)(N:Nat)(A:Nat→Option (Data × Nat))(f i:Nat)(ts:List Data):patLoop g N A (f+1) i ts=if g i=124 then (match partAt g N A (i+1) with
   | none=>none
   | some (t,j)=>patLoop g N A f j (ts++[t])) else some (ts,i):=rfl

theorem pats_single {w1:World}{B:Nat}{t:Data}{v:Value}(hv:PatIs w1 t (Iv B w1.heap.size) v)(hB:B≤w1.heap.size):Pats (w1.alloc (.cells #[v] 167)) B [t] (.slice (some ⟨w1.heap.size,0,none⟩) 1 1):=by
 refine⟨[v],Iv B w1.heap.size,⟨rfl,.inr ⟨w1.heap.size,1,#[v],rfl,hB,heap_alloc_last w1 _,Nat.le_refl _,by decide,rfl,rfl⟩⟩,?_,?_⟩
 ·simp only[PatsIs]
  exact⟨v,[],rfl,pat_frame (fun k hk=>Below.heap_alloc _ _ _ hk.2) (fun _ h=>h) t v hv,rfl⟩
 ·intro k hk
  have:=hk.2
  exact⟨hk.1,by simp;omega,by simp[Value.ownBlock];omega⟩

theorem iParts {p:Nat}{s:ByteArray}{a:Addr}{m:Nat}{A:Nat→Option (Data × Nat)}(hs:s.size≤1000)(hin:∀ i t j,partAt (gOf s) s.size A i=some (t,j)→i≤j∧(i≤s.size→j≤s.size))
  (hA:Parses 181 p s a m (partAt (gOf s) s.size A)):Parses 165 p s a m (patAt (gOf s) s.size A):=by
 intro i w h hi hm
 obtain⟨R,hR⟩:∃ R,R=patAt (gOf s) s.size A i:=⟨_,rfl⟩
 rw[← hR]
 unfold patAt at hR;have hpw:=h.lt;have hew:=h.elt;rcases hq:partAt (gOf s) s.size A i with _|⟨t0,j0⟩
 ·rw[hq] at hR
  have HR:Hid _:=hR;clear hR
  go_enter Tryz.func165,Tryz.ntmps165
  go_wp2_with (go_at_call 181;refine (hA i w h hi hm).mono ?_;intro e w1 h1;obtain⟨rfl,hg1⟩:=reads_none h1 hq)
  refine⟨rfl,?_⟩
  rw[HR.out]
  exact⟨rfl,hg1⟩
 rw[hq] at hR
 obtain⟨j1,j2⟩:=hin i t0 j0 hq
 have j2:=j2 hi
 obtain⟨RS,hRS⟩:∃ RS,patLoop (gOf s) s.size A (s.size+1) j0 [t0]=RS:=⟨_,rfl⟩
 have HL:Hid _:=hRS;have HR:Hid (R=patEnd RS):=by show _=_;rw[hR,← hRS]
 clear hR hRS
 obtain⟨i0,hi0,hz0,hz1,hz2⟩:=info_parts Tryz.info167r
 go_enter Tryz.func165,Tryz.ntmps165
 go_wp2_with (go_at_call 181;refine (hA i w h hi hm).mono ?_;intro e w1 h1;obtain⟨v0,rfl,hv0,h2,hg1⟩:=reads_some h1 hq;obtain⟨T0,x0,rfl⟩:=pat_iface hv0)
 have hP0:=pats_single hv0 hg1.size;have hr0:Rd p s a j0 (w1.alloc (.cells #[.iface T0 x0] 167)):=h2.grown (World.grownBy_alloc _ _ none) (by simp) (by simp)
 go_loopw [3] (fun v wr=>∃ k ts f,Rd p s a k wr∧m≤k∧k≤s.size∧1≤ts.length∧ts.length≤k+1∧Pats wr w.heap.size ts v∧s.size<f+k∧patLoop (gOf s) s.size A f k ts=RS∧w.grownBy wr (some p)) (fun _ wr=>s.size - posOf p wr)
 case atStart=>exact⟨j0,[t0],s.size+1,hr0,by omega,j2,by simp,by simp,hP0,by omega,HL.out,hg1.trans (World.grownBy_alloc _ _ _)⟩
 case round =>
  clear h HL hi hm hP0 hr0 h1 hv0 h2 hg1
  obtain⟨k,ts,f,hr,hmk,hk,hlen1,hlen,hPs,hf,hR,hg⟩:=hrel
  obtain⟨f,rfl⟩:∃ f',f=f'+1:=⟨f - 1,by omega⟩
  rw[patLoop_step] at hR
  have HP:Hid (posOf p wr=k):=posOf_is hr
  by_cases hor:gOf s k=124
  ·rw[if_pos hor] at hR
   have hkl:=in_of (s:=s) (i:=k) (by omega);have e1:decide (gOf s k=124)=true:=decide_eq_true hor;rcases hq2:partAt (gOf s) s.size A (k+1) with _|⟨t,j⟩
   ·rw[hq2] at hR
    have HR2:Hid (R=none):=by show _=_;rw[HR.out,← hR];rfl
    clear hR HR hPs
    go_wp2_with (first|(go_at_call 182;refine (iTakeIfC hr hk hs 124 124 (by omega) (by omega)).mono ?_;rintro e wa ⟨rfl,ha,ga⟩;rw[if_pos hor] at ha)|(go_at_call 181;refine (hA (k+1) _ ha (by omega) (by omega)).mono ?_;intro e w2 h1;obtain⟨rfl,hg1⟩:=reads_none h1 hq2))
    refine⟨rfl,?_⟩
    rw[HR2.out]
    exact⟨rfl,(hg.trans ga).trans hg1⟩
   ·rw[hq2] at hR
    have HR2:Hid _:=hR
    obtain⟨k1,k2⟩:=hin (k+1) t j hq2
    have k2:=k2 hkl
    obtain⟨xs,S,hown,hps,hS⟩:=hPs
    have hsz:=hg.size;have hl1:(ts.length:Int)≤1001:=by omega
    clear hR HR hlen1
    go_wp2_with (first|(go_at_call 182;refine (iTakeIfC hr hk hs 124 124 (by omega) (by omega)).mono ?_;rintro e wa ⟨rfl,ha,ga⟩;rw[if_pos hor] at ha)|(go_at_call 181;refine (hA (k+1) _ ha (by omega) (by omega)).mono ?_;intro e w2 h1;obtain⟨v1,rfl,hv1,h2,hg1⟩:=reads_some h1 hq2;obtain⟨T1,x1,rfl⟩:=pat_iface hv1;have hown1:=owns_grown hown (ga.trans hg1) hpw;have hsz1:=(ga.trans hg1).size)|(at_builtin;refine wpList_append_own_at _ rfl _ _ 229 rfl w.heap.size 167 i0 .nilIface 1 16 Tryz.underlying229 hi0 hz0 hz1 hz2 rfl (by decide) _ _ _ rfl (hown1.alloc _) ⟨w2.heap.size,0,none⟩ 1 1 [.iface T1 x1] rfl rfl (cell_one_new _ _ _) (by simp[Value.oneCell']) (by unfold maxLen;omega) (by omega) (by simp;omega) ?_;intro v' w3 hown3 hgr3 _ hb3))
    have hg1':=ga.trans hg1;have hown0:∀ b,(Value.ownBlock u3)=some b→w.heap.size≤b:=fun b hb=>(hown.lt b hb).1;have hr3:Rd p s a j w3:=(h2.grown (World.grownBy_alloc _ _ none) (by simp) (by simp)).grown hgr3 (fun e=>by have:=hown0 _ e;omega) (fun e=>by have:=hown0 _ e;omega);have hv1':PatIs w2 t (Iv wr.heap.size w2.heap.size) (.iface T1 x1):=pat_frame (fun _ _=>rfl) (fun b hb=>⟨Nat.le_trans ga.size hb.1,hb.2⟩) t _ hv1;go_roundw
    case rel=>exact⟨j,ts++[t],f,hr3,by omega,k2,by simp,by simp;omega,pats_append hown hps hS hsz hpw hg1' hv1' hown3 hgr3 hb3,by omega,HR2.out,grown_own (hg.trans (hg1'.trans (World.grownBy_alloc _ _ _))) hgr3 hown0⟩
    case measure=>rw[HP.out,posOf_is hr3];omega
  ·rw[if_neg hor] at hR
   have HR2:Hid (R=some (orOf ts,k)):=by show _=_;rw[HR.out,← hR];rfl
   have e1:decide (gOf s k=124)=false:=decide_eq_false hor;clear hR HR;rcases ts with _|⟨t1,_|⟨t2,ts⟩⟩
   ·simp at hlen1
   ·obtain⟨ao,cap,rfl⟩:=pats_len' hPs
    obtain⟨x,b,hx,hb,hc⟩:=pats_head hPs
    have hao:=ao_of hPs hb;subst hao;have hbb:w.heap.size≤b:=by
     obtain⟨xs,S,hown,_⟩:=hPs
     exact (hown.lt b hb).1
    clear hPs hlen1 hlen
    go_wp2_with (go_at_call 182;refine (iTakeIfC hr hk hs 124 124 (by omega) (by omega)).mono ?_;rintro e wa ⟨rfl,ha,ga⟩;rw[if_neg hor] at ha;have hc2:=ga.cell hc (by simp;omega))
    go_ret
    rw[HR2.out]
    exact⟨_,rfl,pat_grown hx ga hpw (Nat.le_refl _) (Nat.le_refl _) ga.size,ha,hg.trans ga⟩
   ·obtain⟨ao,cap,rfl⟩:=pats_len' hPs
    have hx:=(pats_pat hPs).2
    obtain⟨n,hn⟩:∃ n,n=(t1::t2::ts).length:=⟨_,rfl⟩
    rw[← hn] at hx ⊢
    have n1:((n:Int)==1)=false:=by rw[hn];simp;omega
    clear hn hlen hlen1 hPs
    go_wp2_with (go_at_call 182;refine (iTakeIfC hr hk hs 124 124 (by omega) (by omega)).mono ?_;rintro e wa ⟨rfl,ha,ga⟩;rw[if_neg hor] at ha)
    go_ret
    rw[HR2.out]
    exact⟨_,rfl,pat_grown hx ga hpw (Nat.le_refl _) (Nat.le_refl _) ga.size,ha,hg.trans ga⟩

theorem iPat {p:Nat}{s:ByteArray}{a:Addr}(hs:s.size≤1000):∀ n,Parses 165 p s a (s.size+1 - n) (patN (gOf s) s.size n):=by
 intro n
 induction n with
 | zero=>intro i w _ hi hm;omega
 | succ n ih =>
  have hAn:=atomN_in (g:=gOf s) (N:=s.size) gOf_end (n+1);have hpn:=fun i t j (h:patN (gOf s) s.size n i=some (t,j))=>patN_in (g:=gOf s) gOf_end h;have h1:Parses 224 p s a (s.size+1 - (n+1)) (atomN (gOf s) s.size (n+1)):=by
   refine iAtom hs hpn ?_;intro i w h hi hm;exact ih i w h hi (by omega)
  have h2:=iPiece hs hAn h1;have h3:=iPart hs (fun i t j h=>pieceAt_in gOf_end hAn h) h2;exact iParts hs (fun i t j h=>partAt_in gOf_end hAn h) h3

def endOf (s:ByteArray)(r:Option (Data × Nat)):Option (Data × Nat):=match r with
 | none=>none
 | some (t,j)=>if j=s.size then some (t,j) else none

theorem iWhole {p:Nat}{s:ByteArray}{a:Addr}{w:World}(hs:s.size≤1000)(h:Rd p s a 0 w)(n:Nat)(hn:s.size<n):
  Calls Tryz.prog 128 #[.pointer (some ⟨p,0,none⟩)] w fun e w'=>Reads p s a w (endOf s (patN (gOf s) s.size n 0)) e w':=by
 obtain⟨R,hR⟩:∃ R,R=endOf s (patN (gOf s) s.size n 0):=⟨_,rfl⟩
 rw[← hR]
 unfold endOf at hR;rcases hq:patN (gOf s) s.size n 0 with _|⟨t,j⟩
 ·rw[hq] at hR
  have HR:Hid _:=hR;clear hR
  go_enter Tryz.func128,Tryz.ntmps128
  go_wp2_with (go_at_call 165;refine (iPat hs n 0 w h (by omega) (by omega)).mono ?_;intro e w1 h1;obtain⟨rfl,hg1⟩:=reads_none h1 hq)
  refine⟨rfl,?_⟩
  rw[HR.out]
  exact⟨rfl,hg1⟩
 ·rw[hq] at hR
  have hj:=(patN_in (g:=gOf s) gOf_end hq).2 (by omega)
  by_cases he:j=s.size
  ·have HR:Hid (R=some (t,j)):=by show _=_;rw[hR];simp[he]
   have e1:decide (gOf s j=256)=true:=decide_eq_true (gOf_out (by omega));clear hR he
   go_enter Tryz.func128,Tryz.ntmps128
   go_wp2_with (first|(go_at_call 165;refine (iPat hs n 0 w h (by omega) (by omega)).mono ?_;intro e w1 h1;obtain⟨v,rfl,hv,h2,hg1⟩:=reads_some h1 hq)|(go_at_call 166;refine (iAtEnd h2 hj).mono ?_;rintro e wa ⟨rfl,na,rfl⟩))
   go_ret
   rw[HR.out]
   exact⟨_,rfl,pat_same hv rfl,h2.drewN _,grown_drewN hg1 _⟩
  ·have HR:Hid (R=none):=by show _=_;rw[hR];simp[he]
   have e1:decide (gOf s j=256)=false:=decide_eq_false (by have:=gOf_lt (s:=s) (i:=j) (by omega);omega);clear hR
   go_enter Tryz.func128,Tryz.ntmps128
   go_wp2_with (first|(go_at_call 165;refine (iPat hs n 0 w h (by omega) (by omega)).mono ?_;intro e w1 h1;obtain⟨v,rfl,hv,h2,hg1⟩:=reads_some h1 hq;have c2:=h2.err)|(go_at_call 166;refine (iAtEnd h2 hj).mono ?_;rintro e wa ⟨rfl,na,rfl⟩))
   refine⟨rfl,?_⟩
   rw[HR.out]
   exact⟨rfl,grown_drewN hg1 _⟩

end Rx
namespace Rx

theorem hit_inRow (x:Value)(w:World):(Instr.typeAssert (.iface 230 x) 167 230 true).run Tryz.prog w=.ok (.tuple #[x,.bool true]) w:=by
 simp[Instr.typeAssert,run_underlying Tryz.underlying230,go_sem,Result.andThen]
theorem miss_inRow (t:Nat)(ht:t≠230)(x:Value)(w:World):(Instr.typeAssert (.iface t x) 167 230 true).run Tryz.prog w=.ok (.tuple #[.slice none 0 0,.bool false]) w:=by
 have hz:(zeroValue 230).run Tryz.prog w=.ok (.slice none 0 0) w:=by kernel_rfl
 simp[Instr.typeAssert,run_underlying Tryz.underlying230,go_sem,Result.andThen,ht,hz]
theorem hit_oneOf (x:Value)(w:World):(Instr.typeAssert (.iface 229 x) 167 229 true).run Tryz.prog w=.ok (.tuple #[x,.bool true]) w:=by
 simp[Instr.typeAssert,run_underlying Tryz.underlying229,go_sem,Result.andThen]
theorem miss_oneOf (t:Nat)(ht:t≠229)(x:Value)(w:World):(Instr.typeAssert (.iface t x) 167 229 true).run Tryz.prog w=.ok (.tuple #[.slice none 0 0,.bool false]) w:=by
 have hz:(zeroValue 229).run Tryz.prog w=.ok (.slice none 0 0) w:=by kernel_rfl
 simp[Instr.typeAssert,run_underlying Tryz.underlying229,go_sem,Result.andThen,ht,hz]
theorem hit_anyOften (x:Value)(w:World):(Instr.typeAssert (.iface 232 x) 167 232 true).run Tryz.prog w=.ok (.tuple #[x,.bool true]) w:=by
 simp[Instr.typeAssert,run_underlying Tryz.underlying232,go_sem,Result.andThen]
theorem miss_anyOften (t:Nat)(ht:t≠232)(x:Value)(w:World):(Instr.typeAssert (.iface t x) 167 232 true).run Tryz.prog w=.ok (.tuple #[.agg #[.nilIface],.bool false]) w:=by
 have hz:(zeroValue 232).run Tryz.prog w=.ok (.agg #[.nilIface]) w:=by kernel_rfl
 simp[Instr.typeAssert,run_underlying Tryz.underlying232,go_sem,Result.andThen,ht,hz]
theorem hit_onceOften (x:Value)(w:World):(Instr.typeAssert (.iface 233 x) 167 233 true).run Tryz.prog w=.ok (.tuple #[x,.bool true]) w:=by
 simp[Instr.typeAssert,run_underlying Tryz.underlying233,go_sem,Result.andThen]
theorem miss_onceOften (t:Nat)(ht:t≠233)(x:Value)(w:World):(Instr.typeAssert (.iface t x) 167 233 true).run Tryz.prog w=.ok (.tuple #[.agg #[.nilIface],.bool false]) w:=by
 have hz:(zeroValue 233).run Tryz.prog w=.ok (.agg #[.nilIface]) w:=by kernel_rfl
 simp[Instr.typeAssert,run_underlying Tryz.underlying233,go_sem,Result.andThen,ht,hz]
theorem hit_onceMost (x:Value)(w:World):(Instr.typeAssert (.iface 234 x) 167 234 true).run Tryz.prog w=.ok (.tuple #[x,.bool true]) w:=by
 simp[Instr.typeAssert,run_underlying Tryz.underlying234,go_sem,Result.andThen]
theorem miss_onceMost (t:Nat)(ht:t≠234)(x:Value)(w:World):(Instr.typeAssert (.iface t x) 167 234 true).run Tryz.prog w=.ok (.tuple #[.agg #[.nilIface],.bool false]) w:=by
 have hz:(zeroValue 234).run Tryz.prog w=.ok (.agg #[.nilIface]) w:=by kernel_rfl
 simp[Instr.typeAssert,run_underlying Tryz.underlying234,go_sem,Result.andThen,ht,hz]
theorem hit_oneByte (x:Value)(w:World):(Instr.typeAssert (.iface 216 x) 167 216 true).run Tryz.prog w=.ok (.tuple #[x,.bool true]) w:=by
 simp[Instr.typeAssert,run_underlying Tryz.underlying216,go_sem,Result.andThen]
theorem miss_oneByte (t:Nat)(ht:t≠216)(x:Value)(w:World):(Instr.typeAssert (.iface t x) 167 216 true).run Tryz.prog w=.ok (.tuple #[.int .u8 0,.bool false]) w:=by
 have hz:(zeroValue 216).run Tryz.prog w=.ok (.int .u8 0) w:=by kernel_rfl
 simp[Instr.typeAssert,run_underlying Tryz.underlying216,go_sem,Result.andThen,ht,hz]
theorem hit_byteSet (x:Value)(w:World):(Instr.typeAssert (.iface 218 x) 167 218 true).run Tryz.prog w=.ok (.tuple #[x,.bool true]) w:=by
 simp[Instr.typeAssert,run_underlying Tryz.underlying218,go_sem,Result.andThen]
theorem miss_byteSet (t:Nat)(ht:t≠218)(x:Value)(w:World):(Instr.typeAssert (.iface t x) 167 218 true).run Tryz.prog w=.ok (.tuple #[.agg #[.string ⟨#[]⟩,.bool false],.bool false]) w:=by
 have hz:(zeroValue 218).run Tryz.prog w=.ok (.agg #[.string ⟨#[]⟩,.bool false]) w:=by kernel_rfl
 simp[Instr.typeAssert,run_underlying Tryz.underlying218,go_sem,Result.andThen,ht,hz]

def KidsAre (N:Nat)(w:World)(ks:List Data)(S:Nat→Prop)(u:Value):Prop:=∃ xs,w.ownsRow 0 167 1 u ks.length xs∧(∀ g,u.ownBlock=some g→S g∨N≤g)∧PatsIs w ks S xs

theorem owns_slice {w:World}{B e size n:Nat}{v:Value}{xs:List Value}(ho:w.ownsRow B e size v n xs):∃ ao cap,v=.slice ao n cap:=by
 rcases ho.2 with ⟨rfl,hn⟩|⟨g,cap,cur,rfl,_⟩
 ·rw[hn];exact⟨_,_,rfl⟩
 ·exact⟨_,_,rfl⟩

theorem owns_at {w:World}{B e n k cap:Nat}{ao:Option Addr}{xs:List Value}{x:Value}(ho:w.ownsRow B e 1 (.slice ao n cap) n xs)(hk:k<n)(hx:xs[k]?=some x):∃ g,ao=some ⟨g,0,none⟩∧g<w.heap.size∧w.cell? ⟨g,k,none⟩=some x:=by
 rcases ho.2 with ⟨h,hn⟩|⟨g,cap',cur,h,_⟩
 ·omega
 ·simp only[Value.slice.injEq] at h
  obtain⟨rfl,_,rfl⟩:=h
  have:=ho.cells (g:=g) rfl k x hx
  refine⟨g,rfl,(ho.lt g rfl).2,?_⟩
  have hadd:(⟨g,0,none⟩:Addr).add k=⟨g,k,none⟩:=by unfold Addr.add;split <;> simp_all
  rw[← hadd]
  exact this

theorem kids_none (N:Nat)(w:World)(S:Nat→Prop):KidsAre N w [] S (.slice none 0 0):=⟨[],World.ownsRow_nil _ _ _ _,fun g h=>by simp[Value.ownBlock] at h,by simp only[PatsIs]⟩

theorem kids_one {w:World}{ks:List Data}{S:Nat→Prop}{x:Value}{o:Obj}(hx:PatsIs w ks S [x])(hS:∀ k,S k→k<w.heap.size):
  KidsAre w.heap.size ((w.alloc o).alloc (.cells #[x] 167)) ks S (.slice (some ⟨w.heap.size+1,0,none⟩) 1 1):=by
 have hsz:(w.alloc o).heap.size=w.heap.size+1:=by simp
 rw[← hsz]
 have hl:=pats_len hx;simp at hl
 refine⟨[x],?_,fun g hg=>?_,pats_frame (fun k hk=>?_) (fun _ h=>h) hx⟩
 ·rw[← hl]
  exact⟨rfl,.inr ⟨_,1,#[x],rfl,Nat.zero_le _,heap_alloc_last _ _,Nat.le_refl _,by decide,rfl,rfl⟩⟩
 ·simp only[Value.ownBlock,Option.some.injEq] at hg;subst hg;exact .inr (by omega)
 ·have:=hS k hk
  rw[Below.heap_alloc _ _ _ (by simp;omega),Below.heap_alloc _ _ _ this]

theorem iKidsOf {w:World}{op c:Nat}{s:List UInt8}{no:Bool}{ks:List Data}{S:Nat→Prop}{v:Value}(h:PatIs w (nd op c s no ks) S v)(hS:∀ k,S k→k<w.heap.size):
  Calls Tryz.prog 167 #[v] w fun e w'=>∃ u,e=.returned u∧Below w.heap.size w w'∧KidsAre w.heap.size w' ks S u:=by
 rw[pat_nd] at h
 rcases h with ⟨rfl,h⟩|⟨_,_,_,x,hx,h⟩|⟨_,_,_,u,xs,ho,hg,hx,h⟩
 ·rcases h with h|h|h|h|h|h
  ·obtain⟨_,_,_,_,rfl⟩:=h
   have a_inRow:=miss_inRow 216 (by decide) (.int .u8 c);have a_oneOf:=miss_oneOf 216 (by decide) (.int .u8 c);have a_anyOften:=miss_anyOften 216 (by decide) (.int .u8 c);have a_onceOften:=miss_onceOften 216 (by decide) (.int .u8 c);have a_onceMost:=miss_onceMost 216 (by decide) (.int .u8 c)
   go_enter Tryz.func167,Tryz.ntmps167
   go_wp2_with fail;go_ret
   exact⟨_,rfl,Below.refl _ _,kids_none _ _ _⟩
  ·obtain⟨_,_,_,_,rfl⟩:=h
   have a_inRow:=miss_inRow 276 (by decide) (.agg #[]);have a_oneOf:=miss_oneOf 276 (by decide) (.agg #[]);have a_anyOften:=miss_anyOften 276 (by decide) (.agg #[]);have a_onceOften:=miss_onceOften 276 (by decide) (.agg #[]);have a_onceMost:=miss_onceMost 276 (by decide) (.agg #[])
   go_enter Tryz.func167,Tryz.ntmps167
   go_wp2_with fail;go_ret
   exact⟨_,rfl,Below.refl _ _,kids_none _ _ _⟩
  ·obtain⟨_,_,rfl⟩:=h
   have a_inRow:=miss_inRow 218 (by decide) (.agg #[.string ⟨s.toArray⟩,.bool no]);have a_oneOf:=miss_oneOf 218 (by decide) (.agg #[.string ⟨s.toArray⟩,.bool no]);have a_anyOften:=miss_anyOften 218 (by decide) (.agg #[.string ⟨s.toArray⟩,.bool no]);have a_onceOften:=miss_onceOften 218 (by decide) (.agg #[.string ⟨s.toArray⟩,.bool no]);have a_onceMost:=miss_onceMost 218 (by decide) (.agg #[.string ⟨s.toArray⟩,.bool no])
   go_enter Tryz.func167,Tryz.ntmps167
   go_wp2_with fail;go_ret
   exact⟨_,rfl,Below.refl _ _,kids_none _ _ _⟩
  ·obtain⟨_,_,_,_,rfl⟩:=h
   have a_inRow:=miss_inRow 277 (by decide) (.agg #[]);have a_oneOf:=miss_oneOf 277 (by decide) (.agg #[]);have a_anyOften:=miss_anyOften 277 (by decide) (.agg #[]);have a_onceOften:=miss_onceOften 277 (by decide) (.agg #[]);have a_onceMost:=miss_onceMost 277 (by decide) (.agg #[])
   go_enter Tryz.func167,Tryz.ntmps167
   go_wp2_with fail;go_ret
   exact⟨_,rfl,Below.refl _ _,kids_none _ _ _⟩
  ·obtain⟨_,_,_,_,rfl⟩:=h
   have a_inRow:=miss_inRow 278 (by decide) (.agg #[]);have a_oneOf:=miss_oneOf 278 (by decide) (.agg #[]);have a_anyOften:=miss_anyOften 278 (by decide) (.agg #[]);have a_onceOften:=miss_onceOften 278 (by decide) (.agg #[]);have a_onceMost:=miss_onceMost 278 (by decide) (.agg #[])
   go_enter Tryz.func167,Tryz.ntmps167
   go_wp2_with fail;go_ret
   exact⟨_,rfl,Below.refl _ _,kids_none _ _ _⟩
  ·obtain⟨_,_,_,_,rfl⟩:=h
   have a_inRow:=miss_inRow 254 (by decide) (.agg #[]);have a_oneOf:=miss_oneOf 254 (by decide) (.agg #[]);have a_anyOften:=miss_anyOften 254 (by decide) (.agg #[]);have a_onceOften:=miss_onceOften 254 (by decide) (.agg #[]);have a_onceMost:=miss_onceMost 254 (by decide) (.agg #[])
   go_enter Tryz.func167,Tryz.ntmps167
   go_wp2_with fail;go_ret
   exact⟨_,rfl,Below.refl _ _,kids_none _ _ _⟩
 ·obtain⟨T0,x0,rfl⟩:∃ T x0,x=.iface T x0:=by
   rcases ks with _|⟨k,ks⟩
   ·simp only[PatsIs] at hx;simp at hx
   ·simp only[PatsIs] at hx
    obtain⟨y,ys,hy,h1,_⟩:=hx
    simp at hy
    obtain⟨rfl,_⟩:=hy
    exact pat_iface h1
  rcases h with h|h|h
  ·obtain⟨_,rfl⟩:=h
   have a_inRow:=miss_inRow 232 (by decide) (.agg #[.iface T0 x0]);have a_oneOf:=miss_oneOf 232 (by decide) (.agg #[.iface T0 x0]);have a_anyOften:=hit_anyOften (.agg #[.iface T0 x0])
   go_enter Tryz.func167,Tryz.ntmps167
   go_wp2_with fail;go_ret
   exact⟨_,rfl,((Below.refl _ w).alloc (Nat.le_refl _) _).alloc (by simp) _,kids_one hx hS⟩
  ·obtain⟨_,rfl⟩:=h
   have a_inRow:=miss_inRow 233 (by decide) (.agg #[.iface T0 x0]);have a_oneOf:=miss_oneOf 233 (by decide) (.agg #[.iface T0 x0]);have a_anyOften:=miss_anyOften 233 (by decide) (.agg #[.iface T0 x0]);have a_onceOften:=hit_onceOften (.agg #[.iface T0 x0])
   go_enter Tryz.func167,Tryz.ntmps167
   go_wp2_with fail;go_ret
   exact⟨_,rfl,((Below.refl _ w).alloc (Nat.le_refl _) _).alloc (by simp) _,kids_one hx hS⟩
  ·obtain⟨_,rfl⟩:=h
   have a_inRow:=miss_inRow 234 (by decide) (.agg #[.iface T0 x0]);have a_oneOf:=miss_oneOf 234 (by decide) (.agg #[.iface T0 x0]);have a_anyOften:=miss_anyOften 234 (by decide) (.agg #[.iface T0 x0]);have a_onceOften:=miss_onceOften 234 (by decide) (.agg #[.iface T0 x0]);have a_onceMost:=hit_onceMost (.agg #[.iface T0 x0])
   go_enter Tryz.func167,Tryz.ntmps167
   go_wp2_with fail;go_ret
   exact⟨_,rfl,((Below.refl _ w).alloc (Nat.le_refl _) _).alloc (by simp) _,kids_one hx hS⟩
 ·rcases h with h|h
  ·obtain⟨_,rfl⟩:=h
   have a_inRow:=hit_inRow (u)
   go_enter Tryz.func167,Tryz.ntmps167
   go_wp2_with fail;go_ret
   exact⟨_,rfl,Below.refl _ _,xs,ho,fun g h=>.inl (hg g h),hx⟩
  ·obtain⟨_,rfl⟩:=h
   have a_inRow:=miss_inRow 229 (by decide) (u);have a_oneOf:=hit_oneOf (u)
   go_enter Tryz.func167,Tryz.ntmps167
   go_wp2_with fail;go_ret
   exact⟨_,rfl,Below.refl _ _,xs,ho,fun g h=>.inl (hg g h),hx⟩

theorem pats_at {w:World}:∀ {ts:List Data} {S:Nat→Prop} {xs:List Value} {i:Nat} {t:Data},PatsIs w ts S xs→ts[i]?=some t→∃ x,xs[i]?=some x∧PatIs w t S x
 | [],S,xs,i,t,h,hi=>by simp at hi
 | t'::ts,S,xs,0,t,h,hi=>by
  simp only[PatsIs] at h
  obtain⟨x,ys,rfl,h1,_⟩:=h
  simp at hi;subst hi
  exact⟨x,rfl,h1⟩
 | t'::ts,S,xs,i+1,t,h,hi=>by
  simp only[PatsIs] at h
  obtain⟨x,ys,rfl,_,h2⟩:=h
  simp at hi
  obtain⟨y,h3,h4⟩:=pats_at h2 hi
  exact⟨y,by simpa using h3,h4⟩

theorem deps_take (ts:List Data):∀ i t,ts[i]?=some t→deps (ts.take (i+1))=max (deps (ts.take i)) (dep t):=by
 induction ts with
 | nil=>intro i t h;simp at h
 | cons t' ts ih =>
  intro i t h
  cases i with
  | zero=>simp at h;subst h;simp[deps]
  | succ i =>
   simp at h
   have:=ih i t h
   simp only[List.take_succ_cons,deps];omega

theorem deps_le (ts:List Data):∀ i,deps (ts.take i)≤deps ts:=by
 induction ts with
 | nil=>intro i;simp
 | cons t' ts ih=>intro i;cases i with
  | zero=>simp[deps]
  | succ i=>have:=ih i;simp[deps];omega

theorem dep_cnt:∀ t:Data,dep t≤cnt t:=by
 intro t
 induction t using rex_ind with
 | h ks lab ih =>
  have:∀ l:List Data,(∀ t∈l,dep t≤cnt t)→deps l≤cnts l:=by
   intro l
   induction l with
   | nil=>intro _;simp[deps]
   | cons a l ihl =>
    intro h;have h1:=h a (by simp);have h2:=ihl (fun t ht=>h t (by simp[ht]));simp[deps,cnts];omega
  have:=this ks ih
  simp[dep,cnt];omega
 | h1 t ht=>cases t <;> simp_all [dep,cnt]

theorem iDepthOf:∀ (d:Nat) (t:Data) (S:Nat→Prop) (v:Value) (w:World),dep t≤d→cnt t≤100000→PatIs w t S v→(∀ k,S k→k<w.heap.size) →
  Calls Tryz.prog 129 #[v] w fun e w'=>e=.returned (.int .i64 (dep t))∧Below w.heap.size w w':=by
 intro d
 induction d with
 | zero=>intro t S v w hd _ h;obtain⟨op,c,s,no,ks,rfl⟩:=pat_node h;rw[dep_nd] at hd;omega
 | succ d ih =>
  intro t S v w hd hc h hS
  obtain⟨op,c,s,no,ks,rfl⟩:=pat_node h
  rw[dep_nd] at hd ⊢
  rw[cnt_nd] at hc
  have hkl:=cnts_len ks;have hdc:deps ks≤100000:=by have:=dep_cnt (nd op c s no ks);rw[dep_nd,cnt_nd] at this;omega
  have HD:Hid (deps (ks.take ks.length)=deps ks):=by show _=_;rw[List.take_length]
  have HI:=fun i=>deps_le ks i
  go_enter Tryz.func129,Tryz.ntmps129
  go_wp2_with (go_at_call 167;refine (iKidsOf h hS).mono ?_;rintro e w1 ⟨u,rfl,hb1,xs,ho,hu,hx⟩;obtain⟨ao,cap,rfl⟩:=owns_slice ho)
  go_loopw [3,9] (fun mo i wr=>∃ k:Nat,k≤ks.length∧i=.int .i64 k∧mo=.int .i64 (deps (ks.take k))∧Below w.heap.size w wr∧Below w1.heap.size w1 wr) (fun _ i _=>ks.length - (intOf i).toNat)
  case atStart=>exact⟨0,Nat.zero_le _,rfl,rfl,hb1,Below.refl _ _⟩
  case round =>
   obtain⟨k,hk,rfl,rfl,hb2,hb3⟩:=hrel
   by_cases hkl2:k<ks.length
   ·have hki:ks[k]?=some ks[k]:=List.getElem?_eq_getElem hkl2
    obtain⟨x,hx1,hx2⟩:=pats_at hx hki
    obtain⟨g,rfl,hgl,hcell⟩:=owns_at ho hkl2 hx1
    have hcell2:=(hb3.cell (p:=⟨g,k,none⟩) hgl).trans hcell;have hm:ks[k]∈ks:=List.getElem_mem hkl2;have d1:=deps_mem hm;have d2:=cnts_mem hm;have HT:=deps_take ks k ks[k] hki;have hS1:∀ b,S b→b<w1.heap.size:=fun b hb=>Nat.lt_of_lt_of_le (hS b hb) hb1.size;have hx3:PatIs wr ks[k] S x:=pat_frame (fun b hb=>hb3.block b (hS1 b hb)) (fun _ h=>h) _ _ hx2;have hd1:(dep ks[k]:Int)≤100000:=by omega
    have hi1:=HI k;have hi2:(deps (ks.take k):Int)≤100000:=by omega
    have call:=ih ks[k] S x wr (by omega) (by omega) hx3 (fun b hb=>Nat.lt_of_lt_of_le (hS1 b hb) hb3.size);have HT2:Hid _:=HT;clear hx hx1 hx2 hx3 hki hm HT HI hi1 ih d1 d2 h;generalize dep ks[k]=D at *;generalize deps (ks.take k)=M at *
    go_wp2_with (go_at_call 129;refine call.mono ?_;rintro e w2 ⟨rfl,hb4⟩)
    go_roundw
    case rel =>
     refine⟨k+1,by omega,by go_num,?_,hb2.trans (hb4.mono hb2.size),hb3.trans (hb4.mono hb3.size)⟩
     rw[HT2.out]
     congr 1
     first|omega|(split <;> omega)
    case measure=>simp[intOf];omega
   ·obtain rfl:k=ks.length:=by omega
    have hi2:=HI ks.length;have hi3:(deps (ks.take ks.length):Int)≤100000:=by omega
    clear HI hi2 ih hx ho h;go_wp2_with fail;go_ret
    exact⟨by rw[← HD.out];rfl,hb2⟩

end Rx
namespace Rx

theorem step_call {P:Program}{ops:Array Oper}{o:Oper}{a:Act}{w:World}{K:Act→World→Prop}{Q:Exit→Act→World→Prop}{E:Prop}
  (hg:o.guard=none) (f x:Nat) (t:TypeId) (hop:o.op=Op.call { callee:=Callee.value (.func f),args:=#[.tmp x],argTypes:=#[t] }) (v:Value) (hx:a.eval (.tmp x)=v)
  (hcf:∀ vs w,(callFunc f vs).run P w=.ok (.enter f vs) w)
  (hc:Calls P f #[v] w fun e w'=>∃ v,e=.returned v∧K (a.put o.dst v) w'):
  if Region.wanted o (yielded ops a.tmps)=true then Oper.wp P o a w K Q else E:=by
 have hw:Region.wanted o (yielded ops a.tmps)=true:=by simp[Region.wanted,hg]
 rw[if_pos hw]
 unfold Oper.wp;simp[Act.eval] at hx;simp[execOp,hop,resolve,invoke,hcf,go_sem,hx];refine hc.mono ?_;rintro e w' ⟨v,rfl,hk⟩;exact hk

theorem step_append_own {P:Program}{ops:Array Oper}{o:Oper}{a:Act}{w:World}{K:Act→World→Prop}{Q:Exit→Act→World→Prop}{E:Prop}(hgd:o.guard=none)(s x:Operand)(t:TypeId)
  (ho:o.op=.call { callee:=.builtin .append,args:=#[s,x],argTypes:=#[t,t] })
  (base:Nat) (e:TypeId) (i:TypeInfo) (z:Value) (size bytes:Nat) (ht:P.underlying t=some (.slice e)) (hi:P.info? e=some i) (hz:i.zero=some z)
  (hsize:i.size=size) (hby:i.bytes=bytes) (hzs:z.cells.size=size) (hsz:0<size)
  (v:Value) (n:Nat) (xs:List Value) (hs:a.eval s=v) (hown:w.ownsRow base e size v n xs)
  (ad:Addr) (m c:Nat) (news:List Value) (hx:a.eval x=.slice (some ad) m c) (hl:news.length=m*size) (hnews:∀ j u,news[j]?=some u→w.cell? (ad.add j)=some u) (h1:∀ u∈news,u.oneCell'=true)
  (h63:n+m≤maxLen) (hbytes:(n+m)*bytes≤140737488355328) (hbase:base≤w.heap.size)
  (hK:∀ v' w',w'.ownsRow base e size v' (n+m) (xs++news)→w.grownBy w' v.ownBlock→(v'.ownBlock=v.ownBlock∨v'.ownBlock=some w.heap.size)→K (a.put o.dst v') w'):
  if Region.wanted o (yielded ops a.tmps)=true then Oper.wp P o a w K Q else E:=by
 have hw:Region.wanted o (yielded ops a.tmps)=true:=by simp[Region.wanted,hgd]
 rw[if_pos hw]
 obtain⟨v',w',hr,h2,h3,h4,h5⟩:=run_append_own_at (P:=P) w base t o.type e i z size bytes ht hi hz hsize hby hzs hsz v n xs hown ad m c news hl hnews h1 h63 hbytes hbase
 unfold Oper.wp execOp;simp only[ho,resolve,invoke,builtin,Sem.run_bind,Sem.run_pure,Result.andThen_ok,List.map_toArray,List.map_cons,List.map_nil,hs,hx,hr];exact hK _ _ h2 h3 h5

theorem op_oneByte (v:Value)(w:World):Calls Tryz.prog 274 #[v] w fun e w'=>e=.returned (.int .i64 1)∧Below w.heap.size w w':=by
 go_enter Tryz.func274,Tryz.ntmps274
 go_wp2
 go_ret
 exact⟨rfl,by first|exact Below.refl _ _|exact (Below.refl _ w).alloc (Nat.le_refl _) _⟩
theorem op_anyByte (w:World):Calls Tryz.prog 283 #[.agg #[]] w fun e w'=>e=.returned (.int .i64 2)∧Below w.heap.size w w':=by
 go_enter Tryz.func283,Tryz.ntmps283
 go_wp2
 go_ret
 exact⟨rfl,by first|exact Below.refl _ _|exact (Below.refl _ w).alloc (Nat.le_refl _) _⟩
theorem op_byteSet (x y:Value)(w:World):Calls Tryz.prog 275 #[.agg #[x,y]] w fun e w'=>e=.returned (.int .i64 3)∧Below w.heap.size w w':=by
 go_enter Tryz.func275,Tryz.ntmps275
 go_wp2
 go_ret
 exact⟨rfl,by first|exact Below.refl _ _|exact (Below.refl _ w).alloc (Nat.le_refl _) _⟩
theorem op_textStart (w:World):Calls Tryz.prog 284 #[.agg #[]] w fun e w'=>e=.returned (.int .i64 4)∧Below w.heap.size w w':=by
 go_enter Tryz.func284,Tryz.ntmps284
 go_wp2
 go_ret
 exact⟨rfl,by first|exact Below.refl _ _|exact (Below.refl _ w).alloc (Nat.le_refl _) _⟩
theorem op_textEnd (w:World):Calls Tryz.prog 285 #[.agg #[]] w fun e w'=>e=.returned (.int .i64 5)∧Below w.heap.size w w':=by
 go_enter Tryz.func285,Tryz.ntmps285
 go_wp2
 go_ret
 exact⟨rfl,by first|exact Below.refl _ _|exact (Below.refl _ w).alloc (Nat.le_refl _) _⟩
theorem op_inRow (v:Value)(w:World):Calls Tryz.prog 278 #[v] w fun e w'=>e=.returned (.int .i64 6)∧Below w.heap.size w w':=by
 go_enter Tryz.func278,Tryz.ntmps278
 go_wp2
 go_ret
 exact⟨rfl,by first|exact Below.refl _ _|exact (Below.refl _ w).alloc (Nat.le_refl _) _⟩
theorem op_oneOf (v:Value)(w:World):Calls Tryz.prog 277 #[v] w fun e w'=>e=.returned (.int .i64 7)∧Below w.heap.size w w':=by
 go_enter Tryz.func277,Tryz.ntmps277
 go_wp2
 go_ret
 exact⟨rfl,by first|exact Below.refl _ _|exact (Below.refl _ w).alloc (Nat.le_refl _) _⟩
theorem op_anyOften (x:Value)(w:World):Calls Tryz.prog 279 #[.agg #[x]] w fun e w'=>e=.returned (.int .i64 8)∧Below w.heap.size w w':=by
 go_enter Tryz.func279,Tryz.ntmps279
 go_wp2
 go_ret
 exact⟨rfl,by first|exact Below.refl _ _|exact (Below.refl _ w).alloc (Nat.le_refl _) _⟩
theorem op_onceOften (x:Value)(w:World):Calls Tryz.prog 280 #[.agg #[x]] w fun e w'=>e=.returned (.int .i64 9)∧Below w.heap.size w w':=by
 go_enter Tryz.func280,Tryz.ntmps280
 go_wp2
 go_ret
 exact⟨rfl,by first|exact Below.refl _ _|exact (Below.refl _ w).alloc (Nat.le_refl _) _⟩
theorem op_onceMost (x:Value)(w:World):Calls Tryz.prog 281 #[.agg #[x]] w fun e w'=>e=.returned (.int .i64 10)∧Below w.heap.size w w':=by
 go_enter Tryz.func281,Tryz.ntmps281
 go_wp2
 go_ret
 exact⟨rfl,by first|exact Below.refl _ _|exact (Below.refl _ w).alloc (Nat.le_refl _) _⟩
theorem op_nothing (w:World):Calls Tryz.prog 282 #[.agg #[]] w fun e w'=>e=.returned (.int .i64 11)∧Below w.heap.size w w':=by
 go_enter Tryz.func282,Tryz.ntmps282
 go_wp2
 go_ret
 exact⟨rfl,by first|exact Below.refl _ _|exact (Below.refl _ w).alloc (Nat.le_refl _) _⟩
theorem meth_oneByte (x:Value)(w:World):(Go.method 418 216 x "loop.example/g00289/impl.op").run Tryz.prog w=.ok (274,x) w:=by kernel_rfl
theorem meth_anyByte (x:Value)(w:World):(Go.method 418 276 x "loop.example/g00289/impl.op").run Tryz.prog w=.ok (283,x) w:=by kernel_rfl
theorem meth_byteSet (x:Value)(w:World):(Go.method 418 218 x "loop.example/g00289/impl.op").run Tryz.prog w=.ok (275,x) w:=by kernel_rfl
theorem meth_textStart (x:Value)(w:World):(Go.method 418 277 x "loop.example/g00289/impl.op").run Tryz.prog w=.ok (284,x) w:=by kernel_rfl
theorem meth_textEnd (x:Value)(w:World):(Go.method 418 278 x "loop.example/g00289/impl.op").run Tryz.prog w=.ok (285,x) w:=by kernel_rfl
theorem meth_inRow (x:Value)(w:World):(Go.method 418 230 x "loop.example/g00289/impl.op").run Tryz.prog w=.ok (278,x) w:=by kernel_rfl
theorem meth_oneOf (x:Value)(w:World):(Go.method 418 229 x "loop.example/g00289/impl.op").run Tryz.prog w=.ok (277,x) w:=by kernel_rfl
theorem meth_anyOften (x:Value)(w:World):(Go.method 418 232 x "loop.example/g00289/impl.op").run Tryz.prog w=.ok (279,x) w:=by kernel_rfl
theorem meth_onceOften (x:Value)(w:World):(Go.method 418 233 x "loop.example/g00289/impl.op").run Tryz.prog w=.ok (280,x) w:=by kernel_rfl
theorem meth_onceMost (x:Value)(w:World):(Go.method 418 234 x "loop.example/g00289/impl.op").run Tryz.prog w=.ok (281,x) w:=by kernel_rfl
theorem meth_nothing (x:Value)(w:World):(Go.method 418 254 x "loop.example/g00289/impl.op").run Tryz.prog w=.ok (282,x) w:=by kernel_rfl

theorem enter_rexOf (vs:Array Value)(w:World):(callFunc 130 vs).run Tryz.prog w=.ok (.enter 130 vs) w:=by kernel_rfl

theorem Tryz.info103r:(Tryz.prog.info? 103).map (fun i=>(i.zero,i.size,i.bytes))=some (some (.agg #[.int .i64 0,.int .i64 0,.string ⟨#[]⟩,.bool false,.slice none 0 0]),5,64):=by kernel_rfl

def Var (w:World)(q:Nat)(a b c d u:Value):Prop:=w.heap[q]?=some (.cells #[a,b,c,d,u] 103 (0,0))

theorem Var.cell {w:World}{q:Nat}{a b c d u:Value}(h:Var w q a b c d u):w.cell? ⟨q,0,none⟩=some a∧w.cell? ⟨q,1,none⟩=some b∧w.cell? ⟨q,2,none⟩=some c∧w.cell? ⟨q,3,none⟩=some d∧w.cell? ⟨q,4,none⟩=some u:=by
 refine⟨?_,?_,?_,?_,?_⟩ <;> (rw[cell_of_row w q _ _ _ _ h];rfl)
theorem Var.frozen {w:World}{q:Nat}{a b c d u:Value}(h:Var w q a b c d u)(k:Nat):w.frozen? ⟨q,k,none⟩=false:=by
 unfold Var at h;simp[World.frozen?,h]
theorem Var.lt {w:World}{q:Nat}{a b c d u:Value}(h:Var w q a b c d u):q<w.heap.size:=World.block_lt_of_cell? w _ h.cell.1
theorem Var.kept {w w':World}{q:Nat}{a b c d u:Value}(h:Var w q a b c d u)(hw:w'.heap[q]?=w.heap[q]?):Var w' q a b c d u:=hw.trans h

theorem Var.set0 {w:World}{q:Nat}{a b c d u:Value}(h:Var w q a b c d u)(x:Value):Var (w.setCell ⟨q,0,none⟩ x) q x b c d u:=by
 unfold Var at h ⊢;simp[World.setCell,Array.getElem?_modify,h]
theorem Var.set1 {w:World}{q:Nat}{a b c d u:Value}(h:Var w q a b c d u)(x:Value):Var (w.setCell ⟨q,1,none⟩ x) q a x c d u:=by
 unfold Var at h ⊢;simp[World.setCell,Array.getElem?_modify,h]
theorem Var.set2 {w:World}{q:Nat}{a b c d u:Value}(h:Var w q a b c d u)(x:Value):Var (w.setCell ⟨q,2,none⟩ x) q a b x d u:=by
 unfold Var at h ⊢;simp[World.setCell,Array.getElem?_modify,h]
theorem Var.set3 {w:World}{q:Nat}{a b c d u:Value}(h:Var w q a b c d u)(x:Value):Var (w.setCell ⟨q,3,none⟩ x) q a b c x u:=by
 unfold Var at h ⊢;simp[World.setCell,Array.getElem?_modify,h]
theorem Var.set4 {w:World}{q:Nat}{a b c d u:Value}(h:Var w q a b c d u)(x:Value):Var (w.setCell ⟨q,4,none⟩ x) q a b c d x:=by
 unfold Var at h ⊢;simp[World.setCell,Array.getElem?_modify,h]

theorem head_facts {w w1:World}{a b c d u:Value}(hb:Below (w.heap.size+1) (w.alloc (.cells #[a,b,c,d,u] 103)) w1){a' b' c' d' u':Value}:
  ∃ q,Value.pointer (some ⟨w1.heap.size,0,none⟩)=.pointer (some ⟨q,0,none⟩)∧w.heap.size<q∧Var (w1.alloc (.cells #[a',b',c',d',u'] 103)) q a' b' c' d' u'∧Var (w1.alloc (.cells #[a',b',c',d',u'] 103)) w.heap.size a b c d u∧Below w.heap.size w (w1.alloc (.cells #[a',b',c',d',u'] 103)):=by
 have h1:=hb.size;simp at h1
 refine⟨_,rfl,by omega,heap_alloc_last _ _,?_,?_⟩
 ·unfold Var
  rw[Below.heap_alloc _ _ _ (by omega),hb.block _ (by omega),heap_alloc_last]
 ·exact (((Below.refl _ w).alloc (Nat.le_refl _) _).trans (hb.mono (by omega))).alloc (by omega) _

theorem rex_cells {w:World}{t:Data}{S:Nat→Prop}{a b c d u:Value}(h:RexIs w t S [a,b,c,d,u]):∃ (op cc:Nat) (s:List UInt8) (no:Bool) (ao:Option Addr) (n cap:Nat),a=.int .i64 op∧b=.int .i64 cc∧c=.string ⟨s.toArray⟩∧d=.bool no∧u=.slice ao n cap:=by
 obtain⟨op,c',s,no,ks,rfl⟩:=rex_node h
 rw[rex_nd] at h
 obtain⟨v,xs,hc,ho,_⟩:=h
 simp at hc
 obtain⟨rfl,rfl,rfl,rfl,rfl⟩:=hc
 obtain⟨ao,cap,rfl⟩:=owns_slice ho
 exact⟨_,_,_,_,_,_,_,rfl,rfl,rfl,rfl,rfl⟩

theorem cell_five_new (w:World)(a b c d u:Value):∀ j x,[a,b,c,d,u][j]?=some x→(w.alloc (.cells #[a,b,c,d,u] 103)).cell? ((⟨w.heap.size,0,none⟩:Addr).add j)=some x:=by
 intro j x hj;have hadd:(⟨w.heap.size,0,none⟩:Addr).add j=⟨w.heap.size,j,none⟩:=by unfold Addr.add;split <;> simp_all
 rw[hadd,cell_of_row _ _ j _ _ (0,0) (heap_alloc_last w _)]
 simpa using hj

theorem kids_set {w:World}{B q:Nat}{ts:List Data}{v:Value}(h:Kids w B ts v)(hq:q<B)(n:Nat)(x:Value):Kids (w.setCell ⟨q,n,none⟩ x) B ts v:=by
 obtain⟨xs,S,ho,hk,hS⟩:=h
 refine⟨xs,S,owns_same ho fun g hg=>Below.heap_setCell _ _ _ _ ?_,rexs_frame (fun k hk=>Below.heap_setCell _ _ _ _ ?_) hk,fun k hk=>⟨(hS k hk).1,by simpa using (hS k hk).2.1,(hS k hk).2.2⟩⟩
 ·have:=(ho.lt g hg).1;show g≠q;omega
 ·have:=(hS k hk).1;show k≠q;omega

def RexRet (t:Data)(w:World)(e:Ending)(w':World):Prop :=
 ∃ a b c d u,e=.returned (.agg #[a,b,c,d,u])∧Below w.heap.size w w'∧RexIs w' t (Iv w.heap.size w'.heap.size) [a,b,c,d,u]

set_option maxHeartbeats 8000000 in
set_option maxRecDepth 100000 in
theorem iRexOf:∀ (dd:Nat) (t:Data) (S:Nat→Prop) (v:Value) (w:World),dep t≤dd→cnt t≤100000→PatIs w t S v→(∀ k,S k→k<w.heap.size) →
  Calls Tryz.prog 130 #[v] w fun e w'=>RexRet t w e w':=by
 intro dd
 induction dd with
 | zero=>intro t S v w hd _ h;obtain⟨op,c,s,no,ks,rfl⟩:=pat_node h;rw[dep_nd] at hd;omega
 | succ dd ih =>
  intro t S v w hd hc h hS
  obtain⟨op,c,s,no,ks,rfl⟩:=pat_node h
  rw[dep_nd] at hd
  rw[cnt_nd] at hc
  have hkl:=cnts_len ks;have hh:=pat_nd.1 h
  go_enter Tryz.func130,Tryz.ntmps130
  go_upto_region 1 with fail
  go_cut [3] (fun v3 wx=>∃ q,v3=.pointer (some ⟨q,0,none⟩)∧w.heap.size<q∧Var wx q (.int .i64 op) (.int .i64 0) (.string ⟨#[]⟩) (.bool false) (.slice none 0 0)∧Var wx w.heap.size (.int .i64 0) (.int .i64 0) (.string ⟨#[]⟩) (.bool false) (.slice none 0 0)∧Below w.heap.size w wx)
  case first =>
   clear ih hd hc hkl h hS;rcases hh with ⟨rfl,hh⟩|⟨rfl,rfl,rfl,x,hx,hh⟩|⟨rfl,rfl,rfl,u,xs,ho,hg,hx,hh⟩
   ·rcases hh with hh|hh|hh|hh|hh|hh
    ·obtain⟨rfl,_,rfl,rfl,rfl⟩:=hh
     have m0:=meth_oneByte (.int .u8 c)
     go_wp2_with (go_at_call 274;refine (op_oneByte _ _).mono ?_;rintro e w1 ⟨rfl,hb1⟩)
     go_meet
     case rel=>exact head_facts (by simpa using hb1)
    ·obtain⟨rfl,rfl,rfl,rfl,rfl⟩:=hh
     have m0:=meth_anyByte (.agg #[])
     go_wp2_with (go_at_call 283;refine (op_anyByte _).mono ?_;rintro e w1 ⟨rfl,hb1⟩)
     go_meet
     case rel=>exact head_facts (by simpa using hb1)
    ·obtain⟨rfl,rfl,rfl⟩:=hh
     have m0:=meth_byteSet (.agg #[.string ⟨s.toArray⟩,.bool no])
     go_wp2_with (go_at_call 275;refine (op_byteSet _ _ _).mono ?_;rintro e w1 ⟨rfl,hb1⟩)
     go_meet
     case rel=>exact head_facts (by simpa using hb1)
    ·obtain⟨rfl,rfl,rfl,rfl,rfl⟩:=hh
     have m0:=meth_textStart (.agg #[])
     go_wp2_with (go_at_call 284;refine (op_textStart _).mono ?_;rintro e w1 ⟨rfl,hb1⟩)
     go_meet
     case rel=>exact head_facts (by simpa using hb1)
    ·obtain⟨rfl,rfl,rfl,rfl,rfl⟩:=hh
     have m0:=meth_textEnd (.agg #[])
     go_wp2_with (go_at_call 285;refine (op_textEnd _).mono ?_;rintro e w1 ⟨rfl,hb1⟩)
     go_meet
     case rel=>exact head_facts (by simpa using hb1)
    ·obtain⟨rfl,rfl,rfl,rfl,rfl⟩:=hh
     have m0:=meth_nothing (.agg #[])
     go_wp2_with (go_at_call 282;refine (op_nothing _).mono ?_;rintro e w1 ⟨rfl,hb1⟩)
     go_meet
     case rel=>exact head_facts (by simpa using hb1)
   ·rcases hh with hh|hh|hh
    ·obtain⟨rfl,rfl⟩:=hh
     have m0:=meth_anyOften (.agg #[x])
     go_wp2_with (go_at_call 279;refine (op_anyOften _ _).mono ?_;rintro e w1 ⟨rfl,hb1⟩)
     go_meet
     case rel=>exact head_facts (by simpa using hb1)
    ·obtain⟨rfl,rfl⟩:=hh
     have m0:=meth_onceOften (.agg #[x])
     go_wp2_with (go_at_call 280;refine (op_onceOften _ _).mono ?_;rintro e w1 ⟨rfl,hb1⟩)
     go_meet
     case rel=>exact head_facts (by simpa using hb1)
    ·obtain⟨rfl,rfl⟩:=hh
     have m0:=meth_onceMost (.agg #[x])
     go_wp2_with (go_at_call 281;refine (op_onceMost _ _).mono ?_;rintro e w1 ⟨rfl,hb1⟩)
     go_meet
     case rel=>exact head_facts (by simpa using hb1)
   ·rcases hh with hh|hh
    ·obtain⟨rfl,rfl⟩:=hh
     have m0:=meth_inRow (u)
     go_wp2_with (go_at_call 278;refine (op_inRow _ _).mono ?_;rintro e w1 ⟨rfl,hb1⟩)
     go_meet
     case rel=>exact head_facts (by simpa using hb1)
    ·obtain⟨rfl,rfl⟩:=hh
     have m0:=meth_oneOf (u)
     go_wp2_with (go_at_call 277;refine (op_oneOf _ _).mono ?_;rintro e w1 ⟨rfl,hb1⟩)
     go_meet
     case rel=>exact head_facts (by simpa using hb1)
  case rest =>
   obtain⟨q,rfl,hq,hV,hZ,hb⟩:=hcut
   go_upto_block 0 with fail
   go_cut [] (fun wx=>Var wx q (.int .i64 op) (.int .i64 c) (.string ⟨s.toArray⟩) (.bool no) (.slice none 0 0)∧Var wx w.heap.size (.int .i64 0) (.int .i64 0) (.string ⟨#[]⟩) (.bool false) (.slice none 0 0)∧Below w.heap.size w wx)
   case first =>
    clear ih hd hc hkl h hS;rcases hh with ⟨rfl,hh⟩|⟨rfl,rfl,rfl,x,hx,hh⟩|⟨rfl,rfl,rfl,u,xs,ho,hg,hx,hh⟩
    ·rcases hh with hh|hh|hh|hh|hh|hh
     ·obtain⟨rfl,_,rfl,rfl,rfl⟩:=hh
      have m1:=hit_oneByte (.int .u8 c);have hcc:=hV.cell;have hc1:=hcc.2.1;have hf1:=hV.frozen 1;clear hcc;go_wp2_with fail;go_meet
      case rel=>exact⟨hV.set1 _,hZ.kept (Below.heap_setCell _ _ _ _ (by simp;omega)),hb.setCell (by simp;omega) _⟩
     ·obtain⟨rfl,rfl,rfl,rfl,rfl⟩:=hh
      have m1:=miss_oneByte 276 (by decide) (.agg #[]);have m2:=miss_byteSet 276 (by decide) (.agg #[]);go_wp2_with fail;go_meet
      case rel=>exact⟨hV,hZ,hb⟩
     ·obtain⟨rfl,rfl,rfl⟩:=hh
      have m1:=miss_oneByte 218 (by decide) (.agg #[.string ⟨s.toArray⟩,.bool no]);have m2:=hit_byteSet (.agg #[.string ⟨s.toArray⟩,.bool no]);have hW:=hV.kept (Below.heap_alloc wc (.cells #[.string ⟨s.toArray⟩,.bool no] 218) q hV.lt);have c2:=hW.cell.2.2.1;have c3:=hW.cell.2.2.2.1;have f2:=hW.frozen 2;have f3:=hW.frozen 3;go_wp2_with fail;go_region;go_wp2_with fail;go_meet
      case rel =>
       have hZ1:=hZ.kept (Below.heap_alloc wc (.cells #[.string ⟨s.toArray⟩,.bool no] 218) w.heap.size hZ.lt);have hqw:w.heap.size≠q:=by omega
       refine⟨(hW.set2 _).set3 _,(hZ1.kept (Below.heap_setCell _ ⟨q,2,none⟩ _ _ hqw)).kept (Below.heap_setCell _ ⟨q,3,none⟩ _ _ hqw),?_⟩
       exact (((hb.alloc (Nat.le_of_lt hZ.lt) _).setCell (p:=⟨q,2,none⟩) (Nat.le_of_lt hq) _).setCell (p:=⟨q,3,none⟩) (Nat.le_of_lt hq) _).drew
     ·obtain⟨rfl,rfl,rfl,rfl,rfl⟩:=hh
      have m1:=miss_oneByte 277 (by decide) (.agg #[]);have m2:=miss_byteSet 277 (by decide) (.agg #[]);go_wp2_with fail;go_meet
      case rel=>exact⟨hV,hZ,hb⟩
     ·obtain⟨rfl,rfl,rfl,rfl,rfl⟩:=hh
      have m1:=miss_oneByte 278 (by decide) (.agg #[]);have m2:=miss_byteSet 278 (by decide) (.agg #[]);go_wp2_with fail;go_meet
      case rel=>exact⟨hV,hZ,hb⟩
     ·obtain⟨rfl,rfl,rfl,rfl,rfl⟩:=hh
      have m1:=miss_oneByte 254 (by decide) (.agg #[]);have m2:=miss_byteSet 254 (by decide) (.agg #[]);go_wp2_with fail;go_meet
      case rel=>exact⟨hV,hZ,hb⟩
    ·rcases hh with hh|hh|hh
     ·obtain⟨rfl,rfl⟩:=hh
      have m1:=miss_oneByte 232 (by decide) (.agg #[x]);have m2:=miss_byteSet 232 (by decide) (.agg #[x]);go_wp2_with fail;go_meet
      case rel=>exact⟨hV,hZ,hb⟩
     ·obtain⟨rfl,rfl⟩:=hh
      have m1:=miss_oneByte 233 (by decide) (.agg #[x]);have m2:=miss_byteSet 233 (by decide) (.agg #[x]);go_wp2_with fail;go_meet
      case rel=>exact⟨hV,hZ,hb⟩
     ·obtain⟨rfl,rfl⟩:=hh
      have m1:=miss_oneByte 234 (by decide) (.agg #[x]);have m2:=miss_byteSet 234 (by decide) (.agg #[x]);go_wp2_with fail;go_meet
      case rel=>exact⟨hV,hZ,hb⟩
    ·rcases hh with hh|hh
     ·obtain⟨rfl,rfl⟩:=hh
      have m1:=miss_oneByte 230 (by decide) (u);have m2:=miss_byteSet 230 (by decide) (u);go_wp2_with fail;go_meet
      case rel=>exact⟨hV,hZ,hb⟩
     ·obtain⟨rfl,rfl⟩:=hh
      have m1:=miss_oneByte 229 (by decide) (u);have m2:=miss_byteSet 229 (by decide) (u);go_wp2_with fail;go_meet
      case rel=>exact⟨hV,hZ,hb⟩
   case rest =>
    clear hV hZ hb hh
    obtain⟨hV,hZ,hb⟩:=hcut
    have hS2:∀ k,S k→k<wc.heap.size:=fun k hk=>Nat.lt_of_lt_of_le (hS k hk) hb.size;have h2:PatIs wc (nd op c s no ks) S v:=pat_frame (fun k hk=>hb.block k (hS k hk)) (fun _ h=>h) _ _ h;have hqc:=hV.lt;have hzc:=hZ.lt;clear h
    go_wp2_with (go_at_call 167;refine (iKidsOf h2 hS2).mono ?_;rintro e w1 ⟨u1,rfl,hb1,xs,ho,hu1,hx⟩;obtain⟨ao,cap,rfl⟩:=owns_slice ho)
    have hV1:=hV.kept (hb1.block q hqc);have hZ1:=hZ.kept (hb1.block _ hzc);have hb01:=hb.trans (hb1.mono (Nat.le_of_lt hzc));have hS3:∀ k,S k→k<w1.heap.size:=fun k hk=>Nat.lt_of_lt_of_le (hS2 k hk) hb1.size;have hsz1:=hb1.size;clear hV hZ hb hb1 h2 hS2
    obtain⟨i0,hi0,hz0,hz1,hz2⟩:=info_parts Tryz.info103r
    go_loopw [30] (fun i wr=>∃ (k:Nat) (u:Value),k≤ks.length∧i=.int .i64 k∧Var wr q (.int .i64 op) (.int .i64 c) (.string ⟨s.toArray⟩) (.bool no) u∧Kids wr w1.heap.size (ks.take k) u∧Var wr w.heap.size (.int .i64 0) (.int .i64 0) (.string ⟨#[]⟩) (.bool false) (.slice none 0 0)∧Below w.heap.size w wr∧w1.grownBy wr (some q)) (fun i _=>ks.length - (intOf i).toNat)
    case atStart=>exact⟨0,_,Nat.zero_le _,rfl,hV1,kids_nil _ _,hZ1,hb01,World.grownBy.refl _ _⟩
    case round =>
     obtain⟨k,u,hk,rfl,hV,hK,hZ,hb,hg⟩:=hrel
     clear hV1 hZ1 hb01
     by_cases hkl2:k<ks.length
     ·have hki:ks[k]?=some ks[k]:=List.getElem?_eq_getElem hkl2
      obtain⟨x,hx1,hx2⟩:=pats_at hx hki
      obtain⟨g,rfl,hgl,hcell⟩:=owns_at ho hkl2 hx1
      have hm:ks[k]∈ks:=List.getElem_mem hkl2;have d1:=deps_mem hm;have d2:=cnts_mem hm;have hgq:g≠q:=by
       rcases hu1 g rfl with h|h
       ·have:=hS g h;omega
       ·omega
      have hcell2:=hg.cell hcell (by simpa using hgq);have hsub:∀ j,S j→j<w1.heap.size∧j≠q:=fun j hj=>⟨hS3 j hj,by have:=hS j hj;omega⟩;have hx3:PatIs wr.drew ks[k] S x:=pat_same (pat_frame (w:=w1) (fun j hj=>hg.block j (hsub j hj).1 (by have:=(hsub j hj).2;simpa using this)) (fun _ h=>h) _ _ hx2) rfl;have call:=ih ks[k] S x wr.drew (by omega) (by omega) hx3 (fun j hj=>Nat.lt_of_lt_of_le (hS3 j hj) hg.size);have c4:=hV.cell.2.2.2.2
      obtain⟨ys,S',hown,hks,hS'⟩:=hK
      have hlt:(ks.take k).length=k:=by simp;omega
      rw[hlt] at hown
      have hgs:=hg.size;have hqlt:q<w1.heap.size:=by omega
      have hk64:Hid ((k+1)*64≤140737488355328):=by show _≤_;omega
      have hkm:Hid (k+1≤maxLen):=by show _≤_;unfold maxLen;omega
      have hqr:q<wr.heap.size:=by omega
      have hownq:∀ b,u.ownBlock=some b→w1.heap.size≤b:=fun b hb=>(hown.lt b hb).1;clear hx hx1 hx2 hx3 hki hm ih ho;go_wp2_with fail
      go_region_law (first
       | (refine step_call rfl 130 36 167 rfl x (by simp[Act.eval,Act.put]) enter_rexOf ?_;refine call.mono ?_;rintro e w3 ⟨a3,b3,c3,d3,u3',rfl,hb3,hr3⟩;refine⟨_,rfl,?_⟩;have hV3:=hV.kept (hb3.block q hqr);have c43:=hV3.cell.2.2.2.2;have c43':=fun o=>(hV3.kept (Below.heap_alloc w3 o q hV3.lt)).cell.2.2.2.2;have hown3:=owns_same hown (fun b hb=>hb3.block b (hown.lt b hb).2);have hsz3:wr.heap.size≤w3.heap.size:=hb3.size;obtain⟨op3,cc3,ss3,no3,ao3,n3,cap3,rfl,rfl,rfl,rfl,rfl⟩:=rex_cells hr3)
       | (refine step_append_own rfl (.tmp 35) (.tmp 38) 101 rfl w1.heap.size 103 i0 _ 5 64 Tryz.underlying101 hi0 hz0 hz1 hz2 rfl (by decide) u k ys (by simp[Act.eval]) (hown3.alloc _) ⟨w3.heap.size,0,none⟩ 1 1 [.int .i64 op3,.int .i64 cc3,.string ⟨ss3.toArray⟩,.bool no3,.slice ao3 n3 cap3] (by simp[Act.eval]) rfl (cell_five_new _ _ _ _ _ _) (by simp[Value.oneCell']) hkm.out hk64.out (by simp;omega) ?_;intro v4 w4 hown4 hgr4 hb4;have hV4:=(hV3.kept (Below.heap_alloc w3 _ q hV3.lt)).kept (hgr4.block q (by simp;omega) (fun e=>by have:=hownq q e.symm;omega));have c44:=hV4.cell.2.2.2.2;have f44:=hV4.frozen 4;obtain⟨ao4,cap4,rfl⟩:=owns_slice hown4))
      all_goals go_wp2_with fail
      all_goals go_roundw
      all_goals try (simp only[intOf];omega)
      all_goals (
       have hlw:w1.heap.size≤(w3.alloc (.cells #[.int .i64 op3,.int .i64 cc3,.string ⟨ss3.toArray⟩,.bool no3,.slice ao3 n3 cap3] 103)).heap.size:=by simp;omega
       have hgA:w1.grownBy (w3.alloc (.cells #[.int .i64 op3,.int .i64 cc3,.string ⟨ss3.toArray⟩,.bool no3,.slice ao3 n3 cap3] 103)) (some q):=(hg.trans (grown_of_below (w:=wr) ⟨hb3.os,hb3.tape,hb3.output,hb3.size,hb3.block⟩ _)).trans (World.grownBy_alloc _ _ _);have hbA:Below w.heap.size w (w3.alloc (.cells #[.int .i64 op3,.int .i64 cc3,.string ⟨ss3.toArray⟩,.bool no3,.slice ao3 n3 cap3] 103)):=(hb.trans (Below.mono (w:=wr) (B:=wr.heap.size) ⟨hb3.os,hb3.tape,hb3.output,hb3.size,hb3.block⟩ hb.size)).alloc (by omega) _;have hZA:=(hZ.kept (w':=w3) (hb3.block _ (show w.heap.size<wr.heap.size by omega))).kept (Below.heap_alloc w3 (.cells #[.int .i64 op3,.int .i64 cc3,.string ⟨ss3.toArray⟩,.bool no3,.slice ao3 n3 cap3] 103) w.heap.size (by omega));have hZ4:=hZA.kept (hgr4.block _ (by simp;omega) (fun e=>by have:=hownq _ e.symm;omega));have htk:ks.take (k+1)=ks.take k++[ks[k]]:=by rw[List.take_add_one,List.getElem?_eq_getElem hkl2];rfl
       have hKn:=kids_snoc (w:=wr) (w1:=w3) (w2:=w4) hks hS' hgs hr3 hsz3 (fun j _ h2 _=>hb3.block j h2) (fun j hj=>(hown.lt j hj).2) (by rw[hlt];exact hown4) (Nat.le_trans (by simp) hgr4.size) (fun j h1 h2=>(hgr4.block j (by simp;omega) (Ne.symm h2)).trans (Below.heap_alloc _ _ _ h1)) (hb4.imp id fun h=>⟨_,h,by simp⟩)
       refine⟨k+1,_,by omega,by go_num,hV4.set4 _,?_,hZ4.kept (Below.heap_setCell _ ⟨q,4,none⟩ _ _ (show w.heap.size≠q by omega)),(hbA.grown hgr4 (by simp;omega) (fun j hj=>by have:=hownq j hj;omega)).setCell (p:=⟨q,4,none⟩) (Nat.le_of_lt hq) _,(grown_own hgA hgr4 hownq).trans (grown_set w4 ⟨q,4,none⟩ _)⟩
       rw[htk]
       exact kids_set hKn hqlt 4 _)
     ·obtain rfl:k=ks.length:=by omega
      rw[List.take_length] at hK
      have hcs:=hV.cell;have c0:=hcs.1;have c1:=hcs.2.1;have c2:=hcs.2.2.1;have c3:=hcs.2.2.2.1;have c4:=hcs.2.2.2.2;have hzs:=hZ.cell;have z0:=hzs.1;have z1:=hzs.2.1;have z2:=hzs.2.2.1;have z3:=hzs.2.2.2.1;have z4:=hzs.2.2.2.2;have y0:=hZ.frozen 0;have y1:=hZ.frozen 1;have y2:=hZ.frozen 2;have y3:=hZ.frozen 3;have y4:=hZ.frozen 4;have hR:=kids_rex hK op c s no
      obtain⟨ao2,cap2,rfl⟩:∃ ao2 cap2,u=.slice ao2 ks.length cap2:=by
       obtain⟨ys,S',ho',_⟩:=hK
       exact owns_slice ho'
      clear hcs hzs ho hx hK ih;go_wp2_with fail;have hF:=((((hZ.set0 (.int .i64 op)).set1 (.int .i64 c)).set2 (.string ⟨s.toArray⟩)).set3 (.bool no)).set4 (.slice ao2 ks.length cap2);have hFc:=hF.cell;have x0:=hFc.1;have x1:=hFc.2.1;have x2:=hFc.2.2.1;have x3:=hFc.2.2.2.1;have x4:=hFc.2.2.2.2;have hbF:∀ (n:Nat) (x:Value) (W:World),Below w.heap.size w W→Below w.heap.size w (W.setCell ⟨w.heap.size,n,none⟩ x):=fun n x W hW=>hW.setCell (p:=⟨w.heap.size,n,none⟩) (Nat.le_refl _) x;have hbn:∀ (n:Nat) (x:Value) (W:World) (j:Nat),j≠w.heap.size→(W.setCell ⟨w.heap.size,n,none⟩ x).heap[j]?=W.heap[j]?:=fun n x W j hj=>Below.heap_setCell W ⟨w.heap.size,n,none⟩ x j hj;have hgs:=hg.size;refine bodyPost_ret (v:=.agg #[.int .i64 op,.int .i64 c,.string ⟨s.toArray⟩,.bool no,.slice ao2 ks.length cap2]) ?_ rfl ⟨_,_,_,_,_,rfl,hbF _ _ _ (hbF _ _ _ (hbF _ _ _ (hbF _ _ _ (hbF _ _ _ hb)))),rex_mono (rex_frame _ _ _ (fun j hj=>?_) hR) fun j hj=>⟨?_,?_⟩⟩
      ·clear hR hFc hF c0 c1 c2 c3 c4 z0 z1 z2 z3 z4 y0 y1 y2 y3 y4 hbF hbn hgs;simp[results,Tryz.results130,go_sem,x0,x1,x2,x3,x4]
      ·have h1:=hj.1
       rw[hbn _ _ _ _ (by omega),hbn _ _ _ _ (by omega),hbn _ _ _ _ (by omega),hbn _ _ _ _ (by omega),hbn _ _ _ _ (by omega)]
      ·have:=hj.1;omega
      ·have:=hj.2;simpa using this

end Rx
end Go.Proofs.YtllbachngocmnaaGreatDoor
