/-
  A set of chapter 3.
-/
import Derived.Test.YtllbachngocmnaaGreatDoorP32
namespace Go.Proofs.YtllbachngocmnaaGreatDoor
open Go.RowKit
namespace Rx

def Reads (p:Nat)(s:ByteArray)(a:Addr)(w:World)(r:Option (Data × Nat))(e:Ending)(w':World):Prop:=match r with
 | none=>e=.panicked [{ v:=errV a,recovered:=false }]∧w.grownBy w' (some p)
 | some (t,j)=>∃ v,e=.returned v∧PatIs w' t (Iv w.heap.size w'.heap.size) v∧Rd p s a j w'∧w.grownBy w' (some p)

theorem setLoop_step {g:Nat→Nat}{f i:Nat}{M:Nat→Bool}(h:g i≠93):setLoop g (f+1) i M=match spanAt g i with
  | none=>none
  | some (lo,hi,j)=>setLoop g f j (spanOn M lo hi):=by
 rw[setLoop,spanAt]
 by_cases h1:g i=256
 ·simp[h1]
 ·rw[if_neg h1,if_neg h,if_neg h1]
  by_cases h2:g (i+1)=45∧g (i+2)≠93
  ·rw[if_pos h2,if_pos h2]
   by_cases h3:g (i+2)=256∨g (i+2)<g i
   ·rw[if_pos h3,if_pos h3]
   ·rw[if_neg h3,if_neg h3]
  ·rw[if_neg h2,if_neg h2]

theorem span_in {s:ByteArray}{i lo hi j:Nat}(h:spanAt (gOf s) i=some (lo,hi,j)):i<j∧j≤s.size∧lo<256∧hi<256∧lo≤hi:=by
 unfold spanAt at h
 split at h
 ·simp at h
 rename_i h1
 have h1:=in_of h1;have h1':=gOf_lt h1
 split at h
 ·split at h
  ·simp at h
  ·rename_i h2 h3
   have h4:=in_of (s:=s) (i:=i+2) (by omega);have h4':=gOf_lt h4;simp at h;omega
 ·simp at h;omega

def Has (q:Nat)(M:Nat→Bool)(w:World):Prop:=w.heap[q]?=some (.cells (marks M) 279 (0,0))

theorem has_cell {q:Nat}{M:Nat→Bool}{w:World}(h:Has q M w){k:Nat}(hk:k<256):w.cell? ⟨q,k,none⟩=some (.bool (M k)):=by
 rw[cell_of_row w q k _ _ _ h,marks_get M hk]

theorem has_set {q:Nat}{M:Nat→Bool}{w:World}(h:Has q M w)(k:Nat):Has q (fun b=>M b || decide (b=k)) (w.setCell ⟨q,k,none⟩ (.bool true)):=by
 unfold Has at h ⊢;have hm:(marks M).set! k (.bool true)=marks (fun b=>M b || decide (b=k)):=by
  apply Array.ext_getElem?;intro j
  rw[Array.set!_eq_setIfInBounds,Array.getElem?_setIfInBounds]
  by_cases hj:j<256
  ·rw[marks_get _ hj,marks_get _ hj]
   by_cases e:k=j
   ·subst e;simp[marks_size,hj]
   ·simp[e,show ¬ j=k by omega]
  ·have a1:(marks M)[j]?=none:=Array.getElem?_eq_none (by rw[marks_size];omega);have a2:(marks fun b=>M b || decide (b=k))[j]?=none:=Array.getElem?_eq_none (by rw[marks_size];omega)
   rw[a1,a2]
   by_cases e:k=j
   ·subst e;simp[marks_size,hj]
   ·simp[e]
 rw[← hm]
 simp[World.setCell,Array.getElem?_modify,h]

theorem has_load {q:Nat}{M:Nat→Bool}{w:World}(h:Has q M w):(Instr.loadAt 279 (.pointer (some ⟨q,0,none⟩))).run Tryz.prog w=.ok (.agg (marks M)) w:=by
 simp only[Instr.loadAt,Instr.sureAddr,Sem.run_bind,Sem.run_pure,Result.andThen];exact run_loadVar_row _ _ _ _ _ (0,0) _ h (show Tryz.prog.underlying 279=some (.array 256 4) by kernel_rfl) rfl (by rw[marks_size];kernel_rfl)

theorem Has.lt {q:Nat}{M:Nat→Bool}{w:World}(h:Has q M w):q<w.heap.size:=World.block_lt_of_cell? w ⟨q,0,none⟩ (has_cell h (by omega))
theorem Has.grown {q p:Nat}{M:Nat→Bool}{w w':World}(h:Has q M w)(hg:w.grownBy w' (some p))(hpq:p≠q):Has q M w':=(hg.block q h.lt (by simp;omega)).trans h
theorem has_frozen {q k:Nat}{M:Nat→Bool}{w:World}(h:Has q M w):w.frozen? ⟨q,k,none⟩=false:=by
 unfold Has at h;simp[World.frozen?,h]

theorem grown_set_new {w wq:World}{row:Option Nat}(h:w.grownBy wq row){x:Addr}(hq:w.heap.size≤x.block)(v:Value):w.grownBy (wq.setCell x v) row :=
 ⟨h.os,h.tape,h.output,by simpa using h.size,fun k hk hne=>(Below.heap_setCell _ _ _ _ (by omega)).trans (h.block k hk hne)⟩

def spanTo (M:Nat→Bool)(lo n:Nat):Nat→Bool:=fun b=>M b || (decide (lo≤b)&&decide (b<n))
theorem spanTo_zero (M:Nat→Bool)(lo:Nat):spanTo M lo lo=M:=by
 funext b
 unfold spanTo
 by_cases h:lo≤b
 ·rw[decide_eq_false (show ¬ b<lo by omega)];simp
 ·rw[decide_eq_false h];simp
theorem spanTo_next (M:Nat→Bool){lo n:Nat}(h:lo≤n):(fun b=>spanTo M lo n b || decide (b=n))=spanTo M lo (n+1):=by
 funext b
 unfold spanTo
 by_cases h1:b=n
 ·subst h1;simp[h]
 ·rw[decide_eq_false h1,show decide (b<n+1)=decide (b<n) from decide_eq_decide.2 (by omega)];simp
theorem spanTo_all (M:Nat→Bool)(lo hi:Nat):spanTo M lo (hi+1)=spanOn M lo hi:=by
 funext b
 unfold spanTo spanOn
 rw[show decide (b<hi+1)=decide (b≤hi) from decide_eq_decide.2 (by omega)]

def posOf (p:Nat)(w:World):Nat:=match w.cell? ⟨p,1,none⟩ with
 | some (.int _ n)=>n.toNat
 | _=>0
theorem posOf_is {p:Nat}{s:ByteArray}{a:Addr}{i:Nat}{w:World}(h:Rd p s a i w):posOf p w=i:=by unfold posOf;rw[h.pos];simp

set_option maxRecDepth 100000 in
theorem iSet {p:Nat}{s:ByteArray}{a:Addr}{i:Nat}{w:World}(h:Rd p s a i w)(hi:i≤s.size)(hs:s.size≤1000):
  Calls Tryz.prog 230 #[.pointer (some ⟨p,0,none⟩)] w fun e w'=>Reads p s a w (setAt (gOf s) s.size i) e w':=by
 obtain⟨j0,hj0⟩:∃ j0,j0=if gOf s i=94 then i+1 else i:=⟨_,rfl⟩
 have hj0le:j0≤s.size:=by
  rw[hj0]
  split
  ·have:=in_of (s:=s) (i:=i) (by omega);omega
  ·exact hi
 have HR:Hid (setAt (gOf s) s.size i=setEnd (decide (gOf s i=94)) (setLoop (gOf s) (s.size+1) j0 fun _=>false)):=by
  unfold setAt;rw[← hj0];rfl
 generalize setAt (gOf s) s.size i=R at HR ⊢
 go_enter Tryz.func230,Tryz.ntmps230
 go_wp2_with (first|(go_at_call 182;refine (iTakeIf h hi hs 94 (by omega)).mono ?_;rintro e w1 ⟨rfl,h1,hg1⟩;rw[← hj0] at h1)|(refine wpList_alloc_whole rfl 279 rfl _ _ (alloc_whole _) ?_;simp[Act.put]))
 have hq1:=h1.lt;have hg0:w.grownBy (w1.alloc (.cells (marks fun _=>false) 279)) (some p):=hg1.trans (World.grownBy_alloc _ _ _);have h1':Rd p s a j0 (w1.alloc (.cells (marks fun _=>false) 279)):=h1.grown (World.grownBy_alloc _ _ none) (by simp) (by simp);have hH1:Has w1.heap.size (fun _=>false) (w1.alloc (.cells (marks fun _=>false) 279)):=heap_alloc_last w1 _
 obtain⟨RL,hRL⟩:∃ RL,setLoop (gOf s) (s.size+1) j0 (fun _=>false)=RL:=⟨_,rfl⟩
 have HL:Hid _:=hRL
 obtain⟨q,hq⟩:∃ q,q=w1.heap.size:=⟨_,rfl⟩
 have hwq:w.heap.size≤q:=by rw[hq];exact hg1.size
 rw[← hq] at hH1
 have hpq:p≠q:=by omega
 have heq:2≠q:=by have:=h1.elt;omega
 have hj0':Hid (j0≤s.size):=hj0le;clear hj0 hRL hj0le;subst hq
 go_loopw [] (fun wr=>∃ k M f,Rd p s a k wr∧k≤s.size∧Has w1.heap.size M wr∧s.size<f+k∧setLoop (gOf s) f k M=RL∧w.grownBy wr (some p)) (fun wr=>s.size - posOf p wr)
 case atStart=>exact⟨j0,_,s.size+1,h1',hj0'.out,hH1,by omega,HL.out,hg0⟩
 case round =>
  obtain⟨k,M,f,hr,hk,hH,hf,hR,hg⟩:=hrel
  obtain⟨f,rfl⟩:∃ f',f=f'+1:=⟨f - 1,by omega⟩
  have HR2:Hid _:=hR;have HH:Hid (Has w1.heap.size M wr):=hH;clear hR hH hH1 h1' hg0 h1 hg1 h
  by_cases h93:gOf s k=93
  ·have e1:decide (gOf s k=93)=true:=decide_eq_true h93;have hkl:=in_of (s:=s) (i:=k) (by omega);have HR3:Hid (RL=some (M,k+1)):=by
    rw[← HR2.out,setLoop,if_neg (by omega),if_pos h93];rfl
   by_cases hb:bytesOf M=[]
   ·have HR4:Hid (R=none):=by show R=none;rw[HR.out,HL.out,HR3.out];simp[setEnd,hb]
    have hb':(bytesOf M).isEmpty=true:=by rw[hb];rfl
    clear hb
    go_wp2_with (first|(go_at_call 182;refine (iTakeIf hr hk hs 93 (by omega)).mono ?_;rintro e w2 ⟨rfl,h2,hg2⟩;rw[if_pos h93] at h2;have hH2:=(HH.out.grown hg2 hpq))|(refine wpList_load_whole rfl 279 (.tmp 4) rfl _ (has_load hH2) ?_)|(go_at_call 233;refine (iListed M _).mono ?_;rintro e w3 ⟨rfl,hb3⟩;have c3:=(h2.below hb3 h2.lt h2.elt).err))
    refine⟨rfl,?_⟩
    rw[HR4.out]
    exact⟨rfl,(hg.trans hg2).trans (grown_of_below hb3 _)⟩
   ·have HR4:Hid (R=some (setOf M (decide (gOf s i=94)),k+1)):=by show R=_;rw[HR.out,HL.out,HR3.out];simp[setEnd,hb]
    have hb':(bytesOf M).isEmpty=false:=by simpa using hb
    clear hb
    go_wp2_with (first|(go_at_call 182;refine (iTakeIf hr hk hs 93 (by omega)).mono ?_;rintro e w2 ⟨rfl,h2,hg2⟩;rw[if_pos h93] at h2;have hH2:=(HH.out.grown hg2 hpq))|(refine wpList_load_whole rfl 279 (.tmp 4) rfl _ (has_load hH2) ?_)|(go_at_call 233;refine (iListed M _).mono ?_;rintro e w3 ⟨rfl,hb3⟩))
    go_ret
    rw[HR4.out]
    refine⟨_,rfl,?_,h2.below hb3 h2.lt h2.elt,(hg.trans hg2).trans (grown_of_below hb3 _)⟩
    unfold setOf
    rw[pat_nd]
    exact .inl ⟨rfl,.inr (.inr (.inl ⟨rfl,rfl,rfl⟩))⟩
  ·have e1:decide (gOf s k=93)=false:=decide_eq_false h93;have HR3:=setLoop_step (g:=gOf s) (f:=f) (i:=k) (M:=M) h93;rcases hsp:spanAt (gOf s) k with _|⟨lo,hi',j⟩
   ·have HR4:Hid (R=none):=by show R=none;rw[HR.out,HL.out,← HR2.out,HR3,hsp];rfl
    clear HR3
    go_wp2_with (first|(go_at_call 182;refine (iTakeIf hr hk hs 93 (by omega)).mono ?_;rintro e w2 ⟨rfl,h2,hg2⟩;rw[if_neg h93] at h2)|(go_at_call 232;refine (iSpan h2 hk hs).mono ?_;intro e w3 h3;rw[hsp] at h3;obtain⟨rfl,hg3⟩:=h3))
    refine⟨rfl,?_⟩
    rw[HR4.out]
    exact⟨rfl,(hg.trans hg2).trans hg3⟩
   ·obtain⟨b1,b2,b3,b4,b5⟩:=span_in hsp
    have HR4:Hid (setLoop (gOf s) f j (spanOn M lo hi')=RL):=by show _=_;rw[← HR2.out,HR3,hsp]
    clear HR3
    go_wp2_with (first|(go_at_call 182;refine (iTakeIf hr hk hs 93 (by omega)).mono ?_;rintro e w2 ⟨rfl,h2,hg2⟩;rw[if_neg h93] at h2)|(go_at_call 232;refine (iSpan h2 hk hs).mono ?_;intro e w3 h3;rw[hsp] at h3;obtain⟨rfl,h3,hg3⟩:=h3))
    have hH3:=(HH.out.grown hg2 hpq).grown hg3 hpq
    rw[← spanTo_zero M lo] at hH3
    have hg4:=(hg.trans hg2).trans hg3;have HP:Hid (posOf p wr=k):=posOf_is hr;clear HH hr h2 hg2 hg hg3 e1 h93
    go_loopw [7] (fun b wq=>∃ n:Nat,b=.int .i64 n∧lo≤n∧n≤hi'+1∧Rd p s a j wq∧Has w1.heap.size (spanTo M lo n) wq∧w.grownBy wq (some p)) (fun b _=>300 - (intOf b).toNat)
    case atStart=>exact⟨lo,rfl,Nat.le_refl _,by omega,h3,hH3,hg4⟩
    case round =>
     obtain⟨n,rfl,n1,n2,hr5,hH5,hg5⟩:=hrel
     by_cases hn:n≤hi'
     ·have hc:=has_cell hH5 (k:=n) (by omega);have hfr:=has_frozen (k:=n) hH5;go_wp2_with fail;go_roundw
      case rel =>
       refine⟨n+1,by go_num,by omega,by omega,?_,?_,?_⟩
       ·exact hr5.kept (Below.heap_setCell _ _ _ _ hpq) (Below.heap_setCell _ _ _ _ heq)
       ·rw[← spanTo_next M n1]
        exact has_set hH5 n
       ·exact grown_set_new hg5 hwq _
      case measure=>simp[intOf];omega
     ·obtain rfl:n=hi'+1:=by omega
      rw[spanTo_all] at hH5
      go_wp2_with fail;go_roundw
      case rel=>exact⟨j,_,f,hr5,b2,hH5,by omega,HR4.out,hg5⟩
      case measure=>rw[HP.out,posOf_is hr5];omega

end Rx
namespace Rx

def Parses (F:Nat)(p:Nat)(s:ByteArray)(a:Addr)(m:Nat)(r:Nat→Option (Data × Nat)):Prop :=
 ∀ (i:Nat) (w:World),Rd p s a i w→i≤s.size→m≤i→Calls Tryz.prog F #[.pointer (some ⟨p,0,none⟩)] w fun e w'=>Reads p s a w (r i) e w'

theorem reads_none {p:Nat}{s:ByteArray}{a:Addr}{w w':World}{r:Option (Data × Nat)}{e:Ending}(h:Reads p s a w r e w')(hr:r=none):e=.panicked [{ v:=errV a,recovered:=false }]∧w.grownBy w' (some p):=by
 rw[hr] at h;exact h
theorem reads_some {p:Nat}{s:ByteArray}{a:Addr}{w w':World}{r:Option (Data × Nat)}{e:Ending}{t:Data}{j:Nat}(h:Reads p s a w r e w')(hr:r=some (t,j)):
  ∃ v,e=.returned v∧PatIs w' t (Iv w.heap.size w'.heap.size) v∧Rd p s a j w'∧w.grownBy w' (some p):=by
 rw[hr] at h;exact h

theorem pat_grown {p:Nat}{w w':World}{lo hi lo' hi':Nat}{t:Data}{v:Value}(h:PatIs w t (Iv lo hi) v)(hg:w.grownBy w' (some p))(hp:p<lo)(h1:hi≤w.heap.size)(h2:lo'≤lo)(h3:hi≤hi'):PatIs w' t (Iv lo' hi') v :=
 pat_frame (fun k hk=>hg.block k (by have:=hk.2;omega) (by have:=hk.1;simp;omega)) (fun k hk=>⟨by have:=hk.1;omega,by have:=hk.2;omega⟩) t v h

theorem iBracketed {p:Nat}{s:ByteArray}{a:Addr}{m:Nat}{r:Nat→Option (Data × Nat)}(hs:s.size≤1000)(hr:∀ i t j,r i=some (t,j)→i≤j∧(i≤s.size→j≤s.size))
  (hP:Parses 165 p s a m r):Parses 229 p s a m fun i=>shut (gOf s) (r i):=by
 intro i w h hi hm
 obtain⟨R,hR⟩:∃ R,R=shut (gOf s) (r i):=⟨_,rfl⟩
 show Calls _ _ _ _ fun e w'=>Reads p s a w (shut (gOf s) (r i)) e w'
 rw[← hR]
 rcases hq:r i with _|⟨t,j⟩
 ·have HR:Hid (R=none):=by show R=none;rw[hR,hq];rfl
  clear hR
  go_enter Tryz.func229,Tryz.ntmps229
  go_wp2_with (go_at_call 165;refine (hP i w h hi hm).mono ?_;intro e w1 h1;obtain⟨rfl,hg1⟩:=reads_none h1 hq)
  refine⟨rfl,?_⟩
  rw[HR.out]
  exact⟨rfl,hg1⟩
 ·have hj:=(hr i t j hq).2 hi
  by_cases h41:gOf s j=41
  ·have HR:Hid (R=some (t,j+1)):=by show _=_;rw[hR,hq];simp[shut,h41]
   clear hR;have e1:decide (gOf s j=41)=true:=decide_eq_true h41
   go_enter Tryz.func229,Tryz.ntmps229
   go_wp2_with (first|(go_at_call 165;refine (hP i w h hi hm).mono ?_;intro e w1 h1;obtain⟨v,rfl,hv,h2,hg1⟩:=reads_some h1 hq)|(go_at_call 182;refine (iTakeIf h2 hj hs 41 (by omega)).mono ?_;rintro e w2 ⟨rfl,h3,hg2⟩;rw[if_pos h41] at h3))
   go_ret
   rw[HR.out]
   exact⟨v,rfl,pat_grown hv hg2 h.lt (Nat.le_refl _) (Nat.le_refl _) hg2.size,h3,hg1.trans hg2⟩
  ·have HR:Hid (R=none):=by show _=_;rw[hR,hq];simp[shut,h41]
   clear hR;have e1:decide (gOf s j=41)=false:=decide_eq_false h41
   go_enter Tryz.func229,Tryz.ntmps229
   go_wp2_with (first|(go_at_call 165;refine (hP i w h hi hm).mono ?_;intro e w1 h1;obtain⟨v,rfl,hv,h2,hg1⟩:=reads_some h1 hq)|(go_at_call 182;refine (iTakeIf h2 hj hs 41 (by omega)).mono ?_;rintro e w2 ⟨rfl,h3,hg2⟩;have c3:=h3.err))
   refine⟨rfl,?_⟩
   rw[HR.out]
   exact⟨rfl,hg1.trans hg2⟩

theorem reads_left {p:Nat}{s:ByteArray}{a:Addr}{w w1 w':World}{r:Option (Data × Nat)}{e:Ending}(hg:w.grownBy w1 (some p))(h:Reads p s a w1 r e w'):Reads p s a w r e w':=by
 rcases r with _|⟨t,j⟩
 ·exact⟨h.1,hg.trans h.2⟩
 ·obtain⟨v,h1,h2,h3,h4⟩:=h
  exact⟨v,h1,pat_frame (fun _ _=>rfl) (fun k hk=>⟨Nat.le_trans hg.size hk.1,hk.2⟩) t v h2,h3,hg.trans h4⟩

theorem pat_leaf {w:World}{S:Nat→Prop}{op c:Nat}{s:List UInt8}{no:Bool}{v:Value}(h:Leaf op c s no v):PatIs w (nd op c s no []) S v:=by
 rw[pat_nd]
 exact .inl ⟨rfl,h⟩

set_option maxHeartbeats 1000000 in
theorem iAtom {p:Nat}{s:ByteArray}{a:Addr}{m:Nat}{r:Nat→Option (Data × Nat)}(hs:s.size≤1000)(hr:∀ i t j,r i=some (t,j)→i≤j∧(i≤s.size→j≤s.size))
  (hP:Parses 165 p s a (m+1) r):Parses 224 p s a m (atomAt (gOf s) s.size r):=by
 intro i w h hi hm
 obtain⟨R,hR⟩:∃ R,R=atomAt (gOf s) s.size r i:=⟨_,rfl⟩
 rw[← hR]
 unfold atomAt at hR;rcases Nat.lt_or_ge i s.size with hq|hq
 ·have hlt:=gOf_lt hq
  rw[if_neg (show gOf s i≠256 by omega)] at hR
  by_cases h40:gOf s i=40
  ·rw[if_pos h40] at hR
   have HR:Hid _:=hR;clear hR;rcases hq2:shut (gOf s) (r (i+1)) with _|⟨t,j⟩
   ·go_enter Tryz.func224,Tryz.ntmps224
    go_wp2_with (first|(go_at_call 228;with_reducible refine (iTake h hq hs).mono ?_;rintro e w1 ⟨rfl,h1,hg1⟩;simp only[h40])|(go_at_call 229;refine (iBracketed hs hr hP (i+1) w1 h1 (by omega) (by omega)).mono ?_;intro e w2 h2;obtain⟨rfl,hg2⟩:=reads_none h2 hq2))
    refine⟨rfl,?_⟩
    rw[HR.out,hq2]
    exact⟨rfl,hg1.trans hg2⟩
   ·go_enter Tryz.func224,Tryz.ntmps224
    go_wp2_with (first|(go_at_call 228;with_reducible refine (iTake h hq hs).mono ?_;rintro e w1 ⟨rfl,h1,hg1⟩;simp only[h40])|(go_at_call 229;refine (iBracketed hs hr hP (i+1) w1 h1 (by omega) (by omega)).mono ?_;intro e w2 h2;obtain⟨v,rfl,hv,h3,hg2⟩:=reads_some h2 hq2))
    go_ret
    rw[HR.out,hq2]
    exact reads_left hg1 ⟨v,rfl,hv,h3,hg2⟩
  rw[if_neg h40] at hR
  by_cases h46:gOf s i=46
  ·rw[if_pos h46] at hR
   have HR:Hid _:=hR;clear hR
   go_enter Tryz.func224,Tryz.ntmps224
   go_wp2_with (go_at_call 228;with_reducible refine (iTake h hq hs).mono ?_;rintro e w1 ⟨rfl,h1,hg1⟩;simp only[h46])
   go_ret
   rw[HR.out]
   exact⟨_,rfl,pat_leaf (.inr (.inl ⟨rfl,rfl,rfl,rfl,rfl⟩)),h1,hg1⟩
  rw[if_neg h46] at hR
  by_cases h94:gOf s i=94
  ·rw[if_pos h94] at hR
   have HR:Hid _:=hR;clear hR
   go_enter Tryz.func224,Tryz.ntmps224
   go_wp2_with (go_at_call 228;with_reducible refine (iTake h hq hs).mono ?_;rintro e w1 ⟨rfl,h1,hg1⟩;simp only[h94])
   go_ret
   rw[HR.out]
   exact⟨_,rfl,pat_leaf (.inr (.inr (.inr (.inl ⟨rfl,rfl,rfl,rfl,rfl⟩)))),h1,hg1⟩
  rw[if_neg h94] at hR
  by_cases h36:gOf s i=36
  ·rw[if_pos h36] at hR
   have HR:Hid _:=hR;clear hR
   go_enter Tryz.func224,Tryz.ntmps224
   go_wp2_with (go_at_call 228;with_reducible refine (iTake h hq hs).mono ?_;rintro e w1 ⟨rfl,h1,hg1⟩;simp only[h36])
   go_ret
   rw[HR.out]
   exact⟨_,rfl,pat_leaf (.inr (.inr (.inr (.inr (.inl ⟨rfl,rfl,rfl,rfl,rfl⟩))))),h1,hg1⟩
  rw[if_neg h36] at hR
  by_cases h91:gOf s i=91
  ·rw[if_pos h91] at hR
   have HR:Hid _:=hR;clear hR;rcases hq2:setAt (gOf s) s.size (i+1) with _|⟨t,j⟩
   ·go_enter Tryz.func224,Tryz.ntmps224
    go_wp2_with (first|(go_at_call 228;with_reducible refine (iTake h hq hs).mono ?_;rintro e w1 ⟨rfl,h1,hg1⟩;simp only[h91])|(go_at_call 230;refine (iSet h1 hq hs).mono ?_;intro e w2 h2;obtain⟨rfl,hg2⟩:=reads_none h2 hq2))
    refine⟨rfl,?_⟩
    rw[HR.out,hq2]
    exact⟨rfl,hg1.trans hg2⟩
   ·go_enter Tryz.func224,Tryz.ntmps224
    go_wp2_with (first|(go_at_call 228;with_reducible refine (iTake h hq hs).mono ?_;rintro e w1 ⟨rfl,h1,hg1⟩;simp only[h91])|(go_at_call 230;refine (iSet h1 hq hs).mono ?_;intro e w2 h2;obtain⟨v,rfl,hv,h3,hg2⟩:=reads_some h2 hq2))
    go_ret
    rw[HR.out,hq2]
    exact reads_left hg1 ⟨v,rfl,hv,h3,hg2⟩
  rw[if_neg h91] at hR
  by_cases h92:gOf s i=92
  ·rw[if_pos h92] at hR
   rcases Nat.lt_or_ge (i+1) s.size with hq2|hq2
   ·have hlt2:=gOf_lt hq2
    rw[if_neg (show gOf s (i+1)≠256 by omega)] at hR
    have HR:Hid _:=hR;clear hR
    go_enter Tryz.func224,Tryz.ntmps224
    go_wp2_with (first|(go_at_call 228;with_reducible refine (iTake h hq hs).mono ?_;rintro e w1 ⟨rfl,h1,hg1⟩;simp only[h92])|(go_at_call 228;with_reducible refine (iTake h1 hq2 hs).mono ?_;rintro e w2 ⟨rfl,h2,hg2⟩))
    go_ret
    rw[HR.out]
    exact⟨_,rfl,pat_leaf (.inl ⟨rfl,hlt2,rfl,rfl,rfl⟩),h2,hg1.trans hg2⟩
   ·rw[if_pos (gOf_out hq2)] at hR
    have HR:Hid _:=hR;clear hR
    go_enter Tryz.func224,Tryz.ntmps224
    go_wp2_with (first|(go_at_call 228;with_reducible refine (iTake h hq hs).mono ?_;rintro e w1 ⟨rfl,h1,hg1⟩;simp only[h92])|(go_at_call 228;with_reducible refine (iTakeEnd h1 (by omega)).mono ?_;rintro e w2 ⟨rfl,hg2⟩))
    refine⟨rfl,?_⟩
    rw[HR.out]
    exact⟨rfl,hg1.trans hg2⟩
  rw[if_neg h92] at hR
  by_cases hst:gOf s i=42∨gOf s i=43∨gOf s i=63
  ·rw[if_pos hst] at hR
   have HR:Hid _:=hR;clear hR;rcases hst with h0|h0|h0
   ·go_enter Tryz.func224,Tryz.ntmps224
    go_wp2_with (go_at_call 228;with_reducible refine (iTake h hq hs).mono ?_;rintro e w1 ⟨rfl,h1,hg1⟩;simp only[h0];have c1:=h1.err)
    refine⟨rfl,?_⟩
    rw[HR.out]
    exact⟨rfl,hg1⟩
   ·go_enter Tryz.func224,Tryz.ntmps224
    go_wp2_with (go_at_call 228;with_reducible refine (iTake h hq hs).mono ?_;rintro e w1 ⟨rfl,h1,hg1⟩;simp only[h0];have c1:=h1.err)
    refine⟨rfl,?_⟩
    rw[HR.out]
    exact⟨rfl,hg1⟩
   ·go_enter Tryz.func224,Tryz.ntmps224
    go_wp2_with (go_at_call 228;with_reducible refine (iTake h hq hs).mono ?_;rintro e w1 ⟨rfl,h1,hg1⟩;simp only[h0];have c1:=h1.err)
    refine⟨rfl,?_⟩
    rw[HR.out]
    exact⟨rfl,hg1⟩
  ·rw[if_neg hst] at hR
   have HR:Hid _:=hR;clear hR;have n40:((gOf s i:Int)==40)=false:=by simp;omega
   have n46:((gOf s i:Int)==46)=false:=by simp;omega
   have n94:((gOf s i:Int)==94)=false:=by simp;omega
   have n36:((gOf s i:Int)==36)=false:=by simp;omega
   have n91:((gOf s i:Int)==91)=false:=by simp;omega
   have n92:((gOf s i:Int)==92)=false:=by simp;omega
   have n42:((gOf s i:Int)==42)=false:=by simp;omega
   have n43:((gOf s i:Int)==43)=false:=by simp;omega
   have n63:((gOf s i:Int)==63)=false:=by simp;omega
   go_enter Tryz.func224,Tryz.ntmps224
   go_wp2_with (go_at_call 228;with_reducible refine (iTake h hq hs).mono ?_;rintro e w1 ⟨rfl,h1,hg1⟩)
   go_ret
   rw[HR.out]
   exact⟨_,rfl,pat_leaf (.inl ⟨rfl,hlt,rfl,rfl,rfl⟩),h1,hg1⟩
 ·rw[if_pos (gOf_out hq)] at hR
  have HR:Hid _:=hR;clear hR
  go_enter Tryz.func224,Tryz.ntmps224
  go_wp2_with (go_at_call 228;with_reducible refine (iTakeEnd h (by omega)).mono ?_;rintro e w1 ⟨rfl,hg1⟩)
  refine⟨rfl,?_⟩
  rw[HR.out]
  exact⟨rfl,hg1⟩

end Rx
namespace Rx

theorem stars_step (g:Nat→Nat)(f:Nat)(t:Data)(i:Nat):stars g (f+1) t i=if g i=42 then stars g f (one 8 t) (i+1) else if g i=43 then stars g f (one 9 t) (i+1) else if g i=63 then stars g f (one 10 t) (i+1) else (t,i):=rfl

theorem iPiece {p:Nat}{s:ByteArray}{a:Addr}{m:Nat}{A:Nat→Option (Data × Nat)}(hs:s.size≤1000)(hin:∀ i t j,A i=some (t,j)→i<j∧j≤s.size)
  (hA:Parses 224 p s a m A):Parses 211 p s a m (pieceAt (gOf s) s.size A):=by
 intro i w h hi hm
 obtain⟨R,hR⟩:∃ R,R=pieceAt (gOf s) s.size A i:=⟨_,rfl⟩
 rw[← hR]
 unfold pieceAt at hR;rcases hq:A i with _|⟨t0,j0⟩
 ·rw[hq] at hR
  have HR:Hid _:=hR;clear hR
  go_enter Tryz.func211,Tryz.ntmps211
  go_wp2_with (go_at_call 224;refine (hA i w h hi hm).mono ?_;intro e w1 h1;obtain⟨rfl,hg1⟩:=reads_none h1 hq)
  refine⟨rfl,?_⟩
  rw[HR.out]
  exact⟨rfl,hg1⟩
 ·rw[hq] at hR
  have hj0:=(hin i t0 j0 hq).2
  obtain⟨RS,hRS⟩:∃ RS,stars (gOf s) (s.size+1) t0 j0=RS:=⟨_,rfl⟩
  have HL:Hid _:=hRS;have HR:Hid (R=some RS):=by show R=_;rw[hR,← hRS]
  clear hR hRS
  go_enter Tryz.func211,Tryz.ntmps211
  go_wp2_with (go_at_call 224;refine (hA i w h hi hm).mono ?_;intro e w1 h1;obtain⟨v0,rfl,hv0,h2,hg1⟩:=reads_some h1 hq)
  go_loopw [3] (fun v wr=>∃ k t f,Rd p s a k wr∧k≤s.size∧PatIs wr t (Iv w.heap.size wr.heap.size) v∧s.size<f+k∧stars (gOf s) f t k=RS∧w.grownBy wr (some p)) (fun _ wr=>s.size - posOf p wr)
  case atStart=>exact⟨j0,t0,s.size+1,h2,hj0,hv0,by omega,HL.out,hg1⟩
  case round =>
   clear h1 hv0 h2 hg1 HL
   obtain⟨k,t,f,hr,hk,hv,hf,hR,hg⟩:=hrel
   obtain⟨f,rfl⟩:∃ f',f=f'+1:=⟨f - 1,by omega⟩
   obtain⟨T,x,rfl⟩:=pat_iface hv
   rw[stars_step] at hR
   have HP:Hid (posOf p wr=k):=posOf_is hr;have hlt:gOf s k=42∨gOf s k=43∨gOf s k=63→k<s.size:=fun h=>in_of (by omega);have hlo:=h.lt
   by_cases h42:gOf s k=42
   ·rw[if_pos h42] at hR
    have HR2:Hid _:=hR;clear hR;have hkl:=hlt (by omega);clear hlt;have e42:decide (gOf s k=42)=true:=decide_eq_true h42
    go_wp2_with (first|(go_at_call 182;with_reducible refine (iTakeIfC hr hk hs 42 42 (by omega) (by omega)).mono ?_;rintro e wa ⟨rfl,ha,ga⟩;rw[if_pos h42] at ha))
    have gg:=ga;go_roundw
    case rel=>exact⟨k+1,one 8 t,f,ha,hkl,(pat_one (pat_grown hv gg hlo (Nat.le_refl _) (Nat.le_refl _) gg.size)).1,by omega,HR2.out,hg.trans gg⟩
    case measure=>rw[HP.out,posOf_is ha];omega
   rw[if_neg h42] at hR
   by_cases h43:gOf s k=43
   ·rw[if_pos h43] at hR
    have HR2:Hid _:=hR;clear hR;have hkl:=hlt (by omega);clear hlt;have e42:decide (gOf s k=42)=false:=decide_eq_false h42;have e43:decide (gOf s k=43)=true:=decide_eq_true h43
    go_wp2_with (first|(go_at_call 182;with_reducible refine (iTakeIfC hr hk hs 42 42 (by omega) (by omega)).mono ?_;rintro e wa ⟨rfl,ha,ga⟩;rw[if_neg h42] at ha)|(go_at_call 182;with_reducible refine (iTakeIfC ha hk hs 43 43 (by omega) (by omega)).mono ?_;rintro e wb ⟨rfl,hb,gb⟩;rw[if_pos h43] at hb))
    have gg:=(ga.trans gb);go_roundw
    case rel=>exact⟨k+1,one 9 t,f,hb,hkl,(pat_one (pat_grown hv gg hlo (Nat.le_refl _) (Nat.le_refl _) gg.size)).2.1,by omega,HR2.out,hg.trans gg⟩
    case measure=>rw[HP.out,posOf_is hb];omega
   rw[if_neg h43] at hR
   by_cases h63:gOf s k=63
   ·rw[if_pos h63] at hR
    have HR2:Hid _:=hR;clear hR;have hkl:=hlt (by omega);clear hlt;have e42:decide (gOf s k=42)=false:=decide_eq_false h42;have e43:decide (gOf s k=43)=false:=decide_eq_false h43;have e63:decide (gOf s k=63)=true:=decide_eq_true h63
    go_wp2_with (first|(go_at_call 182;with_reducible refine (iTakeIfC hr hk hs 42 42 (by omega) (by omega)).mono ?_;rintro e wa ⟨rfl,ha,ga⟩;rw[if_neg h42] at ha)|(go_at_call 182;with_reducible refine (iTakeIfC ha hk hs 43 43 (by omega) (by omega)).mono ?_;rintro e wb ⟨rfl,hb,gb⟩;rw[if_neg h43] at hb)|(go_at_call 182;with_reducible refine (iTakeIfC hb hk hs 63 63 (by omega) (by omega)).mono ?_;rintro e wc ⟨rfl,hc,gc⟩;rw[if_pos h63] at hc))
    have gg:=((ga.trans gb).trans gc);go_roundw
    case rel=>exact⟨k+1,one 10 t,f,hc,hkl,(pat_one (pat_grown hv gg hlo (Nat.le_refl _) (Nat.le_refl _) gg.size)).2.2,by omega,HR2.out,hg.trans gg⟩
    case measure=>rw[HP.out,posOf_is hc];omega
   rw[if_neg h63] at hR
   have HR2:Hid _:=hR;clear hR hlt;have e42:decide (gOf s k=42)=false:=decide_eq_false h42;have e43:decide (gOf s k=43)=false:=decide_eq_false h43;have e63:decide (gOf s k=63)=false:=decide_eq_false h63
   go_wp2_with (first|(go_at_call 182;with_reducible refine (iTakeIfC hr hk hs 42 42 (by omega) (by omega)).mono ?_;rintro e wa ⟨rfl,ha,ga⟩;rw[if_neg h42] at ha)|(go_at_call 182;with_reducible refine (iTakeIfC ha hk hs 43 43 (by omega) (by omega)).mono ?_;rintro e wb ⟨rfl,hb,gb⟩;rw[if_neg h43] at hb)|(go_at_call 182;with_reducible refine (iTakeIfC hb hk hs 63 63 (by omega) (by omega)).mono ?_;rintro e wc ⟨rfl,hc,gc⟩;rw[if_neg h63] at hc))
   have gg:=(ga.trans gb).trans gc;go_ret
   rw[HR.out,← HR2.out]
   exact⟨_,rfl,pat_grown hv gg hlo (Nat.le_refl _) (Nat.le_refl _) gg.size,hc,hg.trans gg⟩

theorem grown_own {w w2 w3:World}{row row':Option Nat}(h:w.grownBy w2 row)(h':w2.grownBy w3 row')(ho:∀ k,row'=some k→w.heap.size≤k):w.grownBy w3 row :=
 ⟨h'.os.trans h.os,h'.tape.trans h.tape,h'.output.trans h.output,Nat.le_trans h.size h'.size,fun k hk hne=>(h'.block k (Nat.lt_of_lt_of_le hk h.size) fun e=>by have:=ho k e.symm;omega).trans (h.block k hk hne)⟩

theorem owns_grown {w w':World}{B p e size n:Nat}{v:Value}{xs:List Value}(h:w.ownsRow B e size v n xs)(hg:w.grownBy w' (some p))(hp:p<B):w'.ownsRow B e size v n xs :=
 owns_same h fun g hv=>hg.block g (h.lt g hv).2 (by have:=(h.lt g hv).1;simp;omega)

theorem pats_append {wr w2 w3:World}{B p:Nat}{ts:List Data}{t:Data}{v v' x:Value}{xs:List Value}{S:Nat→Prop}{o:Obj}(hown:wr.ownsRow B 167 1 v ts.length xs)(hps:PatsIs wr ts S xs)(hS:∀ k,S k→B≤k∧k<wr.heap.size∧v.ownBlock≠some k)
  (hB:B≤wr.heap.size) (hp:p<B) (hg:wr.grownBy w2 (some p)) (hv:PatIs w2 t (Iv wr.heap.size w2.heap.size) x) (hown3:w3.ownsRow B 167 1 v' (ts.length+1) (xs++[x]))
  (hgr:(w2.alloc o).grownBy w3 v.ownBlock) (hb:v'.ownBlock=v.ownBlock∨v'.ownBlock=some (w2.alloc o).heap.size):Pats w3 B (ts++[t]) v':=by
 refine pats_more (w:=wr) (w1:=w2) hps hS hB hv hg.size (fun k h1 h2 _=>hg.block k h2 (by simp;omega)) (fun k hk=>(hown.lt k hk).2) hown3 (Nat.le_trans (by simp) hgr.size) (fun k h1 h2=>?_) ?_
 ·exact (hgr.block k (by simp;omega) (Ne.symm h2)).trans (Below.heap_alloc _ _ _ h1)
 ·rcases hb with h|h
  ·exact .inl h
  ·exact .inr ⟨_,h,by simp⟩

theorem pats_len' {w:World}{B:Nat}{ts:List Data}{v:Value}(h:Pats w B ts v):∃ ao cap,v=.slice ao ts.length cap:=by
 obtain⟨xs,S,ho,_⟩:=h
 rcases ho.2 with ⟨rfl,hn⟩|⟨g,cap,cur,rfl,_⟩
 ·rw[hn];exact⟨_,_,rfl⟩
 ·exact⟨_,_,rfl⟩

theorem ao_of {w:World}{B b n cap:Nat}{ts:List Data}{ao:Option Addr}(h:Pats w B ts (.slice ao n cap))(hb:Value.ownBlock (.slice ao n cap)=some b):ao=some ⟨b,0,none⟩:=by
 obtain⟨xs,S,ho,_⟩:=h
 rcases ho.2 with ⟨h,_⟩|⟨g,cap',cur,h,_⟩
 ·simp at h;obtain⟨rfl,_⟩:=h;simp[Value.ownBlock] at hb
 ·simp at h;obtain⟨rfl,_⟩:=h;simp[Value.ownBlock] at hb;rw[hb]

theorem pat_same {w w':World}{t:Data}{S:Nat→Prop}{v:Value}(h:PatIs w t S v)(hw:w'.heap=w.heap):PatIs w' t S v:=pat_frame (fun k _=>by rw[hw]) (fun _ h=>h) t v h

theorem Tryz.info167r:(Tryz.prog.info? 167).map (fun i=>(i.zero,i.size,i.bytes))=some (some .nilIface,1,16):=by kernel_rfl

theorem partLoop_step (g:Nat→Nat)(N:Nat)(A:Nat→Option (Data × Nat))(f i:Nat)(ts:List Data):partLoop g N A (f+1) i ts=if g i=256∨g i=124∨g i=41 then some (ts,i) else match pieceAt g N A i with
   | none=>none
   | some (t,j)=>partLoop g N A f j (ts++[t]):=rfl

theorem iPart {p:Nat}{s:ByteArray}{a:Addr}{m:Nat}{A:Nat→Option (Data × Nat)}(hs:s.size≤1000)(hin:∀ i t j,pieceAt (gOf s) s.size A i=some (t,j)→i<j∧j≤s.size)
  (hA:Parses 211 p s a m (pieceAt (gOf s) s.size A)):Parses 181 p s a m (partAt (gOf s) s.size A):=by
 intro i w h hi hm
 obtain⟨R,hR⟩:∃ R,R=partAt (gOf s) s.size A i:=⟨_,rfl⟩
 rw[← hR]
 unfold partAt at hR
 obtain⟨RS,hRS⟩:∃ RS,partLoop (gOf s) s.size A (s.size+1) i []=RS:=⟨_,rfl⟩
 rw[hRS] at hR
 have HL:Hid _:=hRS;have HR:Hid _:=hR;clear hR hRS
 obtain⟨i0,hi0,hz0,hz1,hz2⟩:=info_parts Tryz.info167r
 have hpw:=h.lt;have hew:=h.elt
 go_enter Tryz.func181,Tryz.ntmps181
 go_wp2_with fail
 go_loopw [3] (fun v wr=>∃ k ts f,Rd p s a k wr∧m≤k∧k≤s.size∧ts.length≤k∧Pats wr w.heap.size ts v∧s.size<f+k∧partLoop (gOf s) s.size A f k ts=RS∧w.grownBy wr (some p)) (fun _ wr=>s.size - posOf p wr)
 case atStart=>exact⟨i,[],s.size+1,h,hm,hi,Nat.zero_le _,pats_nil _ _,by omega,HL.out,World.grownBy.refl _ _⟩
 case round =>
  clear h HL hi hm
  obtain⟨k,ts,f,hr,hmk,hk,hlen,hPs,hf,hR,hg⟩:=hrel
  obtain⟨f,rfl⟩:∃ f',f=f'+1:=⟨f - 1,by omega⟩
  rw[partLoop_step] at hR
  have HP:Hid (posOf p wr=k):=posOf_is hr
  by_cases hend:gOf s k=256∨gOf s k=124∨gOf s k=41
  ·rw[if_pos hend] at hR
   have HR2:Hid (R=some (catOf ts,k)):=by show _=_;rw[HR.out,← hR];rfl
   clear hR HR;rcases hend with hend|hend|hend
   ·have e1:decide (gOf s k=256)=true:=decide_eq_true (by omega);clear hend;rcases ts with _|⟨t1,_|⟨t2,ts⟩⟩
    ·obtain⟨ao,cap,rfl⟩:=pats_len' hPs
     clear hPs
     go_wp2_with (first|(go_at_call 166;refine (iAtEnd hr hk).mono ?_;rintro e wa ⟨rfl,na,rfl⟩)|(go_at_call 210;with_reducible refine (iSeesC (hr.drewN _) hk 124 124 (by omega) (by omega)).mono ?_;rintro e wa ⟨rfl,nb,rfl⟩)|(go_at_call 210;with_reducible refine (iSeesC (hr.drewN _) hk 41 41 (by omega) (by omega)).mono ?_;rintro e wa ⟨rfl,nc,rfl⟩))
     go_ret
     rw[HR2.out]
     exact⟨_,rfl,pat_leaf (.inr (.inr (.inr (.inr (.inr ⟨rfl,rfl,rfl,rfl,rfl⟩))))),hr.drewN _,grown_drewN hg _⟩
    ·obtain⟨ao,cap,rfl⟩:=pats_len' hPs
     obtain⟨x,b,hx,hb,hc⟩:=pats_head hPs
     have hao:=ao_of hPs hb;subst hao;clear hPs
     go_wp2_with (first|(go_at_call 166;refine (iAtEnd hr hk).mono ?_;rintro e wa ⟨rfl,na,rfl⟩)|(go_at_call 210;with_reducible refine (iSeesC (hr.drewN _) hk 124 124 (by omega) (by omega)).mono ?_;rintro e wa ⟨rfl,nb,rfl⟩)|(go_at_call 210;with_reducible refine (iSeesC (hr.drewN _) hk 41 41 (by omega) (by omega)).mono ?_;rintro e wa ⟨rfl,nc,rfl⟩))
     go_ret
     rw[HR2.out]
     exact⟨_,rfl,pat_same hx rfl,hr.drewN _,grown_drewN hg _⟩
    ·obtain⟨ao,cap,rfl⟩:=pats_len' hPs
     have hx:=(pats_pat hPs).1
     obtain⟨n,hn⟩:∃ n,n=(t1::t2::ts).length:=⟨_,rfl⟩
     rw[← hn] at hx ⊢
     have n0:((n:Int)==0)=false:=by rw[hn];simp;omega
     have n1:((n:Int)==1)=false:=by rw[hn];simp;omega
     clear hn hlen;clear hPs
     go_wp2_with (first|(go_at_call 166;refine (iAtEnd hr hk).mono ?_;rintro e wa ⟨rfl,na,rfl⟩)|(go_at_call 210;with_reducible refine (iSeesC (hr.drewN _) hk 124 124 (by omega) (by omega)).mono ?_;rintro e wa ⟨rfl,nb,rfl⟩)|(go_at_call 210;with_reducible refine (iSeesC (hr.drewN _) hk 41 41 (by omega) (by omega)).mono ?_;rintro e wa ⟨rfl,nc,rfl⟩))
     go_ret
     rw[HR2.out]
     exact⟨_,rfl,pat_same hx rfl,hr.drewN _,grown_drewN hg _⟩
   ·have e1:decide (gOf s k=256)=false:=decide_eq_false (by omega);have e2:decide (gOf s k=124)=true:=decide_eq_true (by omega);clear hend;rcases ts with _|⟨t1,_|⟨t2,ts⟩⟩
    ·obtain⟨ao,cap,rfl⟩:=pats_len' hPs
     clear hPs
     go_wp2_with (first|(go_at_call 166;refine (iAtEnd hr hk).mono ?_;rintro e wa ⟨rfl,na,rfl⟩)|(go_at_call 210;with_reducible refine (iSeesC (hr.drewN _) hk 124 124 (by omega) (by omega)).mono ?_;rintro e wa ⟨rfl,nb,rfl⟩)|(go_at_call 210;with_reducible refine (iSeesC (hr.drewN _) hk 41 41 (by omega) (by omega)).mono ?_;rintro e wa ⟨rfl,nc,rfl⟩))
     go_ret
     rw[HR2.out]
     exact⟨_,rfl,pat_leaf (.inr (.inr (.inr (.inr (.inr ⟨rfl,rfl,rfl,rfl,rfl⟩))))),hr.drewN _,grown_drewN hg _⟩
    ·obtain⟨ao,cap,rfl⟩:=pats_len' hPs
     obtain⟨x,b,hx,hb,hc⟩:=pats_head hPs
     have hao:=ao_of hPs hb;subst hao;clear hPs
     go_wp2_with (first|(go_at_call 166;refine (iAtEnd hr hk).mono ?_;rintro e wa ⟨rfl,na,rfl⟩)|(go_at_call 210;with_reducible refine (iSeesC (hr.drewN _) hk 124 124 (by omega) (by omega)).mono ?_;rintro e wa ⟨rfl,nb,rfl⟩)|(go_at_call 210;with_reducible refine (iSeesC (hr.drewN _) hk 41 41 (by omega) (by omega)).mono ?_;rintro e wa ⟨rfl,nc,rfl⟩))
     go_ret
     rw[HR2.out]
     exact⟨_,rfl,pat_same hx rfl,hr.drewN _,grown_drewN hg _⟩
    ·obtain⟨ao,cap,rfl⟩:=pats_len' hPs
     have hx:=(pats_pat hPs).1
     obtain⟨n,hn⟩:∃ n,n=(t1::t2::ts).length:=⟨_,rfl⟩
     rw[← hn] at hx ⊢
     have n0:((n:Int)==0)=false:=by rw[hn];simp;omega
     have n1:((n:Int)==1)=false:=by rw[hn];simp;omega
     clear hn hlen;clear hPs
     go_wp2_with (first|(go_at_call 166;refine (iAtEnd hr hk).mono ?_;rintro e wa ⟨rfl,na,rfl⟩)|(go_at_call 210;with_reducible refine (iSeesC (hr.drewN _) hk 124 124 (by omega) (by omega)).mono ?_;rintro e wa ⟨rfl,nb,rfl⟩)|(go_at_call 210;with_reducible refine (iSeesC (hr.drewN _) hk 41 41 (by omega) (by omega)).mono ?_;rintro e wa ⟨rfl,nc,rfl⟩))
     go_ret
     rw[HR2.out]
     exact⟨_,rfl,pat_same hx rfl,hr.drewN _,grown_drewN hg _⟩
   ·have e1:decide (gOf s k=256)=false:=decide_eq_false (by omega);have e2:decide (gOf s k=124)=false:=decide_eq_false (by omega);have e3:decide (gOf s k=41)=true:=decide_eq_true (by omega);clear hend;rcases ts with _|⟨t1,_|⟨t2,ts⟩⟩
    ·obtain⟨ao,cap,rfl⟩:=pats_len' hPs
     clear hPs
     go_wp2_with (first|(go_at_call 166;refine (iAtEnd hr hk).mono ?_;rintro e wa ⟨rfl,na,rfl⟩)|(go_at_call 210;with_reducible refine (iSeesC (hr.drewN _) hk 124 124 (by omega) (by omega)).mono ?_;rintro e wa ⟨rfl,nb,rfl⟩)|(go_at_call 210;with_reducible refine (iSeesC (hr.drewN _) hk 41 41 (by omega) (by omega)).mono ?_;rintro e wa ⟨rfl,nc,rfl⟩))
     go_ret
     rw[HR2.out]
     exact⟨_,rfl,pat_leaf (.inr (.inr (.inr (.inr (.inr ⟨rfl,rfl,rfl,rfl,rfl⟩))))),hr.drewN _,grown_drewN hg _⟩
    ·obtain⟨ao,cap,rfl⟩:=pats_len' hPs
     obtain⟨x,b,hx,hb,hc⟩:=pats_head hPs
     have hao:=ao_of hPs hb;subst hao;clear hPs
     go_wp2_with (first|(go_at_call 166;refine (iAtEnd hr hk).mono ?_;rintro e wa ⟨rfl,na,rfl⟩)|(go_at_call 210;with_reducible refine (iSeesC (hr.drewN _) hk 124 124 (by omega) (by omega)).mono ?_;rintro e wa ⟨rfl,nb,rfl⟩)|(go_at_call 210;with_reducible refine (iSeesC (hr.drewN _) hk 41 41 (by omega) (by omega)).mono ?_;rintro e wa ⟨rfl,nc,rfl⟩))
     go_ret
     rw[HR2.out]
     exact⟨_,rfl,pat_same hx rfl,hr.drewN _,grown_drewN hg _⟩
    ·obtain⟨ao,cap,rfl⟩:=pats_len' hPs
     have hx:=(pats_pat hPs).1
     obtain⟨n,hn⟩:∃ n,n=(t1::t2::ts).length:=⟨_,rfl⟩
     rw[← hn] at hx ⊢
     have n0:((n:Int)==0)=false:=by rw[hn];simp;omega
     have n1:((n:Int)==1)=false:=by rw[hn];simp;omega
     clear hn hlen;clear hPs
     go_wp2_with (first|(go_at_call 166;refine (iAtEnd hr hk).mono ?_;rintro e wa ⟨rfl,na,rfl⟩)|(go_at_call 210;with_reducible refine (iSeesC (hr.drewN _) hk 124 124 (by omega) (by omega)).mono ?_;rintro e wa ⟨rfl,nb,rfl⟩)|(go_at_call 210;with_reducible refine (iSeesC (hr.drewN _) hk 41 41 (by omega) (by omega)).mono ?_;rintro e wa ⟨rfl,nc,rfl⟩))
     go_ret
     rw[HR2.out]
     exact⟨_,rfl,pat_same hx rfl,hr.drewN _,grown_drewN hg _⟩
  ·rw[if_neg hend] at hR
   have e1:decide (gOf s k=256)=false:=decide_eq_false (by omega);have e2:decide (gOf s k=124)=false:=decide_eq_false (by omega);have e3:decide (gOf s k=41)=false:=decide_eq_false (by omega);clear hend;rcases hq:pieceAt (gOf s) s.size A k with _|⟨t,j⟩
   ·rw[hq] at hR
    have HR2:Hid (R=none):=by show _=_;rw[HR.out,← hR];rfl
    clear hR HR hPs
    go_wp2_with (first|(go_at_call 166;refine (iAtEnd hr hk).mono ?_;rintro e wa ⟨rfl,na,rfl⟩)|(go_at_call 210;with_reducible refine (iSeesC (hr.drewN _) hk 124 124 (by omega) (by omega)).mono ?_;rintro e wa ⟨rfl,nb,rfl⟩)|(go_at_call 210;with_reducible refine (iSeesC (hr.drewN _) hk 41 41 (by omega) (by omega)).mono ?_;rintro e wa ⟨rfl,nc,rfl⟩)|(go_at_call 211;refine (hA k _ (hr.drewN _) hk hmk).mono ?_;intro e w1 h1;obtain⟨rfl,hg1⟩:=reads_none h1 hq))
    refine⟨rfl,?_⟩
    rw[HR2.out]
    exact⟨rfl,hg.trans (grown_drewN_left hg1)⟩
   ·rw[hq] at hR
    have HR2:Hid _:=hR
    obtain⟨j1,j2⟩:=hin k t j hq
    obtain⟨xs,S,hown,hps,hS⟩:=hPs
    have hsz:=hg.size;have hl1:(ts.length:Int)≤1000:=by omega
    clear hR HR
    go_wp2_with (first|(go_at_call 166;refine (iAtEnd hr hk).mono ?_;rintro e wa ⟨rfl,na,rfl⟩)|(go_at_call 210;with_reducible refine (iSeesC (hr.drewN _) hk 124 124 (by omega) (by omega)).mono ?_;rintro e wa ⟨rfl,nb,rfl⟩)|(go_at_call 210;with_reducible refine (iSeesC (hr.drewN _) hk 41 41 (by omega) (by omega)).mono ?_;rintro e wa ⟨rfl,nc,rfl⟩)|(go_at_call 211;refine (hA k _ (hr.drewN _) hk hmk).mono ?_;intro e w1 h1;obtain⟨v1,rfl,hv1,h2,hg1⟩:=reads_some h1 hq;obtain⟨T1,x1,rfl⟩:=pat_iface hv1;have hown1:=owns_grown hown (grown_drewN_left hg1) hpw;have hsz1:=(grown_drewN_left hg1).size)|(at_builtin;refine wpList_append_own_at _ rfl _ _ 230 rfl w.heap.size 167 i0 .nilIface 1 16 Tryz.underlying230 hi0 hz0 hz1 hz2 rfl (by decide) _ _ _ rfl (hown1.alloc _) ⟨w1.heap.size,0,none⟩ 1 1 [.iface T1 x1] rfl rfl (cell_one_new _ _ _) (by simp[Value.oneCell']) (by unfold maxLen;omega) (by omega) (by simp;omega) ?_;intro v' w3 hown3 hgr3 _ hb3))
    have hg1':=grown_drewN_left hg1;have hown0:∀ b,(Value.ownBlock u3)=some b→w.heap.size≤b:=fun b hb=>(hown.lt b hb).1;have hr3:Rd p s a j w3:=(h2.grown (World.grownBy_alloc _ _ none) (by simp) (by simp)).grown hgr3 (fun e=>by have:=hown0 _ e;omega) (fun e=>by have:=hown0 _ e;omega);go_roundw
    case rel=>exact⟨j,ts++[t],f,hr3,by omega,j2,by simp;omega,pats_append hown hps hS hsz hpw hg1' hv1 hown3 hgr3 hb3,by omega,HR2.out,grown_own (hg.trans (hg1'.trans (World.grownBy_alloc _ _ _))) hgr3 hown0⟩
    case measure=>rw[HP.out,posOf_is hr3];omega

end Rx
end Go.Proofs.YtllbachngocmnaaGreatDoor
