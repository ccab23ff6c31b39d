/-
  Texts that ascend, each once; the specification's l10Put.
-/
import Derived.Test.YtllbachngocmnaaGreatDoorP04
import Derived.Sort.Walk0
import Derived.Sort.EncStr
namespace Go.Proofs.YtllbachngocmnaaGreatDoor
open Go.RowKit
namespace Ck
open Nd Ty

def putS (ss:List (List UInt8))(s:List UInt8):List (List UInt8):=if s∈ss then ss else ss.takeWhile (fun x=>decide (x<s))++s::ss.dropWhile (fun x=>decide (x<s))
def ascS (ns:List (List UInt8)):List (List UInt8):=ns.foldl putS []
theorem putS_mem {ss:List (List UInt8)}{s x:List UInt8}:x∈putS ss s↔x∈ss∨x=s:=by
 unfold putS
 split
 ·rename_i h
  constructor
  ·exact .inl
  ·rintro (h'|rfl) <;> assumption
 ·have:=List.takeWhile_append_dropWhile (p:=fun x=>decide (x<s)) (l:=ss)
  constructor
  ·intro h
   rw[← this]
   simp only[List.mem_append,List.mem_cons] at h ⊢
   grind
  ·intro h
   rw[← this] at h
   simp only[List.mem_append,List.mem_cons] at h ⊢
   grind
theorem lt_trans' {a b c:List UInt8}(h:a<b)(h':b<c):a<c:=List.lt_trans h h'
theorem lt_of_not {a b:List UInt8}(h:¬ a<b)(hne:a≠b):b<a:=by
 rcases List.le_total a b with hl|hl
 ·exact absurd (Classical.byContradiction fun hn=>hne (List.le_antisymm hl (List.not_lt.1 hn))) h
 ·exact Classical.byContradiction fun hn=>hne (List.le_antisymm (List.not_lt.1 hn) hl)
theorem putS_asc {s:List UInt8}:∀ {ss:List (List UInt8)},ss.Pairwise (·<·)→s∉ss→(ss.takeWhile (fun x=>decide (x<s))++s::ss.dropWhile (fun x=>decide (x<s))).Pairwise (·<·)
 | [],_,_=>by simp
 | a::ss,h,hs=>by
  have ha:=List.pairwise_cons.1 h
  by_cases hl:a<s
  ·rw[List.takeWhile_cons_of_pos (by simpa using hl),List.dropWhile_cons_of_pos (by simpa using hl),List.cons_append]
   refine List.pairwise_cons.2 ⟨fun x hx=>?_,putS_asc ha.2 fun h=>hs (by simp[h])⟩;have hx':x=s∨x∈ss:=by
    have:=List.takeWhile_append_dropWhile (p:=fun x=>decide (x<s)) (l:=ss)
    rw[← this]
    simp only[List.mem_append,List.mem_cons] at hx ⊢
    grind
   rcases hx' with rfl|hx'
   ·exact hl
   ·exact ha.1 x hx'
  ·rw[List.takeWhile_cons_of_neg (by simpa using hl),List.dropWhile_cons_of_neg (by simpa using hl),List.nil_append]
   have h1:s<a:=lt_of_not hl fun e=>hs (by simp[e]);refine List.pairwise_cons.2 ⟨fun x hx=>?_,h⟩;rcases List.mem_cons.1 hx with rfl|hx
   ·exact h1
   ·exact lt_trans' h1 (ha.1 x hx)
theorem putS_asc' {ss:List (List UInt8)}{s:List UInt8}(h:ss.Pairwise (·<·)):(putS ss s).Pairwise (·<·):=by
 unfold putS
 split
 ·exact h
 ·rename_i hn;exact putS_asc h hn
theorem foldl_asc:∀ (ns ss:List (List UInt8)),ss.Pairwise (·<·)→(ns.foldl putS ss).Pairwise (·<·)
 | [],_,h=>h
 | _::ns,_,h=>foldl_asc ns _ (putS_asc' h)
theorem foldl_mem {x:List UInt8}:∀ {ns ss:List (List UInt8)},x∈ns.foldl putS ss↔x∈ss∨x∈ns
 | [],_=>by simp
 | _::_,_=>by
  rw[List.foldl_cons,foldl_mem,putS_mem]
  simp only[List.mem_cons]
  grind
theorem ascS_asc (ns:List (List UInt8)):(ascS ns).Pairwise (·<·):=foldl_asc ns [] List.Pairwise.nil
theorem ascS_mem {x:List UInt8}{ns:List (List UInt8)}:x∈ascS ns↔x∈ns:=by unfold ascS;rw[foldl_mem];simp
theorem asc_nodup {ss:List (List UInt8)}(h:ss.Pairwise (·<·)):ss.Nodup:=h.imp fun {a b} hl e=>by subst e;exact List.lt_irrefl _ hl
theorem sort_asc {ss:List (List UInt8)}{ns:List (List UInt8)}(hnd:ss.Nodup)(hm:∀ x,x∈ss↔x∈ns):ss.mergeSort leB=ascS ns:=by
 have hp:ss.Perm (ascS ns):=(List.perm_ext_iff_of_nodup hnd (asc_nodup (ascS_asc ns))).2 fun x=>by rw[hm,ascS_mem]
 rw[mergeSort_of_perm hp]
 exact List.mergeSort_of_pairwise ((ascS_asc ns).imp fun {a b} h=>by simp only[leB,decide_eq_true_eq];exact List.le_of_lt h)
theorem putS_len (ss:List (List UInt8))(s:List UInt8):(putS ss s).length≤ss.length+1:=by
 unfold putS
 split
 ·omega
 ·have:=congrArg List.length (List.takeWhile_append_dropWhile (p:=fun x=>decide (x<s)) (l:=ss))
  simp only[List.length_append,List.length_cons] at this ⊢;omega
theorem foldl_len:∀ (ns ss:List (List UInt8)),(ns.foldl putS ss).length≤ss.length+ns.length
 | [],ss=>by simp
 | n::ns,ss=>by
  have:=foldl_len ns (putS ss n)
  have:=putS_len ss n
  simp only[List.foldl_cons,List.length_cons];omega

def TxtRow (w:World)(g cap:Nat)(ss:List (List UInt8)):Prop:=w.ownsRow 0 9 1 (.slice (some ⟨g,0,none⟩) ss.length cap) ss.length (ss.map encStr)
theorem TxtRow.cell {w:World}{g cap:Nat}{ss:List (List UInt8)}(h:TxtRow w g cap ss){k:Nat}{x:List UInt8}(hk:ss[k]?=some x):w.cell? ⟨g,k,none⟩=some (.string ⟨x.toArray⟩):=by
 have hl:k<ss.length:=(List.getElem?_eq_some_iff.1 hk).1
 obtain⟨g',e,_,hc⟩:=row_cells h hl
 simp at e;subst e;exact hc k _ (by rw[List.getElem?_map,hk];rfl)
theorem TxtRow.lt {w:World}{g cap:Nat}{ss:List (List UInt8)}(h:TxtRow w g cap ss):g<w.heap.size:=(World.ownsRow.lt h g rfl).2
theorem TxtRow.same {w w':World}{g cap:Nat}{ss:List (List UInt8)}(h:TxtRow w g cap ss)(hb:w'.heap[g]?=w.heap[g]?):TxtRow w' g cap ss:=owns_same h fun g' e=>by simp[Value.ownBlock] at e;subst e;exact hb
theorem TxtRow.later {w w':World}{g cap:Nat}{ss:List (List UInt8)}(h:TxtRow w g cap ss)(hb:Below w.heap.size w w'):TxtRow w' g cap ss:=h.same (hb.block g h.lt)

set_option maxRecDepth 100000 in
theorem sWithinT {L:List (List UInt8)}(hL:L.length≤3000000)(s:List UInt8)(g cap:Nat)(w:World)(hw:TxtRow w g cap L):
  Calls Tryz.prog 37 #[.slice (some ⟨g,0,none⟩) L.length cap,.string ⟨s.toArray⟩] w fun e w'=>e=.returned (.bool (decide (s∈L)))∧w'=w:=by
 have bn:(L.length:Int)≤3000000:=by omega
 clear hL
 go_enter Tryz.func37,Tryz.ntmps37
 go_wp2_with fail
 go_loopw [5] (fun i wr=>∃ k:Nat,k≤L.length∧i=.int .i64 k∧wr=w∧s∉L.take k) (fun i _=>L.length - (intOf i).toNat)
 case atStart=>exact⟨0,by omega,rfl,rfl,by simp⟩
 case round =>
  obtain⟨k,hk,rfl,rfl,hno⟩:=hrel
  by_cases hkl:k<L.length
  ·have hki:L[k]?=some L[k]:=List.getElem?_eq_getElem hkl;have hc:=hw.cell hki;have bk:(k:Int)<L.length:=by omega
   have hT:L.take (k+1)=L.take k++[L[k]]:=by rw[List.take_add_one,hki];rfl
   by_cases hs:L[k]=s
   ·have H:Hid (decide (s∈L)=true):=by show _=_;simp;rw[← hs];exact List.getElem_mem hkl
    rw[hs] at hc
    clear hki hT;go_wp2_with fail;go_ret
    exact⟨by rw[H.out];rfl,rfl⟩
   ·have H:Hid (s∉L.take (k+1)):=by show ¬ s∈_;rw[hT,List.mem_append];rintro (h|h);exact hno h;exact hs (List.mem_singleton.1 h).symm
    have e1:(L[k]==s)=false:=beq_eq_false_iff_ne.2 hs;clear hki hT hs hno;go_wp2_with fail;go_roundw
    case rel=>exact⟨k+1,by omega,by go_num,by trivial,H.out⟩
    case measure=>simp[intOf];omega
  ·obtain rfl:k=L.length:=by omega
   rw[List.take_length] at hno
   have H:Hid (decide (s∈L)=false):=by show _=_;simpa using hno
   clear hno;go_wp2_with fail;go_ret
   exact⟨by rw[H.out];rfl,rfl⟩

theorem Tryz.infoStrT:(Tryz.prog.info? 9).map (fun i=>(i.zero,i.size,i.bytes))=some (some (.string ⟨#[]⟩),1,16):=by kernel_rfl
theorem enc_one (ss:List (List UInt8)):∀ u∈ss.map encStr,u.oneCell'=true:=by
 intro u hu
 obtain⟨x,_,rfl⟩:=List.mem_map.1 hu
 rfl
theorem takeWhile_take {p:List UInt8→Bool}:∀ {ss:List (List UInt8)} {k:Nat},(∀ x∈ss.take k,p x=true)→(∀ x,ss[k]?=some x→p x=false)→ss.takeWhile p=ss.take k∧ss.dropWhile p=ss.drop k
 | [],k,_,_=>by simp
 | a::ss,0,_,h=>by
  have:=h a rfl
  simp[this]
 | a::ss,k+1,h,h'=>by
  have h1:=h a (by simp);have ih:=takeWhile_take (p:=p) (ss:=ss) (k:=k) (fun x hx=>h x (by simp[hx])) (fun x hx=>h' x (by simpa using hx))
  rw[List.takeWhile_cons_of_pos h1,List.dropWhile_cons_of_pos h1]
  simp[ih.1,ih.2]

set_option maxHeartbeats 1000000 in
set_option maxRecDepth 100000 in
theorem sPut {ss:List (List UInt8)}{s:List UInt8}{g cap:Nat}{w:World}(hw:TxtRow w g cap ss)(hL:ss.length≤2500000):
  Calls Tryz.prog 70 #[.slice (some ⟨g,0,none⟩) ss.length cap,.string ⟨s.toArray⟩] w fun e w'=>∃ g' cap',e=.returned (.slice (some ⟨g',0,none⟩) (putS ss s).length cap')∧TxtRow w' g' cap' (putS ss s)∧Below w.heap.size w w':=by
 have cw:=sWithinT (by omega) s g cap w hw;have bn:(ss.length:Int)≤2500000:=by omega
 by_cases hin:s∈ss
 ·have hp:putS ss s=ss:=by unfold putS;rw[if_pos hin]
  rw[hp]
  rw[decide_eq_true hin] at cw
  clear hp
  go_enter Tryz.func70,Tryz.ntmps70
  go_wp2_with (go_at_call 37;refine cw.mono ?_;rintro e w2 ⟨rfl,rfl⟩)
  go_ret
  exact⟨g,cap,rfl,hw,Below.refl _ _⟩
 ·rw[decide_eq_false hin] at cw
  obtain⟨R,hR⟩:∃ R,R=putS ss s:=⟨_,rfl⟩
  have HP:Hid (R=ss.takeWhile (fun x=>decide (x<s))++s::ss.dropWhile (fun x=>decide (x<s))):=by show R=_;rw[hR];unfold putS;rw[if_neg hin]
  rw[← hR]
  clear hR
  obtain⟨i0,hi0,hz0,hz1,hz2⟩:=info_parts Tryz.infoStrT
  go_enter Tryz.func70,Tryz.ntmps70
  go_wp2_with (go_at_call 37;refine cw.mono ?_;rintro e w2 ⟨rfl,rfl⟩)
  go_loopw [5] (fun i wr=>∃ k:Nat,k≤ss.length∧i=.int .i64 k∧wr=w2∧∀ x∈ss.take k,decide (x<s)=true) (fun i _=>ss.length - (intOf i).toNat)
  case atStart=>exact⟨0,by omega,rfl,rfl,by simp⟩
  case round =>
   obtain⟨k,hk,rfl,rfl,hall⟩:=hrel
   by_cases hgo:∃ x,ss[k]?=some x∧x<s
   ·obtain⟨x,hx,hlt⟩:=hgo
    have hkl:k<ss.length:=(List.getElem?_eq_some_iff.1 hx).1;have hc:=hw.cell hx;have bk:(k:Int)<ss.length:=by omega
    have hbl:Op.bytesLess x s=true:=by rw[bytesLess_eq];simpa using hlt
    have H:Hid (∀ y∈ss.take (k+1),decide (y<s)=true):=by
     intro y hy
     rw[List.take_add_one,hx,List.mem_append] at hy
     rcases hy with hy|hy
     ·exact hall y hy
     ·simp at hy;subst hy;simpa using hlt
    clear hall hx hlt;go_wp2_with fail;go_roundw
    case rel=>exact⟨k+1,by omega,by go_num,by trivial,H.out⟩
    case measure=>simp[intOf];omega
   ·have hstop:=takeWhile_take (p:=fun x=>decide (x<s)) hall (fun x hx=>by simp only[decide_eq_false_iff_not];exact fun hlt=>hgo ⟨x,hx,hlt⟩);have hbl:∀ x,ss[k]?=some x→wr.cell? ⟨g,k,none⟩=some (.string ⟨x.toArray⟩)∧Op.bytesLess x s=false:=fun x hx=>⟨hw.cell hx,by rw[bytesLess_eq];simp only[decide_eq_false_iff_not];exact fun hlt=>hgo ⟨x,hx,hlt⟩⟩;have HST:Hid (R=ss.take k++s::ss.drop k):=by show R=_;rw[HP.out,hstop.1,hstop.2]
    obtain⟨o1,ho1⟩:∃ o1,o1=Obj.cells #[] 9:=⟨_,rfl⟩
    have r0:(wr.alloc o1).ownsRow wr.heap.size 9 1 (.slice (some ⟨wr.heap.size,0,none⟩) 0 0) 0 []:=⟨rfl,.inr ⟨_,0,_,rfl,Nat.le_refl _,by rw[ho1];exact heap_new _ _,Nat.le_refl _,by unfold maxLen;omega,rfl,rfl⟩⟩;have cells:∀ w',Below wr.heap.size wr w'→∀ (a:Nat) (j:Nat) (u:Value),((ss.drop a).map encStr)[j]?=some u→w'.cell? ((⟨g,a,none⟩:Addr).add j)=some u:=by
     intro w' hb a j u hj
     rw[List.getElem?_map,List.getElem?_drop] at hj
     obtain⟨x,hx,rfl⟩:=Option.map_eq_some_iff.1 hj
     have hadd:(⟨g,a,none⟩:Addr).add j=⟨g,a+j,none⟩:=by unfold Addr.add;split <;> simp_all
     rw[hadd]
     exact (hb.cell (p:=⟨g,a+j,none⟩) hw.lt).trans (hw.cell hx)
    have cells0:∀ w',Below wr.heap.size wr w'→∀ (j:Nat) (u:Value),((ss.take k).map encStr)[j]?=some u→w'.cell? ((⟨g,0,none⟩:Addr).add j)=some u:=by
     intro w' hb j u hj;refine cells w' hb 0 j u ?_
     rw[List.getElem?_map,List.getElem?_take] at hj
     rw[List.drop_zero,List.getElem?_map]
     split at hj
     ·exact hj
     ·simp at hj
    have hkI:(k:Int)≤ss.length:=by omega
    have HS:Hid _:=And.intro hk hL;have hbA:Below wr.heap.size wr (wr.alloc o1):=(Below.refl _ wr).alloc (Nat.le_refl _) _;have hcA:=cells0 _ hbA;have hfin:∀ w3 v3,w3.ownsRow wr.heap.size 9 1 v3 (k+1+(ss.length - k)) (((ss.take k).map encStr++[encStr s])++(ss.drop k).map encStr)→∃ g' cap',Ending.returned v3=.returned (.slice (some ⟨g',0,none⟩) (ss.take k++s::ss.drop k).length cap')∧TxtRow w3 g' cap' (ss.take k++s::ss.drop k):=by
     intro w3 v3 h;have hlen:(ss.take k++s::ss.drop k).length=k+1+(ss.length - k):=by simp;omega
     have hmap:(ss.take k++s::ss.drop k).map encStr=((ss.take k).map encStr++[encStr s])++(ss.drop k).map encStr:=by simp
     obtain⟨ao,cap',rfl⟩:=owns_slice h
     obtain⟨g',cur,rfl,_⟩:=owns_block h (by omega)
     refine⟨g',cap',by rw[hlen],?_⟩
     unfold TxtRow
     rw[hlen,hmap]
     exact owns_base h (Nat.zero_le _)
    clear hall hgo hstop hin cw hL hk;have hcap:ss.length≤cap:=by
     rcases hw.2 with ⟨e,_⟩|⟨g',cap',cur,e,_,_,hc,_⟩
     ·simp at e
     ·simp only[Value.slice.injEq] at e;omega
    have hcI:(ss.length:Int)≤cap:=by omega
    have hkI2:(k:Int)≤cap:=by omega
    by_cases hkl:k<ss.length
    ·obtain⟨c0,l0⟩:=hbl _ (List.getElem?_eq_getElem hkl)
     have bk:(k:Int)<ss.length:=by omega
     generalize ss[k]=x0 at *;subst ho1;clear hcap hkl hw hbl
     go_wp2_with (first
      | (at_builtin;refine wpList_append_own_at _ rfl _ _ 24 rfl wr.heap.size 9 i0 (.string ⟨#[]⟩) 1 16 Tryz.underlying24 hi0 hz0 hz1 hz2 rfl (by decide) _ _ _ rfl r0 ⟨g,0,none⟩ k _ ((ss.take k).map encStr) rfl (by have:=HS.out.1;simp;omega) hcA (enc_one _) (by have:=HS.out.2;have:=HS.out.1;unfold maxLen;omega) (by have:=HS.out.2;have:=HS.out.1;omega) (by simp) ?_;clear r0;intro v1 w1 hown1 hgr1 _ _;rw[Nat.zero_add,List.nil_append] at hown1;have hB1:Below wr.heap.size wr w1:=hbA.grown hgr1 (by simp) (fun k e=>by cases e;exact Nat.le_refl _);obtain⟨ao1,cp1,rfl⟩:=owns_slice hown1;have hs1:=hB1.size)
      | (at_builtin;refine wpList_append_own_at _ rfl _ _ 24 rfl wr.heap.size 9 i0 (.string ⟨#[]⟩) 1 16 Tryz.underlying24 hi0 hz0 hz1 hz2 rfl (by decide) _ _ _ rfl (hown1.alloc _) ⟨w1.heap.size,0,none⟩ 1 1 [encStr s] rfl rfl (cell_one_new _ _ _) (by simp[Value.oneCell']) (by have:=HS.out.2;have:=HS.out.1;unfold maxLen;omega) (by have:=HS.out.2;have:=HS.out.1;omega) (by simp;omega) ?_;have hl1:=hown1.lt;clear hown1;intro v2 w2 hown2 hgr2 _ _;have hB2:Below wr.heap.size wr w2:=(hB1.alloc hs1 _).grown hgr2 (by simp;omega) (fun k e=>(hl1 k e).1);obtain⟨ao2,cp2,rfl⟩:=owns_slice hown2;have hs2:=hB2.size;have hcB:=cells w2 hB2 k)
      | (at_builtin;refine wpList_append_own_at _ rfl _ _ 24 rfl wr.heap.size 9 i0 (.string ⟨#[]⟩) 1 16 Tryz.underlying24 hi0 hz0 hz1 hz2 rfl (by decide) _ _ _ rfl hown2 ⟨g,k,none⟩ (ss.length - k) _ ((ss.drop k).map encStr) rfl (by simp) hcB (enc_one _) (by have:=HS.out.2;have:=HS.out.1;unfold maxLen;omega) (by have:=HS.out.2;have:=HS.out.1;omega) (by omega) ?_;have hl2:=hown2.lt;clear hown2;intro v3 w3 hown3 hgr3 _ _;have hB3:Below wr.heap.size wr w3:=hB2.grown hgr3 hs2 (fun k e=>(hl2 k e).1)))
     go_ret
     obtain⟨g',cap',e1,e2⟩:=hfin _ _ hown3
     rw[HST.out]
     exact⟨g',cap',e1,e2,hB3⟩
    ·have bk:¬ (k:Int)<ss.length:=by omega
     have HKL:Hid (ss.drop k=[]):=by show _=_;rw[List.drop_eq_nil_iff];omega
     subst ho1;clear hkl hw hbl;have hck:k≤cap:=by omega
     rcases Nat.lt_or_eq_of_le hck with hlt|rfl
     ·have hltI:(k:Int)<cap:=by omega
      clear hck hlt hcap
      go_wp2_with (first
       | (at_builtin;refine wpList_append_own_at _ rfl _ _ 24 rfl wr.heap.size 9 i0 (.string ⟨#[]⟩) 1 16 Tryz.underlying24 hi0 hz0 hz1 hz2 rfl (by decide) _ _ _ rfl r0 ⟨g,0,none⟩ k _ ((ss.take k).map encStr) rfl (by have:=HS.out.1;simp;omega) hcA (enc_one _) (by have:=HS.out.2;have:=HS.out.1;unfold maxLen;omega) (by have:=HS.out.2;have:=HS.out.1;omega) (by simp) ?_;clear r0;intro v1 w1 hown1 hgr1 _ _;rw[Nat.zero_add,List.nil_append] at hown1;have hB1:Below wr.heap.size wr w1:=hbA.grown hgr1 (by simp) (fun k e=>by cases e;exact Nat.le_refl _);obtain⟨ao1,cp1,rfl⟩:=owns_slice hown1;have hs1:=hB1.size)
       | (at_builtin;refine wpList_append_own_at _ rfl _ _ 24 rfl wr.heap.size 9 i0 (.string ⟨#[]⟩) 1 16 Tryz.underlying24 hi0 hz0 hz1 hz2 rfl (by decide) _ _ _ rfl (hown1.alloc _) ⟨w1.heap.size,0,none⟩ 1 1 [encStr s] rfl rfl (cell_one_new _ _ _) (by simp[Value.oneCell']) (by have:=HS.out.2;have:=HS.out.1;unfold maxLen;omega) (by have:=HS.out.2;have:=HS.out.1;omega) (by simp;omega) ?_;have hl1:=hown1.lt;clear hown1;intro v2 w2 hown2 hgr2 _ _;have hB2:Below wr.heap.size wr w2:=(hB1.alloc hs1 _).grown hgr2 (by simp;omega) (fun k e=>(hl1 k e).1);obtain⟨ao2,cp2,rfl⟩:=owns_slice hown2;have hs2:=hB2.size;have hcB:=cells w2 hB2 k)
       | (at_builtin;refine wpList_append_own_at _ rfl _ _ 24 rfl wr.heap.size 9 i0 (.string ⟨#[]⟩) 1 16 Tryz.underlying24 hi0 hz0 hz1 hz2 rfl (by decide) _ _ _ rfl hown2 ⟨g,k,none⟩ (ss.length - k) _ ((ss.drop k).map encStr) rfl (by simp) hcB (enc_one _) (by have:=HS.out.2;have:=HS.out.1;unfold maxLen;omega) (by have:=HS.out.2;have:=HS.out.1;omega) (by omega) ?_;have hl2:=hown2.lt;clear hown2;intro v3 w3 hown3 hgr3 _ _;have hB3:Below wr.heap.size wr w3:=hB2.grown hgr3 hs2 (fun k e=>(hl2 k e).1)))
      go_ret
      obtain⟨g',cap',e1,e2⟩:=hfin _ _ hown3
      rw[HST.out]
      exact⟨g',cap',e1,e2,hB3⟩
     ·clear hck hkI2 hcap
      go_wp2_with (first
       | (at_builtin;refine wpList_append_own_at _ rfl _ _ 24 rfl wr.heap.size 9 i0 (.string ⟨#[]⟩) 1 16 Tryz.underlying24 hi0 hz0 hz1 hz2 rfl (by decide) _ _ _ rfl r0 ⟨g,0,none⟩ k _ ((ss.take k).map encStr) rfl (by have:=HS.out.1;simp;omega) hcA (enc_one _) (by have:=HS.out.2;have:=HS.out.1;unfold maxLen;omega) (by have:=HS.out.2;have:=HS.out.1;omega) (by simp) ?_;clear r0;intro v1 w1 hown1 hgr1 _ _;rw[Nat.zero_add,List.nil_append] at hown1;have hB1:Below wr.heap.size wr w1:=hbA.grown hgr1 (by simp) (fun k e=>by cases e;exact Nat.le_refl _);obtain⟨ao1,cp1,rfl⟩:=owns_slice hown1;have hs1:=hB1.size)
       | (at_builtin;refine wpList_append_own_at _ rfl _ _ 24 rfl wr.heap.size 9 i0 (.string ⟨#[]⟩) 1 16 Tryz.underlying24 hi0 hz0 hz1 hz2 rfl (by decide) _ _ _ rfl (hown1.alloc _) ⟨w1.heap.size,0,none⟩ 1 1 [encStr s] rfl rfl (cell_one_new _ _ _) (by simp[Value.oneCell']) (by have:=HS.out.2;have:=HS.out.1;unfold maxLen;omega) (by have:=HS.out.2;have:=HS.out.1;omega) (by simp;omega) ?_;have hl1:=hown1.lt;clear hown1;intro v2 w2 hown2 hgr2 _ _;have hB2:Below wr.heap.size wr w2:=(hB1.alloc hs1 _).grown hgr2 (by simp;omega) (fun k e=>(hl1 k e).1);obtain⟨ao2,cp2,rfl⟩:=owns_slice hown2;have hs2:=hB2.size;have hcB:=cells w2 hB2 k)
       | (at_builtin;refine wpList_append_own_at _ rfl _ _ 24 rfl wr.heap.size 9 i0 (.string ⟨#[]⟩) 1 16 Tryz.underlying24 hi0 hz0 hz1 hz2 rfl (by decide) _ _ _ rfl hown2 ⟨g,0,none⟩ (ss.length - k) _ ((ss.drop k).map encStr) rfl (by simp) (fun j u hj=>by rw[HKL.out] at hj;simp at hj) (enc_one _) (by have:=HS.out.2;have:=HS.out.1;unfold maxLen;omega) (by have:=HS.out.2;have:=HS.out.1;omega) (by omega) ?_;have hl2:=hown2.lt;clear hown2;intro v3 w3 hown3 hgr3 _ _;have hB3:Below wr.heap.size wr w3:=hB2.grown hgr3 hs2 (fun k e=>(hl2 k e).1)))
      go_ret
      obtain⟨g',cap',e1,e2⟩:=hfin _ _ hown3
      rw[HST.out]
      exact⟨g',cap',e1,e2,hB3⟩

end Ck
end Go.Proofs.YtllbachngocmnaaGreatDoor
