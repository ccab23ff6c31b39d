/-
  A pattern in the heap: an interface with a type for each op.
-/
import Derived.Test.YtllbachngocmnaaGreatDoorP22
import Derived.Test.YtllbachngocmnaaGreatDoorProg
import Derived.WalkKit
import Derived.WalkLawsBesides
import Derived.Deep.QuietTactic
import Derived.BigQuiet
import Derived.Deep.RegionWith
import Derived.Deep.WholeRow
namespace Go.Proofs.YtllbachngocmnaaGreatDoor
open Go.RowKit
namespace Rx

def Leaf (op c:Nat)(s:List UInt8)(no:Bool)(v:Value):Prop :=
  (op=1∧c<256∧s=[]∧no=false∧v=.iface 216 (.int .u8 c)) ∨
  (op=2∧c=0∧s=[]∧no=false∧v=.iface 276 (.agg #[])) ∨
  (op=3∧c=0∧v=.iface 218 (.agg #[.string ⟨s.toArray⟩,.bool no])) ∨
  (op=4∧c=0∧s=[]∧no=false∧v=.iface 277 (.agg #[])) ∨
  (op=5∧c=0∧s=[]∧no=false∧v=.iface 278 (.agg #[])) ∨
  (op=11∧c=0∧s=[]∧no=false∧v=.iface 254 (.agg #[]))

mutual
def PatIs (w:World):Data→(Nat→Prop)→Value→Prop
  | .slice ks lab,S,v=>∃ (op c:Nat) (s:List UInt8) (no:Bool),lab=[.lit (.int .i64 op),.lit (.int .i64 c),.lit (.string s),.lit (.bool no)] ∧
      ((ks=[]∧Leaf op c s no v) ∨
       (c=0∧s=[]∧no=false∧∃ x,PatsIs w ks S [x]∧((op=8∧v=.iface 232 (.agg #[x]))∨(op=9∧v=.iface 233 (.agg #[x]))∨(op=10∧v=.iface 234 (.agg #[x])))) ∨
       (c=0∧s=[]∧no=false∧∃ u xs,w.ownsRow 0 167 1 u ks.length xs∧(∀ g,u.ownBlock=some g→S g)∧PatsIs w ks S xs∧((op=6∧v=.iface 230 u)∨(op=7∧v=.iface 229 u))))
  | _,_,_=>False
def PatsIs (w:World):List Data→(Nat→Prop)→List Value→Prop
  | [],_,xs=>xs=[]
  | t::ts,S,xs=>∃ (x:Value) (ys:List Value),xs=x::ys∧PatIs w t S x∧PatsIs w ts S ys
end

theorem pat_nd {w:World}{op c:Nat}{s:List UInt8}{no:Bool}{ks:List Data}{S:Nat→Prop}{v:Value}:
    PatIs w (nd op c s no ks) S v↔((ks=[]∧Leaf op c s no v) ∨
       (c=0∧s=[]∧no=false∧∃ x,PatsIs w ks S [x]∧((op=8∧v=.iface 232 (.agg #[x]))∨(op=9∧v=.iface 233 (.agg #[x]))∨(op=10∧v=.iface 234 (.agg #[x])))) ∨
       (c=0∧s=[]∧no=false∧∃ u xs,w.ownsRow 0 167 1 u ks.length xs∧(∀ g,u.ownBlock=some g→S g)∧PatsIs w ks S xs∧((op=6∧v=.iface 230 u)∨(op=7∧v=.iface 229 u)))):=by
  unfold nd
  rw[PatIs]
  constructor
  · rintro⟨op',c',s',no',hl,h⟩
    have:=nd_inj (show nd op c s no []=nd op' c' s' no' [] by unfold nd;rw[hl])
    obtain⟨rfl,rfl,rfl,rfl,_⟩:=this
    exact h
  · intro h
    exact⟨op,c,s,no,rfl,h⟩

theorem pat_node {w:World}{t:Data}{S:Nat→Prop}{v:Value}(h:PatIs w t S v):∃ op c s no ks,t=nd op c s no ks:=by
  cases t <;> simp only[PatIs] at h
  obtain⟨op,c,s,no,rfl,_⟩:=h
  exact⟨op,c,s,no,_,rfl⟩

theorem pat_iface {w:World}{t:Data}{S:Nat→Prop}{v:Value}(h:PatIs w t S v):∃ T x,v=.iface T x:=by
  obtain⟨op,c,s,no,ks,rfl⟩:=pat_node h
  rw[pat_nd] at h
  rcases h with ⟨_,h⟩|⟨_,_,_,x,_,h⟩|⟨_,_,_,u,xs,_,_,_,h⟩
  · rcases h with h|h|h|h|h|h
    · exact⟨_,_,h.2.2.2.2⟩
    · exact⟨_,_,h.2.2.2.2⟩
    · exact⟨_,_,h.2.2⟩
    · exact⟨_,_,h.2.2.2.2⟩
    · exact⟨_,_,h.2.2.2.2⟩
    · exact⟨_,_,h.2.2.2.2⟩
  · rcases h with h|h|h <;> exact⟨_,_,h.2⟩
  · rcases h with h|h <;> exact⟨_,_,h.2⟩

theorem pats_len {w:World}:∀ {ts:List Data} {S:Nat→Prop} {xs:List Value},PatsIs w ts S xs→xs.length=ts.length
  | [],S,xs,h=>by simp only[PatsIs] at h;simp[h]
  | t::ts,S,xs,h=>by
    simp only[PatsIs] at h
    obtain⟨x,ys,rfl,h1,h2⟩:=h
    have:=pats_len h2
    simp;omega

theorem pats_frame_of {w w':World}{S S':Nat→Prop}:∀ (ts:List Data) (xs:List Value),(∀ t∈ts,∀ v,PatIs w t S v→PatIs w' t S' v)→PatsIs w ts S xs→PatsIs w' ts S' xs
  | [],xs,_,h=>by simpa only [PatsIs] using h
  | t::ts,xs,hT,h=>by
    simp only[PatsIs] at h ⊢
    obtain⟨x,ys,hx,h1,h2⟩:=h
    exact⟨x,ys,hx,hT t (by simp) x h1,pats_frame_of ts ys (fun t ht=>hT t (by simp[ht])) h2⟩

theorem pat_frame {w w':World}{S S':Nat→Prop}(hS:∀ k,S k→w'.heap[k]?=w.heap[k]?)(hS':∀ k,S k→S' k)(t:Data):∀ v,PatIs w t S v→PatIs w' t S' v:=by
  induction t using rex_ind with
  | h ks lab ih =>
    intro v h
    rw[PatIs] at h ⊢
    obtain⟨op,c,s,no,hl,h⟩:=h
    refine⟨op,c,s,no,hl,?_⟩
    rcases h with h|⟨a1,a2,a3,x,hx,h⟩|⟨a1,a2,a3,u,xs,ho,hg,hx,h⟩
    · exact .inl h
    · exact .inr (.inl ⟨a1,a2,a3,x,pats_frame_of ks _ ih hx,h⟩)
    · exact .inr (.inr ⟨a1,a2,a3,u,xs,owns_same ho fun g h=>hS g (hg g h),fun g h=>hS' g (hg g h),pats_frame_of ks _ ih hx,h⟩)
  | h1 t ht =>
    intro v h
    obtain⟨op,c,s,no,ks,rfl⟩:=pat_node h
    exact absurd rfl (ht _ _)

theorem pats_frame {w w':World}{S S':Nat→Prop}(hS:∀ k,S k→w'.heap[k]?=w.heap[k]?)(hS':∀ k,S k→S' k){ts:List Data}{xs:List Value}(h:PatsIs w ts S xs):PatsIs w' ts S' xs :=
  pats_frame_of ts xs (fun t _=>pat_frame hS hS' t) h

theorem pats_snoc {w:World}:∀ {ts:List Data} {t:Data} {S:Nat→Prop} {xs:List Value} {v:Value},PatsIs w ts S xs→PatIs w t S v→PatsIs w (ts++[t]) S (xs++[v])
  | [],t,S,xs,v,h1,h2=>by
    simp only[PatsIs] at h1;subst h1;simp only[List.nil_append,PatsIs]
    exact⟨v,[],rfl,h2,rfl⟩
  | t'::ts,t,S,xs,v,h1,h2=>by
    simp only[PatsIs] at h1
    obtain⟨x,ys,rfl,a1,a2⟩:=h1
    simp only[List.cons_append,PatsIs]
    exact⟨x,ys++[v],rfl,a1,pats_snoc a2 h2⟩

def Pats (w:World)(B:Nat)(ts:List Data)(v:Value):Prop :=
  ∃ (xs:List Value) (S:Nat→Prop),w.ownsRow B 167 1 v ts.length xs∧PatsIs w ts S xs∧∀ k,S k→B≤k∧k<w.heap.size∧v.ownBlock≠some k

theorem pats_nil (w:World)(B:Nat):Pats w B [] (.slice none 0 0):=⟨[],fun _=>False,World.ownsRow_nil _ _ _ _,by simp only[PatsIs],fun _ h=>h.elim⟩

theorem pats_more {w w1 w2:World}{B:Nat}{ts:List Data}{t:Data}{v v' x:Value}{xs:List Value}{S:Nat→Prop}
    (h2:PatsIs w ts S xs) (h3:∀ k,S k→B≤k∧k<w.heap.size∧v.ownBlock≠some k) (hB:B≤w.heap.size)
    (hr:PatIs w1 t (Iv w.heap.size w1.heap.size) x) (hsz:w.heap.size≤w1.heap.size) (hw1:∀ k,B≤k→k<w.heap.size→v.ownBlock≠some k→w1.heap[k]?=w.heap[k]?) (hv:∀ k,v.ownBlock=some k→k<w.heap.size)
    (ho':w2.ownsRow B 167 1 v' (ts.length+1) (xs++[x])) (hsz2:w1.heap.size≤w2.heap.size) (hw2:∀ k,k<w1.heap.size→v.ownBlock≠some k→w2.heap[k]?=w1.heap[k]?)
    (hv':v'.ownBlock=v.ownBlock∨∃ m,v'.ownBlock=some m∧w1.heap.size≤m):Pats w2 B (ts++[t]) v':=by
  have own:∀ k,v'.ownBlock=some k→v.ownBlock=some k∨w1.heap.size≤k:=by
    intro k hk;rcases hv' with h|⟨m,h,hm⟩
    · exact .inl (h ▸ hk)
    · rw[h] at hk;simp at hk;exact .inr (by omega)
  refine⟨xs++[x],fun k=>S k∨Iv w.heap.size w1.heap.size k,by simpa using ho',?_,?_⟩
  · refine pats_snoc ?_ ?_
    · refine pats_frame (fun k hk=>?_) (fun k hk=>.inl hk) h2
      have:=h3 k hk
      exact (hw2 k (by omega) this.2.2).trans (hw1 k this.1 this.2.1 this.2.2)
    · refine pat_frame (fun k hk=>hw2 k hk.2 fun h=>?_) (fun k hk=>.inr hk) t _ hr
      have:=hv k h
      have:=hk.1
      omega
  · intro k hk;rcases hk with hk|hk
    · have:=h3 k hk
      refine⟨this.1,by omega,fun h=>?_⟩
      rcases own k h with h|h
      · exact this.2.2 h
      · omega
    · have a1:=hk.1;have a2:=hk.2
      refine⟨by omega,by omega,fun h=>?_⟩
      rcases own k h with h|h
      · have:=hv k h;omega
      · omega

theorem pats_pat {w:World}{B:Nat}{ts:List Data}{u:Value}(h:Pats w B ts u):
    PatIs w (nd 6 0 [] false ts) (Iv B w.heap.size) (.iface 230 u)∧PatIs w (nd 7 0 [] false ts) (Iv B w.heap.size) (.iface 229 u):=by
  obtain⟨xs,S,ho,hk,hS⟩:=h
  have hk':PatsIs w ts (Iv B w.heap.size) xs:=pats_frame (fun _ _=>rfl) (fun k hk=>⟨(hS k hk).1,(hS k hk).2.1⟩) hk
  constructor
  · rw[pat_nd]
    exact .inr (.inr ⟨rfl,rfl,rfl,u,xs,owns_base ho (Nat.zero_le _),fun g hg=>ho.lt g hg,hk',.inl ⟨rfl,rfl⟩⟩)
  · rw[pat_nd]
    exact .inr (.inr ⟨rfl,rfl,rfl,u,xs,owns_base ho (Nat.zero_le _),fun g hg=>ho.lt g hg,hk',.inr ⟨rfl,rfl⟩⟩)

theorem pats_head {w:World}{B:Nat}{t:Data}{u:Value}(h:Pats w B [t] u):∃ x g,PatIs w t (Iv B w.heap.size) x∧u.ownBlock=some g∧w.cell? ⟨g,0,none⟩=some x:=by
  obtain⟨xs,S,ho,hk,hS⟩:=h
  have hk':PatsIs w [t] (Iv B w.heap.size) xs:=pats_frame (fun _ _=>rfl) (fun k hk=>⟨(hS k hk).1,(hS k hk).2.1⟩) hk;simp only[PatsIs] at hk'
  obtain⟨x,ys,rfl,h1,_⟩:=hk'
  rcases ho.2 with ⟨_,h⟩|⟨g,cap,cur,rfl,_⟩
  · simp at h
  · exact⟨x,g,h1,rfl,ho.cells rfl 0 x rfl⟩

theorem pat_one {w:World}{t:Data}{S:Nat→Prop}{x:Value}(h:PatIs w t S x):PatIs w (one 8 t) S (.iface 232 (.agg #[x]))∧PatIs w (one 9 t) S (.iface 233 (.agg #[x]))∧PatIs w (one 10 t) S (.iface 234 (.agg #[x])):=by
  have hx:PatsIs w [t] S [x]:=by simp only[PatsIs];exact⟨x,[],rfl,h,rfl⟩
  refine⟨?_,?_,?_⟩ <;> (unfold one;rw[pat_nd];refine .inr (.inl ⟨rfl,rfl,rfl,x,hx,?_⟩))
  · exact .inl ⟨rfl,rfl⟩
  · exact .inr (.inl ⟨rfl,rfl⟩)
  · exact .inr (.inr ⟨rfl,rfl⟩)

end Rx
namespace Rx

def gOf (s:ByteArray)(i:Nat):Nat:=if h:i<s.size then s[i].toNat else 256

theorem gOf_in {s:ByteArray}{i:Nat}(h:i<s.size):gOf s i=s[i].toNat:=by unfold gOf;rw[dif_pos h]
theorem gOf_out {s:ByteArray}{i:Nat}(h:s.size≤i):gOf s i=256:=by unfold gOf;rw[dif_neg (by omega)]
theorem gOf_lt {s:ByteArray}{i:Nat}(h:i<s.size):gOf s i<256:=by rw[gOf_in h];exact s[i].toNat_lt
theorem gOf_end {s:ByteArray}:∀ i,s.size≤i→gOf s i=256:=fun _ h=>gOf_out h
theorem in_of {s:ByteArray}{i:Nat}(h:gOf s i≠256):i<s.size:=lt_of_some gOf_end h

def errV (a:Addr):Value:=.iface 286 (.pointer (some a))

structure Rd (p:Nat)(s:ByteArray)(a:Addr)(i:Nat)(w:World):Prop where
 text:w.cell? ⟨p,0,none⟩=some (.string s)
 pos:w.cell? ⟨p,1,none⟩=some (.int .i64 i)
 fr:w.frozen? ⟨p,1,none⟩=false
 err:w.cell? ⟨2,0,none⟩=some (.iface 286 (.pointer (some a)))
 ne:2≠p

theorem Rd.lt {p:Nat}{s:ByteArray}{a:Addr}{i:Nat}{w:World}(h:Rd p s a i w):p<w.heap.size:=World.block_lt_of_cell? w _ h.text
theorem Rd.elt {p:Nat}{s:ByteArray}{a:Addr}{i:Nat}{w:World}(h:Rd p s a i w):2<w.heap.size:=World.block_lt_of_cell? w _ h.err

theorem Rd.kept {p:Nat}{s:ByteArray}{a:Addr}{i:Nat}{w w':World}(h:Rd p s a i w)(h1:w'.heap[p]?=w.heap[p]?)(h2:w'.heap[2]?=w.heap[2]?):Rd p s a i w' :=
 ⟨(World.cell?_of_block h1).trans h.text,(World.cell?_of_block h1).trans h.pos,(World.frozen?_of_block h1).trans h.fr,(World.cell?_of_block h2).trans h.err,h.ne⟩

theorem Rd.below {p:Nat}{s:ByteArray}{a:Addr}{i B:Nat}{w w':World}(h:Rd p s a i w)(hb:Below B w w')(hp:p<B)(he:2<B):Rd p s a i w':=h.kept (hb.block _ hp) (hb.block _ he)

theorem Rd.grown {p:Nat}{s:ByteArray}{a:Addr}{i:Nat}{w w':World}{row:Option Nat}(h:Rd p s a i w)(hg:w.grownBy w' row)(h1:row≠some p)(h2:row≠some 2):Rd p s a i w' :=
 h.kept (hg.block _ h.lt fun e=>h1 e.symm) (hg.block _ h.elt fun e=>h2 e.symm)

theorem grown_of_below {w w':World}(h:Below w.heap.size w w')(row:Option Nat):w.grownBy w' row:=⟨h.os,h.tape,h.output,h.size,fun k hk _=>h.block k hk⟩

theorem Rd.set {p:Nat}{s:ByteArray}{a:Addr}{i:Nat}{w:World}(h:Rd p s a i w)(j:Nat):Rd p s a j (w.setCell ⟨p,1,none⟩ (.int .i64 j)):=by
 have he:(w.setCell ⟨p,1,none⟩ (.int .i64 j)).heap[2]?=w.heap[2]?:=Below.heap_setCell _ _ _ _ h.ne
 refine⟨?_,?_,?_,(World.cell?_of_block he).trans h.err,h.ne⟩
 ·rw[World.cell?_setCell_other _ _ _ _ (by simp)];exact h.text
 ·exact World.cell?_setCell_same _ _ _ h.pos
 ·simpa using h.fr

theorem grown_set (w:World)(a:Addr)(v:Value):w.grownBy (w.setCell a v) (some a.block) :=
 ⟨rfl,rfl,rfl,by simp,fun k _ hne=>Below.heap_setCell _ _ _ _ fun e=>hne (by rw[e])⟩

theorem Rd.drewN {p:Nat}{s:ByteArray}{a:Addr}{i:Nat}{w:World}(h:Rd p s a i w)(n:Nat):Rd p s a i (w.drewN n):=⟨h.text,h.pos,h.fr,h.err,h.ne⟩

theorem at_is {s:ByteArray}{i:Nat}(h:i≤s.size):((i:Int)==(s.size:Int))=decide (gOf s i=256):=by
 rcases Nat.lt_or_ge i s.size with h1|h1
 ·have:=gOf_lt h1
  rw[decide_eq_false (by omega)]
  simp;omega
 ·rw[decide_eq_true (gOf_out h1)]
  simp;omega

theorem Rd.next {p:Nat}{s:ByteArray}{a:Addr}{i:Nat}{w:World}(h:Rd p s a i w):Rd p s a (i+1) (w.setCell ⟨p,1,none⟩ (.int .i64 ((i:Int)+1))):=h.set (i+1)
theorem grown_drewN {w w':World}{row:Option Nat}(h:w.grownBy w' row)(n:Nat):w.grownBy (w'.drewN n) row:=⟨h.os,h.tape,h.output,h.size,h.block⟩

theorem iAtEnd {p:Nat}{s:ByteArray}{a:Addr}{i:Nat}{w:World}(h:Rd p s a i w)(hi:i≤s.size):
  Calls Tryz.prog 166 #[.pointer (some ⟨p,0,none⟩)] w fun e w'=>e=.returned (.bool (decide (gOf s i=256)))∧∃ n,w'=w.drewN n:=by
 have h1:=h.text;have h2:=h.pos;have H:Hid (((i:Int)==(s.size:Int))=decide (gOf s i=256)):=at_is hi
 go_enter Tryz.func166,Tryz.ntmps166
 go_wp2
 go_quiet (fail)
 go_wp2
 go_ret
 exact⟨by rw[← H.out];rfl,_,rfl⟩

theorem nat_eqb (a b:Nat):((a:Int)==(b:Int))=decide (a=b):=by
 by_cases h:a=b
 ·subst h;simp
 ·rw[decide_eq_false h];simp;omega

theorem iSees {p:Nat}{s:ByteArray}{a:Addr}{i:Nat}{w:World}(h:Rd p s a i w)(hi:i≤s.size)(b:Nat)(hb:b<256):
  Calls Tryz.prog 210 #[.pointer (some ⟨p,0,none⟩),.int .u8 b] w fun e w'=>e=.returned (.bool (decide (gOf s i=b)))∧∃ n,w'=w.drewN n:=by
 have h1:=h.text;have h2:=h.pos;rcases Nat.lt_or_ge i s.size with hq|hq
 ·have hlt:=gOf_lt hq;have e1:decide (gOf s i=256)=false:=decide_eq_false (by omega);have H:Hid (gOf s i=s[i].toNat):=gOf_in hq
  go_enter Tryz.func210,Tryz.ntmps210
  go_wp2
  go_quiet (first|(go_at_call 166;exact Calls.quiet_of (iAtEnd (h.drewN _) hi)))
  go_wp2
  go_ret
  exact⟨by rw[H.out];exact congrArg (fun x=>Ending.returned (Value.bool x)) (nat_eqb _ _),_,rfl⟩
 ·have e1:gOf s i=256:=gOf_out hq;have e2:decide (256=b)=false:=decide_eq_false (by omega)
  rw[e1,e2]
  go_enter Tryz.func210,Tryz.ntmps210
  go_wp2
  go_quiet (first|(go_at_call 166;exact Calls.quiet_of (iAtEnd (h.drewN _) hi)))
  go_wp2
  go_ret
  exact⟨rfl,_,rfl⟩

theorem iTakeEnd {p:Nat}{s:ByteArray}{a:Addr}{i:Nat}{w:World}(h:Rd p s a i w)(hi:i=s.size):
  Calls Tryz.prog 228 #[.pointer (some ⟨p,0,none⟩)] w fun e w'=>e=.panicked [{ v:=errV a,recovered:=false }]∧w.grownBy w' (some p):=by
 have h1:=h.text;have h2:=h.pos;have h3:=h.err;have e1:gOf s i=256:=gOf_out (by omega)
 go_enter Tryz.func228,Tryz.ntmps228
 go_wp2_with (go_at_call 166;refine (iAtEnd h (by omega)).mono ?_;rintro e w' ⟨rfl,n,rfl⟩;simp only[e1])
 exact⟨rfl,rfl,grown_drewN (World.grownBy.refl _ _) _⟩

theorem iTake {p:Nat}{s:ByteArray}{a:Addr}{i:Nat}{w:World}(h:Rd p s a i w)(hi:i<s.size)(hs:s.size≤1000):
  Calls Tryz.prog 228 #[.pointer (some ⟨p,0,none⟩)] w fun e w'=>e=.returned (.int .u8 (gOf s i))∧Rd p s a (i+1) w'∧w.grownBy w' (some p):=by
 have h1:=h.text;have h2:=h.pos;have h3:=h.fr;have hlt:=gOf_lt hi;have e1:decide (gOf s i=256)=false:=decide_eq_false (by omega);have H:Hid (gOf s i=s[i].toNat):=gOf_in hi
 go_enter Tryz.func228,Tryz.ntmps228
 go_wp2_with (go_at_call 166;refine (iAtEnd h (by omega)).mono ?_;rintro e w' ⟨rfl,n,rfl⟩)
 go_quiet (fail)
 go_wp2_with fail;go_ret
 refine⟨by rw[H.out];rfl,?_,?_⟩
 ·exact (h.next).drewN _
 ·exact grown_drewN (grown_set w ⟨p,1,none⟩ _) _

theorem iTakeIf {p:Nat}{s:ByteArray}{a:Addr}{i:Nat}{w:World}(h:Rd p s a i w)(hi:i≤s.size)(hs:s.size≤1000)(b:Nat)(hb:b<256):
  Calls Tryz.prog 182 #[.pointer (some ⟨p,0,none⟩),.int .u8 b] w fun e w'=>e=.returned (.bool (decide (gOf s i=b)))∧Rd p s a (if gOf s i=b then i+1 else i) w'∧w.grownBy w' (some p):=by
 by_cases hq:gOf s i=b
 ·have e1:decide (gOf s i=b)=true:=decide_eq_true hq;have h1:=h.pos;have h2:=h.fr
  rw[if_pos hq]
  go_enter Tryz.func182,Tryz.ntmps182
  go_wp2_with (go_at_call 210;refine (iSees h hi b hb).mono ?_;rintro e w' ⟨rfl,n,rfl⟩)
  go_ret
  refine⟨by rw[e1];rfl,?_,?_⟩
  ·exact (h.next).drewN _
  ·exact grown_drewN (grown_set w ⟨p,1,none⟩ _) _
 ·have e1:decide (gOf s i=b)=false:=decide_eq_false hq
  rw[if_neg hq]
  go_enter Tryz.func182,Tryz.ntmps182
  go_wp2_with (go_at_call 210;refine (iSees h hi b hb).mono ?_;rintro e w' ⟨rfl,n,rfl⟩)
  go_ret
  exact⟨by rw[e1];rfl,h.drewN _,grown_drewN (World.grownBy.refl _ _) _⟩

theorem iTakeIfC {p:Nat}{s:ByteArray}{a:Addr}{i:Nat}{w:World}(h:Rd p s a i w)(hi:i≤s.size)(hs:s.size≤1000)(b:Nat)(c:Int)(hb:b<256)(hc:c=b):
  Calls Tryz.prog 182 #[.pointer (some ⟨p,0,none⟩),.int .u8 c] w fun e w'=>e=.returned (.bool (decide (gOf s i=b)))∧Rd p s a (if gOf s i=b then i+1 else i) w'∧w.grownBy w' (some p):=by
 subst hc;exact iTakeIf h hi hs b hb
theorem iSeesC {p:Nat}{s:ByteArray}{a:Addr}{i:Nat}{w:World}(h:Rd p s a i w)(hi:i≤s.size)(b:Nat)(c:Int)(hb:b<256)(hc:c=b):
  Calls Tryz.prog 210 #[.pointer (some ⟨p,0,none⟩),.int .u8 c] w fun e w'=>e=.returned (.bool (decide (gOf s i=b)))∧∃ n,w'=w.drewN n:=by
 subst hc;exact iSees h hi b hb

end Rx
namespace Rx

def minusShut (t:ByteArray):Bool:=decide (gOf t 0=45∧gOf t 1=93)

theorem minusShut_is {t:ByteArray}(h:2≤t.size):((t.extract 0 2).toList==[45,93])=minusShut t:=by
 have e0:=gOf_in (s:=t) (i:=0) (by omega);have e1:=gOf_in (s:=t) (i:=1) (by omega);have e:(t.extract 0 2).toList=[t[0],t[1]]:=by
  rw[ByteArray.toList_eq]
  apply List.ext_getElem
  ·simp;omega
  ·intro k h1 h2;simp at h2;rcases Nat.lt_or_ge k 1 with h3|h3
   ·obtain rfl:k=0:=by omega
    simp[ByteArray.data_extract];rfl
   ·obtain rfl:k=1:=by omega
    simp[ByteArray.data_extract];rfl
 unfold minusShut
 rw[e,e0,e1]
 have k:∀ (x:UInt8) (n:Nat),n<256→(x==UInt8.ofNat n)=decide (x.toNat=n):=by
  intro x n hn
  by_cases h:x.toNat=n
  ·subst h;simp
  ·rw[decide_eq_false h]
   simp;intro h2;apply h
   rw[h2]
   simp;omega
 have k45:=k t[0] 45 (by omega);have k93:=k t[1] 93 (by omega);show ((t[0]==45)&&((t[1]==93)&&true))=_
 rw[show (45:UInt8)=UInt8.ofNat 45 from rfl,show (93:UInt8)=UInt8.ofNat 93 from rfl,k45,k93]
 simp[Bool.decide_and]

theorem gOf_extract {s:ByteArray}{i:Nat}(h:i≤s.size)(k:Nat):gOf (s.extract i s.size) k=gOf s (i+k):=by
 have hs:(s.extract i s.size).size=s.size - i:=by simp[ByteArray.size_extract]
 rcases Nat.lt_or_ge (i+k) s.size with h1|h1
 ·rw[gOf_in h1,gOf_in (by omega)]
  simp[ByteArray.getElem_extract]
 ·rw[gOf_out h1,gOf_out (by omega)]

theorem minusShut_at {s:ByteArray}{i:Nat}(h:i≤s.size):minusShut (s.extract i s.size)=decide (gOf s i=45∧gOf s (i+1)=93):=by
 unfold minusShut
 rw[gOf_extract h,gOf_extract h]
 rfl

theorem iHas (t:ByteArray)(w:World)(ht:t.size≤1000):
  Calls Tryz.prog 238 #[.string t,.string ⟨#[45,93]⟩] w fun e w'=>e=.returned (.bool (minusShut t))∧w'=w:=by
 rcases Nat.lt_or_ge t.size 2 with h|h
 ·have e:minusShut t=false:=by
   unfold minusShut
   rw[gOf_out (s:=t) (i:=1) (by omega)]
   simp
  rw[e]
  go_enter Tryz.func238,Tryz.ntmps238
  go_wp2
  go_ret
  exact⟨rfl,rfl⟩
 ·have e:=minusShut_is h;have H:Hid _:=e;clear e
  go_enter Tryz.func238,Tryz.ntmps238
  go_wp2
  go_ret
  exact⟨by rw[← H.out];rfl,rfl⟩

def spanAt (g:Nat→Nat)(i:Nat):Option (Nat × Nat × Nat) :=
 if g i=256 then none
 else if g (i+1)=45∧g (i+2)≠93 then (if g (i+2)=256∨g (i+2)<g i then none else some (g i,g (i+2),i+3))
 else some (g i,g i,i+1)

def SpanIs (p:Nat)(s:ByteArray)(a:Addr)(w:World)(r:Option (Nat × Nat × Nat))(e:Ending)(w':World):Prop:=match r with
 | none=>e=.panicked [{ v:=errV a,recovered:=false }]∧w.grownBy w' (some p)
 | some (lo,hi,j)=>e=.returned (.tuple #[.int .u8 lo,.int .u8 hi])∧Rd p s a j w'∧w.grownBy w' (some p)

theorem grown_drewN_left {w w':World}{row:Option Nat}{n:Nat}(h:(w.drewN n).grownBy w' row):w.grownBy w' row:=⟨h.os,h.tape,h.output,h.size,h.block⟩

theorem iSpan {p:Nat}{s:ByteArray}{a:Addr}{i:Nat}{w:World}(h:Rd p s a i w)(hi:i≤s.size)(hs:s.size≤1000):
  Calls Tryz.prog 232 #[.pointer (some ⟨p,0,none⟩)] w fun e w'=>SpanIs p s a w (spanAt (gOf s) i) e w':=by
 rcases Nat.lt_or_ge i s.size with hq|hq
 ·have hlt:=gOf_lt hq;unfold spanAt
  rw[if_neg (by omega)]
  by_cases h1:gOf s (i+1)=45
  ·have hq1:i+1<s.size:=in_of (by omega);have e1:decide (gOf s (i+1)=45)=true:=decide_eq_true h1;have hms:=minusShut_at (s:=s) (i:=i+1) (by omega)
   by_cases h2:gOf s (i+2)=93
   ·have e2:minusShut (s.extract (i+1) s.size)=true:=by rw[hms];simp[h1,h2]
    rw[if_neg (by simp[h2])]
    go_enter Tryz.func232,Tryz.ntmps232
    go_wp2_with (go_at_call 228;refine (iTake h hq hs).mono ?_;rintro e w1 ⟨rfl,h',hg⟩)
    have c1:=h'.text;have c2:=h'.pos
    go_quiet (first|(go_at_call 210;exact Calls.quiet_of (iSees (h'.drewN _) hq 45 (by omega)))|(go_at_call 238;exact Calls.quiet_of_same (iHas _ _ (by simp;omega))))
    go_wp2_with fail;go_ret2
    exact⟨rfl,h'.drewN _,grown_drewN hg _⟩
   ·have e2:minusShut (s.extract (i+1) s.size)=false:=by rw[hms];simp[h2]
    rw[if_pos ⟨h1,h2⟩]
    rcases Nat.lt_or_ge (i+2) s.size with hq2|hq2
    ·have hlt2:=gOf_lt hq2
     by_cases h3:gOf s (i+2)<gOf s i
     ·have h3':(gOf s (i+2):Int)<gOf s i:=by omega
      have c3:=h.err
      rw[if_pos (.inr h3)]
      go_enter Tryz.func232,Tryz.ntmps232
      go_wp2_with (go_at_call 228;refine (iTake h hq hs).mono ?_;rintro e w1 ⟨rfl,h',hg⟩)
      have c1:=h'.text;have c2:=h'.pos
      go_quiet (first|(go_at_call 210;exact Calls.quiet_of (iSees (h'.drewN _) hq 45 (by omega)))|(go_at_call 238;exact Calls.quiet_of_same (iHas _ _ (by simp;omega))))
      go_wp2_with (first|(go_at_call 228;with_reducible refine (iTake (h'.drewN _) hq1 hs).mono ?_;rintro e w2 ⟨rfl,h2',hg2⟩;have c4:=h2'.err)|(go_at_call 228;with_reducible refine (iTake h2' hq2 hs).mono ?_;rintro e w3 ⟨rfl,h3',hg3⟩;have c5:=h3'.err))
      exact⟨rfl,rfl,(hg.trans (grown_drewN_left hg2)).trans hg3⟩
     ·have h3':(gOf s i:Int)≤gOf s (i+2):=by omega
      rw[if_neg (by omega)]
      go_enter Tryz.func232,Tryz.ntmps232
      go_wp2_with (go_at_call 228;refine (iTake h hq hs).mono ?_;rintro e w1 ⟨rfl,h',hg⟩)
      have c1:=h'.text;have c2:=h'.pos
      go_quiet (first|(go_at_call 210;exact Calls.quiet_of (iSees (h'.drewN _) hq 45 (by omega)))|(go_at_call 238;exact Calls.quiet_of_same (iHas _ _ (by simp;omega))))
      go_wp2_with (first|(go_at_call 228;with_reducible refine (iTake (h'.drewN _) hq1 hs).mono ?_;rintro e w2 ⟨rfl,h2',hg2⟩)|(go_at_call 228;with_reducible refine (iTake h2' hq2 hs).mono ?_;rintro e w3 ⟨rfl,h3',hg3⟩))
      go_ret2
      exact⟨rfl,h3',(hg.trans (grown_drewN_left hg2)).trans hg3⟩
    ·rw[if_pos (.inl (gOf_out hq2))]
     go_enter Tryz.func232,Tryz.ntmps232
     go_wp2_with (go_at_call 228;refine (iTake h hq hs).mono ?_;rintro e w1 ⟨rfl,h',hg⟩)
     have c1:=h'.text;have c2:=h'.pos
     go_quiet (first|(go_at_call 210;exact Calls.quiet_of (iSees (h'.drewN _) hq 45 (by omega)))|(go_at_call 238;exact Calls.quiet_of_same (iHas _ _ (by simp;omega))))
     go_wp2_with (first|(go_at_call 228;with_reducible refine (iTake (h'.drewN _) hq1 hs).mono ?_;rintro e w2 ⟨rfl,h2',hg2⟩)|(go_at_call 228;with_reducible refine (iTakeEnd h2' (by omega)).mono ?_;rintro e w3 ⟨rfl,hg3⟩))
     exact⟨rfl,rfl,(hg.trans (grown_drewN_left hg2)).trans hg3⟩
  ·have e1:decide (gOf s (i+1)=45)=false:=decide_eq_false h1
   rw[if_neg (by simp[h1])]
   go_enter Tryz.func232,Tryz.ntmps232
   go_wp2_with (go_at_call 228;refine (iTake h hq hs).mono ?_;rintro e w1 ⟨rfl,h',hg⟩)
   go_quiet (first|(go_at_call 210;exact Calls.quiet_of (iSees (h'.drewN _) hq 45 (by omega))))
   go_wp2_with fail;go_ret2
   exact⟨rfl,h'.drewN _,grown_drewN hg _⟩
 ·have e1:gOf s i=256:=gOf_out hq;unfold spanAt
  rw[if_pos e1]
  go_enter Tryz.func232,Tryz.ntmps232
  go_wp2_with (go_at_call 228;refine (iTakeEnd h (by omega)).mono ?_;rintro e w1 ⟨rfl,hg⟩)
  exact⟨rfl,rfl,hg⟩

end Rx
namespace Rx

def marks (M:Nat→Bool):Array Value:=(Array.range 256).map fun b=>.bool (M b)
theorem marks_size (M:Nat→Bool):(marks M).size=256:=by simp[marks]
theorem marks_get (M:Nat→Bool){k:Nat}(h:k<256):(marks M)[k]?=some (.bool (M k)):=by simp[marks,h]

def upTo (M:Nat→Bool)(k:Nat):List Nat:=(List.range k).filter M
theorem upTo_in {M:Nat→Bool}{k:Nat}(h:M k=true):upTo M (k+1)=upTo M k++[k]:=by simp[upTo,List.range_succ,h]
theorem upTo_out {M:Nat→Bool}{k:Nat}(h:M k=false):upTo M (k+1)=upTo M k:=by simp[upTo,List.range_succ,h]
theorem upTo_len (M:Nat→Bool)(k:Nat):(upTo M k).length≤k:=by have:=List.length_filter_le M (List.range k);simpa [upTo] using this

def u8s (l:List Nat):List Value:=l.map fun (b:Nat)=>Value.int .u8 b

/-! three operations on a whole array, as steps of their own -/
section
variable {P : Program} {ops : Array Oper} {rest : List Oper} {o : Oper} {a : Act} {Q : Exit → Act → World → Prop} {w : World}

theorem wpList_load_whole (hgd:o.guard=none)(t:TypeId)(s:Operand)(ho:o.op=.load t s)(x:Value)(hr:(Instr.loadAt t (a.eval s)).run P w=.ok x w)
  (h:wpList P ops Q rest (a.put o.dst x) w):wpList P ops Q (o::rest) a w:=by
 refine wpList_plain hgd fun K hK=>?_;unfold Oper.wp execOp;simp only[ho,Sem.run_bind,Sem.run_pure,Result.andThen_ok,hr];exact hK _ _ h

theorem wpList_box_whole (hgd:o.guard=none)(t:TypeId)(s:Operand)(ho:o.op=.box t s)(x:Value)(w':World)(hr:(Instr.box t (a.eval s)).run P w=.ok x w')
  (h:wpList P ops Q rest (a.put o.dst x) w'):wpList P ops Q (o::rest) a w:=by
 refine wpList_plain hgd fun K hK=>?_;unfold Oper.wp execOp;simp only[ho,Sem.run_bind,Sem.run_pure,Result.andThen_ok,hr];exact hK _ _ h

theorem wpList_alloc_whole (hgd:o.guard=none)(t:TypeId)(ho:o.op=.alloc t)(x:Value)(w':World)(hr:(Instr.alloc t true (.tuple #[])).run P w=.ok x w')
  (h:wpList P ops Q rest (a.put o.dst x) w'):wpList P ops Q (o::rest) a w:=by
 refine wpList_plain hgd fun K hK=>?_;unfold Oper.wp execOp;simp only[ho,Sem.run_bind,Sem.run_pure,Result.andThen_ok,hr];exact hK _ _ h
end

theorem box_whole (M:Nat→Bool)(w:World):(Instr.box 279 (.agg (marks M))).run Tryz.prog w=.ok (.pointer (some ⟨w.heap.size,0,none⟩)) (w.alloc (.cells (marks M) 279)):=by
 rfl

theorem alloc_whole (w:World):(Instr.alloc 279 true (.tuple #[])).run Tryz.prog w=.ok (.pointer (some ⟨w.heap.size,0,none⟩)) (w.alloc (.cells (marks fun _=>false) 279)):=by
 kernel_rfl

theorem index_whole (M:Nat→Bool){k:Nat}(h:k<256)(w:World):(Instr.index 279 (.agg (marks M)) (.int .i64 k)).run Tryz.prog w=.ok (.bool (M k)) w:=by
 have hu:Tryz.prog.underlying 279=some (.array 256 4):=by kernel_rfl
 have hk:(0:Int)≤k∧(k:Int)<256:=by omega
 simp[Instr.index,run_underlying hu,asIntOf,hk,go_sem,marks_get M h];intro h';omega

theorem Tryz.info5r:(Tryz.prog.info? 5).map (fun i=>(i.zero,i.size,i.bytes))=some (some (.int .u8 0),1,1):=by kernel_rfl

theorem conv_owned {w:World}{B:Nat}{v:Value}{l:List Nat}(h:w.ownsRow B 5 1 v l.length (u8s l))(hl:∀ b∈l,b<256):
  (convert 96 9 v).run Tryz.prog w=.ok (.string ⟨(l.map UInt8.ofNat).toArray⟩) w:=by
 rcases h.2 with ⟨rfl,hn⟩|⟨g,cap,cur,rfl,_⟩
 ·have:l=[]:=List.length_eq_zero_iff.1 hn
  subst this
  rw[run_convert_bytes_string w 96 9 5 none 0 0 Tryz.underlying96 Tryz.underlying5 Tryz.underlying9]
  rfl
 ·have hc:=h.cells (g:=g) rfl
  have:=run_convert_bytes_back (P:=Tryz.prog) w 96 9 5 ⟨g,0,none⟩ cap (l.map UInt8.ofNat) Tryz.underlying96 Tryz.underlying5 Tryz.underlying9 (by
   intro j hj;simp only[List.length_map] at hj;refine hc j _ ?_;have hb:=hl l[j] (List.getElem_mem hj);simp only[u8s,List.getElem?_map,List.getElem?_eq_getElem hj,Option.map_some,List.getElem_map,UInt8.toNat_ofNat']
   rw[Nat.mod_eq_of_lt (by omega)])
  simpa using this

set_option maxRecDepth 100000 in
theorem iListed (M:Nat→Bool)(w:World):
  Calls Tryz.prog 233 #[.agg (marks M)] w fun e w'=>e=.returned (.string ⟨(bytesOf M).toArray⟩)∧Below w.heap.size w w':=by
 have hl:=run_loadAt_new (P:=Tryz.prog) w 279 (marks M) 256 4 (by kernel_rfl) (by rw[marks_size];kernel_rfl)
 go_enter Tryz.func233,Tryz.ntmps233
 go_wp2_with (first|(refine wpList_box_whole rfl 279 (.tmp 0) rfl _ _ (box_whole M w) ?_)|(refine wpList_load_whole rfl 279 (.tmp 1) rfl _ hl ?_))
 obtain⟨i0,hi,hz0,hz1,hz2⟩:=info_parts Tryz.info5r
 go_loopw [3,7] (fun v i wr=>∃ k:Nat,k≤256∧i=.int .i64 k∧wr.ownsRow w.heap.size 5 1 v (upTo M k).length (u8s (upTo M k))∧Below w.heap.size w wr) (fun _ i _=>256 - (intOf i).toNat)
 case atStart=>exact⟨0,by omega,rfl,World.ownsRow_nil _ _ _ _,(Below.refl _ w).alloc (Nat.le_refl _) _⟩
 case round =>
  obtain⟨k,hk,rfl,hown,hnx⟩:=hrel
  have hlen:=upTo_len M k
  by_cases hkl:k<256
  ·have hmk:=index_whole M hkl
   by_cases hM:M k=true
   ·go_wp2_with (first|(at_builtin;refine wpList_append_own_at _ rfl _ _ 96 rfl w.heap.size 5 i0 (.int .u8 0) 1 1 Tryz.underlying96 hi hz0 hz1 hz2 rfl (by decide) _ _ _ rfl (hown.alloc _) ⟨wr.heap.size,0,none⟩ 1 1 [.int .u8 k] rfl rfl (cell_one_new _ _ _) (by simp[Value.oneCell']) (by unfold maxLen;omega) (by omega) (by have:=hnx.size;simp;omega) ?_;intro v' w1 hown' hgrow _ _))
    rw[← List.length_singleton (a:=Value.int .u8 (k:Int))] at hown'
    go_roundw
    case rel =>
     refine⟨k+1,by omega,by go_num,?_,?_⟩
     ·rw[upTo_in hM]
      simpa [u8s] using hown'
     ·exact (hnx.alloc (by have:=hnx.size;omega) _).grown hgrow (by have:=hnx.size;simp;omega) (fun b hb=>(hown.lt b hb).1)
    case measure=>simp[intOf];omega
   ·have hM:M k=false:=by simpa using hM
    go_wp2_with fail;go_roundw
    case rel=>exact⟨k+1,by omega,by go_num,by rw[upTo_out hM];exact hown,hnx⟩
    case measure=>simp[intOf];omega
  ·obtain rfl:k=256:=by omega
   have hcv:=conv_owned hown (fun b hb=>List.mem_range.1 (List.mem_filter.1 hb).1);have H:Hid ((upTo M 256).map UInt8.ofNat=bytesOf M):=rfl;go_wp2_with fail;go_ret
   exact⟨by rw[← H.out];rfl,hnx⟩

end Rx
end Go.Proofs.YtllbachngocmnaaGreatDoor
