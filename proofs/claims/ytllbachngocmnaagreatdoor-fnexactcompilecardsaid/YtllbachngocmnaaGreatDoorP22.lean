/-
  Chapter 3 as plain functions: a text is a function from places to bytes (256: there is none), a pattern is a tree.
-/
import GoSem.ClaimData
import Derived.Laws.AppendOwn
import Derived.Below
import Derived.OwnWalk
import Derived.Maps.AppendAt
namespace Go.Proofs.YtllbachngocmnaaGreatDoor
namespace Rx

def nd (op c:Nat)(set:List UInt8)(no:Bool)(kids:List Data):Data :=
 .slice kids [.lit (.int .i64 op),.lit (.int .i64 c),.lit (.string set),.lit (.bool no)]

theorem nd_inj {op c op' c':Nat}{s s':List UInt8}{n n':Bool}{k k':List Data}(h:nd op c s n k=nd op' c' s' n' k'):op=op'∧c=c'∧s=s'∧n=n'∧k=k':=by
 simp only[nd,Data.slice.injEq,List.cons.injEq,Data.lit.injEq,Lit.int.injEq,Lit.string.injEq,Lit.bool.injEq,true_and,and_true] at h
 exact⟨by omega,by omega,h.2.2.2.1,h.2.2.2.2,h.1⟩

def leaf (op:Nat):Data:=nd op 0 [] false []
def chr (b:Nat):Data:=nd 1 b [] false []
def one (op:Nat)(t:Data):Data:=nd op 0 [] false [t]
def catOf (ts:List Data):Data:=match ts with
 | []=>leaf 11
 | [t]=>t
 | ts=>nd 6 0 [] false ts
def orOf (ts:List Data):Data:=match ts with
 | [t]=>t
 | ts=>nd 7 0 [] false ts

def bytesOf (M:Nat→Bool):List UInt8:=((List.range 256).filter M).map UInt8.ofNat
def spanOn (M:Nat→Bool)(lo hi:Nat):Nat→Bool:=fun b=>M b || (decide (lo≤b)&&decide (b≤hi))
def setOf (M:Nat→Bool)(no:Bool):Data:=nd 3 0 (bytesOf M) no []

def setLoop (g:Nat→Nat):Nat→Nat→(Nat→Bool)→Option ((Nat→Bool) × Nat)
 | 0,_,_=>none
 | f+1,i,M =>
  if g i=256 then none
  else if g i=93 then some (M,i+1)
  else if g (i+1)=45∧g (i+2)≠93 then
   if g (i+2)=256∨g (i+2)<g i then none else setLoop g f (i+3) (spanOn M (g i) (g (i+2)))
  else setLoop g f (i+1) (spanOn M (g i) (g i))

def setEnd (no:Bool)(r:Option ((Nat→Bool) × Nat)):Option (Data × Nat):=match r with
 | none=>none
 | some (M,k)=>if bytesOf M=[] then none else some (setOf M no,k)

def setAt (g:Nat→Nat)(N i:Nat):Option (Data × Nat) :=
 setEnd (decide (g i=94)) (setLoop g (N+1) (if g i=94 then i+1 else i) (fun _=>false))

def shut (g:Nat→Nat)(r:Option (Data × Nat)):Option (Data × Nat):=match r with
 | none=>none
 | some (t,j)=>if g j=41 then some (t,j+1) else none

def atomAt (g:Nat→Nat)(N:Nat)(F:Nat→Option (Data × Nat))(i:Nat):Option (Data × Nat) :=
 if g i=256 then none
 else if g i=40 then shut g (F (i+1))
 else if g i=46 then some (leaf 2,i+1)
 else if g i=94 then some (leaf 4,i+1)
 else if g i=36 then some (leaf 5,i+1)
 else if g i=91 then setAt g N (i+1)
 else if g i=92 then (if g (i+1)=256 then none else some (chr (g (i+1)),i+2))
 else if g i=42∨g i=43∨g i=63 then none
 else some (chr (g i),i+1)

def stars (g:Nat→Nat):Nat→Data→Nat→Data × Nat
 | 0,t,i=>(t,i)
 | f+1,t,i =>
  if g i=42 then stars g f (one 8 t) (i+1)
  else if g i=43 then stars g f (one 9 t) (i+1)
  else if g i=63 then stars g f (one 10 t) (i+1)
  else (t,i)

def pieceAt (g:Nat→Nat)(N:Nat)(A:Nat→Option (Data × Nat))(i:Nat):Option (Data × Nat):=match A i with
 | none=>none
 | some (t,j)=>some (stars g (N+1) t j)

def partLoop (g:Nat→Nat)(N:Nat)(A:Nat→Option (Data × Nat)):Nat→Nat→List Data→Option (List Data × Nat)
 | 0,_,_=>none
 | f+1,i,ts =>
  if g i=256∨g i=124∨g i=41 then some (ts,i)
  else match pieceAt g N A i with
   | none=>none
   | some (t,j)=>partLoop g N A f j (ts++[t])

def partEnd (r:Option (List Data × Nat)):Option (Data × Nat):=match r with
 | none=>none
 | some (ts,j)=>some (catOf ts,j)

def partAt (g:Nat→Nat)(N:Nat)(A:Nat→Option (Data × Nat))(i:Nat):Option (Data × Nat):=partEnd (partLoop g N A (N+1) i [])

def patLoop (g:Nat→Nat)(N:Nat)(A:Nat→Option (Data × Nat)):Nat→Nat→List Data→Option (List Data × Nat)
 | 0,_,_=>none
 | f+1,i,ts =>
  if g i=124 then match partAt g N A (i+1) with
   | none=>none
   | some (t,j)=>patLoop g N A f j (ts++[t])
  else some (ts,i)

def patEnd (r:Option (List Data × Nat)):Option (Data × Nat):=match r with
 | none=>none
 | some (ts,j)=>some (orOf ts,j)

def patAt (g:Nat→Nat)(N:Nat)(A:Nat→Option (Data × Nat))(i:Nat):Option (Data × Nat):=match partAt g N A i with
 | none=>none
 | some (t,j)=>patEnd (patLoop g N A (N+1) j [t])

def atomN (g:Nat→Nat)(N:Nat):Nat→Nat→Option (Data × Nat)
 | 0=>fun _=>none
 | n+1=>atomAt g N (patAt g N (atomN g N n))

def patN (g:Nat→Nat)(N n:Nat):Nat→Option (Data × Nat):=patAt g N (atomN g N n)

mutual
def dep:Data→Nat
 | .slice ks _=>deps ks+1
 | _=>1
def deps:List Data→Nat
 | []=>0
 | t::ts=>max (dep t) (deps ts)
end

def wholeV (g:Nat→Nat)(N n:Nat):Option Data:=match patN g N n 0 with
 | none=>none
 | some (t,j)=>if j=N∧dep t≤12 then some t else none

/-! where a reading ends -/

section
variable {g : Nat → Nat} {N : Nat}

theorem lt_of_some (hg:∀ i,N≤i→g i=256){i:Nat}(h:g i≠256):i<N:=by
 rcases Nat.lt_or_ge i N with h1|h1
 ·exact h1
 ·exact absurd (hg i h1) h

theorem setLoop_in (hg:∀ i,N≤i→g i=256):∀ (f i:Nat) (M M':Nat→Bool) (k:Nat),setLoop g f i M=some (M',k)→i<k∧k≤N:=by
 intro f
 induction f with
 | zero=>intro i M M' k h;simp[setLoop] at h
 | succ f ih =>
  intro i M M' k h
  rw[setLoop] at h
  split at h
  ·simp at h
  rename_i h1
  have:=lt_of_some hg h1
  split at h
  ·simp at h;omega
  split at h
  ·split at h
   ·simp at h
   ·have:=ih _ _ _ _ h;omega
  ·have:=ih _ _ _ _ h;omega

theorem setAt_in (hg:∀ i,N≤i→g i=256){i k:Nat}{t:Data}(h:setAt g N i=some (t,k)):i<k∧k≤N:=by
 unfold setAt setEnd at h
 split at h
 ·simp at h
 ·rename_i M k' h1
  have:=setLoop_in hg _ _ _ _ _ h1
  split at h
  ·simp at h
  ·simp at h
   split at this <;> omega

theorem atomAt_in (hg:∀ i,N≤i→g i=256){F:Nat→Option (Data × Nat)}(hF:∀ i t j,F i=some (t,j)→i≤j∧(i≤N→j≤N)){i k:Nat}{t:Data}(h:atomAt g N F i=some (t,k)):i<k∧k≤N:=by
 unfold atomAt at h
 split at h
 ·simp at h
 rename_i h1
 have h1:=lt_of_some hg h1
 split at h
 ·unfold shut at h
  split at h
  ·simp at h
  ·rename_i t' j' h2
   have:=hF _ _ _ h2
   split at h
   ·rename_i h3
    have:=lt_of_some hg (i:=j') (by omega)
    simp at h;omega
   ·simp at h
 split at h
 ·simp at h;omega
 split at h
 ·simp at h;omega
 split at h
 ·simp at h;omega
 split at h
 ·have:=setAt_in hg h;omega
 split at h
 ·split at h
  ·simp at h
  ·rename_i h2
   have:=lt_of_some hg h2
   simp at h;omega
 split at h
 ·simp at h
 ·simp at h;omega

theorem stars_in (hg:∀ i,N≤i→g i=256):∀ (f:Nat) (t:Data) (i:Nat),i≤(stars g f t i).2∧(i≤N→(stars g f t i).2≤N):=by
 intro f
 induction f with
 | zero=>intro t i;simp[stars]
 | succ f ih =>
  intro t i
  rw[stars]
  have a:=fun op=>ih (one op t) (i+1);have b:g i=42∨g i=43∨g i=63→i<N:=fun h=>lt_of_some hg (by omega)
  split
  ·have:=a 8;omega
  split
  ·have:=a 9;omega
  split
  ·have:=a 10;omega
  ·exact⟨Nat.le_refl _,id⟩

theorem pieceAt_in (hg:∀ i,N≤i→g i=256){A:Nat→Option (Data × Nat)}(hA:∀ i t j,A i=some (t,j)→i<j∧j≤N){i j:Nat}{t:Data}(h:pieceAt g N A i=some (t,j)):i<j∧j≤N:=by
 unfold pieceAt at h
 split at h
 ·simp at h
 ·rename_i t' j' h1
  have:=hA _ _ _ h1
  have:=stars_in hg (N+1) t' j'
  simp at h
  rw[h] at this
  simp at this;omega

theorem partLoop_in (hg:∀ i,N≤i→g i=256){A:Nat→Option (Data × Nat)}(hA:∀ i t j,A i=some (t,j)→i<j∧j≤N):∀ (f i:Nat) (ts us:List Data) (j:Nat),partLoop g N A f i ts=some (us,j)→i≤j∧(i≤N→j≤N):=by
 intro f
 induction f with
 | zero=>intro i ts us j h;simp[partLoop] at h
 | succ f ih =>
  intro i ts us j h
  rw[partLoop] at h
  split at h
  ·simp at h;omega
  split at h
  ·simp at h
  ·rename_i t j' h1
   have:=pieceAt_in hg hA h1
   have:=ih _ _ _ _ h
   omega

theorem partAt_in (hg:∀ i,N≤i→g i=256){A:Nat→Option (Data × Nat)}(hA:∀ i t j,A i=some (t,j)→i<j∧j≤N){i j:Nat}{t:Data}(h:partAt g N A i=some (t,j)):i≤j∧(i≤N→j≤N):=by
 unfold partAt partEnd at h
 split at h
 ·simp at h
 ·rename_i ts j' h1
  have:=partLoop_in hg hA _ _ _ _ _ h1
  simp at h;omega

theorem patLoop_in (hg:∀ i,N≤i→g i=256){A:Nat→Option (Data × Nat)}(hA:∀ i t j,A i=some (t,j)→i<j∧j≤N):∀ (f i:Nat) (ts us:List Data) (j:Nat),patLoop g N A f i ts=some (us,j)→i≤j∧(i≤N→j≤N):=by
 intro f
 induction f with
 | zero=>intro i ts us j h;simp[patLoop] at h
 | succ f ih =>
  intro i ts us j h
  rw[patLoop] at h
  split at h
  ·rename_i h0
   have:=lt_of_some hg (i:=i) (by omega)
   split at h
   ·simp at h
   ·rename_i t j' h1
    have:=partAt_in hg hA h1
    have:=ih _ _ _ _ h
    omega
  ·simp at h;omega

theorem patAt_in (hg:∀ i,N≤i→g i=256){A:Nat→Option (Data × Nat)}(hA:∀ i t j,A i=some (t,j)→i<j∧j≤N){i j:Nat}{t:Data}(h:patAt g N A i=some (t,j)):i≤j∧(i≤N→j≤N):=by
 unfold patAt patEnd at h
 split at h
 ·simp at h
 ·rename_i t' j' h1
  have:=partAt_in hg hA h1
  split at h
  ·simp at h
  ·rename_i us k h2
   have:=patLoop_in hg hA _ _ _ _ _ h2
   simp at h;omega

theorem atomN_in (hg:∀ i,N≤i→g i=256):∀ (n i:Nat) (t:Data) (j:Nat),atomN g N n i=some (t,j)→i<j∧j≤N:=by
 intro n
 induction n with
 | zero=>intro i t j h;simp[atomN] at h
 | succ n ih =>
  intro i t j h
  rw[atomN] at h
  exact atomAt_in hg (fun _ _ _ h=>patAt_in hg ih h) h

theorem patN_in (hg:∀ i,N≤i→g i=256){n i j:Nat}{t:Data}(h:patN g N n i=some (t,j)):i≤j∧(i≤N→j≤N):=patAt_in hg (atomN_in hg n) h

/-! what is read within brackets of one depth is read within more, and within as many as there is room for -/

theorem piece_agree (hg:∀ i,N≤i→g i=256){A A':Nat→Option (Data × Nat)}{a b:Nat}(hAA:∀ i t j,a≤i→j≤b→A i=some (t,j)→A' i=some (t,j))
  {i j:Nat} {t:Data} (hi:a≤i) (hj:j≤b) (h:pieceAt g N A i=some (t,j)):pieceAt g N A' i=some (t,j):=by
 unfold pieceAt at h ⊢
 split at h
 ·simp at h
 ·rename_i t' j' h1
  have:=stars_in hg (N+1) t' j'
  simp at h
  rw[h] at this
  simp at this
  rw[hAA _ _ _ hi (by omega) h1]
  simp[h]

theorem partLoop_agree (hg:∀ i,N≤i→g i=256){A A':Nat→Option (Data × Nat)}{a b:Nat}(hA:∀ i t j,A i=some (t,j)→i<j∧j≤N)(hAA:∀ i t j,a≤i→j≤b→A i=some (t,j)→A' i=some (t,j)):
  ∀ (f i:Nat) (ts us:List Data) (j:Nat),a≤i→j≤b→partLoop g N A f i ts=some (us,j)→partLoop g N A' f i ts=some (us,j):=by
 intro f
 induction f with
 | zero=>intro i ts us j _ _ h;simp[partLoop] at h
 | succ f ih =>
  intro i ts us j hi hj h
  rw[partLoop] at h ⊢
  split at h
  ·rename_i h0
   rw[if_pos h0];exact h
  ·rename_i h0
   rw[if_neg h0]
   split at h
   ·simp at h
   ·rename_i t j' h1
    have:=pieceAt_in hg hA h1
    have:=partLoop_in hg hA _ _ _ _ _ h
    rw[piece_agree hg hAA hi (by omega) h1]
    exact ih _ _ _ _ (by omega) hj h

theorem part_agree (hg:∀ i,N≤i→g i=256){A A':Nat→Option (Data × Nat)}{a b:Nat}(hA:∀ i t j,A i=some (t,j)→i<j∧j≤N)(hAA:∀ i t j,a≤i→j≤b→A i=some (t,j)→A' i=some (t,j))
  {i j:Nat} {t:Data} (hi:a≤i) (hj:j≤b) (h:partAt g N A i=some (t,j)):partAt g N A' i=some (t,j):=by
 unfold partAt partEnd at h ⊢
 split at h
 ·simp at h
 ·rename_i ts j' h1
  simp at h
  rw[partLoop_agree hg hA hAA _ _ _ _ _ hi (by omega) h1]
  simp[h]

theorem patLoop_agree (hg:∀ i,N≤i→g i=256){A A':Nat→Option (Data × Nat)}{a b:Nat}(hA:∀ i t j,A i=some (t,j)→i<j∧j≤N)(hAA:∀ i t j,a≤i→j≤b→A i=some (t,j)→A' i=some (t,j)):
  ∀ (f i:Nat) (ts us:List Data) (j:Nat),a≤i→j≤b→patLoop g N A f i ts=some (us,j)→patLoop g N A' f i ts=some (us,j):=by
 intro f
 induction f with
 | zero=>intro i ts us j _ _ h;simp[patLoop] at h
 | succ f ih =>
  intro i ts us j hi hj h
  rw[patLoop] at h ⊢
  split at h
  ·rename_i h0
   rw[if_pos h0]
   split at h
   ·simp at h
   ·rename_i t j' h1
    have:=partAt_in hg hA h1
    have:=patLoop_in hg hA _ _ _ _ _ h
    rw[part_agree hg hA hAA (by omega) (by omega) h1]
    exact ih _ _ _ _ (by omega) hj h
  ·rename_i h0
   rw[if_neg h0];exact h

theorem pat_agree (hg:∀ i,N≤i→g i=256){A A':Nat→Option (Data × Nat)}{a b:Nat}(hA:∀ i t j,A i=some (t,j)→i<j∧j≤N)(hAA:∀ i t j,a≤i→j≤b→A i=some (t,j)→A' i=some (t,j))
  {i j:Nat} {t:Data} (hi:a≤i) (hj:j≤b) (h:patAt g N A i=some (t,j)):patAt g N A' i=some (t,j):=by
 unfold patAt patEnd at h ⊢
 split at h
 ·simp at h
 ·rename_i t' j' h1
  have:=partAt_in hg hA h1
  split at h
  ·simp at h
  ·rename_i us k h2
   have:=patLoop_in hg hA _ _ _ _ _ h2
   simp at h
   rw[part_agree hg hA hAA hi (by omega) h1]
   simp only
   rw[patLoop_agree hg hA hAA _ _ _ _ _ (by omega) (by omega) h2]
   simp[h]

theorem atom_agree (hg:∀ i,N≤i→g i=256):∀ (m n i:Nat) (t:Data) (j:Nat),j≤i+2*n→atomN g N m i=some (t,j)→0<n→atomN g N n i=some (t,j):=by
 intro m
 induction m with
 | zero=>intro n i t j _ h;simp[atomN] at h
 | succ m ih =>
  intro n i t j hj h hn
  obtain⟨n,rfl⟩:∃ k,n=k+1:=⟨n - 1,by omega⟩
  rw[atomN] at h ⊢
  unfold atomAt at h ⊢
  split at h
  ·simp at h
  rename_i h0
  rw[if_neg h0]
  split at h
  ·rename_i h1
   rw[if_pos h1]
   unfold shut at h ⊢
   split at h
   ·simp at h
   ·rename_i t' j' h2
    split at h
    ·rename_i h3
     simp at h;have h4:patAt g N (atomN g N n) (i+1)=some (t',j'):=by
      rcases Nat.eq_zero_or_pos n with h5|h5
      ·subst h5
       have:=patAt_in hg (atomN_in hg m) h2
       refine pat_agree hg (a:=i+1) (b:=j') (atomN_in hg m) (fun i2 t2 j2 a1 a2 a3=>?_) (Nat.le_refl _) (Nat.le_refl _) h2
       have:=atomN_in hg m _ _ _ a3
       omega
      ·refine pat_agree hg (a:=i+1) (b:=j') (atomN_in hg m) (fun i2 t2 j2 a1 a2 a3=>?_) (Nat.le_refl _) (Nat.le_refl _) h2;exact ih n i2 t2 j2 (by omega) a3 h5
     rw[h4]
     simp only
     rw[if_pos h3]
     simp[h]
    ·simp at h
  ·rename_i h1
   rw[if_neg h1]
   exact h

theorem patN_agree (hg:∀ i,N≤i→g i=256){m n i j:Nat}{t:Data}(hn:0<n)(hj:j≤i+2*n)(h:patN g N m i=some (t,j)):patN g N n i=some (t,j) :=
 pat_agree hg (a:=i) (b:=j) (atomN_in hg m) (fun i2 t2 j2 a1 a2 a3=>atom_agree hg m n i2 t2 j2 (by omega) a3 hn) (Nat.le_refl _) (Nat.le_refl _) h

theorem whole_agree (hg:∀ i,N≤i→g i=256){m n:Nat}(hm:0<m)(hn:0<n)(hNm:N≤2*m)(hNn:N≤2*n):wholeV g N m=wholeV g N n:=by
 have key:∀ {m n:Nat},0<n→N≤2*n→∀ t,wholeV g N m=some t→wholeV g N n=some t:=by
  intro m n hn hN t h;unfold wholeV at h ⊢
  split at h
  ·simp at h
  ·rename_i t' j h1
   split at h
   ·rename_i h2
    rw[patN_agree hg hn (by omega) h1]
    simp only
    rw[if_pos h2]
    exact h
   ·simp at h
 cases h:wholeV g N m with
 | some t=>exact (key hn hNn t h).symm
 | none =>
  cases h2:wholeV g N n with
  | none=>rfl
  | some t=>rw[key hm hNm t h2] at h;simp at h

end

end Rx
end Go.Proofs.YtllbachngocmnaaGreatDoor
namespace Go.Proofs.YtllbachngocmnaaGreatDoor
open Go.RowKit
namespace Rx

theorem owns_same {w w':World}{base e size n:Nat}{v:Value}{xs:List Value}(h:w.ownsRow base e size v n xs)(hb:∀ g,v.ownBlock=some g→w'.heap[g]?=w.heap[g]?):w'.ownsRow base e size v n xs:=by
 refine⟨h.1,?_⟩
 rcases h.2 with hn|⟨g,cap,cur,hv,hb',hg,rest⟩
 ·exact .inl hn
 ·exact .inr ⟨g,cap,cur,hv,hb',(hb g (by subst hv;rfl)).trans hg,rest⟩

theorem owns_base {w:World}{base base' e size n:Nat}{v:Value}{xs:List Value}(h:w.ownsRow base e size v n xs)(hb:base'≤base):w.ownsRow base' e size v n xs:=by
 refine⟨h.1,?_⟩
 rcases h.2 with hn|⟨g,cap,cur,hv,hb',rest⟩
 ·exact .inl hn
 ·exact .inr ⟨g,cap,cur,hv,Nat.le_trans hb hb',rest⟩

theorem rex_ind {P:Data→Prop}(h:∀ ks lab,(∀ t∈ks,P t)→P (.slice ks lab))(h1:∀ t,(∀ ks lab,t≠.slice ks lab)→P t)(t:Data):P t:=by
 match t with
 | .slice ks lab=>exact h ks lab (fun t ht=>rex_ind h h1 t)
 | .lit l=>exact h1 _ (by simp)
 | .nil=>exact h1 _ (by simp)
 | .ptr d=>exact h1 _ (by simp)
 | .agg ps=>exact h1 _ (by simp)
 | .iface s d=>exact h1 _ (by simp)
termination_by SizeOf.sizeOf t
decreasing_by
 have:=List.sizeOf_lt_of_mem ht
 simp;omega

mutual
def RexIs (w:World):Data→(Nat→Prop)→List Value→Prop
 | .slice ks lab,S,cs=>∃ (op c:Nat) (s:List UInt8) (no:Bool) (v:Value) (xs:List Value),lab=[.lit (.int .i64 op),.lit (.int .i64 c),.lit (.string s),.lit (.bool no)] ∧
   cs=[.int .i64 op,.int .i64 c,.string ⟨s.toArray⟩,.bool no,v]∧w.ownsRow 0 103 5 v ks.length xs∧(∀ g,v.ownBlock=some g→S g)∧RexsIs w ks (fun k=>S k∧v.ownBlock≠some k) xs
 | _,_,_=>False
def RexsIs (w:World):List Data→(Nat→Prop)→List Value→Prop
 | [],_,xs=>xs=[]
 | t::ts,S,xs=>∃ (S1 S2:Nat→Prop) (c1 c2:List Value),xs=c1++c2∧RexIs w t S1 c1∧RexsIs w ts S2 c2∧(∀ k,S1 k→S k∧¬ S2 k)∧(∀ k,S2 k→S k)
end

theorem rex_nd {w:World}{op c:Nat}{s:List UInt8}{no:Bool}{ks:List Data}{S:Nat→Prop}{cs:List Value}:
  RexIs w (nd op c s no ks) S cs↔∃ (v:Value) (xs:List Value),cs=[.int .i64 op,.int .i64 c,.string ⟨s.toArray⟩,.bool no,v]∧w.ownsRow 0 103 5 v ks.length xs ∧
   (∀ g,v.ownBlock=some g→S g)∧RexsIs w ks (fun k=>S k∧v.ownBlock≠some k) xs:=by
 unfold nd
 rw[RexIs]
 constructor
 ·rintro⟨op',c',s',no',v,xs,hl,hc,h⟩
  have:=nd_inj (show nd op c s no []=nd op' c' s' no' [] by unfold nd;rw[hl])
  obtain⟨rfl,rfl,rfl,rfl,_⟩:=this
  exact⟨v,xs,hc,h⟩
 ·rintro⟨v,xs,hc,h⟩
  exact⟨op,c,s,no,v,xs,rfl,hc,h⟩

theorem rex_len {w:World}{t:Data}{S:Nat→Prop}{cs:List Value}(h:RexIs w t S cs):cs.length=5:=by
 cases t <;> simp only[RexIs] at h
 obtain⟨op,c,s,no,v,xs,_,rfl,_⟩:=h
 rfl

theorem rex_node {w:World}{t:Data}{S:Nat→Prop}{cs:List Value}(h:RexIs w t S cs):∃ op c s no ks,t=nd op c s no ks:=by
 cases t <;> simp only[RexIs] at h
 obtain⟨op,c,s,no,v,xs,rfl,_⟩:=h
 exact⟨op,c,s,no,_,rfl⟩

theorem rexs_mono {w:World}{ts:List Data}{S S':Nat→Prop}{xs:List Value}(h:RexsIs w ts S xs)(hS:∀ k,S k→S' k):RexsIs w ts S' xs:=by
 cases ts with
 | nil=>simpa only [RexsIs] using h
 | cons t ts =>
  simp only[RexsIs] at h ⊢
  obtain⟨S1,S2,c1,c2,hx,h1,h2,h3,h4⟩:=h
  exact⟨S1,S2,c1,c2,hx,h1,h2,fun k hk=>⟨hS k (h3 k hk).1,(h3 k hk).2⟩,fun k hk=>hS k (h4 k hk)⟩

theorem rex_mono {w:World}{t:Data}{S S':Nat→Prop}{cs:List Value}(h:RexIs w t S cs)(hS:∀ k,S k→S' k):RexIs w t S' cs:=by
 obtain⟨op,c,s,no,ks,rfl⟩:=rex_node h
 rw[rex_nd] at h ⊢
 obtain⟨v,xs,hc,ho,hg,hk⟩:=h
 exact⟨v,xs,hc,ho,fun g h=>hS g (hg g h),rexs_mono hk fun k hk=>⟨hS k hk.1,hk.2⟩⟩

theorem rexs_frame_of {w w':World}:∀ (ts:List Data) (S:Nat→Prop) (xs:List Value),(∀ t∈ts,∀ (S:Nat→Prop) (cs:List Value),(∀ k,S k→w'.heap[k]?=w.heap[k]?)→RexIs w t S cs→RexIs w' t S cs) →
  (∀ k,S k→w'.heap[k]?=w.heap[k]?)→RexsIs w ts S xs→RexsIs w' ts S xs
 | [],S,xs,_,_,h=>by simpa only [RexsIs] using h
 | t::ts,S,xs,hT,hS,h=>by
  simp only[RexsIs] at h ⊢
  obtain⟨S1,S2,c1,c2,hx,h1,h2,h3,h4⟩:=h
  exact⟨S1,S2,c1,c2,hx,hT t (by simp) S1 c1 (fun k hk=>hS k (h3 k hk).1) h1,rexs_frame_of ts S2 c2 (fun t ht=>hT t (by simp[ht])) (fun k hk=>hS k (h4 k hk)) h2,h3,h4⟩

theorem rex_frame {w w':World}(t:Data):∀ (S:Nat→Prop) (cs:List Value),(∀ k,S k→w'.heap[k]?=w.heap[k]?)→RexIs w t S cs→RexIs w' t S cs:=by
 induction t using rex_ind with
 | h ks lab ih =>
  intro S cs hS h
  rw[RexIs] at h ⊢
  obtain⟨op,c,s,no,v,xs,hl,hc,ho,hg,hk⟩:=h
  exact⟨op,c,s,no,v,xs,hl,hc,owns_same ho fun g h=>hS g (hg g h),hg,rexs_frame_of ks _ _ ih (fun k hk=>hS k hk.1) hk⟩
 | h1 t ht =>
  intro S cs hS h
  obtain⟨op,c,s,no,ks,rfl⟩:=rex_node h
  exact absurd rfl (ht _ _)

theorem rexs_frame {w w':World}{ts:List Data}{S:Nat→Prop}{xs:List Value}(hS:∀ k,S k→w'.heap[k]?=w.heap[k]?)(h:RexsIs w ts S xs):RexsIs w' ts S xs :=
 rexs_frame_of ts S xs (fun t _=>rex_frame t) hS h

theorem rexs_snoc {w:World}:∀ {ts:List Data} {t:Data} {S1 S2 S:Nat→Prop} {xs cs:List Value},RexsIs w ts S1 xs→RexIs w t S2 cs→(∀ k,S1 k→S k∧¬ S2 k)→(∀ k,S2 k→S k)→RexsIs w (ts++[t]) S (xs++cs)
 | [],t,S1,S2,S,xs,cs,h1,h2,h3,h4=>by
  simp only[RexsIs] at h1;subst h1;simp only[List.nil_append,RexsIs]
  exact⟨S2,fun _=>False,cs,[],by simp,h2,rfl,fun k hk=>⟨h4 k hk,id⟩,fun k hk=>hk.elim⟩
 | t'::ts,t,S1,S2,S,xs,cs,h1,h2,h3,h4=>by
  simp only[RexsIs] at h1
  obtain⟨A,B,c1,c2,rfl,a1,a2,a3,a4⟩:=h1
  simp only[List.cons_append,RexsIs]
  exact⟨A,fun k=>B k∨S2 k,c1,c2++cs,by simp,a1,rexs_snoc (S:=fun k=>B k∨S2 k) a2 h2 (fun k hk=>⟨.inl hk,(h3 k (a4 k hk)).2⟩) (fun k hk=>.inr hk),
   fun k hk=>⟨(h3 k (a3 k hk).1).1,fun h=>h.elim (a3 k hk).2 (h3 k (a3 k hk).1).2⟩,fun k hk=>hk.elim (fun h=>(h3 k (a4 k h)).1) (h4 k)⟩

def Kids (w:World)(B:Nat)(ts:List Data)(v:Value):Prop :=
 ∃ (xs:List Value) (S:Nat→Prop),w.ownsRow B 103 5 v ts.length xs∧RexsIs w ts S xs∧∀ k,S k→B≤k∧k<w.heap.size∧v.ownBlock≠some k

def Iv (lo hi:Nat):Nat→Prop:=fun k=>lo≤k∧k<hi

theorem kids_nil (w:World)(B:Nat):Kids w B [] (.slice none 0 0):=⟨[],fun _=>False,World.ownsRow_nil _ _ _ _,by simp only[RexsIs],fun _ h=>h.elim⟩

theorem kids_snoc {w w1 w2:World}{B:Nat}{ts:List Data}{t:Data}{v v':Value}{xs cs:List Value}{S:Nat→Prop}
  (h2:RexsIs w ts S xs) (h3:∀ k,S k→B≤k∧k<w.heap.size∧v.ownBlock≠some k) (hB:B≤w.heap.size)
  (hr:RexIs w1 t (Iv w.heap.size w1.heap.size) cs) (hsz:w.heap.size≤w1.heap.size) (hw1:∀ k,B≤k→k<w.heap.size→v.ownBlock≠some k→w1.heap[k]?=w.heap[k]?) (hv:∀ k,v.ownBlock=some k→k<w.heap.size)
  (ho':w2.ownsRow B 103 5 v' (ts.length+1) (xs++cs)) (hsz2:w1.heap.size≤w2.heap.size) (hw2:∀ k,k<w1.heap.size→v.ownBlock≠some k→w2.heap[k]?=w1.heap[k]?)
  (hv':v'.ownBlock=v.ownBlock∨∃ m,v'.ownBlock=some m∧w1.heap.size≤m):Kids w2 B (ts++[t]) v':=by
 have own:∀ k,v'.ownBlock=some k→v.ownBlock=some k∨w1.heap.size≤k:=by
  intro k hk;rcases hv' with h|⟨m,h,hm⟩
  ·exact .inl (h ▸ hk)
  ·rw[h] at hk;simp at hk;exact .inr (by omega)
 refine⟨xs++cs,fun k=>S k∨Iv w.heap.size w1.heap.size k,by simpa using ho',?_,?_⟩
 ·refine rexs_snoc (S1:=S) (S2:=Iv w.heap.size w1.heap.size) ?_ ?_ (fun k hk=>⟨.inl hk,fun h=>?_⟩) (fun k hk=>.inr hk)
  ·refine rexs_frame (fun k hk=>?_) h2
   have:=h3 k hk
   exact (hw2 k (by omega) this.2.2).trans (hw1 k this.1 this.2.1 this.2.2)
  ·refine rex_frame t _ _ (fun k hk=>hw2 k hk.2 fun h=>?_) hr
   have:=hv k h
   have:=hk.1
   omega
  ·have:=(h3 k hk).2.1
   have:=h.1
   omega
 ·intro k hk;rcases hk with hk|hk
  ·have:=h3 k hk
   refine⟨this.1,by omega,fun h=>?_⟩
   rcases own k h with h|h
   ·exact this.2.2 h
   ·omega
  ·have a1:=hk.1;have a2:=hk.2
   refine⟨by omega,by omega,fun h=>?_⟩
   rcases own k h with h|h
   ·have:=hv k h;omega
   ·omega

theorem kids_rex {w:World}{B:Nat}{ts:List Data}{v:Value}(h:Kids w B ts v)(op c:Nat)(s:List UInt8)(no:Bool):
  RexIs w (nd op c s no ts) (Iv B w.heap.size) [.int .i64 op,.int .i64 c,.string ⟨s.toArray⟩,.bool no,v]:=by
 obtain⟨xs,S,ho,hk,hS⟩:=h
 rw[rex_nd]
 refine⟨v,xs,rfl,owns_base ho (Nat.zero_le _),fun g hg=>ho.lt g hg,rexs_mono hk fun k hk=>?_⟩
 have:=hS k hk
 exact⟨⟨this.1,this.2.1⟩,this.2.2⟩

theorem rex_leaf (w:World)(S:Nat→Prop)(op c:Nat)(s:List UInt8)(no:Bool):RexIs w (nd op c s no []) S [.int .i64 op,.int .i64 c,.string ⟨s.toArray⟩,.bool no,.slice none 0 0]:=by
 rw[rex_nd]
 refine⟨_,[],rfl,World.ownsRow_nil _ _ _ _,fun g hg=>by simp[Value.ownBlock] at hg,by simp only[RexsIs]⟩

mutual
def cnt:Data→Nat
 | .slice ks _=>cnts ks+1
 | _=>1
def cnts:List Data→Nat
 | []=>0
 | t::ts=>cnt t+cnts ts
end

theorem cnt_nd (op c:Nat)(s:List UInt8)(no:Bool)(ks:List Data):cnt (nd op c s no ks)=cnts ks+1:=by simp[nd,cnt]
theorem dep_nd (op c:Nat)(s:List UInt8)(no:Bool)(ks:List Data):dep (nd op c s no ks)=deps ks+1:=by simp[nd,dep]
theorem cnt_pos (t:Data):0<cnt t:=by cases t <;> simp[cnt]
theorem cnts_len:∀ ts:List Data,ts.length≤cnts ts
 | []=>by simp[cnts]
 | t::ts=>by have:=cnts_len ts;have:=cnt_pos t;simp[cnts];omega
theorem cnts_mem:∀ {ts:List Data} {t:Data},t∈ts→cnt t≤cnts ts
 | t'::ts,t,h=>by
  rcases List.mem_cons.1 h with rfl|h
  ·simp[cnts]
  ·have:=cnts_mem h;simp[cnts];omega
theorem deps_mem:∀ {ts:List Data} {t:Data},t∈ts→dep t≤deps ts
 | t'::ts,t,h=>by
  rcases List.mem_cons.1 h with rfl|h
  ·simp[deps];omega
  ·have:=deps_mem h;simp[deps];omega

end Rx
end Go.Proofs.YtllbachngocmnaaGreatDoor
