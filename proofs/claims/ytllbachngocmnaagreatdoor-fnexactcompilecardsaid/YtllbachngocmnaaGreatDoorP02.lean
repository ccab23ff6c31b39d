/-
  Places of a stack in plain words: the forms of their codes, what each asks.
-/
import Derived.Test.YtllbachngocmnaaGreatDoorP01
import Derived.Maps.RangeWalk
import Derived.Maps.Views
import Derived.Sort.KeysCollected
import Derived.Test.YtllbachngocmnaaGreatDoorChecked
import Derived.Laws.AppendOwn
import Derived.Maps.AppendAt
namespace Go.Proofs.YtllbachngocmnaaGreatDoor
open Go.RowKit
namespace Oc
open St (Vl)

abbrev Fm:=Int × Int × Int × List UInt8
def encF (f:Fm):List Value:=[.int .i64 f.1,.int .i64 f.2.1,.int .i64 f.2.2.1,.string ⟨f.2.2.2.toArray⟩]
theorem encF_len (f:Fm):(encF f).length=4:=rfl
def zeroF:Fm:=(0,0,0,[])
def tbl:List Fm:=[
 (1,1,0,[110,117,109]),
 (2,0,1,[116,101,120,116]),
 (3,2,0,[118,97,114]),
 (4,2,0,[115,101,116,118,97,114]),
 (5,2,0,[112,108,117,115,118,97,114]),
 (6,3,0,[99,101,108,108]),
 (7,3,0,[115,101,116,99,101,108,108]),
 (8,3,0,[112,108,117,115,99,101,108,108]),
 (9,0,0,[102,105,101,108,100]),
 (10,0,0,[110,114]),
 (11,0,0,[110,102]),
 (12,0,0,[97,100,100]),
 (13,0,0,[115,117,98]),
 (14,0,0,[109,117,108]),
 (15,0,0,[100,105,118]),
 (16,0,0,[109,111,100]),
 (17,0,0,[99,97,116]),
 (18,0,0,[108,101,115,115]),
 (19,0,0,[109,111,115,116]),
 (20,0,0,[109,111,114,101]),
 (21,0,0,[108,101,97,115,116]),
 (22,0,0,[115,97,109,101]),
 (23,0,0,[111,116,104,101,114]),
 (24,0,2,[102,105,116,115]),
 (25,0,2,[108,105,110,101]),
 (26,0,0,[110,111,116]),
 (27,0,0,[109,105,110,117,115]),
 (28,0,0,[98,111,111,108]),
 (29,5,3,[99,97,108,108]),
 (30,4,0,[106,117,109,112]),
 (31,4,0,[122,101,114,111]),
 (32,0,0,[112,111,112]),
 (33,6,0,[115,104,111,119]),
 (34,0,0,[101,110,100,108]),
 (35,3,0,[100,114,111,112]),
 (36,0,0,[110,101,120,116])]
theorem tbl_len:tbl.length=36:=by decide

def kn (c:Int):Int:=if c=1 then 1 else if c=3∨c=4∨c=5 then 2 else if c=6∨c=7∨c=8∨c=35 then 3 else if c=30∨c=31 then 4 else if c=29 then 5 else if c=33 then 6 else 0
def ks (c:Int):Int:=if c=2 then 1 else if c=24∨c=25 then 2 else if c=29 then 3 else 0
theorem tbl_kinds:∀ f∈tbl,f.2.1=kn f.1∧f.2.2.1=ks f.1:=by decide
theorem tbl_names:(tbl.map fun f=>f.2.2.2).Nodup:=by decide
theorem tbl_codes:tbl.map (fun f=>f.1)=(List.range 36).map (fun i:Nat=>((i:Int)+1)):=by decide
theorem tbl_code {i:Nat}{f:Fm}(h:tbl[i]?=some f):f.1=(i:Int)+1:=by
 have hi:i<36:=by have:=(List.getElem?_eq_some_iff.1 h).1;rwa [tbl_len] at this
 have e:(tbl.map (fun f=>f.1))[i]?=some f.1:=by rw[List.getElem?_map,h];rfl
 rw[tbl_codes,List.getElem?_map,List.getElem?_range hi] at e
 exact (Option.some.inj e).symm

def hN (vars lists places what n:Int):Bool :=
 if what=1 then Dec.okB n else if what=2 then decide (0≤n∧n<vars) else if what=3 then decide (0≤n∧n<lists) else if what=4 then decide (0≤n∧n<places) else if what=5 then decide (1≤n∧n≤3) else if what=6 then decide (n=0∨n=1) else decide (n=0)
def hS (P:ByteArray→Bool)(what:Int)(s:ByteArray):Bool :=
 if what=1 then true else if what=2 then P s else if what=3 then Ty.callB s.data.toList else decide (s.size=0)
def codeB (c:Int):Bool:=decide (1≤c∧c≤36)
def opB (P:ByteArray→Bool)(vars lists places:Int)(o:Vl):Bool:=codeB o.1&&(hN vars lists places (kn o.1) o.2.1&&hS P (ks o.1) o.2.2)
def lastB (l:List Vl):Bool:=match l.getLast? with
 | some o=>decide (o.1=36)
 | none=>false
def opsB (P:ByteArray→Bool)(l:List Vl)(vars lists:Int):Bool:=decide (1≤l.length∧l.length≤1500)&&(lastB l&&l.all (opB P vars lists l.length))

def formAt (c:Int):Fm:=if codeB c then (tbl[(c - 1).toNat]?).getD zeroF else zeroF
theorem form_kinds {c:Int}(h:codeB c=true):(formAt c).2.1=kn c∧(formAt c).2.2.1=ks c∧tbl[(c - 1).toNat]?=some (formAt c):=by
 have h':1≤c∧c≤36:=by simpa [codeB] using h
 have hi:(c - 1).toNat<tbl.length:=by rw[tbl_len];omega
 have e:tbl[(c - 1).toNat]?=some (formAt c):=by
  unfold formAt
  rw[if_pos h,List.getElem?_eq_getElem hi]
  rfl
 have hc:=tbl_code e;have hk:=tbl_kinds _ (List.mem_of_getElem? e)
 have:(formAt c).1=c:=by rw[hc];omega
 rw[this] at hk
 exact⟨hk.1,hk.2,e⟩

/-! What the map holds. -/
def mkV (f:Int × Int × Int):Value:=.agg #[.int .i64 f.1,.int .i64 f.2.1,.int .i64 f.2.2,.string ⟨#[]⟩]
def dat (f:Int × Int × Int):DataW Unit:=.agg [.lit (.int .i64 f.1),.lit (.int .i64 f.2.1),.lit (.int .i64 f.2.2)]
theorem dat_inj {f g:Int × Int × Int}(h:dat f=dat g):f=g:=by
 obtain⟨a,b,c⟩:=f
 obtain⟨a',b',c'⟩:=g
 simpa [dat] using h
def datOf:List Value→Option (DataW Unit × List MemPlace)
 | [.int .i64 c,.int .i64 n,.int .i64 s,.string t]=>if t.data.toList=[] then some (dat (c,n,s),[]) else none
 | _=>none
def Rf:Value→Option (DataW Unit × List MemPlace)
 | .agg a=>datOf a.toList
 | _=>none
theorem Rf_mk (f:Int × Int × Int):Rf (mkV f)=some (dat f,[]):=rfl
theorem Rf_inv (v:Value)(y:DataW Unit × List MemPlace)(h:Rf v=some y):∃ f,v=mkV f:=by
 unfold Rf at h
 split at h
 ·rename_i a
  unfold datOf at h
  split at h
  ·rename_i c n s t ha
   split at h
   ·rename_i ht
    refine⟨(c,n,s),?_⟩
    obtain⟨⟨tl⟩⟩:=t
    obtain⟨al⟩:=a
    simp only[] at ha ht;subst ht
    rw[ha]
    rfl
   ·cases h
  ·cases h
 ·cases h
def thr (f:Fm):Int × Int × Int:=(f.1,f.2.1,f.2.2.1)
def dR:List Fm→DataW Unit
 | []=>.map []
 | f::l=>(dR l).put (.string f.2.2.2) (dat (thr f))
theorem dR_map:∀ l,Maps.IsMap (dR l)
 | []=>Maps.isMap_empty
 | _::l=>(dR_map l).put _ _
theorem dR_has:∀ (l:List Fm) (x:List UInt8),Maps.has (dR l) (.string x)=true↔x∈l.map fun f=>f.2.2.2
 | [],x=>by simp[dR,Maps.has_eq]
 | f::l,x=>by
  rw[dR,List.map_cons,List.mem_cons]
  by_cases h:x=f.2.2.2
  ·subst h
   rw[Maps.has_put_same (dR_map l) (by trivial)]
   simp
  ·rw[Maps.has_put_other (by simpa using h),dR_has l x]
   simp[h]
theorem dR_at:∀ (l:List Fm) (x:List UInt8) (y:DataW Unit),(∀ zd,(dR l).atKey (.string x) zd=y)→∃ f∈l,f.2.2.2=x∧dat (thr f)=y
 | [],x,y,h=>by
  have h1:=h (.nil);have h2:=h (.map []);simp[dR,DataW.atKey] at h1 h2
  rw[← h1] at h2
  cases h2
 | f::l,x,y,h=>by
  by_cases hx:x=f.2.2.2
  ·subst hx
   refine⟨f,by simp,rfl,?_⟩
   have:=h .nil
   rwa [dR,Maps.atKey_put_same (dR_map l) (by trivial)] at this
  ·obtain⟨g,hg,h1,h2⟩:=dR_at l x y fun zd=>by
    have:=h zd
    rwa [dR,Maps.atKey_put_other (by simpa using hx)] at this
   exact⟨g,by simp[hg],h1,h2⟩

def Came (left:Lit→Bool)(L:List Fm):Prop:=Collected (dR tbl.reverse) left (L.map fun f=>f.2.2.2)∧∀ f∈L,f∈tbl
theorem Came.start:Came (Maps.has (dR tbl.reverse)) []:=⟨Collected.start _,fun f h=>by cases h⟩
theorem Came.step {left:Lit→Bool}{L:List Fm}(h:Came left L){x:List UInt8}{c:Int × Int × Int}(hl:left (.string x)=true)(hat:∀ zd,(dR tbl.reverse).atKey (.string x) zd=dat c):Came (fun z=>left z&&!z.sameKey (.string x)) (L++[(c.1,c.2.1,c.2.2,x)]):=by
 refine⟨?_,fun f hf=>?_⟩
 ·rw[List.map_append]
  exact h.1.step hl hat
 ·rcases List.mem_append.1 hf with hf|hf
  ·exact h.2 f hf
  ·obtain⟨g,hg,h1,h2⟩:=dR_at _ x _ hat
   have h3:=dat_inj h2;simp only[List.mem_singleton] at hf;subst hf
   obtain⟨g0,g1,g2,g3⟩:=g
   simp only[thr] at h3 h1;subst h3 h1;exact List.mem_reverse.1 hg
theorem nodup_of_map {α β:Type}{f:α→β}:∀ {l:List α},(l.map f).Nodup→l.Nodup
 | [],_=>List.nodup_nil
 | x::l,h=>by
  rw[List.map_cons,List.nodup_cons] at h
  exact List.nodup_cons.2 ⟨fun hx=>h.1 (List.mem_map_of_mem hx),nodup_of_map h.2⟩
theorem eq_of_name {f g:Fm}(hf:f∈tbl)(hg:g∈tbl)(h:f.2.2.2=g.2.2.2):f=g:=by
 have h':∀ f∈tbl,∀ g∈tbl,f.2.2.2=g.2.2.2→f=g:=by decide +kernel
 exact h' f hf g hg h
theorem Came.perm {left:Lit→Bool}{L:List Fm}(h:Came left L)(hl:∀ kl,left kl=false):L.Perm tbl:=by
 refine (List.perm_ext_iff_of_nodup (nodup_of_map h.1.1) (nodup_of_map tbl_names)).2 fun f=>⟨h.2 f,fun hf=>?_⟩;have hx:f.2.2.2∈L.map fun f=>f.2.2.2:=(h.1.2 _).2 ⟨(dR_has _ _).2 (by rw[List.map_reverse,List.mem_reverse];exact List.mem_map_of_mem hf),hl _⟩
 obtain⟨g,hg,e⟩:=List.mem_map.1 hx
 rw[← eq_of_name (h.2 g hg) hf e]
 exact hg
theorem Came.len {left:Lit→Bool}{L:List Fm}(h:Came left L):L.length≤36:=by
 have:=(nodup_of_map h.1.1).length_le_of_subset fun f hf=>h.2 f hf
 rwa [tbl_len] at this
theorem sorted_is {L:List Fm}(hp:L.Perm tbl)(hs:L.Pairwise fun x y=>¬ y.1<x.1):L=tbl:=by
 have h1:tbl.Pairwise fun x y=>¬ y.1<x.1:=by decide
 refine List.Perm.eq_of_pairwise (le:=fun x y=>¬ y.1<x.1) (fun a b ha hb h1 h2=>?_) hs h1 hp;have hc:a.1=b.1:=by omega
 have ha:=hp.mem_iff.1 ha
 obtain⟨i,hi,rfl⟩:=List.getElem_of_mem ha
 obtain⟨j,hj,rfl⟩:=List.getElem_of_mem hb
 have e1:=tbl_code (List.getElem?_eq_getElem hi);have e2:=tbl_code (List.getElem?_eq_getElem hj)
 have:i=j:=by omega
 subst this;rfl

end Oc
namespace Pg
open St (Vl RdV)

def ltB (p s:ByteArray):Bool:=Op.bytesLess p.toList s.toList
def nm (ss:List ByteArray)(i:Nat):ByteArray:=ss.getD i ⟨#[]⟩
def nmB (s:ByteArray):Bool:=Ty.nameB s.data.toList
def upAt (ss:List ByteArray)(i:Nat):Bool:=decide (i=0) || ltB (nm ss (i - 1)) (nm ss i)
def upB (ss:List ByteArray)(k:Nat):Bool:=(List.range k).all (upAt ss)
theorem upB_succ (ss:List ByteArray)(k:Nat):upB ss (k+1)=(upB ss k&&upAt ss k):=by
 unfold upB
 rw[List.range_succ,List.all_append]
 simp
theorem upB_no {ss:List ByteArray}{i n:Nat}(h:i<n)(hi:upAt ss i=false):upB ss n=false:=by
 rcases hb:upB ss n with _|_
 ·rfl
 ·unfold upB at hb
  rw[List.all_eq_true.1 hb i (List.mem_range.2 h)] at hi
  cases hi
theorem nm_get {ss:List ByteArray}{i:Nat}{s:ByteArray}(h:ss[i]?=some s):nm ss i=s:=by unfold nm;simp[h]
def namesB (ss:List ByteArray):Bool:=decide (ss.length≤8)&&(ss.all nmB&&upB ss ss.length)
def eqB (x s:ByteArray):Bool:=decide (x.toList=s.toList)
def hasT (ss:List ByteArray)(s:ByteArray):Bool:=ss.any (eqB · s)
def freeOf (cells:List ByteArray)(v:ByteArray):Bool:=!hasT cells v
def listsB (vars cells:List ByteArray):Bool:=namesB vars&&(namesB cells&&vars.all (freeOf cells))
def idx (ss:List ByteArray)(s:ByteArray):Int:=match ss.findIdx? (eqB · s) with|some k=>k|none => -1
theorem idx_at {ss:List ByteArray}{k:Nat}{x s:ByteArray}(h:ss[k]?=some x)(hx:eqB x s=true)(hn:(ss.take k).any (eqB · s)=false):idx ss s=k∧hasT ss s=true:=by
 have hk:k<ss.length:=(List.getElem?_eq_some_iff.1 h).1;have he:=(List.getElem?_eq_some_iff.1 h).2;have hf:ss.findIdx? (eqB · s)=some k:=by
  rw[List.findIdx?_eq_some_iff_getElem]
  refine⟨hk,by rw[he];exact hx,fun j hj hp=>?_⟩
  have:(ss.take k).any (eqB · s)=true:=List.any_eq_true.2 ⟨ss[j],List.mem_take_iff_getElem.2 ⟨j,by omega,rfl⟩,hp⟩
  rw[hn] at this
  cases this
 refine⟨by unfold idx;rw[hf],?_⟩
 unfold hasT;exact List.any_eq_true.2 ⟨x,List.mem_of_getElem? h,hx⟩
theorem idx_none {ss:List ByteArray}{s:ByteArray}(hn:ss.any (eqB · s)=false):idx ss s = -1∧hasT ss s=false:=by
 have hf:ss.findIdx? (eqB · s)=none:=by
  rw[List.findIdx?_eq_none_iff]
  intro x hx;rcases hb:eqB x s with _|_
  ·rfl
  ·rw[List.any_eq_true.2 ⟨x,hx,hb⟩] at hn
   cases hn
 exact⟨by unfold idx;rw[hf],hn⟩
theorem any_takeT {p:ByteArray→Bool}{ks:List ByteArray}{k:Nat}{t:ByteArray}(h:ks[k]?=some t):(ks.take (k+1)).any p=((ks.take k).any p || p t):=by
 rw[List.take_add_one,h,List.any_append]
 simp
theorem idx_neg (ss:List ByteArray)(s:ByteArray):decide (idx ss s<0)=freeOf ss s:=by
 unfold freeOf hasT;rcases hb:ss.any (eqB · s) with _|_
 ·rw[(idx_none hb).1];rfl
 ·obtain⟨x,hx,hp⟩:=List.any_eq_true.1 hb
  rcases hf:ss.findIdx? (eqB · s) with _|k
  ·rw[List.findIdx?_eq_none_iff] at hf
   rw[hf x hx] at hp
   cases hp
  ·unfold idx
   rw[hf]
   simp
def progB (P:ByteArray→Bool)(vars cells:List ByteArray)(st mn:List Vl):Bool:=listsB vars cells&&(Oc.opsB P st vars.length cells.length&&Oc.opsB P mn vars.length cells.length)
theorem all_takeT {p:ByteArray→Bool}{ks:List ByteArray}{k:Nat}{t:ByteArray}(h:ks[k]?=some t):(ks.take (k+1)).all p=((ks.take k).all p&&p t):=by
 rw[List.take_add_one,h,List.all_append]
 simp
theorem all_noT {p:ByteArray→Bool}{ks:List ByteArray}{t:ByteArray}(h:t∈ks)(hp:p t=false):ks.all p=false:=by
 rcases hb:ks.all p with _|_
 ·rfl
 ·rw[List.all_eq_true.1 hb t h] at hp;cases hp

end Pg
namespace Cm
open St (Vl)
open Nd Ty

def tx (s:List UInt8):ByteArray:=⟨s.toArray⟩
def none':ByteArray:=⟨#[]⟩
def plainC (op:Int):Int:=if op=6 then 9 else if op=7 then 10 else if op=8 then 11 else if op=22 then 26 else if op=23 then 27 else if op=33 then 36 else if op=35 then 32 else op+3
def wordV (iv ic:ByteArray→Int)(op n:Int)(s:List UInt8)(k:Nat):Vl :=
 if op=1 then (1,n,none') else if op=2 then (2,0,tx s) else if op=3 then (25,0,tx s) else if op=4 then (3,iv (tx s),none') else if op=5 then (6,ic (tx s),none')
 else if op=34 then (35,ic (tx s),none') else if op=28 then (29,k,tx s) else (plainC op,0,none')

abbrev Pt:=Nat→List Vl
def seqs:List Pt→Pt
 | [],_=>[]
 | f::fs,b=>f b++seqs fs (b+(f b).length)
def prints:Nat→List Pt→Pt
 | _,[],_=>[]
 | i,f::fs,b=>f b++(33,((min i 1:Nat):Int),none')::prints (i+1) fs (b+(f b).length+1)
def andV (f0 f1:Pt):Pt:=fun b =>
 let a:=f0 b
 let c:=f1 (b+a.length+1)
 a++(31,((b+a.length+1+c.length+2:Nat):Int),none')::(c++[(28,0,none'),(30,((b+a.length+1+c.length+3:Nat):Int),none'),(1,0,none')])
def orV (f0 f1:Pt):Pt:=fun b =>
 let a:=f0 b
 let c:=f1 (b+a.length+3)
 a++(31,((b+a.length+3:Nat):Int),none')::(1,1000000,none')::(30,((b+a.length+3+c.length+1:Nat):Int),none')::(c++[(28,0,none')])
def ifV (f0 f1:Pt):Pt:=fun b =>
 let a:=f0 b
 let c:=f1 (b+a.length+1)
 a++(31,((b+a.length+1+c.length:Nat):Int),none')::c
def elseV (f0 f1 f2:Pt):Pt:=fun b =>
 let a:=f0 b
 let c:=f1 (b+a.length+1)
 let d:=f2 (b+a.length+1+c.length+1)
 a++(31,((b+a.length+1+c.length+1:Nat):Int),none')::(c++(30,((b+a.length+1+c.length+1+d.length:Nat):Int),none')::d)
def whileV (f0 f1:Pt):Pt:=fun b =>
 let a:=f0 b
 let c:=f1 (b+a.length+1)
 a++(31,((b+a.length+1+c.length+1:Nat):Int),none')::(c++[(30,(b:Int),none')])

def opV (iv ic:ByteArray→Int)(op n:Int)(s:List UInt8)(ks:List Data)(fs:List (Pt × Pt)):Pt:=fun b =>
 if op=29 then seqs (fs.map (·.2)) b
 else if op=30 then (if fs.isEmpty then [(1,0,none'),(9,0,none'),(33,0,none')] else prints 0 (fs.map (·.2)) b)++[(34,0,none')]
 else if op=31 then (match fs with|[f0,f1]=>ifV f0.2 f1.1 b|[f0,f1,f2]=>elseV f0.2 f1.1 f2.1 b|_=>[])
 else if op=32 then (match fs with|[f0,f1]=>whileV f0.2 f1.1 b|_=>[])
 else if op=24 then (match fs with|[f0,f1]=>andV f0.2 f1.2 b|_=>[])
 else if op=25 then (match fs with|[f0,f1]=>orV f0.2 f1.2 b|_=>[])
 else if op=26∨op=27 then (match ks,fs with
  | [k0,_],[f0,f1]=>seqs [f0.1,f1.2] b++[if opOf k0=4 then (4+(op - 26),iv (tx (txtOf k0)),none') else (7+(op - 26),ic (tx (txtOf k0)),none')]
  | _,_=>[])
 else if op=21 then (match ks,fs with|[_,k1],[f0,_]=>f0.2 b++[(24,0,tx (txtOf k1))]|_,_=>[])
 else seqs (fs.map (·.2)) b++[wordV iv ic op n s ks.length]

mutual
def comp (iv ic:ByteArray→Int):Data→Pt × Pt
 | .slice ks lab=>(seqs ((comps iv ic ks).map (·.2)),opV iv ic (opOf (.slice ks lab)) (numOf (.slice ks lab)) (txtOf (.slice ks lab)) ks (comps iv ic ks))
 | _=>(fun _=>[],fun _=>[])
def comps (iv ic:ByteArray→Int):List Data→List (Pt × Pt)
 | []=>[]
 | t::ts=>comp iv ic t::comps iv ic ts
end
theorem comps_map (iv ic:ByteArray→Int):∀ ts:List Data,comps iv ic ts=ts.map (comp iv ic)
 | []=>by simp[comps]
 | t::ts=>by simp[comps,comps_map iv ic ts]
def seqOf (iv ic:ByteArray→Int)(ts:List Data):Pt:=seqs ((ts.map (comp iv ic)).map (·.2))
def nodeP (iv ic:ByteArray→Int)(t:Data):Pt:=(comp iv ic t).2
theorem comp_kids (iv ic:ByteArray→Int)(op n:Int)(s:List UInt8)(ks:List Data):(comp iv ic (nd op n s ks)).1=seqOf iv ic ks:=by
 unfold nd seqOf
 rw[comp,comps_map]
theorem nodeP_nd (iv ic:ByteArray→Int)(op n:Int)(s:List UInt8)(ks:List Data):nodeP iv ic (nd op n s ks)=opV iv ic op n s ks (ks.map (comp iv ic)):=by
 unfold nodeP
 rw[show comp iv ic (nd op n s ks)=(seqs ((comps iv ic ks).map (·.2)),opV iv ic (opOf (nd op n s ks)) (numOf (nd op n s ks)) (txtOf (nd op n s ks)) ks (comps iv ic ks)) by unfold nd;rw[comp],op_nd,num_nd,txt_nd,comps_map]
theorem seqs_append:∀ (fs gs:List Pt) (b:Nat),seqs (fs++gs) b=seqs fs b++seqs gs (b+(seqs fs b).length)
 | [],gs,b=>by simp[seqs]
 | f::fs,gs,b=>by
  simp only[List.cons_append,seqs,seqs_append fs gs,List.append_assoc,List.length_append,Nat.add_assoc]
theorem seqOf_nil (iv ic:ByteArray→Int)(b:Nat):seqOf iv ic [] b=[]:=rfl
theorem seqOf_take (iv ic:ByteArray→Int){ts:List Data}{k:Nat}{t:Data}(h:ts[k]?=some t)(b:Nat):seqOf iv ic (ts.take (k+1)) b=seqOf iv ic (ts.take k) b++nodeP iv ic t (b+(seqOf iv ic (ts.take k) b).length):=by
 unfold seqOf
 rw[List.take_add_one,h]
 simp only[Option.toList_some,List.map_append,List.map_cons,List.map_nil,seqs_append];simp[seqs,nodeP]
theorem seqOf_len (iv ic:ByteArray→Int)(ts:List Data)(k b:Nat):(seqOf iv ic (ts.take k) b).length≤(seqOf iv ic ts b).length:=by
 have:seqOf iv ic ts b=seqOf iv ic (ts.take k) b++seqOf iv ic (ts.drop k) (b+(seqOf iv ic (ts.take k) b).length):=by
  unfold seqOf
  rw[← seqs_append,← List.map_append,← List.map_append,List.take_append_drop]
 rw[this,List.length_append]
 omega
end Cm
namespace Nd

theorem heap_lt {w:World}{g:Nat}{o:Obj}(h:w.heap[g]?=some o):g<w.heap.size:=(Array.getElem?_eq_some_iff.1 h).1
theorem heap_new (w:World)(o:Obj):(w.alloc o).heap[w.heap.size]?=some o:=heap_alloc_new w o

theorem owns_same {w w':World}{base e size n:Nat}{v:Value}{xs:List Value}(h:w.ownsRow base e size v n xs)(hb:∀ g,v.ownBlock=some g→w'.heap[g]?=w.heap[g]?):w'.ownsRow base e size v n xs:=by
 refine⟨h.1,?_⟩
 rcases h.2 with hn|⟨g,cap,cur,hv,hb',hg,rest⟩
 ·exact .inl hn
 ·exact .inr ⟨g,cap,cur,hv,hb',(hb g (by subst hv;rfl)).trans hg,rest⟩

theorem owns_base {w:World}{base base' e size n:Nat}{v:Value}{xs:List Value}(h:w.ownsRow base e size v n xs)(hb:base'≤base):w.ownsRow base' e size v n xs:=by
 refine⟨h.1,?_⟩
 rcases h.2 with hn|⟨g,cap,cur,hv,hb',rest⟩
 ·exact .inl hn
 ·exact .inr ⟨g,cap,cur,hv,Nat.le_trans hb hb',rest⟩

theorem owns_slice {w:World}{base e size n:Nat}{v:Value}{xs:List Value}(h:w.ownsRow base e size v n xs):∃ ao cap,v=.slice ao n cap:=by
 rcases h.2 with ⟨rfl,rfl⟩|⟨g,cap,cur,rfl,_⟩
 ·exact⟨_,_,rfl⟩
 ·exact⟨_,_,rfl⟩

theorem owns_block {w:World}{base e size n cap:Nat}{ao:Option Addr}{xs:List Value}(h:w.ownsRow base e size (.slice ao n cap) n xs)(hn:0<n):∃ g cur,ao=some ⟨g,0,none⟩∧w.heap[g]?=some (.cells cur e (0,0)):=by
 rcases h.2 with ⟨_,h0⟩|⟨g,cap',cur,hv,_,hg,_⟩
 ·omega
 ·simp only[Value.slice.injEq] at hv
  exact⟨g,cur,hv.1,hg⟩

theorem row_cells {w:World}{B e size n k cap:Nat}{ao:Option Addr}{xs:List Value}(ho:w.ownsRow B e size (.slice ao n cap) n xs)(hk:k<n):∃ g,ao=some ⟨g,0,none⟩∧g<w.heap.size∧∀ j x,xs[j]?=some x→w.cell? ⟨g,j,none⟩=some x:=by
 rcases ho.2 with ⟨h,hn⟩|⟨g,cap',cur,h,_⟩
 ·omega
 ·simp only[Value.slice.injEq] at h
  obtain⟨rfl,_,rfl⟩:=h
  refine⟨g,rfl,(ho.lt g rfl).2,fun j x hx=>?_⟩
  have:=ho.cells (g:=g) rfl j x hx
  have hadd:(⟨g,0,none⟩:Addr).add j=⟨g,j,none⟩:=by unfold Addr.add;split <;> simp_all
  rw[← hadd]
  exact this

mutual
def NodeIs (w:World):Data→(Nat→Prop)→List Value→Prop
 | .slice ks lab,S,cs=>∃ (op n:Int) (s:List UInt8) (v:Value) (xs:List Value),lab=[.lit (.int .i64 op),.lit (.int .i64 n),.lit (.string s)] ∧
   cs=[.int .i64 op,.int .i64 n,.string ⟨s.toArray⟩,v]∧w.ownsRow 0 51 4 v ks.length xs∧(∀ g,v.ownBlock=some g→S g)∧NodesIs w ks (fun k=>S k∧v.ownBlock≠some k) xs
 | _,_,_=>False
def NodesIs (w:World):List Data→(Nat→Prop)→List Value→Prop
 | [],_,xs=>xs=[]
 | t::ts,S,xs=>∃ (S1 S2:Nat→Prop) (c1 c2:List Value),xs=c1++c2∧NodeIs w t S1 c1∧NodesIs w ts S2 c2∧(∀ k,S1 k→S k∧¬ S2 k)∧(∀ k,S2 k→S k)
end

theorem node_nd {w:World}{op n:Int}{s:List UInt8}{ks:List Data}{S:Nat→Prop}{cs:List Value}:
  NodeIs w (nd op n s ks) S cs↔∃ (v:Value) (xs:List Value),cs=[.int .i64 op,.int .i64 n,.string ⟨s.toArray⟩,v]∧w.ownsRow 0 51 4 v ks.length xs ∧
   (∀ g,v.ownBlock=some g→S g)∧NodesIs w ks (fun k=>S k∧v.ownBlock≠some k) xs:=by
 unfold nd
 rw[NodeIs]
 constructor
 ·rintro⟨op',n',s',v,xs,hl,hc,h⟩
  have:=nd_inj (show nd op n s []=nd op' n' s' [] by unfold nd;rw[hl])
  obtain⟨rfl,rfl,rfl,_⟩:=this
  exact⟨v,xs,hc,h⟩
 ·rintro⟨v,xs,hc,h⟩
  exact⟨op,n,s,v,xs,rfl,hc,h⟩

theorem node_len {w:World}{t:Data}{S:Nat→Prop}{cs:List Value}(h:NodeIs w t S cs):cs.length=4:=by
 cases t <;> simp only[NodeIs] at h
 obtain⟨op,n,s,v,xs,_,rfl,_⟩:=h
 rfl

theorem node_node {w:World}{t:Data}{S:Nat→Prop}{cs:List Value}(h:NodeIs w t S cs):∃ op n s ks,t=nd op n s ks:=by
 cases t <;> simp only[NodeIs] at h
 obtain⟨op,n,s,v,xs,rfl,_⟩:=h
 exact⟨op,n,s,_,rfl⟩

theorem nodes_len {w:World}:∀ {ts:List Data} {S:Nat→Prop} {xs:List Value},NodesIs w ts S xs→xs.length=ts.length*4
 | [],S,xs,h=>by simp only[NodesIs] at h;simp[h]
 | t::ts,S,xs,h=>by
  simp only[NodesIs] at h
  obtain⟨S1,S2,c1,c2,rfl,h1,h2,_⟩:=h
  have:=node_len h1
  have:=nodes_len h2
  simp;omega

theorem nodes_mono {w:World}{ts:List Data}{S S':Nat→Prop}{xs:List Value}(h:NodesIs w ts S xs)(hS:∀ k,S k→S' k):NodesIs w ts S' xs:=by
 cases ts with
 | nil=>simpa only [NodesIs] using h
 | cons t ts =>
  simp only[NodesIs] at h ⊢
  obtain⟨S1,S2,c1,c2,hx,h1,h2,h3,h4⟩:=h
  exact⟨S1,S2,c1,c2,hx,h1,h2,fun k hk=>⟨hS k (h3 k hk).1,(h3 k hk).2⟩,fun k hk=>hS k (h4 k hk)⟩

theorem node_mono {w:World}{t:Data}{S S':Nat→Prop}{cs:List Value}(h:NodeIs w t S cs)(hS:∀ k,S k→S' k):NodeIs w t S' cs:=by
 obtain⟨op,n,s,ks,rfl⟩:=node_node h
 rw[node_nd] at h ⊢
 obtain⟨v,xs,hc,ho,hg,hk⟩:=h
 exact⟨v,xs,hc,ho,fun g h=>hS g (hg g h),nodes_mono hk fun k hk=>⟨hS k hk.1,hk.2⟩⟩

theorem nodes_frame_of {w w':World}:∀ (ts:List Data) (S:Nat→Prop) (xs:List Value),(∀ t∈ts,∀ (S:Nat→Prop) (cs:List Value),(∀ k,S k→w'.heap[k]?=w.heap[k]?)→NodeIs w t S cs→NodeIs w' t S cs) →
  (∀ k,S k→w'.heap[k]?=w.heap[k]?)→NodesIs w ts S xs→NodesIs w' ts S xs
 | [],S,xs,_,_,h=>by simpa only [NodesIs] using h
 | t::ts,S,xs,hT,hS,h=>by
  simp only[NodesIs] at h ⊢
  obtain⟨S1,S2,c1,c2,hx,h1,h2,h3,h4⟩:=h
  exact⟨S1,S2,c1,c2,hx,hT t (by simp) S1 c1 (fun k hk=>hS k (h3 k hk).1) h1,nodes_frame_of ts S2 c2 (fun t ht=>hT t (by simp[ht])) (fun k hk=>hS k (h4 k hk)) h2,h3,h4⟩

theorem node_frame {w w':World}(t:Data):∀ (S:Nat→Prop) (cs:List Value),(∀ k,S k→w'.heap[k]?=w.heap[k]?)→NodeIs w t S cs→NodeIs w' t S cs:=by
 induction t using tree_ind with
 | h ks lab ih =>
  intro S cs hS h
  rw[NodeIs] at h ⊢
  obtain⟨op,n,s,v,xs,hl,hc,ho,hg,hk⟩:=h
  exact⟨op,n,s,v,xs,hl,hc,owns_same ho fun g h=>hS g (hg g h),hg,nodes_frame_of ks _ _ ih (fun k hk=>hS k hk.1) hk⟩
 | h1 t ht =>
  intro S cs hS h
  obtain⟨op,n,s,ks,rfl⟩:=node_node h
  exact absurd rfl (ht _ _)

theorem nodes_frame {w w':World}{ts:List Data}{S:Nat→Prop}{xs:List Value}(hS:∀ k,S k→w'.heap[k]?=w.heap[k]?)(h:NodesIs w ts S xs):NodesIs w' ts S xs :=
 nodes_frame_of ts S xs (fun t _=>node_frame t) hS h

theorem nodes_snoc {w:World}:∀ {ts:List Data} {t:Data} {S1 S2 S:Nat→Prop} {xs cs:List Value},NodesIs w ts S1 xs→NodeIs w t S2 cs→(∀ k,S1 k→S k∧¬ S2 k)→(∀ k,S2 k→S k)→NodesIs w (ts++[t]) S (xs++cs)
 | [],t,S1,S2,S,xs,cs,h1,h2,h3,h4=>by
  simp only[NodesIs] at h1;subst h1;simp only[List.nil_append,NodesIs]
  exact⟨S2,fun _=>False,cs,[],by simp,h2,rfl,fun k hk=>⟨h4 k hk,id⟩,fun k hk=>hk.elim⟩
 | t'::ts,t,S1,S2,S,xs,cs,h1,h2,h3,h4=>by
  simp only[NodesIs] at h1
  obtain⟨A,B,c1,c2,rfl,a1,a2,a3,a4⟩:=h1
  simp only[List.cons_append,NodesIs]
  exact⟨A,fun k=>B k∨S2 k,c1,c2++cs,by simp,a1,nodes_snoc (S:=fun k=>B k∨S2 k) a2 h2 (fun k hk=>⟨.inl hk,(h3 k (a4 k hk)).2⟩) (fun k hk=>.inr hk),
   fun k hk=>⟨(h3 k (a3 k hk).1).1,fun h=>h.elim (a3 k hk).2 (h3 k (a3 k hk).1).2⟩,fun k hk=>hk.elim (fun h=>(h3 k (a4 k h)).1) (h4 k)⟩

theorem nodes_append {w:World}:∀ {us:List Data} {ts:List Data} {S1 S2 S:Nat→Prop} {xs ys:List Value},NodesIs w ts S1 xs→NodesIs w us S2 ys→(∀ k,S1 k→S k∧¬ S2 k)→(∀ k,S2 k→S k)→NodesIs w (ts++us) S (xs++ys)
 | us,[],S1,S2,S,xs,ys,h1,h2,h3,h4=>by
  simp only[NodesIs] at h1;subst h1;exact nodes_mono h2 h4
 | us,t'::ts,S1,S2,S,xs,ys,h1,h2,h3,h4=>by
  simp only[NodesIs] at h1
  obtain⟨A,B,c1,c2,rfl,a1,a2,a3,a4⟩:=h1
  simp only[List.cons_append,NodesIs]
  exact⟨A,fun k=>B k∨S2 k,c1,c2++ys,by simp,a1,nodes_append (S:=fun k=>B k∨S2 k) a2 h2 (fun k hk=>⟨.inl hk,(h3 k (a4 k hk)).2⟩) (fun k hk=>.inr hk),
   fun k hk=>⟨(h3 k (a3 k hk).1).1,fun h=>h.elim (a3 k hk).2 (h3 k (a3 k hk).1).2⟩,fun k hk=>hk.elim (fun h=>(h3 k (a4 k h)).1) (h4 k)⟩

theorem nodes_split {w:World}:∀ {as1 bs1:List Data} {S:Nat→Prop} {xs:List Value},NodesIs w (as1++bs1) S xs→∃ S1 S2 c1 c2,xs=c1++c2∧NodesIs w as1 S1 c1∧NodesIs w bs1 S2 c2∧(∀ k,S1 k→S k∧¬ S2 k)∧(∀ k,S2 k→S k)
 | [],bs1,S,xs,h=>⟨fun _=>False,S,[],xs,rfl,rfl,h,fun k hk=>hk.elim,fun k hk=>hk⟩
 | a::as1,bs1,S,xs,h=>by
  simp only[List.cons_append,NodesIs] at h
  obtain⟨A,B,c1,c2,rfl,h1,h2,h3,h4⟩:=h
  obtain⟨S1,S2,d1,d2,rfl,k1,k2,k3,k4⟩:=nodes_split h2
  refine⟨fun k=>A k∨S1 k,S2,c1++d1,d2,by simp,?_,k2,fun k hk=>?_,fun k hk=>h4 k (k4 k hk)⟩
  ·simp only[NodesIs]
   exact⟨A,S1,c1,d1,rfl,h1,k1,fun k hk=>⟨.inl hk,fun hs=>(h3 k hk).2 (k3 k hs).1⟩,fun k hk=>.inr hk⟩
  ·rcases hk with hk|hk
   ·exact⟨(h3 k hk).1,fun hs=>(h3 k hk).2 (k4 k hs)⟩
   ·exact⟨h4 k (k3 k hk).1,(k3 k hk).2⟩

theorem nodes_at {w:World}:∀ {ts:List Data} {S:Nat→Prop} {xs:List Value} {i:Nat} {t:Data},NodesIs w ts S xs→ts[i]?=some t→∃ (S1:Nat→Prop) (a b c u:Value),xs[i*4]?=some a∧xs[i*4+1]?=some b∧xs[i*4+2]?=some c∧xs[i*4+3]?=some u∧NodeIs w t S1 [a,b,c,u]∧∀ k,S1 k→S k
 | [],S,xs,i,t,h,hi=>by simp at hi
 | t'::ts,S,xs,0,t,h,hi=>by
  simp only[NodesIs] at h
  obtain⟨S1,S2,c1,c2,rfl,h1,_,h3,_⟩:=h
  simp at hi;subst hi;have hl:=node_len h1
  match c1,hl with
  | [a,b,c,u],_=>exact⟨S1,a,b,c,u,by simp,by simp,by simp,by simp,h1,fun k hk=>(h3 k hk).1⟩
 | t'::ts,S,xs,i+1,t,h,hi=>by
  simp only[NodesIs] at h
  obtain⟨S1,S2,c1,c2,rfl,h1,h2,_,h4⟩:=h
  simp at hi;have hl:=node_len h1
  obtain⟨S3,a,b,c,u,e1,e2,e3,e4,h5,h6⟩:=nodes_at h2 hi
  have sh:∀ j,(c1++c2)[(i+1)*4+j]?=c2[i*4+j]?:=fun j=>by
   rw[List.getElem?_append_right (by omega)]
   congr 1
   omega
  exact⟨S3,a,b,c,u,(sh 0).trans e1,(sh 1).trans e2,(sh 2).trans e3,(sh 3).trans e4,h5,fun k hk=>h4 k (h6 k hk)⟩

theorem node_form {w:World}{t:Data}{S:Nat→Prop}{a b c u:Value}(h:NodeIs w t S [a,b,c,u]):∃ op n s ao cap xs,t=nd op n s (kidsOf t)∧a=.int .i64 op∧b=.int .i64 n∧c=.string ⟨s.toArray⟩∧u=.slice ao (kidsOf t).length cap ∧
  w.ownsRow 0 51 4 (.slice ao (kidsOf t).length cap) (kidsOf t).length xs∧(∀ g,(Value.slice ao (kidsOf t).length cap).ownBlock=some g→S g)∧NodesIs w (kidsOf t) (fun k=>S k∧(Value.slice ao (kidsOf t).length cap).ownBlock≠some k) xs:=by
 obtain⟨op,n,s,ks,rfl⟩:=node_node h
 rw[node_nd] at h
 obtain⟨v,xs,he,ho,hg,hx⟩:=h
 simp at he
 obtain⟨rfl,rfl,rfl,rfl⟩:=he
 obtain⟨ao,cap,rfl⟩:=owns_slice ho
 exact⟨op,n,s,ao,cap,xs,rfl,rfl,rfl,rfl,rfl,ho,hg,hx⟩

def Iv (lo hi:Nat):Nat→Prop:=fun k=>lo≤k∧k<hi

end Nd
end Go.Proofs.YtllbachngocmnaaGreatDoor
