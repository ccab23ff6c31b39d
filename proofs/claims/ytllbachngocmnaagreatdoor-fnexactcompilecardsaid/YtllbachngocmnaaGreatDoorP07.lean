/-
  Words of tidy trees: names, texts, patterns.
-/
import Derived.Test.YtllbachngocmnaaGreatDoorP06
import Derived.Lib.IndexAny
import Derived.Laws.IdiomStrings
import Derived.Test.YtllbachngocmnaaGreatDoorP02
namespace Go.Proofs.YtllbachngocmnaaGreatDoor
open Go.RowKit
namespace Ty

theorem sIn1 (x lo hi:Int)(w:World):Calls Tryz.prog 65 #[.int .i64 x,.int .i64 lo,.int .i64 hi] w fun e w'=>e=.returned (.bool (decide (lo≤x)&&decide (x≤hi)))∧w'=w:=by
 by_cases h:lo≤x <;> by_cases h2:x≤hi
 all_goals
  rw[show decide (lo≤x)=_ from by first|exact decide_eq_true h|exact decide_eq_false h,show decide (x≤hi)=_ from by first|exact decide_eq_true h2|exact decide_eq_false h2]
  go_enter Tryz.func65,Tryz.ntmps65
  go_wp2_with fail;go_ret
  exact⟨rfl,rfl⟩

def strV (s:List UInt8):Value:=.string ⟨s.toArray⟩
def StrRow (w:World)(g:Nat)(L:List (List UInt8)):Prop:=∀ j s,L[j]?=some s→w.cell? ⟨g,j,none⟩=some (.string ⟨s.toArray⟩)

set_option maxRecDepth 100000 in
theorem sWithin {L:List (List UInt8)}(hL:L.length≤100)(s:List UInt8)(g cap:Nat)(w:World)(hw:StrRow w g L):
  Calls Tryz.prog 37 #[.slice (some ⟨g,0,none⟩) L.length cap,.string ⟨s.toArray⟩] w fun e w'=>e=.returned (.bool (decide (s∈L)))∧w'=w:=by
 have bn:(L.length:Int)≤100:=by omega
 clear hL
 go_enter Tryz.func37,Tryz.ntmps37
 go_wp2_with fail
 go_loopw [5] (fun i wr=>∃ k:Nat,k≤L.length∧i=.int .i64 k∧wr=w∧s∉L.take k) (fun i _=>L.length - (intOf i).toNat)
 case atStart=>exact⟨0,by omega,rfl,rfl,by simp⟩
 case round =>
  obtain⟨k,hk,rfl,rfl,hno⟩:=hrel
  by_cases hkl:k<L.length
  ·have hki:L[k]?=some L[k]:=List.getElem?_eq_getElem hkl;have hc:=hw k _ hki;have bk:(k:Int)<L.length:=by omega
   have hT:L.take (k+1)=L.take k++[L[k]]:=by rw[List.take_add_one,hki];rfl
   by_cases hs:L[k]=s
   ·have H:Hid (decide (s∈L)=true):=by show _=_;simp;rw[← hs];exact List.getElem_mem hkl
    rw[hs] at hc
    clear hki hT;go_wp2_with fail;go_ret
    exact⟨by rw[H.out];rfl,rfl⟩
   ·have H:Hid (s∉L.take (k+1)):=by show ¬ s∈_;rw[hT,List.mem_append];rintro (h|h);exact hno h;exact hs (List.mem_singleton.1 h).symm
    have e1:(L[k]==s)=false:=beq_eq_false_iff_ne.2 hs;clear hki hT hs hno;go_wp2_with fail;go_roundw
    case rel=>exact⟨k+1,by omega,by go_num,by trivial,H.out⟩
    case measure=>simp[intOf];omega
  ·obtain rfl:k=L.length:=by omega
   rw[List.take_length] at hno
   have H:Hid (decide (s∈L)=false):=decide_eq_false hno;go_wp2_with fail;go_ret
   exact⟨by rw[H.out];rfl,rfl⟩

theorem strRow_new (w:World)(L:List (List UInt8))(o:Obj)(ho:o=.cells (L.map strV).toArray 9):StrRow (w.alloc o) w.heap.size L:=fun j s h=>by
 have:=heap_alloc_new w o
 subst ho;exact (cell_of_row _ _ j _ _ _ this).trans (by simp[h,strV])

theorem sCalls (w:World):Calls Tryz.prog 118 #[] w fun e w'=>e=.returned (.slice (some ⟨w.heap.size,0,none⟩) 6 6)∧StrRow w' w.heap.size callL∧Below w.heap.size w w':=by
 obtain⟨o,ho⟩:∃ o,o=Obj.cells (callL.map strV).toArray 9:=⟨_,rfl⟩
 have h1:Hid (StrRow (w.alloc o) w.heap.size callL):=strRow_new w callL o ho;have h2:Hid (Below w.heap.size w (w.alloc o)):=(Below.refl _ w).alloc (Nat.le_refl _) _;subst ho
 go_enter Tryz.func118,Tryz.ntmps118
 go_wp2_with fail;go_ret
 exact⟨rfl,h1.out,h2.out⟩

theorem key_eq (s:List UInt8):keyB s=(decide (s∈orderL++ownL) || callB s):=rfl
theorem sKeyword (s:List UInt8)(w:World):Calls Tryz.prog 77 #[.string ⟨s.toArray⟩] w fun e w'=>e=.returned (.bool (keyB s))∧Below w.heap.size w w':=by
 obtain⟨o,ho⟩:∃ o,o=Obj.cells ((orderL++ownL).map strV).toArray 9:=⟨_,rfl⟩
 have h1:=strRow_new w _ o ho;have h2:Below w.heap.size w (w.alloc o):=(Below.refl _ w).alloc (Nat.le_refl _) _;have c1:=sWithin (L:=orderL++ownL) (by decide) s w.heap.size 9 _ h1;have c2:=sCalls (w.alloc o);have c3:∀ w',StrRow w' (w.alloc o).heap.size callL→Calls Tryz.prog 37 #[.slice (some ⟨(w.alloc o).heap.size,0,none⟩) 6 6,.string ⟨s.toArray⟩] w' fun e w''=>e=.returned (.bool (callB s))∧w''=w':=fun w' h=>sWithin (L:=callL) (by decide) s _ 6 w' h;have HK:Hid (keyB s=(decide (s∈orderL++ownL) || callB s)):=key_eq s;generalize hW:w.alloc o=W1 at *;subst ho;have HW:=(show Hid _ from hW);clear hW h1;have hlen:(orderL++ownL).length=9:=rfl
 rw[hlen] at c1
 generalize decide (s∈orderL++ownL)=B1 at *;generalize callB s=B2 at *;generalize keyB s=B3 at *;have HW1:Hid (∀ (p:World→Prop),p W1→p (w.alloc (.cells ((orderL++ownL).map strV).toArray 9))):=fun p hp=>by rw[HW.out];exact hp
 cases B1
 ·go_enter Tryz.func77,Tryz.ntmps77
  go_wp2_with (first
   | (go_at_call 37;refine HW1.out (fun W=>Calls _ _ _ W _) ?_;refine c1.mono ?_;rintro e w1 ⟨rfl,hw⟩;have hw:=hw.symm;subst hw)
   | (go_at_call 118;refine c2.mono ?_;rintro e w2 ⟨rfl,hr,hb2⟩)
   | (go_at_call 37;refine (c3 _ hr).mono ?_;rintro e w3 ⟨rfl,hw⟩;have hw:=hw.symm;subst hw))
  go_ret
  exact⟨by rw[HK.out];rfl,h2.trans (hb2.mono h2.size)⟩
 ·go_enter Tryz.func77,Tryz.ntmps77
  go_wp2_with (first
   | (go_at_call 37;refine HW1.out (fun W=>Calls _ _ _ W _) ?_;refine c1.mono ?_;rintro e w1 ⟨rfl,hw⟩;have hw:=hw.symm;subst hw))
  go_ret
  exact⟨by rw[HK.out];rfl,h2⟩

end Ty
namespace Ty

theorem ltr_cons (c:UInt8)(r:List UInt8):lettersB (c::r)=(letB c.toNat&&lettersB r):=by simp[lettersB]
set_option maxRecDepth 100000 in
theorem sLine (s:ByteArray)(hs:(s.size:Int)≤1048576)(w:World):
  Calls Tryz.prog 116 #[.string s] w fun e w'=>e=.returned (.bool (lineB s.data.toList))∧w'=w:=by
 go_enter Tryz.func116,Tryz.ntmps116
 go_wp2_with fail
 go_loopw [3] (fun i wr=>∃ k:Nat,k≤s.size∧i=.int .i64 k∧wr=w∧lineB s.data.toList=lineB (s.data.toList.drop k)) (fun i _=>s.size - (intOf i).toNat)
 case atStart=>exact⟨0,by omega,rfl,rfl,rfl⟩
 case round =>
  obtain⟨k,hk,rfl,rfl,hno⟩:=hrel
  by_cases hkl:k<s.size
  ·rw[drop_at hkl,line_cons] at hno
   by_cases hb:s[k].toNat=10
   ·have H:Hid (lineB s.data.toList=false):=by show _=_;rw[hno,hb];simp
    have e1:(s[k].toNat:Int)=10:=by omega
    have e2:((s[k].toNat:Int)==10)=true:=by rw[e1];rfl
    clear hno;go_wp2_with fail;go_ret
    exact⟨by rw[H.out];rfl,rfl⟩
   ·have H:Hid (lineB s.data.toList=lineB (s.data.toList.drop (k+1))):=by show _=_;rw[hno];simp[hb]
    have e1:¬ (s[k].toNat:Int)=10:=by omega
    have e2:((s[k].toNat:Int)==10)=false:=beq_eq_false_iff_ne.2 e1;clear hno;go_wp2_with fail;go_roundw
    case rel=>exact⟨k+1,by omega,by go_num,by trivial,H.out⟩
    case measure=>simp[intOf];omega
  ·obtain rfl:k=s.size:=by omega
   have H:Hid (lineB s.data.toList=true):=by show _=_;rw[hno,drop_end (Nat.le_refl _)];rfl
   clear hno;go_wp2_with fail;go_ret
   exact⟨by rw[H.out];rfl,rfl⟩

set_option maxRecDepth 100000 in
theorem sRex (s:ByteArray)(hs:(s.size:Int)≤1048576)(w:World):
  Calls Tryz.prog 117 #[.string s] w fun e w'=>e=.returned (.bool (rexB s.data.toList))∧w'=w:=by
 have HR:Hid (rexB s.data.toList=(escB s.data.toList&&lineB s.data.toList)):=rfl;have call:=sLine s hs w;generalize rexB s.data.toList=R at *
 go_enter Tryz.func117,Tryz.ntmps117
 go_wp2_with fail
 go_loopw [3] (fun i wr=>∃ k:Nat,k≤s.size∧i=.int .i64 k∧wr=w∧escB s.data.toList=escB (s.data.toList.drop k)) (fun i _=>s.size - (intOf i).toNat)
 case atStart=>exact⟨0,by omega,rfl,rfl,rfl⟩
 case round =>
  obtain⟨k,hk,rfl,rfl,hno⟩:=hrel
  by_cases hkl:k<s.size
  ·rw[drop_at hkl] at hno
   by_cases hb:s[k].toNat=92
   ·have e1:(s[k].toNat:Int)=92:=by omega
    have e2:((s[k].toNat:Int)==92)=true:=by rw[e1];rfl
    by_cases hk1:k+1<s.size
    ·rw[drop_at hk1,esc_two hb] at hno
     obtain⟨k1,hk1e⟩:∃ k1,k1=k+1:=⟨_,rfl⟩
     have t1:(k:Int)+1=(k1:Int):=by omega
     have hk2:k1<s.size:=by omega
     have n1:¬ (k1:Int)=s.size:=by omega
     have n2:((k1:Int)==(s.size:Int))=false:=beq_eq_false_iff_ne.2 n1;have n3:(k1==s.size)=false:=beq_eq_false_iff_ne.2 (by omega);have n4:¬ k1=s.size:=by omega
     have hno2:escB s.data.toList=(decide (s[k1].toNat≠47)&&escB (s.data.toList.drop (k1+1))):=by subst hk1e;exact hno
     have K1:Hid (k1=k+1):=hk1e;clear hno hk1e
     by_cases h47:s[k1].toNat=47
     ·have H:Hid (R=false):=by show _=_;rw[HR.out,hno2,h47];simp
      have f1:(s[k1].toNat:Int)=47:=by omega
      have f2:((s[k1].toNat:Int)==47)=true:=by rw[f1];rfl
      clear hno2 HR;go_wp2_with fail;go_ret
      exact⟨by rw[H.out];rfl,rfl⟩
     ·have H:Hid (escB s.data.toList=escB (s.data.toList.drop (k1+1))):=by show _=_;rw[hno2];simp[h47]
      have f1:¬ (s[k1].toNat:Int)=47:=by omega
      have f2:((s[k1].toNat:Int)==47)=false:=beq_eq_false_iff_ne.2 f1;clear hno2 HR;go_wp2_with fail;go_roundw
      case rel=>exact⟨k1+1,by omega,by go_num,by trivial,H.out⟩
      case measure=>have:=K1.out;simp[intOf];omega
    ·rw[drop_end (by omega),esc_end hb] at hno
     have H:Hid (R=false):=by show _=_;rw[HR.out,hno];simp
     have n1:(k:Int)+1=s.size:=by omega
     clear hno HR;go_wp2_with fail;go_ret
     exact⟨by rw[H.out];rfl,rfl⟩
   ·rw[esc_one hb] at hno
    have H:Hid (escB s.data.toList=escB (s.data.toList.drop (k+1))):=hno;have e1:¬ (s[k].toNat:Int)=92:=by omega
    have e2:((s[k].toNat:Int)==92)=false:=beq_eq_false_iff_ne.2 e1;clear hno;go_wp2_with fail;go_roundw
    case rel=>exact⟨k+1,by omega,by go_num,by trivial,H.out⟩
    case measure=>simp[intOf];omega
  ·obtain rfl:k=s.size:=by omega
   have H:Hid (R=lineB s.data.toList):=by show _=_;rw[HR.out,hno,drop_end (Nat.le_refl _)];simp[escB]
   clear hno HR
   go_wp2_with (go_at_call 116;refine call.mono ?_;rintro e w2 ⟨rfl,hw⟩;have hw:=hw.symm;subst hw)
   go_ret
   exact⟨by rw[H.out];rfl,rfl⟩

set_option maxRecDepth 100000 in
theorem sName (s:List UInt8)(hs:s.length≤1048576)(w:World):
  Calls Tryz.prog 46 #[.string ⟨s.toArray⟩] w fun e w'=>e=.returned (.bool (nameB s))∧Below w.heap.size w w':=by
 have HN:Hid (nameB s=(lettersB s&&(decide (0<s.length)&&decide (s.length≤8)&&freeB s))):=rfl;have HF:Hid (freeB s=!keyB s):=key_free s;have ck:=sKeyword s
 obtain⟨b,hb⟩:∃ b:ByteArray,b=⟨s.toArray⟩:=⟨_,rfl⟩
 have hl:s=b.data.toList:=by subst hb;rfl
 have hsz:b.size=s.length:=by subst hb;rfl
 rw[← hb] at ck ⊢
 have hsI:(b.size:Int)≤1048576:=by omega
 have HZ:Hid (b.size=s.length):=hsz;have HL:Hid (s=b.data.toList):=hl;have cin:=sIn1 (b.size:Int) 1 8;generalize hNB:nameB s=N at *;generalize hKB:keyB s=K at *;clear hb hl hsz hs hNB hKB
 go_enter Tryz.func46,Tryz.ntmps46
 go_wp2_with fail
 go_loopw [3] (fun i wr=>∃ k:Nat,k≤b.size∧i=.int .i64 k∧wr=w∧lettersB b.data.toList=lettersB (b.data.toList.drop k)) (fun i _=>b.size - (intOf i).toNat)
 case atStart=>exact⟨0,by omega,rfl,rfl,rfl⟩
 case round =>
  obtain⟨k,hk,rfl,rfl,hno⟩:=hrel
  by_cases hkl:k<b.size
  ·rw[drop_at hkl,ltr_cons] at hno
   have call:=sLetter b[k].toNat wr;rcases hl:letB b[k].toNat with _|_
   ·rw[hl] at hno call
    have H:Hid (N=false):=by show _=_;rw[HN.out,HL.out,hno];simp
    clear hno HN HL
    go_wp2_with (go_at_call 76;refine call.mono ?_;rintro e w2 ⟨rfl,hw⟩;have hw:=hw.symm;subst hw)
    go_ret
    exact⟨by rw[H.out];rfl,Below.refl _ _⟩
   ·rw[hl] at hno call
    have H:Hid (lettersB b.data.toList=lettersB (b.data.toList.drop (k+1))):=by show _=_;rw[hno];simp
    clear hno
    go_wp2_with (go_at_call 76;refine call.mono ?_;rintro e w2 ⟨rfl,hw⟩;have hw:=hw.symm;subst hw)
    go_roundw
    case rel=>exact⟨k+1,by omega,by go_num,by trivial,H.out⟩
    case measure=>simp[intOf];omega
  ·obtain rfl:k=b.size:=by omega
   rw[drop_end (Nat.le_refl _)] at hno
   have H:Hid (N=((decide (1≤(b.size:Int))&&decide ((b.size:Int)≤8))&&!K)):=by
    show _=_
    rw[HN.out,HF.out,HL.out,hno,← HL.out,← HZ.out,show decide (0<b.size)=decide (1≤(b.size:Int)) by rw[decide_eq_decide];omega,show decide (b.size≤8)=decide ((b.size:Int)≤8) by rw[decide_eq_decide];omega]
    simp[lettersB]
   clear hno HN HF HL;generalize (decide (1≤(b.size:Int))&&decide ((b.size:Int)≤8))=G at *;cases G
   all_goals
    go_wp2_with (first
     | (go_at_call 65;refine (cin _).mono ?_;rintro e w2 ⟨rfl,hw⟩;have hw:=hw.symm;subst hw)
     | (go_at_call 77;refine (ck _).mono ?_;rintro e w3 ⟨rfl,hb3⟩))
    go_ret
   ·exact⟨by rw[H.out];simp,Below.refl _ _⟩
   ·exact⟨by rw[H.out];simp,hb3⟩

end Ty
namespace Ty

theorem nl_index (l:List UInt8):decide (0≤Lib.indexByte l 10)=!lineB l:=by
  rw[← Lib.contains_iff_indexByte]
  induction l with
  | nil=>rfl
  | cons c r ih =>
    rw[List.contains_cons,ih,line_cons]
    have:((10:UInt8)==c)=!decide (c.toNat≠10):=by
      rw[Bool.eq_iff_iff]
      simp only[beq_iff_eq,Bool.not_eq_true',decide_eq_false_iff_not,ne_eq,Decidable.not_not]
      constructor
      · rintro rfl;rfl
      · intro h;exact UInt8.toNat.inj h.symm
    rw[this]
    cases decide (c.toNat≠10) <;> simp

def ByteRow (w:World)(g:Nat)(s:ByteArray):Prop:=∀ k (h:k<s.size),w.cell? ⟨g,k,none⟩=some (.int .u8 s[k].toNat)
theorem bytes_cell (w:World)(s:ByteArray)(cap n m:Nat)(T:TypeId):ByteRow (w.alloc (.cells (bytesRow s cap) T (n,m))).drew w.heap.size s:=fun k h=>by
  have h0:(w.alloc (.cells (bytesRow s cap) T (n,m))).drew.heap[w.heap.size]?=some (.cells (bytesRow s cap) T (n,m)):=heap_alloc_new w _;refine (cell_of_row _ _ k _ _ _ h0).trans ?_;unfold bytesRow
  rw[Array.getElem?_append_left (by simpa using h),Array.getElem?_map,Array.getElem?_eq_getElem (by simpa using h)]
  rfl

theorem iTextOf (s:ByteArray)(w:World):
    Calls Tryz.prog 205 #[.string s] w fun e w'=>e=.returned (.bool (lineB s.data.toList))∧w'=w:=by
  have call:=Tryz.strings_Contains_one s 10 w
  rw[nl_index] at call
  go_enter Tryz.func205,Tryz.ntmps205
  go_wp2_with (go_at_call 223;refine call.mono ?_;rintro e w2 ⟨rfl,hw⟩;have hw:=hw.symm;subst hw)
  go_ret
  exact⟨by simp,rfl⟩

set_option maxRecDepth 100000 in
theorem iRexOf (s:ByteArray)(hs:(s.size:Int)≤1048576)(w:World):
    Calls Tryz.prog 206 #[.string s] w fun e w'=>e=.returned (.bool (rexB s.data.toList))∧w'=w:=by
  have HR:Hid (rexB s.data.toList=(escB s.data.toList&&lineB s.data.toList)):=rfl;generalize rexB s.data.toList=R at *
  go_enter Tryz.func206,Tryz.ntmps206
  go_wp2_with fail
  go_loopw [3] (fun i wr=>∃ k:Nat,k≤s.size∧i=.int .i64 k∧wr=w∧R=(escB (s.data.toList.drop k)&&lineB (s.data.toList.drop k))) (fun i _=>s.size - (intOf i).toNat)
  case atStart=>exact⟨0,by omega,rfl,rfl,HR.out⟩
  case round =>
    clear HR
    obtain⟨k,hk,rfl,rfl,hno⟩:=hrel
    by_cases hkl:k<s.size
    · rw[drop_at hkl,line_cons] at hno
      by_cases hb:s[k].toNat=92
      · have e1:(s[k].toNat:Int)=92:=by omega
        have e2:((s[k].toNat:Int)==92)=true:=by rw[e1];rfl
        by_cases hk1:k+1<s.size
        · rw[drop_at hk1,esc_two hb,line_cons] at hno
          obtain⟨k1,hk1e⟩:∃ k1,k1=k+1:=⟨_,rfl⟩
          have t1:(k:Int)+1=(k1:Int):=by omega
          have hk2:k1<s.size:=by omega
          have n1:¬ (k1:Int)=s.size:=by omega
          have n2:((k1:Int)==(s.size:Int))=false:=beq_eq_false_iff_ne.2 n1;have n3:(k1==s.size)=false:=beq_eq_false_iff_ne.2 (by omega);have n4:¬ k1=s.size:=by omega
          have hno2:R=((decide (s[k1].toNat≠47)&&escB (s.data.toList.drop (k1+1)))&&(decide (s[k].toNat≠10)&&(decide (s[k1].toNat≠10)&&lineB (s.data.toList.drop (k1+1))))):=by subst hk1e;exact hno
          have K1:Hid (k1=k+1):=hk1e;clear hno hk1e
          by_cases h47:s[k1].toNat=47
          · have H:Hid (R=false):=by show _=_;rw[hno2,h47];simp
            have f1:(s[k1].toNat:Int)=47:=by omega
            have f2:((s[k1].toNat:Int)==47)=true:=by rw[f1];rfl
            clear hno2;go_wp2_with fail;go_ret
            exact⟨by rw[H.out];rfl,rfl⟩
          · have f1:¬ (s[k1].toNat:Int)=47:=by omega
            have f2:((s[k1].toNat:Int)==47)=false:=beq_eq_false_iff_ne.2 f1
            by_cases h10:s[k1].toNat=10
            · have H:Hid (R=false):=by show _=_;rw[hno2,h10];simp
              have g1:(s[k1].toNat:Int)=10:=by omega
              have g2:((s[k1].toNat:Int)==10)=true:=by rw[g1];rfl
              clear hno2;go_wp2_with fail;go_ret
              exact⟨by rw[H.out];rfl,rfl⟩
            · have H:Hid (R=(escB (s.data.toList.drop (k1+1))&&lineB (s.data.toList.drop (k1+1)))):=by show _=_;rw[hno2,hb];simp[h47,h10]
              have g1:¬ (s[k1].toNat:Int)=10:=by omega
              have g2:((s[k1].toNat:Int)==10)=false:=beq_eq_false_iff_ne.2 g1;clear hno2;go_wp2_with fail;go_roundw
              case rel=>exact⟨k1+1,by omega,by go_num,by trivial,H.out⟩
              case measure=>have:=K1.out;simp[intOf];omega
        · rw[drop_end (by omega),esc_end hb] at hno
          have H:Hid (R=false):=by show _=_;rw[hno];simp
          have n1:(k:Int)+1=s.size:=by omega
          clear hno;go_wp2_with fail;go_ret
          exact⟨by rw[H.out];rfl,rfl⟩
      · rw[esc_one hb] at hno
        have e1:¬ (s[k].toNat:Int)=92:=by omega
        have e2:((s[k].toNat:Int)==92)=false:=beq_eq_false_iff_ne.2 e1
        by_cases h10:s[k].toNat=10
        · have H:Hid (R=false):=by show _=_;rw[hno,h10];simp
          have g1:(s[k].toNat:Int)=10:=by omega
          have g2:((s[k].toNat:Int)==10)=true:=by rw[g1];rfl
          clear hno;go_wp2_with fail;go_ret
          exact⟨by rw[H.out];rfl,rfl⟩
        · have H:Hid (R=(escB (s.data.toList.drop (k+1))&&lineB (s.data.toList.drop (k+1)))):=by show _=_;rw[hno];simp[h10]
          have g1:¬ (s[k].toNat:Int)=10:=by omega
          have g2:((s[k].toNat:Int)==10)=false:=beq_eq_false_iff_ne.2 g1;clear hno;go_wp2_with fail;go_roundw
          case rel=>exact⟨k+1,by omega,by go_num,by trivial,H.out⟩
          case measure=>simp[intOf];omega
    · obtain rfl:k=s.size:=by omega
      have H:Hid (R=true):=by show _=_;rw[hno,drop_end (Nat.le_refl _)];simp[escB,lineB]
      clear hno;go_wp2_with fail;go_ret
      exact⟨by rw[H.out];rfl,rfl⟩

set_option maxRecDepth 100000 in
theorem iTidyName (s:List UInt8)(hs:s.length≤1048576)(w:World):
    Calls Tryz.prog 148 #[.string ⟨s.toArray⟩] w fun e w'=>e=.returned (.bool (nameB s))∧Below w.heap.size w w':=by
  have HN:Hid (nameB s=(lettersB s&&(decide (0<s.length)&&decide (s.length≤8)&&freeB s))):=rfl;have ck:=iIsFree s
  obtain⟨b,hb⟩:∃ b:ByteArray,b=⟨s.toArray⟩:=⟨_,rfl⟩
  have hl:s=b.data.toList:=by subst hb;rfl
  have hsz:b.size=s.length:=by subst hb;rfl
  rw[← hb] at ck ⊢
  have hsI:(b.size:Int)≤1048576:=by omega
  have HZ:Hid (b.size=s.length):=hsz;have HL:Hid (s=b.data.toList):=hl;generalize hNB:nameB s=N at *;generalize hKB:freeB s=K at *;clear hb hl hsz hs hNB hKB;have hcv:=fun w=>run_bytes_of_string (P:=Tryz.prog) w 9 96 5 b Tryz.underlying9 Tryz.underlying96 Tryz.underlying5;have hrow:=fun cap n m=>bytes_cell w b cap n m 5;have hbel:∀ o,Below w.heap.size w (w.alloc o).drew:=fun o=>Below.drew ((Below.refl _ w).alloc (Nat.le_refl _) _)
  go_enter Tryz.func148,Tryz.ntmps148
  go_wp2_with fail;have hrow:=hrow (grownCap w b.size 0 5) (bytesRow b (grownCap w b.size 0 5)).size ((bytesRow b (grownCap w b.size 0 5)).size+1);have hbel:=hbel (.cells (bytesRow b (grownCap w b.size 0 5)) 5 ((bytesRow b (grownCap w b.size 0 5)).size,(bytesRow b (grownCap w b.size 0 5)).size+1));generalize (w.alloc (.cells (bytesRow b (grownCap w b.size 0 5)) 5 ((bytesRow b (grownCap w b.size 0 5)).size,(bytesRow b (grownCap w b.size 0 5)).size+1))).drew=w1 at *;generalize grownCap w b.size 0 5=cap at *
  go_loopw [8] (fun i wr=>∃ k:Nat,k≤b.size∧i=.int .i64 k∧wr=w1∧lettersB b.data.toList=lettersB (b.data.toList.drop k)) (fun i _=>b.size - (intOf i).toNat)
  case atStart=>exact⟨0,by omega,rfl,rfl,rfl⟩
  case round =>
    obtain⟨k,hk,rfl,rfl,hno⟩:=hrel
    by_cases hkl:k<b.size
    · rw[drop_at hkl,ltr_cons] at hno
      have hc:=hrow k hkl;have bk:(k:Int)<b.size:=by omega
      have call:=iIsLetter b[k].toNat wr;rcases hl:letB b[k].toNat with _|_
      · rw[hl] at hno call
        have H:Hid (N=false):=by show _=_;rw[HN.out,HL.out,hno];simp
        clear hno HN HL
        go_wp2_with (go_at_call 172;refine call.mono ?_;rintro e w2 ⟨rfl,hw⟩;have hw:=hw.symm;subst hw)
        go_ret
        exact⟨by rw[H.out];rfl,hbel⟩
      · rw[hl] at hno call
        have H:Hid (lettersB b.data.toList=lettersB (b.data.toList.drop (k+1))):=by show _=_;rw[hno];simp
        clear hno
        go_wp2_with (go_at_call 172;refine call.mono ?_;rintro e w2 ⟨rfl,hw⟩;have hw:=hw.symm;subst hw)
        go_roundw
        case rel=>exact⟨k+1,by omega,by go_num,by trivial,H.out⟩
        case measure=>simp[intOf];omega
    · obtain rfl:k=b.size:=by omega
      rw[drop_end (Nat.le_refl _)] at hno
      have H:Hid (N=(decide (0<b.size)&&decide (b.size≤8)&&K)):=by
        show _=_
        rw[HN.out,HL.out,hno,← HL.out,← HZ.out]
        simp[lettersB]
      clear hno HN HL
      by_cases h1:0<b.size <;> by_cases h2:b.size≤8
      all_goals
        have i1:(decide ((0:Int)<b.size))=decide (0<b.size):=by rw[decide_eq_decide];omega
        have i2:(decide ((b.size:Int)≤8))=decide (b.size≤8):=by rw[decide_eq_decide];omega
        simp only[h1,h2,decide_true,decide_false] at i1 i2 H;simp only[decide_eq_true_eq,decide_eq_false_iff_not] at i1 i2
        first
          | omega
          | (go_wp2_with (go_at_call 173;refine (ck _).mono ?_;rintro e w3 ⟨rfl,hw⟩;have hw:=hw.symm;subst hw)
             go_ret
             exact⟨by rw[H.out];simp,hbel⟩)

end Ty
namespace Pg
open St (Vl RdV)
open Oc (hold heap_new Blk)

set_option maxRecDepth 100000 in
theorem iIndex {ss:List ByteArray}{ao:Option Addr}{cap:Nat}{w:World}(hA:RdT w ao ss)(hn:ss.length≤1048576)(s:ByteArray):
  Calls Tryz.prog 149 #[.slice ao ss.length cap,.string s] w fun e w'=>e=.returned (.int .i64 (idx ss s))∧w'=w:=by
 have bn:(ss.length:Int)≤1048576:=by omega
 go_enter Tryz.func149,Tryz.ntmps149
 go_wp2_with fail
 go_loopw [5,8] (fun _ i wr=>∃ k:Nat,k≤ss.length∧i=.int .i64 k∧Hid ((ss.take k).any (eqB · s)=false)∧wr=w) (fun _ i _=>ss.length - (intOf i).toNat)
 case atStart=>exact⟨0,Nat.zero_le _,rfl,(show (ss.take 0).any (eqB · s)=false from rfl),rfl⟩
 case round =>
  obtain⟨k,hkn,rfl,HN,rfl⟩:=hrel
  by_cases hkl:k<ss.length
  ·have hki:ss[k]?=some ss[k]:=List.getElem?_eq_getElem hkl
   obtain⟨b,o,rfl,hbl,hss,c0⟩:=hA k _ hki
   have bk:(k:Int)<ss.length:=by omega
   by_cases he:ss[k].toList=s.toList
   ·have HR:Hid (idx ss s=k):=(idx_at hki (decide_eq_true he) HN.out).1;generalize ss[k]=v at *;have e1:(s.toList==v.toList)=true:=by simpa using he.symm
    clear hA hki he;go_wp2_with fail;go_ret
    exact⟨by rw[HR.out];rfl,rfl⟩
   ·have HN':Hid ((ss.take (k+1)).any (eqB · s)=false):=by
     show (ss.take (k+1)).any (eqB · s)=false
     rw[any_takeT hki,HN.out,eqB,decide_eq_false he]
     rfl
    generalize ss[k]=v at *;have e1:(s.toList==v.toList)=false:=beq_eq_false_iff_ne.2 (fun h=>he h.symm);clear hA hki he;go_wp2_with fail;go_roundw
    case rel=>exact⟨k+1,hkl,by go_num,HN',trivial⟩
    case measure=>simp[intOf];omega
  ·obtain rfl:k=ss.length:=by omega
   have HR:Hid (idx ss s = -1):=(idx_none (by have:=HN.out;rwa [List.take_length] at this)).1;go_wp2_with fail;go_ret
   exact⟨by rw[HR.out];rfl,rfl⟩

set_option maxRecDepth 100000 in
theorem iAreAllT {f:Nat}{fc:Array Value}{p:ByteArray→Bool}{ss:List ByteArray}{w:World}(hf:∀ s∈ss,∀ w',Below w.heap.size w w'→Calls Tryz.prog f (#[.string s]++fc) w' fun e w''=>e=.returned (.bool (p s))∧Below w'.heap.size w' w'')(hent:∀ (vs:Array Value) (w:World),(callFunc f vs).run Tryz.prog w=.ok (.enter f vs) w)(hn:ss.length≤1048577)(ao:Option Addr)(cap:Nat)(hA:RdT w ao ss):
  Calls Tryz.prog 105 #[.slice ao ss.length cap,.func (.func f) #[] fc] w fun e w'=>e=.returned (.bool (ss.all p))∧Below w.heap.size w w':=by
 have bn:(ss.length:Int)≤1048577:=by omega
 have HE:Hid (∀ (vs:Array Value) (w:World),(callFunc f vs).run Tryz.prog w=.ok (.enter f vs) w):=hent;clear hn hent
 go_enter Tryz.func105,Tryz.ntmps105
 go_wp2_with fail
 go_loopw [6,9] (fun _ i wr=>∃ k:Nat,k≤ss.length∧i=.int .i64 k∧(ss.take k).all p=true∧Below w.heap.size w wr) (fun _ i _=>ss.length - (intOf i).toNat)
 case atStart=>exact⟨0,Nat.zero_le _,rfl,rfl,Below.refl _ _⟩
 case round =>
  obtain⟨k,hkn,rfl,hall,hb⟩:=hrel
  by_cases hkl:k<ss.length
  ·have hki:ss[k]?=some ss[k]:=List.getElem?_eq_getElem hkl
   obtain⟨b,o,rfl,hbl,hss,c0⟩:=hA.below hb k _ hki
   have bk:(k:Int)<ss.length:=by omega
   have hT:=all_takeT (p:=p) hki
   rw[hall,Bool.true_and] at hT
   have call:=hf ss[k] (List.getElem_mem hkl) wr hb;have HN:Hid (p ss[k]=false→ss.all p=false):=all_noT (List.getElem_mem hkl);have HT:Hid ((ss.take (k+1)).all p=p ss[k]):=hT;clear hf hA hki hall hT;generalize p ss[k]=B at *;generalize ss[k]=v at *;cases B
   ·replace HN:Hid (ss.all p=false):=HN.out rfl;go_wp2_with fail
    rw[HE.out]
    refine Calls.mono call ?_;rintro e w2 ⟨rfl,hb2⟩;go_wp2_with fail;go_ret
    exact⟨by rw[HN.out];rfl,hb.trans (hb2.mono hb.size)⟩
   ·go_wp2_with fail
    rw[HE.out]
    refine Calls.mono call ?_;rintro e w2 ⟨rfl,hb2⟩;go_wp2_with fail;go_roundw
    case rel=>exact⟨k+1,hkl,by go_num,HT.out,hb.trans (hb2.mono hb.size)⟩
    case measure=>simp[intOf];omega
  ·obtain rfl:k=ss.length:=by omega
   rw[List.take_length] at hall
   have H:Hid (ss.all p=true):=hall;clear hall;go_wp2_with fail;go_ret
   exact⟨by rw[H.out];rfl,hb⟩

theorem enterName (vs:Array Value)(w:World):(callFunc 148 vs).run Tryz.prog w=.ok (.enter 148 vs) w:=by kernel_rfl
theorem iTidyNameT (s:ByteArray)(hs:SmT s)(w:World):Calls Tryz.prog 148 #[.string s] w fun e w'=>e=.returned (.bool (nmB s))∧Below w.heap.size w w':=by
 have:=Ty.iTidyName s.data.toList (by unfold SmT at hs;simpa using hs) w
 simpa [nmB] using this
theorem geq_str (t:TypeId)(a b:ByteArray):binOp .geq t (.string a) (.string b)=pure (.bool !(ltB a b)):=by simp[binOp,Op.stringOp,ltB]

set_option maxRecDepth 100000 in
theorem iIsNameList {ss:List ByteArray}{ao:Option Addr}{cap:Nat}{w:World}(hA:RdT w ao ss)(hs:∀ s∈ss,SmT s)(hn:ss.length≤1048576):
  Calls Tryz.prog 104 #[.slice ao ss.length cap] w fun e w'=>e=.returned (.bool (namesB ss))∧Below w.heap.size w w':=by
 obtain⟨R,hR⟩:∃ R,R=namesB ss:=⟨_,rfl⟩
 have HR:Hid (R=(decide (ss.length≤8)&&(ss.all nmB&&upB ss ss.length))):=hR
 rw[← hR]
 clear hR;have bn:(ss.length:Int)≤1048576:=by omega
 have hg:=geq_str
 by_cases h8:ss.length≤8
 ·have CA:Hid (Calls Tryz.prog 105 #[.slice ao ss.length cap,.func (.func 148) #[] #[]] w fun e w'=>e=.returned (.bool (ss.all nmB))∧Below w.heap.size w w'):=iAreAllT (fc:=#[]) (fun s hm w' _=>iTidyNameT s (hs s hm) w') enterName (by omega) ao cap hA;have b8:(ss.length:Int)≤8:=by omega
  rw[decide_eq_true h8,Bool.true_and] at HR
  generalize hV:ss.all nmB=V at *;clear hV hs
  cases V with
  | false =>
   have H:Hid (R=false):=HR.out
   go_enter Tryz.func104,Tryz.ntmps104
   go_wp2_with (go_at_call 105;refine Calls.mono CA.out ?_;rintro e w2 ⟨rfl,hb2⟩)
   go_ret
   exact⟨by rw[H.out];rfl,hb2⟩
  | true =>
   have H:Hid (R=upB ss ss.length):=by show R=_;rw[HR.out];simp
   clear HR
   go_enter Tryz.func104,Tryz.ntmps104
   go_wp2_with (go_at_call 105;refine Calls.mono CA.out ?_;rintro e w2 ⟨rfl,hb2⟩)
   clear CA
   go_loopw [3] (fun i wr=>∃ k:Nat,k≤ss.length+1∧1≤k∧(k≤ss.length∨ss.length=0)∧i=.int .i64 k∧upB ss k=true∧Below w.heap.size w wr) (fun i _=>ss.length - (intOf i).toNat)
   case atStart=>exact⟨1,by omega,by omega,by omega,rfl,rfl,hb2⟩
   case round =>
    obtain⟨k,hkn,hk1,hk2,rfl,hU,hb⟩:=hrel
    by_cases hkl:k<ss.length
    ·have hki:ss[k]?=some ss[k]:=List.getElem?_eq_getElem hkl;have hkj:ss[k - 1]?=some ss[k - 1]:=List.getElem?_eq_getElem (by omega)
     obtain⟨b,o,rfl,hbl,hss,c0⟩:=hA.below hb k _ hki
     obtain⟨b',o',hbo,hbl',hss',c1⟩:=hA.below hb (k - 1) _ hkj
     simp at hbo
     obtain⟨rfl,rfl⟩:=hbo
     have bk:(k:Int)<ss.length:=by omega
     obtain⟨j,rfl⟩:∃ j,k=j+1:=⟨k - 1,by omega⟩
     have hat:upAt ss (j+1)=ltB ss[j] ss[j+1]:=by
      unfold upAt
      rw[nm_get hki,nm_get hkj]
      simp
     have hT:=upB_succ ss (j+1)
     rw[hU,hat,Bool.true_and] at hT
     have HN:Hid (ltB ss[j] ss[j+1]=false→upB ss ss.length=false):=fun h=>upB_no hkl (hat.trans h);have HT:Hid (upB ss (j+1+1)=ltB ss[j] ss[j+1]):=hT;simp only[Nat.add_sub_cancel] at c1;clear hA hki hkj hat hT hU hss hss' hbl hbl';have e1:((j+1:Nat):Int) - 1=(j:Int):=by omega
     generalize ss[j]=x at *;generalize ss[j+1]=y at *;generalize hB:ltB x y=B at *;cases B
     ·replace HN:Hid (upB ss ss.length=false):=HN.out rfl;go_wp2_with fail
      go_quiet (fail)
      go_wp2_with fail;go_ret
      exact⟨by rw[H.out,HN.out];rfl,⟨hb.os,hb.tape,hb.output,hb.size,hb.block⟩⟩
     ·go_wp2_with fail
      go_quiet (fail)
      go_wp2_with fail;go_roundw
      case rel=>exact⟨j+1+1,by omega,by omega,by omega,by go_num,HT.out,⟨hb.os,hb.tape,hb.output,hb.size,hb.block⟩⟩
      case measure=>simp[intOf];omega
    ·have HU:Hid (upB ss ss.length=true):=by
      show upB ss ss.length=true;rcases hk2 with h|h
      ·obtain rfl:k=ss.length:=by omega
       exact hU
      ·rw[h];rfl
     have hge:¬ (k:Int)<ss.length:=by omega
     clear hA;go_wp2_with fail;go_ret
     exact⟨by rw[H.out,HU.out];rfl,hb⟩
 ·have H:Hid (R=false):=by show R=false;rw[HR.out,decide_eq_false h8];rfl
  have b8:(8:Int)<ss.length:=by omega
  clear HR
  go_enter Tryz.func104,Tryz.ntmps104
  go_wp2_with fail;go_ret
  exact⟨by rw[H.out];rfl,Below.refl _ _⟩

end Pg
end Go.Proofs.YtllbachngocmnaaGreatDoor
