/-
  The contracts of the library that these proofs call, laid at this translation.
-/
import Derived.Shelf.Small.Bits
import Derived.Shelf.Strconv.Itoa0
import Derived.Shelf.Strings.Search1
import Derived.Shelf.Strings.Search2
import Derived.Shelf.Strings.Search3
import Derived.Shelf.LaysM
import Derived.Shelf.Strings.Shaped
import Derived.Test.YtllbachngocmnaaGreatDoorP01
import Derived.Test.YtllbachngocmnaaGreatDoorChecked
import Derived.Laws.AppendOwn
namespace Go.Proofs
open Go.Shelf
def Tryz.lays144_ren:Go.Shelf.Ren:=⟨fun|144=>223|143=>227|219=>231|217=>234|225=>235|224=>236|267=>237|266=>239|314=>240|n=>n,fun|9=>9|4=>4|3=>3|5=>5|46=>222|146=>284|51=>244|n=>n,fun|1=>5|n=>n⟩
theorem Tryz.lays144:Go.Proofs.Lays.n144 Tryz.prog Tryz.lays144_ren:={
 mixed:=by kernel_rfl
 f143:=Tryz.func227.trans (congrArg some (by kernel_rfl))
 f144:=Tryz.func223.trans (congrArg some (by kernel_rfl))
 f217:=Tryz.func234.trans (congrArg some (by kernel_rfl))
 f219:=Tryz.func231.trans (congrArg some (by kernel_rfl))
 f224:=Tryz.func236.trans (congrArg some (by kernel_rfl))
 f225:=Tryz.func235.trans (congrArg some (by kernel_rfl))
 f266:=Tryz.func239.trans (congrArg some (by kernel_rfl))
 f267:=Tryz.func237.trans (congrArg some (by kernel_rfl))
 f314:=Tryz.func240.trans (congrArg some (by kernel_rfl))
 t3:=Tryz.underlying3
 a3:=Tryz.isAgg3
 z3:=Tryz.sizeOf3
 v3:=Tryz.zeroValue3
 t4:=Tryz.underlying4
 a4:=Tryz.isAgg4
 z4:=Tryz.sizeOf4
 v4:=Tryz.zeroValue4
 t5:=Tryz.underlying5
 a5:=Tryz.isAgg5
 z5:=Tryz.sizeOf5
 v5:=Tryz.zeroValue5
 t9:=Tryz.underlying9
 a9:=Tryz.isAgg9
 z9:=Tryz.sizeOf9
 v9:=Tryz.zeroValue9
 t46:=Tryz.underlying222
 a46:=Tryz.isAgg222
 z46:=Tryz.sizeOf222
 v46:=Tryz.zeroValue222
 t51:=Tryz.underlying244
 a51:=Tryz.isAgg244
 z51:=Tryz.sizeOf244
 v51:=Tryz.zeroValue244
 t146:=Tryz.underlying284
 a146:=Tryz.isAgg284
 z146:=Tryz.sizeOf284
 v146:=Tryz.zeroValue284
 g1:=by kernel_rfl }
open Go.RowKit Go.Lib in
theorem Tryz.strings_Contains_one (s:ByteArray)(c:UInt8)(w:World):
  Calls Tryz.prog 223 #[.string s,.string ⟨#[c]⟩] w fun e w'=>e=.returned (.bool (decide (0≤Lib.indexByte s.data.toList c)))∧w'=w:=Any.strings_Contains_one Tryz.lays144 s c w
end Go.Proofs
namespace Go.Proofs.YtllbachngocmnaaGreatDoor
open Go.RowKit
namespace Ty

theorem drop_at {s:ByteArray}{k:Nat}(h:k<s.size):s.data.toList.drop k=s[k]::s.data.toList.drop (k+1):=by
  rw[List.drop_eq_getElem_cons (by simpa using h)]
  rfl
theorem drop_end {s:ByteArray}{k:Nat}(h:s.size≤k):s.data.toList.drop k=[]:=List.drop_eq_nil_of_le (by simpa using h)

theorem iHasCall (s:List UInt8)(w:World):Calls Tryz.prog 158 #[.string ⟨s.toArray⟩] w fun e w'=>e=.returned (.bool (callB s))∧w'=w:=by
  by_cases h:s∈callL
  · have H:callB s=true:=by simp[callB,h]
    rw[H]
    unfold callL at h;simp only[List.mem_cons,List.not_mem_nil,or_false] at h;rcases h with rfl|rfl|rfl|rfl|rfl|rfl
    all_goals
      go_enter Tryz.func158,Tryz.ntmps158
      go_wp2_with fail;go_ret
      exact⟨rfl,rfl⟩
  · have H:callB s=false:=by simp[callB,h]
    rw[H]
    unfold callL at h;simp only[List.mem_cons,List.not_mem_nil,or_false,not_or] at h
    obtain⟨h1,h2,h3,h4,h5,h6⟩:=h
    replace h1:=beq_eq_false_iff_ne.2 h1;replace h2:=beq_eq_false_iff_ne.2 h2;replace h3:=beq_eq_false_iff_ne.2 h3;replace h4:=beq_eq_false_iff_ne.2 h4;replace h5:=beq_eq_false_iff_ne.2 h5;replace h6:=beq_eq_false_iff_ne.2 h6
    go_enter Tryz.func158,Tryz.ntmps158
    go_wp2_with fail;go_ret
    exact⟨rfl,rfl⟩

theorem iHasOrder (s:List UInt8)(w:World):Calls Tryz.prog 194 #[.string ⟨s.toArray⟩] w fun e w'=>e=.returned (.bool (orderB s))∧w'=w:=by
  by_cases h:s∈orderL
  · have H:orderB s=true:=by simp[orderB,h]
    rw[H]
    unfold orderL at h;simp only[List.mem_cons,List.not_mem_nil,or_false] at h;rcases h with rfl|rfl|rfl|rfl|rfl|rfl|rfl
    all_goals
      go_enter Tryz.func194,Tryz.ntmps194
      go_wp2_with fail;go_ret
      exact⟨rfl,rfl⟩
  · have H:orderB s=false:=by simp[orderB,h]
    rw[H]
    unfold orderL at h;simp only[List.mem_cons,List.not_mem_nil,or_false,not_or] at h
    obtain⟨h1,h2,h3,h4,h5,h6,h7⟩:=h
    replace h1:=beq_eq_false_iff_ne.2 h1;replace h2:=beq_eq_false_iff_ne.2 h2;replace h3:=beq_eq_false_iff_ne.2 h3;replace h4:=beq_eq_false_iff_ne.2 h4;replace h5:=beq_eq_false_iff_ne.2 h5;replace h6:=beq_eq_false_iff_ne.2 h6;replace h7:=beq_eq_false_iff_ne.2 h7
    go_enter Tryz.func194,Tryz.ntmps194
    go_wp2_with fail;go_ret
    exact⟨rfl,rfl⟩

theorem iIsFree (s:List UInt8)(w:World):Calls Tryz.prog 173 #[.string ⟨s.toArray⟩] w fun e w'=>e=.returned (.bool (freeB s))∧w'=w:=by
  have H:Hid (freeB s=(!orderB s&&!callB s&&!decide (s=[78,82])&&!decide (s=[78,70]))):=rfl;have c1:=iHasOrder s w;have c2:=iHasCall s w;generalize freeB s=F at *;rcases h1:orderB s with _|_ <;> rcases h2:callB s with _|_ <;> rcases h3:decide (s=[78,82]) with _|_ <;> rcases h4:decide (s=[78,70]) with _|_
  all_goals
    rw[h1] at c1
    rw[h2] at c2
    have e3:(s==[78,82])=decide (s=[78,82]):=by rw[Bool.eq_iff_iff];simp
    have e4:(s==[78,70])=decide (s=[78,70]):=by rw[Bool.eq_iff_iff];simp
    rw[h3] at e3
    rw[h4] at e4
    have HF:=H.out
    rw[h1,h2,h3,h4] at HF
    simp only[Bool.not_true,Bool.not_false,Bool.and_true,Bool.and_false,Bool.and_self] at HF;subst HF;clear H h1 h2 h3 h4
    go_enter Tryz.func173,Tryz.ntmps173
    go_wp2_with (first
      | (go_at_call 194;refine c1.mono ?_;rintro e w1 ⟨rfl,hw⟩;have hw:=hw.symm;subst hw)
      | (go_at_call 158;refine c2.mono ?_;rintro e w1 ⟨rfl,hw⟩;have hw:=hw.symm;subst hw))
    go_ret
    exact⟨rfl,rfl⟩

theorem iIsLetter (b:Nat)(w:World):Calls Tryz.prog 172 #[.int .u8 b] w fun e w'=>e=.returned (.bool (letB b))∧w'=w:=by
  have H:Hid (letB b=((decide (97≤b)&&decide (b≤122)) || (decide (65≤b)&&decide (b≤90)))):=rfl;generalize letB b=F at *
  by_cases h1:(97:Int)≤b <;> by_cases h2:(b:Int)≤122 <;> by_cases h3:(65:Int)≤b <;> by_cases h4:(b:Int)≤90
  all_goals
    have HF:=H.out
    rw[show decide (97≤b)=decide ((97:Int)≤b) by rw[decide_eq_decide];omega,show decide (b≤122)=decide ((b:Int)≤122) by rw[decide_eq_decide];omega,show decide (65≤b)=decide ((65:Int)≤b) by rw[decide_eq_decide];omega,show decide (b≤90)=decide ((b:Int)≤90) by rw[decide_eq_decide];omega] at HF
    simp only[h1,h2,h3,h4,decide_true,decide_false,Bool.and_true,Bool.and_false,Bool.or_true,Bool.or_false] at HF;subst HF;clear H
    first
      | omega
      | (go_enter Tryz.func172,Tryz.ntmps172
         go_wp2_with fail;go_ret
         exact⟨rfl,rfl⟩)

theorem sLetter (b:Nat)(w:World):Calls Tryz.prog 76 #[.int .u8 b] w fun e w'=>e=.returned (.bool (letB b))∧w'=w:=by
  have H:Hid (letB b=((decide (97≤b)&&decide (b≤122)) || (decide (65≤b)&&decide (b≤90)))):=rfl;generalize letB b=F at *
  by_cases h1:(97:Int)≤b <;> by_cases h2:(b:Int)≤122 <;> by_cases h3:(65:Int)≤b <;> by_cases h4:(b:Int)≤90
  all_goals
    have HF:=H.out
    rw[show decide (97≤b)=decide ((97:Int)≤b) by rw[decide_eq_decide];omega,show decide (b≤122)=decide ((b:Int)≤122) by rw[decide_eq_decide];omega,show decide (65≤b)=decide ((65:Int)≤b) by rw[decide_eq_decide];omega,show decide (b≤90)=decide ((b:Int)≤90) by rw[decide_eq_decide];omega] at HF
    simp only[h1,h2,h3,h4,decide_true,decide_false,Bool.and_true,Bool.and_false,Bool.or_true,Bool.or_false] at HF;subst HF;clear H
    first
      | omega
      | (go_enter Tryz.func76,Tryz.ntmps76
         go_wp2_with fail;go_ret
         exact⟨rfl,rfl⟩)

end Ty
end Go.Proofs.YtllbachngocmnaaGreatDoor
