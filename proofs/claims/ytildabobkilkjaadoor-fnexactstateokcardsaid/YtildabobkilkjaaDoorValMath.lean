/-
  Chapter 6 as plain functions: what a value is as a number, as a text, as a truth, whether it is right, what is read of a text.
-/
import Derived.Test.YtildabobkilkjaaDoorNumMath
import Derived.Test.YtildabobkilkjaaDoorDecMath
namespace Go.Proofs.YtildabobkilkjaaDoor
namespace Vl

def numV (k n : Int) (s : ByteArray) : Int := if k = 1 then n else if k = 3 then n else if k = 2 then Num.frontV s.data.toList else 0
theorem num1 (n : Int) (s : ByteArray) : numV 1 n s = n := rfl
theorem num3 (n : Int) (s : ByteArray) : numV 3 n s = n := rfl
theorem num2 (n : Int) (s : ByteArray) : numV 2 n s = Num.frontV s.data.toList := rfl
theorem num0 {k : Int} (h1 : k ≠ 1) (h2 : k ≠ 2) (h3 : k ≠ 3) (n : Int) (s : ByteArray) : numV k n s = 0 := by simp [numV, h1, h2, h3]
def textV (k n : Int) (s : ByteArray) : ByteArray := if k = 1 then ⟨(Num.decTextL n).toArray⟩ else s
theorem text1 (n : Int) (s : ByteArray) : textV 1 n s = ⟨(Num.decTextL n).toArray⟩ := rfl
theorem text0 {k : Int} (h1 : k ≠ 1) (n : Int) (s : ByteArray) : textV k n s = s := by simp [textV, h1]
/-- an empty text -/
def mtB (s : ByteArray) : Bool := s.toList.isEmpty
def truthB (k n : Int) (s : ByteArray) : Bool := if k = 1 then !(n == 0) else if k = 3 then !(n == 0) else if k = 2 then !(mtB s) else false
theorem truth1 (n : Int) (s : ByteArray) : truthB 1 n s = !(n == 0) := rfl
theorem truth3 (n : Int) (s : ByteArray) : truthB 3 n s = !(n == 0) := rfl
theorem truth2 (n : Int) (s : ByteArray) : truthB 2 n s = !(mtB s) := rfl
theorem truth0 {k : Int} (h1 : k ≠ 1) (h2 : k ≠ 2) (h3 : k ≠ 3) (n : Int) (s : ByteArray) : truthB k n s = false := by simp [truthB, h1, h2, h3]
/-- right, but for the number and the length -/
def kindB (k n : Int) (s : ByteArray) : Bool := if k = 0 then (n == 0 && mtB s) else if k = 1 then mtB s else if k = 2 then n == 0 else if k = 3 then (Num.looksB s.data.toList && Num.looksV s.data.toList == n) else false
theorem kind0 (n : Int) (s : ByteArray) : kindB 0 n s = (n == 0 && mtB s) := rfl
theorem kind1 (n : Int) (s : ByteArray) : kindB 1 n s = (mtB s) := rfl
theorem kind2 (n : Int) (s : ByteArray) : kindB 2 n s = (n == 0) := rfl
theorem kind3 (n : Int) (s : ByteArray) : kindB 3 n s = (Num.looksB s.data.toList && Num.looksV s.data.toList == n) := rfl
theorem kind9 {k : Int} (h0 : k ≠ 0) (h1 : k ≠ 1) (h2 : k ≠ 2) (h3 : k ≠ 3) (n : Int) (s : ByteArray) : kindB k n s = false := by simp [kindB, h0, h1, h2, h3]
def okV (k n : Int) (s : ByteArray) : Bool := Dec.okB n && decide ((s.size : Int) ≤ 300) && kindB k n s
theorem ok_num {n : Int} (h : Dec.okB n = false) (k : Int) (s : ByteArray) : okV k n s = false := by simp [okV, h]
theorem ok_long {s : ByteArray} (h : (300 : Int) < s.size) (k n : Int) : okV k n s = false := by
  have : decide ((s.size : Int) ≤ 300) = false := by simp; omega
  simp [okV, this]
theorem ok_kind {n : Int} {s : ByteArray} (h : Dec.okB n = true) (hs : (s.size : Int) ≤ 300) (k : Int) : okV k n s = kindB k n s := by simp [okV, h, hs]
/-- what is not more than a value may hold -/
def cutV (s : ByteArray) : ByteArray := if (300 : Int) < s.size then s.extract 0 300 else s
theorem cut_long {s : ByteArray} (h : (300 : Int) < s.size) : cutV s = s.extract 0 300 := by simp [cutV, h]
theorem cut_short {s : ByteArray} (h : (s.size : Int) ≤ 300) : cutV s = s := by unfold cutV; rw [if_neg (by omega)]
theorem cut_size (s : ByteArray) : ((cutV s).size : Int) ≤ 300 := by
  unfold cutV; split
  · rw [ByteArray.size_extract]; omega
  · omega
/-- what is read of a text -/
def rdK (s : ByteArray) : Int := if Num.looksB (cutV s).data.toList then 3 else 2
def rdN (s : ByteArray) : Int := if Num.looksB (cutV s).data.toList then Num.looksV (cutV s).data.toList else 0
end Vl
end Go.Proofs.YtildabobkilkjaaDoor
