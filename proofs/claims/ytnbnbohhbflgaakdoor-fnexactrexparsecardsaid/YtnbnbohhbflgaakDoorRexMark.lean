/-
  The laws' marks: markText, markRexS, heldRexS.
-/
import Derived.Test.YtnbnbohhbflgaakDoorRexEq
namespace Go.Proofs.YtnbnbohhbflgaakDoor
open Go.RowKit
namespace Rx

def dig : Nat → Nat → ByteArray → ByteArray
  | 0, _, out => out
  | f + 1, k, out => if k = 0 then out else dig f (k / 10) ((⟨#[UInt8.ofNat (48 + k % 10)]⟩ : ByteArray) ++ out)
def markT (k : Nat) : ByteArray := (⟨#[109]⟩ : ByteArray) ++ dig (k + 1) k ⟨#[]⟩

theorem dig_step {f k : Nat} (hk : 0 < k) (out : ByteArray) : dig (f + 1) k out = dig f (k / 10) ((⟨#[UInt8.ofNat (48 + k % 10)]⟩ : ByteArray) ++ out) := by
  rw [dig, if_neg (by omega)]
theorem dig_zero (f : Nat) (out : ByteArray) : dig f 0 out = out := by cases f <;> simp [dig]

theorem byte_new (w : World) (c : UInt8) (x : Int) (hx : x = c.toNat) :
    (convert 75 9 (.slice (some ⟨w.heap.size, 0, none⟩) 1 1)).run Tryd.prog (w.alloc (.cells #[.int .u8 x] 5)) = .ok (.string ⟨#[c]⟩) (w.alloc (.cells #[.int .u8 x] 5)) := by
  subst hx
  have := run_convert_bytes_back (P := Tryd.prog) (w.alloc (.cells #[.int .u8 (c.toNat : Int)] 5)) 75 9 5 ⟨w.heap.size, 0, none⟩ 1 [c] Tryd.underlying75 Tryd.underlying5 Tryd.underlying9 (by
    intro j hj
    have h0 : j = 0 := by simpa using hj
    subst h0
    simp [Addr.add])
  exact this

set_option maxRecDepth 100000 in
theorem lMarkText (k : Nat) (h1 : 1 ≤ k) (h2 : k ≤ 1000000) (w : World) :
    Calls Tryd.prog 66 #[.int .i64 k] w fun e w' => e = .returned (.string (markT k)) ∧ Below w.heap.size w w' := by
  obtain ⟨R, hR⟩ : ∃ R, R = dig (k + 1) k ⟨#[]⟩ := ⟨_, rfl⟩
  have HR : Hid (dig (k + 1) k ⟨#[]⟩ = R) := hR.symm
  have hm : markT k = (⟨#[109]⟩ : ByteArray) ++ R := by rw [hR]; rfl
  rw [hm]
  clear hR hm
  have k1 : (1 : Int) ≤ k := by omega
  have k2 : (k : Int) ≤ 1000000 := by omega
  go_enter Tryd.func66, Tryd.ntmps66
  go_wp2_with fail
  go_loopw [0, 3] (fun kv ov wr => ∃ (n f : Nat) (out : ByteArray), kv = .int .i64 n ∧ ov = .string out ∧ n < f ∧ n + out.size ≤ 2000000 ∧ dig f n out = R ∧ Below w.heap.size w wr) (fun kv _ _ => (intOf kv).toNat)
  case atStart => exact ⟨k, k + 1, ⟨#[]⟩, rfl, rfl, by omega, by show k + 0 ≤ 2000000; omega, HR.out, Below.refl _ _⟩
  case round =>
    obtain ⟨n, f, out, rfl, rfl, hf, hn, hd, hb⟩ := hrel
    have HF : Hid (n < f ∧ n + out.size ≤ 2000000) := ⟨hf, hn⟩
    have o2 : (out.size : Int) ≤ 2000000 := by omega
    clear k1 k2 h1 h2 HR hn
    by_cases hz : n = 0
    · subst hz
      rw [dig_zero] at hd
      subst hd
      clear hf HF
      go_wp2_with fail
      go_ret
      exact ⟨rfl, hb⟩
    · obtain ⟨f, rfl⟩ : ∃ g, f = g + 1 := ⟨f - 1, by omega⟩
      rw [dig_step (by omega)] at hd
      have HD : Hid (dig f (n / 10) ((⟨#[UInt8.ofNat (48 + n % 10)]⟩ : ByteArray) ++ out) = R) := hd
      have HF := HF
      clear hd hf
      have n1 : (0 : Int) < n := by omega
      have n2 : (n : Int) ≤ 2000000 := by have := HF.out.2; omega
      clear hz
      obtain ⟨c, hc⟩ : ∃ c, c = UInt8.ofNat (48 + n % 10) := ⟨_, rfl⟩
      have hcv := byte_new wr c (48 + (n : Int) % 10) (by rw [hc]; simp; omega)
      rw [← hc] at HD
      clear hc
      go_wp2_with fail
      go_roundw
      case rel =>
        have h1 := HF.out.1
        have h2 := HF.out.2
        refine ⟨n / 10, f, _, by simp, rfl, by omega, ?_, HD.out, hb.alloc hb.size _⟩
        rw [ByteArray.size_append]
        show n / 10 + (1 + out.size) ≤ 2000000
        omega
      case measure => simp [intOf]; omega

/-! a tree with marks -/
mutual
def mark : Data → Nat → Data
  | .slice ks _, k => nd k (k + 1) (markT (k + 2)).data.toList (decide ((k + 3) % 3 = 0)) (marksOf ks (k + 4))
  | t, _ => t
def marksOf : List Data → Nat → List Data
  | [], _ => []
  | t :: ts, k => mark t k :: marksOf ts (k + 4 * cnt t)
end

theorem mark_nd (op c : Nat) (s : List UInt8) (no : Bool) (ks : List Data) (k : Nat) : mark (nd op c s no ks) k = nd k (k + 1) (markT (k + 2)).data.toList (decide ((k + 3) % 3 = 0)) (marksOf ks (k + 4)) := by
  show mark (.slice ks _) k = _
  rw [mark]
theorem marksOf_length : ∀ (ts : List Data) (k : Nat), (marksOf ts k).length = ts.length
  | [], k => by simp [marksOf]
  | t :: ts, k => by simp [marksOf, marksOf_length ts]

theorem marksOf_at : ∀ (ts : List Data) (k i : Nat) (t : Data), ts[i]? = some t → (marksOf ts k)[i]? = some (mark t (k + 4 * cnts (ts.take i)))
  | [], k, i, t, h => by simp at h
  | t' :: ts, k, 0, t, h => by simp at h; subst h; simp [marksOf, cnts]
  | t' :: ts, k, i + 1, t, h => by
    simp at h
    have := marksOf_at ts (k + 4 * cnt t') i t h
    simp only [marksOf, List.getElem?_cons_succ, List.take_succ_cons, cnts]
    rw [this]
    congr 2
    omega

theorem cnts_take (ts : List Data) : ∀ i t, ts[i]? = some t → cnts (ts.take (i + 1)) = cnts (ts.take i) + cnt t := by
  induction ts with
  | nil => intro i t h; simp at h
  | cons t' ts ih =>
    intro i t h
    cases i with
    | zero => simp at h; subst h; simp [cnts]
    | succ i =>
      simp at h
      have := ih i t h
      simp only [List.take_succ_cons, cnts]
      omega

theorem cnts_le (ts : List Data) : ∀ i, cnts (ts.take i) ≤ cnts ts := by
  induction ts with
  | nil => intro i; simp
  | cons t' ts ih => intro i; cases i with
    | zero => simp [cnts]
    | succ i => have := ih i; simp only [List.take_succ_cons, cnts]; omega

end Rx
end Go.Proofs.YtnbnbohhbflgaakDoor
