/-
  A byte 92 ahead of some bytes: marked, l9Back.
-/
import Derived.Test.YtjdohfdkkppnpaaGreatDoorQ29
import Derived.Lib.IndexAny
namespace Go.Proofs.YtjdohfdkkppnpaaGreatDoor
open Go.RowKit
namespace Ty
open Nd
set_option linter.unusedSimpArgs false
set_option linter.unusedVariables false

def u8L (L : List UInt8) : List Value := L.map fun b => Value.int .u8 b.toNat

theorem convL {w : World} {B : Nat} {v : Value} {l : List UInt8} (h : w.ownsRow B 5 1 v l.length (u8L l)) :
    (convert 44 9 v).run Tryz.prog w = .ok (.string ⟨l.toArray⟩) w := by
  rcases h.2 with ⟨rfl, hn⟩ | ⟨g, cap, cur, rfl, _⟩
  · have : l = [] := List.length_eq_zero_iff.1 hn
    subst this
    rw [run_convert_bytes_string w 44 9 5 none 0 0 Tryz.underlying44 Tryz.underlying5 Tryz.underlying9]
    rfl
  · have hc := h.cells (g := g) rfl
    have := run_convert_bytes_back (P := Tryz.prog) w 44 9 5 ⟨g, 0, none⟩ cap l Tryz.underlying44 Tryz.underlying5 Tryz.underlying9 (by
      intro j hj
      refine hc j _ ?_
      simp [u8L, List.getElem?_map, List.getElem?_eq_getElem hj])
    exact this

theorem app_byte {w : World} {B : Nat} {ops : Array Oper} {rest : List Oper} {o : Oper} {a : Act} {Q : Exit → Act → World → Prop} (hgd : o.guard = none) (x y : Operand) (ho : o.op = .call { callee := .builtin .append, args := #[x, y], argTypes := #[44, 44] })
    (L : List UInt8) (ao : Option Addr) (cap : Nat) (hx : a.eval x = .slice ao L.length cap) (hown : w.ownsRow B 5 1 (.slice ao L.length cap) L.length (u8L L)) (g : Nat) (b : UInt8) (hy : a.eval y = .slice (some ⟨g, 0, none⟩) 1 1) (hc : w.cell? ⟨g, 0, none⟩ = some (.int .u8 b.toNat))
    (room : L.length + 1 ≤ 1099511627776) (hB : B ≤ w.heap.size)
    (h : ∀ ao' cap' w', w'.ownsRow B 5 1 (.slice ao' (L ++ [b]).length cap') (L ++ [b]).length (u8L (L ++ [b])) → Below B w w' → wpList Tryz.prog ops Q rest (a.put o.dst (.slice ao' (L ++ [b]).length cap')) w') : wpList Tryz.prog ops Q (o :: rest) a w := by
  obtain ⟨i0, hi0, hz0, hz1, hz2⟩ := info_parts Tryz.infoByter
  refine wpList_append_own _ hgd x y 44 ho B 5 i0 (.int .u8 0) 1 1 Tryz.underlying44 hi0 hz0 hz1 hz2 rfl (by decide) _ L.length (u8L L) hx hown ⟨g, 0, none⟩ 1 1 [.int .u8 b.toNat] hy rfl (fun j u hj => ?_) (fun u hu => by simp at hu; subst hu; rfl) (by unfold maxLen; omega) (by omega) hB ?_
  · match j with
    | 0 =>
      simp at hj
      subst hj
      have : (⟨g, 0, none⟩ : Addr).add 0 = ⟨g, 0, none⟩ := by unfold Addr.add; split <;> simp_all
      rw [this]
      exact hc
    | j + 1 => simp at hj
  · intro v' w' hown' hgr _
    obtain ⟨ao', cap', rfl⟩ := owns_slice hown'
    have hl : (L ++ [b]).length = L.length + 1 := by simp
    have := h ao' cap' w' (by rw [hl]; unfold u8L at hown' ⊢; rw [List.map_append]; exact hown') (Below.grown (Below.refl B w) hgr hB fun k hk => (hown.lt k hk).1)
    rw [hl] at this
    exact this

theorem back_cons (M : List UInt8) (b : UInt8) (r : List UInt8) : back M (b :: r) = (if M.contains b then [92, b] else [b]) ++ back M r := rfl
theorem back_append (M a b : List UInt8) : back M (a ++ b) = back M a ++ back M b := by simp [back]
theorem back_take (M : List UInt8) (s : ByteArray) (k : Nat) (h : k < s.size) : back M (s.data.toList.take (k + 1)) = back M (s.data.toList.take k) ++ (if M.contains s[k] then [92, s[k]] else [s[k]]) := by
  have hk : s.data.toList[k]? = some s[k] := by rw [List.getElem?_eq_getElem (by simpa using h)]; rfl
  rw [List.take_add_one, hk, back_append]
  simp [back]

set_option maxHeartbeats 1000000 in
set_option maxRecDepth 100000 in
theorem iMarked (s : ByteArray) (M : List UInt8) (hs : s.size ≤ 1048576) (w : World) :
    Calls Tryz.prog 83 #[.string s, .string ⟨M.toArray⟩] w fun e w' => e = .returned (.string ⟨(back M s.data.toList).toArray⟩) ∧ Below w.heap.size w w' := by
  have hsI : (s.size : Int) ≤ 1048576 := by omega
  have hcv := fun w => run_bytes_of_string (P := Tryz.prog) w 9 44 5 s Tryz.underlying9 Tryz.underlying44 Tryz.underlying5
  have hrow := fun cap n m => bytes_cell w s cap n m 5
  have hbel : ∀ o, Below w.heap.size w (w.alloc o).drew := fun o => Below.drew ((Below.refl _ w).alloc (Nat.le_refl _) _)
  have hsz : ∀ o, (w.alloc o).drew.heap.size = w.heap.size + 1 := fun o => World.size_alloc _ _
  have cI := fun (b : UInt8) w => Tryz.strings_IndexByte ⟨M.toArray⟩ (b.toNat : Int) w
  have hix : ∀ b : UInt8, Lib.indexByte (⟨M.toArray⟩ : ByteArray).data.toList (b.toNat : Int).toNat.toUInt8 = Lib.indexByte M b := fun b => by simp
  have hct : ∀ b : UInt8, M.contains b = decide (0 ≤ Lib.indexByte M b) := fun b => Lib.contains_iff_indexByte M b
  have HR : Hid (∀ k, (back M (s.data.toList.take k)).length + 2 ≤ 1099511627776) := fun k => by
    have h1 := back_len M (s.data.toList.take k)
    have h2 : (s.data.toList.take k).length ≤ s.size := by rw [List.length_take]; exact Nat.min_le_right _ _
    omega
  clear hs
  go_enter Tryz.func83, Tryz.ntmps83
  go_wp2_with fail
  have hrow := hrow (grownCap w s.size 0 5) (bytesRow s (grownCap w s.size 0 5)).size ((bytesRow s (grownCap w s.size 0 5)).size + 1)
  have hbel := hbel (.cells (bytesRow s (grownCap w s.size 0 5)) 5 ((bytesRow s (grownCap w s.size 0 5)).size, (bytesRow s (grownCap w s.size 0 5)).size + 1))
  have hsz := hsz (.cells (bytesRow s (grownCap w s.size 0 5)) 5 ((bytesRow s (grownCap w s.size 0 5)).size, (bytesRow s (grownCap w s.size 0 5)).size + 1))
  generalize (w.alloc (.cells (bytesRow s (grownCap w s.size 0 5)) 5 ((bytesRow s (grownCap w s.size 0 5)).size, (bytesRow s (grownCap w s.size 0 5)).size + 1))).drew = w1 at *
  generalize grownCap w s.size 0 5 = cap at *
  go_loopw [5, 11] (fun v i wr => ∃ (k : Nat) (ao : Option Addr) (cp : Nat), k ≤ s.size ∧ i = .int .i64 k ∧ v = .slice ao (back M (s.data.toList.take k)).length cp ∧ wr.ownsRow w1.heap.size 5 1 v (back M (s.data.toList.take k)).length (u8L (back M (s.data.toList.take k))) ∧ Below w1.heap.size w1 wr) (fun _ i _ => s.size - (intOf i).toNat)
  case atStart => exact ⟨0, none, 0, Nat.zero_le _, rfl, by simp [back], by simpa [back, u8L] using World.ownsRow_nil _ _ _ _, Below.refl _ _⟩
  case round =>
    obtain ⟨k, ao, cp, hk, rfl, rfl, hown, hb⟩ := hrel
    by_cases hkl : k < s.size
    · have hc := (hb.cell (p := ⟨w.heap.size, k, none⟩) (by rw [hsz]; simp)).trans (hrow k hkl)
      have hbt := back_take M s k hkl
      have call := cI s[k] wr
      rw [hix] at call
      have hct := hct s[k]
      have hr := HR.out k
      have bk : (k : Int) < s.size := by omega
      generalize hX : s[k] = X at *
      clear hX hrow cI hix hcv
      generalize Lib.indexByte M X = I at *
      generalize back M (s.data.toList.take k) = L at *
      by_cases hI : 0 ≤ I
      · rw [hct, decide_eq_true hI] at hbt
        simp only [if_true] at hbt
        have HT : Hid (back M (s.data.toList.take (k + 1)) = L ++ [92, X]) := hbt
        have R1 : Hid (L.length + 2 ≤ 1099511627776) := hr
        clear hbt hct hr HR
        have hgrow : ∀ w2, Below w1.heap.size w1 w2 → ∀ o, Below w1.heap.size w1 (w2.alloc o) := fun w2 h o => h.alloc h.size _
        go_wp2_with (first
          | (go_at_call 110; refine call.mono ?_; rintro e w2 ⟨rfl, hw⟩; have hw := hw.symm; subst hw)
          | (at_builtin; refine hold ?_))
        refine app_byte (B := w1.heap.size) rfl (.tmp 19) (.tmp 20) rfl L ao cp rfl (owns_same hown fun g hg => Below.heap_alloc _ _ _ (hown.lt g hg).2) wr.heap.size 92 rfl ((cell_of_row _ _ 0 _ _ _ (heap_new wr _)).trans rfl) (by have := R1.out; omega) (hgrow wr hb _).size ?_
        intro ao2 cp2 w3 hown3 hb3
        have hb3 := (hgrow wr hb _).trans hb3
        have R2 : Hid ((L ++ [92]).length + 1 ≤ 1099511627776) := by show _ ≤ _; have := R1.out; simp only [List.length_append, List.length_cons, List.length_nil]; omega
        have HT : Hid (back M (s.data.toList.take (k + 1)) = (L ++ [92]) ++ [X]) := by show _ = _; rw [HT.out]; simp
        generalize L ++ [92] = L2 at *
        go_wp2_with (at_builtin; refine hold ?_)
        refine app_byte (B := w1.heap.size) rfl (.tmp 22) (.tmp 24) rfl L2 ao2 cp2 rfl (owns_same hown3 fun g hg => Below.heap_alloc _ _ _ (hown3.lt g hg).2) w3.heap.size X rfl ((cell_of_row _ _ 0 _ _ _ (heap_new w3 _)).trans rfl) R2.out (hgrow w3 hb3 _).size ?_
        intro ao4 cp4 w5 hown5 hb5
        have hb5 := (hgrow w3 hb3 _).trans hb5
        rw [← HT.out] at hown5
        have HO : Hid (w5.ownsRow w1.heap.size 5 1 (.slice ao4 (back M (s.data.toList.take (k + 1))).length cp4) (back M (s.data.toList.take (k + 1))).length (u8L (back M (s.data.toList.take (k + 1))))) := hown5
        rw [← HT.out]
        generalize hLL : (back M (s.data.toList.take (k + 1))).length = LL at *
        clear hown hown3 hown5
        go_wp2_with fail
        go_roundw
        case rel => exact ⟨k + 1, ao4, cp4, hkl, by go_num, by rw [hLL], by rw [hLL]; exact HO.out, hb5⟩
        case measure => simp [intOf]; omega
      · rw [hct, decide_eq_false hI] at hbt
        simp only [Bool.false_eq_true, if_false] at hbt
        have HT : Hid (back M (s.data.toList.take (k + 1)) = L ++ [X]) := hbt
        have R1 : Hid (L.length + 2 ≤ 1099511627776) := hr
        clear hbt hct hr HR
        have hgrow : ∀ w2, Below w1.heap.size w1 w2 → ∀ o, Below w1.heap.size w1 (w2.alloc o) := fun w2 h o => h.alloc h.size _
        go_wp2_with (first
          | (go_at_call 110; refine call.mono ?_; rintro e w2 ⟨rfl, hw⟩; have hw := hw.symm; subst hw)
          | (at_builtin; refine hold ?_))
        refine app_byte (B := w1.heap.size) rfl (.tmp 22) (.tmp 24) rfl L ao cp rfl (owns_same hown fun g hg => Below.heap_alloc _ _ _ (hown.lt g hg).2) wr.heap.size X rfl ((cell_of_row _ _ 0 _ _ _ (heap_new wr _)).trans rfl) (by have := R1.out; omega) (hgrow wr hb _).size ?_
        intro ao4 cp4 w5 hown5 hb5
        have hb5 := (hgrow wr hb _).trans hb5
        rw [← HT.out] at hown5
        have HO : Hid (w5.ownsRow w1.heap.size 5 1 (.slice ao4 (back M (s.data.toList.take (k + 1))).length cp4) (back M (s.data.toList.take (k + 1))).length (u8L (back M (s.data.toList.take (k + 1))))) := hown5
        rw [← HT.out]
        generalize hLL : (back M (s.data.toList.take (k + 1))).length = LL at *
        clear hown hown5
        go_wp2_with fail
        go_roundw
        case rel => exact ⟨k + 1, ao4, cp4, hkl, by go_num, by rw [hLL], by rw [hLL]; exact HO.out, hb5⟩
        case measure => simp [intOf]; omega
    · obtain rfl : k = s.size := by omega
      have htk : s.data.toList.take s.size = s.data.toList := List.take_of_length_le (Nat.le_refl _)
      rw [htk] at hown
      rw [htk]
      have hcc := convL hown
      have HB : Hid (Below w.heap.size w wr) := hbel.trans (hb.mono hbel.size)
      clear hcv
      go_wp2_with fail
      go_ret
      exact ⟨rfl, HB.out⟩

end Ty
end Go.Proofs.YtjdohfdkkppnpaaGreatDoor

