/-
  Why a program may not run, as plain functions: one for each reason.
  A map whose keys are places of lists: one that is not there is not found, and is put behind the others.
-/
import Derived.Test.YtjdohfdkkppnpaaGreatDoorP07
import Derived.Test.YtjdohfdkkppnpaaGreatDoorP16
import Derived.Test.YtjdohfdkkppnpaaGreatDoorP02
import Derived.LaidEqlPtr
import Derived.Laws.StructEq
import Derived.Carry
import Derived.Maps.Own
namespace Go.Proofs.YtjdohfdkkppnpaaGreatDoor
namespace Ck
open Nd Ty

/-- A kid that is a pattern, but not that of a fit. -/
def needK (op : Int) : Nat → List Data → Bool
  | _, [] => false
  | i, t :: ts => (decide (opOf t = 3) && !(decide (op = 21) && decide (i = 1))) || needK op (i + 1) ts
def needN (n : Data) : Bool := decide (opOf n = 6 ∨ opOf n = 7 ∨ opOf n = 8 ∨ opOf n = 33) || needK (opOf n) 0 (kidsOf n)
def okRex (s : List UInt8) : Bool := (Rx.parseV ⟨s.toArray⟩).isSome
def rexN (n : Data) : Bool := if opOf n = 3 then !okRex (txtOf n) else if opOf n = 21 then decide ((kidsOf n)[1]?.map opOf ≠ some 3) else false
def tooMany (p : List Data) : Bool := decide (8 < (ascS (varsIn p)).length) || decide (8 < (ascS (cellsIn p)).length)
def lastB (g : Data → Bool) (p : List Data) : Bool := match p.getLast? with | some t => g t | none => false
def bothB (p : List Data) : Bool := match p.getLast? with | some t => decide (txtOf t ∈ varsIn p) && decide (txtOf t ∈ cellsIn p) | none => false
theorem last_snoc (g : Data → Bool) (p : List Data) (t : Data) : lastB g (p ++ [t]) = g t := by simp [lastB]
theorem both_snoc (p : List Data) (t : Data) : bothB (p ++ [t]) = (decide (txtOf t ∈ varsIn (p ++ [t])) && decide (txtOf t ∈ cellsIn (p ++ [t]))) := by simp [bothB]

theorem any_last (g : Data → Bool) (l : List Data) : (∃ p, p ≠ [] ∧ p <+: l ∧ lastB g p = true) ↔ ∃ t ∈ l, g t = true := by
  constructor
  · rintro ⟨p, hp, ⟨r, rfl⟩, h⟩
    unfold lastB at h
    cases hl : p.getLast? with
    | none => rw [hl] at h; cases h
    | some t => rw [hl] at h; exact ⟨t, by simp [List.mem_of_getLast? hl], h⟩
  · rintro ⟨t, ht, h⟩
    obtain ⟨a, b, rfl⟩ := List.append_of_mem ht
    exact ⟨a ++ [t], by simp, ⟨b, by simp⟩, by rw [last_snoc]; exact h⟩

theorem nodup_len : ∀ {l m : List (List UInt8)}, l.Nodup → (∀ x ∈ l, x ∈ m) → l.length ≤ m.length
  | [], _, _, _ => by simp
  | a :: l, m, hn, h => by
    have hn' := List.nodup_cons.1 hn
    have ha := h a (by simp)
    have ih := nodup_len (l := l) (m := m.erase a) hn'.2 fun x hx => (List.mem_erase_of_ne (fun e => by rw [e] at hx; exact hn'.1 hx)).2 (h x (by simp [hx]))
    have := List.length_erase_of_mem ha
    have := List.length_pos_of_mem ha
    simp only [List.length_cons]
    omega
theorem asc_le {ns ms : List (List UInt8)} (h : ∀ x, x ∈ ns → x ∈ ms) : (ascS ns).length ≤ (ascS ms).length := by
  refine nodup_len (asc_nodup (ascS_asc ns)) fun x hx => ?_
  rw [ascS_mem] at hx ⊢
  exact h x hx
theorem any_many (l : List Data) : (∃ p, p ≠ [] ∧ p <+: l ∧ tooMany p = true) ↔ tooMany l = true := by
  constructor
  · rintro ⟨p, hp, ⟨r, rfl⟩, h⟩
    unfold tooMany at h ⊢
    have h1 := asc_le (ns := varsIn p) (ms := varsIn (p ++ r)) fun x hx => by rw [varsIn_append]; simp [hx]
    have h2 := asc_le (ns := cellsIn p) (ms := cellsIn (p ++ r)) fun x hx => by rw [cellsIn_append]; simp [hx]
    simp only [Bool.or_eq_true, decide_eq_true_eq] at h ⊢
    omega
  · intro h
    refine ⟨l, fun e => ?_, List.prefix_refl _, h⟩
    subst e
    simp [tooMany, varsIn, cellsIn, ascS] at h

def bothAll (l : List Data) : Prop := ∃ x, x ∈ varsIn l ∧ x ∈ cellsIn l
theorem any_both (l : List Data) : (∃ p, p ≠ [] ∧ p <+: l ∧ bothB p = true) ↔ bothAll l := by
  constructor
  · rintro ⟨p, hp, ⟨r, rfl⟩, h⟩
    unfold bothB at h
    cases hl : p.getLast? with
    | none => rw [hl] at h; cases h
    | some t =>
      rw [hl] at h
      simp only [Bool.and_eq_true, decide_eq_true_eq] at h
      exact ⟨txtOf t, by rw [varsIn_append]; simp [h.1], by rw [cellsIn_append]; simp [h.2]⟩
  · rintro ⟨x, h1, h2⟩
    induction hn : l.length generalizing l with
    | zero => obtain rfl : l = [] := List.length_eq_zero_iff.1 hn; simp [varsIn] at h1
    | succ n ih0 =>
      obtain ⟨l, t, rfl⟩ : ∃ l' t, l = l' ++ [t] := by
        rcases List.eq_nil_or_concat l with rfl | ⟨l', t, rfl⟩
        · simp at hn
        · exact ⟨l', t, by simp⟩
      have ih := fun h1 h2 => ih0 l h1 h2 (by simpa using hn)
      by_cases hb : x ∈ varsIn l ∧ x ∈ cellsIn l
      · obtain ⟨p, a1, ⟨r, a2⟩, a3⟩ := ih hb.1 hb.2
        exact ⟨p, a1, ⟨r ++ [t], by rw [← List.append_assoc, a2]⟩, a3⟩
      · refine ⟨l ++ [t], by simp, List.prefix_refl _, ?_⟩
        have hx : txtOf t = x := by
          have e1 := h1
          have e2 := h2
          rw [varsIn_append, varsIn_one, List.mem_append] at e1
          rw [cellsIn_append, cellsIn_one, List.mem_append] at e2
          unfold varsT at e1
          unfold cellsT at e2
          by_cases hv : x ∈ varsIn l
          · have : x ∉ cellsIn l := fun h => hb ⟨hv, h⟩
            rcases e2 with e2 | e2
            · exact absurd e2 this
            · split at e2
              · exact (List.mem_singleton.1 e2).symm
              · simp at e2
          · rcases e1 with e1 | e1
            · exact absurd e1 hv
            · split at e1
              · exact (List.mem_singleton.1 e1).symm
              · simp at e1
        rw [both_snoc, hx]
        simp [h1, h2]

end Ck
end Go.Proofs.YtjdohfdkkppnpaaGreatDoor

namespace Go.Proofs.YtjdohfdkkppnpaaGreatDoor
open Go.RowKit
namespace Nd

def keyV (g : Nat) (n : Int) : Value := .agg #[.pointer (some ⟨g, 0, none⟩), .int .i64 n]
/-- A block of nodes. -/
def Cellsy (w : World) (g : Nat) : Prop := ∃ cur, w.heap[g]? = some (.cells cur 39 (0, 0))
/-- The map in block m: its keys are places of the blocks G. -/
def MapIs (w : World) (m : Nat) (G : List Nat) : Prop := ∃ es clock, w.heap[m]? = some (.map es clock) ∧ es.size = G.length ∧ ∀ e ∈ es.toList, ∃ g n, e.key = keyV g n ∧ g ∈ G

theorem MapIs.lt {w : World} {m : Nat} {G : List Nat} (h : MapIs w m G) : m < w.heap.size := by
  obtain ⟨es, c, h1, _⟩ := h
  exact heap_lt h1
theorem MapIs.same {w w' : World} {m : Nat} {G : List Nat} (h : MapIs w m G) (hw : w'.heap[m]? = w.heap[m]?) : MapIs w' m G := by
  obtain ⟨es, c, h1, h2⟩ := h
  exact ⟨es, c, hw.trans h1, h2⟩
theorem MapIs.not {w : World} {m g : Nat} {G : List Nat} (h : MapIs w m G) (hg : Cellsy w g) : g ≠ m := by
  rintro rfl
  obtain ⟨es, c, h1, _⟩ := h
  obtain ⟨cur, h2⟩ := hg
  rw [h1] at h2
  cases h2
theorem mapIs_made (w : World) : MapIs (w.alloc (.map #[] 0)) w.heap.size [] := ⟨#[], 0, heap_new _ _, rfl, fun e he => by simp at he⟩

theorem sizeNode (w : World) : (sizeOf 39).run Tryz.prog w = .ok 4 w := by kernel_rfl
theorem aggPtr (w : World) : (isAgg 159).run Tryz.prog w = .ok false w := by kernel_rfl
theorem aggInt (w : World) : (isAgg 3).run Tryz.prog w = .ok false w := by kernel_rfl
theorem stoodKey : Tryz.prog.stoodInHeld 161 = false := by kernel_rfl

theorem run_key_other (w : World) {g g' : Nat} {n n' : Int} (hne : g ≠ g') (hg : Cellsy w g) (hg' : Cellsy w g') : (Op.equal 161 (keyV g n) (keyV g' n')).run Tryz.prog w = .ok false w := by
  obtain ⟨ca, ha⟩ := hg
  obtain ⟨cb, hb⟩ := hg'
  have hs := run_sameAddr_other (P := Tryz.prog) w (a := ⟨g, 0, none⟩) (b := ⟨g', 0, none⟩) (fun e => hne (congrArg Addr.block e)) ha hb
  have hp : ∀ d : Nat, (Op.equalIn (d + 1) 159 (.pointer (some ⟨g, 0, none⟩)) (.pointer (some ⟨g', 0, none⟩))).run Tryz.prog w = .ok false w := fun d => by
    simp [Op.equalIn, run_underlying Tryz.underlying159, hs]
  have hf : Tryz.prog.fieldsOf 161 = #[{ name := "first", type := 159, offset := 0, embedded := false, tag := "", pkgPath := "loop.example/g00289/impl", byteOffset := 0 }, { name := "size", type := 3, offset := 1, embedded := false, tag := "", pkgPath := "loop.example/g00289/impl", byteOffset := 8 }] := by
    simp [Program.fieldsOf, Tryz.underlying161]
  have hu : Tryz.prog.underlying 161 = some (.struct (Tryz.prog.fieldsOf 161)) := by rw [hf]; exact Tryz.underlying161
  have := run_equalIn_struct (P := Tryz.prog) w 9999 161 #[.pointer (some ⟨g, 0, none⟩), .int .i64 n] #[.pointer (some ⟨g', 0, none⟩), .int .i64 n'] hu stoodKey
  unfold Op.equal Op.maxDepth keyV
  rw [this, hf]
  simp [Op.eqFields, part, hp 9998]

theorem run_none (w : World) {g : Nat} {n : Int} (hg : Cellsy w g) : ∀ (es : List MapEntry) (i : Nat), (∀ e ∈ es, ∃ g' n', e.key = keyV g' n' ∧ g ≠ g' ∧ Cellsy w g') → (Instr.findAsking 161 (keyV g n) es i).run Tryz.prog w = .ok none w
  | [], i, _ => by simp [Instr.findAsking]
  | e :: es, i, h => by
    obtain ⟨g', n', he, hne, hc⟩ := h e (by simp)
    have h1 := run_none w (n := n) hg es (i + 1) fun e he => h e (by simp [he])
    simp [Instr.findAsking, he, run_key_other w hne hg hc, h1]

theorem run_find (w : World) {g : Nat} {n : Int} (hg : Cellsy w g) (es : List MapEntry) (h : ∀ e ∈ es, ∃ g' n', e.key = keyV g' n' ∧ g ≠ g' ∧ Cellsy w g') : (Instr.findKey 161 (keyV g n) es).run Tryz.prog w = .ok none w := by
  unfold Instr.findKey
  rw [Sem.run_bind, run_underlying Tryz.underlying161 w]
  simp only [Result.andThen_ok]
  cases es with
  | nil => simp [Instr.findNow]
  | cons e es =>
    have : Instr.findNow (TypeDesc.struct #[{ name := "first", type := 159, offset := 0, embedded := false, tag := "", pkgPath := "loop.example/g00289/impl", byteOffset := 0 }, { name := "size", type := 3, offset := 1, embedded := false, tag := "", pkgPath := "loop.example/g00289/impl", byteOffset := 8 }]) (keyV g n) (e :: es) 0 = none := by simp [Instr.findNow, Instr.sameNow]
    rw [this]
    exact run_none w hg _ _ h

theorem run_checkKey (w : World) (em : Bool) (g : Nat) (n : Int) : (Instr.checkKey em 10000 161 (keyV g n)).run Tryz.prog w = .ok () w := by
  have h1 : ∀ (d : Nat) v, (Instr.checkKey em (d + 1) 159 v).run Tryz.prog w = .ok () w := fun d v => by unfold Instr.checkKey; rw [Sem.run_bind, run_underlying Tryz.underlying159 w]; simp
  have h2 : ∀ (d : Nat) v, (Instr.checkKey em (d + 1) 3 v).run Tryz.prog w = .ok () w := fun d v => by unfold Instr.checkKey; rw [Sem.run_bind, run_underlying Tryz.underlying3 w]; simp
  have h1 := h1 9998
  have h2 := h2 9998
  show (Instr.checkKey em (9999 + 1) 161 (keyV g n)).run Tryz.prog w = .ok () w
  unfold Instr.checkKey keyV
  rw [Sem.run_bind, run_underlying Tryz.underlying161 w]
  simp [part, h1, h2]

theorem zeroInt (w : World) : (zeroValue 3).run Tryz.prog w = .ok (.int .i64 0) w := by kernel_rfl

theorem run_unseen {w : World} {m : Nat} {G : List Nat} (h : MapIs w m G) (hG : ∀ g ∈ G, Cellsy w g) {g : Nat} (n : Int) (hg : Cellsy w g) (hn : g ∉ G) : (Instr.lookup 143 (.map (some m)) (keyV g n) false).run Tryz.prog w = .ok (.int .i64 0) w := by
  obtain ⟨es, c, h1, h2, h3⟩ := h
  have hf := run_find w (n := n) hg es.toList fun e he => by
    obtain ⟨g', n', e1, e2⟩ := h3 e he
    exact ⟨g', n', e1, fun e => hn (e ▸ e2), hG g' e2⟩
  unfold Instr.lookup
  rw [Sem.run_bind, run_underlying Tryz.underlying143 w]
  simp [MapKept.run_getObj_map h1, run_checkKey, hf]

/-- The world behind a store of a new key. -/
theorem run_put {w : World} {m : Nat} {G : List Nat} (h : MapIs w m G) (hG : ∀ g ∈ G, Cellsy w g) {g : Nat} (n d : Int) (hg : Cellsy w g) (hn : g ∉ G) :
    ∃ w', (Instr.mapUpdate 143 (.map (some m)) (keyV g n) (.int .i64 d)).run Tryz.prog w = .ok () w' ∧ MapIs w' m (G ++ [g]) ∧ w.grownBy w' (some m) ∧ w'.heap.size = w.heap.size := by
  have hlt := h.lt
  obtain ⟨es, c, h1, h2, h3⟩ := h
  have hf := run_find w (n := n) hg es.toList fun e he => by
    obtain ⟨g', n', e1, e2⟩ := h3 e he
    exact ⟨g', n', e1, fun e => hn (e ▸ e2), hG g' e2⟩
  refine ⟨{ w with heap := w.heap.set! m (.map (es.push { key := keyV g n, val := .int .i64 d, born := c }) (c + 1)) }, ?_, ?_, ?_, ?_⟩
  · unfold Instr.mapUpdate
    rw [Sem.run_bind, run_underlying Tryz.underlying143 w]
    simp [MapKept.run_getObj_map h1, run_checkKey, hf, MapKept.run_setObj_map _ h1]
  · refine ⟨es.push { key := keyV g n, val := .int .i64 d, born := c }, c + 1, ?_, by simp [h2], fun e he => ?_⟩
    · simp [hlt]
    · simp at he
      rcases he with he | rfl
      · obtain ⟨g', n', e1, e2⟩ := h3 e (by simpa using he)
        exact ⟨g', n', e1, by simp [e2]⟩
      · exact ⟨g, n, rfl, by simp⟩
  · refine ⟨rfl, rfl, rfl, by simp, fun k hk hne => ?_⟩
    have : m ≠ k := fun e => hne (by rw [e])
    simp [this]
  · simp

end Nd
end Go.Proofs.YtjdohfdkkppnpaaGreatDoor

