/-
  A map whose keys are places of lists: one that is not there is not found, and is put behind the others.
-/
import Derived.Test.YtjdohfdkkppnpaaGreatDoorQ03
import Derived.LaidEqlPtr
import Derived.Laws.StructEq
import Derived.Carry
import Derived.Maps.Own
namespace Go.Proofs.YtjdohfdkkppnpaaGreatDoor
open Go.RowKit
namespace Nd

def keyV (g : Nat) (n : Int) : Value := .agg #[.pointer (some ⟨g, 0, none⟩), .int .i64 n]
/-- A block of nodes. -/
def Cellsy (w : World) (g : Nat) : Prop := ∃ cur, w.heap[g]? = some (.cells cur 39 (0, 0))
/-- The map in block m: its keys are places of the blocks G. -/
def MapIs (w : World) (m : Nat) (G : List Nat) : Prop := ∃ es clock, w.heap[m]? = some (.map es clock) ∧ es.size = G.length ∧ ∀ e ∈ es.toList, ∃ g n, e.key = keyV g n ∧ g ∈ G

theorem MapIs.lt {w : World} {m : Nat} {G : List Nat} (h : MapIs w m G) : m < w.heap.size := by
  obtain ⟨es, c, h1, _⟩ := h
  exact heap_lt h1
theorem MapIs.same {w w' : World} {m : Nat} {G : List Nat} (h : MapIs w m G) (hw : w'.heap[m]? = w.heap[m]?) : MapIs w' m G := by
  obtain ⟨es, c, h1, h2⟩ := h
  exact ⟨es, c, hw.trans h1, h2⟩
theorem MapIs.not {w : World} {m g : Nat} {G : List Nat} (h : MapIs w m G) (hg : Cellsy w g) : g ≠ m := by
  rintro rfl
  obtain ⟨es, c, h1, _⟩ := h
  obtain ⟨cur, h2⟩ := hg
  rw [h1] at h2
  cases h2
theorem mapIs_made (w : World) : MapIs (w.alloc (.map #[] 0)) w.heap.size [] := ⟨#[], 0, heap_new _ _, rfl, fun e he => by simp at he⟩

theorem sizeNode (w : World) : (sizeOf 39).run Tryz.prog w = .ok 4 w := by kernel_rfl
theorem aggPtr (w : World) : (isAgg 159).run Tryz.prog w = .ok false w := by kernel_rfl
theorem aggInt (w : World) : (isAgg 3).run Tryz.prog w = .ok false w := by kernel_rfl
theorem stoodKey : Tryz.prog.stoodInHeld 161 = false := by kernel_rfl

theorem run_key_other (w : World) {g g' : Nat} {n n' : Int} (hne : g ≠ g') (hg : Cellsy w g) (hg' : Cellsy w g') : (Op.equal 161 (keyV g n) (keyV g' n')).run Tryz.prog w = .ok false w := by
  obtain ⟨ca, ha⟩ := hg
  obtain ⟨cb, hb⟩ := hg'
  have hs := run_sameAddr_other (P := Tryz.prog) w (a := ⟨g, 0, none⟩) (b := ⟨g', 0, none⟩) (fun e => hne (congrArg Addr.block e)) ha hb
  have hp : ∀ d : Nat, (Op.equalIn (d + 1) 159 (.pointer (some ⟨g, 0, none⟩)) (.pointer (some ⟨g', 0, none⟩))).run Tryz.prog w = .ok false w := fun d => by
    simp [Op.equalIn, run_underlying Tryz.underlying159, hs]
  have hf : Tryz.prog.fieldsOf 161 = #[{ name := "first", type := 159, offset := 0, embedded := false, tag := "", pkgPath := "loop.example/g00289/impl", byteOffset := 0 }, { name := "size", type := 3, offset := 1, embedded := false, tag := "", pkgPath := "loop.example/g00289/impl", byteOffset := 8 }] := by
    simp [Program.fieldsOf, Tryz.underlying161]
  have hu : Tryz.prog.underlying 161 = some (.struct (Tryz.prog.fieldsOf 161)) := by rw [hf]; exact Tryz.underlying161
  have := run_equalIn_struct (P := Tryz.prog) w 9999 161 #[.pointer (some ⟨g, 0, none⟩), .int .i64 n] #[.pointer (some ⟨g', 0, none⟩), .int .i64 n'] hu stoodKey
  unfold Op.equal Op.maxDepth keyV
  rw [this, hf]
  simp [Op.eqFields, part, hp 9998]

theorem run_none (w : World) {g : Nat} {n : Int} (hg : Cellsy w g) : ∀ (es : List MapEntry) (i : Nat), (∀ e ∈ es, ∃ g' n', e.key = keyV g' n' ∧ g ≠ g' ∧ Cellsy w g') → (Instr.findAsking 161 (keyV g n) es i).run Tryz.prog w = .ok none w
  | [], i, _ => by simp [Instr.findAsking]
  | e :: es, i, h => by
    obtain ⟨g', n', he, hne, hc⟩ := h e (by simp)
    have h1 := run_none w (n := n) hg es (i + 1) fun e he => h e (by simp [he])
    simp [Instr.findAsking, he, run_key_other w hne hg hc, h1]

theorem run_find (w : World) {g : Nat} {n : Int} (hg : Cellsy w g) (es : List MapEntry) (h : ∀ e ∈ es, ∃ g' n', e.key = keyV g' n' ∧ g ≠ g' ∧ Cellsy w g') : (Instr.findKey 161 (keyV g n) es).run Tryz.prog w = .ok none w := by
  unfold Instr.findKey
  rw [Sem.run_bind, run_underlying Tryz.underlying161 w]
  simp only [Result.andThen_ok]
  cases es with
  | nil => simp [Instr.findNow]
  | cons e es =>
    have : Instr.findNow (TypeDesc.struct #[{ name := "first", type := 159, offset := 0, embedded := false, tag := "", pkgPath := "loop.example/g00289/impl", byteOffset := 0 }, { name := "size", type := 3, offset := 1, embedded := false, tag := "", pkgPath := "loop.example/g00289/impl", byteOffset := 8 }]) (keyV g n) (e :: es) 0 = none := by simp [Instr.findNow, Instr.sameNow]
    rw [this]
    exact run_none w hg _ _ h

theorem run_checkKey (w : World) (em : Bool) (g : Nat) (n : Int) : (Instr.checkKey em 10000 161 (keyV g n)).run Tryz.prog w = .ok () w := by
  have h1 : ∀ (d : Nat) v, (Instr.checkKey em (d + 1) 159 v).run Tryz.prog w = .ok () w := fun d v => by unfold Instr.checkKey; rw [Sem.run_bind, run_underlying Tryz.underlying159 w]; simp
  have h2 : ∀ (d : Nat) v, (Instr.checkKey em (d + 1) 3 v).run Tryz.prog w = .ok () w := fun d v => by unfold Instr.checkKey; rw [Sem.run_bind, run_underlying Tryz.underlying3 w]; simp
  have h1 := h1 9998
  have h2 := h2 9998
  show (Instr.checkKey em (9999 + 1) 161 (keyV g n)).run Tryz.prog w = .ok () w
  unfold Instr.checkKey keyV
  rw [Sem.run_bind, run_underlying Tryz.underlying161 w]
  simp [part, h1, h2]

theorem zeroInt (w : World) : (zeroValue 3).run Tryz.prog w = .ok (.int .i64 0) w := by kernel_rfl

theorem run_unseen {w : World} {m : Nat} {G : List Nat} (h : MapIs w m G) (hG : ∀ g ∈ G, Cellsy w g) {g : Nat} (n : Int) (hg : Cellsy w g) (hn : g ∉ G) : (Instr.lookup 143 (.map (some m)) (keyV g n) false).run Tryz.prog w = .ok (.int .i64 0) w := by
  obtain ⟨es, c, h1, h2, h3⟩ := h
  have hf := run_find w (n := n) hg es.toList fun e he => by
    obtain ⟨g', n', e1, e2⟩ := h3 e he
    exact ⟨g', n', e1, fun e => hn (e ▸ e2), hG g' e2⟩
  unfold Instr.lookup
  rw [Sem.run_bind, run_underlying Tryz.underlying143 w]
  simp [MapKept.run_getObj_map h1, run_checkKey, hf]

/-- The world behind a store of a new key. -/
theorem run_put {w : World} {m : Nat} {G : List Nat} (h : MapIs w m G) (hG : ∀ g ∈ G, Cellsy w g) {g : Nat} (n d : Int) (hg : Cellsy w g) (hn : g ∉ G) :
    ∃ w', (Instr.mapUpdate 143 (.map (some m)) (keyV g n) (.int .i64 d)).run Tryz.prog w = .ok () w' ∧ MapIs w' m (G ++ [g]) ∧ w.grownBy w' (some m) ∧ w'.heap.size = w.heap.size := by
  have hlt := h.lt
  obtain ⟨es, c, h1, h2, h3⟩ := h
  have hf := run_find w (n := n) hg es.toList fun e he => by
    obtain ⟨g', n', e1, e2⟩ := h3 e he
    exact ⟨g', n', e1, fun e => hn (e ▸ e2), hG g' e2⟩
  refine ⟨{ w with heap := w.heap.set! m (.map (es.push { key := keyV g n, val := .int .i64 d, born := c }) (c + 1)) }, ?_, ?_, ?_, ?_⟩
  · unfold Instr.mapUpdate
    rw [Sem.run_bind, run_underlying Tryz.underlying143 w]
    simp [MapKept.run_getObj_map h1, run_checkKey, hf, MapKept.run_setObj_map _ h1]
  · refine ⟨es.push { key := keyV g n, val := .int .i64 d, born := c }, c + 1, ?_, by simp [h2], fun e he => ?_⟩
    · simp [hlt]
    · simp at he
      rcases he with he | rfl
      · obtain ⟨g', n', e1, e2⟩ := h3 e (by simpa using he)
        exact ⟨g', n', e1, by simp [e2]⟩
      · exact ⟨g, n, rfl, by simp⟩
  · refine ⟨rfl, rfl, rfl, by simp, fun k hk hne => ?_⟩
    have : m ≠ k := fun e => hne (by rw [e])
    simp [this]
  · simp

end Nd
end Go.Proofs.YtjdohfdkkppnpaaGreatDoor

