/-
  What the listed variables give the walk of FnExactWrite.
-/
import Derived.Test.YtjdohfdkkppnpaaGreatDoorRows
import Derived.Test.YtjdohfdkkppnpaaGreatDoorQ48
import Derived.WalkKit
import Derived.ProofKit
import Derived.LaidMore
import Derived.Lay
import Derived.OpenShut
import Derived.LaidLaws
import Derived.RowKitTokens
import Derived.Stop.LaidErr
import Derived.Stop.Joined
import Derived.Lib.LaidTab
import Derived.Lib.ItoaNum
namespace Go.Proofs.YtjdohfdkkppnpaaGreatDoor
open Go.ChangeShapes Go.WideShapes Go.ChangeAt Go.RowKit
set_option linter.unusedSimpArgs false
set_option linter.unusedVariables false

theorem own : ownKnob Tryz.prog.godebug = none := by kernel_rfl
theorem gErr : Tryz.prog.globalNamed "loop.example/g00289/impl.errNotRight" = some 3 := by kernel_rfl
theorem tErr : (Tryz.prog.globals[3]?).map (·.type) = some 59 := by kernel_rfl
theorem cellsEs : Tryz.prog.cellsOf 245 = 1 := by kernel_rfl
theorem cellsStr : Tryz.prog.cellsOf 9 = 1 := by kernel_rfl
theorem star : "*" ++ "errors.errorString" = "*errors.errorString" := by decide
theorem rowEs (u : TypeId) (h : Tryz.prog.typeName? 3 u = some "*errors.errorString") : u = 226 :=
  typeName_ptr_named (nm := "errors.errorString") (by rw [star]; kernel_rfl) (by kernel_rfl) (by decide) u (by rw [star]; exact h)

theorem gPow : Tryz.prog.globalNamed "internal/strconv.uint64pow10" = some 5 := by kernel_rfl
theorem tPow : (Tryz.prog.globals[5]?).map (·.type) = some 208 := by kernel_rfl
theorem cPow : Tryz.prog.cellsOf 208 = 20 := by kernel_rfl
theorem cU64 : Tryz.prog.cellsOf 196 = 1 := by kernel_rfl
theorem gSig : Tryz.prog.globalNamed "loop.example/g00289/impl.signs" = some 2 := by kernel_rfl
theorem tSig : (Tryz.prog.globals[2]?).map (·.type) = some 150 := by kernel_rfl
theorem cSig : Tryz.prog.cellsOf 150 = 28 := by kernel_rfl

def laidW : List (String × DataW Unit) := [("math/bits.deBruijn32tab", Rows.laid_math_bits_deBruijn32tab), ("math/bits.deBruijn64tab", Rows.laid_math_bits_deBruijn64tab), ("internal/strconv.uint64pow10", Rows.laid_internal_strconv_uint64pow10), ("unicode/utf8.acceptRanges", Rows.laid_unicode_utf8_acceptRanges), ("loop.example/g00289/impl.errNotRight", Rows.laid_loop_example_g00289_impl_errNotRight), ("loop.example/g00289/impl.signs", Rows.laid_loop_example_g00289_impl_signs), ("unicode/utf8.first", Rows.laid_unicode_utf8_first)]

theorem door_metW (os : Os) (args : Array Value) : laidMetH Tryz.prog laidW ((World.laidAll Tryz.prog os laidW).forCall (fun _ _ => 0) ⟨#[], args, []⟩).memory := by
  rw [MakeChecks.laidMetH_plain _ _ _ (by kernel_rfl)]; exact laidMet_laidAll _ (by kernel_rfl) (by kernel_rfl)

theorem pow_data : (Rows.laid_internal_strconv_uint64pow10 : DataW Unit) = Lib.tabData .u64 Lib.pow10Tab := by kernel_rfl
def signTab : List (List UInt8) := (List.range 28).map fun (k : Nat) => Ty.signL (k : Int)
theorem sign_data : (Rows.laid_loop_example_g00289_impl_signs : DataW Unit) = .agg (signTab.map fun s => .lit (.string s)) := by kernel_rfl

/-- An array of texts that reads as some texts holds them, cell for cell. -/
theorem texts_of_tab {w : World} {sp : Nat → Bool} {held : Bool} {fuel : Nat} {t e : TypeId} {n : Nat} {cs : List Value} {ss : List (List UInt8)} {p : List MemPlace}
    (ht : Tryz.prog.underlying t = some (.array n e)) (he : Tryz.prog.underlying e = some .string) (hce : Tryz.prog.cellsOf e = 1) (hct : Tryz.prog.cellsOf t = n)
    (h : DataW.trod (fun _ => ()) Tryz.prog w 0 sp held fuel t cs = some (.agg (ss.map fun s => .lit (.string s)), p)) (k : Nat) (s : List UInt8) (hk : ss[k]? = some s) : cs[k]? = some (.string ⟨s.toArray⟩) := by
  cases fuel with
  | zero => simp [DataW.trod] at h
  | succ fuel =>
    simp only [DataW.trod, ht, hce, hct, Nat.mul_one] at h
    split at h
    · rename_i hl
      obtain ⟨xs, hm, hx⟩ := Option.map_eq_some_iff.1 h
      have hxs : xs.map (·.1) = ss.map fun s => (DataW.lit (.string s) : DataW Unit) := by
        have := congrArg Prod.fst hx
        simpa using this
      have hxl : xs.length = n := by simpa using Lib.mapM_length hm
      have hsl : ss.length = n := by
        have := congrArg List.length hxs
        simp at this
        omega
      have hi : k < n := by have := (List.getElem?_eq_some_iff.1 hk).1; omega
      obtain ⟨b, hb, hf⟩ := Lib.mapM_at hm k k (by simp [hi])
      obtain ⟨z, hc, rfl, _⟩ := DataW.trod_string he hf
      have h1 : cs[k]? = some (.string z) := by
        have := congrArg (·[0]?) hc
        simpa [List.getElem?_take, List.getElem?_drop] using this
      have h2 : (xs.map (·.1))[k]? = some (DataW.lit (.string z.data.toList) : DataW Unit) := by simp [hb]
      rw [hxs, List.getElem?_map, hk] at h2
      simp only [Option.map_some, Option.some.injEq, DataW.lit.injEq, Lit.string.injEq] at h2
      rw [h1, h2]
    · cases h

theorem sgn_of_head {W : World} {rest : List (String × DataW Unit)} (h : laidMet Tryz.prog (("loop.example/g00289/impl.signs", .agg (signTab.map fun s => .lit (.string s))) :: rest) W) : Ty.Sgn W := by
  obtain ⟨ps, ⟨g', t', cs, fuel, p, q, hg', ht', hvar, hd, _, _⟩, _⟩ := h
  obtain rfl := Option.some.inj (gSig.symm.trans hg')
  obtain rfl := Option.some.inj (tSig.symm.trans ht')
  intro k hk
  have hs : signTab[k]? = some (Ty.signL (k : Int)) := by unfold signTab; simp [hk]
  have := texts_of_tab Tryz.underlying150 Tryz.underlying9 cellsStr cSig hd k _ hs
  have hc := World.var?_cell gSig hvar k
  rw [hc]
  simpa using this

theorem of_laidW {W : World} (h : laidMetH Tryz.prog laidW W) : Ty.Gl W := by
  rw [MakeChecks.laidMetH_plain _ _ _ (by kernel_rfl)] at h
  unfold laidW at h
  rw [pow_data, sign_data] at h
  have h3 := h.tail.tail
  have h5 := h3.tail.tail
  obtain ⟨a, s, hv, _⟩ := laid_sentinel h5 gErr tErr Tryz.underlying59 rowEs Tryz.underlying226 Tryz.underlying245 rfl rfl Tryz.underlying9 cellsEs cellsStr
  exact ⟨⟨a, by simpa using World.var?_cell gErr hv 0⟩, sgn_of_head h5.tail, Lib.tabIs_of_head gPow tPow Tryz.underlying208 Tryz.underlying196 cU64 cPow h3⟩

end Go.Proofs.YtjdohfdkkppnpaaGreatDoor

