/-
  What ManifestKept's row lists of the library's variables: strconv's table of powers of ten; so every number of a state is spelt. Conditions: those in the theorems.
-/
import Derived.Test.YtbhjpkejdkfenaaGreatDoorRows
import Derived.Test.YtbhjpkejdkfenaaGreatDoorManTurned
import Derived.Lib.LaidTab
import Derived.Lib.SmallJoins
import Derived.Stop.LaidErr
set_option linter.unusedSimpArgs false
set_option linter.unusedVariables false
namespace Go.Proofs.YtbhjpkejdkfenaaGreatDoor
open Go.RowKit Go.Shelf
open Mf (File State Edit)
theorem pow_datum : (Rows.laid_internal_strconv_uint64pow10 : DataW Unit) = Lib.tabData .u64 Lib.pow10Tab := by rfl
/-- The table of powers of ten, of the row's condition. -/
theorem pow_of {W : World} (h : laidMet Tryz.prog Rows.manifestKeptRow.laid W) : Lib.TabIs Tryz.prog W "internal/strconv.uint64pow10" .u64 Lib.pow10Tab := by
  have h2 := laidMet.tail (laidMet.tail h)
  rw [pow_datum] at h2
  exact Lib.tabIs_of_head (g := 0) (t := 198) (e := 161) (n := 20) (by kernel_rfl) (by kernel_rfl) Tryz.underlying198 Tryz.underlying161 (by kernel_rfl) (by kernel_rfl) h2
/-- All numbers of a sane state are spelt. -/
theorem spelt_sane {W : World} (h : Lib.TabIs Tryz.prog W "internal/strconv.uint64pow10" .u64 Lib.pow10Tab) {s : State} (hs : Sane s) : SpeltS W s := by
  have hw : ∀ n : Int, I64 n → Spelt W n := fun n hn => spelt_tab (fun W' hb => Go.Joins.var_stays (g := 0) (by kernel_rfl) h hb (Nat.le_refl _)) (by unfold I64 at hn; omega) (by unfold I64 at hn; omega)
  refine ⟨hw _ hs.next, hw _ hs.log, hw _ ⟨by omega, by have := hs.few; omega⟩, fun f hf => ?_⟩
  have := hs.files f hf
  exact ⟨hw _ this.1, hw _ this.2.1, hw _ this.2.2.1⟩
end Go.Proofs.YtbhjpkejdkfenaaGreatDoor
