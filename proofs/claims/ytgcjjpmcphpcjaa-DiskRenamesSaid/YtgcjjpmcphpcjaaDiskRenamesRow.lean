/-
  PROVED: the law DiskRenames answers true for every input, and leaves its arguments as they were: a file that is renamed has its bytes under the other name, all others stay; to itself nothing changes; there and back all is as it was. No condition.
-/
import Derived.Test.YtgcjjpmcphpcjaaRows
import Derived.Test.YtgcjjpmcphpcjaaDiskRenames
import Derived.Test.YtgcjjpmcphpcjaaDiskCountsRow
namespace Go.Proofs.Ytgcjjpmcphpcjaa
open Go.ChangeShapes Go.WideShapes Go.ChangeAt Go.RowKit

theorem renames_any (p : Option Addr) (cap : Nat) (ns : List Nat) (i j : Nat) (w : World) (hns : Nums w p ns) (hi : i < 256) (hj : j < 256) :
    Calls Try.prog 8 #[.slice p ns.length cap, .int .u8 (i : Nat), .int .u8 (j : Nat)] w fun e w' => e = .returned (.bool true) ∧ Below w.heap.size w w' := by
  by_cases hl : 300 < ns.length
  · exact renames_long p cap ns i j w hl
  · exact renames_short p cap ns i j w hl hns hi hj

set_option maxRecDepth 100000 in
theorem diskRenames_lifted (os : Os) (started : os.Started) (H : Type) (enc : TypeId × Value → H) :
    ReturnsInHanded {} Try.checked os 8 .any (Rows.diskRenamesSpec.pre6 enc Try.prog Try.f8 Rows.diskRenamesRow.domain false) (Rows.diskRenamesSpec.post enc Try.prog Try.f8 false true false false) := by
  refine returnsInHanded_of_change (C := Try.checked) own started (by kernel_rfl) Try.func8
    (ChangeSpec.witness6 (enc := enc) (C := Try.checked) false ⟨#[], #[.slice none 0 0, .int .u8 0, .int .u8 0], []⟩ 8 (by kernel_rfl) (by kernel_rfl) (by kernel_rfl) (by kernel_rfl)) ?_
  intro W base args ds gs before hval0 hW hcnd _
  have hval : ∀ (j : Nat) t v, Try.f8.params[j]? = some t → args[j]? = some v → Value.okWide Try.prog W .any base t v := hval0
  have hW' := hW
  obtain ⟨p, q, hA0, hV, rfl, hfz, hnd⟩ := hW
  have hA : DataW.TrodAll enc Try.prog W 0 (fun _ => true) true Try.f8.params.toList args.toList ds p := hA0
  rw [Try.params8] at hA hval
  obtain ⟨v0, vs0, d0, ds0, p0, q0, hargs, rfl, rfl, h0, r0⟩ := trodAll_cons hA
  obtain ⟨v1, vs1, d1, ds1, p1, q1, rfl, rfl, rfl, h1, r1⟩ := trodAll_cons r0
  obtain ⟨v2, vs2, d2, ds2, p2, q2, rfl, rfl, rfl, h2, r2⟩ := trodAll_cons r1
  obtain ⟨rfl, rfl, rfl⟩ := trodAll_nil r2
  obtain rfl : args = #[v0, v1, v2] := by cases args; simp_all
  obtain ⟨rfl, rfl⟩ := trodVars_none hV
  obtain ⟨pa, cap, ns, rfl, hl⟩ := open_nums (hval 0 51 v0 rfl rfl) h0
  obtain ⟨m1, rfl, rfl, rfl, w1⟩ := open_int Try.underlying5 (hval 1 5 v1 rfl rfl) h1
  obtain ⟨m2, rfl, rfl, rfl, w2⟩ := open_int Try.underlying5 (hval 2 5 v2 rfl rfl) h2
  have b1 : 0 ≤ m1 ∧ m1 ≤ 255 := by simpa [Lit.wf, IntKind.min, IntKind.max, IntKind.signed, IntKind.bits] using w1
  have b2 : 0 ≤ m2 ∧ m2 ≤ 255 := by simpa [Lit.wf, IntKind.min, IntKind.max, IntKind.signed, IntKind.bits] using w2
  obtain ⟨k1, rfl⟩ : ∃ k : Nat, m1 = (k : Nat) := ⟨m1.toNat, by omega⟩
  obtain ⟨k2, rfl⟩ : ∃ k : Nat, m2 = (k : Nat) := ⟨m2.toNat, by omega⟩
  clear hA0 hval0
  refine (renames_any pa cap ns k1 k2 W hl (by omega) (by omega)).mono fun e W' ⟨he, hb⟩ => ?_
  exact ⟨_, he, law_post hW' rfl (by kernel_rfl) rfl rfl hb⟩

theorem diskRenames_holds : Rows.DiskRenamesSaid :=
  OpenClaim.holds_of_wide 8 Try.f8 rfl rfl rfl rfl rfl rfl rfl ⟨rfl, rfl, rfl, rfl, rfl⟩ rfl rfl rfl rfl rfl (by kernel_rfl) Try.func8 (by kernel_rfl)
    (of_decide_eq_true (by kernel_rfl)) (by unfold Func.isWrapper; first | (rw [if_pos (by decide +kernel)]; kernel_rfl) | (rw [if_neg (by decide +kernel)]; exact ⟨rfl, rfl⟩))
    (fun os started H enc _ => diskRenames_lifted os started H enc)
end Go.Proofs.Ytgcjjpmcphpcjaa
