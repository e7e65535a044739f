/-
  PROVED: the law MemSorted answers true for every input, and leaves its arguments as they were: What is gone over is sorted, each key once, each with what was set last; Floor tells a key that is there, and none lies between. No condition.
-/
import Derived.SizedLaws
import Derived.Test.YtnomjhfppmhmeaaRows
import Derived.Test.YtnomjhfppmhmeaaMemSorted
import Derived.Test.YtnomjhfppmhmeaaLawKit
import Derived.Test.YtnomjhfppmhmeaaMemPairs
namespace Go.Proofs.Ytnomjhfppmhmeaa
open Go.ChangeShapes Go.WideShapes Go.ChangeAt Go.RowKit
open Go.ChangeMaps (open_string shut_string)

set_option maxRecDepth 100000 in
theorem memSorted_lifted (os : Os) (started : os.Started) (H : Type) (enc : TypeId × Value → H) :
    ReturnsInHanded {} Try.checked os 6 .any (Rows.memSortedSpec.pre6 enc Try.prog Try.f6 Rows.memSortedRow.domain false) (Rows.memSortedSpec.post enc Try.prog Try.f6 false true false false) := by
  refine returnsInHanded_of_change_sized (C := Try.checked) own started (by kernel_rfl) Try.func6
    (ChangeSpec.witness6 (enc := enc) (C := Try.checked) false ⟨#[], #[.slice none 0 0, .string ⟨#[]⟩], []⟩ 8 (by kernel_rfl) (by kernel_rfl) (by kernel_rfl) (by kernel_rfl)) ?_
  intro W base args ds gs before hval0 hW hcnd hsz0 _
  have hsz : (DataW.weightsEach Try.prog (Try.f6.params.toList ++ Rows.memSortedSpec.plain.varTypes Try.prog) (ds ++ gs)).all (· ≤ reachBytes) = true := hsz0
  have hval : ∀ (j : Nat) t v, Try.f6.params[j]? = some t → args[j]? = some v → Value.okWide Try.prog W .any base t v := hval0
  have hW' := hW
  obtain ⟨p, q, hA0, hV, rfl, hfz, hnd⟩ := hW
  have hA : DataW.TrodAll enc Try.prog W 0 (fun _ => true) true Try.f6.params.toList args.toList ds p := hA0
  rw [Try.params6] at hA hval hsz
  obtain ⟨v0, vs0, d0, ds0, p0, q0, hargs, rfl, rfl, h0, r0⟩ := trodAll_cons hA
  obtain ⟨v1, vs1, d1, ds1, p1, q1, rfl, rfl, rfl, h1, r1⟩ := trodAll_cons r0
  obtain ⟨rfl, rfl, rfl⟩ := trodAll_nil r1
  obtain rfl : args = #[v0, v1] := by cases args; simp_all
  obtain ⟨rfl, rfl⟩ := trodVars_none hV
  obtain ⟨pa0, cap0, xs0, rfl, hl0⟩ := open_pairs (hval 0 42 v0 rfl rfl) h0
  obtain ⟨m1, rfl, rfl, rfl, m1w⟩ := open_string Try.underlying9 (hval 1 9 v1 rfl rfl) h1
  have hz1 : m1.size ≤ 140737488355328 := by
    have h := sized_string hsz (j := 1) (t := 9) rfl rfl
    have h2 := reachBytes_lt
    have h3 : m1.data.toList.length = m1.size := by simp
    omega
  clear hA0 hval0 hsz hsz0
  refine (memSorted_any pa0 cap0 xs0 m1 W hl0 hz1).mono fun e W' ⟨he, hb⟩ => ?_
  exact ⟨_, he, law_post hW' rfl (by kernel_rfl) rfl rfl hb⟩

theorem memSorted_holds : Rows.MemSortedSaid :=
  OpenClaim.holds_of_wide 6 Try.f6 rfl rfl rfl rfl rfl rfl rfl ⟨rfl, rfl, rfl, rfl, rfl⟩ rfl rfl rfl rfl rfl (by kernel_rfl) Try.func6 (by kernel_rfl)
    (of_decide_eq_true (by kernel_rfl)) (by unfold Func.isWrapper; first | (rw [if_pos (by decide +kernel)]; kernel_rfl) | (rw [if_neg (by decide +kernel)]; exact ⟨rfl, rfl⟩))
    (fun os started H enc _ => memSorted_lifted os started H enc)
end Go.Proofs.Ytnomjhfppmhmeaa
