/-
  PROVED: the law MemValues answers true for every input, and leaves its arguments as they were: A table of other values than texts keeps them, whatever they are; what was handed over is not the table's. No condition.
-/
import Derived.SizedLaws
import Derived.Test.YthioogncbhkaoaaRows
import Derived.Test.YthioogncbhkaoaaMemValues
import Derived.Test.YthioogncbhkaoaaLawKit
import Derived.Test.YthioogncbhkaoaaMemBytes
namespace Go.Proofs.Ythioogncbhkaoaa
open Go.ChangeShapes Go.WideShapes Go.ChangeAt Go.RowKit
open Go.ChangeMaps (open_string shut_string)

set_option maxRecDepth 100000 in
theorem memValues_lifted (os : Os) (started : os.Started) (H : Type) (enc : TypeId × Value → H) :
    ReturnsInHanded {} Try.checked os 4 .any (Rows.memValuesSpec.pre6 enc Try.prog Try.f4 Rows.memValuesRow.domain false) (Rows.memValuesSpec.post enc Try.prog Try.f4 false true false false) := by
  refine returnsInHanded_of_change_sized (C := Try.checked) own started (by kernel_rfl) Try.func4
    (ChangeSpec.witness6 (enc := enc) (C := Try.checked) false ⟨#[], #[.slice none 0 0, .slice none 0 0], []⟩ 8 (by kernel_rfl) (by kernel_rfl) (by kernel_rfl) (by kernel_rfl)) ?_
  intro W base args ds gs before hval0 hW hcnd hsz0 _
  have hsz : (DataW.weightsEach Try.prog (Try.f4.params.toList ++ Rows.memValuesSpec.plain.varTypes Try.prog) (ds ++ gs)).all (· ≤ reachBytes) = true := hsz0
  have hval : ∀ (j : Nat) t v, Try.f4.params[j]? = some t → args[j]? = some v → Value.okWide Try.prog W .any base t v := hval0
  have hW' := hW
  obtain ⟨p, q, hA0, hV, rfl, hfz, hnd⟩ := hW
  have hA : DataW.TrodAll enc Try.prog W 0 (fun _ => true) true Try.f4.params.toList args.toList ds p := hA0
  rw [Try.params4] at hA hval hsz
  obtain ⟨v0, vs0, d0, ds0, p0, q0, hargs, rfl, rfl, h0, r0⟩ := trodAll_cons hA
  obtain ⟨v1, vs1, d1, ds1, p1, q1, rfl, rfl, rfl, h1, r1⟩ := trodAll_cons r0
  obtain ⟨rfl, rfl, rfl⟩ := trodAll_nil r1
  obtain rfl : args = #[v0, v1] := by cases args; simp_all
  obtain ⟨rfl, rfl⟩ := trodVars_none hV
  obtain ⟨pa0, cap0, xs0, rfl, hl0⟩ := open_texts (hval 0 53 v0 rfl rfl) h0
  obtain ⟨pa1, n1, cap1, s1, rfl, hsl1, hcv1⟩ := open_bytesV (hval 1 54 v1 rfl rfl) h1
  have hz1 : n1 ≤ 140737488355328 := by
    rcases hsl1 with h0 | ⟨elems, spare, hd, hle⟩
    · omega
    · have h := sized_slice hsz (j := 1) (t := 54) (e := 5) (elems := elems) (spare := spare) rfl (by rw [hd]; rfl) Try.underlying54
      have h2 := reachBytes_lt
      rw [show Try.prog.bytesOf 5 = 1 by kernel_rfl] at h
      omega
  clear hA0 hval0 hsz hsz0
  refine (memValues_any pa0 cap0 xs0 pa1 n1 cap1 s1 W hl0 hz1 hcv1).mono fun e W' ⟨he, hb⟩ => ?_
  exact ⟨_, he, law_post hW' rfl (by kernel_rfl) rfl rfl hb⟩

theorem memValues_holds : Rows.MemValuesSaid :=
  OpenClaim.holds_of_wide 4 Try.f4 rfl rfl rfl rfl rfl rfl rfl ⟨rfl, rfl, rfl, rfl, rfl⟩ rfl rfl rfl rfl rfl (by kernel_rfl) Try.func4 (by kernel_rfl)
    (of_decide_eq_true (by kernel_rfl)) (by unfold Func.isWrapper; first | (rw [if_pos (by decide +kernel)]; kernel_rfl) | (rw [if_neg (by decide +kernel)]; exact ⟨rfl, rfl⟩))
    (fun os started H enc _ => memValues_lifted os started H enc)
end Go.Proofs.Ythioogncbhkaoaa
