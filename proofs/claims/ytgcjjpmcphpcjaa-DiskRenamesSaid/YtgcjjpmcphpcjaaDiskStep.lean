/-
  Walks over the laws of package disk: four, step. Conditions: those in the theorems.
-/
import Derived.Test.YtgcjjpmcphpcjaaDiskAwake
import Derived.Test.YtgcjjpmcphpcjaaDiskLawMath
import Derived.Test.YtgcjjpmcphpcjaaNulls
namespace Go.Proofs.Ytgcjjpmcphpcjaa
open Go.RowKit Go.Maps Go.Sort Go.Shelf

theorem fourAny (k : Nat) (w : World) (hk : k < 256) : Calls Try.prog 32 #[.int .u8 (k : Nat)] w fun e w' => e = .returned (.string ⟨(Dm.fourL k).toArray⟩) ∧ Below w.heap.size w w' := by
  have h : k % 4 = 0 ∨ k % 4 = 1 ∨ k % 4 = 2 ∨ k % 4 = 3 := by omega
  unfold Dm.fourL
  rcases h with h | h | h | h
  all_goals
    rw [h]
    go_enter Try.func32, Try.ntmps32
    go_wp2
    go_ret
    exact ⟨rfl, (Below.refl _ w).alloc (Nat.le_refl _) _⟩
theorem four_mod (k : Nat) : Dm.fourL (k % 256) = Dm.fourL k := by unfold Dm.fourL; rw [Nat.mod_mod_of_dvd k (by decide : 4 ∣ 256)]
theorem four_size (k : Nat) : (⟨(Dm.fourL k).toArray⟩ : ByteArray).size ≤ maxLen := by
  have := Dm.isName_len (Dm.four_name k)
  show (Dm.fourL k).toArray.size ≤ maxLen
  rw [List.size_toArray]; unfold maxLen; omega
set_option maxRecDepth 100000 in
set_option maxHeartbeats 4000000 in
theorem step_in {w0 w : World} {a : Nat} {D : Dm.Disk} (h : In w0 w a D) (n : Nat) (hn : n < 65536) :
    Calls Try.prog 31 #[.pointer (some ⟨a, 0, none⟩), .int .u16 (n : Nat)] w fun e w' => e = .returned (.int .i64 ((Dm.stepM D n).1 : Nat)) ∧ In w0 w' a (Dm.stepM D n).2 := by
  have c1 : (n : Int) / 8 % 256 = ((n / 8 % 256 : Nat) : Int) := by omega
  have c2 : (n : Int) / 32 % 256 = ((n / 32 % 256 : Nat) : Int) := by omega
  have C1 := Lib.hid c1
  have C2 := Lib.hid c2
  have HI := Lib.hid h
  clear h c1 c2
  have hm : n % 8 ≤ 2 ∨ n % 8 = 3 ∨ n % 8 = 4 ∨ n % 8 = 5 ∨ n % 8 = 6 ∨ n % 8 = 7 := by omega
  rcases hm with hm | hm | hm | hm | hm | hm
  · have hv : Dm.stepM D n = Dm.append D (Dm.fourL (n / 8)) (List.replicate (n / 32 % 50) 0) := by unfold Dm.stepM; rw [if_pos hm]
    rw [hv]
    have hm3 : n % 8 = 0 ∨ n % 8 = 1 ∨ n % 8 = 2 := by omega
    clear hv hm
    rcases hm3 with hm | hm | hm
    all_goals
      go_enter Try.func31, Try.ntmps31
      go_wp2_with fail
      rw [C1.out]
      refine (fourAny _ _ (by omega)).mono ?_
      rintro e w1 ⟨rfl, hb1⟩
      rw [four_mod]
      go_wp2_with fail
      rw [C2.out]
      refine (fourAny _ _ (by omega)).mono ?_
      rintro e w2 ⟨rfl, hb2⟩
      rw [four_mod]
      have h2 := (HI.out.same hb1).same hb2
      have H2 := Lib.hid h2
      clear hb1 hb2 h2
      have hmk := make_nulls .i64 (n / 32 % 50) (by omega) w2
      rw [show ((n / 32 % 50 : Nat) : Int) = (n : Int) / 32 % 50 from by omega] at hmk
      have hcv := text_nulls (n / 32 % 50) w2.heap.size (w2.alloc (.cells (nulls (n / 32 % 50)) 5)) (heap_alloc_new w2 _)
      go_wp2_with fail
      have hap := append_in (H2.out.alloc (.cells (nulls (n / 32 % 50)) 5)) ⟨(Dm.fourL (n / 8)).toArray⟩ (nullText (n / 32 % 50)) (four_size _) (by rw [nullText_size]; unfold maxLen; omega) rfl
      rw [nullText_list] at hap
      refine hap.mono ?_
      rintro e w3 ⟨rfl, h3⟩
      have H3 := Lib.hid h3
      clear hap h3 hmk hcv
      go_wp2
      go_ret
      exact ⟨rfl, H3.out⟩
  · have hv : Dm.stepM D n = Dm.create D (Dm.fourL (n / 8)) := by unfold Dm.stepM; rw [if_neg (by omega), if_pos hm]
    rw [hv]
    clear hv
    go_enter Try.func31, Try.ntmps31
    go_wp2_with fail
    rw [C1.out]
    refine (fourAny _ _ (by omega)).mono ?_
    rintro e w1 ⟨rfl, hb1⟩
    rw [four_mod]
    go_wp2_with fail
    rw [C2.out]
    refine (fourAny _ _ (by omega)).mono ?_
    rintro e w2 ⟨rfl, hb2⟩
    rw [four_mod]
    have h2 := (HI.out.same hb1).same hb2
    have H2 := Lib.hid h2
    clear hb1 hb2 h2
    go_wp2_with fail
    refine (create_in H2.out ⟨(Dm.fourL (n / 8)).toArray⟩ (four_size _) rfl).mono ?_
    rintro e w3 ⟨rfl, h3⟩
    have H3 := Lib.hid h3
    clear h3
    go_wp2
    go_ret
    exact ⟨rfl, H3.out⟩
  · have hv : Dm.stepM D n = Dm.sync D (Dm.fourL (n / 8)) := by unfold Dm.stepM; rw [if_neg (by omega), if_neg (by omega), if_pos hm]
    rw [hv]
    clear hv
    go_enter Try.func31, Try.ntmps31
    go_wp2_with fail
    rw [C1.out]
    refine (fourAny _ _ (by omega)).mono ?_
    rintro e w1 ⟨rfl, hb1⟩
    rw [four_mod]
    go_wp2_with fail
    rw [C2.out]
    refine (fourAny _ _ (by omega)).mono ?_
    rintro e w2 ⟨rfl, hb2⟩
    rw [four_mod]
    have h2 := (HI.out.same hb1).same hb2
    have H2 := Lib.hid h2
    clear hb1 hb2 h2
    go_wp2_with fail
    refine (sync_in H2.out ⟨(Dm.fourL (n / 8)).toArray⟩ (four_size _) rfl).mono ?_
    rintro e w3 ⟨rfl, h3⟩
    have H3 := Lib.hid h3
    clear h3
    go_wp2
    go_ret
    exact ⟨rfl, H3.out⟩
  · have hv : Dm.stepM D n = Dm.rename D (Dm.fourL (n / 8)) (Dm.fourL (n / 32)) := by unfold Dm.stepM; rw [if_neg (by omega), if_neg (by omega), if_neg (by omega), if_pos hm]
    rw [hv]
    clear hv
    go_enter Try.func31, Try.ntmps31
    go_wp2_with fail
    rw [C1.out]
    refine (fourAny _ _ (by omega)).mono ?_
    rintro e w1 ⟨rfl, hb1⟩
    rw [four_mod]
    go_wp2_with fail
    rw [C2.out]
    refine (fourAny _ _ (by omega)).mono ?_
    rintro e w2 ⟨rfl, hb2⟩
    rw [four_mod]
    have h2 := (HI.out.same hb1).same hb2
    have H2 := Lib.hid h2
    clear hb1 hb2 h2
    go_wp2_with fail
    refine (rename_in H2.out ⟨(Dm.fourL (n / 8)).toArray⟩ ⟨(Dm.fourL (n / 32)).toArray⟩ (four_size _) (four_size _) rfl).mono ?_
    rintro e w3 ⟨rfl, h3⟩
    have H3 := Lib.hid h3
    clear h3
    go_wp2
    go_ret
    exact ⟨rfl, H3.out⟩
  · have hv : Dm.stepM D n = Dm.remove D (Dm.fourL (n / 8)) := by unfold Dm.stepM; rw [if_neg (by omega), if_neg (by omega), if_neg (by omega), if_neg (by omega), if_pos hm]
    rw [hv]
    clear hv
    go_enter Try.func31, Try.ntmps31
    go_wp2_with fail
    rw [C1.out]
    refine (fourAny _ _ (by omega)).mono ?_
    rintro e w1 ⟨rfl, hb1⟩
    rw [four_mod]
    go_wp2_with fail
    rw [C2.out]
    refine (fourAny _ _ (by omega)).mono ?_
    rintro e w2 ⟨rfl, hb2⟩
    rw [four_mod]
    have h2 := (HI.out.same hb1).same hb2
    have H2 := Lib.hid h2
    clear hb1 hb2 h2
    go_wp2_with fail
    refine (remove_in H2.out ⟨(Dm.fourL (n / 8)).toArray⟩ (four_size _) rfl).mono ?_
    rintro e w3 ⟨rfl, h3⟩
    have H3 := Lib.hid h3
    clear h3
    go_wp2
    go_ret
    exact ⟨rfl, H3.out⟩
  · have hv : Dm.stepM D n = (0, D) := by unfold Dm.stepM; rw [if_neg (by omega), if_neg (by omega), if_neg (by omega), if_neg (by omega), if_neg (by omega)]
    rw [hv]
    clear hv
    go_enter Try.func31, Try.ntmps31
    go_wp2_with fail
    rw [C1.out]
    refine (fourAny _ _ (by omega)).mono ?_
    rintro e w1 ⟨rfl, hb1⟩
    rw [four_mod]
    go_wp2_with fail
    rw [C2.out]
    refine (fourAny _ _ (by omega)).mono ?_
    rintro e w2 ⟨rfl, hb2⟩
    rw [four_mod]
    have h2 := (HI.out.same hb1).same hb2
    have H2 := Lib.hid h2
    clear hb1 hb2 h2
    go_wp2_with fail
    go_wp2
    go_ret
    exact ⟨rfl, H2.out⟩
end Go.Proofs.Ytgcjjpmcphpcjaa
