/-
  Walks over the reference of package sum: the document's own answers, four, Frame and Next. No conditions but those in the theorems.
-/
import Derived.Test.YtkaanffclpbiiaaRows
import Derived.Test.YtkaanffclpbiiaaSumFrames
import Derived.Test.YtkaanffclpbiiaaSumRefA
import Derived.Test.YtkaanffclpbiiaaSumNoughts
import Derived.WalkKit
import Derived.WalkSpells
import Derived.WalkLawsBesides
import Derived.Handy
import Derived.Lib.Hide
import Derived.Deep.QuietTactic
import Derived.BigQuiet
import Derived.Deep.RegionHeld3
import Derived.Deep.MidRow
import Derived.Lib.ConvBytes
import Derived.Lib.SlBytesRow
namespace Go.Proofs.Ytkaanffclpbiiaa
open Go.RowKit

theorem owns_ge {w : World} {base e size n : Nat} {v : Value} {xs : List Value} (h : w.ownsRow base e size v n xs) : ∀ k, v.ownBlock = some k → base ≤ k := by
  obtain ⟨-, h | ⟨g, cap, cur, hv, hg, -⟩⟩ := h
  · intro k hk; rw [h.1] at hk; cases hk
  · intro k hk; rw [hv] at hk; cases hk; exact hg

/-- j bytes off a number. -/
def shifted : Nat → Nat → Nat
  | 0, n => n
  | j + 1, n => shifted j n / 256
theorem shifted_le : ∀ (j n : Nat), shifted j n ≤ n
  | 0, _ => Nat.le_refl _
  | j + 1, n => Nat.le_trans (Nat.div_le_self _ _) (shifted_le j n)
def fourCells (j n : Nat) : List Value := ((Sm.four n).take j).map fun b => Value.int .u8 (b.toNat : Int)
theorem fourCells_len (j n : Nat) (hj : j ≤ 4) : (fourCells j n).length = j := by
  unfold fourCells; rw [List.length_map, List.length_take, Sm.four_len]; omega
theorem fourCells_succ (j n : Nat) (hj : j < 4) : fourCells j n ++ [Value.int .u8 ((shifted j n : Int) % 256)] = fourCells (j + 1) n := by
  obtain rfl | rfl | rfl | rfl : j = 0 ∨ j = 1 ∨ j = 2 ∨ j = 3 := by omega
  all_goals simp [fourCells, Sm.four, shifted]
  all_goals omega

theorem owns_bytes {w : World} {base e n : Nat} {v : Value} {l : List UInt8} (hn : 0 < n) (hl : l.length = n) (h : w.ownsRow base e 1 v n (l.map fun b => Value.int .u8 (b.toNat : Int))) :
    ∃ g cap, v = .slice (some ⟨g, 0, none⟩) n cap ∧ BytesAt w g l := by
  have h0 := h
  obtain ⟨-, h | ⟨g, cap, cur, hv, hg, -⟩⟩ := h
  · omega
  · subst hv
    refine ⟨g, cap, rfl, fun j hj => ?_⟩
    rw [h0.cellAt j (by omega)]
    simp [hj]

set_option maxHeartbeats 1000000 in
theorem refFour_any (n : Nat) (w : World) (hn : n < 4294967296) :
    Calls Try.prog 30 #[.int .u32 (n : Int)] w fun e w' => e = .returned (.string ⟨(Sm.four n).toArray⟩) ∧ Below w.heap.size w w' := by
  obtain ⟨i0, hi, hz0, hz1, hz2⟩ := info_parts info5
  go_enter Try.func30, Try.ntmps30
  go_wp2
  go_loopw [0, 3, 4] (fun m v i wr => ∃ j : Nat, j ≤ 4 ∧ i = .int .i64 j ∧ m = .int .u32 (shifted j n : Nat) ∧ wr.ownsRow w.heap.size 5 1 v j (fourCells j n) ∧ Below w.heap.size w wr) (fun _ _ i _ => 4 - (intOf i).toNat)
  case atStart => exact ⟨0, Nat.zero_le _, rfl, rfl, World.ownsRow_nil _ _ _ _, Below.refl _ _⟩
  case round =>
    obtain ⟨j, hj, rfl, rfl, hown, hbe⟩ := hrel
    have hle := shifted_le j n
    by_cases hlt : j < 4
    · have HS := Lib.hid (fourCells_succ j n hlt)
      go_wp2_with (at_builtin; refine wpList_append_own _ rfl _ _ 25 rfl w.heap.size 5 i0 (.int .u8 0) 1 1 Try.underlying25 hi hz0 hz1 hz2 rfl (by decide) _ _ _ rfl (hown.alloc _) ⟨_, 0, none⟩ 1 1 [.int .u8 ((shifted j n : Int) % 256)] rfl rfl ?c1 ?c2 ?c3 ?c4 ?c5 ?_)
      case c1 =>
        intro j2 u hj2
        match j2, hj2 with
        | 0, hj2 => simp at hj2; subst hj2; simp [Addr.add]
      case c2 => intro u hu; simp at hu; subst hu; rfl
      case c3 => unfold maxLen; omega
      case c4 => omega
      case c5 => have := hbe.size; simp; omega
      intro v' w1 hown' hgrow _
      rw [HS.out] at hown'
      have hb1 : Below w.heap.size w w1 := (hbe.alloc hbe.size _).grown hgrow (by have := hbe.size; simp; omega) (owns_ge hown)
      clear hown hgrow
      go_wp2
      go_roundw
      case rel => exact ⟨j + 1, by omega, by go_num, int_eq (by show ((shifted j n : Nat) : Int) / 256 = ((shifted j n / 256 : Nat) : Int); omega), hown', hb1⟩
      case measure => simp [intOf]; omega
    · obtain rfl : j = 4 := by omega
      obtain ⟨g, cap, rfl, hB⟩ := owns_bytes (by omega) (by rw [List.length_take, Sm.four_len]; rfl) hown
      have hcv := back_text hB 4 cap (by rw [List.length_take, Sm.four_len]; rfl)
      have e4 : (Sm.four n).take 4 = Sm.four n := rfl
      rw [e4] at hcv
      clear hown hB e4
      go_wp2
      go_ret
      exact ⟨rfl, hbe⟩

set_option maxHeartbeats 400000 in
theorem refFrame_long (s : ByteArray) (w : World) (hl : 65536 < s.size) :
    Calls Try.prog 19 #[.string s] w fun e w' => e = .returned (.tuple #[.string ⟨#[]⟩, .int .i64 3]) ∧ w = w' := by
  have h1 : (65536 : Int) < (s.size : Int) := by omega
  go_enter Try.func19, Try.ntmps19
  go_wp2
  go_ret2
  exact ⟨rfl, rfl⟩

set_option maxHeartbeats 400000 in
theorem refFrame_short (s : ByteArray) (w : World) (hl : ¬ 65536 < s.size) :
    Calls Try.prog 19 #[.string s] w fun e w' => e = .returned (.tuple #[.string ⟨(Sm.frame s.data.toList).toArray⟩, .int .i64 0]) ∧ Below w.heap.size w w' := by
  have h1 : ¬ (65536 : Int) < (s.size : Int) := by omega
  have hadd0 : ∀ (n : Nat) (W : World), (Op.stringOp .add ⟨(Sm.four n).toArray⟩ s).run Try.prog W = .ok (.string ⟨(Sm.four n ++ s.data.toList).toArray⟩) W := fun n W => by
    have h := run_string_add_lists (P := Try.prog) W (Sm.four n) s.data.toList (by rw [Sm.four_len]; omega) (by simp; omega)
    rw [mk_list] at h; exact h
  have hadd1 : ∀ (n m : Nat) (W : World), (Op.stringOp .add ⟨(Sm.four n).toArray⟩ ⟨(Sm.four m).toArray⟩).run Try.prog W = .ok (.string ⟨(Sm.four n ++ Sm.four m).toArray⟩) W := fun n m W => run_string_add_lists W _ _ (by rw [Sm.four_len]; omega) (by rw [Sm.four_len]; omega)
  have hadd2 : ∀ (n m : Nat) (W : World), (Op.stringOp .add ⟨(Sm.four n ++ Sm.four m).toArray⟩ s).run Try.prog W = .ok (.string ⟨(Sm.four n ++ Sm.four m ++ s.data.toList).toArray⟩) W := fun n m W => by
    have h := run_string_add_lists (P := Try.prog) W (Sm.four n ++ Sm.four m) s.data.toList (by rw [List.length_append, Sm.four_len, Sm.four_len]; omega) (by simp; omega)
    rw [mk_list] at h; exact h
  have H0 := Lib.hid hadd0
  have H1 := Lib.hid hadd1
  have H2 := Lib.hid hadd2
  clear hadd0 hadd1 hadd2
  go_enter Try.func19, Try.ntmps19
  go_wp2_with fail
  refine (refFour_any s.size _ (by omega)).mono ?_
  rintro e w1 ⟨rfl, hb1⟩
  have h0 := H0.out
  go_wp2_with fail
  refine (refCrc_any _ _ (by rw [size_mk, List.length_append, Sm.four_len]; unfold maxLen; simp; omega)).mono ?_
  rintro e w2 ⟨rfl, rfl⟩
  rw [show Sm.crc (⟨(Sm.four s.size ++ s.data.toList).toArray⟩ : ByteArray).data.toList = Sm.more (Sm.crc (Sm.four s.size)) s.data.toList from by rw [Sm.more_crc]]
  clear h0
  go_wp2_with fail
  refine (refFour_any _ _ (Sm.more_lt _ _)).mono ?_
  rintro e w4 ⟨rfl, hb4⟩
  have h1 := H1.out
  have h2 := H2.out
  go_wp2
  go_ret2
  exact ⟨by show Ending.returned (.tuple #[.string ⟨(Sm.four _ ++ (Sm.four _ ++ _)).toArray⟩, _]) = _; rw [← List.append_assoc, show s.size = s.data.toList.length from by simp]; rfl, btr hb1 hb4⟩

end Go.Proofs.Ytkaanffclpbiiaa
