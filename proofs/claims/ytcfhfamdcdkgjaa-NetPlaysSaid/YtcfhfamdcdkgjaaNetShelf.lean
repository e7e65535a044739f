/-
  The library's maps.Clone at this program: the contract, laid at this translation's numbers (an instance, no walk). No condition.
-/
import Derived.Shelf.SlMaps.Clone
import Derived.Test.YtcfhfamdcdkgjaaNetWalkA
namespace Go.Proofs.Ytcfhfamdcdkgjaa
open Go.RowKit Go.Maps Go.Shelf

def laysMapClone_ren : Go.Shelf.Ren := ⟨fun | 5 => 30 | 7 => 40 | n => n, fun | 23 => 48 | 25 => 55 | 3 => 57 | 4 => 4 | 20 => 20 | n => n, fun | n => n⟩
theorem laysMapClone : Go.Proofs.SlLaysW.n5 Try.prog laysMapClone_ren := {
  mixed := by kernel_rfl
  f5 := ⟨Try.f30.name, by decide, Try.func30.trans (congrArg some (by kernel_rfl))⟩
  f7 := Try.func40.trans (congrArg some (by kernel_rfl))
  t4 := Try.underlying4
  a4 := Try.isAgg4
  z4 := Try.sizeOf4
  v4 := Try.zeroValue4
  t20 := Try.underlying20
  a20 := Try.isAgg20
  z20 := Try.sizeOf20
  v20 := Try.zeroValue20
  t23 := Try.underlying48
  a23 := Try.isAgg48
  z23 := Try.sizeOf48
  v23 := Try.zeroValue48 }
/-- A net's ways, cloned: the same in a map of its own. -/
theorem clone_cut {w : World} {mv : Value} {cut : Int → Int → Bool} {n : Nat} (h : CutAt w mv cut n) :
    Calls Try.prog 30 #[mv] w fun e w' => ∃ mv', e = .returned mv' ∧ CutAt w' mv' cut n ∧ (∀ k ∈ mapBlk mv', w.heap.size ≤ k) ∧ Below w.heap.size w w' ∧ (mv' = .map none ∨ ∃ m, mv' = .map (some m)) := by
  rcases h with ⟨rfl, h⟩ | ⟨m, D, rfl, h1, h2⟩
  · exact (AnyW.maps_Clone_nil laysMapClone w).mono fun e w' ⟨he, hw⟩ => ⟨_, he, .inl ⟨rfl, h⟩, (fun k hk => nomatch hk), by rw [hw]; exact Below.refl _ _, .inl rfl⟩
  · exact (AnyW.maps_Clone_owns laysMapClone 55 unitElem m n D w h1).mono fun e w' ⟨he, h3, _, hb⟩ => ⟨_, he, .inr ⟨_, D, rfl, h3, h2⟩, (fun k hk => by simp [mapBlk] at hk; omega), hb, .inr ⟨_, rfl⟩⟩
end Go.Proofs.Ytcfhfamdcdkgjaa
