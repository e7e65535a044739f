/-
  Walks over package disk: Used. Conditions: those in the theorems.
-/
import Derived.Test.YtoecbkndbcblpaaGreatDoorDiskWalkF
import Derived.Maps.RangeWalk
namespace Go.Proofs.YtoecbkndbcblpaaGreatDoor
open Go.RowKit Go.Maps

/-- How many bytes the files have together that have come. -/
def cameLen (T : List (List UInt8 × Ent)) (left : Lit → Bool) : Nat := (T.map fun p => if left (.string p.1) then 0 else p.2.file.data.length).sum
theorem came_none {T : List (List UInt8 × Ent)} {left : Lit → Bool} (h : ∀ p ∈ T, left (.string p.1) = true) : cameLen T left = 0 := by
  unfold cameLen
  induction T with
  | nil => rfl
  | cons p r ih =>
    simp only [List.map_cons, List.sum_cons, h p (by simp), if_true, Nat.zero_add]
    exact ih fun q hq => h q (by simp [hq])
theorem came_all {T : List (List UInt8 × Ent)} {left : Lit → Bool} (h : ∀ k, left k = false) : cameLen T left = Dm.used (filesOf T) := by
  unfold cameLen Dm.used filesOf
  rw [List.map_map]
  congr 1
  refine List.map_congr_left fun p _ => ?_
  simp [h]
theorem came_other {T : List (List UInt8 × Ent)} {left : Lit → Bool} {n : List UInt8} (h : ∀ p ∈ T, p.1 ≠ n) : cameLen T (fun z => left z && !z.sameKey (.string n)) = cameLen T left := by
  unfold cameLen
  congr 1
  refine List.map_congr_left fun p hp => ?_
  have e : (Lit.string p.1).sameKey (.string n) = false := by rw [sameS, beq_eq_false_iff_ne.2 (h p hp)]
  simp [e]
theorem came_step {T : List (List UInt8 × Ent)} {left : Lit → Bool} {n : List UInt8} {x : Ent} (hs : Dm.Sorted T) (hx : Dm.get T n = some x) (hl : left (.string n) = true) :
    cameLen T (fun z => left z && !z.sameKey (.string n)) = cameLen T left + x.file.data.length := by
  induction T with
  | nil => cases hx
  | cons p r ih =>
    obtain ⟨h1, h2⟩ := List.pairwise_cons.1 hs
    unfold Dm.get at hx
    by_cases e : p.1 = n
    · rw [if_pos e] at hx; cases hx
      have hr : cameLen r (fun z => left z && !z.sameKey (.string n)) = cameLen r left := came_other fun q hq => by have := Dm.before_ne (h1 q hq); rw [e] at this; exact Ne.symm this
      unfold cameLen at hr ⊢
      simp only [List.map_cons, List.sum_cons, sameS, e, hl]
      simp only [sameS] at hr
      rw [hr]; simp; omega
    · rw [if_neg e] at hx
      have hr := ih h2 hx
      unfold cameLen at hr ⊢
      simp only [List.map_cons, List.sum_cons, sameS, beq_eq_false_iff_ne.2 e]
      simp only [sameS] at hr
      rw [hr]; simp; omega
theorem came_le {T : List (List UInt8 × Ent)} (left : Lit → Bool) : cameLen T left ≤ Dm.used (filesOf T) := by
  unfold cameLen Dm.used filesOf
  rw [List.map_map]
  induction T with
  | nil => simp
  | cons p r ih =>
    simp only [List.map_cons, List.sum_cons, Function.comp] at ih ⊢
    split <;> omega

theorem Used_nil (w : World) : Calls Tryz.prog 47 #[.pointer none] w fun e w' => e = .returned (.int .i64 0) ∧ w = w' := by
  go_enter Tryz.func47, Tryz.ntmps47
  go_wp2
  go_ret
  exact ⟨rfl, rfl⟩

/-- An entry that has come, in the disk's own words. -/
theorem came_ent {T : List (List UInt8 × Ent)} {key v : Value} {kl : Lit} {y : DataW Unit × List MemPlace} (hkey : keyOf Tryz.prog 9 key = some kl) (hR : ptrR v = some y) (hat : ∀ zd, (datOf T).atKey kl zd = y.1) :
    ∃ (s : ByteArray) (x : Ent), key = .string s ∧ kl = .string s.data.toList ∧ Dm.get T s.data.toList = some x ∧ v = .pointer (some ⟨x.blk, 0, none⟩) ∧ s.size ≤ maxLen := by
  obtain ⟨s, rfl, rfl, hs⟩ := Go.WideMaps.string_of_keyOf Tryz.underlying9 hkey
  have hh := Maps.has_true_of_atKey hat
  rw [has_dat] at hh
  obtain ⟨x, hx⟩ := Option.isSome_iff_exists.1 hh
  have h1 := hat .nil
  rw [at_dat hx] at h1
  obtain ⟨y1, y2⟩ := y
  simp only at h1
  rw [← h1] at hR
  exact ⟨s, x, rfl, rfl, hx, ptrR_inv hR, hs⟩

set_option maxRecDepth 100000 in
set_option maxHeartbeats 2000000 in
theorem Used_rep {w : World} {a m : Nat} {D : Dm.Disk} {T : List (List UInt8 × Ent)} (h : Rep w a m D T) :
    Calls Tryz.prog 47 #[.pointer (some ⟨a, 0, none⟩)] w fun e w' => e = .returned (.int .i64 (Dm.used D.files : Nat)) ∧ Below w.heap.size w w' := by
  obtain ⟨-, -, -, -, c4, -⟩ := cells5 h.cell
  have hown := h.map
  have hlt := h.lt
  have hus := h.right.used
  rw [h.files] at hus ⊢
  have hsrt := h.sorted
  have H := Lib.hid h
  have HL := Lib.hid hlt
  have HS := Lib.hid hsrt
  clear h hlt hsrt
  go_enter Tryz.func47, Tryz.ntmps47
  go_wp2_with (first
    | (at_range; refine wpList_range_own _ rfl _ 59 rfl 9 69 keyS Tryz.underlying59 ptrR m T.length (datOf T) rfl hown ?_; intro w0 hrg0 hg0 hs0)
    | go_in)
  go_frame
  go_loopw [3] (fun u wr => ∃ (left : Lit → Bool) (cnt : Nat), wr.ranges Tryz.prog 9 ptrR m w.heap.size T.length (datOf T) left cnt ∧ Below w.heap.size w wr ∧ u = .int .i64 (cameLen T left : Nat))
    (fun _ wr => wr.rangeLeft m w.heap.size)
  case atStart =>
    refine ⟨_, _, hrg0, ⟨hg0.os, hg0.tape, hg0.output, hg0.size, fun k hk => hg0.block k hk (by simp)⟩, ?_⟩
    rw [came_none fun p hp => ?_]
    · rfl
    · rw [has_dat, HS.out.get (n := p.1) (x := p.2) hp]; rfl
  case round =>
    obtain ⟨left, cnt, hrg, hb, rfl⟩ := hrel
    have hcl := came_le (T := T) left
    go_wp2_with (first
      | (at_next; refine wpList_next_ranges _ rfl _ rfl 9 keyS ptrR id id (fun key _ _ => ⟨key, rfl⟩) (fun v _ _ => ⟨v, rfl⟩) m w.heap.size T.length _ _ _ rfl hrg ?_ ?_)
      | go_in)
    · intro _ hl0
      rw [came_all hl0]
      go_wp2
      go_ret
      exact ⟨rfl, hb⟩
    · intro key v kl yd yp w1 cnt1 hkey hlx hv hat hrg1 hlt hg1 hs1 hen
      obtain ⟨s, x, rfl, rfl, hx, rfl, hs⟩ := came_ent hkey hv hat
      have hst := came_step HS.out hx hlx
      have hcl1 := came_le (T := T) (fun z => left z && !z.sameKey (.string s.data.toList))
      have hb1 : Below w.heap.size w w1 := hb.trans ⟨hg1.os, hg1.tape, hg1.output, hg1.size, fun k hk => hg1.block k (by have := hb.size; omega) (by simp; omega)⟩
      have he : EntAt w x := H.out.ents _ (mem_get hx)
      have he1 : EntAt w1 x := entAt_of he fun k hk => hb1.block k (he.lt k hk)
      obtain ⟨pr, cap, hrow, -⟩ := he1.shape
      obtain ⟨c0, -, -⟩ := cells2 he1.1
      rw [hrow] at c0
      rw [hst] at hcl1
      have HST := Lib.hid hst
      have HHG := Lib.hid hrg1
      have HB := Lib.hid hb1
      have HLT := Lib.hid hlt
      have HRG := Lib.hid hrg
      clear hst hrg1 hb1 he he1 hrow hkey hv hat hlx hx hg1 hs1 hlt hrg hb
      go_wp2
      go_roundw
      case rel => exact ⟨_, cnt1, HHG.out, HB.out, by rw [HST.out]; rfl⟩
      case measure => rw [HHG.out.left_eq, HRG.out.left_eq]; exact HLT.out
end Go.Proofs.YtoecbkndbcblpaaGreatDoor
