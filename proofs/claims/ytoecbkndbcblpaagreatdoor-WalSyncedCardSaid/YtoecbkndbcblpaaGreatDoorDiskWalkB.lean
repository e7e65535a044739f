/-
  Walks over package disk: find. Conditions: those in the theorems.
-/
import Derived.Test.YtoecbkndbcblpaaGreatDoorDiskWalkA
namespace Go.Proofs.YtoecbkndbcblpaaGreatDoor
open Go.RowKit Go.Maps
theorem find_nil (s : ByteArray) (w : World) :
    Calls Tryz.prog 46 #[.pointer none, .string s] w fun e w' => e = .returned (.tuple #[.pointer none, .int .i64 2]) ∧ w = w' := by
  go_enter Tryz.func46, Tryz.ntmps46
  go_wp2_with fail
  refine (ready_nil _).mono ?_
  rintro e w1 ⟨rfl, rfl⟩
  go_wp2
  go_ret2
  exact ⟨rfl, rfl⟩
theorem find_down {w : World} {a m : Nat} {D : Dm.Disk} {T : List (List UInt8 × Ent)} (h : Rep w a m D T) (hd : D.down = true) (s : ByteArray) :
    Calls Tryz.prog 46 #[.pointer (some ⟨a, 0, none⟩), .string s] w fun e w' => e = .returned (.tuple #[.pointer none, .int .i64 7]) ∧ w = w' := by
  have hc := ready_any a m D w h.cell
  rw [hd] at hc
  clear hd h
  go_enter Tryz.func46, Tryz.ntmps46
  go_wp2_with fail
  refine hc.mono ?_
  rintro e w1 ⟨rfl, rfl⟩
  go_wp2
  go_ret2
  exact ⟨rfl, rfl⟩
theorem find_on {w : World} {a m : Nat} {D : Dm.Disk} {T : List (List UInt8 × Ent)} (h : Rep w a m D T) (hd : D.down = false) (s : ByteArray) (hm : s.size ≤ maxLen) :
    Calls Tryz.prog 46 #[.pointer (some ⟨a, 0, none⟩), .string s] w fun e w' => e = .returned (match Dm.get T s.data.toList with | some x => .tuple #[.pointer (some ⟨x.blk, 0, none⟩), .int .i64 0] | none => .tuple #[.pointer none, .int .i64 4]) ∧ w = w' := by
  have hr := ready_any a m D w h.cell
  rw [hd] at hr
  obtain ⟨-, -, -, -, c4, -⟩ := cells5 h.cell
  have hmap := h.map
  have hg := has_dat T s.data.toList
  have hat := fun e h => at_dat (T := T) (n := s.data.toList) (e := e) h (.lit (.int .i64 (-1)))
  have hkey := keyOfS s hm
  clear hd h
  cases hq : Dm.get T s.data.toList with
  | none =>
    rw [hq] at hg
    clear hat
    go_enter Tryz.func46, Tryz.ntmps46
    go_wp2_with fail
    refine hr.mono ?_
    rintro e w1 ⟨rfl, rfl⟩
    go_wp2_with (first
      | (at_lookup; refine wpList_lookup_own_ok _ rfl _ _ 59 rfl 9 69 keyS Tryz.underlying59 ptrR (zeroFile _) (.lit (.int .i64 (-1))) [] rfl m T.length (datOf T) rfl hmap _ _ rfl hkey ?_; intro v ps hv; rw [hg])
      | go_in)
    go_ret2
    exact ⟨rfl, rfl⟩
  | some x =>
    rw [hq] at hg
    have hax := hat x hq
    clear hat
    go_enter Tryz.func46, Tryz.ntmps46
    go_wp2_with fail
    refine hr.mono ?_
    rintro e w1 ⟨rfl, rfl⟩
    go_wp2_with (first
      | (at_lookup; refine wpList_lookup_own_ok _ rfl _ _ 59 rfl 9 69 keyS Tryz.underlying59 ptrR (zeroFile _) (.lit (.int .i64 (-1))) [] rfl m T.length (datOf T) rfl hmap _ _ rfl hkey ?_; intro v ps hv; rw [hg]; rw [hax] at hv; obtain rfl := ptrR_inv hv)
      | go_in)
    go_ret2
    exact ⟨rfl, rfl⟩
end Go.Proofs.YtoecbkndbcblpaaGreatDoor
