/-
  Walks over package disk: put, Create. Conditions: those in the theorems.
-/
import Derived.Test.YtoecbkndbcblpaaGreatDoorDiskWalkC
import Derived.Test.YtoecbkndbcblpaaGreatDoorSumShelf
import Derived.Deep.RegionHeld3
import Derived.Maps.RangeWalk
namespace Go.Proofs.YtoecbkndbcblpaaGreatDoor
open Go.RowKit Go.Maps

theorem insert_dat (n : List UInt8) (x : Ent) : ∀ T : List (List UInt8 × Ent), DataW.insert (.string n, (.lit (.int .i64 (x.blk : Nat)) : DataW Unit)) (T.map fun p => (.string p.1, .lit (.int .i64 (p.2.blk : Nat)))) = (Dm.ins n x T).map fun p => (.string p.1, .lit (.int .i64 (p.2.blk : Nat)))
  | [] => rfl
  | p :: r => by
    simp only [List.map_cons, DataW.insert, Dm.ins]
    have : (Lit.string n).before (.string p.1) = bytesBefore n p.1 := rfl
    rw [this]
    split
    · rfl
    · rw [insert_dat n x r]; rfl
theorem filter_dat (n : List UInt8) (T : List (List UInt8 × Ent)) : (T.map fun p => ((.string p.1 : Lit), (.lit (.int .i64 (p.2.blk : Nat)) : DataW Unit))).filter (fun p => !p.1.sameKey (.string n)) = (Dm.del T n).map fun p => (.string p.1, .lit (.int .i64 (p.2.blk : Nat))) := by
  unfold Dm.del; rw [List.filter_map]; rfl
theorem put_dat (T : List (List UInt8 × Ent)) (n : List UInt8) (x : Ent) : (datOf T).put (.string n) (.lit (.int .i64 (x.blk : Nat))) = datOf (Dm.put T n x) := by
  unfold datOf Dm.put DataW.put
  simp only
  rw [filter_dat, insert_dat]
theorem del_dat (T : List (List UInt8 × Ent)) (n : List UInt8) : (datOf T).del (.string n) = datOf (Dm.del T n) := by
  unfold datOf DataW.del
  simp only
  rw [filter_dat]
theorem files_put (T : List (List UInt8 × Ent)) (n : List UInt8) (x : Ent) : filesOf (Dm.put T n x) = Dm.put (filesOf T) n x.file := Dm.put_map T n x Ent.file
theorem files_del (T : List (List UInt8 × Ent)) (n : List UInt8) : filesOf (Dm.del T n) = Dm.del (filesOf T) n := Dm.del_map n Ent.file T

/-- An entry beside others: apart from the disk's own blocks and from all entries but the one of its name. -/
structure Beside (a m : Nat) (T : List (List UInt8 × Ent)) (n : List UInt8) (x : Ent) : Prop where
  out : ∀ k ∈ entBlks x, k ≠ a ∧ k ≠ m
  self : x.blk ∉ rowBlk x.row
  each : ∀ p ∈ T, p.1 ≠ n → ∀ k ∈ entBlks x, k ∉ entBlks p.2
theorem Apart.put {a m : Nat} {T : List (List UInt8 × Ent)} (h : Apart a m T) {n : List UInt8} {x : Ent} (hx : Beside a m T n x) : Apart a m (Dm.put T n x) := by
  refine ⟨h.am, fun p hp => ?_, fun p hp => ?_, fun p hp q hq hpq k hk => ?_⟩
  · rcases Dm.mem_put.1 hp with rfl | ⟨hp, _⟩
    · exact hx.out
    · exact h.out p hp
  · rcases Dm.mem_put.1 hp with rfl | ⟨hp, _⟩
    · exact hx.self
    · exact h.self p hp
  · rcases Dm.mem_put.1 hp with rfl | ⟨hp, hpn⟩ <;> rcases Dm.mem_put.1 hq with rfl | ⟨hq, hqn⟩
    · exact absurd rfl hpq
    · exact hx.each q hq hqn k hk
    · exact fun hk' => hx.each p hp hpn k hk' hk
    · exact h.each p hp q hq hpq k hk
theorem Apart.del {a m : Nat} {T : List (List UInt8 × Ent)} (h : Apart a m T) (n : List UInt8) : Apart a m (Dm.del T n) :=
  ⟨h.am, fun p hp => h.out p (Dm.mem_del.1 hp).1, fun p hp => h.self p (Dm.mem_del.1 hp).1, fun p hp q hq => h.each p (Dm.mem_del.1 hp).1 q (Dm.mem_del.1 hq).1⟩
theorem Within.put {S : Nat → Prop} {a m : Nat} {T : List (List UInt8 × Ent)} (h : Within S a m T) {n : List UInt8} {x : Ent} (hx : ∀ k ∈ entBlks x, S k) : Within S a m (Dm.put T n x) :=
  ⟨h.1, h.2.1, fun p hp => by
    rcases Dm.mem_put.1 hp with rfl | ⟨hp, _⟩
    · exact hx
    · exact h.2.2 p hp⟩
theorem Within.del {S : Nat → Prop} {a m : Nat} {T : List (List UInt8 × Ent)} (h : Within S a m T) (n : List UInt8) : Within S a m (Dm.del T n) := ⟨h.1, h.2.1, fun p hp => h.2.2 p (Dm.mem_del.1 hp).1⟩

theorem undraw {w w2 : World} (h : Below w.drew.heap.size w.drew w2) : Below w.heap.size w w2 := ⟨h.os, h.tape, h.output, h.size, h.block⟩
set_option maxHeartbeats 1000000 in
theorem put_rep {w : World} {a m : Nat} {D : Dm.Disk} {T : List (List UInt8 × Ent)} (h : Rep w a m D T) (s : ByteArray) (x : Ent) (hs : s.size ≤ 281474976710656) (hx : EntAt w x) (hb : Beside a m T s.data.toList x)
    (hr : Dm.Right { D with files := Dm.put D.files s.data.toList x.file }) :
    Calls Tryz.prog 44 #[.pointer (some ⟨a, 0, none⟩), .string s, .pointer (some ⟨x.blk, 0, none⟩)] w fun e w' =>
      e = .returned (.tuple #[]) ∧ Rep w' a m { D with files := Dm.put D.files s.data.toList x.file } (Dm.put T s.data.toList x) ∧ Turned (· = m) w w' := by
  obtain ⟨-, -, -, -, c4, -⟩ := cells5 h.cell
  have hlt := h.lt
  have hkey := keyOfS s (by unfold maxLen; omega)
  have hval : ptrR (.pointer (some ⟨x.blk, 0, none⟩)) = some (.lit (.int .i64 (x.blk : Nat)), []) := rfl
  -- what the store makes
  have hupd : ∀ w2, Below w.heap.size w w2 → ∃ w3, (Instr.mapUpdate 59 (.map (some m)) (.string s) (.pointer (some ⟨x.blk, 0, none⟩))).run Tryz.prog w2 = .ok () w3 ∧ w3.cell? ⟨a, 4, none⟩ = some (.map (some m)) ∧ Rep w3 a m { D with files := Dm.put D.files s.data.toList x.file } (Dm.put T s.data.toList x) ∧ Turned (· = m) w w3 := by
    intro w2 h2
    have ho := ownsMap_of h.map (h2.block m hlt.2.1)
    obtain ⟨w3, hrun, ho3, hg3⟩ := ho.update keyS Tryz.underlying59 (by have := h.right.few; rw [h.files] at this; simp [filesOf] at this; unfold maxLen; omega) hkey hval
    have ht : Turned (· = m) w w3 := (turned_of_below (S := (· = m)) h2).trans (turned_grown (S := (· = m)) hg3 (fun k e => (Option.some.inj e).symm)) (fun _ e => .inl e)
    have hc3 : w3.heap[a]? = w.heap[a]? := ht.block a hlt.1 h.apart.am
    refine ⟨w3, hrun, (cells5 (hc3.trans h.cell)).2.2.2.2.1, ⟨hr, ?_, hc3.trans h.cell, ?_, fun p hp => ?_, h.apart.put hb⟩, ht⟩
    · rw [files_put, h.files]
    · rw [put_dat] at ho3
      have := owns_tight ho3
      rw [size_dat] at this
      exact this
    · rcases Dm.mem_put.1 hp with rfl | ⟨hp, _⟩
      · exact entAt_of hx fun k hk => ht.block k (hx.lt k hk) (hb.out k hk).2
      · exact entAt_of (h.ents p hp) fun k hk => ht.block k (hlt.2.2 p hp k hk) (h.apart.out p hp k hk).2
  have HU := Lib.hid hupd
  have hmm := fun W => run_eql_map_nil (P := Tryz.prog) W 59 9 69 (some m) Tryz.underlying59
  clear h hx hb hr hlt hupd hkey hval
  go_enter Tryz.func44, Tryz.ntmps44
  go_wp2_with fail
  go_region_held3 (fun w' => w'.cell? ⟨a, 4, none⟩ = some (.map (some m)))
    (first | exact c4 | assumption)
    (first | (go_at_call 39; refine (clone_any _ _ hs).mono ?_; rintro e w2 ⟨rfl, h2⟩; obtain ⟨w3, hrun, hc3, hR, hT⟩ := HU.out w2 (undraw h2); have hc2 := ((undraw h2).cell (p := ⟨a, 4, none⟩) (World.block_lt_of_cell? w _ c4)).trans c4))
  go_wp2
  go_returns
  exact ⟨rfl, hR, hT⟩
end Go.Proofs.YtoecbkndbcblpaaGreatDoor
