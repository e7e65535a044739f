/-
  Walks over package disk: what a change does: the closures of Create, Append, Sync, Rename, Remove. Conditions: those in the theorems.
-/
import Derived.Test.YtoecbkndbcblpaaGreatDoorDiskWalkD
import Derived.Lib.AppendStr
import Derived.Lib.AppendZeros
import Derived.Deep.MidRow
namespace Go.Proofs.YtoecbkndbcblpaaGreatDoor
open Go.RowKit Go.Maps

theorem mem_get {T : List (List UInt8 × Ent)} {n : List UInt8} {x : Ent} (h : Dm.get T n = some x) : (n, x) ∈ T := Dm.get_mem h

/-- Rep goes by the heap alone. -/
theorem Rep.heap {w W : World} {a m : Nat} {D : Dm.Disk} {T : List (List UInt8 × Ent)} (h : Rep w a m D T) (hb : ∀ k, k < w.heap.size → W.heap[k]? = w.heap[k]?) : Rep W a m D T :=
  h.keep (fun k hk _ => hb k hk) ((hb a h.lt.1).trans h.cell) rfl h.right

set_option maxHeartbeats 1000000 in
theorem create1_rep {w : World} {a m : Nat} {D : Dm.Disk} {T : List (List UInt8 × Ent)} (h : Rep w a m D T) (s : ByteArray) (hs : s.size ≤ 281474976710656) (p q : Nat)
    (hp : w.heap[p]? = some (.cells #[.pointer (some ⟨a, 0, none⟩)] 22 (0, 0))) (hq : w.heap[q]? = some (.cells #[.string s] 9 (0, 0)))
    (hr : Dm.Right { D with files := Dm.put D.files s.data.toList ⟨[], 0⟩ }) :
    Calls Tryz.prog 43 #[.pointer (some ⟨p, 0, none⟩), .pointer (some ⟨q, 0, none⟩)] w fun e w' =>
      e = .returned (.tuple #[]) ∧ Rep w' a m { D with files := Dm.put D.files s.data.toList ⟨[], 0⟩ } (Dm.put T s.data.toList ⟨w.heap.size, .slice none 0 0, ⟨[], 0⟩⟩) ∧ Turned (· = m) w w' := by
  have cp : w.cell? ⟨p, 0, none⟩ = some (.pointer (some ⟨a, 0, none⟩)) := by rw [cell_of_row _ _ _ _ _ _ hp]; rfl
  have cq : w.cell? ⟨q, 0, none⟩ = some (.string s) := by rw [cell_of_row _ _ _ _ _ _ hq]; rfl
  have hlt := h.lt
  have hR : Rep (w.alloc (.cells #[.slice none 0 0, .int .i64 0] 74)) a m D T := h.heap fun k hk => Below.heap_alloc _ _ _ hk
  have hE : EntAt (w.alloc (.cells #[.slice none 0 0, .int .i64 0] 74)) ⟨w.heap.size, .slice none 0 0, ⟨[], 0⟩⟩ := ⟨heap_alloc_new w _, World.ownsRow_nil _ _ _ _⟩
  have hB : Beside a m T s.data.toList ⟨w.heap.size, .slice none 0 0, ⟨[], 0⟩⟩ := by
    refine ⟨fun k hk => ?_, by simp [rowBlk], fun p hp _ k hk hk2 => ?_⟩ <;> simp [entBlks, rowBlk] at hk <;> subst hk
    · omega
    · have := hlt.2.2 p hp _ hk2; omega
  have HP := Lib.hid (put_rep hR s ⟨w.heap.size, .slice none 0 0, ⟨[], 0⟩⟩ hs hE hB hr)
  clear h hR hE hB hr hp hq hlt
  go_enter Tryz.func43, Tryz.ntmps43
  go_wp2_with fail
  refine HP.out.mono ?_
  rintro e w1 ⟨rfl, hR, hT⟩
  have HR := Lib.hid hR
  have HT := Lib.hid hT
  clear hR hT
  go_wp2
  go_returns
  exact ⟨rfl, HR.out, (turned_alloc (S := (· = m)) w _).trans HT.out fun _ e => .inl e⟩

theorem nothing_any (w : World) : Calls Tryz.prog 45 #[] w fun e w' => e = .returned (.tuple #[]) ∧ w = w' := by
  go_enter Tryz.func45, Tryz.ntmps45
  go_wp2
  go_returns
  exact ⟨rfl, rfl⟩

theorem size_files {w : World} {a m : Nat} {D : Dm.Disk} {T : List (List UInt8 × Ent)} (h : Rep w a m D T) : T.length = D.files.length := by rw [h.files]; simp [filesOf]

set_option maxHeartbeats 1000000 in
theorem remove1_rep {w : World} {a m : Nat} {D : Dm.Disk} {T : List (List UInt8 × Ent)} (h : Rep w a m D T) (s : ByteArray) (hs : s.size ≤ maxLen) (p q : Nat)
    (hp : w.heap[p]? = some (.cells #[.pointer (some ⟨a, 0, none⟩)] 22 (0, 0))) (hq : w.heap[q]? = some (.cells #[.string s] 9 (0, 0)))
    (hpm : p ≠ m) (hqm : q ≠ m) (hr : Dm.Right { D with files := Dm.del D.files s.data.toList }) :
    Calls Tryz.prog 93 #[.pointer (some ⟨p, 0, none⟩), .pointer (some ⟨q, 0, none⟩)] w fun e w' =>
      e = .returned (.tuple #[]) ∧ Rep w' a m { D with files := Dm.del D.files s.data.toList } (Dm.del T s.data.toList) ∧ Turned (· = m) w w' := by
  have cp : w.cell? ⟨p, 0, none⟩ = some (.pointer (some ⟨a, 0, none⟩)) := by rw [cell_of_row _ _ _ _ _ _ hp]; rfl
  have cq : w.cell? ⟨q, 0, none⟩ = some (.string s) := by rw [cell_of_row _ _ _ _ _ _ hq]; rfl
  obtain ⟨-, -, -, -, c4, -⟩ := cells5 h.cell
  have hlt := h.lt
  have hd : ∀ ty, ∃ w3, (Builtin.delete_ #[59, 9] ty #[.map (some m), .string s]).run Tryz.prog w.drew = .ok (.tuple #[]) w3 ∧ Rep w3 a m { D with files := Dm.del D.files s.data.toList } (Dm.del T s.data.toList) ∧ Turned (· = m) w w3 := by
    intro ty
    obtain ⟨w3, hrun, ho3, hg3⟩ := World.ownsMap.drop (w := w.drew) h.map keyS Tryz.underlying59 (keyOfS s hs) ty
    have ht : Turned (· = m) w w3 := (turned_drew (S := (· = m)) w).trans (turned_grown (S := (· = m)) hg3.grown (fun k e => (Option.some.inj e).symm)) (fun _ e => .inl e)
    refine ⟨w3, hrun, ⟨hr, ?_, (ht.block a hlt.1 h.apart.am).trans h.cell, ?_, fun p hp => ?_, h.apart.del _⟩, ht⟩
    · rw [files_del, h.files]
    · rw [del_dat] at ho3
      have := owns_tight ho3
      rw [size_dat] at this
      exact this
    · have hp := (Dm.mem_del.1 hp).1
      exact entAt_of (h.ents _ hp) fun k hk => ht.block k (hlt.2.2 _ hp k hk) (h.apart.out _ hp k hk).2
  obtain ⟨w3, hrun, hR, hT⟩ := hd 0
  have hcp := (hT.block p (Array.getElem?_eq_some_iff.1 hp).1 hpm).trans hp
  have hcq := (hT.block q (Array.getElem?_eq_some_iff.1 hq).1 hqm).trans hq
  have c3 : w3.cell? ⟨p, 0, none⟩ = some (.pointer (some ⟨a, 0, none⟩)) := by rw [cell_of_row _ _ _ _ _ _ hcp]; rfl
  have d3 : w3.cell? ⟨q, 0, none⟩ = some (.string s) := by rw [cell_of_row _ _ _ _ _ _ hcq]; rfl
  obtain ⟨-, -, -, -, e3, -⟩ := cells5 hR.cell
  have HR := Lib.hid hR
  have HT := Lib.hid hT
  clear h hr hp hq hlt hd hR hT hcp hcq
  go_enter Tryz.func93, Tryz.ntmps93
  go_region_held3 (fun w' => w'.cell? ⟨p, 0, none⟩ = some (.pointer (some ⟨a, 0, none⟩)) ∧ w'.cell? ⟨q, 0, none⟩ = some (.string s) ∧ w'.cell? ⟨a, 4, none⟩ = some (.map (some m)))
    (first | exact ⟨cp, cq, c4⟩ | exact ⟨c3, d3, e3⟩)
    (first | fail)
  go_wp2
  go_returns
  exact ⟨rfl, HR.out, HT.out⟩

set_option maxHeartbeats 2000000 in
theorem rename1_rep {w : World} {a m : Nat} {D : Dm.Disk} {T : List (List UInt8 × Ent)} (h : Rep w a m D T) (s t : ByteArray) (hs : s.size ≤ maxLen) (ht2 : t.size ≤ 281474976710656) (x : Ent) (hx : Dm.get T s.data.toList = some x) (p q r u : Nat)
    (hp : w.heap[p]? = some (.cells #[.pointer (some ⟨a, 0, none⟩)] 22 (0, 0))) (hq : w.heap[q]? = some (.cells #[.string s] 9 (0, 0)))
    (hrr : w.heap[r]? = some (.cells #[.string t] 9 (0, 0))) (hu : w.heap[u]? = some (.cells #[.pointer (some ⟨x.blk, 0, none⟩)] 69 (0, 0)))
    (hpm : p ≠ m) (hqm : q ≠ m) (hrm : r ≠ m) (hum : u ≠ m) (hd1 : Dm.Right { D with files := Dm.del D.files s.data.toList }) (hr : Dm.Right { D with files := Dm.put (Dm.del D.files s.data.toList) t.data.toList x.file }) :
    Calls Tryz.prog 136 #[.pointer (some ⟨p, 0, none⟩), .pointer (some ⟨q, 0, none⟩), .pointer (some ⟨r, 0, none⟩), .pointer (some ⟨u, 0, none⟩)] w fun e w' =>
      e = .returned (.tuple #[]) ∧ Rep w' a m { D with files := Dm.put (Dm.del D.files s.data.toList) t.data.toList x.file } (Dm.put (Dm.del T s.data.toList) t.data.toList x) ∧ Turned (· = m) w w' := by
  have cp : w.cell? ⟨p, 0, none⟩ = some (.pointer (some ⟨a, 0, none⟩)) := by rw [cell_of_row _ _ _ _ _ _ hp]; rfl
  have cq : w.cell? ⟨q, 0, none⟩ = some (.string s) := by rw [cell_of_row _ _ _ _ _ _ hq]; rfl
  obtain ⟨-, -, -, -, c4, -⟩ := cells5 h.cell
  have hlt := h.lt
  have hd : ∀ ty, ∃ w3, (Builtin.delete_ #[59, 9] ty #[.map (some m), .string s]).run Tryz.prog w.drew = .ok (.tuple #[]) w3 ∧ Rep w3 a m { D with files := Dm.del D.files s.data.toList } (Dm.del T s.data.toList) ∧ Turned (· = m) w w3 := by
    intro ty
    obtain ⟨w3, hrun, ho3, hg3⟩ := World.ownsMap.drop (w := w.drew) h.map keyS Tryz.underlying59 (keyOfS s hs) ty
    have ht : Turned (· = m) w w3 := (turned_drew (S := (· = m)) w).trans (turned_grown (S := (· = m)) hg3.grown (fun k e => (Option.some.inj e).symm)) (fun _ e => .inl e)
    refine ⟨w3, hrun, ⟨hd1, ?_, (ht.block a hlt.1 h.apart.am).trans h.cell, ?_, fun p hp => ?_, h.apart.del _⟩, ht⟩
    · rw [files_del, h.files]
    · rw [del_dat] at ho3
      have := owns_tight ho3
      rw [size_dat] at this
      exact this
    · have hp := (Dm.mem_del.1 hp).1
      exact entAt_of (h.ents _ hp) fun k hk => ht.block k (hlt.2.2 _ hp k hk) (h.apart.out _ hp k hk).2
  obtain ⟨w3, hrun, hR, hT⟩ := hd 0
  have hcp := (hT.block p (Array.getElem?_eq_some_iff.1 hp).1 hpm).trans hp
  have hcq := (hT.block q (Array.getElem?_eq_some_iff.1 hq).1 hqm).trans hq
  have hcr := (hT.block r (Array.getElem?_eq_some_iff.1 hrr).1 hrm).trans hrr
  have hcu := (hT.block u (Array.getElem?_eq_some_iff.1 hu).1 hum).trans hu
  have c3 : w3.cell? ⟨p, 0, none⟩ = some (.pointer (some ⟨a, 0, none⟩)) := by rw [cell_of_row _ _ _ _ _ _ hcp]; rfl
  have d3 : w3.cell? ⟨q, 0, none⟩ = some (.string s) := by rw [cell_of_row _ _ _ _ _ _ hcq]; rfl
  have r3 : w3.cell? ⟨r, 0, none⟩ = some (.string t) := by rw [cell_of_row _ _ _ _ _ _ hcr]; rfl
  have u3 : w3.cell? ⟨u, 0, none⟩ = some (.pointer (some ⟨x.blk, 0, none⟩)) := by rw [cell_of_row _ _ _ _ _ _ hcu]; rfl
  obtain ⟨-, -, -, -, e3, -⟩ := cells5 hR.cell
  have hmx := mem_get hx
  have hE : EntAt w3 x := entAt_of (h.ents _ hmx) fun k hk => hT.block k (hlt.2.2 _ hmx k hk) (h.apart.out _ hmx k hk).2
  have hB : Beside a m (Dm.del T s.data.toList) t.data.toList x :=
    ⟨h.apart.out _ hmx, h.apart.self _ hmx, fun p hp _ k hk => h.apart.each _ hmx _ (Dm.mem_del.1 hp).1 (Ne.symm (Dm.mem_del.1 hp).2) k hk⟩
  have HP := Lib.hid (put_rep hR t x ht2 hE hB hr)
  have HT := Lib.hid hT
  clear h hr hd1 hp hq hrr hu hlt hd hR hT hcp hcq hcr hcu hE hB hx hmx
  go_enter Tryz.func136, Tryz.ntmps136
  go_wp2_with fail
  go_region_held3 (fun w' => w'.cell? ⟨p, 0, none⟩ = some (.pointer (some ⟨a, 0, none⟩)) ∧ w'.cell? ⟨q, 0, none⟩ = some (.string s) ∧ w'.cell? ⟨a, 4, none⟩ = some (.map (some m)))
    (first | exact ⟨cp, cq, c4⟩ | exact ⟨c3, d3, e3⟩)
    (first | fail)
  clear hrun cp cq c4
  go_wp2_with fail
  refine HP.out.mono ?_
  rintro e w4 ⟨rfl, hR4, hT4⟩
  have HR4 := Lib.hid hR4
  have HT4 := Lib.hid hT4
  clear hR4 hT4
  go_wp2
  go_returns
  exact ⟨rfl, HR4.out, HT.out.trans HT4.out fun _ e => .inl e⟩

theorem upd_congr {α : Type} {l : List (List UInt8 × α)} (hs : Dm.Sorted l) {n : List UInt8} {x : α} (hx : Dm.get l n = some x) {g g' : α → α} (h : g x = g' x) : Dm.upd l n g = Dm.upd l n g' := by
  unfold Dm.upd
  refine List.map_congr_left fun p hp => ?_
  split
  · rename_i e
    have := hs.get (n := p.1) (x := p.2) hp
    rw [e, hx] at this
    rw [← Option.some.inj this, h]
  · rfl
/-- An entry's slice and file are others; its block stays. -/
def turn (row : Value) (f : Dm.File) (e : Ent) : Ent := ⟨e.blk, row, f⟩
theorem upd_dat (T : List (List UInt8 × Ent)) (n : List UInt8) (row : Value) (f : Dm.File) : datOf (Dm.upd T n (turn row f)) = datOf T := by
  unfold datOf Dm.upd; rw [List.map_map]; congr 1; refine List.map_congr_left fun p _ => ?_
  simp only [Function.comp]; split <;> rfl
theorem Rep.upd {w W : World} {a m : Nat} {D : Dm.Disk} {T : List (List UInt8 × Ent)} (h : Rep w a m D T) {n : List UInt8} {x : Ent} (hx : Dm.get T n = some x) {row : Value} {g : Dm.File → Dm.File} (hE : EntAt W ⟨x.blk, row, g x.file⟩)
    (hrow : ∀ k ∈ rowBlk row, k ∈ rowBlk x.row ∨ w.heap.size ≤ k) (hsame : ∀ k, k < w.heap.size → k ∉ entBlks x → W.heap[k]? = w.heap[k]?) (hr : Dm.Right { D with files := Dm.upd D.files n g }) :
    Rep W a m { D with files := Dm.upd D.files n g } (Dm.upd T n (turn row (g x.file))) := by
  have hmx := mem_get hx
  have hlt := h.lt
  have ha : ∀ k, k ∈ entBlks x → k ≠ a ∧ k ≠ m := h.apart.out _ hmx
  have hone : ∀ p ∈ T, p.1 = n → p.2 = x := fun p hp e => by
    have := h.sorted.get (n := p.1) (x := p.2) hp
    rw [e, hx] at this; exact (Option.some.inj this).symm
  have hblk : ∀ k ∈ entBlks (⟨x.blk, row, g x.file⟩ : Ent), k ∈ entBlks x ∨ w.heap.size ≤ k := fun k hk => by
    rcases List.mem_cons.1 hk with rfl | hk
    · exact .inl (by simp [entBlks])
    · rcases hrow k hk with h1 | h1
      · exact .inl (by simp [entBlks, h1])
      · exact .inr h1
  -- each entry is an old one of another name, or the new one
  have hmem : ∀ p ∈ Dm.upd T n (turn row (g x.file)), (p ∈ T ∧ p.1 ≠ n) ∨ p = (n, ⟨x.blk, row, g x.file⟩) := fun p hp => by
    obtain ⟨q, hq, rfl⟩ := Dm.mem_upd.1 hp
    split
    · rename_i e; right; rw [e]; unfold turn; rw [hone q hq e]
    · rename_i e; exact .inl ⟨hq, e⟩
  refine ⟨hr, ?_, ?_, ?_, fun p hp => ?_, ⟨h.apart.am, fun p hp k hk => ?_, fun p hp => ?_, fun p hp q hq hpq k hk => ?_⟩⟩
  · show Dm.upd D.files n g = filesOf _
    rw [h.files]
    unfold filesOf
    rw [Dm.upd_map T n (turn row (g x.file)) (fun _ => g x.file) Ent.file (fun _ => rfl)]
    refine upd_congr ?_ (x := x.file) ?_ rfl
    · have := h.right.sorted; rw [h.files] at this; exact this
    · have := get_files T n; unfold filesOf at this; rw [this, hx]; rfl
  · exact (hsame a hlt.1 fun e => (ha a e).1 rfl).trans h.cell
  · rw [upd_dat, Dm.length_upd]
    exact ownsMap_of h.map (hsame m hlt.2.1 fun e => (ha m e).2 rfl)
  · rcases hmem p hp with ⟨hp, hpn⟩ | rfl
    · exact entAt_of (h.ents p hp) fun k hk => hsame k (hlt.2.2 p hp k hk) fun e => h.apart.each _ hmx _ hp (Ne.symm hpn) k e hk
    · exact hE
  · rcases hmem p hp with ⟨hp, hpn⟩ | rfl
    · exact h.apart.out p hp k hk
    · rcases hblk k hk with h1 | h1
      · exact ha k h1
      · exact ⟨by have := hlt.1; omega, by have := hlt.2.1; omega⟩
  · rcases hmem p hp with ⟨hp, hpn⟩ | rfl
    · exact h.apart.self p hp
    · intro e
      rcases hrow _ e with h1 | h1
      · exact h.apart.self _ hmx h1
      · have := hlt.2.2 _ hmx x.blk (by simp [entBlks]); simp only at h1; omega
  · rcases hmem p hp with ⟨hp, hpn⟩ | rfl <;> rcases hmem q hq with ⟨hq, hqn⟩ | rfl
    · exact h.apart.each p hp q hq hpq k hk
    · intro e
      rcases hblk k e with h1 | h1
      · exact h.apart.each _ hmx _ hp (Ne.symm hpn) k h1 hk
      · have := hlt.2.2 p hp k hk; omega
    · intro e
      rcases hblk k hk with h1 | h1
      · exact h.apart.each _ hmx _ hq (Ne.symm hqn) k h1 e
      · have := hlt.2.2 q hq k e; omega
    · exact absurd rfl hpq
theorem Within.upd {S : Nat → Prop} {a m : Nat} {T : List (List UInt8 × Ent)} (h : Within S a m T) {n : List UInt8} {row : Value} {f : Dm.File} (hx : ∀ k ∈ rowBlk row, S k) : Within S a m (Dm.upd T n (turn row f)) :=
  ⟨h.1, h.2.1, fun p hp k hk => by
    obtain ⟨q, hq, rfl⟩ := Dm.mem_upd.1 hp
    split at hk
    · rcases List.mem_cons.1 hk with rfl | hk
      · exact h.2.2 q hq _ (by simp [entBlks, turn])
      · exact hx k hk
    · exact h.2.2 q hq k hk⟩

theorem infoB : (Tryz.prog.info? 5).map (fun i => (i.zero, i.size, i.bytes)) = some (some (.int .u8 0), 1, 1) := by kernel_rfl
theorem strCells_eq (s : ByteArray) : Lib.strCells s = s.data.toList.map byteV := rfl
theorem append_text (w : World) (v : Value) (n : Nat) (xs : List Value) (hown : w.ownsRow 0 5 1 v n xs) (s : ByteArray) (hl : n + s.size ≤ 140737488355328) (ty : TypeId) :
    ∃ v' w', (Builtin.append_ #[37, 9] ty #[v, .string s]).run Tryz.prog w = .ok v' w' ∧ w'.ownsRow 0 5 1 v' (n + s.size) (xs ++ Lib.strCells s) ∧ w.grownBy w' v.ownBlock ∧ (∀ k ∈ rowBlk v', k ∈ rowBlk v ∨ w.heap.size ≤ k) := by
  obtain ⟨i0, hi0, hz0, hz1, hz2⟩ := info_parts infoB
  have hsmall : n + s.size ≤ maxLen := by unfold maxLen; omega
  rcases hown.2 with ⟨rfl, rfl⟩ | ⟨g, cap, cur, rfl, -, hg, hnc, hcm, hcs, htake⟩
  · have ho : w.ownsRow w.heap.size 5 1 (.slice none 0 0) 0 xs := ⟨hown.1, .inl ⟨rfl, rfl⟩⟩
    obtain ⟨v', w', hr, h2, h3, -⟩ := Lib.run_append_own_string (P := Tryz.prog) w w.heap.size 37 9 ty 5 i0 Tryz.underlying37 Tryz.underlying9 hi0 hz0 hz1 hz2 _ _ _ ho s hsmall hl (Nat.le_refl _)
    refine ⟨v', w', hr, ⟨h2.1, h2.2.imp id fun ⟨g, cap, cur, a1, _, a3⟩ => ⟨g, cap, cur, a1, Nat.zero_le _, a3⟩⟩, h3, fun k hk => ?_⟩
    rcases h2.2 with ⟨rfl, _⟩ | ⟨g, cap, cur, rfl, hb, _⟩
    · cases hk
    · simp [rowBlk] at hk; subst hk; exact .inr hb
  · obtain ⟨v', w', hr, h2, h3, -⟩ := Lib.run_append_own_string (P := Tryz.prog) w 0 37 9 ty 5 i0 Tryz.underlying37 Tryz.underlying9 hi0 hz0 hz1 hz2 _ _ _ hown s hsmall hl (Nat.zero_le _)
    refine ⟨v', w', hr, h2, h3, fun k hk => ?_⟩
    by_cases hroom : n + s.size ≤ cap
    · have hr2 := Lib.run_append_room_string (P := Tryz.prog) w 37 9 ty 5 i0 Tryz.underlying37 Tryz.underlying9 hi0 hz1 g n cap cur hg s hroom (by omega)
      rw [hr] at hr2
      obtain ⟨rfl, -⟩ := Result.ok.inj hr2
      exact .inl hk
    · have holds : ∀ j u, xs[j]? = some u → w.cell? ((⟨g, 0, none⟩ : Addr).add j) = some u := hown.cells (g := g) rfl
      have hr2 := Lib.run_append_grow_string (P := Tryz.prog) w 37 9 ty 5 i0 (.int .u8 0) Tryz.underlying37 Tryz.underlying9 hi0 hz0 ⟨g, 0, none⟩ n cap xs (by rw [hz1]; exact hown.1) holds s (by omega) (by omega) (by rw [hz2]; exact growslice_fits (by omega) (by omega))
      rw [hr] at hr2
      obtain ⟨rfl, -⟩ := Result.ok.inj hr2
      simp [rowBlk] at hk; subst hk; exact .inr (Nat.le_refl _)

set_option maxHeartbeats 2000000 in
theorem append1_rep {w : World} {a m : Nat} {D : Dm.Disk} {T : List (List UInt8 × Ent)} (h : Rep w a m D T) (n : List UInt8) (s : ByteArray) (x : Ent) (hx : Dm.get T n = some x) (p q : Nat)
    (hp : w.heap[p]? = some (.cells #[.pointer (some ⟨x.blk, 0, none⟩)] 69 (0, 0))) (hq : w.heap[q]? = some (.cells #[.string s] 9 (0, 0)))
    (hpx : p ∉ entBlks x) (hqx : q ∉ entBlks x) (hr : Dm.Right { D with files := Dm.adds n s.data.toList D.files }) (hl : x.file.data.length + s.size ≤ 1048576) :
    Calls Tryz.prog 48 #[.pointer (some ⟨p, 0, none⟩), .pointer (some ⟨q, 0, none⟩)] w fun e w' =>
      e = .returned (.tuple #[]) ∧ ∃ row, Rep w' a m { D with files := Dm.adds n s.data.toList D.files } (Dm.upd T n (turn row { x.file with data := x.file.data ++ s.data.toList })) ∧ (∀ k ∈ rowBlk row, k ∈ rowBlk x.row ∨ w.heap.size ≤ k) ∧ Turned (· ∈ entBlks x) w w' := by
  have cp : w.cell? ⟨p, 0, none⟩ = some (.pointer (some ⟨x.blk, 0, none⟩)) := by rw [cell_of_row _ _ _ _ _ _ hp]; rfl
  have cq : w.cell? ⟨q, 0, none⟩ = some (.string s) := by rw [cell_of_row _ _ _ _ _ _ hq]; rfl
  have hmx := mem_get hx
  have hlt := h.lt
  have he : EntAt w x := h.ents _ hmx
  have hsf : x.blk ∉ rowBlk x.row := h.apart.self _ hmx
  have hpz := (Array.getElem?_eq_some_iff.1 hp).1
  have hqz := (Array.getElem?_eq_some_iff.1 hq).1
  have hbz : x.blk < w.heap.size := hlt.2.2 _ hmx _ (by simp [entBlks])
  obtain ⟨pr, cap, hrow, -⟩ := he.shape
  obtain ⟨c0, -, -⟩ := cells2 he.1
  obtain ⟨v', w3, hrun, ho, hg, hbk⟩ := append_text w.drew x.row _ _ he.2 s (by omega) 37
  rw [strCells_eq, ← List.map_append] at ho
  have hlen : x.file.data.length + s.size = (x.file.data ++ s.data.toList).length := by rw [List.length_append, show s.data.toList.length = s.size from by simp]
  rw [hlen] at ho
  obtain ⟨pv, cv, nl, rfl⟩ : ∃ pv cv nl, v' = .slice pv nl cv := by
    rcases ho.2 with ⟨h1, h2⟩ | ⟨g, c, _, h1, _⟩
    · exact ⟨none, 0, 0, h1⟩
    · exact ⟨_, _, _, h1⟩
  have hown : ∀ k, x.row.ownBlock = some k → k ∈ rowBlk x.row := fun k hk => by
    rw [hrow] at hk ⊢; cases pr <;> simp [Value.ownBlock, rowBlk] at hk ⊢; exact hk.symm
  have hT3 : Turned (· ∈ rowBlk x.row) w w3 := (turned_drew (S := (· ∈ rowBlk x.row)) w).trans (turned_grown (S := (· ∈ rowBlk x.row)) hg hown) fun _ e => .inl e
  have hb3 := (hT3.block x.blk hbz hsf).trans he.1
  have hp3 := (hT3.block p hpz fun e => hpx (by simp [entBlks, e])).trans hp
  have hq3 := (hT3.block q hqz fun e => hqx (by simp [entBlks, e])).trans hq
  obtain ⟨d0, -, fz⟩ := cells2 hb3
  have f0 := fz 0
  have dp : w3.cell? ⟨p, 0, none⟩ = some (.pointer (some ⟨x.blk, 0, none⟩)) := by rw [cell_of_row _ _ _ _ _ _ hp3]; rfl
  have dq : w3.cell? ⟨q, 0, none⟩ = some (.string s) := by rw [cell_of_row _ _ _ _ _ _ hq3]; rfl
  have hpb : p ≠ x.blk := fun e => hpx (by simp [entBlks, e])
  have hqb : q ≠ x.blk := fun e => hqx (by simp [entBlks, e])
  have ep : (w3.setCell ⟨x.blk, 0, none⟩ (.slice pv nl cv)).cell? ⟨p, 0, none⟩ = some (.pointer (some ⟨x.blk, 0, none⟩)) := by rw [cell_of_row _ _ _ _ _ _ ((set_other _ _ _ _ _ hpb).trans hp3)]; rfl
  have eq : (w3.setCell ⟨x.blk, 0, none⟩ (.slice pv nl cv)).cell? ⟨q, 0, none⟩ = some (.string s) := by rw [cell_of_row _ _ _ _ _ _ ((set_other _ _ _ _ _ hqb).trans hq3)]; rfl
  have hne : ∀ k ∈ rowBlk (.slice pv nl cv), k ≠ x.blk := fun k hk => by
    rcases hbk k hk with h1 | h1
    · intro e; exact hsf (e ▸ h1)
    · have : w.heap.size ≤ k := h1; omega
  have hE : EntAt (w3.setCell ⟨x.blk, 0, none⟩ (.slice pv nl cv)) ⟨x.blk, (.slice pv nl cv), { x.file with data := x.file.data ++ s.data.toList }⟩ := by
    refine ⟨by rw [set1 hb3]; rfl, ho.1, ?_⟩
    rcases ho.2 with h1 | ⟨g, cap', cur, h1, h2, h3, h4⟩
    · exact .inl h1
    · exact .inr ⟨g, cap', cur, h1, h2, (set_other _ _ _ _ _ (hne g (by rw [h1]; simp [rowBlk]))).trans h3, h4⟩
  have hT4 : Turned (· ∈ entBlks x) w (w3.setCell ⟨x.blk, 0, none⟩ (.slice pv nl cv)) := (hT3.mono (S' := (· ∈ entBlks x)) fun k hk => by simp [entBlks, hk]).trans (turned_setCell (S := (· ∈ entBlks x)) w3 _ _ (by simp [entBlks])) fun _ e => .inl e
  have HR := Lib.hid (h.upd hx (row := (.slice pv nl cv)) (g := fun f => { f with data := f.data ++ s.data.toList }) hE (fun k hk => hbk k hk) (fun k hk hn => hT4.block k hk hn) hr)
  have HT := Lib.hid hT4
  have HK := Lib.hid hbk
  clear h hx hr he hsf ho hg hbk hlen hown hT3 hb3 hp3 hq3 hp hq hE hT4 hne fz hlt hmx hpx hqx hpz hqz hbz hl
  rw [hrow] at c0 hrun d0
  clear hrow
  go_enter Tryz.func48, Tryz.ntmps48
  refine wp_region_held_drew (S := fun w' => w'.cell? ⟨p, 0, none⟩ = some (.pointer (some ⟨x.blk, 0, none⟩)) ∧ w'.cell? ⟨q, 0, none⟩ = some (.string s)) (by kernel_rfl) ⟨cp, cq⟩ (fun hHeld => ?_)
  refine wpAnyH_take (i := 0) (oi := _) (v := ?_) rfl (by kernel_rfl) (by kernel_rfl) (by kernel_rfl) (fun _ _ _ h => h) (Or.inl ⟨by rfl, ?_⟩) hHeld ?_
  rotate_left 1
  · (intro w hSw; obtain ⟨hS1, hS2⟩ := hSw; go_simp; (try with_reducible rfl))
  simp only [Act.put, List.setIfInBounds_toArray, List.set_cons_zero, List.set_cons_succ]
  refine wpAnyH_take (i := 1) (oi := _) (v := ?_) rfl (by kernel_rfl) (by kernel_rfl) (by kernel_rfl) (fun _ _ _ h => h) (Or.inl ⟨by rfl, ?_⟩) hHeld ?_
  rotate_left 1
  · (intro w hSw; obtain ⟨hS1, hS2⟩ := hSw; go_simp; (try with_reducible rfl))
  simp only [Act.put, List.setIfInBounds_toArray, List.set_cons_zero, List.set_cons_succ]
  refine wpAnyH_take (i := 2) (oi := _) (v := ?_) rfl (by kernel_rfl) (by kernel_rfl) (by kernel_rfl) (fun _ _ _ h => h) (Or.inl ⟨by rfl, ?_⟩) hHeld ?_
  rotate_left 1
  · (intro w hSw; obtain ⟨hS1, hS2⟩ := hSw; go_simp; (try with_reducible rfl))
  simp only [Act.put, List.setIfInBounds_toArray, List.set_cons_zero, List.set_cons_succ]
  refine wpAnyH_take (i := 3) (oi := _) (v := ?_) rfl (by kernel_rfl) (by kernel_rfl) (by kernel_rfl) (fun _ _ _ h => h) (Or.inl ⟨by rfl, ?_⟩) hHeld ?_
  rotate_left 1
  · (intro w hSw; obtain ⟨hS1, hS2⟩ := hSw; go_simp; (try with_reducible rfl))
  simp only [Act.put, List.setIfInBounds_toArray, List.set_cons_zero, List.set_cons_succ]
  refine wpAnyH_take (i := 5) (oi := _) (v := ?_) rfl (by kernel_rfl) (by kernel_rfl) (by kernel_rfl) (fun _ _ _ h => h) (Or.inl ⟨by rfl, ?_⟩) hHeld ?_
  rotate_left 1
  · (intro w hSw; obtain ⟨hS1, hS2⟩ := hSw; go_simp; (try with_reducible rfl))
  simp only [Act.put, List.setIfInBounds_toArray, List.set_cons_zero, List.set_cons_succ]
  refine wpAnyH_ready (rs := [4]) (by kernel_rfl) (by simp) ?_
  refine AllReadyH.cons (o := _) rfl (fun K hK => ?_) AllReadyH.nil
  go_simp
  refine hK.out _ _ ⟨cp, cq⟩ (fun hHeld => ?_)
  clear hK K
  try simp only [Act.put, List.setIfInBounds_toArray, List.set_cons_zero, List.set_cons_succ]
  refine wpAnyH_ready (rs := [6]) (by kernel_rfl) (by simp) ?_
  refine AllReadyH.cons (o := _) rfl (fun K hK => ?_) AllReadyH.nil
  rw [if_pos (by rfl)]
  refine Lib.wp_append_run _ (.tmp 6) (.tmp 7) 37 9 rfl _ _ rfl rfl _ _ hrun ?_
  simp only [Act.put, List.setIfInBounds_toArray, List.set_cons_zero, List.set_cons_succ]
  refine hK.out _ _ ⟨dp, dq⟩ (fun hHeld => ?_)
  clear hK K
  try simp only [Act.put, List.setIfInBounds_toArray, List.set_cons_zero, List.set_cons_succ]
  refine wpAnyH_take (i := 7) (oi := _) (v := ?_) rfl (by kernel_rfl) (by kernel_rfl) (by kernel_rfl) (fun _ _ _ h => h) (Or.inl ⟨by rfl, ?_⟩) hHeld ?_
  rotate_left 1
  · (intro w hSw; obtain ⟨hS1, hS2⟩ := hSw; go_simp; (try with_reducible rfl))
  simp only [Act.put, List.setIfInBounds_toArray, List.set_cons_zero, List.set_cons_succ]
  refine wpAnyH_take (i := 8) (oi := _) (v := ?_) rfl (by kernel_rfl) (by kernel_rfl) (by kernel_rfl) (fun _ _ _ h => h) (Or.inl ⟨by rfl, ?_⟩) hHeld ?_
  rotate_left 1
  · (intro w hSw; obtain ⟨hS1, hS2⟩ := hSw; go_simp; (try with_reducible rfl))
  simp only [Act.put, List.setIfInBounds_toArray, List.set_cons_zero, List.set_cons_succ]
  refine wpAnyH_ready (rs := [9]) (by kernel_rfl) (by simp) ?_
  refine AllReadyH.cons (o := _) rfl (fun K hK => ?_) AllReadyH.nil
  go_simp
  refine hK.out _ _ ⟨ep, eq⟩ (fun hHeld => ?_)
  clear hK K
  try simp only [Act.put, List.setIfInBounds_toArray, List.set_cons_zero, List.set_cons_succ]
  refine wpAnyH_done (by kernel_rfl) ?_ _
  go_wp2
  go_returns
  exact ⟨rfl, _, HR.out, HK.out, HT.out⟩

set_option maxHeartbeats 2000000 in
theorem sync1_rep {w : World} {a m : Nat} {D : Dm.Disk} {T : List (List UInt8 × Ent)} (h : Rep w a m D T) (n : List UInt8) (x : Ent) (hx : Dm.get T n = some x) (p : Nat)
    (hp : w.heap[p]? = some (.cells #[.pointer (some ⟨x.blk, 0, none⟩)] 69 (0, 0))) (hpx : p ∉ entBlks x) (hr : Dm.Right { D with files := Dm.syncs n D.files }) :
    Calls Tryz.prog 85 #[.pointer (some ⟨p, 0, none⟩)] w fun e w' =>
      e = .returned (.tuple #[]) ∧ Rep w' a m { D with files := Dm.syncs n D.files } (Dm.upd T n (turn x.row { x.file with synced := x.file.data.length })) ∧ Turned (· ∈ entBlks x) w w' := by
  have cp : w.cell? ⟨p, 0, none⟩ = some (.pointer (some ⟨x.blk, 0, none⟩)) := by rw [cell_of_row _ _ _ _ _ _ hp]; rfl
  have hmx := mem_get hx
  have hlt := h.lt
  have he : EntAt w x := h.ents _ hmx
  have hsf : x.blk ∉ rowBlk x.row := h.apart.self _ hmx
  obtain ⟨pr, cap, hrow, -⟩ := he.shape
  obtain ⟨c0, c1, fz⟩ := cells2 he.1
  have f1 := fz 1
  have hpb : p ≠ x.blk := fun e => hpx (by simp [entBlks, e])
  have hE : EntAt (w.drew.setCell ⟨x.blk, 1, none⟩ (.int .i64 (x.file.data.length : Nat))) ⟨x.blk, x.row, { x.file with synced := x.file.data.length }⟩ := by
    refine ⟨by rw [set1 (w := w.drew) he.1]; rfl, he.2.1, ?_⟩
    rcases he.2.2 with h1 | ⟨g, cap', cur, h1, h2, h3, h4⟩
    · exact .inl h1
    · refine .inr ⟨g, cap', cur, h1, h2, (set_other _ _ _ _ _ (fun e => hsf ?_)).trans h3, h4⟩
      rw [h1]; simp [rowBlk, e]
  have hT4 : Turned (· ∈ entBlks x) w (w.drew.setCell ⟨x.blk, 1, none⟩ (.int .i64 (x.file.data.length : Nat))) := (turned_drew (S := (· ∈ entBlks x)) w).trans (turned_setCell (S := (· ∈ entBlks x)) w.drew _ _ (by simp [entBlks])) fun _ e => .inl e
  have hR := h.upd hx (row := x.row) (g := fun f => { f with synced := f.data.length }) hE (fun k hk => .inl hk) (fun k hk hn => hT4.block k hk hn) hr
  have ep : (w.drew.setCell ⟨x.blk, 1, none⟩ (.int .i64 (x.file.data.length : Nat))).cell? ⟨p, 0, none⟩ = some (.pointer (some ⟨x.blk, 0, none⟩)) := by rw [cell_of_row _ _ _ _ _ _ ((set_other _ _ _ _ _ hpb).trans (show w.drew.heap[p]? = _ from hp))]; rfl
  have e0 : (w.drew.setCell ⟨x.blk, 1, none⟩ (.int .i64 (x.file.data.length : Nat))).cell? ⟨x.blk, 0, none⟩ = some x.row := by rw [cell_of_row _ _ _ _ _ _ (set1 (w := w.drew) he.1 _)]; rfl
  rw [hrow] at c0 e0
  have HR := Lib.hid hR
  have HT := Lib.hid hT4
  clear h hx hr he hsf hrow hR hT4 hE hlt hmx hpx fz hp hpb
  go_enter Tryz.func85, Tryz.ntmps85
  go_region_held3 (fun w' => w'.cell? ⟨p, 0, none⟩ = some (.pointer (some ⟨x.blk, 0, none⟩)) ∧ w'.cell? ⟨x.blk, 0, none⟩ = some (.slice pr x.file.data.length cap))
    (first | exact ⟨cp, c0⟩ | exact ⟨ep, e0⟩)
    (first | fail)
  go_wp2
  go_returns
  exact ⟨rfl, HR.out, HT.out⟩
end Go.Proofs.YtoecbkndbcblpaaGreatDoor
