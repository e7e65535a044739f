/-
  Walks over package disk: what a change does: the closures of Create, Append, Sync, Rename, Remove. Conditions: those in the theorems.
  Walks over package disk: Create, Append, Sync, Rename, Remove. Conditions: those in the theorems.
  Walks over package disk: Used. Conditions: those in the theorems.
  Walks over package disk: Sync, Remove, Rename, Append. Conditions: those in the theorems.
  Walks over package disk: Remove, Rename, Append. Conditions: those in the theorems.
  Walks over package disk: Append. Conditions: those in the theorems.
-/
import Derived.Test.YtbhjpkejdkfenaaGreatDoorDiskWalkD
import Derived.Lib.AppendStr
import Derived.Lib.AppendZeros
import Derived.Deep.MidRow
import Derived.Maps.RangeWalk
import Derived.IntWalk
set_option linter.unusedSimpArgs false
set_option linter.unusedVariables false
namespace Go.Proofs.YtbhjpkejdkfenaaGreatDoor
open Go.RowKit Go.Maps

theorem mem_get {T : List (List UInt8 × Ent)} {n : List UInt8} {x : Ent} (h : Dm.get T n = some x) : (n, x) ∈ T := Dm.get_mem h

/-- Rep goes by the heap alone. -/
theorem Rep.heap {w W : World} {a m : Nat} {D : Dm.Disk} {T : List (List UInt8 × Ent)} (h : Rep w a m D T) (hb : ∀ k, k < w.heap.size → W.heap[k]? = w.heap[k]?) : Rep W a m D T :=
  h.keep (fun k hk _ => hb k hk) ((hb a h.lt.1).trans h.cell) rfl h.right

set_option maxHeartbeats 1000000 in
theorem create1_rep {w : World} {a m : Nat} {D : Dm.Disk} {T : List (List UInt8 × Ent)} (h : Rep w a m D T) (s : ByteArray) (hs : s.size ≤ 281474976710656) (p q : Nat)
    (hp : w.heap[p]? = some (.cells #[.pointer (some ⟨a, 0, none⟩)] 43 (0, 0))) (hq : w.heap[q]? = some (.cells #[.string s] 9 (0, 0)))
    (hr : Dm.Right { D with files := Dm.put D.files s.data.toList ⟨[], 0⟩ }) :
    Calls Tryz.prog 62 #[.pointer (some ⟨p, 0, none⟩), .pointer (some ⟨q, 0, none⟩)] w fun e w' =>
      e = .returned (.tuple #[]) ∧ Rep w' a m { D with files := Dm.put D.files s.data.toList ⟨[], 0⟩ } (Dm.put T s.data.toList ⟨w.heap.size, .slice none 0 0, ⟨[], 0⟩⟩) ∧ Turned (· = m) w w' := by
  have cp : w.cell? ⟨p, 0, none⟩ = some (.pointer (some ⟨a, 0, none⟩)) := by rw [cell_of_row _ _ _ _ _ _ hp]; rfl
  have cq : w.cell? ⟨q, 0, none⟩ = some (.string s) := by rw [cell_of_row _ _ _ _ _ _ hq]; rfl
  have hlt := h.lt
  have hR : Rep (w.alloc (.cells #[.slice none 0 0, .int .i64 0] 106)) a m D T := h.heap fun k hk => Below.heap_alloc _ _ _ hk
  have hE : EntAt (w.alloc (.cells #[.slice none 0 0, .int .i64 0] 106)) ⟨w.heap.size, .slice none 0 0, ⟨[], 0⟩⟩ := ⟨heap_alloc_new w _, World.ownsRow_nil _ _ _ _⟩
  have hB : Beside a m T s.data.toList ⟨w.heap.size, .slice none 0 0, ⟨[], 0⟩⟩ := by
    refine ⟨fun k hk => ?_, by simp [rowBlk], fun p hp _ k hk hk2 => ?_⟩ <;> simp [entBlks, rowBlk] at hk <;> subst hk
    · omega
    · have := hlt.2.2 p hp _ hk2; omega
  have HP := Lib.hid (put_rep hR s ⟨w.heap.size, .slice none 0 0, ⟨[], 0⟩⟩ hs hE hB hr)
  clear h hR hE hB hr hp hq hlt
  go_enter Tryz.func62, Tryz.ntmps62
  go_wp2_with fail
  refine HP.out.mono ?_
  rintro e w1 ⟨rfl, hR, hT⟩
  have HR := Lib.hid hR
  have HT := Lib.hid hT
  clear hR hT
  go_wp2
  go_returns
  exact ⟨rfl, HR.out, (turned_alloc (S := (· = m)) w _).trans HT.out fun _ e => .inl e⟩

theorem nothing_any (w : World) : Calls Tryz.prog 64 #[] w fun e w' => e = .returned (.tuple #[]) ∧ w = w' := by
  go_enter Tryz.func64, Tryz.ntmps64
  go_wp2
  go_returns
  exact ⟨rfl, rfl⟩

theorem size_files {w : World} {a m : Nat} {D : Dm.Disk} {T : List (List UInt8 × Ent)} (h : Rep w a m D T) : T.length = D.files.length := by rw [h.files]; simp [filesOf]

set_option maxHeartbeats 1000000 in
theorem remove1_rep {w : World} {a m : Nat} {D : Dm.Disk} {T : List (List UInt8 × Ent)} (h : Rep w a m D T) (s : ByteArray) (hs : s.size ≤ maxLen) (p q : Nat)
    (hp : w.heap[p]? = some (.cells #[.pointer (some ⟨a, 0, none⟩)] 43 (0, 0))) (hq : w.heap[q]? = some (.cells #[.string s] 9 (0, 0)))
    (hpm : p ≠ m) (hqm : q ≠ m) (hr : Dm.Right { D with files := Dm.del D.files s.data.toList }) :
    Calls Tryz.prog 124 #[.pointer (some ⟨p, 0, none⟩), .pointer (some ⟨q, 0, none⟩)] w fun e w' =>
      e = .returned (.tuple #[]) ∧ Rep w' a m { D with files := Dm.del D.files s.data.toList } (Dm.del T s.data.toList) ∧ Turned (· = m) w w' := by
  have cp : w.cell? ⟨p, 0, none⟩ = some (.pointer (some ⟨a, 0, none⟩)) := by rw [cell_of_row _ _ _ _ _ _ hp]; rfl
  have cq : w.cell? ⟨q, 0, none⟩ = some (.string s) := by rw [cell_of_row _ _ _ _ _ _ hq]; rfl
  obtain ⟨-, -, -, -, c4, -⟩ := cells5 h.cell
  have hlt := h.lt
  have hd : ∀ ty, ∃ w3, (Builtin.delete_ #[91, 9] ty #[.map (some m), .string s]).run Tryz.prog w.drew = .ok (.tuple #[]) w3 ∧ Rep w3 a m { D with files := Dm.del D.files s.data.toList } (Dm.del T s.data.toList) ∧ Turned (· = m) w w3 := by
    intro ty
    obtain ⟨w3, hrun, ho3, hg3⟩ := World.ownsMap.drop (w := w.drew) h.map keyS Tryz.underlying91 (keyOfS s hs) ty
    have ht : Turned (· = m) w w3 := (turned_drew (S := (· = m)) w).trans (turned_grown (S := (· = m)) hg3.grown (fun k e => (Option.some.inj e).symm)) (fun _ e => .inl e)
    refine ⟨w3, hrun, ⟨hr, ?_, (ht.block a hlt.1 h.apart.am).trans h.cell, ?_, fun p hp => ?_, h.apart.del _⟩, ht⟩
    · rw [files_del, h.files]
    · rw [del_dat] at ho3
      have := owns_tight ho3
      rw [size_dat] at this
      exact this
    · have hp := (Dm.mem_del.1 hp).1
      exact entAt_of (h.ents _ hp) fun k hk => ht.block k (hlt.2.2 _ hp k hk) (h.apart.out _ hp k hk).2
  obtain ⟨w3, hrun, hR, hT⟩ := hd 0
  have hcp := (hT.block p (Array.getElem?_eq_some_iff.1 hp).1 hpm).trans hp
  have hcq := (hT.block q (Array.getElem?_eq_some_iff.1 hq).1 hqm).trans hq
  have c3 : w3.cell? ⟨p, 0, none⟩ = some (.pointer (some ⟨a, 0, none⟩)) := by rw [cell_of_row _ _ _ _ _ _ hcp]; rfl
  have d3 : w3.cell? ⟨q, 0, none⟩ = some (.string s) := by rw [cell_of_row _ _ _ _ _ _ hcq]; rfl
  obtain ⟨-, -, -, -, e3, -⟩ := cells5 hR.cell
  have HR := Lib.hid hR
  have HT := Lib.hid hT
  clear h hr hp hq hlt hd hR hT hcp hcq
  go_enter Tryz.func124, Tryz.ntmps124
  go_region_held3 (fun w' => w'.cell? ⟨p, 0, none⟩ = some (.pointer (some ⟨a, 0, none⟩)) ∧ w'.cell? ⟨q, 0, none⟩ = some (.string s) ∧ w'.cell? ⟨a, 4, none⟩ = some (.map (some m)))
    (first | exact ⟨cp, cq, c4⟩ | exact ⟨c3, d3, e3⟩)
    (first | fail)
  go_wp2
  go_returns
  exact ⟨rfl, HR.out, HT.out⟩

set_option maxHeartbeats 2000000 in
theorem rename1_rep {w : World} {a m : Nat} {D : Dm.Disk} {T : List (List UInt8 × Ent)} (h : Rep w a m D T) (s t : ByteArray) (hs : s.size ≤ maxLen) (ht2 : t.size ≤ 281474976710656) (x : Ent) (hx : Dm.get T s.data.toList = some x) (p q r u : Nat)
    (hp : w.heap[p]? = some (.cells #[.pointer (some ⟨a, 0, none⟩)] 43 (0, 0))) (hq : w.heap[q]? = some (.cells #[.string s] 9 (0, 0)))
    (hrr : w.heap[r]? = some (.cells #[.string t] 9 (0, 0))) (hu : w.heap[u]? = some (.cells #[.pointer (some ⟨x.blk, 0, none⟩)] 100 (0, 0)))
    (hpm : p ≠ m) (hqm : q ≠ m) (hrm : r ≠ m) (hum : u ≠ m) (hd1 : Dm.Right { D with files := Dm.del D.files s.data.toList }) (hr : Dm.Right { D with files := Dm.put (Dm.del D.files s.data.toList) t.data.toList x.file }) :
    Calls Tryz.prog 103 #[.pointer (some ⟨p, 0, none⟩), .pointer (some ⟨q, 0, none⟩), .pointer (some ⟨r, 0, none⟩), .pointer (some ⟨u, 0, none⟩)] w fun e w' =>
      e = .returned (.tuple #[]) ∧ Rep w' a m { D with files := Dm.put (Dm.del D.files s.data.toList) t.data.toList x.file } (Dm.put (Dm.del T s.data.toList) t.data.toList x) ∧ Turned (· = m) w w' := by
  have cp : w.cell? ⟨p, 0, none⟩ = some (.pointer (some ⟨a, 0, none⟩)) := by rw [cell_of_row _ _ _ _ _ _ hp]; rfl
  have cq : w.cell? ⟨q, 0, none⟩ = some (.string s) := by rw [cell_of_row _ _ _ _ _ _ hq]; rfl
  obtain ⟨-, -, -, -, c4, -⟩ := cells5 h.cell
  have hlt := h.lt
  have hd : ∀ ty, ∃ w3, (Builtin.delete_ #[91, 9] ty #[.map (some m), .string s]).run Tryz.prog w.drew = .ok (.tuple #[]) w3 ∧ Rep w3 a m { D with files := Dm.del D.files s.data.toList } (Dm.del T s.data.toList) ∧ Turned (· = m) w w3 := by
    intro ty
    obtain ⟨w3, hrun, ho3, hg3⟩ := World.ownsMap.drop (w := w.drew) h.map keyS Tryz.underlying91 (keyOfS s hs) ty
    have ht : Turned (· = m) w w3 := (turned_drew (S := (· = m)) w).trans (turned_grown (S := (· = m)) hg3.grown (fun k e => (Option.some.inj e).symm)) (fun _ e => .inl e)
    refine ⟨w3, hrun, ⟨hd1, ?_, (ht.block a hlt.1 h.apart.am).trans h.cell, ?_, fun p hp => ?_, h.apart.del _⟩, ht⟩
    · rw [files_del, h.files]
    · rw [del_dat] at ho3
      have := owns_tight ho3
      rw [size_dat] at this
      exact this
    · have hp := (Dm.mem_del.1 hp).1
      exact entAt_of (h.ents _ hp) fun k hk => ht.block k (hlt.2.2 _ hp k hk) (h.apart.out _ hp k hk).2
  obtain ⟨w3, hrun, hR, hT⟩ := hd 0
  have hcp := (hT.block p (Array.getElem?_eq_some_iff.1 hp).1 hpm).trans hp
  have hcq := (hT.block q (Array.getElem?_eq_some_iff.1 hq).1 hqm).trans hq
  have hcr := (hT.block r (Array.getElem?_eq_some_iff.1 hrr).1 hrm).trans hrr
  have hcu := (hT.block u (Array.getElem?_eq_some_iff.1 hu).1 hum).trans hu
  have c3 : w3.cell? ⟨p, 0, none⟩ = some (.pointer (some ⟨a, 0, none⟩)) := by rw [cell_of_row _ _ _ _ _ _ hcp]; rfl
  have d3 : w3.cell? ⟨q, 0, none⟩ = some (.string s) := by rw [cell_of_row _ _ _ _ _ _ hcq]; rfl
  have r3 : w3.cell? ⟨r, 0, none⟩ = some (.string t) := by rw [cell_of_row _ _ _ _ _ _ hcr]; rfl
  have u3 : w3.cell? ⟨u, 0, none⟩ = some (.pointer (some ⟨x.blk, 0, none⟩)) := by rw [cell_of_row _ _ _ _ _ _ hcu]; rfl
  obtain ⟨-, -, -, -, e3, -⟩ := cells5 hR.cell
  have hmx := mem_get hx
  have hE : EntAt w3 x := entAt_of (h.ents _ hmx) fun k hk => hT.block k (hlt.2.2 _ hmx k hk) (h.apart.out _ hmx k hk).2
  have hB : Beside a m (Dm.del T s.data.toList) t.data.toList x :=
    ⟨h.apart.out _ hmx, h.apart.self _ hmx, fun p hp _ k hk => h.apart.each _ hmx _ (Dm.mem_del.1 hp).1 (Ne.symm (Dm.mem_del.1 hp).2) k hk⟩
  have HP := Lib.hid (put_rep hR t x ht2 hE hB hr)
  have HT := Lib.hid hT
  clear h hr hd1 hp hq hrr hu hlt hd hR hT hcp hcq hcr hcu hE hB hx hmx
  go_enter Tryz.func103, Tryz.ntmps103
  go_wp2_with fail
  go_region_held3 (fun w' => w'.cell? ⟨p, 0, none⟩ = some (.pointer (some ⟨a, 0, none⟩)) ∧ w'.cell? ⟨q, 0, none⟩ = some (.string s) ∧ w'.cell? ⟨a, 4, none⟩ = some (.map (some m)))
    (first | exact ⟨cp, cq, c4⟩ | exact ⟨c3, d3, e3⟩)
    (first | fail)
  clear hrun cp cq c4
  go_wp2_with fail
  refine HP.out.mono ?_
  rintro e w4 ⟨rfl, hR4, hT4⟩
  have HR4 := Lib.hid hR4
  have HT4 := Lib.hid hT4
  clear hR4 hT4
  go_wp2
  go_returns
  exact ⟨rfl, HR4.out, HT.out.trans HT4.out fun _ e => .inl e⟩

theorem upd_congr {α : Type} {l : List (List UInt8 × α)} (hs : Dm.Sorted l) {n : List UInt8} {x : α} (hx : Dm.get l n = some x) {g g' : α → α} (h : g x = g' x) : Dm.upd l n g = Dm.upd l n g' := by
  unfold Dm.upd
  refine List.map_congr_left fun p hp => ?_
  split
  · rename_i e
    have := hs.get (n := p.1) (x := p.2) hp
    rw [e, hx] at this
    rw [← Option.some.inj this, h]
  · rfl
/-- An entry's slice and file are others; its block stays. -/
def turn (row : Value) (f : Dm.File) (e : Ent) : Ent := ⟨e.blk, row, f⟩
theorem upd_dat (T : List (List UInt8 × Ent)) (n : List UInt8) (row : Value) (f : Dm.File) : datOf (Dm.upd T n (turn row f)) = datOf T := by
  unfold datOf Dm.upd; rw [List.map_map]; congr 1; refine List.map_congr_left fun p _ => ?_
  simp only [Function.comp]; split <;> rfl
theorem Rep.upd {w W : World} {a m : Nat} {D : Dm.Disk} {T : List (List UInt8 × Ent)} (h : Rep w a m D T) {n : List UInt8} {x : Ent} (hx : Dm.get T n = some x) {row : Value} {g : Dm.File → Dm.File} (hE : EntAt W ⟨x.blk, row, g x.file⟩)
    (hrow : ∀ k ∈ rowBlk row, k ∈ rowBlk x.row ∨ w.heap.size ≤ k) (hsame : ∀ k, k < w.heap.size → k ∉ entBlks x → W.heap[k]? = w.heap[k]?) (hr : Dm.Right { D with files := Dm.upd D.files n g }) :
    Rep W a m { D with files := Dm.upd D.files n g } (Dm.upd T n (turn row (g x.file))) := by
  have hmx := mem_get hx
  have hlt := h.lt
  have ha : ∀ k, k ∈ entBlks x → k ≠ a ∧ k ≠ m := h.apart.out _ hmx
  have hone : ∀ p ∈ T, p.1 = n → p.2 = x := fun p hp e => by
    have := h.sorted.get (n := p.1) (x := p.2) hp
    rw [e, hx] at this; exact (Option.some.inj this).symm
  have hblk : ∀ k ∈ entBlks (⟨x.blk, row, g x.file⟩ : Ent), k ∈ entBlks x ∨ w.heap.size ≤ k := fun k hk => by
    rcases List.mem_cons.1 hk with rfl | hk
    · exact .inl (by simp [entBlks])
    · rcases hrow k hk with h1 | h1
      · exact .inl (by simp [entBlks, h1])
      · exact .inr h1
  -- each entry is an old one of another name, or the new one
  have hmem : ∀ p ∈ Dm.upd T n (turn row (g x.file)), (p ∈ T ∧ p.1 ≠ n) ∨ p = (n, ⟨x.blk, row, g x.file⟩) := fun p hp => by
    obtain ⟨q, hq, rfl⟩ := Dm.mem_upd.1 hp
    split
    · rename_i e; right; rw [e]; unfold turn; rw [hone q hq e]
    · rename_i e; exact .inl ⟨hq, e⟩
  refine ⟨hr, ?_, ?_, ?_, fun p hp => ?_, ⟨h.apart.am, fun p hp k hk => ?_, fun p hp => ?_, fun p hp q hq hpq k hk => ?_⟩⟩
  · show Dm.upd D.files n g = filesOf _
    rw [h.files]
    unfold filesOf
    rw [Dm.upd_map T n (turn row (g x.file)) (fun _ => g x.file) Ent.file (fun _ => rfl)]
    refine upd_congr ?_ (x := x.file) ?_ rfl
    · have := h.right.sorted; rw [h.files] at this; exact this
    · have := get_files T n; unfold filesOf at this; rw [this, hx]; rfl
  · exact (hsame a hlt.1 fun e => (ha a e).1 rfl).trans h.cell
  · rw [upd_dat, Dm.length_upd]
    exact ownsMap_of h.map (hsame m hlt.2.1 fun e => (ha m e).2 rfl)
  · rcases hmem p hp with ⟨hp, hpn⟩ | rfl
    · exact entAt_of (h.ents p hp) fun k hk => hsame k (hlt.2.2 p hp k hk) fun e => h.apart.each _ hmx _ hp (Ne.symm hpn) k e hk
    · exact hE
  · rcases hmem p hp with ⟨hp, hpn⟩ | rfl
    · exact h.apart.out p hp k hk
    · rcases hblk k hk with h1 | h1
      · exact ha k h1
      · exact ⟨by have := hlt.1; omega, by have := hlt.2.1; omega⟩
  · rcases hmem p hp with ⟨hp, hpn⟩ | rfl
    · exact h.apart.self p hp
    · intro e
      rcases hrow _ e with h1 | h1
      · exact h.apart.self _ hmx h1
      · have := hlt.2.2 _ hmx x.blk (by simp [entBlks]); simp only at h1; omega
  · rcases hmem p hp with ⟨hp, hpn⟩ | rfl <;> rcases hmem q hq with ⟨hq, hqn⟩ | rfl
    · exact h.apart.each p hp q hq hpq k hk
    · intro e
      rcases hblk k e with h1 | h1
      · exact h.apart.each _ hmx _ hp (Ne.symm hpn) k h1 hk
      · have := hlt.2.2 p hp k hk; omega
    · intro e
      rcases hblk k hk with h1 | h1
      · exact h.apart.each _ hmx _ hq (Ne.symm hqn) k h1 e
      · have := hlt.2.2 q hq k e; omega
    · exact absurd rfl hpq
theorem Within.upd {S : Nat → Prop} {a m : Nat} {T : List (List UInt8 × Ent)} (h : Within S a m T) {n : List UInt8} {row : Value} {f : Dm.File} (hx : ∀ k ∈ rowBlk row, S k) : Within S a m (Dm.upd T n (turn row f)) :=
  ⟨h.1, h.2.1, fun p hp k hk => by
    obtain ⟨q, hq, rfl⟩ := Dm.mem_upd.1 hp
    split at hk
    · rcases List.mem_cons.1 hk with rfl | hk
      · exact h.2.2 q hq _ (by simp [entBlks, turn])
      · exact hx k hk
    · exact h.2.2 q hq k hk⟩

theorem infoB : (Tryz.prog.info? 5).map (fun i => (i.zero, i.size, i.bytes)) = some (some (.int .u8 0), 1, 1) := by kernel_rfl
theorem strCells_eq (s : ByteArray) : Lib.strCells s = s.data.toList.map byteV := rfl
theorem append_text (w : World) (v : Value) (n : Nat) (xs : List Value) (hown : w.ownsRow 0 5 1 v n xs) (s : ByteArray) (hl : n + s.size ≤ 140737488355328) (ty : TypeId) :
    ∃ v' w', (Builtin.append_ #[104, 9] ty #[v, .string s]).run Tryz.prog w = .ok v' w' ∧ w'.ownsRow 0 5 1 v' (n + s.size) (xs ++ Lib.strCells s) ∧ w.grownBy w' v.ownBlock ∧ (∀ k ∈ rowBlk v', k ∈ rowBlk v ∨ w.heap.size ≤ k) := by
  obtain ⟨i0, hi0, hz0, hz1, hz2⟩ := info_parts infoB
  have hsmall : n + s.size ≤ maxLen := by unfold maxLen; omega
  rcases hown.2 with ⟨rfl, rfl⟩ | ⟨g, cap, cur, rfl, -, hg, hnc, hcm, hcs, htake⟩
  · have ho : w.ownsRow w.heap.size 5 1 (.slice none 0 0) 0 xs := ⟨hown.1, .inl ⟨rfl, rfl⟩⟩
    obtain ⟨v', w', hr, h2, h3, -⟩ := Lib.run_append_own_string (P := Tryz.prog) w w.heap.size 104 9 ty 5 i0 Tryz.underlying104 Tryz.underlying9 hi0 hz0 hz1 hz2 _ _ _ ho s hsmall hl (Nat.le_refl _)
    refine ⟨v', w', hr, ⟨h2.1, h2.2.imp id fun ⟨g, cap, cur, a1, _, a3⟩ => ⟨g, cap, cur, a1, Nat.zero_le _, a3⟩⟩, h3, fun k hk => ?_⟩
    rcases h2.2 with ⟨rfl, _⟩ | ⟨g, cap, cur, rfl, hb, _⟩
    · cases hk
    · simp [rowBlk] at hk; subst hk; exact .inr hb
  · obtain ⟨v', w', hr, h2, h3, -⟩ := Lib.run_append_own_string (P := Tryz.prog) w 0 104 9 ty 5 i0 Tryz.underlying104 Tryz.underlying9 hi0 hz0 hz1 hz2 _ _ _ hown s hsmall hl (Nat.zero_le _)
    refine ⟨v', w', hr, h2, h3, fun k hk => ?_⟩
    by_cases hroom : n + s.size ≤ cap
    · have hr2 := Lib.run_append_room_string (P := Tryz.prog) w 104 9 ty 5 i0 Tryz.underlying104 Tryz.underlying9 hi0 hz1 g n cap cur hg s hroom (by omega)
      rw [hr] at hr2
      obtain ⟨rfl, -⟩ := Result.ok.inj hr2
      exact .inl hk
    · have holds : ∀ j u, xs[j]? = some u → w.cell? ((⟨g, 0, none⟩ : Addr).add j) = some u := hown.cells (g := g) rfl
      have hr2 := Lib.run_append_grow_string (P := Tryz.prog) w 104 9 ty 5 i0 (.int .u8 0) Tryz.underlying104 Tryz.underlying9 hi0 hz0 ⟨g, 0, none⟩ n cap xs (by rw [hz1]; exact hown.1) holds s (by omega) (by omega) (by rw [hz2]; exact growslice_fits (by omega) (by omega))
      rw [hr] at hr2
      obtain ⟨rfl, -⟩ := Result.ok.inj hr2
      simp [rowBlk] at hk; subst hk; exact .inr (Nat.le_refl _)

set_option maxHeartbeats 2000000 in
theorem append1_rep {w : World} {a m : Nat} {D : Dm.Disk} {T : List (List UInt8 × Ent)} (h : Rep w a m D T) (n : List UInt8) (s : ByteArray) (x : Ent) (hx : Dm.get T n = some x) (p q : Nat)
    (hp : w.heap[p]? = some (.cells #[.pointer (some ⟨x.blk, 0, none⟩)] 100 (0, 0))) (hq : w.heap[q]? = some (.cells #[.string s] 9 (0, 0)))
    (hpx : p ∉ entBlks x) (hqx : q ∉ entBlks x) (hr : Dm.Right { D with files := Dm.adds n s.data.toList D.files }) (hl : x.file.data.length + s.size ≤ 1048576) :
    Calls Tryz.prog 102 #[.pointer (some ⟨p, 0, none⟩), .pointer (some ⟨q, 0, none⟩)] w fun e w' =>
      e = .returned (.tuple #[]) ∧ ∃ row, Rep w' a m { D with files := Dm.adds n s.data.toList D.files } (Dm.upd T n (turn row { x.file with data := x.file.data ++ s.data.toList })) ∧ (∀ k ∈ rowBlk row, k ∈ rowBlk x.row ∨ w.heap.size ≤ k) ∧ Turned (· ∈ entBlks x) w w' := by
  have cp : w.cell? ⟨p, 0, none⟩ = some (.pointer (some ⟨x.blk, 0, none⟩)) := by rw [cell_of_row _ _ _ _ _ _ hp]; rfl
  have cq : w.cell? ⟨q, 0, none⟩ = some (.string s) := by rw [cell_of_row _ _ _ _ _ _ hq]; rfl
  have hmx := mem_get hx
  have hlt := h.lt
  have he : EntAt w x := h.ents _ hmx
  have hsf : x.blk ∉ rowBlk x.row := h.apart.self _ hmx
  have hpz := (Array.getElem?_eq_some_iff.1 hp).1
  have hqz := (Array.getElem?_eq_some_iff.1 hq).1
  have hbz : x.blk < w.heap.size := hlt.2.2 _ hmx _ (by simp [entBlks])
  obtain ⟨pr, cap, hrow, -⟩ := he.shape
  obtain ⟨c0, -, -⟩ := cells2 he.1
  obtain ⟨v', w3, hrun, ho, hg, hbk⟩ := append_text w.drew x.row _ _ he.2 s (by omega) 104
  rw [strCells_eq, ← List.map_append] at ho
  have hlen : x.file.data.length + s.size = (x.file.data ++ s.data.toList).length := by rw [List.length_append, show s.data.toList.length = s.size from by simp]
  rw [hlen] at ho
  obtain ⟨pv, cv, nl, rfl⟩ : ∃ pv cv nl, v' = .slice pv nl cv := by
    rcases ho.2 with ⟨h1, h2⟩ | ⟨g, c, _, h1, _⟩
    · exact ⟨none, 0, 0, h1⟩
    · exact ⟨_, _, _, h1⟩
  have hown : ∀ k, x.row.ownBlock = some k → k ∈ rowBlk x.row := fun k hk => by
    rw [hrow] at hk ⊢; cases pr <;> simp [Value.ownBlock, rowBlk] at hk ⊢; exact hk.symm
  have hT3 : Turned (· ∈ rowBlk x.row) w w3 := (turned_drew (S := (· ∈ rowBlk x.row)) w).trans (turned_grown (S := (· ∈ rowBlk x.row)) hg hown) fun _ e => .inl e
  have hb3 := (hT3.block x.blk hbz hsf).trans he.1
  have hp3 := (hT3.block p hpz fun e => hpx (by simp [entBlks, e])).trans hp
  have hq3 := (hT3.block q hqz fun e => hqx (by simp [entBlks, e])).trans hq
  obtain ⟨d0, -, fz⟩ := cells2 hb3
  have f0 := fz 0
  have dp : w3.cell? ⟨p, 0, none⟩ = some (.pointer (some ⟨x.blk, 0, none⟩)) := by rw [cell_of_row _ _ _ _ _ _ hp3]; rfl
  have dq : w3.cell? ⟨q, 0, none⟩ = some (.string s) := by rw [cell_of_row _ _ _ _ _ _ hq3]; rfl
  have hpb : p ≠ x.blk := fun e => hpx (by simp [entBlks, e])
  have hqb : q ≠ x.blk := fun e => hqx (by simp [entBlks, e])
  have ep : (w3.setCell ⟨x.blk, 0, none⟩ (.slice pv nl cv)).cell? ⟨p, 0, none⟩ = some (.pointer (some ⟨x.blk, 0, none⟩)) := by rw [cell_of_row _ _ _ _ _ _ ((set_other _ _ _ _ _ hpb).trans hp3)]; rfl
  have eq : (w3.setCell ⟨x.blk, 0, none⟩ (.slice pv nl cv)).cell? ⟨q, 0, none⟩ = some (.string s) := by rw [cell_of_row _ _ _ _ _ _ ((set_other _ _ _ _ _ hqb).trans hq3)]; rfl
  have hne : ∀ k ∈ rowBlk (.slice pv nl cv), k ≠ x.blk := fun k hk => by
    rcases hbk k hk with h1 | h1
    · intro e; exact hsf (e ▸ h1)
    · have : w.heap.size ≤ k := h1; omega
  have hE : EntAt (w3.setCell ⟨x.blk, 0, none⟩ (.slice pv nl cv)) ⟨x.blk, (.slice pv nl cv), { x.file with data := x.file.data ++ s.data.toList }⟩ := by
    refine ⟨by rw [set1 hb3]; rfl, ho.1, ?_⟩
    rcases ho.2 with h1 | ⟨g, cap', cur, h1, h2, h3, h4⟩
    · exact .inl h1
    · exact .inr ⟨g, cap', cur, h1, h2, (set_other _ _ _ _ _ (hne g (by rw [h1]; simp [rowBlk]))).trans h3, h4⟩
  have hT4 : Turned (· ∈ entBlks x) w (w3.setCell ⟨x.blk, 0, none⟩ (.slice pv nl cv)) := (hT3.mono (S' := (· ∈ entBlks x)) fun k hk => by simp [entBlks, hk]).trans (turned_setCell (S := (· ∈ entBlks x)) w3 _ _ (by simp [entBlks])) fun _ e => .inl e
  have HR := Lib.hid (h.upd hx (row := (.slice pv nl cv)) (g := fun f => { f with data := f.data ++ s.data.toList }) hE (fun k hk => hbk k hk) (fun k hk hn => hT4.block k hk hn) hr)
  have HT := Lib.hid hT4
  have HK := Lib.hid hbk
  clear h hx hr he hsf ho hg hbk hlen hown hT3 hb3 hp3 hq3 hp hq hE hT4 hne fz hlt hmx hpx hqx hpz hqz hbz hl
  rw [hrow] at c0 hrun d0
  clear hrow
  go_enter Tryz.func102, Tryz.ntmps102
  refine wp_region_held_drew (S := fun w' => w'.cell? ⟨p, 0, none⟩ = some (.pointer (some ⟨x.blk, 0, none⟩)) ∧ w'.cell? ⟨q, 0, none⟩ = some (.string s)) (by kernel_rfl) ⟨cp, cq⟩ (fun hHeld => ?_)
  refine wpAnyH_take (i := 0) (oi := _) (v := ?_) rfl (by kernel_rfl) (by kernel_rfl) (by kernel_rfl) (fun _ _ _ h => h) (Or.inl ⟨by rfl, ?_⟩) hHeld ?_
  rotate_left 1
  · (intro w hSw; obtain ⟨hS1, hS2⟩ := hSw; go_simp; (try with_reducible rfl))
  simp only [Act.put, List.setIfInBounds_toArray, List.set_cons_zero, List.set_cons_succ]
  refine wpAnyH_take (i := 1) (oi := _) (v := ?_) rfl (by kernel_rfl) (by kernel_rfl) (by kernel_rfl) (fun _ _ _ h => h) (Or.inl ⟨by rfl, ?_⟩) hHeld ?_
  rotate_left 1
  · (intro w hSw; obtain ⟨hS1, hS2⟩ := hSw; go_simp; (try with_reducible rfl))
  simp only [Act.put, List.setIfInBounds_toArray, List.set_cons_zero, List.set_cons_succ]
  refine wpAnyH_take (i := 2) (oi := _) (v := ?_) rfl (by kernel_rfl) (by kernel_rfl) (by kernel_rfl) (fun _ _ _ h => h) (Or.inl ⟨by rfl, ?_⟩) hHeld ?_
  rotate_left 1
  · (intro w hSw; obtain ⟨hS1, hS2⟩ := hSw; go_simp; (try with_reducible rfl))
  simp only [Act.put, List.setIfInBounds_toArray, List.set_cons_zero, List.set_cons_succ]
  refine wpAnyH_take (i := 3) (oi := _) (v := ?_) rfl (by kernel_rfl) (by kernel_rfl) (by kernel_rfl) (fun _ _ _ h => h) (Or.inl ⟨by rfl, ?_⟩) hHeld ?_
  rotate_left 1
  · (intro w hSw; obtain ⟨hS1, hS2⟩ := hSw; go_simp; (try with_reducible rfl))
  simp only [Act.put, List.setIfInBounds_toArray, List.set_cons_zero, List.set_cons_succ]
  refine wpAnyH_take (i := 5) (oi := _) (v := ?_) rfl (by kernel_rfl) (by kernel_rfl) (by kernel_rfl) (fun _ _ _ h => h) (Or.inl ⟨by rfl, ?_⟩) hHeld ?_
  rotate_left 1
  · (intro w hSw; obtain ⟨hS1, hS2⟩ := hSw; go_simp; (try with_reducible rfl))
  simp only [Act.put, List.setIfInBounds_toArray, List.set_cons_zero, List.set_cons_succ]
  refine wpAnyH_ready (rs := [4]) (by kernel_rfl) (by simp) ?_
  refine AllReadyH.cons (o := _) rfl (fun K hK => ?_) AllReadyH.nil
  go_simp
  refine hK.out _ _ ⟨cp, cq⟩ (fun hHeld => ?_)
  clear hK K
  try simp only [Act.put, List.setIfInBounds_toArray, List.set_cons_zero, List.set_cons_succ]
  refine wpAnyH_ready (rs := [6]) (by kernel_rfl) (by simp) ?_
  refine AllReadyH.cons (o := _) rfl (fun K hK => ?_) AllReadyH.nil
  rw [if_pos (by rfl)]
  refine Lib.wp_append_run _ (.tmp 6) (.tmp 7) 104 9 rfl _ _ rfl rfl _ _ hrun ?_
  simp only [Act.put, List.setIfInBounds_toArray, List.set_cons_zero, List.set_cons_succ]
  refine hK.out _ _ ⟨dp, dq⟩ (fun hHeld => ?_)
  clear hK K
  try simp only [Act.put, List.setIfInBounds_toArray, List.set_cons_zero, List.set_cons_succ]
  refine wpAnyH_take (i := 7) (oi := _) (v := ?_) rfl (by kernel_rfl) (by kernel_rfl) (by kernel_rfl) (fun _ _ _ h => h) (Or.inl ⟨by rfl, ?_⟩) hHeld ?_
  rotate_left 1
  · (intro w hSw; obtain ⟨hS1, hS2⟩ := hSw; go_simp; (try with_reducible rfl))
  simp only [Act.put, List.setIfInBounds_toArray, List.set_cons_zero, List.set_cons_succ]
  refine wpAnyH_take (i := 8) (oi := _) (v := ?_) rfl (by kernel_rfl) (by kernel_rfl) (by kernel_rfl) (fun _ _ _ h => h) (Or.inl ⟨by rfl, ?_⟩) hHeld ?_
  rotate_left 1
  · (intro w hSw; obtain ⟨hS1, hS2⟩ := hSw; go_simp; (try with_reducible rfl))
  simp only [Act.put, List.setIfInBounds_toArray, List.set_cons_zero, List.set_cons_succ]
  refine wpAnyH_ready (rs := [9]) (by kernel_rfl) (by simp) ?_
  refine AllReadyH.cons (o := _) rfl (fun K hK => ?_) AllReadyH.nil
  go_simp
  refine hK.out _ _ ⟨ep, eq⟩ (fun hHeld => ?_)
  clear hK K
  try simp only [Act.put, List.setIfInBounds_toArray, List.set_cons_zero, List.set_cons_succ]
  refine wpAnyH_done (by kernel_rfl) ?_ _
  go_wp2
  go_returns
  exact ⟨rfl, _, HR.out, HK.out, HT.out⟩

set_option maxHeartbeats 2000000 in
theorem sync1_rep {w : World} {a m : Nat} {D : Dm.Disk} {T : List (List UInt8 × Ent)} (h : Rep w a m D T) (n : List UInt8) (x : Ent) (hx : Dm.get T n = some x) (p : Nat)
    (hp : w.heap[p]? = some (.cells #[.pointer (some ⟨x.blk, 0, none⟩)] 100 (0, 0))) (hpx : p ∉ entBlks x) (hr : Dm.Right { D with files := Dm.syncs n D.files }) :
    Calls Tryz.prog 98 #[.pointer (some ⟨p, 0, none⟩)] w fun e w' =>
      e = .returned (.tuple #[]) ∧ Rep w' a m { D with files := Dm.syncs n D.files } (Dm.upd T n (turn x.row { x.file with synced := x.file.data.length })) ∧ Turned (· ∈ entBlks x) w w' := by
  have cp : w.cell? ⟨p, 0, none⟩ = some (.pointer (some ⟨x.blk, 0, none⟩)) := by rw [cell_of_row _ _ _ _ _ _ hp]; rfl
  have hmx := mem_get hx
  have hlt := h.lt
  have he : EntAt w x := h.ents _ hmx
  have hsf : x.blk ∉ rowBlk x.row := h.apart.self _ hmx
  obtain ⟨pr, cap, hrow, -⟩ := he.shape
  obtain ⟨c0, c1, fz⟩ := cells2 he.1
  have f1 := fz 1
  have hpb : p ≠ x.blk := fun e => hpx (by simp [entBlks, e])
  have hE : EntAt (w.drew.setCell ⟨x.blk, 1, none⟩ (.int .i64 (x.file.data.length : Nat))) ⟨x.blk, x.row, { x.file with synced := x.file.data.length }⟩ := by
    refine ⟨by rw [set1 (w := w.drew) he.1]; rfl, he.2.1, ?_⟩
    rcases he.2.2 with h1 | ⟨g, cap', cur, h1, h2, h3, h4⟩
    · exact .inl h1
    · refine .inr ⟨g, cap', cur, h1, h2, (set_other _ _ _ _ _ (fun e => hsf ?_)).trans h3, h4⟩
      rw [h1]; simp [rowBlk, e]
  have hT4 : Turned (· ∈ entBlks x) w (w.drew.setCell ⟨x.blk, 1, none⟩ (.int .i64 (x.file.data.length : Nat))) := (turned_drew (S := (· ∈ entBlks x)) w).trans (turned_setCell (S := (· ∈ entBlks x)) w.drew _ _ (by simp [entBlks])) fun _ e => .inl e
  have hR := h.upd hx (row := x.row) (g := fun f => { f with synced := f.data.length }) hE (fun k hk => .inl hk) (fun k hk hn => hT4.block k hk hn) hr
  have ep : (w.drew.setCell ⟨x.blk, 1, none⟩ (.int .i64 (x.file.data.length : Nat))).cell? ⟨p, 0, none⟩ = some (.pointer (some ⟨x.blk, 0, none⟩)) := by rw [cell_of_row _ _ _ _ _ _ ((set_other _ _ _ _ _ hpb).trans (show w.drew.heap[p]? = _ from hp))]; rfl
  have e0 : (w.drew.setCell ⟨x.blk, 1, none⟩ (.int .i64 (x.file.data.length : Nat))).cell? ⟨x.blk, 0, none⟩ = some x.row := by rw [cell_of_row _ _ _ _ _ _ (set1 (w := w.drew) he.1 _)]; rfl
  rw [hrow] at c0 e0
  have HR := Lib.hid hR
  have HT := Lib.hid hT4
  clear h hx hr he hsf hrow hR hT4 hE hlt hmx hpx fz hp hpb
  go_enter Tryz.func98, Tryz.ntmps98
  go_region_held3 (fun w' => w'.cell? ⟨p, 0, none⟩ = some (.pointer (some ⟨x.blk, 0, none⟩)) ∧ w'.cell? ⟨x.blk, 0, none⟩ = some (.slice pr x.file.data.length cap))
    (first | exact ⟨cp, c0⟩ | exact ⟨ep, e0⟩)
    (first | fail)
  go_wp2
  go_returns
  exact ⟨rfl, HR.out, HT.out⟩
end Go.Proofs.YtbhjpkejdkfenaaGreatDoor
namespace Go.Proofs.YtbhjpkejdkfenaaGreatDoor
open Go.RowKit Go.Maps

/-- S, and all blocks that are new since w. -/
def Grow (S : Nat → Prop) (w : World) (k : Nat) : Prop := S k ∨ w.heap.size ≤ k
theorem grow_old {S : Nat → Prop} {w : World} (k : Nat) (h : S k) : Grow S w k := .inl h
theorem grow_new {S : Nat → Prop} {w : World} (k : Nat) (h : w.heap.size ≤ k) : Grow S w k := .inr h

def lookV (T : List (List UInt8 × Ent)) (n : List UInt8) : Value := match Dm.get T n with
  | some x => .pointer (some ⟨x.blk, 0, none⟩)
  | none => .pointer none
theorem look_rep {w : World} {a m : Nat} {D : Dm.Disk} {T : List (List UInt8 × Ent)} (h : Rep w a m D T) (s : ByteArray) (hm : s.size ≤ maxLen) :
    (Instr.lookup 91 (.map (some m)) (.string s) true).run Tryz.prog w = .ok (.tuple #[lookV T s.data.toList, .bool (Dm.get T s.data.toList).isSome]) w := by
  obtain ⟨v, ps, hrun, hv⟩ := h.map.look_ok keyS Tryz.underlying91 (zeroFile _) (zd := .lit (.int .i64 (-1))) (zp := []) rfl (keyOfS s hm)
  rw [has_dat] at hrun
  rw [hrun]
  unfold lookV
  cases hq : Dm.get T s.data.toList with
  | none =>
    rw [Maps.atKey_of_not_has (by rw [has_dat, hq]; rfl)] at hv
    rw [ptrR_none hv]
  | some x =>
    rw [at_dat hq] at hv
    rw [ptrR_inv hv]
theorem len_rep {w : World} {a m : Nat} {D : Dm.Disk} {T : List (List UInt8 × Ent)} (h : Rep w a m D T) (ty : TypeId) :
    (Builtin.len_ #[91] ty #[.map (some m)]).run Tryz.prog w = .ok (.int .i64 (D.files.length : Nat)) w := by
  have := h.map.len Tryz.underlying91 ty
  rw [size_dat, size_files h] at this
  exact this
theorem Rep.new2 {w : World} {a m : Nat} {D : Dm.Disk} {T : List (List UInt8 × Ent)} (h : Rep w a m D T) (o1 o2 : Obj) : Rep ((w.alloc o1).alloc o2) a m D T :=
  h.heap fun k hk => (Below.heap_alloc _ _ _ (by simp; omega)).trans (Below.heap_alloc _ _ _ hk)
theorem two_new (w : World) (o1 o2 : Obj) : ((w.alloc o1).alloc o2).heap[w.heap.size]? = some o1 ∧ ((w.alloc o1).alloc o2).heap[w.heap.size + 1]? = some o2 :=
  ⟨(Below.heap_alloc _ _ _ (by simp)).trans (heap_alloc_new w o1), by have := heap_alloc_new (w.alloc o1) o2; rw [World.size_alloc] at this; exact this⟩
theorem turned_two {S : Nat → Prop} (w : World) (o1 o2 : Obj) : Turned S w ((w.alloc o1).alloc o2) := (turned_alloc (S := S) w o1).trans (turned_alloc (S := S) _ o2) fun _ e => .inl e

theorem Disk.drewN {S : Nat → Prop} {w : World} {a : Nat} {D : Dm.Disk} (h : Disk w a D S) (q : Nat) : Disk (w.drewN q) a D S := by
  obtain ⟨m, T, h1, h2⟩ := h; exact ⟨m, T, h1.heap fun _ _ => rfl, h2⟩
theorem Turned.drewN {S : Nat → Prop} {w w' : World} (h : Turned S w w') (q : Nat) : Turned S w (w'.drewN q) := ⟨h.os, h.tape, h.output, h.size, h.block⟩

set_option maxRecDepth 100000 in
set_option maxHeartbeats 2000000 in
theorem Create_disk {w : World} {a : Nat} {D : Dm.Disk} {S : Nat → Prop} (h : Disk w a D S) (s : ByteArray) (hm : s.size ≤ maxLen) :
    Calls Tryz.prog 31 #[.pointer (some ⟨a, 0, none⟩), .string s] w fun e w' =>
      e = .returned (.int .i64 ((Dm.create D s.data.toList).1 : Nat)) ∧ Disk w' a (Dm.create D s.data.toList).2 (Grow S w) ∧ Turned S w w' := by
  obtain ⟨m, T, hR, hS⟩ := h
  have hR2 := hR.new2 (.cells #[.pointer (some ⟨a, 0, none⟩)] 43) (.cells #[.string s] 9)
  have hlt := hR.lt
  have hT2 := turned_two (S := S) w (.cells #[.pointer (some ⟨a, 0, none⟩)] 43) (.cells #[.string s] 9)
  obtain ⟨hp, hq⟩ := two_new w (.cells #[.pointer (some ⟨a, 0, none⟩)] 43) (.cells #[.string s] 9)
  have hz : ((w.alloc (.cells #[.pointer (some ⟨a, 0, none⟩)] 43)).alloc (.cells #[.string s] 9)).heap.size = w.heap.size + 2 := by simp
  have hrd := ready_any a m D _ hR2.cell
  have hsame : Disk ((w.alloc (.cells #[.pointer (some ⟨a, 0, none⟩)] 43)).alloc (.cells #[.string s] 9)) a D (Grow S w) := ⟨m, T, hR2, hS.mono grow_old⟩
  have hgt := hR.get s.data.toList
  have hrt := hR.right
  cases hd : D.down with
  | true =>
    have hv : Dm.create D s.data.toList = (7, D) := by unfold Dm.create; rw [hd]; rfl
    rw [hv]
    rw [hd] at hrd
    have HS := Lib.hid hsame
    have HT := Lib.hid hT2
    clear hR hR2 hlt hT2 hp hq hz hsame hgt hrt hd hv
    go_enter Tryz.func31, Tryz.ntmps31
    go_wp2_with fail
    refine hrd.mono ?_
    rintro e w1 ⟨rfl, rfl⟩
    go_wp2
    go_ret
    exact ⟨rfl, HS.out, HT.out⟩
  | false =>
    rw [hd] at hrd
    cases hn : Dm.isName s.data.toList with
    | false =>
      have hv : Dm.create D s.data.toList = (1, D) := by unfold Dm.create; rw [hd, hn]; rfl
      rw [hv]
      have hnm := isNameAny s ((w.alloc (.cells #[.pointer (some ⟨a, 0, none⟩)] 43)).alloc (.cells #[.string s] 9)) hm
      rw [hn] at hnm
      have HS := Lib.hid hsame
      have HT := Lib.hid hT2
      clear hR hR2 hlt hT2 hp hq hz hsame hgt hrt hd hv hn
      go_enter Tryz.func31, Tryz.ntmps31
      go_wp2_with fail
      refine hrd.mono ?_
      rintro e w1 ⟨rfl, rfl⟩
      go_wp2_with fail
      refine hnm.mono ?_
      rintro e w1 ⟨rfl, rfl⟩
      go_wp2
      go_ret
      exact ⟨rfl, HS.out, HT.out⟩
    | true =>
      have hnm := isNameAny s ((w.alloc (.cells #[.pointer (some ⟨a, 0, none⟩)] 43)).alloc (.cells #[.string s] 9)) hm
      rw [hn] at hnm
      have hlk := fun q => look_rep (w := ((w.alloc (.cells #[.pointer (some ⟨a, 0, none⟩)] 43)).alloc (.cells #[.string s] 9)).drewN q) (hR2.heap fun _ _ => rfl) s hm
      obtain ⟨-, -, -, -, c4, -⟩ := cells5 hR2.cell
      cases hg : Dm.get T s.data.toList with
      | some x =>
        have hv : Dm.create D s.data.toList = (5, D) := by unfold Dm.create; rw [hd, hn, hgt, hg]; rfl
        rw [hv]
        rw [hg] at hlk
        have HS := Lib.hid hsame
        have HT := Lib.hid hT2
        clear hR hR2 hlt hT2 hp hq hz hsame hgt hrt hd hv hn hg
        generalize lookV T s.data.toList = lv at hlk
        go_enter Tryz.func31, Tryz.ntmps31
        go_wp2_with fail
        refine hrd.mono ?_
        rintro e w1 ⟨rfl, rfl⟩
        go_wp2_with fail
        refine hnm.mono ?_
        rintro e w1 ⟨rfl, rfl⟩
        go_wp2_with fail
        go_quiet (fail)
        go_wp2
        go_ret
        exact ⟨rfl, HS.out.drewN _, HT.out.drewN _⟩
      | none =>
        rw [hg] at hlk
        have hlv : lookV T s.data.toList = .pointer none := by unfold lookV; rw [hg]
        have hln := fun q ty => len_rep (w := ((w.alloc (.cells #[.pointer (some ⟨a, 0, none⟩)] 43)).alloc (.cells #[.string s] 9)).drewN q) (hR2.heap fun _ _ => rfl) ty
        rw [hlv] at hlk
        by_cases hl : 256 ≤ D.files.length
        · have hv : Dm.create D s.data.toList = (6, D) := by unfold Dm.create; rw [hd, hn, hgt, hg, if_pos hl]; rfl
          rw [hv]
          have hl2 : (256 : Int) ≤ (D.files.length : Int) := by omega
          have HS := Lib.hid hsame
          have HT := Lib.hid hT2
          clear hR hR2 hlt hT2 hp hq hz hsame hgt hrt hd hv hn hg hl hlv
          generalize D.files.length = nf at hln hl2
          go_enter Tryz.func31, Tryz.ntmps31
          go_wp2_with fail
          refine hrd.mono ?_
          rintro e w1 ⟨rfl, rfl⟩
          go_wp2_with fail
          refine hnm.mono ?_
          rintro e w1 ⟨rfl, rfl⟩
          go_wp2_with fail
          go_quiet (fail)
          go_wp2
          go_ret
          exact ⟨rfl, HS.out.drewN _, HT.out.drewN _⟩
        · have hl2 : ¬ (256 : Int) ≤ (D.files.length : Int) := by omega
          have hlen := Dm.isName_len hn
          rw [show s.data.toList.length = s.size from by simp] at hlen
          have hnew : ∀ b u, u ≤ 9223372036854775807 → Dm.Right { D with down := b, fuse := u, files := Dm.put D.files s.data.toList ⟨[], 0⟩ } := fun b u hu => by
            refine hrt.files b u hu (hrt.sorted.put _ _) (fun p hp => ?_) (by have := Dm.length_put_le D.files s.data.toList (⟨[], 0⟩ : Dm.File); omega) (fun p hp => ?_)
            · rcases Dm.mem_put.1 hp with rfl | ⟨hp, _⟩
              · exact hn
              · exact hrt.names p hp
            · rcases Dm.mem_put.1 hp with rfl | ⟨hp, _⟩
              · simp
              · exact hrt.short p hp
          have hfu := hrt.fuse
          have hS2 := hS
          by_cases hf : D.fuse = 1
          · have hv : Dm.create D s.data.toList = (7, { D with down := true, fuse := 0 }) := by unfold Dm.create Dm.change; rw [hd, hn, hgt, hg, if_neg hl, if_pos hf]; rfl
            rw [hv]
            have hch := fun q => change_goes (w := ((w.alloc (.cells #[.pointer (some ⟨a, 0, none⟩)] 43)).alloc (.cells #[.string s] 9)).drewN q) (hR2.heap fun _ _ => rfl) hf (g := 64) (cb := #[]) (enters_of Tryz.func64 (by kernel_rfl) rfl)
              (.func (.func 62) #[] #[.pointer (some ⟨w.heap.size, 0, none⟩), .pointer (some ⟨w.heap.size + 1, 0, none⟩)]) (fun w' => Disk w' a { D with down := true, fuse := 0 } (Grow S w) ∧ Turned S w w')
              (fun W hRW hTW => (nothing_any W).mono fun e w' ⟨he, hw⟩ => ⟨he, by rw [← hw]; exact ⟨⟨m, T, hRW, hS.mono grow_old⟩, (hT2.drewN q).trans hTW fun i e => .inl (e ▸ hS.1)⟩⟩)
            have HC := Lib.hid hch
            clear hR hR2 hlt hT2 hp hq hz hsame hgt hrt hd hv hn hg hl hlv hch hnew hS hS2 hf hfu hlen
            generalize D.files.length = nf at hln hl2
            go_enter Tryz.func31, Tryz.ntmps31
            go_wp2_with fail
            refine hrd.mono ?_
            rintro e w1 ⟨rfl, rfl⟩
            go_wp2_with fail
            refine hnm.mono ?_
            rintro e w1 ⟨rfl, rfl⟩
            go_wp2_with fail
            go_quiet (fail)
            go_wp2_with fail
            refine (HC.out _).mono ?_
            rintro e w1 ⟨rfl, hq⟩
            have HQ := Lib.hid hq
            clear hq
            go_wp2
            go_ret
            exact ⟨rfl, HQ.out⟩
          · have hv : Dm.create D s.data.toList = (0, { D with fuse := D.fuse - 1, files := Dm.put D.files s.data.toList ⟨[], 0⟩ }) := by unfold Dm.create Dm.change; rw [hd, hn, hgt, hg, if_neg hl, if_neg hf]; rfl
            rw [hv]
            have hch := fun q => change_on (w := ((w.alloc (.cells #[.pointer (some ⟨a, 0, none⟩)] 43)).alloc (.cells #[.string s] 9)).drewN q) (hR2.heap fun _ _ => rfl) hf (g := 62) (cb := #[.pointer (some ⟨w.heap.size, 0, none⟩), .pointer (some ⟨w.heap.size + 1, 0, none⟩)]) (enters_of Tryz.func62 (by kernel_rfl) rfl)
              (.func (.func 64) #[] #[]) (fun w' => Disk w' a { D with fuse := D.fuse - 1, files := Dm.put D.files s.data.toList ⟨[], 0⟩ } (Grow S w) ∧ Turned S w w')
              (fun W hRW hTW => (create1_rep hRW s (by omega) w.heap.size (w.heap.size + 1) ((hTW.block _ (show w.heap.size < _ by rw [World.heap_drewN, hz]; omega) (by omega)).trans hp) ((hTW.block _ (show w.heap.size + 1 < _ by rw [World.heap_drewN, hz]; omega) (by omega)).trans hq) (hnew D.down (D.fuse - 1) (by omega))).mono fun e w' ⟨he, hR', hT'⟩ =>
                ⟨he, ⟨m, _, hR', (hS.mono grow_old).put fun k hk => by simp [entBlks, rowBlk] at hk; subst hk; exact grow_new _ (by have := hTW.size; rw [World.heap_drewN, hz] at this; omega)⟩,
                  ((hT2.drewN q).trans hTW fun i e => .inl (e ▸ hS.1)).trans hT' fun i e => .inl (e ▸ hS.2.1)⟩)
            have HC := Lib.hid hch
            clear hR hR2 hlt hT2 hp hq hz hsame hgt hrt hd hv hn hg hl hlv hch hnew hS hS2 hf hfu hlen
            generalize D.files.length = nf at hln hl2
            go_enter Tryz.func31, Tryz.ntmps31
            go_wp2_with fail
            refine hrd.mono ?_
            rintro e w1 ⟨rfl, rfl⟩
            go_wp2_with fail
            refine hnm.mono ?_
            rintro e w1 ⟨rfl, rfl⟩
            go_wp2_with fail
            go_quiet (fail)
            go_wp2_with fail
            refine (HC.out _).mono ?_
            rintro e w1 ⟨rfl, hq⟩
            have HQ := Lib.hid hq
            clear hq
            go_wp2
            go_ret
            exact ⟨rfl, HQ.out⟩
end Go.Proofs.YtbhjpkejdkfenaaGreatDoor
namespace Go.Proofs.YtbhjpkejdkfenaaGreatDoor
open Go.RowKit Go.Maps

/-- How many bytes the files have together that have come. -/
def cameLen (T : List (List UInt8 × Ent)) (left : Lit → Bool) : Nat := (T.map fun p => if left (.string p.1) then 0 else p.2.file.data.length).sum
theorem came_none {T : List (List UInt8 × Ent)} {left : Lit → Bool} (h : ∀ p ∈ T, left (.string p.1) = true) : cameLen T left = 0 := by
  unfold cameLen
  induction T with
  | nil => rfl
  | cons p r ih =>
    simp only [List.map_cons, List.sum_cons, h p (by simp), if_true, Nat.zero_add]
    exact ih fun q hq => h q (by simp [hq])
theorem came_all {T : List (List UInt8 × Ent)} {left : Lit → Bool} (h : ∀ k, left k = false) : cameLen T left = Dm.used (filesOf T) := by
  unfold cameLen Dm.used filesOf
  rw [List.map_map]
  congr 1
  refine List.map_congr_left fun p _ => ?_
  simp [h]
theorem came_other {T : List (List UInt8 × Ent)} {left : Lit → Bool} {n : List UInt8} (h : ∀ p ∈ T, p.1 ≠ n) : cameLen T (fun z => left z && !z.sameKey (.string n)) = cameLen T left := by
  unfold cameLen
  congr 1
  refine List.map_congr_left fun p hp => ?_
  have e : (Lit.string p.1).sameKey (.string n) = false := by rw [sameS, beq_eq_false_iff_ne.2 (h p hp)]
  simp [e]
theorem came_step {T : List (List UInt8 × Ent)} {left : Lit → Bool} {n : List UInt8} {x : Ent} (hs : Dm.Sorted T) (hx : Dm.get T n = some x) (hl : left (.string n) = true) :
    cameLen T (fun z => left z && !z.sameKey (.string n)) = cameLen T left + x.file.data.length := by
  induction T with
  | nil => cases hx
  | cons p r ih =>
    obtain ⟨h1, h2⟩ := List.pairwise_cons.1 hs
    unfold Dm.get at hx
    by_cases e : p.1 = n
    · rw [if_pos e] at hx; cases hx
      have hr : cameLen r (fun z => left z && !z.sameKey (.string n)) = cameLen r left := came_other fun q hq => by have := Dm.before_ne (h1 q hq); rw [e] at this; exact Ne.symm this
      unfold cameLen at hr ⊢
      simp only [List.map_cons, List.sum_cons, sameS, e, hl]
      simp only [sameS] at hr
      rw [hr]; simp; omega
    · rw [if_neg e] at hx
      have hr := ih h2 hx
      unfold cameLen at hr ⊢
      simp only [List.map_cons, List.sum_cons, sameS, beq_eq_false_iff_ne.2 e]
      simp only [sameS] at hr
      rw [hr]; simp; omega
theorem came_le {T : List (List UInt8 × Ent)} (left : Lit → Bool) : cameLen T left ≤ Dm.used (filesOf T) := by
  unfold cameLen Dm.used filesOf
  rw [List.map_map]
  induction T with
  | nil => simp
  | cons p r ih =>
    simp only [List.map_cons, List.sum_cons, Function.comp] at ih ⊢
    split <;> omega

theorem Used_nil (w : World) : Calls Tryz.prog 101 #[.pointer none] w fun e w' => e = .returned (.int .i64 0) ∧ w = w' := by
  go_enter Tryz.func101, Tryz.ntmps101
  go_wp2
  go_ret
  exact ⟨rfl, rfl⟩

/-- An entry that has come, in the disk's own words. -/
theorem came_ent {T : List (List UInt8 × Ent)} {key v : Value} {kl : Lit} {y : DataW Unit × List MemPlace} (hkey : keyOf Tryz.prog 9 key = some kl) (hR : ptrR v = some y) (hat : ∀ zd, (datOf T).atKey kl zd = y.1) :
    ∃ (s : ByteArray) (x : Ent), key = .string s ∧ kl = .string s.data.toList ∧ Dm.get T s.data.toList = some x ∧ v = .pointer (some ⟨x.blk, 0, none⟩) ∧ s.size ≤ maxLen := by
  obtain ⟨s, rfl, rfl, hs⟩ := Go.WideMaps.string_of_keyOf Tryz.underlying9 hkey
  have hh := Maps.has_true_of_atKey hat
  rw [has_dat] at hh
  obtain ⟨x, hx⟩ := Option.isSome_iff_exists.1 hh
  have h1 := hat .nil
  rw [at_dat hx] at h1
  obtain ⟨y1, y2⟩ := y
  simp only at h1
  rw [← h1] at hR
  exact ⟨s, x, rfl, rfl, hx, ptrR_inv hR, hs⟩

set_option maxRecDepth 100000 in
set_option maxHeartbeats 2000000 in
theorem Used_rep {w : World} {a m : Nat} {D : Dm.Disk} {T : List (List UInt8 × Ent)} (h : Rep w a m D T) :
    Calls Tryz.prog 101 #[.pointer (some ⟨a, 0, none⟩)] w fun e w' => e = .returned (.int .i64 (Dm.used D.files : Nat)) ∧ Below w.heap.size w w' := by
  obtain ⟨-, -, -, -, c4, -⟩ := cells5 h.cell
  have hown := h.map
  have hlt := h.lt
  have hus := h.right.used
  rw [h.files] at hus ⊢
  have hsrt := h.sorted
  have H := Lib.hid h
  have HL := Lib.hid hlt
  have HS := Lib.hid hsrt
  clear h hlt hsrt
  go_enter Tryz.func101, Tryz.ntmps101
  go_wp2_with (first
    | (at_range; refine wpList_range_own _ rfl _ 91 rfl 9 100 keyS Tryz.underlying91 ptrR m T.length (datOf T) rfl hown ?_; intro w0 hrg0 hg0 hs0)
    | go_in)
  go_frame
  go_loopw [3] (fun u wr => ∃ (left : Lit → Bool) (cnt : Nat), wr.ranges Tryz.prog 9 ptrR m w.heap.size T.length (datOf T) left cnt ∧ Below w.heap.size w wr ∧ u = .int .i64 (cameLen T left : Nat))
    (fun _ wr => wr.rangeLeft m w.heap.size)
  case atStart =>
    refine ⟨_, _, hrg0, ⟨hg0.os, hg0.tape, hg0.output, hg0.size, fun k hk => hg0.block k hk (by simp)⟩, ?_⟩
    rw [came_none fun p hp => ?_]
    · rfl
    · rw [has_dat, HS.out.get (n := p.1) (x := p.2) hp]; rfl
  case round =>
    obtain ⟨left, cnt, hrg, hb, rfl⟩ := hrel
    have hcl := came_le (T := T) left
    go_wp2_with (first
      | (at_next; refine wpList_next_ranges _ rfl _ rfl 9 keyS ptrR id id (fun key _ _ => ⟨key, rfl⟩) (fun v _ _ => ⟨v, rfl⟩) m w.heap.size T.length _ _ _ rfl hrg ?_ ?_)
      | go_in)
    · intro _ hl0
      rw [came_all hl0]
      go_wp2
      go_ret
      exact ⟨rfl, hb⟩
    · intro key v kl yd yp w1 cnt1 hkey hlx hv hat hrg1 hlt hg1 hs1 hen
      obtain ⟨s, x, rfl, rfl, hx, rfl, hs⟩ := came_ent hkey hv hat
      have hst := came_step HS.out hx hlx
      have hcl1 := came_le (T := T) (fun z => left z && !z.sameKey (.string s.data.toList))
      have hb1 : Below w.heap.size w w1 := hb.trans ⟨hg1.os, hg1.tape, hg1.output, hg1.size, fun k hk => hg1.block k (by have := hb.size; omega) (by simp; omega)⟩
      have he : EntAt w x := H.out.ents _ (mem_get hx)
      have he1 : EntAt w1 x := entAt_of he fun k hk => hb1.block k (he.lt k hk)
      obtain ⟨pr, cap, hrow, -⟩ := he1.shape
      obtain ⟨c0, -, -⟩ := cells2 he1.1
      rw [hrow] at c0
      rw [hst] at hcl1
      have HST := Lib.hid hst
      have HHG := Lib.hid hrg1
      have HB := Lib.hid hb1
      have HLT := Lib.hid hlt
      have HRG := Lib.hid hrg
      clear hst hrg1 hb1 he he1 hrow hkey hv hat hlx hx hg1 hs1 hlt hrg hb
      go_wp2
      go_roundw
      case rel => exact ⟨_, cnt1, HHG.out, HB.out, by rw [HST.out]; rfl⟩
      case measure => rw [HHG.out.left_eq, HRG.out.left_eq]; exact HLT.out
end Go.Proofs.YtbhjpkejdkfenaaGreatDoor
namespace Go.Proofs.YtbhjpkejdkfenaaGreatDoor
open Go.RowKit Go.Maps

/-- A change, whichever way the fuse has it. -/
theorem change_disk {S : Nat → Prop} {w0 w : World} {a m : Nat} {D : Dm.Disk} {T : List (List UInt8 × Ent)} (h : Rep w a m D T) (hW : Within S a m T) (h0 : Turned S w0 w) {g1 g2 : Nat} {cb1 cb2 : Array Value}
    (eg1 : ∀ args w, (callFunc g1 args).run Tryz.prog w = .ok (.enter g1 args) w) (eg2 : ∀ args w, (callFunc g2 args).run Tryz.prog w = .ok (.enter g2 args) w) (whole torn : List (List UInt8 × Dm.File) → List (List UInt8 × Dm.File))
    (h1 : ∀ W D1, Rep W a m D1 T → D1.files = D.files → Turned (· = a) w W → Calls Tryz.prog g1 cb1 W fun e w' => e = .returned (.tuple #[]) ∧ ∃ T', Rep w' a m { D1 with files := whole D1.files } T' ∧ Within (Grow S w0) a m T' ∧ Turned (Grow S w0) W w')
    (h2 : ∀ W D1, Rep W a m D1 T → D1.files = D.files → Turned (· = a) w W → Calls Tryz.prog g2 cb2 W fun e w' => e = .returned (.tuple #[]) ∧ ∃ T', Rep w' a m { D1 with files := torn D1.files } T' ∧ Within (Grow S w0) a m T' ∧ Turned (Grow S w0) W w') :
    Calls Tryz.prog 61 #[.pointer (some ⟨a, 0, none⟩), .func (.func g1) #[] cb1, .func (.func g2) #[] cb2] w fun e w' =>
      e = .returned (.int .i64 ((Dm.change D whole torn).1 : Nat)) ∧ Disk w' a (Dm.change D whole torn).2 (Grow S w0) ∧ Turned S w0 w' := by
  have fin : ∀ W w', Turned (· = a) w W → Turned (Grow S w0) W w' → Turned S w0 w' := fun W w' ht ht' => (h0.trans ht fun i e => .inl (e ▸ hW.1)).trans ht' fun i e => e
  by_cases hf : D.fuse = 1
  · have hv : Dm.change D whole torn = (7, { D with down := true, fuse := 0, files := torn D.files }) := by unfold Dm.change; rw [if_pos hf]
    rw [hv]
    exact change_goes h hf eg2 _ (fun w' => Disk w' a { D with down := true, fuse := 0, files := torn D.files } (Grow S w0) ∧ Turned S w0 w') fun W hR hT => (h2 W _ hR rfl hT).mono fun e w' ⟨he, T', hR', hW', hT'⟩ => ⟨he, ⟨m, T', hR', hW'⟩, fin W w' hT hT'⟩
  · have hv : Dm.change D whole torn = (0, { D with fuse := D.fuse - 1, files := whole D.files }) := by unfold Dm.change; rw [if_neg hf]
    rw [hv]
    exact change_on h hf eg1 _ (fun w' => Disk w' a { D with fuse := D.fuse - 1, files := whole D.files } (Grow S w0) ∧ Turned S w0 w') fun W hR hT => (h1 W _ hR rfl hT).mono fun e w' ⟨he, T', hR', hW', hT'⟩ => ⟨he, ⟨m, T', hR', hW'⟩, fin W w' hT hT'⟩
theorem nothing_disk {S : Nat → Prop} {w0 : World} {a m : Nat} {T : List (List UInt8 × Ent)} (hW : Within S a m T) (W : World) (D1 : Dm.Disk) (hR : Rep W a m D1 T) :
    Calls Tryz.prog 64 #[] W fun e w' => e = .returned (.tuple #[]) ∧ ∃ T', Rep w' a m { D1 with files := id D1.files } T' ∧ Within (Grow S w0) a m T' ∧ Turned (Grow S w0) W w' :=
  (nothing_any W).mono fun e w' ⟨he, hw⟩ => ⟨he, T, by rw [← hw]; exact ⟨hR, hW.mono grow_old, Turned.refl _ _⟩⟩

theorem Rep.alloc {w : World} {a m : Nat} {D : Dm.Disk} {T : List (List UInt8 × Ent)} (h : Rep w a m D T) (o : Obj) : Rep (w.alloc o) a m D T := h.heap fun k hk => Below.heap_alloc _ _ _ hk
theorem Disk.alloc {S : Nat → Prop} {w : World} {a : Nat} {D : Dm.Disk} (h : Disk w a D S) (o : Obj) : Disk (w.alloc o) a D S := by
  obtain ⟨m, T, h1, h2⟩ := h; exact ⟨m, T, h1.alloc o, h2⟩

set_option maxRecDepth 100000 in
set_option maxHeartbeats 2000000 in
theorem Sync_disk {w : World} {a : Nat} {D : Dm.Disk} {S : Nat → Prop} (h : Disk w a D S) (s : ByteArray) (hm : s.size ≤ maxLen) :
    Calls Tryz.prog 80 #[.pointer (some ⟨a, 0, none⟩), .string s] w fun e w' =>
      e = .returned (.int .i64 ((Dm.sync D s.data.toList).1 : Nat)) ∧ Disk w' a (Dm.sync D s.data.toList).2 (Grow S w) ∧ Turned S w w' := by
  obtain ⟨m, T, hR, hS⟩ := h
  have hsame : ∀ o, Disk (w.alloc o) a D (Grow S w) ∧ Turned S w (w.alloc o) := fun o => ⟨⟨m, T, hR.alloc o, hS.mono grow_old⟩, turned_alloc w o⟩
  have hgt := hR.get s.data.toList
  have hrt := hR.right
  cases hd : D.down with
  | true =>
    have hv : Dm.sync D s.data.toList = (7, D) := by unfold Dm.sync; rw [hd]; rfl
    rw [hv]
    have hf := find_down hR hd s
    have HS := Lib.hid hsame
    clear hR hsame hgt hrt hd hv
    go_enter Tryz.func80, Tryz.ntmps80
    go_wp2_with fail
    refine hf.mono ?_
    rintro e w1 ⟨rfl, rfl⟩
    go_wp2
    go_ret
    exact ⟨rfl, HS.out _⟩
  | false =>
    have hf := find_on hR hd s hm
    cases hg : Dm.get T s.data.toList with
    | none =>
      have hv : Dm.sync D s.data.toList = (4, D) := by unfold Dm.sync; rw [hd, hgt, hg]; rfl
      rw [hv]
      rw [hg] at hf
      have HS := Lib.hid hsame
      clear hR hsame hgt hrt hd hv hg
      go_enter Tryz.func80, Tryz.ntmps80
      go_wp2_with fail
      refine hf.mono ?_
      rintro e w1 ⟨rfl, rfl⟩
      go_wp2
      go_ret
      exact ⟨rfl, HS.out _⟩
    | some x =>
      have hv : Dm.sync D s.data.toList = Dm.change D (Dm.syncs s.data.toList) id := by unfold Dm.sync; rw [hd, hgt, hg]; rfl
      rw [hv]
      rw [hg] at hf
      have hlt := hR.lt
      have hmx := mem_get hg
      have hnew : w.heap.size ∉ entBlks x := fun e => by have := hlt.2.2 _ hmx _ e; omega
      have hch := change_disk (w0 := w) (hR.alloc (.cells #[.pointer (some ⟨x.blk, 0, none⟩)] 100)) hS (turned_alloc w _) (g1 := 98) (cb1 := #[.pointer (some ⟨w.heap.size, 0, none⟩)]) (g2 := 64) (cb2 := #[])
        (enters_of Tryz.func98 (by kernel_rfl) rfl) (enters_of Tryz.func64 (by kernel_rfl) rfl) (Dm.syncs s.data.toList) id
        (fun W D1 hRW hfs hTW => (sync1_rep hRW s.data.toList x hg w.heap.size ((hTW.block _ (by simp) (by omega)).trans (heap_alloc_new w _)) hnew
            (hRW.right.upd (f := x.file) (by rw [hRW.get, hg]; rfl) _ (by have := hrt.get (n := s.data.toList) (f := x.file) (by rw [hgt, hg]; rfl); simp; omega) D1.down D1.fuse hRW.right.fuse)).mono fun e w' ⟨he, hR', hT'⟩ =>
          ⟨he, _, hR', (hS.mono grow_old).upd fun k hk => grow_old _ (hS.2.2 _ hmx k (by simp [entBlks, hk])), hT'.mono fun k hk => grow_old _ (hS.2.2 _ hmx k hk)⟩)
        (fun W D1 hRW _ _ => nothing_disk hS W D1 hRW)
      have HC := Lib.hid hch
      clear hR hsame hgt hrt hd hv hg hch hlt hmx hnew hS
      go_enter Tryz.func80, Tryz.ntmps80
      go_wp2_with fail
      refine hf.mono ?_
      rintro e w1 ⟨rfl, rfl⟩
      go_wp2_with fail
      refine HC.out.mono ?_
      rintro e w1 ⟨rfl, hq⟩
      have HQ := Lib.hid hq
      clear hq
      go_wp2
      go_ret
      exact ⟨rfl, HQ.out⟩
end Go.Proofs.YtbhjpkejdkfenaaGreatDoor
namespace Go.Proofs.YtbhjpkejdkfenaaGreatDoor
open Go.RowKit Go.Maps

theorem Rep.right_put {w : World} {a m : Nat} {D : Dm.Disk} {T : List (List UInt8 × Ent)} (h : Rep w a m D T) : Dm.Right { D with files := D.files } := h.right

theorem right_del {D : Dm.Disk} (h : Dm.Right D) (n : List UInt8) : Dm.Right { D with files := Dm.del D.files n } :=
  ⟨h.sorted.del _, fun p hp => h.names p (Dm.mem_del.1 hp).1, Nat.le_trans (Dm.length_del_le _ _) h.few, fun p hp => h.short p (Dm.mem_del.1 hp).1, h.fuse, h.room⟩
theorem right_move {D : Dm.Disk} (h : Dm.Right D) {a b : List UInt8} {f : Dm.File} (hf : Dm.get D.files a = some f) (hn : Dm.isName b = true) : Dm.Right { D with files := Dm.put (Dm.del D.files a) b f } := by
  have hg := h.get hf
  refine ⟨(h.sorted.del _).put _ _, fun p hp => ?_, ?_, fun p hp => ?_, h.fuse, h.room⟩
  · rcases Dm.mem_put.1 hp with rfl | ⟨hp, _⟩
    · exact hn
    · exact h.names p (Dm.mem_del.1 hp).1
  · have h1 := Dm.length_put_le (Dm.del D.files a) b f
    have h2 := Dm.length_del h.sorted hf
    have h3 := h.few
    show (Dm.put (Dm.del D.files a) b f).length ≤ 256
    omega
  · rcases Dm.mem_put.1 hp with rfl | ⟨hp, _⟩
    · exact hg.2
    · exact h.short p (Dm.mem_del.1 hp).1

set_option maxRecDepth 100000 in
set_option maxHeartbeats 2000000 in
theorem Remove_disk {w : World} {a : Nat} {D : Dm.Disk} {S : Nat → Prop} (h : Disk w a D S) (s : ByteArray) (hm : s.size ≤ maxLen) :
    Calls Tryz.prog 97 #[.pointer (some ⟨a, 0, none⟩), .string s] w fun e w' =>
      e = .returned (.int .i64 ((Dm.remove D s.data.toList).1 : Nat)) ∧ Disk w' a (Dm.remove D s.data.toList).2 (Grow S w) ∧ Turned S w w' := by
  obtain ⟨m, T, hR, hS⟩ := h
  have hR2 := hR.new2 (.cells #[.pointer (some ⟨a, 0, none⟩)] 43) (.cells #[.string s] 9)
  have hlt := hR.lt
  have hT2 := turned_two (S := S) w (.cells #[.pointer (some ⟨a, 0, none⟩)] 43) (.cells #[.string s] 9)
  obtain ⟨hp, hq⟩ := two_new w (.cells #[.pointer (some ⟨a, 0, none⟩)] 43) (.cells #[.string s] 9)
  have hz : ((w.alloc (.cells #[.pointer (some ⟨a, 0, none⟩)] 43)).alloc (.cells #[.string s] 9)).heap.size = w.heap.size + 2 := by simp
  have hsame : Disk ((w.alloc (.cells #[.pointer (some ⟨a, 0, none⟩)] 43)).alloc (.cells #[.string s] 9)) a D (Grow S w) := ⟨m, T, hR2, hS.mono grow_old⟩
  have hgt := hR.get s.data.toList
  have hrt := hR.right
  cases hd : D.down with
  | true =>
    have hv : Dm.remove D s.data.toList = (7, D) := by unfold Dm.remove; rw [hd]; rfl
    rw [hv]
    have hf := find_down hR2 hd s
    have HS := Lib.hid hsame
    have HT := Lib.hid hT2
    clear hR hR2 hlt hT2 hp hq hz hsame hgt hrt hd hv
    go_enter Tryz.func97, Tryz.ntmps97
    go_wp2_with fail
    refine hf.mono ?_
    rintro e w1 ⟨rfl, rfl⟩
    go_wp2
    go_ret
    exact ⟨rfl, HS.out, HT.out⟩
  | false =>
    have hf := find_on hR2 hd s hm
    cases hg : Dm.get T s.data.toList with
    | none =>
      have hv : Dm.remove D s.data.toList = (4, D) := by unfold Dm.remove; rw [hd, hgt, hg]; rfl
      rw [hv]
      rw [hg] at hf
      have HS := Lib.hid hsame
      have HT := Lib.hid hT2
      clear hR hR2 hlt hT2 hp hq hz hsame hgt hrt hd hv hg
      go_enter Tryz.func97, Tryz.ntmps97
      go_wp2_with fail
      refine hf.mono ?_
      rintro e w1 ⟨rfl, rfl⟩
      go_wp2
      go_ret
      exact ⟨rfl, HS.out, HT.out⟩
    | some x =>
      have hv : Dm.remove D s.data.toList = Dm.change D (fun l => Dm.del l s.data.toList) id := by unfold Dm.remove; rw [hd, hgt, hg]; rfl
      rw [hv]
      rw [hg] at hf
      have hch := change_disk (w0 := w) hR2 hS hT2 (g1 := 124) (cb1 := #[.pointer (some ⟨w.heap.size, 0, none⟩), .pointer (some ⟨w.heap.size + 1, 0, none⟩)]) (g2 := 64) (cb2 := #[])
        (enters_of Tryz.func124 (by kernel_rfl) rfl) (enters_of Tryz.func64 (by kernel_rfl) rfl) (fun l => Dm.del l s.data.toList) id
        (fun W D1 hRW hfs hTW => (remove1_rep hRW s hm w.heap.size (w.heap.size + 1) ((hTW.block _ (by rw [hz]; omega) (by omega)).trans hp) ((hTW.block _ (by rw [hz]; omega) (by omega)).trans hq) (by omega) (by omega) (right_del hRW.right _)).mono fun e w' ⟨he, hR', hT'⟩ =>
          ⟨he, _, hR', (hS.mono grow_old).del _, hT'.mono fun k hk => grow_old _ (hk ▸ hS.2.1)⟩)
        (fun W D1 hRW _ _ => nothing_disk hS W D1 hRW)
      have HC := Lib.hid hch
      clear hR hR2 hlt hT2 hp hq hz hsame hgt hrt hd hv hg hch hS
      go_enter Tryz.func97, Tryz.ntmps97
      go_wp2_with fail
      refine hf.mono ?_
      rintro e w1 ⟨rfl, rfl⟩
      go_wp2_with fail
      refine HC.out.mono ?_
      rintro e w1 ⟨rfl, hq⟩
      have HQ := Lib.hid hq
      clear hq
      go_wp2
      go_ret
      exact ⟨rfl, HQ.out⟩

theorem three_new (w : World) (o1 o2 o3 : Obj) : (((w.alloc o1).alloc o2).alloc o3).heap[w.heap.size]? = some o1 ∧ (((w.alloc o1).alloc o2).alloc o3).heap[w.heap.size + 1]? = some o2 ∧ (((w.alloc o1).alloc o2).alloc o3).heap[w.heap.size + 1 + 1]? = some o3 := by
  obtain ⟨h1, h2⟩ := two_new w o1 o2
  have h3 := heap_alloc_new ((w.alloc o1).alloc o2) o3
  rw [World.size_alloc, World.size_alloc] at h3
  exact ⟨(Below.heap_alloc _ _ _ (by simp; omega)).trans h1, (Below.heap_alloc _ _ _ (by simp)).trans h2, h3⟩

set_option maxRecDepth 100000 in
set_option maxHeartbeats 2000000 in
theorem Rename_disk {w : World} {a : Nat} {D : Dm.Disk} {S : Nat → Prop} (h : Disk w a D S) (s t : ByteArray) (hm : s.size ≤ maxLen) (hmt : t.size ≤ maxLen) :
    Calls Tryz.prog 83 #[.pointer (some ⟨a, 0, none⟩), .string s, .string t] w fun e w' =>
      e = .returned (.int .i64 ((Dm.rename D s.data.toList t.data.toList).1 : Nat)) ∧ Disk w' a (Dm.rename D s.data.toList t.data.toList).2 (Grow S w) ∧ Turned S w w' := by
  obtain ⟨m, T, hR, hS⟩ := h
  obtain ⟨W3, hW3⟩ : ∃ W3, ((w.alloc (.cells #[.pointer (some ⟨a, 0, none⟩)] 43)).alloc (.cells #[.string s] 9)).alloc (.cells #[.string t] 9) = W3 := ⟨_, rfl⟩
  have hR3 : Rep W3 a m D T := by rw [← hW3]; exact (hR.new2 _ _).alloc _
  have hT3 : Turned S w W3 := by rw [← hW3]; exact (turned_two (S := S) w _ _).trans (turned_alloc (S := S) _ _) fun _ e => .inl e
  obtain ⟨hp, hq, hr⟩ := three_new w (.cells #[.pointer (some ⟨a, 0, none⟩)] 43) (.cells #[.string s] 9) (.cells #[.string t] 9)
  have hz : W3.heap.size = w.heap.size + 3 := by rw [← hW3]; simp
  rw [hW3] at hp hq hr
  have hlt := hR.lt
  have hsame : ∀ o, Disk (W3.alloc o) a D (Grow S w) ∧ Turned S w (W3.alloc o) := fun o => ⟨⟨m, T, hR3.alloc o, hS.mono grow_old⟩, hT3.trans (turned_alloc (S := S) _ _) fun _ e => .inl e⟩
  have hgt := hR.get s.data.toList
  have hrt := hR.right
  have cp : W3.cell? ⟨w.heap.size, 0, none⟩ = some (.pointer (some ⟨a, 0, none⟩)) := by rw [cell_of_row _ _ _ _ _ _ hp]; rfl
  have cq : W3.cell? ⟨w.heap.size + 1, 0, none⟩ = some (.string s) := by rw [cell_of_row _ _ _ _ _ _ hq]; rfl
  have cr : W3.cell? ⟨w.heap.size + 1 + 1, 0, none⟩ = some (.string t) := by rw [cell_of_row _ _ _ _ _ _ hr]; rfl
  have HW := Lib.hid hW3
  have z0 : w.heap.size < W3.heap.size := by omega
  have z1 : w.heap.size + 1 < W3.heap.size := by omega
  have z2 : w.heap.size + 1 + 1 < W3.heap.size := by omega
  cases hd : D.down with
  | true =>
    have hv : Dm.rename D s.data.toList t.data.toList = (7, D) := by unfold Dm.rename; rw [hd]; rfl
    rw [hv]
    have hf := find_down hR3 hd s
    have HS := Lib.hid hsame
    clear hR hR3 hlt hT3 hp hq hr hz hsame hgt hrt hd hv hW3
    go_enter Tryz.func83, Tryz.ntmps83
    go_wp2_with fail
    rw [HW.out]
    refine hf.mono ?_
    rintro e w1 ⟨rfl, rfl⟩
    go_wp2
    go_ret
    exact ⟨rfl, HS.out _⟩
  | false =>
    have hf := find_on hR3 hd s hm
    cases hg : Dm.get T s.data.toList with
    | none =>
      have hv : Dm.rename D s.data.toList t.data.toList = (4, D) := by unfold Dm.rename; rw [hd, hgt, hg]; rfl
      rw [hv]
      rw [hg] at hf
      have HS := Lib.hid hsame
      clear hR hR3 hlt hT3 hp hq hr hz hsame hgt hrt hd hv hW3 hg
      go_enter Tryz.func83, Tryz.ntmps83
      go_wp2_with fail
      rw [HW.out]
      refine hf.mono ?_
      rintro e w1 ⟨rfl, rfl⟩
      go_wp2
      go_ret
      exact ⟨rfl, HS.out _⟩
    | some x =>
      rw [hg] at hf
      have hnm := fun W => isNameAny t W hmt
      cases hn : Dm.isName t.data.toList with
      | false =>
        have hv : Dm.rename D s.data.toList t.data.toList = (1, D) := by unfold Dm.rename; rw [hd, hgt, hg, hn]; rfl
        rw [hv]
        rw [hn] at hnm
        have HS := Lib.hid hsame
        clear hR hR3 hlt hT3 hp hq hr hz hsame hgt hrt hd hv hW3 hg hn
        go_enter Tryz.func83, Tryz.ntmps83
        go_wp2_with fail
        rw [HW.out]
        refine hf.mono ?_
        rintro e w1 ⟨rfl, rfl⟩
        go_wp2_with fail
        refine (hnm _).mono ?_
        rintro e w1 ⟨rfl, rfl⟩
        go_wp2
        go_ret
        exact ⟨rfl, HS.out _⟩
      | true =>
        have hv : Dm.rename D s.data.toList t.data.toList = Dm.change D (fun l => Dm.put (Dm.del l s.data.toList) t.data.toList x.file) id := by unfold Dm.rename; rw [hd, hgt, hg, hn]; rfl
        rw [hv]
        rw [hn] at hnm
        have hlen := Dm.isName_len hn
        rw [show t.data.toList.length = t.size from by simp] at hlen
        have hmx := mem_get hg
        have hT4 : Turned S w (W3.alloc (.cells #[.pointer (some ⟨x.blk, 0, none⟩)] 100)) := hT3.trans (turned_alloc (S := S) _ _) fun _ e => .inl e
        have hu := heap_alloc_new W3 (.cells #[.pointer (some ⟨x.blk, 0, none⟩)] 100)
        have hch := change_disk (w0 := w) (hR3.alloc (.cells #[.pointer (some ⟨x.blk, 0, none⟩)] 100)) hS hT4 (g1 := 103) (cb1 := #[.pointer (some ⟨w.heap.size, 0, none⟩), .pointer (some ⟨w.heap.size + 1, 0, none⟩), .pointer (some ⟨w.heap.size + 1 + 1, 0, none⟩), .pointer (some ⟨W3.heap.size, 0, none⟩)]) (g2 := 64) (cb2 := #[])
          (enters_of Tryz.func103 (by kernel_rfl) rfl) (enters_of Tryz.func64 (by kernel_rfl) rfl) (fun l => Dm.put (Dm.del l s.data.toList) t.data.toList x.file) id
          (fun W D1 hRW hfs hTW => (rename1_rep hRW s t hm (by omega) x hg w.heap.size (w.heap.size + 1) (w.heap.size + 1 + 1) W3.heap.size
              ((hTW.block _ (by rw [World.size_alloc]; omega) (by omega)).trans ((Below.heap_alloc _ _ _ z0).trans hp)) ((hTW.block _ (by rw [World.size_alloc]; omega) (by omega)).trans ((Below.heap_alloc _ _ _ z1).trans hq))
              ((hTW.block _ (by rw [World.size_alloc]; omega) (by omega)).trans ((Below.heap_alloc _ _ _ z2).trans hr)) ((hTW.block _ (by rw [World.size_alloc]; omega) (by omega)).trans hu)
              (by omega) (by omega) (by omega) (by omega) (right_del hRW.right _) (right_move hRW.right (by rw [hRW.get, hg]; rfl) hn)).mono fun e w' ⟨he, hR', hT'⟩ =>
            ⟨he, _, hR', ((hS.mono grow_old).del _).put fun k hk => grow_old _ (hS.2.2 _ hmx k hk), hT'.mono fun k hk => grow_old _ (hk ▸ hS.2.1)⟩)
          (fun W D1 hRW _ _ => nothing_disk hS W D1 hRW)
        have HC := Lib.hid hch
        clear hR hR3 hlt hT3 hp hq hr hz hsame hgt hrt hd hv hW3 hg hn hch hT4 hu hmx hS hlen
        go_enter Tryz.func83, Tryz.ntmps83
        go_wp2_with fail
        rw [HW.out]
        refine hf.mono ?_
        rintro e w1 ⟨rfl, rfl⟩
        go_wp2_with fail
        refine (hnm _).mono ?_
        rintro e w1 ⟨rfl, rfl⟩
        go_wp2_with fail
        refine HC.out.mono ?_
        rintro e w1 ⟨rfl, hq⟩
        have HQ := Lib.hid hq
        clear hq
        go_wp2
        go_ret
        exact ⟨rfl, HQ.out⟩
end Go.Proofs.YtbhjpkejdkfenaaGreatDoor
namespace Go.Proofs.YtbhjpkejdkfenaaGreatDoor
open Go.RowKit Go.Maps

set_option maxRecDepth 100000 in
set_option maxHeartbeats 4000000 in
theorem Append_disk {w : World} {a : Nat} {D : Dm.Disk} {S : Nat → Prop} (h : Disk w a D S) (s t : ByteArray) (hm : s.size ≤ maxLen) (hmt : t.size ≤ maxLen) :
    Calls Tryz.prog 82 #[.pointer (some ⟨a, 0, none⟩), .string s, .string t] w fun e w' =>
      e = .returned (.int .i64 ((Dm.append D s.data.toList t.data.toList).1 : Nat)) ∧ Disk w' a (Dm.append D s.data.toList t.data.toList).2 (Grow S w) ∧ Turned S w w' := by
  unfold maxLen at hmt
  obtain ⟨m, T, hR, hS⟩ := h
  obtain ⟨W1, hW1⟩ : ∃ W1, w.alloc (.cells #[.string t] 9) = W1 := ⟨_, rfl⟩
  have hR1 : Rep W1 a m D T := by rw [← hW1]; exact hR.alloc _
  have hT1 : Turned S w W1 := by rw [← hW1]; exact turned_alloc (S := S) _ _
  have hq : W1.heap[w.heap.size]? = some (.cells #[.string t] 9 (0, 0)) := by rw [← hW1]; exact heap_alloc_new w _
  have z0 : w.heap.size < W1.heap.size := by rw [← hW1]; simp
  have hlt := hR.lt
  have hsame : ∀ o, Disk (W1.alloc o) a D (Grow S w) ∧ Turned S w (W1.alloc o) := fun o => ⟨⟨m, T, hR1.alloc o, hS.mono grow_old⟩, hT1.trans (turned_alloc (S := S) _ _) fun _ e => .inl e⟩
  have hgt := hR.get s.data.toList
  have hrt := hR.right
  have cq : W1.cell? ⟨w.heap.size, 0, none⟩ = some (.string t) := by rw [cell_of_row _ _ _ _ _ _ hq]; rfl
  have htl : t.data.toList.length = t.size := by simp
  have HW := Lib.hid hW1
  cases hd : D.down with
  | true =>
    have hv : Dm.append D s.data.toList t.data.toList = (7, D) := by unfold Dm.append; rw [hd]; rfl
    rw [hv]
    have hf := find_down hR1 hd s
    have HS := Lib.hid hsame
    clear hR hR1 hlt hT1 hq hsame hgt hrt hd hv hW1 htl
    go_enter Tryz.func82, Tryz.ntmps82
    go_wp2_with fail
    rw [HW.out]
    refine hf.mono ?_
    rintro e w1 ⟨rfl, rfl⟩
    go_wp2
    go_ret
    exact ⟨rfl, HS.out _⟩
  | false =>
    have hf := find_on hR1 hd s hm
    cases hg : Dm.get T s.data.toList with
    | none =>
      have hv : Dm.append D s.data.toList t.data.toList = (4, D) := by unfold Dm.append; rw [hd, hgt, hg]; rfl
      rw [hv]
      rw [hg] at hf
      have HS := Lib.hid hsame
      clear hR hR1 hlt hT1 hq hsame hgt hrt hd hv hW1 hg htl
      go_enter Tryz.func82, Tryz.ntmps82
      go_wp2_with fail
      rw [HW.out]
      refine hf.mono ?_
      rintro e w1 ⟨rfl, rfl⟩
      go_wp2
      go_ret
      exact ⟨rfl, HS.out _⟩
    | some x =>
      rw [hg] at hf
      have hmx := mem_get hg
      have he : EntAt W1 x := hR1.ents _ hmx
      have hxs := (hrt.get (n := s.data.toList) (f := x.file) (by rw [hgt, hg]; rfl)).2
      obtain ⟨pr, cap, hrow, -⟩ := he.shape
      obtain ⟨e0, -, -⟩ := cells2 he.1
      rw [hrow] at e0
      have hxl : x.blk < W1.heap.size := he.lt _ (by simp [entBlks])
      obtain ⟨fl, hfl⟩ : ∃ fl, x.file.data.length = fl := ⟨_, rfl⟩
      rw [hfl] at e0 hxs
      have i0 : (0 : Int) ≤ (fl : Int) := by omega
      have i1 : (fl : Int) ≤ 1048576 := by omega
      by_cases hlong : 1048576 < fl + t.size
      · have hv : Dm.append D s.data.toList t.data.toList = (3, D) := by
          unfold Dm.append; rw [hd, hgt, hg]
          simp only [Bool.false_eq_true, if_false, Option.map_some]
          rw [if_pos (by rw [hfl, htl]; exact hlong)]
        rw [hv]
        have d1 : decide ((1048576 : Int) - (fl : Int) < (t.size : Int)) = true := by simp; omega
        have HS := Lib.hid hsame
        clear hR hR1 hlt hT1 hq hsame hgt hrt hd hv hW1 hg htl he hmx hrow hfl hxs hlong
        go_enter Tryz.func82, Tryz.ntmps82
        go_wp2_with fail
        rw [HW.out]
        refine hf.mono ?_
        rintro e w1 ⟨rfl, rfl⟩
        go_wp2_with fail
        go_quiet (fail)
        go_wp2
        go_ret
        exact ⟨rfl, (HS.out _).1.drewN _, (HS.out _).2.drewN _⟩
      · have d1 : decide ((1048576 : Int) - (fl : Int) < (t.size : Int)) = false := by simp; omega
        have d2 : ¬ (1048576 : Int) - (fl : Int) < (t.size : Int) := by omega
        have hus := hrt.used
        obtain ⟨-, -, c2, c3, -, -⟩ := cells5 hR1.cell
        have hal : a < W1.heap.size := hR1.lt.1
        obtain ⟨us, hus2⟩ : ∃ us, Dm.used D.files = us := ⟨_, rfl⟩
        have hv0 : Dm.append D s.data.toList t.data.toList = if D.bounded && decide (D.room < us + t.size) then (6, D) else Dm.change D (Dm.adds s.data.toList t.data.toList) (Dm.adds s.data.toList t.data.toList) := by
          unfold Dm.append; rw [hd, hgt, hg]
          simp only [Bool.false_eq_true, if_false, Option.map_some]
          rw [if_neg (by rw [hfl, htl]; exact hlong), hus2, htl]
        have hnq : w.heap.size ∉ entBlks x := fun e => by have := hlt.2.2 _ hmx _ e; omega
        have hnp : W1.heap.size ∉ entBlks x := fun e => by have := he.lt _ e; omega
        -- the change, in whatever world on the way
        have hch : ∀ W, Below (W1.heap.size + 1) (W1.alloc (.cells #[.pointer (some ⟨x.blk, 0, none⟩)] 100)) W →
            Calls Tryz.prog 61 #[.pointer (some ⟨a, 0, none⟩), .func (.func 102) #[] #[.pointer (some ⟨W1.heap.size, 0, none⟩), .pointer (some ⟨w.heap.size, 0, none⟩)], .func (.func 102) #[] #[.pointer (some ⟨W1.heap.size, 0, none⟩), .pointer (some ⟨w.heap.size, 0, none⟩)]] W fun e w' =>
              e = .returned (.int .i64 ((Dm.change D (Dm.adds s.data.toList t.data.toList) (Dm.adds s.data.toList t.data.toList)).1 : Nat)) ∧ Disk w' a (Dm.change D (Dm.adds s.data.toList t.data.toList) (Dm.adds s.data.toList t.data.toList)).2 (Grow S w) ∧ Turned S w w' := by
          intro W hW
          have hblk : ∀ k, k < W1.heap.size → W.heap[k]? = W1.heap[k]? := fun k hk => (hW.block k (by omega)).trans (Below.heap_alloc _ _ _ hk)
          have hRW : Rep W a m D T := hR1.heap hblk
          have hTW : Turned S w W := (hT1.trans (turned_alloc (S := S) _ (.cells #[.pointer (some ⟨x.blk, 0, none⟩)] 100)) fun _ e => .inl e).trans (turned_of_below (S := S) (hW.mono (by simp))) fun _ e => .inl e
          have hpp : W.heap[W1.heap.size]? = some (.cells #[.pointer (some ⟨x.blk, 0, none⟩)] 100 (0, 0)) := (hW.block _ (by omega)).trans (heap_alloc_new W1 _)
          have hqq := (hblk _ z0).trans hq
          have hWs : W1.heap.size < W.heap.size := (Array.getElem?_eq_some_iff.1 hpp).1
          have one : ∀ V D1, Rep V a m D1 T → D1.files = D.files → Turned (· = a) W V → Calls Tryz.prog 102 #[.pointer (some ⟨W1.heap.size, 0, none⟩), .pointer (some ⟨w.heap.size, 0, none⟩)] V fun e w' => e = .returned (.tuple #[]) ∧ ∃ T', Rep w' a m { D1 with files := Dm.adds s.data.toList t.data.toList D1.files } T' ∧ Within (Grow S w) a m T' ∧ Turned (Grow S w) V w' := fun V D1 hRV hfs hTV =>
            (append1_rep hRV s.data.toList t x hg W1.heap.size w.heap.size ((hTV.block _ hWs (by omega)).trans hpp) ((hTV.block _ (by omega) (by have := hlt.1; omega)).trans hqq) hnp hnq
              (hRV.right.upd (f := x.file) (by rw [hRV.get, hg]; rfl) _ (by simp; rw [hfl, htl] at *; omega) D1.down D1.fuse hRV.right.fuse) (by rw [hfl]; omega)).mono fun e w' ⟨he, row, hR', hrw, hT'⟩ =>
              ⟨he, _, hR', (hS.mono grow_old).upd (fun k hk => by
                rcases hrw k hk with h1 | h1
                · exact grow_old _ (hS.2.2 _ hmx k (by simp [entBlks, h1]))
                · exact grow_new _ (by have := hTV.size; omega)), hT'.mono fun k hk => grow_old _ (hS.2.2 _ hmx k hk)⟩
          exact change_disk (w0 := w) hRW hS hTW (enters_of Tryz.func102 (by kernel_rfl) rfl) (enters_of Tryz.func102 (by kernel_rfl) rfl) _ _ one one
        have hUs : ∀ W, Below (W1.heap.size + 1) (W1.alloc (.cells #[.pointer (some ⟨x.blk, 0, none⟩)] 100)) W → Calls Tryz.prog 101 #[.pointer (some ⟨a, 0, none⟩)] W fun e w' => e = .returned (.int .i64 (us : Nat)) ∧ Below W.heap.size W w' := fun W hW => by
          have := Used_rep (hR1.heap (W := W) fun k hk => (hW.block k (by omega)).trans (Below.heap_alloc _ _ _ hk))
          rw [hus2] at this; exact this
        have HC := Lib.hid hch
        have HU := Lib.hid hUs
        have HS := Lib.hid hsame
        rw [hus2] at hus
        have k0 : (0 : Int) ≤ (us : Int) := by omega
        have k1 : (us : Int) ≤ 268435456 := by omega
        have k2 : (t.size : Int) ≤ 1048576 := by omega
        have k3 : (0 : Int) ≤ (t.size : Int) := by omega
        have HV := Lib.hid hv0
        cases hb : D.bounded with
        | false =>
          rw [hb] at c2
          have hv : Dm.append D s.data.toList t.data.toList = Dm.change D (Dm.adds s.data.toList t.data.toList) (Dm.adds s.data.toList t.data.toList) := by rw [HV.out, hb]; rfl
          rw [hv]
          clear hR hR1 hlt hT1 hq hsame hgt hrt hd hv hW1 hg htl he hmx hrow hfl hxs hlong hch hUs hv0 hus2 hnq hnp hb hS hus
          go_enter Tryz.func82, Tryz.ntmps82
          go_wp2_with fail
          rw [HW.out]
          refine hf.mono ?_
          rintro e w1 ⟨rfl, rfl⟩
          go_wp2_with fail
          go_quiet (fail)
          go_wp2_with fail
          go_quiet (fail)
          go_wp2_with fail
          refine (HC.out _ (below_drewN (Below.refl _ _) _)).mono ?_
          rintro e w1 ⟨rfl, hq⟩
          have HQ := Lib.hid hq
          clear hq
          go_wp2
          go_ret
          exact ⟨rfl, HQ.out⟩
        | true =>
          rw [hb] at c2
          have k4 : (0 : Int) ≤ (D.room : Int) := by omega
          have hrm := hrt.room
          have keepB : ∀ W W', Below (W1.heap.size + 1) (W1.alloc (.cells #[.pointer (some ⟨x.blk, 0, none⟩)] 100)) W → W1.heap.size + 1 ≤ W.heap.size → Below W.heap.size W W' → Below (W1.heap.size + 1) (W1.alloc (.cells #[.pointer (some ⟨x.blk, 0, none⟩)] 100)) W' ∧ W1.heap.size + 1 ≤ W'.heap.size :=
            fun W W' h1 h2 h3 => ⟨h1.trans (h3.mono h2), Nat.le_trans h2 h3.size⟩
          have KB := Lib.hid keepB
          have hcell : ∀ W, Below (W1.heap.size + 1) (W1.alloc (.cells #[.pointer (some ⟨x.blk, 0, none⟩)] 100)) W → W.cell? ⟨a, 2, none⟩ = some (.bool true) ∧ W.cell? ⟨a, 3, none⟩ = some (.int .i64 (D.room : Nat)) ∧ W.cell? ⟨w.heap.size, 0, none⟩ = some (.string t) := fun W hW =>
            ⟨by rw [← c2]; exact World.cell?_of_block ((hW.block a (by omega)).trans (Below.heap_alloc _ _ _ hal)), by rw [← c3]; exact World.cell?_of_block ((hW.block a (by omega)).trans (Below.heap_alloc _ _ _ hal)), by rw [← cq]; exact World.cell?_of_block ((hW.block w.heap.size (by omega)).trans (Below.heap_alloc _ _ _ z0))⟩
          have HCE := Lib.hid hcell
          have hzz : W1.heap.size + 1 ≤ (W1.alloc (.cells #[.pointer (some ⟨x.blk, 0, none⟩)] 100)).heap.size := by simp
          have wr : IntKind.i64.wrap ((us : Int) + (t.size : Int)) = (us : Int) + (t.size : Int) := IntWalk.i64_in _ (by omega)
          by_cases hfull : D.room < us + t.size
          · have hv : Dm.append D s.data.toList t.data.toList = (6, D) := by rw [HV.out, hb, if_pos (by simpa using hfull)]
            rw [hv]
            have d3 : decide ((D.room : Int) < (us : Int) + (t.size : Int)) = true := by simp; omega
            have hfin : ∀ W, Below (W1.heap.size + 1) (W1.alloc (.cells #[.pointer (some ⟨x.blk, 0, none⟩)] 100)) W → Disk W a D (Grow S w) ∧ Turned S w W := fun W hW =>
              ⟨⟨m, T, hR1.heap fun k hk => (hW.block k (by omega)).trans (Below.heap_alloc _ _ _ hk), hS.mono grow_old⟩, (hsame _).2.trans (turned_of_below (S := S) (hW.mono (by simp))) fun _ e => .inl e⟩
            have HF := Lib.hid hfin
            clear hR hR1 hlt hT1 hq hsame hgt hrt hd hv hW1 hg htl he hmx hrow hfl hxs hlong hch hUs hv0 hus2 hnq hnp hb hS hus keepB hcell hfull hfin
            go_enter Tryz.func82, Tryz.ntmps82
            go_wp2_with fail
            rw [HW.out]
            refine hf.mono ?_
            rintro e w1 ⟨rfl, rfl⟩
            go_wp2_with fail
            go_quiet (fail)
            go_wp2_with fail
            have hB1 : Below (W1.heap.size + 1) (W1.alloc (.cells #[.pointer (some ⟨x.blk, 0, none⟩)] 100)) ((W1.alloc (.cells #[.pointer (some ⟨x.blk, 0, none⟩)] 100)).drewN nq) := below_drewN (Below.refl _ _) _
            have hz1 : W1.heap.size + 1 ≤ ((W1.alloc (.cells #[.pointer (some ⟨x.blk, 0, none⟩)] 100)).drewN nq).heap.size := hzz
            generalize (W1.alloc (.cells #[.pointer (some ⟨x.blk, 0, none⟩)] 100)).drewN nq = W2 at hB1 hz1 ⊢
            obtain ⟨b2, b3, bq⟩ := HCE.out _ hB1
            go_region_held3 (fun w' => w'.cell? ⟨a, 2, none⟩ = some (.bool true) ∧ w'.cell? ⟨a, 3, none⟩ = some (.int .i64 (D.room : Nat)) ∧ w'.cell? ⟨w.heap.size, 0, none⟩ = some (.string t) ∧ Below (W1.heap.size + 1) (W1.alloc (.cells #[.pointer (some ⟨x.blk, 0, none⟩)] 100)) w')
              (first | exact ⟨b2, b3, bq, hB1.drew⟩ | exact ⟨u2, u3, uq, hB3⟩)
              (first | (go_at_call 101; refine (HU.out _ hB1.drew).mono ?_; rintro e w3 ⟨rfl, hb3⟩; obtain ⟨hB3, hz3⟩ := KB.out _ _ hB1.drew hz1 hb3; obtain ⟨u2, u3, uq⟩ := HCE.out _ hB3))
            go_wp2
            go_ret
            exact ⟨rfl, HF.out _ hB3⟩
          · have hv : Dm.append D s.data.toList t.data.toList = Dm.change D (Dm.adds s.data.toList t.data.toList) (Dm.adds s.data.toList t.data.toList) := by rw [HV.out, hb, if_neg (by simpa using hfull)]
            rw [hv]
            have d3 : decide ((D.room : Int) < (us : Int) + (t.size : Int)) = false := by simp; omega
            clear hR hR1 hlt hT1 hq hsame hgt hrt hd hv hW1 hg htl he hmx hrow hfl hxs hlong hch hUs hv0 hus2 hnq hnp hb hS hus keepB hcell hfull
            go_enter Tryz.func82, Tryz.ntmps82
            go_wp2_with fail
            rw [HW.out]
            refine hf.mono ?_
            rintro e w1 ⟨rfl, rfl⟩
            go_wp2_with fail
            go_quiet (fail)
            go_wp2_with fail
            have hB1 : Below (W1.heap.size + 1) (W1.alloc (.cells #[.pointer (some ⟨x.blk, 0, none⟩)] 100)) ((W1.alloc (.cells #[.pointer (some ⟨x.blk, 0, none⟩)] 100)).drewN nq) := below_drewN (Below.refl _ _) _
            have hz1 : W1.heap.size + 1 ≤ ((W1.alloc (.cells #[.pointer (some ⟨x.blk, 0, none⟩)] 100)).drewN nq).heap.size := hzz
            generalize (W1.alloc (.cells #[.pointer (some ⟨x.blk, 0, none⟩)] 100)).drewN nq = W2 at hB1 hz1 ⊢
            obtain ⟨b2, b3, bq⟩ := HCE.out _ hB1
            go_region_held3 (fun w' => w'.cell? ⟨a, 2, none⟩ = some (.bool true) ∧ w'.cell? ⟨a, 3, none⟩ = some (.int .i64 (D.room : Nat)) ∧ w'.cell? ⟨w.heap.size, 0, none⟩ = some (.string t) ∧ Below (W1.heap.size + 1) (W1.alloc (.cells #[.pointer (some ⟨x.blk, 0, none⟩)] 100)) w')
              (first | exact ⟨b2, b3, bq, hB1.drew⟩ | exact ⟨u2, u3, uq, hB3⟩)
              (first | (go_at_call 101; refine (HU.out _ hB1.drew).mono ?_; rintro e w3 ⟨rfl, hb3⟩; obtain ⟨hB3, hz3⟩ := KB.out _ _ hB1.drew hz1 hb3; obtain ⟨u2, u3, uq⟩ := HCE.out _ hB3))
            go_wp2_with fail
            refine (HC.out _ hB3).mono ?_
            rintro e w1 ⟨rfl, hq⟩
            have HQ := Lib.hid hq
            clear hq
            go_wp2
            go_ret
            exact ⟨rfl, HQ.out⟩
end Go.Proofs.YtbhjpkejdkfenaaGreatDoor
