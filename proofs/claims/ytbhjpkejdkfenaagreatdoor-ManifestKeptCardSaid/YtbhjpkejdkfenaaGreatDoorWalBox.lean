/-
  Walks over package disk: New, Fuse, Down, names. Conditions: those in the theorems.
  Walks over package disk: names, List. Conditions: those in the theorems.
  Walks over package disk: List, cut. Conditions: those in the theorems.
  Walks over package disk: cut. Conditions: those in the theorems.
  Walks over package disk: Crash, Start. Conditions: those in the theorems.
  One disk in a law: it and all that is new since the law began; each call by what the disk has. No condition but those in the theorems.
  A disk in a law beside boxes (blocks that hold what is told of them): a log's object, its numbers. Each call of the disk keeps them. No condition but those in the theorems.
-/
import Derived.Test.YtbhjpkejdkfenaaGreatDoorDiskWalkJ
import Derived.Test.YtbhjpkejdkfenaaGreatDoorDiskShelf
import Derived.TacticsIn
import Derived.CallsIn
import Derived.OwnWalk
import Derived.RegionTactic
set_option linter.unusedSimpArgs false
set_option linter.unusedVariables false
namespace Go.Proofs.YtbhjpkejdkfenaaGreatDoor
open Go.RowKit Go.Maps Go.Shelf

set_option maxRecDepth 100000 in
theorem New_disk (w : World) : Calls Tryz.prog 14 #[] w fun e w' => ∃ a, e = .returned (.pointer (some ⟨a, 0, none⟩)) ∧ Disk w' a Dm.new (w.heap.size ≤ ·) ∧ Below w.heap.size w w' := by
  have hmm := @run_makeMap Tryz.prog
  have hD : Disk ((w.alloc (.map #[] 0)).alloc (.cells #[.bool false, .int .i64 0, .bool false, .int .i64 0, .map (some w.heap.size)] 95)) (w.heap.size + 1) Dm.new (w.heap.size ≤ ·) := by
    obtain ⟨hp, hq⟩ := two_new w (.map #[] 0) (.cells #[.bool false, .int .i64 0, .bool false, .int .i64 0, .map (some w.heap.size)] 95)
    refine ⟨w.heap.size, [], ⟨Dm.Right.new, rfl, hq, ?_, (fun _ hp => nomatch hp), ⟨by omega, (fun _ hp => nomatch hp), (fun _ hp => nomatch hp), (fun _ hp => nomatch hp)⟩⟩, ⟨by show w.heap.size ≤ w.heap.size + 1; omega, Nat.le_refl _, (fun _ hp => nomatch hp)⟩⟩
    exact ownsMap_of (World.ownsMap_made w Tryz.prog 9 ptrR) (Below.heap_alloc _ _ _ (by simp))
  have HD := Lib.hid hD
  clear hD
  go_enter Tryz.func14, Tryz.ntmps14
  go_wp2
  go_ret
  exact ⟨w.heap.size + 1, rfl, HD.out, ((Below.refl _ w).alloc (Nat.le_refl _) _).alloc (by simp) _⟩

set_option maxRecDepth 100000 in
theorem Fuse_disk {w : World} {a : Nat} {D : Dm.Disk} {S : Nat → Prop} (h : Disk w a D S) (n : Int) (hn : n ≤ 9223372036854775807) :
    Calls Tryz.prog 29 #[.pointer (some ⟨a, 0, none⟩), .int .i64 n] w fun e w' => e = .returned (.tuple #[]) ∧ Disk w' a (Dm.fuseTo D n) S ∧ Turned S w w' := by
  obtain ⟨m, T, hR, hS⟩ := h
  obtain ⟨c0, c1, c2, c3, c4, fz⟩ := cells5 hR.cell
  have f1 := fz 1
  have hD : Disk (w.setCell ⟨a, 1, none⟩ (.int .i64 (max n 0))) a (Dm.fuseTo D n) S := by
    refine ⟨m, T, hR.keep (fun k _ hk => set_other _ _ _ _ _ hk) ?_ rfl (hR.right.fuseTo hn), hS⟩
    rw [set1 hR.cell]
    have : max n 0 = (n.toNat : Int) := by omega
    rw [this]; rfl
  have HD := Lib.hid hD
  have HT := Lib.hid (turned_setCell (S := S) w ⟨a, 1, none⟩ (.int .i64 (max n 0)) hS.1)
  clear hD hR hS fz
  go_enter Tryz.func29, Tryz.ntmps29
  go_wp2
  go_returns
  exact ⟨rfl, HD.out, HT.out⟩
theorem Fuse_nil (n : Int) (w : World) : Calls Tryz.prog 29 #[.pointer none, .int .i64 n] w fun e w' => e = .returned (.tuple #[]) ∧ w = w' := by
  go_enter Tryz.func29, Tryz.ntmps29
  go_wp2
  go_returns
  exact ⟨rfl, rfl⟩

theorem Down_disk {w : World} {a : Nat} {D : Dm.Disk} {S : Nat → Prop} (h : Disk w a D S) :
    Calls Tryz.prog 33 #[.pointer (some ⟨a, 0, none⟩)] w fun e w' => e = .returned (.bool D.down) ∧ w = w' := by
  obtain ⟨m, T, hR, hS⟩ := h
  obtain ⟨c0, -, -, -, -, -⟩ := cells5 hR.cell
  clear hR hS
  go_enter Tryz.func33, Tryz.ntmps33
  go_wp2
  go_ret
  exact ⟨rfl, rfl⟩
theorem Down_nil (w : World) : Calls Tryz.prog 33 #[.pointer none] w fun e w' => e = .returned (.bool true) ∧ w = w' := by
  go_enter Tryz.func33, Tryz.ntmps33
  go_wp2
  go_ret
  exact ⟨rfl, rfl⟩
theorem Read_disk {w : World} {a : Nat} {D : Dm.Disk} {S : Nat → Prop} (h : Disk w a D S) (s : ByteArray) (hm : s.size ≤ maxLen) :
    Calls Tryz.prog 35 #[.pointer (some ⟨a, 0, none⟩), .string s] w fun e w' => e = .returned (.tuple #[.string ⟨(Dm.read D s.data.toList).1.toArray⟩, .int .i64 ((Dm.read D s.data.toList).2 : Nat)]) ∧ w = w' := by
  obtain ⟨m, T, hR, -⟩ := h; exact Read_rep hR s hm
theorem Used_disk {w : World} {a : Nat} {D : Dm.Disk} {S : Nat → Prop} (h : Disk w a D S) :
    Calls Tryz.prog 101 #[.pointer (some ⟨a, 0, none⟩)] w fun e w' => e = .returned (.int .i64 (Dm.used D.files : Nat)) ∧ Below w.heap.size w w' := by
  obtain ⟨m, T, hR, -⟩ := h; exact Used_rep hR
end Go.Proofs.YtbhjpkejdkfenaaGreatDoor
namespace Go.Proofs.YtbhjpkejdkfenaaGreatDoor
open Go.RowKit Go.Maps Go.Sort Go.Shelf

theorem before_lt {a b : List UInt8} (h : bytesBefore a b = true) : a < b := by
  induction a generalizing b with
  | nil =>
    cases b with
    | nil => simp [bytesBefore] at h
    | cons y r => exact List.nil_lt_cons _ _
  | cons x l ih =>
    cases b with
    | nil => simp [bytesBefore] at h
    | cons y r =>
      simp only [bytesBefore, Bool.or_eq_true, Bool.and_eq_true, decide_eq_true_eq, beq_iff_eq] at h
      rw [List.cons_lt_cons_iff]
      rcases h with h | ⟨h1, h2⟩
      · exact .inl h
      · exact .inr ⟨h1, ih h2⟩
theorem strKeys_dat (T : List (List UInt8 × Ent)) : strKeys (datOf T) = Dm.keys T := by
  unfold datOf Dm.keys
  show List.map _ (List.map _ T) = _
  rw [List.map_map]; rfl
theorem sort_keys {T : List (List UInt8 × Ent)} (h : Dm.Sorted T) {ss : List (List UInt8)} (hp : ss.Perm (strKeys (datOf T))) : ss.mergeSort (fun x y => decide (x ≤ y)) = Dm.keys T := by
  rw [strKeys_dat] at hp
  have h1 : ss.mergeSort (fun x y => decide (x ≤ y)) = (Dm.keys T).mergeSort (fun x y => decide (x ≤ y)) := mergeSort_of_perm hp
  rw [h1]
  refine List.mergeSort_of_pairwise ?_
  rw [Dm.sorted_keys] at h
  exact h.imp fun h => decide_eq_true (List.le_of_lt (before_lt h))
theorem keys_files {w : World} {a m : Nat} {D : Dm.Disk} {T : List (List UInt8 × Ent)} (h : Rep w a m D T) : Dm.keys T = Dm.keys D.files := by
  rw [h.files]; unfold filesOf; rw [Dm.keys_map]

set_option maxRecDepth 100000 in
set_option maxHeartbeats 1000000 in
theorem names_rep {w : World} {a m : Nat} {D : Dm.Disk} {T : List (List UInt8 × Ent)} (h : Rep w a m D T) :
    Calls Tryz.prog 81 #[.pointer (some ⟨a, 0, none⟩)] w fun e w' => ∃ v, e = .returned v ∧ w'.ownsRow w.heap.size 9 1 v (Dm.keys D.files).length ((Dm.keys D.files).map encStr) ∧ (v = .slice none 0 0 ↔ Dm.keys D.files = []) ∧ Below w.heap.size w w' := by
  obtain ⟨-, -, -, -, c4, -⟩ := cells5 h.cell
  have hown := h.map
  have hsrt := h.sorted
  have hfew := h.right.few
  have hsz := size_dat T
  have hl : T.length ≤ 256 := by rw [size_files h]; exact hfew
  rw [← keys_files h]
  have HK : ∀ ss : List (List UInt8), ss.Perm (strKeys (datOf T)) → ss.mergeSort (fun x y => decide (x ≤ y)) = Dm.keys T ∧ ss.length = (Dm.keys T).length ∧ (ss = [] ↔ Dm.keys T = []) := fun ss hp => by
    have h1 := sort_keys hsrt hp
    have h2 := (List.mergeSort_perm ss (fun x y => decide (x ≤ y))).length_eq
    rw [h1] at h2
    refine ⟨h1, h2.symm, ?_⟩
    rw [← List.length_eq_zero_iff, ← List.length_eq_zero_iff, h2]
  have HH := Lib.hid HK
  have hsk := fun (w : World) (hown : w.ownsMap Tryz.prog 9 ptrR m T.length (datOf T)) => sortedKeys_in m T.length (datOf T) ptrR w hown (by rw [hsz]; unfold maxLen; omega) (by rw [hsz]; omega)
  have hq := hsk w hown
  clear h hsrt hfew hl HK hsk hown
  refine (callsIn_wide (n := 6)).1 ?_
  have hfK : Fence.wide.fn 100 := trivial
  have hfS : Fence.wide.fn 99 := trivial
  refine callsIn_of_wp Tryz.func81 rfl trivial ?_ rfl
  simp only [Tryz.ntmps81, List.size_toArray, List.length_cons, List.length_nil, Nat.reduceAdd, Nat.reduceSub, Array.replicate_succ, Array.replicate_zero, List.push_toArray, List.append_toArray, List.nil_append, List.cons_append]
  gi_wp2_with (first
    | (gi_at_call 100; refine (mapsKeys_in _ _).mono ?_; rintro e w' ⟨rfl, rfl⟩)
    | (gi_at_call 99; refine hq.mono ?_; rintro e w' ⟨v, ss, rfl, hS, hrow, hnil, hb⟩))
  go_ret
  obtain ⟨k1, k2, k3⟩ := HH.out ss hS
  rw [k1, k2] at hrow
  exact ⟨v, rfl, ownsRow_base_a hrow (by simp), hnil.trans k3, ((Below.refl _ w).alloc (Nat.le_refl _) _).trans (hb.mono (by simp))⟩
end Go.Proofs.YtbhjpkejdkfenaaGreatDoor
namespace Go.Proofs.YtbhjpkejdkfenaaGreatDoor
open Go.RowKit Go.Maps Go.Sort Go.Shelf

theorem List_nil (w : World) : Calls Tryz.prog 77 #[.pointer none] w fun e w' => e = .returned (.slice none 0 0) ∧ w = w' := by
  go_enter Tryz.func77, Tryz.ntmps77
  go_wp2
  go_ret
  exact ⟨rfl, rfl⟩

theorem name_size {D : Dm.Disk} (h : Dm.Right D) {k : List UInt8} (hk : k ∈ Dm.keys D.files) : (⟨k.toArray⟩ : ByteArray).size ≤ 32 := by
  obtain ⟨p, hp, rfl⟩ := List.mem_map.1 hk
  have := Dm.isName_len (h.names p hp)
  show p.1.toArray.size ≤ 32
  simp; omega

/-- v is a new list of the texts ks. -/
def Listed (w : World) (ks : List (List UInt8)) (v : Value) (w' : World) : Prop :=
  w'.ownsRow w.heap.size 9 1 v ks.length (ks.map encStr) ∧ (v = .slice none 0 0 ↔ ks = []) ∧ Below w.heap.size w w'

set_option maxRecDepth 100000 in
set_option maxHeartbeats 2000000 in
theorem List_disk {w : World} {a : Nat} {D : Dm.Disk} {S : Nat → Prop} (h : Disk w a D S) :
    Calls Tryz.prog 77 #[.pointer (some ⟨a, 0, none⟩)] w fun e w' => ∃ v, e = .returned v ∧ Listed w (Dm.keys D.files) v w' := by
  obtain ⟨m, T, hR, -⟩ := h
  have hnm := names_rep hR
  have hns := fun k hk => name_size hR.right (k := k) hk
  have hfew : (Dm.keys D.files).length ≤ 256 := by rw [Dm.keys, List.length_map]; exact hR.right.few
  clear hR
  generalize Dm.keys D.files = ks at *
  have HN := Lib.hid hns
  clear hns
  go_enter Tryz.func77, Tryz.ntmps77
  go_wp2_with fail
  refine hnm.mono ?_
  rintro e w1 ⟨v, rfl, hrow, hnil, hb⟩
  by_cases hks : ks = []
  · have hv := hnil.2 hks
    subst hks hv
    have HR := Lib.hid hrow
    have HB := Lib.hid hb
    clear hrow hb hnil
    go_wp2_with fail
    refine wp_loop_rounds 1 ?_
    rw [rounds_succ]
    go_wp2
    go_ret
    exact ⟨_, rfl, HR.out, ⟨fun _ => rfl, fun _ => rfl⟩, HB.out⟩
  · obtain ⟨g, cap, rfl⟩ : ∃ g cap, v = .slice (some ⟨g, 0, none⟩) ks.length cap := by
      rcases hrow.2 with ⟨h1, h2⟩ | ⟨g, cap, _, h1, _⟩
      · exact absurd (hnil.1 h1) hks
      · exact ⟨g, cap, h1⟩
    have hg := hrow.lt g rfl
    clear hnil
    go_wp2_with fail
    go_loopw [12] (fun i wr => ∃ k : Nat, k ≤ ks.length ∧ i = .int .i64 (k : Nat) ∧ wr.ownsRow w.heap.size 9 1 (.slice (some ⟨g, 0, none⟩) ks.length cap) ks.length (ks.map encStr) ∧ Below w.heap.size w wr) (fun i _ => ks.length - (intOf i).toNat)
    case atStart => exact ⟨0, Nat.zero_le _, rfl, hrow, hb⟩
    case round =>
      obtain ⟨k, hk, rfl, hrow2, hb2⟩ := hrel
      by_cases hlt : k < ks.length
      · have i1 : (k : Int) < (ks.length : Int) := by omega
        have i2 : (0 : Int) ≤ (k : Int) := by omega
        have hck : wr.cell? ⟨g, k, none⟩ = some (encStr ks[k]) := by rw [hrow2.cellAt k (by omega), List.getElem?_map, List.getElem?_eq_getElem hlt]; rfl
        have hfk := hrow2.frozenAt k
        have hsz : (⟨ks[k].toArray⟩ : ByteArray).size ≤ 281474976710656 := Nat.le_trans (HN.out _ (List.getElem_mem hlt)) (by omega)
        have hgr := hrow2.lt g rfl
        generalize hname : ks[k] = nm at hck hsz
        have HNM := Lib.hid hname
        clear hname
        simp only [encStr] at hck
        go_wp2_with fail
        refine (clone_any _ _ hsz).mono ?_
        rintro e w2 ⟨rfl, hb3⟩
        have hc2 : w2.cell? ⟨g, k, none⟩ = some (.string ⟨nm.toArray⟩) := (hb3.cell (p := ⟨g, k, none⟩) hgr.2).trans hck
        have hf2 : w2.frozen? ⟨g, k, none⟩ = false := (hb3.frozen (p := ⟨g, k, none⟩) hgr.2).trans hfk
        have hrow3 := hrow2.kept (w' := w2) (row := none) ⟨hb3.os, hb3.tape, hb3.output, hb3.size, fun k hk _ => hb3.block k hk⟩ (by simp [Value.ownBlock])
        have hst := hrow3.stored k (.string ⟨nm.toArray⟩)
        have hset : (ks.map encStr).set k (.string ⟨nm.toArray⟩) = ks.map encStr := by
          rw [← HNM.out]
          apply List.ext_getElem?
          intro j
          rw [List.getElem?_set]
          split
          · rename_i e; subst e; simp [hlt]
          · rfl
        rw [hset] at hst
        have HST := Lib.hid hst.1
        have HB := Lib.hid ((hb2.trans (hb3.mono hb2.size)).setCell (p := ⟨g, k, none⟩) hgr.1 (.string ⟨nm.toArray⟩))
        clear hst hset hrow3 hb3 hrow2 hb2 hck hfk
        go_wp2
        go_roundw
        case rel => exact ⟨k + 1, by omega, rfl, HST.out, HB.out⟩
        case measure => simp [intOf]; omega
      · obtain rfl : k = ks.length := by omega
        have i1 : ¬ (ks.length : Int) < (ks.length : Int) := by omega
        have HR := Lib.hid hrow2
        have HB := Lib.hid hb2
        clear hrow2 hb2
        go_wp2
        go_ret
        exact ⟨_, rfl, HR.out, ⟨(fun e => nomatch e), fun e => absurd e hks⟩, HB.out⟩
end Go.Proofs.YtbhjpkejdkfenaaGreatDoor
namespace Dm
/-- What is left of the list. -/
def rest : List Int → List (List UInt8 × File) → List Int
  | keep, [] => keep
  | keep, p :: r => rest (cutOne keep p.2).2 r
theorem cut_append : ∀ (l r : List (List UInt8 × File)) (keep : List Int), cut keep (l ++ r) = cut keep l ++ cut (rest keep l) r
  | [], _, _ => rfl
  | p :: l, r, keep => by simp only [List.cons_append, cut, rest, cut_append l r]
theorem rest_append : ∀ (l r : List (List UInt8 × File)) (keep : List Int), rest keep (l ++ r) = rest (rest keep l) r
  | [], _, _ => rfl
  | p :: l, r, keep => by simp only [List.cons_append, rest, rest_append l r]
theorem upd_none {α : Type} {l : List (List UInt8 × α)} {n : List UInt8} (g : α → α) (h : ∀ p ∈ l, p.1 ≠ n) : upd l n g = l := by
  unfold upd
  rw [List.map_congr_left (g := id) fun p hp => by rw [if_neg (h p hp)]; rfl]
  simp
/-- The files when i of them have been cut. -/
def cutTo (keep : List Int) (l : List (List UInt8 × File)) (i : Nat) : List (List UInt8 × File) := cut keep (l.take i) ++ l.drop i
theorem cutTo_zero (keep : List Int) (l : List (List UInt8 × File)) : cutTo keep l 0 = l := rfl
theorem cutTo_all (keep : List Int) (l : List (List UInt8 × File)) : cutTo keep l l.length = cut keep l := by unfold cutTo; simp
theorem cutTo_keys (keep : List Int) (l : List (List UInt8 × File)) (i : Nat) : keys (cutTo keep l i) = keys l := by
  unfold cutTo
  have : keys (cut keep (l.take i) ++ l.drop i) = keys (cut keep (l.take i)) ++ keys (l.drop i) := by simp [keys]
  rw [this, keys_cut]
  simp [keys]
theorem cutTo_get {keep : List Int} {l : List (List UInt8 × File)} {i : Nat} (hs : Sorted l) (hi : i < l.length) : get (cutTo keep l i) l[i].1 = some l[i].2 := by
  have hs2 : Sorted (cutTo keep l i) := by rw [sorted_keys, cutTo_keys, ← sorted_keys]; exact hs
  refine hs2.get ?_
  unfold cutTo
  rw [List.mem_append]
  right
  rw [List.drop_eq_getElem_cons hi]
  exact List.mem_cons_self
theorem cutTo_step {keep : List Int} {l : List (List UInt8 × File)} {i : Nat} (hs : Sorted l) (hi : i < l.length) :
    upd (cutTo keep l i) l[i].1 (fun _ => (cutOne (rest keep (l.take i)) l[i].2).1) = cutTo keep l (i + 1) := by
  have hnd := hs.apart
  have hne : ∀ j (hj : j < l.length), j ≠ i → l[j].1 ≠ l[i].1 := fun j hj hji e => by
    have hlen : (keys l).length = l.length := by simp [keys]
    have hp := List.pairwise_iff_getElem.1 hnd
    rcases Nat.lt_or_gt_of_ne hji with h | h
    · exact hp j i (by omega) (by omega) h (by simpa [keys] using e)
    · exact hp i j (by omega) (by omega) h (by simpa [keys] using e.symm)
  unfold cutTo
  rw [List.drop_eq_getElem_cons hi, List.take_succ_eq_append_getElem hi, cut_append]
  have h1 : upd (cut keep (l.take i) ++ l[i] :: l.drop (i + 1)) l[i].1 (fun _ => (cutOne (rest keep (l.take i)) l[i].2).1) =
      upd (cut keep (l.take i)) l[i].1 (fun _ => (cutOne (rest keep (l.take i)) l[i].2).1) ++ (l[i].1, (cutOne (rest keep (l.take i)) l[i].2).1) :: upd (l.drop (i + 1)) l[i].1 (fun _ => (cutOne (rest keep (l.take i)) l[i].2).1) := by
    unfold upd; rw [List.map_append, List.map_cons, if_pos rfl]
  rw [h1, upd_none _ fun p hp => ?_, upd_none _ fun p hp => ?_]
  · simp [cut]
  · obtain ⟨j, hj, e⟩ := List.getElem_of_mem hp
    rw [List.getElem_drop] at e
    rw [← e]
    exact hne _ _ (by omega)
  · have hk : p.1 ∈ keys (l.take i) := by rw [← keys_cut (l.take i) keep]; exact List.mem_map.2 ⟨p, hp, rfl⟩
    obtain ⟨q, hq, e⟩ := List.mem_map.1 hk
    obtain ⟨j, hj, e2⟩ := List.getElem_of_mem hq
    rw [List.getElem_take] at e2
    rw [← e, ← e2]
    exact hne _ _ (by rw [List.length_take] at hj; omega)
theorem rest_step {keep : List Int} {l : List (List UInt8 × File)} {i : Nat} (hi : i < l.length) : rest keep (l.take (i + 1)) = (cutOne (rest keep (l.take i)) l[i].2).2 := by
  rw [List.take_succ_eq_append_getElem hi, rest_append]; rfl
theorem cutTo_short {keep : List Int} {l : List (List UInt8 × File)} (h : ∀ p ∈ l, p.2.synced ≤ p.2.data.length ∧ p.2.data.length ≤ 1048576) (i : Nat) : ∀ p ∈ cutTo keep l i, p.2.synced ≤ p.2.data.length ∧ p.2.data.length ≤ 1048576 := fun p hp => by
  unfold cutTo at hp
  rcases List.mem_append.1 hp with hp | hp
  · exact cut_short _ _ (fun q hq => h q (List.mem_of_mem_take hq)) p hp
  · exact h p (List.mem_of_mem_drop hp)
theorem Right.cutTo {d : Disk} (h : Right d) (keep : List Int) (i : Nat) : Right { d with files := Dm.cutTo keep d.files i } :=
  ⟨by rw [sorted_keys, cutTo_keys, ← sorted_keys]; exact h.sorted, names_of_keys (cutTo_keys _ _ _) h.names, by
    have := congrArg List.length (cutTo_keys keep d.files i)
    simp only [keys, List.length_map] at this
    show (Dm.cutTo keep d.files i).length ≤ 256
    rw [this]; exact h.few, cutTo_short h.short i, h.fuse, h.room⟩
end Dm
namespace Go.Proofs.YtbhjpkejdkfenaaGreatDoor
open Go.RowKit Go.Maps Go.Sort Go.Shelf

/-- A list of numbers, as it is handed in: each in its cell, none in a block of S. -/
def Ints (W : World) (S : Nat → Prop) (p : Option Addr) (ks : List Int) : Prop :=
  ∀ i (h : i < ks.length), ∃ A, p = some A ∧ ¬ S A.block ∧ A.block < W.heap.size ∧ W.cell? (A.add i) = some (.int .i64 ks[i])
theorem add_add (A : Addr) (i j : Nat) : (A.add i).add j = A.add (i + j) := by
  unfold Addr.add
  by_cases hi : i = 0 <;> by_cases hj : j = 0 <;> simp [hi, hj, Nat.add_assoc]
theorem add_blk (A : Addr) (i : Nat) : (A.add i).block = A.block := by unfold Addr.add; split <;> rfl
theorem Ints.turned {W W' : World} {S S' : Nat → Prop} {p : Option Addr} {ks : List Int} (h : Ints W S p ks) (ht : Turned S' W W') (hs : ∀ k, k < W.heap.size → S' k → S k) : Ints W' S p ks := fun i hi => by
  obtain ⟨A, h1, h2, h3, h4⟩ := h i hi
  exact ⟨A, h1, h2, Nat.lt_of_lt_of_le h3 ht.size, (World.cell?_of_block (ht.block _ (by rw [add_blk]; exact h3) fun e => h2 (by rw [add_blk] at e; exact hs _ h3 e))).trans h4⟩

theorem entAt_cut {w W : World} {x : Ent} (h : EntAt w x) {p : Option Addr} {fl cap : Nat} (hrow : x.row = .slice p fl cap) {s : Nat} (hs : s ≤ x.file.data.length)
    (hc : W.heap[x.blk]? = some (.cells #[.slice p s cap, .int .i64 (s : Nat)] 106 (0, 0))) (hk : ∀ k ∈ rowBlk x.row, W.heap[k]? = w.heap[k]?) : EntAt W ⟨x.blk, .slice p s cap, ⟨x.file.data.take s, s⟩⟩ := by
  refine ⟨hc, by simp, ?_⟩
  have hl : (x.file.data.take s).length = s := by rw [List.length_take]; omega
  show (Value.slice p s cap = .slice none 0 0 ∧ (x.file.data.take s).length = 0) ∨ _
  rcases h.2.2 with ⟨h1, h2⟩ | ⟨g, cap', cur, h1, h2, h3, h4, h5, h6, h7⟩
  · rw [hrow] at h1; cases h1
    have : s = 0 := by omega
    subst this
    exact .inl ⟨rfl, by simp⟩
  · rw [hrow] at h1; cases h1
    refine .inr ⟨g, cap, cur, by rw [hl], h2, (hk g (by rw [hrow]; simp [rowBlk])).trans h3, by rw [hl]; omega, h5, h6, ?_⟩
    rw [hl, Nat.mul_one, List.map_take, ← h7, List.take_take]
    congr 1
    omega
theorem upd_self {α : Type} {l : List (List UInt8 × α)} (hs : Dm.Sorted l) {n : List UInt8} {x : α} (hx : Dm.get l n = some x) : Dm.upd l n (fun _ => x) = l := by
  have e := upd_congr hs hx (g := fun _ => x) (g' := id) rfl
  rw [e]
  unfold Dm.upd
  rw [List.map_congr_left (g := id) fun p _ => by split <;> rfl]
  simp
theorem lookup_rep {w : World} {a m : Nat} {D : Dm.Disk} {T : List (List UInt8 × Ent)} (h : Rep w a m D T) (s : ByteArray) (hm : s.size ≤ maxLen) {x : Ent} (hx : Dm.get T s.data.toList = some x) :
    (Instr.lookup 91 (.map (some m)) (.string s) false).run Tryz.prog w = .ok (.pointer (some ⟨x.blk, 0, none⟩)) w := by
  obtain ⟨v, ps, hrun, hv⟩ := h.map.lookup keyS Tryz.underlying91 (zeroFile _) (zd := .lit (.int .i64 (-1))) (zp := []) rfl (keyOfS s hm)
  rw [at_dat hx] at hv
  rw [hrun, ptrR_inv hv]

theorem rowBlk_len {p : Option Addr} {n n' c c' k : Nat} (h : k ∈ rowBlk (.slice p n c)) : k ∈ rowBlk (.slice p n' c') := by cases p <;> exact h
/-- One file has been cut. -/
theorem cut_ent {w W : World} {a m : Nat} {D1 D2 : Dm.Disk} {T : List (List UInt8 × Ent)} {S : Nat → Prop} (h : Rep w a m D1 T) (hS : Within S a m T) {n : List UInt8} {x : Ent} (hx : Dm.get T n = some x) {pr : Option Addr} {fl rcap s : Nat}
    (hrow : x.row = .slice pr fl rcap) (hs : s ≤ x.file.data.length) (hc : W.heap[x.blk]? = some (.cells #[.slice pr s rcap, .int .i64 (s : Nat)] 106 (0, 0))) (ht : Turned (· = x.blk) w W)
    (hD : D2 = { D1 with files := Dm.upd D1.files n fun _ => ⟨x.file.data.take s, s⟩ }) (hr : Dm.Right D2) :
    ∃ T', Rep W a m D2 T' ∧ Within S a m T' := by
  have hself : x.blk ∉ rowBlk x.row := h.apart.self _ (mem_get hx)
  have hlt := h.lt.2.2 _ (mem_get hx)
  subst hD
  refine ⟨_, h.upd hx (row := .slice pr s rcap) (g := fun _ => ⟨x.file.data.take s, s⟩) (entAt_cut (h.ents _ (mem_get hx)) hrow hs hc fun k hk => ht.block k (hlt k (by simp [entBlks, hk])) fun e => hself (e ▸ hk)) (fun k hk => .inl (by rw [hrow]; exact rowBlk_len hk))
    (fun k hk hn => ht.block k hk fun e => hn (by simp [entBlks, e])) hr, hS.upd fun k hk => hS.2.2 _ (mem_get hx) k ?_⟩
  refine List.mem_cons_of_mem _ ?_
  show k ∈ rowBlk x.row
  rw [hrow]; exact rowBlk_len hk

set_option maxRecDepth 100000 in
set_option maxHeartbeats 8000000 in
theorem cut_disk0 {w : World} {a : Nat} {D : Dm.Disk} {S : Nat → Prop} (h : Disk w a D S) (hSz : ∀ k, S k → k < w.heap.size) (p : Option Addr) (cap : Nat) (ks : List Int) (hcap : ks.length ≤ cap) (hk : Ints w S p ks) :
    Calls Tryz.prog 51 #[.pointer (some ⟨a, 0, none⟩), .slice p ks.length cap] w fun e w' => e = .returned (.tuple #[]) ∧ Disk w' a { D with files := Dm.cut ks D.files } S ∧ Turned S w w' := by
  obtain ⟨m, T, hR, hS⟩ := h
  have hnm := names_rep hR
  have hfew := hR.right.few
  have hrt := hR.right
  have hkl : (Dm.keys D.files).length = D.files.length := by simp [Dm.keys]
  have HR := Lib.hid hR
  have HS := Lib.hid hS
  have HK := Lib.hid hk
  have HSZ := Lib.hid hSz
  have hns := fun k hk => name_size hrt (k := k) hk
  have HN := Lib.hid hns
  have HRT := Lib.hid hrt
  clear hR hk hns hrt hSz
  rw [hkl] at hnm
  have HKL := Lib.hid hkl
  clear hkl
  go_enter Tryz.func51, Tryz.ntmps51
  go_wp2_with fail
  refine hnm.mono ?_
  rintro e w1 ⟨v, rfl, hrow, hnil, hb⟩
  by_cases hks : Dm.keys D.files = []
  · have hf0 : D.files = [] := by
      have := HKL.out; rw [hks] at this; exact List.eq_nil_of_length_eq_zero this.symm
    have hv := hnil.2 hks
    have HB := Lib.hid hb
    have HF0 := Lib.hid hf0
    subst hv
    clear hnil hb hrow hf0 hks
    go_wp2_with fail
    refine wp_loop_rounds 1 ?_
    rw [rounds_succ]
    go_wp2
    go_returns
    refine ⟨rfl, ⟨m, T, ?_, HS.out⟩, turned_of_below HB.out⟩
    have e : ({ D with files := Dm.cut ks D.files } : Dm.Disk) = D := by
      obtain ⟨d1, d2, d3, d4, fs⟩ := D
      have := HF0.out
      simp only at this
      subst this
      rfl
    rw [e]
    exact HR.out.heap fun k hk => HB.out.block k hk
  · obtain ⟨g, gcap, rfl⟩ : ∃ g gcap, v = .slice (some ⟨g, 0, none⟩) D.files.length gcap := by
      rcases hrow.2 with ⟨h1, h2⟩ | ⟨g, gcap, _, h1, _⟩
      · exact absurd (hnil.1 h1) hks
      · exact ⟨g, gcap, h1⟩
    have hg := hrow.lt g rfl
    have HB := Lib.hid hb
    have HROW := Lib.hid hrow
    have hgs : Hid (¬ S g) := Lib.hid fun e => by have := HSZ.out g e; omega
    clear hnil hb hrow
    go_wp2_with fail
    go_loopw [1, 11] (fun kv i wr => ∃ (k : Nat) (p' : Option Addr) (cap' : Nat) (ks' : List Int) (T' : List (List UInt8 × Ent)), k ≤ D.files.length ∧ i = .int .i64 (k : Nat) ∧ kv = .slice p' ks'.length cap' ∧ ks'.length ≤ cap' ∧ Hid (ks' = Dm.rest ks (D.files.take k)) ∧ Ints wr S p' ks' ∧ Rep wr a m { D with files := Dm.cutTo ks D.files k } T' ∧ Within S a m T' ∧ Turned S w1 wr) (fun _ i _ => D.files.length - (intOf i).toNat)
    case atStart =>
      refine ⟨0, p, cap, ks, T, Nat.zero_le _, rfl, rfl, hcap, Lib.hid rfl, ?_, ?_, HS.out, Turned.refl _ _⟩
      · exact HK.out.turned (turned_of_below (S := S) HB.out) fun _ _ h => h
      · exact HR.out.heap fun k hk => HB.out.block k hk
    case round =>
      obtain ⟨k, p', cap', ks', T', hk, rfl, rfl, hcap', HKS, HI, HRR, HSS, HTT⟩ := hrel
      by_cases hlt : k < D.files.length
      · have i1 : (k : Int) < (D.files.length : Int) := by omega
        have i2 : (0 : Int) ≤ (k : Int) := by omega
        -- what stands at k
        obtain ⟨nm, f, hq⟩ : ∃ nm f, D.files[k] = (nm, f) := ⟨_, _, rfl⟩
        have hget : Dm.get (Dm.cutTo ks D.files k) nm = some f := by have := Dm.cutTo_get (keep := ks) HRT.out.sorted hlt; rw [hq] at this; exact this
        have hgT := HRR.get nm
        simp only at hgT
        rw [hget] at hgT
        obtain ⟨x, hx, hxf⟩ := Option.map_eq_some_iff.1 hgT.symm
        have hck : wr.cell? ⟨g, k, none⟩ = some (.string ⟨nm.toArray⟩) := by
          have h1 := HROW.out.cellAt k (by rw [Nat.mul_one]; exact hlt)
          rw [List.getElem?_map, List.getElem?_eq_getElem (by rw [HKL.out]; exact hlt)] at h1
          have h2 : (Dm.keys D.files)[k]'(by rw [HKL.out]; exact hlt) = nm := by simp [Dm.keys, hq]
          rw [h2] at h1
          exact (World.cell?_of_block (w := w1) (HTT.block g hg.2 hgs.out)).trans h1
        have hnsz : (⟨nm.toArray⟩ : ByteArray).size ≤ maxLen := Nat.le_trans (HN.out nm (by rw [show nm = (Dm.keys D.files)[k]'(by rw [HKL.out]; exact hlt) from by simp [Dm.keys, hq]]; exact List.getElem_mem _)) (by unfold maxLen; omega)
        have hlk := lookup_rep HRR ⟨nm.toArray⟩ hnsz (x := x) (by simpa using hx)
        obtain ⟨-, -, -, -, c4, -⟩ := cells5 HRR.cell
        have he : EntAt wr x := HRR.ents _ (mem_get hx)
        have hsh := HRR.right.short _ (Dm.get_mem hget)
        simp only at hsh
        obtain ⟨pr, rcap, hxr, hrc⟩ := he.shape
        obtain ⟨e0, e1, efz⟩ := cells2 he.1
        rw [hxr] at e0
        rw [hxf] at e0 e1 hrc
        obtain ⟨fl, hfl⟩ : ∃ fl, f.data.length = fl := ⟨_, rfl⟩
        obtain ⟨sy, hsy⟩ : ∃ sy, f.synced = sy := ⟨_, rfl⟩
        rw [hfl] at e0 hrc hsh
        rw [hsy] at e1 hsh
        have j0 : (0 : Int) ≤ (fl : Int) := by omega
        have j1 : (0 : Int) ≤ (sy : Int) := by omega
        have j2 : (sy : Int) ≤ (fl : Int) := by omega
        have j3 : (fl : Int) ≤ 1048576 := by omega
        have ef0 := efz 0
        have ef1 := efz 1
        have wr1 : IntKind.i64.wrap ((fl : Int) - (sy : Int)) = (fl : Int) - (sy : Int) := IntWalk.i64_in _ (by omega)
        -- the files behind the step
        have hstep : Hid (Dm.upd (Dm.cutTo ks D.files k) nm (fun _ => (Dm.cutOne ks' f).1) = Dm.cutTo ks D.files (k + 1)) := Lib.hid (by have := Dm.cutTo_step (keep := ks) HRT.out.sorted hlt; rw [hq, ← HKS.out] at this; exact this)
        have hrest : Hid ((Dm.cutOne ks' f).2 = Dm.rest ks (D.files.take (k + 1))) := Lib.hid (by have := Dm.rest_step (keep := ks) hlt; rw [hq, ← HKS.out] at this; exact this.symm)
        by_cases htail : fl = sy
        · have d0 : ((fl : Int) - (sy : Int) == 0) = true := by simp; omega
          have hone : Hid (Dm.cutOne ks' f = (f, ks')) := Lib.hid (by unfold Dm.cutOne; rw [if_pos (by omega)])
          have hsame : Hid (Dm.cutTo ks D.files (k + 1) = Dm.cutTo ks D.files k) := Lib.hid (by rw [← hstep.out, hone.out]; exact upd_self (HRR.right.sorted) hget)
          have H1 := Lib.hid HRR
          have H2 := Lib.hid HSS
          have H3 := Lib.hid HTT
          have H4 := Lib.hid HI
          clear HRR HSS HTT HI hgT hget hx hxf hsh he hxr hrc hfl hsy htail hq hnsz efz ef0 ef1
          go_wp2_with fail
          go_quiet (fail)
          go_wp2
          go_roundw
          case rel =>
            exact ⟨k + 1, p', cap', ks', T', by omega, rfl, rfl, hcap', Lib.hid (by rw [← hrest.out, hone.out]), fun i hi => H4.out i hi, by rw [hsame.out]; exact H1.out.heap fun _ _ => rfl, H2.out, H3.out.drewN _⟩
          case measure => simp [intOf]; omega
        · have d0 : ((fl : Int) - (sy : Int) == 0) = false := by rw [beq_eq_false_iff_ne]; omega
          cases ks' with
          | nil =>
            have hone : Hid (Dm.cutOne [] f = (⟨f.data.take sy, sy⟩, [])) := Lib.hid (by unfold Dm.cutOne; rw [if_neg (by omega), hsy])
            have H1 := Lib.hid HRR
            have H2 := Lib.hid HSS
            have H3 := Lib.hid HTT
            have H4 := Lib.hid HI
            have H5 := Lib.hid he
            have H6 := Lib.hid hx
            have H7 := Lib.hid hxf
            have H8 := Lib.hid hxr
            have H9 := Lib.hid hfl
            have H10 := Lib.hid hsy
            clear HRR HSS HTT HI hgT hget hx hxf hsh he hxr hfl hsy htail hq hnsz efz
            have hle : sy ≤ rcap := by omega
            have hle2 : (sy : Int) ≤ (rcap : Int) := by omega
            go_wp2_with fail
            go_quiet (fail)
            go_wp2_with fail
            go_region
            go_wp2
            have hWc : ((wr.drewN (nq + 1)).setCell ⟨x.blk, 0, none⟩ (.slice pr sy rcap)).heap[x.blk]? = some (.cells #[.slice pr sy rcap, .int .i64 (sy : Nat)] 106 (0, 0)) := by
              rw [set1 (w := wr.drewN (nq + 1)) H5.out.1, H7.out, H10.out]; rfl
            have hWt : Turned (· = x.blk) wr ((wr.drewN (nq + 1)).setCell ⟨x.blk, 0, none⟩ (.slice pr sy rcap)) := ((Turned.refl (· = x.blk) wr).drewN (nq + 1)).trans (turned_setCell (S := (· = x.blk)) _ _ _ rfl) fun _ e => .inl e
            have hxS : S x.blk := H2.out.2.2 _ (mem_get H6.out) _ (by simp [entBlks])
            obtain ⟨T2, hR2, hS2⟩ := cut_ent (D2 := { D with files := Dm.cutTo ks D.files (k + 1) }) H1.out H2.out H6.out (by rw [H8.out, H7.out, H9.out]) (s := sy) (by rw [H7.out, H9.out]; omega) hWc hWt (by rw [H7.out, ← hstep.out, hone.out]) (HRT.out.cutTo ks (k + 1))
            have hT2 : Turned S w1 ((wr.drewN (nq + 1)).setCell ⟨x.blk, 0, none⟩ (.slice pr sy rcap)) := H3.out.trans hWt fun i e => .inl (e ▸ hxS)
            have hI2 : Ints ((wr.drewN (nq + 1)).setCell ⟨x.blk, 0, none⟩ (.slice pr sy rcap)) S p' [] := fun i hi => nomatch hi
            generalize (wr.drewN (nq + 1)).setCell ⟨x.blk, 0, none⟩ (.slice pr sy rcap) = W2 at *
            go_roundw
            case rel => exact ⟨k + 1, p', cap', [], T2, by omega, rfl, rfl, hcap', Lib.hid (by rw [← hrest.out, hone.out]), hI2, hR2, hS2, hT2⟩
            case measure => simp [intOf]; omega
          | cons c cs =>
            obtain ⟨A, hA, hnA, hAz, hAc⟩ := HI 0 (by simp)
            subst hA
            have hAc0 : wr.cell? A = some (.int .i64 c) := hAc
            obtain ⟨s', hs'⟩ : ∃ s' : Nat, sy + min c.toNat (fl - sy) = s' := ⟨_, rfl⟩
            have hs1 : min (max c 0) ((fl : Int) - (sy : Int)) = (s' : Int) - (sy : Int) := by omega
            have hs2 : (sy : Int) + ((s' : Int) - (sy : Int)) = (s' : Int) := by omega
            have hs3 : IntKind.i64.wrap ((s' : Int)) = (s' : Int) := IntWalk.i64_in _ (by omega)
            have hone : Hid (Dm.cutOne (c :: cs) f = (⟨f.data.take s', s'⟩, cs)) := Lib.hid (by unfold Dm.cutOne; rw [if_neg (by omega)]; simp only [hsy, hfl, hs'])
            have hs4 : (s' : Int) ≤ (rcap : Int) := by omega
            have hs5 : s' ≤ fl := by omega
            have hs6 : (0 : Int) ≤ (s' : Int) := by omega
            have hxA : x.blk ≠ A.block := fun e => hnA (e ▸ HSS.2.2 _ (mem_get hx) _ (by simp [entBlks]))
            have H1 := Lib.hid HRR
            have H2 := Lib.hid HSS
            have H3 := Lib.hid HTT
            have H4 := Lib.hid HI
            have H5 := Lib.hid he
            have H6 := Lib.hid hx
            have H7 := Lib.hid hxf
            have H8 := Lib.hid hxr
            have H9 := Lib.hid hfl
            have H10 := Lib.hid hsy
            have H11 := Lib.hid hs'
            clear HRR HSS HTT HI hgT hget hx hxf hsh he hxr hfl hsy htail hq hnsz efz hs' hAc hnA
            go_wp2_with fail
            go_quiet (fail)
            go_wp2_with fail
            go_region
            have hWa : ((wr.drewN (nq + 1)).setCell ⟨x.blk, 1, none⟩ (.int .i64 (s' : Nat))).heap[x.blk]? = some (.cells #[.slice pr fl rcap, .int .i64 (s' : Nat)] 106 (0, 0)) := by
              rw [set1 (w := wr.drewN (nq + 1)) H5.out.1, H8.out, H7.out, H9.out]; rfl
            have hWb : Turned (· = x.blk) wr ((wr.drewN (nq + 1)).setCell ⟨x.blk, 1, none⟩ (.int .i64 (s' : Nat))) := ((Turned.refl (· = x.blk) wr).drewN (nq + 1)).trans (turned_setCell (S := (· = x.blk)) _ _ _ rfl) fun _ e => .inl e
            generalize (wr.drewN (nq + 1)).setCell ⟨x.blk, 1, none⟩ (.int .i64 (s' : Nat)) = W1 at hWa hWb ⊢
            obtain ⟨g0, g1, gfz⟩ := cells2 hWa
            have gf0 := gfz 0
            have HWa := Lib.hid hWa
            have HWb := Lib.hid hWb
            clear hWa hWb gfz e0 e1 ef0 ef1 hAc0 hlk
            have hlen1 : cs.length + 1 ≤ cap' := hcap'
            by_cases hcap1 : cap' = 1
            · subst hcap1
              obtain rfl : cs = [] := List.eq_nil_of_length_eq_zero (by omega)
              go_wp2_with fail
              go_region
              go_wp2
              have hWc : (W1.setCell ⟨x.blk, 0, none⟩ (.slice pr s' rcap)).drew.heap[x.blk]? = some (.cells #[.slice pr s' rcap, .int .i64 (s' : Nat)] 106 (0, 0)) := by
                show (W1.setCell ⟨x.blk, 0, none⟩ (.slice pr s' rcap)).heap[x.blk]? = _
                rw [set1 HWa.out]; rfl
              have hWt : Turned (· = x.blk) wr (W1.setCell ⟨x.blk, 0, none⟩ (.slice pr s' rcap)).drew := (HWb.out.trans (turned_setCell (S := (· = x.blk)) W1 ⟨x.blk, 0, none⟩ (.slice pr s' rcap) rfl) fun _ e => .inl e).trans (turned_drew (S := (· = x.blk)) _) fun _ e => .inl e
              have hxS : S x.blk := H2.out.2.2 _ (mem_get H6.out) _ (by simp [entBlks])
              obtain ⟨T2, hR2, hS2⟩ := cut_ent (D2 := { D with files := Dm.cutTo ks D.files (k + 1) }) H1.out H2.out H6.out (by rw [H8.out, H7.out, H9.out]) (s := s') (by rw [H7.out, H9.out]; omega) hWc hWt (by rw [H7.out, ← hstep.out, hone.out]) (HRT.out.cutTo ks (k + 1))
              have hT2 : Turned S w1 (W1.setCell ⟨x.blk, 0, none⟩ (.slice pr s' rcap)).drew := H3.out.trans hWt fun i e => .inl (e ▸ hxS)
              have hI1 := H4.out.turned hWt fun k _ e => e ▸ hxS
              have hI2 : Ints (W1.setCell ⟨x.blk, 0, none⟩ (.slice pr s' rcap)).drew S (some A) [] := fun i hi => nomatch hi
              go_roundw
              case rel => exact ⟨k + 1, some A, 0, [], T2, by omega, rfl, rfl, Nat.le_refl _, Lib.hid (by rw [← hrest.out, hone.out]), hI2, hR2, hS2, hT2⟩
              case measure => simp [intOf]; omega
            · have hcap2 : 2 ≤ cap' := by omega
              go_wp2_with fail
              go_region
              go_wp2
              have hWc : (W1.setCell ⟨x.blk, 0, none⟩ (.slice pr s' rcap)).drew.heap[x.blk]? = some (.cells #[.slice pr s' rcap, .int .i64 (s' : Nat)] 106 (0, 0)) := by
                show (W1.setCell ⟨x.blk, 0, none⟩ (.slice pr s' rcap)).heap[x.blk]? = _
                rw [set1 HWa.out]; rfl
              have hWt : Turned (· = x.blk) wr (W1.setCell ⟨x.blk, 0, none⟩ (.slice pr s' rcap)).drew := (HWb.out.trans (turned_setCell (S := (· = x.blk)) W1 ⟨x.blk, 0, none⟩ (.slice pr s' rcap) rfl) fun _ e => .inl e).trans (turned_drew (S := (· = x.blk)) _) fun _ e => .inl e
              have hxS : S x.blk := H2.out.2.2 _ (mem_get H6.out) _ (by simp [entBlks])
              obtain ⟨T2, hR2, hS2⟩ := cut_ent (D2 := { D with files := Dm.cutTo ks D.files (k + 1) }) H1.out H2.out H6.out (by rw [H8.out, H7.out, H9.out]) (s := s') (by rw [H7.out, H9.out]; omega) hWc hWt (by rw [H7.out, ← hstep.out, hone.out]) (HRT.out.cutTo ks (k + 1))
              have hT2 : Turned S w1 (W1.setCell ⟨x.blk, 0, none⟩ (.slice pr s' rcap)).drew := H3.out.trans hWt fun i e => .inl (e ▸ hxS)
              have hI1 := H4.out.turned hWt fun k _ e => e ▸ hxS
              have hI2 : Ints (W1.setCell ⟨x.blk, 0, none⟩ (.slice pr s' rcap)).drew S (some ⟨A.block, A.off + 1, none⟩) cs := fun i hi => by
                obtain ⟨A', e1, e2, e3, e4⟩ := hI1 (i + 1) (by simp; omega)
                cases e1
                have e5 : (⟨A.block, A.off + 1, none⟩ : Addr) = A.add 1 := rfl
                refine ⟨_, rfl, e2, e3, ?_⟩
                rw [e5, add_add, Nat.add_comm 1 i, e4]
                simp
              go_roundw
              case rel => exact ⟨k + 1, _, cap' - 1, cs, T2, by omega, rfl, rfl, by omega, Lib.hid (by rw [← hrest.out, hone.out]), hI2, hR2, hS2, hT2⟩
              case measure => simp [intOf]; omega
      · obtain rfl : k = D.files.length := by omega
        have i1 : ¬ (D.files.length : Int) < (D.files.length : Int) := by omega
        rw [Dm.cutTo_all] at HRR
        have H1 := Lib.hid HRR
        have H2 := Lib.hid HSS
        have H3 := Lib.hid HTT
        clear HRR HSS HTT HI
        go_wp2
        go_returns
        exact ⟨rfl, ⟨m, T', H1.out, H2.out⟩, (turned_of_below (S := S) HB.out).trans H3.out fun _ e => .inl e⟩
end Go.Proofs.YtbhjpkejdkfenaaGreatDoor
namespace Go.Proofs.YtbhjpkejdkfenaaGreatDoor
open Go.RowKit Go.Maps Go.Sort Go.Shelf

theorem Disk.tight {w : World} {a : Nat} {D : Dm.Disk} {S : Nat → Prop} (h : Disk w a D S) : Disk w a D fun k => S k ∧ k < w.heap.size := by
  obtain ⟨m, T, h1, h2⟩ := h
  exact ⟨m, T, h1, ⟨⟨h2.1, h1.lt.1⟩, ⟨h2.2.1, h1.lt.2.1⟩, fun p hp k hk => ⟨h2.2.2 p hp k hk, h1.lt.2.2 p hp k hk⟩⟩⟩
theorem Ints.mono {W : World} {S S' : Nat → Prop} {p : Option Addr} {ks : List Int} (h : Ints W S p ks) (hs : ∀ k, S' k → S k) : Ints W S' p ks := fun i hi => by
  obtain ⟨A, h1, h2, h3, h4⟩ := h i hi
  exact ⟨A, h1, fun e => h2 (hs _ e), h3, h4⟩
theorem cut_disk {w : World} {a : Nat} {D : Dm.Disk} {S : Nat → Prop} (h : Disk w a D S) (p : Option Addr) (cap : Nat) (ks : List Int) (hcap : ks.length ≤ cap) (hk : Ints w S p ks) :
    Calls Tryz.prog 51 #[.pointer (some ⟨a, 0, none⟩), .slice p ks.length cap] w fun e w' => e = .returned (.tuple #[]) ∧ Disk w' a { D with files := Dm.cut ks D.files } S ∧ Turned S w w' :=
  (cut_disk0 h.tight (fun _ h => h.2) p cap ks hcap (hk.mono fun _ h => h.1)).mono fun _ _ ⟨he, hd, ht⟩ => ⟨he, hd.mono fun _ h => h.1, ht.mono fun _ h => h.1⟩

theorem Crash_nil (v : Value) (w : World) : Calls Tryz.prog 15 #[.pointer none, v] w fun e w' => e = .returned (.tuple #[]) ∧ w = w' := by
  go_enter Tryz.func15, Tryz.ntmps15
  go_wp2
  go_returns
  exact ⟨rfl, rfl⟩
theorem Start_nil (w : World) : Calls Tryz.prog 34 #[.pointer none] w fun e w' => e = .returned (.tuple #[]) ∧ w = w' := by
  go_enter Tryz.func34, Tryz.ntmps34
  go_wp2
  go_returns
  exact ⟨rfl, rfl⟩

set_option maxRecDepth 100000 in
theorem Crash_disk {w : World} {a : Nat} {D : Dm.Disk} {S : Nat → Prop} (h : Disk w a D S) (p : Option Addr) (cap : Nat) (ks : List Int) (hcap : ks.length ≤ cap) (hk : Ints w S p ks) :
    Calls Tryz.prog 15 #[.pointer (some ⟨a, 0, none⟩), .slice p ks.length cap] w fun e w' => e = .returned (.tuple #[]) ∧ Disk w' a (Dm.crash D ks) S ∧ Turned S w w' := by
  obtain ⟨m, T, hR, hS⟩ := h
  obtain ⟨c0, c1, -, -, -, fz⟩ := cells5 hR.cell
  have f0 := fz 0
  have f1 := fz 1
  have ht : Turned S w ((w.setCell ⟨a, 0, none⟩ (.bool true)).setCell ⟨a, 1, none⟩ (.int .i64 0)) := (turned_setCell (S := S) w _ _ hS.1).trans (turned_setCell (S := S) _ _ _ hS.1) fun _ e => .inl e
  have hD : Disk ((w.setCell ⟨a, 0, none⟩ (.bool true)).setCell ⟨a, 1, none⟩ (.int .i64 0)) a { D with down := true, fuse := 0 } S := by
    refine ⟨m, T, hR.keep (fun k _ hk => (set_other _ _ _ _ _ hk).trans (set_other _ _ _ _ _ hk)) ?_ rfl ⟨hR.right.sorted, hR.right.names, hR.right.few, hR.right.short, by simp, hR.right.room⟩, hS⟩
    rw [set1 (set1 hR.cell _)]; rfl
  have hc := cut_disk hD p cap ks hcap (hk.turned ht fun _ _ h => h)
  have HC := Lib.hid hc
  have HT := Lib.hid ht
  clear hR hS fz hD hc ht hk hcap
  go_enter Tryz.func15, Tryz.ntmps15
  go_wp2_with fail
  refine HC.out.mono ?_
  rintro e w2 ⟨rfl, hd, ht⟩
  have H1 := Lib.hid hd
  have H2 := Lib.hid ht
  clear hd ht
  go_wp2
  go_returns
  exact ⟨rfl, H1.out, HT.out.trans H2.out fun _ e => .inl e⟩

set_option maxRecDepth 100000 in
theorem Start_disk {w : World} {a : Nat} {D : Dm.Disk} {S : Nat → Prop} (h : Disk w a D S) :
    Calls Tryz.prog 34 #[.pointer (some ⟨a, 0, none⟩)] w fun e w' => e = .returned (.tuple #[]) ∧ Disk w' a (Dm.start D) S ∧ Turned S w w' := by
  have hc := cut_disk h none 0 [] (Nat.le_refl _) (fun i hi => nomatch hi)
  have HH := Lib.hid h
  obtain ⟨m, T, hR, hS⟩ := h
  obtain ⟨c0, -, -, -, -, -⟩ := cells5 hR.cell
  cases hd : D.down with
  | false =>
    rw [hd] at c0
    have hv : Dm.start D = D := by unfold Dm.start; rw [hd]; rfl
    rw [hv]
    clear hR hS hc hd hv
    go_enter Tryz.func34, Tryz.ntmps34
    go_wp2
    go_returns
    exact ⟨rfl, HH.out, Turned.refl _ _⟩
  | true =>
    rw [hd] at c0
    have hv : Dm.start D = { D with down := false, files := Dm.cut [] D.files } := by unfold Dm.start; rw [hd]; rfl
    rw [hv]
    have HC := Lib.hid hc
    clear hR hS hc hd hv
    go_enter Tryz.func34, Tryz.ntmps34
    go_wp2_with fail
    refine HC.out.mono ?_
    rintro e w2 ⟨rfl, ⟨m2, T2, hR2, hS2⟩, ht⟩
    obtain ⟨d0, -, -, -, -, fz⟩ := cells5 hR2.cell
    have f0 := fz 0
    have hD : Disk (w2.setCell ⟨a, 0, none⟩ (.bool false)) a { D with down := false, files := Dm.cut [] D.files } S := by
      refine ⟨m2, T2, hR2.keep (fun k _ hk => set_other _ _ _ _ _ hk) ?_ rfl ⟨hR2.right.sorted, hR2.right.names, hR2.right.few, hR2.right.short, hR2.right.fuse, hR2.right.room⟩, hS2⟩
      rw [set1 hR2.cell]; rfl
    have H1 := Lib.hid hD
    have H2 := Lib.hid (ht.trans (turned_setCell (S := S) w2 ⟨a, 0, none⟩ (.bool false) hS2.1) fun _ e => .inl e)
    clear hR2 hS2 hD ht fz
    go_wp2
    go_returns
    exact ⟨rfl, H1.out, H2.out⟩
end Go.Proofs.YtbhjpkejdkfenaaGreatDoor
namespace Go.Proofs.YtbhjpkejdkfenaaGreatDoor
open Go.RowKit Go.Maps Go.Sort Go.Shelf

/-- Since w0 the world has turned in new blocks alone; a disk with D lies in them. -/
structure In (w0 w : World) (a : Nat) (D : Dm.Disk) : Prop where
  disk : Disk w a D (w0.heap.size ≤ ·)
  below : Below w0.heap.size w0 w

section
variable {w0 w : World} {a : Nat} {D : Dm.Disk}
theorem In.right (h : In w0 w a D) : Dm.Right D := h.disk.right
theorem In.of {w' : World} {D' : Dm.Disk} (h : In w0 w a D) (hd : Disk w' a D' (Grow (w0.heap.size ≤ ·) w)) (ht : Turned (w0.heap.size ≤ ·) w w') : In w0 w' a D' :=
  ⟨hd.mono fun _ e => e.elim id fun e => Nat.le_trans h.below.size e, h.below.trans (ht.below h.below.size fun _ e => e)⟩
theorem In.same {w' : World} (h : In w0 w a D) (hb : Below w.heap.size w w') : In w0 w' a D :=
  ⟨by obtain ⟨m, T, h1, h2⟩ := h.disk; exact ⟨m, T, h1.heap fun k hk => hb.block k hk, h2⟩, h.below.trans (hb.mono h.below.size)⟩
theorem In.alloc (h : In w0 w a D) (o : Obj) : In w0 (w.alloc o) a D := h.same ((Below.refl _ w).alloc (Nat.le_refl _) o)

theorem new_in (hb : Below w0.heap.size w0 w) : Calls Tryz.prog 14 #[] w fun e w' => ∃ a, e = .returned (.pointer (some ⟨a, 0, none⟩)) ∧ In w0 w' a Dm.new :=
  (New_disk w).mono fun _ _ ⟨a, he, hd, hb'⟩ => ⟨a, he, hd.mono fun _ e => Nat.le_trans hb.size e, hb.trans (hb'.mono hb.size)⟩
theorem create_in (h : In w0 w a D) (s : ByteArray) (hs : s.size ≤ maxLen) {c : Int} (hc : ((Dm.create D s.data.toList).1 : Int) = c) :
    Calls Tryz.prog 31 #[.pointer (some ⟨a, 0, none⟩), .string s] w fun e w' => e = .returned (.int .i64 c) ∧ In w0 w' a (Dm.create D s.data.toList).2 :=
  (Create_disk h.disk s hs).mono fun _ _ ⟨he, hd, ht⟩ => ⟨by rw [he, hc], h.of hd ht⟩
theorem append_in (h : In w0 w a D) (s t : ByteArray) (hs : s.size ≤ maxLen) (ht : t.size ≤ maxLen) {c : Int} (hc : ((Dm.append D s.data.toList t.data.toList).1 : Int) = c) :
    Calls Tryz.prog 82 #[.pointer (some ⟨a, 0, none⟩), .string s, .string t] w fun e w' => e = .returned (.int .i64 c) ∧ In w0 w' a (Dm.append D s.data.toList t.data.toList).2 :=
  (Append_disk h.disk s t hs ht).mono fun _ _ ⟨he, hd, ht⟩ => ⟨by rw [he, hc], h.of hd ht⟩
theorem sync_in (h : In w0 w a D) (s : ByteArray) (hs : s.size ≤ maxLen) {c : Int} (hc : ((Dm.sync D s.data.toList).1 : Int) = c) :
    Calls Tryz.prog 80 #[.pointer (some ⟨a, 0, none⟩), .string s] w fun e w' => e = .returned (.int .i64 c) ∧ In w0 w' a (Dm.sync D s.data.toList).2 :=
  (Sync_disk h.disk s hs).mono fun _ _ ⟨he, hd, ht⟩ => ⟨by rw [he, hc], h.of hd ht⟩
theorem rename_in (h : In w0 w a D) (s t : ByteArray) (hs : s.size ≤ maxLen) (ht : t.size ≤ maxLen) {c : Int} (hc : ((Dm.rename D s.data.toList t.data.toList).1 : Int) = c) :
    Calls Tryz.prog 83 #[.pointer (some ⟨a, 0, none⟩), .string s, .string t] w fun e w' => e = .returned (.int .i64 c) ∧ In w0 w' a (Dm.rename D s.data.toList t.data.toList).2 :=
  (Rename_disk h.disk s t hs ht).mono fun _ _ ⟨he, hd, ht⟩ => ⟨by rw [he, hc], h.of hd ht⟩
theorem remove_in (h : In w0 w a D) (s : ByteArray) (hs : s.size ≤ maxLen) {c : Int} (hc : ((Dm.remove D s.data.toList).1 : Int) = c) :
    Calls Tryz.prog 97 #[.pointer (some ⟨a, 0, none⟩), .string s] w fun e w' => e = .returned (.int .i64 c) ∧ In w0 w' a (Dm.remove D s.data.toList).2 :=
  (Remove_disk h.disk s hs).mono fun _ _ ⟨he, hd, ht⟩ => ⟨by rw [he, hc], h.of hd ht⟩
theorem read_in (h : In w0 w a D) (s : ByteArray) (hs : s.size ≤ maxLen) {l : List UInt8} {c : Int} (hl : (Dm.read D s.data.toList).1 = l) (hc : ((Dm.read D s.data.toList).2 : Int) = c) :
    Calls Tryz.prog 35 #[.pointer (some ⟨a, 0, none⟩), .string s] w fun e w' => e = .returned (.tuple #[.string ⟨l.toArray⟩, .int .i64 c]) ∧ w = w' :=
  (Read_disk h.disk s hs).mono fun _ _ ⟨he, hw⟩ => ⟨by rw [he, hl, hc], hw⟩
theorem used_in (h : In w0 w a D) {c : Int} (hc : (Dm.used D.files : Int) = c) :
    Calls Tryz.prog 101 #[.pointer (some ⟨a, 0, none⟩)] w fun e w' => e = .returned (.int .i64 c) ∧ In w0 w' a D :=
  (Used_disk h.disk).mono fun _ _ ⟨he, hb⟩ => ⟨by rw [he, hc], h.same hb⟩
theorem list_in (h : In w0 w a D) :
    Calls Tryz.prog 77 #[.pointer (some ⟨a, 0, none⟩)] w fun e w' => ∃ v, e = .returned v ∧ Listed w (Dm.keys D.files) v w' ∧ In w0 w' a D :=
  (List_disk h.disk).mono fun _ _ ⟨v, he, hl⟩ => ⟨v, he, hl, h.same hl.2.2⟩
theorem down_in (h : In w0 w a D) {b : Bool} (hb : D.down = b) :
    Calls Tryz.prog 33 #[.pointer (some ⟨a, 0, none⟩)] w fun e w' => e = .returned (.bool b) ∧ w = w' := by
  rw [← hb]; exact Down_disk h.disk
theorem fuse_in (h : In w0 w a D) (n : Int) (hn : n ≤ 9223372036854775807) :
    Calls Tryz.prog 29 #[.pointer (some ⟨a, 0, none⟩), .int .i64 n] w fun e w' => e = .returned (.tuple #[]) ∧ In w0 w' a (Dm.fuseTo D n) :=
  (Fuse_disk h.disk n hn).mono fun _ _ ⟨he, hd, ht⟩ => ⟨he, h.of (hd.mono fun _ e => .inl e) ht⟩
theorem start_in (h : In w0 w a D) :
    Calls Tryz.prog 34 #[.pointer (some ⟨a, 0, none⟩)] w fun e w' => e = .returned (.tuple #[]) ∧ In w0 w' a (Dm.start D) :=
  (Start_disk h.disk).mono fun _ _ ⟨he, hd, ht⟩ => ⟨he, h.of (hd.mono fun _ e => .inl e) ht⟩
/-- A crash by numbers that were handed in. -/
theorem crash_in (h : In w0 w a D) (p : Option Addr) (cap : Nat) (ks : List Int) (hcap : ks.length ≤ cap) (hk : Ints w (w0.heap.size ≤ ·) p ks) :
    Calls Tryz.prog 15 #[.pointer (some ⟨a, 0, none⟩), .slice p ks.length cap] w fun e w' => e = .returned (.tuple #[]) ∧ In w0 w' a (Dm.crash D ks) :=
  (Crash_disk h.disk p cap ks hcap hk).mono fun _ _ ⟨he, hd, ht⟩ => ⟨he, h.of (hd.mono fun _ e => .inl e) ht⟩
theorem crash_none (h : In w0 w a D) :
    Calls Tryz.prog 15 #[.pointer (some ⟨a, 0, none⟩), .slice none 0 0] w fun e w' => e = .returned (.tuple #[]) ∧ In w0 w' a (Dm.crash D []) :=
  crash_in h none 0 [] (Nat.le_refl _) fun _ hi => nomatch hi
/-- A crash by numbers that the law writes down there. -/
theorem crash_lit (h : In w0 w a D) (ks : List Int) (hks : ks ≠ []) :
    Calls Tryz.prog 15 #[.pointer (some ⟨a, 0, none⟩), .slice (some ⟨w.heap.size, 0, none⟩) ks.length ks.length] (w.alloc (.cells (ks.map (Value.int .i64)).toArray 3)) fun e w' => e = .returned (.tuple #[]) ∧ In w0 w' a (Dm.crash D ks) := by
  have hd := h.disk.tight
  have hd2 : Disk (w.alloc (.cells (ks.map (Value.int .i64)).toArray 3)) a D fun k => w0.heap.size ≤ k ∧ k < w.heap.size := by
    obtain ⟨m, T, h1, h2⟩ := hd; exact ⟨m, T, h1.alloc _, h2⟩
  refine (Crash_disk hd2 (some ⟨w.heap.size, 0, none⟩) ks.length ks (Nat.le_refl _) fun i hi => ⟨_, rfl, by simp, by simp, ?_⟩).mono fun _ _ ⟨he, hd, ht⟩ => ⟨he, (h.alloc _).of (hd.mono fun _ e => .inl e.1) (ht.mono fun _ e => e.1)⟩
  have e : (⟨w.heap.size, 0, none⟩ : Addr).add i = ⟨w.heap.size, i, none⟩ := by unfold Addr.add; split <;> simp_all
  rw [e, cell_of_row _ _ _ _ _ _ (heap_alloc_new w _)]
  simp [hi]
end
end Go.Proofs.YtbhjpkejdkfenaaGreatDoor
namespace Go.Proofs.YtbhjpkejdkfenaaGreatDoor
open Go.RowKit Go.Maps Go.Sort Go.Shelf

/-- Since w0 the world has turned in new blocks alone; a disk with D lies in them, at a; the blocks of B are none of its, are apart, and hold what B says. -/
structure Bx (w0 w : World) (a : Nat) (D : Dm.Disk) (B : List (Nat × Obj)) : Prop where
  ex : ∃ S : Nat → Prop, Disk w a D S ∧ (∀ k, S k → w0.heap.size ≤ k ∧ k < w.heap.size) ∧ ∀ p ∈ B, ¬ S p.1
  box : ∀ p ∈ B, w.heap[p.1]? = some p.2
  apart : (B.map (·.1)).Nodup
  new : ∀ p ∈ B, w0.heap.size ≤ p.1
  below : Below w0.heap.size w0 w

section
variable {w0 w w' : World} {a : Nat} {D D' : Dm.Disk} {B B' : List (Nat × Obj)}
theorem Bx.lt (h : Bx w0 w a D B) : ∀ p ∈ B, p.1 < w.heap.size := fun p hp => (Array.getElem?_eq_some_iff.1 (h.box p hp)).1
theorem Bx.right (h : Bx w0 w a D B) : Dm.Right D := by obtain ⟨S, h1, -⟩ := h.ex; exact h1.right
theorem Bx.of {S : Nat → Prop} (h : Bx w0 w a D B) (h2 : ∀ k, S k → w0.heap.size ≤ k ∧ k < w.heap.size) (h3 : ∀ p ∈ B, ¬ S p.1) (hd : Disk w' a D' (Grow S w)) (ht : Turned S w w') : Bx w0 w' a D' B :=
  ⟨⟨_, hd.tight, fun k hk => ⟨hk.1.elim (fun e => (h2 k e).1) fun e => Nat.le_trans h.below.size e, hk.2⟩, fun p hp e => e.1.elim (h3 p hp) fun e => by have := h.lt p hp; omega⟩,
    fun p hp => (ht.block _ (h.lt p hp) (h3 p hp)).trans (h.box p hp), h.apart, h.new, h.below.trans (ht.below h.below.size fun k hk => (h2 k hk).1)⟩
theorem Disk.below_ {S : Nat → Prop} (h : Disk w a D S) (hb : Below w.heap.size w w') : Disk w' a D S := by
  obtain ⟨m, T, h1, h2⟩ := h; exact ⟨m, T, h1.heap fun k hk => hb.block k hk, h2⟩
theorem Bx.same (h : Bx w0 w a D B) (hb : Below w.heap.size w w') : Bx w0 w' a D B := by
  obtain ⟨S, h1, h2, h3⟩ := h.ex
  exact h.of h2 h3 ((h1.below_ hb).mono fun _ e => .inl e) (turned_of_below hb)
theorem Bx.alloc (h : Bx w0 w a D B) (o : Obj) : Bx w0 (w.alloc o) a D ((w.heap.size, o) :: B) := by
  obtain ⟨S, h1, h2, h3⟩ := h.ex
  have hb : Below w.heap.size w (w.alloc o) := (Below.refl _ w).alloc (Nat.le_refl _) o
  refine ⟨⟨S, h1.below_ hb, fun k hk => ⟨(h2 k hk).1, Nat.lt_of_lt_of_le (h2 k hk).2 hb.size⟩, fun p hp => ?_⟩, fun p hp => ?_, ?_, fun p hp => ?_, h.below.trans (hb.mono h.below.size)⟩
  · rcases List.mem_cons.1 hp with rfl | hp
    · exact fun e => Nat.lt_irrefl _ (h2 _ e).2
    · exact h3 p hp
  · rcases List.mem_cons.1 hp with rfl | hp
    · exact heap_alloc_new w o
    · exact (hb.block _ (h.lt p hp)).trans (h.box p hp)
  · rw [List.map_cons]
    refine List.nodup_cons.2 ⟨fun e => ?_, h.apart⟩
    obtain ⟨p, hp, e⟩ := List.mem_map.1 e
    have := h.lt p hp
    simp only at e; omega
  · rcases List.mem_cons.1 hp with rfl | hp
    · exact h.below.size
    · exact h.new p hp
theorem Bx.sub (h : Bx w0 w a D B) (hs : B'.Sublist B) : Bx w0 w a D B' := by
  obtain ⟨S, h1, h2, h3⟩ := h.ex
  exact ⟨⟨S, h1, h2, fun p hp => h3 p (hs.subset hp)⟩, fun p hp => h.box p (hs.subset hp), h.apart.sublist (hs.map _), fun p hp => h.new p (hs.subset hp), h.below⟩
theorem Bx.perm (h : Bx w0 w a D B) (hs : B'.Perm B) : Bx w0 w a D B' := by
  obtain ⟨S, h1, h2, h3⟩ := h.ex
  exact ⟨⟨S, h1, h2, fun p hp => h3 p (hs.subset hp)⟩, fun p hp => h.box p (hs.subset hp), (hs.map _).nodup_iff.2 h.apart, fun p hp => h.new p (hs.subset hp), h.below⟩
/-- A box turns, and what is new. -/
theorem Bx.turn {b : Nat} {o o' : Obj} (h : Bx w0 w a D ((b, o) :: B)) (ht : Turned (fun k => k = b) w w') (ho : w'.heap[b]? = some o') : Bx w0 w' a D ((b, o') :: B) := by
  obtain ⟨S, h1, h2, h3⟩ := h.ex
  have hbS := h3 _ List.mem_cons_self
  have hnd := List.nodup_cons.1 h.apart
  have hne : ∀ p ∈ B, p.1 ≠ b := fun p hp e => hnd.1 (List.mem_map.2 ⟨p, hp, e⟩)
  refine ⟨⟨S, h1.stay ht fun k hk e => hbS (by rw [← e]; exact hk), fun k hk => ⟨(h2 k hk).1, Nat.lt_of_lt_of_le (h2 k hk).2 ht.size⟩, fun p hp => ?_⟩, fun p hp => ?_, h.apart, fun p hp => ?_, h.below.trans (ht.below h.below.size fun k e => by rw [e]; exact h.new _ List.mem_cons_self)⟩
  · rcases List.mem_cons.1 hp with rfl | hp
    · exact hbS
    · exact h3 p (List.mem_cons_of_mem _ hp)
  · rcases List.mem_cons.1 hp with rfl | hp
    · exact ho
    · exact (ht.block _ (h.lt p (List.mem_cons_of_mem _ hp)) (hne p hp)).trans (h.box p (List.mem_cons_of_mem _ hp))
  · rcases List.mem_cons.1 hp with rfl | hp
    · exact h.new (b, o) List.mem_cons_self
    · exact h.new p (List.mem_cons_of_mem _ hp)
theorem Bx.set {b : Nat} {cs : Array Value} {T : TypeId} (h : Bx w0 w a D ((b, .cells cs T (0, 0)) :: B)) (i : Nat) (v : Value) : Bx w0 (w.setCell ⟨b, i, none⟩ v) a D ((b, .cells (cs.setIfInBounds i v) T (0, 0)) :: B) :=
  h.turn (turned_setCell _ _ _ rfl) (set1 (h.box _ List.mem_cons_self) v)
theorem Bx.drew (h : Bx w0 w a D B) : Bx w0 w.drew a D B := h.same (Below.refl _ w).drew

theorem create_b (h : Bx w0 w a D B) (s : ByteArray) (hs : s.size ≤ maxLen) {c : Nat} (e : Dm.create D s.data.toList = (c, D')) :
    Calls Tryz.prog 31 #[.pointer (some ⟨a, 0, none⟩), .string s] w fun e w' => e = .returned (.int .i64 (c : Nat)) ∧ Bx w0 w' a D' B := by
  obtain ⟨S, h1, h2, h3⟩ := h.ex
  have := Create_disk h1 s hs
  rw [e] at this
  exact this.mono fun _ _ ⟨he, hd, ht⟩ => ⟨he, h.of h2 h3 hd ht⟩
theorem append_b (h : Bx w0 w a D B) (s t : ByteArray) (hs : s.size ≤ maxLen) (ht : t.size ≤ maxLen) {c : Nat} (e : Dm.append D s.data.toList t.data.toList = (c, D')) :
    Calls Tryz.prog 82 #[.pointer (some ⟨a, 0, none⟩), .string s, .string t] w fun e w' => e = .returned (.int .i64 (c : Nat)) ∧ Bx w0 w' a D' B := by
  obtain ⟨S, h1, h2, h3⟩ := h.ex
  have := Append_disk h1 s t hs ht
  rw [e] at this
  exact this.mono fun _ _ ⟨he, hd, ht⟩ => ⟨he, h.of h2 h3 hd ht⟩
theorem sync_b (h : Bx w0 w a D B) (s : ByteArray) (hs : s.size ≤ maxLen) {c : Nat} (e : Dm.sync D s.data.toList = (c, D')) :
    Calls Tryz.prog 80 #[.pointer (some ⟨a, 0, none⟩), .string s] w fun e w' => e = .returned (.int .i64 (c : Nat)) ∧ Bx w0 w' a D' B := by
  obtain ⟨S, h1, h2, h3⟩ := h.ex
  have := Sync_disk h1 s hs
  rw [e] at this
  exact this.mono fun _ _ ⟨he, hd, ht⟩ => ⟨he, h.of h2 h3 hd ht⟩
theorem rename_b (h : Bx w0 w a D B) (s t : ByteArray) (hs : s.size ≤ maxLen) (ht : t.size ≤ maxLen) {c : Nat} (e : Dm.rename D s.data.toList t.data.toList = (c, D')) :
    Calls Tryz.prog 83 #[.pointer (some ⟨a, 0, none⟩), .string s, .string t] w fun e w' => e = .returned (.int .i64 (c : Nat)) ∧ Bx w0 w' a D' B := by
  obtain ⟨S, h1, h2, h3⟩ := h.ex
  have := Rename_disk h1 s t hs ht
  rw [e] at this
  exact this.mono fun _ _ ⟨he, hd, ht⟩ => ⟨he, h.of h2 h3 hd ht⟩
theorem remove_b (h : Bx w0 w a D B) (s : ByteArray) (hs : s.size ≤ maxLen) {c : Nat} (e : Dm.remove D s.data.toList = (c, D')) :
    Calls Tryz.prog 97 #[.pointer (some ⟨a, 0, none⟩), .string s] w fun e w' => e = .returned (.int .i64 (c : Nat)) ∧ Bx w0 w' a D' B := by
  obtain ⟨S, h1, h2, h3⟩ := h.ex
  have := Remove_disk h1 s hs
  rw [e] at this
  exact this.mono fun _ _ ⟨he, hd, ht⟩ => ⟨he, h.of h2 h3 hd ht⟩
theorem read_b (h : Bx w0 w a D B) (s : ByteArray) (hs : s.size ≤ maxLen) {l : List UInt8} {c : Nat} (e : Dm.read D s.data.toList = (l, c)) :
    Calls Tryz.prog 35 #[.pointer (some ⟨a, 0, none⟩), .string s] w fun e w' => e = .returned (.tuple #[.string ⟨l.toArray⟩, .int .i64 (c : Nat)]) ∧ w = w' := by
  obtain ⟨S, h1, -⟩ := h.ex
  have := Read_disk h1 s hs
  rw [e] at this
  exact this
theorem list_b (h : Bx w0 w a D B) :
    Calls Tryz.prog 77 #[.pointer (some ⟨a, 0, none⟩)] w fun e w' => ∃ v, e = .returned v ∧ Listed w (Dm.keys D.files) v w' ∧ Bx w0 w' a D B := by
  obtain ⟨S, h1, -⟩ := h.ex
  exact (List_disk h1).mono fun _ _ ⟨v, he, hl⟩ => ⟨v, he, hl, h.same hl.2.2⟩
theorem down_b (h : Bx w0 w a D B) {b : Bool} (hb : D.down = b) :
    Calls Tryz.prog 33 #[.pointer (some ⟨a, 0, none⟩)] w fun e w' => e = .returned (.bool b) ∧ w = w' := by
  obtain ⟨S, h1, -⟩ := h.ex
  rw [← hb]; exact Down_disk h1
theorem fuse_b (h : Bx w0 w a D B) (n : Int) (hn : n ≤ 9223372036854775807) :
    Calls Tryz.prog 29 #[.pointer (some ⟨a, 0, none⟩), .int .i64 n] w fun e w' => e = .returned (.tuple #[]) ∧ Bx w0 w' a (Dm.fuseTo D n) B := by
  obtain ⟨S, h1, h2, h3⟩ := h.ex
  exact (Fuse_disk h1 n hn).mono fun _ _ ⟨he, hd, ht⟩ => ⟨he, h.of h2 h3 (hd.mono fun _ e => .inl e) ht⟩
theorem start_b (h : Bx w0 w a D B) :
    Calls Tryz.prog 34 #[.pointer (some ⟨a, 0, none⟩)] w fun e w' => e = .returned (.tuple #[]) ∧ Bx w0 w' a (Dm.start D) B := by
  obtain ⟨S, h1, h2, h3⟩ := h.ex
  exact (Start_disk h1).mono fun _ _ ⟨he, hd, ht⟩ => ⟨he, h.of h2 h3 (hd.mono fun _ e => .inl e) ht⟩
theorem crash_b (h : Bx w0 w a D B) (p : Option Addr) (cap : Nat) (ks : List Int) (hcap : ks.length ≤ cap) (hk : ∀ S : Nat → Prop, (∀ k, S k → w0.heap.size ≤ k) → Ints w S p ks) :
    Calls Tryz.prog 15 #[.pointer (some ⟨a, 0, none⟩), .slice p ks.length cap] w fun e w' => e = .returned (.tuple #[]) ∧ Bx w0 w' a (Dm.crash D ks) B := by
  obtain ⟨S, h1, h2, h3⟩ := h.ex
  exact (Crash_disk h1 p cap ks hcap (hk S fun k hk => (h2 k hk).1)).mono fun _ _ ⟨he, hd, ht⟩ => ⟨he, h.of h2 h3 (hd.mono fun _ e => .inl e) ht⟩
theorem crash_b0 (h : Bx w0 w a D B) :
    Calls Tryz.prog 15 #[.pointer (some ⟨a, 0, none⟩), .slice none 0 0] w fun e w' => e = .returned (.tuple #[]) ∧ Bx w0 w' a (Dm.crash D []) B :=
  crash_b h none 0 [] (Nat.le_refl _) fun _ _ _ hi => nomatch hi
theorem new_b (hb : Below w0.heap.size w0 w) : Calls Tryz.prog 14 #[] w fun e w' => ∃ a, e = .returned (.pointer (some ⟨a, 0, none⟩)) ∧ Bx w0 w' a Dm.new [] :=
  (New_disk w).mono fun _ _ ⟨a, he, hd, hb'⟩ => ⟨a, he, ⟨_, hd.tight, fun k hk => ⟨Nat.le_trans hb.size hk.1, hk.2⟩, fun _ h => nomatch h⟩, (fun _ h => nomatch h), List.nodup_nil, (fun _ h => nomatch h), hb.trans (hb'.mono hb.size)⟩
end
end Go.Proofs.YtbhjpkejdkfenaaGreatDoor
