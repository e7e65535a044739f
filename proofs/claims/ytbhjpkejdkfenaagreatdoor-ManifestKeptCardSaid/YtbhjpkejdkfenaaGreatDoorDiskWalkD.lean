/-
  Walks over package disk: ready, isName. Conditions: those in the theorems.
  Walks over package disk: find. Conditions: those in the theorems.
  Walks over package disk: Read, change. Conditions: those in the theorems.
  Walks over package disk: put, Create. Conditions: those in the theorems.
-/
import Derived.Test.YtbhjpkejdkfenaaGreatDoorDiskRep
import Derived.WalkSpells
import Derived.WalkLawsBesides
import Derived.Handy
import Derived.Deep.QuietTactic
import Derived.BigQuiet
import Derived.Test.YtbhjpkejdkfenaaGreatDoorSumShelf
import Derived.Deep.RegionHeld3
import Derived.Maps.RangeWalk
set_option linter.unusedSimpArgs false
set_option linter.unusedVariables false
namespace Go.Proofs.YtbhjpkejdkfenaaGreatDoor
open Go.RowKit Go.Maps
theorem ready_any (a m : Nat) (D : Dm.Disk) (w : World) (hc : w.heap[a]? = some (.cells #[.bool D.down, .int .i64 (D.fuse : Nat), .bool D.bounded, .int .i64 (D.room : Nat), .map (some m)] 95 (0, 0))) :
    Calls Tryz.prog 59 #[.pointer (some ⟨a, 0, none⟩)] w fun e w' => e = .returned (.int .i64 (if D.down then 7 else 0)) ∧ w = w' := by
  obtain ⟨c0, -, -, -, -, -⟩ := cells5 hc
  clear hc
  cases hd : D.down
  all_goals
    rw [hd] at c0
    clear hd
    go_enter Tryz.func59, Tryz.ntmps59
    go_wp2
    go_ret
    exact ⟨rfl, rfl⟩
theorem ready_nil (w : World) :
    Calls Tryz.prog 59 #[.pointer none] w fun e w' => e = .returned (.int .i64 2) ∧ w = w' := by
  go_enter Tryz.func59, Tryz.ntmps59
  go_wp2
  go_ret
  exact ⟨rfl, rfl⟩
theorem isNameEmpty (w : World) : Calls Tryz.prog 60 #[.string ⟨#[]⟩] w fun e w' => e = .returned (.bool false) ∧ w = w' := by
  go_enter Tryz.func60, Tryz.ntmps60
  go_wp2
  go_ret
  exact ⟨rfl, rfl⟩
theorem nameByte_iff (c : UInt8) : Dm.nameByte c = true ↔ (97 ≤ (c.toNat : Int) ∧ (c.toNat : Int) ≤ 122) ∨ (48 ≤ (c.toNat : Int) ∧ (c.toNat : Int) ≤ 57) ∨ (c.toNat : Int) = 46 ∨ (c.toNat : Int) = 45 := by
  unfold Dm.nameByte
  simp [UInt8.le_iff_toNat_le, ← UInt8.toNat_inj]
  omega
theorem isName_false {l : List UInt8} {k : Nat} (hk : k < l.length) (h : Dm.nameByte l[k] = false) : Dm.isName l = false := by
  unfold Dm.isName
  have : l.all Dm.nameByte = false := by
    rw [List.all_eq_false]; exact ⟨l[k], List.getElem_mem hk, by rw [h]; simp⟩
  rw [this]; simp
theorem parts (x : Int) (h0 : 0 ≤ x) (h1 : x ≤ 255) : x ≤ 44 ∨ x = 45 ∨ x = 46 ∨ x = 47 ∨ (48 ≤ x ∧ x ≤ 57) ∨ (58 ≤ x ∧ x ≤ 96) ∨ (97 ≤ x ∧ x ≤ 122) ∨ 123 ≤ x := by omega
def OkTo (l : List UInt8) (k : Nat) : Prop := (l.take k).all Dm.nameByte = true
theorem okTo_zero (l : List UInt8) : OkTo l 0 := rfl
theorem OkTo.succ {l : List UInt8} {k : Nat} (h : OkTo l k) (hk : k < l.length) (hb : Dm.nameByte l[k] = true) : OkTo l (k + 1) := by
  unfold OkTo at *; rw [List.take_succ_eq_append_getElem hk, List.all_append, h]; simp [hb]
theorem OkTo.all {l : List UInt8} {k : Nat} (h : OkTo l k) (hk : l.length ≤ k) (h1 : 1 ≤ l.length) (h2 : l.length ≤ 32) : Dm.isName l = true := by
  unfold OkTo at h; rw [List.take_of_length_le hk] at h; unfold Dm.isName; simp [h, h1, h2]
set_option maxHeartbeats 2000000 in
theorem isNameAny (s : ByteArray) (w : World) (hm : s.size ≤ maxLen) : Calls Tryz.prog 60 #[.string s] w fun e w' => e = .returned (.bool (Dm.isName s.data.toList)) ∧ w = w' := by
  unfold maxLen at hm
  have hl : s.data.toList.length = s.size := by simp
  by_cases h1 : 1 ≤ s.size ∧ s.size ≤ 32
  · obtain ⟨h1, h2⟩ := h1
    have d1 : decide ((s.size : Int) < 1) = false := by simp; omega
    have d2 : decide ((32 : Int) < (s.size : Int)) = false := by simp; omega
    go_enter Tryz.func60, Tryz.ntmps60
    go_wp2
    go_loop [15] (fun i => ∃ k : Nat, k ≤ s.size ∧ i = .int .i64 (k : Nat) ∧ OkTo s.data.toList k) (fun i => s.size - (intOf i).toNat)
    case atStart => exact ⟨0, Nat.zero_le _, rfl, okTo_zero _⟩
    case round =>
      obtain ⟨k, hk, rfl, H⟩ := hrel
      by_cases hlt : k < s.size
      · have i1 : (k : Int) < (s.size : Int) := by omega
        have i2 : (0 : Int) ≤ (k : Int) := by omega
        have hb := nameByte_iff s[k]
        have hgood : Dm.nameByte s[k] = true → OkTo s.data.toList (k + 1) := fun h => H.succ (by omega) h
        have hbad : Dm.nameByte s[k] = false → Dm.isName s.data.toList = false := fun h => isName_false (k := k) (by omega) h
        have hx0 : (0 : Int) ≤ (s[k].toNat : Int) := by omega
        have hx1 : (s[k].toNat : Int) ≤ 255 := by have := s[k].toNat_lt; omega
        generalize Dm.nameByte s[k] = nb at hb hgood hbad
        have HB := Lib.hid hb
        have HG := Lib.hid hgood
        have HN := Lib.hid hbad
        clear hb hgood hbad hl
        rcases parts _ hx0 hx1 with h | h | h | h | h | h | h | h
        all_goals
          (first
            | (have e1 : ((s[k].toNat : Int) != 46) = true := by simp; omega
               have e2 : ((s[k].toNat : Int) != 45) = true := by simp; omega
               go_wp2)
            | (have e1 : ((s[k].toNat : Int) != 46) = true := by simp; omega
               have e2 : ((s[k].toNat : Int) != 45) = false := by simp; omega
               go_wp2)
            | (have e1 : ((s[k].toNat : Int) != 46) = false := by simp; omega
               go_wp2))
        all_goals
          (first
            | (go_ret
               exact ⟨by rw [HN.out (by rw [Bool.eq_false_iff, ne_eq, HB.out]; omega)]; rfl, rfl⟩)
            | (go_round
               case rel => exact ⟨k + 1, by omega, rfl, HG.out (by rw [HB.out]; omega)⟩
               case measure => simp [intOf]; omega))
      · have i1 : ¬ (k : Int) < (s.size : Int) := by omega
        have hall := Lib.hid (H.all (by omega) (by omega) (by omega))
        clear hl
        go_wp2
        go_ret
        exact ⟨by rw [hall.out]; rfl, rfl⟩
  · have hf : Dm.isName s.data.toList = false := by
      unfold Dm.isName
      by_cases h : 1 ≤ s.size
      · have h3 : ¬ s.data.toList.length ≤ 32 := by omega
        rw [decide_eq_false h3]; simp
      · have h3 : ¬ 1 ≤ s.data.toList.length := by omega
        rw [decide_eq_false h3]; rfl
    have HF := Lib.hid hf
    clear hf hl
    by_cases h : 1 ≤ s.size
    · have d1 : decide ((s.size : Int) < 1) = false := by simp; omega
      have d2 : decide ((32 : Int) < (s.size : Int)) = true := by simp; omega
      go_enter Tryz.func60, Tryz.ntmps60
      go_wp2
      go_ret
      exact ⟨by rw [HF.out]; rfl, rfl⟩
    · have d1 : decide ((s.size : Int) < 1) = true := by simp; omega
      go_enter Tryz.func60, Tryz.ntmps60
      go_wp2
      go_ret
      exact ⟨by rw [HF.out]; rfl, rfl⟩
end Go.Proofs.YtbhjpkejdkfenaaGreatDoor
namespace Go.Proofs.YtbhjpkejdkfenaaGreatDoor
open Go.RowKit Go.Maps
theorem find_nil (s : ByteArray) (w : World) :
    Calls Tryz.prog 65 #[.pointer none, .string s] w fun e w' => e = .returned (.tuple #[.pointer none, .int .i64 2]) ∧ w = w' := by
  go_enter Tryz.func65, Tryz.ntmps65
  go_wp2_with fail
  refine (ready_nil _).mono ?_
  rintro e w1 ⟨rfl, rfl⟩
  go_wp2
  go_ret2
  exact ⟨rfl, rfl⟩
theorem find_down {w : World} {a m : Nat} {D : Dm.Disk} {T : List (List UInt8 × Ent)} (h : Rep w a m D T) (hd : D.down = true) (s : ByteArray) :
    Calls Tryz.prog 65 #[.pointer (some ⟨a, 0, none⟩), .string s] w fun e w' => e = .returned (.tuple #[.pointer none, .int .i64 7]) ∧ w = w' := by
  have hc := ready_any a m D w h.cell
  rw [hd] at hc
  clear hd h
  go_enter Tryz.func65, Tryz.ntmps65
  go_wp2_with fail
  refine hc.mono ?_
  rintro e w1 ⟨rfl, rfl⟩
  go_wp2
  go_ret2
  exact ⟨rfl, rfl⟩
theorem find_on {w : World} {a m : Nat} {D : Dm.Disk} {T : List (List UInt8 × Ent)} (h : Rep w a m D T) (hd : D.down = false) (s : ByteArray) (hm : s.size ≤ maxLen) :
    Calls Tryz.prog 65 #[.pointer (some ⟨a, 0, none⟩), .string s] w fun e w' => e = .returned (match Dm.get T s.data.toList with | some x => .tuple #[.pointer (some ⟨x.blk, 0, none⟩), .int .i64 0] | none => .tuple #[.pointer none, .int .i64 4]) ∧ w = w' := by
  have hr := ready_any a m D w h.cell
  rw [hd] at hr
  obtain ⟨-, -, -, -, c4, -⟩ := cells5 h.cell
  have hmap := h.map
  have hg := has_dat T s.data.toList
  have hat := fun e h => at_dat (T := T) (n := s.data.toList) (e := e) h (.lit (.int .i64 (-1)))
  have hkey := keyOfS s hm
  clear hd h
  cases hq : Dm.get T s.data.toList with
  | none =>
    rw [hq] at hg
    clear hat
    go_enter Tryz.func65, Tryz.ntmps65
    go_wp2_with fail
    refine hr.mono ?_
    rintro e w1 ⟨rfl, rfl⟩
    go_wp2_with (first
      | (at_lookup; refine wpList_lookup_own_ok _ rfl _ _ 91 rfl 9 100 keyS Tryz.underlying91 ptrR (zeroFile _) (.lit (.int .i64 (-1))) [] rfl m T.length (datOf T) rfl hmap _ _ rfl hkey ?_; intro v ps hv; rw [hg])
      | go_in)
    go_ret2
    exact ⟨rfl, rfl⟩
  | some x =>
    rw [hq] at hg
    have hax := hat x hq
    clear hat
    go_enter Tryz.func65, Tryz.ntmps65
    go_wp2_with fail
    refine hr.mono ?_
    rintro e w1 ⟨rfl, rfl⟩
    go_wp2_with (first
      | (at_lookup; refine wpList_lookup_own_ok _ rfl _ _ 91 rfl 9 100 keyS Tryz.underlying91 ptrR (zeroFile _) (.lit (.int .i64 (-1))) [] rfl m T.length (datOf T) rfl hmap _ _ rfl hkey ?_; intro v ps hv; rw [hg]; rw [hax] at hv; obtain rfl := ptrR_inv hv)
      | go_in)
    go_ret2
    exact ⟨rfl, rfl⟩
end Go.Proofs.YtbhjpkejdkfenaaGreatDoor
namespace Go.Proofs.YtbhjpkejdkfenaaGreatDoor
open Go.RowKit Go.Maps
theorem Read_nil (s : ByteArray) (w : World) :
    Calls Tryz.prog 35 #[.pointer none, .string s] w fun e w' => e = .returned (.tuple #[.string ⟨#[]⟩, .int .i64 2]) ∧ w = w' := by
  go_enter Tryz.func35, Tryz.ntmps35
  go_wp2_with fail
  refine (find_nil s _).mono ?_
  rintro e w1 ⟨rfl, rfl⟩
  go_wp2
  go_ret2
  exact ⟨rfl, rfl⟩
theorem Read_rep {w : World} {a m : Nat} {D : Dm.Disk} {T : List (List UInt8 × Ent)} (h : Rep w a m D T) (s : ByteArray) (hm : s.size ≤ maxLen) :
    Calls Tryz.prog 35 #[.pointer (some ⟨a, 0, none⟩), .string s] w fun e w' => e = .returned (.tuple #[.string ⟨(Dm.read D s.data.toList).1.toArray⟩, .int .i64 ((Dm.read D s.data.toList).2 : Nat)]) ∧ w = w' := by
  cases hd : D.down with
  | true =>
    have hf := find_down h hd s
    have hv : Dm.read D s.data.toList = ([], 7) := by unfold Dm.read; rw [hd]; rfl
    rw [hv]
    clear hd hv h
    go_enter Tryz.func35, Tryz.ntmps35
    go_wp2_with fail
    refine hf.mono ?_
    rintro e w1 ⟨rfl, rfl⟩
    go_wp2
    go_ret2
    exact ⟨rfl, rfl⟩
  | false =>
    have hf := find_on h hd s hm
    have hg := h.get s.data.toList
    cases hq : Dm.get T s.data.toList with
    | none =>
      have hv : Dm.read D s.data.toList = ([], 4) := by unfold Dm.read; rw [hd, hg, hq]; rfl
      rw [hv]
      rw [hq] at hf
      clear hd hv h hg hq
      go_enter Tryz.func35, Tryz.ntmps35
      go_wp2_with fail
      refine hf.mono ?_
      rintro e w1 ⟨rfl, rfl⟩
      go_wp2
      go_ret2
      exact ⟨rfl, rfl⟩
    | some x =>
      have hv : Dm.read D s.data.toList = (x.file.data, 0) := by unfold Dm.read; rw [hd, hg, hq]; rfl
      rw [hv]
      rw [hq] at hf
      have he := h.ents _ (Dm.get_mem hq)
      clear hd hv h hg hq
      obtain ⟨b, row, data, synced⟩ := x
      obtain ⟨p, cap, hr, -⟩ := he.shape
      simp only at hr
      subst hr
      obtain ⟨c0, -, -⟩ := cells2 he.1
      have hcv := text_of_row he.2
      clear he
      simp only at c0 hcv hf ⊢
      go_enter Tryz.func35, Tryz.ntmps35
      go_wp2_with fail
      refine hf.mono ?_
      rintro e w1 ⟨rfl, rfl⟩
      go_wp2
      go_ret2
      exact ⟨rfl, rfl⟩

theorem set1 {w : World} {a i : Nat} {cs : Array Value} {T : TypeId} (h : w.heap[a]? = some (.cells cs T (0, 0))) (v : Value) : (w.setCell ⟨a, i, none⟩ v).heap[a]? = some (.cells (cs.setIfInBounds i v) T (0, 0)) := heap_setCell_same w a i cs T v h
theorem set_other (w : World) (a i k : Nat) (v : Value) (h : k ≠ a) : (w.setCell ⟨a, i, none⟩ v).heap[k]? = w.heap[k]? := Below.heap_setCell _ _ _ _ h

/-- A change that the fuse does not stop. -/
theorem change_on {w : World} {a m : Nat} {D : Dm.Disk} {T : List (List UInt8 × Ent)} (h : Rep w a m D T) (hd : D.fuse ≠ 1) {g : Nat} {cb : Array Value} (eg : ∀ args w, (callFunc g args).run Tryz.prog w = .ok (.enter g args) w) (tv : Value) (Q : World → Prop)
    (hc : ∀ W, Rep W a m { D with fuse := D.fuse - 1 } T → Turned (· = a) w W → Calls Tryz.prog g cb W fun e w' => e = .returned (.tuple #[]) ∧ Q w') :
    Calls Tryz.prog 61 #[.pointer (some ⟨a, 0, none⟩), .func (.func g) #[] cb, tv] w fun e w' => e = .returned (.int .i64 0) ∧ Q w' := by
  obtain ⟨c0, c1, c2, c3, c4, fz⟩ := cells5 h.cell
  have fz1 := fz 1
  have d1 : ((D.fuse : Int) == 1) = false := by rw [beq_eq_false_iff_ne]; omega
  have i0 : (0 : Int) ≤ (D.fuse : Int) := by omega
  have i1 := h.right.fuse
  have hR : Rep (w.setCell ⟨a, 1, none⟩ (.int .i64 (max ((D.fuse : Int) - 1) 0))) a m { D with fuse := D.fuse - 1 } T := by
    refine h.keep (fun k _ hk => set_other _ _ _ _ _ hk) ?_ rfl ⟨h.right.sorted, h.right.names, h.right.few, h.right.short, by simp; omega, h.right.room⟩
    rw [set1 h.cell]
    have : max ((D.fuse : Int) - 1) 0 = ((D.fuse - 1 : Nat) : Int) := by omega
    rw [this]; rfl
  have HC := Lib.hid (hc _ hR (turned_setCell _ _ _ rfl))
  clear h hc hd fz hR
  go_enter Tryz.func61, Tryz.ntmps61
  go_wp2_with fail
  refine HC.out.mono ?_
  rintro e w1 ⟨rfl, hq⟩
  have HQ := Lib.hid hq
  clear hq
  go_wp2_with fail
  go_ret
  exact ⟨rfl, HQ.out⟩

/-- The change in which the power goes. -/
theorem change_goes {w : World} {a m : Nat} {D : Dm.Disk} {T : List (List UInt8 × Ent)} (h : Rep w a m D T) (hd : D.fuse = 1) {g : Nat} {cb : Array Value} (eg : ∀ args w, (callFunc g args).run Tryz.prog w = .ok (.enter g args) w) (wv : Value) (Q : World → Prop)
    (hc : ∀ W, Rep W a m { D with down := true, fuse := 0 } T → Turned (· = a) w W → Calls Tryz.prog g cb W fun e w' => e = .returned (.tuple #[]) ∧ Q w') :
    Calls Tryz.prog 61 #[.pointer (some ⟨a, 0, none⟩), wv, .func (.func g) #[] cb] w fun e w' => e = .returned (.int .i64 7) ∧ Q w' := by
  obtain ⟨c0, c1, c2, c3, c4, fz⟩ := cells5 h.cell
  have fz1 := fz 1
  have fz0 := fz 0
  have hR : Rep ((w.setCell ⟨a, 1, none⟩ (.int .i64 0)).setCell ⟨a, 0, none⟩ (.bool true)) a m { D with down := true, fuse := 0 } T := by
    refine h.keep (fun k _ hk => (set_other _ _ _ _ _ hk).trans (set_other _ _ _ _ _ hk)) ?_ rfl ⟨h.right.sorted, h.right.names, h.right.few, h.right.short, by simp, h.right.room⟩
    rw [set1 (set1 h.cell _)]; rfl
  have HC := Lib.hid (hc _ hR (Turned.trans (S := (· = a)) (S' := (· = a)) (turned_setCell (S := (· = a)) _ _ _ rfl) (turned_setCell (S := (· = a)) _ _ _ rfl) (fun _ e => .inl e)))
  rw [hd] at c1
  clear h hc hd fz hR
  go_enter Tryz.func61, Tryz.ntmps61
  go_wp2_with fail
  refine HC.out.mono ?_
  rintro e w1 ⟨rfl, hq⟩
  have HQ := Lib.hid hq
  clear hq
  go_wp2_with fail
  go_ret
  exact ⟨rfl, HQ.out⟩
end Go.Proofs.YtbhjpkejdkfenaaGreatDoor
namespace Go.Proofs.YtbhjpkejdkfenaaGreatDoor
open Go.RowKit Go.Maps

theorem insert_dat (n : List UInt8) (x : Ent) : ∀ T : List (List UInt8 × Ent), DataW.insert (.string n, (.lit (.int .i64 (x.blk : Nat)) : DataW Unit)) (T.map fun p => (.string p.1, .lit (.int .i64 (p.2.blk : Nat)))) = (Dm.ins n x T).map fun p => (.string p.1, .lit (.int .i64 (p.2.blk : Nat)))
  | [] => rfl
  | p :: r => by
    simp only [List.map_cons, DataW.insert, Dm.ins]
    have : (Lit.string n).before (.string p.1) = bytesBefore n p.1 := rfl
    rw [this]
    split
    · rfl
    · rw [insert_dat n x r]; rfl
theorem filter_dat (n : List UInt8) (T : List (List UInt8 × Ent)) : (T.map fun p => ((.string p.1 : Lit), (.lit (.int .i64 (p.2.blk : Nat)) : DataW Unit))).filter (fun p => !p.1.sameKey (.string n)) = (Dm.del T n).map fun p => (.string p.1, .lit (.int .i64 (p.2.blk : Nat))) := by
  unfold Dm.del; rw [List.filter_map]; rfl
theorem put_dat (T : List (List UInt8 × Ent)) (n : List UInt8) (x : Ent) : (datOf T).put (.string n) (.lit (.int .i64 (x.blk : Nat))) = datOf (Dm.put T n x) := by
  unfold datOf Dm.put DataW.put
  simp only
  rw [filter_dat, insert_dat]
theorem del_dat (T : List (List UInt8 × Ent)) (n : List UInt8) : (datOf T).del (.string n) = datOf (Dm.del T n) := by
  unfold datOf DataW.del
  simp only
  rw [filter_dat]
theorem files_put (T : List (List UInt8 × Ent)) (n : List UInt8) (x : Ent) : filesOf (Dm.put T n x) = Dm.put (filesOf T) n x.file := Dm.put_map T n x Ent.file
theorem files_del (T : List (List UInt8 × Ent)) (n : List UInt8) : filesOf (Dm.del T n) = Dm.del (filesOf T) n := Dm.del_map n Ent.file T

/-- An entry beside others: apart from the disk's own blocks and from all entries but the one of its name. -/
structure Beside (a m : Nat) (T : List (List UInt8 × Ent)) (n : List UInt8) (x : Ent) : Prop where
  out : ∀ k ∈ entBlks x, k ≠ a ∧ k ≠ m
  self : x.blk ∉ rowBlk x.row
  each : ∀ p ∈ T, p.1 ≠ n → ∀ k ∈ entBlks x, k ∉ entBlks p.2
theorem Apart.put {a m : Nat} {T : List (List UInt8 × Ent)} (h : Apart a m T) {n : List UInt8} {x : Ent} (hx : Beside a m T n x) : Apart a m (Dm.put T n x) := by
  refine ⟨h.am, fun p hp => ?_, fun p hp => ?_, fun p hp q hq hpq k hk => ?_⟩
  · rcases Dm.mem_put.1 hp with rfl | ⟨hp, _⟩
    · exact hx.out
    · exact h.out p hp
  · rcases Dm.mem_put.1 hp with rfl | ⟨hp, _⟩
    · exact hx.self
    · exact h.self p hp
  · rcases Dm.mem_put.1 hp with rfl | ⟨hp, hpn⟩ <;> rcases Dm.mem_put.1 hq with rfl | ⟨hq, hqn⟩
    · exact absurd rfl hpq
    · exact hx.each q hq hqn k hk
    · exact fun hk' => hx.each p hp hpn k hk' hk
    · exact h.each p hp q hq hpq k hk
theorem Apart.del {a m : Nat} {T : List (List UInt8 × Ent)} (h : Apart a m T) (n : List UInt8) : Apart a m (Dm.del T n) :=
  ⟨h.am, fun p hp => h.out p (Dm.mem_del.1 hp).1, fun p hp => h.self p (Dm.mem_del.1 hp).1, fun p hp q hq => h.each p (Dm.mem_del.1 hp).1 q (Dm.mem_del.1 hq).1⟩
theorem Within.put {S : Nat → Prop} {a m : Nat} {T : List (List UInt8 × Ent)} (h : Within S a m T) {n : List UInt8} {x : Ent} (hx : ∀ k ∈ entBlks x, S k) : Within S a m (Dm.put T n x) :=
  ⟨h.1, h.2.1, fun p hp => by
    rcases Dm.mem_put.1 hp with rfl | ⟨hp, _⟩
    · exact hx
    · exact h.2.2 p hp⟩
theorem Within.del {S : Nat → Prop} {a m : Nat} {T : List (List UInt8 × Ent)} (h : Within S a m T) (n : List UInt8) : Within S a m (Dm.del T n) := ⟨h.1, h.2.1, fun p hp => h.2.2 p (Dm.mem_del.1 hp).1⟩

theorem undraw {w w2 : World} (h : Below w.drew.heap.size w.drew w2) : Below w.heap.size w w2 := ⟨h.os, h.tape, h.output, h.size, h.block⟩
set_option maxHeartbeats 1000000 in
theorem put_rep {w : World} {a m : Nat} {D : Dm.Disk} {T : List (List UInt8 × Ent)} (h : Rep w a m D T) (s : ByteArray) (x : Ent) (hs : s.size ≤ 281474976710656) (hx : EntAt w x) (hb : Beside a m T s.data.toList x)
    (hr : Dm.Right { D with files := Dm.put D.files s.data.toList x.file }) :
    Calls Tryz.prog 63 #[.pointer (some ⟨a, 0, none⟩), .string s, .pointer (some ⟨x.blk, 0, none⟩)] w fun e w' =>
      e = .returned (.tuple #[]) ∧ Rep w' a m { D with files := Dm.put D.files s.data.toList x.file } (Dm.put T s.data.toList x) ∧ Turned (· = m) w w' := by
  obtain ⟨-, -, -, -, c4, -⟩ := cells5 h.cell
  have hlt := h.lt
  have hkey := keyOfS s (by unfold maxLen; omega)
  have hval : ptrR (.pointer (some ⟨x.blk, 0, none⟩)) = some (.lit (.int .i64 (x.blk : Nat)), []) := rfl
  -- what the store makes
  have hupd : ∀ w2, Below w.heap.size w w2 → ∃ w3, (Instr.mapUpdate 91 (.map (some m)) (.string s) (.pointer (some ⟨x.blk, 0, none⟩))).run Tryz.prog w2 = .ok () w3 ∧ w3.cell? ⟨a, 4, none⟩ = some (.map (some m)) ∧ Rep w3 a m { D with files := Dm.put D.files s.data.toList x.file } (Dm.put T s.data.toList x) ∧ Turned (· = m) w w3 := by
    intro w2 h2
    have ho := ownsMap_of h.map (h2.block m hlt.2.1)
    obtain ⟨w3, hrun, ho3, hg3⟩ := ho.update keyS Tryz.underlying91 (by have := h.right.few; rw [h.files] at this; simp [filesOf] at this; unfold maxLen; omega) hkey hval
    have ht : Turned (· = m) w w3 := (turned_of_below (S := (· = m)) h2).trans (turned_grown (S := (· = m)) hg3 (fun k e => (Option.some.inj e).symm)) (fun _ e => .inl e)
    have hc3 : w3.heap[a]? = w.heap[a]? := ht.block a hlt.1 h.apart.am
    refine ⟨w3, hrun, (cells5 (hc3.trans h.cell)).2.2.2.2.1, ⟨hr, ?_, hc3.trans h.cell, ?_, fun p hp => ?_, h.apart.put hb⟩, ht⟩
    · rw [files_put, h.files]
    · rw [put_dat] at ho3
      have := owns_tight ho3
      rw [size_dat] at this
      exact this
    · rcases Dm.mem_put.1 hp with rfl | ⟨hp, _⟩
      · exact entAt_of hx fun k hk => ht.block k (hx.lt k hk) (hb.out k hk).2
      · exact entAt_of (h.ents p hp) fun k hk => ht.block k (hlt.2.2 p hp k hk) (h.apart.out p hp k hk).2
  have HU := Lib.hid hupd
  have hmm := fun W => run_eql_map_nil (P := Tryz.prog) W 91 9 100 (some m) Tryz.underlying91
  clear h hx hb hr hlt hupd hkey hval
  go_enter Tryz.func63, Tryz.ntmps63
  go_wp2_with fail
  go_region_held3 (fun w' => w'.cell? ⟨a, 4, none⟩ = some (.map (some m)))
    (first | exact c4 | assumption)
    (first | (go_at_call 75; refine (clone_any _ _ hs).mono ?_; rintro e w2 ⟨rfl, h2⟩; obtain ⟨w3, hrun, hc3, hR, hT⟩ := HU.out w2 (undraw h2); have hc2 := ((undraw h2).cell (p := ⟨a, 4, none⟩) (World.block_lt_of_cell? w _ c4)).trans c4))
  go_wp2
  go_returns
  exact ⟨rfl, hR, hT⟩
end Go.Proofs.YtbhjpkejdkfenaaGreatDoor
