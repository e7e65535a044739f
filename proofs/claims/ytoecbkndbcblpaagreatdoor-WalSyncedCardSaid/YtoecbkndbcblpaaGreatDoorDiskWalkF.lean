/-
  Walks over package disk: Create, Append, Sync, Rename, Remove. Conditions: those in the theorems.
-/
import Derived.Test.YtoecbkndbcblpaaGreatDoorDiskWalkE
namespace Go.Proofs.YtoecbkndbcblpaaGreatDoor
open Go.RowKit Go.Maps

/-- S, and all blocks that are new since w. -/
def Grow (S : Nat → Prop) (w : World) (k : Nat) : Prop := S k ∨ w.heap.size ≤ k
theorem grow_old {S : Nat → Prop} {w : World} (k : Nat) (h : S k) : Grow S w k := .inl h
theorem grow_new {S : Nat → Prop} {w : World} (k : Nat) (h : w.heap.size ≤ k) : Grow S w k := .inr h

def lookV (T : List (List UInt8 × Ent)) (n : List UInt8) : Value := match Dm.get T n with
  | some x => .pointer (some ⟨x.blk, 0, none⟩)
  | none => .pointer none
theorem look_rep {w : World} {a m : Nat} {D : Dm.Disk} {T : List (List UInt8 × Ent)} (h : Rep w a m D T) (s : ByteArray) (hm : s.size ≤ maxLen) :
    (Instr.lookup 59 (.map (some m)) (.string s) true).run Tryz.prog w = .ok (.tuple #[lookV T s.data.toList, .bool (Dm.get T s.data.toList).isSome]) w := by
  obtain ⟨v, ps, hrun, hv⟩ := h.map.look_ok keyS Tryz.underlying59 (zeroFile _) (zd := .lit (.int .i64 (-1))) (zp := []) rfl (keyOfS s hm)
  rw [has_dat] at hrun
  rw [hrun]
  unfold lookV
  cases hq : Dm.get T s.data.toList with
  | none =>
    rw [Maps.atKey_of_not_has (by rw [has_dat, hq]; rfl)] at hv
    rw [ptrR_none hv]
  | some x =>
    rw [at_dat hq] at hv
    rw [ptrR_inv hv]
theorem len_rep {w : World} {a m : Nat} {D : Dm.Disk} {T : List (List UInt8 × Ent)} (h : Rep w a m D T) (ty : TypeId) :
    (Builtin.len_ #[59] ty #[.map (some m)]).run Tryz.prog w = .ok (.int .i64 (D.files.length : Nat)) w := by
  have := h.map.len Tryz.underlying59 ty
  rw [size_dat, size_files h] at this
  exact this
theorem Rep.new2 {w : World} {a m : Nat} {D : Dm.Disk} {T : List (List UInt8 × Ent)} (h : Rep w a m D T) (o1 o2 : Obj) : Rep ((w.alloc o1).alloc o2) a m D T :=
  h.heap fun k hk => (Below.heap_alloc _ _ _ (by simp; omega)).trans (Below.heap_alloc _ _ _ hk)
theorem two_new (w : World) (o1 o2 : Obj) : ((w.alloc o1).alloc o2).heap[w.heap.size]? = some o1 ∧ ((w.alloc o1).alloc o2).heap[w.heap.size + 1]? = some o2 :=
  ⟨(Below.heap_alloc _ _ _ (by simp)).trans (heap_alloc_new w o1), by have := heap_alloc_new (w.alloc o1) o2; rw [World.size_alloc] at this; exact this⟩
theorem turned_two {S : Nat → Prop} (w : World) (o1 o2 : Obj) : Turned S w ((w.alloc o1).alloc o2) := (turned_alloc (S := S) w o1).trans (turned_alloc (S := S) _ o2) fun _ e => .inl e

theorem Disk.drewN {S : Nat → Prop} {w : World} {a : Nat} {D : Dm.Disk} (h : Disk w a D S) (q : Nat) : Disk (w.drewN q) a D S := by
  obtain ⟨m, T, h1, h2⟩ := h; exact ⟨m, T, h1.heap fun _ _ => rfl, h2⟩
theorem Turned.drewN {S : Nat → Prop} {w w' : World} (h : Turned S w w') (q : Nat) : Turned S w (w'.drewN q) := ⟨h.os, h.tape, h.output, h.size, h.block⟩

set_option maxRecDepth 100000 in
set_option maxHeartbeats 2000000 in
theorem Create_disk {w : World} {a : Nat} {D : Dm.Disk} {S : Nat → Prop} (h : Disk w a D S) (s : ByteArray) (hm : s.size ≤ maxLen) :
    Calls Tryz.prog 21 #[.pointer (some ⟨a, 0, none⟩), .string s] w fun e w' =>
      e = .returned (.int .i64 ((Dm.create D s.data.toList).1 : Nat)) ∧ Disk w' a (Dm.create D s.data.toList).2 (Grow S w) ∧ Turned S w w' := by
  obtain ⟨m, T, hR, hS⟩ := h
  have hR2 := hR.new2 (.cells #[.pointer (some ⟨a, 0, none⟩)] 22) (.cells #[.string s] 9)
  have hlt := hR.lt
  have hT2 := turned_two (S := S) w (.cells #[.pointer (some ⟨a, 0, none⟩)] 22) (.cells #[.string s] 9)
  obtain ⟨hp, hq⟩ := two_new w (.cells #[.pointer (some ⟨a, 0, none⟩)] 22) (.cells #[.string s] 9)
  have hz : ((w.alloc (.cells #[.pointer (some ⟨a, 0, none⟩)] 22)).alloc (.cells #[.string s] 9)).heap.size = w.heap.size + 2 := by simp
  have hrd := ready_any a m D _ hR2.cell
  have hsame : Disk ((w.alloc (.cells #[.pointer (some ⟨a, 0, none⟩)] 22)).alloc (.cells #[.string s] 9)) a D (Grow S w) := ⟨m, T, hR2, hS.mono grow_old⟩
  have hgt := hR.get s.data.toList
  have hrt := hR.right
  cases hd : D.down with
  | true =>
    have hv : Dm.create D s.data.toList = (7, D) := by unfold Dm.create; rw [hd]; rfl
    rw [hv]
    rw [hd] at hrd
    have HS := Lib.hid hsame
    have HT := Lib.hid hT2
    clear hR hR2 hlt hT2 hp hq hz hsame hgt hrt hd hv
    go_enter Tryz.func21, Tryz.ntmps21
    go_wp2_with fail
    refine hrd.mono ?_
    rintro e w1 ⟨rfl, rfl⟩
    go_wp2
    go_ret
    exact ⟨rfl, HS.out, HT.out⟩
  | false =>
    rw [hd] at hrd
    cases hn : Dm.isName s.data.toList with
    | false =>
      have hv : Dm.create D s.data.toList = (1, D) := by unfold Dm.create; rw [hd, hn]; rfl
      rw [hv]
      have hnm := isNameAny s ((w.alloc (.cells #[.pointer (some ⟨a, 0, none⟩)] 22)).alloc (.cells #[.string s] 9)) hm
      rw [hn] at hnm
      have HS := Lib.hid hsame
      have HT := Lib.hid hT2
      clear hR hR2 hlt hT2 hp hq hz hsame hgt hrt hd hv hn
      go_enter Tryz.func21, Tryz.ntmps21
      go_wp2_with fail
      refine hrd.mono ?_
      rintro e w1 ⟨rfl, rfl⟩
      go_wp2_with fail
      refine hnm.mono ?_
      rintro e w1 ⟨rfl, rfl⟩
      go_wp2
      go_ret
      exact ⟨rfl, HS.out, HT.out⟩
    | true =>
      have hnm := isNameAny s ((w.alloc (.cells #[.pointer (some ⟨a, 0, none⟩)] 22)).alloc (.cells #[.string s] 9)) hm
      rw [hn] at hnm
      have hlk := fun q => look_rep (w := ((w.alloc (.cells #[.pointer (some ⟨a, 0, none⟩)] 22)).alloc (.cells #[.string s] 9)).drewN q) (hR2.heap fun _ _ => rfl) s hm
      obtain ⟨-, -, -, -, c4, -⟩ := cells5 hR2.cell
      cases hg : Dm.get T s.data.toList with
      | some x =>
        have hv : Dm.create D s.data.toList = (5, D) := by unfold Dm.create; rw [hd, hn, hgt, hg]; rfl
        rw [hv]
        rw [hg] at hlk
        have HS := Lib.hid hsame
        have HT := Lib.hid hT2
        clear hR hR2 hlt hT2 hp hq hz hsame hgt hrt hd hv hn hg
        generalize lookV T s.data.toList = lv at hlk
        go_enter Tryz.func21, Tryz.ntmps21
        go_wp2_with fail
        refine hrd.mono ?_
        rintro e w1 ⟨rfl, rfl⟩
        go_wp2_with fail
        refine hnm.mono ?_
        rintro e w1 ⟨rfl, rfl⟩
        go_wp2_with fail
        go_quiet (fail)
        go_wp2
        go_ret
        exact ⟨rfl, HS.out.drewN _, HT.out.drewN _⟩
      | none =>
        rw [hg] at hlk
        have hlv : lookV T s.data.toList = .pointer none := by unfold lookV; rw [hg]
        have hln := fun q ty => len_rep (w := ((w.alloc (.cells #[.pointer (some ⟨a, 0, none⟩)] 22)).alloc (.cells #[.string s] 9)).drewN q) (hR2.heap fun _ _ => rfl) ty
        rw [hlv] at hlk
        by_cases hl : 256 ≤ D.files.length
        · have hv : Dm.create D s.data.toList = (6, D) := by unfold Dm.create; rw [hd, hn, hgt, hg, if_pos hl]; rfl
          rw [hv]
          have hl2 : (256 : Int) ≤ (D.files.length : Int) := by omega
          have HS := Lib.hid hsame
          have HT := Lib.hid hT2
          clear hR hR2 hlt hT2 hp hq hz hsame hgt hrt hd hv hn hg hl hlv
          generalize D.files.length = nf at hln hl2
          go_enter Tryz.func21, Tryz.ntmps21
          go_wp2_with fail
          refine hrd.mono ?_
          rintro e w1 ⟨rfl, rfl⟩
          go_wp2_with fail
          refine hnm.mono ?_
          rintro e w1 ⟨rfl, rfl⟩
          go_wp2_with fail
          go_quiet (fail)
          go_wp2
          go_ret
          exact ⟨rfl, HS.out.drewN _, HT.out.drewN _⟩
        · have hl2 : ¬ (256 : Int) ≤ (D.files.length : Int) := by omega
          have hlen := Dm.isName_len hn
          rw [show s.data.toList.length = s.size from by simp] at hlen
          have hnew : ∀ b u, u ≤ 9223372036854775807 → Dm.Right { D with down := b, fuse := u, files := Dm.put D.files s.data.toList ⟨[], 0⟩ } := fun b u hu => by
            refine hrt.files b u hu (hrt.sorted.put _ _) (fun p hp => ?_) (by have := Dm.length_put_le D.files s.data.toList (⟨[], 0⟩ : Dm.File); omega) (fun p hp => ?_)
            · rcases Dm.mem_put.1 hp with rfl | ⟨hp, _⟩
              · exact hn
              · exact hrt.names p hp
            · rcases Dm.mem_put.1 hp with rfl | ⟨hp, _⟩
              · simp
              · exact hrt.short p hp
          have hfu := hrt.fuse
          have hS2 := hS
          by_cases hf : D.fuse = 1
          · have hv : Dm.create D s.data.toList = (7, { D with down := true, fuse := 0 }) := by unfold Dm.create Dm.change; rw [hd, hn, hgt, hg, if_neg hl, if_pos hf]; rfl
            rw [hv]
            have hch := fun q => change_goes (w := ((w.alloc (.cells #[.pointer (some ⟨a, 0, none⟩)] 22)).alloc (.cells #[.string s] 9)).drewN q) (hR2.heap fun _ _ => rfl) hf (g := 45) (cb := #[]) (enters_of Tryz.func45 (by kernel_rfl) rfl)
              (.func (.func 43) #[] #[.pointer (some ⟨w.heap.size, 0, none⟩), .pointer (some ⟨w.heap.size + 1, 0, none⟩)]) (fun w' => Disk w' a { D with down := true, fuse := 0 } (Grow S w) ∧ Turned S w w')
              (fun W hRW hTW => (nothing_any W).mono fun e w' ⟨he, hw⟩ => ⟨he, by rw [← hw]; exact ⟨⟨m, T, hRW, hS.mono grow_old⟩, (hT2.drewN q).trans hTW fun i e => .inl (e ▸ hS.1)⟩⟩)
            have HC := Lib.hid hch
            clear hR hR2 hlt hT2 hp hq hz hsame hgt hrt hd hv hn hg hl hlv hch hnew hS hS2 hf hfu hlen
            generalize D.files.length = nf at hln hl2
            go_enter Tryz.func21, Tryz.ntmps21
            go_wp2_with fail
            refine hrd.mono ?_
            rintro e w1 ⟨rfl, rfl⟩
            go_wp2_with fail
            refine hnm.mono ?_
            rintro e w1 ⟨rfl, rfl⟩
            go_wp2_with fail
            go_quiet (fail)
            go_wp2_with fail
            refine (HC.out _).mono ?_
            rintro e w1 ⟨rfl, hq⟩
            have HQ := Lib.hid hq
            clear hq
            go_wp2
            go_ret
            exact ⟨rfl, HQ.out⟩
          · have hv : Dm.create D s.data.toList = (0, { D with fuse := D.fuse - 1, files := Dm.put D.files s.data.toList ⟨[], 0⟩ }) := by unfold Dm.create Dm.change; rw [hd, hn, hgt, hg, if_neg hl, if_neg hf]; rfl
            rw [hv]
            have hch := fun q => change_on (w := ((w.alloc (.cells #[.pointer (some ⟨a, 0, none⟩)] 22)).alloc (.cells #[.string s] 9)).drewN q) (hR2.heap fun _ _ => rfl) hf (g := 43) (cb := #[.pointer (some ⟨w.heap.size, 0, none⟩), .pointer (some ⟨w.heap.size + 1, 0, none⟩)]) (enters_of Tryz.func43 (by kernel_rfl) rfl)
              (.func (.func 45) #[] #[]) (fun w' => Disk w' a { D with fuse := D.fuse - 1, files := Dm.put D.files s.data.toList ⟨[], 0⟩ } (Grow S w) ∧ Turned S w w')
              (fun W hRW hTW => (create1_rep hRW s (by omega) w.heap.size (w.heap.size + 1) ((hTW.block _ (show w.heap.size < _ by rw [World.heap_drewN, hz]; omega) (by omega)).trans hp) ((hTW.block _ (show w.heap.size + 1 < _ by rw [World.heap_drewN, hz]; omega) (by omega)).trans hq) (hnew D.down (D.fuse - 1) (by omega))).mono fun e w' ⟨he, hR', hT'⟩ =>
                ⟨he, ⟨m, _, hR', (hS.mono grow_old).put fun k hk => by simp [entBlks, rowBlk] at hk; subst hk; exact grow_new _ (by have := hTW.size; rw [World.heap_drewN, hz] at this; omega)⟩,
                  ((hT2.drewN q).trans hTW fun i e => .inl (e ▸ hS.1)).trans hT' fun i e => .inl (e ▸ hS.2.1)⟩)
            have HC := Lib.hid hch
            clear hR hR2 hlt hT2 hp hq hz hsame hgt hrt hd hv hn hg hl hlv hch hnew hS hS2 hf hfu hlen
            generalize D.files.length = nf at hln hl2
            go_enter Tryz.func21, Tryz.ntmps21
            go_wp2_with fail
            refine hrd.mono ?_
            rintro e w1 ⟨rfl, rfl⟩
            go_wp2_with fail
            refine hnm.mono ?_
            rintro e w1 ⟨rfl, rfl⟩
            go_wp2_with fail
            go_quiet (fail)
            go_wp2_with fail
            refine (HC.out _).mono ?_
            rintro e w1 ⟨rfl, hq⟩
            have HQ := Lib.hid hq
            clear hq
            go_wp2
            go_ret
            exact ⟨rfl, HQ.out⟩
end Go.Proofs.YtoecbkndbcblpaaGreatDoor
