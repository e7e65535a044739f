/-
  Walks over package disk: Remove, Rename, Append. Conditions: those in the theorems.
-/
import Derived.Test.YtoecbkndbcblpaaGreatDoorDiskWalkH
namespace Go.Proofs.YtoecbkndbcblpaaGreatDoor
open Go.RowKit Go.Maps

theorem Rep.right_put {w : World} {a m : Nat} {D : Dm.Disk} {T : List (List UInt8 × Ent)} (h : Rep w a m D T) : Dm.Right { D with files := D.files } := h.right

theorem right_del {D : Dm.Disk} (h : Dm.Right D) (n : List UInt8) : Dm.Right { D with files := Dm.del D.files n } :=
  ⟨h.sorted.del _, fun p hp => h.names p (Dm.mem_del.1 hp).1, Nat.le_trans (Dm.length_del_le _ _) h.few, fun p hp => h.short p (Dm.mem_del.1 hp).1, h.fuse, h.room⟩
theorem right_move {D : Dm.Disk} (h : Dm.Right D) {a b : List UInt8} {f : Dm.File} (hf : Dm.get D.files a = some f) (hn : Dm.isName b = true) : Dm.Right { D with files := Dm.put (Dm.del D.files a) b f } := by
  have hg := h.get hf
  refine ⟨(h.sorted.del _).put _ _, fun p hp => ?_, ?_, fun p hp => ?_, h.fuse, h.room⟩
  · rcases Dm.mem_put.1 hp with rfl | ⟨hp, _⟩
    · exact hn
    · exact h.names p (Dm.mem_del.1 hp).1
  · have h1 := Dm.length_put_le (Dm.del D.files a) b f
    have h2 := Dm.length_del h.sorted hf
    have h3 := h.few
    show (Dm.put (Dm.del D.files a) b f).length ≤ 256
    omega
  · rcases Dm.mem_put.1 hp with rfl | ⟨hp, _⟩
    · exact hg.2
    · exact h.short p (Dm.mem_del.1 hp).1

set_option maxRecDepth 100000 in
set_option maxHeartbeats 2000000 in
theorem Remove_disk {w : World} {a : Nat} {D : Dm.Disk} {S : Nat → Prop} (h : Disk w a D S) (s : ByteArray) (hm : s.size ≤ maxLen) :
    Calls Tryz.prog 70 #[.pointer (some ⟨a, 0, none⟩), .string s] w fun e w' =>
      e = .returned (.int .i64 ((Dm.remove D s.data.toList).1 : Nat)) ∧ Disk w' a (Dm.remove D s.data.toList).2 (Grow S w) ∧ Turned S w w' := by
  obtain ⟨m, T, hR, hS⟩ := h
  have hR2 := hR.new2 (.cells #[.pointer (some ⟨a, 0, none⟩)] 22) (.cells #[.string s] 9)
  have hlt := hR.lt
  have hT2 := turned_two (S := S) w (.cells #[.pointer (some ⟨a, 0, none⟩)] 22) (.cells #[.string s] 9)
  obtain ⟨hp, hq⟩ := two_new w (.cells #[.pointer (some ⟨a, 0, none⟩)] 22) (.cells #[.string s] 9)
  have hz : ((w.alloc (.cells #[.pointer (some ⟨a, 0, none⟩)] 22)).alloc (.cells #[.string s] 9)).heap.size = w.heap.size + 2 := by simp
  have hsame : Disk ((w.alloc (.cells #[.pointer (some ⟨a, 0, none⟩)] 22)).alloc (.cells #[.string s] 9)) a D (Grow S w) := ⟨m, T, hR2, hS.mono grow_old⟩
  have hgt := hR.get s.data.toList
  have hrt := hR.right
  cases hd : D.down with
  | true =>
    have hv : Dm.remove D s.data.toList = (7, D) := by unfold Dm.remove; rw [hd]; rfl
    rw [hv]
    have hf := find_down hR2 hd s
    have HS := Lib.hid hsame
    have HT := Lib.hid hT2
    clear hR hR2 hlt hT2 hp hq hz hsame hgt hrt hd hv
    go_enter Tryz.func70, Tryz.ntmps70
    go_wp2_with fail
    refine hf.mono ?_
    rintro e w1 ⟨rfl, rfl⟩
    go_wp2
    go_ret
    exact ⟨rfl, HS.out, HT.out⟩
  | false =>
    have hf := find_on hR2 hd s hm
    cases hg : Dm.get T s.data.toList with
    | none =>
      have hv : Dm.remove D s.data.toList = (4, D) := by unfold Dm.remove; rw [hd, hgt, hg]; rfl
      rw [hv]
      rw [hg] at hf
      have HS := Lib.hid hsame
      have HT := Lib.hid hT2
      clear hR hR2 hlt hT2 hp hq hz hsame hgt hrt hd hv hg
      go_enter Tryz.func70, Tryz.ntmps70
      go_wp2_with fail
      refine hf.mono ?_
      rintro e w1 ⟨rfl, rfl⟩
      go_wp2
      go_ret
      exact ⟨rfl, HS.out, HT.out⟩
    | some x =>
      have hv : Dm.remove D s.data.toList = Dm.change D (fun l => Dm.del l s.data.toList) id := by unfold Dm.remove; rw [hd, hgt, hg]; rfl
      rw [hv]
      rw [hg] at hf
      have hch := change_disk (w0 := w) hR2 hS hT2 (g1 := 93) (cb1 := #[.pointer (some ⟨w.heap.size, 0, none⟩), .pointer (some ⟨w.heap.size + 1, 0, none⟩)]) (g2 := 45) (cb2 := #[])
        (enters_of Tryz.func93 (by kernel_rfl) rfl) (enters_of Tryz.func45 (by kernel_rfl) rfl) (fun l => Dm.del l s.data.toList) id
        (fun W D1 hRW hfs hTW => (remove1_rep hRW s hm w.heap.size (w.heap.size + 1) ((hTW.block _ (by rw [hz]; omega) (by omega)).trans hp) ((hTW.block _ (by rw [hz]; omega) (by omega)).trans hq) (by omega) (by omega) (right_del hRW.right _)).mono fun e w' ⟨he, hR', hT'⟩ =>
          ⟨he, _, hR', (hS.mono grow_old).del _, hT'.mono fun k hk => grow_old _ (hk ▸ hS.2.1)⟩)
        (fun W D1 hRW _ _ => nothing_disk hS W D1 hRW)
      have HC := Lib.hid hch
      clear hR hR2 hlt hT2 hp hq hz hsame hgt hrt hd hv hg hch hS
      go_enter Tryz.func70, Tryz.ntmps70
      go_wp2_with fail
      refine hf.mono ?_
      rintro e w1 ⟨rfl, rfl⟩
      go_wp2_with fail
      refine HC.out.mono ?_
      rintro e w1 ⟨rfl, hq⟩
      have HQ := Lib.hid hq
      clear hq
      go_wp2
      go_ret
      exact ⟨rfl, HQ.out⟩

theorem three_new (w : World) (o1 o2 o3 : Obj) : (((w.alloc o1).alloc o2).alloc o3).heap[w.heap.size]? = some o1 ∧ (((w.alloc o1).alloc o2).alloc o3).heap[w.heap.size + 1]? = some o2 ∧ (((w.alloc o1).alloc o2).alloc o3).heap[w.heap.size + 1 + 1]? = some o3 := by
  obtain ⟨h1, h2⟩ := two_new w o1 o2
  have h3 := heap_alloc_new ((w.alloc o1).alloc o2) o3
  rw [World.size_alloc, World.size_alloc] at h3
  exact ⟨(Below.heap_alloc _ _ _ (by simp; omega)).trans h1, (Below.heap_alloc _ _ _ (by simp)).trans h2, h3⟩

set_option maxRecDepth 100000 in
set_option maxHeartbeats 2000000 in
theorem Rename_disk {w : World} {a : Nat} {D : Dm.Disk} {S : Nat → Prop} (h : Disk w a D S) (s t : ByteArray) (hm : s.size ≤ maxLen) (hmt : t.size ≤ maxLen) :
    Calls Tryz.prog 115 #[.pointer (some ⟨a, 0, none⟩), .string s, .string t] w fun e w' =>
      e = .returned (.int .i64 ((Dm.rename D s.data.toList t.data.toList).1 : Nat)) ∧ Disk w' a (Dm.rename D s.data.toList t.data.toList).2 (Grow S w) ∧ Turned S w w' := by
  obtain ⟨m, T, hR, hS⟩ := h
  obtain ⟨W3, hW3⟩ : ∃ W3, ((w.alloc (.cells #[.pointer (some ⟨a, 0, none⟩)] 22)).alloc (.cells #[.string s] 9)).alloc (.cells #[.string t] 9) = W3 := ⟨_, rfl⟩
  have hR3 : Rep W3 a m D T := by rw [← hW3]; exact (hR.new2 _ _).alloc _
  have hT3 : Turned S w W3 := by rw [← hW3]; exact (turned_two (S := S) w _ _).trans (turned_alloc (S := S) _ _) fun _ e => .inl e
  obtain ⟨hp, hq, hr⟩ := three_new w (.cells #[.pointer (some ⟨a, 0, none⟩)] 22) (.cells #[.string s] 9) (.cells #[.string t] 9)
  have hz : W3.heap.size = w.heap.size + 3 := by rw [← hW3]; simp
  rw [hW3] at hp hq hr
  have hlt := hR.lt
  have hsame : ∀ o, Disk (W3.alloc o) a D (Grow S w) ∧ Turned S w (W3.alloc o) := fun o => ⟨⟨m, T, hR3.alloc o, hS.mono grow_old⟩, hT3.trans (turned_alloc (S := S) _ _) fun _ e => .inl e⟩
  have hgt := hR.get s.data.toList
  have hrt := hR.right
  have cp : W3.cell? ⟨w.heap.size, 0, none⟩ = some (.pointer (some ⟨a, 0, none⟩)) := by rw [cell_of_row _ _ _ _ _ _ hp]; rfl
  have cq : W3.cell? ⟨w.heap.size + 1, 0, none⟩ = some (.string s) := by rw [cell_of_row _ _ _ _ _ _ hq]; rfl
  have cr : W3.cell? ⟨w.heap.size + 1 + 1, 0, none⟩ = some (.string t) := by rw [cell_of_row _ _ _ _ _ _ hr]; rfl
  have HW := Lib.hid hW3
  have z0 : w.heap.size < W3.heap.size := by omega
  have z1 : w.heap.size + 1 < W3.heap.size := by omega
  have z2 : w.heap.size + 1 + 1 < W3.heap.size := by omega
  cases hd : D.down with
  | true =>
    have hv : Dm.rename D s.data.toList t.data.toList = (7, D) := by unfold Dm.rename; rw [hd]; rfl
    rw [hv]
    have hf := find_down hR3 hd s
    have HS := Lib.hid hsame
    clear hR hR3 hlt hT3 hp hq hr hz hsame hgt hrt hd hv hW3
    go_enter Tryz.func115, Tryz.ntmps115
    go_wp2_with fail
    rw [HW.out]
    refine hf.mono ?_
    rintro e w1 ⟨rfl, rfl⟩
    go_wp2
    go_ret
    exact ⟨rfl, HS.out _⟩
  | false =>
    have hf := find_on hR3 hd s hm
    cases hg : Dm.get T s.data.toList with
    | none =>
      have hv : Dm.rename D s.data.toList t.data.toList = (4, D) := by unfold Dm.rename; rw [hd, hgt, hg]; rfl
      rw [hv]
      rw [hg] at hf
      have HS := Lib.hid hsame
      clear hR hR3 hlt hT3 hp hq hr hz hsame hgt hrt hd hv hW3 hg
      go_enter Tryz.func115, Tryz.ntmps115
      go_wp2_with fail
      rw [HW.out]
      refine hf.mono ?_
      rintro e w1 ⟨rfl, rfl⟩
      go_wp2
      go_ret
      exact ⟨rfl, HS.out _⟩
    | some x =>
      rw [hg] at hf
      have hnm := fun W => isNameAny t W hmt
      cases hn : Dm.isName t.data.toList with
      | false =>
        have hv : Dm.rename D s.data.toList t.data.toList = (1, D) := by unfold Dm.rename; rw [hd, hgt, hg, hn]; rfl
        rw [hv]
        rw [hn] at hnm
        have HS := Lib.hid hsame
        clear hR hR3 hlt hT3 hp hq hr hz hsame hgt hrt hd hv hW3 hg hn
        go_enter Tryz.func115, Tryz.ntmps115
        go_wp2_with fail
        rw [HW.out]
        refine hf.mono ?_
        rintro e w1 ⟨rfl, rfl⟩
        go_wp2_with fail
        refine (hnm _).mono ?_
        rintro e w1 ⟨rfl, rfl⟩
        go_wp2
        go_ret
        exact ⟨rfl, HS.out _⟩
      | true =>
        have hv : Dm.rename D s.data.toList t.data.toList = Dm.change D (fun l => Dm.put (Dm.del l s.data.toList) t.data.toList x.file) id := by unfold Dm.rename; rw [hd, hgt, hg, hn]; rfl
        rw [hv]
        rw [hn] at hnm
        have hlen := Dm.isName_len hn
        rw [show t.data.toList.length = t.size from by simp] at hlen
        have hmx := mem_get hg
        have hT4 : Turned S w (W3.alloc (.cells #[.pointer (some ⟨x.blk, 0, none⟩)] 69)) := hT3.trans (turned_alloc (S := S) _ _) fun _ e => .inl e
        have hu := heap_alloc_new W3 (.cells #[.pointer (some ⟨x.blk, 0, none⟩)] 69)
        have hch := change_disk (w0 := w) (hR3.alloc (.cells #[.pointer (some ⟨x.blk, 0, none⟩)] 69)) hS hT4 (g1 := 136) (cb1 := #[.pointer (some ⟨w.heap.size, 0, none⟩), .pointer (some ⟨w.heap.size + 1, 0, none⟩), .pointer (some ⟨w.heap.size + 1 + 1, 0, none⟩), .pointer (some ⟨W3.heap.size, 0, none⟩)]) (g2 := 45) (cb2 := #[])
          (enters_of Tryz.func136 (by kernel_rfl) rfl) (enters_of Tryz.func45 (by kernel_rfl) rfl) (fun l => Dm.put (Dm.del l s.data.toList) t.data.toList x.file) id
          (fun W D1 hRW hfs hTW => (rename1_rep hRW s t hm (by omega) x hg w.heap.size (w.heap.size + 1) (w.heap.size + 1 + 1) W3.heap.size
              ((hTW.block _ (by rw [World.size_alloc]; omega) (by omega)).trans ((Below.heap_alloc _ _ _ z0).trans hp)) ((hTW.block _ (by rw [World.size_alloc]; omega) (by omega)).trans ((Below.heap_alloc _ _ _ z1).trans hq))
              ((hTW.block _ (by rw [World.size_alloc]; omega) (by omega)).trans ((Below.heap_alloc _ _ _ z2).trans hr)) ((hTW.block _ (by rw [World.size_alloc]; omega) (by omega)).trans hu)
              (by omega) (by omega) (by omega) (by omega) (right_del hRW.right _) (right_move hRW.right (by rw [hRW.get, hg]; rfl) hn)).mono fun e w' ⟨he, hR', hT'⟩ =>
            ⟨he, _, hR', ((hS.mono grow_old).del _).put fun k hk => grow_old _ (hS.2.2 _ hmx k hk), hT'.mono fun k hk => grow_old _ (hk ▸ hS.2.1)⟩)
          (fun W D1 hRW _ _ => nothing_disk hS W D1 hRW)
        have HC := Lib.hid hch
        clear hR hR3 hlt hT3 hp hq hr hz hsame hgt hrt hd hv hW3 hg hn hch hT4 hu hmx hS hlen
        go_enter Tryz.func115, Tryz.ntmps115
        go_wp2_with fail
        rw [HW.out]
        refine hf.mono ?_
        rintro e w1 ⟨rfl, rfl⟩
        go_wp2_with fail
        refine (hnm _).mono ?_
        rintro e w1 ⟨rfl, rfl⟩
        go_wp2_with fail
        refine HC.out.mono ?_
        rintro e w1 ⟨rfl, hq⟩
        have HQ := Lib.hid hq
        clear hq
        go_wp2
        go_ret
        exact ⟨rfl, HQ.out⟩
end Go.Proofs.YtoecbkndbcblpaaGreatDoor
