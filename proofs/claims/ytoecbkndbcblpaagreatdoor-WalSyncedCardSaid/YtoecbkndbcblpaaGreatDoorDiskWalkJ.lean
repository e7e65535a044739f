/-
  Walks over package disk: Append. Conditions: those in the theorems.
-/
import Derived.Test.YtoecbkndbcblpaaGreatDoorDiskWalkI
import Derived.IntWalk
namespace Go.Proofs.YtoecbkndbcblpaaGreatDoor
open Go.RowKit Go.Maps

set_option maxRecDepth 100000 in
set_option maxHeartbeats 4000000 in
theorem Append_disk {w : World} {a : Nat} {D : Dm.Disk} {S : Nat → Prop} (h : Disk w a D S) (s t : ByteArray) (hm : s.size ≤ maxLen) (hmt : t.size ≤ maxLen) :
    Calls Tryz.prog 22 #[.pointer (some ⟨a, 0, none⟩), .string s, .string t] w fun e w' =>
      e = .returned (.int .i64 ((Dm.append D s.data.toList t.data.toList).1 : Nat)) ∧ Disk w' a (Dm.append D s.data.toList t.data.toList).2 (Grow S w) ∧ Turned S w w' := by
  unfold maxLen at hmt
  obtain ⟨m, T, hR, hS⟩ := h
  obtain ⟨W1, hW1⟩ : ∃ W1, w.alloc (.cells #[.string t] 9) = W1 := ⟨_, rfl⟩
  have hR1 : Rep W1 a m D T := by rw [← hW1]; exact hR.alloc _
  have hT1 : Turned S w W1 := by rw [← hW1]; exact turned_alloc (S := S) _ _
  have hq : W1.heap[w.heap.size]? = some (.cells #[.string t] 9 (0, 0)) := by rw [← hW1]; exact heap_alloc_new w _
  have z0 : w.heap.size < W1.heap.size := by rw [← hW1]; simp
  have hlt := hR.lt
  have hsame : ∀ o, Disk (W1.alloc o) a D (Grow S w) ∧ Turned S w (W1.alloc o) := fun o => ⟨⟨m, T, hR1.alloc o, hS.mono grow_old⟩, hT1.trans (turned_alloc (S := S) _ _) fun _ e => .inl e⟩
  have hgt := hR.get s.data.toList
  have hrt := hR.right
  have cq : W1.cell? ⟨w.heap.size, 0, none⟩ = some (.string t) := by rw [cell_of_row _ _ _ _ _ _ hq]; rfl
  have htl : t.data.toList.length = t.size := by simp
  have HW := Lib.hid hW1
  cases hd : D.down with
  | true =>
    have hv : Dm.append D s.data.toList t.data.toList = (7, D) := by unfold Dm.append; rw [hd]; rfl
    rw [hv]
    have hf := find_down hR1 hd s
    have HS := Lib.hid hsame
    clear hR hR1 hlt hT1 hq hsame hgt hrt hd hv hW1 htl
    go_enter Tryz.func22, Tryz.ntmps22
    go_wp2_with fail
    rw [HW.out]
    refine hf.mono ?_
    rintro e w1 ⟨rfl, rfl⟩
    go_wp2
    go_ret
    exact ⟨rfl, HS.out _⟩
  | false =>
    have hf := find_on hR1 hd s hm
    cases hg : Dm.get T s.data.toList with
    | none =>
      have hv : Dm.append D s.data.toList t.data.toList = (4, D) := by unfold Dm.append; rw [hd, hgt, hg]; rfl
      rw [hv]
      rw [hg] at hf
      have HS := Lib.hid hsame
      clear hR hR1 hlt hT1 hq hsame hgt hrt hd hv hW1 hg htl
      go_enter Tryz.func22, Tryz.ntmps22
      go_wp2_with fail
      rw [HW.out]
      refine hf.mono ?_
      rintro e w1 ⟨rfl, rfl⟩
      go_wp2
      go_ret
      exact ⟨rfl, HS.out _⟩
    | some x =>
      rw [hg] at hf
      have hmx := mem_get hg
      have he : EntAt W1 x := hR1.ents _ hmx
      have hxs := (hrt.get (n := s.data.toList) (f := x.file) (by rw [hgt, hg]; rfl)).2
      obtain ⟨pr, cap, hrow, -⟩ := he.shape
      obtain ⟨e0, -, -⟩ := cells2 he.1
      rw [hrow] at e0
      have hxl : x.blk < W1.heap.size := he.lt _ (by simp [entBlks])
      obtain ⟨fl, hfl⟩ : ∃ fl, x.file.data.length = fl := ⟨_, rfl⟩
      rw [hfl] at e0 hxs
      have i0 : (0 : Int) ≤ (fl : Int) := by omega
      have i1 : (fl : Int) ≤ 1048576 := by omega
      by_cases hlong : 1048576 < fl + t.size
      · have hv : Dm.append D s.data.toList t.data.toList = (3, D) := by
          unfold Dm.append; rw [hd, hgt, hg]
          simp only [Bool.false_eq_true, if_false, Option.map_some]
          rw [if_pos (by rw [hfl, htl]; exact hlong)]
        rw [hv]
        have d1 : decide ((1048576 : Int) - (fl : Int) < (t.size : Int)) = true := by simp; omega
        have HS := Lib.hid hsame
        clear hR hR1 hlt hT1 hq hsame hgt hrt hd hv hW1 hg htl he hmx hrow hfl hxs hlong
        go_enter Tryz.func22, Tryz.ntmps22
        go_wp2_with fail
        rw [HW.out]
        refine hf.mono ?_
        rintro e w1 ⟨rfl, rfl⟩
        go_wp2_with fail
        go_quiet (fail)
        go_wp2
        go_ret
        exact ⟨rfl, (HS.out _).1.drewN _, (HS.out _).2.drewN _⟩
      · have d1 : decide ((1048576 : Int) - (fl : Int) < (t.size : Int)) = false := by simp; omega
        have d2 : ¬ (1048576 : Int) - (fl : Int) < (t.size : Int) := by omega
        have hus := hrt.used
        obtain ⟨-, -, c2, c3, -, -⟩ := cells5 hR1.cell
        have hal : a < W1.heap.size := hR1.lt.1
        obtain ⟨us, hus2⟩ : ∃ us, Dm.used D.files = us := ⟨_, rfl⟩
        have hv0 : Dm.append D s.data.toList t.data.toList = if D.bounded && decide (D.room < us + t.size) then (6, D) else Dm.change D (Dm.adds s.data.toList t.data.toList) (Dm.adds s.data.toList t.data.toList) := by
          unfold Dm.append; rw [hd, hgt, hg]
          simp only [Bool.false_eq_true, if_false, Option.map_some]
          rw [if_neg (by rw [hfl, htl]; exact hlong), hus2, htl]
        have hnq : w.heap.size ∉ entBlks x := fun e => by have := hlt.2.2 _ hmx _ e; omega
        have hnp : W1.heap.size ∉ entBlks x := fun e => by have := he.lt _ e; omega
        -- the change, in whatever world on the way
        have hch : ∀ W, Below (W1.heap.size + 1) (W1.alloc (.cells #[.pointer (some ⟨x.blk, 0, none⟩)] 69)) W →
            Calls Tryz.prog 42 #[.pointer (some ⟨a, 0, none⟩), .func (.func 48) #[] #[.pointer (some ⟨W1.heap.size, 0, none⟩), .pointer (some ⟨w.heap.size, 0, none⟩)], .func (.func 48) #[] #[.pointer (some ⟨W1.heap.size, 0, none⟩), .pointer (some ⟨w.heap.size, 0, none⟩)]] W fun e w' =>
              e = .returned (.int .i64 ((Dm.change D (Dm.adds s.data.toList t.data.toList) (Dm.adds s.data.toList t.data.toList)).1 : Nat)) ∧ Disk w' a (Dm.change D (Dm.adds s.data.toList t.data.toList) (Dm.adds s.data.toList t.data.toList)).2 (Grow S w) ∧ Turned S w w' := by
          intro W hW
          have hblk : ∀ k, k < W1.heap.size → W.heap[k]? = W1.heap[k]? := fun k hk => (hW.block k (by omega)).trans (Below.heap_alloc _ _ _ hk)
          have hRW : Rep W a m D T := hR1.heap hblk
          have hTW : Turned S w W := (hT1.trans (turned_alloc (S := S) _ (.cells #[.pointer (some ⟨x.blk, 0, none⟩)] 69)) fun _ e => .inl e).trans (turned_of_below (S := S) (hW.mono (by simp))) fun _ e => .inl e
          have hpp : W.heap[W1.heap.size]? = some (.cells #[.pointer (some ⟨x.blk, 0, none⟩)] 69 (0, 0)) := (hW.block _ (by omega)).trans (heap_alloc_new W1 _)
          have hqq := (hblk _ z0).trans hq
          have hWs : W1.heap.size < W.heap.size := (Array.getElem?_eq_some_iff.1 hpp).1
          have one : ∀ V D1, Rep V a m D1 T → D1.files = D.files → Turned (· = a) W V → Calls Tryz.prog 48 #[.pointer (some ⟨W1.heap.size, 0, none⟩), .pointer (some ⟨w.heap.size, 0, none⟩)] V fun e w' => e = .returned (.tuple #[]) ∧ ∃ T', Rep w' a m { D1 with files := Dm.adds s.data.toList t.data.toList D1.files } T' ∧ Within (Grow S w) a m T' ∧ Turned (Grow S w) V w' := fun V D1 hRV hfs hTV =>
            (append1_rep hRV s.data.toList t x hg W1.heap.size w.heap.size ((hTV.block _ hWs (by omega)).trans hpp) ((hTV.block _ (by omega) (by have := hlt.1; omega)).trans hqq) hnp hnq
              (hRV.right.upd (f := x.file) (by rw [hRV.get, hg]; rfl) _ (by simp; rw [hfl, htl] at *; omega) D1.down D1.fuse hRV.right.fuse) (by rw [hfl]; omega)).mono fun e w' ⟨he, row, hR', hrw, hT'⟩ =>
              ⟨he, _, hR', (hS.mono grow_old).upd (fun k hk => by
                rcases hrw k hk with h1 | h1
                · exact grow_old _ (hS.2.2 _ hmx k (by simp [entBlks, h1]))
                · exact grow_new _ (by have := hTV.size; omega)), hT'.mono fun k hk => grow_old _ (hS.2.2 _ hmx k hk)⟩
          exact change_disk (w0 := w) hRW hS hTW (enters_of Tryz.func48 (by kernel_rfl) rfl) (enters_of Tryz.func48 (by kernel_rfl) rfl) _ _ one one
        have hUs : ∀ W, Below (W1.heap.size + 1) (W1.alloc (.cells #[.pointer (some ⟨x.blk, 0, none⟩)] 69)) W → Calls Tryz.prog 47 #[.pointer (some ⟨a, 0, none⟩)] W fun e w' => e = .returned (.int .i64 (us : Nat)) ∧ Below W.heap.size W w' := fun W hW => by
          have := Used_rep (hR1.heap (W := W) fun k hk => (hW.block k (by omega)).trans (Below.heap_alloc _ _ _ hk))
          rw [hus2] at this; exact this
        have HC := Lib.hid hch
        have HU := Lib.hid hUs
        have HS := Lib.hid hsame
        rw [hus2] at hus
        have k0 : (0 : Int) ≤ (us : Int) := by omega
        have k1 : (us : Int) ≤ 268435456 := by omega
        have k2 : (t.size : Int) ≤ 1048576 := by omega
        have k3 : (0 : Int) ≤ (t.size : Int) := by omega
        have HV := Lib.hid hv0
        cases hb : D.bounded with
        | false =>
          rw [hb] at c2
          have hv : Dm.append D s.data.toList t.data.toList = Dm.change D (Dm.adds s.data.toList t.data.toList) (Dm.adds s.data.toList t.data.toList) := by rw [HV.out, hb]; rfl
          rw [hv]
          clear hR hR1 hlt hT1 hq hsame hgt hrt hd hv hW1 hg htl he hmx hrow hfl hxs hlong hch hUs hv0 hus2 hnq hnp hb hS hus
          go_enter Tryz.func22, Tryz.ntmps22
          go_wp2_with fail
          rw [HW.out]
          refine hf.mono ?_
          rintro e w1 ⟨rfl, rfl⟩
          go_wp2_with fail
          go_quiet (fail)
          go_wp2_with fail
          go_quiet (fail)
          go_wp2_with fail
          refine (HC.out _ (below_drewN (Below.refl _ _) _)).mono ?_
          rintro e w1 ⟨rfl, hq⟩
          have HQ := Lib.hid hq
          clear hq
          go_wp2
          go_ret
          exact ⟨rfl, HQ.out⟩
        | true =>
          rw [hb] at c2
          have k4 : (0 : Int) ≤ (D.room : Int) := by omega
          have hrm := hrt.room
          have keepB : ∀ W W', Below (W1.heap.size + 1) (W1.alloc (.cells #[.pointer (some ⟨x.blk, 0, none⟩)] 69)) W → W1.heap.size + 1 ≤ W.heap.size → Below W.heap.size W W' → Below (W1.heap.size + 1) (W1.alloc (.cells #[.pointer (some ⟨x.blk, 0, none⟩)] 69)) W' ∧ W1.heap.size + 1 ≤ W'.heap.size :=
            fun W W' h1 h2 h3 => ⟨h1.trans (h3.mono h2), Nat.le_trans h2 h3.size⟩
          have KB := Lib.hid keepB
          have hcell : ∀ W, Below (W1.heap.size + 1) (W1.alloc (.cells #[.pointer (some ⟨x.blk, 0, none⟩)] 69)) W → W.cell? ⟨a, 2, none⟩ = some (.bool true) ∧ W.cell? ⟨a, 3, none⟩ = some (.int .i64 (D.room : Nat)) ∧ W.cell? ⟨w.heap.size, 0, none⟩ = some (.string t) := fun W hW =>
            ⟨by rw [← c2]; exact World.cell?_of_block ((hW.block a (by omega)).trans (Below.heap_alloc _ _ _ hal)), by rw [← c3]; exact World.cell?_of_block ((hW.block a (by omega)).trans (Below.heap_alloc _ _ _ hal)), by rw [← cq]; exact World.cell?_of_block ((hW.block w.heap.size (by omega)).trans (Below.heap_alloc _ _ _ z0))⟩
          have HCE := Lib.hid hcell
          have hzz : W1.heap.size + 1 ≤ (W1.alloc (.cells #[.pointer (some ⟨x.blk, 0, none⟩)] 69)).heap.size := by simp
          have wr : IntKind.i64.wrap ((us : Int) + (t.size : Int)) = (us : Int) + (t.size : Int) := IntWalk.i64_in _ (by omega)
          by_cases hfull : D.room < us + t.size
          · have hv : Dm.append D s.data.toList t.data.toList = (6, D) := by rw [HV.out, hb, if_pos (by simpa using hfull)]
            rw [hv]
            have d3 : decide ((D.room : Int) < (us : Int) + (t.size : Int)) = true := by simp; omega
            have hfin : ∀ W, Below (W1.heap.size + 1) (W1.alloc (.cells #[.pointer (some ⟨x.blk, 0, none⟩)] 69)) W → Disk W a D (Grow S w) ∧ Turned S w W := fun W hW =>
              ⟨⟨m, T, hR1.heap fun k hk => (hW.block k (by omega)).trans (Below.heap_alloc _ _ _ hk), hS.mono grow_old⟩, (hsame _).2.trans (turned_of_below (S := S) (hW.mono (by simp))) fun _ e => .inl e⟩
            have HF := Lib.hid hfin
            clear hR hR1 hlt hT1 hq hsame hgt hrt hd hv hW1 hg htl he hmx hrow hfl hxs hlong hch hUs hv0 hus2 hnq hnp hb hS hus keepB hcell hfull hfin
            go_enter Tryz.func22, Tryz.ntmps22
            go_wp2_with fail
            rw [HW.out]
            refine hf.mono ?_
            rintro e w1 ⟨rfl, rfl⟩
            go_wp2_with fail
            go_quiet (fail)
            go_wp2_with fail
            have hB1 : Below (W1.heap.size + 1) (W1.alloc (.cells #[.pointer (some ⟨x.blk, 0, none⟩)] 69)) ((W1.alloc (.cells #[.pointer (some ⟨x.blk, 0, none⟩)] 69)).drewN nq) := below_drewN (Below.refl _ _) _
            have hz1 : W1.heap.size + 1 ≤ ((W1.alloc (.cells #[.pointer (some ⟨x.blk, 0, none⟩)] 69)).drewN nq).heap.size := hzz
            generalize (W1.alloc (.cells #[.pointer (some ⟨x.blk, 0, none⟩)] 69)).drewN nq = W2 at hB1 hz1 ⊢
            obtain ⟨b2, b3, bq⟩ := HCE.out _ hB1
            go_region_held3 (fun w' => w'.cell? ⟨a, 2, none⟩ = some (.bool true) ∧ w'.cell? ⟨a, 3, none⟩ = some (.int .i64 (D.room : Nat)) ∧ w'.cell? ⟨w.heap.size, 0, none⟩ = some (.string t) ∧ Below (W1.heap.size + 1) (W1.alloc (.cells #[.pointer (some ⟨x.blk, 0, none⟩)] 69)) w')
              (first | exact ⟨b2, b3, bq, hB1.drew⟩ | exact ⟨u2, u3, uq, hB3⟩)
              (first | (go_at_call 47; refine (HU.out _ hB1.drew).mono ?_; rintro e w3 ⟨rfl, hb3⟩; obtain ⟨hB3, hz3⟩ := KB.out _ _ hB1.drew hz1 hb3; obtain ⟨u2, u3, uq⟩ := HCE.out _ hB3))
            go_wp2
            go_ret
            exact ⟨rfl, HF.out _ hB3⟩
          · have hv : Dm.append D s.data.toList t.data.toList = Dm.change D (Dm.adds s.data.toList t.data.toList) (Dm.adds s.data.toList t.data.toList) := by rw [HV.out, hb, if_neg (by simpa using hfull)]
            rw [hv]
            have d3 : decide ((D.room : Int) < (us : Int) + (t.size : Int)) = false := by simp; omega
            clear hR hR1 hlt hT1 hq hsame hgt hrt hd hv hW1 hg htl he hmx hrow hfl hxs hlong hch hUs hv0 hus2 hnq hnp hb hS hus keepB hcell hfull
            go_enter Tryz.func22, Tryz.ntmps22
            go_wp2_with fail
            rw [HW.out]
            refine hf.mono ?_
            rintro e w1 ⟨rfl, rfl⟩
            go_wp2_with fail
            go_quiet (fail)
            go_wp2_with fail
            have hB1 : Below (W1.heap.size + 1) (W1.alloc (.cells #[.pointer (some ⟨x.blk, 0, none⟩)] 69)) ((W1.alloc (.cells #[.pointer (some ⟨x.blk, 0, none⟩)] 69)).drewN nq) := below_drewN (Below.refl _ _) _
            have hz1 : W1.heap.size + 1 ≤ ((W1.alloc (.cells #[.pointer (some ⟨x.blk, 0, none⟩)] 69)).drewN nq).heap.size := hzz
            generalize (W1.alloc (.cells #[.pointer (some ⟨x.blk, 0, none⟩)] 69)).drewN nq = W2 at hB1 hz1 ⊢
            obtain ⟨b2, b3, bq⟩ := HCE.out _ hB1
            go_region_held3 (fun w' => w'.cell? ⟨a, 2, none⟩ = some (.bool true) ∧ w'.cell? ⟨a, 3, none⟩ = some (.int .i64 (D.room : Nat)) ∧ w'.cell? ⟨w.heap.size, 0, none⟩ = some (.string t) ∧ Below (W1.heap.size + 1) (W1.alloc (.cells #[.pointer (some ⟨x.blk, 0, none⟩)] 69)) w')
              (first | exact ⟨b2, b3, bq, hB1.drew⟩ | exact ⟨u2, u3, uq, hB3⟩)
              (first | (go_at_call 47; refine (HU.out _ hB1.drew).mono ?_; rintro e w3 ⟨rfl, hb3⟩; obtain ⟨hB3, hz3⟩ := KB.out _ _ hB1.drew hz1 hb3; obtain ⟨u2, u3, uq⟩ := HCE.out _ hB3))
            go_wp2_with fail
            refine (HC.out _ hB3).mono ?_
            rintro e w1 ⟨rfl, hq⟩
            have HQ := Lib.hid hq
            clear hq
            go_wp2
            go_ret
            exact ⟨rfl, HQ.out⟩
end Go.Proofs.YtoecbkndbcblpaaGreatDoor
