/-
  Walks over package disk: cut. Conditions: those in the theorems.
-/
import Derived.Test.YtoecbkndbcblpaaGreatDoorDiskWalkM
import Derived.RegionTactic
namespace Dm
/-- What is left of the list. -/
def rest : List Int → List (List UInt8 × File) → List Int
  | keep, [] => keep
  | keep, p :: r => rest (cutOne keep p.2).2 r
theorem cut_append : ∀ (l r : List (List UInt8 × File)) (keep : List Int), cut keep (l ++ r) = cut keep l ++ cut (rest keep l) r
  | [], _, _ => rfl
  | p :: l, r, keep => by simp only [List.cons_append, cut, rest, cut_append l r]
theorem rest_append : ∀ (l r : List (List UInt8 × File)) (keep : List Int), rest keep (l ++ r) = rest (rest keep l) r
  | [], _, _ => rfl
  | p :: l, r, keep => by simp only [List.cons_append, rest, rest_append l r]
theorem upd_none {α : Type} {l : List (List UInt8 × α)} {n : List UInt8} (g : α → α) (h : ∀ p ∈ l, p.1 ≠ n) : upd l n g = l := by
  unfold upd
  rw [List.map_congr_left (g := id) fun p hp => by rw [if_neg (h p hp)]; rfl]
  simp
/-- The files when i of them have been cut. -/
def cutTo (keep : List Int) (l : List (List UInt8 × File)) (i : Nat) : List (List UInt8 × File) := cut keep (l.take i) ++ l.drop i
theorem cutTo_zero (keep : List Int) (l : List (List UInt8 × File)) : cutTo keep l 0 = l := rfl
theorem cutTo_all (keep : List Int) (l : List (List UInt8 × File)) : cutTo keep l l.length = cut keep l := by unfold cutTo; simp
theorem cutTo_keys (keep : List Int) (l : List (List UInt8 × File)) (i : Nat) : keys (cutTo keep l i) = keys l := by
  unfold cutTo
  have : keys (cut keep (l.take i) ++ l.drop i) = keys (cut keep (l.take i)) ++ keys (l.drop i) := by simp [keys]
  rw [this, keys_cut]
  simp [keys]
theorem cutTo_get {keep : List Int} {l : List (List UInt8 × File)} {i : Nat} (hs : Sorted l) (hi : i < l.length) : get (cutTo keep l i) l[i].1 = some l[i].2 := by
  have hs2 : Sorted (cutTo keep l i) := by rw [sorted_keys, cutTo_keys, ← sorted_keys]; exact hs
  refine hs2.get ?_
  unfold cutTo
  rw [List.mem_append]
  right
  rw [List.drop_eq_getElem_cons hi]
  exact List.mem_cons_self
theorem cutTo_step {keep : List Int} {l : List (List UInt8 × File)} {i : Nat} (hs : Sorted l) (hi : i < l.length) :
    upd (cutTo keep l i) l[i].1 (fun _ => (cutOne (rest keep (l.take i)) l[i].2).1) = cutTo keep l (i + 1) := by
  have hnd := hs.apart
  have hne : ∀ j (hj : j < l.length), j ≠ i → l[j].1 ≠ l[i].1 := fun j hj hji e => by
    have hlen : (keys l).length = l.length := by simp [keys]
    have hp := List.pairwise_iff_getElem.1 hnd
    rcases Nat.lt_or_gt_of_ne hji with h | h
    · exact hp j i (by omega) (by omega) h (by simpa [keys] using e)
    · exact hp i j (by omega) (by omega) h (by simpa [keys] using e.symm)
  unfold cutTo
  rw [List.drop_eq_getElem_cons hi, List.take_succ_eq_append_getElem hi, cut_append]
  have h1 : upd (cut keep (l.take i) ++ l[i] :: l.drop (i + 1)) l[i].1 (fun _ => (cutOne (rest keep (l.take i)) l[i].2).1) =
      upd (cut keep (l.take i)) l[i].1 (fun _ => (cutOne (rest keep (l.take i)) l[i].2).1) ++ (l[i].1, (cutOne (rest keep (l.take i)) l[i].2).1) :: upd (l.drop (i + 1)) l[i].1 (fun _ => (cutOne (rest keep (l.take i)) l[i].2).1) := by
    unfold upd; rw [List.map_append, List.map_cons, if_pos rfl]
  rw [h1, upd_none _ fun p hp => ?_, upd_none _ fun p hp => ?_]
  · simp [cut]
  · obtain ⟨j, hj, e⟩ := List.getElem_of_mem hp
    rw [List.getElem_drop] at e
    rw [← e]
    exact hne _ _ (by omega)
  · have hk : p.1 ∈ keys (l.take i) := by rw [← keys_cut (l.take i) keep]; exact List.mem_map.2 ⟨p, hp, rfl⟩
    obtain ⟨q, hq, e⟩ := List.mem_map.1 hk
    obtain ⟨j, hj, e2⟩ := List.getElem_of_mem hq
    rw [List.getElem_take] at e2
    rw [← e, ← e2]
    exact hne _ _ (by rw [List.length_take] at hj; omega)
theorem rest_step {keep : List Int} {l : List (List UInt8 × File)} {i : Nat} (hi : i < l.length) : rest keep (l.take (i + 1)) = (cutOne (rest keep (l.take i)) l[i].2).2 := by
  rw [List.take_succ_eq_append_getElem hi, rest_append]; rfl
theorem cutTo_short {keep : List Int} {l : List (List UInt8 × File)} (h : ∀ p ∈ l, p.2.synced ≤ p.2.data.length ∧ p.2.data.length ≤ 1048576) (i : Nat) : ∀ p ∈ cutTo keep l i, p.2.synced ≤ p.2.data.length ∧ p.2.data.length ≤ 1048576 := fun p hp => by
  unfold cutTo at hp
  rcases List.mem_append.1 hp with hp | hp
  · exact cut_short _ _ (fun q hq => h q (List.mem_of_mem_take hq)) p hp
  · exact h p (List.mem_of_mem_drop hp)
theorem Right.cutTo {d : Disk} (h : Right d) (keep : List Int) (i : Nat) : Right { d with files := Dm.cutTo keep d.files i } :=
  ⟨by rw [sorted_keys, cutTo_keys, ← sorted_keys]; exact h.sorted, names_of_keys (cutTo_keys _ _ _) h.names, by
    have := congrArg List.length (cutTo_keys keep d.files i)
    simp only [keys, List.length_map] at this
    show (Dm.cutTo keep d.files i).length ≤ 256
    rw [this]; exact h.few, cutTo_short h.short i, h.fuse, h.room⟩
end Dm
namespace Go.Proofs.YtoecbkndbcblpaaGreatDoor
open Go.RowKit Go.Maps Go.Sort Go.Shelf

/-- A list of numbers, as it is handed in: each in its cell, none in a block of S. -/
def Ints (W : World) (S : Nat → Prop) (p : Option Addr) (ks : List Int) : Prop :=
  ∀ i (h : i < ks.length), ∃ A, p = some A ∧ ¬ S A.block ∧ A.block < W.heap.size ∧ W.cell? (A.add i) = some (.int .i64 ks[i])
theorem add_add (A : Addr) (i j : Nat) : (A.add i).add j = A.add (i + j) := by
  unfold Addr.add
  by_cases hi : i = 0 <;> by_cases hj : j = 0 <;> simp [hi, hj, Nat.add_assoc]
theorem add_blk (A : Addr) (i : Nat) : (A.add i).block = A.block := by unfold Addr.add; split <;> rfl
theorem Ints.turned {W W' : World} {S S' : Nat → Prop} {p : Option Addr} {ks : List Int} (h : Ints W S p ks) (ht : Turned S' W W') (hs : ∀ k, k < W.heap.size → S' k → S k) : Ints W' S p ks := fun i hi => by
  obtain ⟨A, h1, h2, h3, h4⟩ := h i hi
  exact ⟨A, h1, h2, Nat.lt_of_lt_of_le h3 ht.size, (World.cell?_of_block (ht.block _ (by rw [add_blk]; exact h3) fun e => h2 (by rw [add_blk] at e; exact hs _ h3 e))).trans h4⟩

theorem entAt_cut {w W : World} {x : Ent} (h : EntAt w x) {p : Option Addr} {fl cap : Nat} (hrow : x.row = .slice p fl cap) {s : Nat} (hs : s ≤ x.file.data.length)
    (hc : W.heap[x.blk]? = some (.cells #[.slice p s cap, .int .i64 (s : Nat)] 74 (0, 0))) (hk : ∀ k ∈ rowBlk x.row, W.heap[k]? = w.heap[k]?) : EntAt W ⟨x.blk, .slice p s cap, ⟨x.file.data.take s, s⟩⟩ := by
  refine ⟨hc, by simp, ?_⟩
  have hl : (x.file.data.take s).length = s := by rw [List.length_take]; omega
  show (Value.slice p s cap = .slice none 0 0 ∧ (x.file.data.take s).length = 0) ∨ _
  rcases h.2.2 with ⟨h1, h2⟩ | ⟨g, cap', cur, h1, h2, h3, h4, h5, h6, h7⟩
  · rw [hrow] at h1; cases h1
    have : s = 0 := by omega
    subst this
    exact .inl ⟨rfl, by simp⟩
  · rw [hrow] at h1; cases h1
    refine .inr ⟨g, cap, cur, by rw [hl], h2, (hk g (by rw [hrow]; simp [rowBlk])).trans h3, by rw [hl]; omega, h5, h6, ?_⟩
    rw [hl, Nat.mul_one, List.map_take, ← h7, List.take_take]
    congr 1
    omega
theorem upd_self {α : Type} {l : List (List UInt8 × α)} (hs : Dm.Sorted l) {n : List UInt8} {x : α} (hx : Dm.get l n = some x) : Dm.upd l n (fun _ => x) = l := by
  have e := upd_congr hs hx (g := fun _ => x) (g' := id) rfl
  rw [e]
  unfold Dm.upd
  rw [List.map_congr_left (g := id) fun p _ => by split <;> rfl]
  simp
theorem lookup_rep {w : World} {a m : Nat} {D : Dm.Disk} {T : List (List UInt8 × Ent)} (h : Rep w a m D T) (s : ByteArray) (hm : s.size ≤ maxLen) {x : Ent} (hx : Dm.get T s.data.toList = some x) :
    (Instr.lookup 59 (.map (some m)) (.string s) false).run Tryz.prog w = .ok (.pointer (some ⟨x.blk, 0, none⟩)) w := by
  obtain ⟨v, ps, hrun, hv⟩ := h.map.lookup keyS Tryz.underlying59 (zeroFile _) (zd := .lit (.int .i64 (-1))) (zp := []) rfl (keyOfS s hm)
  rw [at_dat hx] at hv
  rw [hrun, ptrR_inv hv]

theorem rowBlk_len {p : Option Addr} {n n' c c' k : Nat} (h : k ∈ rowBlk (.slice p n c)) : k ∈ rowBlk (.slice p n' c') := by cases p <;> exact h
/-- One file has been cut. -/
theorem cut_ent {w W : World} {a m : Nat} {D1 D2 : Dm.Disk} {T : List (List UInt8 × Ent)} {S : Nat → Prop} (h : Rep w a m D1 T) (hS : Within S a m T) {n : List UInt8} {x : Ent} (hx : Dm.get T n = some x) {pr : Option Addr} {fl rcap s : Nat}
    (hrow : x.row = .slice pr fl rcap) (hs : s ≤ x.file.data.length) (hc : W.heap[x.blk]? = some (.cells #[.slice pr s rcap, .int .i64 (s : Nat)] 74 (0, 0))) (ht : Turned (· = x.blk) w W)
    (hD : D2 = { D1 with files := Dm.upd D1.files n fun _ => ⟨x.file.data.take s, s⟩ }) (hr : Dm.Right D2) :
    ∃ T', Rep W a m D2 T' ∧ Within S a m T' := by
  have hself : x.blk ∉ rowBlk x.row := h.apart.self _ (mem_get hx)
  have hlt := h.lt.2.2 _ (mem_get hx)
  subst hD
  refine ⟨_, h.upd hx (row := .slice pr s rcap) (g := fun _ => ⟨x.file.data.take s, s⟩) (entAt_cut (h.ents _ (mem_get hx)) hrow hs hc fun k hk => ht.block k (hlt k (by simp [entBlks, hk])) fun e => hself (e ▸ hk)) (fun k hk => .inl (by rw [hrow]; exact rowBlk_len hk))
    (fun k hk hn => ht.block k hk fun e => hn (by simp [entBlks, e])) hr, hS.upd fun k hk => hS.2.2 _ (mem_get hx) k ?_⟩
  refine List.mem_cons_of_mem _ ?_
  show k ∈ rowBlk x.row
  rw [hrow]; exact rowBlk_len hk

set_option maxRecDepth 100000 in
set_option maxHeartbeats 8000000 in
theorem cut_disk0 {w : World} {a : Nat} {D : Dm.Disk} {S : Nat → Prop} (h : Disk w a D S) (hSz : ∀ k, S k → k < w.heap.size) (p : Option Addr) (cap : Nat) (ks : List Int) (hcap : ks.length ≤ cap) (hk : Ints w S p ks) :
    Calls Tryz.prog 35 #[.pointer (some ⟨a, 0, none⟩), .slice p ks.length cap] w fun e w' => e = .returned (.tuple #[]) ∧ Disk w' a { D with files := Dm.cut ks D.files } S ∧ Turned S w w' := by
  obtain ⟨m, T, hR, hS⟩ := h
  have hnm := names_rep hR
  have hfew := hR.right.few
  have hrt := hR.right
  have hkl : (Dm.keys D.files).length = D.files.length := by simp [Dm.keys]
  have HR := Lib.hid hR
  have HS := Lib.hid hS
  have HK := Lib.hid hk
  have HSZ := Lib.hid hSz
  have hns := fun k hk => name_size hrt (k := k) hk
  have HN := Lib.hid hns
  have HRT := Lib.hid hrt
  clear hR hk hns hrt hSz
  rw [hkl] at hnm
  have HKL := Lib.hid hkl
  clear hkl
  go_enter Tryz.func35, Tryz.ntmps35
  go_wp2_with fail
  refine hnm.mono ?_
  rintro e w1 ⟨v, rfl, hrow, hnil, hb⟩
  by_cases hks : Dm.keys D.files = []
  · have hf0 : D.files = [] := by
      have := HKL.out; rw [hks] at this; exact List.eq_nil_of_length_eq_zero this.symm
    have hv := hnil.2 hks
    have HB := Lib.hid hb
    have HF0 := Lib.hid hf0
    subst hv
    clear hnil hb hrow hf0 hks
    go_wp2_with fail
    refine wp_loop_rounds 1 ?_
    rw [rounds_succ]
    go_wp2
    go_returns
    refine ⟨rfl, ⟨m, T, ?_, HS.out⟩, turned_of_below HB.out⟩
    have e : ({ D with files := Dm.cut ks D.files } : Dm.Disk) = D := by
      obtain ⟨d1, d2, d3, d4, fs⟩ := D
      have := HF0.out
      simp only at this
      subst this
      rfl
    rw [e]
    exact HR.out.heap fun k hk => HB.out.block k hk
  · obtain ⟨g, gcap, rfl⟩ : ∃ g gcap, v = .slice (some ⟨g, 0, none⟩) D.files.length gcap := by
      rcases hrow.2 with ⟨h1, h2⟩ | ⟨g, gcap, _, h1, _⟩
      · exact absurd (hnil.1 h1) hks
      · exact ⟨g, gcap, h1⟩
    have hg := hrow.lt g rfl
    have HB := Lib.hid hb
    have HROW := Lib.hid hrow
    have hgs : Hid (¬ S g) := Lib.hid fun e => by have := HSZ.out g e; omega
    clear hnil hb hrow
    go_wp2_with fail
    go_loopw [1, 11] (fun kv i wr => ∃ (k : Nat) (p' : Option Addr) (cap' : Nat) (ks' : List Int) (T' : List (List UInt8 × Ent)), k ≤ D.files.length ∧ i = .int .i64 (k : Nat) ∧ kv = .slice p' ks'.length cap' ∧ ks'.length ≤ cap' ∧ Hid (ks' = Dm.rest ks (D.files.take k)) ∧ Ints wr S p' ks' ∧ Rep wr a m { D with files := Dm.cutTo ks D.files k } T' ∧ Within S a m T' ∧ Turned S w1 wr) (fun _ i _ => D.files.length - (intOf i).toNat)
    case atStart =>
      refine ⟨0, p, cap, ks, T, Nat.zero_le _, rfl, rfl, hcap, Lib.hid rfl, ?_, ?_, HS.out, Turned.refl _ _⟩
      · exact HK.out.turned (turned_of_below (S := S) HB.out) fun _ _ h => h
      · exact HR.out.heap fun k hk => HB.out.block k hk
    case round =>
      obtain ⟨k, p', cap', ks', T', hk, rfl, rfl, hcap', HKS, HI, HRR, HSS, HTT⟩ := hrel
      by_cases hlt : k < D.files.length
      · have i1 : (k : Int) < (D.files.length : Int) := by omega
        have i2 : (0 : Int) ≤ (k : Int) := by omega
        -- what stands at k
        obtain ⟨nm, f, hq⟩ : ∃ nm f, D.files[k] = (nm, f) := ⟨_, _, rfl⟩
        have hget : Dm.get (Dm.cutTo ks D.files k) nm = some f := by have := Dm.cutTo_get (keep := ks) HRT.out.sorted hlt; rw [hq] at this; exact this
        have hgT := HRR.get nm
        simp only at hgT
        rw [hget] at hgT
        obtain ⟨x, hx, hxf⟩ := Option.map_eq_some_iff.1 hgT.symm
        have hck : wr.cell? ⟨g, k, none⟩ = some (.string ⟨nm.toArray⟩) := by
          have h1 := HROW.out.cellAt k (by rw [Nat.mul_one]; exact hlt)
          rw [List.getElem?_map, List.getElem?_eq_getElem (by rw [HKL.out]; exact hlt)] at h1
          have h2 : (Dm.keys D.files)[k]'(by rw [HKL.out]; exact hlt) = nm := by simp [Dm.keys, hq]
          rw [h2] at h1
          exact (World.cell?_of_block (w := w1) (HTT.block g hg.2 hgs.out)).trans h1
        have hnsz : (⟨nm.toArray⟩ : ByteArray).size ≤ maxLen := Nat.le_trans (HN.out nm (by rw [show nm = (Dm.keys D.files)[k]'(by rw [HKL.out]; exact hlt) from by simp [Dm.keys, hq]]; exact List.getElem_mem _)) (by unfold maxLen; omega)
        have hlk := lookup_rep HRR ⟨nm.toArray⟩ hnsz (x := x) (by simpa using hx)
        obtain ⟨-, -, -, -, c4, -⟩ := cells5 HRR.cell
        have he : EntAt wr x := HRR.ents _ (mem_get hx)
        have hsh := HRR.right.short _ (Dm.get_mem hget)
        simp only at hsh
        obtain ⟨pr, rcap, hxr, hrc⟩ := he.shape
        obtain ⟨e0, e1, efz⟩ := cells2 he.1
        rw [hxr] at e0
        rw [hxf] at e0 e1 hrc
        obtain ⟨fl, hfl⟩ : ∃ fl, f.data.length = fl := ⟨_, rfl⟩
        obtain ⟨sy, hsy⟩ : ∃ sy, f.synced = sy := ⟨_, rfl⟩
        rw [hfl] at e0 hrc hsh
        rw [hsy] at e1 hsh
        have j0 : (0 : Int) ≤ (fl : Int) := by omega
        have j1 : (0 : Int) ≤ (sy : Int) := by omega
        have j2 : (sy : Int) ≤ (fl : Int) := by omega
        have j3 : (fl : Int) ≤ 1048576 := by omega
        have ef0 := efz 0
        have ef1 := efz 1
        have wr1 : IntKind.i64.wrap ((fl : Int) - (sy : Int)) = (fl : Int) - (sy : Int) := IntWalk.i64_in _ (by omega)
        -- the files behind the step
        have hstep : Hid (Dm.upd (Dm.cutTo ks D.files k) nm (fun _ => (Dm.cutOne ks' f).1) = Dm.cutTo ks D.files (k + 1)) := Lib.hid (by have := Dm.cutTo_step (keep := ks) HRT.out.sorted hlt; rw [hq, ← HKS.out] at this; exact this)
        have hrest : Hid ((Dm.cutOne ks' f).2 = Dm.rest ks (D.files.take (k + 1))) := Lib.hid (by have := Dm.rest_step (keep := ks) hlt; rw [hq, ← HKS.out] at this; exact this.symm)
        by_cases htail : fl = sy
        · have d0 : ((fl : Int) - (sy : Int) == 0) = true := by simp; omega
          have hone : Hid (Dm.cutOne ks' f = (f, ks')) := Lib.hid (by unfold Dm.cutOne; rw [if_pos (by omega)])
          have hsame : Hid (Dm.cutTo ks D.files (k + 1) = Dm.cutTo ks D.files k) := Lib.hid (by rw [← hstep.out, hone.out]; exact upd_self (HRR.right.sorted) hget)
          have H1 := Lib.hid HRR
          have H2 := Lib.hid HSS
          have H3 := Lib.hid HTT
          have H4 := Lib.hid HI
          clear HRR HSS HTT HI hgT hget hx hxf hsh he hxr hrc hfl hsy htail hq hnsz efz ef0 ef1
          go_wp2_with fail
          go_quiet (fail)
          go_wp2
          go_roundw
          case rel =>
            exact ⟨k + 1, p', cap', ks', T', by omega, rfl, rfl, hcap', Lib.hid (by rw [← hrest.out, hone.out]), fun i hi => H4.out i hi, by rw [hsame.out]; exact H1.out.heap fun _ _ => rfl, H2.out, H3.out.drewN _⟩
          case measure => simp [intOf]; omega
        · have d0 : ((fl : Int) - (sy : Int) == 0) = false := by rw [beq_eq_false_iff_ne]; omega
          cases ks' with
          | nil =>
            have hone : Hid (Dm.cutOne [] f = (⟨f.data.take sy, sy⟩, [])) := Lib.hid (by unfold Dm.cutOne; rw [if_neg (by omega), hsy])
            have H1 := Lib.hid HRR
            have H2 := Lib.hid HSS
            have H3 := Lib.hid HTT
            have H4 := Lib.hid HI
            have H5 := Lib.hid he
            have H6 := Lib.hid hx
            have H7 := Lib.hid hxf
            have H8 := Lib.hid hxr
            have H9 := Lib.hid hfl
            have H10 := Lib.hid hsy
            clear HRR HSS HTT HI hgT hget hx hxf hsh he hxr hfl hsy htail hq hnsz efz
            have hle : sy ≤ rcap := by omega
            have hle2 : (sy : Int) ≤ (rcap : Int) := by omega
            go_wp2_with fail
            go_quiet (fail)
            go_wp2_with fail
            go_region
            go_wp2
            have hWc : ((wr.drewN (nq + 1)).setCell ⟨x.blk, 0, none⟩ (.slice pr sy rcap)).heap[x.blk]? = some (.cells #[.slice pr sy rcap, .int .i64 (sy : Nat)] 74 (0, 0)) := by
              rw [set1 (w := wr.drewN (nq + 1)) H5.out.1, H7.out, H10.out]; rfl
            have hWt : Turned (· = x.blk) wr ((wr.drewN (nq + 1)).setCell ⟨x.blk, 0, none⟩ (.slice pr sy rcap)) := ((Turned.refl (· = x.blk) wr).drewN (nq + 1)).trans (turned_setCell (S := (· = x.blk)) _ _ _ rfl) fun _ e => .inl e
            have hxS : S x.blk := H2.out.2.2 _ (mem_get H6.out) _ (by simp [entBlks])
            obtain ⟨T2, hR2, hS2⟩ := cut_ent (D2 := { D with files := Dm.cutTo ks D.files (k + 1) }) H1.out H2.out H6.out (by rw [H8.out, H7.out, H9.out]) (s := sy) (by rw [H7.out, H9.out]; omega) hWc hWt (by rw [H7.out, ← hstep.out, hone.out]) (HRT.out.cutTo ks (k + 1))
            have hT2 : Turned S w1 ((wr.drewN (nq + 1)).setCell ⟨x.blk, 0, none⟩ (.slice pr sy rcap)) := H3.out.trans hWt fun i e => .inl (e ▸ hxS)
            have hI2 : Ints ((wr.drewN (nq + 1)).setCell ⟨x.blk, 0, none⟩ (.slice pr sy rcap)) S p' [] := fun i hi => nomatch hi
            generalize (wr.drewN (nq + 1)).setCell ⟨x.blk, 0, none⟩ (.slice pr sy rcap) = W2 at *
            go_roundw
            case rel => exact ⟨k + 1, p', cap', [], T2, by omega, rfl, rfl, hcap', Lib.hid (by rw [← hrest.out, hone.out]), hI2, hR2, hS2, hT2⟩
            case measure => simp [intOf]; omega
          | cons c cs =>
            obtain ⟨A, hA, hnA, hAz, hAc⟩ := HI 0 (by simp)
            subst hA
            have hAc0 : wr.cell? A = some (.int .i64 c) := hAc
            obtain ⟨s', hs'⟩ : ∃ s' : Nat, sy + min c.toNat (fl - sy) = s' := ⟨_, rfl⟩
            have hs1 : min (max c 0) ((fl : Int) - (sy : Int)) = (s' : Int) - (sy : Int) := by omega
            have hs2 : (sy : Int) + ((s' : Int) - (sy : Int)) = (s' : Int) := by omega
            have hs3 : IntKind.i64.wrap ((s' : Int)) = (s' : Int) := IntWalk.i64_in _ (by omega)
            have hone : Hid (Dm.cutOne (c :: cs) f = (⟨f.data.take s', s'⟩, cs)) := Lib.hid (by unfold Dm.cutOne; rw [if_neg (by omega)]; simp only [hsy, hfl, hs'])
            have hs4 : (s' : Int) ≤ (rcap : Int) := by omega
            have hs5 : s' ≤ fl := by omega
            have hs6 : (0 : Int) ≤ (s' : Int) := by omega
            have hxA : x.blk ≠ A.block := fun e => hnA (e ▸ HSS.2.2 _ (mem_get hx) _ (by simp [entBlks]))
            have H1 := Lib.hid HRR
            have H2 := Lib.hid HSS
            have H3 := Lib.hid HTT
            have H4 := Lib.hid HI
            have H5 := Lib.hid he
            have H6 := Lib.hid hx
            have H7 := Lib.hid hxf
            have H8 := Lib.hid hxr
            have H9 := Lib.hid hfl
            have H10 := Lib.hid hsy
            have H11 := Lib.hid hs'
            clear HRR HSS HTT HI hgT hget hx hxf hsh he hxr hfl hsy htail hq hnsz efz hs' hAc hnA
            go_wp2_with fail
            go_quiet (fail)
            go_wp2_with fail
            go_region
            have hWa : ((wr.drewN (nq + 1)).setCell ⟨x.blk, 1, none⟩ (.int .i64 (s' : Nat))).heap[x.blk]? = some (.cells #[.slice pr fl rcap, .int .i64 (s' : Nat)] 74 (0, 0)) := by
              rw [set1 (w := wr.drewN (nq + 1)) H5.out.1, H8.out, H7.out, H9.out]; rfl
            have hWb : Turned (· = x.blk) wr ((wr.drewN (nq + 1)).setCell ⟨x.blk, 1, none⟩ (.int .i64 (s' : Nat))) := ((Turned.refl (· = x.blk) wr).drewN (nq + 1)).trans (turned_setCell (S := (· = x.blk)) _ _ _ rfl) fun _ e => .inl e
            generalize (wr.drewN (nq + 1)).setCell ⟨x.blk, 1, none⟩ (.int .i64 (s' : Nat)) = W1 at hWa hWb ⊢
            obtain ⟨g0, g1, gfz⟩ := cells2 hWa
            have gf0 := gfz 0
            have HWa := Lib.hid hWa
            have HWb := Lib.hid hWb
            clear hWa hWb gfz e0 e1 ef0 ef1 hAc0 hlk
            have hlen1 : cs.length + 1 ≤ cap' := hcap'
            by_cases hcap1 : cap' = 1
            · subst hcap1
              obtain rfl : cs = [] := List.eq_nil_of_length_eq_zero (by omega)
              go_wp2_with fail
              go_region
              go_wp2
              have hWc : (W1.setCell ⟨x.blk, 0, none⟩ (.slice pr s' rcap)).drew.heap[x.blk]? = some (.cells #[.slice pr s' rcap, .int .i64 (s' : Nat)] 74 (0, 0)) := by
                show (W1.setCell ⟨x.blk, 0, none⟩ (.slice pr s' rcap)).heap[x.blk]? = _
                rw [set1 HWa.out]; rfl
              have hWt : Turned (· = x.blk) wr (W1.setCell ⟨x.blk, 0, none⟩ (.slice pr s' rcap)).drew := (HWb.out.trans (turned_setCell (S := (· = x.blk)) W1 ⟨x.blk, 0, none⟩ (.slice pr s' rcap) rfl) fun _ e => .inl e).trans (turned_drew (S := (· = x.blk)) _) fun _ e => .inl e
              have hxS : S x.blk := H2.out.2.2 _ (mem_get H6.out) _ (by simp [entBlks])
              obtain ⟨T2, hR2, hS2⟩ := cut_ent (D2 := { D with files := Dm.cutTo ks D.files (k + 1) }) H1.out H2.out H6.out (by rw [H8.out, H7.out, H9.out]) (s := s') (by rw [H7.out, H9.out]; omega) hWc hWt (by rw [H7.out, ← hstep.out, hone.out]) (HRT.out.cutTo ks (k + 1))
              have hT2 : Turned S w1 (W1.setCell ⟨x.blk, 0, none⟩ (.slice pr s' rcap)).drew := H3.out.trans hWt fun i e => .inl (e ▸ hxS)
              have hI1 := H4.out.turned hWt fun k _ e => e ▸ hxS
              have hI2 : Ints (W1.setCell ⟨x.blk, 0, none⟩ (.slice pr s' rcap)).drew S (some A) [] := fun i hi => nomatch hi
              go_roundw
              case rel => exact ⟨k + 1, some A, 0, [], T2, by omega, rfl, rfl, Nat.le_refl _, Lib.hid (by rw [← hrest.out, hone.out]), hI2, hR2, hS2, hT2⟩
              case measure => simp [intOf]; omega
            · have hcap2 : 2 ≤ cap' := by omega
              go_wp2_with fail
              go_region
              go_wp2
              have hWc : (W1.setCell ⟨x.blk, 0, none⟩ (.slice pr s' rcap)).drew.heap[x.blk]? = some (.cells #[.slice pr s' rcap, .int .i64 (s' : Nat)] 74 (0, 0)) := by
                show (W1.setCell ⟨x.blk, 0, none⟩ (.slice pr s' rcap)).heap[x.blk]? = _
                rw [set1 HWa.out]; rfl
              have hWt : Turned (· = x.blk) wr (W1.setCell ⟨x.blk, 0, none⟩ (.slice pr s' rcap)).drew := (HWb.out.trans (turned_setCell (S := (· = x.blk)) W1 ⟨x.blk, 0, none⟩ (.slice pr s' rcap) rfl) fun _ e => .inl e).trans (turned_drew (S := (· = x.blk)) _) fun _ e => .inl e
              have hxS : S x.blk := H2.out.2.2 _ (mem_get H6.out) _ (by simp [entBlks])
              obtain ⟨T2, hR2, hS2⟩ := cut_ent (D2 := { D with files := Dm.cutTo ks D.files (k + 1) }) H1.out H2.out H6.out (by rw [H8.out, H7.out, H9.out]) (s := s') (by rw [H7.out, H9.out]; omega) hWc hWt (by rw [H7.out, ← hstep.out, hone.out]) (HRT.out.cutTo ks (k + 1))
              have hT2 : Turned S w1 (W1.setCell ⟨x.blk, 0, none⟩ (.slice pr s' rcap)).drew := H3.out.trans hWt fun i e => .inl (e ▸ hxS)
              have hI1 := H4.out.turned hWt fun k _ e => e ▸ hxS
              have hI2 : Ints (W1.setCell ⟨x.blk, 0, none⟩ (.slice pr s' rcap)).drew S (some ⟨A.block, A.off + 1, none⟩) cs := fun i hi => by
                obtain ⟨A', e1, e2, e3, e4⟩ := hI1 (i + 1) (by simp; omega)
                cases e1
                have e5 : (⟨A.block, A.off + 1, none⟩ : Addr) = A.add 1 := rfl
                refine ⟨_, rfl, e2, e3, ?_⟩
                rw [e5, add_add, Nat.add_comm 1 i, e4]
                simp
              go_roundw
              case rel => exact ⟨k + 1, _, cap' - 1, cs, T2, by omega, rfl, rfl, by omega, Lib.hid (by rw [← hrest.out, hone.out]), hI2, hR2, hS2, hT2⟩
              case measure => simp [intOf]; omega
      · obtain rfl : k = D.files.length := by omega
        have i1 : ¬ (D.files.length : Int) < (D.files.length : Int) := by omega
        rw [Dm.cutTo_all] at HRR
        have H1 := Lib.hid HRR
        have H2 := Lib.hid HSS
        have H3 := Lib.hid HTT
        clear HRR HSS HTT HI
        go_wp2
        go_returns
        exact ⟨rfl, ⟨m, T', H1.out, H2.out⟩, (turned_of_below (S := S) HB.out).trans H3.out fun _ e => .inl e⟩
end Go.Proofs.YtoecbkndbcblpaaGreatDoor
