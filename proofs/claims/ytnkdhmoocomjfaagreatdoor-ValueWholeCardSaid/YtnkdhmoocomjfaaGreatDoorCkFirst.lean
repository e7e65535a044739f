/-
  Walks over package check: the first one of a list that has a name (slices.IndexFunc by closures, first), at records, services, methods, sagas, fields. Conditions: those in the theorems.
-/
import Derived.Test.YtnkdhmoocomjfaaGreatDoorCkKp
import Derived.Deep.QuietTactic
import Derived.BigQuiet
set_option linter.unusedSimpArgs false
set_option linter.unusedVariables false
namespace Go.Proofs.YtnkdhmoocomjfaaGreatDoor
open Go.RowKit
/-- The place that IndexFunc tells. -/
def idxV (o : Option Nat) : Value := .int .i64 (match o with | some i => ((i : Nat) : Int) | none => -1)
theorem idx_some {α : Type} {p : α → Bool} {L : List α} {k : Nat} (hk : k < L.length) (h : ∀ j (hj : j < L.length), j < k → p L[j] = false) (hp : p L[k] = true) : L.findIdx? p = some k := by
  rw [List.findIdx?_eq_some_iff_getElem]
  exact ⟨hk, hp, fun j hj => by rw [h j (by omega) hj]; decide⟩
theorem idx_none {α : Type} {p : α → Bool} {L : List α} (h : ∀ j (hj : j < L.length), p L[j] = false) : L.findIdx? p = none := by
  rw [List.findIdx?_eq_none_iff]
  intro x hx
  obtain ⟨i, hi, rfl⟩ := List.getElem_of_mem hx
  exact h i hi
theorem find_idx {α : Type} {p : α → Bool} : ∀ {L : List α} {k : Nat}, L.findIdx? p = some k → ∃ hk : k < L.length, L.find? p = some L[k]
  | [], k, h => by cases h
  | x :: L, k, h => by
    rw [List.findIdx?_cons] at h
    rw [List.find?_cons]
    cases hp : p x with
    | true => rw [hp] at h; simp at h; subst h; exact ⟨by simp, rfl⟩
    | false =>
      rw [hp] at h
      simp only [Bool.false_eq_true, if_false, Option.map_eq_some_iff] at h
      obtain ⟨j, hj, rfl⟩ := h
      obtain ⟨hk, hf⟩ := find_idx hj
      exact ⟨by simp; omega, by simpa using hf⟩
theorem find_idx_none {α : Type} {p : α → Bool} {L : List α} (h : L.findIdx? p = none) : L.find? p = none := by
  rw [List.findIdx?_eq_none_iff] at h
  exact List.find?_eq_none.2 fun x hx => by rw [h x hx]; decide


/-! ### api.Record -/
set_option maxRecDepth 100000 in
set_option maxHeartbeats 1000000 in
theorem eqR_any {w : World} (n : ByteArray) {b : Nat} (hb : w.heap[b]? = some (.cells #[.string n] 9 (0, 0))) (x : Ip.Rcd) (p : Option Addr) (c : Nat) : Calls Tryz.prog 102 #[.agg #[.string x.name, .bool x.choice, .slice p x.fields.length c], .pointer (some ⟨b, 0, none⟩)] w fun e w' => e = .returned (.bool (Ip.eqB x.name n)) ∧ Below w.heap.size w w' := by
  have hc : ∀ o, (w.alloc o).cell? ⟨b, 0, none⟩ = some (.string n) := fun o => by
    rw [cell_of_row _ b 0 _ _ _ ((Below.heap_alloc _ _ b (Array.getElem?_eq_some_iff.1 hb).1).trans hb)]; rfl
  go_enter Tryz.func102, Tryz.ntmps102
  go_wp2_with fail
  go_ret
  exact ⟨by rw [← eqB_list]; rfl, tk_alloc w _⟩
set_option maxRecDepth 100000 in
set_option maxHeartbeats 4000000 in
theorem idxR_any {w : World} {v : Value} {L : List Ip.Rcd} (h : RoRcd w v L) (n : ByteArray) {b : Nat} (hb : w.heap[b]? = some (.cells #[.string n] 9 (0, 0))) :
    Calls Tryz.prog 139 #[v, .func (.func 102) #[] #[.pointer (some ⟨b, 0, none⟩)]] w fun e w' => e = .returned (idxV (L.findIdx? fun r => Ip.eqB r.name n)) ∧ Below w.heap.size w w' := by
  have H := Lib.hid h
  have HB := Lib.hid hb
  obtain ⟨p0, k0, rfl, hl⟩ := ro_len h
  clear h hb
  go_enter Tryz.func139, Tryz.ntmps139
  go_wp2_with fail
  go_loopw [8] (fun kv wr => ∃ k : Nat, k ≤ L.length ∧ kv = .int .i64 (k : Nat) ∧ Hid (Below w.heap.size w wr ∧ ∀ j (hj : j < L.length), j < k → Ip.eqB L[j].name n = false)) (fun kv _ => L.length - (intOf kv).toNat)
  case atStart => exact ⟨0, Nat.zero_le _, rfl, Lib.hid ⟨Below.refl _ _, fun j _ hj => absurd hj (Nat.not_lt_zero _)⟩⟩
  case round =>
    obtain ⟨k, hk, rfl, HR⟩ := hrel
    by_cases hlt : k < L.length
    · have i1 : (k : Int) < (L.length : Int) := by omega
      have i2 : (0 : Int) ≤ (k : Int) := by omega
      obtain ⟨A, cc, p, c, e3, hA, c0, c1, c2, -, -, -⟩ := rcd_at (H.out.below HR.out.1) hlt
      cases e3
      have hb1 := Lib.hid ((HR.out.1.block b (Array.getElem?_eq_some_iff.1 HB.out).1).trans HB.out)
      go_wp2_with fail
      refine Calls.mono (eqR_any n hb1.out L[k] p c) ?_
      rintro e w1 ⟨rfl, hb2⟩
      have HB2 := Lib.hid (HR.out.1.trans (hb2.mono HR.out.1.size))
      clear hb2 c0 c1 c2
      cases hq : Ip.eqB L[k].name n with
      | true =>
        have HF : Hid (L.findIdx? (fun r => Ip.eqB r.name n) = some k) := Lib.hid (idx_some hlt HR.out.2 hq)
        clear hq
        go_wp2_with fail
        go_ret
        exact ⟨by rw [HF.out]; rfl, HB2.out⟩
      | false =>
        have HQ := Lib.hid hq
        clear hq
        go_wp2_with fail
        go_roundw
        case rel => exact ⟨k + 1, by omega, by go_num, Lib.hid ⟨HB2.out, fun j hj hjk => by
          by_cases e : j < k
          · exact HR.out.2 j hj e
          · obtain rfl : j = k := by omega
            exact HQ.out⟩⟩
        case measure => simp [intOf]; omega
    · obtain rfl : k = L.length := by omega
      have i1 : ¬ (L.length : Int) < (L.length : Int) := by omega
      go_wp2_with fail
      go_ret
      exact ⟨by rw [idx_none (L := L) fun j hj => HR.out.2 j hj hj]; rfl, HR.out.1⟩
theorem firstR_res {W : World} {tmps : Array Value} {b : Nat} {x0 x1 x2 x9 : Value} (h4 : tmps[4]? = some (.pointer (some ⟨b, 0, none⟩))) (h5 : tmps[5]? = some x9) (h : W.heap[b]? = some (.cells #[x0, x1, x2] 34 (0, 0))) :
    (results Tryz.f101 tmps).run Tryz.prog W = .ok (.tuple #[.agg #[x0, x1, x2], x9]) W := by
  obtain ⟨c0, c1, c2⟩ := cells3 h
  simp [results, Tryz.results101, h4, h5, go_sem, c0, c1, c2]
set_option maxRecDepth 100000 in
set_option maxHeartbeats 4000000 in
theorem firstR_any {u w : World} {v : Value} {L : List Ip.Rcd} (h : RoRcd u v L) (hu : Kp u w) (n : ByteArray) {b : Nat} (hb : w.heap[b]? = some (.cells #[.string n] 9 (0, 0))) :
    Calls Tryz.prog 101 #[v, .func (.func 102) #[] #[.pointer (some ⟨b, 0, none⟩)]] w (Fnd RcdV noRcd u (L.find? fun r => Ip.eqB r.name n) w) := by
  obtain ⟨W0, hW0⟩ : ∃ W0, W0 = w.alloc (.cells #[.string ⟨#[]⟩, .bool false, .slice none 0 0] 34) := ⟨_, rfl⟩
  have hb0 : Below w.heap.size w W0 := by rw [hW0]; exact tk_alloc w _
  have hz0 : W0.heap[w.heap.size]? = some (.cells #[.string ⟨#[]⟩, .bool false, .slice none 0 0] 34 (0, 0)) := by rw [hW0]; exact heap_alloc_new w _
  have H0 := Lib.hid h
  have HU := Lib.hid hu
  have H := Lib.hid (h.kp (hu.below hb0))
  have HB := Lib.hid ((hb0.block b (Array.getElem?_eq_some_iff.1 hb).1).trans hb)
  have HX : Hid (∀ W, Below W0.heap.size W0 W → W.heap[w.heap.size]? = some (.cells #[.string ⟨#[]⟩, .bool false, .slice none 0 0] 34 (0, 0)) ∧ Below w.heap.size w W) := Lib.hid fun W hW =>
    ⟨(hW.block _ (Array.getElem?_eq_some_iff.1 hz0).1).trans hz0, hb0.trans (hW.mono hb0.size)⟩
  obtain ⟨p0, k0, rfl, hl⟩ := ro_len h
  clear h hb hb0 hz0 hu
  go_enter Tryz.func101, Tryz.ntmps101
  go_upto_region 1 with fail
  rw [← hW0]
  clear hW0
  go_wp2_with fail
  refine (idxR_any H.out n HB.out).mono ?_
  rintro e w1 ⟨rfl, hb1⟩
  obtain ⟨hz, hB⟩ := HX.out _ hb1
  have HZ := Lib.hid hz
  have HBW := Lib.hid hB
  clear hb1
  cases hq : L.findIdx? fun r => Ip.eqB r.name n with
  | some i =>
    obtain ⟨hlt, hf⟩ := find_idx hq
    have HF := Lib.hid hf
    clear hq hf
    rw [show idxV (some i) = .int .i64 ((i : Nat) : Int) from rfl]
    have i1 : (i : Int) < (L.length : Int) := by omega
    have i2 : (0 : Int) ≤ (i : Int) := by omega
    obtain ⟨A, cc, p, c, e3, hA, c0, c1, c2, hin, hs, -⟩ := rcd_at H0.out hlt
    cases e3
    replace c0 := ((HU.out.below HBW.out).cell (by exact (tadd_block A _).symm ▸ hA)).trans c0; replace c1 := ((HU.out.below HBW.out).cell (by exact (tadd_block A _).symm ▸ hA)).trans c1; replace c2 := ((HU.out.below HBW.out).cell (by exact (tadd_block A _).symm ▸ hA)).trans c2
    obtain ⟨z0, z1, z2⟩ := cells3 hz
    have f0 := frozen2 hz 0; have f1 := frozen2 hz 1; have f2 := frozen2 hz 2
    have HI := Lib.hid hin
    have HS := Lib.hid hs
    clear hz hB hin hs
    go_wp2_with fail
    refine bodyPost_ret (firstR_res rfl rfl (set_three _ _ _ HZ.out)) rfl ?_
    rw [HF.out]
    have hbW : Below w.heap.size w ((((w1).setCell ⟨w.heap.size, 0, none⟩ (.string L[i].name)).setCell ⟨w.heap.size, 1, none⟩ (.bool L[i].choice)).setCell ⟨w.heap.size, 2, none⟩ (.slice p L[i].fields.length c)) := (((HBW.out).setCell (by exact Nat.le_refl w.heap.size) _).setCell (by exact Nat.le_refl w.heap.size) _).setCell (by exact Nat.le_refl w.heap.size) _
    exact ⟨_, rfl, ⟨_, _, rfl, HI.out, HS.out⟩, hbW⟩
  | none =>
    have HF := Lib.hid (find_idx_none hq)
    clear hq
    rw [show idxV none = .int .i64 (-1) from rfl]
    obtain ⟨W2, hW2⟩ : ∃ W2, W2 = w1.alloc (.cells #[.string ⟨#[]⟩, .bool false, .slice none 0 0] 34) := ⟨_, rfl⟩
    have hb2 : Below w1.heap.size w1 W2 := by rw [hW2]; exact tk_alloc w1 _
    have hn : W2.heap[w1.heap.size]? = some (.cells #[.string ⟨#[]⟩, .bool false, .slice none 0 0] 34 (0, 0)) := by rw [hW2]; exact heap_alloc_new w1 _
    have hz2 := (hb2.block _ (Array.getElem?_eq_some_iff.1 hz).1).trans hz
    have HB2 := Lib.hid (hB.trans (hb2.mono hB.size))
    obtain ⟨z0, z1, z2⟩ := cells3 hz2
    obtain ⟨n0, n1, n2⟩ := cells3 hn
    have f0 := frozen2 hz2 0; have f1 := frozen2 hz2 1; have f2 := frozen2 hz2 2
    have HZ2 := Lib.hid hz2
    clear hz hB hb2 hn hz2
    go_upto_region 5 with fail
    rw [← hW2]
    clear hW2
    go_wp2_with fail
    refine bodyPost_ret (firstR_res rfl rfl (set_three _ _ _ HZ2.out)) rfl ?_
    rw [HF.out]
    have hbW : Below w.heap.size w ((((W2).setCell ⟨w.heap.size, 0, none⟩ (.string ⟨#[]⟩)).setCell ⟨w.heap.size, 1, none⟩ (.bool false)).setCell ⟨w.heap.size, 2, none⟩ (.slice none 0 0)) := (((HB2.out).setCell (by exact Nat.le_refl w.heap.size) _).setCell (by exact Nat.le_refl w.heap.size) _).setCell (by exact Nat.le_refl w.heap.size) _
    exact ⟨_, rfl, RcdV.none _, hbW⟩

/-! ### api.Service -/
set_option maxRecDepth 100000 in
set_option maxHeartbeats 1000000 in
theorem eqV_any {w : World} (n : ByteArray) {b : Nat} (hb : w.heap[b]? = some (.cells #[.string n] 9 (0, 0))) (x : Ip.Srv) (p : Option Addr) (c : Nat) : Calls Tryz.prog 177 #[.agg #[.string x.name, .slice p x.methods.length c], .pointer (some ⟨b, 0, none⟩)] w fun e w' => e = .returned (.bool (Ip.eqB x.name n)) ∧ Below w.heap.size w w' := by
  have hc : ∀ o, (w.alloc o).cell? ⟨b, 0, none⟩ = some (.string n) := fun o => by
    rw [cell_of_row _ b 0 _ _ _ ((Below.heap_alloc _ _ b (Array.getElem?_eq_some_iff.1 hb).1).trans hb)]; rfl
  go_enter Tryz.func177, Tryz.ntmps177
  go_wp2_with fail
  go_ret
  exact ⟨by rw [← eqB_list]; rfl, tk_alloc w _⟩
set_option maxRecDepth 100000 in
set_option maxHeartbeats 4000000 in
theorem idxV_any {w : World} {v : Value} {L : List Ip.Srv} (h : RoSrv w v L) (n : ByteArray) {b : Nat} (hb : w.heap[b]? = some (.cells #[.string n] 9 (0, 0))) :
    Calls Tryz.prog 189 #[v, .func (.func 177) #[] #[.pointer (some ⟨b, 0, none⟩)]] w fun e w' => e = .returned (idxV (L.findIdx? fun r => Ip.eqB r.name n)) ∧ Below w.heap.size w w' := by
  have H := Lib.hid h
  have HB := Lib.hid hb
  obtain ⟨p0, k0, rfl, hl⟩ := ro_len h
  clear h hb
  go_enter Tryz.func189, Tryz.ntmps189
  go_wp2_with fail
  go_loopw [8] (fun kv wr => ∃ k : Nat, k ≤ L.length ∧ kv = .int .i64 (k : Nat) ∧ Hid (Below w.heap.size w wr ∧ ∀ j (hj : j < L.length), j < k → Ip.eqB L[j].name n = false)) (fun kv _ => L.length - (intOf kv).toNat)
  case atStart => exact ⟨0, Nat.zero_le _, rfl, Lib.hid ⟨Below.refl _ _, fun j _ hj => absurd hj (Nat.not_lt_zero _)⟩⟩
  case round =>
    obtain ⟨k, hk, rfl, HR⟩ := hrel
    by_cases hlt : k < L.length
    · have i1 : (k : Int) < (L.length : Int) := by omega
      have i2 : (0 : Int) ≤ (k : Int) := by omega
      obtain ⟨A, cc, p, c, e3, hA, c0, c1, -, -, -⟩ := srv_at (H.out.below HR.out.1) hlt
      cases e3
      have hb1 := Lib.hid ((HR.out.1.block b (Array.getElem?_eq_some_iff.1 HB.out).1).trans HB.out)
      go_wp2_with fail
      refine Calls.mono (eqV_any n hb1.out L[k] p c) ?_
      rintro e w1 ⟨rfl, hb2⟩
      have HB2 := Lib.hid (HR.out.1.trans (hb2.mono HR.out.1.size))
      clear hb2 c0 c1
      cases hq : Ip.eqB L[k].name n with
      | true =>
        have HF : Hid (L.findIdx? (fun r => Ip.eqB r.name n) = some k) := Lib.hid (idx_some hlt HR.out.2 hq)
        clear hq
        go_wp2_with fail
        go_ret
        exact ⟨by rw [HF.out]; rfl, HB2.out⟩
      | false =>
        have HQ := Lib.hid hq
        clear hq
        go_wp2_with fail
        go_roundw
        case rel => exact ⟨k + 1, by omega, by go_num, Lib.hid ⟨HB2.out, fun j hj hjk => by
          by_cases e : j < k
          · exact HR.out.2 j hj e
          · obtain rfl : j = k := by omega
            exact HQ.out⟩⟩
        case measure => simp [intOf]; omega
    · obtain rfl : k = L.length := by omega
      have i1 : ¬ (L.length : Int) < (L.length : Int) := by omega
      go_wp2_with fail
      go_ret
      exact ⟨by rw [idx_none (L := L) fun j hj => HR.out.2 j hj hj]; rfl, HR.out.1⟩
theorem firstV_res {W : World} {tmps : Array Value} {b : Nat} {x0 x1 x9 : Value} (h4 : tmps[4]? = some (.pointer (some ⟨b, 0, none⟩))) (h5 : tmps[5]? = some x9) (h : W.heap[b]? = some (.cells #[x0, x1] 98 (0, 0))) :
    (results Tryz.f176 tmps).run Tryz.prog W = .ok (.tuple #[.agg #[x0, x1], x9]) W := by
  obtain ⟨c0, c1⟩ := cells2 h
  simp [results, Tryz.results176, h4, h5, go_sem, c0, c1]
set_option maxRecDepth 100000 in
set_option maxHeartbeats 4000000 in
theorem firstV_any {u w : World} {v : Value} {L : List Ip.Srv} (h : RoSrv u v L) (hu : Kp u w) (n : ByteArray) {b : Nat} (hb : w.heap[b]? = some (.cells #[.string n] 9 (0, 0))) :
    Calls Tryz.prog 176 #[v, .func (.func 177) #[] #[.pointer (some ⟨b, 0, none⟩)]] w (Fnd SrvV noSrv u (L.find? fun r => Ip.eqB r.name n) w) := by
  obtain ⟨W0, hW0⟩ : ∃ W0, W0 = w.alloc (.cells #[.string ⟨#[]⟩, .slice none 0 0] 98) := ⟨_, rfl⟩
  have hb0 : Below w.heap.size w W0 := by rw [hW0]; exact tk_alloc w _
  have hz0 : W0.heap[w.heap.size]? = some (.cells #[.string ⟨#[]⟩, .slice none 0 0] 98 (0, 0)) := by rw [hW0]; exact heap_alloc_new w _
  have H0 := Lib.hid h
  have HU := Lib.hid hu
  have H := Lib.hid (h.kp (hu.below hb0))
  have HB := Lib.hid ((hb0.block b (Array.getElem?_eq_some_iff.1 hb).1).trans hb)
  have HX : Hid (∀ W, Below W0.heap.size W0 W → W.heap[w.heap.size]? = some (.cells #[.string ⟨#[]⟩, .slice none 0 0] 98 (0, 0)) ∧ Below w.heap.size w W) := Lib.hid fun W hW =>
    ⟨(hW.block _ (Array.getElem?_eq_some_iff.1 hz0).1).trans hz0, hb0.trans (hW.mono hb0.size)⟩
  obtain ⟨p0, k0, rfl, hl⟩ := ro_len h
  clear h hb hb0 hz0 hu
  go_enter Tryz.func176, Tryz.ntmps176
  go_upto_region 1 with fail
  rw [← hW0]
  clear hW0
  go_wp2_with fail
  refine (idxV_any H.out n HB.out).mono ?_
  rintro e w1 ⟨rfl, hb1⟩
  obtain ⟨hz, hB⟩ := HX.out _ hb1
  have HZ := Lib.hid hz
  have HBW := Lib.hid hB
  clear hb1
  cases hq : L.findIdx? fun r => Ip.eqB r.name n with
  | some i =>
    obtain ⟨hlt, hf⟩ := find_idx hq
    have HF := Lib.hid hf
    clear hq hf
    rw [show idxV (some i) = .int .i64 ((i : Nat) : Int) from rfl]
    have i1 : (i : Int) < (L.length : Int) := by omega
    have i2 : (0 : Int) ≤ (i : Int) := by omega
    obtain ⟨A, cc, p, c, e3, hA, c0, c1, hin, hs, -⟩ := srv_at H0.out hlt
    cases e3
    replace c0 := ((HU.out.below HBW.out).cell (by exact (tadd_block A _).symm ▸ hA)).trans c0; replace c1 := ((HU.out.below HBW.out).cell (by exact (tadd_block A _).symm ▸ hA)).trans c1
    obtain ⟨z0, z1⟩ := cells2 hz
    have f0 := frozen2 hz 0; have f1 := frozen2 hz 1
    have HI := Lib.hid hin
    have HS := Lib.hid hs
    clear hz hB hin hs
    go_wp2_with fail
    refine bodyPost_ret (firstV_res rfl rfl (set_two _ _ HZ.out)) rfl ?_
    rw [HF.out]
    have hbW : Below w.heap.size w (((w1).setCell ⟨w.heap.size, 0, none⟩ (.string L[i].name)).setCell ⟨w.heap.size, 1, none⟩ (.slice p L[i].methods.length c)) := ((HBW.out).setCell (by exact Nat.le_refl w.heap.size) _).setCell (by exact Nat.le_refl w.heap.size) _
    exact ⟨_, rfl, ⟨_, _, rfl, HI.out, HS.out⟩, hbW⟩
  | none =>
    have HF := Lib.hid (find_idx_none hq)
    clear hq
    rw [show idxV none = .int .i64 (-1) from rfl]
    obtain ⟨W2, hW2⟩ : ∃ W2, W2 = w1.alloc (.cells #[.string ⟨#[]⟩, .slice none 0 0] 98) := ⟨_, rfl⟩
    have hb2 : Below w1.heap.size w1 W2 := by rw [hW2]; exact tk_alloc w1 _
    have hn : W2.heap[w1.heap.size]? = some (.cells #[.string ⟨#[]⟩, .slice none 0 0] 98 (0, 0)) := by rw [hW2]; exact heap_alloc_new w1 _
    have hz2 := (hb2.block _ (Array.getElem?_eq_some_iff.1 hz).1).trans hz
    have HB2 := Lib.hid (hB.trans (hb2.mono hB.size))
    obtain ⟨z0, z1⟩ := cells2 hz2
    obtain ⟨n0, n1⟩ := cells2 hn
    have f0 := frozen2 hz2 0; have f1 := frozen2 hz2 1
    have HZ2 := Lib.hid hz2
    clear hz hB hb2 hn hz2
    go_upto_region 5 with fail
    rw [← hW2]
    clear hW2
    go_wp2_with fail
    refine bodyPost_ret (firstV_res rfl rfl (set_two _ _ HZ2.out)) rfl ?_
    rw [HF.out]
    have hbW : Below w.heap.size w (((W2).setCell ⟨w.heap.size, 0, none⟩ (.string ⟨#[]⟩)).setCell ⟨w.heap.size, 1, none⟩ (.slice none 0 0)) := ((HB2.out).setCell (by exact Nat.le_refl w.heap.size) _).setCell (by exact Nat.le_refl w.heap.size) _
    exact ⟨_, rfl, SrvV.none _, hbW⟩

/-! ### api.Method -/
set_option maxRecDepth 100000 in
set_option maxHeartbeats 1000000 in
theorem eqM_any {w : World} (n : ByteArray) {b : Nat} (hb : w.heap[b]? = some (.cells #[.string n] 9 (0, 0))) (x : Ip.Mth) : Calls Tryz.prog 188 #[.agg #[.string x.name, .string x.arg, .int .u8 (x.result : Nat), .string x.effect, .string x.undo], .pointer (some ⟨b, 0, none⟩)] w fun e w' => e = .returned (.bool (Ip.eqB x.name n)) ∧ Below w.heap.size w w' := by
  have hc : ∀ o, (w.alloc o).cell? ⟨b, 0, none⟩ = some (.string n) := fun o => by
    rw [cell_of_row _ b 0 _ _ _ ((Below.heap_alloc _ _ b (Array.getElem?_eq_some_iff.1 hb).1).trans hb)]; rfl
  go_enter Tryz.func188, Tryz.ntmps188
  go_wp2_with fail
  go_ret
  exact ⟨by rw [← eqB_list]; rfl, tk_alloc w _⟩
set_option maxRecDepth 100000 in
set_option maxHeartbeats 4000000 in
theorem idxM_any {w : World} {v : Value} {L : List Ip.Mth} (h : RoMth w v L) (n : ByteArray) {b : Nat} (hb : w.heap[b]? = some (.cells #[.string n] 9 (0, 0))) :
    Calls Tryz.prog 193 #[v, .func (.func 188) #[] #[.pointer (some ⟨b, 0, none⟩)]] w fun e w' => e = .returned (idxV (L.findIdx? fun r => Ip.eqB r.name n)) ∧ Below w.heap.size w w' := by
  have H := Lib.hid h
  have HB := Lib.hid hb
  obtain ⟨p0, k0, rfl, hl⟩ := ro_len h
  clear h hb
  go_enter Tryz.func193, Tryz.ntmps193
  go_wp2_with fail
  go_loopw [8] (fun kv wr => ∃ k : Nat, k ≤ L.length ∧ kv = .int .i64 (k : Nat) ∧ Hid (Below w.heap.size w wr ∧ ∀ j (hj : j < L.length), j < k → Ip.eqB L[j].name n = false)) (fun kv _ => L.length - (intOf kv).toNat)
  case atStart => exact ⟨0, Nat.zero_le _, rfl, Lib.hid ⟨Below.refl _ _, fun j _ hj => absurd hj (Nat.not_lt_zero _)⟩⟩
  case round =>
    obtain ⟨k, hk, rfl, HR⟩ := hrel
    by_cases hlt : k < L.length
    · have i1 : (k : Int) < (L.length : Int) := by omega
      have i2 : (0 : Int) ≤ (k : Int) := by omega
      obtain ⟨A, cc, e3, hA, c0, c1, c2, c3, c4, -⟩ := mth_at (H.out.below HR.out.1) hlt
      cases e3
      have hb1 := Lib.hid ((HR.out.1.block b (Array.getElem?_eq_some_iff.1 HB.out).1).trans HB.out)
      go_wp2_with fail
      refine Calls.mono (eqM_any n hb1.out L[k]) ?_
      rintro e w1 ⟨rfl, hb2⟩
      have HB2 := Lib.hid (HR.out.1.trans (hb2.mono HR.out.1.size))
      clear hb2 c0 c1 c2 c3 c4
      cases hq : Ip.eqB L[k].name n with
      | true =>
        have HF : Hid (L.findIdx? (fun r => Ip.eqB r.name n) = some k) := Lib.hid (idx_some hlt HR.out.2 hq)
        clear hq
        go_wp2_with fail
        go_ret
        exact ⟨by rw [HF.out]; rfl, HB2.out⟩
      | false =>
        have HQ := Lib.hid hq
        clear hq
        go_wp2_with fail
        go_roundw
        case rel => exact ⟨k + 1, by omega, by go_num, Lib.hid ⟨HB2.out, fun j hj hjk => by
          by_cases e : j < k
          · exact HR.out.2 j hj e
          · obtain rfl : j = k := by omega
            exact HQ.out⟩⟩
        case measure => simp [intOf]; omega
    · obtain rfl : k = L.length := by omega
      have i1 : ¬ (L.length : Int) < (L.length : Int) := by omega
      go_wp2_with fail
      go_ret
      exact ⟨by rw [idx_none (L := L) fun j hj => HR.out.2 j hj hj]; rfl, HR.out.1⟩
theorem firstM_res {W : World} {tmps : Array Value} {b : Nat} {x0 x1 x2 x3 x4 x9 : Value} (h4 : tmps[4]? = some (.pointer (some ⟨b, 0, none⟩))) (h5 : tmps[5]? = some x9) (h : W.heap[b]? = some (.cells #[x0, x1, x2, x3, x4] 100 (0, 0))) :
    (results Tryz.f187 tmps).run Tryz.prog W = .ok (.tuple #[.agg #[x0, x1, x2, x3, x4], x9]) W := by
  obtain ⟨c0, c1, c2, c3, c4⟩ := cells5 h
  simp [results, Tryz.results187, h4, h5, go_sem, c0, c1, c2, c3, c4]
set_option maxRecDepth 100000 in
set_option maxHeartbeats 4000000 in
theorem firstM_any {u w : World} {v : Value} {L : List Ip.Mth} (h : RoMth u v L) (hu : Kp u w) (n : ByteArray) {b : Nat} (hb : w.heap[b]? = some (.cells #[.string n] 9 (0, 0))) :
    Calls Tryz.prog 187 #[v, .func (.func 188) #[] #[.pointer (some ⟨b, 0, none⟩)]] w (Fnd MthV noMth u (L.find? fun r => Ip.eqB r.name n) w) := by
  obtain ⟨W0, hW0⟩ : ∃ W0, W0 = w.alloc (.cells #[.string ⟨#[]⟩, .string ⟨#[]⟩, .int .u8 0, .string ⟨#[]⟩, .string ⟨#[]⟩] 100) := ⟨_, rfl⟩
  have hb0 : Below w.heap.size w W0 := by rw [hW0]; exact tk_alloc w _
  have hz0 : W0.heap[w.heap.size]? = some (.cells #[.string ⟨#[]⟩, .string ⟨#[]⟩, .int .u8 0, .string ⟨#[]⟩, .string ⟨#[]⟩] 100 (0, 0)) := by rw [hW0]; exact heap_alloc_new w _
  have H0 := Lib.hid h
  have HU := Lib.hid hu
  have H := Lib.hid (h.kp (hu.below hb0))
  have HB := Lib.hid ((hb0.block b (Array.getElem?_eq_some_iff.1 hb).1).trans hb)
  have HX : Hid (∀ W, Below W0.heap.size W0 W → W.heap[w.heap.size]? = some (.cells #[.string ⟨#[]⟩, .string ⟨#[]⟩, .int .u8 0, .string ⟨#[]⟩, .string ⟨#[]⟩] 100 (0, 0)) ∧ Below w.heap.size w W) := Lib.hid fun W hW =>
    ⟨(hW.block _ (Array.getElem?_eq_some_iff.1 hz0).1).trans hz0, hb0.trans (hW.mono hb0.size)⟩
  obtain ⟨p0, k0, rfl, hl⟩ := ro_len h
  clear h hb hb0 hz0 hu
  go_enter Tryz.func187, Tryz.ntmps187
  go_upto_region 1 with fail
  rw [← hW0]
  clear hW0
  go_wp2_with fail
  refine (idxM_any H.out n HB.out).mono ?_
  rintro e w1 ⟨rfl, hb1⟩
  obtain ⟨hz, hB⟩ := HX.out _ hb1
  have HZ := Lib.hid hz
  have HBW := Lib.hid hB
  clear hb1
  cases hq : L.findIdx? fun r => Ip.eqB r.name n with
  | some i =>
    obtain ⟨hlt, hf⟩ := find_idx hq
    have HF := Lib.hid hf
    clear hq hf
    rw [show idxV (some i) = .int .i64 ((i : Nat) : Int) from rfl]
    have i1 : (i : Int) < (L.length : Int) := by omega
    have i2 : (0 : Int) ≤ (i : Int) := by omega
    obtain ⟨A, cc, e3, hA, c0, c1, c2, c3, c4, hin⟩ := mth_at H0.out hlt
    cases e3
    replace c0 := ((HU.out.below HBW.out).cell (by exact (tadd_block A _).symm ▸ hA)).trans c0; replace c1 := ((HU.out.below HBW.out).cell (by exact (tadd_block A _).symm ▸ hA)).trans c1; replace c2 := ((HU.out.below HBW.out).cell (by exact (tadd_block A _).symm ▸ hA)).trans c2; replace c3 := ((HU.out.below HBW.out).cell (by exact (tadd_block A _).symm ▸ hA)).trans c3; replace c4 := ((HU.out.below HBW.out).cell (by exact (tadd_block A _).symm ▸ hA)).trans c4
    obtain ⟨z0, z1, z2, z3, z4⟩ := cells5 hz
    have f0 := frozen2 hz 0; have f1 := frozen2 hz 1; have f2 := frozen2 hz 2; have f3 := frozen2 hz 3; have f4 := frozen2 hz 4
    have HI := Lib.hid hin
    
    clear hz hB hin 
    go_wp2_with fail
    refine bodyPost_ret (firstM_res rfl rfl (set_five _ _ _ _ _ HZ.out)) rfl ?_
    rw [HF.out]
    have hbW : Below w.heap.size w ((((((w1).setCell ⟨w.heap.size, 0, none⟩ (.string L[i].name)).setCell ⟨w.heap.size, 1, none⟩ (.string L[i].arg)).setCell ⟨w.heap.size, 2, none⟩ (.int .u8 (L[i].result : Nat))).setCell ⟨w.heap.size, 3, none⟩ (.string L[i].effect)).setCell ⟨w.heap.size, 4, none⟩ (.string L[i].undo)) := (((((HBW.out).setCell (by exact Nat.le_refl w.heap.size) _).setCell (by exact Nat.le_refl w.heap.size) _).setCell (by exact Nat.le_refl w.heap.size) _).setCell (by exact Nat.le_refl w.heap.size) _).setCell (by exact Nat.le_refl w.heap.size) _
    exact ⟨_, rfl, ⟨rfl, HI.out⟩, hbW⟩
  | none =>
    have HF := Lib.hid (find_idx_none hq)
    clear hq
    rw [show idxV none = .int .i64 (-1) from rfl]
    obtain ⟨W2, hW2⟩ : ∃ W2, W2 = w1.alloc (.cells #[.string ⟨#[]⟩, .string ⟨#[]⟩, .int .u8 0, .string ⟨#[]⟩, .string ⟨#[]⟩] 100) := ⟨_, rfl⟩
    have hb2 : Below w1.heap.size w1 W2 := by rw [hW2]; exact tk_alloc w1 _
    have hn : W2.heap[w1.heap.size]? = some (.cells #[.string ⟨#[]⟩, .string ⟨#[]⟩, .int .u8 0, .string ⟨#[]⟩, .string ⟨#[]⟩] 100 (0, 0)) := by rw [hW2]; exact heap_alloc_new w1 _
    have hz2 := (hb2.block _ (Array.getElem?_eq_some_iff.1 hz).1).trans hz
    have HB2 := Lib.hid (hB.trans (hb2.mono hB.size))
    obtain ⟨z0, z1, z2, z3, z4⟩ := cells5 hz2
    obtain ⟨n0, n1, n2, n3, n4⟩ := cells5 hn
    have f0 := frozen2 hz2 0; have f1 := frozen2 hz2 1; have f2 := frozen2 hz2 2; have f3 := frozen2 hz2 3; have f4 := frozen2 hz2 4
    have HZ2 := Lib.hid hz2
    clear hz hB hb2 hn hz2
    go_upto_region 5 with fail
    rw [← hW2]
    clear hW2
    go_wp2_with fail
    refine bodyPost_ret (firstM_res rfl rfl (set_five _ _ _ _ _ HZ2.out)) rfl ?_
    rw [HF.out]
    have hbW : Below w.heap.size w ((((((W2).setCell ⟨w.heap.size, 0, none⟩ (.string ⟨#[]⟩)).setCell ⟨w.heap.size, 1, none⟩ (.string ⟨#[]⟩)).setCell ⟨w.heap.size, 2, none⟩ (.int .u8 0)).setCell ⟨w.heap.size, 3, none⟩ (.string ⟨#[]⟩)).setCell ⟨w.heap.size, 4, none⟩ (.string ⟨#[]⟩)) := (((((HB2.out).setCell (by exact Nat.le_refl w.heap.size) _).setCell (by exact Nat.le_refl w.heap.size) _).setCell (by exact Nat.le_refl w.heap.size) _).setCell (by exact Nat.le_refl w.heap.size) _).setCell (by exact Nat.le_refl w.heap.size) _
    exact ⟨_, rfl, MthV.none _, hbW⟩

/-! ### api.Field -/
set_option maxRecDepth 100000 in
set_option maxHeartbeats 1000000 in
theorem eqF_any {w : World} (n : ByteArray) {b : Nat} (hb : w.heap[b]? = some (.cells #[.string n] 9 (0, 0))) (x : Ip.Fld) (p : Option Addr) (c : Nat) : Calls Tryz.prog 185 #[.agg #[.string x.name, .slice p x.type.length c], .pointer (some ⟨b, 0, none⟩)] w fun e w' => e = .returned (.bool (Ip.eqB x.name n)) ∧ Below w.heap.size w w' := by
  have hc : ∀ o, (w.alloc o).cell? ⟨b, 0, none⟩ = some (.string n) := fun o => by
    rw [cell_of_row _ b 0 _ _ _ ((Below.heap_alloc _ _ b (Array.getElem?_eq_some_iff.1 hb).1).trans hb)]; rfl
  go_enter Tryz.func185, Tryz.ntmps185
  go_wp2_with fail
  go_ret
  exact ⟨by rw [← eqB_list]; rfl, tk_alloc w _⟩
set_option maxRecDepth 100000 in
set_option maxHeartbeats 4000000 in
theorem idxF_any {w : World} {v : Value} {L : List Ip.Fld} (h : RoFld w v L) (n : ByteArray) {b : Nat} (hb : w.heap[b]? = some (.cells #[.string n] 9 (0, 0))) :
    Calls Tryz.prog 192 #[v, .func (.func 185) #[] #[.pointer (some ⟨b, 0, none⟩)]] w fun e w' => e = .returned (idxV (L.findIdx? fun r => Ip.eqB r.name n)) ∧ Below w.heap.size w w' := by
  have H := Lib.hid h
  have HB := Lib.hid hb
  obtain ⟨p0, k0, rfl, hl⟩ := ro_len h
  clear h hb
  go_enter Tryz.func192, Tryz.ntmps192
  go_wp2_with fail
  go_loopw [8] (fun kv wr => ∃ k : Nat, k ≤ L.length ∧ kv = .int .i64 (k : Nat) ∧ Hid (Below w.heap.size w wr ∧ ∀ j (hj : j < L.length), j < k → Ip.eqB L[j].name n = false)) (fun kv _ => L.length - (intOf kv).toNat)
  case atStart => exact ⟨0, Nat.zero_le _, rfl, Lib.hid ⟨Below.refl _ _, fun j _ hj => absurd hj (Nat.not_lt_zero _)⟩⟩
  case round =>
    obtain ⟨k, hk, rfl, HR⟩ := hrel
    by_cases hlt : k < L.length
    · have i1 : (k : Int) < (L.length : Int) := by omega
      have i2 : (0 : Int) ≤ (k : Int) := by omega
      obtain ⟨A, cc, p, c, e3, hA, c0, c1, -, -, -⟩ := fld_at (H.out.below HR.out.1) hlt
      cases e3
      have hb1 := Lib.hid ((HR.out.1.block b (Array.getElem?_eq_some_iff.1 HB.out).1).trans HB.out)
      go_wp2_with fail
      refine Calls.mono (eqF_any n hb1.out L[k] p c) ?_
      rintro e w1 ⟨rfl, hb2⟩
      have HB2 := Lib.hid (HR.out.1.trans (hb2.mono HR.out.1.size))
      clear hb2 c0 c1
      cases hq : Ip.eqB L[k].name n with
      | true =>
        have HF : Hid (L.findIdx? (fun r => Ip.eqB r.name n) = some k) := Lib.hid (idx_some hlt HR.out.2 hq)
        clear hq
        go_wp2_with fail
        go_ret
        exact ⟨by rw [HF.out]; rfl, HB2.out⟩
      | false =>
        have HQ := Lib.hid hq
        clear hq
        go_wp2_with fail
        go_roundw
        case rel => exact ⟨k + 1, by omega, by go_num, Lib.hid ⟨HB2.out, fun j hj hjk => by
          by_cases e : j < k
          · exact HR.out.2 j hj e
          · obtain rfl : j = k := by omega
            exact HQ.out⟩⟩
        case measure => simp [intOf]; omega
    · obtain rfl : k = L.length := by omega
      have i1 : ¬ (L.length : Int) < (L.length : Int) := by omega
      go_wp2_with fail
      go_ret
      exact ⟨by rw [idx_none (L := L) fun j hj => HR.out.2 j hj hj]; rfl, HR.out.1⟩
theorem firstF_res {W : World} {tmps : Array Value} {b : Nat} {x0 x1 x9 : Value} (h4 : tmps[4]? = some (.pointer (some ⟨b, 0, none⟩))) (h5 : tmps[5]? = some x9) (h : W.heap[b]? = some (.cells #[x0, x1] 39 (0, 0))) :
    (results Tryz.f184 tmps).run Tryz.prog W = .ok (.tuple #[.agg #[x0, x1], x9]) W := by
  obtain ⟨c0, c1⟩ := cells2 h
  simp [results, Tryz.results184, h4, h5, go_sem, c0, c1]
set_option maxRecDepth 100000 in
set_option maxHeartbeats 4000000 in
theorem firstF_any {u w : World} {v : Value} {L : List Ip.Fld} (h : RoFld u v L) (hu : Kp u w) (n : ByteArray) {b : Nat} (hb : w.heap[b]? = some (.cells #[.string n] 9 (0, 0))) :
    Calls Tryz.prog 184 #[v, .func (.func 185) #[] #[.pointer (some ⟨b, 0, none⟩)]] w (Fnd FldV noFld u (L.find? fun r => Ip.eqB r.name n) w) := by
  obtain ⟨W0, hW0⟩ : ∃ W0, W0 = w.alloc (.cells #[.string ⟨#[]⟩, .slice none 0 0] 39) := ⟨_, rfl⟩
  have hb0 : Below w.heap.size w W0 := by rw [hW0]; exact tk_alloc w _
  have hz0 : W0.heap[w.heap.size]? = some (.cells #[.string ⟨#[]⟩, .slice none 0 0] 39 (0, 0)) := by rw [hW0]; exact heap_alloc_new w _
  have H0 := Lib.hid h
  have HU := Lib.hid hu
  have H := Lib.hid (h.kp (hu.below hb0))
  have HB := Lib.hid ((hb0.block b (Array.getElem?_eq_some_iff.1 hb).1).trans hb)
  have HX : Hid (∀ W, Below W0.heap.size W0 W → W.heap[w.heap.size]? = some (.cells #[.string ⟨#[]⟩, .slice none 0 0] 39 (0, 0)) ∧ Below w.heap.size w W) := Lib.hid fun W hW =>
    ⟨(hW.block _ (Array.getElem?_eq_some_iff.1 hz0).1).trans hz0, hb0.trans (hW.mono hb0.size)⟩
  obtain ⟨p0, k0, rfl, hl⟩ := ro_len h
  clear h hb hb0 hz0 hu
  go_enter Tryz.func184, Tryz.ntmps184
  go_upto_region 1 with fail
  rw [← hW0]
  clear hW0
  go_wp2_with fail
  refine (idxF_any H.out n HB.out).mono ?_
  rintro e w1 ⟨rfl, hb1⟩
  obtain ⟨hz, hB⟩ := HX.out _ hb1
  have HZ := Lib.hid hz
  have HBW := Lib.hid hB
  clear hb1
  cases hq : L.findIdx? fun r => Ip.eqB r.name n with
  | some i =>
    obtain ⟨hlt, hf⟩ := find_idx hq
    have HF := Lib.hid hf
    clear hq hf
    rw [show idxV (some i) = .int .i64 ((i : Nat) : Int) from rfl]
    have i1 : (i : Int) < (L.length : Int) := by omega
    have i2 : (0 : Int) ≤ (i : Int) := by omega
    obtain ⟨A, cc, p, c, e3, hA, c0, c1, hin, hs, -⟩ := fld_at H0.out hlt
    cases e3
    replace c0 := ((HU.out.below HBW.out).cell (by exact (tadd_block A _).symm ▸ hA)).trans c0; replace c1 := ((HU.out.below HBW.out).cell (by exact (tadd_block A _).symm ▸ hA)).trans c1
    obtain ⟨z0, z1⟩ := cells2 hz
    have f0 := frozen2 hz 0; have f1 := frozen2 hz 1
    have HI := Lib.hid hin
    have HS := Lib.hid hs
    clear hz hB hin hs
    go_wp2_with fail
    refine bodyPost_ret (firstF_res rfl rfl (set_two _ _ HZ.out)) rfl ?_
    rw [HF.out]
    have hbW : Below w.heap.size w (((w1).setCell ⟨w.heap.size, 0, none⟩ (.string L[i].name)).setCell ⟨w.heap.size, 1, none⟩ (.slice p L[i].type.length c)) := ((HBW.out).setCell (by exact Nat.le_refl w.heap.size) _).setCell (by exact Nat.le_refl w.heap.size) _
    exact ⟨_, rfl, ⟨_, _, rfl, HI.out, HS.out⟩, hbW⟩
  | none =>
    have HF := Lib.hid (find_idx_none hq)
    clear hq
    rw [show idxV none = .int .i64 (-1) from rfl]
    obtain ⟨W2, hW2⟩ : ∃ W2, W2 = w1.alloc (.cells #[.string ⟨#[]⟩, .slice none 0 0] 39) := ⟨_, rfl⟩
    have hb2 : Below w1.heap.size w1 W2 := by rw [hW2]; exact tk_alloc w1 _
    have hn : W2.heap[w1.heap.size]? = some (.cells #[.string ⟨#[]⟩, .slice none 0 0] 39 (0, 0)) := by rw [hW2]; exact heap_alloc_new w1 _
    have hz2 := (hb2.block _ (Array.getElem?_eq_some_iff.1 hz).1).trans hz
    have HB2 := Lib.hid (hB.trans (hb2.mono hB.size))
    obtain ⟨z0, z1⟩ := cells2 hz2
    obtain ⟨n0, n1⟩ := cells2 hn
    have f0 := frozen2 hz2 0; have f1 := frozen2 hz2 1
    have HZ2 := Lib.hid hz2
    clear hz hB hb2 hn hz2
    go_upto_region 5 with fail
    rw [← hW2]
    clear hW2
    go_wp2_with fail
    refine bodyPost_ret (firstF_res rfl rfl (set_two _ _ HZ2.out)) rfl ?_
    rw [HF.out]
    have hbW : Below w.heap.size w (((W2).setCell ⟨w.heap.size, 0, none⟩ (.string ⟨#[]⟩)).setCell ⟨w.heap.size, 1, none⟩ (.slice none 0 0)) := ((HB2.out).setCell (by exact Nat.le_refl w.heap.size) _).setCell (by exact Nat.le_refl w.heap.size) _
    exact ⟨_, rfl, FldV.none _, hbW⟩
end Go.Proofs.YtnkdhmoocomjfaaGreatDoor
