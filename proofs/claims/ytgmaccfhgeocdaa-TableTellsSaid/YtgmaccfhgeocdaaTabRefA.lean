/-
  Walks over the document's answer for tables of entries: Room, Get, Same. Conditions: those in the theorems.
-/
import Derived.Test.YtgmaccfhgeocdaaTabBack
import Derived.Deep.QuietTactic
import Derived.BigQuiet
namespace Go.Proofs.Ytgmaccfhgeocdaa
open Go.RowKit Tb

theorem room_take {l : List En} {k : Nat} (hk : k < l.length) : room (l.take (k + 1)) = room (l.take k) + (2 * l[k].key.size + l[k].value.size + 24) := by
  unfold room
  rw [List.take_succ_eq_append_getElem hk, List.map_append, List.sum_append]
  simp; omega
theorem room_most {l : List En} (h : ∀ e ∈ l, Short e) : room l ≤ 64 + 16664 * l.length := by
  induction l with
  | nil => simp [room]
  | cons e l ih =>
    have h1 := h e List.mem_cons_self
    have h2 := ih fun x hx => h x (List.mem_cons_of_mem _ hx)
    unfold room at *
    unfold Short at h1
    simp only [List.map_cons, List.sum_cons, List.length_cons]
    omega
set_option maxRecDepth 100000 in
set_option maxHeartbeats 4000000 in
theorem room_any {w : World} {p : Option Addr} {cap : Nat} {l : List En} (hl : EntsAt w p l) (hf : Fits l) :
    Calls Try.prog 18 #[.slice p l.length cap] w fun e w' => e = .returned (.int .i64 (room l : Nat)) ∧ Below w.heap.size w w' := by
  have HL := Lib.hid hl
  have HF := Lib.hid hf
  clear hl hf
  go_enter Try.func18, Try.ntmps18
  go_wp2_with fail
  go_loopw [3, 4] (fun nv kv wr => ∃ k q : Nat, k ≤ l.length ∧ kv = .int .i64 (k : Nat) ∧ nv = .int .i64 (q : Nat) ∧ Hid (q = room (l.take k) ∧ Below w.heap.size w wr)) (fun _ kv _ => l.length - (intOf kv).toNat)
  case atStart => exact ⟨0, 64, Nat.zero_le _, rfl, rfl, Lib.hid ⟨by simp [room], Below.refl _ _⟩⟩
  case round =>
    obtain ⟨k, q, hk, rfl, rfl, H⟩ := hrel
    have hq : q ≤ 80000000 := by
      have h1 := room_most (l := l.take k) fun e he => HF.out.2.1 e (List.mem_of_mem_take he)
      rw [List.length_take, Nat.min_eq_left hk] at h1
      have := H.out.1; have := HF.out.1; omega
    by_cases hlt : k < l.length
    · have i1 : (k : Int) < (l.length : Int) := by omega
      have i2 : (0 : Int) ≤ (k : Int) := by omega
      have i3 : (l.length : Int) ≤ 4096 := by have := HF.out.1; omega
      obtain ⟨A, rfl, c0, c1, c2, hin⟩ := HL.out.at H.out.2 hlt
      have hs := HF.out.2.1 l[k] (List.getElem_mem _)
      unfold Short at hs
      have HRT := Lib.hid (room_take hlt)
      generalize l[k] = x at *
      obtain ⟨b1, b2⟩ := hs
      have w0 : IntKind.i64.wrap (2 * (x.key.size : Int)) = 2 * (x.key.size : Int) := IntWalk.i64_in _ (by omega)
      have w1 : IntKind.i64.wrap ((q : Int) + 2 * (x.key.size : Int)) = (q : Int) + 2 * (x.key.size : Int) := IntWalk.i64_in _ (by omega)
      have w2 : IntKind.i64.wrap ((q : Int) + 2 * (x.key.size : Int) + (x.value.size : Int)) = (q : Int) + 2 * (x.key.size : Int) + (x.value.size : Int) := IntWalk.i64_in _ (by omega)
      have w3 : IntKind.i64.wrap ((q : Int) + 2 * (x.key.size : Int) + (x.value.size : Int) + 24) = (q : Int) + 2 * (x.key.size : Int) + (x.value.size : Int) + 24 := IntWalk.i64_in _ (by omega)
      go_wp2_with fail
      go_quiet (fail)
      go_wp2_with fail
      exact ⟨⟨k + 1, q + (2 * x.key.size + x.value.size + 24), by omega, by go_num, by go_num, Lib.hid ⟨by rw [HRT.out, H.out.1], below_drewN H.out.2 _⟩⟩, by simp only [intOf]; omega⟩
    · obtain rfl : k = l.length := by omega
      have i1 : ¬ (l.length : Int) < (l.length : Int) := by omega
      have e := H.out.1
      rw [List.take_length] at e
      subst e
      go_wp2_with fail
      go_ret
      exact ⟨rfl, H.out.2⟩
/-! ### Same, of two rows of the same entries -/
set_option maxHeartbeats 4000000 in
theorem same_any {p q : Option Addr} {cap cap2 : Nat} {l : List En} {w : World} (hn : l.length ≤ 1000000) (hp : EntsAt w p l) (hq : EntsAt w q l) :
    Calls Try.prog 21 #[.slice p l.length cap, .slice q l.length cap2] w fun e w' => e = .returned (.bool true) ∧ Below w.heap.size w w' := by
  have HP := Lib.hid hp
  have HQ := Lib.hid hq
  clear hp hq
  go_enter Try.func21, Try.ntmps21
  go_wp2_with fail
  go_loopw [5] (fun i wr => ∃ k : Nat, k ≤ l.length ∧ i = .int .i64 (k : Nat) ∧ Hid (Below w.heap.size w wr)) (fun i _ => l.length - (intOf i).toNat)
  case atStart => exact ⟨0, Nat.zero_le _, rfl, Lib.hid (Below.refl _ _)⟩
  case round =>
    obtain ⟨k, hk, rfl, HB⟩ := hrel
    by_cases hlt : k < l.length
    · obtain ⟨A, rfl, a0, a1, a2, -⟩ := HP.out.at HB.out hlt
      obtain ⟨B, rfl, b0, b1, b2, -⟩ := HQ.out.at HB.out hlt
      have i0 : (k : Int) < (l.length : Int) := by omega
      have i1 : (0 : Int) ≤ (k : Int) := by omega
      generalize l[k] = c at *
      go_wp2_with fail
      go_quiet (fail)
      go_wp2_with fail
      go_roundw
      case rel => exact ⟨k + 1, by omega, rfl, Lib.hid (below_drewN HB.out _)⟩
      case measure => simp [intOf]; omega
    · obtain rfl : k = l.length := by omega
      have i0 : ¬ (l.length : Int) < (l.length : Int) := by omega
      go_wp2_with fail
      go_ret
      exact ⟨rfl, HB.out⟩
/-! ### Get -/
def refO (e : En) : Obj := .cells #[.string e.key, .string e.value, .bool e.gone] 46 (0, 0)
theorem results_refget (tmps : Array Value) (w : World) (g : Nat) (e : En) (b : Bool) (hp : tmps.getD 4 undef = .pointer (some ⟨g, 0, none⟩)) (hb : tmps.getD 5 undef = .bool b) (hc : w.heap[g]? = some (refO e)) :
    (results Try.f19 tmps).run Try.prog w = .ok (.tuple #[enV e, .bool b]) w := by
  obtain ⟨r0, r1, r2⟩ := cells3 hc
  have hp' : tmps[4]?.getD undef = .pointer (some ⟨g, 0, none⟩) := by simpa using hp
  have hb' : tmps[5]?.getD undef = .bool b := by simpa using hb
  simp [results, hp', hb', asAddr, loadVar, r0, r1, r2, go_sem, enV]
set_option maxRecDepth 100000 in
set_option maxHeartbeats 4000000 in
theorem refget_any {p : Option Addr} {cap : Nat} {l : List En} {w : World} (hr : Right l) (key : ByteArray) (hp : EntsAt w p l) :
    Calls Try.prog 19 #[.slice p l.length cap, .string key] w fun e w' => e = .returned (getV (getE l key)) ∧ Below w.heap.size w w' := by
  have hb1 := below_alloc w (refO ⟨⟨#[]⟩, ⟨#[]⟩, false⟩)
  have HB1 := Lib.hid hb1
  have hn := heap_alloc_new w (refO ⟨⟨#[]⟩, ⟨#[]⟩, false⟩)
  have HN := Lib.hid hn
  have HP := Lib.hid hp
  have HR := Lib.hid hr
  clear hp hr hb1 hn
  go_enter Try.func19, Try.ntmps19
  go_wp2_with fail
  go_loop [6] (fun i => ∃ k : Nat, k ≤ l.length ∧ i = .int .i64 (k : Nat) ∧ Hid (∀ e ∈ l.take k, e.key ≠ key)) (fun i => l.length - (intOf i).toNat)
  case atStart => exact ⟨0, Nat.zero_le _, rfl, Lib.hid (by simp)⟩
  case round =>
    obtain ⟨k, hk, rfl, HI⟩ := hrel
    have hrow := HN.out
    unfold refO at hrow
    obtain ⟨r0, r1, r2⟩ := cells3 hrow
    have rf := fun i => frozen_of_row _ w.heap.size i _ _ hrow
    have rf0 := rf 0
    have rf1 := rf 1
    have rf2 := rf 2
    clear rf hrow
    by_cases hlt : k < l.length
    · obtain ⟨A, rfl, a0, a1, a2, -⟩ := HP.out.at HB1.out hlt
      unfold refO at a0 a1 a2
      have i0 : (k : Int) < (l.length : Int) := by omega
      have i1 : (0 : Int) ≤ (k : Int) := by omega
      have i2 : (l.length : Int) ≤ 4096 := by have := HR.out.few; omega
      have HG := Lib.hid (getE_at HR.out hlt)
      have HTK := Lib.hid (List.take_succ_eq_append_getElem hlt)
      generalize l[k] = c at *
      by_cases he : c.key = key
      · have d1 : (c.key.toList == key.toList) = true := by rw [he]; simp
        rw [he] at HG
        clear he
        go_wp2_with fail
        refine bodyPost_ret (v := getV (some c)) (results_refget _ _ w.heap.size c true rfl rfl (heap_alloc_new w (refO c))) rfl ⟨by rw [HG.out], below_alloc w _⟩
      · have d1 : (c.key.toList == key.toList) = false := toList_ne he
        have HI2 : Hid (∀ e ∈ l.take (k + 1), e.key ≠ key) := Lib.hid fun e h => by
          rw [HTK.out] at h
          rcases List.mem_append.1 h with h | h
          · exact HI.out e h
          · rw [List.mem_singleton.1 h]; exact he
        clear he
        go_wp2_with fail
        go_round
        case rel => exact ⟨k + 1, by omega, by go_num, HI2⟩
        case measure => simp [intOf]; omega
    · obtain rfl : k = l.length := by omega
      have i0 : ¬ (l.length : Int) < (l.length : Int) := by omega
      have hg : getE l key = none := by
        cases hq : getE l key with
        | none => rfl
        | some e => 
          have := getE_some hq
          exact absurd this.2 (HI.out e (by rw [List.take_length]; exact this.1))
      have HG := Lib.hid hg
      clear hg
      go_wp2_with fail
      refine bodyPost_ret (v := getV none) (results_refget _ _ w.heap.size ⟨⟨#[]⟩, ⟨#[]⟩, false⟩ false rfl rfl (heap_alloc_new w (refO ⟨⟨#[]⟩, ⟨#[]⟩, false⟩))) rfl ⟨by rw [HG.out], below_alloc w _⟩
end Go.Proofs.Ytgmaccfhgeocdaa
