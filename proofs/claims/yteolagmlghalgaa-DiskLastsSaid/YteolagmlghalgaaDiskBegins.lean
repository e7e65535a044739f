/-
  Walks over the laws of package disk: begins. Conditions: those in the theorems.
-/
import Derived.Test.YteolagmlghalgaaKept
import Derived.Test.YteolagmlghalgaaTexts
namespace Dm
theorem get_of_key {α : Type} {l : List (List UInt8 × α)} {n : List UInt8} (h : n ∈ keys l) : ∃ x, get l n = some x := by
  cases hg : get l n with
  | some x => exact ⟨x, rfl⟩
  | none =>
    obtain ⟨p, hp, e⟩ := List.mem_map.1 h
    exact absurd e (get_none.1 hg p hp)
theorem read_up {d : Disk} (h : d.down = false) {n : List UInt8} {f : File} (hf : get d.files n = some f) : read d n = (f.data, 0) := by
  unfold read; rw [if_neg (by rw [h]; simp), hf]
end Dm
namespace Go.Proofs.Yteolagmlghalgaa
open Go.RowKit Go.Maps Go.Sort Go.Shelf

theorem extract_take (l : List UInt8) (m : Nat) (hm : m ≤ l.length) : ByteArray.extract ⟨l.toArray⟩ 0 (ByteArray.size ⟨(l.take m).toArray⟩) = ⟨(l.take m).toArray⟩ := by
  have hs : ByteArray.size ⟨(l.take m).toArray⟩ = m := by show (l.take m).toArray.size = m; simp; omega
  rw [hs]
  apply ByteArray.ext
  rw [ByteArray.data_extract]
  simp

set_option maxRecDepth 100000 in
set_option maxHeartbeats 8000000 in
theorem begins_any {w : World} {a b : Nat} {D E : Dm.Disk} {S T : Nat → Prop} (hD : Disk w a D S) (hE : Disk w b E T) (hd : D.down = false) (he : E.down = false) (hB : Dm.Begins D E) :
    Calls Try.prog 30 #[.pointer (some ⟨a, 0, none⟩), .pointer (some ⟨b, 0, none⟩)] w fun e w' => e = .returned (.bool true) ∧ Below w.heap.size w w' := by
  have HD := Lib.hid hD
  have HE := Lib.hid hE
  have hfew := hE.right.few
  have hnm := fun k hk => name_size hE.right (k := k) hk
  have hdn := fun W (h : Disk W b E T) => Down_disk h
  rw [he] at hdn
  have hk2 : (Dm.keys E.files).length ≤ 256 := by rw [Dm.keys, List.length_map]; exact hfew
  have hrd : ∀ k ∈ Dm.keys E.files, ∃ s was : ByteArray, s.size ≤ was.size ∧ was.size ≤ maxLen ∧ was.extract 0 s.size = s ∧
      (∀ W, Disk W a D S → Calls Try.prog 19 #[.pointer (some ⟨a, 0, none⟩), .string ⟨k.toArray⟩] W fun e w' => e = .returned (.tuple #[.string s, .int .i64 0]) ∧ W = w') ∧
      (∀ W, Disk W b E T → Calls Try.prog 19 #[.pointer (some ⟨b, 0, none⟩), .string ⟨k.toArray⟩] W fun e w' => e = .returned (.tuple #[.string was, .int .i64 0]) ∧ W = w') := fun k hk => by
    obtain ⟨f, hf⟩ := Dm.get_of_key hk
    obtain ⟨g, m, hg, hm, hgd⟩ := hB.each k f hf
    have hsz := (hE.right.get hf).2.2
    have h1 := Dm.read_up hd hg
    have h2 := Dm.read_up he hf
    rw [hgd] at h1
    refine ⟨⟨(f.data.take m).toArray⟩, ⟨f.data.toArray⟩, by show (f.data.take m).toArray.size ≤ f.data.toArray.size; simp; omega, by show f.data.toArray.size ≤ maxLen; simp; unfold maxLen; omega, extract_take f.data m hm, fun W hW => ?_, fun W hW => ?_⟩
    · have := Read_disk hW ⟨k.toArray⟩ (Nat.le_trans (hnm k hk) (by unfold maxLen; omega))
      rw [h1] at this; exact this
    · have := Read_disk hW ⟨k.toArray⟩ (Nat.le_trans (hnm k hk) (by unfold maxLen; omega))
      rw [h2] at this; exact this
  have hk1 := hB.keys
  have hL1 := fun (W : World) (h : Disk W a D S) => List_disk h
  have hL2 := fun (W : World) (h : Disk W b E T) => List_disk h
  rw [hk1] at hL1
  have HL1 := Lib.hid hL1
  have HL2 := Lib.hid hL2
  have HDN := Lib.hid hdn
  have HRD := Lib.hid hrd
  have HKM := Lib.hid (fun (k : Nat) (hk : k < (Dm.keys E.files).length) => List.getElem_mem hk)
  clear hL1 hL2 hdn hrd hnm hfew hk1 hB hD hE hd he
  generalize Dm.keys E.files = ks at *
  go_enter Try.func30, Try.ntmps30
  go_wp2_with fail
  refine (HL1.out _ HD.out).mono ?_
  rintro e w1 ⟨v1, rfl, hl1⟩
  have hb1 : Below w.heap.size w w1 := hl1.2.2
  obtain ⟨p1, cap1, rfl, ht1⟩ := textsOf_row (ks := ks) hl1.1
  have HT1 := Lib.hid ht1
  have HB1 := Lib.hid hb1
  clear hl1 ht1 hb1
  go_wp2_with fail
  refine (HL2.out _ (HE.out.keep HB1.out)).mono ?_
  rintro e w2 ⟨v2, rfl, hl2⟩
  have hb2 : Below w1.heap.size w1 w2 := hl2.2.2
  obtain ⟨p2, cap2, rfl, ht2⟩ := textsOf_row (ks := ks) hl2.1
  have HT2 := Lib.hid ht2
  have HT1' := Lib.hid (HT1.out.below hb2)
  have HB2 := Lib.hid (HB1.out.trans (hb2.mono HB1.out.size))
  clear hl2 ht2 hb2 HT1 HB1 HL1 HL2
  go_wp2_with fail
  refine (HDN.out _ (HE.out.keep HB2.out)).mono ?_
  rintro e w3 ⟨rfl, rfl⟩
  clear HDN
  go_wp2_with fail
  go_loopw [7] (fun iv wr => ∃ k : Nat, k ≤ ks.length ∧ iv = .int .i64 (k : Nat) ∧ Hid (Below w2.heap.size w2 wr)) (fun iv _ => ks.length - (intOf iv).toNat)
  case atStart => exact ⟨0, Nat.zero_le _, rfl, Lib.hid (Below.refl _ _)⟩
  case round =>
    obtain ⟨k, hk, rfl, HK⟩ := hrel
    by_cases hlt : k < ks.length
    · have i1 : (k : Int) < (ks.length : Int) := by omega
      have i2 : (0 : Int) ≤ (k : Int) := by omega
      obtain ⟨A, rfl, hA, hcA⟩ := (HT1'.out.below HK.out) k (by simpa using hlt)
      obtain ⟨B, rfl, hB, hcB⟩ := (HT2.out.below HK.out) k (by simpa using hlt)
      simp only [List.getElem_map] at hcA hcB
      obtain ⟨s, was, hs1, hs2, hs3, hr1, hr2⟩ := HRD.out ks[k] (HKM.out k hlt)
      have HR1 := Lib.hid hr1
      have HR2 := Lib.hid hr2
      have HBW := Lib.hid (HB2.out.trans (HK.out.mono HB2.out.size))
      unfold maxLen at hs2
      clear hr1 hr2 hA hB
      generalize (⟨ks[k].toArray⟩ : ByteArray) = nm at *
      have j1 : decide ((was.size : Int) < (s.size : Int)) = false := decide_eq_false (by omega)
      have j2 : (s.size : Int) ≤ (was.size : Int) := by omega
      have j3 : (0 : Int) ≤ (s.size : Int) := by omega
      go_wp2_with fail
      refine (HR1.out _ (HD.out.keep HBW.out)).mono ?_
      rintro e w4 ⟨rfl, rfl⟩
      go_wp2_with fail
      refine (HR2.out _ (HE.out.keep HBW.out)).mono ?_
      rintro e w4 ⟨rfl, rfl⟩
      go_wp2_with fail
      go_quiet (fail)
      go_wp2_with fail
      go_roundw
      case rel => exact ⟨k + 1, by omega, rfl, Lib.hid (below_drewN HK.out _)⟩
      case measure => simp [intOf]; omega
    · obtain rfl : k = ks.length := by omega
      have i1 : ¬ (ks.length : Int) < (ks.length : Int) := by omega
      go_wp2_with fail
      go_ret
      exact ⟨rfl, HB2.out.trans (HK.out.mono HB2.out.size)⟩
end Go.Proofs.Yteolagmlghalgaa
