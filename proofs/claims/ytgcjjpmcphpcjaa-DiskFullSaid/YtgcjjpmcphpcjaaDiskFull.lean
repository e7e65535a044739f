/-
  Walks over the laws of package disk: DiskFull. No condition.
-/
import Derived.Test.YtgcjjpmcphpcjaaDiskAwake
import Derived.Test.YtgcjjpmcphpcjaaDiskFullMath
import Derived.Test.YtgcjjpmcphpcjaaNulls
namespace Go.Proofs.Ytgcjjpmcphpcjaa
open Go.RowKit Go.Maps Go.Sort Go.Shelf

theorem text_two (x y : Nat) (hx : x < 256) (hy : y < 256) (b : Nat) (w : World) (hb : w.heap[b]? = some (.cells #[.int .u8 (x : Nat), .int .u8 (y : Nat)] 5 (0, 0))) :
    (convert 38 9 (.slice (some ⟨b, 0, none⟩) 2 2)).run Try.prog w = .ok (.string ⟨#[UInt8.ofNat x, UInt8.ofNat y]⟩) w := by
  refine run_convert_bytes_back (P := Try.prog) w 38 9 5 ⟨b, 0, none⟩ 2 [UInt8.ofNat x, UInt8.ofNat y] Try.underlying38 Try.underlying5 Try.underlying9 ?_
  intro j hj
  have hj' : j = 0 ∨ j = 1 := by simp at hj; omega
  have hadd : (⟨b, 0, none⟩ : Addr).add j = ⟨b, j, none⟩ := by unfold Addr.add; split <;> simp_all
  rw [hadd, cell_of_row w b j _ _ _ hb]
  rcases hj' with rfl | rfl
  · simp; omega
  · simp; omega

/-- The text of a name of two bytes. -/
def nmText (k : Nat) : ByteArray := ⟨(Dm.nm k).toArray⟩
theorem text_nm (k : Nat) (hk : k < 256) (b : Nat) (w : World) (hb : w.heap[b]? = some (.cells #[.int .u8 ((97 + k % 16 : Nat) : Int), .int .u8 ((97 + k / 16 : Nat) : Int)] 5 (0, 0))) :
    (convert 38 9 (.slice (some ⟨b, 0, none⟩) 2 2)).run Try.prog w = .ok (.string (nmText k)) w :=
  text_two (97 + k % 16) (97 + k / 16) (by omega) (by omega) b w hb

section
variable {w0 w : World} {a : Nat} {D D' : Dm.Disk} {c : Nat} {z : Int}
theorem create_to (h : In w0 w a D) (s : ByteArray) (hs : s.size ≤ maxLen) (e : Dm.create D s.data.toList = (c, D')) (hz : (c : Int) = z) :
    Calls Try.prog 10 #[.pointer (some ⟨a, 0, none⟩), .string s] w fun e w' => e = .returned (.int .i64 z) ∧ In w0 w' a D' := by
  have := create_in h s hs (c := z) (by rw [e]; exact hz)
  rw [e] at this; exact this
theorem append_to (h : In w0 w a D) (s t : ByteArray) (hs : s.size ≤ maxLen) (ht : t.size ≤ maxLen) (e : Dm.append D s.data.toList t.data.toList = (c, D')) (hz : (c : Int) = z) :
    Calls Try.prog 11 #[.pointer (some ⟨a, 0, none⟩), .string s, .string t] w fun e w' => e = .returned (.int .i64 z) ∧ In w0 w' a D' := by
  have := append_in h s t hs ht (c := z) (by rw [e]; exact hz)
  rw [e] at this; exact this
theorem remove_to (h : In w0 w a D) (s : ByteArray) (hs : s.size ≤ maxLen) (e : Dm.remove D s.data.toList = (c, D')) (hz : (c : Int) = z) :
    Calls Try.prog 26 #[.pointer (some ⟨a, 0, none⟩), .string s] w fun e w' => e = .returned (.int .i64 z) ∧ In w0 w' a D' := by
  have := remove_in h s hs (c := z) (by rw [e]; exact hz)
  rw [e] at this; exact this
end
theorem list_len {w w' : World} {D : Dm.Disk} {v : Value} (h : Listed w (Dm.keys D.files) v w') : ∃ pn capn, v = .slice pn D.files.length capn := by
  have hkl : (Dm.keys D.files).length = D.files.length := by simp [Dm.keys]
  rcases h.1.2 with ⟨e1, e2⟩ | ⟨g, c', _, e1, _⟩
  · exact ⟨none, 0, by rw [e1, ← hkl, e2]⟩
  · exact ⟨_, _, by rw [e1, hkl]⟩

set_option maxRecDepth 100000 in
set_option maxHeartbeats 4000000 in
theorem full_any (m : Nat) (hm : m ≤ 255) (w : World) : Calls Try.prog 4 #[.int .u8 (m : Nat)] w fun e w' => e = .returned (.bool true) ∧ Below w.heap.size w w' := by
  go_enter Try.func4, Try.ntmps4
  go_wp2_with fail
  refine (diskAwake_any _).mono ?_
  rintro e w1 ⟨rfl, hb1⟩
  go_wp2_with fail
  refine (new_in hb1).mono ?_
  rintro e w2 ⟨a, rfl, h2⟩
  have H2 := Lib.hid h2
  clear hb1 h2
  go_wp2_with fail
  go_loopw [4] (fun i wr => ∃ (k : Nat) (D : Dm.Disk), k ≤ 256 ∧ i = .int .i64 (k : Nat) ∧ Hid (In w wr a D ∧ Dm.Filled D k)) (fun i _ => 256 - (intOf i).toNat)
  case atStart => exact ⟨0, _, Nat.zero_le _, rfl, Lib.hid ⟨H2.out, Dm.filled_new⟩⟩
  case round =>
    obtain ⟨k, D, hk, rfl, HD⟩ := hrel
    by_cases hlt : k < 256
    · have i1 : (k : Int) < 256 := by omega
      have i2 : (0 : Int) ≤ (k : Int) := by omega
      obtain ⟨D', e1, hF⟩ := Dm.filled_step HD.out.2 hlt
      have HF := Lib.hid hF
      have hcv := text_nm k hlt wr.heap.size (wr.alloc (.cells #[.int .u8 ((97 + k % 16 : Nat) : Int), .int .u8 ((97 + k / 16 : Nat) : Int)] 5)) (heap_alloc_new wr _)
      rw [show ((97 + k % 16 : Nat) : Int) = 97 + (k : Int) % 16 from by omega, show ((97 + k / 16 : Nat) : Int) = 97 + (k : Int) / 16 from by omega] at hcv
      clear hF
      go_wp2_with fail
      refine (create_to (HD.out.1.alloc (.cells #[.int .u8 (97 + (k : Int) % 16), .int .u8 (97 + (k : Int) / 16)] 5)) (nmText k) (by show 2 ≤ maxLen; unfold maxLen; omega) (c := 0) (D' := D') e1 rfl).mono ?_
      rintro e w5 ⟨rfl, h5⟩
      have HN := Lib.hid (And.intro h5 HF.out)
      clear h5 hcv e1
      go_wp2
      go_roundw
      case rel => exact ⟨k + 1, D', by omega, rfl, HN⟩
      case measure => simp [intOf]; omega
    · obtain rfl : k = 256 := by omega
      obtain ⟨r0, d1, d2, d3, d4, r1, r2, r3, u2, r4, r5, n4⟩ := Dm.full_after HD.out.2 m hm
      have hmk := make_nulls .i64 (1048576 - m) (by omega) wr
      rw [show ((1048576 - m : Nat) : Int) = 1048576 - (m : Int) from by omega] at hmk
      have hcv := text_nulls (1048576 - m) wr.heap.size (wr.alloc (.cells (nulls (1048576 - m)) 5)) (heap_alloc_new wr _)
      go_wp2_with fail
      refine (create_to (HD.out.1.alloc (.cells (nulls (1048576 - m)) 5)) ⟨#[122, 122]⟩ (by decide) r0 rfl).mono ?_
      rintro e w3 ⟨rfl, h3⟩
      have H3 := Lib.hid h3
      clear h3 hmk hcv r0 HD
      go_wp2_with fail
      refine (append_to H3.out ⟨#[97, 97]⟩ (nullText (1048576 - m)) (by decide) (by rw [nullText_size]; unfold maxLen; omega) (c := 0) (D' := d1) (by rw [nullText_list]; exact r1) rfl).mono ?_
      rintro e w4 ⟨rfl, h4⟩
      have H4 := Lib.hid h4
      have hmk := make_nulls .i64 (m + 1) (by omega) w4
      rw [show ((m + 1 : Nat) : Int) = (m : Int) + 1 from by omega] at hmk
      have hcv := text_nulls (m + 1) w4.heap.size (w4.alloc (.cells (nulls (m + 1)) 5)) (heap_alloc_new w4 _)
      clear h4 r1 H3
      go_wp2_with fail
      refine (append_to (H4.out.alloc (.cells (nulls (m + 1)) 5)) ⟨#[97, 97]⟩ (nullText (m + 1)) (by decide) (by rw [nullText_size]; unfold maxLen; omega) (c := 3) (D' := d1) (by rw [nullText_list]; exact r2) rfl).mono ?_
      rintro e w5 ⟨rfl, h5⟩
      have H5 := Lib.hid h5
      clear h5 hmk hcv r2 H4
      have hmk := make_nulls .u8 m (by omega) w5
      have hcv := text_nulls m w5.heap.size (w5.alloc (.cells (nulls m) 5)) (heap_alloc_new w5 _)
      go_wp2_with fail
      refine (append_to (H5.out.alloc (.cells (nulls m) 5)) ⟨#[97, 97]⟩ (nullText m) (by decide) (by rw [nullText_size]; unfold maxLen; omega) (c := 0) (D' := d2) (by rw [nullText_list]; exact r3) rfl).mono ?_
      rintro e w6 ⟨rfl, h6⟩
      clear hmk hcv r3 H5
      go_wp2_with fail
      refine (used_in h6 (c := 1048576) (by rw [u2]; rfl)).mono ?_
      rintro e w7 ⟨rfl, h7⟩
      clear h6 u2
      go_wp2_with fail
      refine (remove_to h7 ⟨#[97, 98]⟩ (by decide) r4 rfl).mono ?_
      rintro e w8 ⟨rfl, h8⟩
      clear h7 r4
      go_wp2_with fail
      refine (create_to h8 ⟨#[122, 122]⟩ (by decide) r5 rfl).mono ?_
      rintro e w9 ⟨rfl, h9⟩
      clear h8 r5
      go_wp2_with fail
      refine (list_in h9).mono ?_
      rintro e w10 ⟨v, rfl, hl, h10⟩
      obtain ⟨pn, capn, rfl⟩ := list_len hl
      rw [n4]
      have hb10 := h10.below
      clear h9 h10 hl n4
      go_wp2
      go_ret
      exact ⟨rfl, hb10⟩
end Go.Proofs.Ytgcjjpmcphpcjaa
