/-
  Walks over the laws of package wal: WalKnown. No condition.
  PROVED: the card of the law WalKnown: it answers true for every input, and leaves its arguments as they were: the examples of the chapter; the limits. Condition: the variables that the row lists hold what the text of the program lays (the card ties that).
-/
import Derived.Test.YtoecbkndbcblpaaGreatDoorWalAwake
import Derived.Test.YtoecbkndbcblpaaGreatDoorWalDrop
import Derived.WalkSpells
import Derived.Deep.MidRow
import Derived.Lib.ConvBytes
import Derived.Test.YtoecbkndbcblpaaGreatDoorRows
import Derived.Test.YtoecbkndbcblpaaGreatDoorTie
import Derived.Test.YtoecbkndbcblpaaGreatDoorCards
import Derived.Test.YtoecbkndbcblpaaGreatDoorLawKit
import Derived.Lay
import Derived.LaidOnce
import Derived.LaidMore
import Derived.SevenTiedAt
namespace Wm
theorem names_apart (log : ByteArray) {m n : Nat} (hm : m < 100) (hn : n < 100) (h : m ≠ n) : (nameOf log m).data.toList ≠ (nameOf log n).data.toList := by
  intro e
  rw [nameOf_list, nameOf_list] at e
  have e2 := List.append_cancel_left e
  obtain ⟨-, -, v1⟩ := nineteen_facts m hm
  obtain ⟨-, -, v2⟩ := nineteen_facts n hn
  rw [e2, v2] at v1
  exact h v1.symm
theorem file_name {name : ByteArray} (h : isName name = true) (n : Nat) (hn : n < 100) : Dm.isName (nameOf (logOf name) n).data.toList = true := by
  obtain ⟨h1, h2, h3⟩ := (isName_iff name).1 h
  obtain ⟨n1, n2, -⟩ := nineteen_facts n hn
  have hs : name.data.toList.length = name.size := by rw [Array.length_toList]; rfl
  rw [nameOf_list, logOf_list]
  have hl : (name.data.toList ++ [46] ++ nineteen n).length = name.size + 20 := by
    rw [List.length_append, List.length_append, n1, hs]; rfl
  have ha : (name.data.toList ++ [46] ++ nineteen n).all Dm.nameByte = true := by
    rw [List.all_eq_true]
    intro c hc
    rcases List.mem_append.1 hc with hc | hc
    · rcases List.mem_append.1 hc with hc | hc
      · exact letters_byte c (h3 c hc)
      · rw [List.mem_singleton.1 hc]; decide
    · exact digit_byte c (n2 c hc)
  unfold Dm.isName
  rw [hl, ha]
  have e1 : 1 ≤ name.size + 20 := by omega
  have e2 : name.size + 20 ≤ 32 := by omega
  simp [e1, e2]
theorem alive_W1n {name d t : ByteArray} {s l : Nat} (ht : suffix d.data.toList t.data.toList = true) (hl : l ≤ 90) : alive (D1 name d s) (W1 name d t l false) = true := by
  by_cases h0 : l = 0
  · exact alive_W1 ht (.inl h0)
  · have hr : Dm.read (D1 name d s) (nameOf (logOf name) 1).data.toList = (d.data.toList, 0) := read_one _ _ _
    have hs : stands (D1 name d s) (W1 name d t l false).f = true := by
      have e : (⟨#[]⟩ ++ t : ByteArray) = t := by apply ByteArray.ext; rw [ByteArray.data_append]; simp
      unfold stands W1
      simp only [hr, e, ht]
      have : d.data.toList.length = d.size := by rw [Array.length_toList]; rfl
      simp [this]
    have h2 : Dm.read (D1 name d s) (nameOf (logOf name) (l + 1)).data.toList = ([], 4) := read_one_not (names_apart (logOf name) (by omega) (by decide) (by omega))
    unfold alive
    rw [hs]
    simp [W1, h2]
/-! ### two files -/
def dsk (fs : List (List UInt8 × Dm.File)) : Dm.Disk := ⟨false, 0, false, 0, fs⟩
def F4 (name d : ByteArray) (s : Nat) : List (List UInt8 × Dm.File) := Dm.put [(file1 name, ⟨d.data.toList, s⟩)] (nameOf (logOf name) 4).data.toList ⟨[], 0⟩
def F5 (name d fr : ByteArray) (s : Nat) : List (List UInt8 × Dm.File) := Dm.adds (nameOf (logOf name) 4).data.toList fr.data.toList (F4 name d s)
def W5 (name fr : ByteArray) : W := ⟨⟨nameOf (logOf name) 4, fr.size, fr, ⟨#[]⟩⟩, logOf name, [1, 4], 4, false⟩
theorem ne14 (name : ByteArray) : (nameOf (logOf name) 4).data.toList ≠ file1 name := names_apart (logOf name) (by decide) (by decide) (by decide)
theorem ne54 (name : ByteArray) : (nameOf (logOf name) 5).data.toList ≠ (nameOf (logOf name) 4).data.toList := names_apart (logOf name) (by decide) (by decide) (by decide)
theorem ne51 (name : ByteArray) : (nameOf (logOf name) 5).data.toList ≠ file1 name := names_apart (logOf name) (by decide) (by decide) (by decide)
theorem create4 {name d : ByteArray} {s : Nat} (hn : isName name = true) : Dm.create (D1 name d s) (nameOf (logOf name) 4).data.toList = (0, dsk (F4 name d s)) := by
  have h1 := file_name hn 4 (by decide)
  have h2 : Dm.get (D1 name d s).files (nameOf (logOf name) 4).data.toList = none := get_one_not (ne14 name)
  unfold Dm.create
  rw [h1, h2]
  simp [D1, one, Dm.change, dsk, F4]
theorem get4 (name d : ByteArray) (s : Nat) : Dm.get (F4 name d s) (nameOf (logOf name) 4).data.toList = some ⟨[], 0⟩ := Dm.get_put_same _ _ _
theorem get45 (name d fr : ByteArray) (s : Nat) : Dm.get (F5 name d fr s) (nameOf (logOf name) 4).data.toList = some ⟨fr.data.toList, 0⟩ := by
  unfold F5 Dm.adds; rw [Dm.get_upd_same, get4]; rfl
theorem get15 (name d fr : ByteArray) (s : Nat) : Dm.get (F5 name d fr s) (file1 name) = some ⟨d.data.toList, s⟩ := by
  unfold F5 Dm.adds; rw [Dm.get_upd_other (Ne.symm (ne14 name)), F4, Dm.get_put_other (Ne.symm (ne14 name))]; simp [Dm.get]
theorem get55 (name d fr : ByteArray) (s : Nat) : Dm.get (F5 name d fr s) (nameOf (logOf name) 5).data.toList = none := by
  unfold F5 Dm.adds; rw [Dm.get_upd_other (ne54 name), F4, Dm.get_put_other (ne54 name)]
  simp [Dm.get]; exact fun e => ne51 name e.symm
theorem write4 {name d fr : ByteArray} {s : Nat} (h : fr.size ≤ 1048576) : write (dsk (F4 name d s)) (fresh (nameOf (logOf name) 4)) fr = (0, dsk (F5 name d fr s), ⟨nameOf (logOf name) 4, fr.size, fr, ⟨#[]⟩⟩) := by
  have hl : fr.data.toList.length = fr.size := by rw [Array.length_toList]; rfl
  have e : (⟨#[]⟩ ++ fr : ByteArray) = fr := by apply ByteArray.ext; rw [ByteArray.data_append]; simp
  have ha : Dm.append (dsk (F4 name d s)) (nameOf (logOf name) 4).data.toList fr.data.toList = (0, dsk (F5 name d fr s)) := by
    have h4 := get4 name d s
    unfold Dm.append
    rw [if_neg (by simp [dsk])]
    rw [show (dsk (F4 name d s)).files = F4 name d s from rfl, h4]
    simp only
    rw [if_neg (by simp; omega), if_neg (by simp [dsk])]
    rfl
  unfold write fresh
  simp only [ha, e, Nat.zero_add]
theorem alive_W5 {name d fr : ByteArray} {s : Nat} : alive (dsk (F5 name d fr s)) (W5 name fr) = true := by
  have hl : fr.data.toList.length = fr.size := by rw [Array.length_toList]; rfl
  have e : (⟨#[]⟩ ++ fr : ByteArray) = fr := by apply ByteArray.ext; rw [ByteArray.data_append]; simp
  have hr : Dm.read (dsk (F5 name d fr s)) (nameOf (logOf name) 4).data.toList = (fr.data.toList, 0) := by
    unfold Dm.read; rw [if_neg (by simp [dsk]), show (dsk (F5 name d fr s)).files = F5 name d fr s from rfl, get45]
  have h5 : Dm.read (dsk (F5 name d fr s)) (nameOf (logOf name) 5).data.toList = ([], 4) := by
    unfold Dm.read; rw [if_neg (by simp [dsk]), show (dsk (F5 name d fr s)).files = F5 name d fr s from rfl, get55]
  have hs : stands (dsk (F5 name d fr s)) (W5 name fr).f = true := by
    unfold stands W5
    simp only [hr, e]
    simp [hl, suffix]
  unfold alive
  rw [hs]
  simp [W5, h5]
theorem remove15 (name d fr : ByteArray) (s : Nat) : removeAll (logOf name) [1] (dsk (F5 name d fr s)) = (0, dsk (Dm.del (F5 name d fr s) (file1 name))) := by
  have h : Dm.remove (dsk (F5 name d fr s)) (nameOf (logOf name) 1).data.toList = (0, dsk (Dm.del (F5 name d fr s) (file1 name))) := by
    have h1 := get15 name d fr s
    unfold file1 at h1
    unfold Dm.remove
    rw [if_neg (by simp [dsk]), show (dsk (F5 name d fr s)).files = F5 name d fr s from rfl, h1]
    rfl
  rw [removeAll_ok h]; rfl
end Wm
namespace Go.Proofs.YtoecbkndbcblpaaGreatDoor
open Go.RowKit Go.Maps Go.Sort Go.Shelf
theorem info5 : (Tryz.prog.info? 5).map (fun i => (i.zero, i.size, i.bytes)) = some (some (.int .u8 0), 1, 1) := by kernel_rfl
def noughts (n : Nat) : Array Value := (List.replicate n (Value.int .u8 0)).toArray
def zeros (n : Nat) : ByteArray := ⟨(List.replicate n (0 : UInt8)).toArray⟩
theorem zeros_size (n : Nat) : (zeros n).size = n := by simp [zeros, ByteArray.size]
theorem made_noughts (n : Nat) : madeCells #[Value.int .u8 0] n = noughts n := by
  apply Array.ext
  · rw [size_madeCells]; simp [noughts]
  · intro i h1 h2
    simp [madeCells, noughts, Nat.mod_one]
theorem make_noughts (k : IntKind) (n : Nat) (hn : n ≤ 281474976710656) (u : World) :
    (Instr.makeSlice 37 (.int k (n : Int)) (.int k (n : Int))).run Tryz.prog u = .ok (.slice (some ⟨u.heap.size, 0, none⟩) n n) (u.alloc (.cells (noughts n) 5)) := by
  obtain ⟨i0, hi, hz0, hz1, hz2⟩ := info_parts info5
  have h := run_make (P := Tryz.prog) u 37 5 i0 (.int .u8 0) Tryz.underlying37 hi hz0 k k (n : Int) (n : Int) (by omega) (Int.le_refl _) (by rw [hz2]; omega) (by omega)
  simpa [hz1, Value.cells, made_noughts] using h
theorem text_noughts (n : Nat) (b : Nat) (w : World) (hb : w.heap[b]? = some (.cells (noughts n) 5 (0, 0))) :
    (convert 37 9 (.slice (some ⟨b, 0, none⟩) n n)).run Tryz.prog w = .ok (.string (zeros n)) w := by
  have h := run_convert_bytes_back (P := Tryz.prog) w 37 9 5 ⟨b, 0, none⟩ n (List.replicate n 0) Tryz.underlying37 Tryz.underlying5 Tryz.underlying9 ?_
  · rw [List.length_replicate] at h; exact h
  · intro j hj
    have hj' : j < n := by simpa using hj
    have hadd : (⟨b, 0, none⟩ : Addr).add j = ⟨b, j, none⟩ := by unfold Addr.add; split <;> simp_all
    rw [hadd, cell_of_row w b j _ _ _ hb]
    simp [noughts, hj']
theorem frame_len8 (x : ByteArray) : (Wm.frame x).size = x.size + 8 := by
  have h : (Wm.frame x).data.toList = Sm.frame x.data.toList := by simp [Wm.frame]
  have h2 : (Wm.frame x).size = (Wm.frame x).data.toList.length := by rw [Array.length_toList]; rfl
  have h3 : x.data.toList.length = x.size := by rw [Array.length_toList]; rfl
  rw [h2, h, Sm.frame_len]; omega
section
variable {w0 w w' : World} {a b : Nat} {D D' : Dm.Disk} {B : List (Nat × Obj)} {W : Wm.W}
theorem append_W1n {name d t : ByteArray} {s l : Nat} (h : WalIn w0 w a (Wm.D1 name d s) b (Wm.W1 name d t l false) B) (hn : name.size ≤ 12) (hd : d.size < 16384) (hts : t.size ≤ 1048576) (ht : Wm.suffix d.data.toList t.data.toList = true) (hl : l ≤ 90) (x : ByteArray) (hx : x.size ≤ 65536) :
    Calls Tryz.prog 11 #[.pointer (some ⟨b, 0, none⟩), .string x] w fun e w' => e = .returned (.tuple #[.int .i64 (l + 1 : Nat), .int .i64 0]) ∧ WalIn w0 w' a (Wm.D1 name (d ++ Wm.frame x) s) b (Wm.W1 name (d ++ Wm.frame x) (t ++ Wm.frame x) (l + 1) false) B := by
  have hf := frame_len8 x
  exact Append_yes (W' := { Wm.W1 name d t l false with f := (Wm.W1 name (d ++ Wm.frame x) (t ++ Wm.frame x) l false).f }) h (Wm.ok_W1 hn d t (by omega) false) (fok_W1 hn (by omega) hts) (Wm.alive_W1n ht hl) x hx (by show l ≤ 1000000; omega)
    fun _ _ h1 => put_w h1 (fok_W1 hn (by omega) hts) rfl hd (Wm.frame x) (by omega) (write_W1 (by omega))
/-- A record goes into another file. -/
theorem append_next {name d t : ByteArray} {s : Nat} (h : WalIn w0 w a (Wm.D1 name d s) b (Wm.W1 name d t 3 false) B) (hin : Wm.isName name = true) (hd : 16384 ≤ d.size) (hd2 : d.size ≤ 1048576) (hts : t.size ≤ 1048576) (ht : Wm.suffix d.data.toList t.data.toList = true) (x : ByteArray) (hx : x.size ≤ 65536) :
    Calls Tryz.prog 11 #[.pointer (some ⟨b, 0, none⟩), .string x] w fun e w' => e = .returned (.tuple #[.int .i64 (4 : Nat), .int .i64 0]) ∧ WalIn w0 w' a (Wm.dsk (Wm.F5 name d (Wm.frame x) d.data.toList.length)) b (Wm.W5 name (Wm.frame x)) B := by
  have hn := ((Wm.isName_iff name).1 hin).2.1
  have hf := frame_len8 x
  have hs : Dm.sync (Wm.D1 name d s) (Wm.nameOf (Wm.logOf name) 1).data.toList = (0, Wm.D1 name d d.data.toList.length) := Wm.sync_one _ _ _
  exact Append_yes (W' := ⟨⟨Wm.nameOf (Wm.logOf name) 4, (Wm.frame x).size, Wm.frame x, ⟨#[]⟩⟩, Wm.logOf name, [1, 4], 3, false⟩) h (Wm.ok_W1 hn d t (by decide) false) (fok_W1 hn hd2 hts) (Wm.alive_W1n ht (by decide)) x hx (by show 3 ≤ 1000000; decide)
    fun _ _ h1 => put_full h1 (Wm.ok_W1 hn d t (by decide) false) (fok_W1 hn hd2 hts) rfl hd (Wm.frame x) (by omega) (f1 := (Wm.W1 name d ⟨#[]⟩ 3 false).f) (D1 := Wm.D1 name d d.data.toList.length) (by unfold Wm.sync Wm.W1; simp only [hs]) (Wm.create4 hin) (Wm.write4 (by omega))
theorem first_c (h : WalIn w0 w a D b W B) {n : Nat} {r : List Nat} (hf : W.firsts = n :: r) (hl : W.firsts.length ≤ 1000) (c : Int) (hc : (n : Int) = c) : Calls Tryz.prog 9 #[.pointer (some ⟨b, 0, none⟩)] w fun e w' => e = .returned (.int .i64 c) ∧ w = w' := by
  rw [← hc]; exact first_w h hf hl
theorem last_c (h : WalIn w0 w a D b W B) (c : Int) (hc : (W.last : Int) = c) : Calls Tryz.prog 10 #[.pointer (some ⟨b, 0, none⟩)] w fun e w' => e = .returned (.int .i64 c) ∧ w = w' := by
  rw [← hc]; exact last_w h
end
theorem suffix_app {d t : ByteArray} (h : Wm.suffix d.data.toList t.data.toList = true) (x : ByteArray) : Wm.suffix (d ++ x).data.toList (t ++ x).data.toList = true := by
  unfold Wm.suffix at h ⊢
  simp only [ByteArray.data_append, Array.toList_append]
  rw [List.isSuffixOf_iff_suffix] at h ⊢
  obtain ⟨k, hk⟩ := h
  exact ⟨k, by rw [← List.append_assoc, hk]⟩
set_option maxRecDepth 100000 in
set_option maxHeartbeats 4000000 in
theorem walKnown_any (w : World) : Calls Tryz.prog 3 #[] w fun e w' => e = .returned (.bool true) ∧ Below w.heap.size w w' := by
  have hn : Wm.isName ⟨#[119]⟩ = true := (Wm.isName_iff _).2 ⟨by decide, by decide, by decide⟩
  have hN : Wm.isName ⟨#[87]⟩ = false := by decide
  obtain ⟨name, hname⟩ : ∃ n : ByteArray, n = ⟨#[119]⟩ := ⟨_, rfl⟩
  have hns : name.size ≤ 12 := by rw [hname]; decide
  rw [← hname] at hn
  have HN := Lib.hid hn
  have HNN := Lib.hid hN
  have HNS := Lib.hid hns
  have HNAME := Lib.hid hname
  have HFA := Lib.hid (show (Wm.frame ⟨#[97]⟩).size = 9 from frame_len8 _)
  have HFB := Lib.hid (show (Wm.frame ⟨#[98]⟩).size = 9 from frame_len8 _)
  have HFC := Lib.hid (show (Wm.frame ⟨#[99]⟩).size = 9 from frame_len8 _)
  have HFZ := Lib.hid (show (Wm.frame (zeros 20000)).size = 20008 by rw [frame_len8, zeros_size])
  have mk1 : ∀ u : World, (Instr.makeSlice 37 (.int .i64 20000) (.int .i64 20000)).run Tryz.prog u = .ok (.slice (some ⟨u.heap.size, 0, none⟩) 20000 20000) (u.alloc (.cells (noughts 20000) 5)) := fun u => make_noughts .i64 20000 (by omega) u
  have mk2 : ∀ u : World, (Instr.makeSlice 37 (.int .i64 65537) (.int .i64 65537)).run Tryz.prog u = .ok (.slice (some ⟨u.heap.size, 0, none⟩) 65537 65537) (u.alloc (.cells (noughts 65537) 5)) := fun u => make_noughts .i64 65537 (by omega) u
  have MK1 := Lib.hid mk1
  have MK2 := Lib.hid mk2
  clear hn hns hname hN mk1 mk2
  go_enter Tryz.func3, Tryz.ntmps3
  go_wp2_with fail
  refine (new_b (w0 := w) (Below.refl _ w)).mono ?_
  rintro e w1 ⟨a, rfl, h1⟩
  have HO := Lib.hid (open_first h1 name HN.out)
  rw [HNAME.out] at HO
  clear h1
  go_wp2_with fail
  refine HO.out.mono ?_
  rintro e w2 ⟨b, v, Rr, rfl, h2, hr2⟩
  obtain ⟨p2, cap2, rfl, -⟩ := hr2.shape
  rw [← HNAME.out] at h2
  have H2 := Lib.hid h2
  clear h2 hr2 HO
  simp only [List.length_nil]
  go_wp2_with fail
  refine (first_c H2.out (n := 1) (r := []) rfl (by show 1 ≤ 1000; decide) 1 rfl).mono ?_
  rintro e w3 ⟨rfl, rfl⟩
  go_wp2_with fail
  refine (last_c H2.out 0 rfl).mono ?_
  rintro e w3 ⟨rfl, rfl⟩
  have H3 := Lib.hid (append_W1n H2.out HNS.out (by decide) (by decide) (by rfl) (by decide) ⟨#[97]⟩ (by decide))
  rw [empty_add] at H3
  go_wp2_with fail
  refine H3.out.mono ?_
  rintro e w4 ⟨rfl, h4⟩
  have H4 := Lib.hid (sync_W1 h4 HNS.out (by have := HFA.out; omega) (by have := HFA.out; omega) (suffix_self [] _) (.inr rfl))
  clear h4 H2 H3
  go_wp2_with fail
  refine H4.out.mono ?_
  rintro e w5 ⟨rfl, h5⟩
  have H5 := Lib.hid (append_W1n h5 HNS.out (by have := HFA.out; omega) (by decide) (by simp [Wm.suffix]) (by decide) ⟨#[98]⟩ (by decide))
  clear h5 H4
  go_wp2_with fail
  refine H5.out.mono ?_
  rintro e w6 ⟨rfl, h6⟩
  have H6 := Lib.hid h6
  clear h6 H5
  go_wp2_with fail
  refine (last_c H6.out 2 rfl).mono ?_
  rintro e w7 ⟨rfl, rfl⟩
  go_wp2_with fail
  refine (first_c H6.out (n := 1) (r := []) rfl (by show 1 ≤ 1000; decide) 1 rfl).mono ?_
  rintro e w7 ⟨rfl, rfl⟩
  have H7 := Lib.hid (crash_wi H6.out)
  clear H6
  go_wp2_with fail
  refine H7.out.mono ?_
  rintro e w8 ⟨rfl, h8⟩
  rw [show Dm.crash (Wm.D1 name (Wm.frame ⟨#[97]⟩ ++ Wm.frame ⟨#[98]⟩) (Wm.frame ⟨#[97]⟩).data.toList.length) [] = Wm.one true (Wm.file1 name) (Wm.frame ⟨#[97]⟩).data.toList (Wm.frame ⟨#[97]⟩).data.toList.length from by
    unfold Wm.D1
    rw [Wm.crash_one (by rw [ByteArray.data_append]; simp), take_app]] at h8
  have H8 := Lib.hid (start_b h8.disk)
  rw [Wm.start_one] at H8
  clear h8 H7
  go_wp2_with fail
  refine H8.out.mono ?_
  rintro e w9 ⟨rfl, h9⟩
  have H9 := Lib.hid (open_again (x := ⟨#[97]⟩) h9 HN.out (by decide))
  rw [HNAME.out] at H9
  clear h9 H8
  go_wp2_with fail
  refine H9.out.mono ?_
  rintro e w10 ⟨b8, v8, R8, rfl, h10, hr8⟩
  rcases hr8 with ⟨-, hnil, -⟩ | ⟨g, cap, cur, rfl, rfl, hc1, hc2, hc3, hc4⟩
  · cases hnil
  have hg := h10.box (g, .cells cur 35 (0, 0)) (by simp)
  have hq : ∀ i, i < 2 → cur[i]? = (recsCells [(1, (⟨#[97]⟩ : ByteArray).data.toList)])[i]? := fun i hi => by
    rw [← hc4, List.getElem?_take, if_pos (by simpa using hi), Array.getElem?_toList]
  have x1 : w10.cell? ⟨g, 1, none⟩ = some (.string ⟨#[97]⟩) := by
    rw [cell_of_row w10 g _ _ _ _ hg, hq 1 (by decide)]; rfl
  have i1 : (1 : Int) ≤ (cap : Int) := by simp at hc1; omega
  rw [← HNAME.out] at h10
  have H10 := Lib.hid (append_W1n h10 HNS.out (by have := HFA.out; omega) (by decide) (by simp [Wm.suffix]) (by decide) ⟨#[99]⟩ (by decide))
  clear H9 h10 hg hq hc1 hc2 hc3 hc4
  rw [empty_add] at H10
  simp only [List.length_cons, List.length_nil, Nat.zero_add]
  go_wp2_with fail
  refine H10.out.mono ?_
  rintro e w11 ⟨rfl, h11⟩
  clear x1 i1 H10
  have hs11 : Wm.suffix (Wm.frame ⟨#[97]⟩ ++ Wm.frame ⟨#[99]⟩).data.toList (Wm.frame ⟨#[99]⟩).data.toList = true := by simp [Wm.suffix]
  have hz11 : (Wm.frame ⟨#[97]⟩ ++ Wm.frame ⟨#[99]⟩).size = 18 := by rw [ByteArray.size_append, HFA.out, HFC.out]
  obtain ⟨d1, hd1⟩ : ∃ d, Wm.frame ⟨#[97]⟩ ++ Wm.frame ⟨#[99]⟩ = d := ⟨_, rfl⟩
  rw [hd1] at h11 hs11 hz11
  clear hd1
  have HS11 := Lib.hid hs11
  have HZ11 := Lib.hid hz11
  have H11 := Lib.hid (Drop_yes h11 (Wm.ok_W1 HNS.out _ _ (by decide) _) (fok_W1 HNS.out (by omega) (by rw [HFC.out]; decide)) (Wm.alive_W1n HS11.out (by decide)) (fun m hm => by
      have : m = 1 := by simpa [Wm.W1] using hm
      omega) 1 (by decide) (by show (1 : Int) < ((2 : Nat) : Int); decide) (D' := Wm.D1 name d1 (Wm.frame ⟨#[97]⟩).data.toList.length) rfl)
  clear h11 hs11 hz11
  go_wp2_with fail
  refine H11.out.mono ?_
  rintro e w12 ⟨rfl, h12⟩
  have H12 := Lib.hid (show WalIn w w12 a (Wm.D1 name d1 (Wm.frame ⟨#[97]⟩).data.toList.length) b8 (Wm.W1 name d1 (Wm.frame ⟨#[99]⟩) 2 false) _ from h12)
  clear h12 H11
  go_wp2_with fail
  refine (first_c H12.out (n := 1) (r := []) rfl (by show 1 ≤ 1000; decide) 1 rfl).mono ?_
  rintro e w13 ⟨rfl, rfl⟩
  have mk1 := MK1.out
  have cv1 := text_noughts 20000 w12.heap.size (w12.alloc (.cells (noughts 20000) 5)) (heap_alloc_new w12 _)
  have H13 := Lib.hid (append_W1n ((H12.out.alloc (.cells (noughts 20000) 5)).sub (List.sublist_cons_self _ _)) HNS.out (by have := HZ11.out; omega) (by rw [HFC.out]; decide) HS11.out (by decide) (zeros 20000) (by rw [zeros_size]; decide))
  clear H12
  go_wp2_with fail
  clear mk1 cv1
  refine H13.out.mono ?_
  rintro e w14 ⟨rfl, h14⟩
  have hs14 := suffix_app HS11.out (Wm.frame (zeros 20000))
  have hz14 : (d1 ++ Wm.frame (zeros 20000)).size = 20026 := by rw [ByteArray.size_append, HZ11.out, HFZ.out]
  have hy14 : (Wm.frame ⟨#[99]⟩ ++ Wm.frame (zeros 20000)).size = 20017 := by rw [ByteArray.size_append, HFC.out, HFZ.out]
  clear H13
  obtain ⟨d2, hd2⟩ : ∃ d, d1 ++ Wm.frame (zeros 20000) = d := ⟨_, rfl⟩
  obtain ⟨t2, ht2⟩ : ∃ d, Wm.frame ⟨#[99]⟩ ++ Wm.frame (zeros 20000) = d := ⟨_, rfl⟩
  rw [hd2] at h14 hs14 hz14
  rw [ht2] at h14 hs14 hy14
  clear hd2 ht2
  have H14 := Lib.hid (append_next h14 HN.out (by omega) (by omega) (by omega) hs14 ⟨#[100]⟩ (by decide))
  clear h14 hs14 hz14 hy14
  go_wp2_with fail
  refine H14.out.mono ?_
  rintro e w15 ⟨rfl, h15⟩
  have HFD := Lib.hid (show (Wm.frame ⟨#[100]⟩).size = 9 from frame_len8 _)
  have H15 := Lib.hid (Drop_yes h15 (D' := Wm.dsk (Dm.del (Wm.F5 name d2 (Wm.frame ⟨#[100]⟩) d2.data.toList.length) (Wm.file1 name))) ⟨Wm.logOf_size HNS.out, by simp [Wm.W5], by simp [Wm.W5], by show 4 ≤ 98; decide⟩ ⟨name_fits (Wm.logOf name) 4 (Wm.logOf_size HNS.out) (by decide), by have := HFD.out; show (Wm.frame ⟨#[100]⟩).size ≤ 1048576; omega, by have := HFD.out; show (Wm.frame ⟨#[100]⟩).size ≤ 1048576; omega, Nat.zero_le _⟩ Wm.alive_W5 (fun m hm => by
      have : m = 1 ∨ m = 4 := by simpa [Wm.W5] using hm
      omega) 3 (by decide) (by show (3 : Int) < ((4 : Nat) : Int); decide) (Wm.remove15 _ _ _ _))
  clear h15 H14
  go_wp2_with fail
  refine H15.out.mono ?_
  rintro e w16 ⟨rfl, h16⟩
  have H16 := Lib.hid h16
  clear h16 H15
  go_wp2_with fail
  refine (first_c H16.out (n := 4) (r := []) rfl (by show 1 ≤ 1000; decide) 4 rfl).mono ?_
  rintro e w17 ⟨rfl, rfl⟩
  go_wp2_with fail
  refine (last_c H16.out 4 rfl).mono ?_
  rintro e w17 ⟨rfl, rfl⟩
  have mk2 := MK2.out
  have cv2 := text_noughts 65537 w16.heap.size (w16.alloc (.cells (noughts 65537) 5)) (heap_alloc_new w16 _)
  have H17 := Lib.hid (Append_long ((H16.out.alloc (.cells (noughts 65537) 5)).sub (List.sublist_cons_self _ _)) (zeros 65537) (by rw [zeros_size]; unfold maxLen; omega) (by rw [zeros_size]; omega))
  clear H16
  go_wp2_with fail
  clear mk2 cv2
  refine H17.out.mono ?_
  rintro e w18 ⟨rfl, h18⟩
  have H18 := Lib.hid h18.below
  clear h18 H17
  go_wp2_with fail
  refine (openArg (w0 := w) (a := a) (D := Dm.new) ⟨#[87]⟩ (by decide) HNN.out).mono ?_
  rintro e w19 ⟨rfl, hb19⟩
  have H19 := Lib.hid (H18.out.trans (hb19.mono H18.out.size))
  clear hb19 H18
  go_wp2_with fail
  refine (walAwake_any _).mono ?_
  rintro e w20 ⟨rfl, hb20⟩
  have H20 := Lib.hid (H19.out.trans (hb20.mono H19.out.size))
  clear hb20 H19
  go_wp2_with fail
  go_ret
  exact ⟨rfl, H20.out⟩
end Go.Proofs.YtoecbkndbcblpaaGreatDoor
namespace Go.Proofs.YtoecbkndbcblpaaGreatDoor
open Go.ChangeShapes Go.WideShapes Go.ChangeAt Go.RowKit
open Go.ChangeMaps (open_string shut_string)

set_option maxRecDepth 100000 in
theorem walKnown_lifted (os : Os) (started : os.Started) (H : Type) (enc : TypeId × Value → H) :
    ReturnsInHanded {} Tryz.checked os 3 .any (fun w args => (Rows.walKnownSpec.pre enc Tryz.prog Tryz.f3 [] false w args ∧ laidMetH Tryz.prog Rows.walKnownRow.laid w) ∧ sizedMet enc Tryz.prog Tryz.f3 (OpenSpec.ofChange Rows.walKnownSpec) false w args)
      (Rows.walKnownSpec.post enc Tryz.prog Tryz.f3 false true false false) := by
  refine returnsInHanded_of_change_and (C := Tryz.checked) (X := fun w _ => laidMetH Tryz.prog Rows.walKnownRow.laid w) (fun _ _ _ hh h => h.of_heap hh) own started (by kernel_rfl) Tryz.func3
    (ChangeSpec.witness_shaped (enc := enc) (C := Tryz.checked) (os := os) (X := fun w _ => laidMetH Tryz.prog Rows.walKnownRow.laid w) false (World.laidAll Tryz.prog os Rows.walKnownRow.laid) #[] 8 (World.laidAll_os _ _ _)
      (World.shaped_of_ZipB (by kernel_rfl) (by kernel_rfl)) (by kernel_rfl) (by kernel_rfl) (by kernel_rfl)
      (by rw [MakeChecks.laidMetH_plain _ _ _ (by kernel_rfl)]; exact laidMet_laidAll _ (by kernel_rfl) (by kernel_rfl))) ?_
  intro W base args ds gs before hval0 hW _ _ _ _
  have hval : ∀ (j : Nat) t v, Tryz.f3.params[j]? = some t → args[j]? = some v → Value.okWide Tryz.prog W .any base t v := hval0
  have hW' := hW
  obtain ⟨p, q, hA0, hV, rfl, hfz, hnd⟩ := hW
  have hA : DataW.TrodAll enc Tryz.prog W 0 (fun _ => true) true Tryz.f3.params.toList args.toList ds p := hA0
  rw [Tryz.params3] at hA hval
  obtain ⟨rfl, rfl, rfl⟩ := trodAll_none hA
  obtain ⟨rfl, rfl⟩ := trodVars_none hV
  clear hA0 hval0
  refine (walKnown_any W).mono fun e W' ⟨he, hb⟩ => ?_
  exact ⟨_, he, law_post hW' rfl (by kernel_rfl) rfl rfl hb⟩

theorem walKnown_holds : Rows.WalKnownSaid :=
  OpenClaim.holds_of_wide 3 Tryz.f3 rfl rfl rfl rfl rfl rfl rfl ⟨rfl, rfl, rfl, rfl, rfl⟩ rfl rfl rfl rfl rfl (by kernel_rfl) Tryz.func3 (by kernel_rfl)
    (of_decide_eq_true (by kernel_rfl)) (by unfold Func.isWrapper; first | (rw [if_pos (by decide +kernel)]; kernel_rfl) | (rw [if_neg (by decide +kernel)]; exact ⟨rfl, rfl⟩))
    (fun os started H enc _ => walKnown_lifted os started H enc)
/-- THE CARD. -/
theorem walKnown_card : Rows.WalKnownCardSaid :=
  Claim7.holds_tied_plain_at .later [] [.data, .data, .data, .data, .sentinel, .sentinel, .pinned] true (true, "13d47d7c3c5517ad4345e6e2bce0f9a263130bdfdb80ece8ac14669d67e50369") true walKnown_holds (fun _ h => by cases h) (by kernel_rfl) (fun _ h => by cases h) walKnown_row_tie rfl ⟨rfl, rfl⟩ (by kernel_rfl) rfl
    (fun f fn hf hfn => by
      obtain rfl : f = 3 := Option.some.inj ((show Tryz.prog.funcNamed "redress/redresslaw04.WalKnown" = some 3 by kernel_rfl).symm.trans hf) |>.symm
      obtain rfl : fn = Tryz.f3 := (Option.some.inj (Tryz.func3.symm.trans hfn)).symm
      exact ⟨by kernel_rfl, fun j t ht => by
        rw [Tryz.params3] at ht
        simp at ht⟩)
    (by kernel_rfl)
end Go.Proofs.YtoecbkndbcblpaaGreatDoor
