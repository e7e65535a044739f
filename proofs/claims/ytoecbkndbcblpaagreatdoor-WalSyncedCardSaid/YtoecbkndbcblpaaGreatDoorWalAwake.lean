/-
  Plain facts on a disk that has just one file, a log's first one: what each call makes of it. Conditions: those in the theorems.
  A log whose only file is its first one: Append, Sync, the power goes and comes back, it is opened again. Conditions: those in the theorems.
  Walks over the laws of package wal: awake. No condition.
-/
import Derived.Test.YtoecbkndbcblpaaGreatDoorWalPlain
import Derived.Test.YtoecbkndbcblpaaGreatDoorWalRead2
import Derived.Test.YtoecbkndbcblpaaGreatDoorWalAppend
import Derived.Test.YtoecbkndbcblpaaGreatDoorWalDo2
import Derived.Test.YtoecbkndbcblpaaGreatDoorWalFew
namespace Wm
open Dm (Disk)
/-- A disk with one file. -/
def one (dn : Bool) (k d : List UInt8) (s : Nat) : Disk := ⟨dn, 0, false, 0, [(k, ⟨d, s⟩)]⟩
def file1 (name : ByteArray) : List UInt8 := (nameOf (logOf name) 1).data.toList
theorem get_one (dn : Bool) (k d : List UInt8) (s : Nat) : Dm.get (one dn k d s).files k = some ⟨d, s⟩ := by simp [one, Dm.get]
theorem get_one_not {dn : Bool} {k d : List UInt8} {s : Nat} {n : List UInt8} (h : n ≠ k) : Dm.get (one dn k d s).files n = none := by
  simp [one, Dm.get]; exact fun e => h e.symm
theorem create_one {k : List UInt8} (h : Dm.isName k = true) : Dm.create Dm.new k = (0, one false k [] 0) := by
  simp [Dm.create, Dm.new, h, Dm.get, Dm.change, Dm.put, Dm.del, Dm.ins, one]
theorem append_one {k d t : List UInt8} {s : Nat} (h : d.length + t.length ≤ 1048576) : Dm.append (one false k d s) k t = (0, one false k (d ++ t) s) := by
  have e : ¬ 1048576 < d.length + t.length := by omega
  simp [Dm.append, one, Dm.get, Dm.change, Dm.adds, Dm.upd, e]
theorem sync_one (k d : List UInt8) (s : Nat) : Dm.sync (one false k d s) k = (0, one false k d d.length) := by
  simp [Dm.sync, one, Dm.get, Dm.change, Dm.syncs, Dm.upd]
theorem crash_one {k d : List UInt8} {s : Nat} (h : s ≤ d.length) : Dm.crash (one false k d s) [] = one true k (d.take s) s := by
  unfold Dm.crash one
  simp only [Dm.cut, Dm.cutOne]
  by_cases e : d.length = s
  · rw [if_pos e, ← e, List.take_length]
  · rw [if_neg e]
theorem start_one (k d : List UInt8) : Dm.start (one true k d d.length) = one false k d d.length := by
  simp [Dm.start, one, Dm.cut, Dm.cutOne]
theorem read_one (k d : List UInt8) (s : Nat) : Dm.read (one false k d s) k = (d, 0) := by simp [Dm.read, one, Dm.get]
theorem read_one_not {k d n : List UInt8} {s : Nat} (h : n ≠ k) : Dm.read (one false k d s) n = ([], 4) := by
  unfold Dm.read; rw [get_one_not h]; rfl
theorem sweep_one {log : ByteArray} {k d : List UInt8} {s : Nat} (h : (spare log).data.toList ≠ k) : sweep (one false k d s) log = (0, one false k d s) := sweep_none rfl (get_one_not h)
theorem right_one {dn : Bool} {k d : List UInt8} {s : Nat} (hk : Dm.isName k = true) (h : s ≤ d.length) (hd : d.length ≤ 1048576) : Dm.Right (one dn k d s) :=
  ⟨List.pairwise_singleton _ _, fun p hp => by rw [List.mem_singleton.1 hp]; exact hk, by simp [one], fun p hp => by rw [List.mem_singleton.1 hp]; exact ⟨h, hd⟩, by simp [one], by simp [one]⟩

theorem logOf_list (name : ByteArray) : (logOf name).data.toList = name.data.toList ++ [46] := by
  unfold logOf; rw [ByteArray.data_append]; simp
theorem file1_eq (name : ByteArray) : file1 name = name.data.toList ++ [46] ++ nineteen 1 := by unfold file1; rw [nameOf_list, logOf_list]
theorem letters_byte (c : UInt8) (h : alphabet.contains c = true) : Dm.nameByte c = true := by
  revert c
  have : ∀ c ∈ alphabet, Dm.nameByte c = true := by decide
  intro c h
  exact this c (by simpa using h)
theorem digit_byte (c : UInt8) (h : 48 ≤ c.toNat ∧ c.toNat ≤ 57) : Dm.nameByte c = true := by
  have h1 : (48 : UInt8) ≤ c := by rw [UInt8.le_iff_toNat_le]; exact h.1
  have h2 : c ≤ (57 : UInt8) := by rw [UInt8.le_iff_toNat_le]; exact h.2
  simp [Dm.nameByte, h1, h2]
theorem file1_name {name : ByteArray} (h : isName name = true) : Dm.isName (file1 name) = true := by
  obtain ⟨h1, h2, h3⟩ := (isName_iff name).1 h
  obtain ⟨n1, n2, -⟩ := nineteen_facts 1 (by decide)
  have hs : name.data.toList.length = name.size := by rw [Array.length_toList]; rfl
  rw [file1_eq]
  have hl : (name.data.toList ++ [46] ++ nineteen 1).length = name.size + 20 := by
    rw [List.length_append, List.length_append, n1, hs]; rfl
  have ha : (name.data.toList ++ [46] ++ nineteen 1).all Dm.nameByte = true := by
    rw [List.all_eq_true]
    intro c hc
    rcases List.mem_append.1 hc with hc | hc
    · rcases List.mem_append.1 hc with hc | hc
      · exact letters_byte c (h3 c hc)
      · rw [List.mem_singleton.1 hc]; decide
    · exact digit_byte c (n2 c hc)
  unfold Dm.isName
  rw [hl, ha]
  have e1 : 1 ≤ name.size + 20 := by omega
  have e2 : name.size + 20 ≤ 32 := by omega
  simp [e1, e2]
theorem spare_file1 (name : ByteArray) : (spare (logOf name)).data.toList ≠ file1 name := by
  intro e
  have h := congrArg List.length e
  unfold spare at h
  rw [file1_eq, ByteArray.data_append] at h
  obtain ⟨n1, -, -⟩ := nineteen_facts 1 (by decide)
  simp [logOf_list, n1] at h
theorem file2_file1 (name : ByteArray) : (nameOf (logOf name) 2).data.toList ≠ file1 name := by
  intro e
  rw [file1_eq, nameOf_list, logOf_list] at e
  have h := List.append_cancel_left e
  obtain ⟨-, -, v2⟩ := nineteen_facts 2 (by decide)
  obtain ⟨-, -, v1⟩ := nineteen_facts 1 (by decide)
  rw [h, v1] at v2
  cases v2
theorem keys_one (dn : Bool) (k d : List UInt8) (s : Nat) : Dm.keys (one dn k d s).files = [k] := rfl
theorem chunks_nil (n : Nat) : chunks n [] = ([], []) := chunks_none (by
  cases e : Go.Proofs.YtoecbkndbcblpaaGreatDoor.Sm.behind [] 0 with
  | none => rfl
  | some e' => have := Go.Proofs.YtoecbkndbcblpaaGreatDoor.Sm.behind_le e; simp at this; omega)
theorem chunks_one {n : Nat} {l b : List UInt8} {e : Nat} (h1 : Go.Proofs.YtoecbkndbcblpaaGreatDoor.Sm.behind l 0 = some e) (h2 : Go.Proofs.YtoecbkndbcblpaaGreatDoor.Sm.bodyAt l 0 e = b) (h3 : l.drop e = []) : chunks (n + 1) l = ([b], []) := by
  rw [chunks_some h1, h2, h3, chunks_nil]
/-- What is read of one frame is its body. -/
theorem frames_one (b : List UInt8) (hb : b.length ≤ 65536) : frames (Go.Proofs.YtoecbkndbcblpaaGreatDoor.Sm.frame b) = ([b], []) := by
  have hl := Go.Proofs.YtoecbkndbcblpaaGreatDoor.Sm.frame_len b
  have h1 := Go.Proofs.YtoecbkndbcblpaaGreatDoor.Sm.behindAt_frame [] b [] hb
  have h2 := Go.Proofs.YtoecbkndbcblpaaGreatDoor.Sm.bodyAt_frame [] b []
  simp only [List.nil_append, List.append_nil, List.length_nil, Nat.zero_add] at h1 h2
  generalize Go.Proofs.YtoecbkndbcblpaaGreatDoor.Sm.frame b = l at *
  obtain ⟨n, hn⟩ : ∃ n, l.length = n + 1 := ⟨b.length + 7, hl⟩
  unfold frames
  rw [hn]
  exact chunks_one (e := 8 + b.length) (by unfold Go.Proofs.YtoecbkndbcblpaaGreatDoor.Sm.behind; rw [if_neg (Int.lt_irrefl 0), Int.toNat_zero]; exact h1) h2 (List.drop_eq_nil_of_le (by omega))
end Wm
namespace Wm
/-- A log of one file, that has the bytes d; t: those of them that Sync didn't come behind; l records. -/
def W1 (name d t : ByteArray) (l : Nat) (dead : Bool) : W := ⟨⟨nameOf (logOf name) 1, d.size, t, ⟨#[]⟩⟩, logOf name, [1], l, dead⟩
def D1 (name d : ByteArray) (s : Nat) : Dm.Disk := one false (file1 name) d.data.toList s
theorem logOf_size {name : ByteArray} (h : name.size ≤ 12) : (logOf name).size ≤ 13 := by
  have h1 : (⟨#[46]⟩ : ByteArray).size = 1 := rfl
  unfold logOf; rw [ByteArray.size_append, h1]; omega
theorem ok_W1 {name : ByteArray} (h : name.size ≤ 12) (d t : ByteArray) {l : Nat} (hl : l ≤ 98) (dead : Bool) : Ok (W1 name d t l dead) := ⟨logOf_size h, by simp [W1], by simp [W1], hl⟩
theorem suffix_nil (l : List UInt8) : suffix l [] = true := by simp [suffix]
theorem alive_W1 {name d t : ByteArray} {s l : Nat} (ht : suffix d.data.toList t.data.toList = true) (hl : l = 0 ∨ l = 1) : alive (D1 name d s) (W1 name d t l false) = true := by
  have hr : Dm.read (D1 name d s) (nameOf (logOf name) 1).data.toList = (d.data.toList, 0) := read_one _ _ _
  have hs : stands (D1 name d s) (W1 name d t l false).f = true := by
    have e : (⟨#[]⟩ ++ t : ByteArray) = t := by apply ByteArray.ext; rw [ByteArray.data_append]; simp
    unfold stands W1
    simp only [hr, e, ht]
    have : d.data.toList.length = d.size := by rw [Array.length_toList]; rfl
    simp [this]
  unfold alive
  rw [hs]
  rcases hl with rfl | rfl
  · simp [W1, empty]
  · have h2 : Dm.read (D1 name d s) (nameOf (logOf name) 2).data.toList = ([], 4) := read_one_not (file2_file1 name)
    simp [W1, h2]
/-- A log whose file was cut does nothing any more. -/
theorem notAlive_W1 {name d e t : ByteArray} {s l : Nat} (h : d.size ≠ e.size) : alive (D1 name d s) (W1 name e t l false) = false := by
  have hr : Dm.read (D1 name d s) (nameOf (logOf name) 1).data.toList = (d.data.toList, 0) := read_one _ _ _
  have hs : stands (D1 name d s) (W1 name e t l false).f = false := by
    unfold stands W1
    simp only [hr]
    have : d.data.toList.length = d.size := by rw [Array.length_toList]; rfl
    simp [this, h]
  unfold alive
  rw [hs]; simp
theorem dead_W1 {D : Dm.Disk} {name e t : ByteArray} {l : Nat} : alive D (W1 name e t l true) = false := by simp [alive, W1]
end Wm
namespace Go.Proofs.YtoecbkndbcblpaaGreatDoor
open Go.RowKit Go.Maps Go.Sort Go.Shelf
section
variable {w0 w w' : World} {a b : Nat} {D D' : Dm.Disk} {B : List (Nat × Obj)} {W : Wm.W}
theorem crash_wi (h : WalIn w0 w a D b W B) :
    Calls Tryz.prog 13 #[.pointer (some ⟨a, 0, none⟩), .slice none 0 0] w fun e w' => e = .returned (.tuple #[]) ∧ WalIn w0 w' a (Dm.crash D []) b W B := by
  obtain ⟨v, R, h1, h2⟩ := h
  exact (crash_b0 h1).mono fun _ _ ⟨he, hd⟩ => ⟨he, v, R, hd, h2⟩
theorem start_wi (h : WalIn w0 w a D b W B) :
    Calls Tryz.prog 14 #[.pointer (some ⟨a, 0, none⟩)] w fun e w' => e = .returned (.tuple #[]) ∧ WalIn w0 w' a (Dm.start D) b W B := by
  obtain ⟨v, R, h1, h2⟩ := h
  exact (start_b h1).mono fun _ _ ⟨he, hd⟩ => ⟨he, v, R, hd, h2⟩
theorem fok_W1 {name d t : ByteArray} {l : Nat} {dead : Bool} (hn : name.size ≤ 12) (hd : d.size ≤ 1048576) (ht : t.size ≤ 1048576) : FOk (Wm.W1 name d t l dead).f :=
  ⟨name_fits (Wm.logOf name) 1 (Wm.logOf_size hn) (by decide), hd, ht, Nat.zero_le _⟩
theorem write_W1 {name d t fr : ByteArray} {s l : Nat} {dead : Bool} (h : d.size + fr.size ≤ 1048576) :
    Wm.write (Wm.D1 name d s) (Wm.W1 name d t l dead).f fr = (0, Wm.D1 name (d ++ fr) s, (Wm.W1 name (d ++ fr) (t ++ fr) l dead).f) := by
  have e1 : d.data.toList.length = d.size := by rw [Array.length_toList]; rfl
  have e2 : fr.data.toList.length = fr.size := by rw [Array.length_toList]; rfl
  have ha : Dm.append (Wm.D1 name d s) (Wm.nameOf (Wm.logOf name) 1).data.toList fr.data.toList = (0, Wm.D1 name (d ++ fr) s) := by
    unfold Wm.D1
    rw [show (d ++ fr).data.toList = d.data.toList ++ fr.data.toList by rw [ByteArray.data_append]; simp]
    exact Wm.append_one (by omega)
  unfold Wm.write Wm.W1
  simp only [ha, ByteArray.size_append]
theorem append_W1 {name d t : ByteArray} {s l : Nat} (h : WalIn w0 w a (Wm.D1 name d s) b (Wm.W1 name d t l false) B) (hn : name.size ≤ 12) (hd : d.size < 16384) (hts : t.size ≤ 1048576) (ht : Wm.suffix d.data.toList t.data.toList = true) (hl : l = 0 ∨ l = 1) (x : ByteArray) (hx : x.size ≤ 65536) (hf : (Wm.frame x).size ≤ 100000) :
    Calls Tryz.prog 11 #[.pointer (some ⟨b, 0, none⟩), .string x] w fun e w' => e = .returned (.tuple #[.int .i64 (l + 1 : Nat), .int .i64 0]) ∧ WalIn w0 w' a (Wm.D1 name (d ++ Wm.frame x) s) b (Wm.W1 name (d ++ Wm.frame x) (t ++ Wm.frame x) (l + 1) false) B :=
  Append_yes (W' := { Wm.W1 name d t l false with f := (Wm.W1 name (d ++ Wm.frame x) (t ++ Wm.frame x) l false).f }) h (Wm.ok_W1 hn d t (by omega) false) (fok_W1 hn (by omega) hts) (Wm.alive_W1 ht hl) x hx (by show l ≤ 1000000; omega)
    fun _ _ h1 => put_w h1 (fok_W1 hn (by omega) hts) rfl hd (Wm.frame x) (by omega) (write_W1 (by omega))
theorem sync_W1 {name d t : ByteArray} {s l : Nat} (h : WalIn w0 w a (Wm.D1 name d s) b (Wm.W1 name d t l false) B) (hn : name.size ≤ 12) (hd : d.size ≤ 1048576) (hts : t.size ≤ 1048576) (ht : Wm.suffix d.data.toList t.data.toList = true) (hl : l = 0 ∨ l = 1) :
    Calls Tryz.prog 12 #[.pointer (some ⟨b, 0, none⟩)] w fun e w' => e = .returned (.int .i64 (0 : Nat)) ∧ WalIn w0 w' a (Wm.D1 name d d.data.toList.length) b (Wm.W1 name d ⟨#[]⟩ l false) B :=
  (Sync_yes h (Wm.ok_W1 hn d t (by omega) false) (fok_W1 hn hd hts) (Wm.alive_W1 ht hl) (c := 0) (f' := (Wm.W1 name d ⟨#[]⟩ l false).f) (D' := Wm.D1 name d d.data.toList.length) (by
    have hs : Dm.sync (Wm.D1 name d s) (Wm.nameOf (Wm.logOf name) 1).data.toList = (0, Wm.D1 name d d.data.toList.length) := Wm.sync_one _ _ _
    unfold Wm.sync Wm.W1
    simp only [hs]))
/-- A log is opened for the first time, on a new disk. -/
theorem open_first (h : Bx w0 w a Dm.new B) (name : ByteArray) (hn : Wm.isName name = true) :
    Calls Tryz.prog 8 #[.pointer (some ⟨a, 0, none⟩), .string name] w fun e w' => ∃ b v Rr, e = .returned (.tuple #[.pointer (some ⟨b, 0, none⟩), v, .int .i64 0]) ∧ WalIn w0 w' a (Wm.D1 name ⟨#[]⟩ 0) b (Wm.W1 name ⟨#[]⟩ ⟨#[]⟩ 0 false) (Rr ++ B) ∧ RecIs v Rr [] := by
  have hs := ((Wm.isName_iff name).1 hn).2.1
  exact open_new h name hs hn rfl Dm.Right.new (fun k hk => nomatch hk) (Wm.sweep_none rfl rfl) (Wm.create_one (Wm.file1_name hn))
/-- It is opened again, where its file has one frame, that was synced. -/
theorem open_again {name x : ByteArray} (h : Bx w0 w a (Wm.D1 name (Wm.frame x) (Wm.frame x).data.toList.length) B) (hn : Wm.isName name = true) (hx : x.size ≤ 65536) :
    Calls Tryz.prog 8 #[.pointer (some ⟨a, 0, none⟩), .string name] w fun e w' => ∃ b v Rr, e = .returned (.tuple #[.pointer (some ⟨b, 0, none⟩), v, .int .i64 0]) ∧ WalIn w0 w' a (Wm.D1 name (Wm.frame x) (Wm.frame x).data.toList.length) b (Wm.W1 name (Wm.frame x) ⟨#[]⟩ 1 false) (Rr ++ B) ∧ RecIs v Rr [(1, x.data.toList)] := by
  have hs := ((Wm.isName_iff name).1 hn).2.1
  have hxl : x.data.toList.length ≤ 65536 := by rw [Array.length_toList]; exact hx
  have hfl : (Wm.frame x).data.toList = Sm.frame x.data.toList := by simp [Wm.frame]
  have hfr : Wm.frames (Wm.frame x).data.toList = ([x.data.toList], []) := by rw [hfl]; exact Wm.frames_one _ hxl
  have hright : Dm.Right (Wm.D1 name (Wm.frame x) (Wm.frame x).data.toList.length) := Wm.right_one (Wm.file1_name hn) (Nat.le_refl _) (by rw [hfl, Sm.frame_len]; omega)
  have hW : Wm.took (Wm.opening name) 1 (Wm.frame x) 1 = Wm.W1 name (Wm.frame x) ⟨#[]⟩ 1 false := by
    unfold Wm.took Wm.follow Wm.readF Wm.W1 Wm.opening
    rw [hfr]
    rfl
  refine open_ok h name hs hn rfl (W := Wm.W1 name (Wm.frame x) ⟨#[]⟩ 1 false) (fun w1 b hw1 => read_w hw1 (Wm.logOf_size hs) hright ?_)
    fun w1 b B1 hw1 => settle_some hw1 (Wm.ok_W1 hs _ _ (by decide) _) (fun n hn => by
      have : n = 1 := by simpa [Wm.W1] using hn
      omega) (D1 := Wm.D1 name (Wm.frame x) (Wm.frame x).data.toList.length) (Wm.syncAll_ok (Wm.sync_one _ _ _)) (Wm.sweep_one (Wm.spare_file1 name))
  have hrd : Dm.read (Wm.D1 name (Wm.frame x) (Wm.frame x).data.toList.length) (Wm.nameOf (Wm.opening name).log 1).data.toList = ((Wm.frame x).data.toList, 0) := Wm.read_one _ _ _
  refine Wm.Reads.file (ks := []) 1 (Wm.frame x) (Nat.le_refl _) (by decide) (.inl rfl) (Nat.zero_le _) hrd (by rw [hfr]; show 1 ≤ 1000; decide) (Nat.zero_le _) ?_
  rw [hfr]
  show Wm.Reads _ [] (Wm.took (Wm.opening name) 1 (Wm.frame x) 1) _ _ _
  rw [hW]
  exact .nil _ _
set_option maxRecDepth 100000 in
set_option maxHeartbeats 1000000 in
/-- A log of a disk whose power is off isn't opened. -/
theorem open_down (h : WalIn w0 w a D b W B) (name : ByteArray) (hs : name.size ≤ 1000) (hn : Wm.isName name = true) (hd : D.down = true) :
    Calls Tryz.prog 8 #[.pointer (some ⟨a, 0, none⟩), .string name] w fun e w' => e = .returned (.tuple #[.pointer none, .slice none 0 0, .int .i64 7]) ∧ WalIn w0 w' a D b W B := by
  have hi := walIsName_any name w (by unfold maxLen; omega)
  rw [hn] at hi
  have hdn := fun w1 (g : WalIn w0 w1 a D b W B) => down_b g.disk hd
  have H := Lib.hid h
  have HD := Lib.hid hdn
  clear h hn hd hdn
  go_enter Tryz.func8, Tryz.ntmps8
  go_wp2_with fail
  refine hi.mono ?_
  rintro e w1 ⟨rfl, hb1⟩
  have H1 := Lib.hid (H.out.same hb1)
  clear hb1 hi
  go_wp2_with fail
  refine (HD.out _ H1.out).mono ?_
  rintro e w2 ⟨rfl, rfl⟩
  go_wp2_with fail
  refine bodyPost_ret (v := .tuple #[.pointer none, .slice none 0 0, .int .i64 7]) (by simp [results, Tryz.results8, go_sem]) rfl ⟨rfl, H1.out⟩
end
end Go.Proofs.YtoecbkndbcblpaaGreatDoor
namespace Go.Proofs.YtoecbkndbcblpaaGreatDoor
open Go.RowKit Go.Maps Go.Sort Go.Shelf
theorem suffix_self (l m : List UInt8) : Wm.suffix (l ++ m) m = true := by simp [Wm.suffix]
theorem empty_add (x : ByteArray) : (⟨#[]⟩ : ByteArray) ++ x = x := by apply ByteArray.ext; rw [ByteArray.data_append]; simp
theorem frame_few (x : ByteArray) (hx : x.size ≤ 1000) : (Wm.frame x).size ≤ 2000 := by
  have h : (Wm.frame x).data.toList = Sm.frame x.data.toList := by simp [Wm.frame]
  have h2 : (Wm.frame x).size = (Wm.frame x).data.toList.length := by rw [Array.length_toList]; rfl
  have h3 : x.data.toList.length = x.size := by rw [Array.length_toList]; rfl
  rw [h2, h, Sm.frame_len]; omega
theorem data_len (x : ByteArray) : x.data.toList.length = x.size := by rw [Array.length_toList]; rfl
theorem take_app (x y : ByteArray) : (x ++ y).data.toList.take x.data.toList.length = x.data.toList := by
  rw [ByteArray.data_append]; simp
set_option maxRecDepth 100000 in
set_option maxHeartbeats 4000000 in
theorem walAwake_any (w : World) : Calls Tryz.prog 16 #[] w fun e w' => e = .returned (.bool true) ∧ Below w.heap.size w w' := by
  have hn : Wm.isName ⟨#[119]⟩ = true := (Wm.isName_iff _).2 ⟨by decide, by decide, by decide⟩
  have ha : (⟨#[97]⟩ : ByteArray).size ≤ 1000 := by decide
  have hb : (⟨#[98]⟩ : ByteArray).size ≤ 1000 := by decide
  obtain ⟨name, hname⟩ : ∃ n : ByteArray, n = ⟨#[119]⟩ := ⟨_, rfl⟩
  have hns : name.size ≤ 12 := by rw [hname]; decide
  rw [← hname] at hn
  have HN := Lib.hid hn
  have HNS := Lib.hid hns
  have HNAME := Lib.hid hname
  have HFA := Lib.hid (frame_few ⟨#[97]⟩ ha)
  have HFB := Lib.hid (frame_few ⟨#[98]⟩ hb)
  clear hn hns ha hb hname
  go_enter Tryz.func16, Tryz.ntmps16
  go_wp2_with fail
  refine (new_b (w0 := w) (Below.refl _ w)).mono ?_
  rintro e w1 ⟨a, rfl, h1⟩
  have HO := Lib.hid (open_first h1 name HN.out)
  rw [HNAME.out] at HO
  clear h1
  go_wp2_with fail
  refine HO.out.mono ?_
  rintro e w2 ⟨b, v, Rr, rfl, h2, hr2⟩
  obtain ⟨p2, cap2, rfl, -⟩ := hr2.shape
  rw [← HNAME.out] at h2
  have H2 := Lib.hid (append_W1 h2 HNS.out (by decide) (by decide) (by rfl) (.inl rfl) ⟨#[97]⟩ (by decide) (by have := HFA.out; omega))
  rw [empty_add] at H2
  clear h2 hr2 HO
  go_wp2_with fail
  refine H2.out.mono ?_
  rintro e w3 ⟨rfl, h3⟩
  have H3 := Lib.hid (sync_W1 h3 HNS.out (by have := HFA.out; omega) (by have := HFA.out; omega) (suffix_self [] _) (.inr rfl))
  clear h3 H2
  go_wp2_with fail
  refine H3.out.mono ?_
  rintro e w4 ⟨rfl, h4⟩
  have H4 := Lib.hid (append_W1 h4 HNS.out (by have := HFA.out; omega) (by decide) (by simp [Wm.suffix]) (.inr rfl) ⟨#[98]⟩ (by decide) (by have := HFB.out; omega))
  clear h4 H3
  go_wp2_with fail
  refine H4.out.mono ?_
  rintro e w5 ⟨rfl, h5⟩
  have H5 := Lib.hid (crash_wi h5)
  clear h5 H4
  go_wp2_with fail
  refine H5.out.mono ?_
  rintro e w6 ⟨rfl, h6⟩
  rw [show Dm.crash (Wm.D1 name (Wm.frame ⟨#[97]⟩ ++ Wm.frame ⟨#[98]⟩) (Wm.frame ⟨#[97]⟩).data.toList.length) [] = Wm.one true (Wm.file1 name) (Wm.frame ⟨#[97]⟩).data.toList (Wm.frame ⟨#[97]⟩).data.toList.length from by
    unfold Wm.D1
    rw [Wm.crash_one (by rw [ByteArray.data_append]; simp), take_app]] at h6
  have H6 := Lib.hid (start_b h6.disk)
  rw [Wm.start_one] at H6
  clear h6 H5
  go_wp2_with fail
  refine H6.out.mono ?_
  rintro e w7 ⟨rfl, h7⟩
  have H7 := Lib.hid (open_again (x := ⟨#[97]⟩) h7 HN.out (by decide))
  rw [HNAME.out] at H7
  clear h7 H6
  go_wp2_with fail
  refine H7.out.mono ?_
  rintro e w8 ⟨b8, v8, R8, rfl, h8, hr8⟩
  rcases hr8 with ⟨-, hnil, -⟩ | ⟨g, cap, cur, rfl, rfl, hc1, hc2, hc3, hc4⟩
  · cases hnil
  have hg := h8.box (g, .cells cur 35 (0, 0)) (by simp)
  have hq : ∀ i, i < 2 → cur[i]? = (recsCells [(1, (⟨#[97]⟩ : ByteArray).data.toList)])[i]? := fun i hi => by
    rw [← hc4, List.getElem?_take, if_pos (by simpa using hi), Array.getElem?_toList]
  have x0 : w8.cell? ⟨g, 0, none⟩ = some (.int .i64 1) := by
    rw [cell_of_row w8 g _ _ _ _ hg, hq 0 (by decide)]; rfl
  have x1 : w8.cell? ⟨g, 1, none⟩ = some (.string ⟨#[97]⟩) := by
    rw [cell_of_row w8 g _ _ _ _ hg, hq 1 (by decide)]; rfl
  have hl := last_w h8
  have HB := Lib.hid h8.below
  have HL := Lib.hid hl
  have i1 : (1 : Int) ≤ (cap : Int) := by simp at hc1; omega
  clear H7 h8 hg hl hq hc1 hc2 hc3 hc4
  simp only [List.length_cons, List.length_nil, Nat.zero_add]
  go_wp2_with fail
  refine HL.out.mono ?_
  rintro e w9 ⟨rfl, rfl⟩
  go_wp2_with fail
  go_ret
  exact ⟨rfl, HB.out⟩
end Go.Proofs.YtoecbkndbcblpaaGreatDoor
