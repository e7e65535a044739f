/-
  Walks over package sum: numbers of four bytes, the place behind a frame. No conditions but those in the theorems.
  Walks over package sum: the place behind a frame. No conditions but those in the theorems.
  Walks over package sum: a body's clone, frames, what is at a place. No conditions but those in the theorems.
-/
import Derived.Test.YtbhjpkejdkfenaaGreatDoorRows
import Derived.Test.YtbhjpkejdkfenaaGreatDoorSumMath
import Derived.Test.YtbhjpkejdkfenaaGreatDoorSumWalkA
import Derived.WalkKit
import Derived.WalkSpells
import Derived.WalkLawsBesides
import Derived.Handy
import Derived.Lib.Hide
import Derived.Deep.QuietTactic
import Derived.BigQuiet
import Derived.Deep.RegionHeld3
import Derived.Lib.SlBytesRow
import Derived.Deep.MidRow
import Derived.Test.YtbhjpkejdkfenaaGreatDoorSumShelf
import Derived.Lib.ConvBytes
namespace Go.Proofs.YtbhjpkejdkfenaaGreatDoor
open Go.RowKit

theorem byte_getD (s : ByteArray) (k : Nat) (h : k < s.size) : s[k].toNat = (s.data.toList.getD k 0).toNat := by
  rw [List.getD_eq_getElem?_getD, List.getElem?_eq_getElem (by simpa using h)]; rfl

theorem or_join (i x y : Nat) (hx : x % 2 ^ i = 0) (hy : y < 2 ^ i) : y ||| x = y + x := by
  rw [Nat.or_comm, nat_join i x y hx hy, Nat.add_comm]

theorem number_eq (s : ByteArray) (hs : 4 ≤ s.size) :
    bits BinOp.or IntKind.u32
            (bits BinOp.or IntKind.u32
              (bits BinOp.or IntKind.u32 ((s[0].toNat : Int) % 4294967296) ((s[1].toNat : Int) % 4294967296 * 256 % 4294967296))
              ((s[2].toNat : Int) % 4294967296 * 65536 % 4294967296))
            ((s[3].toNat : Int) % 4294967296 * 16777216 % 4294967296) = ((Sm.num s.data.toList : Nat) : Int) := by
  have h0 := s[0].toNat_lt
  have h1 := s[1].toNat_lt
  have h2 := s[2].toNat_lt
  have h3 := s[3].toNat_lt
  have e0 : (s[0].toNat : Int) % (4294967296 : Int) = ((s[0].toNat : Nat) : Int) := by omega
  have e1 : (s[1].toNat : Int) % (4294967296 : Int) * (256 : Int) % (4294967296 : Int) = ((s[1].toNat * 256 : Nat) : Int) := by omega
  have e2 : (s[2].toNat : Int) % (4294967296 : Int) * (65536 : Int) % (4294967296 : Int) = ((s[2].toNat * 65536 : Nat) : Int) := by omega
  have e3 : (s[3].toNat : Int) % (4294967296 : Int) * (16777216 : Int) % (4294967296 : Int) = ((s[3].toNat * 16777216 : Nat) : Int) := by omega
  rw [e0, e1, e2, e3, u32_or_nat _ _ (by omega) (by omega), or_join 8 _ _ (by omega) (by omega), u32_or_nat _ _ (by omega) (by omega), or_join 16 _ _ (by omega) (by omega),
    u32_or_nat _ _ (by omega) (by omega), or_join 24 _ _ (by omega) (by omega), byte_getD, byte_getD, byte_getD, byte_getD]
  rfl

set_option maxHeartbeats 400000 in
theorem number_any (s : ByteArray) (w : World) (hs : 4 ≤ s.size) (hm : s.size ≤ maxLen) :
    Calls Tryz.prog 145 #[.string s] w fun e w' => e = .returned (.int .u32 (Sm.num s.data.toList : Nat)) ∧ ∃ n, w' = w.drewN n := by
  unfold maxLen at hm
  have h0 : 0 < s.size := by omega
  have h1 : 1 < s.size := by omega
  have h2 : 2 < s.size := by omega
  have h3 : 3 < s.size := by omega
  have i1 : (1 : Int) < (s.size : Int) := by omega
  have i2 : (2 : Int) < (s.size : Int) := by omega
  have i3 : (3 : Int) < (s.size : Int) := by omega
  have HE := Lib.hid (number_eq s hs)
  go_enter Tryz.func145, Tryz.ntmps145
  go_wp2
  go_quiet (fail)
  go_wp2
  go_ret
  exact ⟨ret_int HE.out, _, rfl⟩

/-- The bytes of a number, in the walk's spelling. -/
theorem four_eq (n : Nat) (hn : n < 4294967296) (w : World) (b : Nat) (hw : w.heap[b]? = some (.cells #[Value.int IntKind.u8 ((n : Int) % 256), Value.int IntKind.u8 ((n : Int) / 256 % 256), Value.int IntKind.u8 ((n : Int) / 65536 % 256), Value.int IntKind.u8 ((n : Int) / 16777216)] 5)) :
    (convert 104 9 (Value.slice (some ⟨b, 0, none⟩) 4 4)).run Tryz.prog w = .ok (.string ⟨(Sm.four n).toArray⟩) w := by
  have h := run_convert_bytes_back (P := Tryz.prog) w 104 9 5 ⟨b, 0, none⟩ 4 (Sm.four n) Tryz.underlying104 Tryz.underlying5 Tryz.underlying9 ?_
  · exact h
  · intro j hj
    have hadd : (⟨b, 0, none⟩ : Addr).add j = ⟨b, j, none⟩ := by unfold Addr.add; split <;> simp_all
    rw [hadd, cell_of_row w b j _ _ _ hw]
    obtain rfl | rfl | rfl | rfl : j = 0 ∨ j = 1 ∨ j = 2 ∨ j = 3 := by have := Sm.four_len n; omega
    all_goals simp [Sm.four]
    all_goals omega

set_option maxHeartbeats 400000 in
theorem four_any (n : Nat) (w : World) (hn : n < 4294967296) :
    Calls Tryz.prog 105 #[.int .u32 (n : Int)] w fun e w' => e = .returned (.string ⟨(Sm.four n).toArray⟩) ∧ Below w.heap.size w w' := by
  have hq := four_eq n hn (w.alloc
            (Obj.cells
              #[Value.int IntKind.u8 ((n : Int) % 256), Value.int IntKind.u8 ((n : Int) / 256 % 256),
                Value.int IntKind.u8 ((n : Int) / 65536 % 256), Value.int IntKind.u8 ((n : Int) / 16777216)]
              5)) w.heap.size (heap_alloc_new w _)
  go_enter Tryz.func105, Tryz.ntmps105
  go_wp2
  go_ret
  exact ⟨rfl, by go_grown⟩

end Go.Proofs.YtbhjpkejdkfenaaGreatDoor
namespace Go.Proofs.YtbhjpkejdkfenaaGreatDoor
open Go.RowKit

theorem info54 : (Tryz.prog.info? 165).map (·.size) = some (fourTab 16).size := by rw [fourTab_size]; kernel_rfl
theorem extract_list (s : ByteArray) (i j : Nat) : (s.extract i j).data.toList = (s.data.toList.drop i).take (j - i) := by
  simp [ByteArray.data_extract, Array.toList_extract, List.extract_eq_take_drop]
theorem ext_le {s : ByteArray} (i j : Nat) (h : s.size ≤ maxLen) : (s.extract i j).size ≤ maxLen := by rw [ByteArray.size_extract]; unfold maxLen at *; omega
theorem num_take (l : List UInt8) : Sm.num (l.take 4) = Sm.num l := by
  have e : ∀ k, k < 4 → (l.take 4).getD k 0 = l.getD k 0 := by
    intro k hk; simp only [List.getD_eq_getElem?_getD]; rw [List.getElem?_take_of_lt hk]
  unfold Sm.num
  rw [e 0 (by omega), e 1 (by omega), e 2 (by omega), e 3 (by omega)]

/-- The place behind the frame at a place, as the call answers it. -/
def told (o : Option Nat) : Value := match o with
  | some e => .tuple #[.int .i64 (e : Nat), .bool true]
  | none => .tuple #[.int .i64 0, .bool false]

theorem below_drewN {B : Nat} {a w : World} (h : Below B a w) (q : Nat) : Below B a (w.drewN q) := h.trans ⟨rfl, rfl, rfl, Nat.le_refl _, fun _ _ => rfl⟩
theorem below_drewN' {B : Nat} {w : World} (q : Nat) : Below B w (w.drewN q) := ⟨rfl, rfl, rfl, Nat.le_refl _, fun _ _ => rfl⟩
theorem keep_below {w W w2 : World} {cs : List Value} (h1 : W.rangeAt w.heap.size 0 cs) (h2 : Below w.heap.size w W) (h3 : w.heap.size < W.heap.size) (hb : Below W.heap.size W w2) :
    w2.rangeAt w.heap.size 0 cs ∧ Below w.heap.size w w2 ∧ w.heap.size < w2.heap.size :=
  ⟨fun j v hv => (hb.cell h3).trans (h1 j v hv), h2.trans (hb.mono h2.size), Nat.lt_of_lt_of_le h3 hb.size⟩
theorem range_tab (w : World) : (w.alloc (.cells (fourTab 16) 165)).rangeAt w.heap.size 0 (fourTab 16).toList := by
  intro j v hv
  rw [Nat.zero_add, cell_of_row _ _ _ _ _ _ (heap_alloc_new w _)]
  simpa using hv

def pickB (b : Bool) (e : Nat) : Option Nat := if b then none else some e

set_option maxHeartbeats 400000 in
theorem behind_below (s : ByteArray) (a : Int) (w : World) (h0 : a < 0) :
    Calls Tryz.prog 132 #[.agg (fourTab 16), .string s, .int .i64 a] w fun e w' => e = .returned (told none) ∧ Below w.heap.size w w' := by
  have h1 := fourTab_size 16
  go_enter Tryz.func132, Tryz.ntmps132
  go_wp2
  go_ret2
  exact ⟨rfl, by go_grown⟩

set_option maxHeartbeats 400000 in
theorem behind_above (s : ByteArray) (k : Nat) (w : World) (hm : s.size ≤ maxLen) (h8 : (s.size : Int) - 8 < k) :
    Calls Tryz.prog 132 #[.agg (fourTab 16), .string s, .int .i64 (k : Int)] w fun e w' => e = .returned (told none) ∧ Below w.heap.size w w' := by
  have h1 := fourTab_size 16
  unfold maxLen at hm
  have h0 : ¬ (k : Int) < 0 := by omega
  go_enter Tryz.func132, Tryz.ntmps132
  go_wp2
  go_ret2
  exact ⟨rfl, by first | exact below_drewN ((Below.refl _ _).alloc (Nat.le_refl _) _) _ | exact (Below.refl _ _).alloc (Nat.le_refl _) _⟩

set_option maxHeartbeats 1000000 in
theorem behind_long (s : ByteArray) (k : Nat) (w : World) (hm : s.size ≤ maxLen) (h8 : ¬ (s.size : Int) - 8 < k) (n : Nat) (HN : Hid (Sm.num (s.extract k (k + 4)).data.toList = n)) (_hnl : n < 4294967296) (HX : Hid ((s.extract k (k + 4)).size = 4))
    (hn1 : decide (65536 < (n : Int)) = true) :
    Calls Tryz.prog 132 #[.agg (fourTab 16), .string s, .int .i64 (k : Int)] w fun e w' => e = .returned (told none) ∧ Below w.heap.size w w' := by
  have h1 := fourTab_size 16
  unfold maxLen at hm
  have h0 : ¬ (k : Int) < 0 := by omega
  go_enter Tryz.func132, Tryz.ntmps132
  go_wp2
  go_quiet (fail)
  go_wp2_with fail
  refine (number_any _ _ (by rw [HX.out]; omega) (by rw [HX.out]; unfold maxLen; omega)).mono ?_
  rintro e w1 ⟨rfl, q1, rfl⟩
  rw [HN.out]
  go_wp2
  go_ret2
  exact ⟨rfl, by first | exact below_drewN ((Below.refl _ _).alloc (Nat.le_refl _) _) _ | exact (Below.refl _ _).alloc (Nat.le_refl _) _⟩

set_option maxHeartbeats 1000000 in
theorem behind_beyond (s : ByteArray) (k : Nat) (w : World) (hm : s.size ≤ maxLen) (h8 : ¬ (s.size : Int) - 8 < k) (n : Nat) (HN : Hid (Sm.num (s.extract k (k + 4)).data.toList = n)) (hnl : n < 4294967296) (HX : Hid ((s.extract k (k + 4)).size = 4))
    (hn1 : decide (65536 < (n : Int)) = false) (hn2 : decide (s.size - (k + 8) < n) = true) :
    Calls Tryz.prog 132 #[.agg (fourTab 16), .string s, .int .i64 (k : Int)] w fun e w' => e = .returned (told none) ∧ Below w.heap.size w w' := by
  have h1 := fourTab_size 16
  unfold maxLen at hm
  have h0 : ¬ (k : Int) < 0 := by omega
  go_enter Tryz.func132, Tryz.ntmps132
  go_wp2
  go_quiet (fail)
  go_wp2_with fail
  refine (number_any _ _ (by rw [HX.out]; omega) (by rw [HX.out]; unfold maxLen; omega)).mono ?_
  rintro e w1 ⟨rfl, q1, rfl⟩
  rw [HN.out]
  go_wp2
  go_ret2
  exact ⟨rfl, by first | exact below_drewN ((Below.refl _ _).alloc (Nat.le_refl _) _) _ | exact (Below.refl _ _).alloc (Nat.le_refl _) _⟩

set_option maxRecDepth 100000 in
set_option maxHeartbeats 1000000 in
theorem behind_here (s : ByteArray) (k : Nat) (w : World) (hm : s.size ≤ maxLen) (h8 : ¬ (s.size : Int) - 8 < k) (n c m q : Nat) (HN : Hid (Sm.num (s.extract k (k + 4)).data.toList = n)) (hnl : n < 4294967296) (HX : Hid ((s.extract k (k + 4)).size = 4))
    (hn1 : decide (65536 < (n : Int)) = false) (hn2 : decide (s.size - (k + 8) < n) = false) (HC : Hid (Sm.more 0 (s.extract k (k + 4)).data.toList = c)) (hc : c < 4294967296)
    (HM : Hid (Sm.more c ((s.extract (k + 8) s.size).extract 0 n).data.toList = m)) (HQ : Hid (Sm.num (s.extract (k + 4) s.size).data.toList = q)) (b : Bool) (hb : ((m : Int) != (q : Int)) = b) (hb' : ((m : Nat) != q) = b) :
    Calls Tryz.prog 132 #[.agg (fourTab 16), .string s, .int .i64 (k : Int)] w fun e w' => e = .returned (told (pickB b (k + 8 + n))) ∧ Below w.heap.size w w' := by
  have h1 := fourTab_size 16
  have hm0 := Lib.hid hm
  unfold maxLen at hm
  have h0 : ¬ (k : Int) < 0 := by omega
  go_enter Tryz.func132, Tryz.ntmps132
  go_wp2
  go_quiet (fail)
  go_wp2_with fail
  refine (number_any _ _ (by rw [HX.out]; omega) (by rw [HX.out]; unfold maxLen; omega)).mono ?_
  rintro e w1 ⟨rfl, q1, rfl⟩
  rw [HN.out]
  go_wp2
  generalize hW : (w.alloc (Obj.cells (fourTab 16) 165)).drewN (nq + q1) = W at *
  have hheap : W.rangeAt w.heap.size 0 (fourTab 16).toList := by rw [← hW]; exact fun j v hv => range_tab w j v hv
  have hWB : Below w.heap.size w W := by rw [← hW]; exact below_drewN ((Below.refl _ _).alloc (Nat.le_refl _) _) _
  have hsz : w.heap.size < W.heap.size := by rw [← hW]; simp
  clear hW
  have j1 : (0 : Int) ≤ (n : Int) := by omega
  have j2 : n ≤ s.size - (k + 8) := by simpa using hn2
  have j3 : (0 : Int) ≤ (k : Int) + 4 := by omega
  have j4 : (k : Int) + 4 ≤ (s.size : Int) := by omega
  have j5 : k + 4 ≤ s.size := by omega
  have j6 : ((k : Int) + 4).toNat = k + 4 := by omega
  have j7 : IntKind.i64.wrap ((k : Int) + 4) = (k : Int) + 4 := IntWalk.i64_in _ (by omega)
  have hu := Tryz.underlying165
  have hi : (Tryz.prog.info? 165).map (·.size) = some (fourTab 16).toList.length := by rw [Array.length_toList]; exact info54
  refine wp_region_held_drew (S := fun w' => w'.rangeAt w.heap.size 0 (fourTab 16).toList ∧ Below w.heap.size w w' ∧ w.heap.size < w'.heap.size) (by kernel_rfl) ⟨fun j v hv => hheap j v hv, hWB.drew, hsz⟩ (fun hHeld => ?_)
  refine wpAnyH_take (i := 0) (oi := _) (v := _) rfl (by kernel_rfl) (by kernel_rfl) (by kernel_rfl) (fun _ _ _ h => h)
    (yieldsIf_load_mid (by rfl) _ _ rfl _ _ rfl (fourTab 16).toList _ (fun _ h => h.1) hu rfl hi) hHeld ?_
  simp only [Act.put, List.setIfInBounds_toArray, Array.toArray_toList]
  refine wpAnyH_take (i := 1) (oi := _) (v := _) rfl (by kernel_rfl) (by kernel_rfl) (by kernel_rfl) (fun _ _ _ h => h)
    (yieldsIf_load_mid (by rfl) _ _ rfl _ _ rfl (fourTab 16).toList _ (fun _ h => h.1) hu rfl hi) hHeld ?_
  simp only [Act.put, Array.toArray_toList]
  refine wpAnyH_take (i := 2) (oi := _) (v := ?_) rfl (by kernel_rfl) (by kernel_rfl) (by kernel_rfl) (fun _ _ _ h => h) (Or.inl ⟨by rfl, ?_⟩) hHeld ?_
  rotate_left 1
  · (intro w hSw; go_simp; (try with_reducible rfl))
  simp only [Act.put]
  refine wpAnyH_take (i := 4) (oi := _) (v := ?_) rfl (by kernel_rfl) (by kernel_rfl) (by kernel_rfl) (fun _ _ _ h => h) (Or.inl ⟨by rfl, ?_⟩) hHeld ?_
  rotate_left 1
  · (intro w hSw; go_simp; (try with_reducible rfl))
  simp only [Act.put]
  refine wpAnyH_take (i := 5) (oi := _) (v := ?_) rfl (by kernel_rfl) (by kernel_rfl) (by kernel_rfl) (fun _ _ _ h => h) (Or.inl ⟨by rfl, ?_⟩) hHeld ?_
  rotate_left 1
  · (intro w hSw; go_simp; (try with_reducible rfl))
  simp only [Act.put]
  refine wpAnyH_take (i := 6) (oi := _) (v := ?_) rfl (by kernel_rfl) (by kernel_rfl) (by kernel_rfl) (fun _ _ _ h => h) (Or.inl ⟨by rfl, ?_⟩) hHeld ?_
  rotate_left 1
  · (intro w hSw; go_simp; (try with_reducible rfl))
  simp only [Act.put]
  refine wpAnyH_take (i := 8) (oi := _) (v := ?_) rfl (by kernel_rfl) (by kernel_rfl) (by kernel_rfl) (fun _ _ _ h => h) (Or.inl ⟨by rfl, ?_⟩) hHeld ?_
  rotate_left 1
  · (intro w hSw; go_simp; (try with_reducible rfl))
  simp only [Act.put]
  refine wpAnyH_take (i := 9) (oi := _) (v := ?_) rfl (by kernel_rfl) (by kernel_rfl) (by kernel_rfl) (fun _ _ _ h => h) (Or.inl ⟨by rfl, ?_⟩) hHeld ?_
  rotate_left 1
  · (intro w hSw; go_simp; (try with_reducible rfl))
  simp only [Act.put]
  refine wpAnyH_take (i := 10) (oi := _) (v := ?_) rfl (by kernel_rfl) (by kernel_rfl) (by kernel_rfl) (fun _ _ _ h => h) (Or.inl ⟨by rfl, ?_⟩) hHeld ?_
  rotate_left 1
  · (intro w hSw; go_simp; (try with_reducible rfl))
  simp only [Act.put]
  refine wpAnyH_take (i := 11) (oi := _) (v := ?_) rfl (by kernel_rfl) (by kernel_rfl) (by kernel_rfl) (fun _ _ _ h => h) (Or.inl ⟨by rfl, ?_⟩) hHeld ?_
  rotate_left 1
  · (intro w hSw; go_simp; (try with_reducible rfl))
  simp only [Act.put]
  refine wpAnyH_ready (rs := [3]) (by kernel_rfl) (by simp) ?_
  refine AllReadyH.cons (o := _) rfl (fun K hK => ?_) AllReadyH.nil
  go_simp
  refine (more_any 0 _ _ (ext_le _ _ hm0.out) (by omega)).mono ?_
  rintro e w2 ⟨rfl, hb2⟩
  rw [show Sm.more 0 (s.extract k (k + 4)).data.toList = c from HC.out]
  refine hK.out _ _ ?_ (fun hHeld => ?_)
  · exact keep_below hHeld.1 hHeld.2.1 hHeld.2.2 hb2
  clear hK K
  try simp only [Act.put, List.setIfInBounds_toArray, List.set_cons_zero, List.set_cons_succ]
  refine wpAnyH_ready (rs := [7]) (by kernel_rfl) (by simp) ?_
  refine AllReadyH.cons (o := _) rfl (fun K hK => ?_) AllReadyH.nil
  go_simp
  refine (more_any c _ _ (ext_le _ _ (ext_le _ _ hm0.out)) hc).mono ?_
  rintro e w3 ⟨rfl, hb3⟩
  rw [HM.out]
  refine hK.out _ _ ?_ (fun hHeld => ?_)
  · exact keep_below hHeld.1 hHeld.2.1 hHeld.2.2 hb3
  clear hK K
  try simp only [Act.put, List.setIfInBounds_toArray, List.set_cons_zero, List.set_cons_succ]
  refine wpAnyH_ready (rs := [12]) (by kernel_rfl) (by simp) ?_
  refine AllReadyH.cons (o := _) rfl (fun K hK => ?_) AllReadyH.nil
  go_simp
  refine (number_any _ _ (by rw [ByteArray.size_extract]; omega) (ext_le _ _ hm0.out)).mono ?_
  rintro e w4 ⟨rfl, q4, rfl⟩
  rw [HQ.out]
  refine hK.out _ _ ?_ (fun hHeld => ?_)
  · exact keep_below hHeld.1 hHeld.2.1 hHeld.2.2 (below_drewN' _)
  clear hK K
  try simp only [Act.put, List.setIfInBounds_toArray, List.set_cons_zero, List.set_cons_succ]
  refine wpAnyH_take (i := 13) (oi := _) (v := ?_) rfl (by kernel_rfl) (by kernel_rfl) (by kernel_rfl) (fun _ _ _ h => h) (Or.inl ⟨by rfl, ?_⟩) hHeld ?_
  rotate_left 1
  · (intro w hSw; go_simp; (try with_reducible rfl))
  simp only [Act.put, List.setIfInBounds_toArray]
  refine wpAnyH_done (by kernel_rfl) ?_ _
  have hend := hHeld.2.1
  clear hHeld
  cases b
  · go_wp2
    go_ret2
    exact ⟨congrArg Ending.returned (by show Value.tuple _ = Value.tuple _; congr 3), hend⟩
  · go_wp2
    go_ret2
    exact ⟨rfl, hend⟩

theorem behind_any (s : ByteArray) (a : Int) (w : World) (hm : s.size ≤ maxLen) :
    Calls Tryz.prog 132 #[.agg (fourTab 16), .string s, .int .i64 a] w fun e w' => e = .returned (told (Sm.behind s.data.toList a)) ∧ Below w.heap.size w w' := by
  have hlen : s.data.toList.length = s.size := by simp
  by_cases h0 : a < 0
  · have HB : told (Sm.behind s.data.toList a) = told none := by unfold Sm.behind; rw [if_pos h0]
    rw [HB]; exact behind_below s a w h0
  obtain ⟨k, rfl⟩ := Int.eq_ofNat_of_zero_le (show 0 ≤ a by omega)
  by_cases h8 : (s.size : Int) - 8 < k
  · have HB : told (Sm.behind s.data.toList k) = told none := by unfold Sm.behind Sm.behindAt; rw [if_neg h0, if_neg (by rw [hlen]; omega)]
    rw [HB]; exact behind_above s k w hm h8
  have HB : Sm.behind s.data.toList k = if Sm.num (s.data.toList.drop k) ≤ 65536 ∧ k + 8 + Sm.num (s.data.toList.drop k) ≤ s.size ∧ Sm.more (Sm.crc ((s.data.toList.drop k).take 4)) ((s.data.toList.drop (k + 8)).take (Sm.num (s.data.toList.drop k))) = Sm.num (s.data.toList.drop (k + 4)) then
      some (k + 8 + Sm.num (s.data.toList.drop k)) else none := by
    unfold Sm.behind Sm.behindAt; rw [if_neg h0, Int.toNat_natCast, hlen, if_pos (by omega)]
  have hn4 : Sm.num (s.extract k (k + 4)).data.toList = Sm.num (s.data.toList.drop k) := by
    rw [extract_list, show k + 4 - k = 4 from by omega, num_take]
  have hnl := Sm.num_lt (s.data.toList.drop k)
  have hx4 : (s.extract k (k + 4)).size = 4 := by rw [ByteArray.size_extract]; omega
  have hall : ∀ i, (s.extract i s.size).data.toList = s.data.toList.drop i := by
    intro i; rw [extract_list]; exact List.take_of_length_le (by rw [List.length_drop, hlen]; omega)
  by_cases hn1 : 65536 < Sm.num (s.data.toList.drop k)
  · rw [HB, if_neg (by omega)]
    exact behind_long s k w hm h8 _ (Lib.hid hn4) hnl (Lib.hid hx4) (by simp; omega)
  by_cases hn2 : s.size - (k + 8) < Sm.num (s.data.toList.drop k)
  · rw [HB, if_neg (by omega)]
    exact behind_beyond s k w hm h8 _ (Lib.hid hn4) hnl (Lib.hid hx4) (by simp; omega) (by simpa using hn2)
  have hc : Sm.more 0 (s.extract k (k + 4)).data.toList = Sm.crc ((s.data.toList.drop k).take 4) := by
    rw [extract_list, show k + 4 - k = 4 from by omega]; rfl
  have hmm : Sm.more (Sm.crc ((s.data.toList.drop k).take 4)) ((s.extract (k + 8) s.size).extract 0 (Sm.num (s.data.toList.drop k))).data.toList = Sm.more (Sm.crc ((s.data.toList.drop k).take 4)) ((s.data.toList.drop (k + 8)).take (Sm.num (s.data.toList.drop k))) := by
    rw [extract_list, hall, List.drop_zero, Nat.sub_zero]
  have hq : Sm.num (s.extract (k + 4) s.size).data.toList = Sm.num (s.data.toList.drop (k + 4)) := by rw [hall]
  have h := behind_here s k w hm h8 _ _ _ _ (Lib.hid hn4) hnl (Lib.hid hx4) (by simp; omega) (by simpa using hn2) (Lib.hid hc) (Sm.more_lt _ _) (Lib.hid hmm) (Lib.hid hq)
    (decide (Sm.more (Sm.crc ((s.data.toList.drop k).take 4)) ((s.data.toList.drop (k + 8)).take (Sm.num (s.data.toList.drop k))) ≠ Sm.num (s.data.toList.drop (k + 4)))) ?_ ?_
  · rw [HB]
    by_cases e : Sm.more (Sm.crc ((s.data.toList.drop k).take 4)) ((s.data.toList.drop (k + 8)).take (Sm.num (s.data.toList.drop k))) = Sm.num (s.data.toList.drop (k + 4))
    · rw [if_pos ⟨by omega, by omega, e⟩]; simpa [pickB, e] using h
    · rw [if_neg (fun x => e x.2.2)]; simpa [pickB, e] using h
  · rw [Bool.eq_iff_iff]; simp; omega
  · rw [Bool.eq_iff_iff]; simp
end Go.Proofs.YtbhjpkejdkfenaaGreatDoor
namespace Go.Proofs.YtbhjpkejdkfenaaGreatDoor
open Go.RowKit

theorem size_mk (l : List UInt8) : (⟨l.toArray⟩ : ByteArray).size = l.length := by simp [ByteArray.size]


theorem mk_list (s : ByteArray) : (⟨s.data.toList.toArray⟩ : ByteArray) = s := by simp
theorem bytes_ext {a b : ByteArray} (h : a.data.toList = b.data.toList) : a = b := by
  apply ByteArray.ext; exact Array.toList_inj.1 h

set_option maxHeartbeats 400000 in
theorem bodyOf_any (s : ByteArray) (w : World) (hm : s.size ≤ 140737488355328) (h8 : 8 ≤ s.size) :
    Calls Tryz.prog 112 #[.string s] w fun e w' => e = .returned (.string (s.extract 8 s.size)) ∧ Below w.heap.size w w' := by
  have i1 : (8 : Int) ≤ (s.size : Int) := by omega
  go_enter Tryz.func112, Tryz.ntmps112
  go_wp2_with fail
  refine (clone_any _ _ (by rw [ByteArray.size_extract]; omega)).mono ?_
  rintro e w2 ⟨rfl, h2⟩
  go_wp2_with fail
  go_ret
  exact ⟨rfl, h2⟩

set_option maxHeartbeats 400000 in
theorem Frame_long (s : ByteArray) (w : World) (hm : s.size ≤ maxLen) (hl : 65536 < s.size) :
    Calls Tryz.prog 85 #[.string s] w fun e w' => e = .returned (.tuple #[.string ⟨#[]⟩, .int .i64 3]) ∧ w = w' := by
  unfold maxLen at hm
  have h1 : (65536 : Int) < (s.size : Int) := by omega
  go_enter Tryz.func85, Tryz.ntmps85
  go_wp2
  go_ret2
  exact ⟨rfl, rfl⟩

set_option maxHeartbeats 400000 in
theorem Frame_short (s : ByteArray) (w : World) (hl : ¬ 65536 < s.size) :
    Calls Tryz.prog 85 #[.string s] w fun e w' => e = .returned (.tuple #[.string ⟨(Sm.frame s.data.toList).toArray⟩, .int .i64 0]) ∧ Below w.heap.size w w' := by
  have h1 : ¬ (65536 : Int) < (s.size : Int) := by omega
  go_enter Tryz.func85, Tryz.ntmps85
  have hadd1 : ∀ (n m : Nat) (W : World), (Op.stringOp .add ⟨(Sm.four n).toArray⟩ ⟨(Sm.four m).toArray⟩).run Tryz.prog W = .ok (.string ⟨(Sm.four n ++ Sm.four m).toArray⟩) W := fun n m W => run_string_add_lists W _ _ (by rw [Sm.four_len]; omega) (by rw [Sm.four_len]; omega)
  have hadd2 : ∀ (n m : Nat) (W : World), (Op.stringOp .add ⟨(Sm.four n ++ Sm.four m).toArray⟩ s).run Tryz.prog W = .ok (.string ⟨(Sm.four n ++ Sm.four m ++ s.data.toList).toArray⟩) W := fun n m W => by
    have h := run_string_add_lists (P := Tryz.prog) W (Sm.four n ++ Sm.four m) s.data.toList (by rw [List.length_append, Sm.four_len, Sm.four_len]; omega) (by simp; omega)
    rw [mk_list] at h; exact h
  have H1 := Lib.hid hadd1
  have H2 := Lib.hid hadd2
  clear hadd1 hadd2
  go_wp2_with fail
  refine (four_any s.size _ (by omega)).mono ?_
  rintro e w1 ⟨rfl, hb1⟩
  go_wp2_with fail
  refine (Crc_any _ _ (by rw [size_mk, Sm.four_len]; unfold maxLen; omega)).mono ?_
  rintro e w2 ⟨rfl, hb2⟩
  go_wp2_with fail
  refine (More_any _ s _ (by unfold maxLen; omega) (Sm.more_lt _ _)).mono ?_
  rintro e w3 ⟨rfl, hb3⟩
  go_wp2_with fail
  refine (four_any _ _ (Sm.more_lt _ _)).mono ?_
  rintro e w4 ⟨rfl, hb4⟩
  have h1 := H1.out
  have h2 := H2.out
  go_wp2
  go_ret2
  exact ⟨by show Ending.returned (.tuple #[.string ⟨(Sm.four _ ++ (Sm.four _ ++ _)).toArray⟩, _]) = _; rw [← List.append_assoc, show s.size = s.data.toList.length from by simp]; rfl, btr (btr (btr hb1 hb2) hb3) hb4⟩

end Go.Proofs.YtbhjpkejdkfenaaGreatDoor
