/-
  Walks over the laws of package wal: WalErrors. No condition.
-/
import Derived.Test.YtoecbkndbcblpaaGreatDoorWalAwake
namespace Wm
/-- How far the law's loop has looked at the name. -/
def rightTo (s : ByteArray) (k : Nat) : Bool := decide (0 < s.size) && decide (s.size ≤ 12) && (s.data.toList.take k).all fun c => decide (97 ≤ c) && decide (c ≤ 122)
theorem rightTo_succ {s : ByteArray} {k : Nat} (h : k < s.data.toList.length) : rightTo s (k + 1) = (rightTo s k && (decide (97 ≤ s.data.toList[k]) && decide (s.data.toList[k] ≤ 122))) := by
  unfold rightTo; rw [List.take_succ_eq_append_getElem h, List.all_append]; simp [Bool.and_assoc]
theorem letter_iff : ∀ c : UInt8, alphabet.contains c = (decide (97 ≤ c) && decide (c ≤ 122)) := by
  intro c
  have h : ∀ n, n < 256 → alphabet.contains (UInt8.ofNat n) = (decide (97 ≤ UInt8.ofNat n) && decide (UInt8.ofNat n ≤ 122)) := by decide +kernel
  have := h c.toNat c.toNat_lt
  rwa [UInt8.ofNat_toNat] at this
theorem rightTo_all (s : ByteArray) : rightTo s s.data.toList.length = isName s := by
  rw [Bool.eq_iff_iff, isName_iff]
  unfold rightTo
  rw [List.take_length]
  simp only [Bool.and_eq_true, decide_eq_true_eq, List.all_eq_true]
  constructor
  · rintro ⟨⟨h1, h2⟩, h3⟩
    exact ⟨h1, h2, fun c hc => by rw [letter_iff]; simpa using h3 c hc⟩
  · rintro ⟨h1, h2, h3⟩
    exact ⟨⟨h1, h2⟩, fun c hc => by have := h3 c hc; rw [letter_iff] at this; simpa using this⟩
end Wm
namespace Go.Proofs.YtoecbkndbcblpaaGreatDoor
open Go.RowKit Go.Maps Go.Sort Go.Shelf
set_option maxRecDepth 100000 in
set_option maxHeartbeats 8000000 in
theorem walErrors_any (name body : ByteArray) (n : Int) (w : World) (hnm : name.size ≤ maxLen) (hbm : body.size ≤ maxLen) :
    Calls Tryz.prog 4 #[.string name, .string body, .int .i64 n] w fun e w' => e = .returned (.bool true) ∧ Below w.heap.size w w' := by
  have hnl : name.data.toList.length = name.size := data_len name
  unfold maxLen at hnm hbm
  have HNL := Lib.hid hnl
  clear hnl
  go_enter Tryz.func4, Tryz.ntmps4
  go_wp2_with fail
  refine (walAwake_any _).mono ?_
  rintro e w1 ⟨rfl, hb1⟩
  by_cases hB : 70000 < body.size
  · have i1 : (70000 : Int) < (body.size : Int) := by omega
    go_wp2_with fail
    go_ret
    exact ⟨rfl, hb1⟩
  · have i1 : ¬ (70000 : Int) < (body.size : Int) := by omega
    by_cases hN : 1000 < name.size
    · have i2 : (1000 : Int) < (name.size : Int) := by omega
      go_wp2_with fail
      go_ret
      exact ⟨rfl, hb1⟩
    · have i2 : ¬ (1000 : Int) < (name.size : Int) := by omega
      have h0 : Wm.rightTo name 0 = (decide (0 < name.size) && decide (name.size ≤ 12)) := by simp [Wm.rightTo]
      have HR0 := Lib.hid h0
      have HB1 := Lib.hid hb1
      have HNS : Hid (name.size ≤ 1000) := Lib.hid (by omega)
      have HBS : Hid (body.size ≤ 70000) := Lib.hid (by omega)
      clear h0 hb1
      go_upto_region 5 with fail
      go_cut [7] from 35 to 42 (fun rv wc => rv = .bool (Wm.rightTo name 0) ∧ wc = w1)
      case first =>
        by_cases h1 : 0 < name.size
        · have j1 : (0 : Int) < (name.size : Int) := by omega
          by_cases h2 : name.size ≤ 12
          · have j2 : (name.size : Int) ≤ 12 := by omega
            go_wp2_with fail
            go_meet
            case rel => exact ⟨by rw [HR0.out]; simp [h1, h2], rfl⟩
          · have j2 : ¬ (name.size : Int) ≤ 12 := by omega
            go_wp2_with fail
            go_meet
            case rel => exact ⟨by rw [HR0.out]; simp [h2], rfl⟩
        · have j1 : ¬ (0 : Int) < (name.size : Int) := by omega
          go_wp2_with fail
          go_meet
          case rel => exact ⟨by rw [HR0.out]; simp [h1], rfl⟩
      case rest =>
        obtain ⟨rfl, rfl⟩ := hcut
        go_wp2_with fail
        go_loopw [7, 8] (fun rv iv wr => ∃ k : Nat, k ≤ name.size ∧ iv = .int .i64 (k : Nat) ∧ rv = .bool (Wm.rightTo name k) ∧ Hid (Below w.heap.size w wr)) (fun _ iv _ => name.size - (intOf iv).toNat)
        case atStart => exact ⟨0, Nat.zero_le _, rfl, rfl, HB1⟩
        case round =>
          obtain ⟨k, hk, rfl, rfl, HB⟩ := hrel
          by_cases hlt : k < name.size
          · have i3 : (k : Int) < (name.size : Int) := by omega
            have i4 : (0 : Int) ≤ (k : Int) := by omega
            have hkl : k < name.data.toList.length := by rw [HNL.out]; exact hlt
            have HS := Lib.hid (Wm.rightTo_succ hkl)
            have hx : name.data.toList[k]'hkl = name[k] := rfl
            rw [hx] at HS
            clear hx
            have HC : Hid ((decide ((97 : UInt8) ≤ name[k]) = decide ((97 : Int) ≤ (name[k].toNat : Int))) ∧ (decide (name[k] ≤ (122 : UInt8)) = decide ((name[k].toNat : Int) ≤ 122))) := Lib.hid ⟨by
              have h : (97 : UInt8) ≤ name[k] ↔ (97 : Int) ≤ (name[k].toNat : Int) := by rw [UInt8.le_iff_toNat_le]; show 97 ≤ name[k].toNat ↔ _; omega
              exact decide_eq_decide.2 h, by
              have h : name[k] ≤ (122 : UInt8) ↔ (name[k].toNat : Int) ≤ 122 := by rw [UInt8.le_iff_toNat_le]; show name[k].toNat ≤ 122 ↔ _; omega
              exact decide_eq_decide.2 h⟩
            rw [HC.out.1, HC.out.2] at HS
            clear HC
            generalize Wm.rightTo name k = rb at *
            cases rb with
            | false =>
              go_wp2_with fail
              refine ⟨⟨k + 1, by omega, by go_num, by rw [HS.out]; rfl, HB⟩, by simp [intOf]; omega⟩
            | true =>
              by_cases h97 : (97 : Int) ≤ (name[k].toNat : Int)
              · go_wp2_with fail
                refine ⟨⟨k + 1, by omega, by go_num, by rw [HS.out]; simp [h97], HB⟩, by simp [intOf]; omega⟩
              · go_wp2_with fail
                refine ⟨⟨k + 1, by omega, by go_num, by rw [HS.out]; simp [h97], HB⟩, by simp [intOf]; omega⟩
          · obtain rfl : k = name.size := by omega
            have i3 : ¬ (name.size : Int) < (name.size : Int) := by omega
            have hall := Wm.rightTo_all name
            rw [HNL.out] at hall
            rw [hall]
            have HALL := Lib.hid hall
            clear hall HR0 HNL
            cases hri : Wm.isName name with
            | false =>
              have HRI := Lib.hid hri
              clear hri
              go_wp2_with fail
              refine (new_b HB.out).mono ?_
              rintro e w2 ⟨a, rfl, h2⟩
              have H2 := Lib.hid h2
              clear h2
              go_wp2_with fail
              refine (openNil name _).mono ?_
              rintro e w3 ⟨rfl, rfl⟩
              go_wp2_with fail
              refine (openArg (w0 := w) (D := Dm.new) name (by unfold maxLen; omega) HRI.out).mono ?_
              rintro e w3 ⟨rfl, hb3⟩
              have H3 := Lib.hid (H2.out.same hb3)
              clear hb3
              go_wp2_with fail
              refine (appendN body _).mono ?_
              rintro e w4 ⟨rfl, hb4⟩
              have H4 := Lib.hid (H3.out.same hb4)
              have hz4 : ∀ o, ((w4.alloc (.cells #[.pointer none, .string ⟨#[]⟩, .int .i64 0, .string ⟨#[]⟩, .string ⟨#[]⟩, .string ⟨#[]⟩, .slice none 0 0, .int .i64 0, .bool false] 43)).alloc o).cell? ⟨w4.heap.size, 0, none⟩ = some (.pointer none) := fun o => by
                rw [World.cell?_of_block (w := w4.alloc (.cells #[.pointer none, .string ⟨#[]⟩, .int .i64 0, .string ⟨#[]⟩, .string ⟨#[]⟩, .string ⟨#[]⟩, .slice none 0 0, .int .i64 0, .bool false] 43)) (Below.heap_alloc _ _ _ (by simp)), cell_of_row _ _ _ _ _ _ (World.alloc_heap_new w4 _)]; rfl
              have HZ := Lib.hid (append0 body hz4)
              have H5 := Lib.hid (H4.out.alloc (.cells #[.pointer none, .string ⟨#[]⟩, .int .i64 0, .string ⟨#[]⟩, .string ⟨#[]⟩, .string ⟨#[]⟩, .slice none 0 0, .int .i64 0, .bool false] 43))
              clear hb4 hz4
              go_wp2_with fail
              refine HZ.out.mono ?_
              rintro e w6 ⟨rfl, hb6⟩
              have H6 := Lib.hid (H5.out.same hb6)
              clear hb6 HZ
              go_wp2_with fail
              refine (syncN _).mono ?_
              rintro e w7 ⟨rfl, hb7⟩
              have H7 := Lib.hid (H6.out.same hb7)
              clear hb7
              go_wp2_with fail
              refine (dropN n _).mono ?_
              rintro e w8 ⟨rfl, hb8⟩
              have H8 := Lib.hid (H7.out.same hb8)
              clear hb8
              go_wp2_with fail
              refine (firstN _).mono ?_
              rintro e w9 ⟨rfl, rfl⟩
              go_wp2_with fail
              refine (lastN _).mono ?_
              rintro e w9 ⟨rfl, rfl⟩
              go_wp2_with fail
              have h9 := H8.out
              refine (list_b h9).mono ?_
              rintro e w9 ⟨v, rfl, hl, hb9⟩
              obtain ⟨S, h10, h11⟩ := h9.texts hl.1 hl.2.2
              obtain ⟨p, cap, rfl, -⟩ := h11.shape
              have HB9 := Lib.hid hb9.below
              clear h9 hl hb9 h10 h11
              go_wp2_with fail
              go_ret
              exact ⟨rfl, HB9.out⟩
            | true =>
              have HRI := Lib.hid hri
              have HN12 := Lib.hid ((Wm.isName_iff name).1 hri).2.1
              clear hri
              go_wp2_with fail
              refine (new_b HB.out).mono ?_
              rintro e w2 ⟨a, rfl, h2⟩
              have HO := Lib.hid (open_first h2 name HRI.out)
              clear h2
              go_wp2_with fail
              refine (openNil name _).mono ?_
              rintro e w3 ⟨rfl, rfl⟩
              go_wp2_with fail
              refine HO.out.mono ?_
              rintro e w3 ⟨b, v, Rr, rfl, h3, hr3⟩
              obtain ⟨p3, cap3, rfl, -⟩ := hr3.shape
              have H3 := Lib.hid (h3.sub (B' := []) (List.nil_sublist _))
              clear h3 hr3 HO
              go_wp2_with fail
              refine (appendN body _).mono ?_
              rintro e w4 ⟨rfl, hb4⟩
              have H4 := Lib.hid (H3.out.same hb4)
              have hz4 : ∀ o, ((w4.alloc (.cells #[.pointer none, .string ⟨#[]⟩, .int .i64 0, .string ⟨#[]⟩, .string ⟨#[]⟩, .string ⟨#[]⟩, .slice none 0 0, .int .i64 0, .bool false] 43)).alloc o).cell? ⟨w4.heap.size, 0, none⟩ = some (.pointer none) := fun o => by
                rw [World.cell?_of_block (w := w4.alloc (.cells #[.pointer none, .string ⟨#[]⟩, .int .i64 0, .string ⟨#[]⟩, .string ⟨#[]⟩, .string ⟨#[]⟩, .slice none 0 0, .int .i64 0, .bool false] 43)) (Below.heap_alloc _ _ _ (by simp)), cell_of_row _ _ _ _ _ _ (World.alloc_heap_new w4 _)]; rfl
              have HZ := Lib.hid (append0 body hz4)
              have H5 := Lib.hid ((H4.out.alloc (.cells #[.pointer none, .string ⟨#[]⟩, .int .i64 0, .string ⟨#[]⟩, .string ⟨#[]⟩, .string ⟨#[]⟩, .slice none 0 0, .int .i64 0, .bool false] 43)).sub (B' := []) (List.nil_sublist _))
              clear hb4 hz4
              go_wp2_with fail
              refine HZ.out.mono ?_
              rintro e w6 ⟨rfl, hb6⟩
              have H6 := Lib.hid (H5.out.same hb6)
              clear hb6 HZ
              go_wp2_with fail
              refine (syncN _).mono ?_
              rintro e w7 ⟨rfl, hb7⟩
              have H7 := Lib.hid (H6.out.same hb7)
              clear hb7
              go_wp2_with fail
              refine (dropN n _).mono ?_
              rintro e w8 ⟨rfl, hb8⟩
              have H8 := Lib.hid (H7.out.same hb8)
              clear hb8
              go_wp2_with fail
              refine (firstN _).mono ?_
              rintro e w9 ⟨rfl, rfl⟩
              go_wp2_with fail
              refine (lastN _).mono ?_
              rintro e w9 ⟨rfl, rfl⟩
              go_wp2_with fail
              have HF := Lib.hid (frame_few ⟨#[102, 105, 114, 115, 116]⟩ (by decide))
              refine (append_W1 H8.out HN12.out (by decide) (by decide) (by rfl) (.inl rfl) ⟨#[102, 105, 114, 115, 116]⟩ (by decide) (by have := HF.out; omega)).mono ?_
              rw [empty_add]
              rintro e w10 ⟨rfl, h10⟩
              have H10 := Lib.hid (crash_wi h10)
              clear h10
              go_wp2_with fail
              refine H10.out.mono ?_
              rintro e w11 ⟨rfl, h11⟩
              rw [show Dm.crash (Wm.D1 name (Wm.frame ⟨#[102, 105, 114, 115, 116]⟩) 0) [] = Wm.one true (Wm.file1 name) [] ([] : List UInt8).length from by
                unfold Wm.D1
                rw [Wm.crash_one (Nat.zero_le _), List.take_zero]; rfl] at h11
              have H11 := Lib.hid (open_down h11 name HNS.out HRI.out rfl)
              clear h11 H10
              go_wp2_with fail
              refine H11.out.mono ?_
              rintro e w12 ⟨rfl, h12⟩
              have H12 := Lib.hid (start_wi h12)
              rw [Wm.start_one] at H12
              clear h12 H11
              go_wp2_with fail
              refine H12.out.mono ?_
              rintro e w13 ⟨rfl, h13⟩
              have hfs : (⟨#[]⟩ : ByteArray).size ≠ (Wm.frame ⟨#[102, 105, 114, 115, 116]⟩).size := by
                have e1 : (Wm.frame ⟨#[102, 105, 114, 115, 116]⟩).data.toList.length = (⟨#[102, 105, 114, 115, 116]⟩ : ByteArray).data.toList.length + 8 := by
                  rw [show (Wm.frame ⟨#[102, 105, 114, 115, 116]⟩).data.toList = Sm.frame (⟨#[102, 105, 114, 115, 116]⟩ : ByteArray).data.toList by simp [Wm.frame], Sm.frame_len]
                rw [data_len] at e1
                rw [e1]; decide
              have hok := Wm.ok_W1 HN12.out (Wm.frame ⟨#[102, 105, 114, 115, 116]⟩) (Wm.frame ⟨#[102, 105, 114, 115, 116]⟩) (l := 1) (by decide)
              have hfk := fun dead => fok_W1 (name := name) (d := Wm.frame ⟨#[102, 105, 114, 115, 116]⟩) (t := Wm.frame ⟨#[102, 105, 114, 115, 116]⟩) (l := 1) (dead := dead) HN12.out (by have := HF.out; omega) (by have := HF.out; omega)
              have H13 := Lib.hid (Append_not h13 (hok false) (hfk false) (Wm.notAlive_W1 (d := ⟨#[]⟩) (s := 0) hfs) ⟨#[115, 101, 99, 111, 110, 100]⟩ (by decide))
              have HOK := Lib.hid (And.intro hok hfk)
              clear h13 H12 hok hfk hfs
              go_wp2_with fail
              refine H13.out.mono ?_
              rintro e w14 ⟨rfl, h14⟩
              have H14 := Lib.hid (Sync_not h14 (HOK.out.1 true) (HOK.out.2 true) Wm.dead_W1)
              clear h14 H13
              go_wp2_with fail
              refine H14.out.mono ?_
              rintro e w15 ⟨rfl, h15⟩
              have H15 := Lib.hid (Drop_not h15 (HOK.out.1 true) (HOK.out.2 true) Wm.dead_W1 n)
              clear h15 H14
              go_wp2_with fail
              refine H15.out.mono ?_
              rintro e w16 ⟨rfl, h16⟩
              have HB16 := Lib.hid h16.below
              clear h16 H15
              go_wp2_with fail
              go_ret
              exact ⟨rfl, HB16.out⟩
end Go.Proofs.YtoecbkndbcblpaaGreatDoor
