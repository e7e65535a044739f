/-
  Walks over the document's answer for tokens: One. Conditions: those in the theorems.
-/
import Derived.Test.YtnkdhmoocomjfaaGreatDoorBTokGap
import Derived.Test.YtnkdhmoocomjfaaGreatDoorTokBase
import Derived.Deep.QuietTactic
set_option linter.unusedSimpArgs false
set_option linter.unusedVariables false
namespace Go.Proofs.YtnkdhmoocomjfaaGreatDoor
open Go.RowKit

/-- What One answers of the text from a place. -/
def OnesR (R : Tk.Res) (D : List UInt8) (a : Nat) (w : World) (e : Ending) (w' : World) : Prop :=
  ∃ t : Tk.Token, e = .returned (.tuple #[tokV t, .int .i64 (R.err : Nat)]) ∧ (∀ k n v, R = .tok k n v → t = ⟨k, Tk.bs (D.take n), v, (a : Nat)⟩) ∧ Below w.heap.size w w'
def Ones (D : List UInt8) (a : Nat) (w : World) (e : Ending) (w' : World) : Prop := OnesR (Tk.first D) D a w e w'
theorem ones_no {D : List UInt8} {a er : Nat} {w W : World} (t : Tk.Token) (hb : Below w.heap.size w W) : OnesR (.no er) D a w (.returned (.tuple #[tokV t, .int .i64 (er : Nat)])) W :=
  ⟨t, rfl, (fun _ _ _ e => by cases e), hb⟩
theorem ones_tok {D : List UInt8} {a k n v : Nat} {w W : World} (x : ByteArray) (hx : x = Tk.bs (D.take n)) (hb : Below w.heap.size w W) : OnesR (.tok k n v) D a w (.returned (.tuple #[tokV ⟨k, x, v, (a : Nat)⟩, .int .i64 ((0 : Nat) : Int)])) W :=
  ⟨_, rfl, (fun _ _ _ e => by cases e; rw [hx]), hb⟩
theorem ext_mid (s : ByteArray) (a m : Nat) : s.extract a (a + m) = Tk.bs ((s.data.toList.drop a).take m) := by
  have e := ext_list s a (a + m)
  rw [show a + m - a = m by omega] at e
  show _ = (⟨((s.data.toList.drop a).take m).toArray⟩ : ByteArray)
  rw [← e]
theorem one_res {W : World} {tmps : Array Value} {b : Nat} {x0 x1 x2 x3 x : Value} (h4 : tmps[4]? = some (.pointer (some ⟨b, 0, none⟩))) (h5 : tmps[5]? = some x) (h : W.heap[b]? = some (.cells #[x0, x1, x2, x3] 190 (0, 0))) :
    (results Tryz.f143 tmps).run Tryz.prog W = .ok (.tuple #[.agg #[x0, x1, x2, x3], x]) W := by
  obtain ⟨c0, c1, c2, c3⟩ := tok_cells h
  simp [results, Tryz.results143, h4, h5, go_sem, c0, c1, c2, c3]
theorem heap_two (w : World) (o p : Obj) : ((w.alloc o).alloc p).heap[w.heap.size]? = (w.alloc o).heap[w.heap.size]? := Below.heap_alloc _ _ _ (by simp)
theorem drop_at {s : ByteArray} {a : Nat} (ha : a < s.size) : s.data.toList.drop a = s[a] :: s.data.toList.drop (a + 1) := List.drop_eq_getElem_cons (by rw [list_len]; exact ha)
set_option maxRecDepth 100000 in
set_option maxHeartbeats 4000000 in
theorem One_word (s : ByteArray) (a : Nat) (w : World) (ha : a < s.size) (hm : s.size ≤ maxLen) (hc : Tk.letter s[a] = true) :
    Calls Tryz.prog 143 #[.string s, .int .i64 (a : Nat)] w (Ones (s.data.toList.drop a) a w) := by
  have hl := list_len s
  have hd0 := drop_at ha
  have hw0 : (s.data.toList.drop a)[0]'(by rw [List.length_drop]; omega) = s[a] := by simp only [hd0, List.getElem_cons_zero]
  have hp := Tk.word_pos (l := s.data.toList.drop a) (by rw [List.length_drop]; omega) (by rw [hw0]; exact hc)
  have hle := Tk.word_le (s.data.toList.drop a)
  have hst : ∀ j, a + 1 ≤ j → ∀ (hj : j < s.size), j ≤ a + Tk.word (s.data.toList.drop a) → (Tk.wchar s[j] = true → j + 1 ≤ a + Tk.word (s.data.toList.drop a)) ∧ (Tk.wchar s[j] = false → a + Tk.word (s.data.toList.drop a) = j) := fun j h1 hj h2 => by
    have := Tk.word_step (l := s.data.toList.drop a) (by rw [List.length_drop]; omega) (by rw [hw0]; exact hc) (k := j - a) (by omega) (by rw [List.length_drop]; omega) (by omega)
    have he : (s.data.toList.drop a)[j - a]'(by rw [List.length_drop]; omega) = s[j] := by rw [List.getElem_drop, ← list_at s j hj]; congr 1; omega
    rw [he] at this
    exact ⟨fun e => by have := this.1 e; omega, fun e => by have := this.2 e; omega⟩
  have hf : Tk.first (s.data.toList.drop a) = if 32 < Tk.word (s.data.toList.drop a) then .no 3 else .tok 1 (Tk.word (s.data.toList.drop a)) 0 := by unfold Tk.first; rw [if_pos (by omega)]
  rw [List.length_drop, hl] at hle
  unfold Ones
  rw [hf]
  have HX := Lib.hid (ext_mid s a (Tk.word (s.data.toList.drop a)))
  clear hd0 hw0
  generalize hD : s.data.toList.drop a = D at *
  generalize Tk.word D = m at *
  have q1 := fun (c : UInt8) (W : World) => rletter_any c W
  have q2 := fun (c : UInt8) (W : World) => rdigit_any c W
  have qc := q1 s[a]
  rw [hc] at qc
  have j0 : (a : Int) < (s.size : Int) := by omega
  have j00 : (0 : Int) ≤ (a : Int) := by omega
  have hm2 : s.size ≤ 9223372036854775807 := hm
  have HST := Lib.hid hst
  have jm : (a : Int) + (m : Int) ≤ (s.size : Int) := by omega
  have jm2 : (0 : Int) ≤ (m : Int) := by omega
  have jm3 : (a : Int) ≤ (a : Int) + (m : Int) := by omega
  clear hl hst hf hD hc hm
  by_cases h32 : 32 < m
  · rw [if_pos h32]
    have i32 : (32 : Int) < (m : Int) := by omega
    go_enter Tryz.func143, Tryz.ntmps143
    go_wp2_with (first | (go_at_call 136; refine (qc _).mono ?_; rintro e w' ⟨rfl, hw'⟩; obtain rfl := hw') | fail)
    go_loopw [8] (fun jv wr => ∃ j : Nat, a + 1 ≤ j ∧ j ≤ a + m ∧ jv = .int .i64 (j : Nat) ∧ wr = (w.alloc (.cells #[.int .u8 0, .string ⟨#[]⟩, .int .i64 0, .int .i64 0] 190)).alloc (.cells #[.int .u8 0, .string ⟨#[]⟩, .int .i64 0, .int .i64 (a : Nat)] 190)) (fun jv _ => s.size - (intOf jv).toNat)
    case atStart => exact ⟨a + 1, by omega, by omega, by go_num, by first | trivial | rfl⟩
    case round =>
      obtain ⟨j, h1, hj, rfl, rfl⟩ := hrel
      by_cases hjs : j < s.size
      · have l1 : (j : Int) < (s.size : Int) := by omega
        have l2 : (0 : Int) ≤ (j : Int) := by omega
        obtain ⟨x1, x2⟩ := HST.out j h1 hjs hj
        have hw : Tk.wchar s[j] = (Tk.letter s[j] || Tk.digit s[j] || decide (s[j].toNat = 95)) := rfl
        rw [hw] at x1 x2
        have q1 := fun W => rletter_any s[j] W
        have q2 := fun W => rdigit_any s[j] W
        have q3 : ∀ v, decide (s[j].toNat = 95) = v → ((s[j].toNat : Int) == 95) = v := fun v h => beq_int (b := 95) h
        clear hw qc
        generalize Tk.letter s[j] = v1 at *
        generalize Tk.digit s[j] = v2 at *
        generalize decide (s[j].toNat = 95) = v3 at *
        have q4 := q3 v3 rfl
        clear q3
        cases v1 with
        | true =>
          have HY := Lib.hid (x1 rfl)
          clear x1 x2
          go_wp2_with (first | (go_at_call 136; refine (q1 _).mono ?_; rintro e w8 ⟨rfl, hw8⟩; obtain rfl := hw8) | (go_at_call 138; refine (q2 _).mono ?_; rintro e w8 ⟨rfl, hw8⟩; obtain rfl := hw8) | fail)
          go_roundw
          case rel => exact ⟨j + 1, by omega, HY.out, by go_num, by first | trivial | rfl⟩
          case measure => simp [intOf]; omega
        | false =>
          cases v2 with
          | true =>
            have HY := Lib.hid (x1 rfl)
            clear x1 x2
            go_wp2_with (first | (go_at_call 136; refine (q1 _).mono ?_; rintro e w8 ⟨rfl, hw8⟩; obtain rfl := hw8) | (go_at_call 138; refine (q2 _).mono ?_; rintro e w8 ⟨rfl, hw8⟩; obtain rfl := hw8) | fail)
            go_roundw
            case rel => exact ⟨j + 1, by omega, HY.out, by go_num, by first | trivial | rfl⟩
            case measure => simp [intOf]; omega
          | false =>
            cases v3 with
            | true =>
              have HY := Lib.hid (x1 rfl)
              clear x1 x2
              go_wp2_with (first | (go_at_call 136; refine (q1 _).mono ?_; rintro e w8 ⟨rfl, hw8⟩; obtain rfl := hw8) | (go_at_call 138; refine (q2 _).mono ?_; rintro e w8 ⟨rfl, hw8⟩; obtain rfl := hw8) | fail)
              go_roundw
              case rel => exact ⟨j + 1, by omega, HY.out, by go_num, by first | trivial | rfl⟩
              case measure => simp [intOf]; omega
            | false =>
              have HX2 := Lib.hid (x2 rfl)
              have e1 : (j : Int) - (a : Int) = (m : Int) := by have := HX2.out; omega
              have e2 : (a : Int) ≤ (j : Int) := by omega
              have e3 : (j : Int) ≤ (s.size : Int) := by omega
              clear x1 x2
              go_wp2_with (first | (go_at_call 136; refine (q1 _).mono ?_; rintro e w8 ⟨rfl, hw8⟩; obtain rfl := hw8) | (go_at_call 138; refine (q2 _).mono ?_; rintro e w8 ⟨rfl, hw8⟩; obtain rfl := hw8) | fail)
              refine bodyPost_ret (one_res rfl rfl ((heap_two _ _ _).trans (heap_alloc_new _ _))) rfl ?_
              exact ones_no ⟨1, s.extract a j, 0, (a : Nat)⟩ (by go_grown)
      · have HX2 : Hid (a + m = j) := Lib.hid (by omega)
        have l1 : ¬ (j : Int) < (s.size : Int) := by omega
        have e1 : (j : Int) - (a : Int) = (m : Int) := by omega
        have e2 : (a : Int) ≤ (j : Int) := by omega
        have e3 : (j : Int) ≤ (s.size : Int) := by omega
        go_wp2_with (first | (go_at_call 136; refine (q1 _).mono ?_; rintro e w8 ⟨rfl, hw8⟩; obtain rfl := hw8) | (go_at_call 138; refine (q2 _).mono ?_; rintro e w8 ⟨rfl, hw8⟩; obtain rfl := hw8) | fail)
        refine bodyPost_ret (one_res rfl rfl ((heap_two _ _ _).trans (heap_alloc_new _ _))) rfl ?_
        exact ones_no ⟨1, s.extract a j, 0, (a : Nat)⟩ (by go_grown)
  · rw [if_neg h32]
    have i32 : ¬ (32 : Int) < (m : Int) := by omega
    go_enter Tryz.func143, Tryz.ntmps143
    go_wp2_with (first | (go_at_call 136; refine (qc _).mono ?_; rintro e w' ⟨rfl, hw'⟩; obtain rfl := hw') | fail)
    go_loopw [8] (fun jv wr => ∃ j : Nat, a + 1 ≤ j ∧ j ≤ a + m ∧ jv = .int .i64 (j : Nat) ∧ wr = (w.alloc (.cells #[.int .u8 0, .string ⟨#[]⟩, .int .i64 0, .int .i64 0] 190)).alloc (.cells #[.int .u8 0, .string ⟨#[]⟩, .int .i64 0, .int .i64 (a : Nat)] 190)) (fun jv _ => s.size - (intOf jv).toNat)
    case atStart => exact ⟨a + 1, by omega, by omega, by go_num, by first | trivial | rfl⟩
    case round =>
      obtain ⟨j, h1, hj, rfl, rfl⟩ := hrel
      by_cases hjs : j < s.size
      · have l1 : (j : Int) < (s.size : Int) := by omega
        have l2 : (0 : Int) ≤ (j : Int) := by omega
        obtain ⟨x1, x2⟩ := HST.out j h1 hjs hj
        have hw : Tk.wchar s[j] = (Tk.letter s[j] || Tk.digit s[j] || decide (s[j].toNat = 95)) := rfl
        rw [hw] at x1 x2
        have q1 := fun W => rletter_any s[j] W
        have q2 := fun W => rdigit_any s[j] W
        have q3 : ∀ v, decide (s[j].toNat = 95) = v → ((s[j].toNat : Int) == 95) = v := fun v h => beq_int (b := 95) h
        clear hw qc
        generalize Tk.letter s[j] = v1 at *
        generalize Tk.digit s[j] = v2 at *
        generalize decide (s[j].toNat = 95) = v3 at *
        have q4 := q3 v3 rfl
        clear q3
        cases v1 with
        | true =>
          have HY := Lib.hid (x1 rfl)
          clear x1 x2
          go_wp2_with (first | (go_at_call 136; refine (q1 _).mono ?_; rintro e w8 ⟨rfl, hw8⟩; obtain rfl := hw8) | (go_at_call 138; refine (q2 _).mono ?_; rintro e w8 ⟨rfl, hw8⟩; obtain rfl := hw8) | fail)
          go_roundw
          case rel => exact ⟨j + 1, by omega, HY.out, by go_num, by first | trivial | rfl⟩
          case measure => simp [intOf]; omega
        | false =>
          cases v2 with
          | true =>
            have HY := Lib.hid (x1 rfl)
            clear x1 x2
            go_wp2_with (first | (go_at_call 136; refine (q1 _).mono ?_; rintro e w8 ⟨rfl, hw8⟩; obtain rfl := hw8) | (go_at_call 138; refine (q2 _).mono ?_; rintro e w8 ⟨rfl, hw8⟩; obtain rfl := hw8) | fail)
            go_roundw
            case rel => exact ⟨j + 1, by omega, HY.out, by go_num, by first | trivial | rfl⟩
            case measure => simp [intOf]; omega
          | false =>
            cases v3 with
            | true =>
              have HY := Lib.hid (x1 rfl)
              clear x1 x2
              go_wp2_with (first | (go_at_call 136; refine (q1 _).mono ?_; rintro e w8 ⟨rfl, hw8⟩; obtain rfl := hw8) | (go_at_call 138; refine (q2 _).mono ?_; rintro e w8 ⟨rfl, hw8⟩; obtain rfl := hw8) | fail)
              go_roundw
              case rel => exact ⟨j + 1, by omega, HY.out, by go_num, by first | trivial | rfl⟩
              case measure => simp [intOf]; omega
            | false =>
              have HX2 := Lib.hid (x2 rfl)
              have e1 : (j : Int) - (a : Int) = (m : Int) := by have := HX2.out; omega
              have e2 : (a : Int) ≤ (j : Int) := by omega
              have e3 : (j : Int) ≤ (s.size : Int) := by omega
              clear x1 x2
              go_wp2_with (first | (go_at_call 136; refine (q1 _).mono ?_; rintro e w8 ⟨rfl, hw8⟩; obtain rfl := hw8) | (go_at_call 138; refine (q2 _).mono ?_; rintro e w8 ⟨rfl, hw8⟩; obtain rfl := hw8) | fail)
              refine bodyPost_ret (one_res rfl rfl ((heap_two _ _ _).trans (heap_alloc_new _ _))) rfl ?_
              exact ones_tok (s.extract a j) (by rw [← HX2.out, HX.out]) (by go_grown)
      · have HX2 : Hid (a + m = j) := Lib.hid (by omega)
        have l1 : ¬ (j : Int) < (s.size : Int) := by omega
        have e1 : (j : Int) - (a : Int) = (m : Int) := by omega
        have e2 : (a : Int) ≤ (j : Int) := by omega
        have e3 : (j : Int) ≤ (s.size : Int) := by omega
        go_wp2_with (first | (go_at_call 136; refine (q1 _).mono ?_; rintro e w8 ⟨rfl, hw8⟩; obtain rfl := hw8) | (go_at_call 138; refine (q2 _).mono ?_; rintro e w8 ⟨rfl, hw8⟩; obtain rfl := hw8) | fail)
        refine bodyPost_ret (one_res rfl rfl ((heap_two _ _ _).trans (heap_alloc_new _ _))) rfl ?_
        exact ones_tok (s.extract a j) (by rw [← HX2.out, HX.out]) (by go_grown)
end Go.Proofs.YtnkdhmoocomjfaaGreatDoor
