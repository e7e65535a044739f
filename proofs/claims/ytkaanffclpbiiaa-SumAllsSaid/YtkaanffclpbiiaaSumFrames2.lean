/-
  Plain facts on frames, as the document's answer asks of them: where a frame stands, the bytes are the frame of the body that would have to stand there. No program, no walk.
-/
import Derived.Test.YtkaanffclpbiiaaSumFrames
namespace Go.Proofs.Ytkaanffclpbiiaa.Sm

theorem four_num : ∀ (l : List UInt8), 4 ≤ l.length → four (num l) = l.take 4
  | x0 :: x1 :: x2 :: x3 :: r, _ => by
    have h0 := x0.toNat_lt
    have h1 := x1.toNat_lt
    have h2 := x2.toNat_lt
    have h3 := x3.toNat_lt
    simp only [num, four, List.getD_cons_zero, List.getD_cons_succ, List.take_succ_cons, List.take_zero]
    have e : ∀ (n : Nat) (x : UInt8), n % 256 = x.toNat → UInt8.ofNat n = x := by
      intro n x h; apply UInt8.toNat_inj.1; rw [UInt8.toNat_ofNat']; exact h
    rw [e _ x0 (by omega), e _ x1 (by omega), e _ x2 (by omega), e _ x3 (by omega)]
  | [], h => by simp at h
  | [_], h => by simp at h
  | [_, _], h => by simp at h
  | [_, _, _], h => by simp at h

/-- The bytes from a place on are a frame just if the sum is right. -/
theorem frame_here (d : List UInt8) (hl : 8 + num d ≤ d.length) :
    frame ((d.drop 8).take (num d)) = d.take (8 + num d) ↔ more (crc (d.take 4)) ((d.drop 8).take (num d)) = num (d.drop 4) := by
  have hb : ((d.drop 8).take (num d)).length = num d := by rw [List.length_take, List.length_drop]; omega
  have h4 : four (num d) = d.take 4 := four_num d (by omega)
  have h8 : four (num (d.drop 4)) = (d.drop 4).take 4 := four_num _ (by rw [List.length_drop]; omega)
  have hd : d.take (8 + num d) = d.take 4 ++ (d.drop 4).take 4 ++ (d.drop 8).take (num d) := by
    rw [show 8 + num d = 4 + (4 + num d) from by omega, List.take_add, List.take_add, List.drop_drop, List.append_assoc]
  unfold frame
  rw [hb, h4, hd]
  constructor
  · intro h
    have h2 := List.append_inj_left h (by rw [List.length_append, List.length_append, four_len, List.length_take, List.length_take, List.length_drop]; omega)
    have h3 := List.append_cancel_left h2
    have h5 := num_four (more (crc (d.take 4)) ((d.drop 8).take (num d))) [] (more_lt _ _)
    rw [List.append_nil, h3, ← h8] at h5
    have h6 := num_four (num (d.drop 4)) [] (num_lt _)
    rw [List.append_nil] at h6
    rw [← h5, h6]
  · intro h
    rw [h, h8]

/-- Where a frame stands it is the frame of its body. -/
theorem behindAt_ref (l : List UInt8) (k : Nat) (h8 : k + 8 ≤ l.length) (h1 : num (l.drop k) ≤ 65536) (h2 : k + 8 + num (l.drop k) ≤ l.length) :
    behindAt l k = if frame ((l.drop (k + 8)).take (num (l.drop k))) = (l.drop k).take (8 + num (l.drop k)) then some (k + 8 + num (l.drop k)) else none := by
  have h := frame_here (l.drop k) (by rw [List.length_drop]; omega)
  rw [List.drop_drop, List.drop_drop] at h
  unfold behindAt
  rw [if_pos h8]
  by_cases e : more (crc ((l.drop k).take 4)) ((l.drop (k + 8)).take (num (l.drop k))) = num (l.drop (k + 4))
  · rw [if_pos ⟨h1, h2, e⟩, if_pos (h.2 e)]
  · rw [if_neg (fun x => e x.2.2), if_neg (fun x => e (h.1 x))]
end Go.Proofs.Ytkaanffclpbiiaa.Sm
