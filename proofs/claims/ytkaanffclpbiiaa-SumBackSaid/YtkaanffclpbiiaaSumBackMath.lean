/-
  Plain facts on frames one behind the other: their chain, their bodies, how far they go, whatever stands behind. No program, no walk.
-/
import Derived.Test.YtkaanffclpbiiaaSumEndsMath
namespace Go.Proofs.Ytkaanffclpbiiaa.Sm

/-- Frames one behind the other. -/
def frames : List (List UInt8) → List UInt8
  | [] => []
  | b :: bs => frame b ++ frames bs
theorem frames_append (a b : List (List UInt8)) : frames (a ++ b) = frames a ++ frames b := by
  induction a with
  | nil => rfl
  | cons x r ih => show frame x ++ frames (r ++ b) = (frame x ++ frames r) ++ frames b; rw [ih, List.append_assoc]
theorem frames_snoc (a : List (List UInt8)) (x : List UInt8) : frames (a ++ [x]) = frames a ++ frame x := by
  rw [frames_append]; show frames a ++ (frame x ++ []) = _; rw [List.append_nil]
def endsAt : Nat → List (List UInt8) → List Nat
  | _, [] => []
  | a, b :: bs => (a + 8 + b.length) :: endsAt (a + 8 + b.length) bs
theorem endsAt_len : ∀ (bs : List (List UInt8)) (a : Nat), (endsAt a bs).length = bs.length
  | [], _ => rfl
  | b :: bs, a => by show (_ :: endsAt _ bs).length = _; rw [List.length_cons, endsAt_len bs, List.length_cons]

theorem chain_frames : ∀ (bs : List (List UInt8)) (p r : List UInt8) (fs : List Nat), (∀ b ∈ bs, b.length ≤ 65536) → Chain (p ++ (frames bs ++ r)) (p.length + (frames bs).length) fs → Chain (p ++ (frames bs ++ r)) p.length (endsAt p.length bs ++ fs)
  | [], p, r, fs, _, h => h
  | b :: bs, p, r, fs, hb, h => by
    have e : p ++ (frames (b :: bs) ++ r) = (p ++ frame b) ++ (frames bs ++ r) := by
      show p ++ ((frame b ++ frames bs) ++ r) = _
      simp only [List.append_assoc]
    have hl : (p ++ frame b).length = p.length + 8 + b.length := by rw [List.length_append, frame_len]; omega
    have hlen : p.length + (frames (b :: bs)).length = (p ++ frame b).length + (frames bs).length := by
      show p.length + (frame b ++ frames bs).length = _
      rw [List.length_append, List.length_append]; omega
    have hstep : behindAt (p ++ (frames (b :: bs) ++ r)) p.length = some (p.length + 8 + b.length) := by
      have h2 := behindAt_frame p b (frames bs ++ r) (hb b (by simp))
      show behindAt (p ++ ((frame b ++ frames bs) ++ r)) p.length = _
      rw [List.append_assoc]; exact h2
    rw [hlen, e] at h
    have ih := chain_frames bs (p ++ frame b) r fs (fun x hx => hb x (by simp [hx])) h
    rw [hl] at ih
    rw [← e] at ih
    exact .go hstep ih

theorem bodies_frames : ∀ (bs : List (List UInt8)) (p r : List UInt8) (fs : List Nat), bodiesOf (p ++ (frames bs ++ r)) p.length (endsAt p.length bs ++ fs) = bs.map (fun b => (⟨b.toArray⟩ : ByteArray)) ++ bodiesOf (p ++ (frames bs ++ r)) (p.length + (frames bs).length) fs
  | [], p, r, fs => rfl
  | b :: bs, p, r, fs => by
    have e : p ++ (frames (b :: bs) ++ r) = (p ++ frame b) ++ (frames bs ++ r) := by
      show p ++ ((frame b ++ frames bs) ++ r) = _
      simp only [List.append_assoc]
    have hl : (p ++ frame b).length = p.length + 8 + b.length := by rw [List.length_append, frame_len]; omega
    have hlen : p.length + (frames (b :: bs)).length = (p ++ frame b).length + (frames bs).length := by
      show p.length + (frame b ++ frames bs).length = _
      rw [List.length_append, List.length_append]; omega
    have ih := bodies_frames bs (p ++ frame b) r fs
    rw [hl, ← e] at ih
    have hb : bodyAt (p ++ (frames (b :: bs) ++ r)) p.length (p.length + 8 + b.length) = b := by
      show bodyAt (p ++ ((frame b ++ frames bs) ++ r)) p.length (p.length + 8 + b.length) = b
      rw [List.append_assoc]; exact bodyAt_frame p b (frames bs ++ r)
    show (⟨(bodyAt (p ++ (frames (b :: bs) ++ r)) p.length (p.length + 8 + b.length)).toArray⟩ : ByteArray) :: bodiesOf (p ++ (frames (b :: bs) ++ r)) (p.length + 8 + b.length) (endsAt (p.length + 8 + b.length) bs ++ fs) = _
    rw [hb, ih, hlen, hl]
    rfl

/-- How far it goes: the last place. -/
theorem at_append (es fs : List Nat) (a : Nat) : at_ a (es ++ fs) (es ++ fs).length = at_ (at_ a es es.length) fs fs.length := by
  induction es generalizing a with
  | nil => rfl
  | cons e es ih =>
    have e1 : ∀ (gs : List Nat), at_ a (e :: gs) (e :: gs).length = at_ e gs gs.length := fun gs => by unfold at_; rw [List.length_cons, List.getD_cons_succ]
    rw [List.cons_append, e1, e1]; exact ih e
theorem at_endsAt : ∀ (bs : List (List UInt8)) (a : Nat), at_ a (endsAt a bs) (endsAt a bs).length = a + (frames bs).length
  | [], a => rfl
  | b :: bs, a => by
    have e1 : ∀ (x : Nat) (gs : List Nat), at_ a (x :: gs) (x :: gs).length = at_ x gs gs.length := fun x gs => by unfold at_; rw [List.length_cons, List.getD_cons_succ]
    show at_ a ((a + 8 + b.length) :: endsAt (a + 8 + b.length) bs) ((a + 8 + b.length) :: endsAt (a + 8 + b.length) bs).length = a + (frame b ++ frames bs).length
    rw [e1, at_endsAt bs, List.length_append, frame_len]; omega

theorem behindAt_shift (p r : List UInt8) (a : Nat) : behindAt (p ++ r) (p.length + a) = (behindAt r a).map (p.length + ·) := by
  unfold behindAt
  have d : ∀ k, (p ++ r).drop (p.length + k) = r.drop k := fun k => by rw [← List.drop_drop, List.drop_left]
  rw [Nat.add_assoc p.length a 8, Nat.add_assoc p.length a 4, d a, d (a + 8), d (a + 4), List.length_append]
  by_cases h1 : a + 8 ≤ r.length
  · rw [if_pos (show p.length + (a + 8) ≤ p.length + r.length by omega), if_pos h1]
    by_cases h2 : num (r.drop a) ≤ 65536 ∧ a + 8 + num (r.drop a) ≤ r.length ∧ more (crc ((r.drop a).take 4)) ((r.drop (a + 8)).take (num (r.drop a))) = num (r.drop (a + 4))
    · rw [if_pos ⟨h2.1, by omega, h2.2.2⟩, if_pos h2]; simp; omega
    · rw [if_neg (fun x => h2 ⟨x.1, by omega, x.2.2⟩), if_neg h2]; rfl
  · rw [if_neg (by omega), if_neg h1]; rfl

theorem chain_shift (p : List UInt8) {r : List UInt8} {a : Nat} {fs : List Nat} (h : Chain r a fs) : Chain (p ++ r) (p.length + a) (fs.map (p.length + ·)) := by
  induction h with
  | stop hb => exact .stop (by rw [behindAt_shift, hb]; rfl)
  | go hb _ ih => exact .go (by rw [behindAt_shift, hb]; rfl) ih

/-- Frames, with whatever behind. -/
theorem chain_all (bs : List (List UInt8)) (r : List UInt8) (fs : List Nat) (hb : ∀ b ∈ bs, b.length ≤ 65536) (hr : Chain r 0 fs) : Chain (frames bs ++ r) 0 (endsAt 0 bs ++ fs.map ((frames bs).length + ·)) := by
  have h := chain_frames bs [] r (fs.map ((frames bs).length + ·)) hb (by rw [List.nil_append, List.length_nil, Nat.zero_add]; exact chain_shift (frames bs) hr)
  rw [List.nil_append, List.length_nil] at h
  exact h
theorem chain_whole (bs : List (List UInt8)) (r : List UInt8) (hb : ∀ b ∈ bs, b.length ≤ 65536) (hr : behindAt r 0 = none) : Chain (frames bs ++ r) 0 (endsAt 0 bs) := by
  have h := chain_all bs r [] hb (.stop hr)
  rw [List.map_nil, List.append_nil] at h
  exact h
theorem far_whole (bs : List (List UInt8)) : at_ 0 (endsAt 0 bs) (endsAt 0 bs).length = (frames bs).length := by
  rw [at_endsAt, Nat.zero_add]
theorem far_more (bs : List (List UInt8)) {r : List UInt8} {e : Nat} {fs : List Nat} (hr : Chain r 0 fs) (he : behindAt r 0 = some e) :
    (frames bs).length < at_ 0 (endsAt 0 bs ++ fs.map ((frames bs).length + ·)) (endsAt 0 bs ++ fs.map ((frames bs).length + ·)).length := by
  rw [at_append, far_whole]
  cases hr with
  | stop h => rw [he] at h; cases h
  | @go _ f fs h2 r2 =>
    have hpos : ∀ (gs : List Nat) (x : Nat), Chain r x gs → x ≤ at_ x gs gs.length := by
      intro gs x h
      induction h with
      | stop _ => exact Nat.le_refl _
      | @go a e es hb _ ih =>
        have := behindAt_le hb
        have e1 : at_ a (e :: es) (e :: es).length = at_ e es es.length := by unfold at_; rw [List.length_cons, List.getD_cons_succ]
        rw [e1]; omega
    have hm : ∀ (gs : List Nat) (c x : Nat), at_ (c + x) (gs.map (c + ·)) (gs.map (c + ·)).length = c + at_ x gs gs.length := by
      intro gs c
      induction gs with
      | nil => intro x; rfl
      | cons g gs ih =>
        intro x
        have e1 : ∀ (y z : Nat) (ks : List Nat), at_ y (z :: ks) (z :: ks).length = at_ z ks ks.length := fun y z ks => by unfold at_; rw [List.length_cons, List.getD_cons_succ]
        rw [List.map_cons, e1, e1]; exact ih g
    have h3 := behindAt_le h2
    have h4 := hpos _ _ r2
    have h5 := hm (f :: fs) (frames bs).length 0
    have e1 : at_ 0 (f :: fs) (f :: fs).length = at_ f fs fs.length := by unfold at_; rw [List.length_cons, List.getD_cons_succ]
    rw [Nat.add_zero] at h5
    rw [h5, e1]; omega
theorem bodies_whole (bs : List (List UInt8)) : bodiesOf (frames bs) 0 (endsAt 0 bs) = bs.map (fun b => (⟨b.toArray⟩ : ByteArray)) := by
  have h := bodies_frames bs [] [] []
  rw [List.nil_append, List.length_nil, List.append_nil, List.append_nil, Nat.zero_add] at h
  rw [h]; show _ ++ [] = _; rw [List.append_nil]
end Go.Proofs.Ytkaanffclpbiiaa.Sm
