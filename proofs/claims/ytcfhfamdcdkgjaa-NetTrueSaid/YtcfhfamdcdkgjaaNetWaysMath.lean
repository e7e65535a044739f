/-
  Plain facts on a net whose packets come in order, and on a way that is cut. No condition.
-/
import Derived.Test.YtcfhfamdcdkgjaaNetMath
namespace Nm
/-- A net with these packets, no way cut. -/
def nets (l : List Pk) : Net := ⟨l, fun _ _ => false, 0⟩
theorem nets_send {l : List Pk} {p : Pk} (hp : p.d.size ≤ 8192) (hl : l.length < 1024) : send (nets l) p = (true, nets (l ++ [p])) := by
  unfold send
  rw [if_neg (by omega), if_neg (by show ¬ 1024 ≤ l.length; omega)]
  rfl
theorem place_zero (n : Nat) : place 0 n = 0 := by unfold place; simp
theorem come_head {N : Net} {p : Pk} {l : List Pk} (h : N.row = p :: l) : come N 0 = if N.isCut p then (zero, false, { N with row := l }) else (p, true, { N with row := l }) := by
  have e1 : at_ N 0 = p := by unfold at_; rw [place_zero, h]; rfl
  have e2 : drop N 0 = { N with row := l } := by unfold drop; rw [place_zero, h]; rfl
  unfold come
  rw [if_neg (by rw [h]; simp), e1, e2]
theorem come_cut {N : Net} {p : Pk} {l : List Pk} (h : N.row = p :: l) (hc : N.isCut p = true) : come N 0 = (zero, false, { N with row := l }) := by rw [come_head h, hc, if_pos rfl]
theorem come_open {N : Net} {p : Pk} {l : List Pk} (h : N.row = p :: l) (hc : N.isCut p = false) : come N 0 = (p, true, { N with row := l }) := by rw [come_head h, hc, if_neg (by simp)]
theorem send_cut {N : Net} {p : Pk} (hp : p.d.size ≤ 8192) (hl : N.row.length < 1024) (hc : N.isCut p = true) : send N p = (true, N) := by
  unfold send; rw [if_neg (by omega), if_neg (by omega), hc, if_pos rfl]
theorem isCut_cutTo (N : Net) (a b : Int) (on : Bool) (p : Pk) : (cutTo N a b on).isCut p = if min p.f p.t = min a b ∧ max p.f p.t = max a b then on else N.isCut p := rfl
/-- What NetWays asks of the document's answer. -/
structure Ways (a b c : Int) (p q r : Pk) : Prop where
  s1 : send (nets []) p = (true, nets [p])
  s2 : send (nets [p]) q = (true, nets [p, q])
  s3 : send (nets [p, q]) r = (true, nets [p, q, r])
  s4 : send (cutTo (nets [p, q, r]) b a true) p = (true, cutTo (nets [p, q, r]) b a true)
  s5 : send (cutTo (nets [p, q, r]) b a true) q = (true, cutTo (nets [p, q, r]) b a true)
  c1 : come (cutTo (nets [p, q, r]) b a true) 0 = (zero, false, cutTo (nets [q, r]) b a true)
  c2 : come (cutTo (nets [q, r]) b a true) 0 = (zero, false, cutTo (nets [r]) b a true)
  c3 : come (cutTo (nets [r]) b a true) 0 = (r, true, cutTo (nets []) b a true)
  c4 : come (cutTo (cutTo (nets [p, q, r]) b a true) a b false) 0 = (p, true, cutTo (cutTo (nets [q, r]) b a true) a b false)
  c5 : come (cutTo (cutTo (nets [q, r]) b a true) a b false) 0 = (q, true, cutTo (cutTo (nets [r]) b a true) a b false)
theorem ways_of {a b c : Int} {p q r : Pk} (hp : p.f = a ∧ p.t = b) (hq : q.f = b ∧ q.t = a) (hr : r.f = a ∧ r.t = c) (h1 : p.d.size ≤ 8192) (h2 : q.d.size ≤ 8192) (h3 : r.d.size ≤ 8192) (ca : c ≠ a) (cb : c ≠ b) : Ways a b c p q r := by
  have ip : ∀ l, (cutTo (nets l) b a true).isCut p = true := fun l => by rw [isCut_cutTo, hp.1, hp.2, if_pos (by omega)]
  have iq : ∀ l, (cutTo (nets l) b a true).isCut q = true := fun l => by rw [isCut_cutTo, hq.1, hq.2, if_pos (by omega)]
  have ir : ∀ l, (cutTo (nets l) b a true).isCut r = false := fun l => by rw [isCut_cutTo, hr.1, hr.2, if_neg (by omega)]; rfl
  have jp : ∀ N, (cutTo N a b false).isCut p = false := fun N => by rw [isCut_cutTo, hp.1, hp.2, if_pos (by omega)]
  have jq : ∀ N, (cutTo N a b false).isCut q = false := fun N => by rw [isCut_cutTo, hq.1, hq.2, if_pos (by omega)]
  exact ⟨nets_send h1 (by simp), nets_send h2 (by simp), nets_send h3 (by simp), send_cut h1 (by show 3 < 1024; omega) (ip _), send_cut h2 (by show 3 < 1024; omega) (iq _),
    come_cut (p := p) rfl (ip _), come_cut (p := q) rfl (iq _), come_open (p := r) rfl (ir _), come_open (p := p) rfl (jp _), come_open (p := q) rfl (jq _)⟩
end Nm
