/-
  Plain numbers: what 'pick' chooses, what may come of a flow in so many ticks, and how that grows. Nothing of the program stands here.
-/
namespace Go.Proofs.YtcnmajndackohaaGreatDoor
/-- Which of n things the raw number c speaks of. -/
def pk (c n : Int) : Int := (if c < 0 then -(c + 1) else c) % n
/-- How much of a flow may come in t ticks. -/
def allow (s p b r t : Int) : Int := if t < 0 then 0 else min (s + p * t / 12) (b + r * t / 12)
theorem allow_neg (s p b r t : Int) (h : t < 0) : allow s p b r t = 0 := by unfold allow; rw [if_pos h]
theorem allow_pos (s p b r t : Int) (h : 0 ≤ t) : allow s p b r t = min (s + p * t / 12) (b + r * t / 12) := by unfold allow; rw [if_neg (by omega)]
/-- A flow that may be. -/
structure May (s p b r d : Int) : Prop where
  s0 : 2 ≤ s
  s1 : s ≤ 8
  b0 : s ≤ b
  b1 : b ≤ 30
  r0 : 0 ≤ r
  p0 : r ≤ p
  p1 : p ≤ 12
  d0 : s ≤ d
  d1 : d ≤ 100
/-- What grows, and how. -/
theorem allow_zero {s p b r d : Int} (h : May s p b r d) : allow s p b r 0 = s := by
  obtain ⟨s0, s1, b0, b1, r0, p0, p1, d0, d1⟩ := h
  rw [allow_pos _ _ _ _ _ (by decide)]; simp; omega
theorem mul_le {r p x : Int} (h : r ≤ p) (x0 : 0 ≤ x) : r * x ≤ p * x := Int.mul_le_mul_of_nonneg_right h x0
theorem allow_rate {s p b r d x : Int} (h : May s p b r d) (x0 : 0 ≤ x) : allow s p b r x ≤ b + r * x / 12 ∧ allow s p b r x ≤ s + p * x / 12 ∧ 0 ≤ allow s p b r x := by
  obtain ⟨s0, s1, b0, b1, r0, p0, p1, d0, d1⟩ := h
  have m1 : 0 ≤ p * x := Int.mul_nonneg (by omega) x0
  have m3 : 0 ≤ r * x := Int.mul_nonneg (by omega) x0
  rw [allow_pos _ _ _ _ _ x0]; omega
end Go.Proofs.YtcnmajndackohaaGreatDoor
