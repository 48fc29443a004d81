/-
  What the document's own answer does: E, May, Most.
-/
import Derived.Test.YtcnmajndackohaaGreatDoorVio
import Derived.Test.YtcnmajndackohaaGreatDoorRefM
import Derived.Deep.DeepCutAuto
namespace Go.Proofs.YtcnmajndackohaaGreatDoor
open Go.RowKit

set_option maxHeartbeats 1000000 in
theorem rE_any (s p b r d t : Int) (w : World) (h : May s p b r d) (t1 : t ≤ 100000) :
    Calls Tryz.prog 99 #[.agg #[.int .i64 s, .int .i64 p, .int .i64 b, .int .i64 r, .int .i64 d], .int .i64 t] w fun e w' => e = .returned (.int .i64 (allow s p b r t)) ∧ Below w.heap.size w w' := by
  obtain ⟨s0, s1, b0, b1, r0, p0, p1, d0, d1⟩ := h
  by_cases h : t < 0
  · go_enter Tryz.func99, Tryz.ntmps99
    go_wp2
    go_ret
    exact ⟨ret_int (allow_neg _ _ _ _ _ h).symm, (Below.refl _ _).alloc (Nat.le_refl _) _⟩
  · have t0 : 0 ≤ t := by omega
    have m1 : 0 ≤ p * t := Int.mul_nonneg (by omega) t0
    have m2 : p * t ≤ 1200000 := by
      have := Int.mul_le_mul p1 t1 t0 (by decide); omega
    have m3 : 0 ≤ r * t := Int.mul_nonneg (by omega) t0
    have m4 : r * t ≤ 1200000 := by
      have := Int.mul_le_mul (show r ≤ 12 by omega) t1 t0 (by decide); omega
    go_enter Tryz.func99, Tryz.ntmps99
    go_wp2
    all_goals
      go_ret
      exact ⟨ret_int (by rw [allow_pos _ _ _ _ _ t0]; omega), (Below.refl _ _).alloc (Nat.le_refl _) _⟩

theorem val_bool {a b : Bool} (h : a = b) : Value.bool a = .bool b := by rw [h]
set_option maxHeartbeats 4000000 in
theorem rmay_any (f : Fl) (w : World) :
    Calls Tryz.prog 85 #[.agg #[.int .i64 f.s, .int .i64 f.p, .int .i64 f.b, .int .i64 f.r, .int .i64 f.d]] w fun e w' => e = .returned (.bool f.mayB) ∧ Below w.heap.size w w' := by
  obtain ⟨s, p, b, r, d⟩ := f
  have HM := hide (show Fl.mayB ⟨s, p, b, r, d⟩ = ((decide (2 ≤ s) && decide (s ≤ 8) && decide (s ≤ b) && decide (b ≤ 30)) && (decide (0 ≤ r) && decide (r ≤ 12) && decide (r ≤ p) && decide (p ≤ 12)) && decide (s ≤ d) && decide (d ≤ 100)) from rfl)
  generalize hA : (decide (2 ≤ s) && decide (s ≤ 8) && decide (s ≤ b) && decide (b ≤ 30)) = A at *
  generalize hB : (decide (0 ≤ r) && decide (r ≤ 12) && decide (r ≤ p) && decide (p ≤ 12)) = B at *
  have HA := hide hA
  have HB := hide hB
  clear hA hB
  go_enter Tryz.func85, Tryz.ntmps85
  go_upto_region 1 with fail
  go_cut [3] (fun x wq => x = .bool A ∧ wq = w.alloc (.cells #[.int .i64 s, .int .i64 p, .int .i64 b, .int .i64 r, .int .i64 d] 35))
  case first =>
    go_wp2_with fail
    all_goals
      go_meet
      case rel => exact ⟨val_bool (by rw [← unhide HA, Bool.eq_iff_iff]; simp; try omega), rfl⟩
  case rest =>
    obtain ⟨rfl, rfl⟩ := hcut
    go_upto_region 2 with fail
    go_cut [4] (fun x wq => x = .bool B ∧ wq = w.alloc (.cells #[.int .i64 s, .int .i64 p, .int .i64 b, .int .i64 r, .int .i64 d] 35))
    case first =>
      go_wp2_with fail
      all_goals
        go_meet
        case rel => exact ⟨val_bool (by rw [← unhide HB, Bool.eq_iff_iff]; simp; try omega), rfl⟩
    case rest =>
      obtain ⟨rfl, rfl⟩ := hcut
      cases A
      · go_wp2_with fail
        go_ret
        exact ⟨ret_bool (by rw [unhide HM]; rfl), (Below.refl _ _).alloc (Nat.le_refl _) _⟩
      · cases B
        · go_wp2_with fail
          go_ret
          exact ⟨ret_bool (by rw [unhide HM]; rfl), (Below.refl _ _).alloc (Nat.le_refl _) _⟩
        · go_wp2_with fail
          all_goals
            go_ret
            exact ⟨ret_bool (by rw [unhide HM, Bool.eq_iff_iff]; simp; try omega), (Below.refl _ _).alloc (Nat.le_refl _) _⟩

set_option maxHeartbeats 1000000 in
theorem rmost_yes (f : Fl) (t : Int) (w : World) (h : f.may) (t1 : t ≤ 100000) :
    Calls Tryz.prog 75 #[.agg #[.int .i64 f.s, .int .i64 f.p, .int .i64 f.b, .int .i64 f.r, .int .i64 f.d], .int .i64 t] w fun e w' => e = .returned (.tuple #[.int .i64 (allow f.s f.p f.b f.r t), .int .i64 0]) ∧ Below w.heap.size w w' := by
  have HM := hide h
  have hb := (mayB_iff f).2 h
  clear h
  go_enter Tryz.func75, Tryz.ntmps75
  go_wp2_with fail
  refine (rmay_any f _).mono ?_
  rintro e w1 ⟨rfl, hb1⟩
  rw [hb]
  obtain ⟨hc, hf⟩ := bcell hb1
  have hz : w.heap.size < w1.heap.size := by have := hb1.size; simp at this; omega
  have HB1 := hide (bel_then (bel_one _) hb1)
  clear hb1 hb
  go_wp2_with fail
  refine (rE_any f.s f.p f.b f.r f.d t _ (unhide HM) t1).mono ?_
  rintro e w2 ⟨rfl, hb2⟩
  have HB2 := hide (bel_then (unhide HB1) hb2)
  clear hb2
  go_wp2_with fail
  go_ret2
  exact ⟨rfl, unhide HB2⟩
set_option maxHeartbeats 1000000 in
theorem rmost_no (f : Fl) (t : Int) (w : World) (h : ¬ (f.may ∧ t ≤ 100000)) :
    Calls Tryz.prog 75 #[.agg #[.int .i64 f.s, .int .i64 f.p, .int .i64 f.b, .int .i64 f.r, .int .i64 f.d], .int .i64 t] w fun e w' => e = .returned (.tuple #[.int .i64 0, .int .i64 1]) ∧ Below w.heap.size w w' := by
  have hb : f.mayB = true → 100000 < t := fun hm => by
    have : ¬ t ≤ 100000 := fun ht => h ⟨(mayB_iff f).1 hm, ht⟩
    omega
  have HB := hide hb
  clear h hb
  go_enter Tryz.func75, Tryz.ntmps75
  go_wp2_with fail
  refine (rmay_any f _).mono ?_
  rintro e w1 ⟨rfl, hb1⟩
  have HB1 := hide (bel_then (bel_one _) hb1)
  clear hb1
  cases hm : f.mayB
  · clear hm
    go_wp2_with fail
    go_ret2
    exact ⟨rfl, unhide HB1⟩
  · have ht := unhide HB hm
    clear hm
    go_wp2_with fail
    go_ret2
    exact ⟨rfl, unhide HB1⟩
end Go.Proofs.YtcnmajndackohaaGreatDoor
