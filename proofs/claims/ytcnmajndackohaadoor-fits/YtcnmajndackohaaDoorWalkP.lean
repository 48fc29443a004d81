/-
  What the keeper's pick and most do.
-/
import Derived.Test.YtcnmajndackohaaDoorWalkB
namespace Go.Proofs.YtcnmajndackohaaDoor
open Go.RowKit

theorem pk_of_neg {c n : Int} (h : c < 0) : -(c + 1).tmod n = pk c n := by
  unfold pk; rw [if_pos h, ← Int.neg_tmod, Int.tmod_eq_emod_of_nonneg (by omega)]
theorem pk_of_nonneg {c n : Int} (h : 0 ≤ c) : c % n = pk c n := by
  unfold pk; rw [if_neg (by omega)]

set_option maxHeartbeats 400000 in
theorem pick_any (c n : Int) (w : World) (c0 : -9223372036854775808 ≤ c) (c1 : c ≤ 9223372036854775807) (n0 : 0 < n) (n1 : n ≤ 100000) :
    Calls Tryd.prog 6 #[.int .i64 c, .int .i64 n] w fun e w' => e = .returned (.int .i64 (pk c n)) ∧ w' = w := by
  have hz : (n == 0) = false := beq_eq_false_iff_ne.2 (by omega)
  by_cases h : c < 0
  · go_enter Tryd.func6, Tryd.ntmps6
    go_wp2
    go_ret
    exact ⟨ret_int (pk_of_neg h), rfl⟩
  · go_enter Tryd.func6, Tryd.ntmps6
    go_wp2
    go_ret
    exact ⟨ret_int (pk_of_nonneg (by omega)), rfl⟩

set_option maxHeartbeats 1000000 in
theorem kmost_ok (s p b r d t : Int) (w : World) (hs : Sts w) (h : May s p b r d) (t1 : t ≤ 100000) :
    Calls Tryd.prog 7 #[.agg #[.int .i64 s, .int .i64 p, .int .i64 b, .int .i64 r, .int .i64 d], .int .i64 t] w fun e w' => e = .returned (.int .i64 (allow s p b r t)) ∧ Below w.heap.size w w' := by
  have HS := hide hs
  clear hs
  go_enter Tryd.func7, Tryd.ntmps7
  go_wp2_with fail
  refine (tmost_ok s p b r d t _ ((unhide HS).below ((Below.refl _ _).alloc (Nat.le_refl _) _)) h t1).mono ?_
  rintro e w1 ⟨rfl, hb⟩
  go_wp2_with fail
  go_ret
  exact ⟨rfl, ((Below.refl _ _).alloc (Nat.le_refl _) _).trans (hb.mono (by simp))⟩
end Go.Proofs.YtcnmajndackohaaDoor
