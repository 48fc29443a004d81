import Derived.Test.YtcnmajndackohaaGreatDoorMg12
/-
  What Check does at a flow that may not be: its peak, its time.
-/
namespace Go.Proofs.YtcnmajndackohaaGreatDoor
open Go.RowKit
set_option maxRecDepth 100000 in
set_option maxHeartbeats 8000000 in
theorem check_bad4 (s p b r d : Int) (a0 : Addr) (w : World) (g0 : w.cell? ⟨0, 0, none⟩ = some (.iface 242 (.pointer (some a0))))
    (s0 : 2 ≤ s) (s1 : s ≤ 8) (b0 : s ≤ b) (b1 : b ≤ 30) (r0 : 0 ≤ r) (r1 : r ≤ 12) (h : p < r ∨ (r ≤ p ∧ 12 < p)) :
    Calls Tryz.prog 67 #[.agg #[.int .i64 s, .int .i64 p, .int .i64 b, .int .i64 r, .int .i64 d]] w fun e w' => (∃ q, e = .returned (chn [q] a0)) ∧ Below w.heap.size w w' := by
  have g3 := past6 g0
  clear g0
  rcases h with h | ⟨h0, h⟩
  all_goals
    go_enter Tryz.func67, Tryz.ntmps67
    go_wp2
    go_rounds 4
    go_ret
    refine ⟨⟨_, rfl⟩, ?_⟩
    go_grown
set_option maxRecDepth 100000 in
set_option maxHeartbeats 8000000 in
theorem check_bad5 (s p b r d : Int) (a0 : Addr) (w : World) (g0 : w.cell? ⟨0, 0, none⟩ = some (.iface 242 (.pointer (some a0))))
    (s0 : 2 ≤ s) (s1 : s ≤ 8) (b0 : s ≤ b) (b1 : b ≤ 30) (r0 : 0 ≤ r) (r1 : r ≤ 12) (p0 : r ≤ p) (p1 : p ≤ 12) (h : d < s ∨ (s ≤ d ∧ 100 < d)) :
    Calls Tryz.prog 67 #[.agg #[.int .i64 s, .int .i64 p, .int .i64 b, .int .i64 r, .int .i64 d]] w fun e w' => (∃ q, e = .returned (chn [q] a0)) ∧ Below w.heap.size w w' := by
  have g3 := past7 g0
  clear g0
  rcases h with h | ⟨h0, h⟩
  all_goals
    go_enter Tryz.func67, Tryz.ntmps67
    go_wp2
    go_rounds 5
    go_ret
    refine ⟨⟨_, rfl⟩, ?_⟩
    go_grown
end Go.Proofs.YtcnmajndackohaaGreatDoor
