import Derived.Test.YtcnmajndackohaaGreatDoorMg12
/-
  What Check does at a flow that may not be: its burst, its rate.
-/
namespace Go.Proofs.YtcnmajndackohaaGreatDoor
open Go.RowKit
set_option maxRecDepth 100000 in
set_option maxHeartbeats 8000000 in
theorem check_bad2 (s p b r d : Int) (a0 : Addr) (w : World) (g0 : w.cell? ⟨0, 0, none⟩ = some (.iface 242 (.pointer (some a0))))
    (s0 : 2 ≤ s) (s1 : s ≤ 8) (h : b < s ∨ (s ≤ b ∧ 30 < b)) :
    Calls Tryz.prog 67 #[.agg #[.int .i64 s, .int .i64 p, .int .i64 b, .int .i64 r, .int .i64 d]] w fun e w' => (∃ q, e = .returned (chn [q] a0)) ∧ Below w.heap.size w w' := by
  have g3 := past4 g0
  clear g0
  rcases h with h | ⟨h0, h⟩
  all_goals
    go_enter Tryz.func67, Tryz.ntmps67
    go_wp2
    go_rounds 2
    go_ret
    refine ⟨⟨_, rfl⟩, ?_⟩
    go_grown
set_option maxRecDepth 100000 in
set_option maxHeartbeats 8000000 in
theorem check_bad3 (s p b r d : Int) (a0 : Addr) (w : World) (g0 : w.cell? ⟨0, 0, none⟩ = some (.iface 242 (.pointer (some a0))))
    (s0 : 2 ≤ s) (s1 : s ≤ 8) (b0 : s ≤ b) (b1 : b ≤ 30) (h : r < 0 ∨ (0 ≤ r ∧ 12 < r)) :
    Calls Tryz.prog 67 #[.agg #[.int .i64 s, .int .i64 p, .int .i64 b, .int .i64 r, .int .i64 d]] w fun e w' => (∃ q, e = .returned (chn [q] a0)) ∧ Below w.heap.size w w' := by
  have g3 := past5 g0
  clear g0
  rcases h with h | ⟨h0, h⟩
  all_goals
    go_enter Tryz.func67, Tryz.ntmps67
    go_wp2
    go_rounds 3
    go_ret
    refine ⟨⟨_, rfl⟩, ?_⟩
    go_grown
end Go.Proofs.YtcnmajndackohaaGreatDoor
