import Derived.Test.YtcnmajndackohaaGreatDoorMg09
import Derived.Test.YtcnmajndackohaaGreatDoorMg11
/-
  What Check and Most do at any flow.
-/
namespace Go.Proofs.YtcnmajndackohaaGreatDoor
open Go.RowKit
theorem past3 {w : World} {b o : Nat} {v : Value} (g : w.cell? ⟨b, o, none⟩ = some v) : ∀ X1 X2 X3 : Obj, (((w.alloc X1).alloc X2).alloc X3).cell? ⟨b, o, none⟩ = some v := fun X1 X2 X3 => by
  have z : b < w.heap.size := World.block_lt_of_cell? _ _ g
  rw [World.cell?_alloc_past _ _ _ (by simp; omega), World.cell?_alloc_past _ _ _ (by simp; omega), World.cell?_alloc_past _ _ _ z]; exact g
theorem past4 {w : World} {b o : Nat} {v : Value} (g : w.cell? ⟨b, o, none⟩ = some v) : ∀ X1 X2 X3 X4 : Obj, ((((w.alloc X1).alloc X2).alloc X3).alloc X4).cell? ⟨b, o, none⟩ = some v := fun X1 X2 X3 X4 => by
  have z : b < w.heap.size := World.block_lt_of_cell? _ _ g
  rw [World.cell?_alloc_past _ _ _ (by simp; omega)]; exact past3 g _ _ _
theorem past5 {w : World} {b o : Nat} {v : Value} (g : w.cell? ⟨b, o, none⟩ = some v) : ∀ X1 X2 X3 X4 X5 : Obj, (((((w.alloc X1).alloc X2).alloc X3).alloc X4).alloc X5).cell? ⟨b, o, none⟩ = some v := fun X1 X2 X3 X4 X5 => by
  have z : b < w.heap.size := World.block_lt_of_cell? _ _ g
  rw [World.cell?_alloc_past _ _ _ (by simp; omega)]; exact past4 g _ _ _ _
theorem past6 {w : World} {b o : Nat} {v : Value} (g : w.cell? ⟨b, o, none⟩ = some v) : ∀ X1 X2 X3 X4 X5 X6 : Obj, ((((((w.alloc X1).alloc X2).alloc X3).alloc X4).alloc X5).alloc X6).cell? ⟨b, o, none⟩ = some v := fun X1 X2 X3 X4 X5 X6 => by
  have z : b < w.heap.size := World.block_lt_of_cell? _ _ g
  rw [World.cell?_alloc_past _ _ _ (by simp; omega)]; exact past5 g _ _ _ _ _
theorem past7 {w : World} {b o : Nat} {v : Value} (g : w.cell? ⟨b, o, none⟩ = some v) : ∀ X1 X2 X3 X4 X5 X6 X7 : Obj, (((((((w.alloc X1).alloc X2).alloc X3).alloc X4).alloc X5).alloc X6).alloc X7).cell? ⟨b, o, none⟩ = some v := fun X1 X2 X3 X4 X5 X6 X7 => by
  have z : b < w.heap.size := World.block_lt_of_cell? _ _ g
  rw [World.cell?_alloc_past _ _ _ (by simp; omega)]; exact past6 g _ _ _ _ _ _
set_option maxRecDepth 100000 in
set_option maxHeartbeats 4000000 in
theorem check_bad1 (s p b r d : Int) (a0 : Addr) (w : World) (g0 : w.cell? ⟨0, 0, none⟩ = some (.iface 242 (.pointer (some a0))))
    (h : s < 2 ∨ (2 ≤ s ∧ 8 < s)) :
    Calls Tryz.prog 67 #[.agg #[.int .i64 s, .int .i64 p, .int .i64 b, .int .i64 r, .int .i64 d]] w fun e w' => (∃ q, e = .returned (chn [q] a0)) ∧ Below w.heap.size w w' := by
  have g3 := past3 g0
  clear g0
  rcases h with h | ⟨h0, h⟩
  all_goals
    go_enter Tryz.func67, Tryz.ntmps67
    go_wp2
    go_rounds 1
    go_ret
    refine ⟨⟨_, rfl⟩, ?_⟩
    go_grown
end Go.Proofs.YtcnmajndackohaaGreatDoor
