/-
  errors.As at a violation behind one wrap: found, and the target is set.
-/
import Derived.Test.YtcnmajndackohaaDoorErrAs
namespace Go.Proofs.YtcnmajndackohaaDoor
open Go.RowKit Go.Extern.Stop Go.Stop Go.Extern

set_option maxRecDepth 100000 in
set_option maxHeartbeats 4000000 in
theorem as_vio (s : ByteArray) (t : Int) (tb : Nat) (old : Value) (w : World) (hg : w.cell? ⟨6, 0, none⟩ = some (.iface 73 (.agg #[.pointer (some ⟨10, 38, none⟩)]))) (ht0 : w.cell? ⟨tb, 0, none⟩ = some old) (hf0 : w.frozen? ⟨tb, 0, none⟩ = false) (B : Nat) (hB : B ≤ tb) :
    Calls Tryd.prog 22 #[plc s (vio t), .iface 50 (.pointer (some ⟨tb, 0, none⟩))] w fun e w' => e = .returned (.bool true) ∧ Below B w w' ∧ w'.cell? ⟨tb, 0, none⟩ = some (.int .i64 t) := by
  have zg : 6 < w.heap.size := World.block_lt_of_cell? _ _ hg
  have zt : tb < w.heap.size := World.block_lt_of_cell? _ _ ht0
  have f1 := valueOfP
  have f2 := typeP
  have f3 := kindP
  have f4 := kindV
  have f5 := elemP
  have f6 := implV
  have f7 := typeOfPl
  have f8 := typeOfV
  have f9 := asgPl
  have f10 := asgV
  have f11 := valueOfV
  have f12 := noAsP
  have uP := hasUnwrapP
  have n8 := fun X => isNilP ⟨w.heap.size, 0, none⟩ ⟨tb, 0, none⟩ ((w.alloc (.cells #[.pointer (some ⟨tb, 0, none⟩)] 50)).alloc X) (by rw [World.cell?_alloc_past _ _ _ (by simp)]; exact World.cell?_alloc_new _ _ _ 0)
  have hg2 : ∀ X Y : Obj, ((w.alloc X).alloc Y).cell? ⟨6, 0, none⟩ = some (.iface 73 (.agg #[.pointer (some ⟨10, 38, none⟩)])) := fun X Y => by
    rw [World.cell?_alloc_past _ _ _ (by simp; omega), World.cell?_alloc_past _ _ _ zg]; exact hg
  have el := fun X Y Z => elemVP ⟨w.heap.size, 0, none⟩ ⟨tb, 0, none⟩ ((((w.alloc (.cells #[.pointer (some ⟨tb, 0, none⟩)] 50)).alloc X).alloc Y).alloc Z) (by rw [World.cell?_alloc_past _ _ _ (by simp; omega), World.cell?_alloc_past _ _ _ (by simp; omega), World.cell?_alloc_past _ _ _ (by simp)]; exact World.cell?_alloc_new _ _ _ 0)
  have st := fun X Y Z => setV tb (w.heap.size + 1 + 1 + 1 + 1) t old (((((w.alloc (.cells #[.pointer (some ⟨tb, 0, none⟩)] 50)).alloc X).alloc Y).alloc Z).alloc (.cells #[.int .i64 t] 48))
    (by rw [World.cell?_alloc_at _ _ _ _ (by simp)]; rfl)
    (by rw [World.cell?_alloc_past _ _ _ (by simp; omega), World.cell?_alloc_past _ _ _ (by simp; omega), World.cell?_alloc_past _ _ _ (by simp; omega), World.cell?_alloc_past _ _ _ (by simp; omega), World.cell?_alloc_past _ _ _ zt]; exact ht0)
    (by rw [World.frozen?_alloc_old _ _ _ (by simp; omega), World.frozen?_alloc_old _ _ _ (by simp; omega), World.frozen?_alloc_old _ _ _ (by simp; omega), World.frozen?_alloc_old _ _ _ (by simp; omega), World.frozen?_alloc_old _ _ _ (by simp; omega)]; exact hf0)
  unfold plc vio
  go_enter Tryd.func22, Tryd.ntmps22
  go_wp2
  refine wp_loop_rounds 2 ?_
  rw [rounds_succ]
  go_wp2
  rw [rounds_succ]
  go_wp2
  go_ret
  refine ⟨rfl, ?_, ?_⟩
  · exact ((((((Below.refl _ _).alloc (by omega) _).alloc (by simp; omega) _).alloc (by simp; omega) _).alloc (by simp; omega) _).alloc (by simp; omega) _).setCell hB _
  · apply World.cell?_setCell_same (u := old)
    rw [World.cell?_alloc_past _ _ _ (by simp; omega), World.cell?_alloc_past _ _ _ (by simp; omega), World.cell?_alloc_past _ _ _ (by simp; omega), World.cell?_alloc_past _ _ _ (by simp; omega), World.cell?_alloc_past _ _ _ zt]
    exact ht0
end Go.Proofs.YtcnmajndackohaaDoor
