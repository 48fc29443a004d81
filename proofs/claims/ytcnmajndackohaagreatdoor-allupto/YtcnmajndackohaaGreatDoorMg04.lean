import Derived.Test.YtcnmajndackohaaGreatDoorMg03
import Derived.Stop.Asserts
import Derived.RowKitTokens
/-
  errors.Is and errors.As at what this program hands them: none, and a violation behind one wrap.
-/
namespace Go.Proofs.YtcnmajndackohaaGreatDoor
open Go.RowKit Go.Extern.Stop Go.Stop Go.Extern
/-- An error wrapped with where it was. -/
def plc (s : ByteArray) (e : Value) : Value := .iface 134 (.agg #[.string s, e])
/-- A violation. -/
def vio (t : Int) : Value := .iface 95 (.agg #[.int .i64 t])
theorem callTypeOf (v : Value) (w : World) : (callFunc 73 #[.iface 242 v]).run Tryz.prog w = .ok (.value (.iface 167 (.agg #[.pointer (some ⟨10, 242, none⟩)]))) w := by kernel_rfl
theorem callComparable (w : World) : (callFunc 189 #[.agg #[.pointer (some ⟨10, 242, none⟩)]]).run Tryz.prog w = .ok (.value (.bool true)) w := by kernel_rfl
theorem isComp : (Tryz.prog.info? 242).map (·.comparable) = some true := by kernel_rfl
theorem isSize : (Tryz.prog.info? 263).map (·.size) = some 1 := by kernel_rfl
theorem noIsE (v : Value) (xT : TypeId) (w : World) : (Instr.typeAssert (.iface 242 v) xT 179 true).run Tryz.prog w = .ok (.tuple #[.nilIface, .bool false]) w := run_typeAssert_lacksB Tryz.underlying179 (by kernel_rfl) (by kernel_rfl) v xT w
theorem noUnwrapE (v : Value) (xT : TypeId) (w : World) : (Instr.typeAssert (.iface 242 v) xT 174 true).run Tryz.prog w = .ok (.tuple #[.nilIface, .bool false]) w := run_typeAssert_lacksB Tryz.underlying174 (by kernel_rfl) (by kernel_rfl) v xT w
theorem noUnwrapsE (v : Value) (xT : TypeId) (w : World) : (Instr.typeAssert (.iface 242 v) xT 176 true).run Tryz.prog w = .ok (.tuple #[.nilIface, .bool false]) w := run_typeAssert_lacksB Tryz.underlying176 (by kernel_rfl) (by kernel_rfl) v xT w
theorem noIsP (v : Value) (xT : TypeId) (w : World) : (Instr.typeAssert (.iface 134 v) xT 179 true).run Tryz.prog w = .ok (.tuple #[.nilIface, .bool false]) w := run_typeAssert_lacksB Tryz.underlying179 (by kernel_rfl) (by kernel_rfl) v xT w
theorem hasUnwrapP (v : Value) (xT : TypeId) (w : World) : (Instr.typeAssert (.iface 134 v) xT 174 true).run Tryz.prog w = .ok (.tuple #[.iface 134 v, .bool true]) w := run_typeAssert_hasB Tryz.underlying174 (by kernel_rfl) v xT w
theorem noIsV (v : Value) (xT : TypeId) (w : World) : (Instr.typeAssert (.iface 95 v) xT 179 true).run Tryz.prog w = .ok (.tuple #[.nilIface, .bool false]) w := run_typeAssert_lacksB Tryz.underlying179 (by kernel_rfl) (by kernel_rfl) v xT w
theorem hasUnwrapV (v : Value) (xT : TypeId) (w : World) : (Instr.typeAssert (.iface 95 v) xT 174 true).run Tryz.prog w = .ok (.tuple #[.iface 95 v, .bool true]) w := run_typeAssert_hasB Tryz.underlying174 (by kernel_rfl) v xT w
set_option maxRecDepth 100000 in
set_option maxHeartbeats 2000000 in
theorem is_late (s : ByteArray) (t : Int) (a1 : Addr) (w : World) (g1 : w.cell? ⟨2, 0, none⟩ = some (.iface 242 (.pointer (some a1)))) :
    Calls Tryz.prog 49 #[plc s (vio t), .iface 242 (.pointer (some a1))] w fun e w' => e = .returned (.bool true) ∧ Below w.heap.size w w' := by
  obtain ⟨i, hi, hcmp⟩ := Option.map_eq_some_iff.1 isComp
  obtain ⟨j, hj, hjs⟩ := Option.map_eq_some_iff.1 isSize
  have z1 : 2 < w.heap.size := World.block_lt_of_cell? _ _ g1
  have tT := callTypeOf
  have cT := callComparable
  have nP := noIsP
  have uP := hasUnwrapP
  have nV := noIsV
  have uV := hasUnwrapV
  have hty1 := fun W => run_eql_iface_types (P := Tryz.prog) 134 242 (.agg #[.string s, vio t]) (.pointer (some a1)) Tryz.underlying66 (by decide) W
  have hty2 := fun W => run_eql_iface_types (P := Tryz.prog) 95 242 (.agg #[.int .i64 t]) (.pointer (some a1)) Tryz.underlying66 (by decide) W
  have heq := fun W => run_eql_iface_ptr_same (P := Tryz.prog) W a1 Tryz.underlying66 Tryz.underlying242 hi hcmp hj
  have g1' : ∀ X Y : Obj, ((w.alloc X).alloc Y).cell? ⟨2, 0, none⟩ = some (.iface 242 (.pointer (some a1))) := fun X Y => by
    rw [World.cell?_alloc_past _ _ _ (by simp; omega), World.cell?_alloc_past _ _ _ z1]; exact g1
  unfold vio at hty1
  unfold plc vio
  go_enter Tryz.func49, Tryz.ntmps49
  go_wp2
  refine wp_loop_rounds 3 ?_
  rw [rounds_succ]
  go_wp2
  rw [rounds_succ]
  go_wp2
  rw [rounds_succ]
  go_wp2
  go_ret
  refine ⟨rfl, ?_⟩
  go_grown
set_option maxRecDepth 100000 in
set_option maxHeartbeats 2000000 in
theorem is_notarg (s : ByteArray) (t : Int) (a0 a1 : Addr) (c0 c1 : Array Value) (t0 t1 : TypeId) (w : World) (g1 : w.cell? ⟨2, 0, none⟩ = some (.iface 242 (.pointer (some a1)))) (hne : a1 ≠ a0)
    (hb0 : w.heap[a0.block]? = some (.cells c0 t0 (0, 0))) (hb1 : w.heap[a1.block]? = some (.cells c1 t1 (0, 0))) :
    Calls Tryz.prog 49 #[plc s (vio t), .iface 242 (.pointer (some a0))] w fun e w' => e = .returned (.bool false) ∧ Below w.heap.size w w' := by
  obtain ⟨i, hi, hcmp⟩ := Option.map_eq_some_iff.1 isComp
  obtain ⟨j, hj, hjs⟩ := Option.map_eq_some_iff.1 isSize
  have z1 : 2 < w.heap.size := World.block_lt_of_cell? _ _ g1
  have l0 : a0.block < w.heap.size := lt_of_heap hb0
  have l1 : a1.block < w.heap.size := lt_of_heap hb1
  have tT := callTypeOf
  have cT := callComparable
  have nP := noIsP
  have uP := hasUnwrapP
  have nV := noIsV
  have uV := hasUnwrapV
  have nE := noIsE
  have uE := noUnwrapE
  have vE := noUnwrapsE
  have hty1 := fun W => run_eql_iface_types (P := Tryz.prog) 134 242 (.agg #[.string s, vio t]) (.pointer (some a0)) Tryz.underlying66 (by decide) W
  have hty2 := fun W => run_eql_iface_types (P := Tryz.prog) 95 242 (.agg #[.int .i64 t]) (.pointer (some a0)) Tryz.underlying66 (by decide) W
  have heq := fun X Y => run_eql_iface_ptr_other (P := Tryz.prog) ((w.alloc X).alloc Y) Tryz.underlying66 Tryz.underlying242 hi hcmp hj (by rw [hjs]; decide) hne
    ((Below.heap_alloc _ Y _ (by simp; omega)).trans ((Below.heap_alloc w X _ l1).trans hb1)) ((Below.heap_alloc _ Y _ (by simp; omega)).trans ((Below.heap_alloc w X _ l0).trans hb0))
  have g1' : ∀ X Y : Obj, ((w.alloc X).alloc Y).cell? ⟨2, 0, none⟩ = some (.iface 242 (.pointer (some a1))) := fun X Y => by
    rw [World.cell?_alloc_past _ _ _ (by simp; omega), World.cell?_alloc_past _ _ _ z1]; exact g1
  unfold vio at hty1
  unfold plc vio
  clear hb0 hb1
  go_enter Tryz.func49, Tryz.ntmps49
  go_wp2
  refine wp_loop_rounds 3 ?_
  rw [rounds_succ]
  go_wp2
  rw [rounds_succ]
  go_wp2
  rw [rounds_succ]
  go_wp2
  go_ret
  refine ⟨rfl, ?_⟩
  go_grown
end Go.Proofs.YtcnmajndackohaaGreatDoor
