/-
  What Most and most do where the flow may be and the ticks are not too many.
-/
import Derived.Test.YtghmmmndakmfoaaGreatDoorWalkA
namespace Go.Proofs.YtghmmmndakmfoaaGreatDoor
open Go.RowKit

theorem hide {p : Prop} (h : p) : Hid p := h
theorem unhide {p : Prop} (h : Hid p) : p := h

set_option maxHeartbeats 1000000 in
theorem fmost_ok (s p b r d t : Int) (w : World) (h : May s p b r d) (t1 : t ≤ 100000) :
    Calls Tryz.prog 54 #[.agg #[.int .i64 s, .int .i64 p, .int .i64 b, .int .i64 r, .int .i64 d], .int .i64 t] w fun e w' => e = .returned (.tuple #[.int .i64 (allow s p b r t), .nilIface]) ∧ Below w.heap.size w w' := by
  go_enter Tryz.func54, Tryz.ntmps54
  go_wp2_with fail
  refine (check_ok s p b r d _ h).mono ?_
  rintro e w1 ⟨rfl, hb⟩
  obtain ⟨hc, hf⟩ := bcell hb
  have hz : w.heap.size < w1.heap.size := by have := hb.size; simp at this; omega
  go_wp2_with fail
  refine (allowed_any s p b r d t _ h t1).mono ?_
  rintro e w2 ⟨rfl, hb2⟩
  go_wp2_with fail
  go_ret2
  refine ⟨rfl, ?_⟩
  exact (((Below.refl _ _).alloc (Nat.le_refl _) _).trans (hb.mono (by simp))).trans (hb2.mono (by omega))

set_option maxHeartbeats 1000000 in
theorem tmost_ok (s p b r d t : Int) (T0 T1 : TypeId) (v0 v1 : Value) (w : World) (g0 : w.cell? ⟨0, 0, none⟩ = some (.iface T0 v0)) (g1 : w.cell? ⟨1, 0, none⟩ = some (.iface T1 v1)) (hw : 2 ≤ w.heap.size) (h : May s p b r d) (t1 : t ≤ 100000) :
    Calls Tryz.prog 30 #[.agg #[.int .i64 s, .int .i64 p, .int .i64 b, .int .i64 r, .int .i64 d], .int .i64 t] w fun e w' => e = .returned (.tuple #[.int .i64 (allow s p b r t), .int .i64 0]) ∧ Below w.heap.size w w' := by
  go_enter Tryz.func30, Tryz.ntmps30
  go_wp2_with fail
  refine (fmost_ok s p b r d t _ h t1).mono ?_
  rintro e w1 ⟨rfl, hb⟩
  have hb' : Below w.heap.size w w1 := ((Below.refl _ _).alloc (Nat.le_refl _) _).trans (hb.mono (by simp))
  have k0 := (hb'.cell (p := ⟨0, 0, none⟩) (by simp; omega)).trans g0
  have k1 := (hb'.cell (p := ⟨1, 0, none⟩) (by simp; omega)).trans g1
  go_wp2_with fail
  refine (errno_none T0 T1 v0 v1 _ k0 k1).mono ?_
  rintro e w2 ⟨rfl, rfl⟩
  go_wp2_with fail
  go_ret2
  exact ⟨rfl, hb'⟩

end Go.Proofs.YtghmmmndakmfoaaGreatDoor
