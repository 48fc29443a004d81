import Derived.Test.YtcnmajndackohaaGreatDoorRows
import Derived.Test.YtcnmajndackohaaGreatDoorMg01
import Derived.WalkKit
import Derived.WalkSpells
import Derived.WalkLawsBesides
import Derived.Deep.RegionHeld3
import Derived.Handy
import Derived.LaidEql
/-
  What the small functions do: Allowed, errors.Is of no error, errno of no error, Check of a flow that may be.
-/
namespace Go.Proofs.YtcnmajndackohaaGreatDoor
open Go.RowKit
theorem ret_int {k : IntKind} {a b : Int} (h : a = b) : Ending.returned (.int k a) = .returned (.int k b) := by rw [h]
theorem bcell {W w1 : World} (hb : Below W.heap.size W w1) : (∀ b o, b < W.heap.size → w1.cell? ⟨b, o, none⟩ = W.cell? ⟨b, o, none⟩) ∧ (∀ b o, b < W.heap.size → w1.frozen? ⟨b, o, none⟩ = W.frozen? ⟨b, o, none⟩) :=
  ⟨fun b o h => hb.cell (p := ⟨b, o, none⟩) h, fun b o h => hb.frozen (p := ⟨b, o, none⟩) h⟩
set_option maxHeartbeats 400000 in
theorem allowed_any (s p b r d t : Int) (w : World) (h : May s p b r d) (t1 : t ≤ 100000) :
    Calls Tryz.prog 93 #[.agg #[.int .i64 s, .int .i64 p, .int .i64 b, .int .i64 r, .int .i64 d], .int .i64 t] w fun e w' => e = .returned (.int .i64 (allow s p b r t)) ∧ Below w.heap.size w w' := by
  obtain ⟨s0, s1, b0, b1, r0, p0, p1, d0, d1⟩ := h
  by_cases h : t < 0
  · go_enter Tryz.func93, Tryz.ntmps93
    go_wp2
    go_ret
    exact ⟨ret_int (allow_neg _ _ _ _ _ h).symm, (Below.refl _ _).alloc (Nat.le_refl _) _⟩
  · have t0 : 0 ≤ t := by omega
    have m1 : 0 ≤ p * t := Int.mul_nonneg (by omega) t0
    have m2 : p * t ≤ 1200000 := by
      have := Int.mul_le_mul p1 t1 t0 (by decide); omega
    have m3 : 0 ≤ r * t := Int.mul_nonneg (by omega) t0
    have m4 : r * t ≤ 1200000 := by
      have := Int.mul_le_mul (show r ≤ 12 by omega) t1 t0 (by decide); omega
    go_enter Tryz.func93, Tryz.ntmps93
    go_wp2
    all_goals
      go_ret
      exact ⟨ret_int (by rw [allow_pos _ _ _ _ _ t0]; omega), (Below.refl _ _).alloc (Nat.le_refl _) _⟩
set_option maxRecDepth 100000 in
set_option maxHeartbeats 400000 in
theorem is_none (T : TypeId) (v : Value) (w : World) :
    Calls Tryz.prog 49 #[.nilIface, .iface T v] w fun e w' => e = .returned (.bool false) ∧ w' = w := by
  have hn := run_eql_iface_nil_left (P := Tryz.prog) w T v Tryz.underlying66
  go_enter Tryz.func49, Tryz.ntmps49
  go_wp2
  go_ret
  exact ⟨rfl, rfl⟩
/-- The package's errors. -/
def sents : List Nat := [0, 1, 2, 3, 4, 5]
/-- Each is there. -/
def Sts (w : World) : Prop := ∀ g ∈ sents, ∃ T v, w.cell? ⟨g, 0, none⟩ = some (.iface T v)
theorem Sts.below {w w' : World} (h : Sts w) (hb : Below w.heap.size w w') : Sts w' := fun g hg => by
  obtain ⟨T, v, e⟩ := h g hg
  exact ⟨T, v, (hb.cell (World.block_lt_of_cell? _ _ e)).trans e⟩
/-- Each is a pointer of its own. -/
structure Snt (w : World) (a : Nat → Addr) : Prop where
  c : ∀ g ∈ sents, w.cell? ⟨g, 0, none⟩ = some (.iface 242 (.pointer (some (a g))))
  h : ∀ g ∈ sents, ∃ c t, w.heap[(a g).block]? = some (.cells c t (0, 0))
  ne : ∀ g ∈ sents, ∀ g' ∈ sents, g ≠ g' → a g ≠ a g'
theorem Snt.sts {w : World} {a : Nat → Addr} (h : Snt w a) : Sts w := fun g hg => ⟨_, _, h.c g hg⟩
theorem Snt.drew {w : World} {a : Nat → Addr} (h : Snt w a) : Snt w.drew a := ⟨h.c, h.h, h.ne⟩
theorem Snt.below {w w' : World} {a : Nat → Addr} (h : Snt w a) (hb : Below w.heap.size w w') : Snt w' a := by
  refine ⟨fun g hg => (hb.cell (World.block_lt_of_cell? _ _ (h.c g hg))).trans (h.c g hg), fun g hg => ?_, h.ne⟩
  obtain ⟨c, t, e⟩ := h.h g hg
  refine ⟨c, t, (hb.block _ ?_).trans e⟩
  rcases Nat.lt_or_ge (a g).block w.heap.size with k | k
  · exact k
  · rw [Array.getElem?_eq_none k] at e; cases e
set_option maxHeartbeats 400000 in
theorem errno_none (w : World) (h : Sts w) :
    Calls Tryz.prog 28 #[.nilIface] w fun e w' => e = .returned (.int .i64 0) ∧ w' = w := by
  obtain ⟨T1, v1, g1⟩ := h 0 (by decide)
  obtain ⟨T6, v6, g6⟩ := h 1 (by decide)
  obtain ⟨T2, v2, g2⟩ := h 2 (by decide)
  obtain ⟨T3, v3, g3⟩ := h 3 (by decide)
  obtain ⟨T4, v4, g4⟩ := h 4 (by decide)
  obtain ⟨T5, v5, g5⟩ := h 5 (by decide)
  clear h
  go_enter Tryz.func28, Tryz.ntmps28
  go_wp2_with (go_at_call 49; refine (is_none _ _ _).mono ?_; rintro e w' ⟨rfl, rfl⟩)
  go_ret
  exact ⟨rfl, rfl⟩
set_option maxHeartbeats 1000000 in
theorem check_ok (s p b r d : Int) (w : World) (h : May s p b r d) :
    Calls Tryz.prog 67 #[.agg #[.int .i64 s, .int .i64 p, .int .i64 b, .int .i64 r, .int .i64 d]] w fun e w' => e = .returned .nilIface ∧ Below w.heap.size w w' := by
  obtain ⟨s0, s1, b0, b1, r0, p0, p1, d0, d1⟩ := h
  go_enter Tryz.func67, Tryz.ntmps67
  go_wp2
  go_rounds 6
  go_ret
  refine ⟨rfl, ?_⟩
  go_grown
end Go.Proofs.YtcnmajndackohaaGreatDoor
