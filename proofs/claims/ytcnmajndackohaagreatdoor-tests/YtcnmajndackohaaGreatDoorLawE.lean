/-
  What a step and a script do: every answer is the document's.
-/
import Derived.Test.YtcnmajndackohaaGreatDoorLawD
namespace Go.Proofs.YtcnmajndackohaaGreatDoor
open Go.RowKit

/-- The statement's own store in block B holds nothing. -/
structure Wd (w : World) (B : Nat) : Prop where
  c0 : w.cell? ⟨B, 0, none⟩ = some (.slice none 0 0)
  c1 : w.cell? ⟨B, 1, none⟩ = some (.slice none 0 0)
  c2 : w.cell? ⟨B, 2, none⟩ = some (.slice none 0 0)
  c3 : w.cell? ⟨B, 3, none⟩ = some (.slice none 0 0)
  c4 : w.cell? ⟨B, 4, none⟩ = some (.slice none 0 0)
  c5 : w.cell? ⟨B, 5, none⟩ = some (.slice none 0 0)
theorem Wd.lt {w : World} {B : Nat} (h : Wd w B) : B < w.heap.size := World.block_lt_of_cell? _ _ h.c0
theorem Wd.below {w w' : World} {B : Nat} (h : Wd w B) (hb : Below w.heap.size w w') : Wd w' B := by
  obtain ⟨hc, _⟩ := bcell hb
  exact ⟨(hc _ _ h.lt).trans h.c0, (hc _ _ h.lt).trans h.c1, (hc _ _ h.lt).trans h.c2, (hc _ _ h.lt).trans h.c3, (hc _ _ h.lt).trans h.c4, (hc _ _ h.lt).trans h.c5⟩

set_option maxHeartbeats 1000000 in
theorem kept_none (B : Nat) (w : World) (hw : Wd w B) :
    Calls Tryz.prog 30 #[.pointer (some ⟨B, 0, none⟩)] w fun e w' => e = .returned (.bool true) ∧ Below w.heap.size w w' := by
  obtain ⟨h0, h1, h2, h3, h4, h5⟩ := hw
  have hz : B < w.heap.size := World.block_lt_of_cell? _ _ h0
  go_enter Tryz.func30, Tryz.ntmps30
  go_wp2_with fail
  go_rounds 1
  go_rounds 1
  go_ret
  exact ⟨rfl, Below.refl _ _⟩

theorem flows_any (o : Opd) (a0 a1 : Addr) (w : World) (hg : GlT w a0 a1) (hk : o.kind = 1 ∨ o.kind = 2) (hfl : Fls w o.lv o.l) (hl : o.l.length * 40 ≤ 140737488351232) :
    Calls Tryz.prog 50 #[.agg o.cells.toArray] w fun e w' => e = .returned (.bool true) ∧ Below w.heap.size w w' := by
  rcases hk with hk | hk
  · exact flows_most o a0 a1 w hg hk
  · exact flows_test o a0 a1 w hg hk hfl hl

set_option maxRecDepth 100000 in
set_option maxHeartbeats 4000000 in
theorem step_any (B : Nat) (o : Opd) (a0 a1 : Addr) (w : World) (hw : Wd w B) (hg : GlT w a0 a1) (hk : o.kind ≤ 2) (hfl : Fls w o.lv o.l) (hl : o.l.length * 40 ≤ 140737488351232) :
    Calls Tryz.prog 29 #[.pointer (some ⟨B, 0, none⟩), .agg o.cells.toArray] w fun e w' => e = .returned (.bool true) ∧ Below w.heap.size w w' := by
  have HF := hide (fun W h1 h2 h3 => flows_any o a0 a1 W h1 h2 h3 hl)
  have HG := hide hg
  have HFl := hide hfl
  obtain ⟨h0, -, -, -, -, -⟩ := hw
  have hz : B < w.heap.size := World.block_lt_of_cell? _ _ h0
  clear hg hfl hl
  obtain ⟨kd, a, b, wh, f, lv, l⟩ := o
  have hk2 : kd ≤ 2 := hk
  clear hk
  by_cases hk1 : 1 ≤ kd
  · rcases (show kd = 1 ∨ kd = 2 by omega) with e | e
    · subst e
      unfold Opd.cells
      go_enter Tryz.func29, Tryz.ntmps29
      go_wp2_with fail
      refine (unhide HF _ ((unhide HG).below (bel_one _)) (by simp) ((unhide HFl).below (bel_one _))).mono ?_
      rintro e w1 ⟨rfl, hb⟩
      go_wp2_with fail
      go_ret
      exact ⟨rfl, bel_then (bel_one _) hb⟩
    · subst e
      unfold Opd.cells
      go_enter Tryz.func29, Tryz.ntmps29
      go_wp2_with fail
      refine (unhide HF _ ((unhide HG).below (bel_one _)) (by simp) ((unhide HFl).below (bel_one _))).mono ?_
      rintro e w1 ⟨rfl, hb⟩
      go_wp2_with fail
      go_ret
      exact ⟨rfl, bel_then (bel_one _) hb⟩
  · unfold Opd.cells
    clear HF HG HFl
    have e1 : (kd == 1) = false := by simp; omega
    have e2 : (kd == 2) = false := by simp; omega
    have e3 : (kd == 3) = false := by simp; omega
    go_enter Tryz.func29, Tryz.ntmps29
    go_wp2_with fail
    go_ret
    exact ⟨rfl, bel_one _⟩
end Go.Proofs.YtcnmajndackohaaGreatDoor
