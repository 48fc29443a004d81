import Derived.Test.YtcnmajndackohaaGreatDoorMg31
import Derived.Test.YtcnmajndackohaaGreatDoorMg22
import Derived.Test.YtcnmajndackohaaGreatDoorMg26
import Derived.Lib.LaidTab
import Derived.SizedLaws
/-
  What the law's flows does at a step: its two answers are the same.
-/
namespace Go.Proofs.YtcnmajndackohaaGreatDoor
open Go.RowKit
/-- A step of a script: its numbers, its flow, its list of flows. -/
structure Opd where
  kind : Int
  a : Int
  b : Int
  which : Int
  f : Fl
  lv : Value
  l : List Fl
def Opd.cells (o : Opd) : List Value := [.int .i64 o.kind, .int .i64 o.a, .int .i64 o.b, .int .i64 o.which, .int .i64 o.f.s, .int .i64 o.f.p, .int .i64 o.f.b, .int .i64 o.f.r, .int .i64 o.f.d, o.lv]
set_option maxHeartbeats 400000 in
theorem num_any (n : Int) (w : World) :
    Calls Tryz.prog 35 #[.int .i64 n] w fun e w' => e = .returned (.int .i64 n) ∧ w' = w := by
  go_enter Tryz.func35, Tryz.ntmps35
  go_wp2
  go_ret
  exact ⟨rfl, rfl⟩
def mn (f : Fl) (t : Int) : Int := if f.mayB = true ∧ t ≤ 100000 then allow f.s f.p f.b f.r t else 0
def me (f : Fl) (t : Int) : Int := if f.mayB = true ∧ t ≤ 100000 then 0 else 1
theorem pmost_any (f : Fl) (t : Int) (a0 a1 : Addr) (w : World) (hg : Gl w a0 a1) :
    Calls Tryz.prog 43 #[.agg #[.int .i64 f.s, .int .i64 f.p, .int .i64 f.b, .int .i64 f.r, .int .i64 f.d], .int .i64 t] w fun e w' => e = .returned (.tuple #[.int .i64 (mn f t), .int .i64 (me f t)]) ∧ Below w.heap.size w w' := by
  by_cases h : f.may ∧ t ≤ 100000
  · refine (tmost_ok f.s f.p f.b f.r f.d t w hg.st h.1 h.2).mono ?_
    rintro e w' ⟨rfl, hb⟩
    refine ⟨ret_val ?_, hb⟩
    unfold mn me
    rw [if_pos ⟨(mayB_iff f).2 h.1, h.2⟩, if_pos ⟨(mayB_iff f).2 h.1, h.2⟩]
  · refine (tmost_bad f.s f.p f.b f.r f.d t a0 a1 w hg h).mono ?_
    rintro e w' ⟨rfl, hb⟩
    refine ⟨ret_val ?_, hb⟩
    unfold mn me
    rw [if_neg (fun k => h ⟨(mayB_iff f).1 k.1, k.2⟩), if_neg (fun k => h ⟨(mayB_iff f).1 k.1, k.2⟩)]
theorem rmost_any (f : Fl) (t : Int) (w : World) :
    Calls Tryz.prog 75 #[.agg #[.int .i64 f.s, .int .i64 f.p, .int .i64 f.b, .int .i64 f.r, .int .i64 f.d], .int .i64 t] w fun e w' => e = .returned (.tuple #[.int .i64 (mn f t), .int .i64 (me f t)]) ∧ Below w.heap.size w w' := by
  by_cases h : f.may ∧ t ≤ 100000
  · refine (rmost_yes f t w h.1 h.2).mono ?_
    rintro e w' ⟨rfl, hb⟩
    refine ⟨ret_val ?_, hb⟩
    unfold mn me
    rw [if_pos ⟨(mayB_iff f).2 h.1, h.2⟩, if_pos ⟨(mayB_iff f).2 h.1, h.2⟩]
  · refine (rmost_no f t w h).mono ?_
    rintro e w' ⟨rfl, hb⟩
    refine ⟨ret_val ?_, hb⟩
    unfold mn me
    rw [if_neg (fun k => h ⟨(mayB_iff f).1 k.1, k.2⟩), if_neg (fun k => h ⟨(mayB_iff f).1 k.1, k.2⟩)]
set_option maxRecDepth 100000 in
set_option maxHeartbeats 4000000 in
theorem flows_most (o : Opd) (a0 a1 : Addr) (w : World) (hg : GlT w a0 a1) (hk : o.kind = 1) :
    Calls Tryz.prog 50 #[.agg o.cells.toArray] w fun e w' => e = .returned (.bool true) ∧ Below w.heap.size w w' := by
  obtain ⟨kd, a, b, wh, f, lv, l⟩ := o
  have hk' : kd = 1 := hk
  subst hk'
  unfold Opd.cells
  have HG := hide hg
  clear hg hk
  go_enter Tryz.func50, Tryz.ntmps50
  go_wp2_with fail
  refine (pmost_any f a a0 a1 _ ((unhide HG).toGl.below (bel_one _))).mono ?_
  rintro e w1 ⟨rfl, hb⟩
  obtain ⟨hc, hf⟩ := bcell hb
  have hz : w.heap.size < w1.heap.size := by have := hb.size; simp at this; omega
  have HB := hide (bel_then (bel_one _) hb)
  clear hb
  go_wp2_with fail
  refine (rmost_any f a _).mono ?_
  rintro e w2 ⟨rfl, hb⟩
  have HB2 := hide (bel_then (unhide HB) hb)
  clear hb hc hf hz
  generalize mn f a = M at *
  generalize me f a = E at *
  go_wp2_with fail
  refine (num_any E _).mono ?_
  rintro e w3 ⟨rfl, rfl⟩
  go_wp2_with fail
  go_ret
  exact ⟨rfl, unhide HB2⟩
theorem Fls.form {w : World} {v : Value} {l : List Fl} (h : Fls w v l) : ∃ a c, v = .slice a l.length c := by
  rcases h with ⟨rfl, a, c, rfl⟩ | ⟨b, o, c, rfl, _⟩
  · exact ⟨_, _, rfl⟩
  · exact ⟨_, _, rfl⟩
theorem lies_prefix {w : World} {g o : Nat} {l m : List Fl} (h : Lies w g o (l ++ m)) : Lies w g o l := by
  have e : ∀ k (hk : k < l.length), (l ++ m)[k]'(by simp; omega) = l[k] := fun k hk => List.getElem_append_left hk
  refine ⟨h.blk, ?_, ?_, ?_, ?_, ?_⟩
  all_goals intro k hk
  · rw [← e k hk]; exact h.c0 k (by simp; omega)
  · rw [← e k hk]; exact h.c1 k (by simp; omega)
  · rw [← e k hk]; exact h.c2 k (by simp; omega)
  · rw [← e k hk]; exact h.c3 k (by simp; omega)
  · rw [← e k hk]; exact h.c4 k (by simp; omega)
set_option maxRecDepth 100000 in
set_option maxHeartbeats 4000000 in
theorem flows_test (o : Opd) (a0 a1 : Addr) (w : World) (hg : GlT w a0 a1) (hk : o.kind = 2) (hfl : Fls w o.lv o.l) (hl : o.l.length * 40 ≤ 140737488351232) :
    Calls Tryz.prog 50 #[.agg o.cells.toArray] w fun e w' => e = .returned (.bool true) ∧ Below w.heap.size w w' := by
  obtain ⟨kd, a, b, wh, f, lv, l⟩ := o
  have hk' : kd = 2 := hk
  subst hk'
  obtain ⟨la, lc, hlv⟩ := Fls.form hfl
  have hlv' : lv = .slice la l.length lc := hlv
  subst hlv'
  unfold Opd.cells
  have HG := hide hg
  have HF := hide (show Fls w (.slice la l.length lc) l from hfl)
  have HL := hide (show l.length * 40 ≤ 140737488351232 from hl)
  have hl' : l.length * 40 ≤ 140737488351232 := hl
  clear hg hk hfl hl hlv
  generalize hn : l.length = n at *
  have HN := hide hn
  have hn1 : (n : Int) ≤ 140737488351232 := by omega
  have hn0 : (0 : Int) ≤ (n : Int) := Int.natCast_nonneg _
  clear hn
  go_enter Tryz.func50, Tryz.ntmps50
  go_wp2_with fail
  have hlend := fun (W : World) (hW : Fls W (.slice la n lc) l) => lend_F (.slice la n lc) l W hW (by rw [unhide HN]; omega)
  rw [unhide HN] at hlend
  refine (hlend _ ((unhide HF).below (bel_one _))).mono ?_
  clear hlend
  rintro e w1 ⟨rfl, hblk, hb⟩
  obtain ⟨hc, hf⟩ := bcell hb
  have hz : w.heap.size + 1 ≤ w1.heap.size := by have := hb.size; simpa using this
  have HB := hide hb
  have HBlk := hide hblk
  have HB0 := hide (bel_then (bel_one _) hb)
  clear hb hblk
  go_wp2_with fail
  have HBlk1 := hide (show Blk w1 (w.heap.size + 1) (l ++ spare 8) from by simpa using unhide HBlk)
  refine (test_gen _ l a0 a1 _ ((unhide HG).below (unhide HB0)) (.inr ⟨w.heap.size + 1, 0, n + 8, by rw [unhide HN], lies_prefix (unhide HBlk1).lies⟩) (by rw [unhide HN]; unfold maxLen; omega)).mono ?_
  rintro e w2 ⟨rfl, hb2⟩
  obtain ⟨hc2, hf2⟩ := bcell hb2
  have hz2 : w1.heap.size ≤ w2.heap.size := hb2.size
  have HBlk2 := hide ((unhide HBlk1).below hb2)
  have HB2 := hide (bel_then (unhide HB) hb2)
  have HB02 := hide (bel_then (unhide HB0) hb2)
  have hx1 : w1.cell? ⟨w.heap.size, 9, none⟩ = some (.slice la n lc) := by
    rw [hc _ _ (by simp)]; exact World.cell?_alloc_new _ _ _ _
  have hx2 : w2.cell? ⟨w.heap.size, 9, none⟩ = some (.slice la n lc) := by
    rw [hc2 _ _ (by omega)]; exact hx1
  clear hb2 HBlk HBlk1 HB HB0
  go_wp2_with fail
  refine (rtest_any _ l _ ((unhide HF).below (unhide HB02)) (by rw [unhide HN]; unfold maxLen; omega)).mono ?_
  rintro e w3 ⟨rfl, hb3⟩
  obtain ⟨hc3, hf3⟩ := bcell hb3
  have HBlk3 := hide ((unhide HBlk2).below hb3)
  have HB3 := hide (bel_then (unhide HB2) hb3)
  have hz3 : w2.heap.size ≤ w3.heap.size := hb3.size
  have hx3 : w3.cell? ⟨w.heap.size, 9, none⟩ = some (.slice la n lc) := by
    rw [hc3 _ _ (by omega)]; exact hx2
  clear hb3 HBlk2 HB2 HB02
  generalize tans l = M at *
  generalize terr l = E at *
  go_wp2_with fail
  have hret := fun (W0 W : World) (h1 : Fls W0 (.slice la n lc) l) (h2 : W0.heap.size ≤ w.heap.size + 1) (h3 : Below W0.heap.size W0 W) (h4 : Blk W (w.heap.size + 1) (l ++ spare 8)) => returned_F W0 (w.heap.size + 1) (n + 8) (.slice la n lc) l W h1 h2 h3 h4 (by rw [unhide HN]; omega)
  rw [unhide HN] at hret
  refine (hret _ _ ((unhide HF).below (bel_one _)) (by simp) (unhide HB3) (unhide HBlk3)).mono ?_
  rintro e w4 ⟨rfl, hb4⟩
  have HB4 := hide (bel_then (bel_one _) hb4)
  clear hb4 hret hc hf hc2 hf2 hc3 hf3
  go_wp2_with fail
  refine (num_any E _).mono ?_
  rintro e w5 ⟨rfl, rfl⟩
  go_wp2_with fail
  go_ret
  exact ⟨rfl, unhide HB4⟩
end Go.Proofs.YtcnmajndackohaaGreatDoor
/-
  What a step and a script do: every answer is the document's.
-/
namespace Go.Proofs.YtcnmajndackohaaGreatDoor
open Go.RowKit
theorem flows_any (o : Opd) (a0 a1 : Addr) (w : World) (hg : GlT w a0 a1) (hk : o.kind = 1 ∨ o.kind = 2) (hfl : Fls w o.lv o.l) (hl : o.l.length * 40 ≤ 140737488351232) :
    Calls Tryz.prog 50 #[.agg o.cells.toArray] w fun e w' => e = .returned (.bool true) ∧ Below w.heap.size w w' := by
  rcases hk with hk | hk
  · exact flows_most o a0 a1 w hg hk
  · exact flows_test o a0 a1 w hg hk hfl hl
end Go.Proofs.YtcnmajndackohaaGreatDoor
/-
  What a script of Most and Test does: every answer is the document's.
-/
namespace Go.Proofs.YtcnmajndackohaaGreatDoor
open Go.RowKit
/-- The steps s lie in block b from offset o on, each with its list of flows. -/
structure Scr (w : World) (b o : Nat) (s : List Opd) : Prop where
  blk : b < w.heap.size
  c : ∀ (k : Nat) (h : k < s.length) (q : Nat) (u : Value), s[k].cells[q]? = some u → w.cell? ⟨b, o + k * 10 + q, none⟩ = some u
  l : ∀ x ∈ s, Fls w x.lv x.l
theorem Scr.below {w w' : World} {b o : Nat} {s : List Opd} (h : Scr w b o s) (hb : Below w.heap.size w w') : Scr w' b o s := by
  obtain ⟨hc, _⟩ := bcell hb
  have hz := hb.size
  exact ⟨by have := h.blk; omega, fun k hk q u hu => (hc _ _ h.blk).trans (h.c k hk q u hu), fun x hx => (h.l x hx).below hb⟩
end Go.Proofs.YtcnmajndackohaaGreatDoor
/-
  What Tests does: it returns true.
-/
namespace Go.Proofs.YtcnmajndackohaaGreatDoor
open Go.RowKit
/-- The value v is a script of the steps s. -/
def Scs (w : World) (v : Value) (s : List Opd) : Prop := (s = [] ∧ ∃ a c, v = .slice a 0 c) ∨ ∃ b o c, v = .slice (some ⟨b, o, none⟩) s.length c ∧ Scr w b o s
set_option maxHeartbeats 400000 in
theorem tight_any (d : Int) (w : World) :
    Calls Tryz.prog 11 #[.int .i64 d] w fun e w' => e = .returned (.agg #[.int .i64 8, .int .i64 12, .int .i64 8, .int .i64 0, .int .i64 d]) ∧ Below w.heap.size w w' := by
  go_enter Tryz.func11, Tryz.ntmps11
  go_wp2_with fail
  refine bodyPost_ret (v := .agg #[.int .i64 8, .int .i64 12, .int .i64 8, .int .i64 0, .int .i64 d]) (by simp [results, Tryz.results11, go_sem]) rfl ⟨rfl, ?_⟩
  go_grown
theorem e14 : terr [⟨8, 12, 8, 0, 14⟩] = 3 := by decide +kernel
theorem e15 : terr [⟨8, 12, 8, 0, 15⟩] = 0 := by decide +kernel
theorem one_lies (w : World) (f : Fl) (t : TypeId) : Lies (w.alloc (.cells #[.int .i64 f.s, .int .i64 f.p, .int .i64 f.b, .int .i64 f.r, .int .i64 f.d] t)) w.heap.size 0 [f] := by
  refine ⟨by simp, ?_, ?_, ?_, ?_, ?_⟩
  all_goals intro k hk
  all_goals have e : k = 0 := by simpa using hk
  all_goals subst e
  · exact World.cell?_alloc_new _ _ _ 0
  · exact World.cell?_alloc_new _ _ _ 1
  · exact World.cell?_alloc_new _ _ _ 2
  · exact World.cell?_alloc_new _ _ _ 3
  · exact World.cell?_alloc_new _ _ _ 4
end Go.Proofs.YtcnmajndackohaaGreatDoor
/-
  What the call's beginning gives: a script that came in, opened, with the bound on its lists; the library's table.
-/
namespace Go.Proofs.YtcnmajndackohaaGreatDoor
open Go.ChangeShapes Go.WideShapes Go.ChangeAt Go.RowKit Go.Joins Go.Deep
theorem cellsOp : Tryz.prog.cellsOf 71 = 10 := by kernel_rfl
theorem cellsFls : Tryz.prog.cellsOf 37 = 1 := by kernel_rfl
theorem list10 {α : Type} {l : List α} (h : l.length = 10) : ∃ c0 c1 c2 c3 c4 c5 c6 c7 c8 c9, l = [c0, c1, c2, c3, c4, c5, c6, c7, c8, c9] := by
  match l, h with
  | [c0, c1, c2, c3, c4, c5, c6, c7, c8, c9], _ => exact ⟨c0, c1, c2, c3, c4, c5, c6, c7, c8, c9, rfl⟩
/-- The datum of a step holds its list as its last part. -/
def Holds {H : Type} (d : DataW H) (n : Nat) : Prop := ∃ p0 p1 p2 p3 p4 dl, d = .agg [p0, p1, p2, p3, p4, dl] ∧ (n = 0 ∨ ∃ el sp, dl = .slice el sp ∧ el.length = n)
theorem ofFn_op {F : Nat → Opd} {n k : Nat} (h : k < ((List.range n).map F).length) : ((List.range n).map F)[k] = F k := by simp
end Go.Proofs.YtcnmajndackohaaGreatDoor
