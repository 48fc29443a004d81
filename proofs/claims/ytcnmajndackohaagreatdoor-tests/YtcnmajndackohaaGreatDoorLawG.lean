/-
  What Tests does: it returns true.
-/
import Derived.Test.YtcnmajndackohaaGreatDoorLawF
namespace Go.Proofs.YtcnmajndackohaaGreatDoor
open Go.RowKit

/-- The value v is a script of the steps s. -/
def Scs (w : World) (v : Value) (s : List Opd) : Prop := (s = [] ∧ ∃ a c, v = .slice a 0 c) ∨ ∃ b o c, v = .slice (some ⟨b, o, none⟩) s.length c ∧ Scr w b o s
theorem Scs.below {w w' : World} {v : Value} {s : List Opd} (h : Scs w v s) (hb : Below w.heap.size w w') : Scs w' v s := by
  rcases h with h | ⟨b, o, c, e, h⟩
  · exact .inl h
  · exact .inr ⟨b, o, c, e, h.below hb⟩

set_option maxHeartbeats 1000000 in
theorem plays_nil (B : Nat) (a : Option Addr) (c : Nat) (w : World) :
    Calls Tryz.prog 12 #[.pointer (some ⟨B, 0, none⟩), .slice a 0 c, .int .i64 2] w fun e w' => e = .returned (.bool true) ∧ w' = w := by
  go_enter Tryz.func12, Tryz.ntmps12
  go_wp2_with fail
  go_rounds 1
  go_ret
  exact ⟨rfl, rfl⟩
theorem plays_S (B : Nat) (v : Value) (s : List Opd) (a0 a1 : Addr) (w : World) (hw : Wd w B) (hg : GlT w a0 a1) (hs : Scs w v s) (hl : s.length ≤ maxLen) (hll : ∀ x ∈ s, x.l.length * 40 ≤ 140737488351232) :
    Calls Tryz.prog 12 #[.pointer (some ⟨B, 0, none⟩), v, .int .i64 2] w fun e w' => e = .returned (.bool true) ∧ Below w.heap.size w w' := by
  rcases hs with ⟨rfl, a, c, rfl⟩ | ⟨b, o, c, rfl, h⟩
  · refine (plays_nil B a c w).mono ?_
    rintro e w' ⟨rfl, rfl⟩
    exact ⟨rfl, Below.refl _ _⟩
  · exact plays_some B b o c s a0 a1 w hw hg h hl hll

set_option maxHeartbeats 400000 in
theorem tight_any (d : Int) (w : World) :
    Calls Tryz.prog 11 #[.int .i64 d] w fun e w' => e = .returned (.agg #[.int .i64 8, .int .i64 12, .int .i64 8, .int .i64 0, .int .i64 d]) ∧ Below w.heap.size w w' := by
  go_enter Tryz.func11, Tryz.ntmps11
  go_wp2_with fail
  refine bodyPost_ret (v := .agg #[.int .i64 8, .int .i64 12, .int .i64 8, .int .i64 0, .int .i64 d]) (by simp [results, Tryz.results11, go_sem]) rfl ⟨rfl, ?_⟩
  go_grown

theorem t14 : tans [⟨8, 12, 8, 0, 14⟩] = 14 := by decide +kernel
theorem e14 : terr [⟨8, 12, 8, 0, 14⟩] = 3 := by decide +kernel
theorem t15 : tans [⟨8, 12, 8, 0, 15⟩] = 0 := by decide +kernel
theorem e15 : terr [⟨8, 12, 8, 0, 15⟩] = 0 := by decide +kernel
theorem one_lies (w : World) (f : Fl) (t : TypeId) : Lies (w.alloc (.cells #[.int .i64 f.s, .int .i64 f.p, .int .i64 f.b, .int .i64 f.r, .int .i64 f.d] t)) w.heap.size 0 [f] := by
  refine ⟨by simp, ?_, ?_, ?_, ?_, ?_⟩
  all_goals intro k hk
  all_goals have e : k = 0 := by simpa using hk
  all_goals subst e
  · exact World.cell?_alloc_new _ _ _ 0
  · exact World.cell?_alloc_new _ _ _ 1
  · exact World.cell?_alloc_new _ _ _ 2
  · exact World.cell?_alloc_new _ _ _ 3
  · exact World.cell?_alloc_new _ _ _ 4

set_option maxRecDepth 100000 in
set_option maxHeartbeats 4000000 in
theorem tests_any (v : Value) (s : List Opd) (a0 a1 : Addr) (w : World) (hg : GlT w a0 a1) (hs : Scs w v s) (hl : s.length ≤ maxLen) (hll : ∀ x ∈ s, x.l.length * 40 ≤ 140737488351232) :
    Calls Tryz.prog 3 #[v] w fun e w' => e = .returned (.bool true) ∧ Below w.heap.size w w' := by
  have HG := hide hg
  have HS := hide hs
  have HP := hide (fun W B h1 h2 h3 => plays_S B v s a0 a1 W h1 h2 h3 hl hll)
  clear hg hs hl hll
  go_enter Tryz.func3, Tryz.ntmps3
  go_wp2_with fail
  refine (tight_any 14 _).mono ?_
  rintro e w1 ⟨rfl, hb⟩
  obtain ⟨hc, -⟩ := bcell hb
  have hw1 : Wd w1 w.heap.size := ⟨(hc _ _ (by simp)).trans (World.cell?_alloc_new _ _ _ 0), (hc _ _ (by simp)).trans (World.cell?_alloc_new _ _ _ 1), (hc _ _ (by simp)).trans (World.cell?_alloc_new _ _ _ 2), (hc _ _ (by simp)).trans (World.cell?_alloc_new _ _ _ 3), (hc _ _ (by simp)).trans (World.cell?_alloc_new _ _ _ 4), (hc _ _ (by simp)).trans (World.cell?_alloc_new _ _ _ 5)⟩
  have HW1 := hide hw1
  have HB1 := hide (bel_then (bel_one _) hb)
  clear hb hc hw1
  go_wp2_with fail
  refine (test_gen _ [⟨8, 12, 8, 0, 14⟩] a0 a1 _ ((unhide HG).below (bel_then (unhide HB1) (bel_one _))) (.inr ⟨w1.heap.size, 0, 1, rfl, one_lies w1 ⟨8, 12, 8, 0, 14⟩ _⟩) (by decide)).mono ?_
  rintro e w2 ⟨rfl, hb⟩
  have HB2 := hide (bel_then (bel_then (unhide HB1) (bel_one _)) hb)
  have HW2 := hide ((unhide HW1).below (bel_then (bel_one _) hb))
  clear hb HB1 HW1
  rw [t14, e14]
  go_wp2_with fail
  refine (tight_any 15 _).mono ?_
  rintro e w3 ⟨rfl, hb⟩
  have HB3 := hide (bel_then (unhide HB2) hb)
  have HW3 := hide ((unhide HW2).below hb)
  clear hb HB2 HW2
  go_wp2_with fail
  refine (test_gen _ [⟨8, 12, 8, 0, 15⟩] a0 a1 _ ((unhide HG).below (bel_then (unhide HB3) (bel_one _))) (.inr ⟨w3.heap.size, 0, 1, rfl, one_lies w3 ⟨8, 12, 8, 0, 15⟩ _⟩) (by decide)).mono ?_
  rintro e w4 ⟨rfl, hb⟩
  have HB4 := hide (bel_then (bel_then (unhide HB3) (bel_one _)) hb)
  have HW4 := hide ((unhide HW3).below (bel_then (bel_one _) hb))
  clear hb HB3 HW3
  rw [t15, e15]
  go_wp2_with fail
  refine (unhide HP _ _ (unhide HW4) ((unhide HG).below (unhide HB4)) ((unhide HS).below (unhide HB4))).mono ?_
  rintro e w5 ⟨rfl, hb⟩
  have HB5 := hide (bel_then (unhide HB4) hb)
  clear hb
  go_wp2_with fail
  go_ret
  exact ⟨rfl, unhide HB5⟩
end Go.Proofs.YtcnmajndackohaaGreatDoor
