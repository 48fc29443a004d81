/-
  What the keeper's fit does: the least violation, whether there is none, and true.
-/
import Derived.Test.YtcnmajndackohaaDoorTestW
import Derived.Test.YtcnmajndackohaaDoorFlows
namespace Go.Proofs.YtcnmajndackohaaDoor
open Go.RowKit

theorem viol_nil : viol [] = 0 := by
  rcases viol_spec [] with ⟨h, _⟩ | ⟨_, _, h, _⟩
  · exact h
  · simp [vioB, tot] at h
theorem viol_one : viol [⟨8, 12, 8, 0, 14⟩] = 14 := by decide +kernel
theorem tno_nil : tno [] = 0 := by unfold tno; rw [if_pos viol_nil]
theorem tno_one : tno [⟨8, 12, 8, 0, 14⟩] = 3 := by unfold tno; rw [if_neg (by rw [viol_one]; decide)]
theorem may_one : ∀ f ∈ [(⟨8, 12, 8, 0, 14⟩ : Fl)], f.may := by
  intro f hf
  rw [List.mem_singleton] at hf
  subst hf
  unfold Fl.may
  constructor <;> decide

set_option maxRecDepth 100000 in
set_option maxHeartbeats 2000000 in
theorem kfit_any (v : Value) (l : List Fl) (a0 a1 : Addr) (w : World) (hg : Gl w a0 a1) (hw : Fls w v l) (hl : l.length ≤ 6) (hm : ∀ f ∈ l, f.may) :
    Calls Tryd.prog 9 #[v] w fun e w' => e = .returned (.tuple #[.int .i64 (viol l), .bool (decide (viol l = 0)), .bool true]) ∧ Below w.heap.size w w' := by
  have HG := hide hg
  have HW := hide hw
  have HL := hide hl
  have HM := hide hm
  clear hg hw hl hm
  go_enter Tryd.func9, Tryd.ntmps9
  go_wp2_with fail
  refine (test_any v l a0 a1 _ (unhide HG) (unhide HW) (unhide HL) (unhide HM)).mono ?_
  rintro e w1 ⟨rfl, hb⟩
  have HB := hide hb
  have HG1 := hide ((unhide HG).below hb)
  clear hb HG
  have HV := hide (show tno l = if viol l = 0 then 0 else 3 from rfl)
  generalize tno l = E at *
  generalize hVl : viol l = V at *
  have HVl := hide hVl
  clear hVl
  go_wp2_with fail
  refine (test_any (.slice none 0 0) [] a0 a1 _ (unhide HG1) (.inl ⟨rfl, _, _, rfl⟩) (by decide) (fun f hf => by cases hf)).mono ?_
  rintro e w2 ⟨rfl, hb⟩
  have HB2 := hide (bel_then (unhide HB) hb)
  have HG2 := hide ((unhide HG1).below hb)
  clear hb HB HG1
  rw [viol_nil, tno_nil]
  go_wp2_with fail
  have hli : Lies (w2.alloc (.cells #[.int .i64 8, .int .i64 12, .int .i64 8, .int .i64 0, .int .i64 14] 23)) w2.heap.size 0 [⟨8, 12, 8, 0, 14⟩] := by
    refine ⟨by simp, ?_, ?_, ?_, ?_, ?_⟩
    all_goals intro k hk
    all_goals have hk0 : k = 0 := by simpa using hk
    all_goals subst hk0
    · exact World.cell?_alloc_new _ _ _ 0
    · exact World.cell?_alloc_new _ _ _ 1
    · exact World.cell?_alloc_new _ _ _ 2
    · exact World.cell?_alloc_new _ _ _ 3
    · exact World.cell?_alloc_new _ _ _ 4
  refine (test_any (.slice (some ⟨w2.heap.size, 0, none⟩) 1 1) [⟨8, 12, 8, 0, 14⟩] a0 a1 _ ((unhide HG2).below (bel_one _)) (.inr ⟨_, _, _, rfl, hli⟩) (by decide) may_one).mono ?_
  rintro e w3 ⟨rfl, hb⟩
  have HB3 := hide (bel_then (bel_then (unhide HB2) (bel_one _)) hb)
  clear hb HB2 HG2 hli
  rw [viol_one, tno_one]
  by_cases hv : V = 0
  · have hE : E = 0 := by rw [unhide HV, if_pos hv]
    subst hE
    subst hv
    go_wp2_with fail
    go_ret3
    exact ⟨ret_val (by rw [unhide HVl]; rfl), unhide HB3⟩
  · have hE : E = 3 := by rw [unhide HV, if_neg hv]
    subst hE
    have hv1 : (V == 0) = false := beq_eq_false_iff_ne.2 hv
    have HD := hide (decide_eq_false hv)
    clear hv
    go_wp2_with fail
    go_ret3
    exact ⟨ret_val (by rw [unhide HVl, unhide HD]; rfl), unhide HB3⟩
end Go.Proofs.YtcnmajndackohaaDoor
