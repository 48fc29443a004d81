/-
  What Fits answers where no flows come in: true.
-/
import Derived.Test.YtcnmajndackohaaDoorFitK
namespace Go.Proofs.YtcnmajndackohaaDoor
open Go.RowKit

set_option maxRecDepth 100000 in
set_option maxHeartbeats 4000000 in
theorem fits_none (v : Value) (which more at' : Int) (a0 a1 : Addr) (w : World) (hg : Gl w a0 a1) (hw : Fls w v []) (h3 : R64 at') :
    Calls Tryd.prog 4 #[v, .int .i64 which, .int .i64 more, .int .i64 at'] w fun e w' => e = .returned (.bool true) ∧ Below w.heap.size w w' := by
  have HG := hide hg
  have HW := hide hw
  have H3 := hide h3
  clear hg hw h3
  go_enter Tryd.func4, Tryd.ntmps4
  go_wp2_with fail
  refine (flows_F v [] _ (unhide HW) (fun f hf => by cases hf) (by unfold maxLen; simp)).mono ?_
  rintro e w1 ⟨v9, rfl, hown, hb⟩
  obtain ⟨a, c, rfl⟩ : ∃ a c, v9 = .slice a 0 c := by
    rcases hown.fls with ⟨_, a, c, e⟩ | ⟨b, o, c, e, _⟩
    · exact ⟨a, c, e⟩
    · exact ⟨_, c, e⟩
  have HB1 := hide hb
  have HG1 := hide ((unhide HG).below hb)
  clear hown hb HW HG
  go_wp2_with fail
  refine (kfit_any _ [] a0 a1 _ (unhide HG1) (.inl ⟨rfl, _, _, rfl⟩) (by decide) (fun f hf => by cases hf)).mono ?_
  rintro e w2 ⟨rfl, hb⟩
  have HB2 := hide (bel_then (unhide HB1) hb)
  clear hb HB1 HG1
  rw [viol_nil]
  go_wp2_with fail
  refine (pick_any at' 600 _ (unhide H3).lo (unhide H3).hi (by decide) (by decide)).mono ?_
  rintro e w3 ⟨rfl, rfl⟩
  have a0' := pk_nonneg at' 600 (by decide)
  have a1' := pk_lt at' 600 (by decide)
  generalize pk at' 600 = at0 at *
  go_wp2_with fail
  go_rounds 1
  go_ret
  exact ⟨rfl, unhide HB2⟩
end Go.Proofs.YtcnmajndackohaaDoor
