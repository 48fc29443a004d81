/- Fits is true at every input: the call of the program's Fits returns true, whatever the flows and the three numbers, and what came in reads as it did. Its card ties the six laid variables to the program's text. -/
import Derived.Test.YtcnmajndackohaaDoorAidL
import Derived.Test.YtcnmajndackohaaDoorFitsW
import Derived.Test.YtcnmajndackohaaDoorFitsN
import Derived.Test.YtcnmajndackohaaDoorTie
import Derived.Test.YtcnmajndackohaaDoorCards
import Derived.LaidMore
import Derived.SevenTiedAt
namespace Go.Proofs.YtcnmajndackohaaDoor
open Go.ChangeShapes Go.WideShapes Go.ChangeAt Go.RowKit Go.Joins Go.Deep

theorem door_met (os : Os) (args : Array Value) : laidMetH Tryd.prog Rows.fitsRow.laid ((World.doorLaid Tryd.prog 400 os).forCall (fun _ _ => 0) ⟨#[], args, []⟩).memory :=
  laidMetH_of_parts3 (fuel := 8) (laidMet_of_run' 8 (by kernel_rfl) (by kernel_rfl)) (by kernel_rfl) (by kernel_rfl)
theorem two_of {W : World} (h : laidMetH Tryd.prog Rows.fitsRow.laid W) : laidMetH Tryd.prog sixL W := by
  have k := h.filter fun x => x.1 == "towpath/fault.ErrArg" || x.1 == "towpath/fault.ErrFull" || x.1 == "towpath/fault.ErrLate" || x.1 == "towpath/fault.ErrNone" || x.1 == "towpath/fault.ErrSize" || x.1 == "towpath/fault.ErrQuota"
  rwa [show (Rows.fitsRow.laid.filter fun x => x.1 == "towpath/fault.ErrArg" || x.1 == "towpath/fault.ErrFull" || x.1 == "towpath/fault.ErrLate" || x.1 == "towpath/fault.ErrNone" || x.1 == "towpath/fault.ErrSize" || x.1 == "towpath/fault.ErrQuota") = sixL from by kernel_rfl] at k
theorem handle_in {W : World} (h : laidMetH Tryd.prog Rows.fitsRow.laid W) : laidMetH Tryd.prog [("errors.errorType", Rows.laid_errors_errorType)] W := by
  have k := h.filter fun x => x.1 == "errors.errorType"
  rwa [show (Rows.fitsRow.laid.filter fun x => x.1 == "errors.errorType") = [("errors.errorType", Rows.laid_errors_errorType)] from by kernel_rfl] at k

set_option maxRecDepth 100000 in
theorem fits_lifted (os : Os) (started : os.Started) (H : Type) (enc : TypeId × Value → H) :
    ReturnsInHanded {} Tryd.checked os 4 .any (fun w args => (Rows.fitsSpec.pre enc Tryd.prog Tryd.f4 [] false w args ∧ laidMetH Tryd.prog Rows.fitsRow.laid w) ∧ sizedMet enc Tryd.prog Tryd.f4 (OpenSpec.ofChange Rows.fitsSpec) false w args)
      (Rows.fitsSpec.post enc Tryd.prog Tryd.f4 false true false false) := by
  refine returnsInHanded_of_change_and (C := Tryd.checked) (X := fun w _ => laidMetH Tryd.prog Rows.fitsRow.laid w) (fun _ _ _ hh h => h.of_heap hh) own started (by kernel_rfl) Tryd.func4
    (ChangeSpec.witness_shaped (enc := enc) (C := Tryd.checked) (os := os) (X := fun w _ => laidMetH Tryd.prog Rows.fitsRow.laid w) false (World.doorLaid Tryd.prog 400 os) #[.slice none 0 0, .int .i64 0, .int .i64 0, .int .i64 0] 8 rfl
      (World.shaped_of_RefB (by kernel_rfl) (by kernel_rfl)) (by kernel_rfl) (by kernel_rfl) (by kernel_rfl) (door_met os _)) ?_
  intro W base args ds gs before hval0 hW _ _ hL _
  have hval : ∀ (j : Nat) t v, Tryd.f4.params[j]? = some t → args[j]? = some v → Value.okWide Tryd.prog W .any base t v := hval0
  have hW' := hW
  obtain ⟨p, q, hA0, hV, rfl, hfz, hnd⟩ := hW
  have hA : DataW.TrodAll enc Tryd.prog W 0 (fun _ => true) true Tryd.f4.params.toList args.toList ds p := hA0
  rw [Tryd.params4] at hA hval
  obtain ⟨u0, u1, u2, u3, d0, d1, d2, d3, p0, p1, p2, p3, rfl, rfl, rfl, h0, h1, h2, h3⟩ := trodAll_four hA
  obtain ⟨rfl, rfl⟩ := trodVars_none hV
  have h0k := h0
  have hlt : ∀ x ∈ p0, x.block < W.heap.size := fun x hx => hW'.lt x (by simp [hx])
  obtain ⟨x1, rfl, rfl, rfl, wx1⟩ := open_int Tryd.underlying3 (hval 1 3 u1 rfl rfl) h1
  obtain ⟨x2, rfl, rfl, rfl, wx2⟩ := open_int Tryd.underlying3 (hval 2 3 u2 rfl rfl) h2
  obtain ⟨x3, rfl, rfl, rfl, wx3⟩ := open_int Tryd.underlying3 (hval 3 3 u3 rfl rfl) h3
  obtain ⟨ad, ln, cp, rfl⟩ := okWide_slice Tryd.underlying28 (hval 0 28 u0 rfl rfl)
  obtain ⟨fuel, hf⟩ := h0
  obtain ⟨v, l, hcs, hfl, hraw, hmax, _⟩ := flows_lie hf
  have hv : v = .slice ad ln cp := by simpa [Value.cells] using hcs.symm
  subst hv
  obtain ⟨a0, a1, hgl⟩ := gl_of (two_of hL) (handle_in hL)
  simp only [List.append_nil] at hW'
  have walk : Calls Tryd.prog 4 #[.slice ad ln cp, .int .i64 x1, .int .i64 x2, .int .i64 x3] W fun e w' => e = .returned (.bool true) ∧ Below W.heap.size W w' := by
    by_cases hn : 0 < l.length
    · exact fits_some _ l x1 x2 x3 a0 a1 W hgl hfl hraw hmax (r64_of_wf wx1) (r64_of_wf wx2) (r64_of_wf wx3) hn
    · have e : l = [] := List.eq_nil_of_length_eq_zero (by omega)
      subst e
      exact fits_none _ x1 x2 x3 a0 a1 W hgl hfl (r64_of_wf wx3)
  refine walk.mono fun e W' ⟨he, hb⟩ => ?_
  subst he
  have hargs := trodAll_mk4 (Below.trod laidOut (by kernel_rfl) (of_decide_eq_true (by kernel_rfl)) h0k hb hlt) (shut_int (enc := enc) (w := W') (base := 0) (spare := fun b => decide (b < W.heap.size)) (held := true) Tryd.underlying3 wx1) (shut_int Tryd.underlying3 wx2) (shut_int Tryd.underlying3 wx3)
  simp only [List.append_nil] at hargs
  exact ⟨_, rfl, _, _, _, [], p0, [], hW', trodAll_mk1 (shut_bool Tryd.underlying4 _), hargs, rfl, hb.frame _, fun h => by cases h⟩

theorem fits_holds : Rows.FitsSaid :=
  OpenClaim.holds_of_wide 4 Tryd.f4 rfl rfl rfl rfl rfl rfl rfl ⟨rfl, rfl, rfl, rfl, rfl⟩ rfl rfl rfl rfl rfl (by kernel_rfl) Tryd.func4 (by kernel_rfl)
    (of_decide_eq_true (by kernel_rfl)) (by unfold Func.isWrapper; first | (rw [if_pos (by decide +kernel)]; kernel_rfl) | (rw [if_neg (by decide +kernel)]; exact ⟨rfl, rfl⟩))
    (fun os started H enc _ => fits_lifted os started H enc)

theorem fits_card_holds : Rows.FitsCardSaid :=
  Claim7.holds_tied_plain_at .later [] Rows.fitsCard.laidKinds true Rows.fitsCard.stood.harness true
    fits_holds (fun _ h => by cases h) (by kernel_rfl) (fun _ h => by cases h) fits_row_tie rfl ⟨rfl, rfl⟩ (by kernel_rfl) rfl
    (fun f fn hf hfn => by
      obtain rfl : f = 4 := Option.some.inj ((show Tryd.prog.funcNamed "towpath/towpathkeep.Fits" = some 4 by kernel_rfl).symm.trans hf) |>.symm
      obtain rfl : fn = Tryd.f4 := (Option.some.inj (Tryd.func4.symm.trans hfn)).symm
      exact ⟨by kernel_rfl, fun j t ht => by
        rw [Tryd.params4] at ht
        have hm : t ∈ [28, 3, 3, 3] := by simpa using Array.mem_of_getElem? ht
        have hall : ([28, 3, 3, 3].all fun u => !Tryd.prog.wantsStandIn u) = true := by kernel_rfl
        exact (show Tryd.prog.wantsStandIn t = false by simpa using List.all_eq_true.1 hall t hm)⟩)
    (by kernel_rfl)
#print axioms fits_card_holds
end Go.Proofs.YtcnmajndackohaaDoor
