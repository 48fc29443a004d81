/- Orderly is true at every input: the call of Orderly returns true, whatever the flows and the script, and they read as they did: what goes goes one by one, in its order, as the bounds let it, and all of none goes. Its card ties the laid variables to the program's text (of the pruned copy). -/
import Derived.Test.YtcnmajndackohaaGreatDoorMg14
import Derived.Test.YtcnmajndackohaaGreatDoorMg41
import Derived.Test.YtcnmajndackohaaGreatDoorMg38
import Derived.Test.YtcnmajndackohaaGreatDoorTie
import Derived.Test.YtcnmajndackohaaGreatDoorCards
import Derived.LaidMore
import Derived.SevenTiedAt
namespace Go.Proofs.YtcnmajndackohaaGreatDoor
open Go.ChangeShapes Go.WideShapes Go.ChangeAt Go.RowKit Go.Joins Go.Deep

theorem door_met (os : Os) (args : Array Value) : laidMetH Tryz.prog Rows.orderlyRow.laid ((World.doorLaid Tryz.prog 400 os).forCall (fun _ _ => 0) ⟨#[], args, []⟩).memory :=
  laidMetH_of_parts3 (fuel := 8) (laidMet_of_run' 8 (by kernel_rfl) (by kernel_rfl)) (by kernel_rfl) (by kernel_rfl)
theorem two_of {W : World} (h : laidMetH Tryz.prog Rows.orderlyRow.laid W) : laidMetH Tryz.prog sixL W := by
  have k := h.filter fun x => x.1 == "towpath/fault.ErrArg" || x.1 == "towpath/fault.ErrFull" || x.1 == "towpath/fault.ErrLate" || x.1 == "towpath/fault.ErrNone" || x.1 == "towpath/fault.ErrSize" || x.1 == "towpath/fault.ErrQuota"
  rwa [show (Rows.orderlyRow.laid.filter fun x => x.1 == "towpath/fault.ErrArg" || x.1 == "towpath/fault.ErrFull" || x.1 == "towpath/fault.ErrLate" || x.1 == "towpath/fault.ErrNone" || x.1 == "towpath/fault.ErrSize" || x.1 == "towpath/fault.ErrQuota") = sixL from by kernel_rfl] at k
theorem handle_in {W : World} (h : laidMetH Tryz.prog Rows.orderlyRow.laid W) : laidMetH Tryz.prog [("errors.errorType", Rows.laid_errors_errorType)] W := by
  have k := h.filter fun x => x.1 == "errors.errorType"
  rwa [show (Rows.orderlyRow.laid.filter fun x => x.1 == "errors.errorType") = [("errors.errorType", Rows.laid_errors_errorType)] from by kernel_rfl] at k
theorem tab_in {W : World} (h : laidMetH Tryz.prog Rows.orderlyRow.laid W) : Lib.TabIs Tryz.prog W "internal/strconv.uint64pow10" .u64 Lib.pow10Tab := by
  have k := h.filter fun x => x.1 == "internal/strconv.uint64pow10"
  rw [show (Rows.orderlyRow.laid.filter fun x => x.1 == "internal/strconv.uint64pow10") = [("internal/strconv.uint64pow10", Lib.tabData .u64 Lib.pow10Tab)] from by kernel_rfl] at k
  rw [MakeChecks.laidMetH_plain _ _ _ (by kernel_rfl)] at k
  exact Lib.tabIs_of_head gPow (by kernel_rfl) Tryz.underlying236 Tryz.underlying215 (by kernel_rfl) (by kernel_rfl) k

theorem lineK_ex {W : World} {a0 a1 : Addr} (h : GlT W a0 a1) {W' : World} (hb : Below W.heap.size W W') : ∃ R, LineK W' R :=
  let ⟨_, hs⟩ := h.sn
  ⟨_, lineK ((show GlA W _ a0 a1 from ⟨h, hs⟩).below hb)⟩
set_option maxRecDepth 100000 in
theorem orderly_lifted (os : Os) (started : os.Started) (H : Type) (enc : TypeId × Value → H) :
    ReturnsInHanded {} Tryz.checked os 7 .any (fun w args => (Rows.orderlySpec.pre enc Tryz.prog Tryz.f7 [] false w args ∧ laidMetH Tryz.prog Rows.orderlyRow.laid w) ∧ sizedMet enc Tryz.prog Tryz.f7 (OpenSpec.ofChange Rows.orderlySpec) false w args)
      (Rows.orderlySpec.post enc Tryz.prog Tryz.f7 false true false false) := by
  refine returnsInHanded_of_change_and (C := Tryz.checked) (X := fun w _ => laidMetH Tryz.prog Rows.orderlyRow.laid w) (fun _ _ _ hh h => h.of_heap hh) own started (by kernel_rfl) Tryz.func7
    (ChangeSpec.witness_shaped (enc := enc) (C := Tryz.checked) (os := os) (X := fun w _ => laidMetH Tryz.prog Rows.orderlyRow.laid w) false (World.doorLaid Tryz.prog 400 os) #[.slice none 0 0, .slice none 0 0] 8 rfl
      (World.shaped_of_RefB (by kernel_rfl) (by kernel_rfl)) (by kernel_rfl) (by kernel_rfl) (by kernel_rfl) (door_met os _)) ?_
  intro W base args ds gs before hval0 hW _ _ hL _
  have hval : ∀ (j : Nat) t v, Tryz.f7.params[j]? = some t → args[j]? = some v → Value.okWide Tryz.prog W .any base t v := hval0
  have hW' := hW
  obtain ⟨p, q, hA0, hV, rfl, hfz, hnd⟩ := hW
  have hA : DataW.TrodAll enc Tryz.prog W 0 (fun _ => true) true Tryz.f7.params.toList args.toList ds p := hA0
  rw [Tryz.params7] at hA hval
  obtain ⟨u0, u1, d0, d1, p0, p1, rfl, rfl, rfl, h0, h1⟩ := trodAll_two hA
  obtain ⟨rfl, rfl⟩ := trodVars_none hV
  have h0k := h0
  have h1k := h1
  have hlt0 : ∀ x ∈ p0, x.block < W.heap.size := fun x hx => hW'.lt x (by simp [hx])
  have hlt1 : ∀ x ∈ p1, x.block < W.heap.size := fun x hx => hW'.lt x (by simp [hx])
  obtain ⟨ad, ln, cp, rfl⟩ := okWide_slice Tryz.underlying37 (hval 0 37 u0 rfl rfl)
  obtain ⟨ad1, ln1, cp1, rfl⟩ := okWide_slice Tryz.underlying42 (hval 1 42 u1 rfl rfl)
  obtain ⟨fuel, hf⟩ := h0
  obtain ⟨v, l, hcs, hfl, hraw, hmax, _⟩ := flows_lie hf
  have hv : v = .slice ad ln cp := by simpa [Value.cells] using hcs.symm
  subst hv
  obtain ⟨fuel1, hf1⟩ := h1
  obtain ⟨v1, q, hcs1, hst, hqr, hqm⟩ := steps_lie hf1
  have hv1 : v1 = .slice ad1 ln1 cp1 := by simpa [Value.cells] using hcs1.symm
  subst hv1
  obtain ⟨a0, a1, hgl⟩ := gl_of (two_of hL) (handle_in hL)
  simp only [List.append_nil] at hW'
  have walk : Calls Tryz.prog 7 #[.slice ad ln cp, .slice ad1 ln1 cp1] W fun e w' => e = .returned (.bool true) ∧ Below W.heap.size W w' := by
    exact orderly_F W (fun W' hb => lineK_ex ⟨hgl, tab_in hL⟩ hb) a0 a1 hgl _ l hfl hraw hmax _ q (hst.imp id fun ⟨b, o, c, he, _, h⟩ => ⟨b, o, c, he, h⟩) hqr hqm
  refine walk.mono fun e W' ⟨he, hb⟩ => ?_
  subst he
  have hargs := trodAll_mk2 (Below.trod laidOut (by kernel_rfl) (of_decide_eq_true (by kernel_rfl)) h0k hb hlt0) (Below.trod laidOut (by kernel_rfl) (of_decide_eq_true (by kernel_rfl)) h1k hb hlt1)
  exact ⟨_, rfl, _, _, _, [], p0 ++ p1, [], hW', trodAll_mk1 (shut_bool Tryz.underlying4 _), hargs, rfl, hb.frame _, fun h => by cases h⟩

theorem orderly_holds : Rows.OrderlySaid :=
  OpenClaim.holds_of_wide 7 Tryz.f7 rfl rfl rfl rfl rfl rfl rfl ⟨rfl, rfl, rfl, rfl, rfl⟩ rfl rfl rfl rfl rfl (by kernel_rfl) Tryz.func7 (by kernel_rfl)
    (of_decide_eq_true (by kernel_rfl)) (by unfold Func.isWrapper; first | (rw [if_pos (by decide +kernel)]; kernel_rfl) | (rw [if_neg (by decide +kernel)]; exact ⟨rfl, rfl⟩))
    (fun os started H enc _ => orderly_lifted os started H enc)

theorem orderly_card_holds : Rows.OrderlyCardSaid :=
  Claim7.holds_tied_plain_at .later [] Rows.orderlyCard.laidKinds true Rows.orderlyCard.stood.harness true
    orderly_holds (fun _ h => by cases h) (by kernel_rfl) (fun _ h => by cases h) orderly_row_tie rfl ⟨rfl, rfl⟩ (by kernel_rfl) rfl
    (fun f fn hf hfn => by
      obtain rfl : f = 7 := Option.some.inj ((show Tryz.prog.funcNamed "towpath/towpathkeep.Orderly" = some 7 by kernel_rfl).symm.trans hf) |>.symm
      obtain rfl : fn = Tryz.f7 := (Option.some.inj (Tryz.func7.symm.trans hfn)).symm
      exact ⟨by kernel_rfl, fun j t ht => by
        rw [Tryz.params7] at ht
        have hm : t ∈ [37, 42] := by simpa using Array.mem_of_getElem? ht
        have hall : ([37, 42].all fun u => !Tryz.prog.wantsStandIn u) = true := by kernel_rfl
        exact (show Tryz.prog.wantsStandIn t = false by simpa using List.all_eq_true.1 hall t hm)⟩)
    (by kernel_rfl)
#print axioms orderly_card_holds
end Go.Proofs.YtcnmajndackohaaGreatDoor
