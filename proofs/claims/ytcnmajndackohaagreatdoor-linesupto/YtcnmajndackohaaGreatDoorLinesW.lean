/- Lines is true at every input of bulk at most 1048576: the call of Lines returns true, whatever the flows and the script are that hold together at most 1048576 values, and they read as they did: every answer of the program's Most, Test, New, Send, Other, Run, Gone and Look is the document's own, on every line that there is, and every list that came out stays its owner's. The bound on the bulk is the statement's own (its second form). Its card ties the laid variables to the program's text (of the pruned copy). -/
import Derived.Test.YtcnmajndackohaaGreatDoorMg52
import Derived.Test.YtcnmajndackohaaGreatDoorTie
import Derived.Test.YtcnmajndackohaaGreatDoorCards
import Derived.LaidMore
import Derived.SevenTiedAt
import Derived.Deep.DeepWitnessRowRef
namespace Go.Proofs.YtcnmajndackohaaGreatDoor
open Go.ChangeShapes Go.WideShapes Go.ChangeAt Go.RowKit Go.Joins Go.Deep

theorem door_met (os : Os) (args : Array Value) : laidMetH Tryz.prog Rows.linesUptoRow.laid ((World.doorLaid Tryz.prog 400 os).forCall (fun _ _ => 0) ⟨#[], args, []⟩).memory :=
  laidMetH_of_parts3 (fuel := 8) (laidMet_of_run' 8 (by kernel_rfl) (by kernel_rfl)) (by kernel_rfl) (by kernel_rfl)
theorem two_of {W : World} (h : laidMetH Tryz.prog Rows.linesUptoRow.laid W) : laidMetH Tryz.prog sixL W := by
  have k := h.filter fun x => x.1 == "towpath/fault.ErrArg" || x.1 == "towpath/fault.ErrFull" || x.1 == "towpath/fault.ErrLate" || x.1 == "towpath/fault.ErrNone" || x.1 == "towpath/fault.ErrSize" || x.1 == "towpath/fault.ErrQuota"
  rwa [show (Rows.linesUptoRow.laid.filter fun x => x.1 == "towpath/fault.ErrArg" || x.1 == "towpath/fault.ErrFull" || x.1 == "towpath/fault.ErrLate" || x.1 == "towpath/fault.ErrNone" || x.1 == "towpath/fault.ErrSize" || x.1 == "towpath/fault.ErrQuota") = sixL from by kernel_rfl] at k
theorem handle_in {W : World} (h : laidMetH Tryz.prog Rows.linesUptoRow.laid W) : laidMetH Tryz.prog [("errors.errorType", Rows.laid_errors_errorType)] W := by
  have k := h.filter fun x => x.1 == "errors.errorType"
  rwa [show (Rows.linesUptoRow.laid.filter fun x => x.1 == "errors.errorType") = [("errors.errorType", Rows.laid_errors_errorType)] from by kernel_rfl] at k
theorem tab_in {W : World} (h : laidMetH Tryz.prog Rows.linesUptoRow.laid W) : Lib.TabIs Tryz.prog W "internal/strconv.uint64pow10" .u64 Lib.pow10Tab := by
  have k := h.filter fun x => x.1 == "internal/strconv.uint64pow10"
  rw [show (Rows.linesUptoRow.laid.filter fun x => x.1 == "internal/strconv.uint64pow10") = [("internal/strconv.uint64pow10", Lib.tabData .u64 Lib.pow10Tab)] from by kernel_rfl] at k
  rw [MakeChecks.laidMetH_plain _ _ _ (by kernel_rfl)] at k
  exact Lib.tabIs_of_head gPow (by kernel_rfl) Tryz.underlying236 Tryz.underlying215 (by kernel_rfl) (by kernel_rfl) k
theorem reads (os : Os) {H : Type} (enc : TypeId × Value → H) : ∃ places, DataW.whole enc Tryz.prog ((World.doorLaid Tryz.prog 400 os).forCall (fun _ _ => 0) ⟨#[], #[.slice none 0 0, .slice none 0 0], []⟩).memory Tryz.f4.params.toList Rows.linesSpec.vars false #[Value.slice none 0 0, Value.slice none 0 0].toList 8 = some ([.nil, .nil], [], places) :=
  ⟨[], by kernel_rfl⟩

set_option maxRecDepth 100000 in
theorem lines_lifted (os : Os) (started : os.Started) (H : Type) (enc : TypeId × Value → H) (F : Stop.Interp) :
    ReturnsInHanded {} Tryz.checked os 4 .any ((Rows.OpenSpec.upto Rows.linesSpec).preRow enc Tryz.prog Tryz.f4 Rows.linesUptoRow.domain false Rows.linesUptoRow.laid) (((Rows.OpenSpec.upto Rows.linesSpec).at F).post enc Tryz.prog Tryz.f4 false true false false) := by
  obtain ⟨places, hx⟩ := reads os enc
  refine returnsInHanded_of_row (C := Tryz.checked) (s := Rows.OpenSpec.upto Rows.linesSpec) own started (by kernel_rfl) Tryz.func4
    (witness_row_atRef (enc := enc) (C := Tryz.checked) false (World.doorLaid Tryz.prog 400 os) #[.slice none 0 0, .slice none 0 0] rfl (by kernel_rfl) (by kernel_rfl) (by kernel_rfl)
      (OpenSpec.preRow_of_cond 8 hx (by kernel_rfl) (fun k hk => by cases hk; kernel_rfl) (by kernel_rfl) (door_met os _))) ?_
  intro W base args ds gs before hval0 hW _ hcond _ hL _ _
  have hbulk : Rows.uptoBulkAll (ds ++ gs) ≤ 1048576 := of_decide_eq_true (hcond _ rfl)
  have hval : ∀ (j : Nat) t v, Tryz.f4.params[j]? = some t → args[j]? = some v → Value.okWide Tryz.prog W .any base t v := hval0
  have hW' := hW
  obtain ⟨p, q, hA0, hV, rfl, hfz, hnd⟩ := hW
  have hA : DataW.TrodAll enc Tryz.prog W 0 (fun _ => true) true Tryz.f4.params.toList args.toList ds p := hA0
  rw [Tryz.params4] at hA hval
  obtain ⟨u0, u1, d0, d1, p0, p1, rfl, rfl, rfl, h0, h1⟩ := trodAll_two hA
  obtain ⟨rfl, rfl⟩ := trodVars_none hV
  have h0k := h0
  have h1k := h1
  have hlt0 : ∀ x ∈ p0, x.block < W.heap.size := fun x hx => hW'.lt x (by simp [hx])
  have hlt1 : ∀ x ∈ p1, x.block < W.heap.size := fun x hx => hW'.lt x (by simp [hx])
  obtain ⟨ad, ln, cp, rfl⟩ := okWide_slice Tryz.underlying37 (hval 0 37 u0 rfl rfl)
  obtain ⟨ad1, ln1, cp1, rfl⟩ := okWide_slice Tryz.underlying22 (hval 1 22 u1 rfl rfl)
  obtain ⟨fuel, hf⟩ := h0
  obtain ⟨v, l, hcs, hfl, _, _, hel⟩ := flows_lie hf
  have hv : v = .slice ad ln cp := by simpa [Value.cells] using hcs.symm
  subst hv
  obtain ⟨fuel1, hf1⟩ := h1
  obtain ⟨v1, s, hcs1, hst, hraw, hsl, hsy⟩ := scriptU_lie hf1
  have hv1 : v1 = .slice ad1 ln1 cp1 := by simpa [Value.cells] using hcs1.symm
  subst hv1
  have hb0 : Rows.uptoBulk d0 + Rows.uptoBulk d1 ≤ 1048576 := by
    simp only [List.append_nil, Rows.uptoBulkAll] at hbulk
    omega
  have hsl' : s.length ≤ Rows.uptoBulk d1 := hsl
  have hsy' : ∀ y ∈ s, y.l.length ≤ Rows.uptoBulk d1 := hsy
  have hl0 : l.length ≤ Rows.uptoBulk d0 := by
    rcases hel with rfl | ⟨el, sp, e1, e2⟩
    · exact Nat.zero_le _
    · have e1' : d0 = .slice el sp := e1
      rw [e1', ← e2]
      have h1 := bulk_len el
      simp only [Rows.uptoBulk]
      omega
  obtain ⟨a0, a1, hgl⟩ := gl_of (two_of hL) (handle_in hL)
  obtain ⟨aS, hS⟩ := hgl.sn
  simp only [List.append_nil] at hW'
  have walk : Calls Tryz.prog 4 #[.slice ad ln cp, .slice ad1 ln1 cp1] W fun e w' => e = .returned (.bool true) ∧ Below W.heap.size W w' :=
    lines_any _ _ l s aS a0 a1 W ⟨⟨hgl, tab_in hL⟩, hS⟩ hfl (by omega) hst hraw (fun y hy => by have := hsy' y hy; omega) (by omega)
  refine walk.mono fun e W' ⟨he, hb⟩ => ?_
  subst he
  have hargs := trodAll_mk2 (Below.trod laidOut (by kernel_rfl) (of_decide_eq_true (by kernel_rfl)) h0k hb hlt0) (Below.trod laidOut (by kernel_rfl) (of_decide_eq_true (by kernel_rfl)) h1k hb hlt1)
  exact ⟨_, rfl, _, _, _, [], p0 ++ p1, [], hW', trodAll_mk1 (shut_bool Tryz.underlying4 _), hargs, rfl, hb.frame _, fun h => by cases h⟩

theorem lines_holds : Rows.LinesUptoSaid :=
  OpenClaim.holds_of_cond 4 Tryz.f4 rfl rfl rfl rfl rfl rfl rfl ⟨rfl, rfl, rfl, rfl, rfl⟩ rfl rfl rfl rfl rfl (by kernel_rfl) Tryz.func4 (by kernel_rfl)
    (of_decide_eq_true (by kernel_rfl)) (by unfold Func.isWrapper; first | (rw [if_pos (by decide +kernel)]; kernel_rfl) | (rw [if_neg (by decide +kernel)]; exact ⟨rfl, rfl⟩))
    (fun os started H enc _ F => by rw [OpenClaim.pre_eq_preRow]; exact lines_lifted os started H enc F)

theorem lines_card_holds : Rows.LinesUptoCardSaid :=
  Claim7.holds_tied_plain_at .later [] Rows.linesUptoCard.laidKinds true Rows.linesUptoCard.stood.harness true
    lines_holds (fun _ h => by cases h) (by kernel_rfl) (fun _ h => by cases h) linesUpto_row_tie rfl ⟨rfl, rfl⟩ (by kernel_rfl) rfl
    (fun f fn hf hfn => by
      obtain rfl : f = 4 := Option.some.inj ((show Tryz.prog.funcNamed "towpath/towpathlaw.Lines" = some 4 by kernel_rfl).symm.trans hf) |>.symm
      obtain rfl : fn = Tryz.f4 := (Option.some.inj (Tryz.func4.symm.trans hfn)).symm
      exact ⟨by kernel_rfl, fun j t ht => by
        rw [Tryz.params4] at ht
        have hm : t ∈ [37, 22] := by simpa using Array.mem_of_getElem? ht
        have hall : ([37, 22].all fun u => !Tryz.prog.wantsStandIn u) = true := by kernel_rfl
        exact (show Tryz.prog.wantsStandIn t = false by simpa using List.all_eq_true.1 hall t hm)⟩)
    (by kernel_rfl)
#print axioms lines_card_holds
end Go.Proofs.YtcnmajndackohaaGreatDoor
