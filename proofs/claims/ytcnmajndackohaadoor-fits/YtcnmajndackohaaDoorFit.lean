/-
  What Fit and CheckAll do on flows that may be: the least violation, or none.
-/
import Derived.Test.YtcnmajndackohaaDoorVio
import Derived.Test.YtcnmajndackohaaDoorErrs
namespace Go.Proofs.YtcnmajndackohaaDoor
open Go.RowKit

/-- The value v is a list of the flows l. -/
def Fls (w : World) (v : Value) (l : List Fl) : Prop := (l = [] ∧ ∃ a c, v = .slice a 0 c) ∨ ∃ b o c, v = .slice (some ⟨b, o, none⟩) l.length c ∧ Lies w b o l
theorem Fls.below {w w' : World} {v : Value} {l : List Fl} (h : Fls w v l) (hb : Below w.heap.size w w') : Fls w' v l := by
  rcases h with h | ⟨b, o, c, e, h⟩
  · exact .inl h
  · exact .inr ⟨b, o, c, e, h.below hb⟩

theorem violates_F (v : Value) (l : List Fl) (t : Int) (w : World) (hw : Fls w v l) (hl : l.length ≤ 6) (hm : ∀ f ∈ l, f.may) (t0 : 1 ≤ t) (t1 : t ≤ 10000) :
    Calls Tryd.prog 26 #[v, .int .i64 t] w fun e w' => e = .returned (.bool (vioB l t)) ∧ Below w.heap.size w w' := by
  rcases hw with ⟨rfl, a, c, rfl⟩ | ⟨b, o, c, rfl, h⟩
  · refine (violates_nil a c t w).mono ?_
    rintro e w' ⟨rfl, rfl⟩
    exact ⟨by simp [vioB, tot], Below.refl _ _⟩
  · exact violates_any b o c l t w hl h hm t0 t1

/-- What Fit answers. -/
def fitV (l : List Fl) : Value := if viol l = 0 then .nilIface else vio (viol l)
theorem fitV_none {l : List Fl} (h : viol l = 0) : fitV l = .nilIface := by unfold fitV; rw [if_pos h]
theorem fitV_some {l : List Fl} (h : ¬ viol l = 0) : fitV l = vio (viol l) := by unfold fitV; rw [if_neg h]
theorem ret_val {a b : Value} (h : a = b) : Ending.returned a = .returned b := by rw [h]

set_option maxRecDepth 100000 in
set_option maxHeartbeats 2000000 in
theorem fit_any (v : Value) (l : List Fl) (w : World) (hw : Fls w v l) (hl : l.length ≤ 6) (hm : ∀ f ∈ l, f.may) :
    Calls Tryd.prog 21 #[v] w fun e w' => e = .returned (fitV l) ∧ Below w.heap.size w w' := by
  have HM := hide hm
  have HW := hide hw
  have HL := hide hl
  clear hm hw hl
  go_enter Tryd.func21, Tryd.ntmps21
  go_wp2_with fail
  go_loopw [3] (fun i wr => ∃ k m : Nat, k + m = 1300 ∧ i = .int .i64 ((k : Int) + 1) ∧ viol l = seek l m ((k : Int) + 1) ∧ Below w.heap.size w wr) (fun i _ => 1301 - (intOf i).toNat)
  case atStart => exact ⟨0, 1300, rfl, rfl, rfl, Below.refl _ _⟩
  case round =>
    obtain ⟨k, m, hkm, rfl, hs, hbel⟩ := hrel
    have HK := hide hkm
    have HS := hide hs
    have HBel := hide hbel
    have hk : (k : Int) ≤ 1300 := by omega
    clear hs hbel
    cases m with
    | succ m =>
      have hlt : (k : Int) < 1300 := by omega
      clear hkm
      go_wp2_with fail
      refine (violates_F v l ((k : Int) + 1) _ ((unhide HW).below (unhide HBel)) (unhide HL) (unhide HM) (by omega) (by omega)).mono ?_
      rintro e w1 ⟨rfl, hb1⟩
      have HB1 := hide hb1
      clear hb1
      cases hv : vioB l ((k : Int) + 1)
      · have HV := hide hv
        clear hv
        go_wp2_with fail
        go_roundw
        case rel =>
          refine ⟨k + 1, m, by have := unhide HK; omega, by go_num, ?_, (unhide HBel).trans ((unhide HB1).mono (unhide HBel).size)⟩
          rw [unhide HS, seek_step_no (unhide HV)]
          rfl
        case measure => simp [intOf]; omega
      · have HV := hide hv
        clear hv
        go_wp2_with fail
        go_ret
        refine ⟨ret_val ?_, (unhide HBel).trans ((unhide HB1).mono (unhide HBel).size)⟩
        have e1 : viol l = (k : Int) + 1 := by rw [unhide HS, seek_step_yes (unhide HV)]
        rw [fitV_some (by omega), e1]
        rfl
    | zero =>
      have hlt : (k : Int) = 1300 := by omega
      have HE := hide hlt
      have hge : ¬ (k : Int) + 1 ≤ 1300 := by omega
      clear hkm hlt
      go_wp2_with fail
      go_ret
      refine ⟨ret_val ?_, unhide HBel⟩
      have e1 : viol l = 0 := by rw [unhide HS]; rfl
      rw [fitV_none e1]
      rfl

set_option maxHeartbeats 2000000 in
theorem checkAll_some (b o c : Nat) (l : List Fl) (w : World) (hl : l.length ≤ 6) (hw : Lies w b o l) (hm : ∀ f ∈ l, f.may) :
    Calls Tryd.prog 20 #[.slice (some ⟨b, o, none⟩) l.length c] w fun e w' => e = .returned .nilIface ∧ Below w.heap.size w w' := by
  have HM : Hid (∀ f ∈ l, f.may) := hm
  have HW : Hid (Lies w b o l) := hw
  clear hm hw
  generalize hn : l.length = n at *
  have HN : Hid (l.length = n) := hn
  clear hn
  go_enter Tryd.func20, Tryd.ntmps20
  go_wp2_with fail
  go_loopw [17] (fun i wr => ∃ k : Nat, k ≤ n ∧ i = .int .i64 k ∧ Below w.heap.size w wr) (fun i _ => n - (intOf i).toNat)
  case atStart => exact ⟨0, Nat.zero_le _, rfl, Below.refl _ _⟩
  case round =>
    obtain ⟨k, hk, rfl, hbel⟩ := hrel
    by_cases hlt : k < n
    · have hkl : k < l.length := by rw [unhide HN]; exact hlt
      have hmay := unhide HM l[k] (List.getElem_mem hkl)
      have hL := (unhide HW).below hbel
      have q0 := hL.c0 k hkl
      have q1 := hL.c1 k hkl
      have q2 := hL.c2 k hkl
      have q3 := hL.c3 k hkl
      have q4 := hL.c4 k hkl
      have hbw := hL.blk
      have HY := hide hmay
      have hHB := hide hbel
      clear hL hbel hmay
      generalize hf : l[k] = f at *
      clear hf
      go_wp2_with fail
      refine (check_ok f.s f.p f.b f.r f.d _ (unhide HY)).mono ?_
      rintro e w1 ⟨rfl, hb1⟩
      clear q0 q1 q2 q3 q4
      go_wp2_with fail
      go_roundw
      case rel =>
        refine ⟨k + 1, by omega, by go_num, ?_⟩
        exact (unhide hHB).trans (((Below.refl _ _).alloc (Nat.le_refl _) _).trans (hb1.mono (by simp)) |>.mono (unhide hHB).size)
      case measure => simp [intOf]; omega
    · have hkn : k = n := by omega
      subst hkn
      have HBel := hide hbel
      clear hbel
      go_wp2_with fail
      go_ret
      exact ⟨rfl, unhide HBel⟩
set_option maxHeartbeats 2000000 in
theorem checkAll_nil (a : Option Addr) (c : Nat) (w : World) :
    Calls Tryd.prog 20 #[.slice a 0 c] w fun e w' => e = .returned .nilIface ∧ w' = w := by
  go_enter Tryd.func20, Tryd.ntmps20
  go_wp2_with fail
  go_rounds 1
  go_ret
  exact ⟨rfl, rfl⟩
theorem checkAll_F (v : Value) (l : List Fl) (w : World) (hw : Fls w v l) (hl : l.length ≤ 6) (hm : ∀ f ∈ l, f.may) :
    Calls Tryd.prog 20 #[v] w fun e w' => e = .returned .nilIface ∧ Below w.heap.size w w' := by
  rcases hw with ⟨rfl, a, c, rfl⟩ | ⟨b, o, c, rfl, h⟩
  · refine (checkAll_nil a c w).mono ?_
    rintro e w' ⟨rfl, rfl⟩
    exact ⟨rfl, Below.refl _ _⟩
  · exact checkAll_some b o c l w hl h hm
end Go.Proofs.YtcnmajndackohaaDoor
