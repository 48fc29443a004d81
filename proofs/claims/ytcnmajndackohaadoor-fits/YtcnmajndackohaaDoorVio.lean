/-
  What violates, Fit and CheckAll do on flows that may be.
-/
import Derived.Test.YtcnmajndackohaaDoorMemA
import Derived.Test.YtcnmajndackohaaDoorFlow
namespace Go.Proofs.YtcnmajndackohaaDoor
open Go.RowKit

theorem ret_bool {a b : Bool} (h : a = b) : Ending.returned (.bool a) = .returned (.bool b) := by rw [h]

/-- The flows l lie in block b from offset o on. -/
structure Lies (w : World) (b o : Nat) (l : List Fl) : Prop where
  blk : b < w.heap.size
  c0 : ∀ (k : Nat) (h : k < l.length), w.cell? ⟨b, o + k * 5, none⟩ = some (.int .i64 l[k].s)
  c1 : ∀ (k : Nat) (h : k < l.length), w.cell? ⟨b, o + k * 5 + 1, none⟩ = some (.int .i64 l[k].p)
  c2 : ∀ (k : Nat) (h : k < l.length), w.cell? ⟨b, o + k * 5 + 2, none⟩ = some (.int .i64 l[k].b)
  c3 : ∀ (k : Nat) (h : k < l.length), w.cell? ⟨b, o + k * 5 + 3, none⟩ = some (.int .i64 l[k].r)
  c4 : ∀ (k : Nat) (h : k < l.length), w.cell? ⟨b, o + k * 5 + 4, none⟩ = some (.int .i64 l[k].d)
theorem Lies.below {w w' : World} {b o : Nat} {l : List Fl} (h : Lies w b o l) (hb : Below w.heap.size w w') : Lies w' b o l := by
  obtain ⟨hc, _⟩ := bcell hb
  have := hb.size
  exact ⟨by have := h.blk; omega, fun k g => (hc _ _ h.blk).trans (h.c0 k g), fun k g => (hc _ _ h.blk).trans (h.c1 k g), fun k g => (hc _ _ h.blk).trans (h.c2 k g), fun k g => (hc _ _ h.blk).trans (h.c3 k g), fun k g => (hc _ _ h.blk).trans (h.c4 k g)⟩

set_option maxHeartbeats 2000000 in
theorem violates_any (b o c : Nat) (l : List Fl) (t : Int) (w : World) (hl : l.length ≤ 6) (hw : Lies w b o l) (hm : ∀ f ∈ l, f.may) (t0 : 1 ≤ t) (t1 : t ≤ 10000) :
    Calls Tryd.prog 26 #[.slice (some ⟨b, o, none⟩) l.length c, .int .i64 t] w fun e w' => e = .returned (.bool (vioB l t)) ∧ Below w.heap.size w w' := by
  have HM : Hid (∀ f ∈ l, f.may) := hm
  have HW : Hid (Lies w b o l) := hw
  clear hm hw
  generalize hn : l.length = n at *
  have HN : Hid (l.length = n) := hn
  clear hn
  go_enter Tryd.func26, Tryd.ntmps26
  go_wp2_with fail
  go_loopw [5, 10] (fun s i wr => ∃ k : Nat, k ≤ n ∧ i = .int .i64 k ∧ s = .int .i64 (tot t (l.take k)) ∧ Below w.heap.size w wr) (fun _ i _ => n - (intOf i).toNat)
  case atStart => exact ⟨0, Nat.zero_le _, rfl, rfl, Below.refl _ _⟩
  case round =>
    obtain ⟨k, hk, rfl, rfl, hbel⟩ := hrel
    have hb := tot_bd (l := l.take k) (fun f hf => unhide HM f (List.mem_of_mem_take hf)) t (by omega)
    have hlen : (l.take k).length ≤ 6 := by have := List.length_take_le k l; omega
    by_cases hlt : k < n
    · have hkl : k < l.length := by rw [unhide HN]; exact hlt
      have hmay := unhide HM l[k] (List.getElem_mem hkl)
      have hL := (unhide HW).below hbel
      have q0 := hL.c0 k hkl
      have q1 := hL.c1 k hkl
      have q2 := hL.c2 k hkl
      have q3 := hL.c3 k hkl
      have q4 := hL.c4 k hkl
      have HT := hide (tot_take_succ t l k hkl)
      have hbw := hL.blk
      have heb := e_bd hmay t (by omega)
      have HY := hide hmay
      have hHB := hide hbel
      obtain ⟨_, _, _, _, _, _, _, dd0, dd1⟩ := hmay
      clear hL hbel
      unfold Fl.e at heb
      generalize hf : l[k] = f at *
      clear hf
      generalize tot t (l.take k) = S at *
      go_wp2_with fail
      refine (allowed_any f.s f.p f.b f.r f.d (t - f.d) _ (unhide HY) (by omega)).mono ?_
      rintro e w1 ⟨rfl, hb1⟩
      generalize hE : allow f.s f.p f.b f.r (t - f.d) = E at *
      have HE := hide hE
      clear hE q0 q1 q2 q3 q4
      go_wp2_with fail
      go_roundw
      case rel =>
        refine ⟨k + 1, by omega, by go_num, ?_, ?_⟩
        · rw [unhide HT]; unfold Fl.e; rw [unhide HE]
        · exact (unhide hHB).trans (((Below.refl _ _).alloc (Nat.le_refl _) _).trans (hb1.mono (by simp)) |>.mono (unhide hHB).size)
      case measure => simp [intOf]; omega
    · have hkn : k = n := by omega
      subst hkn
      have hT : tot t (l.take k) = tot t l := by rw [List.take_of_length_le (by rw [unhide HN]; exact Nat.le_refl _)]
      rw [hT] at hb ⊢
      have HV := hide (show vioB l t = (decide (0 < tot t l) && decide (t < tot t l + 7)) from rfl)
      have HBel := hide hbel
      clear hT hbel
      generalize tot t l = S at *
      by_cases g0 : 0 < S
      · by_cases g1 : t < S + 7
        all_goals
          have g2 : S + 8 - 1 = S + 7 := by omega
          go_wp2_with fail
          go_ret
          exact ⟨ret_bool (by rw [unhide HV]; simp; omega), unhide HBel⟩
      · have g2 : decide (0 < S) = false := by simpa using g0
        go_wp2_with fail
        go_ret
        exact ⟨ret_bool (by rw [unhide HV, g2]; rfl), unhide HBel⟩

set_option maxHeartbeats 2000000 in
theorem violates_nil (a : Option Addr) (c : Nat) (t : Int) (w : World) :
    Calls Tryd.prog 26 #[.slice a 0 c, .int .i64 t] w fun e w' => e = .returned (.bool false) ∧ w' = w := by
  go_enter Tryd.func26, Tryd.ntmps26
  go_wp2_with fail
  go_rounds 1
  go_ret
  exact ⟨rfl, rfl⟩
end Go.Proofs.YtcnmajndackohaaDoor
