import Derived.Test.YtcnmajndackohaaGreatDoorLateMg27
import Derived.Deep.DeepCutAuto
/-
  What Check does at a flow that may not be: its peak, its time.
-/
namespace Go.Proofs.YtcnmajndackohaaGreatDoor
open Go.RowKit

set_option maxRecDepth 100000 in
set_option maxHeartbeats 8000000 in
theorem check_bad4 (s p b r d : Int) (a0 : Addr) (w : World) (g0 : w.cell? ⟨0, 0, none⟩ = some (.iface 242 (.pointer (some a0))))
    (s0 : 2 ≤ s) (s1 : s ≤ 8) (b0 : s ≤ b) (b1 : b ≤ 30) (r0 : 0 ≤ r) (r1 : r ≤ 12) (h : p < r ∨ (r ≤ p ∧ 12 < p)) :
    Calls Tryz.prog 67 #[.agg #[.int .i64 s, .int .i64 p, .int .i64 b, .int .i64 r, .int .i64 d]] w fun e w' => (∃ q, e = .returned (chn [q] a0)) ∧ Below w.heap.size w w' := by
  have g3 := past6 g0
  clear g0
  rcases h with h | ⟨h0, h⟩
  all_goals
    go_enter Tryz.func67, Tryz.ntmps67
    go_wp2
    go_rounds 4
    go_ret
    refine ⟨⟨_, rfl⟩, ?_⟩
    go_grown

set_option maxRecDepth 100000 in
set_option maxHeartbeats 8000000 in
theorem check_bad5 (s p b r d : Int) (a0 : Addr) (w : World) (g0 : w.cell? ⟨0, 0, none⟩ = some (.iface 242 (.pointer (some a0))))
    (s0 : 2 ≤ s) (s1 : s ≤ 8) (b0 : s ≤ b) (b1 : b ≤ 30) (r0 : 0 ≤ r) (r1 : r ≤ 12) (p0 : r ≤ p) (p1 : p ≤ 12) (h : d < s ∨ (s ≤ d ∧ 100 < d)) :
    Calls Tryz.prog 67 #[.agg #[.int .i64 s, .int .i64 p, .int .i64 b, .int .i64 r, .int .i64 d]] w fun e w' => (∃ q, e = .returned (chn [q] a0)) ∧ Below w.heap.size w w' := by
  have g3 := past7 g0
  clear g0
  rcases h with h | ⟨h0, h⟩
  all_goals
    go_enter Tryz.func67, Tryz.ntmps67
    go_wp2
    go_rounds 5
    go_ret
    refine ⟨⟨_, rfl⟩, ?_⟩
    go_grown
end Go.Proofs.YtcnmajndackohaaGreatDoor
/-
  What Most does at any flow and any number of ticks.
-/
namespace Go.Proofs.YtcnmajndackohaaGreatDoor
open Go.RowKit

theorem check_bad (s p b r d : Int) (a0 : Addr) (w : World) (g0 : w.cell? ⟨0, 0, none⟩ = some (.iface 242 (.pointer (some a0)))) (h : ¬ May s p b r d) :
    Calls Tryz.prog 67 #[.agg #[.int .i64 s, .int .i64 p, .int .i64 b, .int .i64 r, .int .i64 d]] w fun e w' => (∃ q, e = .returned (chn [q] a0)) ∧ Below w.heap.size w w' := by
  by_cases h1 : 2 ≤ s ∧ s ≤ 8
  · by_cases h2 : s ≤ b ∧ b ≤ 30
    · by_cases h3 : 0 ≤ r ∧ r ≤ 12
      · by_cases h4 : r ≤ p ∧ p ≤ 12
        · by_cases h5 : s ≤ d ∧ d ≤ 100
          · exact absurd ⟨h1.1, h1.2, h2.1, h2.2, h3.1, h4.1, h4.2, h5.1, h5.2⟩ h
          · exact check_bad5 s p b r d a0 w g0 h1.1 h1.2 h2.1 h2.2 h3.1 h3.2 h4.1 h4.2 (by omega)
        · exact check_bad4 s p b r d a0 w g0 h1.1 h1.2 h2.1 h2.2 h3.1 h3.2 (by omega)
      · exact check_bad3 s p b r d a0 w g0 h1.1 h1.2 h2.1 h2.2 (by omega)
    · exact check_bad2 s p b r d a0 w g0 h1.1 h1.2 (by omega)
  · exact check_bad1 s p b r d a0 w g0 (by omega)

set_option maxHeartbeats 1000000 in
theorem in_chn (q : ByteArray) (l : List ByteArray) (a : Addr) (w : World) :
    Calls Tryz.prog 46 #[.string q, chn l a] w fun e w' => e = .returned (chn (q :: l) a) ∧ w' = w := by
  obtain ⟨T, x, hx⟩ := chn_form l a
  rw [hx]
  refine (in_some q T x w).mono ?_
  rintro e w' ⟨rfl, rfl⟩
  exact ⟨ret_val (by show plc q (.iface T x) = plc q (chn l a); rw [hx]), rfl⟩

set_option maxHeartbeats 1000000 in
theorem errno_arg (l : List ByteArray) (a0 a1 : Addr) (w : World) (hg : Gl w a0 a1) :
    Calls Tryz.prog 28 #[chn l a0] w fun e w' => e = .returned (.int .i64 1) ∧ Below w.heap.size w w' := by
  have g0 := hg.e0
  clear hg
  generalize hE : chn l a0 = E
  have HE := hide hE
  clear hE
  go_enter Tryz.func28, Tryz.ntmps28
  go_wp2_with fail
  rw [← unhide HE]
  refine (is_top l a0 _).mono ?_
  rintro e w1 ⟨rfl, hb⟩
  have HB := hide hb
  clear hb
  rw [unhide HE]
  go_wp2_with fail
  go_ret
  exact ⟨rfl, unhide HB⟩
set_option maxHeartbeats 1000000 in
theorem violation_arg (l : List ByteArray) (a0 a1 : Addr) (w : World) (hg : Gl w a0 a1) :
    Calls Tryz.prog 27 #[chn l a0] w fun e w' => e = .returned (.int .i64 0) ∧ Below w.heap.size w w' := by
  have HG := hide hg
  clear hg
  generalize hE : chn l a0 = E
  have HE := hide hE
  clear hE
  go_enter Tryz.func27, Tryz.ntmps27
  go_wp2_with fail
  rw [← unhide HE]
  refine (as_top l a0 w.heap.size _ ((unhide HG).below (bel_one _)).et).mono ?_
  rintro e w1 ⟨rfl, hb⟩
  have HB := hide (bel_then (bel_one _) hb)
  clear hb
  rw [unhide HE]
  go_wp2_with fail
  go_ret
  exact ⟨rfl, unhide HB⟩

set_option maxHeartbeats 1000000 in
theorem fmost_bad (s p b r d t : Int) (a0 a1 : Addr) (w : World) (hg : Gl w a0 a1) (h : ¬ May s p b r d) :
    Calls Tryz.prog 62 #[.agg #[.int .i64 s, .int .i64 p, .int .i64 b, .int .i64 r, .int .i64 d], .int .i64 t] w fun e w' => (∃ l, e = .returned (.tuple #[.int .i64 0, chn l a0])) ∧ Below w.heap.size w w' := by
  have HG := hide hg
  have HM := hide h
  clear hg h
  go_enter Tryz.func62, Tryz.ntmps62
  go_wp2_with fail
  refine (check_bad s p b r d a0 _ ((unhide HG).below (bel_one _)).e0 (unhide HM)).mono ?_
  rintro e w1 ⟨⟨q, rfl⟩, hb⟩
  have HB := hide (bel_then (bel_one _) hb)
  clear hb
  have HX := hide (fun q' => in_chn q' [q] a0)
  obtain ⟨T, x, hx⟩ := chn_form [q] a0
  rw [hx] at HX ⊢
  clear hx
  go_wp2_with fail
  refine (unhide HX _ _).mono ?_
  rintro e w2 ⟨rfl, rfl⟩
  generalize hE : chn [_, q] a0 = E
  have HE := hide hE
  clear hE
  go_wp2_with fail
  go_ret2
  exact ⟨⟨_, ret_val (by rw [← unhide HE]; rfl)⟩, unhide HB⟩

set_option maxHeartbeats 1000000 in
theorem fmost_late (s p b r d t : Int) (a0 a1 : Addr) (w : World) (hg : Gl w a0 a1) (h : May s p b r d) (t1 : 100000 < t) :
    Calls Tryz.prog 62 #[.agg #[.int .i64 s, .int .i64 p, .int .i64 b, .int .i64 r, .int .i64 d], .int .i64 t] w fun e w' => (∃ l, e = .returned (.tuple #[.int .i64 0, chn l a0])) ∧ Below w.heap.size w w' := by
  have HG := hide hg
  have HM := hide h
  clear hg h
  go_enter Tryz.func62, Tryz.ntmps62
  go_wp2_with fail
  refine (check_ok s p b r d _ (unhide HM)).mono ?_
  rintro e w1 ⟨rfl, hb⟩
  have HB := hide (bel_then (bel_one _) hb)
  have g0 := ((unhide HG).below (unhide HB)).e0
  clear hb
  have HX := hide (fun q' => in_chn q' [] a0)
  have HX2 := hide (fun q' q => in_chn q' [q] a0)
  go_wp2_with fail
  refine (unhide HX _ _).mono ?_
  rintro e w2 ⟨rfl, rfl⟩
  generalize hE : chn [_] a0 = E
  have HE := hide hE
  clear hE
  go_wp2_with fail
  rw [← unhide HE]
  refine (unhide HX2 _ _ _).mono ?_
  rintro e w3 ⟨rfl, rfl⟩
  rw [unhide HE]
  generalize hE2 : chn [_, _] a0 = E2
  have HE2 := hide hE2
  clear hE2
  go_wp2_with fail
  go_ret2
  exact ⟨⟨_, ret_val (by rw [← unhide HE2]; rfl)⟩, unhide HB⟩

set_option maxHeartbeats 1000000 in
theorem tmost_bad (s p b r d t : Int) (a0 a1 : Addr) (w : World) (hg : Gl w a0 a1) (h : ¬ (May s p b r d ∧ t ≤ 100000)) :
    Calls Tryz.prog 43 #[.agg #[.int .i64 s, .int .i64 p, .int .i64 b, .int .i64 r, .int .i64 d], .int .i64 t] w fun e w' => e = .returned (.tuple #[.int .i64 0, .int .i64 1]) ∧ Below w.heap.size w w' := by
  have HG := hide hg
  have HF := hide (show ∀ W, Gl W a0 a1 → Calls Tryz.prog 62 #[.agg #[.int .i64 s, .int .i64 p, .int .i64 b, .int .i64 r, .int .i64 d], .int .i64 t] W fun e w' => (∃ l, e = .returned (.tuple #[.int .i64 0, chn l a0])) ∧ Below W.heap.size W w' from fun W hW => by
    by_cases hm : May s p b r d
    · exact fmost_late s p b r d t a0 a1 W hW hm (by have : ¬ t ≤ 100000 := fun ht => h ⟨hm, ht⟩; omega)
    · exact fmost_bad s p b r d t a0 a1 W hW hm)
  clear hg h
  go_enter Tryz.func43, Tryz.ntmps43
  go_wp2_with fail
  refine (unhide HF _ ((unhide HG).below (bel_one _))).mono ?_
  rintro e w1 ⟨⟨l, rfl⟩, hb⟩
  have HB := hide (bel_then (bel_one _) hb)
  clear hb
  generalize hE : chn l a0 = E
  have HE := hide hE
  clear hE
  go_wp2_with fail
  rw [← unhide HE]
  refine (errno_arg l a0 a1 _ ((unhide HG).below (unhide HB))).mono ?_
  rintro e w2 ⟨rfl, hb⟩
  have HB2 := hide (bel_then (unhide HB) hb)
  clear hb
  go_wp2_with fail
  go_ret2
  exact ⟨rfl, unhide HB2⟩
end Go.Proofs.YtcnmajndackohaaGreatDoor
/-
  What the document's own answer does: E, May, Most.
-/
namespace Go.Proofs.YtcnmajndackohaaGreatDoor
open Go.RowKit

set_option maxHeartbeats 1000000 in
theorem rE_any (s p b r d t : Int) (w : World) (h : May s p b r d) (t1 : t ≤ 100000) :
    Calls Tryz.prog 99 #[.agg #[.int .i64 s, .int .i64 p, .int .i64 b, .int .i64 r, .int .i64 d], .int .i64 t] w fun e w' => e = .returned (.int .i64 (allow s p b r t)) ∧ Below w.heap.size w w' := by
  obtain ⟨s0, s1, b0, b1, r0, p0, p1, d0, d1⟩ := h
  by_cases h : t < 0
  · go_enter Tryz.func99, Tryz.ntmps99
    go_wp2
    go_ret
    exact ⟨ret_int (allow_neg _ _ _ _ _ h).symm, (Below.refl _ _).alloc (Nat.le_refl _) _⟩
  · have t0 : 0 ≤ t := by omega
    have m1 : 0 ≤ p * t := Int.mul_nonneg (by omega) t0
    have m2 : p * t ≤ 1200000 := by
      have := Int.mul_le_mul p1 t1 t0 (by decide); omega
    have m3 : 0 ≤ r * t := Int.mul_nonneg (by omega) t0
    have m4 : r * t ≤ 1200000 := by
      have := Int.mul_le_mul (show r ≤ 12 by omega) t1 t0 (by decide); omega
    go_enter Tryz.func99, Tryz.ntmps99
    go_wp2
    all_goals
      go_ret
      exact ⟨ret_int (by rw [allow_pos _ _ _ _ _ t0]; omega), (Below.refl _ _).alloc (Nat.le_refl _) _⟩

theorem val_bool {a b : Bool} (h : a = b) : Value.bool a = .bool b := by rw [h]
set_option maxHeartbeats 4000000 in
theorem rmay_any (f : Fl) (w : World) :
    Calls Tryz.prog 85 #[.agg #[.int .i64 f.s, .int .i64 f.p, .int .i64 f.b, .int .i64 f.r, .int .i64 f.d]] w fun e w' => e = .returned (.bool f.mayB) ∧ Below w.heap.size w w' := by
  obtain ⟨s, p, b, r, d⟩ := f
  have HM := hide (show Fl.mayB ⟨s, p, b, r, d⟩ = ((decide (2 ≤ s) && decide (s ≤ 8) && decide (s ≤ b) && decide (b ≤ 30)) && (decide (0 ≤ r) && decide (r ≤ 12) && decide (r ≤ p) && decide (p ≤ 12)) && decide (s ≤ d) && decide (d ≤ 100)) from rfl)
  generalize hA : (decide (2 ≤ s) && decide (s ≤ 8) && decide (s ≤ b) && decide (b ≤ 30)) = A at *
  generalize hB : (decide (0 ≤ r) && decide (r ≤ 12) && decide (r ≤ p) && decide (p ≤ 12)) = B at *
  have HA := hide hA
  have HB := hide hB
  clear hA hB
  go_enter Tryz.func85, Tryz.ntmps85
  go_upto_region 1 with fail
  go_cut [3] (fun x wq => x = .bool A ∧ wq = w.alloc (.cells #[.int .i64 s, .int .i64 p, .int .i64 b, .int .i64 r, .int .i64 d] 35))
  case first =>
    go_wp2_with fail
    all_goals
      go_meet
      case rel => exact ⟨val_bool (by rw [← unhide HA, Bool.eq_iff_iff]; simp; try omega), rfl⟩
  case rest =>
    obtain ⟨rfl, rfl⟩ := hcut
    go_upto_region 2 with fail
    go_cut [4] (fun x wq => x = .bool B ∧ wq = w.alloc (.cells #[.int .i64 s, .int .i64 p, .int .i64 b, .int .i64 r, .int .i64 d] 35))
    case first =>
      go_wp2_with fail
      all_goals
        go_meet
        case rel => exact ⟨val_bool (by rw [← unhide HB, Bool.eq_iff_iff]; simp; try omega), rfl⟩
    case rest =>
      obtain ⟨rfl, rfl⟩ := hcut
      cases A
      · go_wp2_with fail
        go_ret
        exact ⟨ret_bool (by rw [unhide HM]; rfl), (Below.refl _ _).alloc (Nat.le_refl _) _⟩
      · cases B
        · go_wp2_with fail
          go_ret
          exact ⟨ret_bool (by rw [unhide HM]; rfl), (Below.refl _ _).alloc (Nat.le_refl _) _⟩
        · go_wp2_with fail
          all_goals
            go_ret
            exact ⟨ret_bool (by rw [unhide HM, Bool.eq_iff_iff]; simp; try omega), (Below.refl _ _).alloc (Nat.le_refl _) _⟩

set_option maxHeartbeats 1000000 in
theorem rmost_yes (f : Fl) (t : Int) (w : World) (h : f.may) (t1 : t ≤ 100000) :
    Calls Tryz.prog 75 #[.agg #[.int .i64 f.s, .int .i64 f.p, .int .i64 f.b, .int .i64 f.r, .int .i64 f.d], .int .i64 t] w fun e w' => e = .returned (.tuple #[.int .i64 (allow f.s f.p f.b f.r t), .int .i64 0]) ∧ Below w.heap.size w w' := by
  have HM := hide h
  have hb := (mayB_iff f).2 h
  clear h
  go_enter Tryz.func75, Tryz.ntmps75
  go_wp2_with fail
  refine (rmay_any f _).mono ?_
  rintro e w1 ⟨rfl, hb1⟩
  rw [hb]
  obtain ⟨hc, hf⟩ := bcell hb1
  have hz : w.heap.size < w1.heap.size := by have := hb1.size; simp at this; omega
  have HB1 := hide (bel_then (bel_one _) hb1)
  clear hb1 hb
  go_wp2_with fail
  refine (rE_any f.s f.p f.b f.r f.d t _ (unhide HM) t1).mono ?_
  rintro e w2 ⟨rfl, hb2⟩
  have HB2 := hide (bel_then (unhide HB1) hb2)
  clear hb2
  go_wp2_with fail
  go_ret2
  exact ⟨rfl, unhide HB2⟩
set_option maxHeartbeats 1000000 in
theorem rmost_no (f : Fl) (t : Int) (w : World) (h : ¬ (f.may ∧ t ≤ 100000)) :
    Calls Tryz.prog 75 #[.agg #[.int .i64 f.s, .int .i64 f.p, .int .i64 f.b, .int .i64 f.r, .int .i64 f.d], .int .i64 t] w fun e w' => e = .returned (.tuple #[.int .i64 0, .int .i64 1]) ∧ Below w.heap.size w w' := by
  have hb : f.mayB = true → 100000 < t := fun hm => by
    have : ¬ t ≤ 100000 := fun ht => h ⟨(mayB_iff f).1 hm, ht⟩
    omega
  have HB := hide hb
  clear h hb
  go_enter Tryz.func75, Tryz.ntmps75
  go_wp2_with fail
  refine (rmay_any f _).mono ?_
  rintro e w1 ⟨rfl, hb1⟩
  have HB1 := hide (bel_then (bel_one _) hb1)
  clear hb1
  cases hm : f.mayB
  · clear hm
    go_wp2_with fail
    go_ret2
    exact ⟨rfl, unhide HB1⟩
  · have ht := unhide HB hm
    clear hm
    go_wp2_with fail
    go_ret2
    exact ⟨rfl, unhide HB1⟩
end Go.Proofs.YtcnmajndackohaaGreatDoor
