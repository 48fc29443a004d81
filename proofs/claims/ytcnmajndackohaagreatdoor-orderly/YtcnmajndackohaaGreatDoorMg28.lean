import Derived.Test.YtcnmajndackohaaGreatDoorMg27
import Derived.Test.YtcnmajndackohaaGreatDoorMg03
import Derived.Test.YtcnmajndackohaaGreatDoorMg06
import Derived.Deep.DeepCutAuto
import Derived.Test.YtcnmajndackohaaGreatDoorMg04
import Derived.Deep.DrawnRows
/-
  What Most does at any flow and any number of ticks.
-/
namespace Go.Proofs.YtcnmajndackohaaGreatDoor
open Go.RowKit

theorem check_bad (s p b r d : Int) (a0 : Addr) (w : World) (g0 : w.cell? ⟨0, 0, none⟩ = some (.iface 242 (.pointer (some a0)))) (h : ¬ May s p b r d) :
    Calls Tryz.prog 67 #[.agg #[.int .i64 s, .int .i64 p, .int .i64 b, .int .i64 r, .int .i64 d]] w fun e w' => (∃ q, e = .returned (chn [q] a0)) ∧ Below w.heap.size w w' := by
  by_cases h1 : 2 ≤ s ∧ s ≤ 8
  · by_cases h2 : s ≤ b ∧ b ≤ 30
    · by_cases h3 : 0 ≤ r ∧ r ≤ 12
      · by_cases h4 : r ≤ p ∧ p ≤ 12
        · by_cases h5 : s ≤ d ∧ d ≤ 100
          · exact absurd ⟨h1.1, h1.2, h2.1, h2.2, h3.1, h4.1, h4.2, h5.1, h5.2⟩ h
          · exact check_bad5 s p b r d a0 w g0 h1.1 h1.2 h2.1 h2.2 h3.1 h3.2 h4.1 h4.2 (by omega)
        · exact check_bad4 s p b r d a0 w g0 h1.1 h1.2 h2.1 h2.2 h3.1 h3.2 (by omega)
      · exact check_bad3 s p b r d a0 w g0 h1.1 h1.2 h2.1 h2.2 (by omega)
    · exact check_bad2 s p b r d a0 w g0 h1.1 h1.2 (by omega)
  · exact check_bad1 s p b r d a0 w g0 (by omega)

set_option maxHeartbeats 1000000 in
theorem in_chn (q : ByteArray) (l : List ByteArray) (a : Addr) (w : World) :
    Calls Tryz.prog 46 #[.string q, chn l a] w fun e w' => e = .returned (chn (q :: l) a) ∧ w' = w := by
  obtain ⟨T, x, hx⟩ := chn_form l a
  rw [hx]
  refine (in_some q T x w).mono ?_
  rintro e w' ⟨rfl, rfl⟩
  exact ⟨ret_val (by show plc q (.iface T x) = plc q (chn l a); rw [hx]), rfl⟩

set_option maxHeartbeats 1000000 in
theorem errno_arg (l : List ByteArray) (a0 a1 : Addr) (w : World) (hg : Gl w a0 a1) :
    Calls Tryz.prog 28 #[chn l a0] w fun e w' => e = .returned (.int .i64 1) ∧ Below w.heap.size w w' := by
  have g0 := hg.e0
  clear hg
  generalize hE : chn l a0 = E
  have HE := hide hE
  clear hE
  go_enter Tryz.func28, Tryz.ntmps28
  go_wp2_with fail
  rw [← unhide HE]
  refine (is_top l a0 _).mono ?_
  rintro e w1 ⟨rfl, hb⟩
  have HB := hide hb
  clear hb
  rw [unhide HE]
  go_wp2_with fail
  go_ret
  exact ⟨rfl, unhide HB⟩
set_option maxHeartbeats 1000000 in
theorem violation_arg (l : List ByteArray) (a0 a1 : Addr) (w : World) (hg : Gl w a0 a1) :
    Calls Tryz.prog 27 #[chn l a0] w fun e w' => e = .returned (.int .i64 0) ∧ Below w.heap.size w w' := by
  have HG := hide hg
  clear hg
  generalize hE : chn l a0 = E
  have HE := hide hE
  clear hE
  go_enter Tryz.func27, Tryz.ntmps27
  go_wp2_with fail
  rw [← unhide HE]
  refine (as_top l a0 w.heap.size _ ((unhide HG).below (bel_one _)).et).mono ?_
  rintro e w1 ⟨rfl, hb⟩
  have HB := hide (bel_then (bel_one _) hb)
  clear hb
  rw [unhide HE]
  go_wp2_with fail
  go_ret
  exact ⟨rfl, unhide HB⟩

set_option maxHeartbeats 1000000 in
theorem fmost_bad (s p b r d t : Int) (a0 a1 : Addr) (w : World) (hg : Gl w a0 a1) (h : ¬ May s p b r d) :
    Calls Tryz.prog 62 #[.agg #[.int .i64 s, .int .i64 p, .int .i64 b, .int .i64 r, .int .i64 d], .int .i64 t] w fun e w' => (∃ l, e = .returned (.tuple #[.int .i64 0, chn l a0])) ∧ Below w.heap.size w w' := by
  have HG := hide hg
  have HM := hide h
  clear hg h
  go_enter Tryz.func62, Tryz.ntmps62
  go_wp2_with fail
  refine (check_bad s p b r d a0 _ ((unhide HG).below (bel_one _)).e0 (unhide HM)).mono ?_
  rintro e w1 ⟨⟨q, rfl⟩, hb⟩
  have HB := hide (bel_then (bel_one _) hb)
  clear hb
  have HX := hide (fun q' => in_chn q' [q] a0)
  obtain ⟨T, x, hx⟩ := chn_form [q] a0
  rw [hx] at HX ⊢
  clear hx
  go_wp2_with fail
  refine (unhide HX _ _).mono ?_
  rintro e w2 ⟨rfl, rfl⟩
  generalize hE : chn [_, q] a0 = E
  have HE := hide hE
  clear hE
  go_wp2_with fail
  go_ret2
  exact ⟨⟨_, ret_val (by rw [← unhide HE]; rfl)⟩, unhide HB⟩

set_option maxHeartbeats 1000000 in
theorem fmost_late (s p b r d t : Int) (a0 a1 : Addr) (w : World) (hg : Gl w a0 a1) (h : May s p b r d) (t1 : 100000 < t) :
    Calls Tryz.prog 62 #[.agg #[.int .i64 s, .int .i64 p, .int .i64 b, .int .i64 r, .int .i64 d], .int .i64 t] w fun e w' => (∃ l, e = .returned (.tuple #[.int .i64 0, chn l a0])) ∧ Below w.heap.size w w' := by
  have HG := hide hg
  have HM := hide h
  clear hg h
  go_enter Tryz.func62, Tryz.ntmps62
  go_wp2_with fail
  refine (check_ok s p b r d _ (unhide HM)).mono ?_
  rintro e w1 ⟨rfl, hb⟩
  have HB := hide (bel_then (bel_one _) hb)
  have g0 := ((unhide HG).below (unhide HB)).e0
  clear hb
  have HX := hide (fun q' => in_chn q' [] a0)
  have HX2 := hide (fun q' q => in_chn q' [q] a0)
  go_wp2_with fail
  refine (unhide HX _ _).mono ?_
  rintro e w2 ⟨rfl, rfl⟩
  generalize hE : chn [_] a0 = E
  have HE := hide hE
  clear hE
  go_wp2_with fail
  rw [← unhide HE]
  refine (unhide HX2 _ _ _).mono ?_
  rintro e w3 ⟨rfl, rfl⟩
  rw [unhide HE]
  generalize hE2 : chn [_, _] a0 = E2
  have HE2 := hide hE2
  clear hE2
  go_wp2_with fail
  go_ret2
  exact ⟨⟨_, ret_val (by rw [← unhide HE2]; rfl)⟩, unhide HB⟩

set_option maxHeartbeats 1000000 in
theorem tmost_bad (s p b r d t : Int) (a0 a1 : Addr) (w : World) (hg : Gl w a0 a1) (h : ¬ (May s p b r d ∧ t ≤ 100000)) :
    Calls Tryz.prog 43 #[.agg #[.int .i64 s, .int .i64 p, .int .i64 b, .int .i64 r, .int .i64 d], .int .i64 t] w fun e w' => e = .returned (.tuple #[.int .i64 0, .int .i64 1]) ∧ Below w.heap.size w w' := by
  have HG := hide hg
  have HF := hide (show ∀ W, Gl W a0 a1 → Calls Tryz.prog 62 #[.agg #[.int .i64 s, .int .i64 p, .int .i64 b, .int .i64 r, .int .i64 d], .int .i64 t] W fun e w' => (∃ l, e = .returned (.tuple #[.int .i64 0, chn l a0])) ∧ Below W.heap.size W w' from fun W hW => by
    by_cases hm : May s p b r d
    · exact fmost_late s p b r d t a0 a1 W hW hm (by have : ¬ t ≤ 100000 := fun ht => h ⟨hm, ht⟩; omega)
    · exact fmost_bad s p b r d t a0 a1 W hW hm)
  clear hg h
  go_enter Tryz.func43, Tryz.ntmps43
  go_wp2_with fail
  refine (unhide HF _ ((unhide HG).below (bel_one _))).mono ?_
  rintro e w1 ⟨⟨l, rfl⟩, hb⟩
  have HB := hide (bel_then (bel_one _) hb)
  clear hb
  generalize hE : chn l a0 = E
  have HE := hide hE
  clear hE
  go_wp2_with fail
  rw [← unhide HE]
  refine (errno_arg l a0 a1 _ ((unhide HG).below (unhide HB))).mono ?_
  rintro e w2 ⟨rfl, hb⟩
  have HB2 := hide (bel_then (unhide HB) hb)
  clear hb
  go_wp2_with fail
  go_ret2
  exact ⟨rfl, unhide HB2⟩
end Go.Proofs.YtcnmajndackohaaGreatDoor
/-
  What the document's own answer does: E, May, Most.
-/
namespace Go.Proofs.YtcnmajndackohaaGreatDoor
open Go.RowKit

set_option maxHeartbeats 1000000 in
theorem rE_any (s p b r d t : Int) (w : World) (h : May s p b r d) (t1 : t ≤ 100000) :
    Calls Tryz.prog 99 #[.agg #[.int .i64 s, .int .i64 p, .int .i64 b, .int .i64 r, .int .i64 d], .int .i64 t] w fun e w' => e = .returned (.int .i64 (allow s p b r t)) ∧ Below w.heap.size w w' := by
  obtain ⟨s0, s1, b0, b1, r0, p0, p1, d0, d1⟩ := h
  by_cases h : t < 0
  · go_enter Tryz.func99, Tryz.ntmps99
    go_wp2
    go_ret
    exact ⟨ret_int (allow_neg _ _ _ _ _ h).symm, (Below.refl _ _).alloc (Nat.le_refl _) _⟩
  · have t0 : 0 ≤ t := by omega
    have m1 : 0 ≤ p * t := Int.mul_nonneg (by omega) t0
    have m2 : p * t ≤ 1200000 := by
      have := Int.mul_le_mul p1 t1 t0 (by decide); omega
    have m3 : 0 ≤ r * t := Int.mul_nonneg (by omega) t0
    have m4 : r * t ≤ 1200000 := by
      have := Int.mul_le_mul (show r ≤ 12 by omega) t1 t0 (by decide); omega
    go_enter Tryz.func99, Tryz.ntmps99
    go_wp2
    all_goals
      go_ret
      exact ⟨ret_int (by rw [allow_pos _ _ _ _ _ t0]; omega), (Below.refl _ _).alloc (Nat.le_refl _) _⟩

theorem val_bool {a b : Bool} (h : a = b) : Value.bool a = .bool b := by rw [h]
set_option maxHeartbeats 4000000 in
theorem rmay_any (f : Fl) (w : World) :
    Calls Tryz.prog 85 #[.agg #[.int .i64 f.s, .int .i64 f.p, .int .i64 f.b, .int .i64 f.r, .int .i64 f.d]] w fun e w' => e = .returned (.bool f.mayB) ∧ Below w.heap.size w w' := by
  obtain ⟨s, p, b, r, d⟩ := f
  have HM := hide (show Fl.mayB ⟨s, p, b, r, d⟩ = ((decide (2 ≤ s) && decide (s ≤ 8) && decide (s ≤ b) && decide (b ≤ 30)) && (decide (0 ≤ r) && decide (r ≤ 12) && decide (r ≤ p) && decide (p ≤ 12)) && decide (s ≤ d) && decide (d ≤ 100)) from rfl)
  generalize hA : (decide (2 ≤ s) && decide (s ≤ 8) && decide (s ≤ b) && decide (b ≤ 30)) = A at *
  generalize hB : (decide (0 ≤ r) && decide (r ≤ 12) && decide (r ≤ p) && decide (p ≤ 12)) = B at *
  have HA := hide hA
  have HB := hide hB
  clear hA hB
  go_enter Tryz.func85, Tryz.ntmps85
  go_upto_region 1 with fail
  go_cut [3] (fun x wq => x = .bool A ∧ wq = w.alloc (.cells #[.int .i64 s, .int .i64 p, .int .i64 b, .int .i64 r, .int .i64 d] 35))
  case first =>
    go_wp2_with fail
    all_goals
      go_meet
      case rel => exact ⟨val_bool (by rw [← unhide HA, Bool.eq_iff_iff]; simp; try omega), rfl⟩
  case rest =>
    obtain ⟨rfl, rfl⟩ := hcut
    go_upto_region 2 with fail
    go_cut [4] (fun x wq => x = .bool B ∧ wq = w.alloc (.cells #[.int .i64 s, .int .i64 p, .int .i64 b, .int .i64 r, .int .i64 d] 35))
    case first =>
      go_wp2_with fail
      all_goals
        go_meet
        case rel => exact ⟨val_bool (by rw [← unhide HB, Bool.eq_iff_iff]; simp; try omega), rfl⟩
    case rest =>
      obtain ⟨rfl, rfl⟩ := hcut
      cases A
      · go_wp2_with fail
        go_ret
        exact ⟨ret_bool (by rw [unhide HM]; rfl), (Below.refl _ _).alloc (Nat.le_refl _) _⟩
      · cases B
        · go_wp2_with fail
          go_ret
          exact ⟨ret_bool (by rw [unhide HM]; rfl), (Below.refl _ _).alloc (Nat.le_refl _) _⟩
        · go_wp2_with fail
          all_goals
            go_ret
            exact ⟨ret_bool (by rw [unhide HM, Bool.eq_iff_iff]; simp; try omega), (Below.refl _ _).alloc (Nat.le_refl _) _⟩

set_option maxHeartbeats 1000000 in
theorem rmost_yes (f : Fl) (t : Int) (w : World) (h : f.may) (t1 : t ≤ 100000) :
    Calls Tryz.prog 75 #[.agg #[.int .i64 f.s, .int .i64 f.p, .int .i64 f.b, .int .i64 f.r, .int .i64 f.d], .int .i64 t] w fun e w' => e = .returned (.tuple #[.int .i64 (allow f.s f.p f.b f.r t), .int .i64 0]) ∧ Below w.heap.size w w' := by
  have HM := hide h
  have hb := (mayB_iff f).2 h
  clear h
  go_enter Tryz.func75, Tryz.ntmps75
  go_wp2_with fail
  refine (rmay_any f _).mono ?_
  rintro e w1 ⟨rfl, hb1⟩
  rw [hb]
  obtain ⟨hc, hf⟩ := bcell hb1
  have hz : w.heap.size < w1.heap.size := by have := hb1.size; simp at this; omega
  have HB1 := hide (bel_then (bel_one _) hb1)
  clear hb1 hb
  go_wp2_with fail
  refine (rE_any f.s f.p f.b f.r f.d t _ (unhide HM) t1).mono ?_
  rintro e w2 ⟨rfl, hb2⟩
  have HB2 := hide (bel_then (unhide HB1) hb2)
  clear hb2
  go_wp2_with fail
  go_ret2
  exact ⟨rfl, unhide HB2⟩
set_option maxHeartbeats 1000000 in
theorem rmost_no (f : Fl) (t : Int) (w : World) (h : ¬ (f.may ∧ t ≤ 100000)) :
    Calls Tryz.prog 75 #[.agg #[.int .i64 f.s, .int .i64 f.p, .int .i64 f.b, .int .i64 f.r, .int .i64 f.d], .int .i64 t] w fun e w' => e = .returned (.tuple #[.int .i64 0, .int .i64 1]) ∧ Below w.heap.size w w' := by
  have hb : f.mayB = true → 100000 < t := fun hm => by
    have : ¬ t ≤ 100000 := fun ht => h ⟨(mayB_iff f).1 hm, ht⟩
    omega
  have HB := hide hb
  clear h hb
  go_enter Tryz.func75, Tryz.ntmps75
  go_wp2_with fail
  refine (rmay_any f _).mono ?_
  rintro e w1 ⟨rfl, hb1⟩
  have HB1 := hide (bel_then (bel_one _) hb1)
  clear hb1
  cases hm : f.mayB
  · clear hm
    go_wp2_with fail
    go_ret2
    exact ⟨rfl, unhide HB1⟩
  · have ht := unhide HB hm
    clear hm
    go_wp2_with fail
    go_ret2
    exact ⟨rfl, unhide HB1⟩
end Go.Proofs.YtcnmajndackohaaGreatDoor
/-
  What the document's own answer does: all, Violation, Test.
-/
namespace Go.Proofs.YtcnmajndackohaaGreatDoor
open Go.RowKit
attribute [local go_sem ↓] Go.wp_at_zero Go.wp_at_succ

set_option maxHeartbeats 2000000 in
theorem rall_some (b o c : Nat) (l : List Fl) (w : World) (hw : Lies w b o l) (hl : l.length ≤ maxLen) :
    Calls Tryz.prog 54 #[.slice (some ⟨b, o, none⟩) l.length c] w fun e w' => e = .returned (.bool (allB l)) ∧ Below w.heap.size w w' := by
  unfold maxLen at hl
  have HW := hide hw
  clear hw
  have HA := hide (show allB l = (l.all Fl.mayB && decide (l.length ≤ 6)) from rfl)
  generalize hn : l.length = n at *
  have HN := hide hn
  have hn1 : (n : Int) ≤ 9223372036854775807 := by omega
  clear hn hl
  go_enter Tryz.func54, Tryz.ntmps54
  go_wp2_with fail
  go_loopw [3] (fun i wr => ∃ k : Nat, k ≤ n ∧ i = .int .i64 k ∧ (l.take k).all Fl.mayB = true ∧ Below w.heap.size w wr) (fun i _ => n - (intOf i).toNat)
  case atStart => exact ⟨0, Nat.zero_le _, rfl, rfl, Below.refl _ _⟩
  case round =>
    obtain ⟨k, hk, rfl, hall, hbel⟩ := hrel
    have HAll := hide hall
    clear hall
    by_cases hlt : k < n
    · have hkl : k < l.length := by rw [unhide HN]; exact hlt
      have hL := (unhide HW).below hbel
      have q0 := hL.c0 k hkl
      have q1 := hL.c1 k hkl
      have q2 := hL.c2 k hkl
      have q3 := hL.c3 k hkl
      have q4 := hL.c4 k hkl
      have hbw := hL.blk
      have hHB := hide hbel
      have HT := hide (all_take_succ l k hkl)
      have HF := hide (all_false hkl)
      clear hL hbel
      generalize hf : l[k] = f at *
      clear hf
      go_wp2_with fail
      refine (rmay_any f _).mono ?_
      rintro e w1 ⟨rfl, hb1⟩
      have HB1 := hide (bel_then (unhide hHB) hb1)
      clear hb1 q0 q1 q2 q3 q4
      cases hm : f.mayB
      · have HM := hide hm
        clear hm
        go_wp2_with fail
        go_ret
        exact ⟨ret_bool (by rw [unhide HA, unhide HF (unhide HM)]; rfl), unhide HB1⟩
      · have HM := hide hm
        clear hm
        go_wp2_with fail
        go_roundw
        case rel => exact ⟨k + 1, by omega, by go_num, by rw [unhide HT, unhide HAll, unhide HM]; rfl, unhide HB1⟩
        case measure => simp [intOf]; omega
    · have hkn : k = n := by omega
      subst hkn
      have HBel := hide hbel
      clear hbel
      have hT : l.all Fl.mayB = true := by
        have := unhide HAll
        rwa [List.take_of_length_le (by rw [unhide HN]; exact Nat.le_refl _)] at this
      have HTT := hide hT
      clear hT
      by_cases h6 : k ≤ 6
      · have hd : decide ((k : Int) ≤ 6) = true := by simp; omega
        go_wp2_with fail
        go_ret
        exact ⟨ret_bool (by rw [unhide HA, unhide HTT, decide_eq_true h6]; simp; try omega), unhide HBel⟩
      · have hd : decide ((k : Int) ≤ 6) = false := by simp; omega
        go_wp2_with fail
        go_ret
        exact ⟨ret_bool (by rw [unhide HA, unhide HTT, decide_eq_false h6]; simp; try omega), unhide HBel⟩
set_option maxHeartbeats 1000000 in
theorem rall_nil (a : Option Addr) (c : Nat) (w : World) :
    Calls Tryz.prog 54 #[.slice a 0 c] w fun e w' => e = .returned (.bool true) ∧ w' = w := by
  go_enter Tryz.func54, Tryz.ntmps54
  go_wp2_with fail
  go_rounds 1
  go_ret
  exact ⟨rfl, rfl⟩
theorem rall_F (v : Value) (l : List Fl) (w : World) (hw : Fls w v l) (hl : l.length ≤ maxLen) :
    Calls Tryz.prog 54 #[v] w fun e w' => e = .returned (.bool (allB l)) ∧ Below w.heap.size w w' := by
  rcases hw with ⟨rfl, a, c, rfl⟩ | ⟨b, o, c, rfl, h⟩
  · refine (rall_nil a c w).mono ?_
    rintro e w' ⟨rfl, rfl⟩
    exact ⟨rfl, Below.refl _ _⟩
  · exact rall_some b o c l w h hl

theorem heldR_below {w0 W w1 : World} {g o : Nat} {c0 c1 c2 c3 c4 : Value} (hb : Below W.heap.size W w1)
    (h : W.cell? ⟨g, o, none⟩ = some c0 ∧ W.cell? ⟨g, o + 1, none⟩ = some c1 ∧ W.cell? ⟨g, o + 2, none⟩ = some c2 ∧ W.cell? ⟨g, o + 3, none⟩ = some c3 ∧ W.cell? ⟨g, o + 4, none⟩ = some c4 ∧ g < W.heap.size ∧ Below w0.heap.size w0 W) :
    w1.cell? ⟨g, o, none⟩ = some c0 ∧ w1.cell? ⟨g, o + 1, none⟩ = some c1 ∧ w1.cell? ⟨g, o + 2, none⟩ = some c2 ∧ w1.cell? ⟨g, o + 3, none⟩ = some c3 ∧ w1.cell? ⟨g, o + 4, none⟩ = some c4 ∧ g < w1.heap.size ∧ Below w0.heap.size w0 w1 := by
  obtain ⟨h0, h1, h2, h3, h4, h5, h7⟩ := h
  obtain ⟨hc, _⟩ := bcell hb
  have := hb.size
  exact ⟨(hc _ _ h5).trans h0, (hc _ _ h5).trans h1, (hc _ _ h5).trans h2, (hc _ _ h5).trans h3, (hc _ _ h5).trans h4, by omega, bel_then h7 hb⟩
theorem heldR_drew {w0 W : World} {g o : Nat} {c0 c1 c2 c3 c4 : Value}
    (h0 : W.cell? ⟨g, o, none⟩ = some c0) (h1 : W.cell? ⟨g, o + 1, none⟩ = some c1) (h2 : W.cell? ⟨g, o + 2, none⟩ = some c2) (h3 : W.cell? ⟨g, o + 3, none⟩ = some c3) (h4 : W.cell? ⟨g, o + 4, none⟩ = some c4) (h5 : g < W.heap.size) (h7 : Below w0.heap.size w0 W) :
    W.drew.cell? ⟨g, o, none⟩ = some c0 ∧ W.drew.cell? ⟨g, o + 1, none⟩ = some c1 ∧ W.drew.cell? ⟨g, o + 2, none⟩ = some c2 ∧ W.drew.cell? ⟨g, o + 3, none⟩ = some c3 ∧ W.drew.cell? ⟨g, o + 4, none⟩ = some c4 ∧ g < W.drew.heap.size ∧ Below w0.heap.size w0 W.drew :=
  ⟨h0, h1, h2, h3, h4, h5, h7.drew⟩

set_option maxRecDepth 100000 in
set_option maxHeartbeats 4000000 in
theorem rviol_some (g o c : Nat) (l : List Fl) (w : World) (hl : l.length ≤ 6) (hw : Lies w g o l) (hm : ∀ f ∈ l, f.may) :
    Calls Tryz.prog 100 #[.slice (some ⟨g, o, none⟩) l.length c] w fun e w' => e = .returned (.int .i64 (seek l 7000 1)) ∧ Below w.heap.size w w' := by
  have HM := hide hm
  have HW := hide hw
  clear hm hw
  generalize hn : l.length = n at *
  have HN := hide hn
  clear hn
  generalize hV : seek l 7000 1 = V
  have HV := hide hV
  clear hV
  go_enter Tryz.func100, Tryz.ntmps100
  go_wp2_with fail
  go_loopw [3] (fun i wr => ∃ k m : Nat, k + m = 7000 ∧ i = .int .i64 ((k : Int) + 1) ∧ V = seek l m ((k : Int) + 1) ∧ Below w.heap.size w wr) (fun i _ => 7001 - (intOf i).toNat)
  case atStart => exact ⟨0, 7000, rfl, rfl, (unhide HV).symm, Below.refl _ _⟩
  case round =>
    obtain ⟨k, m, hkm, rfl, hs, hbel⟩ := hrel
    have HK := hide hkm
    have HS := hide hs
    have HBel := hide hbel
    have hk : (k : Int) ≤ 7000 := by omega
    clear hs hbel
    cases m with
    | zero =>
      have hge : ¬ (k : Int) + 1 ≤ 7000 := by omega
      clear hkm
      go_wp2_with fail
      go_ret
      exact ⟨ret_int (by rw [unhide HS]; rfl), unhide HBel⟩
    | succ m =>
      have hlt : (k : Int) < 7000 := by omega
      clear hkm
      have ht0 : 1 ≤ (k : Int) + 1 := by omega
      have ht1 : (k : Int) + 1 ≤ 7000 := by omega
      generalize hT : (k : Int) + 1 = t at *
      have HT := hide hT
      clear hT hlt hk
      go_wp2_with fail
      go_loopw [4, 5] (fun s i wy => ∃ j : Nat, j ≤ n ∧ i = .int .i64 j ∧ s = .int .i64 (tot t (l.take j)) ∧ Below w.heap.size w wy) (fun _ i _ => n - (intOf i).toNat)
      case atStart => exact ⟨0, Nat.zero_le _, rfl, rfl, unhide HBel⟩
      case round =>
        obtain ⟨j, hj, rfl, rfl, hbel⟩ := hrel
        by_cases hlt : j < n
        · have hjl : j < l.length := by rw [unhide HN]; exact hlt
          have hmay := unhide HM l[j] (List.getElem_mem hjl)
          have hb := tot_bd (l := l.take j) (fun f hf => unhide HM f (List.mem_of_mem_take hf)) t (by omega)
          have hlen : (l.take j).length ≤ 6 := by have := List.length_take_le j l; omega
          have heb := e_bd hmay t (by omega)
          have hL := (unhide HW).below hbel
          have q0 := hL.c0 j hjl
          have q1 := hL.c1 j hjl
          have q2 := hL.c2 j hjl
          have q3 := hL.c3 j hjl
          have q4 := hL.c4 j hjl
          have q5 := hL.blk
          have HTS := hide (tot_take_succ t l j hjl)
          have HY := hide hmay
          have HB := hide hbel
          have hi0 : (0 : Int) ≤ (j : Int) := Int.natCast_nonneg _
          have hi1 : (j : Int) < (n : Int) := by omega
          obtain ⟨_, _, _, _, _, _, _, dd0, dd1⟩ := hmay
          clear hL hbel
          generalize hf : l[j] = f at *
          clear hf
          unfold Fl.e at heb
          generalize tot t (l.take j) = S1 at *
          have e1 : IntKind.i64.wrap (t - f.d) = t - f.d := by go_arith
          have e3 : IntKind.i64.wrap (S1 + allow f.s f.p f.b f.r (t - f.d)) = S1 + allow f.s f.p f.b f.r (t - f.d) := by go_arith
          go_wp2_with fail
          go_region_held3 (fun w' => w'.cell? ⟨g, o + j * 5, none⟩ = some (.int .i64 f.s) ∧ w'.cell? ⟨g, o + j * 5 + 1, none⟩ = some (.int .i64 f.p) ∧ w'.cell? ⟨g, o + j * 5 + 2, none⟩ = some (.int .i64 f.b) ∧ w'.cell? ⟨g, o + j * 5 + 3, none⟩ = some (.int .i64 f.r) ∧ w'.cell? ⟨g, o + j * 5 + 4, none⟩ = some (.int .i64 f.d) ∧ g < w'.heap.size ∧ Below w.heap.size w w')
            (first | exact heldR_below (by assumption) (by assumption) | exact heldR_drew q0 q1 q2 q3 q4 q5 (unhide HB))
            (first | (go_at_call 99; refine (rE_any f.s f.p f.b f.r f.d (t - f.d) _ (unhide HY) (by omega)).mono ?_; rintro e w' ⟨rfl, hb'⟩))
          rename_i hH
          have HH := hide hH.2.2.2.2.2.2
          clear hH hb' q0 q1 q2 q3 q4 q5 HB
          go_wp2_with fail
          go_roundw
          case rel => exact ⟨j + 1, by omega, by go_num, by rw [unhide HTS]; rfl, unhide HH⟩
          case measure => simp [intOf]; omega
        · have hjn : j = n := by omega
          subst hjn
          have hTT : tot t (l.take j) = tot t l := by rw [List.take_of_length_le (by rw [unhide HN]; exact Nat.le_refl _)]
          rw [hTT]
          have hb := tot_bd (unhide HM) t (by omega)
          rw [unhide HN] at hb
          have HVV := hide (show vioB l t = (decide (0 < tot t l) && decide (t < tot t l + 7)) from rfl)
          have HBe := hide hbel
          clear hTT hbel hlt
          generalize tot t l = S at *
          have hyes : vioB l t = true → V = t := fun h => by rw [unhide HS, seek_step_yes h]
          have hno : vioB l t = false → V = seek l m (t + 1) := fun h => by rw [unhide HS, seek_step_no h]
          have HYes := hide hyes
          have HNo := hide hno
          clear hyes hno
          by_cases g0 : 0 < S
          · by_cases g1 : t < S + 7
            · have gd : decide (t < S + 7) = true := by simpa using g1
              go_wp2_with fail
              go_ret
              exact ⟨ret_int (unhide HYes (by rw [unhide HVV, decide_eq_true g0, gd]; rfl)).symm, unhide HBe⟩
            · have gd : decide (t < S + 7) = false := by simpa using g1
              go_wp2_with fail
              go_roundw
              case rel => exact ⟨k + 1, m, by have := unhide HK; omega, by rw [← unhide HT]; go_num, by rw [unhide HNo (by rw [unhide HVV, decide_eq_true g0, gd]; rfl), ← unhide HT]; rfl, unhide HBe⟩
              case measure => have := unhide HT; simp [intOf]; omega
          · have gd : decide (0 < S) = false := by simpa using g0
            go_wp2_with fail
            go_roundw
            case rel => exact ⟨k + 1, m, by have := unhide HK; omega, by rw [← unhide HT]; go_num, by rw [unhide HNo (by rw [unhide HVV, gd]; rfl), ← unhide HT]; rfl, unhide HBe⟩
            case measure => have := unhide HT; simp [intOf]; omega

set_option maxRecDepth 100000 in
set_option maxHeartbeats 2000000 in
theorem rviol_nil (a : Option Addr) (c : Nat) (w : World) :
    Calls Tryz.prog 100 #[.slice a 0 c] w fun e w' => e = .returned (.int .i64 0) ∧ w' = w := by
  go_enter Tryz.func100, Tryz.ntmps100
  go_wp2_with fail
  go_loop [3] (fun i => ∃ k : Nat, k ≤ 7000 ∧ i = .int .i64 ((k : Int) + 1)) (fun i => 7001 - (intOf i).toNat)
  case atStart => exact ⟨0, Nat.zero_le _, rfl⟩
  case round =>
    obtain ⟨k, hk, rfl⟩ := hrel
    by_cases hlt : (k : Int) < 7000
    · go_wp2_with fail
      go_rounds 1
      go_round
      case rel => exact ⟨k + 1, by omega, by go_num⟩
      case measure => simp [intOf]; omega
    · have hge : ¬ (k : Int) + 1 ≤ 7000 := by omega
      go_wp2_with fail
      go_ret
      exact ⟨rfl, rfl⟩
theorem rviol_F (v : Value) (l : List Fl) (w : World) (hw : Fls w v l) (hl : l.length ≤ 6) (hm : ∀ f ∈ l, f.may) :
    Calls Tryz.prog 100 #[v] w fun e w' => e = .returned (.int .i64 (viol l)) ∧ Below w.heap.size w w' := by
  rcases hw with ⟨rfl, a, c, rfl⟩ | ⟨b, o, c, rfl, h⟩
  · refine (rviol_nil a c w).mono ?_
    rintro e w' ⟨rfl, rfl⟩
    refine ⟨ret_int ?_, Below.refl _ _⟩
    rcases viol_spec [] with ⟨h, _⟩ | ⟨_, _, h, _⟩
    · exact h.symm
    · simp [vioB, tot] at h
  · have := rviol_some b o c l w hl h hm
    rw [seek_far hm] at this
    exact this

/-- What the document answers. -/
def tans (l : List Fl) : Int := if allB l = true then viol l else 0
def terr (l : List Fl) : Int := if allB l = true then (if viol l = 0 then 0 else 3) else 1
set_option maxHeartbeats 2000000 in
theorem rtest_any (v : Value) (l : List Fl) (w : World) (hw : Fls w v l) (hl : l.length ≤ maxLen) :
    Calls Tryz.prog 76 #[v] w fun e w' => e = .returned (.tuple #[.int .i64 (tans l), .int .i64 (terr l)]) ∧ Below w.heap.size w w' := by
  have HW := hide hw
  have HL := hide hl
  clear hw hl
  go_enter Tryz.func76, Tryz.ntmps76
  go_wp2_with fail
  refine (rall_F v l _ (unhide HW) (unhide HL)).mono ?_
  rintro e w1 ⟨rfl, hb⟩
  have HB := hide hb
  clear hb
  cases ha : allB l
  · have HA := hide ha
    clear ha
    go_wp2_with fail
    go_ret2
    exact ⟨ret_val (by unfold tans terr; rw [unhide HA]; rfl), unhide HB⟩
  · have HA := hide ha
    have hp : l.all Fl.mayB = true ∧ l.length ≤ 6 := by
      unfold allB at ha
      simpa using ha
    have HP := hide hp
    clear ha hp
    go_wp2_with fail
    refine (rviol_F v l _ ((unhide HW).below (unhide HB)) (unhide HP).2 (all_may (unhide HP).1)).mono ?_
    rintro e w2 ⟨rfl, hb⟩
    have HB2 := hide (bel_then (unhide HB) hb)
    clear hb
    have hr := viol_range l
    have HX := hide (show tans l = viol l from by unfold tans; rw [unhide HA]; rfl)
    have HY := hide (show terr l = if viol l = 0 then 0 else 3 from by unfold terr; rw [unhide HA]; rfl)
    generalize viol l = V at *
    by_cases h0 : V = 0
    · subst h0
      go_wp2_with fail
      go_ret2
      exact ⟨ret_val (by rw [unhide HX, unhide HY]; rfl), unhide HB2⟩
    · have hp : 0 < V := by omega
      have HN := hide h0
      clear h0
      go_wp2_with fail
      go_ret2
      exact ⟨ret_val (by rw [unhide HX, unhide HY, if_neg (unhide HN)]; rfl), unhide HB2⟩
end Go.Proofs.YtcnmajndackohaaGreatDoor
