import Derived.Test.YtcnmajndackohaaGreatDoorMg05
import Derived.Deep.DeepCutAuto
import Derived.Deep.DrawnRows
import Derived.Shelf.Small.Bits
import Derived.Shelf.Small.Wraps
import Derived.Shelf.Strconv.Itoa0
import Derived.Shelf.Strconv.Itoa1
import Derived.Shelf.LaysM
import Derived.Shelf.Strconv.Itoa2
import Derived.Shelf.Strconv.Itoa3
import Derived.Test.YtcnmajndackohaaGreatDoorProg
import Derived.Test.YtcnmajndackohaaGreatDoorMg08
import Derived.Deep.RegionLaw
import Derived.Test.YtcnmajndackohaaGreatDoorMg07
/-
  What the document's own answer does: E, May, Most.
-/
namespace Go.Proofs.YtcnmajndackohaaGreatDoor
open Go.RowKit
set_option maxHeartbeats 1000000 in
theorem rE_any (s p b r d t : Int) (w : World) (h : May s p b r d) (t1 : t ≤ 100000) :
    Calls Tryz.prog 99 #[.agg #[.int .i64 s, .int .i64 p, .int .i64 b, .int .i64 r, .int .i64 d], .int .i64 t] w fun e w' => e = .returned (.int .i64 (allow s p b r t)) ∧ Below w.heap.size w w' := by
  obtain ⟨s0, s1, b0, b1, r0, p0, p1, d0, d1⟩ := h
  by_cases h : t < 0
  · go_enter Tryz.func99, Tryz.ntmps99
    go_wp2
    go_ret
    exact ⟨ret_int (allow_neg _ _ _ _ _ h).symm, (Below.refl _ _).alloc (Nat.le_refl _) _⟩
  · have t0 : 0 ≤ t := by omega
    have m1 : 0 ≤ p * t := Int.mul_nonneg (by omega) t0
    have m2 : p * t ≤ 1200000 := by
      have := Int.mul_le_mul p1 t1 t0 (by decide); omega
    have m3 : 0 ≤ r * t := Int.mul_nonneg (by omega) t0
    have m4 : r * t ≤ 1200000 := by
      have := Int.mul_le_mul (show r ≤ 12 by omega) t1 t0 (by decide); omega
    go_enter Tryz.func99, Tryz.ntmps99
    go_wp2
    all_goals
      go_ret
      exact ⟨ret_int (by rw [allow_pos _ _ _ _ _ t0]; omega), (Below.refl _ _).alloc (Nat.le_refl _) _⟩
theorem val_bool {a b : Bool} (h : a = b) : Value.bool a = .bool b := by rw [h]
set_option maxHeartbeats 4000000 in
theorem rmay_any (f : Fl) (w : World) :
    Calls Tryz.prog 85 #[.agg #[.int .i64 f.s, .int .i64 f.p, .int .i64 f.b, .int .i64 f.r, .int .i64 f.d]] w fun e w' => e = .returned (.bool f.mayB) ∧ Below w.heap.size w w' := by
  obtain ⟨s, p, b, r, d⟩ := f
  have HM := hide (show Fl.mayB ⟨s, p, b, r, d⟩ = ((decide (2 ≤ s) && decide (s ≤ 8) && decide (s ≤ b) && decide (b ≤ 30)) && (decide (0 ≤ r) && decide (r ≤ 12) && decide (r ≤ p) && decide (p ≤ 12)) && decide (s ≤ d) && decide (d ≤ 100)) from rfl)
  generalize hA : (decide (2 ≤ s) && decide (s ≤ 8) && decide (s ≤ b) && decide (b ≤ 30)) = A at *
  generalize hB : (decide (0 ≤ r) && decide (r ≤ 12) && decide (r ≤ p) && decide (p ≤ 12)) = B at *
  have HA := hide hA
  have HB := hide hB
  clear hA hB
  go_enter Tryz.func85, Tryz.ntmps85
  go_upto_region 1 with fail
  go_cut [3] (fun x wq => x = .bool A ∧ wq = w.alloc (.cells #[.int .i64 s, .int .i64 p, .int .i64 b, .int .i64 r, .int .i64 d] 35))
  case first =>
    go_wp2_with fail
    all_goals
      go_meet
      case rel => exact ⟨val_bool (by rw [← unhide HA, Bool.eq_iff_iff]; simp; try omega), rfl⟩
  case rest =>
    obtain ⟨rfl, rfl⟩ := hcut
    go_upto_region 2 with fail
    go_cut [4] (fun x wq => x = .bool B ∧ wq = w.alloc (.cells #[.int .i64 s, .int .i64 p, .int .i64 b, .int .i64 r, .int .i64 d] 35))
    case first =>
      go_wp2_with fail
      all_goals
        go_meet
        case rel => exact ⟨val_bool (by rw [← unhide HB, Bool.eq_iff_iff]; simp; try omega), rfl⟩
    case rest =>
      obtain ⟨rfl, rfl⟩ := hcut
      cases A
      · go_wp2_with fail
        go_ret
        exact ⟨ret_bool (by rw [unhide HM]; rfl), (Below.refl _ _).alloc (Nat.le_refl _) _⟩
      · cases B
        · go_wp2_with fail
          go_ret
          exact ⟨ret_bool (by rw [unhide HM]; rfl), (Below.refl _ _).alloc (Nat.le_refl _) _⟩
        · go_wp2_with fail
          all_goals
            go_ret
            exact ⟨ret_bool (by rw [unhide HM, Bool.eq_iff_iff]; simp; try omega), (Below.refl _ _).alloc (Nat.le_refl _) _⟩
set_option maxHeartbeats 1000000 in
theorem rmost_yes (f : Fl) (t : Int) (w : World) (h : f.may) (t1 : t ≤ 100000) :
    Calls Tryz.prog 75 #[.agg #[.int .i64 f.s, .int .i64 f.p, .int .i64 f.b, .int .i64 f.r, .int .i64 f.d], .int .i64 t] w fun e w' => e = .returned (.tuple #[.int .i64 (allow f.s f.p f.b f.r t), .int .i64 0]) ∧ Below w.heap.size w w' := by
  have HM := hide h
  have hb := (mayB_iff f).2 h
  clear h
  go_enter Tryz.func75, Tryz.ntmps75
  go_wp2_with fail
  refine (rmay_any f _).mono ?_
  rintro e w1 ⟨rfl, hb1⟩
  rw [hb]
  obtain ⟨hc, hf⟩ := bcell hb1
  have hz : w.heap.size < w1.heap.size := by have := hb1.size; simp at this; omega
  have HB1 := hide (bel_then (bel_one _) hb1)
  clear hb1 hb
  go_wp2_with fail
  refine (rE_any f.s f.p f.b f.r f.d t _ (unhide HM) t1).mono ?_
  rintro e w2 ⟨rfl, hb2⟩
  have HB2 := hide (bel_then (unhide HB1) hb2)
  clear hb2
  go_wp2_with fail
  go_ret2
  exact ⟨rfl, unhide HB2⟩
set_option maxHeartbeats 1000000 in
theorem rmost_no (f : Fl) (t : Int) (w : World) (h : ¬ (f.may ∧ t ≤ 100000)) :
    Calls Tryz.prog 75 #[.agg #[.int .i64 f.s, .int .i64 f.p, .int .i64 f.b, .int .i64 f.r, .int .i64 f.d], .int .i64 t] w fun e w' => e = .returned (.tuple #[.int .i64 0, .int .i64 1]) ∧ Below w.heap.size w w' := by
  have hb : f.mayB = true → 100000 < t := fun hm => by
    have : ¬ t ≤ 100000 := fun ht => h ⟨(mayB_iff f).1 hm, ht⟩
    omega
  have HB := hide hb
  clear h hb
  go_enter Tryz.func75, Tryz.ntmps75
  go_wp2_with fail
  refine (rmay_any f _).mono ?_
  rintro e w1 ⟨rfl, hb1⟩
  have HB1 := hide (bel_then (bel_one _) hb1)
  clear hb1
  cases hm : f.mayB
  · clear hm
    go_wp2_with fail
    go_ret2
    exact ⟨rfl, unhide HB1⟩
  · have ht := unhide HB hm
    clear hm
    go_wp2_with fail
    go_ret2
    exact ⟨rfl, unhide HB1⟩
end Go.Proofs.YtcnmajndackohaaGreatDoor
/-
  What the document's own answer does: all, Violation, Test.
-/
namespace Go.Proofs.YtcnmajndackohaaGreatDoor
open Go.RowKit
attribute [local go_sem ↓] Go.wp_at_zero Go.wp_at_succ
set_option maxHeartbeats 2000000 in
theorem rall_some (b o c : Nat) (l : List Fl) (w : World) (hw : Lies w b o l) (hl : l.length ≤ maxLen) :
    Calls Tryz.prog 54 #[.slice (some ⟨b, o, none⟩) l.length c] w fun e w' => e = .returned (.bool (allB l)) ∧ Below w.heap.size w w' := by
  unfold maxLen at hl
  have HW := hide hw
  clear hw
  have HA := hide (show allB l = (l.all Fl.mayB && decide (l.length ≤ 6)) from rfl)
  generalize hn : l.length = n at *
  have HN := hide hn
  have hn1 : (n : Int) ≤ 9223372036854775807 := by omega
  clear hn hl
  go_enter Tryz.func54, Tryz.ntmps54
  go_wp2_with fail
  go_loopw [3] (fun i wr => ∃ k : Nat, k ≤ n ∧ i = .int .i64 k ∧ (l.take k).all Fl.mayB = true ∧ Below w.heap.size w wr) (fun i _ => n - (intOf i).toNat)
  case atStart => exact ⟨0, Nat.zero_le _, rfl, rfl, Below.refl _ _⟩
  case round =>
    obtain ⟨k, hk, rfl, hall, hbel⟩ := hrel
    have HAll := hide hall
    clear hall
    by_cases hlt : k < n
    · have hkl : k < l.length := by rw [unhide HN]; exact hlt
      have hL := (unhide HW).below hbel
      have q0 := hL.c0 k hkl
      have q1 := hL.c1 k hkl
      have q2 := hL.c2 k hkl
      have q3 := hL.c3 k hkl
      have q4 := hL.c4 k hkl
      have hbw := hL.blk
      have hHB := hide hbel
      have HT := hide (all_take_succ l k hkl)
      have HF := hide (all_false hkl)
      clear hL hbel
      generalize hf : l[k] = f at *
      clear hf
      go_wp2_with fail
      refine (rmay_any f _).mono ?_
      rintro e w1 ⟨rfl, hb1⟩
      have HB1 := hide (bel_then (unhide hHB) hb1)
      clear hb1 q0 q1 q2 q3 q4
      cases hm : f.mayB
      · have HM := hide hm
        clear hm
        go_wp2_with fail
        go_ret
        exact ⟨ret_bool (by rw [unhide HA, unhide HF (unhide HM)]; rfl), unhide HB1⟩
      · have HM := hide hm
        clear hm
        go_wp2_with fail
        go_roundw
        case rel => exact ⟨k + 1, by omega, by go_num, by rw [unhide HT, unhide HAll, unhide HM]; rfl, unhide HB1⟩
        case measure => simp [intOf]; omega
    · have hkn : k = n := by omega
      subst hkn
      have HBel := hide hbel
      clear hbel
      have hT : l.all Fl.mayB = true := by
        have := unhide HAll
        rwa [List.take_of_length_le (by rw [unhide HN]; exact Nat.le_refl _)] at this
      have HTT := hide hT
      clear hT
      by_cases h6 : k ≤ 6
      · have hd : decide ((k : Int) ≤ 6) = true := by simp; omega
        go_wp2_with fail
        go_ret
        exact ⟨ret_bool (by rw [unhide HA, unhide HTT, decide_eq_true h6]; simp; try omega), unhide HBel⟩
      · have hd : decide ((k : Int) ≤ 6) = false := by simp; omega
        go_wp2_with fail
        go_ret
        exact ⟨ret_bool (by rw [unhide HA, unhide HTT, decide_eq_false h6]; simp; try omega), unhide HBel⟩
set_option maxHeartbeats 1000000 in
theorem rall_nil (a : Option Addr) (c : Nat) (w : World) :
    Calls Tryz.prog 54 #[.slice a 0 c] w fun e w' => e = .returned (.bool true) ∧ w' = w := by
  go_enter Tryz.func54, Tryz.ntmps54
  go_wp2_with fail
  go_rounds 1
  go_ret
  exact ⟨rfl, rfl⟩
theorem rall_F (v : Value) (l : List Fl) (w : World) (hw : Fls w v l) (hl : l.length ≤ maxLen) :
    Calls Tryz.prog 54 #[v] w fun e w' => e = .returned (.bool (allB l)) ∧ Below w.heap.size w w' := by
  rcases hw with ⟨rfl, a, c, rfl⟩ | ⟨b, o, c, rfl, h⟩
  · refine (rall_nil a c w).mono ?_
    rintro e w' ⟨rfl, rfl⟩
    exact ⟨rfl, Below.refl _ _⟩
  · exact rall_some b o c l w h hl
theorem heldR_below {w0 W w1 : World} {g o : Nat} {c0 c1 c2 c3 c4 : Value} (hb : Below W.heap.size W w1)
    (h : W.cell? ⟨g, o, none⟩ = some c0 ∧ W.cell? ⟨g, o + 1, none⟩ = some c1 ∧ W.cell? ⟨g, o + 2, none⟩ = some c2 ∧ W.cell? ⟨g, o + 3, none⟩ = some c3 ∧ W.cell? ⟨g, o + 4, none⟩ = some c4 ∧ g < W.heap.size ∧ Below w0.heap.size w0 W) :
    w1.cell? ⟨g, o, none⟩ = some c0 ∧ w1.cell? ⟨g, o + 1, none⟩ = some c1 ∧ w1.cell? ⟨g, o + 2, none⟩ = some c2 ∧ w1.cell? ⟨g, o + 3, none⟩ = some c3 ∧ w1.cell? ⟨g, o + 4, none⟩ = some c4 ∧ g < w1.heap.size ∧ Below w0.heap.size w0 w1 := by
  obtain ⟨h0, h1, h2, h3, h4, h5, h7⟩ := h
  obtain ⟨hc, _⟩ := bcell hb
  have := hb.size
  exact ⟨(hc _ _ h5).trans h0, (hc _ _ h5).trans h1, (hc _ _ h5).trans h2, (hc _ _ h5).trans h3, (hc _ _ h5).trans h4, by omega, bel_then h7 hb⟩
theorem heldR_drew {w0 W : World} {g o : Nat} {c0 c1 c2 c3 c4 : Value}
    (h0 : W.cell? ⟨g, o, none⟩ = some c0) (h1 : W.cell? ⟨g, o + 1, none⟩ = some c1) (h2 : W.cell? ⟨g, o + 2, none⟩ = some c2) (h3 : W.cell? ⟨g, o + 3, none⟩ = some c3) (h4 : W.cell? ⟨g, o + 4, none⟩ = some c4) (h5 : g < W.heap.size) (h7 : Below w0.heap.size w0 W) :
    W.drew.cell? ⟨g, o, none⟩ = some c0 ∧ W.drew.cell? ⟨g, o + 1, none⟩ = some c1 ∧ W.drew.cell? ⟨g, o + 2, none⟩ = some c2 ∧ W.drew.cell? ⟨g, o + 3, none⟩ = some c3 ∧ W.drew.cell? ⟨g, o + 4, none⟩ = some c4 ∧ g < W.drew.heap.size ∧ Below w0.heap.size w0 W.drew :=
  ⟨h0, h1, h2, h3, h4, h5, h7.drew⟩
set_option maxRecDepth 100000 in
set_option maxHeartbeats 4000000 in
theorem rviol_some (g o c : Nat) (l : List Fl) (w : World) (hl : l.length ≤ 6) (hw : Lies w g o l) (hm : ∀ f ∈ l, f.may) :
    Calls Tryz.prog 100 #[.slice (some ⟨g, o, none⟩) l.length c] w fun e w' => e = .returned (.int .i64 (seek l 7000 1)) ∧ Below w.heap.size w w' := by
  have HM := hide hm
  have HW := hide hw
  clear hm hw
  generalize hn : l.length = n at *
  have HN := hide hn
  clear hn
  generalize hV : seek l 7000 1 = V
  have HV := hide hV
  clear hV
  go_enter Tryz.func100, Tryz.ntmps100
  go_wp2_with fail
  go_loopw [3] (fun i wr => ∃ k m : Nat, k + m = 7000 ∧ i = .int .i64 ((k : Int) + 1) ∧ V = seek l m ((k : Int) + 1) ∧ Below w.heap.size w wr) (fun i _ => 7001 - (intOf i).toNat)
  case atStart => exact ⟨0, 7000, rfl, rfl, (unhide HV).symm, Below.refl _ _⟩
  case round =>
    obtain ⟨k, m, hkm, rfl, hs, hbel⟩ := hrel
    have HK := hide hkm
    have HS := hide hs
    have HBel := hide hbel
    have hk : (k : Int) ≤ 7000 := by omega
    clear hs hbel
    cases m with
    | zero =>
      have hge : ¬ (k : Int) + 1 ≤ 7000 := by omega
      clear hkm
      go_wp2_with fail
      go_ret
      exact ⟨ret_int (by rw [unhide HS]; rfl), unhide HBel⟩
    | succ m =>
      have hlt : (k : Int) < 7000 := by omega
      clear hkm
      have ht0 : 1 ≤ (k : Int) + 1 := by omega
      have ht1 : (k : Int) + 1 ≤ 7000 := by omega
      generalize hT : (k : Int) + 1 = t at *
      have HT := hide hT
      clear hT hlt hk
      go_wp2_with fail
      go_loopw [4, 5] (fun s i wy => ∃ j : Nat, j ≤ n ∧ i = .int .i64 j ∧ s = .int .i64 (tot t (l.take j)) ∧ Below w.heap.size w wy) (fun _ i _ => n - (intOf i).toNat)
      case atStart => exact ⟨0, Nat.zero_le _, rfl, rfl, unhide HBel⟩
      case round =>
        obtain ⟨j, hj, rfl, rfl, hbel⟩ := hrel
        by_cases hlt : j < n
        · have hjl : j < l.length := by rw [unhide HN]; exact hlt
          have hmay := unhide HM l[j] (List.getElem_mem hjl)
          have hb := tot_bd (l := l.take j) (fun f hf => unhide HM f (List.mem_of_mem_take hf)) t (by omega)
          have hlen : (l.take j).length ≤ 6 := by have := List.length_take_le j l; omega
          have heb := e_bd hmay t (by omega)
          have hL := (unhide HW).below hbel
          have q0 := hL.c0 j hjl
          have q1 := hL.c1 j hjl
          have q2 := hL.c2 j hjl
          have q3 := hL.c3 j hjl
          have q4 := hL.c4 j hjl
          have q5 := hL.blk
          have HTS := hide (tot_take_succ t l j hjl)
          have HY := hide hmay
          have HB := hide hbel
          have hi0 : (0 : Int) ≤ (j : Int) := Int.natCast_nonneg _
          have hi1 : (j : Int) < (n : Int) := by omega
          obtain ⟨_, _, _, _, _, _, _, dd0, dd1⟩ := hmay
          clear hL hbel
          generalize hf : l[j] = f at *
          clear hf
          unfold Fl.e at heb
          generalize tot t (l.take j) = S1 at *
          have e1 : IntKind.i64.wrap (t - f.d) = t - f.d := by go_arith
          have e3 : IntKind.i64.wrap (S1 + allow f.s f.p f.b f.r (t - f.d)) = S1 + allow f.s f.p f.b f.r (t - f.d) := by go_arith
          go_wp2_with fail
          go_region_held3 (fun w' => w'.cell? ⟨g, o + j * 5, none⟩ = some (.int .i64 f.s) ∧ w'.cell? ⟨g, o + j * 5 + 1, none⟩ = some (.int .i64 f.p) ∧ w'.cell? ⟨g, o + j * 5 + 2, none⟩ = some (.int .i64 f.b) ∧ w'.cell? ⟨g, o + j * 5 + 3, none⟩ = some (.int .i64 f.r) ∧ w'.cell? ⟨g, o + j * 5 + 4, none⟩ = some (.int .i64 f.d) ∧ g < w'.heap.size ∧ Below w.heap.size w w')
            (first | exact heldR_below (by assumption) (by assumption) | exact heldR_drew q0 q1 q2 q3 q4 q5 (unhide HB))
            (first | (go_at_call 99; refine (rE_any f.s f.p f.b f.r f.d (t - f.d) _ (unhide HY) (by omega)).mono ?_; rintro e w' ⟨rfl, hb'⟩))
          rename_i hH
          have HH := hide hH.2.2.2.2.2.2
          clear hH hb' q0 q1 q2 q3 q4 q5 HB
          go_wp2_with fail
          go_roundw
          case rel => exact ⟨j + 1, by omega, by go_num, by rw [unhide HTS]; rfl, unhide HH⟩
          case measure => simp [intOf]; omega
        · have hjn : j = n := by omega
          subst hjn
          have hTT : tot t (l.take j) = tot t l := by rw [List.take_of_length_le (by rw [unhide HN]; exact Nat.le_refl _)]
          rw [hTT]
          have hb := tot_bd (unhide HM) t (by omega)
          rw [unhide HN] at hb
          have HVV := hide (show vioB l t = (decide (0 < tot t l) && decide (t < tot t l + 7)) from rfl)
          have HBe := hide hbel
          clear hTT hbel hlt
          generalize tot t l = S at *
          have hyes : vioB l t = true → V = t := fun h => by rw [unhide HS, seek_step_yes h]
          have hno : vioB l t = false → V = seek l m (t + 1) := fun h => by rw [unhide HS, seek_step_no h]
          have HYes := hide hyes
          have HNo := hide hno
          clear hyes hno
          by_cases g0 : 0 < S
          · by_cases g1 : t < S + 7
            · have gd : decide (t < S + 7) = true := by simpa using g1
              go_wp2_with fail
              go_ret
              exact ⟨ret_int (unhide HYes (by rw [unhide HVV, decide_eq_true g0, gd]; rfl)).symm, unhide HBe⟩
            · have gd : decide (t < S + 7) = false := by simpa using g1
              go_wp2_with fail
              go_roundw
              case rel => exact ⟨k + 1, m, by have := unhide HK; omega, by rw [← unhide HT]; go_num, by rw [unhide HNo (by rw [unhide HVV, decide_eq_true g0, gd]; rfl), ← unhide HT]; rfl, unhide HBe⟩
              case measure => have := unhide HT; simp [intOf]; omega
          · have gd : decide (0 < S) = false := by simpa using g0
            go_wp2_with fail
            go_roundw
            case rel => exact ⟨k + 1, m, by have := unhide HK; omega, by rw [← unhide HT]; go_num, by rw [unhide HNo (by rw [unhide HVV, gd]; rfl), ← unhide HT]; rfl, unhide HBe⟩
            case measure => have := unhide HT; simp [intOf]; omega
set_option maxRecDepth 100000 in
set_option maxHeartbeats 2000000 in
theorem rviol_nil (a : Option Addr) (c : Nat) (w : World) :
    Calls Tryz.prog 100 #[.slice a 0 c] w fun e w' => e = .returned (.int .i64 0) ∧ w' = w := by
  go_enter Tryz.func100, Tryz.ntmps100
  go_wp2_with fail
  go_loop [3] (fun i => ∃ k : Nat, k ≤ 7000 ∧ i = .int .i64 ((k : Int) + 1)) (fun i => 7001 - (intOf i).toNat)
  case atStart => exact ⟨0, Nat.zero_le _, rfl⟩
  case round =>
    obtain ⟨k, hk, rfl⟩ := hrel
    by_cases hlt : (k : Int) < 7000
    · go_wp2_with fail
      go_rounds 1
      go_round
      case rel => exact ⟨k + 1, by omega, by go_num⟩
      case measure => simp [intOf]; omega
    · have hge : ¬ (k : Int) + 1 ≤ 7000 := by omega
      go_wp2_with fail
      go_ret
      exact ⟨rfl, rfl⟩
theorem rviol_F (v : Value) (l : List Fl) (w : World) (hw : Fls w v l) (hl : l.length ≤ 6) (hm : ∀ f ∈ l, f.may) :
    Calls Tryz.prog 100 #[v] w fun e w' => e = .returned (.int .i64 (viol l)) ∧ Below w.heap.size w w' := by
  rcases hw with ⟨rfl, a, c, rfl⟩ | ⟨b, o, c, rfl, h⟩
  · refine (rviol_nil a c w).mono ?_
    rintro e w' ⟨rfl, rfl⟩
    refine ⟨ret_int ?_, Below.refl _ _⟩
    rcases viol_spec [] with ⟨h, _⟩ | ⟨_, _, h, _⟩
    · exact h.symm
    · simp [vioB, tot] at h
  · have := rviol_some b o c l w hl h hm
    rw [seek_far hm] at this
    exact this
/-- What the document answers. -/
def tans (l : List Fl) : Int := if allB l = true then viol l else 0
def terr (l : List Fl) : Int := if allB l = true then (if viol l = 0 then 0 else 3) else 1
set_option maxHeartbeats 2000000 in
theorem rtest_any (v : Value) (l : List Fl) (w : World) (hw : Fls w v l) (hl : l.length ≤ maxLen) :
    Calls Tryz.prog 76 #[v] w fun e w' => e = .returned (.tuple #[.int .i64 (tans l), .int .i64 (terr l)]) ∧ Below w.heap.size w w' := by
  have HW := hide hw
  have HL := hide hl
  clear hw hl
  go_enter Tryz.func76, Tryz.ntmps76
  go_wp2_with fail
  refine (rall_F v l _ (unhide HW) (unhide HL)).mono ?_
  rintro e w1 ⟨rfl, hb⟩
  have HB := hide hb
  clear hb
  cases ha : allB l
  · have HA := hide ha
    clear ha
    go_wp2_with fail
    go_ret2
    exact ⟨ret_val (by unfold tans terr; rw [unhide HA]; rfl), unhide HB⟩
  · have HA := hide ha
    have hp : l.all Fl.mayB = true ∧ l.length ≤ 6 := by
      unfold allB at ha
      simpa using ha
    have HP := hide hp
    clear ha hp
    go_wp2_with fail
    refine (rviol_F v l _ ((unhide HW).below (unhide HB)) (unhide HP).2 (all_may (unhide HP).1)).mono ?_
    rintro e w2 ⟨rfl, hb⟩
    have HB2 := hide (bel_then (unhide HB) hb)
    clear hb
    have hr := viol_range l
    have HX := hide (show tans l = viol l from by unfold tans; rw [unhide HA]; rfl)
    have HY := hide (show terr l = if viol l = 0 then 0 else 3 from by unfold terr; rw [unhide HA]; rfl)
    generalize viol l = V at *
    by_cases h0 : V = 0
    · subst h0
      go_wp2_with fail
      go_ret2
      exact ⟨ret_val (by rw [unhide HX, unhide HY]; rfl), unhide HB2⟩
    · have hp : 0 < V := by omega
      have HN := hide h0
      clear h0
      go_wp2_with fail
      go_ret2
      exact ⟨ret_val (by rw [unhide HX, unhide HY, if_neg (unhide HN)]; rfl), unhide HB2⟩
end Go.Proofs.YtcnmajndackohaaGreatDoor
/-
  The library's contracts, laid at this program.
-/
namespace Go.Proofs
open Go.Shelf
def Tryz.laysM246_ren : Go.Shelf.Ren := ⟨fun | 246 => 120 | 283 => 138 | 284 => 139 | 285 => 140 | 286 => 141 | 129 => 135 | 317 => 149 | 318 => 150 | 319 => 151 | 320 => 152 | 337 => 154 | 338 => 155 | n => n, fun | 2 => 2 | 3 => 3 | 9 => 9 | 4 => 4 | 171 => 222 | 0 => 0 | 53 => 215 | 37 => 224 | 5 => 5 | 173 => 225 | 212 => 236 | 51 => 213 | 20 => 20 | 213 => 237 | 46 => 190 | 232 => 240 | 233 => 241 | n => n, fun | 17 => 7 | 18 => 8 | 19 => 9 | n => n⟩
def Tryz.laysM243_ren : Go.Shelf.Ren := ⟨fun | 243 => 96 | 246 => 120 | 283 => 138 | 284 => 139 | 285 => 140 | 286 => 141 | 129 => 135 | 317 => 149 | 318 => 150 | 319 => 151 | 320 => 152 | 337 => 154 | 338 => 155 | n => n, fun | 3 => 3 | 9 => 9 | 2 => 2 | 4 => 4 | 171 => 222 | 0 => 0 | 53 => 215 | 37 => 224 | 5 => 5 | 173 => 225 | 212 => 236 | 51 => 213 | 20 => 20 | 213 => 237 | 46 => 190 | 232 => 240 | 233 => 241 | n => n, fun | 17 => 7 | 18 => 8 | 19 => 9 | n => n⟩
def Tryz.laysM171_ren : Go.Shelf.Ren := ⟨fun | 171 => 66 | 243 => 96 | 246 => 120 | 283 => 138 | 284 => 139 | 285 => 140 | 286 => 141 | 129 => 135 | 317 => 149 | 318 => 150 | 319 => 151 | 320 => 152 | 337 => 154 | 338 => 155 | n => n, fun | 3 => 3 | 9 => 9 | 2 => 2 | 4 => 4 | 171 => 222 | 0 => 0 | 53 => 215 | 37 => 224 | 5 => 5 | 173 => 225 | 212 => 236 | 51 => 213 | 20 => 20 | 213 => 237 | 46 => 190 | 232 => 240 | 233 => 241 | n => n, fun | 17 => 7 | 18 => 8 | 19 => 9 | n => n⟩
theorem Tryz.laysM171 : Go.Proofs.LaysM.n171 Tryz.prog Tryz.laysM171_ren := {
  mixed := by kernel_rfl
  f129 := Tryz.func135.trans (congrArg some (by kernel_rfl))
  f171 := Tryz.func66.trans (congrArg some (by kernel_rfl))
  f243 := Tryz.func96.trans (congrArg some (by kernel_rfl))
  f246 := Tryz.func120.trans (congrArg some (by kernel_rfl))
  f283 := Tryz.func138.trans (congrArg some (by kernel_rfl))
  f284 := Tryz.func139.trans (congrArg some (by kernel_rfl))
  f285 := Tryz.func140.trans (congrArg some (by kernel_rfl))
  f286 := Tryz.func141.trans (congrArg some (by kernel_rfl))
  f317 := Tryz.func149.trans (congrArg some (by kernel_rfl))
  f318 := Tryz.func150.trans (congrArg some (by kernel_rfl))
  f319 := Tryz.func151.trans (congrArg some (by kernel_rfl))
  f320 := Tryz.func152.trans (congrArg some (by kernel_rfl))
  f337 := Tryz.func154.trans (congrArg some (by kernel_rfl))
  f338 := Tryz.func155.trans (congrArg some (by kernel_rfl))
  t0 := Tryz.underlying0
  a0 := Tryz.isAgg0
  z0 := Tryz.sizeOf0
  v0 := Tryz.zeroValue0
  t2 := Tryz.underlying2
  a2 := Tryz.isAgg2
  z2 := Tryz.sizeOf2
  v2 := Tryz.zeroValue2
  t3 := Tryz.underlying3
  a3 := Tryz.isAgg3
  z3 := Tryz.sizeOf3
  v3 := Tryz.zeroValue3
  t4 := Tryz.underlying4
  a4 := Tryz.isAgg4
  z4 := Tryz.sizeOf4
  v4 := Tryz.zeroValue4
  t5 := Tryz.underlying5
  a5 := Tryz.isAgg5
  z5 := Tryz.sizeOf5
  v5 := Tryz.zeroValue5
  t9 := Tryz.underlying9
  a9 := Tryz.isAgg9
  z9 := Tryz.sizeOf9
  v9 := Tryz.zeroValue9
  t20 := Tryz.underlying20
  a20 := Tryz.isAgg20
  z20 := Tryz.sizeOf20
  v20 := Tryz.zeroValue20
  t37 := Tryz.underlying224
  a37 := Tryz.isAgg224
  z37 := Tryz.sizeOf224
  v37 := Tryz.zeroValue224
  t46 := Tryz.underlying190
  a46 := Tryz.isAgg190
  z46 := Tryz.sizeOf190
  v46 := Tryz.zeroValue190
  t51 := Tryz.underlying213
  a51 := Tryz.isAgg213
  z51 := Tryz.sizeOf213
  v51 := Tryz.zeroValue213
  t53 := Tryz.underlying215
  a53 := Tryz.isAgg215
  z53 := Tryz.sizeOf215
  v53 := Tryz.zeroValue215
  t171 := Tryz.underlying222
  a171 := Tryz.isAgg222
  z171 := Tryz.sizeOf222
  v171 := Tryz.zeroValue222
  t173 := Tryz.underlying225
  a173 := Tryz.isAgg225
  z173 := Tryz.sizeOf225
  v173 := Tryz.zeroValue225
  t212 := Tryz.underlying236
  a212 := Tryz.isAgg236
  z212 := Tryz.sizeOf236
  v212 := Tryz.zeroValue236
  t213 := Tryz.underlying237
  a213 := Tryz.isAgg237
  z213 := Tryz.sizeOf237
  t232 := Tryz.underlying240
  a232 := Tryz.isAgg240
  z232 := Tryz.sizeOf240
  v232 := Tryz.zeroValue240
  t233 := Tryz.underlying241
  a233 := Tryz.isAgg241
  z233 := Tryz.sizeOf241
  v233 := Tryz.zeroValue241
  g17 := by kernel_rfl
  g18 := by kernel_rfl
  g19 := by kernel_rfl
  i0 := by kernel_rfl
  i2 := by kernel_rfl
  i3 := by kernel_rfl
  i4 := by kernel_rfl
  i5 := by kernel_rfl
  i9 := by kernel_rfl
  i20 := by kernel_rfl
  i37 := by kernel_rfl
  i46 := by kernel_rfl
  i51 := by kernel_rfl
  i53 := by kernel_rfl
  i171 := by kernel_rfl
  i173 := by kernel_rfl
  i212 := by kernel_rfl
  i232 := by kernel_rfl
  i233 := by kernel_rfl
  m17 := by kernel_rfl
  m18 := by kernel_rfl
  m19 := by kernel_rfl }
open Go.RowKit Go.Sort Go.Lib in
theorem Tryz.strconv_Itoa (n : Int) (h0 : -9223372036854775808 ≤ n) (h1 : n ≤ 9223372036854775807) (w : World) (htab : Lib.TabIs Tryz.prog w "internal/strconv.uint64pow10" .u64 Lib.pow10Tab) :
    Calls Tryz.prog 66 #[.int .i64 n] w fun e w' => e = .returned (.string ⟨(Lib.itoa n).toArray⟩) ∧ ∃ k os, w' = grow (w.drewN k) os := Any.strconv_Itoa Tryz.laysM171 n h0 h1 w htab
end Go.Proofs
/-
  What the queue's Push and Pop do.
-/
namespace Go.Proofs.YtcnmajndackohaaGreatDoor
open Go.RowKit
/-- The value v is a queue that holds the entries H. -/
def QV (w : World) (v : Value) (H : List En) : Prop := w.ownsRow 0 194 5 v H.length (ecells H)
theorem QV.form {w : World} {v : Value} {H : List En} (h : QV w v H) (h0 : 0 < H.length) : ∃ g cap sp, v = .slice (some ⟨g, 0, none⟩) H.length cap ∧ Ent w g H sp ∧ H.length ≤ cap ∧ cap ≤ maxLen ∧ (ecells H ++ sp).length = cap * 5 := by
  rcases h.2 with ⟨_, e⟩ | ⟨g, cap, cur, e1, _, e2, e3, e4, e5, e6⟩
  · omega
  · have hcur : cur = (ecells H ++ cur.toList.drop (H.length * 5)).toArray := by
      rw [← e6, List.take_append_drop]
    refine ⟨g, cap, cur.toList.drop (H.length * 5), e1, ?_, e3, e4, ?_⟩
    · show w.heap[g]? = _
      rw [← hcur]; exact e2
    · rw [← e5, ← e6, List.take_append_drop, Array.length_toList]
theorem QV.mk' {w : World} {g cap : Nat} {H : List En} {sp : List Value} (h : Ent w g H sp) (h1 : H.length ≤ cap) (h2 : cap ≤ maxLen) (h3 : (ecells H ++ sp).length = cap * 5) : QV w (.slice (some ⟨g, 0, none⟩) H.length cap) H := by
  refine ⟨ecells_length H, .inr ⟨g, cap, (ecells H ++ sp).toArray, rfl, Nat.zero_le _, h, h1, h2, ?_, ?_⟩⟩
  · simpa using h3
  · show (ecells H ++ sp).take (H.length * 5) = _
    rw [← ecells_length H, List.take_left]
theorem infoEnt : (Tryz.prog.info? 194).map (fun i => (i.zero, i.size, i.bytes)) = some (some (.agg #[.int .i64 0, .int .i64 0, .int .i64 0, .int .i64 0, .int .i64 0]), 5, 40) := by kernel_rfl
theorem ta_entry (v : Value) (xT : TypeId) (w : World) : (Instr.typeAssert (.iface 194 v) xT 194 false).run Tryz.prog w = .ok v w := by
  simp [Instr.typeAssert, run_underlying Tryz.underlying194]
theorem info_five {P : Program} {t : TypeId} {z : Value} {n m : Nat} (h : (P.info? t).map (fun i => (i.zero, i.size, i.bytes)) = some (some z, n, m)) : ∃ i, P.info? t = some i ∧ i.zero = some z ∧ i.size = n ∧ i.bytes = m := by
  cases hi : P.info? t with
  | none => rw [hi] at h; cases h
  | some i =>
    rw [hi] at h
    simp only [Option.map_some, Option.some.injEq, Prod.mk.injEq] at h
    exact ⟨i, rfl, h.1, h.2.1, h.2.2⟩
/-- What an append of one entry leaves. -/
theorem qv_push {w w1 w2 : World} {v : Value} {b : Nat} {ty : TypeId} {cs : Array Value} {H : List En} {x : En} {g cap : Nat} (hI : Is w b ty cs) (hb : Below w.heap.size w w1) (hne : v.ownBlock ≠ some b)
    (hown : w2.ownsRow 0 194 5 (.slice (some ⟨g, 0, none⟩) (H.length + 1) cap) (H.length + 1) (ecells H ++ (ecs x).toList)) (hgrow : w1.grownBy w2 v.ownBlock) (hat : v.ownBlock = some g ∨ w.heap.size ≤ g) :
    Is w2 b ty cs ∧ QV w2 (.slice (some ⟨g, 0, none⟩) (H.length + 1) cap) (H ++ [x]) ∧ g ≠ b ∧ Only (fun k => k = b ∨ v.ownBlock = some k) w w2 := by
  have hlt := hI.lt
  refine ⟨?_, ?_, ?_, ?_⟩
  · exact (hgrow.block b (Nat.lt_of_lt_of_le hlt hb.size) (fun e => hne e.symm)).trans (hI.below hb)
  · unfold QV
    rw [ecells_append, List.length_append]
    exact hown
  · rintro rfl
    rcases hat with h | h
    · exact hne h
    · omega
  · exact (Only.of_below hb).grown hgrow (fun k e _ => .inr e)
theorem ownsRow_far {w : World} {b o g k cap : Nat} {u : Value} {H : List En} (h : QV w (.slice (some ⟨g, 0, none⟩) k cap) H) (hne : g ≠ b) : QV (w.setCell ⟨b, o, none⟩ u) (.slice (some ⟨g, 0, none⟩) k cap) H := by
  refine ⟨h.1, ?_⟩
  rcases h.2 with ⟨e, _⟩ | ⟨g', cap', cur, e1, e2, e3, r⟩
  · cases e
  · simp only [Value.slice.injEq, Option.some.injEq, Addr.mk.injEq] at e1
    refine .inr ⟨g', cap', cur, ?_, e2, ?_, r⟩
    · simp only [Value.slice.injEq, Option.some.injEq, Addr.mk.injEq]; exact e1
    · exact (Below.heap_setCell w ⟨b, o, none⟩ u g' (by rw [← e1.1.1]; exact hne)).trans e3
set_option maxRecDepth 100000 in
set_option maxHeartbeats 1000000 in
theorem qpush_any (b o : Nat) (H : List En) (x : En) (w : World) (ty : TypeId) (cs : Array Value) (v : Value) (h : Is w b ty cs) (hv : cs[o]? = some v) (hq : QV w v H) (hne : v.ownBlock ≠ some b) (hl : H.length ≤ 4000000) :
    Calls Tryz.prog 200 #[.pointer (some ⟨b, o, none⟩), .iface 194 (.agg (ecs x))] w fun e w' => e = .returned (.tuple #[]) ∧ ∃ v', Is w' b ty (cs.setIfInBounds o v') ∧ QV w' v' (H ++ [x]) ∧ (∃ g, v'.ownBlock = some g ∧ (v.ownBlock = some g ∨ w.heap.size ≤ g)) ∧ Only (fun k => k = b ∨ v.ownBlock = some k) w w' := by
  have hc := h.cell hv
  have hz := h.frozen o
  have HI := hide h
  have HQ := hide hq
  obtain ⟨i0, hi0, hz0, hz1, hz2⟩ := info_five infoEnt
  have HI0 := hide hi0
  have HZ0 := hide hz0
  have HZ1 := hide hz1
  have HZ2 := hide hz2
  have HNe := hide hne
  have hta : (Value.iface 194 (.agg (ecs x))) = .iface 194 (.agg #[.int .i64 x.flow, .int .i64 x.seq, .int .i64 x.size, .int .i64 x.ready, .int .i64 x.dl]) := rfl
  rw [hta]
  have HV := hide hv
  have hcA := (World.cell?_alloc_past (w := w) (.cells #[.int .i64 x.flow, .int .i64 x.seq, .int .i64 x.size, .int .i64 x.ready, .int .i64 x.dl] 194) b o h.lt).trans hc
  have ta := ta_entry
  clear h hv hq hi0 hz0 hz1 hz2 hta hne
  go_enter Tryz.func200, Tryz.ntmps200
  go_wp2_with fail
  go_region_law (refine step_append_lies _ rfl (.tmp 7) (.tmp 10) 113 rfl 0 194 i0 _ 5 40 Tryz.underlying113 (unhide HI0) (unhide HZ0) (unhide HZ1) (unhide HZ2) rfl (by omega) v H.length (ecells H) (by rfl) (World.ownsRow.drew (World.ownsRow.alloc (unhide HQ) _)) ⟨w.heap.size, 0, none⟩ 1 1 [.int .i64 x.flow, .int .i64 x.seq, .int .i64 x.size, .int .i64 x.ready, .int .i64 x.dl] (by rfl) (by rfl) (World.news_of_block (cs := #[.int .i64 x.flow, .int .i64 x.seq, .int .i64 x.size, .int .i64 x.ready, .int .i64 x.dl]) (t := 194) (fr := (0, 0)) (heap_alloc_new w _)) (by simp [Value.oneCell']) (by omega) (by unfold maxLen; omega) (by omega) (Nat.zero_le _) (w.heap.size + 1) (World.size_alloc _ _) ?_; intro g cap w2 hown hgrow hat hlt; have hP := qv_push (unhide HI) ((bel_one _).drew) (unhide HNe) hown hgrow (hat.imp id (fun e => by omega)); have hc2 := hP.1.cell (unhide HV); have hz2 := hP.1.frozen o)
  all_goals
    have HP := hide hP
    have HAt := hide (show (Value.slice (some ⟨g, 0, none⟩) (H.length + 1) cap).ownBlock = some g ∧ (v.ownBlock = some g ∨ w.heap.size ≤ g) from ⟨rfl, hat.imp id (fun e => by omega)⟩)
    clear hP hown hgrow hat hlt
    go_wp2_with fail
    go_end0
    refine ⟨rfl, _, (unhide HP).1.set o _, ?_, ⟨g, (unhide HAt).1, (unhide HAt).2⟩, ?_⟩
    · exact ownsRow_far (unhide HP).2.1 (unhide HP).2.2.1
    · exact (unhide HP).2.2.2.setCell (.inl (.inl rfl))
end Go.Proofs.YtcnmajndackohaaGreatDoor
/-
  What the calls of a line do, as the others use it: a line's memory holds what the document's line is.
-/
namespace Go.Proofs.YtcnmajndackohaaGreatDoor
open Go.RowKit
/-- The cells of a packet that has gone. -/
def gcs (p : Pk) : List Value := [.int .i64 p.flow, .int .i64 p.seq, .int .i64 p.size, .int .i64 p.ready, .int .i64 p.start, .int .i64 (p.start + p.size)]
def gcells : List Pk → List Value
  | [] => []
  | p :: l => gcs p ++ gcells l
/-- How many packets of flows have not begun. -/
def Ln.waits (x : Ln) : Nat := x.pk.countP fun p => decide (0 ≤ p.flow) && decide (p.start < 0) && !p.dropped
/-- The numbers of the flows that are so. -/
def Ln.ids (x : Ln) (is : Int) : List Nat := (List.range x.fl.length).filter fun k => decide (isOf x.fl k = is)
def ncells (l : List Nat) : List Value := l.map fun (k : Nat) => .int .i64 (k : Int)
/-- The program's calls do what the document's line does. R w P x F: the line at block P is x; F are its blocks. -/
structure LineJ (W : World) (R : World → Nat → Ln → (Nat → Prop) → Prop) : Prop where
  ge : ∀ {w P x F}, R w P x F → ∀ i, F i → W.heap.size ≤ i ∧ i < w.heap.size
  inv : ∀ {w P x F}, R w P x F → Lnv x
  keep : ∀ {w w' P x F} {S : Nat → Prop}, R w P x F → Only S w w' → (∀ i, S i → ¬ F i) → R w' P x F
  new : ∀ (w : World) (v : Value) (l : List Fl), Below W.heap.size W w → Fls w v l → (∀ f ∈ l, f.may) → l.length ≤ 6 →
    Calls Tryz.prog 32 #[v] w fun e w' => ∃ P F, e = .returned (.tuple #[.pointer (some ⟨P, 0, none⟩), .int .i64 0]) ∧ R w' P (Ln.new l) F ∧ (∀ i, F i → w.heap.size ≤ i) ∧ Below w.heap.size w w'
  send : ∀ (w : World) (P : Nat) (x : Ln) (F : Nat → Prop) (n : Nat) (k s : Int), Below W.heap.size W w → R w P x F → Sml x n → n ≤ 2000000 → -9223372036854775808 ≤ k → k ≤ 9223372036854775807 → -9223372036854775808 ≤ s → s ≤ 9223372036854775807 →
    Calls Tryz.prog 24 #[.pointer (some ⟨P, 0, none⟩), .int .i64 k, .int .i64 s] w fun e w' => e = .returned (.int .i64 (x.send k s).1) ∧ ∃ F', R w' P (x.send k s).2 F' ∧ Only F w w' ∧ ∀ i, F' i → F i ∨ w.heap.size ≤ i
  other : ∀ (w : World) (P : Nat) (x : Ln) (F : Nat → Prop) (n : Nat) (s : Int), Below W.heap.size W w → R w P x F → Sml x n → n ≤ 2000000 → -9223372036854775808 ≤ s → s ≤ 9223372036854775807 →
    Calls Tryz.prog 21 #[.pointer (some ⟨P, 0, none⟩), .int .i64 s] w fun e w' => e = .returned (.int .i64 (x.other s).1) ∧ ∃ F', R w' P (x.other s).2 F' ∧ Only F w w' ∧ ∀ i, F' i → F i ∨ w.heap.size ≤ i
  run : ∀ (w : World) (P : Nat) (x : Ln) (F : Nat → Prop) (n : Nat) (t : Int), Below W.heap.size W w → R w P x F → Sml x n → n ≤ 2000000 → -9223372036854775808 ≤ t → t ≤ 9223372036854775807 →
    Calls Tryz.prog 41 #[.pointer (some ⟨P, 0, none⟩), .int .i64 t] w fun e w' => e = .returned (.int .i64 (x.run t).1) ∧ ∃ F', R w' P (x.run t).2 F' ∧ Only F w w' ∧ ∀ i, F' i → F i ∨ w.heap.size ≤ i
  gone : ∀ (w : World) (P : Nat) (x : Ln) (F : Nat → Prop) (n : Nat), Below W.heap.size W w → R w P x F → Sml x n → n ≤ 2000000 →
    Calls Tryz.prog 42 #[.pointer (some ⟨P, 0, none⟩)] w fun e w' => ∃ v F', e = .returned v ∧ w'.ownsRow w.heap.size 63 6 v x.gone.1.length (gcells x.gone.1) ∧ R w' P x.gone.2 F' ∧ Only F w w' ∧ (∀ i, F' i → F i ∨ w.heap.size ≤ i) ∧ ∀ g, v.ownBlock = some g → ¬ F' g
  setup : ∀ (w : World) (P : Nat) (x : Ln) (F : Nat → Prop) (n : Nat) (f : Fl), Below W.heap.size W w → R w P x F → Sml x n → n ≤ 2000000 → x.fl.length < 1500000 →
    Calls Tryz.prog 56 #[.pointer (some ⟨P, 0, none⟩), .agg #[.int .i64 f.s, .int .i64 f.p, .int .i64 f.b, .int .i64 f.r, .int .i64 f.d]] w fun e w' => e = .returned (.tuple #[.int .i64 (x.setup f).1.1, .int .i64 (x.setup f).1.2.1, .int .i64 (x.setup f).1.2.2]) ∧ ∃ F', R w' P (x.setup f).2 F' ∧ Only F w w' ∧ ∀ i, F' i → F i ∨ w.heap.size ≤ i
  teardown : ∀ (w : World) (P : Nat) (x : Ln) (F : Nat → Prop) (n : Nat) (k : Int), Below W.heap.size W w → R w P x F → Sml x n → n ≤ 2000000 → -9223372036854775808 ≤ k → k ≤ 9223372036854775807 →
    Calls Tryz.prog 57 #[.pointer (some ⟨P, 0, none⟩), .int .i64 k] w fun e w' => e = .returned (.int .i64 (x.teardown k).1) ∧ ∃ F', R w' P (x.teardown k).2 F' ∧ Only F w w' ∧ ∀ i, F' i → F i ∨ w.heap.size ≤ i
/-- And Look. -/
structure LineK (W : World) (R : World → Nat → Ln → (Nat → Prop) → Prop) : Prop extends LineJ W R where
  look : ∀ (w : World) (P : Nat) (x : Ln) (F : Nat → Prop) (n : Nat), Below W.heap.size W w → R w P x F → Sml x n → n ≤ 2000000 →
    Calls Tryz.prog 39 #[.pointer (some ⟨P, 0, none⟩)] w fun e w' => ∃ (vl vs : Value) (zl zs : List Int), e = .returned (.agg #[.int .i64 x.now, vl, vs, .int .i64 (x.waits : Int), .int .i64 (x.waiting (-1) : Int), .bool x.busy]) ∧
      w'.ownsRow w.heap.size 3 1 vl zl.length (zl.map fun (k : Int) => .int .i64 k) ∧ w'.ownsRow w.heap.size 3 1 vs zs.length (zs.map fun (k : Int) => .int .i64 k) ∧ (∀ g, vl.ownBlock = some g → vs.ownBlock ≠ some g) ∧ Below w.heap.size w w'
end Go.Proofs.YtcnmajndackohaaGreatDoor
/-
  Plain: packets of size 1 that are brought all at once become ready as fast as may be.
-/
namespace Go.Proofs.YtcnmajndackohaaGreatDoor
end Go.Proofs.YtcnmajndackohaaGreatDoor
/-
  Plain: what is left, tick by tick; what began is known, what was told is told.
-/
namespace Go.Proofs.YtcnmajndackohaaGreatDoor
/-- What is left of the packets whose flow c tells. -/
def left (c : Int → Bool) (now : Int) (p : Pk) : Int := if c p.flow = true then rem now p else 0
def took (c : Int → Bool) : Option Int → Int
  | none => 0
  | some f => if c f = true then 1 else 0
theorem away_pk (x : Ln) : x.away.pk = x.pk ∧ x.away.now = x.now ∧ x.away.began = x.began := by
  unfold Ln.away; split <;> exact ⟨rfl, rfl, rfl⟩
/-- What has begun is known. -/
def Stb (x : Ln) : Prop := ∀ (i : Nat) p, x.pk[i]? = some p → 0 ≤ p.start → i ∈ x.began
theorem stb_new (l : List Fl) : Stb (Ln.new l) := fun i p h => by
  have : ([] : List Pk)[i]? = some p := h
  simp at this
theorem Stb.push {x : Ln} (h : Stb x) {p : Pk} (hs : p.start < 0) : Stb { x with pk := x.pk ++ [p] } := fun i q hq h0 => by
  rcases get_snoc hq with g | ⟨_, rfl⟩
  · exact h i q g h0
  · omega
theorem stb_send {x : Ln} (h : Stb x) (k size : Int) : Stb (x.send k size).2 := send_cases (P := Stb) h fun _ _ _ _ => h.push (show (-1 : Int) < 0 by decide)
theorem stb_other {x : Ln} (h : Stb x) (size : Int) : Stb (x.other size).2 := other_cases (P := Stb) h fun _ => h.push (show (-1 : Int) < 0 by decide)
theorem stb_away {x : Ln} (h : Stb x) : Stb x.away := by
  obtain ⟨a, _, c⟩ := away_pk x
  unfold Stb; rw [a, c]; exact h
theorem stb_tick {x : Ln} (h : Lnv x) (s : Stb x) : Stb x.tick := by
  rw [tick_adv]
  have s' := stb_away s
  refine adv_cases h.away (P := Stb) (fun _ _ _ _ _ _ _ _ _ _ => s') (fun _ _ => s') ?_
  intro l1 p l2 _ _ e _ _ i q hq h0
  have hq' : (l1 ++ beg x.away.now p :: l2)[i]? = some q := hq
  show i ∈ x.away.began ++ [l1.length]
  by_cases g : i = l1.length
  · simp [g]
  · refine List.mem_append.2 (.inl (s' i q ?_ h0))
    rw [e]
    rcases Nat.lt_or_ge i l1.length with k | k
    · rw [List.getElem?_append_left k] at hq' ⊢; exact hq'
    · rw [List.getElem?_append_right k] at hq' ⊢
      obtain ⟨j, hj⟩ : ∃ j, i - l1.length = j + 1 := ⟨i - l1.length - 1, by omega⟩
      rw [hj] at hq' ⊢; exact hq'
theorem get_untold {pk pk' : List Pk} (e : pk'.map untold = pk.map untold) {i : Nat} {p : Pk} (h : pk'[i]? = some p) : ∃ q, pk[i]? = some q ∧ untold q = untold p := by
  have : (pk'.map untold)[i]? = some (untold p) := by rw [List.getElem?_map, h]; rfl
  rw [e, List.getElem?_map] at this
  exact Option.map_eq_some_iff.1 this
theorem stb_gone {x : Ln} (s : Stb x) : Stb x.gone.2 := fun i p hp h0 => by
  obtain ⟨q, hq, e⟩ := get_untold (gone_untold x.now x.began x.pk) hp
  refine s i q hq ?_
  have : (untold q).start = (untold p).start := by rw [e]
  rw [show q.start = p.start from this]; exact h0
theorem stb_torn {x : Ln} (s : Stb x) (fl : List Stt) (k : Int) : Stb { x with fl := fl, pk := x.pk.map (drp x.now k) } := fun i p hp h0 => by
  have hp' : (x.pk.map (drp x.now k))[i]? = some p := hp
  rw [List.getElem?_map] at hp'
  obtain ⟨q, hq, rfl⟩ := Option.map_eq_some_iff.1 hp'
  exact s i q hq (by rw [(same_drp (now := x.now) k).st] at h0; exact h0)
end Go.Proofs.YtcnmajndackohaaGreatDoor
/-
  Plain: where flows do not fit, with the least violation t: what is brought at once is late.
-/
namespace Go.Proofs.YtcnmajndackohaaGreatDoor
end Go.Proofs.YtcnmajndackohaaGreatDoor
/-
  Plain: the bringing itself, and the end: something that Gone told was late.
-/
namespace Go.Proofs.YtcnmajndackohaaGreatDoor
theorem ut_flow {p q : Pk} (h : untold q = untold p) : q.flow = p.flow := by have := congrArg Pk.flow h; exact this
theorem ut_seq {p q : Pk} (h : untold q = untold p) : q.seq = p.seq := by have := congrArg Pk.seq h; exact this
theorem ut_ready {p q : Pk} (h : untold q = untold p) : q.ready = p.ready := by have := congrArg Pk.ready h; exact this
theorem ut_start {p q : Pk} (h : untold q = untold p) : q.start = p.start := by have := congrArg Pk.start h; exact this
theorem ut_dropped {p q : Pk} (h : untold q = untold p) : q.dropped = p.dropped := by have := congrArg Pk.dropped h; exact this
theorem mem_untold {pk pk' : List Pk} (e : pk'.map untold = pk.map untold) {p : Pk} (h : p ∈ pk') : ∃ q ∈ pk, untold q = untold p := by
  have : untold p ∈ pk.map untold := by rw [← e]; exact List.mem_map_of_mem h
  exact List.mem_map.1 this
/-- The line that Late begins with: a packet of none is under way. -/
def p0 : Pk := ⟨-1, 0, 8, 0, 0, false, false⟩
end Go.Proofs.YtcnmajndackohaaGreatDoor
/-
  Plain: of each flow packets begin in their order; what began, one by one.
-/
namespace Go.Proofs.YtcnmajndackohaaGreatDoor
theorem pickF_tie {now : Int} {fl : List Stt} {flows : Bool} : ∀ (l : List Pk) (i : Nat) (b : Option Bst),
    pickF now fl flows l i b = b ∨
    ∃ l1 p l2, l = l1 ++ p :: l2 ∧ elB now flows p = true ∧ pickF now fl flows l i b = some ⟨i + l1.length, key fl flows p, p.flow⟩ ∧ (∀ q ∈ l1, elB now flows q = true → key fl flows p < key fl flows q ∨ (key fl flows p = key fl flows q ∧ p.flow < q.flow)) ∧ ∀ c, b = some c → key fl flows p < c.due ∨ (key fl flows p = c.due ∧ p.flow < c.flow)
  | [], _, _ => .inl rfl
  | p :: l, i, b => by
    by_cases g : elB now flows p = true ∧ better fl flows p b = true
    · have e : pickF now fl flows (p :: l) i b = pickF now fl flows l (i + 1) (some ⟨i, key fl flows p, p.flow⟩) := by
        show pickF now fl flows l (i + 1) _ = _; rw [if_pos g]
      have hb : ∀ c, b = some c → key fl flows p < c.due ∨ (key fl flows p = c.due ∧ p.flow < c.flow) := by
        rintro c rfl
        have := g.2
        unfold better at this
        simpa only [Bool.or_eq_true, Bool.and_eq_true, decide_eq_true_eq] using this
      rcases pickF_tie l (i + 1) (some ⟨i, key fl flows p, p.flow⟩) with h1 | ⟨l1, q, l2, rfl, h2, h3, h4, h5⟩
      · exact .inr ⟨[], p, l, rfl, g.1, by rw [e, h1]; rfl, (fun q hq => by cases hq), hb⟩
      · have h5' : key fl flows q < key fl flows p ∨ (key fl flows q = key fl flows p ∧ q.flow < p.flow) := h5 _ rfl
        refine .inr ⟨p :: l1, q, l2, rfl, h2, by rw [e, h3]; simp; omega, ?_, ?_⟩
        · intro z hz he
          rcases List.mem_cons.1 hz with rfl | hz
          · exact h5'
          · exact h4 z hz he
        · intro c hc
          have := hb c hc
          omega
    · have e : pickF now fl flows (p :: l) i b = pickF now fl flows l (i + 1) b := by
        show pickF now fl flows l (i + 1) _ = _; rw [if_neg g]
      rcases pickF_tie l (i + 1) b with h1 | ⟨l1, q, l2, rfl, h2, h3, h4, h5⟩
      · exact .inl (by rw [e, h1])
      · refine .inr ⟨p :: l1, q, l2, rfl, h2, by rw [e, h3]; simp; omega, ?_, h5⟩
        intro z hz he
        rcases List.mem_cons.1 hz with rfl | hz
        · cases b with
          | none => exact absurd ⟨he, rfl⟩ g
          | some c =>
            have a := h5 c rfl
            have k : ¬ better fl flows z (some c) = true := fun k => g ⟨he, k⟩
            unfold better at k
            simp only [Bool.or_eq_true, Bool.and_eq_true, decide_eq_true_eq] at k
            omega
        · exact h4 z hz he
theorem split_uniq {α : Type} {l1 m1 : List α} {p q : α} {l2 m2 : List α} (h : l1 ++ p :: l2 = m1 ++ q :: m2) (hl : l1.length = m1.length) : l1 = m1 ∧ p = q ∧ l2 = m2 := by
  obtain ⟨a, b⟩ := List.append_inj h hl
  simp only [List.cons.injEq] at b
  exact ⟨a, b.1, b.2⟩
theorem first_tie {x : Ln} {flows : Bool} {l1 l2 : List Pk} {p : Pk} {b : Bst} (h : x.first flows = some b) (e : x.pk = l1 ++ p :: l2) (hi : b.i = l1.length) :
    elB x.now flows p = true ∧ ∀ q ∈ l1, elB x.now flows q = true → key x.fl flows p < key x.fl flows q ∨ (key x.fl flows p = key x.fl flows q ∧ p.flow < q.flow) := by
  unfold Ln.first at h
  rcases pickF_tie (now := x.now) (fl := x.fl) (flows := flows) x.pk 0 none with h1 | ⟨m1, q, m2, e2, h2, h3, h4, _⟩
  · rw [h1] at h; cases h
  · rw [h3] at h
    have hb : (⟨0 + m1.length, key x.fl flows q, q.flow⟩ : Bst) = b := Option.some.inj h
    have hl : m1.length = l1.length := by
      have : b.i = 0 + m1.length := by rw [← hb]
      omega
    obtain ⟨rfl, rfl, rfl⟩ := split_uniq (e2.symm.trans e) hl
    exact ⟨h2, h4⟩
theorem cfm_tail {f : Fl} {k : Int} : ∀ {a b : List Sk}, Cfm f k (a ++ b) → Cfm f k b
  | [], _, h => h
  | _ :: a, _, h => cfm_tail (a := a) h.2
/-- Of a flow packets are ready in their order. -/
theorem ready_order {x : Ln} (h : Lnv x) {l1 l2 : List Pk} {p : Pk} (e : x.pk = l1 ++ p :: l2) (h0 : 0 ≤ p.flow) (hr : 0 ≤ p.ready) : ∀ q ∈ l1, q.flow = p.flow → 0 ≤ q.ready ∧ q.ready ≤ p.ready := by
  intro q hq hf
  have hp : p ∈ x.pk := by rw [e]; simp
  have hl := h.own p hp h0
  have c := h.cf p.flow.toNat _ (List.getElem?_eq_getElem hl)
  rw [e, List.map_append, List.map_cons, List.reverse_append, List.reverse_cons, List.append_assoc] at c
  have c2 := cfm_tail c
  have c3 := c2.1 (show p.flow = (p.flow.toNat : Int) by omega) hr
  exact confL_ready c3.2 q.sk (List.mem_reverse.2 (List.mem_map_of_mem hq)) (show q.flow = (p.flow.toNat : Int) by omega)
/-- The packets of flow k that have begun. -/
def stf (k : Int) (p : Pk) : Bool := decide (p.flow = k) && decide (0 ≤ p.start)
/-- What began is B (in its order): of each flow in its order, one by one. -/
structure Od (x : Ln) (B : List Pk) : Prop where
  inv : Lnv x
  stb : Stb x
  sq : ∀ l1 p l2, x.pk = l1 ++ p :: l2 → p.seq = ((l1.countP fun q => decide (q.flow = p.flow) : Nat) : Int)
  pf : ∀ l1 p l2, x.pk = l1 ++ p :: l2 → 0 ≤ p.start → ∀ q ∈ l1, q.flow = p.flow → 0 ≤ q.start
  dr : ∀ l1 p l2, x.pk = l1 ++ p :: l2 → ∀ q ∈ l1, q.flow = p.flow → q.dropped = true → p.dropped = true
  dz : ∀ p ∈ x.pk, p.dropped = true → 0 ≤ p.flow ∧ p.start < 0 ∧ 1 ≤ isOf x.fl p.flow
  od : ∀ p ∈ x.pk, p.flow < 0 → p.flow = -1 ∧ 0 ≤ p.ready ∧ p.ready ≤ x.now
  bl : B.length = x.began.length
  ba : ∀ (j i : Nat), x.began[j]? = some i → ∃ p, x.pk[i]? = some p ∧ B[j]? = some (untold p)
  bo : ∀ b1 b c b2, B = b1 ++ b :: c :: b2 → b.start + b.size ≤ c.start
  nd : x.began.Nodup
  fb : ∀ k, B.filter (fun p => decide (p.flow = k)) = (x.pk.filter (stf k)).map untold
theorem od_new {l : List Fl} (h : ∀ f ∈ l, f.may) : Od (Ln.new l) [] := by
  refine ⟨lnv_new h, stb_new l, ?_, ?_, ?_, ?_, ?_, rfl, ?_, ?_, List.nodup_nil, fun _ => rfl⟩
  · intro l1 p l2 e; have e' : [] = l1 ++ p :: l2 := e; simp at e'
  · intro l1 p l2 e; have e' : [] = l1 ++ p :: l2 := e; simp at e'
  · intro l1 p l2 e; have e' : [] = l1 ++ p :: l2 := e; simp at e'
  · intro p hp; cases hp
  · intro p hp; cases hp
  · intro j i e; have e' : ([] : List Nat)[j]? = some i := e; simp at e'
  · intro b1 b c b2 e; simp at e
theorem snoc_split {α : Type} {l : List α} {x : α} {l1 : List α} {p : α} {l2 : List α} (h : l ++ [x] = l1 ++ p :: l2) : (l2 = [] ∧ l1 = l ∧ p = x) ∨ ∃ m, l2 = m ++ [x] ∧ l = l1 ++ p :: m := by
  rcases List.eq_nil_or_concat l2 with rfl | ⟨m, y, rfl⟩
  · left
    have := List.append_inj' h rfl
    simp at this
    exact ⟨rfl, this.1.symm, this.2.symm⟩
  · right
    rw [List.concat_eq_append] at h ⊢
    have h' : l ++ [x] = (l1 ++ p :: m) ++ [y] := by rw [h]; simp
    have := List.append_inj' h' rfl
    simp at this
    exact ⟨m, by rw [this.2], this.1⟩
/-- A packet is brought. -/
theorem Od.push {x : Ln} {B : List Pk} (o : Od x B) {p : Pk} (n : New x.now x.fl x.pk p) (hs : p.start < 0) (hq : p.seq = (x.seqOf p.flow : Int)) (hi : 0 ≤ p.flow → isOf x.fl p.flow = 0) (ho : p.flow < 0 → p.flow = -1 ∧ 0 ≤ p.ready ∧ p.ready ≤ x.now) (hst : Stb { x with pk := x.pk ++ [p] }) : Od { x with pk := x.pk ++ [p] } B := by
  refine ⟨o.inv.push n, hst, ?_, ?_, ?_, ?_, ?_, o.bl, ?_, o.bo, o.nd, ?_⟩
  · intro l1 q l2 e
    rcases snoc_split e with ⟨_, rfl, rfl⟩ | ⟨m, _, e'⟩
    · exact hq
    · exact o.sq l1 q m e'
  · intro l1 q l2 e h0
    rcases snoc_split e with ⟨_, rfl, rfl⟩ | ⟨m, _, e'⟩
    · omega
    · exact o.pf l1 q m e' h0
  · intro l1 q l2 e z hz hzf hzd
    rcases snoc_split e with ⟨_, rfl, rfl⟩ | ⟨m, _, e'⟩
    · have := o.dz z hz hzd
      rw [hzf] at this
      have := hi this.1
      omega
    · exact o.dr l1 q m e' z hz hzf hzd
  · intro q hq hd
    rcases List.mem_append.1 hq with hq | hq
    · exact o.dz q hq hd
    · obtain rfl := List.mem_singleton.1 hq; rw [n.dr] at hd; cases hd
  · intro q hq hf
    rcases List.mem_append.1 hq with hq | hq
    · exact o.od q hq hf
    · obtain rfl := List.mem_singleton.1 hq; exact ho hf
  · intro j i hj
    obtain ⟨q, hq, hb⟩ := o.ba j i hj
    refine ⟨q, ?_, hb⟩
    show (x.pk ++ [p])[i]? = some q
    rw [List.getElem?_append_left (List.getElem?_eq_some_iff.1 hq).1]; exact hq
  · intro k
    show _ = ((x.pk ++ [p]).filter (stf k)).map untold
    rw [List.filter_append, List.filter_cons_of_neg (by unfold stf; simp; omega), List.filter_nil, List.append_nil]
    exact o.fb k
theorem od_send {x : Ln} {B : List Pk} (o : Od x B) (k size : Int) : Od (x.send k size).2 B := by
  have hs := stb_send o.stb k size
  revert hs
  refine send_cases (P := fun y => Stb y → Od y B) (fun _ => o) fun st ha hi hz hs => ?_
  obtain ⟨k0, hk⟩ := at_some ha
  exact o.push (new_flow o.inv ha hi hz) (by show (-1 : Int) < 0; decide) rfl (fun _ => by show isOf x.fl k = 0; unfold isOf; rw [hk]; exact hi) (fun g => by have : k < 0 := g; omega) hs
theorem od_other {x : Ln} {B : List Pk} (o : Od x B) (size : Int) : Od (x.other size).2 B := by
  have hs := stb_other o.stb size
  revert hs
  refine other_cases (P := fun y => Stb y → Od y B) (fun _ => o) fun hz hs => ?_
  exact o.push (new_none hz) (by show (-1 : Int) < 0; decide) rfl (fun g => absurd (show (0 : Int) ≤ -1 from g) (by decide)) (fun _ => ⟨rfl, o.inv.n0, Int.le_refl _⟩) hs
/-- Only flows change. -/
theorem Od.flows {x : Ln} {B : List Pk} (o : Od x B) {fl : List Stt} (h : Lnv { x with fl := fl }) (hi : ∀ p ∈ x.pk, 1 ≤ isOf x.fl p.flow → 0 ≤ p.flow → 1 ≤ isOf fl p.flow) : Od { x with fl := fl } B :=
  ⟨h, o.stb, o.sq, o.pf, o.dr, fun p hp hd => by have := o.dz p hp hd; exact ⟨this.1, this.2.1, hi p hp this.2.2 this.1⟩, o.od, o.bl, o.ba, o.bo, o.nd, o.fb⟩
theorem od_away {x : Ln} {B : List Pk} (o : Od x B) : Od x.away B := by
  have h := o.inv.away
  revert h
  refine away_cases (P := fun y => Lnv y → Od y B) (fun _ => o) fun _ _ h => o.flows h fun p _ hp _ => ?_
  rw [is_gone]; split <;> omega
theorem od_setup {x : Ln} {B : List Pk} (o : Od x B) (f : Fl) : Od (x.setup f).2 B := by
  have h := o.inv.setup f
  revert h
  refine setup_cases (P := fun y => Lnv y → Od y B) (fun _ => o) fun _ _ h => o.flows h fun p hp hi h0 => ?_
  have := o.inv.own p hp h0
  unfold isOf at hi ⊢
  rw [List.getElem?_append_left this]; exact hi
/-- All of the flow that are ahead of what begins have begun. -/
theorem ahead {x : Ln} {B : List Pk} (o : Od x B) {b : Bst} (hg : x.goes = some b) {l1 l2 : List Pk} {p : Pk} (e : x.pk = l1 ++ p :: l2) (hi : b.i = l1.length) (he : El x.now p) : ∀ q ∈ l1, q.flow = p.flow → 0 ≤ q.start := by
  intro q hq hf
  by_cases hs : 0 ≤ q.start
  · exact hs
  · exfalso
    have hnd : q.dropped = false := by
      cases hd : q.dropped with
      | false => rfl
      | true => have := o.dr l1 p l2 e q hq hf hd; rw [he.2.1] at this; cases this
    have hqm : q ∈ x.pk := by rw [e]; simp [hq]
    unfold Ln.goes at hg
    split at hg
    · rename_i b' hb
      obtain rfl := Option.some.inj hg
      obtain ⟨hel, ht⟩ := first_tie hb e hi
      have hfl := ((elB_iff _ _ _).1 hel).2.2 rfl
      have hr := ready_order o.inv e hfl he.2.2.1 q hq hf
      have := ht q hq ((elB_iff _ _ _).2 ⟨⟨by omega, hnd, hr.1, by have := he.2.2.2; omega⟩, by simp [hf, hfl]⟩)
      simp only [key, if_true] at this
      rw [hf] at this
      omega
    · obtain ⟨hel, ht⟩ := first_tie hg e hi
      have hfl : p.flow < 0 := by
        have := ((elB_iff _ _ _).1 hel).2
        by_cases g : 0 ≤ p.flow
        · have := this.1 g; cases this
        · omega
      have hr := (o.od q hqm (by omega)).2
      have := ht q hq ((elB_iff _ _ _).2 ⟨⟨by omega, hnd, hr.1, hr.2⟩, by
        constructor
        · intro g; omega
        · intro g; cases g⟩)
      simp [key] at this
      omega
theorem filter_mem_nil {α : Type} {f : α → Bool} {l : List α} (h : ∀ x ∈ l, f x = false) : l.filter f = [] := by
  rw [List.filter_eq_nil_iff]; intro x hx; rw [h x hx]; decide
end Go.Proofs.YtcnmajndackohaaGreatDoor
/-
  Plain: the order holds behind each call.
-/
namespace Go.Proofs.YtcnmajndackohaaGreatDoor
theorem split3 {α : Type} {l1 l2 m1 m2 : List α} {a q : α} (h : l1 ++ a :: l2 = m1 ++ q :: m2) :
    (∃ r, l1 = m1 ++ q :: r ∧ m2 = r ++ a :: l2) ∨ (m1 = l1 ∧ q = a ∧ m2 = l2) ∨ ∃ r, m1 = l1 ++ a :: r ∧ l2 = r ++ q :: m2 := by
  rcases List.append_eq_append_iff.1 h with ⟨r, e1, e2⟩ | ⟨r, e1, e2⟩
  · cases r with
    | nil =>
      simp at e1 e2
      exact .inr (.inl ⟨e1, e2.1.symm, e2.2.symm⟩)
    | cons b r =>
      simp only [List.cons_append, List.cons.injEq] at e2
      obtain ⟨rfl, e2⟩ := e2
      exact .inr (.inr ⟨r, e1, e2⟩)
  · cases r with
    | nil =>
      simp at e1 e2
      exact .inr (.inl ⟨e1.symm, e2.1, e2.2⟩)
    | cons b r =>
      simp only [List.cons_append, List.cons.injEq] at e2
      obtain ⟨rfl, e2⟩ := e2
      exact .inl ⟨r, e1, e2⟩
theorem adv_cases2 {x : Ln} (h : Lnv x) {P : Ln → Prop} (h1 : P { x with now := x.now + 1 })
    (h3 : ∀ l1 p l2 b, x.goes = some b → b.i = l1.length → (∀ q ∈ x.pk, done x.now q) → x.pk = l1 ++ p :: l2 → El x.now p → P ⟨x.now + 1, x.fl, l1 ++ beg x.now p :: l2, x.began ++ [l1.length]⟩) : P x.adv := by
  cases e : x.busy with
  | true =>
    have : x.adv = { x with now := x.now + 1 } := by unfold Ln.adv Ln.begins; rw [if_pos e]
    rw [this]; exact h1
  | false =>
    have hall := h.idle e
    have ne : ¬ x.busy = true := by rw [e]; decide
    cases g : x.goes with
    | none =>
      have : x.adv = { x with now := x.now + 1 } := by unfold Ln.adv Ln.begins; rw [if_neg ne, g]
      rw [this]; exact h1
    | some b =>
      obtain ⟨l1, p, l2, ep, hi, he, _⟩ := goes_some g
      have : x.adv = ⟨x.now + 1, x.fl, l1 ++ beg x.now p :: l2, x.began ++ [l1.length]⟩ := by
        unfold Ln.adv Ln.begins; rw [if_neg ne, g]
        simp only [hi]
        rw [ep, modify_at]
      rw [this]
      exact h3 l1 p l2 b g hi hall ep he
theorem get_beg {l1 l2 : List Pk} {p q : Pk} {i : Nat} (h : (l1 ++ p :: l2)[i]? = some q) (hi : i ≠ l1.length) (z : Pk) : (l1 ++ z :: l2)[i]? = some q := by
  rcases Nat.lt_or_ge i l1.length with g | g
  · rw [List.getElem?_append_left g] at h ⊢; exact h
  · rw [List.getElem?_append_right g] at h ⊢
    obtain ⟨j, hj⟩ : ∃ j, i - l1.length = j + 1 := ⟨i - l1.length - 1, by omega⟩
    rw [hj] at h ⊢; exact h
/-- What began is of the line. -/
theorem Od.mem {x : Ln} {B : List Pk} (o : Od x B) {b : Pk} (hb : b ∈ B) : ∃ p ∈ x.pk, b = untold p ∧ 0 ≤ p.start := by
  obtain ⟨j, hj⟩ := List.mem_iff_getElem?.1 hb
  have hl : j < x.began.length := by rw [← o.bl]; exact (List.getElem?_eq_some_iff.1 hj).1
  obtain ⟨p, hp, hB⟩ := o.ba j _ (List.getElem?_eq_getElem hl)
  rw [hj] at hB
  obtain ⟨p', hp', h0⟩ := o.inv.bg _ (List.getElem_mem hl)
  obtain rfl : p = p' := Option.some.inj (hp.symm.trans hp')
  exact ⟨p, List.mem_of_getElem? hp, Option.some.inj hB, h0⟩
theorem od_tick {x : Ln} {B : List Pk} (o0 : Od x B) : ∃ C, Od x.tick (B ++ C) := by
  have hL := o0.inv.tick
  have hS := stb_tick o0.inv o0.stb
  have o := od_away o0
  rw [tick_adv] at hL hS ⊢
  generalize x.away = x at *
  clear o0
  revert hL hS
  refine adv_cases2 o.inv (P := fun y => Lnv y → Stb y → ∃ C, Od y (B ++ C)) ?_ ?_
  · intro hL hS
    refine ⟨[], ?_⟩
    rw [List.append_nil]
    exact ⟨hL, hS, o.sq, o.pf, o.dr, o.dz, fun p hp hf => by have := o.od p hp hf; exact ⟨this.1, this.2.1, by show p.ready ≤ x.now + 1; omega⟩, o.bl, o.ba, o.bo, o.nd, o.fb⟩
  · intro l1 p l2 b hg hi hall e he hL hS
    have hn := o.inv.n0
    have ha := ahead o hg e hi he
    have hni : l1.length ∉ x.began := fun hc => by
      obtain ⟨q, hq, h0⟩ := o.inv.bg _ hc
      rw [e, get_at] at hq
      obtain rfl := Option.some.inj hq
      have := he.1; omega
    have hbeh : ∀ q ∈ l2, q.flow = p.flow → q.start < 0 := fun q hq hf => by
      by_cases g : q.start < 0
      · exact g
      · exfalso
        obtain ⟨r1, r2, rfl⟩ := List.append_of_mem hq
        have := o.pf (l1 ++ p :: r1) q r2 (by rw [e]; simp) (by omega) p (by simp) hf.symm
        have := he.1; omega
    refine ⟨[untold (beg x.now p)], hL, hS, ?_, ?_, ?_, ?_, ?_, ?_, ?_, ?_, ?_, ?_⟩
    · intro m1 q m2 es
      rcases split3 es with ⟨r, rfl, rfl⟩ | ⟨rfl, rfl, rfl⟩ | ⟨r, rfl, rfl⟩
      · exact o.sq m1 q (r ++ p :: l2) (by rw [e]; simp)
      · exact o.sq m1 p m2 e
      · have := o.sq (l1 ++ p :: r) q m2 (by rw [e]; simp)
        rw [this, List.countP_append, List.countP_append, List.countP_cons, List.countP_cons]
        rfl
    · intro m1 q m2 es h0 z hz hf
      rcases split3 es with ⟨r, rfl, rfl⟩ | ⟨rfl, rfl, rfl⟩ | ⟨r, rfl, rfl⟩
      · exact o.pf m1 q (r ++ p :: l2) (by rw [e]; simp) h0 z hz hf
      · exact ha z hz hf
      · have k := o.pf (l1 ++ p :: r) q m2 (by rw [e]; simp) h0
        rcases mem_beg hz with rfl | hz
        · exact hn
        · exact k z hz hf
    · intro m1 q m2 es z hz hf hd
      rcases split3 es with ⟨r, rfl, rfl⟩ | ⟨rfl, rfl, rfl⟩ | ⟨r, rfl, rfl⟩
      · exact o.dr m1 q (r ++ p :: l2) (by rw [e]; simp) z hz hf hd
      · exact o.dr m1 p m2 e z hz hf hd
      · rcases mem_beg hz with rfl | hz
        · have : p.dropped = true := hd
          rw [he.2.1] at this; cases this
        · exact o.dr (l1 ++ p :: r) q m2 (by rw [e]; simp) z hz hf hd
    · intro q hq hd
      rcases mem_beg hq with rfl | hq
      · have : p.dropped = true := hd
        rw [he.2.1] at this; cases this
      · exact o.dz q (by rw [e]; exact hq) hd
    · intro q hq hf
      rcases mem_beg hq with rfl | hq
      · have := o.od p (by rw [e]; simp) hf
        exact ⟨this.1, this.2.1, by show p.ready ≤ x.now + 1; omega⟩
      · have := o.od q (by rw [e]; exact hq) hf
        exact ⟨this.1, this.2.1, by show q.ready ≤ x.now + 1; omega⟩
    · rw [List.length_append, List.length_append, o.bl]; rfl
    · intro j i hj
      rcases get_snoc hj with g | ⟨rfl, rfl⟩
      · obtain ⟨q, hq, hB⟩ := o.ba j i g
        have hne : i ≠ l1.length := fun c => hni (by rw [← c]; exact List.mem_of_getElem? g)
        rw [e] at hq
        exact ⟨q, get_beg hq hne _, by rw [List.getElem?_append_left (List.getElem?_eq_some_iff.1 hB).1]; exact hB⟩
      · exact ⟨beg x.now p, get_at, by rw [← o.bl, List.getElem?_append_right (Nat.le_refl _), Nat.sub_self]; rfl⟩
    · intro b1 b c b2 es
      have es' : B ++ [untold (beg x.now p)] = (b1 ++ [b]) ++ c :: b2 := by rw [es]; simp
      rcases snoc_split es' with ⟨_, h2, rfl⟩ | ⟨m, _, h2⟩
      · have hbB : b ∈ B := by rw [← h2]; simp
        obtain ⟨q, hq, rfl, h0⟩ := o.mem hbB
        have := hall q hq
        unfold done at this
        show q.start + q.size ≤ x.now
        omega
      · exact o.bo b1 b c m (by rw [h2]; simp)
    · rw [List.nodup_append]
      refine ⟨o.nd, by simp, ?_⟩
      intro a ha' c hc
      obtain rfl := List.mem_singleton.1 hc
      rintro rfl
      exact hni ha'
    · intro k
      rw [List.filter_append, o.fb k, e]
      simp only [List.filter_append, List.filter_cons, List.filter_nil]
      have n1 : stf k p = false := by unfold stf; have := he.1; simp; intro _; omega
      have hf : (untold (beg x.now p)).flow = p.flow := rfl
      rw [n1, hf]
      by_cases hk : p.flow = k
      · have n2 : stf k (beg x.now p) = true := by
          unfold stf
          simp only [Bool.and_eq_true, decide_eq_true_eq]
          exact ⟨hk, hn⟩
        have n3 : l2.filter (stf k) = [] := filter_mem_nil fun q hq => by
          unfold stf
          by_cases g : q.flow = k
          · have := hbeh q hq (by rw [g, hk]); simp; intro _; omega
          · simp [g]
        rw [n2, n3]
        simp [hk]
      · have n2 : stf k (beg x.now p) = false := by
          unfold stf
          have : ¬ (beg x.now p).flow = k := hk
          simp [this]
        rw [n2]
        simp [hk]
theorem untold_split {pk pk' : List Pk} (e : pk'.map untold = pk.map untold) {m1 m2 : List Pk} {q : Pk} (h : pk' = m1 ++ q :: m2) : ∃ n1 z n2, pk = n1 ++ z :: n2 ∧ n1.map untold = m1.map untold ∧ untold z = untold q := by
  rw [h, List.map_append, List.map_cons] at e
  obtain ⟨n1, r, e1, e2, e3⟩ := List.map_eq_append_iff.1 e.symm
  obtain ⟨z, n2, e4, e5, _⟩ := List.map_eq_cons_iff.1 e3
  exact ⟨n1, z, n2, by rw [e1, e4], e2, e5⟩
theorem countP_untold {n m : List Pk} (e : n.map untold = m.map untold) (k : Int) : (n.countP fun q => decide (q.flow = k)) = m.countP fun q => decide (q.flow = k) := by
  have : (n.map untold).countP (fun q => decide (q.flow = k)) = (m.map untold).countP fun q => decide (q.flow = k) := by rw [e]
  rw [List.countP_map, List.countP_map] at this
  exact this
theorem filter_untold {n m : List Pk} (e : n.map untold = m.map untold) (k : Int) : (n.filter (stf k)).map untold = (m.filter (stf k)).map untold := by
  have : (n.map untold).filter (stf k) = (m.map untold).filter (stf k) := by rw [e]
  rw [List.filter_map, List.filter_map] at this
  exact this
theorem od_gone {x : Ln} {B : List Pk} (o : Od x B) : Od x.gone.2 B := by
  have e := gone_untold x.now x.began x.pk
  have hL := o.inv.gone
  have hS := stb_gone o.stb
  refine ⟨hL, hS, ?_, ?_, ?_, ?_, ?_, o.bl, ?_, o.bo, o.nd, ?_⟩
  · intro m1 q m2 h
    obtain ⟨n1, z, n2, e1, e2, e3⟩ := untold_split e h
    have := o.sq n1 z n2 e1
    rw [ut_seq e3, ut_flow e3, countP_untold e2] at this
    exact this
  · intro m1 q m2 h h0 y hy hf
    obtain ⟨n1, z, n2, e1, e2, e3⟩ := untold_split e h
    obtain ⟨w, hw, ew⟩ := mem_untold e2.symm hy
    have := o.pf n1 z n2 e1 (by rw [ut_start e3]; exact h0) w hw (by rw [ut_flow ew, ut_flow e3]; exact hf)
    rw [ut_start ew] at this; exact this
  · intro m1 q m2 h y hy hf hd
    obtain ⟨n1, z, n2, e1, e2, e3⟩ := untold_split e h
    obtain ⟨w, hw, ew⟩ := mem_untold e2.symm hy
    have := o.dr n1 z n2 e1 w hw (by rw [ut_flow ew, ut_flow e3]; exact hf) (by rw [ut_dropped ew]; exact hd)
    rw [ut_dropped e3] at this; exact this
  · intro p hp hd
    obtain ⟨w, hw, ew⟩ := mem_untold e hp
    have := o.dz w hw (by rw [ut_dropped ew]; exact hd)
    rw [ut_flow ew, ut_start ew] at this; exact this
  · intro p hp hf
    obtain ⟨w, hw, ew⟩ := mem_untold e hp
    have := o.od w hw (by rw [ut_flow ew]; exact hf)
    rw [ut_flow ew, ut_ready ew] at this; exact this
  · intro j i hj
    obtain ⟨p, hp, hB⟩ := o.ba j i hj
    obtain ⟨q, hq, eq⟩ := get_untold e.symm hp
    exact ⟨q, hq, by rw [eq]; exact hB⟩
  · intro k
    rw [o.fb k]
    exact (filter_untold e k).symm
theorem drp_started {now k : Int} {p : Pk} (h : 0 ≤ p.start) : drp now k p = p := by
  unfold drp; rw [if_neg (by omega)]
theorem od_torn {x : Ln} {B : List Pk} (o : Od x B) {k : Int} {st : Stt} (ha : x.at? k = some st) (hi : st.is = 0) : Od { x with fl := x.fl.set k.toNat ⟨st.f, 1⟩, pk := x.pk.map (drp x.now k) } B := by
  obtain ⟨k0, hk⟩ := at_some ha
  have hl : k.toNat < x.fl.length := (List.getElem?_eq_some_iff.1 hk).1
  have s := same_drp (now := x.now) k
  have sp : ∀ m1 q m2, x.pk.map (drp x.now k) = m1 ++ q :: m2 → ∃ n1 z n2, x.pk = n1 ++ z :: n2 ∧ m1 = n1.map (drp x.now k) ∧ q = drp x.now k z := fun m1 q m2 h => by
    obtain ⟨n1, r, e1, e2, e3⟩ := List.map_eq_append_iff.1 h
    obtain ⟨z, n2, e4, e5, _⟩ := List.map_eq_cons_iff.1 e3
    exact ⟨n1, z, n2, by rw [e1, e4], e2.symm, e5.symm⟩
  refine ⟨o.inv.torn ha hi, stb_torn o.stb _ k, ?_, ?_, ?_, ?_, ?_, o.bl, ?_, o.bo, o.nd, ?_⟩
  · intro m1 q m2 h
    obtain ⟨n1, z, n2, e1, rfl, rfl⟩ := sp m1 q m2 h
    have := o.sq n1 z n2 e1
    have hq : (drp x.now k z).seq = z.seq := by unfold drp; split <;> rfl
    rw [hq, this, List.countP_map, s.flow]
    congr 1
    refine List.countP_congr fun y _ => ?_
    simp only [Function.comp, s.flow]
  · intro m1 q m2 h h0 y hy hf
    obtain ⟨n1, z, n2, e1, rfl, rfl⟩ := sp m1 q m2 h
    obtain ⟨w, hw, rfl⟩ := List.mem_map.1 hy
    rw [s.st] at h0 ⊢
    rw [s.flow, s.flow] at hf
    exact o.pf n1 z n2 e1 h0 w hw hf
  · intro m1 q m2 h y hy hf hd
    obtain ⟨n1, z, n2, e1, rfl, rfl⟩ := sp m1 q m2 h
    obtain ⟨w, hw, rfl⟩ := List.mem_map.1 hy
    rw [s.flow, s.flow] at hf
    by_cases hwd : w.dropped = true
    · have := o.dr n1 z n2 e1 w hw hf hwd
      cases hz : (drp x.now k z).dropped with
      | true => rfl
      | false => have := s.dr z hz; rw [o.dr n1 z n2 e1 w hw hf hwd] at this; cases this
    · have hwd' : w.dropped = false := by simpa using hwd
      have hc : w.flow = k ∧ w.start < 0 ∧ (w.ready < 0 ∨ x.now < w.ready) := by
        unfold drp at hd
        split at hd
        · assumption
        · rw [hwd'] at hd; cases hd
      have hzs : z.start < 0 := by
        by_cases g : z.start < 0
        · exact g
        · have := o.pf n1 z n2 e1 (by omega) w hw hf; omega
      have hzr : z.ready < 0 ∨ x.now < z.ready := by
        by_cases g : z.ready < 0
        · exact .inl g
        · have := ready_order o.inv e1 (by omega) (by omega) w hw hf
          omega
      unfold drp
      rw [if_pos ⟨by omega, hzs, hzr⟩]
  · intro p hp hd
    obtain ⟨w, hw, rfl⟩ := List.mem_map.1 hp
    rw [s.flow, s.st]
    by_cases hwd : w.dropped = true
    · have := o.dz w hw hwd
      refine ⟨this.1, this.2.1, ?_⟩
      rw [is_set _ _ _ _ _ hl this.1]
      split
      · decide
      · exact this.2.2
    · have hwd' : w.dropped = false := by simpa using hwd
      have hc : w.flow = k ∧ w.start < 0 ∧ (w.ready < 0 ∨ x.now < w.ready) := by
        unfold drp at hd
        split at hd
        · assumption
        · rw [hwd'] at hd; cases hd
      refine ⟨by omega, hc.2.1, ?_⟩
      rw [is_set _ _ _ _ _ hl (by omega), if_pos (by omega)]
      decide
  · intro p hp hf
    obtain ⟨w, hw, rfl⟩ := List.mem_map.1 hp
    rw [s.flow] at hf ⊢
    rw [s.ready]
    exact o.od w hw hf
  · intro j i hj
    obtain ⟨p, hp, hB⟩ := o.ba j i hj
    obtain ⟨p', hp', h0⟩ := o.inv.bg i (List.mem_of_getElem? hj)
    obtain rfl : p = p' := Option.some.inj (hp.symm.trans hp')
    refine ⟨p, ?_, hB⟩
    show (x.pk.map (drp x.now k))[i]? = _
    rw [List.getElem?_map, hp]
    show some (drp x.now k p) = some p
    rw [drp_started h0]
  · intro j
    show _ = ((x.pk.map (drp x.now k)).filter (stf j)).map untold
    rw [o.fb j, List.filter_map]
    have h1 : (stf j ∘ drp x.now k) = stf j := funext fun p => by
      unfold stf
      simp only [Function.comp, s.flow, s.st]
    rw [h1, List.map_map]
    refine List.map_congr_left fun p hp => ?_
    have := (List.mem_filter.1 hp).2
    unfold stf at this
    simp only [Bool.and_eq_true, decide_eq_true_eq] at this
    show untold p = untold (drp x.now k p)
    rw [drp_started this.2]
end Go.Proofs.YtcnmajndackohaaGreatDoor
