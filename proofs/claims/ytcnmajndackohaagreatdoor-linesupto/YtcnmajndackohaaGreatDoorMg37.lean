import Derived.Test.YtcnmajndackohaaGreatDoorMg35
/-
  What the program's New does.
-/
namespace Go.Proofs.YtcnmajndackohaaGreatDoor
open Go.RowKit
attribute [local go_sem ↓] Go.wp_at_zero Go.wp_at_succ
theorem pm_base (w : World) (P : Nat) : PM ((w.alloc (.map #[] 0)).alloc (.cells (PS.base w.heap.size).cs 116)) P (PS.base w.heap.size) := by
  have hI : Is ((w.alloc (.map #[] 0)).alloc (.cells (PS.base w.heap.size).cs 116)) (w.heap.size + 1) 116 (PS.base w.heap.size).cs := is_new2 w _ _ _
  refine ⟨⟨fun i hi => ?_, hI, ?_, ?_, World.ownsRow_nil _ _ _ _, fun g hg => (by cases hg), ⟨off_nil _ _ _, fun g hg => (by cases hg)⟩, ⟨World.ownsRow_nil _ _ _ _, fun g hg => (by cases hg)⟩, fun k f hf => (by cases hf), fun k h0 hk => (by cases hk)⟩, ?_⟩
  · have h1 : w.heap.size + 2 ≤ i := by simpa using hi
    show (if i = w.heap.size then 3 else if i = w.heap.size + 1 then 2 else 0) = 0
    rw [if_neg (by omega), if_neg (by omega)]
  · show (if w.heap.size + 1 = w.heap.size then 3 else if w.heap.size + 1 = w.heap.size + 1 then 2 else 0) = 2
    rw [if_neg (by omega), if_pos rfl]
  · show (if w.heap.size = w.heap.size then 3 else _) = 3
    rw [if_pos rfl]
  · exact (mapF_made w).below (bel_one _)
theorem base_own (b i : Nat) (h : (PS.base b).o i ≠ 0) : b ≤ i := by
  rcases Nat.lt_or_ge i b with g | g
  · exfalso
    apply h
    show (if i = b then 3 else if i = b + 1 then 2 else 0) = 0
    rw [if_neg (by omega), if_neg (by omega)]
  · exact g
set_option maxRecDepth 100000 in
set_option maxHeartbeats 8000000 in
theorem pnew_some (g o c : Nat) (l : List Fl) (w : World) (P : Nat) (hw : Lies w g o l) (hl : l.length ≤ 6) (hm : ∀ f ∈ l, f.may) :
    Calls Tryz.prog 53 #[.slice (some ⟨g, o, none⟩) l.length c] w fun e w' => ∃ s rel, e = .returned (.tuple #[.pointer (some ⟨s.Q, 0, none⟩), .nilIface]) ∧ PM w' P s ∧ Sim (Ln.new l) s rel ∧ (∀ i, s.o i ≠ 0 → w.heap.size ≤ i) ∧ Below w.heap.size w w' := by
  have HC := hide (checkAll_some g o c l w hl hw hm)
  have HW := hide hw
  have HM := hide hm
  generalize hn : l.length = n at *
  have HN := hide hn
  clear hw hm hn
  go_enter Tryz.func53, Tryz.ntmps53
  go_wp2_with fail
  refine (unhide HC).mono ?_
  rintro e w1 ⟨rfl, hb1⟩
  have HB1 := hide hb1
  clear hb1 HC
  have hmk := run_makeMap (P := Tryz.prog) 111 w1
  have HPM := hide (show PM ((w1.alloc (.map #[] 0)).alloc (.cells #[.int .i64 0, .map (some w1.heap.size), .int .i64 0, .slice none 0 0, .slice none 0 0, .int .i64 0, .slice none 0 0] 116)) P (PS.base w1.heap.size) from pm_base w1 P)
  have HBw := hide (show Below w.heap.size w ((w1.alloc (.map #[] 0)).alloc (.cells #[.int .i64 0, .map (some w1.heap.size), .int .i64 0, .slice none 0 0, .slice none 0 0, .int .i64 0, .slice none 0 0] 116)) from bel_then (unhide HB1) (bel_then (bel_one _) (bel_one _)))
  have HSz := hide (unhide HB1).size
  go_wp2_with fail
  generalize ((w1.alloc (.map #[] 0)).alloc (.cells #[.int .i64 0, .map (some w1.heap.size), .int .i64 0, .slice none 0 0, .slice none 0 0, .int .i64 0, .slice none 0 0] 116)) = B at *
  have HBel := hide (show ∀ wr u, PTo B P (PS.base w1.heap.size) wr u → Below w.heap.size w wr from fun wr u hT =>
    (unhide HBw).trans (hT.ho.below (unhide HBw).size fun k hk e => by
      have h1 := base_own _ _ e
      have h2 := unhide HSz
      omega))
  clear hmk
  go_loopw [19] (fun v wr => ∃ (i : Nat) (u : PS), v = .int .i64 (i : Int) ∧ i ≤ n ∧ PTo B P (PS.base w1.heap.size) wr u ∧ Sim (Ln.new (l.take i)) u (fun _ => 0)) (fun v _ => n - (intOf v).toNat)
  case atStart => exact ⟨0, _, rfl, Nat.zero_le _, PTo.refl (unhide HPM), sim_base _⟩
  case round =>
    obtain ⟨i, u, rfl, hi, hT, hY⟩ := hrel
    have HT := hide hT
    have HY := hide hY
    clear hT hY
    by_cases hlt : i < n
    · have hkl : i < l.length := by rw [unhide HN]; exact hlt
      have hL := (unhide HW).below ((unhide HBel) wr u (unhide HT))
      have q0 := hL.c0 i hkl
      have q1 := hL.c1 i hkl
      have q2 := hL.c2 i hkl
      have q3 := hL.c3 i hkl
      have q4 := hL.c4 i hkl
      have hbw := hL.blk
      have HMf := hide (unhide HM l[i] (List.getElem_mem hkl))
      have HTk := hide (show l.take (i + 1) = l.take i ++ [l[i]] from List.take_succ_eq_append_getElem hkl)
      clear hL
      generalize hf : l[i] = f at *
      clear hf
      have hq := (unhide HT).q
      have hnum := (unhide HY).num
      have HAd := hide (padd (wr.alloc (.cells #[.int .i64 f.s, .int .i64 f.p, .int .i64 f.b, .int .i64 f.r, .int .i64 f.d] 35)) P u ((unhide HT).pm.below (bel_one _)) f (unhide HMf) (fun k hk => by
        cases hfk : u.fs k with
        | none => rfl
        | some g =>
          have := (unhide HY).lt hfk
          rw [hnum] at hk
          omega) (by
        rw [hnum]
        show ((l.take i).map _).length ≤ _
        rw [List.length_map, List.length_take]
        omega))
      rw [hq] at HAd
      unfold flV at HAd
      have HQ0 := hide hq
      clear hq hnum
      go_wp2_with fail
      refine (unhide HAd).mono ?_
      rintro e w2 ⟨rfl, a2, o2, hT2⟩
      have HT2 := hide (((unhide HT).below (bel_one _)).trans hT2)
      have HY2 := hide (show Sim (Ln.new (l.take (i + 1))) _ _ from by
        rw [unhide HTk, new_snoc]
        exact (unhide HY).comes (unhide HMf) ⟨[], by
          rw [← new_snoc, ← unhide HTk]
          exact od_new fun f' hf' => unhide HM f' (List.mem_of_mem_take hf')⟩ a2 o2)
      clear hT2 HAd q0 q1 q2 q3 q4
      go_wp2_with fail
      go_roundw
      case rel => exact ⟨i + 1, _, by go_num, by omega, unhide HT2, by rw [← unhide HQ0]; exact unhide HY2⟩
      case measure => simp [intOf]; omega
    · have hin : i = n := by omega
      have HIn := hide (show l.take i = l from List.take_of_length_le (by rw [unhide HN]; omega))
      have HQ := hide (show u.Q = w1.heap.size + 1 from (unhide HT).q)
      clear hin
      go_wp2_with fail
      go_ret2
      refine ⟨u, fun _ => 0, by rw [unhide HQ]; rfl, (unhide HT).pm, by have := unhide HY; rwa [unhide HIn] at this, fun j hj => ?_, unhide HBel wr u (unhide HT)⟩
      rcases Nat.lt_or_ge j w.heap.size with g' | g'
      · exfalso
        have h1 : j < B.heap.size := Nat.lt_of_lt_of_le g' (unhide HBw).size
        rw [(unhide HT).oo j h1] at hj
        have h2 := base_own _ _ hj
        have h3 := unhide HSz
        omega
      · exact g'
set_option maxRecDepth 100000 in
set_option maxHeartbeats 8000000 in
theorem pnew_nil (a : Option Addr) (c : Nat) (w : World) (P : Nat) :
    Calls Tryz.prog 53 #[.slice a 0 c] w fun e w' => ∃ s rel, e = .returned (.tuple #[.pointer (some ⟨s.Q, 0, none⟩), .nilIface]) ∧ PM w' P s ∧ Sim (Ln.new []) s rel ∧ (∀ i, s.o i ≠ 0 → w.heap.size ≤ i) ∧ Below w.heap.size w w' := by
  have HC := hide (checkAll_nil a c w)
  go_enter Tryz.func53, Tryz.ntmps53
  go_wp2_with fail
  refine (unhide HC).mono ?_
  rintro e w1 ⟨rfl, rfl⟩
  clear HC
  have hmk := run_makeMap (P := Tryz.prog) 111 w1
  have HPM := hide (show PM ((w1.alloc (.map #[] 0)).alloc (.cells #[.int .i64 0, .map (some w1.heap.size), .int .i64 0, .slice none 0 0, .slice none 0 0, .int .i64 0, .slice none 0 0] 116)) P (PS.base w1.heap.size) from pm_base w1 P)
  go_wp2_with fail
  go_rounds 1
  go_ret2
  exact ⟨PS.base w1.heap.size, fun _ => 0, rfl, unhide HPM, sim_base _, fun i hi => base_own _ _ hi, bel_then (bel_one _) (bel_one _)⟩
theorem pnew_F (v : Value) (l : List Fl) (w : World) (P : Nat) (hw : Fls w v l) (hl : l.length ≤ 6) (hm : ∀ f ∈ l, f.may) :
    Calls Tryz.prog 53 #[v] w fun e w' => ∃ s rel, e = .returned (.tuple #[.pointer (some ⟨s.Q, 0, none⟩), .nilIface]) ∧ PM w' P s ∧ Sim (Ln.new l) s rel ∧ (∀ i, s.o i ≠ 0 → w.heap.size ≤ i) ∧ Below w.heap.size w w' := by
  rcases hw with ⟨rfl, a, c, rfl⟩ | ⟨b, o, c, rfl, h⟩
  · exact pnew_nil a c w P
  · exact pnew_some b o c l w P h hl hm
end Go.Proofs.YtcnmajndackohaaGreatDoor
