import Derived.Test.YtcnmajndackohaaGreatDoorMg18
import Derived.Test.YtcnmajndackohaaGreatDoorMg19
/-
  What Most does at any flow and any number of ticks.
-/
namespace Go.Proofs.YtcnmajndackohaaGreatDoor
open Go.RowKit
theorem check_bad (s p b r d : Int) (a0 : Addr) (w : World) (g0 : w.cell? ⟨0, 0, none⟩ = some (.iface 242 (.pointer (some a0)))) (h : ¬ May s p b r d) :
    Calls Tryz.prog 67 #[.agg #[.int .i64 s, .int .i64 p, .int .i64 b, .int .i64 r, .int .i64 d]] w fun e w' => (∃ q, e = .returned (chn [q] a0)) ∧ Below w.heap.size w w' := by
  by_cases h1 : 2 ≤ s ∧ s ≤ 8
  · by_cases h2 : s ≤ b ∧ b ≤ 30
    · by_cases h3 : 0 ≤ r ∧ r ≤ 12
      · by_cases h4 : r ≤ p ∧ p ≤ 12
        · by_cases h5 : s ≤ d ∧ d ≤ 100
          · exact absurd ⟨h1.1, h1.2, h2.1, h2.2, h3.1, h4.1, h4.2, h5.1, h5.2⟩ h
          · exact check_bad5 s p b r d a0 w g0 h1.1 h1.2 h2.1 h2.2 h3.1 h3.2 h4.1 h4.2 (by omega)
        · exact check_bad4 s p b r d a0 w g0 h1.1 h1.2 h2.1 h2.2 h3.1 h3.2 (by omega)
      · exact check_bad3 s p b r d a0 w g0 h1.1 h1.2 h2.1 h2.2 (by omega)
    · exact check_bad2 s p b r d a0 w g0 h1.1 h1.2 (by omega)
  · exact check_bad1 s p b r d a0 w g0 (by omega)
set_option maxHeartbeats 1000000 in
theorem in_chn (q : ByteArray) (l : List ByteArray) (a : Addr) (w : World) :
    Calls Tryz.prog 46 #[.string q, chn l a] w fun e w' => e = .returned (chn (q :: l) a) ∧ w' = w := by
  obtain ⟨T, x, hx⟩ := chn_form l a
  rw [hx]
  refine (in_some q T x w).mono ?_
  rintro e w' ⟨rfl, rfl⟩
  exact ⟨ret_val (by show plc q (.iface T x) = plc q (chn l a); rw [hx]), rfl⟩
set_option maxHeartbeats 1000000 in
theorem errno_arg (l : List ByteArray) (a0 a1 : Addr) (w : World) (hg : Gl w a0 a1) :
    Calls Tryz.prog 28 #[chn l a0] w fun e w' => e = .returned (.int .i64 1) ∧ Below w.heap.size w w' := by
  have g0 := hg.e0
  clear hg
  generalize hE : chn l a0 = E
  have HE := hide hE
  clear hE
  go_enter Tryz.func28, Tryz.ntmps28
  go_wp2_with fail
  rw [← unhide HE]
  refine (is_top l a0 _).mono ?_
  rintro e w1 ⟨rfl, hb⟩
  have HB := hide hb
  clear hb
  rw [unhide HE]
  go_wp2_with fail
  go_ret
  exact ⟨rfl, unhide HB⟩
set_option maxHeartbeats 1000000 in
theorem violation_arg (l : List ByteArray) (a0 a1 : Addr) (w : World) (hg : Gl w a0 a1) :
    Calls Tryz.prog 27 #[chn l a0] w fun e w' => e = .returned (.int .i64 0) ∧ Below w.heap.size w w' := by
  have HG := hide hg
  clear hg
  generalize hE : chn l a0 = E
  have HE := hide hE
  clear hE
  go_enter Tryz.func27, Tryz.ntmps27
  go_wp2_with fail
  rw [← unhide HE]
  refine (as_top l a0 w.heap.size _ ((unhide HG).below (bel_one _)).et).mono ?_
  rintro e w1 ⟨rfl, hb⟩
  have HB := hide (bel_then (bel_one _) hb)
  clear hb
  rw [unhide HE]
  go_wp2_with fail
  go_ret
  exact ⟨rfl, unhide HB⟩
set_option maxHeartbeats 1000000 in
theorem fmost_bad (s p b r d t : Int) (a0 a1 : Addr) (w : World) (hg : Gl w a0 a1) (h : ¬ May s p b r d) :
    Calls Tryz.prog 62 #[.agg #[.int .i64 s, .int .i64 p, .int .i64 b, .int .i64 r, .int .i64 d], .int .i64 t] w fun e w' => (∃ l, e = .returned (.tuple #[.int .i64 0, chn l a0])) ∧ Below w.heap.size w w' := by
  have HG := hide hg
  have HM := hide h
  clear hg h
  go_enter Tryz.func62, Tryz.ntmps62
  go_wp2_with fail
  refine (check_bad s p b r d a0 _ ((unhide HG).below (bel_one _)).e0 (unhide HM)).mono ?_
  rintro e w1 ⟨⟨q, rfl⟩, hb⟩
  have HB := hide (bel_then (bel_one _) hb)
  clear hb
  have HX := hide (fun q' => in_chn q' [q] a0)
  obtain ⟨T, x, hx⟩ := chn_form [q] a0
  rw [hx] at HX ⊢
  clear hx
  go_wp2_with fail
  refine (unhide HX _ _).mono ?_
  rintro e w2 ⟨rfl, rfl⟩
  generalize hE : chn [_, q] a0 = E
  have HE := hide hE
  clear hE
  go_wp2_with fail
  go_ret2
  exact ⟨⟨_, ret_val (by rw [← unhide HE]; rfl)⟩, unhide HB⟩
set_option maxHeartbeats 1000000 in
theorem fmost_late (s p b r d t : Int) (a0 a1 : Addr) (w : World) (hg : Gl w a0 a1) (h : May s p b r d) (t1 : 100000 < t) :
    Calls Tryz.prog 62 #[.agg #[.int .i64 s, .int .i64 p, .int .i64 b, .int .i64 r, .int .i64 d], .int .i64 t] w fun e w' => (∃ l, e = .returned (.tuple #[.int .i64 0, chn l a0])) ∧ Below w.heap.size w w' := by
  have HG := hide hg
  have HM := hide h
  clear hg h
  go_enter Tryz.func62, Tryz.ntmps62
  go_wp2_with fail
  refine (check_ok s p b r d _ (unhide HM)).mono ?_
  rintro e w1 ⟨rfl, hb⟩
  have HB := hide (bel_then (bel_one _) hb)
  have g0 := ((unhide HG).below (unhide HB)).e0
  clear hb
  have HX := hide (fun q' => in_chn q' [] a0)
  have HX2 := hide (fun q' q => in_chn q' [q] a0)
  go_wp2_with fail
  refine (unhide HX _ _).mono ?_
  rintro e w2 ⟨rfl, rfl⟩
  generalize hE : chn [_] a0 = E
  have HE := hide hE
  clear hE
  go_wp2_with fail
  rw [← unhide HE]
  refine (unhide HX2 _ _ _).mono ?_
  rintro e w3 ⟨rfl, rfl⟩
  rw [unhide HE]
  generalize hE2 : chn [_, _] a0 = E2
  have HE2 := hide hE2
  clear hE2
  go_wp2_with fail
  go_ret2
  exact ⟨⟨_, ret_val (by rw [← unhide HE2]; rfl)⟩, unhide HB⟩
set_option maxHeartbeats 1000000 in
theorem tmost_bad (s p b r d t : Int) (a0 a1 : Addr) (w : World) (hg : Gl w a0 a1) (h : ¬ (May s p b r d ∧ t ≤ 100000)) :
    Calls Tryz.prog 43 #[.agg #[.int .i64 s, .int .i64 p, .int .i64 b, .int .i64 r, .int .i64 d], .int .i64 t] w fun e w' => e = .returned (.tuple #[.int .i64 0, .int .i64 1]) ∧ Below w.heap.size w w' := by
  have HG := hide hg
  have HF := hide (show ∀ W, Gl W a0 a1 → Calls Tryz.prog 62 #[.agg #[.int .i64 s, .int .i64 p, .int .i64 b, .int .i64 r, .int .i64 d], .int .i64 t] W fun e w' => (∃ l, e = .returned (.tuple #[.int .i64 0, chn l a0])) ∧ Below W.heap.size W w' from fun W hW => by
    by_cases hm : May s p b r d
    · exact fmost_late s p b r d t a0 a1 W hW hm (by have : ¬ t ≤ 100000 := fun ht => h ⟨hm, ht⟩; omega)
    · exact fmost_bad s p b r d t a0 a1 W hW hm)
  clear hg h
  go_enter Tryz.func43, Tryz.ntmps43
  go_wp2_with fail
  refine (unhide HF _ ((unhide HG).below (bel_one _))).mono ?_
  rintro e w1 ⟨⟨l, rfl⟩, hb⟩
  have HB := hide (bel_then (bel_one _) hb)
  clear hb
  generalize hE : chn l a0 = E
  have HE := hide hE
  clear hE
  go_wp2_with fail
  rw [← unhide HE]
  refine (errno_arg l a0 a1 _ ((unhide HG).below (unhide HB))).mono ?_
  rintro e w2 ⟨rfl, hb⟩
  have HB2 := hide (bel_then (unhide HB) hb)
  clear hb
  go_wp2_with fail
  go_ret2
  exact ⟨rfl, unhide HB2⟩
end Go.Proofs.YtcnmajndackohaaGreatDoor
