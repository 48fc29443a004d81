/-
  What flow does: one that may be, out of raw numbers.
-/
import Derived.Test.YtcnmajndackohaaDoorWalkP
import Derived.Test.YtcnmajndackohaaDoorNum
import Derived.Deep.DrawnRows
namespace Go.Proofs.YtcnmajndackohaaDoor
open Go.RowKit
attribute [local go_sem ↓] Go.wp_at_zero Go.wp_at_succ

theorem may_flow (s p b r d : Int) : May (2 + pk s 7) (pk r 13 + pk p (13 - pk r 13)) (2 + pk s 7 + pk b (31 - (2 + pk s 7))) (pk r 13) (2 + pk s 7 + pk d (101 - (2 + pk s 7))) := by
  have a0 := pk_nonneg s 7 (by decide)
  have a1 := pk_lt s 7 (by decide)
  have q0 := pk_nonneg r 13 (by decide)
  have q1 := pk_lt r 13 (by decide)
  have u0 := pk_nonneg b (31 - (2 + pk s 7)) (by omega)
  have u1 := pk_lt b (31 - (2 + pk s 7)) (by omega)
  have x0 := pk_nonneg p (13 - pk r 13) (by omega)
  have x1 := pk_lt p (13 - pk r 13) (by omega)
  have y0 := pk_nonneg d (101 - (2 + pk s 7)) (by omega)
  have y1 := pk_lt d (101 - (2 + pk s 7)) (by omega)
  constructor <;> omega

set_option maxHeartbeats 2000000 in
theorem flow_any (s p b r d : Int) (w : World) (hs : R64 s) (hp : R64 p) (hb : R64 b) (hr : R64 r) (hd : R64 d) :
    Calls Tryd.prog 5 #[.agg #[.int .i64 s, .int .i64 p, .int .i64 b, .int .i64 r, .int .i64 d]] w fun e w' => e = .returned (.agg #[.int .i64 (2 + pk s 7), .int .i64 (pk r 13 + pk p (13 - pk r 13)), .int .i64 (2 + pk s 7 + pk b (31 - (2 + pk s 7))), .int .i64 (pk r 13), .int .i64 (2 + pk s 7 + pk d (101 - (2 + pk s 7)))]) ∧ Below w.heap.size w w' := by
  obtain ⟨s0, s1⟩ := hs
  obtain ⟨p0, p1⟩ := hp
  obtain ⟨b0, b1⟩ := hb
  obtain ⟨r0, r1⟩ := hr
  obtain ⟨d0, d1⟩ := hd
  have a0 := pk_nonneg s 7 (by decide)
  have a1 := pk_lt s 7 (by decide)
  have q0 := pk_nonneg r 13 (by decide)
  have q1 := pk_lt r 13 (by decide)
  have u0 := pk_nonneg b (31 - (2 + pk s 7)) (by omega)
  have u1 := pk_lt b (31 - (2 + pk s 7)) (by omega)
  have x0 := pk_nonneg p (13 - pk r 13) (by omega)
  have x1 := pk_lt p (13 - pk r 13) (by omega)
  have y0 := pk_nonneg d (101 - (2 + pk s 7)) (by omega)
  have y1 := pk_lt d (101 - (2 + pk s 7)) (by omega)
  go_enter Tryd.func5, Tryd.ntmps5
  go_wp2_with fail
  refine (pick_any s 7 _ s0 s1 (by decide) (by decide)).mono ?_
  rintro e w' ⟨rfl, rfl⟩
  go_wp2_with fail
  have S0 : 2 ≤ 2 + pk s 7 := by omega
  have S1 : 2 + pk s 7 ≤ 8 := by omega
  clear a0 a1 s0 s1
  generalize hS : 2 + pk s 7 = S at *
  generalize hB : pk b (31 - S) = B at *
  generalize hR : pk r 13 = R at *
  generalize hP : pk p (13 - R) = P at *
  generalize hD : pk d (101 - S) = D at *
  have HS : Hid (2 + pk s 7 = S) := hS
  have HB : Hid (pk b (31 - S) = B) := hB
  have HR : Hid (pk r 13 = R) := hR
  have HP : Hid (pk p (13 - R) = P) := hP
  have HD : Hid (pk d (101 - S) = D) := hD
  have e1 : IntKind.i64.wrap (31 - S) = 31 - S := by go_arith
  have e2 : IntKind.i64.wrap (S + B) = S + B := by go_arith
  have e3 : IntKind.i64.wrap (13 - R) = 13 - R := by go_arith
  have e4 : IntKind.i64.wrap (R + P) = R + P := by go_arith
  have e5 : IntKind.i64.wrap (101 - S) = 101 - S := by go_arith
  have e6 : IntKind.i64.wrap (S + D) = S + D := by go_arith
  clear hS hB hR hP hD
  go_region_held3 (fun w' => w'.cell? ⟨w.heap.size, 2, none⟩ = some (.int .i64 b) ∧ w'.cell? ⟨w.heap.size + 1 + 1, 0, none⟩ = some (.int .i64 S)) (simp [go_sem])
    (first | (go_at_call 6; refine (pick_any b (31 - S) _ b0 b1 (by omega) (by omega)).mono ?_; rintro e w' ⟨rfl, rfl⟩; rw [HB.out]))
  go_wp2_with fail
  refine (pick_any r 13 _ r0 r1 (by decide) (by decide)).mono ?_
  rintro e w' ⟨rfl, rfl⟩
  rw [HR.out]
  go_wp2_with fail
  go_region_held3 (fun w' => w'.cell? ⟨w.heap.size, 1, none⟩ = some (.int .i64 p) ∧ w'.cell? ⟨w.heap.size + 1 + 1, 3, none⟩ = some (.int .i64 R)) (simp [go_sem])
    (first | (go_at_call 6; refine (pick_any p (13 - R) _ p0 p1 (by omega) (by omega)).mono ?_; rintro e w' ⟨rfl, rfl⟩; rw [HP.out]))
  go_wp2_with fail
  go_region_held3 (fun w' => w'.cell? ⟨w.heap.size, 4, none⟩ = some (.int .i64 d) ∧ w'.cell? ⟨w.heap.size + 1 + 1, 0, none⟩ = some (.int .i64 S)) (simp [go_sem])
    (first | (go_at_call 6; refine (pick_any d (101 - S) _ d0 d1 (by omega) (by omega)).mono ?_; rintro e w' ⟨rfl, rfl⟩; rw [HD.out]))
  go_wp2_with fail
  refine bodyPost_ret (v := .agg #[.int .i64 S, .int .i64 (R + P), .int .i64 (S + B), .int .i64 R, .int .i64 (S + D)]) (by simp [results, Tryd.results5, go_sem]) rfl ⟨?_, ?_⟩
  · rw [HS.out, HB.out, HR.out, HP.out, HD.out]
  · go_grown
end Go.Proofs.YtcnmajndackohaaDoor
