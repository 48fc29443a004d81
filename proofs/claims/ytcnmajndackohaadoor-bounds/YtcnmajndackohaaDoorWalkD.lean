/-
  What Bounds answers: true.
-/
import Derived.Test.YtcnmajndackohaaDoorWalkC
namespace Go.Proofs.YtcnmajndackohaaDoor
open Go.RowKit
attribute [local go_sem ↓] Go.wp_at_zero Go.wp_at_succ

theorem held_below {w0 W w1 : World} {k : Nat} {c0 c1 c2 c3 c4 : Value} (hb : Below W.heap.size W w1)
    (h : (W).cell? ⟨k, 0, none⟩ = some c0 ∧ (W).cell? ⟨k, 1, none⟩ = some c1 ∧ (W).cell? ⟨k, 2, none⟩ = some c2 ∧ (W).cell? ⟨k, 3, none⟩ = some c3 ∧ (W).cell? ⟨k, 4, none⟩ = some c4 ∧ Sts (W) ∧ k < (W).heap.size ∧ Below w0.heap.size w0 (W)) :
    (w1).cell? ⟨k, 0, none⟩ = some c0 ∧ (w1).cell? ⟨k, 1, none⟩ = some c1 ∧ (w1).cell? ⟨k, 2, none⟩ = some c2 ∧ (w1).cell? ⟨k, 3, none⟩ = some c3 ∧ (w1).cell? ⟨k, 4, none⟩ = some c4 ∧ Sts (w1) ∧ k < (w1).heap.size ∧ Below w0.heap.size w0 (w1) := by
  obtain ⟨h0, h1, h2, h3, h4, h5, h8, h9⟩ := h
  obtain ⟨hc, _⟩ := bcell hb
  have := hb.size
  exact ⟨(hc _ _ h8).trans h0, (hc _ _ h8).trans h1, (hc _ _ h8).trans h2, (hc _ _ h8).trans h3, (hc _ _ h8).trans h4, h5.below hb, by omega, h9.trans (hb.mono h9.size)⟩

theorem held_drew {w0 W : World} {k : Nat} {c0 c1 c2 c3 c4 : Value}
    (h : (W).cell? ⟨k, 0, none⟩ = some c0 ∧ (W).cell? ⟨k, 1, none⟩ = some c1 ∧ (W).cell? ⟨k, 2, none⟩ = some c2 ∧ (W).cell? ⟨k, 3, none⟩ = some c3 ∧ (W).cell? ⟨k, 4, none⟩ = some c4 ∧ Sts (W) ∧ k < (W).heap.size ∧ Below w0.heap.size w0 (W)) :
    (W.drew).cell? ⟨k, 0, none⟩ = some c0 ∧ (W.drew).cell? ⟨k, 1, none⟩ = some c1 ∧ (W.drew).cell? ⟨k, 2, none⟩ = some c2 ∧ (W.drew).cell? ⟨k, 3, none⟩ = some c3 ∧ (W.drew).cell? ⟨k, 4, none⟩ = some c4 ∧ Sts (W.drew) ∧ k < (W.drew).heap.size ∧ Below w0.heap.size w0 (W.drew) := by
  obtain ⟨h0, h1, h2, h3, h4, h5, h8, h9⟩ := h
  exact ⟨h0, h1, h2, h3, h4, h5, h8, h9.drew⟩

theorem held_new {w0 w1 : World} {t : TypeId} {c0 c1 c2 c3 c4 : Value} (h2 : Sts w1) (hb : Below w0.heap.size w0 w1) :
    ((w1.alloc (.cells #[c0, c1, c2, c3, c4] t)).drew).cell? ⟨w1.heap.size, 0, none⟩ = some c0 ∧ ((w1.alloc (.cells #[c0, c1, c2, c3, c4] t)).drew).cell? ⟨w1.heap.size, 1, none⟩ = some c1 ∧ ((w1.alloc (.cells #[c0, c1, c2, c3, c4] t)).drew).cell? ⟨w1.heap.size, 2, none⟩ = some c2 ∧ ((w1.alloc (.cells #[c0, c1, c2, c3, c4] t)).drew).cell? ⟨w1.heap.size, 3, none⟩ = some c3 ∧ ((w1.alloc (.cells #[c0, c1, c2, c3, c4] t)).drew).cell? ⟨w1.heap.size, 4, none⟩ = some c4 ∧ Sts ((w1.alloc (.cells #[c0, c1, c2, c3, c4] t)).drew) ∧ w1.heap.size < ((w1.alloc (.cells #[c0, c1, c2, c3, c4] t)).drew).heap.size ∧ Below w0.heap.size w0 ((w1.alloc (.cells #[c0, c1, c2, c3, c4] t)).drew) := by
  refine held_drew ⟨?_, ?_, ?_, ?_, ?_, h2.below ((Below.refl _ _).alloc (Nat.le_refl _) _), ?_, hb.alloc hb.size _⟩
  · exact World.cell?_alloc_new _ _ _ 0
  · exact World.cell?_alloc_new _ _ _ 1
  · exact World.cell?_alloc_new _ _ _ 2
  · exact World.cell?_alloc_new _ _ _ 3
  · exact World.cell?_alloc_new _ _ _ 4
  · show _ < (w1.alloc _).heap.size; simp

theorem kmost_K (w0 : World) (k : Nat) (s p b r d t : Int) (w : World) (c0 c1 c2 c3 c4 : Value)
    (h : (w).cell? ⟨k, 0, none⟩ = some c0 ∧ (w).cell? ⟨k, 1, none⟩ = some c1 ∧ (w).cell? ⟨k, 2, none⟩ = some c2 ∧ (w).cell? ⟨k, 3, none⟩ = some c3 ∧ (w).cell? ⟨k, 4, none⟩ = some c4 ∧ Sts (w) ∧ k < (w).heap.size ∧ Below w0.heap.size w0 (w))
    (hm : May s p b r d) (t1 : t ≤ 100000) :
    Calls Tryd.prog 7 #[.agg #[.int .i64 s, .int .i64 p, .int .i64 b, .int .i64 r, .int .i64 d], .int .i64 t] w fun e w' => e = .returned (.int .i64 (allow s p b r t)) ∧ Below w.heap.size w w' :=
  kmost_ok s p b r d t w h.2.2.2.2.2.1 hm t1

set_option maxHeartbeats 4000000 in
theorem bounds_any (rs rp rb rr rd a b : Int) (w : World) (hst : Sts w)
    (hs : R64 rs) (hp : R64 rp) (hb : R64 rb) (hr : R64 rr) (hd : R64 rd) (ha : R64 a) (hbb : R64 b) :
    Calls Tryd.prog 3 #[.agg #[.int .i64 rs, .int .i64 rp, .int .i64 rb, .int .i64 rr, .int .i64 rd], .int .i64 a, .int .i64 b] w fun e w' => e = .returned (.bool true) ∧ Below w.heap.size w w' := by
  have fl := flow_any rs rp rb rr rd
  have hm := may_flow rs rp rb rr rd
  generalize 2 + pk rs 7 = S at *
  generalize pk rr 13 = R at *
  generalize S + pk rb (31 - S) = B at *
  generalize R + pk rp (13 - R) = P at *
  generalize S + pk rd (101 - S) = D at *
  have pa := pick_any a 2000
  have pb := pick_any b 2000
  have a0 := pk_nonneg a 2000 (by decide)
  have a1 := pk_lt a 2000 (by decide)
  have b0 := pk_nonneg b 2000 (by decide)
  have b1 := pk_lt b 2000 (by decide)
  generalize pk a 2000 = x at *
  generalize pk b 2000 = y at *
  have FL := hide fl
  have HSt := hide hst
  have PA := hide pa
  have PB := hide pb
  have HM := hide hm
  clear fl pa pb hm hst
  have e1 : IntKind.i64.wrap (x + y) = x + y := by go_arith
  have e2 : IntKind.i64.wrap (x + 1) = x + 1 := by go_arith
  have e3 : IntKind.i64.wrap (-1 - x) = -1 - x := by go_arith
  go_enter Tryd.func3, Tryd.ntmps3
  go_wp2_with fail
  refine (unhide FL _ hs hp hb hr hd).mono ?_
  rintro e w1 ⟨rfl, hb1⟩
  obtain ⟨hc, hf⟩ := bcell hb1
  have hz : w.heap.size < w1.heap.size := by have := hb1.size; simp at this; omega
  have hB1 : Below w.heap.size w w1 := ((Below.refl _ _).alloc (Nat.le_refl _) _).trans (hb1.mono (by simp))
  have k0 := hide ((unhide HSt).below hB1)
  clear hc hf hb1
  go_wp2_with fail
  refine (unhide PA _ ha.lo ha.hi (by decide) (by decide)).mono ?_
  rintro e w2 ⟨rfl, rfl⟩
  go_wp2_with fail
  refine (unhide PB _ hbb.lo hbb.hi (by decide) (by decide)).mono ?_
  rintro e w2 ⟨rfl, rfl⟩
  go_wp2_with fail
  go_region_held3 (fun w' => w'.cell? ⟨w1.heap.size, 0, none⟩ = some (.int .i64 S) ∧ w'.cell? ⟨w1.heap.size, 1, none⟩ = some (.int .i64 P) ∧ w'.cell? ⟨w1.heap.size, 2, none⟩ = some (.int .i64 B) ∧ w'.cell? ⟨w1.heap.size, 3, none⟩ = some (.int .i64 R) ∧ w'.cell? ⟨w1.heap.size, 4, none⟩ = some (.int .i64 D) ∧ Sts w' ∧ w1.heap.size < w'.heap.size ∧ Below w.heap.size w w')
    (first | exact held_below (by assumption) (by assumption) | exact held_new (unhide k0) hB1)
    (first | (go_at_call 7; refine (kmost_K w w1.heap.size S P B R D _ _ _ _ _ _ _ (by assumption) (unhide HM) (by omega)).mono ?_; rintro e w' ⟨rfl, hb'⟩))
  rename_i hH
  go_wp2_with fail
  go_region_held3 (fun w' => w'.cell? ⟨w1.heap.size, 0, none⟩ = some (.int .i64 S) ∧ w'.cell? ⟨w1.heap.size, 1, none⟩ = some (.int .i64 P) ∧ w'.cell? ⟨w1.heap.size, 2, none⟩ = some (.int .i64 B) ∧ w'.cell? ⟨w1.heap.size, 3, none⟩ = some (.int .i64 R) ∧ w'.cell? ⟨w1.heap.size, 4, none⟩ = some (.int .i64 D) ∧ Sts w' ∧ w1.heap.size < w'.heap.size ∧ Below w.heap.size w w')
    (first | exact held_below (by assumption) (by assumption) | exact held_drew hH)
    (first | (go_at_call 7; refine (kmost_K w w1.heap.size S P B R D _ _ _ _ _ _ _ (by assumption) (unhide HM) (by omega)).mono ?_; rintro e w' ⟨rfl, hb'⟩))
  rename_i hH2
  rw [allow_zero (unhide HM), allow_neg S P B R (-1 - x) (by omega)]
  obtain ⟨m0, m1, m2, m3, m4, m5', m8, m9⟩ := hH2
  have m5 := hide m5'
  clear hH m5'
  have may := unhide HM
  obtain ⟨s0, s1, bb0, bb1, r0, p0, p1, d0, d1⟩ := may
  have A1 := allow_one (unhide HM) a0
  have A2 := allow_twelve (unhide HM) a0
  have A3 := allow_sum (unhide HM) a0 b0
  have A4 := allow_rate (unhide HM) a0
  have A5 := allow_rate (unhide HM) b0
  have c1 : 0 ≤ P * x := Int.mul_nonneg (by omega) a0
  have c2 : P * x ≤ 24000 := by have := Int.mul_le_mul p1 (show x ≤ 2000 by omega) a0 (by decide); omega
  have c3 : 0 ≤ R * x := Int.mul_nonneg (by omega) a0
  have c4 : R * x ≤ 24000 := by have := Int.mul_le_mul (show R ≤ 12 by omega) (show x ≤ 2000 by omega) a0 (by decide); omega
  have c5 : R * y ≤ 24000 := by have := Int.mul_le_mul (show R ≤ 12 by omega) (show y ≤ 2000 by omega) b0 (by decide); omega
  clear hb'
  go_wp2_with fail
  refine (kmost_ok S P B R D (x + 12) _ (unhide m5) (unhide HM) (by omega)).mono ?_
  rintro e w3 ⟨rfl, hb3⟩
  obtain ⟨hc, hf⟩ := bcell hb3
  have n0 := (hc _ 0 m8).trans m0
  have n1 := (hc _ 1 m8).trans m1
  have n2 := (hc _ 2 m8).trans m2
  have n3 := (hc _ 3 m8).trans m3
  have m9' := m9.trans (hb3.mono m9.size)
  clear hc hf hb3 m0 m1 m2 m3 m4 m5 m8 e1 e2 e3
  generalize allow S P B R (x + 12) = t12 at *
  generalize allow S P B R (x + 1) = t1 at *
  generalize allow S P B R (x + y) = ts at *
  generalize allow S P B R x = tx at *
  generalize allow S P B R y = ty at *
  obtain ⟨A1a, A1b⟩ := A1
  obtain ⟨A2a, A2b⟩ := A2
  obtain ⟨A3a, A3b, A3c⟩ := A3
  obtain ⟨A4a, A4b, A4c⟩ := A4
  obtain ⟨A5a, A5b, A5c⟩ := A5
  have c6 : R * y / 12 ≤ 2000 := by omega
  have c7 : R * x / 12 ≤ 2000 := by omega
  go_wp2_with fail
  go_ret
  exact ⟨rfl, m9'⟩
end Go.Proofs.YtcnmajndackohaaDoor
