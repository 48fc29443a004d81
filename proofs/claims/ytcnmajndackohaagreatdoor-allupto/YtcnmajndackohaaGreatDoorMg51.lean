import Derived.Test.YtcnmajndackohaaGreatDoorMg50
/-
  What the law's step does at a call of a line.
-/
namespace Go.Proofs.YtcnmajndackohaaGreatDoor
open Go.RowKit
attribute [local go_sem ↓] Go.wp_at_zero Go.wp_at_succ
set_option maxRecDepth 100000 in
set_option maxHeartbeats 4000000 in
theorem step_line {W w : World} {B n m : Nat} {a : Nat → Addr} {a0 a1 : Addr} (hg : GlA W a a0 a1) (h : WI W w B n m) (hn : n ≤ 1050000) (q : Opd) (hq : q.raw) (hfl : Fls W q.lv q.l) (h4 : 4 ≤ q.kind) (h10 : q.kind ≤ 10) (hm : 0 < m) :
    Calls Tryz.prog 29 #[.pointer (some ⟨B, 0, none⟩), .agg q.cells.toArray] w fun e w' => e = .returned (.bool true) ∧ WI W w' B (n + 1) m := by
  obtain ⟨kd, qa, qb, wh, f, lv, l⟩ := q
  obtain ⟨la, lc, hlv⟩ := Fls.form hfl
  have hlv' : lv = .slice la l.length lc := hlv
  subst hlv'
  obtain ⟨ln, hln⟩ : ∃ ln, l.length = ln := ⟨_, rfl⟩
  rw [hln] at *
  have h4' : 4 ≤ kd := h4
  have h10' : kd ≤ 10 := h10
  have k1 : (kd == 1) = false := by simp; omega
  have k2 : (kd == 2) = false := by simp; omega
  have k3 : (kd == 3) = false := by simp; omega
  have hmn : m ≤ n + 2 := by
    obtain ⟨ps, qs, xs, gl, gm, il, im, o, vs, hF, _⟩ := h
    exact hF.m
  obtain ⟨a2, c2, cB⟩ := h.ls
  have hBl := World.block_lt_of_cell? _ _ cB
  have hw0 : -9223372036854775808 ≤ wh := hq.w0
  have hw1 : wh ≤ 9223372036854775807 := hq.w1
  have HQ := hide (show Opd.raw ⟨kd, qa, qb, wh, f, .slice la ln lc, l⟩ from ⟨hq.a0, hq.a1, hq.b0, hq.b1, hq.w0, hq.w1⟩)
  have HG := hide hg
  have HT := hide (fun (k : Nat) (hk : k < m) => h.take (k := k) hk)
  have hmi : 0 < (m : Int) := by omega
  have hm' : ((m : Int) == 0) = false := by simp; omega
  have hd1 : decide (kd < 1) = false := by simp; omega
  have hd2 : decide (10 < kd) = false := by simp; omega
  have cB1 : ∀ ob : Obj, (w.alloc ob).cell? ⟨B, 0, none⟩ = some (.slice a2 m c2) := fun ob => (World.cell?_alloc_past ob B 0 hBl).trans cB
  have HPk := hide (fun (W' : World) => lpick_any wh m hm (by omega) hw0 hw1 W')
  clear h hg hq hfl h4 h10 hlv hln cB
  unfold Opd.cells at *
  have hIs := Is.new w 71 #[.int .i64 kd, .int .i64 qa, .int .i64 qb, .int .i64 wh, .int .i64 f.s, .int .i64 f.p, .int .i64 f.b, .int .i64 f.r, .int .i64 f.d, .slice la ln lc]
  have x0 : (w.alloc (.cells #[.int .i64 kd, .int .i64 qa, .int .i64 qb, .int .i64 wh, .int .i64 f.s, .int .i64 f.p, .int .i64 f.b, .int .i64 f.r, .int .i64 f.d, .slice la ln lc] 71)).cell? ⟨w.heap.size, 3, none⟩ = some (.int .i64 wh) := hIs.cell (j := 3) rfl
  clear hIs
  go_enter Tryz.func29, Tryz.ntmps29
  go_wp2_with fail
  refine wp_region_held_drew (S := (fun w' : World => w'.cell? ⟨w.heap.size, 3, none⟩ = some (.int .i64 wh) ∧ w'.cell? ⟨B, 0, none⟩ = some (.slice a2 m c2))) (by kernel_rfl) ⟨x0, cB1 _⟩ (fun hHeld => ?_)
  refine wpAnyH_take (i := 0) (v := ?_) rfl (by kernel_rfl) (by kernel_rfl) (by kernel_rfl) (fun _ _ _ h => h) (Or.inl ⟨by rfl, ?_⟩) (by assumption) ?_
  rotate_left
  · intro w hSw; (try dsimp only at hSw); go_simp; (try rfl)
  (try go_frame)
  refine wpAnyH_take (i := 1) (v := ?_) rfl (by kernel_rfl) (by kernel_rfl) (by kernel_rfl) (fun _ _ _ h => h) (Or.inl ⟨by rfl, ?_⟩) (by assumption) ?_
  rotate_left
  · intro w hSw; (try dsimp only at hSw); go_simp; (try rfl)
  (try go_frame)
  refine wpAnyH_take (i := 2) (v := ?_) rfl (by kernel_rfl) (by kernel_rfl) (by kernel_rfl) (fun _ _ _ h => h) (Or.inl ⟨by rfl, ?_⟩) (by assumption) ?_
  rotate_left
  · intro w hSw; (try dsimp only at hSw); go_simp; (try rfl)
  (try go_frame)
  refine wpAnyH_take (i := 3) (v := ?_) rfl (by kernel_rfl) (by kernel_rfl) (by kernel_rfl) (fun _ _ _ h => h) (Or.inl ⟨by rfl, ?_⟩) (by assumption) ?_
  rotate_left
  · intro w hSw; (try dsimp only at hSw); go_simp; (try rfl)
  (try go_frame)
  refine wpAnyH_take (i := 4) (v := ?_) rfl (by kernel_rfl) (by kernel_rfl) (by kernel_rfl) (fun _ _ _ h => h) (Or.inl ⟨by rfl, ?_⟩) (by assumption) ?_
  rotate_left
  · intro w hSw; (try dsimp only at hSw); go_simp; (try rfl)
  (try go_frame)
  refine wpAnyH_take (i := 5) (v := ?_) rfl (by kernel_rfl) (by kernel_rfl) (by kernel_rfl) (fun _ _ _ h => h) (Or.inl ⟨by rfl, ?_⟩) (by assumption) ?_
  rotate_left
  · intro w hSw; (try dsimp only at hSw); go_simp; (try rfl)
  (try go_frame)
  refine wpAnyH_take (i := 6) (v := ?_) rfl (by kernel_rfl) (by kernel_rfl) (by kernel_rfl) (fun _ _ _ h => h) (Or.inl ⟨by rfl, ?_⟩) (by assumption) ?_
  rotate_left
  · intro w hSw; (try dsimp only at hSw); go_simp; (try rfl)
  (try go_frame)
  refine wpAnyH_ready (rs := [7]) (by kernel_rfl) (by simp) (AllReadyH.cons rfl (fun K hK => ?_) AllReadyH.nil)
  go_simp
  refine (unhide HPk _).mono ?_
  rintro e w1 ⟨k, hk, rfl, rfl⟩
  go_simp
  refine hK.out _ _ ⟨x0, cB1 _⟩ (fun hHeld => ?_)
  clear hK K
  (try go_frame)
  refine wpAnyH_take (i := 8) (v := ?_) rfl (by kernel_rfl) (by kernel_rfl) (by kernel_rfl) (fun _ _ _ h => h) (Or.inl ⟨by rfl, ?_⟩) (by assumption) ?_
  rotate_left
  · intro w hSw; (try dsimp only at hSw); go_simp; (try rfl)
  (try go_frame)
  refine wpAnyH_done (by kernel_rfl) ?_ _
  clear hHeld
  obtain ⟨vv, ps, qs, xs, gl, gm, il, im, P, Q, x, hF, e1, e2, e3, hWk⟩ := unhide HT k hk
  obtain ⟨g0, c0, g1, c1, hvv⟩ := hWk.lie hF.p hF.q hk
  subst hvv
  have hki : (k : Int) < (m : Int) := by omega
  have HSB := hide (fun (w' : World) (x y : Ln) (gl : List Value) (gm : List Int) (il : List Value) (im : List Int) (hh : Wk W w' B (.slice (some ⟨g0, 0, none⟩) m c0, .slice (some ⟨g1, 0, none⟩) m c1) ps qs xs k P Q x y gl gm il im [one 71 w.heap.size #[.int .i64 kd, .int .i64 qa, .int .i64 qb, .int .i64 wh, .int .i64 f.s, .int .i64 f.p, .int .i64 f.b, .int .i64 f.r, .int .i64 f.d, .slice la ln lc]]) => show (fun w' : World => w'.cell? ⟨B, 0, none⟩ = some (.slice (some ⟨g0, 0, none⟩) m c0) ∧ w'.cell? ⟨B, 1, none⟩ = some (.slice (some ⟨g1, 0, none⟩) m c1) ∧ w'.cell? ⟨g0, k, none⟩ = some (.pointer (some ⟨P, 0, none⟩)) ∧ w'.cell? ⟨g1, k, none⟩ = some (.pointer (some ⟨Q, 0, none⟩)) ∧ w'.cell? ⟨w.heap.size, 0, none⟩ = some (.int .i64 kd) ∧ w'.cell? ⟨w.heap.size, 1, none⟩ = some (.int .i64 qa) ∧ w'.cell? ⟨w.heap.size, 2, none⟩ = some (.int .i64 qb) ∧ w'.cell? ⟨w.heap.size, 3, none⟩ = some (.int .i64 wh) ∧ w'.cell? ⟨w.heap.size, 4, none⟩ = some (.int .i64 f.s) ∧ w'.cell? ⟨w.heap.size, 5, none⟩ = some (.int .i64 f.p) ∧ w'.cell? ⟨w.heap.size, 6, none⟩ = some (.int .i64 f.b) ∧ w'.cell? ⟨w.heap.size, 7, none⟩ = some (.int .i64 f.r) ∧ w'.cell? ⟨w.heap.size, 8, none⟩ = some (.int .i64 f.d) ∧ w'.cell? ⟨w.heap.size, 9, none⟩ = some (.slice la ln lc)) w' from ⟨(hh.read e1 e2).1, (hh.read e1 e2).2.1, (hh.read e1 e2).2.2.1, (hh.read e1 e2).2.2.2, own_cell (hh.row (List.mem_cons_self ..)) (show (#[.int .i64 kd, .int .i64 qa, .int .i64 qb, .int .i64 wh, .int .i64 f.s, .int .i64 f.p, .int .i64 f.b, .int .i64 f.r, .int .i64 f.d, .slice la ln lc] : Array Value).toList[0]? = some _ from rfl), own_cell (hh.row (List.mem_cons_self ..)) (show (#[.int .i64 kd, .int .i64 qa, .int .i64 qb, .int .i64 wh, .int .i64 f.s, .int .i64 f.p, .int .i64 f.b, .int .i64 f.r, .int .i64 f.d, .slice la ln lc] : Array Value).toList[1]? = some _ from rfl), own_cell (hh.row (List.mem_cons_self ..)) (show (#[.int .i64 kd, .int .i64 qa, .int .i64 qb, .int .i64 wh, .int .i64 f.s, .int .i64 f.p, .int .i64 f.b, .int .i64 f.r, .int .i64 f.d, .slice la ln lc] : Array Value).toList[2]? = some _ from rfl), own_cell (hh.row (List.mem_cons_self ..)) (show (#[.int .i64 kd, .int .i64 qa, .int .i64 qb, .int .i64 wh, .int .i64 f.s, .int .i64 f.p, .int .i64 f.b, .int .i64 f.r, .int .i64 f.d, .slice la ln lc] : Array Value).toList[3]? = some _ from rfl), own_cell (hh.row (List.mem_cons_self ..)) (show (#[.int .i64 kd, .int .i64 qa, .int .i64 qb, .int .i64 wh, .int .i64 f.s, .int .i64 f.p, .int .i64 f.b, .int .i64 f.r, .int .i64 f.d, .slice la ln lc] : Array Value).toList[4]? = some _ from rfl), own_cell (hh.row (List.mem_cons_self ..)) (show (#[.int .i64 kd, .int .i64 qa, .int .i64 qb, .int .i64 wh, .int .i64 f.s, .int .i64 f.p, .int .i64 f.b, .int .i64 f.r, .int .i64 f.d, .slice la ln lc] : Array Value).toList[5]? = some _ from rfl), own_cell (hh.row (List.mem_cons_self ..)) (show (#[.int .i64 kd, .int .i64 qa, .int .i64 qb, .int .i64 wh, .int .i64 f.s, .int .i64 f.p, .int .i64 f.b, .int .i64 f.r, .int .i64 f.d, .slice la ln lc] : Array Value).toList[6]? = some _ from rfl), own_cell (hh.row (List.mem_cons_self ..)) (show (#[.int .i64 kd, .int .i64 qa, .int .i64 qb, .int .i64 wh, .int .i64 f.s, .int .i64 f.p, .int .i64 f.b, .int .i64 f.r, .int .i64 f.d, .slice la ln lc] : Array Value).toList[7]? = some _ from rfl), own_cell (hh.row (List.mem_cons_self ..)) (show (#[.int .i64 kd, .int .i64 qa, .int .i64 qb, .int .i64 wh, .int .i64 f.s, .int .i64 f.p, .int .i64 f.b, .int .i64 f.r, .int .i64 f.d, .slice la ln lc] : Array Value).toList[8]? = some _ from rfl), own_cell (hh.row (List.mem_cons_self ..)) (show (#[.int .i64 kd, .int .i64 qa, .int .i64 qb, .int .i64 wh, .int .i64 f.s, .int .i64 f.p, .int .i64 f.b, .int .i64 f.r, .int .i64 f.d, .slice la ln lc] : Array Value).toList[9]? = some _ from rfl)⟩)
  have HWh := hide (hWk.hold (unhide HG) 71 #[.int .i64 kd, .int .i64 qa, .int .i64 qb, .int .i64 wh, .int .i64 f.s, .int .i64 f.p, .int .i64 f.b, .int .i64 f.r, .int .i64 f.d, .slice la ln lc])
  have HF := hide hF
  have HE1 := hide e1
  have HE2 := hide e2
  have hst := hF.st x (List.mem_of_getElem? e3)
  have HC := hide (fun (W' : World) (hb : Below (w.alloc (.cells #[.int .i64 kd, .int .i64 qa, .int .i64 qb, .int .i64 wh, .int .i64 f.s, .int .i64 f.p, .int .i64 f.b, .int .i64 f.r, .int .i64 f.d, .slice la ln lc] 71)).heap.size (w.alloc (.cells #[.int .i64 kd, .int .i64 qa, .int .i64 qb, .int .i64 wh, .int .i64 f.s, .int .i64 f.p, .int .i64 f.b, .int .i64 f.r, .int .i64 f.d, .slice la ln lc] 71)) W') => calls_any (unhide HG) ((unhide HWh).below (unhide HG) hb) hst (by omega) hF.g hF.i (by have := hF.g4; omega) (by have := hF.i8; omega) ⟨kd, qa, qb, wh, f, .slice la ln lc, l⟩ (unhide HQ) h4' h10')
  clear hWk hF e1 e2 e3 hst x0 cB1 HT HPk HQ
  go_wp2_with fail
  refine wp_region_held_drew (S := (fun w' : World => w'.cell? ⟨B, 0, none⟩ = some (.slice (some ⟨g0, 0, none⟩) m c0) ∧ w'.cell? ⟨B, 1, none⟩ = some (.slice (some ⟨g1, 0, none⟩) m c1) ∧ w'.cell? ⟨g0, k, none⟩ = some (.pointer (some ⟨P, 0, none⟩)) ∧ w'.cell? ⟨g1, k, none⟩ = some (.pointer (some ⟨Q, 0, none⟩)) ∧ w'.cell? ⟨w.heap.size, 0, none⟩ = some (.int .i64 kd) ∧ w'.cell? ⟨w.heap.size, 1, none⟩ = some (.int .i64 qa) ∧ w'.cell? ⟨w.heap.size, 2, none⟩ = some (.int .i64 qb) ∧ w'.cell? ⟨w.heap.size, 3, none⟩ = some (.int .i64 wh) ∧ w'.cell? ⟨w.heap.size, 4, none⟩ = some (.int .i64 f.s) ∧ w'.cell? ⟨w.heap.size, 5, none⟩ = some (.int .i64 f.p) ∧ w'.cell? ⟨w.heap.size, 6, none⟩ = some (.int .i64 f.b) ∧ w'.cell? ⟨w.heap.size, 7, none⟩ = some (.int .i64 f.r) ∧ w'.cell? ⟨w.heap.size, 8, none⟩ = some (.int .i64 f.d) ∧ w'.cell? ⟨w.heap.size, 9, none⟩ = some (.slice la ln lc))) (by kernel_rfl) (unhide HSB _ x x gl gm il im ((unhide HWh).below (unhide HG) ((Below.refl _ _).drew).drew)) (fun hHeld => ?_)
  refine wpAnyH_take (i := 0) (v := ?_) rfl (by kernel_rfl) (by kernel_rfl) (by kernel_rfl) (fun _ _ _ h => h) (Or.inl ⟨by rfl, ?_⟩) (by assumption) ?_
  rotate_left
  · intro w hSw; (try dsimp only at hSw); go_simp; (try rfl)
  (try go_frame)
  refine wpAnyH_take (i := 1) (v := ?_) rfl (by kernel_rfl) (by kernel_rfl) (by kernel_rfl) (fun _ _ _ h => h) (Or.inl ⟨by rfl, ?_⟩) (by assumption) ?_
  rotate_left
  · intro w hSw; (try dsimp only at hSw); go_simp; (try rfl)
  (try go_frame)
  refine wpAnyH_take (i := 2) (v := ?_) rfl (by kernel_rfl) (by kernel_rfl) (by kernel_rfl) (fun _ _ _ h => h) (Or.inl ⟨by rfl, ?_⟩) (by assumption) ?_
  rotate_left
  · intro w hSw; (try dsimp only at hSw); go_simp; (try rfl)
  (try go_frame)
  refine wpAnyH_take (i := 3) (v := ?_) rfl (by kernel_rfl) (by kernel_rfl) (by kernel_rfl) (fun _ _ _ h => h) (Or.inl ⟨by rfl, ?_⟩) (by assumption) ?_
  rotate_left
  · intro w hSw; (try dsimp only at hSw); go_simp; (try rfl)
  (try go_frame)
  refine wpAnyH_take (i := 4) (v := ?_) rfl (by kernel_rfl) (by kernel_rfl) (by kernel_rfl) (fun _ _ _ h => h) (Or.inl ⟨by rfl, ?_⟩) (by assumption) ?_
  rotate_left
  · intro w hSw; (try dsimp only at hSw); go_simp; (try rfl)
  (try go_frame)
  refine wpAnyH_take (i := 5) (v := ?_) rfl (by kernel_rfl) (by kernel_rfl) (by kernel_rfl) (fun _ _ _ h => h) (Or.inl ⟨by rfl, ?_⟩) (by assumption) ?_
  rotate_left
  · intro w hSw; (try dsimp only at hSw); go_simp; (try rfl)
  (try go_frame)
  refine wpAnyH_take (i := 6) (v := ?_) rfl (by kernel_rfl) (by kernel_rfl) (by kernel_rfl) (fun _ _ _ h => h) (Or.inl ⟨by rfl, ?_⟩) (by assumption) ?_
  rotate_left
  · intro w hSw; (try dsimp only at hSw); go_simp; (try rfl)
  (try go_frame)
  refine wpAnyH_take (i := 7) (v := ?_) rfl (by kernel_rfl) (by kernel_rfl) (by kernel_rfl) (fun _ _ _ h => h) (Or.inl ⟨by rfl, ?_⟩) (by assumption) ?_
  rotate_left
  · intro w hSw; (try dsimp only at hSw); go_simp; (try rfl)
  (try go_frame)
  refine wpAnyH_take (i := 8) (v := ?_) rfl (by kernel_rfl) (by kernel_rfl) (by kernel_rfl) (fun _ _ _ h => h) (Or.inl ⟨by rfl, ?_⟩) (by assumption) ?_
  rotate_left
  · intro w hSw; (try dsimp only at hSw); go_simp; (try rfl)
  (try go_frame)
  refine wpAnyH_take (i := 9) (v := ?_) rfl (by kernel_rfl) (by kernel_rfl) (by kernel_rfl) (fun _ _ _ h => h) (Or.inl ⟨by rfl, ?_⟩) (by assumption) ?_
  rotate_left
  · intro w hSw; (try dsimp only at hSw); go_simp; (try rfl)
  (try go_frame)
  refine wpAnyH_take (i := 10) (v := ?_) rfl (by kernel_rfl) (by kernel_rfl) (by kernel_rfl) (fun _ _ _ h => h) (Or.inl ⟨by rfl, ?_⟩) (by assumption) ?_
  rotate_left
  · intro w hSw; (try dsimp only at hSw); go_simp; (try rfl)
  (try go_frame)
  refine wpAnyH_take (i := 11) (v := ?_) rfl (by kernel_rfl) (by kernel_rfl) (by kernel_rfl) (fun _ _ _ h => h) (Or.inl ⟨by rfl, ?_⟩) (by assumption) ?_
  rotate_left
  · intro w hSw; (try dsimp only at hSw); go_simp; (try rfl)
  (try go_frame)
  refine wpAnyH_take (i := 12) (v := ?_) rfl (by kernel_rfl) (by kernel_rfl) (by kernel_rfl) (fun _ _ _ h => h) (Or.inl ⟨by rfl, ?_⟩) (by assumption) ?_
  rotate_left
  · intro w hSw; (try dsimp only at hSw); go_simp; (try rfl)
  (try go_frame)
  refine wpAnyH_take (i := 13) (v := ?_) rfl (by kernel_rfl) (by kernel_rfl) (by kernel_rfl) (fun _ _ _ h => h) (Or.inl ⟨by rfl, ?_⟩) (by assumption) ?_
  rotate_left
  · intro w hSw; (try dsimp only at hSw); go_simp; (try rfl)
  (try go_frame)
  refine wpAnyH_take (i := 14) (v := ?_) rfl (by kernel_rfl) (by kernel_rfl) (by kernel_rfl) (fun _ _ _ h => h) (Or.inl ⟨by rfl, ?_⟩) (by assumption) ?_
  rotate_left
  · intro w hSw; (try dsimp only at hSw); go_simp; (try rfl)
  (try go_frame)
  refine wpAnyH_take (i := 15) (v := ?_) rfl (by kernel_rfl) (by kernel_rfl) (by kernel_rfl) (fun _ _ _ h => h) (Or.inl ⟨by rfl, ?_⟩) (by assumption) ?_
  rotate_left
  · intro w hSw; (try dsimp only at hSw); go_simp; (try rfl)
  (try go_frame)
  refine wpAnyH_ready (rs := [16]) (by kernel_rfl) (by simp) (AllReadyH.cons rfl (fun K hK => ?_) AllReadyH.nil)
  go_simp
  refine (unhide HC _ ((Below.refl _ _).drew).drew).mono ?_
  rintro e w2 ⟨rfl, x', gl', gm', il', im', hW2, hs2, l1, l2, l3, l4⟩
  have hS2 := unhide HSB w2 x' x' gl' gm' il' im' hW2
  have HWI := hide (hW2.back (unhide HF) (unhide HE1) (unhide HE2) hk hs2 l1 l2 l3 l4)
  clear hW2 hs2 l1 l2 l3 l4
  go_simp
  refine hK.out _ _ hS2 (fun hHeld => ?_)
  clear hK K
  (try go_frame)
  refine wpAnyH_ready (rs := [17]) (by kernel_rfl) (by simp) (AllReadyH.cons rfl (fun K hK => ?_) AllReadyH.nil)
  go_simp
  refine hK.out _ _ hS2 (fun hHeld => ?_)
  clear hK K hS2
  refine wpAnyH_done (by kernel_rfl) ?_ _
  clear hHeld
  go_wp2_with fail
  go_ret
  exact ⟨rfl, unhide HWI⟩
/-- A step, whatever it is. -/
theorem step_W {W w : World} {B n m : Nat} {a : Nat → Addr} {a0 a1 : Addr} (hg : GlA W a a0 a1) (h : WI W w B n m) (hn : n ≤ 1050000) (q : Opd) (hq : q.raw) (hfl : Fls W q.lv q.l) (hl : q.l.length * 40 ≤ 140737488351232) :
    Calls Tryz.prog 29 #[.pointer (some ⟨B, 0, none⟩), .agg q.cells.toArray] w fun e w' => e = .returned (.bool true) ∧ ∃ m', WI W w' B (n + 1) m' := by
  by_cases h12 : q.kind = 1 ∨ q.kind = 2
  · exact (step_flows hg h q h12 hfl hl).mono fun e w' ⟨e1, e2⟩ => ⟨e1, m, e2.mono (Nat.le_succ _)⟩
  · by_cases h3 : q.kind = 3
    · exact step_news hg h hn q h3 hfl hl
    · by_cases hi : q.idle m
      · exact (step_idle hg h q (fun c => h12 (.inl c)) (fun c => h12 (.inr c)) h3 hi).mono fun e w' ⟨e1, e2⟩ => ⟨e1, m, e2.mono (Nat.le_succ _)⟩
      · unfold Opd.idle at hi
        exact (step_line hg h hn q hq hfl (by omega) (by omega) (by omega)).mono fun e w' ⟨e1, e2⟩ => ⟨e1, m, e2⟩
end Go.Proofs.YtcnmajndackohaaGreatDoor
